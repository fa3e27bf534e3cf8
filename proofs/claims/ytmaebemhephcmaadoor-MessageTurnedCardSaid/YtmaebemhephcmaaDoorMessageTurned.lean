/- The bytes of a message with one bit turned, cut off anywhere, or with something behind them, are refused. Conditions: none but those of the card: the table of the fields is as the text lays it. -/
import Derived.Test.YtmaebemhephcmaaDoorRows
import Derived.Test.YtmaebemhephcmaaDoorCards
import Derived.Test.YtmaebemhephcmaaDoorTie
import Derived.Test.YtmaebemhephcmaaDoorMsDoor
import Derived.SevenTiedAt
import Derived.LaidMore
import Derived.LaidLaws
import Derived.Handed
import Derived.Stop.Joined
import Derived.Test.YtmaebemhephcmaaDoorMsLaw
import Derived.Test.YtmaebemhephcmaaDoorMsMath5
import Derived.Test.YtmaebemhephcmaaDoorKitPick
import Derived.WalkKit
import Derived.WalkLawsBesides
import Derived.ProofKit
import Derived.OpenShut
import Derived.ShutString
import Derived.ChangeOld
import Derived.Below
import Derived.SizedLaws
namespace Go.Proofs.YtmaebemhephcmaaDoor.messageTurned
open Go.ChangeShapes Go.WideShapes Go.ChangeAt Go.RowKit
open Go.ChangeMaps (open_string shut_string)
set_option linter.unusedVariables false

theorem own : ownKnob Tryd.prog.godebug = none := by kernel_rfl
theorem laidOut : laidOutB Tryd.prog = true := by kernel_rfl

attribute [local go_sem ↓] Ms.loadAt_msg Ms.storeAt_msg
theorem flip_val (c j : Nat) (hc : c < 256) (hj : j < 8) : bits .xor .u8 (c : Int) ((2 : Int) ^ j % 256) = ((c ^^^ 2 ^ j : Nat) : Int) := by
  have h2 : 2 ^ j < 2 ^ 8 := Nat.pow_lt_pow_right (by decide) hj
  have e : ((2 : Int) ^ j % 256) = ((2 ^ j : Nat) : Int) := by
    rw [Int.emod_eq_of_lt (Int.le_of_lt (Int.pow_pos (by decide)))]
    · simp
    · have : ((2 ^ j : Nat) : Int) < 256 := by omega
      simpa using this
  rw [e]
  exact u8_xor_nat c (2 ^ j) hc (by omega)
/-- a message that Get tells, laid into a box of its own -/
theorem box_st (w : World) (m : Ms.M) (A : Option Addr) (c : Nat) (A' : Option Addr) (c' : Nat) (w' : World) (h : w' = w.alloc (.cells #[.int .i64 m.K, .int .i64 m.F, .int .i64 m.T, .int .i64 m.g, .int .i64 m.t, .int .i64 m.i, .int .i64 m.p, .int .i64 m.c, .int .i64 m.r, .int .i64 m.x, .int .i64 m.a, .int .i64 m.b, .int .i64 m.v, .int .i64 m.s, .bool m.ok, .slice A m.es.length c, .slice A' m.d.length c'] 25)) : (Ms.stMsg (.pointer (some ⟨w.heap.size, 0, none⟩)) (.agg #[.int .i64 m.K, .int .i64 m.F, .int .i64 m.T, .int .i64 m.g, .int .i64 m.t, .int .i64 m.i, .int .i64 m.p, .int .i64 m.c, .int .i64 m.r, .int .i64 m.x, .int .i64 m.a, .int .i64 m.b, .int .i64 m.v, .int .i64 m.s, .bool m.ok, .slice A m.es.length c, .slice A' m.d.length c'])).run Tryd.prog (w.alloc (.cells #[.int .i64 0, .int .i64 0, .int .i64 0, .int .i64 0, .int .i64 0, .int .i64 0, .int .i64 0, .int .i64 0, .int .i64 0, .int .i64 0, .int .i64 0, .int .i64 0, .int .i64 0, .int .i64 0, .bool false, .slice none 0 0, .slice none 0 0] 25)) = .ok () w' ∧ Below w.heap.size w w' := by
  rw [h]
  exact ⟨Ms.st_new w _ _ rfl rfl (Ms.msg_one m A c A' c'), (Below.refl _ w).alloc (Nat.le_refl _) _⟩
open Ms in
set_option maxRecDepth 100000 in
set_option maxHeartbeats 3200000 in
theorem walk (m : Ms.M) (A : Option Addr) (c : Nat) (A' : Option Addr) (c' : Nat) (a1 a2 : Int) (a3 : Nat) (w : World) (T : Ms.Tab w) (k0 : Ms.Is w w.heap.size m A c A' c') (b1 : -9223372036854775808 ≤ a1 ∧ a1 ≤ 9223372036854775807) (b2 : -9223372036854775808 ≤ a2 ∧ a2 ≤ 9223372036854775807) (b3 : a3 < 256) :
    Calls Tryd.prog 8 #[.agg #[.int .i64 m.K, .int .i64 m.F, .int .i64 m.T, .int .i64 m.g, .int .i64 m.t, .int .i64 m.i, .int .i64 m.p, .int .i64 m.c, .int .i64 m.r, .int .i64 m.x, .int .i64 m.a, .int .i64 m.b, .int .i64 m.v, .int .i64 m.s, .bool m.ok, .slice A m.es.length c, .slice A' m.d.length c'], .int .i64 a1, .int .i64 a2, .int .u8 a3] w fun e w' => e = .returned (.bool true) ∧ Below w.heap.size w w' := by
  obtain ⟨i0, hi, hz0, hz1, hz2⟩ := info_parts info_u8
  obtain ⟨w1, hw1⟩ : ∃ w1, w1 = w.alloc (.cells #[.int .i64 m.K, .int .i64 m.F, .int .i64 m.T, .int .i64 m.g, .int .i64 m.t, .int .i64 m.i, .int .i64 m.p, .int .i64 m.c, .int .i64 m.r, .int .i64 m.x, .int .i64 m.a, .int .i64 m.b, .int .i64 m.v, .int .i64 m.s, .bool m.ok, .slice A m.es.length c, .slice A' m.d.length c'] 25) := ⟨_, rfl⟩
  have hbx : Bx w1 w.heap.size m A c A' c' := ⟨by rw [hw1]; exact heap_alloc_new w _⟩
  have hb1 : Below w.heap.size w w1 := by rw [hw1]; exact (Below.refl _ w).alloc (Nat.le_refl _) _
  have hld1 := hbx.load
  have HX1 := hid (And.intro hbx hb1)
  have HT := hid T
  have HI := hid k0
  have hpos := T.pos
  have HBG := hid (bigL_any m A c A' c' w1 (k0.ents hb1) (Nat.le_trans k0.dc.1 k0.dc.2))
  obtain ⟨bg, hbg⟩ : ∃ b, b = bigM m := ⟨_, rfl⟩
  have HBB := hid hbg
  rw [← hbg] at HBG
  clear T k0 hbx hb1 hbg
  go_enter Tryd.func8, Tryd.ntmps8
  rw [hw1] at hld1
  go_wp2_with fail
  rw [← hw1]
  refine HBG.out.mono ?_
  rintro e w2 ⟨rfl, hb2⟩
  have HB2 := hid (HX1.out.2.trans (hb2.mono HX1.out.2.size))
  have HX2 := hid (HX1.out.1.below hb2 (row_lt HX1.out.1.row))
  have hld2 := HX2.out.load
  clear hb2 hld1
  cases bg
  rotate_left
  · go_wp2_with fail
    refine (works_N w w2 HT.out HB2.out).mono ?_
    rintro e w3 ⟨rfl, hb3⟩
    have HB3 := hid hb3
    clear hb3 hld2
    go_wp2_with fail
    go_ret
    exact ⟨rfl, HB3.out⟩
  · obtain ⟨hs, _, _, _⟩ := big_small HBB.out.symm
    have HS := hid hs
    have hw2 : w.heap.size ≤ w2.heap.size := HB2.out.size
    have HI2 := hid ((HI.out.below HB2.out).more hw2)
    have HT2 := hid (HT.out.below HB2.out hpos)
    clear hs
    clear b1 b2
    by_cases hc : check m = 0
    rotate_left
    · obtain ⟨v, hv⟩ : ∃ v : Int, v = ((check m : Nat) : Int) := ⟨_, rfl⟩
      have hv0 : v ≠ 0 := by rw [hv]; omega
      have HP := hid (put_err m A c A' c' w2 HI2.out HT2.out HS.out hc v hv.symm)
      clear hc hv
      go_wp2_with fail
      refine HP.out.mono ?_
      rintro e w3 ⟨A2, c2, rfl, hb3⟩
      have HB3 := hid (HB2.out.trans (hb3.mono hw2))
      clear hb3 hld2 HP
      go_wp2_with fail
      refine (works_N w w3 HT.out HB3.out).mono ?_
      rintro e w8 ⟨rfl, hb8⟩
      have HB8 := hid hb8
      clear hb8
      go_wp2_with fail
      go_ret
      exact ⟨rfl, HB8.out⟩
    obtain ⟨n, hn⟩ : ∃ n, n = (Fr.frame m.enc).length := ⟨_, rfl⟩
    have hn2 : n ≤ 65544 := by rw [hn]; exact frame_le hc
    have hn8 : 8 ≤ n := by rw [hn, Fr.frame_length]; omega
    have HP := hid (put_ok m A c A' c' w2 HI2.out HT2.out HS.out hc n hn.symm)
    have HN := hid hn
    have HC := hid hc
    have hel : m.enc.length ≤ 65536 := by rw [Fr.frame_length] at hn; omega
    have HEL := hid (And.intro hel (enc_lt m HI.out.wf))
    clear hc hn hel
    go_wp2_with fail
    refine HP.out.mono ?_
    rintro e w3 ⟨A2, c2, rfl, ho, hb3⟩
    have HB3 := hid (HB2.out.trans (hb3.mono hw2))
    have HO3 := hid ho
    have hw3 : w.heap.size ≤ w3.heap.size := HB3.out.size
    clear hb3 ho hld2 HP
    go_wp2_with fail
    refine (pick_lt a1 (8 * (n : Int)) (by omega) (by omega) w3).mono ?_
    rintro e w3' ⟨⟨p, rfl, hp⟩, hw3'⟩
    rw [← hw3']
    clear hw3'
    have HCP := hid (copy_N w3.heap.size A2 c2 (Fr.frame m.enc) n HN.out.symm (by omega) w3 HO3.out.reads (Nat.le_refl _))
    go_wp2_with fail
    refine HCP.out.mono ?_
    rintro e w4 ⟨A4, c4, rfl, ho4, hb4⟩
    have HB4 := hid (HB3.out.trans (hb4.mono hw3))
    have HO4 := hid (HO3.out.below hb4)
    have hcap4 := ho4.cap
    rw [← HN.out] at hcap4
    have hq : p / 8 < (Fr.frame m.enc).length := by rw [← HN.out]; omega
    obtain ⟨g, rfl, hg1, _, hcg, hfg⟩ := ho4.at_ hq
    have hj : p % 8 < 8 := Nat.mod_lt _ (by decide)
    have hx8 := ho4.small _ (List.getElem_mem hq)
    have hs := ho4.set_ (p / 8) ((Fr.frame m.enc)[p / 8] ^^^ 2 ^ (p % 8)) (Crc.byte_flip_lt _ _ hx8 hj)
    have hbs : Below w3.heap.size w3 (w4.setCell ⟨g, p / 8, none⟩ (.int .u8 ((Fr.frame m.enc)[p / 8] ^^^ 2 ^ (p % 8) : Nat))) := hb4.setCell hg1 _
    obtain ⟨e1, hT1, he1⟩ := turned m.enc HEL.out.1 HEL.out.2 p hq
    have HLL : Hid (((Fr.frame m.enc).set (p / 8) ((Fr.frame m.enc)[p / 8] ^^^ 2 ^ (p % 8))).length = n) := by show _ = _; rw [List.length_set, ← HN.out]
    have HX := hid (flip_val _ (p % 8) hx8 hj)
    have HT1 := hid hT1
    have HS4 := hid (And.intro hs hbs)
    obtain ⟨x, hx⟩ : ∃ x, x = (Fr.frame m.enc)[p / 8] := ⟨_, rfl⟩
    rw [← hx] at hcg HX HT1 HS4 HLL
    clear hq hj hx8 hs hT1 ho4 hb4 hbs hx
    go_wp2_with fail
    rw [HX.out]
    obtain ⟨w5, hw5⟩ : ∃ w5, w5 = w4.setCell ⟨g, p / 8, none⟩ (.int .u8 (x ^^^ 2 ^ (p % 8) : Nat)) := ⟨_, rfl⟩
    rw [← hw5]
    rw [← hw5] at HS4
    have HB5 := hid (HB3.out.trans (HS4.out.2.mono hw3))
    have HO5 := hid (HO3.out.below HS4.out.2)
    have he1' : (e1 : Int) ≠ 0 := by omega
    have HG1 := hid (get_is _ (some ⟨g, 0, none⟩) c4 n HLL.out w5 HS4.out.1.reads (fun h => by cases h) hcap4 (by omega) (HT.out.below HB5.out hpos) M0 e1 HT1.out (e1 : Int) rfl)
    clear hw5 hcg hfg HCP HS4 HLL HT1 HX
    refine HG1.out.mono ?_
    rintro e w6 ⟨B1, d1, B2, d2, rfl, _, hb6⟩
    obtain ⟨w7, hw7⟩ : ∃ w7, w7 = w6.alloc (.cells #[.int .i64 M0.K, .int .i64 M0.F, .int .i64 M0.T, .int .i64 M0.g, .int .i64 M0.t, .int .i64 M0.i, .int .i64 M0.p, .int .i64 M0.c, .int .i64 M0.r, .int .i64 M0.x, .int .i64 M0.a, .int .i64 M0.b, .int .i64 M0.v, .int .i64 M0.s, .bool M0.ok, .slice B1 M0.es.length d1, .slice B2 M0.d.length d2] 25) := ⟨_, rfl⟩
    obtain ⟨hst7, hb7⟩ := box_st w6 M0 B1 d1 B2 d2 w7 hw7
    have HB67 := hid (hb6.trans (hb7.mono hb6.size))
    have HB7 := hid (HB5.out.trans (HB67.out.mono HB5.out.size))
    have HO7 := hid (HO5.out.below HB67.out)
    clear hb6 hb7 hw7 HG1
    go_wp2_with fail
    refine (pick_lt a2 (n : Int) (by omega) (by omega) w7).mono ?_
    rintro e w7' ⟨⟨k, rfl, hk⟩, hw7'⟩
    rw [← hw7']
    clear hw7' hst7
    have hkn : k < n := by omega
    have hcap2 := HO7.out.cap
    rw [← HN.out] at hcap2
    have HCUT := hid (cut m.enc HEL.out.1 k (by rw [← HN.out]; exact hkn))
    have HG2 := hid (get_is ((Fr.frame m.enc).take k) A2 c2 k (by rw [List.length_take, ← HN.out]; omega) w7 (HO7.out.reads.take k) HO7.out.none_ (by omega) (by omega) (HT.out.below HB7.out hpos) M0 1 HCUT.out 1 rfl)
    go_wp2_with fail
    refine HG2.out.mono ?_
    rintro e w8 ⟨B3, d3, B4, d4, rfl, _, hb8⟩
    obtain ⟨w9, hw9⟩ : ∃ w9, w9 = w8.alloc (.cells #[.int .i64 M0.K, .int .i64 M0.F, .int .i64 M0.T, .int .i64 M0.g, .int .i64 M0.t, .int .i64 M0.i, .int .i64 M0.p, .int .i64 M0.c, .int .i64 M0.r, .int .i64 M0.x, .int .i64 M0.a, .int .i64 M0.b, .int .i64 M0.v, .int .i64 M0.s, .bool M0.ok, .slice B3 M0.es.length d3, .slice B4 M0.d.length d4] 25) := ⟨_, rfl⟩
    obtain ⟨hst9, hb9⟩ := box_st w8 M0 B3 d3 B4 d4 w9 hw9
    have HB89 := hid (hb8.trans (hb9.mono hb8.size))
    have HB9 := hid (HB7.out.trans (HB89.out.mono HB7.out.size))
    have HO9 := hid (HO7.out.below HB89.out)
    have HCP2 := hid (copy_N w9.heap.size A2 c2 (Fr.frame m.enc) n HN.out.symm (by omega) w9 HO9.out.reads (Nat.le_refl _))
    clear hb8 hb9 hw9 HG2
    go_wp2_with fail
    refine HCP2.out.mono ?_
    rintro e w10 ⟨A10, c10, rfl, ho10, hb10⟩
    have HB10 := hid (HB9.out.trans (hb10.mono HB9.out.size))
    have HO10 := hid (ho10.alloc (.cells #[.int .u8 (a3 : Int)] 5))
    have h10 := hb10.size
    clear ho10 hst9 HCP2
    go_wp2_with (at_builtin; refine wpList_append_byteN rfl _ _ 23 rfl w9.heap.size 5 i0 Tryd.underlying23 hi hz0 hz1 hz2 A10 c10 (Fr.frame m.enc) n HN.out.symm rfl HO10.out ⟨w10.heap.size, 0, none⟩ 1 a3 _ rfl b3 rfl ?c1 _ rfl (by omega) ?c2 ?_)
    case c1 => simp
    case c2 => simp; omega
    intro A11 c11 w11 ho11 hb11
    have HB11 : Hid (Below w.heap.size w w11) := hid (HB9.out.trans (((hb10.alloc h10 _).trans hb11).mono HB9.out.size))
    have HM := hid (more HI.out.wf HS.out HC.out a3)
    have hcap11 := ho11.cap
    have hl11 : (Fr.frame m.enc ++ [a3]).length = n + 1 := by rw [List.length_append, ← HN.out]; rfl
    rw [hl11] at hcap11
    have HG3 := hid (get_is (Fr.frame m.enc ++ [a3]) A11 c11 (n + 1) hl11 w11 ho11.reads ho11.none_ hcap11 (by omega) (HT.out.below HB11.out hpos) M0 2 HM.out 2 rfl)
    clear hb10 hb11 ho11 hl11
    go_wp2_with fail
    refine HG3.out.mono ?_
    rintro e w12 ⟨B5, d5, B6, d6, rfl, _, hb12⟩
    obtain ⟨w13, hw13⟩ : ∃ w13, w13 = w12.alloc (.cells #[.int .i64 M0.K, .int .i64 M0.F, .int .i64 M0.T, .int .i64 M0.g, .int .i64 M0.t, .int .i64 M0.i, .int .i64 M0.p, .int .i64 M0.c, .int .i64 M0.r, .int .i64 M0.x, .int .i64 M0.a, .int .i64 M0.b, .int .i64 M0.v, .int .i64 M0.s, .bool M0.ok, .slice B5 M0.es.length d5, .slice B6 M0.d.length d6] 25) := ⟨_, rfl⟩
    obtain ⟨hst13, hb13⟩ := box_st w12 M0 B5 d5 B6 d6 w13 hw13
    have HB13 := hid (HB11.out.trans ((hb12.trans (hb13.mono hb12.size)).mono HB11.out.size))
    clear hb12 hb13 hw13 HG3
    go_wp2_with fail
    refine (works_N w w13 HT.out HB13.out).mono ?_
    rintro e w14 ⟨rfl, hb14⟩
    have HB14 := hid hb14
    clear hb14 hst13
    go_wp2_with fail
    go_ret
    refine ⟨?_, HB14.out⟩
    show Ending.returned (.bool ((e1 : Int) != 0)) = _
    rw [bne_iff_ne.2 he1']

set_option maxRecDepth 100000 in
theorem lifted (os : Os) (started : os.Started) (H : Type) (enc : TypeId × Value → H) :
    ReturnsInHanded {} Tryd.checked os 8 .any (fun w args => (Rows.messageTurnedSpec.pre enc Tryd.prog Tryd.f8 [] false w args ∧ laidMetH Tryd.prog Ms.laid w) ∧ sizedMet enc Tryd.prog Tryd.f8 (OpenSpec.ofChange Rows.messageTurnedSpec) false w args) (Rows.messageTurnedSpec.post enc Tryd.prog Tryd.f8 false true false false) := by
  refine returnsInHanded_of_change_and (C := Tryd.checked) (X := fun w _ => laidMetH Tryd.prog Ms.laid w) (fun _ _ _ hh h => h.of_heap hh) own started (by kernel_rfl) Tryd.func8
    (ChangeSpec.witness_shaped (enc := enc) (C := Tryd.checked) (os := os) (X := fun w _ => laidMetH Tryd.prog Ms.laid w) false (World.doorLaid Tryd.prog 400 os) #[.agg #[.int .i64 0, .int .i64 0, .int .i64 0, .int .i64 0, .int .i64 0, .int .i64 0, .int .i64 0, .int .i64 0, .int .i64 0, .int .i64 0, .int .i64 0, .int .i64 0, .int .i64 0, .int .i64 0, .bool false, .slice none 0 0, .slice none 0 0], .int .i64 0, .int .i64 0, .int .u8 0] 8 rfl (World.shaped_of_RefB (by kernel_rfl) (by kernel_rfl)) (by kernel_rfl) (by kernel_rfl) (by kernel_rfl) (Ms.door_met os _)) ?_
  intro W base args ds gs before hval0 hW hcnd hsz0 hL _
  have hT := Ms.tab_of_laid hL
  have hsz : (DataW.weightsEach Tryd.prog (Tryd.f8.params.toList ++ Rows.messageTurnedSpec.plain.varTypes Tryd.prog) (ds ++ gs)).all (· ≤ reachBytes) = true := hsz0
  clear hsz0
  have hval : ∀ (j : Nat) t v, Tryd.f8.params[j]? = some t → args[j]? = some v → Value.okWide Tryd.prog W .any base t v := hval0
  have hW' := hW
  obtain ⟨p, q, hA0, hV, rfl, hfz, hnd⟩ := hW
  have hA : DataW.TrodAll enc Tryd.prog W 0 (fun _ => true) true Tryd.f8.params.toList args.toList ds p := hA0
  rw [Tryd.params8] at hA hval hsz
  obtain ⟨v0, vs0, d0, ds0, p0, q0, hargs, rfl, rfl, g0, t0⟩ := trodAll_cons hA
  obtain ⟨v1, vs1, d1, ds1, p1, q1, rfl, rfl, rfl, g1, t1⟩ := trodAll_cons t0
  obtain ⟨v2, vs2, d2, ds2, p2, q2, rfl, rfl, rfl, g2, t2⟩ := trodAll_cons t1
  obtain ⟨v3, vs3, d3, ds3, p3, q3, rfl, rfl, rfl, g3, t3⟩ := trodAll_cons t2
  obtain ⟨rfl, rfl, rfl⟩ := trodAll_nil t3
  obtain rfl : args = #[v0, v1, v2, v3] := by cases args; simp_all
  obtain ⟨rfl, rfl⟩ := trodVars_none hV
  obtain ⟨cs0, rfl, sz0⟩ := okWide_struct Tryd.underlying25 (hval 0 25 v0 rfl rfl)
  have m0 := g0
  have lt0 : ∀ x ∈ p0, x.block < W.heap.size := by obtain ⟨m, hm⟩ := m0; exact DataW.trod_lt m _ _ _ hm
  obtain ⟨ms0, a0, cap0, b0, cbp0, rfl, k0⟩ := Ms.msg_open sz0 g0
  obtain ⟨a1, rfl, rfl, rfl, w1⟩ := open_int Tryd.underlying3 (hval 1 3 v1 rfl rfl) g1
  have b1 := bounds_i64 w1
  obtain ⟨a2, rfl, rfl, rfl, w2⟩ := open_int Tryd.underlying3 (hval 2 3 v2 rfl rfl) g2
  have b2 := bounds_i64 w2
  obtain ⟨a3, rfl, rfl, rfl, w3⟩ := open_int Tryd.underlying5 (hval 3 5 v3 rfl rfl) g3
  have b3 := bounds_u8 w3
  obtain ⟨a3, rfl⟩ := Int.eq_ofNat_of_zero_le b3.1
  clear hA0 hval0
  refine (walk ms0 a0 cap0 b0 cbp0 a1 a2 a3 W hT k0 b1 b2 (by omega)).mono fun e W' ⟨he, bel⟩ => ?_
  subst he
  exact ⟨_, rfl, _, _, _, [], _, [], hW', trodAll_mk1 (shut_bool Tryd.underlying4 _), (trodAll_cons_mk (Below.trod laidOut (by kernel_rfl) (of_decide_eq_true (by kernel_rfl)) m0 bel lt0) (trodAll_cons_mk (shut_int Tryd.underlying3 w1) (trodAll_cons_mk (shut_int Tryd.underlying3 w2) (trodAll_cons_mk (shut_int Tryd.underlying5 w3) trodAll_mk0)))), rfl, bel.frame _, fun h => by cases h⟩

theorem over : Rows.messageTurnedRow.holds Tryd.pinned (OpenSpec.ofChange Rows.messageTurnedSpec) :=
  OpenClaim.holds_of_wide 8 Tryd.f8 rfl rfl rfl rfl rfl rfl rfl ⟨rfl, rfl, rfl, rfl, rfl⟩ rfl rfl rfl rfl rfl (by kernel_rfl) Tryd.func8 (by kernel_rfl)
    (of_decide_eq_true (by kernel_rfl)) (by unfold Func.isWrapper; first | (rw [if_pos (by decide +kernel)]; kernel_rfl) | (rw [if_neg (by decide +kernel)]; exact ⟨rfl, rfl⟩))
    (fun os started H enc _ => lifted os started H enc)

theorem proved : Rows.MessageTurnedCardSaid :=
  Claim7.holds_tied_plain_at .later [] [.data] true Rows.messageTurnedCard.stood.harness false
    over (fun _ h => by cases h) (by kernel_rfl) (fun _ h => by cases h) messageTurned_row_tie rfl ⟨rfl, rfl⟩ (by kernel_rfl) rfl
    (fun f fn hf hfn => by
      obtain rfl : f = 8 := Option.some.inj ((show Tryd.prog.funcNamed "glebe/glebelaw12.MessageTurned" = some 8 by kernel_rfl).symm.trans hf) |>.symm
      obtain rfl : fn = Tryd.f8 := (Option.some.inj (Tryd.func8.symm.trans hfn)).symm
      exact ⟨by kernel_rfl, fun j t ht => by
        rw [Tryd.params8] at ht
        have hm : t ∈ ([25, 3, 3, 5] : List TypeId) := by simpa using Array.mem_of_getElem? ht
        have hall : (([25, 3, 3, 5] : List TypeId).all fun u => !Tryd.prog.wantsStandIn u) = true := by kernel_rfl
        exact (show Tryd.prog.wantsStandIn t = false by simpa using List.all_eq_true.1 hall t hm)⟩)
    (by kernel_rfl)
end Go.Proofs.YtmaebemhephcmaaDoor.messageTurned
