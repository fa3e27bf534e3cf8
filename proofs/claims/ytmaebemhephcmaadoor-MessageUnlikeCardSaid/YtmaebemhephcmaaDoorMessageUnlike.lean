/- Unlike messages have unlike bytes, none of which are a beginning of the other ones. Conditions: none but those of the card: the table of the fields is as the text lays it. -/
import Derived.Test.YtmaebemhephcmaaDoorRows
import Derived.Test.YtmaebemhephcmaaDoorCards
import Derived.Test.YtmaebemhephcmaaDoorTie
import Derived.Test.YtmaebemhephcmaaDoorMsDoor
import Derived.SevenTiedAt
import Derived.LaidMore
import Derived.LaidLaws
import Derived.Handed
import Derived.Stop.Joined
import Derived.Test.YtmaebemhephcmaaDoorMsLaw
import Derived.Test.YtmaebemhephcmaaDoorMsMath4
import Derived.Deep.RegionHeld3
import Derived.WalkKit
import Derived.WalkLawsBesides
import Derived.ProofKit
import Derived.OpenShut
import Derived.ShutString
import Derived.ChangeOld
import Derived.Below
import Derived.SizedLaws
namespace Go.Proofs.YtmaebemhephcmaaDoor.messageUnlike
open Go.ChangeShapes Go.WideShapes Go.ChangeAt Go.RowKit
open Go.ChangeMaps (open_string shut_string)
set_option linter.unusedVariables false

theorem own : ownKnob Tryd.prog.godebug = none := by kernel_rfl
theorem laidOut : laidOutB Tryd.prog = true := by kernel_rfl

attribute [local go_sem ↓] Ms.loadAt_msg Ms.storeAt_msg
/-- loads that a region must not take first -/
def loadA : Op := Op.load 25 (Operand.tmp 2)
def loadB : Op := Op.load 25 (Operand.tmp 3)
open Ms in
set_option maxRecDepth 100000 in
set_option maxHeartbeats 3200000 in
theorem walk (m : Ms.M) (A : Option Addr) (c : Nat) (A' : Option Addr) (c' : Nat) (m2 : Ms.M) (D : Option Addr) (d : Nat) (D' : Option Addr) (d' : Nat) (w : World) (T : Ms.Tab w) (k0 : Ms.Is w w.heap.size m A c A' c') (k1 : Ms.Is w w.heap.size m2 D d D' d') :
    Calls Tryd.prog 10 #[.agg #[.int .i64 m.K, .int .i64 m.F, .int .i64 m.T, .int .i64 m.g, .int .i64 m.t, .int .i64 m.i, .int .i64 m.p, .int .i64 m.c, .int .i64 m.r, .int .i64 m.x, .int .i64 m.a, .int .i64 m.b, .int .i64 m.v, .int .i64 m.s, .bool m.ok, .slice A m.es.length c, .slice A' m.d.length c'], .agg #[.int .i64 m2.K, .int .i64 m2.F, .int .i64 m2.T, .int .i64 m2.g, .int .i64 m2.t, .int .i64 m2.i, .int .i64 m2.p, .int .i64 m2.c, .int .i64 m2.r, .int .i64 m2.x, .int .i64 m2.a, .int .i64 m2.b, .int .i64 m2.v, .int .i64 m2.s, .bool m2.ok, .slice D m2.es.length d, .slice D' m2.d.length d']] w fun e w' => e = .returned (.bool true) ∧ Below w.heap.size w w' := by
  obtain ⟨w0, hw0⟩ : ∃ w0, w0 = w.alloc (.cells #[.int .i64 m.K, .int .i64 m.F, .int .i64 m.T, .int .i64 m.g, .int .i64 m.t, .int .i64 m.i, .int .i64 m.p, .int .i64 m.c, .int .i64 m.r, .int .i64 m.x, .int .i64 m.a, .int .i64 m.b, .int .i64 m.v, .int .i64 m.s, .bool m.ok, .slice A m.es.length c, .slice A' m.d.length c'] 25) := ⟨_, rfl⟩
  obtain ⟨w1, hw1⟩ : ∃ w1, w1 = w0.alloc (.cells #[.int .i64 m2.K, .int .i64 m2.F, .int .i64 m2.T, .int .i64 m2.g, .int .i64 m2.t, .int .i64 m2.i, .int .i64 m2.p, .int .i64 m2.c, .int .i64 m2.r, .int .i64 m2.x, .int .i64 m2.a, .int .i64 m2.b, .int .i64 m2.v, .int .i64 m2.s, .bool m2.ok, .slice D m2.es.length d, .slice D' m2.d.length d'] 25) := ⟨_, rfl⟩
  have hs0 : w0.heap.size = w.heap.size + 1 := by rw [hw0]; simp
  have hb0 : Below w.heap.size w w0 := by rw [hw0]; exact (Below.refl _ w).alloc (Nat.le_refl _) _
  have hb01 : Below w0.heap.size w0 w1 := by rw [hw1]; exact (Below.refl _ w0).alloc (Nat.le_refl _) _
  have hx0 : Bx w0 w.heap.size m A c A' c' := ⟨by rw [hw0]; exact heap_alloc_new w _⟩
  have hbx : Bx w1 w.heap.size m A c A' c' := hx0.below hb01 (by omega)
  have hby : Bx w1 (w.heap.size + 1) m2 D d D' d' := ⟨by rw [hw1, ← hs0]; exact heap_alloc_new w0 _⟩
  have hb1 : Below w.heap.size w w1 := hb0.trans (hb01.mono (by omega))
  have HX : Hid (∀ wz, Below w1.heap.size w1 wz → Bx wz w.heap.size m A c A' c' ∧ Bx wz (w.heap.size + 1) m2 D d D' d') := hid fun wz hb => ⟨hbx.below hb (row_lt hbx.row), hby.below hb (row_lt hby.row)⟩
  have hld1 := hbx.load
  have hle1 := hby.load
  have HT := hid T
  have HI := hid k0
  have HJ := hid k1
  have hpos := T.pos
  have HB1 := hid hb1
  have HBG := hid (bigL_any m A c A' c' w1 (k0.ents hb1) (Nat.le_trans k0.dc.1 k0.dc.2))
  obtain ⟨bg, hbg⟩ : ∃ b, b = bigM m := ⟨_, rfl⟩
  obtain ⟨bh, hbh⟩ : ∃ b, b = bigM m2 := ⟨_, rfl⟩
  have HBB := hid (And.intro hbg hbh)
  rw [← hbg] at HBG
  clear T k0 k1 hbx hby hb0 hb01 hx0 hb1 hbg
  go_enter Tryd.func10, Tryd.ntmps10
  rw [hw1, hw0] at hld1 hle1
  go_wp2_with fail
  rw [← hw0, ← hw1]
  refine HBG.out.mono ?_
  rintro e w2 ⟨rfl, hb2⟩
  have HC2 := hid hb2
  have HB2 := hid (HB1.out.trans (hb2.mono HB1.out.size))
  obtain ⟨hx2, hy2⟩ := HX.out w2 hb2
  have hld2 := hx2.load
  have hle2 := hy2.load
  have HBH := bigL_any m2 D d D' d' w2 (HJ.out.ents HB2.out) (Nat.le_trans HJ.out.dc.1 HJ.out.dc.2)
  rw [← hbh] at HBH
  have HBI := hid HBH
  clear hb2 hld1 hle1 hx2 hy2 HBH hbh HBG hw0
  cases bg
  rotate_left
  · go_wp2_with fail
    refine (works_N w w2 HT.out HB2.out).mono ?_
    rintro e w3 ⟨rfl, hb3⟩
    have HB3 := hid hb3
    clear hb3 hld2 hle2
    go_wp2_with fail
    go_ret
    exact ⟨rfl, HB3.out⟩
  go_wp2_with fail
  refine HBI.out.mono ?_
  rintro e w3 ⟨rfl, hb3⟩
  have HC3 := hid (HC2.out.trans (hb3.mono HC2.out.size))
  have HB3 := hid (HB2.out.trans (hb3.mono HB2.out.size))
  obtain ⟨hx3, hy3⟩ := HX.out w3 HC3.out
  have hld3 := hx3.load
  have hle3 := hy3.load
  clear hb3 hld2 hle2 hx3 hy3 HBI
  cases bh
  rotate_left
  · go_wp2_with fail
    refine (works_N w w3 HT.out HB3.out).mono ?_
    rintro e w4 ⟨rfl, hb4⟩
    have HB4 := hid hb4
    clear hb4 hld3 hle3
    go_wp2_with fail
    go_ret
    exact ⟨rfl, HB4.out⟩
  obtain ⟨sm, _, _, _⟩ := big_small HBB.out.1.symm
  obtain ⟨sm2, _, _, _⟩ := big_small HBB.out.2.symm
  have HS := hid (And.intro sm sm2)
  clear sm sm2 HBB
  have hle : w.heap.size ≤ w3.heap.size := HB3.out.size
  by_cases ca : check m = 0
  rotate_left
  · obtain ⟨v, hv⟩ : ∃ v : Int, v = ((check m : Nat) : Int) := ⟨_, rfl⟩
    have hv0 : v ≠ 0 := by rw [hv]; omega
    have HP := hid (put_err m A c A' c' w3 ((HI.out.below HB3.out).more hle) (HT.out.below HB3.out hpos) HS.out.1 ca v hv.symm)
    clear hv ca
    go_wp2_with fail
    refine HP.out.mono ?_
    rintro e w4 ⟨A2, c2, rfl, hb4⟩
    have HC4 := hid (HC3.out.trans (hb4.mono HC3.out.size))
    have HB4 := hid (HB3.out.trans (hb4.mono hle))
    obtain ⟨hx4, hy4⟩ := HX.out w4 HC4.out
    have hle4 := hy4.load
    have HP2 := hid (Ms.put_any m2 D d D' d' w4 ((HJ.out.below HB4.out).more HB4.out.size) (HT.out.below HB4.out hpos) HS.out.2)
    clear hb4 hld3 hle3 hx4 hy4
    go_wp2_with fail
    refine HP2.out.mono ?_
    rintro e w5 ⟨A3, c3, rfl, _, hb5⟩
    have HB5 := hid (HB4.out.trans (hb5.mono HB4.out.size))
    clear hb5 hle4 HP2
    go_wp2_with fail
    refine (works_N w w5 HT.out HB5.out).mono ?_
    rintro e w6 ⟨rfl, hb6⟩
    have HB6 := hid hb6
    clear hb6
    go_wp2_with fail
    go_ret
    exact ⟨rfl, HB6.out⟩
  obtain ⟨n, hn⟩ : ∃ n, n = (Fr.frame m.enc).length := ⟨_, rfl⟩
  have hn2 : n ≤ 65544 := by rw [hn]; exact frame_le ca
  have HP := hid (put_ok m A c A' c' w3 ((HI.out.below HB3.out).more hle) (HT.out.below HB3.out hpos) HS.out.1 ca n hn.symm)
  have HN := hid hn
  have HCA := hid ca
  clear hn ca
  go_wp2_with fail
  refine HP.out.mono ?_
  rintro e w4 ⟨A2, c2, rfl, ho, hb4⟩
  have HC4 := hid (HC3.out.trans (hb4.mono HC3.out.size))
  have HB4 := hid (HB3.out.trans (hb4.mono hle))
  have HO4 := hid ho
  obtain ⟨hx4, hy4⟩ := HX.out w4 HC4.out
  have hle4 := hy4.load
  clear ho hb4 hld3 hle3 hx4 hy4 HP
  by_cases cb : check m2 = 0
  rotate_left
  · obtain ⟨v, hv⟩ : ∃ v : Int, v = ((check m2 : Nat) : Int) := ⟨_, rfl⟩
    have hv0 : v ≠ 0 := by rw [hv]; omega
    have HP2 := hid (put_err m2 D d D' d' w4 ((HJ.out.below HB4.out).more HB4.out.size) (HT.out.below HB4.out hpos) HS.out.2 cb v hv.symm)
    clear hv cb
    go_wp2_with fail
    refine HP2.out.mono ?_
    rintro e w5 ⟨A3, c3, rfl, hb5⟩
    have HB5 := hid (HB4.out.trans (hb5.mono HB4.out.size))
    clear hb5 hle4 HP2
    go_wp2_with fail
    refine (works_N w w5 HT.out HB5.out).mono ?_
    rintro e w6 ⟨rfl, hb6⟩
    have HB6 := hid hb6
    clear hb6
    go_wp2_with fail
    go_ret
    exact ⟨rfl, HB6.out⟩
  obtain ⟨n2, hn2'⟩ : ∃ n2, n2 = (Fr.frame m2.enc).length := ⟨_, rfl⟩
  have hn3 : n2 ≤ 65544 := by rw [hn2']; exact frame_le cb
  have HP2 := hid (put_ok m2 D d D' d' w4 ((HJ.out.below HB4.out).more HB4.out.size) (HT.out.below HB4.out hpos) HS.out.2 cb n2 hn2'.symm)
  have HN2 := hid hn2'
  have HCB := hid cb
  clear hn2' cb
  go_wp2_with fail
  refine HP2.out.mono ?_
  rintro e w5 ⟨A3, c3, rfl, ho, hb5⟩
  have HC5 := hid (HC4.out.trans (hb5.mono HC4.out.size))
  have HB5 := hid (HB4.out.trans (hb5.mono HB4.out.size))
  have HO5 := hid (And.intro (HO4.out.below hb5) ho)
  clear ho hb5 hle4 HP2
  obtain ⟨r, hr⟩ : ∃ r, r = decide (m = m2) := ⟨_, rfl⟩
  have hun : ∀ k : Nat, k = min n n2 → decide ((Fr.frame m.enc).take k = (Fr.frame m2.enc).take k) = r := fun k hk => by
    rw [hr]; exact unlike HI.out.wf HJ.out.wf HS.out.1 HS.out.2 HCA.out HCB.out k (by rw [hk, HN.out, HN2.out])
  have hcap1 := HO5.out.1.cap
  have hcap2 := HO5.out.2.cap
  rw [← HN.out] at hcap1
  rw [← HN2.out] at hcap2
  have HSB : Hid (∀ k : Nat, k = min n n2 → k ≤ n → k ≤ n2 → Calls Tryd.prog 18 #[.slice A2 k c2, .slice A3 k c3] w5.drew fun e w' => e = .returned (.bool r) ∧ Below w5.heap.size w5 w') := hid fun k hk h1 h2 => by
    have h3 := HN.out
    have h4 := HN2.out
    refine (same_N w5.heap.size w5.heap.size A2 A3 c2 c3 ((Fr.frame m.enc).take k) ((Fr.frame m2.enc).take k) k k (by rw [List.length_take]; omega) (by rw [List.length_take]; omega) (by unfold maxLen; omega) (by unfold maxLen; omega) w5.drew ((HO5.out.1.reads.take k).drew) ((HO5.out.2.reads.take k).drew)).mono ?_
    rintro e w' ⟨he, j, hj⟩
    exact ⟨by rw [he, hun k hk], by rw [hj]; exact below_drewN ((Below.refl _ w5).drew) j⟩
  have HSM : Hid (∀ wz, Below w5.heap.size w5 wz → Calls Tryd.prog 20 #[.agg #[.int .i64 m.K, .int .i64 m.F, .int .i64 m.T, .int .i64 m.g, .int .i64 m.t, .int .i64 m.i, .int .i64 m.p, .int .i64 m.c, .int .i64 m.r, .int .i64 m.x, .int .i64 m.a, .int .i64 m.b, .int .i64 m.v, .int .i64 m.s, .bool m.ok, .slice A m.es.length c, .slice A' m.d.length c'], .agg #[.int .i64 m2.K, .int .i64 m2.F, .int .i64 m2.T, .int .i64 m2.g, .int .i64 m2.t, .int .i64 m2.i, .int .i64 m2.p, .int .i64 m2.c, .int .i64 m2.r, .int .i64 m2.x, .int .i64 m2.a, .int .i64 m2.b, .int .i64 m2.v, .int .i64 m2.s, .bool m2.ok, .slice D m2.es.length d, .slice D' m2.d.length d']] wz fun e w' => e = .returned (.bool r) ∧ Below w.heap.size w w') := hid fun wz hb => by
    have hbz := HB5.out.trans (hb.mono HB5.out.size)
    refine (Ms.same_any m m2 A c A' c' D d D' d' wz (HI.out.ents hbz) (HJ.out.ents hbz) (HI.out.data hbz) (HJ.out.data hbz) HS.out.1 HS.out.2).mono ?_
    rintro e w' ⟨he, hb'⟩
    exact ⟨by rw [he, hr], hbz.trans (hb'.mono hbz.size)⟩
  have HLD : Hid (∀ wz, Below w5.heap.size w5 wz → (ldMsg (.pointer (some ⟨w.heap.size, 0, none⟩))).run Tryd.prog wz = .ok (.agg #[.int .i64 m.K, .int .i64 m.F, .int .i64 m.T, .int .i64 m.g, .int .i64 m.t, .int .i64 m.i, .int .i64 m.p, .int .i64 m.c, .int .i64 m.r, .int .i64 m.x, .int .i64 m.a, .int .i64 m.b, .int .i64 m.v, .int .i64 m.s, .bool m.ok, .slice A m.es.length c, .slice A' m.d.length c']) wz ∧ (ldMsg (.pointer (some ⟨w.heap.size + 1, 0, none⟩))).run Tryd.prog wz = .ok (.agg #[.int .i64 m2.K, .int .i64 m2.F, .int .i64 m2.T, .int .i64 m2.g, .int .i64 m2.t, .int .i64 m2.i, .int .i64 m2.p, .int .i64 m2.c, .int .i64 m2.r, .int .i64 m2.x, .int .i64 m2.a, .int .i64 m2.b, .int .i64 m2.v, .int .i64 m2.s, .bool m2.ok, .slice D m2.es.length d, .slice D' m2.d.length d']) wz) := hid fun wz hb => by
    obtain ⟨h1, h2⟩ := HX.out wz (HC5.out.trans (hb.mono HC5.out.size))
    exact ⟨h1.load, h2.load⟩
  have HK1 : Hid (∀ k : Nat, n ≤ n2 → k = n → k = min n n2 ∧ k ≤ n ∧ k ≤ n2) := hid fun k h1 h2 => by omega
  have HK2 : Hid (∀ k : Nat, n2 < n → k = n2 → k = min n n2 ∧ k ≤ n ∧ k ≤ n2) := hid fun k h1 h2 => by omega
  have ha1 := (HLD.out _ (Below.refl _ w5).drew).1
  have hb1 := (HLD.out _ (Below.refl _ w5).drew).2
  clear hun hr
  have hopA : loadA = Op.load 25 (Operand.tmp 2) := rfl
  have hopB : loadB = Op.load 25 (Operand.tmp 3) := rfl
  by_cases hmin : n ≤ n2
  · have HSB1 := hid (HSB.out n (HK1.out n hmin rfl).1 (HK1.out n hmin rfl).2.1 (HK1.out n hmin rfl).2.2)
    have hcc : n ≤ c3 := by omega
    have hcc' : (n : Int) ≤ (c3 : Int) := by omega
    go_wp2_with fail
    rw [← hopA, ← hopB]
    go_region_held3 (fun w' => True)
      (first | exact trivial | fail)
      (first
        | (go_at_call 12; refine (works_N w w7 HT.out HB7.out).mono ?_; rintro e w8 ⟨rfl, hb8⟩; have HB8 := hid hb8; clear hb8)
        | (go_at_call 20; refine (HSM.out w6 HB6.out).mono ?_; rintro e w7 ⟨rfl, hb7⟩; have HB7 := hid hb7; clear hb7)
        | (go_at_call 18; refine HSB1.out.mono ?_; rintro e w6 ⟨rfl, hb6⟩; have HB6 := hid hb6; have ha6 := (HLD.out w6 hb6).1; have hc6 := (HLD.out w6 hb6).2; clear hb6))
    all_goals
      clear ha1 hb1 ha6 hc6 hopA hopB
      go_wp2_with fail
      go_ret
      exact ⟨rfl, HB8.out⟩
  · have hmin2 : n2 < n := by omega
    have HSB1 := hid (HSB.out n2 (HK2.out n2 hmin2 rfl).1 (HK2.out n2 hmin2 rfl).2.1 (HK2.out n2 hmin2 rfl).2.2)
    have hcc : n2 ≤ c2 := by omega
    have hcc' : (n2 : Int) ≤ (c2 : Int) := by omega
    go_wp2_with fail
    rw [← hopA, ← hopB]
    go_region_held3 (fun w' => True)
      (first | exact trivial | fail)
      (first
        | (go_at_call 12; refine (works_N w w7 HT.out HB7.out).mono ?_; rintro e w8 ⟨rfl, hb8⟩; have HB8 := hid hb8; clear hb8)
        | (go_at_call 20; refine (HSM.out w6 HB6.out).mono ?_; rintro e w7 ⟨rfl, hb7⟩; have HB7 := hid hb7; clear hb7)
        | (go_at_call 18; refine HSB1.out.mono ?_; rintro e w6 ⟨rfl, hb6⟩; have HB6 := hid hb6; have ha6 := (HLD.out w6 hb6).1; have hc6 := (HLD.out w6 hb6).2; clear hb6))
    all_goals
      clear ha1 hb1 ha6 hc6 hopA hopB
      go_wp2_with fail
      go_ret
      exact ⟨rfl, HB8.out⟩

set_option maxRecDepth 100000 in
theorem lifted (os : Os) (started : os.Started) (H : Type) (enc : TypeId × Value → H) :
    ReturnsInHanded {} Tryd.checked os 10 .any (fun w args => (Rows.messageUnlikeSpec.pre enc Tryd.prog Tryd.f10 [] false w args ∧ laidMetH Tryd.prog Ms.laid w) ∧ sizedMet enc Tryd.prog Tryd.f10 (OpenSpec.ofChange Rows.messageUnlikeSpec) false w args) (Rows.messageUnlikeSpec.post enc Tryd.prog Tryd.f10 false true false false) := by
  refine returnsInHanded_of_change_and (C := Tryd.checked) (X := fun w _ => laidMetH Tryd.prog Ms.laid w) (fun _ _ _ hh h => h.of_heap hh) own started (by kernel_rfl) Tryd.func10
    (ChangeSpec.witness_shaped (enc := enc) (C := Tryd.checked) (os := os) (X := fun w _ => laidMetH Tryd.prog Ms.laid w) false (World.doorLaid Tryd.prog 400 os) #[.agg #[.int .i64 0, .int .i64 0, .int .i64 0, .int .i64 0, .int .i64 0, .int .i64 0, .int .i64 0, .int .i64 0, .int .i64 0, .int .i64 0, .int .i64 0, .int .i64 0, .int .i64 0, .int .i64 0, .bool false, .slice none 0 0, .slice none 0 0], .agg #[.int .i64 0, .int .i64 0, .int .i64 0, .int .i64 0, .int .i64 0, .int .i64 0, .int .i64 0, .int .i64 0, .int .i64 0, .int .i64 0, .int .i64 0, .int .i64 0, .int .i64 0, .int .i64 0, .bool false, .slice none 0 0, .slice none 0 0]] 8 rfl (World.shaped_of_RefB (by kernel_rfl) (by kernel_rfl)) (by kernel_rfl) (by kernel_rfl) (by kernel_rfl) (Ms.door_met os _)) ?_
  intro W base args ds gs before hval0 hW hcnd hsz0 hL _
  have hT := Ms.tab_of_laid hL
  have hsz : (DataW.weightsEach Tryd.prog (Tryd.f10.params.toList ++ Rows.messageUnlikeSpec.plain.varTypes Tryd.prog) (ds ++ gs)).all (· ≤ reachBytes) = true := hsz0
  clear hsz0
  have hval : ∀ (j : Nat) t v, Tryd.f10.params[j]? = some t → args[j]? = some v → Value.okWide Tryd.prog W .any base t v := hval0
  have hW' := hW
  obtain ⟨p, q, hA0, hV, rfl, hfz, hnd⟩ := hW
  have hA : DataW.TrodAll enc Tryd.prog W 0 (fun _ => true) true Tryd.f10.params.toList args.toList ds p := hA0
  rw [Tryd.params10] at hA hval hsz
  obtain ⟨v0, vs0, d0, ds0, p0, q0, hargs, rfl, rfl, g0, t0⟩ := trodAll_cons hA
  obtain ⟨v1, vs1, d1, ds1, p1, q1, rfl, rfl, rfl, g1, t1⟩ := trodAll_cons t0
  obtain ⟨rfl, rfl, rfl⟩ := trodAll_nil t1
  obtain rfl : args = #[v0, v1] := by cases args; simp_all
  obtain ⟨rfl, rfl⟩ := trodVars_none hV
  obtain ⟨cs0, rfl, sz0⟩ := okWide_struct Tryd.underlying25 (hval 0 25 v0 rfl rfl)
  have m0 := g0
  have lt0 : ∀ x ∈ p0, x.block < W.heap.size := by obtain ⟨m, hm⟩ := m0; exact DataW.trod_lt m _ _ _ hm
  obtain ⟨ms0, a0, cap0, b0, cbp0, rfl, k0⟩ := Ms.msg_open sz0 g0
  obtain ⟨cs1, rfl, sz1⟩ := okWide_struct Tryd.underlying25 (hval 1 25 v1 rfl rfl)
  have m1 := g1
  have lt1 : ∀ x ∈ p1, x.block < W.heap.size := by obtain ⟨m, hm⟩ := m1; exact DataW.trod_lt m _ _ _ hm
  obtain ⟨ms1, a1, cap1, b1, cbp1, rfl, k1⟩ := Ms.msg_open sz1 g1
  clear hA0 hval0
  refine (walk ms0 a0 cap0 b0 cbp0 ms1 a1 cap1 b1 cbp1 W hT k0 k1).mono fun e W' ⟨he, bel⟩ => ?_
  subst he
  exact ⟨_, rfl, _, _, _, [], _, [], hW', trodAll_mk1 (shut_bool Tryd.underlying4 _), (trodAll_cons_mk (Below.trod laidOut (by kernel_rfl) (of_decide_eq_true (by kernel_rfl)) m0 bel lt0) (trodAll_cons_mk (Below.trod laidOut (by kernel_rfl) (of_decide_eq_true (by kernel_rfl)) m1 bel lt1) trodAll_mk0)), rfl, bel.frame _, fun h => by cases h⟩

theorem over : Rows.messageUnlikeRow.holds Tryd.pinned (OpenSpec.ofChange Rows.messageUnlikeSpec) :=
  OpenClaim.holds_of_wide 10 Tryd.f10 rfl rfl rfl rfl rfl rfl rfl ⟨rfl, rfl, rfl, rfl, rfl⟩ rfl rfl rfl rfl rfl (by kernel_rfl) Tryd.func10 (by kernel_rfl)
    (of_decide_eq_true (by kernel_rfl)) (by unfold Func.isWrapper; first | (rw [if_pos (by decide +kernel)]; kernel_rfl) | (rw [if_neg (by decide +kernel)]; exact ⟨rfl, rfl⟩))
    (fun os started H enc _ => lifted os started H enc)

theorem proved : Rows.MessageUnlikeCardSaid :=
  Claim7.holds_tied_plain_at .later [] [.data] true Rows.messageUnlikeCard.stood.harness false
    over (fun _ h => by cases h) (by kernel_rfl) (fun _ h => by cases h) messageUnlike_row_tie rfl ⟨rfl, rfl⟩ (by kernel_rfl) rfl
    (fun f fn hf hfn => by
      obtain rfl : f = 10 := Option.some.inj ((show Tryd.prog.funcNamed "glebe/glebelaw12.MessageUnlike" = some 10 by kernel_rfl).symm.trans hf) |>.symm
      obtain rfl : fn = Tryd.f10 := (Option.some.inj (Tryd.func10.symm.trans hfn)).symm
      exact ⟨by kernel_rfl, fun j t ht => by
        rw [Tryd.params10] at ht
        have hm : t ∈ ([25, 25] : List TypeId) := by simpa using Array.mem_of_getElem? ht
        have hall : (([25, 25] : List TypeId).all fun u => !Tryd.prog.wantsStandIn u) = true := by kernel_rfl
        exact (show Tryd.prog.wantsStandIn t = false by simpa using List.all_eq_true.1 hall t hm)⟩)
    (by kernel_rfl)
end Go.Proofs.YtmaebemhephcmaaDoor.messageUnlike
