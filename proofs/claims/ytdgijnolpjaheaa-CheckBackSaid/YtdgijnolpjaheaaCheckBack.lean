/- Where nothing fails, what was laid last is loaded, whatever was laid ahead; and one of a lesser epoch, laid behind it into the other slot, changes nothing. Conditions: none. -/
import Derived.Test.YtdgijnolpjaheaaRows
import Derived.Test.YtdgijnolpjaheaaWorks08
import Derived.Test.YtdgijnolpjaheaaKitPick
import Derived.WalkKit
import Derived.WalkLawsBesides
import Derived.ProofKit
import Derived.OpenShut
import Derived.ShutString
import Derived.ChangeOld
import Derived.Below
import Derived.SizedLaws
namespace Go.Proofs.Ytdgijnolpjaheaa.checkBack
open Go.ChangeShapes Go.WideShapes Go.ChangeAt Go.RowKit
open Go.ChangeMaps (open_string shut_string)
set_option linter.unusedVariables false

theorem own : ownKnob Try.prog.godebug = none := by kernel_rfl
theorem laidOut : laidOutB Try.prog = true := by kernel_rfl

set_option maxRecDepth 100000 in
set_option maxHeartbeats 2000000 in
theorem walk (a0 : Int) (a1 : Int) (a2 : Option Addr) (cap2 : Nat) (l2 : List (List Nat)) (w : World) (b0 : -9223372036854775808 ≤ a0 ∧ a0 ≤ 9223372036854775807) (b1 : -9223372036854775808 ≤ a1 ∧ a1 ≤ 9223372036854775807) (k2 : IsRowsIn w w.heap.size a2 l2) (n2 : l2.length ≤ cap2) (r2 : cap2 ≤ maxLen) (z2 : a2 = none → cap2 = 0) :
    Calls Try.prog 5 #[.int .i64 a0, .int .i64 a1, .slice a2 l2.length cap2] w fun e w' => e = .returned (.bool true) ∧ Below w.heap.size w w' := by
  have HX := hid (And.intro k2 (And.intro r2 n2))
  have HG := hid (great_any w.heap.size a2 cap2 l2)
  clear k2 r2 z2 n2
  go_enter Try.func5, Try.ntmps5
  go_wp2_with fail
  refine (works_any w).mono ?_
  rintro e w1 ⟨rfl, hb1⟩
  have HB1 := hid hb1
  have HG1 := hid (HG.out w1 hb1.size (HX.out.1.below hb1))
  clear hb1 HG
  by_cases hgr : Ck.great l2 = true
  · rw [hgr] at HG1
    clear hgr
    go_wp2_with fail
    refine HG1.out.mono ?_
    rintro e w2 ⟨rfl, hb2⟩
    have HB2 := hid (HB1.out.trans (hb2.mono HB1.out.size))
    clear hb2
    go_wp2
    go_ret
    exact ⟨rfl, HB2.out⟩
  · have hgf : Ck.great l2 = false := by simpa using hgr
    rw [hgf] at HG1
    obtain ⟨hl60, hrows⟩ := Ck.great_iff.1 hgf
    have HRW := hid hrows
    clear hgr hgf hrows
    go_wp2_with fail
    refine HG1.out.mono ?_
    rintro e w2 ⟨rfl, hb2⟩
    have HB2 := hid (HB1.out.trans (hb2.mono HB1.out.size))
    clear hb2 HG1 HB1
    go_wp2_with fail
    refine (pick_lt a0 128 (by omega) (by omega) w2).mono ?_
    rintro e w3 ⟨⟨p, rfl, hp⟩, rfl⟩
    obtain ⟨N, hN⟩ : ∃ N : Nat, 1 + (p : Int) = (N : Int) := ⟨1 + p, by omega⟩
    have hNb : 1 ≤ N ∧ N ≤ 128 := by omega
    obtain ⟨hN1, hN2⟩ := hNb
    go_wp2_with fail
    refine (pick_lt a1 1073741824 (by omega) (by omega) w2).mono ?_
    rintro e w3 ⟨⟨P, rfl, hP⟩, rfl⟩
    obtain ⟨E0, hE0⟩ : ∃ E0 : Nat, 2 + (P : Int) = (E0 : Int) := ⟨2 + P, by omega⟩
    have hEb : 2 ≤ E0 ∧ E0 ≤ 1073741826 := by omega
    obtain ⟨hEb1, hEb2⟩ := hEb
    go_wp2_with fail
    clear hN hp hE0 hP
    refine (new_N (2 * N + 1) _ (by omega) (by omega) w2).mono ?_
    rintro e w3 ⟨d, rfl, hD, hb⟩
    have H3 : Hid (CK w w3 d (Sx.new (2 * N + 1)) 1 N 0 [] ∧ d.has d.g) := hid ⟨⟨⟨hD.mono (fun k hk => Nat.lt_of_lt_of_le hk HB2.out.size), HB2.out.trans (hb.mono HB2.out.size)⟩, Ck.inv_new (2 * N + 1) 1 N (by omega) (by omega) (by omega) []⟩, .inl rfl⟩
    clear hD hb
    go_wp2_with fail
    go_loopw [1, 9] (fun vE i wr => ∃ (k : Nat) (s : Sx.St) (E : Nat) (e : Int) (q : List Nat), k ≤ l2.length ∧ i = .int .i64 (k : Int) ∧ vE = .int .i64 (E : Int) ∧ 2 ≤ E ∧ E ≤ 1073741826 + k ∧
      Hid (CK w wr d s 1 N e q ∧ (s.armed = false ∧ s.down = false) ∧ e < E ∧ (Ck.slot 1 N E = Ck.slot 1 N (e + 1) ∨ e = 0))) (fun _ i _ => l2.length - (RowKit.intOf i).toNat)
    case atStart => exact ⟨0, _, E0, 0, [], by omega, rfl, rfl, by omega, by omega, hid ⟨H3.out.1, ⟨rfl, rfl⟩, by omega, .inr rfl⟩⟩
    case round =>
      obtain ⟨k, s, E, e, q, hk, rfl, rfl, hE1, hE2, HI⟩ := hrel
      by_cases hlt : k < l2.length
      · have hlt0 : (k : Int) < (l2.length : Int) := by omega
        obtain ⟨b, off, rfl, hbB, hcs⟩ := HX.out.1 k hlt
        obtain ⟨A', c', hck, hpb, hpc, hpz⟩ := hcs k hlt
        have hrl := HRW.out l2[k] (List.getElem_mem _)
        obtain ⟨pl, hpl⟩ : ∃ pl, pl = l2[k] := ⟨_, rfl⟩
        rw [← hpl] at hck hpb hpc hrl
        obtain ⟨m, hm⟩ : ∃ m, pl.length = m := ⟨_, rfl⟩
        rw [hm] at hck hpc hrl
        have HC : Hid (∀ w' : World, Below w.heap.size w w' → w'.cell? ⟨b, off + k, none⟩ = some (.slice A' m c') ∧ IsBytes w' w'.heap.size A' pl) := hid (fun w' hb => ⟨(hb.cell (p := ⟨b, off + k, none⟩) hbB).trans hck, (hpb.below hb).more hb.size⟩)
        have HQ := hid (And.intro hm (And.intro hpc hpz))
        have hcell := (HC.out wr HI.out.1.disk.bel).1
        clear hck hpb hpc hpz hcs hpl hm
        go_wp2_with fail
        by_cases hfit : Jo.secs m ≤ N
        · have hle : (m : Int) ≤ (N : Int) * 40 := by unfold Jo.secs at hfit; omega
          have hE3 : (E : Int) ≤ 1099511627776 := by omega
          refine (C.save_ok w wr d s 1 N e (E : Int) q HI.out.1 HI.out.2.1 ⟨HI.out.2.2.1, hE3⟩ HI.out.2.2.2 A' c' pl m HQ.out.1 (by omega) hfit HQ.out.2.1.1 HQ.out.2.1.2 HQ.out.2.2 (HC.out wr HI.out.1.disk.bel).2).mono ?_
          rintro e4 w4 ⟨rfl, h4⟩
          have ⟨s4, h40, h41, h42, h43, h44⟩ := h4.out
          have H4 := hid (And.intro h40 (And.intro h41 h42))
          have hcell4 := (HC.out w4 h40.disk.bel).1
          clear h4 h40 h41 h42 h43 h44
          go_wp2_with fail
          refine (C.load_CK w w4 d s4 1 N (E : Int) pl H4.out.1 (by omega) m HQ.out.1).mono ?_
          rintro e5 w5 ⟨A5, c5, rfl, H5⟩
          have hbel5 : Below w.heap.size w w5 := H4.out.1.disk.bel.trans (H5.out.2.mono H4.out.1.disk.bel.size)
          have HB5 := hid hbel5
          have hcell5 := (HC.out w5 hbel5).1
          clear hbel5 hcell4
          go_wp2_with fail
          refine (same_B A5 A' c5 c' pl m HQ.out.1 (by unfold maxLen; omega) w5 H5.out.1.reads (HC.out w5 HB5.out).2).mono ?_
          rintro e6 w6 ⟨rfl, hb6⟩
          have H6 := hid (H4.out.1.below (H5.out.2.trans (hb6.mono H5.out.2.size)))
          clear hb6 hcell5
          go_wp2_with fail
          refine (C.save_less w w6 d s4 1 N (E : Int) ((E : Int) - 1) pl H6.out H4.out.2 (by omega) (C.slot_pm _ _ _)).mono ?_
          rintro e7 w7 ⟨rfl, h7⟩
          have ⟨s7, h70, h71, h72, h73, h74⟩ := h7.out
          have H7 := hid (And.intro h70 (And.intro h71 h72))
          clear h7 h70 h71 h72 h73 h74
          go_wp2_with fail
          refine (C.load_CK w w7 d s7 1 N (E : Int) pl H7.out.1 (by omega) m HQ.out.1).mono ?_
          rintro e8 w8 ⟨A8, c8, rfl, H8⟩
          have hbel8 : Below w.heap.size w w8 := H7.out.1.disk.bel.trans (H8.out.2.mono H7.out.1.disk.bel.size)
          have HB8 := hid hbel8
          have hcell8 := (HC.out w8 hbel8).1
          clear hbel8
          go_wp2_with fail
          refine (same_B A8 A' c8 c' pl m HQ.out.1 (by unfold maxLen; omega) w8 H8.out.1.reads (HC.out w8 HB8.out).2).mono ?_
          rintro e9 w9 ⟨rfl, hb9⟩
          have H9 := hid (H7.out.1.below (H8.out.2.trans (hb9.mono H8.out.2.size)))
          clear hb9 hcell8
          go_wp2
          go_roundw
          case rel => exact ⟨k + 1, s7, E + 1, (E : Int), pl, by omega, by go_num, by go_num, by omega, by omega, hid ⟨H9.out, H7.out.2, by omega, .inl rfl⟩⟩
          case measure => simp [RowKit.intOf]; omega
        · have hle : ¬ (m : Int) ≤ (N : Int) * 40 := by unfold Jo.secs at hfit; omega
          refine (C.save_no w wr d s 1 N (E : Int) HI.out.1.disk HI.out.1.right ⟨by omega, by omega⟩ A' c' m (by omega) (by omega)).mono ?_
          rintro e4 w4 ⟨rfl, rfl⟩
          go_wp2
          go_roundw
          case rel => exact ⟨k + 1, s, E, e, q, by omega, by go_num, rfl, by omega, by omega, HI⟩
          case measure => simp [RowKit.intOf]; omega
      · have hlt0 : ¬ (k : Int) < (l2.length : Int) := by omega
        go_wp2
        go_ret
        exact ⟨rfl, HI.out.1.disk.bel⟩

set_option maxRecDepth 100000 in
theorem lifted (os : Os) (started : os.Started) (H : Type) (enc : TypeId × Value → H) :
    ReturnsInHanded {} Try.checked os 5 .any (Rows.checkBackSpec.pre6 enc Try.prog Try.f5 Rows.checkBackRow.domain false) (Rows.checkBackSpec.post enc Try.prog Try.f5 false true false false) := by
  refine returnsInHanded_of_change_sized (C := Try.checked) own started (by kernel_rfl) Try.func5
    (ChangeSpec.witness6 (enc := enc) (C := Try.checked) false ⟨#[], #[.int .i64 0, .int .i64 0, .slice none 0 0], []⟩ 8 (by kernel_rfl) (by kernel_rfl) (by kernel_rfl) (by kernel_rfl)) ?_
  intro W base args ds gs before hval0 hW hcnd hsz0 _
  have hsz : (DataW.weightsEach Try.prog (Try.f5.params.toList ++ Rows.checkBackSpec.plain.varTypes Try.prog) (ds ++ gs)).all (· ≤ reachBytes) = true := hsz0
  clear hsz0
  have hval : ∀ (j : Nat) t v, Try.f5.params[j]? = some t → args[j]? = some v → Value.okWide Try.prog W .any base t v := hval0
  have hW' := hW
  obtain ⟨p, q, hA0, hV, rfl, hfz, hnd⟩ := hW
  have hA : DataW.TrodAll enc Try.prog W 0 (fun _ => true) true Try.f5.params.toList args.toList ds p := hA0
  rw [Try.params5] at hA hval hsz
  obtain ⟨v0, vs0, d0, ds0, p0, q0, hargs, rfl, rfl, g0, t0⟩ := trodAll_cons hA
  obtain ⟨v1, vs1, d1, ds1, p1, q1, rfl, rfl, rfl, g1, t1⟩ := trodAll_cons t0
  obtain ⟨v2, vs2, d2, ds2, p2, q2, rfl, rfl, rfl, g2, t2⟩ := trodAll_cons t1
  obtain ⟨rfl, rfl, rfl⟩ := trodAll_nil t2
  obtain rfl : args = #[v0, v1, v2] := by cases args; simp_all
  obtain ⟨rfl, rfl⟩ := trodVars_none hV
  obtain ⟨a0, rfl, rfl, rfl, w0⟩ := open_int Try.underlying3 (hval 0 3 v0 rfl rfl) g0
  have b0 := bounds_i64 w0
  obtain ⟨a1, rfl, rfl, rfl, w1⟩ := open_int Try.underlying3 (hval 1 3 v1 rfl rfl) g1
  have b1 := bounds_i64 w1
  obtain ⟨a2, len2, cap2, rfl⟩ := okWide_slice Try.underlying22 (hval 2 22 v2 rfl rfl)
  have m2 := g2
  have lt2 : ∀ x ∈ p2, x.block < W.heap.size := by obtain ⟨m, hm⟩ := m2; exact DataW.trod_lt m _ _ _ hm
  obtain ⟨l2, k2, rfl, n2, r2, z2⟩ : ∃ l, IsRowsIn W W.heap.size a2 l ∧ len2 = l.length ∧ l.length ≤ cap2 ∧ cap2 ≤ maxLen ∧ (a2 = none → cap2 = 0) := by
    obtain ⟨fuel, hf⟩ := g2
    obtain ⟨a, c, ts, hcs, h1, h2, h3⟩ := rows_of_trod hf
    simp [Value.cells] at hcs
    obtain ⟨rfl, rfl, rfl⟩ := hcs
    exact ⟨ts, h1, rfl, h2.1, h2.2, h3⟩
  clear hA0 hval0
  refine (walk a0 a1 a2 cap2 l2 W b0 b1 k2 n2 r2 z2).mono fun e W' ⟨he, bel⟩ => ?_
  subst he
  exact ⟨_, rfl, _, _, _, [], _, [], hW', trodAll_mk1 (shut_bool Try.underlying4 _), (trodAll_cons_mk (shut_int Try.underlying3 w0) (trodAll_cons_mk (shut_int Try.underlying3 w1) (trodAll_cons_mk (Below.trod laidOut (by kernel_rfl) (of_decide_eq_true (by kernel_rfl)) m2 bel lt2) trodAll_mk0))), rfl, bel.frame _, fun h => by cases h⟩

theorem over : Rows.checkBackRow.holds Try.pinned (OpenSpec.ofChange Rows.checkBackSpec) :=
  OpenClaim.holds_of_wide 5 Try.f5 rfl rfl rfl rfl rfl rfl rfl ⟨rfl, rfl, rfl, rfl, rfl⟩ rfl rfl rfl rfl rfl (by kernel_rfl) Try.func5 (by kernel_rfl)
    (of_decide_eq_true (by kernel_rfl)) (by unfold Func.isWrapper; first | (rw [if_pos (by decide +kernel)]; kernel_rfl) | (rw [if_neg (by decide +kernel)]; exact ⟨rfl, rfl⟩))
    (fun os started H enc _ => lifted os started H enc)

theorem proved : Rows.CheckBackSaid := over
end Go.Proofs.Ytdgijnolpjaheaa.checkBack
