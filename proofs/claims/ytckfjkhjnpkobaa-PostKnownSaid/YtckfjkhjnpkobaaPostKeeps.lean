/- All that is under way was sent, from and to as it was, but for one bit of it at the most; never more than 256 packets are. Conditions: none. -/
import Derived.Test.YtckfjkhjnpkobaaRows
import Derived.Test.YtckfjkhjnpkobaaLawPoB
import Derived.WalkKit
import Derived.WalkLawsBesides
import Derived.ProofKit
import Derived.OpenShut
import Derived.ShutString
import Derived.ChangeOld
import Derived.Below
import Derived.SizedLaws
namespace Go.Proofs.Ytckfjkhjnpkobaa.postKeeps
open Go.ChangeShapes Go.WideShapes Go.ChangeAt Go.RowKit
open Go.ChangeMaps (open_string shut_string)
set_option linter.unusedVariables false

theorem own : ownKnob Try.prog.godebug = none := by kernel_rfl
theorem laidOut : laidOutB Try.prog = true := by kernel_rfl

theorem len_N (w0 : World) (g : Nat) (s : Po.St) (n : Nat) (hn : s.l.length = n) (w : World) (h : OwnP w0 w g s) :
    Calls Try.prog 12 #[.pointer (some ⟨g, 0, none⟩)] w fun e w' => e = .returned (.int .i64 (n : Nat)) ∧ w' = w := by
  subst hn; exact len_O w0 g s w h
theorem all_O (w0 : World) (g : Nat) (s : Po.St) (n : Nat) (hn : s.l.length = n) (w : World) (h : OwnP w0 w g s) :
    Calls Try.prog 13 #[.pointer (some ⟨g, 0, none⟩)] w fun e w' => ∃ A2 c2, e = .returned (.slice A2 n c2) ∧ OwnP w0 w' g s ∧ IsPks w' A2 (s.l.map fun q => q.1) := by
  subst hn
  obtain ⟨F, hP, hF, hB⟩ := h
  refine (all_any F g s w hP).mono ?_
  rintro e w' ⟨A2, c2, he, hb, F2, L2, hA, hp, _⟩
  exact ⟨A2, c2, he, ⟨F, hP.below hb, hF, hB.trans (hb.mono hB.size)⟩, by rw [← hp]; exact hA.reads⟩

set_option maxHeartbeats 1600000 in
set_option maxRecDepth 100000 in
theorem core (a0 : Option Addr) (cap0 : Nat) (l0 : List Po.Op) (w : World) (k0 : IsOps w w.heap.size a0 l0) :
    Calls Try.prog 5 #[.slice a0 l0.length cap0] w fun e w' => e = .returned (.bool true) ∧ Below w.heap.size w w' := by
  have HK := hid k0
  clear k0
  go_enter Try.func5, Try.ntmps5
  go_wp2_with fail
  refine (works_any w).mono ?_
  rintro e w1 ⟨rfl, hb1⟩
  have HB1 := hid hb1
  clear hb1
  have HL := hid (long_any w.heap.size a0 cap0 l0 w1 (HK.out.below HB1.out))
  cases hlg : Po.long l0
  · obtain ⟨hlen, hds⟩ := Po.long_iff.1 hlg
    have HDS := hid (And.intro hlen hds)
    rw [hlg] at HL
    clear hlg hlen hds
    go_wp2_with fail
    refine HL.out.mono ?_
    rintro e w2 ⟨rfl, hw2⟩
    subst hw2
    go_wp2_with fail
    refine (new_O _).mono ?_
    rintro e w3 ⟨rfl, hO3⟩
    have hR := run_O _ _ _ a0 cap0 l0 HDS.out.2 HDS.out.1 w3 hO3 (((HK.out.below HB1.out).more HB1.out.size).below hO3.bel)
    have HR := hid hR
    have HS : Hid (Po.AllSent l0 (l0.foldl Po.step Po.new)) := hid (Po.all_sent l0)
    clear hO3 hR HL
    go_wp2_with fail
    refine HR.out.mono ?_
    rintro e w4 ⟨rfl, hO4⟩
    obtain ⟨s, hs⟩ : ∃ s, s = l0.foldl Po.step Po.new := ⟨_, rfl⟩
    rw [← hs] at hO4 HS
    have H4 := hid hO4
    have hn := hO4.len
    obtain ⟨n, hnn⟩ : ∃ n, s.l.length = n := ⟨_, rfl⟩
    rw [hnn] at hn
    have HN := hid hnn
    have hn1 : ¬ (256 : Int) < (n : Int) := by omega
    clear hs hO4 HR hnn
    go_wp2_with fail
    refine (all_O w2 _ s n HN.out w4 H4.out).mono ?_
    rintro e w5 ⟨A5, c5, rfl, hO5, hp5⟩
    have H5 := hid (And.intro hO5 hp5)
    clear hO5 hp5 H4
    go_wp2_with fail
    refine (len_N w2 _ s n HN.out w5 H5.out.1).mono ?_
    rintro e w6 ⟨rfl, hw6⟩
    subst hw6
    go_wp2_with fail
    go_loopw [5] (fun i wr => ∃ k : Nat, k ≤ n ∧ i = .int .i64 k ∧ Hid (Below w6.heap.size w6 wr)) (fun i _ => n - (RowKit.intOf i).toNat)
    case atStart => exact ⟨0, by omega, rfl, hid (Below.refl _ _)⟩
    case round =>
      obtain ⟨k, hk, rfl, hS⟩ := hrel
      by_cases hlt : k < n
      · have hlt' : k < (s.l.map fun q => q.1).length := by rw [List.length_map, HN.out]; exact hlt
        have hks : k < s.l.length := by rw [HN.out]; exact hlt
        obtain ⟨b, off, rfl, hbl, hc⟩ := (H5.out.2.below hS.out) k hlt'
        obtain ⟨ap, cp, d0, d1, d2, hp, hm, hcp⟩ := hc k hlt'
        have ex : (s.l.map fun q => q.1)[k] = s.l[k].1 := by simp
        rw [ex] at d0 d1 d2 hp hm
        have hk0 : (k : Int) < (n : Int) := by omega
        obtain ⟨j, hj, j1, j2, j3, j4⟩ := Po.sent_near (HS.out s.l[k] (List.getElem_mem hks))
        have hbw : Below w.heap.size w wr := (HB1.out.trans (H5.out.1.bel.mono HB1.out.size)).trans (hS.out.mono (Nat.le_trans HB1.out.size H5.out.1.bel.size))
        have HC := hid (was_any w.heap.size a0 cap0 l0 HDS.out.2 HDS.out.1 ap cp s.l[k].1 j hj j1 j2 j3 j4 wr (HK.out.below hbw) hbw.size hp)
        clear hc hp hm hcp ex j1 j2 j3 j4 hbw hlt' hbl
        go_wp2_with fail
        refine HC.out.mono ?_
        rintro e w7 ⟨rfl, hb7⟩
        have H7 : Hid (Below w6.heap.size w6 w7) := hid (hS.out.trans (hb7.mono hS.out.size))
        clear hb7 HC d0 d1 d2 hS
        go_wp2_with fail
        go_roundw
        case rel => exact ⟨k + 1, by omega, by go_num, H7⟩
        case measure => simp [RowKit.intOf]; omega
      · obtain rfl : k = n := by omega
        have hkk : ¬ (k : Int) < (k : Int) := by omega
        go_wp2_with fail
        go_ret
        exact ⟨rfl, (HB1.out.trans (H5.out.1.bel.mono HB1.out.size)).trans (hS.out.mono (Nat.le_trans HB1.out.size H5.out.1.bel.size))⟩
  · rw [hlg] at HL
    clear hlg
    go_wp2_with fail
    refine HL.out.mono ?_
    rintro e w2 ⟨rfl, hw2⟩
    subst hw2
    go_wp2_with fail
    go_ret
    exact ⟨rfl, HB1.out⟩
theorem walk (a0 : Option Addr) (cap0 : Nat) (l0 : List Po.Op) (w : World)
    (k0 : IsOps w w.heap.size a0 l0) (n0 : l0.length ≤ cap0) (r0 : cap0 ≤ maxLen) (z0 : a0 = none → cap0 = 0) :
    Calls Try.prog 5 #[.slice a0 l0.length cap0] w fun e w' => e = .returned (.bool true) ∧ Below w.heap.size w w' :=
  core a0 cap0 l0 w k0

set_option maxRecDepth 100000 in
theorem lifted (os : Os) (started : os.Started) (H : Type) (enc : TypeId × Value → H) :
    ReturnsInHanded {} Try.checked os 5 .any (Rows.postKeepsSpec.pre6 enc Try.prog Try.f5 Rows.postKeepsRow.domain false) (Rows.postKeepsSpec.post enc Try.prog Try.f5 false true false false) := by
  refine returnsInHanded_of_change_sized (C := Try.checked) own started (by kernel_rfl) Try.func5
    (ChangeSpec.witness6 (enc := enc) (C := Try.checked) false ⟨#[], #[.slice none 0 0], []⟩ 8 (by kernel_rfl) (by kernel_rfl) (by kernel_rfl) (by kernel_rfl)) ?_
  intro W base args ds gs before hval0 hW hcnd hsz0 _
  have hsz : (DataW.weightsEach Try.prog (Try.f5.params.toList ++ Rows.postKeepsSpec.plain.varTypes Try.prog) (ds ++ gs)).all (· ≤ reachBytes) = true := hsz0
  clear hsz0
  have hval : ∀ (j : Nat) t v, Try.f5.params[j]? = some t → args[j]? = some v → Value.okWide Try.prog W .any base t v := hval0
  have hW' := hW
  obtain ⟨p, q, hA0, hV, rfl, hfz, hnd⟩ := hW
  have hA : DataW.TrodAll enc Try.prog W 0 (fun _ => true) true Try.f5.params.toList args.toList ds p := hA0
  rw [Try.params5] at hA hval hsz
  obtain ⟨v0, vs0, d0, ds0, p0, q0, hargs, rfl, rfl, g0, t0⟩ := trodAll_cons hA
  obtain ⟨rfl, rfl, rfl⟩ := trodAll_nil t0
  obtain rfl : args = #[v0] := by cases args; simp_all
  obtain ⟨rfl, rfl⟩ := trodVars_none hV
  obtain ⟨a0, len0, cap0, rfl⟩ := okWide_slice Try.underlying22 (hval 0 22 v0 rfl rfl)
  have m0 := g0
  have lt0 : ∀ x ∈ p0, x.block < W.heap.size := by obtain ⟨m, hm⟩ := m0; exact DataW.trod_lt m _ _ _ hm
  obtain ⟨l0, k0, rfl, n0, r0, z0⟩ : ∃ l, IsOps W W.heap.size a0 l ∧ len0 = l.length ∧ l.length ≤ cap0 ∧ cap0 ≤ maxLen ∧ (a0 = none → cap0 = 0) := by
    obtain ⟨fuel, hf⟩ := g0
    obtain ⟨a, c, ts, hcs, h1, h2, h3⟩ := ops_of_trod hf
    simp [Value.cells] at hcs
    obtain ⟨rfl, rfl, rfl⟩ := hcs
    exact ⟨ts, h1, rfl, h2.1, h2.2, h3⟩
  clear hA0 hval0
  refine (walk a0 cap0 l0 W k0 n0 r0 z0).mono fun e W' ⟨he, bel⟩ => ?_
  subst he
  exact ⟨_, rfl, _, _, _, [], _, [], hW', trodAll_mk1 (shut_bool Try.underlying4 _), (trodAll_cons_mk (Below.trod laidOut (by kernel_rfl) (of_decide_eq_true (by kernel_rfl)) m0 bel lt0) trodAll_mk0), rfl, bel.frame _, fun h => by cases h⟩

theorem over : Rows.postKeepsRow.holds Try.pinned (OpenSpec.ofChange Rows.postKeepsSpec) :=
  OpenClaim.holds_of_wide 5 Try.f5 rfl rfl rfl rfl rfl rfl rfl ⟨rfl, rfl, rfl, rfl, rfl⟩ rfl rfl rfl rfl rfl (by kernel_rfl) Try.func5 (by kernel_rfl)
    (of_decide_eq_true (by kernel_rfl)) (by unfold Func.isWrapper; first | (rw [if_pos (by decide +kernel)]; kernel_rfl) | (rw [if_neg (by decide +kernel)]; exact ⟨rfl, rfl⟩))
    (fun os started H enc _ => lifted os started H enc)

theorem proved : Rows.PostKeepsSaid := over
end Go.Proofs.Ytckfjkhjnpkobaa.postKeeps
