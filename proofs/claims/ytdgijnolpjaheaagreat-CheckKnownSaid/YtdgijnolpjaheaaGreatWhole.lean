/- The examples of the chapter, sectors that are turned, checkpoints cut amid, are as the document says. Conditions: none. -/
import Derived.Test.YtdgijnolpjaheaaGreatRows
import Derived.Test.YtdgijnolpjaheaaGreatPartAN
import Derived.Test.YtdgijnolpjaheaaGreatPartAZ
import Derived.Test.YtdgijnolpjaheaaGreatPartBB
import Derived.Test.YtdgijnolpjaheaaGreatPartBD
import Derived.Test.YtdgijnolpjaheaaGreatPartBF
import Derived.WalkKit
import Derived.WalkLawsBesides
import Derived.ProofKit
import Derived.OpenShut
import Derived.ShutString
import Derived.ChangeOld
import Derived.Below
import Derived.SizedLaws
namespace Go.Proofs.YtdgijnolpjaheaaGreat.checkKnown
open Go.ChangeShapes Go.WideShapes Go.ChangeAt Go.RowKit
open Go.ChangeMaps (open_string shut_string)
set_option linter.unusedVariables false

theorem own : ownKnob Tryz.prog.godebug = none := by kernel_rfl
theorem laidOut : laidOutB Tryz.prog = true := by kernel_rfl

theorem runs7 (g : Nat) (ts : List Ck.Op) (h : Shape7 ts) (w : World) (ho : Ck.IsOps w w.heap.size (some ⟨g, 0, none⟩) ts) :
    Calls Tryz.prog 5 #[.int .i64 10, .slice (some ⟨g, 0, none⟩) 7 7] w fun e w' => e = .returned (.bool true) ∧ Below w.heap.size w w' := by
  have hlen : ts.length = 7 := by simpa using congrArg List.length h
  have := runs_any (some ⟨g, 0, none⟩) 7 ts (Ck.fine7 h).1 (Ck.fine7 h).2 w ho
  rwa [hlen] at this

set_option maxRecDepth 100000 in
set_option maxHeartbeats 3200000 in
theorem walk (w : World) : Calls Tryz.prog 3 #[] w fun e w' => e = .returned (.bool true) ∧ Below w.heap.size w w' := by
  have hn0 : IsInts (w.alloc (.cells (ints ten).toArray 3)) (w.heap.size + 1) (some ⟨w.heap.size, 0, none⟩) ten := isInts_new w ten ten_in 3 (0, 0)
  have hb0 : Below w.heap.size w (w.alloc (.cells (ints ten).toArray 3)) := (Below.refl _ _).alloc (Nat.le_refl _) _
  have hsz0 : w.heap.size + 1 = (w.alloc (.cells (ints ten).toArray 3)).heap.size := by simp
  go_enter Tryz.func3, Tryz.ntmps3
  go_wp2_with fail
  obtain ⟨wn, hwn⟩ : ∃ wn : World, wn = w.alloc (.cells (ints ten).toArray 3) := ⟨_, rfl⟩
  rw [← hwn] at hn0 hb0 hsz0
  unfold ints ten at hwn
  simp only [List.map_cons, List.map_nil] at hwn
  rw [← hwn]
  obtain ⟨N, hN⟩ : ∃ N, N = w.heap.size := ⟨_, rfl⟩
  rw [← hN] at hn0 hsz0 ⊢
  have HN0 : Hid (IsInts wn wn.heap.size (some ⟨N, 0, none⟩) ten) := by rw [← hsz0]; exact hn0
  have HB0 : Hid (Below N w wn) := by rw [hN]; exact hb0
  have HNE := hid hN
  clear hwn hN hsz0 hb0 hn0
  go_loopw [2] (fun i wr => ∃ k : Nat, k ≤ 16 ∧ i = .int .i64 k ∧ Hid (Below wn.heap.size wn wr)) (fun i _ => 16 - (RowKit.intOf i).toNat)
  case atStart => exact ⟨0, by omega, rfl, hid (Below.refl _ _)⟩
  case round =>
    obtain ⟨i, hi16, rfl, hbl⟩ := hrel
    by_cases hlt : i < 16
    · have hi0 : (i : Int) < 16 := by omega
      go_wp2_with fail
      go_loopw [3] (fun k wr => ∃ j : Nat, j ≤ 16 ∧ k = .int .i64 j ∧ Hid (Below wn.heap.size wn wr)) (fun k _ => 16 - (RowKit.intOf k).toNat)
      case atStart => exact ⟨0, by omega, rfl, hbl⟩
      case round =>
        clear hbl
        obtain ⟨k, hk16, rfl, hbl⟩ := hrel
        by_cases hlk : k < 16
        · have hk0 : (k : Int) < 16 := by omega
          go_wp2_with fail
          refine region8L (base := wn) (N := N) (i := i) (k := k) HN0.out (by kernel_rfl) rfl rfl rfl hlt hlk hbl.out (fun u g ts wz hts hops hbz => ?_)
          have HC := hid (runs7 g ts hts wz hops)
          have HBZ := hid hbz
          clear hbl hts hops hbz
          go_wp2_with fail
          refine HC.out.mono ?_
          rintro e w5 ⟨rfl, hb5⟩
          have HB5 := hid (HBZ.out.trans (hb5.mono HBZ.out.size))
          clear hb5 HC HBZ
          go_wp2_with fail
          go_roundw
          case rel => exact ⟨k + 1, by omega, by go_num, HB5⟩
          case measure => simp [RowKit.intOf]; omega
        · obtain rfl : k = 16 := by omega
          go_wp2_with fail
          go_roundw
          case rel => exact ⟨i + 1, by omega, by go_num, hbl⟩
          case measure => simp [RowKit.intOf]; omega
    · obtain rfl : i = 16 := by omega
      have HBW : Hid (Below w.heap.size w wr) := hid (by
        have h1 := HB0.out
        rw [HNE.out] at h1
        exact h1.trans (hbl.out.mono h1.size))
      clear hbl
      go_wp2_with fail
      refine (turned_any wr).mono ?_
      rintro e w6 ⟨rfl, hb6⟩
      have HB6 := hid (HBW.out.trans (hb6.mono HBW.out.size))
      clear hb6
      go_wp2_with fail
      refine (cuts_any w6).mono ?_
      rintro e w7 ⟨rfl, hb7⟩
      have HB7 := hid (HB6.out.trans (hb7.mono HB6.out.size))
      clear hb7
      go_wp2_with fail
      refine (works_any w7).mono ?_
      rintro e w8 ⟨rfl, hb8⟩
      have HB8 := hid (HB7.out.trans (hb8.mono HB7.out.size))
      clear hb8
      go_wp2_with fail
      go_ret
      exact ⟨rfl, HB8.out⟩

set_option maxRecDepth 100000 in
theorem lifted (os : Os) (started : os.Started) (H : Type) (enc : TypeId × Value → H) :
    ReturnsInHanded {} Tryz.checked os 3 .any (Rows.checkKnownSpec.pre6 enc Tryz.prog Tryz.f3 Rows.checkKnownRow.domain false) (Rows.checkKnownSpec.post enc Tryz.prog Tryz.f3 false true false false) := by
  refine returnsInHanded_of_change_sized (C := Tryz.checked) own started (by kernel_rfl) Tryz.func3
    (ChangeSpec.witness6 (enc := enc) (C := Tryz.checked) false ⟨#[], #[], []⟩ 8 (by kernel_rfl) (by kernel_rfl) (by kernel_rfl) (by kernel_rfl)) ?_
  intro W base args ds gs before hval0 hW hcnd hsz0 _
  have hsz : (DataW.weightsEach Tryz.prog (Tryz.f3.params.toList ++ Rows.checkKnownSpec.plain.varTypes Tryz.prog) (ds ++ gs)).all (· ≤ reachBytes) = true := hsz0
  clear hsz0
  have hval : ∀ (j : Nat) t v, Tryz.f3.params[j]? = some t → args[j]? = some v → Value.okWide Tryz.prog W .any base t v := hval0
  have hW' := hW
  obtain ⟨p, q, hA0, hV, rfl, hfz, hnd⟩ := hW
  have hA : DataW.TrodAll enc Tryz.prog W 0 (fun _ => true) true Tryz.f3.params.toList args.toList ds p := hA0
  rw [Tryz.params3] at hA hval hsz
  obtain ⟨rfl, rfl, rfl⟩ := trodAll_none hA
  obtain ⟨rfl, rfl⟩ := trodVars_none hV
  clear hA0 hval0
  refine (walk  W ).mono fun e W' ⟨he, bel⟩ => ?_
  subst he
  exact ⟨_, rfl, _, _, _, [], _, [], hW', trodAll_mk1 (shut_bool Tryz.underlying4 _), trodAll_mk0, rfl, bel.frame _, fun h => by cases h⟩

theorem over : Rows.checkKnownRow.holds Tryz.pinned (OpenSpec.ofChange Rows.checkKnownSpec) :=
  OpenClaim.holds_of_wide 3 Tryz.f3 rfl rfl rfl rfl rfl rfl rfl ⟨rfl, rfl, rfl, rfl, rfl⟩ rfl rfl rfl rfl rfl (by kernel_rfl) Tryz.func3 (by kernel_rfl)
    (of_decide_eq_true (by kernel_rfl)) (by unfold Func.isWrapper; first | (rw [if_pos (by decide +kernel)]; kernel_rfl) | (rw [if_neg (by decide +kernel)]; exact ⟨rfl, rfl⟩))
    (fun os started H enc _ => lifted os started H enc)

theorem proved : Rows.CheckKnownSaid := over
end Go.Proofs.YtdgijnolpjaheaaGreat.checkKnown
