/- The examples of the chapter, all members of few nodes, are as the document says. Conditions: none. -/
import Derived.Test.YtblhfbijffaacaaRows
import Derived.Test.YtblhfbijffaacaaKnown10
import Derived.Test.YtblhfbijffaacaaLawKit10
import Derived.Test.YtblhfbijffaacaaQuorumTells
import Derived.Test.YtblhfbijffaacaaQuorumAgrees
import Derived.Test.YtblhfbijffaacaaQuorumMeets
import Derived.Test.YtblhfbijffaacaaQuorumMore
import Derived.Test.YtblhfbijffaacaaQuorumReached
import Derived.Deep.CutRange
import Derived.Deep.RegionHeld3
import Derived.WalkKit
import Derived.WalkLawsBesides
import Derived.ProofKit
import Derived.OpenShut
import Derived.ShutString
import Derived.ChangeOld
import Derived.Below
import Derived.SizedLaws
namespace Go.Proofs.Ytblhfbijffaacaa.quorumKnown
open Go.ChangeShapes Go.WideShapes Go.ChangeAt Go.RowKit
open Go.ChangeMaps (open_string shut_string)
set_option linter.unusedVariables false

theorem own : ownKnob Try.prog.godebug = none := by kernel_rfl
theorem laidOut : laidOutB Try.prog = true := by kernel_rfl

theorem tells_k (c0 : Qu.Cf) (a00 a01 a02 : Option Addr) (k00 k01 k02 : Nat) (w : World) (hc : CIs w w.heap.size c0 a00 a01 a02 k00 k01 k02) (A : Option Addr) (c q : Nat) (l : List Int) (hq : l.length = q) (h7 : q ≤ 7) (hi : IsInts w w.heap.size A l) :
    Calls Try.prog 3 #[.agg #[.slice a00 c0.old.length k00, .slice a01 c0.new.length k01, .slice a02 c0.lrn.length k02], .slice A q c] w fun e w' => e = .returned (.bool true) ∧ Below w.heap.size w w' := by
  subst hq
  exact quorumTells.core w.heap.size c0 a00 a01 a02 k00 k01 k02 A c l w hc hi (by unfold maxLen; omega) (Nat.le_refl _)
theorem more_k (c0 : Qu.Cf) (a00 a01 a02 : Option Addr) (k00 k01 k02 : Nat) (w : World) (hc : CIs w w.heap.size c0 a00 a01 a02 k00 k01 k02) (A : Option Addr) (c q : Nat) (l : List Int) (hq : l.length = q) (h7 : q ≤ 7) (hi : IsInts w w.heap.size A l) (hz : A = none → c = 0) (g : Addr) (c2 q2 : Nat) (l2 : List Int) (hq2 : l2.length = q2) (h72 : q2 ≤ 7) (hi2 : IsInts w w.heap.size (some g) l2) :
    Calls Try.prog 6 #[.agg #[.slice a00 c0.old.length k00, .slice a01 c0.new.length k01, .slice a02 c0.lrn.length k02], .slice A q c, .slice (some g) q2 c2] w fun e w' => e = .returned (.bool true) ∧ Below w.heap.size w w' := by
  subst hq hq2
  exact quorumMore.core w.heap.size c0 a00 a01 a02 k00 k01 k02 A c l (some g) c2 l2 w hc hi (by unfold maxLen; omega) hz hi2 (by unfold maxLen; omega) (fun h => by cases h) (Nat.le_refl _)
theorem meets_k (c0 : Qu.Cf) (a00 a01 a02 : Option Addr) (k00 k01 k02 : Nat) (w : World) (hc : CIs w w.heap.size c0 a00 a01 a02 k00 k01 k02) (A : Option Addr) (c q : Nat) (l : List Int) (hq : l.length = q) (h7 : q ≤ 7) (hi : IsInts w w.heap.size A l) (A2 : Option Addr) (c2 q2 : Nat) (l2 : List Int) (hq2 : l2.length = q2) (h72 : q2 ≤ 7) (hi2 : IsInts w w.heap.size A2 l2) :
    Calls Try.prog 5 #[.agg #[.slice a00 c0.old.length k00, .slice a01 c0.new.length k01, .slice a02 c0.lrn.length k02], .slice A q c, .slice A2 q2 c2] w fun e w' => e = .returned (.bool true) ∧ Below w.heap.size w w' := by
  subst hq hq2
  exact quorumMeets.core w.heap.size c0 a00 a01 a02 k00 k01 k02 A c l A2 c2 l2 w hc hi (by unfold maxLen; omega) hi2 (by unfold maxLen; omega) (Nat.le_refl _)
theorem agrees_k (c0 : Qu.Cf) (a00 a01 a02 : Option Addr) (k00 k01 k02 : Nat) (w : World) (hc : CIs w w.heap.size c0 a00 a01 a02 k00 k01 k02) (A : Option Addr) (c q : Nat) (l : List Int) (hq : l.length = q) (h7 : q ≤ 7) (hi : IsInts w w.heap.size A l) (A2 : Option Addr) (c2 q2 : Nat) (l2 : List Int) (hq2 : l2.length = q2) (h72 : q2 ≤ 7) (hi2 : IsInts w w.heap.size A2 l2) :
    Calls Try.prog 4 #[.agg #[.slice a00 c0.old.length k00, .slice a01 c0.new.length k01, .slice a02 c0.lrn.length k02], .slice A q c, .slice A2 q2 c2] w fun e w' => e = .returned (.bool true) ∧ Below w.heap.size w w' := by
  subst hq hq2
  exact quorumAgrees.core w.heap.size c0 a00 a01 a02 k00 k01 k02 A c l A2 c2 l2 w hc hi (by unfold maxLen; omega) hi2 (by unfold maxLen; omega) (Nat.le_refl _)
theorem reached_k (c0 : Qu.Cf) (a00 a01 a02 : Option Addr) (k00 k01 k02 : Nat) (w : World) (hc : CIs w w.heap.size c0 a00 a01 a02 k00 k01 k02) (A : Option Addr) (c q : Nat) (l : List Int) (hq : l.length = q) (h7 : q ≤ 7) (hi : IsInts w w.heap.size A l) (A2 : Option Addr) (c2 q2 : Nat) (l2 : List Int) (hq2 : l2.length = q2) (h72 : q2 ≤ 7) (hi2 : IsInts w w.heap.size A2 l2) (k : Int) :
    Calls Try.prog 7 #[.agg #[.slice a00 c0.old.length k00, .slice a01 c0.new.length k01, .slice a02 c0.lrn.length k02], .slice A q c, .slice A2 q2 c2, .int .i64 k, .int .i64 8] w fun e w' => e = .returned (.bool true) ∧ Below w.heap.size w w' := by
  subst hq hq2
  exact quorumReached.core w.heap.size c0 a00 a01 a02 k00 k01 k02 A c l A2 c2 l2 w hc hi (by unfold maxLen; omega) hi2 (by unfold maxLen; omega) k 8 (by unfold InInt; omega) (Nat.le_refl _)
theorem lit_k {w w' : World} {t : TypeId} (l : List Int) (h : w' = w.alloc (.cells (ints l).toArray t)) (hs : ∀ x ∈ l, InInt x) : IsInts w' w'.heap.size (some ⟨w.heap.size, 0, none⟩) l ∧ Below w.heap.size w w' := by
  subst h
  have := isInts_new w l hs t (0, 0)
  rw [World.size_alloc]
  exact ⟨this, (Below.refl _ _).alloc (Nat.le_refl _) _⟩
theorem drop_k {w : World} {B g : Nat} {l : List Int} (h : IsInts w B (some ⟨g, 0, none⟩) l) (k : Nat) : IsInts w B (some ⟨g, k, none⟩) (l.drop k) := by
  refine ⟨fun x hx => h.small x (List.mem_of_mem_drop hx), fun j hj => ?_⟩
  rw [List.length_drop] at hj
  obtain ⟨b, off, e, hb, hc⟩ := h.cells (k + j) (by omega)
  injection e with e
  injection e with e1 e2
  subst e1 e2
  refine ⟨g, k, rfl, hb, fun i hi => ?_⟩
  rw [List.length_drop] at hi
  have := hc (k + i) (by omega)
  rw [Nat.zero_add] at this
  rw [this, List.getElem_drop]
def r7 : List Int := [7, 5, 9, 0, -1, 7, 9223372036854775807]
theorem small_r7 : ∀ x ∈ r7, InInt x := by decide
theorem g1_k (c0 : Qu.Cf) (a00 a01 a02 : Option Addr) (k00 k01 k02 : Nat) (w : World) (hc : CIs w w.heap.size c0 a00 a01 a02 k00 k01 k02) (g n : Nat) (hn : n ≤ 7) (hr : IsInts w w.heap.size (some ⟨g, 0, none⟩) r7) :
    Calls Try.prog 4 #[.agg #[.slice a00 c0.old.length k00, .slice a01 c0.new.length k01, .slice a02 c0.lrn.length k02], .slice (some ⟨w.heap.size, 0, none⟩) 7 7, .slice (some ⟨g, 0, none⟩) n 7] (w.alloc (.cells #[.int .i64 1, .int .i64 2, .int .i64 3, .int .i64 4, .int .i64 5, .int .i64 6, .int .i64 7] 3)) fun e w' => e = .returned (.bool true) ∧ Below w.heap.size w w' := by
  obtain ⟨w2, hw2⟩ : ∃ w2, w2 = w.alloc (.cells #[.int .i64 1, .int .i64 2, .int .i64 3, .int .i64 4, .int .i64 5, .int .i64 6, .int .i64 7] 3) := ⟨_, rfl⟩
  obtain ⟨hl, hb⟩ := lit_k [1, 2, 3, 4, 5, 6, 7] hw2 (by decide)
  rw [← hw2]
  clear hw2
  have hq : (r7.take n).length = n := by rw [List.length_take]; exact Nat.min_eq_left hn
  exact (agrees_k c0 a00 a01 a02 k00 k01 k02 w2 ((hc.below hb).more hb.size) _ 7 7 [1, 2, 3, 4, 5, 6, 7] rfl (by omega) hl _ 7 n (r7.take n) hq hn (((hr.below hb).more hb.size).take n)).mono (fun e w'' hh => ⟨hh.1, bthen hb hh.2 hb.size⟩)
theorem g2_k (c0 : Qu.Cf) (a00 a01 a02 : Option Addr) (k00 k01 k02 : Nat) (w : World) (hc : CIs w w.heap.size c0 a00 a01 a02 k00 k01 k02) (g : Nat) (n : Int) (hr : IsInts w w.heap.size (some ⟨g, 0, none⟩) r7) :
    Calls Try.prog 7 #[.agg #[.slice a00 c0.old.length k00, .slice a01 c0.new.length k01, .slice a02 c0.lrn.length k02], .slice (some ⟨w.heap.size, 0, none⟩) 7 7, .slice (some ⟨g, 0, none⟩) 7 7, .int .i64 n, .int .i64 8] (w.alloc (.cells #[.int .i64 1, .int .i64 2, .int .i64 3, .int .i64 4, .int .i64 5, .int .i64 6, .int .i64 7] 3)) fun e w' => e = .returned (.bool true) ∧ Below w.heap.size w w' := by
  obtain ⟨w2, hw2⟩ : ∃ w2, w2 = w.alloc (.cells #[.int .i64 1, .int .i64 2, .int .i64 3, .int .i64 4, .int .i64 5, .int .i64 6, .int .i64 7] 3) := ⟨_, rfl⟩
  obtain ⟨hl, hb⟩ := lit_k [1, 2, 3, 4, 5, 6, 7] hw2 (by decide)
  rw [← hw2]
  clear hw2
  exact (reached_k c0 a00 a01 a02 k00 k01 k02 w2 ((hc.below hb).more hb.size) _ 7 7 [1, 2, 3, 4, 5, 6, 7] rfl (by omega) hl _ 7 7 r7 rfl (by omega) ((hr.below hb).more hb.size) n).mono (fun e w'' hh => ⟨hh.1, bthen hb hh.2 hb.size⟩)
theorem g3_k (c0 : Qu.Cf) (a00 a01 a02 : Option Addr) (k00 k01 k02 : Nat) (w : World) (hc : CIs w w.heap.size c0 a00 a01 a02 k00 k01 k02) (g n : Nat) (hn : n ≤ 7) (hr : IsInts w w.heap.size (some ⟨g, 0, none⟩) r7) :
    Calls Try.prog 4 #[.agg #[.slice a00 c0.old.length k00, .slice a01 c0.new.length k01, .slice a02 c0.lrn.length k02], .slice (some ⟨w.heap.size, 0, none⟩) 3 3, .slice (some ⟨g, n, none⟩) (7 - n) (7 - n)] (w.alloc (.cells #[.int .i64 3, .int .i64 3, .int .i64 1] 3)) fun e w' => e = .returned (.bool true) ∧ Below w.heap.size w w' := by
  obtain ⟨w2, hw2⟩ : ∃ w2, w2 = w.alloc (.cells #[.int .i64 3, .int .i64 3, .int .i64 1] 3) := ⟨_, rfl⟩
  obtain ⟨hl, hb⟩ := lit_k [3, 3, 1] hw2 (by decide)
  rw [← hw2]
  clear hw2
  have hq : (r7.drop n).length = 7 - n := by rw [List.length_drop]; rfl
  exact (agrees_k c0 a00 a01 a02 k00 k01 k02 w2 ((hc.below hb).more hb.size) _ 3 3 [3, 3, 1] rfl (by omega) hl _ (7 - n) (7 - n) (r7.drop n) hq (by omega) (drop_k ((hr.below hb).more hb.size) n)).mono (fun e w'' hh => ⟨hh.1, bthen hb hh.2 hb.size⟩)
theorem g4_k (c0 : Qu.Cf) (a00 a01 a02 : Option Addr) (k00 k01 k02 : Nat) (w : World) (hc : CIs w w.heap.size c0 a00 a01 a02 k00 k01 k02) (g : Nat) :
    Calls Try.prog 4 #[.agg #[.slice a00 c0.old.length k00, .slice a01 c0.new.length k01, .slice a02 c0.lrn.length k02], .slice (some ⟨w.heap.size, 0, none⟩) 3 3, .slice (some ⟨g, 0, none⟩) 0 0] (w.alloc (.cells #[.int .i64 3, .int .i64 3, .int .i64 1] 3)) fun e w' => e = .returned (.bool true) ∧ Below w.heap.size w w' := by
  obtain ⟨w2, hw2⟩ : ∃ w2, w2 = w.alloc (.cells #[.int .i64 3, .int .i64 3, .int .i64 1] 3) := ⟨_, rfl⟩
  obtain ⟨hl, hb⟩ := lit_k [3, 3, 1] hw2 (by decide)
  rw [← hw2]
  clear hw2
  exact (agrees_k c0 a00 a01 a02 k00 k01 k02 w2 ((hc.below hb).more hb.size) _ 3 3 [3, 3, 1] rfl (by omega) hl _ 0 0 [] rfl (by omega) IsInts.nil).mono (fun e w'' hh => ⟨hh.1, bthen hb hh.2 hb.size⟩)
set_option maxRecDepth 100000 in
set_option maxHeartbeats 16000000 in
theorem walk (w : World) : Calls Try.prog 8 #[] w fun e w' => e = .returned (.bool true) ∧ Below w.heap.size w w' := by
  obtain ⟨i0, hi, hz0, hz1, hz2⟩ := info_parts I.info_int
  go_enter Try.func8, Try.ntmps8
  go_upto_region 1 with fail
  go_cut [1] from 8 to 39 (fun c wx => c = .slice (some ⟨w.heap.size + 18, 0, none⟩) 13 13 ∧ Hid (Below w.heap.size w wx ∧ w.heap.size + 18 < wx.heap.size ∧ ∀ k, k < 13 → ∃ c a0 a1 a2 k0 k1 k2, ConfAt wx (w.heap.size + 18) k c a0 a1 a2 k0 k1 k2))
  case first =>
    go_wp2_with fail
    go_meet
    exact ⟨rfl, hid (confs_at w _ rfl)⟩
  case rest =>
    obtain ⟨rfl, HP⟩ := hcut
    obtain ⟨w1, hw1⟩ : ∃ w1, w1 = wc := ⟨_, rfl⟩
    rw [← hw1] at HP ⊢
    clear hw1
    go_wp2_with fail
    go_loopw [2] (fun i wr => ∃ k : Nat, k ≤ 13 ∧ i = .int .i64 (k : Int) ∧ Hid (Below w1.heap.size w1 wr)) (fun i _ => 13 - (RowKit.intOf i).toNat)
    case atStart => exact ⟨0, by omega, rfl, hid (Below.refl _ _)⟩
    case round =>
      obtain ⟨k, hk, rfl, HW⟩ := hrel
      by_cases hlt : k < 13
      · have hlt0 : (k : Int) < 13 := by omega
        obtain ⟨c0, a00, a01, a02, k00, k01, k02, hca⟩ := HP.out.2.2 k hlt
        have HC : Hid (∀ w', Below w1.heap.size w1 w' → (w'.cell? ⟨w.heap.size + 18, k * 3, none⟩ = some (.slice a00 c0.old.length k00) ∧ w'.cell? ⟨w.heap.size + 18, k * 3 + 1, none⟩ = some (.slice a01 c0.new.length k01) ∧ w'.cell? ⟨w.heap.size + 18, k * 3 + 2, none⟩ = some (.slice a02 c0.lrn.length k02)) ∧ CIs w' w'.heap.size c0 a00 a01 a02 k00 k01 k02) := hid fun w' hb =>
          ⟨⟨(hb.cell (p := ⟨_, _, none⟩) HP.out.2.1).trans hca.1.1, (hb.cell (p := ⟨_, _, none⟩) HP.out.2.1).trans hca.1.2.1, (hb.cell (p := ⟨_, _, none⟩) HP.out.2.1).trans hca.1.2.2⟩, (hca.2.below hb).more hb.size⟩
        clear hca
        go_wp2_with fail
        go_loopw [3] (fun i wr => ∃ m : Nat, m ≤ 128 ∧ i = .int .i64 (m : Int) ∧ Hid (Below w1.heap.size w1 wr)) (fun i _ => 128 - (RowKit.intOf i).toNat)
        case atStart => exact ⟨0, by omega, rfl, HW⟩
        case round =>
          clear HW
          obtain ⟨m, hm, rfl, HW⟩ := hrel
          by_cases hml : m < 128
          · have hm0 : (m : Int) < 128 := by omega
            go_wp2_with fail
            go_loopw [4, 5] (fun y i wr => ∃ (n q : Nat) (A : Option Addr) (c : Nat) (l : List Int), n ≤ 7 ∧ q ≤ n ∧ y = .slice A q c ∧ i = .int .i64 (n : Int) ∧ Hid (l.length = q ∧ OwnsI 3 wr w1.heap.size A c l ∧ Below w1.heap.size w1 wr)) (fun _ i _ => 7 - (RowKit.intOf i).toNat)
            case atStart => exact ⟨0, 0, none, 0, [], by omega, by omega, rfl, rfl, hid ⟨rfl, OwnsI.nil _ _ _, HW.out⟩⟩
            case round =>
              clear HW
              obtain ⟨n, q, A, cA, l, hn, hq, rfl, rfl, HQ⟩ := hrel
              by_cases hnl : n < 7
              · have hn0 : (n : Int) < 7 := by omega
                cases hbit : (bits BinOp.and IntKind.i64 ((m : Int) / 2 ^ n) 1 == 1)
                · go_wp2_with fail
                  go_roundw
                  case rel => exact ⟨n + 1, q, A, cA, l, by omega, by omega, rfl, by go_num, HQ⟩
                  case measure => simp [RowKit.intOf]; omega
                · have hown := HQ.out.2.1
                  have hbel := HQ.out.2.2
                  have hln := HQ.out.1
                  have hbase := hbel.size
                  have HNI : Hid (InInt ((n : Int) + 1)) := hid (by unfold InInt; omega)
                  go_wp2_with (at_builtin; refine wpList_append_intN rfl _ _ 22 rfl w1.heap.size 3 i0 Try.underlying22 hi hz0 hz1 hz2 A cA l q hln rfl (hown.alloc _) ⟨wr.heap.size, 0, none⟩ 1 ((n : Int) + 1) HNI.out rfl (by simp) (l ++ [(n : Int) + 1]) rfl (by omega) (by simp; omega) ?_)
                  intro A3 c3 w5 hown3 hbel3
                  have H4 := hid (And.intro hown3 ((hbel.alloc hbel.size _).trans hbel3))
                  have HLN := hid (show (l ++ [(n : Int) + 1]).length = q + 1 by rw [List.length_append, hln]; rfl)
                  clear hown hown3 hbel3 hln
                  go_wp2
                  go_roundw
                  case rel => exact ⟨n + 1, q + 1, A3, c3, l ++ [(n : Int) + 1], by omega, by omega, rfl, by go_num, hid ⟨HLN.out, H4.out.1, H4.out.2⟩⟩
                  case measure => simp [RowKit.intOf]; omega
              · obtain rfl : n = 7 := by omega
                have HA : Hid (∀ w', Below wr.heap.size wr w' → (w'.cell? ⟨w.heap.size + 18, k * 3, none⟩ = some (.slice a00 c0.old.length k00) ∧ w'.cell? ⟨w.heap.size + 18, k * 3 + 1, none⟩ = some (.slice a01 c0.new.length k01) ∧ w'.cell? ⟨w.heap.size + 18, k * 3 + 2, none⟩ = some (.slice a02 c0.lrn.length k02)) ∧ CIs w' w'.heap.size c0 a00 a01 a02 k00 k01 k02 ∧ IsInts w' w'.heap.size A l ∧ Below w1.heap.size w1 w') := hid fun w' hb => by
                  have hb1 := bthen HQ.out.2.2 hb HQ.out.2.2.size
                  exact ⟨(HC.out w' hb1).1, (HC.out w' hb1).2, (HQ.out.2.1.below hb).reads, hb1⟩
                have HZA := hid (And.intro HQ.out.1 (ownsI_cap HQ.out.2.1).1)
                clear HQ
                obtain ⟨⟨d0, d1, d2⟩, _, _, _⟩ := HA.out wr (Below.refl _ _)
                go_wp2_with fail
                refine (tells_k c0 a00 a01 a02 k00 k01 k02 wr (HA.out wr (Below.refl _ _)).2.1 A cA q l HZA.out.1 (by omega) (HA.out wr (Below.refl _ _)).2.2.1).mono ?_
                rintro e w5 ⟨rfl, hb5⟩
                have HB5 := hid hb5
                clear d0 d1 d2 hb5
                obtain ⟨⟨d0, d1, d2⟩, _, _, _⟩ := HA.out w5 HB5.out
                go_wp2_with fail
                obtain ⟨w6, hw6⟩ : ∃ w6, w6 = w5.alloc (.cells #[.int .i64 3] 3) := ⟨_, rfl⟩
                have HL6 := hid (lit_k [3] hw6 (by decide))
                rw [← hw6]
                clear hw6 d0 d1 d2
                have HB6 := hid (bthen HB5.out HL6.out.2 HB5.out.size)
                refine (more_k c0 a00 a01 a02 k00 k01 k02 w6 (HA.out w6 HB6.out).2.1 A cA q l HZA.out.1 (by omega) (HA.out w6 HB6.out).2.2.1 HZA.out.2 _ 1 1 [3] rfl (by omega) HL6.out.1).mono ?_
                rintro e w7 ⟨rfl, hb7⟩
                have HB7 := hid (bthen HB6.out hb7 HB6.out.size)
                clear hb7
                obtain ⟨⟨d0, d1, d2⟩, _, _, _⟩ := HA.out w7 HB7.out
                go_wp2_with fail
                obtain ⟨w8, hw8⟩ : ∃ w8, w8 = w7.alloc (.cells #[.int .i64 1, .int .i64 3, .int .i64 4, .int .i64 5] 3) := ⟨_, rfl⟩
                have HL8 := hid (lit_k [1, 3, 4, 5] hw8 (by decide))
                rw [← hw8]
                clear hw8 d0 d1 d2
                have HB8 := hid (bthen HB7.out HL8.out.2 HB7.out.size)
                refine (meets_k c0 a00 a01 a02 k00 k01 k02 w8 (HA.out w8 HB8.out).2.1 A cA q l HZA.out.1 (by omega) (HA.out w8 HB8.out).2.2.1 _ 4 4 [1, 3, 4, 5] rfl (by omega) HL8.out.1).mono ?_
                rintro e w9 ⟨rfl, hb9⟩
                have HB9 := hid (HA.out w9 (bthen HB8.out hb9 HB8.out.size)).2.2.2
                clear hb9
                go_wp2
                go_roundw
                case rel => exact ⟨m + 1, by omega, by go_num, HB9⟩
                case measure => simp [RowKit.intOf]; omega
          · obtain rfl : m = 128 := by omega
            go_wp2_with fail
            obtain ⟨w2, hw2⟩ : ∃ w2, w2 = wr.alloc (.cells #[.int .i64 7, .int .i64 5, .int .i64 9, .int .i64 0, .int .i64 (-1), .int .i64 7, .int .i64 9223372036854775807] 3) := ⟨_, rfl⟩
            have HL2 := hid (lit_k r7 hw2 small_r7)
            rw [← hw2]
            clear hw2
            have HA : Hid (∀ w', Below w2.heap.size w2 w' → (w'.cell? ⟨w.heap.size + 18, k * 3, none⟩ = some (.slice a00 c0.old.length k00) ∧ w'.cell? ⟨w.heap.size + 18, k * 3 + 1, none⟩ = some (.slice a01 c0.new.length k01) ∧ w'.cell? ⟨w.heap.size + 18, k * 3 + 2, none⟩ = some (.slice a02 c0.lrn.length k02)) ∧ CIs w' w'.heap.size c0 a00 a01 a02 k00 k01 k02 ∧ IsInts w' w'.heap.size (some ⟨wr.heap.size, 0, none⟩) r7 ∧ Below w1.heap.size w1 w') := hid fun w' hb => by
              have hb1 := bthen (bthen HW.out HL2.out.2 HW.out.size) hb (bthen HW.out HL2.out.2 HW.out.size).size
              exact ⟨(HC.out w' hb1).1, (HC.out w' hb1).2, (HL2.out.1.below hb).more hb.size, hb1⟩
            have HE := hid (bthen HW.out HL2.out.2 HW.out.size)
            obtain ⟨g, hg⟩ : ∃ g, wr.heap.size = g := ⟨_, rfl⟩
            rw [hg] at HA ⊢
            clear hg HL2
            go_wp2_with fail
            go_loopw [7] (fun i wq => ∃ n : Nat, n ≤ 8 ∧ i = .int .i64 (n : Int) ∧ Hid (Below w2.heap.size w2 wq)) (fun i _ => 8 - (RowKit.intOf i).toNat)
            case atStart => exact ⟨0, by omega, rfl, hid (Below.refl _ _)⟩
            case round =>
              obtain ⟨n, hn, rfl, HV⟩ := hrel
              by_cases hnl : n ≤ 7
              · have hn0 : (n : Int) ≤ 7 := by omega
                have hn1 : (0 : Int) ≤ (n : Int) := by omega
                have HG1 : Hid (Calls Try.prog 4 #[.agg #[.slice a00 c0.old.length k00, .slice a01 c0.new.length k01, .slice a02 c0.lrn.length k02], .slice (some ⟨wr.heap.size, 0, none⟩) 7 7, .slice (some ⟨g, 0, none⟩) n 7] (wr.alloc (.cells #[.int .i64 1, .int .i64 2, .int .i64 3, .int .i64 4, .int .i64 5, .int .i64 6, .int .i64 7] 3)).drew fun e w'' => e = .returned (.bool true) ∧ Hid (Below w2.heap.size w2 w'')) :=
                  hid ((g1_k c0 a00 a01 a02 k00 k01 k02 wr.drew (HA.out _ (Below.drew HV.out)).2.1 g n hnl (HA.out _ (Below.drew HV.out)).2.2.1).mono (fun e w'' (hh : _ ∧ _) => ⟨hh.1, hid (bthen (Below.drew HV.out) hh.2 (Below.drew HV.out).size)⟩))
                have HG2 := hid (fun w' (hb : Below w2.heap.size w2 w') => (g2_k c0 a00 a01 a02 k00 k01 k02 w' (HA.out w' hb).2.1 g n (HA.out w' hb).2.2.1).mono (fun e w'' (hh : _ ∧ _) => (⟨hh.1, hid (bthen hb hh.2 hb.size)⟩ : e = .returned (.bool true) ∧ Hid (Below w2.heap.size w2 w''))))
                have HG3 := hid (fun w' (hb : Below w2.heap.size w2 w') => (g3_k c0 a00 a01 a02 k00 k01 k02 w' (HA.out w' hb).2.1 g n hnl (HA.out w' hb).2.2.1).mono (fun e w'' (hh : _ ∧ _) => (⟨hh.1, hid (bthen hb hh.2 hb.size)⟩ : e = .returned (.bool true) ∧ Hid (Below w2.heap.size w2 w''))))
                have hB : Hid (Below w2.heap.size w2 wr.drew) := hid (Below.drew HV.out)
                go_upto_region 20 with fail
                go_cut [129] from 93 to 129 (fun c wx => c = .bool false ∧ Hid (Below w2.heap.size w2 wx))
                case first =>
                  have hd := HA.out _ hB.out
                  obtain ⟨⟨hd0, hd1, hd2⟩, _, _, _⟩ := hd
                  by_cases h7 : n = 7
                  · have HG4 := hid (fun w' (hb : Below w2.heap.size w2 w') => (g4_k c0 a00 a01 a02 k00 k01 k02 w' (HA.out w' hb).2.1 g).mono (fun e w'' (hh : _ ∧ _) => (⟨hh.1, hid (bthen hb hh.2 hb.size)⟩ : e = .returned (.bool true) ∧ Hid (Below w2.heap.size w2 w''))))
                    have HG5 := hid (fun w' (hb : Below w2.heap.size w2 w') => (g2_k c0 a00 a01 a02 k00 k01 k02 w' (HA.out w' hb).2.1 g 7 (HA.out w' hb).2.2.1).mono (fun e w'' (hh : _ ∧ _) => (⟨hh.1, hid (bthen hb hh.2 hb.size)⟩ : e = .returned (.bool true) ∧ Hid (Below w2.heap.size w2 w''))))
                    clear HG3 HG2
                    subst h7
                    go_region_held3 (fun w' => w'.cell? ⟨w.heap.size + 18, k * 3, none⟩ = some (.slice a00 c0.old.length k00) ∧ w'.cell? ⟨w.heap.size + 18, k * 3 + 1, none⟩ = some (.slice a01 c0.new.length k01) ∧ w'.cell? ⟨w.heap.size + 18, k * 3 + 2, none⟩ = some (.slice a02 c0.lrn.length k02))
                      (first | exact ⟨hd0, hd1, hd2⟩ | exact (HA.out _ hB.out).1 | exact (HA.out _ (hB.out.alloc hB.out.size _)).1 | fail)
                      (first
                        | (go_at_call 7; with_reducible refine (HG5.out _ hB.out).mono ?_; rintro e4 w4 ⟨rfl, hB⟩)
                        | (go_at_call 4; with_reducible refine HG1.out.mono ?_; rintro e4 w4 ⟨rfl, hB⟩)
                        | (go_at_call 4; with_reducible refine (HG4.out _ hB.out).mono ?_; rintro e4 w4 ⟨rfl, hB⟩))
                    go_wp2_with fail
                    go_meet
                    exact ⟨rfl, hB⟩
                  · have h70 : ¬ 7 = n := fun h => h7 h.symm
                    go_region_held3 (fun w' => w'.cell? ⟨w.heap.size + 18, k * 3, none⟩ = some (.slice a00 c0.old.length k00) ∧ w'.cell? ⟨w.heap.size + 18, k * 3 + 1, none⟩ = some (.slice a01 c0.new.length k01) ∧ w'.cell? ⟨w.heap.size + 18, k * 3 + 2, none⟩ = some (.slice a02 c0.lrn.length k02))
                      (first | exact ⟨hd0, hd1, hd2⟩ | exact (HA.out _ hB.out).1 | exact (HA.out _ (hB.out.alloc hB.out.size _)).1 | fail)
                      (first
                        | (go_at_call 7; with_reducible refine (HG2.out _ hB.out).mono ?_; rintro e4 w4 ⟨rfl, hB⟩)
                        | (go_at_call 4; with_reducible refine HG1.out.mono ?_; rintro e4 w4 ⟨rfl, hB⟩)
                        | (go_at_call 4; with_reducible refine (HG3.out _ hB.out).mono ?_; rintro e4 w4 ⟨rfl, hB⟩))
                    go_wp2_with fail
                    go_meet
                    exact ⟨rfl, hB⟩
                case rest =>
                  obtain ⟨rfl, hbc⟩ := hcut
                  go_wp2
                  go_roundw
                  case rel => exact ⟨n + 1, by omega, by go_num, hbc⟩
                  case measure => simp [RowKit.intOf]; omega
              · obtain rfl : n = 8 := by omega
                have HB9 := hid (bthen HE.out HV.out HE.out.size)
                go_wp2
                go_roundw
                case rel => exact ⟨k + 1, by omega, by go_num, HB9⟩
                case measure => simp [RowKit.intOf]; omega
      · obtain rfl : k = 13 := by omega
        go_wp2_with fail
        refine (works_any wr).mono ?_
        rintro e w8 ⟨rfl, hb8⟩
        have HB8 := hid (bthen (bthen HP.out.1 HW.out HP.out.1.size) hb8 (bthen HP.out.1 HW.out HP.out.1.size).size)
        clear hb8
        go_wp2
        go_ret
        exact ⟨rfl, HB8.out⟩

set_option maxRecDepth 100000 in
theorem lifted (os : Os) (started : os.Started) (H : Type) (enc : TypeId × Value → H) :
    ReturnsInHanded {} Try.checked os 8 .any (Rows.quorumKnownSpec.pre6 enc Try.prog Try.f8 Rows.quorumKnownRow.domain false) (Rows.quorumKnownSpec.post enc Try.prog Try.f8 false true false false) := by
  refine returnsInHanded_of_change_sized (C := Try.checked) own started (by kernel_rfl) Try.func8
    (ChangeSpec.witness6 (enc := enc) (C := Try.checked) false ⟨#[], #[], []⟩ 8 (by kernel_rfl) (by kernel_rfl) (by kernel_rfl) (by kernel_rfl)) ?_
  intro W base args ds gs before hval0 hW hcnd hsz0 _
  have hsz : (DataW.weightsEach Try.prog (Try.f8.params.toList ++ Rows.quorumKnownSpec.plain.varTypes Try.prog) (ds ++ gs)).all (· ≤ reachBytes) = true := hsz0
  clear hsz0
  have hval : ∀ (j : Nat) t v, Try.f8.params[j]? = some t → args[j]? = some v → Value.okWide Try.prog W .any base t v := hval0
  have hW' := hW
  obtain ⟨p, q, hA0, hV, rfl, hfz, hnd⟩ := hW
  have hA : DataW.TrodAll enc Try.prog W 0 (fun _ => true) true Try.f8.params.toList args.toList ds p := hA0
  rw [Try.params8] at hA hval hsz
  obtain ⟨rfl, rfl, rfl⟩ := trodAll_none hA
  obtain ⟨rfl, rfl⟩ := trodVars_none hV
  clear hA0 hval0
  refine (walk  W ).mono fun e W' ⟨he, bel⟩ => ?_
  subst he
  exact ⟨_, rfl, _, _, _, [], _, [], hW', trodAll_mk1 (shut_bool Try.underlying4 _), trodAll_mk0, rfl, bel.frame _, fun h => by cases h⟩

theorem over : Rows.quorumKnownRow.holds Try.pinned (OpenSpec.ofChange Rows.quorumKnownSpec) :=
  OpenClaim.holds_of_wide 8 Try.f8 rfl rfl rfl rfl rfl rfl rfl ⟨rfl, rfl, rfl, rfl, rfl⟩ rfl rfl rfl rfl rfl (by kernel_rfl) Try.func8 (by kernel_rfl)
    (of_decide_eq_true (by kernel_rfl)) (by unfold Func.isWrapper; first | (rw [if_pos (by decide +kernel)]; kernel_rfl) | (rw [if_neg (by decide +kernel)]; exact ⟨rfl, rfl⟩))
    (fun os started H enc _ => lifted os started H enc)

theorem proved : Rows.QuorumKnownSaid := over
end Go.Proofs.Ytblhfbijffaacaa.quorumKnown
