/- Texts of the proof, one behind the other: JoB, JoC, JoD, JoE, RegIn, DiskE. -/
import Derived.Test.YtdgijnolpjaheaaPartAH
import Derived.Laws.BytesArg
import Derived.Lib.Bytes
import Derived.RangeFuncNested
import Derived.RangeFuncBound
import Derived.RangeFuncCalls
import Derived.RangeFuncLeaves
import Derived.Shelf.Abstract
import Derived.Shelf.RegionOpen
import Derived.OwnWalkIn
import Derived.TacticsInMore
import Derived.LoopNIn
import Derived.LoopIn
import Derived.OrdersIn
import Derived.OrdersHeld
import Derived.Test.YtdgijnolpjaheaaPartAA
import Derived.Laws.AppendOwn
import Derived.Test.YtdgijnolpjaheaaPartAC
import Derived.Deep.RegionHeld3
import Derived.Deep.RegionWith
namespace Go.Proofs.Ytdgijnolpjaheaa
open Go.RowKit

namespace J
def strB (l : List Nat) : ByteArray := strOfNums (l.map fun (x : Nat) => (x : Int))
theorem strB_dec {l m : List Nat} (hl : ∀ x ∈ l, x < 256) (hm : ∀ x ∈ m, x < 256) : ((strB l).toList == (strB m).toList) = decide (l = m) := by
  have e : ∀ k : List Nat, (∀ x ∈ k, x < 256) → (strB k).toList.map UInt8.toNat = k := fun k hk => by
    unfold strB
    rw [Lib.strOfNums_toList]
    unfold Lib.bytesOf
    rw [List.map_map, List.map_map]
    conv => rhs; rw [← List.map_id k]
    apply List.map_congr_left
    intro x hx
    have := hk x hx
    simp [Function.comp, Nat.mod_eq_of_lt this]
  by_cases h : l = m
  · subst h; simp
  · rw [decide_eq_false h, beq_eq_false_iff_ne]
    intro hh
    have := congrArg (List.map UInt8.toNat) hh
    rw [e l hl, e m hm] at this
    exact h this
theorem conv_str (B : Nat) (A : Option Addr) (c : Nat) (l : List Nat) (n : Nat) (hn : l.length = n) (w : World) (h : IsBytes w B A l) :
    (convert 32 9 (.slice A n c)).run Try.prog w = .ok (.string (strB l)) w := by
  have hs : Try.prog.underlying 9 = some .string := by kernel_rfl
  rcases l with _ | ⟨x, l⟩
  · subst hn
    rcases A with _ | a
    · exact run_convert_bytes_nil w 32 5 Try.underlying32 Try.underlying5 _ _ _ hs
    · rw [List.length_nil]
      rw [run_convert_bytes_string w 32 9 5 _ _ c Try.underlying32 Try.underlying5 hs, run_bytesToString w a 0 c [] (run_loadCells_list (P := Try.prog) w a [] (fun j v hj => by simp at hj))]
      rfl
  · obtain ⟨b, off, rfl, _, hc⟩ := h.cells 0 (by simp)
    refine run_convert_bytes_arg w 32 5 Try.underlying32 Try.underlying5 b off n c _ (by simp [← hn]) (fun i hi => ?_) _ hs
    have hi' : i < (x :: l).length := by omega
    rw [hc i hi', List.getD_eq_getElem?_getD, List.getElem?_map, List.getElem?_eq_getElem hi']
    rfl
theorem equal_any (B B' : Nat) (A A' : Option Addr) (c c' : Nat) (l m : List Nat) (n k : Nat) (hn : l.length = n) (hk : m.length = k) (w : World) (h : IsBytes w B A l) (h' : IsBytes w B' A' m) :
    Calls Try.prog 95 #[.slice A n c, .slice A' k c'] w fun e w' => e = .returned (.bool (decide (l = m))) ∧ w' = w := by
  have h1 := conv_str B A c l n hn w h
  have h2 := conv_str B' A' c' m k hk w h'
  have HD := hid (strB_dec h.small h'.small)
  clear h h'
  go_enter Try.func95, Try.ntmps95
  go_wp2
  go_ret
  rw [← HD.out]
  exact ⟨rfl, rfl⟩
set_option maxRecDepth 100000 in
theorem prefix_any (B B' : Nat) (A A' : Option Addr) (c c' : Nat) (l m : List Nat) (n k : Nat) (hn : l.length = n) (hk : m.length = k) (hc : n ≤ c) (hc2 : c ≤ maxLen) (hz : A = none → c = 0) (w : World) (h : IsBytes w B A l) (h' : IsBytes w B' A' m) :
    Calls Try.prog 82 #[.slice A n c, .slice A' k c'] w fun e w' => e = .returned (.bool (decide (m <+: l))) ∧ w' = w := by
  unfold maxLen at hc2
  by_cases hle : k ≤ n
  · have HP : Hid (decide (m <+: l) = decide (l.take k = m)) := hid (by
      apply decide_eq_decide.2
      rw [List.prefix_iff_eq_take, hk]
      exact ⟨Eq.symm, Eq.symm⟩)
    have HQ := hid (equal_any B B' A A' c c' (l.take k) m k k (by rw [List.length_take]; omega) hk w (h.take k) h')
    rw [HP.out]
    clear HP
    rcases A with _ | ad
    · obtain rfl := hz rfl
      obtain rfl : n = 0 := by omega
      obtain rfl : k = 0 := by omega
      clear h h'
      go_enter Try.func82, Try.ntmps82
      go_wp2_with fail
      refine HQ.out.mono ?_
      rintro e w' ⟨rfl, rfl⟩
      go_wp2
      go_ret
      exact ⟨by simp, rfl⟩
    · clear h h'
      have hkc : k ≤ c := by omega
      go_enter Try.func82, Try.ntmps82
      go_wp2_with fail
      refine HQ.out.mono ?_
      rintro e w' ⟨rfl, rfl⟩
      go_wp2
      go_ret
      exact ⟨rfl, rfl⟩
  · have HP : Hid (decide (m <+: l) = false) := hid (decide_eq_false (fun hp => by have := hp.length_le; omega))
    rw [HP.out]
    clear h h'
    go_enter Try.func82, Try.ntmps82
    go_wp2
    go_ret
    exact ⟨rfl, rfl⟩
end J
end Go.Proofs.Ytdgijnolpjaheaa
namespace Go.Proofs.Ytdgijnolpjaheaa
open Go.RowKit

namespace J
theorem prefix_at (B : Nat) (A : Option Addr) (c : Nat) (l : List Nat) (n : Nat) (hn : l.length = n) (hc : n ≤ c) (hc2 : c ≤ maxLen) (hz : A = none → c = 0) (w : World) (h : IsBytes w B A l) (e m : Int) (k : Nat) (A' : Option Addr) (c' : Nat) (h' : IsBytes w w.heap.size A' (Jo.head e m k)) :
    Calls Try.prog 82 #[.slice A n c, .slice A' 24 c'] w fun e' w' => e' = .returned (.bool (decide (Jo.head e m k <+: l))) ∧ w' = w :=
  prefix_any B w.heap.size A A' c c' l (Jo.head e m k) n 24 hn (Jo.head_length _ _ _) hc hc2 hz w h h'

set_option maxRecDepth 100000 in
set_option maxHeartbeats 800000 in
theorem expected_any (A : Option Addr) (c : Nat) (l : List Nat) (N : Nat) (hN : l.length = N) (hc : N ≤ c) (hc2 : c ≤ maxLen) (hz : A = none → c = 0) (hl : N ≤ 100000) (e m : Int) (he : InInt e) (hm : InInt m) (i : Nat) (hi : i ≤ 1000000) (w : World) (h : IsBytes w w.heap.size A l) :
    Calls Try.prog 73 #[.slice A N c, .int .i64 e, .int .i64 m, .int .i64 (i : Int)] w fun e' w' => ∃ A' c' n', e' = .returned (.tuple #[.slice A' n' c', .bool (Jo.due l e m i).2.1, .bool (Jo.due l e m i).2.2]) ∧ n' = (Jo.due l e m i).1.length ∧
      IsBytes w' w'.heap.size A' (Jo.due l e m i).1 ∧ (A' = none → c' = 0) ∧ Below w.heap.size w w' := by
  have HM0 := hid (fun w' => mark_any i false hi w')
  have HM1 := hid (fun w' => mark_any i true hi w')
  have hib : ∀ b : Bool, InInt ((Jo.mark i b : Nat) : Int) := fun b => by unfold InInt Jo.mark; cases b <;> simp <;> omega
  have HH0 := hid (fun w' => head_any e m (Jo.mark i false : Nat) he hm (hib _) w')
  have HH1 := hid (fun w' => head_any e m (Jo.mark i true : Nat) he hm (hib _) w')
  have HX := hid (And.intro hN (And.intro hc (And.intro hc2 hz)))
  have HB := hid h
  clear h hz hib he hm hc2
  by_cases h1 : Jo.head e m (Jo.mark i false : Nat) <+: l
  · have hlen : 24 ≤ N := by have := h1.length_le; rw [Jo.head_length] at this; omega
    have HD : Hid (Jo.due l e m i = (l.drop 24, false, decide ((l.drop 24).length = 40))) := hid (by unfold Jo.due; rw [if_pos h1])
    have HP : Hid (decide (Jo.head e m (Jo.mark i false : Nat) <+: l) = true) := hid (decide_eq_true h1)
    rw [HD.out]
    clear h1 HH1 HM1
    obtain ⟨b, off, rfl, _, _⟩ := HB.out.cells 0 (by omega)
    have hd := HB.out.from 24
    by_cases hc24 : c = 24
    · subst hc24
      obtain rfl : N = 24 := by omega
      have hdn : l.drop 24 = [] := List.drop_of_length_le (by omega)
      have HDN := hid hdn
      clear hd hdn
      go_enter Try.func73, Try.ntmps73
      go_wp2_with fail
      refine (HM0.out w).mono ?_
      rintro e1 w1 ⟨rfl, rfl⟩
      go_wp2_with fail
      refine (HH0.out _).mono ?_
      rintro e2 w2 ⟨A2, c2, rfl, hown, hb⟩
      have Hb := hid hb
      have HP2 := hid (prefix_at _ (some ⟨b, off, none⟩) 24 l 24 HX.out.1 HX.out.2.1 HX.out.2.2.1 (fun h => by cases h) w2 (HB.out.below hb) e m (Jo.mark i false) A2 c2 hown.reads)
      rw [HP.out] at HP2
      clear hb hown
      go_wp2_with fail
      refine HP2.out.mono ?_
      rintro e3 w3 ⟨rfl, rfl⟩
      go_wp2
      go_ret3
      refine ⟨some ⟨b, off, none⟩, 0, 0, ?_, ?_, ?_, ?_, Hb.out⟩
      · rw [HDN.out]; rfl
      · rw [HDN.out]; rfl
      · rw [HDN.out]; exact IsBytes.nil
      · intro h; cases h
    · go_enter Try.func73, Try.ntmps73
      go_wp2_with fail
      refine (HM0.out w).mono ?_
      rintro e1 w1 ⟨rfl, rfl⟩
      go_wp2_with fail
      refine (HH0.out _).mono ?_
      rintro e2 w2 ⟨A2, c2, rfl, hown, hb⟩
      have Hb := hid (And.intro hb (hd.below hb))
      have HP2 := hid (prefix_at _ (some ⟨b, off, none⟩) c l N HX.out.1 HX.out.2.1 HX.out.2.2.1 (fun h => by cases h) w2 (HB.out.below hb) e m (Jo.mark i false) A2 c2 hown.reads)
      rw [HP.out] at HP2
      clear hb hown hd
      go_wp2_with fail
      refine HP2.out.mono ?_
      rintro e3 w3 ⟨rfl, rfl⟩
      go_wp2
      go_ret3
      refine ⟨some ⟨b, off + 24, none⟩, c - 24, N - 24, ?_, ?_, Hb.out.2.more Hb.out.1.size, (fun h => by cases h), Hb.out.1⟩
      · have e40 : (((N - 24 : Nat) : Int) == 40) = decide ((l.drop 24).length = 40) := by
          rw [List.length_drop, HX.out.1, Bool.eq_iff_iff]
          simp only [beq_iff_eq, decide_eq_true_eq]
          omega
        rw [← e40]; rfl
      · rw [List.length_drop, HX.out.1]
  · have HP : Hid (decide (Jo.head e m (Jo.mark i false : Nat) <+: l) = false) := hid (decide_eq_false h1)
    by_cases h2 : Jo.head e m (Jo.mark i true : Nat) <+: l
    · have hlen : 24 ≤ N := by have := h2.length_le; rw [Jo.head_length] at this; omega
      have HD : Hid (Jo.due l e m i = (l.drop 24, true, decide (0 < (l.drop 24).length ∨ i = 0))) := hid (by unfold Jo.due; rw [if_neg h1, if_pos h2])
      have HPb : Hid (decide (Jo.head e m (Jo.mark i true : Nat) <+: l) = true) := hid (decide_eq_true h2)
      rw [HD.out]
      clear h1 h2
      obtain ⟨b, off, rfl, _, _⟩ := HB.out.cells 0 (by omega)
      have hd := HB.out.from 24
      by_cases hc24 : c = 24
      · subst hc24
        obtain rfl : N = 24 := by omega
        have hdn : l.drop 24 = [] := List.drop_of_length_le (by omega)
        have HDN := hid hdn
        clear hd hdn
        go_enter Try.func73, Try.ntmps73
        go_wp2_with fail
        refine (HM0.out w).mono ?_
        rintro e1 w1 ⟨rfl, rfl⟩
        go_wp2_with fail
        refine (HH0.out _).mono ?_
        rintro e2 w2 ⟨A2, c2, rfl, hown, hb⟩
        have Hb := hid hb
        have HP2 := hid (prefix_at _ (some ⟨b, off, none⟩) 24 l 24 HX.out.1 HX.out.2.1 HX.out.2.2.1 (fun h => by cases h) w2 (HB.out.below hb) e m (Jo.mark i false) A2 c2 hown.reads)
        rw [HP.out] at HP2
        clear hb hown
        go_wp2_with fail
        refine HP2.out.mono ?_
        rintro e3 w3 ⟨rfl, rfl⟩
        go_wp2_with fail
        refine (HM1.out _).mono ?_
        rintro e1 w1 ⟨rfl, rfl⟩
        go_wp2_with fail
        refine (HH1.out _).mono ?_
        rintro e2 w4 ⟨A4, c4, rfl, hown, hb⟩
        have Hb4 := hid (Hb.out.trans (hb.mono Hb.out.size))
        have HP4 := hid (prefix_at _ (some ⟨b, off, none⟩) 24 l 24 HX.out.1 HX.out.2.1 HX.out.2.2.1 (fun h => by cases h) w4 (HB.out.below Hb4.out) e m (Jo.mark i true) A4 c4 hown.reads)
        rw [HPb.out] at HP4
        clear hb hown
        go_wp2_with fail
        refine HP4.out.mono ?_
        rintro e3 w3 ⟨rfl, rfl⟩
        go_wp2
        go_ret3
        refine ⟨some ⟨b, off, none⟩, 0, 0, ?_, ?_, ?_, ?_, Hb4.out⟩
        · rw [HDN.out]; simp; rw [Bool.eq_iff_iff]; simp
        · rw [HDN.out]; rfl
        · rw [HDN.out]; exact IsBytes.nil
        · intro h; cases h
      · by_cases h40 : 0 < N - 24
        · have h41 : (0 : Int) < (N : Int) - 24 := by omega
          go_enter Try.func73, Try.ntmps73
          go_wp2_with fail
          refine (HM0.out w).mono ?_
          rintro e1 w1 ⟨rfl, rfl⟩
          go_wp2_with fail
          refine (HH0.out _).mono ?_
          rintro e2 w2 ⟨A2, c2, rfl, hown, hb⟩
          have Hb := hid (And.intro hb (hd.below hb))
          have HP2 := hid (prefix_at _ (some ⟨b, off, none⟩) c l N HX.out.1 HX.out.2.1 HX.out.2.2.1 (fun h => by cases h) w2 (HB.out.below hb) e m (Jo.mark i false) A2 c2 hown.reads)
          rw [HP.out] at HP2
          clear hb hown hd
          go_wp2_with fail
          refine HP2.out.mono ?_
          rintro e3 w3 ⟨rfl, rfl⟩
          go_wp2_with fail
          refine (HM1.out _).mono ?_
          rintro e1 w1 ⟨rfl, rfl⟩
          go_wp2_with fail
          refine (HH1.out _).mono ?_
          rintro e2 w4 ⟨A4, c4, rfl, hown, hb⟩
          have Hb4 := hid (And.intro (Hb.out.1.trans (hb.mono Hb.out.1.size)) (((Hb.out.2.more Hb.out.1.size).below hb).more hb.size))
          have HP4 := hid (prefix_at _ (some ⟨b, off, none⟩) c l N HX.out.1 HX.out.2.1 HX.out.2.2.1 (fun h => by cases h) w4 (HB.out.below Hb4.out.1) e m (Jo.mark i true) A4 c4 hown.reads)
          rw [HPb.out] at HP4
          clear hb hown
          go_wp2_with fail
          refine HP4.out.mono ?_
          rintro e3 w3 ⟨rfl, rfl⟩
          go_wp2
          go_ret3
          have hX := HX.out.1
          refine ⟨some ⟨b, off + 24, none⟩, c - 24, N - 24, ?_, ?_, Hb4.out.2, (fun h => by cases h), Hb4.out.1⟩
          · rw [decide_eq_true (Or.inl (by rw [List.length_drop, hX]; exact h40))]
            rfl
          · rw [List.length_drop, hX]
        · obtain rfl : N = 24 := by omega
          go_enter Try.func73, Try.ntmps73
          go_wp2_with fail
          refine (HM0.out w).mono ?_
          rintro e1 w1 ⟨rfl, rfl⟩
          go_wp2_with fail
          refine (HH0.out _).mono ?_
          rintro e2 w2 ⟨A2, c2, rfl, hown, hb⟩
          have Hb := hid (And.intro hb (hd.below hb))
          have HP2 := hid (prefix_at _ (some ⟨b, off, none⟩) c l 24 HX.out.1 HX.out.2.1 HX.out.2.2.1 (fun h => by cases h) w2 (HB.out.below hb) e m (Jo.mark i false) A2 c2 hown.reads)
          rw [HP.out] at HP2
          clear hb hown hd
          go_wp2_with fail
          refine HP2.out.mono ?_
          rintro e3 w3 ⟨rfl, rfl⟩
          go_wp2_with fail
          refine (HM1.out _).mono ?_
          rintro e1 w1 ⟨rfl, rfl⟩
          go_wp2_with fail
          refine (HH1.out _).mono ?_
          rintro e2 w4 ⟨A4, c4, rfl, hown, hb⟩
          have Hb4 := hid (And.intro (Hb.out.1.trans (hb.mono Hb.out.1.size)) (((Hb.out.2.more Hb.out.1.size).below hb).more hb.size))
          have HP4 := hid (prefix_at _ (some ⟨b, off, none⟩) c l 24 HX.out.1 HX.out.2.1 HX.out.2.2.1 (fun h => by cases h) w4 (HB.out.below Hb4.out.1) e m (Jo.mark i true) A4 c4 hown.reads)
          rw [HPb.out] at HP4
          clear hb hown
          go_wp2_with fail
          refine HP4.out.mono ?_
          rintro e3 w3 ⟨rfl, rfl⟩
          go_wp2
          go_ret3
          have hX := HX.out.1
          have hdn : l.drop 24 = [] := List.drop_of_length_le (by omega)
          refine ⟨some ⟨b, off + 24, none⟩, c - 24, 0, ?_, ?_, ?_, ?_, Hb4.out.1⟩
          · rw [hdn]; simp; rw [Bool.eq_iff_iff]; simp
          · rw [hdn]; rfl
          · rw [hdn]; exact IsBytes.nil
          · intro h; cases h
    · have HD : Hid (Jo.due l e m i = ([], false, false)) := hid (by unfold Jo.due; rw [if_neg h1, if_neg h2])
      have HPb : Hid (decide (Jo.head e m (Jo.mark i true : Nat) <+: l) = false) := hid (decide_eq_false h2)
      rw [HD.out]
      clear h1 h2
      go_enter Try.func73, Try.ntmps73
      go_wp2_with fail
      refine (HM0.out w).mono ?_
      rintro e1 w1 ⟨rfl, rfl⟩
      go_wp2_with fail
      refine (HH0.out _).mono ?_
      rintro e2 w2 ⟨A2, c2, rfl, hown, hb⟩
      have Hb := hid hb
      have HP2 := hid (prefix_at _ A c l N HX.out.1 HX.out.2.1 HX.out.2.2.1 HX.out.2.2.2 w2 (HB.out.below hb) e m (Jo.mark i false) A2 c2 hown.reads)
      rw [HP.out] at HP2
      clear hb hown
      go_wp2_with fail
      refine HP2.out.mono ?_
      rintro e3 w3 ⟨rfl, rfl⟩
      go_wp2_with fail
      refine (HM1.out _).mono ?_
      rintro e1 w1 ⟨rfl, rfl⟩
      go_wp2_with fail
      refine (HH1.out _).mono ?_
      rintro e2 w4 ⟨A4, c4, rfl, hown, hb⟩
      have Hb4 := hid (Hb.out.trans (hb.mono Hb.out.size))
      have HP4 := hid (prefix_at _ A c l N HX.out.1 HX.out.2.1 HX.out.2.2.1 HX.out.2.2.2 w4 (HB.out.below Hb4.out) e m (Jo.mark i true) A4 c4 hown.reads)
      rw [HPb.out] at HP4
      clear hb hown
      go_wp2_with fail
      refine HP4.out.mono ?_
      rintro e3 w3 ⟨rfl, rfl⟩
      go_wp2
      go_ret3
      exact ⟨none, 0, 0, rfl, rfl, IsBytes.nil, fun _ => rfl, Hb4.out⟩
end J
end Go.Proofs.Ytdgijnolpjaheaa
namespace Go.Proofs.Ytdgijnolpjaheaa
open Go.RowKit

attribute [local go_sem] Oper.semAt_some

/-- A journal: on the disk at dg, its epoch, the next sector, the room, the records. -/
structure Jn where
  dg : Nat
  e : Int
  nx : Int
  rm : Int
  ct : Int
def JAt (w : World) (g : Nat) (j : Jn) : Prop :=
  w.heap[g]? = some (.cells #[.pointer (some ⟨j.dg, 0, none⟩), .int .i64 j.e, .int .i64 j.nx, .int .i64 j.rm, .int .i64 j.ct] 84 (0, 0))
namespace JAt
variable {w w' : World} {g : Nat} {j : Jn}
theorem lt (h : JAt w g j) : g < w.heap.size := (Array.getElem?_eq_some_iff.1 h).1
theorem cells (h : JAt w g j) : w.cell? ⟨g, 0, none⟩ = some (.pointer (some ⟨j.dg, 0, none⟩)) ∧ w.cell? ⟨g, 1, none⟩ = some (.int .i64 j.e) ∧ w.cell? ⟨g, 2, none⟩ = some (.int .i64 j.nx) ∧ w.cell? ⟨g, 3, none⟩ = some (.int .i64 j.rm) ∧ w.cell? ⟨g, 4, none⟩ = some (.int .i64 j.ct) := by
  simp [World.cell?, show w.heap[g]? = _ from h]
theorem frozen (h : JAt w g j) (k : Nat) : w.frozen? ⟨g, k, none⟩ = false := by
  simp [World.frozen?, show w.heap[g]? = _ from h]
theorem keep {S : Nat → Prop} (h : JAt w g j) (ht : Turned S w w') (hs : ¬ S g) : JAt w' g j := (ht.block g h.lt hs).trans h
theorem below (h : JAt w g j) (hb : Below w.heap.size w w') : JAt w' g j := (hb.block g h.lt).trans h
theorem not_disk (h : JAt w g j) {Z : Nat → Prop} {d : Dk} {s : Sx.St} (hd : DiskAt w Z d s) : ¬ d.has g := by
  have h' : w.heap[g]? = _ := h
  rintro (rfl | rfl | rfl)
  · have h2 := hd.disk
    rw [h'] at h2
    have h3 := (Obj.cells.inj (Option.some.inj h2)).2.1
    revert h3; decide
  · obtain ⟨cur, h2, _⟩ := hd.row
    rw [h'] at h2
    have h3 := (Obj.cells.inj (Option.some.inj h2)).2.1
    revert h3; decide
  · obtain ⟨f, ⟨es, clock, h2, _⟩, _⟩ := hd.map
    rw [h'] at h2
    cases h2
end JAt
namespace J
set_option maxRecDepth 100000 in
theorem new_any (Z : Nat → Prop) (d : Dk) (s : Sx.St) (f n e : Int) (hf : InInt f) (hr : Jo.Right s.n f n e) (w : World) (h : DiskAt w Z d s) :
    Calls Try.prog 58 #[.pointer (some ⟨d.g, 0, none⟩), .int .i64 f, .int .i64 n, .int .i64 e] w fun e' w' => e' = .returned (.tuple #[.pointer (some ⟨w.heap.size, 0, none⟩), .int .i64 0]) ∧ JAt w' w.heap.size ⟨d.g, e, f, n, 0⟩ ∧ w'.heap.size = w.heap.size + 1 ∧ Below w.heap.size w w' := by
  have HV := hid (valid_any Z d s f n e hf w h)
  rw [decide_eq_true hr] at HV
  clear h hr
  go_enter Try.func58, Try.ntmps58
  go_wp2_with fail
  refine HV.out.mono ?_
  rintro e1 w1 ⟨rfl, rfl⟩
  go_wp2
  go_ret2
  exact ⟨rfl, heap_alloc_new _ _, World.size_alloc _ _, (Below.refl _ _).alloc (Nat.le_refl _) _⟩
set_option maxRecDepth 100000 in
theorem new_wrong (Z : Nat → Prop) (d : Dk) (s : Sx.St) (f n e : Int) (hf : InInt f) (hr : ¬ Jo.Right s.n f n e) (w : World) (h : DiskAt w Z d s) :
    Calls Try.prog 58 #[.pointer (some ⟨d.g, 0, none⟩), .int .i64 f, .int .i64 n, .int .i64 e] w fun e' w' => e' = .returned (.tuple #[.pointer none, .int .i64 3]) ∧ w' = w := by
  have HV := hid (valid_any Z d s f n e hf w h)
  rw [decide_eq_false hr] at HV
  clear h hr
  go_enter Try.func58, Try.ntmps58
  go_wp2_with fail
  refine HV.out.mono ?_
  rintro e1 w1 ⟨rfl, rfl⟩
  go_wp2
  go_ret2
  exact ⟨rfl, rfl⟩
theorem count_any (g : Nat) (j : Jn) (w : World) (h : JAt w g j) :
    Calls Try.prog 27 #[.pointer (some ⟨g, 0, none⟩)] w fun e w' => e = .returned (.int .i64 j.ct) ∧ w' = w := by
  obtain ⟨c0, c1, c2, c3, c4⟩ := h.cells
  go_enter Try.func27, Try.ntmps27
  go_wp2
  go_ret
  exact ⟨rfl, rfl⟩

end J
end Go.Proofs.Ytdgijnolpjaheaa
namespace Go.Proofs.Ytdgijnolpjaheaa
open Go.RowKit

attribute [local go_sem] Oper.semAt_some

namespace J
/-- what is left of n bytes at A, of capacity c, behind i pieces -/
def restV (A : Option Addr) (n c i : Nat) : Value :=
  match A with
  | none => .slice none (n - 40 * i) (c - 40 * i)
  | some a => .slice (some ⟨a.block, a.off + 40 * i, a.spot⟩) (n - 40 * i) (c - 40 * i)
/-- piece i -/
def pieceV (A : Option Addr) (n c i : Nat) : Value :=
  match A with
  | none => .slice none (min 40 (n - 40 * i)) (c - 40 * i)
  | some a => .slice (some ⟨a.block, a.off + 40 * i, a.spot⟩) (min 40 (n - 40 * i)) (c - 40 * i)
theorem restV_zero (A : Option Addr) (n c : Nat) : restV A n c 0 = .slice A n c := by
  unfold restV; rcases A with _ | a <;> simp
def pieceE (A : Option Addr) (n c : Nat) (i : Fin (Jo.secs n)) : Array Value := #[.int .i64 ((Jo.mark i.1 (decide (i.1 + 1 = Jo.secs n)) : Nat) : Int), pieceV A n c i.1]
def upto {m : Nat} (k : Nat) : List (Fin m) := (List.finRange m).take k
theorem upto_succ {m : Nat} (k : Nat) (h : k < m) : (upto (k + 1) : List (Fin m)) = upto k ++ [⟨k, h⟩] := by
  unfold upto
  rw [List.take_succ_eq_append_getElem (by simpa using h)]
  simp
theorem upto_length {m : Nat} (k : Nat) (h : k ≤ m) : (upto k : List (Fin m)).length = k := by simp [upto, h]
theorem upto_all {m : Nat} : (upto m : List (Fin m)) = List.finRange m := by
  unfold upto; rw [List.take_of_length_le (by simp)]

set_option maxRecDepth 100000 in
set_option maxHeartbeats 2000000 in
theorem pieces1_in (kk l Bx : Nat) (A : Option Addr) (n c : Nat) (hn : n ≤ 1000000) (hc : n ≤ c) (hcm : c ≤ maxLen) (hA : 40 < n → ∃ b off, A = some ⟨b, off, none⟩) (J Jx : List (Fin (Jo.secs n)) → World → Prop)
    (hY : ∀ pre x W, J pre W → pre.length < Jo.secs n → YieldAt Fence.wide kk Try.prog l (pieceE A n c x) W fun e W' => ∃ b : Bool, e = .returned (.bool b) ∧ ((b = true ∧ J (pre ++ [x]) W') ∨ (b = false ∧ Jx (pre ++ [x]) W')))
    (hJd : ∀ s W, J s W → J s W.drew) (W : World) (hB : W.cell? ⟨Bx, 0, none⟩ = some (.slice A n c)) (h0 : J [] W) :
    CallsIn Fence.wide (kk + 1) Try.prog 74 #[.func (.yield l) #[] #[], .pointer (some ⟨Bx, 0, none⟩)] W fun e W' => (∃ v, e = .returned v) ∧
      ((∃ ys, ys = List.finRange (Jo.secs n) ∧ J ys W') ∨ (∃ k, k ≤ Jo.secs n ∧ Jx (upto k) W')) := by
  have hmix : Try.prog.follows .mixedOrders = true := by kernel_rfl
  have hpos := Jo.secs_pos n
  unfold maxLen at hcm
  have HY := hid hY
  have HJ := hid h0
  have HD := hid hJd
  clear hY h0 hJd
  refine callsIn_of_wp Try.func74 rfl trivial ?_
  simp only [Try.ntmps74, List.size_toArray, List.length_cons, List.length_nil, Nat.reduceAdd, Nat.reduceSub, Array.replicate_succ, Array.replicate_zero, List.push_toArray, List.append_toArray, List.nil_append, List.cons_append]
  gi_wp2
  gi_region
  gi_wp2
  gi_loopw [3, 4] (fun i r wr => ∃ k : Nat, k < Jo.secs n ∧ i = .int .i64 k ∧ r = restV A n c k ∧ Hid (J (upto k) wr)) (fun i _ _ => Jo.secs n - (RowKit.intOf i).toNat)
  case atStart => exact ⟨0, hpos, rfl, (restV_zero A n c).symm, hid (HD.out _ _ HJ.out)⟩
  case round =>
    obtain ⟨k, hk, rfl, rfl, hJk⟩ := hrel
    by_cases hgt : 40 < n - 40 * k
    · have hk1 : k + 1 < Jo.secs n := by unfold Jo.secs; omega
      obtain ⟨b, off, rfl⟩ := hA (by omega)
      have hm : decide (k + 1 = Jo.secs n) = false := decide_eq_false (by omega)
      have hmin : min 40 (n - 40 * k) = 40 := by omega
      obtain ⟨fn, tmps, assign, body, hy, hR⟩ := HY.out (upto k) ⟨k, hk⟩ wr.drew (HD.out _ _ hJk.out) (by rw [upto_length k (by omega)]; exact hk)
      have hg : (40 : Int) < ((n - 40 * k : Nat) : Int) := by omega
      simp only [pieceE, pieceV, hm, hmin] at hy
      have HR := hid hR
      have HMk := hid (fun w' => mark_any k false (by unfold Jo.secs at hk; omega) w')
      have hcap : 40 ≤ c - 40 * k := by omega
      have HK := hid (And.intro hk1 hgt)
      clear hR hA hm hmin
      unfold restV
      gi_wp2
      gi_region_with_o (first
        | (refine ⟨trivial, ?_⟩; gi_at_call 75; refine (callsIn_wide.2 (HMk.out _)).mono ?_; rintro e1 w1 ⟨rfl, rfl⟩)
        | (refine HR.out.mono ?_; rintro e3 W3 ⟨b3, rfl, h3⟩))
      all_goals
        have hK := HK.out
        clear hy
        rcases h3 with ⟨rfl, h3⟩ | ⟨rfl, h3⟩
        · have HJ3 := hid h3
          clear h3
          gi_wp2
          go_roundw
          case rel =>
            refine ⟨k + 1, hK.1, by go_num, ?_, hid (by rw [upto_succ k hk]; exact HJ3.out)⟩
            congr 1
          case measure => simp [RowKit.intOf]; omega
        · have HJ3 := hid h3
          clear h3
          gi_wp2
          refine bodyPost_ret (results_none rfl _ _ _) rfl ?_
          exact ⟨⟨_, rfl⟩, .inr ⟨k + 1, by omega, by rw [upto_succ k hk]; exact HJ3.out⟩⟩
    · have hk1 : k + 1 = Jo.secs n := by unfold Jo.secs at hk ⊢; omega
      have hm : decide (k + 1 = Jo.secs n) = true := decide_eq_true hk1
      have hmin : min 40 (n - 40 * k) = n - 40 * k := by omega
      obtain ⟨fn, tmps, assign, body, hy, hR⟩ := HY.out (upto k) ⟨k, hk⟩ wr hJk.out (by rw [upto_length k (by omega)]; exact hk)
      have hg : ¬ (40 : Int) < ((n - 40 * k : Nat) : Int) := by omega
      have HMk := hid (fun w' => mark_any k true (by unfold Jo.secs at hk; omega) w')
      have HK := hid hk1
      have HR := hid hR
      clear hR hA hmin
      rcases A with _ | ⟨b, off, sp⟩
      · simp only [pieceE, pieceV, hm] at hy
        rw [show min 40 (n - 40 * k) = n - 40 * k from by omega] at hy
        clear hm
        unfold restV
        gi_wp2_with (refine ⟨trivial, ?_⟩; gi_at_call 75; refine (callsIn_wide.2 (HMk.out _)).mono ?_; rintro e1 w1 ⟨rfl, rfl⟩)
        refine HR.out.mono ?_
        rintro e3 W3 ⟨b3, rfl, h3⟩
        have H3 := hid h3
        clear hy h3
        gi_wp2
        go_end0
        rcases H3.out with ⟨_, h3⟩ | ⟨_, h3⟩
        · exact ⟨⟨_, rfl⟩, .inl ⟨_, rfl, by rw [← upto_succ k hk, HK.out, upto_all] at h3; exact h3⟩⟩
        · exact ⟨⟨_, rfl⟩, .inr ⟨k + 1, by have := HK.out; omega, by rw [upto_succ k hk]; exact h3⟩⟩
      · simp only [pieceE, pieceV, hm] at hy
        rw [show min 40 (n - 40 * k) = n - 40 * k from by omega] at hy
        clear hm
        unfold restV
        gi_wp2_with (refine ⟨trivial, ?_⟩; gi_at_call 75; refine (callsIn_wide.2 (HMk.out _)).mono ?_; rintro e1 w1 ⟨rfl, rfl⟩)
        refine HR.out.mono ?_
        rintro e3 W3 ⟨b3, rfl, h3⟩
        have H3 := hid h3
        clear hy h3
        gi_wp2
        go_end0
        rcases H3.out with ⟨_, h3⟩ | ⟨_, h3⟩
        · exact ⟨⟨_, rfl⟩, .inl ⟨_, rfl, by rw [← upto_succ k hk, HK.out, upto_all] at h3; exact h3⟩⟩
        · exact ⟨⟨_, rfl⟩, .inr ⟨k + 1, by have := HK.out; omega, by rw [upto_succ k hk]; exact h3⟩⟩
end J
end Go.Proofs.Ytdgijnolpjaheaa
namespace Go.Proofs.Ytdgijnolpjaheaa
open Go Go.RowKit

theorem rowsIn_wide {n l : Nat} {P : Program} {row : String} {args : Array Value} {w : World} {R : Value → World → Prop} (h : Rows P row args w R) : RowsIn (Fence.wide.inRound l) n P row args w R :=
  fun c cs _ => let ⟨v, w', r, s⟩ := h c cs; ⟨v, w', r, stepsIn_wide.2 s⟩
theorem uponIn_wide {n l : Nat} {P : Program} {o : Oper} {a : Act} {K : Act → World → Prop} {Q : Exit → Act → World → Prop} {r : Result Next} (h : o.upon P a K Q r) : o.uponIn (Fence.wide.inRound l) n P a K Q r := by
  cases r with
  | ok x w' =>
    cases x <;> simp only [Oper.upon] at h
    case value v => exact h
    case skip => exact h
    case defer d => exact h
    case enter f args => exact ⟨fun e => by simp [Fence.wide] at e, callsIn_wide.2 h⟩
    case row row args => exact ⟨fun e => by simp [Fence.wide] at e, rowsIn_wide h⟩
  | halt x w' => cases x <;> simp only [Oper.upon] at h <;> exact h
def noDefer (ops : Array Oper) : Bool := ops.all fun o => match o.op with | .defer _ => false | _ => true
theorem noDefer_spec {ops : Array Oper} (h : noDefer ops = true) {i : Nat} {o : Oper} (ho : ops[i]? = some o) : ∀ c, o.op ≠ .defer c := by
  intro c hc
  obtain ⟨hi, rfl⟩ := Array.getElem?_eq_some_iff.1 ho
  have := Array.all_eq_true.1 h i hi
  rw [hc] at this
  cases this
theorem opIn_wide {n l : Nat} {P : Program} {ops : Array Oper} {Q : Exit → Act → World → Prop} {i : Nat} {K : Act → World → Prop} {a : Act} {w : World} (hd : noDefer ops = true) (hq : ¬ LetsOut Q)
    (h : wpOp P ops Q i K a w) : wpOpIn (Fence.wide.inRound l) n P ops Q i K a w := by
  unfold wpOp at h
  unfold wpOpIn
  cases ho : ops[i]? with
  | none => simpa [ho] using h
  | some o =>
    simp only [ho] at h ⊢
    by_cases hw : Region.wanted o (yielded ops a.tmps) = true
    · rw [if_pos hw] at h ⊢
      rcases h with h | ⟨_, h⟩
      · refine ⟨fun _ _ => trivial, ?_⟩
        rw [Oper.semAt_eq _ _ _ (noDefer_spec hd ho)]
        exact uponIn_wide h
      · exact absurd h hq
    · rw [if_neg hw] at h ⊢
      exact ⟨fun _ _ => trivial, h⟩
theorem anyIn_wide {n l : Nat} {P : Program} {md : Region.Mode} {ops : Array Oper} {Q : Exit → Act → World → Prop} (hd : noDefer ops = true) (hq : ¬ LetsOut Q) :
    ∀ (fuel : Nat) (listed : Array Bool) (a : Act) (w : World), wpAny P md ops Q fuel listed a w → wpAnyIn (Fence.wide.inRound l) n P md ops Q fuel listed a w
  | 0, _, _, _, h => h
  | fuel + 1, _, _, _, h => ⟨h.1, fun i hi => opIn_wide hd hq (wpOp_mono (fun a' w' h' => anyIn_wide hd hq fuel _ a' w' h') (h.2 i hi))⟩
/-- the region in a round, by what holds of a world (S) as long as the region runs -/
theorem wpIn_region_held {n l id : Nat} {P : Program} {ops : Array Oper} {Q : Exit → Act → World → Prop} {a : Act} {w : World} (S : World → Prop) (hm : P.follows .mixedOrders = true) (hd : noDefer ops = true) (hq : ¬ LetsOut Q)
    (h : wpAnyH P .any ops Q S ops.size (Array.replicate ops.size false) a w.drew) : (Code.region id ops true).wpIn (Fence.wide.inRound l) n P Q a w :=
  wpIn_region_any hm (anyIn_wide hd hq _ _ _ _ (wpAny_of_held _ _ _ _ h))
theorem wpOp_of_wp {P : Program} {ops : Array Oper} {Q : Exit → Act → World → Prop} {i : Nat} {K : Act → World → Prop} {a : Act} {w : World} {o : Oper} (hi : ops[i]? = some o) (hg : o.guard = none) (h : o.wp P a w K Q) : wpOp P ops Q i K a w := by
  unfold wpOp
  simp only [hi]
  rw [if_pos (by simp [Region.wanted, hg])]
  exact .inl h
/-- an operation is taken first; where it leaves its value -/
theorem take_first {P : Program} {md : Region.Mode} {ops : Array Oper} {Q : Exit → Act → World → Prop} {S : World → Prop} (i : Nat) {oi : Oper} (v : Value) {dd : Tmp} {fuel : Nat} {listed : Array Bool} {a : Act} {w : World} (hi : ops[i]? = some oi) (hdst : oi.dst = some dd)
    (hs : Region.noSelect ops = true) (hf : Region.free md ops listed i = true) (hr : (Region.ready md ops listed).contains i = true)
    (hQ : ∀ c a a' w, Q (.panic c) a w → Q (.panic c) a' w) (hw : Region.wanted oi (yielded ops a.tmps) = true) (hy : ∀ w, S w → (execOp a.eval oi).run P w = .ok (.value v) w) (hS : S w)
    (h : wpAnyH P md ops Q S fuel (listed.setIfInBounds i true) { tmps := a.tmps.setIfInBounds dd v, defers := a.defers } w) : wpAnyH P md ops Q S (fuel + 1) listed a w := by
  refine wpAnyH_take (v := v) hi hs hf hr (fun c a w => hQ c _ _ w) (Or.inl ⟨hw, hy⟩) hS ?_
  rw [hdst]
  exact h
/-- one operation alone may come up -/
theorem go_next {P : Program} {md : Region.Mode} {ops : Array Oper} {Q : Exit → Act → World → Prop} {S : World → Prop} (i : Nat) {oi : Oper} {fuel : Nat} {listed : Array Bool} {a : Act} {w : World} (hi : ops[i]? = some oi) (hg : oi.guard = none)
    (hr : Region.ready md ops listed = [i]) (h : oi.wp P a w (fun a' w' => S w' ∧ wpAnyH P md ops Q S fuel (listed.setIfInBounds i true) a' w') Q) : wpAnyH P md ops Q S (fuel + 1) listed a w := by
  refine wpAnyH_all hr (by simp) ?_
  intro j hj
  obtain rfl : j = i := by simpa using hj
  exact wpOp_of_wp hi hg h

theorem wp_of_call {P : Program} {Q : Exit → Act → World → Prop} {K : Act → World → Prop} {a : Act} {w : World} {o : Oper} {dd : Tmp} (hdst : o.dst = some dd) (f : Nat) (args : Array Value) (hr : (execOp a.eval o).run P w = .ok (.enter f args) w)
    (h : Calls P f args w fun e w' => ∃ v, e = .returned v ∧ K { tmps := a.tmps.setIfInBounds dd v, defers := a.defers } w') : o.wp P a w K Q := by
  unfold Oper.wp
  rw [hr, Oper.upon_enter]
  refine h.mono ?_
  rintro e w' ⟨v, rfl, hK⟩
  show K (a.put o.dst v) w'
  rw [hdst]
  exact hK
theorem wp_of_value {P : Program} {Q : Exit → Act → World → Prop} {K : Act → World → Prop} {a : Act} {w w' : World} {o : Oper} {v : Value} (hr : (execOp a.eval o).run P w = .ok (.value v) w') (h : K (a.put o.dst v) w') : o.wp P a w K Q := by
  unfold Oper.wp
  rw [hr, Oper.upon_value]
  exact h
/-- append, onto a slice of bytes that the call has made, of bytes that may be nil, empty or lie anywhere -/
theorem wp_append_bytes {P : Program} {w : World} {o : Oper} {a : Act} {K : Act → World → Prop} {Q : Exit → Act → World → Prop} {dd : Tmp} (hdst : o.dst = some dd) (s x : Operand) (t : TypeId)
    (ho : o.op = .call { callee := .builtin .append, args := #[s, x], argTypes := #[t, t] })
    (base : Nat) (e : TypeId) (i : TypeInfo) (ht : P.underlying t = some (.slice e)) (hi : P.info? e = some i) (hz : i.zero = some (.int .u8 0)) (hsize : i.size = 1) (hby : i.bytes = 1)
    (A : Option Addr) (c : Nat) (l : List Nat) (n : Nat) (hln : l.length = n) (hs : a.eval s = .slice A n c) (hown : OwnsB e w base A c l)
    (B : Nat) (A' : Option Addr) (c' : Nat) (m : List Nat) (k : Nat) (hmk : m.length = k) (hx : a.eval x = .slice A' k c') (hnil : A' = none → c' = 0) (hr : IsBytes w B A' m)
    (hbytes : n + k ≤ 140737488355328) (hbase : base ≤ w.heap.size)
    (h : ∀ A2 c2 w', OwnsB e w' base A2 c2 (l ++ m) → w.grownBy w' (blk A) → K { tmps := a.tmps.setIfInBounds dd (.slice A2 (n + k) c2), defers := a.defers } w') : o.wp P a w K Q := by
  have h : ∀ A2 c2 w', OwnsB e w' base A2 c2 (l ++ m) → w.grownBy w' (blk A) → K (a.put o.dst (.slice A2 (n + k) c2)) w' := fun A2 c2 w' h1 h2 => by rw [hdst]; exact h A2 c2 w' h1 h2
  subst hln
  subst hmk
  have hsm : ∀ y ∈ l ++ m, y < 256 := fun y hy => by
    rcases List.mem_append.1 hy with hy | hy
    · exact hown.small y hy
    · exact hr.small y hy
  rcases A' with _ | ad
  · obtain rfl := hr.of_none
    obtain rfl := hnil rfl
    have hrun := run_append_owned_none (P := P) (w := w) base t o.type e i 1 ht hi _ l.length (bytes l) hown.row
    unfold Oper.wp
    simp [execOp, ho, resolve, invoke, builtin, hs, hx, hrun, Result.andThen]
    exact h A c w ⟨hsm, by simpa using hown.row⟩ (World.grownBy.refl w _)
  · obtain ⟨v', w', hrun, h1, h2, _⟩ := run_append_own (P := P) w base t o.type e i (.int .u8 0) 1 1 ht hi hz hsize hby rfl (by decide) _ l.length (bytes l) hown.row ad m.length c' (bytes m) (by rw [bytes_length]; omega) hr.news (bytes_oneCell m) (by unfold maxLen; omega) (by omega) hbase
    obtain ⟨A2, c2, rfl⟩ := own_slice h1
    rw [bytes_append] at h1
    unfold Oper.wp
    simp [execOp, ho, resolve, invoke, builtin, hs, hx, hrun, Result.andThen]
    exact h A2 c2 w' ⟨hsm, by rw [List.length_append]; exact h1⟩ (by rw [← ownBlock_slice A l.length c]; exact h2)
end Go.Proofs.Ytdgijnolpjaheaa
namespace Go.Proofs.Ytdgijnolpjaheaa
open Go.RowKit

set_option maxRecDepth 100000 in
/-- the map has something for a sector -/
theorem DiskAt.put {w : World} {Z : Nat → Prop} {d : Dk} {s : Sx.St} (h : DiskAt w Z d s) (k : Nat) (hk : k < s.n) (A : Option Addr) (c : Nat) (b : List Nat) (hb : b.length ≤ 64) (hA : OwnsZ w Z A c b) :
    ∃ w', (Instr.mapUpdate 64 (.map (some d.m)) (.int .i64 (k : Int)) (.slice A b.length c)).run Try.prog w = .ok () w' ∧ DiskAt w' Z d { s with cache := Sx.upd s.cache k (some b) } ∧ Turned (fun j => j = d.m) w w' := by
  obtain ⟨f, hown, hf⟩ := h.map
  have hbd := h.bound
  have hkey : keyOf Try.prog 3 (.int .i64 (k : Int)) = some (.int .i64 (k : Int)) := Maps.keyOf_int_mk Try.underlying3 (WalkArith.wf_i64 (by omega))
  obtain ⟨w', hrun, hown', hg⟩ := hown.update (Maps.int_keyed Try.underlying3) Try.underlying64 (by unfold maxLen; omega) (val := .slice A b.length c) (d := .held (.slice A b.length c)) (ps := []) hkey rfl
  rw [Sx.put_of _ _ _ hk] at hown'
  have ht : Turned (fun j => j = d.m) w w' := Turned.ofGrown hg (fun j e => by injection e with e; exact e.symm)
  have hz : ∀ A c l, OwnsZ w Z A c l → OwnsZ w' Z A c l := fun A c l hA => by
    obtain ⟨es, clock, h1, _⟩ := hown
    refine (((hA.shunTag h1 ?_).keep (w' := w') (ht.mono (fun _ h => .inr h))).mono (fun _ h => .inl h))
    intro cur e
    cases e
  refine ⟨w', hrun, ⟨hbd, h.off, h.left, (ht.block _ h.glt h.g_ne_m).trans h.disk, ?_, ?_⟩, ht⟩
  · obtain ⟨cur, h1, h2, h3⟩ := h.row
    refine ⟨cur, (ht.block _ h.hlt h.h_ne_m).trans h1, h2, fun i hi' => ?_⟩
    obtain ⟨h4, A, c, h5, h6, h7⟩ := h3 i hi'
    exact ⟨h4, A, c, h5, h6, hz _ _ _ h7⟩
  · refine ⟨_, ownsMap_tight hown' (Sx.size_of _ _), fun i hi => ?_⟩
    show ElemAt w' Z (Sx.upd f k (some (.slice A b.length c)) i) (Sx.upd s.cache k (some b) i)
    by_cases e : i = k
    · subst e
      rw [Sx.upd_same, Sx.upd_same]
      exact ⟨hb, A, c, rfl, hz _ _ _ hA⟩
    · rw [Sx.upd_other _ _ _ _ e, Sx.upd_other _ _ _ _ e]
      exact (hf i hi).imp hz

set_option maxRecDepth 100000 in
theorem write_any (Z : Nat → Prop) (d : Dk) (s : Sx.St) (i : Int) (A : Option Addr) (c : Nat) (l : List Nat) (n : Nat) (hn : l.length = n) (hz : A = none → c = 0) (w : World) (hZ : ∀ k, Z k → k < w.heap.size) (h : DiskAt w Z d s)
    (hin : ∀ w', Turned d.has w w' → IsBytes w' w'.heap.size A l) :
    Calls Try.prog 19 #[.pointer (some ⟨d.g, 0, none⟩), .int .i64 i, .slice A n c] w fun e w' => e = .returned (.int .i64 (Sx.wrE s i l)) ∧ DiskAt w' Z d (Sx.wrS s i l) ∧ Turned d.has w w' := by
  subst hn
  have HH := hid h
  obtain ⟨c0, c1, c2, c3, c4⟩ := h.cells
  cases ho : s.down
  · rw [ho] at c4
    by_cases hi : 0 ≤ i ∧ i < s.n
    · have HA := hid (has_any Z d s i w h)
      rw [show decide (0 ≤ i ∧ i < s.n) = true from decide_eq_true hi] at HA
      by_cases hl : 64 < l.length
      · have e1 : Sx.wrE s i l = 2 := by unfold Sx.wrE; rw [ho, if_pos hi, if_pos hl]; rfl
        have e2 : Sx.wrS s i l = s := by unfold Sx.wrS; rw [ho, if_pos hi, if_pos hl]; rfl
        rw [e1, e2]
        clear h hin e1 e2 hi ho
        go_enter Try.func19, Try.ntmps19
        go_wp2_with fail
        refine HA.out.mono ?_
        rintro e w1 ⟨rfl, rfl⟩
        go_wp2
        go_ret
        exact ⟨rfl, HH.out, Turned.refl _ _⟩
      · have HS := hid (spend_any Z d s w h)
        cases hd : s.dead
        · have e0 : Sx.spE s = 0 := by simp [Sx.spE, hd, ho]
          have e0' : Sx.spS s = s.spent := by simp [Sx.spS, hd, ho]
          rw [e0, e0'] at HS
          obtain ⟨k, rfl⟩ := Int.eq_ofNat_of_zero_le hi.1
          have hk : k < s.n := by omega
          have e1 : Sx.wrE s k l = 0 := by unfold Sx.wrE; rw [ho, if_pos hi, if_neg hl, e0]; rfl
          have e2 : Sx.wrS s k l = { s.spent with cache := Sx.upd s.cache k (some l) } := by unfold Sx.wrS; rw [ho, if_pos hi, if_neg hl, hd]; simp
          rw [e1, e2]
          have HP := hid (And.intro hk hin)
          have hl' : l.length ≤ 64 := by omega
          clear h hin e1 e2 hi ho hd e0 e0' hk hl
          go_enter Try.func19, Try.ntmps19
          go_wp2_with fail
          refine HA.out.mono ?_
          rintro e w1 ⟨rfl, rfl⟩
          go_wp2_with fail
          refine HS.out.mono ?_
          rintro e w2 ⟨rfl, hD2, ht2⟩
          obtain ⟨b0, b1, b2, b3, b4⟩ := hD2.cells
          have HD2 := hid hD2
          have HT2 := hid ht2
          have HC := hid (clone_any w2.drew.heap.size A c l l.length rfl (by omega) hz w2.drew (HP.out.2 _ ht2.drew) (Nat.le_refl _))
          clear hD2 c0 c1 c2 c3 c4
          have hsz := ht2.size
          clear ht2 HS HA HH
          go_wp2_with fail
          go_region_with (go_at_call 40; refine HC.out.mono ?_; rintro e w3 ⟨A3, c3, rfl, hown3, hb3⟩; have hD3 : DiskAt w3 Z d s.spent := HD2.out.drew.below hb3; have b1' := hD3.cells.2.1; have hZ3 : OwnsZ w3 Z A3 c3 l := ⟨hown3.weaken (Nat.zero_le _), fun j hj e => by have h1 := (hown3.blkLt j hj).1; have h2 := hZ j e; have h3 : w2.drew.heap.size = w2.heap.size := rfl; omega⟩; obtain ⟨w4, hrun4, hD4, ht4⟩ := hD3.put k HP.out.1 A3 c3 l hl' hZ3; have H4 := hid (And.intro hD4 (ht4.mono (S' := d.has) (fun _ h => .inr (.inr h)))); have H3 := hid (Turned.ofBelow d.has hb3); clear hD3 hZ3 hD4 ht4 hown3 hb3)
          all_goals
            (go_wp2
             go_ret
             exact ⟨rfl, H4.out.1, (HT2.out.drew.trans H3.out).trans H4.out.2⟩)
        · have e0 : Sx.spE s = 10 := by simp [Sx.spE, hd]
          have e0' : Sx.spS s = s.off := by simp [Sx.spS, hd]
          rw [e0, e0'] at HS
          have e1 : Sx.wrE s i l = 10 := by unfold Sx.wrE; rw [ho, if_pos hi, if_neg hl, e0]; rfl
          have e2 : Sx.wrS s i l = s.off := by unfold Sx.wrS; rw [ho, if_pos hi, if_neg hl, hd]; rfl
          rw [e1, e2]
          have hl' : (l.length : Int) ≤ 64 := by omega
          clear h hin e1 e2 hi ho hd e0 e0' hl
          go_enter Try.func19, Try.ntmps19
          go_wp2_with fail
          refine HA.out.mono ?_
          rintro e w1 ⟨rfl, rfl⟩
          go_wp2_with fail
          refine HS.out.mono ?_
          rintro e w2 ⟨rfl, hD2, ht2⟩
          go_wp2
          go_ret
          exact ⟨rfl, hD2, ht2⟩
    · have HA := hid (has_any Z d s i w h)
      rw [show decide (0 ≤ i ∧ i < s.n) = false from decide_eq_false hi] at HA
      have e1 : Sx.wrE s i l = 3 := by unfold Sx.wrE; rw [ho, if_neg hi]; rfl
      have e2 : Sx.wrS s i l = s := by unfold Sx.wrS; rw [ho, if_neg hi]; rfl
      rw [e1, e2]
      clear h hin e1 e2 hi ho
      go_enter Try.func19, Try.ntmps19
      go_wp2_with fail
      refine HA.out.mono ?_
      rintro e w1 ⟨rfl, rfl⟩
      go_wp2
      go_ret
      exact ⟨rfl, HH.out, Turned.refl _ _⟩
  · rw [ho] at c4
    have e1 : Sx.wrE s i l = 10 := by unfold Sx.wrE; rw [ho]; rfl
    have e2 : Sx.wrS s i l = s := by unfold Sx.wrS; rw [ho]; rfl
    rw [e1, e2]
    clear h hin e1 e2 ho
    go_enter Try.func19, Try.ntmps19
    go_wp2
    go_ret
    exact ⟨rfl, HH.out, Turned.refl _ _⟩
end Go.Proofs.Ytdgijnolpjaheaa
