/- The walks through the document's answer for messages: its table, its numbers. -/
import Derived.Test.YtmaebemhephcmaaDoorMsWorks
namespace Go.Proofs.YtmaebemhephcmaaDoor.Ms
open Go.RowKit
set_option maxRecDepth 100000
set_option linter.unusedVariables false
attribute [local go_sem ↓] loadAt_msg storeAt_msg

/-- a field's place in the document's list -/
def rix (r : Nat) : Int :=
  if r = 103 then 0 else if r = 116 then 1 else if r = 105 then 2 else if r = 112 then 3 else if r = 99 then 4 else if r = 114 then 5 else if r = 115 then 6 else if r = 120 then 7 else if r = 97 then 8 else if r = 98 then 9 else
  if r = 118 then 10 else if r = 111 then 11 else if r = 101 then 12 else 13
def allR : List Nat := [103, 116, 105, 112, 99, 114, 115, 120, 97, 98, 118]
def hasL (K : Int) : List Int := if 1 ≤ K ∧ K ≤ 11 then (tab K.toNat).map rix else []
def M.numsL (m : M) : List Int := [m.g, m.t, m.i, m.p, m.c, m.r, m.s, m.x, m.a, m.b, m.v]
theorem numsL_get (m : M) (k : Nat) (h : k < 11) : m.numsL[k]'h = m.num (allR[k]'h) := by
  match k, h with
  | 0, _ | 1, _ | 2, _ | 3, _ | 4, _ | 5, _ | 6, _ | 7, _ | 8, _ | 9, _ | 10, _ => rfl
theorem rix_allR (k : Nat) (h : k < 11) : rix (allR[k]'h) = (k : Int) := by
  match k, h with
  | 0, _ | 1, _ | 2, _ | 3, _ | 4, _ | 5, _ | 6, _ | 7, _ | 8, _ | 9, _ | 10, _ => rfl
theorem has_in (K : Int) (h : 1 ≤ K ∧ K ≤ 11) (r : Nat) (hr : r ∈ all) : (hasL K).contains (rix r) = (tab K.toNat).contains r := by
  have key : ∀ k ∈ List.range 12, ∀ r ∈ all, ((tab k).map rix).contains (rix r) = (tab k).contains r := by decide
  unfold hasL
  rw [if_pos h]
  exact key K.toNat (List.mem_range.2 (by omega)) r hr
theorem has_len (K : Int) (h : 1 ≤ K ∧ K ≤ 11) : (hasL K).length = (tab K.toNat).length ∧ 1 ≤ (hasL K).length := by
  unfold hasL
  rw [if_pos h, List.length_map]
  refine ⟨rfl, ?_⟩
  have key : ∀ k ∈ List.range 12, 1 ≤ k → 1 ≤ (tab k).length := by decide
  exact key K.toNat (List.mem_range.2 (by omega)) (by omega)
theorem has_in_int (K : Int) : ∀ x ∈ hasL K, InInt x := by
  have key : ∀ k ∈ List.range 12, ∀ r ∈ tab k, 0 ≤ rix r ∧ rix r ≤ 13 := by decide
  intro x hx
  unfold hasL at hx
  by_cases h : 1 ≤ K ∧ K ≤ 11
  · rw [if_pos h] at hx
    obtain ⟨r, hr, rfl⟩ := List.mem_map.1 hx
    have := key K.toNat (List.mem_range.2 (by omega)) r hr
    unfold InInt; omega
  · rw [if_neg h] at hx; cases hx
set_option maxHeartbeats 1600000 in
theorem has_any (K : Int) (w : World) :
    Calls Tryd.prog 37 #[.int .i64 K] w fun e w' => ∃ A c, e = .returned (.slice A (hasL K).length c) ∧ IsInts w' w'.heap.size A (hasL K) ∧ (hasL K).length ≤ c ∧ Below w.heap.size w w' := by
  by_cases h : 1 ≤ K ∧ K ≤ 11
  · have hc : K = 1 ∨ K = 2 ∨ K = 3 ∨ K = 4 ∨ K = 5 ∨ K = 6 ∨ K = 7 ∨ K = 8 ∨ K = 9 ∨ K = 10 ∨ K = 11 := by omega
    have hin := has_in_int K
    have HIN := hid hin
    clear hin h
    have fin : ∀ (L : List Int), hasL K = L → ∀ n : Nat, L.length = n → ∃ A c, Ending.returned (.slice (some ⟨w.heap.size, 0, none⟩) n n) = .returned (.slice A (hasL K).length c) ∧ IsInts (w.alloc (.cells (ints L).toArray 3)) (w.alloc (.cells (ints L).toArray 3)).heap.size A (hasL K) ∧ (hasL K).length ≤ c ∧ Below w.heap.size w (w.alloc (.cells (ints L).toArray 3)) := by
      intro L hL n hn
      subst hn
      rw [← hL]
      exact ⟨some ⟨w.heap.size, 0, none⟩, (hasL K).length, rfl, by rw [World.size_alloc]; exact isInts_new w _ HIN.out 3 (0, 0), Nat.le_refl _, (Below.refl _ w).alloc (Nat.le_refl _) _⟩
    have FIN := hid fin
    clear fin
    rcases hc with rfl | rfl | rfl | rfl | rfl | rfl | rfl | rfl | rfl | rfl | rfl <;>
    · go_enter Tryd.func37, Tryd.ntmps37
      go_wp2
      go_ret
      exact FIN.out _ rfl _ rfl
  · have hl : hasL K = [] := if_neg h
    rw [hl]
    have n1 : K ≠ 1 := by omega
    have n2 : K ≠ 2 := by omega
    have n3 : K ≠ 3 := by omega
    have n4 : K ≠ 4 := by omega
    have n5 : K ≠ 5 := by omega
    have n6 : K ≠ 6 := by omega
    have n7 : K ≠ 7 := by omega
    have n8 : K ≠ 8 := by omega
    have n9 : K ≠ 9 := by omega
    have n10 : K ≠ 10 := by omega
    have n11 : K ≠ 11 := by omega
    clear h hl
    go_enter Tryd.func37, Tryd.ntmps37
    go_wp2
    go_ret
    exact ⟨none, 0, rfl, IsInts.nil, Nat.le_refl _, Below.refl _ _⟩
set_option maxHeartbeats 1600000 in
theorem numbers_any (m : M) (A : Option Addr) (c : Nat) (A' : Option Addr) (c' : Nat) (w : World) (hn : ∀ r ∈ nums, InInt (m.num r)) :
    Calls Tryd.prog 38 #[.agg #[.int .i64 m.K, .int .i64 m.F, .int .i64 m.T, .int .i64 m.g, .int .i64 m.t, .int .i64 m.i, .int .i64 m.p, .int .i64 m.c, .int .i64 m.r, .int .i64 m.x, .int .i64 m.a, .int .i64 m.b, .int .i64 m.v, .int .i64 m.s, .bool m.ok, .slice A m.es.length c, .slice A' m.d.length c']] w fun e w' => ∃ A, e = .returned (.slice A 11 11) ∧ IsInts w' w'.heap.size A m.numsL ∧ Below w.heap.size w w' := by
  have hin : ∀ x ∈ m.numsL, InInt x := by
    intro x hx
    simp only [M.numsL, List.mem_cons, List.not_mem_nil, or_false] at hx
    rcases hx with rfl | rfl | rfl | rfl | rfl | rfl | rfl | rfl | rfl | rfl | rfl
    · exact hn 103 (by decide)
    · exact hn 116 (by decide)
    · exact hn 105 (by decide)
    · exact hn 112 (by decide)
    · exact hn 99 (by decide)
    · exact hn 114 (by decide)
    · exact hn 115 (by decide)
    · exact hn 120 (by decide)
    · exact hn 97 (by decide)
    · exact hn 98 (by decide)
    · exact hn 118 (by decide)
  have HIN := hid hin
  clear hin hn
  go_enter Tryd.func38, Tryd.ntmps38
  go_wp2
  go_ret
  obtain ⟨w1, hw1⟩ : ∃ w1, w1 = w.alloc (.cells #[.int .i64 m.K, .int .i64 m.F, .int .i64 m.T, .int .i64 m.g, .int .i64 m.t, .int .i64 m.i, .int .i64 m.p, .int .i64 m.c, .int .i64 m.r, .int .i64 m.x, .int .i64 m.a, .int .i64 m.b, .int .i64 m.v, .int .i64 m.s, .bool m.ok, .slice A m.es.length c, .slice A' m.d.length c'] 25) := ⟨_, rfl⟩
  have hb1 : Below w.heap.size w w1 := by rw [hw1]; exact (Below.refl _ w).alloc (Nat.le_refl _) _
  have hs1 : w1.heap.size = w.heap.size + 1 := by rw [hw1]; simp
  rw [← hw1, ← hs1]
  exact ⟨some ⟨w1.heap.size, 0, none⟩, rfl, by rw [World.size_alloc]; exact isInts_new w1 m.numsL HIN.out 3 (0, 0), hb1.alloc hb1.size _⟩
set_option maxHeartbeats 1600000 in
theorem in_any (B : Nat) (A : Option Addr) (c n : Nat) (l : List Int) (hn : l.length = n) (k : Int) (b : Bool) (hb : l.contains k = b) (w : World) (h : IsInts w B A l) (hl : n ≤ 1000000) :
    Calls Tryd.prog 39 #[.slice A n c, .int .i64 k] w fun e w' => e = .returned (.bool b) ∧ w' = w := by
  subst hn
  have HB := hid hb
  clear hb
  go_enter Tryd.func39, Tryd.ntmps39
  go_wp2_with fail
  go_loopw [5] (fun i wr => ∃ j : Nat, j ≤ l.length ∧ i = .int .i64 (j : Int) ∧ wr = w ∧ Hid (∀ x ∈ l.take j, x ≠ k)) (fun i _ => l.length - (intOf i).toNat)
  case atStart => exact ⟨0, Nat.zero_le _, rfl, rfl, hid (by simp)⟩
  case round =>
    obtain ⟨j, hj, rfl, hwr, HJ⟩ := hrel
    rw [hwr]
    clear hwr
    by_cases hlt : j < l.length
    · obtain ⟨b1, off, rfl, _, hc⟩ := h.cells j hlt
      have hck := hc j hlt
      clear hc
      by_cases he : l[j] = k
      · have HR : Hid (b = true) := hid (by rw [← HB.out]; simp; rw [← he]; exact List.getElem_mem hlt)
        go_wp2_with fail
        go_ret
        exact ⟨by rw [HR.out]; rfl, rfl⟩
      · have HN : Hid (∀ x ∈ l.take (j + 1), x ≠ k) := hid (by
          intro x hx
          rw [List.take_succ_eq_append_getElem hlt] at hx
          rcases List.mem_append.1 hx with hx | hx
          · exact HJ.out x hx
          · obtain rfl := List.mem_singleton.1 hx; exact he)
        go_wp2_with fail
        go_roundw
        case rel => exact ⟨j + 1, by omega, by go_num, trivial, HN⟩
        case measure => simp [intOf]; omega
    · have HR : Hid (b = false) := hid (by
        rw [← HB.out]
        have := HJ.out
        rw [List.take_of_length_le (by omega)] at this
        simp
        intro hin
        exact this k hin rfl)
      go_wp2_with fail
      go_ret
      exact ⟨by rw [HR.out]; rfl, rfl⟩
set_option maxHeartbeats 1600000 in
theorem ranged_any (v : Int) (k : Nat) (hk : k < 11) (w : World) :
    Calls Tryd.prog 63 #[.int .i64 (k : Int), .int .i64 v] w fun e w' => e = .returned (.bool (within v (allR[k]'hk))) ∧ w' = w := by
  match k, hk with
  | 0, hk =>
    by_cases h1 : 0 ≤ v <;> by_cases h2 : v ≤ 4 <;>
    · have HW : Hid (within v (103) = (decide (0 ≤ v) && decide (v ≤ 4))) := rfl
      go_enter Tryd.func63, Tryd.ntmps63
      go_wp2
      all_goals
        go_ret
        refine ⟨?_, rfl⟩
        show _ = Ending.returned (.bool (within v (103)))
        rw [HW.out]
        simp [*]
  | 1, hk =>
    by_cases h1 : 0 ≤ v <;> by_cases h2 : v ≤ 1099511627776 <;>
    · have HW : Hid (within v (116) = (decide (0 ≤ v) && decide (v ≤ 1099511627776))) := rfl
      go_enter Tryd.func63, Tryd.ntmps63
      go_wp2
      all_goals
        go_ret
        refine ⟨?_, rfl⟩
        show _ = Ending.returned (.bool (within v (116)))
        rw [HW.out]
        simp [*]
  | 2, hk =>
    by_cases h1 : 0 ≤ v <;> by_cases h2 : v ≤ 1099511627776 <;>
    · have HW : Hid (within v (105) = (decide (0 ≤ v) && decide (v ≤ 1099511627776))) := rfl
      go_enter Tryd.func63, Tryd.ntmps63
      go_wp2
      all_goals
        go_ret
        refine ⟨?_, rfl⟩
        show _ = Ending.returned (.bool (within v (105)))
        rw [HW.out]
        simp [*]
  | 3, hk =>
    by_cases h1 : 0 ≤ v <;> by_cases h2 : v ≤ 1099511627776 <;>
    · have HW : Hid (within v (112) = (decide (0 ≤ v) && decide (v ≤ 1099511627776))) := rfl
      go_enter Tryd.func63, Tryd.ntmps63
      go_wp2
      all_goals
        go_ret
        refine ⟨?_, rfl⟩
        show _ = Ending.returned (.bool (within v (112)))
        rw [HW.out]
        simp [*]
  | 4, hk =>
    by_cases h1 : 0 ≤ v <;> by_cases h2 : v ≤ 1099511627776 <;>
    · have HW : Hid (within v (99) = (decide (0 ≤ v) && decide (v ≤ 1099511627776))) := rfl
      go_enter Tryd.func63, Tryd.ntmps63
      go_wp2
      all_goals
        go_ret
        refine ⟨?_, rfl⟩
        show _ = Ending.returned (.bool (within v (99)))
        rw [HW.out]
        simp [*]
  | 5, hk =>
    by_cases h1 : 0 ≤ v <;> by_cases h2 : v ≤ 1099511627776 <;>
    · have HW : Hid (within v (114) = (decide (0 ≤ v) && decide (v ≤ 1099511627776))) := rfl
      go_enter Tryd.func63, Tryd.ntmps63
      go_wp2
      all_goals
        go_ret
        refine ⟨?_, rfl⟩
        show _ = Ending.returned (.bool (within v (114)))
        rw [HW.out]
        simp [*]
  | 6, hk =>
    by_cases h1 : 0 ≤ v <;> by_cases h2 : v ≤ 1099511627776 <;>
    · have HW : Hid (within v (115) = (decide (0 ≤ v) && decide (v ≤ 1099511627776))) := rfl
      go_enter Tryd.func63, Tryd.ntmps63
      go_wp2
      all_goals
        go_ret
        refine ⟨?_, rfl⟩
        show _ = Ending.returned (.bool (within v (115)))
        rw [HW.out]
        simp [*]
  | 7, hk =>
    by_cases h1 : 1 ≤ v <;> by_cases h2 : v ≤ 1099511627776 <;>
    · have HW : Hid (within v (120) = (decide (1 ≤ v) && decide (v ≤ 1099511627776))) := rfl
      go_enter Tryd.func63, Tryd.ntmps63
      go_wp2
      all_goals
        go_ret
        refine ⟨?_, rfl⟩
        show _ = Ending.returned (.bool (within v (120)))
        rw [HW.out]
        simp [*]
  | 8, hk =>
    by_cases h1 : 1 ≤ v <;> by_cases h2 : v ≤ 4 <;>
    · have HW : Hid (within v (97) = (decide (1 ≤ v) && decide (v ≤ 4))) := rfl
      go_enter Tryd.func63, Tryd.ntmps63
      go_wp2
      all_goals
        go_ret
        refine ⟨?_, rfl⟩
        show _ = Ending.returned (.bool (within v (97)))
        rw [HW.out]
        simp [*]
  | 9, hk =>
    by_cases h1 : 0 ≤ v <;> by_cases h2 : v ≤ 1099511627776 <;>
    · have HW : Hid (within v (98) = (decide (0 ≤ v) && decide (v ≤ 1099511627776))) := rfl
      go_enter Tryd.func63, Tryd.ntmps63
      go_wp2
      all_goals
        go_ret
        refine ⟨?_, rfl⟩
        show _ = Ending.returned (.bool (within v (98)))
        rw [HW.out]
        simp [*]
  | 10, hk =>
    by_cases h1 : 0 ≤ v <;> by_cases h2 : v ≤ 2 <;>
    · have HW : Hid (within v (118) = (decide (0 ≤ v) && decide (v ≤ 2))) := rfl
      go_enter Tryd.func63, Tryd.ntmps63
      go_wp2
      all_goals
        go_ret
        refine ⟨?_, rfl⟩
        show _ = Ending.returned (.bool (within v (118)))
        rw [HW.out]
        simp [*]
end Go.Proofs.YtmaebemhephcmaaDoor.Ms
