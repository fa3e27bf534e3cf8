/- Texts of the proof, one behind the other: MsRefB. -/
import Derived.Test.YtpigekbfngalbaaDoorPartAL
import Derived.BigQuiet
namespace Go.Proofs.YtpigekbfngalbaaDoor.Ms
open Go.RowKit
set_option maxRecDepth 100000
set_option linter.unusedVariables false
attribute [local go_sem ↓] loadAt_msg storeAt_msg

/-- a field's place in the document's list -/
def rix (r : Nat) : Int :=
  if r = 103 then 0 else if r = 116 then 1 else if r = 105 then 2 else if r = 112 then 3 else if r = 99 then 4 else if r = 114 then 5 else if r = 115 then 6 else if r = 120 then 7 else if r = 97 then 8 else if r = 98 then 9 else
  if r = 118 then 10 else if r = 111 then 11 else if r = 101 then 12 else 13
def allR : List Nat := [103, 116, 105, 112, 99, 114, 115, 120, 97, 98, 118]
def hasL (K : Int) : List Int := if 1 ≤ K ∧ K ≤ 11 then (tab K.toNat).map rix else []
def M.numsL (m : M) : List Int := [m.g, m.t, m.i, m.p, m.c, m.r, m.s, m.x, m.a, m.b, m.v]
theorem numsL_get (m : M) (k : Nat) (h : k < 11) : m.numsL[k]'h = m.num (allR[k]'h) := by
  match k, h with
  | 0, _ | 1, _ | 2, _ | 3, _ | 4, _ | 5, _ | 6, _ | 7, _ | 8, _ | 9, _ | 10, _ => rfl
theorem rix_allR (k : Nat) (h : k < 11) : rix (allR[k]'h) = (k : Int) := by
  match k, h with
  | 0, _ | 1, _ | 2, _ | 3, _ | 4, _ | 5, _ | 6, _ | 7, _ | 8, _ | 9, _ | 10, _ => rfl
theorem has_in (K : Int) (h : 1 ≤ K ∧ K ≤ 11) (r : Nat) (hr : r ∈ all) : (hasL K).contains (rix r) = (tab K.toNat).contains r := by
  have key : ∀ k ∈ List.range 12, ∀ r ∈ all, ((tab k).map rix).contains (rix r) = (tab k).contains r := by decide
  unfold hasL
  rw [if_pos h]
  exact key K.toNat (List.mem_range.2 (by omega)) r hr
theorem has_len (K : Int) (h : 1 ≤ K ∧ K ≤ 11) : (hasL K).length = (tab K.toNat).length ∧ 1 ≤ (hasL K).length := by
  unfold hasL
  rw [if_pos h, List.length_map]
  refine ⟨rfl, ?_⟩
  have key : ∀ k ∈ List.range 12, 1 ≤ k → 1 ≤ (tab k).length := by decide
  exact key K.toNat (List.mem_range.2 (by omega)) (by omega)
theorem has_in_int (K : Int) : ∀ x ∈ hasL K, InInt x := by
  have key : ∀ k ∈ List.range 12, ∀ r ∈ tab k, 0 ≤ rix r ∧ rix r ≤ 13 := by decide
  intro x hx
  unfold hasL at hx
  by_cases h : 1 ≤ K ∧ K ≤ 11
  · rw [if_pos h] at hx
    obtain ⟨r, hr, rfl⟩ := List.mem_map.1 hx
    have := key K.toNat (List.mem_range.2 (by omega)) r hr
    unfold InInt; omega
  · rw [if_neg h] at hx; cases hx
set_option maxHeartbeats 1600000 in
theorem has_any (K : Int) (w : World) :
    Calls Tryd.prog 37 #[.int .i64 K] w fun e w' => ∃ A c, e = .returned (.slice A (hasL K).length c) ∧ IsInts w' w'.heap.size A (hasL K) ∧ (hasL K).length ≤ c ∧ Below w.heap.size w w' := by
  by_cases h : 1 ≤ K ∧ K ≤ 11
  · have hc : K = 1 ∨ K = 2 ∨ K = 3 ∨ K = 4 ∨ K = 5 ∨ K = 6 ∨ K = 7 ∨ K = 8 ∨ K = 9 ∨ K = 10 ∨ K = 11 := by omega
    have hin := has_in_int K
    have HIN := hid hin
    clear hin h
    have fin : ∀ (L : List Int), hasL K = L → ∀ n : Nat, L.length = n → ∃ A c, Ending.returned (.slice (some ⟨w.heap.size, 0, none⟩) n n) = .returned (.slice A (hasL K).length c) ∧ IsInts (w.alloc (.cells (ints L).toArray 3)) (w.alloc (.cells (ints L).toArray 3)).heap.size A (hasL K) ∧ (hasL K).length ≤ c ∧ Below w.heap.size w (w.alloc (.cells (ints L).toArray 3)) := by
      intro L hL n hn
      subst hn
      rw [← hL]
      exact ⟨some ⟨w.heap.size, 0, none⟩, (hasL K).length, rfl, by rw [World.size_alloc]; exact isInts_new w _ HIN.out 3 (0, 0), Nat.le_refl _, (Below.refl _ w).alloc (Nat.le_refl _) _⟩
    have FIN := hid fin
    clear fin
    rcases hc with rfl | rfl | rfl | rfl | rfl | rfl | rfl | rfl | rfl | rfl | rfl <;>
    · go_enter Tryd.func37, Tryd.ntmps37
      go_wp2
      go_ret
      exact FIN.out _ rfl _ rfl
  · have hl : hasL K = [] := if_neg h
    rw [hl]
    have n1 : K ≠ 1 := by omega
    have n2 : K ≠ 2 := by omega
    have n3 : K ≠ 3 := by omega
    have n4 : K ≠ 4 := by omega
    have n5 : K ≠ 5 := by omega
    have n6 : K ≠ 6 := by omega
    have n7 : K ≠ 7 := by omega
    have n8 : K ≠ 8 := by omega
    have n9 : K ≠ 9 := by omega
    have n10 : K ≠ 10 := by omega
    have n11 : K ≠ 11 := by omega
    clear h hl
    go_enter Tryd.func37, Tryd.ntmps37
    go_wp2
    go_ret
    exact ⟨none, 0, rfl, IsInts.nil, Nat.le_refl _, Below.refl _ _⟩
set_option maxHeartbeats 1600000 in
theorem numbers_any (m : M) (A : Option Addr) (c : Nat) (A' : Option Addr) (c' : Nat) (w : World) (hn : ∀ r ∈ nums, InInt (m.num r)) :
    Calls Tryd.prog 38 #[.agg #[.int .i64 m.K, .int .i64 m.F, .int .i64 m.T, .int .i64 m.g, .int .i64 m.t, .int .i64 m.i, .int .i64 m.p, .int .i64 m.c, .int .i64 m.r, .int .i64 m.x, .int .i64 m.a, .int .i64 m.b, .int .i64 m.v, .int .i64 m.s, .bool m.ok, .slice A m.es.length c, .slice A' m.d.length c']] w fun e w' => ∃ A, e = .returned (.slice A 11 11) ∧ IsInts w' w'.heap.size A m.numsL ∧ Below w.heap.size w w' := by
  have hin : ∀ x ∈ m.numsL, InInt x := by
    intro x hx
    simp only [M.numsL, List.mem_cons, List.not_mem_nil, or_false] at hx
    rcases hx with rfl | rfl | rfl | rfl | rfl | rfl | rfl | rfl | rfl | rfl | rfl
    · exact hn 103 (by decide)
    · exact hn 116 (by decide)
    · exact hn 105 (by decide)
    · exact hn 112 (by decide)
    · exact hn 99 (by decide)
    · exact hn 114 (by decide)
    · exact hn 115 (by decide)
    · exact hn 120 (by decide)
    · exact hn 97 (by decide)
    · exact hn 98 (by decide)
    · exact hn 118 (by decide)
  have HIN := hid hin
  clear hin hn
  go_enter Tryd.func38, Tryd.ntmps38
  go_wp2
  go_ret
  obtain ⟨w1, hw1⟩ : ∃ w1, w1 = w.alloc (.cells #[.int .i64 m.K, .int .i64 m.F, .int .i64 m.T, .int .i64 m.g, .int .i64 m.t, .int .i64 m.i, .int .i64 m.p, .int .i64 m.c, .int .i64 m.r, .int .i64 m.x, .int .i64 m.a, .int .i64 m.b, .int .i64 m.v, .int .i64 m.s, .bool m.ok, .slice A m.es.length c, .slice A' m.d.length c'] 25) := ⟨_, rfl⟩
  have hb1 : Below w.heap.size w w1 := by rw [hw1]; exact (Below.refl _ w).alloc (Nat.le_refl _) _
  have hs1 : w1.heap.size = w.heap.size + 1 := by rw [hw1]; simp
  rw [← hw1, ← hs1]
  exact ⟨some ⟨w1.heap.size, 0, none⟩, rfl, by rw [World.size_alloc]; exact isInts_new w1 m.numsL HIN.out 3 (0, 0), hb1.alloc hb1.size _⟩
set_option maxHeartbeats 1600000 in
theorem in_any (B : Nat) (A : Option Addr) (c n : Nat) (l : List Int) (hn : l.length = n) (k : Int) (b : Bool) (hb : l.contains k = b) (w : World) (h : IsInts w B A l) (hl : n ≤ 1000000) :
    Calls Tryd.prog 39 #[.slice A n c, .int .i64 k] w fun e w' => e = .returned (.bool b) ∧ w' = w := by
  subst hn
  have HB := hid hb
  clear hb
  go_enter Tryd.func39, Tryd.ntmps39
  go_wp2_with fail
  go_loopw [5] (fun i wr => ∃ j : Nat, j ≤ l.length ∧ i = .int .i64 (j : Int) ∧ wr = w ∧ Hid (∀ x ∈ l.take j, x ≠ k)) (fun i _ => l.length - (RowKit.intOf i).toNat)
  case atStart => exact ⟨0, Nat.zero_le _, rfl, rfl, hid (by simp)⟩
  case round =>
    obtain ⟨j, hj, rfl, hwr, HJ⟩ := hrel
    rw [hwr]
    clear hwr
    by_cases hlt : j < l.length
    · obtain ⟨b1, off, rfl, _, hc⟩ := h.cells j hlt
      have hck := hc j hlt
      clear hc
      by_cases he : l[j] = k
      · have HR : Hid (b = true) := hid (by rw [← HB.out]; simp; rw [← he]; exact List.getElem_mem hlt)
        go_wp2_with fail
        go_ret
        exact ⟨by rw [HR.out]; rfl, rfl⟩
      · have HN : Hid (∀ x ∈ l.take (j + 1), x ≠ k) := hid (by
          intro x hx
          rw [List.take_succ_eq_append_getElem hlt] at hx
          rcases List.mem_append.1 hx with hx | hx
          · exact HJ.out x hx
          · obtain rfl := List.mem_singleton.1 hx; exact he)
        go_wp2_with fail
        go_roundw
        case rel => exact ⟨j + 1, by omega, by go_num, trivial, HN⟩
        case measure => simp [RowKit.intOf]; omega
    · have HR : Hid (b = false) := hid (by
        rw [← HB.out]
        have := HJ.out
        rw [List.take_of_length_le (by omega)] at this
        simp
        intro hin
        exact this k hin rfl)
      go_wp2_with fail
      go_ret
      exact ⟨by rw [HR.out]; rfl, rfl⟩
set_option maxHeartbeats 1600000 in
theorem ranged_any (v : Int) (k : Nat) (hk : k < 11) (w : World) :
    Calls Tryd.prog 63 #[.int .i64 (k : Int), .int .i64 v] w fun e w' => e = .returned (.bool (within v (allR[k]'hk))) ∧ w' = w := by
  match k, hk with
  | 0, hk =>
    by_cases h1 : 0 ≤ v <;> by_cases h2 : v ≤ 4 <;>
    · have HW : Hid (within v (103) = (decide (0 ≤ v) && decide (v ≤ 4))) := rfl
      go_enter Tryd.func63, Tryd.ntmps63
      go_wp2
      all_goals
        go_ret
        refine ⟨?_, rfl⟩
        show _ = Ending.returned (.bool (within v (103)))
        rw [HW.out]
        simp [*]
  | 1, hk =>
    by_cases h1 : 0 ≤ v <;> by_cases h2 : v ≤ 1099511627776 <;>
    · have HW : Hid (within v (116) = (decide (0 ≤ v) && decide (v ≤ 1099511627776))) := rfl
      go_enter Tryd.func63, Tryd.ntmps63
      go_wp2
      all_goals
        go_ret
        refine ⟨?_, rfl⟩
        show _ = Ending.returned (.bool (within v (116)))
        rw [HW.out]
        simp [*]
  | 2, hk =>
    by_cases h1 : 0 ≤ v <;> by_cases h2 : v ≤ 1099511627776 <;>
    · have HW : Hid (within v (105) = (decide (0 ≤ v) && decide (v ≤ 1099511627776))) := rfl
      go_enter Tryd.func63, Tryd.ntmps63
      go_wp2
      all_goals
        go_ret
        refine ⟨?_, rfl⟩
        show _ = Ending.returned (.bool (within v (105)))
        rw [HW.out]
        simp [*]
  | 3, hk =>
    by_cases h1 : 0 ≤ v <;> by_cases h2 : v ≤ 1099511627776 <;>
    · have HW : Hid (within v (112) = (decide (0 ≤ v) && decide (v ≤ 1099511627776))) := rfl
      go_enter Tryd.func63, Tryd.ntmps63
      go_wp2
      all_goals
        go_ret
        refine ⟨?_, rfl⟩
        show _ = Ending.returned (.bool (within v (112)))
        rw [HW.out]
        simp [*]
  | 4, hk =>
    by_cases h1 : 0 ≤ v <;> by_cases h2 : v ≤ 1099511627776 <;>
    · have HW : Hid (within v (99) = (decide (0 ≤ v) && decide (v ≤ 1099511627776))) := rfl
      go_enter Tryd.func63, Tryd.ntmps63
      go_wp2
      all_goals
        go_ret
        refine ⟨?_, rfl⟩
        show _ = Ending.returned (.bool (within v (99)))
        rw [HW.out]
        simp [*]
  | 5, hk =>
    by_cases h1 : 0 ≤ v <;> by_cases h2 : v ≤ 1099511627776 <;>
    · have HW : Hid (within v (114) = (decide (0 ≤ v) && decide (v ≤ 1099511627776))) := rfl
      go_enter Tryd.func63, Tryd.ntmps63
      go_wp2
      all_goals
        go_ret
        refine ⟨?_, rfl⟩
        show _ = Ending.returned (.bool (within v (114)))
        rw [HW.out]
        simp [*]
  | 6, hk =>
    by_cases h1 : 0 ≤ v <;> by_cases h2 : v ≤ 1099511627776 <;>
    · have HW : Hid (within v (115) = (decide (0 ≤ v) && decide (v ≤ 1099511627776))) := rfl
      go_enter Tryd.func63, Tryd.ntmps63
      go_wp2
      all_goals
        go_ret
        refine ⟨?_, rfl⟩
        show _ = Ending.returned (.bool (within v (115)))
        rw [HW.out]
        simp [*]
  | 7, hk =>
    by_cases h1 : 1 ≤ v <;> by_cases h2 : v ≤ 1099511627776 <;>
    · have HW : Hid (within v (120) = (decide (1 ≤ v) && decide (v ≤ 1099511627776))) := rfl
      go_enter Tryd.func63, Tryd.ntmps63
      go_wp2
      all_goals
        go_ret
        refine ⟨?_, rfl⟩
        show _ = Ending.returned (.bool (within v (120)))
        rw [HW.out]
        simp [*]
  | 8, hk =>
    by_cases h1 : 1 ≤ v <;> by_cases h2 : v ≤ 4 <;>
    · have HW : Hid (within v (97) = (decide (1 ≤ v) && decide (v ≤ 4))) := rfl
      go_enter Tryd.func63, Tryd.ntmps63
      go_wp2
      all_goals
        go_ret
        refine ⟨?_, rfl⟩
        show _ = Ending.returned (.bool (within v (97)))
        rw [HW.out]
        simp [*]
  | 9, hk =>
    by_cases h1 : 0 ≤ v <;> by_cases h2 : v ≤ 1099511627776 <;>
    · have HW : Hid (within v (98) = (decide (0 ≤ v) && decide (v ≤ 1099511627776))) := rfl
      go_enter Tryd.func63, Tryd.ntmps63
      go_wp2
      all_goals
        go_ret
        refine ⟨?_, rfl⟩
        show _ = Ending.returned (.bool (within v (98)))
        rw [HW.out]
        simp [*]
  | 10, hk =>
    by_cases h1 : 0 ≤ v <;> by_cases h2 : v ≤ 2 <;>
    · have HW : Hid (within v (118) = (decide (0 ≤ v) && decide (v ≤ 2))) := rfl
      go_enter Tryd.func63, Tryd.ntmps63
      go_wp2
      all_goals
        go_ret
        refine ⟨?_, rfl⟩
        show _ = Ending.returned (.bool (within v (118)))
        rw [HW.out]
        simp [*]
end Go.Proofs.YtpigekbfngalbaaDoor.Ms
namespace Go.Proofs.YtpigekbfngalbaaDoor.Ms
open Go.RowKit
set_option maxRecDepth 100000
set_option linter.unusedVariables false
attribute [local go_sem ↓] loadAt_msg storeAt_msg

/-- the numbers that a kind has are within their bounds -/
def M.mayTo (m : M) (j : Nat) : Prop := ∀ r ∈ allR.take j, (tab m.kind).contains r = true → within (m.num r) r = true
theorem may_eq (m : M) (hk : m.isKind = true) : m.inRange = ((within m.F 70 && within m.T 84) && (allR.all (fun r => !(tab m.kind).contains r || within (m.num r) r) && m.es.all enOk)) := by
  obtain ⟨k, hK, k1, k2, hkind⟩ := kind_of hk
  have hw75 : within (m.num 75) 75 = true := by
    have : m.num 75 = m.K := rfl
    rw [this]
    unfold within least most
    simp; omega
  unfold M.inRange
  rw [List.all_append, hkind]
  have h1 : head.all m.fine = (within m.F 70 && within m.T 84) := by
    show (m.fine 75 && (m.fine 70 && (m.fine 84 && true))) = _
    have e75 : m.fine 75 = true := by unfold M.fine; rw [hw75]; rfl
    have e70 : m.fine 70 = within m.F 70 := rfl
    have e84 : m.fine 84 = within m.T 84 := rfl
    rw [e75, e70, e84]; simp
  have h2 : (tab k).all m.fine = allR.all (fun r => !(tab k).contains r || within (m.num r) r) := by
    match k, k1, k2 with
    | 1, _, _ | 2, _, _ | 3, _, _ | 4, _, _ | 5, _, _ | 6, _, _ | 7, _, _ | 8, _, _ | 9, _, _ | 10, _, _ | 11, _, _ =>
      rw [Bool.eq_iff_iff]
      simp [tab, allR, M.fine, isNum, nums]
      try (first | (intro _; exact and_comm) | (constructor <;> (intro h; simp_all)))
  rw [h1, h2, Bool.and_assoc]
theorem mayTo_next {m : M} {j : Nat} (h : m.mayTo j) (hj : j < allR.length) (hb : (tab m.kind).contains allR[j] = true → within (m.num allR[j]) allR[j] = true) : m.mayTo (j + 1) := by
  intro r hr
  rw [List.take_succ_eq_append_getElem hj] at hr
  rcases List.mem_append.1 hr with hr | hr
  · exact h r hr
  · obtain rfl := List.mem_singleton.1 hr; exact hb
theorem mayTo_all {m : M} {j : Nat} (h : m.mayTo j) (hj : ¬ j < allR.length) : allR.all (fun r => !(tab m.kind).contains r || within (m.num r) r) = true := by
  rw [List.all_eq_true]
  intro r hr
  have := h r (by rw [List.take_of_length_le (by omega)]; exact hr)
  rcases hc : (tab m.kind).contains r with _ | _
  · rfl
  · rw [this hc]; rfl
theorem mayTo_not {m : M} {j : Nat} (hj : j < allR.length) (h1 : (tab m.kind).contains allR[j] = true) (h2 : within (m.num allR[j]) allR[j] = false) : allR.all (fun r => !(tab m.kind).contains r || within (m.num r) r) = false := by
  rw [List.all_eq_false]
  exact ⟨_, List.getElem_mem hj, by rw [h1, h2]; decide⟩
theorem allR_all : ∀ r ∈ allR, r ∈ all := by decide
/-- an entry that lies in a message that came in -/
structure EnF (w : World) (B : Nat) (A : Option Addr) (L : List Rl.En) (j : Nat) (x : Rl.En) : Prop where
  cell : ∃ b off A4 c4, A = some ⟨b, off, none⟩ ∧ b < B ∧ w.cell? ⟨b, off + j * 3, none⟩ = some (.int .i64 x.t) ∧ w.cell? ⟨b, off + j * 3 + 1, none⟩ = some (.int .i64 x.k) ∧ w.cell? ⟨b, off + j * 3 + 2, none⟩ = some (.slice A4 x.d.length c4) ∧ IsBytes w B A4 x.d ∧ (A4 = none → c4 = 0)
set_option maxHeartbeats 6400000 in
theorem may_any (m : M) (A : Option Addr) (c : Nat) (A' : Option Addr) (c' : Nat) (w : World) (h : Is w w.heap.size m A c A' c') (hk : m.isKind = true) (hs : Small m) :
    Calls Tryd.prog 40 #[.agg #[.int .i64 m.K, .int .i64 m.F, .int .i64 m.T, .int .i64 m.g, .int .i64 m.t, .int .i64 m.i, .int .i64 m.p, .int .i64 m.c, .int .i64 m.r, .int .i64 m.x, .int .i64 m.a, .int .i64 m.b, .int .i64 m.v, .int .i64 m.s, .bool m.ok, .slice A m.es.length c, .slice A' m.d.length c']] w fun e w' => e = .returned (.bool m.inRange) ∧ Below w.heap.size w w' := by
  have HEQ := hid (may_eq m hk)
  have hkk : 1 ≤ m.K ∧ m.K ≤ 11 := by unfold M.isKind at hk; simp at hk; exact hk
  have HKK := hid hkk
  have HI := hid h
  have hes := hs.es
  obtain ⟨w1, hw1⟩ : ∃ w1, w1 = w.alloc (.cells #[.int .i64 m.K, .int .i64 m.F, .int .i64 m.T, .int .i64 m.g, .int .i64 m.t, .int .i64 m.i, .int .i64 m.p, .int .i64 m.c, .int .i64 m.r, .int .i64 m.x, .int .i64 m.a, .int .i64 m.b, .int .i64 m.v, .int .i64 m.s, .bool m.ok, .slice A m.es.length c, .slice A' m.d.length c'] 25) := ⟨_, rfl⟩
  have hbx : Bx w1 w.heap.size m A c A' c' := ⟨by rw [hw1]; exact heap_alloc_new w _⟩
  have hb1 : Below w.heap.size w w1 := by rw [hw1]; exact (Below.refl _ w).alloc (Nat.le_refl _) _
  have HX1 := hid (And.intro hbx hb1)
  have hld1 := hbx.load
  have hFT : within m.F 70 = (decide (1 ≤ m.F) && decide (m.F ≤ 199)) ∧ within m.T 84 = (decide (1 ≤ m.T) && decide (m.T ≤ 199)) := ⟨rfl, rfl⟩
  have HFT := hid hFT
  clear h hk hs hkk hFT hbx hb1
  by_cases f1 : 1 ≤ m.F
  rotate_left
  · have HR : Hid (m.inRange = false) := hid (by rw [HEQ.out, HFT.out.1, decide_eq_false f1]; rfl)
    rw [hw1] at hld1
    go_enter Tryd.func40, Tryd.ntmps40
    go_wp2_with fail
    go_ret
    rw [HR.out, ← hw1]
    exact ⟨rfl, HX1.out.2⟩
  by_cases f2 : m.F ≤ 199
  rotate_left
  · have HR : Hid (m.inRange = false) := hid (by rw [HEQ.out, HFT.out.1, decide_eq_false f2]; simp)
    rw [hw1] at hld1
    go_enter Tryd.func40, Tryd.ntmps40
    go_wp2_with fail
    go_ret
    rw [HR.out, ← hw1]
    exact ⟨rfl, HX1.out.2⟩
  by_cases f3 : 1 ≤ m.T
  rotate_left
  · have HR : Hid (m.inRange = false) := hid (by rw [HEQ.out, HFT.out.2, decide_eq_false f3]; simp)
    rw [hw1] at hld1
    go_enter Tryd.func40, Tryd.ntmps40
    go_wp2_with fail
    go_ret
    rw [HR.out, ← hw1]
    exact ⟨rfl, HX1.out.2⟩
  by_cases f4 : m.T ≤ 199
  rotate_left
  · have HR : Hid (m.inRange = false) := hid (by rw [HEQ.out, HFT.out.2, decide_eq_false f4]; simp)
    rw [hw1] at hld1
    go_enter Tryd.func40, Tryd.ntmps40
    go_wp2_with fail
    go_ret
    rw [HR.out, ← hw1]
    exact ⟨rfl, HX1.out.2⟩
  have HR : Hid (m.inRange = (allR.all (fun r => !(tab m.kind).contains r || within (m.num r) r) && m.es.all enOk)) := hid (by rw [HEQ.out, HFT.out.1, HFT.out.2, decide_eq_true f1, decide_eq_true f2, decide_eq_true f3, decide_eq_true f4]; simp)
  have HNB := hid (numbers_any m A c A' c' w1 HI.out.num)
  rw [hw1] at hld1
  clear HEQ HFT
  go_enter Tryd.func40, Tryd.ntmps40
  go_wp2_with fail
  rw [← hw1]
  refine HNB.out.mono ?_
  rintro e w2 ⟨AN, rfl, hn2, hb2⟩
  have HB2 := hid (HX1.out.2.trans (hb2.mono HX1.out.2.size))
  have HX2 := hid (HX1.out.1.below hb2 (row_lt HX1.out.1.row))
  have HN2 := hid hn2
  have hc0 := HX2.out.c0
  clear hb2 hn2 HNB hld1 hw1 f1 f2 f3 f4
  go_wp2_with fail
  refine (has_any m.K w2).mono ?_
  rintro e w3 ⟨AH, cH, rfl, hh3, hcH, hb3⟩
  have HB3 := hid (HB2.out.trans (hb3.mono HB2.out.size))
  have HX3 := hid (HX2.out.below hb3 (row_lt HX2.out.row))
  have HN3 := hid ((HN2.out.below hb3).more hb3.size)
  have HH3 := hid hh3
  have hc15 := HX3.out.c15
  obtain ⟨nh, hnh⟩ : ∃ nh, nh = (hasL m.K).length := ⟨_, rfl⟩
  rw [← hnh] at hcH ⊢
  have hnl : nh ≤ 7 := by rw [hnh, (has_len m.K HKK.out).1]; exact tab_length _
  have HNH := hid hnh
  clear hb3 hh3 hc0 hnh
  go_wp2_with fail
  go_loopw [5] (fun i wr => ∃ j : Nat, j ≤ 11 ∧ i = .int .i64 (j : Int) ∧ wr = w3 ∧ Hid (m.mayTo j)) (fun i _ => 11 - (RowKit.intOf i).toNat)
  case atStart => exact ⟨0, Nat.zero_le _, rfl, rfl, hid (fun r hr => by simp at hr)⟩
  case round =>
    obtain ⟨j, hj, rfl, hwr, HJ⟩ := hrel
    rw [hwr]
    clear hwr
    by_cases hlt : j < 11
    · have hlt' : j < allR.length := hlt
      obtain ⟨bc, hbc⟩ : ∃ bc, bc = (tab m.kind).contains allR[j] := ⟨_, rfl⟩
      obtain ⟨bw, hbw⟩ : ∃ bw, bw = within (m.num allR[j]) allR[j] := ⟨_, rfl⟩
      have hin := in_any w3.heap.size AH cH nh (hasL m.K) HNH.out.symm (j : Int) bc (by have e := has_in m.K HKK.out (allR[j]'hlt') (allR_all _ (List.getElem_mem hlt')); have e2 : rix (allR[j]'hlt') = (j : Int) := rix_allR j hlt; rw [e2] at e; exact e.trans hbc.symm) w3 HH3.out (by omega)
      have HIN := hid hin
      have hra := ranged_any (m.num allR[j]) j hlt w3
      have HNX : Hid ((bc = true → bw = true) → m.mayTo (j + 1)) := hid fun h0 => mayTo_next HJ.out hlt' (fun h1 => by rw [← hbw]; exact h0 (hbc.trans h1))
      have HNO : Hid (bc = true → bw = false → m.inRange = false) := hid fun h1 h2 => by rw [HR.out, mayTo_not hlt' (by rw [← hbc]; exact h1) (by rw [← hbw]; exact h2)]; rfl
      have hgn := numsL_get m j hlt
      obtain ⟨bN, oN, hAN, _, hcN⟩ := HN3.out.cells j hlt
      have hcj := hcN j hlt
      rw [hgn] at hcj
      have hra2 : Calls Tryd.prog 63 #[.int .i64 (j : Int), .int .i64 (m.num allR[j])] w3 fun e w' => e = .returned (.bool bw) ∧ w' = w3 := by rw [hbw]; exact hra
      have HRA := hid hra2
      subst hAN
      clear hin hra hra2 hbc hbw hgn hcN
      generalize (m.num allR[j]) = vj at hcj HRA
      go_wp2_with fail
      refine HIN.out.mono ?_
      rintro e w4 ⟨rfl, hw4⟩
      rw [hw4]
      clear hw4
      cases bc
      · have HNN := hid (HNX.out (by simp))
        go_wp2_with fail
        go_roundw
        case rel => exact ⟨j + 1, by omega, by go_num, trivial, HNN⟩
        case measure => simp [RowKit.intOf]; omega
      · go_wp2_with fail
        refine HRA.out.mono ?_
        rintro e w4 ⟨rfl, hw4⟩
        rw [hw4]
        clear hw4
        cases bw
        · have HNN := hid (HNO.out (by simp) (by simp))
          go_wp2_with fail
          go_ret
          rw [HNN.out]
          exact ⟨rfl, HB3.out⟩
        · have HNN := hid (HNX.out (by simp))
          go_wp2_with fail
          go_roundw
          case rel => exact ⟨j + 1, by omega, by go_num, trivial, HNN⟩
          case measure => simp [RowKit.intOf]; omega
    · obtain rfl : j = 11 := by omega
      have HR2 : Hid (m.inRange = m.es.all enOk) := hid (by rw [HR.out, mayTo_all HJ.out (by decide)]; rfl)
      clear HJ hlt hj
      go_wp2_with fail
      go_loopw [6, 7] (fun i _ wq => ∃ j : Nat, j ≤ m.es.length ∧ i = .int .i64 (j : Int) ∧ Hid (Below w.heap.size w wq) ∧ Hid (Bx wq w.heap.size m A c A' c') ∧ Hid (∀ (n : Nat) (h : n < m.es.length), n < j → enOk m.es[n] = true)) (fun i _ _ => m.es.length - (RowKit.intOf i).toNat)
      case atStart => exact ⟨0, Nat.zero_le _, rfl, HB3, HX3, hid fun n _ h => absurd h (Nat.not_lt_zero _)⟩
      case round =>
        clear hc15
        obtain ⟨j, hj, rfl, HB, HBx, HJ⟩ := hrel
        have hc15 := HBx.out.c15
        by_cases hlt : j < m.es.length
        · obtain ⟨b, off, hA, hb, hcs⟩ := HI.out.es.cells j hlt
          obtain ⟨A3, c3, e0, e1, e2, _, _, _⟩ := (hcs j hlt).below hb HB.out
          subst hA
          have HBN : Hid (∀ o : Obj, Below w.heap.size w (wr.alloc o) ∧ Bx (wr.alloc o) w.heap.size m (some ⟨b, off, none⟩) c A' c') := hid fun o => ⟨HB.out.alloc HB.out.size _, HBx.out.below ((Below.refl _ wr).alloc (Nat.le_refl _) o) (row_lt HBx.out.row)⟩
          have HJ2 : Hid (enOk m.es[j] = true → ∀ (n : Nat) (h : n < m.es.length), n < j + 1 → enOk m.es[n] = true) := hid (by
            intro h0 n hn hnj
            by_cases e : n = j
            · subst e; exact h0
            · exact HJ.out n hn (by omega))
          have HNO : Hid (enOk m.es[j] = false → m.inRange = false) := hid fun h => by
            rw [HR2.out, List.all_eq_false]
            exact ⟨_, List.getElem_mem hlt, by simp [h]⟩
          have HE2 : Hid (enOk m.es[j] = ((decide (0 ≤ m.es[j].t) && decide (m.es[j].t ≤ 1099511627776)) && (decide (0 ≤ m.es[j].k) && decide (m.es[j].k ≤ 2)))) := hid rfl
          clear hcs hb HJ HBx
          generalize m.es[j] = x at e0 e1 e2 HJ2 HNO HE2
          by_cases g1 : 0 ≤ x.t
          rotate_left
          · have HN := hid (HNO.out (by rw [HE2.out, decide_eq_false g1]; simp))
            go_wp2_with fail
            go_ret
            rw [HN.out]
            exact ⟨rfl, (HBN.out _).1⟩
          by_cases g2 : x.t ≤ 1099511627776
          rotate_left
          · have HN := hid (HNO.out (by rw [HE2.out, decide_eq_false g2]; simp))
            go_wp2_with fail
            go_ret
            rw [HN.out]
            exact ⟨rfl, (HBN.out _).1⟩
          by_cases g3 : 0 ≤ x.k
          rotate_left
          · have HN := hid (HNO.out (by rw [HE2.out, decide_eq_false g3]; simp))
            go_wp2_with fail
            go_ret
            rw [HN.out]
            exact ⟨rfl, (HBN.out _).1⟩
          by_cases g4 : x.k ≤ 2
          rotate_left
          · have HN := hid (HNO.out (by rw [HE2.out, decide_eq_false g4]; simp))
            go_wp2_with fail
            go_ret
            rw [HN.out]
            exact ⟨rfl, (HBN.out _).1⟩
          have HN := hid (HJ2.out (by rw [HE2.out, decide_eq_true g1, decide_eq_true g2, decide_eq_true g3, decide_eq_true g4]; rfl))
          go_wp2_with fail
          go_roundw
          case rel => (repeat apply Exists.intro); exact ⟨⟨j + 1, by omega, by go_num, hid (HBN.out _).1, hid (HBN.out _).2, HN⟩, rfl⟩
          case measure => simp [RowKit.intOf]; omega
        · obtain rfl : j = m.es.length := by omega
          have HRR : Hid (m.inRange = true) := hid (by
            rw [HR2.out, List.all_eq_true]
            intro e he
            obtain ⟨n, hn, rfl⟩ := List.getElem_of_mem he
            exact HJ.out n hn hn)
          go_wp2_with fail
          go_ret
          rw [HRR.out]
          exact ⟨rfl, HB.out⟩
end Go.Proofs.YtpigekbfngalbaaDoor.Ms
