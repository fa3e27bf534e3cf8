/- Texts of the proof, one behind the other: MsRefB, MsRefC, Region. -/
import Derived.Test.YtpigekbfngalbaaDoorPartAI
import Derived.BigQuiet
import Derived.Deep.RegionHeld3
import Derived.Deep.CutRange
import Derived.Test.YtpigekbfngalbaaDoorPartAB
import Derived.Deep.AppendLies
import Derived.Deep.MidRow
import Derived.Deep.RegionLaw
namespace Go.Proofs.YtpigekbfngalbaaDoor.Ms
open Go.RowKit
set_option maxRecDepth 100000
set_option linter.unusedVariables false
attribute [local go_sem ↓] loadAt_msg storeAt_msg

/-- a field's place in the document's list -/
def rix (r : Nat) : Int :=
  if r = 103 then 0 else if r = 116 then 1 else if r = 105 then 2 else if r = 112 then 3 else if r = 99 then 4 else if r = 114 then 5 else if r = 115 then 6 else if r = 120 then 7 else if r = 97 then 8 else if r = 98 then 9 else
  if r = 118 then 10 else if r = 111 then 11 else if r = 101 then 12 else 13
def allR : List Nat := [103, 116, 105, 112, 99, 114, 115, 120, 97, 98, 118]
def hasL (K : Int) : List Int := if 1 ≤ K ∧ K ≤ 11 then (tab K.toNat).map rix else []
def M.numsL (m : M) : List Int := [m.g, m.t, m.i, m.p, m.c, m.r, m.s, m.x, m.a, m.b, m.v]
theorem numsL_get (m : M) (k : Nat) (h : k < 11) : m.numsL[k]'h = m.num (allR[k]'h) := by
  match k, h with
  | 0, _ | 1, _ | 2, _ | 3, _ | 4, _ | 5, _ | 6, _ | 7, _ | 8, _ | 9, _ | 10, _ => rfl
theorem rix_allR (k : Nat) (h : k < 11) : rix (allR[k]'h) = (k : Int) := by
  match k, h with
  | 0, _ | 1, _ | 2, _ | 3, _ | 4, _ | 5, _ | 6, _ | 7, _ | 8, _ | 9, _ | 10, _ => rfl
theorem has_in (K : Int) (h : 1 ≤ K ∧ K ≤ 11) (r : Nat) (hr : r ∈ all) : (hasL K).contains (rix r) = (tab K.toNat).contains r := by
  have key : ∀ k ∈ List.range 12, ∀ r ∈ all, ((tab k).map rix).contains (rix r) = (tab k).contains r := by decide
  unfold hasL
  rw [if_pos h]
  exact key K.toNat (List.mem_range.2 (by omega)) r hr
theorem has_len (K : Int) (h : 1 ≤ K ∧ K ≤ 11) : (hasL K).length = (tab K.toNat).length ∧ 1 ≤ (hasL K).length := by
  unfold hasL
  rw [if_pos h, List.length_map]
  refine ⟨rfl, ?_⟩
  have key : ∀ k ∈ List.range 12, 1 ≤ k → 1 ≤ (tab k).length := by decide
  exact key K.toNat (List.mem_range.2 (by omega)) (by omega)
theorem has_in_int (K : Int) : ∀ x ∈ hasL K, InInt x := by
  have key : ∀ k ∈ List.range 12, ∀ r ∈ tab k, 0 ≤ rix r ∧ rix r ≤ 13 := by decide
  intro x hx
  unfold hasL at hx
  by_cases h : 1 ≤ K ∧ K ≤ 11
  · rw [if_pos h] at hx
    obtain ⟨r, hr, rfl⟩ := List.mem_map.1 hx
    have := key K.toNat (List.mem_range.2 (by omega)) r hr
    unfold InInt; omega
  · rw [if_neg h] at hx; cases hx
set_option maxHeartbeats 1600000 in
theorem has_any (K : Int) (w : World) :
    Calls Tryd.prog 37 #[.int .i64 K] w fun e w' => ∃ A c, e = .returned (.slice A (hasL K).length c) ∧ IsInts w' w'.heap.size A (hasL K) ∧ (hasL K).length ≤ c ∧ Below w.heap.size w w' := by
  by_cases h : 1 ≤ K ∧ K ≤ 11
  · have hc : K = 1 ∨ K = 2 ∨ K = 3 ∨ K = 4 ∨ K = 5 ∨ K = 6 ∨ K = 7 ∨ K = 8 ∨ K = 9 ∨ K = 10 ∨ K = 11 := by omega
    have hin := has_in_int K
    have HIN := hid hin
    clear hin h
    have fin : ∀ (L : List Int), hasL K = L → ∀ n : Nat, L.length = n → ∃ A c, Ending.returned (.slice (some ⟨w.heap.size, 0, none⟩) n n) = .returned (.slice A (hasL K).length c) ∧ IsInts (w.alloc (.cells (ints L).toArray 3)) (w.alloc (.cells (ints L).toArray 3)).heap.size A (hasL K) ∧ (hasL K).length ≤ c ∧ Below w.heap.size w (w.alloc (.cells (ints L).toArray 3)) := by
      intro L hL n hn
      subst hn
      rw [← hL]
      exact ⟨some ⟨w.heap.size, 0, none⟩, (hasL K).length, rfl, by rw [World.size_alloc]; exact isInts_new w _ HIN.out 3 (0, 0), Nat.le_refl _, (Below.refl _ w).alloc (Nat.le_refl _) _⟩
    have FIN := hid fin
    clear fin
    rcases hc with rfl | rfl | rfl | rfl | rfl | rfl | rfl | rfl | rfl | rfl | rfl <;>
    · go_enter Tryd.func37, Tryd.ntmps37
      go_wp2
      go_ret
      exact FIN.out _ rfl _ rfl
  · have hl : hasL K = [] := if_neg h
    rw [hl]
    have n1 : K ≠ 1 := by omega
    have n2 : K ≠ 2 := by omega
    have n3 : K ≠ 3 := by omega
    have n4 : K ≠ 4 := by omega
    have n5 : K ≠ 5 := by omega
    have n6 : K ≠ 6 := by omega
    have n7 : K ≠ 7 := by omega
    have n8 : K ≠ 8 := by omega
    have n9 : K ≠ 9 := by omega
    have n10 : K ≠ 10 := by omega
    have n11 : K ≠ 11 := by omega
    clear h hl
    go_enter Tryd.func37, Tryd.ntmps37
    go_wp2
    go_ret
    exact ⟨none, 0, rfl, IsInts.nil, Nat.le_refl _, Below.refl _ _⟩
set_option maxHeartbeats 1600000 in
theorem numbers_any (m : M) (A : Option Addr) (c : Nat) (A' : Option Addr) (c' : Nat) (w : World) (hn : ∀ r ∈ nums, InInt (m.num r)) :
    Calls Tryd.prog 38 #[.agg #[.int .i64 m.K, .int .i64 m.F, .int .i64 m.T, .int .i64 m.g, .int .i64 m.t, .int .i64 m.i, .int .i64 m.p, .int .i64 m.c, .int .i64 m.r, .int .i64 m.x, .int .i64 m.a, .int .i64 m.b, .int .i64 m.v, .int .i64 m.s, .bool m.ok, .slice A m.es.length c, .slice A' m.d.length c']] w fun e w' => ∃ A, e = .returned (.slice A 11 11) ∧ IsInts w' w'.heap.size A m.numsL ∧ Below w.heap.size w w' := by
  have hin : ∀ x ∈ m.numsL, InInt x := by
    intro x hx
    simp only [M.numsL, List.mem_cons, List.not_mem_nil, or_false] at hx
    rcases hx with rfl | rfl | rfl | rfl | rfl | rfl | rfl | rfl | rfl | rfl | rfl
    · exact hn 103 (by decide)
    · exact hn 116 (by decide)
    · exact hn 105 (by decide)
    · exact hn 112 (by decide)
    · exact hn 99 (by decide)
    · exact hn 114 (by decide)
    · exact hn 115 (by decide)
    · exact hn 120 (by decide)
    · exact hn 97 (by decide)
    · exact hn 98 (by decide)
    · exact hn 118 (by decide)
  have HIN := hid hin
  clear hin hn
  go_enter Tryd.func38, Tryd.ntmps38
  go_wp2
  go_ret
  obtain ⟨w1, hw1⟩ : ∃ w1, w1 = w.alloc (.cells #[.int .i64 m.K, .int .i64 m.F, .int .i64 m.T, .int .i64 m.g, .int .i64 m.t, .int .i64 m.i, .int .i64 m.p, .int .i64 m.c, .int .i64 m.r, .int .i64 m.x, .int .i64 m.a, .int .i64 m.b, .int .i64 m.v, .int .i64 m.s, .bool m.ok, .slice A m.es.length c, .slice A' m.d.length c'] 25) := ⟨_, rfl⟩
  have hb1 : Below w.heap.size w w1 := by rw [hw1]; exact (Below.refl _ w).alloc (Nat.le_refl _) _
  have hs1 : w1.heap.size = w.heap.size + 1 := by rw [hw1]; simp
  rw [← hw1, ← hs1]
  exact ⟨some ⟨w1.heap.size, 0, none⟩, rfl, by rw [World.size_alloc]; exact isInts_new w1 m.numsL HIN.out 3 (0, 0), hb1.alloc hb1.size _⟩
set_option maxHeartbeats 1600000 in
theorem in_any (B : Nat) (A : Option Addr) (c n : Nat) (l : List Int) (hn : l.length = n) (k : Int) (b : Bool) (hb : l.contains k = b) (w : World) (h : IsInts w B A l) (hl : n ≤ 1000000) :
    Calls Tryd.prog 39 #[.slice A n c, .int .i64 k] w fun e w' => e = .returned (.bool b) ∧ w' = w := by
  subst hn
  have HB := hid hb
  clear hb
  go_enter Tryd.func39, Tryd.ntmps39
  go_wp2_with fail
  go_loopw [5] (fun i wr => ∃ j : Nat, j ≤ l.length ∧ i = .int .i64 (j : Int) ∧ wr = w ∧ Hid (∀ x ∈ l.take j, x ≠ k)) (fun i _ => l.length - (RowKit.intOf i).toNat)
  case atStart => exact ⟨0, Nat.zero_le _, rfl, rfl, hid (by simp)⟩
  case round =>
    obtain ⟨j, hj, rfl, hwr, HJ⟩ := hrel
    rw [hwr]
    clear hwr
    by_cases hlt : j < l.length
    · obtain ⟨b1, off, rfl, _, hc⟩ := h.cells j hlt
      have hck := hc j hlt
      clear hc
      by_cases he : l[j] = k
      · have HR : Hid (b = true) := hid (by rw [← HB.out]; simp; rw [← he]; exact List.getElem_mem hlt)
        go_wp2_with fail
        go_ret
        exact ⟨by rw [HR.out]; rfl, rfl⟩
      · have HN : Hid (∀ x ∈ l.take (j + 1), x ≠ k) := hid (by
          intro x hx
          rw [List.take_succ_eq_append_getElem hlt] at hx
          rcases List.mem_append.1 hx with hx | hx
          · exact HJ.out x hx
          · obtain rfl := List.mem_singleton.1 hx; exact he)
        go_wp2_with fail
        go_roundw
        case rel => exact ⟨j + 1, by omega, by go_num, trivial, HN⟩
        case measure => simp [RowKit.intOf]; omega
    · have HR : Hid (b = false) := hid (by
        rw [← HB.out]
        have := HJ.out
        rw [List.take_of_length_le (by omega)] at this
        simp
        intro hin
        exact this k hin rfl)
      go_wp2_with fail
      go_ret
      exact ⟨by rw [HR.out]; rfl, rfl⟩
set_option maxHeartbeats 1600000 in
theorem ranged_any (v : Int) (k : Nat) (hk : k < 11) (w : World) :
    Calls Tryd.prog 63 #[.int .i64 (k : Int), .int .i64 v] w fun e w' => e = .returned (.bool (within v (allR[k]'hk))) ∧ w' = w := by
  match k, hk with
  | 0, hk =>
    by_cases h1 : 0 ≤ v <;> by_cases h2 : v ≤ 4 <;>
    · have HW : Hid (within v (103) = (decide (0 ≤ v) && decide (v ≤ 4))) := rfl
      go_enter Tryd.func63, Tryd.ntmps63
      go_wp2
      all_goals
        go_ret
        refine ⟨?_, rfl⟩
        show _ = Ending.returned (.bool (within v (103)))
        rw [HW.out]
        simp [*]
  | 1, hk =>
    by_cases h1 : 0 ≤ v <;> by_cases h2 : v ≤ 1099511627776 <;>
    · have HW : Hid (within v (116) = (decide (0 ≤ v) && decide (v ≤ 1099511627776))) := rfl
      go_enter Tryd.func63, Tryd.ntmps63
      go_wp2
      all_goals
        go_ret
        refine ⟨?_, rfl⟩
        show _ = Ending.returned (.bool (within v (116)))
        rw [HW.out]
        simp [*]
  | 2, hk =>
    by_cases h1 : 0 ≤ v <;> by_cases h2 : v ≤ 1099511627776 <;>
    · have HW : Hid (within v (105) = (decide (0 ≤ v) && decide (v ≤ 1099511627776))) := rfl
      go_enter Tryd.func63, Tryd.ntmps63
      go_wp2
      all_goals
        go_ret
        refine ⟨?_, rfl⟩
        show _ = Ending.returned (.bool (within v (105)))
        rw [HW.out]
        simp [*]
  | 3, hk =>
    by_cases h1 : 0 ≤ v <;> by_cases h2 : v ≤ 1099511627776 <;>
    · have HW : Hid (within v (112) = (decide (0 ≤ v) && decide (v ≤ 1099511627776))) := rfl
      go_enter Tryd.func63, Tryd.ntmps63
      go_wp2
      all_goals
        go_ret
        refine ⟨?_, rfl⟩
        show _ = Ending.returned (.bool (within v (112)))
        rw [HW.out]
        simp [*]
  | 4, hk =>
    by_cases h1 : 0 ≤ v <;> by_cases h2 : v ≤ 1099511627776 <;>
    · have HW : Hid (within v (99) = (decide (0 ≤ v) && decide (v ≤ 1099511627776))) := rfl
      go_enter Tryd.func63, Tryd.ntmps63
      go_wp2
      all_goals
        go_ret
        refine ⟨?_, rfl⟩
        show _ = Ending.returned (.bool (within v (99)))
        rw [HW.out]
        simp [*]
  | 5, hk =>
    by_cases h1 : 0 ≤ v <;> by_cases h2 : v ≤ 1099511627776 <;>
    · have HW : Hid (within v (114) = (decide (0 ≤ v) && decide (v ≤ 1099511627776))) := rfl
      go_enter Tryd.func63, Tryd.ntmps63
      go_wp2
      all_goals
        go_ret
        refine ⟨?_, rfl⟩
        show _ = Ending.returned (.bool (within v (114)))
        rw [HW.out]
        simp [*]
  | 6, hk =>
    by_cases h1 : 0 ≤ v <;> by_cases h2 : v ≤ 1099511627776 <;>
    · have HW : Hid (within v (115) = (decide (0 ≤ v) && decide (v ≤ 1099511627776))) := rfl
      go_enter Tryd.func63, Tryd.ntmps63
      go_wp2
      all_goals
        go_ret
        refine ⟨?_, rfl⟩
        show _ = Ending.returned (.bool (within v (115)))
        rw [HW.out]
        simp [*]
  | 7, hk =>
    by_cases h1 : 1 ≤ v <;> by_cases h2 : v ≤ 1099511627776 <;>
    · have HW : Hid (within v (120) = (decide (1 ≤ v) && decide (v ≤ 1099511627776))) := rfl
      go_enter Tryd.func63, Tryd.ntmps63
      go_wp2
      all_goals
        go_ret
        refine ⟨?_, rfl⟩
        show _ = Ending.returned (.bool (within v (120)))
        rw [HW.out]
        simp [*]
  | 8, hk =>
    by_cases h1 : 1 ≤ v <;> by_cases h2 : v ≤ 4 <;>
    · have HW : Hid (within v (97) = (decide (1 ≤ v) && decide (v ≤ 4))) := rfl
      go_enter Tryd.func63, Tryd.ntmps63
      go_wp2
      all_goals
        go_ret
        refine ⟨?_, rfl⟩
        show _ = Ending.returned (.bool (within v (97)))
        rw [HW.out]
        simp [*]
  | 9, hk =>
    by_cases h1 : 0 ≤ v <;> by_cases h2 : v ≤ 1099511627776 <;>
    · have HW : Hid (within v (98) = (decide (0 ≤ v) && decide (v ≤ 1099511627776))) := rfl
      go_enter Tryd.func63, Tryd.ntmps63
      go_wp2
      all_goals
        go_ret
        refine ⟨?_, rfl⟩
        show _ = Ending.returned (.bool (within v (98)))
        rw [HW.out]
        simp [*]
  | 10, hk =>
    by_cases h1 : 0 ≤ v <;> by_cases h2 : v ≤ 2 <;>
    · have HW : Hid (within v (118) = (decide (0 ≤ v) && decide (v ≤ 2))) := rfl
      go_enter Tryd.func63, Tryd.ntmps63
      go_wp2
      all_goals
        go_ret
        refine ⟨?_, rfl⟩
        show _ = Ending.returned (.bool (within v (118)))
        rw [HW.out]
        simp [*]
end Go.Proofs.YtpigekbfngalbaaDoor.Ms
namespace Go.Proofs.YtpigekbfngalbaaDoor.Ms
open Go.RowKit
set_option maxRecDepth 100000
set_option linter.unusedVariables false
attribute [local go_sem ↓] loadAt_msg storeAt_msg

/-- the numbers that a kind has are within their bounds -/
def M.mayTo (m : M) (j : Nat) : Prop := ∀ r ∈ allR.take j, (tab m.kind).contains r = true → within (m.num r) r = true
theorem may_eq (m : M) (hk : m.isKind = true) : m.inRange = ((within m.F 70 && within m.T 84) && (allR.all (fun r => !(tab m.kind).contains r || within (m.num r) r) && m.es.all enOk)) := by
  obtain ⟨k, hK, k1, k2, hkind⟩ := kind_of hk
  have hw75 : within (m.num 75) 75 = true := by
    have : m.num 75 = m.K := rfl
    rw [this]
    unfold within least most
    simp; omega
  unfold M.inRange
  rw [List.all_append, hkind]
  have h1 : head.all m.fine = (within m.F 70 && within m.T 84) := by
    show (m.fine 75 && (m.fine 70 && (m.fine 84 && true))) = _
    have e75 : m.fine 75 = true := by unfold M.fine; rw [hw75]; rfl
    have e70 : m.fine 70 = within m.F 70 := rfl
    have e84 : m.fine 84 = within m.T 84 := rfl
    rw [e75, e70, e84]; simp
  have h2 : (tab k).all m.fine = allR.all (fun r => !(tab k).contains r || within (m.num r) r) := by
    match k, k1, k2 with
    | 1, _, _ | 2, _, _ | 3, _, _ | 4, _, _ | 5, _, _ | 6, _, _ | 7, _, _ | 8, _, _ | 9, _, _ | 10, _, _ | 11, _, _ =>
      rw [Bool.eq_iff_iff]
      simp [tab, allR, M.fine, isNum, nums]
      try (first | (intro _; exact and_comm) | (constructor <;> (intro h; simp_all)))
  rw [h1, h2, Bool.and_assoc]
theorem mayTo_next {m : M} {j : Nat} (h : m.mayTo j) (hj : j < allR.length) (hb : (tab m.kind).contains allR[j] = true → within (m.num allR[j]) allR[j] = true) : m.mayTo (j + 1) := by
  intro r hr
  rw [List.take_succ_eq_append_getElem hj] at hr
  rcases List.mem_append.1 hr with hr | hr
  · exact h r hr
  · obtain rfl := List.mem_singleton.1 hr; exact hb
theorem mayTo_all {m : M} {j : Nat} (h : m.mayTo j) (hj : ¬ j < allR.length) : allR.all (fun r => !(tab m.kind).contains r || within (m.num r) r) = true := by
  rw [List.all_eq_true]
  intro r hr
  have := h r (by rw [List.take_of_length_le (by omega)]; exact hr)
  rcases hc : (tab m.kind).contains r with _ | _
  · rfl
  · rw [this hc]; rfl
theorem mayTo_not {m : M} {j : Nat} (hj : j < allR.length) (h1 : (tab m.kind).contains allR[j] = true) (h2 : within (m.num allR[j]) allR[j] = false) : allR.all (fun r => !(tab m.kind).contains r || within (m.num r) r) = false := by
  rw [List.all_eq_false]
  exact ⟨_, List.getElem_mem hj, by rw [h1, h2]; decide⟩
theorem allR_all : ∀ r ∈ allR, r ∈ all := by decide
/-- an entry that lies in a message that came in -/
structure EnF (w : World) (B : Nat) (A : Option Addr) (L : List Rl.En) (j : Nat) (x : Rl.En) : Prop where
  cell : ∃ b off A4 c4, A = some ⟨b, off, none⟩ ∧ b < B ∧ w.cell? ⟨b, off + j * 3, none⟩ = some (.int .i64 x.t) ∧ w.cell? ⟨b, off + j * 3 + 1, none⟩ = some (.int .i64 x.k) ∧ w.cell? ⟨b, off + j * 3 + 2, none⟩ = some (.slice A4 x.d.length c4) ∧ IsBytes w B A4 x.d ∧ (A4 = none → c4 = 0)
set_option maxHeartbeats 6400000 in
theorem may_any (m : M) (A : Option Addr) (c : Nat) (A' : Option Addr) (c' : Nat) (w : World) (h : Is w w.heap.size m A c A' c') (hk : m.isKind = true) (hs : Small m) :
    Calls Tryd.prog 40 #[.agg #[.int .i64 m.K, .int .i64 m.F, .int .i64 m.T, .int .i64 m.g, .int .i64 m.t, .int .i64 m.i, .int .i64 m.p, .int .i64 m.c, .int .i64 m.r, .int .i64 m.x, .int .i64 m.a, .int .i64 m.b, .int .i64 m.v, .int .i64 m.s, .bool m.ok, .slice A m.es.length c, .slice A' m.d.length c']] w fun e w' => e = .returned (.bool m.inRange) ∧ Below w.heap.size w w' := by
  have HEQ := hid (may_eq m hk)
  have hkk : 1 ≤ m.K ∧ m.K ≤ 11 := by unfold M.isKind at hk; simp at hk; exact hk
  have HKK := hid hkk
  have HI := hid h
  have hes := hs.es
  obtain ⟨w1, hw1⟩ : ∃ w1, w1 = w.alloc (.cells #[.int .i64 m.K, .int .i64 m.F, .int .i64 m.T, .int .i64 m.g, .int .i64 m.t, .int .i64 m.i, .int .i64 m.p, .int .i64 m.c, .int .i64 m.r, .int .i64 m.x, .int .i64 m.a, .int .i64 m.b, .int .i64 m.v, .int .i64 m.s, .bool m.ok, .slice A m.es.length c, .slice A' m.d.length c'] 25) := ⟨_, rfl⟩
  have hbx : Bx w1 w.heap.size m A c A' c' := ⟨by rw [hw1]; exact heap_alloc_new w _⟩
  have hb1 : Below w.heap.size w w1 := by rw [hw1]; exact (Below.refl _ w).alloc (Nat.le_refl _) _
  have HX1 := hid (And.intro hbx hb1)
  have hld1 := hbx.load
  have hFT : within m.F 70 = (decide (1 ≤ m.F) && decide (m.F ≤ 199)) ∧ within m.T 84 = (decide (1 ≤ m.T) && decide (m.T ≤ 199)) := ⟨rfl, rfl⟩
  have HFT := hid hFT
  clear h hk hs hkk hFT hbx hb1
  by_cases f1 : 1 ≤ m.F
  rotate_left
  · have HR : Hid (m.inRange = false) := hid (by rw [HEQ.out, HFT.out.1, decide_eq_false f1]; rfl)
    rw [hw1] at hld1
    go_enter Tryd.func40, Tryd.ntmps40
    go_wp2_with fail
    go_ret
    rw [HR.out, ← hw1]
    exact ⟨rfl, HX1.out.2⟩
  by_cases f2 : m.F ≤ 199
  rotate_left
  · have HR : Hid (m.inRange = false) := hid (by rw [HEQ.out, HFT.out.1, decide_eq_false f2]; simp)
    rw [hw1] at hld1
    go_enter Tryd.func40, Tryd.ntmps40
    go_wp2_with fail
    go_ret
    rw [HR.out, ← hw1]
    exact ⟨rfl, HX1.out.2⟩
  by_cases f3 : 1 ≤ m.T
  rotate_left
  · have HR : Hid (m.inRange = false) := hid (by rw [HEQ.out, HFT.out.2, decide_eq_false f3]; simp)
    rw [hw1] at hld1
    go_enter Tryd.func40, Tryd.ntmps40
    go_wp2_with fail
    go_ret
    rw [HR.out, ← hw1]
    exact ⟨rfl, HX1.out.2⟩
  by_cases f4 : m.T ≤ 199
  rotate_left
  · have HR : Hid (m.inRange = false) := hid (by rw [HEQ.out, HFT.out.2, decide_eq_false f4]; simp)
    rw [hw1] at hld1
    go_enter Tryd.func40, Tryd.ntmps40
    go_wp2_with fail
    go_ret
    rw [HR.out, ← hw1]
    exact ⟨rfl, HX1.out.2⟩
  have HR : Hid (m.inRange = (allR.all (fun r => !(tab m.kind).contains r || within (m.num r) r) && m.es.all enOk)) := hid (by rw [HEQ.out, HFT.out.1, HFT.out.2, decide_eq_true f1, decide_eq_true f2, decide_eq_true f3, decide_eq_true f4]; simp)
  have HNB := hid (numbers_any m A c A' c' w1 HI.out.num)
  rw [hw1] at hld1
  clear HEQ HFT
  go_enter Tryd.func40, Tryd.ntmps40
  go_wp2_with fail
  rw [← hw1]
  refine HNB.out.mono ?_
  rintro e w2 ⟨AN, rfl, hn2, hb2⟩
  have HB2 := hid (HX1.out.2.trans (hb2.mono HX1.out.2.size))
  have HX2 := hid (HX1.out.1.below hb2 (row_lt HX1.out.1.row))
  have HN2 := hid hn2
  have hc0 := HX2.out.c0
  clear hb2 hn2 HNB hld1 hw1 f1 f2 f3 f4
  go_wp2_with fail
  refine (has_any m.K w2).mono ?_
  rintro e w3 ⟨AH, cH, rfl, hh3, hcH, hb3⟩
  have HB3 := hid (HB2.out.trans (hb3.mono HB2.out.size))
  have HX3 := hid (HX2.out.below hb3 (row_lt HX2.out.row))
  have HN3 := hid ((HN2.out.below hb3).more hb3.size)
  have HH3 := hid hh3
  have hc15 := HX3.out.c15
  obtain ⟨nh, hnh⟩ : ∃ nh, nh = (hasL m.K).length := ⟨_, rfl⟩
  rw [← hnh] at hcH ⊢
  have hnl : nh ≤ 7 := by rw [hnh, (has_len m.K HKK.out).1]; exact tab_length _
  have HNH := hid hnh
  clear hb3 hh3 hc0 hnh
  go_wp2_with fail
  go_loopw [5] (fun i wr => ∃ j : Nat, j ≤ 11 ∧ i = .int .i64 (j : Int) ∧ wr = w3 ∧ Hid (m.mayTo j)) (fun i _ => 11 - (RowKit.intOf i).toNat)
  case atStart => exact ⟨0, Nat.zero_le _, rfl, rfl, hid (fun r hr => by simp at hr)⟩
  case round =>
    obtain ⟨j, hj, rfl, hwr, HJ⟩ := hrel
    rw [hwr]
    clear hwr
    by_cases hlt : j < 11
    · have hlt' : j < allR.length := hlt
      obtain ⟨bc, hbc⟩ : ∃ bc, bc = (tab m.kind).contains allR[j] := ⟨_, rfl⟩
      obtain ⟨bw, hbw⟩ : ∃ bw, bw = within (m.num allR[j]) allR[j] := ⟨_, rfl⟩
      have hin := in_any w3.heap.size AH cH nh (hasL m.K) HNH.out.symm (j : Int) bc (by have e := has_in m.K HKK.out (allR[j]'hlt') (allR_all _ (List.getElem_mem hlt')); have e2 : rix (allR[j]'hlt') = (j : Int) := rix_allR j hlt; rw [e2] at e; exact e.trans hbc.symm) w3 HH3.out (by omega)
      have HIN := hid hin
      have hra := ranged_any (m.num allR[j]) j hlt w3
      have HNX : Hid ((bc = true → bw = true) → m.mayTo (j + 1)) := hid fun h0 => mayTo_next HJ.out hlt' (fun h1 => by rw [← hbw]; exact h0 (hbc.trans h1))
      have HNO : Hid (bc = true → bw = false → m.inRange = false) := hid fun h1 h2 => by rw [HR.out, mayTo_not hlt' (by rw [← hbc]; exact h1) (by rw [← hbw]; exact h2)]; rfl
      have hgn := numsL_get m j hlt
      obtain ⟨bN, oN, hAN, _, hcN⟩ := HN3.out.cells j hlt
      have hcj := hcN j hlt
      rw [hgn] at hcj
      have hra2 : Calls Tryd.prog 63 #[.int .i64 (j : Int), .int .i64 (m.num allR[j])] w3 fun e w' => e = .returned (.bool bw) ∧ w' = w3 := by rw [hbw]; exact hra
      have HRA := hid hra2
      subst hAN
      clear hin hra hra2 hbc hbw hgn hcN
      generalize (m.num allR[j]) = vj at hcj HRA
      go_wp2_with fail
      refine HIN.out.mono ?_
      rintro e w4 ⟨rfl, hw4⟩
      rw [hw4]
      clear hw4
      cases bc
      · have HNN := hid (HNX.out (by simp))
        go_wp2_with fail
        go_roundw
        case rel => exact ⟨j + 1, by omega, by go_num, trivial, HNN⟩
        case measure => simp [RowKit.intOf]; omega
      · go_wp2_with fail
        refine HRA.out.mono ?_
        rintro e w4 ⟨rfl, hw4⟩
        rw [hw4]
        clear hw4
        cases bw
        · have HNN := hid (HNO.out (by simp) (by simp))
          go_wp2_with fail
          go_ret
          rw [HNN.out]
          exact ⟨rfl, HB3.out⟩
        · have HNN := hid (HNX.out (by simp))
          go_wp2_with fail
          go_roundw
          case rel => exact ⟨j + 1, by omega, by go_num, trivial, HNN⟩
          case measure => simp [RowKit.intOf]; omega
    · obtain rfl : j = 11 := by omega
      have HR2 : Hid (m.inRange = m.es.all enOk) := hid (by rw [HR.out, mayTo_all HJ.out (by decide)]; rfl)
      clear HJ hlt hj
      go_wp2_with fail
      go_loopw [6, 7] (fun i _ wq => ∃ j : Nat, j ≤ m.es.length ∧ i = .int .i64 (j : Int) ∧ Hid (Below w.heap.size w wq) ∧ Hid (Bx wq w.heap.size m A c A' c') ∧ Hid (∀ (n : Nat) (h : n < m.es.length), n < j → enOk m.es[n] = true)) (fun i _ _ => m.es.length - (RowKit.intOf i).toNat)
      case atStart => exact ⟨0, Nat.zero_le _, rfl, HB3, HX3, hid fun n _ h => absurd h (Nat.not_lt_zero _)⟩
      case round =>
        clear hc15
        obtain ⟨j, hj, rfl, HB, HBx, HJ⟩ := hrel
        have hc15 := HBx.out.c15
        by_cases hlt : j < m.es.length
        · obtain ⟨b, off, hA, hb, hcs⟩ := HI.out.es.cells j hlt
          obtain ⟨A3, c3, e0, e1, e2, _, _, _⟩ := (hcs j hlt).below hb HB.out
          subst hA
          have HBN : Hid (∀ o : Obj, Below w.heap.size w (wr.alloc o) ∧ Bx (wr.alloc o) w.heap.size m (some ⟨b, off, none⟩) c A' c') := hid fun o => ⟨HB.out.alloc HB.out.size _, HBx.out.below ((Below.refl _ wr).alloc (Nat.le_refl _) o) (row_lt HBx.out.row)⟩
          have HJ2 : Hid (enOk m.es[j] = true → ∀ (n : Nat) (h : n < m.es.length), n < j + 1 → enOk m.es[n] = true) := hid (by
            intro h0 n hn hnj
            by_cases e : n = j
            · subst e; exact h0
            · exact HJ.out n hn (by omega))
          have HNO : Hid (enOk m.es[j] = false → m.inRange = false) := hid fun h => by
            rw [HR2.out, List.all_eq_false]
            exact ⟨_, List.getElem_mem hlt, by simp [h]⟩
          have HE2 : Hid (enOk m.es[j] = ((decide (0 ≤ m.es[j].t) && decide (m.es[j].t ≤ 1099511627776)) && (decide (0 ≤ m.es[j].k) && decide (m.es[j].k ≤ 2)))) := hid rfl
          clear hcs hb HJ HBx
          generalize m.es[j] = x at e0 e1 e2 HJ2 HNO HE2
          by_cases g1 : 0 ≤ x.t
          rotate_left
          · have HN := hid (HNO.out (by rw [HE2.out, decide_eq_false g1]; simp))
            go_wp2_with fail
            go_ret
            rw [HN.out]
            exact ⟨rfl, (HBN.out _).1⟩
          by_cases g2 : x.t ≤ 1099511627776
          rotate_left
          · have HN := hid (HNO.out (by rw [HE2.out, decide_eq_false g2]; simp))
            go_wp2_with fail
            go_ret
            rw [HN.out]
            exact ⟨rfl, (HBN.out _).1⟩
          by_cases g3 : 0 ≤ x.k
          rotate_left
          · have HN := hid (HNO.out (by rw [HE2.out, decide_eq_false g3]; simp))
            go_wp2_with fail
            go_ret
            rw [HN.out]
            exact ⟨rfl, (HBN.out _).1⟩
          by_cases g4 : x.k ≤ 2
          rotate_left
          · have HN := hid (HNO.out (by rw [HE2.out, decide_eq_false g4]; simp))
            go_wp2_with fail
            go_ret
            rw [HN.out]
            exact ⟨rfl, (HBN.out _).1⟩
          have HN := hid (HJ2.out (by rw [HE2.out, decide_eq_true g1, decide_eq_true g2, decide_eq_true g3, decide_eq_true g4]; rfl))
          go_wp2_with fail
          go_roundw
          case rel => (repeat apply Exists.intro); exact ⟨⟨j + 1, by omega, by go_num, hid (HBN.out _).1, hid (HBN.out _).2, HN⟩, rfl⟩
          case measure => simp [RowKit.intOf]; omega
        · obtain rfl : j = m.es.length := by omega
          have HRR : Hid (m.inRange = true) := hid (by
            rw [HR2.out, List.all_eq_true]
            intro e he
            obtain ⟨n, hn, rfl⟩ := List.getElem_of_mem he
            exact HJ.out n hn hn)
          go_wp2_with fail
          go_ret
          rw [HRR.out]
          exact ⟨rfl, HB.out⟩
end Go.Proofs.YtpigekbfngalbaaDoor.Ms
namespace Go.Proofs.YtpigekbfngalbaaDoor.Ms
open Go.RowKit
set_option maxRecDepth 100000
set_option linter.unusedVariables false
attribute [local go_sem ↓] loadAt_msg storeAt_msg

def M.longV (m : M) : Bool := decide (1024 < m.es.length) || decide (65536 < m.size)
theorem size_has (m : M) (hk : 1 ≤ m.K ∧ m.K ≤ 11) : m.size = (24 * m.es.length + weigh m.es) + m.d.length + 8 * (3 + (hasL m.K).length) := by
  have h1 := (has_len m.K hk).1
  have h2 : head.length = 3 := rfl
  have h3 : (tab m.kind).length = (tab m.K.toNat).length := rfl
  unfold M.size
  rw [List.length_append, h2, h3, ← h1]; omega
theorem longV_of {m : M} (h : 1024 < m.es.length ∨ 65536 < m.size) : m.longV = true := by
  unfold M.longV
  rcases h with h | h
  · rw [decide_eq_true h]; rfl
  · rw [decide_eq_true h]; simp
set_option maxHeartbeats 6400000 in
theorem long_any (m : M) (A : Option Addr) (c : Nat) (A' : Option Addr) (c' : Nat) (w : World) (h : Is w w.heap.size m A c A' c') (hk : m.isKind = true) (hs : Small m) :
    Calls Tryd.prog 41 #[.agg #[.int .i64 m.K, .int .i64 m.F, .int .i64 m.T, .int .i64 m.g, .int .i64 m.t, .int .i64 m.i, .int .i64 m.p, .int .i64 m.c, .int .i64 m.r, .int .i64 m.x, .int .i64 m.a, .int .i64 m.b, .int .i64 m.v, .int .i64 m.s, .bool m.ok, .slice A m.es.length c, .slice A' m.d.length c']] w fun e w' => e = .returned (.bool m.longV) ∧ Below w.heap.size w w' := by
  have hkk : 1 ≤ m.K ∧ m.K ≤ 11 := by unfold M.isKind at hk; simp at hk; exact hk
  have HSZ := hid (size_has m hkk)
  have HKK := hid hkk
  have HI := hid h
  have hes := hs.es
  have hdd := hs.d
  obtain ⟨w1, hw1⟩ : ∃ w1, w1 = w.alloc (.cells #[.int .i64 m.K, .int .i64 m.F, .int .i64 m.T, .int .i64 m.g, .int .i64 m.t, .int .i64 m.i, .int .i64 m.p, .int .i64 m.c, .int .i64 m.r, .int .i64 m.x, .int .i64 m.a, .int .i64 m.b, .int .i64 m.v, .int .i64 m.s, .bool m.ok, .slice A m.es.length c, .slice A' m.d.length c'] 25) := ⟨_, rfl⟩
  have hbx : Bx w1 w.heap.size m A c A' c' := ⟨by rw [hw1]; exact heap_alloc_new w _⟩
  have hb1 : Below w.heap.size w w1 := by rw [hw1]; exact (Below.refl _ w).alloc (Nat.le_refl _) _
  have HX1 := hid (And.intro hbx hb1)
  have hnl : (hasL m.K).length ≤ 7 := by rw [(has_len m.K hkk).1]; exact tab_length _
  have HNL := hid hnl
  clear h hk hs hkk hbx hb1 hnl
  by_cases f1 : 1024 < m.es.length
  · have HR : Hid (m.longV = true) := hid (longV_of (Or.inl f1))
    go_enter Tryd.func41, Tryd.ntmps41
    go_wp2_with fail
    go_ret
    rw [HR.out, ← hw1]
    exact ⟨rfl, HX1.out.2⟩
  by_cases f2 : 65536 < m.d.length
  · have HR : Hid (m.longV = true) := hid (longV_of (Or.inr (by rw [HSZ.out]; omega)))
    go_enter Tryd.func41, Tryd.ntmps41
    go_wp2_with fail
    go_ret
    rw [HR.out, ← hw1]
    exact ⟨rfl, HX1.out.2⟩
  have hc15 := HX1.out.1.c15
  have hc16 := HX1.out.1.c16
  have hc0 := HX1.out.1.c0
  go_enter Tryd.func41, Tryd.ntmps41
  go_wp2_with fail
  rw [← hw1]
  clear hw1
  go_loopw [3] (fun i wr => ∃ j : Nat, j ≤ m.es.length ∧ i = .int .i64 (j : Int) ∧ wr = w1 ∧ Hid (∀ (n : Nat) (h : n < m.es.length), n < j → m.es[n].d.length ≤ 65536)) (fun i _ => m.es.length - (RowKit.intOf i).toNat)
  case atStart => exact ⟨0, Nat.zero_le _, rfl, rfl, hid fun n _ h => absurd h (Nat.not_lt_zero _)⟩
  case round =>
    obtain ⟨j, hj, rfl, hwr, HJ⟩ := hrel
    rw [hwr]
    clear hwr
    by_cases hlt : j < m.es.length
    · obtain ⟨b, off, hA, hb, hcs⟩ := HI.out.es.cells j hlt
      obtain ⟨A3, c3, e0, e1, e2, _, h5, _⟩ := (hcs j hlt).below hb HX1.out.2
      have HLG : Hid (65536 < m.es[j].d.length → m.longV = true) := hid fun h => longV_of (Or.inr (by have := weigh_mem (List.getElem_mem hlt); rw [HSZ.out]; omega))
      have HJ2 : Hid (m.es[j].d.length ≤ 65536 → ∀ (n : Nat) (h : n < m.es.length), n < j + 1 → m.es[n].d.length ≤ 65536) := hid (by
        intro h0 n hn hnj
        by_cases e : n = j
        · subst e; exact h0
        · exact HJ.out n hn (by omega))
      subst hA
      unfold maxLen at h5
      clear hcs hb HJ
      generalize m.es[j] = x at e0 e1 e2 h5 HLG HJ2
      by_cases g : 65536 < x.d.length
      · have HN := hid (HLG.out g)
        go_wp2_with fail
        go_ret
        rw [HN.out]
        exact ⟨rfl, HX1.out.2⟩
      · have HN := hid (HJ2.out (by omega))
        go_wp2_with fail
        go_roundw
        case rel => exact ⟨j + 1, by omega, by go_num, trivial, HN⟩
        case measure => simp [RowKit.intOf]; omega
    · obtain rfl : j = m.es.length := by omega
      go_wp2_with fail
      go_loopw [4, 5] (fun s i wq => ∃ j : Nat, j ≤ m.es.length ∧ i = .int .i64 (j : Int) ∧ s = .int .i64 ((24 * j + weigh (m.es.take j) : Nat) : Int) ∧ wq = w1 ∧ Hid (weigh (m.es.take j) ≤ 65536 * j)) (fun _ i _ => m.es.length - (RowKit.intOf i).toNat)
      case atStart => exact ⟨0, Nat.zero_le _, rfl, rfl, rfl, hid (by simp [weigh])⟩
      case round =>
        obtain ⟨j, hj, rfl, rfl, hwr, HW⟩ := hrel
        rw [hwr]
        clear hwr
        by_cases hlt : j < m.es.length
        · obtain ⟨b, off, hA, hb, hcs⟩ := HI.out.es.cells j hlt
          obtain ⟨A3, c3, e0, e1, e2, _, h5, _⟩ := (hcs j hlt).below hb HX1.out.2
          have h6 := HJ.out j hlt hlt
          have hwt := weigh_take m.es j hlt
          have hww := HW.out
          obtain ⟨q, hq⟩ : ∃ q, q = 24 * j + weigh (m.es.take j) := ⟨_, rfl⟩
          have hq2 : q ≤ 100000000 := by omega
          have HQ : Hid (24 * (j + 1) + weigh (m.es.take (j + 1)) = q + 24 + m.es[j].d.length ∧ weigh (m.es.take (j + 1)) ≤ 65536 * (j + 1)) := hid (by omega)
          rw [← hq]
          subst hA
          clear hcs hb hwt hww hq
          generalize m.es[j] = x at e0 e1 e2 h5 h6 HQ
          go_wp2_with fail
          go_roundw
          case rel => exact ⟨j + 1, by omega, by go_num, by rw [HQ.out.1]; congr 1, trivial, hid HQ.out.2⟩
          case measure => simp [RowKit.intOf]; omega
        · obtain rfl : j = m.es.length := by omega
          have hww := HW.out
          rw [List.take_length] at hww ⊢
          obtain ⟨q, hq⟩ : ∃ q, q = 24 * m.es.length + weigh m.es := ⟨_, rfl⟩
          have hq2 : q ≤ 100000000 := by omega
          rw [← hq]
          have HQ := hid hq
          clear hww hq
          have HSZ2 : Hid (∀ nh : Nat, (hasL m.K).length = nh → m.size = q + m.d.length + 8 * (3 + nh)) := hid fun nh h => by rw [HSZ.out, HQ.out, h]
          have HLV : Hid (∀ nh : Nat, (hasL m.K).length = nh → m.longV = decide (65536 < q + m.d.length + 8 * (3 + nh))) := hid fun nh h => by
            unfold M.longV
            rw [decide_eq_false f1, ← HSZ2.out nh h]; rfl
          have hnl2 := HNL.out
          obtain ⟨nh, hnh⟩ : ∃ nh, nh = (hasL m.K).length := ⟨_, rfl⟩
          rw [← hnh] at hnl2
          have hh := has_any m.K w1.drew
          rw [← hnh] at hh
          have HH := hid hh
          have HNH := hid hnh
          have HKC : Hid (∀ wz, Below w1.heap.size w1.drew wz → wz.cell? ⟨w.heap.size, 16, none⟩ = some (.slice A' m.d.length c') ∧ wz.cell? ⟨w.heap.size, 0, none⟩ = some (.int .i64 m.K)) := hid fun wz hb => ⟨(hb.cell (p := ⟨w.heap.size, 16, none⟩) (row_lt HX1.out.1.row)).trans HX1.out.1.c16, (hb.cell (p := ⟨w.heap.size, 0, none⟩) (row_lt HX1.out.1.row)).trans HX1.out.1.c0⟩
          have hk16 : w1.drew.cell? ⟨w.heap.size, 16, none⟩ = some (.slice A' m.d.length c') := hc16
          have hk0 : w1.drew.cell? ⟨w.heap.size, 0, none⟩ = some (.int .i64 m.K) := hc0
          clear hlt hj hh hnh
          go_wp2_with fail
          go_region_held3 (fun w' => w'.cell? ⟨w.heap.size, 16, none⟩ = some (.slice A' m.d.length c') ∧ w'.cell? ⟨w.heap.size, 0, none⟩ = some (.int .i64 m.K))
            (first | exact HK5.out.1 | exact ⟨hk16, hk0⟩ | fail)
            (first
              | (go_at_call 37; refine HH.out.mono ?_; rintro e w5 ⟨AH, cH, rfl, _, _, hb5⟩; have HK5 := hid (And.intro (HKC.out w5 hb5) hb5); clear hb5))
          all_goals
            have HB5 : Hid (Below w.heap.size w w5) := hid (HX1.out.2.trans (((Below.refl _ w1).drew.trans HK5.out.2).mono HX1.out.2.size))
            clear hk16 hk0
            go_wp2_with fail
            go_ret
            refine ⟨?_, HB5.out⟩
            rw [HLV.out nh HNH.out.symm]
            refine congrArg (fun b => Ending.returned (.bool b)) ?_
            have e1 : ∀ x : Int, -9223372036854775808 ≤ x → x ≤ 9223372036854775807 → IntKind.i64.wrap x = x := by
              intro x h1 h2
              simp [IntKind.wrap, IntKind.signed, IntKind.bits]
              omega
            rw [e1 (3 + (nh : Int)) (by omega) (by omega), e1 (8 * (3 + (nh : Int))) (by omega) (by omega), e1 ((q : Int) + (m.d.length : Int)) (by omega) (by omega), e1 (((q : Int) + (m.d.length : Int)) + 8 * (3 + (nh : Int))) (by omega) (by omega)]
            rw [decide_eq_decide]
            omega

/-- a foreign field that says something -/
def M.fo (m : M) (r : Nat) : Bool := !(tab m.kind).contains r && !m.blank r
theorem foreign_eq (m : M) : m.foreign = (allR.any m.fo || (m.fo 111 || (m.fo 101 || m.fo 100))) := by
  have h : ∀ p : Nat → Bool, all.any p = (allR.any p || (p 111 || (p 101 || p 100))) := by
    intro p
    simp only [all, allR, List.any_cons, List.any_nil, Bool.or_false]
    ac_rfl
  exact h m.fo
def M.stillR (m : M) (j : Nat) : Prop := ∀ r ∈ allR.take j, m.fo r = false
theorem stillR_next {m : M} {j : Nat} (h : m.stillR j) (hj : j < allR.length) (hb : m.fo allR[j] = false) : m.stillR (j + 1) := by
  intro r hr
  rw [List.take_succ_eq_append_getElem hj] at hr
  rcases List.mem_append.1 hr with hr | hr
  · exact h r hr
  · obtain rfl := List.mem_singleton.1 hr; exact hb
theorem blank_num (m : M) (j : Nat) (h : j < allR.length) : m.blank allR[j] = decide (m.num allR[j] = 0) := by
  have key : ∀ r ∈ allR, r ≠ 111 ∧ r ≠ 101 ∧ r ≠ 100 := by decide
  have := key _ (List.getElem_mem h)
  unfold M.blank
  rw [if_neg this.1, if_neg this.2.1, if_neg this.2.2]
set_option maxHeartbeats 6400000 in
theorem rcheck_any (m : M) (A : Option Addr) (c : Nat) (A' : Option Addr) (c' : Nat) (w : World) (h : Is w w.heap.size m A c A' c') (hs : Small m) :
    Calls Tryd.prog 14 #[.agg #[.int .i64 m.K, .int .i64 m.F, .int .i64 m.T, .int .i64 m.g, .int .i64 m.t, .int .i64 m.i, .int .i64 m.p, .int .i64 m.c, .int .i64 m.r, .int .i64 m.x, .int .i64 m.a, .int .i64 m.b, .int .i64 m.v, .int .i64 m.s, .bool m.ok, .slice A m.es.length c, .slice A' m.d.length c']] w fun e w' => e = .returned (.int .i64 ((check m : Nat) : Int)) ∧ Below w.heap.size w w' := by
  have HI := hid h
  have HS := hid hs
  have hesl := hs.es
  have hdl := hs.d
  have HCK : Hid (check m = if m.isKind = false then 13 else if m.foreign = true then 14 else if m.inRange = false then 3 else if 1024 < m.es.length ∨ 65536 < m.size then 2 else 0) := rfl
  obtain ⟨w1, hw1⟩ : ∃ w1, w1 = w.alloc (.cells #[.int .i64 m.K, .int .i64 m.F, .int .i64 m.T, .int .i64 m.g, .int .i64 m.t, .int .i64 m.i, .int .i64 m.p, .int .i64 m.c, .int .i64 m.r, .int .i64 m.x, .int .i64 m.a, .int .i64 m.b, .int .i64 m.v, .int .i64 m.s, .bool m.ok, .slice A m.es.length c, .slice A' m.d.length c'] 25) := ⟨_, rfl⟩
  have hbx : Bx w1 w.heap.size m A c A' c' := ⟨by rw [hw1]; exact heap_alloc_new w _⟩
  have hb1 : Below w.heap.size w w1 := by rw [hw1]; exact (Below.refl _ w).alloc (Nat.le_refl _) _
  have HX1 := hid (And.intro hbx hb1)
  have HH := hid (has_any m.K w1)
  clear h hs hbx hb1
  go_enter Tryd.func14, Tryd.ntmps14
  go_wp2_with fail
  rw [← hw1]
  clear hw1
  refine HH.out.mono ?_
  rintro e w2 ⟨AH, cH, rfl, hh2, hcH, hb2⟩
  have HB2 := hid (HX1.out.2.trans (hb2.mono HX1.out.2.size))
  have HX2 := hid (HX1.out.1.below hb2 (row_lt HX1.out.1.row))
  have HH2 := hid hh2
  obtain ⟨nh, hnh⟩ : ∃ nh, nh = (hasL m.K).length := ⟨_, rfl⟩
  rw [← hnh] at hcH ⊢
  have HNH := hid hnh
  have hld2 := HX2.out.load
  clear hb2 hh2 hnh HH
  by_cases hk : m.isKind = true
  rotate_left
  · have hkk : ¬ (1 ≤ m.K ∧ m.K ≤ 11) := fun hh => hk (by unfold M.isKind; simp; exact hh)
    have hn0 : nh = 0 := by rw [HNH.out]; unfold hasL; rw [if_neg hkk]; rfl
    have HR : Hid (check m = 13) := hid (by rw [HCK.out, if_pos (by simpa using hk)])
    clear hk hkk HNH
    subst hn0
    go_wp2_with fail
    go_ret
    rw [HR.out]
    exact ⟨rfl, HB2.out⟩
  have hkk : 1 ≤ m.K ∧ m.K ≤ 11 := by unfold M.isKind at hk; simp at hk; exact hk
  have hn1 : 1 ≤ nh ∧ nh ≤ 7 := by rw [HNH.out]; exact ⟨(has_len m.K hkk).2, by rw [(has_len m.K hkk).1]; exact tab_length _⟩
  have HKK := hid hkk
  have HK := hid hk
  have HC2 : Hid (check m = if m.foreign = true then 14 else if m.inRange = false then 3 else if 1024 < m.es.length ∨ 65536 < m.size then 2 else 0) := hid (by rw [HCK.out, if_neg (by rw [hk]; decide)])
  obtain ⟨hn1a, hn1b⟩ := hn1
  have HNB := hid (numbers_any m A c A' c' w2 HI.out.num)
  clear hk hkk HCK
  go_wp2_with fail
  refine HNB.out.mono ?_
  rintro e w3 ⟨AN, rfl, hn3, hb3⟩
  have HB3 := hid (HB2.out.trans (hb3.mono HB2.out.size))
  have HX3 := hid (HX2.out.below hb3 (row_lt HX2.out.row))
  have HN3 := hid hn3
  have HH3 := hid ((HH2.out.below hb3).more hb3.size)
  clear hb3 hn3 HNB hld2
  go_wp2_with fail
  go_loopw [5] (fun i wr => ∃ j : Nat, j ≤ 11 ∧ i = .int .i64 (j : Int) ∧ wr = w3 ∧ Hid (m.stillR j)) (fun i _ => 11 - (RowKit.intOf i).toNat)
  case atStart => exact ⟨0, Nat.zero_le _, rfl, rfl, hid (fun r hr => by simp at hr)⟩
  case round =>
    obtain ⟨j, hj, rfl, hwr, HJ⟩ := hrel
    rw [hwr]
    clear hwr
    by_cases hlt : j < 11
    · have hlt' : j < allR.length := hlt
      obtain ⟨bc, hbc⟩ : ∃ bc, bc = (tab m.kind).contains allR[j] := ⟨_, rfl⟩
      have hin := in_any w3.heap.size AH cH nh (hasL m.K) HNH.out.symm (j : Int) bc (by have e := has_in m.K HKK.out (allR[j]'hlt') (allR_all _ (List.getElem_mem hlt')); have e2 : rix (allR[j]'hlt') = (j : Int) := rix_allR j hlt; rw [e2] at e; exact e.trans hbc.symm) w3 HH3.out (by omega)
      have HIN := hid hin
      obtain ⟨vj, hvj⟩ : ∃ vj, vj = m.num allR[j] := ⟨_, rfl⟩
      have hfo : m.fo allR[j] = (!bc && !decide (vj = 0)) := by unfold M.fo; rw [blank_num m j hlt', ← hbc, ← hvj]
      have HNX : Hid ((bc = true ∨ vj = 0) → m.stillR (j + 1)) := hid fun h0 => stillR_next HJ.out hlt' (by rw [hfo]; rcases h0 with h0 | h0 <;> simp [h0])
      have HNO : Hid (bc = false → vj ≠ 0 → m.foreign = true) := hid fun h1 h2 => by
        rw [foreign_eq]
        have : allR.any m.fo = true := by
          rw [List.any_eq_true]
          exact ⟨_, List.getElem_mem hlt', by rw [hfo, h1, decide_eq_false h2]; rfl⟩
        rw [this]; rfl
      have hgn := numsL_get m j hlt
      obtain ⟨bN, oN, hAN, _, hcN⟩ := HN3.out.cells j hlt
      have hcj := hcN j hlt
      rw [hgn] at hcj
      have hcj2 : w3.cell? ⟨bN, oN + j, none⟩ = some (.int .i64 vj) := by rw [hvj]; exact hcj
      subst hAN
      clear hin hbc hgn hcN hcj hfo hvj
      by_cases hv : vj = 0
      · have HNN := hid (HNX.out (Or.inr hv))
        go_wp2_with fail
        go_roundw
        case rel => exact ⟨j + 1, by omega, by go_num, trivial, HNN⟩
        case measure => simp [RowKit.intOf]; omega
      · have HV := hid hv
        go_wp2_with fail
        refine HIN.out.mono ?_
        rintro e w4 ⟨rfl, hw4⟩
        rw [hw4]
        clear hw4
        cases bc
        · have HNN := hid (HNO.out (by simp) HV.out)
          have HR : Hid (check m = 14) := hid (by rw [HC2.out, if_pos HNN.out])
          go_wp2_with fail
          go_ret
          rw [HR.out]
          exact ⟨rfl, HB3.out⟩
        · have HNN := hid (HNX.out (by simp))
          go_wp2_with fail
          go_roundw
          case rel => exact ⟨j + 1, by omega, by go_num, trivial, HNN⟩
          case measure => simp [RowKit.intOf]; omega
    · obtain rfl : j = 11 := by omega
      have HF : Hid (m.foreign = (m.fo 111 || (m.fo 101 || m.fo 100))) := hid (by
        rw [foreign_eq]
        have : allR.any m.fo = false := by
          rw [List.any_eq_false]
          intro r hr
          have := HJ.out r (by rw [List.take_of_length_le (by decide)]; exact hr)
          simp [this]
        rw [this]; rfl)
      clear HJ hlt hj
      have hin11 := fun b hb => in_any w3.heap.size AH cH nh (hasL m.K) HNH.out.symm 11 b hb w3 HH3.out (by omega)
      have hin12 := fun b hb => in_any w3.heap.size AH cH nh (hasL m.K) HNH.out.symm 12 b hb w3 HH3.out (by omega)
      have hin13 := fun b hb => in_any w3.heap.size AH cH nh (hasL m.K) HNH.out.symm 13 b hb w3 HH3.out (by omega)
      have h11 := has_in m.K HKK.out 111 (by decide)
      have h12 := has_in m.K HKK.out 101 (by decide)
      have h13 := has_in m.K HKK.out 100 (by decide)
      obtain ⟨o1, ho1⟩ : ∃ b, b = (tab m.kind).contains 111 := ⟨_, rfl⟩
      obtain ⟨o2, ho2⟩ : ∃ b, b = (tab m.kind).contains 101 := ⟨_, rfl⟩
      obtain ⟨o3, ho3⟩ : ∃ b, b = (tab m.kind).contains 100 := ⟨_, rfl⟩
      have HI1 := hid (hin11 o1 (by rw [ho1]; exact h11))
      have HI2 := hid (hin12 o2 (by rw [ho2]; exact h12))
      have HI3 := hid (hin13 o3 (by rw [ho3]; exact h13))
      have HFO : Hid (m.foreign = ((!o1 && m.ok) || ((!o2 && !decide (m.es.length = 0)) || (!o3 && !decide (m.d.length = 0))))) := hid (by
        rw [HF.out]
        unfold M.fo M.blank
        rw [← ho1, ← ho2, ← ho3]
        simp)
      have hld3 := HX3.out.load
      have hc14 := HX3.out.c14
      have hc15 := HX3.out.c15
      have hc16 := HX3.out.c16
      have HM := may_any m A c A' c' w3 ((HI.out.below HB3.out).more HB3.out.size) HK.out HS.out
      have HLG := fun (w4 : World) (hb : Below w.heap.size w w4) => long_any m A c A' c' w4 ((HI.out.below hb).more hb.size) HK.out HS.out
      obtain ⟨bm, hbm⟩ : ∃ b, b = m.inRange := ⟨_, rfl⟩
      obtain ⟨bl, hbl⟩ : ∃ b, b = m.longV := ⟨_, rfl⟩
      rw [← hbm] at HM
      rw [← hbl] at HLG
      have HBM := hid (And.intro hbm hbl)
      clear hin11 hin12 hin13 h11 h12 h13 ho1 ho2 ho3 HF hbm hbl
      have HLOG : Hid (m.longV = (decide (1024 < m.es.length) || decide (65536 < m.size))) := hid rfl
      obtain ⟨ok, hok⟩ : ∃ b, b = m.ok := ⟨_, rfl⟩
      rw [← hok] at HM HLG HFO
      have HMM := hid HM
      have HLL := hid HLG
      rw [← hok] at hld3 hc14 ⊢
      have HOK := hid hok
      clear HM HLG hok
      go_upto_region 10 with fail
      go_cut [59] from 31 to 59 (fun v wx => v = .bool m.foreign ∧ Hid (wx = w3))
      case first =>
        cases ok
        · skip
          by_cases e0 : 0 < m.es.length
          · have g2 : ¬ m.es.length = 0 := by omega
            have G2 := hid g2
            clear g2
            go_wp2_with fail
            refine HI2.out.mono ?_
            rintro e w4 ⟨rfl, hw4⟩
            rw [hw4]
            clear hw4
            cases o2
            · have HR : Hid (m.foreign = true) := hid (by rw [HFO.out, decide_eq_false G2.out]; simp)
              go_wp2_with fail
              go_meet
              exact ⟨by rw [HR.out], hid rfl⟩
            · skip
              by_cases d0 : 0 < m.d.length
              · have g3 : ¬ m.d.length = 0 := by omega
                have G3 := hid g3
                clear g3
                go_wp2_with fail
                refine HI3.out.mono ?_
                rintro e w4 ⟨rfl, hw4⟩
                rw [hw4]
                clear hw4
                cases o3
                · have HR : Hid (m.foreign = true) := hid (by rw [HFO.out, decide_eq_false G3.out]; simp)
                  go_wp2_with fail
                  go_meet
                  exact ⟨by rw [HR.out], hid rfl⟩
                · have HR : Hid (m.foreign = false) := hid (by rw [HFO.out, decide_eq_false G2.out]; simp)
                  go_wp2_with fail
                  go_meet
                  exact ⟨by rw [HR.out], hid rfl⟩
              · have g3 : m.d.length = 0 := by omega
                have HR : Hid (m.foreign = false) := hid (by rw [HFO.out, decide_eq_true g3, decide_eq_false G2.out]; simp)
                clear g3
                go_wp2_with fail
                go_meet
                exact ⟨by rw [HR.out], hid rfl⟩
          · have g2 : m.es.length = 0 := by omega
            have G2 := hid g2
            clear g2
            by_cases d0 : 0 < m.d.length
            · have g3 : ¬ m.d.length = 0 := by omega
              have G3 := hid g3
              clear g3
              go_wp2_with fail
              refine HI3.out.mono ?_
              rintro e w4 ⟨rfl, hw4⟩
              rw [hw4]
              clear hw4
              cases o3
              · have HR : Hid (m.foreign = true) := hid (by rw [HFO.out, decide_eq_false G3.out]; simp)
                go_wp2_with fail
                go_meet
                exact ⟨by rw [HR.out], hid rfl⟩
              · have HR : Hid (m.foreign = false) := hid (by rw [HFO.out, decide_eq_true G2.out]; simp)
                go_wp2_with fail
                go_meet
                exact ⟨by rw [HR.out], hid rfl⟩
            · have g3 : m.d.length = 0 := by omega
              have HR : Hid (m.foreign = false) := hid (by rw [HFO.out, decide_eq_true g3, decide_eq_true G2.out]; simp)
              clear g3
              go_wp2_with fail
              go_meet
              exact ⟨by rw [HR.out], hid rfl⟩
        · skip
          go_wp2_with fail
          refine HI1.out.mono ?_
          rintro e w4 ⟨rfl, hw4⟩
          rw [hw4]
          clear hw4
          cases o1
          · have HR : Hid (m.foreign = true) := hid (by rw [HFO.out]; simp)
            go_wp2_with fail
            go_meet
            exact ⟨by rw [HR.out], hid rfl⟩
          · skip
            by_cases e0 : 0 < m.es.length
            · have g2 : ¬ m.es.length = 0 := by omega
              have G2 := hid g2
              clear g2
              go_wp2_with fail
              refine HI2.out.mono ?_
              rintro e w4 ⟨rfl, hw4⟩
              rw [hw4]
              clear hw4
              cases o2
              · have HR : Hid (m.foreign = true) := hid (by rw [HFO.out, decide_eq_false G2.out]; simp)
                go_wp2_with fail
                go_meet
                exact ⟨by rw [HR.out], hid rfl⟩
              · skip
                by_cases d0 : 0 < m.d.length
                · have g3 : ¬ m.d.length = 0 := by omega
                  have G3 := hid g3
                  clear g3
                  go_wp2_with fail
                  refine HI3.out.mono ?_
                  rintro e w4 ⟨rfl, hw4⟩
                  rw [hw4]
                  clear hw4
                  cases o3
                  · have HR : Hid (m.foreign = true) := hid (by rw [HFO.out, decide_eq_false G3.out]; simp)
                    go_wp2_with fail
                    go_meet
                    exact ⟨by rw [HR.out], hid rfl⟩
                  · have HR : Hid (m.foreign = false) := hid (by rw [HFO.out, decide_eq_false G2.out]; simp)
                    go_wp2_with fail
                    go_meet
                    exact ⟨by rw [HR.out], hid rfl⟩
                · have g3 : m.d.length = 0 := by omega
                  have HR : Hid (m.foreign = false) := hid (by rw [HFO.out, decide_eq_true g3, decide_eq_false G2.out]; simp)
                  clear g3
                  go_wp2_with fail
                  go_meet
                  exact ⟨by rw [HR.out], hid rfl⟩
            · have g2 : m.es.length = 0 := by omega
              have G2 := hid g2
              clear g2
              by_cases d0 : 0 < m.d.length
              · have g3 : ¬ m.d.length = 0 := by omega
                have G3 := hid g3
                clear g3
                go_wp2_with fail
                refine HI3.out.mono ?_
                rintro e w4 ⟨rfl, hw4⟩
                rw [hw4]
                clear hw4
                cases o3
                · have HR : Hid (m.foreign = true) := hid (by rw [HFO.out, decide_eq_false G3.out]; simp)
                  go_wp2_with fail
                  go_meet
                  exact ⟨by rw [HR.out], hid rfl⟩
                · have HR : Hid (m.foreign = false) := hid (by rw [HFO.out, decide_eq_true G2.out]; simp)
                  go_wp2_with fail
                  go_meet
                  exact ⟨by rw [HR.out], hid rfl⟩
              · have g3 : m.d.length = 0 := by omega
                have HR : Hid (m.foreign = false) := hid (by rw [HFO.out, decide_eq_true g3, decide_eq_true G2.out]; simp)
                clear g3
                go_wp2_with fail
                go_meet
                exact ⟨by rw [HR.out], hid rfl⟩
      case rest =>
        obtain ⟨rfl, hwx⟩ := hcut
        rw [hwx.out]
        clear hwx HI1 HI2 HI3 HFO
        obtain ⟨bf, hbf⟩ : ∃ b, b = m.foreign := ⟨_, rfl⟩
        rw [← hbf] at HC2 ⊢
        clear hbf
        cases bf
        rotate_left
        · have HR : Hid (check m = 14) := hid (by rw [HC2.out, if_pos rfl])
          go_wp2_with fail
          go_ret
          rw [HR.out]
          exact ⟨rfl, HB3.out⟩
        have HNF : Hid (check m = if m.inRange = false then 3 else if 1024 < m.es.length ∨ 65536 < m.size then 2 else 0) := hid (by rw [HC2.out, if_neg (by decide)])
        go_wp2_with fail
        refine HMM.out.mono ?_
        rintro e w4 ⟨rfl, hb4⟩
        have HB4 := hid (HB3.out.trans (hb4.mono HB3.out.size))
        have hld4 := (HX3.out.below hb4 (row_lt HX3.out.row)).load
        rw [← HOK.out] at hld4
        clear hb4 hld3 hc14 hc15 hc16
        cases bm
        · have HR : Hid (check m = 3) := hid (by rw [HNF.out, if_pos HBM.out.1.symm])
          go_wp2_with fail
          go_ret
          rw [HR.out]
          exact ⟨rfl, HB4.out⟩
        · have HL4 := hid (HLL.out w4 HB4.out)
          go_wp2_with fail
          refine HL4.out.mono ?_
          rintro e w5 ⟨rfl, hb5⟩
          have HB5 := hid (HB4.out.trans (hb5.mono HB4.out.size))
          clear hb5 hld4
          cases bl
          · have HR : Hid (check m = 0) := hid (by
              have e := HBM.out.2
              rw [HLOG.out] at e
              rw [HNF.out, if_neg (by rw [← HBM.out.1]; decide), if_neg (by simpa using e.symm)])
            go_wp2_with fail
            go_ret
            rw [HR.out]
            exact ⟨rfl, HB5.out⟩
          · have HR : Hid (check m = 2) := hid (by
              have e := HBM.out.2
              rw [HLOG.out] at e
              rw [HNF.out, if_neg (by rw [← HBM.out.1]; decide), if_pos (by simpa using e.symm)])
            go_wp2_with fail
            go_ret
            rw [HR.out]
            exact ⟨rfl, HB5.out⟩
end Go.Proofs.YtpigekbfngalbaaDoor.Ms
namespace Go.Proofs.YtpigekbfngalbaaDoor
open Go.RowKit

theorem wp_append_byteN {P : Program} {w : World} {o : Oper} {a : Act} {K : Act → World → Prop} {Q : Exit → Act → World → Prop} (s x : Operand) (t : TypeId)
    (ho : o.op = .call { callee := .builtin .append, args := #[s, x], argTypes := #[t, t] })
    (base : Nat) (e : TypeId) (i : TypeInfo) (ht : P.underlying t = some (.slice e)) (hi : P.info? e = some i) (hz : i.zero = some (.int .u8 0)) (hsize : i.size = 1) (hby : i.bytes = 1)
    (A : Option Addr) (c : Nat) (l : List Nat) (n : Nat) (hln : l.length = n) (hs : a.eval s = .slice A n c) (hown : OwnsB e w base A c l)
    (ad : Addr) (c' : Nat) (y : Nat) (v : Int) (hyv : v = (y : Int)) (hy : y < 256) (hx : a.eval x = .slice (some ad) 1 c') (hc : w.cell? ad = some (.int .u8 v))
    (L : List Nat) (hL : l ++ [y] = L) (hbytes : n + 1 ≤ 140737488355328) (hbase : base ≤ w.heap.size)
    (h : ∀ A2 c2 w', OwnsB e w' base A2 c2 L → Below base w w' → w.grownBy w' (blk A) → (blk A2 = blk A ∨ blk A2 = some w.heap.size) → K (a.put o.dst (.slice A2 (n + 1) c2)) w') : o.wp P a w K Q := by
  subst hln
  subst hL
  subst hyv
  obtain ⟨v', w', hr, h1, h2, _, h4⟩ := run_append_own_at (P := P) w base t o.type e i (.int .u8 0) 1 1 ht hi hz hsize hby rfl (by decide) _ l.length (bytes l) hown.row ad 1 c' [.int .u8 (y : Int)] rfl
    (fun j u hj => by
      match j, hj with
      | 0, hj => simp at hj; subst hj; simpa [Addr.add] using hc) (fun u hu => by simp at hu; subst hu; rfl) (by unfold maxLen; omega) (by omega) hbase
  obtain ⟨A2, c2, rfl⟩ := own_slice h1
  have e2 : bytes l ++ [Value.int .u8 (y : Int)] = bytes (l ++ [y]) := by unfold bytes; simp
  rw [e2] at h1
  rw [ownBlock_slice, ownBlock_slice] at h4
  unfold Oper.wp execOp
  simp only [ho, resolve, invoke, builtin, Sem.run_bind, Sem.run_pure, Result.andThen_ok, List.map_toArray, List.map_cons, List.map_nil, hs, hx, hr]
  refine h A2 c2 w' ⟨fun z hz => ?_, by rw [List.length_append]; exact h1⟩ (below_grown h2 hbase fun k hk => (hown.row.lt k hk).1) (by rw [← ownBlock_slice A l.length c]; exact h2) h4
  rcases List.mem_append.1 hz with hz | hz
  · exact hown.small z hz
  · simp at hz; subst hz; exact hy
theorem step_append_byteN {P : Program} {w : World} {ops : Array Oper} {o : Oper} {a : Act} {K : Act → World → Prop} {Q : Exit → Act → World → Prop} {E : Prop} (hgd : o.guard = none) (s x : Operand) (t : TypeId)
    (ho : o.op = .call { callee := .builtin .append, args := #[s, x], argTypes := #[t, t] })
    (base : Nat) (e : TypeId) (i : TypeInfo) (ht : P.underlying t = some (.slice e)) (hi : P.info? e = some i) (hz : i.zero = some (.int .u8 0)) (hsize : i.size = 1) (hby : i.bytes = 1)
    (A : Option Addr) (c : Nat) (l : List Nat) (n : Nat) (hln : l.length = n) (hs : a.eval s = .slice A n c) (hown : OwnsB e w base A c l)
    (ad : Addr) (c' : Nat) (y : Nat) (v : Int) (hyv : v = (y : Int)) (hy : y < 256) (hx : a.eval x = .slice (some ad) 1 c') (hc : w.cell? ad = some (.int .u8 v))
    (L : List Nat) (hL : l ++ [y] = L) (hbytes : n + 1 ≤ 140737488355328) (hbase : base ≤ w.heap.size)
    (h : ∀ A2 c2 w', OwnsB e w' base A2 c2 L → Below base w w' → w.grownBy w' (blk A) → (blk A2 = blk A ∨ blk A2 = some w.heap.size) → K (a.put o.dst (.slice A2 (n + 1) c2)) w') :
    if Region.wanted o (yielded ops a.tmps) = true then Oper.wp P o a w K Q else E := by
  have hw : Region.wanted o (yielded ops a.tmps) = true := by simp [Region.wanted, hgd]
  rw [if_pos hw]
  exact wp_append_byteN s x t ho base e i ht hi hz hsize hby A c l n hln hs hown ad c' y v hyv hy hx hc L hL hbytes hbase h
theorem OwnsB.readsB {e : TypeId} {w : World} {base c top : Nat} {A : Option Addr} {l : List Nat} (h : OwnsB e w base A c l) (ht : ∀ k, blk A = some k → k < top) : IsBytes w top A l := by
  refine ⟨h.small, fun k hk => ?_⟩
  obtain ⟨b, off, e, _, hc⟩ := h.reads.cells k hk
  exact ⟨b, off, e, ht b (by rw [e]; rfl), hc⟩
end Go.Proofs.YtpigekbfngalbaaDoor
