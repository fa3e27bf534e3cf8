/- The walks through the look for a way that is cut. -/
import Derived.Test.YtckfjkhjnpkobaaLinkEq
namespace Go.Proofs.Ytckfjkhjnpkobaa
open Go.RowKit

theorem idxOf_take (l : List (Int × Int)) (x : Int × Int) (k : Nat) (hk : k < l.length) (h : x ∉ l.take k) (he : l[k] = x) : l.idxOf x = k := by
  have h1 : x ∈ l := by rw [← he]; exact List.getElem_mem hk
  have h2 := List.idxOf_lt_length_iff.2 h1
  have h3 : l[l.idxOf x] = x := List.getElem_idxOf h2
  rcases Nat.lt_trichotomy (l.idxOf x) k with h4 | h4 | h4
  · refine absurd ?_ h
    rw [List.mem_take_iff_getElem]
    exact ⟨l.idxOf x, by omega, h3⟩
  · exact h4
  · exfalso
    have := List.not_of_lt_findIdx (xs := l) (p := fun y => y == x) (i := k) (by simpa [List.idxOf] using h4)
    simp [he] at this

set_option maxHeartbeats 800000 in
set_option maxRecDepth 100000 in
theorem index_any (F : Nat → Prop) (A : Option Addr) (c : Nat) (C : List (Int × Int)) (hl : C.length ≤ 64) (x : Int × Int) (w : World) (h : RowIn cellsL 2 66 w F A c C) :
    Calls Try.prog 44 #[.slice A C.length c, .agg #[.int .i64 x.1, .int .i64 x.2]] w fun e w' =>
      e = .returned (.int .i64 (Po.ixOf x C)) ∧ Below w.heap.size w w' := by
  obtain ⟨w1, hw1⟩ : ∃ w1, w1 = w.alloc (.cells #[.int .i64 x.1, .int .i64 x.2] 66) := ⟨_, rfl⟩
  have hb1 : Below w.heap.size w w1 := by rw [hw1]; exact (Below.refl _ w).alloc (Nat.le_refl _) _
  have h1 := h.below hb1
  have x0 : w1.cell? ⟨w.heap.size, 0, none⟩ = some (.int .i64 x.1) := by rw [hw1]; simp
  have x1 : w1.cell? ⟨w.heap.size, 1, none⟩ = some (.int .i64 x.2) := by rw [hw1]; simp
  have HB := hid hb1
  have hlg := link_guard
  have hle := link_eq
  clear hb1 h
  go_enter Try.func44, Try.ntmps44
  go_wp2_with fail
  rw [← hw1]
  have HW := hid hw1
  clear hw1
  go_loopw [8] (fun i wr => ∃ k n : Nat, k ≤ C.length ∧ i = .int .i64 k ∧ Hid (x ∉ C.take k) ∧ wr = w1.drewN n) (fun i _ => C.length - (RowKit.intOf i).toNat)
  case atStart => exact ⟨0, 0, by omega, rfl, hid (by simp), rfl⟩
  case round =>
    obtain ⟨k, n, hk, rfl, hS, rfl⟩ := hrel
    by_cases hlt : k < C.length
    · obtain ⟨g, rfl, hg, _, hc, _⟩ := h1.get k hlt
      have c0 : (w1.drewN n).cell? ⟨g, k * 2, none⟩ = some (.int .i64 C[k].1) := hc 0 (by omega)
      have c1 : (w1.drewN n).cell? ⟨g, k * 2 + 1, none⟩ = some (.int .i64 C[k].2) := hc 1 (by omega)
      have y0 : (w1.drewN n).cell? ⟨w.heap.size, 0, none⟩ = some (.int .i64 x.1) := x0
      have y1 : (w1.drewN n).cell? ⟨w.heap.size, 1, none⟩ = some (.int .i64 x.2) := x1
      have hk0 : (k : Int) < (C.length : Int) := by omega
      clear hc h1 x0 x1
      obtain ⟨w9, hw9⟩ : ∃ w9, w9 = w1.drewN n := ⟨_, rfl⟩
      rw [← hw9] at c0 c1 y0 y1 ⊢
      have H9 := hid hw9
      clear hw9
      by_cases he : C[k] = x
      · have HX : Hid (Po.ixOf x C = (k : Int)) := by
          show _ = _
          rw [Po.ixOf_in (by rw [← he]; exact List.getElem_mem hlt), idxOf_take C x k hlt hS.out he]
        rw [he] at c0 c1
        clear he
        go_wp2_with fail
        go_quiet (fail)
        go_wp2_with fail
        go_ret
        refine ⟨ret_int HX.out.symm, ?_⟩
        rw [H9.out]
        exact below_drewN (below_drewN HB.out n) _
      · have hS' : x ∉ C.take (k + 1) := by
          rw [List.take_succ_eq_append_getElem hlt]
          intro hx
          rcases List.mem_append.1 hx with hx | hx
          · exact hS.out hx
          · exact he (List.mem_singleton.1 hx).symm
        have HS := hid hS'
        have hne : ¬ (x.1 = C[k].1 ∧ x.2 = C[k].2) := fun h => he (Prod.ext h.1.symm h.2.symm)
        have HN := hid hne
        clear he hS'
        go_wp2_with fail
        go_quiet (fail)
        go_wp2_with fail
        · rename_i hb
          exact absurd ⟨by simpa using hb.1, by simpa using hb.2⟩ HN.out
        · go_roundw
          case rel => exact ⟨k + 1, n + nq, by omega, by go_num, HS, by rw [H9.out, World.drewN_drewN]⟩
          case measure => simp [RowKit.intOf]; omega
    · obtain rfl : k = C.length := by omega
      have hS1 := hS.out
      rw [List.take_length] at hS1
      have HS := hid hS1
      clear hS1
      go_wp2_with fail
      go_ret
      refine ⟨by rw [Po.ixOf_out HS.out]; rfl, ?_⟩
      exact below_drewN HB.out n

set_option maxRecDepth 100000 in
theorem contains_any (F : Nat → Prop) (A : Option Addr) (c : Nat) (C : List (Int × Int)) (hl : C.length ≤ 64) (x : Int × Int) (w : World) (h : RowIn cellsL 2 66 w F A c C) :
    Calls Try.prog 37 #[.slice A C.length c, .agg #[.int .i64 x.1, .int .i64 x.2]] w fun e w' =>
      e = .returned (.bool (decide (x ∈ C))) ∧ Below w.heap.size w w' := by
  obtain ⟨w1, hw1⟩ : ∃ w1, w1 = w.alloc (.cells #[.int .i64 x.1, .int .i64 x.2] 66) := ⟨_, rfl⟩
  have hb1 : Below w.heap.size w w1 := by rw [hw1]; exact (Below.refl _ w).alloc (Nat.le_refl _) _
  have HC := hid (index_any F A c C hl x w1 (h.below hb1))
  have HB := hid hb1
  rw [hw1] at HC HB
  clear hb1 h hw1
  by_cases hx : x ∈ C
  · rw [Po.ixOf_in hx] at HC
    rw [decide_eq_true hx]
    have h0 : (0 : Int) ≤ ((C.idxOf x : Nat) : Int) := by omega
    obtain ⟨j, hj⟩ : ∃ j, j = ((C.idxOf x : Nat) : Int) := ⟨_, rfl⟩
    rw [← hj] at HC h0
    clear hx hj
    go_enter Try.func37, Try.ntmps37
    go_wp2_with fail
    refine HC.out.mono ?_
    rintro e w2 ⟨rfl, hb2⟩
    have HB2 := hid (HB.out.trans (hb2.mono (by simp)))
    clear hb2
    go_wp2_with fail
    go_ret
    exact ⟨rfl, HB2.out⟩
  · rw [Po.ixOf_out hx] at HC
    rw [decide_eq_false hx]
    clear hx
    go_enter Try.func37, Try.ntmps37
    go_wp2_with fail
    refine HC.out.mono ?_
    rintro e w2 ⟨rfl, hb2⟩
    have HB2 := hid (HB.out.trans (hb2.mono (by simp)))
    clear hb2
    go_wp2_with fail
    go_ret
    exact ⟨rfl, HB2.out⟩
end Go.Proofs.Ytckfjkhjnpkobaa
