/- The walks through the document's answer for the reader of package pack. -/
import Derived.Test.YtdmghnfnmgkigaaReader2
import Derived.Test.YtdmghnfnmgkigaaKitN
import Derived.Test.YtdmghnfnmgkigaaRegion
namespace Go.Proofs.Ytdmghnfnmgkigaa
open Go.RowKit

/-- what is left of bytes, read up to a place -/
def leftOf (B : List Nat) (at' : Nat) (bad : Bool) : List Nat := if bad = true then [] else B.drop at'
/-- the document's reader at block g: its bytes lie behind it, ahead of top -/
structure RefR (w : World) (g top : Nat) (B : List Nat) (at' : Nat) (bad : Bool) : Prop where
  at_ : ∃ A c, w.heap[g]? = some (.cells #[.slice A B.length c, .int .i64 (at' : Int), .bool bad] 41 (0, 0)) ∧ OwnsB 5 w (g + 1) A c B ∧ (∀ k, blk A = some k → k < top)
  le : at' ≤ B.length
  short : B.length ≤ 16384
  top_ : g < top ∧ top ≤ w.heap.size

namespace RefR
variable {w w' : World} {g top : Nat} {B : List Nat} {at' : Nat} {bad : Bool}
theorem other {row : Option Nat} (h : RefR w g top B at' bad) (hG : w.grownBy w' row) (hr : ∀ k, row = some k → k < g ∨ top ≤ k) : RefR w' g top B at' bad := by
  obtain ⟨A, c, h1, h2, h3⟩ := h.at_
  refine ⟨⟨A, c, ?_, ⟨h2.small, h2.row.kept hG ?_⟩, h3⟩, h.le, h.short, h.top_.1, Nat.le_trans h.top_.2 hG.size⟩
  · rw [hG.block g (by have := h.top_; omega) (fun e => by have := hr g e.symm; have := h.top_; omega)]
    exact h1
  · rw [ownBlock_slice]
    rcases hb : blk A with _ | k
    · exact .inl rfl
    · refine .inr (fun e => ?_)
      have h4 := hr k e.symm
      have h5 := h3 k hb
      have h6 := h2.blkLt k hb
      omega
theorem below (h : RefR w g top B at' bad) (hb : Below w.heap.size w w') : RefR w' g top B at' bad := h.other (grown_below hb none) (fun k e => by cases e)
theorem belowB {b0 : Nat} (h : RefR w g top B at' bad) (hb : Below b0 w w') (h0 : top ≤ b0) : RefR w' g top B at' bad := by
  obtain ⟨A, c, h1, h2, h3⟩ := h.at_
  refine ⟨⟨A, c, (hb.block g (by have := h.top_; omega)).trans h1, ⟨h2.small, h2.row.1, ?_⟩, h3⟩, h.le, h.short, h.top_.1, Nat.le_trans h.top_.2 hb.size⟩
  rcases h2.row.2 with hn | ⟨g', cap, cur, hv, hb', hh, rest⟩
  · exact .inl hn
  · refine .inr ⟨g', cap, cur, hv, hb', (hb.block g' ?_).trans hh, rest⟩
    have : blk A = some g' := by
      injection hv with hv
      rw [hv]; rfl
    have := h3 g' this
    omega
theorem drewN (h : RefR w g top B at' bad) (n : Nat) : RefR (w.drewN n) g top B at' bad := h.below (below_drewN (Below.refl _ _) n)
theorem cells (h : RefR w g top B at' bad) : ∃ A c, w.cell? ⟨g, 0, none⟩ = some (.slice A B.length c) ∧ w.cell? ⟨g, 1, none⟩ = some (.int .i64 (at' : Int)) ∧ w.cell? ⟨g, 2, none⟩ = some (.bool bad) ∧ IsBytes w top A B ∧ B.length ≤ c := by
  obtain ⟨A, c, h1, h2, h3⟩ := h.at_
  exact ⟨A, c, row_cell h1 0, row_cell h1 1, row_cell h1 2, h2.readsB h3, h2.cap⟩
theorem free (h : RefR w g top B at' bad) (i : Nat) : w.frozen? ⟨g, i, none⟩ = false := by
  obtain ⟨A, c, h1, h2, h3⟩ := h.at_
  exact row_free h1 i
theorem setBad (h : RefR w g top B at' bad) (b : Bool) : RefR (w.setCell ⟨g, 2, none⟩ (.bool b)) g top B at' b ∧ w.grownBy (w.setCell ⟨g, 2, none⟩ (.bool b)) (some g) := by
  obtain ⟨A, c, h1, h2, h3⟩ := h.at_
  have hG := grown_setCell w g 2 (.bool b)
  exact ⟨⟨⟨A, c, row_set h1 2 _, h2.grown hG (fun k hk => by injection hk with hk; omega), h3⟩, h.le, h.short, h.top_.1, Nat.le_trans h.top_.2 hG.size⟩, hG⟩
theorem setAt (h : RefR w g top B at' bad) (a2 : Nat) (ha : a2 ≤ B.length) : RefR (w.setCell ⟨g, 1, none⟩ (.int .i64 (a2 : Int))) g top B a2 bad ∧ w.grownBy (w.setCell ⟨g, 1, none⟩ (.int .i64 (a2 : Int))) (some g) := by
  obtain ⟨A, c, h1, h2, h3⟩ := h.at_
  have hG := grown_setCell w g 1 (.int .i64 (a2 : Int))
  exact ⟨⟨⟨A, c, row_set h1 1 _, h2.grown hG (fun k hk => by injection hk with hk; omega), h3⟩, ha, h.short, h.top_.1, Nat.le_trans h.top_.2 hG.size⟩, hG⟩
end RefR

set_option maxHeartbeats 400000 in
theorem refLeft_any (g top : Nat) (B : List Nat) (at' : Nat) (bad : Bool) (w : World) (h : RefR w g top B at' bad) :
    Calls Try.prog 26 #[.pointer (some ⟨g, 0, none⟩)] w fun e w' => e = .returned (.int .i64 ((leftOf B at' bad).length : Nat)) ∧ ∃ n, w' = w.drewN n := by
  obtain ⟨A, c, hc0, hc1, hc2, _, hc⟩ := h.cells
  have hle := h.le
  have hsh := h.short
  clear h
  cases bad
  · go_enter Try.func26, Try.ntmps26
    go_wp2
    go_quiet (fail)
    go_wp2
    go_ret
    exact ⟨ret_int (by simp [leftOf]; omega), _, rfl⟩
  · go_enter Try.func26, Try.ntmps26
    go_wp2
    go_ret
    exact ⟨ret_int (by simp [leftOf]), 0, rfl⟩

set_option maxHeartbeats 400000 in
theorem refEnd_any (g top : Nat) (B : List Nat) (at' : Nat) (bad : Bool) (w : World) (h : RefR w g top B at' bad) :
    Calls Try.prog 29 #[.pointer (some ⟨g, 0, none⟩)] w fun e w' => e = .returned (.int .i64 (endOf ⟨leftOf B at' bad, bad⟩)) ∧ ∃ n, w' = w.drewN n := by
  obtain ⟨A, c, hc0, hc1, hc2, _, hc⟩ := h.cells
  have HL := hid (refLeft_any g top B at' bad w h)
  clear h
  cases bad
  · by_cases hl : 0 < (leftOf B at' false).length
    · have HE := hid hl
      go_enter Try.func29, Try.ntmps29
      go_wp2_with fail
      refine HL.out.mono ?_
      rintro e w1 ⟨rfl, n, rfl⟩
      go_wp2_with fail
      go_ret
      exact ⟨ret_int (by simp [endOf, HE.out]), n, rfl⟩
    · have hl' : (leftOf B at' false).length = 0 := by omega
      have HE := hid hl'
      clear hl'
      go_enter Try.func29, Try.ntmps29
      go_wp2_with fail
      refine HL.out.mono ?_
      rintro e w1 ⟨rfl, n, rfl⟩
      go_wp2_with fail
      go_ret
      exact ⟨ret_int (by simp [endOf, HE.out]), n, rfl⟩
  · go_enter Try.func29, Try.ntmps29
    go_wp2_with fail
    go_ret
    exact ⟨ret_int (by simp [endOf]), 0, rfl⟩
end Go.Proofs.Ytdmghnfnmgkigaa
