/- The walk through Append: what is refused; all of it. -/
import Derived.Test.YtomnbaeokmpobaaJoG
namespace Go.Proofs.Ytomnbaeokmpobaa
open Go.RowKit

namespace J
theorem res_at (tmps : Array Value) (w : World) (b : Nat) (E : Int) (ht : tmps[4]?.getD undef = .pointer (some ⟨b, 0, none⟩)) (h : w.heap[b]? = some (.cells #[.int .i64 E] 24 (0, 0))) : (results Try.f15 tmps).run Try.prog w = .ok (.int .i64 E) w :=
  res_cell tmps w b E ht (by simp [World.cell?, h])
set_option maxRecDepth 100000 in
theorem append_long (g : Nat) (A : Option Addr) (c n : Nat) (hlong : 32768 < n) (w : World) :
    Calls Try.prog 15 #[.pointer (some ⟨g, 0, none⟩), .slice A n c] w fun e' w' => Hid (e' = .returned (.int .i64 2) ∧ Below w.heap.size w w') := by
  have hgt : (32768 : Int) < n := by omega
  go_enter Try.func15, Try.ntmps15
  go_wp2_with fail
  have hc : ((w.alloc (.cells #[.pointer (some ⟨g, 0, none⟩)] 40)).alloc (.cells #[.int .i64 2] 24)).heap[w.heap.size + 1]? = some (.cells #[.int .i64 2] 24 (0, 0)) := by
    have := heap_alloc_new (w.alloc (.cells #[.pointer (some ⟨g, 0, none⟩)] 40)) (.cells #[.int .i64 2] 24)
    rw [World.size_alloc] at this
    exact this
  refine bodyPost_ret (res_at _ _ _ _ rfl hc) rfl ?_
  exact ⟨rfl, ((Below.refl _ _).alloc (Nat.le_refl _) _).alloc (by simp) _⟩
set_option maxRecDepth 100000 in
theorem append_full (g : Nat) (j : Jn) (A : Option Addr) (c n : Nat) (hlong : n ≤ 32768) (w : World) (hJ : JAt w g j) (hroom : j.rm < (Jo.secs n : Nat)) :
    Calls Try.prog 15 #[.pointer (some ⟨g, 0, none⟩), .slice A n c] w fun e' w' => Hid (e' = .returned (.int .i64 8) ∧ Below w.heap.size w w') := by
  obtain ⟨c0, c1, c2, c3, c4⟩ := hJ.cells
  have HS : Hid (∀ w' : World, Calls Try.prog 26 #[.int .i64 (n : Int)] w' fun e w2 => e = .returned (.int .i64 (Jo.secs n : Nat)) ∧ ∃ j, w2 = w'.drewN j) := hid (fun w' => (sectors_any n (by omega) w').mono fun _ _ ⟨h1, h2⟩ => ⟨h1, 0, h2⟩)
  have hgt : ¬ (32768 : Int) < n := by omega
  have hlt := hJ.lt
  have HJ := hid hJ
  clear hJ c0 c1 c2 c4
  go_enter Try.func15, Try.ntmps15
  go_wp2_with fail
  obtain ⟨w2, hw2⟩ : ∃ w2, w2 = (w.alloc (.cells #[.pointer (some ⟨g, 0, none⟩)] 40)).alloc (.cells #[.int .i64 0] 24) := ⟨_, rfl⟩
  rw [← hw2]
  have hs2 : w2.heap.size = w.heap.size + 1 + 1 := by rw [hw2]; simp
  have hb2 : Below w.heap.size w w2 := by rw [hw2]; exact ((Below.refl _ w).alloc (Nat.le_refl _) _).alloc (by simp) _
  have hj2 : w2.heap[w.heap.size]? = some (.cells #[.pointer (some ⟨g, 0, none⟩)] 40 (0, 0)) := by rw [hw2]; exact (Below.heap_alloc _ _ _ (by simp)).trans (heap_alloc_new w _)
  have hr2 : w2.heap[w.heap.size + 1]? = some (.cells #[.int .i64 0] 24 (0, 0)) := by
    have := heap_alloc_new (w.alloc (.cells #[.pointer (some ⟨g, 0, none⟩)] 40)) (.cells #[.int .i64 0] 24)
    rw [World.size_alloc] at this
    rw [hw2]; exact this
  have k3 : w2.cell? ⟨g, 3, none⟩ = some (.int .i64 j.rm) := (hb2.cell (p := ⟨g, 3, none⟩) hlt).trans c3
  have kj : w2.cell? ⟨w.heap.size, 0, none⟩ = some (.pointer (some ⟨g, 0, none⟩)) := by simp [World.cell?, hj2]
  have kr : w2.cell? ⟨w.heap.size + 1, 0, none⟩ = some (.int .i64 0) := by simp [World.cell?, hr2]
  have kf : w2.frozen? ⟨w.heap.size + 1, 0, none⟩ = false := by simp [World.frozen?, hr2]
  have H2 := hid (And.intro hb2 hr2)
  clear hw2 hs2 hb2 hj2 hr2 c3
  go_quiet ((go_at_call 26; exact Calls.quiet_of (HS.out _)))
  go_wp2_with fail
  have hc : ((w2.setCell ⟨w.heap.size + 1, 0, none⟩ (.int .i64 8)).drewN nq).heap[w.heap.size + 1]? = some (.cells #[.int .i64 8] 24 (0, 0)) := by
    have := H2.out.2
    simp [World.drewN, World.setCell, Array.getElem?_modify, this]
  refine bodyPost_ret (res_at _ _ _ _ rfl hc) rfl ?_
  exact ⟨rfl, below_drewN (H2.out.1.setCell (by show w.heap.size ≤ w.heap.size + 1; omega) _) nq⟩
end J
end Go.Proofs.Ytomnbaeokmpobaa
