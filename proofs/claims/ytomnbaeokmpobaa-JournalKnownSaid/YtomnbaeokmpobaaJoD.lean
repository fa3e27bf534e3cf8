/- A journal in memory; the walks through New, Room, Count, and through what yields a record's pieces. -/
import Derived.Test.YtomnbaeokmpobaaJoC
import Derived.RangeFuncNested
import Derived.RangeFuncBound
import Derived.RangeFuncCalls
import Derived.RangeFuncLeaves
import Derived.Shelf.Abstract
import Derived.Shelf.RegionOpen
import Derived.OwnWalkIn
import Derived.TacticsInMore
import Derived.LoopNIn
import Derived.LoopIn
namespace Go.Proofs.Ytomnbaeokmpobaa
open Go.RowKit

attribute [local go_sem] Oper.semAt_some

/-- A journal: on the disk at dg, its epoch, the next sector, the room, the records. -/
structure Jn where
  dg : Nat
  e : Int
  nx : Int
  rm : Int
  ct : Int
def JAt (w : World) (g : Nat) (j : Jn) : Prop :=
  w.heap[g]? = some (.cells #[.pointer (some ⟨j.dg, 0, none⟩), .int .i64 j.e, .int .i64 j.nx, .int .i64 j.rm, .int .i64 j.ct] 63 (0, 0))
namespace JAt
variable {w w' : World} {g : Nat} {j : Jn}
theorem lt (h : JAt w g j) : g < w.heap.size := (Array.getElem?_eq_some_iff.1 h).1
theorem cells (h : JAt w g j) : w.cell? ⟨g, 0, none⟩ = some (.pointer (some ⟨j.dg, 0, none⟩)) ∧ w.cell? ⟨g, 1, none⟩ = some (.int .i64 j.e) ∧ w.cell? ⟨g, 2, none⟩ = some (.int .i64 j.nx) ∧ w.cell? ⟨g, 3, none⟩ = some (.int .i64 j.rm) ∧ w.cell? ⟨g, 4, none⟩ = some (.int .i64 j.ct) := by
  simp [World.cell?, show w.heap[g]? = _ from h]
theorem frozen (h : JAt w g j) (k : Nat) : w.frozen? ⟨g, k, none⟩ = false := by
  simp [World.frozen?, show w.heap[g]? = _ from h]
theorem keep {S : Nat → Prop} (h : JAt w g j) (ht : Turned S w w') (hs : ¬ S g) : JAt w' g j := (ht.block g h.lt hs).trans h
theorem below (h : JAt w g j) (hb : Below w.heap.size w w') : JAt w' g j := (hb.block g h.lt).trans h
theorem not_disk (h : JAt w g j) {Z : Nat → Prop} {d : Dk} {s : Sx.St} (hd : DiskAt w Z d s) : ¬ d.has g := by
  have h' : w.heap[g]? = _ := h
  rintro (rfl | rfl | rfl)
  · have h2 := hd.disk
    rw [h'] at h2
    have h3 := (Obj.cells.inj (Option.some.inj h2)).2.1
    revert h3; decide
  · obtain ⟨cur, h2, _⟩ := hd.row
    rw [h'] at h2
    have h3 := (Obj.cells.inj (Option.some.inj h2)).2.1
    revert h3; decide
  · obtain ⟨f, ⟨es, clock, h2, _⟩, _⟩ := hd.map
    rw [h'] at h2
    cases h2
end JAt
namespace J
set_option maxRecDepth 100000 in
theorem new_any (Z : Nat → Prop) (d : Dk) (s : Sx.St) (f n e : Int) (hf : InInt f) (hr : Jo.Right s.n f n e) (w : World) (h : DiskAt w Z d s) :
    Calls Try.prog 13 #[.pointer (some ⟨d.g, 0, none⟩), .int .i64 f, .int .i64 n, .int .i64 e] w fun e' w' => e' = .returned (.tuple #[.pointer (some ⟨w.heap.size, 0, none⟩), .int .i64 0]) ∧ JAt w' w.heap.size ⟨d.g, e, f, n, 0⟩ ∧ w'.heap.size = w.heap.size + 1 ∧ Below w.heap.size w w' := by
  have HV := hid (valid_any Z d s f n e hf w h)
  rw [decide_eq_true hr] at HV
  clear h hr
  go_enter Try.func13, Try.ntmps13
  go_wp2_with fail
  refine HV.out.mono ?_
  rintro e1 w1 ⟨rfl, rfl⟩
  go_wp2
  go_ret2
  exact ⟨rfl, heap_alloc_new _ _, World.size_alloc _ _, (Below.refl _ _).alloc (Nat.le_refl _) _⟩
set_option maxRecDepth 100000 in
theorem new_wrong (Z : Nat → Prop) (d : Dk) (s : Sx.St) (f n e : Int) (hf : InInt f) (hr : ¬ Jo.Right s.n f n e) (w : World) (h : DiskAt w Z d s) :
    Calls Try.prog 13 #[.pointer (some ⟨d.g, 0, none⟩), .int .i64 f, .int .i64 n, .int .i64 e] w fun e' w' => e' = .returned (.tuple #[.pointer none, .int .i64 3]) ∧ w' = w := by
  have HV := hid (valid_any Z d s f n e hf w h)
  rw [decide_eq_false hr] at HV
  clear h hr
  go_enter Try.func13, Try.ntmps13
  go_wp2_with fail
  refine HV.out.mono ?_
  rintro e1 w1 ⟨rfl, rfl⟩
  go_wp2
  go_ret2
  exact ⟨rfl, rfl⟩
theorem room_any (g : Nat) (j : Jn) (w : World) (h : JAt w g j) :
    Calls Try.prog 14 #[.pointer (some ⟨g, 0, none⟩)] w fun e w' => e = .returned (.int .i64 j.rm) ∧ w' = w := by
  obtain ⟨c0, c1, c2, c3, c4⟩ := h.cells
  go_enter Try.func14, Try.ntmps14
  go_wp2
  go_ret
  exact ⟨rfl, rfl⟩
theorem count_any (g : Nat) (j : Jn) (w : World) (h : JAt w g j) :
    Calls Try.prog 16 #[.pointer (some ⟨g, 0, none⟩)] w fun e w' => e = .returned (.int .i64 j.ct) ∧ w' = w := by
  obtain ⟨c0, c1, c2, c3, c4⟩ := h.cells
  go_enter Try.func16, Try.ntmps16
  go_wp2
  go_ret
  exact ⟨rfl, rfl⟩

/-! ### the pieces, one by one -/
/-- number i of the pieces of n bytes at A, of capacity c -/
def pieceAddr (A : Option Addr) (c i : Nat) : Option Addr :=
  match A with
  | none => none
  | some a => if 40 * i = c then (if i = 0 then some a else some (a.add (40 * (i - 1)))) else some (a.add (40 * i))
def pieceLen (n i : Nat) : Nat := min 40 (n - 40 * i)
end J
end Go.Proofs.Ytomnbaeokmpobaa
