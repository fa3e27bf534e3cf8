/- The walk through layer 4's example. -/
import Derived.Test.YtbfbnpbonoapnaaLawC
namespace Go.Proofs.Ytbfbnpbonoapnaa
open Go.RowKit

/-- A disk that the call has made since the world w0. -/
structure DS (w0 w : World) (d : Dk) (s : Sx.St) : Prop where
  at_ : DiskAt w (fun k => k < w0.heap.size) d s
  bel : Below w0.heap.size w0 w
namespace DS
variable {w0 w w' : World} {d : Dk} {s s' : Sx.St}
theorem ge (h : DS w0 w d s) : ∀ k, d.has k → w0.heap.size ≤ k := fun k hk => by
  have := h.at_.off k hk
  simp at this
  exact this
theorem below (h : DS w0 w d s) (hb : Below w.heap.size w w') : DS w0 w' d s := ⟨h.at_.below hb, h.bel.trans (hb.mono h.bel.size)⟩
theorem next (h : DS w0 w d s) (hd : DiskAt w' (fun k => k < w0.heap.size) d s') (ht : Turned d.has w w') : DS w0 w' d s' := ⟨hd, h.bel.trans (ht.below h.bel.size h.ge)⟩
theorem drewN (h : DS w0 w d s) (n : Nat) : DS w0 (w.drewN n) d s := h.below (below_drewN (Below.refl _ _) n)
end DS
theorem isBytes_turned {w w' : World} {d : Dk} {B : Nat} {A : Option Addr} {l : List Nat} (h : IsBytes w w.heap.size A l) (hd : ∀ k, d.has k → k < B) (hB : ∀ a, A = some a → B ≤ a.block) (ht : Turned d.has w w') : IsBytes w' w'.heap.size A l := by
  refine ⟨h.small, fun k hk => ?_⟩
  obtain ⟨b, off, e, hb, hc⟩ := h.cells k hk
  refine ⟨b, off, e, Nat.lt_of_lt_of_le hb ht.size, fun i hi => ?_⟩
  rw [ht.cell hb (fun e' => by have h1 : b < B := hd _ e'; have h2 : B ≤ b := hB _ e; omega)]
  exact hc i hi
theorem isInts_turned {w w' : World} {d : Dk} {B : Nat} {A : Option Addr} {l : List Int} (h : IsInts w w.heap.size A l) (hd : ∀ k, d.has k → k < B) (hB : ∀ a, A = some a → B ≤ a.block) (ht : Turned d.has w w') : IsInts w' w'.heap.size A l := by
  refine ⟨h.small, fun k hk => ?_⟩
  obtain ⟨b, off, e, hb, hc⟩ := h.cells k hk
  refine ⟨b, off, e, Nat.lt_of_lt_of_le hb ht.size, fun i hi => ?_⟩
  rw [ht.cell hb (fun e' => by have h1 : b < B := hd _ e'; have h2 : B ≤ b := hB _ e; omega)]
  exact hc i hi
/-- Write of bytes that the text spells out -/
theorem write_lit (w0 : World) (d : Dk) (s : Sx.St) (i : Int) (l : List Nat) (n : Nat) (hn : l.length = n) (cs : Array Value) (hcs : cs = (bytes l).toArray) (hl : ∀ x ∈ l, x < 256) (w : World) (h : DS w0 w d s) :
    Calls Try.prog 29 #[.pointer (some ⟨d.g, 0, none⟩), .int .i64 i, .slice (some ⟨w.heap.size, 0, none⟩) n n] (w.alloc (.cells cs 5)) fun e w' => e = .returned (.int .i64 (Sx.wrE s i l)) ∧ DS w0 w' d (Sx.wrS s i l) := by
  subst hcs
  have h1 := h.below (below_one w (.cells (bytes l).toArray 5))
  have hb : IsBytes (w.alloc (.cells (bytes l).toArray 5)) (w.alloc (.cells (bytes l).toArray 5)).heap.size (some ⟨w.heap.size, 0, none⟩) l := by
    rw [World.size_alloc]; exact isBytes_new w l hl _ _
  refine (write_any _ d s i _ n l n hn (fun h => by cases h) _ (fun k hk => by have := h1.bel.size; omega) h1.at_ (fun w' ht => isBytes_turned (B := w.heap.size) hb h.at_.lt (fun a e => by injection e with e; subst e; exact Nat.le_refl _) ht)).mono ?_
  rintro e w' ⟨he, hd, ht⟩
  exact ⟨he, h1.next hd ht⟩
theorem crash_lit (w0 : World) (d : Dk) (s : Sx.St) (l : List Int) (n : Nat) (hn : l.length = n) (cs : Array Value) (hcs : cs = (ints l).toArray) (hl : ∀ x ∈ l, InInt x) (w : World) (h : DS w0 w d s) :
    Calls Try.prog 22 #[.pointer (some ⟨d.g, 0, none⟩), .slice (some ⟨w.heap.size, 0, none⟩) n n] (w.alloc (.cells cs 3)) fun e w' => e = .returned (.tuple #[]) ∧ DS w0 w' d (Sx.crash s l) := by
  subst hcs
  have h1 := h.below (below_one w (.cells (ints l).toArray 3))
  have hb : IsInts (w.alloc (.cells (ints l).toArray 3)) (w.alloc (.cells (ints l).toArray 3)).heap.size (some ⟨w.heap.size, 0, none⟩) l := by
    rw [World.size_alloc]; exact isInts_new w l hl _ _
  refine (crash_any _ d s _ n l n hn _ h1.at_ (fun w' ht => isInts_turned (B := w.heap.size) hb h.at_.lt (fun a e => by injection e with e; subst e; exact Nat.le_refl _) ht)).mono ?_
  rintro e w' ⟨he, hd, ht⟩
  exact ⟨he, h1.next hd ht⟩
theorem flush_ds (w0 : World) (d : Dk) (s : Sx.St) (w : World) (h : DS w0 w d s) :
    Calls Try.prog 18 #[.pointer (some ⟨d.g, 0, none⟩)] w fun e w' => e = .returned (.int .i64 (Sx.spE s)) ∧ DS w0 w' d (Sx.flS s) :=
  (flush_any _ d s w h.at_).mono fun _ _ ⟨he, hd, ht⟩ => ⟨he, h.next hd ht⟩
namespace Sx
def x1 : St := wrS (new 4) 1 [7]
def x2 : St := flS x1
def x3 : St := wrS x2 1 [8]
def x4 : St := wrS x3 2 [9]
def x5 : St := crash x4 [2, 1]
theorem e1 : wrE (new 4) 1 [7] = 0 := by decide
theorem e2 : spE x1 = 0 := by decide
theorem e3 : wrE x2 1 [8] = 0 := by decide
theorem e4 : wrE x3 2 [9] = 0 := by decide
theorem e5 : rdE x5 1 = 9 := by decide
theorem e6 : rdE x5 2 = 0 := by decide
theorem e7 : rdB x5 2 = [9] := by decide
theorem e7' : rdB x5 1 = [] := by decide
theorem e8 : dirty x5 = [] := by decide
end Sx
theorem wr1 (w0 : World) (d : Dk) (w : World) (h : DS w0 w d (Sx.new 4)) :
    Calls Try.prog 29 #[.pointer (some ⟨d.g, 0, none⟩), .int .i64 1, .slice (some ⟨w.heap.size, 0, none⟩) 1 1] (w.alloc (.cells #[.int .u8 7] 5)) fun e w' => e = .returned (.int .i64 0) ∧ DS w0 w' d Sx.x1 := by
  have := write_lit w0 d _ 1 [7] 1 rfl #[.int .u8 7] rfl (by decide) w h
  rw [Sx.e1] at this
  exact this
theorem wr2 (w0 : World) (d : Dk) (w : World) (h : DS w0 w d Sx.x2) :
    Calls Try.prog 29 #[.pointer (some ⟨d.g, 0, none⟩), .int .i64 1, .slice (some ⟨w.heap.size, 0, none⟩) 1 1] (w.alloc (.cells #[.int .u8 8] 5)) fun e w' => e = .returned (.int .i64 0) ∧ DS w0 w' d Sx.x3 := by
  have := write_lit w0 d _ 1 [8] 1 rfl #[.int .u8 8] rfl (by decide) w h
  rw [Sx.e3] at this
  exact this
theorem wr3 (w0 : World) (d : Dk) (w : World) (h : DS w0 w d Sx.x3) :
    Calls Try.prog 29 #[.pointer (some ⟨d.g, 0, none⟩), .int .i64 2, .slice (some ⟨w.heap.size, 0, none⟩) 1 1] (w.alloc (.cells #[.int .u8 9] 5)) fun e w' => e = .returned (.int .i64 0) ∧ DS w0 w' d Sx.x4 := by
  have := write_lit w0 d _ 2 [9] 1 rfl #[.int .u8 9] rfl (by decide) w h
  rw [Sx.e4] at this
  exact this
theorem fl1 (w0 : World) (d : Dk) (w : World) (h : DS w0 w d Sx.x1) :
    Calls Try.prog 18 #[.pointer (some ⟨d.g, 0, none⟩)] w fun e w' => e = .returned (.int .i64 0) ∧ DS w0 w' d Sx.x2 := by
  have := flush_ds w0 d _ w h
  rw [Sx.e2] at this
  exact this
theorem cr1 (w0 : World) (d : Dk) (w : World) (h : DS w0 w d Sx.x4) :
    Calls Try.prog 22 #[.pointer (some ⟨d.g, 0, none⟩), .slice (some ⟨w.heap.size, 0, none⟩) 2 2] (w.alloc (.cells #[.int .i64 2, .int .i64 1] 3)) fun e w' => e = .returned (.tuple #[]) ∧ DS w0 w' d Sx.x5 :=
  crash_lit w0 d _ [2, 1] 2 rfl #[.int .i64 2, .int .i64 1] rfl (by intro x hx; unfold InInt; simp at hx; omega) w h
theorem rd1 (w0 : World) (d : Dk) (w : World) (h : DS w0 w d Sx.x5) :
    Calls Try.prog 30 #[.pointer (some ⟨d.g, 0, none⟩), .int .i64 1] w fun e w' => ∃ A c, e = .returned (.tuple #[.slice A 0 c, .int .i64 9]) ∧ DS w0 w' d Sx.x5 := by
  have := read_any _ d _ 1 w h.at_
  rw [Sx.e5, Sx.e7'] at this
  exact this.mono fun _ _ ⟨A, c, he, _, hb⟩ => ⟨A, c, he, h.below hb⟩
theorem rd2 (w0 : World) (d : Dk) (w : World) (h : DS w0 w d Sx.x5) :
    Calls Try.prog 30 #[.pointer (some ⟨d.g, 0, none⟩), .int .i64 2] w fun e w' => ∃ A c, e = .returned (.tuple #[.slice A 1 c, .int .i64 0]) ∧ DS w0 w' d Sx.x5 ∧ IsBytes w' w'.heap.size A [9] := by
  have := read_any _ d _ 2 w h.at_
  rw [Sx.e6, Sx.e7] at this
  exact this.mono fun _ _ ⟨A, c, he, ho, hb⟩ => ⟨A, c, he, h.below hb, ho.reads⟩
theorem dy1 (w0 : World) (d : Dk) (w : World) (h : DS w0 w d Sx.x5) :
    Calls Try.prog 21 #[.pointer (some ⟨d.g, 0, none⟩)] w fun e w' => ∃ A c, e = .returned (.slice A 0 c) ∧ DS w0 w' d Sx.x5 := by
  have := dirty_any _ d _ w h.at_
  rw [Sx.e8] at this
  exact this.mono fun _ _ ⟨A, c, he, _, hb⟩ => ⟨A, c, he, h.below hb⟩
theorem sm1 (w : World) (A : Option Addr) (c : Nat) (h : IsBytes w w.heap.size A [9]) :
    Calls Try.prog 26 #[.slice A 1 c, .slice (some ⟨w.heap.size, 0, none⟩) 1 1] (w.alloc (.cells #[.int .u8 9] 5)) fun e w' => e = .returned (.bool true) ∧ ∃ j, w' = (w.alloc (.cells #[.int .u8 9] 5)).drewN j :=
  same_T w.heap.size (w.heap.size + 1) A _ c 1 [9] 1 rfl (by unfold maxLen; omega) _ (h.below (below_one w _)) (isBytes_new w [9] (by decide) _ _)

set_option maxRecDepth 100000 in
theorem works_any (w : World) :
    Calls Try.prog 9 #[] w fun e w' => e = .returned (.bool true) ∧ Below w.heap.size w w' := by
  have HN := hid (new_any 4 (by omega) w)
  go_enter Try.func9, Try.ntmps9
  go_wp2_with fail
  refine HN.out.mono ?_
  rintro e w1 ⟨d, rfl, hD, hb⟩
  have H1 : Hid (DS w w1 d (Sx.new 4)) := hid ⟨hD, hb⟩
  clear hD hb HN
  go_wp2_with fail
  refine (wr1 w d w1 H1.out).mono ?_
  rintro e w2 ⟨rfl, H2⟩
  have H2 := hid H2
  clear H1
  go_wp2_with fail
  refine (fl1 w d w2 H2.out).mono ?_
  rintro e w3 ⟨rfl, H3⟩
  have H3 := hid H3
  clear H2
  go_wp2_with fail
  refine (wr2 w d w3 H3.out).mono ?_
  rintro e w4 ⟨rfl, H4⟩
  have H4 := hid H4
  clear H3
  go_wp2_with fail
  refine (wr3 w d w4 H4.out).mono ?_
  rintro e w5 ⟨rfl, H5⟩
  have H5 := hid H5
  clear H4
  go_wp2_with fail
  refine (cr1 w d w5 H5.out).mono ?_
  rintro e w6 ⟨rfl, H6⟩
  have H6 := hid H6
  clear H5
  go_wp2_with fail
  refine (rd1 w d w6 H6.out).mono ?_
  rintro e w7 ⟨A7, c7, rfl, H7⟩
  have H7 := hid H7
  clear H6
  go_wp2_with fail
  refine (rd2 w d w7 H7.out).mono ?_
  rintro e w8 ⟨A8, c8, rfl, H8⟩
  have H8 := hid H8
  clear H7
  go_wp2_with fail
  refine (sm1 w8 A8 c8 H8.out.2).mono ?_
  rintro e w9 ⟨rfl, n9, rfl⟩
  go_wp2_with fail
  refine (dy1 w d _ ((H8.out.1.below (below_one _ _)).drewN n9)).mono ?_
  rintro e w10 ⟨A10, c10, rfl, H10⟩
  have H10 := hid H10
  go_wp2_with fail
  go_ret
  exact ⟨rfl, H10.out.bel⟩
end Go.Proofs.Ytbfbnpbonoapnaa
