/- What layer 11's closed statement asks of the chapter's log. -/
import Derived.Test.YthocdknfkmclkaaRlLaw
import Derived.Test.YthocdknfkmclkaaRlC
import Derived.Test.YthocdknfkmclkaaKitLog
namespace Go.Proofs.Ythocdknfkmclkaa
open Go.RowKit

/-- the chapter's log, wherever it lies -/
structure L3 (w : World) (A : Option Addr) (c : Nat) : Prop where
  es : IsEnts w w.heap.size A lg3.es
  room : 3 ≤ c ∧ c ≤ maxLen
  none_ : A = none → c = 0
theorem L3.below {w w' : World} {A : Option Addr} {c : Nat} (h : L3 w A c) (hb : Below w.heap.size w w') : L3 w' A c := ⟨(h.es.below hb).more hb.size, h.room, h.none_⟩
theorem lg3_len : lg3.es.length = 3 := by decide
theorem lg3_few : Rl.Few lg3.es := tms_few _
theorem L3.lg {w : World} {A : Option Addr} {c : Nat} (h : L3 w A c) : LgIs w w.heap.size lg3 A c := ⟨h.es, by rw [lg3_len]; exact h.room, h.none_, ⟨by show InInt (4 : Int); unfold InInt; omega, by show InInt (2 : Int); unfold InInt; omega⟩⟩
variable {w : World} {A : Option Addr} {c : Nat}
theorem k_last (h : L3 w A c) : Calls Try.prog 12 #[.agg #[.int .i64 4, .int .i64 2, .slice A 3 c]] w fun e w' => e = .returned (.tuple #[.int .i64 7, .int .i64 3]) ∧ Below w.heap.size w w' := by
  have h0 := last_any w.heap.size lg3 A c lg3_ok w h.lg (Nat.le_refl _)
  rw [lg3_len, show lg3.last = 7 from by decide, show lg3.lastT = 3 from by decide] at h0
  exact h0
theorem k_term (h : L3 w A c) (i : Int) : Calls Try.prog 14 #[.agg #[.int .i64 4, .int .i64 2, .slice A 3 c], .int .i64 i] w fun e w' => e = .returned (.tuple #[.int .i64 (lg3.termV i), .bool (lg3.has i)]) ∧ Below w.heap.size w w' := by
  have h0 := term_any w.heap.size lg3 A c i lg3_ok w h.lg (Nat.le_refl _)
  rw [lg3_len] at h0
  exact h0
theorem k_newer (h : L3 w A c) (i t : Int) (b : Bool) (hb : lg3.newer i t = b) : Calls Try.prog 17 #[.agg #[.int .i64 4, .int .i64 2, .slice A 3 c], .int .i64 i, .int .i64 t] w fun e w' => e = .returned (.bool b) ∧ Below w.heap.size w w' := by
  have h0 := newer_any w.heap.size lg3 A c i t lg3_ok w h.lg (Nat.le_refl _)
  rw [lg3_len, hb] at h0
  exact h0
theorem k_slice (h : L3 w A c) (i m : Int) (n : Nat) (hn : (lg3.slice i m).length = n) : Calls Try.prog 16 #[.agg #[.int .i64 4, .int .i64 2, .slice A 3 c], .int .i64 i, .int .i64 m] w fun e w' => ∃ A' c', e = .returned (.slice A' n c') ∧ IsEnts w' w'.heap.size A' (lg3.slice i m) ∧ Below w.heap.size w w' := by
  have h0 := slice_any w.heap.size lg3 A c i m lg3_ok lg3_few w h.lg (Nat.le_refl _)
  rw [lg3_len, hn] at h0
  exact h0.mono fun e w' ⟨A', c', h1, h2, h3⟩ => ⟨A', c', h1, h2.reads, h3⟩
theorem k_cut (h : L3 w A c) (i : Int) (b t : Int) (n : Nat) (f : Int) (hc : lg3.cut i = ⟨b, t, lg3.es.drop (3 - n)⟩ ∧ (lg3.cut i).es.length = n ∧ lg3.cutE i = f) : Calls Try.prog 27 #[.agg #[.int .i64 4, .int .i64 2, .slice A 3 c], .int .i64 i] w fun e w' => ∃ A' c', e = .returned (.tuple #[.agg #[.int .i64 b, .int .i64 t, .slice A' n c'], .int .i64 f]) ∧ OwnE w' w.heap.size w'.heap.size A' c' (lg3.es.drop (3 - n)) ∧ Below w.heap.size w w' := by
  have h0 := cut_any w.heap.size lg3 A c i lg3_ok lg3_few w h.lg (Nat.le_refl _)
  rw [lg3_len, hc.2.1, hc.2.2, hc.1] at h0
  exact h0
theorem k_app (h : L3 w A c) (i : Int) (l : List Int) (k n : Nat) (ix : Int) (A5 : Option Addr) (c5 : Nat) (hk : l.length = k) (hk2 : k ≤ 1000) (hn : (lg3.appE i (tms l)).length = n ∧ lg3.appI i (tms l) = ix) (hE : IsEnts w w.heap.size A5 (tms l)) (hc : k ≤ c5 ∧ c5 ≤ maxLen) :
    Calls Try.prog 25 #[.agg #[.int .i64 4, .int .i64 2, .slice A 3 c], .int .i64 i, .slice A5 k c5] w fun e w' => ∃ A6 c6, e = .returned (.tuple #[.agg #[.int .i64 4, .int .i64 2, .slice A6 n c6], .int .i64 ix]) ∧ OwnE w' w.heap.size w'.heap.size A6 c6 (lg3.appE i (tms l)) ∧ Below w.heap.size w w' := by
  have h0 := app_any w.heap.size lg3 A A5 c c5 i k (tms l) (by rw [tms_len]; exact hk) (by omega) lg3_ok lg3_few (tms_few _) w h.lg hE hc (Nat.le_refl _)
  rw [lg3_len, hn.1, hn.2] at h0
  exact h0
theorem k_terms (w' : World) (l : List Int) (hs : ∀ x ∈ l, 0 ≤ x ∧ x < 100) (k : Nat) (hk : l.length = k) (hk2 : k ≤ 1000) (N : Nat) (h : w'.heap[N]? = some (.cells (ints l).toArray 3 (0, 0))) :
    Calls Try.prog 29 #[.slice (some ⟨N, 0, none⟩) k k] w' fun e w'' => ∃ A' c', e = .returned (.slice A' k c') ∧ IsEnts w'' w''.heap.size A' (tms l) ∧ (k ≤ c' ∧ c' ≤ maxLen) ∧ Below w'.heap.size w' w'' :=
  (terms_any w'.heap.size _ k k l hk hk2 w' (isInts_heap w' N l (fun x hx => by have := hs x hx; unfold InInt; omega) 3 h) (Nat.le_refl _)).mono fun e w'' ⟨A', c', h1, h2, h3⟩ => ⟨A', c', h1, h2.reads, by have := h2.room; rw [tms_len, hk] at this; exact this, h3⟩
/-- a box that holds a slice of so many -/
def Holds (w : World) (b n : Nat) : Prop := b < w.heap.size ∧ ∃ A c, w.cell? ⟨b, 2, none⟩ = some (.slice A n c)
theorem Holds.below {w w' : World} {b n : Nat} (h : Holds w b n) (hb : Below w.heap.size w w') : Holds w' b n := by
  obtain ⟨h1, A, c, h2⟩ := h
  exact ⟨Nat.lt_of_lt_of_le h1 hb.size, A, c, (hb.cell (p := ⟨b, 2, none⟩) h1).trans h2⟩
theorem Leaf.holds {w W : World} {b n c : Nat} {u0 u1 : Value} {A : Option Addr} {L : List Rl.En} (h : Leaf w W b u0 u1 A n c L) : Holds W b n ∧ Below w.heap.size w W := ⟨⟨h.2.2.2, A, c, h.1.2.2⟩, h.2.2.1⟩
theorem bel1 {w w5 : World} {o : Obj} (h : Below (w.alloc o).heap.size (w.alloc o) w5) : Below w.heap.size w w5 := ((Below.refl _ w).alloc (Nat.le_refl _) o).trans (h.mono (by simp))
theorem bel2 {w w5 : World} {o o' : Obj} (h : Below ((w.alloc o).alloc o').heap.size ((w.alloc o).alloc o') w5) : Below w.heap.size w w5 := (((Below.refl _ w).alloc (Nat.le_refl _) o).alloc (by simp) o').trans (h.mono (by simp; omega))
end Go.Proofs.Ythocdknfkmclkaa
