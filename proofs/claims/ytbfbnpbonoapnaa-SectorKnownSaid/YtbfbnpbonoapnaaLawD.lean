/- A disk that a statement has made: what its calls make of it; facts about flushes and crashes. -/
import Derived.Test.YtbfbnpbonoapnaaWorks04
namespace Go.Proofs.Ytbfbnpbonoapnaa
open Go.RowKit

theorem run_ds (w0 : World) (d : Dk) (s : Sx.St) (t : Sx.Op) (ap al : Option Addr) (cp cl : Nat) (w : World) (h : DS w0 w d s) (hp : IsBytes w w0.heap.size ap t.data) (hl : IsInts w w0.heap.size al t.lst) (hcp : ap = none → cp = 0) (hi : InInt t.i) :
    Calls Try.prog 16 #[.pointer (some ⟨d.g, 0, none⟩), .agg #[.int .i64 t.kind, .int .i64 t.i, .int .i64 t.look, .slice ap t.data.length cp, .slice al t.lst.length cl]] w fun e w' =>
      e = .returned (.int .i64 (Sx.runE s t)) ∧ DS w0 w' d (Sx.runS s t) ∧ Turned d.has w w' := by
  refine (run_any _ d s t ap al cp cl hcp hi w (fun k hk => by have := h.bel.size; omega) h.at_ (fun w' ht => ?_) (fun w' ht => ?_)).mono ?_
  · have hb := ht.below h.bel.size h.ge
    exact (hp.below hb).more (Nat.le_trans h.bel.size hb.size)
  · have hb := ht.below h.bel.size h.ge
    exact (hl.below hb).more (Nat.le_trans h.bel.size hb.size)
  · rintro e w' ⟨he, hd, ht⟩
    exact ⟨he, h.next hd ht, ht⟩
theorem shown_ds (w0 : World) (d : Dk) (s : Sx.St) (w : World) (h : DS w0 w d s) :
    Calls Try.prog 17 #[.pointer (some ⟨d.g, 0, none⟩)] w fun e w' => ∃ A c, e = .returned (.slice A (min s.n 64) c) ∧ RowsAt w' (fun k => k < w.heap.size) (.slice A (min s.n 64) c) (Sx.shows s) ∧ DS w0 w' d s ∧ Below w.heap.size w w' :=
  (shown_any _ d s w h.at_).mono fun _ _ ⟨A, c, he, hr, hb⟩ => ⟨A, c, he, hr, h.below hb, hb⟩
theorem flush_dsT (w0 : World) (d : Dk) (s : Sx.St) (w : World) (h : DS w0 w d s) :
    Calls Try.prog 18 #[.pointer (some ⟨d.g, 0, none⟩)] w fun e w' => e = .returned (.int .i64 (Sx.spE s)) ∧ DS w0 w' d (Sx.flS s) ∧ Turned d.has w w' :=
  (flush_any _ d s w h.at_).mono fun _ _ ⟨he, hd, ht⟩ => ⟨he, h.next hd ht, ht⟩
theorem arm_dsT (w0 : World) (d : Dk) (s : Sx.St) (n : Int) (hn : InInt n) (w : World) (h : DS w0 w d s) :
    Calls Try.prog 27 #[.pointer (some ⟨d.g, 0, none⟩), .int .i64 n] w fun e w' => e = .returned (.tuple #[]) ∧ DS w0 w' d (Sx.arm s n) ∧ Turned d.has w w' :=
  (arm_any _ d s n hn w h.at_).mono fun _ _ ⟨he, hd, ht⟩ => ⟨he, h.next hd ht, ht⟩
theorem crash_dsT (w0 : World) (d : Dk) (s : Sx.St) (A : Option Addr) (c : Nat) (l : List Int) (n : Nat) (hn : l.length = n) (w : World) (h : DS w0 w d s) (hl : IsInts w w0.heap.size A l) :
    Calls Try.prog 22 #[.pointer (some ⟨d.g, 0, none⟩), .slice A n c] w fun e w' => e = .returned (.tuple #[]) ∧ DS w0 w' d (Sx.crash s l) ∧ Turned d.has w w' := by
  refine (crash_any _ d s A c l n hn w h.at_ (fun w' ht => ?_)).mono fun _ _ ⟨he, hd, ht⟩ => ⟨he, h.next hd ht, ht⟩
  have hb := ht.below h.bel.size h.ge
  exact (hl.below hb).more (Nat.le_trans h.bel.size hb.size)
theorem dirty_ds (w0 : World) (d : Dk) (s : Sx.St) (w : World) (h : DS w0 w d s) :
    Calls Try.prog 21 #[.pointer (some ⟨d.g, 0, none⟩)] w fun e w' => ∃ A c, e = .returned (.slice A (Sx.dirty s).length c) ∧ OwnsI 3 w' w.heap.size A c ((Sx.dirty s).map fun (i : Nat) => (i : Int)) ∧ DS w0 w' d s ∧ Below w.heap.size w w' :=
  (dirty_any _ d s w h.at_).mono fun _ _ ⟨A, c, he, ho, hb⟩ => ⟨A, c, he, ho, h.below hb, hb⟩
theorem down_ds (w0 : World) (d : Dk) (s : Sx.St) (w : World) (h : DS w0 w d s) :
    Calls Try.prog 19 #[.pointer (some ⟨d.g, 0, none⟩)] w fun e w' => e = .returned (.bool s.down) ∧ w' = w := down_any _ d s w h.at_
theorem new_ds (n : Nat) (hn : 1 ≤ n ∧ n ≤ 16384) (w0 w : World) (hb : Below w0.heap.size w0 w) :
    Calls Try.prog 10 #[.int .i64 (n : Int)] w fun e w' => ∃ d, e = .returned (.tuple #[.pointer (some ⟨d.g, 0, none⟩), .int .i64 0]) ∧ DS w0 w' d (Sx.new n) :=
  (new_any n hn w).mono fun _ _ ⟨d, he, hd, hb2⟩ => ⟨d, he, hd.mono (fun k hk => by have := hb.size; omega), hb.trans (hb2.mono hb.size)⟩
/-- rows that were told of a disk stay while its calls go on -/
theorem RowsAt.onD {w w' : World} {B : Nat} {v : Value} {L : List (List Nat)} {d : Dk} (h : RowsAt w (fun k => k < B) v L) (hd : ∀ k, d.has k → k < B) (ht : Turned d.has w w') : RowsAt w' (fun k => k < B) v L := h.keep (ht.mono hd)

theorem same_shown {w : World} {Z Z' : Nat → Prop} {A A' : Option Addr} {n m c c' : Nat} {s s' : Sx.St} (h : RowsAt w Z (.slice A n c) (Sx.shows s)) (h' : RowsAt w Z' (.slice A' m c') (Sx.shows s')) (hn : min s.n 64 = n) (hm : min s'.n 64 = m) (he : Sx.shows s' = Sx.shows s) :
    Calls Try.prog 20 #[.slice A n c, .slice A' m c'] w fun e w' => e = .returned (.bool true) ∧ ∃ j, w' = w.drewN j := by
  have := rows_same A A' c c' _ _ n m (by rw [Sx.shows_length]; exact hn) (by rw [Sx.shows_length]; exact hm) (by omega) w h.reads h'.reads
  rw [show decide (Sx.shows s = Sx.shows s') = true from decide_eq_true he.symm] at this
  exact this
namespace Sx
def runs (s : St) (ts : List Op) : St := ts.foldl runS s
theorem runs_step (s : St) (ts : List Op) (k : Nat) (h : k < ts.length) : runS (runs s (ts.take k)) ts[k] = runs s (ts.take (k + 1)) := by
  unfold runs
  rw [List.take_succ_eq_append_getElem h, List.foldl_append]
  rfl
theorem runS_n (s : St) (t : Op) : (runS s t).n = s.n := by
  unfold runS wrS flS arm crash St.off St.spent
  split
  · split
    · rfl
    · split
      · split
        · rfl
        · split <;> rfl
      · rfl
  · split
    · split
      · rfl
      · split <;> rfl
    · split
      · rfl
      · split <;> rfl
theorem runs_n (s : St) (ts : List Op) : (runs s ts).n = s.n := by
  unfold runs
  induction ts generalizing s with
  | nil => rfl
  | cons t ts ih => rw [List.foldl_cons, ih, runS_n]
/-- what a sector is read as -/
def seen (c : Option (List Nat)) (u : List Nat × Bool) : List Nat × Int :=
  match c with
  | some b => (b, 0)
  | none => if u.2 then ([], 9) else (u.1, 0)
theorem rd_in (s : St) (i : Nat) (h : i < s.n) : (rdB s i, rdE s i) = seen (s.cache i) (s.dur i) := by
  have hi : 0 ≤ (i : Int) ∧ (i : Int) < s.n := by omega
  unfold rdB rdE seen
  rw [if_pos hi, if_pos hi]
  simp only [Int.toNat_natCast]
  rcases s.cache i with _ | b
  · simp only; split <;> rfl
  · rfl
theorem showOf_in (s : St) (i : Nat) (h : i < s.n) : showOf s i = if (seen (s.cache i) (s.dur i)).2 = 0 then (seen (s.cache i) (s.dur i)).1 else rowOf 65 := by
  have := rd_in s i h
  unfold showOf
  rw [← this]
theorem shows_congr {s s' : St} (hn : s'.n = s.n) (h : ∀ i, i < s.n → seen (s'.cache i) (s'.dur i) = seen (s.cache i) (s.dur i)) : shows s' = shows s := by
  unfold shows
  rw [hn]
  refine List.map_congr_left fun i hi => ?_
  have hi : i < s.n := by have := List.mem_range.1 hi; omega
  rw [showOf_in s' i (by omega), showOf_in s i hi, h i hi]
theorem seen_settle1 (c : Option (List Nat)) (u : List Nat × Bool) : seen none (settle1 c u 1) = seen c u := by
  rcases c with _ | b <;> rfl
theorem shows_flS (s : St) : shows (flS s) = shows s := by
  unfold flS
  split
  · exact shows_congr rfl (fun _ _ => rfl)
  · split
    · rfl
    · exact shows_congr rfl (fun i _ => seen_settle1 _ _)
theorem flS_n (s : St) : (flS s).n = s.n := by unfold flS; split; rfl; split <;> rfl
theorem spE_cases (s : St) : (spE s = 0 ∧ s.dead = false ∧ s.down = false) ∨ (spE s = 10 ∧ (flS s).down = true) := by
  unfold spE flS
  cases hd : s.dead <;> cases ho : s.down <;> simp [St.off, ho]
theorem flS_ok (s : St) (h1 : s.dead = false) (h2 : s.down = false) : flS s = { s.spent with dur := fun i => settle1 (s.cache i) (s.dur i) 1, cache := fun _ => none } := by simp [flS, h1, h2]
theorem dirty_none (s : St) (h : ∀ i, s.cache i = none) : dirty s = [] := by
  unfold dirty dirtyTo
  rw [List.filter_eq_nil_iff]
  intro i _
  rw [h i]; simp
theorem shows_crash_none (s : St) (h : ∀ i, s.cache i = none) (l : List Int) : shows (crash s l) = shows s :=
  shows_congr rfl (fun i _ => by
    show seen none (settle1 (s.cache i) (s.dur i) _) = _
    rw [h i]; rfl)
end Sx
end Go.Proofs.Ytbfbnpbonoapnaa
