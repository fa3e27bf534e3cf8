/- What a disk of sectors holds, and what its calls make of it, in plain words. -/
import Derived.Test.YtdgijnolpjaheaaGrown
namespace Go.Proofs.Ytdgijnolpjaheaa
namespace Sx

def upd {α : Type} (f : Nat → α) (i : Nat) (x : α) : Nat → α := fun j => if j = i then x else f j
theorem upd_same {α : Type} (f : Nat → α) (i : Nat) (x : α) : upd f i x i = x := by simp [upd]
theorem upd_other {α : Type} (f : Nat → α) (i j : Nat) (x : α) (h : j ≠ i) : upd f i x j = f j := by simp [upd, h]

/-- n sectors: what is durable of each (its bytes; is it torn?), what the cache holds for it, the power -/
structure St where
  n : Nat
  dur : Nat → List Nat × Bool
  cache : Nat → Option (List Nat)
  armed : Bool
  left : Int
  down : Bool

def new (n : Nat) : St := ⟨n, fun _ => ([], false), fun _ => none, false, 0, false⟩
def St.dead (s : St) : Bool := s.armed && decide (s.left = 0)
def St.spent (s : St) : St := { s with left := if s.armed then s.left - 1 else s.left }
def St.off (s : St) : St := { s with down := true }
def spE (s : St) : Int := if s.dead then 10 else if s.down then 10 else 0
def spS (s : St) : St := if s.dead then s.off else if s.down then s else s.spent
def settle1 (c : Option (List Nat)) (d : List Nat × Bool) (f : Int) : List Nat × Bool :=
  match c with
  | none => d
  | some b => if f = 0 then d else if f = 1 then (b, false) else ([], true)
def settled (s : St) (i : Nat) (f : Int) : St := { s with dur := upd s.dur i (settle1 (s.cache i) (s.dur i) f) }
def dirtyTo (c : Nat → Option (List Nat)) (n : Nat) : List Nat := (List.range n).filter fun i => (c i).isSome
def dirty (s : St) : List Nat := dirtyTo s.cache s.n
def rk (s : St) (i : Nat) : Nat := (dirtyTo s.cache i).length
def fateAt (s : St) (l : List Int) (i : Nat) : Int := l.getD (rk s i) 0
def wrE (s : St) (i : Int) (b : List Nat) : Int := if s.down then 10 else if 0 ≤ i ∧ i < s.n then if 64 < b.length then 2 else spE s else 3
def wrS (s : St) (i : Int) (b : List Nat) : St :=
  if s.down then s else if 0 ≤ i ∧ i < s.n then if 64 < b.length then s else if s.dead then s.off else { s.spent with cache := upd s.cache i.toNat (some b) } else s
def flS (s : St) : St :=
  if s.dead then s.off else if s.down then s else { s.spent with dur := fun i => settle1 (s.cache i) (s.dur i) 1, cache := fun _ => none }
def crash (s : St) (l : List Int) : St :=
  { s with dur := fun i => settle1 (s.cache i) (s.dur i) (fateAt s l i), cache := fun _ => none, armed := false, left := 0, down := false }
def arm (s : St) (n : Int) : St := { s with armed := decide (0 ≤ n), left := n }
def rdE (s : St) (i : Int) : Int :=
  if 0 ≤ i ∧ i < s.n then match s.cache i.toNat with | some _ => 0 | none => if (s.dur i.toNat).2 then 9 else 0 else 3
def rdB (s : St) (i : Int) : List Nat :=
  if 0 ≤ i ∧ i < s.n then match s.cache i.toNat with | some b => b | none => if (s.dur i.toNat).2 then [] else (s.dur i.toNat).1 else []

theorem dirtyTo_succ (c : Nat → Option (List Nat)) (n : Nat) : dirtyTo c (n + 1) = dirtyTo c n ++ (if (c n).isSome then [n] else []) := by
  unfold dirtyTo
  rw [List.range_succ, List.filter_append]
  by_cases h : (c n).isSome <;> simp [h]
theorem mem_dirtyTo {c : Nat → Option (List Nat)} {n i : Nat} : i ∈ dirtyTo c n ↔ i < n ∧ (c i).isSome = true := by simp [dirtyTo]
theorem dirtyTo_rises (c : Nat → Option (List Nat)) (n : Nat) : (dirtyTo c n).Pairwise (· < ·) := List.Pairwise.filter _ List.pairwise_lt_range
theorem dirtyTo_nodup (c : Nat → Option (List Nat)) (n : Nat) : (dirtyTo c n).Nodup := (dirtyTo_rises c n).imp (fun h => Nat.ne_of_lt h)
theorem dirtyTo_length (c : Nat → Option (List Nat)) (n : Nat) : (dirtyTo c n).length ≤ n := by
  have := List.length_filter_le (fun i => (c i).isSome) (List.range n)
  simpa [dirtyTo] using this
theorem rk_get (c : Nat → Option (List Nat)) : ∀ n k, (h : k < (dirtyTo c n).length) → (dirtyTo c ((dirtyTo c n)[k])).length = k := by
  intro n
  induction n with
  | zero => intro k h; simp [dirtyTo] at h
  | succ n ih =>
    intro k h
    by_cases hk : k < (dirtyTo c n).length
    · have e : (dirtyTo c (n + 1))[k] = (dirtyTo c n)[k] := by
        simp only [dirtyTo_succ]
        rw [List.getElem_append_left hk]
      rw [e]
      exact ih k hk
    · have hl := h
      rw [dirtyTo_succ, List.length_append] at hl
      have hs : (c n).isSome = true := by
        cases hc : (c n).isSome
        · simp [hc] at hl; omega
        · rfl
      have hk2 : k = (dirtyTo c n).length := by simp [hs] at hl; omega
      subst hk2
      have e : (dirtyTo c (n + 1))[(dirtyTo c n).length] = n := by
        simp only [dirtyTo_succ, hs, if_true]
        rw [List.getElem_append_right (Nat.le_refl _)]
        simp
      rw [e]

/-- the first k of the dirty sectors are settled -/
def part (s : St) (F : Nat → Int) (k : Nat) : St := { s with dur := fun i => if i ∈ (dirty s).take k then settle1 (s.cache i) (s.dur i) (F i) else s.dur i }
theorem part_zero (s : St) (F : Nat → Int) : part s F 0 = s := by simp [part]
theorem part_step (s : St) (F : Nat → Int) (k : Nat) (h : k < (dirty s).length) : settled (part s F k) (dirty s)[k] (F (dirty s)[k]) = part s F (k + 1) := by
  have hn : (dirty s)[k] ∉ (dirty s).take k := by
    intro hm
    obtain ⟨j, hj, e⟩ := List.getElem_of_mem hm
    rw [List.length_take] at hj
    rw [List.getElem_take] at e
    have := (List.getElem_inj (dirtyTo_nodup s.cache s.n)).1 e
    omega
  unfold settled
  rw [show ({ part s F k with dur := upd (part s F k).dur (dirty s)[k] (settle1 ((part s F k).cache (dirty s)[k]) ((part s F k).dur (dirty s)[k]) (F (dirty s)[k])) } : St) = { s with dur := upd (part s F k).dur (dirty s)[k] (settle1 ((part s F k).cache (dirty s)[k]) ((part s F k).dur (dirty s)[k]) (F (dirty s)[k])) } from rfl]
  unfold part
  congr 1
  funext i
  unfold upd
  by_cases hi : i = (dirty s)[k]
  · subst hi
    simp only [if_true]
    rw [if_neg hn, if_pos]
    rw [List.take_succ_eq_append_getElem h]
    exact List.mem_append.2 (.inr (List.mem_singleton.2 rfl))
  · rw [if_neg hi]
    have : i ∈ (dirty s).take (k + 1) ↔ i ∈ (dirty s).take k := by
      rw [List.take_succ_eq_append_getElem h, List.mem_append, List.mem_singleton]
      exact ⟨fun h => h.resolve_right hi, .inl⟩
    simp [this]
theorem part_end (s : St) (F : Nat → Int) (i : Nat) (h : i < s.n) : (part s F (dirty s).length).dur i = settle1 (s.cache i) (s.dur i) (F i) := by
  unfold part
  simp only [List.take_length]
  by_cases hi : i ∈ dirty s
  · rw [if_pos hi]
  · rw [if_neg hi]
    have : s.cache i = none := by
      rcases hc : s.cache i with _ | b
      · rfl
      · exact absurd (mem_dirtyTo.2 ⟨h, by rw [hc]; rfl⟩) hi
    rw [this]
    rfl
theorem dirty_lt (s : St) (k : Nat) (h : k < (dirty s).length) : (dirty s)[k] < s.n ∧ ∃ b, s.cache (dirty s)[k] = some b := by
  have := mem_dirtyTo.1 (List.getElem_mem h)
  exact ⟨this.1, Option.isSome_iff_exists.1 this.2⟩
theorem fateAt_dirty (s : St) (l : List Int) (k : Nat) (h : k < (dirty s).length) : fateAt s l (dirty s)[k] = l.getD k 0 := by
  unfold fateAt rk
  have := rk_get s.cache s.n k h
  rw [show (dirtyTo s.cache (dirty s)[k]).length = k from this]
end Sx
end Go.Proofs.Ytdgijnolpjaheaa
