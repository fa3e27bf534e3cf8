/- Logs of a group, in plain words. -/
import Derived.Test.YtmaebemhephcmaaDoorMem
namespace Go.Proofs.YtmaebemhephcmaaDoor.Rl

/-- an entry -/
structure En where
  t : Int
  k : Int
  d : List Nat
deriving DecidableEq
/-- a log -/
structure Lg where
  base : Int
  term : Int
  es : List En
deriving DecidableEq
/-- the term at the place n behind the base -/
def Lg.at_ (g : Lg) : Nat → Int
  | 0 => g.term
  | n + 1 => (g.es.map (·.t)).getD n 0
def Lg.last (g : Lg) : Int := g.base + (g.es.length : Nat)
def Lg.lastT (g : Lg) : Int := g.at_ g.es.length
def Lg.has (g : Lg) (i : Int) : Bool := decide (g.base ≤ i) && decide (i ≤ g.last)
def Lg.pl (g : Lg) (i : Int) : Nat := (i - g.base).toNat
def Lg.termV (g : Lg) (i : Int) : Int := if g.has i then g.at_ (g.pl i) else 0
def Lg.newer (g : Lg) (i t : Int) : Bool := decide (g.lastT < t) || (decide (t = g.lastT) && decide (g.last ≤ i))
/-- the entries from an index on -/
def Lg.slice (g : Lg) (i m : Int) : List En := if g.has i = true ∧ i ≠ g.base then (g.es.drop (g.pl i - 1)).take m.toNat else []
/-- how many entries at the beginning have the same terms -/
def alike : List En → List En → Nat
  | a :: r, b :: s => if a.t = b.t then alike r s + 1 else 0
  | _, _ => 0
/-- how many of e are there behind the place p -/
def Lg.there (g : Lg) (p : Nat) (e : List En) : Nat := alike (g.es.drop p) e
def Lg.appE (g : Lg) (i : Int) (e : List En) : List En := if g.has i = true ∧ g.there (g.pl i) e < e.length then g.es.take (g.pl i + g.there (g.pl i) e) ++ e.drop (g.there (g.pl i) e) else g.es
def Lg.appI (g : Lg) (i : Int) (e : List En) : Int := if g.has i = true ∧ g.there (g.pl i) e < e.length then i + (g.there (g.pl i) e : Nat) + 1 else 0
def Lg.app (g : Lg) (i : Int) (e : List En) : Lg := ⟨g.base, g.term, g.appE i e⟩
def Lg.cut (g : Lg) (i : Int) : Lg := if g.has i then ⟨i, g.at_ (g.pl i), g.es.drop (g.pl i)⟩ else ⟨0, 0, []⟩
def Lg.cutE (g : Lg) (i : Int) : Int := if g.has i then 0 else 3
/-- a log that may be -/
def Ok (g : Lg) : Prop := (0 ≤ g.base ∧ g.base ≤ 1099511637776) ∧ True ∧ g.es.length ≤ 50000
/-- entries whose bytes are few -/
def Few (l : List En) : Prop := ∀ e ∈ l, e.d.length ≤ 65536

theorem Lg.has_iff {g : Lg} {i : Int} : g.has i = true ↔ g.base ≤ i ∧ i ≤ g.base + (g.es.length : Nat) := by
  unfold Lg.has Lg.last; rw [Bool.and_eq_true, decide_eq_true_iff, decide_eq_true_iff]
theorem Lg.has_not {g : Lg} {i : Int} : g.has i = false ↔ ¬ (g.base ≤ i ∧ i ≤ g.base + (g.es.length : Nat)) := by
  rw [← Lg.has_iff]; simp
/-- an index that the log has is a place -/
theorem Lg.has_at {g : Lg} {i : Int} (h : g.has i = true) : ∃ p : Nat, i = g.base + (p : Nat) ∧ p ≤ g.es.length ∧ g.pl i = p := by
  obtain ⟨h1, h2⟩ := Lg.has_iff.1 h
  refine ⟨(i - g.base).toNat, by omega, by omega, rfl⟩
theorem Lg.has_of {g : Lg} {p : Nat} (h : p ≤ g.es.length) : g.has (g.base + (p : Nat)) = true := Lg.has_iff.2 (by omega)
theorem Lg.pl_of (g : Lg) (p : Nat) : g.pl (g.base + (p : Nat)) = p := by unfold Lg.pl; omega
theorem Lg.at_succ (g : Lg) (n : Nat) (h : n < g.es.length) : g.at_ (n + 1) = g.es[n].t := by
  show (g.es.map (·.t)).getD n 0 = _
  rw [List.getD_eq_getElem?_getD, List.getElem?_map, List.getElem?_eq_getElem h]; rfl
theorem alike_le : ∀ a b : List En, alike a b ≤ a.length ∧ alike a b ≤ b.length
  | [], _ => by simp [alike]
  | _ :: _, [] => by simp [alike]
  | a :: r, b :: s => by
    have := alike_le r s
    unfold alike
    split
    · simp; omega
    · simp
theorem alike_get : ∀ (a b : List En) (k : Nat) (h : k < alike a b), (a[k]'(Nat.lt_of_lt_of_le h (alike_le a b).1)).t = (b[k]'(Nat.lt_of_lt_of_le h (alike_le a b).2)).t
  | [], _, k, h => by simp [alike] at h
  | _ :: _, [], k, h => by simp [alike] at h
  | a :: r, b :: s, k, h => by
    unfold alike at h
    split at h
    · rename_i e
      rcases k with _ | k
      · exact e
      · exact alike_get r s k (by omega)
    · omega
theorem alike_stop : ∀ (a b : List En) (h1 : alike a b < a.length) (h2 : alike a b < b.length), a[alike a b].t ≠ b[alike a b].t
  | [], _, h, _ => by simp at h
  | _ :: _, [], _, h => by simp at h
  | a :: r, b :: s, h1, h2 => by
    by_cases e : a.t = b.t
    · have e1 : alike (a :: r) (b :: s) = alike r s + 1 := by rw [alike, if_pos e]
      have h1' : alike r s < r.length := by rw [e1] at h1; simpa using h1
      have h2' : alike r s < s.length := by rw [e1] at h2; simpa using h2
      have := alike_stop r s h1' h2'
      simp only [e1, List.getElem_cons_succ]
      exact this
    · have e1 : alike (a :: r) (b :: s) = 0 := by rw [alike, if_neg e]
      simp only [e1, List.getElem_cons_zero]
      exact e
/-- it is the place at which they first differ, or where one of them ends -/
theorem alike_eq (a b : List En) (k : Nat) (h1 : k ≤ a.length) (h2 : k ≤ b.length) (hs : ∀ j (hj : j < k), (a[j]'(by omega)).t = (b[j]'(by omega)).t) (he : ∀ (h3 : k < a.length) (h4 : k < b.length), a[k].t ≠ b[k].t) : alike a b = k := by
  have hl := alike_le a b
  rcases Nat.lt_trichotomy (alike a b) k with h | h | h
  · exact absurd (hs _ h) (alike_stop a b (by omega) (by omega))
  · exact h
  · exact absurd (alike_get a b k h) (he (by omega) (by omega))
theorem Ok.drop {g : Lg} (h : Ok g) (n : Nat) : (g.es.drop n).length ≤ 50000 := by rw [List.length_drop]; have := h.2.2; omega
end Go.Proofs.YtmaebemhephcmaaDoor.Rl
