/- What stands behind an Append. -/
import Derived.Test.YthocdknfkmclkaaRlLaw
import Derived.Test.YthocdknfkmclkaaRlRefE
namespace Go.Proofs.Ythocdknfkmclkaa
open Go.RowKit
namespace Rl

theorem app_cases (g : Lg) (p : Nat) (hp : p ≤ g.es.length) (M : List En) :
    (g.there p M < M.length ∧ g.appE (g.base + (p : Nat)) M = g.es.take (p + g.there p M) ++ M.drop (g.there p M) ∧ g.appI (g.base + (p : Nat)) M = g.base + (p : Nat) + (g.there p M : Nat) + 1) ∨
    (g.there p M = M.length ∧ g.appE (g.base + (p : Nat)) M = g.es ∧ g.appI (g.base + (p : Nat)) M = 0) := by
  have h0 := Lg.has_of hp
  have h1 := Lg.pl_of g p
  have h2 := (there_facts g p hp M).2.1
  unfold Lg.appE Lg.appI
  rw [h1]
  by_cases h : g.there p M < M.length
  · left; rw [if_pos ⟨h0, h⟩, if_pos ⟨h0, h⟩]; exact ⟨h, rfl, rfl⟩
  · right; rw [if_neg (fun e => h e.2), if_neg (fun e => h e.2)]; exact ⟨by omega, rfl, rfl⟩
theorem app_long (g : Lg) (p : Nat) (hp : p ≤ g.es.length) (M : List En) : p + M.length ≤ (g.appE (g.base + (p : Nat)) M).length := by
  have h3 := (there_facts g p hp M).1
  rcases app_cases g p hp M with ⟨h, h1, _⟩ | ⟨h, h1, _⟩
  · rw [h1, List.length_append, List.length_take, List.length_drop]; omega
  · rw [h1]; omega
theorem app_get (g : Lg) (p : Nat) (hp : p ≤ g.es.length) (M : List En) (k : Nat) (hk : k < M.length) : ((g.appE (g.base + (p : Nat)) M)[p + k]'(by have := app_long g p hp M; omega)).t = M[k].t := by
  obtain ⟨h3, h4, h5, _⟩ := there_facts g p hp M
  have key : ∀ L : List En, L = g.appE (g.base + (p : Nat)) M → ∀ h : p + k < L.length, (L[p + k]'h).t = M[k].t := by
    intro L hL h
    by_cases hkn : k < g.there p M
    · have h6 := h5 k hk hkn
      rw [g.at_succ (p + k) (by omega)] at h6
      rcases app_cases g p hp M with ⟨_, h1, _⟩ | ⟨_, h1, _⟩
      · rw [h1] at hL
        subst hL
        rw [List.getElem_append_left (by rw [List.length_take]; omega), List.getElem_take]
        exact h6
      · rw [h1] at hL
        subst hL
        exact h6
    · rcases app_cases g p hp M with ⟨_, h1, _⟩ | ⟨h2, _, _⟩
      · rw [h1] at hL
        subst hL
        rw [List.getElem_append_right (by rw [List.length_take]; omega), List.getElem_drop]
        congr 2
        rw [List.length_take]; omega
      · omega
  exact key _ rfl _
theorem app_at (g : Lg) (p : Nat) (hp : p ≤ g.es.length) (M : List En) (k : Nat) (hk : k < M.length) : (g.app (g.base + (p : Nat)) M).at_ (p + k + 1) = M[k].t := by
  rw [Lg.at_succ (g.app (g.base + (p : Nat)) M) (p + k) (by show p + k < (g.appE _ M).length; have := app_long g p hp M; omega)]
  exact app_get g p hp M k hk
theorem app_take (g : Lg) (p : Nat) (hp : p ≤ g.es.length) (M : List En) : (g.appE (g.base + (p : Nat)) M).take p = g.es.take p := by
  have h3 := (there_facts g p hp M).1
  rcases app_cases g p hp M with ⟨_, h1, _⟩ | ⟨_, h1, _⟩
  · rw [h1, List.take_append_of_le_length (by rw [List.length_take]; omega), List.take_take, Nat.min_eq_left (by omega)]
  · rw [h1]
theorem app_again (g : Lg) (p : Nat) (hp : p ≤ g.es.length) (M : List En) : (g.app (g.base + (p : Nat)) M).appE (g.base + (p : Nat)) M = g.appE (g.base + (p : Nat)) M ∧ (g.app (g.base + (p : Nat)) M).appI (g.base + (p : Nat)) M = 0 := by
  have hl := app_long g p hp M
  have ht : (g.app (g.base + (p : Nat)) M).there p M = M.length := by
    unfold Lg.there
    refine alike_eq _ M M.length (by rw [List.length_drop]; show M.length ≤ (g.appE _ M).length - p; omega) (Nat.le_refl _) (fun j hj => ?_) (fun _ h4 => absurd h4 (Nat.lt_irrefl _))
    rw [List.getElem_drop]
    exact app_get g p hp M j hj
  have hp' : p ≤ (g.app (g.base + (p : Nat)) M).es.length := by show p ≤ (g.appE _ M).length; omega
  rcases app_cases (g.app (g.base + (p : Nat)) M) p hp' M with ⟨h, _⟩ | ⟨_, h1, h2⟩
  · rw [ht] at h; exact absurd h (Nat.lt_irrefl _)
  · exact ⟨h1, h2⟩
theorem app_drop (g : Lg) (p : Nat) (hp : p ≤ g.es.length) (M : List En) (h : g.there p M < M.length) : (g.appE (g.base + (p : Nat)) M).drop (p + g.there p M) = M.drop (g.there p M) ∧ (g.appE (g.base + (p : Nat)) M).length = p + M.length := by
  have h3 := (there_facts g p hp M).1
  rcases app_cases g p hp M with ⟨_, h1, _⟩ | ⟨h2, _⟩
  · rw [h1]
    refine ⟨?_, by rw [List.length_append, List.length_take, List.length_drop]; omega⟩
    rw [List.drop_left' (by rw [List.length_take]; omega)]
  · omega
end Rl
end Go.Proofs.Ythocdknfkmclkaa
