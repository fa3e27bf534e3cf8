/- What nodes have reached, index by index. -/
import Derived.Test.YtblhfbijffaacaaQuMath
namespace Go.Proofs.Ytblhfbijffaacaa
namespace Qu
theorem reach_zip (a b : List Int) (v x : Int) : reach (a.zip b) v x = true ↔ ∃ i, ∃ (h1 : i < a.length) (h2 : i < b.length), a[i] = x ∧ v ≤ b[i] := by
  unfold reach
  rw [List.any_eq_true]
  constructor
  · rintro ⟨p, hp, h⟩
    obtain ⟨i, hi, rfl⟩ := List.getElem_of_mem hp
    have h := of_decide_eq_true h
    rw [List.length_zip] at hi
    rw [List.getElem_zip] at h
    exact ⟨i, by omega, by omega, h⟩
  · rintro ⟨i, h1, h2, h3, h4⟩
    have hi : i < (a.zip b).length := by rw [List.length_zip]; omega
    refine ⟨(a.zip b)[i], List.getElem_mem hi, decide_eq_true ?_⟩
    rw [List.getElem_zip]
    exact ⟨h3, h4⟩
theorem reach_set (a b : List Int) (k : Nat) (hk : k < b.length) (y : Int) (hy : b[k] ≤ y) (v x : Int) (h : reach (a.zip b) v x = true) : reach (a.zip (b.set k y)) v x = true := by
  obtain ⟨i, h1, h2, h3, h4⟩ := (reach_zip a b v x).1 h
  refine (reach_zip a _ v x).2 ⟨i, h1, by rw [List.length_set]; exact h2, h3, ?_⟩
  rw [List.getElem_set]
  split
  · rename_i e
    subst e
    omega
  · exact h4
theorem Agr.in_reached {c : Cf} {a b : List Int} {r : Int} (h : Agr c (a.zip b) r) (h0 : 0 < r) : r ∈ b := by
  obtain ⟨_, p, hp, e⟩ := h.2.1 h0
  have := (List.of_mem_zip hp).2
  rw [e] at this
  exact this
theorem Agr.quo_le {c : Cf} {ps : List (Int × Int)} {r v : Int} (h : Agr c ps r) (hq : quo c (reach ps v) = true) : v ≤ r := by
  by_cases hv : 0 < v
  · exact h.ge hv hq
  · have := h.1; omega
theorem Agr.nil_ {c : Cf} {r : Int} (h : Agr c [] r) : r = 0 := by
  by_cases h0 : 0 < r
  · obtain ⟨_, p, hp, _⟩ := h.2.1 h0
    simp at hp
  · have := h.1; omega
end Qu
end Go.Proofs.Ytblhfbijffaacaa
