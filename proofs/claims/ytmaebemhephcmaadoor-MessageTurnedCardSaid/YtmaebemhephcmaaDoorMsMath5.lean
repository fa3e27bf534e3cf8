/- Messages and their bytes, in plain words: bytes that are turned, cut off, or followed by others are refused. -/
import Derived.Test.YtmaebemhephcmaaDoorMsLaw
namespace Go.Proofs.YtmaebemhephcmaaDoor.Ms
set_option maxRecDepth 100000
set_option linter.unusedVariables false

theorem get_bad {b : List Nat} (h : (∃ Q m e, Fr.get b = (Q, m, e) ∧ (e ≠ 0 ∨ (e = 0 ∧ m < b.length)))) : ∃ e, get b = (M0, e) ∧ e ≠ 0 := by
  obtain ⟨Q, m, e, hg, h⟩ := h
  rcases h with he | ⟨rfl, hm⟩
  · exact ⟨e, get_frame hg he, he⟩
  · exact ⟨2, get_long hg hm, by decide⟩
theorem turned_mid (p X m0 Y : List Nat) (q j b : Nat) (hX : X ++ (m0 ++ Y) = Fr.frame p) (he : Fr.Ends p X m0 Y q) (hj : j < m0.length) (hb : b < 8) (hq : q = 8 * j + b) (hp : ∀ x ∈ m0, x < 256) (h : X.length + j < (Fr.frame p).length) :
    Fr.get ((Fr.frame p).set (X.length + j) ((Fr.frame p)[X.length + j] ^^^ 2 ^ b)) = ([], 0, 5) := by
  have e1 : (Fr.frame p)[X.length + j] = m0[j] := by
    have := Fr.get_mid X m0 Y j (X.length + j) hj rfl (by rw [hX]; exact h)
    rw [← this]
    congr 1
    exact hX.symm
  rw [e1]
  have e2 : (Fr.frame p).set (X.length + j) (m0[j] ^^^ 2 ^ b) = X ++ (m0.set j (m0[j] ^^^ 2 ^ b) ++ Y) := by
    rw [← hX]; exact Fr.set_mid X m0 Y j _ hj
  rw [e2]
  have hs : ∀ x ∈ m0.set j (m0[j] ^^^ 2 ^ b), x < 256 := by
    intro x hx
    rcases List.mem_or_eq_of_mem_set hx with hx | rfl
    · exact hp x hx
    · exact Crc.byte_flip_lt _ _ (hp _ (List.getElem_mem hj)) hb
  refine (he _ 1 (by rw [List.length_set]) hs (by decide) ?_).2 (by decide)
  rw [Crc.num_set m0 j b hj, hq, Nat.mul_one]
/-- one bit turned -/
theorem turned (p : List Nat) (hl : p.length ≤ 65536) (hp : ∀ x ∈ p, x < 256) (k : Nat) (hk : k / 8 < (Fr.frame p).length) :
    ∃ e, get ((Fr.frame p).set (k / 8) ((Fr.frame p)[k / 8] ^^^ 2 ^ (k % 8))) = (M0, e) ∧ e ≠ 0 := by
  apply get_bad
  have hfl := Fr.frame_length p
  have hb : k % 8 < 8 := Nat.mod_lt _ (by decide)
  generalize k / 8 = j at hk ⊢
  generalize k % 8 = b at hb ⊢
  by_cases h4 : j < 4
  · obtain ⟨Q, m, e, hg, h⟩ := Fr.turned_one p j b h4 hb hk
    refine ⟨Q, m, e, hg, ?_⟩
    rcases h with ⟨h1, _, _⟩ | ⟨h1, h2⟩
    · exact .inl h1
    · exact .inr ⟨h1, by rw [List.length_set]; omega⟩
  · by_cases h8 : j < 8
    · obtain ⟨X, m0, Y, hX, hm, hf, he⟩ := Fr.ends_sum p (8 * (j - 4) + b) hl
      have hp0 : ∀ x ∈ m0, x < 256 := fun x hx => Fr.frame_lt p hp x (by rw [← hf]; exact List.mem_append_right _ (List.mem_append_left _ hx))
      obtain ⟨i, rfl⟩ : ∃ i, j = X.length + i := ⟨j - 4, by omega⟩
      rw [hX, Nat.add_sub_cancel_left] at he
      exact ⟨_, _, _, turned_mid p X m0 Y _ i b hf he (by omega) hb rfl hp0 hk, .inl (by decide)⟩
    · obtain ⟨X, m0, Y, hX, hm, hf, he⟩ := Fr.ends_payload p (8 * (j - 8) + b) hl hp (by omega)
      have hp0 : ∀ x ∈ m0, x < 256 := fun x hx => Fr.frame_lt p hp x (by rw [← hf]; exact List.mem_append_right _ (List.mem_append_left _ hx))
      obtain ⟨i, rfl⟩ : ∃ i, j = X.length + i := ⟨j - 8, by omega⟩
      rw [hX, Nat.add_sub_cancel_left] at he
      exact ⟨_, _, _, turned_mid p X m0 Y _ i b hf he (by omega) hb rfl hp0 hk, .inl (by decide)⟩
/-- cut off -/
theorem cut (p : List Nat) (hl : p.length ≤ 65536) (k : Nat) (hk : k < (Fr.frame p).length) : get ((Fr.frame p).take k) = (M0, 1) := by
  rw [Fr.frame_length] at hk
  exact get_frame (Fr.cut p k hl hk) (by decide)
/-- followed by another byte -/
theorem more {m : M} (hw : Wf m) (hs : Small m) (hc : check m = 0) (x : Nat) : get (Fr.frame m.enc ++ [x]) = (M0, 2) := by
  have := back m hw hs hc [x] (enc_lt m hw)
  rw [this]; rfl
end Go.Proofs.YtmaebemhephcmaaDoor.Ms
