/- What the first three numbers of a sector's bytes say of them, in plain words. -/
import Derived.Test.YtdgijnolpjaheaaCkMath2
namespace Go.Proofs.Ytdgijnolpjaheaa
namespace Pk
theorem num_inj (n : Nat) : ∀ a b : List Nat, a.length = n → b.length = n → (∀ x ∈ a, x < 256) → (∀ x ∈ b, x < 256) → num a = num b → a = b := by
  induction n with
  | zero => intro a b ha hb _ _ _; rw [List.eq_nil_of_length_eq_zero ha, List.eq_nil_of_length_eq_zero hb]
  | succ n ih =>
    intro a b hla hlb ha hb hn
    rcases List.eq_nil_or_concat a with rfl | ⟨a, x, rfl⟩
    · simp at hla
    · rcases List.eq_nil_or_concat b with rfl | ⟨b, y, rfl⟩
      · simp at hlb
      · simp only [List.concat_eq_append] at hla hlb ha hb hn ⊢
        rw [num_snoc, num_snoc] at hn
        have hx := ha x (by simp)
        have hy := hb y (by simp)
        have h1 := ih a b (by simpa using hla) (by simpa using hlb) (fun z hz => ha z (by simp [hz])) (fun z hz => hb z (by simp [hz])) (by omega)
        have h2 : x = y := by omega
        rw [h1, h2]
theorem sgn_inj {a b : Nat} (ha : a < 18446744073709551616) (hb : b < 18446744073709551616) (h : sgn a = sgn b) : a = b := by
  unfold sgn at h
  split at h <;> split at h <;> omega
theorem rd_is (l : List Nat) (h8 : 8 ≤ l.length) (hs : ∀ x ∈ l, x < 256) (e : Int) (he : -9223372036854775808 ≤ e ∧ e ≤ 9223372036854775807) : sgn (num (l.take 8)) = e ↔ enc e <+: l := by
  constructor
  · intro h
    have h1 : sgn (num (l.take 8)) = sgn (num (enc e)) := by rw [h, dec_enc e he]
    have h2 := sgn_inj (take_num_lt l hs) (by have := take_num_lt (enc e) (enc_small e); rwa [List.take_of_length_le (Nat.le_of_eq (enc_length e))] at this) h1
    have h3 := num_inj 8 (l.take 8) (enc e) (by rw [List.length_take]; omega) (enc_length e) (fun x hx => hs x (List.mem_of_mem_take hx)) (enc_small e) h2
    rw [← h3]
    exact List.take_prefix 8 l
  · rintro ⟨t, rfl⟩
    rw [List.take_left' (enc_length e), dec_enc e he]
end Pk
namespace Ck
open Sx Jo
/-- the states of a reader behind the first, the second, the third number -/
def rd1 (l : List Nat) : Int × Pk.St := Pk.rdInt ⟨l, false⟩
def rd2 (l : List Nat) : Int × Pk.St := Pk.rdInt (rd1 l).2
def rd3 (l : List Nat) : Int × Pk.St := Pk.rdInt (rd2 l).2
theorem rd_long (l : List Nat) (h : 24 ≤ l.length) : rd1 l = (Pk.sgn (Pk.num (l.take 8)), ⟨l.drop 8, false⟩) ∧ rd2 l = (Pk.sgn (Pk.num ((l.drop 8).take 8)), ⟨l.drop 16, false⟩) ∧ rd3 l = (Pk.sgn (Pk.num ((l.drop 16).take 8)), ⟨l.drop 24, false⟩) := by
  have h1 : rd1 l = (Pk.sgn (Pk.num (l.take 8)), ⟨l.drop 8, false⟩) := Pk.rdInt_drop l false 0 3 (by omega) h
  have h2 : rd2 l = (Pk.sgn (Pk.num ((l.drop 8).take 8)), ⟨l.drop 16, false⟩) := by
    unfold rd2; rw [h1]; exact Pk.rdInt_drop l false 1 3 (by omega) h
  have h3 : rd3 l = (Pk.sgn (Pk.num ((l.drop 16).take 8)), ⟨l.drop 24, false⟩) := by
    unfold rd3; rw [h2]; exact Pk.rdInt_drop l false 2 3 (by omega) h
  exact ⟨h1, h2, h3⟩
theorem rd_short (l : List Nat) (h : l.length < 24) : (rd3 l).2.bad = true := by
  have hg : ∀ s : Pk.St, s.bad = true → s.rest = [] → (Pk.rdInt s).2.bad = true ∧ (Pk.rdInt s).2.rest = [] := fun s h1 h2 => by
    unfold Pk.rdInt
    rw [if_pos (by rw [h2]; simp)]
    exact ⟨rfl, rfl⟩
  by_cases h1 : l.length < 8
  · have e1 : rd1 l = (0, Pk.gone) := by unfold rd1 Pk.rdInt; rw [if_pos h1]
    have e2 : rd2 l = (0, Pk.gone) := by unfold rd2; rw [e1]; rfl
    unfold rd3; rw [e2]; rfl
  · have e1 : rd1 l = (Pk.sgn (Pk.num (l.take 8)), ⟨l.drop 8, false⟩) := by unfold rd1 Pk.rdInt; rw [if_neg h1]
    by_cases h2 : l.length < 16
    · have e2 : rd2 l = (0, Pk.gone) := by unfold rd2 Pk.rdInt; rw [e1, if_pos (by simp; omega)]
      unfold rd3; rw [e2]; rfl
    · have e2 : rd2 l = (Pk.sgn (Pk.num ((l.drop 8).take 8)), ⟨l.drop 16, false⟩) := by
        unfold rd2 Pk.rdInt; rw [e1, if_neg (by simp; omega), List.drop_drop]
      have e3 : rd3 l = (0, Pk.gone) := by unfold rd3 Pk.rdInt; rw [e2, if_pos (by simp; omega)]
      rw [e3]; rfl
theorem head_iff (l : List Nat) (h : 24 ≤ l.length) (hs : ∀ x ∈ l, x < 256) (e z m : Int) (he : -9223372036854775808 ≤ e ∧ e ≤ 9223372036854775807) (hz : -9223372036854775808 ≤ z ∧ z ≤ 9223372036854775807) (hm : -9223372036854775808 ≤ m ∧ m ≤ 9223372036854775807) :
    head e z m <+: l ↔ (rd1 l).1 = e ∧ (rd2 l).1 = z ∧ (rd3 l).1 = m := by
  obtain ⟨h1, h2, h3⟩ := rd_long l h
  rw [h1, h2, h3]
  have s8 : ∀ x ∈ l.drop 8, x < 256 := fun x hx => hs x (List.mem_of_mem_drop hx)
  have s16 : ∀ x ∈ l.drop 16, x < 256 := fun x hx => hs x (List.mem_of_mem_drop hx)
  show _ ↔ (Pk.sgn (Pk.num (l.take 8)) = e ∧ Pk.sgn (Pk.num ((l.drop 8).take 8)) = z ∧ Pk.sgn (Pk.num ((l.drop 16).take 8)) = m)
  rw [Pk.rd_is l (by omega) hs e he, Pk.rd_is (l.drop 8) (by simp; omega) s8 z hz, Pk.rd_is (l.drop 16) (by simp; omega) s16 m hm]
  unfold head
  constructor
  · rintro ⟨t, rfl⟩
    refine ⟨⟨Pk.enc z ++ (Pk.enc m ++ t), by simp⟩, ⟨Pk.enc m ++ t, ?_⟩, ⟨t, ?_⟩⟩
    · rw [List.append_assoc, List.append_assoc, List.drop_left' (Pk.enc_length e)]
    · rw [List.append_assoc, show (16 : Nat) = (Pk.enc e ++ Pk.enc z).length from rfl, List.drop_left]
  · rintro ⟨⟨t, ht⟩, ⟨t2, ht2⟩, ⟨t3, ht3⟩⟩
    have e1 : l.drop 8 = t := by rw [← ht, List.drop_left' (Pk.enc_length e)]
    rw [e1] at ht2
    have e2 : l.drop 16 = t2 := by rw [show (16 : Nat) = 8 + 8 from rfl, ← List.drop_drop, e1, ← ht2, List.drop_left' (Pk.enc_length z)]
    rw [e2] at ht3
    exact ⟨t3, by rw [← ht, ← ht2, ← ht3]; simp⟩
/-- 'due', by the three numbers -/
theorem due_none (l : List Nat) (hs : ∀ x ∈ l, x < 256) (e : Int) (he : -9223372036854775808 ≤ e ∧ e ≤ 9223372036854775807) (i : Nat) (hi : i ≤ 1000000)
    (h : (rd3 l).2.bad = true ∨ (rd1 l).1 ≠ e ∨ (rd2 l).1 ≠ 0 ∨ ((rd3 l).1 ≠ (Jo.mark i false : Nat) ∧ (rd3 l).1 ≠ (Jo.mark i true : Nat))) : due l e i = ([], false, false) := by
  have hk : ∀ b : Bool, ¬ head e 0 (Jo.mark i b : Nat) <+: l := fun b hp => by
    have hl : 24 ≤ l.length := by have := hp.length_le; rwa [head_length] at this
    have hb : (rd3 l).2.bad = false := by rw [(rd_long l hl).2.2]
    have hm : -9223372036854775808 ≤ ((Jo.mark i b : Nat) : Int) ∧ ((Jo.mark i b : Nat) : Int) ≤ 9223372036854775807 := by unfold Jo.mark; cases b <;> simp <;> omega
    obtain ⟨h1, h2, h3⟩ := (head_iff l hl hs e 0 _ he (by omega) hm).1 hp
    rcases h with h | h | h | ⟨h, h'⟩
    · rw [hb] at h; cases h
    · exact h h1
    · exact h h2
    · cases b
      · exact h h3
      · exact h' h3
  unfold due
  rw [if_neg (hk false), if_neg (hk true)]
theorem rd_bad (l : List Nat) (h : (rd3 l).2.bad = false) : 24 ≤ l.length := by
  by_cases hl : l.length < 24
  · rw [rd_short l hl] at h; cases h
  · omega
theorem due_mid (l : List Nat) (hs : ∀ x ∈ l, x < 256) (e : Int) (he : -9223372036854775808 ≤ e ∧ e ≤ 9223372036854775807) (i : Nat) (hi : i ≤ 1000000)
    (h0 : (rd3 l).2.bad = false) (h1 : (rd1 l).1 = e) (h2 : (rd2 l).1 = 0) (h3 : (rd3 l).1 = (Jo.mark i false : Nat)) : due l e i = (l.drop 24, false, decide ((l.drop 24).length = 40)) := by
  have hm : -9223372036854775808 ≤ ((Jo.mark i false : Nat) : Int) ∧ ((Jo.mark i false : Nat) : Int) ≤ 9223372036854775807 := by simp [Jo.mark]; omega
  unfold due
  rw [if_pos ((head_iff l (rd_bad l h0) hs e 0 _ he (by omega) hm).2 ⟨h1, h2, h3⟩)]
theorem due_last (l : List Nat) (hs : ∀ x ∈ l, x < 256) (e : Int) (he : -9223372036854775808 ≤ e ∧ e ≤ 9223372036854775807) (i : Nat) (hi : i ≤ 1000000)
    (h0 : (rd3 l).2.bad = false) (h1 : (rd1 l).1 = e) (h2 : (rd2 l).1 = 0) (h3 : (rd3 l).1 = (Jo.mark i true : Nat)) : due l e i = (l.drop 24, true, fits (l.drop 24) i) := by
  have hm : ∀ b : Bool, -9223372036854775808 ≤ ((Jo.mark i b : Nat) : Int) ∧ ((Jo.mark i b : Nat) : Int) ≤ 9223372036854775807 := fun b => by unfold Jo.mark; cases b <;> simp <;> omega
  unfold due
  rw [if_neg, if_pos ((head_iff l (rd_bad l h0) hs e 0 _ he (by omega) (hm true)).2 ⟨h1, h2, h3⟩)]
  intro hp
  have := ((head_iff l (rd_bad l h0) hs e 0 _ he (by omega) (hm false)).1 hp).2.2
  rw [h3] at this
  simp [Jo.mark] at this
  omega
/-- the first number -/
theorem epoch_rd (l : List Nat) : epoch l = (rd1 l).1 := rfl
end Ck
end Go.Proofs.Ytdgijnolpjaheaa
