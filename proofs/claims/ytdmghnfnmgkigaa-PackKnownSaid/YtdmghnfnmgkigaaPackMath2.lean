/- The plain mathematics of package pack: things that are put and read again. -/
import Derived.Test.YtdmghnfnmgkigaaPackMath
namespace Go.Proofs.Ytdmghnfnmgkigaa.Pk

/-- a thing as the statements hold it -/
structure Th where
  kind : Int
  v : Int
  p : List Nat
  l : List Int
def Th.val (t : Th) : Val := if t.kind = 1 then .blob t.p else if t.kind = 2 then .list t.l else .num t.v
def Th.small (t : Th) : Prop := t.p.length ≤ 1024 ∧ t.l.length ≤ 1024
def fits (ts : List Th) : Prop := ts.length ≤ 60 ∧ ∀ t ∈ ts, t.small
def Th.ok (t : Th) : Prop := (-9223372036854775808 ≤ t.v ∧ t.v ≤ 9223372036854775807) ∧ (∀ x ∈ t.p, x < 256) ∧ ∀ x ∈ t.l, -9223372036854775808 ≤ x ∧ x ≤ 9223372036854775807
theorem Th.valOk (t : Th) (h : t.ok) (hs : t.small) : t.val.ok := by
  unfold Th.val
  split
  · exact ⟨hs.1, h.2.1⟩
  · split
    · exact ⟨hs.2, h.2.2⟩
    · exact h.1
def vals (ts : List Th) : List Val := ts.map Th.val
theorem vals_ok (ts : List Th) (h : ∀ t ∈ ts, t.ok) (hf : fits ts) : ∀ v ∈ vals ts, v.ok := by
  intro v hv
  obtain ⟨t, ht, rfl⟩ := List.mem_map.1 hv
  exact t.valOk (h t ht) (hf.2 t ht)

theorem Val.enc_length (v : Val) (h : v.ok) : v.enc.length ≤ 8200 ∧ 8 ≤ v.enc.length := by
  cases v with
  | num v => exact ⟨by simp [Val.enc, Pk.enc_length], by simp [Val.enc, Pk.enc_length]⟩
  | blob l => have := h.1; simp only [Val.enc, List.length_append, Pk.enc_length]; omega
  | list l => have := h.1; simp only [Val.enc, List.length_append, Pk.enc_length, encs_length]; omega
theorem Val.enc_small (v : Val) (h : v.ok) : ∀ x ∈ v.enc, x < 256 := by
  intro x hx
  cases v with
  | num v => exact Pk.enc_small v x hx
  | blob l => rcases List.mem_append.1 hx with hx | hx; exact Pk.enc_small _ x hx; exact h.2 x hx
  | list l => rcases List.mem_append.1 hx with hx | hx; exact Pk.enc_small _ x hx; exact encs_small _ x hx
theorem encAll_snoc (l : List Val) (v : Val) : encAll (l ++ [v]) = encAll l ++ v.enc := by simp [encAll]
theorem encAll_cons (l : List Val) (v : Val) : encAll (v :: l) = v.enc ++ encAll l := by simp [encAll]
theorem encAll_length (l : List Val) (h : ∀ v ∈ l, v.ok) : (encAll l).length ≤ 8200 * l.length := by
  induction l with
  | nil => simp [encAll]
  | cons v l ih =>
    have h1 := v.enc_length (h v (by simp))
    have h2 := ih (fun x hx => h x (by simp [hx]))
    rw [encAll_cons, List.length_append, List.length_cons]; omega
theorem encAll_small (l : List Val) (h : ∀ v ∈ l, v.ok) : ∀ x ∈ encAll l, x < 256 := by
  intro x hx
  obtain ⟨v, hv, hx⟩ := List.mem_flatMap.1 hx
  exact v.enc_small (h v hv) x hx

/-- a thing is read: is it this one? -/
def rd1 (s : St) : Val → Bool × St
  | .num v => (decide ((rdInt s).1 = v), (rdInt s).2)
  | .blob l => (decide ((rdBlob s).1 = l), (rdBlob s).2)
  | .list l => (decide ((rdInts s).1 = l), (rdInts s).2)
def readAll (s : St) : List Val → Bool × St
  | [] => (true, s)
  | v :: l => if (rd1 s v).1 = true then readAll (rd1 s v).2 l else (false, (rd1 s v).2)

theorem rd1_enc (v : Val) (t : List Nat) (h : v.ok) : rd1 ⟨v.enc ++ t, false⟩ v = (true, ⟨t, false⟩) := by
  cases v with
  | num v => simp only [rd1, Val.enc, rdInt_enc v t false h, decide_true]
  | blob l => simp only [rd1, Val.enc, rdBlob_enc l t h.1, decide_true]
  | list l => simp only [rd1, Val.enc, rdInts_enc l t h.1 h.2, decide_true]
/-- what was put is read again -/
theorem readAll_enc (l : List Val) : ∀ (t : List Nat), (∀ v ∈ l, v.ok) → readAll ⟨encAll l ++ t, false⟩ l = (true, ⟨t, false⟩) := by
  induction l with
  | nil => intro t _; rfl
  | cons v l ih =>
    intro t h
    have h1 := rd1_enc v (encAll l ++ t) (h v (by simp))
    rw [encAll_cons, List.append_assoc]
    unfold readAll
    rw [h1, if_pos rfl]
    exact ih t (fun x hx => h x (by simp [hx]))

/-- things of the same kind that are put as bytes of which one begins with the other are the same -/
theorem rd1_same (v u : Val) (t : List Nat) (hv : v.ok) (hk : v.kind = u.kind) : (rd1 ⟨v.enc ++ t, false⟩ u).2 = ⟨t, false⟩ ∧ ((rd1 ⟨v.enc ++ t, false⟩ u).1 = true ↔ v = u) := by
  cases v with
  | num v => cases u with
    | num u => simp only [rd1, Val.enc, rdInt_enc v t false hv, decide_eq_true_eq, Val.num.injEq, and_self]
    | blob l => cases hk
    | list l => cases hk
  | blob l => cases u with
    | num u => cases hk
    | blob m => simp only [rd1, Val.enc, rdBlob_enc l t hv.1, decide_eq_true_eq, Val.blob.injEq, and_self]
    | list l => cases hk
  | list l => cases u with
    | num u => cases hk
    | blob m => cases hk
    | list m => simp only [rd1, Val.enc, rdInts_enc l t hv.1 hv.2, decide_eq_true_eq, Val.list.injEq, and_self]
theorem readAll_same (a : List Val) : ∀ (b : List Val) (t : List Nat), (∀ v ∈ a, v.ok) → a.map Val.kind = b.map Val.kind → ((readAll ⟨encAll a ++ t, false⟩ b).1 = true ↔ a = b) := by
  induction a with
  | nil =>
    intro b t _ hk
    cases b with
    | nil => simp [readAll]
    | cons u b => cases hk
  | cons v a ih =>
    intro b t h hk
    cases b with
    | nil => cases hk
    | cons u b =>
      simp only [List.map_cons, List.cons.injEq] at hk
      obtain ⟨h1, h2⟩ := rd1_same v u (encAll a ++ t) (h v (by simp)) hk.1
      rw [encAll_cons, List.append_assoc]
      unfold readAll
      by_cases he : v = u
      · rw [if_pos (h2.2 he), h1, ih b t (fun x hx => h x (by simp [hx])) hk.2, he]
        simp
      · rw [if_neg (fun e => he (h2.1 e))]
        simp [he]
theorem enc_begins (a : List Val) : ∀ (b : List Val) (s t : List Nat), (∀ v ∈ a, v.ok) → (∀ v ∈ b, v.ok) → a.map Val.kind = b.map Val.kind → encAll a ++ s = encAll b ++ t → a = b ∧ s = t := by
  intro b s t ha hb hk he
  have h1 := readAll_same a b s ha hk
  rw [he, readAll_enc b t hb] at h1
  have hab := h1.1 rfl
  subst hab
  exact ⟨rfl, List.append_cancel_left he⟩

/-- what is cut off -/
theorem rdInt_cut (v : Int) (n : Nat) (h : n < 8) : rdInt ⟨(enc v).take n, false⟩ = (0, gone) := by
  unfold rdInt
  rw [if_pos (by rw [List.length_take]; omega)]
theorem rd1_gone (v : Val) : (rd1 gone v).2 = gone := by
  cases v with
  | num v => rfl
  | blob l => rfl
  | list l => rfl
theorem readAll_gone (l : List Val) : (readAll gone l).2 = gone := by
  induction l with
  | nil => rfl
  | cons v l ih =>
    unfold readAll
    rw [rd1_gone]
    split
    · exact ih
    · rfl
theorem take_enc_append (e l : List Nat) (n : Nat) (he : e.length = 8) (hn : 8 ≤ n) : (e ++ l).take n = e ++ l.take (n - 8) := by
  rw [List.take_append, he, List.take_of_length_le (by omega)]
theorem rd1_cut (v : Val) (n : Nat) (hv : v.ok) (hn : n < v.enc.length) : (rd1 ⟨v.enc.take n, false⟩ v).2 = gone := by
  cases v with
  | num v => simp only [rd1, Val.enc, rdInt_cut v n (by simpa [Val.enc, Pk.enc_length] using hn)]
  | blob l =>
    simp only [Val.enc, List.length_append, Pk.enc_length] at hn
    simp only [rd1, Val.enc]
    by_cases h8 : n < 8
    · have e : (enc l.length ++ l).take n = (enc l.length).take n := by rw [List.take_append_of_le_length (by rw [Pk.enc_length]; omega)]
      unfold rdBlob
      rw [e, rdInt_cut _ n h8]
      rfl
    · rw [take_enc_append _ _ _ (Pk.enc_length _) (by omega)]
      unfold rdBlob
      rw [rdInt_enc (l.length : Int) _ false (by have := hv.1; omega), if_pos (Or.inr (Or.inr (by simp; omega)))]
  | list l =>
    simp only [Val.enc, List.length_append, Pk.enc_length, encs_length] at hn
    simp only [rd1, Val.enc]
    by_cases h8 : n < 8
    · have e : (enc l.length ++ encs l).take n = (enc l.length).take n := by rw [List.take_append_of_le_length (by rw [Pk.enc_length]; omega)]
      unfold rdInts
      rw [e, rdInt_cut _ n h8]
      rfl
    · rw [take_enc_append _ _ _ (Pk.enc_length _) (by omega)]
      unfold rdInts
      rw [rdInt_enc (l.length : Int) _ false (by have := hv.1; omega), if_pos (Or.inr (Or.inr (by simp [encs_length]; omega)))]
theorem readAll_cut (l : List Val) : ∀ (n : Nat), (∀ v ∈ l, v.ok) → n < (encAll l).length → (readAll ⟨(encAll l).take n, false⟩ l).2 = gone := by
  induction l with
  | nil => intro n _ hn; simp [encAll] at hn
  | cons v l ih =>
    intro n h hn
    rw [encAll_cons] at hn ⊢
    rw [List.length_append] at hn
    have hv := h v (by simp)
    by_cases hc : n < v.enc.length
    · rw [List.take_append_of_le_length (by omega)]
      have h1 := rd1_cut v n hv hc
      unfold readAll
      rw [h1]
      split
      · exact readAll_gone l
      · rfl
    · have e : (v.enc ++ encAll l).take n = v.enc ++ (encAll l).take (n - v.enc.length) := by rw [List.take_append, List.take_of_length_le (by omega)]
      rw [e]
      unfold readAll
      rw [rd1_enc v _ hv, if_pos rfl]
      exact ih _ (fun x hx => h x (by simp [hx])) (by omega)
end Go.Proofs.Ytdmghnfnmgkigaa.Pk
