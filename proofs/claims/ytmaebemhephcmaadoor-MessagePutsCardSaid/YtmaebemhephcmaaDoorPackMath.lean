/- The plain mathematics of package pack: numbers, bytes and lists as bytes, and a reader of them. -/
import Init
namespace Go.Proofs.YtmaebemhephcmaaDoor.Pk

/-- a number out of bytes, the highest first -/
def num (l : List Nat) : Nat := l.foldl (fun a x => a * 256 + x) 0
/-- 64 bits read with a sign -/
def sgn (n : Nat) : Int := if n < 9223372036854775808 then (n : Int) else (n : Int) - 18446744073709551616
/-- byte k of a number, from below -/
def byteOf (v : Int) (k : Nat) : Nat := (v / 2 ^ (8 * k) % 256).toNat
/-- a number's bytes -/
def enc (v : Int) : List Nat := [byteOf v 7, byteOf v 6, byteOf v 5, byteOf v 4, byteOf v 3, byteOf v 2, byteOf v 1, byteOf v 0]
def encs (l : List Int) : List Nat := l.flatMap enc

theorem byteOf_lt (v : Int) (k : Nat) : byteOf v k < 256 := by
  unfold byteOf
  have := Int.emod_nonneg (v / 2 ^ (8 * k)) (show (256 : Int) ≠ 0 by decide)
  have := Int.emod_lt_of_pos (v / 2 ^ (8 * k)) (show (0 : Int) < 256 by decide)
  omega
theorem enc_length (v : Int) : (enc v).length = 8 := rfl
theorem enc_small (v : Int) : ∀ x ∈ enc v, x < 256 := by
  intro x hx
  simp only [enc, List.mem_cons, List.not_mem_nil, or_false] at hx
  rcases hx with rfl | rfl | rfl | rfl | rfl | rfl | rfl | rfl <;> exact byteOf_lt _ _
theorem encs_length (l : List Int) : (encs l).length = 8 * l.length := by
  induction l with
  | nil => rfl
  | cons x l ih => simp only [encs, List.flatMap_cons, List.length_append, enc_length, List.length_cons] at ih ⊢; omega
theorem encs_small (l : List Int) : ∀ x ∈ encs l, x < 256 := by
  intro x hx
  obtain ⟨v, _, hv⟩ := List.mem_flatMap.1 hx
  exact enc_small v x hv
theorem encs_snoc (l : List Int) (v : Int) : encs (l ++ [v]) = encs l ++ enc v := by
  simp [encs]
theorem split_byte (q : Int) : q = 256 * (q / 256) + q % 256 ∧ 0 ≤ q % 256 ∧ q % 256 < 256 := by omega
theorem join_bytes (q : Int) (r0 r1 r2 r3 r4 r5 r6 r7 : Nat) (h7 : q = r7 ∨ q = (r7 : Int) - 256)
    (b0 : r0 < 256) (b1 : r1 < 256) (b2 : r2 < 256) (b3 : r3 < 256) (b4 : r4 < 256) (b5 : r5 < 256) (b6 : r6 < 256) (b7 : r7 < 256) (b8 : -128 ≤ q ∧ q < 128) :
    sgn (((((((((0 * 256 + r7) * 256 + r6) * 256 + r5) * 256 + r4) * 256 + r3) * 256 + r2) * 256 + r1) * 256 + r0)) =
      256 * (256 * (256 * (256 * (256 * (256 * (256 * q + r6) + r5) + r4) + r3) + r2) + r1) + r0 := by
  unfold sgn
  rcases h7 with h7 | h7
  · rw [if_pos (by omega)]; omega
  · rw [if_neg (by omega)]; omega
theorem ediv_pow (v : Int) (k : Nat) : v / 2 ^ (8 * (k + 1)) = v / 2 ^ (8 * k) / 256 := by
  rw [Int.ediv_ediv_of_nonneg (Int.le_of_lt (Int.pow_pos (by decide))), Nat.mul_add, Int.pow_add]; rfl
theorem step_byte (v : Int) (k : Nat) : 256 * (v / 2 ^ (8 * (k + 1))) + (byteOf v k : Nat) = v / 2 ^ (8 * k) := by
  have e := split_byte (v / 2 ^ (8 * k))
  rw [← ediv_pow] at e
  unfold byteOf
  omega
theorem dec_enc (v : Int) (h : -9223372036854775808 ≤ v ∧ v ≤ 9223372036854775807) : sgn (num (enc v)) = v := by
  have hb : -128 ≤ v / 2 ^ (8 * 7) ∧ v / 2 ^ (8 * 7) < 128 := by simp only [Nat.reduceMul, Int.reducePow]; omega
  have h7 : v / 2 ^ (8 * 7) = (byteOf v 7 : Nat) ∨ v / 2 ^ (8 * 7) = ((byteOf v 7 : Nat) : Int) - 256 := by
    have := split_byte (v / 2 ^ (8 * 7))
    unfold byteOf
    omega
  have e := join_bytes (v / 2 ^ (8 * 7)) (byteOf v 0) (byteOf v 1) (byteOf v 2) (byteOf v 3) (byteOf v 4) (byteOf v 5) (byteOf v 6) (byteOf v 7) h7
    (byteOf_lt _ _) (byteOf_lt _ _) (byteOf_lt _ _) (byteOf_lt _ _) (byteOf_lt _ _) (byteOf_lt _ _) (byteOf_lt _ _) (byteOf_lt _ _) hb
  rw [step_byte v 6, step_byte v 5, step_byte v 4, step_byte v 3, step_byte v 2, step_byte v 1, step_byte v 0] at e
  simp only [num, enc, List.foldl_cons, List.foldl_nil]
  rw [e]
  simp
theorem num_snoc (l : List Nat) (x : Nat) : num (l ++ [x]) = num l * 256 + x := by simp [num]
theorem num_lt (l : List Nat) (h : ∀ x ∈ l, x < 256) : num l < 256 ^ l.length := by
  induction hn : l.length generalizing l with
  | zero => have := List.eq_nil_of_length_eq_zero hn; subst this; simp [num]
  | succ n ih =>
    obtain ⟨a, x, rfl⟩ : ∃ a x, l = a ++ [x] := ⟨l.dropLast, l.getLast (by intro e; subst e; simp at hn), (List.dropLast_concat_getLast _).symm⟩
    have h1 := ih a (fun y hy => h y (by simp [hy])) (by simpa using hn)
    have h2 := h x (by simp)
    rw [num_snoc, Nat.pow_succ]
    omega
theorem sgn_in (n : Nat) (h : n < 18446744073709551616) : -9223372036854775808 ≤ sgn n ∧ sgn n ≤ 9223372036854775807 := by
  unfold sgn; split <;> omega

/-- a reader: what is left, and whether it is bad -/
structure St where
  rest : List Nat
  bad : Bool

/-- a bad one has nothing left -/
def St.ok (s : St) : Prop := s.bad = true → s.rest = []
def St.small (s : St) : Prop := ∀ x ∈ s.rest, x < 256
def gone : St := ⟨[], true⟩

def taken (s : St) (n : Int) : List Nat × St :=
  if n < 0 ∨ (s.rest.length : Int) < n then ([], gone) else (s.rest.take n.toNat, ⟨s.rest.drop n.toNat, s.bad⟩)
def rdInt (s : St) : Int × St :=
  if s.rest.length < 8 then (0, gone) else (sgn (num (s.rest.take 8)), ⟨s.rest.drop 8, s.bad⟩)
def rdBlob (s : St) : List Nat × St :=
  if (rdInt s).2.bad = true ∨ (rdInt s).1 < 0 ∨ ((rdInt s).2.rest.length : Int) < (rdInt s).1 then ([], gone)
  else ((rdInt s).2.rest.take (rdInt s).1.toNat, ⟨(rdInt s).2.rest.drop (rdInt s).1.toNat, false⟩)
/-- the first n numbers in bytes -/
def nums (n : Nat) (l : List Nat) : List Int := (List.range n).map fun i => sgn (num ((l.drop (8 * i)).take 8))
def rdInts (s : St) : List Int × St :=
  if (rdInt s).2.bad = true ∨ (rdInt s).1 < 0 ∨ (((rdInt s).2.rest.length : Int) / 8) < (rdInt s).1 then ([], gone)
  else (nums (rdInt s).1.toNat (rdInt s).2.rest, ⟨(rdInt s).2.rest.drop (8 * (rdInt s).1.toNat), false⟩)

theorem gone_ok : gone.ok := fun _ => rfl
theorem gone_small : gone.small := by intro x hx; cases hx
theorem taken_ok (s : St) (n : Int) (h : s.ok) : (taken s n).2.ok := by
  unfold taken
  split
  · exact gone_ok
  · intro hb; have := h hb; simp [this]
theorem taken_small (s : St) (n : Int) (h : s.small) : (taken s n).2.small ∧ ∀ x ∈ (taken s n).1, x < 256 := by
  unfold taken
  split
  · exact ⟨gone_small, by simp⟩
  · exact ⟨fun x hx => h x (List.mem_of_mem_drop hx), fun x hx => h x (List.mem_of_mem_take hx)⟩
theorem rdInt_taken (s : St) : rdInt s = (if s.rest.length < 8 then 0 else sgn (num (taken s 8).1), (taken s 8).2) := by
  unfold rdInt taken
  by_cases h : s.rest.length < 8
  · rw [if_pos h, if_pos h, if_pos (by omega)]
  · rw [if_neg h, if_neg h, if_neg (by omega)]; rfl
theorem rdInt_num (s : St) : (rdInt s).1 = sgn (num (taken s 8).1) := by
  rw [rdInt_taken]
  by_cases h : s.rest.length < 8
  · simp only [if_pos h]; unfold taken; rw [if_pos (by omega)]; rfl
  · simp only [if_neg h]
theorem rdInt_st (s : St) : (rdInt s).2 = (taken s 8).2 := by rw [rdInt_taken]
theorem rdInt_ok (s : St) (h : s.ok) : (rdInt s).2.ok := by rw [rdInt_st]; exact taken_ok s 8 h
theorem rdInt_small (s : St) (h : s.small) : (rdInt s).2.small := by rw [rdInt_st]; exact (taken_small s 8 h).1
theorem take_num_lt (l : List Nat) (h : ∀ x ∈ l, x < 256) : num (l.take 8) < 18446744073709551616 := by
  have h1 := num_lt (l.take 8) (fun x hx => h x (List.mem_of_mem_take hx))
  have h2 : (l.take 8).length ≤ 8 := List.length_take_le _ _
  have h3 : 256 ^ (l.take 8).length ≤ 256 ^ 8 := Nat.pow_le_pow_right (by decide) h2
  have h4 : 256 ^ 8 = 18446744073709551616 := by decide
  omega
theorem rdInt_in (s : St) (h : s.small) : -9223372036854775808 ≤ (rdInt s).1 ∧ (rdInt s).1 ≤ 9223372036854775807 := by
  unfold rdInt
  split
  · exact ⟨by decide, by decide⟩
  · exact sgn_in _ (take_num_lt _ h)
theorem rdInt_short (s : St) : (rdInt s).2.rest.length ≤ s.rest.length := by
  unfold rdInt gone; split <;> simp
theorem rdBlob_ok (s : St) : (rdBlob s).2.ok := by
  unfold rdBlob
  split
  · exact gone_ok
  · intro hb; cases hb
theorem rdBlob_small (s : St) (h : s.small) : (rdBlob s).2.small ∧ ∀ x ∈ (rdBlob s).1, x < 256 := by
  unfold rdBlob
  have := rdInt_small s h
  split
  · exact ⟨gone_small, by simp⟩
  · exact ⟨fun x hx => this x (List.mem_of_mem_drop hx), fun x hx => this x (List.mem_of_mem_take hx)⟩
theorem rdBlob_short (s : St) : (rdBlob s).2.rest.length ≤ s.rest.length ∧ (rdBlob s).1.length ≤ s.rest.length := by
  have := rdInt_short s
  unfold rdBlob gone; split <;> simp <;> omega
theorem taken_rdInt (s : St) (h : s.ok) : taken (rdInt s).2 (rdInt s).1 = rdBlob s := by
  unfold rdBlob taken
  by_cases hb : (rdInt s).2.bad = true
  · rw [if_pos (Or.inl hb)]
    have h1 := rdInt_ok s h hb
    have h2 : (rdInt s).1 = 0 := by
      unfold rdInt at hb h1 ⊢
      by_cases hl : s.rest.length < 8
      · rw [if_pos hl]
      · rw [if_neg hl] at hb h1
        have := h hb
        rw [this] at hl; simp at hl
    have h3 : (rdInt s).2 = gone := by
      cases he : (rdInt s).2 with
      | mk r b => rw [he] at h1 hb; simp only at h1 hb; subst h1; subst hb; rfl
    rw [h2, h3]
    simp [gone]
  · by_cases hn : (rdInt s).1 < 0 ∨ ((rdInt s).2.rest.length : Int) < (rdInt s).1
    · rw [if_pos hn, if_pos (Or.inr hn)]
    · rw [if_neg hn, if_neg (by rintro (h | h) <;> contradiction)]
      have : (rdInt s).2.bad = false := by simpa using hb
      rw [this]
theorem nums_length (n : Nat) (l : List Nat) : (nums n l).length = n := by simp [nums]
theorem nums_snoc (n : Nat) (l : List Nat) : nums (n + 1) l = nums n l ++ [sgn (num ((l.drop (8 * n)).take 8))] := by
  unfold nums; rw [List.range_succ, List.map_append]; rfl
theorem rdInt_drop (l : List Nat) (b : Bool) (k n : Nat) (hk : k < n) (hn : 8 * n ≤ l.length) : rdInt ⟨l.drop (8 * k), b⟩ = (sgn (num ((l.drop (8 * k)).take 8)), ⟨l.drop (8 * (k + 1)), b⟩) := by
  unfold rdInt
  rw [if_neg (by simp; omega)]
  simp only [List.drop_drop]
  rw [show 8 * k + 8 = 8 * (k + 1) from by omega]
theorem rdInt_bad (s : St) (h : s.ok) (hb : (rdInt s).2.bad = true) : (rdInt s).1 = 0 ∧ (rdInt s).2 = gone := by
  have h1 := rdInt_ok s h hb
  have h3 : (rdInt s).2 = gone := by
    cases he : (rdInt s).2 with
    | mk r b => rw [he] at h1 hb; simp only at h1 hb; subst h1; subst hb; rfl
  refine ⟨?_, h3⟩
  unfold rdInt at hb ⊢
  by_cases hl : s.rest.length < 8
  · rw [if_pos hl]
  · rw [if_neg hl] at hb
    have := h hb
    rw [this] at hl; simp at hl
theorem rdInts_bad (s : St) (hb : (rdInt s).2.bad = true) : rdInts s = ([], gone) := by
  unfold rdInts
  rw [if_pos (Or.inl hb)]
theorem rdInts_wrong (s : St) (h : (rdInt s).1 < 0 ∨ (((rdInt s).2.rest.length : Int) / 8) < (rdInt s).1) : rdInts s = ([], gone) := by
  unfold rdInts
  rw [if_pos (Or.inr h)]
theorem rdInts_right (s : St) (n : Nat) (hb : (rdInt s).2.bad = false) (hn : (rdInt s).1 = n) (h : 8 * n ≤ (rdInt s).2.rest.length) : rdInts s = (nums n (rdInt s).2.rest, ⟨(rdInt s).2.rest.drop (8 * n), false⟩) := by
  unfold rdInts
  rw [if_neg (by rw [hb, hn]; simp; omega), hn]
  rfl
theorem nums_in (n : Nat) (l : List Nat) (h : ∀ x ∈ l, x < 256) : ∀ v ∈ nums n l, -9223372036854775808 ≤ v ∧ v ≤ 9223372036854775807 := by
  intro v hv
  obtain ⟨i, _, rfl⟩ := List.mem_map.1 hv
  exact sgn_in _ (take_num_lt _ (fun x hx => h x (List.mem_of_mem_drop hx)))
theorem rdInts_ok (s : St) : (rdInts s).2.ok := by
  unfold rdInts
  split
  · exact gone_ok
  · intro hb; cases hb
theorem rdInts_small (s : St) (h : s.small) : (rdInts s).2.small := by
  unfold rdInts
  have := rdInt_small s h
  split
  · exact gone_small
  · exact fun x hx => this x (List.mem_of_mem_drop hx)
theorem rdInts_in (s : St) (h : s.small) : ∀ v ∈ (rdInts s).1, -9223372036854775808 ≤ v ∧ v ≤ 9223372036854775807 := by
  unfold rdInts
  split
  · intro v hv; cases hv
  · exact nums_in _ _ (rdInt_small s h)
theorem rdInts_short (s : St) : (rdInts s).2.rest.length ≤ s.rest.length ∧ 8 * (rdInts s).1.length ≤ s.rest.length := by
  have := rdInt_short s
  unfold rdInts gone
  split
  · simp
  · rename_i h
    simp only [not_or] at h
    simp only [List.length_drop, nums_length]
    omega

/-- a thing that is put -/
inductive Val where
  | num (v : Int)
  | blob (l : List Nat)
  | list (l : List Int)
def Val.enc : Val → List Nat
  | .num v => Pk.enc v
  | .blob l => Pk.enc l.length ++ l
  | .list l => Pk.enc l.length ++ encs l
def Val.ok : Val → Prop
  | .num v => -9223372036854775808 ≤ v ∧ v ≤ 9223372036854775807
  | .blob l => l.length ≤ 1024 ∧ ∀ x ∈ l, x < 256
  | .list l => l.length ≤ 1024 ∧ ∀ v ∈ l, -9223372036854775808 ≤ v ∧ v ≤ 9223372036854775807
def Val.kind : Val → Nat
  | .num _ => 0
  | .blob _ => 1
  | .list _ => 2
def encAll (l : List Val) : List Nat := l.flatMap Val.enc

theorem rdInt_enc (v : Int) (t : List Nat) (b : Bool) (h : -9223372036854775808 ≤ v ∧ v ≤ 9223372036854775807) : rdInt ⟨enc v ++ t, b⟩ = (v, ⟨t, b⟩) := by
  unfold rdInt
  rw [if_neg (by simp [enc_length])]
  have e : (enc v ++ t).take 8 = enc v := by rw [List.take_left' (enc_length v)]
  have e' : (enc v ++ t).drop 8 = t := by rw [List.drop_left' (enc_length v)]
  simp only [e, e', dec_enc v h]
theorem rdBlob_enc (l t : List Nat) (h : l.length ≤ 1024) : rdBlob ⟨enc l.length ++ l ++ t, false⟩ = (l, ⟨t, false⟩) := by
  have e := rdInt_enc (l.length : Int) (l ++ t) false (by omega)
  unfold rdBlob
  rw [List.append_assoc, e, if_neg (by simp; omega)]
  simp
theorem nums_encs (l : List Int) (t : List Nat) (h : ∀ v ∈ l, -9223372036854775808 ≤ v ∧ v ≤ 9223372036854775807) : nums l.length (encs l ++ t) = l := by
  apply List.ext_getElem
  · exact nums_length _ _
  · intro i h1 h2
    have e : l = l.take i ++ l[i] :: l.drop (i + 1) := by simp
    have e2 : encs l ++ t = encs (l.take i) ++ (enc l[i] ++ (encs (l.drop (i + 1)) ++ t)) := by
      conv => lhs; rw [e]
      simp only [encs, List.flatMap_append, List.flatMap_cons, List.append_assoc]
    have e3 : (encs (l.take i)).length = 8 * i := by rw [encs_length, List.length_take, Nat.min_eq_left (by omega)]
    simp only [nums, List.getElem_map, List.getElem_range]
    rw [e2, List.drop_left' e3, List.take_left' (enc_length _)]
    exact dec_enc _ (h _ (List.getElem_mem _))
theorem rdInts_enc (l : List Int) (t : List Nat) (h : l.length ≤ 1024) (hv : ∀ v ∈ l, -9223372036854775808 ≤ v ∧ v ≤ 9223372036854775807) :
    rdInts ⟨enc l.length ++ encs l ++ t, false⟩ = (l, ⟨t, false⟩) := by
  have e := rdInt_enc (l.length : Int) (encs l ++ t) false (by omega)
  have el := encs_length l
  unfold rdInts
  rw [List.append_assoc, e, if_neg (by simp [el]; omega)]
  simp only [Int.toNat_natCast]
  rw [nums_encs l t hv, List.drop_left' el]
end Go.Proofs.YtmaebemhephcmaaDoor.Pk
