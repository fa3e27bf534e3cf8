/- Texts of the proof, one behind the other: PackMath, Crc, FrameMath, Mem, RlMath. -/
import Init
import Derived.Laws.BitsAllLaws
import Derived.WalkKit
import Derived.WalkSpells
import Derived.Deep.Draws
import Derived.Laws.AppendOwnNone
namespace Go.Proofs.YtpigekbfngalbaaDoor.Pk

/-- a number out of bytes, the highest first -/
def num (l : List Nat) : Nat := l.foldl (fun a x => a * 256 + x) 0
/-- 64 bits read with a sign -/
def sgn (n : Nat) : Int := if n < 9223372036854775808 then (n : Int) else (n : Int) - 18446744073709551616
/-- byte k of a number, from below -/
def byteOf (v : Int) (k : Nat) : Nat := (v / 2 ^ (8 * k) % 256).toNat
/-- a number's bytes -/
def enc (v : Int) : List Nat := [byteOf v 7, byteOf v 6, byteOf v 5, byteOf v 4, byteOf v 3, byteOf v 2, byteOf v 1, byteOf v 0]
def encs (l : List Int) : List Nat := l.flatMap enc

theorem byteOf_lt (v : Int) (k : Nat) : byteOf v k < 256 := by
  unfold byteOf
  have := Int.emod_nonneg (v / 2 ^ (8 * k)) (show (256 : Int) ≠ 0 by decide)
  have := Int.emod_lt_of_pos (v / 2 ^ (8 * k)) (show (0 : Int) < 256 by decide)
  omega
theorem enc_length (v : Int) : (enc v).length = 8 := rfl
theorem enc_small (v : Int) : ∀ x ∈ enc v, x < 256 := by
  intro x hx
  simp only [enc, List.mem_cons, List.not_mem_nil, or_false] at hx
  rcases hx with rfl | rfl | rfl | rfl | rfl | rfl | rfl | rfl <;> exact byteOf_lt _ _
theorem encs_length (l : List Int) : (encs l).length = 8 * l.length := by
  induction l with
  | nil => rfl
  | cons x l ih => simp only [encs, List.flatMap_cons, List.length_append, enc_length, List.length_cons] at ih ⊢; omega
theorem encs_small (l : List Int) : ∀ x ∈ encs l, x < 256 := by
  intro x hx
  obtain ⟨v, _, hv⟩ := List.mem_flatMap.1 hx
  exact enc_small v x hv
theorem encs_snoc (l : List Int) (v : Int) : encs (l ++ [v]) = encs l ++ enc v := by
  simp [encs]
theorem split_byte (q : Int) : q = 256 * (q / 256) + q % 256 ∧ 0 ≤ q % 256 ∧ q % 256 < 256 := by omega
theorem join_bytes (q : Int) (r0 r1 r2 r3 r4 r5 r6 r7 : Nat) (h7 : q = r7 ∨ q = (r7 : Int) - 256)
    (b0 : r0 < 256) (b1 : r1 < 256) (b2 : r2 < 256) (b3 : r3 < 256) (b4 : r4 < 256) (b5 : r5 < 256) (b6 : r6 < 256) (b7 : r7 < 256) (b8 : -128 ≤ q ∧ q < 128) :
    sgn (((((((((0 * 256 + r7) * 256 + r6) * 256 + r5) * 256 + r4) * 256 + r3) * 256 + r2) * 256 + r1) * 256 + r0)) =
      256 * (256 * (256 * (256 * (256 * (256 * (256 * q + r6) + r5) + r4) + r3) + r2) + r1) + r0 := by
  unfold sgn
  rcases h7 with h7 | h7
  · rw [if_pos (by omega)]; omega
  · rw [if_neg (by omega)]; omega
theorem ediv_pow (v : Int) (k : Nat) : v / 2 ^ (8 * (k + 1)) = v / 2 ^ (8 * k) / 256 := by
  rw [Int.ediv_ediv_of_nonneg (Int.le_of_lt (Int.pow_pos (by decide))), Nat.mul_add, Int.pow_add]; rfl
theorem step_byte (v : Int) (k : Nat) : 256 * (v / 2 ^ (8 * (k + 1))) + (byteOf v k : Nat) = v / 2 ^ (8 * k) := by
  have e := split_byte (v / 2 ^ (8 * k))
  rw [← ediv_pow] at e
  unfold byteOf
  omega
theorem dec_enc (v : Int) (h : -9223372036854775808 ≤ v ∧ v ≤ 9223372036854775807) : sgn (num (enc v)) = v := by
  have hb : -128 ≤ v / 2 ^ (8 * 7) ∧ v / 2 ^ (8 * 7) < 128 := by simp only [Nat.reduceMul, Int.reducePow]; omega
  have h7 : v / 2 ^ (8 * 7) = (byteOf v 7 : Nat) ∨ v / 2 ^ (8 * 7) = ((byteOf v 7 : Nat) : Int) - 256 := by
    have := split_byte (v / 2 ^ (8 * 7))
    unfold byteOf
    omega
  have e := join_bytes (v / 2 ^ (8 * 7)) (byteOf v 0) (byteOf v 1) (byteOf v 2) (byteOf v 3) (byteOf v 4) (byteOf v 5) (byteOf v 6) (byteOf v 7) h7
    (byteOf_lt _ _) (byteOf_lt _ _) (byteOf_lt _ _) (byteOf_lt _ _) (byteOf_lt _ _) (byteOf_lt _ _) (byteOf_lt _ _) (byteOf_lt _ _) hb
  rw [step_byte v 6, step_byte v 5, step_byte v 4, step_byte v 3, step_byte v 2, step_byte v 1, step_byte v 0] at e
  simp only [num, enc, List.foldl_cons, List.foldl_nil]
  rw [e]
  simp
theorem num_snoc (l : List Nat) (x : Nat) : num (l ++ [x]) = num l * 256 + x := by simp [num]
theorem num_lt (l : List Nat) (h : ∀ x ∈ l, x < 256) : num l < 256 ^ l.length := by
  induction hn : l.length generalizing l with
  | zero => have := List.eq_nil_of_length_eq_zero hn; subst this; simp [num]
  | succ n ih =>
    obtain ⟨a, x, rfl⟩ : ∃ a x, l = a ++ [x] := ⟨l.dropLast, l.getLast (by intro e; subst e; simp at hn), (List.dropLast_concat_getLast _).symm⟩
    have h1 := ih a (fun y hy => h y (by simp [hy])) (by simpa using hn)
    have h2 := h x (by simp)
    rw [num_snoc, Nat.pow_succ]
    omega
theorem sgn_in (n : Nat) (h : n < 18446744073709551616) : -9223372036854775808 ≤ sgn n ∧ sgn n ≤ 9223372036854775807 := by
  unfold sgn; split <;> omega

/-- a reader: what is left, and whether it is bad -/
structure St where
  rest : List Nat
  bad : Bool

/-- a bad one has nothing left -/
def St.ok (s : St) : Prop := s.bad = true → s.rest = []
def St.small (s : St) : Prop := ∀ x ∈ s.rest, x < 256
def gone : St := ⟨[], true⟩

def taken (s : St) (n : Int) : List Nat × St :=
  if n < 0 ∨ (s.rest.length : Int) < n then ([], gone) else (s.rest.take n.toNat, ⟨s.rest.drop n.toNat, s.bad⟩)
def rdInt (s : St) : Int × St :=
  if s.rest.length < 8 then (0, gone) else (sgn (num (s.rest.take 8)), ⟨s.rest.drop 8, s.bad⟩)
def rdBlob (s : St) : List Nat × St :=
  if (rdInt s).2.bad = true ∨ (rdInt s).1 < 0 ∨ ((rdInt s).2.rest.length : Int) < (rdInt s).1 then ([], gone)
  else ((rdInt s).2.rest.take (rdInt s).1.toNat, ⟨(rdInt s).2.rest.drop (rdInt s).1.toNat, false⟩)
/-- the first n numbers in bytes -/
def nums (n : Nat) (l : List Nat) : List Int := (List.range n).map fun i => sgn (num ((l.drop (8 * i)).take 8))
def rdInts (s : St) : List Int × St :=
  if (rdInt s).2.bad = true ∨ (rdInt s).1 < 0 ∨ (((rdInt s).2.rest.length : Int) / 8) < (rdInt s).1 then ([], gone)
  else (nums (rdInt s).1.toNat (rdInt s).2.rest, ⟨(rdInt s).2.rest.drop (8 * (rdInt s).1.toNat), false⟩)

theorem gone_ok : gone.ok := fun _ => rfl
theorem gone_small : gone.small := by intro x hx; cases hx
theorem taken_ok (s : St) (n : Int) (h : s.ok) : (taken s n).2.ok := by
  unfold taken
  split
  · exact gone_ok
  · intro hb; have := h hb; simp [this]
theorem taken_small (s : St) (n : Int) (h : s.small) : (taken s n).2.small ∧ ∀ x ∈ (taken s n).1, x < 256 := by
  unfold taken
  split
  · exact ⟨gone_small, by simp⟩
  · exact ⟨fun x hx => h x (List.mem_of_mem_drop hx), fun x hx => h x (List.mem_of_mem_take hx)⟩
theorem rdInt_taken (s : St) : rdInt s = (if s.rest.length < 8 then 0 else sgn (num (taken s 8).1), (taken s 8).2) := by
  unfold rdInt taken
  by_cases h : s.rest.length < 8
  · rw [if_pos h, if_pos h, if_pos (by omega)]
  · rw [if_neg h, if_neg h, if_neg (by omega)]; rfl
theorem rdInt_num (s : St) : (rdInt s).1 = sgn (num (taken s 8).1) := by
  rw [rdInt_taken]
  by_cases h : s.rest.length < 8
  · simp only [if_pos h]; unfold taken; rw [if_pos (by omega)]; rfl
  · simp only [if_neg h]
theorem rdInt_st (s : St) : (rdInt s).2 = (taken s 8).2 := by rw [rdInt_taken]
theorem rdInt_ok (s : St) (h : s.ok) : (rdInt s).2.ok := by rw [rdInt_st]; exact taken_ok s 8 h
theorem rdInt_small (s : St) (h : s.small) : (rdInt s).2.small := by rw [rdInt_st]; exact (taken_small s 8 h).1
theorem take_num_lt (l : List Nat) (h : ∀ x ∈ l, x < 256) : num (l.take 8) < 18446744073709551616 := by
  have h1 := num_lt (l.take 8) (fun x hx => h x (List.mem_of_mem_take hx))
  have h2 : (l.take 8).length ≤ 8 := List.length_take_le _ _
  have h3 : 256 ^ (l.take 8).length ≤ 256 ^ 8 := Nat.pow_le_pow_right (by decide) h2
  have h4 : 256 ^ 8 = 18446744073709551616 := by decide
  omega
theorem rdInt_in (s : St) (h : s.small) : -9223372036854775808 ≤ (rdInt s).1 ∧ (rdInt s).1 ≤ 9223372036854775807 := by
  unfold rdInt
  split
  · exact ⟨by decide, by decide⟩
  · exact sgn_in _ (take_num_lt _ h)
theorem rdInt_short (s : St) : (rdInt s).2.rest.length ≤ s.rest.length := by
  unfold rdInt gone; split <;> simp
theorem rdBlob_ok (s : St) : (rdBlob s).2.ok := by
  unfold rdBlob
  split
  · exact gone_ok
  · intro hb; cases hb
theorem rdBlob_small (s : St) (h : s.small) : (rdBlob s).2.small ∧ ∀ x ∈ (rdBlob s).1, x < 256 := by
  unfold rdBlob
  have := rdInt_small s h
  split
  · exact ⟨gone_small, by simp⟩
  · exact ⟨fun x hx => this x (List.mem_of_mem_drop hx), fun x hx => this x (List.mem_of_mem_take hx)⟩
theorem rdBlob_short (s : St) : (rdBlob s).2.rest.length ≤ s.rest.length ∧ (rdBlob s).1.length ≤ s.rest.length := by
  have := rdInt_short s
  unfold rdBlob gone; split <;> simp <;> omega
theorem taken_rdInt (s : St) (h : s.ok) : taken (rdInt s).2 (rdInt s).1 = rdBlob s := by
  unfold rdBlob taken
  by_cases hb : (rdInt s).2.bad = true
  · rw [if_pos (Or.inl hb)]
    have h1 := rdInt_ok s h hb
    have h2 : (rdInt s).1 = 0 := by
      unfold rdInt at hb h1 ⊢
      by_cases hl : s.rest.length < 8
      · rw [if_pos hl]
      · rw [if_neg hl] at hb h1
        have := h hb
        rw [this] at hl; simp at hl
    have h3 : (rdInt s).2 = gone := by
      cases he : (rdInt s).2 with
      | mk r b => rw [he] at h1 hb; simp only at h1 hb; subst h1; subst hb; rfl
    rw [h2, h3]
    simp [gone]
  · by_cases hn : (rdInt s).1 < 0 ∨ ((rdInt s).2.rest.length : Int) < (rdInt s).1
    · rw [if_pos hn, if_pos (Or.inr hn)]
    · rw [if_neg hn, if_neg (by rintro (h | h) <;> contradiction)]
      have : (rdInt s).2.bad = false := by simpa using hb
      rw [this]
theorem nums_length (n : Nat) (l : List Nat) : (nums n l).length = n := by simp [nums]
theorem nums_snoc (n : Nat) (l : List Nat) : nums (n + 1) l = nums n l ++ [sgn (num ((l.drop (8 * n)).take 8))] := by
  unfold nums; rw [List.range_succ, List.map_append]; rfl
theorem rdInt_drop (l : List Nat) (b : Bool) (k n : Nat) (hk : k < n) (hn : 8 * n ≤ l.length) : rdInt ⟨l.drop (8 * k), b⟩ = (sgn (num ((l.drop (8 * k)).take 8)), ⟨l.drop (8 * (k + 1)), b⟩) := by
  unfold rdInt
  rw [if_neg (by simp; omega)]
  simp only [List.drop_drop]
  rw [show 8 * k + 8 = 8 * (k + 1) from by omega]
theorem rdInt_bad (s : St) (h : s.ok) (hb : (rdInt s).2.bad = true) : (rdInt s).1 = 0 ∧ (rdInt s).2 = gone := by
  have h1 := rdInt_ok s h hb
  have h3 : (rdInt s).2 = gone := by
    cases he : (rdInt s).2 with
    | mk r b => rw [he] at h1 hb; simp only at h1 hb; subst h1; subst hb; rfl
  refine ⟨?_, h3⟩
  unfold rdInt at hb ⊢
  by_cases hl : s.rest.length < 8
  · rw [if_pos hl]
  · rw [if_neg hl] at hb
    have := h hb
    rw [this] at hl; simp at hl
theorem rdInts_bad (s : St) (hb : (rdInt s).2.bad = true) : rdInts s = ([], gone) := by
  unfold rdInts
  rw [if_pos (Or.inl hb)]
theorem rdInts_wrong (s : St) (h : (rdInt s).1 < 0 ∨ (((rdInt s).2.rest.length : Int) / 8) < (rdInt s).1) : rdInts s = ([], gone) := by
  unfold rdInts
  rw [if_pos (Or.inr h)]
theorem rdInts_right (s : St) (n : Nat) (hb : (rdInt s).2.bad = false) (hn : (rdInt s).1 = n) (h : 8 * n ≤ (rdInt s).2.rest.length) : rdInts s = (nums n (rdInt s).2.rest, ⟨(rdInt s).2.rest.drop (8 * n), false⟩) := by
  unfold rdInts
  rw [if_neg (by rw [hb, hn]; simp; omega), hn]
  rfl
theorem nums_in (n : Nat) (l : List Nat) (h : ∀ x ∈ l, x < 256) : ∀ v ∈ nums n l, -9223372036854775808 ≤ v ∧ v ≤ 9223372036854775807 := by
  intro v hv
  obtain ⟨i, _, rfl⟩ := List.mem_map.1 hv
  exact sgn_in _ (take_num_lt _ (fun x hx => h x (List.mem_of_mem_drop hx)))
theorem rdInts_ok (s : St) : (rdInts s).2.ok := by
  unfold rdInts
  split
  · exact gone_ok
  · intro hb; cases hb
theorem rdInts_small (s : St) (h : s.small) : (rdInts s).2.small := by
  unfold rdInts
  have := rdInt_small s h
  split
  · exact gone_small
  · exact fun x hx => this x (List.mem_of_mem_drop hx)
theorem rdInts_in (s : St) (h : s.small) : ∀ v ∈ (rdInts s).1, -9223372036854775808 ≤ v ∧ v ≤ 9223372036854775807 := by
  unfold rdInts
  split
  · intro v hv; cases hv
  · exact nums_in _ _ (rdInt_small s h)
theorem rdInts_short (s : St) : (rdInts s).2.rest.length ≤ s.rest.length ∧ 8 * (rdInts s).1.length ≤ s.rest.length := by
  have := rdInt_short s
  unfold rdInts gone
  split
  · simp
  · rename_i h
    simp only [not_or] at h
    simp only [List.length_drop, nums_length]
    omega

/-- a thing that is put -/
inductive Val where
  | num (v : Int)
  | blob (l : List Nat)
  | list (l : List Int)
def Val.enc : Val → List Nat
  | .num v => Pk.enc v
  | .blob l => Pk.enc l.length ++ l
  | .list l => Pk.enc l.length ++ encs l
def Val.ok : Val → Prop
  | .num v => -9223372036854775808 ≤ v ∧ v ≤ 9223372036854775807
  | .blob l => l.length ≤ 1024 ∧ ∀ x ∈ l, x < 256
  | .list l => l.length ≤ 1024 ∧ ∀ v ∈ l, -9223372036854775808 ≤ v ∧ v ≤ 9223372036854775807
def Val.kind : Val → Nat
  | .num _ => 0
  | .blob _ => 1
  | .list _ => 2
def encAll (l : List Val) : List Nat := l.flatMap Val.enc

theorem rdInt_enc (v : Int) (t : List Nat) (b : Bool) (h : -9223372036854775808 ≤ v ∧ v ≤ 9223372036854775807) : rdInt ⟨enc v ++ t, b⟩ = (v, ⟨t, b⟩) := by
  unfold rdInt
  rw [if_neg (by simp [enc_length])]
  have e : (enc v ++ t).take 8 = enc v := by rw [List.take_left' (enc_length v)]
  have e' : (enc v ++ t).drop 8 = t := by rw [List.drop_left' (enc_length v)]
  simp only [e, e', dec_enc v h]
theorem rdBlob_enc (l t : List Nat) (h : l.length ≤ 1024) : rdBlob ⟨enc l.length ++ l ++ t, false⟩ = (l, ⟨t, false⟩) := by
  have e := rdInt_enc (l.length : Int) (l ++ t) false (by omega)
  unfold rdBlob
  rw [List.append_assoc, e, if_neg (by simp; omega)]
  simp
theorem nums_encs (l : List Int) (t : List Nat) (h : ∀ v ∈ l, -9223372036854775808 ≤ v ∧ v ≤ 9223372036854775807) : nums l.length (encs l ++ t) = l := by
  apply List.ext_getElem
  · exact nums_length _ _
  · intro i h1 h2
    have e : l = l.take i ++ l[i] :: l.drop (i + 1) := by simp
    have e2 : encs l ++ t = encs (l.take i) ++ (enc l[i] ++ (encs (l.drop (i + 1)) ++ t)) := by
      conv => lhs; rw [e]
      simp only [encs, List.flatMap_append, List.flatMap_cons, List.append_assoc]
    have e3 : (encs (l.take i)).length = 8 * i := by rw [encs_length, List.length_take, Nat.min_eq_left (by omega)]
    simp only [nums, List.getElem_map, List.getElem_range]
    rw [e2, List.drop_left' e3, List.take_left' (enc_length _)]
    exact dec_enc _ (h _ (List.getElem_mem _))
theorem rdInts_enc (l : List Int) (t : List Nat) (h : l.length ≤ 1024) (hv : ∀ v ∈ l, -9223372036854775808 ≤ v ∧ v ≤ 9223372036854775807) :
    rdInts ⟨enc l.length ++ encs l ++ t, false⟩ = (l, ⟨t, false⟩) := by
  have e := rdInt_enc (l.length : Int) (encs l ++ t) false (by omega)
  have el := encs_length l
  unfold rdInts
  rw [List.append_assoc, e, if_neg (by simp [el]; omega)]
  simp only [Int.toNat_natCast]
  rw [nums_encs l t hv, List.drop_left' el]
end Go.Proofs.YtpigekbfngalbaaDoor.Pk
namespace Go.Proofs.YtpigekbfngalbaaDoor.Crc

def step (r : Nat) : Nat := if r % 2 = 1 then (r / 2) ^^^ 2197175160 else r / 2
def steps : Nat → Nat → Nat
  | 0, r => r
  | n + 1, r => steps n (step r)
def byte (r c : Nat) : Nat := steps 8 (r ^^^ c)
def feed (r : Nat) (l : List Nat) : Nat := l.foldl byte r
def cplK (k r : Nat) : Nat := k ^^^ r
def cpl (r : Nat) : Nat := cplK 4294967295 r
def more (s : Nat) (l : List Nat) : Nat := cpl (feed (cpl s) l)
/-- the bytes as one number, the first byte lowest -/
def num : List Nat → Nat
  | [] => 0
  | c :: l => c ^^^ (256 * num l)

theorem xor_mod2 (a b : Nat) : (a ^^^ b) % 2 = (a % 2 + b % 2) % 2 := by
  have := Nat.testBit_xor a b 0
  simp only [Nat.testBit_zero] at this
  rcases Nat.mod_two_eq_zero_or_one a with ha | ha <;> rcases Nat.mod_two_eq_zero_or_one b with hb | hb <;>
    rcases Nat.mod_two_eq_zero_or_one (a ^^^ b) with hc | hc <;> simp_all
theorem xor_div2 (a b : Nat) : (a ^^^ b) / 2 = (a / 2) ^^^ (b / 2) := by
  have := Nat.shiftRight_xor_distrib (a := a) (b := b) (i := 1)
  simpa [Nat.shiftRight_succ] using this
theorem xor_left_comm (a b c : Nat) : a ^^^ (b ^^^ c) = b ^^^ (a ^^^ c) := by
  rw [← Nat.xor_assoc, Nat.xor_comm a b, Nat.xor_assoc]
theorem xor_cancel (a b : Nat) : a ^^^ (a ^^^ b) = b := by rw [← Nat.xor_assoc, Nat.xor_self, Nat.zero_xor]
theorem cplK2 (k r : Nat) : cplK k (cplK k r) = r := xor_cancel k r
theorem step_xor (a b : Nat) : step (a ^^^ b) = step a ^^^ step b := by
  unfold step
  rw [xor_mod2, xor_div2]
  rcases Nat.mod_two_eq_zero_or_one a with ha | ha <;> rcases Nat.mod_two_eq_zero_or_one b with hb | hb <;>
    simp [ha, hb, Nat.xor_assoc, Nat.xor_comm, xor_left_comm]
theorem steps_xor (n : Nat) : ∀ a b, steps n (a ^^^ b) = steps n a ^^^ steps n b := by
  induction n with
  | zero => intro a b; rfl
  | succ n ih => intro a b; simp only [steps]; rw [step_xor, ih]
theorem steps_add (m n : Nat) : ∀ a, steps (m + n) a = steps n (steps m a) := by
  induction m with
  | zero => intro a; simp [steps]
  | succ m ih => intro a; rw [show m + 1 + n = (m + n) + 1 from by omega]; simp only [steps]; rw [ih]
theorem steps_up (k : Nat) : ∀ a, steps k (2 ^ k * a) = a := by
  induction k with
  | zero => intro a; simp [steps]
  | succ k ih =>
    intro a
    simp only [steps]
    have e : 2 ^ (k + 1) * a = 2 * (2 ^ k * a) := by rw [Nat.pow_succ]; simp [Nat.mul_comm, Nat.mul_left_comm]
    have : step (2 ^ (k + 1) * a) = 2 ^ k * a := by
      rw [e]; unfold step; rw [if_neg (by omega)]; omega
    rw [this, ih]
theorem step_lt (a : Nat) (h : a < 4294967296) : step a < 4294967296 := by
  unfold step
  split
  · have h1 : a / 2 < 2 ^ 32 := by omega
    have := Nat.xor_lt_two_pow h1 (show 2197175160 < 2 ^ 32 by decide)
    simpa using this
  · omega
theorem steps_lt (n : Nat) : ∀ a, a < 4294967296 → steps n a < 4294967296 := by
  induction n with
  | zero => intro a h; exact h
  | succ n ih => intro a h; exact ih _ (step_lt a h)
theorem xor_lt (a b : Nat) (ha : a < 4294967296) (hb : b < 4294967296) : a ^^^ b < 4294967296 := by
  have := Nat.xor_lt_two_pow (n := 32) (by simpa using ha) (by simpa using hb)
  simpa using this
theorem step_ne (a : Nat) (h : a < 4294967296) (h0 : a ≠ 0) : step a ≠ 0 := by
  unfold step
  split
  · intro e
    have e2 : (a / 2 ^^^ 2197175160) ^^^ 2197175160 = 2197175160 := by rw [e]; simp
    rw [Nat.xor_assoc, Nat.xor_self, Nat.xor_zero] at e2
    omega
  · omega
theorem steps_ne (n : Nat) : ∀ a, a < 4294967296 → a ≠ 0 → steps n a ≠ 0 := by
  induction n with
  | zero => intro a _ h; exact h
  | succ n ih => intro a h h0; exact ih _ (step_lt a h) (step_ne a h h0)
theorem steps_zero (n : Nat) : steps n 0 = 0 := by
  induction n with
  | zero => rfl
  | succ n ih => simp only [steps]; exact ih

theorem byte_lt (r c : Nat) (hr : r < 4294967296) (hc : c < 256) : byte r c < 4294967296 :=
  steps_lt 8 _ (xor_lt r c hr (by omega))
theorem feed_lt (l : List Nat) : ∀ r, r < 4294967296 → (∀ x ∈ l, x < 256) → feed r l < 4294967296 := by
  induction l with
  | nil => intro r h _; exact h
  | cons c l ih =>
    intro r h hl
    exact ih _ (byte_lt r c h (hl c (by simp))) (fun x hx => hl x (by simp [hx]))
theorem cpl_lt (r : Nat) (h : r < 4294967296) : cpl r < 4294967296 := by
  have h1 : (4294967295 : Nat) < 2 ^ 32 := by omega
  have := Nat.xor_lt_two_pow (n := 32) h1 (show r < 2 ^ 32 by omega)
  unfold cpl cplK; omega
theorem cpl_cpl (r : Nat) : cpl (cpl r) = r := cplK2 4294967295 r
theorem more_lt (s : Nat) (l : List Nat) (hs : s < 4294967296) (hl : ∀ x ∈ l, x < 256) : more s l < 4294967296 := by
  unfold more
  exact cpl_lt _ (feed_lt l _ (cpl_lt s hs) hl)
theorem feed_append (r : Nat) (a b : List Nat) : feed r (a ++ b) = feed (feed r a) b := by
  unfold feed; rw [List.foldl_append]
theorem feed_snoc (r : Nat) (a : List Nat) (c : Nat) : feed r (a ++ [c]) = byte (feed r a) c := by
  unfold feed; rw [List.foldl_append]; rfl
/-- P1.3 -/
theorem more_append (s : Nat) (a b : List Nat) : more s (a ++ b) = more (more s a) b := by
  unfold more; rw [feed_append, cpl_cpl]

/-- to feed bytes: the whole number is combined with the register, then so many steps -/
theorem feed_num (l : List Nat) : ∀ r, feed r l = steps (8 * l.length) (r ^^^ num l) := by
  induction l with
  | nil => intro r; simp [feed, num, steps]
  | cons c l ih =>
    intro r
    have h1 : feed r (c :: l) = feed (byte r c) l := rfl
    have h2 : steps 8 (r ^^^ num (c :: l)) = byte r c ^^^ num l := by
      have e : r ^^^ num (c :: l) = (r ^^^ c) ^^^ (2 ^ 8 * num l) := by
        show r ^^^ (c ^^^ 256 * num l) = _
        rw [Nat.xor_assoc]
      rw [e, steps_xor, steps_up]; rfl
    rw [h1, ih, List.length_cons, show 8 * (l.length + 1) = 8 + 8 * l.length from by omega, steps_add, h2]

theorem num_zeros (n : Nat) : num (List.replicate n 0) = 0 := by
  induction n with
  | zero => rfl
  | succ n ih => rw [List.replicate_succ]; show 0 ^^^ 256 * num (List.replicate n 0) = 0; rw [ih]; rfl

/-- two rows laid over one another -/
def over : List Nat → List Nat → List Nat
  | a :: l, b :: m => (a ^^^ b) :: over l m
  | _, _ => []
theorem over_length (a : List Nat) : ∀ b, a.length = b.length → (over a b).length = a.length := by
  induction a with
  | nil => intro b _; cases b <;> rfl
  | cons x a ih =>
    intro b h
    cases b with
    | nil => simp at h
    | cons y b => simp only [over, List.length_cons]; rw [ih b (by simpa using h)]
theorem over_get (a : List Nat) : ∀ (b : List Nat) (k : Nat) (ha : k < a.length) (hb : k < b.length) {h : k < (over a b).length}, (over a b)[k] = a[k] ^^^ b[k] := by
  induction a with
  | nil => intro b k ha; simp at ha
  | cons u a ih =>
    intro b k ha hb h
    cases b with
    | nil => simp at hb
    | cons v b =>
      cases k with
      | zero => rfl
      | succ k => exact ih b k (by simpa using ha) (by simpa using hb)
theorem over_lt (a : List Nat) : ∀ b, (∀ x ∈ a, x < 256) → (∀ x ∈ b, x < 256) → ∀ x ∈ over a b, x < 256 := by
  induction a with
  | nil => intro b _ _ x hx; cases b <;> simp [over] at hx
  | cons u a ih =>
    intro b ha hb x hx
    cases b with
    | nil => simp [over] at hx
    | cons v b =>
      simp only [over, List.mem_cons] at hx
      rcases hx with rfl | hx
      · have := Nat.xor_lt_two_pow (n := 8) (ha u (by simp)) (hb v (by simp))
        simpa using this
      · exact ih b (fun y hy => ha y (by simp [hy])) (fun y hy => hb y (by simp [hy])) x hx
theorem mul_xor (a b : Nat) : 256 * (a ^^^ b) = 256 * a ^^^ 256 * b := by
  have := Nat.shiftLeft_xor_distrib (a := a) (b := b) (i := 8)
  simpa [Nat.shiftLeft_eq, Nat.mul_comm] using this
theorem num_over (a : List Nat) : ∀ b, a.length = b.length → num (over a b) = num a ^^^ num b := by
  induction a with
  | nil => intro b h; cases b with
    | nil => rfl
    | cons => simp at h
  | cons x a ih =>
    intro b h
    cases b with
    | nil => simp at h
    | cons y b =>
      show (x ^^^ y) ^^^ 256 * num (over a b) = (x ^^^ 256 * num a) ^^^ (y ^^^ 256 * num b)
      rw [ih b (by simpa using h), mul_xor]
      simp [Nat.xor_assoc, xor_left_comm]
/-- P1.5 -/
theorem laid (a b : List Nat) (h : a.length = b.length) :
    (more 0 a ^^^ more 0 b) ^^^ more 0 (over a b) = more 0 (List.replicate a.length 0) := by
  unfold more
  rw [feed_num, feed_num, feed_num, feed_num, over_length a b h, num_over a b h, num_zeros, List.length_replicate, ← h]
  simp only [steps_xor, cpl, cplK]
  generalize steps (8 * a.length) (4294967295 ^^^ 0) = p
  generalize steps (8 * a.length) (num a) = q
  generalize steps (8 * a.length) (num b) = s
  rw [steps_zero]
  simp [Nat.xor_assoc, Nat.xor_comm, xor_left_comm, xor_cancel]

theorem num_set (l : List Nat) : ∀ (k j : Nat) (h : k < l.length),
    num (l.set k (l[k] ^^^ 2 ^ j)) = num l ^^^ 2 ^ (8 * k + j) := by
  induction l with
  | nil => intro k j h; simp at h
  | cons c l ih =>
    intro k j h
    cases k with
    | zero =>
      show (c ^^^ 2 ^ j) ^^^ 256 * num l = (c ^^^ 256 * num l) ^^^ 2 ^ (8 * 0 + j)
      rw [show 8 * 0 + j = j from by omega, Nat.xor_assoc, Nat.xor_assoc, Nat.xor_comm (2 ^ j)]
    | succ k =>
      have h' : k < l.length := by simpa using h
      show c ^^^ 256 * num (l.set k (l[k] ^^^ 2 ^ j)) = (c ^^^ 256 * num l) ^^^ 2 ^ (8 * (k + 1) + j)
      rw [ih k j h', mul_xor, show 256 * 2 ^ (8 * k + j) = 2 ^ (8 * (k + 1) + j) from by
        rw [show 8 * (k + 1) + j = 8 + (8 * k + j) from by omega, Nat.pow_add 2 8]]
      rw [Nat.xor_assoc]
theorem byte_flip_lt (c j : Nat) (hc : c < 256) (hj : j < 8) : c ^^^ 2 ^ j < 256 := by
  have h2 : 2 ^ j < 2 ^ 8 := Nat.pow_lt_pow_right (by decide) hj
  have := Nat.xor_lt_two_pow (n := 8) hc h2
  simpa using this
/-- P1.4 -/
theorem seen (b c : List Nat) (at' E : Nat) (hl : c.length = b.length) (hE : E < 4294967296) (ha : E ≠ 0 → at' ≤ 8 * b.length)
    (hn : num c = num b ^^^ 2 ^ at' * E) : (more 0 c = more 0 b) ↔ E = 0 := by
  have key : feed (cpl 0) c = feed (cpl 0) b ^^^ steps (8 * b.length) (2 ^ at' * E) := by
    rw [feed_num, feed_num, hl, hn, ← steps_xor, ← Nat.xor_assoc]
  constructor
  · intro h
    rcases Nat.eq_zero_or_pos E with h0 | h0
    · exact h0
    · exfalso
      have h1 : feed (cpl 0) c = feed (cpl 0) b := by
        have := congrArg cpl h
        simpa [more, cpl_cpl] using this
      rw [h1] at key
      have h2 : steps (8 * b.length) (2 ^ at' * E) = 0 := by
        have := congrArg (feed (cpl 0) b ^^^ ·) key
        simp only [Nat.xor_self] at this
        rw [← Nat.xor_assoc, Nat.xor_self, Nat.zero_xor] at this
        exact this.symm
      have h3 := ha (by omega)
      rw [show 8 * b.length = at' + (8 * b.length - at') from by omega, steps_add, steps_up] at h2
      exact steps_ne _ E hE (by omega) h2
  · rintro rfl
    unfold more
    rw [key]
    simp [steps_zero]
theorem xor_pow (E i : Nat) (h : E < 2 ^ i) : E ^^^ 2 ^ i = E + 2 ^ i := by
  have := Nat.two_pow_add_eq_or_of_lt h 1
  apply Nat.eq_of_testBit_eq
  intro j
  rw [Nat.testBit_xor, Nat.add_comm, show 2 ^ i + E = 2 ^ i * 1 + E from by omega, this, Nat.testBit_or]
  rw [Nat.mul_one]
  rcases Nat.lt_trichotomy j i with hj | hj | hj
  · simp [show i ≠ j by omega]
  · subst hj
    simp [Nat.testBit_lt_two_pow h]
  · have : E < 2 ^ j := Nat.lt_of_lt_of_le h (Nat.pow_le_pow_right (by decide) (by omega))
    simp [show i ≠ j by omega]
theorem pow_mul_xor (p a b : Nat) : 2 ^ p * (a ^^^ b) = 2 ^ p * a ^^^ 2 ^ p * b := by
  have := Nat.shiftLeft_xor_distrib (a := a) (b := b) (i := p)
  simpa [Nat.shiftLeft_eq, Nat.mul_comm] using this
theorem flip (l0 L : List Nat) (p i E : Nat) (hq : (p + i) / 8 < L.length) (hE : E < 2 ^ i) (h : num L = num l0 ^^^ 2 ^ p * E) :
    num (L.set ((p + i) / 8) (L[(p + i) / 8] ^^^ 2 ^ ((p + i) % 8))) = num l0 ^^^ 2 ^ p * (E + 2 ^ i) := by
  rw [num_set L _ _ hq, h, ← xor_pow E i hE, pow_mul_xor, Nat.xor_assoc, ← Nat.pow_add, show 8 * ((p + i) / 8) + (p + i) % 8 = p + i from by omega]
end Go.Proofs.YtpigekbfngalbaaDoor.Crc
namespace Go.Proofs.YtpigekbfngalbaaDoor.Fr

def be4 (v : Nat) : List Nat := [v / 16777216 % 256, v / 65536 % 256, v / 256 % 256, v % 256]
/-- the number that bytes say, the highest first -/
def n4 (l : List Nat) : Nat := l.foldl (fun v x => v * 256 + x) 0
def sum (h p : List Nat) : Nat := Crc.more (Crc.more 0 h) p
def frame (p : List Nat) : List Nat := be4 p.length ++ (be4 (sum (be4 p.length) p) ++ p)
/-- what is told of bytes: the payload, the number of bytes, the error -/
def get (b : List Nat) : List Nat × Nat × Nat :=
  if b.length < 8 then ([], 0, 1)
  else if 65536 < n4 (b.take 4) then ([], 0, 2)
  else if b.length - 8 < n4 (b.take 4) then ([], 0, 1)
  else if n4 ((b.drop 4).take 4) ≠ sum (b.take 4) ((b.drop 8).take (n4 (b.take 4))) then ([], 0, 5)
  else ((b.drop 8).take (n4 (b.take 4)), 8 + n4 (b.take 4), 0)

theorem be4_length (v : Nat) : (be4 v).length = 4 := rfl
theorem be4_lt (v : Nat) : ∀ x ∈ be4 v, x < 256 := by
  intro x hx
  simp only [be4, List.mem_cons, List.not_mem_nil, or_false] at hx
  omega
theorem n4_be4 (v : Nat) (h : v < 4294967296) : n4 (be4 v) = v := by
  simp only [n4, be4, List.foldl_cons, List.foldl_nil]
  omega
theorem n4_snoc (l : List Nat) (x : Nat) : n4 (l ++ [x]) = n4 l * 256 + x := by unfold n4; rw [List.foldl_append]; rfl
theorem four (l : List Nat) (h : l.length = 4) : ∃ a b c d, l = [a, b, c, d] := by
  match l, h with
  | [a, b, c, d], _ => exact ⟨a, b, c, d, rfl⟩
theorem n4_four (a b c d : Nat) : n4 [a, b, c, d] = ((a * 256 + b) * 256 + c) * 256 + d := by simp [n4]
theorem n4_lt (l : List Nat) (hl : l.length = 4) (h : ∀ x ∈ l, x < 256) : n4 l < 4294967296 := by
  obtain ⟨a, b, c, d, rfl⟩ := four l hl
  rw [n4_four]
  have h1 := h a (by simp)
  have h2 := h b (by simp)
  have h3 := h c (by simp)
  have h4 := h d (by simp)
  omega
theorem be4_n4 (l : List Nat) (hl : l.length = 4) (h : ∀ x ∈ l, x < 256) : be4 (n4 l) = l := by
  obtain ⟨a, b, c, d, rfl⟩ := four l hl
  rw [n4_four]
  have h1 := h a (by simp)
  have h2 := h b (by simp)
  have h3 := h c (by simp)
  have h4 := h d (by simp)
  unfold be4
  rw [show (((a * 256 + b) * 256 + c) * 256 + d) / 16777216 % 256 = a by omega, show (((a * 256 + b) * 256 + c) * 256 + d) / 65536 % 256 = b by omega,
    show (((a * 256 + b) * 256 + c) * 256 + d) / 256 % 256 = c by omega, show (((a * 256 + b) * 256 + c) * 256 + d) % 256 = d by omega]
theorem sum_lt (h p : List Nat) (hh : ∀ x ∈ h, x < 256) (hp : ∀ x ∈ p, x < 256) : sum h p < 4294967296 := Crc.more_lt _ _ (Crc.more_lt 0 h (by omega) hh) hp
theorem frame_length (p : List Nat) : (frame p).length = 8 + p.length := by
  unfold frame; rw [List.length_append, List.length_append, be4_length, be4_length]; omega
theorem frame_lt (p : List Nat) (hp : ∀ x ∈ p, x < 256) : ∀ x ∈ frame p, x < 256 := by
  intro x hx
  unfold frame at hx
  rcases List.mem_append.1 hx with hx | hx
  · exact be4_lt _ x hx
  · rcases List.mem_append.1 hx with hx | hx
    · exact be4_lt _ x hx
    · exact hp x hx
/-- bytes by their parts: a length, a checksum, what follows -/
theorem get_parts (h s r : List Nat) (hh : h.length = 4) (hs : s.length = 4) : get (h ++ (s ++ r)) =
    if 65536 < n4 h then ([], 0, 2) else if r.length < n4 h then ([], 0, 1) else if n4 s ≠ sum h (r.take (n4 h)) then ([], 0, 5) else (r.take (n4 h), 8 + n4 h, 0) := by
  have e1 : (h ++ (s ++ r)).take 4 = h := by rw [← hh]; exact List.take_left' rfl
  have e2 : (h ++ (s ++ r)).drop 4 = s ++ r := by rw [← hh]; exact List.drop_left' rfl
  have e3 : (h ++ (s ++ r)).drop 8 = r := by
    rw [show 8 = 4 + 4 from rfl, ← List.drop_drop, e2, ← hs]; exact List.drop_left' rfl
  have e4 : (s ++ r).take 4 = s := by rw [← hs]; exact List.take_left' rfl
  have e5 : (h ++ (s ++ r)).length = 8 + r.length := by rw [List.length_append, List.length_append]; omega
  unfold get
  rw [e1, e2, e3, e4, e5, if_neg (by omega), Nat.add_sub_cancel_left]
theorem parts (b : List Nat) : b = b.take 4 ++ ((b.drop 4).take 4 ++ b.drop 8) := by
  have e : b.drop 8 = (b.drop 4).drop 4 := by rw [List.drop_drop]
  rw [e, List.take_append_drop, List.take_append_drop]
/-- what is told with no error is a payload, else nothing -/
theorem get_cases (b : List Nat) : (get b = ([], 0, 1) ∨ get b = ([], 0, 2) ∨ get b = ([], 0, 5)) ∨
    (8 ≤ b.length ∧ n4 (b.take 4) ≤ 65536 ∧ n4 (b.take 4) ≤ b.length - 8 ∧ n4 ((b.drop 4).take 4) = sum (b.take 4) ((b.drop 8).take (n4 (b.take 4))) ∧
      get b = ((b.drop 8).take (n4 (b.take 4)), 8 + n4 (b.take 4), 0)) := by
  unfold get
  split
  · exact .inl (.inl rfl)
  · split
    · exact .inl (.inr (.inl rfl))
    · split
      · exact .inl (.inl rfl)
      · split
        · exact .inl (.inr (.inr rfl))
        · rename_i h1 h2 h3 h4
          exact .inr ⟨by omega, by omega, by omega, Classical.not_not.1 h4, rfl⟩
/-- P3.3: there and back, whatever follows -/
theorem back (p more : List Nat) (hp : ∀ x ∈ p, x < 256) (hl : p.length ≤ 65536) : get (frame p ++ more) = (p, 8 + p.length, 0) := by
  unfold frame
  rw [List.append_assoc, List.append_assoc, get_parts _ _ _ (be4_length _) (be4_length _), n4_be4 _ (by omega), n4_be4 _ (sum_lt _ _ (be4_lt _) hp),
    if_neg (by omega), if_neg (by rw [List.length_append]; omega), List.take_left' rfl, if_neg (by simp)]
/-- P3.3: what was read, framed again -/
theorem only (b p : List Nat) (n : Nat) (hb : ∀ x ∈ b, x < 256) (h : get b = (p, n, 0)) : n ≤ b.length ∧ p.length ≤ 65536 ∧ frame p = b.take n := by
  rcases get_cases b with (e | e | e) | ⟨h8, h1, h2, h3, e⟩
  · rw [h] at e; injection e with _ e; injection e with _ e; cases e
  · rw [h] at e; injection e with _ e; injection e with _ e; cases e
  · rw [h] at e; injection e with _ e; injection e with _ e; cases e
  · rw [h] at e
    injection e with e1 e
    injection e with e2 _
    have l4 : (b.take 4).length = 4 := by rw [List.length_take]; omega
    have s4 : ∀ x ∈ b.take 4, x < 256 := fun x hx => hb x (List.mem_of_mem_take hx)
    have l8 : ((b.drop 4).take 4).length = 4 := by rw [List.length_take, List.length_drop]; omega
    have s8 : ∀ x ∈ (b.drop 4).take 4, x < 256 := fun x hx => hb x (List.mem_of_mem_drop (List.mem_of_mem_take hx))
    have hpl : p.length = n4 (b.take 4) := by rw [e1, List.length_take, List.length_drop]; omega
    refine ⟨by omega, by omega, ?_⟩
    unfold frame
    rw [hpl, be4_n4 _ l4 s4, e1, ← h3, be4_n4 _ l8 s8, e2]
    have e3 : b.take (8 + n4 (b.take 4)) = b.take 8 ++ (b.drop 8).take (n4 (b.take 4)) := by rw [List.take_add]
    have e4 : b.take 8 = b.take 4 ++ (b.drop 4).take 4 := by rw [show 8 = 4 + 4 from rfl, List.take_add]
    rw [e3, e4, List.append_assoc]
/-- P3.3: no beginning of a frame is one -/
theorem cut (p : List Nat) (k : Nat) (hl : p.length ≤ 65536) (hk : k < 8 + p.length) : get ((frame p).take k) = ([], 0, 1) := by
  have e : ((frame p).take k).length = k := by rw [List.length_take, frame_length]; omega
  by_cases h8 : k < 8
  · unfold get; rw [e, if_pos h8]
  · have e1 : (frame p).take k = be4 p.length ++ (be4 (sum (be4 p.length) p) ++ p.take (k - 8)) := by
      unfold frame
      rw [List.take_append, be4_length, List.take_of_length_le (by rw [be4_length]; omega), List.take_append, be4_length, List.take_of_length_le (by rw [be4_length]; omega), show k - 4 - 4 = k - 8 from by omega]
    rw [e1, get_parts _ _ _ (be4_length _) (be4_length _), n4_be4 _ (by omega), if_neg (by omega), if_pos (by rw [List.length_take]; omega)]

theorem num_append (a b : List Nat) : Crc.num (a ++ b) = Crc.num a ^^^ 2 ^ (8 * a.length) * Crc.num b := by
  induction a with
  | nil => simp [Crc.num]
  | cons c a ih =>
    show c ^^^ 256 * Crc.num (a ++ b) = (c ^^^ 256 * Crc.num a) ^^^ 2 ^ (8 * (a.length + 1)) * Crc.num b
    rw [ih, Crc.mul_xor, Nat.xor_assoc]
    congr 2
    rw [← Nat.mul_assoc]
    congr 1
    rw [show 8 * (a.length + 1) = 8 + 8 * a.length from by omega, Nat.pow_add]
theorem num_inj (a : List Nat) : ∀ b, a.length = b.length → (∀ x ∈ a, x < 256) → (∀ x ∈ b, x < 256) → Crc.num a = Crc.num b → a = b := by
  induction a with
  | nil => intro b h _ _ _; cases b with
    | nil => rfl
    | cons => simp at h
  | cons x a ih =>
    intro b h ha hb e
    cases b with
    | nil => simp at h
    | cons y b =>
      have e' : x ^^^ 256 * Crc.num a = y ^^^ 256 * Crc.num b := e
      have hx := ha x (by simp)
      have hy := hb y (by simp)
      have m : (x ^^^ 2 ^ 8 * Crc.num a) % 2 ^ 8 = (y ^^^ 2 ^ 8 * Crc.num b) % 2 ^ 8 := by rw [show (2 : Nat) ^ 8 = 256 from rfl, e']
      have d : (x ^^^ 2 ^ 8 * Crc.num a) / 2 ^ 8 = (y ^^^ 2 ^ 8 * Crc.num b) / 2 ^ 8 := by rw [show (2 : Nat) ^ 8 = 256 from rfl, e']
      rw [Nat.xor_mod_two_pow, Nat.xor_mod_two_pow, Nat.mul_mod_right, Nat.mul_mod_right, Nat.xor_zero, Nat.xor_zero, Nat.mod_eq_of_lt (by simpa using hx), Nat.mod_eq_of_lt (by simpa using hy)] at m
      rw [Nat.xor_div_two_pow, Nat.xor_div_two_pow, Nat.mul_div_cancel_left _ (by decide), Nat.mul_div_cancel_left _ (by decide), Nat.div_eq_of_lt (by simpa using hx), Nat.div_eq_of_lt (by simpa using hy), Nat.zero_xor, Nat.zero_xor] at d
      rw [m, ih b (by simpa using h) (fun z hz => ha z (by simp [hz])) (fun z hz => hb z (by simp [hz])) d]
theorem xor_zero_of (a b : Nat) (h : a = a ^^^ b) : b = 0 := by
  have := congrArg (a ^^^ ·) h
  simp only [Nat.xor_self, Crc.xor_cancel] at this
  exact this.symm
/-- P3.4: a length of which something is turned -/
theorem turned_length (h p s : List Nat) (hh : h.length = 4) (hs : s.length = 4) (sh : ∀ x ∈ h, x < 256) (hne : h ≠ be4 p.length) :
    ((get (h ++ (s ++ p))).2.2 ≠ 0 ∧ (get (h ++ (s ++ p))).2.1 = 0 ∧ (get (h ++ (s ++ p))).1 = []) ∨ ((get (h ++ (s ++ p))).2.2 = 0 ∧ (get (h ++ (s ++ p))).2.1 < 8 + p.length) := by
  have hn : n4 h ≠ p.length := fun e => hne (by rw [← e, be4_n4 h hh sh])
  rw [get_parts h s p hh hs]
  split
  · exact .inl ⟨by decide, rfl, rfl⟩
  · split
    · exact .inl ⟨by decide, rfl, rfl⟩
    · split
      · exact .inl ⟨by decide, rfl, rfl⟩
      · exact .inr ⟨rfl, by show 8 + n4 h < 8 + p.length; omega⟩
/-- P3.4: a checksum of which something is turned -/
theorem turned_sum (p m : List Nat) (q E : Nat) (hl : p.length ≤ 65536) (hm : m.length = 4) (sm : ∀ x ∈ m, x < 256)
    (hn : Crc.num m = Crc.num (be4 (sum (be4 p.length) p)) ^^^ 2 ^ q * E) :
    (E = 0 → be4 p.length ++ (m ++ p) = frame p) ∧ (E ≠ 0 → get (be4 p.length ++ (m ++ p)) = ([], 0, 5)) := by
  constructor
  · rintro rfl
    rw [Nat.mul_zero, Nat.xor_zero] at hn
    rw [num_inj m _ (by rw [hm, be4_length]) sm (be4_lt _) hn]
    rfl
  · intro h0
    have hne : n4 m ≠ sum (be4 p.length) p := by
      intro e
      have : be4 (n4 m) = m := be4_n4 m hm sm
      rw [e] at this
      rw [this] at hn
      have := xor_zero_of _ _ hn
      have h2 : 0 < 2 ^ q := Nat.pow_pos (by decide)
      rcases Nat.mul_eq_zero.1 this with h | h
      · omega
      · exact h0 h
    rw [get_parts _ _ _ (be4_length _) hm, n4_be4 _ (by omega), if_neg (by omega), if_neg (by omega), List.take_of_length_le (Nat.le_refl _), if_pos hne]
/-- P3.4: a payload of which something is turned -/
theorem turned_payload (p m : List Nat) (q E : Nat) (hl : p.length ≤ 65536) (hp : ∀ x ∈ p, x < 256) (hm : m.length = p.length) (sm : ∀ x ∈ m, x < 256) (hE : E < 4294967296) (hq : E ≠ 0 → q ≤ 8 * p.length)
    (hn : Crc.num m = Crc.num p ^^^ 2 ^ q * E) :
    (E = 0 → be4 p.length ++ (be4 (sum (be4 p.length) p) ++ m) = frame p) ∧ (E ≠ 0 → get (be4 p.length ++ (be4 (sum (be4 p.length) p) ++ m)) = ([], 0, 5)) := by
  constructor
  · rintro rfl
    rw [Nat.mul_zero, Nat.xor_zero] at hn
    rw [num_inj m p hm sm hp hn]
    rfl
  · intro h0
    have hne : sum (be4 p.length) p ≠ sum (be4 p.length) m := by
      intro e
      unfold sum at e
      rw [← Crc.more_append, ← Crc.more_append] at e
      refine h0 ((Crc.seen (be4 p.length ++ p) (be4 p.length ++ m) (32 + q) E (by simp [hm]) hE (fun h => ?_) ?_).1 e.symm)
      · have := hq h
        rw [List.length_append, be4_length]; omega
      · rw [num_append, num_append, hn, be4_length, Crc.pow_mul_xor, ← Nat.mul_assoc, ← Nat.pow_add, Nat.xor_assoc]
    rw [get_parts _ _ _ (be4_length _) (be4_length _), n4_be4 _ (by omega), n4_be4 _ (sum_lt _ _ (be4_lt _) hp), if_neg (by omega), if_neg (by omega), List.take_of_length_le (by omega), if_pos hne]
theorem set_mid (X m Y : List Nat) (j v : Nat) (hj : j < m.length) : (X ++ (m ++ Y)).set (X.length + j) v = X ++ (m.set j v ++ Y) := by
  rw [List.set_append_right _ _ (by omega), Nat.add_sub_cancel_left, List.set_append_left _ _ hj]
theorem get_mid (X m Y : List Nat) (j k : Nat) (hj : j < m.length) (hk : k = X.length + j) (h : k < (X ++ (m ++ Y)).length) : (X ++ (m ++ Y))[k] = m[j] := by
  subst hk
  rw [List.getElem_append_right (by omega), List.getElem_append_left (by omega)]
  congr 1
  omega
/-- P3.4: one bit of the length -/
theorem turned_one (p : List Nat) (j b : Nat) (hj : j < 4) (hb : b < 8) (h : j < (frame p).length) :
    ∃ Q m e, get ((frame p).set j ((frame p)[j] ^^^ 2 ^ b)) = (Q, m, e) ∧ ((e ≠ 0 ∧ m = 0 ∧ Q = []) ∨ (e = 0 ∧ m < 8 + p.length)) := by
  have hj4 : j < (be4 p.length).length := hj
  have e1 : (frame p)[j] = (be4 p.length)[j] := List.getElem_append_left hj4
  have e2 : (frame p).set j ((frame p)[j] ^^^ 2 ^ b) = (be4 p.length).set j ((be4 p.length)[j] ^^^ 2 ^ b) ++ (be4 (sum (be4 p.length) p) ++ p) := by
    rw [e1]; unfold frame; rw [List.set_append_left _ _ hj4]
  rw [e2]
  have hs : ∀ x ∈ (be4 p.length).set j ((be4 p.length)[j] ^^^ 2 ^ b), x < 256 := by
    intro x hx
    rcases List.mem_or_eq_of_mem_set hx with hx | rfl
    · exact be4_lt _ x hx
    · exact Crc.byte_flip_lt _ _ (be4_lt _ _ (List.getElem_mem hj4)) hb
  have hne : (be4 p.length).set j ((be4 p.length)[j] ^^^ 2 ^ b) ≠ be4 p.length := by
    intro e
    have e3 : ((be4 p.length).set j ((be4 p.length)[j] ^^^ 2 ^ b))[j]'(by rw [List.length_set]; exact hj4) = (be4 p.length)[j] := by
      simp only [e]
    rw [List.getElem_set_self] at e3
    have := xor_zero_of _ _ e3.symm
    have h2 : 0 < 2 ^ b := Nat.pow_pos (by decide)
    omega
  rcases turned_length _ p (be4 (sum (be4 p.length) p)) (by rw [List.length_set]; rfl) rfl hs hne with ⟨h1, h2, h3⟩ | ⟨h1, h2⟩
  · exact ⟨_, _, _, rfl, .inl ⟨h1, h2, h3⟩⟩
  · exact ⟨_, _, _, rfl, .inr ⟨h1, h2⟩⟩
/-- a frame by the part that bits are turned in -/
def Ends (p X m0 Y : List Nat) (q : Nat) : Prop := ∀ m E, m.length = m0.length → (∀ x ∈ m, x < 256) → E < 4294967296 → Crc.num m = Crc.num m0 ^^^ 2 ^ q * E →
  (E = 0 → X ++ (m ++ Y) = frame p) ∧ (E ≠ 0 → get (X ++ (m ++ Y)) = ([], 0, 5))
theorem ends_sum (p : List Nat) (q : Nat) (hl : p.length ≤ 65536) : ∃ X m0 Y : List Nat, X.length = 4 ∧ m0.length = 4 ∧ X ++ (m0 ++ Y) = frame p ∧ Ends p X m0 Y q :=
  ⟨be4 p.length, be4 (sum (be4 p.length) p), p, rfl, rfl, rfl, fun m E hm sm _ hn => turned_sum p m q E hl hm sm hn⟩
theorem ends_payload (p : List Nat) (q : Nat) (hl : p.length ≤ 65536) (hp : ∀ x ∈ p, x < 256) (hq : q ≤ 8 * p.length) : ∃ X m0 Y : List Nat, X.length = 8 ∧ m0.length = p.length ∧ X ++ (m0 ++ Y) = frame p ∧ Ends p X m0 Y q :=
  ⟨be4 p.length ++ be4 (sum (be4 p.length) p), p, [], rfl, rfl, by rw [List.append_nil, List.append_assoc]; rfl, fun m E hm sm hE hn => by
    rw [List.append_nil, List.append_assoc]
    exact turned_payload p m q E hl hp hm sm hE (fun _ => hq) hn⟩
end Go.Proofs.YtpigekbfngalbaaDoor.Fr
namespace Go.Proofs.YtpigekbfngalbaaDoor
open Go.RowKit

/-- a fact that the walk must not take for a rule -/
theorem hid {p : Prop} (h : p) : Hid p := h

theorem below_drewN {B : Nat} {a w : World} (h : Below B a w) (n : Nat) : Below B a (w.drewN n) := ⟨h.os, h.tape, h.output, h.size, h.block⟩

/-- the values of bytes -/
def bytes (l : List Nat) : List Value := l.map fun (x : Nat) => Value.int .u8 (x : Int)

/-- Below block B of the world w, a slice of bytes at the address A holds the numbers l (an empty one may lie anywhere). -/
structure IsBytes (w : World) (B : Nat) (A : Option Addr) (l : List Nat) : Prop where
  small : ∀ x ∈ l, x < 256
  cells : ∀ k, k < l.length → ∃ b off, A = some ⟨b, off, none⟩ ∧ b < B ∧ ∀ i (h : i < l.length), w.cell? ⟨b, off + i, none⟩ = some (.int .u8 (l[i] : Nat))

namespace IsBytes
variable {w w' : World} {B B' : Nat} {A : Option Addr} {l : List Nat}
theorem nil : IsBytes w B A [] := ⟨by simp, fun k h => by simp at h⟩
theorem keep (h : IsBytes w B A l) (hk : ∀ p : Addr, p.block < B → w'.cell? p = w.cell? p) : IsBytes w' B A l :=
  ⟨h.small, fun k hl => by
    obtain ⟨b, off, e, hb, hc⟩ := h.cells k hl
    exact ⟨b, off, e, hb, fun i hi => (hk _ hb).trans (hc i hi)⟩⟩
theorem more (h : IsBytes w B A l) (hB : B ≤ B') : IsBytes w B' A l :=
  ⟨h.small, fun k hl => by
    obtain ⟨b, off, e, hb, hc⟩ := h.cells k hl
    exact ⟨b, off, e, by omega, hc⟩⟩
theorem below (h : IsBytes w B A l) (hb : Below B w w') : IsBytes w' B A l := h.keep fun _ hp => hb.cell hp
theorem take (h : IsBytes w B A l) (n : Nat) : IsBytes w B A (l.take n) := by
  refine ⟨fun x hx => h.small x (List.mem_of_mem_take hx), fun k hk => ?_⟩
  rw [List.length_take] at hk
  obtain ⟨b, off, e, hb, hc⟩ := h.cells k (by omega)
  refine ⟨b, off, e, hb, fun i hi => ?_⟩
  rw [List.length_take] at hi
  rw [List.getElem_take]
  exact hc i (by omega)
theorem drewN (h : IsBytes w B A l) (n : Nat) : IsBytes (w.drewN n) B A l := ⟨h.small, h.cells⟩
theorem drew (h : IsBytes w B A l) : IsBytes w.drew B A l := ⟨h.small, h.cells⟩
end IsBytes
theorem isBytes_of_ints {W : World} {x : Addr} {len cap : Nat} {zs : List Int} (hl : len ≤ cap) (hz : zs.length = cap)
    (hcell : ∀ i, i < zs.length → W.cell? (x.add i) = some (.int .u8 (zs.getD i 0))) (hwz : ∀ n ∈ zs, (Lit.int .u8 n).wf = true) :
    ∃ l : List Nat, IsBytes W W.heap.size (some x) l ∧ len = l.length := by
  have hb : ∀ n ∈ zs, 0 ≤ n ∧ n < 256 := fun n hn => by
    have := hwz n hn
    simp [Lit.wf, IntKind.min, IntKind.max, IntKind.signed, IntKind.bits] at this
    omega
  refine ⟨(zs.take len).map Int.toNat, ⟨fun y hy => ?_, fun k hk => ?_⟩, by simp; omega⟩
  · obtain ⟨n, hn, rfl⟩ := List.mem_map.1 hy
    have := hb n (List.mem_of_mem_take hn)
    omega
  · have hk' : k < zs.length := by simp at hk; omega
    obtain ⟨b, off, spot⟩ := x
    have hspot : spot = none := by
      have := World.cell?_spot (hcell 0 (by omega))
      simpa [Addr.add] using this
    subst hspot
    have hadd : ∀ i, (⟨b, off, none⟩ : Addr).add i = ⟨b, off + i, none⟩ := fun i => by unfold Addr.add; split <;> simp [*]
    have hc : ∀ i, i < zs.length → W.cell? ⟨b, off + i, none⟩ = some (.int .u8 (zs.getD i 0)) := fun i hi => by rw [← hadd]; exact hcell i hi
    refine ⟨b, off, rfl, World.block_lt_of_cell? _ _ (hc k hk'), fun i hi => ?_⟩
    have hi' : i < zs.length := by simp at hi; omega
    rw [hc i hi', List.getElem_map, List.getElem_take, Int.toNat_of_nonneg (hb _ (List.getElem_mem hi')).1, List.getD_eq_getElem?_getD, List.getElem?_eq_getElem hi']
    rfl

/-- A slice of bytes (e: the number of the type uint8), at A, of capacity c, that the call itself has made: its block is not below base. -/
structure OwnsB (e : TypeId) (w : World) (base : Nat) (A : Option Addr) (c : Nat) (l : List Nat) : Prop where
  small : ∀ x ∈ l, x < 256
  row : w.ownsRow base e 1 (.slice A l.length c) l.length (bytes l)

theorem bytes_get (l : List Nat) (k : Nat) (h : k < l.length) : (bytes l)[k]? = some (.int .u8 (l[k] : Nat)) := by
  unfold bytes; rw [List.getElem?_map, List.getElem?_eq_getElem h]; rfl

theorem own_slice {w : World} {base : Nat} {e : TypeId} {size n : Nat} {v : Value} {xs : List Value} (h : w.ownsRow base e size v n xs) : ∃ A c, v = .slice A n c := by
  rcases h.2 with ⟨rfl, h0⟩ | ⟨g, cap, cur, rfl, _⟩
  · exact ⟨none, 0, by rw [h0]⟩
  · exact ⟨_, _, rfl⟩

namespace OwnsB
variable {e : TypeId} {w w' : World} {base : Nat} {A : Option Addr} {c : Nat} {l : List Nat}
theorem reads (h : OwnsB e w base A c l) : IsBytes w w.heap.size A l := by
  refine ⟨h.small, fun k hk => ?_⟩
  rcases h.row.2 with ⟨_, h0⟩ | ⟨g, cap, cur, hv, hg, hh, _, _, _, _⟩
  · omega
  · have hA : A = some ⟨g, 0, none⟩ ∧ c = cap := by injection hv with h1 h2 h3; exact ⟨h1, h3⟩
    obtain ⟨rfl, rfl⟩ := hA
    refine ⟨g, 0, rfl, (h.row.lt g rfl).2, fun i hi => ?_⟩
    have := h.row.cells (g := g) rfl i _ (bytes_get l i hi)
    have e : (⟨g, 0, none⟩ : Addr).add i = ⟨g, 0 + i, none⟩ := by unfold Addr.add; split <;> simp [*]
    rw [e] at this
    exact this
theorem drew (h : OwnsB e w base A c l) : OwnsB e w.drew base A c l := ⟨h.small, h.row⟩
theorem drewN (h : OwnsB e w base A c l) (n : Nat) : OwnsB e (w.drewN n) base A c l := ⟨h.small, h.row⟩
theorem cap (h : OwnsB e w base A c l) : l.length ≤ c := by
  rcases h.row.2 with ⟨_, h0⟩ | ⟨g, cap, cur, hv, _, _, hc, _, _, _⟩
  · omega
  · have : c = cap := by injection hv
    omega
theorem below (h : OwnsB e w base A c l) (hb : Below w.heap.size w w') : OwnsB e w' base A c l := by
  refine ⟨h.small, h.row.kept (row := none) ⟨hb.os, hb.tape, hb.output, hb.size, fun k hk _ => hb.block k hk⟩ ?_⟩
  rcases ho : (Value.slice A l.length c).ownBlock with _ | g
  · exact .inl rfl
  · exact .inr (by simp)
theorem at_ (h : OwnsB e w base A c l) {k : Nat} (hk : k < l.length) : ∃ g, A = some ⟨g, 0, none⟩ ∧ base ≤ g ∧ g < w.heap.size ∧
    w.cell? ⟨g, k, none⟩ = some (.int .u8 (l[k] : Nat)) ∧ w.frozen? ⟨g, k, none⟩ = false := by
  rcases h.row.2 with ⟨_, h0⟩ | ⟨g, cap, cur, hv, hg, hh, _, _, _, _⟩
  · omega
  · have hA : A = some ⟨g, 0, none⟩ ∧ c = cap := by injection hv with h1 h2 h3; exact ⟨h1, h3⟩
    obtain ⟨rfl, rfl⟩ := hA
    refine ⟨g, rfl, hg, (h.row.lt g rfl).2, ?_, h.row.frozenAt k⟩
    rw [h.row.cellAt k (by omega)]
    exact bytes_get l k hk
theorem set_ {g : Nat} (h : OwnsB e w base (some ⟨g, 0, none⟩) c l) (k x : Nat) (hx : x < 256) :
    OwnsB e (w.setCell ⟨g, k, none⟩ (.int .u8 (x : Int))) base (some ⟨g, 0, none⟩) c (l.set k x) := by
  refine ⟨fun y hy => ?_, ?_⟩
  · rcases List.mem_or_eq_of_mem_set hy with hy | rfl
    · exact h.small y hy
    · exact hx
  · have := h.row.stored k (.int .u8 (x : Int))
    rw [List.length_set]
    rw [show bytes (l.set k x) = (bytes l).set k (.int .u8 (x : Int)) from by unfold bytes; rw [List.map_set]]
    exact this.1
end OwnsB
theorem IsBytes.news {w : World} {B : Nat} {ad : Addr} {l : List Nat} (h : IsBytes w B (some ad) l) : ∀ j u, (bytes l)[j]? = some u → w.cell? (ad.add j) = some u := by
  intro j u hu
  have hj : j < l.length := by
    have := (List.getElem?_eq_some_iff.1 hu).1
    simpa [bytes] using this
  obtain ⟨b, off, e, _, hc⟩ := h.cells j hj
  injection e with e
  subst e
  rw [bytes_get l j hj] at hu
  have hadd : (⟨b, off, none⟩ : Addr).add j = ⟨b, off + j, none⟩ := by unfold Addr.add; split <;> simp [*]
  rw [hadd, hc j hj]
  exact hu
theorem IsBytes.of_none {w : World} {B : Nat} {l : List Nat} (h : IsBytes w B none l) : l = [] := by
  rcases l with _ | ⟨x, l⟩
  · rfl
  · obtain ⟨b, off, e, _⟩ := h.cells 0 (by simp)
    cases e
theorem bytes_append (l m : List Nat) : bytes l ++ bytes m = bytes (l ++ m) := by unfold bytes; rw [List.map_append]
theorem bytes_oneCell (l : List Nat) : ∀ u ∈ bytes l, u.oneCell' = true := by
  intro u hu
  unfold bytes at hu
  obtain ⟨x, _, rfl⟩ := List.mem_map.1 hu
  rfl
theorem bytes_length (l : List Nat) : (bytes l).length = l.length := by simp [bytes]

/-- append, onto a slice of bytes that the call has made, of bytes that may be nil, empty or lie anywhere -/
theorem wpList_append_bytes {P : Program} {w : World} {ops : Array Oper} {rest : List Oper} {o : Oper} {a : Act} {Q : Exit → Act → World → Prop} (hgd : o.guard = none) (s x : Operand) (t : TypeId)
    (ho : o.op = .call { callee := .builtin .append, args := #[s, x], argTypes := #[t, t] })
    (base : Nat) (e : TypeId) (i : TypeInfo) (ht : P.underlying t = some (.slice e)) (hi : P.info? e = some i) (hz : i.zero = some (.int .u8 0)) (hsize : i.size = 1) (hby : i.bytes = 1)
    (A : Option Addr) (c : Nat) (l : List Nat) (hs : a.eval s = .slice A l.length c) (hown : OwnsB e w base A c l)
    (B : Nat) (A' : Option Addr) (c' : Nat) (m : List Nat) (hx : a.eval x = .slice A' m.length c') (hnil : A' = none → c' = 0) (hr : IsBytes w B A' m)
    (hbytes : l.length + m.length ≤ 140737488355328) (hbase : base ≤ w.heap.size)
    (h : ∀ A2 c2 w', OwnsB e w' base A2 c2 (l ++ m) → w.grownBy w' (Value.slice A l.length c).ownBlock → wpList P ops Q rest (a.put o.dst (.slice A2 (l.length + m.length) c2)) w') : wpList P ops Q (o :: rest) a w := by
  have hsm : ∀ y ∈ l ++ m, y < 256 := fun y hy => by
    rcases List.mem_append.1 hy with hy | hy
    · exact hown.small y hy
    · exact hr.small y hy
  rcases A' with _ | ad
  · obtain rfl := hr.of_none
    obtain rfl := hnil rfl
    refine wpList_append_own_none hgd s x t ho base e i 1 ht hi _ l.length (bytes l) hs hown.row hx ?_
    exact h A c w ⟨hsm, by simpa using hown.row⟩ (World.grownBy.refl w _)
  · refine wpList_append_own w hgd s x t ho base e i (.int .u8 0) 1 1 ht hi hz hsize hby rfl (by decide) _ l.length (bytes l) hs hown.row ad m.length c' (bytes m) hx (by rw [bytes_length]; omega) hr.news (bytes_oneCell m) (by unfold maxLen; omega) (by omega) hbase ?_
    intro v' w' h1 h2 _
    obtain ⟨A2, c2, rfl⟩ := own_slice h1
    rw [bytes_append] at h1
    exact h A2 c2 w' ⟨hsm, by rw [List.length_append]; exact h1⟩ h2
theorem ret_int {k : IntKind} {a b : Int} (h : a = b) : Ending.returned (.int k a) = .returned (.int k b) := by rw [h]
theorem add_off (b off m : Nat) : (⟨b, off, none⟩ : Addr).add m = ⟨b, off + m, none⟩ := by unfold Addr.add; split <;> simp [*]
theorem IsBytes.from {w : World} {B b off : Nat} {l : List Nat} (h : IsBytes w B (some ⟨b, off, none⟩) l) (m : Nat) : IsBytes w B (some ⟨b, off + m, none⟩) (l.drop m) := by
  refine ⟨fun x hx => h.small x (List.mem_of_mem_drop hx), fun k hk => ?_⟩
  rw [List.length_drop] at hk
  obtain ⟨b', off', e, hb, hc⟩ := h.cells 0 (by omega)
  injection e with e
  injection e with e1 e2
  subst e1
  subst e2
  refine ⟨b, off + m, rfl, hb, fun i hi => ?_⟩
  rw [List.length_drop] at hi
  rw [List.getElem_drop, Nat.add_assoc]
  exact hc (m + i) (by omega)
end Go.Proofs.YtpigekbfngalbaaDoor
namespace Go.Proofs.YtpigekbfngalbaaDoor.Rl

/-- an entry -/
structure En where
  t : Int
  k : Int
  d : List Nat
deriving DecidableEq
/-- a log -/
structure Lg where
  base : Int
  term : Int
  es : List En
deriving DecidableEq
/-- the term at the place n behind the base -/
def Lg.at_ (g : Lg) : Nat → Int
  | 0 => g.term
  | n + 1 => (g.es.map (·.t)).getD n 0
def Lg.last (g : Lg) : Int := g.base + (g.es.length : Nat)
def Lg.lastT (g : Lg) : Int := g.at_ g.es.length
def Lg.has (g : Lg) (i : Int) : Bool := decide (g.base ≤ i) && decide (i ≤ g.last)
def Lg.pl (g : Lg) (i : Int) : Nat := (i - g.base).toNat
def Lg.termV (g : Lg) (i : Int) : Int := if g.has i then g.at_ (g.pl i) else 0
def Lg.newer (g : Lg) (i t : Int) : Bool := decide (g.lastT < t) || (decide (t = g.lastT) && decide (g.last ≤ i))
/-- the entries from an index on -/
def Lg.slice (g : Lg) (i m : Int) : List En := if g.has i = true ∧ i ≠ g.base then (g.es.drop (g.pl i - 1)).take m.toNat else []
/-- how many entries at the beginning have the same terms -/
def alike : List En → List En → Nat
  | a :: r, b :: s => if a.t = b.t then alike r s + 1 else 0
  | _, _ => 0
/-- how many of e are there behind the place p -/
def Lg.there (g : Lg) (p : Nat) (e : List En) : Nat := alike (g.es.drop p) e
def Lg.appE (g : Lg) (i : Int) (e : List En) : List En := if g.has i = true ∧ g.there (g.pl i) e < e.length then g.es.take (g.pl i + g.there (g.pl i) e) ++ e.drop (g.there (g.pl i) e) else g.es
def Lg.appI (g : Lg) (i : Int) (e : List En) : Int := if g.has i = true ∧ g.there (g.pl i) e < e.length then i + (g.there (g.pl i) e : Nat) + 1 else 0
def Lg.app (g : Lg) (i : Int) (e : List En) : Lg := ⟨g.base, g.term, g.appE i e⟩
def Lg.cut (g : Lg) (i : Int) : Lg := if g.has i then ⟨i, g.at_ (g.pl i), g.es.drop (g.pl i)⟩ else ⟨0, 0, []⟩
def Lg.cutE (g : Lg) (i : Int) : Int := if g.has i then 0 else 3
/-- a log that may be -/
def Ok (g : Lg) : Prop := (0 ≤ g.base ∧ g.base ≤ 1099511637776) ∧ True ∧ g.es.length ≤ 50000
/-- entries whose bytes are few -/
def Few (l : List En) : Prop := ∀ e ∈ l, e.d.length ≤ 65536

theorem Lg.has_iff {g : Lg} {i : Int} : g.has i = true ↔ g.base ≤ i ∧ i ≤ g.base + (g.es.length : Nat) := by
  unfold Lg.has Lg.last; rw [Bool.and_eq_true, decide_eq_true_iff, decide_eq_true_iff]
theorem Lg.has_not {g : Lg} {i : Int} : g.has i = false ↔ ¬ (g.base ≤ i ∧ i ≤ g.base + (g.es.length : Nat)) := by
  rw [← Lg.has_iff]; simp
/-- an index that the log has is a place -/
theorem Lg.has_at {g : Lg} {i : Int} (h : g.has i = true) : ∃ p : Nat, i = g.base + (p : Nat) ∧ p ≤ g.es.length ∧ g.pl i = p := by
  obtain ⟨h1, h2⟩ := Lg.has_iff.1 h
  refine ⟨(i - g.base).toNat, by omega, by omega, rfl⟩
theorem Lg.has_of {g : Lg} {p : Nat} (h : p ≤ g.es.length) : g.has (g.base + (p : Nat)) = true := Lg.has_iff.2 (by omega)
theorem Lg.pl_of (g : Lg) (p : Nat) : g.pl (g.base + (p : Nat)) = p := by unfold Lg.pl; omega
theorem Lg.at_succ (g : Lg) (n : Nat) (h : n < g.es.length) : g.at_ (n + 1) = g.es[n].t := by
  show (g.es.map (·.t)).getD n 0 = _
  rw [List.getD_eq_getElem?_getD, List.getElem?_map, List.getElem?_eq_getElem h]; rfl
theorem alike_le : ∀ a b : List En, alike a b ≤ a.length ∧ alike a b ≤ b.length
  | [], _ => by simp [alike]
  | _ :: _, [] => by simp [alike]
  | a :: r, b :: s => by
    have := alike_le r s
    unfold alike
    split
    · simp; omega
    · simp
theorem alike_get : ∀ (a b : List En) (k : Nat) (h : k < alike a b), (a[k]'(Nat.lt_of_lt_of_le h (alike_le a b).1)).t = (b[k]'(Nat.lt_of_lt_of_le h (alike_le a b).2)).t
  | [], _, k, h => by simp [alike] at h
  | _ :: _, [], k, h => by simp [alike] at h
  | a :: r, b :: s, k, h => by
    unfold alike at h
    split at h
    · rename_i e
      rcases k with _ | k
      · exact e
      · exact alike_get r s k (by omega)
    · omega
theorem alike_stop : ∀ (a b : List En) (h1 : alike a b < a.length) (h2 : alike a b < b.length), a[alike a b].t ≠ b[alike a b].t
  | [], _, h, _ => by simp at h
  | _ :: _, [], _, h => by simp at h
  | a :: r, b :: s, h1, h2 => by
    by_cases e : a.t = b.t
    · have e1 : alike (a :: r) (b :: s) = alike r s + 1 := by rw [alike, if_pos e]
      have h1' : alike r s < r.length := by rw [e1] at h1; simpa using h1
      have h2' : alike r s < s.length := by rw [e1] at h2; simpa using h2
      have := alike_stop r s h1' h2'
      simp only [e1, List.getElem_cons_succ]
      exact this
    · have e1 : alike (a :: r) (b :: s) = 0 := by rw [alike, if_neg e]
      simp only [e1, List.getElem_cons_zero]
      exact e
/-- it is the place at which they first differ, or where one of them ends -/
theorem alike_eq (a b : List En) (k : Nat) (h1 : k ≤ a.length) (h2 : k ≤ b.length) (hs : ∀ j (hj : j < k), (a[j]'(by omega)).t = (b[j]'(by omega)).t) (he : ∀ (h3 : k < a.length) (h4 : k < b.length), a[k].t ≠ b[k].t) : alike a b = k := by
  have hl := alike_le a b
  rcases Nat.lt_trichotomy (alike a b) k with h | h | h
  · exact absurd (hs _ h) (alike_stop a b (by omega) (by omega))
  · exact h
  · exact absurd (alike_get a b k h) (he (by omega) (by omega))
theorem Ok.drop {g : Lg} (h : Ok g) (n : Nat) : (g.es.drop n).length ≤ 50000 := by rw [List.length_drop]; have := h.2.2; omega
end Go.Proofs.YtpigekbfngalbaaDoor.Rl
