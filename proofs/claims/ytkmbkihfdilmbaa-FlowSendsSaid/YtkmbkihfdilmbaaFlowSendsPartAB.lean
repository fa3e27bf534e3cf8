/- Texts of the proof, one behind the other: RlA, PackMath, Crc, FrameMath, BigEn, MsMath, MsA, MsB, MsC, VoA, VoB, QuMath, KitPick, Conf, KitIntEq, ImGrow, SortI, Compact, QuC, RqI, RqA, KitInts, RqB, RqC, VoC, VoD, ImMath, Reader, ImMem, ImBox, VoE, Clone, RlOwn, RlU, ImSince, VoF, VoG, VoH, KitEnEq, KitLog, VoJ, VoK, VoL, MsLoad, MsD, MsE, MsF, PackInt, KitBytes, PackBlob, MsG, MsH, SumWalks, FramePut, FrameRead, MsI, ReadInt, Reader2, MsJ, MsK, ReadNew, MsL, MsMath2, MsN, SpoilB. -/
import Derived.Test.YtkmbkihfdilmbaaFlowSendsPartAA
import Init
import Derived.Laws.BitsAllLaws
import Derived.WalkKit
import Derived.Lib.Bytealg
import Derived.Lib.OthersKept
import Derived.Deep.CutRange
import Derived.Test.YtkmbkihfdilmbaaRows
import Derived.Deep.QuietTactic
import Derived.BigQuiet
import Derived.Lib.AppendZeros
import Derived.Lib.SlKeysI
import Derived.Shelf.SortM.Plain
import Derived.Shelf.SortM.SortNone
import Derived.Shelf.SlicesG.CompactI
import Derived.StillTailTactics
import Derived.Deep.RegionHeld3
import Derived.WalkMore
import Derived.Deep.MidRow
import Derived.Deep.WholeRow
import Derived.Lib.SliceRun
namespace Go.Proofs.Ytkmbkihfdilmbaa
open Go.RowKit
end Go.Proofs.Ytkmbkihfdilmbaa
namespace Go.Proofs.Ytkmbkihfdilmbaa.Pk
def num (l : List Nat) : Nat := l.foldl (fun a x => a * 256 + x) 0
def sgn (n : Nat) : Int := if n < 9223372036854775808 then (n : Int) else (n : Int) - 18446744073709551616
def byteOf (v : Int) (k : Nat) : Nat := (v / 2 ^ (8 * k) % 256).toNat
def enc (v : Int) : List Nat := [byteOf v 7, byteOf v 6, byteOf v 5, byteOf v 4, byteOf v 3, byteOf v 2, byteOf v 1, byteOf v 0]
def encs (l : List Int) : List Nat := l.flatMap enc
theorem byteOf_lt (v : Int) (k : Nat) : byteOf v k < 256 := by
  unfold byteOf
  have := Int.emod_nonneg (v / 2 ^ (8 * k)) (show (256 : Int) ≠ 0 by decide)
  have := Int.emod_lt_of_pos (v / 2 ^ (8 * k)) (show (0 : Int) < 256 by decide)
  omega
theorem enc_length (v : Int) : (enc v).length = 8 := rfl
theorem enc_small (v : Int) : ∀ x ∈ enc v, x < 256 := by
  intro x hx
  simp only [enc, List.mem_cons, List.not_mem_nil, or_false] at hx
  rcases hx with rfl | rfl | rfl | rfl | rfl | rfl | rfl | rfl <;> exact byteOf_lt _ _
theorem encs_length (l : List Int) : (encs l).length = 8 * l.length := by
  induction l with
  | nil => rfl
  | cons x l ih => simp only [encs, List.flatMap_cons, List.length_append, enc_length, List.length_cons] at ih ⊢; omega
theorem encs_small (l : List Int) : ∀ x ∈ encs l, x < 256 := by
  intro x hx
  obtain ⟨v, _, hv⟩ := List.mem_flatMap.1 hx
  exact enc_small v x hv
theorem encs_snoc (l : List Int) (v : Int) : encs (l ++ [v]) = encs l ++ enc v := by
  simp [encs]
theorem split_byte (q : Int) : q = 256 * (q / 256) + q % 256 ∧ 0 ≤ q % 256 ∧ q % 256 < 256 := by omega
theorem join_bytes (q : Int) (r0 r1 r2 r3 r4 r5 r6 r7 : Nat) (h7 : q = r7 ∨ q = (r7 : Int) - 256)
    (b0 : r0 < 256) (b1 : r1 < 256) (b2 : r2 < 256) (b3 : r3 < 256) (b4 : r4 < 256) (b5 : r5 < 256) (b6 : r6 < 256) (b7 : r7 < 256) (b8 : -128 ≤ q ∧ q < 128) :
    sgn (((((((((0 * 256 + r7) * 256 + r6) * 256 + r5) * 256 + r4) * 256 + r3) * 256 + r2) * 256 + r1) * 256 + r0)) =
      256 * (256 * (256 * (256 * (256 * (256 * (256 * q + r6) + r5) + r4) + r3) + r2) + r1) + r0 := by
  unfold sgn
  rcases h7 with h7 | h7
  · rw [if_pos (by omega)]; omega
  · rw [if_neg (by omega)]; omega
theorem ediv_pow (v : Int) (k : Nat) : v / 2 ^ (8 * (k + 1)) = v / 2 ^ (8 * k) / 256 := by
  rw [Int.ediv_ediv_of_nonneg (Int.le_of_lt (Int.pow_pos (by decide))), Nat.mul_add, Int.pow_add]; rfl
theorem step_byte (v : Int) (k : Nat) : 256 * (v / 2 ^ (8 * (k + 1))) + (byteOf v k : Nat) = v / 2 ^ (8 * k) := by
  have e := split_byte (v / 2 ^ (8 * k))
  rw [← ediv_pow] at e
  unfold byteOf
  omega
theorem dec_enc (v : Int) (h : -9223372036854775808 ≤ v ∧ v ≤ 9223372036854775807) : sgn (num (enc v)) = v := by
  have hb : -128 ≤ v / 2 ^ (8 * 7) ∧ v / 2 ^ (8 * 7) < 128 := by simp only [Nat.reduceMul, Int.reducePow]; omega
  have h7 : v / 2 ^ (8 * 7) = (byteOf v 7 : Nat) ∨ v / 2 ^ (8 * 7) = ((byteOf v 7 : Nat) : Int) - 256 := by
    have := split_byte (v / 2 ^ (8 * 7))
    unfold byteOf
    omega
  have e := join_bytes (v / 2 ^ (8 * 7)) (byteOf v 0) (byteOf v 1) (byteOf v 2) (byteOf v 3) (byteOf v 4) (byteOf v 5) (byteOf v 6) (byteOf v 7) h7
    (byteOf_lt _ _) (byteOf_lt _ _) (byteOf_lt _ _) (byteOf_lt _ _) (byteOf_lt _ _) (byteOf_lt _ _) (byteOf_lt _ _) (byteOf_lt _ _) hb
  rw [step_byte v 6, step_byte v 5, step_byte v 4, step_byte v 3, step_byte v 2, step_byte v 1, step_byte v 0] at e
  simp only [num, enc, List.foldl_cons, List.foldl_nil]
  rw [e]
  simp
theorem num_snoc (l : List Nat) (x : Nat) : num (l ++ [x]) = num l * 256 + x := by simp [num]
theorem num_lt (l : List Nat) (h : ∀ x ∈ l, x < 256) : num l < 256 ^ l.length := by
  induction hn : l.length generalizing l with
  | zero => have := List.eq_nil_of_length_eq_zero hn; subst this; simp [num]
  | succ n ih =>
    obtain ⟨a, x, rfl⟩ : ∃ a x, l = a ++ [x] := ⟨l.dropLast, l.getLast (by intro e; subst e; simp at hn), (List.dropLast_concat_getLast _).symm⟩
    have h1 := ih a (fun y hy => h y (by simp [hy])) (by simpa using hn)
    have h2 := h x (by simp)
    rw [num_snoc, Nat.pow_succ]
    omega
theorem sgn_in (n : Nat) (h : n < 18446744073709551616) : -9223372036854775808 ≤ sgn n ∧ sgn n ≤ 9223372036854775807 := by
  unfold sgn; split <;> omega
structure St where
  rest : List Nat
  bad : Bool
def St.ok (s : St) : Prop := s.bad = true → s.rest = []
def St.small (s : St) : Prop := ∀ x ∈ s.rest, x < 256
def gone : St := ⟨[], true⟩
def taken (s : St) (n : Int) : List Nat × St :=
  if n < 0 ∨ (s.rest.length : Int) < n then ([], gone) else (s.rest.take n.toNat, ⟨s.rest.drop n.toNat, s.bad⟩)
def rdInt (s : St) : Int × St :=
  if s.rest.length < 8 then (0, gone) else (sgn (num (s.rest.take 8)), ⟨s.rest.drop 8, s.bad⟩)
def rdBlob (s : St) : List Nat × St :=
  if (rdInt s).2.bad = true ∨ (rdInt s).1 < 0 ∨ ((rdInt s).2.rest.length : Int) < (rdInt s).1 then ([], gone)
  else ((rdInt s).2.rest.take (rdInt s).1.toNat, ⟨(rdInt s).2.rest.drop (rdInt s).1.toNat, false⟩)
def nums (n : Nat) (l : List Nat) : List Int := (List.range n).map fun i => sgn (num ((l.drop (8 * i)).take 8))
def rdInts (s : St) : List Int × St :=
  if (rdInt s).2.bad = true ∨ (rdInt s).1 < 0 ∨ (((rdInt s).2.rest.length : Int) / 8) < (rdInt s).1 then ([], gone)
  else (nums (rdInt s).1.toNat (rdInt s).2.rest, ⟨(rdInt s).2.rest.drop (8 * (rdInt s).1.toNat), false⟩)
theorem gone_ok : gone.ok := fun _ => rfl
theorem gone_small : gone.small := by intro x hx; cases hx
theorem taken_ok (s : St) (n : Int) (h : s.ok) : (taken s n).2.ok := by
  unfold taken
  split
  · exact gone_ok
  · intro hb; have := h hb; simp [this]
theorem taken_small (s : St) (n : Int) (h : s.small) : (taken s n).2.small ∧ ∀ x ∈ (taken s n).1, x < 256 := by
  unfold taken
  split
  · exact ⟨gone_small, by simp⟩
  · exact ⟨fun x hx => h x (List.mem_of_mem_drop hx), fun x hx => h x (List.mem_of_mem_take hx)⟩
theorem rdInt_taken (s : St) : rdInt s = (if s.rest.length < 8 then 0 else sgn (num (taken s 8).1), (taken s 8).2) := by
  unfold rdInt taken
  by_cases h : s.rest.length < 8
  · rw [if_pos h, if_pos h, if_pos (by omega)]
  · rw [if_neg h, if_neg h, if_neg (by omega)]; rfl
theorem rdInt_st (s : St) : (rdInt s).2 = (taken s 8).2 := by rw [rdInt_taken]
theorem rdInt_ok (s : St) (h : s.ok) : (rdInt s).2.ok := by rw [rdInt_st]; exact taken_ok s 8 h
theorem rdInt_small (s : St) (h : s.small) : (rdInt s).2.small := by rw [rdInt_st]; exact (taken_small s 8 h).1
theorem take_num_lt (l : List Nat) (h : ∀ x ∈ l, x < 256) : num (l.take 8) < 18446744073709551616 := by
  have h1 := num_lt (l.take 8) (fun x hx => h x (List.mem_of_mem_take hx))
  have h2 : (l.take 8).length ≤ 8 := List.length_take_le _ _
  have h3 : 256 ^ (l.take 8).length ≤ 256 ^ 8 := Nat.pow_le_pow_right (by decide) h2
  have h4 : 256 ^ 8 = 18446744073709551616 := by decide
  omega
theorem rdInt_in (s : St) (h : s.small) : -9223372036854775808 ≤ (rdInt s).1 ∧ (rdInt s).1 ≤ 9223372036854775807 := by
  unfold rdInt
  split
  · exact ⟨by decide, by decide⟩
  · exact sgn_in _ (take_num_lt _ h)
theorem rdInt_short (s : St) : (rdInt s).2.rest.length ≤ s.rest.length := by
  unfold rdInt gone; split <;> simp
theorem rdBlob_ok (s : St) : (rdBlob s).2.ok := by
  unfold rdBlob
  split
  · exact gone_ok
  · intro hb; cases hb
theorem rdBlob_small (s : St) (h : s.small) : (rdBlob s).2.small ∧ ∀ x ∈ (rdBlob s).1, x < 256 := by
  unfold rdBlob
  have := rdInt_small s h
  split
  · exact ⟨gone_small, by simp⟩
  · exact ⟨fun x hx => this x (List.mem_of_mem_drop hx), fun x hx => this x (List.mem_of_mem_take hx)⟩
theorem rdBlob_short (s : St) : (rdBlob s).2.rest.length ≤ s.rest.length ∧ (rdBlob s).1.length ≤ s.rest.length := by
  have := rdInt_short s
  unfold rdBlob gone; split <;> simp <;> omega
theorem nums_length (n : Nat) (l : List Nat) : (nums n l).length = n := by simp [nums]
theorem nums_snoc (n : Nat) (l : List Nat) : nums (n + 1) l = nums n l ++ [sgn (num ((l.drop (8 * n)).take 8))] := by
  unfold nums; rw [List.range_succ, List.map_append]; rfl
theorem nums_in (n : Nat) (l : List Nat) (h : ∀ x ∈ l, x < 256) : ∀ v ∈ nums n l, -9223372036854775808 ≤ v ∧ v ≤ 9223372036854775807 := by
  intro v hv
  obtain ⟨i, _, rfl⟩ := List.mem_map.1 hv
  exact sgn_in _ (take_num_lt _ (fun x hx => h x (List.mem_of_mem_drop hx)))
theorem rdInts_ok (s : St) : (rdInts s).2.ok := by
  unfold rdInts
  split
  · exact gone_ok
  · intro hb; cases hb
theorem rdInts_small (s : St) (h : s.small) : (rdInts s).2.small := by
  unfold rdInts
  have := rdInt_small s h
  split
  · exact gone_small
  · exact fun x hx => this x (List.mem_of_mem_drop hx)
theorem rdInts_in (s : St) (h : s.small) : ∀ v ∈ (rdInts s).1, -9223372036854775808 ≤ v ∧ v ≤ 9223372036854775807 := by
  unfold rdInts
  split
  · intro v hv; cases hv
  · exact nums_in _ _ (rdInt_small s h)
theorem rdInts_short (s : St) : (rdInts s).2.rest.length ≤ s.rest.length ∧ 8 * (rdInts s).1.length ≤ s.rest.length := by
  have := rdInt_short s
  unfold rdInts gone
  split
  · simp
  · rename_i h
    simp only [not_or] at h
    simp only [List.length_drop, nums_length]
    omega
inductive Val where
  | num (v : Int)
  | blob (l : List Nat)
  | list (l : List Int)
def Val.enc : Val → List Nat
  | .num v => Pk.enc v
  | .blob l => Pk.enc l.length ++ l
  | .list l => Pk.enc l.length ++ encs l
def Val.ok : Val → Prop
  | .num v => -9223372036854775808 ≤ v ∧ v ≤ 9223372036854775807
  | .blob l => l.length ≤ 1024 ∧ ∀ x ∈ l, x < 256
  | .list l => l.length ≤ 1024 ∧ ∀ v ∈ l, -9223372036854775808 ≤ v ∧ v ≤ 9223372036854775807
def Val.kind : Val → Nat
  | .num _ => 0
  | .blob _ => 1
  | .list _ => 2
theorem rdInt_enc (v : Int) (t : List Nat) (b : Bool) (h : -9223372036854775808 ≤ v ∧ v ≤ 9223372036854775807) : rdInt ⟨enc v ++ t, b⟩ = (v, ⟨t, b⟩) := by
  unfold rdInt
  rw [if_neg (by simp [enc_length])]
  have e : (enc v ++ t).take 8 = enc v := by rw [List.take_left' (enc_length v)]
  have e' : (enc v ++ t).drop 8 = t := by rw [List.drop_left' (enc_length v)]
  simp only [e, e', dec_enc v h]
theorem nums_encs (l : List Int) (t : List Nat) (h : ∀ v ∈ l, -9223372036854775808 ≤ v ∧ v ≤ 9223372036854775807) : nums l.length (encs l ++ t) = l := by
  apply List.ext_getElem
  · exact nums_length _ _
  · intro i h1 h2
    have e : l = l.take i ++ l[i] :: l.drop (i + 1) := by simp
    have e2 : encs l ++ t = encs (l.take i) ++ (enc l[i] ++ (encs (l.drop (i + 1)) ++ t)) := by
      conv => lhs; rw [e]
      simp only [encs, List.flatMap_append, List.flatMap_cons, List.append_assoc]
    have e3 : (encs (l.take i)).length = 8 * i := by rw [encs_length, List.length_take, Nat.min_eq_left (by omega)]
    simp only [nums, List.getElem_map, List.getElem_range]
    rw [e2, List.drop_left' e3, List.take_left' (enc_length _)]
    exact dec_enc _ (h _ (List.getElem_mem _))
end Go.Proofs.Ytkmbkihfdilmbaa.Pk
namespace Go.Proofs.Ytkmbkihfdilmbaa.Crc
def step (r : Nat) : Nat := if r % 2 = 1 then (r / 2) ^^^ 2197175160 else r / 2
def steps : Nat → Nat → Nat
  | 0, r => r
  | n + 1, r => steps n (step r)
def byte (r c : Nat) : Nat := steps 8 (r ^^^ c)
def feed (r : Nat) (l : List Nat) : Nat := l.foldl byte r
def cplK (k r : Nat) : Nat := k ^^^ r
def cpl (r : Nat) : Nat := cplK 4294967295 r
def more (s : Nat) (l : List Nat) : Nat := cpl (feed (cpl s) l)
def num : List Nat → Nat
  | [] => 0
  | c :: l => c ^^^ (256 * num l)
theorem step_lt (a : Nat) (h : a < 4294967296) : step a < 4294967296 := by
  unfold step
  split
  · have h1 : a / 2 < 2 ^ 32 := by omega
    have := Nat.xor_lt_two_pow h1 (show 2197175160 < 2 ^ 32 by decide)
    simpa using this
  · omega
theorem steps_lt (n : Nat) : ∀ a, a < 4294967296 → steps n a < 4294967296 := by
  induction n with
  | zero => intro a h; exact h
  | succ n ih => intro a h; exact ih _ (step_lt a h)
theorem xor_lt (a b : Nat) (ha : a < 4294967296) (hb : b < 4294967296) : a ^^^ b < 4294967296 := by
  have := Nat.xor_lt_two_pow (n := 32) (by simpa using ha) (by simpa using hb)
  simpa using this
theorem byte_lt (r c : Nat) (hr : r < 4294967296) (hc : c < 256) : byte r c < 4294967296 :=
  steps_lt 8 _ (xor_lt r c hr (by omega))
theorem feed_lt (l : List Nat) : ∀ r, r < 4294967296 → (∀ x ∈ l, x < 256) → feed r l < 4294967296 := by
  induction l with
  | nil => intro r h _; exact h
  | cons c l ih =>
    intro r h hl
    exact ih _ (byte_lt r c h (hl c (by simp))) (fun x hx => hl x (by simp [hx]))
theorem cpl_lt (r : Nat) (h : r < 4294967296) : cpl r < 4294967296 := by
  have h1 : (4294967295 : Nat) < 2 ^ 32 := by omega
  have := Nat.xor_lt_two_pow (n := 32) h1 (show r < 2 ^ 32 by omega)
  unfold cpl cplK; omega
theorem more_lt (s : Nat) (l : List Nat) (hs : s < 4294967296) (hl : ∀ x ∈ l, x < 256) : more s l < 4294967296 := by
  unfold more
  exact cpl_lt _ (feed_lt l _ (cpl_lt s hs) hl)
def over : List Nat → List Nat → List Nat
  | a :: l, b :: m => (a ^^^ b) :: over l m
  | _, _ => []
end Go.Proofs.Ytkmbkihfdilmbaa.Crc
namespace Go.Proofs.Ytkmbkihfdilmbaa.Fr
def be4 (v : Nat) : List Nat := [v / 16777216 % 256, v / 65536 % 256, v / 256 % 256, v % 256]
def n4 (l : List Nat) : Nat := l.foldl (fun v x => v * 256 + x) 0
def sum (h p : List Nat) : Nat := Crc.more (Crc.more 0 h) p
def frame (p : List Nat) : List Nat := be4 p.length ++ (be4 (sum (be4 p.length) p) ++ p)
def get (b : List Nat) : List Nat × Nat × Nat :=
  if b.length < 8 then ([], 0, 1)
  else if 65536 < n4 (b.take 4) then ([], 0, 2)
  else if b.length - 8 < n4 (b.take 4) then ([], 0, 1)
  else if n4 ((b.drop 4).take 4) ≠ sum (b.take 4) ((b.drop 8).take (n4 (b.take 4))) then ([], 0, 5)
  else ((b.drop 8).take (n4 (b.take 4)), 8 + n4 (b.take 4), 0)
theorem be4_length (v : Nat) : (be4 v).length = 4 := rfl
theorem be4_lt (v : Nat) : ∀ x ∈ be4 v, x < 256 := by
  intro x hx
  simp only [be4, List.mem_cons, List.not_mem_nil, or_false] at hx
  omega
theorem n4_be4 (v : Nat) (h : v < 4294967296) : n4 (be4 v) = v := by
  simp only [n4, be4, List.foldl_cons, List.foldl_nil]
  omega
theorem four (l : List Nat) (h : l.length = 4) : ∃ a b c d, l = [a, b, c, d] := by
  match l, h with
  | [a, b, c, d], _ => exact ⟨a, b, c, d, rfl⟩
theorem n4_four (a b c d : Nat) : n4 [a, b, c, d] = ((a * 256 + b) * 256 + c) * 256 + d := by simp [n4]
theorem be4_n4 (l : List Nat) (hl : l.length = 4) (h : ∀ x ∈ l, x < 256) : be4 (n4 l) = l := by
  obtain ⟨a, b, c, d, rfl⟩ := four l hl
  rw [n4_four]
  have h1 := h a (by simp)
  have h2 := h b (by simp)
  have h3 := h c (by simp)
  have h4 := h d (by simp)
  unfold be4
  rw [show (((a * 256 + b) * 256 + c) * 256 + d) / 16777216 % 256 = a by omega, show (((a * 256 + b) * 256 + c) * 256 + d) / 65536 % 256 = b by omega,
    show (((a * 256 + b) * 256 + c) * 256 + d) / 256 % 256 = c by omega, show (((a * 256 + b) * 256 + c) * 256 + d) % 256 = d by omega]
theorem sum_lt (h p : List Nat) (hh : ∀ x ∈ h, x < 256) (hp : ∀ x ∈ p, x < 256) : sum h p < 4294967296 := Crc.more_lt _ _ (Crc.more_lt 0 h (by omega) hh) hp
theorem frame_length (p : List Nat) : (frame p).length = 8 + p.length := by
  unfold frame; rw [List.length_append, List.length_append, be4_length, be4_length]; omega
theorem get_parts (h s r : List Nat) (hh : h.length = 4) (hs : s.length = 4) : get (h ++ (s ++ r)) =
    if 65536 < n4 h then ([], 0, 2) else if r.length < n4 h then ([], 0, 1) else if n4 s ≠ sum h (r.take (n4 h)) then ([], 0, 5) else (r.take (n4 h), 8 + n4 h, 0) := by
  have e1 : (h ++ (s ++ r)).take 4 = h := by rw [← hh]; exact List.take_left' rfl
  have e2 : (h ++ (s ++ r)).drop 4 = s ++ r := by rw [← hh]; exact List.drop_left' rfl
  have e3 : (h ++ (s ++ r)).drop 8 = r := by
    rw [show 8 = 4 + 4 from rfl, ← List.drop_drop, e2, ← hs]; exact List.drop_left' rfl
  have e4 : (s ++ r).take 4 = s := by rw [← hs]; exact List.take_left' rfl
  have e5 : (h ++ (s ++ r)).length = 8 + r.length := by rw [List.length_append, List.length_append]; omega
  unfold get
  rw [e1, e2, e3, e4, e5, if_neg (by omega), Nat.add_sub_cancel_left]
theorem get_cases (b : List Nat) : (get b = ([], 0, 1) ∨ get b = ([], 0, 2) ∨ get b = ([], 0, 5)) ∨
    (8 ≤ b.length ∧ n4 (b.take 4) ≤ 65536 ∧ n4 (b.take 4) ≤ b.length - 8 ∧ n4 ((b.drop 4).take 4) = sum (b.take 4) ((b.drop 8).take (n4 (b.take 4))) ∧
      get b = ((b.drop 8).take (n4 (b.take 4)), 8 + n4 (b.take 4), 0)) := by
  unfold get
  split
  · exact .inl (.inl rfl)
  · split
    · exact .inl (.inr (.inl rfl))
    · split
      · exact .inl (.inl rfl)
      · split
        · exact .inl (.inr (.inr rfl))
        · rename_i h1 h2 h3 h4
          exact .inr ⟨by omega, by omega, by omega, Classical.not_not.1 h4, rfl⟩
theorem back (p more : List Nat) (hp : ∀ x ∈ p, x < 256) (hl : p.length ≤ 65536) : get (frame p ++ more) = (p, 8 + p.length, 0) := by
  unfold frame
  rw [List.append_assoc, List.append_assoc, get_parts _ _ _ (be4_length _) (be4_length _), n4_be4 _ (by omega), n4_be4 _ (sum_lt _ _ (be4_lt _) hp),
    if_neg (by omega), if_neg (by rw [List.length_append]; omega), List.take_left' rfl, if_neg (by simp)]
theorem only (b p : List Nat) (n : Nat) (hb : ∀ x ∈ b, x < 256) (h : get b = (p, n, 0)) : n ≤ b.length ∧ p.length ≤ 65536 ∧ frame p = b.take n := by
  rcases get_cases b with (e | e | e) | ⟨h8, h1, h2, h3, e⟩
  · rw [h] at e; injection e with _ e; injection e with _ e; cases e
  · rw [h] at e; injection e with _ e; injection e with _ e; cases e
  · rw [h] at e; injection e with _ e; injection e with _ e; cases e
  · rw [h] at e
    injection e with e1 e
    injection e with e2 _
    have l4 : (b.take 4).length = 4 := by rw [List.length_take]; omega
    have s4 : ∀ x ∈ b.take 4, x < 256 := fun x hx => hb x (List.mem_of_mem_take hx)
    have l8 : ((b.drop 4).take 4).length = 4 := by rw [List.length_take, List.length_drop]; omega
    have s8 : ∀ x ∈ (b.drop 4).take 4, x < 256 := fun x hx => hb x (List.mem_of_mem_drop (List.mem_of_mem_take hx))
    have hpl : p.length = n4 (b.take 4) := by rw [e1, List.length_take, List.length_drop]; omega
    refine ⟨by omega, by omega, ?_⟩
    unfold frame
    rw [hpl, be4_n4 _ l4 s4, e1, ← h3, be4_n4 _ l8 s8, e2]
    have e3 : b.take (8 + n4 (b.take 4)) = b.take 8 ++ (b.drop 8).take (n4 (b.take 4)) := by rw [List.take_add]
    have e4 : b.take 8 = b.take 4 ++ (b.drop 4).take 4 := by rw [show 8 = 4 + 4 from rfl, List.take_add]
    rw [e3, e4, List.append_assoc]
theorem cut (p : List Nat) (k : Nat) (hl : p.length ≤ 65536) (hk : k < 8 + p.length) : get ((frame p).take k) = ([], 0, 1) := by
  have e : ((frame p).take k).length = k := by rw [List.length_take, frame_length]; omega
  by_cases h8 : k < 8
  · unfold get; rw [e, if_pos h8]
  · have e1 : (frame p).take k = be4 p.length ++ (be4 (sum (be4 p.length) p) ++ p.take (k - 8)) := by
      unfold frame
      rw [List.take_append, be4_length, List.take_of_length_le (by rw [be4_length]; omega), List.take_append, be4_length, List.take_of_length_le (by rw [be4_length]; omega), show k - 4 - 4 = k - 8 from by omega]
    rw [e1, get_parts _ _ _ (be4_length _) (be4_length _), n4_be4 _ (by omega), if_neg (by omega), if_pos (by rw [List.length_take]; omega)]
end Go.Proofs.Ytkmbkihfdilmbaa.Fr
namespace Go.Proofs.Ytkmbkihfdilmbaa
open Go.RowKit
def weigh (L : List Rl.En) : Nat := (L.map (fun e => e.d.length)).sum
theorem weigh_take (L : List Rl.En) (k : Nat) (h : k < L.length) : weigh (L.take (k + 1)) = weigh (L.take k) + L[k].d.length := by
  unfold weigh
  rw [List.take_succ_eq_append_getElem h, List.map_append, List.sum_append]; simp
theorem weigh_le (L : List Rl.En) (k : Nat) : weigh (L.take k) ≤ weigh L := by
  conv => rhs; rw [← List.take_append_drop k L]
  unfold weigh
  rw [List.map_append, List.sum_append]; omega
theorem weigh_mem {L : List Rl.En} {e : Rl.En} (h : e ∈ L) : e.d.length ≤ weigh L := by
  induction L with
  | nil => cases h
  | cons a r ih =>
    have e1 : weigh (a :: r) = a.d.length + weigh r := by unfold weigh; simp
    rcases List.mem_cons.1 h with rfl | h
    · omega
    · have := ih h; omega
def big (L : List Rl.En) (n m : Nat) : Bool := decide (n < L.length) || decide (m < weigh L)
theorem big_few {L : List Rl.En} {n : Nat} (h : big L n 65536 = false) : L.length ≤ n ∧ Rl.Few L := by
  unfold big at h
  rw [Bool.or_eq_false_iff, decide_eq_false_iff_not, decide_eq_false_iff_not] at h
  exact ⟨by omega, fun e he => by have := weigh_mem he; omega⟩
set_option maxHeartbeats 800000 in
set_option maxRecDepth 100000 in
theorem big_any (B : Nat) (A : Option Addr) (c n : Nat) (L : List Rl.En) (hn : L.length = n) (p q : Nat) (hp : p ≤ 1000000) (hq : q ≤ 1000000) (w : World) (h : IsEnts w B A L) :
    Calls Try.prog 45 #[.slice A n c, .int .i64 (p : Int), .int .i64 (q : Int)] w fun e w' => e = .returned (.bool (big L p q)) ∧ w' = w := by
  subst hn
  by_cases h0 : p < L.length
  · have e : big L p q = true := by simp [big, h0]
    rw [e]
    have h01 : (p : Int) < (L.length : Int) := by omega
    clear e h0 h
    go_enter Try.func45, Try.ntmps45
    go_wp2
    go_ret
    exact ⟨rfl, rfl⟩
  · have h01 : ¬ (p : Int) < (L.length : Int) := by omega
    have HL := hid h0
    have HH := hid h
    clear h0 h
    go_enter Try.func45, Try.ntmps45
    go_wp2_with fail
    go_loopw [7, 8] (fun s i wr => ∃ k v : Nat, k ≤ L.length ∧ s = .int .i64 v ∧ i = .int .i64 k ∧ v ≤ q ∧ Hid (v = weigh (L.take k)) ∧ wr = w) (fun _ i _ => L.length - (RowKit.intOf i).toNat)
    case atStart => exact ⟨0, 0, by omega, rfl, rfl, by omega, hid rfl, rfl⟩
    case round =>
      obtain ⟨k, v, hk, rfl, rfl, hv, hS, rfl⟩ := hrel
      by_cases hlt : k < L.length
      · obtain ⟨b, off, rfl, _, hc⟩ := HH.out.cells k hlt
        obtain ⟨Ad, cd, d0, d1, d2, hd, hd2, _⟩ := hc k hlt
        have hk0 : (k : Int) < (L.length : Int) := by omega
        have hw := weigh_take L k hlt
        have hw2 := weigh_le L (k + 1)
        have hw3 := hS.out
        obtain ⟨m, hm⟩ : ∃ m, m = L[k].d.length := ⟨_, rfl⟩
        rw [← hm] at d2 hw
        have HM := hid (And.intro hw (And.intro hw2 hw3))
        clear hc d0 d1 hd hd2 hw hw2 hw3 hm
        by_cases hmq : m ≤ q + 1
        · have hmq0 : (m : Int) ≤ (q : Int) + 1 := by omega
          by_cases hb : q < v + m
          · have HE : Hid (big L p q = true) := hid (by
              obtain ⟨hw, hw2, hw3⟩ := HM.out
              unfold big; rw [Bool.or_eq_true, decide_eq_true_iff, decide_eq_true_iff]; right; omega)
            have hb0 : (q : Int) < (v : Int) + (m : Int) := by omega
            go_wp2_with fail
            go_ret
            rw [HE.out]
            exact ⟨rfl, rfl⟩
          · have HV : Hid (v + m = weigh (L.take (k + 1))) := hid (by obtain ⟨hw, hw2, hw3⟩ := HM.out; omega)
            have hb0 : ¬ (q : Int) < (v : Int) + (m : Int) := by omega
            go_wp2_with fail
            go_roundw
            case rel => exact ⟨k + 1, v + m, by omega, by go_num, by go_num, by omega, HV, trivial⟩
            case measure => simp [RowKit.intOf]; omega
        · have hmq0 : ¬ (m : Int) ≤ (q : Int) + 1 := by omega
          have HE : Hid (big L p q = true) := hid (by
            obtain ⟨hw, hw2, hw3⟩ := HM.out
            unfold big; rw [Bool.or_eq_true, decide_eq_true_iff, decide_eq_true_iff]; right; omega)
          go_wp2_with fail
          go_ret
          rw [HE.out]
          exact ⟨rfl, rfl⟩
      · obtain rfl : k = L.length := by omega
        have HE : Hid (big L p q = false) := hid (by
          have e := hS.out
          rw [List.take_length] at e
          have := HL.out
          unfold big; rw [Bool.or_eq_false_iff, decide_eq_false_iff_not, decide_eq_false_iff_not]; omega)
        clear hS
        go_wp2_with fail
        go_ret
        rw [HE.out]
        exact ⟨rfl, rfl⟩
end Go.Proofs.Ytkmbkihfdilmbaa
namespace Go.Proofs.Ytkmbkihfdilmbaa.Ms
open Rl (En)
structure M where
  K : Int
  F : Int
  T : Int
  g : Int
  t : Int
  i : Int
  p : Int
  c : Int
  r : Int
  x : Int
  a : Int
  b : Int
  v : Int
  s : Int
  ok : Bool
  es : List En
  d : List Nat
deriving DecidableEq
def M0 : M := ⟨0, 0, 0, 0, 0, 0, 0, 0, 0, 0, 0, 0, 0, 0, false, [], []⟩
def tab : Nat → List Nat
  | 1 => [103, 116, 105, 112]
  | 2 => [103, 116, 111]
  | 3 => [103, 116, 105, 112, 99, 114, 101]
  | 4 => [103, 116, 111, 105, 114]
  | 5 => [103, 116, 105, 112, 114, 100]
  | 6 => [103, 115, 100]
  | 7 => [103, 115, 111, 105, 100]
  | 8 => [120, 97, 98]
  | 9 => [120, 97, 98, 111, 105, 118]
  | 10 => [120, 97, 98, 118]
  | 11 => [120, 97, 98, 111, 105, 118]
  | _ => []
def head : List Nat := [75, 70, 84]
def all : List Nat := [103, 116, 105, 112, 99, 114, 120, 97, 98, 118, 115, 111, 101, 100]
def nums : List Nat := [75, 70, 84, 103, 116, 105, 112, 99, 114, 120, 97, 98, 118, 115]
def isNum (r : Nat) : Bool := nums.contains r
def M.num (m : M) (r : Nat) : Int :=
  if r = 75 then m.K else if r = 70 then m.F else if r = 84 then m.T else if r = 103 then m.g else if r = 116 then m.t else if r = 105 then m.i else if r = 112 then m.p else if r = 99 then m.c else
  if r = 114 then m.r else if r = 120 then m.x else if r = 97 then m.a else if r = 98 then m.b else if r = 118 then m.v else if r = 115 then m.s else 0
def M.set (m : M) (r : Nat) (n : Int) : M :=
  if r = 75 then { m with K := n } else if r = 70 then { m with F := n } else if r = 84 then { m with T := n } else if r = 103 then { m with g := n } else if r = 116 then { m with t := n } else
  if r = 105 then { m with i := n } else if r = 112 then { m with p := n } else if r = 99 then { m with c := n } else if r = 114 then { m with r := n } else if r = 120 then { m with x := n } else
  if r = 97 then { m with a := n } else if r = 98 then { m with b := n } else if r = 118 then { m with v := n } else if r = 115 then { m with s := n } else m
def M.kind (m : M) : Nat := m.K.toNat
def M.isKind (m : M) : Bool := decide (1 ≤ m.K) && decide (m.K ≤ 11)
def M.blank (m : M) (r : Nat) : Bool :=
  if r = 111 then !m.ok else if r = 101 then decide (m.es.length = 0) else if r = 100 then decide (m.d.length = 0) else decide (m.num r = 0)
def least (r : Nat) : Int := if r = 70 ∨ r = 84 ∨ r = 120 ∨ r = 97 then 1 else 0
def most (r : Nat) : Int := if r = 70 ∨ r = 84 then 199 else if r = 103 ∨ r = 97 then 4 else if r = 118 then 2 else 1099511627776
def within (v : Int) (r : Nat) : Bool := decide (least r ≤ v) && decide (v ≤ most r)
def M.foreign (m : M) : Bool := all.any fun r => !(tab m.kind).contains r && !m.blank r
def enOk (e : En) : Bool := within e.t 116 && (decide (0 ≤ e.k) && decide (e.k ≤ 2))
def M.fine (m : M) (r : Nat) : Bool := !isNum r || within (m.num r) r
def M.inRange (m : M) : Bool := (head ++ tab m.kind).all m.fine && m.es.all enOk
def M.size (m : M) : Nat := 8 * (head ++ tab m.kind).length + (24 * m.es.length + weigh m.es) + m.d.length
def check (m : M) : Nat :=
  if m.isKind = false then 13 else if m.foreign = true then 14 else if m.inRange = false then 3 else if 1024 < m.es.length ∨ 65536 < m.size then 2 else 0
def encE (e : En) : List Nat := Pk.enc e.t ++ (Pk.enc e.k ++ (Pk.enc e.d.length ++ e.d))
def M.encF (m : M) (r : Nat) : List Nat :=
  if r = 111 then Pk.enc (if m.ok = true then 1 else 0) else if r = 101 then Pk.enc m.es.length ++ m.es.flatMap encE else if r = 100 then Pk.enc m.d.length ++ m.d else Pk.enc (m.num r)
def M.enc (m : M) : List Nat := (head ++ tab m.kind).flatMap m.encF
def put (m : M) : List Nat × Nat := if check m = 0 then (Fr.frame m.enc, 0) else ([], check m)
def rdE (s : Pk.St) : En × Pk.St := (⟨(Pk.rdInt s).1, (Pk.rdInt (Pk.rdInt s).2).1, (Pk.rdBlob (Pk.rdInt (Pk.rdInt s).2).2).1⟩, (Pk.rdBlob (Pk.rdInt (Pk.rdInt s).2).2).2)
def rdEs : Nat → Pk.St → List En × Pk.St
  | 0, s => ([], s)
  | n + 1, s => ((rdE s).1 :: (rdEs n (rdE s).2).1, (rdEs n (rdE s).2).2)
def rdF (m : M) (s : Pk.St) (r : Nat) : Option (M × Pk.St) :=
  if r = 111 then (if (Pk.rdInt s).1 = 0 ∨ (Pk.rdInt s).1 = 1 then some ({ m with ok := decide ((Pk.rdInt s).1 = 1) }, (Pk.rdInt s).2) else none)
  else if r = 101 then (if (Pk.rdInt s).1 < 0 ∨ (((Pk.rdInt s).2.rest.length / 24 : Nat) : Int) < (Pk.rdInt s).1 then none
    else some ({ m with es := m.es ++ (rdEs (Pk.rdInt s).1.toNat (Pk.rdInt s).2).1 }, (rdEs (Pk.rdInt s).1.toNat (Pk.rdInt s).2).2))
  else if r = 100 then some ({ m with d := (Pk.rdBlob s).1 }, (Pk.rdBlob s).2)
  else some (m.set r (Pk.rdInt s).1, (Pk.rdInt s).2)
def rdFs : List Nat → M → Pk.St → Option (M × Pk.St)
  | [], m, s => some (m, s)
  | r :: l, m, s => match rdF m s r with
    | none => none
    | some (m', s') => rdFs l m' s'
def head3 (p : List Nat) : M × Pk.St :=
  let s0 : Pk.St := ⟨p, false⟩
  let s1 := (Pk.rdInt s0).2
  let s2 := (Pk.rdInt s1).2
  ({ M0 with K := (Pk.rdInt s0).1, F := (Pk.rdInt s1).1, T := (Pk.rdInt s2).1 }, (Pk.rdInt s2).2)
def over (s : Pk.St) : Bool := !s.bad && decide (s.rest.length = 0)
def body (p : List Nat) : Option M :=
  match rdFs (tab (head3 p).1.kind) (head3 p).1 (head3 p).2 with
  | none => none
  | some (m, s) => if over s = true then some m else none
def dec (p : List Nat) : M × Nat :=
  if (head3 p).2.bad = true then (M0, 4) else if (head3 p).1.isKind = false then (M0, 13) else
  match body p with
  | none => (M0, 4)
  | some m => (m, 0)
def checked (x : M × Nat) : M × Nat := if x.2 ≠ 0 then (M0, x.2) else if check x.1 ≠ 0 then (M0, check x.1) else (x.1, 0)
def get (b : List Nat) : M × Nat :=
  if (Fr.get b).2.2 ≠ 0 then (M0, (Fr.get b).2.2) else if (Fr.get b).2.1 < b.length then (M0, 2) else checked (dec (Fr.get b).1)
end Go.Proofs.Ytkmbkihfdilmbaa.Ms
namespace Go.Proofs.Ytkmbkihfdilmbaa.Ms
open Go.RowKit
set_option maxRecDepth 100000
end Go.Proofs.Ytkmbkihfdilmbaa.Ms
namespace Go.Proofs.Ytkmbkihfdilmbaa.Ms
open Go.RowKit
set_option maxRecDepth 100000
def strOf (l : List Nat) : ByteArray := ⟨(l.map Nat.toUInt8).toArray⟩
end Go.Proofs.Ytkmbkihfdilmbaa.Ms
namespace Go.Proofs.Ytkmbkihfdilmbaa.Ms
open Go.RowKit
set_option maxRecDepth 100000
def Tab (w : World) : Prop := ∀ k, k < 12 → w.cell? ⟨0, k, none⟩ = some (.string (strOf (tab k)))
theorem Tab.below {w w' : World} {B : Nat} (h : Tab w) (hb : Below B w w') (hB : 0 < B) : Tab w' := fun k hk => (hb.cell hB).trans (h k hk)
theorem Tab.pos {w : World} (h : Tab w) : 0 < w.heap.size := World.block_lt_of_cell? _ _ (h 0 (by decide))
structure Is (w : World) (B : Nat) (m : M) (A : Option Addr) (c : Nat) (A' : Option Addr) (c' : Nat) : Prop where
  num : ∀ r ∈ nums, InInt (m.num r)
  es : IsEnts w B A m.es
  ec : m.es.length ≤ c ∧ c ≤ maxLen
  en : A = none → c = 0
  d : IsBytes w B A' m.d
  dc : m.d.length ≤ c' ∧ c' ≤ maxLen
  dn : A' = none → c' = 0
theorem Is.below {w w' : World} {B : Nat} {m : M} {A A' : Option Addr} {c c' : Nat} (h : Is w B m A c A' c') (hb : Below B w w') : Is w' B m A c A' c' := ⟨h.num, h.es.below hb, h.ec, h.en, h.d.below hb, h.dc, h.dn⟩
theorem Is.more {w : World} {B B' : Nat} {m : M} {A A' : Option Addr} {c c' : Nat} (h : Is w B m A c A' c') (hB : B ≤ B') : Is w B' m A c A' c' := ⟨h.num, h.es.more hB, h.ec, h.en, h.d.more hB, h.dc, h.dn⟩
end Go.Proofs.Ytkmbkihfdilmbaa.Ms
namespace Go.Proofs.Ytkmbkihfdilmbaa.Vo
open Go Go.RowKit
open Rl (En Lg)
open Ms (M)
set_option maxRecDepth 100000
set_option linter.unusedVariables false
end Go.Proofs.Ytkmbkihfdilmbaa.Vo
namespace Go.Proofs.Ytkmbkihfdilmbaa.Vo
open Go Go.RowKit
open Rl (En Lg)
open Ms (M)
set_option maxRecDepth 100000
set_option linter.unusedVariables false
theorem boxes (w : World) (x y : Array Value) (s t : TypeId) : Below w.heap.size w ((w.alloc (.cells x s)).alloc (.cells y t)) ∧ ((w.alloc (.cells x s)).alloc (.cells y t)).heap.size = w.heap.size + 2 :=
  ⟨((Below.refl _ w).alloc (Nat.le_refl _) _).alloc (by simp) _, by simp⟩
set_option maxHeartbeats 3200000 in
theorem refLast_any (B : Nat) (g : Rl.Lg) (A : Option Addr) (c : Nat) (hg : Rl.Ok g) (w : World) (h : LgIs w B g A c) (hB : B ≤ w.heap.size) :
    Calls Try.prog 60 #[.agg #[.int .i64 g.base, .int .i64 g.term, .slice A g.es.length c]] w fun e w' => e = .returned (.tuple #[.int .i64 g.last, .int .i64 g.lastT]) ∧ Below w.heap.size w w' := by
  obtain ⟨⟨hb0, hb1⟩, _, hl⟩ := hg
  have HB : Hid (∀ n, Below w.heap.size w ((w.alloc (.cells #[.int .i64 g.base, .int .i64 g.term, .slice A g.es.length c] 25)).drewN n)) := hid (fun n => below_drewN ((Below.refl _ w).alloc (Nat.le_refl _) _) n)
  by_cases h0 : g.es.length = 0
  · have HE : Hid (g.last = g.base ∧ g.lastT = g.term) := hid (by unfold Rl.Lg.last Rl.Lg.lastT; rw [h0]; exact ⟨by omega, rfl⟩)
    have h00 : (g.es.length : Int) = 0 := by omega
    clear h
    go_enter Try.func60, Try.ntmps60
    go_wp2_with fail
    go_quiet (fail)
    go_wp2_with fail
    go_ret2
    exact ⟨by rw [HE.out.1, HE.out.2]; rfl, below_drewN ((Below.refl _ w).alloc (Nat.le_refl _) _) _⟩
  · have hlt : g.es.length - 1 < g.es.length := by omega
    obtain ⟨b, off, rfl, hbl, hc⟩ := h.es.cells (g.es.length - 1) hlt
    obtain ⟨A1, c1, d0, d1, d2, _, _⟩ := hc (g.es.length - 1) hlt
    have HE : Hid (g.last = g.base + (g.es.length : Nat) ∧ g.lastT = g.es[g.es.length - 1].t) := hid ⟨rfl, by
      unfold Rl.Lg.lastT
      have := g.at_succ (g.es.length - 1) hlt
      rw [show g.es.length - 1 + 1 = g.es.length by omega] at this
      exact this⟩
    have e0 : (w.alloc (.cells #[.int .i64 g.base, .int .i64 g.term, .slice (some ⟨b, off, none⟩) g.es.length c] 25)).cell? ⟨b, off + (g.es.length - 1) * 3, none⟩ = some (.int .i64 g.es[g.es.length - 1].t) := by rw [((Below.refl _ w).alloc (Nat.le_refl _) _).cell (by show b < _; omega)]; exact d0
    obtain ⟨x, hx⟩ : ∃ x, x = g.es[g.es.length - 1].t := ⟨_, rfl⟩
    rw [← hx] at e0 HE
    obtain ⟨k, hk⟩ : ∃ k, k = g.es.length - 1 := ⟨_, rfl⟩
    rw [← hk] at e0
    have hk1 : ((g.es.length : Nat) : Int) - 1 = (k : Int) := by omega
    have hk2 : (k : Int) < (g.es.length : Int) := by omega
    have h00 : ¬ (g.es.length : Int) = 0 := by omega
    clear h hc d0 d1 d2 hx hk
    go_enter Try.func60, Try.ntmps60
    go_wp2_with fail
    go_quiet (fail)
    go_wp2_with fail
    go_ret2
    exact ⟨by rw [HE.out.1, HE.out.2]; rfl, HB.out _⟩
end Go.Proofs.Ytkmbkihfdilmbaa.Vo
namespace Go.Proofs.Ytkmbkihfdilmbaa
namespace Qu
structure Cf where
  old : List Int
  new : List Int
  lrn : List Int
deriving DecidableEq
def maj (l : List Int) (p : Int → Bool) : Bool := decide (l.length / 2 < l.countP p)
def quo (c : Cf) (p : Int → Bool) : Bool := maj c.old p && (c.new.isEmpty || maj c.new p)
def node (l : List Int) : Bool := decide (l.Pairwise (· < ·) ∧ ∀ x ∈ l, 1 ≤ x ∧ x ≤ 7)
def ok (c : Cf) : Bool := !c.old.isEmpty && node c.old && node c.new && node c.lrn && decide (∀ x ∈ c.lrn, ¬ (x ∈ c.old ∨ x ∈ c.new))
def last (l : List Int) (k : Nat) : Int := (l.take k).getLast?.getD 0
def reach (ps : List (Int × Int)) (v x : Int) : Bool := ps.any fun p => decide (p.1 = x ∧ v ≤ p.2)
def Agr (c : Cf) (ps : List (Int × Int)) (r : Int) : Prop :=
  0 ≤ r ∧ (0 < r → quo c (reach ps r) = true ∧ ∃ p ∈ ps, p.2 = r) ∧ ∀ p ∈ ps, 0 < p.2 → quo c (reach ps p.2) = true → p.2 ≤ r
theorem Agr.le {c : Cf} {ps : List (Int × Int)} {r s : Int} (h1 : Agr c ps r) (h2 : Agr c ps s) : r ≤ s := by
  by_cases h : 0 < r
  · obtain ⟨hq, p, hp, e⟩ := h1.2.1 h
    subst e
    exact h2.2.2 p hp h hq
  · have := h2.1; omega
end Qu
end Go.Proofs.Ytkmbkihfdilmbaa
namespace Go.Proofs.Ytkmbkihfdilmbaa
open Go.RowKit
end Go.Proofs.Ytkmbkihfdilmbaa
namespace Go.Proofs.Ytkmbkihfdilmbaa
open Go.RowKit
structure CIs (w : World) (B : Nat) (c : Qu.Cf) (a0 a1 a2 : Option Addr) (k0 k1 k2 : Nat) : Prop where
  o : IsInts w B a0 c.old
  n : IsInts w B a1 c.new
  l : IsInts w B a2 c.lrn
  zo : a0 = none → k0 = 0
  zn : a1 = none → k1 = 0
  zl : a2 = none → k2 = 0
  co : c.old.length ≤ k0 ∧ k0 ≤ maxLen
  cn : c.new.length ≤ k1 ∧ k1 ≤ maxLen
  cl : c.lrn.length ≤ k2 ∧ k2 ≤ maxLen
namespace CIs
variable {w w' : World} {B B' : Nat} {c : Qu.Cf} {a0 a1 a2 : Option Addr} {k0 k1 k2 : Nat}
theorem below (h : CIs w B c a0 a1 a2 k0 k1 k2) (hb : Below B w w') : CIs w' B c a0 a1 a2 k0 k1 k2 := ⟨h.o.below hb, h.n.below hb, h.l.below hb, h.zo, h.zn, h.zl, h.co, h.cn, h.cl⟩
theorem more (h : CIs w B c a0 a1 a2 k0 k1 k2) (hB : B ≤ B') : CIs w B' c a0 a1 a2 k0 k1 k2 := ⟨h.o.more hB, h.n.more hB, h.l.more hB, h.zo, h.zn, h.zl, h.co, h.cn, h.cl⟩
theorem drewN (h : CIs w B c a0 a1 a2 k0 k1 k2) (j : Nat) : CIs (w.drewN j) B c a0 a1 a2 k0 k1 k2 := ⟨h.o.drewN j, h.n.drewN j, h.l.drewN j, h.zo, h.zn, h.zl, h.co, h.cn, h.cl⟩
end CIs
def Short (c : Qu.Cf) : Prop := c.old.length ≤ 20000 ∧ c.new.length ≤ 20000 ∧ c.lrn.length ≤ 20000
theorem bthen {B : Nat} {a b c : World} (h : Below B a b) (h' : Below b.heap.size b c) (hB : B ≤ b.heap.size) : Below B a c := h.trans (h'.mono hB)
end Go.Proofs.Ytkmbkihfdilmbaa
namespace Go.Proofs.Ytkmbkihfdilmbaa.I
open Go.RowKit
theorem take_succ_eq (l m : List Int) (k : Nat) (h1 : k < l.length) (h2 : k < m.length) (h : l.take k = m.take k) (he : l[k] = m[k]) : l.take (k + 1) = m.take (k + 1) := by
  rw [List.take_succ_eq_append_getElem h1, List.take_succ_eq_append_getElem h2, h, he]
set_option maxHeartbeats 400000 in
theorem same_any (B B' : Nat) (A A' : Option Addr) (c c' : Nat) (l m : List Int) (hl : l.length ≤ maxLen) (hm : m.length ≤ maxLen) (w : World) (h : IsInts w B A l) (h' : IsInts w B' A' m) :
    Calls Try.prog 65 #[.slice A l.length c, .slice A' m.length c'] w fun e w' => e = .returned (.bool (decide (l = m))) ∧ ∃ n, w' = w.drewN n := by
  unfold maxLen at hl hm
  by_cases hne : l.length = m.length
  · have hb : ((l.length : Int) != (m.length : Int)) = false := by rw [bne_eq_false_iff_eq]; omega
    have HN := hid hne
    clear hne
    go_enter Try.func65, Try.ntmps65
    go_wp2
    go_loopw [5] (fun i wr => ∃ k n : Nat, k ≤ l.length ∧ i = .int .i64 k ∧ wr = w.drewN n ∧ Hid (l.take k = m.take k)) (fun i _ => l.length - (RowKit.intOf i).toNat)
    case atStart => exact ⟨0, 0, by omega, rfl, rfl, hid rfl⟩
    case round =>
      obtain ⟨k, n, hk, rfl, rfl, hs⟩ := hrel
      by_cases hlt : k < l.length
      · have hlt' : k < m.length := by have := HN.out; omega
        obtain ⟨b, off, rfl, _, hc⟩ := h.cells k hlt
        obtain ⟨b', off', rfl, _, hc'⟩ := h'.cells k hlt'
        have hck := hc k hlt
        have hck' := hc' k hlt'
        clear hc hc'
        by_cases he : l[k] = m[k]
        · have hbe : (l[k] != m[k]) = false := by rw [bne_eq_false_iff_eq]; omega
          have HE := hid he
          clear he
          go_wp2
          go_quiet (fail)
          go_wp2
          go_roundw
          case rel => exact ⟨k + 1, _, by omega, by go_num, rfl, hid (take_succ_eq l m k hlt hlt' hs.out HE.out)⟩
          case measure => simp [RowKit.intOf]; omega
        · have hbe : (l[k] != m[k]) = true := by rw [bne_iff_ne]; omega
          have hfin : decide (l = m) = false := by
            rw [decide_eq_false_iff_not]; rintro rfl; exact he rfl
          have HF := hid hfin
          clear he hfin
          go_wp2
          go_quiet (fail)
          go_wp2
          go_ret
          exact ⟨by rw [HF.out]; rfl, _, by rw [World.drewN_drewN]⟩
      · obtain rfl : k = l.length := by omega
        have hfin : decide (l = m) = true := by
          rw [decide_eq_true_iff]
          have e := hs.out
          rw [List.take_length, HN.out, List.take_length] at e
          exact e
        have HF := hid hfin
        clear hfin
        go_wp2
        go_ret
        exact ⟨by rw [HF.out]; rfl, _, rfl⟩
  · have hb : ((l.length : Int) != (m.length : Int)) = true := by rw [bne_iff_ne]; omega
    have hfin : decide (l = m) = false := by
      rw [decide_eq_false_iff_not]; rintro rfl; exact hne rfl
    have HF := hid hfin
    clear hfin hne
    go_enter Try.func65, Try.ntmps65
    go_wp2
    go_ret
    exact ⟨by rw [HF.out]; rfl, 0, rfl⟩
theorem info_int : (Try.prog.info? 3).map (fun i => (i.zero, i.size, i.bytes)) = some (some (.int .i64 0), 1, 8) := by kernel_rfl
end Go.Proofs.Ytkmbkihfdilmbaa.I
namespace Go.Proofs.Ytkmbkihfdilmbaa
open Go.RowKit
end Go.Proofs.Ytkmbkihfdilmbaa
namespace Go.Proofs.Ytkmbkihfdilmbaa
open Go.RowKit Go.Maps Go.Sort Go.Shelf
end Go.Proofs.Ytkmbkihfdilmbaa
namespace Go.Proofs.Ytkmbkihfdilmbaa
open Go.RowKit Go.Maps Go.Sort Go.Shelf
end Go.Proofs.Ytkmbkihfdilmbaa
namespace Go.Proofs.Ytkmbkihfdilmbaa
open Go.RowKit
structure IRows (w : World) (B b : Nat) (L : List (List Int)) : Prop where
  at_ : ∀ i (h : i < L.length), ∃ a k, w.cell? ⟨b, i, none⟩ = some (.slice a L[i].length k) ∧ IsInts w B a L[i] ∧ (a = none → k = 0)
end Go.Proofs.Ytkmbkihfdilmbaa
namespace Go.Proofs.Ytkmbkihfdilmbaa
open Go.RowKit
set_option maxRecDepth 100000
end Go.Proofs.Ytkmbkihfdilmbaa
namespace Go.Proofs.Ytkmbkihfdilmbaa
open Go.RowKit
end Go.Proofs.Ytkmbkihfdilmbaa
namespace Go.Proofs.Ytkmbkihfdilmbaa.I
open Go.RowKit
end Go.Proofs.Ytkmbkihfdilmbaa.I
namespace Go.Proofs.Ytkmbkihfdilmbaa
open Go.RowKit
namespace Qu
end Qu
end Go.Proofs.Ytkmbkihfdilmbaa
namespace Go.Proofs.Ytkmbkihfdilmbaa
open Go.RowKit
end Go.Proofs.Ytkmbkihfdilmbaa
namespace Go.Proofs.Ytkmbkihfdilmbaa.Vo
open Go Go.RowKit
open Rl (En Lg)
set_option maxRecDepth 100000
set_option linter.unusedVariables false
theorem info_msg : (Try.prog.info? 31).map (fun i => (i.zero, i.size, i.bytes)) = some (some (.agg #[.int .i64 0, .int .i64 0, .int .i64 0, .int .i64 0, .int .i64 0, .int .i64 0, .int .i64 0, .int .i64 0, .int .i64 0, .int .i64 0, .int .i64 0, .int .i64 0, .int .i64 0, .int .i64 0, .bool false, .slice none 0 0, .slice none 0 0]), 17, 168) := by kernel_rfl
end Go.Proofs.Ytkmbkihfdilmbaa.Vo
namespace Go.Proofs.Ytkmbkihfdilmbaa.Vo
open Go Go.RowKit
open Rl (En Lg)
set_option maxRecDepth 100000
set_option linter.unusedVariables false
end Go.Proofs.Ytkmbkihfdilmbaa.Vo
namespace Go.Proofs.Ytkmbkihfdilmbaa.Im
open Rl (En Lg)
open Qu (Cf)
open Pk (St rdInt rdBlob rdInts enc encs)
set_option linter.unusedVariables false
def InI (v : Int) : Prop := -9223372036854775808 ≤ v ∧ v ≤ 9223372036854775807
structure Codec {α : Type} (N : Nat) (one : St → α × St) (en : α → List Nat) (ok : α → Prop) : Prop where
  back : ∀ x t, ok x → one ⟨en x ++ t, false⟩ = (x, ⟨t, false⟩)
  cut : ∀ x n, ok x → n < (en x).length → (one ⟨(en x).take n, false⟩).2 = Pk.gone
  gone : (one Pk.gone).2 = Pk.gone
  only : ∀ s, s.small → (one s).2.bad = false → s.rest = en (one s).1 ++ (one s).2.rest ∧ s.bad = false
  small : ∀ s, s.small → (one s).2.small
  sok : ∀ s, s.ok → (one s).2.ok
  short : ∀ s, (one s).2.rest.length ≤ s.rest.length
  good : ∀ s, s.small → s.rest.length ≤ N → ok (one s).1
  tiny : ∀ x, ok x → ∀ y ∈ en x, y < 256
  eight : ∀ x, 8 ≤ (en x).length
def rdP {α β : Type} (f : St → α × St) (g : St → β × St) (s : St) : (α × β) × St := (((f s).1, (g (f s).2).1), (g (f s).2).2)
def rdM {α β : Type} (h : α → β) (f : St → α × St) (s : St) : β × St := (h (f s).1, (f s).2)
def rdN {α : Type} (one : St → α × St) : Nat → St → List α × St
  | 0, s => ([], s)
  | n + 1, s => if s.bad = true then ([], s) else ((one s).1 :: (rdN one n (one s).2).1, (rdN one n (one s).2).2)
def rdL {α : Type} (one : St → α × St) (s : St) : List α × St :=
  if (rdInt s).1 < 0 ∨ (((rdInt s).2.rest.length / 8 : Nat) : Int) < (rdInt s).1 then ([], Pk.gone) else rdN one (rdInt s).1.toNat (rdInt s).2
def encL {α : Type} (one : α → List Nat) (l : List α) : List Nat := enc l.length ++ l.flatMap one
def encB (d : List Nat) : List Nat := enc d.length ++ d
def encI (l : List Int) : List Nat := enc l.length ++ encs l
theorem take_app (a b : List Nat) (n : Nat) (h : a.length ≤ n) : (a ++ b).take n = a ++ b.take (n - a.length) := by
  rw [List.take_append, List.take_of_length_le h]
theorem take_app_lt (a b : List Nat) (n : Nat) (h : n < a.length) : (a ++ b).take n = a.take n := by
  rw [List.take_append, show n - a.length = 0 by omega]; simp
theorem enc_sgn (l : List Nat) (h : l.length = 8) (hs : ∀ x ∈ l, x < 256) : enc (Pk.sgn (Pk.num l)) = l := by
  have h1 : Pk.num l < 18446744073709551616 := by
    have := Pk.num_lt l hs
    rw [h] at this
    exact this
  match l, h, hs with
  | [a, b, c, d, e, f, g, i], _, hs =>
    have ha := hs a (by simp)
    have hb := hs b (by simp)
    have hc := hs c (by simp)
    have hd := hs d (by simp)
    have he := hs e (by simp)
    have hf := hs f (by simp)
    have hg := hs g (by simp)
    have hi := hs i (by simp)
    have hn : Pk.num [a, b, c, d, e, f, g, i] = ((((((a * 256 + b) * 256 + c) * 256 + d) * 256 + e) * 256 + f) * 256 + g) * 256 + i := by simp [Pk.num]
    rw [hn] at h1 ⊢
    unfold Pk.sgn Pk.enc Pk.byteOf
    simp only [List.cons.injEq, and_true]
    refine ⟨?_, ?_, ?_, ?_, ?_, ?_, ?_, ?_⟩ <;> (split <;> omega)
theorem rdInt_only (s : St) (hs : s.small) (hb : (rdInt s).2.bad = false) : s.rest = enc (rdInt s).1 ++ (rdInt s).2.rest ∧ s.bad = false := by
  unfold rdInt at hb ⊢
  split at hb
  · cases hb
  · rename_i h
    rw [if_neg h]
    refine ⟨?_, hb⟩
    show s.rest = enc (Pk.sgn (Pk.num (s.rest.take 8))) ++ s.rest.drop 8
    rw [enc_sgn _ (by rw [List.length_take]; omega) (fun x hx => hs x (List.mem_of_mem_take hx)), List.take_append_drop]
theorem rdInt_cut (v : Int) (n : Nat) (h : n < 8) : rdInt ⟨(enc v).take n, false⟩ = (0, Pk.gone) := by
  unfold rdInt; rw [if_pos (by simp only [List.length_take, Pk.enc_length]; omega)]
theorem Codec.int (N : Nat) : Codec N rdInt enc InI where
  back := fun x t hx => Pk.rdInt_enc x t false hx
  cut := fun x n _ hn => by rw [rdInt_cut x n (by rw [Pk.enc_length] at hn; exact hn)]
  gone := rfl
  only := rdInt_only
  small := Pk.rdInt_small
  sok := Pk.rdInt_ok
  short := Pk.rdInt_short
  good := fun s hs _ => Pk.rdInt_in s hs
  tiny := fun x _ => Pk.enc_small x
  eight := fun x => by rw [Pk.enc_length]; exact Nat.le_refl _
theorem well_of {s : St} {P : Prop} (h : ¬ (s.bad = true ∨ P)) : s.bad = false := by
  rcases hh : s.bad with _ | _
  · rfl
  · exact absurd (Or.inl hh) h
theorem Codec.blob (N : Nat) (hN : N ≤ 1000000000000) : Codec N rdBlob encB (fun d => (∀ x ∈ d, x < 256) ∧ d.length ≤ N) where
  back := fun l t ⟨_, h⟩ => by
    have e := Pk.rdInt_enc (l.length : Int) (l ++ t) false ⟨by omega, by omega⟩
    unfold rdBlob encB
    rw [List.append_assoc, e, if_neg (by simp; omega)]
    simp
  cut := fun l n ⟨_, h⟩ hn => by
    unfold encB at hn ⊢
    rw [List.length_append, Pk.enc_length] at hn
    by_cases h8 : n < 8
    · rw [take_app_lt _ _ _ (by rw [Pk.enc_length]; exact h8)]
      unfold rdBlob
      rw [rdInt_cut _ _ h8]; rfl
    · rw [take_app _ _ _ (by rw [Pk.enc_length]; omega)]
      have e := Pk.rdInt_enc (l.length : Int) (l.take (n - (enc (l.length : Int)).length)) false ⟨by omega, by omega⟩
      unfold rdBlob
      rw [e, if_pos (Or.inr (Or.inr (by simp only [List.length_take, Pk.enc_length]; omega)))]
  gone := rfl
  only := fun s hs hb => by
    have h1 := Pk.rdInt_small s hs
    unfold rdBlob at hb ⊢
    split at hb
    · cases hb
    · rename_i h
      rw [if_neg h]
      obtain ⟨h2, h3⟩ := rdInt_only s hs (well_of h)
      refine ⟨?_, h3⟩
      have hl : ((((rdInt s).2.rest.take (rdInt s).1.toNat).length : Nat) : Int) = (rdInt s).1 := by rw [List.length_take]; omega
      show s.rest = (enc ((((rdInt s).2.rest.take (rdInt s).1.toNat).length : Nat) : Int) ++ (rdInt s).2.rest.take (rdInt s).1.toNat) ++ (rdInt s).2.rest.drop (rdInt s).1.toNat
      rw [hl, List.append_assoc, List.take_append_drop]; exact h2
  small := fun s hs => (Pk.rdBlob_small s hs).1
  sok := fun s _ => Pk.rdBlob_ok s
  short := fun s => (Pk.rdBlob_short s).1
  good := fun s hs hl => ⟨(Pk.rdBlob_small s hs).2, Nat.le_trans (Pk.rdBlob_short s).2 hl⟩
  tiny := fun l ⟨h, _⟩ y hy => by
    unfold encB at hy
    rcases List.mem_append.1 hy with hy | hy
    · exact Pk.enc_small _ y hy
    · exact h y hy
  eight := fun l => by unfold encB; rw [List.length_append, Pk.enc_length]; omega
theorem encs_nums : ∀ (n : Nat) (l : List Nat), (∀ x ∈ l, x < 256) → 8 * n ≤ l.length → encs (Pk.nums n l) = l.take (8 * n) := by
  intro n
  induction n with
  | zero => intro l _ _; rfl
  | succ n ih =>
    intro l hs hl
    rw [Pk.nums_snoc, Pk.encs_snoc, ih l hs (by omega), enc_sgn _ (by rw [List.length_take, List.length_drop]; omega) (fun x hx => hs x (List.mem_of_mem_drop (List.mem_of_mem_take hx)))]
    rw [show 8 * (n + 1) = 8 * n + 8 by omega, List.take_add]
theorem Codec.ints (N : Nat) (hN : N ≤ 1000000000000) : Codec N rdInts encI (fun l => (∀ v ∈ l, InI v) ∧ l.length ≤ N) where
  back := fun l t ⟨hv, h⟩ => by
    have e := Pk.rdInt_enc (l.length : Int) (encs l ++ t) false ⟨by omega, by omega⟩
    have el := Pk.encs_length l
    unfold rdInts encI
    rw [List.append_assoc, e, if_neg (by simp [el]; omega)]
    simp only [Int.toNat_natCast]
    rw [Pk.nums_encs l t hv, List.drop_left' el]
  cut := fun l n ⟨_, h⟩ hn => by
    have el := Pk.encs_length l
    unfold encI at hn ⊢
    rw [List.length_append, Pk.enc_length, el] at hn
    by_cases h8 : n < 8
    · rw [take_app_lt _ _ _ (by rw [Pk.enc_length]; exact h8)]
      unfold rdInts
      rw [rdInt_cut _ _ h8]; rfl
    · rw [take_app _ _ _ (by rw [Pk.enc_length]; omega)]
      have e := Pk.rdInt_enc (l.length : Int) ((encs l).take (n - (enc (l.length : Int)).length)) false ⟨by omega, by omega⟩
      unfold rdInts
      rw [e, if_pos (Or.inr (Or.inr (by simp only [List.length_take, Pk.enc_length, el]; omega)))]
  gone := rfl
  only := fun s hs hb => by
    have h1 := Pk.rdInt_small s hs
    unfold rdInts at hb ⊢
    split at hb
    · cases hb
    · rename_i h
      rw [if_neg h]
      obtain ⟨h2, h3⟩ := rdInt_only s hs (well_of h)
      refine ⟨?_, h3⟩
      show s.rest = (enc (((Pk.nums (rdInt s).1.toNat (rdInt s).2.rest).length : Nat) : Int) ++ encs (Pk.nums (rdInt s).1.toNat (rdInt s).2.rest)) ++ (rdInt s).2.rest.drop (8 * (rdInt s).1.toNat)
      rw [Pk.nums_length, encs_nums _ _ h1 (by omega), List.append_assoc, List.take_append_drop, show (((rdInt s).1.toNat : Nat) : Int) = (rdInt s).1 by omega]
      exact h2
  small := Pk.rdInts_small
  sok := fun s _ => Pk.rdInts_ok s
  short := fun s => (Pk.rdInts_short s).1
  good := fun s hs hl => ⟨Pk.rdInts_in s hs, by have := (Pk.rdInts_short s).2; omega⟩
  tiny := fun l _ y hy => by
    unfold encI at hy
    rcases List.mem_append.1 hy with hy | hy
    · exact Pk.enc_small _ y hy
    · exact Pk.encs_small l y hy
  eight := fun l => by unfold encI; rw [List.length_append, Pk.enc_length]; omega
section
variable {α β : Type} {N : Nat} {f : St → α × St} {g : St → β × St} {e1 : α → List Nat} {e2 : β → List Nat} {o1 : α → Prop} {o2 : β → Prop}
theorem Codec.map (h1 : Codec N f e1 o1) (h : α → β) (k : β → α) (hk : ∀ a, k (h a) = a) (hh : ∀ b, h (k b) = b) : Codec N (rdM h f) (fun b => e1 (k b)) (fun b => o1 (k b)) where
  back := fun x t hx => by unfold rdM; rw [h1.back _ t hx]; simp only []; rw [hh]
  cut := fun x n hx hn => h1.cut _ n hx hn
  gone := h1.gone
  only := fun s hs hb => by
    have := h1.only s hs hb
    unfold rdM
    simp only [hk]
    exact this
  small := h1.small
  sok := h1.sok
  short := h1.short
  good := fun s hs hl => by show o1 (k (h (f s).1)); rw [hk]; exact h1.good s hs hl
  tiny := fun x hx => h1.tiny _ hx
  eight := fun x => h1.eight _
theorem rdN_back (h1 : Codec N f e1 o1) : ∀ (L : List α) (t : List Nat), (∀ x ∈ L, o1 x) → rdN f L.length ⟨L.flatMap e1 ++ t, false⟩ = (L, ⟨t, false⟩) := by
  intro L
  induction L with
  | nil => intro t _; rfl
  | cons x L ih =>
    intro t h
    show (if false = true then _ else _) = _
    rw [if_neg (by decide)]
    simp only [List.flatMap_cons, List.append_assoc]
    rw [h1.back x _ (h x List.mem_cons_self)]
    simp only []
    rw [ih t (fun y hy => h y (List.mem_cons_of_mem _ hy))]
theorem rdN_gone (n : Nat) : rdN f n Pk.gone = ([], Pk.gone) := by
  cases n with
  | zero => rfl
  | succ n => show (if true = true then _ else _) = _; rw [if_pos rfl]
theorem rdN_cut (h1 : Codec N f e1 o1) : ∀ (L : List α) (n : Nat), (∀ x ∈ L, o1 x) → n < (L.flatMap e1).length → (rdN f L.length ⟨(L.flatMap e1).take n, false⟩).2 = Pk.gone := by
  intro L
  induction L with
  | nil => intro n _ h; simp at h
  | cons x L ih =>
    intro n h hn
    show (if false = true then _ else _ : List α × St).2 = _
    rw [if_neg (by decide)]
    simp only []
    rw [List.flatMap_cons] at hn ⊢
    rw [List.length_append] at hn
    by_cases hc : n < (e1 x).length
    · rw [take_app_lt _ _ _ hc, h1.cut x n (h x List.mem_cons_self) hc, rdN_gone]
    · rw [take_app _ _ _ (by omega), h1.back x _ (h x List.mem_cons_self)]
      exact ih _ (fun y hy => h y (List.mem_cons_of_mem _ hy)) (by omega)
theorem rdN_only (h1 : Codec N f e1 o1) : ∀ (n : Nat) (s : St), s.small → (rdN f n s).2.bad = false → s.rest = (rdN f n s).1.flatMap e1 ++ (rdN f n s).2.rest ∧ s.bad = false ∧ (rdN f n s).1.length = n := by
  intro n
  induction n with
  | zero => intro s hs hb; exact ⟨rfl, hb, rfl⟩
  | succ n ih =>
    intro s hs hb
    rcases hsb : s.bad with _ | _
    · have e : rdN f (n + 1) s = ((f s).1 :: (rdN f n (f s).2).1, (rdN f n (f s).2).2) := by show (if s.bad = true then _ else _) = _; rw [hsb, if_neg (by decide)]
      rw [e] at hb ⊢
      obtain ⟨q1, q2, q3⟩ := ih _ (h1.small s hs) hb
      obtain ⟨q4, q5⟩ := h1.only s hs q2
      refine ⟨?_, rfl, by simp [q3]⟩
      show s.rest = ((f s).1 :: (rdN f n (f s).2).1).flatMap e1 ++ (rdN f n (f s).2).2.rest
      rw [List.flatMap_cons, List.append_assoc, ← q1, ← q4]
    · have e : rdN f (n + 1) s = ([], s) := by show (if s.bad = true then _ else _) = _; rw [hsb, if_pos rfl]
      rw [e] at hb
      have hb' : s.bad = false := hb
      rw [hsb] at hb'; cases hb'
theorem rdN_keeps {P : St → Prop} (h : ∀ s, P s → P (f s).2) : ∀ (n : Nat) (s : St), P s → P (rdN f n s).2 := by
  intro n
  induction n with
  | zero => intro s hs; exact hs
  | succ n ih =>
    intro s hs
    show P (if s.bad = true then _ else _ : List α × St).2
    split
    · exact hs
    · exact ih _ (h s hs)
theorem rdN_all {P : St → Prop} {Q : α → Prop} (h : ∀ s, P s → P (f s).2) (hq : ∀ s, P s → Q (f s).1) : ∀ (n : Nat) (s : St), P s → (∀ x ∈ (rdN f n s).1, Q x) ∧ (rdN f n s).1.length ≤ n := by
  intro n
  induction n with
  | zero => intro s hs; exact ⟨fun x hx => (by cases hx), Nat.zero_le _⟩
  | succ n ih =>
    intro s hs
    have e : rdN f (n + 1) s = if s.bad = true then ([], s) else ((f s).1 :: (rdN f n (f s).2).1, (rdN f n (f s).2).2) := rfl
    rw [e]
    split
    · exact ⟨fun x hx => (by cases hx), Nat.zero_le _⟩
    · obtain ⟨q1, q2⟩ := ih _ (h s hs)
      refine ⟨fun x hx => ?_, by simp; exact q2⟩
      rcases List.mem_cons.1 hx with rfl | hx
      · exact hq s hs
      · exact q1 x hx
theorem rdL_gone : rdL f Pk.gone = ([], Pk.gone) := by
  have e : rdInt Pk.gone = (0, Pk.gone) := rfl
  unfold rdL
  rw [e]; rfl
theorem enc_tiny (v : Int) : ∀ y ∈ enc v, y < 256 := Pk.enc_small v
theorem flat_eight (h1 : Codec N f e1 o1) (L : List α) : 8 * L.length ≤ (L.flatMap e1).length := by
  induction L with
  | nil => simp
  | cons x L ih => rw [List.flatMap_cons, List.length_append, List.length_cons]; have := h1.eight x; omega
theorem Codec.list (h1 : Codec N f e1 o1) (hN : N ≤ 1000000000000) : Codec N (rdL f) (encL e1) (fun l => (∀ x ∈ l, o1 x) ∧ l.length ≤ N) where
  back := fun L t ⟨hL, hl⟩ => by
    have h8 := flat_eight h1 L
    unfold rdL encL
    rw [List.append_assoc, Pk.rdInt_enc _ _ _ ⟨by omega, by omega⟩]
    simp only []
    rw [if_neg (by rw [List.length_append]; omega)]
    exact rdN_back h1 L t hL
  cut := fun L n ⟨hL, hl⟩ hn => by
    unfold encL at hn ⊢
    rw [List.length_append, Pk.enc_length] at hn
    unfold rdL
    by_cases h : n < 8
    · have e : (enc (L.length : Int) ++ L.flatMap e1).take n = (enc (L.length : Int)).take n := take_app_lt _ _ _ h
      have e2 : rdInt ⟨(enc (L.length : Int)).take n, false⟩ = (0, Pk.gone) := by
        unfold rdInt; rw [if_pos (by simp only [List.length_take, Pk.enc_length]; omega)]
      rw [e, e2]; rfl
    · rw [take_app _ _ _ (by rw [Pk.enc_length]; omega), Pk.rdInt_enc _ _ _ ⟨by omega, by omega⟩]
      simp only []
      split
      · rfl
      · exact rdN_cut h1 L _ hL (by rw [Pk.enc_length]; omega)
  gone := by rw [rdL_gone]
  only := fun s hs hb => by
    have e : rdL f s = if (rdInt s).1 < 0 ∨ (((rdInt s).2.rest.length / 8 : Nat) : Int) < (rdInt s).1 then ([], Pk.gone) else rdN f (rdInt s).1.toNat (rdInt s).2 := rfl
    rw [e] at hb ⊢
    split at hb
    · cases hb
    · rename_i hc
      rw [if_neg hc]
      obtain ⟨q1, q2, q3⟩ := rdN_only h1 _ _ (Pk.rdInt_small s hs) hb
      obtain ⟨q4, q5⟩ := rdInt_only s hs q2
      refine ⟨?_, q5⟩
      unfold encL
      rw [q3, List.append_assoc, ← q1, show (((rdInt s).1.toNat : Nat) : Int) = (rdInt s).1 by omega]
      exact q4
  small := fun s hs => by
    unfold rdL
    split
    · exact Pk.gone_small
    · exact rdN_keeps h1.small _ _ (Pk.rdInt_small s hs)
  sok := fun s hs => by
    unfold rdL
    split
    · exact Pk.gone_ok
    · exact rdN_keeps h1.sok _ _ (Pk.rdInt_ok s hs)
  short := fun s => by
    have h := Pk.rdInt_short s
    unfold rdL
    split
    · exact Nat.zero_le _
    · exact rdN_keeps (P := fun x => x.rest.length ≤ s.rest.length) (fun x hx => Nat.le_trans (h1.short x) hx) _ _ h
  good := fun s hs hl => by
    have h := Pk.rdInt_short s
    unfold rdL
    split
    · exact ⟨fun x hx => (by cases hx), Nat.zero_le _⟩
    · rename_i hc
      obtain ⟨q1, q2⟩ := rdN_all (P := fun x => x.small ∧ x.rest.length ≤ N) (Q := o1) (fun x hx => ⟨h1.small x hx.1, Nat.le_trans (h1.short x) hx.2⟩) (fun x hx => h1.good x hx.1 hx.2) (rdInt s).1.toNat (rdInt s).2 ⟨Pk.rdInt_small s hs, Nat.le_trans h hl⟩
      exact ⟨q1, by omega⟩
  tiny := fun L ⟨hL, _⟩ y hy => by
    unfold encL at hy
    rcases List.mem_append.1 hy with hy | hy
    · exact enc_tiny _ y hy
    · obtain ⟨x, hx, hy⟩ := List.mem_flatMap.1 hy
      exact h1.tiny x (hL x hx) y hy
  eight := fun L => by unfold encL; rw [List.length_append, Pk.enc_length]; omega
end
structure Pt where
  log : Lg
  cf : Cf
  sn : List Nat
deriving DecidableEq
structure Hd where
  g : Int
  t : Int
  v : Int
  p : Pt
deriving DecidableEq
structure Vt where
  x : Int
  p : Int
  r : Int
  b : Int
  v : Int
deriving DecidableEq
structure Im where
  hs : List Hd
  vs : List Vt
deriving DecidableEq
structure Ch where
  k : Int
  g : Int
  t : Int
  v : Int
  f : Int
  p : Pt
  a : Vt
deriving DecidableEq
def P0 : Pt := ⟨⟨0, 0, []⟩, ⟨[], [], []⟩, []⟩
def rdE : St → En × St := rdM (fun p => ⟨p.1.1, p.1.2, p.2⟩) (rdP (rdP rdInt rdInt) rdBlob)
def rdLg : St → Lg × St := rdM (fun p => ⟨p.1.1, p.1.2, p.2⟩) (rdP (rdP rdInt rdInt) (rdL rdE))
def rdCf : St → Cf × St := rdM (fun p => ⟨p.1.1, p.1.2, p.2⟩) (rdP (rdP rdInts rdInts) rdInts)
def rdPt : St → Pt × St := rdM (fun p => ⟨p.1.1, p.1.2, p.2⟩) (rdP (rdP rdLg rdCf) rdBlob)
def rdH : St → Hd × St := rdM (fun p => ⟨p.1.1.1, p.1.1.2, p.1.2, p.2⟩) (rdP (rdP (rdP rdInt rdInt) rdInt) rdPt)
def rdV : St → Vt × St := rdM (fun p => ⟨p.1.1.1.1, p.1.1.1.2, p.1.1.2, p.1.2, p.2⟩) (rdP (rdP (rdP (rdP rdInt rdInt) rdInt) rdInt) rdInt)
def rdIm : St → Im × St := rdM (fun p => ⟨p.1, p.2⟩) (rdP (rdL rdH) (rdL rdV))
def encE (e : En) : List Nat := (enc e.t ++ enc e.k) ++ encB e.d
def encCf (c : Cf) : List Nat := (encI c.old ++ encI c.new) ++ encI c.lrn
def okV (v : Vt) : Prop := (((InI v.x ∧ InI v.p) ∧ InI v.r) ∧ InI v.b) ∧ InI v.v
section
variable (N : Nat) (hN : N ≤ 1000000000000)
include hN
end
def fin (s : St) : Int := if s.bad = true then 4 else if 0 < s.rest.length then 2 else 0
def whole {α : Type} (one : St → α × St) (no : α) (b : List Nat) : α × Int := if fin (one ⟨b, false⟩).2 ≠ 0 then (no, fin (one ⟨b, false⟩).2) else ((one ⟨b, false⟩).1, 0)
section
variable {α : Type} {N : Nat} {f : St → α × St} {e1 : α → List Nat} {o1 : α → Prop} (h1 : Codec N f e1 o1) (no : α)
include h1
end
def asc {α : Type} (lt : α → α → Bool) : List α → Bool
  | [] => true
  | [_] => true
  | a :: b :: l => lt a b && asc lt (b :: l)
def ltH (a b : Hd) : Bool := decide (a.g < b.g)
def ltV (a b : Vt) : Bool := decide (a.x < b.x) || (decide (a.x = b.x) && decide (a.p < b.p))
def sorted (x : Im) : Bool := asc ltH x.hs && asc ltV x.vs
def get (b : List Nat) : Im × Int := if (whole rdIm ⟨[], []⟩ b).2 = 0 ∧ sorted (whole rdIm ⟨[], []⟩ b).1 = false then (⟨[], []⟩, 15) else whole rdIm ⟨[], []⟩ b
end Go.Proofs.Ytkmbkihfdilmbaa.Im
namespace Go.Proofs.Ytkmbkihfdilmbaa
open Go.RowKit
theorem row_cell {w : World} {g : Nat} {cs : Array Value} {t : TypeId} (h : w.heap[g]? = some (.cells cs t (0, 0))) (i : Nat) : w.cell? ⟨g, i, none⟩ = cs[i]? := cell_of_row w g i cs t (0, 0) h
theorem row_free {w : World} {g : Nat} {cs : Array Value} {t : TypeId} (h : w.heap[g]? = some (.cells cs t (0, 0))) (i : Nat) : w.frozen? ⟨g, i, none⟩ = false := by simp [World.frozen?, h]
theorem row_lt {w : World} {g : Nat} {o : Obj} (h : w.heap[g]? = some o) : g < w.heap.size := by
  rcases Nat.lt_or_ge g w.heap.size with hlt | hge
  · exact hlt
  · rw [Array.getElem?_eq_none hge] at h; cases h
theorem row_set {w : World} {g : Nat} {cs : Array Value} {t : TypeId} (h : w.heap[g]? = some (.cells cs t (0, 0))) (i : Nat) (u : Value) :
    (w.setCell ⟨g, i, none⟩ u).heap[g]? = some (.cells (cs.setIfInBounds i u) t (0, 0)) := by
  simp [World.setCell, Array.getElem?_modify, h]
namespace Rdr
variable {w w' : World} {g : Nat} {s : Pk.St}
end Rdr
theorem IsBytes.drop {w : World} {B : Nat} {ad : Addr} {l : List Nat} (h : IsBytes w B (some ad) l) (m : Nat) (hm : m < l.length) : IsBytes w B (some (ad.add m)) (l.drop m) := by
  refine ⟨fun x hx => h.small x (List.mem_of_mem_drop hx), fun k hk => ?_⟩
  obtain ⟨b, off, e, hb, hc⟩ := h.cells m hm
  injection e with e
  subst e
  refine ⟨b, off + m, by rw [add_off], hb, fun i hi => ?_⟩
  rw [List.length_drop] at hi
  rw [List.getElem_drop, Nat.add_assoc]
  exact hc (m + i) (by omega)
theorem IsBytes.put {w : World} {g : Nat} {A : Option Addr} {l : List Nat} (h : IsBytes w g A l) (k : Nat) (u : Value) : IsBytes (w.setCell ⟨g, k, none⟩ u).drew g A l := (h.below ((Below.refl g w).setCell (Nat.le_refl _) _)).drew
end Go.Proofs.Ytkmbkihfdilmbaa
namespace Go.Proofs.Ytkmbkihfdilmbaa.Im
open Go.RowKit
open Rl (En Lg)
open Qu (Cf)
set_option maxRecDepth 100000
set_option linter.unusedVariables false
structure Ad where
  e : Option Addr
  ce : Nat
  o : Option Addr
  co : Nat
  n : Option Addr
  cn : Nat
  l : Option Addr
  cl : Nat
  s : Option Addr
  cs : Nat
def A0 : Ad := ⟨none, 0, none, 0, none, 0, none, 0, none, 0⟩
def Room (n c : Nat) (A : Option Addr) : Prop := (n ≤ c ∧ c ≤ maxLen) ∧ (A = none → c = 0)
structure IsPt (w : World) (B : Nat) (p : Pt) (a : Ad) : Prop where
  es : IsEnts w B a.e p.log.es
  o : IsInts w B a.o p.cf.old
  n : IsInts w B a.n p.cf.new
  l : IsInts w B a.l p.cf.lrn
  s : IsBytes w B a.s p.sn
  re : Room p.log.es.length a.ce a.e
  ro : Room p.cf.old.length a.co a.o
  rn : Room p.cf.new.length a.cn a.n
  rl : Room p.cf.lrn.length a.cl a.l
  rs : Room p.sn.length a.cs a.s
  num : InInt p.log.base ∧ InInt p.log.term
namespace IsPt
variable {w w' : World} {B B' : Nat} {p : Pt} {a : Ad}
theorem below (h : IsPt w B p a) (hb : Below B w w') : IsPt w' B p a := ⟨h.es.below hb, h.o.below hb, h.n.below hb, h.l.below hb, h.s.below hb, h.re, h.ro, h.rn, h.rl, h.rs, h.num⟩
theorem more (h : IsPt w B p a) (hB : B ≤ B') : IsPt w B' p a := ⟨h.es.more hB, h.o.more hB, h.n.more hB, h.l.more hB, h.s.more hB, h.re, h.ro, h.rn, h.rl, h.rs, h.num⟩
end IsPt
structure Hq where
  h : Hd
  a : Ad
structure Cq where
  c : Ch
  a : Ad
def cellsH (q : Hq) : List Value := [.int .i64 q.h.g, .int .i64 q.h.t, .int .i64 q.h.v, .int .i64 q.h.p.log.base, .int .i64 q.h.p.log.term, .slice q.a.e q.h.p.log.es.length q.a.ce, .slice q.a.o q.h.p.cf.old.length q.a.co, .slice q.a.n q.h.p.cf.new.length q.a.cn, .slice q.a.l q.h.p.cf.lrn.length q.a.cl, .slice q.a.s q.h.p.sn.length q.a.cs]
def cellsV (v : Vt) : List Value := [.int .i64 v.x, .int .i64 v.p, .int .i64 v.r, .int .i64 v.b, .int .i64 v.v]
def cellsC (q : Cq) : List Value := [.int .i64 q.c.k, .int .i64 q.c.g, .int .i64 q.c.t, .int .i64 q.c.v, .int .i64 q.c.f, .int .i64 q.c.p.log.base, .int .i64 q.c.p.log.term, .slice q.a.e q.c.p.log.es.length q.a.ce, .slice q.a.o q.c.p.cf.old.length q.a.co, .slice q.a.n q.c.p.cf.new.length q.a.cn, .slice q.a.l q.c.p.cf.lrn.length q.a.cl, .slice q.a.s q.c.p.sn.length q.a.cs, .int .i64 q.c.a.x, .int .i64 q.c.a.p, .int .i64 q.c.a.r, .int .i64 q.c.a.b, .int .i64 q.c.a.v]
structure IsRow {α : Type} (f : α → List Value) (size : Nat) (w : World) (B : Nat) (A : Option Addr) (L : List α) : Prop where
  at_ : ∀ k, k < L.length → ∃ b off, A = some ⟨b, off, none⟩ ∧ b < B ∧ ∀ i (h : i < L.length), w.rangeAt b (off + i * size) (f L[i])
namespace IsRow
variable {α : Type} {f : α → List Value} {size : Nat} {w w' : World} {B B' : Nat} {A : Option Addr} {L : List α}
theorem nil : IsRow f size w B A ([] : List α) := ⟨fun k h => by simp at h⟩
theorem below (h : IsRow f size w B A L) (hb : Below B w w') : IsRow f size w' B A L := ⟨fun k hk => by
  obtain ⟨b, off, e, hlt, hc⟩ := h.at_ k hk
  exact ⟨b, off, e, hlt, fun i hi j v hv => (hb.cell (p := ⟨b, off + i * size + j, none⟩) hlt).trans (hc i hi j v hv)⟩⟩
theorem more (h : IsRow f size w B A L) (hB : B ≤ B') : IsRow f size w B' A L := ⟨fun k hk => by
  obtain ⟨b, off, e, hlt, hc⟩ := h.at_ k hk
  exact ⟨b, off, e, by omega, hc⟩⟩
end IsRow
structure IsHds (w : World) (B : Nat) (A : Option Addr) (Q : List Hq) : Prop where
  row : IsRow cellsH 10 w B A Q
  pt : ∀ q ∈ Q, IsPt w B q.h.p q.a
  num : ∀ q ∈ Q, InInt q.h.g ∧ InInt q.h.t ∧ InInt q.h.v
structure IsVs (w : World) (B : Nat) (A : Option Addr) (L : List Vt) : Prop where
  row : IsRow cellsV 5 w B A L
  num : ∀ v ∈ L, okV v
structure IsCs (w : World) (B : Nat) (A : Option Addr) (Q : List Cq) : Prop where
  row : IsRow cellsC 17 w B A Q
  pt : ∀ q ∈ Q, IsPt w B q.c.p q.a
  num : ∀ q ∈ Q, (InInt q.c.k ∧ InInt q.c.g ∧ InInt q.c.t ∧ InInt q.c.v ∧ InInt q.c.f) ∧ okV q.c.a
theorem IsHds.below {w w' : World} {B : Nat} {A : Option Addr} {Q : List Hq} (h : IsHds w B A Q) (hb : Below B w w') : IsHds w' B A Q := ⟨h.row.below hb, fun q hq => (h.pt q hq).below hb, h.num⟩
theorem IsHds.more {w : World} {B B' : Nat} {A : Option Addr} {Q : List Hq} (h : IsHds w B A Q) (hB : B ≤ B') : IsHds w B' A Q := ⟨h.row.more hB, fun q hq => (h.pt q hq).more hB, h.num⟩
theorem IsVs.below {w w' : World} {B : Nat} {A : Option Addr} {Q : List Vt} (h : IsVs w B A Q) (hb : Below B w w') : IsVs w' B A Q := ⟨h.row.below hb, h.num⟩
theorem IsVs.more {w : World} {B B' : Nat} {A : Option Addr} {Q : List Vt} (h : IsVs w B A Q) (hB : B ≤ B') : IsVs w B' A Q := ⟨h.row.more hB, h.num⟩
theorem IsCs.below {w w' : World} {B : Nat} {A : Option Addr} {Q : List Cq} (h : IsCs w B A Q) (hb : Below B w w') : IsCs w' B A Q := ⟨h.row.below hb, fun q hq => (h.pt q hq).below hb, h.num⟩
theorem IsCs.more {w : World} {B B' : Nat} {A : Option Addr} {Q : List Cq} (h : IsCs w B A Q) (hB : B ≤ B') : IsCs w B' A Q := ⟨h.row.more hB, fun q hq => (h.pt q hq).more hB, h.num⟩
def ldX (t : TypeId) (a : Value) : Sem Value := Instr.loadAt t a
def stX (t : TypeId) (a v : Value) : Sem Unit := Instr.storeAt t a v
theorem loadAt_hard (a : Value) : Instr.loadAt 52 a = ldX 52 a := rfl
theorem storeAt_hard (a v : Value) : Instr.storeAt 52 a v = stX 52 a v := rfl
theorem info_hard : (Try.prog.info? 52).map (·.size) = some 10 := by kernel_rfl
theorem stNew (w : World) (t : TypeId) (n : Nat) (hi : (Try.prog.info? t).map (·.size) = some n) (cs cs' : Array Value) (h : cs.size = n) (h' : cs'.size = n) (h1 : cs'.all (·.oneCell') = true) : (stX t (.pointer (some ⟨w.heap.size, 0, none⟩)) (.agg cs')).run Try.prog (w.alloc (.cells cs t)) = .ok () (w.alloc (.cells cs' t)) :=
  run_storeVar_new w _ cs cs' (by rw [hi, h']) (by rw [h, h']) h1
end Go.Proofs.Ytkmbkihfdilmbaa.Im
namespace Go.Proofs.Ytkmbkihfdilmbaa.Im
open Go.RowKit
set_option maxRecDepth 100000
theorem ldRow {t : TypeId} {n : Nat} {d : TypeDesc} (hi : (Try.prog.info? t).map (·.size) = some n) (hu : Try.prog.underlying t = some d) (hd : d.isRow = true) {w : World} {b : Nat} {cs : Array Value} {t' : TypeId} {fr : Nat × Nat} (hg : w.heap[b]? = some (.cells cs t' fr)) (h : cs.size = n) : (ldX t (.pointer (some ⟨b, 0, none⟩))).run Try.prog w = .ok (.agg cs) w :=
  run_loadVar_row w b t' t cs fr d hg hu (by cases d <;> first | rfl | cases hd) (by rw [hi, h])
theorem stRow {t : TypeId} {n : Nat} (hi : (Try.prog.info? t).map (·.size) = some n) {w : World} {b : Nat} {cs cs' : Array Value} {t' : TypeId} (hg : w.heap[b]? = some (.cells cs t' (0, 0))) (h : cs.size = n) (h' : cs'.size = n) (h1 : cs'.all (·.oneCell') = true) : (stX t (.pointer (some ⟨b, 0, none⟩)) (.agg cs')).run Try.prog w = .ok () (w.setRow b cs') :=
  run_storeVar_row w b t' t cs cs' hg (by rw [hi, h']) (by rw [h, h']) h1
theorem row_turned (w : World) (b : Nat) (cs : Array Value) : Turned (fun k => k = b) w (w.setRow b cs) := ⟨rfl, rfl, rfl, by simp, fun k _ hk => setRow_other w b k cs hk⟩
theorem loadAt_conf3 (a : Value) : Instr.loadAt 37 a = ldX 37 a := rfl
theorem storeAt_conf3 (a v : Value) : Instr.storeAt 37 a v = stX 37 a v := rfl
theorem info_conf33 : (Try.prog.info? 37).map (·.size) = some 3 := by kernel_rfl
end Go.Proofs.Ytkmbkihfdilmbaa.Im
namespace Go.Proofs.Ytkmbkihfdilmbaa.Vo
open Go Go.RowKit
open Rl (En Lg)
open Ms (M)
open Im (ldX stX)
set_option maxRecDepth 100000
set_option linter.unusedVariables false
theorem loadAt_msgV (a : Value) : Instr.loadAt 31 a = ldX 31 a := rfl
theorem storeAt_msgV (a v : Value) : Instr.storeAt 31 a v = stX 31 a v := rfl
theorem info_msgV : (Try.prog.info? 31).map (·.size) = some 17 := by kernel_rfl
attribute [local go_sem ↓] loadAt_msgV storeAt_msgV
end Go.Proofs.Ytkmbkihfdilmbaa.Vo
namespace Go.Proofs.Ytkmbkihfdilmbaa
open Go.RowKit
set_option maxHeartbeats 400000 in
theorem bclone_any (B : Nat) (A : Option Addr) (c : Nat) (l : List Nat) (n : Nat) (hln : l.length = n) (hl : n ≤ 140737488354000) (w : World) (h : IsBytes w B A l) (hB : B ≤ w.heap.size) (hn : A = none → c = 0) :
    Calls Try.prog 79 #[.slice A n c] w fun e w' => ∃ A' c', e = .returned (.slice A' n c') ∧ OwnsB 5 w' w.heap.size A' c' l ∧ Below w.heap.size w w' := by
  subst hln
  obtain ⟨i0, hi, hz0, hz1, hz2⟩ := info_parts info_u8
  have hq := fun (w : World) (a : Option Addr) (n c : Nat) => Lib.run_eql_slice_nil (P := Try.prog) w 29 5 a n c 0 0 Try.underlying29
  rcases A with _ | ad
  · obtain rfl := hn rfl
    obtain rfl := h.of_none
    go_enter Try.func79, Try.ntmps79
    go_wp2
    go_ret
    exact ⟨none, 0, rfl, OwnsB.nil _ _ _, Below.refl _ _⟩
  · have hbel : Below w.heap.size w (w.alloc (.cells #[] 5)) := (Below.refl _ _).alloc (Nat.le_refl _) _
    have hown : OwnsB 5 (w.alloc (.cells #[] 5)) w.heap.size (some ⟨w.heap.size, 0, none⟩) 0 [] := by
      refine ⟨by simp, by simp [bytes], .inr ⟨w.heap.size, 0, _, rfl, Nat.le_refl _, heap_alloc_new w _, Nat.zero_le _, by unfold maxLen; omega, by simp, by simp [bytes]⟩⟩
    have hs : IsBytes (w.alloc (.cells #[] 5)) w.heap.size (some ad) l := (h.more hB).below hbel
    have HB := hid hbel
    have hsz := hbel.size
    have HS := hid hsz
    clear hbel hsz
    go_enter Try.func79, Try.ntmps79
    go_wp2_with (at_builtin; refine wpList_append_bytesN rfl _ _ 29 rfl w.heap.size 5 i0 Try.underlying29 hi hz0 hz1 hz2 (some ⟨w.heap.size, 0, none⟩) 0 [] 0 rfl rfl hown w.heap.size (some ad) c l l.length rfl rfl hn hs l (List.nil_append _) (by omega) HS.out ?_)
    intro A3 c3 w2 hown2 hbel2
    have HB2 := hid (HB.out.trans hbel2)
    clear hown hs hbel2
    go_wp2
    go_ret
    exact ⟨A3, c3, ret_len (by simp), hown2, HB2.out⟩
end Go.Proofs.Ytkmbkihfdilmbaa
namespace Go.Proofs.Ytkmbkihfdilmbaa
open Go.RowKit
set_option maxHeartbeats 1600000 in
set_option maxRecDepth 100000 in
theorem own_any (B : Nat) (A : Option Addr) (c n : Nat) (L : List Rl.En) (hn : L.length = n) (hl : n ≤ 90000) (hf : Rl.Few L) (w : World) (h : IsEnts w B A L) (hB : B ≤ w.heap.size) :
    Calls Try.prog 69 #[.slice A n c] w fun e w' => ∃ A' c', e = .returned (.slice A' n c') ∧ OwnE w' w.heap.size w'.heap.size A' c' L ∧ Below w.heap.size w w' := by
  subst hn
  obtain ⟨i0, hi, hz0, hz1, hz2⟩ := info_parts info_entry
  have HH := hid (h.more hB)
  have HF := hid hf
  clear h hf
  go_enter Try.func69, Try.ntmps69
  go_wp2_with (at_make; refine wpList_make_own _ rfl _ _ 23 rfl 0 64 i0 _ 3 Try.underlying23 hi hz0 hz1 .i64 .i64 (L.length : Int) L.length rfl rfl rfl (by rw [hz2]; omega) (by unfold maxLen; omega) (Nat.zero_le _) ?_)
  intro w1 hrow1 hgr1
  have hlt1 : w.heap.size < w1.heap.size := (hrow1.lt _ rfl).2
  have H1 : Hid (OwnE w1 w.heap.size w1.heap.size (some ⟨w.heap.size, 0, none⟩) L.length (L.take 0) ∧ Below w.heap.size w w1) := hid ⟨⟨[], rfl, ⟨⟨fun _ => rfl, hrow1, fun k hk => by
    have hk : w.heap.size = k := by injection hk
    exact ⟨by omega, by omega⟩⟩, by simp, List.Pairwise.nil, by simp⟩⟩, below_grown hgr1 (Nat.le_refl _) (fun k hk => by cases hk)⟩
  clear hrow1 hgr1 hlt1
  go_wp2_with fail
  go_loopw [3, 11] (fun v i wr => ∃ (k : Nat) (A1 : Option Addr) (c1 : Nat), k ≤ L.length ∧ v = .slice A1 k c1 ∧ i = .int .i64 k ∧ Hid (OwnE wr w.heap.size wr.heap.size A1 c1 (L.take k) ∧ Below w.heap.size w wr)) (fun _ i _ => L.length - (RowKit.intOf i).toNat)
  case atStart => exact ⟨0, _, _, by omega, rfl, rfl, H1⟩
  case round =>
    clear H1
    obtain ⟨k, A1, c1, hk, rfl, rfl, hS⟩ := hrel
    by_cases hlt : k < L.length
    · obtain ⟨b, off, rfl, hbw, hc⟩ := (HH.out.below hS.out.2).cells k hlt
      obtain ⟨Ad, cd, d0, d1, d2, hd, hd2, hd3⟩ := hc k hlt
      have hk0 : (k : Int) < (L.length : Int) := by omega
      have hfk : L[k].d.length ≤ 65536 := HF.out _ (List.getElem_mem hlt)
      have hnum := HH.out.num _ (List.getElem_mem hlt)
      have htk : L.take (k + 1) = L.take k ++ [L[k]] := List.take_succ_eq_append_getElem hlt
      obtain ⟨x, hx⟩ : ∃ x, x = L[k] := ⟨_, rfl⟩
      rw [← hx] at d0 d1 d2 hd hd2 hfk hnum htk
      have HX := hid (And.intro hnum htk)
      clear hc hx hnum htk
      obtain ⟨w2, hw2⟩ : ∃ w2, w2 = wr.alloc (.cells #[.int .i64 x.t, .int .i64 x.k, .slice Ad x.d.length cd] 64) := ⟨_, rfl⟩
      have hb2 : Below wr.heap.size wr w2 := by rw [hw2]; exact (Below.refl _ wr).alloc (Nat.le_refl _) _
      have hs2 : w2.heap.size = wr.heap.size + 1 := by rw [hw2]; simp
      have HC := hid (bclone_any wr.heap.size Ad cd x.d x.d.length rfl (by omega) w2 ((hd.more hS.out.2.size).below hb2) hb2.size hd3)
      have H2 := hid (And.intro hb2 (And.intro hs2 hw2))
      rw [hw2] at HC
      clear hb2 hs2 hw2 hd
      go_wp2_with fail
      refine HC.out.mono ?_
      rintro e w3 ⟨A3, c3, rfl, ho3, hb3⟩
      rw [← H2.out.2.2] at ho3 hb3
      rw [H2.out.2.1] at ho3 hb3
      have q0 : w3.cell? ⟨wr.heap.size, 0, none⟩ = some (.int .i64 x.t) := by rw [hb3.cell (by simp), H2.out.2.2]; simp
      have q1 : w3.cell? ⟨wr.heap.size, 1, none⟩ = some (.int .i64 x.k) := by rw [hb3.cell (by simp), H2.out.2.2]; simp
      have q2 : w3.cell? ⟨wr.heap.size, 2, none⟩ = some (.slice Ad x.d.length cd) := by rw [hb3.cell (by simp), H2.out.2.2]; simp
      have f2 : w3.frozen? ⟨wr.heap.size, 2, none⟩ = false := by rw [hb3.frozen (by simp), H2.out.2.2]; simp
      have hlt3 : wr.heap.size < w3.heap.size := by have := hb3.size; have := H2.out.2.1; omega
      have H3 : Hid (Below wr.heap.size wr (w3.setCell ⟨wr.heap.size, 2, none⟩ (.slice A3 x.d.length c3)) ∧ OwnsB 5 (w3.setCell ⟨wr.heap.size, 2, none⟩ (.slice A3 x.d.length c3)) wr.heap.size A3 c3 x.d) := hid ⟨(H2.out.1.trans (hb3.mono (by omega))).trans ((Turned.one w3 wr.heap.size 2 _).below (by omega) (fun k hk => Nat.le_of_eq (Eq.symm hk))), (ho3.turned (Turned.one w3 wr.heap.size 2 _) (fun k hk e => by have := (ho3.blkLt k hk).1; have e2 : k = wr.heap.size := e; omega)).weaken (by omega)⟩
      have hz3 : (w3.setCell ⟨wr.heap.size, 2, none⟩ (.slice A3 x.d.length c3)).heap.size = w3.heap.size := by simp [World.setCell]
      have HZ := hid hz3
      have hN := Nat.le_of_lt hlt3
      clear hb3 ho3 HC hz3
      have hl5 : k + 1 ≤ 100000 := by omega
      have hlk : (L.take k).length = k := by rw [List.length_take]; omega
      have HLK := hid hlk
      have HA := hid (And.intro (hS.out.1.below (H3.out.1.alloc (by rw [HZ.out]; exact hN) (.cells #[.int .i64 x.t, .int .i64 x.k, .slice A3 x.d.length c3] 64))) (H3.out.2.below ((Below.refl _ _).alloc (Nat.le_refl _) (.cells #[.int .i64 x.t, .int .i64 x.k, .slice A3 x.d.length c3] 64))))
      clear hlk
      go_wp2_with (at_builtin; refine wpList_append_ent rfl _ _ rfl HA.out.1 hS.out.2.size ?hN k HLK.out rfl x HX.out.1 A3 c3 HA.out.2 ⟨w3.heap.size, 0, none⟩ 1 rfl (fun j _ => cellsE_new _ _ HZ.out ⟨x, A3, c3⟩ _ j) hl5 ?_)
      case hN => rw [World.size_alloc, HZ.out]; omega
      intro A6 c6 w6 hE6 hB6
      rw [← HX.out.2] at hE6
      have H6 : Hid (OwnE w6 w.heap.size w6.heap.size A6 c6 (L.take (k + 1)) ∧ Below w.heap.size w w6) := hid ⟨hE6, (hS.out.2.trans ((H3.out.1.alloc (by rw [HZ.out]; exact hN) _).mono hS.out.2.size)).trans hB6⟩
      clear hE6 hB6
      go_wp2_with fail
      go_roundw
      case rel => exact ⟨k + 1, A6, c6, by omega, rfl, by go_num, H6⟩
      case measure => simp [RowKit.intOf]; omega
    · obtain rfl : k = L.length := by omega
      have hS1 := hS.out
      rw [List.take_length] at hS1
      have HS := hid hS1
      clear hS hS1
      go_wp2_with fail
      go_ret
      exact ⟨A1, c1, rfl, HS.out.1, HS.out.2⟩
end Go.Proofs.Ytkmbkihfdilmbaa
namespace Go.Proofs.Ytkmbkihfdilmbaa
open Go.RowKit
end Go.Proofs.Ytkmbkihfdilmbaa
namespace Go.Proofs.Ytkmbkihfdilmbaa.Im
open Go.RowKit
open Rl (En Lg)
set_option maxRecDepth 100000
set_option linter.unusedVariables false
theorem loadAt_log1 (a : Value) : Instr.loadAt 25 a = ldX 25 a := rfl
theorem storeAt_log1 (a v : Value) : Instr.storeAt 25 a v = stX 25 a v := rfl
theorem info_log33 : (Try.prog.info? 25).map (·.size) = some 3 := by kernel_rfl
attribute [local go_sem ↓] loadAt_log1 storeAt_log1
def sinceM (g : Lg) (b t : Int) : Lg := if g.cutE b = 0 ∧ (g.cut b).term = t then g.cut b else ⟨b, t, []⟩
end Go.Proofs.Ytkmbkihfdilmbaa.Im
namespace Go.Proofs.Ytkmbkihfdilmbaa.Vo
open Go Go.RowKit
open Rl (En Lg)
open Im (ldX stX)
set_option maxRecDepth 100000
set_option linter.unusedVariables false
attribute [local go_sem ↓] Im.loadAt_log1 Im.storeAt_log1
def sevenL : Lg := ⟨5, 2, [⟨2, 0, []⟩, ⟨3, 0, []⟩]⟩
end Go.Proofs.Ytkmbkihfdilmbaa.Vo
namespace Go.Proofs.Ytkmbkihfdilmbaa.Vo
open Go Go.RowKit
open Rl (En Lg)
open Im (ldX stX)
set_option maxRecDepth 100000
set_option linter.unusedVariables false
attribute [local go_sem ↓] Im.loadAt_log1 Im.storeAt_log1
end Go.Proofs.Ytkmbkihfdilmbaa.Vo
namespace Go.Proofs.Ytkmbkihfdilmbaa.Vo
open Go Go.RowKit
open Rl (En Lg)
open Ms (M)
set_option maxRecDepth 100000
set_option linter.unusedVariables false
theorem row_lt' {w : World} {g : Nat} {o : Obj} (h : w.heap[g]? = some o) : g < w.heap.size := (Array.getElem?_eq_some_iff.1 h).1
end Go.Proofs.Ytkmbkihfdilmbaa.Vo
namespace Go.Proofs.Ytkmbkihfdilmbaa
open Go.RowKit
set_option maxHeartbeats 800000 in
set_option maxRecDepth 100000 in
theorem ent_same (p q : Rl.En) (A A' : Option Addr) (c c' : Nat) (hp : p.d.length ≤ maxLen) (hq : q.d.length ≤ maxLen) (w : World) (h : IsBytes w w.heap.size A p.d) (h' : IsBytes w w.heap.size A' q.d) :
    Calls Try.prog 70 #[.agg #[.int .i64 p.t, .int .i64 p.k, .slice A p.d.length c], .agg #[.int .i64 q.t, .int .i64 q.k, .slice A' q.d.length c']] w fun e w' => e = .returned (.bool (decide (p = q))) ∧ Below w.heap.size w w' := by
  obtain ⟨w1, hw1⟩ : ∃ w1, w1 = (w.alloc (.cells #[.int .i64 p.t, .int .i64 p.k, .slice A p.d.length c] 64)).alloc (.cells #[.int .i64 q.t, .int .i64 q.k, .slice A' q.d.length c'] 64) := ⟨_, rfl⟩
  have hb1 : Below w.heap.size w w1 := by rw [hw1]; exact ((Below.refl _ w).alloc (Nat.le_refl _) _).alloc (by simp) _
  have HS := hid (same_any w1.heap.size w1.heap.size A A' c c' p.d q.d hp hq w1 ((h.below hb1).more hb1.size) ((h'.below hb1).more hb1.size))
  have HB := hid hb1
  rw [hw1] at HS HB
  clear hb1 hw1 h h'
  by_cases ha : p.t = q.t
  · by_cases hb : p.k = q.k
    · by_cases hd : p.d = q.d
      · have HE : Hid (decide (p = q) = true) := hid (decide_eq_true (by cases p; cases q; simp at ha hb hd; simp [ha, hb, hd]))
        rw [decide_eq_true hd] at HS
        clear hd
        rw [ha, hb] at HS HB
        rw [HE.out]
        go_enter Try.func70, Try.ntmps70
        go_wp2_with fail
        refine HS.out.mono ?_
        rintro e w2 ⟨rfl, n, hw2⟩
        have HW : Hid (Below w.heap.size w w2) := by rw [hw2]; exact below_drewN HB.out n
        clear hw2
        go_wp2_with fail
        go_ret
        exact ⟨rfl, HW.out⟩
      · have HE : Hid (decide (p = q) = false) := hid (decide_eq_false (by rintro rfl; exact hd rfl))
        rw [decide_eq_false hd] at HS
        clear hd
        rw [ha, hb] at HS HB
        rw [HE.out]
        go_enter Try.func70, Try.ntmps70
        go_wp2_with fail
        refine HS.out.mono ?_
        rintro e w2 ⟨rfl, n, hw2⟩
        have HW : Hid (Below w.heap.size w w2) := by rw [hw2]; exact below_drewN HB.out n
        clear hw2
        go_wp2_with fail
        go_ret
        exact ⟨rfl, HW.out⟩
    · have HE : Hid (decide (p = q) = false) := hid (decide_eq_false (by rintro rfl; exact hb rfl))
      rw [ha] at HB
      rw [HE.out]
      go_enter Try.func70, Try.ntmps70
      go_wp2_with fail
      go_ret
      exact ⟨rfl, HB.out⟩
  · have HE : Hid (decide (p = q) = false) := hid (decide_eq_false (by rintro rfl; exact ha rfl))
    rw [HE.out]
    go_enter Try.func70, Try.ntmps70
    go_wp2_with fail
    go_ret
    exact ⟨rfl, HB.out⟩
set_option maxHeartbeats 800000 in
set_option maxRecDepth 100000 in
theorem ents_same (A A' : Option Addr) (c c' n m : Nat) (L M : List Rl.En) (hn : L.length = n) (hm : M.length = m) (hL : n ≤ 100000) (w : World) (h : IsEnts w w.heap.size A L) (h' : IsEnts w w.heap.size A' M) :
    Calls Try.prog 52 #[.slice A n c, .slice A' m c'] w fun e w' => e = .returned (.bool (decide (L = M))) ∧ Below w.heap.size w w' := by
  subst hn
  subst hm
  by_cases hl : L.length = M.length
  · have hl0 : (L.length : Int) = (M.length : Int) := by omega
    have HH := hid (And.intro h h')
    clear h h'
    go_enter Try.func52, Try.ntmps52
    go_wp2_with fail
    go_loopw [5] (fun i wr => ∃ k : Nat, k ≤ L.length ∧ i = .int .i64 k ∧ Hid (L.take k = M.take k ∧ Below w.heap.size w wr)) (fun i _ => L.length - (RowKit.intOf i).toNat)
    case atStart => exact ⟨0, by omega, rfl, hid ⟨by simp, Below.refl _ _⟩⟩
    case round =>
      obtain ⟨k, hk, rfl, hS⟩ := hrel
      have HL := hid hl
      by_cases hlt : k < L.length
      · have hr := HH.out.1.below hS.out.2
        have hr' := HH.out.2.below hS.out.2
        obtain ⟨b, off, rfl, hbl, hc⟩ := hr.cells k hlt
        have hkM : k < M.length := by omega
        obtain ⟨b', off', rfl, hbl', hc'⟩ := hr'.cells k hkM
        obtain ⟨A1, c1, d0, d1, d2, hB1', hm1', _⟩ := hc k hlt
        have hB1 := hB1'.more hS.out.2.size
        have hm1 := Nat.le_trans hm1'.1 hm1'.2
        obtain ⟨A2, c2, e0, e1, e2, hB2', hm2', _⟩ := hc' k hkM
        have hB2 := hB2'.more hS.out.2.size
        have hm2 := Nat.le_trans hm2'.1 hm2'.2
        clear hB1' hB2' hm1' hm2'
        have hk0 : (k : Int) < (L.length : Int) := by omega
        have hk1 : (k : Int) < (M.length : Int) := by omega
        have HC := hid (ent_same L[k] M[k] A1 A2 c1 c2 hm1 hm2 wr.drew (hB1.drewN 1) (hB2.drewN 1))
        have d0W : wr.drew.cell? ⟨b, off + k * 3, none⟩ = some (.int .i64 L[k].t) := d0
        have d1W : wr.drew.cell? ⟨b, off + k * 3 + 1, none⟩ = some (.int .i64 L[k].k) := d1
        have d2W : wr.drew.cell? ⟨b, off + k * 3 + 2, none⟩ = some (.slice A1 L[k].d.length c1) := d2
        have e0W : wr.drew.cell? ⟨b', off' + k * 3, none⟩ = some (.int .i64 M[k].t) := e0
        have e1W : wr.drew.cell? ⟨b', off' + k * 3 + 1, none⟩ = some (.int .i64 M[k].k) := e1
        have e2W : wr.drew.cell? ⟨b', off' + k * 3 + 2, none⟩ = some (.slice A2 M[k].d.length c2) := e2
        by_cases he : L[k] = M[k]
        · rw [decide_eq_true he] at HC
          have hS' : L.take (k + 1) = M.take (k + 1) := by
            rw [List.take_succ_eq_append_getElem hlt, List.take_succ_eq_append_getElem hkM, hS.out.1, he]
          have HS := hid hS'
          clear hc hc' hr hr' hB1 hB2 hS' he hl
          go_wp2_with fail
          go_still_tail 8, (by kernel_rfl)
          go_wp2_with fail
          refine HC.out.mono ?_
          rintro e w2 ⟨rfl, hb2⟩
          have HB2 : Hid (L.take (k + 1) = M.take (k + 1) ∧ Below w.heap.size w w2) := hid ⟨HS.out, hS.out.2.trans (((Below.refl _ wr).drew.trans hb2).mono hS.out.2.size)⟩
          clear hb2 d0W d1W d2W e0W e1W e2W d0 d1 d2 e0 e1 e2
          go_wp2_with fail
          go_roundw
          case rel => exact ⟨k + 1, by omega, by go_num, HB2⟩
          case measure => simp [RowKit.intOf]; omega
        · rw [decide_eq_false he] at HC
          have hne : decide (L = M) = false := decide_eq_false (fun e => by subst e; exact he rfl)
          have HE := hid hne
          clear hc hc' hr hr' hB1 hB2 he hne hl
          go_wp2_with fail
          go_still_tail 8, (by kernel_rfl)
          go_wp2_with fail
          refine HC.out.mono ?_
          rintro e w2 ⟨rfl, hb2⟩
          have HB2 : Hid (Below w.heap.size w w2) := hid (hS.out.2.trans (((Below.refl _ wr).drew.trans hb2).mono hS.out.2.size))
          clear hb2 d0W d1W d2W e0W e1W e2W d0 d1 d2 e0 e1 e2
          go_wp2_with fail
          go_ret
          rw [HE.out]
          exact ⟨rfl, HB2.out⟩
      · obtain rfl : k = L.length := by omega
        have hE : decide (L = M) = true := decide_eq_true (by
          have := hS.out.1
          rw [List.take_length, hl, List.take_length] at this
          exact this)
        have HE := hid hE
        have hk0 : ¬ (L.length : Int) < (L.length : Int) := by omega
        clear hE hlt
        go_wp2_with fail
        go_ret
        rw [HE.out]
        exact ⟨rfl, hS.out.2⟩
  · have hE : decide (L = M) = false := decide_eq_false (fun e => hl (by rw [e]))
    rw [hE]
    have hl0 : ¬ (L.length : Int) = (M.length : Int) := by omega
    clear h h' hE hl
    go_enter Try.func52, Try.ntmps52
    go_wp2
    go_ret
    exact ⟨rfl, Below.refl _ _⟩
end Go.Proofs.Ytkmbkihfdilmbaa
namespace Go.Proofs.Ytkmbkihfdilmbaa
open Go.RowKit
set_option maxHeartbeats 800000 in
set_option maxRecDepth 100000 in
theorem log_same (p q : Rl.Lg) (A A' : Option Addr) (c c' : Nat) (hl : p.es.length ≤ 100000) (w : World) (h : IsEnts w w.heap.size A p.es) (h' : IsEnts w w.heap.size A' q.es) :
    Calls Try.prog 37 #[.agg #[.int .i64 p.base, .int .i64 p.term, .slice A p.es.length c], .agg #[.int .i64 q.base, .int .i64 q.term, .slice A' q.es.length c']] w fun e w' => e = .returned (.bool (decide (p = q))) ∧ Below w.heap.size w w' := by
  obtain ⟨w1, hw1⟩ : ∃ w1, w1 = (w.alloc (.cells #[.int .i64 p.base, .int .i64 p.term, .slice A p.es.length c] 25)).alloc (.cells #[.int .i64 q.base, .int .i64 q.term, .slice A' q.es.length c'] 25) := ⟨_, rfl⟩
  have hb1 : Below w.heap.size w w1 := by rw [hw1]; exact ((Below.refl _ w).alloc (Nat.le_refl _) _).alloc (by simp) _
  have HS := hid (ents_same A A' c c' p.es.length q.es.length p.es q.es rfl rfl hl w1 ((h.below hb1).more hb1.size) ((h'.below hb1).more hb1.size))
  have HB := hid hb1
  have HZ := hid hb1.size
  rw [hw1] at HS HB HZ
  clear hb1 hw1 h h'
  by_cases ha : p.base = q.base
  · by_cases hb : p.term = q.term
    · have HE : Hid (decide (p = q) = decide (p.es = q.es)) := hid (by
        rw [decide_eq_decide]
        cases p; cases q
        simp at ha hb
        simp [ha, hb])
      rw [ha, hb] at HS HB HZ
      rw [HE.out]
      generalize decide (p.es = q.es) = bb at HS ⊢
      clear HE
      cases bb <;>
      (go_enter Try.func37, Try.ntmps37
       go_wp2_with fail
       refine HS.out.mono ?_
       rintro e w2 ⟨rfl, hb2⟩
       have HW : Hid (Below w.heap.size w w2) := hid (HB.out.trans (hb2.mono HZ.out))
       clear hb2
       go_wp2_with fail
       go_ret
       exact ⟨rfl, HW.out⟩)
    · have HE : Hid (decide (p = q) = false) := hid (decide_eq_false (by rintro rfl; exact hb rfl))
      rw [ha] at HB
      rw [HE.out]
      go_enter Try.func37, Try.ntmps37
      go_wp2_with fail
      go_ret
      exact ⟨rfl, HB.out⟩
  · have HE : Hid (decide (p = q) = false) := hid (decide_eq_false (by rintro rfl; exact ha rfl))
    rw [HE.out]
    go_enter Try.func37, Try.ntmps37
    go_wp2_with fail
    go_ret
    exact ⟨rfl, HB.out⟩
set_option maxHeartbeats 800000 in
set_option maxRecDepth 100000 in
theorem copyLog_any (g : Rl.Lg) (A : Option Addr) (c n : Nat) (hn : g.es.length = n) (hl : n ≤ 90000) (hf : Rl.Few g.es) (w : World) (h : IsEnts w w.heap.size A g.es) :
    Calls Try.prog 33 #[.agg #[.int .i64 g.base, .int .i64 g.term, .slice A n c]] w fun e w' =>
      ∃ A' c', e = .returned (.agg #[.int .i64 g.base, .int .i64 g.term, .slice A' n c']) ∧ OwnE w' w.heap.size w'.heap.size A' c' g.es ∧ Below w.heap.size w w' := by
  obtain ⟨w1, hw1⟩ : ∃ w1, w1 = (w.alloc (.cells #[.int .i64 g.base, .int .i64 g.term, .slice A n c] 25)).alloc (.cells #[.int .i64 0, .int .i64 0, .slice none 0 0] 25) := ⟨_, rfl⟩
  have hb1 : Below w.heap.size w w1 := by rw [hw1]; exact ((Below.refl _ w).alloc (Nat.le_refl _) _).alloc (by simp) _
  have hs1 : w1.heap.size = w.heap.size + 2 := by rw [hw1]; simp
  have HC := hid (copyE_any w.heap.size A c n g.es hn hl hf w1 (h.below hb1) hb1.size)
  have H1 := hid (And.intro hb1 hs1)
  rw [hw1] at HC H1
  have HW := hid hw1
  clear hb1 hs1 hw1 h
  go_enter Try.func33, Try.ntmps33
  go_wp2_with fail
  refine HC.out.mono ?_
  rintro e w2 ⟨A2, c2, rfl, ho2, hb2⟩
  have hs2 := hb2.size
  have q0 : w2.cell? ⟨w.heap.size, 0, none⟩ = some (.int .i64 g.base) := by rw [hb2.cell (by simp; omega)]; simp
  have q1 : w2.cell? ⟨w.heap.size, 1, none⟩ = some (.int .i64 g.term) := by rw [hb2.cell (by simp; omega)]; simp
  have q2 : w2.cell? ⟨w.heap.size, 2, none⟩ = some (.slice A n c) := by rw [hb2.cell (by simp; omega)]; simp
  have f2 : w2.frozen? ⟨w.heap.size, 2, none⟩ = false := by rw [hb2.frozen (by simp; omega)]; simp
  have r0 : w2.cell? ⟨w.heap.size + 1, 0, none⟩ = some (.int .i64 0) := by rw [hb2.cell (by simp)]; simp [World.cell?_alloc_at]
  have r1 : w2.cell? ⟨w.heap.size + 1, 1, none⟩ = some (.int .i64 0) := by rw [hb2.cell (by simp)]; simp [World.cell?_alloc_at]
  have r2 : w2.cell? ⟨w.heap.size + 1, 2, none⟩ = some (.slice none 0 0) := by rw [hb2.cell (by simp)]; simp [World.cell?_alloc_at]
  have f3 : ∀ k, w2.frozen? ⟨w.heap.size + 1, k, none⟩ = false := fun k => by rw [hb2.frozen (by simp)]; simp [World.frozen?_alloc_at]
  have HB : Hid (Below w.heap.size w w2) := hid (H1.out.1.trans (hb2.mono (by simp; omega)))
  have HO := hid ho2
  have hs3 : w.heap.size + 2 ≤ w2.heap.size := by simpa using hs2
  clear hb2 ho2 HC H1 hs2
  go_wp2_with fail
  refine bodyPost_ret (by simp [results, Try.results33, go_sem, r0, r1, r2]; try rfl) rfl ?_
  have T : Turned (fun k => k < w.heap.size + 2) w2 ((((w2.setCell ⟨w.heap.size, 2, none⟩ (.slice A2 n c2)).setCell ⟨w.heap.size + 1, 0, none⟩ (.int .i64 g.base)).setCell ⟨w.heap.size + 1, 1, none⟩ (.int .i64 g.term)).setCell ⟨w.heap.size + 1, 2, none⟩ (.slice A2 n c2)) := by
    (repeat' first | exact Turned.refl _ _ | refine Turned.setCell ?_ _ _ _ (fun _ => by omega))
  refine ⟨A2, c2, rfl, (HO.out.keep T (fun k hk hB => ?_)).wide ?_ T.size, HB.out.trans ?_⟩
  · have := hB.1; simp at this; omega
  · simp; omega
  · go_grown
end Go.Proofs.Ytkmbkihfdilmbaa
namespace Go.Proofs.Ytkmbkihfdilmbaa.Vo
open Go Go.RowKit
open Rl (En Lg)
open Ms (M)
open Im (ldX stX)
set_option maxRecDepth 100000
set_option linter.unusedVariables false
attribute [local go_sem ↓] loadAt_msgV storeAt_msgV Im.loadAt_log1 Im.storeAt_log1
def Rw (w : World) (b : Nat) (cs : Array Value) (t : TypeId) : Prop := w.heap[b]? = some (.cells cs t (0, 0))
theorem Rw.keep {w w' : World} {b : Nat} {cs : Array Value} {t : TypeId} (h : Rw w b cs t) (hb : Below w.heap.size w w') : Rw w' b cs t := (hb.block _ (row_lt' h)).trans h
theorem Rw.ldM {w : World} {b : Nat} {cs : Array Value} (h : Rw w b cs 31) (hn : cs.size = 17) : (ldX 31 (.pointer (some ⟨b, 0, none⟩))).run Try.prog w = .ok (.agg cs) w :=
  Im.ldRow info_msgV Try.underlying31 rfl h hn
theorem Rw.two (w : World) (x y : Array Value) (s t : TypeId) : Rw ((w.alloc (.cells x s)).alloc (.cells y t)) w.heap.size x s ∧ Rw ((w.alloc (.cells x s)).alloc (.cells y t)) (w.heap.size + 1) y t := by
  refine ⟨?_, ?_⟩
  · show _ = _
    rw [heap_alloc_old _ _ (by simp)]
    exact heap_alloc_new w _
  · have q := heap_alloc_new (w.alloc (.cells x s)) (.cells y t)
    rw [World.size_alloc] at q
    exact q
structure LogOk (g : Lg) : Prop where
  ok : Rl.Ok g
  lim : (0 ≤ g.base ∧ g.base ≤ 1099511627776) ∧ (0 ≤ g.term ∧ g.term ≤ 1099511627776)
  few : big g.es 2000 65536 = false
end Go.Proofs.Ytkmbkihfdilmbaa.Vo
namespace Go.Proofs.Ytkmbkihfdilmbaa.Vo
open Go Go.RowKit
open Rl (En Lg)
open Ms (M)
open Im (ldX stX)
set_option maxRecDepth 100000
set_option linter.unusedVariables false
attribute [local go_sem ↓] loadAt_msgV storeAt_msgV Im.loadAt_log1 Im.storeAt_log1
theorem Rw.three (w : World) (x y z : Array Value) (s t u : TypeId) : Rw (((w.alloc (.cells x s)).alloc (.cells y t)).alloc (.cells z u)) w.heap.size x s ∧ Rw (((w.alloc (.cells x s)).alloc (.cells y t)).alloc (.cells z u)) (w.heap.size + 1) y t ∧ Rw (((w.alloc (.cells x s)).alloc (.cells y t)).alloc (.cells z u)) (w.heap.size + 2) z u ∧ Below w.heap.size w (((w.alloc (.cells x s)).alloc (.cells y t)).alloc (.cells z u)) := by
  obtain ⟨r0, r1⟩ := Rw.two w x y s t
  obtain ⟨hb, hz⟩ := boxes w x y s t
  have hb3 : Below ((w.alloc (.cells x s)).alloc (.cells y t)).heap.size ((w.alloc (.cells x s)).alloc (.cells y t)) (((w.alloc (.cells x s)).alloc (.cells y t)).alloc (.cells z u)) := (Below.refl _ _).alloc (Nat.le_refl _) _
  have q := heap_alloc_new ((w.alloc (.cells x s)).alloc (.cells y t)) (.cells z u)
  rw [hz] at q
  exact ⟨r0.keep hb3, r1.keep hb3, q, hb.trans (hb3.mono hb.size)⟩
end Go.Proofs.Ytkmbkihfdilmbaa.Vo
namespace Go.Proofs.Ytkmbkihfdilmbaa.Vo
open Go Go.RowKit
open Rl (En Lg)
open Ms (M)
open Im (ldX stX)
set_option maxRecDepth 100000
set_option linter.unusedVariables false
attribute [local go_sem ↓] loadAt_msgV storeAt_msgV Im.loadAt_log1 Im.storeAt_log1
theorem Rw.put {w : World} {b : Nat} {cs : Array Value} {t : TypeId} (h : Rw w b cs t) (i : Nat) (u : Value) : Rw (w.setCell ⟨b, i, none⟩ u) b (cs.setIfInBounds i u) t := row_set h i u
theorem Rw.other {w : World} {b b' : Nat} {cs : Array Value} {t : TypeId} (h : Rw w b cs t) (hb : b < b') (i : Nat) (u : Value) : Rw (w.setCell ⟨b', i, none⟩ u) b cs t := (((Below.refl b' w).setCell (Nat.le_refl _) _).block _ hb).trans h
end Go.Proofs.Ytkmbkihfdilmbaa.Vo
namespace Go.Proofs.Ytkmbkihfdilmbaa.Ms
open Go.RowKit
set_option maxRecDepth 100000
structure Bx (w : World) (b : Nat) (m : M) (A : Option Addr) (c : Nat) (A' : Option Addr) (c' : Nat) : Prop where
  row : w.heap[b]? = some (.cells #[.int .i64 m.K, .int .i64 m.F, .int .i64 m.T, .int .i64 m.g, .int .i64 m.t, .int .i64 m.i, .int .i64 m.p, .int .i64 m.c, .int .i64 m.r, .int .i64 m.x, .int .i64 m.a, .int .i64 m.b, .int .i64 m.v, .int .i64 m.s, .bool m.ok, .slice A m.es.length c, .slice A' m.d.length c'] 31 (0, 0))
theorem Bx.below {w w' : World} {B b : Nat} {m : M} {A A' : Option Addr} {c c' : Nat} (h : Bx w b m A c A' c') (hb : Below B w w') (hB : b < B) : Bx w' b m A c A' c' := ⟨(hb.block b hB).trans h.row⟩
theorem Bx.cell {w : World} {b : Nat} {m : M} {A A' : Option Addr} {c c' : Nat} (h : Bx w b m A c A' c') (i : Nat) : w.cell? ⟨b, i, none⟩ = (#[.int .i64 m.K, .int .i64 m.F, .int .i64 m.T, .int .i64 m.g, .int .i64 m.t, .int .i64 m.i, .int .i64 m.p, .int .i64 m.c, .int .i64 m.r, .int .i64 m.x, .int .i64 m.a, .int .i64 m.b, .int .i64 m.v, .int .i64 m.s, .bool m.ok, .slice A m.es.length c, .slice A' m.d.length c'] : Array Value)[i]? := cell_of_row w b i _ _ (0, 0) h.row
theorem Bx.c0 {w : World} {b : Nat} {m : M} {A A' : Option Addr} {c c' : Nat} (h : Bx w b m A c A' c') : w.cell? ⟨b, 0, none⟩ = some (.int .i64 m.K) := h.cell 0
theorem Bx.c15 {w : World} {b : Nat} {m : M} {A A' : Option Addr} {c c' : Nat} (h : Bx w b m A c A' c') : w.cell? ⟨b, 15, none⟩ = some (.slice A m.es.length c) := h.cell 15
theorem Bx.c16 {w : World} {b : Nat} {m : M} {A A' : Option Addr} {c c' : Nat} (h : Bx w b m A c A' c') : w.cell? ⟨b, 16, none⟩ = some (.slice A' m.d.length c') := h.cell 16
def ldMsg (a : Value) : Sem Value := Instr.loadAt 31 a
def stMsg (a v : Value) : Sem Unit := Instr.storeAt 31 a v
theorem loadAt_msg (a : Value) : Instr.loadAt 31 a = ldMsg a := rfl
theorem storeAt_msg (a v : Value) : Instr.storeAt 31 a v = stMsg a v := rfl
theorem info_msg : (Try.prog.info? 31).map (·.size) = some 17 := by kernel_rfl
end Go.Proofs.Ytkmbkihfdilmbaa.Ms
namespace Go.Proofs.Ytkmbkihfdilmbaa.Ms
open Go.RowKit
set_option maxRecDepth 100000
attribute [local go_sem ↓] loadAt_msg
theorem tab_field (k : Nat) : ∀ x ∈ tab k, x ∈ nums ∨ x = 111 ∨ x = 101 ∨ x = 100 := by
  intro x hx
  unfold tab at hx
  split at hx <;> simp at hx <;> simp only [nums, List.mem_cons, List.not_mem_nil, or_false] <;> omega
theorem kind_of {m : M} (h : m.isKind = true) : ∃ k : Nat, m.K = (k : Int) ∧ 1 ≤ k ∧ k ≤ 11 ∧ m.kind = k := by
  unfold M.isKind at h
  simp at h
  exact ⟨m.K.toNat, by omega, by omega, by omega, rfl⟩
end Go.Proofs.Ytkmbkihfdilmbaa.Ms
namespace Go.Proofs.Ytkmbkihfdilmbaa.Ms
open Go.RowKit
set_option maxRecDepth 100000
attribute [local go_sem ↓] loadAt_msg
end Go.Proofs.Ytkmbkihfdilmbaa.Ms
namespace Go.Proofs.Ytkmbkihfdilmbaa.Ms
open Go.RowKit
set_option maxRecDepth 100000
attribute [local go_sem ↓] loadAt_msg
structure Small (m : M) : Prop where
  es : m.es.length ≤ 100000
  wt : weigh m.es ≤ 1000000000
  d : m.d.length ≤ 1000000000
structure Inp (w : World) (m : M) (A : Option Addr) : Prop where
  T : Tab w
  es : IsEnts w w.heap.size A m.es
  small : Small m
end Go.Proofs.Ytkmbkihfdilmbaa.Ms
namespace Go.Proofs.Ytkmbkihfdilmbaa
open Go.RowKit
theorem enc_take (v : Int) (k : Nat) (h : k < 8) : (Pk.enc v).take (k + 1) = (Pk.enc v).take k ++ [Pk.byteOf v (7 - k)] := by
  match k, h with
  | 0, _ => rfl
  | 1, _ => rfl
  | 2, _ => rfl
  | 3, _ => rfl
  | 4, _ => rfl
  | 5, _ => rfl
  | 6, _ => rfl
  | 7, _ => rfl
theorem byteOf_val (v : Int) (k : Nat) : ((Pk.byteOf v k : Nat) : Int) = v / 2 ^ (8 * k) % 256 := by
  unfold Pk.byteOf
  have := Int.emod_nonneg (v / 2 ^ (8 * k)) (show (256 : Int) ≠ 0 by decide)
  omega
theorem bytes_one (l : List Nat) (x : Nat) : bytes l ++ [Value.int .u8 (x : Int)] = bytes (l ++ [x]) := by unfold bytes; simp
set_option maxHeartbeats 400000 in
theorem put_any (base : Nat) (A : Option Addr) (c : Nat) (l : List Nat) (v : Int) (hv : InInt v) (hl : l.length ≤ 140737488355000) (w : World) (h : OwnsB 5 w base A c l) (hB : base ≤ w.heap.size) :
    Calls Try.prog 76 #[.slice A l.length c, .int .i64 v] w fun e w' => ∃ A' c', e = .returned (.slice A' (l.length + 8) c') ∧ OwnsB 5 w' base A' c' (l ++ Pk.enc v) ∧ Below base w w' := by
  obtain ⟨i0, hi, hz0, hz1, hz2⟩ := info_parts info_u8
  have hv1 := hv.1
  have hv2 := hv.2
  go_enter Try.func76, Try.ntmps76
  go_wp2
  go_loopw [0, 5] (fun b i wr => ∃ k : Nat, ∃ A1 : Option Addr, ∃ c1 : Nat, k ≤ 8 ∧ i = .int .i64 (56 - 8 * (k : Int)) ∧ b = .slice A1 (l.length + k) c1 ∧ OwnsB 5 wr base A1 c1 (l ++ (Pk.enc v).take k) ∧ Below base w wr) (fun _ i _ => (RowKit.intOf i + 8).toNat)
  case atStart => exact ⟨0, A, c, by omega, rfl, rfl, by simpa using h, Below.refl _ _⟩
  case round =>
    clear h
    obtain ⟨k, A1, c1, hk, rfl, rfl, hown, hbel⟩ := hrel
    have hlen : (l ++ (Pk.enc v).take k).length = l.length + k := by rw [List.length_append, List.length_take, Pk.enc_length]; omega
    have hrow := hown.row
    rw [hlen] at hrow
    have HR := hid (And.intro hown.small hlen)
    clear hown hlen
    by_cases hlt : k < 8
    · obtain ⟨m, hm⟩ : ∃ m : Nat, 56 - 8 * (k : Int) = (m : Int) := ⟨56 - 8 * k, by omega⟩
      have HM := hid hm
      rw [hm]
      have hm0 : m ≤ 56 := by omega
      clear hm
      have hx := byteOf_val v (7 - k)
      rw [show 8 * (7 - k) = m from by have := HM.out; omega] at hx
      have HX := hid hx
      clear hx
      go_wp2_with (at_builtin; refine wpList_append_own _ rfl _ _ 29 rfl base 5 i0 (.int .u8 0) 1 1 Try.underlying29 hi hz0 hz1 hz2 rfl (by decide) _ _ _ rfl (hrow.alloc _) ⟨wr.heap.size, 0, none⟩ 1 1 [.int .u8 (v / 2 ^ m % 256)] rfl rfl ?c1 ?c2 ?c3 ?c4 ?c5 ?_)
      case c1 =>
        intro j u hj
        match j, hj with
        | 0, hj => simp at hj; subst hj; simp [Addr.add]
      case c2 => intro u hu; simp at hu; subst hu; rfl
      case c3 => unfold maxLen; omega
      case c4 => omega
      case c5 => have := hbel.size; simp; omega
      intro v' w1 hown' hgrow _
      obtain ⟨A2, c2, rfl⟩ := own_slice hown'
      rw [← HX.out, bytes_one, List.append_assoc, ← enc_take v k hlt] at hown'
      have hb1 : Below base w w1 := (hbel.alloc (by have := hbel.size; omega) _).grown hgrow (by have := hbel.size; simp; omega) (fun g hg => (hrow.lt g hg).1)
      have HO : Hid (OwnsB 5 w1 base A2 c2 (l ++ (Pk.enc v).take (k + 1))) := by
        refine ⟨?_, ?_⟩
        · intro x hx
          rw [enc_take v k hlt, ← List.append_assoc] at hx
          rcases List.mem_append.1 hx with hx | hx
          · exact HR.out.1 x hx
          · simp at hx; subst hx; exact Pk.byteOf_lt _ _
        · rw [show (l ++ (Pk.enc v).take (k + 1)).length = l.length + k + 1 from by rw [List.length_append, List.length_take, Pk.enc_length]; omega]
          exact hown'
      clear hgrow hown' hrow
      have HB := hid hb1
      clear hb1 hbel
      go_wp2
      go_roundw
      case rel => exact ⟨k + 1, A2, c2, by omega, by rw [← HM.out]; go_num, rfl, HO.out, HB.out⟩
      case measure => simp [RowKit.intOf]; omega
    · obtain rfl : k = 8 := by omega
      have HO : Hid (OwnsB 5 wr base A1 c1 (l ++ Pk.enc v)) := by
        have e : (Pk.enc v).take 8 = Pk.enc v := rfl
        have h1 := HR.out.1
        rw [e] at h1 hrow
        exact ⟨h1, by rw [show (l ++ Pk.enc v).length = l.length + 8 from by rw [List.length_append, Pk.enc_length]]; exact hrow⟩
      clear hrow
      go_wp2
      go_ret
      exact ⟨A1, c1, rfl, HO.out, hbel⟩
set_option maxHeartbeats 400000 in
theorem fresh_any (B : Nat) (A : Option Addr) (c : Nat) (l : List Nat) (r : Nat) (hl : l.length + r ≤ 140737488355000) (w : World) (h : IsBytes w B A l) (hB : B ≤ w.heap.size) (hn : A = none → c = 0) :
    Calls Try.prog 77 #[.slice A l.length c, .int .i64 (r : Int)] w fun e w' => ∃ A' c', e = .returned (.slice A' l.length c') ∧ OwnsB 5 w' w.heap.size A' c' l ∧ Below w.heap.size w w' := by
  obtain ⟨i0, hi, hz0, hz1, hz2⟩ := info_parts info_u8
  go_enter Try.func77, Try.ntmps77
  go_wp2_with (at_make; refine wpList_make_own _ rfl _ _ 29 rfl w.heap.size 5 i0 (.int .u8 0) 1 Try.underlying29 hi hz0 hz1 .i64 .i64 ((l.length : Int) + r) (l.length + r) rfl rfl (by omega) ?c1 ?c2 (Nat.le_refl _) ?_)
  case c1 => rw [hz2]; omega
  case c2 => unfold maxLen; omega
  intro w1 hown hgrow
  have hrow : OwnsB 5 w1 w.heap.size (some ⟨w.heap.size, 0, none⟩) (l.length + r) [] := ⟨by simp, hown⟩
  have hbel : Below w.heap.size w w1 := (Below.refl _ _).grown hgrow (Nat.le_refl _) (fun g hg => by cases hg)
  have hs : IsBytes w1 w.heap.size A l := (h.more hB).below hbel
  clear hown hgrow
  go_wp2_with (at_builtin; refine wpList_append_bytesN rfl _ _ 29 rfl w.heap.size 5 i0 Try.underlying29 hi hz0 hz1 hz2 (some ⟨w.heap.size, 0, none⟩) (l.length + r) [] 0 rfl rfl hrow w.heap.size A c l l.length rfl rfl hn hs l (List.nil_append _) (by omega) hbel.size ?_)
  intro A3 c3 w2 hown2 hgrow
  have hb2 : Below w.heap.size w w2 := hbel.trans hgrow
  clear hgrow hrow hbel hs
  go_wp2
  go_ret
  exact ⟨A3, c3, rfl, hown2, hb2⟩
end Go.Proofs.Ytkmbkihfdilmbaa
namespace Go.Proofs.Ytkmbkihfdilmbaa
open Go.RowKit
end Go.Proofs.Ytkmbkihfdilmbaa
namespace Go.Proofs.Ytkmbkihfdilmbaa
open Go.RowKit
set_option maxHeartbeats 400000 in
theorem packBlob_any (B : Nat) (A : Option Addr) (c : Nat) (l : List Nat) (B' : Nat) (A' : Option Addr) (c' : Nat) (m : List Nat) (hl : l.length + m.length ≤ 140737488354000) (w : World) (h : IsBytes w B A l) (hB : B ≤ w.heap.size) (hn : A = none → c = 0)
    (h' : IsBytes w B' A' m) (hB' : B' ≤ w.heap.size) (hn' : A' = none → c' = 0) :
    Calls Try.prog 66 #[.slice A l.length c, .slice A' m.length c'] w fun e w' => ∃ A2 c2, e = .returned (.slice A2 (l.length + 8 + m.length) c2) ∧ OwnsB 5 w' w.heap.size A2 c2 (l ++ (Pk.enc m.length ++ m)) ∧ Below w.heap.size w w' := by
  obtain ⟨i0, hi, hz0, hz1, hz2⟩ := info_parts info_u8
  have hf := fun w' => fresh_any B A c l (8 + m.length) (by omega) w'
  rw [show (((8 + m.length : Nat) : Int)) = 8 + (m.length : Int) from by omega] at hf
  have HF := hid hf
  clear hf
  go_enter Try.func66, Try.ntmps66
  go_wp2_with fail
  refine (HF.out _ h hB hn).mono ?_
  rintro e w1 ⟨A1, c1, rfl, hown, hbel⟩
  go_wp2_with fail
  refine (put_any w.heap.size A1 c1 l (m.length : Int) (by unfold InInt; omega) (by omega) _ hown hbel.size).mono ?_
  rintro e w2 ⟨A3, c3, rfl, hown2, hbel2⟩
  have hb2 : Below w.heap.size w w2 := hbel.trans hbel2
  have hs : IsBytes w2 w.heap.size A' m := (h'.more hB').below hb2
  have hlen : (l ++ Pk.enc m.length).length = l.length + 8 := by rw [List.length_append, Pk.enc_length]
  have HL := hid hlen
  clear hbel hbel2 hown hlen
  go_wp2_with (at_builtin; refine wpList_append_bytesN rfl _ _ 29 rfl w.heap.size 5 i0 Try.underlying29 hi hz0 hz1 hz2 A3 c3 (l ++ Pk.enc m.length) (l.length + 8) HL.out rfl hown2 w.heap.size A' c' m m.length rfl rfl hn' hs (l ++ (Pk.enc m.length ++ m)) (List.append_assoc _ _ _) (by omega) hb2.size ?_)
  intro A4 c4 w3 hown3 hgrow
  have hb3 : Below w.heap.size w w3 := hb2.trans hgrow
  clear hgrow hb2 hs hown2
  go_wp2
  go_ret
  exact ⟨A4, c4, rfl, hown3, hb3⟩
end Go.Proofs.Ytkmbkihfdilmbaa
namespace Go.Proofs.Ytkmbkihfdilmbaa.Ms
open Go.RowKit
set_option maxRecDepth 100000
attribute [local go_sem ↓] loadAt_msg
structure Thru (base : Nat) (w w' : World) : Prop where
  bel : Below base w w'
  oth : ∀ k, k < w.heap.size → (∀ cs fr, w.heap[k]? ≠ some (.cells cs 5 fr)) → w'.heap[k]? = w.heap[k]?
namespace Thru
variable {base : Nat} {a b c : World}
theorem size (h : Thru base a b) : a.heap.size ≤ b.heap.size := h.bel.size
theorem trans (h : Thru base a b) (h' : Thru base b c) : Thru base a c := ⟨h.bel.trans h'.bel, fun k hk hn => by
  have e := h.oth k hk hn
  exact (h'.oth k (Nat.lt_of_lt_of_le hk h.size) (fun cs fr => by rw [e]; exact hn cs fr)).trans e⟩
theorem new (h : Below a.heap.size a b) (hB : base ≤ a.heap.size) : Thru base a b := ⟨h.mono hB, fun k hk _ => h.block k hk⟩
theorem own {A : Option Addr} {cp : Nat} {l : List Nat} (h : OwnsB 5 a base A cp l) (hB : base ≤ a.heap.size) (hg : a.grownBy b (blk A)) : Thru base a b :=
  ⟨below_grown hg hB (fun k hk => (h.blkLt k hk).1), fun k hk hn => hg.block k hk (fun e => by
    rcases h.row.2 with ⟨h0, _⟩ | ⟨g', cap, cur, hv, _, hh, _⟩
    · injection h0 with h0; rw [h0] at e; cases e
    · have hA : A = some ⟨g', 0, none⟩ := by injection hv
      rw [hA] at e
      obtain rfl : k = g' := by injection e
      exact hn _ _ hh)⟩
theorem keep {k : Nat} {o : Obj} (h : Thru base a b) (ho : a.heap[k]? = some o) (hn : ∀ cs fr, o ≠ .cells cs 5 fr) : b.heap[k]? = some o :=
  (h.oth k (row_lt ho) (fun cs fr e => by rw [ho] at e; exact hn cs fr (Option.some.inj e))).trans ho
end Thru
theorem wpList_append_bytesG {P : Program} {w : World} {ops : Array Oper} {rest : List Oper} {o : Oper} {a : Act} {Q : Exit → Act → World → Prop} (hgd : o.guard = none) (s x : Operand) (t : TypeId)
    (ho : o.op = .call { callee := .builtin .append, args := #[s, x], argTypes := #[t, t] })
    (base : Nat) (e : TypeId) (i : TypeInfo) (ht : P.underlying t = some (.slice e)) (hi : P.info? e = some i) (hz : i.zero = some (.int .u8 0)) (hsize : i.size = 1) (hby : i.bytes = 1)
    (A : Option Addr) (c : Nat) (l : List Nat) (n : Nat) (hln : l.length = n) (hs : a.eval s = .slice A n c) (hown : OwnsB e w base A c l)
    (B : Nat) (A' : Option Addr) (c' : Nat) (m : List Nat) (k : Nat) (hmk : m.length = k) (hx : a.eval x = .slice A' k c') (hnil : A' = none → c' = 0) (hr : IsBytes w B A' m)
    (L : List Nat) (hL : l ++ m = L) (hbytes : n + k ≤ 140737488355328) (hbase : base ≤ w.heap.size)
    (h : ∀ A2 c2 w', OwnsB e w' base A2 c2 L → w.grownBy w' (blk A) → wpList P ops Q rest (a.put o.dst (.slice A2 (n + k) c2)) w') : wpList P ops Q (o :: rest) a w := by
  subst hln
  subst hmk
  subst hL
  exact wpList_append_bytes hgd s x t ho base e i ht hi hz hsize hby A c l hs hown B A' c' m hx hnil hr hbytes hbase fun A2 c2 w' h1 h2 => h A2 c2 w' h1 (by rw [← ownBlock_slice A l.length c]; exact h2)
theorem encE_length (e : Rl.En) : (encE e).length = 24 + e.d.length := by unfold encE; simp [Pk.enc_length]; omega
theorem encEs_length (L : List Rl.En) : (L.flatMap encE).length = 24 * L.length + weigh L := by
  induction L with
  | nil => rfl
  | cons e L ih =>
    rw [List.flatMap_cons, List.length_append, ih, encE_length]
    unfold weigh
    rw [List.map_cons, List.sum_cons, List.length_cons]; omega
def M.len (m : M) (r : Nat) : Nat := if r = 111 then 8 else if r = 101 then 8 + (24 * m.es.length + weigh m.es) else if r = 100 then 8 + m.d.length else 8
theorem encF_length (m : M) (r : Nat) : (m.encF r).length = m.len r := by
  unfold M.encF M.len
  split
  · rw [Pk.enc_length]
  · split
    · rw [List.length_append, Pk.enc_length, encEs_length]
    · split
      · rw [List.length_append, Pk.enc_length]
      · rw [Pk.enc_length]
end Go.Proofs.Ytkmbkihfdilmbaa.Ms
namespace Go.Proofs.Ytkmbkihfdilmbaa.Ms
open Go.RowKit
set_option maxRecDepth 100000
attribute [local go_sem ↓] loadAt_msg
structure Stp (w0 : World) (base g : Nat) (cs : Array Value) (W : World) (A : Option Addr) (c : Nat) (l : List Nat) (q : Nat) : Prop where
  own : OwnsB 5 W base A c l
  len : l.length = q
  bel : Thru base w0 W
  le : base ≤ W.heap.size
  row : W.heap[g]? = some (.cells cs 64 (0, 0))
theorem Stp.step {w0 W w' : World} {base g : Nat} {cs : Array Value} {A A' : Option Addr} {c c' : Nat} {l l' : List Nat} {q q' : Nat} (h : Stp w0 base g cs W A c l q) (ho : OwnsB 5 w' base A' c' l') (hl : l'.length = q') (hb : Thru base W w') : Stp w0 base g cs w' A' c' l' q' :=
  ⟨ho, hl, h.bel.trans hb, Nat.le_trans h.le hb.size, hb.keep h.row (fun cs fr e => by injection e with _ e _; exact absurd e (by decide))⟩
def EnC (w : World) (g : Nat) (x : Rl.En) (A : Option Addr) (c : Nat) : Prop := w.cell? ⟨g, 0, none⟩ = some (.int .i64 x.t) ∧ w.cell? ⟨g, 1, none⟩ = some (.int .i64 x.k) ∧ w.cell? ⟨g, 2, none⟩ = some (.slice A x.d.length c)
theorem Stp.cells {w0 W : World} {base g : Nat} {A A4 : Option Addr} {c c4 : Nat} {l : List Nat} {q : Nat} {x : Rl.En} (h : Stp w0 base g #[.int .i64 x.t, .int .i64 x.k, .slice A4 x.d.length c4] W A c l q) : EnC W g x A4 c4 :=
  ⟨cell_of_row _ g 0 _ _ (0, 0) h.row, cell_of_row _ g 1 _ _ (0, 0) h.row, cell_of_row _ g 2 _ _ (0, 0) h.row⟩
end Go.Proofs.Ytkmbkihfdilmbaa.Ms
namespace Go.Proofs.Ytkmbkihfdilmbaa
open Go.RowKit
end Go.Proofs.Ytkmbkihfdilmbaa
namespace Go.Proofs.Ytkmbkihfdilmbaa.Frame
open Go.RowKit
end Go.Proofs.Ytkmbkihfdilmbaa.Frame
namespace Go.Proofs.Ytkmbkihfdilmbaa.Frame
open Go.RowKit
set_option maxRecDepth 100000
end Go.Proofs.Ytkmbkihfdilmbaa.Frame
namespace Go.Proofs.Ytkmbkihfdilmbaa.Ms
open Go.RowKit
set_option maxRecDepth 100000
attribute [local go_sem ↓] loadAt_msg
theorem blank_of {m : M} (hf : m.foreign = false) (r : Nat) (hr : r ∈ all) (h : (tab m.kind).contains r = false) : m.blank r = true := by
  unfold M.foreign at hf
  rw [List.any_eq_false] at hf
  have := hf r hr
  rw [h] at this
  simpa using this
theorem enc_length (m : M) (hk : m.isKind = true) (hf : m.foreign = false) : m.enc.length = m.size := by
  have h1 : ∀ L : List Nat, (L.flatMap m.encF).length = (L.map m.len).sum := by
    intro L
    induction L with
    | nil => rfl
    | cons r L ih => rw [List.flatMap_cons, List.length_append, encF_length, List.map_cons, List.sum_cons, ih]
  have he : (tab m.kind).contains 101 = false → m.es = [] := fun h => by
    have := blank_of hf 101 (by decide) h
    simpa [M.blank] using this
  have hd : (tab m.kind).contains 100 = false → m.d = [] := fun h => by
    have := blank_of hf 100 (by decide) h
    simpa [M.blank] using this
  unfold M.enc M.size
  rw [h1]
  obtain ⟨k, _, k1, k2, hk⟩ := kind_of hk
  rw [hk] at he hd ⊢
  have hw : m.es = [] → m.es.length = 0 ∧ weigh m.es = 0 := fun e => by rw [e]; exact ⟨rfl, rfl⟩
  have hl : m.d = [] → m.d.length = 0 := fun e => by rw [e]; rfl
  match k, k1, k2 with
  | 1, _, _ | 2, _, _ | 4, _, _ | 8, _, _ | 9, _, _ | 10, _, _ | 11, _, _ =>
    have := hw (he (by decide))
    have := hl (hd (by decide))
    simp [head, tab, M.len]; omega
  | 3, _, _ =>
    have := hl (hd (by decide))
    simp [head, tab, M.len]; omega
  | 5, _, _ | 6, _, _ | 7, _, _ =>
    have := hw (he (by decide))
    simp [head, tab, M.len]; omega
theorem check_zero {m : M} (h : check m = 0) : m.isKind = true ∧ m.foreign = false ∧ m.inRange = true ∧ m.es.length ≤ 1024 ∧ m.size ≤ 65536 := by
  unfold check at h
  split at h
  · cases h
  · split at h
    · cases h
    · split at h
      · cases h
      · split at h
        · cases h
        · rename_i h1 h2 h3 h4
          refine ⟨by simpa using h1, by simpa using h2, by simpa using h3, by omega, by omega⟩
end Go.Proofs.Ytkmbkihfdilmbaa.Ms
namespace Go.Proofs.Ytkmbkihfdilmbaa
open Go.RowKit
end Go.Proofs.Ytkmbkihfdilmbaa
namespace Go.Proofs.Ytkmbkihfdilmbaa
open Go.RowKit
set_option maxRecDepth 100000
end Go.Proofs.Ytkmbkihfdilmbaa
namespace Go.Proofs.Ytkmbkihfdilmbaa.Ms
open Go.RowKit
set_option maxRecDepth 100000
attribute [local go_sem ↓] loadAt_msg storeAt_msg
namespace Rd
variable {w0 W W' : World} {B gm gr lo : Nat} {m : M} {s : Pk.St} {A A' : Option Addr} {c c' N : Nat}
end Rd
structure Kept (lo gm gr : Nat) (W W' : World) : Prop where
  size : W.heap.size ≤ W'.heap.size
  same : ∀ k, k < lo → k < W.heap.size → k ≠ gm → k ≠ gr → W'.heap[k]? = W.heap[k]?
namespace Kept
variable {lo gm gr : Nat} {a b c : World}
theorem trans (h : Kept lo gm gr a b) (h' : Kept lo gm gr b c) : Kept lo gm gr a c := ⟨Nat.le_trans h.size h'.size, fun k h1 h2 h3 h4 => (h'.same k h1 (Nat.lt_of_lt_of_le h2 h.size) h3 h4).trans (h.same k h1 h2 h3 h4)⟩
theorem bel (h : Below lo a b) : Kept lo gm gr a b := ⟨h.size, fun k h1 _ _ _ => h.block k h1⟩
end Kept
end Go.Proofs.Ytkmbkihfdilmbaa.Ms
namespace Go.Proofs.Ytkmbkihfdilmbaa.Ms
open Go.RowKit
set_option maxRecDepth 100000
set_option linter.unusedVariables false
attribute [local go_sem ↓] loadAt_msg storeAt_msg
end Go.Proofs.Ytkmbkihfdilmbaa.Ms
namespace Go.Proofs.Ytkmbkihfdilmbaa
open Go.RowKit
end Go.Proofs.Ytkmbkihfdilmbaa
namespace Go.Proofs.Ytkmbkihfdilmbaa.Ms
open Go.RowKit
set_option maxRecDepth 100000
set_option linter.unusedVariables false
attribute [local go_sem ↓] loadAt_msg storeAt_msg
theorem st_row (w : World) (b : Nat) (cs cs' : Array Value) (hg : w.heap[b]? = some (.cells cs 31 (0, 0))) (h : cs.size = 17) (h' : cs'.size = 17) (h1 : cs'.all (·.oneCell') = true) : (stMsg (.pointer (some ⟨b, 0, none⟩)) (.agg cs')).run Try.prog w = .ok () (w.setRow b cs') :=
  run_storeVar_row w b _ _ cs cs' hg (by rw [info_msg, h']) (by rw [h, h']) h1
theorem msg_one (m : M) (A : Option Addr) (c : Nat) (A' : Option Addr) (c' : Nat) : (#[.int .i64 m.K, .int .i64 m.F, .int .i64 m.T, .int .i64 m.g, .int .i64 m.t, .int .i64 m.i, .int .i64 m.p, .int .i64 m.c, .int .i64 m.r, .int .i64 m.x, .int .i64 m.a, .int .i64 m.b, .int .i64 m.v, .int .i64 m.s, .bool m.ok, .slice A m.es.length c, .slice A' m.d.length c'] : Array Value).all (·.oneCell') = true := by simp [Value.oneCell']
theorem set_turned (w : World) (b : Nat) (cs : Array Value) : Turned (fun k => k = b) w (w.setRow b cs) := ⟨rfl, rfl, rfl, by simp, fun k _ hk => setRow_other w b k cs hk⟩
structure OwnM (w : World) (B : Nat) (m : M) (A : Option Addr) (c : Nat) (A' : Option Addr) (c' : Nat) : Prop where
  num : ∀ r ∈ nums, InInt (m.num r)
  es : OwnE w B w.heap.size A c m.es
  d : OwnsB 5 w B A' c' m.d
  one : (A = none ∧ c = 0) ∨ (A' = none ∧ c' = 0)
  few : m.es.length ≤ 50000
theorem M0_num : ∀ r ∈ nums, InInt (M0.num r) := by
  intro r hr
  simp only [nums, List.mem_cons, List.not_mem_nil, or_false] at hr
  rcases hr with rfl | rfl | rfl | rfl | rfl | rfl | rfl | rfl | rfl | rfl | rfl | rfl | rfl | rfl <;> exact ⟨by decide, by decide⟩
theorem OwnM.zero (w : World) (B : Nat) : OwnM w B M0 none 0 none 0 := ⟨M0_num, OwnE.nil _ _ _, OwnsB.nil _ _ _, .inl ⟨rfl, rfl⟩, Nat.zero_le _⟩
theorem rdF_num (m : M) (s : Pk.St) (r : Nat) (hr : r ∈ nums) : rdF m s r = some (m.set r (Pk.rdInt s).1, (Pk.rdInt s).2) := by
  have : r ≠ 111 ∧ r ≠ 101 ∧ r ≠ 100 := by
    simp only [nums, List.mem_cons, List.not_mem_nil, or_false] at hr
    omega
  unfold rdF; rw [if_neg this.1, if_neg this.2.1, if_neg this.2.2]
theorem dec_some {l : List Nat} {m m1 : M} {s s1 : Pk.St} (h : head3 l = (m, s)) (hb : s.bad = false) (hk : m.isKind = true) (hr : rdFs (tab m.kind) m s = some (m1, s1)) (ho : over s1 = true) : dec l = (m1, 0) := by
  unfold dec body; rw [h, if_neg (by simp [hb]), if_neg (by simp [hk]), hr]; simp [ho]
end Go.Proofs.Ytkmbkihfdilmbaa.Ms
namespace Go.Proofs.Ytkmbkihfdilmbaa.Ms
open Rl (En)
open Pk (St rdInt rdBlob)
set_option maxRecDepth 100000
set_option linter.unusedVariables false
end Go.Proofs.Ytkmbkihfdilmbaa.Ms
namespace Go.Proofs.Ytkmbkihfdilmbaa.Ms
open Go.RowKit
set_option maxRecDepth 100000
set_option linter.unusedVariables false
attribute [local go_sem ↓] loadAt_msg storeAt_msg
theorem OwnM.below {w w' : World} {B : Nat} {m : M} {A A' : Option Addr} {c c' : Nat} (h : OwnM w B m A c A' c') (hb : Below w.heap.size w w') : OwnM w' B m A c A' c' :=
  ⟨h.num, (h.es.below hb).wide (Nat.le_refl _) hb.size, h.d.below hb, h.one, h.few⟩
theorem OwnM.weaken {w : World} {B B' : Nat} {m : M} {A A' : Option Addr} {c c' : Nat} (h : OwnM w B m A c A' c') (hB : B' ≤ B) : OwnM w B' m A c A' c' :=
  ⟨h.num, h.es.wide hB (Nat.le_refl _), h.d.weaken hB, h.one, h.few⟩
theorem OwnM.turned {w w' : World} {B b : Nat} {m : M} {A A' : Option Addr} {c c' : Nat} (h : OwnM w B m A c A' c') (ht : Turned (fun k => k = b) w w') (hb : b < B) : OwnM w' B m A c A' c' :=
  ⟨h.num, (h.es.keep ht (fun k hk hB => by have := hB.1; omega)).wide (Nat.le_refl _) ht.size, h.d.turned ht (fun k hk e => by have := h.d.blkLt k hk; omega), h.one, h.few⟩
theorem get_long {b : List Nat} {p : List Nat} {n : Nat} (h : Fr.get b = (p, n, 0)) (hn : n < b.length) : get b = (M0, 2) := by
  unfold get; rw [h, if_neg (by simp), if_pos hn]
theorem get_ok {b : List Nat} {p : List Nat} {n : Nat} {m : M} (h : Fr.get b = (p, n, 0)) (hn : ¬ n < b.length) (hd : dec p = (m, 0)) (he : check m = 0) : get b = (m, 0) := by
  unfold get checked; rw [h, if_neg (by simp), if_neg hn, hd, if_neg (by simp), if_neg (by simp [he])]
end Go.Proofs.Ytkmbkihfdilmbaa.Ms
namespace Go.Proofs.Ytkmbkihfdilmbaa
open Go.RowKit
set_option maxHeartbeats 400000 in
theorem spoil_any (base : Nat) (A : Option Addr) (c : Nat) (l : List Nat) (hl : l.length ≤ maxLen) (w : World) (h : OwnsB 5 w base A c l) :
    Calls Try.prog 59 #[.slice A l.length c] w fun e w' => e = .returned (.tuple #[]) ∧ w.grownBy w' (Value.slice A l.length c).ownBlock := by
  unfold maxLen at hl
  go_enter Try.func59, Try.ntmps59
  go_wp2
  go_loopw [2] (fun i wr => ∃ k : Nat, ∃ L : List Nat, k ≤ l.length ∧ i = .int .i64 k ∧ L.length = l.length ∧ OwnsB 5 wr base A c L ∧ w.grownBy wr (Value.slice A l.length c).ownBlock) (fun i _ => l.length - (RowKit.intOf i).toNat)
  case atStart => exact ⟨0, l, by omega, rfl, rfl, h, grown_refl _ _⟩
  case round =>
    clear h
    obtain ⟨k, L, hk, rfl, hL, hown, hgr⟩ := hrel
    have HL := hid hL
    by_cases hlt : k < l.length
    · have hkl : k < L.length := by rw [hL]; exact hlt
      obtain ⟨g, rfl, _, _, hcg, hfg⟩ := hown.at_ hkl
      have h8 := hown.small L[k] (List.getElem_mem _)
      have HX : Hid (bits .xor .u8 (L[k] : Int) 90 = ((L[k] ^^^ 90 : Nat) : Int)) := hid (u8_xor_nat L[k] 90 h8 (by decide))
      have hs1 := hown.set_ k (L[k] ^^^ 90) (by have := Nat.xor_lt_two_pow (n := 8) h8 (show 90 < 2 ^ 8 by decide); simpa using this)
      have hg1 : w.grownBy (wr.setCell ⟨g, k, none⟩ (.int .u8 (L[k] ^^^ 90 : Nat))) (some g) := grown_trans hgr (grown_setCell _ _ _ _) (fun _ e _ => by injection e with e; rw [e])
      have HS := hid (And.intro hs1 hg1)
      clear hs1 hg1 hown hgr hL
      go_wp2
      rw [HX.out]
      go_roundw
      case rel => exact ⟨k + 1, _, by omega, by go_num, by rw [List.length_set]; exact HL.out, HS.out.1, HS.out.2⟩
      case measure => simp [RowKit.intOf]; omega
    · clear hL
      go_wp2
      go_end0
      exact ⟨rfl, hgr⟩
theorem spoil_N (base : Nat) (A : Option Addr) (c : Nat) (l : List Nat) (n : Nat) (hn : l.length = n) (hl : n ≤ maxLen) (w : World) (h : OwnsB 5 w base A c l) :
    Calls Try.prog 59 #[.slice A n c] w fun e w' => e = .returned (.tuple #[]) ∧ w.grownBy w' (blk A) := by
  subst hn; rw [← ownBlock_slice A l.length c]; exact spoil_any base A c l hl w h
end Go.Proofs.Ytkmbkihfdilmbaa
