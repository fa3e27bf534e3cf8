/- The walks through package message: the string of a kind's fields, and a letter in it. -/
import Derived.Test.YtmaebemhephcmaaDoorMsA
import Derived.Lib.Bytealg
import Derived.Lib.OthersKept
namespace Go.Proofs.YtmaebemhephcmaaDoor.Ms
open Go.RowKit
set_option maxRecDepth 100000

/-- letters as a string -/
def strOf (l : List Nat) : ByteArray := ⟨(l.map Nat.toUInt8).toArray⟩
theorem strOf_size (l : List Nat) : (strOf l).size = l.length := by unfold strOf; simp [ByteArray.size]
theorem strOf_append (l k : List Nat) : strOf l ++ strOf k = strOf (l ++ k) := by
  unfold strOf
  rw [List.map_append]
  apply ByteArray.ext
  simp [ByteArray.data_append]
theorem strOf_get (l : List Nat) (hl : ∀ x ∈ l, x < 128) (k : Nat) (h : k < (strOf l).size) : ((strOf l)[k]'h).toNat = l[k]'(by rw [← strOf_size]; exact h) := by
  have hk : k < l.length := by rw [← strOf_size]; exact h
  have hx := hl l[k] (List.getElem_mem hk)
  show ((strOf l).data[k]).toNat = _
  simp only [strOf, List.getElem_toArray, List.getElem_map]
  exact Nat.mod_eq_of_lt (by omega)
theorem has_index (l : List Nat) (hl : ∀ x ∈ l, x < 128) (r : Nat) (hr : r < 128) : decide (0 ≤ Lib.indexByte (l.map Nat.toUInt8) ((r : Int).toNat.toUInt8)) = l.contains r := by
  induction l with
  | nil => simp [Lib.indexByte]
  | cons a l ih =>
    have ih := ih (fun x hx => hl x (List.mem_cons_of_mem _ hx))
    have ha := hl a List.mem_cons_self
    have he : (a.toUInt8 == (r : Int).toNat.toUInt8) = (r == a) := by
      rw [Int.toNat_natCast, Bool.eq_iff_iff, beq_iff_eq, beq_iff_eq]
      constructor
      · intro e
        have := congrArg UInt8.toNat e
        simp at this
        omega
      · rintro rfl; rfl
    have hg := Lib.indexByte_ge (l.map Nat.toUInt8) ((r : Int).toNat.toUInt8)
    rw [List.map_cons, Lib.indexByte, he, List.contains_cons, ← ih]
    by_cases e : r = a
    · simp [e]
    · have e2 : (r == a) = false := by simpa using e
      rw [e2]
      simp only [Bool.false_eq_true, if_false, Bool.false_or]
      by_cases h1 : Lib.indexByte (l.map Nat.toUInt8) ((r : Int).toNat.toUInt8) = -1
      · rw [h1]; rfl
      · have : (Lib.indexByte (l.map Nat.toUInt8) ((r : Int).toNat.toUInt8) == -1) = false := by simpa using h1
        rw [this]
        simp only [Bool.false_eq_true, if_false]
        congr 1
        apply propext
        constructor <;> intro <;> omega

set_option maxHeartbeats 1000000 in
theorem sIndex_any (s : ByteArray) (c : Int) (w : World) :
    Calls Tryd.prog 101 #[.string s, .int .u8 c] w fun e w' => e = .returned (.int .i64 (Lib.indexByte s.data.toList c.toNat.toUInt8)) ∧ w' = w := by
  go_enter Tryd.func101, Tryd.ntmps101
  go_wp2
  rw [run_callFunc_extern Tryd.func103 (by kernel_rfl) (by kernel_rfl) (by kernel_rfl) (e := Extern.BytealgIndexByte.indexByte) (by kernel_rfl), Lib.run_indexByteString]
  simp only [Result.andThen]
  rw [Oper.upon_value]
  go_wp2
  go_ret
  exact ⟨rfl, rfl⟩
set_option maxHeartbeats 1000000 in
theorem index_any (s : ByteArray) (c : Int) (w : World) :
    Calls Tryd.prog 92 #[.string s, .int .u8 c] w fun e w' => e = .returned (.int .i64 (Lib.indexByte s.data.toList c.toNat.toUInt8)) ∧ w' = w := by
  go_enter Tryd.func92, Tryd.ntmps92
  go_wp2_with fail
  refine (sIndex_any _ _ _).mono ?_
  rintro e w' ⟨rfl, rfl⟩
  go_wp2
  go_ret
  exact ⟨rfl, rfl⟩
set_option maxHeartbeats 4000000 in
theorem rune_any (s : ByteArray) (r : Nat) (hr : r < 128) (w : World) :
    Calls Tryd.prog 83 #[.string s, .int .i32 (r : Int)] w fun e w' => e = .returned (.int .i64 (Lib.indexByte s.data.toList (r : Int).toNat.toUInt8)) ∧ w' = w := by
  have h0 : (0 : Int) ≤ r := by omega
  have h1 : (r : Int) < 128 := by omega
  go_enter Tryd.func83, Tryd.ntmps83
  go_wp2_with fail
  refine (index_any _ _ _).mono ?_
  rintro e w' ⟨rfl, rfl⟩
  go_wp2
  go_ret
  exact ⟨rfl, rfl⟩
set_option maxHeartbeats 1000000 in
theorem contains_any (l : List Nat) (hl : ∀ x ∈ l, x < 128) (r : Nat) (hr : r < 128) (w : World) :
    Calls Tryd.prog 59 #[.string (strOf l), .int .i32 (r : Int)] w fun e w' => e = .returned (.bool (l.contains r)) ∧ w' = w := by
  go_enter Tryd.func59, Tryd.ntmps59
  go_wp2_with fail
  refine (rune_any _ r hr _).mono ?_
  rintro e w' ⟨rfl, rfl⟩
  go_wp2
  go_ret
  refine ⟨?_, rfl⟩
  rw [← has_index l hl r hr]
  simp [strOf]
  congr
end Go.Proofs.YtmaebemhephcmaaDoor.Ms
