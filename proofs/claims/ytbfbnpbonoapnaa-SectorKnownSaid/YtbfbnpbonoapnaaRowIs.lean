/- The walk through Row: which bytes. -/
import Derived.Test.YtbfbnpbonoapnaaKitBytes
import Derived.Test.YtbfbnpbonoapnaaGrown
namespace Go.Proofs.Ytbfbnpbonoapnaa
open Go.RowKit

def rowOf (k : Nat) : List Nat := (List.range k).map fun j => (j * 7 + 1) % 256
def rowTo (k j : Nat) : List Nat := (rowOf k).take j ++ List.replicate (k - j) 0
theorem rowOf_length (k : Nat) : (rowOf k).length = k := by simp [rowOf]
theorem rowTo_length (k j : Nat) (h : j ≤ k) : (rowTo k j).length = k := by simp [rowTo, rowOf_length]; omega
theorem rowTo_end (k : Nat) : rowTo k k = rowOf k := by
  unfold rowTo
  rw [List.take_of_length_le (by rw [rowOf_length]; omega)]
  simp
theorem rowTo_set (k j : Nat) (h : j < k) : (rowTo k j).set j ((j * 7 + 1) % 256) = rowTo k (j + 1) := by
  unfold rowTo
  have h1 : ((rowOf k).take j).length = j := by rw [List.length_take, rowOf_length]; omega
  have h2 : k - j = (k - (j + 1)) + 1 := by omega
  rw [List.set_append_right j _ (by omega), h1, Nat.sub_self, h2, List.replicate_succ, List.set_cons_zero, List.take_succ_eq_append_getElem (by rw [rowOf_length]; exact h), List.append_assoc]
  congr 1
  simp [rowOf]

set_option maxRecDepth 100000 in
set_option maxHeartbeats 400000 in
theorem row_is (k : Nat) (hk : k ≤ 100000) (h0 : 0 < k) (w : World) :
    Calls Try.prog 24 #[.int .i64 (k : Int)] w fun e w' => ∃ A c, e = .returned (.slice A k c) ∧ OwnsB 5 w' w.heap.size A c (rowOf k) ∧ Below w.heap.size w w' := by
  obtain ⟨i0, hi, hz0, hz1, hz2⟩ := info_parts info_u8
  go_enter Try.func24, Try.ntmps24
  go_wp2_with (at_make; refine wpList_make_full _ rfl _ _ 33 rfl w.heap.size 5 i0 (.int .u8 0) 1 Try.underlying33 hi hz0 hz1 .i64 .i64 (k : Int) (k : Int) k rfl rfl (by omega) (by omega) ?c1 ?c2 (Nat.le_refl _) ?_)
  case c1 => rw [hz2]; omega
  case c2 => unfold maxLen; omega
  intro w1 hown hgrow
  have hrow : OwnsB 5 w1 w.heap.size (some ⟨w.heap.size, 0, none⟩) k (rowTo k 0) := by
    have e0 : rowTo k 0 = List.replicate k 0 := by simp [rowTo]
    rw [e0]
    refine ⟨?_, ?_⟩
    · intro x hx
      have := (List.mem_replicate.1 hx).2; omega
    · rw [List.length_replicate]
      have e : (madeCells #[Value.int .u8 0] k).toList = bytes (List.replicate k 0) := by
        rw [toList_madeCells_one]; simp [bytes]
      rw [e] at hown
      exact hown
  have hbel : Below w.heap.size w w1 := (Below.refl _ _).grown hgrow (Nat.le_refl _) (fun g hg => by cases hg)
  clear hown hgrow
  go_wp2
  go_loopw [4] (fun i wr => ∃ j : Nat, j ≤ k ∧ i = .int .i64 j ∧ OwnsB 5 wr w.heap.size (some ⟨w.heap.size, 0, none⟩) k (rowTo k j) ∧ Below w.heap.size w wr) (fun i _ => k - (intOf i).toNat)
  case atStart => exact ⟨0, by omega, rfl, hrow, hbel⟩
  case round =>
    clear hrow hbel
    obtain ⟨j, hj, rfl, hown, hbel⟩ := hrel
    by_cases hlt : j < k
    · have hjl : j < (rowTo k j).length := by rw [rowTo_length k j hj]; exact hlt
      obtain ⟨g, hg, _, _, hcg, hfg⟩ := hown.at_ hjl
      obtain rfl : w.heap.size = g := by injection hg with hg; injection hg
      clear hg
      have hs1 := hown.set_ j ((j * 7 + 1) % 256) (Nat.mod_lt _ (by decide))
      rw [rowTo_set k j hlt] at hs1
      have hb1 : Below w.heap.size w (wr.setCell ⟨w.heap.size, j, none⟩ (.int .u8 (((j * 7 + 1) % 256 : Nat) : Int))) := hbel.setCell (Nat.le_refl _) _
      have HS := hid (And.intro hs1 hb1)
      have HX : Hid (((j : Int) * 7 + 1) % 256 = (((j * 7 + 1) % 256 : Nat) : Int)) := by show _ = _; omega
      clear hs1 hb1 hown hbel
      go_wp2
      rw [HX.out]
      go_roundw
      case rel => exact ⟨j + 1, by omega, by go_num, HS.out.1, HS.out.2⟩
      case measure => simp [intOf] <;> omega
    · obtain rfl : j = k := by omega
      rw [rowTo_end] at hown
      go_wp2
      go_ret
      exact ⟨_, _, rfl, hown, hbel⟩
end Go.Proofs.Ytbfbnpbonoapnaa
