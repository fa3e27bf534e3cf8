/- Texts of the proof, one behind the other: KitRow. -/
import Derived.Test.YtdgijnolpjaheaaGreatPartAW
import Derived.Test.YtdgijnolpjaheaaGreatPartAB
namespace Go.Proofs.YtdgijnolpjaheaaGreat
open Go.RowKit

set_option maxRecDepth 100000 in
set_option maxHeartbeats 400000 in
theorem row_cap (k : Nat) (hk : k ≤ 100000) (h0 : 0 < k) (w : World) :
    Calls Tryz.prog 4 #[.int .i64 (k : Int)] w fun e w' => ∃ A, ∃ L : List Nat, e = .returned (.slice A k k) ∧ L.length = k ∧ OwnsB 5 w' w.heap.size A k L ∧ Below w.heap.size w w' := by
  obtain ⟨i0, hi, hz0, hz1, hz2⟩ := info_parts info_u8
  go_enter Tryz.func4, Tryz.ntmps4
  go_wp2_with (at_make; refine wpList_make_full _ rfl _ _ 23 rfl w.heap.size 5 i0 (.int .u8 0) 1 Tryz.underlying23 hi hz0 hz1 .i64 .i64 (k : Int) (k : Int) k rfl rfl (by omega) (by omega) ?c1 ?c2 (Nat.le_refl _) ?_)
  case c1 => rw [hz2]; omega
  case c2 => unfold maxLen; omega
  intro w1 hown hgrow
  have hrow : OwnsB 5 w1 w.heap.size (some ⟨w.heap.size, 0, none⟩) k (List.replicate k 0) := by
    refine ⟨?_, ?_⟩
    · intro x hx
      have := (List.mem_replicate.1 hx).2; omega
    · rw [List.length_replicate]
      have e : (madeCells #[Value.int .u8 0] k).toList = bytes (List.replicate k 0) := by
        rw [toList_madeCells_one]; simp [bytes]
      rw [e] at hown
      exact hown
  have hbel : Below w.heap.size w w1 := (Below.refl _ _).grown hgrow (Nat.le_refl _) (fun g hg => by cases hg)
  clear hown hgrow
  go_wp2
  go_loopw [4] (fun i wr => ∃ j : Nat, ∃ L : List Nat, j ≤ k ∧ i = .int .i64 j ∧ L.length = k ∧ OwnsB 5 wr w.heap.size (some ⟨w.heap.size, 0, none⟩) k L ∧ Below w.heap.size w wr) (fun i _ => k - (RowKit.intOf i).toNat)
  case atStart => exact ⟨0, _, by omega, rfl, List.length_replicate, hrow, hbel⟩
  case round =>
    clear hrow hbel
    obtain ⟨j, L, hj, rfl, hL, hown, hbel⟩ := hrel
    have HL := hid hL
    by_cases hlt : j < k
    · have hjl : j < L.length := by omega
      obtain ⟨g, hg, _, _, hcg, hfg⟩ := hown.at_ hjl
      obtain rfl : w.heap.size = g := by injection hg with hg; injection hg
      clear hg
      have hs1 := hown.set_ j ((j * 7 + 1) % 256) (Nat.mod_lt _ (by decide))
      have hb1 : Below w.heap.size w (wr.setCell ⟨w.heap.size, j, none⟩ (.int .u8 (((j * 7 + 1) % 256 : Nat) : Int))) := hbel.setCell (Nat.le_refl _) _
      have HS := hid (And.intro hs1 hb1)
      have HX : Hid (((j : Int) * 7 + 1) % 256 = (((j * 7 + 1) % 256 : Nat) : Int)) := by show _ = _; omega
      clear hs1 hb1 hown hbel hL
      go_wp2
      rw [HX.out]
      go_roundw
      case rel => exact ⟨j + 1, _, by omega, by go_num, by rw [List.length_set]; exact HL.out, HS.out.1, HS.out.2⟩
      case measure => simp [RowKit.intOf] <;> omega
    · clear hL
      go_wp2
      go_ret
      exact ⟨_, L, rfl, HL.out, hown, hbel⟩
theorem row_some (k : Nat) (hk : k ≤ 100000) (h0 : 0 < k) (w : World) :
    Calls Tryz.prog 4 #[.int .i64 (k : Int)] w fun e w' => ∃ A c, ∃ L : List Nat, e = .returned (.slice A k c) ∧ L.length = k ∧ OwnsB 5 w' w.heap.size A c L ∧ Below w.heap.size w w' :=
  (row_cap k hk h0 w).mono fun _ _ ⟨A, L, h1, h2, h3, h4⟩ => ⟨A, k, L, h1, h2, h3, h4⟩

set_option maxHeartbeats 400000 in
theorem row_none (w : World) :
    Calls Tryz.prog 4 #[.int .i64 0] w fun e w' => ∃ A c, ∃ L : List Nat, e = .returned (.slice A 0 c) ∧ L.length = 0 ∧ OwnsB 5 w' w.heap.size A c L ∧ Below w.heap.size w w' := by
  obtain ⟨i0, hi, hz0, hz1, hz2⟩ := info_parts info_u8
  go_enter Tryz.func4, Tryz.ntmps4
  go_wp2_with (at_make; refine wpList_make_full _ rfl _ _ 23 rfl w.heap.size 5 i0 (.int .u8 0) 1 Tryz.underlying23 hi hz0 hz1 .i64 .i64 0 0 0 rfl rfl rfl rfl ?c1 ?c2 (Nat.le_refl _) ?_)
  case c1 => omega
  case c2 => unfold maxLen; omega
  intro w1 hown hgrow
  have hrow : OwnsB 5 w1 w.heap.size (some ⟨w.heap.size, 0, none⟩) 0 [] := by
    refine ⟨by simp, ?_⟩
    have e : (madeCells #[Value.int .u8 0] 0).toList = bytes [] := by rw [toList_madeCells_one]; rfl
    rw [e] at hown
    exact hown
  have hbel : Below w.heap.size w w1 := (Below.refl _ _).grown hgrow (Nat.le_refl _) (fun g hg => by cases hg)
  have HO := hid (And.intro hrow hbel)
  clear hown hgrow hrow hbel
  go_wp2
  go_loopw [4] (fun i wr => i = .int .i64 0 ∧ wr = w1) (fun _ _ => 0)
  case atStart => exact ⟨rfl, rfl⟩
  case round =>
    obtain ⟨rfl, rfl⟩ := hrel
    go_wp2
    go_ret
    exact ⟨_, _, [], rfl, rfl, HO.out.1, HO.out.2⟩
theorem row_any (k : Nat) (hk : k ≤ 100000) (w : World) :
    Calls Tryz.prog 4 #[.int .i64 (k : Int)] w fun e w' => ∃ A c, ∃ L : List Nat, e = .returned (.slice A k c) ∧ L.length = k ∧ OwnsB 5 w' w.heap.size A c L ∧ Below w.heap.size w w' := by
  rcases Nat.eq_zero_or_pos k with rfl | h
  · exact row_none w
  · exact row_some k hk h w
end Go.Proofs.YtdgijnolpjaheaaGreat
