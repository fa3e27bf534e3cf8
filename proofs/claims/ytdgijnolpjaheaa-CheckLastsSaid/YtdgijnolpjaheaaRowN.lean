/- The walk through Row: so many bytes, which ones. -/
import Derived.Test.YtdgijnolpjaheaaKitEq
import Derived.Test.YtdgijnolpjaheaaGrown
namespace Go.Proofs.Ytdgijnolpjaheaa
open Go.RowKit

/-- the bytes of Row -/
def rowN (k : Nat) : List Nat := (List.range k).map fun i => (i * 7 + 1) % 256
theorem rowN_length (k : Nat) : (rowN k).length = k := by simp [rowN]
theorem rowN_of {L : List Nat} {k : Nat} (hl : L.length = k) (h : ∀ i (hi : i < L.length), L[i] = (i * 7 + 1) % 256) : L = rowN k := by
  apply List.ext_getElem
  · rw [rowN_length]; exact hl
  · intro i h1 h2
    rw [h i h1]
    simp [rowN]
set_option maxRecDepth 100000 in
set_option maxHeartbeats 400000 in
theorem rowN_any (k : Nat) (hk : k ≤ 100000) (h0 : 0 < k) (w : World) :
    Calls Try.prog 28 #[.int .i64 (k : Int)] w fun e w' => ∃ A c, e = .returned (.slice A k c) ∧ OwnsB 5 w' w.heap.size A c (rowN k) ∧ Below w.heap.size w w' := by
  obtain ⟨i0, hi, hz0, hz1, hz2⟩ := info_parts info_u8
  go_enter Try.func28, Try.ntmps28
  go_wp2_with (at_make; refine wpList_make_full _ rfl _ _ 32 rfl w.heap.size 5 i0 (.int .u8 0) 1 Try.underlying32 hi hz0 hz1 .i64 .i64 (k : Int) (k : Int) k rfl rfl (by omega) (by omega) ?c1 ?c2 (Nat.le_refl _) ?_)
  case c1 => rw [hz2]; omega
  case c2 => unfold maxLen; omega
  intro w1 hown hgrow
  have hrow : OwnsB 5 w1 w.heap.size (some ⟨w.heap.size, 0, none⟩) k (List.replicate k 0) := by
    refine ⟨?_, ?_⟩
    · intro x hx
      have := (List.mem_replicate.1 hx).2; omega
    · rw [List.length_replicate]
      have e : (madeCells #[Value.int .u8 0] k).toList = bytes (List.replicate k 0) := by
        rw [toList_madeCells_one]; simp [bytes]
      rw [e] at hown
      exact hown
  have hbel : Below w.heap.size w w1 := (Below.refl _ _).grown hgrow (Nat.le_refl _) (fun g hg => by cases hg)
  clear hown hgrow
  go_wp2
  go_loopw [4] (fun i wr => ∃ j : Nat, ∃ L : List Nat, j ≤ k ∧ i = .int .i64 j ∧ L.length = k ∧ OwnsB 5 wr w.heap.size (some ⟨w.heap.size, 0, none⟩) k L ∧ Below w.heap.size w wr ∧ Hid (∀ i (hi : i < L.length), i < j → L[i] = (i * 7 + 1) % 256)) (fun i _ => k - (intOf i).toNat)
  case atStart => exact ⟨0, _, by omega, rfl, List.length_replicate, hrow, hbel, hid (fun i _ h => by omega)⟩
  case round =>
    clear hrow hbel
    obtain ⟨j, L, hj, rfl, hL, hown, hbel, HE⟩ := hrel
    have HL := hid hL
    by_cases hlt : j < k
    · have hjl : j < L.length := by omega
      obtain ⟨g, hg, _, _, hcg, hfg⟩ := hown.at_ hjl
      obtain rfl : w.heap.size = g := by injection hg with hg; injection hg
      clear hg
      have hs1 := hown.set_ j ((j * 7 + 1) % 256) (Nat.mod_lt _ (by decide))
      have hb1 : Below w.heap.size w (wr.setCell ⟨w.heap.size, j, none⟩ (.int .u8 (((j * 7 + 1) % 256 : Nat) : Int))) := hbel.setCell (Nat.le_refl _) _
      have HS := hid (And.intro hs1 hb1)
      have HX : Hid (((j : Int) * 7 + 1) % 256 = (((j * 7 + 1) % 256 : Nat) : Int)) := by show _ = _; omega
      have HE1 : Hid (∀ i (hi : i < (L.set j ((j * 7 + 1) % 256)).length), i < j + 1 → (L.set j ((j * 7 + 1) % 256))[i] = (i * 7 + 1) % 256) := hid (fun i hi h => by
        rw [List.length_set] at hi
        rw [List.getElem_set]
        split
        · rename_i h2; rw [h2]
        · exact HE.out i hi (by omega))
      clear hs1 hb1 hown hbel hL
      go_wp2
      rw [HX.out]
      go_roundw
      case rel => exact ⟨j + 1, _, by omega, by go_num, by rw [List.length_set]; exact HL.out, HS.out.1, HS.out.2, HE1⟩
      case measure => simp [intOf] <;> omega
    · have HR : Hid (L = rowN k) := hid (rowN_of hL (fun i hi => HE.out i hi (by omega)))
      clear hL
      go_wp2
      go_ret
      have := HR.out
      subst this
      exact ⟨_, _, rfl, hown, hbel⟩
end Go.Proofs.Ytdgijnolpjaheaa
