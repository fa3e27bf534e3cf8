/- The walk through the function that writes a list of ints over. -/
import Derived.Test.YtblhfbijffaacaaRows
import Derived.Test.YtblhfbijffaacaaGrown
namespace Go.Proofs.Ytblhfbijffaacaa
open Go.RowKit

theorem i64_xor_in (a b : Int) : InInt (bits .xor .i64 a b) := by
  unfold InInt bits IntKind.wrap
  simp [IntKind.signed, IntKind.bits]
  omega

set_option maxHeartbeats 400000 in
theorem spoilInts_any (base : Nat) (A : Option Addr) (c : Nat) (l : List Int) (hl : l.length ≤ maxLen) (w : World) (h : OwnsI 3 w base A c l) :
    Calls Try.prog 22 #[.slice A l.length c] w fun e w' => e = .returned (.tuple #[]) ∧ w.grownBy w' (Value.slice A l.length c).ownBlock := by
  unfold maxLen at hl
  go_enter Try.func22, Try.ntmps22
  go_wp2
  go_loopw [2] (fun i wr => ∃ k : Nat, ∃ L : List Int, k ≤ l.length ∧ i = .int .i64 k ∧ L.length = l.length ∧ OwnsI 3 wr base A c L ∧ w.grownBy wr (Value.slice A l.length c).ownBlock) (fun i _ => l.length - (intOf i).toNat)
  case atStart => exact ⟨0, l, by omega, rfl, rfl, h, grown_refl _ _⟩
  case round =>
    clear h
    obtain ⟨k, L, hk, rfl, hL, hown, hgr⟩ := hrel
    have HL := hid hL
    by_cases hlt : k < l.length
    · have hkl : k < L.length := by rw [hL]; exact hlt
      obtain ⟨g, rfl, _, _, hcg, hfg⟩ := hown.at_ hkl
      have hs1 := hown.set_ k (bits .xor .i64 L[k] 77) (i64_xor_in _ _)
      have hg1 : w.grownBy (wr.setCell ⟨g, k, none⟩ (.int .i64 (bits .xor .i64 L[k] 77))) (some g) := grown_trans hgr (grown_setCell _ _ _ _) (fun _ e _ => by injection e with e; rw [e])
      have HS := hid (And.intro hs1 hg1)
      clear hs1 hg1 hown hgr hL
      go_wp2
      go_roundw
      case rel => exact ⟨k + 1, _, by omega, by go_num, by rw [List.length_set]; exact HL.out, HS.out.1, HS.out.2⟩
      case measure => simp [intOf]; omega
    · clear hL
      go_wp2
      go_end0
      exact ⟨rfl, hgr⟩
theorem spoilI_N (base : Nat) (A : Option Addr) (c : Nat) (l : List Int) (n : Nat) (hn : l.length = n) (hl : n ≤ maxLen) (w : World) (h : OwnsI 3 w base A c l) :
    Calls Try.prog 22 #[.slice A n c] w fun e w' => e = .returned (.tuple #[]) ∧ w.grownBy w' (blk A) := by
  subst hn; rw [← ownBlock_slice A l.length c]; exact spoilInts_any base A c l hl w h
end Go.Proofs.Ytblhfbijffaacaa
