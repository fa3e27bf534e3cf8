/- The walk through the function that writes a list of bytes over. -/
import Derived.Test.YtmaebemhephcmaaDoorRows
import Derived.Test.YtmaebemhephcmaaDoorGrown
namespace Go.Proofs.YtmaebemhephcmaaDoor
open Go.RowKit

set_option maxHeartbeats 400000 in
theorem spoil_any (base : Nat) (A : Option Addr) (c : Nat) (l : List Nat) (hl : l.length ≤ maxLen) (w : World) (h : OwnsB 5 w base A c l) :
    Calls Tryd.prog 19 #[.slice A l.length c] w fun e w' => e = .returned (.tuple #[]) ∧ w.grownBy w' (Value.slice A l.length c).ownBlock := by
  unfold maxLen at hl
  go_enter Tryd.func19, Tryd.ntmps19
  go_wp2
  go_loopw [2] (fun i wr => ∃ k : Nat, ∃ L : List Nat, k ≤ l.length ∧ i = .int .i64 k ∧ L.length = l.length ∧ OwnsB 5 wr base A c L ∧ w.grownBy wr (Value.slice A l.length c).ownBlock) (fun i _ => l.length - (intOf i).toNat)
  case atStart => exact ⟨0, l, by omega, rfl, rfl, h, grown_refl _ _⟩
  case round =>
    clear h
    obtain ⟨k, L, hk, rfl, hL, hown, hgr⟩ := hrel
    have HL := hid hL
    by_cases hlt : k < l.length
    · have hkl : k < L.length := by rw [hL]; exact hlt
      obtain ⟨g, rfl, _, _, hcg, hfg⟩ := hown.at_ hkl
      have h8 := hown.small L[k] (List.getElem_mem _)
      have HX : Hid (bits .xor .u8 (L[k] : Int) 90 = ((L[k] ^^^ 90 : Nat) : Int)) := hid (u8_xor_nat L[k] 90 h8 (by decide))
      have hs1 := hown.set_ k (L[k] ^^^ 90) (by have := Nat.xor_lt_two_pow (n := 8) h8 (show 90 < 2 ^ 8 by decide); simpa using this)
      have hg1 : w.grownBy (wr.setCell ⟨g, k, none⟩ (.int .u8 (L[k] ^^^ 90 : Nat))) (some g) := grown_trans hgr (grown_setCell _ _ _ _) (fun _ e _ => by injection e with e; rw [e])
      have HS := hid (And.intro hs1 hg1)
      clear hs1 hg1 hown hgr hL
      go_wp2
      rw [HX.out]
      go_roundw
      case rel => exact ⟨k + 1, _, by omega, by go_num, by rw [List.length_set]; exact HL.out, HS.out.1, HS.out.2⟩
      case measure => simp [intOf]; omega
    · clear hL
      go_wp2
      go_end0
      exact ⟨rfl, hgr⟩
theorem spoil_N (base : Nat) (A : Option Addr) (c : Nat) (l : List Nat) (n : Nat) (hn : l.length = n) (hl : n ≤ maxLen) (w : World) (h : OwnsB 5 w base A c l) :
    Calls Tryd.prog 19 #[.slice A n c] w fun e w' => e = .returned (.tuple #[]) ∧ w.grownBy w' (blk A) := by
  subst hn; rw [← ownBlock_slice A l.length c]; exact spoil_any base A c l hl w h
end Go.Proofs.YtmaebemhephcmaaDoor
