/- The walks through the functions that write a list of bytes, or of ints, over. -/
import Derived.Test.YtdmghnfnmgkigaaRows
import Derived.Test.YtdmghnfnmgkigaaGrown
namespace Go.Proofs.Ytdmghnfnmgkigaa
open Go.RowKit

theorem i64_xor_in (a b : Int) : InInt (bits .xor .i64 a b) := by
  unfold InInt bits IntKind.wrap
  simp [IntKind.signed, IntKind.bits]
  omega

set_option maxHeartbeats 400000 in
theorem spoil_any (base : Nat) (A : Option Addr) (c : Nat) (l : List Nat) (hl : l.length ≤ maxLen) (w : World) (h : OwnsB 5 w base A c l) :
    Calls Try.prog 19 #[.slice A l.length c] w fun e w' => e = .returned (.tuple #[]) ∧ w.grownBy w' (Value.slice A l.length c).ownBlock := by
  unfold maxLen at hl
  go_enter Try.func19, Try.ntmps19
  go_wp2
  go_loopw [2] (fun i wr => ∃ k : Nat, ∃ L : List Nat, k ≤ l.length ∧ i = .int .i64 k ∧ L.length = l.length ∧ OwnsB 5 wr base A c L ∧ w.grownBy wr (Value.slice A l.length c).ownBlock) (fun i _ => l.length - (intOf i).toNat)
  case atStart => exact ⟨0, l, by omega, rfl, rfl, h, grown_refl _ _⟩
  case round =>
    clear h
    obtain ⟨k, L, hk, rfl, hL, hown, hgr⟩ := hrel
    have HL := hid hL
    by_cases hlt : k < l.length
    · have hkl : k < L.length := by rw [hL]; exact hlt
      obtain ⟨g, rfl, _, _, hcg, hfg⟩ := hown.at_ hkl
      have h8 := hown.small L[k] (List.getElem_mem _)
      have HX : Hid (bits .xor .u8 (L[k] : Int) 90 = ((L[k] ^^^ 90 : Nat) : Int)) := hid (u8_xor_nat L[k] 90 h8 (by decide))
      have hs1 := hown.set_ k (L[k] ^^^ 90) (by have := Nat.xor_lt_two_pow (n := 8) h8 (show 90 < 2 ^ 8 by decide); simpa using this)
      have hg1 : w.grownBy (wr.setCell ⟨g, k, none⟩ (.int .u8 (L[k] ^^^ 90 : Nat))) (some g) := grown_trans hgr (grown_setCell _ _ _ _) (fun _ e _ => by injection e with e; rw [e])
      have HS := hid (And.intro hs1 hg1)
      clear hs1 hg1 hown hgr hL
      go_wp2
      rw [HX.out]
      go_roundw
      case rel => exact ⟨k + 1, _, by omega, by go_num, by rw [List.length_set]; exact HL.out, HS.out.1, HS.out.2⟩
      case measure => simp [intOf]; omega
    · clear hL
      go_wp2
      go_end0
      exact ⟨rfl, hgr⟩
set_option maxHeartbeats 400000 in
theorem spoilInts_any (base : Nat) (A : Option Addr) (c : Nat) (l : List Int) (hl : l.length ≤ maxLen) (w : World) (h : OwnsI 3 w base A c l) :
    Calls Try.prog 46 #[.slice A l.length c] w fun e w' => e = .returned (.tuple #[]) ∧ w.grownBy w' (Value.slice A l.length c).ownBlock := by
  unfold maxLen at hl
  go_enter Try.func46, Try.ntmps46
  go_wp2
  go_loopw [2] (fun i wr => ∃ k : Nat, ∃ L : List Int, k ≤ l.length ∧ i = .int .i64 k ∧ L.length = l.length ∧ OwnsI 3 wr base A c L ∧ w.grownBy wr (Value.slice A l.length c).ownBlock) (fun i _ => l.length - (intOf i).toNat)
  case atStart => exact ⟨0, l, by omega, rfl, rfl, h, grown_refl _ _⟩
  case round =>
    clear h
    obtain ⟨k, L, hk, rfl, hL, hown, hgr⟩ := hrel
    have HL := hid hL
    by_cases hlt : k < l.length
    · have hkl : k < L.length := by rw [hL]; exact hlt
      obtain ⟨g, rfl, _, _, hcg, hfg⟩ := hown.at_ hkl
      have hs1 := hown.set_ k (bits .xor .i64 L[k] 77) (i64_xor_in _ _)
      have hg1 : w.grownBy (wr.setCell ⟨g, k, none⟩ (.int .i64 (bits .xor .i64 L[k] 77))) (some g) := grown_trans hgr (grown_setCell _ _ _ _) (fun _ e _ => by injection e with e; rw [e])
      have HS := hid (And.intro hs1 hg1)
      clear hs1 hg1 hown hgr hL
      go_wp2
      go_roundw
      case rel => exact ⟨k + 1, _, by omega, by go_num, by rw [List.length_set]; exact HL.out, HS.out.1, HS.out.2⟩
      case measure => simp [intOf]; omega
    · clear hL
      go_wp2
      go_end0
      exact ⟨rfl, hgr⟩
end Go.Proofs.Ytdmghnfnmgkigaa
