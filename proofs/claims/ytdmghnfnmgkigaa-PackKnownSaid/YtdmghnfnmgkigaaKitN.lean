/- The shared functions once more: the lists' lengths said apart. -/
import Derived.Test.YtdmghnfnmgkigaaKitBytes
import Derived.Test.YtdmghnfnmgkigaaKitInts
import Derived.Test.YtdmghnfnmgkigaaSpoil
namespace Go.Proofs.Ytdmghnfnmgkigaa
open Go.RowKit

theorem same_N (B B' : Nat) (A A' : Option Addr) (c c' : Nat) (l m : List Nat) (n k : Nat) (hn : l.length = n) (hk : m.length = k) (hl : n ≤ maxLen) (hm : k ≤ maxLen) (w : World) (h : IsBytes w B A l) (h' : IsBytes w B' A' m) :
    Calls Try.prog 15 #[.slice A n c, .slice A' k c'] w fun e w' => e = .returned (.bool (decide (l = m))) ∧ ∃ j, w' = w.drewN j := by
  subst hn; subst hk; exact same_any B B' A A' c c' l m hl hm w h h'
theorem sameI_N (B B' : Nat) (A A' : Option Addr) (c c' : Nat) (l m : List Int) (n k : Nat) (hn : l.length = n) (hk : m.length = k) (hl : n ≤ maxLen) (hm : k ≤ maxLen) (w : World) (h : IsInts w B A l) (h' : IsInts w B' A' m) :
    Calls Try.prog 40 #[.slice A n c, .slice A' k c'] w fun e w' => e = .returned (.bool (decide (l = m))) ∧ ∃ j, w' = w.drewN j := by
  subst hn; subst hk; exact I.same_any B B' A A' c c' l m hl hm w h h'
theorem spoil_N (base : Nat) (A : Option Addr) (c : Nat) (l : List Nat) (n : Nat) (hn : l.length = n) (hl : n ≤ maxLen) (w : World) (h : OwnsB 5 w base A c l) :
    Calls Try.prog 19 #[.slice A n c] w fun e w' => e = .returned (.tuple #[]) ∧ w.grownBy w' (blk A) := by
  subst hn; rw [← ownBlock_slice A l.length c]; exact spoil_any base A c l hl w h
theorem spoilI_N (base : Nat) (A : Option Addr) (c : Nat) (l : List Int) (n : Nat) (hn : l.length = n) (hl : n ≤ maxLen) (w : World) (h : OwnsI 3 w base A c l) :
    Calls Try.prog 46 #[.slice A n c] w fun e w' => e = .returned (.tuple #[]) ∧ w.grownBy w' (blk A) := by
  subst hn; rw [← ownBlock_slice A l.length c]; exact spoilInts_any base A c l hl w h
/-- where what the call owns lies -/
theorem OwnsB.blkLt {e : TypeId} {w : World} {base c : Nat} {A : Option Addr} {l : List Nat} (h : OwnsB e w base A c l) : ∀ k, blk A = some k → base ≤ k ∧ k < w.heap.size := by
  intro k hk; exact h.rowLt k (by rw [ownBlock_slice]; exact hk)
theorem OwnsI.blkLt {e : TypeId} {w : World} {base c : Nat} {A : Option Addr} {l : List Int} (h : OwnsI e w base A c l) : ∀ k, blk A = some k → base ≤ k ∧ k < w.heap.size := by
  intro k hk; exact h.rowLt k (by rw [ownBlock_slice]; exact hk)
/-- what the call owns stays while nothing from its base to the heap's end was written -/
theorem OwnsB.belowB {e : TypeId} {w w' : World} {base c : Nat} {A : Option Addr} {l : List Nat} (h : OwnsB e w base A c l) (hb : Below w.heap.size w w') : OwnsB e w' base A c l := h.below hb
end Go.Proofs.Ytdmghnfnmgkigaa
