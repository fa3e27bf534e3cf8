/- The shared functions once more: the lists' lengths said apart. -/
import Derived.Test.YtbfbnpbonoapnaaKitBytes
import Derived.Test.YtbfbnpbonoapnaaKitInts
import Derived.Test.YtbfbnpbonoapnaaSpoil
namespace Go.Proofs.Ytbfbnpbonoapnaa
open Go.RowKit

theorem sameI_N (B B' : Nat) (A A' : Option Addr) (c c' : Nat) (l m : List Int) (n k : Nat) (hn : l.length = n) (hk : m.length = k) (hl : n ≤ maxLen) (hm : k ≤ maxLen) (w : World) (h : IsInts w B A l) (h' : IsInts w B' A' m) :
    Calls Try.prog 28 #[.slice A n c, .slice A' k c'] w fun e w' => e = .returned (.bool (decide (l = m))) ∧ ∃ j, w' = w.drewN j := by
  subst hn; subst hk; exact I.same_any B B' A A' c c' l m hl hm w h h'
theorem spoilI_N (base : Nat) (A : Option Addr) (c : Nat) (l : List Int) (n : Nat) (hn : l.length = n) (hl : n ≤ maxLen) (w : World) (h : OwnsI 3 w base A c l) :
    Calls Try.prog 42 #[.slice A n c] w fun e w' => e = .returned (.tuple #[]) ∧ w.grownBy w' (blk A) := by
  subst hn; rw [← ownBlock_slice A l.length c]; exact spoilInts_any base A c l hl w h
/-- what the call owns stays while nothing from its base to the heap's end was written -/
theorem OwnsB.belowB {e : TypeId} {w w' : World} {base c : Nat} {A : Option Addr} {l : List Nat} (h : OwnsB e w base A c l) (hb : Below w.heap.size w w') : OwnsB e w' base A c l := h.below hb
end Go.Proofs.Ytbfbnpbonoapnaa
