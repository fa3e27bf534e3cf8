/- SameInts once more: the lists' lengths said apart. -/
import Derived.Test.YtblhfbijffaacaaKitIntEq
namespace Go.Proofs.Ytblhfbijffaacaa
open Go.RowKit

theorem sameI_N (B B' : Nat) (A A' : Option Addr) (c c' : Nat) (l m : List Int) (n k : Nat) (hn : l.length = n) (hk : m.length = k) (hl : n ≤ maxLen) (hm : k ≤ maxLen) (w : World) (h : IsInts w B A l) (h' : IsInts w B' A' m) :
    Calls Try.prog 19 #[.slice A n c, .slice A' k c'] w fun e w' => e = .returned (.bool (decide (l = m))) ∧ ∃ j, w' = w.drewN j := by
  subst hn; subst hk; exact I.same_any B B' A A' c c' l m hl hm w h h'
theorem sameI_T {w : World} {B B' : Nat} {A A' : Option Addr} {c c' n m : Nat} {l l' : List Int} (hn : l.length = n) (hm : l'.length = m) (hn2 : n ≤ 100000) (he : l' = l) (h : IsInts w B A l) (h' : IsInts w B' A' l') :
    Calls Try.prog 19 #[.slice A n c, .slice A' m c'] w fun e w' => e = .returned (.bool true) ∧ ∃ j, w' = w.drewN j := by
  have hm2 : m ≤ 100000 := by rw [← hm, he, hn]; exact hn2
  have := sameI_N B B' A A' c c' l l' n m hn hm (by unfold maxLen; omega) (by unfold maxLen; omega) w h h'
  rw [show decide (l = l') = true from decide_eq_true he.symm] at this
  exact this
end Go.Proofs.Ytblhfbijffaacaa
