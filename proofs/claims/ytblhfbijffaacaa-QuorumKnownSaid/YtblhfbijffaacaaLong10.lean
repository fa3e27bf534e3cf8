/- The walk through layer 10's 'long'. -/
import Derived.Test.YtblhfbijffaacaaConf
namespace Go.Proofs.Ytblhfbijffaacaa
open Go.RowKit

set_option maxHeartbeats 1000000 in
theorem long_any (c : Qu.Cf) (a0 a1 a2 : Option Addr) (k0 k1 k2 : Nat) (w : World) (h0 : c.old.length ≤ maxLen) (h1 : c.new.length ≤ maxLen) (h2 : c.lrn.length ≤ maxLen) (b : Bool) (hb : b = false ↔ Short c) :
    Calls Try.prog 9 #[.agg #[.slice a0 c.old.length k0, .slice a1 c.new.length k1, .slice a2 c.lrn.length k2]] w fun e w' => e = .returned (.bool b) ∧ Below w.heap.size w w' := by
  have HB := hid ((Below.refl w.heap.size w).alloc (Nat.le_refl _) (.cells #[.slice a0 c.old.length k0, .slice a1 c.new.length k1, .slice a2 c.lrn.length k2] 24))
  unfold maxLen at h0 h1 h2
  have HS0 := hid hb
  clear hb
  have HS : Hid (Short c ↔ c.old.length ≤ 300 ∧ c.new.length ≤ 300 ∧ c.lrn.length ≤ 300) := hid Iff.rfl
  by_cases e0 : c.old.length ≤ 300
  · have e0' : ¬ (300 : Int) < (c.old.length : Int) := by omega
    by_cases e1 : c.new.length ≤ 300
    · have e1' : ¬ (300 : Int) < (c.new.length : Int) := by omega
      by_cases e2 : c.lrn.length ≤ 300
      · have e2' : ¬ (300 : Int) < (c.lrn.length : Int) := by omega
        obtain rfl : b = false := HS0.out.2 (HS.out.2 ⟨e0, e1, e2⟩)
        clear e0 e1 e2
        go_enter Try.func9, Try.ntmps9
        go_wp2
        go_ret
        exact ⟨rfl, HB.out⟩
      · have e2' : (300 : Int) < (c.lrn.length : Int) := by omega
        obtain rfl : b = true := by cases b with | true => rfl | false => exact absurd (HS.out.1 (HS0.out.1 rfl)).2.2 e2
        clear e0 e1 e2
        go_enter Try.func9, Try.ntmps9
        go_wp2
        go_ret
        exact ⟨rfl, HB.out⟩
    · have e1' : (300 : Int) < (c.new.length : Int) := by omega
      obtain rfl : b = true := by cases b with | true => rfl | false => exact absurd (HS.out.1 (HS0.out.1 rfl)).2.1 e1
      clear e0 e1
      go_enter Try.func9, Try.ntmps9
      go_wp2
      go_ret
      exact ⟨rfl, HB.out⟩
  · have e0' : (300 : Int) < (c.old.length : Int) := by omega
    obtain rfl : b = true := by cases b with | true => rfl | false => exact absurd (HS.out.1 (HS0.out.1 rfl)).1 e0
    clear e0
    go_enter Try.func9, Try.ntmps9
    go_wp2
    go_ret
    exact ⟨rfl, HB.out⟩
end Go.Proofs.Ytblhfbijffaacaa
