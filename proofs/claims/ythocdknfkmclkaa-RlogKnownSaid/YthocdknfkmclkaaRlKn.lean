/- The walks through the statements' own small functions of layer 11: right, terms. -/
import Derived.Test.YthocdknfkmclkaaRlA
import Derived.Test.YthocdknfkmclkaaBigEn
import Derived.Test.YthocdknfkmclkaaKitEq
import Derived.Deep.RegionHeld3
namespace Go.Proofs.Ythocdknfkmclkaa
open Go.RowKit

/-- may a log be, with few entries? -/
def fits (g : Rl.Lg) : Bool := decide (0 ≤ g.base) && decide (g.base ≤ 1099511627776) && decide (0 ≤ g.term) && decide (g.term ≤ 1099511627776) && !(big g.es 2000 65536)
theorem fits_ok {g : Rl.Lg} (h : fits g = true) : Rl.Ok g ∧ Rl.Few g.es ∧ g.es.length ≤ 2000 := by
  unfold fits at h
  simp only [Bool.and_eq_true, decide_eq_true_iff, Bool.not_eq_true'] at h
  obtain ⟨⟨⟨⟨h0, h1⟩, h2⟩, h3⟩, h4⟩ := h
  have := big_few h4
  exact ⟨⟨⟨h0, by omega⟩, trivial, by omega⟩, this.2, this.1⟩

set_option maxHeartbeats 1600000 in
set_option maxRecDepth 100000 in
theorem right_any (B : Nat) (g : Rl.Lg) (A : Option Addr) (c : Nat) (w : World) (h : IsEnts w B A g.es) (hB : B ≤ w.heap.size) :
    Calls Try.prog 9 #[.agg #[.int .i64 g.base, .int .i64 g.term, .slice A g.es.length c]] w fun e w' => e = .returned (.bool (fits g)) ∧ Below w.heap.size w w' := by
  have hb1 : Below w.heap.size w (w.alloc (.cells #[.int .i64 g.base, .int .i64 g.term, .slice A g.es.length c] 24)) := (Below.refl _ w).alloc (Nat.le_refl _) _
  have HC := hid (big_any w.heap.size A c g.es.length g.es rfl 2000 65536 (by omega) (by omega) _ ((h.more hB).below hb1))
  have HB := hid hb1
  clear h hb1
  have HE : Hid (fits g = (decide (0 ≤ g.base) && decide (g.base ≤ 1099511627776) && decide (0 ≤ g.term) && decide (g.term ≤ 1099511627776) && !(big g.es 2000 65536))) := hid rfl
  generalize big g.es 2000 65536 = bg at HC HE
  rw [HE.out]
  clear HE
  by_cases h1 : 0 ≤ g.base
  · by_cases h2 : g.base ≤ 1099511627776
    · by_cases h3 : 0 ≤ g.term
      · by_cases h4 : g.term ≤ 1099511627776
        · cases bg <;>
          (go_enter Try.func9, Try.ntmps9
           go_wp2_with fail
           refine HC.out.mono ?_
           rintro e w2 ⟨rfl, hw2⟩
           subst hw2
           go_wp2_with fail
           go_ret
           exact ⟨ret_b (by simp [*]), HB.out⟩)
        · go_enter Try.func9, Try.ntmps9
          go_wp2_with fail
          go_ret
          exact ⟨ret_b (by simp; omega), HB.out⟩
      · go_enter Try.func9, Try.ntmps9
        go_wp2_with fail
        go_ret
        exact ⟨ret_b (by simp; omega), HB.out⟩
    · go_enter Try.func9, Try.ntmps9
      go_wp2_with fail
      go_ret
      exact ⟨ret_b (by simp; omega), HB.out⟩
  · go_enter Try.func9, Try.ntmps9
    go_wp2_with fail
    go_ret
    exact ⟨ret_b (by simp; omega), HB.out⟩
end Go.Proofs.Ythocdknfkmclkaa
