/- The walk through the draws of the document's answer. -/
import Derived.Test.YtceecckipeeigaaDraws
import Derived.Deep.QuietTactic
import Derived.BigQuiet
namespace Go.Proofs.Ytceecckipeeigaa.Dw
open Go.RowKit

set_option maxHeartbeats 800000 in
theorem refNext_any (lo hi g : Nat) (l : List Int) (n : Nat) (hn : n < 9223372036854775807) (m : Int) (hm : InInt m) (w : World) (h : At w 30 lo hi g l n) :
    Calls Try.prog 12 #[.pointer (some ⟨g, 0, none⟩), .int .i64 m] w fun e w' =>
      e = .returned (.int .i64 (md m (nx l n))) ∧ At w' 30 lo hi g l (n + 1) ∧ w.grownBy w' (some g) := by
  have hl := h.len
  unfold maxLen at hl
  have hm1 := hm.1
  have hm2 := hm.2
  have hx := nx_in h.small n
  have HA := hid (h.counted (n + 1))
  have HG := hid (grown_setCell w g 1 (.int .i64 ((n + 1 : Nat) : Int)))
  obtain ⟨A, c, h1, h2⟩ := h.at_
  have hc0 : w.cell? ⟨g, 0, none⟩ = some (.slice A l.length c) := row_cell h1 0
  have hc1 : w.cell? ⟨g, 1, none⟩ = some (.int .i64 n) := row_cell h1 1
  have hf1 := row_free h1 1
  have HN := hid (nx_lt (l := l) (n := n))
  have HZ := hid (nx_ge (l := l) (n := n))
  rw [show ((n + 1 : Nat) : Int) = (n : Int) + 1 by omega] at HA HG
  have HA' : Hid (∀ k, At ((w.drewN k).setCell ⟨g, 1, none⟩ (.int .i64 ((n : Int) + 1))) 30 lo hi g l (n + 1)) := hid fun k => HA.out.drewN k
  have HG' : Hid (∀ k, w.grownBy ((w.drewN k).setCell ⟨g, 1, none⟩ (.int .i64 ((n : Int) + 1))) (some g)) := hid fun k => grown_drewN HG.out k
  clear HA HG
  by_cases hlt : n < l.length
  · obtain ⟨b, off, rfl, hb1, hb2, hc⟩ := h2 n hlt
    have hcn : w.cell? ⟨b, off + n, none⟩ = some (.int .i64 l[n]) := hc n hlt
    have hxn := HN.out hlt
    rw [hxn] at hx ⊢
    obtain ⟨v, hv⟩ : ∃ v, l[n] = v := ⟨_, rfl⟩
    rw [hv] at hcn hx ⊢
    have hx1 := hx.1
    have hx2 := hx.2
    have hlt' : (n : Int) < (l.length : Int) := by omega
    clear h h1 h2 hc hb1 hb2 HN HZ hxn hv
    by_cases h1 : m < 1
    · have HM : Hid (md m v = 0) := hid (if_pos h1)
      go_enter Try.func12, Try.ntmps12
      go_wp2_with fail
      go_quiet (fail)
      go_wp2_with fail
      go_quiet (fail)
      go_wp2_with fail
      go_ret
      exact ⟨ret_int (HM.out.symm), HA'.out _, HG'.out _⟩
    · have hlt2 := tmod_lt v m (by omega)
      have hm0 : m ≠ 0 := by omega
      obtain ⟨t, ht⟩ : ∃ t, v.tmod m = t := ⟨_, rfl⟩
      have HM : Hid (md m v = if t < 0 then t + m else t) := hid (by unfold md; rw [if_neg h1, ht])
      rw [ht] at hlt2
      obtain ⟨hl1, hl2⟩ := hlt2
      by_cases h2 : t < 0
      · go_enter Try.func12, Try.ntmps12
        go_wp2_with fail
        go_quiet (fail)
        go_wp2_with fail
        go_quiet (fail)
        go_wp2_with fail
        go_ret
        exact ⟨ret_int (by rw [HM.out, if_pos h2]), HA'.out _, HG'.out _⟩
      · go_enter Try.func12, Try.ntmps12
        go_wp2_with fail
        go_quiet (fail)
        go_wp2_with fail
        go_quiet (fail)
        go_wp2_with fail
        go_ret
        exact ⟨ret_int (by rw [HM.out, if_neg (by omega)]), HA'.out _, HG'.out _⟩
  · have HN0 : Hid (md m (nx l n) = 0) := hid (by rw [HZ.out (by omega)]; unfold md; split <;> simp)
    rw [HN0.out]
    have hlt' : (l.length : Int) ≤ (n : Int) := by omega
    clear h h1 h2 HN HZ hx
    by_cases h1 : m < 1
    · go_enter Try.func12, Try.ntmps12
      go_wp2_with fail
      go_quiet (fail)
      go_wp2_with fail
      go_ret
      exact ⟨rfl, HA'.out _, HG'.out _⟩
    · have hm0 : m ≠ 0 := by omega
      go_enter Try.func12, Try.ntmps12
      go_wp2_with fail
      go_quiet (fail)
      go_wp2_with fail
      go_ret
      exact ⟨rfl, HA'.out _, HG'.out _⟩
end Go.Proofs.Ytceecckipeeigaa.Dw
