/- The walks through a checkpoint's small functions. -/
import Derived.Test.YtdgijnolpjaheaaDiskC
import Derived.Test.YtdgijnolpjaheaaPackInt
import Derived.Test.YtdgijnolpjaheaaCkRd
namespace Go.Proofs.Ytdgijnolpjaheaa
open Go.RowKit

namespace Ck
/-- may an area be? -/
def Right (N : Nat) (f n : Int) : Prop := 0 ≤ f ∧ 1 ≤ n ∧ f + 2 * n ≤ N
instance (N : Nat) (f n : Int) : Decidable (Right N f n) := by unfold Right; infer_instance
def Epoch (e : Int) : Prop := 1 ≤ e ∧ e ≤ 1099511627776
instance (e : Int) : Decidable (Epoch e) := by unfold Epoch; infer_instance
end Ck
namespace C
theorem half (a : Int) : (0 ≤ a ∧ a.tdiv 2 = a / 2) ∨ (a < 0 ∧ a.tdiv 2 = -((-a) / 2)) := by
  by_cases h : 0 ≤ a
  · exact .inl ⟨h, Int.tdiv_eq_ediv_of_nonneg h⟩
  · obtain ⟨k, rfl⟩ : ∃ k, a = -k := ⟨-a, by omega⟩
    refine .inr ⟨by omega, ?_⟩
    rw [Int.neg_tdiv, Int.tdiv_eq_ediv_of_nonneg (by omega), Int.neg_neg]
set_option maxRecDepth 100000 in
theorem valid_any (Z : Nat → Prop) (d : Dk) (s : Sx.St) (f n : Int) (hf : InInt f) (w : World) (h : DiskAt w Z d s) :
    Calls Try.prog 29 #[.pointer (some ⟨d.g, 0, none⟩), .int .i64 f, .int .i64 n] w fun e' w' => e' = .returned (.bool (decide (Ck.Right s.n f n))) ∧ w' = w := by
  have hb := h.bound
  have HF := hid hf
  unfold InInt at hf
  by_cases h1 : 0 ≤ f
  · by_cases h2 : 1 ≤ n
    · have hw : IntKind.i64.wrap ((s.n : Int) - f) = (s.n : Int) - f := by rw [IntKind.wrap_i64]; omega
      have HL := hid (len_any Z d s w h)
      have hh := half ((s.n : Int) - f)
      have hq1 : -9223372036854775808 ≤ ((s.n : Int) - f).tdiv 2 := by omega
      have hq2 : ((s.n : Int) - f).tdiv 2 ≤ 9223372036854775807 := by omega
      by_cases h3 : n ≤ ((s.n : Int) - f).tdiv 2
      · have hq : f + 2 * n ≤ s.n := by
          omega
        have HE : Hid (decide (Ck.Right s.n f n) = true) := hid (decide_eq_true ⟨h1, h2, hq⟩)
        rw [HE.out]
        clear h hf hb hq hh
        go_enter Try.func29, Try.ntmps29
        go_wp2_with fail
        refine HL.out.mono ?_
        rintro e1 w1 ⟨rfl, rfl⟩
        go_wp2
        go_ret
        exact ⟨rfl, rfl⟩
      · have hq : ¬ f + 2 * n ≤ s.n := fun _ => h3 (by omega)
        have HE : Hid (decide (Ck.Right s.n f n) = false) := hid (decide_eq_false (fun hh => hq hh.2.2))
        rw [HE.out]
        clear h hf hb hq hh
        go_enter Try.func29, Try.ntmps29
        go_wp2_with fail
        refine HL.out.mono ?_
        rintro e1 w1 ⟨rfl, rfl⟩
        go_wp2
        go_ret
        exact ⟨by simp [h3], rfl⟩
    · have HE : Hid (decide (Ck.Right s.n f n) = false) := hid (decide_eq_false (fun hh => h2 hh.2.1))
      rw [HE.out]
      clear h hf hb
      go_enter Try.func29, Try.ntmps29
      go_wp2
      go_ret
      exact ⟨rfl, rfl⟩
  · have HE : Hid (decide (Ck.Right s.n f n) = false) := hid (decide_eq_false (fun hh => h1 hh.1))
    rw [HE.out]
    clear h hf hb
    go_enter Try.func29, Try.ntmps29
    go_wp2
    go_ret
    exact ⟨rfl, rfl⟩
theorem epoch_any (e : Int) (w : World) :
    Calls Try.prog 30 #[.int .i64 e] w fun e' w' => e' = .returned (.bool (decide (Ck.Epoch e))) ∧ w' = w := by
  by_cases h1 : 1 ≤ e
  · by_cases h2 : e ≤ 1099511627776
    · rw [decide_eq_true (show Ck.Epoch e from ⟨h1, h2⟩)]
      go_enter Try.func30, Try.ntmps30
      go_wp2
      go_ret
      exact ⟨rfl, rfl⟩
    · rw [decide_eq_false (show ¬ Ck.Epoch e from fun h => h2 h.2)]
      go_enter Try.func30, Try.ntmps30
      go_wp2
      go_ret
      exact ⟨rfl, rfl⟩
  · rw [decide_eq_false (show ¬ Ck.Epoch e from fun h => h1 h.1)]
    go_enter Try.func30, Try.ntmps30
    go_wp2
    go_ret
    exact ⟨rfl, rfl⟩
theorem slot_any (e : Int) (he : Ck.Epoch e) (w : World) :
    Calls Try.prog 32 #[.int .i64 e] w fun e' w' => e' = .returned (.int .i64 (e % 2)) ∧ w' = w := by
  obtain ⟨k, rfl⟩ := Int.eq_ofNat_of_zero_le (show 0 ≤ e by have := he.1; omega)
  have h2 := he.2
  clear he
  go_enter Try.func32, Try.ntmps32
  go_wp2
  go_ret
  exact ⟨rfl, rfl⟩
theorem pieces_any (k : Nat) (hk : k ≤ 140737488355328) (w : World) :
    Calls Try.prog 31 #[.int .i64 (k : Int)] w fun e w' => e = .returned (.int .i64 (Jo.secs k : Nat)) ∧ w' = w := by
  have he : ((Jo.secs k : Nat) : Int) = max 1 (((k : Int) + 40 - 1) / 40) := by
    unfold Jo.secs; omega
  have HE := hid he
  clear he
  go_enter Try.func31, Try.ntmps31
  go_wp2
  go_ret
  rw [HE.out]
  refine ⟨?_, rfl⟩
  simp
theorem mark_any (i : Nat) (b : Bool) (hi : i ≤ 1000000) (w : World) :
    Calls Try.prog 50 #[.int .i64 (i : Int), .bool b] w fun e w' => e = .returned (.int .i64 (Jo.mark i b : Nat)) ∧ w' = w := by
  cases b
  · go_enter Try.func50, Try.ntmps50
    go_wp2
    go_ret
    simp [Jo.mark]
  · go_enter Try.func50, Try.ntmps50
    go_wp2
    go_ret
    simp [Jo.mark]
end C
end Go.Proofs.Ytdgijnolpjaheaa
