/- The walks through a journal's small functions. -/
import Derived.Test.YtomnbaeokmpobaaDiskC
import Derived.Test.YtomnbaeokmpobaaPackInt
import Derived.Test.YtomnbaeokmpobaaJoMath
namespace Go.Proofs.Ytomnbaeokmpobaa
open Go.RowKit

namespace Jo
/-- may an area and an epoch be? -/
def Right (N : Nat) (f n e : Int) : Prop := 0 ≤ f ∧ 1 ≤ n ∧ n ≤ N - f ∧ 1 ≤ e ∧ e ≤ 1099511627776
instance (N : Nat) (f n e : Int) : Decidable (Right N f n e) := by unfold Right; infer_instance
end Jo
namespace J
set_option maxRecDepth 100000 in
theorem valid_any (Z : Nat → Prop) (d : Dk) (s : Sx.St) (f n e : Int) (hf : InInt f) (w : World) (h : DiskAt w Z d s) :
    Calls Try.prog 23 #[.pointer (some ⟨d.g, 0, none⟩), .int .i64 f, .int .i64 n, .int .i64 e] w fun e' w' => e' = .returned (.bool (decide (Jo.Right s.n f n e))) ∧ w' = w := by
  have hb := h.bound
  have HF := hid hf
  unfold InInt at hf
  by_cases h1 : 0 ≤ f
  · by_cases h2 : 1 ≤ n
    · have hw : IntKind.i64.wrap ((s.n : Int) - f) = (s.n : Int) - f := by rw [IntKind.wrap_i64]; omega
      have HL := hid (len_any Z d s w h)
      by_cases h3 : n ≤ (s.n : Int) - f
      · by_cases h4 : 1 ≤ e
        · by_cases h5 : e ≤ 1099511627776
          · have HE : Hid (decide (Jo.Right s.n f n e) = true) := hid (decide_eq_true ⟨h1, h2, h3, h4, h5⟩)
            rw [HE.out]
            clear h hf hb
            go_enter Try.func23, Try.ntmps23
            go_wp2_with fail
            refine HL.out.mono ?_
            rintro e1 w1 ⟨rfl, rfl⟩
            go_wp2
            go_ret
            exact ⟨rfl, rfl⟩
          · have HE : Hid (decide (Jo.Right s.n f n e) = false) := hid (decide_eq_false (fun hh => h5 hh.2.2.2.2))
            rw [HE.out]
            clear h hf hb
            go_enter Try.func23, Try.ntmps23
            go_wp2_with fail
            refine HL.out.mono ?_
            rintro e1 w1 ⟨rfl, rfl⟩
            go_wp2
            go_ret
            exact ⟨by simp [h5], rfl⟩
        · have HE : Hid (decide (Jo.Right s.n f n e) = false) := hid (decide_eq_false (fun hh => h4 hh.2.2.2.1))
          rw [HE.out]
          clear h hf hb
          go_enter Try.func23, Try.ntmps23
          go_wp2_with fail
          refine HL.out.mono ?_
          rintro e1 w1 ⟨rfl, rfl⟩
          go_wp2
          go_ret
          exact ⟨rfl, rfl⟩
      · have HE : Hid (decide (Jo.Right s.n f n e) = false) := hid (decide_eq_false (fun hh => h3 hh.2.2.1))
        rw [HE.out]
        clear h hf hb
        go_enter Try.func23, Try.ntmps23
        go_wp2_with fail
        refine HL.out.mono ?_
        rintro e1 w1 ⟨rfl, rfl⟩
        go_wp2
        go_ret
        exact ⟨rfl, rfl⟩
    · have HE : Hid (decide (Jo.Right s.n f n e) = false) := hid (decide_eq_false (fun hh => h2 hh.2.1))
      rw [HE.out]
      clear h hf hb
      go_enter Try.func23, Try.ntmps23
      go_wp2
      go_ret
      exact ⟨rfl, rfl⟩
  · have HE : Hid (decide (Jo.Right s.n f n e) = false) := hid (decide_eq_false (fun hh => h1 hh.1))
    rw [HE.out]
    clear h hf hb
    go_enter Try.func23, Try.ntmps23
    go_wp2
    go_ret
    exact ⟨rfl, rfl⟩
theorem sectors_any (k : Nat) (hk : k ≤ 140737488355328) (w : World) :
    Calls Try.prog 26 #[.int .i64 (k : Int)] w fun e w' => e = .returned (.int .i64 (Jo.secs k : Nat)) ∧ w' = w := by
  have he : ((Jo.secs k : Nat) : Int) = max 1 (((k : Int) + 40 - 1) / 40) := by
    unfold Jo.secs; omega
  have HE := hid he
  clear he
  go_enter Try.func26, Try.ntmps26
  go_wp2
  go_ret
  rw [HE.out]
  refine ⟨?_, rfl⟩
  simp
theorem mark_any (i : Nat) (b : Bool) (hi : i ≤ 1000000) (w : World) :
    Calls Try.prog 38 #[.int .i64 (i : Int), .bool b] w fun e w' => e = .returned (.int .i64 (Jo.mark i b : Nat)) ∧ w' = w := by
  cases b
  · go_enter Try.func38, Try.ntmps38
    go_wp2
    go_ret
    simp [Jo.mark]
  · go_enter Try.func38, Try.ntmps38
    go_wp2
    go_ret
    simp [Jo.mark]
theorem head_any (e n m : Int) (he : InInt e) (hn : InInt n) (hm : InInt m) (w : World) :
    Calls Try.prog 28 #[.int .i64 e, .int .i64 n, .int .i64 m] w fun e' w' => ∃ A c, e' = .returned (.slice A 24 c) ∧ OwnsB 5 w' w.heap.size A c (Jo.head e n m) ∧ Below w.heap.size w w' := by
  have H1 := hid (packInt_any w.heap.size none 0 [] e he (by simp) w IsBytes.nil (Nat.le_refl _) (fun _ => rfl))
  have HN := hid hn
  have HM := hid hm
  clear he hn hm
  go_enter Try.func28, Try.ntmps28
  go_wp2_with fail
  refine H1.out.mono ?_
  rintro e1 w1 ⟨A1, c1, rfl, hown1, hb1⟩
  have Hb1 := hid hb1
  have H2 := hid (packInt_any w1.heap.size A1 c1 ([] ++ Pk.enc e) n HN.out (by simp [Pk.enc_length]) w1 hown1.reads (Nat.le_refl _) hown1.none_)
  clear hb1 hown1
  go_wp2_with fail
  refine H2.out.mono ?_
  rintro e2 w2 ⟨A2, c2, rfl, hown2, hb2⟩
  have Hb2 := hid (Hb1.out.trans (hb2.mono Hb1.out.size))
  have H3 := hid (packInt_any w2.heap.size A2 c2 ([] ++ Pk.enc e ++ Pk.enc n) m HM.out (by simp [Pk.enc_length]) w2 hown2.reads (Nat.le_refl _) hown2.none_)
  clear hb2 hown2
  go_wp2_with fail
  refine H3.out.mono ?_
  rintro e3 w3 ⟨A3, c3, rfl, hown3, hb3⟩
  have HO := hid (And.intro (hown3.weaken (base' := w.heap.size) Hb2.out.size) (Hb2.out.trans (hb3.mono Hb2.out.size)))
  clear hb3 hown3
  go_wp2
  go_ret
  exact ⟨A3, c3, rfl, HO.out.1, HO.out.2⟩
end J
end Go.Proofs.Ytomnbaeokmpobaa
