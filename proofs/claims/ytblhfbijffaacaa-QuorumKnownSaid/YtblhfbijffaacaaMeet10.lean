/- The walks through layer 10's 'in' and 'meet'. -/
import Derived.Test.YtblhfbijffaacaaConf
namespace Go.Proofs.Ytblhfbijffaacaa
open Go.RowKit

set_option maxHeartbeats 400000 in
theorem lawIn_any (B : Nat) (A : Option Addr) (c : Nat) (l : List Int) (hl : l.length ≤ 100000) (x : Int) (w : World) (h : IsInts w B A l) :
    Calls Try.prog 29 #[.slice A l.length c, .int .i64 x] w fun e w' => e = .returned (.bool (decide (x ∈ l))) ∧ w' = w := by
  go_enter Try.func29, Try.ntmps29
  go_wp2
  go_loopw [5] (fun i wr => ∃ k : Nat, k ≤ l.length ∧ i = .int .i64 k ∧ wr = w ∧ Hid (x ∉ l.take k)) (fun i _ => l.length - (intOf i).toNat)
  case atStart => exact ⟨0, by omega, rfl, rfl, hid (by simp)⟩
  case round =>
    obtain ⟨k, hk, rfl, rfl, hs⟩ := hrel
    by_cases hlt : k < l.length
    · obtain ⟨b, off, rfl, _, hc⟩ := h.cells k hlt
      have hck := hc k hlt
      clear hc h
      by_cases he : l[k] = x
      · have hbe : (l[k] == x) = true := by rw [beq_iff_eq]; exact he
        have HE := hid he
        clear he
        go_wp2
        go_ret
        exact ⟨by rw [decide_eq_true (show x ∈ l by rw [← HE.out]; exact List.getElem_mem hlt)]; rfl, rfl⟩
      · have hbe : (l[k] == x) = false := by rw [beq_eq_false_iff_ne]; exact he
        have HE := hid he
        clear he
        go_wp2
        go_roundw
        case rel =>
          refine ⟨k + 1, by omega, by go_num, trivial, hid ?_⟩
          rw [List.take_succ_eq_append_getElem hlt, List.mem_append, List.mem_singleton]
          rintro (h1 | h1)
          · exact hs.out h1
          · exact HE.out h1.symm
        case measure => simp [intOf]; omega
    · obtain rfl : k = l.length := by omega
      have := hs.out
      rw [List.take_length] at this
      have HF := hid this
      clear this
      go_wp2
      go_ret
      exact ⟨by rw [decide_eq_false HF.out]; rfl, rfl⟩
/-- where there is a common number, it is found -/
theorem meet_any (B : Nat) (A A' A'' : Option Addr) (c c' c'' : Nat) (a b v : List Int) (ha : a.length ≤ 100000) (hb : b.length ≤ 100000) (hv : v.length ≤ 100000) (w : World) (h0 : IsInts w B A a) (h0' : IsInts w B A' b) (h0'' : IsInts w B A'' v) (hx : ∃ x ∈ a, x ∈ b ∧ x ∈ v) :
    Calls Try.prog 27 #[.slice A a.length c, .slice A' b.length c', .slice A'' v.length c''] w fun e w' => e = .returned (.bool true) ∧ w' = w := by
  have h := hid h0
  have h' := hid h0'
  have h'' := hid h0''
  have HX := hid hx
  clear h0 h0' h0'' hx
  go_enter Try.func27, Try.ntmps27
  go_wp2_with fail
  go_loopw [7] (fun i wr => ∃ k : Nat, k ≤ a.length ∧ i = .int .i64 k ∧ w = wr ∧ Hid (∀ x ∈ a.take k, ¬ (x ∈ b ∧ x ∈ v))) (fun i _ => a.length - (intOf i).toNat)
  case atStart => exact ⟨0, by omega, rfl, rfl, hid (by simp)⟩
  case round =>
    obtain ⟨k, hk, rfl, rfl, hs⟩ := hrel
    by_cases hlt : k < a.length
    · obtain ⟨bb, off, rfl, _, hc⟩ := h.out.cells k hlt
      have hck := hc k hlt
      have HST := hid (List.take_succ_eq_append_getElem hlt)
      obtain ⟨p, hp⟩ : ∃ p, decide (a[k] ∈ b) = p := ⟨_, rfl⟩
      obtain ⟨q, hq⟩ : ∃ q, decide (a[k] ∈ v) = q := ⟨_, rfl⟩
      have H1 := hid (lawIn_any B A' c' b hb a[k] w h'.out)
      have H2 := hid (lawIn_any B A'' c'' v hv a[k] w h''.out)
      rw [hp] at H1
      rw [hq] at H2
      have HP := hid hp
      have HQ := hid hq
      clear hc hp hq
      generalize a[k] = x at *
      cases p
      · go_wp2_with fail
        refine H1.out.mono ?_
        rintro e w1 ⟨rfl, rfl⟩
        go_wp2_with fail
        go_roundw
        case rel =>
          refine ⟨k + 1, by omega, by go_num, trivial, hid fun y hy => ?_⟩
          rw [HST.out] at hy
          rcases List.mem_append.1 hy with hy | hy
          · exact hs.out y hy
          · simp at hy
            subst hy
            exact fun hh => absurd hh.1 (of_decide_eq_false HP.out)
        case measure => simp [intOf]; omega
      · cases q
        · go_wp2_with fail
          refine H1.out.mono ?_
          rintro e w1 ⟨rfl, rfl⟩
          go_wp2_with fail
          refine H2.out.mono ?_
          rintro e w1 ⟨rfl, rfl⟩
          go_wp2_with fail
          go_roundw
          case rel =>
            refine ⟨k + 1, by omega, by go_num, trivial, hid fun y hy => ?_⟩
            rw [HST.out] at hy
            rcases List.mem_append.1 hy with hy | hy
            · exact hs.out y hy
            · simp at hy
              subst hy
              exact fun hh => absurd hh.2 (of_decide_eq_false HQ.out)
          case measure => simp [intOf]; omega
        · go_wp2_with fail
          refine H1.out.mono ?_
          rintro e w1 ⟨rfl, rfl⟩
          go_wp2_with fail
          refine H2.out.mono ?_
          rintro e w1 ⟨rfl, rfl⟩
          go_wp2_with fail
          go_ret
          exact ⟨rfl, rfl⟩
    · obtain rfl : k = a.length := by omega
      have hf := hs.out
      rw [List.take_length] at hf
      obtain ⟨x, hx1, hx2⟩ := HX.out
      exact absurd hx2 (hf x hx1)
end Go.Proofs.Ytblhfbijffaacaa
