/- The walks through the small functions of layer 4's statements: long, in. -/
import Derived.Test.YtbfbnpbonoapnaaOps
namespace Go.Proofs.Ytbfbnpbonoapnaa
open Go.RowKit

namespace Sx
def big (t : Op) : Bool := decide (1024 < t.data.length) || decide (1024 < t.lst.length)
def long (ts : List Op) : Bool := decide (200 < ts.length) || ts.any big
theorem long_iff {ts : List Op} : long ts = false ↔ ts.length ≤ 200 ∧ ∀ t ∈ ts, t.data.length ≤ 1024 ∧ t.lst.length ≤ 1024 := by
  simp [long, big, Nat.not_lt]
end Sx

set_option maxRecDepth 100000 in
theorem long_any (B : Nat) (A : Option Addr) (c : Nat) (ts : List Sx.Op) (w : World) (h : IsOps w B A ts) :
    Calls Try.prog 8 #[.slice A ts.length c] w fun e w' => e = .returned (.bool (Sx.long ts)) ∧ ∃ n, w' = w.drewN n := by
  by_cases h0 : 200 < ts.length
  · have e : Sx.long ts = true := by simp [Sx.long, h0]
    rw [e]
    clear e
    go_enter Try.func8, Try.ntmps8
    go_wp2
    go_ret
    exact ⟨rfl, 0, rfl⟩
  · go_enter Try.func8, Try.ntmps8
    go_wp2_with fail
    go_loopw [3] (fun i wr => ∃ k : Nat, k ≤ ts.length ∧ i = .int .i64 k ∧ Hid (∀ t ∈ ts.take k, Sx.big t = false) ∧ ∃ n, wr = w.drewN n) (fun i _ => ts.length - (RowKit.intOf i).toNat)
    case atStart => exact ⟨0, by omega, rfl, hid (by simp), 0, rfl⟩
    case round =>
      obtain ⟨k, hk, rfl, hS, n, rfl⟩ := hrel
      obtain ⟨w9, hw9⟩ : ∃ w9, w9 = w.drewN n := ⟨_, rfl⟩
      rw [← hw9]
      have H9 := hid hw9
      by_cases hlt : k < ts.length
      · have hops : IsOps w9 B A ts := by rw [hw9]; exact h.drewN n
        clear hw9
        obtain ⟨b, off, rfl, _, hc⟩ := hops.cells k hlt
        obtain ⟨ap, cp, al, cl, c0, c1, c2, c3, c4, _, _, _⟩ := hc k hlt
        have hk0 : (k : Int) < (ts.length : Int) := by omega
        clear hc hops
        by_cases h1 : 1024 < ts[k].data.length
        · have e : Sx.long ts = true := by
            unfold Sx.long
            rw [Bool.or_eq_true, List.any_eq_true]
            exact .inr ⟨ts[k], List.getElem_mem _, by simp [Sx.big, h1]⟩
          have h1' : (1024 : Int) < (ts[k].data.length : Int) := by omega
          have HE := hid e
          clear e h1 h
          go_wp2
          go_ret
          rw [HE.out]
          exact ⟨rfl, n, H9.out⟩
        · have h1' : ¬ (1024 : Int) < (ts[k].data.length : Int) := by omega
          by_cases h2 : 1024 < ts[k].lst.length
          · have e : Sx.long ts = true := by
              unfold Sx.long
              rw [Bool.or_eq_true, List.any_eq_true]
              exact .inr ⟨ts[k], List.getElem_mem _, by simp [Sx.big, h2]⟩
            have h2' : (1024 : Int) < (ts[k].lst.length : Int) := by omega
            have HE := hid e
            clear e h1 h2 h
            go_wp2
            go_ret
            rw [HE.out]
            exact ⟨rfl, n, H9.out⟩
          · have h2' : ¬ (1024 : Int) < (ts[k].lst.length : Int) := by omega
            have hS' : ∀ t ∈ ts.take (k + 1), Sx.big t = false := by
              intro t ht
              rw [List.take_succ_eq_append_getElem hlt] at ht
              rcases List.mem_append.1 ht with ht | ht
              · exact hS.out t ht
              · rw [List.mem_singleton.1 ht]; simp [Sx.big]; omega
            have HS := hid hS'
            clear hS' h1 h2 h
            go_wp2
            go_roundw
            case rel => exact ⟨k + 1, by omega, by go_num, HS, n, H9.out⟩
            case measure => simp [RowKit.intOf]; omega
      · obtain rfl : k = ts.length := by omega
        have e : Sx.long ts = false := by
          unfold Sx.long
          have := hS.out
          rw [List.take_length] at this
          rw [Bool.or_eq_false_iff]
          exact ⟨decide_eq_false h0, List.any_eq_false.2 fun t ht => by simp [this t ht]⟩
        have HE := hid e
        clear e hw9 h
        go_wp2
        go_ret
        rw [HE.out]
        exact ⟨rfl, n, H9.out⟩
theorem in_any (B : Nat) (A : Option Addr) (c : Nat) (l : List Int) (n : Nat) (hn : l.length = n) (hl : n ≤ 100000) (x : Int) (w : World) (h : IsInts w B A l) :
    Calls Try.prog 25 #[.slice A n c, .int .i64 x] w fun e w' => e = .returned (.bool (decide (x ∈ l))) ∧ ∃ j, w' = w.drewN j := by
  subst hn
  go_enter Try.func25, Try.ntmps25
  go_wp2_with fail
  go_loopw [5] (fun i wr => ∃ k : Nat, k ≤ l.length ∧ i = .int .i64 k ∧ Hid (∀ y ∈ l.take k, y ≠ x) ∧ wr = w) (fun i _ => l.length - (RowKit.intOf i).toNat)
  case atStart => exact ⟨0, by omega, rfl, hid (by simp), rfl⟩
  case round =>
    obtain ⟨k, hk, rfl, hS, rfl⟩ := hrel
    by_cases hlt : k < l.length
    · obtain ⟨b, off, rfl, _, hc⟩ := h.cells k hlt
      have hck := hc k hlt
      have hk0 : (k : Int) < (l.length : Int) := by omega
      clear hc h
      by_cases h1 : l[k] = x
      · have e : decide (x ∈ l) = true := decide_eq_true (by rw [← h1]; exact List.getElem_mem _)
        rw [h1] at hck
        have HE := hid e
        clear e h1
        go_wp2
        go_ret
        rw [HE.out]
        exact ⟨rfl, 0, rfl⟩
      · have hS' : ∀ y ∈ l.take (k + 1), y ≠ x := by
          intro y hy
          rw [List.take_succ_eq_append_getElem hlt] at hy
          rcases List.mem_append.1 hy with hy | hy
          · exact hS.out y hy
          · rw [List.mem_singleton.1 hy]; exact h1
        have HS := hid hS'
        clear hS'
        go_wp2
        go_roundw
        case rel => exact ⟨k + 1, by omega, by go_num, HS, trivial⟩
        case measure => simp [RowKit.intOf]; omega
    · obtain rfl : k = l.length := by omega
      have e : decide (x ∈ l) = false := decide_eq_false (fun hm => by
        have := hS.out
        rw [List.take_length] at this
        exact this x hm rfl)
      have HE := hid e
      clear e h
      go_wp2
      go_ret
      rw [HE.out]
      exact ⟨rfl, 0, rfl⟩
end Go.Proofs.Ytbfbnpbonoapnaa
