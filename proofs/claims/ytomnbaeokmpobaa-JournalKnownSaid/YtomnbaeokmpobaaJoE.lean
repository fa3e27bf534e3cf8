/- The walk through what yields a record's pieces, one by one. -/
import Derived.Test.YtomnbaeokmpobaaJoD
namespace Go.Proofs.Ytomnbaeokmpobaa
open Go.RowKit

attribute [local go_sem] Oper.semAt_some

namespace J
/-- what is left of n bytes at A, of capacity c, behind i pieces -/
def restV (A : Option Addr) (n c i : Nat) : Value :=
  match A with
  | none => .slice none (n - 40 * i) (c - 40 * i)
  | some a => .slice (some ⟨a.block, a.off + 40 * i, a.spot⟩) (n - 40 * i) (c - 40 * i)
/-- piece i -/
def pieceV (A : Option Addr) (n c i : Nat) : Value :=
  match A with
  | none => .slice none (min 40 (n - 40 * i)) (c - 40 * i)
  | some a => .slice (some ⟨a.block, a.off + 40 * i, a.spot⟩) (min 40 (n - 40 * i)) (c - 40 * i)
theorem restV_zero (A : Option Addr) (n c : Nat) : restV A n c 0 = .slice A n c := by
  unfold restV; rcases A with _ | a <;> simp
def pieceE (A : Option Addr) (n c : Nat) (i : Fin (Jo.secs n)) : Array Value := #[.int .i64 ((Jo.mark i.1 (decide (i.1 + 1 = Jo.secs n)) : Nat) : Int), pieceV A n c i.1]
def upto {m : Nat} (k : Nat) : List (Fin m) := (List.finRange m).take k
theorem upto_succ {m : Nat} (k : Nat) (h : k < m) : (upto (k + 1) : List (Fin m)) = upto k ++ [⟨k, h⟩] := by
  unfold upto
  rw [List.take_succ_eq_append_getElem (by simpa using h)]
  simp
theorem upto_length {m : Nat} (k : Nat) (h : k ≤ m) : (upto k : List (Fin m)).length = k := by simp [upto, h]
theorem upto_all {m : Nat} : (upto m : List (Fin m)) = List.finRange m := by
  unfold upto; rw [List.take_of_length_le (by simp)]

set_option maxRecDepth 100000 in
set_option maxHeartbeats 2000000 in
theorem pieces1_in (kk l Bx : Nat) (A : Option Addr) (n c : Nat) (hn : n ≤ 1000000) (hc : n ≤ c) (hcm : c ≤ maxLen) (hA : 40 < n → ∃ b off, A = some ⟨b, off, none⟩) (J Jx : List (Fin (Jo.secs n)) → World → Prop)
    (hY : ∀ pre x W, J pre W → pre.length < Jo.secs n → YieldAt Fence.wide kk Try.prog l (pieceE A n c x) W fun e W' => ∃ b : Bool, e = .returned (.bool b) ∧ ((b = true ∧ J (pre ++ [x]) W') ∨ (b = false ∧ Jx (pre ++ [x]) W')))
    (hJd : ∀ s W, J s W → J s W.drew) (W : World) (hB : W.cell? ⟨Bx, 0, none⟩ = some (.slice A n c)) (h0 : J [] W) :
    CallsIn Fence.wide (kk + 1) Try.prog 39 #[.func (.yield l) #[] #[], .pointer (some ⟨Bx, 0, none⟩)] W fun e W' => (∃ v, e = .returned v) ∧
      ((∃ ys, ys = List.finRange (Jo.secs n) ∧ J ys W') ∨ (∃ k, k ≤ Jo.secs n ∧ Jx (upto k) W')) := by
  have hmix : Try.prog.follows .mixedOrders = true := by kernel_rfl
  have hpos := Jo.secs_pos n
  unfold maxLen at hcm
  have HY := hid hY
  have HJ := hid h0
  have HD := hid hJd
  clear hY h0 hJd
  refine callsIn_of_wp Try.func39 rfl trivial ?_
  simp only [Try.ntmps39, List.size_toArray, List.length_cons, List.length_nil, Nat.reduceAdd, Nat.reduceSub, Array.replicate_succ, Array.replicate_zero, List.push_toArray, List.append_toArray, List.nil_append, List.cons_append]
  gi_wp2
  gi_region
  gi_wp2
  gi_loopw [3, 4] (fun i r wr => ∃ k : Nat, k < Jo.secs n ∧ i = .int .i64 k ∧ r = restV A n c k ∧ Hid (J (upto k) wr)) (fun i _ _ => Jo.secs n - (intOf i).toNat)
  case atStart => exact ⟨0, hpos, rfl, (restV_zero A n c).symm, hid (HD.out _ _ HJ.out)⟩
  case round =>
    obtain ⟨k, hk, rfl, rfl, hJk⟩ := hrel
    by_cases hgt : 40 < n - 40 * k
    · have hk1 : k + 1 < Jo.secs n := by unfold Jo.secs; omega
      obtain ⟨b, off, rfl⟩ := hA (by omega)
      have hm : decide (k + 1 = Jo.secs n) = false := decide_eq_false (by omega)
      have hmin : min 40 (n - 40 * k) = 40 := by omega
      obtain ⟨fn, tmps, assign, body, hy, hR⟩ := HY.out (upto k) ⟨k, hk⟩ wr.drew (HD.out _ _ hJk.out) (by rw [upto_length k (by omega)]; exact hk)
      have hg : (40 : Int) < ((n - 40 * k : Nat) : Int) := by omega
      simp only [pieceE, pieceV, hm, hmin] at hy
      have HR := hid hR
      have HMk := hid (fun w' => mark_any k false (by unfold Jo.secs at hk; omega) w')
      have hcap : 40 ≤ c - 40 * k := by omega
      have HK := hid (And.intro hk1 hgt)
      clear hR hA hm hmin
      unfold restV
      gi_wp2
      gi_region_with_o (first
        | (refine ⟨trivial, ?_⟩; gi_at_call 38; refine (callsIn_wide.2 (HMk.out _)).mono ?_; rintro e1 w1 ⟨rfl, rfl⟩)
        | (refine HR.out.mono ?_; rintro e3 W3 ⟨b3, rfl, h3⟩))
      all_goals
        have hK := HK.out
        clear hy
        rcases h3 with ⟨rfl, h3⟩ | ⟨rfl, h3⟩
        · have HJ3 := hid h3
          clear h3
          gi_wp2
          go_roundw
          case rel =>
            refine ⟨k + 1, hK.1, by go_num, ?_, hid (by rw [upto_succ k hk]; exact HJ3.out)⟩
            congr 1
          case measure => simp [intOf]; omega
        · have HJ3 := hid h3
          clear h3
          gi_wp2
          refine bodyPost_ret (results_none rfl _ _ _) rfl ?_
          exact ⟨⟨_, rfl⟩, .inr ⟨k + 1, by omega, by rw [upto_succ k hk]; exact HJ3.out⟩⟩
    · have hk1 : k + 1 = Jo.secs n := by unfold Jo.secs at hk ⊢; omega
      have hm : decide (k + 1 = Jo.secs n) = true := decide_eq_true hk1
      have hmin : min 40 (n - 40 * k) = n - 40 * k := by omega
      obtain ⟨fn, tmps, assign, body, hy, hR⟩ := HY.out (upto k) ⟨k, hk⟩ wr hJk.out (by rw [upto_length k (by omega)]; exact hk)
      have hg : ¬ (40 : Int) < ((n - 40 * k : Nat) : Int) := by omega
      have HMk := hid (fun w' => mark_any k true (by unfold Jo.secs at hk; omega) w')
      have HK := hid hk1
      have HR := hid hR
      clear hR hA hmin
      rcases A with _ | ⟨b, off, sp⟩
      · simp only [pieceE, pieceV, hm] at hy
        rw [show min 40 (n - 40 * k) = n - 40 * k from by omega] at hy
        clear hm
        unfold restV
        gi_wp2_with (refine ⟨trivial, ?_⟩; gi_at_call 38; refine (callsIn_wide.2 (HMk.out _)).mono ?_; rintro e1 w1 ⟨rfl, rfl⟩)
        refine HR.out.mono ?_
        rintro e3 W3 ⟨b3, rfl, h3⟩
        have H3 := hid h3
        clear hy h3
        gi_wp2
        go_end0
        rcases H3.out with ⟨_, h3⟩ | ⟨_, h3⟩
        · exact ⟨⟨_, rfl⟩, .inl ⟨_, rfl, by rw [← upto_succ k hk, HK.out, upto_all] at h3; exact h3⟩⟩
        · exact ⟨⟨_, rfl⟩, .inr ⟨k + 1, by have := HK.out; omega, by rw [upto_succ k hk]; exact h3⟩⟩
      · simp only [pieceE, pieceV, hm] at hy
        rw [show min 40 (n - 40 * k) = n - 40 * k from by omega] at hy
        clear hm
        unfold restV
        gi_wp2_with (refine ⟨trivial, ?_⟩; gi_at_call 38; refine (callsIn_wide.2 (HMk.out _)).mono ?_; rintro e1 w1 ⟨rfl, rfl⟩)
        refine HR.out.mono ?_
        rintro e3 W3 ⟨b3, rfl, h3⟩
        have H3 := hid h3
        clear hy h3
        gi_wp2
        go_end0
        rcases H3.out with ⟨_, h3⟩ | ⟨_, h3⟩
        · exact ⟨⟨_, rfl⟩, .inl ⟨_, rfl, by rw [← upto_succ k hk, HK.out, upto_all] at h3; exact h3⟩⟩
        · exact ⟨⟨_, rfl⟩, .inr ⟨k + 1, by have := HK.out; omega, by rw [upto_succ k hk]; exact h3⟩⟩
end J
end Go.Proofs.Ytomnbaeokmpobaa
