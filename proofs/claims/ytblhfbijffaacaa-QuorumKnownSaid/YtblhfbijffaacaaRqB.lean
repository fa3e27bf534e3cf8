/- The document's answer of layer 10: With, all, Voters, Members, Check. -/
import Derived.Test.YtblhfbijffaacaaRqA
import Derived.Test.YtblhfbijffaacaaKitInts
import Derived.Deep.RegionHeld3
namespace Go.Proofs.Ytblhfbijffaacaa
open Go.RowKit

namespace Qu
/-- one step of With -/
def wstep (n : Int) (s : Bool × List Int) (x : Int) : Bool × List Int := if s.1 = false ∧ n < x then (true, s.2 ++ [n, x]) else (s.1, s.2 ++ [x])
def wto (l : List Int) (n : Int) (k : Nat) : Bool × List Int := (l.take k).foldl (wstep n) (decide (n ∈ l), [])
def wend (n : Int) (s : Bool × List Int) : List Int := if s.1 then s.2 else s.2 ++ [n]
theorem wto_succ (l : List Int) (n : Int) (k : Nat) (h : k < l.length) : wto l n (k + 1) = wstep n (wto l n k) l[k] := by
  unfold wto; rw [List.take_succ_eq_append_getElem h, List.foldl_append]; rfl
theorem wto_len (l : List Int) (n : Int) : ∀ k, k ≤ l.length → (wto l n k).2.length ≤ k + (if (wto l n k).1 then 1 else 0)
  | 0, _ => by simp [wto]
  | k + 1, h => by
    have ih := wto_len l n k (by omega)
    rw [wto_succ l n k (by omega)]
    unfold wstep
    split
    · rename_i h1
      rw [h1.1] at ih
      simp at ih ⊢; omega
    · simp only [List.length_append, List.length_cons, List.length_nil]; omega
/-- of a rising list With makes the rising list with one number more -/
theorem wto_in {l : List Int} {n : Int} (hn : n ∈ l) : ∀ k, k ≤ l.length → wto l n k = (true, l.take k)
  | 0, _ => by simp [wto, hn]
  | k + 1, h => by
    rw [wto_succ l n k (by omega), wto_in hn k (by omega), List.take_succ_eq_append_getElem (by omega)]
    simp [wstep]
theorem wto_out {l : List Int} {n : Int} (hs : l.Pairwise (· < ·)) (hn : n ∉ l) : ∀ k, k ≤ l.length →
    (wto l n k).2.Pairwise (· < ·) ∧ (∀ y, y ∈ (wto l n k).2 ↔ y ∈ l.take k ∨ ((wto l n k).1 = true ∧ y = n)) ∧ ((wto l n k).1 = true ↔ ∃ y ∈ l.take k, n < y)
  | 0, _ => by simp [wto, hn]
  | k + 1, h => by
    obtain ⟨h1, h2, h3⟩ := wto_out hs hn k (by omega)
    have hlt : ∀ y ∈ l.take k, y < l[k] := fun y hy => by
      obtain ⟨i, hi, rfl⟩ := List.getElem_of_mem hy
      rw [List.length_take] at hi
      rw [List.getElem_take]
      exact (List.pairwise_iff_getElem.1 hs) i k (by omega) (by omega) (by omega)
    have hne : l[k] ≠ n := fun e => hn (e ▸ List.getElem_mem (by omega))
    rw [wto_succ l n k (by omega), List.take_succ_eq_append_getElem (by omega)]
    unfold wstep
    by_cases hc : (wto l n k).1 = false ∧ n < l[k]
    · rw [if_pos hc]
      have hall : ∀ y ∈ l.take k, y < n := fun y hy => by
        by_cases h4 : n < y
        · have := h3.2 ⟨y, hy, h4⟩; rw [hc.1] at this; cases this
        · have : y ≠ n := fun e => hn (e ▸ List.mem_of_mem_take hy)
          omega
      have hmem : ∀ y ∈ (wto l n k).2, y ∈ l.take k := fun y hy => by
        rcases (h2 y).1 hy with h4 | h4
        · exact h4
        · rw [hc.1] at h4; cases h4.1
      refine ⟨?_, fun y => ?_, ?_⟩
      · rw [List.pairwise_append]
        refine ⟨h1, by simp [hc.2], fun a ha b hb => ?_⟩
        have := hall a (hmem a ha)
        simp at hb
        rcases hb with rfl | rfl
        · exact this
        · omega
      · rw [List.mem_append, List.mem_append, h2 y, hc.1]
        simp
        constructor
        · rintro (h4 | h4 | h4)
          · exact .inl (.inl h4)
          · exact .inr h4
          · exact .inl (.inr h4)
        · rintro ((h4 | h4) | h4)
          · exact .inl h4
          · exact .inr (.inr h4)
          · exact .inr (.inl h4)
      · simp only [true_iff]
        exact ⟨l[k], List.mem_append_right _ (List.mem_singleton_self _), hc.2⟩
    · rw [if_neg hc]
      refine ⟨?_, fun y => ?_, ?_⟩
      · rw [List.pairwise_append]
        refine ⟨h1, by simp, fun a ha b hb => ?_⟩
        simp at hb
        subst hb
        rcases (h2 a).1 ha with h4 | h4
        · exact hlt a h4
        · obtain ⟨y, hy, h5⟩ := h3.1 h4.1
          have := hlt y hy
          omega
      · rw [List.mem_append, List.mem_append, h2 y]
        constructor
        · rintro ((h4 | h4) | h4)
          · exact .inl (.inl h4)
          · exact .inr h4
          · exact .inl (.inr h4)
        · rintro ((h4 | h4) | h4)
          · exact .inl (.inl h4)
          · exact .inr h4
          · exact .inl (.inr h4)
      · rw [h3]
        constructor
        · rintro ⟨y, hy, h4⟩; exact ⟨y, List.mem_append_left _ hy, h4⟩
        · rintro ⟨y, hy, h4⟩
          rcases List.mem_append.1 hy with hy | hy
          · exact ⟨y, hy, h4⟩
          · simp at hy
            subst hy
            by_cases h5 : (wto l n k).1 = false
            · exact absurd ⟨h5, h4⟩ hc
            · exact h3.1 (by simpa using h5)
theorem with_is (L : List Int) (n : Int) : wend n (wto (uni L) n (uni L).length) = uni (L ++ [n]) := by
  have hu := uni_is L
  refine Uni.unique (l := L ++ [n]) ?_ (uni_is _)
  unfold wend
  by_cases hn : n ∈ uni L
  · rw [wto_in hn _ (Nat.le_refl _)]
    simp only [if_true, List.take_length]
    refine ⟨hu.1, fun y => ?_⟩
    rw [List.mem_append, hu.2 y]
    constructor
    · exact .inl
    · rintro (h | h)
      · exact h
      · simp at h; subst h; exact (hu.2 _).1 hn
  · obtain ⟨h1, h2, h3⟩ := wto_out hu.1 hn _ (Nat.le_refl _)
    rw [List.take_length] at h2 h3
    cases hb : (wto (uni L) n (uni L).length).1
    · rw [hb] at h2 h3
      simp only [Bool.false_eq_true, if_false]
      refine ⟨?_, fun y => ?_⟩
      · rw [List.pairwise_append]
        refine ⟨h1, by simp, fun a ha b hb' => ?_⟩
        simp at hb'
        subst hb'
        rcases (h2 a).1 ha with h4 | h4
        · by_cases h5 : b < a
          · have := h3.2 ⟨a, h4, h5⟩; cases this
          · have : a ≠ b := fun e => hn (e ▸ h4)
            omega
        · cases h4.1
      · rw [List.mem_append, List.mem_append, h2 y, hu.2 y]
        simp
    · rw [hb] at h2
      simp only [if_true]
      refine ⟨h1, fun y => ?_⟩
      rw [h2 y, List.mem_append, hu.2 y]
      simp
end Qu

set_option maxRecDepth 100000 in
set_option maxHeartbeats 1000000 in
theorem with_any (B : Nat) (A : Option Addr) (c : Nat) (l : List Int) (hl0 : l.length ≤ 10000) (n : Int) (hn0 : InInt n) (w : World) (h0 : IsInts w B A l) (hB : B ≤ w.heap.size) :
    Calls Try.prog 53 #[.slice A l.length c, .int .i64 n] w fun e w' => ∃ A' c', e = .returned (.slice A' (Qu.wend n (Qu.wto l n l.length)).length c') ∧ OwnsI 3 w' w.heap.size A' c' (Qu.wend n (Qu.wto l n l.length)) ∧ Below w.heap.size w w' := by
  obtain ⟨i0, hi, hz0, hz1, hz2⟩ := info_parts I.info_int
  have h := hid h0
  have hn := hid hn0
  have HI := hid (in_any B A c l (by omega) n w h0)
  have hl := hl0
  clear h0 hn0 hl0
  go_enter Try.func53, Try.ntmps53
  go_wp2_with fail
  refine HI.out.mono ?_
  rintro e w1 ⟨rfl, rfl⟩
  go_wp2_with fail
  go_loopw [5, 6, 7] (fun v b i wr => ∃ (k m : Nat) (ld : Bool) (A2 : Option Addr) (c2 : Nat) (out : List Int), k ≤ l.length ∧ v = .slice A2 m c2 ∧ b = .bool ld ∧ i = .int .i64 k ∧ Hid (out.length = m ∧ (ld, out) = Qu.wto l n k ∧ OwnsI 3 wr w1.heap.size A2 c2 out ∧ Below w1.heap.size w1 wr)) (fun _ _ i _ => l.length - (intOf i).toNat)
  case atStart => exact ⟨0, 0, decide (n ∈ l), none, 0, [], by omega, rfl, rfl, rfl, hid ⟨rfl, by simp [Qu.wto], OwnsI.nil _ _ _, Below.refl _ _⟩⟩
  case round =>
    obtain ⟨k, m, ld, A2, c2, out, hk, rfl, rfl, rfl, HR⟩ := hrel
    have hlen : m ≤ k + 1 := by
      have h1 := Qu.wto_len l n k hk
      rw [← HR.out.2.1] at h1
      have := HR.out.1
      simp only at h1
      split at h1 <;> omega
    by_cases hlt : k < l.length
    · obtain ⟨b, off, rfl, hb, hcell⟩ := h.out.cells k hlt
      have hck : wr.cell? ⟨b, off + k, none⟩ = some (.int .i64 l[k]) := (HR.out.2.2.2.cell (p := ⟨b, off + k, none⟩) (by show b < _; omega)).trans (hcell k hlt)
      have hxin := h.out.small _ (List.getElem_mem hlt)
      have HX := hid hxin
      have HST := hid (Qu.wto_succ l n k hlt)
      have hblt : b < wr.heap.size := World.block_lt_of_cell? _ _ hck
      clear hcell hxin
      generalize l[k] = x at *
      by_cases hc : ld = false ∧ n < x
      · obtain ⟨rfl, hnx⟩ := hc
        have hown := HR.out.2.2.1
        have hbase := HR.out.2.2.2.size
        have hln := HR.out.1
        have HB := hid (And.intro hck hblt)
        have HN := hid hnx
        go_wp2_with (at_builtin; refine wpList_append_intN rfl _ _ 22 rfl w1.heap.size 3 i0 Try.underlying22 hi hz0 hz1 hz2 A2 c2 out m hln rfl (hown.alloc _) ⟨wr.heap.size, 0, none⟩ 1 n hn.out rfl (by simp) (out ++ [n]) rfl (by omega) (by simp; omega) ?_)
        intro A3 c3 w3 hown3 hbel3
        have hbel3' : Below w1.heap.size w1 w3 := (HR.out.2.2.2.alloc HR.out.2.2.2.size _).trans hbel3
        have hck3 : w3.cell? ⟨b, off + k, none⟩ = some (.int .i64 x) := by
          have h1 := (hbel3'.cell (p := ⟨b, off + k, none⟩) (by show b < w1.heap.size; omega))
          have h2 := (HR.out.2.2.2.cell (p := ⟨b, off + k, none⟩) (by show b < w1.heap.size; omega))
          rw [h1, ← h2]; exact HB.out.1
        have hbase3 := hbel3'.size
        have HB3 := hid hbel3'
        clear hown hbel3 hbase hbel3' hck
        go_wp2_with (at_builtin; refine wpList_append_intN rfl _ _ 22 rfl w1.heap.size 3 i0 Try.underlying22 hi hz0 hz1 hz2 A3 c3 (out ++ [n]) (m + 1) (by rw [List.length_append, hln]; rfl) rfl (hown3.alloc _) ⟨w3.heap.size, 0, none⟩ 1 x HX.out rfl (by simp) (out ++ [n, x]) (by simp) (by omega) (by simp; omega) ?_)
        intro A4 c4 w4 hown4 hbel4
        have H4 := hid (And.intro hown4 ((HB3.out.alloc HB3.out.size _).trans hbel4))
        have HLN := hid hln
        clear hown3 hown4 hbel4 hck3 hln
        go_wp2
        go_roundw
        case rel =>
          refine ⟨k + 1, m + 1 + 1, true, A4, c4, out ++ [n, x], by omega, rfl, rfl, by go_num, hid ⟨by simp [HLN.out], ?_, H4.out.1, H4.out.2⟩⟩
          rw [HST.out, ← HR.out.2.1]
          simp [Qu.wstep, HN.out]
        case measure => simp [intOf]; omega
      · have hown := HR.out.2.2.1
        have hbase := HR.out.2.2.2.size
        have hln := HR.out.1
        have HC := hid hc
        have hst : (ld, out ++ [x]) = Qu.wto l n (k + 1) := by
          rw [HST.out, ← HR.out.2.1]
          unfold Qu.wstep
          rw [if_neg hc]
        have HS := hid hst
        clear hst HST
        rcases Bool.eq_false_or_eq_true ld with rfl | rfl
        · clear hc HC
          go_wp2_with (at_builtin; refine wpList_append_intN rfl _ _ 22 rfl w1.heap.size 3 i0 Try.underlying22 hi hz0 hz1 hz2 A2 c2 out m hln rfl (hown.alloc _) ⟨wr.heap.size, 0, none⟩ 1 x HX.out rfl (by simp) (out ++ [x]) rfl (by omega) (by simp; omega) ?_)
          intro A3 c3 w3 hown3 hbel3
          have H4 := hid (And.intro hown3 ((HR.out.2.2.2.alloc HR.out.2.2.2.size _).trans hbel3))
          have HLN := hid hln
          clear hown hown3 hbel3 hck hln
          go_wp2
          go_roundw
          case rel => exact ⟨k + 1, m + 1, true, A3, c3, out ++ [x], by omega, rfl, rfl, by go_num, hid ⟨by simp [HLN.out], HS.out, H4.out.1, H4.out.2⟩⟩
          case measure => simp [intOf]; omega
        · have hnx : ¬ n < x := fun e => hc ⟨rfl, e⟩
          clear hc HC
          go_wp2_with (at_builtin; refine wpList_append_intN rfl _ _ 22 rfl w1.heap.size 3 i0 Try.underlying22 hi hz0 hz1 hz2 A2 c2 out m hln rfl (hown.alloc _) ⟨wr.heap.size, 0, none⟩ 1 x HX.out rfl (by simp) (out ++ [x]) rfl (by omega) (by simp; omega) ?_)
          intro A3 c3 w3 hown3 hbel3
          have H4 := hid (And.intro hown3 ((HR.out.2.2.2.alloc HR.out.2.2.2.size _).trans hbel3))
          have HLN := hid hln
          clear hown hown3 hbel3 hck hln
          go_wp2
          go_roundw
          case rel => exact ⟨k + 1, m + 1, false, A3, c3, out ++ [x], by omega, rfl, rfl, by go_num, hid ⟨by simp [HLN.out], HS.out, H4.out.1, H4.out.2⟩⟩
          case measure => simp [intOf]; omega
    · obtain rfl : k = l.length := by omega
      have hown := HR.out.2.2.1
      have hbase := HR.out.2.2.2.size
      have hln := HR.out.1
      have HE := hid HR.out.2.1
      rcases Bool.eq_false_or_eq_true ld with rfl | rfl
      · have hw : Qu.wend n (Qu.wto l n l.length) = out := by rw [← HE.out]; rfl
        have HW := hid hw
        clear hw
        have HLN := hid hln
        clear hln
        have HO := hid hown
        clear hown
        go_wp2
        go_ret
        rw [HW.out]
        exact ⟨A2, c2, ret_len HLN.out.symm, HO.out, HR.out.2.2.2⟩
      · have hw : Qu.wend n (Qu.wto l n l.length) = out ++ [n] := by rw [← HE.out]; rfl
        have HW := hid hw
        clear hw
        go_wp2_with (at_builtin; refine wpList_append_intN rfl _ _ 22 rfl w1.heap.size 3 i0 Try.underlying22 hi hz0 hz1 hz2 A2 c2 out m hln rfl (hown.alloc _) ⟨wr.heap.size, 0, none⟩ 1 n hn.out rfl (by simp) (out ++ [n]) rfl (by omega) (by simp; omega) ?_)
        intro A3 c3 w3 hown3 hbel3
        have H4 := hid (And.intro hown3 ((HR.out.2.2.2.alloc HR.out.2.2.2.size _).trans hbel3))
        have HLN := hid hln
        clear hown hown3 hbel3 hln
        go_wp2
        go_ret
        rw [HW.out]
        exact ⟨A3, c3, ret_len (by simp [HLN.out]), H4.out.1, H4.out.2⟩
end Go.Proofs.Ytblhfbijffaacaa
