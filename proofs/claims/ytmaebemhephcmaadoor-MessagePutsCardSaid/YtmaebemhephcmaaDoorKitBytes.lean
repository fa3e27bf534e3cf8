/- The walks through the functions that all statements share: lists of bytes that are lent and looked at again. -/
import Derived.Test.YtmaebemhephcmaaDoorKitSame
namespace Go.Proofs.YtmaebemhephcmaaDoor
open Go.RowKit

/-- what LentBytes makes: the bytes, and five marks behind them -/
def lent (l : List Nat) : List Nat := l ++ List.replicate 5 165
theorem lent_length (l : List Nat) : (lent l).length = l.length + 5 := by simp [lent]
theorem lent_small (l : List Nat) (h : ∀ x ∈ l, x < 256) : ∀ x ∈ lent l, x < 256 := by
  intro x hx
  unfold lent at hx
  rcases List.mem_append.1 hx with hx | hx
  · exact h x hx
  · have := (List.mem_replicate.1 hx).2; omega
/-- the same, amid the work: the first k items are there -/
def lentTo (l : List Nat) (k : Nat) : List Nat := (lent l).take k ++ List.replicate (l.length + 5 - k) 0
theorem lentTo_length (l : List Nat) (k : Nat) (h : k ≤ l.length + 5) : (lentTo l k).length = l.length + 5 := by
  unfold lentTo; rw [List.length_append, List.length_take, lent_length, List.length_replicate]; omega
theorem lentTo_end (l : List Nat) : lentTo l (l.length + 5) = lent l := by
  unfold lentTo
  rw [List.take_of_length_le (by rw [lent_length]; omega)]; simp
theorem lentTo_set (l : List Nat) (k : Nat) (h : k < l.length + 5) (x : Nat) (hx : (lent l)[k]? = some x) : (lentTo l k).set k x = lentTo l (k + 1) := by
  unfold lentTo
  have hl : k < (lent l).length := by rw [lent_length]; exact h
  have hk : ((lent l).take k).length = k := by rw [List.length_take]; omega
  rw [List.set_append_right _ _ (by omega), hk, Nat.sub_self, show l.length + 5 - k = (l.length + 5 - (k + 1)) + 1 from by omega, List.replicate_succ, List.set_cons_zero,
    List.take_succ_eq_append_getElem hl, List.append_assoc]
  have : (lent l)[k] = x := by rw [List.getElem?_eq_getElem hl] at hx; injection hx
  rw [this]; rfl
theorem lent_mark (l : List Nat) (k : Nat) (h1 : l.length ≤ k) (h2 : k < l.length + 5) : (lent l)[k]? = some 165 := by
  unfold lent
  rw [List.getElem?_append_right h1, List.getElem?_replicate, if_pos (by omega)]
theorem lent_item (l : List Nat) (k : Nat) (h : k < l.length) : (lent l)[k]? = some l[k] := by
  unfold lent
  rw [List.getElem?_append_left h, List.getElem?_eq_getElem h]

set_option maxRecDepth 100000 in
set_option maxHeartbeats 400000 in
theorem lent_any (B : Nat) (A : Option Addr) (c : Nat) (l : List Nat) (hl : l.length ≤ 140737488355328) (w : World) (h : IsBytes w B A l) (hB : B ≤ w.heap.size) :
    Calls Tryd.prog 21 #[.slice A l.length c] w fun e w' => ∃ g c', e = .returned (.slice (some ⟨g, 0, none⟩) (l.length + 5) c') ∧ OwnsB 5 w' w.heap.size (some ⟨g, 0, none⟩) c' (lent l) ∧ Below w.heap.size w w' := by
  obtain ⟨i0, hi, hz0, hz1, hz2⟩ := info_parts info_u8
  go_enter Tryd.func21, Tryd.ntmps21
  go_wp2_with (at_make; refine wpList_make_full _ rfl _ _ 23 rfl w.heap.size 5 i0 (.int .u8 0) 1 Tryd.underlying23 hi hz0 hz1 .i64 .i64 (l.length + 5) (l.length + 5) (l.length + 5) rfl rfl (by omega) (by omega) ?c1 ?c2 (Nat.le_refl _) ?_)
  case c1 => rw [hz2]; omega
  case c2 => unfold maxLen; omega
  intro w1 hown hgrow
  have hrow : OwnsB 5 w1 w.heap.size (some ⟨w.heap.size, 0, none⟩) (l.length + 5) (lentTo l 0) := by
    refine ⟨?_, ?_⟩
    · intro x hx
      have : lentTo l 0 = List.replicate (l.length + 5) 0 := by simp [lentTo]
      rw [this] at hx
      have := (List.mem_replicate.1 hx).2; omega
    · rw [lentTo_length l 0 (by omega)]
      have e : (madeCells #[Value.int .u8 0] (l.length + 5)).toList = bytes (lentTo l 0) := by
        rw [toList_madeCells_one]
        simp [lentTo, bytes]
      rw [e] at hown
      exact hown
  have hbel : Below w.heap.size w w1 := (Below.refl _ _).grown hgrow (Nat.le_refl _) (fun g hg => by cases hg)
  clear hown hgrow
  go_wp2
  go_loopw [4] (fun i wr => ∃ k : Nat, k ≤ l.length + 5 ∧ i = .int .i64 k ∧ OwnsB 5 wr w.heap.size (some ⟨w.heap.size, 0, none⟩) (l.length + 5) (lentTo l k) ∧ Below w.heap.size w wr) (fun i _ => l.length + 5 - (intOf i).toNat)
  case atStart => exact ⟨0, by omega, rfl, hrow, hbel⟩
  case round =>
    clear hrow hbel
    obtain ⟨k, hk, rfl, hown, hbel⟩ := hrel
    by_cases hlt : k < l.length + 5
    · have hkl : k < (lentTo l k).length := by rw [lentTo_length l k hk]; exact hlt
      obtain ⟨g, hg, _, _, hcg, hfg⟩ := hown.at_ hkl
      obtain rfl : w.heap.size = g := by injection hg with hg; injection hg
      clear hg
      by_cases hin : k < l.length
      · have h1 := (h.below (hbel.mono hB))
        obtain ⟨b, off, rfl, hb, hc⟩ := h1.cells k hin
        have hck := hc k hin
        clear hc
        have hs1 := hown.set_ k 165 (by omega)
        have hs2 := hs1.set_ k l[k] (h.small _ (List.getElem_mem hin))
        rw [List.set_set, lentTo_set l k hlt _ (lent_item l k hin)] at hs2
        have hb2 : Below w.heap.size w ((wr.setCell ⟨w.heap.size, k, none⟩ (.int .u8 (165 : Nat))).setCell ⟨w.heap.size, k, none⟩ (.int .u8 (l[k] : Nat))) := (hbel.setCell (Nat.le_refl _) _).setCell (Nat.le_refl _) _
        have HS := hid (And.intro hs2 hb2)
        clear hs1 hs2 hb2 hown hbel
        go_wp2
        go_roundw
        case rel => exact ⟨k + 1, by omega, by go_num, HS.out.1, HS.out.2⟩
        case measure => simp [intOf]; omega
      · have hs1 := hown.set_ k 165 (by omega)
        rw [lentTo_set l k hlt _ (lent_mark l k (by omega) hlt)] at hs1
        have hb1 : Below w.heap.size w (wr.setCell ⟨w.heap.size, k, none⟩ (.int .u8 (165 : Nat))) := hbel.setCell (Nat.le_refl _) _
        have HS := hid (And.intro hs1 hb1)
        clear hs1 hb1 hown hbel
        go_wp2
        go_roundw
        case rel => exact ⟨k + 1, by omega, by go_num, HS.out.1, HS.out.2⟩
        case measure => simp [intOf]; omega
    · obtain rfl : k = l.length + 5 := by omega
      rw [lentTo_end] at hown
      go_wp2
      go_ret
      exact ⟨w.heap.size, l.length + 5, rfl, hown, hbel⟩
theorem take_lent (l : List Nat) : (lent l).take l.length = l := by
  unfold lent; rw [List.take_left']; rfl
theorem lent_get (l : List Nat) (k : Nat) (h1 : l.length ≤ k) (h2 : k < (lent l).length) : (lent l)[k] = 165 := by
  have := lent_mark l k h1 (by rw [lent_length] at h2; exact h2)
  rw [List.getElem?_eq_getElem h2] at this
  injection this

set_option maxHeartbeats 400000 in
theorem kept_any (B B' g : Nat) (A' : Option Addr) (c c' : Nat) (l : List Nat) (hl : l.length ≤ 140737488355328) (hcap : l.length + 5 ≤ c) (w : World) (h : IsBytes w B (some ⟨g, 0, none⟩) (lent l)) (h' : IsBytes w B' A' l) :
    Calls Tryd.prog 24 #[.slice (some ⟨g, 0, none⟩) (l.length + 5) c, .slice A' l.length c'] w fun e w' => e = .returned (.bool true) ∧ ∃ n, w' = w.drewN n := by
  have hb : ((l.length : Int) + 5 != (l.length : Int) + 5) = false := by simp
  have h0 : IsBytes w B (some ⟨g, 0, none⟩) l := by have := h.take l.length; rw [take_lent] at this; exact this
  go_enter Tryd.func24, Tryd.ntmps24
  go_wp2_with fail
  refine (same_any B B' _ _ _ _ l l (by unfold maxLen; omega) (by unfold maxLen; omega) _ h0 h').mono ?_
  rintro e w' ⟨rfl, n, rfl⟩
  have hd : (!decide (l = l)) = false := by simp
  go_wp2
  go_loopw [5] (fun i wr => ∃ k n : Nat, l.length ≤ k ∧ k ≤ l.length + 5 ∧ i = .int .i64 k ∧ wr = w.drewN n) (fun i _ => l.length + 5 - (intOf i).toNat)
  case atStart => exact ⟨l.length, n, by omega, by omega, rfl, rfl⟩
  case round =>
    obtain ⟨k, n, hk1, hk, rfl, rfl⟩ := hrel
    by_cases hlt : k < l.length + 5
    · have hkl : k < (lent l).length := by rw [lent_length]; exact hlt
      obtain ⟨b, off, hg, _, hc⟩ := h.cells k hkl
      obtain ⟨rfl, rfl⟩ : g = b ∧ 0 = off := by injection hg with hg; injection hg with h1 h2; exact ⟨h1, h2⟩
      have hck := hc k hkl
      rw [lent_get l k hk1 hkl, Nat.zero_add] at hck
      clear hc hg
      go_wp2
      go_roundw
      case rel => exact ⟨k + 1, _, by omega, by omega, by go_num, rfl⟩
      case measure => simp [intOf]; omega
    · obtain rfl : k = l.length + 5 := by omega
      go_wp2
      go_ret
      exact ⟨rfl, _, rfl⟩
end Go.Proofs.YtmaebemhephcmaaDoor
