/- The walks through count, majority and quorum. -/
import Derived.Test.YtblhfbijffaacaaConf
import Derived.Shelf.Abstract
namespace Go.Proofs.Ytblhfbijffaacaa
open Go.RowKit

set_option maxHeartbeats 400000 in
theorem count_any (g : FuncId) (cb : Array Value) (p : Int → Bool) (w0 : World) (ht0 : Tells g cb p w0) (eg : ∀ args w, (callFunc g args).run Try.prog w = .ok (.enter g args) w)
    (B : Nat) (A : Option Addr) (c : Nat) (l : List Int) (hl : l.length ≤ 2000) (w : World) (hw0 : Below w0.heap.size w0 w) (h0 : IsInts w B A l) (hB : B ≤ w.heap.size) :
    Calls Try.prog 61 #[.slice A l.length c, .func (.func g) #[] cb] w fun e w' => e = .returned (.int .i64 (l.countP p : Nat)) ∧ Below w.heap.size w w' := by
  have ht := hid ht0
  have hw := hid hw0
  have h := hid h0
  clear ht0 hw0 h0
  go_enter Try.func61, Try.ntmps61
  go_wp2
  go_loopw [5, 10] (fun n i wr => ∃ k m : Nat, k ≤ l.length ∧ m ≤ k ∧ n = .int .i64 m ∧ i = .int .i64 k ∧ Hid (m = (l.take k).countP p) ∧ Below w.heap.size w wr) (fun _ i _ => l.length - (intOf i).toNat)
  case atStart => exact ⟨0, 0, by omega, by omega, rfl, rfl, hid (by simp), Below.refl _ _⟩
  case round =>
    obtain ⟨k, m, hk, hm, rfl, rfl, hc, hbel0⟩ := hrel
    have hbel := hid hbel0
    clear hbel0
    by_cases hlt : k < l.length
    · obtain ⟨b, off, rfl, hb, hcell⟩ := h.out.cells k hlt
      have hck : wr.cell? ⟨b, off + k, none⟩ = some (.int .i64 l[k]) := (hbel.out.cell (p := ⟨b, off + k, none⟩) (by show b < _; omega)).trans (hcell k hlt)
      have hcall := ht.out l[k] (h.out.small _ (List.getElem_mem hlt)) wr (hw.out.trans (hbel.out.mono hw.out.size))
      have hs : (l.take (k + 1)).countP p = (l.take k).countP p + if p l[k] then 1 else 0 := by
        rw [List.take_succ_eq_append_getElem hlt, List.countP_append]; simp
      have HS := hid hs
      clear hcell hs
      cases hp : p l[k]
      · rw [hp] at hcall
        have HP := hid hp
        clear hp
        go_wp2_with (go_at_fn g; refine hcall.mono ?_; rintro e w' ⟨rfl, hb'⟩)
        go_roundw
        case rel => exact ⟨k + 1, m, by omega, by omega, rfl, by go_num, hid (by rw [HS.out, HP.out]; simpa using hc.out), bthen hbel.out hb' hbel.out.size⟩
        case measure => simp [intOf]; omega
      · rw [hp] at hcall
        have HP := hid hp
        clear hp
        go_wp2_with (go_at_fn g; refine hcall.mono ?_; rintro e w' ⟨rfl, hb'⟩)
        go_roundw
        case rel => exact ⟨k + 1, m + 1, by omega, by omega, by go_num, by go_num, hid (by rw [HS.out, HP.out, ← hc.out]; rfl), bthen hbel.out hb' hbel.out.size⟩
        case measure => simp [intOf]; omega
    · obtain rfl : k = l.length := by omega
      go_wp2
      go_ret
      exact ⟨by rw [hc.out, List.take_length]; rfl, hbel.out⟩
theorem majority_any (g : FuncId) (cb : Array Value) (p : Int → Bool) (w0 : World) (ht : Tells g cb p w0) (eg : ∀ args w, (callFunc g args).run Try.prog w = .ok (.enter g args) w)
    (B : Nat) (A : Option Addr) (c : Nat) (l : List Int) (hl : l.length ≤ 2000) (w : World) (hw : Below w0.heap.size w0 w) (h : IsInts w B A l) (hB : B ≤ w.heap.size) :
    Calls Try.prog 52 #[.slice A l.length c, .func (.func g) #[] cb] w fun e w' => e = .returned (.bool (Qu.maj l p)) ∧ Below w.heap.size w w' := by
  have hc := count_any g cb p w0 ht eg B A c l hl w hw h hB
  have hle := List.countP_le_length (p := p) (l := l)
  have hmaj : Qu.maj l p = decide ((l.length : Int).tdiv 2 < (l.countP p : Nat)) := by
    unfold Qu.maj
    refine decide_eq_decide.2 ?_
    rw [show ((l.length : Int).tdiv 2) = ((l.length / 2 : Nat) : Int) from rfl]
    omega
  rw [hmaj]
  generalize l.countP p = m at *
  clear hmaj
  go_enter Try.func52, Try.ntmps52
  go_wp2_with fail
  refine hc.mono ?_
  rintro e w' ⟨rfl, hb⟩
  go_wp2
  go_ret
  exact ⟨rfl, hb⟩
theorem quorum_any (g : FuncId) (cb : Array Value) (p : Int → Bool) (w0 : World) (ht0 : Tells g cb p w0) (eg : ∀ args w, (callFunc g args).run Try.prog w = .ok (.enter g args) w)
    (B : Nat) (c : Qu.Cf) (hs0 : Short c) (a0 a1 a2 : Option Addr) (k0 k1 k2 : Nat) (w : World) (hw0 : Below w0.heap.size w0 w) (h0 : CIs w B c a0 a1 a2 k0 k1 k2) (hB : B ≤ w.heap.size) :
    Calls Try.prog 36 #[.agg #[.slice a0 c.old.length k0, .slice a1 c.new.length k1, .slice a2 c.lrn.length k2], .func (.func g) #[] cb] w fun e w' => e = .returned (.bool (Qu.quo c p)) ∧ Below w.heap.size w w' := by
  have ht := hid ht0
  have hw := hid hw0
  have h := hid h0
  have hs := hid hs0
  clear ht0 hw0 h0 hs0
  have hq : Qu.quo c p = (Qu.maj c.old p && (c.new.isEmpty || Qu.maj c.new p)) := rfl
  have HQ := hid hq
  clear hq
  go_enter Try.func36, Try.ntmps36
  go_wp2_with fail
  refine (majority_any g cb p w0 ht.out eg B a0 k0 c.old (by have := hs.out.1; omega) _ (hw.out.alloc hw.out.size _) (h.out.o.below ((Below.refl _ _).alloc hB _)) (by simp; omega)).mono ?_
  rintro e w1 ⟨rfl, hb10⟩
  have hb1 : Hid (Below w.heap.size w w1) := hid (((Below.refl _ _).alloc (Nat.le_refl _) _).trans (hb10.mono (by simp)))
  have hn1 := h.out.n.below (hb1.out.mono hB)
  have hcell : w1.cell? ⟨w.heap.size, 1, none⟩ = some (.slice a1 c.new.length k1) := by
    rw [hb10.cell (by simp)]
    exact cell_of_row _ w.heap.size 1 _ _ _ (heap_alloc_new w _)
  have HM := hid (majority_any g cb p w0 ht.out eg B a1 k1 c.new (by have := hs.out.2.1; omega) w1 (hw.out.trans (hb1.out.mono hw.out.size)) hn1 (by have := hb1.out.size; omega))
  have hlen := hs.out.2.1
  clear hb10 hn1
  cases hm : Qu.maj c.old p
  · have HE := hid hm
    clear hm
    go_wp2
    go_ret
    exact ⟨by rw [HQ.out, HE.out]; rfl, hb1.out⟩
  · have HE := hid hm
    clear hm
    by_cases hn : c.new = []
    · have h00 : c.new.length = 0 := by rw [hn]; rfl
      have HN := hid hn
      clear hn
      rw [h00] at hcell
      go_wp2
      go_ret
      exact ⟨by rw [HQ.out, HE.out, HN.out]; rfl, hb1.out⟩
    · have h00 : 0 < c.new.length := List.length_pos_iff.2 hn
      have h01 : ((c.new.length : Int) == 0) = false := by rw [beq_eq_false_iff_ne]; omega
      have HN := hid hn
      clear hn
      go_wp2_with fail
      refine HM.out.mono ?_
      rintro e w2 ⟨rfl, hb2⟩
      have H2 := hid hb2
      clear hb2
      go_wp2
      go_ret
      exact ⟨by rw [HQ.out, HE.out]; cases hne : c.new with | nil => exact absurd hne HN.out | cons y ys => rfl, bthen hb1.out H2.out hb1.out.size⟩
end Go.Proofs.Ytblhfbijffaacaa
