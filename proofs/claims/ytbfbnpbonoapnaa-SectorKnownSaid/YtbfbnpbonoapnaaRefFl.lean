/- The walk through the document's Flush. -/
import Derived.Test.YtbfbnpbonoapnaaRefWr
namespace Go.Proofs.Ytbfbnpbonoapnaa
open Go.RowKit

namespace Sx
def settleX (c : Option (List Nat)) (u : Option (List Nat × Bool)) (f : Int) : Option (List Nat × Bool) :=
  match c with
  | none => u
  | some b => if f = 0 then u else if f = 1 then some (b, false) else some ([], true)
def fateC (c : Nat → Option (List Nat)) (l : List Int) (i : Nat) : Int := l.getD (dirtyTo c i).length 0
def flXE (x : Xs) : Int := if x.off then 10 else if x.left = 0 then 10 else 0
def flXS (x : Xs) : Xs :=
  if x.off then x else if x.left = 0 then { x with off := true } else { doneS x with lasts := fun i => settleX (x.cache i) (x.lasts i) 1, cache := fun _ => none }
def crashX (x : Xs) (l : List Int) : Xs :=
  { x with lasts := fun i => settleX (x.cache i) (x.lasts i) (fateC x.cache l i), cache := fun _ => none, left := -1, off := false }
/-- the first k of the dirty sectors are settled -/
def xpart (x : Xs) (F : Nat → Int) (k : Nat) : Xs := { x with lasts := fun i => if i ∈ (dirtyX x).take k then settleX (x.cache i) (x.lasts i) (F i) else x.lasts i }
theorem xpart_zero (x : Xs) (F : Nat → Int) : xpart x F 0 = x := by simp [xpart]
theorem xpart_cl (x : Xs) (F : Nat → Int) (k : Nat) : (xpart x F k).cl = x.cl := rfl
theorem cl_fact (x : Xs) (k : Nat) (h : k < x.cl.length) : x.cl[k].no < x.n ∧ x.cache x.cl[k].no = some x.cl[k].b ∧ x.cl[k].torn = false := by
  obtain ⟨_, h2, h3⟩ := secs_no 0 x.n _ (List.getElem_mem h)
  have h3 : (x.cache x.cl[k].no).map (fun b => (b, false)) = some (x.cl[k].b, x.cl[k].torn) := h3
  refine ⟨by have : x.cl[k].no < 0 + x.n := h2; omega, ?_⟩
  rcases hc : x.cache x.cl[k].no with _ | b
  · rw [hc] at h3; cases h3
  · rw [hc] at h3
    have h4 := Prod.mk.inj (Option.some.inj h3)
    exact ⟨by rw [← h4.1], h4.2.symm⟩
theorem xpart_step (x : Xs) (F : Nat → Int) (k : Nat) (h : k < x.cl.length) (v : Option (List Nat × Bool)) (hv : settleX (x.cache x.cl[k].no) (x.lasts x.cl[k].no) (F x.cl[k].no) = v) :
    upd (xpart x F k).lasts x.cl[k].no v = (xpart x F (k + 1)).lasts := by
  subst hv
  have hs := dirtyX_step x k h
  funext i
  unfold upd xpart
  simp only
  rw [← hs]
  by_cases hi : i = x.cl[k].no
  · subst hi
    rw [if_pos rfl, if_pos (List.mem_append.2 (.inr (List.mem_singleton.2 rfl)))]
  · rw [if_neg hi]
    have : i ∈ (dirtyX x).take k ++ [x.cl[k].no] ↔ i ∈ (dirtyX x).take k := by
      rw [List.mem_append, List.mem_singleton]
      exact ⟨fun h => h.resolve_right hi, .inl⟩
    simp only [this]
theorem xpart_same (x : Xs) (F : Nat → Int) (k : Nat) (h : k < x.cl.length) (hf : F x.cl[k].no = 0) : xpart x F (k + 1) = xpart x F k := by
  have h1 : upd (xpart x F k).lasts x.cl[k].no (x.lasts x.cl[k].no) = (xpart x F (k + 1)).lasts := by
    refine xpart_step x F k h _ ?_
    rw [hf]
    unfold settleX
    split
    · rfl
    · rw [if_pos rfl]
  have hn : x.cl[k].no ∉ (dirtyX x).take k := by
    intro hm
    obtain ⟨j, hj, e⟩ := List.getElem_of_mem hm
    rw [List.length_take] at hj
    rw [List.getElem_take, cl_no x k h] at e
    have := (List.getElem_inj (dirtyTo_nodup x.cache x.n)).1 e
    omega
  have h2 : (xpart x F k).lasts x.cl[k].no = x.lasts x.cl[k].no := by
    unfold xpart
    simp only
    rw [if_neg hn]
  have h3 : (xpart x F (k + 1)).lasts = (xpart x F k).lasts := by
    rw [← h1, ← h2]
    funext i
    unfold upd
    split
    · rename_i e; rw [e]
    · rfl
  show ({ x with lasts := (xpart x F (k + 1)).lasts } : Xs) = { x with lasts := (xpart x F k).lasts }
  rw [h3]
theorem xpart_end (x : Xs) (F : Nat → Int) (i : Nat) (h : i < x.n) : (xpart x F x.cl.length).lasts i = settleX (x.cache i) (x.lasts i) (F i) := by
  unfold xpart
  simp only
  rw [cl_length, List.take_length]
  by_cases hi : i ∈ dirtyX x
  · rw [if_pos hi]
  · rw [if_neg hi]
    have : x.cache i = none := by
      rcases hc : x.cache i with _ | b
      · rfl
      · exact absurd (mem_dirtyTo.2 ⟨h, by rw [hc]; rfl⟩) hi
    rw [this]
    rfl
theorem fateC_cl (x : Xs) (l : List Int) (k : Nat) (h : k < x.cl.length) : fateC x.cache l x.cl[k].no = l.getD k 0 := by
  unfold fateC
  have hk : k < (dirtyTo x.cache x.n).length := by have := cl_length x; unfold dirtyX at this; omega
  have h1 := rk_get x.cache x.n k hk
  rw [cl_no x k h]
  show l.getD (dirtyTo x.cache ((dirtyTo x.cache x.n)[k]'hk)).length 0 = _
  rw [h1]
end Sx
/-- put of a sector of the cache, and its store -/
theorem RefAt.put_store {w4 : World} {Z : Nat → Prop} {g : Nat} {x : Sx.Xs} {F : Nat → Int} {k : Nat} (hk : k < x.cl.length) {b : List Nat} {t : Bool} (hv : Sx.settleX (x.cache x.cl[k].no) (x.lasts x.cl[k].no) (F x.cl[k].no) = some (b, t))
    (h : RefAt w4 Z g (Sx.xpart x F k)) {A : Option Addr} {n c : Nat} (hs : SecsAt w4 Z (.slice A n c) (Sx.putGo ⟨x.cl[k].no, b, t⟩ false (Sx.xpart x F k).ll)) :
    RefAt (w4.setCell ⟨g, 3, none⟩ (.slice A n c)) Z g (Sx.xpart x F (k + 1)) ∧ Turned (fun k => k = g) w4 (w4.setCell ⟨g, 3, none⟩ (.slice A n c)) := by
  refine h.setL (x' := Sx.xpart x F (k + 1)) ?_ rfl rfl rfl rfl
  rw [Sx.put_ll (Sx.xpart x F k) x.cl[k].no b t (Sx.cl_fact x k hk).1] at hs
  have e : (Sx.xpart x F (k + 1)).ll = ({ Sx.xpart x F k with lasts := Sx.upd (Sx.xpart x F k).lasts x.cl[k].no (some (b, t)) } : Sx.Xs).ll := by
    rw [Sx.xpart_step x F k hk _ hv]; rfl
  rw [e]
  exact hs

set_option maxRecDepth 100000 in
set_option maxHeartbeats 1600000 in
theorem refFlush_any (Z : Nat → Prop) (g : Nat) (x : Sx.Xs) (w : World) (hZ : ∀ k, Z k → k < w.heap.size) (h : RefAt w Z g x) :
    Calls Try.prog 35 #[.pointer (some ⟨g, 0, none⟩)] w fun e w' => e = .returned (.int .i64 (Sx.flXE x)) ∧ RefAt w' Z g (Sx.flXS x) ∧ Turned (fun k => k = g) w w' := by
  obtain ⟨A1, k1, A2, k2, c0, c1, c2, c3, c4, _, _⟩ := h.cells
  have HH := hid h
  cases ho : x.off
  · rw [ho] at c2
    have HD := hid (refDone_any Z g x w h)
    by_cases h0 : x.left = 0
    · have e1 : Sx.flXE x = 10 := by unfold Sx.flXE; rw [ho, if_pos h0]; rfl
      have e2 : Sx.flXS x = Sx.doneS x := by unfold Sx.flXS Sx.doneS; rw [ho, if_pos h0, if_pos h0]; rfl
      rw [show decide (x.left ≠ 0) = false by simp [h0]] at HD
      rw [e1, e2]
      clear h e1 e2 ho h0
      go_enter Try.func35, Try.ntmps35
      go_wp2_with fail
      refine HD.out.mono ?_
      rintro e w2 ⟨rfl, hD2, ht2⟩
      go_wp2
      go_ret
      exact ⟨rfl, hD2, ht2⟩
    · have e1 : Sx.flXE x = 0 := by unfold Sx.flXE; rw [ho, if_neg h0]; rfl
      have e2 : Sx.flXS x = { Sx.doneS x with lasts := fun i => Sx.settleX (x.cache i) (x.lasts i) 1, cache := fun _ => none } := by unfold Sx.flXS; rw [ho, if_neg h0]; rfl
      rw [show decide (x.left ≠ 0) = true by simp [h0]] at HD
      rw [e1, e2]
      obtain ⟨y, hy⟩ : ∃ y, y = Sx.doneS x := ⟨_, rfl⟩
      have ec : x.cache = y.cache := by rw [hy, Sx.doneS_cache]
      have el : x.lasts = y.lasts := by rw [hy, Sx.doneS_lasts]
      rw [ec, el, ← hy]
      rw [← hy] at HD
      clear h e1 e2 ho h0 ec el hy
      go_enter Try.func35, Try.ntmps35
      go_wp2_with fail
      refine HD.out.mono ?_
      rintro e w2 ⟨rfl, hD2, ht2⟩
      have hcl : y.cl.length ≤ 20000 := by have := RefAt.len2 y; have := hD2.bound; omega
      have hyn := hD2.bound
      have HS : Hid (RefAt w2 Z g (Sx.xpart y (fun _ => 1) 0) ∧ Turned (fun k => k = g) w w2) := hid ⟨by rw [Sx.xpart_zero]; exact hD2, ht2⟩
      clear hD2 ht2 HD HH c0 c1 c2 c3 c4
      go_wp2_with fail
      go_loopw [3] (fun iv wr => ∃ k : Nat, k ≤ y.cl.length ∧ iv = .int .i64 k ∧ Hid (RefAt wr Z g (Sx.xpart y (fun _ => 1) k) ∧ Turned (fun k => k = g) w wr)) (fun i _ => y.cl.length - (RowKit.intOf i).toNat)
      case atStart => exact ⟨0, by omega, rfl, HS⟩
      case round =>
        clear HS
        obtain ⟨k, hk, rfl, hS⟩ := hrel
        obtain ⟨B1, j1, B2, j2, b0, b1, b2, b3, b4, hq1, hq2⟩ := hS.out.1.cells
        rw [Sx.xpart_cl] at b4 hq2
        by_cases hlt : k < y.cl.length
        · obtain ⟨hno, hca, hto⟩ := Sx.cl_fact y k hlt
          obtain ⟨g2, A', c', rfl, _, d0, d1, d2, hA, hx1, hx2⟩ := hq2.at_ k hlt
          rw [hto] at d2
          have hk0 : (k : Int) < (y.cl.length : Int) := by omega
          have hglt := hS.out.1.lt
          have hzw : ∀ j, Z j → j < wr.heap.size := fun j hj => by have := hZ j hj; have := hS.out.2.size; omega
          have hll : (Sx.xpart y (fun _ => 1) k).ll.length ≤ 20000 := by have h1 := RefAt.len1 (Sx.xpart y (fun _ => 1) k); have h2 : (Sx.xpart y (fun _ => 1) k).n = y.n := rfl; omega
          have HP := hid (put_at Z B1 j1 (Sx.xpart y (fun _ => 1) k).ll hll y.cl[k].no y.cl[k].b false A' c' hx1 hx2 wr.drew hzw hq1.drew (hA.keep (Turned.ofDrewN Z wr 1)))
          have HV : Hid (Sx.settleX (y.cache y.cl[k].no) (y.lasts y.cl[k].no) 1 = some (y.cl[k].b, false)) := hid (by rw [hca]; rfl)
          have HLT := hid hlt
          clear hq1 hq2 hA hno hca hto hll hzw
          go_wp2_with fail
          go_region_with (go_at_call 50; refine HP.out.mono ?_; rintro e w4 ⟨A4, n4, c4, rfl, hS4, hb4⟩; have d4 : w4.cell? ⟨g, 3, none⟩ = some (.slice B1 (Sx.xpart y (fun _ => 1) k).ll.length j1) := (hb4.cell (p := ⟨g, 3, none⟩) hglt).trans b3; have hR4 : RefAt w4 Z g (Sx.xpart y (fun _ => 1) k) := hS.out.1.drew.below hb4; have f4 := hR4.frozen 3; have H4 := hid (And.intro hS4 (And.intro hR4 hb4)); clear hS4 hR4 hb4)
          all_goals
            (go_wp2_with fail
             have h5 := RefAt.put_store HLT.out HV.out H4.out.2.1 H4.out.1
             have h6 := ((hS.out.2.drew.then_ (Turned.ofBelow (fun k => k = g) H4.out.2.2) (fun _ _ h => h)).trans h5.2)
             first
             | (refine ⟨⟨k + 1, by omega, by go_num, hid ⟨h5.1, h6⟩⟩, by simp [RowKit.intOf]; omega⟩)
             | (go_roundw
                case rel => exact ⟨k + 1, by omega, by go_num, hid ⟨h5.1, h6⟩⟩
                case measure => simp [RowKit.intOf]; omega))
        · obtain rfl : k = y.cl.length := by omega
          have f4 := hS.out.1.frozen 4
          have HX := hid hS.out.1
          clear hq1 hq2 hlt hk
          go_wp2_with fail
          go_ret
          have e0 : ({ Sx.xpart y (fun _ => 1) y.cl.length with cache := fun _ => none } : Sx.Xs).cl = [] := Sx.secs_none _ _
          obtain ⟨h5, h6⟩ := HX.out.setC (x' := { Sx.xpart y (fun _ => 1) y.cl.length with cache := fun _ => none }) (A := none) (n := 0) (c := 0) (by rw [e0]; exact SecsAt.nil _ _) rfl rfl rfl rfl
          exact ⟨rfl, h5.congr rfl rfl rfl (fun i hi => (Sx.xpart_end y (fun _ => 1) i hi).symm) (fun _ _ => rfl), hS.out.2.trans h6⟩
  · rw [ho] at c2
    have e1 : Sx.flXE x = 10 := by unfold Sx.flXE; rw [ho]; rfl
    have e2 : Sx.flXS x = x := by unfold Sx.flXS; rw [ho]; rfl
    rw [e1, e2]
    clear h e1 e2 ho
    go_enter Try.func35, Try.ntmps35
    go_wp2
    go_ret
    exact ⟨rfl, HH.out, Turned.refl _ _⟩
end Go.Proofs.Ytbfbnpbonoapnaa
