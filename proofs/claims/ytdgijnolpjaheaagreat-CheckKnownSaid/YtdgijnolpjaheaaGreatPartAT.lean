/- Texts of the proof, one behind the other: RefWr, RefFl, RefCr. -/
import Derived.Test.YtdgijnolpjaheaaGreatPartAP
import Derived.Deep.RegionWith
namespace Go.Proofs.YtdgijnolpjaheaaGreat
open Go.RowKit

theorem put_at (Z : Nat → Prop) (A : Option Addr) (c : Nat) (L : List Sx.Sec) (hL : L.length ≤ 20000) (k : Nat) (b : List Nat) (torn : Bool) (As : Option Addr) (cs : Nat) (hs1 : k ≤ 100000) (hs2 : b.length ≤ 64) (w : World) (hZ : ∀ k, Z k → k < w.heap.size) (h : SecsAt w Z (.slice A L.length c) L) (hA : OwnsZ w Z As cs b) :
    Calls Tryz.prog 58 #[.slice A L.length c, .agg #[.int .i64 (k : Nat), .slice As b.length cs, .bool torn]] w fun e w' => ∃ A' n' c', e = .returned (.slice A' n' c') ∧ SecsAt w' Z (.slice A' n' c') (Sx.putGo ⟨k, b, torn⟩ false L) ∧ Below w.heap.size w w' :=
  (secPut_any Z A c _ L hL ⟨k, b, torn⟩ As cs hs1 hs2 w hZ h hA).mono fun _ _ ⟨v, he, hs, hb⟩ => by
    obtain ⟨A', c', e⟩ := hs.slice
    subst e
    exact ⟨A', _, c', he, hs, hb⟩
namespace Sx
def wrXE (x : Xs) (i : Int) (b : List Nat) : Int := if x.off then 10 else if 0 ≤ i ∧ i < x.n then if 64 < b.length then 2 else if x.left = 0 then 10 else 0 else 3
def wrXS (x : Xs) (i : Int) (b : List Nat) : Xs :=
  if x.off then x else if 0 ≤ i ∧ i < x.n then if 64 < b.length then x else if x.left = 0 then { x with off := true } else { doneS x with cache := upd x.cache i.toNat (some b) } else x
theorem doneS_n (x : Xs) : (doneS x).n = x.n := by unfold doneS; split; rfl; split <;> rfl
theorem doneS_lasts (x : Xs) : (doneS x).lasts = x.lasts := by unfold doneS; split; rfl; split <;> rfl
theorem doneS_cache (x : Xs) : (doneS x).cache = x.cache := by unfold doneS; split; rfl; split <;> rfl
theorem doneS_cl (x : Xs) : (doneS x).cl = x.cl := by unfold Xs.cl Xs.cf; rw [doneS_n, doneS_cache]
theorem doneS_ll (x : Xs) : (doneS x).ll = x.ll := by unfold Xs.ll; rw [doneS_n, doneS_lasts]
theorem put_cl (x : Xs) (k : Nat) (b : List Nat) (hk : k < x.n) : putGo ⟨k, b, false⟩ false x.cl = ({ x with cache := upd x.cache k (some b) } : Xs).cl := by
  unfold Xs.cl
  rw [put_secs x.cf ⟨k, b, false⟩ 0 x.n (Nat.zero_le _) (by show k < 0 + x.n; omega)]
  refine secs_cong _ _ (fun i _ _ => ?_)
  unfold upd Xs.cf
  show (if i = k then some (b, false) else Option.map _ _) = Option.map _ (if i = k then some b else x.cache i)
  split <;> rfl
theorem put_ll (x : Xs) (k : Nat) (b : List Nat) (t : Bool) (hk : k < x.n) : putGo ⟨k, b, t⟩ false x.ll = ({ x with lasts := upd x.lasts k (some (b, t)) } : Xs).ll := by
  unfold Xs.ll
  exact put_secs x.lasts ⟨k, b, t⟩ 0 x.n (Nat.zero_le _) (by show k < 0 + x.n; omega)
end Sx

set_option maxRecDepth 100000 in
set_option maxHeartbeats 1600000 in
theorem refWrite_any (Z : Nat → Prop) (g : Nat) (x : Sx.Xs) (i : Int) (A : Option Addr) (c : Nat) (l : List Nat) (n : Nat) (hn : l.length = n) (w : World) (hZ : ∀ k, Z k → k < w.heap.size) (h : RefAt w Z g x)
    (hin : ∀ w', Turned (fun k => k = g) w w' → IsBytes w' w'.heap.size A l) :
    Calls Tryz.prog 32 #[.pointer (some ⟨g, 0, none⟩), .int .i64 i, .slice A n c] w fun e w' => e = .returned (.int .i64 (Sx.wrXE x i l)) ∧ RefAt w' Z g (Sx.wrXS x i l) ∧ Turned (fun k => k = g) w w' := by
  subst hn
  obtain ⟨A1, k1, A2, k2, c0, c1, c2, c3, c4, hs1, hs2⟩ := h.cells
  have HH := hid h
  have hbd := h.bound
  cases ho : x.off
  · rw [ho] at c2
    by_cases hi : 0 ≤ i ∧ i < x.n
    · have hi1 : ¬ i < 0 := by omega
      have hi2 : ¬ (x.n : Int) ≤ i := by omega
      by_cases hl : 64 < l.length
      · have e1 : Sx.wrXE x i l = 2 := by unfold Sx.wrXE; rw [ho, if_pos hi, if_pos hl]; rfl
        have e2 : Sx.wrXS x i l = x := by unfold Sx.wrXS; rw [ho, if_pos hi, if_pos hl]; rfl
        rw [e1, e2]
        have hl' : (64 : Int) < (l.length : Int) := by omega
        clear h hin e1 e2 hi ho hs1 hs2 hbd hl
        go_enter Tryz.func32, Tryz.ntmps32
        go_wp2
        go_ret
        exact ⟨rfl, HH.out, Turned.refl _ _⟩
      · have hl' : ¬ (64 : Int) < (l.length : Int) := by omega
        have HD := hid (refDone_any Z g x w h)
        by_cases h0 : x.left = 0
        · have e1 : Sx.wrXE x i l = 10 := by unfold Sx.wrXE; rw [ho, if_pos hi, if_neg hl, if_pos h0]; rfl
          have e2 : Sx.wrXS x i l = Sx.doneS x := by unfold Sx.wrXS Sx.doneS; rw [ho, if_pos hi, if_neg hl, if_pos h0, if_pos h0]; rfl
          rw [show decide (x.left ≠ 0) = false by simp [h0]] at HD
          rw [e1, e2]
          clear h hin e1 e2 hi ho hs1 hs2 hbd hl h0
          go_enter Tryz.func32, Tryz.ntmps32
          go_wp2_with fail
          refine HD.out.mono ?_
          rintro e w2 ⟨rfl, hD2, ht2⟩
          go_wp2
          go_ret
          exact ⟨rfl, hD2, ht2⟩
        · obtain ⟨k, rfl⟩ := Int.eq_ofNat_of_zero_le hi.1
          have hk : k < x.n := by omega
          have e1 : Sx.wrXE x k l = 0 := by unfold Sx.wrXE; rw [ho, if_pos hi, if_neg hl, if_neg h0]; rfl
          have e2 : Sx.wrXS x k l = { Sx.doneS x with cache := Sx.upd x.cache k (some l) } := by unfold Sx.wrXS; rw [ho, if_pos hi, if_neg hl, if_neg h0]; simp
          rw [show decide (x.left ≠ 0) = true by simp [h0]] at HD
          rw [e1, e2]
          have HK := hid (And.intro hk hin)
          have hlen : l.length ≤ 64 := by omega
          have hk2 : k ≤ 100000 := by omega
          have hcl : x.cl.length ≤ 20000 := by have := RefAt.len2 x; omega
          clear h hin e1 e2 hi ho hs1 hs2 hbd hl h0 hk
          go_enter Tryz.func32, Tryz.ntmps32
          go_wp2_with fail
          refine HD.out.mono ?_
          rintro e w2 ⟨rfl, hD2, ht2⟩
          obtain ⟨B1, j1, B2, j2, b0, b1, b2, b3, b4, hq1, hq2⟩ := hD2.cells
          rw [Sx.doneS_cl] at b4 hq2
          have f4 := hD2.frozen 4
          have HD2 := hid (And.intro hD2 ht2)
          have HQ := hid hq2
          have hsz := ht2.size
          have hglt := hD2.lt
          have HC := hid (copy_N w2.drew.heap.size A c l l.length rfl (by omega) w2.drew (HK.out.2 _ ht2.drew) (Nat.le_refl _))
          clear hD2 ht2 hq1 hq2 c0 c1 c2 c3 c4 HD HH
          go_wp2_with fail
          go_region_with (first
            | (go_at_call 18; refine HC.out.mono ?_; rintro e w3 ⟨A3, c3, rfl, hown3, hb3⟩; have d4 : w3.cell? ⟨g, 4, none⟩ = some (.slice B2 x.cl.length j2) := (hb3.cell (p := ⟨g, 4, none⟩) hglt).trans b4; have hZ3 : OwnsZ w3 Z A3 c3 l := ⟨hown3.weaken (Nat.zero_le _), fun j hj e => by have h1 := (hown3.blkLt j hj).1; have h2 := hZ j e; have h3 : w2.drew.heap.size = w2.heap.size := rfl; omega⟩; have HP := hid (put_at Z B2 j2 x.cl hcl k l false A3 c3 hk2 hlen w3 (fun j hj => by have h2 := hZ j hj; have h3 : w2.drew.heap.size = w2.heap.size := rfl; have := hb3.size; omega) ((HQ.out.drew).below hb3) hZ3); have HB3 := hid hb3; have hg3 : g < w3.heap.size := Nat.lt_of_lt_of_le hglt hb3.size; clear hown3 hZ3 hb3)
            | (go_at_call 58; refine HP.out.mono ?_; rintro e w4 ⟨A4, n4, c4, rfl, hS4, hb4⟩; have d4' : w4.cell? ⟨g, 4, none⟩ = some (.slice B2 x.cl.length j2) := (hb4.cell (p := ⟨g, 4, none⟩) hg3).trans d4; have hR4 : RefAt w4 Z g (Sx.doneS x) := (HD2.out.1.drew.below HB3.out).below hb4; have f4' := hR4.frozen 4; have H4 := hid (And.intro hS4 (And.intro hR4 hb4)); clear hS4 hR4 hb4))
          all_goals
            (go_wp2
             go_ret
             rw [Sx.put_cl x k l HK.out.1] at H4
             obtain ⟨h5, h6⟩ := H4.out.2.1.setC (x' := { Sx.doneS x with cache := Sx.upd x.cache k (some l) }) (A := A4) (n := n4) (c := c4) (by
               have e : ({ Sx.doneS x with cache := Sx.upd x.cache k (some l) } : Sx.Xs).cl = ({ x with cache := Sx.upd x.cache k (some l) } : Sx.Xs).cl := by
                 unfold Sx.Xs.cl Sx.Xs.cf; simp only [Sx.doneS_n]
               rw [e]; exact H4.out.1) rfl rfl rfl rfl
             exact ⟨rfl, h5, ((HD2.out.2.drew.then_ (Turned.ofBelow (fun k => k = g) HB3.out) (fun _ _ h => h)).then_ (Turned.ofBelow (fun k => k = g) H4.out.2.2) (fun _ _ h => h)).trans h6⟩)
    · have e1 : Sx.wrXE x i l = 3 := by unfold Sx.wrXE; rw [ho, if_neg hi]; rfl
      have e2 : Sx.wrXS x i l = x := by unfold Sx.wrXS; rw [ho, if_neg hi]; rfl
      rw [e1, e2]
      by_cases h0 : i < 0
      · clear h hin e1 e2 hi ho hs1 hs2 hbd
        go_enter Tryz.func32, Tryz.ntmps32
        go_wp2
        go_ret
        exact ⟨rfl, HH.out, Turned.refl _ _⟩
      · have h1 : (x.n : Int) ≤ i := by omega
        clear h hin e1 e2 hi ho hs1 hs2 hbd
        go_enter Tryz.func32, Tryz.ntmps32
        go_wp2
        go_ret
        exact ⟨rfl, HH.out, Turned.refl _ _⟩
  · rw [ho] at c2
    have e1 : Sx.wrXE x i l = 10 := by unfold Sx.wrXE; rw [ho]; rfl
    have e2 : Sx.wrXS x i l = x := by unfold Sx.wrXS; rw [ho]; rfl
    rw [e1, e2]
    clear h hin e1 e2 ho hs1 hs2 hbd
    go_enter Tryz.func32, Tryz.ntmps32
    go_wp2
    go_ret
    exact ⟨rfl, HH.out, Turned.refl _ _⟩
end Go.Proofs.YtdgijnolpjaheaaGreat
namespace Go.Proofs.YtdgijnolpjaheaaGreat
open Go.RowKit

namespace Sx
def settleX (c : Option (List Nat)) (u : Option (List Nat × Bool)) (f : Int) : Option (List Nat × Bool) :=
  match c with
  | none => u
  | some b => if f = 0 then u else if f = 1 then some (b, false) else some ([], true)
def fateC (c : Nat → Option (List Nat)) (l : List Int) (i : Nat) : Int := l.getD (dirtyTo c i).length 0
def flXE (x : Xs) : Int := if x.off then 10 else if x.left = 0 then 10 else 0
def flXS (x : Xs) : Xs :=
  if x.off then x else if x.left = 0 then { x with off := true } else { doneS x with lasts := fun i => settleX (x.cache i) (x.lasts i) 1, cache := fun _ => none }
def crashX (x : Xs) (l : List Int) : Xs :=
  { x with lasts := fun i => settleX (x.cache i) (x.lasts i) (fateC x.cache l i), cache := fun _ => none, left := -1, off := false }
/-- the first k of the dirty sectors are settled -/
def xpart (x : Xs) (F : Nat → Int) (k : Nat) : Xs := { x with lasts := fun i => if i ∈ (dirtyX x).take k then settleX (x.cache i) (x.lasts i) (F i) else x.lasts i }
theorem xpart_zero (x : Xs) (F : Nat → Int) : xpart x F 0 = x := by simp [xpart]
theorem xpart_cl (x : Xs) (F : Nat → Int) (k : Nat) : (xpart x F k).cl = x.cl := rfl
theorem cl_fact (x : Xs) (k : Nat) (h : k < x.cl.length) : x.cl[k].no < x.n ∧ x.cache x.cl[k].no = some x.cl[k].b ∧ x.cl[k].torn = false := by
  obtain ⟨_, h2, h3⟩ := secs_no 0 x.n _ (List.getElem_mem h)
  have h3 : (x.cache x.cl[k].no).map (fun b => (b, false)) = some (x.cl[k].b, x.cl[k].torn) := h3
  refine ⟨by have : x.cl[k].no < 0 + x.n := h2; omega, ?_⟩
  rcases hc : x.cache x.cl[k].no with _ | b
  · rw [hc] at h3; cases h3
  · rw [hc] at h3
    have h4 := Prod.mk.inj (Option.some.inj h3)
    exact ⟨by rw [← h4.1], h4.2.symm⟩
theorem xpart_step (x : Xs) (F : Nat → Int) (k : Nat) (h : k < x.cl.length) (v : Option (List Nat × Bool)) (hv : settleX (x.cache x.cl[k].no) (x.lasts x.cl[k].no) (F x.cl[k].no) = v) :
    upd (xpart x F k).lasts x.cl[k].no v = (xpart x F (k + 1)).lasts := by
  subst hv
  have hs := dirtyX_step x k h
  funext i
  unfold upd xpart
  simp only
  rw [← hs]
  by_cases hi : i = x.cl[k].no
  · subst hi
    rw [if_pos rfl, if_pos (List.mem_append.2 (.inr (List.mem_singleton.2 rfl)))]
  · rw [if_neg hi]
    have : i ∈ (dirtyX x).take k ++ [x.cl[k].no] ↔ i ∈ (dirtyX x).take k := by
      rw [List.mem_append, List.mem_singleton]
      exact ⟨fun h => h.resolve_right hi, .inl⟩
    simp only [this]
theorem xpart_same (x : Xs) (F : Nat → Int) (k : Nat) (h : k < x.cl.length) (hf : F x.cl[k].no = 0) : xpart x F (k + 1) = xpart x F k := by
  have h1 : upd (xpart x F k).lasts x.cl[k].no (x.lasts x.cl[k].no) = (xpart x F (k + 1)).lasts := by
    refine xpart_step x F k h _ ?_
    rw [hf]
    unfold settleX
    split
    · rfl
    · rw [if_pos rfl]
  have hn : x.cl[k].no ∉ (dirtyX x).take k := by
    intro hm
    obtain ⟨j, hj, e⟩ := List.getElem_of_mem hm
    rw [List.length_take] at hj
    rw [List.getElem_take, cl_no x k h] at e
    have := (List.getElem_inj (dirtyTo_nodup x.cache x.n)).1 e
    omega
  have h2 : (xpart x F k).lasts x.cl[k].no = x.lasts x.cl[k].no := by
    unfold xpart
    simp only
    rw [if_neg hn]
  have h3 : (xpart x F (k + 1)).lasts = (xpart x F k).lasts := by
    rw [← h1, ← h2]
    funext i
    unfold upd
    split
    · rename_i e; rw [e]
    · rfl
  show ({ x with lasts := (xpart x F (k + 1)).lasts } : Xs) = { x with lasts := (xpart x F k).lasts }
  rw [h3]
theorem xpart_end (x : Xs) (F : Nat → Int) (i : Nat) (h : i < x.n) : (xpart x F x.cl.length).lasts i = settleX (x.cache i) (x.lasts i) (F i) := by
  unfold xpart
  simp only
  rw [cl_length, List.take_length]
  by_cases hi : i ∈ dirtyX x
  · rw [if_pos hi]
  · rw [if_neg hi]
    have : x.cache i = none := by
      rcases hc : x.cache i with _ | b
      · rfl
      · exact absurd (mem_dirtyTo.2 ⟨h, by rw [hc]; rfl⟩) hi
    rw [this]
    rfl
theorem fateC_cl (x : Xs) (l : List Int) (k : Nat) (h : k < x.cl.length) : fateC x.cache l x.cl[k].no = l.getD k 0 := by
  unfold fateC
  have hk : k < (dirtyTo x.cache x.n).length := by have := cl_length x; unfold dirtyX at this; omega
  have h1 := rk_get x.cache x.n k hk
  rw [cl_no x k h]
  show l.getD (dirtyTo x.cache ((dirtyTo x.cache x.n)[k]'hk)).length 0 = _
  rw [h1]
end Sx
/-- put of a sector of the cache, and its store -/
theorem RefAt.put_store {w4 : World} {Z : Nat → Prop} {g : Nat} {x : Sx.Xs} {F : Nat → Int} {k : Nat} (hk : k < x.cl.length) {b : List Nat} {t : Bool} (hv : Sx.settleX (x.cache x.cl[k].no) (x.lasts x.cl[k].no) (F x.cl[k].no) = some (b, t))
    (h : RefAt w4 Z g (Sx.xpart x F k)) {A : Option Addr} {n c : Nat} (hs : SecsAt w4 Z (.slice A n c) (Sx.putGo ⟨x.cl[k].no, b, t⟩ false (Sx.xpart x F k).ll)) :
    RefAt (w4.setCell ⟨g, 3, none⟩ (.slice A n c)) Z g (Sx.xpart x F (k + 1)) ∧ Turned (fun k => k = g) w4 (w4.setCell ⟨g, 3, none⟩ (.slice A n c)) := by
  refine h.setL (x' := Sx.xpart x F (k + 1)) ?_ rfl rfl rfl rfl
  rw [Sx.put_ll (Sx.xpart x F k) x.cl[k].no b t (Sx.cl_fact x k hk).1] at hs
  have e : (Sx.xpart x F (k + 1)).ll = ({ Sx.xpart x F k with lasts := Sx.upd (Sx.xpart x F k).lasts x.cl[k].no (some (b, t)) } : Sx.Xs).ll := by
    rw [Sx.xpart_step x F k hk _ hv]; rfl
  rw [e]
  exact hs

set_option maxRecDepth 100000 in
set_option maxHeartbeats 1600000 in
theorem refFlush_any (Z : Nat → Prop) (g : Nat) (x : Sx.Xs) (w : World) (hZ : ∀ k, Z k → k < w.heap.size) (h : RefAt w Z g x) :
    Calls Tryz.prog 34 #[.pointer (some ⟨g, 0, none⟩)] w fun e w' => e = .returned (.int .i64 (Sx.flXE x)) ∧ RefAt w' Z g (Sx.flXS x) ∧ Turned (fun k => k = g) w w' := by
  obtain ⟨A1, k1, A2, k2, c0, c1, c2, c3, c4, _, _⟩ := h.cells
  have HH := hid h
  cases ho : x.off
  · rw [ho] at c2
    have HD := hid (refDone_any Z g x w h)
    by_cases h0 : x.left = 0
    · have e1 : Sx.flXE x = 10 := by unfold Sx.flXE; rw [ho, if_pos h0]; rfl
      have e2 : Sx.flXS x = Sx.doneS x := by unfold Sx.flXS Sx.doneS; rw [ho, if_pos h0, if_pos h0]; rfl
      rw [show decide (x.left ≠ 0) = false by simp [h0]] at HD
      rw [e1, e2]
      clear h e1 e2 ho h0
      go_enter Tryz.func34, Tryz.ntmps34
      go_wp2_with fail
      refine HD.out.mono ?_
      rintro e w2 ⟨rfl, hD2, ht2⟩
      go_wp2
      go_ret
      exact ⟨rfl, hD2, ht2⟩
    · have e1 : Sx.flXE x = 0 := by unfold Sx.flXE; rw [ho, if_neg h0]; rfl
      have e2 : Sx.flXS x = { Sx.doneS x with lasts := fun i => Sx.settleX (x.cache i) (x.lasts i) 1, cache := fun _ => none } := by unfold Sx.flXS; rw [ho, if_neg h0]; rfl
      rw [show decide (x.left ≠ 0) = true by simp [h0]] at HD
      rw [e1, e2]
      obtain ⟨y, hy⟩ : ∃ y, y = Sx.doneS x := ⟨_, rfl⟩
      have ec : x.cache = y.cache := by rw [hy, Sx.doneS_cache]
      have el : x.lasts = y.lasts := by rw [hy, Sx.doneS_lasts]
      rw [ec, el, ← hy]
      rw [← hy] at HD
      clear h e1 e2 ho h0 ec el hy
      go_enter Tryz.func34, Tryz.ntmps34
      go_wp2_with fail
      refine HD.out.mono ?_
      rintro e w2 ⟨rfl, hD2, ht2⟩
      have hcl : y.cl.length ≤ 20000 := by have := RefAt.len2 y; have := hD2.bound; omega
      have hyn := hD2.bound
      have HS : Hid (RefAt w2 Z g (Sx.xpart y (fun _ => 1) 0) ∧ Turned (fun k => k = g) w w2) := hid ⟨by rw [Sx.xpart_zero]; exact hD2, ht2⟩
      clear hD2 ht2 HD HH c0 c1 c2 c3 c4
      go_wp2_with fail
      go_loopw [3] (fun iv wr => ∃ k : Nat, k ≤ y.cl.length ∧ iv = .int .i64 k ∧ Hid (RefAt wr Z g (Sx.xpart y (fun _ => 1) k) ∧ Turned (fun k => k = g) w wr)) (fun i _ => y.cl.length - (RowKit.intOf i).toNat)
      case atStart => exact ⟨0, by omega, rfl, HS⟩
      case round =>
        clear HS
        obtain ⟨k, hk, rfl, hS⟩ := hrel
        obtain ⟨B1, j1, B2, j2, b0, b1, b2, b3, b4, hq1, hq2⟩ := hS.out.1.cells
        rw [Sx.xpart_cl] at b4 hq2
        by_cases hlt : k < y.cl.length
        · obtain ⟨hno, hca, hto⟩ := Sx.cl_fact y k hlt
          obtain ⟨g2, A', c', rfl, _, d0, d1, d2, hA, hx1, hx2⟩ := hq2.at_ k hlt
          rw [hto] at d2
          have hk0 : (k : Int) < (y.cl.length : Int) := by omega
          have hglt := hS.out.1.lt
          have hzw : ∀ j, Z j → j < wr.heap.size := fun j hj => by have := hZ j hj; have := hS.out.2.size; omega
          have hll : (Sx.xpart y (fun _ => 1) k).ll.length ≤ 20000 := by have h1 := RefAt.len1 (Sx.xpart y (fun _ => 1) k); have h2 : (Sx.xpart y (fun _ => 1) k).n = y.n := rfl; omega
          have HP := hid (put_at Z B1 j1 (Sx.xpart y (fun _ => 1) k).ll hll y.cl[k].no y.cl[k].b false A' c' hx1 hx2 wr.drew hzw hq1.drew (hA.keep (Turned.ofDrewN Z wr 1)))
          have HV : Hid (Sx.settleX (y.cache y.cl[k].no) (y.lasts y.cl[k].no) 1 = some (y.cl[k].b, false)) := hid (by rw [hca]; rfl)
          have HLT := hid hlt
          clear hq1 hq2 hA hno hca hto hll hzw
          go_wp2_with fail
          go_region_with (go_at_call 58; refine HP.out.mono ?_; rintro e w4 ⟨A4, n4, c4, rfl, hS4, hb4⟩; have d4 : w4.cell? ⟨g, 3, none⟩ = some (.slice B1 (Sx.xpart y (fun _ => 1) k).ll.length j1) := (hb4.cell (p := ⟨g, 3, none⟩) hglt).trans b3; have hR4 : RefAt w4 Z g (Sx.xpart y (fun _ => 1) k) := hS.out.1.drew.below hb4; have f4 := hR4.frozen 3; have H4 := hid (And.intro hS4 (And.intro hR4 hb4)); clear hS4 hR4 hb4)
          all_goals
            (go_wp2_with fail
             have h5 := RefAt.put_store HLT.out HV.out H4.out.2.1 H4.out.1
             have h6 := ((hS.out.2.drew.then_ (Turned.ofBelow (fun k => k = g) H4.out.2.2) (fun _ _ h => h)).trans h5.2)
             first
             | (refine ⟨⟨k + 1, by omega, by go_num, hid ⟨h5.1, h6⟩⟩, by simp [RowKit.intOf]; omega⟩)
             | (go_roundw
                case rel => exact ⟨k + 1, by omega, by go_num, hid ⟨h5.1, h6⟩⟩
                case measure => simp [RowKit.intOf]; omega))
        · obtain rfl : k = y.cl.length := by omega
          have f4 := hS.out.1.frozen 4
          have HX := hid hS.out.1
          clear hq1 hq2 hlt hk
          go_wp2_with fail
          go_ret
          have e0 : ({ Sx.xpart y (fun _ => 1) y.cl.length with cache := fun _ => none } : Sx.Xs).cl = [] := Sx.secs_none _ _
          obtain ⟨h5, h6⟩ := HX.out.setC (x' := { Sx.xpart y (fun _ => 1) y.cl.length with cache := fun _ => none }) (A := none) (n := 0) (c := 0) (by rw [e0]; exact SecsAt.nil _ _) rfl rfl rfl rfl
          exact ⟨rfl, h5.congr rfl rfl rfl (fun i hi => (Sx.xpart_end y (fun _ => 1) i hi).symm) (fun _ _ => rfl), hS.out.2.trans h6⟩
  · rw [ho] at c2
    have e1 : Sx.flXE x = 10 := by unfold Sx.flXE; rw [ho]; rfl
    have e2 : Sx.flXS x = x := by unfold Sx.flXS; rw [ho]; rfl
    rw [e1, e2]
    clear h e1 e2 ho
    go_enter Tryz.func34, Tryz.ntmps34
    go_wp2
    go_ret
    exact ⟨rfl, HH.out, Turned.refl _ _⟩
end Go.Proofs.YtdgijnolpjaheaaGreat
namespace Go.Proofs.YtdgijnolpjaheaaGreat
open Go.RowKit

theorem RefAt.powered {w : World} {Z : Nat → Prop} {g : Nat} {x : Sx.Xs} (h : RefAt w Z g x) :
    RefAt ((w.setCell ⟨g, 1, none⟩ (.int .i64 (-1))).setCell ⟨g, 2, none⟩ (.bool false)) Z g { x with left := -1, off := false } ∧ Turned (fun j => j = g) w ((w.setCell ⟨g, 1, none⟩ (.int .i64 (-1))).setCell ⟨g, 2, none⟩ (.bool false)) := by
  have ht : Turned (fun j => j = g) w ((w.setCell ⟨g, 1, none⟩ (.int .i64 (-1))).setCell ⟨g, 2, none⟩ (.bool false)) := Turned.two _ _ _ _ _ _
  refine ⟨h.head ht rfl rfl rfl ⟨by show (-1 : Int) ≤ -1; omega, by show (-1 : Int) ≤ 9223372036854775807; omega⟩ (fun a b hd => ?_), ht⟩
  simp [World.setCell, Array.getElem?_modify, hd]

set_option maxRecDepth 100000 in
set_option maxHeartbeats 3200000 in
theorem refCrash_any (Z : Nat → Prop) (g : Nat) (x : Sx.Xs) (A : Option Addr) (c : Nat) (l : List Int) (n : Nat) (hn : l.length = n) (w : World) (hZ : ∀ k, Z k → k < w.heap.size) (h : RefAt w Z g x)
    (hin : ∀ w', Turned (fun k => k = g) w w' → IsInts w' w'.heap.size A l) :
    Calls Tryz.prog 28 #[.pointer (some ⟨g, 0, none⟩), .slice A n c] w fun e w' => e = .returned (.tuple #[]) ∧ RefAt w' Z g (Sx.crashX x l) ∧ Turned (fun k => k = g) w w' := by
  subst hn
  have hcl : x.cl.length ≤ 20000 := by have := RefAt.len2 x; have := h.bound; omega
  have hyn := h.bound
  have HN := hid hin
  have HS : Hid (RefAt w Z g (Sx.xpart x (Sx.fateC x.cache l) 0) ∧ Turned (fun k => k = g) w w) := hid ⟨by rw [Sx.xpart_zero]; exact h, Turned.refl _ _⟩
  clear h hin
  go_enter Tryz.func28, Tryz.ntmps28
  go_wp2_with fail
  go_loopw [4] (fun iv wr => ∃ k : Nat, k ≤ x.cl.length ∧ iv = .int .i64 k ∧ Hid (RefAt wr Z g (Sx.xpart x (Sx.fateC x.cache l) k) ∧ Turned (fun k => k = g) w wr)) (fun i _ => x.cl.length - (RowKit.intOf i).toNat)
  case atStart => exact ⟨0, by omega, rfl, HS⟩
  case round =>
    clear HS
    obtain ⟨k, hk, rfl, hS⟩ := hrel
    obtain ⟨B1, j1, B2, j2, b0, b1, b2, b3, b4, hq1, hq2⟩ := hS.out.1.cells
    rw [Sx.xpart_cl] at b4 hq2
    by_cases hlt : k < x.cl.length
    · obtain ⟨hno, hca, hto⟩ := Sx.cl_fact x k hlt
      obtain ⟨g2, A', c', rfl, _, d0, d1, d2, hA, hx1, hx2⟩ := hq2.at_ k hlt
      rw [hto] at d2
      have hk0 : (k : Int) < (x.cl.length : Int) := by omega
      have hglt := hS.out.1.lt
      have hzw : ∀ j, Z j → j < wr.heap.size := fun j hj => by have := hZ j hj; have := hS.out.2.size; omega
      have hll : (Sx.xpart x (Sx.fateC x.cache l) k).ll.length ≤ 20000 := by have h1 := RefAt.len1 (Sx.xpart x (Sx.fateC x.cache l) k); have h2 : (Sx.xpart x (Sx.fateC x.cache l) k).n = x.n := rfl; omega
      by_cases hj : k < l.length
      · obtain ⟨bl, off, rfl, _, hcl⟩ := (HN.out wr hS.out.2).cells k hj
        have hcell := hcl k hj
        have hj0 : (k : Int) < (l.length : Int) := by omega
        have hf : Sx.fateC x.cache l x.cl[k].no = l[k] := by rw [Sx.fateC_cl x l k hlt, List.getD_eq_getElem?_getD, List.getElem?_eq_getElem hj]; rfl
        clear hcl
        by_cases hf0 : l[k] = 0
        · have he := Sx.xpart_same x (Sx.fateC x.cache l) k hlt (by rw [hf, hf0])
          rw [hf0] at hcell
          have HE := hid he
          have HLT := hid hlt
          have HJ := hid hj
          clear hq1 hq2 hA hno hca hto hll hzw hf hf0 he
          go_wp2_with fail
          first
          | (refine ⟨⟨k + 1, by omega, by go_num, hid (by rw [HE.out]; exact hS.out)⟩, by simp [RowKit.intOf]; omega⟩)
          | (go_roundw
             case rel => exact ⟨k + 1, by omega, by go_num, hid (by rw [HE.out]; exact hS.out)⟩
             case measure => simp [RowKit.intOf]; omega)
        · by_cases hf1 : l[k] = 1
          · have HP := hid (put_at Z B1 j1 (Sx.xpart x (Sx.fateC x.cache l) k).ll hll x.cl[k].no x.cl[k].b false A' c' hx1 hx2 wr.drew hzw hq1.drew (hA.keep (Turned.ofDrewN Z wr 1)))
            have HV : Hid (Sx.settleX (x.cache x.cl[k].no) (x.lasts x.cl[k].no) (Sx.fateC x.cache l x.cl[k].no) = some (x.cl[k].b, false)) := hid (by rw [hca, hf, hf1]; rfl)
            rw [hf1] at hcell
            have HF1 := hid hf1
            have HLT := hid hlt
            have HJ := hid hj
            clear hq1 hq2 hA hno hca hto hll hzw hf hf0 hf1
            go_wp2_with fail
            go_region_with (go_at_call 58; refine HP.out.mono ?_; rintro e w4 ⟨A4, n4, c4, rfl, hS4, hb4⟩; have d4 : w4.cell? ⟨g, 3, none⟩ = some (.slice B1 (Sx.xpart x (Sx.fateC x.cache l) k).ll.length j1) := (hb4.cell (p := ⟨g, 3, none⟩) hglt).trans b3; have hR4 : RefAt w4 Z g (Sx.xpart x (Sx.fateC x.cache l) k) := hS.out.1.drew.below hb4; have f4 := hR4.frozen 3; have H4 := hid (And.intro hS4 (And.intro hR4 hb4)); clear hS4 hR4 hb4)
            all_goals
             (have h5 := RefAt.put_store HLT.out HV.out H4.out.2.1 H4.out.1
              have h6 := ((hS.out.2.drew.then_ (Turned.ofBelow (fun k => k = g) H4.out.2.2) (fun _ _ h => h)).trans h5.2)
              obtain ⟨w5, hw5⟩ : ∃ w5, w5 = w4.setCell ⟨g, 3, none⟩ (.slice A4 n4 c4) := ⟨_, rfl⟩
              rw [← hw5]
              have h5' : RefAt w5 Z g (Sx.xpart x (Sx.fateC x.cache l) (k + 1)) ∧ Turned (fun k => k = g) w w5 := by rw [hw5]; exact ⟨h5.1, h6⟩
              obtain ⟨bl2, off2, e2, _, hcl2⟩ := (HN.out w5 h5'.2).cells k HJ.out
              injection e2 with e2
              injection e2 with e2a e2b
              subst e2a
              subst e2b
              have hcell5 := hcl2 k HJ.out
              rw [HF1.out] at hcell5
              have H5 := hid h5'
              clear hw5 h5 h6 h5' hcl2 hcell
              go_wp2_with fail
              first
              | (refine ⟨⟨k + 1, by have := HLT.out; omega, by go_num, H5⟩, by simp [RowKit.intOf]; have := HLT.out; omega⟩)
              | (go_roundw
                 case rel => exact ⟨k + 1, by have := HLT.out; omega, by go_num, H5⟩
                 case measure => simp [RowKit.intOf]; have := HLT.out; omega))
          · have HP := hid (put_at Z B1 j1 (Sx.xpart x (Sx.fateC x.cache l) k).ll hll x.cl[k].no [] true none 0 hx1 (by simp) wr.drew hzw hq1.drew (OwnsZ.nil _ _))
            have HV : Hid (Sx.settleX (x.cache x.cl[k].no) (x.lasts x.cl[k].no) (Sx.fateC x.cache l x.cl[k].no) = some ([], true)) := hid (by rw [hca, hf]; simp [Sx.settleX, hf0, hf1])
            obtain ⟨v, hv⟩ : ∃ v, v = l[k] := ⟨_, rfl⟩
            rw [← hv] at hcell hf0 hf1
            have f1 : (v == 1) = false := by simp [hf1]
            have f2 : (v != 0) = true := by simp [hf0]
            have f3 : (v != 1) = true := by simp [hf1]
            have HLT := hid hlt
            have HJ := hid hj
            clear hq1 hq2 hA hno hca hto hll hzw hf hv
            go_wp2_with fail
            go_region_with (go_at_call 58; refine HP.out.mono ?_; rintro e w4 ⟨A4, n4, c4, rfl, hS4, hb4⟩; have d4 : w4.cell? ⟨g, 3, none⟩ = some (.slice B1 (Sx.xpart x (Sx.fateC x.cache l) k).ll.length j1) := (hb4.cell (p := ⟨g, 3, none⟩) hglt).trans b3; have hR4 : RefAt w4 Z g (Sx.xpart x (Sx.fateC x.cache l) k) := hS.out.1.drew.below hb4; have f4 := hR4.frozen 3; have H4 := hid (And.intro hS4 (And.intro hR4 hb4)); clear hS4 hR4 hb4)
            all_goals
             (have h5 := RefAt.put_store HLT.out HV.out H4.out.2.1 H4.out.1
              have h6 := ((hS.out.2.drew.then_ (Turned.ofBelow (fun k => k = g) H4.out.2.2) (fun _ _ h => h)).trans h5.2)
              obtain ⟨w5, hw5⟩ : ∃ w5, w5 = w4.setCell ⟨g, 3, none⟩ (.slice A4 n4 c4) := ⟨_, rfl⟩
              rw [← hw5]
              have h5' : RefAt w5 Z g (Sx.xpart x (Sx.fateC x.cache l) (k + 1)) ∧ Turned (fun k => k = g) w w5 := by rw [hw5]; exact ⟨h5.1, h6⟩
              have H5 := hid h5'
              clear hw5 h5 h6 h5'
              go_wp2_with fail
              first
              | (refine ⟨⟨k + 1, by have := HLT.out; omega, by go_num, H5⟩, by simp [RowKit.intOf]; have := HLT.out; omega⟩)
              | (go_roundw
                 case rel => exact ⟨k + 1, by have := HLT.out; omega, by go_num, H5⟩
                 case measure => simp [RowKit.intOf]; have := HLT.out; omega))
      · have hj0 : ¬ (k : Int) < (l.length : Int) := by omega
        have he := Sx.xpart_same x (Sx.fateC x.cache l) k hlt (by rw [Sx.fateC_cl x l k hlt, List.getD_eq_getElem?_getD, List.getElem?_eq_none (by omega)]; rfl)
        have HE := hid he
        have HLT := hid hlt
        clear hq1 hq2 hA hno hca hto hll hzw he
        go_wp2_with fail
        first
        | (refine ⟨⟨k + 1, by omega, by go_num, hid (by rw [HE.out]; exact hS.out)⟩, by simp [RowKit.intOf]; omega⟩)
        | (go_roundw
           case rel => exact ⟨k + 1, by omega, by go_num, hid (by rw [HE.out]; exact hS.out)⟩
           case measure => simp [RowKit.intOf]; omega)
    · obtain rfl : k = x.cl.length := by omega
      have f1 := hS.out.1.frozen 1
      have f2 := hS.out.1.frozen 2
      have f4 := hS.out.1.frozen 4
      have HX := hid hS.out.1
      clear hq1 hq2 hlt hk
      go_wp2_with fail
      go_end0
      have e0 : ({ Sx.xpart x (Sx.fateC x.cache l) x.cl.length with cache := fun _ => none } : Sx.Xs).cl = [] := Sx.secs_none _ _
      obtain ⟨h5, h6⟩ := HX.out.setC (x' := { Sx.xpart x (Sx.fateC x.cache l) x.cl.length with cache := fun _ => none }) (A := none) (n := 0) (c := 0) (by rw [e0]; exact SecsAt.nil _ _) rfl rfl rfl rfl
      obtain ⟨h7, ht⟩ := h5.powered
      exact ⟨rfl, h7.congr rfl rfl rfl (fun i hi => (Sx.xpart_end x (Sx.fateC x.cache l) i hi).symm) (fun _ _ => rfl), (hS.out.2.trans h6).trans ht⟩
end Go.Proofs.YtdgijnolpjaheaaGreat
