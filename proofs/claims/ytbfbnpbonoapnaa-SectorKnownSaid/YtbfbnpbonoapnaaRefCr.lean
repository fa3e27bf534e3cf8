/- The walk through the document's Crash. -/
import Derived.Test.YtbfbnpbonoapnaaRefFl
namespace Go.Proofs.Ytbfbnpbonoapnaa
open Go.RowKit

theorem RefAt.powered {w : World} {Z : Nat → Prop} {g : Nat} {x : Sx.Xs} (h : RefAt w Z g x) :
    RefAt ((w.setCell ⟨g, 1, none⟩ (.int .i64 (-1))).setCell ⟨g, 2, none⟩ (.bool false)) Z g { x with left := -1, off := false } ∧ Turned (fun j => j = g) w ((w.setCell ⟨g, 1, none⟩ (.int .i64 (-1))).setCell ⟨g, 2, none⟩ (.bool false)) := by
  have ht : Turned (fun j => j = g) w ((w.setCell ⟨g, 1, none⟩ (.int .i64 (-1))).setCell ⟨g, 2, none⟩ (.bool false)) := Turned.two _ _ _ _ _ _
  refine ⟨h.head ht rfl rfl rfl ⟨by show (-1 : Int) ≤ -1; omega, by show (-1 : Int) ≤ 9223372036854775807; omega⟩ (fun a b hd => ?_), ht⟩
  simp [World.setCell, Array.getElem?_modify, hd]

set_option maxRecDepth 100000 in
set_option maxHeartbeats 3200000 in
theorem refCrash_any (Z : Nat → Prop) (g : Nat) (x : Sx.Xs) (A : Option Addr) (c : Nat) (l : List Int) (n : Nat) (hn : l.length = n) (w : World) (hZ : ∀ k, Z k → k < w.heap.size) (h : RefAt w Z g x)
    (hin : ∀ w', Turned (fun k => k = g) w w' → IsInts w' w'.heap.size A l) :
    Calls Try.prog 38 #[.pointer (some ⟨g, 0, none⟩), .slice A n c] w fun e w' => e = .returned (.tuple #[]) ∧ RefAt w' Z g (Sx.crashX x l) ∧ Turned (fun k => k = g) w w' := by
  subst hn
  have hcl : x.cl.length ≤ 20000 := by have := RefAt.len2 x; have := h.bound; omega
  have hyn := h.bound
  have HN := hid hin
  have HS : Hid (RefAt w Z g (Sx.xpart x (Sx.fateC x.cache l) 0) ∧ Turned (fun k => k = g) w w) := hid ⟨by rw [Sx.xpart_zero]; exact h, Turned.refl _ _⟩
  clear h hin
  go_enter Try.func38, Try.ntmps38
  go_wp2_with fail
  go_loopw [4] (fun iv wr => ∃ k : Nat, k ≤ x.cl.length ∧ iv = .int .i64 k ∧ Hid (RefAt wr Z g (Sx.xpart x (Sx.fateC x.cache l) k) ∧ Turned (fun k => k = g) w wr)) (fun i _ => x.cl.length - (RowKit.intOf i).toNat)
  case atStart => exact ⟨0, by omega, rfl, HS⟩
  case round =>
    clear HS
    obtain ⟨k, hk, rfl, hS⟩ := hrel
    obtain ⟨B1, j1, B2, j2, b0, b1, b2, b3, b4, hq1, hq2⟩ := hS.out.1.cells
    rw [Sx.xpart_cl] at b4 hq2
    by_cases hlt : k < x.cl.length
    · obtain ⟨hno, hca, hto⟩ := Sx.cl_fact x k hlt
      obtain ⟨g2, A', c', rfl, _, d0, d1, d2, hA, hx1, hx2⟩ := hq2.at_ k hlt
      rw [hto] at d2
      have hk0 : (k : Int) < (x.cl.length : Int) := by omega
      have hglt := hS.out.1.lt
      have hzw : ∀ j, Z j → j < wr.heap.size := fun j hj => by have := hZ j hj; have := hS.out.2.size; omega
      have hll : (Sx.xpart x (Sx.fateC x.cache l) k).ll.length ≤ 20000 := by have h1 := RefAt.len1 (Sx.xpart x (Sx.fateC x.cache l) k); have h2 : (Sx.xpart x (Sx.fateC x.cache l) k).n = x.n := rfl; omega
      by_cases hj : k < l.length
      · obtain ⟨bl, off, rfl, _, hcl⟩ := (HN.out wr hS.out.2).cells k hj
        have hcell := hcl k hj
        have hj0 : (k : Int) < (l.length : Int) := by omega
        have hf : Sx.fateC x.cache l x.cl[k].no = l[k] := by rw [Sx.fateC_cl x l k hlt, List.getD_eq_getElem?_getD, List.getElem?_eq_getElem hj]; rfl
        clear hcl
        by_cases hf0 : l[k] = 0
        · have he := Sx.xpart_same x (Sx.fateC x.cache l) k hlt (by rw [hf, hf0])
          rw [hf0] at hcell
          have HE := hid he
          have HLT := hid hlt
          have HJ := hid hj
          clear hq1 hq2 hA hno hca hto hll hzw hf hf0 he
          go_wp2_with fail
          first
          | (refine ⟨⟨k + 1, by omega, by go_num, hid (by rw [HE.out]; exact hS.out)⟩, by simp [RowKit.intOf]; omega⟩)
          | (go_roundw
             case rel => exact ⟨k + 1, by omega, by go_num, hid (by rw [HE.out]; exact hS.out)⟩
             case measure => simp [RowKit.intOf]; omega)
        · by_cases hf1 : l[k] = 1
          · have HP := hid (put_at Z B1 j1 (Sx.xpart x (Sx.fateC x.cache l) k).ll hll x.cl[k].no x.cl[k].b false A' c' hx1 hx2 wr.drew hzw hq1.drew (hA.keep (Turned.ofDrewN Z wr 1)))
            have HV : Hid (Sx.settleX (x.cache x.cl[k].no) (x.lasts x.cl[k].no) (Sx.fateC x.cache l x.cl[k].no) = some (x.cl[k].b, false)) := hid (by rw [hca, hf, hf1]; rfl)
            rw [hf1] at hcell
            have HF1 := hid hf1
            have HLT := hid hlt
            have HJ := hid hj
            clear hq1 hq2 hA hno hca hto hll hzw hf hf0 hf1
            go_wp2_with fail
            go_region_with (go_at_call 50; refine HP.out.mono ?_; rintro e w4 ⟨A4, n4, c4, rfl, hS4, hb4⟩; have d4 : w4.cell? ⟨g, 3, none⟩ = some (.slice B1 (Sx.xpart x (Sx.fateC x.cache l) k).ll.length j1) := (hb4.cell (p := ⟨g, 3, none⟩) hglt).trans b3; have hR4 : RefAt w4 Z g (Sx.xpart x (Sx.fateC x.cache l) k) := hS.out.1.drew.below hb4; have f4 := hR4.frozen 3; have H4 := hid (And.intro hS4 (And.intro hR4 hb4)); clear hS4 hR4 hb4)
            all_goals
             (have h5 := RefAt.put_store HLT.out HV.out H4.out.2.1 H4.out.1
              have h6 := ((hS.out.2.drew.then_ (Turned.ofBelow (fun k => k = g) H4.out.2.2) (fun _ _ h => h)).trans h5.2)
              obtain ⟨w5, hw5⟩ : ∃ w5, w5 = w4.setCell ⟨g, 3, none⟩ (.slice A4 n4 c4) := ⟨_, rfl⟩
              rw [← hw5]
              have h5' : RefAt w5 Z g (Sx.xpart x (Sx.fateC x.cache l) (k + 1)) ∧ Turned (fun k => k = g) w w5 := by rw [hw5]; exact ⟨h5.1, h6⟩
              obtain ⟨bl2, off2, e2, _, hcl2⟩ := (HN.out w5 h5'.2).cells k HJ.out
              injection e2 with e2
              injection e2 with e2a e2b
              subst e2a
              subst e2b
              have hcell5 := hcl2 k HJ.out
              rw [HF1.out] at hcell5
              have H5 := hid h5'
              clear hw5 h5 h6 h5' hcl2 hcell
              go_wp2_with fail
              first
              | (refine ⟨⟨k + 1, by have := HLT.out; omega, by go_num, H5⟩, by simp [RowKit.intOf]; have := HLT.out; omega⟩)
              | (go_roundw
                 case rel => exact ⟨k + 1, by have := HLT.out; omega, by go_num, H5⟩
                 case measure => simp [RowKit.intOf]; have := HLT.out; omega))
          · have HP := hid (put_at Z B1 j1 (Sx.xpart x (Sx.fateC x.cache l) k).ll hll x.cl[k].no [] true none 0 hx1 (by simp) wr.drew hzw hq1.drew (OwnsZ.nil _ _))
            have HV : Hid (Sx.settleX (x.cache x.cl[k].no) (x.lasts x.cl[k].no) (Sx.fateC x.cache l x.cl[k].no) = some ([], true)) := hid (by rw [hca, hf]; simp [Sx.settleX, hf0, hf1])
            obtain ⟨v, hv⟩ : ∃ v, v = l[k] := ⟨_, rfl⟩
            rw [← hv] at hcell hf0 hf1
            have f1 : (v == 1) = false := by simp [hf1]
            have f2 : (v != 0) = true := by simp [hf0]
            have f3 : (v != 1) = true := by simp [hf1]
            have HLT := hid hlt
            have HJ := hid hj
            clear hq1 hq2 hA hno hca hto hll hzw hf hv
            go_wp2_with fail
            go_region_with (go_at_call 50; refine HP.out.mono ?_; rintro e w4 ⟨A4, n4, c4, rfl, hS4, hb4⟩; have d4 : w4.cell? ⟨g, 3, none⟩ = some (.slice B1 (Sx.xpart x (Sx.fateC x.cache l) k).ll.length j1) := (hb4.cell (p := ⟨g, 3, none⟩) hglt).trans b3; have hR4 : RefAt w4 Z g (Sx.xpart x (Sx.fateC x.cache l) k) := hS.out.1.drew.below hb4; have f4 := hR4.frozen 3; have H4 := hid (And.intro hS4 (And.intro hR4 hb4)); clear hS4 hR4 hb4)
            all_goals
             (have h5 := RefAt.put_store HLT.out HV.out H4.out.2.1 H4.out.1
              have h6 := ((hS.out.2.drew.then_ (Turned.ofBelow (fun k => k = g) H4.out.2.2) (fun _ _ h => h)).trans h5.2)
              obtain ⟨w5, hw5⟩ : ∃ w5, w5 = w4.setCell ⟨g, 3, none⟩ (.slice A4 n4 c4) := ⟨_, rfl⟩
              rw [← hw5]
              have h5' : RefAt w5 Z g (Sx.xpart x (Sx.fateC x.cache l) (k + 1)) ∧ Turned (fun k => k = g) w w5 := by rw [hw5]; exact ⟨h5.1, h6⟩
              have H5 := hid h5'
              clear hw5 h5 h6 h5'
              go_wp2_with fail
              first
              | (refine ⟨⟨k + 1, by have := HLT.out; omega, by go_num, H5⟩, by simp [RowKit.intOf]; have := HLT.out; omega⟩)
              | (go_roundw
                 case rel => exact ⟨k + 1, by have := HLT.out; omega, by go_num, H5⟩
                 case measure => simp [RowKit.intOf]; have := HLT.out; omega))
      · have hj0 : ¬ (k : Int) < (l.length : Int) := by omega
        have he := Sx.xpart_same x (Sx.fateC x.cache l) k hlt (by rw [Sx.fateC_cl x l k hlt, List.getD_eq_getElem?_getD, List.getElem?_eq_none (by omega)]; rfl)
        have HE := hid he
        have HLT := hid hlt
        clear hq1 hq2 hA hno hca hto hll hzw he
        go_wp2_with fail
        first
        | (refine ⟨⟨k + 1, by omega, by go_num, hid (by rw [HE.out]; exact hS.out)⟩, by simp [RowKit.intOf]; omega⟩)
        | (go_roundw
           case rel => exact ⟨k + 1, by omega, by go_num, hid (by rw [HE.out]; exact hS.out)⟩
           case measure => simp [RowKit.intOf]; omega)
    · obtain rfl : k = x.cl.length := by omega
      have f1 := hS.out.1.frozen 1
      have f2 := hS.out.1.frozen 2
      have f4 := hS.out.1.frozen 4
      have HX := hid hS.out.1
      clear hq1 hq2 hlt hk
      go_wp2_with fail
      go_end0
      have e0 : ({ Sx.xpart x (Sx.fateC x.cache l) x.cl.length with cache := fun _ => none } : Sx.Xs).cl = [] := Sx.secs_none _ _
      obtain ⟨h5, h6⟩ := HX.out.setC (x' := { Sx.xpart x (Sx.fateC x.cache l) x.cl.length with cache := fun _ => none }) (A := none) (n := 0) (c := 0) (by rw [e0]; exact SecsAt.nil _ _) rfl rfl rfl rfl
      obtain ⟨h7, ht⟩ := h5.powered
      exact ⟨rfl, h7.congr rfl rfl rfl (fun i hi => (Sx.xpart_end x (Sx.fateC x.cache l) i hi).symm) (fun _ _ => rfl), (hS.out.2.trans h6).trans ht⟩
end Go.Proofs.Ytbfbnpbonoapnaa
