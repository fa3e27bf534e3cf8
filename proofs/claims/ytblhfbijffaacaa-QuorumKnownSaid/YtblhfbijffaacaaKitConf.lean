/- The walks through the functions that statements share: members copied, members held against one another. -/
import Derived.Test.YtblhfbijffaacaaConf
import Derived.Test.YtblhfbijffaacaaCopyInts
import Derived.Test.YtblhfbijffaacaaKitIntN
import Derived.Deep.RegionHeld3
namespace Go.Proofs.Ytblhfbijffaacaa
open Go.RowKit

set_option maxHeartbeats 1000000 in
theorem sameConf_any (B B' : Nat) (c d : Qu.Cf) (hs0 : Short c) (hd0 : Short d) (a0 a1 a2 b0 b1 b2 : Option Addr) (k0 k1 k2 m0 m1 m2 : Nat) (w : World) (h0 : CIs w B c a0 a1 a2 k0 k1 k2) (h0' : CIs w B' d b0 b1 b2 m0 m1 m2) (hB : B ≤ w.heap.size) (hB' : B' ≤ w.heap.size) (he : c = d) :
    Calls Try.prog 23 #[.agg #[.slice a0 c.old.length k0, .slice a1 c.new.length k1, .slice a2 c.lrn.length k2], .agg #[.slice b0 d.old.length m0, .slice b1 d.new.length m1, .slice b2 d.lrn.length m2]] w fun e w' => e = .returned (.bool true) ∧ Below w.heap.size w w' := by
  subst he
  have hbel : Below w.heap.size w ((w.alloc (.cells #[.slice a0 c.old.length k0, .slice a1 c.new.length k1, .slice a2 c.lrn.length k2] 24)).alloc (.cells #[.slice b0 c.old.length m0, .slice b1 c.new.length m1, .slice b2 c.lrn.length m2] 24)) := ((Below.refl _ _).alloc (Nat.le_refl _) _).alloc (by simp) _
  have HO := hid (fun j : Nat => sameI_T (n := c.old.length) (m := c.old.length) (c := k0) (c' := m0) rfl rfl (by have := hs0.1; omega) rfl (((h0.below (hbel.mono hB)).o).drewN j) (((h0'.below (hbel.mono hB')).o).drewN j))
  have HN := hid (fun j : Nat => sameI_T (n := c.new.length) (m := c.new.length) (c := k1) (c' := m1) rfl rfl (by have := hs0.2.1; omega) rfl (((h0.below (hbel.mono hB)).n).drewN j) (((h0'.below (hbel.mono hB')).n).drewN j))
  have HL := hid (fun j : Nat => sameI_T (n := c.lrn.length) (m := c.lrn.length) (c := k2) (c' := m2) rfl rfl (by have := hs0.2.2; omega) rfl (((h0.below (hbel.mono hB)).l).drewN j) (((h0'.below (hbel.mono hB')).l).drewN j))
  have HB := hid hbel
  clear hbel h0 h0' hs0 hd0
  go_enter Try.func23, Try.ntmps23
  go_wp2_with fail
  refine (HO.out 0).mono ?_
  rintro e w1 ⟨rfl, n1, rfl⟩
  go_wp2_with fail
  refine (HN.out _).mono ?_
  rintro e w1 ⟨rfl, n2, rfl⟩
  go_wp2_with fail
  refine (HL.out (n1 + n2)).mono ?_
  rintro e w1 ⟨rfl, n3, rfl⟩
  go_wp2
  go_ret
  exact ⟨rfl, below_drewN HB.out _⟩

theorem ownsI_cap {e : TypeId} {w : World} {base c : Nat} {A : Option Addr} {l : List Int} (h : OwnsI e w base A c l) : (A = none → c = 0) ∧ l.length ≤ c ∧ c ≤ maxLen := by
  rcases h.row.2 with ⟨hv, h0⟩ | ⟨g, cap, cur, hv, _, _, h1, h2, _, _⟩
  · have h2 : c = 0 := by injection hv
    exact ⟨fun _ => h2, by omega, by omega⟩
  · have h3 : c = cap := by injection hv
    refine ⟨fun e => ?_, by omega, by omega⟩
    subst e
    cases hv

set_option maxRecDepth 100000 in
set_option maxHeartbeats 2000000 in
theorem copyConf_any (B : Nat) (c : Qu.Cf) (hs0 : Short c) (a0 a1 a2 : Option Addr) (k0 k1 k2 : Nat) (w : World) (h0 : CIs w B c a0 a1 a2 k0 k1 k2) (hB : B ≤ w.heap.size) :
    Calls Try.prog 11 #[.agg #[.slice a0 c.old.length k0, .slice a1 c.new.length k1, .slice a2 c.lrn.length k2]] w fun e w' => ∃ A0 A1 A2 p0 p1 p2, e = .returned (.agg #[.slice A0 c.old.length p0, .slice A1 c.new.length p1, .slice A2 c.lrn.length p2]) ∧ CIs w' w'.heap.size c A0 A1 A2 p0 p1 p2 ∧ Below w.heap.size w w' := by
  obtain ⟨wb, hwb⟩ : ∃ wb, wb = (w.alloc (.cells #[.slice a0 c.old.length k0, .slice a1 c.new.length k1, .slice a2 c.lrn.length k2] 24)).alloc (.cells #[.slice none 0 0, .slice none 0 0, .slice none 0 0] 24) := ⟨_, rfl⟩
  have hbel : Below w.heap.size w wb := by rw [hwb]; exact ((Below.refl _ _).alloc (Nat.le_refl _) _).alloc (by simp) _
  have hsz : wb.heap.size = w.heap.size + 2 := by rw [hwb]; simp
  have hrow : wb.heap[w.heap.size]? = some (.cells #[.slice a0 c.old.length k0, .slice a1 c.new.length k1, .slice a2 c.lrn.length k2] 24 (0, 0)) := by rw [hwb, Below.heap_alloc _ _ _ (by simp)]; exact heap_alloc_new w _
  have hrow2 : wb.heap[w.heap.size + 1]? = some (.cells #[.slice none 0 0, .slice none 0 0, .slice none 0 0] 24 (0, 0)) := by
    rw [hwb]
    have := heap_alloc_new (w.alloc (.cells #[.slice a0 c.old.length k0, .slice a1 c.new.length k1, .slice a2 c.lrn.length k2] 24)) (.cells #[.slice none 0 0, .slice none 0 0, .slice none 0 0] 24)
    rwa [World.size_alloc] at this
  have hI := h0.below (hbel.mono hB)
  have HX : Hid (∀ w', Below wb.drew.heap.size wb.drew w' → w'.cell? ⟨w.heap.size, 0, none⟩ = some (.slice a0 c.old.length k0) ∧ w'.cell? ⟨w.heap.size, 1, none⟩ = some (.slice a1 c.new.length k1) ∧ w'.cell? ⟨w.heap.size, 2, none⟩ = some (.slice a2 c.lrn.length k2)) := hid fun w' hb => by
    have h1 : w'.heap[w.heap.size]? = _ := (hb.block w.heap.size (by show w.heap.size < wb.heap.size; omega)).trans hrow
    exact ⟨cell_of_row w' w.heap.size 0 _ _ _ h1, cell_of_row w' w.heap.size 1 _ _ _ h1, cell_of_row w' w.heap.size 2 _ _ _ h1⟩
  have HK : Hid (∀ w' v0 v1 v2, Below wb.drew.heap.size wb.drew w' → (((w'.setCell ⟨w.heap.size + 1, 0, none⟩ v0).setCell ⟨w.heap.size + 1, 1, none⟩ v1).setCell ⟨w.heap.size + 1, 2, none⟩ v2).cell? ⟨w.heap.size, 0, none⟩ = some (.slice a0 c.old.length k0) ∧ (((w'.setCell ⟨w.heap.size + 1, 0, none⟩ v0).setCell ⟨w.heap.size + 1, 1, none⟩ v1).setCell ⟨w.heap.size + 1, 2, none⟩ v2).cell? ⟨w.heap.size, 1, none⟩ = some (.slice a1 c.new.length k1) ∧ (((w'.setCell ⟨w.heap.size + 1, 0, none⟩ v0).setCell ⟨w.heap.size + 1, 1, none⟩ v1).setCell ⟨w.heap.size + 1, 2, none⟩ v2).cell? ⟨w.heap.size, 2, none⟩ = some (.slice a2 c.lrn.length k2)) := hid fun w' v0 v1 v2 hb => by
    have h1 : w'.heap[w.heap.size]? = _ := (hb.block w.heap.size (by show w.heap.size < wb.heap.size; omega)).trans hrow
    have h2 : (((w'.setCell ⟨w.heap.size + 1, 0, none⟩ v0).setCell ⟨w.heap.size + 1, 1, none⟩ v1).setCell ⟨w.heap.size + 1, 2, none⟩ v2).heap[w.heap.size]? = w'.heap[w.heap.size]? := by
      rw [Below.heap_setCell _ _ _ _ (show w.heap.size ≠ w.heap.size + 1 by omega), Below.heap_setCell _ _ _ _ (show w.heap.size ≠ w.heap.size + 1 by omega), Below.heap_setCell _ _ _ _ (show w.heap.size ≠ w.heap.size + 1 by omega)]
    have h2 := h2.trans h1
    exact ⟨cell_of_row _ w.heap.size 0 _ _ _ h2, cell_of_row _ w.heap.size 1 _ _ _ h2, cell_of_row _ w.heap.size 2 _ _ _ h2⟩
  have HZ : Hid (∀ w', Below wb.drew.heap.size wb.drew w' → (w'.cell? ⟨w.heap.size + 1, 0, none⟩ = some (.slice none 0 0) ∧ w'.cell? ⟨w.heap.size + 1, 1, none⟩ = some (.slice none 0 0) ∧ w'.cell? ⟨w.heap.size + 1, 2, none⟩ = some (.slice none 0 0)) ∧ (∀ k, w'.frozen? ⟨w.heap.size + 1, k, none⟩ = false)) := hid fun w' hb => by
    have h1 : w'.heap[w.heap.size + 1]? = _ := (hb.block (w.heap.size + 1) (by show w.heap.size + 1 < wb.heap.size; omega)).trans hrow2
    exact ⟨⟨cell_of_row w' (w.heap.size + 1) 0 _ _ _ h1, cell_of_row w' (w.heap.size + 1) 1 _ _ _ h1, cell_of_row w' (w.heap.size + 1) 2 _ _ _ h1⟩, fun k => by simp [World.frozen?, h1]⟩
  have HZR : Hid (∀ w', Below wb.drew.heap.size wb.drew w' → w'.heap[w.heap.size + 1]? = some (.cells #[.slice none 0 0, .slice none 0 0, .slice none 0 0] 24 (0, 0))) := hid fun w' hb => (hb.block (w.heap.size + 1) (by show w.heap.size + 1 < wb.heap.size; omega)).trans hrow2
  have hd : wb.drew.heap.size = wb.heap.size := rfl
  have HD := hid (And.intro hd hsz)
  have CP : ∀ (A : Option Addr) (k : Nat) (l : List Int), l.length ≤ 300 → IsInts wb B A l → ∀ w', Below wb.drew.heap.size wb.drew w' → Calls Try.prog 28 #[.slice A l.length k] w' fun e w'' => ∃ A' p, e = .returned (.slice A' l.length p) ∧ Hid (OwnsI 3 w'' w'.heap.size A' p l) ∧ Hid (Below wb.drew.heap.size wb.drew w'') ∧ Hid (Below w'.heap.size w' w'') := fun A k l hl hi w' hb =>
    (I.copy_any B A k l (by omega) w' (hi.drew.below (hb.mono (by show B ≤ wb.heap.size; omega))) (by have := hb.size; omega)).mono fun e w'' ⟨A', p, he, ho, hb2⟩ => ⟨A', p, he, hid ho, hid (bthen hb hb2 hb.size), hid hb2⟩
  have HC0 := hid (CP a0 k0 c.old hs0.1 hI.o wb.drew (Below.refl _ _))
  have HC1 := hid (CP a1 k1 c.new hs0.2.1 hI.n)
  have HC2 := hid (CP a2 k2 c.lrn hs0.2.2 hI.l)
  have c0 := (HX.out wb.drew (Below.refl _ _)).1
  have c1 := (HX.out wb.drew (Below.refl _ _)).2.1
  have c2 := (HX.out wb.drew (Below.refl _ _)).2.2
  have HB := hid hbel
  clear hbel hI h0 hs0 hsz hrow hrow2 hd CP
  go_enter Try.func11, Try.ntmps11
  go_wp2_with fail
  rw [← hwb]; clear hwb
  go_region_held3 (fun w' => w'.cell? ⟨w.heap.size, 0, none⟩ = some (.slice a0 c.old.length k0) ∧ w'.cell? ⟨w.heap.size, 1, none⟩ = some (.slice a1 c.new.length k1) ∧ w'.cell? ⟨w.heap.size, 2, none⟩ = some (.slice a2 c.lrn.length k2))
    (first | exact ⟨c0, c1, c2⟩ | exact HK.out _ _ _ _ hb3.out | exact HX.out _ hb3.out | exact HX.out _ hb2.out | exact HX.out _ hb1.out | fail)
    (first
      | (go_at_call 28; refine HY2.out.mono ?_; rintro e3 w3 ⟨A2, p2, rfl, ho2, hb3, hbb3⟩; obtain ⟨⟨z0, z1, z2⟩, fz⟩ := HZ.out w3 hb3.out; have f0 := fz 0; have f1 := fz 1; have f2 := fz 2)
      | (go_at_call 28; refine HY1.out.mono ?_; rintro e2 w2 ⟨A1, p1, rfl, ho1, hb2, hbb2⟩; have HY2 := hid (HC2.out w2 hb2.out))
      | (go_at_call 28; refine HC0.out.mono ?_; rintro e1 w1 ⟨A0, p0, rfl, ho0, hb1, hbb1⟩; have HY1 := hid (HC1.out w1 hb1.out)))
  obtain ⟨w4, hw4⟩ : ∃ w4, w4 = ((w3.setCell ⟨w.heap.size + 1, 0, none⟩ (.slice A0 c.old.length p0)).setCell ⟨w.heap.size + 1, 1, none⟩ (.slice A1 c.new.length p1)).setCell ⟨w.heap.size + 1, 2, none⟩ (.slice A2 c.lrn.length p2) := ⟨_, rfl⟩
  rw [← hw4]
  have hx3 := HZR.out w3 hb3.out
  have hx4 : w4.heap[w.heap.size + 1]? = some (.cells #[.slice A0 c.old.length p0, .slice A1 c.new.length p1, .slice A2 c.lrn.length p2] 24 (0, 0)) := by
    rw [hw4]
    simp [World.setCell, Array.getElem?_modify, hx3]
  have hg : w3.grownBy w4 (some (w.heap.size + 1)) := by
    rw [hw4]
    refine ⟨rfl, rfl, rfl, by simp [World.setCell], fun k hk hne => ?_⟩
    have hne' : k ≠ w.heap.size + 1 := fun e => hne (by rw [e])
    rw [Below.heap_setCell _ _ _ _ hne', Below.heap_setCell _ _ _ _ hne', Below.heap_setCell _ _ _ _ hne']
  have r0 : w4.cell? ⟨w.heap.size + 1, 0, none⟩ = some (.slice A0 c.old.length p0) := by simp [World.cell?, hx4]
  have r1 : w4.cell? ⟨w.heap.size + 1, 1, none⟩ = some (.slice A1 c.new.length p1) := by simp [World.cell?, hx4]
  have r2 : w4.cell? ⟨w.heap.size + 1, 2, none⟩ = some (.slice A2 c.lrn.length p2) := by simp [World.cell?, hx4]
  have HG := hid hg
  clear hw4 hx3 hx4 hg HK fz f0 f1 f2 z0 z1 z2
  go_wp2
  refine bodyPost_ret (by simp [results, Try.results11, go_sem, r0, r1, r2]; try rfl) rfl ?_
  have hs0 := HD.out.1
  have hs1 := HD.out.2
  have hz1 := hb1.out.size
  have hz2 := hb2.out.size
  have o0 := ((ho0.out.below (hbb2.out)).below hbb3.out).grown HG.out (fun k e => by injection e with e; omega)
  have o1 := (ho1.out.below hbb3.out).grown HG.out (fun k e => by injection e with e; omega)
  have o2 := ho2.out.grown HG.out (fun k e => by injection e with e; omega)
  refine ⟨A0, A1, A2, p0, p1, p2, rfl, ⟨o0.reads, o1.reads, o2.reads, (ownsI_cap o0).1, (ownsI_cap o1).1, (ownsI_cap o2).1, (ownsI_cap o0).2, (ownsI_cap o1).2, (ownsI_cap o2).2⟩, ?_⟩
  exact ((Below.drew HB.out).trans (hb3.out.mono (by omega))).grown HG.out (by have := hb3.out.size; omega) (fun k e => by injection e with e; omega)
end Go.Proofs.Ytblhfbijffaacaa
