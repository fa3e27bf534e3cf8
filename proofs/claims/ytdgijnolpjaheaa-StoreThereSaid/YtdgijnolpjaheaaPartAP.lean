/- Texts of the proof, one behind the other: StDoes, StDoes2, StDoes3, StIs, RowsIn. -/
import Derived.Test.YtdgijnolpjaheaaPartAO
import Derived.Test.YtdgijnolpjaheaaRows
import Derived.Test.YtdgijnolpjaheaaPartAA
import Derived.Test.YtdgijnolpjaheaaPartAF
import Derived.Deep.Slices
import Derived.Deep.Fields
import Derived.ChangeSame
import Derived.WalkLawsBesides
import Derived.ProofKit
import Derived.OpenShut
namespace Go.Proofs.Ytdgijnolpjaheaa
open Go.RowKit

namespace T
set_option maxRecDepth 100000 in
set_option maxHeartbeats 2000000 in
theorem does_new (w0 w : World) (d : Dk) (s : Sx.St) (g gj n : Nat) (e st : Int) (p : List Nat) (L : List (List Nat)) (c' : Nat) (h : SG w0 w d s g gj 4 n e st p L c') (hst : st ≠ 2) (hn1 : 1 ≤ n) (he : e + 1 ≤ 1099511627776)
    (th : Bool) (Ac : Option Addr) (cc kp : Nat) (Ar : Option Addr) (cr kL : Nat) (ar : Option Addr) (kd cd : Nat) (dt : List Nat) (cut : Int) (al : Option Addr) (kf cf : Nat) (hkd : dt.length = kd) (hcd : kd ≤ cd) (hcm : cd ≤ maxLen) (hz : ar = none → cd = 0) (hdt : IsBytes w w.heap.size ar dt) :
    Calls Try.prog 22 #[.pointer (some ⟨g, 0, none⟩), .agg #[.bool th, .slice Ac kp cc, .slice Ar kL cr, .int .i64 e], .agg #[.bool true, .slice ar kd cd, .int .i64 cut, .slice al kf cf]] w fun e' w' => ∃ (q : List Nat) (m : Nat) (E : Int), e' = .returned (.tuple #[.agg #[.bool true, .slice ar m cd, .slice none 0 0, .int .i64 (e + 1)], .int .i64 E]) ∧ Hid (q = dt.take m ∧ m = min kd 120 ∧ RDid w0 w d s g gj 4 n e st p L c' q E w' ∧ Turned (fun b => d.has b ∨ b = g) w w') := by
  obtain ⟨wb, hwb⟩ : ∃ wb, wb = ((w.alloc (.cells #[.bool th, .slice Ac kp cc, .slice Ar kL cr, .int .i64 e] 48)).alloc (.cells #[.bool true, .slice ar kd cd, .int .i64 cut, .slice al kf cf] 50)).alloc (.cells #[.bool false, .slice none 0 0, .slice none 0 0, .int .i64 0] 48) := ⟨_, rfl⟩
  have hz4 : 0 ≤ e := h.sizes.2.2.2.1
  have hcd2 : cd ≤ 9223372036854775807 := by unfold maxLen at hcm; omega
  have HX := hid (And.intro h (And.intro hdt (And.intro hkd (And.intro hz hcm))))
  clear h hdt hkd hz
  go_enter Try.func22, Try.ntmps22
  go_wp2_with fail
  obtain ⟨m, hm⟩ : ∃ m : Nat, (min (kd : Int) 120).toNat = m := ⟨_, rfl⟩
  rw [hm, ← hwb]
  have hmk : m = min kd 120 := by omega
  have hmk2 : m ≤ kd := by omega
  have hsb : wb.heap.size = w.heap.size + 1 + 1 + 1 := by rw [hwb]; simp
  have hbb : Below w.heap.size w wb := by
    rw [hwb]
    exact (((Below.refl _ w).alloc (Nat.le_refl _) _).alloc (by simp) _).alloc (by simp; omega) _
  have hx0 : wb.heap[w.heap.size]? = some (.cells #[.bool th, .slice Ac kp cc, .slice Ar kL cr, .int .i64 e] 48 (0, 0)) := by
    rw [hwb, Below.heap_alloc _ _ _ (by simp; omega), Below.heap_alloc _ _ _ (by simp)]; exact heap_alloc_new w _
  have hx2 : wb.heap[w.heap.size + 1 + 1]? = some (.cells #[.bool false, .slice none 0 0, .slice none 0 0, .int .i64 0] 48 (0, 0)) := by
    have := heap_alloc_new ((w.alloc (.cells #[.bool th, .slice Ac kp cc, .slice Ar kL cr, .int .i64 e] 48)).alloc (.cells #[.bool true, .slice ar kd cd, .int .i64 cut, .slice al kf cf] 50)) (.cells #[.bool false, .slice none 0 0, .slice none 0 0, .int .i64 0] 48)
    rw [World.size_alloc, World.size_alloc] at this
    rw [hwb]; exact this
  have c3 : wb.cell? ⟨w.heap.size, 3, none⟩ = some (.int .i64 e) := by simp [World.cell?, hx0]
  obtain ⟨q, hq⟩ : ∃ q, q = dt.take m := ⟨_, rfl⟩
  have hql : q.length = m := by rw [hq, List.length_take, HX.out.2.2.1]; omega
  have hqi : IsBytes wb.drew wb.drew.heap.size ar q := by
    have h1 := (HX.out.2.1.take m).below hbb
    rw [← hq] at h1
    exact (h1.more hbb.size).below (Below.refl _ _).drew
  have HR := hid (renew_any w0 d s g gj 4 n e st p L c' wb.drew (HX.out.1.below (hbb.drew)) hst hn1 he ar cd q m hql (by omega) (by omega) hcm HX.out.2.2.2.1 hqi)
  have HW := hid (And.intro hsb (And.intro hbb (And.intro hx2 (And.intro hq hmk))))
  have hlt := HX.out.1.lt
  have hdl := HX.out.1.disk.at_.lt
  have HSB : Hid (∀ b, b < wb.heap.size → w.heap.size ≤ b → ∀ w', Turned (fun b => d.has b ∨ b = g) wb.drew w' → w'.heap[b]? = wb.heap[b]?) := hid (fun b hb1 hb2 w' ht => ht.block b hb1 (fun hh => by
    rcases hh with hh | hh
    · have := hdl _ hh; omega
    · omega))
  have hx0' := hx0
  have HS : Hid (∀ w', Turned (fun b => d.has b ∨ b = g) wb.drew w' → w'.cell? ⟨w.heap.size, 3, none⟩ = some (.int .i64 e)) := hid (fun w' ht => by
    have h1 := (HSB.out w.heap.size (by have := HW.out.1; omega) (Nat.le_refl _) w' ht).trans hx0'
    simp [World.cell?, h1])
  have HK : Hid (∀ w' v0 v1 v2 v3, Turned (fun b => d.has b ∨ b = g) wb.drew w' → ((((w'.setCell ⟨w.heap.size + 1 + 1, 0, none⟩ v0).setCell ⟨w.heap.size + 1 + 1, 1, none⟩ v1).setCell ⟨w.heap.size + 1 + 1, 2, none⟩ v2).setCell ⟨w.heap.size + 1 + 1, 3, none⟩ v3).cell? ⟨w.heap.size, 3, none⟩ = some (.int .i64 e)) := hid (fun w' v0 v1 v2 v3 ht => by
    have h1 := (HSB.out w.heap.size (by have := HW.out.1; omega) (Nat.le_refl _) w' ht).trans hx0'
    have hne : ¬ w.heap.size + 1 + 1 = w.heap.size := by omega
    simp [World.cell?, World.setCell, Array.getElem?_modify, h1, hne])
  have HF : Hid (∀ w', Turned (fun b => d.has b ∨ b = g) wb.drew w' → w'.cell? ⟨w.heap.size + 1 + 1, 0, none⟩ = some (.bool false) ∧ w'.cell? ⟨w.heap.size + 1 + 1, 1, none⟩ = some (.slice none 0 0) ∧ w'.cell? ⟨w.heap.size + 1 + 1, 2, none⟩ = some (.slice none 0 0) ∧ w'.cell? ⟨w.heap.size + 1 + 1, 3, none⟩ = some (.int .i64 0) ∧ ∀ k, w'.frozen? ⟨w.heap.size + 1 + 1, k, none⟩ = false) := hid (fun w' ht => by
    have h1 := (HSB.out (w.heap.size + 1 + 1) (by have := HW.out.1; omega) (by omega) w' ht).trans HW.out.2.2.1
    simp [World.cell?, World.frozen?, h1])
  have c3W : wb.drew.cell? ⟨w.heap.size, 3, none⟩ = some (.int .i64 e) := c3
  clear hx0' hlt hdl c3 hx0 hx2 hsb hbb hql hqi hq hm hmk hwb
  go_region_held3 (fun w' => w'.cell? ⟨w.heap.size, 3, none⟩ = some (.int .i64 e))
    (first | exact c3W | exact HS.out _ h3.out.2 | exact HK.out _ _ _ _ _ h3.out.2 | fail)
    (first
      | (go_at_call 24; refine HR.out.mono ?_; rintro e3 w3 ⟨E, rfl, h3⟩; obtain ⟨s0, s1, s2, s3, fz⟩ := HF.out w3 h3.out.2; have f0 := fz 0; have f1 := fz 1; have f2 := fz 2; have f3 := fz 3))
  have hwr : IntKind.i64.wrap (e + 1) = e + 1 := by
    clear s0 s1 s2 s3 fz f0 f1 f2 f3
    exact IntWalk.i64_in _ ⟨by omega, by omega⟩
  rw [hwr]
  clear fz f0 f1 f2 f3 s0 s1 s2 s3
  obtain ⟨w4, hw4⟩ : ∃ w4, w4 = (((w3.setCell ⟨w.heap.size + 1 + 1, 0, none⟩ (.bool true)).setCell ⟨w.heap.size + 1 + 1, 1, none⟩ (.slice ar m cd)).setCell ⟨w.heap.size + 1 + 1, 2, none⟩ (.slice none 0 0)).setCell ⟨w.heap.size + 1 + 1, 3, none⟩ (.int .i64 (e + 1)) := ⟨_, rfl⟩
  rw [← hw4]
  have hx3 := (HSB.out (w.heap.size + 1 + 1) (by have := HW.out.1; omega) (by omega) w3 h3.out.2).trans HW.out.2.2.1
  have hx4 : w4.heap[w.heap.size + 1 + 1]? = some (.cells #[.bool true, .slice ar m cd, .slice none 0 0, .int .i64 (e + 1)] 48 (0, 0)) := by
    rw [hw4]
    simp [World.setCell, Array.getElem?_modify, hx3]
  have hT4 : Turned (fun k => k = w.heap.size + 1 + 1) w3 w4 := by
    rw [hw4]
    exact (Turned.two w3 (w.heap.size + 1 + 1) 0 1 _ _).trans (Turned.two _ (w.heap.size + 1 + 1) 2 3 _ _)
  have r0 : w4.cell? ⟨w.heap.size + 1 + 1, 0, none⟩ = some (.bool true) := by simp [World.cell?, hx4]
  have r1 : w4.cell? ⟨w.heap.size + 1 + 1, 1, none⟩ = some (.slice ar m cd) := by simp [World.cell?, hx4]
  have r2 : w4.cell? ⟨w.heap.size + 1 + 1, 2, none⟩ = some (.slice none 0 0) := by simp [World.cell?, hx4]
  have r3 : w4.cell? ⟨w.heap.size + 1 + 1, 3, none⟩ = some (.int .i64 (e + 1)) := by simp [World.cell?, hx4]
  have H4 := hid (And.intro hx3 hT4)
  clear hw4 hx3 hx4 hT4 HK HS HSB HF HR
  go_wp2
  refine bodyPost_ret (by simp [results, Try.results22, go_sem, r0, r1, r2, r3]; try rfl) rfl ?_
  have hlt := HX.out.1.lt
  have hdl := HX.out.1.disk.at_.lt
  have hoff : Off w3 w4 d (w.heap.size + 1 + 1) w0.heap.size := ⟨⟨_, _, H4.out.1, by decide, by decide, by decide⟩, fun hh => by have := hdl _ hh; omega, by have := HX.out.1.disk.bel.size; omega, H4.out.2⟩
  refine ⟨q, m, E, rfl, hid ⟨HW.out.2.2.2.1, HW.out.2.2.2.2, hoff.rdid (h3.out.1.from (w := w) (by have := HW.out.1; show _ ≤ wb.heap.size; omega)), ?_⟩⟩
  exact ((Turned.ofBelow _ HW.out.2.1.drew).trans h3.out.2).then_ (S' := fun k => k = w.heap.size + 1 + 1) H4.out.2 (fun k hk he => by omega)
end T
end Go.Proofs.Ytdgijnolpjaheaa
namespace Go.Proofs.Ytdgijnolpjaheaa
open Go.RowKit

namespace T
set_option maxRecDepth 100000 in
set_option maxHeartbeats 2000000 in
theorem does_app (w0 w : World) (d : Dk) (s : Sx.St) (g gj : Nat) (hd : DM w0 w d s) (hg : w0.heap.size ≤ g ∧ g < w.heap.size) (hgj : w0.heap.size ≤ gj ∧ gj < w.heap.size) (e : Int) (L : List (List Nat)) (R : Int → World → Prop)
    (hoff : ∀ E b w1 w2, Off w1 w2 d b w0.heap.size → R E w1 → R E w2)
    (th : Bool) (Ac : Option Addr) (cc kp : Nat) (Ar : Option Addr) (cr kL : Nat) (hkL : L.length = kL) (hkL2 : kL ≤ 1000) (hL : IsRows w Ar L) (ar : Option Addr) (kd cd : Nat) (dt : List Nat) (cut : Int) (al : Option Addr) (kf cf : Nat) (hkd : dt.length = kd) (hcd : kd ≤ cd) (hcm : cd ≤ maxLen) (hz : ar = none → cd = 0) (hdt : IsBytes w w0.heap.size ar dt)
    (q : List Nat) (m : Nat) (hq : q = dt.take m) (hm : m = min kd 120)
    (hR : ∀ wA, Below w.heap.size w wA → Calls Try.prog 23 #[.pointer (some ⟨g, 0, none⟩), .slice ar m cd] wA fun e' w' => ∃ E, e' = .returned (.int .i64 E) ∧ Hid (R E w' ∧ Turned (fun b => d.has b ∨ b = g ∨ b = gj) wA w')) :
    Calls Try.prog 22 #[.pointer (some ⟨g, 0, none⟩), .agg #[.bool th, .slice Ac kp cc, .slice Ar kL cr, .int .i64 e], .agg #[.bool false, .slice ar kd cd, .int .i64 cut, .slice al kf cf]] w fun e' w' => ∃ (E : Int) (A2 : Option Addr) (c2 : Nat), e' = .returned (.tuple #[.agg #[.bool th, .slice Ac kp cc, .slice A2 (kL + 1) c2, .int .i64 e], .int .i64 E]) ∧ Hid (R E w' ∧ Turned (fun b => d.has b ∨ b = g ∨ b = gj) w w' ∧ RowsB w' w0.heap.size w.heap.size (.slice A2 (kL + 1) c2) (L ++ [q])) := by
  obtain ⟨wb, hwb⟩ : ∃ wb, wb = (((w.alloc (.cells #[.bool th, .slice Ac kp cc, .slice Ar kL cr, .int .i64 e] 48)).alloc (.cells #[.bool false, .slice ar kd cd, .int .i64 cut, .slice al kf cf] 50)).alloc (.cells #[.bool false, .slice none 0 0, .slice none 0 0, .int .i64 0] 48)).alloc (.cells #[.bool th, .slice Ac kp cc, .slice Ar kL cr, .int .i64 e] 48) := ⟨_, rfl⟩
  have hcd2 : cd ≤ 9223372036854775807 := by unfold maxLen at hcm; omega
  have HX := hid (And.intro (And.intro hd (And.intro hg hgj)) (And.intro hoff (And.intro (And.intro hkL hL) (And.intro (And.intro hdt (And.intro hkd (And.intro hz hcm))) (And.intro (And.intro hq hm) hR)))))
  clear hd hg hgj hoff hkL hL hdt hkd hz hR hq hm
  go_enter Try.func22, Try.ntmps22
  go_wp2_with fail
  rw [show (min (kd : Int) 120).toNat = m from by have := HX.out.2.2.2.2.1.2; omega, ← hwb]
  have hsb : wb.heap.size = w.heap.size + 1 + 1 + 1 + 1 := by rw [hwb]; simp
  have hbb : Below w.heap.size w wb := by
    rw [hwb]
    exact ((((Below.refl _ w).alloc (Nat.le_refl _) _).alloc (by simp) _).alloc (by simp; omega) _).alloc (by simp; omega) _
  have hx2 : wb.heap[w.heap.size + 1 + 1]? = some (.cells #[.bool false, .slice none 0 0, .slice none 0 0, .int .i64 0] 48 (0, 0)) := by
    have := heap_alloc_new ((w.alloc (.cells #[.bool th, .slice Ac kp cc, .slice Ar kL cr, .int .i64 e] 48)).alloc (.cells #[.bool false, .slice ar kd cd, .int .i64 cut, .slice al kf cf] 50)) (.cells #[.bool false, .slice none 0 0, .slice none 0 0, .int .i64 0] 48)
    rw [World.size_alloc, World.size_alloc] at this
    rw [hwb, Below.heap_alloc _ _ _ (by simp)]; exact this
  have hx3 : wb.heap[w.heap.size + 1 + 1 + 1]? = some (.cells #[.bool th, .slice Ac kp cc, .slice Ar kL cr, .int .i64 e] 48 (0, 0)) := by
    have := heap_alloc_new (((w.alloc (.cells #[.bool th, .slice Ac kp cc, .slice Ar kL cr, .int .i64 e] 48)).alloc (.cells #[.bool false, .slice ar kd cd, .int .i64 cut, .slice al kf cf] 50)).alloc (.cells #[.bool false, .slice none 0 0, .slice none 0 0, .int .i64 0] 48)) (.cells #[.bool th, .slice Ac kp cc, .slice Ar kL cr, .int .i64 e] 48)
    rw [World.size_alloc, World.size_alloc, World.size_alloc] at this
    rw [hwb]; exact this
  have HW := hid (And.intro hsb (And.intro hbb (And.intro hx2 hx3)))
  have hw0 : w0.heap.size ≤ wb.heap.size := by have := HX.out.1.1.bel.size; omega
  have HC := hid (copy_rows Ar cr L kL HX.out.2.2.1.1 (by omega) wb (HX.out.2.2.1.2.below hbb) w0.heap.size hw0)
  have hql : q.length = m := by rw [HX.out.2.2.2.2.1.1, List.length_take, HX.out.2.2.2.1.2.1]; have := HX.out.2.2.2.2.1.2; omega
  have hqi : IsBytes w w0.heap.size ar q := by rw [HX.out.2.2.2.2.1.1]; exact HX.out.2.2.2.1.1.take m
  have HQ := hid (And.intro hql (And.intro hqi (And.intro HX.out.2.2.2.1.2.2.1 HX.out.2.2.2.2.1.2)))
  clear hwb hsb hbb hx2 hx3 hql hqi
  refine HC.out.mono ?_
  rintro e7 w7 ⟨A7, c7, rfl, hR7, hb7⟩
  have hb7a : Below wb.heap.size wb (w7.alloc (.cells #[.slice ar m cd] 32)) := hb7.alloc hb7.size _
  have HE : Hid (Elm (w7.alloc (.cells #[.slice ar m cd] 32)) w0.heap.size wb.heap.size ar cd q) := hid ⟨HQ.out.2.2.1, by have := HQ.out.1; have := HQ.out.2.2.2; omega, .inl (HQ.out.2.1.below ((HW.out.2.1.trans (hb7a.mono (by have := HW.out.1; omega))).mono HX.out.1.1.bel.size))⟩
  have H7 := hid (And.intro hb7a (hR7.below ((Below.refl _ _).alloc (Nat.le_refl _) (.cells #[.slice ar m cd] 32)) (Nat.le_trans hw0 hb7.size)))
  clear hb7 hR7 HC hb7a
  have HF : Hid (∀ w', Below wb.heap.size wb w' → w'.cell? ⟨w.heap.size + 1 + 1 + 1, 2, none⟩ = some (.slice Ar kL cr) ∧ w'.frozen? ⟨w.heap.size + 1 + 1 + 1, 2, none⟩ = false) := hid (fun w' hb => by
    have h1 := (hb.block (w.heap.size + 1 + 1 + 1) (by have := HW.out.1; omega)).trans HW.out.2.2.2
    simp [World.cell?, World.frozen?, h1])
  go_wp2_with (at_builtin; refine wpList_append_rowB rfl _ _ rfl w0.heap.size wb.heap.size ⟨hw0, H7.out.1.size⟩ _ L rfl H7.out.2 ⟨w7.heap.size, 0, none⟩ 1 ar cd q m HQ.out.1 rfl (row_put _ _ _) HE.out _ rfl kL HX.out.2.2.1.1 (by omega) ?_; intro A8 c8 w8 hR8 hg8; have hb8 := H7.out.1.trans (hg8.below H7.out.1.size); obtain ⟨t2, ft2⟩ := HF.out w8 hb8)
  obtain ⟨w9, hw9⟩ : ∃ w9, w9 = w8.setCell ⟨w.heap.size + 1 + 1 + 1, 2, none⟩ (.slice A8 (kL + 1) c8) := ⟨_, rfl⟩
  rw [← hw9]
  have hT9 : Turned (fun k => k = w.heap.size + 1 + 1 + 1) w8 w9 := by rw [hw9]; exact Turned.one _ _ _ _
  have hx38 := (hb8.block (w.heap.size + 1 + 1 + 1) (by have := HW.out.1; omega)).trans HW.out.2.2.2
  have hx39 : w9.heap[w.heap.size + 1 + 1 + 1]? = some (.cells #[.bool th, .slice Ac kp cc, .slice A8 (kL + 1) c8, .int .i64 e] 48 (0, 0)) := by
    rw [hw9]
    simp [World.setCell, Array.getElem?_modify, hx38]
  have hx29 : w9.heap[w.heap.size + 1 + 1]? = some (.cells #[.bool false, .slice none 0 0, .slice none 0 0, .int .i64 0] 48 (0, 0)) :=
    (hT9.block _ (by have := hb8.size; have := HW.out.1; omega) (fun e => by have e' : w.heap.size + 1 + 1 = w.heap.size + 1 + 1 + 1 := e; omega)).trans ((hb8.block (w.heap.size + 1 + 1) (by have := HW.out.1; omega)).trans HW.out.2.2.1)
  have hb9 : Below w.heap.size w w9 := (HW.out.2.1.trans (hb8.mono HW.out.2.1.size)).trans (hT9.below (by have := HW.out.2.1.size; have := hb8.size; omega) (fun k e => by have e' : k = w.heap.size + 1 + 1 + 1 := e; omega))
  have hR9 : RowsB w9 w0.heap.size w.heap.size (.slice A8 (kL + 1) c8) (L ++ [q]) := (hR8.keep hT9 (fun k e => by have e' : k = w.heap.size + 1 + 1 + 1 := e; have := HW.out.1; have := HX.out.1.1.bel.size; omega) (Nat.le_trans hw0 hb8.size)).mono HW.out.2.1.size
  have HR := hid (HX.out.2.2.2.2.2 w9.drew hb9.drew)
  have H9 := hid (And.intro hx39 (And.intro hx29 (And.intro hb9 (hR9.below (Below.refl _ _).drew (Nat.le_trans HX.out.1.1.bel.size hb9.size)))))
  clear hw9 hT9 hx38 hx39 hx29 hb9 hR9 hR8 hg8 hb8 t2 ft2 HF HE H7
  have hlt : g < w.heap.size ∧ gj < w.heap.size := ⟨HX.out.1.2.1.2, HX.out.1.2.2.2⟩
  have hdl := HX.out.1.1.at_.lt
  have HSB : Hid (∀ b, b < w9.heap.size → w.heap.size ≤ b → ∀ w', Turned (fun b => d.has b ∨ b = g ∨ b = gj) w9.drew w' → w'.heap[b]? = w9.heap[b]?) := hid (fun b hb1 hb2 w' ht => ht.block b hb1 (fun hh => by
    rcases hh with hh | hh | hh
    · have := hdl _ hh; omega
    · omega
    · omega))
  have hl9 : w.heap.size + 1 + 1 + 1 < w9.heap.size := (Array.getElem?_eq_some_iff.1 H9.out.1).1
  have HS : Hid (∀ w', Turned (fun b => d.has b ∨ b = g ∨ b = gj) w9.drew w' → w'.cell? ⟨w.heap.size + 1 + 1 + 1, 0, none⟩ = some (.bool th) ∧ w'.cell? ⟨w.heap.size + 1 + 1 + 1, 1, none⟩ = some (.slice Ac kp cc) ∧ w'.cell? ⟨w.heap.size + 1 + 1 + 1, 2, none⟩ = some (.slice A8 (kL + 1) c8) ∧ w'.cell? ⟨w.heap.size + 1 + 1 + 1, 3, none⟩ = some (.int .i64 e)) := hid (fun w' ht => by
    have h1 := (HSB.out (w.heap.size + 1 + 1 + 1) hl9 (by omega) w' ht).trans H9.out.1
    simp [World.cell?, h1])
  have HK : Hid (∀ w' v0 v1 v2 v3, Turned (fun b => d.has b ∨ b = g ∨ b = gj) w9.drew w' → let w2 := ((((w'.setCell ⟨w.heap.size + 1 + 1, 0, none⟩ v0).setCell ⟨w.heap.size + 1 + 1, 1, none⟩ v1).setCell ⟨w.heap.size + 1 + 1, 2, none⟩ v2).setCell ⟨w.heap.size + 1 + 1, 3, none⟩ v3); w2.cell? ⟨w.heap.size + 1 + 1 + 1, 0, none⟩ = some (.bool th) ∧ w2.cell? ⟨w.heap.size + 1 + 1 + 1, 1, none⟩ = some (.slice Ac kp cc) ∧ w2.cell? ⟨w.heap.size + 1 + 1 + 1, 2, none⟩ = some (.slice A8 (kL + 1) c8) ∧ w2.cell? ⟨w.heap.size + 1 + 1 + 1, 3, none⟩ = some (.int .i64 e)) := hid (fun w' v0 v1 v2 v3 ht => by
    have h1 := (HSB.out (w.heap.size + 1 + 1 + 1) hl9 (by omega) w' ht).trans H9.out.1
    simp [World.cell?, World.setCell, Array.getElem?_modify, h1])
  have HF : Hid (∀ w', Turned (fun b => d.has b ∨ b = g ∨ b = gj) w9.drew w' → w'.cell? ⟨w.heap.size + 1 + 1, 0, none⟩ = some (.bool false) ∧ w'.cell? ⟨w.heap.size + 1 + 1, 1, none⟩ = some (.slice none 0 0) ∧ w'.cell? ⟨w.heap.size + 1 + 1, 2, none⟩ = some (.slice none 0 0) ∧ w'.cell? ⟨w.heap.size + 1 + 1, 3, none⟩ = some (.int .i64 0) ∧ ∀ k, w'.frozen? ⟨w.heap.size + 1 + 1, k, none⟩ = false) := hid (fun w' ht => by
    have h1 := (HSB.out (w.heap.size + 1 + 1) (by omega) (by omega) w' ht).trans H9.out.2.1
    simp [World.cell?, World.frozen?, h1])
  have cW := HS.out w9.drew (Turned.refl _ _)
  clear hlt hdl hl9
  go_region_held3 (fun w' => w'.cell? ⟨w.heap.size + 1 + 1 + 1, 0, none⟩ = some (.bool th) ∧ w'.cell? ⟨w.heap.size + 1 + 1 + 1, 1, none⟩ = some (.slice Ac kp cc) ∧ w'.cell? ⟨w.heap.size + 1 + 1 + 1, 2, none⟩ = some (.slice A8 (kL + 1) c8) ∧ w'.cell? ⟨w.heap.size + 1 + 1 + 1, 3, none⟩ = some (.int .i64 e))
    (first | exact cW | exact HS.out _ h3.out.2 | exact HK.out _ _ _ _ _ h3.out.2 | fail)
    (first
      | (go_at_call 23; refine HR.out.mono ?_; rintro e3 w3 ⟨E, rfl, h3⟩; obtain ⟨s0, s1, s2, s3, fz⟩ := HF.out w3 h3.out.2; have f0 := fz 0; have f1 := fz 1; have f2 := fz 2; have f3 := fz 3))
  clear fz f0 f1 f2 f3 s0 s1 s2 s3 cW
  obtain ⟨w4, hw4⟩ : ∃ w4, w4 = (((w3.setCell ⟨w.heap.size + 1 + 1, 0, none⟩ (.bool th)).setCell ⟨w.heap.size + 1 + 1, 1, none⟩ (.slice Ac kp cc)).setCell ⟨w.heap.size + 1 + 1, 2, none⟩ (.slice A8 (kL + 1) c8)).setCell ⟨w.heap.size + 1 + 1, 3, none⟩ (.int .i64 e) := ⟨_, rfl⟩
  rw [← hw4]
  have hl9 : w.heap.size + 1 + 1 + 1 < w9.heap.size := (Array.getElem?_eq_some_iff.1 H9.out.1).1
  have hx3 := (HSB.out (w.heap.size + 1 + 1) (by omega) (by omega) w3 h3.out.2).trans H9.out.2.1
  have hx4 : w4.heap[w.heap.size + 1 + 1]? = some (.cells #[.bool th, .slice Ac kp cc, .slice A8 (kL + 1) c8, .int .i64 e] 48 (0, 0)) := by
    rw [hw4]
    simp [World.setCell, Array.getElem?_modify, hx3]
  have hT4 : Turned (fun k => k = w.heap.size + 1 + 1) w3 w4 := by
    rw [hw4]
    exact (Turned.two w3 (w.heap.size + 1 + 1) 0 1 _ _).trans (Turned.two _ (w.heap.size + 1 + 1) 2 3 _ _)
  have r0 : w4.cell? ⟨w.heap.size + 1 + 1, 0, none⟩ = some (.bool th) := by simp [World.cell?, hx4]
  have r1 : w4.cell? ⟨w.heap.size + 1 + 1, 1, none⟩ = some (.slice Ac kp cc) := by simp [World.cell?, hx4]
  have r2 : w4.cell? ⟨w.heap.size + 1 + 1, 2, none⟩ = some (.slice A8 (kL + 1) c8) := by simp [World.cell?, hx4]
  have r3 : w4.cell? ⟨w.heap.size + 1 + 1, 3, none⟩ = some (.int .i64 e) := by simp [World.cell?, hx4]
  have H4 := hid (And.intro hx3 hT4)
  clear hw4 hx3 hx4 hT4 HK HS HSB HF HR hl9
  go_wp2
  refine bodyPost_ret (by simp [results, Try.results22, go_sem, r0, r1, r2, r3]; try rfl) rfl ?_
  have hlt : g < w.heap.size ∧ gj < w.heap.size := ⟨HX.out.1.2.1.2, HX.out.1.2.2.2⟩
  have hge : w0.heap.size ≤ g ∧ w0.heap.size ≤ gj := ⟨HX.out.1.2.1.1, HX.out.1.2.2.1⟩
  have hdl := HX.out.1.1.at_.lt
  have hdg := HX.out.1.1.ge
  have hz9 := H9.out.2.2.1.size
  have hl9 : w.heap.size + 1 + 1 + 1 < w9.heap.size := (Array.getElem?_eq_some_iff.1 H9.out.1).1
  have hz3 := h3.out.2.size
  have hzw : w0.heap.size ≤ w.heap.size := HX.out.1.1.bel.size
  have hz99 : w9.drew.heap.size = w9.heap.size := rfl
  have hl3 : w.heap.size + 1 + 1 + 1 < w3.heap.size := by omega
  have hoff : Off w3 w4 d (w.heap.size + 1 + 1) w0.heap.size := ⟨⟨_, _, H4.out.1, by decide, by decide, by decide⟩, fun hh => by have := hdl _ hh; omega, by omega, H4.out.2⟩
  have hoth : Other w3 (w.heap.size + 1 + 1) := .inr ⟨_, _, H4.out.1, by decide, by decide⟩
  refine ⟨E, A8, c8, rfl, hid ⟨HX.out.2.1 _ _ _ _ hoff h3.out.1, ?_, ?_⟩⟩
  · exact ((Turned.ofBelow _ H9.out.2.2.1.drew).trans h3.out.2).then_ (S' := fun k => k = w.heap.size + 1 + 1) H4.out.2 (fun k hk he => by omega)
  · refine (H9.out.2.2.2.keep h3.out.2 (fun k hk => ?_) (by omega)).away H4.out.2 (fun k hk => ⟨?_, .inr (by have hk' : k = w.heap.size + 1 + 1 := hk; rw [hk']; exact hoth)⟩) (by omega)
    · rcases hk with hk | hk | hk
      · exact ⟨hdg _ hk, hdl _ hk⟩
      · omega
      · omega
    · have hk' : k = w.heap.size + 1 + 1 := hk
      omega
end T
end Go.Proofs.Ytdgijnolpjaheaa
namespace Go.Proofs.Ytdgijnolpjaheaa
open Go.RowKit

/-- A checkpoint's bytes that came in, and rows of bytes that the call has made. -/
structure HV (w0 w : World) (B1 : Nat) (A : Option Addr) (kp : Nat) (A2 : Option Addr) (kL c2 : Nat) (p : List Nat) (L : List (List Nat)) : Prop where
  bytes : IsBytes w w0.heap.size A p
  rows : RowsB w w0.heap.size B1 (.slice A2 kL c2) L
  lp : p.length = kp
  lL : L.length = kL
theorem HV.turned {w0 w w' : World} {B1 : Nat} {A : Option Addr} {kp : Nat} {A2 : Option Addr} {kL c2 : Nat} {p : List Nat} {L : List (List Nat)} {T : Nat → Prop} (h : HV w0 w B1 A kp A2 kL c2 p L) (ht : Turned T w w') (hT : ∀ k, T k → w0.heap.size ≤ k ∧ (k < B1 ∨ Other w k)) (hB : w0.heap.size ≤ w.heap.size) : HV w0 w' B1 A kp A2 kL c2 p L :=
  ⟨h.bytes.below (ht.below hB (fun k hk => (hT k hk).1)), h.rows.away ht hT hB, h.lp, h.lL⟩
theorem HV.below {w0 w w' : World} {B1 : Nat} {A : Option Addr} {kp : Nat} {A2 : Option Addr} {kL c2 : Nat} {p : List Nat} {L : List (List Nat)} (h : HV w0 w B1 A kp A2 kL c2 p L) (hb : Below w.heap.size w w') (hB : w0.heap.size ≤ w.heap.size) : HV w0 w' B1 A kp A2 kL c2 p L :=
  ⟨h.bytes.below (hb.mono hB), h.rows.below hb hB, h.lp, h.lL⟩
theorem HV.mono {w0 w : World} {B1 B2 : Nat} {A : Option Addr} {kp : Nat} {A2 : Option Addr} {kL c2 : Nat} {p : List Nat} {L : List (List Nat)} (h : HV w0 w B1 A kp A2 kL c2 p L) (hB : B2 ≤ B1) : HV w0 w B2 A kp A2 kL c2 p L := ⟨h.bytes, h.rows.mono hB, h.lp, h.lL⟩
theorem rowsB_nil_c (w : World) (B0 B1 : Nat) : RowsB w B0 B1 (.slice none 0 0) [] := RowsB.nil _ _ _
theorem SG.belw {w0 w w' : World} {d : Dk} {s : Sx.St} {g gj m n : Nat} {e st : Int} {p : List Nat} {L : List (List Nat)} {c : Nat} (h : SG w0 w d s g gj m n e st p L c) (ht : Turned (fun b => d.has b ∨ b = g ∨ b = gj) w w') : Below w0.heap.size w w' :=
  ht.below h.disk.bel.size (fun b hb => hb.elim (h.disk.ge b) (fun hb => hb.elim (fun e => by rw [e]; exact h.ge.1) (fun e => by rw [e]; exact h.ge.2)))
namespace T
/-- what becomes of a deed; E: the error; e1, p1, L1: what is held if it is done -/
inductive Out (w0 w' : World) (d : Dk) (s : Sx.St) (g gj n : Nat) (e st : Int) (p : List Nat) (L : List (List Nat)) (c : Nat) (fr : Bool) (E e1 : Int) (p1 : List Nat) (L1 : List (List Nat)) : Prop
  | state (hE : E = 12) (hf : fr = false) (hs : st = 0) (hj : SG w0 w' d s g gj 4 n e st p L c)
  | full (hE : E = 8) (hf : fr = false) (hs : st = 1) (hj : SG w0 w' d s g gj 4 n e st p L c)
  | done (s' : Sx.St) (gj' c' : Nat) (hE : E = 0) (hf : fr = true ∨ st = 1) (hj : SG w0 w' d s' g gj' 4 n e1 1 p1 L1 c') (ha : s'.armed = s.armed) (hd : s'.down = false)
  | broken (s' : Sx.St) (hE : E = 10) (hs : ¬ (s.armed = false ∧ s.down = false)) (hj : DM w0 w' d s') (hx : Dead w' g) (hd : s'.down = true) (hne : ¬ (e1 = e ∧ p1 = p ∧ L1 = L)) (hc : ∀ l, Sto.Held (Sx.crash s' l) 4 n e p L ∨ Sto.Held (Sx.crash s' l) 4 n e1 p1 L1)
/-- what 'does' hands out -/
structure DoesR (w0 w : World) (d : Dk) (s : Sx.St) (g gj n : Nat) (e st : Int) (p : List Nat) (L : List (List Nat)) (c : Nat) (fr : Bool) (kL : Nat) (E e1 : Int) (A1 : Option Addr) (k1 : Nat) (A2 : Option Addr) (k2 c2 : Nat) (w' : World) (p1 : List Nat) (L1 : List (List Nat)) : Prop where
  turned : Turned (fun b => d.has b ∨ b = g ∨ b = gj) w w'
  hv : HV w0 w' w.heap.size A1 k1 A2 k2 c2 p1 L1
  out : Out w0 w' d s g gj n e st p L c fr E e1 p1 L1
set_option maxRecDepth 100000 in
theorem does_all (w0 w : World) (d : Dk) (s : Sx.St) (g gj n : Nat) (e st : Int) (p : List Nat) (L : List (List Nat)) (c' : Nat) (h : SG w0 w d s g gj 4 n e st p L c') (hst : st = 0 ∨ st = 1) (hn1 : 1 ≤ n) (he : e + 1 ≤ 1099511627776)
    (th : Bool) (Ac : Option Addr) (cc kp : Nat) (hkp : kp ≤ 120) (Ar : Option Addr) (cr kL : Nat) (hkL2 : kL ≤ 1000) (B1 : Nat) (hv : HV w0 w B1 Ac kp Ar kL cr p L) (fr : Bool) (ar : Option Addr) (kd cd : Nat) (dt : List Nat) (cut : Int) (al : Option Addr) (kf cf : Nat) (hkd : dt.length = kd) (hcd : kd ≤ cd) (hcm : cd ≤ maxLen) (hz : ar = none → cd = 0) (hdt : IsBytes w w0.heap.size ar dt) :
    Calls Try.prog 22 #[.pointer (some ⟨g, 0, none⟩), .agg #[.bool th, .slice Ac kp cc, .slice Ar kL cr, .int .i64 e], .agg #[.bool fr, .slice ar kd cd, .int .i64 cut, .slice al kf cf]] w fun e' w' => ∃ (E e1 : Int) (th1 : Bool) (A1 : Option Addr) (k1 c1 : Nat) (A2 : Option Addr) (k2 c2 : Nat), e' = .returned (.tuple #[.agg #[.bool th1, .slice A1 k1 c1, .slice A2 k2 c2, .int .i64 e1], .int .i64 E]) ∧ k1 ≤ 120 ∧ k2 ≤ kL + 1 ∧ e ≤ e1 ∧ e1 ≤ e + 1 ∧ Hid (∃ p1 L1, DoesR w0 w d s g gj n e st p L c' fr kL E e1 A1 k1 A2 k2 c2 w' p1 L1) := by
  have hbel := h.disk.bel.size
  obtain ⟨hg, hgj⟩ := h.lt
  cases fr with
  | true =>
    refine (does_new w0 w d s g gj n e st p L c' h (by rcases hst with rfl | rfl <;> decide) hn1 he th Ac cc kp Ar cr kL ar kd cd dt cut al kf cf hkd hcd hcm hz (hdt.more hbel)).mono ?_
    rintro e' w' ⟨q, m, E, rfl, hR⟩
    obtain ⟨hq, hm, hr, ht⟩ := hR.out
    have ht' : Turned (fun b => d.has b ∨ b = g ∨ b = gj) w w' := ht.mono (fun _ h => h.imp id .inl)
    have hql : q.length = m := by rw [hq, List.length_take, hkd]; omega
    have hsec : Jo.secs q.length ≤ 4 := by unfold Jo.secs; omega
    refine ⟨E, e + 1, true, ar, m, cd, none, 0, 0, rfl, by omega, by omega, by omega, Int.le_refl _, hid ⟨q, [], ht', ⟨?_, RowsB.nil _ _ _, hql, rfl⟩, ?_⟩⟩
    · rw [hq]; exact (hdt.take m).below (h.belw ht')
    · rcases hr with ⟨g2, g3, g4⟩ | ⟨s', gj', g2, g3, g4, g5, g6, g7⟩ | ⟨s', g2, g3, g4, g5, g6, g7, g8⟩
      · omega
      · exact .done s' gj' 0 g3 (.inl rfl) g4 g6 g7
      · exact .broken s' g4 g3 g5 g6 g7 (fun hh => by omega) g8
  | false =>
    have hLI : IsRows w Ar L := hv.rows.reads hbel
    have hAd : ∀ q : List Nat, IsBytes w w0.heap.size ar q → q ≠ [] → ∀ a, ar = some a → ¬ d.has a.block := fun q hq hne a ha hh => by
      rcases q with _ | ⟨y, q⟩
      · exact absurd rfl hne
      · obtain ⟨b2, o2, e2, hb2, _⟩ := hq.cells 0 (by simp)
        rw [ha] at e2; injection e2 with e2; subst e2
        have h5 := h.disk.ge _ hh
        have hb2' : b2 < w0.heap.size := hb2
        have : w0.heap.size ≤ b2 := h5
        omega
    obtain ⟨m, hm⟩ : ∃ m, m = min kd 120 := ⟨_, rfl⟩
    have hmk : m ≤ kd := by omega
    have hm120 : m ≤ 120 := by omega
    have hql : (dt.take m).length = m := by rw [List.length_take, hkd]; omega
    have hqi := hdt.take m
    have hpv : ∀ w', Turned (fun b => d.has b ∨ b = g ∨ b = gj) w w' → IsBytes w' w0.heap.size Ac p := fun w' ht => hv.bytes.below (h.belw ht)
    rcases hst with rfl | rfl
    · refine (does_app w0 w d s g gj h.disk ⟨h.ge.1, hg⟩ ⟨h.ge.2, hgj⟩ e L (fun E w' => E = 12 ∧ SG w0 w' d s g gj 4 n e 0 p L c') (fun E b w1 w2 ho hr => ⟨hr.1, ho.sg hr.2⟩) th Ac cc kp Ar cr kL hv.lL hkL2 hLI ar kd cd dt cut al kf cf hkd hcd hcm hz hdt (dt.take m) m rfl hm (fun wA hA => ?_)).mono ?_
      · have hA' := h.below hA
        refine (append_state w0 d s g gj 4 n e p L c' ar m cd wA hA').mono ?_
        rintro e' w' ⟨h1, h2⟩
        subst h2
        exact ⟨12, h1, hid ⟨⟨rfl, hA'⟩, Turned.refl _ _⟩⟩
      · rintro e' w' ⟨E, A2, c2, rfl, hR⟩
        obtain ⟨⟨hE, hS⟩, ht, hrow⟩ := hR.out
        refine ⟨E, e, th, Ac, kp, cc, A2, kL + 1, c2, rfl, hkp, by omega, Int.le_refl _, by omega, hid ⟨p, L ++ [dt.take m], ht, ⟨hpv _ ht, hrow, hv.lp, by rw [List.length_append, hv.lL]; rfl⟩, .state hE rfl rfl hS⟩⟩
    · refine (does_app w0 w d s g gj h.disk ⟨h.ge.1, hg⟩ ⟨h.ge.2, hgj⟩ e L (fun E w' => ADid w0 w d s g gj 4 n e p L (dt.take m) E w') (fun E b w1 w2 ho hr => ho.adid hr) th Ac cc kp Ar cr kL hv.lL hkL2 hLI ar kd cd dt cut al kf cf hkd hcd hcm hz hdt (dt.take m) m rfl hm (fun wA hA => ?_)).mono ?_
      · have hA' := h.below hA
        refine (append_any w0 d s g gj 4 n e p L c' wA hA' ar cd (dt.take m) m hql (by omega) hcm hz ((hqi.below (hA.mono hbel)).more (Nat.le_trans hbel hA.size)) (hAd _ hqi)).mono ?_
        rintro e' w' ⟨E, h1, h2⟩
        refine ⟨E, h1, hid ⟨?_, h2.out.2⟩⟩
        rcases h2.out.1 with ⟨g2, g3, g4⟩ | ⟨g2, g3, g4, g5⟩ | ⟨s', g2, g3, g4, g5, g6, g7⟩ | ⟨s', g2, g3, g4, g5, g6, g7, g8, g9⟩
        · exact .long g2 g3 g4
        · exact .full g2 g3 g4 g5
        · exact .done s' g2 g3 g4 g5 g6 g7
        · exact .broken s' g2 g3 g4 g5 g6 g7 g8 g9
      · rintro e' w' ⟨E, A2, c2, rfl, hR⟩
        obtain ⟨hr, ht, hrow⟩ := hR.out
        have hcl := (h.ready rfl).2.2
        refine ⟨E, e, th, Ac, kp, cc, A2, kL + 1, c2, rfl, hkp, by omega, Int.le_refl _, by omega, hid ⟨p, L ++ [dt.take m], ht, ⟨hpv _ ht, hrow, hv.lp, by rw [List.length_append, hv.lL]; rfl⟩, ?_⟩⟩
        rcases hr with ⟨g2, g3, g4⟩ | ⟨g2, g3, g4, g5⟩ | ⟨s', g2, g3, g4, g5, g6, g7⟩ | ⟨s', g2, g3, g4, g5, g6, g7, g8, g9⟩
        · omega
        · exact .full g4 rfl rfl (by rw [hcl]; exact g5)
        · exact .done s' gj (L.length + 1) g4 (.inr rfl) g5 g6 g7
        · exact .broken s' g5 g4 g6 g7 g8 (fun hh => by have := congrArg List.length hh.2.2; simp at this) g9
end T
end Go.Proofs.Ytdgijnolpjaheaa
namespace Go.Proofs.Ytdgijnolpjaheaa
open Go.RowKit

namespace T
set_option maxRecDepth 100000 in
set_option maxHeartbeats 2000000 in
theorem is_any (w0 w : World) (d : Dk) (s : Sx.St) (n : Nat) (e : Int) (p : List Nat) (L : List (List Nat)) (H : DM w0 w d s) (hH : Sto.Held s 4 n e p L) (hn1 : 1 ≤ n) (hup : s.down = false) (hL : L.length ≤ 10000)
    (th : Bool) (Ac : Option Addr) (cc : Nat) (q : List Nat) (kq : Nat) (hkq : q.length = kq) (hkq2 : kq ≤ 1000000) (Ar : Option Addr) (cr : Nat) (M : List (List Nat)) (kM : Nat) (hkM : M.length = kM) (E : Int)
    (hq : IsBytes w w.heap.size Ac q) (hM : IsRows w Ar M) (b : Bool) (hb : b = decide (e = E ∧ p = q ∧ L = M)) :
    Calls Try.prog 25 #[.agg #[.bool th, .slice Ac kq cc, .slice Ar kM cr, .int .i64 E], .pointer (some ⟨d.g, 0, none⟩)] w fun e' w' => e' = .returned (.bool b) ∧ Below w.heap.size w w' := by
  have hbb := fun (o : Obj) => (Below.refl w.heap.size w).alloc (Nat.le_refl _) o
  have HO := hid (fun (o : Obj) => open_any w0 (w.alloc o) d s 4 n e p L (H.below (hbb o)) hH hn1 hup 4 rfl)
  have HX := hid (And.intro hq (And.intro hM (And.intro hb (And.intro hkq (And.intro hkM hL)))))
  clear H hH hup hq hM hb
  go_enter Try.func25, Try.ntmps25
  go_wp2_with fail
  refine (HO.out _).mono ?_
  rintro e1 w2 ⟨g, gj, A, c, A2, c2, rfl, h2⟩
  obtain ⟨wb, hwb⟩ : ∃ wb, wb = w.alloc (.cells #[.bool th, .slice Ac kq cc, .slice Ar kM cr, .int .i64 E] 48) := ⟨_, rfl⟩
  rw [← hwb] at h2
  have hsb : wb.heap.size = w.heap.size + 1 := by rw [hwb]; simp
  have hx0 : wb.heap[w.heap.size]? = some (.cells #[.bool th, .slice Ac kq cc, .slice Ar kM cr, .int .i64 E] 48 (0, 0)) := by rw [hwb]; exact heap_alloc_new w _
  have hb2 : Below w.heap.size w w2 := by
    have h3 : Below w.heap.size w wb := by rw [hwb]; exact hbb _
    exact h3.trans (h2.out.bel.mono h3.size)
  have hx2 : w2.heap[w.heap.size]? = some (.cells #[.bool th, .slice Ac kq cc, .slice Ar kM cr, .int .i64 E] 48 (0, 0)) := (h2.out.bel.block _ (by omega)).trans hx0
  have x1 : w2.cell? ⟨w.heap.size, 1, none⟩ = some (.slice Ac kq cc) := by simp [World.cell?, hx2]
  have x2 : w2.cell? ⟨w.heap.size, 2, none⟩ = some (.slice Ar kM cr) := by simp [World.cell?, hx2]
  have x3 : w2.cell? ⟨w.heap.size, 3, none⟩ = some (.int .i64 E) := by simp [World.cell?, hx2]
  have HS : Hid (SAt w2 g ⟨some ⟨gj, 0, none⟩, d.g, ((4 : Nat) : Int), e, 0⟩ ∧ Below w.heap.size w w2) := hid ⟨h2.out.sg.store, hb2⟩
  have HE : Hid (∀ k, Calls Try.prog 26 #[.pointer (some ⟨g, 0, none⟩)] (w2.drewN k) fun e' w' => e' = .returned (.int .i64 e) ∧ ∃ j, w' = (w2.drewN k).drewN j) := hid (fun k => (epoch_any g _ (w2.drewN k) (HS.out.1.below (below_drewN (Below.refl _ _) k))).mono fun _ _ ⟨h1, h2⟩ => ⟨h1, 0, h2⟩)
  have HB : Hid (∀ k, Calls Try.prog 18 #[.slice A p.length c, .slice Ac kq cc] (w2.drewN k) fun e' w' => e' = .returned (.bool (decide (p = q))) ∧ ∃ j, w' = (w2.drewN k).drewN j) := hid (fun k => same_N _ _ A Ac c cc p q _ kq rfl HX.out.2.2.2.1 (Nat.le_trans h2.out.check.cap h2.out.check.capLe) (by unfold maxLen; omega) (w2.drewN k) (h2.out.check.reads.below (below_drewN (Below.refl _ _) k)) ((HX.out.1.below hb2).below (below_drewN (Below.refl _ _) k)))
  have HR : Hid (∀ k, Calls Try.prog 44 #[.slice A2 L.length c2, .slice Ar kM cr] (w2.drewN k) fun e' w' => e' = .returned (.bool (decide (L = M))) ∧ ∃ j, w' = (w2.drewN k).drewN j) := hid (fun k => rows_same A2 Ar c2 cr L M _ kM rfl HX.out.2.2.2.2.1 (by omega) (w2.drewN k) (h2.out.rows.reads.below (below_drewN (Below.refl _ _) k)) ((HX.out.2.1.below hb2).below (below_drewN (Below.refl _ _) k)))
  obtain ⟨t1, ht1⟩ : ∃ t1, t1 = decide (p = q) := ⟨_, rfl⟩
  obtain ⟨t2, ht2⟩ : ∃ t2, t2 = decide (L = M) := ⟨_, rfl⟩
  have HT : Hid (b = (decide (e = E) && (t1 && t2))) := hid (by rw [HX.out.2.2.1, ht1, ht2, Bool.decide_and, Bool.decide_and])
  rw [← ht1] at HB
  rw [← ht2] at HR
  clear hwb h2 hsb hx0 hb2 hx2 ht1 ht2 hbb HO
  by_cases hE : e = E
  · have hEb : (e == E) = true := by rw [beq_iff_eq]; exact hE
    have HT2 : Hid (b = (t1 && t2)) := hid (by have := HT.out; rw [decide_eq_true hE] at this; simpa using this)
    clear hE HT
    cases t1
    · go_wp2_with fail
      go_quiet (first
        | (go_at_call 26; exact Calls.quiet_of (HE.out _))
        | (go_at_call 18; exact Calls.quiet_of (HB.out _)))
      go_wp2
      go_ret
      exact ⟨by rw [HT2.out]; rfl, below_drewN HS.out.2 _⟩
    · go_wp2_with fail
      go_quiet (first
        | (go_at_call 26; exact Calls.quiet_of (HE.out _))
        | (go_at_call 18; exact Calls.quiet_of (HB.out _))
        | (go_at_call 44; exact Calls.quiet_of (HR.out _)))
      go_wp2
      go_ret
      exact ⟨by rw [HT2.out]; rfl, below_drewN HS.out.2 _⟩
  · have hEb : (e == E) = false := by rw [beq_eq_false_iff_ne]; exact hE
    have HT2 : Hid (b = false) := hid (by have := HT.out; rw [decide_eq_false hE] at this; simpa using this)
    clear hE HT
    go_wp2_with fail
    go_quiet ((go_at_call 26; exact Calls.quiet_of (HE.out _)))
    go_wp2
    go_ret
    exact ⟨by rw [HT2.out]; rfl, below_drewN HS.out.2 _⟩
end T
end Go.Proofs.Ytdgijnolpjaheaa
namespace Go.Proofs.Ytdgijnolpjaheaa
open Go.RowKit Go.ChangeShapes Go.WideShapes Go.Deep

/-- Below block B a slice at A holds these rows of bytes. -/
def IsRowsIn (w : World) (B : Nat) (A : Option Addr) (L : List (List Nat)) : Prop :=
  ∀ k, k < L.length → ∃ b off, A = some ⟨b, off, none⟩ ∧ b < B ∧ ∀ i (h : i < L.length), ∃ A' c', w.cell? ⟨b, off + i, none⟩ = some (.slice A' L[i].length c') ∧ IsBytes w B A' L[i] ∧ (L[i].length ≤ c' ∧ c' ≤ maxLen) ∧ (A' = none → c' = 0)
namespace IsRowsIn
variable {w w' : World} {B : Nat} {A : Option Addr} {L : List (List Nat)}
theorem nil : IsRowsIn w B A [] := fun k h => by simp at h
theorem below (h : IsRowsIn w B A L) (hb : Below B w w') : IsRowsIn w' B A L := fun k hk => by
  obtain ⟨b, off, e, hlt, hc⟩ := h k hk
  refine ⟨b, off, e, hlt, fun i hi => ?_⟩
  obtain ⟨A', c', h1, h2, h3⟩ := hc i hi
  exact ⟨A', c', (hb.cell hlt).trans h1, h2.below hb, h3⟩
end IsRowsIn
theorem bytes_of_trod {H : Type} {enc : TypeId × Value → H} {W : World} {fuel : Nat} {cs : List Value} {x : DataW H × List MemPlace} (h : DataW.trod enc Try.prog W 0 (fun _ => true) true fuel 32 cs = some x) :
    ∃ (a : Option Addr) (c : Nat) (l : List Nat), cs = [.slice a l.length c] ∧ IsBytes W W.heap.size a l ∧ (l.length ≤ c ∧ c ≤ maxLen) ∧ (a = none → c = 0) := by
  rcases open_ints Try.underlying32 Try.underlying5 (by kernel_rfl) h with ⟨hcs, _⟩ | ⟨x, l, c, zs, hcs, _, hl, hm, hz, hx, hcell, hwz⟩
  · exact ⟨none, 0, [], hcs, IsBytes.nil, ⟨Nat.le_refl _, Nat.zero_le _⟩, fun _ => rfl⟩
  · simp only [if_true] at hz
    obtain ⟨m, h1, h2⟩ := isBytes_of_ints hl hz hcell hwz
    subst h2
    exact ⟨some x, c, m, hcs, h1, ⟨hl, hm⟩, fun h => by cases h⟩
theorem ints_of_trod {H : Type} {enc : TypeId × Value → H} {W : World} {fuel : Nat} {cs : List Value} {x : DataW H × List MemPlace} (h : DataW.trod enc Try.prog W 0 (fun _ => true) true fuel 23 cs = some x) :
    ∃ (a : Option Addr) (c : Nat) (l : List Int), cs = [.slice a l.length c] ∧ IsInts W W.heap.size a l ∧ (l.length ≤ c ∧ c ≤ maxLen) ∧ (a = none → c = 0) := by
  rcases open_ints Try.underlying23 Try.underlying3 (by kernel_rfl) h with ⟨hcs, _⟩ | ⟨x, l, c, zs, hcs, _, hl, hm, hz, hx, hcell, hwz⟩
  · exact ⟨none, 0, [], hcs, IsInts.nil, ⟨Nat.le_refl _, Nat.zero_le _⟩, fun _ => rfl⟩
  · simp only [if_true] at hz
    obtain ⟨m, h1, h2⟩ := isInts_of_ints hl hz hcell hwz
    subst h2
    exact ⟨some x, c, m, hcs, h1, ⟨hl, hm⟩, fun h => by cases h⟩
theorem int_of_trod {H : Type} {enc : TypeId × Value → H} {W : World} {fuel : Nat} {cs : List Value} {x : DataW H × List MemPlace} (h : DataW.trod enc Try.prog W 0 (fun _ => true) true fuel 3 cs = some x) : ∃ n, cs = [.int .i64 n] ∧ InInt n := by
  obtain ⟨n, h1, _, h2⟩ := DataW.trod_int Try.underlying3 h
  exact ⟨n, h1, bounds_i64 h2⟩
theorem one_cell {cs : List Value} {n : Nat} (h : cs.length = n) (j : Nat) (hj : j < n) : (cs.drop j).take 1 = [cs[j]'(by omega)] := by
  rw [List.drop_eq_getElem_cons (by omega)]
  rfl
theorem cellsOf_bytes : Try.prog.cellsOf 32 = 1 := by kernel_rfl
set_option maxRecDepth 100000 in
theorem rows_of_trod {H : Type} {enc : TypeId × Value → H} {W : World} {fuel : Nat} {cs : List Value} {x : DataW H × List MemPlace} (h : DataW.trod enc Try.prog W 0 (fun _ => true) true fuel 22 cs = some x) :
    ∃ (a : Option Addr) (c : Nat) (L : List (List Nat)), cs = [.slice a L.length c] ∧ IsRowsIn W W.heap.size a L ∧ (L.length ≤ c ∧ c ≤ maxLen) ∧ (a = none → c = 0) := by
  rcases open_slice Try.underlying22 h with ⟨hcs, _⟩ | ⟨a, len, cap, m, n, D, Pl, hcs, _, hl, hm, hmm, _, hi⟩
  · exact ⟨none, 0, [], hcs, IsRowsIn.nil, ⟨Nat.le_refl _, Nat.zero_le _⟩, fun _ => rfl⟩
  · simp only [if_true] at hmm
    subst hmm
    rw [cellsOf_bytes] at hi
    have hth : ∀ i, i < len → ∃ l : List Nat, (∃ A' c', W.cells? 0 (a.add (i * 1)) 1 = some [.slice A' l.length c'] ∧ IsBytes W W.heap.size A' l ∧ (l.length ≤ c' ∧ c' ≤ maxLen) ∧ (A' = none → c' = 0)) := fun i hlt => by
      obtain ⟨cs', h1, h2⟩ := hi i (by omega)
      obtain ⟨A', c', l, h3, h4⟩ := bytes_of_trod h2
      subst h3
      exact ⟨l, A', c', h1, h4⟩
    refine ⟨some a, m, (List.range len).attach.map (fun i => (hth i.1 (List.mem_range.1 i.2)).choose), ?_, fun k hk => ?_, ?_, fun h => by cases h⟩
    · rw [hcs]; simp
    · have hk' : k < len := by simpa using hk
      obtain ⟨A0, c0, hcs0, _⟩ := (hth 0 (by omega)).choose_spec
      obtain ⟨_, hcl, hat⟩ := World.cells?_some hcs0
      have hsp := hat 0 (by omega)
      rw [List.getElem?_eq_getElem (by simp)] at hsp
      have hlt := World.block_lt_of_cell? _ _ hsp
      have hspot := World.cell?_spot hsp
      obtain ⟨b, off, spot⟩ := a
      have hs : spot = none := by simpa [Addr.add] using hspot
      subst hs
      have hb : b < W.heap.size := by
        simpa [Addr.add] using hlt
      refine ⟨b, off, rfl, hb, fun i hi' => ?_⟩
      have hi2 : i < len := by simpa using hi'
      simp only [List.getElem_map, List.getElem_attach, List.getElem_range]
      obtain ⟨A', c', h1, h2⟩ := (hth i hi2).choose_spec
      refine ⟨A', c', ?_, h2⟩
      obtain ⟨_, _, hat'⟩ := World.cells?_some h1
      have h3 := hat' 0 (by omega)
      refine (congrArg W.cell? ?_).trans h3
      rw [add_off, add_off, Nat.mul_one, Nat.add_zero]
    · simp; exact ⟨hl, hm⟩
end Go.Proofs.Ytdgijnolpjaheaa
