/- An ordered image that is changed step by step is at each step, or is refused at it for, what the document's answer says; nothing that was handed in turns, and the answer lies in memory of its own; the bytes of the changes are the document's. Conditions: none. -/
import Derived.Test.YtaeoccpjdjafnaaGreatImageTurnsPartAE
import Derived.Test.YtaeoccpjdjafnaaGreatImageTurnsPartAG
import Derived.Deep.RegionHeld3
import Derived.Test.YtaeoccpjdjafnaaGreatImageTurnsPartAF
import Derived.Test.YtaeoccpjdjafnaaGreatImageTurnsPartAD
import Derived.Test.YtaeoccpjdjafnaaGreatImageTurnsPartAB
import Derived.Test.YtaeoccpjdjafnaaGreatRows
import Derived.WalkKit
import Derived.WalkLawsBesides
import Derived.ProofKit
import Derived.OpenShut
import Derived.ShutString
import Derived.ChangeOld
import Derived.Below
import Derived.SizedLaws
namespace Go.Proofs.YtaeoccpjdjafnaaGreat.Im
open Go Go.RowKit
open Rl (En Lg)
open Qu (Cf)
open Pk (enc encs)
set_option maxRecDepth 100000
set_option linter.unusedVariables false
attribute [local go_sem ↓] loadAt_hard storeAt_hard loadAt_vote storeAt_vote loadAt_change storeAt_change
structure Rbs (w w' : World) (A : Option Addr) (l : List Nat) (q : Nat) : Prop where
  is : IsBytes w' w'.heap.size A l
  len : l.length = q
  bel : Below w.heap.size w w'
theorem Rbs.refl {w : World} {A : Option Addr} {l : List Nat} {q : Nat} (h : IsBytes w w.heap.size A l) (hl : l.length = q) : Rbs w w A l q := ⟨h, hl, Below.refl _ _⟩
theorem Rbs.then_ {a b c : World} {A A' : Option Addr} {l l' : List Nat} {q q' : Nat} (h : Rbs a b A l q) (h' : Rbs b c A' l' q') : Rbs a c A' l' q' := ⟨h'.is, h'.len, h.bel.trans (h'.bel.mono h.bel.size)⟩
theorem Rbs.from {a b c : World} {A : Option Addr} {l : List Nat} {q : Nat} (hb : Below a.heap.size a b) (h : Rbs b c A l q) : Rbs a c A l q := ⟨h.is, h.len, hb.trans (h.bel.mono hb.size)⟩
theorem Rbs.row {a b : World} {A : Option Addr} {l : List Nat} {q k : Nat} {o : Obj} (h : Rbs a b A l q) (hr : a.heap[k]? = some o) : b.heap[k]? = some o := (h.bel.block _ (Array.getElem?_eq_some_iff.1 hr).1).trans hr
theorem Rbs.drew {a b : World} {A : Option Addr} {l : List Nat} {q : Nat} (h : Rbs a b A l q) : Rbs a b.drew A l q := ⟨h.is.below (Below.refl _ b).drew, h.len, h.bel.drew⟩
def Rtold (w : World) (l : List Nat) (q : Nat) (e : Ending) (w' : World) : Prop := ∃ A' c', e = .returned (.slice A' q c') ∧ Rbs w w' A' l q
theorem rInt_any (A : Option Addr) (c : Nat) (l : List Nat) (q : Nat) (v : Int) (hv : InInt v) (hq : q ≤ 100000000000) (a w : World) (h : Rbs a w A l q) :
    Calls Tryz.prog 55 #[.slice A q c, .int .i64 v] w (Rtold w (l ++ enc v) (q + 8)) := by
  obtain ⟨h1, rfl, _⟩ := h
  refine (refInt_any w.heap.size A c l v hv (by omega) w h1 (Nat.le_refl _)).mono ?_
  rintro e w' ⟨A', c', rfl, ho, hb⟩
  exact ⟨A', c', rfl, ho.reads, by rw [List.length_append, Pk.enc_length], hb⟩
theorem rBlob_any (A : Option Addr) (c : Nat) (l : List Nat) (q : Nat) (B' : Nat) (A' : Option Addr) (c' : Nat) (m : List Nat) (k : Nat) (hm : m.length = k) (hk : k ≤ 100000000000) (hq : q ≤ 100000000000) (a w : World) (h : Rbs a w A l q) (h' : IsBytes w B' A' m) (hB' : B' ≤ w.heap.size) :
    Calls Tryz.prog 56 #[.slice A q c, .slice A' k c'] w (Rtold w (l ++ encB m) (q + 8 + k)) := by
  obtain ⟨h1, rfl, _⟩ := h
  subst hm
  refine (refBlob_any w.heap.size A c l B' A' c' m (by omega) w h1 (Nat.le_refl _) h' hB').mono ?_
  rintro e w' ⟨A', c', rfl, ho, hb⟩
  exact ⟨A', c', rfl, ho.reads, by unfold encB; rw [List.length_append, List.length_append, Pk.enc_length]; omega, hb⟩
theorem rInts_any (A : Option Addr) (c : Nat) (l : List Nat) (q : Nat) (B' : Nat) (A' : Option Addr) (c' : Nat) (m : List Int) (k : Nat) (hm : m.length = k) (hk : k ≤ 1000000) (hq : q ≤ 100000000000) (a w : World) (h : Rbs a w A l q) (h' : IsInts w B' A' m) (hB' : B' ≤ w.heap.size) :
    Calls Tryz.prog 104 #[.slice A q c, .slice A' k c'] w (Rtold w (l ++ encI m) (q + 8 + 8 * k)) := by
  obtain ⟨h1, rfl, _⟩ := h
  subst hm
  refine (refInts_any w.heap.size A c l B' A' c' m (by omega) w h1 (Nat.le_refl _) h' hB').mono ?_
  rintro e w' ⟨A', c', rfl, ho, hb⟩
  exact ⟨A', c', rfl, ho.reads, by unfold encI; rw [List.length_append, List.length_append, Pk.enc_length, Pk.encs_length]; omega, hb⟩
set_option maxHeartbeats 1600000 in
theorem rVote_any (A : Option Addr) (c : Nat) (l : List Nat) (q : Nat) (v : Vt) (hv : okV v) (hq : q ≤ 10000000000) (a w : World) (h : Rbs a w A l q) :
    Calls Tryz.prog 59 #[.slice A q c, .agg #[.int .i64 v.x, .int .i64 v.p, .int .i64 v.r, .int .i64 v.b, .int .i64 v.v]] w (Rtold w (l ++ encV v) (q + 40)) := by
  obtain ⟨w1, hw1⟩ : ∃ w1, w1 = w.alloc (.cells #[.int .i64 v.x, .int .i64 v.p, .int .i64 v.r, .int .i64 v.b, .int .i64 v.v] 60) := ⟨_, rfl⟩
  obtain ⟨b, hb⟩ : ∃ b, b = w.heap.size := ⟨_, rfl⟩
  have r1 : w1.heap[b]? = some (.cells #[.int .i64 v.x, .int .i64 v.p, .int .i64 v.r, .int .i64 v.b, .int .i64 v.v] 60 (0, 0)) := by rw [hw1, hb]; exact heap_alloc_new w _
  have b1 : Below w.heap.size w w1 := by rw [hw1]; exact (Below.refl _ w).alloc (Nat.le_refl _) _
  have B1 : Hid (Rbs w w1.drew A l q) := hid (Rbs.drew ⟨(h.is.below b1).more b1.size, h.len, b1⟩)
  have R1 := hid r1
  have CE : Hid (∀ W : World, W.heap[b]? = some (.cells #[.int .i64 v.x, .int .i64 v.p, .int .i64 v.r, .int .i64 v.b, .int .i64 v.v] 60 (0, 0)) → W.cell? ⟨b, 0, none⟩ = some (.int .i64 v.x) ∧ W.cell? ⟨b, 1, none⟩ = some (.int .i64 v.p) ∧ W.cell? ⟨b, 2, none⟩ = some (.int .i64 v.r) ∧ W.cell? ⟨b, 3, none⟩ = some (.int .i64 v.b) ∧ W.cell? ⟨b, 4, none⟩ = some (.int .i64 v.v)) := hid fun W hW => ⟨row_cell hW 0, row_cell hW 1, row_cell hW 2, row_cell hW 3, row_cell hW 4⟩
  have f0 := CE.out w1 r1
  have f1 := CE.out w1.drew r1
  have HV := hid hv
  clear h r1 b1 hv
  go_enter Tryz.func59, Tryz.ntmps59
  go_wp2_with fail
  rw [← hw1, ← hb]
  clear hw1 hb
  go_region_held3 (fun W => W.cell? ⟨b, 0, none⟩ = some (.int .i64 v.x) ∧ W.cell? ⟨b, 1, none⟩ = some (.int .i64 v.p) ∧ W.cell? ⟨b, 2, none⟩ = some (.int .i64 v.r) ∧ W.cell? ⟨b, 3, none⟩ = some (.int .i64 v.b) ∧ W.cell? ⟨b, 4, none⟩ = some (.int .i64 v.v))
    (first | with_reducible exact f3 | with_reducible exact f2 | with_reducible exact f1 | with_reducible exact f0 | fail)
    (first
      | (go_at_call 55; refine (rInt_any _ _ _ _ v.p HV.out.1.1.1.2 (by omega) _ _ H2.out).mono ?_; rintro e w3 ⟨A3, c3, rfl, hb3⟩; have R3 := hid (hb3.row R2.out); have H3 := hid (H2.out.then_ hb3); have f3 := CE.out _ R3.out; clear hb3)
      | (go_at_call 55; refine (rInt_any A c l q v.x HV.out.1.1.1.1 (by omega) w w1.drew B1.out).mono ?_; rintro e w2 ⟨A2, c2, rfl, hb2⟩; have R2 := hid (hb2.row R1.out); have H2 := hid (Rbs.then_ B1.out hb2); have f2 := CE.out _ R2.out; clear hb2)
      | fail)
  all_goals
    have H3d := hid H3.out.drew
    have f4 := CE.out w3.drew R3.out
    clear f0 f1 f2 H2 B1 R1 R2
    go_wp2_with fail
    go_region_held3 (fun W => W.cell? ⟨b, 0, none⟩ = some (.int .i64 v.x) ∧ W.cell? ⟨b, 1, none⟩ = some (.int .i64 v.p) ∧ W.cell? ⟨b, 2, none⟩ = some (.int .i64 v.r) ∧ W.cell? ⟨b, 3, none⟩ = some (.int .i64 v.b) ∧ W.cell? ⟨b, 4, none⟩ = some (.int .i64 v.v))
      (first | with_reducible exact f7 | with_reducible exact f6 | with_reducible exact f5 | with_reducible exact f4 | with_reducible exact f3 | fail)
      (first
        | (go_at_call 55; refine (rInt_any _ _ _ _ v.v HV.out.2 (by omega) _ _ H6.out).mono ?_; rintro e w7 ⟨A7, c7, rfl, hb7⟩; have H7 := hid (H6.out.then_ hb7); have f7 := CE.out _ (hb7.row R6.out); clear hb7)
        | (go_at_call 55; refine (rInt_any _ _ _ _ v.b HV.out.1.2 (by omega) _ _ H5.out).mono ?_; rintro e w6 ⟨A6, c6, rfl, hb6⟩; have R6 := hid (hb6.row R5.out); have H6 := hid (H5.out.then_ hb6); have f6 := CE.out _ R6.out; clear hb6)
        | (go_at_call 55; refine (rInt_any _ _ _ _ v.r HV.out.1.1.2 (by omega) _ _ H3d.out).mono ?_; rintro e w5 ⟨A5, c5, rfl, hb5⟩; have R5 := hid (hb5.row R3.out); have H5 := hid (H3d.out.then_ hb5); have f5 := CE.out _ R5.out; clear hb5)
        | fail)
  all_goals
    have HF : Hid (Rbs w w7 A7 (l ++ encV v) (q + 40)) := hid (by
      have h := H7.out
      have e : l ++ enc v.x ++ enc v.p ++ enc v.r ++ enc v.b ++ enc v.v = l ++ encV v := by unfold encV; simp [List.append_assoc]
      rw [e] at h
      exact h)
    clear f3 f4 f5 f6 f7 H3 H3d H5 H6 H7
    go_wp2_with fail
    go_ret
    exact ⟨A7, c7, ret_len (by omega), HF.out⟩
set_option maxHeartbeats 1600000 in
theorem rConf_any (A : Option Addr) (c : Nat) (l : List Nat) (q : Nat) (f : Cf) (a0 a1 a2 : Option Addr) (k0 k1 k2 n0 n1 n2 : Nat) (hn0 : f.old.length = n0) (hn1 : f.new.length = n1) (hn2 : f.lrn.length = n2) (hs : n0 ≤ 1000000 ∧ n1 ≤ 1000000 ∧ n2 ≤ 1000000) (hq : q ≤ 10000000000) (B' : Nat) (a w : World) (h : Rbs a w A l q) (hB' : B' ≤ w.heap.size) (h0 : IsInts w B' a0 f.old) (h1 : IsInts w B' a1 f.new) (h2 : IsInts w B' a2 f.lrn) :
    Calls Tryz.prog 57 #[.slice A q c, .agg #[.slice a0 n0 k0, .slice a1 n1 k1, .slice a2 n2 k2]] w (Rtold w (l ++ encCf f) (q + (8 + 8 * n0) + (8 + 8 * n1) + (8 + 8 * n2))) := by
  obtain ⟨w1, hw1⟩ : ∃ w1, w1 = w.alloc (.cells #[.slice a0 n0 k0, .slice a1 n1 k1, .slice a2 n2 k2] 28) := ⟨_, rfl⟩
  obtain ⟨b, hb⟩ : ∃ b, b = w.heap.size := ⟨_, rfl⟩
  have r1 : w1.heap[b]? = some (.cells #[.slice a0 n0 k0, .slice a1 n1 k1, .slice a2 n2 k2] 28 (0, 0)) := by rw [hw1, hb]; exact heap_alloc_new w _
  have b1 : Below w.heap.size w w1 := by rw [hw1]; exact (Below.refl _ w).alloc (Nat.le_refl _) _
  have B1 : Hid (Rbs w w1.drew A l q) := hid (Rbs.drew ⟨(h.is.below b1).more b1.size, h.len, b1⟩)
  have R1 := hid r1
  have CE : Hid (∀ W : World, W.heap[b]? = some (.cells #[.slice a0 n0 k0, .slice a1 n1 k1, .slice a2 n2 k2] 28 (0, 0)) → W.cell? ⟨b, 0, none⟩ = some (.slice a0 n0 k0) ∧ W.cell? ⟨b, 1, none⟩ = some (.slice a1 n1 k1) ∧ W.cell? ⟨b, 2, none⟩ = some (.slice a2 n2 k2)) := hid fun W hW => ⟨row_cell hW 0, row_cell hW 1, row_cell hW 2⟩
  have f0 := CE.out w1 r1
  have f1 := CE.out w1.drew r1
  have HI := hid (And.intro h0 (And.intro h1 (And.intro h2 hB')))
  have HN := hid (And.intro hn0 (And.intro hn1 (And.intro hn2 hs)))
  clear h r1 b1 h0 h1 h2 hB' hn0 hn1 hn2 hs
  go_enter Tryz.func57, Tryz.ntmps57
  go_wp2_with fail
  rw [← hw1, ← hb]
  clear hw1 hb
  go_region_held3 (fun W => W.cell? ⟨b, 0, none⟩ = some (.slice a0 n0 k0) ∧ W.cell? ⟨b, 1, none⟩ = some (.slice a1 n1 k1) ∧ W.cell? ⟨b, 2, none⟩ = some (.slice a2 n2 k2))
    (first | with_reducible exact f4 | with_reducible exact f3 | with_reducible exact f2 | with_reducible exact f1 | with_reducible exact f0 | fail)
    (first
      | (go_at_call 104; refine (rInts_any _ _ _ _ B' a2 k2 f.lrn n2 HN.out.2.2.1 HN.out.2.2.2.2.2 (by have := HN.out.2.2.2; omega) _ _ H3.out (HI.out.2.2.1.below (H3.out.bel.mono HI.out.2.2.2)) (Nat.le_trans HI.out.2.2.2 H3.out.bel.size)).mono ?_; rintro e w4 ⟨A4, c4, rfl, hb4⟩; have H4 := hid (H3.out.then_ hb4); have f4 := CE.out _ (hb4.row R3.out); clear hb4)
      | (go_at_call 104; refine (rInts_any _ _ _ _ B' a1 k1 f.new n1 HN.out.2.1 HN.out.2.2.2.2.1 (by have := HN.out.2.2.2; omega) _ _ H2.out (HI.out.2.1.below (H2.out.bel.mono HI.out.2.2.2)) (Nat.le_trans HI.out.2.2.2 H2.out.bel.size)).mono ?_; rintro e w3 ⟨A3, c3, rfl, hb3⟩; have R3 := hid (hb3.row R2.out); have H3 := hid (H2.out.then_ hb3); have f3 := CE.out _ R3.out; clear hb3)
      | (go_at_call 104; refine (rInts_any A c l q B' a0 k0 f.old n0 HN.out.1 HN.out.2.2.2.1 (by omega) w w1.drew B1.out (HI.out.1.below (B1.out.bel.mono HI.out.2.2.2)) (Nat.le_trans HI.out.2.2.2 B1.out.bel.size)).mono ?_; rintro e w2 ⟨A2, c2, rfl, hb2⟩; have R2 := hid (hb2.row R1.out); have H2 := hid (Rbs.then_ B1.out hb2); have f2 := CE.out _ R2.out; clear hb2)
      | fail)
  all_goals
    have HF : Hid (Rbs w w4 A4 (l ++ encCf f) (q + (8 + 8 * n0) + (8 + 8 * n1) + (8 + 8 * n2))) := hid (by
      have h := H4.out
      have e : l ++ encI f.old ++ encI f.new ++ encI f.lrn = l ++ encCf f := by unfold encCf; simp [List.append_assoc]
      rw [e] at h
      exact ⟨h.is, by have := h.len; omega, h.bel⟩)
    clear f0 f1 f2 f3 f4 H2 H3 H4
    go_wp2_with fail
    go_ret
    exact ⟨A4, c4, ret_len (by omega), HF.out⟩
set_option maxHeartbeats 3200000 in
theorem rLog_any (A : Option Addr) (c : Nat) (l : List Nat) (q : Nat) (g : Lg) (hg : InI g.base ∧ InI g.term) (n : Nat) (hn : g.es.length = n) (hnn : n ≤ 1000000) (hx : ∀ e ∈ g.es, e.d.length ≤ 1000000000) (hT : q + (24 + (g.es.flatMap encE).length) ≤ 10000000000) (B' : Nat) (Ae : Option Addr) (ce : Nat) (a w : World) (h : Rbs a w A l q) (hB' : B' ≤ w.heap.size) (he : IsEnts w B' Ae g.es)
    (q2 : Nat) (hq2 : q + (24 + (g.es.flatMap encE).length) = q2) :
    Calls Tryz.prog 58 #[.slice A q c, .agg #[.int .i64 g.base, .int .i64 g.term, .slice Ae n ce]] w (Rtold w (l ++ encLg g) q2) := by
  obtain ⟨w1, hw1⟩ : ∃ w1, w1 = w.alloc (.cells #[.int .i64 g.base, .int .i64 g.term, .slice Ae n ce] 58) := ⟨_, rfl⟩
  obtain ⟨b, hb⟩ : ∃ b, b = w.heap.size := ⟨_, rfl⟩
  have r1 : w1.heap[b]? = some (.cells #[.int .i64 g.base, .int .i64 g.term, .slice Ae n ce] 58 (0, 0)) := by rw [hw1, hb]; exact heap_alloc_new w _
  have b1 : Below w.heap.size w w1 := by rw [hw1]; exact (Below.refl _ w).alloc (Nat.le_refl _) _
  have B1 : Hid (Rbs w w1.drew A l q) := hid (Rbs.drew ⟨(h.is.below b1).more b1.size, h.len, b1⟩)
  have R1 := hid r1
  have CE : Hid (∀ W : World, W.heap[b]? = some (.cells #[.int .i64 g.base, .int .i64 g.term, .slice Ae n ce] 58 (0, 0)) → W.cell? ⟨b, 0, none⟩ = some (.int .i64 g.base) ∧ W.cell? ⟨b, 1, none⟩ = some (.int .i64 g.term) ∧ W.cell? ⟨b, 2, none⟩ = some (.slice Ae n ce)) := hid fun W hW => ⟨row_cell hW 0, row_cell hW 1, row_cell hW 2⟩
  have f0 := CE.out w1 r1
  have f1 := CE.out w1.drew r1
  have HI := hid (And.intro he hB')
  have HN := hid (And.intro hg (And.intro hn (And.intro hx (And.intro hT hq2))))
  have hqb : q ≤ 10000000000 := by omega
  clear h r1 b1 he hB' hg hn hx hT hq2
  go_enter Tryz.func58, Tryz.ntmps58
  go_wp2_with fail
  rw [← hw1, ← hb]
  clear hw1 hb
  go_region_held3 (fun W => W.cell? ⟨b, 0, none⟩ = some (.int .i64 g.base) ∧ W.cell? ⟨b, 1, none⟩ = some (.int .i64 g.term) ∧ W.cell? ⟨b, 2, none⟩ = some (.slice Ae n ce))
    (first | with_reducible exact f4 | with_reducible exact f3 | with_reducible exact f2 | with_reducible exact f1 | with_reducible exact f0 | fail)
    (first
      | (go_at_call 55; refine (rInt_any _ _ _ _ (n : Int) ⟨by omega, by omega⟩ (by omega) _ _ H3.out).mono ?_; rintro e w4 ⟨A4, c4, rfl, hb4⟩; have R4 := hid (hb4.row R3.out); have H4 := hid (H3.out.then_ hb4); have f4 := CE.out _ R4.out; clear hb4)
      | (go_at_call 55; refine (rInt_any _ _ _ _ g.term HN.out.1.2 (by omega) _ _ H2.out).mono ?_; rintro e w3 ⟨A3, c3, rfl, hb3⟩; have R3 := hid (hb3.row R2.out); have H3 := hid (H2.out.then_ hb3); have f3 := CE.out _ R3.out; clear hb3)
      | (go_at_call 55; refine (rInt_any A c l q g.base HN.out.1.1 (by omega) w w1.drew B1.out).mono ?_; rintro e w2 ⟨A2, c2, rfl, hb2⟩; have R2 := hid (hb2.row R1.out); have H2 := hid (Rbs.then_ B1.out hb2); have f2 := CE.out _ R2.out; clear hb2)
      | fail)
  all_goals
    have H4' : Hid (Rbs w w4 A4 ((l ++ enc g.base ++ enc g.term ++ enc (n : Int)) ++ flatTo encE g.es 0) (q + 8 + 8 + 8)) := hid (by
      have h := H4.out
      have e : (l ++ enc g.base ++ enc g.term ++ enc (n : Int)) ++ flatTo encE g.es 0 = l ++ enc g.base ++ enc g.term ++ enc (n : Int) := by unfold flatTo; simp
      rw [e]; exact h)
    have HL := hid (show (l ++ enc g.base ++ enc g.term ++ enc (n : Int)).length = q + 8 + 8 + 8 from H4.out.len)
    have g4 := f4.2.2
    clear f0 f1 f2 f3 f4 H2 H3 H4 R1 R2 R3 B1 g4
    go_wp2_with fail
    go_loopw [0, 5] (fun v i wr => ∃ (j : Nat) (A1 : Option Addr) (c1 q1 : Nat), j ≤ n ∧ v = .slice A1 q1 c1 ∧ i = .int .i64 (j : Int) ∧ Hid (Rbs w wr A1 ((l ++ enc g.base ++ enc g.term ++ enc (n : Int)) ++ flatTo encE g.es j) q1 ∧ wr.heap[b]? = some (.cells #[.int .i64 g.base, .int .i64 g.term, .slice Ae n ce] 58 (0, 0)))) (fun _ i _ => n - (RowKit.intOf i).toNat)
    case atStart => exact ⟨0, A4, c4, _, Nat.zero_le _, rfl, rfl, hid ⟨H4'.out, R4.out⟩⟩
    case round =>
      clear H4' R4
      obtain ⟨j, A1, c1, q1, hj, rfl, rfl, HQ⟩ := hrel
      have hq1 : q1 ≤ 10000000000 ∧ q1 = q + 8 + 8 + 8 + (flatTo encE g.es j).length := by
        have h1 := HQ.out.1.len
        have h2 := HL.out
        have h3 := flatTo_le encE g.es j
        have h4 := HN.out.2.2.2.1
        rw [List.length_append, h2] at h1
        omega
      have rc := row_cell HQ.out.2 2
      by_cases hlt : j < n
      · have hjl : j < g.es.length := by rw [HN.out.2.1]; exact hlt
        have hlt0 : (j : Int) < (n : Int) := by omega
        have hbw := HQ.out.1.bel.mono HI.out.2
        obtain ⟨b6, off, hA, hbb, hcs⟩ := (HI.out.1.below hbw).cells j hjl
        obtain ⟨Ad, cd, f0, f1, f2, hby, hrm, hnn2⟩ := hcs j hjl
        have hnum := HI.out.1.num g.es[j] (List.getElem_mem hjl)
        have hdl := HN.out.2.2.1 g.es[j] (List.getElem_mem hjl)
        have hnx := flatTo_next encE g.es j hjl
        obtain ⟨x, hxx⟩ : ∃ x, x = g.es[j] := ⟨_, rfl⟩
        rw [← hxx] at f0 f1 f2 hby hnum hdl hnx
        obtain ⟨dk, hdk⟩ : ∃ k, x.d.length = k := ⟨_, rfl⟩
        rw [hdk] at f2 hdl
        subst hA
        obtain ⟨w5, hw5⟩ : ∃ w5, w5 = wr.alloc (.cells #[.int .i64 x.t, .int .i64 x.k, .slice Ad dk cd] 73) := ⟨_, rfl⟩
        obtain ⟨be, hbe⟩ : ∃ be, be = wr.heap.size := ⟨_, rfl⟩
        have r5 : w5.heap[be]? = some (.cells #[.int .i64 x.t, .int .i64 x.k, .slice Ad dk cd] 73 (0, 0)) := by rw [hw5, hbe]; exact heap_alloc_new wr _
        have hb5 : Below wr.heap.size wr w5 := by rw [hw5]; exact (Below.refl _ wr).alloc (Nat.le_refl _) _
        have HS : Hid (Rbs wr w5.drew A1 ((l ++ enc g.base ++ enc g.term ++ enc (n : Int)) ++ flatTo encE g.es j) q1) := hid (Rbs.drew ⟨(HQ.out.1.is.below hb5).more hb5.size, HQ.out.1.len, hb5⟩)
        have CX : Hid (∀ W : World, W.heap[be]? = some (.cells #[.int .i64 x.t, .int .i64 x.k, .slice Ad dk cd] 73 (0, 0)) → W.cell? ⟨be, 0, none⟩ = some (.int .i64 x.t) ∧ W.cell? ⟨be, 1, none⟩ = some (.int .i64 x.k) ∧ W.cell? ⟨be, 2, none⟩ = some (.slice Ad dk cd)) := hid fun W hW => ⟨row_cell hW 0, row_cell hW 1, row_cell hW 2⟩
        have R5 := hid r5
        have g0 := CX.out w5 r5
        have g1 := CX.out w5.drew r5
        have HX := hid (And.intro hnum (And.intro hby (And.intro hdk hdl)))
        have HNX : Hid (((l ++ enc g.base ++ enc g.term ++ enc (n : Int)) ++ flatTo encE g.es j) ++ enc x.t ++ enc x.k ++ encB x.d = (l ++ enc g.base ++ enc g.term ++ enc (n : Int)) ++ flatTo encE g.es (j + 1)) := hid (by rw [hnx]; unfold encE; simp [List.append_assoc])
        have hBr : B' ≤ wr.heap.size := Nat.le_trans HI.out.2 HQ.out.1.bel.size
        have HBR := hid hBr
        have HQ1 := hid hq1
        clear hq1 hby hrm hnn2 hnum hdl hnx hxx hdk hcs hbw hb5 hjl r5 hBr
        go_wp2_with fail
        rw [← hw5, ← hbe]
        clear hw5 f0 f1 f2 hbe rc
        go_region_held3 (fun W => W.cell? ⟨be, 0, none⟩ = some (.int .i64 x.t) ∧ W.cell? ⟨be, 1, none⟩ = some (.int .i64 x.k) ∧ W.cell? ⟨be, 2, none⟩ = some (.slice Ad dk cd))
          (first | with_reducible exact g8 | with_reducible exact g7 | with_reducible exact g6 | with_reducible exact g1 | with_reducible exact g0 | fail)
          (first
            | (go_at_call 56; refine (rBlob_any _ _ _ _ B' Ad cd x.d dk HX.out.2.2.1 (by have := HX.out.2.2.2; omega) (by have := HQ1.out; omega) _ _ H7.out (HX.out.2.1.below (H7.out.bel.mono HBR.out)) (Nat.le_trans HBR.out H7.out.bel.size)).mono ?_; rintro e w8 ⟨A8, c8, rfl, hb8⟩; have H8 := hid (H7.out.then_ hb8); have g8 := CX.out _ (hb8.row R7.out); clear hb8)
            | (go_at_call 55; refine (rInt_any _ _ _ _ x.k HX.out.1.2 (by have := HQ1.out; omega) _ _ H6.out).mono ?_; rintro e w7 ⟨A7, c7, rfl, hb7⟩; have R7 := hid (hb7.row R6.out); have H7 := hid (H6.out.then_ hb7); have g7 := CX.out _ R7.out; clear hb7)
            | (go_at_call 55; refine (rInt_any A1 c1 _ q1 x.t HX.out.1.1 (by have := HQ1.out; omega) wr w5.drew HS.out).mono ?_; rintro e w6 ⟨A6, c6, rfl, hb6⟩; have R6 := hid (hb6.row R5.out); have H6 := hid (Rbs.then_ HS.out hb6); have g6 := CX.out _ R6.out; clear hb6)
            | fail)
        all_goals
          (have HF : Hid (Rbs w w8 A8 ((l ++ enc g.base ++ enc g.term ++ enc (n : Int)) ++ flatTo encE g.es (j + 1)) (q1 + 8 + 8 + 8 + dk) ∧ w8.heap[b]? = some (.cells #[.int .i64 g.base, .int .i64 g.term, .slice (some ⟨b6, off, none⟩) n ce] 58 (0, 0))) := hid (by
             have h := H8.out
             rw [HNX.out] at h
             exact ⟨HQ.out.1.then_ h, h.row HQ.out.2⟩)
           clear HQ HS R5 R6 R7 H6 H7 H8 g0 g1 g6 g7 g8 CX HX HNX
           go_wp2_with fail
           go_roundw)
        all_goals first | exact ⟨j + 1, A8, c8, _, by omega, rfl, by go_num, HF⟩ | (simp [RowKit.intOf]; omega)
      · obtain rfl : j = n := by omega
        have hlt0 : ¬ (j : Int) < (j : Int) := by omega
        have HF : Hid (Rbs w wr A1 (l ++ encLg g) q2 ∧ q1 = q2) := hid (by
          have h := HQ.out.1
          have hfl : flatTo encE g.es j = g.es.flatMap encE := by rw [← HN.out.2.1, flatTo_all]
          have e1 : (l ++ enc g.base ++ enc g.term ++ enc (j : Int)) ++ flatTo encE g.es j = l ++ encLg g := by
            rw [hfl]; unfold encLg encL; rw [HN.out.2.1]; simp [List.append_assoc]
          have e2 : q1 = q2 := by rw [hq1.2, hfl, ← HN.out.2.2.2.2]; omega
          rw [e1] at h
          rw [e2] at h
          exact ⟨h, e2⟩)
        clear HQ hq1 hlt
        go_wp2_with fail
        go_ret
        exact ⟨A1, c1, ret_len HF.out.2, HF.out.1⟩
end Go.Proofs.YtaeoccpjdjafnaaGreat.Im
namespace Go.Proofs.YtaeoccpjdjafnaaGreat.Im
open Go Go.RowKit
open Rl (En Lg)
open Qu (Cf)
open Pk (enc encs)
set_option maxRecDepth 100000
set_option linter.unusedVariables false
attribute [local go_sem ↓] loadAt_hard storeAt_hard loadAt_vote storeAt_vote loadAt_change storeAt_change
set_option maxHeartbeats 12800000 in
theorem rChs_any (B' : Nat) (w : World) (hB' : B' ≤ w.heap.size) (L : List Cq) (n : Nat) (hn : L.length = n) (hnn : n ≤ 1000000) (hx : ∀ x ∈ L, Sz x.c.p) (hT : 8 + (L.flatMap encCq).length ≤ 10000000000) (Ah : Option Addr) (ch : Nat) (hh : IsCs w B' Ah L) (q2 : Nat) (hq2 : 8 + (L.flatMap encCq).length = q2) :
    Calls Tryz.prog 42 #[.slice Ah n ch] w (Rtold w (encL encCq L) q2) := by
  have HI := hid (And.intro hh hB')
  have HN := hid (And.intro hn (And.intro hnn (And.intro hx (And.intro hT hq2))))
  have HP := hid (rInt_any none 0 [] 0 (n : Int) ⟨by omega, by omega⟩ (by omega) w w (Rbs.refl IsBytes.nil rfl))
  clear hh hB' hn hx hT hq2
  go_enter Tryz.func42, Tryz.ntmps42
  go_wp2_with fail
  refine HP.out.mono ?_
  rintro e w2 ⟨A2, c2, rfl, hb2⟩
  have H2 : Hid (Rbs w w2 A2 (enc (n : Int) ++ flatTo encCq L 0) (0 + 8)) := hid (by
    have e : enc (n : Int) ++ flatTo encCq L 0 = [] ++ enc (n : Int) := by unfold flatTo; simp
    rw [e]; exact hb2)
  clear hb2 HP
  go_wp2_with fail
  go_loopw [3, 4] (fun v i wr => ∃ (j : Nat) (A1 : Option Addr) (c1 q1 : Nat), j ≤ n ∧ v = .slice A1 q1 c1 ∧ i = .int .i64 (j : Int) ∧ Hid (Rbs w wr A1 (enc (n : Int) ++ flatTo encCq L j) q1)) (fun _ i _ => n - (RowKit.intOf i).toNat)
  case atStart => exact ⟨0, A2, c2, _, Nat.zero_le _, rfl, rfl, H2⟩
  case round =>
    clear H2
    obtain ⟨j, A1, c1, q1, hj, rfl, rfl, HQ⟩ := hrel
    have hq1 : q1 = 8 + (flatTo encCq L j).length := by
      have h1 := HQ.out.len
      rw [List.length_append, Pk.enc_length] at h1
      omega
    by_cases hlt : j < n
    · have hjl : j < L.length := by rw [HN.out.1]; exact hlt
      have hlt0 : (j : Int) < (n : Int) := by omega
      have hbw := HQ.out.bel.mono HI.out.2
      obtain ⟨b6, off, hA, hbb, hcs⟩ := (HI.out.1.below hbw).row.at_ j hjl
      have hrg := hcs j hjl
      have hpt := (HI.out.1.below hbw).pt L[j] (List.getElem_mem hjl)
      have hnum := HI.out.1.num L[j] (List.getElem_mem hjl)
      have hsz := HN.out.2.2.1 L[j] (List.getElem_mem hjl)
      have hnx := flatTo_next encCq L j hjl
      have hle : (flatTo encCq L (j + 1)).length ≤ (L.flatMap encCq).length := flatTo_le encCq L (j + 1)
      rw [hnx, List.length_append] at hle
      obtain ⟨x, hxx⟩ : ∃ x, x = L[j] := ⟨_, rfl⟩
      rw [← hxx] at hrg hpt hnum hsz hnx hle
      obtain ⟨x, ax⟩ := x
      rw [show (encCq ⟨x, ax⟩).length = (encC x).length from rfl, encC_length, encPt_length] at hle
      obtain ⟨te, hte⟩ : ∃ te, (x.p.log.es.flatMap encE).length = te := ⟨_, rfl⟩
      obtain ⟨q3, hq3⟩ : ∃ q3, q1 + 8 + 8 + 8 + 8 + 8 + (24 + te) = q3 := ⟨_, rfl⟩
      rw [hte] at hle
      have hld : (ldX 62 (.pointer (some ⟨b6, off + j * 17, none⟩))).run Tryz.prog wr = .ok (.agg #[.int .i64 x.k, .int .i64 x.g, .int .i64 x.t, .int .i64 x.v, .int .i64 x.f, .int .i64 x.p.log.base, .int .i64 x.p.log.term, .slice ax.e x.p.log.es.length ax.ce, .slice ax.o x.p.cf.old.length ax.co, .slice ax.n x.p.cf.new.length ax.cn, .slice ax.l x.p.cf.lrn.length ax.cl, .slice ax.s x.p.sn.length ax.cs, .int .i64 x.a.x, .int .i64 x.a.p, .int .i64 x.a.r, .int .i64 x.a.b, .int .i64 x.a.v]) wr := ldC wr b6 (off + j * 17) (cellsC ⟨x, ax⟩) rfl hrg
      subst hA
      have hst := stNew wr 62 17 info_change #[.int .i64 0, .int .i64 0, .int .i64 0, .int .i64 0, .int .i64 0, .int .i64 0, .int .i64 0, .slice none 0 0, .slice none 0 0, .slice none 0 0, .slice none 0 0, .slice none 0 0, .int .i64 0, .int .i64 0, .int .i64 0, .int .i64 0, .int .i64 0] (#[.int .i64 x.k, .int .i64 x.g, .int .i64 x.t, .int .i64 x.v, .int .i64 x.f, .int .i64 x.p.log.base, .int .i64 x.p.log.term, .slice ax.e x.p.log.es.length ax.ce, .slice ax.o x.p.cf.old.length ax.co, .slice ax.n x.p.cf.new.length ax.cn, .slice ax.l x.p.cf.lrn.length ax.cl, .slice ax.s x.p.sn.length ax.cs, .int .i64 x.a.x, .int .i64 x.a.p, .int .i64 x.a.r, .int .i64 x.a.b, .int .i64 x.a.v]) rfl rfl (by simp [Value.oneCell'])
      obtain ⟨w5, hw5⟩ : ∃ w5, w5 = wr.alloc (.cells (#[.int .i64 x.k, .int .i64 x.g, .int .i64 x.t, .int .i64 x.v, .int .i64 x.f, .int .i64 x.p.log.base, .int .i64 x.p.log.term, .slice ax.e x.p.log.es.length ax.ce, .slice ax.o x.p.cf.old.length ax.co, .slice ax.n x.p.cf.new.length ax.cn, .slice ax.l x.p.cf.lrn.length ax.cl, .slice ax.s x.p.sn.length ax.cs, .int .i64 x.a.x, .int .i64 x.a.p, .int .i64 x.a.r, .int .i64 x.a.b, .int .i64 x.a.v]) 62) := ⟨_, rfl⟩
      obtain ⟨be, hbe⟩ : ∃ be, be = wr.heap.size := ⟨_, rfl⟩
      have r5 : w5.heap[be]? = some (.cells (#[.int .i64 x.k, .int .i64 x.g, .int .i64 x.t, .int .i64 x.v, .int .i64 x.f, .int .i64 x.p.log.base, .int .i64 x.p.log.term, .slice ax.e x.p.log.es.length ax.ce, .slice ax.o x.p.cf.old.length ax.co, .slice ax.n x.p.cf.new.length ax.cn, .slice ax.l x.p.cf.lrn.length ax.cl, .slice ax.s x.p.sn.length ax.cs, .int .i64 x.a.x, .int .i64 x.a.p, .int .i64 x.a.r, .int .i64 x.a.b, .int .i64 x.a.v]) 62 (0, 0)) := by rw [hw5, hbe]; exact heap_alloc_new wr _
      rw [← hw5] at hst
      have hb5 : Below wr.heap.size wr w5 := by rw [hw5]; exact (Below.refl _ wr).alloc (Nat.le_refl _) _
      have HS : Hid (Rbs wr w5.drew A1 (enc (n : Int) ++ flatTo encCq L j) q1) := hid (Rbs.drew ⟨(HQ.out.is.below hb5).more hb5.size, HQ.out.len, hb5⟩)
      have CX : Hid (∀ W : World, W.heap[be]? = some (.cells (#[.int .i64 x.k, .int .i64 x.g, .int .i64 x.t, .int .i64 x.v, .int .i64 x.f, .int .i64 x.p.log.base, .int .i64 x.p.log.term, .slice ax.e x.p.log.es.length ax.ce, .slice ax.o x.p.cf.old.length ax.co, .slice ax.n x.p.cf.new.length ax.cn, .slice ax.l x.p.cf.lrn.length ax.cl, .slice ax.s x.p.sn.length ax.cs, .int .i64 x.a.x, .int .i64 x.a.p, .int .i64 x.a.r, .int .i64 x.a.b, .int .i64 x.a.v]) 62 (0, 0)) → ((W.cell? ⟨be, 0, none⟩ = some (.int .i64 x.k) ∧ W.cell? ⟨be, 1, none⟩ = some (.int .i64 x.g) ∧ W.cell? ⟨be, 2, none⟩ = some (.int .i64 x.t) ∧ W.cell? ⟨be, 3, none⟩ = some (.int .i64 x.v) ∧ W.cell? ⟨be, 4, none⟩ = some (.int .i64 x.f)) ∧ (W.cell? ⟨be, 5, none⟩ = some (.int .i64 x.p.log.base) ∧ W.cell? ⟨be, 6, none⟩ = some (.int .i64 x.p.log.term) ∧ W.cell? ⟨be, 7, none⟩ = some (.slice ax.e x.p.log.es.length ax.ce)) ∧ (W.cell? ⟨be, 8, none⟩ = some (.slice ax.o x.p.cf.old.length ax.co) ∧ W.cell? ⟨be, 9, none⟩ = some (.slice ax.n x.p.cf.new.length ax.cn) ∧ W.cell? ⟨be, 10, none⟩ = some (.slice ax.l x.p.cf.lrn.length ax.cl)) ∧ W.cell? ⟨be, 11, none⟩ = some (.slice ax.s x.p.sn.length ax.cs) ∧ (ldX 60 (.pointer (some ⟨be, 12, none⟩))).run Tryz.prog W = .ok (.agg #[.int .i64 x.a.x, .int .i64 x.a.p, .int .i64 x.a.r, .int .i64 x.a.b, .int .i64 x.a.v]) W)) := hid fun W hW => ⟨⟨row_cell hW 0, row_cell hW 1, row_cell hW 2, row_cell hW 3, row_cell hW 4⟩, ⟨row_cell hW 5, row_cell hW 6, row_cell hW 7⟩, ⟨row_cell hW 8, row_cell hW 9, row_cell hW 10⟩, row_cell hW 11, run_ldVoteC hW⟩
      have R5 := hid r5
      have g0 := CX.out w5 r5
      have g1 := CX.out w5.drew r5
      have HX := hid (And.intro hnum (And.intro hpt (And.intro hsz (And.intro hte hq3))))
      have HNX : Hid ((enc (n : Int) ++ flatTo encCq L j) ++ enc x.k ++ enc x.g ++ enc x.t ++ enc x.v ++ enc x.f ++ encLg x.p.log ++ encCf x.p.cf ++ encB x.p.sn ++ encV x.a = enc (n : Int) ++ flatTo encCq L (j + 1)) := hid (by rw [hnx]; show _ = _ ++ (_ ++ encC x); unfold encC encPt; simp [List.append_assoc])
      have hBr : B' ≤ wr.heap.size := Nat.le_trans HI.out.2 HQ.out.bel.size
      have HBR := hid hBr
      have HQ1 := hid (And.intro hq1 (And.intro hle HN.out.2.2.2.1))
      have H5 := HS
      clear hq1 hle hpt hsz hte hq3 hrg hnum hnx hxx hcs hbw hb5 hjl r5 hBr
      go_wp2_with fail
      rw [← hw5, ← hbe]
      clear hw5 hbe hld hst
      go_region_held3 (fun W => ((W.cell? ⟨be, 0, none⟩ = some (.int .i64 x.k) ∧ W.cell? ⟨be, 1, none⟩ = some (.int .i64 x.g) ∧ W.cell? ⟨be, 2, none⟩ = some (.int .i64 x.t) ∧ W.cell? ⟨be, 3, none⟩ = some (.int .i64 x.v) ∧ W.cell? ⟨be, 4, none⟩ = some (.int .i64 x.f)) ∧ (W.cell? ⟨be, 5, none⟩ = some (.int .i64 x.p.log.base) ∧ W.cell? ⟨be, 6, none⟩ = some (.int .i64 x.p.log.term) ∧ W.cell? ⟨be, 7, none⟩ = some (.slice ax.e x.p.log.es.length ax.ce)) ∧ (W.cell? ⟨be, 8, none⟩ = some (.slice ax.o x.p.cf.old.length ax.co) ∧ W.cell? ⟨be, 9, none⟩ = some (.slice ax.n x.p.cf.new.length ax.cn) ∧ W.cell? ⟨be, 10, none⟩ = some (.slice ax.l x.p.cf.lrn.length ax.cl)) ∧ W.cell? ⟨be, 11, none⟩ = some (.slice ax.s x.p.sn.length ax.cs) ∧ (ldX 60 (.pointer (some ⟨be, 12, none⟩))).run Tryz.prog W = .ok (.agg #[.int .i64 x.a.x, .int .i64 x.a.p, .int .i64 x.a.r, .int .i64 x.a.b, .int .i64 x.a.v]) W))
        (first | with_reducible exact g7 | with_reducible exact g6 | with_reducible exact g1 | with_reducible exact g0 | fail)
        (first
          | (go_at_call 55; refine (rInt_any _ _ _ _ x.g HX.out.1.1.2.1 (by have := HQ1.out; omega) _ _ H6.out).mono ?_; rintro e w7 ⟨A7, c7, rfl, hb7⟩; have R7 := hid (hb7.row R6.out); have H7 := hid (H6.out.then_ hb7); have g7 := CX.out _ R7.out; clear hb7)
          | (go_at_call 55; refine (rInt_any _ _ _ _ x.k HX.out.1.1.1 (by have := HQ1.out; omega) _ _ H5.out).mono ?_; rintro e w6 ⟨A6, c6, rfl, hb6⟩; have R6 := hid (hb6.row R5.out); have H6 := hid (H5.out.then_ hb6); have g6 := CX.out _ R6.out; clear hb6)
          | fail)
      all_goals
        have R7' : Hid (w7.drew.heap[be]? = some (.cells (#[.int .i64 x.k, .int .i64 x.g, .int .i64 x.t, .int .i64 x.v, .int .i64 x.f, .int .i64 x.p.log.base, .int .i64 x.p.log.term, .slice ax.e x.p.log.es.length ax.ce, .slice ax.o x.p.cf.old.length ax.co, .slice ax.n x.p.cf.new.length ax.cn, .slice ax.l x.p.cf.lrn.length ax.cl, .slice ax.s x.p.sn.length ax.cs, .int .i64 x.a.x, .int .i64 x.a.p, .int .i64 x.a.r, .int .i64 x.a.b, .int .i64 x.a.v]) 62 (0, 0))) := hid R7.out
        have g7d := CX.out w7.drew R7.out
        have H8 := hid H7.out.drew
        have R8 := R7'
        clear g0 g1 g6 H5 H6 H7 R5 R6 HS
        go_wp2_with fail
        go_region_held3 (fun W => ((W.cell? ⟨be, 0, none⟩ = some (.int .i64 x.k) ∧ W.cell? ⟨be, 1, none⟩ = some (.int .i64 x.g) ∧ W.cell? ⟨be, 2, none⟩ = some (.int .i64 x.t) ∧ W.cell? ⟨be, 3, none⟩ = some (.int .i64 x.v) ∧ W.cell? ⟨be, 4, none⟩ = some (.int .i64 x.f)) ∧ (W.cell? ⟨be, 5, none⟩ = some (.int .i64 x.p.log.base) ∧ W.cell? ⟨be, 6, none⟩ = some (.int .i64 x.p.log.term) ∧ W.cell? ⟨be, 7, none⟩ = some (.slice ax.e x.p.log.es.length ax.ce)) ∧ (W.cell? ⟨be, 8, none⟩ = some (.slice ax.o x.p.cf.old.length ax.co) ∧ W.cell? ⟨be, 9, none⟩ = some (.slice ax.n x.p.cf.new.length ax.cn) ∧ W.cell? ⟨be, 10, none⟩ = some (.slice ax.l x.p.cf.lrn.length ax.cl)) ∧ W.cell? ⟨be, 11, none⟩ = some (.slice ax.s x.p.sn.length ax.cs) ∧ (ldX 60 (.pointer (some ⟨be, 12, none⟩))).run Tryz.prog W = .ok (.agg #[.int .i64 x.a.x, .int .i64 x.a.p, .int .i64 x.a.r, .int .i64 x.a.b, .int .i64 x.a.v]) W))
          (first | with_reducible exact g11 | with_reducible exact g10 | with_reducible exact g9 | with_reducible exact g7d | with_reducible exact g7 | fail)
          (first
            | (go_at_call 55; refine (rInt_any _ _ _ _ x.f HX.out.1.1.2.2.2.2 (by have := HQ1.out; omega) _ _ H10.out).mono ?_; rintro e w11 ⟨A11, c11, rfl, hb11⟩; have R11 := hid (hb11.row R10.out); have H11 := hid (H10.out.then_ hb11); have g11 := CX.out _ R11.out; clear hb11)
            | (go_at_call 55; refine (rInt_any _ _ _ _ x.v HX.out.1.1.2.2.2.1 (by have := HQ1.out; omega) _ _ H9.out).mono ?_; rintro e w10 ⟨A10, c10, rfl, hb10⟩; have R10 := hid (hb10.row R9.out); have H10 := hid (H9.out.then_ hb10); have g10 := CX.out _ R10.out; clear hb10)
            | (go_at_call 55; refine (rInt_any _ _ _ _ x.t HX.out.1.1.2.2.1 (by have := HQ1.out; omega) _ _ H8.out).mono ?_; rintro e w9 ⟨A9, c9, rfl, hb9⟩; have R9 := hid (hb9.row R8.out); have H9 := hid (H8.out.then_ hb9); have g9 := CX.out _ R9.out; clear hb9)
            | fail)
      all_goals
        have R11' : Hid (w11.drew.heap[be]? = some (.cells (#[.int .i64 x.k, .int .i64 x.g, .int .i64 x.t, .int .i64 x.v, .int .i64 x.f, .int .i64 x.p.log.base, .int .i64 x.p.log.term, .slice ax.e x.p.log.es.length ax.ce, .slice ax.o x.p.cf.old.length ax.co, .slice ax.n x.p.cf.new.length ax.cn, .slice ax.l x.p.cf.lrn.length ax.cl, .slice ax.s x.p.sn.length ax.cs, .int .i64 x.a.x, .int .i64 x.a.p, .int .i64 x.a.r, .int .i64 x.a.b, .int .i64 x.a.v]) 62 (0, 0))) := hid R11.out
        have g11d := CX.out w11.drew R11.out
        have H12 := hid H11.out.drew
        have HLG := hid (rLog_any A11 c11 _ _ x.p.log HX.out.2.1.num x.p.log.es.length rfl HX.out.2.2.1.e HX.out.2.2.1.d (by rw [HX.out.2.2.2.1]; have := HQ1.out; omega) B' ax.e ax.ce wr w11.drew H12.out (Nat.le_trans HBR.out H12.out.bel.size) (HX.out.2.1.es.below (H12.out.bel.mono HBR.out)) q3 (by rw [HX.out.2.2.2.1]; exact HX.out.2.2.2.2))
        clear g7 g7d g9 g10 H8 H9 H10 H11 R7 R7' R8 R9 R10
        go_wp2_with fail
        go_region_held3 (fun W => ((W.cell? ⟨be, 0, none⟩ = some (.int .i64 x.k) ∧ W.cell? ⟨be, 1, none⟩ = some (.int .i64 x.g) ∧ W.cell? ⟨be, 2, none⟩ = some (.int .i64 x.t) ∧ W.cell? ⟨be, 3, none⟩ = some (.int .i64 x.v) ∧ W.cell? ⟨be, 4, none⟩ = some (.int .i64 x.f)) ∧ (W.cell? ⟨be, 5, none⟩ = some (.int .i64 x.p.log.base) ∧ W.cell? ⟨be, 6, none⟩ = some (.int .i64 x.p.log.term) ∧ W.cell? ⟨be, 7, none⟩ = some (.slice ax.e x.p.log.es.length ax.ce)) ∧ (W.cell? ⟨be, 8, none⟩ = some (.slice ax.o x.p.cf.old.length ax.co) ∧ W.cell? ⟨be, 9, none⟩ = some (.slice ax.n x.p.cf.new.length ax.cn) ∧ W.cell? ⟨be, 10, none⟩ = some (.slice ax.l x.p.cf.lrn.length ax.cl)) ∧ W.cell? ⟨be, 11, none⟩ = some (.slice ax.s x.p.sn.length ax.cs) ∧ (ldX 60 (.pointer (some ⟨be, 12, none⟩))).run Tryz.prog W = .ok (.agg #[.int .i64 x.a.x, .int .i64 x.a.p, .int .i64 x.a.r, .int .i64 x.a.b, .int .i64 x.a.v]) W))
          (first | with_reducible exact g16 | with_reducible exact g15 | with_reducible exact g14 | with_reducible exact g13 | with_reducible exact g11d | with_reducible exact g11 | fail)
          (first
            | (go_at_call 59; refine (rVote_any _ _ _ _ x.a HX.out.1.2 (by have := HQ1.out; have := HX.out.2.2.2.2; omega) _ _ H15.out).mono ?_; rintro e w16 ⟨A16, c16, rfl, hb16⟩; have H16 := hid (H15.out.then_ hb16); have g16 := CX.out _ (hb16.row R15.out); clear hb16)
            | (go_at_call 56; refine (rBlob_any _ _ _ _ B' ax.s ax.cs x.p.sn x.p.sn.length rfl (by have := HX.out.2.2.1.s; omega) (by have := HQ1.out; have := HX.out.2.2.2.2; omega) _ _ H14.out (HX.out.2.1.s.below (H14.out.bel.mono HBR.out)) (Nat.le_trans HBR.out H14.out.bel.size)).mono ?_; rintro e w15 ⟨A15, c15, rfl, hb15⟩; have R15 := hid (hb15.row R14.out); have H15 := hid (H14.out.then_ hb15); have g15 := CX.out _ R15.out; clear hb15)
            | (go_at_call 57; refine (rConf_any _ _ _ _ x.p.cf ax.o ax.n ax.l ax.co ax.cn ax.cl _ _ _ rfl rfl rfl ⟨HX.out.2.2.1.o, HX.out.2.2.1.n, HX.out.2.2.1.l⟩ (by have := HQ1.out; have := HX.out.2.2.2.2; omega) B' _ _ H13.out (Nat.le_trans HBR.out H13.out.bel.size) (HX.out.2.1.o.below (H13.out.bel.mono HBR.out)) (HX.out.2.1.n.below (H13.out.bel.mono HBR.out)) (HX.out.2.1.l.below (H13.out.bel.mono HBR.out))).mono ?_; rintro e w14 ⟨A14, c14, rfl, hb14⟩; have R14 := hid (hb14.row R13.out); have H14 := hid (H13.out.then_ hb14); have g14 := CX.out _ R14.out; clear hb14)
            | (go_at_call 58; refine HLG.out.mono ?_; rintro e w13 ⟨A13, c13, rfl, hb13⟩; have R13 := hid (hb13.row R11'.out); have H13 := hid (H12.out.then_ hb13); have g13 := CX.out _ R13.out; clear hb13)
            | fail)
      all_goals
        (have HF : Hid (∃ q4, q4 = q3 + (8 + 8 * x.p.cf.old.length) + (8 + 8 * x.p.cf.new.length) + (8 + 8 * x.p.cf.lrn.length) + 8 + x.p.sn.length + 40 ∧ Rbs w w16 A16 (enc (n : Int) ++ flatTo encCq L (j + 1)) q4) := hid (by
           have h := H16.out
           rw [HNX.out] at h
           exact ⟨_, rfl, HQ.out.then_ h⟩)
         obtain ⟨q4, hq4, HF⟩ := HF.out
         replace HF := hid HF
         rw [← hq4]
         clear HQ R11 R11' R13 R14 R15 H12 H13 H14 H15 H16 g11 g11d g13 g14 g15 g16 CX HX HNX HLG hq4 HQ1
         go_wp2_with fail
         go_roundw)
      all_goals first | exact ⟨j + 1, A16, c16, _, by omega, rfl, by go_num, HF⟩ | (simp [RowKit.intOf]; omega)
    · obtain rfl : j = n := by omega
      have hlt0 : ¬ (j : Int) < (j : Int) := by omega
      have HF : Hid (Rbs w wr A1 (encL encCq L) q2 ∧ q1 = q2) := hid (by
        have hfl : flatTo encCq L j = L.flatMap encCq := by rw [← HN.out.1, flatTo_all]
        have h := HQ.out
        rw [hfl, show enc (j : Int) ++ L.flatMap encCq = encL encCq L by unfold encL; rw [HN.out.1]] at h
        have e : q1 = q2 := by rw [hq1, hfl]; exact HN.out.2.2.2.2
        exact ⟨e ▸ h, e⟩)
      clear hq1 hlt HQ
      go_wp2_with fail
      go_ret
      exact ⟨A1, c1, by rw [← HF.out.2]; rfl, HF.out.1⟩
end Go.Proofs.YtaeoccpjdjafnaaGreat.Im
namespace Go.Proofs.YtaeoccpjdjafnaaGreat.Im
open Go Go.RowKit
open Rl (En Lg)
open Qu (Cf)
set_option maxRecDepth 100000
set_option linter.unusedVariables false
local instance lo28 : Lo := ⟨0⟩
attribute [local go_sem ↓] loadAt_change storeAt_change loadAt_conf3 storeAt_conf3
structure SpC (w wr : World) (B N : Nat) (A : Option Addr) (c : Nat) (M : List Cq) (k : Nat) : Prop where
  row : RowIn cellsC 17 62 wr (Bl B N) A c (halfD deadC M k)
  pts : ∃ m, B ≤ m ∧ OwnPts wr m N ((M.drop k).map fun q => (q.c.p, q.a))
  tur : Turned (Bl B N) w wr
end Go.Proofs.YtaeoccpjdjafnaaGreat.Im
namespace Go.Proofs.YtaeoccpjdjafnaaGreat.Im
open Go Go.RowKit
open Rl (En Lg)
open Qu (Cf)
set_option maxRecDepth 100000
set_option linter.unusedVariables false
attribute [local go_sem ↓] loadAt_vote
end Go.Proofs.YtaeoccpjdjafnaaGreat.Im
namespace Go.Proofs.YtaeoccpjdjafnaaGreat.Im
open Go Go.RowKit
open Rl (En Lg)
open Qu (Cf)
set_option maxRecDepth 100000
set_option linter.unusedVariables false
attribute [local go_sem ↓] loadAt_vote
set_option maxHeartbeats 6400000 in
theorem refOrdered_any (i : Ia) (nh nv : Nat) (Q : List Hq) (L : List Vt) (hnh : Q.length = nh) (hnv : L.length = nv) (hlh : nh ≤ 100000) (hlv : nv ≤ 100000) (w : World) (h : IsHds w w.heap.size i.h Q) (hv : IsVs w w.heap.size i.v L) :
    Calls Tryz.prog 33 #[.agg #[.slice i.h nh i.ch, .slice i.v nv i.cv]] w fun e w' => e = .returned (.bool (sorted ⟨Q.map (·.h), L⟩)) ∧ Below w.heap.size w w' := by
  obtain ⟨w1, hw1⟩ : ∃ w1, w1 = w.alloc (.cells #[.slice i.h nh i.ch, .slice i.v nv i.cv] 25) := ⟨_, rfl⟩
  have hb1 : Below w.heap.size w w1 := by rw [hw1]; exact (Below.refl _ w).alloc (Nat.le_refl _) _
  have r1 : w1.heap[w.heap.size]? = some (.cells #[.slice i.h nh i.ch, .slice i.v nv i.cv] 25 (0, 0)) := by rw [hw1]; exact heap_alloc_new w _
  have HA := hid (asc_iff ltH (Q.map (·.h)))
  have HAV := hid (asc_iff ltV L)
  have HH := hid (And.intro h (And.intro hnh (And.intro hv (And.intro hnv (And.intro hb1 r1)))))
  obtain ⟨b0, hb0⟩ : ∃ b, b = w.heap.size := ⟨_, rfl⟩
  have HB0 := hid hb0
  clear h hv hnh hnv hb1 r1
  go_enter Tryz.func33, Tryz.ntmps33
  go_wp2_with fail
  rw [← hw1, ← hb0]
  clear hw1 hb0
  go_loopw [3] (fun i wr => ∃ k : Nat, k ≤ nh ∧ i = .int .i64 ((k : Int) + 1) ∧ Hid (Below w1.heap.size w1 wr ∧ ∀ j (hj : j + 1 < Q.length), j < k → (Q[j]'(by omega)).h.g < (Q[j + 1]'hj).h.g)) (fun i _ => nh + 1 - (RowKit.intOf i).toNat)
  case atStart => exact ⟨0, Nat.zero_le _, rfl, hid ⟨Below.refl _ _, fun j hj hlt => absurd hlt (Nat.not_lt_zero _)⟩⟩
  case round =>
    obtain ⟨k, hk, rfl, HK⟩ := hrel
    have c0 : wr.cell? ⟨b0, 0, none⟩ = some (.slice i.h nh i.ch) := row_cell ((HK.out.1.block b0 (by rw [HB0.out]; exact row_lt HH.out.2.2.2.2.2)).trans (by rw [HB0.out]; exact HH.out.2.2.2.2.2)) 0
    by_cases hlt : k + 1 < nh
    · have hQ : k + 1 < Q.length := by rw [HH.out.2.1]; exact hlt
      have hI := HH.out.1.below (HH.out.2.2.2.2.1.trans (HK.out.1.mono HH.out.2.2.2.2.1.size))
      obtain ⟨b, off, hA, hbb, hcs⟩ := hI.row.at_ k (by omega)
      rw [hA] at c0
      obtain ⟨x, hx⟩ : ∃ x, x = Q[k]'(by omega) := ⟨_, rfl⟩
      obtain ⟨y, hy⟩ : ∃ y, y = Q[k + 1]'hQ := ⟨_, rfl⟩
      have hr0 := hcs k (by omega) 0 _ rfl
      have hr1 := hcs (k + 1) hQ 0 _ rfl
      rw [← hx] at hr0
      rw [← hy] at hr1
      have l0 : wr.cell? ⟨b, off + k * 10, none⟩ = some (.int .i64 x.h.g) := hr0
      have l1 : wr.cell? ⟨b, off + (k + 1) * 10, none⟩ = some (.int .i64 y.h.g) := hr1
      have HST : Hid (∀ j (hj : j + 1 < Q.length), j < k + 1 → x.h.g < y.h.g → (Q[j]'(by omega)).h.g < (Q[j + 1]'hj).h.g) := hid (by
        intro j hj hlt2 hxy
        by_cases e : j = k
        · subst e; rw [← hx, ← hy]; exact hxy
        · exact HK.out.2 j hj (by omega))
      have HNO : Hid (¬ x.h.g < y.h.g → sorted ⟨Q.map (·.h), L⟩ = false) := hid (by
        intro hno
        have : asc ltH (Q.map (·.h)) = false := by
          rw [Bool.eq_false_iff]
          intro hb
          have := HA.out.1 hb k (by simpa using hQ)
          rw [List.getElem_map, List.getElem_map, ← hx, ← hy] at this
          exact absurd (by simpa [ltH] using this) hno
        unfold sorted
        rw [this]; rfl)
      have HBW := hid HK.out.1.drew
      have w0 : (k : Int) + 1 - 1 = (k : Int) := by omega
      have w1 : IntKind.i64.wrap (k : Int) = (k : Int) := by rw [IntKind.wrap_i64]; omega
      have w2 : IntKind.i64.wrap ((k : Int) + 1 - 1) = (k : Int) := by rw [IntKind.wrap_i64]; omega
      have b3 : (0 : Int) ≤ (k : Int) + 1 := by omega
      have t0 : ((k : Int) + 1).toNat = k + 1 := by omega
      have b00 : (0 : Int) ≤ (k : Int) := by omega
      have b1 : (k : Int) < (nh : Int) := by omega
      have b2 : (k : Int) + 1 < (nh : Int) := by omega
      clear hI hcs hr0 hr1 hx hy hQ hA hbb
      by_cases hxy : x.h.g < y.h.g
      · have hd : decide (x.h.g < y.h.g) = true := decide_eq_true hxy
        have hd2 : ¬ y.h.g ≤ x.h.g := by omega
        have HN := hid (fun j hj hl => HST.out j hj hl hxy)
        clear hxy
        go_wp2_with fail
        go_still_tail 13, (by kernel_rfl)
        go_wp2_with fail
        go_roundw
        case rel => exact ⟨k + 1, by omega, by go_num, hid ⟨HBW.out, HN.out⟩⟩
        case measure => simp [RowKit.intOf]; omega
      · have hd2 : y.h.g ≤ x.h.g := by omega
        have HN := hid (HNO.out hxy)
        clear hxy
        go_wp2_with fail
        go_still_tail 13, (by kernel_rfl)
        go_wp2_with fail
        go_ret
        rw [HN.out]
        exact ⟨rfl, HH.out.2.2.2.2.1.trans (HBW.out.mono HH.out.2.2.2.2.1.size)⟩
    · have HAS : Hid (asc ltH (Q.map (·.h)) = true) := hid (HA.out.2 (fun j hj => by
        rw [List.length_map] at hj
        rw [List.getElem_map, List.getElem_map]
        have := HK.out.2 j hj (by have := HH.out.2.1; omega)
        simpa [ltH] using this))
      have HB1 := hid HK.out.1
      clear HK
      go_wp2_with fail
      go_loopw [4] (fun i wr => ∃ k : Nat, k ≤ nv ∧ i = .int .i64 ((k : Int) + 1) ∧ Hid (Below w1.heap.size w1 wr ∧ ∀ j (hj : j + 1 < L.length), j < k → ltV (L[j]'(by omega)) (L[j + 1]'hj) = true)) (fun i _ => nv + 1 - (RowKit.intOf i).toNat)
      case atStart => exact ⟨0, Nat.zero_le _, rfl, hid ⟨HB1.out, fun j hj hlt => absurd hlt (Nat.not_lt_zero _)⟩⟩
      case round =>
        clear HB1 c0 hlt
        obtain ⟨k, hk, rfl, HK⟩ := hrel
        have c1 : wr.cell? ⟨b0, 1, none⟩ = some (.slice i.v nv i.cv) := row_cell ((HK.out.1.block b0 (by rw [HB0.out]; exact row_lt HH.out.2.2.2.2.2)).trans (by rw [HB0.out]; exact HH.out.2.2.2.2.2)) 1
        by_cases hlt : k + 1 < nv
        · have hQ : k + 1 < L.length := by rw [HH.out.2.2.2.1]; exact hlt
          have hI := HH.out.2.2.1.row.below (HH.out.2.2.2.2.1.trans (HK.out.1.mono HH.out.2.2.2.2.1.size))
          obtain ⟨b, off, hA, hbb, hcs⟩ := hI.at_ k (by omega)
          rw [hA] at c1
          obtain ⟨x, hx⟩ : ∃ x, x = L[k]'(by omega) := ⟨_, rfl⟩
          obtain ⟨y, hy⟩ : ∃ y, y = L[k + 1]'hQ := ⟨_, rfl⟩
          have hr0 := hcs k (by omega)
          have hr1 := hcs (k + 1) hQ
          rw [← hx] at hr0
          rw [← hy] at hr1
          have hbwr : b < wr.heap.size := by have := HH.out.2.2.2.2.1.size; have := HK.out.1.size; omega
          have LD : Hid (∀ W, Below wr.heap.size wr W → (ldX 60 (.pointer (some ⟨b, off + k * 5, none⟩))).run Tryz.prog W = .ok (.agg #[.int .i64 x.x, .int .i64 x.p, .int .i64 x.r, .int .i64 x.b, .int .i64 x.v]) W ∧ (ldX 60 (.pointer (some ⟨b, off + (k + 1) * 5, none⟩))).run Tryz.prog W = .ok (.agg #[.int .i64 y.x, .int .i64 y.p, .int .i64 y.r, .int .i64 y.b, .int .i64 y.v]) W ∧ W.cell? ⟨b0, 1, none⟩ = some (.slice (some ⟨b, off, none⟩) nv i.cv)) := hid (fun W hb =>
            ⟨ldV W b (off + k * 5) (cellsV x) rfl (fun j v hv => (hb.cell (p := ⟨b, off + k * 5 + j, none⟩) hbwr).trans (hr0 j v hv)), ldV W b (off + (k + 1) * 5) (cellsV y) rfl (fun j v hv => (hb.cell (p := ⟨b, off + (k + 1) * 5 + j, none⟩) hbwr).trans (hr1 j v hv)), (hb.cell (p := ⟨b0, 1, none⟩) (by have := row_lt HH.out.2.2.2.2.2; have := HK.out.1.size; have := HB0.out; show b0 < _; omega)).trans c1⟩)
          obtain ⟨l0, l1, l2⟩ := LD.out wr.drew (Below.refl _ _).drew
          have HST : Hid (∀ j (hj : j + 1 < L.length), j < k + 1 → ltV x y = true → ltV (L[j]'(by omega)) (L[j + 1]'hj) = true) := hid (by
            intro j hj hlt2 hxy
            by_cases e : j = k
            · subst e; rw [← hx, ← hy]; exact hxy
            · exact HK.out.2 j hj (by omega))
          have HNO : Hid (ltV x y = false → sorted ⟨Q.map (·.h), L⟩ = false) := hid (by
            intro hno
            have : asc ltV L = false := by
              rw [Bool.eq_false_iff]
              intro hb
              have := HAV.out.1 hb k hQ
              rw [← hx, ← hy, hno] at this
              cases this
            unfold sorted
            show (asc ltH (Q.map (·.h)) && asc ltV L) = false
            rw [this, Bool.and_false])
          have HBK := hid HK.out.1
          have w0 : (k : Int) + 1 - 1 = (k : Int) := by omega
          have w1 : IntKind.i64.wrap (k : Int) = (k : Int) := by rw [IntKind.wrap_i64]; omega
          have w2 : IntKind.i64.wrap ((k : Int) + 1 - 1) = (k : Int) := by rw [IntKind.wrap_i64]; omega
          have b3 : (0 : Int) ≤ (k : Int) + 1 := by omega
          have t0 : ((k : Int) + 1).toNat = k + 1 := by omega
          have b00 : (0 : Int) ≤ (k : Int) := by omega
          have b1 : (k : Int) < (nv : Int) := by omega
          have b2 : (k : Int) + 1 < (nv : Int) := by omega
          clear hI hcs hr0 hr1 hx hy hQ hA hbb hbwr
          obtain ⟨bb, hbb⟩ : ∃ bb, ltV x y = bb := ⟨_, rfl⟩
          have HAD : Hid (∀ W : World, Calls Tryz.prog 89 #[.agg #[.int .i64 x.x, .int .i64 x.p, .int .i64 x.r, .int .i64 x.b, .int .i64 x.v], .agg #[.int .i64 y.x, .int .i64 y.p, .int .i64 y.r, .int .i64 y.b, .int .i64 y.v]] W fun e w' => e = .returned (.bool bb) ∧ Below W.heap.size W w') := hid (fun W => by rw [← hbb]; exact ahead_any x y W)
          have HBB := hid hbb
          clear hbb
          cases bb with
          | false =>
            have HN := hid (HNO.out HBB.out)
            go_wp2_with fail
            go_region_held3 (fun W => (ldX 60 (.pointer (some ⟨b, off + k * 5, none⟩))).run Tryz.prog W = .ok (.agg #[.int .i64 x.x, .int .i64 x.p, .int .i64 x.r, .int .i64 x.b, .int .i64 x.v]) W ∧ (ldX 60 (.pointer (some ⟨b, off + (k + 1) * 5, none⟩))).run Tryz.prog W = .ok (.agg #[.int .i64 y.x, .int .i64 y.p, .int .i64 y.r, .int .i64 y.b, .int .i64 y.v]) W ∧ W.cell? ⟨b0, 1, none⟩ = some (.slice (some ⟨b, off, none⟩) nv i.cv))
              (first | with_reducible exact s4 | exact ⟨l0, l1, l2⟩ | exact LD.out wr (Below.refl _ _) | fail)
              (first | (go_at_call 89; refine (HAD.out _).mono ?_; rintro e w4 ⟨rfl, hb4⟩; have B4 := hid ((Below.refl _ wr).drew.trans hb4); have s4 := LD.out _ B4.out; clear hb4) | fail)
            all_goals
              clear l0 l1 l2 s4
              go_wp2_with fail
              go_ret
              rw [HN.out]
              exact ⟨rfl, HH.out.2.2.2.2.1.trans ((HBK.out.trans (B4.out.mono HBK.out.size)).mono HH.out.2.2.2.2.1.size)⟩
          | true =>
            have HN := hid (fun j hj hl => HST.out j hj hl HBB.out)
            go_wp2_with fail
            go_region_held3 (fun W => (ldX 60 (.pointer (some ⟨b, off + k * 5, none⟩))).run Tryz.prog W = .ok (.agg #[.int .i64 x.x, .int .i64 x.p, .int .i64 x.r, .int .i64 x.b, .int .i64 x.v]) W ∧ (ldX 60 (.pointer (some ⟨b, off + (k + 1) * 5, none⟩))).run Tryz.prog W = .ok (.agg #[.int .i64 y.x, .int .i64 y.p, .int .i64 y.r, .int .i64 y.b, .int .i64 y.v]) W ∧ W.cell? ⟨b0, 1, none⟩ = some (.slice (some ⟨b, off, none⟩) nv i.cv))
              (first | with_reducible exact s4 | exact ⟨l0, l1, l2⟩ | exact LD.out wr (Below.refl _ _) | fail)
              (first | (go_at_call 89; refine (HAD.out _).mono ?_; rintro e w4 ⟨rfl, hb4⟩; have B4 := hid ((Below.refl _ wr).drew.trans hb4); have s4 := LD.out _ B4.out; clear hb4) | fail)
            all_goals
              have HBF := hid (HBK.out.trans (B4.out.mono HBK.out.size))
              clear l0 l1 l2 s4
              go_wp2_with fail
              go_roundw
              all_goals first | exact ⟨k + 1, by omega, by go_num, hid ⟨HBF.out, HN.out⟩⟩ | (simp [RowKit.intOf]; omega)
        · have HAS2 : Hid (asc ltV L = true) := hid (HAV.out.2 (fun j hj => HK.out.2 j hj (by have := HH.out.2.2.2.1; omega)))
          have HBW := hid HK.out.1
          clear HK
          go_wp2_with fail
          go_ret
          unfold sorted
          rw [HAS.out, HAS2.out]
          exact ⟨rfl, HH.out.2.2.2.2.1.trans (HBW.out.mono HH.out.2.2.2.2.1.size)⟩
end Go.Proofs.YtaeoccpjdjafnaaGreat.Im
namespace Go.Proofs.YtaeoccpjdjafnaaGreat.imageTurns
open Go.ChangeShapes Go.WideShapes Go.ChangeAt Go.RowKit
open Go.ChangeMaps (open_string shut_string)
set_option linter.unusedVariables false
theorem own : ownKnob Tryz.prog.godebug = none := by kernel_rfl
theorem laidOut : laidOutB Tryz.prog = true := by kernel_rfl
attribute [local go_sem ↓] Im.loadAt_image Im.storeAt_image Im.loadAt_change Im.storeAt_change
open Im in
set_option maxRecDepth 100000 in
set_option maxHeartbeats 25600000 in
theorem walk (i0 : Im.Ia) (Q0 : List Im.Hq) (L0 : List Im.Vt) (a1 : Option Addr) (cap1 : Nat) (l1 : List Im.Cq) (w : World) (k0 : Im.ImIs w w.heap.size i0 Q0 L0) (k1 : Im.IsCs w w.heap.size a1 l1) (n1 : l1.length ≤ cap1) (r1 : cap1 ≤ maxLen) (z1 : a1 = none → cap1 = 0) :
    Calls Tryz.prog 5 #[.agg #[.slice i0.h Q0.length i0.ch, .slice i0.v L0.length i0.cv], .slice a1 l1.length cap1] w fun e w' => e = .returned (.bool true) ∧ Below w.heap.size w w' := by
  obtain ⟨nh, hnh⟩ : ∃ n, Q0.length = n := ⟨_, rfl⟩
  obtain ⟨nv, hnv⟩ : ∃ n, L0.length = n := ⟨_, rfl⟩
  obtain ⟨m, hm⟩ : ∃ n, l1.length = n := ⟨_, rfl⟩
  rw [hnh, hnv, hm]
  obtain ⟨w1, hw1⟩ : ∃ w1, w1 = w.alloc (.cells #[.slice i0.h nh i0.ch, .slice i0.v nv i0.cv] 25) := ⟨_, rfl⟩
  have q1 : w1.heap[w.heap.size]? = some (.cells #[.slice i0.h nh i0.ch, .slice i0.v nv i0.cv] 25 (0, 0)) := by rw [hw1]; exact heap_alloc_new _ _
  have hb1 : Below w.heap.size w w1 := by rw [hw1]; exact (Below.refl _ _).alloc (Nat.le_refl _) _
  have ld1 := ldRow info_image2 Tryz.underlying25 rfl q1 rfl
  have hi1 := (k0.below hb1).more hb1.size
  have HF := hid (fewI_any i0 nh nv Q0 L0 hnh.symm hnv.symm w1 hi1.h)
  have HX := hid (And.intro q1 (And.intro hb1 (And.intro k0 (And.intro k1 hb1.size))))
  have HN := hid (And.intro hnh (And.intro hnv hm))
  have HKN := hid known_any
  rw [hw1] at ld1
  clear q1 hb1 hi1 k0 k1 n1 r1 z1 hnh hnv hm
  go_enter Tryz.func5, Tryz.ntmps5
  go_wp2_with fail
  rw [← hw1]
  clear hw1 ld1
  refine HF.out.mono ?_
  rintro e w2 ⟨rfl, hb2⟩
  have HB2 := hid (HX.out.2.1.trans (hb2.mono HX.out.2.1.size))
  have R2 := hid ((hb2.block _ (row_lt HX.out.1)).trans HX.out.1)
  have ld2 := ldRow info_image2 Tryz.underlying25 rfl R2.out rfl
  obtain ⟨b, hb⟩ : ∃ b, fewI Q0 L0 = b := ⟨_, rfl⟩
  rw [hb]
  have HFW := hid hb
  clear hb hb2 HF
  cases b with
  | false =>
    clear ld2
    go_wp2_with fail
    refine (HKN.out w2).mono ?_
    rintro e w3 ⟨rfl, hb3⟩
    have HB3 := hid (HB2.out.trans (hb3.mono HB2.out.size))
    clear hb3
    go_wp2_with fail
    go_ret
    exact ⟨rfl, HB3.out⟩
  | true =>
    obtain ⟨f1, f2, f3⟩ := few_of HFW.out
    have hnh40 : nh ≤ 40 := by rw [← HN.out.1]; exact f1
    have hnv200 : nv ≤ 200 := by rw [← HN.out.2.1]; exact f2
    have HO := hid (refOrdered_any i0 nh nv Q0 L0 HN.out.1 HN.out.2.1 (by omega) (by omega) w2 ((HX.out.2.2.1.h.below HB2.out).more HB2.out.size) ((HX.out.2.2.1.v.below HB2.out).more HB2.out.size))
    clear f1 f2 f3
    go_wp2_with fail
    refine HO.out.mono ?_
    rintro e w3 ⟨rfl, hb3⟩
    have HB3 := hid (HB2.out.trans (hb3.mono HB2.out.size))
    have R3 := hid ((hb3.block _ (row_lt R2.out)).trans R2.out)
    obtain ⟨so, hso⟩ : ∃ b, sorted ⟨Q0.map (·.h), L0⟩ = b := ⟨_, rfl⟩
    rw [hso]
    have HSO := hid hso
    clear hso hb3 HO ld2
    cases so with
    | false =>
      go_wp2_with fail
      refine (HKN.out w3).mono ?_
      rintro e w4 ⟨rfl, hb4⟩
      have HB4 := hid (HB3.out.trans (hb4.mono HB3.out.size))
      clear hb4
      go_wp2_with fail
      go_ret
      exact ⟨rfl, HB4.out⟩
    | true =>
      by_cases h20 : 20 < m
      · have h20' : (20 : Int) < (m : Int) := by omega
        clear h20
        go_wp2_with fail
        refine (HKN.out w3).mono ?_
        rintro e w4 ⟨rfl, hb4⟩
        have HB4 := hid (HB3.out.trans (hb4.mono HB3.out.size))
        clear hb4
        go_wp2_with fail
        go_ret
        exact ⟨rfl, HB4.out⟩
      · have h20' : ¬ (20 : Int) < (m : Int) := by omega
        have hm20 : m ≤ 20 := by omega
        clear h20
        have ld3 := ldRow info_image2 Tryz.underlying25 rfl R3.out rfl
        have HSM := hid (sm_start HFW.out HSO.out)
        have HCI := hid (copyIm_any i0 nh nv Q0 L0 HN.out.1 HN.out.2.1 (by omega) (by omega) (fun q hq => (smP_few (HSM.out.p q.h (List.mem_map.2 ⟨q, hq, rfl⟩)) (by omega)).1) w3 ((HX.out.2.2.1.h.below HB3.out).more HB3.out.size) ((HX.out.2.2.1.v.below HB3.out).more HB3.out.size))
        go_wp2_with fail
        refine HCI.out.mono ?_
        rintro e w4 ⟨j, rfl, ⟨M, hM, ho⟩, hb4⟩
        obtain ⟨b5, hb5⟩ : ∃ b, b = w4.heap.size := ⟨_, rfl⟩
        obtain ⟨w5, hw5⟩ : ∃ w5, w5 = w4.alloc (.cells #[.slice j.h nh j.ch, .slice j.v nv j.cv] 25) := ⟨_, rfl⟩
        have hst := stNew w4 25 2 info_image2 #[.slice none 0 0, .slice none 0 0] #[.slice j.h nh j.ch, .slice j.v nv j.cv] rfl rfl (by simp [Value.oneCell'])
        rw [← hw5] at hst
        have H5 : Hid (Below w.heap.size w w5 ∧ w5.heap[b5]? = some (.cells #[.slice j.h nh j.ch, .slice j.v nv j.cv] 25 (0, 0)) ∧ (IsHds w5 w5.heap.size j.h M ∧ IsVs w5 w5.heap.size j.v L0) ∧ (nh = M.length ∧ nv = L0.length) ∧ Sm 0 ⟨M.map (·.h), L0⟩ ∧ w.heap.size ≤ b5) := hid (by
          have hb45 : Below w4.heap.size w4 w5 := by rw [hw5]; exact (Below.refl _ w4).alloc (Nat.le_refl _) _
          have ho5 := ho.below hb45
          have hz := hb45.size
          have hz4 := hb4.size
          have hz3 := HB3.out.size
          refine ⟨HB3.out.trans ((hb4.trans (hb45.mono hz4)).mono hz3), by rw [hw5, hb5]; exact heap_alloc_new w4 _, ⟨(ho5.h.wide (Nat.le_refl _) hz).reads, (ho5.v.wide (Nat.le_refl _) hz).reads⟩, ⟨?_, HN.out.2.1.symm⟩, by rw [hM]; exact HSM.out, by omega⟩
          have hl := congrArg List.length hM
          rw [List.length_map, List.length_map] at hl
          rw [← HN.out.1]; exact hl.symm)
        have HB5 := hid hb5
        clear ho hb4 HCI hw5 ld3 hM hb5
        go_wp2_with fail
        try rw [← HB5.out]
        clear hst
        go_loopw [6] (fun iv wr => ∃ k : Nat, k ≤ m ∧ iv = .int .i64 (k : Int) ∧ Hid (∃ (i : Ia) (nh nv : Nat) (Q : List Hq) (L : List Vt), Below w.heap.size w wr ∧ wr.heap[b5]? = some (.cells #[.slice i.h nh i.ch, .slice i.v nv i.cv] 25 (0, 0)) ∧ (IsHds wr wr.heap.size i.h Q ∧ IsVs wr wr.heap.size i.v L) ∧ (nh = Q.length ∧ nv = L.length) ∧ Sm k ⟨Q.map (·.h), L⟩ ∧ ∀ q ∈ l1.take k, bigPt q.c.p = false)) (fun iv _ => m - (RowKit.intOf iv).toNat)
        case atStart => exact ⟨0, Nat.zero_le _, rfl, hid ⟨j, nh, nv, M, L0, H5.out.1, H5.out.2.1, H5.out.2.2.1, H5.out.2.2.2.1, H5.out.2.2.2.2.1, fun q hq => by cases hq⟩⟩
        case round =>
          have HLB := hid H5.out.2.2.2.2.2
          clear H5
          obtain ⟨k, hk, rfl, HI0⟩ := hrel
          obtain ⟨i, nh', nv', Q, L, hI⟩ := HI0.out
          have HI := hid hI
          clear hI HI0
          by_cases hlt : k < m
          · have hlt0 : (k : Int) < (m : Int) := by omega
            have hkl : k < l1.length := by have := HN.out.2.2; omega
            obtain ⟨g, off, hA, hg, hcs⟩ := (HX.out.2.2.2.1.below HI.out.1).row.at_ k hkl
            subst hA
            obtain ⟨q, hq⟩ : ∃ q, q = l1[k] := ⟨_, rfl⟩
            have hr := hcs k hkl
            have hpt0 := HX.out.2.2.2.1.pt _ (List.getElem_mem hkl)
            have hnum0 := HX.out.2.2.2.1.num _ (List.getElem_mem hkl)
            have HT := hid (List.take_succ_eq_append_getElem hkl)
            rw [← hq] at hr hpt0 hnum0 HT
            obtain ⟨y, ay⟩ := q
            have hC : TuC w wr wr.heap.size b5 i nh' nv' Q L (some ⟨g, off, none⟩) l1 g (off + k * 17) y ay := ⟨HI.out.1, HI.out.2.1, HI.out.2.2.1.1, HI.out.2.2.1.2, (HX.out.2.2.2.1.below HI.out.1).more HI.out.1.size, hr, (hpt0.below HI.out.1).more HI.out.1.size, ⟨row_lt HI.out.2.1, by have := HI.out.1.size; omega, Nat.le_refl _, HI.out.1.size⟩⟩
            have HC := hid hC
            have HNY := hid hnum0
            have HFY := hid (few_any y ay wr hC.pt)
            obtain ⟨l0, l5⟩ := hC.ld
            clear hcs hr hpt0 hnum0 hq hC hlt
            go_wp2_with fail
            refine HFY.out.mono ?_
            rintro e v2 ⟨rfl, hb2⟩
            have C2 := hid (HC.out.to hb2)
            obtain ⟨bg, hbg⟩ : ∃ b, bigPt y.p = b := ⟨_, rfl⟩
            rw [hbg]
            have HBG := hid hbg
            clear hbg hb2 HFY l0 l5
            cases bg with
            | true =>
              go_wp2_with fail
              refine (HKN.out v2).mono ?_
              rintro e v3 ⟨rfl, hb3⟩
              have HB9 := hid (C2.out.bel.trans (hb3.mono C2.out.bel.size))
              clear hb3
              go_wp2_with fail
              go_ret
              exact ⟨rfl, HB9.out⟩
            | false =>
              have hq40 : nh' ≤ 40 := by have h1 := HI.out.2.2.2.2.1.hn; have h2 := HI.out.2.2.2.1.1; rw [h2]; simpa using h1
              have hq220 : nv' ≤ 220 := by have h1 := HI.out.2.2.2.2.1.vn; have h2 := HI.out.2.2.2.1.2; rw [h2]; show L.length ≤ 220; have h3 : L.length ≤ 200 + k := h1; omega
              have HBA := hid (bases_any i nh' nv' Q HI.out.2.2.2.1.1 (by omega) v2 (C2.out.hs.more C2.out.lt.2.2.1))
              obtain ⟨_, l5⟩ := C2.out.ld
              go_wp2_with fail
              refine HBA.out.mono ?_
              rintro e v3 ⟨rfl, hb3⟩
              have C3 := hid (C2.out.to (hb3.mono C2.out.lt.2.2.1))
              obtain ⟨ba, hba⟩ : ∃ b, basesB Q = b := ⟨_, rfl⟩
              rw [hba]
              have HBB := hid hba
              clear hba hb3 HBA l5 C2
              cases ba with
              | false =>
                go_wp2_with fail
                refine (HKN.out v3).mono ?_
                rintro e v4 ⟨rfl, hb4⟩
                have HB9 := hid (C3.out.bel.trans (hb4.mono C3.out.bel.size))
                clear hb4
                go_wp2_with fail
                go_ret
                exact ⟨rfl, HB9.out⟩
              | true =>
                obtain ⟨rx, re, hre⟩ : ∃ rx re, apply ⟨Q.map (·.h), L⟩ y = (rx, re) := ⟨_, _, rfl⟩
                have HRE := hid hre
                have HSR : Hid (Sm (k + 1) rx) := hid (by have := sm_any HI.out.2.2.2.2.1 HBG.out; rw [hre] at this; exact this)
                have HFH : Hid (∀ h ∈ Q.map (·.h), (((FewK h.p ∧ Rl.Few h.p.log.es) ∧ h.p.sn.length ≤ 140737488355328) ∧ FewP h.p ∧ h.p.log.es.length ≤ 20000) ∧ Rl.Ok h.p.log ∧ ∀ z, chgd h y = some z → FewP z.p) := hid (fun h hh => by
                  have hp := HI.out.2.2.2.2.1.p h hh
                  have h1 := smP_few hp (by omega)
                  obtain ⟨q, hq, rfl⟩ := List.mem_map.1 hh
                  have hb := basesB_iff HBB.out q hq
                  exact ⟨h1, ⟨⟨hb.1.1, by omega⟩, trivial, by have := h1.2.2; omega⟩, fun z hz => (smP_few (chgd_sm hp HBG.out hz) (by omega)).2.1⟩)
                have HFC : Hid (((FewK y.p ∧ Rl.Few y.p.log.es) ∧ y.p.sn.length ≤ 140737488355328) ∧ FewP y.p ∧ y.p.log.es.length ≤ 20000) := hid (smP_few (smP_of HBG.out) (by omega))
                obtain ⟨nx, hnx⟩ : ∃ n, n = rx.hs.length := ⟨_, rfl⟩
                obtain ⟨mx, hmx⟩ : ∃ n, n = rx.vs.length := ⟨_, rfl⟩
                have HNX := hid (And.intro hnx hmx)
                have hnx40 : nx ≤ 40 := by rw [hnx]; exact HSR.out.hn
                have hmx221 : mx ≤ 221 := by rw [hmx]; have := HSR.out.vn; omega
                have HCI := hid (copyIm_any i nh' nv' Q L HI.out.2.2.2.1.1.symm HI.out.2.2.2.1.2.symm (by omega) (by omega) (fun q hq => (HFH.out q.h (List.mem_map.2 ⟨q, hq, rfl⟩)).1.1) v3 (C3.out.hs.more C3.out.lt.2.2.1) (C3.out.vs.more C3.out.lt.2.2.1))
                obtain ⟨l0, l5⟩ := C3.out.ld
                clear hre hnx hmx
                go_wp2_with fail
                refine HCI.out.mono ?_
                rintro e v4 ⟨j, rfl, ⟨M, hM, ho⟩, hb4⟩
                obtain ⟨b7, hb7⟩ : ∃ b, b = v4.heap.size := ⟨_, rfl⟩
                obtain ⟨v5, hv5⟩ : ∃ v5, v5 = v4.alloc (.cells #[.slice j.h nh' j.ch, .slice j.v nv' j.cv] 25) := ⟨_, rfl⟩
                have hst := stNew v4 25 2 info_image2 #[.slice none 0 0, .slice none 0 0] #[.slice j.h nh' j.ch, .slice j.v nv' j.cv] rfl rfl (by simp [Value.oneCell'])
                have I5 : Hid (TuC w v5 wr.heap.size b5 i nh' nv' Q L (some ⟨g, off, none⟩) l1 g (off + k * 17) y ay ∧ v5.heap[b7]? = some (.cells #[.slice j.h nh' j.ch, .slice j.v nv' j.cv] 25 (0, 0)) ∧ InIm v5 v3.heap.size b7 j M L ∧ (v3.heap.size ≤ b7 ∧ b7 < v5.heap.size ∧ v5.heap.size = b7 + 1)) := hid (by
                  have hb45 : Below v4.heap.size v4 v5 := by rw [hv5]; exact (Below.refl _ v4).alloc (Nat.le_refl _) _
                  have hz := hb4.size
                  have hz5 : v5.heap.size = v4.heap.size + 1 := by rw [hv5]; simp
                  have hlt := C3.out.lt
                  refine ⟨C3.out.to ((hb4.trans (hb45.mono hz)).mono hlt.2.2.1), by rw [hv5, hb7]; exact heap_alloc_new v4 _, by rw [hb7]; exact ho.below hb45, by omega⟩)
                have HM := hid hM
                have HCC := hid (copyC_any y ay HFC.out.1.1 HFC.out.1.2 v5 (I5.out.1.pt.more I5.out.1.lt.2.2.1))
                obtain ⟨m0, m5⟩ := I5.out.1.ld
                rw [hv5] at m0
                clear ho hb4 HCI l0 l5 hM
                go_wp2_with fail
                rw [← hv5, ← hb7]
                clear hv5 hst hb7 m0 m5
                refine HCC.out.mono ?_
                rintro e v6 ⟨a', rfl, ho6, hb6⟩
                obtain ⟨b8, hb8⟩ : ∃ b, b = v6.heap.size := ⟨_, rfl⟩
                obtain ⟨v7, hv7⟩ : ∃ v7, v7 = v6.alloc (.cells #[.int .i64 y.k, .int .i64 y.g, .int .i64 y.t, .int .i64 y.v, .int .i64 y.f, .int .i64 y.p.log.base, .int .i64 y.p.log.term, .slice a'.e y.p.log.es.length a'.ce, .slice a'.o y.p.cf.old.length a'.co, .slice a'.n y.p.cf.new.length a'.cn, .slice a'.l y.p.cf.lrn.length a'.cl, .slice a'.s y.p.sn.length a'.cs, .int .i64 y.a.x, .int .i64 y.a.p, .int .i64 y.a.r, .int .i64 y.a.b, .int .i64 y.a.v] 62) := ⟨_, rfl⟩
                have hst := stNew v6 62 17 info_change #[.int .i64 0, .int .i64 0, .int .i64 0, .int .i64 0, .int .i64 0, .int .i64 0, .int .i64 0, .slice none 0 0, .slice none 0 0, .slice none 0 0, .slice none 0 0, .slice none 0 0, .int .i64 0, .int .i64 0, .int .i64 0, .int .i64 0, .int .i64 0] #[.int .i64 y.k, .int .i64 y.g, .int .i64 y.t, .int .i64 y.v, .int .i64 y.f, .int .i64 y.p.log.base, .int .i64 y.p.log.term, .slice a'.e y.p.log.es.length a'.ce, .slice a'.o y.p.cf.old.length a'.co, .slice a'.n y.p.cf.new.length a'.cn, .slice a'.l y.p.cf.lrn.length a'.cl, .slice a'.s y.p.sn.length a'.cs, .int .i64 y.a.x, .int .i64 y.a.p, .int .i64 y.a.r, .int .i64 y.a.b, .int .i64 y.a.v] rfl rfl (by simp [Value.oneCell'])
                obtain ⟨s7, hs7⟩ : ∃ s, s = v7.heap.size := ⟨_, rfl⟩
                have I7 : Hid (TuC w v7 wr.heap.size b5 i nh' nv' Q L (some ⟨g, off, none⟩) l1 g (off + k * 17) y ay ∧ TuM v7 b7 b8 s7 v3.heap.size v5.heap.size j nh' nv' M L y a' ∧ wr.heap.size ≤ s7 ∧ s7 = v7.heap.size) := hid (by
                  have hb67 : Below v6.heap.size v6 v7 := by rw [hv7]; exact (Below.refl _ v6).alloc (Nat.le_refl _) _
                  have hz := hb6.size
                  have hz7 : v7.heap.size = v6.heap.size + 1 := by rw [hv7]; simp
                  obtain ⟨q1, q2, q3, q4⟩ := I5.out
                  have hb57 := hb6.trans (hb67.mono hz)
                  have hlt := q1.lt
                  refine ⟨q1.to (hb57.mono (by omega)), ⟨(hb57.block _ (row_lt q2)).trans q2, q3.below (hb57.mono (by omega)), by rw [hv7, hb8]; exact heap_alloc_new v6 _, by rw [hb8]; exact ho6.ptIn.below hb67, by omega⟩, by omega, hs7⟩)
                have HAP : Hid (Calls Tryz.prog 37 #[.agg #[.slice j.h nh' j.ch, .slice j.v nv' j.cv], .agg #[.int .i64 y.k, .int .i64 y.g, .int .i64 y.t, .int .i64 y.v, .int .i64 y.f, .int .i64 y.p.log.base, .int .i64 y.p.log.term, .slice a'.e y.p.log.es.length a'.ce, .slice a'.o y.p.cf.old.length a'.co, .slice a'.n y.p.cf.new.length a'.cn, .slice a'.l y.p.cf.lrn.length a'.cl, .slice a'.s y.p.sn.length a'.cs, .int .i64 y.a.x, .int .i64 y.a.p, .int .i64 y.a.r, .int .i64 y.a.b, .int .i64 y.a.v]] v7 fun e w' => ∃ iy : Ia, e = .returned (.tuple #[.agg #[.slice iy.h nx iy.ch, .slice iy.v mx iy.cv], .int .i64 re]) ∧ (∃ Qy, Qy.map (·.h) = rx.hs ∧ OwnIm w' s7 w'.heap.size iy Qy rx.vs) ∧ Below s7 v7 w') := hid (by
                  obtain ⟨qc, qm, ql, qs⟩ := I7.out
                  have hlt := qm.lt
                  have hmh : ∀ q ∈ M, q.h ∈ Q.map (·.h) := fun q hq => by rw [← HM.out]; exact List.mem_map.2 ⟨q, hq, rfl⟩
                  have hml : nh' = M.length := by have := congrArg List.length HM.out; rw [List.length_map, List.length_map] at this; have := HI.out.2.2.2.1.1; omega
                  have hr := qm.h7.h.row
                  have hv := qm.h7.v.1
                  have := apply_any j nh' nv' M L y a' hml HI.out.2.2.2.1.2 (by omega) (by omega) (by rw [HM.out]; exact HI.out.2.2.2.2.1.so.1) HI.out.2.2.2.2.1.so.2 (fun q hq => ⟨(HFH.out q.h (hmh q hq)).1.2.1, (HFH.out q.h (hmh q hq)).2.1, (HFH.out q.h (hmh q hq)).1.1.1.2⟩) (fun q hq z hz => (HFH.out q.h (hmh q hq)).2.2 z hz) HFC.out.2.2 v7 (qm.h7.h.reads.more (by omega)) (qm.h7.v.reads.more (by omega)) (qm.p8.reads.more (by omega)) hr.none_ hv.none_ ⟨by rw [hml]; exact hr.cap, hr.capLe⟩ ⟨by rw [HI.out.2.2.2.1.2]; exact hv.cap, hv.capLe⟩ HNY.out
                  refine this.mono ?_
                  rintro e w' ⟨iy, ny, my, er, he, her, ⟨Qy, Ly, ⟨e1, e2⟩, hoy, hvy⟩, hbb⟩
                  rw [HM.out, HRE.out] at her hvy
                  have hv1 : Qy.map (·.h) = rx.hs := congrArg Im.hs hvy
                  have hv2 : Ly = rx.vs := congrArg Im.vs hvy
                  subst hv2
                  rw [← qs] at hoy hbb
                  refine ⟨iy, ?_, ⟨Qy, hv1, hoy⟩, hbb⟩
                  rw [he, her, e1, e2, HNX.out.1, HNX.out.2, ← hv1, List.length_map])
                obtain ⟨m7, m8⟩ := I7.out.2.1.ld
                rw [hv7] at m7 m8
                clear ho6 hb6 HCC I5 hs7
                rw [hb8] at m8
                go_wp2_with fail
                rw [← hv7, ← hb8]
                clear hv7 hst hb8 m7 m8
                refine HAP.out.mono ?_
                rintro e v8 ⟨iy, rfl, ⟨Qy, hQy, hoy⟩, hb8⟩
                obtain ⟨b9, hb9⟩ : ∃ b, b = v8.heap.size := ⟨_, rfl⟩
                obtain ⟨v9, hv9⟩ : ∃ v9, v9 = v8.alloc (.cells #[.slice iy.h nx iy.ch, .slice iy.v mx iy.cv] 25) := ⟨_, rfl⟩
                have hst := stNew v8 25 2 info_image2 #[.slice none 0 0, .slice none 0 0] #[.slice iy.h nx iy.ch, .slice iy.v mx iy.cv] rfl rfl (by simp [Value.oneCell'])
                rw [← hv9] at hst
                have HQY := hid hQy
                have I9 : Hid (TuC w v9 wr.heap.size b5 i nh' nv' Q L (some ⟨g, off, none⟩) l1 g (off + k * 17) y ay ∧ TuM v9 b7 b8 s7 v3.heap.size v5.heap.size j nh' nv' M L y a' ∧ wr.heap.size ≤ s7 ∧ (v9.heap[b9]? = some (.cells #[.slice iy.h nx iy.ch, .slice iy.v mx iy.cv] 25 (0, 0)) ∧ OwnIm v9 s7 b9 iy Qy rx.vs ∧ s7 ≤ b9 ∧ v9.heap.size = b9 + 1)) := hid (by
                  obtain ⟨qc, qm, ql, qs⟩ := I7.out
                  have hb89 : Below v8.heap.size v8 v9 := by rw [hv9]; exact (Below.refl _ v8).alloc (Nat.le_refl _) _
                  have hz := hb8.size
                  have hz9 : v9.heap.size = v8.heap.size + 1 := by rw [hv9]; simp
                  have hb79 : Below s7 v7 v9 := hb8.trans (hb89.mono (by omega))
                  exact ⟨qc.to (hb79.mono ql), qm.to ⟨hb79.os, hb79.tape, hb79.output, hb79.size, fun kk _ hn => hb79.block kk (by omega)⟩, ql, by rw [hv9, hb9]; exact heap_alloc_new v8 _, by rw [hb9]; exact hoy.below hb89, by omega, by omega⟩)
                obtain ⟨s9, hs9⟩ : ∃ s, s = v9.heap.size := ⟨_, rfl⟩
                have HS9 := hid hs9
                have LD : Hid (∀ W, Below s9 v9 W → (ldX 62 (.pointer (some ⟨g, off + k * 17, none⟩))).run Tryz.prog W = .ok (.agg #[.int .i64 y.k, .int .i64 y.g, .int .i64 y.t, .int .i64 y.v, .int .i64 y.f, .int .i64 y.p.log.base, .int .i64 y.p.log.term, .slice ay.e y.p.log.es.length ay.ce, .slice ay.o y.p.cf.old.length ay.co, .slice ay.n y.p.cf.new.length ay.cn, .slice ay.l y.p.cf.lrn.length ay.cl, .slice ay.s y.p.sn.length ay.cs, .int .i64 y.a.x, .int .i64 y.a.p, .int .i64 y.a.r, .int .i64 y.a.b, .int .i64 y.a.v]) W ∧ (ldX 25 (.pointer (some ⟨b5, 0, none⟩))).run Tryz.prog W = .ok (.agg #[.slice i.h nh' i.ch, .slice i.v nv' i.cv]) W) := hid (fun W hb => (I9.out.1.to (hb.mono (by have := I9.out.1.lt.2.2.1; have := HS9.out; omega))).ld)
                have HZ : Hid (∀ W, Below s9 v9 W → Calls Tryz.prog 38 #[.agg #[.slice i.h nh' i.ch, .slice i.v nv' i.cv], .agg #[.int .i64 y.k, .int .i64 y.g, .int .i64 y.t, .int .i64 y.v, .int .i64 y.f, .int .i64 y.p.log.base, .int .i64 y.p.log.term, .slice ay.e y.p.log.es.length ay.ce, .slice ay.o y.p.cf.old.length ay.co, .slice ay.n y.p.cf.new.length ay.cn, .slice ay.l y.p.cf.lrn.length ay.cl, .slice ay.s y.p.sn.length ay.cs, .int .i64 y.a.x, .int .i64 y.a.p, .int .i64 y.a.r, .int .i64 y.a.b, .int .i64 y.a.v]] W fun e w' => ∃ iz : Ia, e = .returned (.tuple #[.agg #[.slice iz.h nx iz.ch, .slice iz.v mx iz.cv], .int .i64 re]) ∧ (∃ Qz, Qz.map (·.h) = rx.hs ∧ InIm w' W.heap.size w'.heap.size iz Qz rx.vs) ∧ Below W.heap.size W w') := hid (fun W hb => by
                  have qc := I9.out.1.to (hb.mono (by have := I9.out.1.lt.2.2.1; have := HS9.out; omega))
                  have hle := qc.lt.2.2.1
                  have := rApply_any i nh' nv' Q L y ay HI.out.2.2.2.1.1 HI.out.2.2.2.1.2 (by omega) (by omega) HI.out.2.2.2.2.1.so.1 HI.out.2.2.2.2.1.so.2 (fun q hq => (HFH.out q.h (List.mem_map.2 ⟨q, hq, rfl⟩)).1.1) (fun q hq => ⟨(HFH.out q.h (List.mem_map.2 ⟨q, hq, rfl⟩)).2.1, by have := (HFH.out q.h (List.mem_map.2 ⟨q, hq, rfl⟩)).1.2.2; omega⟩) ⟨HFC.out.1, by have := HFC.out.2.2; omega⟩ W (qc.hs.more hle) (qc.vs.more hle) (qc.pt.more hle) HNY.out
                  refine this.mono ?_
                  rintro e w' ⟨iz, nz, mz, er, he, her, ⟨Qz, Lz, ⟨e1, e2⟩, hoz, hvz⟩, hbb⟩
                  rw [HRE.out] at her hvz
                  have hv1 : Qz.map (·.h) = rx.hs := congrArg Im.hs hvz
                  have hv2 : Lz = rx.vs := congrArg Im.vs hvz
                  subst hv2
                  refine ⟨iz, ?_, ⟨Qz, hv1, hoz⟩, hbb⟩
                  rw [he, her, e1, e2, HNX.out.1, HNX.out.2, ← hv1, List.length_map])
                have hbr : Below s9 v9 v9 := Below.refl _ _
                have hbd : Below s9 v9 v9.drew := (Below.refl _ _).drew
                have hba0 : Below s9 v9 (v9.alloc (.cells #[.slice none 0 0, .slice none 0 0] 25)) := (Below.refl _ _).alloc (by omega) _
                have HBAD := hid (And.intro hba0 hba0.drew)
                obtain ⟨l0, l1'⟩ := LD.out v9 hbr
                obtain ⟨m0, m1⟩ := LD.out v9.drew hbd
                have HBD := hid hbd
                clear hoy hb8 HAP I7 hv9 hQy hbr hbd hba0 hs9
                go_wp2_with fail
                try rw [← hb9]
                clear hst hb9
                go_region_held3 (fun W => (ldX 62 (.pointer (some ⟨g, off + k * 17, none⟩))).run Tryz.prog W = .ok (.agg #[.int .i64 y.k, .int .i64 y.g, .int .i64 y.t, .int .i64 y.v, .int .i64 y.f, .int .i64 y.p.log.base, .int .i64 y.p.log.term, .slice ay.e y.p.log.es.length ay.ce, .slice ay.o y.p.cf.old.length ay.co, .slice ay.n y.p.cf.new.length ay.cn, .slice ay.l y.p.cf.lrn.length ay.cl, .slice ay.s y.p.sn.length ay.cs, .int .i64 y.a.x, .int .i64 y.a.p, .int .i64 y.a.r, .int .i64 y.a.b, .int .i64 y.a.v]) W ∧ (ldX 25 (.pointer (some ⟨b5, 0, none⟩))).run Tryz.prog W = .ok (.agg #[.slice i.h nh' i.ch, .slice i.v nv' i.cv]) W)
                  (first | with_reducible exact ⟨l0, l1'⟩ | with_reducible exact ⟨m0, m1⟩ | with_reducible exact e3 | with_reducible exact e4 | with_reducible exact LD.out _ (HB3.out.alloc (by have := HB3.out.size; have := HS9.out; omega) _) | with_reducible exact LD.out _ HBAD.out.1 | with_reducible exact LD.out _ HBAD.out.2 | fail)
                  (first
                    | (go_at_call 38; refine (HZ.out _ HBD.out).mono ?_; rintro e w3 ⟨iz, rfl, ⟨Qz, hQz, hoz⟩, hb3⟩; have HB3 : Hid (Below s9 v9 w3) := hid (HBD.out.trans (hb3.mono (by have := HS9.out; show s9 ≤ v9.heap.size; omega))); have HQZ := hid (And.intro hQz (And.intro hoz hb3.size)); have e3 := LD.out w3 HB3.out; have hsn := stNew w3 25 2 info_image2 #[.slice none 0 0, .slice none 0 0] #[.slice iz.h nx iz.ch, .slice iz.v mx iz.cv] rfl rfl (by simp [Value.oneCell']); clear hQz hoz hb3)
                    | (go_at_call 38; refine (HZ.out _ HBAD.out.2).mono ?_; rintro e w3 ⟨iz, rfl, ⟨Qz, hQz, hoz⟩, hb3⟩; have HB3 : Hid (Below s9 v9 w3) := hid (HBAD.out.2.trans (hb3.mono (by have := HS9.out; simp; omega))); have HQZ := hid (And.intro hQz (And.intro hoz hb3.size)); have e3 := LD.out w3 HB3.out; have hr8 : w3.heap[v9.heap.size]? = some (.cells #[.slice none 0 0, .slice none 0 0] 25 (0, 0)) := (hb3.block _ (by simp)).trans (heap_alloc_new v9 _); have hst8 := stRow info_image2 (cs' := #[.slice iz.h nx iz.ch, .slice iz.v mx iz.cv]) hr8 rfl rfl (by simp [Value.oneCell']); have e4 := LD.out (w3.setRow v9.heap.size #[.slice iz.h nx iz.ch, .slice iz.v mx iz.cv]) (HB3.out.trans ((row_turned w3 v9.heap.size #[.slice iz.h nx iz.ch, .slice iz.v mx iz.cv]).below (by have := HS9.out; have := HB3.out.size; omega) (fun k hk => by have := HS9.out; omega))); have HR8 := hid (setRow_heap w3 v9.heap.size _ #[.slice iz.h nx iz.ch, .slice iz.v mx iz.cv] _ _ hr8); clear hr8 hQz hoz hb3)
                    | fail)
                all_goals
                  clear l0 l1' m0 m1 e3
                  first
                    | (have I11 : Hid (TuZ (w3.alloc (.cells #[.slice iz.h nx iz.ch, .slice iz.v mx iz.cv] 25)) w3.heap.size s9 iz nx mx Qz rx.vs ∧ Below s9 v9 (w3.alloc (.cells #[.slice iz.h nx iz.ch, .slice iz.v mx iz.cv] 25)) ∧ Qz.map (·.h) = rx.hs) := hid (by
                         have hb4 : Below w3.heap.size w3 (w3.alloc (.cells #[.slice iz.h nx iz.ch, .slice iz.v mx iz.cv] 25)) := (Below.refl _ w3).alloc (Nat.le_refl _) _
                         have h9 := HS9.out
                         have hs3 := HB3.out.size
                         exact ⟨⟨heap_alloc_new w3 _, (HQZ.out.2.1.below hb4).wide (by show s9 ≤ v9.heap.size; omega) hb4.size, by omega⟩, HB3.out.trans (hb4.mono (by omega)), HQZ.out.1⟩)
                       generalize w3.alloc (.cells #[.slice iz.h nx iz.ch, .slice iz.v mx iz.cv] 25) = v11 at *
                       generalize w3.heap.size = b11 at *
                       have HB11 : Hid True := hid trivial)
                    | (have I11 : Hid (TuZ (w3.setRow v9.heap.size #[.slice iz.h nx iz.ch, .slice iz.v mx iz.cv]) v9.heap.size s9 iz nx mx Qz rx.vs ∧ Below s9 v9 (w3.setRow v9.heap.size #[.slice iz.h nx iz.ch, .slice iz.v mx iz.cv]) ∧ Qz.map (·.h) = rx.hs) := hid (by
                         have ht4 := row_turned w3 v9.heap.size #[.slice iz.h nx iz.ch, .slice iz.v mx iz.cv]
                         have h9 := HS9.out
                         exact ⟨⟨HR8.out, (HQZ.out.2.1.keep ht4 (fun k hk hB => by have h1 := hB.1; simp at h1; omega)).wide (by simp; omega) ht4.size, by omega⟩, HB3.out.trans (ht4.below (by have := HB3.out.size; omega) (fun k hk => by omega)), HQZ.out.1⟩)
                       generalize w3.setRow v9.heap.size #[.slice iz.h nx iz.ch, .slice iz.v mx iz.cv] = v11 at *
                       generalize h11 : v9.heap.size = b11 at *
                       have HB11 := hid h11
                       clear h11)
                  have HQYZ : Hid (Qy.length = nx ∧ rx.vs.length = mx ∧ Qy.map (·.h) = Qz.map (·.h) ∧ Qz.length = nx) := hid ⟨by rw [HNX.out.1, ← HQY.out, List.length_map], HNX.out.2.symm, HQY.out.trans I11.out.2.2.symm, by rw [HNX.out.1, ← I11.out.2.2, List.length_map]⟩
                  have hs11 : s9 ≤ v11.heap.size := by have := I11.out.2.1.size; have := I9.out.2.2.2.2.2.2; have := HS9.out; have := HB11.out; omega
                  have hs79 : s7 ≤ s9 := by have := I9.out.2.2.2.2.2; have := HS9.out; have := HB11.out; omega
                  have hwr7 := I9.out.2.2.1
                  have FA : Hid (∀ W, Below v11.heap.size v11 W → TuC w W wr.heap.size b5 i nh' nv' Q L (some ⟨g, off, none⟩) l1 g (off + k * 17) y ay ∧ TuM W b7 b8 s7 v3.heap.size v5.heap.size j nh' nv' M L y a' ∧ (W.heap[b9]? = some (.cells #[.slice iy.h nx iy.ch, .slice iy.v mx iy.cv] 25 (0, 0)) ∧ OwnIm W s7 b9 iy Qy rx.vs ∧ b9 < s9) ∧ TuZ W b11 s9 iz nx mx Qz rx.vs ∧ s9 ≤ W.heap.size) := hid (fun W hb => by
                    obtain ⟨qc, qm, ql, q9, qo, q7, q10⟩ := I9.out
                    have hs := HS9.out
                    have hs' := HB11.out
                    have hb9 : Below s9 v9 W := I11.out.2.1.trans (hb.mono hs11)
                    exact ⟨qc.to (hb9.mono (by omega)), qm.to ⟨hb9.os, hb9.tape, hb9.output, hb9.size, fun kk _ hn => hb9.block kk (by omega)⟩, ⟨(hb9.block _ (by omega)).trans q9, qo.below (hb9.mono (by omega)), by omega⟩, I11.out.1.to (S := fun _ => False) (fun kk hk => hk.elim) (Turned.ofBelow _ hb), Nat.le_trans hs11 hb.size⟩)
                  have HS1 : Hid (∀ W, Below v11.heap.size v11 W → Calls Tryz.prog 19 #[.agg #[.slice iy.h nx iy.ch, .slice iy.v mx iy.cv], .agg #[.slice iz.h nx iz.ch, .slice iz.v mx iz.cv]] W fun e w' => e = .returned (.bool true) ∧ Below W.heap.size W w') := hid (fun W hb => by
                    obtain ⟨_, _, ⟨_, qo, q9⟩, qz, hs⟩ := FA.out W hb
                    obtain ⟨x1, x2⟩ := qo.vs
                    exact sameIm_any iy iz nx mx Qy Qz rx.vs HQYZ.out.1 HQYZ.out.2.1 HQYZ.out.2.2.1 (by omega) (by omega) (fun q hq => (smP_few (HSR.out.p q.h (by rw [← HQY.out]; exact List.mem_map.2 ⟨q, hq, rfl⟩)) (by omega)).1.1.1) W (x1.more (by omega)) qz.z.h.reads (x2.more (by omega)) qz.z.v.reads)
                  have HS2 : Hid (∀ W, TuC w W wr.heap.size b5 i nh' nv' Q L (some ⟨g, off, none⟩) l1 g (off + k * 17) y ay → TuM W b7 b8 s7 v3.heap.size v5.heap.size j nh' nv' M L y a' → s7 ≤ W.heap.size → Calls Tryz.prog 19 #[.agg #[.slice j.h nh' j.ch, .slice j.v nv' j.cv], .agg #[.slice i.h nh' i.ch, .slice i.v nv' i.cv]] W fun e w' => e = .returned (.bool true) ∧ Below W.heap.size W w') := hid (fun W qc qm hs => by
                    have hml : M.length = nh' := by have := congrArg List.length HM.out; rw [List.length_map, List.length_map] at this; have := HI.out.2.2.2.1.1; omega
                    have hlt := qm.lt
                    exact sameIm_any j i nh' nv' M Q L hml HI.out.2.2.2.1.2.symm HM.out (by omega) (by omega) (fun q hq => (HFH.out q.h (by rw [← HM.out]; exact List.mem_map.2 ⟨q, hq, rfl⟩)).1.1.1.1) W (qm.h7.h.reads.more (by omega)) (qc.hs.more qc.lt.2.2.1) (qm.h7.v.reads.more (by omega)) (qc.vs.more qc.lt.2.2.1))
                  have HS3 : Hid (∀ W, TuC w W wr.heap.size b5 i nh' nv' Q L (some ⟨g, off, none⟩) l1 g (off + k * 17) y ay → TuM W b7 b8 s7 v3.heap.size v5.heap.size j nh' nv' M L y a' → s7 ≤ W.heap.size → Calls Tryz.prog 39 #[.agg #[.int .i64 y.k, .int .i64 y.g, .int .i64 y.t, .int .i64 y.v, .int .i64 y.f, .int .i64 y.p.log.base, .int .i64 y.p.log.term, .slice a'.e y.p.log.es.length a'.ce, .slice a'.o y.p.cf.old.length a'.co, .slice a'.n y.p.cf.new.length a'.cn, .slice a'.l y.p.cf.lrn.length a'.cl, .slice a'.s y.p.sn.length a'.cs, .int .i64 y.a.x, .int .i64 y.a.p, .int .i64 y.a.r, .int .i64 y.a.b, .int .i64 y.a.v], .agg #[.int .i64 y.k, .int .i64 y.g, .int .i64 y.t, .int .i64 y.v, .int .i64 y.f, .int .i64 y.p.log.base, .int .i64 y.p.log.term, .slice ay.e y.p.log.es.length ay.ce, .slice ay.o y.p.cf.old.length ay.co, .slice ay.n y.p.cf.new.length ay.cn, .slice ay.l y.p.cf.lrn.length ay.cl, .slice ay.s y.p.sn.length ay.cs, .int .i64 y.a.x, .int .i64 y.a.p, .int .i64 y.a.r, .int .i64 y.a.b, .int .i64 y.a.v]] W fun e w' => e = .returned (.bool true) ∧ Below W.heap.size W w') := hid (fun W qc qm hs => by
                    have hlt := qm.lt
                    exact sameC_any y a' ay HFC.out.1.1.1 W (qm.p8.reads.more (by omega)) (qc.pt.more qc.lt.2.2.1))
                  have F15 : Hid (∀ W, Below v11.heap.size v11 W → (((ldX 25 (.pointer (some ⟨b9, 0, none⟩))).run Tryz.prog W = .ok (.agg #[.slice iy.h nx iy.ch, .slice iy.v mx iy.cv]) W ∧ (ldX 25 (.pointer (some ⟨b11, 0, none⟩))).run Tryz.prog W = .ok (.agg #[.slice iz.h nx iz.ch, .slice iz.v mx iz.cv]) W) ∧ ((ldX 25 (.pointer (some ⟨b7, 0, none⟩))).run Tryz.prog W = .ok (.agg #[.slice j.h nh' j.ch, .slice j.v nv' j.cv]) W ∧ (ldX 62 (.pointer (some ⟨b8, 0, none⟩))).run Tryz.prog W = .ok (.agg #[.int .i64 y.k, .int .i64 y.g, .int .i64 y.t, .int .i64 y.v, .int .i64 y.f, .int .i64 y.p.log.base, .int .i64 y.p.log.term, .slice a'.e y.p.log.es.length a'.ce, .slice a'.o y.p.cf.old.length a'.co, .slice a'.n y.p.cf.new.length a'.cn, .slice a'.l y.p.cf.lrn.length a'.cl, .slice a'.s y.p.sn.length a'.cs, .int .i64 y.a.x, .int .i64 y.a.p, .int .i64 y.a.r, .int .i64 y.a.b, .int .i64 y.a.v]) W) ∧ (ldX 62 (.pointer (some ⟨g, off + k * 17, none⟩))).run Tryz.prog W = .ok (.agg #[.int .i64 y.k, .int .i64 y.g, .int .i64 y.t, .int .i64 y.v, .int .i64 y.f, .int .i64 y.p.log.base, .int .i64 y.p.log.term, .slice ay.e y.p.log.es.length ay.ce, .slice ay.o y.p.cf.old.length ay.co, .slice ay.n y.p.cf.new.length ay.cn, .slice ay.l y.p.cf.lrn.length ay.cl, .slice ay.s y.p.sn.length ay.cs, .int .i64 y.a.x, .int .i64 y.a.p, .int .i64 y.a.r, .int .i64 y.a.b, .int .i64 y.a.v]) W ∧ (ldX 25 (.pointer (some ⟨b5, 0, none⟩))).run Tryz.prog W = .ok (.agg #[.slice i.h nh' i.ch, .slice i.v nv' i.cv]) W)) := hid (fun W hb => by
                    obtain ⟨qc, qm, ⟨q9, _, _⟩, qz, _⟩ := FA.out W hb
                    exact ⟨⟨ldRow info_image2 Tryz.underlying25 rfl q9 rfl, ldRow info_image2 Tryz.underlying25 rfl qz.r11 rfl⟩, qm.ld, qc.ld⟩)
                  have s11 := F15.out v11 (Below.refl _ _)
                  have HD11 := hid ((Below.refl v11.heap.size v11).drew)
                  have s11d := F15.out v11.drew HD11.out
                  clear HZ LD HBAD HBD I9
                  go_wp2_with fail
                  go_region_held3 (fun W => (((ldX 25 (.pointer (some ⟨b9, 0, none⟩))).run Tryz.prog W = .ok (.agg #[.slice iy.h nx iy.ch, .slice iy.v mx iy.cv]) W ∧ (ldX 25 (.pointer (some ⟨b11, 0, none⟩))).run Tryz.prog W = .ok (.agg #[.slice iz.h nx iz.ch, .slice iz.v mx iz.cv]) W) ∧ ((ldX 25 (.pointer (some ⟨b7, 0, none⟩))).run Tryz.prog W = .ok (.agg #[.slice j.h nh' j.ch, .slice j.v nv' j.cv]) W ∧ (ldX 62 (.pointer (some ⟨b8, 0, none⟩))).run Tryz.prog W = .ok (.agg #[.int .i64 y.k, .int .i64 y.g, .int .i64 y.t, .int .i64 y.v, .int .i64 y.f, .int .i64 y.p.log.base, .int .i64 y.p.log.term, .slice a'.e y.p.log.es.length a'.ce, .slice a'.o y.p.cf.old.length a'.co, .slice a'.n y.p.cf.new.length a'.cn, .slice a'.l y.p.cf.lrn.length a'.cl, .slice a'.s y.p.sn.length a'.cs, .int .i64 y.a.x, .int .i64 y.a.p, .int .i64 y.a.r, .int .i64 y.a.b, .int .i64 y.a.v]) W) ∧ (ldX 62 (.pointer (some ⟨g, off + k * 17, none⟩))).run Tryz.prog W = .ok (.agg #[.int .i64 y.k, .int .i64 y.g, .int .i64 y.t, .int .i64 y.v, .int .i64 y.f, .int .i64 y.p.log.base, .int .i64 y.p.log.term, .slice ay.e y.p.log.es.length ay.ce, .slice ay.o y.p.cf.old.length ay.co, .slice ay.n y.p.cf.new.length ay.cn, .slice ay.l y.p.cf.lrn.length ay.cl, .slice ay.s y.p.sn.length ay.cs, .int .i64 y.a.x, .int .i64 y.a.p, .int .i64 y.a.r, .int .i64 y.a.b, .int .i64 y.a.v]) W ∧ (ldX 25 (.pointer (some ⟨b5, 0, none⟩))).run Tryz.prog W = .ok (.agg #[.slice i.h nh' i.ch, .slice i.v nv' i.cv]) W))
                    (first | with_reducible exact s14 | with_reducible exact s13 | with_reducible exact s12 | with_reducible exact s11d | with_reducible exact s11 | fail)
                    (first
                      | (go_at_call 39; refine (HS3.out _ (FA.out _ HB13.out).1 (FA.out _ HB13.out).2.1 (Nat.le_trans hs79 (FA.out _ HB13.out).2.2.2.2)).mono ?_; rintro e w14 ⟨rfl, hb14⟩; have HB14 := hid (HB13.out.trans (hb14.mono HB13.out.size)); have s14 := F15.out w14 HB14.out; clear hb14)
                      | (go_at_call 19; refine (HS2.out _ (FA.out _ HB12.out).1 (FA.out _ HB12.out).2.1 (Nat.le_trans hs79 (FA.out _ HB12.out).2.2.2.2)).mono ?_; rintro e w13 ⟨rfl, hb13⟩; have HB13 := hid (HB12.out.trans (hb13.mono HB12.out.size)); have s13 := F15.out w13 HB13.out; clear hb13)
                      | (go_at_call 19; refine (HS1.out _ HD11.out).mono ?_; rintro e w12 ⟨rfl, hb12⟩; have HB12 := hid (HD11.out.trans (hb12.mono HD11.out.size)); have s12 := F15.out w12 HB12.out; clear hb12)
                      | fail)
                  have H14 := hid (FA.out w14 HB14.out)
                  have ld14 := (F15.out w14 HB14.out).1.1
                  have HSP := hid (spoilIm_any s7 b9 iy nx mx Qy rx.vs HQYZ.out.1.symm HQYZ.out.2.1.symm (by omega) (by omega) (fun q hq => by have := (smP_few (HSR.out.p q.h (by rw [← HQY.out]; exact List.mem_map.2 ⟨q, hq, rfl⟩)) (by omega)).2.2; omega) w14 H14.out.2.2.1.2.1 (by have := H14.out.2.2.1.2.2; have := H14.out.2.2.2.2; omega))
                  clear s11 s11d s12 s13 s14 HD11 HB12 HB13 HB14 FA F15 HS1
                  go_wp2_with fail
                  refine HSP.out.mono ?_
                  rintro e w15 ⟨rfl, ht15⟩
                  have FB : Hid (∀ W, Below w15.heap.size w15 W → TuC w W wr.heap.size b5 i nh' nv' Q L (some ⟨g, off, none⟩) l1 g (off + k * 17) y ay ∧ TuM W b7 b8 s7 v3.heap.size v5.heap.size j nh' nv' M L y a' ∧ TuZ W b11 s9 iz nx mx Qz rx.vs ∧ s7 ≤ W.heap.size) := hid (fun W hb => by
                    obtain ⟨qc, qm, ⟨_, _, q9⟩, qz, hs⟩ := H14.out
                    have hlt := qc.lt
                    have hz := ht15.size
                    have hz2 := hb.size
                    exact ⟨(qc.to (ht15.below (by omega) (fun kk hk => by have := hk.1; omega))).to (hb.mono (by omega)), (qm.to (ht15.mono (fun kk hk => hk.1))).to (Turned.ofBelow _ hb), (qz.to (S := Bl s7 b9) (fun kk hk => .inl (by have := hk.2; omega)) ht15).to (S := fun _ => False) (fun kk hk => hk.elim) (Turned.ofBelow _ hb), by omega⟩)
                  have F18 : Hid (∀ W, Below w15.heap.size w15 W → (((ldX 25 (.pointer (some ⟨b7, 0, none⟩))).run Tryz.prog W = .ok (.agg #[.slice j.h nh' j.ch, .slice j.v nv' j.cv]) W ∧ (ldX 62 (.pointer (some ⟨b8, 0, none⟩))).run Tryz.prog W = .ok (.agg #[.int .i64 y.k, .int .i64 y.g, .int .i64 y.t, .int .i64 y.v, .int .i64 y.f, .int .i64 y.p.log.base, .int .i64 y.p.log.term, .slice a'.e y.p.log.es.length a'.ce, .slice a'.o y.p.cf.old.length a'.co, .slice a'.n y.p.cf.new.length a'.cn, .slice a'.l y.p.cf.lrn.length a'.cl, .slice a'.s y.p.sn.length a'.cs, .int .i64 y.a.x, .int .i64 y.a.p, .int .i64 y.a.r, .int .i64 y.a.b, .int .i64 y.a.v]) W) ∧ (ldX 62 (.pointer (some ⟨g, off + k * 17, none⟩))).run Tryz.prog W = .ok (.agg #[.int .i64 y.k, .int .i64 y.g, .int .i64 y.t, .int .i64 y.v, .int .i64 y.f, .int .i64 y.p.log.base, .int .i64 y.p.log.term, .slice ay.e y.p.log.es.length ay.ce, .slice ay.o y.p.cf.old.length ay.co, .slice ay.n y.p.cf.new.length ay.cn, .slice ay.l y.p.cf.lrn.length ay.cl, .slice ay.s y.p.sn.length ay.cs, .int .i64 y.a.x, .int .i64 y.a.p, .int .i64 y.a.r, .int .i64 y.a.b, .int .i64 y.a.v]) W ∧ (ldX 25 (.pointer (some ⟨b5, 0, none⟩))).run Tryz.prog W = .ok (.agg #[.slice i.h nh' i.ch, .slice i.v nv' i.cv]) W)) := hid (fun W hb => by
                    obtain ⟨qc, qm, _, _⟩ := FB.out W hb
                    exact ⟨qm.ld, qc.ld⟩)
                  have s15 := F18.out w15 (Below.refl _ _)
                  have HD15 := hid ((Below.refl w15.heap.size w15).drew)
                  have s15d := F18.out w15.drew HD15.out
                  clear ht15 HSP ld14 H14
                  go_wp2_with fail
                  go_region_held3 (fun W => (((ldX 25 (.pointer (some ⟨b7, 0, none⟩))).run Tryz.prog W = .ok (.agg #[.slice j.h nh' j.ch, .slice j.v nv' j.cv]) W ∧ (ldX 62 (.pointer (some ⟨b8, 0, none⟩))).run Tryz.prog W = .ok (.agg #[.int .i64 y.k, .int .i64 y.g, .int .i64 y.t, .int .i64 y.v, .int .i64 y.f, .int .i64 y.p.log.base, .int .i64 y.p.log.term, .slice a'.e y.p.log.es.length a'.ce, .slice a'.o y.p.cf.old.length a'.co, .slice a'.n y.p.cf.new.length a'.cn, .slice a'.l y.p.cf.lrn.length a'.cl, .slice a'.s y.p.sn.length a'.cs, .int .i64 y.a.x, .int .i64 y.a.p, .int .i64 y.a.r, .int .i64 y.a.b, .int .i64 y.a.v]) W) ∧ (ldX 62 (.pointer (some ⟨g, off + k * 17, none⟩))).run Tryz.prog W = .ok (.agg #[.int .i64 y.k, .int .i64 y.g, .int .i64 y.t, .int .i64 y.v, .int .i64 y.f, .int .i64 y.p.log.base, .int .i64 y.p.log.term, .slice ay.e y.p.log.es.length ay.ce, .slice ay.o y.p.cf.old.length ay.co, .slice ay.n y.p.cf.new.length ay.cn, .slice ay.l y.p.cf.lrn.length ay.cl, .slice ay.s y.p.sn.length ay.cs, .int .i64 y.a.x, .int .i64 y.a.p, .int .i64 y.a.r, .int .i64 y.a.b, .int .i64 y.a.v]) W ∧ (ldX 25 (.pointer (some ⟨b5, 0, none⟩))).run Tryz.prog W = .ok (.agg #[.slice i.h nh' i.ch, .slice i.v nv' i.cv]) W))
                    (first | with_reducible exact s17 | with_reducible exact s16 | with_reducible exact s15d | with_reducible exact s15 | fail)
                    (first
                      | (go_at_call 39; refine (HS3.out _ (FB.out _ HB16.out).1 (FB.out _ HB16.out).2.1 (FB.out _ HB16.out).2.2.2).mono ?_; rintro e w17 ⟨rfl, hb17⟩; have HB17 := hid (HB16.out.trans (hb17.mono HB16.out.size)); have s17 := F18.out w17 HB17.out; clear hb17)
                      | (go_at_call 19; refine (HS2.out _ (FB.out _ HD15.out).1 (FB.out _ HD15.out).2.1 (FB.out _ HD15.out).2.2.2).mono ?_; rintro e w16 ⟨rfl, hb16⟩; have HB16 := hid (HD15.out.trans (hb16.mono HD15.out.size)); have s16 := F18.out w16 HB16.out; clear hb16)
                      | fail)
                  have H17 := hid (FB.out w17 HB17.out)
                  have HFEW : Hid (∀ q ∈ l1.take (k + 1), bigPt q.c.p = false) := hid (fun q hq => by
                    rw [HT.out] at hq
                    rcases List.mem_append.1 hq with hq | hq
                    · exact HI.out.2.2.2.2.2 q hq
                    · rw [List.mem_singleton.1 hq]; exact HBG.out)
                  clear s15 s15d s16 s17 HD15 HB16 HB17 FB F18 HS2 HS3
                  by_cases hre0 : re = 0
                  · subst hre0
                    have ldz := ldRow info_image2 Tryz.underlying25 rfl H17.out.2.2.1.r11 rfl
                    have str := stRow info_image2 (cs' := #[.slice iz.h nx iz.ch, .slice iz.v mx iz.cv]) H17.out.1.r5 rfl rfl (by simp [Value.oneCell'])
                    have r18 := setRow_heap w17 b5 _ #[.slice iz.h nx iz.ch, .slice iz.v mx iz.cv] _ _ H17.out.1.r5
                    have t18 := row_turned w17 b5 #[.slice iz.h nx iz.ch, .slice iz.v mx iz.cv]
                    obtain ⟨w18, hw18⟩ : ∃ w18, w18 = w17.setRow b5 #[.slice iz.h nx iz.ch, .slice iz.v mx iz.cv] := ⟨_, rfl⟩
                    rw [← hw18] at str r18 t18
                    have HF : Hid (∃ (i : Ia) (nh nv : Nat) (Q : List Hq) (L : List Vt), Below w.heap.size w w18 ∧ w18.heap[b5]? = some (.cells #[.slice i.h nh i.ch, .slice i.v nv i.cv] 25 (0, 0)) ∧ (IsHds w18 w18.heap.size i.h Q ∧ IsVs w18 w18.heap.size i.v L) ∧ (nh = Q.length ∧ nv = L.length) ∧ Sm (k + 1) ⟨Q.map (·.h), L⟩ ∧ ∀ q ∈ l1.take (k + 1), bigPt q.c.p = false) := hid (by
                      obtain ⟨qc, qm, qz, hs⟩ := H17.out
                      have hlt := qc.lt
                      have hz := t18.size
                      have hz18 := qz.z.keep t18 (fun kk hk hB => by have := hB.1; omega)
                      refine ⟨iz, nx, mx, Qz, rx.vs, qc.bel.trans (t18.below (by omega) (fun kk hk => by have := HLB.out; omega)), r18, ⟨hz18.h.reads.more hz, hz18.v.reads.more hz⟩, ⟨HQYZ.out.2.2.2.symm, HQYZ.out.2.1.symm⟩, ?_, HFEW.out⟩
                      rw [I11.out.2.2]; exact HSR.out)
                    clear r18 t18 hw18 H17 HFEW HI HC C3 I11 HQYZ HQZ
                    go_wp2_with fail
                    go_roundw
                    case rel => exact ⟨k + 1, by omega, by go_num, HF⟩
                    case measure => simp [RowKit.intOf]; omega
                  · have HF : Hid (∃ (i : Ia) (nh nv : Nat) (Q : List Hq) (L : List Vt), Below w.heap.size w w17 ∧ w17.heap[b5]? = some (.cells #[.slice i.h nh i.ch, .slice i.v nv i.cv] 25 (0, 0)) ∧ (IsHds w17 w17.heap.size i.h Q ∧ IsVs w17 w17.heap.size i.v L) ∧ (nh = Q.length ∧ nv = L.length) ∧ Sm (k + 1) ⟨Q.map (·.h), L⟩ ∧ ∀ q ∈ l1.take (k + 1), bigPt q.c.p = false) := hid (by
                      obtain ⟨qc, qm, qz, hs⟩ := H17.out
                      have hlt := qc.lt
                      exact ⟨i, nh', nv', Q, L, qc.bel, qc.r5, ⟨qc.hs.more hlt.2.2.1, qc.vs.more hlt.2.2.1⟩, HI.out.2.2.2.1, HI.out.2.2.2.2.1.mono (by omega), HFEW.out⟩)
                    clear H17 HFEW HI HC C3 I11 HQYZ HQZ
                    go_wp2_with fail
                    go_roundw
                    case rel => exact ⟨k + 1, by omega, by go_num, HF⟩
                    case measure => simp [RowKit.intOf]; omega
          · obtain rfl : k = m := by omega
            have hlt0 : ¬ (k : Int) < (k : Int) := by omega
            have HFC : Hid (FewCs l1) := hid (fewCs_of HX.out.2.2.2.1 (by have := HN.out.2.2; omega) (fun q hq => HI.out.2.2.2.2.2 q (by rw [← HN.out.2.2, List.take_length]; exact hq)))
            have HW := hid HI.out.1
            obtain ⟨qb, hqb⟩ : ∃ n, (encL encC (l1.map (·.c))).length = n := ⟨_, rfl⟩
            have HQB := hid hqb
            have hqb2 : qb ≤ 2000000 := by rw [← hqb]; exact HFC.out.big
            have HCS := hid (copyCs_any a1 cap1 k l1 HN.out.2.2 (by omega) (fun q hq => (smP_few (smP_of (HI.out.2.2.2.2.2 q (by rw [← HN.out.2.2, List.take_length]; exact hq))) (by omega)).1) wr ((HX.out.2.2.2.1.below HW.out).more HW.out.size))
            clear hlt HI hqb
            go_wp2_with fail
            refine HCS.out.mono ?_
            rintro e x1 ⟨A2, c2, rfl, ⟨M2, hM2, ho2⟩, hb2⟩
            have H2 := hid (And.intro hM2 (And.intro ho2.reads (HW.out.trans (hb2.mono HW.out.size))))
            have HPC : Hid (Calls Tryz.prog 40 #[.slice A2 k c2] x1 fun e w' => Go.Proofs.YtaeoccpjdjafnaaGreat.Im.Told x1.heap.size x1 (encL encC (l1.map (·.c))) qb e w') := hid (by
              have hl2 : M2.length = k := by have := congrArg List.length hM2; rw [List.length_map, List.length_map] at this; rw [this]; exact HN.out.2.2
              have := putChs_any x1.heap.size x1 (Nat.le_refl _) M2 k hl2 (by omega) (fun q hq => by
                have hm : q.c ∈ l1.map (·.c) := by rw [← hM2]; exact List.mem_map.2 ⟨q, hq, rfl⟩
                obtain ⟨q', hq', e⟩ := List.mem_map.1 hm
                rw [← e]; exact HFC.out.sz q' hq') (by rw [cs_len M2 (by rw [hM2]), HQB.out]; omega) A2 c2 ho2.reads qb (by rw [cs_len M2 (by rw [hM2]), HQB.out])
              rw [cs_enc M2 (by rw [hM2])] at this
              exact this)
            clear hM2 ho2 hb2 HCS
            go_wp2_with fail
            refine HPC.out.mono ?_
            rintro e x2 ⟨A3, c3, rfl, h3⟩
            have H3 := hid (And.intro h3.own.reads (H2.out.2.2.trans (h3.put.bel.mono H2.out.2.2.size)))
            have HRP : Hid (Calls Tryz.prog 42 #[.slice a1 k cap1] x2 (Rtold x2 (encL encC (l1.map (·.c))) qb)) := hid (by
              have := rChs_any x2.heap.size x2 (Nat.le_refl _) l1 k HN.out.2.2 (by omega) HFC.out.sz (by rw [HFC.out.len, HQB.out]; omega) a1 cap1 ((HX.out.2.2.2.1.below H3.out.2).more H3.out.2.size) qb (by rw [HFC.out.len, HQB.out])
              rw [cs_enc l1 rfl] at this
              exact this)
            clear h3 HPC
            go_wp2_with fail
            refine HRP.out.mono ?_
            rintro e x3 ⟨A4, c4, rfl, hb4⟩
            have H4 := hid (H3.out.2.trans (hb4.bel.mono H3.out.2.size))
            have HSB := hid (same_T x2.heap.size x3.heap.size A3 A4 c3 c4 (encL encC (l1.map (·.c))) qb HQB.out (by unfold maxLen; omega) x3 (H3.out.1.below hb4.bel) hb4.is)
            clear hb4 HRP
            go_wp2_with fail
            refine HSB.out.mono ?_
            rintro e x4 ⟨rfl, n4, rfl⟩
            have H5 := hid (below_drewN H4.out n4)
            go_wp2_with fail
            go_ret
            exact ⟨rfl, H5.out⟩
set_option maxRecDepth 100000 in
theorem lifted (os : Os) (started : os.Started) (H : Type) (enc : TypeId × Value → H) :
    ReturnsInHanded {} Tryz.checked os 5 .any (Rows.imageTurnsSpec.pre6 enc Tryz.prog Tryz.f5 Rows.imageTurnsRow.domain false) (Rows.imageTurnsSpec.post enc Tryz.prog Tryz.f5 false true false false) := by
  refine returnsInHanded_of_change_sized (C := Tryz.checked) own started (by kernel_rfl) Tryz.func5
    (ChangeSpec.witness6 (enc := enc) (C := Tryz.checked) false ⟨#[], #[.agg #[.slice none 0 0, .slice none 0 0], .slice none 0 0], []⟩ 8 (by kernel_rfl) (by kernel_rfl) (by kernel_rfl) (by kernel_rfl)) ?_
  intro W base args ds gs before hval0 hW hcnd hsz0 _
  have hsz : (DataW.weightsEach Tryz.prog (Tryz.f5.params.toList ++ Rows.imageTurnsSpec.plain.varTypes Tryz.prog) (ds ++ gs)).all (· ≤ reachBytes) = true := hsz0
  clear hsz0
  have hval : ∀ (j : Nat) t v, Tryz.f5.params[j]? = some t → args[j]? = some v → Value.okWide Tryz.prog W .any base t v := hval0
  have hW' := hW
  obtain ⟨p, q, hA0, hV, rfl, hfz, hnd⟩ := hW
  have hA : DataW.TrodAll enc Tryz.prog W 0 (fun _ => true) true Tryz.f5.params.toList args.toList ds p := hA0
  rw [Tryz.params5] at hA hval hsz
  obtain ⟨v0, vs0, d0, ds0, p0, q0, hargs, rfl, rfl, g0, t0⟩ := trodAll_cons hA
  obtain ⟨v1, vs1, d1, ds1, p1, q1, rfl, rfl, rfl, g1, t1⟩ := trodAll_cons t0
  obtain ⟨rfl, rfl, rfl⟩ := trodAll_nil t1
  obtain rfl : args = #[v0, v1] := by cases args; simp_all
  obtain ⟨rfl, rfl⟩ := trodVars_none hV
  obtain ⟨cs0, rfl, sz0⟩ := okWide_struct Tryz.underlying25 (hval 0 25 v0 rfl rfl)
  have m0 := g0
  have lt0 : ∀ x ∈ p0, x.block < W.heap.size := by obtain ⟨m, hm⟩ := m0; exact DataW.trod_lt m _ _ _ hm
  obtain ⟨i0, Q0, L0, rfl, k0⟩ := Im.image_open sz0 g0
  obtain ⟨a1, len1, cap1, rfl⟩ := okWide_slice Tryz.underlying45 (hval 1 45 v1 rfl rfl)
  have m1 := g1
  have lt1 : ∀ x ∈ p1, x.block < W.heap.size := by obtain ⟨m, hm⟩ := m1; exact DataW.trod_lt m _ _ _ hm
  obtain ⟨l1, k1, rfl, n1, r1, z1⟩ : ∃ l, Im.IsCs W W.heap.size a1 l ∧ len1 = l.length ∧ l.length ≤ cap1 ∧ cap1 ≤ maxLen ∧ (a1 = none → cap1 = 0) := by
    obtain ⟨fuel, hf⟩ := g1
    obtain ⟨a, c, ts, hcs, h1, h2, h3⟩ := Im.changes_in hf
    simp [Value.cells] at hcs
    obtain ⟨rfl, rfl, rfl⟩ := hcs
    exact ⟨ts, h1, rfl, h2.1, h2.2, h3⟩
  clear hA0 hval0
  refine (walk i0 Q0 L0 a1 cap1 l1 W k0 k1 n1 r1 z1).mono fun e W' ⟨he, bel⟩ => ?_
  subst he
  exact ⟨_, rfl, _, _, _, [], _, [], hW', trodAll_mk1 (shut_bool Tryz.underlying4 _), (trodAll_cons_mk (Below.trod laidOut (by kernel_rfl) (of_decide_eq_true (by kernel_rfl)) m0 bel lt0) (trodAll_cons_mk (Below.trod laidOut (by kernel_rfl) (of_decide_eq_true (by kernel_rfl)) m1 bel lt1) trodAll_mk0)), rfl, bel.frame _, fun h => by cases h⟩
theorem over : Rows.imageTurnsRow.holds Tryz.pinned (OpenSpec.ofChange Rows.imageTurnsSpec) :=
  OpenClaim.holds_of_wide 5 Tryz.f5 rfl rfl rfl rfl rfl rfl rfl ⟨rfl, rfl, rfl, rfl, rfl⟩ rfl rfl rfl rfl rfl (by kernel_rfl) Tryz.func5 (by kernel_rfl)
    (of_decide_eq_true (by kernel_rfl)) (by unfold Func.isWrapper; first | (rw [if_pos (by decide +kernel)]; kernel_rfl) | (rw [if_neg (by decide +kernel)]; exact ⟨rfl, rfl⟩))
    (fun os started H enc _ => lifted os started H enc)
theorem proved : Rows.ImageTurnsSaid := over
end Go.Proofs.YtaeoccpjdjafnaaGreat.imageTurns
