/- The bytes of an image and of members are the document's, and what was handed in stays. Conditions: none. -/
import Derived.Test.YtaeoccpjdjafnaaGreatBaseAC
import Derived.Test.YtaeoccpjdjafnaaGreatBaseAD
import Derived.Test.YtaeoccpjdjafnaaGreatBaseAF
import Derived.Deep.RegionHeld3
import Derived.Test.YtaeoccpjdjafnaaGreatRows
import Derived.Test.YtaeoccpjdjafnaaGreatBaseAG
import Derived.WalkKit
import Derived.WalkLawsBesides
import Derived.ProofKit
import Derived.OpenShut
import Derived.ShutString
import Derived.ChangeOld
import Derived.Below
import Derived.SizedLaws
namespace Go.Proofs.YtaeoccpjdjafnaaGreat.Im
open Go Go.RowKit
open Rl (En Lg)
open Qu (Cf)
set_option maxRecDepth 100000
set_option linter.unusedVariables false
attribute [local go_sem ↓] loadAt_hard storeAt_hard loadAt_change storeAt_change loadAt_log1 storeAt_log1 loadAt_conf3 storeAt_conf3
local instance lo14 : Lo := ⟨0⟩
set_option maxHeartbeats 3200000 in
theorem copyH_any (x : Hd) (ad : Ad) (hf : FewK x.p ∧ Rl.Few x.p.log.es) (hsn : x.p.sn.length ≤ 140737488355328) (w : World) (h : IsPt w w.heap.size x.p ad) :
    Calls Tryz.prog 49 #[.agg #[.int .i64 x.g, .int .i64 x.t, .int .i64 x.v, .int .i64 x.p.log.base, .int .i64 x.p.log.term, .slice ad.e x.p.log.es.length ad.ce, .slice ad.o x.p.cf.old.length ad.co, .slice ad.n x.p.cf.new.length ad.cn, .slice ad.l x.p.cf.lrn.length ad.cl, .slice ad.s x.p.sn.length ad.cs]] w fun e w' => ∃ a' : Ad, e = .returned (.agg #[.int .i64 x.g, .int .i64 x.t, .int .i64 x.v, .int .i64 x.p.log.base, .int .i64 x.p.log.term, .slice a'.e x.p.log.es.length a'.ce, .slice a'.o x.p.cf.old.length a'.co, .slice a'.n x.p.cf.new.length a'.cn, .slice a'.l x.p.cf.lrn.length a'.cl, .slice a'.s x.p.sn.length a'.cs]) ∧ OwnPt w' w.heap.size w'.heap.size x.p a' ∧ Below w.heap.size w w' := by
  obtain ⟨wA, hwA⟩ : ∃ wA, wA = (w.alloc (.cells #[.int .i64 x.g, .int .i64 x.t, .int .i64 x.v, .int .i64 x.p.log.base, .int .i64 x.p.log.term, .slice ad.e x.p.log.es.length ad.ce, .slice ad.o x.p.cf.old.length ad.co, .slice ad.n x.p.cf.new.length ad.cn, .slice ad.l x.p.cf.lrn.length ad.cl, .slice ad.s x.p.sn.length ad.cs] 75)).alloc (.cells #[.int .i64 0, .int .i64 0, .int .i64 0, .int .i64 0, .int .i64 0, .slice none 0 0, .slice none 0 0, .slice none 0 0, .slice none 0 0, .slice none 0 0] 75) := ⟨_, rfl⟩
  obtain ⟨b0, hb0⟩ : ∃ b, b = w.heap.size := ⟨_, rfl⟩
  obtain ⟨b1, hb1⟩ : ∃ b, b = w.heap.size + 1 := ⟨_, rfl⟩
  have hsA : wA.heap.size = w.heap.size + 2 := by rw [hwA]; simp
  have hbA : Below w.heap.size w wA := by rw [hwA]; exact ((Below.refl _ w).alloc (Nat.le_refl _) _).alloc (by simp) _
  have hr0 : wA.heap[b0]? = some (.cells #[.int .i64 x.g, .int .i64 x.t, .int .i64 x.v, .int .i64 x.p.log.base, .int .i64 x.p.log.term, .slice ad.e x.p.log.es.length ad.ce, .slice ad.o x.p.cf.old.length ad.co, .slice ad.n x.p.cf.new.length ad.cn, .slice ad.l x.p.cf.lrn.length ad.cl, .slice ad.s x.p.sn.length ad.cs] 75 (0, 0)) := by rw [hwA, heap_alloc_old _ _ (by rw [hb0]; simp), hb0]; exact heap_alloc_new w _
  have hr1 : wA.heap[b1]? = some (.cells #[.int .i64 0, .int .i64 0, .int .i64 0, .int .i64 0, .int .i64 0, .slice none 0 0, .slice none 0 0, .slice none 0 0, .slice none 0 0, .slice none 0 0] 75 (0, 0)) := by
    have := heap_alloc_new (w.alloc (.cells #[.int .i64 x.g, .int .i64 x.t, .int .i64 x.v, .int .i64 x.p.log.base, .int .i64 x.p.log.term, .slice ad.e x.p.log.es.length ad.ce, .slice ad.o x.p.cf.old.length ad.co, .slice ad.n x.p.cf.new.length ad.cn, .slice ad.l x.p.cf.lrn.length ad.cl, .slice ad.s x.p.sn.length ad.cs] 75)) (.cells #[.int .i64 0, .int .i64 0, .int .i64 0, .int .i64 0, .int .i64 0, .slice none 0 0, .slice none 0 0, .slice none 0 0, .slice none 0 0, .slice none 0 0] 75)
    rw [World.size_alloc, ← hwA, ← hb1] at this
    exact this
  have HL := hid (copyLog_any x.p.log ad.e ad.ce x.p.log.es.length rfl hf.1.es hf.2 wA ((h.es.below hbA).more hbA.size))
  have ld0 := ldLogH (k := 3) hr0 rfl rfl rfl
  rw [hwA, hb0] at ld0
  have H0 := hid (And.intro hr0 (And.intro hr1 (And.intro hbA (And.intro hsA (And.intro hb0 hb1)))))
  have HP := hid (And.intro h hf)
  have HSN := hid hsn
  clear hr0 hr1 hbA hsA h hf hsn
  go_enter Tryz.func49, Tryz.ntmps49
  go_wp2_with fail
  rw [← hwA]
  clear hwA ld0
  refine HL.out.mono ?_
  rintro e w1 ⟨A5, c5, rfl, ho1, hb1w⟩
  rw [← hb1, ← hb0]
  have hne : b0 ≠ b1 := by omega
  have z0 := H0.out.2.2.2.1
  have hb0A : b0 < wA.heap.size := by omega
  have hb1A : b1 < wA.heap.size := by omega
  have hlo0 : w.heap.size ≤ b0 := by omega
  have hlo1 : w.heap.size ≤ b1 := by omega
  have hAsz : w.heap.size ≤ wA.heap.size := by omega
  clear hb0 hb1 z0
  obtain ⟨ad1, had1⟩ : ∃ a : Ad, a = { ad with e := A5, ce := c5 } := ⟨_, rfl⟩
  have hr01 := (hb1w.block _ (by omega)).trans H0.out.1
  have hr11 := (hb1w.block _ (by omega)).trans H0.out.2.1
  have hst1 := stAt info_log33 (conf_there hr01 3 3 (by simp)) #[.int .i64 x.p.log.base, .int .i64 x.p.log.term, .slice A5 x.p.log.es.length c5] rfl (by simp [Value.oneCell'])
  have hT2 := turned_setCells b0 [.int .i64 x.p.log.base, .int .i64 x.p.log.term, .slice A5 x.p.log.es.length c5] w1 3
  have hr02 : (w1.setCells b0 3 [.int .i64 x.p.log.base, .int .i64 x.p.log.term, .slice A5 x.p.log.es.length c5]).heap[b0]? = some (.cells #[.int .i64 x.g, .int .i64 x.t, .int .i64 x.v, .int .i64 x.p.log.base, .int .i64 x.p.log.term, .slice ad1.e x.p.log.es.length ad1.ce, .slice ad1.o x.p.cf.old.length ad1.co, .slice ad1.n x.p.cf.new.length ad1.cn, .slice ad1.l x.p.cf.lrn.length ad1.cl, .slice ad1.s x.p.sn.length ad1.cs] 75 (0, 0)) := by
    rw [had1]
    exact row_set (row_set (row_set hr01 3 (.int .i64 x.p.log.base)) 4 (.int .i64 x.p.log.term)) 5 (.slice A5 x.p.log.es.length c5)
  obtain ⟨w2, hw2⟩ : ∃ w2, w2 = w1.setCells b0 3 [.int .i64 x.p.log.base, .int .i64 x.p.log.term, .slice A5 x.p.log.es.length c5] := ⟨_, rfl⟩
  have hst1' : (stX 58 (.pointer (some ⟨b0, 3, none⟩)) (.agg #[.int .i64 x.p.log.base, .int .i64 x.p.log.term, .slice A5 x.p.log.es.length c5])).run Tryz.prog w1 = .ok () w2 := by rw [hw2]; exact hst1
  rw [← hw2] at hT2 hr02
  clear hst1 hw2
  have hr12 := (hT2.block b1 (row_lt hr11) (by omega)).trans hr11
  have hbel1 : Below w.heap.size w w1 := H0.out.2.2.1.trans (hb1w.mono (by omega))
  have hbel2 : Below w.heap.size w w2 := hbel1.trans (hT2.below hbel1.size (fun k hk => by omega))
  have ld2 := ldConfH (k := 6) hr02 rfl rfl rfl
  have HC := hid (copyConf_sep w.heap.size x.p.cf HP.out.2.1.sh ad.o ad.n ad.l ad.co ad.cn ad.cl w2 (HP.out.1.cis.below hbel2) hbel2.size)
  have e1o : ad1.o = ad.o ∧ ad1.co = ad.co ∧ ad1.n = ad.n ∧ ad1.cn = ad.cn ∧ ad1.l = ad.l ∧ ad1.cl = ad.cl := by rw [had1]; exact ⟨rfl, rfl, rfl, rfl, rfl, rfl⟩
  rw [e1o.1, e1o.2.1, e1o.2.2.1, e1o.2.2.2.1, e1o.2.2.2.2.1, e1o.2.2.2.2.2] at ld2
  have H2 := hid (And.intro hr02 (And.intro hr12 (And.intro hbel2 (And.intro ho1 (And.intro hT2 (And.intro hb1w had1))))))
  clear hr01 hr11 hT2 hr02 hr12 hbel1 hbel2 e1o ho1 hb1w had1
  go_wp2_with fail
  refine HC.out.mono ?_
  rintro e w3 ⟨B0, B1, B2, p0, p1, p2, rfl, ⟨m1, m2, ⟨g1, g2, g3⟩, o0, o1, o2⟩, hcis, hb3⟩
  obtain ⟨ad2, had2⟩ : ∃ a : Ad, a = { ad1 with o := B0, co := p0, n := B1, cn := p1, l := B2, cl := p2 } := ⟨_, rfl⟩
  have hr03 := (hb3.block _ (row_lt H2.out.1)).trans H2.out.1
  have hr13 := (hb3.block _ (row_lt H2.out.2.1)).trans H2.out.2.1
  have hst3 := stAt info_conf33 (conf_there hr03 6 3 (by simp)) #[.slice B0 x.p.cf.old.length p0, .slice B1 x.p.cf.new.length p1, .slice B2 x.p.cf.lrn.length p2] rfl (by simp [Value.oneCell'])
  have hT4 := turned_setCells b0 [.slice B0 x.p.cf.old.length p0, .slice B1 x.p.cf.new.length p1, .slice B2 x.p.cf.lrn.length p2] w3 6
  have hr04 : (w3.setCells b0 6 [.slice B0 x.p.cf.old.length p0, .slice B1 x.p.cf.new.length p1, .slice B2 x.p.cf.lrn.length p2]).heap[b0]? = some (.cells #[.int .i64 x.g, .int .i64 x.t, .int .i64 x.v, .int .i64 x.p.log.base, .int .i64 x.p.log.term, .slice ad2.e x.p.log.es.length ad2.ce, .slice ad2.o x.p.cf.old.length ad2.co, .slice ad2.n x.p.cf.new.length ad2.cn, .slice ad2.l x.p.cf.lrn.length ad2.cl, .slice ad2.s x.p.sn.length ad2.cs] 75 (0, 0)) := by
    rw [had2]
    exact row_set (row_set (row_set hr03 6 (.slice B0 x.p.cf.old.length p0)) 7 (.slice B1 x.p.cf.new.length p1)) 8 (.slice B2 x.p.cf.lrn.length p2)
  obtain ⟨w4, hw4⟩ : ∃ w4, w4 = w3.setCells b0 6 [.slice B0 x.p.cf.old.length p0, .slice B1 x.p.cf.new.length p1, .slice B2 x.p.cf.lrn.length p2] := ⟨_, rfl⟩
  have hst3' : (stX 28 (.pointer (some ⟨b0, 6, none⟩)) (.agg #[.slice B0 x.p.cf.old.length p0, .slice B1 x.p.cf.new.length p1, .slice B2 x.p.cf.lrn.length p2])).run Tryz.prog w3 = .ok () w4 := by rw [hw4]; exact hst3
  rw [← hw4] at hT4 hr04
  clear hst3 hw4
  have hr14 := (hT4.block b1 (row_lt hr13) (by omega)).trans hr13
  have hbel3 : Below w.heap.size w w3 := H2.out.2.2.1.trans (hb3.mono H2.out.2.2.1.size)
  have hbel4 : Below w.heap.size w w4 := hbel3.trans (hT4.below hbel3.size (fun k hk => by omega))
  have e2s : ad2.s = ad.s ∧ ad2.cs = ad.cs := by rw [had2, H2.out.2.2.2.2.2.2]; exact ⟨rfl, rfl⟩
  have c9 : w4.cell? ⟨b0, 9, none⟩ = some (.slice ad2.s x.p.sn.length ad2.cs) := row_cell hr04 9
  rw [e2s.1, e2s.2] at c9
  have hrs := HP.out.1.rs.1
  have HS := hid (copy_N w.heap.size ad.s ad.cs x.p.sn x.p.sn.length rfl (HSN.out) w4 (HP.out.1.s.below hbel4) hbel4.size)
  have H4 := hid (And.intro hr04 (And.intro hr14 (And.intro hbel4 (And.intro hT4 (And.intro hb3 (And.intro had2 (And.intro (show w2.heap.size ≤ m1 ∧ m1 ≤ m2 ∧ m2 ≤ w3.heap.size from ⟨g1, g2, g3⟩) (And.intro o0 (And.intro o1 o2)))))))))
  clear hr03 hr13 hT4 hr04 hr14 hbel3 hbel4 hb3 had2 g1 g2 g3 o0 o1 o2 hcis e2s hrs hst1' ld2
  go_wp2_with fail
  refine HS.out.mono ?_
  rintro e w5 ⟨A9, c9', rfl, ho5, hb5⟩
  have hr05 := (hb5.block _ (row_lt H4.out.1)).trans H4.out.1
  have hr15 := (hb5.block _ (row_lt H4.out.2.1)).trans H4.out.2.1
  have hc5 := row_cell hr05 9
  have hf5 := row_free hr05 9
  obtain ⟨ad3, had3⟩ : ∃ a : Ad, a = { ad2 with s := A9, cs := c9' } := ⟨_, rfl⟩
  have hr06 : (w5.setCell ⟨b0, 9, none⟩ (.slice A9 x.p.sn.length c9')).heap[b0]? = some (.cells #[.int .i64 x.g, .int .i64 x.t, .int .i64 x.v, .int .i64 x.p.log.base, .int .i64 x.p.log.term, .slice ad3.e x.p.log.es.length ad3.ce, .slice ad3.o x.p.cf.old.length ad3.co, .slice ad3.n x.p.cf.new.length ad3.cn, .slice ad3.l x.p.cf.lrn.length ad3.cl, .slice ad3.s x.p.sn.length ad3.cs] 75 (0, 0)) := by rw [had3]; exact row_set hr05 9 (.slice A9 x.p.sn.length c9')
  have hT6 : Turned (fun k => k = b0) w5 (w5.setCell ⟨b0, 9, none⟩ (.slice A9 x.p.sn.length c9')) := Turned.one _ _ _ _
  have hr16 := (hT6.block b1 (row_lt hr15) (by omega)).trans hr15
  have hc5' : w5.cell? ⟨b0, 9, none⟩ = some (.slice ad2.s x.p.sn.length ad2.cs) := hc5
  clear hc5
  generalize hw6 : w5.setCell ⟨b0, 9, none⟩ (.slice A9 x.p.sn.length c9') = w6 at *
  have ld6 := ldRow info_hard Tryz.underlying75 rfl hr06 rfl
  have hst6 := stRow info_hard (cs' := #[.int .i64 x.g, .int .i64 x.t, .int .i64 x.v, .int .i64 x.p.log.base, .int .i64 x.p.log.term, .slice ad3.e x.p.log.es.length ad3.ce, .slice ad3.o x.p.cf.old.length ad3.co, .slice ad3.n x.p.cf.new.length ad3.cn, .slice ad3.l x.p.cf.lrn.length ad3.cl, .slice ad3.s x.p.sn.length ad3.cs]) hr16 rfl rfl (by simp [Value.oneCell'])
  have r7 := setRow_heap w6 b1 _ #[.int .i64 x.g, .int .i64 x.t, .int .i64 x.v, .int .i64 x.p.log.base, .int .i64 x.p.log.term, .slice ad3.e x.p.log.es.length ad3.ce, .slice ad3.o x.p.cf.old.length ad3.co, .slice ad3.n x.p.cf.new.length ad3.cn, .slice ad3.l x.p.cf.lrn.length ad3.cl, .slice ad3.s x.p.sn.length ad3.cs] _ _ hr16
  have hT7 := row_turned w6 b1 #[.int .i64 x.g, .int .i64 x.t, .int .i64 x.v, .int .i64 x.p.log.base, .int .i64 x.p.log.term, .slice ad3.e x.p.log.es.length ad3.ce, .slice ad3.o x.p.cf.old.length ad3.co, .slice ad3.n x.p.cf.new.length ad3.cn, .slice ad3.l x.p.cf.lrn.length ad3.cl, .slice ad3.s x.p.sn.length ad3.cs]
  generalize w6.setRow b1 #[.int .i64 x.g, .int .i64 x.t, .int .i64 x.v, .int .i64 x.p.log.base, .int .i64 x.p.log.term, .slice ad3.e x.p.log.es.length ad3.ce, .slice ad3.o x.p.cf.old.length ad3.co, .slice ad3.n x.p.cf.new.length ad3.cn, .slice ad3.l x.p.cf.lrn.length ad3.cl, .slice ad3.s x.p.sn.length ad3.cs] = w7 at *
  have HE : Hid (w7.heap[b1]? = some (.cells #[.int .i64 x.g, .int .i64 x.t, .int .i64 x.v, .int .i64 x.p.log.base, .int .i64 x.p.log.term, .slice ad3.e x.p.log.es.length ad3.ce, .slice ad3.o x.p.cf.old.length ad3.co, .slice ad3.n x.p.cf.new.length ad3.cn, .slice ad3.l x.p.cf.lrn.length ad3.cl, .slice ad3.s x.p.sn.length ad3.cs] 75 (0, 0)) ∧ OwnPt w7 w.heap.size w7.heap.size x.p ad3 ∧ Below w.heap.size w w7) := hid (by
    obtain ⟨g1, g2, g3⟩ := H4.out.2.2.2.2.2.2.1
    obtain ⟨o0, o1, o2⟩ := H4.out.2.2.2.2.2.2.2
    have q1 := H2.out.2.2.2.2.2.1.size
    have q2 := H2.out.2.2.2.2.1.size
    have q3 := H4.out.2.2.2.2.1.size
    have q4 := H4.out.2.2.2.1.size
    have q5 := hb5.size
    have q6 := hT6.size
    have q7 := hT7.size
    have T57 : Turned (fun k => k = b0 ∨ k = b1) w5 w7 := (hT6.mono (fun k hk => .inl hk)).trans (hT7.mono (fun k hk => .inr hk))
    have T47 : Turned (fun k => k = b0 ∨ k = b1) w4 w7 := (Turned.ofBelow _ hb5).trans T57
    have T37 : Turned (fun k => k = b0 ∨ k = b1) w3 w7 := (H4.out.2.2.2.1.mono (fun k hk => .inl hk)).trans T47
    have T27 : Turned (fun k => k = b0 ∨ k = b1) w2 w7 := (Turned.ofBelow _ H4.out.2.2.2.2.1).trans T37
    have T17 : Turned (fun k => k = b0 ∨ k = b1) w1 w7 := (H2.out.2.2.2.2.1.mono (fun k hk => .inl hk)).trans T27
    have hno : ∀ k, wA.heap.size ≤ k → ¬ (k = b0 ∨ k = b1) := fun k hk e => by omega
    have ead : ad3.e = A5 ∧ ad3.ce = c5 ∧ ad3.o = B0 ∧ ad3.co = p0 ∧ ad3.n = B1 ∧ ad3.cn = p1 ∧ ad3.l = B2 ∧ ad3.cl = p2 ∧ ad3.s = A9 ∧ ad3.cs = c9' := by
      rw [had3, H4.out.2.2.2.2.2.1, H2.out.2.2.2.2.2.2]; exact ⟨rfl, rfl, rfl, rfl, rfl, rfl, rfl, rfl, rfl, rfl⟩
    obtain ⟨f1, f2, f3, f4, f5, f6, f7, f8, f9, f10⟩ := ead
    refine ⟨r7, ⟨w1.heap.size, m1, m2, w3.heap.size, ⟨by omega, by omega, g2, g3, by omega⟩, ?_, ?_, ?_, ?_, ?_, HP.out.1.num⟩, ?_⟩
    · rw [f1, f2]
      exact (H2.out.2.2.2.1.keep T17 (fun k hk hBl => hno k hBl.1 hk)).wide (by omega) (Nat.le_refl _)
    · rw [f3, f4]
      exact ⟨(ownsI_turned o0.1 T37 (fun k hk => hno k (by have := (o0.1.blkLt k hk).1; omega))).weaken (by omega), o0.2⟩
    · rw [f5, f6]
      exact ⟨ownsI_turned o1.1 T37 (fun k hk => hno k (by have := (o1.1.blkLt k hk).1; omega)), o1.2⟩
    · rw [f7, f8]
      exact ⟨ownsI_turned o2 T37 (fun k hk => hno k (by have := (o2.blkLt k hk).1; omega)), fun k hk => (o2.blkLt k hk).2⟩
    · rw [f9, f10]
      exact ⟨(ho5.turned T57 (fun k hk => hno k (by have := (ho5.blkLt k hk).1; omega))).weaken (by omega), fun k hk => by have := (ho5.blkLt k hk).2; omega⟩
    · have hbel5 : Below w.heap.size w w5 := H4.out.2.2.1.trans (hb5.mono H4.out.2.2.1.size)
      exact hbel5.trans (T57.below hbel5.size (fun k hk => by omega)))
  clear hr05 hr15 hr06 hT6 hr16 r7 hT7 ho5 hb5 had3 hst3' c9
  go_wp2_with fail
  refine bodyPost_ret (results_cell_row rfl _ _ b1 _ _ _ _ rfl HE.out.1 Tryz.underlying75 rfl (by rw [info_hard]; rfl)) rfl ?_
  exact ⟨ad3, rfl, HE.out.2⟩
set_option maxHeartbeats 3200000 in
theorem copyC_any (x : Ch) (ad : Ad) (hf : FewK x.p ∧ Rl.Few x.p.log.es) (hsn : x.p.sn.length ≤ 140737488355328) (w : World) (h : IsPt w w.heap.size x.p ad) :
    Calls Tryz.prog 36 #[.agg #[.int .i64 x.k, .int .i64 x.g, .int .i64 x.t, .int .i64 x.v, .int .i64 x.f, .int .i64 x.p.log.base, .int .i64 x.p.log.term, .slice ad.e x.p.log.es.length ad.ce, .slice ad.o x.p.cf.old.length ad.co, .slice ad.n x.p.cf.new.length ad.cn, .slice ad.l x.p.cf.lrn.length ad.cl, .slice ad.s x.p.sn.length ad.cs, .int .i64 x.a.x, .int .i64 x.a.p, .int .i64 x.a.r, .int .i64 x.a.b, .int .i64 x.a.v]] w fun e w' => ∃ a' : Ad, e = .returned (.agg #[.int .i64 x.k, .int .i64 x.g, .int .i64 x.t, .int .i64 x.v, .int .i64 x.f, .int .i64 x.p.log.base, .int .i64 x.p.log.term, .slice a'.e x.p.log.es.length a'.ce, .slice a'.o x.p.cf.old.length a'.co, .slice a'.n x.p.cf.new.length a'.cn, .slice a'.l x.p.cf.lrn.length a'.cl, .slice a'.s x.p.sn.length a'.cs, .int .i64 x.a.x, .int .i64 x.a.p, .int .i64 x.a.r, .int .i64 x.a.b, .int .i64 x.a.v]) ∧ OwnPt w' w.heap.size w'.heap.size x.p a' ∧ Below w.heap.size w w' := by
  obtain ⟨wA, hwA⟩ : ∃ wA, wA = (w.alloc (.cells #[.int .i64 x.k, .int .i64 x.g, .int .i64 x.t, .int .i64 x.v, .int .i64 x.f, .int .i64 x.p.log.base, .int .i64 x.p.log.term, .slice ad.e x.p.log.es.length ad.ce, .slice ad.o x.p.cf.old.length ad.co, .slice ad.n x.p.cf.new.length ad.cn, .slice ad.l x.p.cf.lrn.length ad.cl, .slice ad.s x.p.sn.length ad.cs, .int .i64 x.a.x, .int .i64 x.a.p, .int .i64 x.a.r, .int .i64 x.a.b, .int .i64 x.a.v] 62)).alloc (.cells #[.int .i64 0, .int .i64 0, .int .i64 0, .int .i64 0, .int .i64 0, .int .i64 0, .int .i64 0, .slice none 0 0, .slice none 0 0, .slice none 0 0, .slice none 0 0, .slice none 0 0, .int .i64 0, .int .i64 0, .int .i64 0, .int .i64 0, .int .i64 0] 62) := ⟨_, rfl⟩
  obtain ⟨b0, hb0⟩ : ∃ b, b = w.heap.size := ⟨_, rfl⟩
  obtain ⟨b1, hb1⟩ : ∃ b, b = w.heap.size + 1 := ⟨_, rfl⟩
  have hsA : wA.heap.size = w.heap.size + 2 := by rw [hwA]; simp
  have hbA : Below w.heap.size w wA := by rw [hwA]; exact ((Below.refl _ w).alloc (Nat.le_refl _) _).alloc (by simp) _
  have hr0 : wA.heap[b0]? = some (.cells #[.int .i64 x.k, .int .i64 x.g, .int .i64 x.t, .int .i64 x.v, .int .i64 x.f, .int .i64 x.p.log.base, .int .i64 x.p.log.term, .slice ad.e x.p.log.es.length ad.ce, .slice ad.o x.p.cf.old.length ad.co, .slice ad.n x.p.cf.new.length ad.cn, .slice ad.l x.p.cf.lrn.length ad.cl, .slice ad.s x.p.sn.length ad.cs, .int .i64 x.a.x, .int .i64 x.a.p, .int .i64 x.a.r, .int .i64 x.a.b, .int .i64 x.a.v] 62 (0, 0)) := by rw [hwA, heap_alloc_old _ _ (by rw [hb0]; simp), hb0]; exact heap_alloc_new w _
  have hr1 : wA.heap[b1]? = some (.cells #[.int .i64 0, .int .i64 0, .int .i64 0, .int .i64 0, .int .i64 0, .int .i64 0, .int .i64 0, .slice none 0 0, .slice none 0 0, .slice none 0 0, .slice none 0 0, .slice none 0 0, .int .i64 0, .int .i64 0, .int .i64 0, .int .i64 0, .int .i64 0] 62 (0, 0)) := by
    have := heap_alloc_new (w.alloc (.cells #[.int .i64 x.k, .int .i64 x.g, .int .i64 x.t, .int .i64 x.v, .int .i64 x.f, .int .i64 x.p.log.base, .int .i64 x.p.log.term, .slice ad.e x.p.log.es.length ad.ce, .slice ad.o x.p.cf.old.length ad.co, .slice ad.n x.p.cf.new.length ad.cn, .slice ad.l x.p.cf.lrn.length ad.cl, .slice ad.s x.p.sn.length ad.cs, .int .i64 x.a.x, .int .i64 x.a.p, .int .i64 x.a.r, .int .i64 x.a.b, .int .i64 x.a.v] 62)) (.cells #[.int .i64 0, .int .i64 0, .int .i64 0, .int .i64 0, .int .i64 0, .int .i64 0, .int .i64 0, .slice none 0 0, .slice none 0 0, .slice none 0 0, .slice none 0 0, .slice none 0 0, .int .i64 0, .int .i64 0, .int .i64 0, .int .i64 0, .int .i64 0] 62)
    rw [World.size_alloc, ← hwA, ← hb1] at this
    exact this
  have HL := hid (copyLog_any x.p.log ad.e ad.ce x.p.log.es.length rfl hf.1.es hf.2 wA ((h.es.below hbA).more hbA.size))
  have ld0 := ldLogH (k := 5) hr0 rfl rfl rfl
  rw [hwA, hb0] at ld0
  have H0 := hid (And.intro hr0 (And.intro hr1 (And.intro hbA (And.intro hsA (And.intro hb0 hb1)))))
  have HP := hid (And.intro h hf)
  have HSN := hid hsn
  clear hr0 hr1 hbA hsA h hf hsn
  go_enter Tryz.func36, Tryz.ntmps36
  go_wp2_with fail
  rw [← hwA]
  clear hwA ld0
  refine HL.out.mono ?_
  rintro e w1 ⟨A5, c5, rfl, ho1, hb1w⟩
  rw [← hb1, ← hb0]
  have hne : b0 ≠ b1 := by omega
  have z0 := H0.out.2.2.2.1
  have hb0A : b0 < wA.heap.size := by omega
  have hb1A : b1 < wA.heap.size := by omega
  have hlo0 : w.heap.size ≤ b0 := by omega
  have hlo1 : w.heap.size ≤ b1 := by omega
  have hAsz : w.heap.size ≤ wA.heap.size := by omega
  clear hb0 hb1 z0
  obtain ⟨ad1, had1⟩ : ∃ a : Ad, a = { ad with e := A5, ce := c5 } := ⟨_, rfl⟩
  have hr01 := (hb1w.block _ (by omega)).trans H0.out.1
  have hr11 := (hb1w.block _ (by omega)).trans H0.out.2.1
  have hst1 := stAt info_log33 (conf_there hr01 5 3 (by simp)) #[.int .i64 x.p.log.base, .int .i64 x.p.log.term, .slice A5 x.p.log.es.length c5] rfl (by simp [Value.oneCell'])
  have hT2 := turned_setCells b0 [.int .i64 x.p.log.base, .int .i64 x.p.log.term, .slice A5 x.p.log.es.length c5] w1 5
  have hr02 : (w1.setCells b0 5 [.int .i64 x.p.log.base, .int .i64 x.p.log.term, .slice A5 x.p.log.es.length c5]).heap[b0]? = some (.cells #[.int .i64 x.k, .int .i64 x.g, .int .i64 x.t, .int .i64 x.v, .int .i64 x.f, .int .i64 x.p.log.base, .int .i64 x.p.log.term, .slice ad1.e x.p.log.es.length ad1.ce, .slice ad1.o x.p.cf.old.length ad1.co, .slice ad1.n x.p.cf.new.length ad1.cn, .slice ad1.l x.p.cf.lrn.length ad1.cl, .slice ad1.s x.p.sn.length ad1.cs, .int .i64 x.a.x, .int .i64 x.a.p, .int .i64 x.a.r, .int .i64 x.a.b, .int .i64 x.a.v] 62 (0, 0)) := by
    rw [had1]
    exact row_set (row_set (row_set hr01 5 (.int .i64 x.p.log.base)) 6 (.int .i64 x.p.log.term)) 7 (.slice A5 x.p.log.es.length c5)
  obtain ⟨w2, hw2⟩ : ∃ w2, w2 = w1.setCells b0 5 [.int .i64 x.p.log.base, .int .i64 x.p.log.term, .slice A5 x.p.log.es.length c5] := ⟨_, rfl⟩
  have hst1' : (stX 58 (.pointer (some ⟨b0, 5, none⟩)) (.agg #[.int .i64 x.p.log.base, .int .i64 x.p.log.term, .slice A5 x.p.log.es.length c5])).run Tryz.prog w1 = .ok () w2 := by rw [hw2]; exact hst1
  rw [← hw2] at hT2 hr02
  clear hst1 hw2
  have hr12 := (hT2.block b1 (row_lt hr11) (by omega)).trans hr11
  have hbel1 : Below w.heap.size w w1 := H0.out.2.2.1.trans (hb1w.mono (by omega))
  have hbel2 : Below w.heap.size w w2 := hbel1.trans (hT2.below hbel1.size (fun k hk => by omega))
  have ld2 := ldConfH (k := 8) hr02 rfl rfl rfl
  have HC := hid (copyConf_sep w.heap.size x.p.cf HP.out.2.1.sh ad.o ad.n ad.l ad.co ad.cn ad.cl w2 (HP.out.1.cis.below hbel2) hbel2.size)
  have e1o : ad1.o = ad.o ∧ ad1.co = ad.co ∧ ad1.n = ad.n ∧ ad1.cn = ad.cn ∧ ad1.l = ad.l ∧ ad1.cl = ad.cl := by rw [had1]; exact ⟨rfl, rfl, rfl, rfl, rfl, rfl⟩
  rw [e1o.1, e1o.2.1, e1o.2.2.1, e1o.2.2.2.1, e1o.2.2.2.2.1, e1o.2.2.2.2.2] at ld2
  have H2 := hid (And.intro hr02 (And.intro hr12 (And.intro hbel2 (And.intro ho1 (And.intro hT2 (And.intro hb1w had1))))))
  clear hr01 hr11 hT2 hr02 hr12 hbel1 hbel2 e1o ho1 hb1w had1
  go_wp2_with fail
  refine HC.out.mono ?_
  rintro e w3 ⟨B0, B1, B2, p0, p1, p2, rfl, ⟨m1, m2, ⟨g1, g2, g3⟩, o0, o1, o2⟩, hcis, hb3⟩
  obtain ⟨ad2, had2⟩ : ∃ a : Ad, a = { ad1 with o := B0, co := p0, n := B1, cn := p1, l := B2, cl := p2 } := ⟨_, rfl⟩
  have hr03 := (hb3.block _ (row_lt H2.out.1)).trans H2.out.1
  have hr13 := (hb3.block _ (row_lt H2.out.2.1)).trans H2.out.2.1
  have hst3 := stAt info_conf33 (conf_there hr03 8 3 (by simp)) #[.slice B0 x.p.cf.old.length p0, .slice B1 x.p.cf.new.length p1, .slice B2 x.p.cf.lrn.length p2] rfl (by simp [Value.oneCell'])
  have hT4 := turned_setCells b0 [.slice B0 x.p.cf.old.length p0, .slice B1 x.p.cf.new.length p1, .slice B2 x.p.cf.lrn.length p2] w3 8
  have hr04 : (w3.setCells b0 8 [.slice B0 x.p.cf.old.length p0, .slice B1 x.p.cf.new.length p1, .slice B2 x.p.cf.lrn.length p2]).heap[b0]? = some (.cells #[.int .i64 x.k, .int .i64 x.g, .int .i64 x.t, .int .i64 x.v, .int .i64 x.f, .int .i64 x.p.log.base, .int .i64 x.p.log.term, .slice ad2.e x.p.log.es.length ad2.ce, .slice ad2.o x.p.cf.old.length ad2.co, .slice ad2.n x.p.cf.new.length ad2.cn, .slice ad2.l x.p.cf.lrn.length ad2.cl, .slice ad2.s x.p.sn.length ad2.cs, .int .i64 x.a.x, .int .i64 x.a.p, .int .i64 x.a.r, .int .i64 x.a.b, .int .i64 x.a.v] 62 (0, 0)) := by
    rw [had2]
    exact row_set (row_set (row_set hr03 8 (.slice B0 x.p.cf.old.length p0)) 9 (.slice B1 x.p.cf.new.length p1)) 10 (.slice B2 x.p.cf.lrn.length p2)
  obtain ⟨w4, hw4⟩ : ∃ w4, w4 = w3.setCells b0 8 [.slice B0 x.p.cf.old.length p0, .slice B1 x.p.cf.new.length p1, .slice B2 x.p.cf.lrn.length p2] := ⟨_, rfl⟩
  have hst3' : (stX 28 (.pointer (some ⟨b0, 8, none⟩)) (.agg #[.slice B0 x.p.cf.old.length p0, .slice B1 x.p.cf.new.length p1, .slice B2 x.p.cf.lrn.length p2])).run Tryz.prog w3 = .ok () w4 := by rw [hw4]; exact hst3
  rw [← hw4] at hT4 hr04
  clear hst3 hw4
  have hr14 := (hT4.block b1 (row_lt hr13) (by omega)).trans hr13
  have hbel3 : Below w.heap.size w w3 := H2.out.2.2.1.trans (hb3.mono H2.out.2.2.1.size)
  have hbel4 : Below w.heap.size w w4 := hbel3.trans (hT4.below hbel3.size (fun k hk => by omega))
  have e2s : ad2.s = ad.s ∧ ad2.cs = ad.cs := by rw [had2, H2.out.2.2.2.2.2.2]; exact ⟨rfl, rfl⟩
  have c9 : w4.cell? ⟨b0, 11, none⟩ = some (.slice ad2.s x.p.sn.length ad2.cs) := row_cell hr04 11
  rw [e2s.1, e2s.2] at c9
  have hrs := HP.out.1.rs.1
  have HS := hid (copy_N w.heap.size ad.s ad.cs x.p.sn x.p.sn.length rfl (HSN.out) w4 (HP.out.1.s.below hbel4) hbel4.size)
  have H4 := hid (And.intro hr04 (And.intro hr14 (And.intro hbel4 (And.intro hT4 (And.intro hb3 (And.intro had2 (And.intro (show w2.heap.size ≤ m1 ∧ m1 ≤ m2 ∧ m2 ≤ w3.heap.size from ⟨g1, g2, g3⟩) (And.intro o0 (And.intro o1 o2)))))))))
  clear hr03 hr13 hT4 hr04 hr14 hbel3 hbel4 hb3 had2 g1 g2 g3 o0 o1 o2 hcis e2s hrs hst1' ld2
  go_wp2_with fail
  refine HS.out.mono ?_
  rintro e w5 ⟨A9, c9', rfl, ho5, hb5⟩
  have hr05 := (hb5.block _ (row_lt H4.out.1)).trans H4.out.1
  have hr15 := (hb5.block _ (row_lt H4.out.2.1)).trans H4.out.2.1
  have hc5 := row_cell hr05 11
  have hf5 := row_free hr05 11
  obtain ⟨ad3, had3⟩ : ∃ a : Ad, a = { ad2 with s := A9, cs := c9' } := ⟨_, rfl⟩
  have hr06 : (w5.setCell ⟨b0, 11, none⟩ (.slice A9 x.p.sn.length c9')).heap[b0]? = some (.cells #[.int .i64 x.k, .int .i64 x.g, .int .i64 x.t, .int .i64 x.v, .int .i64 x.f, .int .i64 x.p.log.base, .int .i64 x.p.log.term, .slice ad3.e x.p.log.es.length ad3.ce, .slice ad3.o x.p.cf.old.length ad3.co, .slice ad3.n x.p.cf.new.length ad3.cn, .slice ad3.l x.p.cf.lrn.length ad3.cl, .slice ad3.s x.p.sn.length ad3.cs, .int .i64 x.a.x, .int .i64 x.a.p, .int .i64 x.a.r, .int .i64 x.a.b, .int .i64 x.a.v] 62 (0, 0)) := by rw [had3]; exact row_set hr05 11 (.slice A9 x.p.sn.length c9')
  have hT6 : Turned (fun k => k = b0) w5 (w5.setCell ⟨b0, 11, none⟩ (.slice A9 x.p.sn.length c9')) := Turned.one _ _ _ _
  have hr16 := (hT6.block b1 (row_lt hr15) (by omega)).trans hr15
  have hc5' : w5.cell? ⟨b0, 11, none⟩ = some (.slice ad2.s x.p.sn.length ad2.cs) := hc5
  clear hc5
  generalize hw6 : w5.setCell ⟨b0, 11, none⟩ (.slice A9 x.p.sn.length c9') = w6 at *
  have ld6 := ldRow info_change Tryz.underlying62 rfl hr06 rfl
  have hst6 := stRow info_change (cs' := #[.int .i64 x.k, .int .i64 x.g, .int .i64 x.t, .int .i64 x.v, .int .i64 x.f, .int .i64 x.p.log.base, .int .i64 x.p.log.term, .slice ad3.e x.p.log.es.length ad3.ce, .slice ad3.o x.p.cf.old.length ad3.co, .slice ad3.n x.p.cf.new.length ad3.cn, .slice ad3.l x.p.cf.lrn.length ad3.cl, .slice ad3.s x.p.sn.length ad3.cs, .int .i64 x.a.x, .int .i64 x.a.p, .int .i64 x.a.r, .int .i64 x.a.b, .int .i64 x.a.v]) hr16 rfl rfl (by simp [Value.oneCell'])
  have r7 := setRow_heap w6 b1 _ #[.int .i64 x.k, .int .i64 x.g, .int .i64 x.t, .int .i64 x.v, .int .i64 x.f, .int .i64 x.p.log.base, .int .i64 x.p.log.term, .slice ad3.e x.p.log.es.length ad3.ce, .slice ad3.o x.p.cf.old.length ad3.co, .slice ad3.n x.p.cf.new.length ad3.cn, .slice ad3.l x.p.cf.lrn.length ad3.cl, .slice ad3.s x.p.sn.length ad3.cs, .int .i64 x.a.x, .int .i64 x.a.p, .int .i64 x.a.r, .int .i64 x.a.b, .int .i64 x.a.v] _ _ hr16
  have hT7 := row_turned w6 b1 #[.int .i64 x.k, .int .i64 x.g, .int .i64 x.t, .int .i64 x.v, .int .i64 x.f, .int .i64 x.p.log.base, .int .i64 x.p.log.term, .slice ad3.e x.p.log.es.length ad3.ce, .slice ad3.o x.p.cf.old.length ad3.co, .slice ad3.n x.p.cf.new.length ad3.cn, .slice ad3.l x.p.cf.lrn.length ad3.cl, .slice ad3.s x.p.sn.length ad3.cs, .int .i64 x.a.x, .int .i64 x.a.p, .int .i64 x.a.r, .int .i64 x.a.b, .int .i64 x.a.v]
  generalize w6.setRow b1 #[.int .i64 x.k, .int .i64 x.g, .int .i64 x.t, .int .i64 x.v, .int .i64 x.f, .int .i64 x.p.log.base, .int .i64 x.p.log.term, .slice ad3.e x.p.log.es.length ad3.ce, .slice ad3.o x.p.cf.old.length ad3.co, .slice ad3.n x.p.cf.new.length ad3.cn, .slice ad3.l x.p.cf.lrn.length ad3.cl, .slice ad3.s x.p.sn.length ad3.cs, .int .i64 x.a.x, .int .i64 x.a.p, .int .i64 x.a.r, .int .i64 x.a.b, .int .i64 x.a.v] = w7 at *
  have HE : Hid (w7.heap[b1]? = some (.cells #[.int .i64 x.k, .int .i64 x.g, .int .i64 x.t, .int .i64 x.v, .int .i64 x.f, .int .i64 x.p.log.base, .int .i64 x.p.log.term, .slice ad3.e x.p.log.es.length ad3.ce, .slice ad3.o x.p.cf.old.length ad3.co, .slice ad3.n x.p.cf.new.length ad3.cn, .slice ad3.l x.p.cf.lrn.length ad3.cl, .slice ad3.s x.p.sn.length ad3.cs, .int .i64 x.a.x, .int .i64 x.a.p, .int .i64 x.a.r, .int .i64 x.a.b, .int .i64 x.a.v] 62 (0, 0)) ∧ OwnPt w7 w.heap.size w7.heap.size x.p ad3 ∧ Below w.heap.size w w7) := hid (by
    obtain ⟨g1, g2, g3⟩ := H4.out.2.2.2.2.2.2.1
    obtain ⟨o0, o1, o2⟩ := H4.out.2.2.2.2.2.2.2
    have q1 := H2.out.2.2.2.2.2.1.size
    have q2 := H2.out.2.2.2.2.1.size
    have q3 := H4.out.2.2.2.2.1.size
    have q4 := H4.out.2.2.2.1.size
    have q5 := hb5.size
    have q6 := hT6.size
    have q7 := hT7.size
    have T57 : Turned (fun k => k = b0 ∨ k = b1) w5 w7 := (hT6.mono (fun k hk => .inl hk)).trans (hT7.mono (fun k hk => .inr hk))
    have T47 : Turned (fun k => k = b0 ∨ k = b1) w4 w7 := (Turned.ofBelow _ hb5).trans T57
    have T37 : Turned (fun k => k = b0 ∨ k = b1) w3 w7 := (H4.out.2.2.2.1.mono (fun k hk => .inl hk)).trans T47
    have T27 : Turned (fun k => k = b0 ∨ k = b1) w2 w7 := (Turned.ofBelow _ H4.out.2.2.2.2.1).trans T37
    have T17 : Turned (fun k => k = b0 ∨ k = b1) w1 w7 := (H2.out.2.2.2.2.1.mono (fun k hk => .inl hk)).trans T27
    have hno : ∀ k, wA.heap.size ≤ k → ¬ (k = b0 ∨ k = b1) := fun k hk e => by omega
    have ead : ad3.e = A5 ∧ ad3.ce = c5 ∧ ad3.o = B0 ∧ ad3.co = p0 ∧ ad3.n = B1 ∧ ad3.cn = p1 ∧ ad3.l = B2 ∧ ad3.cl = p2 ∧ ad3.s = A9 ∧ ad3.cs = c9' := by
      rw [had3, H4.out.2.2.2.2.2.1, H2.out.2.2.2.2.2.2]; exact ⟨rfl, rfl, rfl, rfl, rfl, rfl, rfl, rfl, rfl, rfl⟩
    obtain ⟨f1, f2, f3, f4, f5, f6, f7, f8, f9, f10⟩ := ead
    refine ⟨r7, ⟨w1.heap.size, m1, m2, w3.heap.size, ⟨by omega, by omega, g2, g3, by omega⟩, ?_, ?_, ?_, ?_, ?_, HP.out.1.num⟩, ?_⟩
    · rw [f1, f2]
      exact (H2.out.2.2.2.1.keep T17 (fun k hk hBl => hno k hBl.1 hk)).wide (by omega) (Nat.le_refl _)
    · rw [f3, f4]
      exact ⟨(ownsI_turned o0.1 T37 (fun k hk => hno k (by have := (o0.1.blkLt k hk).1; omega))).weaken (by omega), o0.2⟩
    · rw [f5, f6]
      exact ⟨ownsI_turned o1.1 T37 (fun k hk => hno k (by have := (o1.1.blkLt k hk).1; omega)), o1.2⟩
    · rw [f7, f8]
      exact ⟨ownsI_turned o2 T37 (fun k hk => hno k (by have := (o2.blkLt k hk).1; omega)), fun k hk => (o2.blkLt k hk).2⟩
    · rw [f9, f10]
      exact ⟨(ho5.turned T57 (fun k hk => hno k (by have := (ho5.blkLt k hk).1; omega))).weaken (by omega), fun k hk => by have := (ho5.blkLt k hk).2; omega⟩
    · have hbel5 : Below w.heap.size w w5 := H4.out.2.2.1.trans (hb5.mono H4.out.2.2.1.size)
      exact hbel5.trans (T57.below hbel5.size (fun k hk => by omega)))
  clear hr05 hr15 hr06 hT6 hr16 r7 hT7 ho5 hb5 had3 hst3' c9
  go_wp2_with fail
  refine bodyPost_ret (results_cell_row rfl _ _ b1 _ _ _ _ rfl HE.out.1 Tryz.underlying62 rfl (by rw [info_change]; rfl)) rfl ?_
  exact ⟨ad3, rfl, HE.out.2⟩
end Go.Proofs.YtaeoccpjdjafnaaGreat.Im
namespace Go.Proofs.YtaeoccpjdjafnaaGreat.Im
open Go Go.RowKit
open Rl (En Lg)
open Qu (Cf)
set_option maxRecDepth 100000
set_option linter.unusedVariables false
local instance lo15 : Lo := ⟨0⟩
attribute [local go_sem ↓] loadAt_vote storeAt_vote loadAt_hard storeAt_hard loadAt_change storeAt_change
def PtIn (w : World) (B N : Nat) (p : Pt) (a : Ad) : Prop := OwnE w B N a.e a.ce p.log.es ∧ (OwnsI 3 w B a.o a.co p.cf.old ∧ ∀ k, blk a.o = some k → k < N) ∧ (OwnsI 3 w B a.n a.cn p.cf.new ∧ ∀ k, blk a.n = some k → k < N) ∧ (OwnsI 3 w B a.l a.cl p.cf.lrn ∧ ∀ k, blk a.l = some k → k < N) ∧ (OwnsB 5 w B a.s a.cs p.sn ∧ ∀ k, blk a.s = some k → k < N) ∧ (InInt p.log.base ∧ InInt p.log.term)
theorem OwnPt.ptIn {w : World} {B N : Nat} {p : Pt} {a : Ad} (h : OwnPt w B N p a) : PtIn w B N p a := by
  obtain ⟨m0, m1, m2, m3, ⟨c0, c1, c2, c3, c4⟩, h1, h2, h3, h4, h5, h6⟩ := h
  exact ⟨h1.wide (Nat.le_refl _) (by omega), ⟨h2.1.weaken c0, fun k hk => by have := h2.2 k hk; omega⟩, ⟨h3.1.weaken (by omega), fun k hk => by have := h3.2 k hk; omega⟩, ⟨h4.1.weaken (by omega), fun k hk => by have := h4.2 k hk; omega⟩, ⟨h5.1.weaken (by omega), h5.2⟩, h6⟩
namespace PtIn
variable {w w' : World} {B B' N N' : Nat} {p : Pt} {a : Ad}
theorem kp (h : PtIn w B N p a) (hk : Kp Parts w w') : PtIn w' B N p a := by
  obtain ⟨h1, h2, h3, h4, h5, h6⟩ := h
  exact ⟨hk.ownE (.inl rfl) (.inr (.inl rfl)) h1, ⟨hk.ownI (.inr (.inr rfl)) h2.1, h2.2⟩, ⟨hk.ownI (.inr (.inr rfl)) h3.1, h3.2⟩, ⟨hk.ownI (.inr (.inr rfl)) h4.1, h4.2⟩, ⟨hk.ownB (.inr (.inl rfl)) h5.1, h5.2⟩, h6⟩
theorem wide (h : PtIn w B N p a) (hB : B' ≤ B) (hN : N ≤ N') : PtIn w B' N' p a := by
  obtain ⟨h1, h2, h3, h4, h5, h6⟩ := h
  exact ⟨h1.wide hB hN, ⟨h2.1.weaken hB, fun k hk => by have := h2.2 k hk; omega⟩, ⟨h3.1.weaken hB, fun k hk => by have := h3.2 k hk; omega⟩, ⟨h4.1.weaken hB, fun k hk => by have := h4.2 k hk; omega⟩, ⟨h5.1.weaken hB, fun k hk => by have := h5.2 k hk; omega⟩, h6⟩
theorem keep {S : Nat → Prop} (h : PtIn w B N p a) (ht : Turned S w w') (hs : ∀ k, S k → ¬ Bl B N k) : PtIn w' B N p a := by
  obtain ⟨h1, h2, h3, h4, h5, h6⟩ := h
  have kB : ∀ {A : Option Addr}, (∀ k, blk A = some k → B ≤ k) → (∀ k, blk A = some k → k < N) → ∀ k, blk A = some k → ¬ S k := fun h3 h4 k hk hS => hs k hS ⟨h3 k hk, h4 k hk⟩
  exact ⟨h1.keep ht hs, ⟨ownsI_turned h2.1 ht (kB (fun k hk => (h2.1.blkLt k hk).1) h2.2), h2.2⟩, ⟨ownsI_turned h3.1 ht (kB (fun k hk => (h3.1.blkLt k hk).1) h3.2), h3.2⟩, ⟨ownsI_turned h4.1 ht (kB (fun k hk => (h4.1.blkLt k hk).1) h4.2), h4.2⟩, ⟨h5.1.turned ht (kB (fun k hk => (h5.1.blkLt k hk).1) h5.2), h5.2⟩, h6⟩
theorem below (h : PtIn w B N p a) (hb : Below N w w') : PtIn w' B N p a :=
  h.keep (S := fun k => N ≤ k) ⟨hb.os, hb.tape, hb.output, hb.size, fun k _ hn => hb.block k (by omega)⟩ (fun k hk hB => by have := hB.2; omega)
theorem reads (h : PtIn w B N p a) : IsPt w N p a := by
  obtain ⟨h1, h2, h3, h4, h5, h6⟩ := h
  exact ⟨h1.reads, isInts_lower h2.1.reads h2.2, isInts_lower h3.1.reads h3.2, isInts_lower h4.1.reads h4.2, isBytes_lower h5.1.reads h5.2, ⟨h1.room, h1.none_⟩, ownsI_room h2.1, ownsI_room h3.1, ownsI_room h4.1, ownsB_room h5.1, h6⟩
end PtIn
/-- a list of these, with all their parts -/
structure InHs (w : World) (B N : Nat) (A : Option Addr) (c : Nat) (M : List Hq) : Prop where
  row : RowIn cellsH 10 75 w (Bl B N) A c M
  pts : ∀ q ∈ M, PtIn w B N q.h.p q.a
  num : ∀ q ∈ M, InInt q.h.g ∧ InInt q.h.t ∧ InInt q.h.v
namespace InHs
variable {w w' : World} {B B' N N' : Nat} {A : Option Addr} {c : Nat} {M : List Hq}
theorem nil (w : World) (B N : Nat) : InHs w B N none 0 [] := ⟨RowIn.nil cellsH_fits _ _ _, by simp, by simp⟩
theorem keep {S : Nat → Prop} (h : InHs w B N A c M) (ht : Turned S w w') (hs : ∀ k, S k → ¬ Bl B N k) : InHs w' B N A c M := ⟨h.row.keep ht (fun k hk hS => hs k hS (h.row.blk k hk)), fun q hq => (h.pts q hq).keep ht hs, h.num⟩
theorem below (h : InHs w B N A c M) (hb : Below N w w') : InHs w' B N A c M :=
  h.keep (S := fun k => N ≤ k) ⟨hb.os, hb.tape, hb.output, hb.size, fun k _ hn => hb.block k (by omega)⟩ (fun k hk hB => by have := hB.2; omega)
theorem wide (h : InHs w B N A c M) (hB : B' ≤ B) (hN : N ≤ N') : InHs w B' N' A c M := ⟨h.row.mono (fun k hk => ⟨Nat.le_trans hB (h.row.blk k hk).1, Nat.lt_of_lt_of_le (h.row.blk k hk).2 hN⟩), fun q hq => (h.pts q hq).wide hB hN, h.num⟩
theorem reads (h : InHs w B N A c M) : IsHds w N A M := by
  refine ⟨⟨fun k hk => ?_⟩, fun q hq => (h.pts q hq).reads, h.num⟩
  obtain ⟨g, hA, hg, hF, hc, _⟩ := h.row.get k hk
  refine ⟨g, 0, hA, hF.2, fun i hi j v hv => ?_⟩
  obtain ⟨g', hA', _, _, hc', _⟩ := h.row.get i hi
  obtain rfl : g = g' := by rw [hA] at hA'; injection hA' with e; injection e
  have hj : j < 10 := (List.getElem?_eq_some_iff.1 hv).1
  rw [Nat.zero_add, hc' j hj]; exact hv
/-- one more -/
theorem put {wr w4 w5 w6 : World} {n4 n5 c1 c6 : Nat} {A1 A6 : Option Addr} {L : List Hq} {x : Hq} (h : InHs wr B wr.heap.size A1 c1 L) (hB : B ≤ wr.heap.size) (hb4 : Below wr.heap.size wr w4) (ho : PtIn w4 wr.heap.size n4 x.h.p x.a) (hn4 : n4 ≤ w4.heap.size) (hn : InInt x.h.g ∧ InInt x.h.t ∧ InInt x.h.v)
    (hb5 : Below w4.heap.size w4 w5) (hrow5 : RowIn cellsH 10 75 w5 (Bl B wr.heap.size) A1 c1 L) (hn5 : w5.heap.size = n5) (hrow6 : RowIn cellsH 10 75 w6 (fun k => Bl B wr.heap.size k ∨ n5 ≤ k) A6 c6 (L ++ [x])) (hg6 : w5.grownBy w6 (Go.Proofs.YtaeoccpjdjafnaaGreat.blk A1)) :
    InHs w6 B w6.heap.size A6 c6 (L ++ [x]) := by
  have hw4 := hb4.size
  have hw5 := hb5.size
  have hw6 := hg6.size
  have kp56 : Kp Parts w5 w6 := by
    rcases hb : Go.Proofs.YtaeoccpjdjafnaaGreat.blk A1 with _ | k
    · rw [hb] at hg6
      exact Kp.ofBelow (below_grown hg6 (Nat.le_refl _) (fun j e => by cases e))
    · rw [hb] at hg6
      obtain ⟨cur, hc⟩ := hrow5.tag hb
      exact Kp.ofGrown hc (by rintro (e | e | e) <;> exact absurd e (by decide)) hg6
  refine ⟨hrow6.mono (fun k hk => ⟨?_, hrow6.lt k hk⟩), fun q hq => ?_, fun q hq => ?_⟩
  · rcases hrow6.blk k hk with e | e
    · exact e.1
    · omega
  · rcases List.mem_append.1 hq with hq | hq
    · exact ((((h.pts q hq).kp (Kp.ofBelow hb4)).kp (Kp.ofBelow hb5)).kp kp56).wide (Nat.le_refl _) (by omega)
    · obtain rfl := List.mem_singleton.1 hq
      exact ((ho.kp (Kp.ofBelow hb5)).kp kp56).wide hB (by omega)
  · rcases List.mem_append.1 hq with hq | hq
    · exact h.num q hq
    · obtain rfl := List.mem_singleton.1 hq; exact hn
end InHs
/-- a list of these, with all their parts -/
structure InCs (w : World) (B N : Nat) (A : Option Addr) (c : Nat) (M : List Cq) : Prop where
  row : RowIn cellsC 17 62 w (Bl B N) A c M
  pts : ∀ q ∈ M, PtIn w B N q.c.p q.a
  num : ∀ q ∈ M, (InInt q.c.k ∧ InInt q.c.g ∧ InInt q.c.t ∧ InInt q.c.v ∧ InInt q.c.f) ∧ okV q.c.a
namespace InCs
variable {w w' : World} {B B' N N' : Nat} {A : Option Addr} {c : Nat} {M : List Cq}
theorem nil (w : World) (B N : Nat) : InCs w B N none 0 [] := ⟨RowIn.nil cellsC_fits _ _ _, by simp, by simp⟩
theorem keep {S : Nat → Prop} (h : InCs w B N A c M) (ht : Turned S w w') (hs : ∀ k, S k → ¬ Bl B N k) : InCs w' B N A c M := ⟨h.row.keep ht (fun k hk hS => hs k hS (h.row.blk k hk)), fun q hq => (h.pts q hq).keep ht hs, h.num⟩
theorem below (h : InCs w B N A c M) (hb : Below N w w') : InCs w' B N A c M :=
  h.keep (S := fun k => N ≤ k) ⟨hb.os, hb.tape, hb.output, hb.size, fun k _ hn => hb.block k (by omega)⟩ (fun k hk hB => by have := hB.2; omega)
theorem wide (h : InCs w B N A c M) (hB : B' ≤ B) (hN : N ≤ N') : InCs w B' N' A c M := ⟨h.row.mono (fun k hk => ⟨Nat.le_trans hB (h.row.blk k hk).1, Nat.lt_of_lt_of_le (h.row.blk k hk).2 hN⟩), fun q hq => (h.pts q hq).wide hB hN, h.num⟩
theorem reads (h : InCs w B N A c M) : IsCs w N A M := by
  refine ⟨⟨fun k hk => ?_⟩, fun q hq => (h.pts q hq).reads, h.num⟩
  obtain ⟨g, hA, hg, hF, hc, _⟩ := h.row.get k hk
  refine ⟨g, 0, hA, hF.2, fun i hi j v hv => ?_⟩
  obtain ⟨g', hA', _, _, hc', _⟩ := h.row.get i hi
  obtain rfl : g = g' := by rw [hA] at hA'; injection hA' with e; injection e
  have hj : j < 17 := (List.getElem?_eq_some_iff.1 hv).1
  rw [Nat.zero_add, hc' j hj]; exact hv
/-- one more -/
theorem put {wr w4 w5 w6 : World} {n4 n5 c1 c6 : Nat} {A1 A6 : Option Addr} {L : List Cq} {x : Cq} (h : InCs wr B wr.heap.size A1 c1 L) (hB : B ≤ wr.heap.size) (hb4 : Below wr.heap.size wr w4) (ho : PtIn w4 wr.heap.size n4 x.c.p x.a) (hn4 : n4 ≤ w4.heap.size) (hn : (InInt x.c.k ∧ InInt x.c.g ∧ InInt x.c.t ∧ InInt x.c.v ∧ InInt x.c.f) ∧ okV x.c.a)
    (hb5 : Below w4.heap.size w4 w5) (hrow5 : RowIn cellsC 17 62 w5 (Bl B wr.heap.size) A1 c1 L) (hn5 : w5.heap.size = n5) (hrow6 : RowIn cellsC 17 62 w6 (fun k => Bl B wr.heap.size k ∨ n5 ≤ k) A6 c6 (L ++ [x])) (hg6 : w5.grownBy w6 (Go.Proofs.YtaeoccpjdjafnaaGreat.blk A1)) :
    InCs w6 B w6.heap.size A6 c6 (L ++ [x]) := by
  have hw4 := hb4.size
  have hw5 := hb5.size
  have hw6 := hg6.size
  have kp56 : Kp Parts w5 w6 := by
    rcases hb : Go.Proofs.YtaeoccpjdjafnaaGreat.blk A1 with _ | k
    · rw [hb] at hg6
      exact Kp.ofBelow (below_grown hg6 (Nat.le_refl _) (fun j e => by cases e))
    · rw [hb] at hg6
      obtain ⟨cur, hc⟩ := hrow5.tag hb
      exact Kp.ofGrown hc (by rintro (e | e | e) <;> exact absurd e (by decide)) hg6
  refine ⟨hrow6.mono (fun k hk => ⟨?_, hrow6.lt k hk⟩), fun q hq => ?_, fun q hq => ?_⟩
  · rcases hrow6.blk k hk with e | e
    · exact e.1
    · omega
  · rcases List.mem_append.1 hq with hq | hq
    · exact ((((h.pts q hq).kp (Kp.ofBelow hb4)).kp (Kp.ofBelow hb5)).kp kp56).wide (Nat.le_refl _) (by omega)
    · obtain rfl := List.mem_singleton.1 hq
      exact ((ho.kp (Kp.ofBelow hb5)).kp kp56).wide hB (by omega)
  · rcases List.mem_append.1 hq with hq | hq
    · exact h.num q hq
    · obtain rfl := List.mem_singleton.1 hq; exact hn
end InCs
/-- votes that the call has made -/
def InVs (w : World) (B N : Nat) (A : Option Addr) (c : Nat) (L : List Vt) : Prop := RowIn cellsV 5 60 w (Bl B N) A c L ∧ ∀ v ∈ L, okV v
namespace InVs
variable {w w' : World} {B B' N N' : Nat} {A : Option Addr} {c : Nat} {L : List Vt}
theorem nil (w : World) (B N : Nat) : InVs w B N none 0 [] := ⟨RowIn.nil cellsV_fits _ _ _, by simp⟩
theorem keep {S : Nat → Prop} (h : InVs w B N A c L) (ht : Turned S w w') (hs : ∀ k, S k → ¬ Bl B N k) : InVs w' B N A c L := ⟨h.1.keep ht (fun k hk hS => hs k hS (h.1.blk k hk)), h.2⟩
theorem below (h : InVs w B N A c L) (hb : Below N w w') : InVs w' B N A c L :=
  h.keep (S := fun k => N ≤ k) ⟨hb.os, hb.tape, hb.output, hb.size, fun k _ hn => hb.block k (by omega)⟩ (fun k hk hB => by have := hB.2; omega)
theorem wide (h : InVs w B N A c L) (hB : B' ≤ B) (hN : N ≤ N') : InVs w B' N' A c L := ⟨h.1.mono (fun k hk => ⟨Nat.le_trans hB (h.1.blk k hk).1, Nat.lt_of_lt_of_le (h.1.blk k hk).2 hN⟩), h.2⟩
theorem reads (h : InVs w B N A c L) : IsVs w N A L := by
  refine ⟨⟨fun k hk => ?_⟩, h.2⟩
  obtain ⟨g, hA, hg, hF, hc, _⟩ := h.1.get k hk
  refine ⟨g, 0, hA, hF.2, fun i hi j v hv => ?_⟩
  obtain ⟨g', hA', _, _, hc', _⟩ := h.1.get i hi
  obtain rfl : g = g' := by rw [hA] at hA'; injection hA' with e; injection e
  have hj : j < 5 := (List.getElem?_eq_some_iff.1 hv).1
  rw [Nat.zero_add, hc' j hj]; exact hv
end InVs
set_option maxHeartbeats 1600000 in
theorem copyVs_any (A : Option Addr) (c n : Nat) (L : List Vt) (hn : L.length = n) (hl : n ≤ 100000) (w : World) (h : IsVs w w.heap.size A L) :
    Calls Tryz.prog 48 #[.slice A n c] w fun e w' => ∃ A' c', e = .returned (.slice A' n c') ∧ InVs w' w.heap.size w'.heap.size A' c' L ∧ Below w.heap.size w w' := by
  subst hn
  obtain ⟨i0, hi, hz0, hz1, hz2⟩ := info_parts info_vote3
  have HH := hid h
  have HLN := hid hl
  clear h
  go_enter Tryz.func48, Tryz.ntmps48
  go_wp2_with fail
  go_loopw [3, 4] (fun o i wr => ∃ (k q : Nat) (A1 : Option Addr) (c1 : Nat), k ≤ L.length ∧ o = .slice A1 q c1 ∧ i = .int .i64 k ∧ Hid (q = (L.take k).length ∧ q = k ∧ InVs wr w.heap.size wr.heap.size A1 c1 (L.take k) ∧ Below w.heap.size w wr)) (fun _ i _ => L.length - (RowKit.intOf i).toNat)
  case atStart => exact ⟨0, 0, none, 0, by omega, rfl, rfl, hid ⟨by simp, rfl, InVs.nil _ _ _, Below.refl _ _⟩⟩
  case round =>
    obtain ⟨k, q, A1, c1, hk, rfl, rfl, HI⟩ := hrel
    by_cases hlt : k < L.length
    · obtain ⟨b, off, rfl, hbl, hc⟩ := (HH.out.below HI.out.2.2.2).row.at_ k hlt
      obtain ⟨v, hv⟩ : ∃ v : Vt, v = L[k] := ⟨_, rfl⟩
      have hr0 := hc k hlt
      rw [← hv] at hr0
      have hok : okV v := by rw [hv]; exact HH.out.num _ (List.getElem_mem hlt)
      have HT := hid (show L.take (k + 1) = L.take k ++ [v] by rw [hv]; exact List.take_succ_eq_append_getElem hlt)
      have l0 : (ldX 60 (.pointer (some ⟨b, off + k * 5, none⟩))).run Tryz.prog wr = .ok (.agg #[.int .i64 v.x, .int .i64 v.p, .int .i64 v.r, .int .i64 v.b, .int .i64 v.v]) wr := ldV wr b (off + k * 5) (cellsV v) rfl hr0
      have hk0 : (k : Int) < (L.length : Int) := by omega
      have hb5 : Below wr.heap.size wr (wr.alloc (.cells #[.int .i64 v.x, .int .i64 v.p, .int .i64 v.r, .int .i64 v.b, .int .i64 v.v] 60)) := (Below.refl _ wr).alloc (Nat.le_refl _) _
      have hrow5 := HI.out.2.2.1.1.below hb5
      have hcells : ∀ j, j < 5 → (wr.alloc (.cells #[.int .i64 v.x, .int .i64 v.p, .int .i64 v.r, .int .i64 v.b, .int .i64 v.v] 60)).cell? ((⟨wr.heap.size, 0, none⟩ : Addr).add j) = (cellsV v)[j]? := fun j hj => by
        rw [add_off, Nat.zero_add, row_cell (heap_alloc_new wr _) j]; simp [cellsV]
      have hq1 : q + 1 ≤ 100001 := by have := HI.out.2.1; have := HLN.out; omega
      have HK := hid (And.intro hok (And.intro hb5 hq1))
      clear hc hr0 hv hbl hlt hok hb5 hq1
      go_wp2_with (at_builtin; refine wpList_append_rowM rfl _ _ 23 rfl i0 _ Tryz.underlying23 hi hz0 hz1 hz2 rfl (by decide) hrow5 q HI.out.1.symm rfl v ⟨wr.heap.size, 0, none⟩ 1 rfl hcells (cellsV_one v) (by have := HK.out.2.2; omega) (by have := HK.out.2.2; omega) ?_)
      intro A6 c6 w6 hrow6 hg6 hbl6
      have hbel : Below w.heap.size w w6 := (HI.out.2.2.2.trans (HK.out.2.1.mono HI.out.2.2.2.size)).grown hg6 (Nat.le_trans HI.out.2.2.2.size (by simp)) (fun k hk => (HI.out.2.2.1.1.blk k hk).1)
      have HI6 : Hid (q + 1 = (L.take (k + 1)).length ∧ q + 1 = k + 1 ∧ InVs w6 w.heap.size w6.heap.size A6 c6 (L.take (k + 1)) ∧ Below w.heap.size w w6) := hid ⟨by rw [HT.out, List.length_append, ← HI.out.1]; rfl, by rw [HI.out.2.1], by
        rw [HT.out]
        refine ⟨hrow6.mono (fun k hk => ⟨?_, hrow6.lt k hk⟩), fun x hx => ?_⟩
        · rcases hrow6.blk k hk with e | e
          · exact e.1
          · have := HI.out.2.2.2.size
            omega
        · rcases List.mem_append.1 hx with hx | hx
          · exact HI.out.2.2.1.2 x hx
          · rw [List.mem_singleton.1 hx]; exact HK.out.1, hbel⟩
      clear HI HT l0 hrow5 hcells HK hrow6 hg6 hbl6 hbel
      go_wp2_with fail
      go_roundw
      case rel => exact ⟨k + 1, q + 1, A6, c6, by omega, rfl, by go_num, HI6⟩
      case measure => simp [RowKit.intOf]; omega
    · obtain rfl : k = L.length := by omega
      have hk0 : ¬ (L.length : Int) < (L.length : Int) := by omega
      have HF := hid (And.intro HI.out.2.1 (And.intro HI.out.2.2.1 HI.out.2.2.2))
      rw [List.take_length] at HF
      clear hlt HI
      go_wp2_with fail
      go_ret
      exact ⟨A1, c1, by rw [HF.out.1]; rfl, HF.out.2⟩
set_option maxHeartbeats 1600000 in
theorem copyCs_any (A : Option Addr) (c n : Nat) (L : List Cq) (hn : L.length = n) (hl : n ≤ 100000) (hf : ∀ q ∈ L, (FewK q.c.p ∧ Rl.Few q.c.p.log.es) ∧ q.c.p.sn.length ≤ 140737488355328) (w : World) (h : IsCs w w.heap.size A L) :
    Calls Tryz.prog 41 #[.slice A n c] w fun e w' => ∃ A' c', e = .returned (.slice A' n c') ∧ (∃ M, M.map (·.c) = L.map (·.c) ∧ InCs w' w.heap.size w'.heap.size A' c' M) ∧ Below w.heap.size w w' := by
  subst hn
  obtain ⟨i0, hi, hz0, hz1, hz2⟩ := info_parts info_change3
  have HH := hid (And.intro h hf)
  have HLN := hid hl
  clear h hf
  go_enter Tryz.func41, Tryz.ntmps41
  go_wp2_with fail
  go_loopw [3, 4] (fun o i wr => ∃ (k q : Nat) (A1 : Option Addr) (c1 : Nat), k ≤ L.length ∧ o = .slice A1 q c1 ∧ i = .int .i64 k ∧ Hid (q = k ∧ (∃ M, M.length = k ∧ M.map (·.c) = (L.take k).map (·.c) ∧ InCs wr w.heap.size wr.heap.size A1 c1 M) ∧ Below w.heap.size w wr)) (fun _ i _ => L.length - (RowKit.intOf i).toNat)
  case atStart => exact ⟨0, 0, none, 0, by omega, rfl, rfl, hid ⟨rfl, ⟨[], rfl, by simp, InCs.nil _ _ _⟩, Below.refl _ _⟩⟩
  case round =>
    obtain ⟨k, q, A1, c1, hk, rfl, rfl, HI⟩ := hrel
    obtain ⟨hqk, ⟨M, hM1, hM2, hM3⟩, hbI⟩ := HI.out
    have HM := hid (And.intro hqk (And.intro hM1 (And.intro hM2 (And.intro hM3 hbI))))
    clear hqk hM1 hM2 hM3 hbI HI
    by_cases hlt : k < L.length
    · obtain ⟨b, off, rfl, hbl, hc⟩ := (HH.out.1.below HM.out.2.2.2.2).row.at_ k hlt
      obtain ⟨x, hx⟩ : ∃ x : Cq, x = L[k] := ⟨_, rfl⟩
      have hr0 := hc k hlt
      rw [← hx] at hr0
      have hxm : x ∈ L := by rw [hx]; exact List.getElem_mem hlt
      have HT := hid (show (L.take (k + 1)).map (·.c) = (L.take k).map (·.c) ++ [x.c] by rw [hx, List.take_succ_eq_append_getElem hlt, List.map_append]; rfl)
      obtain ⟨y, ay⟩ := x
      have l0 : (ldX 62 (.pointer (some ⟨b, off + k * 17, none⟩))).run Tryz.prog wr = .ok (.agg #[.int .i64 y.k, .int .i64 y.g, .int .i64 y.t, .int .i64 y.v, .int .i64 y.f, .int .i64 y.p.log.base, .int .i64 y.p.log.term, .slice ay.e y.p.log.es.length ay.ce, .slice ay.o y.p.cf.old.length ay.co, .slice ay.n y.p.cf.new.length ay.cn, .slice ay.l y.p.cf.lrn.length ay.cl, .slice ay.s y.p.sn.length ay.cs, .int .i64 y.a.x, .int .i64 y.a.p, .int .i64 y.a.r, .int .i64 y.a.b, .int .i64 y.a.v]) wr := ldC wr b (off + k * 17) (cellsC ⟨y, ay⟩) rfl hr0
      have hfx := HH.out.2 _ hxm
      have HC := hid (copyC_any y ay hfx.1 hfx.2 wr (((HH.out.1.below HM.out.2.2.2.2).pt _ hxm).more HM.out.2.2.2.2.size))
      have HNM := hid (HH.out.1.num _ hxm)
      have hk0 : (k : Int) < (L.length : Int) := by omega
      clear hc hr0 hx hbl hlt hxm hfx
      go_wp2_with fail
      refine HC.out.mono ?_
      rintro e w4 ⟨a', rfl, ho, hb4⟩
      have hb5 : Below w4.heap.size w4 (w4.alloc (.cells #[.int .i64 y.k, .int .i64 y.g, .int .i64 y.t, .int .i64 y.v, .int .i64 y.f, .int .i64 y.p.log.base, .int .i64 y.p.log.term, .slice a'.e y.p.log.es.length a'.ce, .slice a'.o y.p.cf.old.length a'.co, .slice a'.n y.p.cf.new.length a'.cn, .slice a'.l y.p.cf.lrn.length a'.cl, .slice a'.s y.p.sn.length a'.cs, .int .i64 y.a.x, .int .i64 y.a.p, .int .i64 y.a.r, .int .i64 y.a.b, .int .i64 y.a.v] 62)) := (Below.refl _ w4).alloc (Nat.le_refl _) _
      have hrow4 : RowIn cellsC 17 62 w4 (Bl w.heap.size wr.heap.size) A1 c1 M := HM.out.2.2.2.1.row.below hb4
      have hrow5 := hrow4.below hb5
      have hcells : ∀ j, j < 17 → (w4.alloc (.cells #[.int .i64 y.k, .int .i64 y.g, .int .i64 y.t, .int .i64 y.v, .int .i64 y.f, .int .i64 y.p.log.base, .int .i64 y.p.log.term, .slice a'.e y.p.log.es.length a'.ce, .slice a'.o y.p.cf.old.length a'.co, .slice a'.n y.p.cf.new.length a'.cn, .slice a'.l y.p.cf.lrn.length a'.cl, .slice a'.s y.p.sn.length a'.cs, .int .i64 y.a.x, .int .i64 y.a.p, .int .i64 y.a.r, .int .i64 y.a.b, .int .i64 y.a.v] 62)).cell? ((⟨w4.heap.size, 0, none⟩ : Addr).add j) = (cellsC ⟨y, a'⟩)[j]? := fun j hj => by
        rw [add_off, Nat.zero_add, row_cell (heap_alloc_new w4 _) j]; simp [cellsC]
      have hq1 : q + 1 ≤ 100001 := by have := HM.out.1; have := HLN.out; omega
      have hMq : M.length = q := by rw [HM.out.1]; exact HM.out.2.1
      have HK := hid (And.intro ho (And.intro hb4 (And.intro hb5 (And.intro hrow5 hq1))))
      clear ho hb4 hb5 hrow4 hq1 HC
      go_wp2_with (at_builtin; refine wpList_append_rowM rfl _ _ 45 rfl i0 _ Tryz.underlying45 hi hz0 hz1 hz2 rfl (by decide) hrow5 q hMq rfl ⟨y, a'⟩ ⟨w4.heap.size, 0, none⟩ 1 rfl hcells (cellsC_one _) (by have := HK.out.2.2.2.2; omega) (by have := HK.out.2.2.2.2; omega) ?_)
      intro A6 c6 w6 hrow6 hg6 hbl6
      have hwr : w.heap.size ≤ wr.heap.size := HM.out.2.2.2.2.size
      have hb5w : Below w.heap.size w (w4.alloc (.cells #[.int .i64 y.k, .int .i64 y.g, .int .i64 y.t, .int .i64 y.v, .int .i64 y.f, .int .i64 y.p.log.base, .int .i64 y.p.log.term, .slice a'.e y.p.log.es.length a'.ce, .slice a'.o y.p.cf.old.length a'.co, .slice a'.n y.p.cf.new.length a'.cn, .slice a'.l y.p.cf.lrn.length a'.cl, .slice a'.s y.p.sn.length a'.cs, .int .i64 y.a.x, .int .i64 y.a.p, .int .i64 y.a.r, .int .i64 y.a.b, .int .i64 y.a.v] 62)) := HM.out.2.2.2.2.trans ((HK.out.2.1.trans (HK.out.2.2.1.mono HK.out.2.1.size)).mono hwr)
      have hbel : Below w.heap.size w w6 := hb5w.grown hg6 hb5w.size (fun k hk => (HK.out.2.2.2.1.blk k hk).1)
      have HI6 : Hid (q + 1 = k + 1 ∧ (∃ M, M.length = k + 1 ∧ M.map (·.c) = (L.take (k + 1)).map (·.c) ∧ InCs w6 w.heap.size w6.heap.size A6 c6 M) ∧ Below w.heap.size w w6) := hid ⟨by rw [HM.out.1], ⟨M ++ [⟨y, a'⟩], by rw [List.length_append, HM.out.2.1]; rfl, by rw [List.map_append, HM.out.2.2.1, HT.out]; rfl, HM.out.2.2.2.1.put hwr HK.out.2.1 HK.out.1.ptIn (Nat.le_refl _) HNM.out HK.out.2.2.1 HK.out.2.2.2.1 (n5 := w4.heap.size + 1) (World.size_alloc _ _) hrow6 hg6⟩, hbel⟩
      clear HM HT l0 hrow5 hcells HK hrow6 hg6 hbl6 hbel hb5w hMq HNM hwr
      go_wp2_with fail
      go_roundw
      case rel => exact ⟨k + 1, q + 1, A6, c6, by omega, rfl, by go_num, HI6⟩
      case measure => simp [RowKit.intOf]; omega
    · obtain rfl : k = L.length := by omega
      have hk0 : ¬ (L.length : Int) < (L.length : Int) := by omega
      clear hlt
      go_wp2_with fail
      go_ret
      refine ⟨A1, c1, by rw [HM.out.1]; rfl, ⟨M, ?_, HM.out.2.2.2.1⟩, HM.out.2.2.2.2⟩
      have := HM.out.2.2.1
      rwa [List.take_length] at this
end Go.Proofs.YtaeoccpjdjafnaaGreat.Im
namespace Go.Proofs.YtaeoccpjdjafnaaGreat.Im
open Go Go.RowKit
open Rl (En Lg)
open Qu (Cf)
set_option maxRecDepth 100000
set_option linter.unusedVariables false
local instance lo16 : Lo := ⟨0⟩
attribute [local go_sem ↓] loadAt_hard storeAt_hard loadAt_image storeAt_image
/-- an image that the call has made -/
structure InIm (w : World) (B N : Nat) (i : Ia) (Q : List Hq) (L : List Vt) : Prop where
  h : InHs w B N i.h i.ch Q
  v : InVs w B N i.v i.cv L
namespace InIm
variable {w w' : World} {B B' N N' : Nat} {i : Ia} {Q : List Hq} {L : List Vt}
theorem keep {S : Nat → Prop} (h : InIm w B N i Q L) (ht : Turned S w w') (hs : ∀ k, S k → ¬ Bl B N k) : InIm w' B N i Q L := ⟨h.h.keep ht hs, h.v.keep ht hs⟩
theorem below (h : InIm w B N i Q L) (hb : Below N w w') : InIm w' B N i Q L := ⟨h.h.below hb, h.v.below hb⟩
theorem wide (h : InIm w B N i Q L) (hB : B' ≤ B) (hN : N ≤ N') : InIm w B' N' i Q L := ⟨h.h.wide hB hN, h.v.wide hB hN⟩
end InIm
theorem row_frz {w : World} {b : Nat} {vs : Array Value} {t : TypeId} (h : w.heap[b]? = some (.cells vs t (0, 0))) (k : Nat) : w.frozen? ⟨b, k, none⟩ = false := by simp [World.frozen?, h]
theorem row2_set {W : World} {B : Nat} {t : TypeId} {u v : Value} (x : Value) (h : W.heap[B]? = some (.cells #[u, v] t (0, 0))) : (W.setCell ⟨B, 0, none⟩ x).heap[B]? = some (.cells #[x, v] t (0, 0)) := by
  obtain ⟨hlt, hk⟩ := Array.getElem?_eq_some_iff.1 h
  show (W.heap.modify B _)[B]? = _
  rw [Array.getElem?_eq_getElem (by rw [Array.size_modify]; exact hlt), Array.getElem_modify_self, hk]
  rfl
theorem size_setCell' (w : World) (a : Addr) (v : Value) : (w.setCell a v).heap.size = w.heap.size := by simp [World.setCell]
def opL5 : Op := Op.load 22 (.tmp 16)
/-- what is known amid the loop -/
structure Ci (w w2 : World) (b0 b1 b2 : Nat) (i : Ia) (nh nv : Nat) (L : List Vt) (Av : Option Addr) (cv : Nat) (k : Nat) (A1 : Option Addr) (c1 : Nat) (hs : List Hd) (M : List Hq) (wr : World) : Prop where
  bel : Below b0 w wr
  size : w2.heap.size ≤ wr.heap.size
  r0 : wr.heap[b0]? = some (.cells #[.slice i.h nh i.ch, .slice i.v nv i.cv] 25 (0, 0))
  r1 : wr.heap[b1]? = some (.cells #[.slice none 0 0, .slice none 0 0] 25 (0, 0))
  r2 : wr.heap[b2]? = some (.cells #[.slice A1 k c1, .slice Av nv cv] 25 (0, 0))
  vs : InVs wr (b1 + 1) b2 Av cv L
  len : M.length = k
  eq : M.map (·.h) = hs.take k
  hs : InHs wr w2.heap.size wr.heap.size A1 c1 M
set_option maxHeartbeats 6400000 in
theorem copyIm_any (i : Ia) (nh nv : Nat) (Q : List Hq) (L : List Vt) (hnh : Q.length = nh) (hnv : L.length = nv) (hlh : nh ≤ 10000) (hlv : nv ≤ 10000) (hf : ∀ q ∈ Q, (FewK q.h.p ∧ Rl.Few q.h.p.log.es) ∧ q.h.p.sn.length ≤ 140737488355328) (w : World) (h : IsHds w w.heap.size i.h Q) (hv : IsVs w w.heap.size i.v L) :
    Calls Tryz.prog 12 #[.agg #[.slice i.h nh i.ch, .slice i.v nv i.cv]] w fun e w' => ∃ j : Ia, e = .returned (.agg #[.slice j.h nh j.ch, .slice j.v nv j.cv]) ∧ (∃ M, M.map (·.h) = Q.map (·.h) ∧ InIm w' w.heap.size w'.heap.size j M L) ∧ Below w.heap.size w w' := by
  obtain ⟨i0, hi, hz0, hz1, hz2⟩ := info_parts info_hard3
  obtain ⟨wA, hwA⟩ : ∃ wA, wA = (w.alloc (.cells #[.slice i.h nh i.ch, .slice i.v nv i.cv] 25)).alloc (.cells #[.slice none 0 0, .slice none 0 0] 25) := ⟨_, rfl⟩
  have hr0 : wA.heap[w.heap.size]? = some (.cells #[.slice i.h nh i.ch, .slice i.v nv i.cv] 25 (0, 0)) := by rw [hwA]; exact at_old (at_new rfl)
  have hr1 : wA.heap[w.heap.size + 1]? = some (.cells #[.slice none 0 0, .slice none 0 0] 25 (0, 0)) := by rw [hwA]; exact at_new (World.size_alloc _ _).symm
  have hbA : Below w.heap.size w wA := by rw [hwA]; exact ((Below.refl _ w).alloc (Nat.le_refl _) _).alloc (by simp) _
  have hzA : wA.heap.size = w.heap.size + 2 := by rw [hwA]; simp
  have HV := hid (copyVs_any i.v i.cv nv L hnv (by omega) wA ((hv.below hbA).more hbA.size))
  have c1 : wA.cell? ⟨w.heap.size, 1, none⟩ = some (.slice i.v nv i.cv) := row_cell hr0 1
  have H0 := hid (And.intro hr0 (And.intro hr1 (And.intro hbA hzA)))
  have HX := hid (And.intro h (And.intro hnh hf))
  rw [hwA] at c1
  clear hr0 hr1 hbA hzA h hv hf hnh hnv
  go_enter Tryz.func12, Tryz.ntmps12
  go_wp2_with fail
  rw [← hwA]
  clear hwA c1
  refine HV.out.mono ?_
  rintro e w1 ⟨Av, cv, rfl, hvs, hb1⟩
  obtain ⟨w2, hw2⟩ : ∃ w2, w2 = w1.alloc (.cells #[.slice none 0 0, .slice Av nv cv] 25) := ⟨_, rfl⟩
  have hst2 := stNew w1 25 2 info_image2 #[.slice none 0 0, .slice none 0 0] #[.slice none 0 0, .slice Av nv cv] rfl rfl (by simp [Value.oneCell'])
  rw [← hw2] at hst2
  have hb2 : Below w1.heap.size w1 w2 := by rw [hw2]; exact (Below.refl _ _).alloc (Nat.le_refl _) _
  have hr2 : w2.heap[w1.heap.size]? = some (.cells #[.slice none 0 0, .slice Av nv cv] 25 (0, 0)) := by rw [hw2]; exact heap_alloc_new _ _
  have hz2 : w2.heap.size = w1.heap.size + 1 := by rw [hw2]; simp
  have HC : Hid (Ci w w2 w.heap.size (w.heap.size + 1) w1.heap.size i nh nv L Av cv 0 none 0 (Q.map (·.h)) [] w2) := hid (by
    have hz1 := hb1.size
    have hzA := H0.out.2.2.2
    have hb12 : Below wA.heap.size wA w2 := hb1.trans (hb2.mono hz1)
    exact ⟨H0.out.2.2.1.trans (hb12.mono (by omega)), Nat.le_refl _, (hb12.block _ (row_lt H0.out.1)).trans H0.out.1, (hb12.block _ (row_lt H0.out.2.1)).trans H0.out.2.1, hr2, (hvs.below hb2).wide (by omega) (Nat.le_refl _), rfl, by simp, InHs.nil _ _ _⟩)
  have HZ : Hid (w.heap.size + 1 < w1.heap.size ∧ w1.heap.size < w2.heap.size) := hid (by
    have hz1 := hb1.size
    have hzA := H0.out.2.2.2
    exact ⟨by omega, by omega⟩)
  obtain ⟨b0, hb0⟩ : ∃ b, b = w.heap.size := ⟨_, rfl⟩
  obtain ⟨b1, hb1'⟩ : ∃ b, b = w.heap.size + 1 := ⟨_, rfl⟩
  obtain ⟨b2, hb2'⟩ : ∃ b, b = w1.heap.size := ⟨_, rfl⟩
  rw [← hb1', ← hb0, ← hb2'] at HC
  rw [← hb1', ← hb2'] at HZ
  have HB := hid (And.intro hb0 hb1')
  clear H0 HV hvs hb1 hb2 hr2 hz2 hw2
  go_wp2_with fail
  rw [← hb1', ← hb0, ← hb2']
  clear hb0 hb1' hb2' hst2
  go_loopw [4] (fun j wr => ∃ k : Nat, k ≤ nh ∧ j = .int .i64 (k : Int) ∧ Hid (∃ A1 c1 M, Ci w w2 b0 b1 b2 i nh nv L Av cv k A1 c1 (Q.map (·.h)) M wr)) (fun j _ => nh - (RowKit.intOf j).toNat)
  case atStart => exact ⟨0, Nat.zero_le _, rfl, hid ⟨_, _, _, HC.out⟩⟩
  case round =>
    obtain ⟨k, hk, rfl, HI0⟩ := hrel
    obtain ⟨A1, c1, M, hI⟩ := HI0.out
    have HI := hid hI
    have r00 := row_cell hI.r0 0
    clear hI HI0 HC
    by_cases hlt : k < nh
    · have hlt0 : (k : Int) < (nh : Int) := by omega
      have hlt1 : k < Q.length := by rw [HX.out.2.1]; exact hlt
      have hI := HI.out
      have hbw : Below w.heap.size w wr := by have := hI.bel; rw [HB.out.1] at this; exact this
      obtain ⟨g, off, hA, hg, hcs⟩ := (HX.out.1.below hbw).row.at_ k hlt1
      obtain ⟨q, hq⟩ : ∃ q, q = Q[k] := ⟨_, rfl⟩
      have hr := hcs k hlt1
      have hqm : q ∈ Q := by rw [hq]; exact List.getElem_mem hlt1
      have hth : (Q.map (·.h)).take (k + 1) = (Q.map (·.h)).take k ++ [q.h] := by
        rw [List.take_succ_eq_append_getElem (by simpa using hlt1), hq]; simp
      rw [← hq] at hr
      obtain ⟨y, ay⟩ := q
      have hgw : g < wr.heap.size := by have := hbw.size; omega
      have hfx := HX.out.2.2 _ hqm
      have HCH := hid (copyH_any y ay hfx.1 hfx.2 wr.drew (((HX.out.1.below hbw).pt _ hqm).below (Below.refl _ wr).drew |>.more hbw.size))
      have hgB : g < b0 := by rw [HB.out.1]; exact hg
      have h02 : b0 < b2 := by have := HZ.out.1; rw [HB.out.1]; have := HB.out.2; omega
      have SF : Hid (∀ W, Turned (fun k => b2 ≤ k) wr W → W.cell? ⟨b0, 0, none⟩ = some (.slice (some ⟨g, off, none⟩) nh i.ch) ∧ (ldX 75 (.pointer (some ⟨g, off + k * 10, none⟩))).run Tryz.prog W = .ok (.agg #[.int .i64 y.g, .int .i64 y.t, .int .i64 y.v, .int .i64 y.p.log.base, .int .i64 y.p.log.term, .slice ay.e y.p.log.es.length ay.ce, .slice ay.o y.p.cf.old.length ay.co, .slice ay.n y.p.cf.new.length ay.cn, .slice ay.l y.p.cf.lrn.length ay.cl, .slice ay.s y.p.sn.length ay.cs]) W) := hid (fun W hb => ⟨by rw [← hA]; exact row_cell ((hb.block _ (row_lt hI.r0) (by omega)).trans hI.r0) 0, ldH W g (off + k * 10) (cellsH ⟨y, ay⟩) rfl (fun j v hv => (hb.cell (p := ⟨g, off + k * 10 + j, none⟩) hgw (by show ¬ b2 ≤ g; omega)).trans (hr j v hv))⟩)
      have SG : Hid (∀ W, Turned (fun k => w2.heap.size ≤ k) wr W → W.heap[b2]? = some (.cells #[.slice A1 k c1, .slice Av nv cv] 25 (0, 0))) := hid (fun W hb => (hb.block _ (row_lt hI.r2) (by have := HZ.out.2; omega)).trans hI.r2)
      have HNM := hid (HX.out.1.num _ hqm)
      have HT := hid hth
      have HG := hid (And.intro hgw hbw)
      have s0 := SF.out wr (Turned.refl _ _)
      have s1 := SF.out wr.drew (Turned.refl _ _).drew
      have f1 := row_cell (SG.out wr.drew (Turned.refl _ _).drew) 0
      rw [hA] at r00
      have HGB := hid (And.intro hgB h02)
      clear hcs hr hq hqm hth hgw hfx hI hbw hg hA hgB h02 hlt
      go_wp2_with fail
      have hopL : opL5 = Op.load 22 (.tmp 16) := rfl
      rw [← hopL]
      go_region_held3 (fun W => W.cell? ⟨b0, 0, none⟩ = some (.slice (some ⟨g, off, none⟩) nh i.ch) ∧ (ldX 75 (.pointer (some ⟨g, off + k * 10, none⟩))).run Tryz.prog W = .ok (.agg #[.int .i64 y.g, .int .i64 y.t, .int .i64 y.v, .int .i64 y.p.log.base, .int .i64 y.p.log.term, .slice ay.e y.p.log.es.length ay.ce, .slice ay.o y.p.cf.old.length ay.co, .slice ay.n y.p.cf.new.length ay.cn, .slice ay.l y.p.cf.lrn.length ay.cl, .slice ay.s y.p.sn.length ay.cs]) W)
        (first | with_reducible exact s7 _ | with_reducible exact s6 | with_reducible exact s5 | with_reducible exact s4 | with_reducible exact s1 | with_reducible exact s0 | fail)
        (first
          | (go_at_call 49; refine HCH.out.mono ?_; rintro e w4 ⟨a', rfl, ho, hb4⟩; have hb4' : Below wr.heap.size wr w4 := (Below.refl _ wr).drew.trans hb4; have HB4 := hid (And.intro hb4' ho); have t4 : ∀ (S : Nat → Prop), Turned S wr w4 := fun S => Turned.ofBelow S hb4'; have T5 := hid (fun (S : Nat → Prop) => (t4 S).alloc (.cells #[.int .i64 y.g, .int .i64 y.t, .int .i64 y.v, .int .i64 y.p.log.base, .int .i64 y.p.log.term, .slice a'.e y.p.log.es.length a'.ce, .slice a'.o y.p.cf.old.length a'.co, .slice a'.n y.p.cf.new.length a'.cn, .slice a'.l y.p.cf.lrn.length a'.cl, .slice a'.s y.p.sn.length a'.cs] 75)); have s4 := SF.out w4 (t4 _); have f4 := row_cell (SG.out w4 (t4 _)) 0; have s5 := SF.out _ (T5.out _); have f5 := row_cell (SG.out _ (T5.out _)) 0; clear hb4 hb4' ho t4)
          | (refine step_append_row (by rfl) _ _ 22 (by rfl) i0 _ Tryz.underlying22 hi hz0 hz1 hz2 (by rfl) (by decide) ((HI.out.hs.row.below HB4.out.1).below ((Below.refl _ w4).alloc (Nat.le_refl _) (.cells #[.int .i64 y.g, .int .i64 y.t, .int .i64 y.v, .int .i64 y.p.log.base, .int .i64 y.p.log.term, .slice a'.e y.p.log.es.length a'.ce, .slice a'.o y.p.cf.old.length a'.co, .slice a'.n y.p.cf.new.length a'.cn, .slice a'.l y.p.cf.lrn.length a'.cl, .slice a'.s y.p.sn.length a'.cs] 75))) k HI.out.len rfl ⟨y, a'⟩ ⟨w4.heap.size, 0, none⟩ 1 (by rfl) (fun j hj => by rw [add_off, Nat.zero_add, row_cell (heap_alloc_new w4 _) j]; simp [cellsH]) (cellsH_one _) (by omega) (by omega) ?_; intro A6 c6 w6 hrow6 hg6 hbl6; have T6 : Turned (fun k => w2.heap.size ≤ k) wr w6 := (T5.out _).trans (Turned.ofGrown hg6 (fun k hk => (HI.out.hs.row.blk k hk).1)); have HR6 := hid (And.intro hrow6 (And.intro hg6 T6)); have s6 := SF.out w6 (T6.mono (fun k (hk : w2.heap.size ≤ k) => show b2 ≤ k by have := HZ.out.2; omega)); have f6 := row_cell (SG.out w6 T6) 0; have z6 := row_frz (SG.out w6 T6) 0; have s7 := fun (v : Value) => SF.out (w6.setCell ⟨b2, 0, none⟩ v) ((T6.mono (fun k (hk : w2.heap.size ≤ k) => show b2 ≤ k by have := HZ.out.2; omega)).setCell b2 0 v (fun _ => Nat.le_refl _)); clear hrow6 hg6 hbl6 T6)
          | fail)
      all_goals
        (obtain ⟨hrow6, hg6, T6⟩ := HR6.out
         obtain ⟨w7, hw7⟩ : ∃ w7, w7 = w6.setCell ⟨b2, 0, none⟩ (.slice A6 (k + 1) c6) := ⟨_, rfl⟩
         rw [← hw7]
         have HI7 : Hid (∃ A1 c1 M, Ci w w2 b0 b1 b2 i nh nv L Av cv (k + 1) A1 c1 (Q.map (·.h)) M w7) := hid ⟨A6, c6, M ++ [⟨y, a'⟩], by
           obtain ⟨hz1, hz2⟩ := HZ.out
           obtain ⟨hgb, h02⟩ := HGB.out
           have hI := HI.out
           have t6 : Turned (fun k => b2 ≤ k) wr w6 := T6.mono (fun k (hk : w2.heap.size ≤ k) => show b2 ≤ k by omega)
           have t7 : Turned (fun k => b2 ≤ k) wr w7 := by rw [hw7]; exact t6.setCell b2 0 _ (fun _ => Nat.le_refl _)
           have l0 := row_lt hI.r0
           have hb5 : Below w4.heap.size w4 (w4.alloc (.cells #[.int .i64 y.g, .int .i64 y.t, .int .i64 y.v, .int .i64 y.p.log.base, .int .i64 y.p.log.term, .slice a'.e y.p.log.es.length a'.ce, .slice a'.o y.p.cf.old.length a'.co, .slice a'.n y.p.cf.new.length a'.cn, .slice a'.l y.p.cf.lrn.length a'.cl, .slice a'.s y.p.sn.length a'.cs] 75)) := (Below.refl _ w4).alloc (Nat.le_refl _) _
           have hp := hI.hs.put (x := ⟨y, a'⟩) hI.size HB4.out.1 (OwnPt.ptIn (show OwnPt w4 wr.heap.size w4.heap.size y.p a' from HB4.out.2)) (Nat.le_refl _) HNM.out hb5 ((hI.hs.row.below HB4.out.1).below hb5) rfl hrow6 hg6
           refine ⟨hI.bel.trans (t7.below (by omega) (fun k hk => by omega)), Nat.le_trans hI.size t7.size, (t7.block _ l0 (by omega)).trans hI.r0, (t7.block _ (row_lt hI.r1) (by omega)).trans hI.r1, by rw [hw7]; exact row2_set _ (SG.out w6 T6), hI.vs.keep t7 (fun j hj hB => by have := hB.2; omega), by simp [hI.len], by rw [List.map_append, hI.eq, HT.out]; rfl, ?_⟩
           rw [hw7, size_setCell']
           exact hp.keep (Turned.one w6 b2 0 _) (fun j hj hB => by have := hB.1; omega)⟩
         clear HI SF SG HCH HB4 T5 HR6 s6 f6 z6 s7 hrow6 hg6 T6 s0 s1 s4 s5 f1 f4 f5 r00 HT HNM HG HGB hw7
         go_wp2_with fail
         go_roundw)
      all_goals first | exact ⟨k + 1, by omega, by go_num, HI7⟩ | (simp [RowKit.intOf]; omega)
    · obtain rfl : k = nh := by omega
      have hk0 : ¬ (k : Int) < (k : Int) := by omega
      have ld := ldRow info_image2 Tryz.underlying25 rfl HI.out.r2 rfl
      have st := stThere info_image2 wr b1 #[.slice A1 k c1, .slice Av nv cv] (show wr.there b1 0 2 from there_row HI.out.r1) rfl (by simp [Value.oneCell'])
      have HR := hid (setCells_all HI.out.r1 [.slice A1 k c1, .slice Av nv cv] rfl)
      have HF : Hid ((∃ M, M.map (·.h) = Q.map (·.h) ∧ InIm (wr.setCells b1 0 [.slice A1 k c1, .slice Av nv cv]) w.heap.size (wr.setCells b1 0 [.slice A1 k c1, .slice Av nv cv]).heap.size ⟨A1, c1, Av, cv⟩ M L) ∧ Below w.heap.size w (wr.setCells b1 0 [.slice A1 k c1, .slice Av nv cv])) := hid (by
        have hT := turned_setCells b1 [.slice A1 k c1, .slice Av nv cv] wr 0
        obtain ⟨hz1, hz2⟩ := HZ.out
        obtain ⟨hB0, hB1⟩ := HB.out
        have hI := HI.out
        have hs := hI.size
        have hzt := hT.size
        refine ⟨⟨M, ?_, ⟨(hI.hs.keep hT (fun j hj hB => by have := hB.1; omega)).wide (by have := hI.bel.size; omega) hzt, (hI.vs.keep hT (fun j hj hB => by have := hB.1; omega)).wide (by omega) (by omega)⟩⟩, ?_⟩
        · rw [hI.eq, ← HX.out.2.1]
          exact List.take_of_length_le (by simp)
        · have := hI.bel
          rw [hB0] at this
          exact this.trans (hT.below this.size (fun k hk => by omega)))
      clear hlt HI HZ HB HX
      go_wp2_with fail
      refine bodyPost_ret (results_cell_row rfl _ _ b1 _ _ _ _ rfl HR.out Tryz.underlying25 rfl (by rw [info_image2]; rfl)) rfl ?_
      exact ⟨⟨A1, c1, Av, cv⟩, rfl, HF.out⟩
end Go.Proofs.YtaeoccpjdjafnaaGreat.Im
namespace Go.Proofs.YtaeoccpjdjafnaaGreat
open Go.RowKit
set_option maxRecDepth 100000

theorem u64_wrap (v : Int) : IntKind.u64.wrap v = v % 18446744073709551616 := by simp [IntKind.wrap, IntKind.signed, IntKind.bits]
/-- the lowest k bytes of a number, from below -/
def lows (v : Int) (k : Nat) : List Nat := (List.range k).map (Pk.byteOf v)
theorem lows_length (v : Int) (k : Nat) : (lows v k).length = k := by simp [lows]
theorem lows_snoc (v : Int) (k : Nat) : lows v (k + 1) = lows v k ++ [Pk.byteOf v k] := by unfold lows; rw [List.range_succ, List.map_append]; rfl
theorem lows_get (v : Int) (k i : Nat) (h : i < (lows v k).length) : (lows v k)[i] = Pk.byteOf v i := by simp [lows]
theorem low_byte (v : Int) (k : Nat) (h : k < 8) : (v % 18446744073709551616) / 2 ^ (8 * k) % 256 = (Pk.byteOf v k : Nat) := by
  rw [byteOf_val]
  match k, h with
  | 0, _ => simp only [Nat.reduceMul, Int.reducePow]; omega
  | 1, _ => simp only [Nat.reduceMul, Int.reducePow]; omega
  | 2, _ => simp only [Nat.reduceMul, Int.reducePow]; omega
  | 3, _ => simp only [Nat.reduceMul, Int.reducePow]; omega
  | 4, _ => simp only [Nat.reduceMul, Int.reducePow]; omega
  | 5, _ => simp only [Nat.reduceMul, Int.reducePow]; omega
  | 6, _ => simp only [Nat.reduceMul, Int.reducePow]; omega
  | 7, _ => simp only [Nat.reduceMul, Int.reducePow]; omega

set_option maxRecDepth 100000 in
set_option maxHeartbeats 800000 in
theorem refInt_any (B : Nat) (A : Option Addr) (c : Nat) (l : List Nat) (v : Int) (hv : InInt v) (hl : l.length ≤ 140737488354000) (w : World) (h : IsBytes w B A l) (hB : B ≤ w.heap.size) :
    Calls Tryz.prog 55 #[.slice A l.length c, .int .i64 v] w fun e w' => ∃ A' c', e = .returned (.slice A' (l.length + 8) c') ∧ OwnsB 5 w' w.heap.size A' c' (l ++ Pk.enc v) ∧ Below w.heap.size w w' := by
  obtain ⟨i0, hi, hz0, hz1, hz2⟩ := info_parts info_u8
  have hv1 := hv.1
  have hv2 := hv.2
  clear hv
  go_enter Tryz.func55, Tryz.ntmps55
  go_wp2
  go_loopw [5, 6, 7] (fun lo u i wr => ∃ k n : Nat, ∃ A1 : Option Addr, ∃ c1 : Nat, k ≤ 8 ∧ i = .int .i64 k ∧ u = .int .u64 (n : Int) ∧ n < 18446744073709551616 ∧ lo = .slice A1 k c1 ∧ OwnsB 5 wr w.heap.size A1 c1 (lows v k) ∧ Below w.heap.size w wr ∧ Hid ((n : Int) = (v % 18446744073709551616) / 2 ^ (8 * k))) (fun _ _ i _ => 8 - (RowKit.intOf i).toNat)
  case atStart =>
    refine ⟨0, (v % 18446744073709551616).toNat, none, 0, by omega, rfl, ?_, by omega, rfl, OwnsB.nil _ _ _, Below.refl _ _, ?_⟩
    · rw [u64_wrap]; go_num
    · show _ = _
      simp; omega
  case round =>
    obtain ⟨k, n, A1, c1, hk, rfl, rfl, hn, rfl, hown, hbel, hu⟩ := hrel
    by_cases hlt : k < 8
    · have hx : ((n : Int) % 256) = (Pk.byteOf v k : Nat) := by rw [hu.out]; exact low_byte v k hlt
      have HX := hid hx
      have hb8 := Pk.byteOf_lt v k
      clear hx
      go_wp2_with (at_builtin; refine wpList_append_byteN rfl _ _ 35 rfl w.heap.size 5 i0 Tryz.underlying35 hi hz0 hz1 hz2 A1 c1 (lows v k) k (lows_length v k) rfl (hown.alloc _) ⟨wr.heap.size, 0, none⟩ 1 (Pk.byteOf v k) _ HX.out hb8 rfl ?c1 (lows v (k + 1)) (lows_snoc v k).symm (by omega) ?c2 ?_)
      case c1 => simp
      case c2 => have := hbel.size; simp; omega
      intro A2 c2 w1 hown2 hb1
      have hb2 : Below w.heap.size w w1 := (hbel.alloc hbel.size _).trans hb1
      clear hb1 hown hbel
      go_wp2
      go_roundw
      case rel => exact ⟨k + 1, n / 256, A2, c2, by omega, by go_num, by go_num, by omega, rfl, hown2, hb2, by
        have e := hu.out
        show _ = _
        rw [Pk.ediv_pow, ← e]; omega⟩
      case measure => simp [RowKit.intOf]; omega
    · have HK8 : Hid (k = 8) := show k = 8 by omega
      obtain ⟨k8, rfl⟩ : ∃ k8 : Nat, k8 = k := ⟨_, rfl⟩
      clear hu hn
      go_wp2
      clear hlt hk
      have hreads := hown.reads
      have HBEL := hid hbel
      have hsz := hbel.size
      clear hown hbel
      obtain ⟨wm, rfl⟩ : ∃ wm : World, wm = wr := ⟨_, rfl⟩
      go_loopw [8, 9] (fun b i wr => ∃ k : Nat, ∃ A3 : Option Addr, ∃ c3 : Nat, k ≤ l.length ∧ i = .int .i64 k ∧ b = .slice A3 k c3 ∧ OwnsB 5 wr wm.heap.size A3 c3 (l.take k) ∧ Below wm.heap.size wm wr) (fun _ i _ => l.length - (RowKit.intOf i).toNat)
      case atStart => exact ⟨0, none, 0, by omega, rfl, rfl, OwnsB.nil _ _ _, Below.refl _ _⟩
      case round =>
        obtain ⟨k, A3, c3, hk, rfl, rfl, hown, hbel⟩ := hrel
        have hlk : (l.take k).length = k := by rw [List.length_take]; omega
        have HLK := hid hlk
        clear hlk
        by_cases hlt : k < l.length
        · have h1 := ((h.more hB).below (HBEL.out.trans (hbel.mono hsz)))
          obtain ⟨b, off, rfl, _, hc⟩ := h1.cells k hlt
          have hck := hc k hlt
          have hb8 := h.small l[k] (List.getElem_mem _)
          clear hc h1
          go_wp2_with (at_builtin; refine wpList_append_byteN rfl _ _ 35 rfl wm.heap.size 5 i0 Tryz.underlying35 hi hz0 hz1 hz2 A3 c3 (l.take k) k HLK.out rfl (hown.alloc _) ⟨wr.heap.size, 0, none⟩ 1 l[k] _ rfl hb8 rfl ?c3 (l.take (k + 1)) (List.take_succ_eq_append_getElem hlt).symm (by omega) ?c4 ?_)
          case c3 => simp
          case c4 => have := hbel.size; simp; omega
          intro A4 c4 w1 hown2 hb1
          have hb2 : Below wm.heap.size wm w1 := (hbel.alloc hbel.size _).trans hb1
          clear hb1 hown hbel hck
          go_wp2
          go_roundw
          case rel => exact ⟨k + 1, A4, c4, by omega, by go_num, rfl, hown2, hb2⟩
          case measure => simp [RowKit.intOf]; omega
        · obtain rfl : k = l.length := by omega
          rw [List.take_length] at hown
          clear HLK hlt hk
          go_wp2
          go_loopw [8, 10] (fun b i wr => ∃ k : Nat, ∃ A4 : Option Addr, ∃ c4 : Nat, k ≤ 8 ∧ i = .int .i64 (7 - (k : Int)) ∧ b = .slice A4 (l.length + k) c4 ∧ OwnsB 5 wr wm.heap.size A4 c4 (l ++ (Pk.enc v).take k) ∧ Below wm.heap.size wm wr) (fun _ i _ => (RowKit.intOf i + 1).toNat)
          case atStart => exact ⟨0, A3, c3, by omega, rfl, rfl, by simpa using hown, hbel⟩
          case round =>
            clear hown hbel
            obtain ⟨k, A4, c4, hk, rfl, rfl, hown, hbel⟩ := hrel
            have hlen : (l ++ (Pk.enc v).take k).length = l.length + k := by rw [List.length_append, List.length_take, Pk.enc_length]; omega
            have HL := hid hlen
            clear hlen
            by_cases hlt : k < 8
            · obtain ⟨m, hm⟩ : ∃ m : Nat, 7 - (k : Int) = (m : Int) := ⟨7 - k, by omega⟩
              have HM := hid hm
              rw [hm]
              have hm0 : m < 8 := by omega
              have hme : 7 - k = m := by omega
              have HME := hid hme
              clear hm hme
              obtain ⟨b, off, rfl, _, hc⟩ := (hreads.below hbel).cells m (by rw [lows_length, HK8.out]; exact hm0)
              have hck := hc m (by rw [lows_length, HK8.out]; exact hm0)
              rw [lows_get] at hck
              have hb8 := Pk.byteOf_lt v m
              clear hc
              go_wp2_with (at_builtin; refine wpList_append_byteN rfl _ _ 35 rfl wm.heap.size 5 i0 Tryz.underlying35 hi hz0 hz1 hz2 A4 c4 (l ++ (Pk.enc v).take k) (l.length + k) HL.out rfl (hown.alloc _) ⟨wr.heap.size, 0, none⟩ 1 (Pk.byteOf v m) _ rfl hb8 rfl ?c5 (l ++ (Pk.enc v).take (k + 1)) (by rw [enc_take v k hlt, HME.out, ← List.append_assoc]) (by omega) ?c6 ?_)
              case c5 => simp
              case c6 => have := hbel.size; simp; omega
              intro A5 c5 w1 hown2 hb1
              have hb2 : Below wm.heap.size wm w1 := (hbel.alloc hbel.size _).trans hb1
              have HO : Hid (OwnsB 5 w1 wm.heap.size A5 c5 (l ++ (Pk.enc v).take (k + 1))) := hown2
              clear hb1 hown hbel hck hown2
              go_wp2
              go_roundw
              case rel => exact ⟨k + 1, A5, c5, by omega, by rw [← HM.out]; go_num, rfl, HO.out, hb2⟩
              case measure => simp [RowKit.intOf] <;> omega
            · obtain rfl : k = 8 := by omega
              have HO : Hid (OwnsB 5 wr w.heap.size A4 c4 (l ++ Pk.enc v)) := by
                show OwnsB _ _ _ _ _ _
                exact hown.weaken hsz
              have HB : Hid (Below w.heap.size w wr) := HBEL.out.trans (hbel.mono hsz)
              clear hown hbel hreads
              go_wp2
              go_ret
              exact ⟨A4, c4, rfl, HO.out, HB.out⟩
end Go.Proofs.YtaeoccpjdjafnaaGreat
namespace Go.Proofs.YtaeoccpjdjafnaaGreat
open Go.RowKit

set_option maxHeartbeats 800000 in
theorem refBlob_any (B : Nat) (A : Option Addr) (c : Nat) (l : List Nat) (B' : Nat) (A' : Option Addr) (c' : Nat) (m : List Nat) (hl : l.length + m.length ≤ 140737488354000) (w : World) (h : IsBytes w B A l) (hB : B ≤ w.heap.size)
    (h' : IsBytes w B' A' m) (hB' : B' ≤ w.heap.size) :
    Calls Tryz.prog 56 #[.slice A l.length c, .slice A' m.length c'] w fun e w' => ∃ A2 c2, e = .returned (.slice A2 (l.length + 8 + m.length) c2) ∧ OwnsB 5 w' w.heap.size A2 c2 (l ++ (Pk.enc m.length ++ m)) ∧ Below w.heap.size w w' := by
  obtain ⟨i0, hi, hz0, hz1, hz2⟩ := info_parts info_u8
  go_enter Tryz.func56, Tryz.ntmps56
  go_wp2_with fail
  refine (refInt_any B A c l (m.length : Int) (by unfold InInt; omega) (by omega) _ h hB).mono ?_
  rintro e w1 ⟨A1, c1, rfl, hown, hbel⟩
  go_wp2_with fail
  go_loopw [5, 6] (fun b i wr => ∃ k : Nat, ∃ A3 : Option Addr, ∃ c3 : Nat, k ≤ m.length ∧ i = .int .i64 k ∧ b = .slice A3 (l.length + 8 + k) c3 ∧ OwnsB 5 wr w.heap.size A3 c3 (l ++ (Pk.enc m.length ++ m.take k)) ∧ Below w.heap.size w wr) (fun _ i _ => m.length - (RowKit.intOf i).toNat)
  case atStart => exact ⟨0, A1, c1, by omega, rfl, rfl, by simpa using hown, hbel⟩
  case round =>
    clear hown hbel
    obtain ⟨k, A3, c3, hk, rfl, rfl, hown, hbel⟩ := hrel
    by_cases hlt : k < m.length
    · have h1 := (h'.more hB').below hbel
      obtain ⟨b, off, rfl, _, hc⟩ := h1.cells k hlt
      have hck := hc k hlt
      have hb8 := h1.small m[k] (List.getElem_mem _)
      clear hc h1
      go_wp2_with (at_builtin; refine wpList_append_byteN rfl _ _ 35 rfl w.heap.size 5 i0 Tryz.underlying35 hi hz0 hz1 hz2 A3 c3 (l ++ (Pk.enc m.length ++ m.take k)) (l.length + 8 + k) ?c0 rfl (hown.alloc _) ⟨wr.heap.size, 0, none⟩ 1 m[k] _ rfl hb8 rfl ?c1 (l ++ (Pk.enc m.length ++ m.take (k + 1))) (by rw [List.append_assoc, List.append_assoc, List.take_succ_eq_append_getElem hlt]) (by omega) ?c2 ?_)
      case c0 => rw [List.length_append, List.length_append, Pk.enc_length, List.length_take]; omega
      case c1 => simp
      case c2 => have := hbel.size; simp; omega
      intro A4 c4 w2 hown2 hb1
      have HO := hid (And.intro hown2 ((hbel.alloc hbel.size _).trans hb1))
      clear hb1 hown hbel hck hown2
      go_wp2
      go_roundw
      case rel => exact ⟨k + 1, A4, c4, by omega, by go_num, rfl, HO.out.1, HO.out.2⟩
      case measure => simp [RowKit.intOf] <;> omega
    · obtain rfl : k = m.length := by omega
      rw [List.take_length] at hown
      clear hlt hk
      go_wp2
      go_ret
      exact ⟨A3, c3, rfl, hown, hbel⟩
end Go.Proofs.YtaeoccpjdjafnaaGreat
namespace Go.Proofs.YtaeoccpjdjafnaaGreat
open Go.RowKit
set_option maxRecDepth 100000

set_option maxHeartbeats 800000 in
theorem refInts_any (B : Nat) (A : Option Addr) (c : Nat) (l : List Nat) (B' : Nat) (A' : Option Addr) (c' : Nat) (m : List Int) (hl : l.length + 8 * m.length ≤ 140737488354000) (w : World) (h : IsBytes w B A l) (hB : B ≤ w.heap.size)
    (h' : IsInts w B' A' m) (hB' : B' ≤ w.heap.size) :
    Calls Tryz.prog 104 #[.slice A l.length c, .slice A' m.length c'] w fun e w' => ∃ A2 c2, e = .returned (.slice A2 (l.length + 8 + 8 * m.length) c2) ∧ OwnsB 5 w' w.heap.size A2 c2 (l ++ (Pk.enc m.length ++ Pk.encs m)) ∧ Below w.heap.size w w' := by
  obtain ⟨i0, hi, hz0, hz1, hz2⟩ := info_parts info_u8
  go_enter Tryz.func104, Tryz.ntmps104
  go_wp2_with fail
  refine (refInt_any B A c l (m.length : Int) (by unfold InInt; omega) (by omega) _ h hB).mono ?_
  rintro e w1 ⟨A1, c1, rfl, hown, hbel⟩
  go_wp2_with fail
  go_loopw [5, 6, 7, 8] (fun b i _ _ wr => ∃ k : Nat, ∃ A3 : Option Addr, ∃ c3 : Nat, k ≤ m.length ∧ i = .int .i64 k ∧ b = .slice A3 (l.length + 8 + 8 * k) c3 ∧ OwnsB 5 wr w.heap.size A3 c3 (l ++ (Pk.enc m.length ++ Pk.encs (m.take k))) ∧ Below w.heap.size w wr) (fun _ i _ _ _ => m.length - (RowKit.intOf i).toNat)
  case atStart => exact ⟨0, A1, c1, by omega, rfl, rfl, by simpa [Pk.encs] using hown, hbel⟩
  case round =>
    clear hown hbel
    obtain ⟨k, A3, c3, hk, rfl, rfl, hown, hbel⟩ := hrel
    by_cases hlt : k < m.length
    · have h1 := (h'.more hB').below hbel
      obtain ⟨b, off, rfl, _, hc⟩ := h1.cells k hlt
      have hck := hc k hlt
      have hv := h1.small m[k] (List.getElem_mem _)
      clear hc h1
      obtain ⟨wo, rfl⟩ : ∃ wo : World, wo = wr := ⟨_, rfl⟩
      go_wp2_with fail
      refine (refInt_any 0 none 0 [] m[k] hv (by simp) _ IsBytes.nil (Nat.zero_le _)).mono ?_
      rintro e w2 ⟨A4, c4, rfl, hown4, hbel4⟩
      simp only [List.length_nil, Nat.zero_add, List.nil_append] at hown4 ⊢
      have hown' := hown.below hbel4
      have hb2 : Below w.heap.size w w2 := hbel.trans (hbel4.mono hbel.size)
      have hsz := hb2.size
      have hlt3 : ∀ g, blk A3 = some g → g < wo.heap.size := fun g hg => (hown.rowLt g (by rw [ownBlock_slice]; exact hg)).2
      obtain ⟨g4, rfl, hg4, hg4', _, _⟩ := hown4.at_ (k := 0) (by rw [Pk.enc_length]; omega)
      have hne : blk A3 ≠ some g4 := fun e => by have := hlt3 g4 e; omega
      have hcells : ∀ j, (hj : j < 8) → w2.cell? ⟨g4, j, none⟩ = some (.int .u8 ((Pk.enc m[k])[j]'hj : Nat)) := fun j hj => by
        obtain ⟨g, e, _, _, h1, _⟩ := hown4.at_ (k := j) hj
        injection e with e; injection e with e; subst e; exact h1
      have HC := hid hcells
      clear hck hown hown4 hbel4 hcells hlt3
      go_wp2_with fail
      go_loopw [5, 8] (fun b i wr => ∃ j : Nat, ∃ A5 : Option Addr, ∃ c5 : Nat, j ≤ 8 ∧ i = .int .i64 j ∧ b = .slice A5 (l.length + 8 + 8 * k + j) c5 ∧ OwnsB 5 wr w.heap.size A5 c5 (l ++ (Pk.enc m.length ++ (Pk.encs (m.take k) ++ (Pk.enc m[k]).take j))) ∧ Hid (wr.heap[g4]? = w2.heap[g4]?) ∧ blk A5 ≠ some g4 ∧ Below w.heap.size w wr ∧ w2.heap.size ≤ wr.heap.size) (fun _ i _ => 8 - (RowKit.intOf i).toNat)
      case atStart => exact ⟨0, A3, c3, by omega, rfl, rfl, by simpa using hown', hid rfl, hne, hb2, Nat.le_refl _⟩
      case round =>
        clear hown' hb2 hne hbel
        obtain ⟨j, A5, c5, hj, rfl, rfl, hown, hsame, hne, hbel, hsz2⟩ := hrel
        by_cases hltj : j < 8
        · have hck : wr.cell? ⟨g4, j, none⟩ = some (.int .u8 ((Pk.enc m[k])[j]'hltj : Nat)) := (World.cell?_of_block (w := w2) hsame.out).trans (HC.out j hltj)
          have hb8 := Pk.enc_small m[k] _ (List.getElem_mem (h := (show j < (Pk.enc m[k]).length from hltj)))
          go_wp2_with (at_builtin; refine wpList_append_byteAt rfl _ _ 35 rfl w.heap.size 5 i0 Tryz.underlying35 hi hz0 hz1 hz2 A5 c5 (l ++ (Pk.enc m.length ++ (Pk.encs (m.take k) ++ (Pk.enc m[k]).take j))) (l.length + 8 + 8 * k + j) ?d0 rfl (hown.alloc _) ⟨wr.heap.size, 0, none⟩ 1 ((Pk.enc m[k])[j]'hltj) _ rfl hb8 rfl ?d1 (l ++ (Pk.enc m.length ++ (Pk.encs (m.take k) ++ (Pk.enc m[k]).take (j + 1)))) ?d3 (by omega) ?d2 ?_)
          case d0 => simp only [List.length_append, Pk.enc_length, Pk.encs_length, List.length_take]; omega
          case d1 => simp
          case d2 => have := hbel.size; simp; omega
          case d3 => rw [List.append_assoc, List.append_assoc, List.append_assoc, List.take_succ_eq_append_getElem (show j < (Pk.enc m[k]).length from hltj)]; rfl
          intro A6 c6 w3 hown6 hb6 hg6 ha6
          have hne6 : blk A6 ≠ some g4 := by
            rcases ha6 with e | e
            · rw [e]; exact hne
            · rw [e]; intro e; injection e with e; (try simp at e); omega
          have hsame6 : Hid (w3.heap[g4]? = w2.heap[g4]?) := by
            show _ = _
            rw [hg6.block g4 (by simp; omega) (fun e => hne e.symm), ← hsame.out]
            exact Below.heap_alloc _ _ _ (by omega)
          have HO := hid (And.intro hown6 (And.intro hne6 (And.intro ((hbel.alloc hbel.size _).trans hb6) (show w2.heap.size ≤ w3.heap.size by have := hb6.size; simp at this; omega))))
          clear hown6 hb6 hg6 ha6 hne6 hne hown hbel hck
          go_wp2
          go_roundw
          case rel => exact ⟨j + 1, A6, c6, by omega, by go_num, rfl, HO.out.1, hsame6, HO.out.2.1, HO.out.2.2.1, HO.out.2.2.2⟩
          case measure => simp [RowKit.intOf] <;> omega
        · have HO : Hid (OwnsB 5 wr w.heap.size A5 c5 (l ++ (Pk.enc m.length ++ Pk.encs (m.take (k + 1))))) := by
            obtain rfl : j = 8 := by omega
            show OwnsB _ _ _ _ _ _
            rw [List.take_succ_eq_append_getElem hlt, Pk.encs_snoc]
            exact hown
          have HB := hid hbel
          have hj8 : l.length + 8 + 8 * k + j = l.length + 8 + 8 * (k + 1) := by omega
          have HJ := hid hj8
          clear hown hbel hsame hne hj8
          go_wp2
          go_roundw
          case rel => exact ⟨k + 1, A5, c5, by omega, by go_num, by rw [HJ.out], HO.out, HB.out⟩
          case measure => simp [RowKit.intOf] <;> omega
    · obtain rfl : k = m.length := by omega
      rw [List.take_length] at hown
      clear hlt hk
      go_wp2
      go_ret
      exact ⟨A3, c3, rfl, hown, hbel⟩
end Go.Proofs.YtaeoccpjdjafnaaGreat
namespace Go.Proofs.YtaeoccpjdjafnaaGreat.Im
open Go Go.RowKit
open Rl (En Lg)
open Qu (Cf)
open Pk (enc encs)
set_option maxRecDepth 100000
set_option linter.unusedVariables false
attribute [local go_sem ↓] loadAt_hard storeAt_hard loadAt_vote storeAt_vote loadAt_change storeAt_change
/-- bytes that lie somewhere, and a call that has left what there was -/
structure Rbs (w w' : World) (A : Option Addr) (l : List Nat) (q : Nat) : Prop where
  is : IsBytes w' w'.heap.size A l
  len : l.length = q
  bel : Below w.heap.size w w'
theorem Rbs.refl {w : World} {A : Option Addr} {l : List Nat} {q : Nat} (h : IsBytes w w.heap.size A l) (hl : l.length = q) : Rbs w w A l q := ⟨h, hl, Below.refl _ _⟩
theorem Rbs.then_ {a b c : World} {A A' : Option Addr} {l l' : List Nat} {q q' : Nat} (h : Rbs a b A l q) (h' : Rbs b c A' l' q') : Rbs a c A' l' q' := ⟨h'.is, h'.len, h.bel.trans (h'.bel.mono h.bel.size)⟩
theorem Rbs.from {a b c : World} {A : Option Addr} {l : List Nat} {q : Nat} (hb : Below a.heap.size a b) (h : Rbs b c A l q) : Rbs a c A l q := ⟨h.is, h.len, hb.trans (h.bel.mono hb.size)⟩
theorem Rbs.row {a b : World} {A : Option Addr} {l : List Nat} {q k : Nat} {o : Obj} (h : Rbs a b A l q) (hr : a.heap[k]? = some o) : b.heap[k]? = some o := (h.bel.block _ (Array.getElem?_eq_some_iff.1 hr).1).trans hr
theorem Rbs.drew {a b : World} {A : Option Addr} {l : List Nat} {q : Nat} (h : Rbs a b A l q) : Rbs a b.drew A l q := ⟨h.is.below (Below.refl _ b).drew, h.len, h.bel.drew⟩
def Rtold (w : World) (l : List Nat) (q : Nat) (e : Ending) (w' : World) : Prop := ∃ A' c', e = .returned (.slice A' q c') ∧ Rbs w w' A' l q
theorem rInt_any (A : Option Addr) (c : Nat) (l : List Nat) (q : Nat) (v : Int) (hv : InInt v) (hq : q ≤ 100000000000) (a w : World) (h : Rbs a w A l q) :
    Calls Tryz.prog 55 #[.slice A q c, .int .i64 v] w (Rtold w (l ++ enc v) (q + 8)) := by
  obtain ⟨h1, rfl, _⟩ := h
  refine (refInt_any w.heap.size A c l v hv (by omega) w h1 (Nat.le_refl _)).mono ?_
  rintro e w' ⟨A', c', rfl, ho, hb⟩
  exact ⟨A', c', rfl, ho.reads, by rw [List.length_append, Pk.enc_length], hb⟩
theorem rBlob_any (A : Option Addr) (c : Nat) (l : List Nat) (q : Nat) (B' : Nat) (A' : Option Addr) (c' : Nat) (m : List Nat) (k : Nat) (hm : m.length = k) (hk : k ≤ 100000000000) (hq : q ≤ 100000000000) (a w : World) (h : Rbs a w A l q) (h' : IsBytes w B' A' m) (hB' : B' ≤ w.heap.size) :
    Calls Tryz.prog 56 #[.slice A q c, .slice A' k c'] w (Rtold w (l ++ encB m) (q + 8 + k)) := by
  obtain ⟨h1, rfl, _⟩ := h
  subst hm
  refine (refBlob_any w.heap.size A c l B' A' c' m (by omega) w h1 (Nat.le_refl _) h' hB').mono ?_
  rintro e w' ⟨A', c', rfl, ho, hb⟩
  exact ⟨A', c', rfl, ho.reads, by unfold encB; rw [List.length_append, List.length_append, Pk.enc_length]; omega, hb⟩
theorem rInts_any (A : Option Addr) (c : Nat) (l : List Nat) (q : Nat) (B' : Nat) (A' : Option Addr) (c' : Nat) (m : List Int) (k : Nat) (hm : m.length = k) (hk : k ≤ 1000000) (hq : q ≤ 100000000000) (a w : World) (h : Rbs a w A l q) (h' : IsInts w B' A' m) (hB' : B' ≤ w.heap.size) :
    Calls Tryz.prog 104 #[.slice A q c, .slice A' k c'] w (Rtold w (l ++ encI m) (q + 8 + 8 * k)) := by
  obtain ⟨h1, rfl, _⟩ := h
  subst hm
  refine (refInts_any w.heap.size A c l B' A' c' m (by omega) w h1 (Nat.le_refl _) h' hB').mono ?_
  rintro e w' ⟨A', c', rfl, ho, hb⟩
  exact ⟨A', c', rfl, ho.reads, by unfold encI; rw [List.length_append, List.length_append, Pk.enc_length, Pk.encs_length]; omega, hb⟩
set_option maxHeartbeats 1600000 in
theorem rVote_any (A : Option Addr) (c : Nat) (l : List Nat) (q : Nat) (v : Vt) (hv : okV v) (hq : q ≤ 10000000000) (a w : World) (h : Rbs a w A l q) :
    Calls Tryz.prog 59 #[.slice A q c, .agg #[.int .i64 v.x, .int .i64 v.p, .int .i64 v.r, .int .i64 v.b, .int .i64 v.v]] w (Rtold w (l ++ encV v) (q + 40)) := by
  obtain ⟨w1, hw1⟩ : ∃ w1, w1 = w.alloc (.cells #[.int .i64 v.x, .int .i64 v.p, .int .i64 v.r, .int .i64 v.b, .int .i64 v.v] 60) := ⟨_, rfl⟩
  obtain ⟨b, hb⟩ : ∃ b, b = w.heap.size := ⟨_, rfl⟩
  have r1 : w1.heap[b]? = some (.cells #[.int .i64 v.x, .int .i64 v.p, .int .i64 v.r, .int .i64 v.b, .int .i64 v.v] 60 (0, 0)) := by rw [hw1, hb]; exact heap_alloc_new w _
  have b1 : Below w.heap.size w w1 := by rw [hw1]; exact (Below.refl _ w).alloc (Nat.le_refl _) _
  have B1 : Hid (Rbs w w1.drew A l q) := hid (Rbs.drew ⟨(h.is.below b1).more b1.size, h.len, b1⟩)
  have R1 := hid r1
  have CE : Hid (∀ W : World, W.heap[b]? = some (.cells #[.int .i64 v.x, .int .i64 v.p, .int .i64 v.r, .int .i64 v.b, .int .i64 v.v] 60 (0, 0)) → W.cell? ⟨b, 0, none⟩ = some (.int .i64 v.x) ∧ W.cell? ⟨b, 1, none⟩ = some (.int .i64 v.p) ∧ W.cell? ⟨b, 2, none⟩ = some (.int .i64 v.r) ∧ W.cell? ⟨b, 3, none⟩ = some (.int .i64 v.b) ∧ W.cell? ⟨b, 4, none⟩ = some (.int .i64 v.v)) := hid fun W hW => ⟨row_cell hW 0, row_cell hW 1, row_cell hW 2, row_cell hW 3, row_cell hW 4⟩
  have f0 := CE.out w1 r1
  have f1 := CE.out w1.drew r1
  have HV := hid hv
  clear h r1 b1 hv
  go_enter Tryz.func59, Tryz.ntmps59
  go_wp2_with fail
  rw [← hw1, ← hb]
  clear hw1 hb
  go_region_held3 (fun W => W.cell? ⟨b, 0, none⟩ = some (.int .i64 v.x) ∧ W.cell? ⟨b, 1, none⟩ = some (.int .i64 v.p) ∧ W.cell? ⟨b, 2, none⟩ = some (.int .i64 v.r) ∧ W.cell? ⟨b, 3, none⟩ = some (.int .i64 v.b) ∧ W.cell? ⟨b, 4, none⟩ = some (.int .i64 v.v))
    (first | with_reducible exact f3 | with_reducible exact f2 | with_reducible exact f1 | with_reducible exact f0 | fail)
    (first
      | (go_at_call 55; refine (rInt_any _ _ _ _ v.p HV.out.1.1.1.2 (by omega) _ _ H2.out).mono ?_; rintro e w3 ⟨A3, c3, rfl, hb3⟩; have R3 := hid (hb3.row R2.out); have H3 := hid (H2.out.then_ hb3); have f3 := CE.out _ R3.out; clear hb3)
      | (go_at_call 55; refine (rInt_any A c l q v.x HV.out.1.1.1.1 (by omega) w w1.drew B1.out).mono ?_; rintro e w2 ⟨A2, c2, rfl, hb2⟩; have R2 := hid (hb2.row R1.out); have H2 := hid (Rbs.then_ B1.out hb2); have f2 := CE.out _ R2.out; clear hb2)
      | fail)
  all_goals
    have H3d := hid H3.out.drew
    have f4 := CE.out w3.drew R3.out
    clear f0 f1 f2 H2 B1 R1 R2
    go_wp2_with fail
    go_region_held3 (fun W => W.cell? ⟨b, 0, none⟩ = some (.int .i64 v.x) ∧ W.cell? ⟨b, 1, none⟩ = some (.int .i64 v.p) ∧ W.cell? ⟨b, 2, none⟩ = some (.int .i64 v.r) ∧ W.cell? ⟨b, 3, none⟩ = some (.int .i64 v.b) ∧ W.cell? ⟨b, 4, none⟩ = some (.int .i64 v.v))
      (first | with_reducible exact f7 | with_reducible exact f6 | with_reducible exact f5 | with_reducible exact f4 | with_reducible exact f3 | fail)
      (first
        | (go_at_call 55; refine (rInt_any _ _ _ _ v.v HV.out.2 (by omega) _ _ H6.out).mono ?_; rintro e w7 ⟨A7, c7, rfl, hb7⟩; have H7 := hid (H6.out.then_ hb7); have f7 := CE.out _ (hb7.row R6.out); clear hb7)
        | (go_at_call 55; refine (rInt_any _ _ _ _ v.b HV.out.1.2 (by omega) _ _ H5.out).mono ?_; rintro e w6 ⟨A6, c6, rfl, hb6⟩; have R6 := hid (hb6.row R5.out); have H6 := hid (H5.out.then_ hb6); have f6 := CE.out _ R6.out; clear hb6)
        | (go_at_call 55; refine (rInt_any _ _ _ _ v.r HV.out.1.1.2 (by omega) _ _ H3d.out).mono ?_; rintro e w5 ⟨A5, c5, rfl, hb5⟩; have R5 := hid (hb5.row R3.out); have H5 := hid (H3d.out.then_ hb5); have f5 := CE.out _ R5.out; clear hb5)
        | fail)
  all_goals
    have HF : Hid (Rbs w w7 A7 (l ++ encV v) (q + 40)) := hid (by
      have h := H7.out
      have e : l ++ enc v.x ++ enc v.p ++ enc v.r ++ enc v.b ++ enc v.v = l ++ encV v := by unfold encV; simp [List.append_assoc]
      rw [e] at h
      exact h)
    clear f3 f4 f5 f6 f7 H3 H3d H5 H6 H7
    go_wp2_with fail
    go_ret
    exact ⟨A7, c7, ret_len (by omega), HF.out⟩
set_option maxHeartbeats 1600000 in
theorem rConf_any (A : Option Addr) (c : Nat) (l : List Nat) (q : Nat) (f : Cf) (a0 a1 a2 : Option Addr) (k0 k1 k2 n0 n1 n2 : Nat) (hn0 : f.old.length = n0) (hn1 : f.new.length = n1) (hn2 : f.lrn.length = n2) (hs : n0 ≤ 1000000 ∧ n1 ≤ 1000000 ∧ n2 ≤ 1000000) (hq : q ≤ 10000000000) (B' : Nat) (a w : World) (h : Rbs a w A l q) (hB' : B' ≤ w.heap.size) (h0 : IsInts w B' a0 f.old) (h1 : IsInts w B' a1 f.new) (h2 : IsInts w B' a2 f.lrn) :
    Calls Tryz.prog 57 #[.slice A q c, .agg #[.slice a0 n0 k0, .slice a1 n1 k1, .slice a2 n2 k2]] w (Rtold w (l ++ encCf f) (q + (8 + 8 * n0) + (8 + 8 * n1) + (8 + 8 * n2))) := by
  obtain ⟨w1, hw1⟩ : ∃ w1, w1 = w.alloc (.cells #[.slice a0 n0 k0, .slice a1 n1 k1, .slice a2 n2 k2] 28) := ⟨_, rfl⟩
  obtain ⟨b, hb⟩ : ∃ b, b = w.heap.size := ⟨_, rfl⟩
  have r1 : w1.heap[b]? = some (.cells #[.slice a0 n0 k0, .slice a1 n1 k1, .slice a2 n2 k2] 28 (0, 0)) := by rw [hw1, hb]; exact heap_alloc_new w _
  have b1 : Below w.heap.size w w1 := by rw [hw1]; exact (Below.refl _ w).alloc (Nat.le_refl _) _
  have B1 : Hid (Rbs w w1.drew A l q) := hid (Rbs.drew ⟨(h.is.below b1).more b1.size, h.len, b1⟩)
  have R1 := hid r1
  have CE : Hid (∀ W : World, W.heap[b]? = some (.cells #[.slice a0 n0 k0, .slice a1 n1 k1, .slice a2 n2 k2] 28 (0, 0)) → W.cell? ⟨b, 0, none⟩ = some (.slice a0 n0 k0) ∧ W.cell? ⟨b, 1, none⟩ = some (.slice a1 n1 k1) ∧ W.cell? ⟨b, 2, none⟩ = some (.slice a2 n2 k2)) := hid fun W hW => ⟨row_cell hW 0, row_cell hW 1, row_cell hW 2⟩
  have f0 := CE.out w1 r1
  have f1 := CE.out w1.drew r1
  have HI := hid (And.intro h0 (And.intro h1 (And.intro h2 hB')))
  have HN := hid (And.intro hn0 (And.intro hn1 (And.intro hn2 hs)))
  clear h r1 b1 h0 h1 h2 hB' hn0 hn1 hn2 hs
  go_enter Tryz.func57, Tryz.ntmps57
  go_wp2_with fail
  rw [← hw1, ← hb]
  clear hw1 hb
  go_region_held3 (fun W => W.cell? ⟨b, 0, none⟩ = some (.slice a0 n0 k0) ∧ W.cell? ⟨b, 1, none⟩ = some (.slice a1 n1 k1) ∧ W.cell? ⟨b, 2, none⟩ = some (.slice a2 n2 k2))
    (first | with_reducible exact f4 | with_reducible exact f3 | with_reducible exact f2 | with_reducible exact f1 | with_reducible exact f0 | fail)
    (first
      | (go_at_call 104; refine (rInts_any _ _ _ _ B' a2 k2 f.lrn n2 HN.out.2.2.1 HN.out.2.2.2.2.2 (by have := HN.out.2.2.2; omega) _ _ H3.out (HI.out.2.2.1.below (H3.out.bel.mono HI.out.2.2.2)) (Nat.le_trans HI.out.2.2.2 H3.out.bel.size)).mono ?_; rintro e w4 ⟨A4, c4, rfl, hb4⟩; have H4 := hid (H3.out.then_ hb4); have f4 := CE.out _ (hb4.row R3.out); clear hb4)
      | (go_at_call 104; refine (rInts_any _ _ _ _ B' a1 k1 f.new n1 HN.out.2.1 HN.out.2.2.2.2.1 (by have := HN.out.2.2.2; omega) _ _ H2.out (HI.out.2.1.below (H2.out.bel.mono HI.out.2.2.2)) (Nat.le_trans HI.out.2.2.2 H2.out.bel.size)).mono ?_; rintro e w3 ⟨A3, c3, rfl, hb3⟩; have R3 := hid (hb3.row R2.out); have H3 := hid (H2.out.then_ hb3); have f3 := CE.out _ R3.out; clear hb3)
      | (go_at_call 104; refine (rInts_any A c l q B' a0 k0 f.old n0 HN.out.1 HN.out.2.2.2.1 (by omega) w w1.drew B1.out (HI.out.1.below (B1.out.bel.mono HI.out.2.2.2)) (Nat.le_trans HI.out.2.2.2 B1.out.bel.size)).mono ?_; rintro e w2 ⟨A2, c2, rfl, hb2⟩; have R2 := hid (hb2.row R1.out); have H2 := hid (Rbs.then_ B1.out hb2); have f2 := CE.out _ R2.out; clear hb2)
      | fail)
  all_goals
    have HF : Hid (Rbs w w4 A4 (l ++ encCf f) (q + (8 + 8 * n0) + (8 + 8 * n1) + (8 + 8 * n2))) := hid (by
      have h := H4.out
      have e : l ++ encI f.old ++ encI f.new ++ encI f.lrn = l ++ encCf f := by unfold encCf; simp [List.append_assoc]
      rw [e] at h
      exact ⟨h.is, by have := h.len; omega, h.bel⟩)
    clear f0 f1 f2 f3 f4 H2 H3 H4
    go_wp2_with fail
    go_ret
    exact ⟨A4, c4, ret_len (by omega), HF.out⟩
set_option maxHeartbeats 3200000 in
theorem rLog_any (A : Option Addr) (c : Nat) (l : List Nat) (q : Nat) (g : Lg) (hg : InI g.base ∧ InI g.term) (n : Nat) (hn : g.es.length = n) (hnn : n ≤ 1000000) (hx : ∀ e ∈ g.es, e.d.length ≤ 1000000000) (hT : q + (24 + (g.es.flatMap encE).length) ≤ 10000000000) (B' : Nat) (Ae : Option Addr) (ce : Nat) (a w : World) (h : Rbs a w A l q) (hB' : B' ≤ w.heap.size) (he : IsEnts w B' Ae g.es)
    (q2 : Nat) (hq2 : q + (24 + (g.es.flatMap encE).length) = q2) :
    Calls Tryz.prog 58 #[.slice A q c, .agg #[.int .i64 g.base, .int .i64 g.term, .slice Ae n ce]] w (Rtold w (l ++ encLg g) q2) := by
  obtain ⟨w1, hw1⟩ : ∃ w1, w1 = w.alloc (.cells #[.int .i64 g.base, .int .i64 g.term, .slice Ae n ce] 58) := ⟨_, rfl⟩
  obtain ⟨b, hb⟩ : ∃ b, b = w.heap.size := ⟨_, rfl⟩
  have r1 : w1.heap[b]? = some (.cells #[.int .i64 g.base, .int .i64 g.term, .slice Ae n ce] 58 (0, 0)) := by rw [hw1, hb]; exact heap_alloc_new w _
  have b1 : Below w.heap.size w w1 := by rw [hw1]; exact (Below.refl _ w).alloc (Nat.le_refl _) _
  have B1 : Hid (Rbs w w1.drew A l q) := hid (Rbs.drew ⟨(h.is.below b1).more b1.size, h.len, b1⟩)
  have R1 := hid r1
  have CE : Hid (∀ W : World, W.heap[b]? = some (.cells #[.int .i64 g.base, .int .i64 g.term, .slice Ae n ce] 58 (0, 0)) → W.cell? ⟨b, 0, none⟩ = some (.int .i64 g.base) ∧ W.cell? ⟨b, 1, none⟩ = some (.int .i64 g.term) ∧ W.cell? ⟨b, 2, none⟩ = some (.slice Ae n ce)) := hid fun W hW => ⟨row_cell hW 0, row_cell hW 1, row_cell hW 2⟩
  have f0 := CE.out w1 r1
  have f1 := CE.out w1.drew r1
  have HI := hid (And.intro he hB')
  have HN := hid (And.intro hg (And.intro hn (And.intro hx (And.intro hT hq2))))
  have hqb : q ≤ 10000000000 := by omega
  clear h r1 b1 he hB' hg hn hx hT hq2
  go_enter Tryz.func58, Tryz.ntmps58
  go_wp2_with fail
  rw [← hw1, ← hb]
  clear hw1 hb
  go_region_held3 (fun W => W.cell? ⟨b, 0, none⟩ = some (.int .i64 g.base) ∧ W.cell? ⟨b, 1, none⟩ = some (.int .i64 g.term) ∧ W.cell? ⟨b, 2, none⟩ = some (.slice Ae n ce))
    (first | with_reducible exact f4 | with_reducible exact f3 | with_reducible exact f2 | with_reducible exact f1 | with_reducible exact f0 | fail)
    (first
      | (go_at_call 55; refine (rInt_any _ _ _ _ (n : Int) ⟨by omega, by omega⟩ (by omega) _ _ H3.out).mono ?_; rintro e w4 ⟨A4, c4, rfl, hb4⟩; have R4 := hid (hb4.row R3.out); have H4 := hid (H3.out.then_ hb4); have f4 := CE.out _ R4.out; clear hb4)
      | (go_at_call 55; refine (rInt_any _ _ _ _ g.term HN.out.1.2 (by omega) _ _ H2.out).mono ?_; rintro e w3 ⟨A3, c3, rfl, hb3⟩; have R3 := hid (hb3.row R2.out); have H3 := hid (H2.out.then_ hb3); have f3 := CE.out _ R3.out; clear hb3)
      | (go_at_call 55; refine (rInt_any A c l q g.base HN.out.1.1 (by omega) w w1.drew B1.out).mono ?_; rintro e w2 ⟨A2, c2, rfl, hb2⟩; have R2 := hid (hb2.row R1.out); have H2 := hid (Rbs.then_ B1.out hb2); have f2 := CE.out _ R2.out; clear hb2)
      | fail)
  all_goals
    have H4' : Hid (Rbs w w4 A4 ((l ++ enc g.base ++ enc g.term ++ enc (n : Int)) ++ flatTo encE g.es 0) (q + 8 + 8 + 8)) := hid (by
      have h := H4.out
      have e : (l ++ enc g.base ++ enc g.term ++ enc (n : Int)) ++ flatTo encE g.es 0 = l ++ enc g.base ++ enc g.term ++ enc (n : Int) := by unfold flatTo; simp
      rw [e]; exact h)
    have HL := hid (show (l ++ enc g.base ++ enc g.term ++ enc (n : Int)).length = q + 8 + 8 + 8 from H4.out.len)
    have g4 := f4.2.2
    clear f0 f1 f2 f3 f4 H2 H3 H4 R1 R2 R3 B1 g4
    go_wp2_with fail
    go_loopw [0, 5] (fun v i wr => ∃ (j : Nat) (A1 : Option Addr) (c1 q1 : Nat), j ≤ n ∧ v = .slice A1 q1 c1 ∧ i = .int .i64 (j : Int) ∧ Hid (Rbs w wr A1 ((l ++ enc g.base ++ enc g.term ++ enc (n : Int)) ++ flatTo encE g.es j) q1 ∧ wr.heap[b]? = some (.cells #[.int .i64 g.base, .int .i64 g.term, .slice Ae n ce] 58 (0, 0)))) (fun _ i _ => n - (RowKit.intOf i).toNat)
    case atStart => exact ⟨0, A4, c4, _, Nat.zero_le _, rfl, rfl, hid ⟨H4'.out, R4.out⟩⟩
    case round =>
      clear H4' R4
      obtain ⟨j, A1, c1, q1, hj, rfl, rfl, HQ⟩ := hrel
      have hq1 : q1 ≤ 10000000000 ∧ q1 = q + 8 + 8 + 8 + (flatTo encE g.es j).length := by
        have h1 := HQ.out.1.len
        have h2 := HL.out
        have h3 := flatTo_le encE g.es j
        have h4 := HN.out.2.2.2.1
        rw [List.length_append, h2] at h1
        omega
      have rc := row_cell HQ.out.2 2
      by_cases hlt : j < n
      · have hjl : j < g.es.length := by rw [HN.out.2.1]; exact hlt
        have hlt0 : (j : Int) < (n : Int) := by omega
        have hbw := HQ.out.1.bel.mono HI.out.2
        obtain ⟨b6, off, hA, hbb, hcs⟩ := (HI.out.1.below hbw).cells j hjl
        obtain ⟨Ad, cd, f0, f1, f2, hby, hrm, hnn2⟩ := hcs j hjl
        have hnum := HI.out.1.num g.es[j] (List.getElem_mem hjl)
        have hdl := HN.out.2.2.1 g.es[j] (List.getElem_mem hjl)
        have hnx := flatTo_next encE g.es j hjl
        obtain ⟨x, hxx⟩ : ∃ x, x = g.es[j] := ⟨_, rfl⟩
        rw [← hxx] at f0 f1 f2 hby hnum hdl hnx
        obtain ⟨dk, hdk⟩ : ∃ k, x.d.length = k := ⟨_, rfl⟩
        rw [hdk] at f2 hdl
        subst hA
        obtain ⟨w5, hw5⟩ : ∃ w5, w5 = wr.alloc (.cells #[.int .i64 x.t, .int .i64 x.k, .slice Ad dk cd] 73) := ⟨_, rfl⟩
        obtain ⟨be, hbe⟩ : ∃ be, be = wr.heap.size := ⟨_, rfl⟩
        have r5 : w5.heap[be]? = some (.cells #[.int .i64 x.t, .int .i64 x.k, .slice Ad dk cd] 73 (0, 0)) := by rw [hw5, hbe]; exact heap_alloc_new wr _
        have hb5 : Below wr.heap.size wr w5 := by rw [hw5]; exact (Below.refl _ wr).alloc (Nat.le_refl _) _
        have HS : Hid (Rbs wr w5.drew A1 ((l ++ enc g.base ++ enc g.term ++ enc (n : Int)) ++ flatTo encE g.es j) q1) := hid (Rbs.drew ⟨(HQ.out.1.is.below hb5).more hb5.size, HQ.out.1.len, hb5⟩)
        have CX : Hid (∀ W : World, W.heap[be]? = some (.cells #[.int .i64 x.t, .int .i64 x.k, .slice Ad dk cd] 73 (0, 0)) → W.cell? ⟨be, 0, none⟩ = some (.int .i64 x.t) ∧ W.cell? ⟨be, 1, none⟩ = some (.int .i64 x.k) ∧ W.cell? ⟨be, 2, none⟩ = some (.slice Ad dk cd)) := hid fun W hW => ⟨row_cell hW 0, row_cell hW 1, row_cell hW 2⟩
        have R5 := hid r5
        have g0 := CX.out w5 r5
        have g1 := CX.out w5.drew r5
        have HX := hid (And.intro hnum (And.intro hby (And.intro hdk hdl)))
        have HNX : Hid (((l ++ enc g.base ++ enc g.term ++ enc (n : Int)) ++ flatTo encE g.es j) ++ enc x.t ++ enc x.k ++ encB x.d = (l ++ enc g.base ++ enc g.term ++ enc (n : Int)) ++ flatTo encE g.es (j + 1)) := hid (by rw [hnx]; unfold encE; simp [List.append_assoc])
        have hBr : B' ≤ wr.heap.size := Nat.le_trans HI.out.2 HQ.out.1.bel.size
        have HBR := hid hBr
        have HQ1 := hid hq1
        clear hq1 hby hrm hnn2 hnum hdl hnx hxx hdk hcs hbw hb5 hjl r5 hBr
        go_wp2_with fail
        rw [← hw5, ← hbe]
        clear hw5 f0 f1 f2 hbe rc
        go_region_held3 (fun W => W.cell? ⟨be, 0, none⟩ = some (.int .i64 x.t) ∧ W.cell? ⟨be, 1, none⟩ = some (.int .i64 x.k) ∧ W.cell? ⟨be, 2, none⟩ = some (.slice Ad dk cd))
          (first | with_reducible exact g8 | with_reducible exact g7 | with_reducible exact g6 | with_reducible exact g1 | with_reducible exact g0 | fail)
          (first
            | (go_at_call 56; refine (rBlob_any _ _ _ _ B' Ad cd x.d dk HX.out.2.2.1 (by have := HX.out.2.2.2; omega) (by have := HQ1.out; omega) _ _ H7.out (HX.out.2.1.below (H7.out.bel.mono HBR.out)) (Nat.le_trans HBR.out H7.out.bel.size)).mono ?_; rintro e w8 ⟨A8, c8, rfl, hb8⟩; have H8 := hid (H7.out.then_ hb8); have g8 := CX.out _ (hb8.row R7.out); clear hb8)
            | (go_at_call 55; refine (rInt_any _ _ _ _ x.k HX.out.1.2 (by have := HQ1.out; omega) _ _ H6.out).mono ?_; rintro e w7 ⟨A7, c7, rfl, hb7⟩; have R7 := hid (hb7.row R6.out); have H7 := hid (H6.out.then_ hb7); have g7 := CX.out _ R7.out; clear hb7)
            | (go_at_call 55; refine (rInt_any A1 c1 _ q1 x.t HX.out.1.1 (by have := HQ1.out; omega) wr w5.drew HS.out).mono ?_; rintro e w6 ⟨A6, c6, rfl, hb6⟩; have R6 := hid (hb6.row R5.out); have H6 := hid (Rbs.then_ HS.out hb6); have g6 := CX.out _ R6.out; clear hb6)
            | fail)
        all_goals
          (have HF : Hid (Rbs w w8 A8 ((l ++ enc g.base ++ enc g.term ++ enc (n : Int)) ++ flatTo encE g.es (j + 1)) (q1 + 8 + 8 + 8 + dk) ∧ w8.heap[b]? = some (.cells #[.int .i64 g.base, .int .i64 g.term, .slice (some ⟨b6, off, none⟩) n ce] 58 (0, 0))) := hid (by
             have h := H8.out
             rw [HNX.out] at h
             exact ⟨HQ.out.1.then_ h, h.row HQ.out.2⟩)
           clear HQ HS R5 R6 R7 H6 H7 H8 g0 g1 g6 g7 g8 CX HX HNX
           go_wp2_with fail
           go_roundw)
        all_goals first | exact ⟨j + 1, A8, c8, _, by omega, rfl, by go_num, HF⟩ | (simp [RowKit.intOf]; omega)
      · obtain rfl : j = n := by omega
        have hlt0 : ¬ (j : Int) < (j : Int) := by omega
        have HF : Hid (Rbs w wr A1 (l ++ encLg g) q2 ∧ q1 = q2) := hid (by
          have h := HQ.out.1
          have hfl : flatTo encE g.es j = g.es.flatMap encE := by rw [← HN.out.2.1, flatTo_all]
          have e1 : (l ++ enc g.base ++ enc g.term ++ enc (j : Int)) ++ flatTo encE g.es j = l ++ encLg g := by
            rw [hfl]; unfold encLg encL; rw [HN.out.2.1]; simp [List.append_assoc]
          have e2 : q1 = q2 := by rw [hq1.2, hfl, ← HN.out.2.2.2.2]; omega
          rw [e1] at h
          rw [e2] at h
          exact ⟨h, e2⟩)
        clear HQ hq1 hlt
        go_wp2_with fail
        go_ret
        exact ⟨A1, c1, ret_len HF.out.2, HF.out.1⟩
end Go.Proofs.YtaeoccpjdjafnaaGreat.Im
namespace Go.Proofs.YtaeoccpjdjafnaaGreat.Im
open Go Go.RowKit
open Rl (En Lg)
open Qu (Cf)
open Pk (enc encs)
set_option maxRecDepth 100000
set_option linter.unusedVariables false
attribute [local go_sem ↓] loadAt_hard storeAt_hard loadAt_vote storeAt_vote loadAt_change storeAt_change
set_option maxHeartbeats 1600000 in
theorem rConfTop_any (f : Cf) (a0 a1 a2 : Option Addr) (k0 k1 k2 n0 n1 n2 : Nat) (hn0 : f.old.length = n0) (hn1 : f.new.length = n1) (hn2 : f.lrn.length = n2) (hs : n0 ≤ 1000000 ∧ n1 ≤ 1000000 ∧ n2 ≤ 1000000) (B' : Nat) (w : World) (hB' : B' ≤ w.heap.size) (h0 : IsInts w B' a0 f.old) (h1 : IsInts w B' a1 f.new) (h2 : IsInts w B' a2 f.lrn) :
    Calls Tryz.prog 18 #[.agg #[.slice a0 n0 k0, .slice a1 n1 k1, .slice a2 n2 k2]] w (Rtold w (encCf f) (8 + 8 * n0 + (8 + 8 * n1) + (8 + 8 * n2))) := by
  obtain ⟨w1, hw1⟩ : ∃ w1, w1 = w.alloc (.cells #[.slice a0 n0 k0, .slice a1 n1 k1, .slice a2 n2 k2] 28) := ⟨_, rfl⟩
  have b1 : Below w.heap.size w w1 := by rw [hw1]; exact (Below.refl _ w).alloc (Nat.le_refl _) _
  have HP := rConf_any none 0 [] 0 f a0 a1 a2 k0 k1 k2 n0 n1 n2 hn0 hn1 hn2 hs (by omega) B' w1 w1 (Rbs.refl IsBytes.nil rfl) (Nat.le_trans hB' b1.size) (h0.below (b1.mono hB')) (h1.below (b1.mono hB')) (h2.below (b1.mono hB'))
  obtain ⟨qq, hqq⟩ : ∃ qq, 8 + 8 * n0 + (8 + 8 * n1) + (8 + 8 * n2) = qq := ⟨_, rfl⟩
  rw [Nat.zero_add, hqq] at HP
  rw [hqq]
  replace HP := hid HP
  have HB := hid b1
  clear b1 h0 h1 h2 hn0 hn1 hn2 hs hqq hB'
  go_enter Tryz.func18, Tryz.ntmps18
  go_wp2_with fail
  rw [← hw1]
  clear hw1
  refine HP.out.mono ?_
  rintro e w4 ⟨A4, c4, rfl, hb4⟩
  have HF : Hid (Rbs w w4 A4 (encCf f) qq) := hid (by
    rw [List.nil_append] at hb4
    exact hb4.from HB.out)
  clear hb4
  go_wp2_with fail
  go_ret
  exact ⟨A4, c4, rfl, HF.out⟩
set_option maxHeartbeats 6400000 in
theorem rIm_any (B' : Nat) (w : World) (hB' : B' ≤ w.heap.size) (L : List Hq) (n : Nat) (hn : L.length = n) (Vs : List Vt) (m : Nat) (hm : Vs.length = m) (hnm : n ≤ 1000000 ∧ m ≤ 1000000) (hx : ∀ x ∈ L, Sz x.h.p) (hT : 8 + (L.flatMap encHq).length + (8 + (Vs.flatMap encV).length) ≤ 10000000000) (Ah Av : Option Addr) (ch cv : Nat) (hh : IsHds w B' Ah L) (hv : IsVs w B' Av Vs) (q2 : Nat) (hq2 : 8 + (L.flatMap encHq).length + (8 + (Vs.flatMap encV).length) = q2) :
    Calls Tryz.prog 16 #[.agg #[.slice Ah n ch, .slice Av m cv]] w (Rtold w (encL encHq L ++ encL encV Vs) q2) := by
  obtain ⟨w1, hw1⟩ : ∃ w1, w1 = w.alloc (.cells #[.slice Ah n ch, .slice Av m cv] 25) := ⟨_, rfl⟩
  obtain ⟨b, hb⟩ : ∃ b, b = w.heap.size := ⟨_, rfl⟩
  have r1 : w1.heap[b]? = some (.cells #[.slice Ah n ch, .slice Av m cv] 25 (0, 0)) := by rw [hw1, hb]; exact heap_alloc_new w _
  have b1 : Below w.heap.size w w1 := by rw [hw1]; exact (Below.refl _ w).alloc (Nat.le_refl _) _
  have f1 := row_cell r1 0
  have hnb := hnm.1
  have hmb := hnm.2
  have HI := hid (And.intro hh (And.intro hv hB'))
  have HN := hid (And.intro hn (And.intro hm (And.intro hnm (And.intro hx (And.intro hT hq2)))))
  have HP := hid (rInt_any none 0 [] 0 (n : Int) ⟨by omega, by omega⟩ (by omega) w1 w1 (Rbs.refl IsBytes.nil rfl))
  have R1 := hid (And.intro r1 b1)
  clear r1 b1 hh hv hB' hn hm hnm hx hT hq2
  go_enter Tryz.func16, Tryz.ntmps16
  go_wp2_with fail
  rw [← hw1, ← hb]
  clear hw1 hb
  refine HP.out.mono ?_
  rintro e w2 ⟨A2, c2, rfl, hb2⟩
  have H2 : Hid (Rbs w w2 A2 (enc (n : Int) ++ flatTo encHq L 0) (0 + 8) ∧ w2.heap[b]? = some (.cells #[.slice Ah n ch, .slice Av m cv] 25 (0, 0))) := hid (by
    have e : enc (n : Int) ++ flatTo encHq L 0 = [] ++ enc (n : Int) := by unfold flatTo; simp
    rw [e]; exact ⟨hb2.from R1.out.2, hb2.row R1.out.1⟩)
  clear hb2 HP R1 f1
  go_wp2_with fail
  go_loopw [3, 4] (fun v i wr => ∃ (j : Nat) (A1 : Option Addr) (c1 q1 : Nat), j ≤ n ∧ v = .slice A1 q1 c1 ∧ i = .int .i64 (j : Int) ∧ Hid (Rbs w wr A1 (enc (n : Int) ++ flatTo encHq L j) q1 ∧ wr.heap[b]? = some (.cells #[.slice Ah n ch, .slice Av m cv] 25 (0, 0)))) (fun _ i _ => n - (RowKit.intOf i).toNat)
  case atStart => exact ⟨0, A2, c2, _, Nat.zero_le _, rfl, rfl, H2⟩
  case round =>
    clear H2
    obtain ⟨j, A1, c1, q1, hj, rfl, rfl, HQ⟩ := hrel
    have hq1 : q1 = 8 + (flatTo encHq L j).length := by
      have h1 := HQ.out.1.len
      rw [List.length_append, Pk.enc_length] at h1
      omega
    have rc := row_cell HQ.out.2 0
    by_cases hlt : j < n
    · have hjl : j < L.length := by rw [HN.out.1]; exact hlt
      have hlt0 : (j : Int) < (n : Int) := by omega
      have hbw := HQ.out.1.bel.mono HI.out.2.2
      obtain ⟨b6, off, hA, hbb, hcs⟩ := (HI.out.1.below hbw).row.at_ j hjl
      have hrg := hcs j hjl
      have hpt := (HI.out.1.below hbw).pt L[j] (List.getElem_mem hjl)
      have hnum := HI.out.1.num L[j] (List.getElem_mem hjl)
      have hsz := HN.out.2.2.2.1 L[j] (List.getElem_mem hjl)
      have hnx := flatTo_next encHq L j hjl
      have hle : (flatTo encHq L (j + 1)).length ≤ (L.flatMap encHq).length := flatTo_le encHq L (j + 1)
      rw [hnx, List.length_append] at hle
      obtain ⟨x, hxx⟩ : ∃ x, x = L[j] := ⟨_, rfl⟩
      rw [← hxx] at hrg hpt hnum hsz hnx hle
      obtain ⟨x, ax⟩ := x
      rw [show (encHq ⟨x, ax⟩).length = (encH x).length from rfl, encH_length, encPt_length] at hle
      obtain ⟨te, hte⟩ : ∃ te, (x.p.log.es.flatMap encE).length = te := ⟨_, rfl⟩
      obtain ⟨q3, hq3⟩ : ∃ q3, q1 + 8 + 8 + 8 + (24 + te) = q3 := ⟨_, rfl⟩
      rw [hte] at hle
      have hld : (ldX 75 (.pointer (some ⟨b6, off + j * 10, none⟩))).run Tryz.prog wr = .ok (.agg #[.int .i64 x.g, .int .i64 x.t, .int .i64 x.v, .int .i64 x.p.log.base, .int .i64 x.p.log.term, .slice ax.e x.p.log.es.length ax.ce, .slice ax.o x.p.cf.old.length ax.co, .slice ax.n x.p.cf.new.length ax.cn, .slice ax.l x.p.cf.lrn.length ax.cl, .slice ax.s x.p.sn.length ax.cs]) wr := ldH wr b6 (off + j * 10) (cellsH ⟨x, ax⟩) rfl hrg
      subst hA
      have hst := stNew wr 75 10 info_hard #[.int .i64 0, .int .i64 0, .int .i64 0, .int .i64 0, .int .i64 0, .slice none 0 0, .slice none 0 0, .slice none 0 0, .slice none 0 0, .slice none 0 0] (#[.int .i64 x.g, .int .i64 x.t, .int .i64 x.v, .int .i64 x.p.log.base, .int .i64 x.p.log.term, .slice ax.e x.p.log.es.length ax.ce, .slice ax.o x.p.cf.old.length ax.co, .slice ax.n x.p.cf.new.length ax.cn, .slice ax.l x.p.cf.lrn.length ax.cl, .slice ax.s x.p.sn.length ax.cs]) rfl rfl (by simp [Value.oneCell'])
      obtain ⟨w5, hw5⟩ : ∃ w5, w5 = wr.alloc (.cells (#[.int .i64 x.g, .int .i64 x.t, .int .i64 x.v, .int .i64 x.p.log.base, .int .i64 x.p.log.term, .slice ax.e x.p.log.es.length ax.ce, .slice ax.o x.p.cf.old.length ax.co, .slice ax.n x.p.cf.new.length ax.cn, .slice ax.l x.p.cf.lrn.length ax.cl, .slice ax.s x.p.sn.length ax.cs]) 75) := ⟨_, rfl⟩
      obtain ⟨be, hbe⟩ : ∃ be, be = wr.heap.size := ⟨_, rfl⟩
      have r5 : w5.heap[be]? = some (.cells (#[.int .i64 x.g, .int .i64 x.t, .int .i64 x.v, .int .i64 x.p.log.base, .int .i64 x.p.log.term, .slice ax.e x.p.log.es.length ax.ce, .slice ax.o x.p.cf.old.length ax.co, .slice ax.n x.p.cf.new.length ax.cn, .slice ax.l x.p.cf.lrn.length ax.cl, .slice ax.s x.p.sn.length ax.cs]) 75 (0, 0)) := by rw [hw5, hbe]; exact heap_alloc_new wr _
      rw [← hw5] at hst
      have hb5 : Below wr.heap.size wr w5 := by rw [hw5]; exact (Below.refl _ wr).alloc (Nat.le_refl _) _
      have HS : Hid (Rbs wr w5.drew A1 (enc (n : Int) ++ flatTo encHq L j) q1) := hid (Rbs.drew ⟨(HQ.out.1.is.below hb5).more hb5.size, HQ.out.1.len, hb5⟩)
      have CX : Hid (∀ W : World, W.heap[be]? = some (.cells (#[.int .i64 x.g, .int .i64 x.t, .int .i64 x.v, .int .i64 x.p.log.base, .int .i64 x.p.log.term, .slice ax.e x.p.log.es.length ax.ce, .slice ax.o x.p.cf.old.length ax.co, .slice ax.n x.p.cf.new.length ax.cn, .slice ax.l x.p.cf.lrn.length ax.cl, .slice ax.s x.p.sn.length ax.cs]) 75 (0, 0)) → (W.cell? ⟨be, 0, none⟩ = some (.int .i64 x.g) ∧ W.cell? ⟨be, 1, none⟩ = some (.int .i64 x.t) ∧ W.cell? ⟨be, 2, none⟩ = some (.int .i64 x.v)) ∧ (W.cell? ⟨be, 3, none⟩ = some (.int .i64 x.p.log.base) ∧ W.cell? ⟨be, 4, none⟩ = some (.int .i64 x.p.log.term) ∧ W.cell? ⟨be, 5, none⟩ = some (.slice ax.e x.p.log.es.length ax.ce)) ∧ (W.cell? ⟨be, 6, none⟩ = some (.slice ax.o x.p.cf.old.length ax.co) ∧ W.cell? ⟨be, 7, none⟩ = some (.slice ax.n x.p.cf.new.length ax.cn) ∧ W.cell? ⟨be, 8, none⟩ = some (.slice ax.l x.p.cf.lrn.length ax.cl)) ∧ W.cell? ⟨be, 9, none⟩ = some (.slice ax.s x.p.sn.length ax.cs)) := hid fun W hW => ⟨⟨row_cell hW 0, row_cell hW 1, row_cell hW 2⟩, ⟨row_cell hW 3, row_cell hW 4, row_cell hW 5⟩, ⟨row_cell hW 6, row_cell hW 7, row_cell hW 8⟩, row_cell hW 9⟩
      have R5 := hid r5
      have g0 := CX.out w5 r5
      have g1 := CX.out w5.drew r5
      have HX := hid (And.intro hnum (And.intro hpt (And.intro hsz (And.intro hte hq3))))
      have HNX : Hid ((enc (n : Int) ++ flatTo encHq L j) ++ enc x.g ++ enc x.t ++ enc x.v ++ encLg x.p.log ++ encCf x.p.cf ++ encB x.p.sn = enc (n : Int) ++ flatTo encHq L (j + 1)) := hid (by rw [hnx]; show _ = _ ++ (_ ++ encH x); unfold encH encPt; simp [List.append_assoc])
      have hBr : B' ≤ wr.heap.size := Nat.le_trans HI.out.2.2 HQ.out.1.bel.size
      have HBR := hid hBr
      have HQ1 := hid (And.intro hq1 (And.intro hle HN.out.2.2.2.2.1))
      clear hq1 hle hpt hsz hte hq3 hrg hnum hnx hxx hcs hbw hb5 hjl r5 hBr
      go_wp2_with fail
      rw [← hw5, ← hbe]
      clear hw5 hbe rc hld hst
      go_region_held3 (fun W => (W.cell? ⟨be, 0, none⟩ = some (.int .i64 x.g) ∧ W.cell? ⟨be, 1, none⟩ = some (.int .i64 x.t) ∧ W.cell? ⟨be, 2, none⟩ = some (.int .i64 x.v)) ∧ (W.cell? ⟨be, 3, none⟩ = some (.int .i64 x.p.log.base) ∧ W.cell? ⟨be, 4, none⟩ = some (.int .i64 x.p.log.term) ∧ W.cell? ⟨be, 5, none⟩ = some (.slice ax.e x.p.log.es.length ax.ce)) ∧ (W.cell? ⟨be, 6, none⟩ = some (.slice ax.o x.p.cf.old.length ax.co) ∧ W.cell? ⟨be, 7, none⟩ = some (.slice ax.n x.p.cf.new.length ax.cn) ∧ W.cell? ⟨be, 8, none⟩ = some (.slice ax.l x.p.cf.lrn.length ax.cl)) ∧ W.cell? ⟨be, 9, none⟩ = some (.slice ax.s x.p.sn.length ax.cs))
        (first | with_reducible exact g8 | with_reducible exact g7 | with_reducible exact g6 | with_reducible exact g1 | with_reducible exact g0 | fail)
        (first
          | (go_at_call 55; refine (rInt_any _ _ _ _ x.v HX.out.1.2.2 (by have := HQ1.out; omega) _ _ H7.out).mono ?_; rintro e w8 ⟨A8, c8, rfl, hb8⟩; have R8 := hid (hb8.row R7.out); have H8 := hid (H7.out.then_ hb8).drew; have g8 := CX.out _ R8.out; clear hb8)
          | (go_at_call 55; refine (rInt_any _ _ _ _ x.t HX.out.1.2.1 (by have := HQ1.out; omega) _ _ H6.out).mono ?_; rintro e w7 ⟨A7, c7, rfl, hb7⟩; have R7 := hid (hb7.row R6.out); have H7 := hid (H6.out.then_ hb7); have g7 := CX.out _ R7.out; clear hb7)
          | (go_at_call 55; refine (rInt_any A1 c1 _ q1 x.g HX.out.1.1 (by have := HQ1.out; omega) wr w5.drew HS.out).mono ?_; rintro e w6 ⟨A6, c6, rfl, hb6⟩; have R6 := hid (hb6.row R5.out); have H6 := hid (Rbs.then_ HS.out hb6); have g6 := CX.out _ R6.out; clear hb6)
          | fail)
      all_goals
        have R8' : Hid (w8.drew.heap[be]? = some (.cells (#[.int .i64 x.g, .int .i64 x.t, .int .i64 x.v, .int .i64 x.p.log.base, .int .i64 x.p.log.term, .slice ax.e x.p.log.es.length ax.ce, .slice ax.o x.p.cf.old.length ax.co, .slice ax.n x.p.cf.new.length ax.cn, .slice ax.l x.p.cf.lrn.length ax.cl, .slice ax.s x.p.sn.length ax.cs]) 75 (0, 0))) := hid R8.out
        have g8d := CX.out w8.drew R8.out
        have HLG := hid (rLog_any A8 c8 _ _ x.p.log HX.out.2.1.num x.p.log.es.length rfl HX.out.2.2.1.e HX.out.2.2.1.d (by rw [HX.out.2.2.2.1]; have := HQ1.out; omega) B' ax.e ax.ce wr w8.drew H8.out (Nat.le_trans HBR.out H8.out.bel.size) (HX.out.2.1.es.below (H8.out.bel.mono HBR.out)) q3 (by rw [HX.out.2.2.2.1]; exact HX.out.2.2.2.2))
        clear g0 g1 g6 g7 H6 H7 R5 R6 R7 R8 HS
        go_wp2_with fail
        go_region_held3 (fun W => (W.cell? ⟨be, 0, none⟩ = some (.int .i64 x.g) ∧ W.cell? ⟨be, 1, none⟩ = some (.int .i64 x.t) ∧ W.cell? ⟨be, 2, none⟩ = some (.int .i64 x.v)) ∧ (W.cell? ⟨be, 3, none⟩ = some (.int .i64 x.p.log.base) ∧ W.cell? ⟨be, 4, none⟩ = some (.int .i64 x.p.log.term) ∧ W.cell? ⟨be, 5, none⟩ = some (.slice ax.e x.p.log.es.length ax.ce)) ∧ (W.cell? ⟨be, 6, none⟩ = some (.slice ax.o x.p.cf.old.length ax.co) ∧ W.cell? ⟨be, 7, none⟩ = some (.slice ax.n x.p.cf.new.length ax.cn) ∧ W.cell? ⟨be, 8, none⟩ = some (.slice ax.l x.p.cf.lrn.length ax.cl)) ∧ W.cell? ⟨be, 9, none⟩ = some (.slice ax.s x.p.sn.length ax.cs))
          (first | with_reducible exact g11 | with_reducible exact g10 | with_reducible exact g9 | with_reducible exact g8d | with_reducible exact g8 | fail)
          (first
            | (go_at_call 56; refine (rBlob_any _ _ _ _ B' ax.s ax.cs x.p.sn x.p.sn.length rfl (by have := HX.out.2.2.1.s; omega) (by have := HQ1.out; have := HX.out.2.2.2.2; omega) _ _ H10.out (HX.out.2.1.s.below (H10.out.bel.mono HBR.out)) (Nat.le_trans HBR.out H10.out.bel.size)).mono ?_; rintro e w11 ⟨A11, c11, rfl, hb11⟩; have H11 := hid (H10.out.then_ hb11); have g11 := CX.out _ (hb11.row R10.out); clear hb11)
            | (go_at_call 57; refine (rConf_any _ _ _ _ x.p.cf ax.o ax.n ax.l ax.co ax.cn ax.cl _ _ _ rfl rfl rfl ⟨HX.out.2.2.1.o, HX.out.2.2.1.n, HX.out.2.2.1.l⟩ (by have := HQ1.out; have := HX.out.2.2.2.2; omega) B' _ _ H9.out (Nat.le_trans HBR.out H9.out.bel.size) (HX.out.2.1.o.below (H9.out.bel.mono HBR.out)) (HX.out.2.1.n.below (H9.out.bel.mono HBR.out)) (HX.out.2.1.l.below (H9.out.bel.mono HBR.out))).mono ?_; rintro e w10 ⟨A10, c10, rfl, hb10⟩; have R10 := hid (hb10.row R9.out); have H10 := hid (H9.out.then_ hb10); have g10 := CX.out _ R10.out; clear hb10)
            | (go_at_call 58; refine HLG.out.mono ?_; rintro e w9 ⟨A9, c9, rfl, hb9⟩; have R9 := hid (hb9.row R8'.out); have H9 := hid (H8.out.then_ hb9); have g9 := CX.out _ R9.out; clear hb9)
            | fail)
      all_goals
        (have HF : Hid (∃ q4, q4 = q3 + (8 + 8 * x.p.cf.old.length) + (8 + 8 * x.p.cf.new.length) + (8 + 8 * x.p.cf.lrn.length) + 8 + x.p.sn.length ∧ Rbs w w11 A11 (enc (n : Int) ++ flatTo encHq L (j + 1)) q4 ∧ w11.heap[b]? = some (.cells #[.slice (some ⟨b6, off, none⟩) n ch, .slice Av m cv] 25 (0, 0))) := hid (by
           have h := H11.out
           rw [HNX.out] at h
           exact ⟨_, rfl, HQ.out.1.then_ h, h.row HQ.out.2⟩)
         obtain ⟨q4, hq4, HF⟩ := HF.out
         replace HF := hid HF
         rw [← hq4]
         clear HQ R8' R9 R10 H8 H9 H10 H11 g8 g8d g9 g10 g11 CX HX HNX HLG hq4 HQ1
         go_wp2_with fail
         go_roundw)
      all_goals first | exact ⟨j + 1, A11, c11, _, by omega, rfl, by go_num, HF⟩ | (simp [RowKit.intOf]; omega)
    · obtain rfl : j = n := by omega
      have hlt0 : ¬ (j : Int) < (j : Int) := by omega
      have hfl : flatTo encHq L j = L.flatMap encHq := by rw [← HN.out.1, flatTo_all]
      have e1 : enc (j : Int) ++ flatTo encHq L j = encL encHq L := by rw [hfl]; unfold encL; rw [HN.out.1]
      rw [e1] at HQ
      rw [hfl] at hq1
      have rv := row_cell HQ.out.2 1
      have HP := hid (rInt_any A1 c1 _ q1 (m : Int) ⟨by omega, by omega⟩ (by have := HN.out.2.2.2.2.1; omega) w wr HQ.out.1)
      have HQ1 := hid hq1
      clear hq1 hfl e1 hlt
      go_wp2_with fail
      refine HP.out.mono ?_
      rintro e w2 ⟨A5, c5, rfl, hb5⟩
      have H5 : Hid (Rbs w w2 A5 (encL encHq L ++ enc (m : Int) ++ flatTo encV Vs 0) (q1 + 8) ∧ w2.heap[b]? = some (.cells #[.slice Ah j ch, .slice Av m cv] 25 (0, 0))) := hid (by
        have e : encL encHq L ++ enc (m : Int) ++ flatTo encV Vs 0 = encL encHq L ++ enc (m : Int) := by unfold flatTo; simp
        rw [e]; exact ⟨HQ.out.1.then_ hb5, hb5.row HQ.out.2⟩)
      have HLE : Hid ((encL encHq L ++ enc (m : Int)).length = q1 + 8) := hid (by rw [List.length_append, Pk.enc_length, HQ.out.1.len])
      clear hb5 HP HQ rv rc
      go_wp2_with fail
      go_loopw [3, 6] (fun v i wr => ∃ (k : Nat) (A1 : Option Addr) (c1 q3 : Nat), k ≤ m ∧ v = .slice A1 q3 c1 ∧ i = .int .i64 (k : Int) ∧ Hid (Rbs w wr A1 (encL encHq L ++ enc (m : Int) ++ flatTo encV Vs k) q3 ∧ wr.heap[b]? = some (.cells #[.slice Ah j ch, .slice Av m cv] 25 (0, 0)))) (fun _ i _ => m - (RowKit.intOf i).toNat)
      case atStart => exact ⟨0, A5, c5, _, Nat.zero_le _, rfl, rfl, H5⟩
      case round =>
        clear H5
        obtain ⟨k, A6, c6, q3, hk, rfl, rfl, HQ⟩ := hrel
        have hq3 : q3 = q1 + 8 + (flatTo encV Vs k).length := by
          have h1 := HQ.out.1.len
          rw [List.length_append, HLE.out] at h1
          omega
        have rc := row_cell HQ.out.2 1
        by_cases hlt : k < m
        · have hkl : k < Vs.length := by rw [HN.out.2.1]; exact hlt
          have hlt1 : (k : Int) < (m : Int) := by omega
          have hbw := HQ.out.1.bel.mono HI.out.2.2
          obtain ⟨b6, off, hA, hbb, hcs⟩ := (HI.out.2.1.below hbw).row.at_ k hkl
          have hrg := hcs k hkl
          have hnum := HI.out.2.1.num Vs[k] (List.getElem_mem hkl)
          have hnx := flatTo_next encV Vs k hkl
          have hle : (flatTo encV Vs (k + 1)).length ≤ (Vs.flatMap encV).length := flatTo_le encV Vs (k + 1)
          rw [hnx, List.length_append] at hle
          obtain ⟨x, hxx⟩ : ∃ x, x = Vs[k] := ⟨_, rfl⟩
          rw [← hxx] at hrg hnum hnx hle
          have hld : (ldX 60 (.pointer (some ⟨b6, off + k * 5, none⟩))).run Tryz.prog wr = .ok (.agg #[.int .i64 x.x, .int .i64 x.p, .int .i64 x.r, .int .i64 x.b, .int .i64 x.v]) wr := ldV wr b6 (off + k * 5) (cellsV x) rfl hrg
          subst hA
          have HV := hid (rVote_any A6 c6 _ q3 x hnum (by have := HN.out.2.2.2.2.1; have := HQ1.out; omega) w wr HQ.out.1)
          have HNX := hid hnx
          have HQ3 := hid hq3
          clear hq3 hle hrg hnum hnx hxx hcs hbw hkl hbb
          go_wp2_with fail
          refine HV.out.mono ?_
          rintro e w7 ⟨A7, c7, rfl, hb7⟩
          have HF : Hid (Rbs w w7 A7 (encL encHq L ++ enc (m : Int) ++ flatTo encV Vs (k + 1)) (q3 + 40) ∧ w7.heap[b]? = some (.cells #[.slice Ah j ch, .slice (some ⟨b6, off, none⟩) m cv] 25 (0, 0))) := hid (by
            have e : encL encHq L ++ enc (m : Int) ++ flatTo encV Vs (k + 1) = encL encHq L ++ enc (m : Int) ++ flatTo encV Vs k ++ encV x := by rw [HNX.out]; simp [List.append_assoc]
            rw [e]; exact ⟨HQ.out.1.then_ hb7, hb7.row HQ.out.2⟩)
          clear hb7 HV HQ HNX hld rc HQ3
          go_wp2_with fail
          go_roundw
          case rel => exact ⟨k + 1, A7, c7, _, by omega, rfl, by go_num, HF⟩
          case measure => simp [RowKit.intOf]; omega
        · obtain rfl : k = m := by omega
          have hlt1 : ¬ (k : Int) < (k : Int) := by omega
          have HF : Hid (Rbs w wr A6 (encL encHq L ++ encL encV Vs) q2 ∧ q3 = q2) := hid (by
            have h := HQ.out.1
            have hfl : flatTo encV Vs k = Vs.flatMap encV := by rw [← HN.out.2.1, flatTo_all]
            have e1 : encL encHq L ++ enc (k : Int) ++ flatTo encV Vs k = encL encHq L ++ encL encV Vs := by
              rw [hfl, List.append_assoc]; show _ = _ ++ (enc Vs.length ++ _); rw [HN.out.2.1]
            have e2 : q3 = q2 := by rw [hq3, HQ1.out, hfl, ← HN.out.2.2.2.2.2]; omega
            rw [e1] at h
            rw [e2] at h
            exact ⟨h, e2⟩)
          clear HQ hq3 hlt
          go_wp2_with fail
          go_ret
          exact ⟨A6, c6, ret_len HF.out.2, HF.out.1⟩
end Go.Proofs.YtaeoccpjdjafnaaGreat.Im
namespace Go.Proofs.YtaeoccpjdjafnaaGreat
open Go.RowKit
set_option maxRecDepth 100000
/-- members of any length that a statement takes -/
def LongC (c : Qu.Cf) : Prop := c.old.length ≤ 100000 ∧ c.new.length ≤ 100000 ∧ c.lrn.length ≤ 100000

set_option maxHeartbeats 1000000 in
theorem sameConf_any_L (B B' : Nat) (c d : Qu.Cf) (hs0 : LongC c) (hd0 : LongC d) (a0 a1 a2 b0 b1 b2 : Option Addr) (k0 k1 k2 m0 m1 m2 : Nat) (w : World) (h0 : CIs w B c a0 a1 a2 k0 k1 k2) (h0' : CIs w B' d b0 b1 b2 m0 m1 m2) (hB : B ≤ w.heap.size) (hB' : B' ≤ w.heap.size) (he : c = d) :
    Calls Tryz.prog 20 #[.agg #[.slice a0 c.old.length k0, .slice a1 c.new.length k1, .slice a2 c.lrn.length k2], .agg #[.slice b0 d.old.length m0, .slice b1 d.new.length m1, .slice b2 d.lrn.length m2]] w fun e w' => e = .returned (.bool true) ∧ Below w.heap.size w w' := by
  subst he
  have hbel : Below w.heap.size w ((w.alloc (.cells #[.slice a0 c.old.length k0, .slice a1 c.new.length k1, .slice a2 c.lrn.length k2] 28)).alloc (.cells #[.slice b0 c.old.length m0, .slice b1 c.new.length m1, .slice b2 c.lrn.length m2] 28)) := ((Below.refl _ _).alloc (Nat.le_refl _) _).alloc (by simp) _
  have HO := hid (fun j : Nat => sameI_T (n := c.old.length) (m := c.old.length) (c := k0) (c' := m0) rfl rfl (by have := hs0.1; omega) rfl (((h0.below (hbel.mono hB)).o).drewN j) (((h0'.below (hbel.mono hB')).o).drewN j))
  have HN := hid (fun j : Nat => sameI_T (n := c.new.length) (m := c.new.length) (c := k1) (c' := m1) rfl rfl (by have := hs0.2.1; omega) rfl (((h0.below (hbel.mono hB)).n).drewN j) (((h0'.below (hbel.mono hB')).n).drewN j))
  have HL := hid (fun j : Nat => sameI_T (n := c.lrn.length) (m := c.lrn.length) (c := k2) (c' := m2) rfl rfl (by have := hs0.2.2; omega) rfl (((h0.below (hbel.mono hB)).l).drewN j) (((h0'.below (hbel.mono hB')).l).drewN j))
  have HB := hid hbel
  clear hbel h0 h0' hs0 hd0
  go_enter Tryz.func20, Tryz.ntmps20
  go_wp2_with fail
  refine (HO.out 0).mono ?_
  rintro e w1 ⟨rfl, n1, rfl⟩
  go_wp2_with fail
  refine (HN.out _).mono ?_
  rintro e w1 ⟨rfl, n2, rfl⟩
  go_wp2_with fail
  refine (HL.out (n1 + n2)).mono ?_
  rintro e w1 ⟨rfl, n3, rfl⟩
  go_wp2
  go_ret
  exact ⟨rfl, below_drewN HB.out _⟩

theorem ownsI_cap_L {e : TypeId} {w : World} {base c : Nat} {A : Option Addr} {l : List Int} (h : OwnsI e w base A c l) : (A = none → c = 0) ∧ l.length ≤ c ∧ c ≤ maxLen := by
  rcases h.row.2 with ⟨hv, h0⟩ | ⟨g, cap, cur, hv, _, _, h1, h2, _, _⟩
  · have h2 : c = 0 := by injection hv
    exact ⟨fun _ => h2, by omega, by omega⟩
  · have h3 : c = cap := by injection hv
    refine ⟨fun e => ?_, by omega, by omega⟩
    subst e
    cases hv

set_option maxRecDepth 100000 in
set_option maxHeartbeats 10000000 in
theorem copyConf_sep_L (B : Nat) (c : Qu.Cf) (hs0 : LongC c) (a0 a1 a2 : Option Addr) (k0 k1 k2 : Nat) (w : World) (h0 : CIs w B c a0 a1 a2 k0 k1 k2) (hB : B ≤ w.heap.size) :
    Calls Tryz.prog 13 #[.agg #[.slice a0 c.old.length k0, .slice a1 c.new.length k1, .slice a2 c.lrn.length k2]] w fun e w' => ∃ A0 A1 A2 p0 p1 p2, e = .returned (.agg #[.slice A0 c.old.length p0, .slice A1 c.new.length p1, .slice A2 c.lrn.length p2]) ∧ (∃ m1 m2, (w.heap.size ≤ m1 ∧ m1 ≤ m2 ∧ m2 ≤ w'.heap.size) ∧ (OwnsI 3 w' w.heap.size A0 p0 c.old ∧ ∀ k, blk A0 = some k → k < m1) ∧ (OwnsI 3 w' m1 A1 p1 c.new ∧ ∀ k, blk A1 = some k → k < m2) ∧ OwnsI 3 w' m2 A2 p2 c.lrn) ∧ CIs w' w'.heap.size c A0 A1 A2 p0 p1 p2 ∧ Below w.heap.size w w' := by
  obtain ⟨wb, hwb⟩ : ∃ wb, wb = (w.alloc (.cells #[.slice a0 c.old.length k0, .slice a1 c.new.length k1, .slice a2 c.lrn.length k2] 28)).alloc (.cells #[.slice none 0 0, .slice none 0 0, .slice none 0 0] 28) := ⟨_, rfl⟩
  have hbel : Below w.heap.size w wb := by rw [hwb]; exact ((Below.refl _ _).alloc (Nat.le_refl _) _).alloc (by simp) _
  have hsz : wb.heap.size = w.heap.size + 2 := by rw [hwb]; simp
  have hrow : wb.heap[w.heap.size]? = some (.cells #[.slice a0 c.old.length k0, .slice a1 c.new.length k1, .slice a2 c.lrn.length k2] 28 (0, 0)) := by rw [hwb, Below.heap_alloc _ _ _ (by simp)]; exact heap_alloc_new w _
  have hrow2 : wb.heap[w.heap.size + 1]? = some (.cells #[.slice none 0 0, .slice none 0 0, .slice none 0 0] 28 (0, 0)) := by
    rw [hwb]
    have := heap_alloc_new (w.alloc (.cells #[.slice a0 c.old.length k0, .slice a1 c.new.length k1, .slice a2 c.lrn.length k2] 28)) (.cells #[.slice none 0 0, .slice none 0 0, .slice none 0 0] 28)
    rwa [World.size_alloc] at this
  have hI := h0.below (hbel.mono hB)
  have HX : Hid (∀ w', Below wb.drew.heap.size wb.drew w' → w'.cell? ⟨w.heap.size, 0, none⟩ = some (.slice a0 c.old.length k0) ∧ w'.cell? ⟨w.heap.size, 1, none⟩ = some (.slice a1 c.new.length k1) ∧ w'.cell? ⟨w.heap.size, 2, none⟩ = some (.slice a2 c.lrn.length k2)) := hid fun w' hb => by
    have h1 : w'.heap[w.heap.size]? = _ := (hb.block w.heap.size (by show w.heap.size < wb.heap.size; omega)).trans hrow
    exact ⟨cell_of_row w' w.heap.size 0 _ _ _ h1, cell_of_row w' w.heap.size 1 _ _ _ h1, cell_of_row w' w.heap.size 2 _ _ _ h1⟩
  have HK : Hid (∀ w' v0 v1 v2, Below wb.drew.heap.size wb.drew w' → (((w'.setCell ⟨w.heap.size + 1, 0, none⟩ v0).setCell ⟨w.heap.size + 1, 1, none⟩ v1).setCell ⟨w.heap.size + 1, 2, none⟩ v2).cell? ⟨w.heap.size, 0, none⟩ = some (.slice a0 c.old.length k0) ∧ (((w'.setCell ⟨w.heap.size + 1, 0, none⟩ v0).setCell ⟨w.heap.size + 1, 1, none⟩ v1).setCell ⟨w.heap.size + 1, 2, none⟩ v2).cell? ⟨w.heap.size, 1, none⟩ = some (.slice a1 c.new.length k1) ∧ (((w'.setCell ⟨w.heap.size + 1, 0, none⟩ v0).setCell ⟨w.heap.size + 1, 1, none⟩ v1).setCell ⟨w.heap.size + 1, 2, none⟩ v2).cell? ⟨w.heap.size, 2, none⟩ = some (.slice a2 c.lrn.length k2)) := hid fun w' v0 v1 v2 hb => by
    have h1 : w'.heap[w.heap.size]? = _ := (hb.block w.heap.size (by show w.heap.size < wb.heap.size; omega)).trans hrow
    have h2 : (((w'.setCell ⟨w.heap.size + 1, 0, none⟩ v0).setCell ⟨w.heap.size + 1, 1, none⟩ v1).setCell ⟨w.heap.size + 1, 2, none⟩ v2).heap[w.heap.size]? = w'.heap[w.heap.size]? := by
      rw [Below.heap_setCell _ _ _ _ (show w.heap.size ≠ w.heap.size + 1 by omega), Below.heap_setCell _ _ _ _ (show w.heap.size ≠ w.heap.size + 1 by omega), Below.heap_setCell _ _ _ _ (show w.heap.size ≠ w.heap.size + 1 by omega)]
    have h2 := h2.trans h1
    exact ⟨cell_of_row _ w.heap.size 0 _ _ _ h2, cell_of_row _ w.heap.size 1 _ _ _ h2, cell_of_row _ w.heap.size 2 _ _ _ h2⟩
  have HZ : Hid (∀ w', Below wb.drew.heap.size wb.drew w' → (w'.cell? ⟨w.heap.size + 1, 0, none⟩ = some (.slice none 0 0) ∧ w'.cell? ⟨w.heap.size + 1, 1, none⟩ = some (.slice none 0 0) ∧ w'.cell? ⟨w.heap.size + 1, 2, none⟩ = some (.slice none 0 0)) ∧ (∀ k, w'.frozen? ⟨w.heap.size + 1, k, none⟩ = false)) := hid fun w' hb => by
    have h1 : w'.heap[w.heap.size + 1]? = _ := (hb.block (w.heap.size + 1) (by show w.heap.size + 1 < wb.heap.size; omega)).trans hrow2
    exact ⟨⟨cell_of_row w' (w.heap.size + 1) 0 _ _ _ h1, cell_of_row w' (w.heap.size + 1) 1 _ _ _ h1, cell_of_row w' (w.heap.size + 1) 2 _ _ _ h1⟩, fun k => by simp [World.frozen?, h1]⟩
  have HZR : Hid (∀ w', Below wb.drew.heap.size wb.drew w' → w'.heap[w.heap.size + 1]? = some (.cells #[.slice none 0 0, .slice none 0 0, .slice none 0 0] 28 (0, 0))) := hid fun w' hb => (hb.block (w.heap.size + 1) (by show w.heap.size + 1 < wb.heap.size; omega)).trans hrow2
  have hd : wb.drew.heap.size = wb.heap.size := rfl
  have HD := hid (And.intro hd hsz)
  have CP : ∀ (A : Option Addr) (k : Nat) (l : List Int), l.length ≤ 100000 → IsInts wb B A l → ∀ w', Below wb.drew.heap.size wb.drew w' → Calls Tryz.prog 50 #[.slice A l.length k] w' fun e w'' => ∃ A' p, e = .returned (.slice A' l.length p) ∧ Hid (OwnsI 3 w'' w'.heap.size A' p l) ∧ Hid (Below wb.drew.heap.size wb.drew w'') ∧ Hid (Below w'.heap.size w' w'') := fun A k l hl hi w' hb =>
    (I.copy_any B A k l (by omega) w' (hi.drew.below (hb.mono (by show B ≤ wb.heap.size; omega))) (by have := hb.size; omega)).mono fun e w'' ⟨A', p, he, ho, hb2⟩ => ⟨A', p, he, hid ho, hid (bthen hb hb2 hb.size), hid hb2⟩
  have HC0 := hid (CP a0 k0 c.old hs0.1 hI.o wb.drew (Below.refl _ _))
  have HC1 := hid (CP a1 k1 c.new hs0.2.1 hI.n)
  have HC2 := hid (CP a2 k2 c.lrn hs0.2.2 hI.l)
  have c0 := (HX.out wb.drew (Below.refl _ _)).1
  have c1 := (HX.out wb.drew (Below.refl _ _)).2.1
  have c2 := (HX.out wb.drew (Below.refl _ _)).2.2
  have HB := hid hbel
  clear hbel hI h0 hs0 hsz hrow hrow2 hd CP
  go_enter Tryz.func13, Tryz.ntmps13
  go_wp2_with fail
  rw [← hwb]; clear hwb
  go_region_held3 (fun w' => w'.cell? ⟨w.heap.size, 0, none⟩ = some (.slice a0 c.old.length k0) ∧ w'.cell? ⟨w.heap.size, 1, none⟩ = some (.slice a1 c.new.length k1) ∧ w'.cell? ⟨w.heap.size, 2, none⟩ = some (.slice a2 c.lrn.length k2))
    (first | exact ⟨c0, c1, c2⟩ | exact HK.out _ _ _ _ hb3.out | exact HX.out _ hb3.out | exact HX.out _ hb2.out | exact HX.out _ hb1.out | fail)
    (first
      | (go_at_call 50; refine HY2.out.mono ?_; rintro e3 w3 ⟨A2, p2, rfl, ho2, hb3, hbb3⟩; obtain ⟨⟨z0, z1, z2⟩, fz⟩ := HZ.out w3 hb3.out; have f0 := fz 0; have f1 := fz 1; have f2 := fz 2)
      | (go_at_call 50; refine HY1.out.mono ?_; rintro e2 w2 ⟨A1, p1, rfl, ho1, hb2, hbb2⟩; have HY2 := hid (HC2.out w2 hb2.out))
      | (go_at_call 50; refine HC0.out.mono ?_; rintro e1 w1 ⟨A0, p0, rfl, ho0, hb1, hbb1⟩; have HY1 := hid (HC1.out w1 hb1.out)))
  obtain ⟨w4, hw4⟩ : ∃ w4, w4 = ((w3.setCell ⟨w.heap.size + 1, 0, none⟩ (.slice A0 c.old.length p0)).setCell ⟨w.heap.size + 1, 1, none⟩ (.slice A1 c.new.length p1)).setCell ⟨w.heap.size + 1, 2, none⟩ (.slice A2 c.lrn.length p2) := ⟨_, rfl⟩
  rw [← hw4]
  have hx3 := HZR.out w3 hb3.out
  have hx4 : w4.heap[w.heap.size + 1]? = some (.cells #[.slice A0 c.old.length p0, .slice A1 c.new.length p1, .slice A2 c.lrn.length p2] 28 (0, 0)) := by
    rw [hw4]
    simp [World.setCell, Array.getElem?_modify, hx3]
  have hg : w3.grownBy w4 (some (w.heap.size + 1)) := by
    rw [hw4]
    refine ⟨rfl, rfl, rfl, by simp [World.setCell], fun k hk hne => ?_⟩
    have hne' : k ≠ w.heap.size + 1 := fun e => hne (by rw [e])
    rw [Below.heap_setCell _ _ _ _ hne', Below.heap_setCell _ _ _ _ hne', Below.heap_setCell _ _ _ _ hne']
  have r0 : w4.cell? ⟨w.heap.size + 1, 0, none⟩ = some (.slice A0 c.old.length p0) := by simp [World.cell?, hx4]
  have r1 : w4.cell? ⟨w.heap.size + 1, 1, none⟩ = some (.slice A1 c.new.length p1) := by simp [World.cell?, hx4]
  have r2 : w4.cell? ⟨w.heap.size + 1, 2, none⟩ = some (.slice A2 c.lrn.length p2) := by simp [World.cell?, hx4]
  have HG := hid hg
  clear hw4 hx3 hx4 hg HK fz f0 f1 f2 z0 z1 z2
  go_wp2
  refine bodyPost_ret (by simp [results, Tryz.results13, go_sem, r0, r1, r2]; try rfl) rfl ?_
  have hs0 := HD.out.1
  have hs1 := HD.out.2
  have hz1 := hb1.out.size
  have hz2 := hb2.out.size
  have o0 := ((ho0.out.below (hbb2.out)).below hbb3.out).grown HG.out (fun k e => by injection e with e; omega)
  have o1 := (ho1.out.below hbb3.out).grown HG.out (fun k e => by injection e with e; omega)
  have o2 := ho2.out.grown HG.out (fun k e => by injection e with e; omega)
  have hz4 := HG.out.size
  have hz3 := hb3.out.size
  have hzb2 := hbb2.out.size
  have hzb3 := hbb3.out.size
  refine ⟨A0, A1, A2, p0, p1, p2, rfl, ⟨w1.heap.size, w2.heap.size, ⟨by omega, hzb2, by omega⟩, ⟨o0.weaken (by omega), fun k hk => (ho0.out.blkLt k hk).2⟩, ⟨o1, fun k hk => (ho1.out.blkLt k hk).2⟩, o2⟩, ⟨o0.reads, o1.reads, o2.reads, (ownsI_cap_L o0).1, (ownsI_cap_L o1).1, (ownsI_cap_L o2).1, (ownsI_cap_L o0).2, (ownsI_cap_L o1).2, (ownsI_cap_L o2).2⟩, ?_⟩
  exact ((Below.drew HB.out).trans (hb3.out.mono (by omega))).grown HG.out (by have := hb3.out.size; omega) (fun k e => by injection e with e; omega)
set_option linter.unusedVariables false in
theorem copyConf_own_L (B : Nat) (c : Qu.Cf) (hs0 : LongC c) (a0 a1 a2 : Option Addr) (k0 k1 k2 : Nat) (w : World) (h0 : CIs w B c a0 a1 a2 k0 k1 k2) (hB : B ≤ w.heap.size) :
    Calls Tryz.prog 13 #[.agg #[.slice a0 c.old.length k0, .slice a1 c.new.length k1, .slice a2 c.lrn.length k2]] w fun e w' => ∃ A0 A1 A2 p0 p1 p2, e = .returned (.agg #[.slice A0 c.old.length p0, .slice A1 c.new.length p1, .slice A2 c.lrn.length p2]) ∧ (OwnsI 3 w' w.heap.size A0 p0 c.old ∧ OwnsI 3 w' w.heap.size A1 p1 c.new ∧ OwnsI 3 w' w.heap.size A2 p2 c.lrn) ∧ CIs w' w'.heap.size c A0 A1 A2 p0 p1 p2 ∧ Below w.heap.size w w' :=
  (copyConf_sep_L B c hs0 a0 a1 a2 k0 k1 k2 w h0 hB).mono fun _ _ ⟨A0, A1, A2, p0, p1, p2, h1, ⟨m1, m2, ⟨g1, g2, g3⟩, o0, o1, o2⟩, h2⟩ => ⟨A0, A1, A2, p0, p1, p2, h1, ⟨o0.1, o1.1.weaken g1, o2.weaken (Nat.le_trans g1 g2)⟩, h2⟩
theorem copyConf_any_L (B : Nat) (c : Qu.Cf) (hs0 : LongC c) (a0 a1 a2 : Option Addr) (k0 k1 k2 : Nat) (w : World) (h0 : CIs w B c a0 a1 a2 k0 k1 k2) (hB : B ≤ w.heap.size) :
    Calls Tryz.prog 13 #[.agg #[.slice a0 c.old.length k0, .slice a1 c.new.length k1, .slice a2 c.lrn.length k2]] w fun e w' => ∃ A0 A1 A2 p0 p1 p2, e = .returned (.agg #[.slice A0 c.old.length p0, .slice A1 c.new.length p1, .slice A2 c.lrn.length p2]) ∧ CIs w' w'.heap.size c A0 A1 A2 p0 p1 p2 ∧ Below w.heap.size w w' :=
  (copyConf_own_L B c hs0 a0 a1 a2 k0 k1 k2 w h0 hB).mono fun _ _ ⟨A0, A1, A2, p0, p1, p2, h1, _, h2⟩ => ⟨A0, A1, A2, p0, p1, p2, h1, h2⟩
end Go.Proofs.YtaeoccpjdjafnaaGreat
namespace Go.Proofs.YtaeoccpjdjafnaaGreat.imagePuts
open Go.ChangeShapes Go.WideShapes Go.ChangeAt Go.RowKit
open Go.ChangeMaps (open_string shut_string)
set_option linter.unusedVariables false

theorem own : ownKnob Tryz.prog.godebug = none := by kernel_rfl
theorem laidOut : laidOutB Tryz.prog = true := by kernel_rfl

attribute [local go_sem ↓] Im.loadAt_image Im.storeAt_image
open Im in
theorem flat_map {M Q : List Hq} (e : M.map (·.h) = Q.map (·.h)) : M.flatMap encHq = Q.flatMap encHq := by
  have h1 := encQ M
  have h2 := encQ Q
  rw [e] at h1
  exact h1.symm.trans h2
open Im in
theorem fewX_map {M Q : List Hq} {L : List Vt} (h : FewX Q L) (e : M.map (·.h) = Q.map (·.h)) : FewX M L := by
  have hl := congrArg List.length e
  rw [List.length_map, List.length_map] at hl
  have hm : ∀ q ∈ M, ∃ q0 ∈ Q, q0.h = q.h := fun q hq => by
    have : q.h ∈ Q.map (·.h) := by rw [← e]; exact List.mem_map.2 ⟨q, hq, rfl⟩
    exact List.mem_map.1 this
  refine ⟨by rw [hl]; exact h.hq, h.lv, fun q hq => ?_, fun q hq => ?_, by rw [e]; exact h.ok, by rw [flat_map e, e]; exact h.len, by rw [e]; exact h.big, by rw [e]; exact h.low⟩
  · obtain ⟨q0, h0, e0⟩ := hm q hq
    rw [← e0]; exact h.sz q0 h0
  · obtain ⟨q0, h0, e0⟩ := hm q hq
    rw [← e0]; exact h.fk q0 h0
open Im in
set_option maxRecDepth 100000 in
set_option maxHeartbeats 12800000 in
theorem walk (i0 : Im.Ia) (Q0 : List Im.Hq) (L0 : List Im.Vt) (c1 : Qu.Cf) (a10 a11 a12 : Option Addr) (k10 k11 k12 : Nat) (w : World) (k0 : Im.ImIs w w.heap.size i0 Q0 L0) (k1 : CIs w w.heap.size c1 a10 a11 a12 k10 k11 k12) :
    Calls Tryz.prog 3 #[.agg #[.slice i0.h Q0.length i0.ch, .slice i0.v L0.length i0.cv], .agg #[.slice a10 c1.old.length k10, .slice a11 c1.new.length k11, .slice a12 c1.lrn.length k12]] w fun e w' => e = .returned (.bool true) ∧ Below w.heap.size w w' := by
  obtain ⟨nh, hnh⟩ : ∃ n, Q0.length = n := ⟨_, rfl⟩
  obtain ⟨nv, hnv⟩ : ∃ n, L0.length = n := ⟨_, rfl⟩
  obtain ⟨n0, hn0⟩ : ∃ n, c1.old.length = n := ⟨_, rfl⟩
  obtain ⟨n1, hn1⟩ : ∃ n, c1.new.length = n := ⟨_, rfl⟩
  obtain ⟨n2, hn2⟩ : ∃ n, c1.lrn.length = n := ⟨_, rfl⟩
  rw [hnh, hnv, hn0, hn1, hn2]
  obtain ⟨wB, hwB⟩ : ∃ wB, wB = (w.alloc (.cells #[.slice i0.h nh i0.ch, .slice i0.v nv i0.cv] 25)).alloc (.cells #[.slice a10 n0 k10, .slice a11 n1 k11, .slice a12 n2 k12] 28) := ⟨_, rfl⟩
  obtain ⟨b1, hb1⟩ : ∃ b, b = w.heap.size := ⟨_, rfl⟩
  obtain ⟨b2, hb2⟩ : ∃ b, b = w.heap.size + 1 := ⟨_, rfl⟩
  obtain ⟨hbB, q1, q2⟩ := twoNew w (.cells #[.slice i0.h nh i0.ch, .slice i0.v nv i0.cv] 25) (.cells #[.slice a10 n0 k10, .slice a11 n1 k11, .slice a12 n2 k12] 28)
  rw [← hwB] at hbB q1 q2
  rw [← hb1] at q1
  rw [← hb2] at q2
  have ld1 := ldRow info_image2 Tryz.underlying25 rfl q1 rfl
  have hi1 := (k0.below hbB).more hbB.size
  have hc1 := (k1.below hbB).more hbB.size
  have HF := hid (fewI_any i0 nh nv Q0 L0 hnh.symm hnv.symm wB hi1.h)
  have HX := hid (And.intro q1 (And.intro q2 (And.intro hbB (And.intro hi1 hc1))))
  have HN := hid (And.intro hnh (And.intro hnv (And.intro hn0 (And.intro hn1 hn2))))
  have HKN := hid known_any
  rw [hwB, hb1] at ld1
  clear q1 q2 hbB hi1 hc1 k0 k1 hnh hnv hn0 hn1 hn2
  go_enter Tryz.func3, Tryz.ntmps3
  go_wp2_with fail
  rw [← hwB, ← hb2, ← hb1]
  clear hwB hb1 hb2
  refine HF.out.mono ?_
  rintro e w2 ⟨rfl, hbw2⟩
  have HB2 := hid hbw2
  obtain ⟨b, hb⟩ : ∃ b, fewI Q0 L0 = b := ⟨_, rfl⟩
  rw [hb]
  have HFW := hid hb
  clear hb hbw2 HF ld1
  cases b with
  | false =>
    go_wp2_with fail
    refine (HKN.out w2).mono ?_
    rintro e w3 ⟨rfl, hb3⟩
    have HB3 := hid (HX.out.2.2.1.trans ((HB2.out.trans (hb3.mono HB2.out.size)).mono HX.out.2.2.1.size))
    clear hb3
    go_wp2_with fail
    go_ret
    exact ⟨rfl, HB3.out⟩
  | true =>
    have q22 := (HB2.out.block _ (row_lt HX.out.2.1)).trans HX.out.2.1
    have d0 := row_cell q22 0
    have d1 := row_cell q22 1
    have d2 := row_cell q22 2
    have HC := hid (bigConf_any a10 a11 a12 n0 n1 n2 k10 k11 k12 65536 (by omega) w2)
    clear q22
    go_wp2_with fail
    refine HC.out.mono ?_
    rintro e w3 ⟨rfl, hb3⟩
    have HB3 := hid (HB2.out.trans (hb3.mono HB2.out.size))
    obtain ⟨b, hb⟩ : ∃ b, (decide (65536 < n0) || decide (65536 < n1) || decide (65536 < n2)) = b := ⟨_, rfl⟩
    rw [hb]
    have HCF := hid hb
    clear hb hb3 HB2 HC d0 d1 d2
    cases b with
    | true =>
      go_wp2_with fail
      refine (HKN.out w3).mono ?_
      rintro e w4 ⟨rfl, hb4⟩
      have HB4 := hid (HX.out.2.2.1.trans ((HB3.out.trans (hb4.mono HB3.out.size)).mono HX.out.2.2.1.size))
      clear hb4
      go_wp2_with fail
      go_ret
      exact ⟨rfl, HB4.out⟩
    | false =>
      have HLN : Hid (n0 ≤ 65536 ∧ n1 ≤ 65536 ∧ n2 ≤ 65536) := hid (by
        have h := HCF.out
        simp only [Bool.or_eq_false_iff, decide_eq_false_iff_not] at h
        omega)
      have hfx := fewX_of HX.out.2.2.2.1.h HX.out.2.2.2.1.v HFW.out
      have hf3 := (few_of HFW.out).2.2
      have hbw3 := HX.out.2.2.1.trans (HB3.out.mono HX.out.2.2.1.size)
      have hi3 := (HX.out.2.2.2.1.below HB3.out).more HB3.out.size
      have hc3 := (HX.out.2.2.2.2.below HB3.out).more HB3.out.size
      have q31 := (HB3.out.block _ (row_lt HX.out.1)).trans HX.out.1
      have q32 := (HB3.out.block _ (row_lt HX.out.2.1)).trans HX.out.2.1
      have ld3 := ldRow info_image2 Tryz.underlying25 rfl q31 rfl
      have HCP := hid (copyIm_any i0 nh nv Q0 L0 HN.out.1 HN.out.2.1 (by have := HN.out.1; have := hfx.hq; omega) (by have := HN.out.2.1; have := hfx.lv; omega) (fun q hq => ⟨⟨hfx.fk q hq, fun e he => by have := (pt_lens (hf3 q hq)).2.1; have := weigh_mem he; omega⟩, by have := (pt_lens (hf3 q hq)).2.2.2.2.2; omega⟩) w3 hi3.h hi3.v)
      have HFX := hid hfx
      have HW := hid (And.intro hbw3 (And.intro hi3 (And.intro hc3 (And.intro q31 q32))))
      clear hfx hf3 hbw3 hi3 hc3 q31 q32 HX HB3 HFW HCF
      go_wp2_with fail
      refine HCP.out.mono ?_
      rintro e w4 ⟨i4, rfl, ⟨Q4, hQ4, ho4⟩, hb4⟩
      obtain ⟨w5, hw5⟩ : ∃ w5, w5 = w4.alloc (.cells #[.slice i4.h nh i4.ch, .slice i4.v nv i4.cv] 25) := ⟨_, rfl⟩
      have hst5 := stNew w4 25 2 info_image2 #[.slice none 0 0, .slice none 0 0] #[.slice i4.h nh i4.ch, .slice i4.v nv i4.cv] rfl rfl (by simp [Value.oneCell'])
      obtain ⟨b5, hb5⟩ : ∃ b, b = w4.heap.size := ⟨_, rfl⟩
      have r5 : w5.heap[b5]? = some (.cells #[.slice i4.h nh i4.ch, .slice i4.v nv i4.cv] 25 (0, 0)) := by rw [hw5, hb5]; exact heap_alloc_new _ _
      have hb45 : Below w4.heap.size w4 w5 := by rw [hw5]; exact (Below.refl _ _).alloc (Nat.le_refl _) _
      have hb35 : Below w3.heap.size w3 w5 := hb4.trans (hb45.mono hb4.size)
      have q52 := (hb35.block _ (row_lt HW.out.2.2.2.2)).trans HW.out.2.2.2.2
      have d0 := row_cell q52 0
      have d1 := row_cell q52 1
      have d2 := row_cell q52 2
      have hc5 := (HW.out.2.2.1.below hb35).more hb35.size
      have HCC := copyConf_own_L w5.heap.size c1 (by have := HN.out.2.2; have := HLN.out; exact ⟨by omega, by omega, by omega⟩) a10 a11 a12 k10 k11 k12 w5 hc5 (Nat.le_refl _)
      rw [HN.out.2.2.1, HN.out.2.2.2.1, HN.out.2.2.2.2] at HCC
      replace HCC := hid HCC
      have H5 := hid (And.intro r5 (And.intro hb35 (And.intro hQ4 ((ho4.below hb45).wide (Nat.le_refl _) hb45.size))))
      clear r5 hb45 hb35 q52 hc5 hQ4 ho4 hb4 ld3 HCP
      rw [hw5] at d0 d1 d2
      go_wp2_with fail
      rw [← hw5, ← hb5]
      clear hb5 hw5 d0 d1 d2 hst5
      refine HCC.out.mono ?_
      rintro e w6 ⟨A0, A1, A2, p0, p1, p2, rfl, _, hc6, hb6⟩
      obtain ⟨w7, hw7⟩ : ∃ w7, w7 = w6.alloc (.cells #[.slice A0 n0 p0, .slice A1 n1 p1, .slice A2 n2 p2] 28) := ⟨_, rfl⟩
      obtain ⟨b7, hb7⟩ : ∃ b, b = w6.heap.size := ⟨_, rfl⟩
      have r7 : w7.heap[b7]? = some (.cells #[.slice A0 n0 p0, .slice A1 n1 p1, .slice A2 n2 p2] 28 (0, 0)) := by rw [hw7, hb7]; exact heap_alloc_new _ _
      have hb67 : Below w6.heap.size w6 w7 := by rw [hw7]; exact (Below.refl _ _).alloc (Nat.le_refl _) _
      have hb57 : Below w5.heap.size w5 w7 := hb6.trans (hb67.mono hb6.size)
      have hb37 : Below w3.heap.size w3 w7 := H5.out.2.1.trans (hb57.mono H5.out.2.1.size)
      have FX : Hid (∀ W, Below w7.heap.size w7 W → (ldX 25 (.pointer (some ⟨b5, 0, none⟩))).run Tryz.prog W = .ok (.agg #[.slice i4.h nh i4.ch, .slice i4.v nv i4.cv]) W ∧ (ldX 25 (.pointer (some ⟨b1, 0, none⟩))).run Tryz.prog W = .ok (.agg #[.slice i0.h nh i0.ch, .slice i0.v nv i0.cv]) W ∧ (W.cell? ⟨b7, 0, none⟩ = some (.slice A0 n0 p0) ∧ W.cell? ⟨b7, 1, none⟩ = some (.slice A1 n1 p1) ∧ W.cell? ⟨b7, 2, none⟩ = some (.slice A2 n2 p2)) ∧ (W.cell? ⟨b2, 0, none⟩ = some (.slice a10 n0 k10) ∧ W.cell? ⟨b2, 1, none⟩ = some (.slice a11 n1 k11) ∧ W.cell? ⟨b2, 2, none⟩ = some (.slice a12 n2 k12))) := hid (fun W hb => by
        have x5 := (hb57.block _ (row_lt H5.out.1)).trans H5.out.1
        have x1 := (hb37.block _ (row_lt HW.out.2.2.2.1)).trans HW.out.2.2.2.1
        have x2 := (hb37.block _ (row_lt HW.out.2.2.2.2)).trans HW.out.2.2.2.2
        have y5 := (hb.block _ (row_lt x5)).trans x5
        have y1 := (hb.block _ (row_lt x1)).trans x1
        have y2 := (hb.block _ (row_lt x2)).trans x2
        have y7 := (hb.block _ (row_lt r7)).trans r7
        exact ⟨ldRow info_image2 Tryz.underlying25 rfl y5 rfl, ldRow info_image2 Tryz.underlying25 rfl y1 rfl, ⟨row_cell y7 0, row_cell y7 1, row_cell y7 2⟩, ⟨row_cell y2 0, row_cell y2 1, row_cell y2 2⟩⟩)
      have HH := hid (And.intro (HFX.out) (And.intro H5.out.2.2.1 (And.intro HLN.out HN.out)))
      have HI : Hid (∀ W, Below w7.heap.size w7 W → ImIs W W.heap.size i0 Q0 L0 ∧ InIm W w3.heap.size w5.heap.size i4 Q4 L0 ∧ CIs W W.heap.size c1 a10 a11 a12 k10 k11 k12 ∧ CIs W W.heap.size c1 A0 A1 A2 p0 p1 p2) := hid (fun W hb => by
        have h5 := (hb57.trans (hb.mono hb57.size))
        have h3 := (hb37.trans (hb.mono hb37.size))
        have h6 := (hb67.trans (hb.mono hb67.size))
        exact ⟨(HW.out.2.1.below h3).more h3.size, H5.out.2.2.2.below h5, (HW.out.2.2.1.below h3).more h3.size, (hc6.below h6).more h6.size⟩)
      have HBW := hid (HW.out.1.trans (hb37.mono HW.out.1.size))
      obtain ⟨lb, hlb⟩ : ∃ lb, encIm ⟨Q0.map (·.h), L0⟩ = lb := ⟨_, rfl⟩
      obtain ⟨n, hn⟩ : ∃ n, lb.length = n := ⟨_, rfl⟩
      have hfx := HFX.out
      have hfx4 := fewX_map hfx H5.out.2.2.1
      have hlen := hfx.len
      have hlen4 := hfx4.len
      have hbig := hfx.big
      rw [hlb, hn] at hlen hbig
      rw [H5.out.2.2.1, hlb, hn] at hlen4
      have hQ4n : Q4.length = nh := by have := congrArg List.length H5.out.2.2.1; rw [List.length_map, List.length_map] at this; rw [this]; exact HN.out.1
      have hnh40 : nh ≤ 40 := by have := HN.out.1; have := hfx.hq; omega
      have hnv200 : nv ≤ 200 := by have := HN.out.2.1; have := hfx.lv; omega
      have P15 : Hid (∀ W, Below w7.heap.size w7 W → Calls Tryz.prog 15 #[.agg #[.slice i4.h nh i4.ch, .slice i4.v nv i4.cv]] W fun e w' => Im.Told W.heap.size W lb n e w') := hid (fun W hb => by
        have hi := HI.out W hb
        have hl5 : w5.heap.size ≤ W.heap.size := by have := hb57.size; have := hb.size; omega
        have hw := hi.2.1.wide (Nat.le_refl _) hl5
        have hp := putIm_any W.heap.size W (Nat.le_refl _) Q4 nh hQ4n L0 nv HN.out.2.1 ⟨by omega, by omega⟩ hfx4.sz (by omega) i4.h i4.v i4.ch i4.cv hw.h.reads hw.v.reads n hlen4
        rw [im_enc Q4 L0 (l := lb) (by rw [H5.out.2.2.1, hlb])] at hp
        exact hp)
      have P16 : Hid (∀ W, Below w7.heap.size w7 W → Calls Tryz.prog 16 #[.agg #[.slice i0.h nh i0.ch, .slice i0.v nv i0.cv]] W (Rtold W lb n)) := hid (fun W hb => by
        have hi := HI.out W hb
        have hp := rIm_any W.heap.size W (Nat.le_refl _) Q0 nh HN.out.1 L0 nv HN.out.2.1 ⟨by omega, by omega⟩ hfx.sz (by omega) i0.h i0.v i0.ch i0.cv hi.1.h hi.1.v n hlen
        rw [im_enc Q0 L0 hlb] at hp
        exact hp)
      have P17 : Hid (∀ W, Below w7.heap.size w7 W → Calls Tryz.prog 17 #[.agg #[.slice A0 n0 p0, .slice A1 n1 p1, .slice A2 n2 p2]] W fun e w' => Im.Told W.heap.size W (encCf c1) (8 + 8 * n0 + (8 + 8 * n1) + (8 + 8 * n2)) e w') := hid (fun W hb => by
        have hi := (HI.out W hb).2.2.2
        have := HLN.out
        exact putCf_any W.heap.size W (Nat.le_refl _) c1 A0 A1 A2 p0 p1 p2 hi.o hi.n hi.l n0 n1 n2 HN.out.2.2.1 HN.out.2.2.2.1 HN.out.2.2.2.2 ⟨by omega, by omega, by omega⟩)
      have P18 : Hid (∀ W, Below w7.heap.size w7 W → Calls Tryz.prog 18 #[.agg #[.slice a10 n0 k10, .slice a11 n1 k11, .slice a12 n2 k12]] W (Rtold W (encCf c1) (8 + 8 * n0 + (8 + 8 * n1) + (8 + 8 * n2)))) := hid (fun W hb => by
        have hi := (HI.out W hb).2.2.1
        have := HLN.out
        exact rConfTop_any c1 a10 a11 a12 k10 k11 k12 n0 n1 n2 HN.out.2.2.1 HN.out.2.2.2.1 HN.out.2.2.2.2 ⟨by omega, by omega, by omega⟩ W.heap.size W (Nat.le_refl _) hi.o hi.n hi.l)
      have P19 : Hid (∀ W, Below w7.heap.size w7 W → Calls Tryz.prog 19 #[.agg #[.slice i4.h nh i4.ch, .slice i4.v nv i4.cv], .agg #[.slice i0.h nh i0.ch, .slice i0.v nv i0.cv]] W fun e w' => e = .returned (.bool true) ∧ Below W.heap.size W w') := hid (fun W hb => by
        have hi := HI.out W hb
        have hl5 : w5.heap.size ≤ W.heap.size := by have := hb57.size; have := hb.size; omega
        have hw := hi.2.1.wide (Nat.le_refl _) hl5
        exact sameIm_any i4 i0 nh nv Q4 Q0 L0 hQ4n HN.out.2.1 H5.out.2.2.1 (by omega) (by omega) hfx4.fk W hw.h.reads hi.1.h hw.v.reads hi.1.v)
      have P20 : Hid (∀ W, Below w7.heap.size w7 W → Calls Tryz.prog 20 #[.agg #[.slice A0 n0 p0, .slice A1 n1 p1, .slice A2 n2 p2], .agg #[.slice a10 n0 k10, .slice a11 n1 k11, .slice a12 n2 k12]] W fun e w' => e = .returned (.bool true) ∧ Below W.heap.size W w') := hid (fun W hb => by
        have hi := (HI.out W hb).2.2
        have := HLN.out
        have hL : LongC c1 := ⟨by have := HN.out.2.2.1; omega, by have := HN.out.2.2.2.1; omega, by have := HN.out.2.2.2.2; omega⟩
        have hp := sameConf_any_L W.heap.size W.heap.size c1 c1 hL hL A0 A1 A2 a10 a11 a12 p0 p1 p2 k10 k11 k12 W hi.2 hi.1 (Nat.le_refl _) (Nat.le_refl _) rfl
        rw [HN.out.2.2.1, HN.out.2.2.2.1, HN.out.2.2.2.2] at hp
        exact hp)
      have HLB := hid (And.intro hn (show n ≤ maxLen by unfold maxLen; omega))
      have HLC : Hid ((encCf c1).length = 8 + 8 * n0 + (8 + 8 * n1) + (8 + 8 * n2) ∧ 8 + 8 * n0 + (8 + 8 * n1) + (8 + 8 * n2) ≤ maxLen) := hid (by
        have h := encCf_length c1
        unfold confLen at h
        rw [HN.out.2.2.1, HN.out.2.2.2.1, HN.out.2.2.2.2] at h
        have := HLN.out
        exact ⟨by simpa using h, by unfold maxLen; omega⟩)
      have s0 := FX.out w7 (Below.refl _ _)
      have s1 := FX.out w7.drew (Below.refl _ _).drew
      have B7 := hid (show Below w7.heap.size w7 w7.drew from (Below.refl _ _).drew)
      obtain ⟨qc, hqc⟩ : ∃ qc, 8 + 8 * n0 + (8 + 8 * n1) + (8 + 8 * n2) = qc := ⟨_, rfl⟩
      rw [hqc] at HLC P17 P18
      clear r7 hb67 hb57 hb37 hc6 hb6 HW H5 HCC hfx hfx4 hlen hlen4 hbig hlb hn hQ4n hnh40 hnv200 hqc HH HI HFX HLN HN
      go_wp2_with fail
      rw [← hw7, ← hb7]
      clear hb7 hw7
      go_region_held3 (fun W => (ldX 25 (.pointer (some ⟨b5, 0, none⟩))).run Tryz.prog W = .ok (.agg #[.slice i4.h nh i4.ch, .slice i4.v nv i4.cv]) W ∧ (ldX 25 (.pointer (some ⟨b1, 0, none⟩))).run Tryz.prog W = .ok (.agg #[.slice i0.h nh i0.ch, .slice i0.v nv i0.cv]) W ∧ (W.cell? ⟨b7, 0, none⟩ = some (.slice A0 n0 p0) ∧ W.cell? ⟨b7, 1, none⟩ = some (.slice A1 n1 p1) ∧ W.cell? ⟨b7, 2, none⟩ = some (.slice A2 n2 p2)) ∧ (W.cell? ⟨b2, 0, none⟩ = some (.slice a10 n0 k10) ∧ W.cell? ⟨b2, 1, none⟩ = some (.slice a11 n1 k11) ∧ W.cell? ⟨b2, 2, none⟩ = some (.slice a12 n2 k12)))
        (first | with_reducible exact s15 | with_reducible exact s14 | with_reducible exact s13 | with_reducible exact s12 | with_reducible exact s11 | with_reducible exact s10 | with_reducible exact s9 | with_reducible exact s8 | with_reducible exact s1 | with_reducible exact s0 | fail)
        (first
          | (go_at_call 20; refine (P20.out _ B14.out).mono ?_; rintro e w15 ⟨rfl, hb⟩; have B15 := hid (B14.out.trans (hb.mono B14.out.size)); have s15 := FX.out _ B15.out; clear hb)
          | (go_at_call 19; refine (P19.out _ B13.out).mono ?_; rintro e w14 ⟨rfl, hb⟩; have B14 := hid (B13.out.trans (hb.mono B13.out.size)); have s14 := FX.out _ B14.out; clear hb)
          | (go_at_call 14; refine (same_T _ _ A11 A12 _ _ (encCf c1) qc HLC.out.1 HLC.out.2 _ I11.out I12.out).mono ?_; rintro e w13 ⟨rfl, j13, rfl⟩; have B13 := hid (below_drewN B12.out j13); have s13 := FX.out _ B13.out)
          | (go_at_call 18; refine (P18.out _ B11.out).mono ?_; rintro e w12 ⟨A12, c12, rfl, hb⟩; have B12 := hid (B11.out.trans (hb.bel.mono B11.out.size)); have s12 := FX.out _ B12.out; have I12 := hid hb.is; have I11 := hid (J11.out.below hb.bel); clear hb)
          | (go_at_call 17; refine (P17.out _ B10.out).mono ?_; rintro e w11 ⟨A11, c11, rfl, hb⟩; have B11 := hid (B10.out.trans (hb.put.bel.mono B10.out.size)); have s11 := FX.out _ B11.out; have J11 := hid hb.own.reads; clear hb)
          | (go_at_call 14; refine (same_T _ _ A8 A9 _ _ lb n HLB.out.1 HLB.out.2 _ I8.out I9.out).mono ?_; rintro e w10 ⟨rfl, j10, rfl⟩; have B10 := hid (below_drewN B9.out j10); have s10 := FX.out _ B10.out)
          | (go_at_call 16; refine (P16.out _ B8.out).mono ?_; rintro e w9 ⟨A9, c9, rfl, hb⟩; have B9 := hid (B8.out.trans (hb.bel.mono B8.out.size)); have s9 := FX.out _ B9.out; have I9 := hid hb.is; have I8 := hid (J8.out.below hb.bel); clear hb)
          | (go_at_call 15; refine (P15.out _ B7.out).mono ?_; rintro e w8 ⟨A8, c8, rfl, hb⟩; have B8 := hid (B7.out.trans (hb.put.bel.mono B7.out.size)); have s8 := FX.out _ B8.out; have J8 := hid hb.own.reads; clear hb)
          | fail)
      all_goals
        have HF := hid (HBW.out.trans (B15.out.mono HBW.out.size))
        clear s0 s1 s8 s9 s10 s11 s12 s13 s14 s15
        go_wp2_with fail
        go_ret
        exact ⟨rfl, HF.out⟩

set_option maxRecDepth 100000 in
theorem lifted (os : Os) (started : os.Started) (H : Type) (enc : TypeId × Value → H) :
    ReturnsInHanded {} Tryz.checked os 3 .any (Rows.imagePutsSpec.pre6 enc Tryz.prog Tryz.f3 Rows.imagePutsRow.domain false) (Rows.imagePutsSpec.post enc Tryz.prog Tryz.f3 false true false false) := by
  refine returnsInHanded_of_change_sized (C := Tryz.checked) own started (by kernel_rfl) Tryz.func3
    (ChangeSpec.witness6 (enc := enc) (C := Tryz.checked) false ⟨#[], #[.agg #[.slice none 0 0, .slice none 0 0], .agg #[.slice none 0 0, .slice none 0 0, .slice none 0 0]], []⟩ 8 (by kernel_rfl) (by kernel_rfl) (by kernel_rfl) (by kernel_rfl)) ?_
  intro W base args ds gs before hval0 hW hcnd hsz0 _
  have hsz : (DataW.weightsEach Tryz.prog (Tryz.f3.params.toList ++ Rows.imagePutsSpec.plain.varTypes Tryz.prog) (ds ++ gs)).all (· ≤ reachBytes) = true := hsz0
  clear hsz0
  have hval : ∀ (j : Nat) t v, Tryz.f3.params[j]? = some t → args[j]? = some v → Value.okWide Tryz.prog W .any base t v := hval0
  have hW' := hW
  obtain ⟨p, q, hA0, hV, rfl, hfz, hnd⟩ := hW
  have hA : DataW.TrodAll enc Tryz.prog W 0 (fun _ => true) true Tryz.f3.params.toList args.toList ds p := hA0
  rw [Tryz.params3] at hA hval hsz
  obtain ⟨v0, vs0, d0, ds0, p0, q0, hargs, rfl, rfl, g0, t0⟩ := trodAll_cons hA
  obtain ⟨v1, vs1, d1, ds1, p1, q1, rfl, rfl, rfl, g1, t1⟩ := trodAll_cons t0
  obtain ⟨rfl, rfl, rfl⟩ := trodAll_nil t1
  obtain rfl : args = #[v0, v1] := by cases args; simp_all
  obtain ⟨rfl, rfl⟩ := trodVars_none hV
  obtain ⟨cs0, rfl, sz0⟩ := okWide_struct Tryz.underlying25 (hval 0 25 v0 rfl rfl)
  have m0 := g0
  have lt0 : ∀ x ∈ p0, x.block < W.heap.size := by obtain ⟨m, hm⟩ := m0; exact DataW.trod_lt m _ _ _ hm
  obtain ⟨i0, Q0, L0, rfl, k0⟩ := Im.image_open sz0 g0
  obtain ⟨cs1, rfl, sz1⟩ := okWide_struct Tryz.underlying28 (hval 1 28 v1 rfl rfl)
  have m1 := g1
  have lt1 : ∀ x ∈ p1, x.block < W.heap.size := by obtain ⟨m, hm⟩ := m1; exact DataW.trod_lt m _ _ _ hm
  obtain ⟨c1, a10, a11, a12, k10, k11, k12, rfl, k1⟩ := conf_open sz1 g1
  clear hA0 hval0
  refine (walk i0 Q0 L0 c1 a10 a11 a12 k10 k11 k12 W k0 k1).mono fun e W' ⟨he, bel⟩ => ?_
  subst he
  exact ⟨_, rfl, _, _, _, [], _, [], hW', trodAll_mk1 (shut_bool Tryz.underlying4 _), (trodAll_cons_mk (Below.trod laidOut (by kernel_rfl) (of_decide_eq_true (by kernel_rfl)) m0 bel lt0) (trodAll_cons_mk (Below.trod laidOut (by kernel_rfl) (of_decide_eq_true (by kernel_rfl)) m1 bel lt1) trodAll_mk0)), rfl, bel.frame _, fun h => by cases h⟩

theorem over : Rows.imagePutsRow.holds Tryz.pinned (OpenSpec.ofChange Rows.imagePutsSpec) :=
  OpenClaim.holds_of_wide 3 Tryz.f3 rfl rfl rfl rfl rfl rfl rfl ⟨rfl, rfl, rfl, rfl, rfl⟩ rfl rfl rfl rfl rfl (by kernel_rfl) Tryz.func3 (by kernel_rfl)
    (of_decide_eq_true (by kernel_rfl)) (by unfold Func.isWrapper; first | (rw [if_pos (by decide +kernel)]; kernel_rfl) | (rw [if_neg (by decide +kernel)]; exact ⟨rfl, rfl⟩))
    (fun os started H enc _ => lifted os started H enc)

theorem proved : Rows.ImagePutsSaid := over
end Go.Proofs.YtaeoccpjdjafnaaGreat.imagePuts
