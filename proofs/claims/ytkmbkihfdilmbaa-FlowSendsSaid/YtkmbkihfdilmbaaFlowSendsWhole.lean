/- What is to be sent by any flow is the document's message; what is handed in stays. Conditions: none. -/
import Derived.Test.YtkmbkihfdilmbaaFlowSendsPartAC
import Derived.Test.YtkmbkihfdilmbaaFlowSendsPartAA
import Derived.Test.YtkmbkihfdilmbaaFlowSendsPartAD
import Derived.Deep.Slices
import Derived.Deep.Fields
import Derived.ChangeSame
import Derived.WalkLawsBesides
import Derived.ProofKit
import Derived.OpenShut
import Derived.Test.YtkmbkihfdilmbaaFlowSendsPartAB
import Derived.Test.YtkmbkihfdilmbaaRows
import Derived.Deep.RegionHeld3
import Derived.Deep.CutRange
import Derived.WalkKit
import Derived.ShutString
import Derived.ChangeOld
import Derived.Below
import Derived.SizedLaws
namespace Go.Proofs.Ytkmbkihfdilmbaa.Im
open Go Go.RowKit
open Rl (En Lg)
open Qu (Cf)
set_option maxRecDepth 100000
set_option linter.unusedVariables false
attribute [local go_sem ↓] loadAt_hard storeAt_hard loadAt_log1 storeAt_log1 loadAt_conf3 storeAt_conf3
local instance lo14 : Lo := ⟨0⟩
set_option maxHeartbeats 3200000 in
theorem copyH_any (x : Hd) (ad : Ad) (hf : FewK x.p ∧ Rl.Few x.p.log.es) (hsn : x.p.sn.length ≤ 140737488355328) (w : World) (h : IsPt w w.heap.size x.p ad) :
    Calls Try.prog 25 #[.agg #[.int .i64 x.g, .int .i64 x.t, .int .i64 x.v, .int .i64 x.p.log.base, .int .i64 x.p.log.term, .slice ad.e x.p.log.es.length ad.ce, .slice ad.o x.p.cf.old.length ad.co, .slice ad.n x.p.cf.new.length ad.cn, .slice ad.l x.p.cf.lrn.length ad.cl, .slice ad.s x.p.sn.length ad.cs]] w fun e w' => ∃ a' : Ad, e = .returned (.agg #[.int .i64 x.g, .int .i64 x.t, .int .i64 x.v, .int .i64 x.p.log.base, .int .i64 x.p.log.term, .slice a'.e x.p.log.es.length a'.ce, .slice a'.o x.p.cf.old.length a'.co, .slice a'.n x.p.cf.new.length a'.cn, .slice a'.l x.p.cf.lrn.length a'.cl, .slice a'.s x.p.sn.length a'.cs]) ∧ OwnPt w' w.heap.size w'.heap.size x.p a' ∧ Below w.heap.size w w' := by
  obtain ⟨wA, hwA⟩ : ∃ wA, wA = (w.alloc (.cells #[.int .i64 x.g, .int .i64 x.t, .int .i64 x.v, .int .i64 x.p.log.base, .int .i64 x.p.log.term, .slice ad.e x.p.log.es.length ad.ce, .slice ad.o x.p.cf.old.length ad.co, .slice ad.n x.p.cf.new.length ad.cn, .slice ad.l x.p.cf.lrn.length ad.cl, .slice ad.s x.p.sn.length ad.cs] 52)).alloc (.cells #[.int .i64 0, .int .i64 0, .int .i64 0, .int .i64 0, .int .i64 0, .slice none 0 0, .slice none 0 0, .slice none 0 0, .slice none 0 0, .slice none 0 0] 52) := ⟨_, rfl⟩
  obtain ⟨b0, hb0⟩ : ∃ b, b = w.heap.size := ⟨_, rfl⟩
  obtain ⟨b1, hb1⟩ : ∃ b, b = w.heap.size + 1 := ⟨_, rfl⟩
  have hsA : wA.heap.size = w.heap.size + 2 := by rw [hwA]; simp
  have hbA : Below w.heap.size w wA := by rw [hwA]; exact ((Below.refl _ w).alloc (Nat.le_refl _) _).alloc (by simp) _
  have hr0 : wA.heap[b0]? = some (.cells #[.int .i64 x.g, .int .i64 x.t, .int .i64 x.v, .int .i64 x.p.log.base, .int .i64 x.p.log.term, .slice ad.e x.p.log.es.length ad.ce, .slice ad.o x.p.cf.old.length ad.co, .slice ad.n x.p.cf.new.length ad.cn, .slice ad.l x.p.cf.lrn.length ad.cl, .slice ad.s x.p.sn.length ad.cs] 52 (0, 0)) := by rw [hwA, heap_alloc_old _ _ (by rw [hb0]; simp), hb0]; exact heap_alloc_new w _
  have hr1 : wA.heap[b1]? = some (.cells #[.int .i64 0, .int .i64 0, .int .i64 0, .int .i64 0, .int .i64 0, .slice none 0 0, .slice none 0 0, .slice none 0 0, .slice none 0 0, .slice none 0 0] 52 (0, 0)) := by
    have := heap_alloc_new (w.alloc (.cells #[.int .i64 x.g, .int .i64 x.t, .int .i64 x.v, .int .i64 x.p.log.base, .int .i64 x.p.log.term, .slice ad.e x.p.log.es.length ad.ce, .slice ad.o x.p.cf.old.length ad.co, .slice ad.n x.p.cf.new.length ad.cn, .slice ad.l x.p.cf.lrn.length ad.cl, .slice ad.s x.p.sn.length ad.cs] 52)) (.cells #[.int .i64 0, .int .i64 0, .int .i64 0, .int .i64 0, .int .i64 0, .slice none 0 0, .slice none 0 0, .slice none 0 0, .slice none 0 0, .slice none 0 0] 52)
    rw [World.size_alloc, ← hwA, ← hb1] at this
    exact this
  have HL := hid (copyLog_any x.p.log ad.e ad.ce x.p.log.es.length rfl hf.1.es hf.2 wA ((h.es.below hbA).more hbA.size))
  have ld0 := ldLogH (k := 3) hr0 rfl rfl rfl
  rw [hwA, hb0] at ld0
  have H0 := hid (And.intro hr0 (And.intro hr1 (And.intro hbA (And.intro hsA (And.intro hb0 hb1)))))
  have HP := hid (And.intro h hf)
  have HSN := hid hsn
  clear hr0 hr1 hbA hsA h hf hsn
  go_enter Try.func25, Try.ntmps25
  go_wp2_with fail
  rw [← hwA]
  clear hwA ld0
  refine HL.out.mono ?_
  rintro e w1 ⟨A5, c5, rfl, ho1, hb1w⟩
  rw [← hb1, ← hb0]
  have hne : b0 ≠ b1 := by omega
  have z0 := H0.out.2.2.2.1
  have hb0A : b0 < wA.heap.size := by omega
  have hb1A : b1 < wA.heap.size := by omega
  have hlo0 : w.heap.size ≤ b0 := by omega
  have hlo1 : w.heap.size ≤ b1 := by omega
  have hAsz : w.heap.size ≤ wA.heap.size := by omega
  clear hb0 hb1 z0
  obtain ⟨ad1, had1⟩ : ∃ a : Ad, a = { ad with e := A5, ce := c5 } := ⟨_, rfl⟩
  have hr01 := (hb1w.block _ (by omega)).trans H0.out.1
  have hr11 := (hb1w.block _ (by omega)).trans H0.out.2.1
  have hst1 := stAt info_log33 (conf_there hr01 3 3 (by simp)) #[.int .i64 x.p.log.base, .int .i64 x.p.log.term, .slice A5 x.p.log.es.length c5] rfl (by simp [Value.oneCell'])
  have hT2 := turned_setCells b0 [.int .i64 x.p.log.base, .int .i64 x.p.log.term, .slice A5 x.p.log.es.length c5] w1 3
  have hr02 : (w1.setCells b0 3 [.int .i64 x.p.log.base, .int .i64 x.p.log.term, .slice A5 x.p.log.es.length c5]).heap[b0]? = some (.cells #[.int .i64 x.g, .int .i64 x.t, .int .i64 x.v, .int .i64 x.p.log.base, .int .i64 x.p.log.term, .slice ad1.e x.p.log.es.length ad1.ce, .slice ad1.o x.p.cf.old.length ad1.co, .slice ad1.n x.p.cf.new.length ad1.cn, .slice ad1.l x.p.cf.lrn.length ad1.cl, .slice ad1.s x.p.sn.length ad1.cs] 52 (0, 0)) := by
    rw [had1]
    exact row_set (row_set (row_set hr01 3 (.int .i64 x.p.log.base)) 4 (.int .i64 x.p.log.term)) 5 (.slice A5 x.p.log.es.length c5)
  obtain ⟨w2, hw2⟩ : ∃ w2, w2 = w1.setCells b0 3 [.int .i64 x.p.log.base, .int .i64 x.p.log.term, .slice A5 x.p.log.es.length c5] := ⟨_, rfl⟩
  have hst1' : (stX 25 (.pointer (some ⟨b0, 3, none⟩)) (.agg #[.int .i64 x.p.log.base, .int .i64 x.p.log.term, .slice A5 x.p.log.es.length c5])).run Try.prog w1 = .ok () w2 := by rw [hw2]; exact hst1
  rw [← hw2] at hT2 hr02
  clear hst1 hw2
  have hr12 := (hT2.block b1 (row_lt hr11) (by omega)).trans hr11
  have hbel1 : Below w.heap.size w w1 := H0.out.2.2.1.trans (hb1w.mono (by omega))
  have hbel2 : Below w.heap.size w w2 := hbel1.trans (hT2.below hbel1.size (fun k hk => by omega))
  have ld2 := ldConfH (k := 6) hr02 rfl rfl rfl
  have HC := hid (copyConf_sep w.heap.size x.p.cf HP.out.2.1.sh ad.o ad.n ad.l ad.co ad.cn ad.cl w2 (HP.out.1.cis.below hbel2) hbel2.size)
  have e1o : ad1.o = ad.o ∧ ad1.co = ad.co ∧ ad1.n = ad.n ∧ ad1.cn = ad.cn ∧ ad1.l = ad.l ∧ ad1.cl = ad.cl := by rw [had1]; exact ⟨rfl, rfl, rfl, rfl, rfl, rfl⟩
  rw [e1o.1, e1o.2.1, e1o.2.2.1, e1o.2.2.2.1, e1o.2.2.2.2.1, e1o.2.2.2.2.2] at ld2
  have H2 := hid (And.intro hr02 (And.intro hr12 (And.intro hbel2 (And.intro ho1 (And.intro hT2 (And.intro hb1w had1))))))
  clear hr01 hr11 hT2 hr02 hr12 hbel1 hbel2 e1o ho1 hb1w had1
  go_wp2_with fail
  refine HC.out.mono ?_
  rintro e w3 ⟨B0, B1, B2, p0, p1, p2, rfl, ⟨m1, m2, ⟨g1, g2, g3⟩, o0, o1, o2⟩, hcis, hb3⟩
  obtain ⟨ad2, had2⟩ : ∃ a : Ad, a = { ad1 with o := B0, co := p0, n := B1, cn := p1, l := B2, cl := p2 } := ⟨_, rfl⟩
  have hr03 := (hb3.block _ (row_lt H2.out.1)).trans H2.out.1
  have hr13 := (hb3.block _ (row_lt H2.out.2.1)).trans H2.out.2.1
  have hst3 := stAt info_conf33 (conf_there hr03 6 3 (by simp)) #[.slice B0 x.p.cf.old.length p0, .slice B1 x.p.cf.new.length p1, .slice B2 x.p.cf.lrn.length p2] rfl (by simp [Value.oneCell'])
  have hT4 := turned_setCells b0 [.slice B0 x.p.cf.old.length p0, .slice B1 x.p.cf.new.length p1, .slice B2 x.p.cf.lrn.length p2] w3 6
  have hr04 : (w3.setCells b0 6 [.slice B0 x.p.cf.old.length p0, .slice B1 x.p.cf.new.length p1, .slice B2 x.p.cf.lrn.length p2]).heap[b0]? = some (.cells #[.int .i64 x.g, .int .i64 x.t, .int .i64 x.v, .int .i64 x.p.log.base, .int .i64 x.p.log.term, .slice ad2.e x.p.log.es.length ad2.ce, .slice ad2.o x.p.cf.old.length ad2.co, .slice ad2.n x.p.cf.new.length ad2.cn, .slice ad2.l x.p.cf.lrn.length ad2.cl, .slice ad2.s x.p.sn.length ad2.cs] 52 (0, 0)) := by
    rw [had2]
    exact row_set (row_set (row_set hr03 6 (.slice B0 x.p.cf.old.length p0)) 7 (.slice B1 x.p.cf.new.length p1)) 8 (.slice B2 x.p.cf.lrn.length p2)
  obtain ⟨w4, hw4⟩ : ∃ w4, w4 = w3.setCells b0 6 [.slice B0 x.p.cf.old.length p0, .slice B1 x.p.cf.new.length p1, .slice B2 x.p.cf.lrn.length p2] := ⟨_, rfl⟩
  have hst3' : (stX 37 (.pointer (some ⟨b0, 6, none⟩)) (.agg #[.slice B0 x.p.cf.old.length p0, .slice B1 x.p.cf.new.length p1, .slice B2 x.p.cf.lrn.length p2])).run Try.prog w3 = .ok () w4 := by rw [hw4]; exact hst3
  rw [← hw4] at hT4 hr04
  clear hst3 hw4
  have hr14 := (hT4.block b1 (row_lt hr13) (by omega)).trans hr13
  have hbel3 : Below w.heap.size w w3 := H2.out.2.2.1.trans (hb3.mono H2.out.2.2.1.size)
  have hbel4 : Below w.heap.size w w4 := hbel3.trans (hT4.below hbel3.size (fun k hk => by omega))
  have e2s : ad2.s = ad.s ∧ ad2.cs = ad.cs := by rw [had2, H2.out.2.2.2.2.2.2]; exact ⟨rfl, rfl⟩
  have c9 : w4.cell? ⟨b0, 9, none⟩ = some (.slice ad2.s x.p.sn.length ad2.cs) := row_cell hr04 9
  rw [e2s.1, e2s.2] at c9
  have hrs := HP.out.1.rs.1
  have HS := hid (copy_N w.heap.size ad.s ad.cs x.p.sn x.p.sn.length rfl (HSN.out) w4 (HP.out.1.s.below hbel4) hbel4.size)
  have H4 := hid (And.intro hr04 (And.intro hr14 (And.intro hbel4 (And.intro hT4 (And.intro hb3 (And.intro had2 (And.intro (show w2.heap.size ≤ m1 ∧ m1 ≤ m2 ∧ m2 ≤ w3.heap.size from ⟨g1, g2, g3⟩) (And.intro o0 (And.intro o1 o2)))))))))
  clear hr03 hr13 hT4 hr04 hr14 hbel3 hbel4 hb3 had2 g1 g2 g3 o0 o1 o2 hcis e2s hrs hst1' ld2
  go_wp2_with fail
  refine HS.out.mono ?_
  rintro e w5 ⟨A9, c9', rfl, ho5, hb5⟩
  have hr05 := (hb5.block _ (row_lt H4.out.1)).trans H4.out.1
  have hr15 := (hb5.block _ (row_lt H4.out.2.1)).trans H4.out.2.1
  have hc5 := row_cell hr05 9
  have hf5 := row_free hr05 9
  obtain ⟨ad3, had3⟩ : ∃ a : Ad, a = { ad2 with s := A9, cs := c9' } := ⟨_, rfl⟩
  have hr06 : (w5.setCell ⟨b0, 9, none⟩ (.slice A9 x.p.sn.length c9')).heap[b0]? = some (.cells #[.int .i64 x.g, .int .i64 x.t, .int .i64 x.v, .int .i64 x.p.log.base, .int .i64 x.p.log.term, .slice ad3.e x.p.log.es.length ad3.ce, .slice ad3.o x.p.cf.old.length ad3.co, .slice ad3.n x.p.cf.new.length ad3.cn, .slice ad3.l x.p.cf.lrn.length ad3.cl, .slice ad3.s x.p.sn.length ad3.cs] 52 (0, 0)) := by rw [had3]; exact row_set hr05 9 (.slice A9 x.p.sn.length c9')
  have hT6 : Turned (fun k => k = b0) w5 (w5.setCell ⟨b0, 9, none⟩ (.slice A9 x.p.sn.length c9')) := Turned.one _ _ _ _
  have hr16 := (hT6.block b1 (row_lt hr15) (by omega)).trans hr15
  have hc5' : w5.cell? ⟨b0, 9, none⟩ = some (.slice ad2.s x.p.sn.length ad2.cs) := hc5
  clear hc5
  generalize hw6 : w5.setCell ⟨b0, 9, none⟩ (.slice A9 x.p.sn.length c9') = w6 at *
  have ld6 := ldRow info_hard Try.underlying52 rfl hr06 rfl
  have hst6 := stRow info_hard (cs' := #[.int .i64 x.g, .int .i64 x.t, .int .i64 x.v, .int .i64 x.p.log.base, .int .i64 x.p.log.term, .slice ad3.e x.p.log.es.length ad3.ce, .slice ad3.o x.p.cf.old.length ad3.co, .slice ad3.n x.p.cf.new.length ad3.cn, .slice ad3.l x.p.cf.lrn.length ad3.cl, .slice ad3.s x.p.sn.length ad3.cs]) hr16 rfl rfl (by simp [Value.oneCell'])
  have r7 := setRow_heap w6 b1 _ #[.int .i64 x.g, .int .i64 x.t, .int .i64 x.v, .int .i64 x.p.log.base, .int .i64 x.p.log.term, .slice ad3.e x.p.log.es.length ad3.ce, .slice ad3.o x.p.cf.old.length ad3.co, .slice ad3.n x.p.cf.new.length ad3.cn, .slice ad3.l x.p.cf.lrn.length ad3.cl, .slice ad3.s x.p.sn.length ad3.cs] _ _ hr16
  have hT7 := row_turned w6 b1 #[.int .i64 x.g, .int .i64 x.t, .int .i64 x.v, .int .i64 x.p.log.base, .int .i64 x.p.log.term, .slice ad3.e x.p.log.es.length ad3.ce, .slice ad3.o x.p.cf.old.length ad3.co, .slice ad3.n x.p.cf.new.length ad3.cn, .slice ad3.l x.p.cf.lrn.length ad3.cl, .slice ad3.s x.p.sn.length ad3.cs]
  generalize w6.setRow b1 #[.int .i64 x.g, .int .i64 x.t, .int .i64 x.v, .int .i64 x.p.log.base, .int .i64 x.p.log.term, .slice ad3.e x.p.log.es.length ad3.ce, .slice ad3.o x.p.cf.old.length ad3.co, .slice ad3.n x.p.cf.new.length ad3.cn, .slice ad3.l x.p.cf.lrn.length ad3.cl, .slice ad3.s x.p.sn.length ad3.cs] = w7 at *
  have HE : Hid (w7.heap[b1]? = some (.cells #[.int .i64 x.g, .int .i64 x.t, .int .i64 x.v, .int .i64 x.p.log.base, .int .i64 x.p.log.term, .slice ad3.e x.p.log.es.length ad3.ce, .slice ad3.o x.p.cf.old.length ad3.co, .slice ad3.n x.p.cf.new.length ad3.cn, .slice ad3.l x.p.cf.lrn.length ad3.cl, .slice ad3.s x.p.sn.length ad3.cs] 52 (0, 0)) ∧ OwnPt w7 w.heap.size w7.heap.size x.p ad3 ∧ Below w.heap.size w w7) := hid (by
    obtain ⟨g1, g2, g3⟩ := H4.out.2.2.2.2.2.2.1
    obtain ⟨o0, o1, o2⟩ := H4.out.2.2.2.2.2.2.2
    have q1 := H2.out.2.2.2.2.2.1.size
    have q2 := H2.out.2.2.2.2.1.size
    have q3 := H4.out.2.2.2.2.1.size
    have q4 := H4.out.2.2.2.1.size
    have q5 := hb5.size
    have q6 := hT6.size
    have q7 := hT7.size
    have T57 : Turned (fun k => k = b0 ∨ k = b1) w5 w7 := (hT6.mono (fun k hk => .inl hk)).trans (hT7.mono (fun k hk => .inr hk))
    have T47 : Turned (fun k => k = b0 ∨ k = b1) w4 w7 := (Turned.ofBelow _ hb5).trans T57
    have T37 : Turned (fun k => k = b0 ∨ k = b1) w3 w7 := (H4.out.2.2.2.1.mono (fun k hk => .inl hk)).trans T47
    have T27 : Turned (fun k => k = b0 ∨ k = b1) w2 w7 := (Turned.ofBelow _ H4.out.2.2.2.2.1).trans T37
    have T17 : Turned (fun k => k = b0 ∨ k = b1) w1 w7 := (H2.out.2.2.2.2.1.mono (fun k hk => .inl hk)).trans T27
    have hno : ∀ k, wA.heap.size ≤ k → ¬ (k = b0 ∨ k = b1) := fun k hk e => by omega
    have ead : ad3.e = A5 ∧ ad3.ce = c5 ∧ ad3.o = B0 ∧ ad3.co = p0 ∧ ad3.n = B1 ∧ ad3.cn = p1 ∧ ad3.l = B2 ∧ ad3.cl = p2 ∧ ad3.s = A9 ∧ ad3.cs = c9' := by
      rw [had3, H4.out.2.2.2.2.2.1, H2.out.2.2.2.2.2.2]; exact ⟨rfl, rfl, rfl, rfl, rfl, rfl, rfl, rfl, rfl, rfl⟩
    obtain ⟨f1, f2, f3, f4, f5, f6, f7, f8, f9, f10⟩ := ead
    refine ⟨r7, ⟨w1.heap.size, m1, m2, w3.heap.size, ⟨by omega, by omega, g2, g3, by omega⟩, ?_, ?_, ?_, ?_, ?_, HP.out.1.num⟩, ?_⟩
    · rw [f1, f2]
      exact (H2.out.2.2.2.1.keep T17 (fun k hk hBl => hno k hBl.1 hk)).wide (by omega) (Nat.le_refl _)
    · rw [f3, f4]
      exact ⟨(ownsI_turned o0.1 T37 (fun k hk => hno k (by have := (o0.1.blkLt k hk).1; omega))).weaken (by omega), o0.2⟩
    · rw [f5, f6]
      exact ⟨ownsI_turned o1.1 T37 (fun k hk => hno k (by have := (o1.1.blkLt k hk).1; omega)), o1.2⟩
    · rw [f7, f8]
      exact ⟨ownsI_turned o2 T37 (fun k hk => hno k (by have := (o2.blkLt k hk).1; omega)), fun k hk => (o2.blkLt k hk).2⟩
    · rw [f9, f10]
      exact ⟨(ho5.turned T57 (fun k hk => hno k (by have := (ho5.blkLt k hk).1; omega))).weaken (by omega), fun k hk => by have := (ho5.blkLt k hk).2; omega⟩
    · have hbel5 : Below w.heap.size w w5 := H4.out.2.2.1.trans (hb5.mono H4.out.2.2.1.size)
      exact hbel5.trans (T57.below hbel5.size (fun k hk => by omega)))
  clear hr05 hr15 hr06 hT6 hr16 r7 hT7 ho5 hb5 had3 hst3' c9
  go_wp2_with fail
  refine bodyPost_ret (results_cell_row rfl _ _ b1 _ _ _ _ rfl HE.out.1 Try.underlying52 rfl (by rw [info_hard]; rfl)) rfl ?_
  exact ⟨ad3, rfl, HE.out.2⟩
end Go.Proofs.Ytkmbkihfdilmbaa.Im
namespace Go.Proofs.Ytkmbkihfdilmbaa.Ms
open Go.RowKit
set_option maxRecDepth 100000
set_option linter.unusedVariables false
attribute [local go_sem ↓] loadAt_msg storeAt_msg
structure MIo (w : World) (B N : Nat) (m : M) (A : Option Addr) (c : Nat) (A' : Option Addr) (c' : Nat) : Prop where
  es : OwnE w B N A c m.es
  d : OwnsB 5 w B A' c' m.d
  dN : ∀ k, blk A' = some k → k < N
  one : (A = none ∧ c = 0) ∨ (A' = none ∧ c' = 0)
  few : m.es.length ≤ 50000
  hi : N ≤ w.heap.size
namespace MIo
variable {w w' : World} {B N : Nat} {m : M} {A A' : Option Addr} {c c' : Nat}
theorem turned (h : MIo w B N m A c A' c') {S : Nat → Prop} (ht : Turned S w w') (hS : ∀ k, S k → k < B ∨ N ≤ k) : MIo w' B N m A c A' c' :=
  ⟨h.es.keep ht (fun k hk hB => by have := hB.1; have := hB.2; have := hS k hk; omega), h.d.turned ht (fun k hk e => by have := (h.d.blkLt k hk).1; have := h.dN k hk; have := hS k e; omega), h.dN, h.one, h.few, Nat.le_trans h.hi ht.size⟩
theorem below (h : MIo w B N m A c A' c') (hb : Below w.heap.size w w') : MIo w' B N m A c A' c' := h.turned (S := fun _ => False) (Turned.ofBelow _ hb) (fun _ e => e.elim)
end MIo
theorem MIo.nil_es {w : World} {B N : Nat} {m : M} {c : Nat} {A' : Option Addr} {c' : Nat} (h : MIo w B N m none c A' c') : m.es = [] := by
  rcases hh : m.es with _ | ⟨x, L⟩
  · rfl
  · obtain ⟨_, _, e, _⟩ := h.es.reads.cells 0 (by rw [hh]; simp)
    cases e
set_option maxHeartbeats 3200000 in
theorem spoilMo_any (w : World) (b B N cc : Nat) (m : M) (A : Option Addr) (c : Nat) (A' : Option Addr) (c' : Nat) (h : MIo w B N m A c A' c') (hx : Bx w b m A c A' c') (hb : N ≤ b) :
    Calls Try.prog 29 #[.slice (some ⟨b, 0, none⟩) 1 cc] w fun e w' => e = .returned (.tuple #[]) ∧ Turned (fun k => Bl B N k ∨ k = b) w w' := by
  have hfew := h.few
  have hdl := h.d.room
  obtain ⟨ne, hne⟩ : ∃ ne, ne = m.es.length := ⟨_, rfl⟩
  have HNE := hid hne
  have HE : Hid (Calls Try.prog 58 #[.slice A ne c] w fun e w' => e = .returned (.tuple #[]) ∧ Turned (Bl B N) w w' ∧ OwnsB 5 w' B A' c' m.d) := by
    rcases h.one with ⟨rfl, rfl⟩ | ⟨rfl, rfl⟩
    · have he : m.es = [] := h.nil_es
      refine hid ((spoilE_any 0 0 none 0 ne m.es hne.symm (by omega) w (by rw [he]; exact OwnE.nil _ _ _)).mono fun e w' ⟨h1, h2⟩ => ⟨h1, ?_, ?_⟩)
      · exact ⟨h2.os, h2.tape, h2.output, h2.size, fun k hk _ => h2.block k hk (fun e => by have := e.2; omega)⟩
      · exact h.d.turned h2 (fun k _ e => by have := e.2; omega)
    · have hd : m.d = [] := h.d.reads.of_none
      refine hid ((spoilE_any B N A c ne m.es hne.symm (by omega) w h.es).mono fun e w' ⟨h1, h2⟩ => ⟨h1, h2, ?_⟩)
      rw [hd]; exact OwnsB.nil _ _ _
  have HX := hid hx
  have HD := hid (And.intro h.dN hdl)
  have HBB := hid h.d.blkLt
  have hlt := row_lt hx.row
  have hc15 := hx.c15
  rw [← hne] at hc15
  have HB := hid hb
  clear h hfew hdl hne hx hb
  go_enter Try.func29, Try.ntmps29
  go_wp2_with fail
  go_loopw [2] (fun i wr => ∃ k : Nat, k ≤ 1 ∧ i = .int .i64 (k : Int) ∧ Hid (k = 0 → wr = w) ∧ Hid (Turned (fun k => Bl B N k ∨ k = b) w wr)) (fun i _ => 1 - (RowKit.intOf i).toNat)
  case atStart => exact ⟨0, by omega, rfl, hid (fun _ => rfl), hid (Turned.refl _ _)⟩
  case round =>
    obtain ⟨k, hk, rfl, hw, hT⟩ := hrel
    by_cases hk0 : k = 0
    · have hwr := hw.out hk0
      subst hk0
      subst hwr
      clear hw hT hk
      go_wp2_with fail
      refine HE.out.mono ?_
      rintro e w2 ⟨rfl, ht2, ho2⟩
      have hx2 : Bx w2 b m A c A' c' := ⟨(ht2.block b hlt (fun e => by have := e.2; have := HB.out; omega)).trans HX.out.row⟩
      have hc16 := hx2.c16
      have HSP := hid (spoil_N B A' c' m.d m.d.length rfl (Nat.le_trans HD.out.2.1 HD.out.2.2) w2 ho2)
      have H2 := hid (And.intro ht2 hx2)
      clear ht2 ho2 hx2 HE
      go_wp2_with fail
      refine HSP.out.mono ?_
      rintro e w3 ⟨rfl, hg3⟩
      have ht3 : Turned (fun k => blk A' = some k) w2 w3 := Turned.ofGrown hg3 (fun j hj => hj)
      have hx3 : Bx w3 b m A c A' c' := ⟨(ht3.block b (row_lt H2.out.2.row) (fun e => by have := HD.out.1 b e; have := HB.out; omega)).trans H2.out.2.row⟩
      have hst := st_row w3 b _ (#[.int .i64 M77.K, .int .i64 M77.F, .int .i64 M77.T, .int .i64 M77.g, .int .i64 M77.t, .int .i64 M77.i, .int .i64 M77.p, .int .i64 M77.c, .int .i64 M77.r, .int .i64 M77.x, .int .i64 M77.a, .int .i64 M77.b, .int .i64 M77.v, .int .i64 M77.s, .bool M77.ok, .slice none M77.es.length 0, .slice none M77.d.length 0]) hx3.row rfl rfl (msg_one M77 none 0 none 0)
      obtain ⟨w4, hw4⟩ : ∃ w4, w4 = w3.setRow b (#[.int .i64 M77.K, .int .i64 M77.F, .int .i64 M77.T, .int .i64 M77.g, .int .i64 M77.t, .int .i64 M77.i, .int .i64 M77.p, .int .i64 M77.c, .int .i64 M77.r, .int .i64 M77.x, .int .i64 M77.a, .int .i64 M77.b, .int .i64 M77.v, .int .i64 M77.s, .bool M77.ok, .slice none M77.es.length 0, .slice none M77.d.length 0]) := ⟨_, rfl⟩
      have ht4 : Turned (fun k => k = b) w3 w4 := by rw [hw4]; exact set_turned w3 b _
      rw [← hw4] at hst
      have HT4 : Hid (Turned (fun k => Bl B N k ∨ k = b) wr w4) := hid (by
        have h1 : Turned (fun k => Bl B N k ∨ k = b) wr w2 := ⟨H2.out.1.os, H2.out.1.tape, H2.out.1.output, H2.out.1.size, fun k hk hn => H2.out.1.block k hk (fun e => hn (Or.inl e))⟩
        exact (h1.then_ ht3 (fun j _ hj => Or.inl ⟨(HBB.out j hj).1, HD.out.1 j hj⟩)).then_ ht4 (fun j _ hj => Or.inr hj))
      have hst2 : (stMsg (.pointer (some ⟨b, 0, none⟩)) (.agg #[.int .i64 (-77), .int .i64 0, .int .i64 0, .int .i64 0, .int .i64 0, .int .i64 0, .int .i64 0, .int .i64 0, .int .i64 0, .int .i64 0, .int .i64 0, .int .i64 0, .int .i64 0, .int .i64 0, .bool false, .slice none 0 0, .slice none 0 0])).run Try.prog w3 = .ok () w4 := hst
      clear ht3 hx3 ht4 hw4 hst hg3 hc15 hc16
      go_wp2_with fail
      go_roundw
      case rel => exact ⟨1, Nat.le_refl _, by go_num, hid (fun e => by cases e), HT4⟩
      case measure => simp [RowKit.intOf]
    · obtain rfl : k = 1 := by omega
      go_wp2_with fail
      go_end0
      exact ⟨rfl, hT.out⟩
end Go.Proofs.Ytkmbkihfdilmbaa.Ms
namespace Go.Proofs.Ytkmbkihfdilmbaa.Fw
open Go Go.RowKit
open Ms (M)
open Im (ldX stX Hd Pt Ad IsPt encCf bigPS bigHardS_any)
open Vo (Rw loadAt_msgV storeAt_msgV info_msgV boxes)
set_option maxRecDepth 100000
set_option linter.unusedVariables false
attribute [local go_sem ↓] loadAt_msgV storeAt_msgV loadAt_flow storeAt_flow Im.loadAt_hard Im.storeAt_hard Im.loadAt_log1 Im.storeAt_log1
def rightB (p : Pt) : Bool := (decide (0 ≤ p.log.base) && decide (p.log.base ≤ 1099511627776)) && (decide (0 ≤ p.log.term) && decide (p.log.term ≤ 1099511627776)) && !bigPS p
theorem right_no {p : Pt} (h : ¬ ((0 ≤ p.log.base ∧ p.log.base ≤ 1099511627776) ∧ (0 ≤ p.log.term ∧ p.log.term ≤ 1099511627776))) : rightB p = false := by
  rcases hB : rightB p with _ | _
  · rfl
  · exfalso
    unfold rightB at hB
    simp only [Bool.and_eq_true, decide_eq_true_eq] at hB
    exact h ⟨hB.1.1, hB.1.2⟩
theorem right_yes {p : Pt} (h1 : 0 ≤ p.log.base) (h2 : p.log.base ≤ 1099511627776) (h3 : 0 ≤ p.log.term) (h4 : p.log.term ≤ 1099511627776) : rightB p = !bigPS p := by
  unfold rightB
  simp [h1, h2, h3, h4]
set_option maxHeartbeats 3200000 in
theorem right_any (h : Hd) (ad : Ad) (w : World) (hp : IsPt w w.heap.size h.p ad) :
    Calls Try.prog 24 #[.agg #[.int .i64 h.g, .int .i64 h.t, .int .i64 h.v, .int .i64 h.p.log.base, .int .i64 h.p.log.term, .slice ad.e h.p.log.es.length ad.ce, .slice ad.o h.p.cf.old.length ad.co, .slice ad.n h.p.cf.new.length ad.cn, .slice ad.l h.p.cf.lrn.length ad.cl, .slice ad.s h.p.sn.length ad.cs]] w fun e w' => e = .returned (.bool (rightB h.p)) ∧ Below w.heap.size w w' := by
  obtain ⟨w1, hw1⟩ : ∃ w1, w1 = w.alloc (.cells #[.int .i64 h.g, .int .i64 h.t, .int .i64 h.v, .int .i64 h.p.log.base, .int .i64 h.p.log.term, .slice ad.e h.p.log.es.length ad.ce, .slice ad.o h.p.cf.old.length ad.co, .slice ad.n h.p.cf.new.length ad.cn, .slice ad.l h.p.cf.lrn.length ad.cl, .slice ad.s h.p.sn.length ad.cs] 52) := ⟨_, rfl⟩
  have r1 : Rw w1 w.heap.size #[.int .i64 h.g, .int .i64 h.t, .int .i64 h.v, .int .i64 h.p.log.base, .int .i64 h.p.log.term, .slice ad.e h.p.log.es.length ad.ce, .slice ad.o h.p.cf.old.length ad.co, .slice ad.n h.p.cf.new.length ad.cn, .slice ad.l h.p.cf.lrn.length ad.cl, .slice ad.s h.p.sn.length ad.cs] 52 := by rw [hw1]; exact heap_alloc_new w _
  have b1 : Below w.heap.size w w1 := by rw [hw1]; exact (Below.refl _ w).alloc (Nat.le_refl _) _
  have hll := Im.ldLogH r1 (k := 3) rfl rfl rfl
  have hst := Im.stNew w1 25 3 Im.info_log33 #[.int .i64 0, .int .i64 0, .slice none 0 0] #[.int .i64 h.p.log.base, .int .i64 h.p.log.term, .slice ad.e h.p.log.es.length ad.ce] rfl rfl (by simp [Value.oneCell'])
  obtain ⟨w2, hw2⟩ : ∃ w2, w2 = w1.alloc (.cells #[.int .i64 h.p.log.base, .int .i64 h.p.log.term, .slice ad.e h.p.log.es.length ad.ce] 25) := ⟨_, rfl⟩
  rw [← hw2] at hst
  obtain ⟨bl, hbl⟩ : ∃ b, b = w1.heap.size := ⟨_, rfl⟩
  have r2 : Rw w2 bl #[.int .i64 h.p.log.base, .int .i64 h.p.log.term, .slice ad.e h.p.log.es.length ad.ce] 25 := by rw [hw2, hbl]; exact heap_alloc_new w1 _
  have hb12 : Below w1.heap.size w1 w2 := by rw [hw2]; exact (Below.refl _ _).alloc (Nat.le_refl _) _
  have b2 := b1.trans (hb12.mono b1.size)
  have HBG := hid (bigHardS_any h ad w2 ((hp.below b2).more b2.size))
  have lh := ldHV (r1.keep hb12) rfl
  have HLH := hid lh
  have c0 := row_cell r2 0
  have c1 := row_cell r2 1
  have C := hid (And.intro c0 c1)
  have B2 := hid b2
  have HW1 := hid hw1
  have HBL := hid hbl
  clear hw1 hw2 r1 b1 r2 hb12 b2 lh c0 c1 hp hbl
  obtain ⟨hb, hhb⟩ : ∃ x, h.p.log.base = x := ⟨_, rfl⟩
  obtain ⟨ht, hht⟩ : ∃ x, h.p.log.term = x := ⟨_, rfl⟩
  have HQ := hid (And.intro hhb hht)
  by_cases h1 : 0 ≤ hb
  · by_cases h2 : hb ≤ 1099511627776
    · by_cases h3 : 0 ≤ ht
      · by_cases h4 : ht ≤ 1099511627776
        · rw [right_yes (hhb ▸ h1) (hhb ▸ h2) (hht ▸ h3) (hht ▸ h4)]
          obtain ⟨bb, hbb⟩ : ∃ b, bigPS h.p = b := ⟨_, rfl⟩
          rw [hbb] at HBG ⊢
          clear hbb hhb hht
          go_enter Try.func24, Try.ntmps24
          go_upto_region 1 with fail
          rw [← HW1.out]
          go_upto_region 2 with fail
          rw [← HBL.out]
          obtain ⟨c0, c1⟩ := C.out
          rw [HQ.out.1] at c0
          rw [HQ.out.2] at c1
          have lh := HLH.out
          clear hst hll
          go_wp2_with fail
          refine HBG.out.mono ?_
          rintro e w3 ⟨rfl, hb3⟩
          have B3 := hid (B2.out.trans (hb3.mono B2.out.size))
          clear hb3
          go_wp2_with fail
          go_ret
          exact ⟨rfl, B3.out⟩
        · rw [right_no (p := h.p) (fun q => h4 (hht ▸ q.2.2))]
          clear HBG hhb hht
          go_enter Try.func24, Try.ntmps24
          go_upto_region 1 with fail
          rw [← HW1.out]
          go_upto_region 2 with fail
          rw [← HBL.out]
          obtain ⟨c0, c1⟩ := C.out
          rw [HQ.out.1] at c0
          rw [HQ.out.2] at c1
          clear hst hll
          go_wp2_with fail
          go_ret
          exact ⟨rfl, B2.out⟩
      · rw [right_no (p := h.p) (fun q => h3 (hht ▸ q.2.1))]
        clear HBG hhb hht
        go_enter Try.func24, Try.ntmps24
        go_upto_region 1 with fail
        rw [← HW1.out]
        go_upto_region 2 with fail
        rw [← HBL.out]
        obtain ⟨c0, c1⟩ := C.out
        rw [HQ.out.1] at c0
        rw [HQ.out.2] at c1
        clear hst hll
        go_wp2_with fail
        go_ret
        exact ⟨rfl, B2.out⟩
    · rw [right_no (p := h.p) (fun q => h2 (hhb ▸ q.1.2))]
      clear HBG hhb hht
      go_enter Try.func24, Try.ntmps24
      go_upto_region 1 with fail
      rw [← HW1.out]
      go_upto_region 2 with fail
      rw [← HBL.out]
      obtain ⟨c0, c1⟩ := C.out
      rw [HQ.out.1] at c0
      rw [HQ.out.2] at c1
      clear hst hll
      go_wp2_with fail
      go_ret
      exact ⟨rfl, B2.out⟩
  · rw [right_no (p := h.p) (fun q => h1 (hhb ▸ q.1.1))]
    clear HBG hhb hht
    go_enter Try.func24, Try.ntmps24
    go_upto_region 1 with fail
    rw [← HW1.out]
    go_upto_region 2 with fail
    rw [← HBL.out]
    obtain ⟨c0, c1⟩ := C.out
    rw [HQ.out.1] at c0
    rw [HQ.out.2] at c1
    clear hst hll
    go_wp2_with fail
    go_ret
    exact ⟨rfl, B2.out⟩
def nextS (f : Fl) (id round : Int) (h : Hd) : M := ⟨5, id, f.n, h.g, h.t, h.p.log.base, h.p.log.term, 0, round, 0, 0, 0, 0, 0, false, [], snapD h.p⟩
def nextE (f : Fl) (id commit round : Int) (h : Hd) : M := ⟨3, id, f.n, h.g, h.t, f.x - 1, h.p.log.termV (f.x - 1), commit, round, 0, 0, 0, 0, 0, false, h.p.log.slice f.x 8, []⟩
def nextM (f : Fl) (id commit round : Int) (h : Hd) : M := if f.x ≤ h.p.log.base then nextS f id round h else nextE f id commit round h
theorem snapD_length (p : Pt) : (snapD p).length = snapN p.cf.old.length p.cf.new.length p.cf.lrn.length p.sn.length := by
  unfold snapD snapN
  rw [List.length_append, List.length_append, List.length_append, Pk.enc_length, Pk.enc_length, Im.encCf_length]
  simp [Im.confLen]
  omega
theorem weigh_few (L : List Rl.En) (h : Rl.Few L) : weigh L ≤ L.length * 65536 := by
  induction L with
  | nil => simp [weigh]
  | cons e L ih =>
    have h1 := h e List.mem_cons_self
    have h2 := ih (fun x hx => h x (List.mem_cons_of_mem _ hx))
    have h3 : weigh (e :: L) = e.d.length + weigh L := by unfold weigh; simp
    rw [h3, List.length_cons]
    omega
theorem slice_few (g : Rl.Lg) (i : Int) (h : Rl.Few g.es) : Rl.Few (g.slice i 8) ∧ (g.slice i 8).length ≤ 8 := by
  unfold Rl.Lg.slice
  split
  · exact ⟨fun e he => h e (List.mem_of_mem_drop (List.mem_of_mem_take he)), by rw [List.length_take]; exact Nat.min_le_left _ _⟩
  · exact ⟨(fun e he => by cases he), by simp⟩
theorem nextM_small (f : Fl) (id commit round : Int) (h : Hd) (hf : Rl.Few h.p.log.es) (hc : h.p.cf.old.length ≤ 1000 ∧ h.p.cf.new.length ≤ 1000 ∧ h.p.cf.lrn.length ≤ 1000) (hs : h.p.sn.length ≤ 65536) : Ms.Small (nextM f id commit round h) ∧ (nextM f id commit round h).es.length ≤ 50000 := by
  by_cases hx : f.x ≤ h.p.log.base
  · rw [show nextM f id commit round h = nextS f id round h from if_pos hx]
    refine ⟨⟨by simp [nextS], by simp [nextS, weigh], ?_⟩, by simp [nextS]⟩
    show (snapD h.p).length ≤ _
    rw [snapD_length]
    unfold snapN
    omega
  · rw [show nextM f id commit round h = nextE f id commit round h from if_neg hx]
    obtain ⟨h1, h2⟩ := slice_few h.p.log f.x hf
    have h3 := weigh_few _ h1
    refine ⟨⟨?_, ?_, by simp [nextE]⟩, ?_⟩
    · show (h.p.log.slice f.x 8).length ≤ _; omega
    · show weigh (h.p.log.slice f.x 8) ≤ _; omega
    · show (h.p.log.slice f.x 8).length ≤ _; omega
def Sent (w : World) (m : M) (e : Ending) (w' : World) : Prop := ∃ A c A' c', e = .returned (.agg #[.int .i64 m.K, .int .i64 m.F, .int .i64 m.T, .int .i64 m.g, .int .i64 m.t, .int .i64 m.i, .int .i64 m.p, .int .i64 m.c, .int .i64 m.r, .int .i64 m.x, .int .i64 m.a, .int .i64 m.b, .int .i64 m.v, .int .i64 m.s, .bool m.ok, .slice A m.es.length c, .slice A' m.d.length c']) ∧ (OwnE w' w.heap.size w'.heap.size A c m.es ∧ OwnsB 5 w' w.heap.size A' c' m.d ∧ ((A = none ∧ c = 0) ∨ (A' = none ∧ c' = 0))) ∧ Below w.heap.size w w'
theorem next_any (f : Fl) (hpl : Pl f) (id commit round : Int) (h : Hd) (ad : Ad) (hf : Fs h.p) (hok : Rl.Ok h.p.log) (hfew : Rl.Few h.p.log.es) (w : World) (hp : IsPt w w.heap.size h.p ad) :
    Calls Try.prog 26 #[.agg #[.int .i64 f.n, .int .i64 f.x, .int .i64 f.m, .int .i64 f.r], .int .i64 id, .agg #[.int .i64 h.g, .int .i64 h.t, .int .i64 h.v, .int .i64 h.p.log.base, .int .i64 h.p.log.term, .slice ad.e h.p.log.es.length ad.ce, .slice ad.o h.p.cf.old.length ad.co, .slice ad.n h.p.cf.new.length ad.cn, .slice ad.l h.p.cf.lrn.length ad.cl, .slice ad.s h.p.sn.length ad.cs], .int .i64 commit, .int .i64 round] w (Sent w (nextM f id commit round h)) := by
  unfold nextM
  split
  · next hx =>
    refine (nextS_any f id commit round h ad _ _ _ _ _ (snapD h.p).length rfl rfl rfl rfl rfl (snapD_length h.p).symm hf hx w hp).mono ?_
    rintro e w' ⟨A, c, rfl, ho, hb⟩
    exact ⟨none, 0, A, c, rfl, ⟨OwnE.nil _ _ _, ho, .inl ⟨rfl, rfl⟩⟩, hb⟩
  · next hx =>
    refine (nextE_any f hpl id commit round h ad _ h.p.cf.old.length h.p.cf.new.length h.p.cf.lrn.length h.p.sn.length _ rfl rfl hok hfew hx w hp).mono ?_
    rintro e w' ⟨A, c, rfl, ho, hb⟩
    exact ⟨A, c, none, 0, rfl, ⟨ho, OwnsB.nil _ _ _, .inr ⟨rfl, rfl⟩⟩, hb⟩
theorem refNext_any (f : Fl) (hpl : Pl f) (id commit round : Int) (h : Hd) (ad : Ad) (hf : Fs h.p) (hok : Rl.Ok h.p.log) (hfew : Rl.Few h.p.log.es) (w : World) (hp : IsPt w w.heap.size h.p ad) :
    Calls Try.prog 28 #[.agg #[.int .i64 f.n, .int .i64 f.x, .int .i64 f.m, .int .i64 f.r], .int .i64 id, .agg #[.int .i64 h.g, .int .i64 h.t, .int .i64 h.v, .int .i64 h.p.log.base, .int .i64 h.p.log.term, .slice ad.e h.p.log.es.length ad.ce, .slice ad.o h.p.cf.old.length ad.co, .slice ad.n h.p.cf.new.length ad.cn, .slice ad.l h.p.cf.lrn.length ad.cl, .slice ad.s h.p.sn.length ad.cs], .int .i64 commit, .int .i64 round] w (Sent w (nextM f id commit round h)) := by
  unfold nextM
  split
  · next hx =>
    refine (refNextS_any f id commit round h ad _ _ _ _ _ (snapD h.p).length rfl rfl rfl rfl rfl (snapD_length h.p).symm hf hx w hp).mono ?_
    rintro e w' ⟨A, c, rfl, ho, hb⟩
    exact ⟨none, 0, A, c, rfl, ⟨OwnE.nil _ _ _, ho, .inl ⟨rfl, rfl⟩⟩, hb⟩
  · next hx =>
    refine (refNextE_any f hpl id commit round h ad _ h.p.cf.old.length h.p.cf.new.length h.p.cf.lrn.length h.p.sn.length _ rfl rfl hok hfew hx w hp).mono ?_
    rintro e w' ⟨A, c, rfl, ho, hb⟩
    exact ⟨A, c, none, 0, rfl, ⟨ho, OwnsB.nil _ _ _, .inr ⟨rfl, rfl⟩⟩, hb⟩
end Go.Proofs.Ytkmbkihfdilmbaa.Fw
namespace Go.Proofs.Ytkmbkihfdilmbaa
open Go.RowKit Go.ChangeShapes Go.WideShapes Go.Deep
theorem bytes_of_trod {H : Type} {enc : TypeId × Value → H} {W : World} {fuel : Nat} {cs : List Value} {x : DataW H × List MemPlace} (h : DataW.trod enc Try.prog W 0 (fun _ => true) true fuel 29 cs = some x) :
    ∃ (a : Option Addr) (c : Nat) (l : List Nat), cs = [.slice a l.length c] ∧ IsBytes W W.heap.size a l ∧ (l.length ≤ c ∧ c ≤ maxLen) ∧ (a = none → c = 0) := by
  rcases open_ints Try.underlying29 Try.underlying5 (by kernel_rfl) h with ⟨hcs, _⟩ | ⟨x, l, c, zs, hcs, _, hl, hm, hz, hx, hcell, hwz⟩
  · exact ⟨none, 0, [], hcs, IsBytes.nil, ⟨Nat.le_refl _, Nat.zero_le _⟩, fun _ => rfl⟩
  · simp only [if_true] at hz
    obtain ⟨m, h1, h2⟩ := isBytes_of_ints hl hz hcell hwz
    subst h2
    exact ⟨some x, c, m, hcs, h1, ⟨hl, hm⟩, fun h => by cases h⟩
theorem int_of_trod {H : Type} {enc : TypeId × Value → H} {W : World} {fuel : Nat} {cs : List Value} {x : DataW H × List MemPlace} (h : DataW.trod enc Try.prog W 0 (fun _ => true) true fuel 3 cs = some x) : ∃ n, cs = [.int .i64 n] ∧ InInt n := by
  obtain ⟨n, h1, _, h2⟩ := DataW.trod_int Try.underlying3 h
  exact ⟨n, h1, bounds_i64 h2⟩
theorem one_cell {cs : List Value} {n : Nat} (h : cs.length = n) (j : Nat) (hj : j < n) : (cs.drop j).take 1 = [cs[j]'(by omega)] := by
  rw [List.drop_eq_getElem_cons (by omega)]
  rfl
theorem cellsOf_ent : Try.prog.cellsOf 64 = 3 := by kernel_rfl
set_option maxRecDepth 100000 in
theorem ent_of_trod1 {H : Type} {enc : TypeId × Value → H} {W : World} {fuel : Nat} {a : Addr} {cs : List Value} {x : DataW H × List MemPlace} (hc : W.cells? 0 a 3 = some cs) (h : DataW.trod enc Try.prog W 0 (fun _ => true) true fuel 64 cs = some x) :
    ∃ t : Rl.En, (InInt t.t ∧ InInt t.k) ∧ ∀ b o, a = ⟨b, o, none⟩ → EnAt W W.heap.size b o t := by
  obtain ⟨_, hcl, hat⟩ := World.cells?_some hc
  obtain ⟨ys, n, _, _, _, hyl, hf⟩ := DataW.trod_struct Try.underlying64 h
  have hyl4 : ys.length = 3 := hyl
  have e0 : DataW.trod enc Try.prog W 0 (fun _ => true) true n 3 ((cs.drop 0).take (Try.prog.cellsOf 3)) = ys[0]? := hf 0 _ rfl
  have e1 : DataW.trod enc Try.prog W 0 (fun _ => true) true n 3 ((cs.drop 1).take (Try.prog.cellsOf 3)) = ys[1]? := hf 1 _ rfl
  have e2 : DataW.trod enc Try.prog W 0 (fun _ => true) true n 29 ((cs.drop 2).take (Try.prog.cellsOf 29)) = ys[2]? := hf 2 _ rfl
  have c1 : Try.prog.cellsOf 3 = 1 := by kernel_rfl
  have c2 : Try.prog.cellsOf 29 = 1 := by kernel_rfl
  rw [c1] at e0
  rw [one_cell hcl 0 (by omega), List.getElem?_eq_getElem (by omega)] at e0
  rw [c1] at e1
  rw [one_cell hcl 1 (by omega), List.getElem?_eq_getElem (by omega)] at e1
  rw [c2] at e2
  rw [one_cell hcl 2 (by omega), List.getElem?_eq_getElem (by omega)] at e2
  obtain ⟨k0, k01, k02⟩ := int_of_trod e0
  have k01 := (List.cons.inj k01).1
  obtain ⟨k1, k11, k12⟩ := int_of_trod e1
  have k11 := (List.cons.inj k11).1
  obtain ⟨ap, cp, p, k21, p2, p3, p4⟩ := bytes_of_trod e2
  have k21 := (List.cons.inj k21).1
  refine ⟨⟨k0, k1, p⟩, ⟨k02, k12⟩, fun b o e => ?_⟩
  subst e
  have g : ∀ j, (hj : j < 3) → W.cell? ⟨b, o + j, none⟩ = some (cs[j]'(by omega)) := fun j hj => by
    have := hat j hj
    rw [List.getElem?_eq_getElem (by omega)] at this
    rw [← this]
    congr 1
    unfold Addr.add; split <;> simp [*]
  exact ⟨ap, cp, by have := g 0 (by omega); rw [k01] at this; exact this, by have := g 1 (by omega); rw [k11] at this; exact this, by have := g 2 (by omega); rw [k21] at this; exact this, p2, p3, p4⟩
set_option maxRecDepth 100000 in
theorem ents_of_trod {H : Type} {enc : TypeId × Value → H} {W : World} {fuel : Nat} {cs : List Value} {x : DataW H × List MemPlace} (h : DataW.trod enc Try.prog W 0 (fun _ => true) true fuel 23 cs = some x) :
    ∃ (a : Option Addr) (c : Nat) (ts : List Rl.En), cs = [.slice a ts.length c] ∧ IsEnts W W.heap.size a ts ∧ (ts.length ≤ c ∧ c ≤ maxLen) ∧ (a = none → c = 0) := by
  rcases open_slice Try.underlying23 h with ⟨hcs, _⟩ | ⟨a, len, cap, m, n, D, Pl, hcs, _, hl, hm, hmm, _, hi⟩
  · exact ⟨none, 0, [], hcs, IsEnts.nil, ⟨Nat.le_refl _, Nat.zero_le _⟩, fun _ => rfl⟩
  · simp only [if_true] at hmm
    subst hmm
    rw [cellsOf_ent] at hi
    have hth : ∀ i, i < len → ∃ t : Rl.En, ((InInt t.t ∧ InInt t.k) ∧ ∀ b o, a.add (i * 3) = ⟨b, o, none⟩ → EnAt W W.heap.size b o t) ∧ ∃ cs, W.cells? 0 (a.add (i * 3)) 3 = some cs := fun i hlt => by
      obtain ⟨cs', h1, h2⟩ := hi i (by omega)
      obtain ⟨t, ht⟩ := ent_of_trod1 h1 h2
      exact ⟨t, ht, cs', h1⟩
    refine ⟨some a, m, (List.range len).attach.map (fun i => (hth i.1 (List.mem_range.1 i.2)).choose), ?_, ⟨fun e he => ?_, fun k hk => ?_⟩, ?_, fun h => by cases h⟩
    · rw [hcs]; simp
    · obtain ⟨i, hi, rfl⟩ := List.mem_map.1 he
      have hi2 : i.1 < len := List.mem_range.1 i.2
      exact (hth i.1 hi2).choose_spec.1.1
    · have hk' : k < len := by simpa using hk
      obtain ⟨cs0, hcs0⟩ := (hth 0 (by omega)).choose_spec.2
      obtain ⟨_, hcl, hat⟩ := World.cells?_some hcs0
      have hsp := hat 0 (by omega)
      rw [List.getElem?_eq_getElem (by omega)] at hsp
      have hlt := World.block_lt_of_cell? _ _ hsp
      have hspot := World.cell?_spot hsp
      obtain ⟨b, off, spot⟩ := a
      have hs : spot = none := by simpa [Addr.add] using hspot
      subst hs
      have hb : b < W.heap.size := by
        simpa [Addr.add] using hlt
      refine ⟨b, off, rfl, hb, fun i hi' => ?_⟩
      have hi2 : i < len := by simpa using hi'
      simp only [List.getElem_map, List.getElem_attach, List.getElem_range]
      refine (hth i hi2).choose_spec.1.2 b (off + i * 3) ?_
      unfold Addr.add; split <;> simp [*]
    · simp; exact ⟨hl, hm⟩
end Go.Proofs.Ytkmbkihfdilmbaa
namespace Go.Proofs.Ytkmbkihfdilmbaa
open Go.RowKit Go.ChangeShapes Go.WideShapes Go.Deep
set_option maxRecDepth 100000
theorem cellsOf_log : Try.prog.cellsOf 25 = 3 := by kernel_rfl
theorem log_of_trod {H : Type} {enc : TypeId × Value → H} {W : World} {fuel : Nat} {cs : List Value} {x : DataW H × List MemPlace} (hcl : cs.length = 3) (h : DataW.trod enc Try.prog W 0 (fun _ => true) true fuel 25 cs = some x) :
    ∃ (g : Rl.Lg) (a : Option Addr) (c : Nat), cs = [.int .i64 g.base, .int .i64 g.term, .slice a g.es.length c] ∧ LgIs W W.heap.size g a c := by
  obtain ⟨ys, n, _, _, _, hyl, hf⟩ := DataW.trod_struct Try.underlying25 h
  have hyl3 : ys.length = 3 := hyl
  have e0 : DataW.trod enc Try.prog W 0 (fun _ => true) true n 3 ((cs.drop 0).take (Try.prog.cellsOf 3)) = ys[0]? := hf 0 _ rfl
  have e1 : DataW.trod enc Try.prog W 0 (fun _ => true) true n 3 ((cs.drop 1).take (Try.prog.cellsOf 3)) = ys[1]? := hf 1 _ rfl
  have e2 : DataW.trod enc Try.prog W 0 (fun _ => true) true n 23 ((cs.drop 2).take (Try.prog.cellsOf 23)) = ys[2]? := hf 2 _ rfl
  have c1 : Try.prog.cellsOf 3 = 1 := by kernel_rfl
  have c2 : Try.prog.cellsOf 23 = 1 := by kernel_rfl
  rw [c1] at e0 e1
  rw [c2] at e2
  rw [one_cell hcl 0 (by omega), List.getElem?_eq_getElem (by omega)] at e0
  rw [one_cell hcl 1 (by omega), List.getElem?_eq_getElem (by omega)] at e1
  rw [one_cell hcl 2 (by omega), List.getElem?_eq_getElem (by omega)] at e2
  obtain ⟨k0, p1, p2⟩ := int_of_trod e0
  obtain ⟨k1, q1, q2⟩ := int_of_trod e1
  obtain ⟨a, c, ts, r1, r2, r3, r4⟩ := ents_of_trod e2
  have p1 := (List.cons.inj p1).1
  have q1 := (List.cons.inj q1).1
  have r1 := (List.cons.inj r1).1
  refine ⟨⟨k0, k1, ts⟩, a, c, ?_, ⟨r2, r3, r4, p2, q2⟩⟩
  match cs, hcl with
  | [x0, x1, x2], _ =>
    simp at p1 q1 r1
    rw [p1, q1, r1]
end Go.Proofs.Ytkmbkihfdilmbaa
namespace Go.Proofs.Ytkmbkihfdilmbaa
open Go.RowKit Go.ChangeShapes Go.WideShapes Go.Deep
set_option maxRecDepth 100000
theorem intsIn_of_trod {H : Type} {enc : TypeId × Value → H} {W : World} {fuel : Nat} {cs : List Value} {x : DataW H × List MemPlace} (h : DataW.trod enc Try.prog W 0 (fun _ => true) true fuel 22 cs = some x) :
    ∃ (a : Option Addr) (c : Nat) (l : List Int), cs = [.slice a l.length c] ∧ IsInts W W.heap.size a l ∧ (l.length ≤ c ∧ c ≤ maxLen) ∧ (a = none → c = 0) := by
  rcases open_ints Try.underlying22 Try.underlying3 (by kernel_rfl) h with ⟨hcs, _⟩ | ⟨x, l, c, zs, hcs, _, hl, hm, hz, hx, hcell, hwz⟩
  · exact ⟨none, 0, [], hcs, IsInts.nil, ⟨Nat.le_refl _, Nat.zero_le _⟩, fun _ => rfl⟩
  · simp only [if_true] at hz
    obtain ⟨m, h1, h2⟩ := isInts_of_ints hl hz hcell hwz
    subst h2
    exact ⟨some x, c, m, hcs, h1, ⟨hl, hm⟩, fun h => by cases h⟩
theorem one_cell3 {cs : List Value} (h : cs.length = 3) (j : Nat) (hj : j < 3) : (cs.drop j).take 1 = [cs[j]'(by omega)] := by
  rw [List.drop_eq_getElem_cons (by omega)]
  rfl
theorem cellsOf_conf : Try.prog.cellsOf 37 = 3 := by kernel_rfl
theorem conf_of_trod {H : Type} {enc : TypeId × Value → H} {W : World} {fuel : Nat} {cs : List Value} {x : DataW H × List MemPlace} (hcl : cs.length = 3) (h : DataW.trod enc Try.prog W 0 (fun _ => true) true fuel 37 cs = some x) :
    ∃ (c : Qu.Cf) (a0 a1 a2 : Option Addr) (k0 k1 k2 : Nat), cs = [.slice a0 c.old.length k0, .slice a1 c.new.length k1, .slice a2 c.lrn.length k2] ∧ CIs W W.heap.size c a0 a1 a2 k0 k1 k2 := by
  obtain ⟨ys, n, _, _, _, hyl, hf⟩ := DataW.trod_struct Try.underlying37 h
  have hyl3 : ys.length = 3 := hyl
  have e0 : DataW.trod enc Try.prog W 0 (fun _ => true) true n 22 ((cs.drop 0).take (Try.prog.cellsOf 22)) = ys[0]? := hf 0 _ rfl
  have e1 : DataW.trod enc Try.prog W 0 (fun _ => true) true n 22 ((cs.drop 1).take (Try.prog.cellsOf 22)) = ys[1]? := hf 1 _ rfl
  have e2 : DataW.trod enc Try.prog W 0 (fun _ => true) true n 22 ((cs.drop 2).take (Try.prog.cellsOf 22)) = ys[2]? := hf 2 _ rfl
  have c3 : Try.prog.cellsOf 22 = 1 := by kernel_rfl
  rw [c3] at e0 e1 e2
  rw [one_cell3 hcl 0 (by omega), List.getElem?_eq_getElem (by omega)] at e0
  rw [one_cell3 hcl 1 (by omega), List.getElem?_eq_getElem (by omega)] at e1
  rw [one_cell3 hcl 2 (by omega), List.getElem?_eq_getElem (by omega)] at e2
  obtain ⟨a0, k0, l0, p1, p2, p3, p4⟩ := intsIn_of_trod e0
  obtain ⟨a1, k1, l1, q1, q2, q3, q4⟩ := intsIn_of_trod e1
  obtain ⟨a2, k2, l2, r1, r2, r3, r4⟩ := intsIn_of_trod e2
  have p1 := (List.cons.inj p1).1
  have q1 := (List.cons.inj q1).1
  have r1 := (List.cons.inj r1).1
  refine ⟨⟨l0, l1, l2⟩, a0, a1, a2, k0, k1, k2, ?_, ⟨p2, q2, r2, p4, q4, r4, p3, q3, r3⟩⟩
  match cs, hcl with
  | [x0, x1, x2], _ =>
    simp at p1 q1 r1
    rw [p1, q1, r1]
end Go.Proofs.Ytkmbkihfdilmbaa
namespace Go.Proofs.Ytkmbkihfdilmbaa.Im
open Go.RowKit Go.ChangeShapes Go.WideShapes Go.Deep
set_option maxRecDepth 100000
theorem cellsOf_int : Try.prog.cellsOf 3 = 1 := by kernel_rfl
theorem cellsOf_bytes : Try.prog.cellsOf 29 = 1 := by kernel_rfl
theorem cellsOf_hard : Try.prog.cellsOf 52 = 10 := by kernel_rfl
theorem len_sub {cs : List Value} {n j k : Nat} (h : cs.length = n) (hj : j + k ≤ n) : ((cs.drop j).take k).length = k := by
  rw [List.length_take, List.length_drop]; omega
theorem add_off (b o k : Nat) : (⟨b, o, none⟩ : Addr).add k = ⟨b, o + k, none⟩ := by unfold Addr.add; split <;> simp [*]
theorem pt_in {H : Type} {enc : TypeId × Value → H} {W : World} {fuel : Nat} {c1 c2 c3 : List Value} {x1 x2 x3 : DataW H × List MemPlace} (h1 : c1.length = 3) (h2 : c2.length = 3)
    (e1 : DataW.trod enc Try.prog W 0 (fun _ => true) true fuel 25 c1 = some x1)
    (e2 : DataW.trod enc Try.prog W 0 (fun _ => true) true fuel 37 c2 = some x2)
    (e3 : DataW.trod enc Try.prog W 0 (fun _ => true) true fuel 29 c3 = some x3) :
    ∃ (p : Pt) (a : Ad), c1 ++ (c2 ++ c3) = [.int .i64 p.log.base, .int .i64 p.log.term, .slice a.e p.log.es.length a.ce, .slice a.o p.cf.old.length a.co, .slice a.n p.cf.new.length a.cn, .slice a.l p.cf.lrn.length a.cl, .slice a.s p.sn.length a.cs] ∧ IsPt W W.heap.size p a := by
  obtain ⟨g, a, c, r1, r2⟩ := log_of_trod h1 e1
  obtain ⟨f, a0, a1, a2, k0, k1, k2, s1, s2⟩ := conf_of_trod h2 e2
  obtain ⟨ab, cb, l, t1, t2, t3, t4⟩ := bytes_of_trod e3
  refine ⟨⟨g, f, l⟩, ⟨a, c, a0, k0, a1, k1, a2, k2, ab, cb⟩, ?_, ⟨r2.es, s2.o, s2.n, s2.l, t2, ⟨r2.room, r2.none_⟩, ⟨s2.co, s2.zo⟩, ⟨s2.cn, s2.zn⟩, ⟨s2.cl, s2.zl⟩, ⟨t3, t4⟩, r2.num⟩⟩
  rw [r1, s1, t1]
  rfl
theorem split10 {cs : List Value} (h : cs.length = 10) : cs = (cs.drop 0).take 1 ++ ((cs.drop 1).take 1 ++ ((cs.drop 2).take 1 ++ (((cs.drop 3).take 3 ++ ((cs.drop 6).take 3 ++ (cs.drop 9).take 1))))) := by
  match cs, h with
  | [_, _, _, _, _, _, _, _, _, _], _ => rfl
theorem hard_in {H : Type} {enc : TypeId × Value → H} {W : World} {fuel : Nat} {cs : List Value} {x : DataW H × List MemPlace} (hcl : cs.length = 10) (h : DataW.trod enc Try.prog W 0 (fun _ => true) true fuel 52 cs = some x) :
    ∃ q : Hq, cs = cellsH q ∧ IsPt W W.heap.size q.h.p q.a ∧ (InInt q.h.g ∧ InInt q.h.t ∧ InInt q.h.v) := by
  obtain ⟨ys, n, _, _, _, hyl, hf⟩ := DataW.trod_struct Try.underlying52 h
  have hyl5 : ys.length = 6 := hyl
  have e0 : DataW.trod enc Try.prog W 0 (fun _ => true) true n 3 ((cs.drop 0).take (Try.prog.cellsOf 3)) = ys[0]? := hf 0 _ rfl
  rw [cellsOf_int, List.getElem?_eq_getElem (by omega)] at e0
  obtain ⟨i0, p0, q0⟩ := int_of_trod e0
  have e1 : DataW.trod enc Try.prog W 0 (fun _ => true) true n 3 ((cs.drop 1).take (Try.prog.cellsOf 3)) = ys[1]? := hf 1 _ rfl
  rw [cellsOf_int, List.getElem?_eq_getElem (by omega)] at e1
  obtain ⟨i1, p1, q1⟩ := int_of_trod e1
  have e2 : DataW.trod enc Try.prog W 0 (fun _ => true) true n 3 ((cs.drop 2).take (Try.prog.cellsOf 3)) = ys[2]? := hf 2 _ rfl
  rw [cellsOf_int, List.getElem?_eq_getElem (by omega)] at e2
  obtain ⟨i2, p2, q2⟩ := int_of_trod e2
  have e3a : DataW.trod enc Try.prog W 0 (fun _ => true) true n 25 ((cs.drop 3).take (Try.prog.cellsOf 25)) = ys[3]? := hf 3 _ rfl
  have e3b : DataW.trod enc Try.prog W 0 (fun _ => true) true n 37 ((cs.drop 6).take (Try.prog.cellsOf 37)) = ys[4]? := hf 4 _ rfl
  have e3c : DataW.trod enc Try.prog W 0 (fun _ => true) true n 29 ((cs.drop 9).take (Try.prog.cellsOf 29)) = ys[5]? := hf 5 _ rfl
  rw [cellsOf_log, List.getElem?_eq_getElem (by omega)] at e3a
  rw [cellsOf_conf, List.getElem?_eq_getElem (by omega)] at e3b
  rw [cellsOf_bytes, List.getElem?_eq_getElem (by omega)] at e3c
  obtain ⟨pt, ad, hp, hq⟩ := pt_in (len_sub hcl (by omega)) (len_sub hcl (by omega)) e3a e3b e3c
  refine ⟨⟨⟨i0, i1, i2, pt⟩, ad⟩, ?_, hq, q0, q1, q2⟩
  rw [split10 hcl, p0, p1, p2, hp]
  rfl
structure ImIs (w : World) (B : Nat) (i : Ia) (Q : List Hq) (L : List Vt) : Prop where
  h : IsHds w B i.h Q
  v : IsVs w B i.v L
  rh : (Q.length ≤ i.ch ∧ i.ch ≤ maxLen) ∧ (i.h = none → i.ch = 0)
  rv : (L.length ≤ i.cv ∧ i.cv ≤ maxLen) ∧ (i.v = none → i.cv = 0)
theorem ImIs.below {w w' : World} {B : Nat} {i : Ia} {Q : List Hq} {L : List Vt} (h : ImIs w B i Q L) (hb : Below B w w') : ImIs w' B i Q L := ⟨h.h.below hb, h.v.below hb, h.rh, h.rv⟩
theorem ImIs.more {w : World} {B B' : Nat} {i : Ia} {Q : List Hq} {L : List Vt} (h : ImIs w B i Q L) (hB : B ≤ B') : ImIs w B' i Q L := ⟨h.h.more hB, h.v.more hB, h.rh, h.rv⟩
structure ChIs (w : World) (B : Nat) (c : Ch) (a : Ad) : Prop where
  pt : IsPt w B c.p a
  num : (InInt c.k ∧ InInt c.g ∧ InInt c.t ∧ InInt c.v ∧ InInt c.f) ∧ okV c.a
theorem ChIs.below {w w' : World} {B : Nat} {c : Ch} {a : Ad} (h : ChIs w B c a) (hb : Below B w w') : ChIs w' B c a := ⟨h.pt.below hb, h.num⟩
theorem ChIs.more {w : World} {B B' : Nat} {c : Ch} {a : Ad} (h : ChIs w B c a) (hB : B ≤ B') : ChIs w B' c a := ⟨h.pt.more hB, h.num⟩
end Go.Proofs.Ytkmbkihfdilmbaa.Im
namespace Go.Proofs.Ytkmbkihfdilmbaa.Fw
open Go Go.RowKit
open Im (Hd Pt Ad IsPt Hq cellsH hard_in cellsOf_int cellsOf_hard len_sub)
set_option maxRecDepth 100000
set_option linter.unusedVariables false
theorem cellsOf_flow : Try.prog.cellsOf 42 = 4 := by kernel_rfl
theorem cellsOf_ask : Try.prog.cellsOf 50 = 7 := by kernel_rfl
def cellsF (f : Fl) : List Value := [.int .i64 f.n, .int .i64 f.x, .int .i64 f.m, .int .i64 f.r]
def NumF (f : Fl) : Prop := InInt f.n ∧ InInt f.x ∧ InInt f.m ∧ InInt f.r
theorem flow_in {H : Type} {enc : TypeId × Value → H} {W : World} {fuel : Nat} {cs : List Value} {x : DataW H × List MemPlace} (hcl : cs.length = 4) (h : DataW.trod enc Try.prog W 0 (fun _ => true) true fuel 42 cs = some x) :
    ∃ f : Fl, cs = cellsF f ∧ NumF f := by
  obtain ⟨ys, n, _, _, _, hyl, hf⟩ := DataW.trod_struct Try.underlying42 h
  have hyl5 : ys.length = 4 := hyl
  have e0 : DataW.trod enc Try.prog W 0 (fun _ => true) true n 3 ((cs.drop 0).take (Try.prog.cellsOf 3)) = ys[0]? := hf 0 _ rfl
  rw [cellsOf_int, List.getElem?_eq_getElem (by omega)] at e0
  obtain ⟨i0, p0, q0⟩ := int_of_trod e0
  have e1 : DataW.trod enc Try.prog W 0 (fun _ => true) true n 3 ((cs.drop 1).take (Try.prog.cellsOf 3)) = ys[1]? := hf 1 _ rfl
  rw [cellsOf_int, List.getElem?_eq_getElem (by omega)] at e1
  obtain ⟨i1, p1, q1⟩ := int_of_trod e1
  have e2 : DataW.trod enc Try.prog W 0 (fun _ => true) true n 3 ((cs.drop 2).take (Try.prog.cellsOf 3)) = ys[2]? := hf 2 _ rfl
  rw [cellsOf_int, List.getElem?_eq_getElem (by omega)] at e2
  obtain ⟨i2, p2, q2⟩ := int_of_trod e2
  have e3 : DataW.trod enc Try.prog W 0 (fun _ => true) true n 3 ((cs.drop 3).take (Try.prog.cellsOf 3)) = ys[3]? := hf 3 _ rfl
  rw [cellsOf_int, List.getElem?_eq_getElem (by omega)] at e3
  obtain ⟨i3, p3, q3⟩ := int_of_trod e3
  refine ⟨⟨i0, i1, i2, i3⟩, ?_, q0, q1, q2, q3⟩
  have hs : cs = (cs.drop 0).take 1 ++ ((cs.drop 1).take 1 ++ ((cs.drop 2).take 1 ++ (cs.drop 3).take 1)) := by
    match cs, hcl with
    | [_, _, _, _], _ => rfl
  rw [hs, p0, p1, p2, p3]
  rfl
theorem ask_in {H : Type} {enc : TypeId × Value → H} {W : World} {fuel : Nat} {cs : List Value} {x : DataW H × List MemPlace} (hcl : cs.length = 7) (h : DataW.trod enc Try.prog W 0 (fun _ => true) true fuel 50 cs = some x) :
    ∃ (f : Fl) (i c r : Int), cs = cellsF f ++ [.int .i64 i, .int .i64 c, .int .i64 r] ∧ NumF f := by
  obtain ⟨ys, n, _, _, _, hyl, hf⟩ := DataW.trod_struct Try.underlying50 h
  have hyl5 : ys.length = 4 := hyl
  have e0 : DataW.trod enc Try.prog W 0 (fun _ => true) true n 42 ((cs.drop 0).take (Try.prog.cellsOf 42)) = ys[0]? := hf 0 _ rfl
  rw [cellsOf_flow, List.getElem?_eq_getElem (by omega)] at e0
  obtain ⟨f, p0, q0⟩ := flow_in (len_sub hcl (by omega)) e0
  have e1 : DataW.trod enc Try.prog W 0 (fun _ => true) true n 3 ((cs.drop 4).take (Try.prog.cellsOf 3)) = ys[1]? := hf 1 _ rfl
  rw [cellsOf_int, List.getElem?_eq_getElem (by omega)] at e1
  obtain ⟨i1, p1, q1⟩ := int_of_trod e1
  have e2 : DataW.trod enc Try.prog W 0 (fun _ => true) true n 3 ((cs.drop 5).take (Try.prog.cellsOf 3)) = ys[2]? := hf 2 _ rfl
  rw [cellsOf_int, List.getElem?_eq_getElem (by omega)] at e2
  obtain ⟨i2, p2, q2⟩ := int_of_trod e2
  have e3 : DataW.trod enc Try.prog W 0 (fun _ => true) true n 3 ((cs.drop 6).take (Try.prog.cellsOf 3)) = ys[3]? := hf 3 _ rfl
  rw [cellsOf_int, List.getElem?_eq_getElem (by omega)] at e3
  obtain ⟨i3, p3, q3⟩ := int_of_trod e3
  refine ⟨f, i1, i2, i3, ?_, q0⟩
  have hs : cs = (cs.drop 0).take 4 ++ ((cs.drop 4).take 1 ++ ((cs.drop 5).take 1 ++ (cs.drop 6).take 1)) := by
    match cs, hcl with
    | [_, _, _, _, _, _, _], _ => rfl
  rw [hs, p0, p1, p2, p3]
  rfl
theorem ask_open {H : Type} {enc : TypeId × Value → H} {W : World} {cs : Array Value} {d : DataW H} {p : List MemPlace} (hsz : cs.size = Try.prog.cellsOf 50) (h : DataW.Trod enc Try.prog W 0 (fun _ => true) true 50 (.agg cs) d p) :
    ∃ (f : Fl) (i c r : Int), cs = #[.int .i64 f.n, .int .i64 f.x, .int .i64 f.m, .int .i64 f.r, .int .i64 i, .int .i64 c, .int .i64 r] := by
  obtain ⟨fuel, hf⟩ := h
  rw [cellsOf_ask] at hsz
  have hf : DataW.trod enc Try.prog W 0 (fun _ => true) true fuel 50 cs.toList = some (d, p) := hf
  obtain ⟨f, i, c, r, e, _⟩ := ask_in (by simpa using hsz) hf
  refine ⟨f, i, c, r, ?_⟩
  rw [← Array.toArray_toList (xs := cs), e]
  rfl
theorem hard_open {H : Type} {enc : TypeId × Value → H} {W : World} {cs : Array Value} {d : DataW H} {p : List MemPlace} (hsz : cs.size = Try.prog.cellsOf 52) (h : DataW.Trod enc Try.prog W 0 (fun _ => true) true 52 (.agg cs) d p) :
    ∃ (h : Hd) (a : Ad), cs = #[.int .i64 h.g, .int .i64 h.t, .int .i64 h.v, .int .i64 h.p.log.base, .int .i64 h.p.log.term, .slice a.e h.p.log.es.length a.ce, .slice a.o h.p.cf.old.length a.co, .slice a.n h.p.cf.new.length a.cn, .slice a.l h.p.cf.lrn.length a.cl, .slice a.s h.p.sn.length a.cs] ∧ IsPt W W.heap.size h.p a ∧ (InInt h.g ∧ InInt h.t ∧ InInt h.v) := by
  obtain ⟨fuel, hf⟩ := h
  rw [cellsOf_hard] at hsz
  have hf : DataW.trod enc Try.prog W 0 (fun _ => true) true fuel 52 cs.toList = some (d, p) := hf
  obtain ⟨q, e, h1, h2⟩ := hard_in (by simpa using hsz) hf
  refine ⟨q.h, q.a, ?_, h1, h2⟩
  rw [← Array.toArray_toList (xs := cs), e]
  rfl
end Go.Proofs.Ytkmbkihfdilmbaa.Fw
namespace Go.Proofs.Ytkmbkihfdilmbaa.flowSends
open Go.ChangeShapes Go.WideShapes Go.ChangeAt Go.RowKit
open Go.ChangeMaps (open_string shut_string)
set_option linter.unusedVariables false
theorem own : ownKnob Try.prog.godebug = none := by kernel_rfl
theorem laidOut : laidOutB Try.prog = true := by kernel_rfl
attribute [local go_sem ↓] Vo.loadAt_msgV Vo.storeAt_msgV Fw.loadAt_flow Fw.storeAt_flow Im.loadAt_hard Im.storeAt_hard
theorem ldFA {w : World} {b : Nat} {t : TypeId} {v0 v1 v2 v3 v4 v5 v6 : Value} (h : w.heap[b]? = some (.cells #[v0, v1, v2, v3, v4, v5, v6] t (0, 0))) : (Im.ldX 42 (.pointer (some ⟨b, 0, none⟩))).run Try.prog w = .ok (.agg #[v0, v1, v2, v3]) w :=
  run_loadAt_mid w b 0 42 [v0, v1, v2, v3] _ (fun j v hv => by
    rw [row_cell h (0 + j), Nat.zero_add]
    rcases j with _ | _ | _ | _ | j
    · simpa using hv
    · simpa using hv
    · simpa using hv
    · simpa using hv
    · simp at hv) Try.underlying42 rfl (by rw [Fw.info_flow]; rfl)
theorem zero_hard : (Try.prog.info? 52).map (·.size) = some 10 := Im.info_hard
open Fw Im in
set_option maxRecDepth 100000 in
set_option maxHeartbeats 25600000 in
theorem walk (f : Fw.Fl) (i c r : Int) (h : Im.Hd) (a : Im.Ad) (w : World) (k1 : Im.IsPt w w.heap.size h.p a) (n1 : InInt h.g ∧ InInt h.t ∧ InInt h.v) :
    Calls Try.prog 5 #[.agg #[.int .i64 f.n, .int .i64 f.x, .int .i64 f.m, .int .i64 f.r, .int .i64 i, .int .i64 c, .int .i64 r], .agg #[.int .i64 h.g, .int .i64 h.t, .int .i64 h.v, .int .i64 h.p.log.base, .int .i64 h.p.log.term, .slice a.e h.p.log.es.length a.ce, .slice a.o h.p.cf.old.length a.co, .slice a.n h.p.cf.new.length a.cn, .slice a.l h.p.cf.lrn.length a.cl, .slice a.s h.p.sn.length a.cs]] w fun e w' => e = .returned (.bool true) ∧ Below w.heap.size w w' := by
  obtain ⟨w1, hw1⟩ : ∃ w1, w1 = (w.alloc (.cells #[.int .i64 f.n, .int .i64 f.x, .int .i64 f.m, .int .i64 f.r, .int .i64 i, .int .i64 c, .int .i64 r] 50)).alloc (.cells #[.int .i64 h.g, .int .i64 h.t, .int .i64 h.v, .int .i64 h.p.log.base, .int .i64 h.p.log.term, .slice a.e h.p.log.es.length a.ce, .slice a.o h.p.cf.old.length a.co, .slice a.n h.p.cf.new.length a.cn, .slice a.l h.p.cf.lrn.length a.cl, .slice a.s h.p.sn.length a.cs] 52) := ⟨_, rfl⟩
  obtain ⟨r0, r1⟩ := Vo.Rw.two w #[.int .i64 f.n, .int .i64 f.x, .int .i64 f.m, .int .i64 f.r, .int .i64 i, .int .i64 c, .int .i64 r] #[.int .i64 h.g, .int .i64 h.t, .int .i64 h.v, .int .i64 h.p.log.base, .int .i64 h.p.log.term, .slice a.e h.p.log.es.length a.ce, .slice a.o h.p.cf.old.length a.co, .slice a.n h.p.cf.new.length a.cn, .slice a.l h.p.cf.lrn.length a.cl, .slice a.s h.p.sn.length a.cs] 50 52
  obtain ⟨hb, hz⟩ := Vo.boxes w #[.int .i64 f.n, .int .i64 f.x, .int .i64 f.m, .int .i64 f.r, .int .i64 i, .int .i64 c, .int .i64 r] #[.int .i64 h.g, .int .i64 h.t, .int .i64 h.v, .int .i64 h.p.log.base, .int .i64 h.p.log.term, .slice a.e h.p.log.es.length a.ce, .slice a.o h.p.cf.old.length a.co, .slice a.n h.p.cf.new.length a.cn, .slice a.l h.p.cf.lrn.length a.cl, .slice a.s h.p.sn.length a.cs] 50 52
  rw [← hw1] at r0 r1 hb
  have B1 := hid hb
  have HW1 := hid hw1
  have LAF : Hid (∀ W, Below w1.heap.size w1 W → (IsPt W W.heap.size h.p a ∧ Below w.heap.size w W) ∧ (ldX 42 (.pointer (some ⟨w.heap.size, 0, none⟩))).run Try.prog W = .ok (.agg #[.int .i64 f.n, .int .i64 f.x, .int .i64 f.m, .int .i64 f.r]) W ∧ W.cell? ⟨w.heap.size, 4, none⟩ = some (.int .i64 i) ∧ W.cell? ⟨w.heap.size, 5, none⟩ = some (.int .i64 c) ∧ W.cell? ⟨w.heap.size, 6, none⟩ = some (.int .i64 r) ∧ (ldX 52 (.pointer (some ⟨w.heap.size + 1, 0, none⟩))).run Try.prog W = .ok (.agg #[.int .i64 h.g, .int .i64 h.t, .int .i64 h.v, .int .i64 h.p.log.base, .int .i64 h.p.log.term, .slice a.e h.p.log.es.length a.ce, .slice a.o h.p.cf.old.length a.co, .slice a.n h.p.cf.new.length a.cn, .slice a.l h.p.cf.lrn.length a.cl, .slice a.s h.p.sn.length a.cs]) W) := hid (fun W hW => by
    have hB := hb.trans (hW.mono hb.size)
    have q0 := r0.keep hW
    have q1 := r1.keep hW
    exact ⟨⟨(k1.below hB).more hB.size, hB⟩, ldFA q0, row_cell q0 4, row_cell q0 5, row_cell q0 6, ldHV q1 rfl⟩)
  have HPL := hid (placed_any f w1)
  have L1 := LAF.out w1 (Below.refl _ _)
  obtain ⟨_, la, lb, lc, ld, le⟩ := L1
  clear hw1 hb hz r0 r1 k1 n1
  go_enter Try.func5, Try.ntmps5
  go_upto_region 1 with fail
  rw [← HW1.out]
  go_wp2_with fail
  refine HPL.out.mono ?_
  rintro e w2 ⟨rfl, hb2⟩
  have G2 := hid hb2
  obtain ⟨pb, hpb⟩ : ∃ b, placedB f = b := ⟨_, rfl⟩
  rw [hpb]
  have HPB := hid hpb
  clear hpb hb2 HPL la lb lc ld le
  cases pb with
  | false =>
    have B2 := hid (LAF.out w2 G2.out).1.2
    go_wp2_with fail
    refine (known_any w2).mono ?_
    rintro e x9 ⟨rfl, hx9⟩
    have HX9 := hid (B2.out.trans (hx9.mono B2.out.size))
    clear hx9
    go_wp2_with fail
    go_ret
    exact ⟨rfl, HX9.out⟩
  | true =>
    obtain ⟨⟨q2, _⟩, la, lb, lc, ld, le⟩ := LAF.out w2 G2.out
    have HRT := hid (right_any h a w2 q2)
    clear q2
    go_wp2_with fail
    refine HRT.out.mono ?_
    rintro e w3 ⟨rfl, hb3⟩
    have G3 := hid (G2.out.trans (hb3.mono G2.out.size))
    obtain ⟨rb, hrb⟩ : ∃ b, rightB h.p = b := ⟨_, rfl⟩
    rw [hrb]
    have HRB := hid hrb
    clear hrb hb3 HRT la lb lc ld le
    cases rb with
    | false =>
      have B3 := hid (LAF.out w3 G3.out).1.2
      go_wp2_with fail
      refine (known_any w3).mono ?_
      rintro e x9 ⟨rfl, hx9⟩
      have HX9 := hid (B3.out.trans (hx9.mono B3.out.size))
      clear hx9
      go_wp2_with fail
      go_ret
      exact ⟨rfl, HX9.out⟩
    | true =>
      have HP := hid (placedB_pl HPB.out)
      have HR : Hid ((0 ≤ h.p.log.base ∧ h.p.log.base ≤ 1099511627776) ∧ bigPS h.p = false) := hid (by
        have hh := HRB.out
        unfold rightB at hh
        simp only [Bool.and_eq_true, decide_eq_true_eq, Bool.not_eq_true'] at hh
        exact ⟨hh.1.1, hh.2⟩)
      have HFE := hid (bigPS_few HR.out.2)
      have HFK : Hid (FewK h.p) := hid ⟨by have := HFE.out.1.1; omega, ⟨by have := HFE.out.2.1.1; omega, by have := HFE.out.2.1.2.1; omega, by have := HFE.out.2.1.2.2; omega⟩⟩
      have HOK : Hid (Rl.Ok h.p.log) := hid ⟨⟨HR.out.1.1, by have := HR.out.1.2; omega⟩, trivial, by have := HFE.out.1.1; omega⟩
      have HFS : Hid (Fs h.p) := hid ⟨by have := HFE.out.2.1.1; omega, by have := HFE.out.2.1.2.1; omega, by have := HFE.out.2.1.2.2; omega, by have := HFE.out.2.2.1; omega⟩
      obtain ⟨⟨q3, _⟩, la, lb, lc, ld, le⟩ := LAF.out w3 G3.out
      have HCP := hid (copyH_any h a ⟨HFK.out, HFE.out.1.2⟩ (by have := HFE.out.2.2.1; omega) w3 q3)
      clear q3 la lb lc ld
      go_wp2_with fail
      refine HCP.out.mono ?_
      rintro e w4 ⟨a5, rfl, ho4, hb4⟩
      have hst := Im.stNew w4 52 10 Im.info_hard #[.int .i64 0, .int .i64 0, .int .i64 0, .int .i64 0, .int .i64 0, .slice none 0 0, .slice none 0 0, .slice none 0 0, .slice none 0 0, .slice none 0 0] #[.int .i64 h.g, .int .i64 h.t, .int .i64 h.v, .int .i64 h.p.log.base, .int .i64 h.p.log.term, .slice a5.e h.p.log.es.length a5.ce, .slice a5.o h.p.cf.old.length a5.co, .slice a5.n h.p.cf.new.length a5.cn, .slice a5.l h.p.cf.lrn.length a5.cl, .slice a5.s h.p.sn.length a5.cs] rfl rfl (by simp [Value.oneCell'])
      obtain ⟨w5, hw5⟩ : ∃ W, W = w4.alloc (.cells #[.int .i64 h.g, .int .i64 h.t, .int .i64 h.v, .int .i64 h.p.log.base, .int .i64 h.p.log.term, .slice a5.e h.p.log.es.length a5.ce, .slice a5.o h.p.cf.old.length a5.co, .slice a5.n h.p.cf.new.length a5.cn, .slice a5.l h.p.cf.lrn.length a5.cl, .slice a5.s h.p.sn.length a5.cs] 52) := ⟨_, rfl⟩
      rw [← hw5] at hst
      have hb45 : Below w4.heap.size w4 w5 := by rw [hw5]; exact (Below.refl _ _).alloc (Nat.le_refl _) _
      obtain ⟨b5, hb5⟩ : ∃ b, b = w4.heap.size := ⟨_, rfl⟩
      have r5 : Vo.Rw w5 b5 #[.int .i64 h.g, .int .i64 h.t, .int .i64 h.v, .int .i64 h.p.log.base, .int .i64 h.p.log.term, .slice a5.e h.p.log.es.length a5.ce, .slice a5.o h.p.cf.old.length a5.co, .slice a5.n h.p.cf.new.length a5.cn, .slice a5.l h.p.cf.lrn.length a5.cl, .slice a5.s h.p.sn.length a5.cs] 52 := by rw [hw5, hb5]; exact heap_alloc_new w4 _
      have p5 : IsPt w5 w5.heap.size h.p a5 := (ho4.ptIn.reads.below hb45).more hb45.size
      have g5 := G3.out.trans ((hb4.trans (hb45.mono hb4.size)).mono G3.out.size)
      obtain ⟨s5, hs5⟩ : ∃ s, s = w5.heap.size := ⟨_, rfl⟩
      have FA : Hid (∀ W, Below s5 w5 W → (s5 ≤ W.heap.size ∧ IsPt W W.heap.size h.p a ∧ IsPt W W.heap.size h.p a5 ∧ Below w.heap.size w W) ∧ ((ldX 42 (.pointer (some ⟨w.heap.size, 0, none⟩))).run Try.prog W = .ok (.agg #[.int .i64 f.n, .int .i64 f.x, .int .i64 f.m, .int .i64 f.r]) W ∧ W.cell? ⟨w.heap.size, 4, none⟩ = some (.int .i64 i) ∧ W.cell? ⟨w.heap.size, 5, none⟩ = some (.int .i64 c) ∧ W.cell? ⟨w.heap.size, 6, none⟩ = some (.int .i64 r) ∧ (ldX 52 (.pointer (some ⟨w.heap.size + 1, 0, none⟩))).run Try.prog W = .ok (.agg #[.int .i64 h.g, .int .i64 h.t, .int .i64 h.v, .int .i64 h.p.log.base, .int .i64 h.p.log.term, .slice a.e h.p.log.es.length a.ce, .slice a.o h.p.cf.old.length a.co, .slice a.n h.p.cf.new.length a.cn, .slice a.l h.p.cf.lrn.length a.cl, .slice a.s h.p.sn.length a.cs]) W) ∧ (ldX 52 (.pointer (some ⟨b5, 0, none⟩))).run Try.prog W = .ok (.agg #[.int .i64 h.g, .int .i64 h.t, .int .i64 h.v, .int .i64 h.p.log.base, .int .i64 h.p.log.term, .slice a5.e h.p.log.es.length a5.ce, .slice a5.o h.p.cf.old.length a5.co, .slice a5.n h.p.cf.new.length a5.cn, .slice a5.l h.p.cf.lrn.length a5.cl, .slice a5.s h.p.sn.length a5.cs]) W) := hid (fun W hW => by
        rw [hs5] at hW ⊢
        have q := LAF.out W (g5.trans (hW.mono g5.size))
        exact ⟨⟨hW.size, q.1.1, (p5.below hW).more hW.size, q.1.2⟩, q.2, ldHV (r5.keep hW) rfl⟩)
      have HB5 := hid hb5
      have HS5 := hid (And.intro hs5 (row_lt r5))
      clear hw5 hb45 hb5 r5 p5 g5 hs5 ho4 hb4 HCP
      go_upto_region 4 with fail
      rw [← HB5.out]
      clear hst le HB5
      obtain ⟨⟨_, p5a, p5b, _⟩, ⟨la, lb, lc, ld, le⟩, li⟩ := FA.out w5 (Below.refl _ _)
      obtain ⟨m, hm⟩ : ∃ m, nextM f i c r h = m := ⟨_, rfl⟩
      have HN := next_any f HP.out i c r h a5 HFS.out HOK.out HFE.out.1.2 w5 p5b
      rw [hm] at HN
      have HNX := hid HN
      have HSM : Hid (Ms.Small m ∧ m.es.length ≤ 50000) := hid (by rw [← hm]; exact nextM_small f i c r h HFE.out.1.2 HFE.out.2.1 HFE.out.2.2.1)
      have HRN : Hid (∀ W, Below s5 w5 W → Calls Try.prog 28 #[.agg #[.int .i64 f.n, .int .i64 f.x, .int .i64 f.m, .int .i64 f.r], .int .i64 i, .agg #[.int .i64 h.g, .int .i64 h.t, .int .i64 h.v, .int .i64 h.p.log.base, .int .i64 h.p.log.term, .slice a.e h.p.log.es.length a.ce, .slice a.o h.p.cf.old.length a.co, .slice a.n h.p.cf.new.length a.cn, .slice a.l h.p.cf.lrn.length a.cl, .slice a.s h.p.sn.length a.cs], .int .i64 c, .int .i64 r] W (Sent W m)) := hid (fun W hW => by
        have := refNext_any f HP.out i c r h a HFS.out HOK.out HFE.out.1.2 W (FA.out W hW).1.2.1
        rw [hm] at this
        exact this)
      clear HN hm p5a p5b
      go_wp2_with fail
      refine HNX.out.mono ?_
      rintro e w6 ⟨A, x, A', x', rfl, ⟨hoe, hod, hone⟩, hb6⟩
      have hst := Im.stNew w6 31 17 Vo.info_msgV #[.int .i64 0, .int .i64 0, .int .i64 0, .int .i64 0, .int .i64 0, .int .i64 0, .int .i64 0, .int .i64 0, .int .i64 0, .int .i64 0, .int .i64 0, .int .i64 0, .int .i64 0, .int .i64 0, .bool false, .slice none 0 0, .slice none 0 0] #[.int .i64 m.K, .int .i64 m.F, .int .i64 m.T, .int .i64 m.g, .int .i64 m.t, .int .i64 m.i, .int .i64 m.p, .int .i64 m.c, .int .i64 m.r, .int .i64 m.x, .int .i64 m.a, .int .i64 m.b, .int .i64 m.v, .int .i64 m.s, .bool m.ok, .slice A m.es.length x, .slice A' m.d.length x'] rfl rfl (by simp [Value.oneCell'])
      obtain ⟨w7, hw7⟩ : ∃ W, W = w6.alloc (.cells #[.int .i64 m.K, .int .i64 m.F, .int .i64 m.T, .int .i64 m.g, .int .i64 m.t, .int .i64 m.i, .int .i64 m.p, .int .i64 m.c, .int .i64 m.r, .int .i64 m.x, .int .i64 m.a, .int .i64 m.b, .int .i64 m.v, .int .i64 m.s, .bool m.ok, .slice A m.es.length x, .slice A' m.d.length x'] 31) := ⟨_, rfl⟩
      rw [← hw7] at hst
      have hb67 : Below w6.heap.size w6 w7 := by rw [hw7]; exact (Below.refl _ _).alloc (Nat.le_refl _) _
      obtain ⟨b6, hb6'⟩ : ∃ b, b = w6.heap.size := ⟨_, rfl⟩
      have r7 : Vo.Rw w7 b6 #[.int .i64 m.K, .int .i64 m.F, .int .i64 m.T, .int .i64 m.g, .int .i64 m.t, .int .i64 m.i, .int .i64 m.p, .int .i64 m.c, .int .i64 m.r, .int .i64 m.x, .int .i64 m.a, .int .i64 m.b, .int .i64 m.v, .int .i64 m.s, .bool m.ok, .slice A m.es.length x, .slice A' m.d.length x'] 31 := by rw [hw7, hb6']; exact heap_alloc_new w6 _
      have g7 : Below s5 w5 w7 := by rw [HS5.out.1]; exact hb6.trans (hb67.mono hb6.size)
      -- the message as one that the call has made
      have mo7 : Ms.MIo w7 w5.heap.size w6.heap.size m A x A' x' := ⟨hoe.below hb67, hod.below hb67, fun k hk => (hod.blkLt k hk).2, hone, HSM.out.2, hb67.size⟩
      have OM : Hid (∀ W, Below w7.heap.size w7 W → Ms.MIo W w5.heap.size w6.heap.size m A x A' x' ∧ Vo.Rw W b6 #[.int .i64 m.K, .int .i64 m.F, .int .i64 m.T, .int .i64 m.g, .int .i64 m.t, .int .i64 m.i, .int .i64 m.p, .int .i64 m.c, .int .i64 m.r, .int .i64 m.x, .int .i64 m.a, .int .i64 m.b, .int .i64 m.v, .int .i64 m.s, .bool m.ok, .slice A m.es.length x, .slice A' m.d.length x'] 31 ∧ (IsEnts W W.heap.size A m.es ∧ IsBytes W W.heap.size A' m.d)) := hid (fun W hW => by
        have q := mo7.below hW
        exact ⟨q, r7.keep hW, q.es.reads.more q.hi, q.d.reads⟩)
      have G7 := hid g7
      have HB6 := hid hb6'
      have LB7 : Hid (w6.heap.size ≤ w7.heap.size) := hid hb67.size
      clear hw7 hb67 hb6' r7 g7 mo7 hoe hod hone hb6 HNX la lb lc ld le li
      go_upto_region 5 with fail
      rw [← HB6.out]
      clear hst
      obtain ⟨s7, hs7⟩ : ∃ s, s = w7.heap.size := ⟨_, rfl⟩
      have FM : Hid (∀ W, Below s7 w7 W → s7 ≤ W.heap.size ∧ ((ldX 42 (.pointer (some ⟨w.heap.size, 0, none⟩))).run Try.prog W = .ok (.agg #[.int .i64 f.n, .int .i64 f.x, .int .i64 f.m, .int .i64 f.r]) W ∧ W.cell? ⟨w.heap.size, 4, none⟩ = some (.int .i64 i) ∧ W.cell? ⟨w.heap.size, 5, none⟩ = some (.int .i64 c) ∧ W.cell? ⟨w.heap.size, 6, none⟩ = some (.int .i64 r) ∧ (ldX 52 (.pointer (some ⟨w.heap.size + 1, 0, none⟩))).run Try.prog W = .ok (.agg #[.int .i64 h.g, .int .i64 h.t, .int .i64 h.v, .int .i64 h.p.log.base, .int .i64 h.p.log.term, .slice a.e h.p.log.es.length a.ce, .slice a.o h.p.cf.old.length a.co, .slice a.n h.p.cf.new.length a.cn, .slice a.l h.p.cf.lrn.length a.cl, .slice a.s h.p.sn.length a.cs]) W) ∧ (ldX 31 (.pointer (some ⟨b6, 0, none⟩))).run Try.prog W = .ok (.agg #[.int .i64 m.K, .int .i64 m.F, .int .i64 m.T, .int .i64 m.g, .int .i64 m.t, .int .i64 m.i, .int .i64 m.p, .int .i64 m.c, .int .i64 m.r, .int .i64 m.x, .int .i64 m.a, .int .i64 m.b, .int .i64 m.v, .int .i64 m.s, .bool m.ok, .slice A m.es.length x, .slice A' m.d.length x']) W) := hid (fun W hW => by
        rw [hs7] at hW ⊢
        exact ⟨hW.size, (FA.out W (G7.out.trans (hW.mono (FA.out w7 G7.out).1.1))).2.1, (OM.out W hW).2.1.ldM rfl⟩)
      have HS7 := hid hs7
      have TO5 : Hid (∀ W, Below s7 w7 W → Below s5 w5 W) := hid (fun W hW => by
        rw [hs7] at hW
        exact G7.out.trans (hW.mono (FA.out w7 G7.out).1.1))
      have HSA : Hid (∀ (W : World) (X Y : Option Addr) (y y' : Nat), Below s7 w7 W → IsEnts W W.heap.size X m.es → IsBytes W W.heap.size Y m.d → Calls Try.prog 27 #[.agg #[.int .i64 m.K, .int .i64 m.F, .int .i64 m.T, .int .i64 m.g, .int .i64 m.t, .int .i64 m.i, .int .i64 m.p, .int .i64 m.c, .int .i64 m.r, .int .i64 m.x, .int .i64 m.a, .int .i64 m.b, .int .i64 m.v, .int .i64 m.s, .bool m.ok, .slice A m.es.length x, .slice A' m.d.length x'], .agg #[.int .i64 m.K, .int .i64 m.F, .int .i64 m.T, .int .i64 m.g, .int .i64 m.t, .int .i64 m.i, .int .i64 m.p, .int .i64 m.c, .int .i64 m.r, .int .i64 m.x, .int .i64 m.a, .int .i64 m.b, .int .i64 m.v, .int .i64 m.s, .bool m.ok, .slice X m.es.length y, .slice Y m.d.length y']] W fun e w' => e = .returned (.bool true) ∧ Below W.heap.size W w') := hid (fun W X Y y y' hW h1 h2 => by
        rw [hs7] at hW
        obtain ⟨_, _, g1, g2⟩ := OM.out W hW
        have := Ms.same_any m m A x A' x' X y Y y' W g1 h1 g2 h2 HSM.out.1 HSM.out.1
        rw [decide_eq_true rfl] at this
        exact this)
      have GG := hid (show Below s7 w7 w7.drew from (Below.refl _ _).drew)
      have e4 := (FM.out w7 (Below.refl _ _)).2
      have e5 := (FM.out w7.drew GG.out).2
      clear hs7
      go_cut [7] from 30 to 41 (fun v W => v = .bool true ∧ Hid (Below s7 w7 W))
      case first =>
        go_region_held3 (fun W => ((ldX 42 (.pointer (some ⟨w.heap.size, 0, none⟩))).run Try.prog W = .ok (.agg #[.int .i64 f.n, .int .i64 f.x, .int .i64 f.m, .int .i64 f.r]) W ∧ W.cell? ⟨w.heap.size, 4, none⟩ = some (.int .i64 i) ∧ W.cell? ⟨w.heap.size, 5, none⟩ = some (.int .i64 c) ∧ W.cell? ⟨w.heap.size, 6, none⟩ = some (.int .i64 r) ∧ (ldX 52 (.pointer (some ⟨w.heap.size + 1, 0, none⟩))).run Try.prog W = .ok (.agg #[.int .i64 h.g, .int .i64 h.t, .int .i64 h.v, .int .i64 h.p.log.base, .int .i64 h.p.log.term, .slice a.e h.p.log.es.length a.ce, .slice a.o h.p.cf.old.length a.co, .slice a.n h.p.cf.new.length a.cn, .slice a.l h.p.cf.lrn.length a.cl, .slice a.s h.p.sn.length a.cs]) W) ∧ (ldX 31 (.pointer (some ⟨b6, 0, none⟩))).run Try.prog W = .ok (.agg #[.int .i64 m.K, .int .i64 m.F, .int .i64 m.T, .int .i64 m.g, .int .i64 m.t, .int .i64 m.i, .int .i64 m.p, .int .i64 m.c, .int .i64 m.r, .int .i64 m.x, .int .i64 m.a, .int .i64 m.b, .int .i64 m.v, .int .i64 m.s, .bool m.ok, .slice A m.es.length x, .slice A' m.d.length x']) W)
          (first | with_reducible exact e7 | with_reducible exact e6 | with_reducible exact e5 | with_reducible exact e4 | fail)
          (first
            | (go_at_call 27; refine (HSA.out _ _ _ _ _ G8.out O8.out.1 O8.out.2).mono ?_; rintro e v9 ⟨rfl, hb9⟩; have G9 := hid (G8.out.trans (hb9.mono (FM.out _ G8.out).1)); have e7 := (FM.out v9 G9.out).2; clear hb9)
            | (go_at_call 28; refine (HRN.out _ (TO5.out _ GG.out)).mono ?_; rintro e v8 ⟨X, y, Y, y', rfl, ⟨he8, hd8, _⟩, hb8⟩; have G8 := hid (GG.out.trans (hb8.mono (FM.out _ GG.out).1)); have O8 := hid (And.intro he8.reads hd8.reads); have e6 := (FM.out v8 G8.out).2; clear he8 hd8 hb8)
            | fail)
        all_goals
          (clear e4 e5 e6 e7
           go_wp2_with fail
           go_meet
           case rel => exact ⟨rfl, G9⟩)
      case rest =>
        obtain ⟨rfl, G9⟩ := hcut
        obtain ⟨w9, hw9⟩ : ∃ W, W = wc := ⟨_, rfl⟩
        rw [← hw9] at G9 ⊢
        clear hw9 e4 e5 GG
        have lm := (FM.out w9 G9.out).2.2
        -- the message's copy in a slice, written over
        obtain ⟨w10, hw10⟩ : ∃ W, W = w9.alloc (.cells #[.int .i64 m.K, .int .i64 m.F, .int .i64 m.T, .int .i64 m.g, .int .i64 m.t, .int .i64 m.i, .int .i64 m.p, .int .i64 m.c, .int .i64 m.r, .int .i64 m.x, .int .i64 m.a, .int .i64 m.b, .int .i64 m.v, .int .i64 m.s, .bool m.ok, .slice A m.es.length x, .slice A' m.d.length x'] 31) := ⟨_, rfl⟩
        have hb10 : Below w9.heap.size w9 w10 := by rw [hw10]; exact (Below.refl _ _).alloc (Nat.le_refl _) _
        have r10 : w10.heap[w9.heap.size]? = some (.cells #[.int .i64 m.K, .int .i64 m.F, .int .i64 m.T, .int .i64 m.g, .int .i64 m.t, .int .i64 m.i, .int .i64 m.p, .int .i64 m.c, .int .i64 m.r, .int .i64 m.x, .int .i64 m.a, .int .i64 m.b, .int .i64 m.v, .int .i64 m.s, .bool m.ok, .slice A m.es.length x, .slice A' m.d.length x'] 31 (0, 0)) := by rw [hw10]; exact heap_alloc_new w9 _
        have g10 : Below w7.heap.size w7 w10 := by
          have := G9.out.trans (hb10.mono (FM.out w9 G9.out).1)
          rw [HS7.out] at this
          exact this
        have hN : w6.heap.size ≤ w9.heap.size := Nat.le_trans LB7.out (by rw [← HS7.out]; exact (FM.out w9 G9.out).1)
        have HSP := hid (Ms.spoilMo_any w10 w9.heap.size w5.heap.size w6.heap.size 1 m A x A' x' (OM.out w10 g10).1 ⟨r10⟩ hN)
        have G10 : Hid (Below s5 w5 w10) := hid (TO5.out w10 (by rw [HS7.out]; exact g10))
        have LS : Hid (w5.heap.size ≤ w9.heap.size) := hid (by rw [← HS5.out.1]; exact (FA.out w9 (TO5.out w9 G9.out)).1.1)
        have HW10 := hid hw10
        clear hw10 hb10 r10 g10 hN
        go_wp2_with fail
        rw [← HW10.out]
        clear lm HW10
        refine HSP.out.mono ?_
        rintro e w11 ⟨rfl, ht11⟩
        have G11 : Hid (Below s5 w5 w11) := hid (G10.out.trans (ht11.below (FA.out w10 G10.out).1.1 (fun k hk => by
          rw [HS5.out.1]
          rcases hk with hk | hk
          · exact hk.1
          · rw [hk]; exact LS.out)))
        obtain ⟨⟨_, pa, pb, _⟩, ⟨la, lb, lc, ld, le⟩, li⟩ := FA.out w11 G11.out
        have HSH := hid (sameH_any h a5 a HFK.out w11 pb pa)
        clear ht11 HSP pa pb la lb lc ld
        go_wp2_with fail
        refine HSH.out.mono ?_
        rintro e w12 ⟨rfl, hb12⟩
        have HB12 := hid (FA.out w12 (G11.out.trans (hb12.mono (FA.out w11 G11.out).1.1))).1.2.2.2
        clear hb12 le li
        go_wp2_with fail
        go_ret
        exact ⟨rfl, HB12.out⟩
set_option maxRecDepth 100000 in
theorem lifted (os : Os) (started : os.Started) (H : Type) (enc : TypeId × Value → H) :
    ReturnsInHanded {} Try.checked os 5 .any (Rows.flowSendsSpec.pre6 enc Try.prog Try.f5 Rows.flowSendsRow.domain false) (Rows.flowSendsSpec.post enc Try.prog Try.f5 false true false false) := by
  refine returnsInHanded_of_change_sized (C := Try.checked) own started (by kernel_rfl) Try.func5
    (ChangeSpec.witness6 (enc := enc) (C := Try.checked) false ⟨#[], #[.agg #[.int .i64 0, .int .i64 0, .int .i64 0, .int .i64 0, .int .i64 0, .int .i64 0, .int .i64 0], .agg #[.int .i64 0, .int .i64 0, .int .i64 0, .int .i64 0, .int .i64 0, .slice none 0 0, .slice none 0 0, .slice none 0 0, .slice none 0 0, .slice none 0 0]], []⟩ 8 (by kernel_rfl) (by kernel_rfl) (by kernel_rfl) (by kernel_rfl)) ?_
  intro W base args ds gs before hval0 hW hcnd hsz0 _
  have hsz : (DataW.weightsEach Try.prog (Try.f5.params.toList ++ Rows.flowSendsSpec.plain.varTypes Try.prog) (ds ++ gs)).all (· ≤ reachBytes) = true := hsz0
  clear hsz0
  have hval : ∀ (j : Nat) t v, Try.f5.params[j]? = some t → args[j]? = some v → Value.okWide Try.prog W .any base t v := hval0
  have hW' := hW
  obtain ⟨p, q, hA0, hV, rfl, hfz, hnd⟩ := hW
  have hA : DataW.TrodAll enc Try.prog W 0 (fun _ => true) true Try.f5.params.toList args.toList ds p := hA0
  rw [Try.params5] at hA hval hsz
  obtain ⟨v0, vs0, d0, ds0, p0, q0, hargs, rfl, rfl, g0, t0⟩ := trodAll_cons hA
  obtain ⟨v1, vs1, d1, ds1, p1, q1, rfl, rfl, rfl, g1, t1⟩ := trodAll_cons t0
  obtain ⟨rfl, rfl, rfl⟩ := trodAll_nil t1
  obtain rfl : args = #[v0, v1] := by cases args; simp_all
  obtain ⟨rfl, rfl⟩ := trodVars_none hV
  obtain ⟨cs0, rfl, sz0⟩ := okWide_struct Try.underlying50 (hval 0 50 v0 rfl rfl)
  have m0 := g0
  have lt0 : ∀ x ∈ p0, x.block < W.heap.size := by obtain ⟨m, hm⟩ := m0; exact DataW.trod_lt m _ _ _ hm
  obtain ⟨f0, i0, c0, r0, rfl⟩ := Fw.ask_open sz0 g0
  obtain ⟨cs1, rfl, sz1⟩ := okWide_struct Try.underlying52 (hval 1 52 v1 rfl rfl)
  have m1 := g1
  have lt1 : ∀ x ∈ p1, x.block < W.heap.size := by obtain ⟨m, hm⟩ := m1; exact DataW.trod_lt m _ _ _ hm
  obtain ⟨h1, a1, rfl, k1, n1⟩ := Fw.hard_open sz1 g1
  clear hA0 hval0
  refine (walk f0 i0 c0 r0 h1 a1 W k1 n1).mono fun e W' ⟨he, bel⟩ => ?_
  subst he
  exact ⟨_, rfl, _, _, _, [], _, [], hW', trodAll_mk1 (shut_bool Try.underlying4 _), (trodAll_cons_mk (Below.trod laidOut (by kernel_rfl) (of_decide_eq_true (by kernel_rfl)) m0 bel lt0) (trodAll_cons_mk (Below.trod laidOut (by kernel_rfl) (of_decide_eq_true (by kernel_rfl)) m1 bel lt1) trodAll_mk0)), rfl, bel.frame _, fun h => by cases h⟩
theorem over : Rows.flowSendsRow.holds Try.pinned (OpenSpec.ofChange Rows.flowSendsSpec) :=
  OpenClaim.holds_of_wide 5 Try.f5 rfl rfl rfl rfl rfl rfl rfl ⟨rfl, rfl, rfl, rfl, rfl⟩ rfl rfl rfl rfl rfl (by kernel_rfl) Try.func5 (by kernel_rfl)
    (of_decide_eq_true (by kernel_rfl)) (by unfold Func.isWrapper; first | (rw [if_pos (by decide +kernel)]; kernel_rfl) | (rw [if_neg (by decide +kernel)]; exact ⟨rfl, rfl⟩))
    (fun os started H enc _ => lifted os started H enc)
theorem proved : Rows.FlowSendsSaid := over
end Go.Proofs.Ytkmbkihfdilmbaa.flowSends
