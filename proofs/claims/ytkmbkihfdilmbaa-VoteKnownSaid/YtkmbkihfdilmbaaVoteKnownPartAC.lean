/- Texts of the proof, one behind the other: VoJ, VoK, VoL, MsLoad, MsD, MsE, MsF, PackInt, KitBytes, PackBlob, MsG, MsH, SumWalks, FramePut, FrameRead, MsI, ReadInt, Reader2, MsJ, MsK, ReadNew, MsL, MsMath2, MsN, SpoilB, SpoilEn, MsKit, ImRows, VoI, CopyInts, KitIntN, KitConf, ImRd3, ImRdA, ImRdB, ImRdC, ImRdD, ImRdE, ImRdF, ImRdG, RegInv, ImReg, ImRdH0, ImRdH, ImRdJ, ImRdI, ImRdK, ImRdL, KitHard, ImSet, ImOwnE, ImEachE, ImEach2. -/
import Derived.Test.YtkmbkihfdilmbaaVoteKnownPartAB
import Derived.Deep.RegionHeld3
import Derived.Deep.CutRange
import Derived.Test.YtkmbkihfdilmbaaVoteKnownPartAA
import Derived.Deep.WholeRow
import Derived.Test.YtkmbkihfdilmbaaRows
import Derived.Laws.AppendOwnNone
import Derived.Lib.AppendZeros
import Derived.StillTailTactics
import Derived.Deep.Upon
import Derived.Deep.RegionWith
import Derived.Great.BuildSlice
namespace Go.Proofs.Ytkmbkihfdilmbaa.Vo
open Go Go.RowKit
open Rl (En Lg)
open Ms (M)
open Im (ldX stX)
set_option maxRecDepth 100000
set_option linter.unusedVariables false
attribute [local go_sem ↓] loadAt_msgV storeAt_msgV Im.loadAt_log1 Im.storeAt_log1
def Rw (w : World) (b : Nat) (cs : Array Value) (t : TypeId) : Prop := w.heap[b]? = some (.cells cs t (0, 0))
theorem Rw.keep {w w' : World} {b : Nat} {cs : Array Value} {t : TypeId} (h : Rw w b cs t) (hb : Below w.heap.size w w') : Rw w' b cs t := (hb.block _ (row_lt' h)).trans h
theorem Rw.ldL {w : World} {b : Nat} {v0 v1 v2 : Value} (h : Rw w b #[v0, v1, v2] 25) : (ldX 25 (.pointer (some ⟨b, 0, none⟩))).run Try.prog w = .ok (.agg #[v0, v1, v2]) w :=
  Im.ldRow Im.info_log33 Try.underlying25 rfl h rfl
theorem Rw.ldM {w : World} {b : Nat} {cs : Array Value} (h : Rw w b cs 31) (hn : cs.size = 17) : (ldX 31 (.pointer (some ⟨b, 0, none⟩))).run Try.prog w = .ok (.agg cs) w :=
  Im.ldRow info_msgV Try.underlying31 rfl h hn
theorem Rw.two (w : World) (x y : Array Value) (s t : TypeId) : Rw ((w.alloc (.cells x s)).alloc (.cells y t)) w.heap.size x s ∧ Rw ((w.alloc (.cells x s)).alloc (.cells y t)) (w.heap.size + 1) y t := by
  refine ⟨?_, ?_⟩
  · show _ = _
    rw [heap_alloc_old _ _ (by simp)]
    exact heap_alloc_new w _
  · have q := heap_alloc_new (w.alloc (.cells x s)) (.cells y t)
    rw [World.size_alloc] at q
    exact q
structure LogOk (g : Lg) : Prop where
  ok : Rl.Ok g
  lim : (0 ≤ g.base ∧ g.base ≤ 1099511627776) ∧ (0 ≤ g.term ∧ g.term ≤ 1099511627776)
  few : big g.es 2000 65536 = false
set_option maxHeartbeats 12800000 in
theorem tells_any (draw term v : Int) (hd : InInt draw) (g : Lg) (A : Option Addr) (c : Nat) (m : M) (A2 : Option Addr) (c2 : Nat) (A3 : Option Addr) (c3 : Nat) (hg : LogOk g) (w : World) (h : LgIs w w.heap.size g A c) :
    Calls Try.prog 8 #[.int .i64 draw, .int .i64 term, .int .i64 v, .agg #[.int .i64 g.base, .int .i64 g.term, .slice A g.es.length c], .agg #[.int .i64 m.K, .int .i64 m.F, .int .i64 m.T, .int .i64 m.g, .int .i64 m.t, .int .i64 m.i, .int .i64 m.p, .int .i64 m.c, .int .i64 m.r, .int .i64 m.x, .int .i64 m.a, .int .i64 m.b, .int .i64 m.v, .int .i64 m.s, .bool m.ok, .slice A2 m.es.length c2, .slice A3 m.d.length c3]] w fun e w' => e = .returned (.bool true) ∧ Below w.heap.size w w' := by
  obtain ⟨w1, hw1⟩ : ∃ w1, w1 = (w.alloc (.cells #[.int .i64 g.base, .int .i64 g.term, .slice A g.es.length c] 25)).alloc (.cells #[.int .i64 m.K, .int .i64 m.F, .int .i64 m.T, .int .i64 m.g, .int .i64 m.t, .int .i64 m.i, .int .i64 m.p, .int .i64 m.c, .int .i64 m.r, .int .i64 m.x, .int .i64 m.a, .int .i64 m.b, .int .i64 m.v, .int .i64 m.s, .bool m.ok, .slice A2 m.es.length c2, .slice A3 m.d.length c3] 31) := ⟨_, rfl⟩
  obtain ⟨hb, hz⟩ := boxes w #[.int .i64 g.base, .int .i64 g.term, .slice A g.es.length c] #[.int .i64 m.K, .int .i64 m.F, .int .i64 m.T, .int .i64 m.g, .int .i64 m.t, .int .i64 m.i, .int .i64 m.p, .int .i64 m.c, .int .i64 m.r, .int .i64 m.x, .int .i64 m.a, .int .i64 m.b, .int .i64 m.v, .int .i64 m.s, .bool m.ok, .slice A2 m.es.length c2, .slice A3 m.d.length c3] 25 31
  obtain ⟨r0, r1⟩ := Rw.two w #[.int .i64 g.base, .int .i64 g.term, .slice A g.es.length c] #[.int .i64 m.K, .int .i64 m.F, .int .i64 m.T, .int .i64 m.g, .int .i64 m.t, .int .i64 m.i, .int .i64 m.p, .int .i64 m.c, .int .i64 m.r, .int .i64 m.x, .int .i64 m.a, .int .i64 m.b, .int .i64 m.v, .int .i64 m.s, .bool m.ok, .slice A2 m.es.length c2, .slice A3 m.d.length c3] 25 31
  rw [← hw1] at hb r0 r1
  have R1 := hid (And.intro r0 r1)
  have B1 := hid hb
  have HG := hid hg
  have HI := hid h
  have HL := hid (long_any g A c hg.lim hg.few w1 ((h.below hb).more hb.size))
  have HFE := hid (big_few hg.few)
  have ld1 := r0.ldL
  rw [hw1] at ld1
  have HD := hid hd
  clear hb hz r0 r1 h hg hd
  go_enter Try.func8, Try.ntmps8
  go_wp2_with fail
  rw [← hw1]
  clear hw1 ld1
  refine HL.out.mono ?_
  rintro e w2 ⟨rfl, hb2⟩
  have R2 := hid (And.intro (R1.out.1.keep hb2) (R1.out.2.keep hb2))
  have B2 := hid (B1.out.trans (hb2.mono B1.out.size))
  have ld2 := R2.out.1.ldL
  have HC := hid (copyLog_any g A c g.es.length rfl (by have := HFE.out.1; omega) HFE.out.2 w2 ((HI.out.es.below B2.out).more B2.out.size))
  clear hb2 R1 HL
  go_wp2_with fail
  refine HC.out.mono ?_
  rintro e w3 ⟨A4, c4, rfl, ho3, hb3⟩
  have B3 := hid (B2.out.trans (hb3.mono B2.out.size))
  have hst := Im.stNew w3 25 3 Im.info_log33 #[.int .i64 0, .int .i64 0, .slice none 0 0] #[.int .i64 g.base, .int .i64 g.term, .slice A4 g.es.length c4] rfl rfl (by simp [Value.oneCell'])
  obtain ⟨w4, hw4⟩ : ∃ w4, w4 = w3.alloc (.cells #[.int .i64 g.base, .int .i64 g.term, .slice A4 g.es.length c4] 25) := ⟨_, rfl⟩
  rw [← hw4] at hst
  have hb34 : Below w3.heap.size w3 w4 := by rw [hw4]; exact (Below.refl _ _).alloc (Nat.le_refl _) _
  have hr4 : Rw w4 w3.heap.size #[.int .i64 g.base, .int .i64 g.term, .slice A4 g.es.length c4] 25 := by rw [hw4]; exact heap_alloc_new w3 _
  have B4 := hid (B3.out.trans (hb34.mono B3.out.size))
  obtain ⟨bx, hbx⟩ : ∃ b, b = w3.heap.size := ⟨_, rfl⟩
  rw [← hbx] at hst hr4
  have R4 : Hid ((Rw w4 w.heap.size #[.int .i64 g.base, .int .i64 g.term, .slice A g.es.length c] 25 ∧ Rw w4 (w.heap.size + 1) #[.int .i64 m.K, .int .i64 m.F, .int .i64 m.T, .int .i64 m.g, .int .i64 m.t, .int .i64 m.i, .int .i64 m.p, .int .i64 m.c, .int .i64 m.r, .int .i64 m.x, .int .i64 m.a, .int .i64 m.b, .int .i64 m.v, .int .i64 m.s, .bool m.ok, .slice A2 m.es.length c2, .slice A3 m.d.length c3] 31 ∧ Rw w4 bx #[.int .i64 g.base, .int .i64 g.term, .slice A4 g.es.length c4] 25) ∧ LgIs w4 w4.heap.size g A c ∧ LgIs w4 w4.heap.size g A4 c4) := hid
    ⟨⟨(R2.out.1.keep hb3).keep hb34, (R2.out.2.keep hb3).keep hb34, hr4⟩, (HI.out.below B4.out).more B4.out.size, ⟨(ho3.reads.below hb34).more hb34.size, ho3.room, ho3.none_, HI.out.num⟩⟩
  obtain ⟨s4, hs4⟩ : ∃ s, s = w4.heap.size := ⟨_, rfl⟩
  have HS4 : Hid (w.heap.size ≤ s4) := hid (by rw [hs4]; exact B4.out.size)
  have LD : Hid (∀ W, Below s4 w4 W → (ldX 25 (.pointer (some ⟨w.heap.size, 0, none⟩))).run Try.prog W = .ok (.agg #[.int .i64 g.base, .int .i64 g.term, .slice A g.es.length c]) W ∧ (ldX 31 (.pointer (some ⟨w.heap.size + 1, 0, none⟩))).run Try.prog W = .ok (.agg #[.int .i64 m.K, .int .i64 m.F, .int .i64 m.T, .int .i64 m.g, .int .i64 m.t, .int .i64 m.i, .int .i64 m.p, .int .i64 m.c, .int .i64 m.r, .int .i64 m.x, .int .i64 m.a, .int .i64 m.b, .int .i64 m.v, .int .i64 m.s, .bool m.ok, .slice A2 m.es.length c2, .slice A3 m.d.length c3]) W ∧ (ldX 25 (.pointer (some ⟨bx, 0, none⟩))).run Try.prog W = .ok (.agg #[.int .i64 g.base, .int .i64 g.term, .slice A4 g.es.length c4]) W) := hid (fun W hb => by
    rw [hs4] at hb
    exact ⟨(R4.out.1.1.keep hb).ldL, (R4.out.1.2.1.keep hb).ldM rfl, (R4.out.1.2.2.keep hb).ldL⟩)
  have LB : Hid (∀ W, Below s4 w4 W → s4 ≤ W.heap.size) := hid (fun W hb => by have := hb.size; rw [← hs4] at this; exact this)
  obtain ⟨n, hn⟩ : ∃ n, tmo draw = n := ⟨_, rfl⟩
  obtain ⟨b, hbb⟩ : ∃ b, grants term v g m = b := ⟨_, rfl⟩
  have HT : Hid (∀ W, Calls Try.prog 34 #[.int .i64 draw] W fun e w' => e = .returned (.int .i64 n) ∧ w' = W) := hid (fun W => by rw [← hn]; exact timeout_any draw HD.out W)
  have HRT : Hid (∀ W, Calls Try.prog 35 #[.int .i64 draw] W fun e w' => e = .returned (.int .i64 n) ∧ w' = W) := hid (fun W => by rw [← hn]; exact refTimeout_any draw HD.out W)
  have HGR : Hid (∀ W, Below s4 w4 W → Calls Try.prog 13 #[.int .i64 term, .int .i64 v, .agg #[.int .i64 g.base, .int .i64 g.term, .slice A4 g.es.length c4], .agg #[.int .i64 m.K, .int .i64 m.F, .int .i64 m.T, .int .i64 m.g, .int .i64 m.t, .int .i64 m.i, .int .i64 m.p, .int .i64 m.c, .int .i64 m.r, .int .i64 m.x, .int .i64 m.a, .int .i64 m.b, .int .i64 m.v, .int .i64 m.s, .bool m.ok, .slice A2 m.es.length c2, .slice A3 m.d.length c3]] W fun e w' => e = .returned (.bool b) ∧ Below W.heap.size W w') := hid (fun W hb => by
    rw [hs4] at hb
    rw [← hbb]
    exact grants_any W.heap.size g A4 c4 m A2 c2 A3 c3 term v HG.out.ok W ((R4.out.2.2.below hb).more hb.size) (Nat.le_refl _))
  have HRG : Hid (∀ W, Below s4 w4 W → Calls Try.prog 36 #[.int .i64 term, .int .i64 v, .agg #[.int .i64 g.base, .int .i64 g.term, .slice A g.es.length c], .agg #[.int .i64 m.K, .int .i64 m.F, .int .i64 m.T, .int .i64 m.g, .int .i64 m.t, .int .i64 m.i, .int .i64 m.p, .int .i64 m.c, .int .i64 m.r, .int .i64 m.x, .int .i64 m.a, .int .i64 m.b, .int .i64 m.v, .int .i64 m.s, .bool m.ok, .slice A2 m.es.length c2, .slice A3 m.d.length c3]] W fun e w' => e = .returned (.bool b) ∧ Below W.heap.size W w') := hid (fun W hb => by
    rw [hs4] at hb
    rw [← hbb]
    exact refGrants_any W.heap.size g A c m A2 c2 A3 c3 term v HG.out.ok W ((R4.out.2.1.below hb).more hb.size) (Nat.le_refl _))
  have HSL : Hid (∀ W, Below s4 w4 W → Calls Try.prog 37 #[.agg #[.int .i64 g.base, .int .i64 g.term, .slice A4 g.es.length c4], .agg #[.int .i64 g.base, .int .i64 g.term, .slice A g.es.length c]] W fun e w' => e = .returned (.bool true) ∧ Below W.heap.size W w') := hid (fun W hb => by
    rw [hs4] at hb
    have := log_same g g A4 A c4 c (by have := HFE.out.1; omega) W ((R4.out.2.2.es.below hb).more hb.size) ((R4.out.2.1.es.below hb).more hb.size)
    rw [decide_eq_true rfl] at this
    exact this)
  have hd4 : Below s4 w4 w4.drew := (Below.refl _ _).drew
  have G0 := hid hd4
  have e0 := LD.out w4 (Below.refl _ _)
  have e1 := LD.out w4.drew hd4
  rw [hbx] at hst
  have HBX := hid hbx
  clear hbx hd4 hb3 ho3 hb34 hr4 hs4 hn hbb ld2 R2 HC HFE hw4
  cases b <;>
  (go_wp2_with fail
   rw [← HBX.out]
   clear hst
   go_region_held3 (fun W => (ldX 25 (.pointer (some ⟨w.heap.size, 0, none⟩))).run Try.prog W = .ok (.agg #[.int .i64 g.base, .int .i64 g.term, .slice A g.es.length c]) W ∧ (ldX 31 (.pointer (some ⟨w.heap.size + 1, 0, none⟩))).run Try.prog W = .ok (.agg #[.int .i64 m.K, .int .i64 m.F, .int .i64 m.T, .int .i64 m.g, .int .i64 m.t, .int .i64 m.i, .int .i64 m.p, .int .i64 m.c, .int .i64 m.r, .int .i64 m.x, .int .i64 m.a, .int .i64 m.b, .int .i64 m.v, .int .i64 m.s, .bool m.ok, .slice A2 m.es.length c2, .slice A3 m.d.length c3]) W ∧ (ldX 25 (.pointer (some ⟨bx, 0, none⟩))).run Try.prog W = .ok (.agg #[.int .i64 g.base, .int .i64 g.term, .slice A4 g.es.length c4]) W)
     (first | with_reducible exact e6 | with_reducible exact e5 | with_reducible exact e4 | with_reducible exact e3 | with_reducible exact e1 | with_reducible exact e0 | fail)
     (first
       | (go_at_call 15; refine (works_any _).mono ?_; rintro e v6 ⟨rfl, hb6⟩; have G6 := hid (G5.out.trans (hb6.mono (LB.out _ G5.out))); have e6 := LD.out v6 G6.out; clear hb6)
       | (go_at_call 37; refine (HSL.out _ G4.out).mono ?_; rintro e v5 ⟨rfl, hb5⟩; have G5 := hid (G4.out.trans (hb5.mono (LB.out _ G4.out))); have e5 := LD.out v5 G5.out; clear hb5)
       | (go_at_call 36; refine (HRG.out _ G3.out).mono ?_; rintro e v4 ⟨rfl, hb4⟩; have G4 := hid (G3.out.trans (hb4.mono (LB.out _ G3.out))); have e4 := LD.out v4 G4.out; clear hb4)
       | (go_at_call 13; refine (HGR.out _ G3.out).mono ?_; rintro e v4 ⟨rfl, hb4⟩; have G4 := hid (G3.out.trans (hb4.mono (LB.out _ G3.out))); have e4 := LD.out v4 G4.out; clear hb4)
       | (go_at_call 36; refine (HRG.out _ G0.out).mono ?_; rintro e v3 ⟨rfl, hb3⟩; have G3 := hid (G0.out.trans (hb3.mono (LB.out _ G0.out))); have e3 := LD.out v3 G3.out; clear hb3)
       | (go_at_call 13; refine (HGR.out _ G0.out).mono ?_; rintro e v3 ⟨rfl, hb3⟩; have G3 := hid (G0.out.trans (hb3.mono (LB.out _ G0.out))); have e3 := LD.out v3 G3.out; clear hb3)
       | (go_at_call 34; refine (HT.out _).mono ?_; rintro e v2 ⟨rfl, rfl⟩)
       | (go_at_call 35; refine (HRT.out _).mono ?_; rintro e v2 ⟨rfl, rfl⟩)
       | fail)
   all_goals
     (have HB9 := hid (B4.out.trans (G6.out.mono (show w.heap.size ≤ s4 from HS4.out)))
      clear e0 e1 e3 e4 e5 e6 LD HGR HRG HSL HT HRT
      go_wp2_with fail
      go_ret
      exact ⟨rfl, HB9.out⟩))
end Go.Proofs.Ytkmbkihfdilmbaa.Vo
namespace Go.Proofs.Ytkmbkihfdilmbaa.Vo
open Go Go.RowKit
open Rl (En Lg)
open Ms (M)
open Im (ldX stX)
set_option maxRecDepth 100000
set_option linter.unusedVariables false
attribute [local go_sem ↓] loadAt_msgV storeAt_msgV Im.loadAt_log1 Im.storeAt_log1
theorem nat_xor1_ne (a : Nat) : (a ^^^ 1) % 2 ≠ a % 2 := by
  have := Nat.testBit_xor a 1 0
  simp only [Nat.testBit_zero] at this
  rcases Nat.mod_two_eq_zero_or_one a with ha | ha <;>
    rcases Nat.mod_two_eq_zero_or_one (a ^^^ 1) with hc | hc <;> simp_all
theorem xor1_ne (a : Int) : bits .xor .i64 a 1 ≠ a := by
  intro h
  have e : bits .xor .i64 a 1 = IntKind.i64.wrap ((BitVec.ofInt 64 a ^^^ BitVec.ofInt 64 1).toNat : Int) := rfl
  rw [e, BitVec.toNat_xor] at h
  have h1 : (BitVec.ofInt 64 (1 : Int)).toNat = 1 := by decide
  rw [h1] at h
  have h2 : ((BitVec.ofInt 64 a).toNat : Int) = a % 18446744073709551616 := by
    rw [BitVec.toNat_ofInt]
    have : (0 : Int) ≤ a % 18446744073709551616 := Int.emod_nonneg _ (by decide)
    show ((a % 18446744073709551616).toNat : Int) = _
    omega
  have h3 := nat_xor1_ne (BitVec.ofInt 64 a).toNat
  generalize (BitVec.ofInt 64 a).toNat = x at *
  generalize x ^^^ 1 = y at *
  rw [IntKind.wrap_i64] at h
  omega
theorem tmo_lim (d : Int) : ¬ tmo d < 10 ∧ ¬ 20 ≤ tmo d := by unfold tmo; omega
theorem grants_at {t v : Int} {g : Lg} {m : M} (h : grants t v g m = true) : m.K = 1 ∧ m.t = t ∧ (v = 0 ∨ v = m.F) ∧ g.newer m.i m.p = true := by
  unfold grants at h
  simp only [Bool.and_eq_true, Bool.or_eq_true, decide_eq_true_eq] at h
  exact ⟨h.1.1.1, h.1.1.2, h.1.2, h.2⟩
theorem Rw.three (w : World) (x y z : Array Value) (s t u : TypeId) : Rw (((w.alloc (.cells x s)).alloc (.cells y t)).alloc (.cells z u)) w.heap.size x s ∧ Rw (((w.alloc (.cells x s)).alloc (.cells y t)).alloc (.cells z u)) (w.heap.size + 1) y t ∧ Rw (((w.alloc (.cells x s)).alloc (.cells y t)).alloc (.cells z u)) (w.heap.size + 2) z u ∧ Below w.heap.size w (((w.alloc (.cells x s)).alloc (.cells y t)).alloc (.cells z u)) := by
  obtain ⟨r0, r1⟩ := Rw.two w x y s t
  obtain ⟨hb, hz⟩ := boxes w x y s t
  have hb3 : Below ((w.alloc (.cells x s)).alloc (.cells y t)).heap.size ((w.alloc (.cells x s)).alloc (.cells y t)) (((w.alloc (.cells x s)).alloc (.cells y t)).alloc (.cells z u)) := (Below.refl _ _).alloc (Nat.le_refl _) _
  have q := heap_alloc_new ((w.alloc (.cells x s)).alloc (.cells y t)) (.cells z u)
  rw [hz] at q
  exact ⟨r0.keep hb3, r1.keep hb3, q, hb.trans (hb3.mono hb.size)⟩
set_option maxHeartbeats 12800000 in
theorem once_any (draw term : Int) (hd : InInt draw) (g : Lg) (A : Option Addr) (c : Nat) (a : M) (A2 : Option Addr) (c2 : Nat) (A3 : Option Addr) (c3 : Nat) (b : M) (A4 : Option Addr) (c4 : Nat) (A5 : Option Addr) (c5 : Nat) (hg : LogOk g) (w : World) (h : LgIs w w.heap.size g A c) :
    Calls Try.prog 10 #[.int .i64 draw, .int .i64 term, .agg #[.int .i64 g.base, .int .i64 g.term, .slice A g.es.length c], .agg #[.int .i64 a.K, .int .i64 a.F, .int .i64 a.T, .int .i64 a.g, .int .i64 a.t, .int .i64 a.i, .int .i64 a.p, .int .i64 a.c, .int .i64 a.r, .int .i64 a.x, .int .i64 a.a, .int .i64 a.b, .int .i64 a.v, .int .i64 a.s, .bool a.ok, .slice A2 a.es.length c2, .slice A3 a.d.length c3], .agg #[.int .i64 b.K, .int .i64 b.F, .int .i64 b.T, .int .i64 b.g, .int .i64 b.t, .int .i64 b.i, .int .i64 b.p, .int .i64 b.c, .int .i64 b.r, .int .i64 b.x, .int .i64 b.a, .int .i64 b.b, .int .i64 b.v, .int .i64 b.s, .bool b.ok, .slice A4 b.es.length c4, .slice A5 b.d.length c5]] w fun e w' => e = .returned (.bool true) ∧ Below w.heap.size w w' := by
  obtain ⟨w1, hw1⟩ : ∃ w1, w1 = ((w.alloc (.cells #[.int .i64 g.base, .int .i64 g.term, .slice A g.es.length c] 25)).alloc (.cells #[.int .i64 a.K, .int .i64 a.F, .int .i64 a.T, .int .i64 a.g, .int .i64 a.t, .int .i64 a.i, .int .i64 a.p, .int .i64 a.c, .int .i64 a.r, .int .i64 a.x, .int .i64 a.a, .int .i64 a.b, .int .i64 a.v, .int .i64 a.s, .bool a.ok, .slice A2 a.es.length c2, .slice A3 a.d.length c3] 31)).alloc (.cells #[.int .i64 b.K, .int .i64 b.F, .int .i64 b.T, .int .i64 b.g, .int .i64 b.t, .int .i64 b.i, .int .i64 b.p, .int .i64 b.c, .int .i64 b.r, .int .i64 b.x, .int .i64 b.a, .int .i64 b.b, .int .i64 b.v, .int .i64 b.s, .bool b.ok, .slice A4 b.es.length c4, .slice A5 b.d.length c5] 31) := ⟨_, rfl⟩
  obtain ⟨r0, r1, r2, hb⟩ := Rw.three w #[.int .i64 g.base, .int .i64 g.term, .slice A g.es.length c] #[.int .i64 a.K, .int .i64 a.F, .int .i64 a.T, .int .i64 a.g, .int .i64 a.t, .int .i64 a.i, .int .i64 a.p, .int .i64 a.c, .int .i64 a.r, .int .i64 a.x, .int .i64 a.a, .int .i64 a.b, .int .i64 a.v, .int .i64 a.s, .bool a.ok, .slice A2 a.es.length c2, .slice A3 a.d.length c3] #[.int .i64 b.K, .int .i64 b.F, .int .i64 b.T, .int .i64 b.g, .int .i64 b.t, .int .i64 b.i, .int .i64 b.p, .int .i64 b.c, .int .i64 b.r, .int .i64 b.x, .int .i64 b.a, .int .i64 b.b, .int .i64 b.v, .int .i64 b.s, .bool b.ok, .slice A4 b.es.length c4, .slice A5 b.d.length c5] 25 31 31
  rw [← hw1] at hb r0 r1 r2
  have R1 := hid (And.intro r0 (And.intro r1 r2))
  have B1 := hid hb
  have HG := hid hg
  have HI := hid h
  have HL := hid (long_any g A c hg.lim hg.few w1 ((h.below hb).more hb.size))
  have ld1 := r0.ldL
  rw [hw1] at ld1
  have HT := hid (timeout_any draw hd)
  have HGR : Hid (∀ (t v : Int) (m : M) (r : Bool) (X Y : Option Addr) (x y : Nat), grants t v g m = r → ∀ W, Below w1.heap.size w1 W → Calls Try.prog 13 #[.int .i64 t, .int .i64 v, .agg #[.int .i64 g.base, .int .i64 g.term, .slice A g.es.length c], .agg #[.int .i64 m.K, .int .i64 m.F, .int .i64 m.T, .int .i64 m.g, .int .i64 m.t, .int .i64 m.i, .int .i64 m.p, .int .i64 m.c, .int .i64 m.r, .int .i64 m.x, .int .i64 m.a, .int .i64 m.b, .int .i64 m.v, .int .i64 m.s, .bool m.ok, .slice X m.es.length x, .slice Y m.d.length y]] W fun e w' => e = .returned (.bool r) ∧ Below W.heap.size W w') := hid (fun t v m r X Y x y hr W hW => by
    have := grants_any W.heap.size g A c m X x Y y t v HG.out.ok W ((((HI.out.below B1.out).more B1.out.size).below hW).more hW.size) (Nat.le_refl _)
    rw [hr] at this
    exact this)
  have LD : Hid (∀ W, Below w1.heap.size w1 W → (ldX 25 (.pointer (some ⟨w.heap.size, 0, none⟩))).run Try.prog W = .ok (.agg #[.int .i64 g.base, .int .i64 g.term, .slice A g.es.length c]) W ∧ (ldX 31 (.pointer (some ⟨w.heap.size + 1, 0, none⟩))).run Try.prog W = .ok (.agg #[.int .i64 a.K, .int .i64 a.F, .int .i64 a.T, .int .i64 a.g, .int .i64 a.t, .int .i64 a.i, .int .i64 a.p, .int .i64 a.c, .int .i64 a.r, .int .i64 a.x, .int .i64 a.a, .int .i64 a.b, .int .i64 a.v, .int .i64 a.s, .bool a.ok, .slice A2 a.es.length c2, .slice A3 a.d.length c3]) W ∧ (ldX 31 (.pointer (some ⟨w.heap.size + 2, 0, none⟩))).run Try.prog W = .ok (.agg #[.int .i64 b.K, .int .i64 b.F, .int .i64 b.T, .int .i64 b.g, .int .i64 b.t, .int .i64 b.i, .int .i64 b.p, .int .i64 b.c, .int .i64 b.r, .int .i64 b.x, .int .i64 b.a, .int .i64 b.b, .int .i64 b.v, .int .i64 b.s, .bool b.ok, .slice A4 b.es.length c4, .slice A5 b.d.length c5]) W) := hid (fun W hW => ⟨(R1.out.1.keep hW).ldL, (R1.out.2.1.keep hW).ldM rfl, (R1.out.2.2.keep hW).ldM rfl⟩)
  have CE : Hid (∀ W, Below w1.heap.size w1 W → W.cell? ⟨w.heap.size + 1, 1, none⟩ = some (.int .i64 a.F) ∧ W.cell? ⟨w.heap.size + 1, 4, none⟩ = some (.int .i64 a.t) ∧ W.cell? ⟨w.heap.size + 2, 1, none⟩ = some (.int .i64 b.F)) := hid (fun W hW => ⟨row_cell (R1.out.2.1.keep hW) 1, row_cell (R1.out.2.1.keep hW) 4, row_cell (R1.out.2.2.keep hW) 1⟩)
  have LM := hid (tmo_lim draw)
  clear hb r0 r1 r2 h hg hd
  go_enter Try.func10, Try.ntmps10
  go_wp2_with fail
  rw [← hw1]
  clear hw1 ld1
  refine HL.out.mono ?_
  rintro e w2 ⟨rfl, hb2⟩
  have G2 := hid hb2
  clear hb2 HL
  go_wp2_with fail
  refine (HT.out w2).mono ?_
  obtain ⟨n, hn⟩ : ∃ n, tmo draw = n := ⟨_, rfl⟩
  have hn1 : ¬ n < 10 := by have := LM.out; omega
  have hn2 : ¬ 20 ≤ n := by have := LM.out; omega
  rw [hn]
  clear hn LM HT
  rintro e w3 ⟨rfl, rfl⟩
  obtain ⟨l0, l1, l2⟩ := LD.out w3 G2.out
  obtain ⟨b1, hb1⟩ : ∃ b1, grants term 0 g a = b1 := ⟨_, rfl⟩
  have HB1 := hid hb1
  have HC1 := hid (HGR.out term 0 a b1 A2 A3 c2 c3 hb1 w3 G2.out)
  clear hb1
  go_wp2_with fail
  refine HC1.out.mono ?_
  rintro e w4 ⟨rfl, hb4⟩
  have G4 := hid (G2.out.trans (hb4.mono G2.out.size))
  clear hb4 l0 l1 l2 HC1
  obtain ⟨x1, x4, y1⟩ := CE.out w4 G4.out
  cases b1 with
  | false =>
    go_wp2_with fail
    refine (works_any _).mono ?_
    rintro e w5 ⟨rfl, hb5⟩
    have B5 := hid (B1.out.trans ((G4.out.trans (hb5.mono G4.out.size)).mono B1.out.size))
    clear hb5
    go_wp2_with fail
    go_ret
    exact ⟨rfl, B5.out⟩
  | true =>
    obtain ⟨k1, k2, _, k4⟩ := grants_at HB1.out
    by_cases hF : a.F = 0
    · have hF0 : (a.F == 0) = true := by simpa using hF
      clear hF k1 k2 k4
      go_wp2_with fail
      refine (works_any _).mono ?_
      rintro e w5 ⟨rfl, hb5⟩
      have B5 := hid (B1.out.trans ((G4.out.trans (hb5.mono G4.out.size)).mono B1.out.size))
      clear hb5
      go_wp2_with fail
      go_ret
      exact ⟨rfl, B5.out⟩
    · have hF0 : (a.F == 0) = false := by simpa using hF
      have ht0 : (a.t != term) = false := by simpa using k2
      have hg1 : grants term a.F g a = true := by rw [grants_yes k1 k2 (.inr rfl)]; exact k4
      have HC2 := hid (HGR.out term a.F a true A2 A3 c2 c3 hg1 w4 G4.out)
      have HX0 : Hid (∀ W, Below w1.heap.size w1 W → Calls Try.prog 13 #[.int .i64 (bits .xor .i64 term 1), .int .i64 0, .agg #[.int .i64 g.base, .int .i64 g.term, .slice A g.es.length c], .agg #[.int .i64 a.K, .int .i64 a.F, .int .i64 a.T, .int .i64 a.g, .int .i64 a.t, .int .i64 a.i, .int .i64 a.p, .int .i64 a.c, .int .i64 a.r, .int .i64 a.x, .int .i64 a.a, .int .i64 a.b, .int .i64 a.v, .int .i64 a.s, .bool a.ok, .slice A2 a.es.length c2, .slice A3 a.d.length c3]] W fun e w' => e = .returned (.bool false) ∧ Below W.heap.size W w') := hid (HGR.out (bits .xor .i64 term 1) 0 a false A2 A3 c2 c3 (grants_no (fun h => xor1_ne term (h.2.1.symm.trans k2))))
      obtain ⟨l0, l1, l2⟩ := LD.out w4 G4.out
      have HKF := hid hF
      clear hF k1 k2 k4 hg1
      go_wp2_with fail
      refine HC2.out.mono ?_
      rintro e w5 ⟨rfl, hb5⟩
      have G5 := hid (G4.out.trans (hb5.mono G4.out.size))
      clear hb5 l0 l1 l2 HC2 x1 x4 y1
      obtain ⟨x1, x4, y1⟩ := CE.out w5 G5.out
      obtain ⟨l0, l1, l2⟩ := LD.out w5 G5.out
      by_cases hbf : b.F = a.F
      · have hbf0 : (b.F != a.F) = false := by simpa using hbf
        clear hbf
        go_wp2_with fail
        refine (HX0.out w5 G5.out).mono ?_
        rintro e w6 ⟨rfl, hb6⟩
        have G6 := hid (G5.out.trans (hb6.mono G5.out.size))
        clear hb6 l0 l1 l2 x1 x4 y1
        go_wp2_with fail
        refine (works_any _).mono ?_
        rintro e w7 ⟨rfl, hb7⟩
        have B7 := hid (B1.out.trans ((G6.out.trans (hb7.mono G6.out.size)).mono B1.out.size))
        clear hb7
        go_wp2_with fail
        go_ret
        exact ⟨rfl, B7.out⟩
      · have hbf0 : (b.F != a.F) = true := by simpa using hbf
        have HC3 := hid (HGR.out term a.F b false A4 A5 c4 c5 (grants_no (fun h => h.2.2.elim HKF.out (fun e => hbf e.symm))) w5 G5.out)
        clear hbf
        go_wp2_with fail
        refine HC3.out.mono ?_
        rintro e w6 ⟨rfl, hb6⟩
        have G6 := hid (G5.out.trans (hb6.mono G5.out.size))
        clear hb6 l0 l1 l2 x1 x4 y1 HC3
        obtain ⟨l0, l1, l2⟩ := LD.out w6 G6.out
        go_wp2_with fail
        refine (HX0.out w6 G6.out).mono ?_
        rintro e w7 ⟨rfl, hb7⟩
        have G7 := hid (G6.out.trans (hb7.mono G6.out.size))
        clear hb7 l0 l1 l2
        go_wp2_with fail
        refine (works_any _).mono ?_
        rintro e w8 ⟨rfl, hb8⟩
        have B8 := hid (B1.out.trans ((G7.out.trans (hb8.mono G7.out.size)).mono B1.out.size))
        clear hb8
        go_wp2_with fail
        go_ret
        exact ⟨rfl, B8.out⟩
end Go.Proofs.Ytkmbkihfdilmbaa.Vo
namespace Go.Proofs.Ytkmbkihfdilmbaa.Vo
open Go Go.RowKit
open Rl (En Lg)
open Ms (M)
open Im (ldX stX)
set_option maxRecDepth 100000
set_option linter.unusedVariables false
attribute [local go_sem ↓] loadAt_msgV storeAt_msgV Im.loadAt_log1 Im.storeAt_log1
theorem Rw.put {w : World} {b : Nat} {cs : Array Value} {t : TypeId} (h : Rw w b cs t) (i : Nat) (u : Value) : Rw (w.setCell ⟨b, i, none⟩ u) b (cs.setIfInBounds i u) t := row_set h i u
theorem Rw.other {w : World} {b b' : Nat} {cs : Array Value} {t : TypeId} (h : Rw w b cs t) (hb : b < b') (i : Nat) (u : Value) : Rw (w.setCell ⟨b', i, none⟩ u) b cs t := (((Below.refl b' w).setCell (Nat.le_refl _) _).block _ hb).trans h
theorem newer_at {g : Lg} {i t : Int} (h : g.newer i t = true) : g.lastT < t ∨ (t = g.lastT ∧ g.last ≤ i) := by
  unfold Rl.Lg.newer at h
  simpa using h
theorem newer_of {g : Lg} {i t : Int} (h : g.lastT < t ∨ (t = g.lastT ∧ g.last ≤ i)) : g.newer i t = true := by
  unfold Rl.Lg.newer
  simpa using h
set_option maxHeartbeats 12800000 in
theorem whole_any (term v : Int) (g : Lg) (A : Option Addr) (c : Nat) (m : M) (A2 : Option Addr) (c2 : Nat) (A3 : Option Addr) (c3 : Nat) (more later : Int) (hg : LogOk g) (w : World) (h : LgIs w w.heap.size g A c) :
    Calls Try.prog 11 #[.int .i64 term, .int .i64 v, .agg #[.int .i64 g.base, .int .i64 g.term, .slice A g.es.length c], .agg #[.int .i64 m.K, .int .i64 m.F, .int .i64 m.T, .int .i64 m.g, .int .i64 m.t, .int .i64 m.i, .int .i64 m.p, .int .i64 m.c, .int .i64 m.r, .int .i64 m.x, .int .i64 m.a, .int .i64 m.b, .int .i64 m.v, .int .i64 m.s, .bool m.ok, .slice A2 m.es.length c2, .slice A3 m.d.length c3], .int .i64 more, .int .i64 later] w fun e w' => e = .returned (.bool true) ∧ Below w.heap.size w w' := by
  obtain ⟨w1, hw1⟩ : ∃ w1, w1 = (w.alloc (.cells #[.int .i64 g.base, .int .i64 g.term, .slice A g.es.length c] 25)).alloc (.cells #[.int .i64 m.K, .int .i64 m.F, .int .i64 m.T, .int .i64 m.g, .int .i64 m.t, .int .i64 m.i, .int .i64 m.p, .int .i64 m.c, .int .i64 m.r, .int .i64 m.x, .int .i64 m.a, .int .i64 m.b, .int .i64 m.v, .int .i64 m.s, .bool m.ok, .slice A2 m.es.length c2, .slice A3 m.d.length c3] 31) := ⟨_, rfl⟩
  obtain ⟨hb, hz⟩ := boxes w #[.int .i64 g.base, .int .i64 g.term, .slice A g.es.length c] #[.int .i64 m.K, .int .i64 m.F, .int .i64 m.T, .int .i64 m.g, .int .i64 m.t, .int .i64 m.i, .int .i64 m.p, .int .i64 m.c, .int .i64 m.r, .int .i64 m.x, .int .i64 m.a, .int .i64 m.b, .int .i64 m.v, .int .i64 m.s, .bool m.ok, .slice A2 m.es.length c2, .slice A3 m.d.length c3] 25 31
  obtain ⟨r0, r1⟩ := Rw.two w #[.int .i64 g.base, .int .i64 g.term, .slice A g.es.length c] #[.int .i64 m.K, .int .i64 m.F, .int .i64 m.T, .int .i64 m.g, .int .i64 m.t, .int .i64 m.i, .int .i64 m.p, .int .i64 m.c, .int .i64 m.r, .int .i64 m.x, .int .i64 m.a, .int .i64 m.b, .int .i64 m.v, .int .i64 m.s, .bool m.ok, .slice A2 m.es.length c2, .slice A3 m.d.length c3] 25 31
  rw [← hw1] at hb r0 r1
  have R1 := hid (And.intro r0 r1)
  have B1 := hid hb
  have Z1 : Hid (w1.heap.size = w.heap.size + 2) := hid (by rw [hw1]; exact hz)
  have HG := hid hg
  have HI := hid h
  have HL := hid (long_any g A c hg.lim hg.few w1 ((h.below hb).more hb.size))
  have ld1 := r0.ldL
  rw [hw1] at ld1
  have HGR : Hid (∀ (t v : Int) (m : M) (r : Bool) (X Y : Option Addr) (x y : Nat), grants t v g m = r → ∀ W, Below w1.heap.size w1 W → Calls Try.prog 13 #[.int .i64 t, .int .i64 v, .agg #[.int .i64 g.base, .int .i64 g.term, .slice A g.es.length c], .agg #[.int .i64 m.K, .int .i64 m.F, .int .i64 m.T, .int .i64 m.g, .int .i64 m.t, .int .i64 m.i, .int .i64 m.p, .int .i64 m.c, .int .i64 m.r, .int .i64 m.x, .int .i64 m.a, .int .i64 m.b, .int .i64 m.v, .int .i64 m.s, .bool m.ok, .slice X m.es.length x, .slice Y m.d.length y]] W fun e w' => e = .returned (.bool r) ∧ Below W.heap.size W w') := hid (fun t v m r X Y x y hr W hW => by
    have := grants_any W.heap.size g A c m X x Y y t v HG.out.ok W ((((HI.out.below B1.out).more B1.out.size).below hW).more hW.size) (Nat.le_refl _)
    rw [hr] at this
    exact this)
  clear hb hz r0 r1 h hg
  go_enter Try.func11, Try.ntmps11
  go_wp2_with fail
  rw [← hw1]
  clear hw1 ld1
  refine HL.out.mono ?_
  rintro e w2 ⟨rfl, hb2⟩
  have G2 := hid hb2
  have R2 := hid (And.intro (R1.out.1.keep hb2) (R1.out.2.keep hb2))
  clear hb2 HL
  have l0 := R2.out.1.ldL
  have l1 := R2.out.2.ldM rfl
  obtain ⟨b1, hb1⟩ : ∃ b1, grants term v g m = b1 := ⟨_, rfl⟩
  have HB1 := hid hb1
  have HC1 := hid (HGR.out term v m b1 A2 A3 c2 c3 hb1 w2 G2.out)
  clear hb1
  go_wp2_with fail
  refine HC1.out.mono ?_
  rintro e w4 ⟨rfl, hb4⟩
  have G4 := hid (G2.out.trans (hb4.mono G2.out.size))
  have R4 := hid (And.intro (R2.out.1.keep hb4) (R2.out.2.keep hb4))
  clear hb4 l0 l1 HC1 R2
  cases b1 with
  | false =>
    go_wp2_with fail
    refine (works_any _).mono ?_
    rintro e w5 ⟨rfl, hb5⟩
    have B5 := hid (B1.out.trans ((G4.out.trans (hb5.mono G4.out.size)).mono B1.out.size))
    clear hb5
    go_wp2_with fail
    go_ret
    exact ⟨rfl, B5.out⟩
  | true =>
    obtain ⟨k1, k2, k3, k4⟩ := grants_at HB1.out
    have K4 := newer_at k4
    obtain ⟨i', hi'⟩ : ∃ i', max m.i more = i' := ⟨_, rfl⟩
    obtain ⟨p', hp'⟩ : ∃ p', max m.p later = p' := ⟨_, rfl⟩
    have HX : Hid (grants term v g { m with i := i' } = true) := hid (by
      rw [grants_yes (m := { m with i := i' }) k1 k2 k3]
      exact newer_of (K4.imp id (fun h => ⟨h.1, by have := h.2; show g.last ≤ i'; omega⟩)))
    have HY : Hid ((p' == m.p) = false → grants term v g { m with p := p' } = true) := hid (fun hne => by
      rw [grants_yes (m := { m with p := p' }) k1 k2 k3]
      have hne' : p' ≠ m.p := by simpa using hne
      exact newer_of (.inl (by show g.lastT < p'; omega)))
    have HK := hid K4
    have HIP := hid (And.intro hi' hp')
    clear k1 k2 k3 k4 K4 HB1 hi' hp'
    -- the worlds to come
    obtain ⟨b4, hb4⟩ : ∃ b, b = w4.heap.size := ⟨_, rfl⟩
    have hst5 := Im.stNew w4 31 17 info_msgV #[.int .i64 0, .int .i64 0, .int .i64 0, .int .i64 0, .int .i64 0, .int .i64 0, .int .i64 0, .int .i64 0, .int .i64 0, .int .i64 0, .int .i64 0, .int .i64 0, .int .i64 0, .int .i64 0, .bool false, .slice none 0 0, .slice none 0 0] #[.int .i64 m.K, .int .i64 m.F, .int .i64 m.T, .int .i64 m.g, .int .i64 m.t, .int .i64 m.i, .int .i64 m.p, .int .i64 m.c, .int .i64 m.r, .int .i64 m.x, .int .i64 m.a, .int .i64 m.b, .int .i64 m.v, .int .i64 m.s, .bool m.ok, .slice A2 m.es.length c2, .slice A3 m.d.length c3] rfl rfl (by simp [Value.oneCell'])
    obtain ⟨w5, hw5⟩ : ∃ w5, w5 = w4.alloc (.cells #[.int .i64 m.K, .int .i64 m.F, .int .i64 m.T, .int .i64 m.g, .int .i64 m.t, .int .i64 m.i, .int .i64 m.p, .int .i64 m.c, .int .i64 m.r, .int .i64 m.x, .int .i64 m.a, .int .i64 m.b, .int .i64 m.v, .int .i64 m.s, .bool m.ok, .slice A2 m.es.length c2, .slice A3 m.d.length c3] 31) := ⟨_, rfl⟩
    rw [← hw5] at hst5
    have z5 : w5.heap.size = b4 + 1 := by rw [hw5, hb4]; simp
    have hb45 : Below w4.heap.size w4 w5 := by rw [hw5]; exact (Below.refl _ _).alloc (Nat.le_refl _) _
    have q5 : Rw w5 b4 #[.int .i64 m.K, .int .i64 m.F, .int .i64 m.T, .int .i64 m.g, .int .i64 m.t, .int .i64 m.i, .int .i64 m.p, .int .i64 m.c, .int .i64 m.r, .int .i64 m.x, .int .i64 m.a, .int .i64 m.b, .int .i64 m.v, .int .i64 m.s, .bool m.ok, .slice A2 m.es.length c2, .slice A3 m.d.length c3] 31 := by rw [hw5, hb4]; exact heap_alloc_new w4 _
    have R5 := And.intro (R4.out.1.keep hb45) (R4.out.2.keep hb45)
    obtain ⟨w6, hw6⟩ : ∃ w6, w6 = w5.setCell ⟨b4, 5, none⟩ (.int .i64 i') := ⟨_, rfl⟩
    have z6 : w6.heap.size = b4 + 1 := by rw [hw6]; simpa using z5
    have hlt : w.heap.size + 1 < b4 := by rw [hb4]; have := G4.out.size; have := Z1.out; omega
    have q6 : Rw w6 b4 #[.int .i64 (({ m with i := i' } : M)).K, .int .i64 (({ m with i := i' } : M)).F, .int .i64 (({ m with i := i' } : M)).T, .int .i64 (({ m with i := i' } : M)).g, .int .i64 (({ m with i := i' } : M)).t, .int .i64 (({ m with i := i' } : M)).i, .int .i64 (({ m with i := i' } : M)).p, .int .i64 (({ m with i := i' } : M)).c, .int .i64 (({ m with i := i' } : M)).r, .int .i64 (({ m with i := i' } : M)).x, .int .i64 (({ m with i := i' } : M)).a, .int .i64 (({ m with i := i' } : M)).b, .int .i64 (({ m with i := i' } : M)).v, .int .i64 (({ m with i := i' } : M)).s, .bool (({ m with i := i' } : M)).ok, .slice A2 (({ m with i := i' } : M)).es.length c2, .slice A3 (({ m with i := i' } : M)).d.length c3] 31 := by rw [hw6]; exact q5.put 5 _
    have R6 : Rw w6 w.heap.size #[.int .i64 g.base, .int .i64 g.term, .slice A g.es.length c] 25 ∧ Rw w6 (w.heap.size + 1) #[.int .i64 m.K, .int .i64 m.F, .int .i64 m.T, .int .i64 m.g, .int .i64 m.t, .int .i64 m.i, .int .i64 m.p, .int .i64 m.c, .int .i64 m.r, .int .i64 m.x, .int .i64 m.a, .int .i64 m.b, .int .i64 m.v, .int .i64 m.s, .bool m.ok, .slice A2 m.es.length c2, .slice A3 m.d.length c3] 31 := by rw [hw6]; exact ⟨R5.1.other (by omega) _ _, R5.2.other hlt _ _⟩
    have hst7 := Im.stNew w6 31 17 info_msgV #[.int .i64 0, .int .i64 0, .int .i64 0, .int .i64 0, .int .i64 0, .int .i64 0, .int .i64 0, .int .i64 0, .int .i64 0, .int .i64 0, .int .i64 0, .int .i64 0, .int .i64 0, .int .i64 0, .bool false, .slice none 0 0, .slice none 0 0] #[.int .i64 m.K, .int .i64 m.F, .int .i64 m.T, .int .i64 m.g, .int .i64 m.t, .int .i64 m.i, .int .i64 m.p, .int .i64 m.c, .int .i64 m.r, .int .i64 m.x, .int .i64 m.a, .int .i64 m.b, .int .i64 m.v, .int .i64 m.s, .bool m.ok, .slice A2 m.es.length c2, .slice A3 m.d.length c3] rfl rfl (by simp [Value.oneCell'])
    obtain ⟨b6, hb6⟩ : ∃ b, b = w6.heap.size := ⟨_, rfl⟩
    obtain ⟨w7, hw7⟩ : ∃ w7, w7 = w6.alloc (.cells #[.int .i64 m.K, .int .i64 m.F, .int .i64 m.T, .int .i64 m.g, .int .i64 m.t, .int .i64 m.i, .int .i64 m.p, .int .i64 m.c, .int .i64 m.r, .int .i64 m.x, .int .i64 m.a, .int .i64 m.b, .int .i64 m.v, .int .i64 m.s, .bool m.ok, .slice A2 m.es.length c2, .slice A3 m.d.length c3] 31) := ⟨_, rfl⟩
    rw [← hw7] at hst7
    have hb67 : Below w6.heap.size w6 w7 := by rw [hw7]; exact (Below.refl _ _).alloc (Nat.le_refl _) _
    have q7 : Rw w7 b6 #[.int .i64 m.K, .int .i64 m.F, .int .i64 m.T, .int .i64 m.g, .int .i64 m.t, .int .i64 m.i, .int .i64 m.p, .int .i64 m.c, .int .i64 m.r, .int .i64 m.x, .int .i64 m.a, .int .i64 m.b, .int .i64 m.v, .int .i64 m.s, .bool m.ok, .slice A2 m.es.length c2, .slice A3 m.d.length c3] 31 := by rw [hw7, hb6]; exact heap_alloc_new w6 _
    have R7 := And.intro (R6.1.keep hb67) (And.intro (R6.2.keep hb67) (q6.keep hb67))
    obtain ⟨w8, hw8⟩ : ∃ w8, w8 = w7.setCell ⟨b6, 6, none⟩ (.int .i64 p') := ⟨_, rfl⟩
    have q8 : Rw w8 b6 #[.int .i64 (({ m with p := p' } : M)).K, .int .i64 (({ m with p := p' } : M)).F, .int .i64 (({ m with p := p' } : M)).T, .int .i64 (({ m with p := p' } : M)).g, .int .i64 (({ m with p := p' } : M)).t, .int .i64 (({ m with p := p' } : M)).i, .int .i64 (({ m with p := p' } : M)).p, .int .i64 (({ m with p := p' } : M)).c, .int .i64 (({ m with p := p' } : M)).r, .int .i64 (({ m with p := p' } : M)).x, .int .i64 (({ m with p := p' } : M)).a, .int .i64 (({ m with p := p' } : M)).b, .int .i64 (({ m with p := p' } : M)).v, .int .i64 (({ m with p := p' } : M)).s, .bool (({ m with p := p' } : M)).ok, .slice A2 (({ m with p := p' } : M)).es.length c2, .slice A3 (({ m with p := p' } : M)).d.length c3] 31 := by rw [hw8]; exact q7.put 6 _
    have R8 : Hid (Rw w8 w.heap.size #[.int .i64 g.base, .int .i64 g.term, .slice A g.es.length c] 25 ∧ Rw w8 (w.heap.size + 1) #[.int .i64 m.K, .int .i64 m.F, .int .i64 m.T, .int .i64 m.g, .int .i64 m.t, .int .i64 m.i, .int .i64 m.p, .int .i64 m.c, .int .i64 m.r, .int .i64 m.x, .int .i64 m.a, .int .i64 m.b, .int .i64 m.v, .int .i64 m.s, .bool m.ok, .slice A2 m.es.length c2, .slice A3 m.d.length c3] 31 ∧ Rw w8 b4 #[.int .i64 (({ m with i := i' } : M)).K, .int .i64 (({ m with i := i' } : M)).F, .int .i64 (({ m with i := i' } : M)).T, .int .i64 (({ m with i := i' } : M)).g, .int .i64 (({ m with i := i' } : M)).t, .int .i64 (({ m with i := i' } : M)).i, .int .i64 (({ m with i := i' } : M)).p, .int .i64 (({ m with i := i' } : M)).c, .int .i64 (({ m with i := i' } : M)).r, .int .i64 (({ m with i := i' } : M)).x, .int .i64 (({ m with i := i' } : M)).a, .int .i64 (({ m with i := i' } : M)).b, .int .i64 (({ m with i := i' } : M)).v, .int .i64 (({ m with i := i' } : M)).s, .bool (({ m with i := i' } : M)).ok, .slice A2 (({ m with i := i' } : M)).es.length c2, .slice A3 (({ m with i := i' } : M)).d.length c3] 31 ∧ Rw w8 b6 #[.int .i64 (({ m with p := p' } : M)).K, .int .i64 (({ m with p := p' } : M)).F, .int .i64 (({ m with p := p' } : M)).T, .int .i64 (({ m with p := p' } : M)).g, .int .i64 (({ m with p := p' } : M)).t, .int .i64 (({ m with p := p' } : M)).i, .int .i64 (({ m with p := p' } : M)).p, .int .i64 (({ m with p := p' } : M)).c, .int .i64 (({ m with p := p' } : M)).r, .int .i64 (({ m with p := p' } : M)).x, .int .i64 (({ m with p := p' } : M)).a, .int .i64 (({ m with p := p' } : M)).b, .int .i64 (({ m with p := p' } : M)).v, .int .i64 (({ m with p := p' } : M)).s, .bool (({ m with p := p' } : M)).ok, .slice A2 (({ m with p := p' } : M)).es.length c2, .slice A3 (({ m with p := p' } : M)).d.length c3] 31) := hid (by
      rw [hw8]
      rw [hw8] at q8
      exact ⟨R7.1.other (by omega) _ _, R7.2.1.other (by omega) _ _, R7.2.2.other (by omega) _ _, q8⟩)
    have G8 : Hid (Below w1.heap.size w1 w8) := hid (by
      have g5 := G4.out.trans (hb45.mono G4.out.size)
      have g6 : Below w1.heap.size w1 w6 := by rw [hw6]; exact g5.setCell (by rw [hb4]; exact G4.out.size) _
      have g7 := g6.trans (hb67.mono g6.size)
      rw [hw8]
      exact g7.setCell (by rw [hb6]; exact g6.size) _)
    have HX8 := hid (HGR.out term v { m with i := i' } true A2 A3 c2 c3 HX.out w8 G8.out)
    have ld5 := (R4.out.2).ldM rfl
    have F5 : Hid ((w5.cell? ⟨b4, 5, none⟩ = some (.int .i64 m.i) ∧ w5.frozen? ⟨b4, 5, none⟩ = false) ∧ w5.cell? ⟨w.heap.size + 1, 5, none⟩ = some (.int .i64 m.i)) := hid ⟨⟨row_cell q5 5, row_free q5 5⟩, row_cell R5.2 5⟩
    have F6 := hid (R6.2.ldM rfl)
    have F7 : Hid ((w7.cell? ⟨b6, 6, none⟩ = some (.int .i64 m.p) ∧ w7.frozen? ⟨b6, 6, none⟩ = false) ∧ w7.cell? ⟨w.heap.size + 1, 6, none⟩ = some (.int .i64 m.p)) := hid ⟨⟨row_cell q7 6, row_free q7 6⟩, row_cell R7.2.1 6⟩
    rw [← hb6] at hst7
    rw [← hb4] at hst5
    have H5 := hid hst5
    have H7 := hid hst7
    have HW6 := hid hw6
    have HW8 := hid hw8
    have HB4 := hid hb4
    have HB6 := hid hb6
    have Y0 := row_cell R4.out.1 0
    have Y1 := row_cell R4.out.1 1
    have Y2 := row_cell R4.out.1 2
    have M5 := row_cell R4.out.2 5
    have M6 := row_cell R4.out.2 6
    clear hst5 hst7 hw5 hw6 hw7 hw8 hb4 hb6 z5 z6 hb45 hb67 q5 q6 q7 q8 R5 R6 R7 HX
    clear ld5
    by_cases h0 : g.es.length = 0
    · have HE : Hid (g.last = g.base ∧ g.lastT = g.term) := hid (by unfold Rl.Lg.last Rl.Lg.lastT; rw [h0]; exact ⟨by omega, rfl⟩)
      have h00 : (g.es.length : Int) = 0 := by omega
      have hp1 : ¬ m.p < g.term := by have := HK.out; rw [HE.out.2] at this; omega
      by_cases hpe : m.p = g.term
      · have hpb : (m.p == g.term) = true := by simpa using hpe
        have hp2 : ¬ m.i < g.base := by have := HK.out; rw [HE.out.2, HE.out.1] at this; omega
        clear hpe h0
        have ld4 := (R4.out.2).ldM rfl
        have hst5 := H5.out
        rw [HB4.out] at hst5
        go_upto_region 13 with fail
        rw [← HB4.out]
        clear hst5 ld4 Y0 Y1 Y2 M5 M6
        obtain ⟨⟨f0, f1⟩, f2⟩ := F5.out
        have hmi := HIP.out.1
        go_upto_region 14 with fail
        rw [← HW6.out]
        clear f0 f1 f2 hmi F5
        have ld6 := F6.out
        have hst7 := H7.out
        rw [HB6.out] at hst7
        go_upto_region 15 with fail
        rw [← HB6.out]
        clear hst7 ld6 F6
        obtain ⟨⟨f0, f1⟩, f2⟩ := F7.out
        have hmp := HIP.out.2
        go_upto_region 16 with fail
        rw [← HW8.out]
        clear f0 f1 f2 hmp F7 HW6 HW8 HB6 H7 H5 hp1
        have l0 := R8.out.1.ldL
        have l1 := R8.out.2.2.1.ldM rfl
        go_wp2_with fail
        refine HX8.out.mono ?_
        rintro e w9 ⟨rfl, hb9⟩
        have G9 := hid (G8.out.trans (hb9.mono G8.out.size))
        have R9 := hid (And.intro (R8.out.1.keep hb9) (And.intro (R8.out.2.1.keep hb9) (R8.out.2.2.2.keep hb9)))
        clear hb9 l0 l1 HX8
        have p0 := row_cell R9.out.2.1 6
        have p1 := row_cell R9.out.2.2 6
        have m0 := R9.out.1.ldL
        have m1 := R9.out.2.2.ldM rfl
        by_cases hyp : p' = m.p
        · have hyb : (p' == m.p) = true := by simpa using hyp
          clear hyp
          go_wp2_with fail
          refine (works_any _).mono ?_
          rintro e w10 ⟨rfl, hb10⟩
          have B10 := hid (B1.out.trans ((G9.out.trans (hb10.mono G9.out.size)).mono B1.out.size))
          clear hb10 p0 p1 m0 m1
          go_wp2_with fail
          go_ret
          exact ⟨rfl, B10.out⟩
        · have hyb : (p' == m.p) = false := by simpa using hyp
          have HY9 := hid (HGR.out term v { m with p := p' } true A2 A3 c2 c3 (HY.out hyb) w9 G9.out)
          clear hyp
          go_wp2_with fail
          refine HY9.out.mono ?_
          rintro e w10 ⟨rfl, hb10⟩
          have G10 := hid (G9.out.trans (hb10.mono G9.out.size))
          clear hb10 p0 p1 m0 m1
          go_wp2_with fail
          refine (works_any _).mono ?_
          rintro e w11 ⟨rfl, hb11⟩
          have B11 := hid (B1.out.trans ((G10.out.trans (hb11.mono G10.out.size)).mono B1.out.size))
          clear hb11
          go_wp2_with fail
          go_ret
          exact ⟨rfl, B11.out⟩
      · have hpb : (m.p == g.term) = false := by simpa using hpe
        clear hpe h0
        have ld4 := (R4.out.2).ldM rfl
        have hst5 := H5.out
        rw [HB4.out] at hst5
        go_upto_region 13 with fail
        rw [← HB4.out]
        clear hst5 ld4 Y0 Y1 Y2 M5 M6
        obtain ⟨⟨f0, f1⟩, f2⟩ := F5.out
        have hmi := HIP.out.1
        go_upto_region 14 with fail
        rw [← HW6.out]
        clear f0 f1 f2 hmi F5
        have ld6 := F6.out
        have hst7 := H7.out
        rw [HB6.out] at hst7
        go_upto_region 15 with fail
        rw [← HB6.out]
        clear hst7 ld6 F6
        obtain ⟨⟨f0, f1⟩, f2⟩ := F7.out
        have hmp := HIP.out.2
        go_upto_region 16 with fail
        rw [← HW8.out]
        clear f0 f1 f2 hmp F7 HW6 HW8 HB6 H7 H5 hp1
        have l0 := R8.out.1.ldL
        have l1 := R8.out.2.2.1.ldM rfl
        go_wp2_with fail
        refine HX8.out.mono ?_
        rintro e w9 ⟨rfl, hb9⟩
        have G9 := hid (G8.out.trans (hb9.mono G8.out.size))
        have R9 := hid (And.intro (R8.out.1.keep hb9) (And.intro (R8.out.2.1.keep hb9) (R8.out.2.2.2.keep hb9)))
        clear hb9 l0 l1 HX8
        have p0 := row_cell R9.out.2.1 6
        have p1 := row_cell R9.out.2.2 6
        have m0 := R9.out.1.ldL
        have m1 := R9.out.2.2.ldM rfl
        by_cases hyp : p' = m.p
        · have hyb : (p' == m.p) = true := by simpa using hyp
          clear hyp
          go_wp2_with fail
          refine (works_any _).mono ?_
          rintro e w10 ⟨rfl, hb10⟩
          have B10 := hid (B1.out.trans ((G9.out.trans (hb10.mono G9.out.size)).mono B1.out.size))
          clear hb10 p0 p1 m0 m1
          go_wp2_with fail
          go_ret
          exact ⟨rfl, B10.out⟩
        · have hyb : (p' == m.p) = false := by simpa using hyp
          have HY9 := hid (HGR.out term v { m with p := p' } true A2 A3 c2 c3 (HY.out hyb) w9 G9.out)
          clear hyp
          go_wp2_with fail
          refine HY9.out.mono ?_
          rintro e w10 ⟨rfl, hb10⟩
          have G10 := hid (G9.out.trans (hb10.mono G9.out.size))
          clear hb10 p0 p1 m0 m1
          go_wp2_with fail
          refine (works_any _).mono ?_
          rintro e w11 ⟨rfl, hb11⟩
          have B11 := hid (B1.out.trans ((G10.out.trans (hb11.mono G10.out.size)).mono B1.out.size))
          clear hb11
          go_wp2_with fail
          go_ret
          exact ⟨rfl, B11.out⟩
    · have hlt : g.es.length - 1 < g.es.length := by omega
      obtain ⟨bb, off, rfl, hbl, hc⟩ := (((HI.out.below B1.out).more B1.out.size).below G4.out).es.cells (g.es.length - 1) hlt
      obtain ⟨X1, x1, d0, d1, d2, _, _⟩ := hc (g.es.length - 1) hlt
      have HE : Hid (g.last = g.base + (g.es.length : Nat) ∧ g.lastT = g.es[g.es.length - 1].t) := hid ⟨rfl, by
        unfold Rl.Lg.lastT
        have := g.at_succ (g.es.length - 1) hlt
        rw [show g.es.length - 1 + 1 = g.es.length by omega] at this
        exact this⟩
      obtain ⟨x, hx⟩ : ∃ x, x = g.es[g.es.length - 1].t := ⟨_, rfl⟩
      rw [← hx] at d0 HE
      obtain ⟨k, hk⟩ : ∃ k, k = g.es.length - 1 := ⟨_, rfl⟩
      rw [← hk] at d0
      obtain ⟨nn, hnn⟩ : ∃ nn, nn = g.es.length := ⟨_, rfl⟩
      have hk1 : ((g.es.length : Nat) : Int) - 1 = (k : Int) := by omega
      have hk2 : (k : Int) < (g.es.length : Int) := by omega
      have h00 : ¬ (g.es.length : Int) = 0 := by omega
      have h01 : (0 : Int) < (g.es.length : Int) := by omega
      have HN : g.es.length ≤ 2000 ∧ 0 ≤ g.base ∧ g.base ≤ 1099511627776 := ⟨(big_few HG.out.few).1, HG.out.lim.1⟩
      obtain ⟨hn1, hn2, hn3⟩ := HN
      have hwr : IntKind.i64.wrap (g.base + (g.es.length : Int)) = g.base + (g.es.length : Int) := by rw [IntKind.wrap_i64]; omega
      have hp1 : ¬ m.p < x := by have := HK.out; rw [HE.out.2] at this; omega
      clear d1 d2 hc hx hk hnn
      by_cases hpe : m.p = x
      · have hpb : (m.p == x) = true := by simpa using hpe
        have hp2 : ¬ m.i < g.base + (g.es.length : Int) := by have := HK.out; rw [HE.out.2, HE.out.1] at this; omega
        clear hpe h0
        have ld4 := (R4.out.2).ldM rfl
        have hst5 := H5.out
        rw [HB4.out] at hst5
        go_upto_region 13 with fail
        rw [← HB4.out]
        clear hst5 ld4 Y0 Y1 Y2 M5 M6
        obtain ⟨⟨f0, f1⟩, f2⟩ := F5.out
        have hmi := HIP.out.1
        go_upto_region 14 with fail
        rw [← HW6.out]
        clear f0 f1 f2 hmi F5
        have ld6 := F6.out
        have hst7 := H7.out
        rw [HB6.out] at hst7
        go_upto_region 15 with fail
        rw [← HB6.out]
        clear hst7 ld6 F6
        obtain ⟨⟨f0, f1⟩, f2⟩ := F7.out
        have hmp := HIP.out.2
        go_upto_region 16 with fail
        rw [← HW8.out]
        clear f0 f1 f2 hmp F7 HW6 HW8 HB6 H7 H5 hp1
        have l0 := R8.out.1.ldL
        have l1 := R8.out.2.2.1.ldM rfl
        go_wp2_with fail
        refine HX8.out.mono ?_
        rintro e w9 ⟨rfl, hb9⟩
        have G9 := hid (G8.out.trans (hb9.mono G8.out.size))
        have R9 := hid (And.intro (R8.out.1.keep hb9) (And.intro (R8.out.2.1.keep hb9) (R8.out.2.2.2.keep hb9)))
        clear hb9 l0 l1 HX8
        have p0 := row_cell R9.out.2.1 6
        have p1 := row_cell R9.out.2.2 6
        have m0 := R9.out.1.ldL
        have m1 := R9.out.2.2.ldM rfl
        by_cases hyp : p' = m.p
        · have hyb : (p' == m.p) = true := by simpa using hyp
          clear hyp
          go_wp2_with fail
          refine (works_any _).mono ?_
          rintro e w10 ⟨rfl, hb10⟩
          have B10 := hid (B1.out.trans ((G9.out.trans (hb10.mono G9.out.size)).mono B1.out.size))
          clear hb10 p0 p1 m0 m1
          go_wp2_with fail
          go_ret
          exact ⟨rfl, B10.out⟩
        · have hyb : (p' == m.p) = false := by simpa using hyp
          have HY9 := hid (HGR.out term v { m with p := p' } true A2 A3 c2 c3 (HY.out hyb) w9 G9.out)
          clear hyp
          go_wp2_with fail
          refine HY9.out.mono ?_
          rintro e w10 ⟨rfl, hb10⟩
          have G10 := hid (G9.out.trans (hb10.mono G9.out.size))
          clear hb10 p0 p1 m0 m1
          go_wp2_with fail
          refine (works_any _).mono ?_
          rintro e w11 ⟨rfl, hb11⟩
          have B11 := hid (B1.out.trans ((G10.out.trans (hb11.mono G10.out.size)).mono B1.out.size))
          clear hb11
          go_wp2_with fail
          go_ret
          exact ⟨rfl, B11.out⟩
      · have hpb : (m.p == x) = false := by simpa using hpe
        clear hpe h0
        have ld4 := (R4.out.2).ldM rfl
        have hst5 := H5.out
        rw [HB4.out] at hst5
        go_upto_region 13 with fail
        rw [← HB4.out]
        clear hst5 ld4 Y0 Y1 Y2 M5 M6
        obtain ⟨⟨f0, f1⟩, f2⟩ := F5.out
        have hmi := HIP.out.1
        go_upto_region 14 with fail
        rw [← HW6.out]
        clear f0 f1 f2 hmi F5
        have ld6 := F6.out
        have hst7 := H7.out
        rw [HB6.out] at hst7
        go_upto_region 15 with fail
        rw [← HB6.out]
        clear hst7 ld6 F6
        obtain ⟨⟨f0, f1⟩, f2⟩ := F7.out
        have hmp := HIP.out.2
        go_upto_region 16 with fail
        rw [← HW8.out]
        clear f0 f1 f2 hmp F7 HW6 HW8 HB6 H7 H5 hp1
        have l0 := R8.out.1.ldL
        have l1 := R8.out.2.2.1.ldM rfl
        go_wp2_with fail
        refine HX8.out.mono ?_
        rintro e w9 ⟨rfl, hb9⟩
        have G9 := hid (G8.out.trans (hb9.mono G8.out.size))
        have R9 := hid (And.intro (R8.out.1.keep hb9) (And.intro (R8.out.2.1.keep hb9) (R8.out.2.2.2.keep hb9)))
        clear hb9 l0 l1 HX8
        have p0 := row_cell R9.out.2.1 6
        have p1 := row_cell R9.out.2.2 6
        have m0 := R9.out.1.ldL
        have m1 := R9.out.2.2.ldM rfl
        by_cases hyp : p' = m.p
        · have hyb : (p' == m.p) = true := by simpa using hyp
          clear hyp
          go_wp2_with fail
          refine (works_any _).mono ?_
          rintro e w10 ⟨rfl, hb10⟩
          have B10 := hid (B1.out.trans ((G9.out.trans (hb10.mono G9.out.size)).mono B1.out.size))
          clear hb10 p0 p1 m0 m1
          go_wp2_with fail
          go_ret
          exact ⟨rfl, B10.out⟩
        · have hyb : (p' == m.p) = false := by simpa using hyp
          have HY9 := hid (HGR.out term v { m with p := p' } true A2 A3 c2 c3 (HY.out hyb) w9 G9.out)
          clear hyp
          go_wp2_with fail
          refine HY9.out.mono ?_
          rintro e w10 ⟨rfl, hb10⟩
          have G10 := hid (G9.out.trans (hb10.mono G9.out.size))
          clear hb10 p0 p1 m0 m1
          go_wp2_with fail
          refine (works_any _).mono ?_
          rintro e w11 ⟨rfl, hb11⟩
          have B11 := hid (B1.out.trans ((G10.out.trans (hb11.mono G10.out.size)).mono B1.out.size))
          clear hb11
          go_wp2_with fail
          go_ret
          exact ⟨rfl, B11.out⟩
end Go.Proofs.Ytkmbkihfdilmbaa.Vo
namespace Go.Proofs.Ytkmbkihfdilmbaa.Ms
open Go.RowKit
set_option maxRecDepth 100000
structure Bx (w : World) (b : Nat) (m : M) (A : Option Addr) (c : Nat) (A' : Option Addr) (c' : Nat) : Prop where
  row : w.heap[b]? = some (.cells #[.int .i64 m.K, .int .i64 m.F, .int .i64 m.T, .int .i64 m.g, .int .i64 m.t, .int .i64 m.i, .int .i64 m.p, .int .i64 m.c, .int .i64 m.r, .int .i64 m.x, .int .i64 m.a, .int .i64 m.b, .int .i64 m.v, .int .i64 m.s, .bool m.ok, .slice A m.es.length c, .slice A' m.d.length c'] 31 (0, 0))
theorem Bx.below {w w' : World} {B b : Nat} {m : M} {A A' : Option Addr} {c c' : Nat} (h : Bx w b m A c A' c') (hb : Below B w w') (hB : b < B) : Bx w' b m A c A' c' := ⟨(hb.block b hB).trans h.row⟩
theorem Bx.cell {w : World} {b : Nat} {m : M} {A A' : Option Addr} {c c' : Nat} (h : Bx w b m A c A' c') (i : Nat) : w.cell? ⟨b, i, none⟩ = (#[.int .i64 m.K, .int .i64 m.F, .int .i64 m.T, .int .i64 m.g, .int .i64 m.t, .int .i64 m.i, .int .i64 m.p, .int .i64 m.c, .int .i64 m.r, .int .i64 m.x, .int .i64 m.a, .int .i64 m.b, .int .i64 m.v, .int .i64 m.s, .bool m.ok, .slice A m.es.length c, .slice A' m.d.length c'] : Array Value)[i]? := cell_of_row w b i _ _ (0, 0) h.row
theorem Bx.c0 {w : World} {b : Nat} {m : M} {A A' : Option Addr} {c c' : Nat} (h : Bx w b m A c A' c') : w.cell? ⟨b, 0, none⟩ = some (.int .i64 m.K) := h.cell 0
def ldMsg (a : Value) : Sem Value := Instr.loadAt 31 a
def stMsg (a v : Value) : Sem Unit := Instr.storeAt 31 a v
theorem loadAt_msg (a : Value) : Instr.loadAt 31 a = ldMsg a := rfl
theorem storeAt_msg (a v : Value) : Instr.storeAt 31 a v = stMsg a v := rfl
theorem info_msg : (Try.prog.info? 31).map (·.size) = some 17 := by kernel_rfl
theorem ld_row (w : World) (b : Nat) (cs : Array Value) (t : TypeId) (fr : Nat × Nat) (hg : w.heap[b]? = some (.cells cs t fr)) (h : cs.size = 17) : (ldMsg (.pointer (some ⟨b, 0, none⟩))).run Try.prog w = .ok (.agg cs) w :=
  run_loadVar_row w b t 31 cs fr _ hg Try.underlying31 rfl (by rw [info_msg, h])
theorem Bx.load {w : World} {b : Nat} {m : M} {A A' : Option Addr} {c c' : Nat} (h : Bx w b m A c A' c') : (ldMsg (.pointer (some ⟨b, 0, none⟩))).run Try.prog w = .ok (.agg #[.int .i64 m.K, .int .i64 m.F, .int .i64 m.T, .int .i64 m.g, .int .i64 m.t, .int .i64 m.i, .int .i64 m.p, .int .i64 m.c, .int .i64 m.r, .int .i64 m.x, .int .i64 m.a, .int .i64 m.b, .int .i64 m.v, .int .i64 m.s, .bool m.ok, .slice A m.es.length c, .slice A' m.d.length c']) w :=
  ld_row w b _ _ _ h.row rfl
end Go.Proofs.Ytkmbkihfdilmbaa.Ms
namespace Go.Proofs.Ytkmbkihfdilmbaa.Ms
open Go.RowKit
set_option maxRecDepth 100000
attribute [local go_sem ↓] loadAt_msg
theorem kind_of {m : M} (h : m.isKind = true) : ∃ k : Nat, m.K = (k : Int) ∧ 1 ≤ k ∧ k ≤ 11 ∧ m.kind = k := by
  unfold M.isKind at h
  simp at h
  exact ⟨m.K.toNat, by omega, by omega, by omega, rfl⟩
end Go.Proofs.Ytkmbkihfdilmbaa.Ms
namespace Go.Proofs.Ytkmbkihfdilmbaa.Ms
open Go.RowKit
set_option maxRecDepth 100000
attribute [local go_sem ↓] loadAt_msg
end Go.Proofs.Ytkmbkihfdilmbaa.Ms
namespace Go.Proofs.Ytkmbkihfdilmbaa.Ms
open Go.RowKit
set_option maxRecDepth 100000
attribute [local go_sem ↓] loadAt_msg
structure Small (m : M) : Prop where
  es : m.es.length ≤ 100000
  wt : weigh m.es ≤ 1000000000
  d : m.d.length ≤ 1000000000
structure Inp (w : World) (m : M) (A : Option Addr) : Prop where
  T : Tab w
  es : IsEnts w w.heap.size A m.es
  small : Small m
end Go.Proofs.Ytkmbkihfdilmbaa.Ms
namespace Go.Proofs.Ytkmbkihfdilmbaa
open Go.RowKit
end Go.Proofs.Ytkmbkihfdilmbaa
namespace Go.Proofs.Ytkmbkihfdilmbaa
open Go.RowKit
end Go.Proofs.Ytkmbkihfdilmbaa
namespace Go.Proofs.Ytkmbkihfdilmbaa
open Go.RowKit
end Go.Proofs.Ytkmbkihfdilmbaa
namespace Go.Proofs.Ytkmbkihfdilmbaa.Ms
open Go.RowKit
set_option maxRecDepth 100000
attribute [local go_sem ↓] loadAt_msg
structure Thru (base : Nat) (w w' : World) : Prop where
  bel : Below base w w'
  oth : ∀ k, k < w.heap.size → (∀ cs fr, w.heap[k]? ≠ some (.cells cs 5 fr)) → w'.heap[k]? = w.heap[k]?
namespace Thru
variable {base : Nat} {a b c : World}
theorem size (h : Thru base a b) : a.heap.size ≤ b.heap.size := h.bel.size
theorem trans (h : Thru base a b) (h' : Thru base b c) : Thru base a c := ⟨h.bel.trans h'.bel, fun k hk hn => by
  have e := h.oth k hk hn
  exact (h'.oth k (Nat.lt_of_lt_of_le hk h.size) (fun cs fr => by rw [e]; exact hn cs fr)).trans e⟩
theorem new (h : Below a.heap.size a b) (hB : base ≤ a.heap.size) : Thru base a b := ⟨h.mono hB, fun k hk _ => h.block k hk⟩
theorem own {A : Option Addr} {cp : Nat} {l : List Nat} (h : OwnsB 5 a base A cp l) (hB : base ≤ a.heap.size) (hg : a.grownBy b (blk A)) : Thru base a b :=
  ⟨below_grown hg hB (fun k hk => (h.blkLt k hk).1), fun k hk hn => hg.block k hk (fun e => by
    rcases h.row.2 with ⟨h0, _⟩ | ⟨g', cap, cur, hv, _, hh, _⟩
    · injection h0 with h0; rw [h0] at e; cases e
    · have hA : A = some ⟨g', 0, none⟩ := by injection hv
      rw [hA] at e
      obtain rfl : k = g' := by injection e
      exact hn _ _ hh)⟩
theorem keep {k : Nat} {o : Obj} (h : Thru base a b) (ho : a.heap[k]? = some o) (hn : ∀ cs fr, o ≠ .cells cs 5 fr) : b.heap[k]? = some o :=
  (h.oth k (row_lt ho) (fun cs fr e => by rw [ho] at e; exact hn cs fr (Option.some.inj e))).trans ho
end Thru
theorem encE_length (e : Rl.En) : (encE e).length = 24 + e.d.length := by unfold encE; simp [Pk.enc_length]; omega
theorem encEs_length (L : List Rl.En) : (L.flatMap encE).length = 24 * L.length + weigh L := by
  induction L with
  | nil => rfl
  | cons e L ih =>
    rw [List.flatMap_cons, List.length_append, ih, encE_length]
    unfold weigh
    rw [List.map_cons, List.sum_cons, List.length_cons]; omega
def M.len (m : M) (r : Nat) : Nat := if r = 111 then 8 else if r = 101 then 8 + (24 * m.es.length + weigh m.es) else if r = 100 then 8 + m.d.length else 8
theorem encF_length (m : M) (r : Nat) : (m.encF r).length = m.len r := by
  unfold M.encF M.len
  split
  · rw [Pk.enc_length]
  · split
    · rw [List.length_append, Pk.enc_length, encEs_length]
    · split
      · rw [List.length_append, Pk.enc_length]
      · rw [Pk.enc_length]
end Go.Proofs.Ytkmbkihfdilmbaa.Ms
namespace Go.Proofs.Ytkmbkihfdilmbaa.Ms
open Go.RowKit
set_option maxRecDepth 100000
attribute [local go_sem ↓] loadAt_msg
structure Stp (w0 : World) (base g : Nat) (cs : Array Value) (W : World) (A : Option Addr) (c : Nat) (l : List Nat) (q : Nat) : Prop where
  own : OwnsB 5 W base A c l
  len : l.length = q
  bel : Thru base w0 W
  le : base ≤ W.heap.size
  row : W.heap[g]? = some (.cells cs 64 (0, 0))
theorem Stp.step {w0 W w' : World} {base g : Nat} {cs : Array Value} {A A' : Option Addr} {c c' : Nat} {l l' : List Nat} {q q' : Nat} (h : Stp w0 base g cs W A c l q) (ho : OwnsB 5 w' base A' c' l') (hl : l'.length = q') (hb : Thru base W w') : Stp w0 base g cs w' A' c' l' q' :=
  ⟨ho, hl, h.bel.trans hb, Nat.le_trans h.le hb.size, hb.keep h.row (fun cs fr e => by injection e with _ e _; exact absurd e (by decide))⟩
def EnC (w : World) (g : Nat) (x : Rl.En) (A : Option Addr) (c : Nat) : Prop := w.cell? ⟨g, 0, none⟩ = some (.int .i64 x.t) ∧ w.cell? ⟨g, 1, none⟩ = some (.int .i64 x.k) ∧ w.cell? ⟨g, 2, none⟩ = some (.slice A x.d.length c)
theorem Stp.cells {w0 W : World} {base g : Nat} {A A4 : Option Addr} {c c4 : Nat} {l : List Nat} {q : Nat} {x : Rl.En} (h : Stp w0 base g #[.int .i64 x.t, .int .i64 x.k, .slice A4 x.d.length c4] W A c l q) : EnC W g x A4 c4 :=
  ⟨cell_of_row _ g 0 _ _ (0, 0) h.row, cell_of_row _ g 1 _ _ (0, 0) h.row, cell_of_row _ g 2 _ _ (0, 0) h.row⟩
end Go.Proofs.Ytkmbkihfdilmbaa.Ms
namespace Go.Proofs.Ytkmbkihfdilmbaa
open Go.RowKit
end Go.Proofs.Ytkmbkihfdilmbaa
namespace Go.Proofs.Ytkmbkihfdilmbaa.Frame
open Go.RowKit
end Go.Proofs.Ytkmbkihfdilmbaa.Frame
namespace Go.Proofs.Ytkmbkihfdilmbaa.Frame
open Go.RowKit
set_option maxRecDepth 100000
end Go.Proofs.Ytkmbkihfdilmbaa.Frame
namespace Go.Proofs.Ytkmbkihfdilmbaa.Ms
open Go.RowKit
set_option maxRecDepth 100000
attribute [local go_sem ↓] loadAt_msg
theorem blank_of {m : M} (hf : m.foreign = false) (r : Nat) (hr : r ∈ all) (h : (tab m.kind).contains r = false) : m.blank r = true := by
  unfold M.foreign at hf
  rw [List.any_eq_false] at hf
  have := hf r hr
  rw [h] at this
  simpa using this
theorem enc_length (m : M) (hk : m.isKind = true) (hf : m.foreign = false) : m.enc.length = m.size := by
  have h1 : ∀ L : List Nat, (L.flatMap m.encF).length = (L.map m.len).sum := by
    intro L
    induction L with
    | nil => rfl
    | cons r L ih => rw [List.flatMap_cons, List.length_append, encF_length, List.map_cons, List.sum_cons, ih]
  have he : (tab m.kind).contains 101 = false → m.es = [] := fun h => by
    have := blank_of hf 101 (by decide) h
    simpa [M.blank] using this
  have hd : (tab m.kind).contains 100 = false → m.d = [] := fun h => by
    have := blank_of hf 100 (by decide) h
    simpa [M.blank] using this
  unfold M.enc M.size
  rw [h1]
  obtain ⟨k, _, k1, k2, hk⟩ := kind_of hk
  rw [hk] at he hd ⊢
  have hw : m.es = [] → m.es.length = 0 ∧ weigh m.es = 0 := fun e => by rw [e]; exact ⟨rfl, rfl⟩
  have hl : m.d = [] → m.d.length = 0 := fun e => by rw [e]; rfl
  match k, k1, k2 with
  | 1, _, _ | 2, _, _ | 4, _, _ | 8, _, _ | 9, _, _ | 10, _, _ | 11, _, _ =>
    have := hw (he (by decide))
    have := hl (hd (by decide))
    simp [head, tab, M.len]; omega
  | 3, _, _ =>
    have := hl (hd (by decide))
    simp [head, tab, M.len]; omega
  | 5, _, _ | 6, _, _ | 7, _, _ =>
    have := hw (he (by decide))
    simp [head, tab, M.len]; omega
end Go.Proofs.Ytkmbkihfdilmbaa.Ms
namespace Go.Proofs.Ytkmbkihfdilmbaa
open Go.RowKit
end Go.Proofs.Ytkmbkihfdilmbaa
namespace Go.Proofs.Ytkmbkihfdilmbaa
open Go.RowKit
set_option maxRecDepth 100000
end Go.Proofs.Ytkmbkihfdilmbaa
namespace Go.Proofs.Ytkmbkihfdilmbaa.Ms
open Go.RowKit
set_option maxRecDepth 100000
attribute [local go_sem ↓] loadAt_msg storeAt_msg
namespace Rd
variable {w0 W W' : World} {B gm gr lo : Nat} {m : M} {s : Pk.St} {A A' : Option Addr} {c c' N : Nat}
end Rd
structure Kept (lo gm gr : Nat) (W W' : World) : Prop where
  size : W.heap.size ≤ W'.heap.size
  same : ∀ k, k < lo → k < W.heap.size → k ≠ gm → k ≠ gr → W'.heap[k]? = W.heap[k]?
namespace Kept
variable {lo gm gr : Nat} {a b c : World}
theorem trans (h : Kept lo gm gr a b) (h' : Kept lo gm gr b c) : Kept lo gm gr a c := ⟨Nat.le_trans h.size h'.size, fun k h1 h2 h3 h4 => (h'.same k h1 (Nat.lt_of_lt_of_le h2 h.size) h3 h4).trans (h.same k h1 h2 h3 h4)⟩
theorem bel (h : Below lo a b) : Kept lo gm gr a b := ⟨h.size, fun k h1 _ _ _ => h.block k h1⟩
end Kept
end Go.Proofs.Ytkmbkihfdilmbaa.Ms
namespace Go.Proofs.Ytkmbkihfdilmbaa.Ms
open Go.RowKit
set_option maxRecDepth 100000
set_option linter.unusedVariables false
attribute [local go_sem ↓] loadAt_msg storeAt_msg
end Go.Proofs.Ytkmbkihfdilmbaa.Ms
namespace Go.Proofs.Ytkmbkihfdilmbaa
open Go.RowKit
end Go.Proofs.Ytkmbkihfdilmbaa
namespace Go.Proofs.Ytkmbkihfdilmbaa.Ms
open Go.RowKit
set_option maxRecDepth 100000
set_option linter.unusedVariables false
attribute [local go_sem ↓] loadAt_msg storeAt_msg
structure OwnM (w : World) (B : Nat) (m : M) (A : Option Addr) (c : Nat) (A' : Option Addr) (c' : Nat) : Prop where
  num : ∀ r ∈ nums, InInt (m.num r)
  es : OwnE w B w.heap.size A c m.es
  d : OwnsB 5 w B A' c' m.d
  one : (A = none ∧ c = 0) ∨ (A' = none ∧ c' = 0)
  few : m.es.length ≤ 50000
theorem M0_num : ∀ r ∈ nums, InInt (M0.num r) := by
  intro r hr
  simp only [nums, List.mem_cons, List.not_mem_nil, or_false] at hr
  rcases hr with rfl | rfl | rfl | rfl | rfl | rfl | rfl | rfl | rfl | rfl | rfl | rfl | rfl | rfl <;> exact ⟨by decide, by decide⟩
theorem OwnM.zero (w : World) (B : Nat) : OwnM w B M0 none 0 none 0 := ⟨M0_num, OwnE.nil _ _ _, OwnsB.nil _ _ _, .inl ⟨rfl, rfl⟩, Nat.zero_le _⟩
end Go.Proofs.Ytkmbkihfdilmbaa.Ms
namespace Go.Proofs.Ytkmbkihfdilmbaa.Ms
open Rl (En)
open Pk (St rdInt rdBlob)
set_option maxRecDepth 100000
set_option linter.unusedVariables false
end Go.Proofs.Ytkmbkihfdilmbaa.Ms
namespace Go.Proofs.Ytkmbkihfdilmbaa.Ms
open Go.RowKit
set_option maxRecDepth 100000
set_option linter.unusedVariables false
attribute [local go_sem ↓] loadAt_msg storeAt_msg
theorem OwnM.below {w w' : World} {B : Nat} {m : M} {A A' : Option Addr} {c c' : Nat} (h : OwnM w B m A c A' c') (hb : Below w.heap.size w w') : OwnM w' B m A c A' c' :=
  ⟨h.num, (h.es.below hb).wide (Nat.le_refl _) hb.size, h.d.below hb, h.one, h.few⟩
theorem OwnM.weaken {w : World} {B B' : Nat} {m : M} {A A' : Option Addr} {c c' : Nat} (h : OwnM w B m A c A' c') (hB : B' ≤ B) : OwnM w B' m A c A' c' :=
  ⟨h.num, h.es.wide hB (Nat.le_refl _), h.d.weaken hB, h.one, h.few⟩
theorem OwnM.turned {w w' : World} {B b : Nat} {m : M} {A A' : Option Addr} {c c' : Nat} (h : OwnM w B m A c A' c') (ht : Turned (fun k => k = b) w w') (hb : b < B) : OwnM w' B m A c A' c' :=
  ⟨h.num, (h.es.keep ht (fun k hk hB => by have := hB.1; omega)).wide (Nat.le_refl _) ht.size, h.d.turned ht (fun k hk e => by have := h.d.blkLt k hk; omega), h.one, h.few⟩
end Go.Proofs.Ytkmbkihfdilmbaa.Ms
namespace Go.Proofs.Ytkmbkihfdilmbaa
open Go.RowKit
end Go.Proofs.Ytkmbkihfdilmbaa
namespace Go.Proofs.Ytkmbkihfdilmbaa
open Go.RowKit
def deadE (_ : El) : El := ⟨⟨-77, 0, []⟩, none, 0⟩
structure BytesE (w : World) (F : Nat → Prop) (L : List El) : Prop where
  own : ∀ q ∈ L, OwnsB 5 w 0 q.A q.c q.e.d ∧ ∀ k, blk q.A = some k → F k
  apart : Apart (L.map fun q => blk q.A)
theorem BytesE.keep {w w' : World} {F S : Nat → Prop} {L : List El} (h : BytesE w F L) (ht : Turned S w w') (hd : ∀ q ∈ L, ∀ k, blk q.A = some k → ¬ S k) : BytesE w' F L :=
  ⟨fun q hq => ⟨(h.own q hq).1.turned ht (hd q hq), (h.own q hq).2⟩, h.apart⟩
def halfE (L : List El) (k : Nat) : List El := (L.take k).map deadE ++ L.drop k
structure SpToE (w wr : World) (F : Nat → Prop) (A : Option Addr) (c : Nat) (L : List El) (k : Nat) : Prop where
  row : RowIn cellsE 3 64 wr F A c (halfE L k)
  byt : BytesE wr F (L.drop k)
  tur : Turned F w wr
end Go.Proofs.Ytkmbkihfdilmbaa
namespace Go.Proofs.Ytkmbkihfdilmbaa.Ms
open Go.RowKit
set_option maxRecDepth 100000
set_option linter.unusedVariables false
attribute [local go_sem ↓] loadAt_msg storeAt_msg
theorem two_cells (w : World) (x y : Array Value) (t : TypeId) (i : Nat) : ((w.alloc (.cells x t)).alloc (.cells y t)).cell? ⟨w.heap.size, i, none⟩ = x[i]? ∧ ((w.alloc (.cells x t)).alloc (.cells y t)).cell? ⟨w.heap.size + 1, i, none⟩ = y[i]? := by
  refine ⟨(World.cell?_alloc_past _ _ _ (by simp)).trans (cell_of_row _ w.heap.size i _ _ (0, 0) (heap_alloc_new w _)), ?_⟩
  have h1 := heap_alloc_new (w.alloc (.cells x t)) (.cells y t)
  rw [World.size_alloc] at h1
  exact cell_of_row _ (w.heap.size + 1) i _ _ (0, 0) h1
theorem diff {m m' : M} (h : m ≠ m') : Ending.returned (.bool false) = .returned (.bool (decide (m = m'))) := by
  rw [decide_eq_false h]
set_option maxHeartbeats 6400000 in
theorem same_any (m m' : M) (A : Option Addr) (c : Nat) (A' : Option Addr) (c' : Nat) (A2 : Option Addr) (c2 : Nat) (A3 : Option Addr) (c3 : Nat) (w : World) (h : IsEnts w w.heap.size A m.es) (h' : IsEnts w w.heap.size A2 m'.es) (g : IsBytes w w.heap.size A' m.d) (g' : IsBytes w w.heap.size A3 m'.d) (hs : Small m) (hs' : Small m') :
    Calls Try.prog 27 #[.agg #[.int .i64 m.K, .int .i64 m.F, .int .i64 m.T, .int .i64 m.g, .int .i64 m.t, .int .i64 m.i, .int .i64 m.p, .int .i64 m.c, .int .i64 m.r, .int .i64 m.x, .int .i64 m.a, .int .i64 m.b, .int .i64 m.v, .int .i64 m.s, .bool m.ok, .slice A m.es.length c, .slice A' m.d.length c'], .agg #[.int .i64 m'.K, .int .i64 m'.F, .int .i64 m'.T, .int .i64 m'.g, .int .i64 m'.t, .int .i64 m'.i, .int .i64 m'.p, .int .i64 m'.c, .int .i64 m'.r, .int .i64 m'.x, .int .i64 m'.a, .int .i64 m'.b, .int .i64 m'.v, .int .i64 m'.s, .bool m'.ok, .slice A2 m'.es.length c2, .slice A3 m'.d.length c3]] w fun e w' => e = .returned (.bool (decide (m = m'))) ∧ Below w.heap.size w w' := by
  have HB : Hid (∀ x y : Array Value, Below w.heap.size w ((w.alloc (.cells x 31)).alloc (.cells y 31))) := hid fun x y => ((Below.refl _ w).alloc (Nat.le_refl _) _).alloc (by simp) _
  have HE := hid fun (wz : World) (hb : Below w.heap.size w wz) => ents_same A A2 c c2 _ _ m.es m'.es rfl rfl hs.es wz ((h.below hb).more hb.size) ((h'.below hb).more hb.size)
  have HS := hid fun (wz : World) (hb : Below w.heap.size w wz) => same_N w.heap.size w.heap.size A' A3 c' c3 m.d m'.d _ _ rfl rfl (by have := hs.d; unfold maxLen; omega) (by have := hs'.d; unfold maxLen; omega) wz (g.below hb) (g'.below hb)
  clear h h' g g' hs hs'
  go_enter Try.func27, Try.ntmps27
  go_wp2_with fail
  all_goals try (go_ret; exact ⟨diff (by rintro rfl; simp_all), HB.out _ _⟩)
  refine (HE.out _ (HB.out _ _)).mono ?_
  rintro e w2 ⟨rfl, hb⟩
  have q1 : w2.cell? ⟨w.heap.size, 16, none⟩ = some (.slice A' m.d.length c') := (hb.cell (p := ⟨w.heap.size, 16, none⟩) (by simp; omega)).trans (two_cells w _ _ _ 16).1
  have q2 : w2.cell? ⟨w.heap.size + 1, 16, none⟩ = some (.slice A3 m'.d.length c3) := (hb.cell (p := ⟨w.heap.size + 1, 16, none⟩) (by simp)).trans (two_cells w _ _ _ 16).2
  have HB2 := hid ((HB.out _ _).trans (hb.mono (by simp; omega)))
  clear hb
  by_cases he : m.es = m'.es
  · rw [decide_eq_true he]
    have HEQ := hid he
    clear he
    go_wp2_with fail
    refine (HS.out w2 HB2.out).mono ?_
    rintro e w3 ⟨rfl, n, rfl⟩
    by_cases hd : m.d = m'.d
    · rw [decide_eq_true hd]
      have HM : Hid (m = m') := by
        have h1 := HEQ.out
        show m = m'
        cases m; cases m'; simp_all
      go_wp2_with fail
      go_ret
      rw [decide_eq_true HM.out]
      exact ⟨rfl, below_drewN HB2.out n⟩
    · rw [decide_eq_false hd]
      have HD := hid hd
      clear hd
      go_wp2_with fail
      go_ret
      exact ⟨diff (fun e => HD.out (by rw [e])), below_drewN HB2.out n⟩
  · rw [decide_eq_false he]
    have HD := hid he
    clear he
    go_wp2_with fail
    go_ret
    exact ⟨diff (fun e => HD.out (by rw [e])), HB2.out⟩
end Go.Proofs.Ytkmbkihfdilmbaa.Ms
namespace Go.Proofs.Ytkmbkihfdilmbaa.Im
open Go.RowKit
set_option maxRecDepth 100000
section
variable {P : Program} {α : Type} {f : α → List Value} {size bytes : Nat} {e : TypeId} {w : World} {F : Nat → Prop} {A : Option Addr} {c : Nat} {L : List α}
theorem IsRow.news {B : Nat} {ad : Addr} {M : List α} (hf : ∀ x, (f x).length = size) (h : IsRow f size w B (some ad) M) (j : Nat) (u : Value) (hj : (M.flatMap f)[j]? = some u) : w.cell? (ad.add j) = some u := by
  have hl : j < M.length * size := by
    have := (List.getElem?_eq_some_iff.1 hj).1
    rwa [flat_len f size hf] at this
  have hs : 0 < size := by
    rcases Nat.eq_zero_or_pos size with e | e
    · rw [e, Nat.mul_zero] at hl; omega
    · exact e
  have hi : j / size < M.length := Nat.div_lt_of_lt_mul (by rw [Nat.mul_comm]; exact hl)
  have hk : j % size < size := Nat.mod_lt _ hs
  have hjk : j = j / size * size + j % size := by rw [Nat.mul_comm]; exact (Nat.div_add_mod j size).symm
  obtain ⟨b, off, e1, _, hc⟩ := h.at_ (j / size) hi
  injection e1 with e1
  subst e1
  rw [hjk, flat_get f size hf M (j / size) hi (j % size) hk] at hj
  have := hc (j / size) hi (j % size) u hj
  rw [add_off, hjk, ← Nat.add_assoc]
  exact this
end
structure SRows {α : Type} (f : α → List Value) (size : Nat) (w : World) (B b : Nat) (L : List (List α)) : Prop where
  at_ : ∀ i (h : i < L.length), ∃ a k, w.cell? ⟨b, i, none⟩ = some (.slice a L[i].length k) ∧ IsRow f size w B a L[i] ∧ (a = none → k = 0)
theorem RowIn.isRow {α : Type} {f : α → List Value} {size : Nat} {e : TypeId} {w : World} {F : Nat → Prop} {A : Option Addr} {c : Nat} {L : List α} (h : RowIn f size e w F A c L) : IsRow f size w w.heap.size A L := ⟨fun k hk => by
  obtain ⟨g, hA, hg, hF, hc, _⟩ := h.get k hk
  refine ⟨g, 0, hA, hg, fun j hj n v hv => ?_⟩
  obtain ⟨g', hA', _, _, hc', _⟩ := h.get j hj
  obtain rfl : g = g' := by rw [hA] at hA'; injection hA' with e; injection e
  have hn : n < size := by have := (List.getElem?_eq_some_iff.1 hv).1; rwa [h.fits] at this
  rw [Nat.zero_add, hc' n hn]; exact hv⟩
theorem IsRow.from {α : Type} {f : α → List Value} {size : Nat} {w : World} {B b off : Nat} {L : List α} (h : IsRow f size w B (some ⟨b, off, none⟩) L) (i : Nat) : IsRow f size w B (some ⟨b, off + i * size, none⟩) (L.drop i) := ⟨fun k hk => by
  rw [List.length_drop] at hk
  obtain ⟨b', off', e, hlt, hcs⟩ := h.at_ (i + k) (by omega)
  injection e with e
  injection e with e1 e2
  subst e1
  subst e2
  refine ⟨b, off + i * size, rfl, hlt, fun j hj n v hv => ?_⟩
  rw [List.length_drop] at hj
  rw [List.getElem_drop] at hv
  rw [show off + i * size + j * size = off + (i + j) * size by rw [Nat.add_mul]; omega]
  exact hcs (i + j) (by omega) n v hv⟩
theorem IsRow.take {α : Type} {f : α → List Value} {size : Nat} {w : World} {B : Nat} {A : Option Addr} {L : List α} (h : IsRow f size w B A L) (n : Nat) : IsRow f size w B A (L.take n) := ⟨fun k hk => by
  have hk' : k < L.length := by rw [List.length_take] at hk; omega
  obtain ⟨b, off, e, hlt, hc⟩ := h.at_ k hk'
  refine ⟨b, off, e, hlt, fun i hi j v hv => ?_⟩
  have hi' : i < L.length := by rw [List.length_take] at hi; omega
  rw [List.getElem_take] at hv
  exact hc i hi' j v hv⟩
end Go.Proofs.Ytkmbkihfdilmbaa.Im
namespace Go.Proofs.Ytkmbkihfdilmbaa.Vo
open Go Go.RowKit
open Rl (En Lg)
open Ms (M)
open Im (ldX stX IsRow)
set_option maxRecDepth 100000
set_option linter.unusedVariables false
attribute [local go_sem ↓] loadAt_msgV storeAt_msgV
def askV (id group term index prev n : Int) : M := ⟨1, id, n, group, term, index, prev, 0, 0, 0, 0, 0, 0, 0, false, [], []⟩
theorem askV_small (id group term index prev n : Int) : Ms.Small (askV id group term index prev n) := ⟨by simp [askV], by simp [askV, weigh], by simp [askV]⟩
theorem run_ldMsg (w : World) (b o : Nat) (cs : List Value) (h : cs.length = 17) (hc : w.rangeAt b o cs) : (ldX 31 (.pointer (some ⟨b, o, none⟩))).run Try.prog w = .ok (.agg cs.toArray) w :=
  run_loadAt_mid w b o 31 cs _ hc Try.underlying31 rfl (by rw [info_msgV, h])
set_option maxHeartbeats 3200000 in
theorem sameMsgs_any (id group term index prev : Int) (A A' : Option Addr) (c c' n : Nat) (L : List Int) (hn : L.length = n) (hl : n ≤ 100000) (w : World) (h : IsRow (askC id group term index prev) 17 w w.heap.size A L) (h' : IsRow (askC id group term index prev) 17 w w.heap.size A' L) :
    Calls Try.prog 42 #[.slice A n c, .slice A' n c'] w fun e w' => e = .returned (.bool true) ∧ Below w.heap.size w w' := by
  subst hn
  have HH := hid (And.intro h h')
  clear h h'
  go_enter Try.func42, Try.ntmps42
  go_wp2_with fail
  go_loopw [5] (fun i wr => ∃ k : Nat, k ≤ L.length ∧ i = .int .i64 k ∧ Hid (Below w.heap.size w wr)) (fun i _ => L.length - (RowKit.intOf i).toNat)
  case atStart => exact ⟨0, by omega, rfl, hid (Below.refl _ _)⟩
  case round =>
    obtain ⟨k, hk, rfl, hS⟩ := hrel
    by_cases hlt : k < L.length
    · obtain ⟨b, off, rfl, hbl, hc⟩ := (HH.out.1.below hS.out).at_ k hlt
      obtain ⟨b', off', rfl, hbl', hc'⟩ := (HH.out.2.below hS.out).at_ k hlt
      obtain ⟨x, ax⟩ : ∃ x, x = L[k] := ⟨_, rfl⟩
      have hr0 := hc k hlt
      have hr1 := hc' k hlt
      rw [← ax] at hr0 hr1
      have l0 : (ldX 31 (.pointer (some ⟨b, off + k * 17, none⟩))).run Try.prog wr.drew = .ok (.agg (askC id group term index prev x).toArray) wr.drew := run_ldMsg wr.drew b (off + k * 17) _ rfl hr0
      have l1 : (ldX 31 (.pointer (some ⟨b', off' + k * 17, none⟩))).run Try.prog wr.drew = .ok (.agg (askC id group term index prev x).toArray) wr.drew := run_ldMsg wr.drew b' (off' + k * 17) _ rfl hr1
      have HC0 := Ms.same_any (askV id group term index prev x) (askV id group term index prev x) none 0 none 0 none 0 none 0 wr.drew IsEnts.nil IsEnts.nil IsBytes.nil IsBytes.nil (askV_small _ _ _ _ _ _) (askV_small _ _ _ _ _ _)
      rw [decide_eq_true rfl] at HC0
      have HC := hid HC0
      have hk0 : (k : Int) < (L.length : Int) := by omega
      clear hc hc' hr0 hr1 ax HC0
      go_wp2_with fail
      go_still_tail 8, (by kernel_rfl)
      go_wp2_with fail
      refine HC.out.mono ?_
      rintro e w2 ⟨rfl, hb2⟩
      have HB2 : Hid (Below w.heap.size w w2) := hid (hS.out.trans (((Below.refl _ wr).drew.trans hb2).mono hS.out.size))
      clear hb2 l0 l1
      go_wp2_with fail
      go_roundw
      case rel => exact ⟨k + 1, by omega, by go_num, HB2⟩
      case measure => simp [RowKit.intOf]; omega
    · obtain rfl : k = L.length := by omega
      have hk0 : ¬ (L.length : Int) < (L.length : Int) := by omega
      clear hlt
      go_wp2_with fail
      go_ret
      exact ⟨rfl, hS.out⟩
end Go.Proofs.Ytkmbkihfdilmbaa.Vo
namespace Go.Proofs.Ytkmbkihfdilmbaa.I
open Go.RowKit
theorem ints_snoc (l : List Int) (k : Nat) (h : k < l.length) : ints (l.take k) ++ [Value.int .i64 l[k]] = ints (l.take (k + 1)) := by
  unfold ints; rw [List.take_succ_eq_append_getElem h, List.map_append]; rfl
set_option maxHeartbeats 400000 in
theorem copy_any (B : Nat) (A : Option Addr) (c : Nat) (l : List Int) (hl : l.length ≤ 17592186044000) (w : World) (h : IsInts w B A l) (hB : B ≤ w.heap.size) :
    Calls Try.prog 61 #[.slice A l.length c] w fun e w' => ∃ A' c', e = .returned (.slice A' l.length c') ∧ OwnsI 3 w' w.heap.size A' c' l ∧ Below w.heap.size w w' := by
  obtain ⟨i0, hi, hz0, hz1, hz2⟩ := info_parts info_int
  go_enter Try.func61, Try.ntmps61
  go_wp2
  go_loopw [3, 4] (fun v i wr => ∃ k : Nat, k ≤ l.length ∧ i = .int .i64 k ∧ wr.ownsRow w.heap.size 3 1 v k (ints (l.take k)) ∧ Below w.heap.size w wr) (fun _ i _ => l.length - (RowKit.intOf i).toNat)
  case atStart => exact ⟨0, by omega, rfl, World.ownsRow_nil _ _ _ _, Below.refl _ _⟩
  case round =>
    obtain ⟨k, hk, rfl, hown, hbel⟩ := hrel
    by_cases hlt : k < l.length
    · have h1 := (h.below (hbel.mono hB))
      obtain ⟨b, off, rfl, _, hc⟩ := h1.cells k hlt
      have hck := hc k hlt
      clear hc
      go_wp2_with (at_builtin; refine wpList_append_own _ rfl _ _ 22 rfl w.heap.size 3 i0 (.int .i64 0) 1 8 Try.underlying22 hi hz0 hz1 hz2 rfl (by decide) _ _ _ rfl (hown.alloc _) ⟨wr.heap.size, 0, none⟩ 1 1 [.int .i64 l[k]] rfl rfl ?c1 ?c2 ?c3 ?c4 ?c5 ?_)
      case c1 =>
        intro j u hj
        match j, hj with
        | 0, hj => simp at hj; subst hj; simp [Addr.add]
      case c2 => intro u hu; simp at hu; subst hu; rfl
      case c3 => unfold maxLen; omega
      case c4 => omega
      case c5 => have := hbel.size; simp; omega
      intro v' w1 hown' hgrow _
      rw [ints_snoc l k hlt] at hown'
      have hb1 : Below w.heap.size w w1 := (hbel.alloc hbel.size _).grown hgrow (by have := hbel.size; simp; omega) (fun g hg => (hown.lt g hg).1)
      clear hgrow hown hbel hck
      go_wp2
      go_roundw
      case rel => exact ⟨k + 1, by omega, by go_num, hown', hb1⟩
      case measure => simp [RowKit.intOf]; omega
    · obtain rfl : k = l.length := by omega
      rw [List.take_length] at hown
      obtain ⟨A', c', rfl⟩ := own_slice hown
      go_wp2
      go_ret
      exact ⟨A', c', rfl, ⟨h.small, hown⟩, hbel⟩
end Go.Proofs.Ytkmbkihfdilmbaa.I
namespace Go.Proofs.Ytkmbkihfdilmbaa
open Go.RowKit
theorem sameI_N (B B' : Nat) (A A' : Option Addr) (c c' : Nat) (l m : List Int) (n k : Nat) (hn : l.length = n) (hk : m.length = k) (hl : n ≤ maxLen) (hm : k ≤ maxLen) (w : World) (h : IsInts w B A l) (h' : IsInts w B' A' m) :
    Calls Try.prog 65 #[.slice A n c, .slice A' k c'] w fun e w' => e = .returned (.bool (decide (l = m))) ∧ ∃ j, w' = w.drewN j := by
  subst hn; subst hk; exact I.same_any B B' A A' c c' l m hl hm w h h'
theorem sameI_T {w : World} {B B' : Nat} {A A' : Option Addr} {c c' n m : Nat} {l l' : List Int} (hn : l.length = n) (hm : l'.length = m) (hn2 : n ≤ 100000) (he : l' = l) (h : IsInts w B A l) (h' : IsInts w B' A' l') :
    Calls Try.prog 65 #[.slice A n c, .slice A' m c'] w fun e w' => e = .returned (.bool true) ∧ ∃ j, w' = w.drewN j := by
  have hm2 : m ≤ 100000 := by rw [← hm, he, hn]; exact hn2
  have := sameI_N B B' A A' c c' l l' n m hn hm (by unfold maxLen; omega) (by unfold maxLen; omega) w h h'
  rw [show decide (l = l') = true from decide_eq_true he.symm] at this
  exact this
end Go.Proofs.Ytkmbkihfdilmbaa
namespace Go.Proofs.Ytkmbkihfdilmbaa
open Go.RowKit
set_option maxHeartbeats 1000000 in
theorem sameConf_any (B B' : Nat) (c d : Qu.Cf) (hs0 : Short c) (hd0 : Short d) (a0 a1 a2 b0 b1 b2 : Option Addr) (k0 k1 k2 m0 m1 m2 : Nat) (w : World) (h0 : CIs w B c a0 a1 a2 k0 k1 k2) (h0' : CIs w B' d b0 b1 b2 m0 m1 m2) (hB : B ≤ w.heap.size) (hB' : B' ≤ w.heap.size) (he : c = d) :
    Calls Try.prog 43 #[.agg #[.slice a0 c.old.length k0, .slice a1 c.new.length k1, .slice a2 c.lrn.length k2], .agg #[.slice b0 d.old.length m0, .slice b1 d.new.length m1, .slice b2 d.lrn.length m2]] w fun e w' => e = .returned (.bool true) ∧ Below w.heap.size w w' := by
  subst he
  have hbel : Below w.heap.size w ((w.alloc (.cells #[.slice a0 c.old.length k0, .slice a1 c.new.length k1, .slice a2 c.lrn.length k2] 37)).alloc (.cells #[.slice b0 c.old.length m0, .slice b1 c.new.length m1, .slice b2 c.lrn.length m2] 37)) := ((Below.refl _ _).alloc (Nat.le_refl _) _).alloc (by simp) _
  have HO := hid (fun j : Nat => sameI_T (n := c.old.length) (m := c.old.length) (c := k0) (c' := m0) rfl rfl (by have := hs0.1; omega) rfl (((h0.below (hbel.mono hB)).o).drewN j) (((h0'.below (hbel.mono hB')).o).drewN j))
  have HN := hid (fun j : Nat => sameI_T (n := c.new.length) (m := c.new.length) (c := k1) (c' := m1) rfl rfl (by have := hs0.2.1; omega) rfl (((h0.below (hbel.mono hB)).n).drewN j) (((h0'.below (hbel.mono hB')).n).drewN j))
  have HL := hid (fun j : Nat => sameI_T (n := c.lrn.length) (m := c.lrn.length) (c := k2) (c' := m2) rfl rfl (by have := hs0.2.2; omega) rfl (((h0.below (hbel.mono hB)).l).drewN j) (((h0'.below (hbel.mono hB')).l).drewN j))
  have HB := hid hbel
  clear hbel h0 h0' hs0 hd0
  go_enter Try.func43, Try.ntmps43
  go_wp2_with fail
  refine (HO.out 0).mono ?_
  rintro e w1 ⟨rfl, n1, rfl⟩
  go_wp2_with fail
  refine (HN.out _).mono ?_
  rintro e w1 ⟨rfl, n2, rfl⟩
  go_wp2_with fail
  refine (HL.out (n1 + n2)).mono ?_
  rintro e w1 ⟨rfl, n3, rfl⟩
  go_wp2
  go_ret
  exact ⟨rfl, below_drewN HB.out _⟩
theorem ownsI_cap {e : TypeId} {w : World} {base c : Nat} {A : Option Addr} {l : List Int} (h : OwnsI e w base A c l) : (A = none → c = 0) ∧ l.length ≤ c ∧ c ≤ maxLen := by
  rcases h.row.2 with ⟨hv, h0⟩ | ⟨g, cap, cur, hv, _, _, h1, h2, _, _⟩
  · have h2 : c = 0 := by injection hv
    exact ⟨fun _ => h2, by omega, by omega⟩
  · have h3 : c = cap := by injection hv
    refine ⟨fun e => ?_, by omega, by omega⟩
    subst e
    cases hv
set_option maxRecDepth 100000 in
set_option maxHeartbeats 2000000 in
theorem copyConf_sep (B : Nat) (c : Qu.Cf) (hs0 : Short c) (a0 a1 a2 : Option Addr) (k0 k1 k2 : Nat) (w : World) (h0 : CIs w B c a0 a1 a2 k0 k1 k2) (hB : B ≤ w.heap.size) :
    Calls Try.prog 39 #[.agg #[.slice a0 c.old.length k0, .slice a1 c.new.length k1, .slice a2 c.lrn.length k2]] w fun e w' => ∃ A0 A1 A2 p0 p1 p2, e = .returned (.agg #[.slice A0 c.old.length p0, .slice A1 c.new.length p1, .slice A2 c.lrn.length p2]) ∧ (∃ m1 m2, (w.heap.size ≤ m1 ∧ m1 ≤ m2 ∧ m2 ≤ w'.heap.size) ∧ (OwnsI 3 w' w.heap.size A0 p0 c.old ∧ ∀ k, blk A0 = some k → k < m1) ∧ (OwnsI 3 w' m1 A1 p1 c.new ∧ ∀ k, blk A1 = some k → k < m2) ∧ OwnsI 3 w' m2 A2 p2 c.lrn) ∧ CIs w' w'.heap.size c A0 A1 A2 p0 p1 p2 ∧ Below w.heap.size w w' := by
  obtain ⟨wb, hwb⟩ : ∃ wb, wb = (w.alloc (.cells #[.slice a0 c.old.length k0, .slice a1 c.new.length k1, .slice a2 c.lrn.length k2] 37)).alloc (.cells #[.slice none 0 0, .slice none 0 0, .slice none 0 0] 37) := ⟨_, rfl⟩
  have hbel : Below w.heap.size w wb := by rw [hwb]; exact ((Below.refl _ _).alloc (Nat.le_refl _) _).alloc (by simp) _
  have hsz : wb.heap.size = w.heap.size + 2 := by rw [hwb]; simp
  have hrow : wb.heap[w.heap.size]? = some (.cells #[.slice a0 c.old.length k0, .slice a1 c.new.length k1, .slice a2 c.lrn.length k2] 37 (0, 0)) := by rw [hwb, Below.heap_alloc _ _ _ (by simp)]; exact heap_alloc_new w _
  have hrow2 : wb.heap[w.heap.size + 1]? = some (.cells #[.slice none 0 0, .slice none 0 0, .slice none 0 0] 37 (0, 0)) := by
    rw [hwb]
    have := heap_alloc_new (w.alloc (.cells #[.slice a0 c.old.length k0, .slice a1 c.new.length k1, .slice a2 c.lrn.length k2] 37)) (.cells #[.slice none 0 0, .slice none 0 0, .slice none 0 0] 37)
    rwa [World.size_alloc] at this
  have hI := h0.below (hbel.mono hB)
  have HX : Hid (∀ w', Below wb.drew.heap.size wb.drew w' → w'.cell? ⟨w.heap.size, 0, none⟩ = some (.slice a0 c.old.length k0) ∧ w'.cell? ⟨w.heap.size, 1, none⟩ = some (.slice a1 c.new.length k1) ∧ w'.cell? ⟨w.heap.size, 2, none⟩ = some (.slice a2 c.lrn.length k2)) := hid fun w' hb => by
    have h1 : w'.heap[w.heap.size]? = _ := (hb.block w.heap.size (by show w.heap.size < wb.heap.size; omega)).trans hrow
    exact ⟨cell_of_row w' w.heap.size 0 _ _ _ h1, cell_of_row w' w.heap.size 1 _ _ _ h1, cell_of_row w' w.heap.size 2 _ _ _ h1⟩
  have HK : Hid (∀ w' v0 v1 v2, Below wb.drew.heap.size wb.drew w' → (((w'.setCell ⟨w.heap.size + 1, 0, none⟩ v0).setCell ⟨w.heap.size + 1, 1, none⟩ v1).setCell ⟨w.heap.size + 1, 2, none⟩ v2).cell? ⟨w.heap.size, 0, none⟩ = some (.slice a0 c.old.length k0) ∧ (((w'.setCell ⟨w.heap.size + 1, 0, none⟩ v0).setCell ⟨w.heap.size + 1, 1, none⟩ v1).setCell ⟨w.heap.size + 1, 2, none⟩ v2).cell? ⟨w.heap.size, 1, none⟩ = some (.slice a1 c.new.length k1) ∧ (((w'.setCell ⟨w.heap.size + 1, 0, none⟩ v0).setCell ⟨w.heap.size + 1, 1, none⟩ v1).setCell ⟨w.heap.size + 1, 2, none⟩ v2).cell? ⟨w.heap.size, 2, none⟩ = some (.slice a2 c.lrn.length k2)) := hid fun w' v0 v1 v2 hb => by
    have h1 : w'.heap[w.heap.size]? = _ := (hb.block w.heap.size (by show w.heap.size < wb.heap.size; omega)).trans hrow
    have h2 : (((w'.setCell ⟨w.heap.size + 1, 0, none⟩ v0).setCell ⟨w.heap.size + 1, 1, none⟩ v1).setCell ⟨w.heap.size + 1, 2, none⟩ v2).heap[w.heap.size]? = w'.heap[w.heap.size]? := by
      rw [Below.heap_setCell _ _ _ _ (show w.heap.size ≠ w.heap.size + 1 by omega), Below.heap_setCell _ _ _ _ (show w.heap.size ≠ w.heap.size + 1 by omega), Below.heap_setCell _ _ _ _ (show w.heap.size ≠ w.heap.size + 1 by omega)]
    have h2 := h2.trans h1
    exact ⟨cell_of_row _ w.heap.size 0 _ _ _ h2, cell_of_row _ w.heap.size 1 _ _ _ h2, cell_of_row _ w.heap.size 2 _ _ _ h2⟩
  have HZ : Hid (∀ w', Below wb.drew.heap.size wb.drew w' → (w'.cell? ⟨w.heap.size + 1, 0, none⟩ = some (.slice none 0 0) ∧ w'.cell? ⟨w.heap.size + 1, 1, none⟩ = some (.slice none 0 0) ∧ w'.cell? ⟨w.heap.size + 1, 2, none⟩ = some (.slice none 0 0)) ∧ (∀ k, w'.frozen? ⟨w.heap.size + 1, k, none⟩ = false)) := hid fun w' hb => by
    have h1 : w'.heap[w.heap.size + 1]? = _ := (hb.block (w.heap.size + 1) (by show w.heap.size + 1 < wb.heap.size; omega)).trans hrow2
    exact ⟨⟨cell_of_row w' (w.heap.size + 1) 0 _ _ _ h1, cell_of_row w' (w.heap.size + 1) 1 _ _ _ h1, cell_of_row w' (w.heap.size + 1) 2 _ _ _ h1⟩, fun k => by simp [World.frozen?, h1]⟩
  have HZR : Hid (∀ w', Below wb.drew.heap.size wb.drew w' → w'.heap[w.heap.size + 1]? = some (.cells #[.slice none 0 0, .slice none 0 0, .slice none 0 0] 37 (0, 0))) := hid fun w' hb => (hb.block (w.heap.size + 1) (by show w.heap.size + 1 < wb.heap.size; omega)).trans hrow2
  have hd : wb.drew.heap.size = wb.heap.size := rfl
  have HD := hid (And.intro hd hsz)
  have CP : ∀ (A : Option Addr) (k : Nat) (l : List Int), l.length ≤ 20000 → IsInts wb B A l → ∀ w', Below wb.drew.heap.size wb.drew w' → Calls Try.prog 61 #[.slice A l.length k] w' fun e w'' => ∃ A' p, e = .returned (.slice A' l.length p) ∧ Hid (OwnsI 3 w'' w'.heap.size A' p l) ∧ Hid (Below wb.drew.heap.size wb.drew w'') ∧ Hid (Below w'.heap.size w' w'') := fun A k l hl hi w' hb =>
    (I.copy_any B A k l (by omega) w' (hi.drew.below (hb.mono (by show B ≤ wb.heap.size; omega))) (by have := hb.size; omega)).mono fun e w'' ⟨A', p, he, ho, hb2⟩ => ⟨A', p, he, hid ho, hid (bthen hb hb2 hb.size), hid hb2⟩
  have HC0 := hid (CP a0 k0 c.old hs0.1 hI.o wb.drew (Below.refl _ _))
  have HC1 := hid (CP a1 k1 c.new hs0.2.1 hI.n)
  have HC2 := hid (CP a2 k2 c.lrn hs0.2.2 hI.l)
  have c0 := (HX.out wb.drew (Below.refl _ _)).1
  have c1 := (HX.out wb.drew (Below.refl _ _)).2.1
  have c2 := (HX.out wb.drew (Below.refl _ _)).2.2
  have HB := hid hbel
  clear hbel hI h0 hs0 hsz hrow hrow2 hd CP
  go_enter Try.func39, Try.ntmps39
  go_wp2_with fail
  rw [← hwb]; clear hwb
  go_region_held3 (fun w' => w'.cell? ⟨w.heap.size, 0, none⟩ = some (.slice a0 c.old.length k0) ∧ w'.cell? ⟨w.heap.size, 1, none⟩ = some (.slice a1 c.new.length k1) ∧ w'.cell? ⟨w.heap.size, 2, none⟩ = some (.slice a2 c.lrn.length k2))
    (first | exact ⟨c0, c1, c2⟩ | exact HK.out _ _ _ _ hb3.out | exact HX.out _ hb3.out | exact HX.out _ hb2.out | exact HX.out _ hb1.out | fail)
    (first
      | (go_at_call 61; refine HY2.out.mono ?_; rintro e3 w3 ⟨A2, p2, rfl, ho2, hb3, hbb3⟩; obtain ⟨⟨z0, z1, z2⟩, fz⟩ := HZ.out w3 hb3.out; have f0 := fz 0; have f1 := fz 1; have f2 := fz 2)
      | (go_at_call 61; refine HY1.out.mono ?_; rintro e2 w2 ⟨A1, p1, rfl, ho1, hb2, hbb2⟩; have HY2 := hid (HC2.out w2 hb2.out))
      | (go_at_call 61; refine HC0.out.mono ?_; rintro e1 w1 ⟨A0, p0, rfl, ho0, hb1, hbb1⟩; have HY1 := hid (HC1.out w1 hb1.out)))
  obtain ⟨w4, hw4⟩ : ∃ w4, w4 = ((w3.setCell ⟨w.heap.size + 1, 0, none⟩ (.slice A0 c.old.length p0)).setCell ⟨w.heap.size + 1, 1, none⟩ (.slice A1 c.new.length p1)).setCell ⟨w.heap.size + 1, 2, none⟩ (.slice A2 c.lrn.length p2) := ⟨_, rfl⟩
  rw [← hw4]
  have hx3 := HZR.out w3 hb3.out
  have hx4 : w4.heap[w.heap.size + 1]? = some (.cells #[.slice A0 c.old.length p0, .slice A1 c.new.length p1, .slice A2 c.lrn.length p2] 37 (0, 0)) := by
    rw [hw4]
    simp [World.setCell, Array.getElem?_modify, hx3]
  have hg : w3.grownBy w4 (some (w.heap.size + 1)) := by
    rw [hw4]
    refine ⟨rfl, rfl, rfl, by simp [World.setCell], fun k hk hne => ?_⟩
    have hne' : k ≠ w.heap.size + 1 := fun e => hne (by rw [e])
    rw [Below.heap_setCell _ _ _ _ hne', Below.heap_setCell _ _ _ _ hne', Below.heap_setCell _ _ _ _ hne']
  have r0 : w4.cell? ⟨w.heap.size + 1, 0, none⟩ = some (.slice A0 c.old.length p0) := by simp [World.cell?, hx4]
  have r1 : w4.cell? ⟨w.heap.size + 1, 1, none⟩ = some (.slice A1 c.new.length p1) := by simp [World.cell?, hx4]
  have r2 : w4.cell? ⟨w.heap.size + 1, 2, none⟩ = some (.slice A2 c.lrn.length p2) := by simp [World.cell?, hx4]
  have HG := hid hg
  clear hw4 hx3 hx4 hg HK fz f0 f1 f2 z0 z1 z2
  go_wp2
  refine bodyPost_ret (by simp [results, Try.results39, go_sem, r0, r1, r2]; try rfl) rfl ?_
  have hs0 := HD.out.1
  have hs1 := HD.out.2
  have hz1 := hb1.out.size
  have hz2 := hb2.out.size
  have o0 := ((ho0.out.below (hbb2.out)).below hbb3.out).grown HG.out (fun k e => by injection e with e; omega)
  have o1 := (ho1.out.below hbb3.out).grown HG.out (fun k e => by injection e with e; omega)
  have o2 := ho2.out.grown HG.out (fun k e => by injection e with e; omega)
  have hz4 := HG.out.size
  have hz3 := hb3.out.size
  have hzb2 := hbb2.out.size
  have hzb3 := hbb3.out.size
  refine ⟨A0, A1, A2, p0, p1, p2, rfl, ⟨w1.heap.size, w2.heap.size, ⟨by omega, hzb2, by omega⟩, ⟨o0.weaken (by omega), fun k hk => (ho0.out.blkLt k hk).2⟩, ⟨o1, fun k hk => (ho1.out.blkLt k hk).2⟩, o2⟩, ⟨o0.reads, o1.reads, o2.reads, (ownsI_cap o0).1, (ownsI_cap o1).1, (ownsI_cap o2).1, (ownsI_cap o0).2, (ownsI_cap o1).2, (ownsI_cap o2).2⟩, ?_⟩
  exact ((Below.drew HB.out).trans (hb3.out.mono (by omega))).grown HG.out (by have := hb3.out.size; omega) (fun k e => by injection e with e; omega)
set_option linter.unusedVariables false in
theorem copyConf_own (B : Nat) (c : Qu.Cf) (hs0 : Short c) (a0 a1 a2 : Option Addr) (k0 k1 k2 : Nat) (w : World) (h0 : CIs w B c a0 a1 a2 k0 k1 k2) (hB : B ≤ w.heap.size) :
    Calls Try.prog 39 #[.agg #[.slice a0 c.old.length k0, .slice a1 c.new.length k1, .slice a2 c.lrn.length k2]] w fun e w' => ∃ A0 A1 A2 p0 p1 p2, e = .returned (.agg #[.slice A0 c.old.length p0, .slice A1 c.new.length p1, .slice A2 c.lrn.length p2]) ∧ (OwnsI 3 w' w.heap.size A0 p0 c.old ∧ OwnsI 3 w' w.heap.size A1 p1 c.new ∧ OwnsI 3 w' w.heap.size A2 p2 c.lrn) ∧ CIs w' w'.heap.size c A0 A1 A2 p0 p1 p2 ∧ Below w.heap.size w w' :=
  (copyConf_sep B c hs0 a0 a1 a2 k0 k1 k2 w h0 hB).mono fun _ _ ⟨A0, A1, A2, p0, p1, p2, h1, ⟨m1, m2, ⟨g1, g2, g3⟩, o0, o1, o2⟩, h2⟩ => ⟨A0, A1, A2, p0, p1, p2, h1, ⟨o0.1, o1.1.weaken g1, o2.weaken (Nat.le_trans g1 g2)⟩, h2⟩
theorem copyConf_any (B : Nat) (c : Qu.Cf) (hs0 : Short c) (a0 a1 a2 : Option Addr) (k0 k1 k2 : Nat) (w : World) (h0 : CIs w B c a0 a1 a2 k0 k1 k2) (hB : B ≤ w.heap.size) :
    Calls Try.prog 39 #[.agg #[.slice a0 c.old.length k0, .slice a1 c.new.length k1, .slice a2 c.lrn.length k2]] w fun e w' => ∃ A0 A1 A2 p0 p1 p2, e = .returned (.agg #[.slice A0 c.old.length p0, .slice A1 c.new.length p1, .slice A2 c.lrn.length p2]) ∧ CIs w' w'.heap.size c A0 A1 A2 p0 p1 p2 ∧ Below w.heap.size w w' :=
  (copyConf_own B c hs0 a0 a1 a2 k0 k1 k2 w h0 hB).mono fun _ _ ⟨A0, A1, A2, p0, p1, p2, h1, _, h2⟩ => ⟨A0, A1, A2, p0, p1, p2, h1, h2⟩
end Go.Proofs.Ytkmbkihfdilmbaa
namespace Go.Proofs.Ytkmbkihfdilmbaa
open Go.RowKit
set_option maxRecDepth 100000
end Go.Proofs.Ytkmbkihfdilmbaa
namespace Go.Proofs.Ytkmbkihfdilmbaa.Im
open Go.RowKit
open Rl (En Lg)
open Qu (Cf)
set_option maxRecDepth 100000
set_option linter.unusedVariables false
class Lo where
  n : Nat
set_option linter.unusedSectionVars false
variable [Lo]
namespace Kq
variable {B B' : Nat} {a b c : World}
end Kq
namespace Ro
variable {w w' : World} {G g : Nat} {s : Pk.St}
end Ro
namespace Rt
variable {w w' : World} {G g : Nat} {s : Pk.St}
end Rt
end Go.Proofs.Ytkmbkihfdilmbaa.Im
namespace Go.Proofs.Ytkmbkihfdilmbaa.Im
open Go.RowKit
open Rl (En Lg)
open Qu (Cf)
set_option linter.unusedSectionVars false
variable [Lo]
set_option maxRecDepth 100000
set_option linter.unusedVariables false
attribute [local go_sem ↓] loadAt_hard storeAt_hard
namespace Sp
variable {w W W' : World} {G g R : Nat} {cs : Array Value} {t : TypeId} {s s' : Pk.St}
end Sp
end Go.Proofs.Ytkmbkihfdilmbaa.Im
namespace Go.Proofs.Ytkmbkihfdilmbaa.Im
open Go.RowKit
open Rl (En Lg)
open Qu (Cf)
set_option linter.unusedSectionVars false
variable [Lo]
set_option maxRecDepth 100000
set_option linter.unusedVariables false
theorem storeAt_entry (a v : Value) : Instr.storeAt 64 a v = stX 64 a v := rfl
theorem storeAt_conf (a v : Value) : Instr.storeAt 37 a v = stX 37 a v := rfl
attribute [local go_sem ↓] storeAt_entry storeAt_conf
section
variable {w W : World} {G g R : Nat} {cs : Array Value} {t : TypeId} {S0 S1 : Pk.St}
end
end Go.Proofs.Ytkmbkihfdilmbaa.Im
namespace Go.Proofs.Ytkmbkihfdilmbaa.Im
open Go.RowKit
open Rl (En Lg)
open Qu (Cf)
set_option linter.unusedSectionVars false
variable [Lo]
set_option maxRecDepth 100000
set_option linter.unusedVariables false
attribute [local go_sem ↓] storeAt_conf
end Go.Proofs.Ytkmbkihfdilmbaa.Im
namespace Go.Proofs.Ytkmbkihfdilmbaa.Im
open Go.RowKit
open Rl (En Lg)
open Qu (Cf)
set_option linter.unusedSectionVars false
variable [Lo]
set_option maxRecDepth 100000
set_option linter.unusedVariables false
section
variable {α : Type} {f : α → List Value} {size : Nat} {e : TypeId} {W W' : World} {F : Nat → Prop} {A : Option Addr} {c : Nat} {L : List α} {G g n : Nat} {s : Pk.St}
end
end Go.Proofs.Ytkmbkihfdilmbaa.Im
namespace Go.Proofs.Ytkmbkihfdilmbaa.Im
open Go.RowKit
open Rl (En Lg)
open Qu (Cf)
set_option linter.unusedSectionVars false
variable [Lo]
set_option maxRecDepth 100000
set_option linter.unusedVariables false
end Go.Proofs.Ytkmbkihfdilmbaa.Im
namespace Go.Proofs.Ytkmbkihfdilmbaa.Im
open Go.RowKit
open Rl (En Lg)
open Qu (Cf)
set_option linter.unusedSectionVars false
variable [Lo]
set_option maxRecDepth 100000
set_option linter.unusedVariables false
theorem storeAt_log (a v : Value) : Instr.storeAt 25 a v = stX 25 a v := rfl
attribute [local go_sem ↓] storeAt_log
end Go.Proofs.Ytkmbkihfdilmbaa.Im
namespace Go.Proofs.Ytkmbkihfdilmbaa
open Go
def unl (listed : Array Bool) : Nat := listed.toList.count false
theorem unl_set {listed : Array Bool} {i : Nat} (h : listed.getD i true = false) : unl (listed.setIfInBounds i true) + 1 = unl listed := by
  have hi : i < listed.size := by
    rcases Nat.lt_or_ge i listed.size with h' | h'
    · exact h'
    · rw [Array.getD_eq_getD_getElem?, Array.getElem?_eq_none h'] at h; cases h
  have hv : listed.toList[i] = false := by
    rw [Array.getD_eq_getD_getElem?, Array.getElem?_eq_getElem hi] at h
    exact h
  unfold unl
  rw [Array.toList_setIfInBounds, List.count_set (by simpa using hi)]
  have hm : 0 < listed.toList.count false := List.count_pos_iff.2 (hv ▸ List.getElem_mem _)
  have hv2 : (listed.toList[i]'(by simpa using hi) == false) = true := by rw [hv]; rfl
  rw [if_pos hv2, if_neg (by decide)]
  omega
theorem all_listed {ops : Array Oper} {listed : Array Bool} (hsz : listed.size = ops.size) (hacyc : ∀ (i : Nat) (o : Oper), ops[i]? = some o → ∀ e ∈ o.after, Region.binds .any e = true → e.on < i) (hr : Region.ready .any ops listed = []) :
    ∀ i, i < ops.size → listed.getD i false = true := by
  intro i
  induction i using Nat.strongRecOn with
  | ind i ih =>
    intro hi
    have hi' : i < listed.size := by omega
    cases hl : listed[i]
    · exfalso
      have hm : i ∈ Region.ready .any ops listed := mem_ready.2 ⟨by rw [Array.getD_eq_getD_getElem?, Array.getElem?_eq_getElem hi', hl]; rfl, ops[i], Array.getElem?_eq_getElem hi, fun e he hb => ih e.on (hacyc i _ (Array.getElem?_eq_getElem hi) e he hb) (by have := hacyc i _ (Array.getElem?_eq_getElem hi) e he hb; omega)⟩
      rw [hr] at hm
      cases hm
    · rw [Array.getD_eq_getD_getElem?, Array.getElem?_eq_getElem hi', hl]; rfl
def sop (op : Op) (ty : TypeId) : Oper := ⟨none, op, ty, "", #[], none⟩
theorem exec_sop (ρ : Operand → Value) (o : Oper) : execOp ρ o = execOp ρ (sop o.op o.type) := rfl
def Goes (P : Program) (a : Act) (w : World) (op : Op) (ty : TypeId) (R : Value → World → Prop) : Prop :=
  (∃ v w', (execOp a.eval (sop op ty)).run P w = .ok (.value v) w' ∧ R v w') ∨
  (∃ f args, (execOp a.eval (sop op ty)).run P w = .ok (.enter f args) w ∧ Calls P f args w fun e w' => ∃ v, e = .returned v ∧ R v w')
theorem Goes.wpOp {P : Program} {ops : Array Oper} {Q : Exit → Act → World → Prop} {K : Act → World → Prop} {a : Act} {w : World} {i : Nat} {o : Oper} {R : Value → World → Prop} (hi : ops[i]? = some o) (hg : o.guard = none) (h : Goes P a w o.op o.type R)
    (hk : ∀ v w', R v w' → K (a.put o.dst v) w') : wpOp P ops Q i K a w := by
  unfold Go.wpOp
  simp only [hi]
  have hw : Region.wanted o (yielded ops a.tmps) = true := by simp [Region.wanted, hg]
  rw [if_pos hw]
  left
  unfold Oper.wp
  rw [exec_sop]
  rcases h with ⟨v, w', hr, hR⟩ | ⟨f, args, hr, hC⟩
  · rw [hr, Oper.upon_value]
    exact hk v w' hR
  · rw [hr, Oper.upon_enter]
    refine hC.mono ?_
    rintro e w' ⟨v, rfl, hR⟩
    exact hk v w' hR
theorem x_move {P : Program} (ρ : Operand → Value) (x : Operand) (ty : TypeId) (w : World) : (execOp ρ (sop (.move x) ty)).run P w = .ok (.value (ρ x)) w := by simp [execOp, sop]
theorem x_assign {P : Program} (ρ : Operand → Value) (x : Operand) (ty : TypeId) (w : World) : (execOp ρ (sop (.assign x) ty)).run P w = .ok (.value (ρ x)) w := by simp [execOp, sop]
theorem x_build {P : Program} (ρ : Operand → Value) (t : TypeId) (parts : Array (Nat × Operand)) (ty : TypeId) (v : Value) (w : World) (h : (Instr.build t (parts.map fun (i, x) => (i, ρ x))).run P w = .ok v w) : (execOp ρ (sop (.build t parts) ty)).run P w = .ok (.value v) w := by simp [execOp, sop, h]
theorem x_slice {P : Program} (ρ : Operand → Value) (t : TypeId) (n : Nat) (parts : Array (Nat × Operand)) (ty : TypeId) (v : Value) (w w' : World) (h : (Instr.buildSlice t n (parts.map fun (i, x) => (i, ρ x))).run P w = .ok v w') : (execOp ρ (sop (.buildSlice t n parts) ty)).run P w = .ok (.value v) w' := by simp [execOp, sop, h]
theorem x_index {P : Program} (ρ : Operand → Value) (t : TypeId) (x y : Operand) (ty : TypeId) (v : Value) (w : World) (h : (Instr.indexAt t (ρ x) (ρ y)).run P w = .ok v w) : (execOp ρ (sop (.indexAddr t x y) ty)).run P w = .ok (.value v) w := by simp [execOp, sop, h]
theorem x_load {P : Program} (ρ : Operand → Value) (t : TypeId) (x : Operand) (ty : TypeId) (v : Value) (w : World) (h : (Instr.loadAt t (ρ x)).run P w = .ok v w) : (execOp ρ (sop (.load t x) ty)).run P w = .ok (.value v) w := by simp [execOp, sop, h]
def AllFrom {α : Type} (p : Nat → α → Prop) : Nat → List α → Prop
  | _, [] => True
  | n, x :: xs => p n x ∧ AllFrom p (n + 1) xs
theorem AllFrom.get {α : Type} {p : Nat → α → Prop} : ∀ {n : Nat} {l : List α}, AllFrom p n l → ∀ (i : Nat) (x : α), l[i]? = some x → p (n + i) x
  | _, [], _, i, x, h => by simp at h
  | n, y :: ys, ⟨h0, h1⟩, i, x, h => by
    rcases i with _ | i
    · simp at h; subst h; exact h0
    · simp at h
      have := AllFrom.get h1 i x h
      rwa [show n + 1 + i = n + (i + 1) by omega] at this
end Go.Proofs.Ytkmbkihfdilmbaa
namespace Go.Proofs.Ytkmbkihfdilmbaa.Im
open Go Go.RowKit
open Rl (En Lg)
open Qu (Cf)
set_option linter.unusedSectionVars false
variable [Lo]
set_option maxRecDepth 100000
set_option linter.unusedVariables false
inductive Cl where
  | g | ld | num (k : Nat) | log | conf | blob | vote | agg
deriving DecidableEq
structure Pl where
  pt : Pt
  a : Ad
  m0 : Nat
  m1 : Nat
  m2 : Nat
  m3 : Nat
structure Cx where
  G : Nat
  g : Nat
  R : Nat
  w0 : World
  K : Nat
  nc : Nat
  V : Nat → Int
  s : Nat → Pk.St
  vt : Vt
  T : TypeId
  sz : Nat
  fin : Pt → Ad → List Value
def callNo (K : Nat) : Cl → Option Nat
  | .num k => some k
  | .log => some K
  | .conf => some (K + 1)
  | .blob => some (K + 2)
  | .vote => some (K + 3)
  | _ => none
structure Sh where
  n : Nat
  nt : Nat
  cls : List Cl
def Sh.c (S : Sh) (j : Nat) : Cl := (S.cls[j]?).getD .g
structure Sh.Ok (C : Cx) (S : Sh) : Prop where
  nt : S.n + 2 ≤ S.nt
  pos : 0 < S.n
  uniq : ∀ i j k, i + 1 < S.n → j + 1 < S.n → callNo C.K (S.c i) = some k → callNo C.K (S.c j) = some k → i = j
section
variable {C : Cx} {S : Sh} {X X' : Pl} {p p' : Nat} {listed : Array Bool} {a : Act} {w w' : World}
end
section
variable {C : Cx} {S : Sh} {listed : Array Bool} {a : Act} {w : World} {ops : Array Oper} {Q : Exit → Act → World → Prop}
end
end Go.Proofs.Ytkmbkihfdilmbaa.Im
namespace Go.Proofs.Ytkmbkihfdilmbaa.Im
open Go Go.RowKit
open Rl (En Lg)
open Qu (Cf)
set_option linter.unusedSectionVars false
variable [Lo]
set_option maxRecDepth 100000
set_option linter.unusedVariables false
theorem ownsI_room {e : TypeId} {w : World} {base c : Nat} {A : Option Addr} {l : List Int} (h : OwnsI e w base A c l) : Room l.length c A := by
  rcases h.row.2 with ⟨hv, h0⟩ | ⟨g, cap, cur, hv, _, _, h1, h2, _, _⟩
  · injection hv with e1 e2 e3
    refine ⟨⟨by omega, by unfold maxLen; omega⟩, fun _ => e3⟩
  · have h3 : c = cap := by injection hv
    refine ⟨⟨by omega, by omega⟩, fun e => ?_⟩
    rw [e] at hv; injection hv with h4; cases h4
theorem ownsB_room {e : TypeId} {w : World} {base c : Nat} {A : Option Addr} {l : List Nat} (h : OwnsB e w base A c l) : Room l.length c A := ⟨h.room, h.none_⟩
structure Kp (P : TypeId → Prop) (w w' : World) : Prop where
  os : w'.os = w.os
  tape : w'.tape = w.tape
  output : w'.output = w.output
  size : w.heap.size ≤ w'.heap.size
  keep : ∀ (k : Nat) (cs : Array Value) (t : TypeId) (fr : Nat × Nat), w.heap[k]? = some (.cells cs t fr) → P t → w'.heap[k]? = some (.cells cs t fr)
namespace Kp
variable {P : TypeId → Prop} {w w' : World}
theorem ofGrown {g : Nat} {cs : Array Value} {t : TypeId} {fr : Nat × Nat} (hg : w.heap[g]? = some (.cells cs t fr)) (ht : ¬ P t) (h : w.grownBy w' (some g)) : Kp P w w' :=
  ⟨h.os, h.tape, h.output, h.size, fun k cs' t' fr' h1 h2 => (h.block k (row_lt h1) (fun e => by
    injection e with e
    subst e
    rw [h1] at hg
    have := (Obj.cells.inj (Option.some.inj hg)).2.1
    exact ht (this ▸ h2))).trans h1⟩
theorem ofBelow (h : Below w.heap.size w w') : Kp P w w' := ⟨h.os, h.tape, h.output, h.size, fun k cs t fr h1 _ => (h.block k (row_lt h1)).trans h1⟩
theorem row (h : Kp P w w') {base n size : Nat} {e : TypeId} {v : Value} {xs : List Value} (hr : w.ownsRow base e size v n xs) (h1 : P e) : w'.ownsRow base e size v n xs := by
  refine ⟨hr.1, ?_⟩
  rcases hr.2 with h0 | ⟨g, cap, cur, q1, q2, q3, q4⟩
  · exact .inl h0
  · exact .inr ⟨g, cap, cur, q1, q2, h.keep g _ _ _ q3 h1, q4⟩
theorem ownB (h : Kp P w w') (hP : P 5) {base c : Nat} {A : Option Addr} {l : List Nat} (ho : OwnsB 5 w base A c l) : OwnsB 5 w' base A c l := ⟨ho.small, h.row ho.row hP⟩
theorem ownI (h : Kp P w w') (hP : P 3) {base c : Nat} {A : Option Addr} {l : List Int} (ho : OwnsI 3 w base A c l) : OwnsI 3 w' base A c l := ⟨ho.small, h.row ho.row hP⟩
theorem rowIn {α : Type} {f : α → List Value} {size : Nat} {e : TypeId} {F : Nat → Prop} {A : Option Addr} {c : Nat} {L : List α} (h : Kp P w w') (hP : P e) (hr : RowIn f size e w F A c L) : RowIn f size e w' F A c L := ⟨hr.fits, h.row hr.row hP, hr.blk⟩
theorem ownE (h : Kp P w w') (hE : P 64) (hB : P 5) {B N c : Nat} {A : Option Addr} {L : List En} (ho : OwnE w B N A c L) : OwnE w' B N A c L := by
  obtain ⟨M, h1, h2⟩ := ho
  exact ⟨M, h1, h.rowIn hE h2.row, fun q hq => ⟨h.ownB hB (h2.own q hq).1, (h2.own q hq).2⟩, h2.apart, h2.num⟩
end Kp
def Parts (t : TypeId) : Prop := t = 64 ∨ t = 5 ∨ t = 3
def OwnPt (w : World) (B N : Nat) (p : Pt) (a : Ad) : Prop := ∃ m0 m1 m2 m3, (B ≤ m0 ∧ m0 ≤ m1 ∧ m1 ≤ m2 ∧ m2 ≤ m3 ∧ m3 ≤ N) ∧ OwnE w B m0 a.e a.ce p.log.es ∧ (OwnsI 3 w m0 a.o a.co p.cf.old ∧ ∀ k, blk a.o = some k → k < m1) ∧ (OwnsI 3 w m1 a.n a.cn p.cf.new ∧ ∀ k, blk a.n = some k → k < m2) ∧ (OwnsI 3 w m2 a.l a.cl p.cf.lrn ∧ ∀ k, blk a.l = some k → k < m3) ∧ (OwnsB 5 w m3 a.s a.cs p.sn ∧ ∀ k, blk a.s = some k → k < N) ∧ InInt p.log.base ∧ InInt p.log.term
theorem ownsI_turned {e : TypeId} {w w' : World} {S : Nat → Prop} {base c : Nat} {A : Option Addr} {l : List Int} (h : OwnsI e w base A c l) (ht : Turned S w w') (hd : ∀ k, blk A = some k → ¬ S k) : OwnsI e w' base A c l :=
  ⟨h.small, ownsRow_turned h.row ht (fun k hk => hd k (by rw [← ownBlock_slice A l.length c]; exact hk))⟩
theorem isBytes_lower {w : World} {B : Nat} {A : Option Addr} {l : List Nat} {B' : Nat} (h : IsBytes w B A l) (hb : ∀ k, blk A = some k → k < B') : IsBytes w B' A l := by
  refine ⟨h.small, fun k hk => ?_⟩
  obtain ⟨b, off, e, _, hc⟩ := h.cells k hk
  exact ⟨b, off, e, hb b (by rw [e]; rfl), hc⟩
theorem isInts_lower {w : World} {B : Nat} {A : Option Addr} {l : List Int} {B' : Nat} (h : IsInts w B A l) (hb : ∀ k, blk A = some k → k < B') : IsInts w B' A l := by
  refine ⟨h.small, fun k hk => ?_⟩
  obtain ⟨b, off, e, _, hc⟩ := h.cells k hk
  exact ⟨b, off, e, hb b (by rw [e]; rfl), hc⟩
namespace OwnPt
variable {w w' : World} {B B' N N' : Nat} {p : Pt} {a : Ad}
theorem kp (h : OwnPt w B N p a) (hk : Kp Parts w w') : OwnPt w' B N p a := by
  obtain ⟨m0, m1, m2, m3, hm, h1, h2, h3, h4, h5, h6⟩ := h
  exact ⟨m0, m1, m2, m3, hm, hk.ownE (.inl rfl) (.inr (.inl rfl)) h1, ⟨hk.ownI (.inr (.inr rfl)) h2.1, h2.2⟩, ⟨hk.ownI (.inr (.inr rfl)) h3.1, h3.2⟩, ⟨hk.ownI (.inr (.inr rfl)) h4.1, h4.2⟩, ⟨hk.ownB (.inr (.inl rfl)) h5.1, h5.2⟩, h6⟩
theorem wide (h : OwnPt w B N p a) (hB : B' ≤ B) (hN : N ≤ N') : OwnPt w B' N' p a := by
  obtain ⟨m0, m1, m2, m3, ⟨c0, c1, c2, c3, c4⟩, h1, h2, h3, h4, h5, h6⟩ := h
  exact ⟨m0, m1, m2, m3, ⟨by omega, c1, c2, c3, by omega⟩, h1.wide hB (Nat.le_refl _), h2, h3, h4, ⟨h5.1, fun k hk => by have := h5.2 k hk; omega⟩, h6⟩
theorem keep {S : Nat → Prop} (h : OwnPt w B N p a) (ht : Turned S w w') (hs : ∀ k, S k → ¬ Bl B N k) : OwnPt w' B N p a := by
  obtain ⟨m0, m1, m2, m3, ⟨c0, c1, c2, c3, c4⟩, h1, h2, h3, h4, h5, h6⟩ := h
  have kB : ∀ {lo hi : Nat} {A : Option Addr}, B ≤ lo → hi ≤ N → (∀ k, blk A = some k → lo ≤ k) → (∀ k, blk A = some k → k < hi) → ∀ k, blk A = some k → ¬ S k := fun h1 h2 h3 h4 k hk hS => hs k hS ⟨by have := h3 k hk; omega, by have := h4 k hk; omega⟩
  refine ⟨m0, m1, m2, m3, ⟨c0, c1, c2, c3, c4⟩, h1.keep ht (fun k hk hb => hs k hk ⟨hb.1, by have := hb.2; omega⟩), ⟨ownsI_turned h2.1 ht (kB (lo := m0) (hi := m1) c0 (by omega) (fun k hk => (h2.1.blkLt k hk).1) h2.2), h2.2⟩, ⟨ownsI_turned h3.1 ht (kB (lo := m1) (hi := m2) (by omega) (by omega) (fun k hk => (h3.1.blkLt k hk).1) h3.2), h3.2⟩, ⟨ownsI_turned h4.1 ht (kB (lo := m2) (hi := m3) (by omega) (by omega) (fun k hk => (h4.1.blkLt k hk).1) h4.2), h4.2⟩, ⟨h5.1.turned ht (kB (lo := m3) (hi := N) (by omega) (by omega) (fun k hk => (h5.1.blkLt k hk).1) h5.2), h5.2⟩, h6⟩
theorem below (h : OwnPt w B N p a) (hb : Below N w w') : OwnPt w' B N p a :=
  h.keep (S := fun k => N ≤ k) ⟨hb.os, hb.tape, hb.output, hb.size, fun k _ hn => hb.block k (by omega)⟩ (fun k hk hB => by have := hB.2; omega)
theorem reads (h : OwnPt w B N p a) : IsPt w N p a := by
  obtain ⟨m0, m1, m2, m3, ⟨c0, c1, c2, c3, c4⟩, h1, h2, h3, h4, h5, h6⟩ := h
  exact ⟨h1.reads.more (by omega), isInts_lower h2.1.reads (fun k hk => by have := h2.2 k hk; omega), isInts_lower h3.1.reads (fun k hk => by have := h3.2 k hk; omega), isInts_lower h4.1.reads (fun k hk => by have := h4.2 k hk; omega), isBytes_lower h5.1.reads h5.2, ⟨h1.room, h1.none_⟩, ownsI_room h2.1, ownsI_room h3.1, ownsI_room h4.1, ownsB_room h5.1, h6⟩
end OwnPt
end Go.Proofs.Ytkmbkihfdilmbaa.Im
namespace Go.Proofs.Ytkmbkihfdilmbaa.Im
open Go Go.RowKit
open Rl (En Lg)
open Qu (Cf)
set_option linter.unusedSectionVars false
variable [Lo]
set_option maxRecDepth 100000
set_option linter.unusedVariables false
attribute [local go_sem ↓] loadAt_hard storeAt_hard
end Go.Proofs.Ytkmbkihfdilmbaa.Im
namespace Go.Proofs.Ytkmbkihfdilmbaa.Im
open Go.RowKit
open Rl (En Lg)
open Qu (Cf)
set_option linter.unusedSectionVars false
variable [Lo]
set_option maxRecDepth 100000
set_option linter.unusedVariables false
def OwnPts (w : World) : Nat → Nat → List (Pt × Ad) → Prop
  | B, N, [] => B ≤ N
  | B, N, q :: l => ∃ m, B ≤ m ∧ OwnPt w B m q.1 q.2 ∧ OwnPts w m N l
theorem OwnPt.le {w : World} {B N : Nat} {p : Pt} {a : Ad} (h : OwnPt w B N p a) : B ≤ N := by
  obtain ⟨m0, m1, m2, m3, ⟨c0, c1, c2, c3, c4⟩, _⟩ := h; omega
namespace OwnPts
variable {w w' : World}
theorem le : ∀ {l : List (Pt × Ad)} {B N : Nat}, OwnPts w B N l → B ≤ N
  | [], _, _, h => h
  | q :: l, _, _, ⟨m, h1, _, h3⟩ => Nat.le_trans h1 (le h3)
theorem kp (hk : Kp Parts w w') : ∀ {l : List (Pt × Ad)} {B N : Nat}, OwnPts w B N l → OwnPts w' B N l
  | [], _, _, h => h
  | q :: l, _, _, ⟨m, h1, h2, h3⟩ => ⟨m, h1, h2.kp hk, kp hk h3⟩
theorem keep {S : Nat → Prop} (ht : Turned S w w') : ∀ {l : List (Pt × Ad)} {B N : Nat}, OwnPts w B N l → (∀ k, S k → ¬ Bl B N k) → OwnPts w' B N l
  | [], _, _, h, _ => h
  | q :: l, _, _, ⟨m, h1, h2, h3⟩, hs => ⟨m, h1, h2.keep ht (fun k hk hB => hs k hk ⟨hB.1, by have := hB.2; have := le h3; omega⟩), keep ht h3 (fun k hk hB => hs k hk ⟨by have := hB.1; omega, hB.2⟩)⟩
theorem wide {l : List (Pt × Ad)} : ∀ {B N B' N' : Nat}, OwnPts w B N l → B' ≤ B → N ≤ N' → OwnPts w B' N' l := by
  induction l with
  | nil => intro B N B' N' h h1 h2; exact Nat.le_trans h1 (Nat.le_trans h h2)
  | cons q l ih => rintro B N B' N' ⟨m, h1, h2, h3⟩ hB hN; exact ⟨m, Nat.le_trans hB h1, h2.wide hB (Nat.le_refl _), ih h3 (Nat.le_refl _) hN⟩
theorem mem {q : Pt × Ad} : ∀ {l : List (Pt × Ad)} {B N : Nat}, OwnPts w B N l → q ∈ l → OwnPt w B N q.1 q.2
  | p :: l, _, _, ⟨m, h1, h2, h3⟩, hq => by
    rcases List.mem_cons.1 hq with rfl | hq
    · exact h2.wide (Nat.le_refl _) (le h3)
    · exact (mem h3 hq).wide h1 (Nat.le_refl _)
end OwnPts
theorem OwnPts.keep_ {w w' : World} {B N : Nat} {l : List (Pt × Ad)} {S : Nat → Prop} (h : OwnPts w B N l) (ht : Turned S w w') (hs : ∀ k, S k → ¬ Bl B N k) : OwnPts w' B N l := OwnPts.keep ht h hs
theorem cellsH_fits (q : Hq) : (cellsH q).length = 10 := rfl
structure OwnHs (w : World) (B N : Nat) (A : Option Addr) (c : Nat) (M : List Hq) : Prop where
  row : RowIn cellsH 10 52 w (Bl B N) A c M
  pts : OwnPts w B N (M.map fun q => (q.h.p, q.a))
  num : ∀ q ∈ M, InInt q.h.g ∧ InInt q.h.t ∧ InInt q.h.v
namespace OwnHs
variable {w w' : World} {B B' N N' : Nat} {A : Option Addr} {c : Nat} {M : List Hq}
theorem nil (w : World) {B N : Nat} (h : B ≤ N) : OwnHs w B N none 0 [] := ⟨RowIn.nil cellsH_fits _ _ _, h, fun q hq => by cases hq⟩
theorem keep {S : Nat → Prop} (h : OwnHs w B N A c M) (ht : Turned S w w') (hs : ∀ k, S k → ¬ Bl B N k) : OwnHs w' B N A c M := ⟨h.row.keep ht (fun k hk hS => hs k hS (h.row.blk k hk)), h.pts.keep_ ht hs, h.num⟩
theorem below (h : OwnHs w B N A c M) (hb : Below N w w') : OwnHs w' B N A c M :=
  h.keep (S := fun k => N ≤ k) ⟨hb.os, hb.tape, hb.output, hb.size, fun k _ hn => hb.block k (by omega)⟩ (fun k hk hB => by have := hB.2; omega)
theorem wide (h : OwnHs w B N A c M) (hB : B' ≤ B) (hN : N ≤ N') : OwnHs w B' N' A c M := ⟨h.row.mono (fun k hk => ⟨Nat.le_trans hB (h.row.blk k hk).1, Nat.lt_of_lt_of_le (h.row.blk k hk).2 hN⟩), h.pts.wide hB hN, h.num⟩
theorem reads (h : OwnHs w B N A c M) : IsHds w N A M := by
  refine ⟨⟨fun k hk => ?_⟩, fun q hq => ?_, h.num⟩
  · obtain ⟨g, hA, hg, hF, hc, _⟩ := h.row.get k hk
    refine ⟨g, 0, hA, hF.2, fun i hi j v hv => ?_⟩
    obtain ⟨g', hA', _, _, hc', _⟩ := h.row.get i hi
    obtain rfl : g = g' := by rw [hA] at hA'; injection hA' with e; injection e
    have hj : j < 10 := (List.getElem?_eq_some_iff.1 hv).1
    rw [Nat.zero_add, hc' j hj]; exact hv
  · exact (OwnPts.mem h.pts (List.mem_map.2 ⟨q, hq, rfl⟩)).reads
end OwnHs
end Go.Proofs.Ytkmbkihfdilmbaa.Im
namespace Go.Proofs.Ytkmbkihfdilmbaa.Im
open Go Go.RowKit
open Rl (En Lg)
open Qu (Cf)
set_option linter.unusedSectionVars false
variable [Lo]
set_option maxRecDepth 100000
set_option linter.unusedVariables false
attribute [local go_sem ↓] loadAt_hard storeAt_hard
end Go.Proofs.Ytkmbkihfdilmbaa.Im
namespace Go.Proofs.Ytkmbkihfdilmbaa.Im
open Go.RowKit
open Rl (En Lg)
open Qu (Cf)
set_option linter.unusedSectionVars false
variable [Lo]
set_option maxRecDepth 100000
set_option linter.unusedVariables false
namespace OwnCs
variable {w w' : World} {B B' N N' : Nat} {A : Option Addr} {c : Nat} {M : List Cq}
end OwnCs
end Go.Proofs.Ytkmbkihfdilmbaa.Im
namespace Go.Proofs.Ytkmbkihfdilmbaa.Im
open Go.RowKit
open Rl (En Lg)
open Qu (Cf)
set_option linter.unusedSectionVars false
variable [Lo]
set_option maxRecDepth 100000
set_option linter.unusedVariables false
structure Ia where
  h : Option Addr
  ch : Nat
  v : Option Addr
  cv : Nat
namespace OwnIm
variable {w w' : World} {B B' N N' : Nat} {i : Ia} {Q : List Hq} {L : List Vt}
end OwnIm
end Go.Proofs.Ytkmbkihfdilmbaa.Im
namespace Go.Proofs.Ytkmbkihfdilmbaa.Im
open Go Go.RowKit
open Rl (En Lg)
open Qu (Cf)
set_option maxRecDepth 100000
set_option linter.unusedVariables false
attribute [local go_sem ↓] loadAt_hard storeAt_hard loadAt_log1 storeAt_log1 loadAt_conf3 storeAt_conf3
structure FewK (p : Pt) : Prop where
  es : p.log.es.length ≤ 90000
  sh : Short p.cf
end Go.Proofs.Ytkmbkihfdilmbaa.Im
namespace Go.Proofs.Ytkmbkihfdilmbaa.Im
open Go.RowKit
set_option maxRecDepth 100000
def over (xs : List Value) : Nat → List Value → List Value
  | _, [] => xs
  | o, v :: vs => over (xs.set o v) (o + 1) vs
theorem over_get : ∀ (vs xs : List Value) (o j : Nat), o + vs.length ≤ xs.length → (over xs o vs)[j]? = if o ≤ j ∧ j < o + vs.length then vs[j - o]? else xs[j]?
  | [], xs, o, j, _ => by rw [if_neg (by simp only [List.length_nil]; omega)]; rfl
  | v :: vs, xs, o, j, h => by
    simp only [List.length_cons] at h
    show (over (xs.set o v) (o + 1) vs)[j]? = _
    rw [over_get vs _ (o + 1) j (by rw [List.length_set]; omega)]
    by_cases h1 : o = j
    · subst h1
      rw [if_neg (by omega), if_pos (by simp), Nat.sub_self, List.getElem?_set_self (by omega)]
      rfl
    · by_cases h2 : o + 1 ≤ j ∧ j < o + 1 + vs.length
      · rw [if_pos h2, if_pos (by simp; omega), show j - o = (j - (o + 1)) + 1 by omega]
        rfl
      · rw [if_neg h2, if_neg (by simp; omega), List.getElem?_set_ne h1]
theorem over_flat {α : Type} (f : α → List Value) (n : Nat) (hf : ∀ x, (f x).length = n) (L : List α) (i : Nat) (hi : i < L.length) (x' : α) : over (L.flatMap f) (i * n) (f x') = (L.set i x').flatMap f := by
  have hle : i * n + n ≤ L.length * n := by
    have := Nat.mul_le_mul_right n (show i + 1 ≤ L.length by omega)
    rw [Nat.succ_mul] at this
    exact this
  have hl1 := flat_len f n hf L
  have hl2 := flat_len f n hf (L.set i x')
  rw [List.length_set] at hl2
  apply List.ext_getElem?
  intro j
  rw [over_get _ _ _ _ (by rw [hf, hl1]; exact hle), hf]
  by_cases hj : j < L.length * n
  · have hn : 0 < n := by
      rcases Nat.eq_zero_or_pos n with e | e
      · rw [e, Nat.mul_zero] at hj; omega
      · exact e
    have hq : j / n < L.length := Nat.div_lt_of_lt_mul (by rw [Nat.mul_comm]; exact hj)
    have hr : j % n < n := Nat.mod_lt _ hn
    have hjk : j = j / n * n + j % n := by rw [Nat.mul_comm]; exact (Nat.div_add_mod j n).symm
    have g1 := flat_get f n hf L (j / n) hq (j % n) hr
    have g2 := flat_get f n hf (L.set i x') (j / n) (by rw [List.length_set]; exact hq) (j % n) hr
    rw [← hjk] at g1 g2
    rw [g1, g2]
    by_cases e : j / n = i
    · have hb1 : i * n ≤ j := by rw [← e]; omega
      have hb2 : j < i * n + n := by rw [← e]; omega
      rw [if_pos ⟨hb1, hb2⟩]
      have e3 : j - i * n = j % n := by rw [← e]; omega
      rw [e3]
      congr 2
      subst e
      rw [List.getElem_set_self]
    · rw [if_neg ?_]
      · rw [List.getElem_set_ne (fun h => e h.symm)]
      · rintro ⟨h1, h2⟩
        apply e
        have a1 : i ≤ j / n := (Nat.le_div_iff_mul_le hn).2 h1
        have a2 : j / n < i + 1 := Nat.div_lt_of_lt_mul (by rw [Nat.mul_comm, Nat.succ_mul]; exact h2)
        omega
  · rw [if_neg (by omega), List.getElem?_eq_none (by omega), List.getElem?_eq_none (by omega)]
theorem stored_all {base n cap g : Nat} {e : TypeId} {size : Nat} : ∀ (vs xs : List Value) (w : World) (o : Nat), w.ownsRow base e size (.slice (some ⟨g, 0, none⟩) n cap) n xs → (w.setCells g o vs).ownsRow base e size (.slice (some ⟨g, 0, none⟩) n cap) n (over xs o vs)
  | [], _, _, _, h => h
  | v :: vs, xs, w, o, h => stored_all vs (xs.set o v) (w.setCell ⟨g, o, none⟩ v) (o + 1) (h.stored o v).1
section
variable {α : Type} {f : α → List Value} {size : Nat} {e : TypeId} {w : World} {F : Nat → Prop} {c g : Nat} {L : List α}
theorem RowIn.setAll (h : RowIn f size e w F (some ⟨g, 0, none⟩) c L) (i : Nat) (hi : i < L.length) (x' : α) : RowIn f size e (w.setCells g (i * size) (f x')) F (some ⟨g, 0, none⟩) c (L.set i x') := by
  refine ⟨h.fits, ?_, h.blk⟩
  rw [List.length_set, ← over_flat f size h.fits L i hi x']
  exact stored_all _ _ _ _ h.row
theorem RowIn.there (h : RowIn f size e w F (some ⟨g, 0, none⟩) c L) (i : Nat) (hi : i < L.length) : w.there g (i * size) size := fun j hj => by
  obtain ⟨g', hA, _, _, hc, hf⟩ := h.get i hi
  obtain rfl : g = g' := by injection hA with e; injection e
  refine ⟨?_, hf _⟩
  rw [hc j hj, List.getElem?_eq_getElem (by rw [h.fits]; exact hj)]
  rfl
theorem RowIn.range (h : RowIn f size e w F (some ⟨g, 0, none⟩) c L) (i : Nat) (hi : i < L.length) : w.rangeAt g (i * size) (f L[i]) := fun j v hv => by
  obtain ⟨g', hA, _, _, hc, hf⟩ := h.get i hi
  obtain rfl : g = g' := by injection hA with e; injection e
  have hj : j < size := by have := (List.getElem?_eq_some_iff.1 hv).1; rwa [h.fits] at this
  rw [hc j hj]; exact hv
end
theorem stAt {t : TypeId} {n : Nat} (hi : (Try.prog.info? t).map (·.size) = some n) {w : World} {b o : Nat} (ht : w.there b o n) (cs : Array Value) (hn : cs.size = n) (h1 : cs.all (·.oneCell') = true) : (stX t (.pointer (some ⟨b, o, none⟩)) (.agg cs)).run Try.prog w = .ok () (w.setCells b o cs.toList) :=
  run_storeAt_mid w b o t cs (hn ▸ ht) (by rw [hi, hn]) h1
end Go.Proofs.Ytkmbkihfdilmbaa.Im
namespace Go.Proofs.Ytkmbkihfdilmbaa.Im
open Go.RowKit
set_option maxRecDepth 100000
set_option linter.unusedVariables false
end Go.Proofs.Ytkmbkihfdilmbaa.Im
namespace Go.Proofs.Ytkmbkihfdilmbaa.Im
open Go.RowKit
open Rl (En Lg)
set_option maxRecDepth 100000
set_option linter.unusedVariables false
theorem loadAt_entry1 (a : Value) : Instr.loadAt 64 a = ldX 64 a := rfl
theorem storeAt_entry1 (a v : Value) : Instr.storeAt 64 a v = stX 64 a v := rfl
attribute [local go_sem ↓] loadAt_entry1 storeAt_entry1
end Go.Proofs.Ytkmbkihfdilmbaa.Im
namespace Go.Proofs.Ytkmbkihfdilmbaa.Im
open Go.RowKit
open Rl (En Lg)
set_option maxRecDepth 100000
set_option linter.unusedVariables false
attribute [local go_sem ↓] loadAt_entry1 storeAt_entry1
theorem isEnts_row {w : World} {B : Nat} {A : Option Addr} {L : List En} (h : IsEnts w B A L) : ∃ M : List El, M.map (·.e) = L ∧ Reads w B M ∧ IsRow cellsE 3 w B A M := by
  obtain ⟨M, h1, h2, h3⟩ := h.flat
  refine ⟨M, h1, h2, ⟨fun k hk => ?_⟩⟩
  have hkL : k < L.length := by rw [← h1, List.length_map]; exact hk
  obtain ⟨b, off, e, hb, _⟩ := h.cells k hkL
  refine ⟨b, off, e, hb, fun i hi j v hv => ?_⟩
  have hj : j < 3 := (List.getElem?_eq_some_iff.1 hv).1
  have h4 := h3 ⟨b, off, none⟩ e (i * 3 + j) v (by rw [flat_get cellsE 3 (fun _ => rfl) M i hi j hj]; exact hv)
  rw [add_off, ← Nat.add_assoc] at h4
  exact h4
def Chain {α : Type} (R : Nat → Nat → α → Prop) : Nat → Nat → List α → Prop
  | B, N, [] => B ≤ N
  | B, N, q :: l => ∃ m, B ≤ m ∧ R B m q ∧ Chain R m N l
section
variable {α : Type} {R R' : Nat → Nat → α → Prop}
theorem Chain.le : ∀ {l : List α} {B N : Nat}, Chain R B N l → B ≤ N
  | [], _, _, h => h
  | _ :: _, _, _, ⟨_, h1, _, h3⟩ => Nat.le_trans h1 (Chain.le h3)
theorem Chain.imp (h : ∀ a b x, R a b x → R' a b x) : ∀ {l : List α} {B N : Nat}, Chain R B N l → Chain R' B N l
  | [], _, _, h0 => h0
  | _ :: _, _, _, ⟨m, h1, h2, h3⟩ => ⟨m, h1, h _ _ _ h2, Chain.imp h h3⟩
theorem Chain.mem {q : α} : ∀ {l : List α} {B N : Nat}, Chain R B N l → q ∈ l → ∃ a b, B ≤ a ∧ b ≤ N ∧ R a b q
  | _ :: _, _, _, ⟨m, h1, h2, h3⟩, hq => by
    rcases List.mem_cons.1 hq with rfl | hq
    · exact ⟨_, m, Nat.le_refl _, Chain.le h3, h2⟩
    · obtain ⟨a, b, q1, q2, q3⟩ := Chain.mem h3 hq
      exact ⟨a, b, by omega, q2, q3⟩
end
def OwnEl (w : World) (B N : Nat) (q : El) : Prop := OwnsB 5 w B q.A q.c q.e.d ∧ ∀ k, blk q.A = some k → k < N
structure EvE (w : World) (lo : Nat) (A : Option Addr) (c : Nat) (M : List El) (k : Nat) (W : World) (M1 : List El) : Prop where
  len : M1.length = k
  row : RowIn cellsE 3 64 W (fun k => w.heap.size ≤ k) A c (M1 ++ M.drop k)
  ch : Chain (OwnEl W) lo W.heap.size M1
  val : M1.map (·.e) = (M.map (·.e)).take k
  bel : Below w.heap.size w W
  lo : w.heap.size ≤ lo
end Go.Proofs.Ytkmbkihfdilmbaa.Im
