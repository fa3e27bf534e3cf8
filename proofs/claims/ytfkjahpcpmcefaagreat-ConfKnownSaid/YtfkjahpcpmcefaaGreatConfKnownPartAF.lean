/- Texts of the proof, one behind the other: RefReader4, RfGetA, RfGetB, RfGetE, CfOg, RlL, RlT, Clone, RlOwn, RlU, ImSince, KitEnEq, KitSame, KitEnCopy, KitLog, KitHard, ImRows, ImSet, ImOwnE, EntsMore, ImEachE, ImEach2, ImOwnHard, ImChg, ImChg3, ImBsH, ImOwnH, ImPlH, ImBsV, ImOwnV, ImPlV, ImEachH, ImOwnIm, ImApply, ImApplyB, PackInt, KitBytes, PackBlob, PackPut, ImPutA, ImPutB, ImPutC, ImPutD, ImPutE, ImPutF, ImPutG, ImPutH, ImPutI, ImFirst, ImKnown, BigEn, ImFew, ImCopy. -/
import Derived.Test.YtfkjahpcpmcefaaGreatConfKnownPartAE
import Derived.Test.YtfkjahpcpmcefaaGreatConfKnownPartAB
import Derived.Test.YtfkjahpcpmcefaaGreatConfKnownPartAD
import Derived.Test.YtfkjahpcpmcefaaGreatConfKnownPartAC
import Derived.Test.YtfkjahpcpmcefaaGreatConfKnownPartAA
import Derived.StillTailTactics
import Derived.Deep.QuietTactic
import Derived.BigQuiet
import Derived.Handy
import Derived.Test.YtfkjahpcpmcefaaGreatRows
import Derived.Lib.SliceRun
import Derived.Deep.RegionHeld3
import Derived.Laws.AppendOwnNone
import Derived.Lib.AppendZeros
import Derived.ArgAppend
import Derived.OwnWalk
import Derived.Deep.CutRange
namespace Go.Proofs.YtfkjahpcpmcefaaGreat
open Go.RowKit
set_option maxRecDepth 100000
set_option maxHeartbeats 1600000 in
theorem refRInts_any (g top : Nat) (B : List Nat) (at' : Nat) (bad : Bool) (w : World) (h : RefR w g top B at' bad) :
    Calls Tryz.prog 96 #[.pointer (some ⟨g, 0, none⟩)] w fun e w' => ∃ a2 b2 A' c', e = .returned (.slice A' (Pk.rdInts (stOf B at' bad)).1.length c') ∧ OwnsI 3 w' w.heap.size A' c' (Pk.rdInts (stOf B at' bad)).1 ∧
      RefR w' g top B a2 b2 ∧ stOf B a2 b2 = (Pk.rdInts (stOf B at' bad)).2 ∧ w.grownBy w' (some g) := by
  obtain ⟨i0, hi, hz0, hz1, hz2⟩ := info_parts I.info_int
  have hgt := h.top_
  rcases stOf_cases B at' bad with hl | ⟨rfl, hl⟩
  · have HE : Hid (Pk.rdInts (stOf B at' bad) = ([], Pk.gone)) := by
      show _ = _
      unfold Pk.rdInts; rw [stOf_short B at' bad hl]; rfl
    have HI := hid (refRInt_short g top B at' bad w h hl)
    clear h hl
    go_enter Tryz.func96, Tryz.ntmps96
    go_wp2_with fail
    refine HI.out.mono ?_
    rintro e w1 ⟨rfl, hR, hG⟩
    obtain ⟨A, c, hc0, hc1, hc2, _, hc⟩ := hR.cells
    have hf2 := hR.free 2
    have HB := hid (hR.setBad true)
    clear hR
    go_wp2_with fail
    go_ret
    rw [HE.out]
    exact ⟨at', true, none, 0, rfl, OwnsI.nil _ _ _, HB.out.1, rfl, hG.trans HB.out.2⟩
  · have HI := hid (refRInt_long g top B at' w h hl)
    have HBL : Hid (Pk.rdInt (stOf B at' false) = (Pk.sgn (Pk.num ((B.drop at').take 8)), stOf B (at' + 8) false)) := stOf_long B at' hl
    have hsm := h.cells
    obtain ⟨_, _, _, _, _, hbs, _⟩ := hsm
    have hvin := Pk.sgn_in _ (Pk.take_num_lt (B.drop at') (fun x hx => hbs.small x (List.mem_of_mem_drop hx)))
    have hsmall := hbs.small
    have HSM := hid hsmall
    have hsh := h.short
    clear h hbs hsmall
    obtain ⟨v, hv⟩ : ∃ v, v = Pk.sgn (Pk.num ((B.drop at').take 8)) := ⟨_, rfl⟩
    rw [← hv] at HI HBL hvin
    clear hv
    have hv1 := hvin.1
    have hv2 := hvin.2
    have hll : (leftOf B (at' + 8) false).length = B.length - (at' + 8) := by simp [leftOf]
    have HLL := hid hll
    clear hvin hll
    by_cases hneg : v < 0
    · have HE : Hid (Pk.rdInts (stOf B at' false) = ([], Pk.gone)) := by
        show _ = _
        unfold Pk.rdInts; rw [HBL.out, if_pos (Or.inr (Or.inl hneg))]
      go_enter Tryz.func96, Tryz.ntmps96
      go_wp2_with fail
      refine HI.out.mono ?_
      rintro e w1 ⟨rfl, hR, hG⟩
      obtain ⟨A, c, hc0, hc1, hc2, _, hc⟩ := hR.cells
      have hf2 := hR.free 2
      have HB := hid (hR.setBad true)
      clear hR
      go_wp2_with fail
      go_ret
      rw [HE.out]
      exact ⟨_, true, none, 0, rfl, OwnsI.nil _ _ _, HB.out.1, rfl, hG.trans HB.out.2⟩
    · obtain ⟨m, rfl⟩ : ∃ m : Nat, v = (m : Int) := ⟨v.toNat, by omega⟩
      by_cases hbig : (B.length - (at' + 8)) / 8 < m
      · have HE : Hid (Pk.rdInts (stOf B at' false) = ([], Pk.gone)) := by
          show _ = _
          unfold Pk.rdInts; rw [HBL.out, if_pos (Or.inr (Or.inr (by show (((leftOf B (at' + 8) false).length : Nat) : Int) / 8 < _; rw [HLL.out]; omega)))]
        go_enter Tryz.func96, Tryz.ntmps96
        go_wp2_with fail
        refine HI.out.mono ?_
        rintro e w1 ⟨rfl, hR, hG⟩
        obtain ⟨A, c, hc0, hc1, hc2, _, hc⟩ := hR.cells
        have HL := hid (refLeft_any g top B (at' + 8) false w1 hR)
        have HR := hid hR
        clear hR
        go_wp2_with fail
        refine HL.out.mono ?_
        rintro e w2 ⟨rfl, n, rfl⟩
        rw [HLL.out]
        have hf2 := (HR.out.drewN n).free 2
        have HB := hid ((HR.out.drewN n).setBad true)
        go_wp2_with fail
        go_ret
        rw [HE.out]
        exact ⟨_, true, none, 0, rfl, OwnsI.nil _ _ _, HB.out.1, rfl, (grown_drewN hG n).trans HB.out.2⟩
      · have HE : Hid (Pk.rdInts (stOf B at' false) = (Pk.nums m (B.drop (at' + 8)), stOf B (at' + 8 + 8 * m) false)) := by
          show _ = _
          unfold Pk.rdInts; rw [HBL.out, if_neg (by
            rintro (h | h | h)
            · simp [stOf] at h
            · omega
            · have h2 : (((leftOf B (at' + 8) false).length : Nat) : Int) / 8 < (m : Int) := h
              rw [HLL.out] at h2; omega)]
          simp [stOf, leftOf]
        have hm8 : at' + 8 + 8 * m ≤ B.length := by omega
        go_enter Tryz.func96, Tryz.ntmps96
        go_wp2_with fail
        refine HI.out.mono ?_
        rintro e w1 ⟨rfl, hR, hG⟩
        obtain ⟨A, c, hc0, hc1, hc2, _, hc⟩ := hR.cells
        have HL := hid (refLeft_any g top B (at' + 8) false w1 hR)
        have HR := hid hR
        have hsz1 := hG.size
        have HG := hid hG
        clear hR hG
        go_wp2_with fail
        refine HL.out.mono ?_
        rintro e w2 ⟨rfl, n, rfl⟩
        rw [HLL.out]
        go_wp2_with fail
        go_loopw [4, 5] (fun b i wr => ∃ k : Nat, ∃ A5 : Option Addr, ∃ c5 : Nat, k ≤ m ∧ i = .int .i64 k ∧ b = .slice A5 k c5 ∧ OwnsI 3 wr w.heap.size A5 c5 (Pk.nums k (B.drop (at' + 8))) ∧ RefR wr g top B (at' + 8 + 8 * k) false ∧ w.grownBy wr (some g)) (fun _ i _ => m - (RowKit.intOf i).toNat)
        case atStart => exact ⟨0, none, 0, by omega, rfl, rfl, OwnsI.nil _ _ _, HR.out.drewN n, grown_drewN HG.out n⟩
        case round =>
          clear hc0 hc1 hc2 HR HG HI HL hc
          obtain ⟨k, A5, c5, hk, rfl, rfl, hown, hR, hG⟩ := hrel
          by_cases hlt : k < m
          · have C := refRInt_long g top B (at' + 8 + 8 * k) wr hR (by omega)
            have hv : InInt (Pk.sgn (Pk.num ((B.drop (at' + 8 + 8 * k)).take 8))) := Pk.sgn_in _ (Pk.take_num_lt _ (fun x hx => HSM.out x (List.mem_of_mem_drop hx)))
            have hnum : Pk.nums k (B.drop (at' + 8)) ++ [Pk.sgn (Pk.num ((B.drop (at' + 8 + 8 * k)).take 8))] = Pk.nums (k + 1) (B.drop (at' + 8)) := by rw [Pk.nums_snoc, List.drop_drop]
            have HC := hid C
            obtain ⟨v, hveq⟩ : ∃ v, v = Pk.sgn (Pk.num ((B.drop (at' + 8 + 8 * k)).take 8)) := ⟨_, rfl⟩
            rw [← hveq] at HC hv hnum
            have HN := hid hnum
            have hgw := hG.size
            clear C hR hnum hveq
            go_wp2_with fail
            refine HC.out.mono ?_
            rintro e w3 ⟨rfl, hR3, hG3⟩
            have hown3 : OwnsI 3 w3 w.heap.size A5 c5 (Pk.nums k (B.drop (at' + 8))) := hown.grown hG3 (fun j hj => by injection hj with hj; omega)
            have hG4 : w.grownBy w3 (some g) := hG.trans hG3
            have hsz := hG4.size
            clear hown hG hG3
            go_wp2_with (at_builtin; refine wpList_append_intN rfl _ _ 22 rfl w.heap.size 3 i0 Tryz.underlying22 hi hz0 hz1 hz2 A5 c5 (Pk.nums k (B.drop (at' + 8))) k (Pk.nums_length _ _) rfl (hown3.alloc _) ⟨w3.heap.size, 0, none⟩ 1 v hv rfl ?c1 (Pk.nums (k + 1) (B.drop (at' + 8))) HN.out (by omega) ?c2 ?_)
            case c1 => simp
            case c2 => simp; omega
            intro A6 c6 w4 hown4 hgr4
            have hb4 : Below w.heap.size w3 w4 := ((Below.refl _ _).alloc hsz _).trans hgr4
            have HO := hid (And.intro hown4 (And.intro (hR3.belowB hb4 hgt.2) (grown_then hG4 hb4)))
            have HQ : Hid (at' + 8 + 8 * (k + 1) = at' + 8 + 8 * k + 8) := by show _ = _; omega
            clear hown4 hgr4 hb4 hown3 hG4 hR3
            go_wp2_with fail
            go_roundw
            case rel => exact ⟨k + 1, A6, c6, by omega, by go_num, rfl, HO.out.1, by rw [HQ.out]; exact HO.out.2.1, HO.out.2.2⟩
            case measure => simp [RowKit.intOf] <;> omega
          · obtain rfl : k = m := by omega
            clear hlt hk
            go_wp2_with fail
            go_ret
            rw [HE.out]
            exact ⟨_, _, A5, c5, ret_len (Pk.nums_length _ _).symm, hown, hR, rfl, hG⟩
end Go.Proofs.YtfkjahpcpmcefaaGreat
namespace Go.Proofs.YtfkjahpcpmcefaaGreat.Im
open Go Go.RowKit
open Rl (En Lg)
open Qu (Cf)
open Pk (enc encs rdInt rdInts rdBlob St)
set_option maxRecDepth 100000
set_option linter.unusedVariables false
local instance lo20 : Lo := ⟨0⟩
structure Rg (w W : World) (g top : Nat) (B : List Nat) (a : Nat) (b : Bool) (b1 : Nat) (c1 : Array Value) (t : TypeId) (b3 : Nat) (c3 : Array Value) : Prop where
  rd : RefR W g top B a b
  gr : w.grownBy W (some g)
  r1 : W.heap[b1]? = some (.cells c1 t (0, 0))
  r3 : W.heap[b3]? = some (.cells c3 t (0, 0))
  lt : w.heap.size ≤ b1 ∧ b1 < b3 ∧ top ≤ w.heap.size
namespace Rg
variable {w W W' : World} {g top a a2 : Nat} {B : List Nat} {b b2 : Bool} {b1 b3 : Nat} {c1 c3 : Array Value} {t : TypeId}
theorem row_lt' {k : Nat} {o : Obj} (h : W.heap[k]? = some o) : k < W.heap.size := (Array.getElem?_eq_some_iff.1 h).1
theorem call (h : Rg w W g top B a b b1 c1 t b3 c3) (hr : RefR W' g top B a2 b2) (hg : W.grownBy W' (some g)) : Rg w W' g top B a2 b2 b1 c1 t b3 c3 := by
  have hl := h.lt
  have ht := h.rd.top_
  exact ⟨hr, grown_trans h.gr hg (fun k e _ => e), (hg.block _ (row_lt' h.r1) (fun e => by injection e; omega)).trans h.r1, (hg.block _ (row_lt' h.r3) (fun e => by injection e; omega)).trans h.r3, h.lt⟩
theorem set (h : Rg w W g top B a b b1 c1 t b3 c3) (k : Nat) (u : Value) : Rg w (W.setCell ⟨b3, k, none⟩ u) g top B a b b1 c1 t b3 (c3.setIfInBounds k u) := by
  have hl := h.lt
  have hg := grown_setCell W b3 k u
  exact ⟨h.rd.other hg (fun j e => by injection e; omega), grown_trans h.gr hg (fun j e hj => by injection e; omega), (hg.block _ (row_lt' h.r1) (fun e => by injection e; omega)).trans h.r1, row_set h.r3 k u, h.lt⟩
theorem last (h : Rg w W g top B a b b1 c1 t b3 c3) (L : List Value) (hL : L.length = c1.size) : RefR (W.setCells b1 0 L) g top B a b ∧ w.grownBy (W.setCells b1 0 L) (some g) ∧ (W.setCells b1 0 L).heap[b1]? = some (.cells L.toArray t (0, 0)) := by
  have hl := h.lt
  have hT := turned_setCells b1 L W 0
  have hg : W.grownBy (W.setCells b1 0 L) (some b1) := ⟨hT.os, hT.tape, hT.output, hT.size, fun k hk hn => hT.block k hk (fun e => hn (by rw [e]))⟩
  exact ⟨h.rd.other hg (fun j e => by injection e; omega), grown_trans h.gr hg (fun j e hj => by injection e; omega), setCells_all h.r1 L hL⟩
end Rg
theorem Rg.new {w w1 w2 w3 : World} {g top a a2 : Nat} {B : List Nat} {b b2 : Bool} {c1 c3 : Array Value} {t : TypeId} (h0 : RefR w g top B a b) (hw1 : w1 = w.alloc (.cells c1 t)) (hr : RefR w2 g top B a2 b2) (hg : w1.grownBy w2 (some g)) (hw3 : w3 = w2.alloc (.cells c3 t)) : Rg w w3 g top B a2 b2 w.heap.size c1 t w2.heap.size c3 := by
  have ht := h0.top_
  have z1 : w1.heap.size = w.heap.size + 1 := by rw [hw1]; simp
  have z2 := hg.size
  have b12 : Below w.heap.size w w1 := by rw [hw1]; exact (Below.refl _ _).alloc (Nat.le_refl _) _
  have b23 : Below w2.heap.size w2 w3 := by rw [hw3]; exact (Below.refl _ _).alloc (Nat.le_refl _) _
  have r1 : w1.heap[w.heap.size]? = some (.cells c1 t (0, 0)) := by rw [hw1]; exact heap_alloc_new _ _
  have g12 : w.grownBy w2 (some g) := grown_trans (grown_below b12 (some g)) hg (fun k e _ => e)
  have r12 : w2.heap[w.heap.size]? = some (.cells c1 t (0, 0)) := (hg.block _ (by omega) (fun e => by injection e; omega)).trans r1
  exact ⟨hr.below b23, grown_then g12 (b23.mono (by have := g12.size; omega)), (b23.block _ (by omega)).trans r12, by rw [hw3]; exact heap_alloc_new _ _, ⟨Nat.le_refl _, by omega, by omega⟩⟩
theorem refR_new {w w1 : World} {g top a : Nat} {B : List Nat} {b : Bool} (h : RefR w g top B a b) (o : Obj) (hw1 : w1 = w.alloc o) : RefR w1 g top B a b := h.below (by rw [hw1]; exact (Below.refl _ _).alloc (Nat.le_refl _) _)
end Go.Proofs.YtfkjahpcpmcefaaGreat.Im
namespace Go.Proofs.YtfkjahpcpmcefaaGreat.Im
open Go Go.RowKit
open Rl (En Lg)
open Qu (Cf)
open Pk (enc encs rdInt rdInts rdBlob St)
set_option maxRecDepth 100000
set_option linter.unusedVariables false
local instance lo21 : Lo := ⟨0⟩
attribute [local go_sem ↓] loadAt_conf3 storeAt_conf3
set_option maxHeartbeats 6400000 in
theorem rgConf_any (g top : Nat) (B : List Nat) (a : Nat) (b : Bool) (w : World) (h : RefR w g top B a b) :
    Calls Tryz.prog 83 #[.pointer (some ⟨g, 0, none⟩)] w fun e w' => ∃ a2 b2 A0 A1 A2 c0 c1 c2, e = .returned (.agg #[.slice A0 (rdCf (stOf B a b)).1.old.length c0, .slice A1 (rdCf (stOf B a b)).1.new.length c1, .slice A2 (rdCf (stOf B a b)).1.lrn.length c2]) ∧ (OwnsI 3 w' w.heap.size A0 c0 (rdCf (stOf B a b)).1.old ∧ OwnsI 3 w' w.heap.size A1 c1 (rdCf (stOf B a b)).1.new ∧ OwnsI 3 w' w.heap.size A2 c2 (rdCf (stOf B a b)).1.lrn) ∧ RefR w' g top B a2 b2 ∧ stOf B a2 b2 = (rdCf (stOf B a b)).2 ∧ w.grownBy w' (some g) := by
  obtain ⟨w1, hw1⟩ : ∃ w1, w1 = w.alloc (.cells #[.slice none 0 0, .slice none 0 0, .slice none 0 0] 24) := ⟨_, rfl⟩
  have HP := hid (refRInts_any g top B a b w1 (refR_new h _ hw1))
  have HH := hid h
  have HZ := hid (show w1.heap.size = w.heap.size + 1 by rw [hw1]; simp)
  clear h
  go_enter Tryz.func83, Tryz.ntmps83
  go_wp2_with fail
  rw [← hw1]
  refine HP.out.mono ?_
  rintro e v0 ⟨a0, b0, A0, c0, rfl, ho0, hr0, hs0, hg0⟩
  obtain ⟨x0, hx0⟩ : ∃ x, (rdInts (stOf B a b)).1 = x := ⟨_, rfl⟩
  rw [hx0] at ho0
  rw [hx0]
  obtain ⟨n0, hn0⟩ : ∃ n, x0.length = n := ⟨_, rfl⟩
  rw [hn0]
  obtain ⟨w2, hw2⟩ : ∃ w2, w2 = v0.alloc (.cells #[.slice A0 n0 c0, .slice none 0 0, .slice none 0 0] 24) := ⟨_, rfl⟩
  have hst := stNew v0 24 3 info_conf33 #[.slice none 0 0, .slice none 0 0, .slice none 0 0] #[.slice A0 n0 c0, .slice none 0 0, .slice none 0 0] rfl rfl (by simp [Value.oneCell'])
  have R := Rg.new HH.out hw1 hr0 hg0 hw2
  obtain ⟨b1, hb1⟩ : ∃ b, b = w.heap.size := ⟨_, rfl⟩
  obtain ⟨b3, hb3⟩ : ∃ b, b = v0.heap.size := ⟨_, rfl⟩
  rw [← hb1, ← hb3] at R
  have T0 : Hid (Turned (fun k => k = g ∨ k = b1 ∨ k = b3) v0 w2) := hid (by rw [hw2]; exact (Turned.refl _ v0).alloc _)
  have HBB := hid (And.intro hb1 (And.intro hb3 (show w2.heap.size = v0.heap.size + 1 by rw [hw2]; simp)))
  have O0 := hid ho0
  have H0 := hid R
  have S0 := hid (And.intro hx0 (And.intro hs0 hn0))
  have HP0 := hid (refRInts_any g top B a0 b0 w2 R.rd)
  clear ho0 hr0 hg0 hw1 hx0 hs0 hn0 R HP
  go_wp2_with fail
  rw [← hw2, ← hb1, ← hb3]
  clear hw2 hb1 hb3 hst
  refine HP0.out.mono ?_
  rintro e v1 ⟨a1, b1', A1, c1, rfl, ho, hr, hs, hg⟩
  obtain ⟨x1, hx⟩ : ∃ x, (rdInts (stOf B a0 b0)).1 = x := ⟨_, rfl⟩
  rw [hx] at ho
  rw [hx]
  obtain ⟨n1, hn⟩ : ∃ n, x1.length = n := ⟨_, rfl⟩
  rw [hn]
  have R := H0.out.call hr hg
  have z := row_free R.r3 1
  have c := row_cell R.r3 1
  obtain ⟨u1, hu⟩ : ∃ u, u = v1.setCell ⟨b3, 1, none⟩ (.slice A1 n1 c1) := ⟨_, rfl⟩
  have H1 : Hid (Rg w u1 g top B a1 b1' b1 #[.slice none 0 0, .slice none 0 0, .slice none 0 0] 24 b3 #[.slice A0 n0 c0, .slice A1 n1 c1, .slice none 0 0]) := hid (by rw [hu]; exact R.set 1 _)
  have T1 : Hid (Turned (fun k => k = g ∨ k = b1 ∨ k = b3) v1 u1) := hid (by rw [hu]; exact (Turned.refl _ v1).setCell b3 1 _ (fun _ => .inr (.inr rfl)))
  have G1 : Hid (Turned (fun k => k = g ∨ k = b1 ∨ k = b3) w2 v1) := hid (Turned.ofGrown hg (fun k e => by injection e with e; exact .inl e.symm))
  have O1 := hid ho
  have S1 := hid (And.intro hx (And.intro hs hn))
  have HP1 := hid (refRInts_any g top B a1 b1' u1 H1.out.rd)
  clear ho hr hs hg hx hn R HP0
  go_wp2_with fail
  rw [← hu]
  clear hu z c
  refine HP1.out.mono ?_
  rintro e v2 ⟨a2, b2', A2, c2, rfl, ho, hr, hs, hg⟩
  obtain ⟨x2, hx⟩ : ∃ x, (rdInts (stOf B a1 b1')).1 = x := ⟨_, rfl⟩
  rw [hx] at ho
  rw [hx]
  obtain ⟨n2, hn⟩ : ∃ n, x2.length = n := ⟨_, rfl⟩
  rw [hn]
  have R := H1.out.call hr hg
  have z := row_free R.r3 2
  have c := row_cell R.r3 2
  obtain ⟨u2, hu⟩ : ∃ u, u = v2.setCell ⟨b3, 2, none⟩ (.slice A2 n2 c2) := ⟨_, rfl⟩
  have H2 : Hid (Rg w u2 g top B a2 b2' b1 #[.slice none 0 0, .slice none 0 0, .slice none 0 0] 24 b3 #[.slice A0 n0 c0, .slice A1 n1 c1, .slice A2 n2 c2]) := hid (by rw [hu]; exact R.set 2 _)
  have T2 : Hid (Turned (fun k => k = g ∨ k = b1 ∨ k = b3) v2 u2) := hid (by rw [hu]; exact (Turned.refl _ v2).setCell b3 2 _ (fun _ => .inr (.inr rfl)))
  have G2 : Hid (Turned (fun k => k = g ∨ k = b1 ∨ k = b3) u1 v2) := hid (Turned.ofGrown hg (fun k e => by injection e with e; exact .inl e.symm))
  have O2 := hid ho
  have S2 := hid (And.intro hx (And.intro hs hn))
  have ld := ldRow info_conf33 Tryz.underlying24 rfl H2.out.r3 rfl
  have st := stThere info_conf33 u2 b1 #[.slice A0 n0 c0, .slice A1 n1 c1, .slice A2 n2 c2] (show u2.there b1 0 3 from there_row H2.out.r1) rfl (by simp [Value.oneCell'])
  rw [hu] at ld st
  clear ho hr hs hg hx hn R HP1
  go_wp2_with fail
  rw [← hu]
  clear hu z c ld st
  have HR := hid (H2.out.last [.slice A0 n0 c0, .slice A1 n1 c1, .slice A2 n2 c2] rfl)
  have HM : Hid (rdCf (stOf B a b) = (⟨x0, x1, x2⟩, stOf B a2 b2')) := hid (by
    unfold rdCf rdM rdP
    simp only [S0.out.1, ← S0.out.2.1, S1.out.1, ← S1.out.2.1, S2.out.1, ← S2.out.2.1])
  have HO : Hid (OwnsI 3 (u2.setCells b1 0 [.slice A0 n0 c0, .slice A1 n1 c1, .slice A2 n2 c2]) w.heap.size A0 c0 x0 ∧ OwnsI 3 (u2.setCells b1 0 [.slice A0 n0 c0, .slice A1 n1 c1, .slice A2 n2 c2]) w.heap.size A1 c1 x1 ∧ OwnsI 3 (u2.setCells b1 0 [.slice A0 n0 c0, .slice A1 n1 c1, .slice A2 n2 c2]) w.heap.size A2 c2 x2) := hid (by
    have TL : Turned (fun k => k = g ∨ k = b1 ∨ k = b3) u2 (u2.setCells b1 0 [.slice A0 n0 c0, .slice A1 n1 c1, .slice A2 n2 c2]) := (turned_setCells b1 [.slice A0 n0 c0, .slice A1 n1 c1, .slice A2 n2 c2] u2 0).mono (fun k e => .inr (.inl e))
    have T2L := T2.out.trans TL
    have T1L := T1.out.trans (G2.out.trans T2L)
    have T0L := T0.out.trans (G1.out.trans T1L)
    have ht := HH.out.top_
    obtain ⟨hb1, hb3, hz2⟩ := HBB.out
    have hz1 := HZ.out
    have z1 := G1.out.size
    have z2 := T1.out.size
    have hz3 : b1 < b3 := H0.out.lt.2.1
    exact ⟨(ownsI_turned O0.out T0L (fun k hk e => by have := O0.out.blkLt k hk; omega)).weaken (by omega), (ownsI_turned O1.out T1L (fun k hk e => by have := O1.out.blkLt k hk; omega)).weaken (by omega), (ownsI_turned O2.out T2L (fun k hk e => by have := O2.out.blkLt k hk; omega)).weaken (by omega)⟩)
  refine bodyPost_ret (results_cell_row rfl _ _ b1 _ _ _ _ rfl HR.out.2.2 Tryz.underlying24 rfl (by rw [info_conf33]; rfl)) rfl ?_
  rw [HM.out]
  exact ⟨a2, b2', A0, A1, A2, c0, c1, c2, by rw [← S0.out.2.2, ← S1.out.2.2, ← S2.out.2.2], HO.out, HR.out.1, rfl, HR.out.2.1⟩
end Go.Proofs.YtfkjahpcpmcefaaGreat.Im
namespace Go.Proofs.YtfkjahpcpmcefaaGreat.Im
open Go Go.RowKit
open Rl (En Lg)
open Qu (Cf)
open Pk (enc encs rdInt rdInts rdBlob St)
set_option maxRecDepth 100000
set_option linter.unusedVariables false
local instance lo23 : Lo := ⟨0⟩
attribute [local go_sem ↓] loadAt_conf3 storeAt_conf3
def CfPost (l : List Nat) (w : World) (e : Ending) (w' : World) : Prop := ∃ A0 A1 A2 c0 c1 c2, e = .returned (.tuple #[.agg #[.slice A0 (getCf l).1.old.length c0, .slice A1 (getCf l).1.new.length c1, .slice A2 (getCf l).1.lrn.length c2], .int .i64 (getCf l).2]) ∧ CIs w' w'.heap.size (getCf l).1 A0 A1 A2 c0 c1 c2 ∧ Below w.heap.size w w'
theorem cis_own {w : World} {B : Nat} {x : Cf} {A0 A1 A2 : Option Addr} {c0 c1 c2 : Nat} (h : OwnsI 3 w B A0 c0 x.old ∧ OwnsI 3 w B A1 c1 x.new ∧ OwnsI 3 w B A2 c2 x.lrn) : CIs w w.heap.size x A0 A1 A2 c0 c1 c2 :=
  ⟨h.1.reads, h.2.1.reads, h.2.2.reads, (ownsI_cap h.1).1, (ownsI_cap h.2.1).1, (ownsI_cap h.2.2).1, (ownsI_cap h.1).2, (ownsI_cap h.2.1).2, (ownsI_cap h.2.2).2⟩
theorem cis_nil (w : World) (B : Nat) : CIs w B ⟨[], [], []⟩ none none none 0 0 0 := ⟨IsInts.nil, IsInts.nil, IsInts.nil, fun _ => rfl, fun _ => rfl, fun _ => rfl, ⟨Nat.le_refl _, Nat.zero_le _⟩, ⟨Nat.le_refl _, Nat.zero_le _⟩, ⟨Nat.le_refl _, Nat.zero_le _⟩⟩
theorem stOf_new (l : List Nat) : stOf l 0 false = ⟨l, false⟩ := by unfold stOf leftOf; simp
set_option maxHeartbeats 6400000 in
theorem rGetConf_any (l : List Nat) (A : Option Addr) (c n0 : Nat) (hn0 : l.length = n0) (hl : n0 ≤ 65536) (w : World) (h : IsBytes w w.heap.size A l) :
    Calls Tryz.prog 58 #[.slice A n0 c] w (CfPost l w) := by
  obtain ⟨w1, hw1⟩ : ∃ w1, w1 = w.alloc (.cells #[.slice none 0 0, .slice none 0 0, .slice none 0 0] 24) := ⟨_, rfl⟩
  have hb01 : Below w.heap.size w w1 := by rw [hw1]; exact (Below.refl _ _).alloc (Nat.le_refl _) _
  have z1 : w1.heap.size = w.heap.size + 1 := by rw [hw1]; simp
  have r1 : w1.heap[w.heap.size]? = some (.cells #[.slice none 0 0, .slice none 0 0, .slice none 0 0] 24 (0, 0)) := by rw [hw1]; exact heap_alloc_new _ _
  have HR0 := refReader_any w1.heap.size A c l (by omega) w1 ((h.below hb01).more hb01.size) (Nat.le_refl _)
  rw [hn0] at HR0
  replace HR0 := hid HR0
  have H1 := hid (And.intro hb01 (And.intro z1 (And.intro r1 (And.intro hn0 hl))))
  have HSM : Hid (∀ x ∈ l, x < 256) := hid h.small
  clear h hb01 z1 r1
  go_enter Tryz.func58, Tryz.ntmps58
  go_wp2_with fail
  rw [← hw1]
  clear hw1
  refine HR0.out.mono ?_
  rintro e w2 ⟨rfl, hr2, hb2⟩
  obtain ⟨g, hg⟩ : ∃ g, g = w1.heap.size := ⟨_, rfl⟩
  rw [← hg] at hr2
  have HC := hid (rgConf_any g w2.heap.size l 0 false w2 hr2)
  have H2 := hid (And.intro hb2 (And.intro hg hr2.top_))
  clear hb2 hr2 HR0
  go_wp2_with fail
  rw [← hg]
  clear hg
  refine HC.out.mono ?_
  rintro e w3 ⟨a2, b2, A0, A1, A2, c0, c1, c2, rfl, ho, hr3, hs3, hg3⟩
  obtain ⟨x, hx⟩ : ∃ x, (rdCf (stOf l 0 false)).1 = x := ⟨_, rfl⟩
  rw [hx] at ho
  rw [hx]
  obtain ⟨n1, hn1⟩ : ∃ n, x.old.length = n := ⟨_, rfl⟩
  obtain ⟨n2, hn2⟩ : ∃ n, x.new.length = n := ⟨_, rfl⟩
  obtain ⟨n3, hn3⟩ : ∃ n, x.lrn.length = n := ⟨_, rfl⟩
  rw [hn1, hn2, hn3]
  obtain ⟨w4, hw4⟩ : ∃ w4, w4 = w3.alloc (.cells #[.slice A0 n1 c0, .slice A1 n2 c1, .slice A2 n3 c2] 24) := ⟨_, rfl⟩
  have hst4 := stNew w3 24 3 info_conf33 #[.slice none 0 0, .slice none 0 0, .slice none 0 0] #[.slice A0 n1 c0, .slice A1 n2 c1, .slice A2 n3 c2] rfl rfl (by simp [Value.oneCell'])
  obtain ⟨b5, hb5⟩ : ∃ b, b = w3.heap.size := ⟨_, rfl⟩
  have r4 : w4.heap[b5]? = some (.cells #[.slice A0 n1 c0, .slice A1 n2 c1, .slice A2 n3 c2] 24 (0, 0)) := by rw [hw4, hb5]; exact heap_alloc_new _ _
  have hb34 : Below w3.heap.size w3 w4 := by rw [hw4]; exact (Below.refl _ _).alloc (Nat.le_refl _) _
  have hr4 := hr3.below hb34
  have HE := hid (refEnd_any g w2.heap.size l a2 b2 w4 hr4)
  have z4 : w4.heap[w.heap.size]? = some (.cells #[.slice none 0 0, .slice none 0 0, .slice none 0 0] 24 (0, 0)) := by
    obtain ⟨k1, k2, k3, k4⟩ := H1.out
    obtain ⟨k5, k6, k7⟩ := H2.out
    have := k5.size
    have := hg3.size
    exact (hb34.block _ (by omega)).trans ((hg3.block _ (by omega) (fun e => by injection e; omega)).trans ((k5.block _ (by omega)).trans k3))
  have low4 : Below w.heap.size w w4 := by
    obtain ⟨k1, k2, k3, k4⟩ := H1.out
    obtain ⟨k5, k6, k7⟩ := H2.out
    have h5 := k5.size
    have h6 := hg3.size
    exact k1.trans ((k5.mono (by omega)).trans ((below_grown hg3 (by omega) (fun k e => by injection e; omega) : Below w.heap.size w2 w3).trans (hb34.mono (by omega))))
  obtain ⟨ee, hee⟩ : ∃ ee, endOf ⟨leftOf l a2 b2, b2⟩ = ee := ⟨_, rfl⟩
  rw [hee] at HE
  have HW : Hid (whole rdCf ⟨[], [], []⟩ l = if ee ≠ 0 then (⟨[], [], []⟩, ee) else (x, 0)) := hid (by
    have e2 : fin (rdCf ⟨l, false⟩).2 = ee := by
      rw [← hee, ← stOf_new, ← hs3]; rfl
    unfold whole
    rw [e2, ← stOf_new l, hx])
  have hec : ee = 0 ∨ ee = 2 ∨ ee = 4 := by
    rw [← hee]; unfold endOf
    split
    · exact .inr (.inr rfl)
    · split
      · exact .inr (.inl rfl)
      · exact .inl rfl
  have HO : Hid (w.heap.size < w2.heap.size ∧ OwnsI 3 w4 w2.heap.size A0 c0 x.old ∧ OwnsI 3 w4 w2.heap.size A1 c1 x.new ∧ OwnsI 3 w4 w2.heap.size A2 c2 x.lrn) := hid ⟨by have := H1.out.2.1; have := H2.out.1.size; omega, ho.1.below hb34, ho.2.1.below hb34, ho.2.2.below hb34⟩
  have H4 := hid (And.intro z4 (And.intro low4 (And.intro r4 (And.intro hn1 (And.intro hn2 hn3)))))
  have HL : Hid (ee = 0 → Short x) := hid (fun he => by
    have h := rdCf_lens l HSM.out (by have := H1.out.2.2.2; omega)
    rw [HW.out, if_neg (fun h => h he)] at h
    exact h)
  clear ho hr3 hs3 hg3 hx hn1 hn2 hn3 r4 hb34 hr4 z4 low4 hee HC H2
  go_wp2_with fail
  rw [← hw4, ← hb5]
  clear hw4 hb5 hst4
  refine HE.out.mono ?_
  rintro e w5 ⟨rfl, n, hw5⟩
  have z5 : w5.heap[w.heap.size]? = some (.cells #[.slice none 0 0, .slice none 0 0, .slice none 0 0] 24 (0, 0)) := by rw [hw5]; exact H4.out.1
  have b45 : Below w4.heap.size w4 w5 := by rw [hw5]; exact below_drewN (Below.refl _ _) n
  have low5 : Below w.heap.size w w5 := H4.out.2.1.trans (b45.mono H4.out.2.1.size)
  have r5 : w5.heap[b5]? = some (.cells #[.slice A0 n1 c0, .slice A1 n2 c1, .slice A2 n3 c2] 24 (0, 0)) := by rw [hw5]; exact H4.out.2.2.1
  have o5 : OwnsI 3 w5 w2.heap.size A0 c0 x.old ∧ OwnsI 3 w5 w2.heap.size A1 c1 x.new ∧ OwnsI 3 w5 w2.heap.size A2 c2 x.lrn := ⟨HO.out.2.1.below b45, HO.out.2.2.1.below b45, HO.out.2.2.2.below b45⟩
  have HLT := hid HO.out.1
  have H5 := hid (And.intro z5 (And.intro low5 (And.intro r5 o5)))
  have HN := hid H4.out.2.2.2
  clear hw5 z5 b45 low5 r5 o5 H4 HO HE HSM H1
  by_cases he : ee = 0
  · subst he
    have hsx := HL.out rfl
    obtain ⟨f, hf⟩ : ∃ f, f = Qu.err x := ⟨_, rfl⟩
    have HCK : Hid (Calls Tryz.prog 41 #[.agg #[.slice A0 n1 c0, .slice A1 n2 c1, .slice A2 n3 c2]] w5 fun e w' => e = .returned (.int .i64 f) ∧ Below w5.heap.size w5 w') := hid (by
      have h := refCheck_any w5.heap.size x hsx A0 A1 A2 c0 c1 c2 w5 (cis_own H5.out.2.2.2) (Nat.le_refl _)
      rw [HN.out.1, HN.out.2.1, HN.out.2.2, ← hf] at h
      exact h)
    have HF := hid hf
    have hfi : f = 0 ∨ f = 29 := by rw [hf]; unfold Qu.err; split <;> simp
    have HX : Hid (whole rdCf ⟨[], [], []⟩ l = (x, 0)) := hid (by rw [HW.out]; rfl)
    have ld5 := ldRow info_conf33 Tryz.underlying24 rfl H5.out.2.2.1 rfl
    clear hf hec hsx HL HW
    by_cases hf0 : f = 0
    · subst hf0
      have HG : Hid (getCf l = (x, 0)) := hid (by rw [getCf_yes (by rw [HX.out]) (by rw [HX.out]; exact HF.out.symm), HX.out])
      clear hfi
      go_wp2_with fail
      refine HCK.out.mono ?_
      rintro e w6 ⟨rfl, hb6⟩
      have hz6 := (hb6.block _ (row_lt H5.out.1)).trans H5.out.1
      have hx6 := (hb6.block _ (row_lt H5.out.2.2.1)).trans H5.out.2.2.1
      have hlow6 := H5.out.2.1.trans (hb6.mono H5.out.2.1.size)
      have hld6 := ldRow info_conf33 Tryz.underlying24 rfl hx6 rfl
      have hst6 := stRow info_conf33 (cs' := #[.slice A0 n1 c0, .slice A1 n2 c1, .slice A2 n3 c2]) hz6 rfl rfl (by simp [Value.oneCell'])
      have hro7 := setRow_heap w6 w.heap.size _ #[.slice A0 n1 c0, .slice A1 n2 c1, .slice A2 n3 c2] _ _ hz6
      have ht7 := row_turned w6 w.heap.size #[.slice A0 n1 c0, .slice A1 n2 c1, .slice A2 n3 c2]
      generalize w6.setRow w.heap.size #[.slice A0 n1 c0, .slice A1 n2 c1, .slice A2 n3 c2] = w7 at hst6 hro7 ht7
      have H7 := hid (And.intro hro7 (And.intro ht7 (And.intro hlow6 hb6)))
      clear hb6 hz6 hx6 hlow6 hro7 ht7 ld5
      go_wp2_with fail
      refine bodyPost_ret (results_two rfl info_conf33 Tryz.underlying24 rfl _ _ w.heap.size _ _ _ rfl H7.out.1 rfl) rfl ?_
      unfold CfPost
      rw [HG.out]
      have hbw : Below w.heap.size w w7 := H7.out.2.2.1.trans (H7.out.2.1.below H7.out.2.2.1.size (fun k hk => by omega))
      refine ⟨A0, A1, A2, c0, c1, c2, by rw [← HN.out.1, ← HN.out.2.1, ← HN.out.2.2]; rfl, ?_, hbw⟩
      have hlt := HLT.out
      obtain ⟨p0, p1, p2⟩ := H5.out.2.2.2
      have hb56 := H7.out.2.2.2
      have hT := H7.out.2.1
      exact cis_own ⟨ownsI_turned (p0.below hb56) hT (fun k hk e => by have := (p0.blkLt k hk).1; omega), ownsI_turned (p1.below hb56) hT (fun k hk e => by have := (p1.blkLt k hk).1; omega), ownsI_turned (p2.below hb56) hT (fun k hk e => by have := (p2.blkLt k hk).1; omega)⟩
    · obtain rfl : f = 29 := hfi.resolve_left hf0
      have HG : Hid (getCf l = (⟨[], [], []⟩, 29)) := hid (by rw [getCf_err (by rw [HX.out]) (by rw [HX.out, ← HF.out]; decide), HX.out, ← HF.out])
      clear hfi hf0
      go_wp2_with fail
      refine HCK.out.mono ?_
      rintro e w6 ⟨rfl, hb6⟩
      have hz6 := (hb6.block _ (row_lt H5.out.1)).trans H5.out.1
      have hlow6 := H5.out.2.1.trans (hb6.mono H5.out.2.1.size)
      have hst6 := stSame info_conf33 hz6 rfl (by simp [Value.oneCell'])
      have H7 := hid (And.intro hz6 hlow6)
      clear hb6 hz6 hlow6 ld5
      go_wp2_with fail
      refine bodyPost_ret (results_two rfl info_conf33 Tryz.underlying24 rfl _ _ w.heap.size _ _ _ rfl H7.out.1 rfl) rfl ?_
      unfold CfPost
      rw [HG.out]
      exact ⟨none, none, none, 0, 0, 0, rfl, cis_nil _ _, H7.out.2⟩
  · have HG : Hid (getCf l = (⟨[], [], []⟩, ee)) := hid (by rw [getCf_bad (by rw [HW.out, if_pos he]; exact he), HW.out, if_pos he])
    have hst5 := stSame info_conf33 H5.out.1 rfl (by simp [Value.oneCell'])
    clear HL HW
    go_wp2_with fail
    refine bodyPost_ret (results_two rfl info_conf33 Tryz.underlying24 rfl _ _ w.heap.size _ _ _ rfl H5.out.1 rfl) rfl ?_
    unfold CfPost
    rw [HG.out]
    exact ⟨none, none, none, 0, 0, 0, rfl, cis_nil _ _, H5.out.2.1⟩
end Go.Proofs.YtfkjahpcpmcefaaGreat.Im
namespace Go.Proofs.YtfkjahpcpmcefaaGreat.Co
open Go Go.RowKit
open Qu (Cf)
open Rl (En Lg)
open Im (Ad Hd Pt IsPt)
set_option maxRecDepth 100000
set_option linter.unusedVariables false
attribute [local go_sem ↓] Im.loadAt_conf3 Im.storeAt_conf3
set_option maxHeartbeats 3200000 in
theorem refOf_any (x : Hd) (a : Ad) (w : World) (hE : IsEnts w w.heap.size a.e x.p.log.es) (hm : x.p.log.es.length ≤ 1000) (hq : ∀ e ∈ x.p.log.es, Quiet e ∧ e.d.length ≤ 65536) (hC : InC w w.heap.size x.p.cf (mOf x a)) (hs : Short x.p.cf) (hb : 0 ≤ x.p.log.base ∧ x.p.log.base ≤ 1099511627776) :
    Calls Tryz.prog 30 #[.agg #[.int .i64 x.g, .int .i64 x.t, .int .i64 x.v, .int .i64 x.p.log.base, .int .i64 x.p.log.term, .slice a.e x.p.log.es.length a.ce, .slice a.o x.p.cf.old.length a.co, .slice a.n x.p.cf.new.length a.cn, .slice a.l x.p.cf.lrn.length a.cl, .slice a.s x.p.sn.length a.cs]] w (GotE w x.p.cf x.p.log.base) := by
  obtain ⟨w2, hw2⟩ : ∃ w2, w2 = (w.alloc (.cells #[.int .i64 x.g, .int .i64 x.t, .int .i64 x.v, .int .i64 x.p.log.base, .int .i64 x.p.log.term, .slice a.e x.p.log.es.length a.ce, .slice a.o x.p.cf.old.length a.co, .slice a.n x.p.cf.new.length a.cn, .slice a.l x.p.cf.lrn.length a.cl, .slice a.s x.p.sn.length a.cs] 38)).alloc (.cells #[.slice none 0 0, .slice none 0 0, .slice none 0 0] 24) := ⟨_, rfl⟩
  have hb2 : Below w.heap.size w w2 := by rw [hw2]; exact ((Below.refl _ _).alloc (Nat.le_refl _) _).alloc (by simp) _
  have hs2 : w2.heap.size = w.heap.size + 2 := by rw [hw2]; simp
  have hr0 : w2.heap[w.heap.size]? = some (.cells #[.int .i64 x.g, .int .i64 x.t, .int .i64 x.v, .int .i64 x.p.log.base, .int .i64 x.p.log.term, .slice a.e x.p.log.es.length a.ce, .slice a.o x.p.cf.old.length a.co, .slice a.n x.p.cf.new.length a.cn, .slice a.l x.p.cf.lrn.length a.cl, .slice a.s x.p.sn.length a.cs] 38 (0, 0)) := by rw [hw2, Below.heap_alloc _ _ _ (by simp)]; exact heap_alloc_new w _
  have hr1 : Bx w2 (w.heap.size + 1) 24 mNil := by
    have q := heap_alloc_new (w.alloc (.cells #[.int .i64 x.g, .int .i64 x.t, .int .i64 x.v, .int .i64 x.p.log.base, .int .i64 x.p.log.term, .slice a.e x.p.log.es.length a.ce, .slice a.o x.p.cf.old.length a.co, .slice a.n x.p.cf.new.length a.cn, .slice a.l x.p.cf.lrn.length a.cl, .slice a.s x.p.sn.length a.cs] 38)) (.cells #[.slice none 0 0, .slice none 0 0, .slice none 0 0] 24)
    rw [World.size_alloc] at q
    rw [hw2]; exact q
  have hld := ld_conf hr0
  rw [hw2] at hld
  have HK : Hid (∀ W, Below w2.heap.size w2 W → W.heap[w.heap.size]? = some (.cells #[.int .i64 x.g, .int .i64 x.t, .int .i64 x.v, .int .i64 x.p.log.base, .int .i64 x.p.log.term, .slice a.e x.p.log.es.length a.ce, .slice a.o x.p.cf.old.length a.co, .slice a.n x.p.cf.new.length a.cn, .slice a.l x.p.cf.lrn.length a.cl, .slice a.s x.p.sn.length a.cs] 38 (0, 0)) ∧ Bx W (w.heap.size + 1) 24 mNil ∧ Below w.heap.size w W ∧ IsEnts W w.heap.size a.e x.p.log.es) := hid (fun W hq => by
    have hl := hb2.trans (hq.mono hb2.size)
    exact ⟨(hq.block _ (by omega)).trans hr0, hr1.below hq (by omega), hl, hE.below hl⟩)
  have HCC := hid (copyConf_M w.heap.size x.p.cf hs (mOf x a) w2 (hC.below hb2) hb2.size)
  have HQ := hid hq
  have HS2 := hid (And.intro hs2 hb2)
  clear hE hC hb2 hs2 hr0 hr1 hq
  go_enter Tryz.func30, Tryz.ntmps30
  go_wp2_with fail
  rw [← hw2]
  clear hw2 hld
  refine HCC.out.mono ?_
  rintro e w3 ⟨mc, rfl, hoc, hb3⟩
  obtain ⟨v3, hv3⟩ : ∃ v3, v3 = w3.alloc (.cells #[.slice mc.a0 mc.n0 mc.k0, .slice mc.a1 mc.n1 mc.k1, .slice mc.a2 mc.n2 mc.k2] 24) := ⟨_, rfl⟩
  have hst3 := (box_new hv3).2.2.2
  have HK3 : Hid (∀ W, Below v3.heap.size v3 W → Bx W w3.heap.size 24 mc ∧ OwnC W w2.heap.size w3.heap.size x.p.cf mc ∧ w3.heap.size + 1 ≤ W.heap.size ∧ Below w2.heap.size w2 W) := hid (fun W hb => by
    have q := box_keep hoc hv3 W hb
    exact ⟨q.1, q.2.1, q.2.2.2, hb3.trans (q.2.2.1.mono hb3.size)⟩)
  have r3 := (HK.out v3 (HK3.out v3 (Below.refl _ _)).2.2.2).1
  have c3 : v3.cell? ⟨w.heap.size, 3, none⟩ = some (.int .i64 x.p.log.base) := cell_of_row v3 w.heap.size 3 _ _ _ r3
  clear hoc hb3 hv3 r3 HCC
  go_wp2_with fail
  go_loopw [5, 6] (fun v i wr => ∃ k : Nat, k ≤ x.p.log.es.length ∧ v = .int .i64 x.p.log.base ∧ i = .int .i64 k ∧ Hid (Below v3.heap.size v3 wr)) (fun _ i _ => x.p.log.es.length - (RowKit.intOf i).toNat)
  case atStart => exact ⟨0, by omega, rfl, rfl, hid (Below.refl _ _)⟩
  case round =>
    clear c3
    obtain ⟨k, hk, rfl, rfl, HR⟩ := hrel
    have q3 := HK3.out wr HR.out
    obtain ⟨q0, q1, q2, q4⟩ := HK.out wr q3.2.2.2
    have c5 : wr.cell? ⟨w.heap.size, 5, none⟩ = some (.slice a.e x.p.log.es.length a.ce) := cell_of_row wr w.heap.size 5 _ _ _ q0
    by_cases hlt : k < x.p.log.es.length
    · obtain ⟨b, off, hA, hbb, hcell⟩ := q4.cells k hlt
      obtain ⟨A', c', d0, d1, d2, d3, d4, d5⟩ := hcell k hlt
      rw [hA] at c5
      obtain ⟨en, hen⟩ : ∃ en, en = x.p.log.es[k] := ⟨_, rfl⟩
      have hqe := HQ.out en (by rw [hen]; exact List.getElem_mem hlt)
      rw [← hen] at d0 d1 d2 d3 d4
      obtain ⟨kd, hkd⟩ : ∃ kd, kd = en.k := ⟨_, rfl⟩
      rw [← hkd] at d1
      have HL := hid q2
      have HB := hid d3
      have hb9 : b < wr.heap.size := World.block_lt_of_cell? _ _ d1
      by_cases h2 : kd = 2
      · have hk2 : (kd != 2) = false := by rw [h2]; rfl
        have hg : ((Im.getCf en.d).2 == 0) = false := by
          rw [beq_eq_false_iff_ne]
          exact hqe.1.resolve_left (fun q => q (by rw [← hkd]; exact h2))
        have HGC := hid (Im.rGetConf_any en.d A' c' en.d.length rfl hqe.2 wr (d3.more q2.size))
        obtain ⟨er, her⟩ : ∃ er, er = (Im.getCf en.d).2 := ⟨_, rfl⟩
        rw [← her] at hg
        have HER := hid her
        clear h2 her hen hkd hqe hcell d3 d4 d5 q0 q1 q2 q4 q3 hA
        go_wp2_with fail
        refine HGC.out.mono ?_
        rintro e w5 ⟨A0, A1, A2, p0, p1, p2, rfl, _, hb5⟩
        rw [← HER.out]
        obtain ⟨v5, hv5⟩ : ∃ v5, v5 = w5.alloc (.cells #[.slice A0 (Im.getCf en.d).1.old.length p0, .slice A1 (Im.getCf en.d).1.new.length p1, .slice A2 (Im.getCf en.d).1.lrn.length p2] 24) := ⟨_, rfl⟩
        have q5 := box_new (m := ⟨A0, (Im.getCf en.d).1.old.length, p0, A1, (Im.getCf en.d).1.new.length, p1, A2, (Im.getCf en.d).1.lrn.length, p2⟩) hv5
        have hst5 := q5.2.2.2
        have HB5 := hid (HR.out.trans ((hb5.trans (q5.2.1.mono hb5.size)).mono HR.out.size))
        clear hb5 hv5 q5 c5 d0 d1 d2
        go_wp2_with fail
        go_roundw
        case rel => exact ⟨k + 1, by omega, rfl, by go_num, HB5⟩
        case measure => simp [RowKit.intOf]; omega
      · have hk2 : (kd != 2) = true := by rw [bne_iff_ne]; exact h2
        clear h2 hen hkd hqe hcell d3 d4 d5 q0 q1 q2 q4 q3 hA
        go_wp2_with fail
        go_roundw
        case rel => exact ⟨k + 1, by omega, rfl, by go_num, HR⟩
        case measure => simp [RowKit.intOf]; omega
    · obtain rfl : k = x.p.log.es.length := by omega
      have hld3 := q3.1.ld
      have hst := q1.st (m' := mc)
      have H4 := hid (And.intro (q1.set mc) (got_box (w2 := w2) (b := w.heap.size + 1) (q3.2.1.wide (Nat.le_refl _) (by have := q3.2.2.1; omega)) q2 ⟨by omega, by have := HS2.out.1; omega⟩))
      clear q0 q1 q2 q3 q4
      go_wp2_with fail
      refine bodyPost_ret (Im.results_two rfl Im.info_conf33 Tryz.underlying24 rfl _ _ (w.heap.size + 1) _ _ _ rfl H4.out.1 rfl) rfl ?_
      exact ⟨mc, rfl, H4.out.2.1, H4.out.2.2⟩
end Go.Proofs.YtfkjahpcpmcefaaGreat.Co
namespace Go.Proofs.YtfkjahpcpmcefaaGreat
open Go.RowKit
structure LgIs (w : World) (B : Nat) (g : Rl.Lg) (A : Option Addr) (c : Nat) : Prop where
  es : IsEnts w B A g.es
  room : g.es.length ≤ c ∧ c ≤ maxLen
  none_ : A = none → c = 0
  num : InInt g.base ∧ InInt g.term
namespace LgIs
variable {w w' : World} {B B' : Nat} {g : Rl.Lg} {A : Option Addr} {c : Nat}
theorem below (h : LgIs w B g A c) (hb : Below B w w') : LgIs w' B g A c := ⟨h.es.below hb, h.room, h.none_, h.num⟩
theorem more (h : LgIs w B g A c) (hB : B ≤ B') : LgIs w B' g A c := ⟨h.es.more hB, h.room, h.none_, h.num⟩
theorem drewN (h : LgIs w B g A c) (n : Nat) : LgIs (w.drewN n) B g A c := ⟨h.es.drewN n, h.room, h.none_, h.num⟩
end LgIs
end Go.Proofs.YtfkjahpcpmcefaaGreat
namespace Go.Proofs.YtfkjahpcpmcefaaGreat
open Go.RowKit
end Go.Proofs.YtfkjahpcpmcefaaGreat
namespace Go.Proofs.YtfkjahpcpmcefaaGreat
open Go.RowKit
end Go.Proofs.YtfkjahpcpmcefaaGreat
namespace Go.Proofs.YtfkjahpcpmcefaaGreat
open Go.RowKit
end Go.Proofs.YtfkjahpcpmcefaaGreat
namespace Go.Proofs.YtfkjahpcpmcefaaGreat
open Go.RowKit
end Go.Proofs.YtfkjahpcpmcefaaGreat
namespace Go.Proofs.YtfkjahpcpmcefaaGreat.Im
open Go.RowKit
open Rl (En Lg)
set_option maxRecDepth 100000
set_option linter.unusedVariables false
theorem loadAt_log1 (a : Value) : Instr.loadAt 36 a = ldX 36 a := rfl
theorem storeAt_log1 (a v : Value) : Instr.storeAt 36 a v = stX 36 a v := rfl
theorem info_log33 : (Tryz.prog.info? 36).map (·.size) = some 3 := by kernel_rfl
attribute [local go_sem ↓] loadAt_log1 storeAt_log1
def sinceM (g : Lg) (b t : Int) : Lg := if g.cutE b = 0 ∧ (g.cut b).term = t then g.cut b else ⟨b, t, []⟩
end Go.Proofs.YtfkjahpcpmcefaaGreat.Im
namespace Go.Proofs.YtfkjahpcpmcefaaGreat
open Go.RowKit
set_option maxHeartbeats 800000 in
set_option maxRecDepth 100000 in
theorem ent_same (p q : Rl.En) (A A' : Option Addr) (c c' : Nat) (hp : p.d.length ≤ maxLen) (hq : q.d.length ≤ maxLen) (w : World) (h : IsBytes w w.heap.size A p.d) (h' : IsBytes w w.heap.size A' q.d) :
    Calls Tryz.prog 98 #[.agg #[.int .i64 p.t, .int .i64 p.k, .slice A p.d.length c], .agg #[.int .i64 q.t, .int .i64 q.k, .slice A' q.d.length c']] w fun e w' => e = .returned (.bool (decide (p = q))) ∧ Below w.heap.size w w' := by
  obtain ⟨w1, hw1⟩ : ∃ w1, w1 = (w.alloc (.cells #[.int .i64 p.t, .int .i64 p.k, .slice A p.d.length c] 33)).alloc (.cells #[.int .i64 q.t, .int .i64 q.k, .slice A' q.d.length c'] 33) := ⟨_, rfl⟩
  have hb1 : Below w.heap.size w w1 := by rw [hw1]; exact ((Below.refl _ w).alloc (Nat.le_refl _) _).alloc (by simp) _
  have HS := hid (same_any w1.heap.size w1.heap.size A A' c c' p.d q.d hp hq w1 ((h.below hb1).more hb1.size) ((h'.below hb1).more hb1.size))
  have HB := hid hb1
  rw [hw1] at HS HB
  clear hb1 hw1 h h'
  by_cases ha : p.t = q.t
  · by_cases hb : p.k = q.k
    · by_cases hd : p.d = q.d
      · have HE : Hid (decide (p = q) = true) := hid (decide_eq_true (by cases p; cases q; simp at ha hb hd; simp [ha, hb, hd]))
        rw [decide_eq_true hd] at HS
        clear hd
        rw [ha, hb] at HS HB
        rw [HE.out]
        go_enter Tryz.func98, Tryz.ntmps98
        go_wp2_with fail
        refine HS.out.mono ?_
        rintro e w2 ⟨rfl, n, hw2⟩
        have HW : Hid (Below w.heap.size w w2) := by rw [hw2]; exact below_drewN HB.out n
        clear hw2
        go_wp2_with fail
        go_ret
        exact ⟨rfl, HW.out⟩
      · have HE : Hid (decide (p = q) = false) := hid (decide_eq_false (by rintro rfl; exact hd rfl))
        rw [decide_eq_false hd] at HS
        clear hd
        rw [ha, hb] at HS HB
        rw [HE.out]
        go_enter Tryz.func98, Tryz.ntmps98
        go_wp2_with fail
        refine HS.out.mono ?_
        rintro e w2 ⟨rfl, n, hw2⟩
        have HW : Hid (Below w.heap.size w w2) := by rw [hw2]; exact below_drewN HB.out n
        clear hw2
        go_wp2_with fail
        go_ret
        exact ⟨rfl, HW.out⟩
    · have HE : Hid (decide (p = q) = false) := hid (decide_eq_false (by rintro rfl; exact hb rfl))
      rw [ha] at HB
      rw [HE.out]
      go_enter Tryz.func98, Tryz.ntmps98
      go_wp2_with fail
      go_ret
      exact ⟨rfl, HB.out⟩
  · have HE : Hid (decide (p = q) = false) := hid (decide_eq_false (by rintro rfl; exact ha rfl))
    rw [HE.out]
    go_enter Tryz.func98, Tryz.ntmps98
    go_wp2_with fail
    go_ret
    exact ⟨rfl, HB.out⟩
set_option maxHeartbeats 800000 in
set_option maxRecDepth 100000 in
theorem ents_same (A A' : Option Addr) (c c' n m : Nat) (L M : List Rl.En) (hn : L.length = n) (hm : M.length = m) (hL : n ≤ 100000) (w : World) (h : IsEnts w w.heap.size A L) (h' : IsEnts w w.heap.size A' M) :
    Calls Tryz.prog 85 #[.slice A n c, .slice A' m c'] w fun e w' => e = .returned (.bool (decide (L = M))) ∧ Below w.heap.size w w' := by
  subst hn
  subst hm
  by_cases hl : L.length = M.length
  · have hl0 : (L.length : Int) = (M.length : Int) := by omega
    have HH := hid (And.intro h h')
    clear h h'
    go_enter Tryz.func85, Tryz.ntmps85
    go_wp2_with fail
    go_loopw [5] (fun i wr => ∃ k : Nat, k ≤ L.length ∧ i = .int .i64 k ∧ Hid (L.take k = M.take k ∧ Below w.heap.size w wr)) (fun i _ => L.length - (RowKit.intOf i).toNat)
    case atStart => exact ⟨0, by omega, rfl, hid ⟨by simp, Below.refl _ _⟩⟩
    case round =>
      obtain ⟨k, hk, rfl, hS⟩ := hrel
      have HL := hid hl
      by_cases hlt : k < L.length
      · have hr := HH.out.1.below hS.out.2
        have hr' := HH.out.2.below hS.out.2
        obtain ⟨b, off, rfl, hbl, hc⟩ := hr.cells k hlt
        have hkM : k < M.length := by omega
        obtain ⟨b', off', rfl, hbl', hc'⟩ := hr'.cells k hkM
        obtain ⟨A1, c1, d0, d1, d2, hB1', hm1', _⟩ := hc k hlt
        have hB1 := hB1'.more hS.out.2.size
        have hm1 := Nat.le_trans hm1'.1 hm1'.2
        obtain ⟨A2, c2, e0, e1, e2, hB2', hm2', _⟩ := hc' k hkM
        have hB2 := hB2'.more hS.out.2.size
        have hm2 := Nat.le_trans hm2'.1 hm2'.2
        clear hB1' hB2' hm1' hm2'
        have hk0 : (k : Int) < (L.length : Int) := by omega
        have hk1 : (k : Int) < (M.length : Int) := by omega
        have HC := hid (ent_same L[k] M[k] A1 A2 c1 c2 hm1 hm2 wr.drew (hB1.drewN 1) (hB2.drewN 1))
        have d0W : wr.drew.cell? ⟨b, off + k * 3, none⟩ = some (.int .i64 L[k].t) := d0
        have d1W : wr.drew.cell? ⟨b, off + k * 3 + 1, none⟩ = some (.int .i64 L[k].k) := d1
        have d2W : wr.drew.cell? ⟨b, off + k * 3 + 2, none⟩ = some (.slice A1 L[k].d.length c1) := d2
        have e0W : wr.drew.cell? ⟨b', off' + k * 3, none⟩ = some (.int .i64 M[k].t) := e0
        have e1W : wr.drew.cell? ⟨b', off' + k * 3 + 1, none⟩ = some (.int .i64 M[k].k) := e1
        have e2W : wr.drew.cell? ⟨b', off' + k * 3 + 2, none⟩ = some (.slice A2 M[k].d.length c2) := e2
        by_cases he : L[k] = M[k]
        · rw [decide_eq_true he] at HC
          have hS' : L.take (k + 1) = M.take (k + 1) := by
            rw [List.take_succ_eq_append_getElem hlt, List.take_succ_eq_append_getElem hkM, hS.out.1, he]
          have HS := hid hS'
          clear hc hc' hr hr' hB1 hB2 hS' he hl
          go_wp2_with fail
          go_still_tail 8, (by kernel_rfl)
          go_wp2_with fail
          refine HC.out.mono ?_
          rintro e w2 ⟨rfl, hb2⟩
          have HB2 : Hid (L.take (k + 1) = M.take (k + 1) ∧ Below w.heap.size w w2) := hid ⟨HS.out, hS.out.2.trans (((Below.refl _ wr).drew.trans hb2).mono hS.out.2.size)⟩
          clear hb2 d0W d1W d2W e0W e1W e2W d0 d1 d2 e0 e1 e2
          go_wp2_with fail
          go_roundw
          case rel => exact ⟨k + 1, by omega, by go_num, HB2⟩
          case measure => simp [RowKit.intOf]; omega
        · rw [decide_eq_false he] at HC
          have hne : decide (L = M) = false := decide_eq_false (fun e => by subst e; exact he rfl)
          have HE := hid hne
          clear hc hc' hr hr' hB1 hB2 he hne hl
          go_wp2_with fail
          go_still_tail 8, (by kernel_rfl)
          go_wp2_with fail
          refine HC.out.mono ?_
          rintro e w2 ⟨rfl, hb2⟩
          have HB2 : Hid (Below w.heap.size w w2) := hid (hS.out.2.trans (((Below.refl _ wr).drew.trans hb2).mono hS.out.2.size))
          clear hb2 d0W d1W d2W e0W e1W e2W d0 d1 d2 e0 e1 e2
          go_wp2_with fail
          go_ret
          rw [HE.out]
          exact ⟨rfl, HB2.out⟩
      · obtain rfl : k = L.length := by omega
        have hE : decide (L = M) = true := decide_eq_true (by
          have := hS.out.1
          rw [List.take_length, hl, List.take_length] at this
          exact this)
        have HE := hid hE
        have hk0 : ¬ (L.length : Int) < (L.length : Int) := by omega
        clear hE hlt
        go_wp2_with fail
        go_ret
        rw [HE.out]
        exact ⟨rfl, hS.out.2⟩
  · have hE : decide (L = M) = false := decide_eq_false (fun e => hl (by rw [e]))
    rw [hE]
    have hl0 : ¬ (L.length : Int) = (M.length : Int) := by omega
    clear h h' hE hl
    go_enter Tryz.func85, Tryz.ntmps85
    go_wp2
    go_ret
    exact ⟨rfl, Below.refl _ _⟩
end Go.Proofs.YtfkjahpcpmcefaaGreat
namespace Go.Proofs.YtfkjahpcpmcefaaGreat
open Go.RowKit
set_option maxHeartbeats 400000 in
theorem copy_any (B : Nat) (A : Option Addr) (c : Nat) (l : List Nat) (hl : l.length ≤ 140737488355328) (w : World) (h : IsBytes w B A l) (hB : B ≤ w.heap.size) :
    Calls Tryz.prog 54 #[.slice A l.length c] w fun e w' => ∃ A' c', e = .returned (.slice A' l.length c') ∧ OwnsB 5 w' w.heap.size A' c' l ∧ Below w.heap.size w w' := by
  obtain ⟨i0, hi, hz0, hz1, hz2⟩ := info_parts info_u8
  go_enter Tryz.func54, Tryz.ntmps54
  go_wp2
  go_loopw [3, 4] (fun v i wr => ∃ k : Nat, k ≤ l.length ∧ i = .int .i64 k ∧ wr.ownsRow w.heap.size 5 1 v k (bytes (l.take k)) ∧ Below w.heap.size w wr) (fun _ i _ => l.length - (RowKit.intOf i).toNat)
  case atStart => exact ⟨0, by omega, rfl, World.ownsRow_nil _ _ _ _, Below.refl _ _⟩
  case round =>
    obtain ⟨k, hk, rfl, hown, hbel⟩ := hrel
    by_cases hlt : k < l.length
    · have h1 := (h.below (hbel.mono hB))
      obtain ⟨b, off, rfl, _, hc⟩ := h1.cells k hlt
      have hck := hc k hlt
      clear hc
      go_wp2_with (at_builtin; refine wpList_append_own _ rfl _ _ 31 rfl w.heap.size 5 i0 (.int .u8 0) 1 1 Tryz.underlying31 hi hz0 hz1 hz2 rfl (by decide) _ _ _ rfl (hown.alloc _) ⟨wr.heap.size, 0, none⟩ 1 1 [.int .u8 (l[k] : Nat)] rfl rfl ?c1 ?c2 ?c3 ?c4 ?c5 ?_)
      case c1 =>
        intro j u hj
        match j, hj with
        | 0, hj => simp at hj; subst hj; simp [Addr.add]
      case c2 => intro u hu; simp at hu; subst hu; rfl
      case c3 => unfold maxLen; omega
      case c4 => omega
      case c5 => have := hbel.size; simp; omega
      intro v' w1 hown' hgrow _
      rw [bytes_snoc l k hlt] at hown'
      have hb1 : Below w.heap.size w w1 := (hbel.alloc hbel.size _).grown hgrow (by have := hbel.size; simp; omega) (fun g hg => (hown.lt g hg).1)
      clear hgrow hown hbel hck
      go_wp2
      go_roundw
      case rel => exact ⟨k + 1, by omega, by go_num, hown', hb1⟩
      case measure => simp [RowKit.intOf]; omega
    · obtain rfl : k = l.length := by omega
      rw [List.take_length] at hown
      obtain ⟨A', c', rfl⟩ := own_slice hown
      go_wp2
      go_ret
      exact ⟨A', c', rfl, ⟨h.small, hown⟩, hbel⟩
theorem copy_N (B : Nat) (A : Option Addr) (c : Nat) (l : List Nat) (n : Nat) (hn : l.length = n) (hl : n ≤ 140737488355328) (w : World) (h : IsBytes w B A l) (hB : B ≤ w.heap.size) :
    Calls Tryz.prog 54 #[.slice A n c] w fun e w' => ∃ A' c', e = .returned (.slice A' n c') ∧ OwnsB 5 w' w.heap.size A' c' l ∧ Below w.heap.size w w' := by
  subst hn; exact copy_any B A c l hl w h hB
end Go.Proofs.YtfkjahpcpmcefaaGreat
namespace Go.Proofs.YtfkjahpcpmcefaaGreat
open Go.RowKit
set_option maxHeartbeats 1600000 in
set_option maxRecDepth 100000 in
theorem copyE_any (B : Nat) (A : Option Addr) (c n : Nat) (L : List Rl.En) (hn : L.length = n) (hl : n ≤ 90000) (hf : Rl.Few L) (w : World) (h : IsEnts w B A L) (hB : B ≤ w.heap.size) :
    Calls Tryz.prog 79 #[.slice A n c] w fun e w' => ∃ A' c', e = .returned (.slice A' n c') ∧ OwnE w' w.heap.size w'.heap.size A' c' L ∧ Below w.heap.size w w' := by
  subst hn
  have HH := hid (h.more hB)
  have HF := hid hf
  have H1 : Hid (OwnE w w.heap.size w.heap.size none 0 (L.take 0) ∧ Below w.heap.size w w) := hid ⟨OwnE.nil _ _ _, Below.refl _ _⟩
  clear h hf
  go_enter Tryz.func79, Tryz.ntmps79
  go_wp2_with fail
  go_loopw [3, 4] (fun v i wr => ∃ (k : Nat) (A1 : Option Addr) (c1 : Nat), k ≤ L.length ∧ v = .slice A1 k c1 ∧ i = .int .i64 k ∧ Hid (OwnE wr w.heap.size wr.heap.size A1 c1 (L.take k) ∧ Below w.heap.size w wr)) (fun _ i _ => L.length - (RowKit.intOf i).toNat)
  case atStart => exact ⟨0, _, _, by omega, rfl, rfl, H1⟩
  case round =>
    clear H1
    obtain ⟨k, A1, c1, hk, rfl, rfl, hS⟩ := hrel
    by_cases hlt : k < L.length
    · obtain ⟨b, off, rfl, hbw, hc⟩ := (HH.out.below hS.out.2).cells k hlt
      obtain ⟨Ad, cd, d0, d1, d2, hd, hd2, hd3⟩ := hc k hlt
      have hk0 : (k : Int) < (L.length : Int) := by omega
      have hfk : L[k].d.length ≤ 65536 := HF.out _ (List.getElem_mem hlt)
      have hnum := HH.out.num _ (List.getElem_mem hlt)
      have htk : L.take (k + 1) = L.take k ++ [L[k]] := List.take_succ_eq_append_getElem hlt
      obtain ⟨x, hx⟩ : ∃ x, x = L[k] := ⟨_, rfl⟩
      rw [← hx] at d0 d1 d2 hd hd2 hfk hnum htk
      have HX := hid (And.intro hnum htk)
      have HC := hid (copy_N wr.heap.size Ad cd x.d x.d.length rfl (by omega) wr.drew ((hd.more hS.out.2.size).drewN 1) (Nat.le_refl _))
      have HK : Hid (∀ w', Below w.heap.size wr w' → w'.cell? ⟨b, off + k * 3, none⟩ = some (.int .i64 x.t) ∧ w'.cell? ⟨b, off + k * 3 + 1, none⟩ = some (.int .i64 x.k) ∧ w'.cell? ⟨b, off + k * 3 + 2, none⟩ = some (.slice Ad x.d.length cd)) := hid (fun w' hb => ⟨(hb.cell (by show b < _; omega)).trans d0, (hb.cell (by show b < _; omega)).trans d1, (hb.cell (by show b < _; omega)).trans d2⟩)
      have hl5 : k + 1 ≤ 100000 := by omega
      have HLK : Hid ((L.take k).length = k) := hid (by rw [List.length_take]; omega)
      clear hc hx hnum htk hd hd2 hd3 hfk
      go_wp2_with fail
      go_region_held3 (fun w' => w'.cell? ⟨b, off + k * 3, none⟩ = some (.int .i64 x.t) ∧ w'.cell? ⟨b, off + k * 3 + 1, none⟩ = some (.int .i64 x.k) ∧ w'.cell? ⟨b, off + k * 3 + 2, none⟩ = some (.slice Ad x.d.length cd))
        (first | exact HK.out _ (Below.refl _ wr).drew | exact HK.out _ hb2.out | exact HK.out _ (hb2.out.alloc hN2.out _) | exact HK.out _ h6.out.2 | fail)
        (first
          | (refine step_append_ent (by rfl) _ _ (by rfl) (hS.out.1.below (hb1.out.alloc hb1.out.size _)) hS.out.2.size (by rw [World.size_alloc]; have := hb1.out.size; omega) k HLK.out (by rfl) x HX.out.1 A2 c2 (ho2.out.below ((Below.refl _ w2).alloc (Nat.le_refl _) _)) ⟨w2.heap.size, 0, none⟩ 1 (by rfl) (fun j _ => cellsE_new w2 _ rfl ⟨x, A2, c2⟩ _ j) hl5 ?_; intro A6 c6 w6 hE6 hB6; have h6 := hid (And.intro hE6 ((hb2.out.alloc hN2.out _).trans hB6)); clear hE6 hB6)
          | (go_at_call 54; refine HC.out.mono ?_; rintro e w2 ⟨A2, c2, rfl, ho2', hb2'⟩; have ho2 := hid ho2'; have hb1 := hid ((Below.refl _ wr).drew.trans hb2'); have hb2 := hid (hb1.out.mono hS.out.2.size); have hN2 := hid (Nat.le_trans hS.out.2.size hb1.out.size); clear ho2' hb2'))
      all_goals
        (have H6 : Hid (OwnE w6 w.heap.size w6.heap.size A6 c6 (L.take (k + 1)) ∧ Below w.heap.size w w6) := hid ⟨by rw [HX.out.2]; exact h6.out.1, hS.out.2.trans h6.out.2⟩
         clear h6 hb1 hb2 hN2 ho2 HK HC d0 d1 d2
         go_wp2_with fail
         go_roundw
         case rel => exact ⟨k + 1, A6, c6, by omega, rfl, by go_num, H6⟩
         case measure => simp [RowKit.intOf]; omega)
    · obtain rfl : k = L.length := by omega
      have hS1 := hS.out
      rw [List.take_length] at hS1
      have HS := hid hS1
      clear hS hS1
      go_wp2_with fail
      go_ret
      exact ⟨A1, c1, rfl, HS.out.1, HS.out.2⟩
end Go.Proofs.YtfkjahpcpmcefaaGreat
namespace Go.Proofs.YtfkjahpcpmcefaaGreat
open Go.RowKit
set_option maxHeartbeats 800000 in
set_option maxRecDepth 100000 in
theorem log_same (p q : Rl.Lg) (A A' : Option Addr) (c c' : Nat) (hl : p.es.length ≤ 100000) (w : World) (h : IsEnts w w.heap.size A p.es) (h' : IsEnts w w.heap.size A' q.es) :
    Calls Tryz.prog 59 #[.agg #[.int .i64 p.base, .int .i64 p.term, .slice A p.es.length c], .agg #[.int .i64 q.base, .int .i64 q.term, .slice A' q.es.length c']] w fun e w' => e = .returned (.bool (decide (p = q))) ∧ Below w.heap.size w w' := by
  obtain ⟨w1, hw1⟩ : ∃ w1, w1 = (w.alloc (.cells #[.int .i64 p.base, .int .i64 p.term, .slice A p.es.length c] 36)).alloc (.cells #[.int .i64 q.base, .int .i64 q.term, .slice A' q.es.length c'] 36) := ⟨_, rfl⟩
  have hb1 : Below w.heap.size w w1 := by rw [hw1]; exact ((Below.refl _ w).alloc (Nat.le_refl _) _).alloc (by simp) _
  have HS := hid (ents_same A A' c c' p.es.length q.es.length p.es q.es rfl rfl hl w1 ((h.below hb1).more hb1.size) ((h'.below hb1).more hb1.size))
  have HB := hid hb1
  have HZ := hid hb1.size
  rw [hw1] at HS HB HZ
  clear hb1 hw1 h h'
  by_cases ha : p.base = q.base
  · by_cases hb : p.term = q.term
    · have HE : Hid (decide (p = q) = decide (p.es = q.es)) := hid (by
        rw [decide_eq_decide]
        cases p; cases q
        simp at ha hb
        simp [ha, hb])
      rw [ha, hb] at HS HB HZ
      rw [HE.out]
      generalize decide (p.es = q.es) = bb at HS ⊢
      clear HE
      cases bb <;>
      (go_enter Tryz.func59, Tryz.ntmps59
       go_wp2_with fail
       refine HS.out.mono ?_
       rintro e w2 ⟨rfl, hb2⟩
       have HW : Hid (Below w.heap.size w w2) := hid (HB.out.trans (hb2.mono HZ.out))
       clear hb2
       go_wp2_with fail
       go_ret
       exact ⟨rfl, HW.out⟩)
    · have HE : Hid (decide (p = q) = false) := hid (decide_eq_false (by rintro rfl; exact hb rfl))
      rw [ha] at HB
      rw [HE.out]
      go_enter Tryz.func59, Tryz.ntmps59
      go_wp2_with fail
      go_ret
      exact ⟨rfl, HB.out⟩
  · have HE : Hid (decide (p = q) = false) := hid (decide_eq_false (by rintro rfl; exact ha rfl))
    rw [HE.out]
    go_enter Tryz.func59, Tryz.ntmps59
    go_wp2_with fail
    go_ret
    exact ⟨rfl, HB.out⟩
set_option maxHeartbeats 800000 in
set_option maxRecDepth 100000 in
theorem copyLog_any (g : Rl.Lg) (A : Option Addr) (c n : Nat) (hn : g.es.length = n) (hl : n ≤ 90000) (hf : Rl.Few g.es) (w : World) (h : IsEnts w w.heap.size A g.es) :
    Calls Tryz.prog 53 #[.agg #[.int .i64 g.base, .int .i64 g.term, .slice A n c]] w fun e w' =>
      ∃ A' c', e = .returned (.agg #[.int .i64 g.base, .int .i64 g.term, .slice A' n c']) ∧ OwnE w' w.heap.size w'.heap.size A' c' g.es ∧ Below w.heap.size w w' := by
  obtain ⟨w1, hw1⟩ : ∃ w1, w1 = (w.alloc (.cells #[.int .i64 g.base, .int .i64 g.term, .slice A n c] 36)).alloc (.cells #[.int .i64 0, .int .i64 0, .slice none 0 0] 36) := ⟨_, rfl⟩
  have hb1 : Below w.heap.size w w1 := by rw [hw1]; exact ((Below.refl _ w).alloc (Nat.le_refl _) _).alloc (by simp) _
  have hs1 : w1.heap.size = w.heap.size + 2 := by rw [hw1]; simp
  have HC := hid (copyE_any w.heap.size A c n g.es hn hl hf w1 (h.below hb1) hb1.size)
  have H1 := hid (And.intro hb1 hs1)
  rw [hw1] at HC H1
  have HW := hid hw1
  clear hb1 hs1 hw1 h
  go_enter Tryz.func53, Tryz.ntmps53
  go_wp2_with fail
  refine HC.out.mono ?_
  rintro e w2 ⟨A2, c2, rfl, ho2, hb2⟩
  have hs2 := hb2.size
  have q0 : w2.cell? ⟨w.heap.size, 0, none⟩ = some (.int .i64 g.base) := by rw [hb2.cell (by simp; omega)]; simp
  have q1 : w2.cell? ⟨w.heap.size, 1, none⟩ = some (.int .i64 g.term) := by rw [hb2.cell (by simp; omega)]; simp
  have q2 : w2.cell? ⟨w.heap.size, 2, none⟩ = some (.slice A n c) := by rw [hb2.cell (by simp; omega)]; simp
  have f2 : w2.frozen? ⟨w.heap.size, 2, none⟩ = false := by rw [hb2.frozen (by simp; omega)]; simp
  have r0 : w2.cell? ⟨w.heap.size + 1, 0, none⟩ = some (.int .i64 0) := by rw [hb2.cell (by simp)]; simp [World.cell?_alloc_at]
  have r1 : w2.cell? ⟨w.heap.size + 1, 1, none⟩ = some (.int .i64 0) := by rw [hb2.cell (by simp)]; simp [World.cell?_alloc_at]
  have r2 : w2.cell? ⟨w.heap.size + 1, 2, none⟩ = some (.slice none 0 0) := by rw [hb2.cell (by simp)]; simp [World.cell?_alloc_at]
  have f3 : ∀ k, w2.frozen? ⟨w.heap.size + 1, k, none⟩ = false := fun k => by rw [hb2.frozen (by simp)]; simp [World.frozen?_alloc_at]
  have HB : Hid (Below w.heap.size w w2) := hid (H1.out.1.trans (hb2.mono (by simp; omega)))
  have HO := hid ho2
  have hs3 : w.heap.size + 2 ≤ w2.heap.size := by simpa using hs2
  clear hb2 ho2 HC H1 hs2
  go_wp2_with fail
  refine bodyPost_ret (by simp [results, Tryz.results53, go_sem, r0, r1, r2]; try rfl) rfl ?_
  have T : Turned (fun k => k < w.heap.size + 2) w2 ((((w2.setCell ⟨w.heap.size, 2, none⟩ (.slice A2 n c2)).setCell ⟨w.heap.size + 1, 0, none⟩ (.int .i64 g.base)).setCell ⟨w.heap.size + 1, 1, none⟩ (.int .i64 g.term)).setCell ⟨w.heap.size + 1, 2, none⟩ (.slice A2 n c2)) := by
    (repeat' first | exact Turned.refl _ _ | refine Turned.setCell ?_ _ _ _ (fun _ => by omega))
  refine ⟨A2, c2, rfl, (HO.out.keep T (fun k hk hB => ?_)).wide ?_ T.size, HB.out.trans ?_⟩
  · have := hB.1; simp at this; omega
  · simp; omega
  · go_grown
end Go.Proofs.YtfkjahpcpmcefaaGreat
namespace Go.Proofs.YtfkjahpcpmcefaaGreat.Im
open Go Go.RowKit
open Rl (En Lg)
open Qu (Cf)
set_option maxRecDepth 100000
set_option linter.unusedVariables false
attribute [local go_sem ↓] loadAt_hard storeAt_hard loadAt_log1 storeAt_log1 loadAt_conf3 storeAt_conf3
theorem IsPt.cis {w : World} {B : Nat} {p : Pt} {a : Ad} (h : IsPt w B p a) : CIs w B p.cf a.o a.n a.l a.co a.cn a.cl :=
  ⟨h.o, h.n, h.l, h.ro.2, h.rn.2, h.rl.2, h.ro.1, h.rn.1, h.rl.1⟩
structure FewK (p : Pt) : Prop where
  es : p.log.es.length ≤ 90000
  sh : Short p.cf
theorem ldLogH {w : World} {cs : Array Value} {t : TypeId} {b k : Nat} {v1 v2 v3 : Value} (h : w.heap[b]? = some (.cells cs t (0, 0))) (h1 : cs[k]? = some v1) (h2 : cs[k + 1]? = some v2) (h3 : cs[k + 2]? = some v3) :
    (ldX 36 (.pointer (some ⟨b, k, none⟩))).run Tryz.prog w = .ok (.agg #[v1, v2, v3]) w :=
  run_loadAt_mid w b k 36 [v1, v2, v3] _ (fun j v hv => by
    rw [row_cell h (k + j)]
    rcases j with _ | _ | _ | j
    · simpa using h1.trans (by simpa using hv)
    · simpa using h2.trans (by simpa using hv)
    · simpa using h3.trans (by simpa using hv)
    · simp at hv) Tryz.underlying36 rfl (by rw [info_log33]; rfl)
theorem ldConfH {w : World} {cs : Array Value} {t : TypeId} {b k : Nat} {v1 v2 v3 : Value} (h : w.heap[b]? = some (.cells cs t (0, 0))) (h1 : cs[k]? = some v1) (h2 : cs[k + 1]? = some v2) (h3 : cs[k + 2]? = some v3) :
    (ldX 24 (.pointer (some ⟨b, k, none⟩))).run Tryz.prog w = .ok (.agg #[v1, v2, v3]) w :=
  run_loadAt_mid w b k 24 [v1, v2, v3] _ (fun j v hv => by
    rw [row_cell h (k + j)]
    rcases j with _ | _ | _ | j
    · simpa using h1.trans (by simpa using hv)
    · simpa using h2.trans (by simpa using hv)
    · simpa using h3.trans (by simpa using hv)
    · simp at hv) Tryz.underlying24 rfl (by rw [info_conf33]; rfl)
set_option maxHeartbeats 1600000 in
theorem sameH_any (x : Hd) (a a' : Ad) (hf : FewK x.p) (w : World) (h : IsPt w w.heap.size x.p a) (h' : IsPt w w.heap.size x.p a') :
    Calls Tryz.prog 31 #[.agg #[.int .i64 x.g, .int .i64 x.t, .int .i64 x.v, .int .i64 x.p.log.base, .int .i64 x.p.log.term, .slice a.e x.p.log.es.length a.ce, .slice a.o x.p.cf.old.length a.co, .slice a.n x.p.cf.new.length a.cn, .slice a.l x.p.cf.lrn.length a.cl, .slice a.s x.p.sn.length a.cs], .agg #[.int .i64 x.g, .int .i64 x.t, .int .i64 x.v, .int .i64 x.p.log.base, .int .i64 x.p.log.term, .slice a'.e x.p.log.es.length a'.ce, .slice a'.o x.p.cf.old.length a'.co, .slice a'.n x.p.cf.new.length a'.cn, .slice a'.l x.p.cf.lrn.length a'.cl, .slice a'.s x.p.sn.length a'.cs]] w fun e w' => e = .returned (.bool true) ∧ Below w.heap.size w w' := by
  obtain ⟨wA, hwA⟩ : ∃ wA, wA = (w.alloc (.cells #[.int .i64 x.g, .int .i64 x.t, .int .i64 x.v, .int .i64 x.p.log.base, .int .i64 x.p.log.term, .slice a.e x.p.log.es.length a.ce, .slice a.o x.p.cf.old.length a.co, .slice a.n x.p.cf.new.length a.cn, .slice a.l x.p.cf.lrn.length a.cl, .slice a.s x.p.sn.length a.cs] 38)).alloc (.cells #[.int .i64 x.g, .int .i64 x.t, .int .i64 x.v, .int .i64 x.p.log.base, .int .i64 x.p.log.term, .slice a'.e x.p.log.es.length a'.ce, .slice a'.o x.p.cf.old.length a'.co, .slice a'.n x.p.cf.new.length a'.cn, .slice a'.l x.p.cf.lrn.length a'.cl, .slice a'.s x.p.sn.length a'.cs] 38) := ⟨_, rfl⟩
  have hbA : Below w.heap.size w wA := by rw [hwA]; exact ((Below.refl _ w).alloc (Nat.le_refl _) _).alloc (by simp) _
  have r0 : wA.heap[w.heap.size]? = some (.cells #[.int .i64 x.g, .int .i64 x.t, .int .i64 x.v, .int .i64 x.p.log.base, .int .i64 x.p.log.term, .slice a.e x.p.log.es.length a.ce, .slice a.o x.p.cf.old.length a.co, .slice a.n x.p.cf.new.length a.cn, .slice a.l x.p.cf.lrn.length a.cl, .slice a.s x.p.sn.length a.cs] 38 (0, 0)) := by rw [hwA, heap_alloc_old _ _ (by simp)]; exact heap_alloc_new w _
  have r1 : wA.heap[w.heap.size + 1]? = some (.cells #[.int .i64 x.g, .int .i64 x.t, .int .i64 x.v, .int .i64 x.p.log.base, .int .i64 x.p.log.term, .slice a'.e x.p.log.es.length a'.ce, .slice a'.o x.p.cf.old.length a'.co, .slice a'.n x.p.cf.new.length a'.cn, .slice a'.l x.p.cf.lrn.length a'.cl, .slice a'.s x.p.sn.length a'.cs] 38 (0, 0)) := by
    have := heap_alloc_new (w.alloc (.cells #[.int .i64 x.g, .int .i64 x.t, .int .i64 x.v, .int .i64 x.p.log.base, .int .i64 x.p.log.term, .slice a.e x.p.log.es.length a.ce, .slice a.o x.p.cf.old.length a.co, .slice a.n x.p.cf.new.length a.cn, .slice a.l x.p.cf.lrn.length a.cl, .slice a.s x.p.sn.length a.cs] 38)) (.cells #[.int .i64 x.g, .int .i64 x.t, .int .i64 x.v, .int .i64 x.p.log.base, .int .i64 x.p.log.term, .slice a'.e x.p.log.es.length a'.ce, .slice a'.o x.p.cf.old.length a'.co, .slice a'.n x.p.cf.new.length a'.cn, .slice a'.l x.p.cf.lrn.length a'.cl, .slice a'.s x.p.sn.length a'.cs] 38)
    rw [World.size_alloc, ← hwA] at this
    exact this
  have hA := (h.below hbA).more hbA.size
  have hA' := (h'.below hbA).more hbA.size
  have HL := hid ((log_same x.p.log x.p.log a.e a'.e a.ce a'.ce (by have := hf.es; omega) wA hA.es hA'.es).mono (fun e w' hh => (⟨by rw [hh.1, decide_eq_true rfl], hh.2⟩ : e = .returned (.bool true) ∧ Below wA.heap.size wA w')))
  have c0 := row_cell r0 0
  have c1 := row_cell r0 1
  have c2 := row_cell r0 2
  have d0 := row_cell r1 0
  have d1 := row_cell r1 1
  have d2 := row_cell r1 2
  have l0 := ldLogH (k := 3) r0 rfl rfl rfl
  have l1 := ldLogH (k := 3) r1 rfl rfl rfl
  rw [hwA] at c0 c1 c2 d0 d1 d2 l0 l1
  have HX := hid (And.intro r0 (And.intro r1 (And.intro hbA (And.intro h (And.intro h' hf)))))
  clear r0 r1 hbA h h' hA hA' hf
  go_enter Tryz.func31, Tryz.ntmps31
  go_wp2_with fail
  rw [← hwA]
  clear hwA c0 c1 c2 d0 d1 d2 l0 l1
  refine HL.out.mono ?_
  rintro e w1 ⟨rfl, hb1⟩
  have r01 := (hb1.block _ (row_lt HX.out.1)).trans HX.out.1
  have r11 := (hb1.block _ (row_lt HX.out.2.1)).trans HX.out.2.1
  have hbw1 := HX.out.2.2.1.trans (hb1.mono HX.out.2.2.1.size)
  have l2 := ldConfH (k := 6) r01 rfl rfl rfl
  have l3 := ldConfH (k := 6) r11 rfl rfl rfl
  have HC := hid (sameConf_any w1.heap.size w1.heap.size x.p.cf x.p.cf HX.out.2.2.2.2.2.sh HX.out.2.2.2.2.2.sh _ _ _ _ _ _ _ _ _ _ _ _ w1 ((HX.out.2.2.2.1.below hbw1).more hbw1.size).cis ((HX.out.2.2.2.2.1.below hbw1).more hbw1.size).cis (Nat.le_refl _) (Nat.le_refl _) rfl)
  have HB1 := hid (And.intro r01 (And.intro r11 hbw1))
  clear r01 r11 hbw1 hb1
  go_wp2_with fail
  refine HC.out.mono ?_
  rintro e w2 ⟨rfl, hb2⟩
  have r02 := (hb2.block _ (row_lt HB1.out.1)).trans HB1.out.1
  have r12 := (hb2.block _ (row_lt HB1.out.2.1)).trans HB1.out.2.1
  have hbw2 := HB1.out.2.2.trans (hb2.mono HB1.out.2.2.size)
  have c9 : w2.cell? ⟨w.heap.size, 9, none⟩ = some (.slice a.s x.p.sn.length a.cs) := row_cell r02 9
  have d9 : w2.cell? ⟨w.heap.size + 1, 9, none⟩ = some (.slice a'.s x.p.sn.length a'.cs) := row_cell r12 9
  have hrs := HX.out.2.2.2.1.rs.1
  have HS := hid (same_T w2.heap.size w2.heap.size a.s a'.s a.cs a'.cs x.p.sn x.p.sn.length rfl (Nat.le_trans hrs.1 hrs.2) w2 ((HX.out.2.2.2.1.below hbw2).more hbw2.size).s ((HX.out.2.2.2.2.1.below hbw2).more hbw2.size).s)
  have HB2 := hid hbw2
  clear r02 r12 hbw2 hb2 hrs l2 l3
  go_wp2_with fail
  refine HS.out.mono ?_
  rintro e w3 ⟨rfl, n3, rfl⟩
  go_wp2_with fail
  go_ret
  exact ⟨rfl, below_drewN HB2.out _⟩
end Go.Proofs.YtfkjahpcpmcefaaGreat.Im
namespace Go.Proofs.YtfkjahpcpmcefaaGreat.Im
open Go.RowKit
set_option maxRecDepth 100000
section
variable {P : Program} {α : Type} {f : α → List Value} {size bytes : Nat} {e : TypeId} {w : World} {F : Nat → Prop} {A : Option Addr} {c : Nat} {L : List α}
theorem IsRow.news {B : Nat} {ad : Addr} {M : List α} (hf : ∀ x, (f x).length = size) (h : IsRow f size w B (some ad) M) (j : Nat) (u : Value) (hj : (M.flatMap f)[j]? = some u) : w.cell? (ad.add j) = some u := by
  have hl : j < M.length * size := by
    have := (List.getElem?_eq_some_iff.1 hj).1
    rwa [flat_len f size hf] at this
  have hs : 0 < size := by
    rcases Nat.eq_zero_or_pos size with e | e
    · rw [e, Nat.mul_zero] at hl; omega
    · exact e
  have hi : j / size < M.length := Nat.div_lt_of_lt_mul (by rw [Nat.mul_comm]; exact hl)
  have hk : j % size < size := Nat.mod_lt _ hs
  have hjk : j = j / size * size + j % size := by rw [Nat.mul_comm]; exact (Nat.div_add_mod j size).symm
  obtain ⟨b, off, e1, _, hc⟩ := h.at_ (j / size) hi
  injection e1 with e1
  subst e1
  rw [hjk, flat_get f size hf M (j / size) hi (j % size) hk] at hj
  have := hc (j / size) hi (j % size) u hj
  rw [add_off, hjk, ← Nat.add_assoc]
  exact this
end
structure SRows {α : Type} (f : α → List Value) (size : Nat) (w : World) (B b : Nat) (L : List (List α)) : Prop where
  at_ : ∀ i (h : i < L.length), ∃ a k, w.cell? ⟨b, i, none⟩ = some (.slice a L[i].length k) ∧ IsRow f size w B a L[i] ∧ (a = none → k = 0)
theorem RowIn.isRow {α : Type} {f : α → List Value} {size : Nat} {e : TypeId} {w : World} {F : Nat → Prop} {A : Option Addr} {c : Nat} {L : List α} (h : RowIn f size e w F A c L) : IsRow f size w w.heap.size A L := ⟨fun k hk => by
  obtain ⟨g, hA, hg, hF, hc, _⟩ := h.get k hk
  refine ⟨g, 0, hA, hg, fun j hj n v hv => ?_⟩
  obtain ⟨g', hA', _, _, hc', _⟩ := h.get j hj
  obtain rfl : g = g' := by rw [hA] at hA'; injection hA' with e; injection e
  have hn : n < size := by have := (List.getElem?_eq_some_iff.1 hv).1; rwa [h.fits] at this
  rw [Nat.zero_add, hc' n hn]; exact hv⟩
theorem IsRow.from {α : Type} {f : α → List Value} {size : Nat} {w : World} {B b off : Nat} {L : List α} (h : IsRow f size w B (some ⟨b, off, none⟩) L) (i : Nat) : IsRow f size w B (some ⟨b, off + i * size, none⟩) (L.drop i) := ⟨fun k hk => by
  rw [List.length_drop] at hk
  obtain ⟨b', off', e, hlt, hcs⟩ := h.at_ (i + k) (by omega)
  injection e with e
  injection e with e1 e2
  subst e1
  subst e2
  refine ⟨b, off + i * size, rfl, hlt, fun j hj n v hv => ?_⟩
  rw [List.length_drop] at hj
  rw [List.getElem_drop] at hv
  rw [show off + i * size + j * size = off + (i + j) * size by rw [Nat.add_mul]; omega]
  exact hcs (i + j) (by omega) n v hv⟩
theorem IsRow.take {α : Type} {f : α → List Value} {size : Nat} {w : World} {B : Nat} {A : Option Addr} {L : List α} (h : IsRow f size w B A L) (n : Nat) : IsRow f size w B A (L.take n) := ⟨fun k hk => by
  have hk' : k < L.length := by rw [List.length_take] at hk; omega
  obtain ⟨b, off, e, hlt, hc⟩ := h.at_ k hk'
  refine ⟨b, off, e, hlt, fun i hi j v hv => ?_⟩
  have hi' : i < L.length := by rw [List.length_take] at hi; omega
  rw [List.getElem_take] at hv
  exact hc i hi' j v hv⟩
end Go.Proofs.YtfkjahpcpmcefaaGreat.Im
namespace Go.Proofs.YtfkjahpcpmcefaaGreat.Im
open Go.RowKit
set_option maxRecDepth 100000
def over (xs : List Value) : Nat → List Value → List Value
  | _, [] => xs
  | o, v :: vs => over (xs.set o v) (o + 1) vs
section
variable {α : Type} {f : α → List Value} {size : Nat} {e : TypeId} {w : World} {F : Nat → Prop} {c g : Nat} {L : List α}
theorem RowIn.there (h : RowIn f size e w F (some ⟨g, 0, none⟩) c L) (i : Nat) (hi : i < L.length) : w.there g (i * size) size := fun j hj => by
  obtain ⟨g', hA, _, _, hc, hf⟩ := h.get i hi
  obtain rfl : g = g' := by injection hA with e; injection e
  refine ⟨?_, hf _⟩
  rw [hc j hj, List.getElem?_eq_getElem (by rw [h.fits]; exact hj)]
  rfl
theorem RowIn.range (h : RowIn f size e w F (some ⟨g, 0, none⟩) c L) (i : Nat) (hi : i < L.length) : w.rangeAt g (i * size) (f L[i]) := fun j v hv => by
  obtain ⟨g', hA, _, _, hc, hf⟩ := h.get i hi
  obtain rfl : g = g' := by injection hA with e; injection e
  have hj : j < size := by have := (List.getElem?_eq_some_iff.1 hv).1; rwa [h.fits] at this
  rw [hc j hj]; exact hv
end
theorem stAt {t : TypeId} {n : Nat} (hi : (Tryz.prog.info? t).map (·.size) = some n) {w : World} {b o : Nat} (ht : w.there b o n) (cs : Array Value) (hn : cs.size = n) (h1 : cs.all (·.oneCell') = true) : (stX t (.pointer (some ⟨b, o, none⟩)) (.agg cs)).run Tryz.prog w = .ok () (w.setCells b o cs.toList) :=
  run_storeAt_mid w b o t cs (hn ▸ ht) (by rw [hi, hn]) h1
end Go.Proofs.YtfkjahpcpmcefaaGreat.Im
namespace Go.Proofs.YtfkjahpcpmcefaaGreat.Im
open Go.RowKit
set_option maxRecDepth 100000
set_option linter.unusedVariables false
end Go.Proofs.YtfkjahpcpmcefaaGreat.Im
namespace Go.Proofs.YtfkjahpcpmcefaaGreat
open Go.RowKit
def Reads (w : World) (B : Nat) (M : List El) : Prop := ∀ q ∈ M, IsBytes w B q.A q.e.d ∧ (q.e.d.length ≤ q.c ∧ q.c ≤ maxLen) ∧ (q.A = none → q.c = 0)
theorem IsEnts.flat {w : World} {B : Nat} {A : Option Addr} {L : List Rl.En} (h : IsEnts w B A L) : ∃ M : List El, M.map (·.e) = L ∧ Reads w B M ∧ ∀ ad, A = some ad → ∀ j u, (M.flatMap cellsE)[j]? = some u → w.cell? (ad.add j) = some u := by
  have hq : ∀ i : Fin L.length, ∃ q : El, q.e = L[i] ∧ (IsBytes w B q.A q.e.d ∧ (q.e.d.length ≤ q.c ∧ q.c ≤ maxLen) ∧ (q.A = none → q.c = 0)) ∧ ∀ ad, A = some ad → ∀ k, k < 3 → w.cell? (ad.add (i.1 * 3 + k)) = (cellsE q)[k]? := by
    intro i
    obtain ⟨b, off, rfl, _, hc⟩ := h.cells i.1 i.2
    obtain ⟨A1, c1, d0, d1, d2, d3, d4, d5⟩ := hc i.1 i.2
    refine ⟨⟨L[i], A1, c1⟩, rfl, ⟨d3, d4, d5⟩, fun ad he k hk => ?_⟩
    injection he with he
    subst he
    rw [add_off, ← Nat.add_assoc]
    match k, hk with
    | 0, _ => exact d0
    | 1, _ => exact d1
    | 2, _ => exact d2
  refine ⟨List.ofFn (fun i => (hq i).choose), ?_, ?_, ?_⟩
  · apply List.ext_getElem
    · simp
    · intro i h1 h2
      rw [List.getElem_map, List.getElem_ofFn]
      exact (hq ⟨i, h2⟩).choose_spec.1
  · intro q hm
    obtain ⟨i, rfl⟩ := List.mem_ofFn.1 hm
    exact (hq i).choose_spec.2.1
  · intro ad he j u hu
    have hlt := (List.getElem?_eq_some_iff.1 hu).1
    rw [flat_len cellsE 3 (fun _ => rfl)] at hlt
    have hj : j / 3 < (List.ofFn (fun i => (hq i).choose)).length := by omega
    have e := flat_get cellsE 3 (fun _ => rfl) _ (j / 3) hj (j % 3) (by omega)
    rw [show j / 3 * 3 + j % 3 = j by omega, hu, List.getElem_ofFn] at e
    have := (hq ⟨j / 3, by simpa using hj⟩).choose_spec.2.2 ad he (j % 3) (by omega)
    rw [show j / 3 * 3 + j % 3 = j by omega] at this
    rw [this, ← e]
theorem Reads.below {w w' : World} {B : Nat} {M : List El} (h : Reads w B M) (hb : Below B w w') : Reads w' B M := fun q hq => ⟨(h q hq).1.below hb, (h q hq).2⟩
theorem isEnts_row {w : World} {B B' : Nat} {F : Nat → Prop} {A : Option Addr} {c : Nat} {M : List El} (hrow : RowIn cellsE 3 33 w F A c M) (hr : Reads w B M) (hB : B ≤ B') (hF : ∀ k, F k → k < w.heap.size → k < B') (hn : ∀ q ∈ M, InInt q.e.t ∧ InInt q.e.k) : IsEnts w B' A (M.map (·.e)) := ⟨fun e he => by
  obtain ⟨q, hq, rfl⟩ := List.mem_map.1 he
  exact hn q hq, fun k hk => by
  rw [List.length_map] at hk
  obtain ⟨g, hA, hg, hFg, _, _⟩ := hrow.get k hk
  refine ⟨g, 0, hA, hF g hFg hg, fun i hi => ?_⟩
  rw [List.length_map] at hi
  obtain ⟨g', hA', _, _, hc, _⟩ := hrow.get i hi
  obtain rfl : g = g' := by rw [hA] at hA'; injection hA' with e; injection e
  have ho := hr M[i] (List.getElem_mem hi)
  rw [List.getElem_map, Nat.zero_add]
  exact ⟨M[i].A, M[i].c, hc 0 (by omega), hc 1 (by omega), hc 2 (by omega), ho.1.more hB, ho.2⟩⟩
def SharE (w : World) (B lo : Nat) (A : Option Addr) (c : Nat) (L : List Rl.En) : Prop :=
  ∃ M : List El, M.map (·.e) = L ∧ RowIn cellsE 3 33 w (fun k => lo ≤ k) A c M ∧ Reads w B M ∧ ∀ q ∈ M, InInt q.e.t ∧ InInt q.e.k
namespace SharE
variable {w w' : World} {B lo : Nat} {A : Option Addr} {c : Nat} {L : List Rl.En}
theorem nil (w : World) (B lo : Nat) : SharE w B lo none 0 [] := ⟨[], rfl, RowIn.nil (f := cellsE) (fun _ => rfl) _ _ _, fun q hq => by simp at hq, by simp⟩
theorem reads (h : SharE w B lo A c L) (hB : B ≤ w.heap.size) : IsEnts w w.heap.size A L := by
  obtain ⟨M, h1, h2, h3, h4⟩ := h
  rw [← h1]
  exact isEnts_row h2 h3 hB (fun k _ hk => hk) h4
theorem keep {S : Nat → Prop} (h : SharE w B lo A c L) (ht : Turned S w w') (hB : B ≤ w.heap.size) (hs : ∀ k, S k → B ≤ k ∧ k < lo) : SharE w' B lo A c L := by
  obtain ⟨M, h1, h2, h3, h4⟩ := h
  exact ⟨M, h1, h2.keep ht (fun k hk hS => by have := h2.blk k hk; have := (hs k hS).2; omega), h3.below (ht.below hB (fun k hk => (hs k hk).1)), h4⟩
theorem below (h : SharE w B lo A c L) (hb : Below w.heap.size w w') (hB : B ≤ w.heap.size) : SharE w' B lo A c L := h.keep (S := fun _ => False) (Turned.ofBelow _ hb) hB (fun _ h => h.elim)
theorem room (h : SharE w B lo A c L) : L.length ≤ c ∧ c ≤ maxLen := by
  obtain ⟨M, h1, h2⟩ := h; rw [← h1, List.length_map]; exact ⟨h2.1.cap, h2.1.capLe⟩
theorem none_ (h : SharE w B lo A c L) : A = none → c = 0 := by
  obtain ⟨M, h1, h2⟩ := h; exact h2.1.none_
end SharE
end Go.Proofs.YtfkjahpcpmcefaaGreat
namespace Go.Proofs.YtfkjahpcpmcefaaGreat.Im
open Go.RowKit
open Rl (En Lg)
set_option maxRecDepth 100000
set_option linter.unusedVariables false
theorem loadAt_entry1 (a : Value) : Instr.loadAt 33 a = ldX 33 a := rfl
theorem storeAt_entry1 (a v : Value) : Instr.storeAt 33 a v = stX 33 a v := rfl
attribute [local go_sem ↓] loadAt_entry1 storeAt_entry1
end Go.Proofs.YtfkjahpcpmcefaaGreat.Im
namespace Go.Proofs.YtfkjahpcpmcefaaGreat.Im
open Go.RowKit
open Rl (En Lg)
set_option maxRecDepth 100000
set_option linter.unusedVariables false
attribute [local go_sem ↓] loadAt_entry1 storeAt_entry1
theorem isEnts_row {w : World} {B : Nat} {A : Option Addr} {L : List En} (h : IsEnts w B A L) : ∃ M : List El, M.map (·.e) = L ∧ Reads w B M ∧ IsRow cellsE 3 w B A M := by
  obtain ⟨M, h1, h2, h3⟩ := h.flat
  refine ⟨M, h1, h2, ⟨fun k hk => ?_⟩⟩
  have hkL : k < L.length := by rw [← h1, List.length_map]; exact hk
  obtain ⟨b, off, e, hb, _⟩ := h.cells k hkL
  refine ⟨b, off, e, hb, fun i hi j v hv => ?_⟩
  have hj : j < 3 := (List.getElem?_eq_some_iff.1 hv).1
  have h4 := h3 ⟨b, off, none⟩ e (i * 3 + j) v (by rw [flat_get cellsE 3 (fun _ => rfl) M i hi j hj]; exact hv)
  rw [add_off, ← Nat.add_assoc] at h4
  exact h4
def Chain {α : Type} (R : Nat → Nat → α → Prop) : Nat → Nat → List α → Prop
  | B, N, [] => B ≤ N
  | B, N, q :: l => ∃ m, B ≤ m ∧ R B m q ∧ Chain R m N l
section
variable {α : Type} {R R' : Nat → Nat → α → Prop}
theorem Chain.le : ∀ {l : List α} {B N : Nat}, Chain R B N l → B ≤ N
  | [], _, _, h => h
  | _ :: _, _, _, ⟨_, h1, _, h3⟩ => Nat.le_trans h1 (Chain.le h3)
theorem Chain.imp (h : ∀ a b x, R a b x → R' a b x) : ∀ {l : List α} {B N : Nat}, Chain R B N l → Chain R' B N l
  | [], _, _, h0 => h0
  | _ :: _, _, _, ⟨m, h1, h2, h3⟩ => ⟨m, h1, h _ _ _ h2, Chain.imp h h3⟩
theorem Chain.mem {q : α} : ∀ {l : List α} {B N : Nat}, Chain R B N l → q ∈ l → ∃ a b, B ≤ a ∧ b ≤ N ∧ R a b q
  | _ :: _, _, _, ⟨m, h1, h2, h3⟩, hq => by
    rcases List.mem_cons.1 hq with rfl | hq
    · exact ⟨_, m, Nat.le_refl _, Chain.le h3, h2⟩
    · obtain ⟨a, b, q1, q2, q3⟩ := Chain.mem h3 hq
      exact ⟨a, b, by omega, q2, q3⟩
end
def OwnEl (w : World) (B N : Nat) (q : El) : Prop := OwnsB 5 w B q.A q.c q.e.d ∧ ∀ k, blk q.A = some k → k < N
structure EvE (w : World) (lo : Nat) (A : Option Addr) (c : Nat) (M : List El) (k : Nat) (W : World) (M1 : List El) : Prop where
  len : M1.length = k
  row : RowIn cellsE 3 33 W (fun k => w.heap.size ≤ k) A c (M1 ++ M.drop k)
  ch : Chain (OwnEl W) lo W.heap.size M1
  val : M1.map (·.e) = (M.map (·.e)).take k
  bel : Below w.heap.size w W
  lo : w.heap.size ≤ lo
end Go.Proofs.YtfkjahpcpmcefaaGreat.Im
namespace Go.Proofs.YtfkjahpcpmcefaaGreat.Im
open Go Go.RowKit
open Rl (En Lg)
open Qu (Cf)
set_option maxRecDepth 100000
set_option linter.unusedVariables false
attribute [local go_sem ↓] loadAt_hard storeAt_hard loadAt_conf3 storeAt_conf3
local instance lo1 : Lo := ⟨0⟩
structure FewP (p : Pt) : Prop where
  es : p.log.es.length ≤ 100000
  d : ∀ e ∈ p.log.es, e.d.length ≤ 1000000000
  o : p.cf.old.length ≤ 100000
  n : p.cf.new.length ≤ 100000
  l : p.cf.lrn.length ≤ 100000
  s : p.sn.length ≤ 1000000000
structure RH (ad : Ad) (x : Hd) (b0 b1 lo hi : Nat) (w0 : World) (A5 : Option Addr) (c5 : Nat) (X : Pl) (p : Nat) (w : World) : Prop where
  bel : Below b0 w0 w
  sz : hi ≤ w.heap.size
  rowL : p ≤ 3 → w.heap[b0]? = some (.cells #[.int .i64 x.g, .int .i64 x.t, .int .i64 x.v, .int .i64 x.p.log.base, .int .i64 x.p.log.term, .slice A5 x.p.log.es.length c5, .slice ad.o x.p.cf.old.length ad.co, .slice ad.n x.p.cf.new.length ad.cn, .slice ad.l x.p.cf.lrn.length ad.cl, .slice ad.s x.p.sn.length ad.cs] 38 (0, 0))
  rowS : 3 < p → w.heap[b0]? = some (.cells #[.int .i64 x.g, .int .i64 x.t, .int .i64 x.v, .int .i64 x.p.log.base, .int .i64 x.p.log.term, .slice A5 x.p.log.es.length c5, .slice X.a.o x.p.cf.old.length X.a.co, .slice X.a.n x.p.cf.new.length X.a.cn, .slice X.a.l x.p.cf.lrn.length X.a.cl, .slice ad.s x.p.sn.length ad.cs] 38 (0, 0))
  res : w.heap[b1]? = some (.cells #[.int .i64 0, .int .i64 0, .int .i64 0, .int .i64 0, .int .i64 0, .slice none 0 0, .slice none 0 0, .slice none 0 0, .slice none 0 0, .slice none 0 0] 38 (0, 0))
  es : OwnE w lo hi A5 c5 x.p.log.es
  o1 : 0 < p → (OwnsI 3 w hi X.a.o X.a.co x.p.cf.old ∧ ∀ k, blk X.a.o = some k → k < X.m1) ∧ hi ≤ X.m1 ∧ X.m1 ≤ w.heap.size
  o2 : 1 < p → (OwnsI 3 w X.m1 X.a.n X.a.cn x.p.cf.new ∧ ∀ k, blk X.a.n = some k → k < X.m2) ∧ X.m1 ≤ X.m2 ∧ X.m2 ≤ w.heap.size
  o3 : 2 < p → (OwnsI 3 w X.m2 X.a.l X.a.cl x.p.cf.lrn ∧ ∀ k, blk X.a.l = some k → k < X.m3) ∧ X.m2 ≤ X.m3 ∧ X.m3 ≤ w.heap.size
section
variable {ad : Ad} {x : Hd} {b0 b1 lo hi : Nat} {w0 : World} {A5 : Option Addr} {c5 : Nat} {X : Pl} {p : Nat} {w w' : World}
end
theorem conf_there {w : World} {b : Nat} {cs : Array Value} {t : TypeId} (h : w.heap[b]? = some (.cells cs t (0, 0))) (o n : Nat) (hn : o + n ≤ cs.size) : w.there b o n := fun j hj => by
  rw [row_cell h (o + j), row_free h (o + j)]
  exact ⟨by rw [Array.getElem?_eq_getElem (by omega)]; rfl, rfl⟩
end Go.Proofs.YtfkjahpcpmcefaaGreat.Im
namespace Go.Proofs.YtfkjahpcpmcefaaGreat.Im
open Go Go.RowKit
open Rl (En Lg)
open Qu (Cf)
set_option maxRecDepth 100000
set_option linter.unusedVariables false
attribute [local go_sem ↓] loadAt_hard storeAt_hard loadAt_log1 storeAt_log1 loadAt_conf3 storeAt_conf3
local instance lo5 : Lo := ⟨0⟩
def chgd (h : Hd) (c : Ch) : Option Hd :=
  if c.k = 1 then some { h with t := c.t, v := c.v }
  else if c.k = 2 then (if c.f ≤ h.p.log.base ∨ h.p.log.last < c.f - 1 then none else some { h with p := { h.p with log := { h.p.log with es := h.p.log.es.take (c.f - h.p.log.base - 1).toNat ++ c.p.log.es } } })
  else some { h with p := ⟨sinceM h.p.log c.p.log.base c.p.log.term, c.p.cf, c.p.sn⟩ }
end Go.Proofs.YtfkjahpcpmcefaaGreat.Im
namespace Go.Proofs.YtfkjahpcpmcefaaGreat.Im
open Go Go.RowKit
open Rl (En Lg)
open Qu (Cf)
set_option maxRecDepth 100000
set_option linter.unusedVariables false
attribute [local go_sem ↓] loadAt_hard storeAt_hard loadAt_log1 storeAt_log1 loadAt_conf3 storeAt_conf3
local instance lo6 : Lo := ⟨0⟩
end Go.Proofs.YtfkjahpcpmcefaaGreat.Im
namespace Go.Proofs.YtfkjahpcpmcefaaGreat.Im
open Go Go.RowKit
set_option maxRecDepth 100000
set_option linter.unusedVariables false
attribute [local go_sem ↓] loadAt_hard storeAt_hard
structure At {α : Type} (lt : α → α → Bool) (L : List α) (x : α) (k : Nat) : Prop where
  le : k ≤ L.length
  ahead : ∀ i (h : i < L.length), i < k → lt L[i] x = true
  behind : ∀ i (h : i < L.length), k ≤ i → lt L[i] x = false
structure Bs {α : Type} (lt : α → α → Bool) (L : List α) (x : α) (i j : Nat) : Prop where
  ahead : ∀ a (h : a < L.length), a < i → lt L[a] x = true
  behind : ∀ a (h : a < L.length), j ≤ a → lt L[a] x = false
end Go.Proofs.YtfkjahpcpmcefaaGreat.Im
namespace Go.Proofs.YtfkjahpcpmcefaaGreat.Im
open Go.RowKit
set_option maxRecDepth 100000
set_option linter.unusedVariables false
end Go.Proofs.YtfkjahpcpmcefaaGreat.Im
namespace Go.Proofs.YtfkjahpcpmcefaaGreat.Im
open Go Go.RowKit
set_option maxRecDepth 100000
set_option linter.unusedVariables false
attribute [local go_sem ↓] loadAt_hard storeAt_hard
def ins {α : Type} (lt : α → α → Bool) (L : List α) (x : α) : List α := L.filter (fun y => lt y x) ++ x :: L.filter (fun y => lt x y)
end Go.Proofs.YtfkjahpcpmcefaaGreat.Im
namespace Go.Proofs.YtfkjahpcpmcefaaGreat.Im
open Go Go.RowKit
set_option maxRecDepth 100000
set_option linter.unusedVariables false
end Go.Proofs.YtfkjahpcpmcefaaGreat.Im
namespace Go.Proofs.YtfkjahpcpmcefaaGreat.Im
open Go.RowKit
set_option maxRecDepth 100000
set_option linter.unusedVariables false
end Go.Proofs.YtfkjahpcpmcefaaGreat.Im
namespace Go.Proofs.YtfkjahpcpmcefaaGreat.Im
open Go Go.RowKit
set_option maxRecDepth 100000
set_option linter.unusedVariables false
end Go.Proofs.YtfkjahpcpmcefaaGreat.Im
namespace Go.Proofs.YtfkjahpcpmcefaaGreat.Im
open Go.RowKit
open Rl (En Lg)
open Qu (Cf)
set_option maxRecDepth 100000
set_option linter.unusedVariables false
attribute [local go_sem ↓] loadAt_hard storeAt_hard
local instance lo2 : Lo := ⟨0⟩
structure EvH (w : World) (lo : Nat) (A : Option Addr) (c : Nat) (M : List Hq) (k : Nat) (W : World) (M1 : List Hq) : Prop where
  len : M1.length = k
  row : RowIn cellsH 10 38 W (fun k => w.heap.size ≤ k) A c (M1 ++ M.drop k)
  ch : OwnPts W lo W.heap.size (M1.map fun q => (q.h.p, q.a))
  val : M1.map (·.h) = (M.map (·.h)).take k
  bel : Below w.heap.size w W
  lo : w.heap.size ≤ lo
end Go.Proofs.YtfkjahpcpmcefaaGreat.Im
namespace Go.Proofs.YtfkjahpcpmcefaaGreat.Im
open Go.RowKit
open Rl (En Lg)
open Qu (Cf)
set_option maxRecDepth 100000
set_option linter.unusedVariables false
local instance lo3 : Lo := ⟨0⟩
end Go.Proofs.YtfkjahpcpmcefaaGreat.Im
namespace Go.Proofs.YtfkjahpcpmcefaaGreat.Im
open Go Go.RowKit
open Rl (En Lg)
open Qu (Cf)
set_option maxRecDepth 100000
set_option linter.unusedVariables false
attribute [local go_sem ↓] loadAt_hard storeAt_hard
local instance lo7 : Lo := ⟨0⟩
def apply (x : Im) (c : Ch) : Im × Int :=
  if c.k = 1 ∨ c.k = 2 ∨ c.k = 3 then
    match x.hs.find? (fun h => decide (h.g = c.g)) with
    | none => (⟨[], []⟩, 6)
    | some h => match chgd h c with
      | none => (⟨[], []⟩, 3)
      | some y => (⟨ins ltH x.hs y, x.vs⟩, 0)
  else if c.k = 4 then (⟨x.hs, ins ltV x.vs c.a⟩, 0)
  else (⟨[], []⟩, 13)
section
variable {w W W' : World} {v1 v2 : Value} {c : Ch} {ac : Ad}
end
end Go.Proofs.YtfkjahpcpmcefaaGreat.Im
namespace Go.Proofs.YtfkjahpcpmcefaaGreat.Im
open Go Go.RowKit
open Rl (En Lg)
open Qu (Cf)
set_option maxRecDepth 100000
set_option linter.unusedVariables false
attribute [local go_sem ↓] loadAt_hard storeAt_hard
local instance lo8 : Lo := ⟨0⟩
end Go.Proofs.YtfkjahpcpmcefaaGreat.Im
namespace Go.Proofs.YtfkjahpcpmcefaaGreat
open Go.RowKit
end Go.Proofs.YtfkjahpcpmcefaaGreat
namespace Go.Proofs.YtfkjahpcpmcefaaGreat
open Go.RowKit
def lent (l : List Nat) : List Nat := l ++ List.replicate 5 165
theorem lent_length (l : List Nat) : (lent l).length = l.length + 5 := by simp [lent]
def lentTo (l : List Nat) (k : Nat) : List Nat := (lent l).take k ++ List.replicate (l.length + 5 - k) 0
theorem lentTo_length (l : List Nat) (k : Nat) (h : k ≤ l.length + 5) : (lentTo l k).length = l.length + 5 := by
  unfold lentTo; rw [List.length_append, List.length_take, lent_length, List.length_replicate]; omega
theorem lentTo_end (l : List Nat) : lentTo l (l.length + 5) = lent l := by
  unfold lentTo
  rw [List.take_of_length_le (by rw [lent_length]; omega)]; simp
theorem lentTo_set (l : List Nat) (k : Nat) (h : k < l.length + 5) (x : Nat) (hx : (lent l)[k]? = some x) : (lentTo l k).set k x = lentTo l (k + 1) := by
  unfold lentTo
  have hl : k < (lent l).length := by rw [lent_length]; exact h
  have hk : ((lent l).take k).length = k := by rw [List.length_take]; omega
  rw [List.set_append_right _ _ (by omega), hk, Nat.sub_self, show l.length + 5 - k = (l.length + 5 - (k + 1)) + 1 from by omega, List.replicate_succ, List.set_cons_zero,
    List.take_succ_eq_append_getElem hl, List.append_assoc]
  have : (lent l)[k] = x := by rw [List.getElem?_eq_getElem hl] at hx; injection hx
  rw [this]; rfl
theorem lent_mark (l : List Nat) (k : Nat) (h1 : l.length ≤ k) (h2 : k < l.length + 5) : (lent l)[k]? = some 165 := by
  unfold lent
  rw [List.getElem?_append_right h1, List.getElem?_replicate, if_pos (by omega)]
theorem lent_item (l : List Nat) (k : Nat) (h : k < l.length) : (lent l)[k]? = some l[k] := by
  unfold lent
  rw [List.getElem?_append_left h, List.getElem?_eq_getElem h]
theorem take_lent (l : List Nat) : (lent l).take l.length = l := by
  unfold lent; rw [List.take_left']; rfl
theorem lent_get (l : List Nat) (k : Nat) (h1 : l.length ≤ k) (h2 : k < (lent l).length) : (lent l)[k] = 165 := by
  have := lent_mark l k h1 (by rw [lent_length] at h2; exact h2)
  rw [List.getElem?_eq_getElem h2] at this
  injection this
end Go.Proofs.YtfkjahpcpmcefaaGreat
namespace Go.Proofs.YtfkjahpcpmcefaaGreat
open Go.RowKit
end Go.Proofs.YtfkjahpcpmcefaaGreat
namespace Go.Proofs.YtfkjahpcpmcefaaGreat
open Go.RowKit
end Go.Proofs.YtfkjahpcpmcefaaGreat
namespace Go.Proofs.YtfkjahpcpmcefaaGreat.Im
open Go.RowKit
open Rl (En Lg)
open Qu (Cf)
open Pk (enc encs)
set_option maxRecDepth 100000
set_option linter.unusedVariables false
attribute [local go_sem ↓] loadAt_hard storeAt_hard
structure Putp (B : Nat) (w w' : World) : Prop where
  bel : Below B w w'
  tag : ∀ (k : Nat) (cs : Array Value) (t : TypeId) (fr : Nat × Nat), w.heap[k]? = some (.cells cs t fr) → t ≠ 5 → w'.heap[k]? = some (.cells cs t fr)
theorem Putp.refl (B : Nat) (w : World) : Putp B w w := ⟨Below.refl B w, fun _ _ _ _ h _ => h⟩
theorem Putp.trans {B : Nat} {a b c : World} (h : Putp B a b) (h' : Putp B b c) : Putp B a c := ⟨h.bel.trans h'.bel, fun k cs t fr h1 h2 => h'.tag k cs t fr (h.tag k cs t fr h1 h2) h2⟩
theorem Putp.grown {B c : Nat} {A : Option Addr} {l : List Nat} {a b : World} (ho : OwnsB 5 a B A c l) (hg : a.grownBy b (blk A)) (hB : B ≤ a.heap.size) : Putp B a b :=
  ⟨below_grown hg hB (fun k hk => (ho.blkLt k hk).1), fun k cs t fr h1 h2 => (hg.block k (row_lt h1) (fun e => by
    rcases ho.row.2 with ⟨h0, _⟩ | ⟨g', cap, cur, hv, _, hh, _⟩
    · injection h0 with h0; rw [h0] at e; cases e
    · have hA : A = some ⟨g', 0, none⟩ := by injection hv
      rw [hA] at e
      obtain rfl : k = g' := by injection e
      rw [hh] at h1
      have := Option.some.inj h1
      injection this with _ h3
      exact h2 h3.symm)).trans h1⟩
structure Bq (B : Nat) (w w' : World) (A : Option Addr) (c : Nat) (l : List Nat) (q : Nat) : Prop where
  own : OwnsB 5 w' B A c l
  len : l.length = q
  put : Putp B w w'
  base : B ≤ w'.heap.size
theorem Bq.then_ {B : Nat} {a b c : World} {A A' : Option Addr} {k k' q q' : Nat} {l l' : List Nat} (h : Bq B a b A k l q) (h' : Bq B b c A' k' l' q') : Bq B a c A' k' l' q' := ⟨h'.own, h'.len, h.put.trans h'.put, h'.base⟩
end Go.Proofs.YtfkjahpcpmcefaaGreat.Im
namespace Go.Proofs.YtfkjahpcpmcefaaGreat.Im
open Go.RowKit
open Rl (En Lg)
open Qu (Cf)
open Pk (enc encs)
set_option maxRecDepth 100000
set_option linter.unusedVariables false
attribute [local go_sem ↓] loadAt_hard storeAt_hard
end Go.Proofs.YtfkjahpcpmcefaaGreat.Im
namespace Go.Proofs.YtfkjahpcpmcefaaGreat.Im
open Go.RowKit
open Rl (En Lg)
open Qu (Cf)
open Pk (enc encs)
set_option maxRecDepth 100000
set_option linter.unusedVariables false
attribute [local go_sem ↓] loadAt_hard storeAt_hard
end Go.Proofs.YtfkjahpcpmcefaaGreat.Im
namespace Go.Proofs.YtfkjahpcpmcefaaGreat.Im
open Go.RowKit
open Rl (En Lg)
open Qu (Cf)
open Pk (enc encs)
set_option maxRecDepth 100000
set_option linter.unusedVariables false
attribute [local go_sem ↓] loadAt_hard storeAt_hard
structure Sz (p : Pt) : Prop where
  e : p.log.es.length ≤ 1000000
  d : ∀ e ∈ p.log.es, e.d.length ≤ 1000000000
  o : p.cf.old.length ≤ 1000000
  n : p.cf.new.length ≤ 1000000
  l : p.cf.lrn.length ≤ 1000000
  s : p.sn.length ≤ 1000000000
end Go.Proofs.YtfkjahpcpmcefaaGreat.Im
namespace Go.Proofs.YtfkjahpcpmcefaaGreat.Im
open Go.RowKit
open Rl (En Lg)
open Qu (Cf)
open Pk (enc encs)
set_option maxRecDepth 100000
set_option linter.unusedVariables false
attribute [local go_sem ↓] loadAt_hard storeAt_hard
theorem flat_le {α : Type} (f : α → List Nat) (L : List α) (x : α) (h : x ∈ L) : (f x).length ≤ (L.flatMap f).length := by
  induction L with
  | nil => cases h
  | cons y L ih =>
    rw [List.flatMap_cons, List.length_append]
    rcases List.mem_cons.1 h with rfl | h
    · omega
    · have := ih h; omega
end Go.Proofs.YtfkjahpcpmcefaaGreat.Im
namespace Go.Proofs.YtfkjahpcpmcefaaGreat.Im
open Go.RowKit
open Rl (En Lg)
open Qu (Cf)
open Pk (enc encs)
set_option maxRecDepth 100000
set_option linter.unusedVariables false
attribute [local go_sem ↓] loadAt_hard storeAt_hard
end Go.Proofs.YtfkjahpcpmcefaaGreat.Im
namespace Go.Proofs.YtfkjahpcpmcefaaGreat.Im
open Go.RowKit
open Rl (En Lg)
open Qu (Cf)
open Pk (enc encs)
set_option maxRecDepth 100000
set_option linter.unusedVariables false
attribute [local go_sem ↓] loadAt_hard storeAt_hard
end Go.Proofs.YtfkjahpcpmcefaaGreat.Im
namespace Go.Proofs.YtfkjahpcpmcefaaGreat.Im
open Go.RowKit
open Rl (En Lg)
open Qu (Cf)
open Pk (enc encs)
set_option maxRecDepth 100000
set_option linter.unusedVariables false
attribute [local go_sem ↓] loadAt_hard storeAt_hard
end Go.Proofs.YtfkjahpcpmcefaaGreat.Im
namespace Go.Proofs.YtfkjahpcpmcefaaGreat.Im
open Go.RowKit
open Rl (En Lg)
open Qu (Cf)
open Pk (enc encs)
set_option maxRecDepth 100000
set_option linter.unusedVariables false
end Go.Proofs.YtfkjahpcpmcefaaGreat.Im
namespace Go.Proofs.YtfkjahpcpmcefaaGreat.Im
open Go Go.RowKit
open Rl (En Lg)
open Qu (Cf)
set_option maxRecDepth 100000
set_option linter.unusedVariables false
local instance lo9 : Lo := ⟨0⟩
end Go.Proofs.YtfkjahpcpmcefaaGreat.Im
namespace Go.Proofs.YtfkjahpcpmcefaaGreat.Im
open Go Go.RowKit
open Rl (En Lg)
open Qu (Cf)
set_option maxRecDepth 100000
set_option linter.unusedVariables false
local instance lo10 : Lo := ⟨0⟩
end Go.Proofs.YtfkjahpcpmcefaaGreat.Im
namespace Go.Proofs.YtfkjahpcpmcefaaGreat
open Go.RowKit
def weigh (L : List Rl.En) : Nat := (L.map (fun e => e.d.length)).sum
theorem weigh_take (L : List Rl.En) (k : Nat) (h : k < L.length) : weigh (L.take (k + 1)) = weigh (L.take k) + L[k].d.length := by
  unfold weigh
  rw [List.take_succ_eq_append_getElem h, List.map_append, List.sum_append]; simp
theorem weigh_le (L : List Rl.En) (k : Nat) : weigh (L.take k) ≤ weigh L := by
  conv => rhs; rw [← List.take_append_drop k L]
  unfold weigh
  rw [List.map_append, List.sum_append]; omega
def big (L : List Rl.En) (n m : Nat) : Bool := decide (n < L.length) || decide (m < weigh L)
set_option maxHeartbeats 800000 in
set_option maxRecDepth 100000 in
theorem big_any (B : Nat) (A : Option Addr) (c n : Nat) (L : List Rl.En) (hn : L.length = n) (p q : Nat) (hp : p ≤ 1000000) (hq : q ≤ 1000000) (w : World) (h : IsEnts w B A L) :
    Calls Tryz.prog 52 #[.slice A n c, .int .i64 (p : Int), .int .i64 (q : Int)] w fun e w' => e = .returned (.bool (big L p q)) ∧ w' = w := by
  subst hn
  by_cases h0 : p < L.length
  · have e : big L p q = true := by simp [big, h0]
    rw [e]
    have h01 : (p : Int) < (L.length : Int) := by omega
    clear e h0 h
    go_enter Tryz.func52, Tryz.ntmps52
    go_wp2
    go_ret
    exact ⟨rfl, rfl⟩
  · have h01 : ¬ (p : Int) < (L.length : Int) := by omega
    have HL := hid h0
    have HH := hid h
    clear h0 h
    go_enter Tryz.func52, Tryz.ntmps52
    go_wp2_with fail
    go_loopw [7, 8] (fun s i wr => ∃ k v : Nat, k ≤ L.length ∧ s = .int .i64 v ∧ i = .int .i64 k ∧ v ≤ q ∧ Hid (v = weigh (L.take k)) ∧ wr = w) (fun _ i _ => L.length - (RowKit.intOf i).toNat)
    case atStart => exact ⟨0, 0, by omega, rfl, rfl, by omega, hid rfl, rfl⟩
    case round =>
      obtain ⟨k, v, hk, rfl, rfl, hv, hS, rfl⟩ := hrel
      by_cases hlt : k < L.length
      · obtain ⟨b, off, rfl, _, hc⟩ := HH.out.cells k hlt
        obtain ⟨Ad, cd, d0, d1, d2, hd, hd2, _⟩ := hc k hlt
        have hk0 : (k : Int) < (L.length : Int) := by omega
        have hw := weigh_take L k hlt
        have hw2 := weigh_le L (k + 1)
        have hw3 := hS.out
        obtain ⟨m, hm⟩ : ∃ m, m = L[k].d.length := ⟨_, rfl⟩
        rw [← hm] at d2 hw
        have HM := hid (And.intro hw (And.intro hw2 hw3))
        clear hc d0 d1 hd hd2 hw hw2 hw3 hm
        by_cases hmq : m ≤ q + 1
        · have hmq0 : (m : Int) ≤ (q : Int) + 1 := by omega
          by_cases hb : q < v + m
          · have HE : Hid (big L p q = true) := hid (by
              obtain ⟨hw, hw2, hw3⟩ := HM.out
              unfold big; rw [Bool.or_eq_true, decide_eq_true_iff, decide_eq_true_iff]; right; omega)
            have hb0 : (q : Int) < (v : Int) + (m : Int) := by omega
            go_wp2_with fail
            go_ret
            rw [HE.out]
            exact ⟨rfl, rfl⟩
          · have HV : Hid (v + m = weigh (L.take (k + 1))) := hid (by obtain ⟨hw, hw2, hw3⟩ := HM.out; omega)
            have hb0 : ¬ (q : Int) < (v : Int) + (m : Int) := by omega
            go_wp2_with fail
            go_roundw
            case rel => exact ⟨k + 1, v + m, by omega, by go_num, by go_num, by omega, HV, trivial⟩
            case measure => simp [RowKit.intOf]; omega
        · have hmq0 : ¬ (m : Int) ≤ (q : Int) + 1 := by omega
          have HE : Hid (big L p q = true) := hid (by
            obtain ⟨hw, hw2, hw3⟩ := HM.out
            unfold big; rw [Bool.or_eq_true, decide_eq_true_iff, decide_eq_true_iff]; right; omega)
          go_wp2_with fail
          go_ret
          rw [HE.out]
          exact ⟨rfl, rfl⟩
      · obtain rfl : k = L.length := by omega
        have HE : Hid (big L p q = false) := hid (by
          have e := hS.out
          rw [List.take_length] at e
          have := HL.out
          unfold big; rw [Bool.or_eq_false_iff, decide_eq_false_iff_not, decide_eq_false_iff_not]; omega)
        clear hS
        go_wp2_with fail
        go_ret
        rw [HE.out]
        exact ⟨rfl, rfl⟩
end Go.Proofs.YtfkjahpcpmcefaaGreat
namespace Go.Proofs.YtfkjahpcpmcefaaGreat.Im
open Go Go.RowKit
open Rl (En Lg)
open Qu (Cf)
set_option maxRecDepth 100000
set_option linter.unusedVariables false
local instance lo12 : Lo := ⟨0⟩
attribute [local go_sem ↓] loadAt_hard storeAt_hard
theorem bigConf_any (A0 A1 A2 : Option Addr) (n0 n1 n2 k0 k1 k2 n : Nat) (hn : n ≤ 1000000) (w : World) :
    Calls Tryz.prog 10 #[.agg #[.slice A0 n0 k0, .slice A1 n1 k1, .slice A2 n2 k2], .int .i64 (n : Int)] w fun e w' => e = .returned (.bool (decide (n < n0) || decide (n < n1) || decide (n < n2))) ∧ Below w.heap.size w w' := by
  have hb : Below w.heap.size w (w.alloc (.cells #[.slice A0 n0 k0, .slice A1 n1 k1, .slice A2 n2 k2] 24)) := (Below.refl _ w).alloc (Nat.le_refl _) _
  have HB := hid hb
  clear hb
  by_cases h0 : n < n0
  · have h0' : (n : Int) < (n0 : Int) := by omega
    have HE : Hid ((decide (n < n0) || decide (n < n1) || decide (n < n2)) = true) := hid (by simp [h0])
    rw [HE.out]
    clear h0
    go_enter Tryz.func10, Tryz.ntmps10
    go_wp2_with fail
    go_ret
    exact ⟨rfl, HB.out⟩
  · have h0' : ¬ (n : Int) < (n0 : Int) := by omega
    by_cases h1 : n < n1
    · have h1' : (n : Int) < (n1 : Int) := by omega
      have HE : Hid ((decide (n < n0) || decide (n < n1) || decide (n < n2)) = true) := hid (by simp [h1])
      rw [HE.out]
      clear h0 h1
      go_enter Tryz.func10, Tryz.ntmps10
      go_wp2_with fail
      go_ret
      exact ⟨rfl, HB.out⟩
    · have h1' : ¬ (n : Int) < (n1 : Int) := by omega
      by_cases h2 : n < n2
      · have h2' : (n : Int) < (n2 : Int) := by omega
        have HE : Hid ((decide (n < n0) || decide (n < n1) || decide (n < n2)) = true) := hid (by simp [h2])
        rw [HE.out]
        clear h0 h1 h2
        go_enter Tryz.func10, Tryz.ntmps10
        go_wp2_with fail
        go_ret
        exact ⟨rfl, HB.out⟩
      · have h2' : ¬ (n : Int) < (n2 : Int) := by omega
        have HE : Hid ((decide (n < n0) || decide (n < n1) || decide (n < n2)) = false) := hid (by simp [h0, h1, h2])
        rw [HE.out]
        clear h0 h1 h2
        go_enter Tryz.func10, Tryz.ntmps10
        go_wp2_with fail
        go_ret
        exact ⟨rfl, HB.out⟩
def bigCf (f : Cf) (n : Nat) : Bool := decide (n < f.old.length) || decide (n < f.new.length) || decide (n < f.lrn.length)
theorem hard_new (w : World) (x : Hd) (ad : Ad) : Below w.heap.size w (w.alloc (.cells #[.int .i64 x.g, .int .i64 x.t, .int .i64 x.v, .int .i64 x.p.log.base, .int .i64 x.p.log.term, .slice ad.e x.p.log.es.length ad.ce, .slice ad.o x.p.cf.old.length ad.co, .slice ad.n x.p.cf.new.length ad.cn, .slice ad.l x.p.cf.lrn.length ad.cl, .slice ad.s x.p.sn.length ad.cs] 38)) := (Below.refl _ w).alloc (Nat.le_refl _) _
end Go.Proofs.YtfkjahpcpmcefaaGreat.Im
namespace Go.Proofs.YtfkjahpcpmcefaaGreat.Im
open Go Go.RowKit
open Rl (En Lg)
open Qu (Cf)
set_option maxRecDepth 100000
set_option linter.unusedVariables false
attribute [local go_sem ↓] loadAt_hard storeAt_hard loadAt_log1 storeAt_log1 loadAt_conf3 storeAt_conf3
local instance lo14 : Lo := ⟨0⟩
set_option maxHeartbeats 3200000 in
theorem copyH_any (x : Hd) (ad : Ad) (hf : FewK x.p ∧ Rl.Few x.p.log.es) (hsn : x.p.sn.length ≤ 140737488355328) (w : World) (h : IsPt w w.heap.size x.p ad) :
    Calls Tryz.prog 28 #[.agg #[.int .i64 x.g, .int .i64 x.t, .int .i64 x.v, .int .i64 x.p.log.base, .int .i64 x.p.log.term, .slice ad.e x.p.log.es.length ad.ce, .slice ad.o x.p.cf.old.length ad.co, .slice ad.n x.p.cf.new.length ad.cn, .slice ad.l x.p.cf.lrn.length ad.cl, .slice ad.s x.p.sn.length ad.cs]] w fun e w' => ∃ a' : Ad, e = .returned (.agg #[.int .i64 x.g, .int .i64 x.t, .int .i64 x.v, .int .i64 x.p.log.base, .int .i64 x.p.log.term, .slice a'.e x.p.log.es.length a'.ce, .slice a'.o x.p.cf.old.length a'.co, .slice a'.n x.p.cf.new.length a'.cn, .slice a'.l x.p.cf.lrn.length a'.cl, .slice a'.s x.p.sn.length a'.cs]) ∧ OwnPt w' w.heap.size w'.heap.size x.p a' ∧ Below w.heap.size w w' := by
  obtain ⟨wA, hwA⟩ : ∃ wA, wA = (w.alloc (.cells #[.int .i64 x.g, .int .i64 x.t, .int .i64 x.v, .int .i64 x.p.log.base, .int .i64 x.p.log.term, .slice ad.e x.p.log.es.length ad.ce, .slice ad.o x.p.cf.old.length ad.co, .slice ad.n x.p.cf.new.length ad.cn, .slice ad.l x.p.cf.lrn.length ad.cl, .slice ad.s x.p.sn.length ad.cs] 38)).alloc (.cells #[.int .i64 0, .int .i64 0, .int .i64 0, .int .i64 0, .int .i64 0, .slice none 0 0, .slice none 0 0, .slice none 0 0, .slice none 0 0, .slice none 0 0] 38) := ⟨_, rfl⟩
  obtain ⟨b0, hb0⟩ : ∃ b, b = w.heap.size := ⟨_, rfl⟩
  obtain ⟨b1, hb1⟩ : ∃ b, b = w.heap.size + 1 := ⟨_, rfl⟩
  have hsA : wA.heap.size = w.heap.size + 2 := by rw [hwA]; simp
  have hbA : Below w.heap.size w wA := by rw [hwA]; exact ((Below.refl _ w).alloc (Nat.le_refl _) _).alloc (by simp) _
  have hr0 : wA.heap[b0]? = some (.cells #[.int .i64 x.g, .int .i64 x.t, .int .i64 x.v, .int .i64 x.p.log.base, .int .i64 x.p.log.term, .slice ad.e x.p.log.es.length ad.ce, .slice ad.o x.p.cf.old.length ad.co, .slice ad.n x.p.cf.new.length ad.cn, .slice ad.l x.p.cf.lrn.length ad.cl, .slice ad.s x.p.sn.length ad.cs] 38 (0, 0)) := by rw [hwA, heap_alloc_old _ _ (by rw [hb0]; simp), hb0]; exact heap_alloc_new w _
  have hr1 : wA.heap[b1]? = some (.cells #[.int .i64 0, .int .i64 0, .int .i64 0, .int .i64 0, .int .i64 0, .slice none 0 0, .slice none 0 0, .slice none 0 0, .slice none 0 0, .slice none 0 0] 38 (0, 0)) := by
    have := heap_alloc_new (w.alloc (.cells #[.int .i64 x.g, .int .i64 x.t, .int .i64 x.v, .int .i64 x.p.log.base, .int .i64 x.p.log.term, .slice ad.e x.p.log.es.length ad.ce, .slice ad.o x.p.cf.old.length ad.co, .slice ad.n x.p.cf.new.length ad.cn, .slice ad.l x.p.cf.lrn.length ad.cl, .slice ad.s x.p.sn.length ad.cs] 38)) (.cells #[.int .i64 0, .int .i64 0, .int .i64 0, .int .i64 0, .int .i64 0, .slice none 0 0, .slice none 0 0, .slice none 0 0, .slice none 0 0, .slice none 0 0] 38)
    rw [World.size_alloc, ← hwA, ← hb1] at this
    exact this
  have HL := hid (copyLog_any x.p.log ad.e ad.ce x.p.log.es.length rfl hf.1.es hf.2 wA ((h.es.below hbA).more hbA.size))
  have ld0 := ldLogH (k := 3) hr0 rfl rfl rfl
  rw [hwA, hb0] at ld0
  have H0 := hid (And.intro hr0 (And.intro hr1 (And.intro hbA (And.intro hsA (And.intro hb0 hb1)))))
  have HP := hid (And.intro h hf)
  have HSN := hid hsn
  clear hr0 hr1 hbA hsA h hf hsn
  go_enter Tryz.func28, Tryz.ntmps28
  go_wp2_with fail
  rw [← hwA]
  clear hwA ld0
  refine HL.out.mono ?_
  rintro e w1 ⟨A5, c5, rfl, ho1, hb1w⟩
  rw [← hb1, ← hb0]
  have hne : b0 ≠ b1 := by omega
  have z0 := H0.out.2.2.2.1
  have hb0A : b0 < wA.heap.size := by omega
  have hb1A : b1 < wA.heap.size := by omega
  have hlo0 : w.heap.size ≤ b0 := by omega
  have hlo1 : w.heap.size ≤ b1 := by omega
  have hAsz : w.heap.size ≤ wA.heap.size := by omega
  clear hb0 hb1 z0
  obtain ⟨ad1, had1⟩ : ∃ a : Ad, a = { ad with e := A5, ce := c5 } := ⟨_, rfl⟩
  have hr01 := (hb1w.block _ (by omega)).trans H0.out.1
  have hr11 := (hb1w.block _ (by omega)).trans H0.out.2.1
  have hst1 := stAt info_log33 (conf_there hr01 3 3 (by simp)) #[.int .i64 x.p.log.base, .int .i64 x.p.log.term, .slice A5 x.p.log.es.length c5] rfl (by simp [Value.oneCell'])
  have hT2 := turned_setCells b0 [.int .i64 x.p.log.base, .int .i64 x.p.log.term, .slice A5 x.p.log.es.length c5] w1 3
  have hr02 : (w1.setCells b0 3 [.int .i64 x.p.log.base, .int .i64 x.p.log.term, .slice A5 x.p.log.es.length c5]).heap[b0]? = some (.cells #[.int .i64 x.g, .int .i64 x.t, .int .i64 x.v, .int .i64 x.p.log.base, .int .i64 x.p.log.term, .slice ad1.e x.p.log.es.length ad1.ce, .slice ad1.o x.p.cf.old.length ad1.co, .slice ad1.n x.p.cf.new.length ad1.cn, .slice ad1.l x.p.cf.lrn.length ad1.cl, .slice ad1.s x.p.sn.length ad1.cs] 38 (0, 0)) := by
    rw [had1]
    exact row_set (row_set (row_set hr01 3 (.int .i64 x.p.log.base)) 4 (.int .i64 x.p.log.term)) 5 (.slice A5 x.p.log.es.length c5)
  obtain ⟨w2, hw2⟩ : ∃ w2, w2 = w1.setCells b0 3 [.int .i64 x.p.log.base, .int .i64 x.p.log.term, .slice A5 x.p.log.es.length c5] := ⟨_, rfl⟩
  have hst1' : (stX 36 (.pointer (some ⟨b0, 3, none⟩)) (.agg #[.int .i64 x.p.log.base, .int .i64 x.p.log.term, .slice A5 x.p.log.es.length c5])).run Tryz.prog w1 = .ok () w2 := by rw [hw2]; exact hst1
  rw [← hw2] at hT2 hr02
  clear hst1 hw2
  have hr12 := (hT2.block b1 (row_lt hr11) (by omega)).trans hr11
  have hbel1 : Below w.heap.size w w1 := H0.out.2.2.1.trans (hb1w.mono (by omega))
  have hbel2 : Below w.heap.size w w2 := hbel1.trans (hT2.below hbel1.size (fun k hk => by omega))
  have ld2 := ldConfH (k := 6) hr02 rfl rfl rfl
  have HC := hid (copyConf_sep w.heap.size x.p.cf HP.out.2.1.sh ad.o ad.n ad.l ad.co ad.cn ad.cl w2 (HP.out.1.cis.below hbel2) hbel2.size)
  have e1o : ad1.o = ad.o ∧ ad1.co = ad.co ∧ ad1.n = ad.n ∧ ad1.cn = ad.cn ∧ ad1.l = ad.l ∧ ad1.cl = ad.cl := by rw [had1]; exact ⟨rfl, rfl, rfl, rfl, rfl, rfl⟩
  rw [e1o.1, e1o.2.1, e1o.2.2.1, e1o.2.2.2.1, e1o.2.2.2.2.1, e1o.2.2.2.2.2] at ld2
  have H2 := hid (And.intro hr02 (And.intro hr12 (And.intro hbel2 (And.intro ho1 (And.intro hT2 (And.intro hb1w had1))))))
  clear hr01 hr11 hT2 hr02 hr12 hbel1 hbel2 e1o ho1 hb1w had1
  go_wp2_with fail
  refine HC.out.mono ?_
  rintro e w3 ⟨B0, B1, B2, p0, p1, p2, rfl, ⟨m1, m2, ⟨g1, g2, g3⟩, o0, o1, o2⟩, hcis, hb3⟩
  obtain ⟨ad2, had2⟩ : ∃ a : Ad, a = { ad1 with o := B0, co := p0, n := B1, cn := p1, l := B2, cl := p2 } := ⟨_, rfl⟩
  have hr03 := (hb3.block _ (row_lt H2.out.1)).trans H2.out.1
  have hr13 := (hb3.block _ (row_lt H2.out.2.1)).trans H2.out.2.1
  have hst3 := stAt info_conf33 (conf_there hr03 6 3 (by simp)) #[.slice B0 x.p.cf.old.length p0, .slice B1 x.p.cf.new.length p1, .slice B2 x.p.cf.lrn.length p2] rfl (by simp [Value.oneCell'])
  have hT4 := turned_setCells b0 [.slice B0 x.p.cf.old.length p0, .slice B1 x.p.cf.new.length p1, .slice B2 x.p.cf.lrn.length p2] w3 6
  have hr04 : (w3.setCells b0 6 [.slice B0 x.p.cf.old.length p0, .slice B1 x.p.cf.new.length p1, .slice B2 x.p.cf.lrn.length p2]).heap[b0]? = some (.cells #[.int .i64 x.g, .int .i64 x.t, .int .i64 x.v, .int .i64 x.p.log.base, .int .i64 x.p.log.term, .slice ad2.e x.p.log.es.length ad2.ce, .slice ad2.o x.p.cf.old.length ad2.co, .slice ad2.n x.p.cf.new.length ad2.cn, .slice ad2.l x.p.cf.lrn.length ad2.cl, .slice ad2.s x.p.sn.length ad2.cs] 38 (0, 0)) := by
    rw [had2]
    exact row_set (row_set (row_set hr03 6 (.slice B0 x.p.cf.old.length p0)) 7 (.slice B1 x.p.cf.new.length p1)) 8 (.slice B2 x.p.cf.lrn.length p2)
  obtain ⟨w4, hw4⟩ : ∃ w4, w4 = w3.setCells b0 6 [.slice B0 x.p.cf.old.length p0, .slice B1 x.p.cf.new.length p1, .slice B2 x.p.cf.lrn.length p2] := ⟨_, rfl⟩
  have hst3' : (stX 24 (.pointer (some ⟨b0, 6, none⟩)) (.agg #[.slice B0 x.p.cf.old.length p0, .slice B1 x.p.cf.new.length p1, .slice B2 x.p.cf.lrn.length p2])).run Tryz.prog w3 = .ok () w4 := by rw [hw4]; exact hst3
  rw [← hw4] at hT4 hr04
  clear hst3 hw4
  have hr14 := (hT4.block b1 (row_lt hr13) (by omega)).trans hr13
  have hbel3 : Below w.heap.size w w3 := H2.out.2.2.1.trans (hb3.mono H2.out.2.2.1.size)
  have hbel4 : Below w.heap.size w w4 := hbel3.trans (hT4.below hbel3.size (fun k hk => by omega))
  have e2s : ad2.s = ad.s ∧ ad2.cs = ad.cs := by rw [had2, H2.out.2.2.2.2.2.2]; exact ⟨rfl, rfl⟩
  have c9 : w4.cell? ⟨b0, 9, none⟩ = some (.slice ad2.s x.p.sn.length ad2.cs) := row_cell hr04 9
  rw [e2s.1, e2s.2] at c9
  have hrs := HP.out.1.rs.1
  have HS := hid (copy_N w.heap.size ad.s ad.cs x.p.sn x.p.sn.length rfl (HSN.out) w4 (HP.out.1.s.below hbel4) hbel4.size)
  have H4 := hid (And.intro hr04 (And.intro hr14 (And.intro hbel4 (And.intro hT4 (And.intro hb3 (And.intro had2 (And.intro (show w2.heap.size ≤ m1 ∧ m1 ≤ m2 ∧ m2 ≤ w3.heap.size from ⟨g1, g2, g3⟩) (And.intro o0 (And.intro o1 o2)))))))))
  clear hr03 hr13 hT4 hr04 hr14 hbel3 hbel4 hb3 had2 g1 g2 g3 o0 o1 o2 hcis e2s hrs hst1' ld2
  go_wp2_with fail
  refine HS.out.mono ?_
  rintro e w5 ⟨A9, c9', rfl, ho5, hb5⟩
  have hr05 := (hb5.block _ (row_lt H4.out.1)).trans H4.out.1
  have hr15 := (hb5.block _ (row_lt H4.out.2.1)).trans H4.out.2.1
  have hc5 := row_cell hr05 9
  have hf5 := row_free hr05 9
  obtain ⟨ad3, had3⟩ : ∃ a : Ad, a = { ad2 with s := A9, cs := c9' } := ⟨_, rfl⟩
  have hr06 : (w5.setCell ⟨b0, 9, none⟩ (.slice A9 x.p.sn.length c9')).heap[b0]? = some (.cells #[.int .i64 x.g, .int .i64 x.t, .int .i64 x.v, .int .i64 x.p.log.base, .int .i64 x.p.log.term, .slice ad3.e x.p.log.es.length ad3.ce, .slice ad3.o x.p.cf.old.length ad3.co, .slice ad3.n x.p.cf.new.length ad3.cn, .slice ad3.l x.p.cf.lrn.length ad3.cl, .slice ad3.s x.p.sn.length ad3.cs] 38 (0, 0)) := by rw [had3]; exact row_set hr05 9 (.slice A9 x.p.sn.length c9')
  have hT6 : Turned (fun k => k = b0) w5 (w5.setCell ⟨b0, 9, none⟩ (.slice A9 x.p.sn.length c9')) := Turned.one _ _ _ _
  have hr16 := (hT6.block b1 (row_lt hr15) (by omega)).trans hr15
  have hc5' : w5.cell? ⟨b0, 9, none⟩ = some (.slice ad2.s x.p.sn.length ad2.cs) := hc5
  clear hc5
  generalize hw6 : w5.setCell ⟨b0, 9, none⟩ (.slice A9 x.p.sn.length c9') = w6 at *
  have ld6 := ldRow info_hard Tryz.underlying38 rfl hr06 rfl
  have hst6 := stRow info_hard (cs' := #[.int .i64 x.g, .int .i64 x.t, .int .i64 x.v, .int .i64 x.p.log.base, .int .i64 x.p.log.term, .slice ad3.e x.p.log.es.length ad3.ce, .slice ad3.o x.p.cf.old.length ad3.co, .slice ad3.n x.p.cf.new.length ad3.cn, .slice ad3.l x.p.cf.lrn.length ad3.cl, .slice ad3.s x.p.sn.length ad3.cs]) hr16 rfl rfl (by simp [Value.oneCell'])
  have r7 := setRow_heap w6 b1 _ #[.int .i64 x.g, .int .i64 x.t, .int .i64 x.v, .int .i64 x.p.log.base, .int .i64 x.p.log.term, .slice ad3.e x.p.log.es.length ad3.ce, .slice ad3.o x.p.cf.old.length ad3.co, .slice ad3.n x.p.cf.new.length ad3.cn, .slice ad3.l x.p.cf.lrn.length ad3.cl, .slice ad3.s x.p.sn.length ad3.cs] _ _ hr16
  have hT7 := row_turned w6 b1 #[.int .i64 x.g, .int .i64 x.t, .int .i64 x.v, .int .i64 x.p.log.base, .int .i64 x.p.log.term, .slice ad3.e x.p.log.es.length ad3.ce, .slice ad3.o x.p.cf.old.length ad3.co, .slice ad3.n x.p.cf.new.length ad3.cn, .slice ad3.l x.p.cf.lrn.length ad3.cl, .slice ad3.s x.p.sn.length ad3.cs]
  generalize w6.setRow b1 #[.int .i64 x.g, .int .i64 x.t, .int .i64 x.v, .int .i64 x.p.log.base, .int .i64 x.p.log.term, .slice ad3.e x.p.log.es.length ad3.ce, .slice ad3.o x.p.cf.old.length ad3.co, .slice ad3.n x.p.cf.new.length ad3.cn, .slice ad3.l x.p.cf.lrn.length ad3.cl, .slice ad3.s x.p.sn.length ad3.cs] = w7 at *
  have HE : Hid (w7.heap[b1]? = some (.cells #[.int .i64 x.g, .int .i64 x.t, .int .i64 x.v, .int .i64 x.p.log.base, .int .i64 x.p.log.term, .slice ad3.e x.p.log.es.length ad3.ce, .slice ad3.o x.p.cf.old.length ad3.co, .slice ad3.n x.p.cf.new.length ad3.cn, .slice ad3.l x.p.cf.lrn.length ad3.cl, .slice ad3.s x.p.sn.length ad3.cs] 38 (0, 0)) ∧ OwnPt w7 w.heap.size w7.heap.size x.p ad3 ∧ Below w.heap.size w w7) := hid (by
    obtain ⟨g1, g2, g3⟩ := H4.out.2.2.2.2.2.2.1
    obtain ⟨o0, o1, o2⟩ := H4.out.2.2.2.2.2.2.2
    have q1 := H2.out.2.2.2.2.2.1.size
    have q2 := H2.out.2.2.2.2.1.size
    have q3 := H4.out.2.2.2.2.1.size
    have q4 := H4.out.2.2.2.1.size
    have q5 := hb5.size
    have q6 := hT6.size
    have q7 := hT7.size
    have T57 : Turned (fun k => k = b0 ∨ k = b1) w5 w7 := (hT6.mono (fun k hk => .inl hk)).trans (hT7.mono (fun k hk => .inr hk))
    have T47 : Turned (fun k => k = b0 ∨ k = b1) w4 w7 := (Turned.ofBelow _ hb5).trans T57
    have T37 : Turned (fun k => k = b0 ∨ k = b1) w3 w7 := (H4.out.2.2.2.1.mono (fun k hk => .inl hk)).trans T47
    have T27 : Turned (fun k => k = b0 ∨ k = b1) w2 w7 := (Turned.ofBelow _ H4.out.2.2.2.2.1).trans T37
    have T17 : Turned (fun k => k = b0 ∨ k = b1) w1 w7 := (H2.out.2.2.2.2.1.mono (fun k hk => .inl hk)).trans T27
    have hno : ∀ k, wA.heap.size ≤ k → ¬ (k = b0 ∨ k = b1) := fun k hk e => by omega
    have ead : ad3.e = A5 ∧ ad3.ce = c5 ∧ ad3.o = B0 ∧ ad3.co = p0 ∧ ad3.n = B1 ∧ ad3.cn = p1 ∧ ad3.l = B2 ∧ ad3.cl = p2 ∧ ad3.s = A9 ∧ ad3.cs = c9' := by
      rw [had3, H4.out.2.2.2.2.2.1, H2.out.2.2.2.2.2.2]; exact ⟨rfl, rfl, rfl, rfl, rfl, rfl, rfl, rfl, rfl, rfl⟩
    obtain ⟨f1, f2, f3, f4, f5, f6, f7, f8, f9, f10⟩ := ead
    refine ⟨r7, ⟨w1.heap.size, m1, m2, w3.heap.size, ⟨by omega, by omega, g2, g3, by omega⟩, ?_, ?_, ?_, ?_, ?_, HP.out.1.num⟩, ?_⟩
    · rw [f1, f2]
      exact (H2.out.2.2.2.1.keep T17 (fun k hk hBl => hno k hBl.1 hk)).wide (by omega) (Nat.le_refl _)
    · rw [f3, f4]
      exact ⟨(ownsI_turned o0.1 T37 (fun k hk => hno k (by have := (o0.1.blkLt k hk).1; omega))).weaken (by omega), o0.2⟩
    · rw [f5, f6]
      exact ⟨ownsI_turned o1.1 T37 (fun k hk => hno k (by have := (o1.1.blkLt k hk).1; omega)), o1.2⟩
    · rw [f7, f8]
      exact ⟨ownsI_turned o2 T37 (fun k hk => hno k (by have := (o2.blkLt k hk).1; omega)), fun k hk => (o2.blkLt k hk).2⟩
    · rw [f9, f10]
      exact ⟨(ho5.turned T57 (fun k hk => hno k (by have := (ho5.blkLt k hk).1; omega))).weaken (by omega), fun k hk => by have := (ho5.blkLt k hk).2; omega⟩
    · have hbel5 : Below w.heap.size w w5 := H4.out.2.2.1.trans (hb5.mono H4.out.2.2.1.size)
      exact hbel5.trans (T57.below hbel5.size (fun k hk => by omega)))
  clear hr05 hr15 hr06 hT6 hr16 r7 hT7 ho5 hb5 had3 hst3' c9
  go_wp2_with fail
  refine bodyPost_ret (results_cell_row rfl _ _ b1 _ _ _ _ rfl HE.out.1 Tryz.underlying38 rfl (by rw [info_hard]; rfl)) rfl ?_
  exact ⟨ad3, rfl, HE.out.2⟩
end Go.Proofs.YtfkjahpcpmcefaaGreat.Im
