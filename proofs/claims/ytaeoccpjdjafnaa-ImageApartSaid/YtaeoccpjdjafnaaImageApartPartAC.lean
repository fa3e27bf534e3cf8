/- Texts of the proof, one behind the other: ImRdF, ImRdG, RegInv, ImReg, ImRdH0, ImRdH, ImRdJ, ImRdI, ImRdK, ImRdL, KitEnEq, KitSame, KitEnCopy, KitLog, KitPick. -/
import Derived.Test.YtaeoccpjdjafnaaImageApartPartAB
import Derived.Deep.RegionWith
import Derived.Deep.RegionHeld3
import Derived.Great.BuildSlice
import Derived.Test.YtaeoccpjdjafnaaImageApartPartAA
import Derived.Deep.CutRange
import Derived.StillTailTactics
import Derived.Deep.QuietTactic
import Derived.BigQuiet
import Derived.Test.YtaeoccpjdjafnaaRows
namespace Go.Proofs.Ytaeoccpjdjafnaa.Im
open Go.RowKit
open Rl (En Lg)
open Qu (Cf)
set_option linter.unusedSectionVars false
variable [Lo]
set_option maxRecDepth 100000
set_option linter.unusedVariables false
theorem Kq.ownE {W W' : World} (h : Kq W.heap.size W W') {B N c : Nat} {A : Option Addr} {L : List En} (ho : OwnE W B N A c L) : OwnE W' B N A c L := by
  obtain ⟨M, h1, h2⟩ := ho
  exact ⟨M, h1, h.rowIn h2.row (by decide) (by decide), fun q hq => ⟨h.ownB (h2.own q hq).1, (h2.own q hq).2⟩, h2.apart, h2.num⟩
theorem Rt.belowB {W W' : World} {G g B : Nat} {s : Pk.St} (h : Rt W G g s) (hG : G < B) (hg : g < B) (hb : Below B W W') : Rt W' G g s := ⟨(hb.block G hG).trans h.box, ⟨h.ro.rdr.below (hb.mono hg), h.ro.ord, h.ro.lo⟩, h.lo⟩
theorem rdE_short (s : Pk.St) : (rdE s).2.rest.length ≤ s.rest.length := (codE 100000000 (by decide)).short s
theorem rdE_good (s : Pk.St) (h : s.small) : InInt (rdE s).1.t ∧ InInt (rdE s).1.k := by
  rw [(rdE_eq s).1]
  exact ⟨Pk.rdInt_in s h, Pk.rdInt_in _ (Pk.rdInt_small s h)⟩
structure LpE (w : World) (G g : Nat) (s : Pk.St) (A : Option Addr) (c : Nat) (L : List En) (m : Int) (s' : Pk.St) (W : World) : Prop where
  rk : Rk G g 10000000 s' w W
  own : OwnE W w.heap.size W.heap.size A c L
  val : L ++ (rdN rdE m.toNat s').1 = (rdL rdE s).1 ∧ (rdN rdE m.toNat s').2 = (rdL rdE s).2
  few : 0 < m → s'.bad = false → (L.length : Int) + m ≤ 1250000
  rest : s'.rest.length ≤ 10000000
set_option maxHeartbeats 3200000 in
theorem rEs_any (G g : Nat) (s : Pk.St) (hl : s.rest.length ≤ 10000000) (w : World) (h : Rt w G g s) :
    Calls Try.prog 124 #[.pointer (some ⟨G, 0, none⟩), .func (.func 125) #[.pointer (some ⟨G, 0, none⟩)] #[]] w fun e w' => ∃ A c n, e = .returned (.slice A n c) ∧ n = (rdL rdE s).1.length ∧
      OwnE w' w.heap.size w'.heap.size A c (rdL rdE s).1 ∧ Rk G g 10000000 (rdL rdE s).2 w w' := by
  have HI := hid (int_rdr g s w h.ro.rdr)
  have hin := Pk.rdInt_in s h.ro.rdr.small
  have hsh := Pk.rdInt_short s
  have H := hid h
  have HD : Hid (∀ (v : Int) (s1 : Pk.St), v = (Pk.rdInt s).1 → s1 = (Pk.rdInt s).2 → rdL rdE s = if v < 0 ∨ ((s1.rest.length / 8 : Nat) : Int) < v then ([], Pk.gone) else rdN rdE v.toNat s1) := hid (by rintro v s1 rfl rfl; rfl)
  have ST : Hid (∀ (v : Int) (s1 : Pk.St) (w1 : World), v = (Pk.rdInt s).1 → s1 = (Pk.rdInt s).2 → Rdr w1 g (Pk.rdInt s).2 → w.grownBy w1 (some g) → Rt w1 G g s1 ∧ Kq w.heap.size w w1) := hid (by
    rintro v s1 w1 rfl rfl hr hg
    exact H.out.step hr hg (fun e => by subst e; rfl))
  obtain ⟨s1, hs1⟩ : ∃ s1, s1 = (Pk.rdInt s).2 := ⟨_, rfl⟩
  obtain ⟨v, hv⟩ : ∃ v, v = (Pk.rdInt s).1 := ⟨_, rfl⟩
  rw [← hs1] at HI hsh
  rw [← hv] at HI hin
  have HD2 := hid (HD.out v s1 hv hs1)
  have ST2 : Hid (∀ (w1 : World), Rdr w1 g s1 → w.grownBy w1 (some g) → Rt w1 G g s1 ∧ Kq w.heap.size w w1) := hid (fun w1 hr hg => ST.out v s1 w1 hv hs1 (hs1 ▸ hr) hg)
  clear hs1 hv HD ST h
  have hin1 := hin.1
  have hin2 := hin.2
  have HS : Hid (s1.rest.length ≤ 10000000) := hid (by omega)
  have hs1l : s1.rest.length ≤ 10000000 := HS.out
  by_cases hneg : v < 0
  · skip
    have HF : Hid (rdL rdE s = ([], Pk.gone)) := hid (by rw [HD2.out, if_pos (by omega)])
    have hcell := H.out.cell
    clear hin hl hsh
    go_enter Try.func124, Try.ntmps124
    go_wp2_with fail
    refine HI.out.mono ?_
    rintro e w1 ⟨rfl, hR, hG⟩
    obtain ⟨hrt, hkq⟩ := ST2.out w1 hR hG
    have hc1 := hrt.cell
    have HSP := hid (spoilR_any G g 10000000 s1 HS.out w1 hrt)
    have HKQ := hid hkq
    clear hR hG hrt hkq hcell
    go_wp2_with fail
    refine HSP.out.mono ?_
    rintro e w3 ⟨rfl, hk3⟩
    have HR3 : Hid (Rk G g 10000000 Pk.gone w w3) := hid ⟨hk3.at_, hk3.old, HKQ.out.trans (hk3.kq.mono HKQ.out.size)⟩
    clear hk3 hc1 HSP
    go_wp2_with fail
    go_loopw [5, 6] (fun i l wr => i = .int .i64 v ∧ l = .slice none 0 0 ∧ Hid (Rk G g 10000000 Pk.gone w wr)) (fun _ _ _ => 0)
    case atStart => exact ⟨rfl, rfl, HR3⟩
    case round =>
      clear HR3
      obtain ⟨rfl, rfl, HR⟩ := hrel
      go_wp2_with fail
      go_ret
      rw [HF.out]
      exact ⟨none, 0, 0, rfl, rfl, OwnE.nil _ _ _, HR.out⟩
  · by_cases hgt : ((s1.rest.length : Int) / 8) < v
    · skip
      have hv0 : 0 < v := by omega
      have HF : Hid (rdL rdE s = ([], Pk.gone)) := hid (by rw [HD2.out, if_pos (by omega)])
      have hcell := H.out.cell
      clear hin hl hsh
      go_enter Try.func124, Try.ntmps124
      go_wp2_with fail
      refine HI.out.mono ?_
      rintro e w1 ⟨rfl, hR, hG⟩
      obtain ⟨hrt, hkq⟩ := ST2.out w1 hR hG
      have hc1 := hrt.cell
      have HLF := hid (left_rdr g s1 w1 hR)
      have HSP := hid (spoilR_any G g 10000000 s1 HS.out w1 hrt)
      have HKQ := hid hkq
      clear hR hG hrt hkq hcell
      go_wp2_with fail
      refine HLF.out.mono ?_
      rintro e w2 ⟨rfl, rfl⟩
      go_wp2_with fail
      refine HSP.out.mono ?_
      rintro e w3 ⟨rfl, hk3⟩
      have HR3 : Hid (Rk G g 10000000 Pk.gone w w3) := hid ⟨hk3.at_, hk3.old, HKQ.out.trans (hk3.kq.mono HKQ.out.size)⟩
      clear hk3 hc1 HSP
      go_wp2_with fail
      go_loopw [5, 6] (fun i l wr => i = .int .i64 v ∧ l = .slice none 0 0 ∧ Hid (Rk G g 10000000 Pk.gone w wr)) (fun _ _ _ => 0)
      case atStart => exact ⟨rfl, rfl, HR3⟩
      case round =>
        clear HR3
        obtain ⟨rfl, rfl, HR⟩ := hrel
        obtain ⟨g', hrt, hgg⟩ := HR.out.at_
        have hc := hrt.cell
        have HB : Hid (Calls Try.prog 106 #[.pointer (some ⟨g', 0, none⟩)] wr fun e w' => e = .returned (.bool true) ∧ wr = w') := hid (bad_rdr g' Pk.gone wr hrt.ro.rdr)
        clear hrt hgg
        go_wp2_with fail
        refine HB.out.mono ?_
        rintro e w4 ⟨rfl, rfl⟩
        go_wp2_with fail
        go_ret
        rw [HF.out]
        exact ⟨none, 0, 0, rfl, rfl, OwnE.nil _ _ _, HR.out⟩
    · have hv0 : 0 ≤ v := by omega
      have START : Hid (∀ W, Rt W G g s1 → Kq w.heap.size w W → LpE w G g s none 0 [] v s1 W) := hid (fun W hr hk => ⟨Rk.of (s := s1) hr HS.out hk, OwnE.nil _ _ _, by rw [HD2.out, if_neg (by omega)]; exact ⟨rfl, rfl⟩, fun _ _ => by show ((0 : Nat) : Int) + v ≤ 1250000; omega, HS.out⟩)
      have hcell := H.out.cell
      clear hin hl hsh
      go_enter Try.func124, Try.ntmps124
      go_wp2_with fail
      refine HI.out.mono ?_
      rintro e w1 ⟨rfl, hR, hG⟩
      obtain ⟨hrt, hkq⟩ := ST2.out w1 hR hG
      have hc1 := hrt.cell
      have HLF := hid (left_rdr g s1 w1 hR)
      have HS1 := hid (START.out w1 hrt hkq)
      clear hR hG hrt hkq hcell
      go_wp2_with fail
      refine HLF.out.mono ?_
      rintro e w2 ⟨rfl, rfl⟩
      go_wp2_with fail
      go_loopw [5, 6] (fun i l wr => ∃ (m : Int) (A1 : Option Addr) (c1 q1 : Nat) (L : List En) (s' : Pk.St), (m ≤ 9223372036854775807 ∧ -9223372036854775808 ≤ m) ∧ i = .int .i64 m ∧ l = .slice A1 q1 c1 ∧ q1 = L.length ∧ Hid (LpE w G g s A1 c1 L m s' wr)) (fun i _ _ => (RowKit.intOf i).toNat)
      case atStart => exact ⟨v, none, 0, 0, [], s1, ⟨by omega, by omega⟩, rfl, rfl, rfl, HS1⟩
      case round =>
        clear HS1 hc1
        obtain ⟨m, A1, c1, q1, L, s', ⟨hm1, hm2⟩, rfl, rfl, hq, HL⟩ := hrel
        have HQ := hid hq
        obtain ⟨g', hrt, hgg⟩ := HL.out.rk.at_
        have hc := hrt.cell
        have HB := bad_rdr g' s' wr hrt.ro.rdr
        by_cases hm : 0 < m
        · by_cases hb : s'.bad = true
          · have HF : Hid (L = (rdL rdE s).1 ∧ s' = (rdL rdE s).2) := hid (by
              have h := HL.out.val
              rw [rdN_bad _ _ _ hb, List.append_nil] at h
              exact h)
            rw [hb] at HB
            replace HB := hid HB
            clear hrt hgg hb hq
            go_wp2_with fail
            refine HB.out.mono ?_
            rintro e w3 ⟨rfl, rfl⟩
            go_wp2_with fail
            go_ret
            exact ⟨A1, c1, q1, rfl, by rw [← HF.out.1]; exact HQ.out, by rw [← HF.out.1]; exact HL.out.own, by rw [← HF.out.2]; exact HL.out.rk⟩
          · have hb' : s'.bad = false := by simpa using hb
            obtain rfl : g' = g := by
              rcases hgg with h | h
              · exact h
              · rw [h] at hb'; cases hb'
            rw [hb'] at HB
            replace HB := hid HB
            have HV := hid (rentry_any G g' s' (by have := HL.out.rest; omega) wr hrt)
            obtain ⟨x, hx⟩ : ∃ x, x = (rdE s').1 := ⟨_, rfl⟩
            obtain ⟨s2, hs2⟩ : ∃ y, y = (rdE s').2 := ⟨_, rfl⟩
            have hgood := rdE_good s' hrt.ro.rdr.small
            rw [← hx, ← hs2] at HV
            rw [← hx] at hgood
            have HGD := hid hgood
            clear hgood
            have hfew := HL.out.few hm hb'
            have hq1 : q1 + 1 ≤ 10000000 := by omega
            obtain ⟨k, hk⟩ : ∃ k : Nat, m = (k : Int) + 1 := ⟨(m - 1).toNat, by omega⟩
            have HN : Hid ((L ++ [x]) ++ (rdN rdE (m - 1).toNat s2).1 = (rdL rdE s).1 ∧ (rdN rdE (m - 1).toNat s2).2 = (rdL rdE s).2) := hid (by
              have h := HL.out.val
              rw [show m.toNat = k + 1 by omega, rdN_one _ _ _ hb', ← hx, ← hs2] at h
              rw [show (m - 1).toNat = k by omega, List.append_assoc]
              exact h)
            have HW : Hid (((L.length + 1 : Nat) : Int) + (m - 1) ≤ 1250000 ∧ s2.rest.length ≤ 10000000) := hid ⟨by omega, by rw [hs2]; exact Nat.le_trans (rdE_short s') HL.out.rest⟩
            have HK := hid hq1
            clear hrt hgg hb hb' hq hx hs2 hfew hk hq1
            go_wp2_with fail
            refine HB.out.mono ?_
            rintro e w3 ⟨rfl, rfl⟩
            go_wp2_with fail
            refine HV.out.mono ?_
            rintro e w4 ⟨A4, k4, n4, rfl, rfl, hr4, hk4, ho4⟩
            have hrow4 := hk4.ownE HL.out.own
            have hb5 : Below w4.heap.size w4 (w4.alloc (.cells #[.int .i64 x.t, .int .i64 x.k, .slice A4 x.d.length k4] 77)) := (Below.refl _ w4).alloc (Nat.le_refl _) _
            have hrow5 := hrow4.below (hb5.mono hk4.size)
            have hr5 := hr4.below hb5
            have hk5 := hk4.trans ((Kq.ofBelow hb5).mono hk4.size)
            have ho5 := ho4.below hb5
            have hcells : ∀ k, k < 3 → (w4.alloc (.cells #[.int .i64 x.t, .int .i64 x.k, .slice A4 x.d.length k4] 77)).cell? ((⟨w4.heap.size, 0, none⟩ : Addr).add k) = (cellsE ⟨x, A4, k4⟩)[k]? := fun k hk => by
              rw [add_off, Nat.zero_add, row_cell (heap_alloc_new w4 _) k]; simp [cellsE]
            have hN5 := hk5.size
            have H5 := hid (And.intro hr5 hk5)
            have hB0 := HL.out.rk.kq.size
            clear hr4 hk4 hrow4 hb5 hr5 hk5 HB HV ho4
            go_wp2_with (at_builtin; refine wpList_append_entM rfl _ _ rfl hrow5 hB0 hN5 q1 HQ.out.symm rfl x HGD.out A4 k4 ho5 ⟨w4.heap.size, 0, none⟩ 1 rfl hcells HK.out ?_)
            intro A6 c6 w6 hown6 hb6
            have H6 : Hid (LpE w G g' s A6 c6 (L ++ [x]) (m - 1) s2 w6) := hid (by
              have hR := HL.out.rk
              have hG : G < w.heap.size := H.out.lt
              have hws : w.heap.size ≤ wr.heap.size := hR.kq.size
              have hg : g' < w.heap.size := H.out.ro.rdr.lt
              have hrt6 : Rt w6 G g' s2 := H5.out.1.belowB hG hg hb6
              have hkq6 : Kq w.heap.size w w6 := (hR.kq.trans (H5.out.2.mono hws)).trans (Kq.ofBelow hb6)
              exact ⟨Rk.of (s := s2) hrt6 HW.out.2 hkq6, hown6, HN.out, fun _ _ => by have := HW.out.1; rw [List.length_append]; simp only [List.length_cons, List.length_nil]; omega, HW.out.2⟩)
            have HQ6 : Hid (q1 + 1 = (L ++ [x]).length) := hid (by rw [List.length_append, ← HQ.out]; rfl)
            clear hrow5 hcells hN5 hB0 hown6 hb6 ho5
            go_wp2_with fail
            go_roundw
            case rel => exact ⟨m - 1, A6, c6, q1 + 1, L ++ [x], s2, ⟨by omega, by omega⟩, by go_num, rfl, HQ6.out, H6⟩
            case measure => simp [RowKit.intOf]; omega
        · have HF : Hid (L = (rdL rdE s).1 ∧ s' = (rdL rdE s).2) := hid (by
            have h := HL.out.val
            rw [show m.toNat = 0 by omega, rdN_zero, List.append_nil] at h
            exact h)
          clear hrt hgg hq HB
          go_wp2_with fail
          go_ret
          exact ⟨A1, c1, q1, rfl, by rw [← HF.out.1]; exact HQ.out, by rw [← HF.out.1]; exact HL.out.own, by rw [← HF.out.2]; exact HL.out.rk⟩
end Go.Proofs.Ytaeoccpjdjafnaa.Im
namespace Go.Proofs.Ytaeoccpjdjafnaa.Im
open Go.RowKit
open Rl (En Lg)
open Qu (Cf)
set_option linter.unusedSectionVars false
variable [Lo]
set_option maxRecDepth 100000
set_option linter.unusedVariables false
theorem storeAt_log (a v : Value) : Instr.storeAt 28 a v = stX 28 a v := rfl
attribute [local go_sem ↓] storeAt_log
theorem info_log3 : (Try.prog.info? 28).map (·.size) = some 3 := by kernel_rfl
theorem rdLg_eq (s : Pk.St) : (rdLg s).1 = ⟨(Pk.rdInt s).1, (Pk.rdInt (Pk.rdInt s).2).1, (rdL rdE (Pk.rdInt (Pk.rdInt s).2).2).1⟩ ∧ (rdLg s).2 = (rdL rdE (Pk.rdInt (Pk.rdInt s).2).2).2 := by
  simp only [rdLg, rdM, rdP, and_self]
theorem Rk.boxed {G g n R : Nat} {s' : Pk.St} {w W : World} {cs : Array Value} {t : TypeId} (h : Rk G g n s' w W) (hrow : W.heap[R]? = some (.cells cs t (0, 0))) (ht : t ≠ 147) (hG : G < w.heap.size) (hR : R = w.heap.size) (L : List Value) : Rk G g n s' w (W.setCells R 0 L) := by
  have hT := turned_setCells R L W 0
  have hg : W.grownBy (W.setCells R 0 L) (some R) := ⟨hT.os, hT.tape, hT.output, hT.size, fun k hk hne => hT.block k hk (fun e => hne (by rw [e]))⟩
  obtain ⟨⟨g', hrt, hgg⟩, ⟨s0, ho, hn⟩, hk⟩ := h
  exact ⟨⟨g', hrt.fill hg (by omega) (Rdr.tag hrt.ro.rdr hrow ht), hgg⟩, ⟨s0, ho.fill hg hrt.lt (by omega) (Rdr.tag ho.rdr hrow ht), hn⟩, hk.trans (Kq.ofRow hg (by omega) hk.size)⟩
theorem Rk.from {G g n : Nat} {s' : Pk.St} {w0 w W : World} (h : Rk G g n s' w W) (hk : Kq w0.heap.size w0 w) : Rk G g n s' w0 W := ⟨h.at_, h.old, hk.trans (h.kq.mono hk.size)⟩
set_option maxHeartbeats 3200000 in
theorem rlog_any (G g : Nat) (s : Pk.St) (hl : s.rest.length ≤ 10000000) (w : World) (h : Rt w G g s) :
    Calls Try.prog 107 #[.pointer (some ⟨G, 0, none⟩)] w fun e w' => ∃ A c n, e = .returned (.agg #[.int .i64 (rdLg s).1.base, .int .i64 (rdLg s).1.term, .slice A n c]) ∧ n = (rdLg s).1.es.length ∧ OwnE w' w.heap.size w'.heap.size A c (rdLg s).1.es ∧ Rk G g 10000000 (rdLg s).2 w w' := by
  obtain ⟨R, hR⟩ : ∃ R, R = w.heap.size := ⟨_, rfl⟩
  obtain ⟨w1, hw1⟩ : ∃ w1, w1 = w.alloc (.cells #[.int .i64 0, .int .i64 0, .slice none 0 0] 28) := ⟨_, rfl⟩
  obtain ⟨p1, p0⟩ := Sp.start h w1 hw1
  rw [← hR] at p1 p0
  have q1 := Pk.rdInt_short s
  have q2 := Pk.rdInt_short (Pk.rdInt s).2
  obtain ⟨v1, hv1⟩ : ∃ v, v = (Pk.rdInt s).1 := ⟨_, rfl⟩
  obtain ⟨s1, hs1⟩ : ∃ x, x = (Pk.rdInt s).2 := ⟨_, rfl⟩
  obtain ⟨v2, hv2⟩ : ∃ v, v = (Pk.rdInt s1).1 := ⟨_, rfl⟩
  obtain ⟨s2, hs2⟩ : ∃ x, x = (Pk.rdInt s1).2 := ⟨_, rfl⟩
  obtain ⟨D, hD⟩ : ∃ v, v = (rdL rdE s2).1 := ⟨_, rfl⟩
  obtain ⟨s3, hs3⟩ : ∃ x, x = (rdL rdE s2).2 := ⟨_, rfl⟩
  rw [← hs1] at q2 q1
  rw [← hs2] at q2
  have HV : Hid ((rdLg s).1 = ⟨v1, v2, D⟩ ∧ (rdLg s).2 = s3) := hid (by rw [hs3, hD, hs2, hv2, hs1, hv1]; exact rdLg_eq s)
  have E1 := hid (And.intro hv1 hs1)
  have E2 := hid (And.intro hv2 hs2)
  have HLS : Hid (∀ W, Rt W G g s2 → Calls Try.prog 124 #[.pointer (some ⟨G, 0, none⟩), .func (.func 125) #[.pointer (some ⟨G, 0, none⟩)] #[]] W fun e w' => ∃ A c n, e = .returned (.slice A n c) ∧ n = D.length ∧ OwnE w' W.heap.size w'.heap.size A c D ∧ Rk G g 10000000 s3 W w') := hid (fun W hW => by
    rw [hD, hs3]
    exact rEs_any G g s2 (by omega) W hW)
  have P1 := hid p1
  have HG := hid (And.intro hR h.lt)
  obtain ⟨c0, t0⟩ := p0.facts 3 rfl
  obtain ⟨c1, t1⟩ := p1.facts 3 rfl
  have hmf : ∀ (fn : Fn) (first cap : Array Value) (w : World), (Instr.makeFunc fn first cap).run Try.prog w = .ok (.func fn first cap) w := fun _ _ _ _ => rfl
  have STV : ∀ W (A : Option Addr) (c n : Nat), W.there R 0 3 → (stX 28 (.pointer (some ⟨R, 0, none⟩)) (.agg #[.int .i64 v1, .int .i64 v2, .slice A n c])).run Try.prog W = .ok () (W.setCells R 0 [.int .i64 v1, .int .i64 v2, .slice A n c]) := fun W A c n hW => stThere info_log3 W R _ hW rfl (by simp [Value.oneCell'])
  rw [HV.out.1, HV.out.2]
  clear p1 p0 hv1 hs1 hv2 hs2 hD hs3 q1 q2 h hl
  go_enter Try.func107, Try.ntmps107
  go_wp2_with fail
  rw [← hR, ← hw1]
  clear hw1 hR
  go_region_with (first
      | (go_at_call 124; refine (HLS.out _ P3.out.rt).mono ?_; rintro e w4 ⟨A4, k4, n4, rfl, hn4, o4, q4⟩; have t4 : w4.there R 0 3 := there_row (q4.kq.keep R _ _ _ (row_lt P3.out.row) P3.out.row (by decide) (by decide)); have P4 := hid (And.intro hn4 (And.intro o4 q4)); clear hn4 q4 o4)
      | (go_at_call 103; refine (spInt P2.out v2 E2.out.1 E2.out.2).mono ?_; rintro e w3 ⟨rfl, q3⟩; obtain ⟨c3, t3⟩ := q3.facts 3 rfl; have P3 := hid q3; clear q3)
      | (go_at_call 103; refine (spInt P1.out v1 E1.out.1 E1.out.2).mono ?_; rintro e w2 ⟨rfl, q2⟩; obtain ⟨c2, t2⟩ := q2.facts 3 rfl; have P2 := hid q2; clear q2))
  all_goals
    have hrow := P4.out.2.2.kq.keep R _ _ _ (row_lt P3.out.row) P3.out.row (by decide) (by decide)
    have HF := hid ((P4.out.2.2.from P3.out.kq).boxed hrow (by decide) HG.out.2 HG.out.1 [.int .i64 v1, .int .i64 v2, .slice A4 n4 k4])
    have HW := hid (setCells_all hrow [.int .i64 v1, .int .i64 v2, .slice A4 n4 k4] rfl)
    have HO := hid (((P4.out.2.1.keep (turned_setCells R [.int .i64 v1, .int .i64 v2, .slice A4 n4 k4] w4 0) (fun k hk hB => by have := hB.1; have := row_lt P3.out.row; omega)).wide P3.out.kq.size (turned_setCells R [.int .i64 v1, .int .i64 v2, .slice A4 n4 k4] w4 0).size))
    clear hrow
    go_wp2_with fail
    refine bodyPost_ret (results_cell_row rfl _ _ R _ _ _ _ rfl HW.out Try.underlying28 rfl (by rw [info_log3]; rfl)) rfl ?_
    exact ⟨A4, k4, n4, rfl, P4.out.1, HO.out, HF.out⟩
end Go.Proofs.Ytaeoccpjdjafnaa.Im
namespace Go.Proofs.Ytaeoccpjdjafnaa
open Go
def unl (listed : Array Bool) : Nat := listed.toList.count false
theorem unl_set {listed : Array Bool} {i : Nat} (h : listed.getD i true = false) : unl (listed.setIfInBounds i true) + 1 = unl listed := by
  have hi : i < listed.size := by
    rcases Nat.lt_or_ge i listed.size with h' | h'
    · exact h'
    · rw [Array.getD_eq_getD_getElem?, Array.getElem?_eq_none h'] at h; cases h
  have hv : listed.toList[i] = false := by
    rw [Array.getD_eq_getD_getElem?, Array.getElem?_eq_getElem hi] at h
    exact h
  unfold unl
  rw [Array.toList_setIfInBounds, List.count_set (by simpa using hi)]
  have hm : 0 < listed.toList.count false := List.count_pos_iff.2 (hv ▸ List.getElem_mem _)
  have hv2 : (listed.toList[i]'(by simpa using hi) == false) = true := by rw [hv]; rfl
  rw [if_pos hv2, if_neg (by decide)]
  omega
theorem wpAny_inv {P : Program} {ops : Array Oper} {Q : Exit → Act → World → Prop} (I : Array Bool → Act → World → Prop)
    (hs : ∀ listed a w i o, I listed a w → ops[i]? = some o → listed.getD i true = false → (∀ e ∈ o.after, Region.binds .any e = true → listed.getD e.on false = true) → wpOp P ops Q i (fun a' w' => I (listed.setIfInBounds i true) a' w') a w)
    (he : ∀ listed a w, I listed a w → Region.ready .any ops listed = [] → Q .normal a w) :
    ∀ fuel listed a w, I listed a w → unl listed ≤ fuel → wpAny P .any ops Q fuel listed a w := by
  intro fuel
  induction fuel with
  | zero =>
    intro listed a w hI hc
    have hr : Region.ready .any ops listed = [] := by
      rcases hl : Region.ready .any ops listed with _ | ⟨i, rest⟩
      · rfl
      · have := (mem_ready (j := i)).1 (by rw [hl]; exact List.mem_cons_self)
        have := unl_set this.1
        omega
    exact ⟨hr, he listed a w hI hr⟩
  | succ fuel ih =>
    intro listed a w hI hc
    refine ⟨he listed a w hI, fun i hi => ?_⟩
    obtain ⟨h0, o, ho, ha⟩ := mem_ready.1 hi
    refine wpOp_mono (fun a' w' h => ih _ a' w' h ?_) (hs listed a w i o hI ho h0 ha)
    have := unl_set h0
    omega
theorem wp_region_inv {P : Program} {id : Nat} {ops : Array Oper} {Q : Exit → Act → World → Prop} {a : Act} {w : World} (hm : P.follows .mixedOrders = true) (I : Array Bool → Act → World → Prop)
    (h0 : I (Array.replicate ops.size false) a w.drew)
    (hs : ∀ listed a w i o, I listed a w → ops[i]? = some o → listed.getD i true = false → (∀ e ∈ o.after, Region.binds .any e = true → listed.getD e.on false = true) → wpOp P ops Q i (fun a' w' => I (listed.setIfInBounds i true) a' w') a w)
    (he : ∀ listed a w, I listed a w → Region.ready .any ops listed = [] → Q .normal a w) : (Code.region id ops true).wp P Q a w := by
  refine wp_region_any hm (wpAny_inv I hs he ops.size _ a _ h0 ?_)
  unfold unl
  rw [Array.toList_replicate, List.count_replicate]
  simp
theorem all_listed {ops : Array Oper} {listed : Array Bool} (hsz : listed.size = ops.size) (hacyc : ∀ (i : Nat) (o : Oper), ops[i]? = some o → ∀ e ∈ o.after, Region.binds .any e = true → e.on < i) (hr : Region.ready .any ops listed = []) :
    ∀ i, i < ops.size → listed.getD i false = true := by
  intro i
  induction i using Nat.strongRecOn with
  | ind i ih =>
    intro hi
    have hi' : i < listed.size := by omega
    cases hl : listed[i]
    · exfalso
      have hm : i ∈ Region.ready .any ops listed := mem_ready.2 ⟨by rw [Array.getD_eq_getD_getElem?, Array.getElem?_eq_getElem hi', hl]; rfl, ops[i], Array.getElem?_eq_getElem hi, fun e he hb => ih e.on (hacyc i _ (Array.getElem?_eq_getElem hi) e he hb) (by have := hacyc i _ (Array.getElem?_eq_getElem hi) e he hb; omega)⟩
      rw [hr] at hm
      cases hm
    · rw [Array.getD_eq_getD_getElem?, Array.getElem?_eq_getElem hi', hl]; rfl
def sop (op : Op) (ty : TypeId) : Oper := ⟨none, op, ty, "", #[], none⟩
theorem exec_sop (ρ : Operand → Value) (o : Oper) : execOp ρ o = execOp ρ (sop o.op o.type) := rfl
def Goes (P : Program) (a : Act) (w : World) (op : Op) (ty : TypeId) (R : Value → World → Prop) : Prop :=
  (∃ v w', (execOp a.eval (sop op ty)).run P w = .ok (.value v) w' ∧ R v w') ∨
  (∃ f args, (execOp a.eval (sop op ty)).run P w = .ok (.enter f args) w ∧ Calls P f args w fun e w' => ∃ v, e = .returned v ∧ R v w')
theorem Goes.wpOp {P : Program} {ops : Array Oper} {Q : Exit → Act → World → Prop} {K : Act → World → Prop} {a : Act} {w : World} {i : Nat} {o : Oper} {R : Value → World → Prop} (hi : ops[i]? = some o) (hg : o.guard = none) (h : Goes P a w o.op o.type R)
    (hk : ∀ v w', R v w' → K (a.put o.dst v) w') : wpOp P ops Q i K a w := by
  unfold Go.wpOp
  simp only [hi]
  have hw : Region.wanted o (yielded ops a.tmps) = true := by simp [Region.wanted, hg]
  rw [if_pos hw]
  left
  unfold Oper.wp
  rw [exec_sop]
  rcases h with ⟨v, w', hr, hR⟩ | ⟨f, args, hr, hC⟩
  · rw [hr, Oper.upon_value]
    exact hk v w' hR
  · rw [hr, Oper.upon_enter]
    refine hC.mono ?_
    rintro e w' ⟨v, rfl, hR⟩
    exact hk v w' hR
theorem x_move {P : Program} (ρ : Operand → Value) (x : Operand) (ty : TypeId) (w : World) : (execOp ρ (sop (.move x) ty)).run P w = .ok (.value (ρ x)) w := by simp [execOp, sop]
theorem x_assign {P : Program} (ρ : Operand → Value) (x : Operand) (ty : TypeId) (w : World) : (execOp ρ (sop (.assign x) ty)).run P w = .ok (.value (ρ x)) w := by simp [execOp, sop]
theorem x_build {P : Program} (ρ : Operand → Value) (t : TypeId) (parts : Array (Nat × Operand)) (ty : TypeId) (v : Value) (w : World) (h : (Instr.build t (parts.map fun (i, x) => (i, ρ x))).run P w = .ok v w) : (execOp ρ (sop (.build t parts) ty)).run P w = .ok (.value v) w := by simp [execOp, sop, h]
theorem x_load {P : Program} (ρ : Operand → Value) (t : TypeId) (x : Operand) (ty : TypeId) (v : Value) (w : World) (h : (Instr.loadAt t (ρ x)).run P w = .ok v w) : (execOp ρ (sop (.load t x) ty)).run P w = .ok (.value v) w := by simp [execOp, sop, h]
def AllFrom {α : Type} (p : Nat → α → Prop) : Nat → List α → Prop
  | _, [] => True
  | n, x :: xs => p n x ∧ AllFrom p (n + 1) xs
theorem AllFrom.get {α : Type} {p : Nat → α → Prop} : ∀ {n : Nat} {l : List α}, AllFrom p n l → ∀ (i : Nat) (x : α), l[i]? = some x → p (n + i) x
  | _, [], _, i, x, h => by simp at h
  | n, y :: ys, ⟨h0, h1⟩, i, x, h => by
    rcases i with _ | i
    · simp at h; subst h; exact h0
    · simp at h
      have := AllFrom.get h1 i x h
      rwa [show n + 1 + i = n + (i + 1) by omega] at this
end Go.Proofs.Ytaeoccpjdjafnaa
namespace Go.Proofs.Ytaeoccpjdjafnaa.Im
open Go Go.RowKit
open Rl (En Lg)
open Qu (Cf)
set_option linter.unusedSectionVars false
variable [Lo]
set_option maxRecDepth 100000
set_option linter.unusedVariables false
theorem Rdr.other {w w' : World} {h k : Nat} {s s' : Pk.St} (hr : Rdr w h s) (hk : Rdr w k s') (hne : h ≠ k) (hg : w.grownBy w' (some k)) : Rdr w' h s := by
  obtain ⟨A, c, h1, h2, h3⟩ := hr.at_
  obtain ⟨A', c', q1, _⟩ := hk.at_
  refine ⟨hr.small, hr.ok, A, c, (hg.block h hr.lt (fun e => by injection e with e; exact hne e)).trans h1, ⟨h2.small, fun i hi => ?_⟩, h3⟩
  obtain ⟨b, off, e, hb, hc⟩ := h2.cells i hi
  refine ⟨b, off, e, hb, fun j hj => ?_⟩
  have hcj := hc j hj
  have hbk : b ≠ k := fun e => by
    subst e
    rw [row_cell q1] at hcj
    rcases hn : off + j with _ | _ | n
    · rw [hn] at hcj; simp at hcj
    · rw [hn] at hcj; simp at hcj
    · rw [hn] at hcj; simp at hcj
  have hbl : b < w.heap.size := by have := hr.lt; omega
  exact (World.cell?_of_block (a := ⟨b, off + j, none⟩) (hg.block b hbl (fun e => by injection e with e; exact hbk e))).trans hcj
theorem ro_turn {w w' : World} {G h k : Nat} {s s1 s' : Pk.St} (hr : Ro w G h s) (hl : s.rest.length ≤ 10000000) (hk : Ro w G k s1) (hk' : Rdr w' k s') (hl' : s'.rest.length ≤ 10000000) (hg : w.grownBy w' (some k)) (hgone : s1 = Pk.gone → s' = Pk.gone) :
    ∃ s2, Ro w' G h s2 ∧ s2.rest.length ≤ 10000000 := by
  by_cases e : h = k
  · subst e
    exact ⟨s', ⟨hk', hk.ord.imp id hgone, hk.lo⟩, hl'⟩
  · exact ⟨s, ⟨Rdr.other hr.rdr hk.rdr e hg, hr.ord, hr.lo⟩, hl⟩
inductive Cl where
  | g | ld | num (k : Nat) | log | conf | blob | vote | agg
deriving DecidableEq
structure Pl where
  pt : Pt
  a : Ad
  m0 : Nat
  m1 : Nat
  m2 : Nat
  m3 : Nat
structure Cx where
  G : Nat
  g : Nat
  R : Nat
  w0 : World
  K : Nat
  nc : Nat
  V : Nat → Int
  s : Nat → Pk.St
  vt : Vt
  T : TypeId
  sz : Nat
  fin : Pt → Ad → List Value
structure Cx.Ok (C : Cx) : Prop where
  hR : C.R = C.w0.heap.size
  hG : C.G < C.w0.heap.size
  nc : 3 ≤ C.nc
  four : C.nc = 3 ∨ C.nc = 4
  num : ∀ k, k < C.K → C.V k = (Pk.rdInt (C.s k)).1 ∧ C.s (k + 1) = (Pk.rdInt (C.s k)).2
  log : C.s (C.K + 1) = (rdLg (C.s C.K)).2
  conf : C.s (C.K + 1 + 1) = (rdCf (C.s (C.K + 1))).2
  blob : C.s (C.K + 2 + 1) = (Pk.rdBlob (C.s (C.K + 2))).2
  vote : C.vt = (rdV (C.s (C.K + 3))).1 ∧ C.s (C.K + 3 + 1) = (rdV (C.s (C.K + 3))).2
  len : ∀ k, (C.s k).rest.length ≤ 10000000
  tag : C.T ≠ 147 ∧ C.T ≠ 119
structure PW (C : Cx) (X : Pl) (p : Nat) (st : Bool) (w : World) : Prop where
  kq : Kq C.w0.heap.size C.w0 w
  rt : ∃ g', Rt w C.G g' (C.s p) ∧ (g' = C.g ∨ (C.K < p ∧ C.s (C.K + 1) = Pk.gone))
  row : ∃ Z, w.heap[C.R]? = some (.cells Z C.T (0, 0)) ∧ Z.size = C.sz ∧ (st = true → p = C.K + C.nc ∧ Z = (C.fin X.pt X.a).toArray)
  es : C.K < p → OwnE w (C.R + 1) X.m0 X.a.e X.a.ce X.pt.log.es ∧ X.m0 ≤ w.heap.size ∧ C.R + 1 ≤ X.m0
  cf : C.K + 1 < p → (X.m0 ≤ X.m1 ∧ X.m1 ≤ X.m2 ∧ X.m2 ≤ X.m3 ∧ X.m3 ≤ w.heap.size) ∧ OwnsI 3 w X.m0 X.a.o X.a.co X.pt.cf.old ∧ OwnsI 3 w X.m1 X.a.n X.a.cn X.pt.cf.new ∧ OwnsI 3 w X.m2 X.a.l X.a.cl X.pt.cf.lrn ∧ (∀ k, blk X.a.o = some k → k < X.m1) ∧ (∀ k, blk X.a.n = some k → k < X.m2) ∧ (∀ k, blk X.a.l = some k → k < X.m3)
  sn : C.K + 2 < p → OwnsB 5 w X.m3 X.a.s X.a.cs X.pt.sn
  val : C.s (C.K + 1) = Pk.gone ∨ ((C.K < p → X.pt.log = (rdLg (C.s C.K)).1) ∧ (C.K + 1 < p → X.pt.cf = (rdCf (C.s (C.K + 1))).1) ∧ (C.K + 2 < p → X.pt.sn = (Pk.rdBlob (C.s (C.K + 2))).1))
  num : C.K < p → InInt X.pt.log.base ∧ InInt X.pt.log.term
  le : p ≤ C.K + C.nc
def callNo (K : Nat) : Cl → Option Nat
  | .num k => some k
  | .log => some K
  | .conf => some (K + 1)
  | .blob => some (K + 2)
  | .vote => some (K + 3)
  | _ => none
def Has (C : Cx) (X : Pl) (p : Nat) (w : World) : Cl → Value → Prop
  | .g, v => v = .pointer (some ⟨C.G, 0, none⟩)
  | .ld, v => p ≤ C.K + 2 → ∃ h s0, v = .pointer (some ⟨h, 0, none⟩) ∧ Ro w C.G h s0 ∧ s0.rest.length ≤ 10000000 ∧ (h = C.g ∨ (C.K < p ∧ C.s (C.K + 1) = Pk.gone))
  | .num k, v => v = .int .i64 (C.V k)
  | .log, v => v = .agg #[.int .i64 X.pt.log.base, .int .i64 X.pt.log.term, .slice X.a.e X.pt.log.es.length X.a.ce]
  | .conf, v => v = .agg #[.slice X.a.o X.pt.cf.old.length X.a.co, .slice X.a.n X.pt.cf.new.length X.a.cn, .slice X.a.l X.pt.cf.lrn.length X.a.cl]
  | .blob, v => v = .slice X.a.s X.pt.sn.length X.a.cs
  | .vote, v => v = .agg #[.int .i64 C.vt.x, .int .i64 C.vt.p, .int .i64 C.vt.r, .int .i64 C.vt.b, .int .i64 C.vt.v]
  | .agg, v => v = .agg (C.fin X.pt X.a).toArray ∧ p = C.K + C.nc
structure Sh where
  n : Nat
  nt : Nat
  cls : List Cl
def Sh.c (S : Sh) (j : Nat) : Cl := (S.cls[j]?).getD .g
structure Jr (C : Cx) (S : Sh) (X : Pl) (p : Nat) (listed : Array Bool) (a : Act) (w : World) : Prop where
  size : a.tmps.size = S.nt
  defers : a.defers = []
  t0 : a.eval (.tmp 0) = .pointer (some ⟨C.G, 0, none⟩)
  t2 : a.eval (.tmp 2) = .pointer (some ⟨C.R, 0, none⟩)
  lsize : listed.size = S.n
  slots : ∀ j, j + 1 < S.n → listed.getD j false = true → Has C X p w (S.c j) (a.eval (.tmp (3 + j)))
  call : ∀ j, j + 1 < S.n → ∀ k, callNo C.K (S.c j) = some k → (listed.getD j false = true ↔ k < p)
  pw : PW C X p (listed.getD (S.n - 1) false) w
structure Sh.Ok (C : Cx) (S : Sh) : Prop where
  nt : S.n + 2 ≤ S.nt
  pos : 0 < S.n
  uniq : ∀ i j k, i + 1 < S.n → j + 1 < S.n → callNo C.K (S.c i) = some k → callNo C.K (S.c j) = some k → i = j
theorem ev_put_ne (a : Act) {d t : Nat} (v : Value) (h : d ≠ t) : (a.put (some d) v).eval (.tmp t) = a.eval (.tmp t) := by
  simp [Act.put, Act.eval, Array.getElem?_setIfInBounds_ne h]
theorem ev_put_self (a : Act) {d : Nat} (v : Value) (h : d < a.tmps.size) : (a.put (some d) v).eval (.tmp d) = v := by
  simp [Act.put, Act.eval, h]
theorem getD_set (l : Array Bool) (j m : Nat) (hj : j < l.size) : (l.setIfInBounds j true).getD m false = if m = j then true else l.getD m false := by
  rw [Array.getD_eq_getD_getElem?, Array.getD_eq_getD_getElem?]
  by_cases e : m = j
  · subst e
    rw [if_pos rfl, Array.getElem?_setIfInBounds_self_of_lt hj]; rfl
  · rw [if_neg e, Array.getElem?_setIfInBounds_ne (by omega)]
section
variable {C : Cx} {S : Sh} {X X' : Pl} {p p' : Nat} {listed : Array Bool} {a : Act} {w w' : World}
theorem Jr.put (hS : S.Ok C) (h : Jr C S X p listed a w) (j : Nat) (hj : j + 1 < S.n) (v : Value) (hw : PW C X' p' (listed.getD (S.n - 1) false) w')
    (hk : ∀ c v, (∀ k, callNo C.K c = some k → k < p) → Has C X p w c v → Has C X' p' w' c v) (hv : Has C X' p' w' (S.c j) v)
    (hc : ∀ m, m + 1 < S.n → ∀ k, callNo C.K (S.c m) = some k → ((if m = j then true else listed.getD m false) = true ↔ k < p')) :
    Jr C S X' p' (listed.setIfInBounds j true) (a.put (some (3 + j)) v) w' := by
  have hjl : j < listed.size := by rw [h.lsize]; omega
  have hnt := hS.nt
  refine ⟨by simp [Act.put, h.size], h.defers, (ev_put_ne a v (by omega)).trans h.t0, (ev_put_ne a v (by omega)).trans h.t2, by simp [h.lsize], fun m hm hl => ?_, fun m hm k hmk => ?_, ?_⟩
  · rw [getD_set _ _ _ hjl] at hl
    by_cases e : m = j
    · subst e
      rw [ev_put_self a v (by rw [h.size]; omega)]
      exact hv
    · rw [if_neg e] at hl
      rw [ev_put_ne a v (by omega)]
      exact hk _ _ (fun k hk => (h.call m hm k hk).1 hl) (h.slots m hm hl)
  · rw [getD_set _ _ _ hjl]; exact hc m hm k hmk
  · rw [getD_set _ _ _ hjl, if_neg (by omega)]; exact hw
theorem Jr.pure (hS : S.Ok C) (h : Jr C S X p listed a w) (j : Nat) (hj : j + 1 < S.n) (v : Value) (hn : callNo C.K (S.c j) = none) (hv : Has C X p w (S.c j) v) :
    Jr C S X p (listed.setIfInBounds j true) (a.put (some (3 + j)) v) w :=
  h.put hS j hj v h.pw (fun _ _ _ h => h) hv (fun m hm k hk => by
    rw [if_neg (fun e => by subst e; rw [hn] at hk; cases hk)]
    exact h.call m hm k hk)
theorem Jr.called (hS : S.Ok C) (h : Jr C S X p listed a w) (j : Nat) (hj : j + 1 < S.n) (v : Value) (hn : callNo C.K (S.c j) = some p) (hw : PW C X' (p + 1) false w') (hst : listed.getD (S.n - 1) false = false)
    (hk : ∀ c v, (∀ k, callNo C.K c = some k → k < p) → Has C X p w c v → Has C X' (p + 1) w' c v) (hv : Has C X' (p + 1) w' (S.c j) v) :
    Jr C S X' (p + 1) (listed.setIfInBounds j true) (a.put (some (3 + j)) v) w' :=
  h.put hS j hj v (by rw [hst]; exact hw) hk hv (fun m hm k hk => by
    by_cases e : m = j
    · subst e
      rw [hn] at hk; injection hk with hk
      rw [if_pos rfl]
      exact ⟨fun _ => by omega, fun _ => rfl⟩
    · rw [if_neg e, h.call m hm k hk]
      have : k ≠ p := fun e' => e (hS.uniq m j p hm hj (e' ▸ hk) hn)
      omega)
theorem Jr.no (h : Jr C S X p listed a w) {j k : Nat} (hj : j + 1 < S.n) (hk : callNo C.K (S.c j) = some k) (hu : listed.getD j true = false) : p ≤ k := by
  have : listed.getD j false = false := by
    rw [Array.getD_eq_getD_getElem?] at hu ⊢
    rcases hl : listed[j]? with _ | b
    · rfl
    · rw [hl] at hu; exact hu
  rcases Nat.lt_or_ge k p with h' | h'
  · rw [(h.call j hj k hk).2 h'] at this; cases this
  · exact h'
theorem Jr.next (h : Jr C S X p listed a w) {j k : Nat} (hj : j + 1 < S.n) (hk : callNo C.K (S.c j) = some k) (hu : listed.getD j true = false) (hb : k = 0 ∨ ∃ i, i + 1 < S.n ∧ callNo C.K (S.c i) = some (k - 1) ∧ listed.getD i false = true) : k = p := by
  have h1 := h.no hj hk hu
  rcases hb with h0 | ⟨i, hi, hik, hil⟩
  · omega
  · have := (h.call i hi _ hik).1 hil
    omega
theorem Jr.open_ (h : Jr C S X p listed a w) (hp : p < C.K + C.nc) : listed.getD (S.n - 1) false = false := by
  obtain ⟨Z, _, _, h3⟩ := h.pw.row
  rcases hb : listed.getD (S.n - 1) false with _ | _
  · rfl
  · have := (h3 hb).1; omega
end
def Ir (C : Cx) (S : Sh) (listed : Array Bool) (a : Act) (w : World) : Prop := ∃ X p, Jr C S X p listed a w
section
variable {C : Cx} {S : Sh} {listed : Array Bool} {a : Act} {w : World} {ops : Array Oper} {Q : Exit → Act → World → Prop}
theorem x_nilP {P : Program} (ρ : Operand → Value) (x : Operand) (ty : TypeId) (w : World) (ad : Addr) (h : ρ x = .pointer (some ad)) : (execOp ρ (sop (.nilCheck x) ty)).run P w = .ok (.value (.pointer (some ad))) w := by simp [execOp, sop, h]
theorem x_fad {P : Program} (ρ : Operand → Value) (t : TypeId) (x : Operand) (f : Nat) (ty : TypeId) (v : Value) (w : World) (h : (Instr.fieldAt t (ρ x) f).run P w = .ok v w) : (execOp ρ (sop (.fieldAddr t x f) ty)).run P w = .ok (.value v) w := by simp [execOp, sop, h]
theorem ir_move (hS : S.Ok C) (h : Ir C S listed a w) (j : Nat) (o : Oper) (hi : ops[j]? = some o) (hg : o.guard = none) (hd : o.dst = some (3 + j)) (ho : o.op = .move (.tmp 0)) (hj : j + 1 < S.n) (hc : S.c j = .g) :
    wpOp Try.prog ops Q j (fun a' w' => Ir C S (listed.setIfInBounds j true) a' w') a w := by
  obtain ⟨X, p, h⟩ := h
  refine Goes.wpOp (R := fun v w' => v = .pointer (some ⟨C.G, 0, none⟩) ∧ w' = w) hi hg ?_ ?_
  · rw [ho]; exact .inl ⟨_, w, x_move _ _ _ _, h.t0, rfl⟩
  · rintro v w' ⟨hv, rfl⟩
    rw [hd]
    exact ⟨X, p, h.pure hS j hj v (by rw [hc]; rfl) (by rw [hc]; exact hv)⟩
theorem ir_nil (hS : S.Ok C) (h : Ir C S listed a w) (j x : Nat) (o : Oper) (hi : ops[j]? = some o) (hg : o.guard = none) (hd : o.dst = some (3 + j)) (ho : o.op = .nilCheck (.tmp (3 + x))) (hj : j + 1 < S.n) (hx : x + 1 < S.n) (hc : S.c j = .g) (hcx : S.c x = .g) (hl : listed.getD x false = true) :
    wpOp Try.prog ops Q j (fun a' w' => Ir C S (listed.setIfInBounds j true) a' w') a w := by
  obtain ⟨X, p, h⟩ := h
  have hx' := h.slots x hx hl
  rw [hcx] at hx'
  refine Goes.wpOp (R := fun v w' => v = .pointer (some ⟨C.G, 0, none⟩) ∧ w' = w) hi hg ?_ ?_
  · rw [ho]; refine .inl ⟨_, w, ?_, rfl, rfl⟩
    exact x_nilP _ _ _ _ _ hx'
  · rintro v w' ⟨hv, rfl⟩
    rw [hd]
    exact ⟨X, p, h.pure hS j hj v (by rw [hc]; rfl) (by rw [hc]; exact hv)⟩
theorem ir_fad (hS : S.Ok C) (h : Ir C S listed a w) (j x : Nat) (o : Oper) (hi : ops[j]? = some o) (hg : o.guard = none) (hd : o.dst = some (3 + j)) (ho : o.op = .fieldAddr 119 (.tmp (3 + x)) 0) (hj : j + 1 < S.n) (hx : x + 1 < S.n) (hc : S.c j = .g) (hcx : S.c x = .g) (hl : listed.getD x false = true) :
    wpOp Try.prog ops Q j (fun a' w' => Ir C S (listed.setIfInBounds j true) a' w') a w := by
  obtain ⟨X, p, h⟩ := h
  have hx' := h.slots x hx hl
  rw [hcx] at hx'
  refine Goes.wpOp (R := fun v w' => v = .pointer (some ⟨C.G, 0, none⟩) ∧ w' = w) hi hg ?_ ?_
  · rw [ho]; refine .inl ⟨_, w, ?_, rfl, rfl⟩
    exact x_fad _ _ _ _ _ _ _ (by rw [show a.eval (.tmp (3 + x)) = _ from hx']; go_simp)
  · rintro v w' ⟨hv, rfl⟩
    rw [hd]
    exact ⟨X, p, h.pure hS j hj v (by rw [hc]; rfl) (by rw [hc]; exact hv)⟩
theorem ir_load (hC : C.Ok) (hS : S.Ok C) (h : Ir C S listed a w) (j x : Nat) (o : Oper) (hi : ops[j]? = some o) (hg : o.guard = none) (hd : o.dst = some (3 + j)) (ho : o.op = .load 116 (.tmp (3 + x))) (hj : j + 1 < S.n) (hx : x + 1 < S.n) (hc : S.c j = .ld) (hcx : S.c x = .g) (hl : listed.getD x false = true) :
    wpOp Try.prog ops Q j (fun a' w' => Ir C S (listed.setIfInBounds j true) a' w') a w := by
  obtain ⟨X, p, h⟩ := h
  have hx' := h.slots x hx hl
  rw [hcx] at hx'
  obtain ⟨g', hr, hgg⟩ := h.pw.rt
  have hcell := hr.cell
  refine Goes.wpOp (R := fun v w' => v = .pointer (some ⟨g', 0, none⟩) ∧ w' = w) hi hg ?_ ?_
  · rw [ho]; refine .inl ⟨_, w, x_load _ _ _ _ _ _ ?_, rfl, rfl⟩
    rw [show a.eval (.tmp (3 + x)) = _ from hx']
    go_simp
  · rintro v w' ⟨hv, rfl⟩
    rw [hd]
    exact ⟨X, p, h.pure hS j hj v (by rw [hc]; rfl) (by rw [hc]; exact fun _ => ⟨g', C.s p, hv, hr.ro, hC.len p, hgg⟩)⟩
theorem x_call1 (f : FuncId) (x : Operand) (ty t : TypeId) (v : Value) (h : a.eval x = v) (hcf : (callFunc f #[v]).run Try.prog w = .ok (.enter f #[v]) w) : (execOp a.eval (sop (.call { callee := .value (.func f), args := #[x], argTypes := #[t] }) ty)).run Try.prog w = .ok (.enter f #[v]) w := by
  generalize hρ : a.eval = ρ at h ⊢
  have hf : ρ (.func f) = .func (.func f) #[] #[] := by rw [← hρ]; rfl
  clear hρ
  unfold execOp sop
  simp [resolve, invoke, h, hf, Deferred.ofValue, hcf]
theorem PW.rowK {X : Pl} {p : Nat} {w w' : World} (hC : C.Ok) (h : PW C X p false w) (hk : Kq w.heap.size w w') (X' : Pl) (p' : Nat) : ∃ Z, w'.heap[C.R]? = some (.cells Z C.T (0, 0)) ∧ Z.size = C.sz ∧ (false = true → p' = C.K + C.nc ∧ Z = (C.fin X'.pt X'.a).toArray) := by
  obtain ⟨Z, h1, h2, _⟩ := h.row
  exact ⟨Z, hk.keep C.R _ _ _ (row_lt h1) h1 hC.tag.1 hC.tag.2, h2, fun e => by cases e⟩
theorem ir_int (hC : C.Ok) (hS : S.Ok C) (h : Ir C S listed a w) (j x k : Nat) (o : Oper) (hi : ops[j]? = some o) (hg : o.guard = none) (hd : o.dst = some (3 + j)) (ho : o.op = .call { callee := .value (.func 103), args := #[.tmp (3 + x)], argTypes := #[116] }) (hj : j + 1 < S.n) (hx : x + 1 < S.n) (hc : S.c j = .num k) (hkK : k < C.K) (hcx : S.c x = .ld) (hl : listed.getD x false = true)
    (hu : listed.getD j true = false) (hb : k = 0 ∨ ∃ i, i + 1 < S.n ∧ callNo C.K (S.c i) = some (k - 1) ∧ listed.getD i false = true) :
    wpOp Try.prog ops Q j (fun a' w' => Ir C S (listed.setIfInBounds j true) a' w') a w := by
  obtain ⟨X, p, h⟩ := h
  obtain rfl : k = p := h.next hj (by rw [hc]; rfl) hu hb
  have hx' := h.slots x hx hl
  rw [hcx] at hx'
  obtain ⟨h1, s0, hv, ho1, hl1, hh⟩ := hx' (by omega)
  obtain ⟨g', hr, hgg⟩ := h.pw.rt
  obtain rfl : h1 = C.g := by
    rcases hh with e | e
    · exact e
    · omega
  obtain rfl : g' = C.g := by
    rcases hgg with e | e
    · exact e
    · omega
  have hst := h.open_ (by omega)
  have hpw := h.pw
  rw [hst] at hpw
  obtain ⟨hV, hs⟩ := hC.num k hkK
  refine Goes.wpOp (R := fun v w' => v = .int .i64 (C.V k) ∧ PW C X (k + 1) false w' ∧ ∀ c v, (∀ k', callNo C.K c = some k' → k' < k) → Has C X k w c v → Has C X (k + 1) w' c v) hi hg ?_ ?_
  · rw [ho]
    refine .inr ⟨103, #[.pointer (some ⟨C.g, 0, none⟩)], x_call1 _ _ _ _ _ hv (by go_simp), ?_⟩
    refine (int_rdr C.g (C.s k) w hr.ro.rdr).mono ?_
    rintro e w' ⟨rfl, hr', hg'⟩
    rw [← hV]
    rw [← hs] at hr'
    have hgone : C.s k = Pk.gone → C.s (k + 1) = Pk.gone := fun e => by rw [hs, e]; rfl
    obtain ⟨q1, q2⟩ := hr.step hr' hg' hgone
    refine ⟨_, rfl, rfl, ⟨hpw.kq.trans (q2.mono hpw.kq.size), ⟨C.g, q1, .inl rfl⟩, hpw.rowK hC q2 _ _, fun e => by omega, fun e => by omega, fun e => by omega, ?_, fun e => by omega, by have := hC.nc; omega⟩, fun c v hcc hv => ?_⟩
    · exact .inr ⟨fun e => by omega, fun e => by omega, fun e => by omega⟩
    · cases c with
      | g => exact hv
      | num k' => exact hv
      | ld =>
        intro _
        obtain ⟨h2, s2, e2, r2, l2, hh2⟩ := hv (by omega)
        obtain ⟨s3, r3, l3⟩ := ro_turn r2 l2 hr.ro hr' (hC.len _) hg' hgone
        exact ⟨h2, s3, e2, r3, l3, hh2.imp id (fun e => ⟨by omega, e.2⟩)⟩
      | log => have := hcc _ rfl; omega
      | conf => have := hcc _ rfl; omega
      | blob => have := hcc _ rfl; omega
      | vote => have := hcc _ rfl; omega
      | agg => have := hv.2; omega
  · rintro v w' ⟨rfl, h2, h3⟩
    rw [hd]
    exact ⟨X, k + 1, h.called hS j hj _ (by rw [hc]; rfl) h2 hst h3 (by rw [hc]; rfl)⟩
theorem ir_log (hC : C.Ok) (hS : S.Ok C) (h : Ir C S listed a w) (j x i : Nat) (o : Oper) (hi : ops[j]? = some o) (hg : o.guard = none) (hd : o.dst = some (3 + j)) (ho : o.op = .call { callee := .value (.func 107), args := #[.tmp (3 + x)], argTypes := #[90] }) (hj : j + 1 < S.n) (hx : x + 1 < S.n) (hc : S.c j = .log) (hcx : S.c x = .g) (hl : listed.getD x false = true)
    (hu : listed.getD j true = false) (hi1 : i + 1 < S.n) (hi2 : callNo C.K (S.c i) = some (C.K - 1)) (hi3 : listed.getD i false = true) :
    wpOp Try.prog ops Q j (fun a' w' => Ir C S (listed.setIfInBounds j true) a' w') a w := by
  obtain ⟨X, p, h⟩ := h
  obtain rfl : C.K = p := h.next hj (by rw [hc]; rfl) hu (.inr ⟨i, hi1, hi2, hi3⟩)
  have hx' := h.slots x hx hl
  rw [hcx] at hx'
  obtain ⟨g', hr, hgg⟩ := h.pw.rt
  obtain rfl : g' = C.g := by
    rcases hgg with e | e
    · exact e
    · omega
  have hnc := hC.nc
  have hst := h.open_ (by omega)
  have hpw := h.pw
  rw [hst] at hpw
  refine Goes.wpOp (R := fun v w' => ∃ X' : Pl, v = .agg #[.int .i64 X'.pt.log.base, .int .i64 X'.pt.log.term, .slice X'.a.e X'.pt.log.es.length X'.a.ce] ∧ PW C X' (C.K + 1) false w' ∧ ∀ c v, (∀ k', callNo C.K c = some k' → k' < C.K) → Has C X C.K w c v → Has C X' (C.K + 1) w' c v) hi hg ?_ ?_
  · rw [ho]
    refine .inr ⟨107, #[.pointer (some ⟨C.G, 0, none⟩)], x_call1 _ _ _ _ _ hx' (by go_simp), ?_⟩
    refine (rlog_any C.G C.g (C.s C.K) (hC.len _) w hr).mono ?_
    rintro e w' ⟨A, c, n, rfl, rfl, hE, hk⟩
    rw [← hC.log] at hk
    have hRl : C.R + 1 ≤ w.heap.size := by
      obtain ⟨Z, hrow, _⟩ := hpw.row
      exact row_lt hrow
    have hgood := Pk.rdInt_in _ hr.ro.rdr.small
    have hgood2 := Pk.rdInt_in _ (Pk.rdInt_small _ hr.ro.rdr.small)
    refine ⟨_, rfl, { X with pt := { X.pt with log := (rdLg (C.s C.K)).1 }, a := { X.a with e := A, ce := c }, m0 := w'.heap.size }, rfl, ⟨hpw.kq.trans (hk.kq.mono hpw.kq.size), ?_, hpw.rowK hC hk.kq _ _, fun _ => ⟨hE.wide hRl (Nat.le_refl _), Nat.le_refl _, Nat.le_trans hRl hk.kq.size⟩, fun e => by omega, fun e => by omega, .inr ⟨fun _ => rfl, fun e => by omega, fun e => by omega⟩, fun _ => ?_, by omega⟩, fun c v hcc hv => ?_⟩
    · obtain ⟨g2, q1, q2⟩ := hk.at_
      exact ⟨g2, q1, q2.imp id (fun e => ⟨by omega, e⟩)⟩
    · show InInt (rdLg (C.s C.K)).1.base ∧ InInt (rdLg (C.s C.K)).1.term
      rw [(rdLg_eq (C.s C.K)).1]
      exact ⟨hgood, hgood2⟩
    · cases c with
      | g => exact hv
      | num k' => exact hv
      | ld =>
        intro _
        obtain ⟨h2, s2, e2, r2, l2, hh2⟩ := hv (by omega)
        obtain rfl : h2 = C.g := by
          rcases hh2 with e | e
          · exact e
          · omega
        obtain ⟨s3, r3, l3⟩ := hk.old
        exact ⟨_, s3, e2, r3, l3, .inl rfl⟩
      | log => have := hcc _ rfl; omega
      | conf => have := hcc _ rfl; omega
      | blob => have := hcc _ rfl; omega
      | vote => have := hcc _ rfl; omega
      | agg => have := hv.2; omega
  · rintro v w' ⟨X', rfl, h2, h3⟩
    rw [hd]
    exact ⟨X', C.K + 1, h.called hS j hj _ (by rw [hc]; rfl) h2 hst h3 (by rw [hc]; rfl)⟩
theorem ir_conf (hC : C.Ok) (hS : S.Ok C) (h : Ir C S listed a w) (j x i : Nat) (o : Oper) (hi : ops[j]? = some o) (hg : o.guard = none) (hd : o.dst = some (3 + j)) (ho : o.op = .call { callee := .value (.func 108), args := #[.tmp (3 + x)], argTypes := #[90] }) (hj : j + 1 < S.n) (hx : x + 1 < S.n) (hc : S.c j = .conf) (hcx : S.c x = .g) (hl : listed.getD x false = true)
    (hu : listed.getD j true = false) (hi1 : i + 1 < S.n) (hi2 : callNo C.K (S.c i) = some C.K) (hi3 : listed.getD i false = true) :
    wpOp Try.prog ops Q j (fun a' w' => Ir C S (listed.setIfInBounds j true) a' w') a w := by
  obtain ⟨X, p, h⟩ := h
  obtain rfl : C.K + 1 = p := h.next hj (by rw [hc]; rfl) hu (.inr ⟨i, hi1, hi2, hi3⟩)
  have hx' := h.slots x hx hl
  rw [hcx] at hx'
  obtain ⟨g', hr, hgg⟩ := h.pw.rt
  have hnc := hC.nc
  have hst := h.open_ (by omega)
  have hpw := h.pw
  rw [hst] at hpw
  refine Goes.wpOp (R := fun v w' => ∃ X' : Pl, v = .agg #[.slice X'.a.o X'.pt.cf.old.length X'.a.co, .slice X'.a.n X'.pt.cf.new.length X'.a.cn, .slice X'.a.l X'.pt.cf.lrn.length X'.a.cl] ∧ PW C X' (C.K + 1 + 1) false w' ∧ ∀ c v, (∀ k', callNo C.K c = some k' → k' < C.K + 1) → Has C X (C.K + 1) w c v → Has C X' (C.K + 1 + 1) w' c v) hi hg ?_ ?_
  · rw [ho]
    refine .inr ⟨108, #[.pointer (some ⟨C.G, 0, none⟩)], x_call1 _ _ _ _ _ hx' (by go_simp), ?_⟩
    refine (rconf_any C.G g' (C.s (C.K + 1)) (by have := hC.len (C.K + 1); omega) w hr).mono ?_
    rintro e w' ⟨A1, c1, A2, c2, A3, c3, n1, n2, n3, rfl, ⟨rfl, rfl, rfl⟩, hr', ⟨hk, hg'⟩, m1, m2, ⟨hm1, hm2, hm3⟩, o1, o2, o3, b1, b2⟩
    rw [← hC.conf] at hr'
    have hgone : C.s (C.K + 1) = Pk.gone → C.s (C.K + 1 + 1) = Pk.gone := fun e => by rw [hC.conf, e]; rfl
    obtain ⟨es1, es2, es3⟩ := hpw.es (by omega)
    have b3 : ∀ k, blk A3 = some k → k < w'.heap.size := fun k hk => (o3.blkLt k hk).2
    refine ⟨_, rfl, { X with pt := { X.pt with cf := (rdCf (C.s (C.K + 1))).1 }, a := { X.a with o := A1, co := c1, n := A2, cn := c2, l := A3, cl := c3 }, m1 := m1, m2 := m2, m3 := w'.heap.size }, rfl, ⟨hpw.kq.trans (hk.mono hpw.kq.size), ⟨g', hr', hgg.imp id (fun e => ⟨by omega, e.2⟩)⟩, hpw.rowK hC hk _ _, fun _ => ⟨hk.ownE es1, Nat.le_trans es2 hk.size, es3⟩, fun _ => ⟨⟨Nat.le_trans es2 hm1, hm2, hm3, Nat.le_refl _⟩, o1.weaken es2, o2, o3, b1, b2, b3⟩, fun e => by omega, ?_, fun _ => hpw.num (by omega), by omega⟩, fun c v hcc hv => ?_⟩
    · rcases hpw.val with e | ⟨v1, v2, v3⟩
      · exact .inl e
      · exact .inr ⟨fun _ => v1 (by omega), fun _ => rfl, fun e => by omega⟩
    · cases c with
      | g => exact hv
      | num k' => exact hv
      | ld =>
        intro _
        obtain ⟨h2, s2, e2, r2, l2, hh2⟩ := hv (by omega)
        obtain ⟨s3, r3, l3⟩ := ro_turn r2 l2 hr.ro hr'.ro.rdr (hC.len _) hg' hgone
        exact ⟨h2, s3, e2, r3, l3, hh2.imp id (fun e => ⟨by omega, e.2⟩)⟩
      | log => exact hv
      | conf => have := hcc _ rfl; omega
      | blob => have := hcc _ rfl; omega
      | vote => have := hcc _ rfl; omega
      | agg => have := hv.2; omega
  · rintro v w' ⟨X', rfl, h2, h3⟩
    rw [hd]
    exact ⟨X', C.K + 1 + 1, h.called hS j hj _ (by rw [hc]; rfl) h2 hst h3 (by rw [hc]; rfl)⟩
theorem ir_blob (hC : C.Ok) (hS : S.Ok C) (h : Ir C S listed a w) (j x i : Nat) (o : Oper) (hi : ops[j]? = some o) (hg : o.guard = none) (hd : o.dst = some (3 + j)) (ho : o.op = .call { callee := .value (.func 109), args := #[.tmp (3 + x)], argTypes := #[116] }) (hj : j + 1 < S.n) (hx : x + 1 < S.n) (hc : S.c j = .blob) (hcx : S.c x = .ld) (hl : listed.getD x false = true)
    (hu : listed.getD j true = false) (hi1 : i + 1 < S.n) (hi2 : callNo C.K (S.c i) = some (C.K + 1)) (hi3 : listed.getD i false = true) :
    wpOp Try.prog ops Q j (fun a' w' => Ir C S (listed.setIfInBounds j true) a' w') a w := by
  obtain ⟨X, p, h⟩ := h
  obtain rfl : C.K + 2 = p := h.next hj (by rw [hc]; rfl) hu (.inr ⟨i, hi1, hi2, hi3⟩)
  have hx' := h.slots x hx hl
  rw [hcx] at hx'
  obtain ⟨h1, s0, hv, ho1, hl1, hh⟩ := hx' (by omega)
  obtain ⟨g', hr, hgg⟩ := h.pw.rt
  have hnc := hC.nc
  have hst := h.open_ (by omega)
  have hpw := h.pw
  rw [hst] at hpw
  obtain ⟨es1, es2, es3⟩ := hpw.es (by omega)
  obtain ⟨⟨c1, c2, c3, c4⟩, o1, o2, o3, b1, b2, b3⟩ := hpw.cf (by omega)
  have hgone : C.s (C.K + 2) = Pk.gone → C.s (C.K + 2 + 1) = Pk.gone := fun e => by rw [hC.blob, e]; rfl
  refine Goes.wpOp (R := fun v w' => ∃ X' : Pl, v = .slice X'.a.s X'.pt.sn.length X'.a.cs ∧ PW C X' (C.K + 2 + 1) false w' ∧ ∀ c v, (∀ k', callNo C.K c = some k' → k' < C.K + 2) → Has C X (C.K + 2) w c v → Has C X' (C.K + 2 + 1) w' c v) hi hg ?_ ?_
  · rw [ho]
    refine .inr ⟨109, #[.pointer (some ⟨h1, 0, none⟩)], x_call1 _ _ _ _ _ hv (by go_simp), ?_⟩
    have key : Calls Try.prog 109 #[.pointer (some ⟨h1, 0, none⟩)] w fun e w' => ∃ A c D, e = .returned (.slice A D.length c) ∧ OwnsB 5 w' w.heap.size A c D ∧ Rt w' C.G g' (C.s (C.K + 2 + 1)) ∧ Kq w.heap.size w w' ∧ (C.s (C.K + 1) = Pk.gone ∨ D = (Pk.rdBlob (C.s (C.K + 2))).1) := by
      by_cases e : h1 = g'
      · subst e
        refine (blob_rdr h1 (C.s (C.K + 2)) w hr.ro.rdr (by have := hC.len (C.K + 2); omega)).mono ?_
        rintro e w' ⟨A, c, rfl, ho, hr', hg'⟩
        rw [← hC.blob] at hr'
        obtain ⟨q1, q2⟩ := hr.step hr' hg' hgone
        exact ⟨A, c, _, rfl, ho, q1, q2, .inr rfl⟩
      · have hg1 : C.s (C.K + 1) = Pk.gone := by
          rcases hh with e1 | e1
          · rcases hgg with e2 | e2
            · exact absurd (e1.trans e2.symm) e
            · exact e2.2
          · exact e1.2
        have hg2 : C.s (C.K + 2) = Pk.gone := by rw [hC.conf, hg1]; rfl
        refine (blob_rdr h1 s0 w ho1.rdr (by omega)).mono ?_
        rintro e w' ⟨A, c, rfl, ho, hr', hg'⟩
        obtain ⟨A0, c0, q1, _⟩ := ho1.rdr.at_
        have hne : g' ≠ h1 := fun e' => e e'.symm
        have hGh : C.G ≠ h1 := Rdr.tag ho1.rdr hr.box (by decide)
        refine ⟨A, c, _, rfl, ho, ⟨(hg'.block C.G hr.lt (fun e => by injection e with e; exact hGh e)).trans hr.box, ⟨?_, .inr (hgone hg2), hr.ro.lo⟩, hr.lo⟩, Kq.ofGrown q1 (.inl rfl) ho1.lo hg', .inl hg1⟩
        have := Rdr.other hr.ro.rdr ho1.rdr hne hg'
        rw [hg2] at this
        rw [hgone hg2]
        exact this
    refine key.mono ?_
    rintro e w' ⟨A, c, D, rfl, ho, hr', hk, hD⟩
    refine ⟨_, rfl, { X with pt := { X.pt with sn := D }, a := { X.a with s := A, cs := c } }, rfl, ⟨hpw.kq.trans (hk.mono hpw.kq.size), ⟨g', hr', hgg.imp id (fun e => ⟨by omega, e.2⟩)⟩, hpw.rowK hC hk _ _, fun _ => ⟨hk.ownE es1, Nat.le_trans es2 hk.size, es3⟩, fun _ => ⟨⟨c1, c2, c3, Nat.le_trans c4 hk.size⟩, hk.ownI o1, hk.ownI o2, hk.ownI o3, b1, b2, b3⟩, fun _ => ho.weaken c4, ?_, fun _ => hpw.num (by omega), by omega⟩, fun c v hcc hv => ?_⟩
    · rcases hD with e | e
      · exact .inl e
      · rcases hpw.val with e2 | ⟨v1, v2, v3⟩
        · exact .inl e2
        · exact .inr ⟨fun _ => v1 (by omega), fun _ => v2 (by omega), fun _ => e⟩
    · cases c with
      | g => exact hv
      | num k' => exact hv
      | ld => intro h; omega
      | log => exact hv
      | conf => exact hv
      | blob => have := hcc _ rfl; omega
      | vote => have := hcc _ rfl; omega
      | agg => have := hv.2; omega
  · rintro v w' ⟨X', rfl, h2, h3⟩
    rw [hd]
    exact ⟨X', C.K + 2 + 1, h.called hS j hj _ (by rw [hc]; rfl) h2 hst h3 (by rw [hc]; rfl)⟩
theorem ir_build (hC : C.Ok) (hS : S.Ok C) (h : Ir C S listed a w) (j i : Nat) (t : TypeId) (parts : Array (Nat × Operand)) (o : Oper) (hi : ops[j]? = some o) (hg : o.guard = none) (hd : o.dst = some (3 + j)) (ho : o.op = .build t parts) (hj : j + 1 < S.n) (hc : S.c j = .agg)
    (hi1 : i + 1 < S.n) (hi2 : callNo C.K (S.c i) = some (C.K + C.nc - 1)) (hi3 : listed.getD i false = true)
    (hb : ∀ X p, (∀ j, j + 1 < S.n → listed.getD j false = true → Has C X p w (S.c j) (a.eval (.tmp (3 + j)))) → (Instr.build t (parts.map fun (i, x) => (i, a.eval x))).run Try.prog w = .ok (.agg (C.fin X.pt X.a).toArray) w) :
    wpOp Try.prog ops Q j (fun a' w' => Ir C S (listed.setIfInBounds j true) a' w') a w := by
  obtain ⟨X, p, h⟩ := h
  have hp := (h.call i hi1 _ hi2).1 hi3
  have hle := h.pw.le
  have hnc := hC.nc
  refine Goes.wpOp (R := fun v w' => v = .agg (C.fin X.pt X.a).toArray ∧ w' = w) hi hg ?_ ?_
  · rw [ho]
    exact .inl ⟨_, w, x_build _ _ _ _ _ _ (hb X p h.slots), rfl, rfl⟩
  · rintro v w' ⟨rfl, rfl⟩
    rw [hd]
    exact ⟨X, p, h.pure hS j hj _ (by rw [hc]; rfl) (by rw [hc]; exact ⟨rfl, by omega⟩)⟩
theorem ir_store (hC : C.Ok) (hS : S.Ok C) (h : Ir C S listed a w) (j x : Nat) (o : Oper) (hi : ops[j]? = some o) (hg : o.guard = none) (hd : o.dst = none) (ho : o.op = .store C.T (.tmp 2) (.tmp (3 + x))) (hj : j + 1 = S.n) (hx : x + 1 < S.n) (hcx : S.c x = .agg) (hl : listed.getD x false = true)
    (hfl : ∀ pt a, (C.fin pt a).length = C.sz) (hone : ∀ pt a, (C.fin pt a).toArray.all (·.oneCell') = true) (hinfo : (Try.prog.info? C.T).map (·.size) = some C.sz) :
    wpOp Try.prog ops Q j (fun a' w' => Ir C S (listed.setIfInBounds j true) a' w') a w := by
  obtain ⟨X, p, h⟩ := h
  have hx' := h.slots x hx hl
  rw [hcx] at hx'
  obtain ⟨hv, hp⟩ := hx'
  obtain ⟨Z, hrow, hZ, _⟩ := h.pw.row
  have hrun : (execOp a.eval o).run Try.prog w = .ok .skip (w.setCells C.R 0 (C.fin X.pt X.a)) := by
    rw [exec_sop, ho]
    have := stThere hinfo w C.R (C.fin X.pt X.a).toArray (hZ ▸ there_row hrow) (by rw [List.size_toArray]; exact hfl _ _) (hone _ _)
    unfold execOp sop
    simp only []
    rw [h.t2, hv]
    have h2 : (Instr.storeAt C.T (.pointer (some ⟨C.R, 0, none⟩)) (.agg (C.fin X.pt X.a).toArray)).run Try.prog w = .ok () (w.setCells C.R 0 (C.fin X.pt X.a)) := this
    simp only [Sem.run_bind, h2, Result.andThen_ok, Sem.run_pure]
  unfold Go.wpOp
  simp only [hi]
  have hw : Region.wanted o (yielded ops a.tmps) = true := by simp [Region.wanted, hg]
  rw [if_pos hw]
  left
  unfold Oper.wp
  rw [hrun, Oper.upon_skip, hd]
  have hjl : j < listed.size := by rw [h.lsize]; omega
  have hpw := h.pw
  have hT := turned_setCells C.R (C.fin X.pt X.a) w 0
  have hgr : w.grownBy (w.setCells C.R 0 (C.fin X.pt X.a)) (some C.R) := ⟨hT.os, hT.tape, hT.output, hT.size, fun k hk hne => hT.block k hk (fun e => hne (by rw [e]))⟩
  have hRl : C.R < w.heap.size := row_lt hrow
  have hGR : C.G < C.R := by rw [hC.hR]; exact hC.hG
  have hkq : Kq C.w0.heap.size w (w.setCells C.R 0 (C.fin X.pt X.a)) := Kq.ofRow hgr (by rw [hC.hR]; exact Nat.le_refl _) hpw.kq.size
  have hgeR : C.w0.heap.size = C.R := hC.hR.symm
  have hnc := hC.nc
  obtain ⟨es1, es2, es3⟩ := hpw.es (by omega)
  obtain ⟨⟨c1, c2, c3, c4⟩, o1, o2, o3, b1, b2, b3⟩ := hpw.cf (by omega)
  have osn := hpw.sn (by omega)
  have hr2 : ∃ g', Rt (w.setCells C.R 0 (C.fin X.pt X.a)) C.G g' (C.s p) ∧ (g' = C.g ∨ (C.K < p ∧ C.s (C.K + 1) = Pk.gone)) := by
    obtain ⟨g', hr, hgg⟩ := hpw.rt
    exact ⟨g', hr.fill hgr hGR (Rdr.tag hr.ro.rdr hrow hC.tag.1), hgg⟩
  refine ⟨X, p, by rw [show (a.put none undef) = a from rfl]; exact h.size, h.defers, h.t0, h.t2, by simp [h.lsize], fun m hm hml => ?_, fun m hm k hk => ?_, ?_⟩
  · rw [getD_set _ _ _ hjl, if_neg (by omega)] at hml
    have hs := h.slots m hm hml
    rw [show (a.put none undef) = a from rfl]
    revert hs
    rcases S.c m with _ | _ | k | _ | _ | _ | _ | _ <;> intro hs
    all_goals first | exact hs | (intro h; omega)
  · rw [getD_set _ _ _ hjl, if_neg (by omega)]; exact h.call m hm k hk
  · rw [getD_set _ _ _ hjl, if_pos (by omega)]
    refine ⟨hpw.kq.trans hkq, hr2, ⟨_, setCells_all hrow _ (by rw [hfl, hZ]), by rw [List.size_toArray]; exact hfl _ _, fun _ => ⟨hp, rfl⟩⟩, fun _ => ⟨es1.keep hT (fun k hk hB => by have := hB.1; omega), Nat.le_trans es2 hT.size, es3⟩,
      fun _ => ⟨⟨c1, c2, c3, Nat.le_trans c4 hT.size⟩, o1.grown hgr (fun k hk => by injection hk with hk; omega), o2.grown hgr (fun k hk => by injection hk with hk; omega), o3.grown hgr (fun k hk => by injection hk with hk; omega), b1, b2, b3⟩, fun _ => osn.grown hgr (fun k hk => by injection hk with hk; omega), hpw.val, hpw.num, hpw.le⟩
def acycB (ops : Array Oper) : Bool := (List.range ops.size).all fun i => match ops[i]? with
  | some o => o.after.all fun e => decide (e.on < i)
  | none => true
theorem acycB_spec (h : acycB ops = true) (i : Nat) (o : Oper) (hi : ops[i]? = some o) (e : _) (he : e ∈ o.after) : e.on < i := by
  have hlt : i < ops.size := (Array.getElem?_eq_some_iff.1 hi).1
  have := List.all_eq_true.1 h i (List.mem_range.2 hlt)
  rw [hi] at this
  have h2 := (Array.all_eq_true_iff_forall_mem.1 this) e he
  simpa using h2
def Arm (C : Cx) (S : Sh) (Q : Exit → Act → World → Prop) (ops : Array Oper) (j : Nat) (o : Oper) : Prop :=
  ∀ listed a w, Ir C S listed a w → listed.getD j true = false → (∀ e ∈ o.after, Region.binds .any e = true → listed.getD e.on false = true) → wpOp Try.prog ops Q j (fun a' w' => Ir C S (listed.setIfInBounds j true) a' w') a w
theorem region_reads {id : Nat} (hm : Try.prog.follows .mixedOrders = true) (hsz : ops.size = S.n) (hp : 0 < S.n) (hac : acycB ops = true) (h0 : Ir C S (Array.replicate S.n false) a w.drew) (arms : AllFrom (Arm C S Q ops) 0 ops.toList)
    (he : ∀ listed a w X p, Jr C S X p listed a w → (∀ j, j < S.n → listed.getD j false = true) → Q .normal a w) : (Code.region id ops true).wp Try.prog Q a w := by
  refine wp_region_inv hm (Ir C S) (by rw [hsz]; exact h0) (fun listed a w i o hI hi hu ha => ?_) (fun listed a w hI hr => ?_)
  · have := AllFrom.get arms i o (by rw [Array.getElem?_toList]; exact hi)
    rw [Nat.zero_add] at this
    exact this listed a w hI hu ha
  · obtain ⟨X, p, h⟩ := hI
    exact he listed a w X p h (fun j hj => all_listed (by rw [h.lsize, hsz]) (fun i o hi e he _ => acycB_spec hac i o hi e he) hr j (by omega))
end
end Go.Proofs.Ytaeoccpjdjafnaa.Im
namespace Go.Proofs.Ytaeoccpjdjafnaa.Im
open Go Go.RowKit
open Rl (En Lg)
open Qu (Cf)
set_option linter.unusedSectionVars false
variable [Lo]
set_option maxRecDepth 100000
set_option linter.unusedVariables false
theorem ownsI_room {e : TypeId} {w : World} {base c : Nat} {A : Option Addr} {l : List Int} (h : OwnsI e w base A c l) : Room l.length c A := by
  rcases h.row.2 with ⟨hv, h0⟩ | ⟨g, cap, cur, hv, _, _, h1, h2, _, _⟩
  · injection hv with e1 e2 e3
    refine ⟨⟨by omega, by unfold maxLen; omega⟩, fun _ => e3⟩
  · have h3 : c = cap := by injection hv
    refine ⟨⟨by omega, by omega⟩, fun e => ?_⟩
    rw [e] at hv; injection hv with h4; cases h4
theorem ownsB_room {e : TypeId} {w : World} {base c : Nat} {A : Option Addr} {l : List Nat} (h : OwnsB e w base A c l) : Room l.length c A := ⟨h.room, h.none_⟩
structure Kp (P : TypeId → Prop) (w w' : World) : Prop where
  os : w'.os = w.os
  tape : w'.tape = w.tape
  output : w'.output = w.output
  size : w.heap.size ≤ w'.heap.size
  keep : ∀ (k : Nat) (cs : Array Value) (t : TypeId) (fr : Nat × Nat), w.heap[k]? = some (.cells cs t fr) → P t → w'.heap[k]? = some (.cells cs t fr)
namespace Kp
variable {P : TypeId → Prop} {w w' : World}
theorem ofKq (h : Kq w.heap.size w w') (hP : ∀ t, P t → t ≠ 147 ∧ t ≠ 119) : Kp P w w' := ⟨h.os, h.tape, h.output, h.size, fun k cs t fr h1 h2 => h.keep k cs t fr (row_lt h1) h1 (hP t h2).1 (hP t h2).2⟩
theorem ofGrown {g : Nat} {cs : Array Value} {t : TypeId} {fr : Nat × Nat} (hg : w.heap[g]? = some (.cells cs t fr)) (ht : ¬ P t) (h : w.grownBy w' (some g)) : Kp P w w' :=
  ⟨h.os, h.tape, h.output, h.size, fun k cs' t' fr' h1 h2 => (h.block k (row_lt h1) (fun e => by
    injection e with e
    subst e
    rw [h1] at hg
    have := (Obj.cells.inj (Option.some.inj hg)).2.1
    exact ht (this ▸ h2))).trans h1⟩
theorem ofBelow (h : Below w.heap.size w w') : Kp P w w' := ⟨h.os, h.tape, h.output, h.size, fun k cs t fr h1 _ => (h.block k (row_lt h1)).trans h1⟩
theorem row (h : Kp P w w') {base n size : Nat} {e : TypeId} {v : Value} {xs : List Value} (hr : w.ownsRow base e size v n xs) (h1 : P e) : w'.ownsRow base e size v n xs := by
  refine ⟨hr.1, ?_⟩
  rcases hr.2 with h0 | ⟨g, cap, cur, q1, q2, q3, q4⟩
  · exact .inl h0
  · exact .inr ⟨g, cap, cur, q1, q2, h.keep g _ _ _ q3 h1, q4⟩
theorem ownB (h : Kp P w w') (hP : P 5) {base c : Nat} {A : Option Addr} {l : List Nat} (ho : OwnsB 5 w base A c l) : OwnsB 5 w' base A c l := ⟨ho.small, h.row ho.row hP⟩
theorem ownI (h : Kp P w w') (hP : P 3) {base c : Nat} {A : Option Addr} {l : List Int} (ho : OwnsI 3 w base A c l) : OwnsI 3 w' base A c l := ⟨ho.small, h.row ho.row hP⟩
theorem rowIn {α : Type} {f : α → List Value} {size : Nat} {e : TypeId} {F : Nat → Prop} {A : Option Addr} {c : Nat} {L : List α} (h : Kp P w w') (hP : P e) (hr : RowIn f size e w F A c L) : RowIn f size e w' F A c L := ⟨hr.fits, h.row hr.row hP, hr.blk⟩
theorem ownE (h : Kp P w w') (hE : P 77) (hB : P 5) {B N c : Nat} {A : Option Addr} {L : List En} (ho : OwnE w B N A c L) : OwnE w' B N A c L := by
  obtain ⟨M, h1, h2⟩ := ho
  exact ⟨M, h1, h.rowIn hE h2.row, fun q hq => ⟨h.ownB hB (h2.own q hq).1, (h2.own q hq).2⟩, h2.apart, h2.num⟩
end Kp
def Parts (t : TypeId) : Prop := t = 77 ∨ t = 5 ∨ t = 3
theorem parts_kq (t : TypeId) (h : Parts t) : t ≠ 147 ∧ t ≠ 119 := by
  rcases h with rfl | rfl | rfl <;> exact ⟨by decide, by decide⟩
def OwnPt (w : World) (B N : Nat) (p : Pt) (a : Ad) : Prop := ∃ m0 m1 m2 m3, (B ≤ m0 ∧ m0 ≤ m1 ∧ m1 ≤ m2 ∧ m2 ≤ m3 ∧ m3 ≤ N) ∧ OwnE w B m0 a.e a.ce p.log.es ∧ (OwnsI 3 w m0 a.o a.co p.cf.old ∧ ∀ k, blk a.o = some k → k < m1) ∧ (OwnsI 3 w m1 a.n a.cn p.cf.new ∧ ∀ k, blk a.n = some k → k < m2) ∧ (OwnsI 3 w m2 a.l a.cl p.cf.lrn ∧ ∀ k, blk a.l = some k → k < m3) ∧ (OwnsB 5 w m3 a.s a.cs p.sn ∧ ∀ k, blk a.s = some k → k < N) ∧ InInt p.log.base ∧ InInt p.log.term
theorem ownsI_turned {e : TypeId} {w w' : World} {S : Nat → Prop} {base c : Nat} {A : Option Addr} {l : List Int} (h : OwnsI e w base A c l) (ht : Turned S w w') (hd : ∀ k, blk A = some k → ¬ S k) : OwnsI e w' base A c l :=
  ⟨h.small, ownsRow_turned h.row ht (fun k hk => hd k (by rw [← ownBlock_slice A l.length c]; exact hk))⟩
theorem isBytes_lower {w : World} {B : Nat} {A : Option Addr} {l : List Nat} {B' : Nat} (h : IsBytes w B A l) (hb : ∀ k, blk A = some k → k < B') : IsBytes w B' A l := by
  refine ⟨h.small, fun k hk => ?_⟩
  obtain ⟨b, off, e, _, hc⟩ := h.cells k hk
  exact ⟨b, off, e, hb b (by rw [e]; rfl), hc⟩
theorem isInts_lower {w : World} {B : Nat} {A : Option Addr} {l : List Int} {B' : Nat} (h : IsInts w B A l) (hb : ∀ k, blk A = some k → k < B') : IsInts w B' A l := by
  refine ⟨h.small, fun k hk => ?_⟩
  obtain ⟨b, off, e, _, hc⟩ := h.cells k hk
  exact ⟨b, off, e, hb b (by rw [e]; rfl), hc⟩
namespace OwnPt
variable {w w' : World} {B B' N N' : Nat} {p : Pt} {a : Ad}
theorem kp (h : OwnPt w B N p a) (hk : Kp Parts w w') : OwnPt w' B N p a := by
  obtain ⟨m0, m1, m2, m3, hm, h1, h2, h3, h4, h5, h6⟩ := h
  exact ⟨m0, m1, m2, m3, hm, hk.ownE (.inl rfl) (.inr (.inl rfl)) h1, ⟨hk.ownI (.inr (.inr rfl)) h2.1, h2.2⟩, ⟨hk.ownI (.inr (.inr rfl)) h3.1, h3.2⟩, ⟨hk.ownI (.inr (.inr rfl)) h4.1, h4.2⟩, ⟨hk.ownB (.inr (.inl rfl)) h5.1, h5.2⟩, h6⟩
theorem kq (h : OwnPt w B N p a) (hk : Kq w.heap.size w w') : OwnPt w' B N p a := h.kp (Kp.ofKq hk parts_kq)
theorem wide (h : OwnPt w B N p a) (hB : B' ≤ B) (hN : N ≤ N') : OwnPt w B' N' p a := by
  obtain ⟨m0, m1, m2, m3, ⟨c0, c1, c2, c3, c4⟩, h1, h2, h3, h4, h5, h6⟩ := h
  exact ⟨m0, m1, m2, m3, ⟨by omega, c1, c2, c3, by omega⟩, h1.wide hB (Nat.le_refl _), h2, h3, h4, ⟨h5.1, fun k hk => by have := h5.2 k hk; omega⟩, h6⟩
theorem keep {S : Nat → Prop} (h : OwnPt w B N p a) (ht : Turned S w w') (hs : ∀ k, S k → ¬ Bl B N k) : OwnPt w' B N p a := by
  obtain ⟨m0, m1, m2, m3, ⟨c0, c1, c2, c3, c4⟩, h1, h2, h3, h4, h5, h6⟩ := h
  have kB : ∀ {lo hi : Nat} {A : Option Addr}, B ≤ lo → hi ≤ N → (∀ k, blk A = some k → lo ≤ k) → (∀ k, blk A = some k → k < hi) → ∀ k, blk A = some k → ¬ S k := fun h1 h2 h3 h4 k hk hS => hs k hS ⟨by have := h3 k hk; omega, by have := h4 k hk; omega⟩
  refine ⟨m0, m1, m2, m3, ⟨c0, c1, c2, c3, c4⟩, h1.keep ht (fun k hk hb => hs k hk ⟨hb.1, by have := hb.2; omega⟩), ⟨ownsI_turned h2.1 ht (kB (lo := m0) (hi := m1) c0 (by omega) (fun k hk => (h2.1.blkLt k hk).1) h2.2), h2.2⟩, ⟨ownsI_turned h3.1 ht (kB (lo := m1) (hi := m2) (by omega) (by omega) (fun k hk => (h3.1.blkLt k hk).1) h3.2), h3.2⟩, ⟨ownsI_turned h4.1 ht (kB (lo := m2) (hi := m3) (by omega) (by omega) (fun k hk => (h4.1.blkLt k hk).1) h4.2), h4.2⟩, ⟨h5.1.turned ht (kB (lo := m3) (hi := N) (by omega) (by omega) (fun k hk => (h5.1.blkLt k hk).1) h5.2), h5.2⟩, h6⟩
theorem below (h : OwnPt w B N p a) (hb : Below N w w') : OwnPt w' B N p a :=
  h.keep (S := fun k => N ≤ k) ⟨hb.os, hb.tape, hb.output, hb.size, fun k _ hn => hb.block k (by omega)⟩ (fun k hk hB => by have := hB.2; omega)
theorem reads (h : OwnPt w B N p a) : IsPt w N p a := by
  obtain ⟨m0, m1, m2, m3, ⟨c0, c1, c2, c3, c4⟩, h1, h2, h3, h4, h5, h6⟩ := h
  exact ⟨h1.reads.more (by omega), isInts_lower h2.1.reads (fun k hk => by have := h2.2 k hk; omega), isInts_lower h3.1.reads (fun k hk => by have := h3.2 k hk; omega), isInts_lower h4.1.reads (fun k hk => by have := h4.2 k hk; omega), isBytes_lower h5.1.reads h5.2, ⟨h1.room, h1.none_⟩, ownsI_room h2.1, ownsI_room h3.1, ownsI_room h4.1, ownsB_room h5.1, h6⟩
end OwnPt
def Rq (G g : Nat) (s' : Pk.St) (w w' : World) : Prop := (∃ g', Rt w' G g' s' ∧ (g' = g ∨ s' = Pk.gone)) ∧ Kq w.heap.size w w'
def itI (s : Pk.St) : Nat → Pk.St
  | 0 => s
  | k + 1 => (Pk.rdInt (itI s k)).2
def vI (s : Pk.St) (k : Nat) : Int := (Pk.rdInt (itI s k)).1
def stL (K : Nat) (s : Pk.St) : Pk.St := (rdLg (itI s K)).2
def stC (K : Nat) (s : Pk.St) : Pk.St := (rdCf (stL K s)).2
def stB (K : Nat) (s : Pk.St) : Pk.St := (Pk.rdBlob (stC K s)).2
def stV (K : Nat) (s : Pk.St) : Pk.St := (rdV (stB K s)).2
def seqS (K : Nat) (s : Pk.St) (k : Nat) : Pk.St := if k ≤ K then itI s k else if k = K + 1 then stL K s else if k = K + 2 then stC K s else if k = K + 3 then stB K s else stV K s
theorem seqS_le {K : Nat} {s : Pk.St} {k : Nat} (h : k ≤ K) : seqS K s k = itI s k := if_pos h
theorem seqS_1 (K : Nat) (s : Pk.St) : seqS K s (K + 1) = stL K s := by unfold seqS; rw [if_neg (by omega), if_pos rfl]
theorem seqS_2 (K : Nat) (s : Pk.St) : seqS K s (K + 2) = stC K s := by unfold seqS; rw [if_neg (by omega), if_neg (by omega), if_pos rfl]
theorem seqS_3 (K : Nat) (s : Pk.St) : seqS K s (K + 3) = stB K s := by unfold seqS; rw [if_neg (by omega), if_neg (by omega), if_neg (by omega), if_pos rfl]
theorem seqS_4 (K : Nat) (s : Pk.St) : seqS K s (K + 4) = stV K s := by unfold seqS; rw [if_neg (by omega), if_neg (by omega), if_neg (by omega), if_neg (by omega)]
theorem itI_short (s : Pk.St) : ∀ k, (itI s k).rest.length ≤ s.rest.length
  | 0 => Nat.le_refl _
  | k + 1 => Nat.le_trans (Pk.rdInt_short _) (itI_short s k)
theorem itI_small (s : Pk.St) (h : s.small) : ∀ k, (itI s k).small
  | 0 => h
  | k + 1 => Pk.rdInt_small _ (itI_small s h k)
theorem vI_in (s : Pk.St) (h : s.small) (k : Nat) : InInt (vI s k) := Pk.rdInt_in _ (itI_small s h k)
theorem seqS_short (K : Nat) (s : Pk.St) (k : Nat) : (seqS K s k).rest.length ≤ s.rest.length := by
  have h0 := itI_short s K
  have h1 : (stL K s).rest.length ≤ s.rest.length := by unfold stL; exact Nat.le_trans ((codLg 100000000 (by decide)).short _) h0
  have h2 : (stC K s).rest.length ≤ s.rest.length := by unfold stC; exact Nat.le_trans ((codCf 100000000 (by decide)).short _) h1
  have h3 : (stB K s).rest.length ≤ s.rest.length := by unfold stB; exact Nat.le_trans ((Codec.blob 100000000 (by decide)).short _) h2
  have h4 : (stV K s).rest.length ≤ s.rest.length := by unfold stV; exact Nat.le_trans (rdV_short _) h3
  unfold seqS
  split
  · exact itI_short s k
  · split
    · exact h1
    · split
      · exact h2
      · split
        · exact h3
        · exact h4
theorem cx_ok (C : Cx) {s : Pk.St} (hR : C.R = C.w0.heap.size) (hG : C.G < C.w0.heap.size) (hnc : 3 ≤ C.nc) (hnc4 : C.nc = 3 ∨ C.nc = 4) (hV : C.V = vI s) (hs : C.s = seqS C.K s) (hl : s.rest.length ≤ 10000000) (hvt : C.vt = (rdV (seqS C.K s (C.K + 3))).1) (ht : C.T ≠ 147 ∧ C.T ≠ 119) : C.Ok := by
  refine ⟨hR, hG, hnc, hnc4, fun k hk => ?_, ?_, ?_, ?_, ⟨?_, ?_⟩, fun k => ?_, ht⟩
  · rw [hV, hs, seqS_le (by omega), seqS_le (by omega)]; exact ⟨rfl, rfl⟩
  · rw [hs, seqS_1, seqS_le (Nat.le_refl _)]; rfl
  · rw [hs, seqS_1, show C.K + 1 + 1 = C.K + 2 from rfl, seqS_2]; rfl
  · rw [hs, seqS_2, show C.K + 2 + 1 = C.K + 3 from rfl, seqS_3]; rfl
  · rw [hs]; exact hvt
  · rw [hs, seqS_3, show C.K + 3 + 1 = C.K + 4 from rfl, seqS_4]; rfl
  · rw [hs]; exact Nat.le_trans (seqS_short _ _ _) hl
def uniqB (K : Nat) (S : Sh) : Bool := (List.range S.n).all (fun i => (List.range S.n).all fun j => decide (i = j) || decide (callNo K (S.c i) = none) || decide (callNo K (S.c i) ≠ callNo K (S.c j)) || decide (S.n ≤ i + 1) || decide (S.n ≤ j + 1))
theorem uniq_of {C : Cx} {S : Sh} {K : Nat} (h : uniqB K S = true) (hK : C.K = K) :
    ∀ i j k, i + 1 < S.n → j + 1 < S.n → callNo C.K (S.c i) = some k → callNo C.K (S.c j) = some k → i = j := by
  intro i j k hi hj h1 h2
  rw [hK] at h1 h2
  have := List.all_eq_true.1 (List.all_eq_true.1 h i (List.mem_range.2 (by omega))) j (List.mem_range.2 (by omega))
  simp only [Bool.or_eq_true, decide_eq_true_eq] at this
  rcases this with (((h | h) | h) | h) | h
  · exact h
  · rw [h1] at h; cases h
  · exact absurd (h1.trans h2.symm) h
  · omega
  · omega
def X0 : Pl := ⟨P0, A0, 0, 0, 0, 0⟩
theorem ir_start {C : Cx} {S : Sh} (hC : C.Ok) {Z : Array Value} {a : Act} {W : World} {n : Nat} (hn : n = S.n) (hsz : a.tmps.size = S.nt) (hd : a.defers = []) (h0 : a.eval (.tmp 0) = .pointer (some ⟨C.G, 0, none⟩)) (h2 : a.eval (.tmp 2) = .pointer (some ⟨C.R, 0, none⟩)) (hz : Z.size = C.sz) (p1 : Sp C.w0 C.G C.g C.R Z C.T (C.s 0) W) : Ir C S (Array.replicate n false) a W := by
  have hl : ∀ j, (Array.replicate n false).getD j false = false := fun j => by
    rw [Array.getD_eq_getD_getElem?, Array.getElem?_replicate]
    split <;> rfl
  refine ⟨X0, 0, hsz, hd, h0, h2, by simp [hn], fun j hj h => ?_, fun j hj k hk => ?_, ?_⟩
  · rw [hl] at h; cases h
  · rw [hl]; exact ⟨fun h => (by cases h), fun h => (by omega)⟩
  · rw [hl]
    exact ⟨p1.kq, ⟨C.g, p1.rt, .inl rfl⟩, ⟨Z, p1.row, hz, fun h => by cases h⟩, fun h => by omega, fun h => by omega, fun h => by omega, .inr ⟨fun h => by omega, fun h => by omega, fun h => by omega⟩, fun h => by omega, by omega⟩
theorem jr_end {C : Cx} {S : Sh} {X : Pl} {p : Nat} {listed : Array Bool} {a : Act} {w : World} (hC : C.Ok) (h : Jr C S X p listed a w) (hall : ∀ j, j < S.n → listed.getD j false = true) (i n1 : Nat) (hi : callNo C.K (S.c i) = some (C.K + C.nc - 1)) (hn : S.n = n1 + 1) (hin : i < n1) :
    w.heap[C.R]? = some (.cells (C.fin X.pt X.a).toArray C.T (0, 0)) ∧ Rq C.G C.g (C.s (C.K + C.nc)) C.w0 w ∧ OwnPt w C.w0.heap.size w.heap.size X.pt X.a ∧ (C.s (C.K + 1) = Pk.gone ∨ X.pt = ⟨(rdLg (C.s C.K)).1, (rdCf (C.s (C.K + 1))).1, (Pk.rdBlob (C.s (C.K + 2))).1⟩) := by
  have h1 := (h.call i (by omega) _ hi).1 (hall i (by omega))
  have hpw := h.pw
  rw [hall _ (by omega)] at hpw
  have hle := hpw.le
  have hnc := hC.nc
  obtain rfl : p = C.K + C.nc := by omega
  obtain ⟨Z, hrow, _, hz⟩ := hpw.row
  obtain ⟨es1, es2, es3⟩ := hpw.es (by omega)
  obtain ⟨⟨c1, c2, c3, c4⟩, o1, o2, o3, b1, b2, b3⟩ := hpw.cf (by omega)
  have osn := hpw.sn (by omega)
  have hRw := hC.hR
  refine ⟨by rw [← (hz rfl).2]; exact hrow, ⟨?_, hpw.kq⟩, ⟨X.m0, X.m1, X.m2, X.m3, ⟨by omega, c1, c2, c3, c4⟩, es1.wide (by omega) (Nat.le_refl _), ⟨o1, b1⟩, ⟨o2, b2⟩, ⟨o3, b3⟩, ⟨osn, fun k hk => (osn.blkLt k hk).2⟩, hpw.num (by omega)⟩, ?_⟩
  · obtain ⟨g', hr, hgg⟩ := hpw.rt
    refine ⟨g', hr, ?_⟩
    rcases hgg with e | ⟨_, e⟩
    · exact .inl e
    · right
      have e2 : C.s (C.K + 2) = Pk.gone := by rw [hC.conf, e]; rfl
      have e3 : C.s (C.K + 3) = Pk.gone := by rw [hC.blob, e2]; rfl
      have e4 : C.s (C.K + 4) = Pk.gone := by rw [hC.vote.2, e3]; rfl
      have hle4 : C.nc = 3 ∨ C.nc = 4 := hC.four
      rcases hle4 with h | h <;> rw [h] <;> assumption
  · rcases hpw.val with e | ⟨v1, v2, v3⟩
    · exact .inl e
    · right
      rw [← v1 (by omega), ← v2 (by omega), ← v3 (by omega)]
theorem act_list (tmps : Array Value) (n : Nat) (h : tmps.size = n) : tmps = ((List.range n).map fun i => (tmps[i]?).getD undef).toArray := by
  apply Array.ext_getElem?
  intro i
  by_cases hi : i < n
  · have hi' : i < tmps.size := by omega
    simp [hi, hi']
  · have h1 : tmps[i]? = none := Array.getElem?_eq_none (by omega)
    rw [h1, eq_comm, List.getElem?_toArray, List.getElem?_eq_none_iff]; simp; omega
theorem rdH_eq (s : Pk.St) : (rdH s).1 = ⟨vI s 0, vI s 1, vI s 2, ⟨(rdLg (itI s 3)).1, (rdCf (stL 3 s)).1, (Pk.rdBlob (stC 3 s)).1⟩⟩ ∧ (rdH s).2 = stB 3 s := by
  simp only [rdH, rdPt, rdM, rdP, vI, stB, stC, stL, itI, and_self]
theorem gone_V {K : Nat} {s : Pk.St} (h : stL K s = Pk.gone) : stB K s = Pk.gone ∧ stV K s = Pk.gone := by
  have h2 : stC K s = Pk.gone := by unfold stC; rw [h]; rfl
  have h3 : stB K s = Pk.gone := by unfold stB; rw [h2]; rfl
  exact ⟨h3, by unfold stV; rw [h3]; rfl⟩
end Go.Proofs.Ytaeoccpjdjafnaa.Im
namespace Go.Proofs.Ytaeoccpjdjafnaa.Im
open Go Go.RowKit
open Rl (En Lg)
open Qu (Cf)
set_option linter.unusedSectionVars false
variable [Lo]
set_option maxRecDepth 100000
set_option linter.unusedVariables false
attribute [local go_sem ↓] loadAt_hard storeAt_hard loadAt_vote storeAt_vote loadAt_change storeAt_change
def shhard : Sh := ⟨26, 28, [.g, .g, .g, .ld, (.num 0), .g, .g, .g, .ld, (.num 1), .g, .g, .g, .ld, (.num 2), .g, .log, .g, .conf, .g, .g, .g, .ld, .blob, .agg]⟩
def cxhard (G g : Nat) (s : Pk.St) (w : World) : Cx := ⟨G, g, w.heap.size, w, 3, 3, vI s, seqS 3 s, (rdV (seqS 3 s 6)).1, 59, 10, fun pt a => cellsH ⟨⟨vI s 0, vI s 1, vI s 2, pt⟩, a⟩⟩
set_option maxHeartbeats 800000 in
theorem build_hard (V : Nat → Int) (vt : Vt) (pt : Pt) (A : Ad) (a : Act) (w : World) (h0 : a.eval (.tmp 7) = .int .i64 (V 0)) (h1 : a.eval (.tmp 12) = .int .i64 (V 1)) (h2 : a.eval (.tmp 17) = .int .i64 (V 2)) (h3 : a.eval (.tmp 19) = .agg #[.int .i64 pt.log.base, .int .i64 pt.log.term, .slice A.e pt.log.es.length A.ce]) (h4 : a.eval (.tmp 21) = .agg #[.slice A.o pt.cf.old.length A.co, .slice A.n pt.cf.new.length A.cn, .slice A.l pt.cf.lrn.length A.cl]) (h5 : a.eval (.tmp 26) = .slice A.s pt.sn.length A.cs) : (Instr.build 59 ((#[(0, .tmp 7), (1, .tmp 12), (2, .tmp 17), (3, .tmp 19), (4, .tmp 21), (5, .tmp 26)] : Array (Nat × Operand)).map fun (i, x) => (i, a.eval x))).run Try.prog w = .ok (.agg (cellsH ⟨⟨V 0, V 1, V 2, pt⟩, A⟩).toArray) w := by
  generalize hρ : a.eval = ρ at *
  simp only [List.map_toArray, List.map_cons, List.map_nil, h0, h1, h2, h3, h4, h5]
  clear h0 h1 h2 h3 h4 h5 hρ
  go_simp
  try rfl
theorem one_hard (G g : Nat) (s : Pk.St) (w : World) (pt : Pt) (a : Ad) : ((cxhard G g s w).fin pt a).toArray.all (·.oneCell') = true := by
  show (cellsH _).toArray.all _ = true
  simp [cellsH, Value.oneCell']
theorem okchard (G g : Nat) (s : Pk.St) (hl : s.rest.length ≤ 10000000) (w : World) (hG : G < w.heap.size) : (cxhard G g s w).Ok := cx_ok _ rfl hG (show 3 ≤ 3 by decide) (.inl rfl) rfl rfl hl rfl ⟨(show 59 ≠ 147 by decide), (show 59 ≠ 119 by decide)⟩
theorem uniqhard : uniqB 3 shhard = true := by kernel_rfl
theorem okshard (G g : Nat) (s : Pk.St) (w : World) : shhard.Ok (cxhard G g s w) := ⟨Nat.le_refl _, Nat.succ_pos _, uniq_of (K := 3) uniqhard rfl⟩
theorem finhard (G g : Nat) (s : Pk.St) (w w2 : World) (X : Pl) (hs : s.small) (hq : Rq G g ((cxhard G g s w).s ((cxhard G g s w).K + (cxhard G g s w).nc)) w w2) (ho : OwnPt w2 w.heap.size w2.heap.size X.pt X.a) (hv : (cxhard G g s w).s ((cxhard G g s w).K + 1) = Pk.gone ∨ X.pt = ⟨(rdLg ((cxhard G g s w).s (cxhard G g s w).K)).1, (rdCf ((cxhard G g s w).s ((cxhard G g s w).K + 1))).1, (Pk.rdBlob ((cxhard G g s w).s ((cxhard G g s w).K + 2))).1⟩) :
    ∃ (x : Hd) (a : Ad), (Ending.returned (.agg (cellsH ⟨⟨vI s 0, vI s 1, vI s 2, X.pt⟩, X.a⟩).toArray)) = .returned (.agg #[.int .i64 x.g, .int .i64 x.t, .int .i64 x.v, .int .i64 x.p.log.base, .int .i64 x.p.log.term, .slice a.e x.p.log.es.length a.ce, .slice a.o x.p.cf.old.length a.co, .slice a.n x.p.cf.new.length a.cn, .slice a.l x.p.cf.lrn.length a.cl, .slice a.s x.p.sn.length a.cs]) ∧ OwnPt w2 w.heap.size w2.heap.size x.p a ∧ (InInt x.g ∧ InInt x.t ∧ InInt x.v) ∧ Rq G g (rdH s).2 w w2 ∧ ((rdH s).2 = Pk.gone ∨ x = (rdH s).1) := by
  have e1 : (cxhard G g s w).s ((cxhard G g s w).K + (cxhard G g s w).nc) = stB 3 s := by dsimp only [cxhard]; exact seqS_3 3 s
  have e2 : (cxhard G g s w).s ((cxhard G g s w).K + 1) = stL 3 s := by dsimp only [cxhard]; exact seqS_1 3 s
  have e3 : (cxhard G g s w).s ((cxhard G g s w).K + 2) = stC 3 s := by dsimp only [cxhard]; exact seqS_2 3 s
  have e4 : (cxhard G g s w).s (cxhard G g s w).K = itI s 3 := by dsimp only [cxhard]; exact seqS_le (Nat.le_refl _)
  rw [e1] at hq
  rw [e2, e3, e4] at hv
  clear e1 e2 e3 e4
  refine ⟨⟨vI s 0, vI s 1, vI s 2, X.pt⟩, X.a, rfl, ho, ⟨vI_in s hs 0, vI_in s hs 1, vI_in s hs 2⟩, by rw [(rdH_eq s).2]; exact hq, ?_⟩
  rw [(rdH_eq s).1, (rdH_eq s).2]
  rcases hv with e | e
  · exact .inl (gone_V e).1
  · exact .inr (by rw [e])
set_option maxHeartbeats 3200000 in
theorem rhard_any (G g : Nat) (s : Pk.St) (hl : s.rest.length ≤ 10000000) (w : World) (h : Rt w G g s) :
    Calls Try.prog 80 #[.pointer (some ⟨G, 0, none⟩)] w fun e w' => ∃ (x : Hd) (a : Ad), e = .returned (.agg #[.int .i64 x.g, .int .i64 x.t, .int .i64 x.v, .int .i64 x.p.log.base, .int .i64 x.p.log.term, .slice a.e x.p.log.es.length a.ce, .slice a.o x.p.cf.old.length a.co, .slice a.n x.p.cf.new.length a.cn, .slice a.l x.p.cf.lrn.length a.cl, .slice a.s x.p.sn.length a.cs]) ∧ OwnPt w' w.heap.size w'.heap.size x.p a ∧ (InInt x.g ∧ InInt x.t ∧ InInt x.v) ∧ Rq G g (rdH s).2 w w' ∧ ((rdH s).2 = Pk.gone ∨ x = (rdH s).1) := by
  have hC := okchard G g s hl w h.lt
  have hS := okshard G g s w
  obtain ⟨w1, hw1⟩ : ∃ w1, w1 = w.alloc (.cells #[.int .i64 0, .int .i64 0, .int .i64 0, .int .i64 0, .int .i64 0, .slice none 0 0, .slice none 0 0, .slice none 0 0, .slice none 0 0, .slice none 0 0] 59) := ⟨_, rfl⟩
  obtain ⟨p1, p0⟩ := Sp.start h w1 hw1
  have hI : Ir (cxhard G g s w) shhard (Array.replicate 26 false) ⟨#[.pointer (some ⟨G, 0, none⟩), undef, .pointer (some ⟨w.heap.size, 0, none⟩), undef, undef, undef, undef, undef, undef, undef, undef, undef, undef, undef, undef, undef, undef, undef, undef, undef, undef, undef, undef, undef, undef, undef, undef, undef], []⟩ w1.drew := ir_start (C := cxhard G g s w) (S := shhard) hC rfl rfl rfl rfl rfl rfl p1
  have HG := hid (And.intro (hl) h)
  have HS : Hid (s.small) := hid h.ro.rdr.small
  clear p1 p0 h hl
  go_enter Try.func80, Try.ntmps80
  go_wp2_with fail
  rw [← hw1]
  clear hw1
  refine region_reads (C := cxhard G g s w) (S := shhard) rfl rfl (by decide) (by kernel_rfl) hI ?arms ?he
  case arms =>
    clear hI
    exact ⟨fun listed a w h hu ha => ir_move hS h 0 _ rfl rfl rfl rfl (by decide) rfl,
      fun listed a w h hu ha => ir_nil hS h 1 0 _ rfl rfl rfl rfl (by decide) (by decide) rfl rfl (ha ⟨0, .data⟩ (by simp) rfl),
      fun listed a w h hu ha => ir_fad hS h 2 1 _ rfl rfl rfl rfl (by decide) (by decide) rfl rfl (ha ⟨1, .data⟩ (by simp) rfl),
      fun listed a w h hu ha => ir_load hC hS h 3 2 _ rfl rfl rfl rfl (by decide) (by decide) rfl rfl (ha ⟨2, .data⟩ (by simp) rfl),
      fun listed a w h hu ha => ir_int hC hS h 4 3 0 _ rfl rfl rfl rfl (by decide) (by decide) rfl (show 0 < 3 by decide) rfl (ha ⟨3, .data⟩ (by simp) rfl) hu (.inl rfl),
      fun listed a w h hu ha => ir_move hS h 5 _ rfl rfl rfl rfl (by decide) rfl,
      fun listed a w h hu ha => ir_nil hS h 6 5 _ rfl rfl rfl rfl (by decide) (by decide) rfl rfl (ha ⟨5, .data⟩ (by simp) rfl),
      fun listed a w h hu ha => ir_fad hS h 7 6 _ rfl rfl rfl rfl (by decide) (by decide) rfl rfl (ha ⟨6, .data⟩ (by simp) rfl),
      fun listed a w h hu ha => ir_load hC hS h 8 7 _ rfl rfl rfl rfl (by decide) (by decide) rfl rfl (ha ⟨7, .data⟩ (by simp) rfl),
      fun listed a w h hu ha => ir_int hC hS h 9 8 1 _ rfl rfl rfl rfl (by decide) (by decide) rfl (show 1 < 3 by decide) rfl (ha ⟨8, .data⟩ (by simp) rfl) hu (.inr ⟨4, by decide, rfl, (ha ⟨4, .chain⟩ (by simp) rfl)⟩),
      fun listed a w h hu ha => ir_move hS h 10 _ rfl rfl rfl rfl (by decide) rfl,
      fun listed a w h hu ha => ir_nil hS h 11 10 _ rfl rfl rfl rfl (by decide) (by decide) rfl rfl (ha ⟨10, .data⟩ (by simp) rfl),
      fun listed a w h hu ha => ir_fad hS h 12 11 _ rfl rfl rfl rfl (by decide) (by decide) rfl rfl (ha ⟨11, .data⟩ (by simp) rfl),
      fun listed a w h hu ha => ir_load hC hS h 13 12 _ rfl rfl rfl rfl (by decide) (by decide) rfl rfl (ha ⟨12, .data⟩ (by simp) rfl),
      fun listed a w h hu ha => ir_int hC hS h 14 13 2 _ rfl rfl rfl rfl (by decide) (by decide) rfl (show 2 < 3 by decide) rfl (ha ⟨13, .data⟩ (by simp) rfl) hu (.inr ⟨9, by decide, rfl, (ha ⟨9, .chain⟩ (by simp) rfl)⟩),
      fun listed a w h hu ha => ir_move hS h 15 _ rfl rfl rfl rfl (by decide) rfl,
      fun listed a w h hu ha => ir_log hC hS h 16 15 14 _ rfl rfl rfl rfl (by decide) (by decide) rfl rfl (ha ⟨15, .data⟩ (by simp) rfl) hu (by decide) rfl (ha ⟨14, .chain⟩ (by simp) rfl),
      fun listed a w h hu ha => ir_move hS h 17 _ rfl rfl rfl rfl (by decide) rfl,
      fun listed a w h hu ha => ir_conf hC hS h 18 17 16 _ rfl rfl rfl rfl (by decide) (by decide) rfl rfl (ha ⟨17, .data⟩ (by simp) rfl) hu (by decide) rfl (ha ⟨16, .chain⟩ (by simp) rfl),
      fun listed a w h hu ha => ir_move hS h 19 _ rfl rfl rfl rfl (by decide) rfl,
      fun listed a w h hu ha => ir_nil hS h 20 19 _ rfl rfl rfl rfl (by decide) (by decide) rfl rfl (ha ⟨19, .data⟩ (by simp) rfl),
      fun listed a w h hu ha => ir_fad hS h 21 20 _ rfl rfl rfl rfl (by decide) (by decide) rfl rfl (ha ⟨20, .data⟩ (by simp) rfl),
      fun listed a w h hu ha => ir_load hC hS h 22 21 _ rfl rfl rfl rfl (by decide) (by decide) rfl rfl (ha ⟨21, .data⟩ (by simp) rfl),
      fun listed a w h hu ha => ir_blob hC hS h 23 22 18 _ rfl rfl rfl rfl (by decide) (by decide) rfl rfl (ha ⟨22, .data⟩ (by simp) rfl) hu (by decide) rfl (ha ⟨18, .chain⟩ (by simp) rfl),
      fun listed a w h hu ha => ir_build hC hS h 24 23 59 _ _ rfl rfl rfl rfl (by decide) rfl (by decide) rfl (ha ⟨23, .data⟩ (by simp) rfl) (fun X p hs => by
      obtain ⟨h0, h1, h2, h3, h4, h5⟩ : a.eval (.tmp 7) = .int .i64 (vI s 0) ∧ a.eval (.tmp 12) = .int .i64 (vI s 1) ∧ a.eval (.tmp 17) = .int .i64 (vI s 2) ∧ a.eval (.tmp 19) = .agg #[.int .i64 X.pt.log.base, .int .i64 X.pt.log.term, .slice X.a.e X.pt.log.es.length X.a.ce] ∧ a.eval (.tmp 21) = .agg #[.slice X.a.o X.pt.cf.old.length X.a.co, .slice X.a.n X.pt.cf.new.length X.a.cn, .slice X.a.l X.pt.cf.lrn.length X.a.cl] ∧ a.eval (.tmp 26) = .slice X.a.s X.pt.sn.length X.a.cs := ⟨hs 4 (by decide) (ha ⟨4, .data⟩ (by simp) rfl), hs 9 (by decide) (ha ⟨9, .data⟩ (by simp) rfl), hs 14 (by decide) (ha ⟨14, .data⟩ (by simp) rfl), hs 16 (by decide) (ha ⟨16, .data⟩ (by simp) rfl), hs 18 (by decide) (ha ⟨18, .data⟩ (by simp) rfl), hs 23 (by decide) (ha ⟨23, .data⟩ (by simp) rfl)⟩
      exact build_hard (vI s) (rdV (seqS 3 s 6)).1 X.pt X.a a w h0 h1 h2 h3 h4 h5),
      fun listed a w h hu ha => ir_store hC hS h 25 24 _ rfl rfl rfl rfl rfl (by decide) rfl (ha ⟨24, .data⟩ (by simp) rfl) (fun _ _ => rfl) (one_hard G g s _) info_hard,
      trivial⟩
  case he =>
    clear hI
    intro listed a w2 X p hJ hall
    obtain ⟨hrow, hrq, hown, hval⟩ := jr_end hC hJ hall 23 25 rfl rfl (by decide)
    have HR := hid hrow
    have HQ := hid (And.intro hrq (And.intro hown hval))
    have ht2 := hJ.t2
    have hts := hJ.size
    have ht2' : (a.tmps[2]?).getD undef = .pointer (some ⟨w.heap.size, 0, none⟩) := by rw [← Array.getD_eq_getD_getElem?]; exact ht2
    obtain ⟨tmps, defers⟩ := a
    obtain rfl : defers = [] := hJ.defers
    clear hJ hall hrow hrq hown hval
    have hl := act_list tmps 28 hts
    have h2 : (List.range 28).map (fun i => (tmps[i]?).getD undef) = [(tmps[0]?).getD undef, (tmps[1]?).getD undef, (tmps[2]?).getD undef, (tmps[3]?).getD undef, (tmps[4]?).getD undef, (tmps[5]?).getD undef, (tmps[6]?).getD undef, (tmps[7]?).getD undef, (tmps[8]?).getD undef, (tmps[9]?).getD undef, (tmps[10]?).getD undef, (tmps[11]?).getD undef, (tmps[12]?).getD undef, (tmps[13]?).getD undef, (tmps[14]?).getD undef, (tmps[15]?).getD undef, (tmps[16]?).getD undef, (tmps[17]?).getD undef, (tmps[18]?).getD undef, (tmps[19]?).getD undef, (tmps[20]?).getD undef, (tmps[21]?).getD undef, (tmps[22]?).getD undef, (tmps[23]?).getD undef, (tmps[24]?).getD undef, (tmps[25]?).getD undef, (tmps[26]?).getD undef, (tmps[27]?).getD undef] := by kernel_rfl
    rw [h2, show (tmps[2]?).getD undef = .pointer (some ⟨w.heap.size, 0, none⟩) from ht2'] at hl
    clear h2 ht2 ht2' hts
    generalize (tmps[0]?).getD undef = x0 at hl
    generalize (tmps[1]?).getD undef = x1 at hl
    generalize (tmps[3]?).getD undef = x3 at hl
    generalize (tmps[4]?).getD undef = x4 at hl
    generalize (tmps[5]?).getD undef = x5 at hl
    generalize (tmps[6]?).getD undef = x6 at hl
    generalize (tmps[7]?).getD undef = x7 at hl
    generalize (tmps[8]?).getD undef = x8 at hl
    generalize (tmps[9]?).getD undef = x9 at hl
    generalize (tmps[10]?).getD undef = x10 at hl
    generalize (tmps[11]?).getD undef = x11 at hl
    generalize (tmps[12]?).getD undef = x12 at hl
    generalize (tmps[13]?).getD undef = x13 at hl
    generalize (tmps[14]?).getD undef = x14 at hl
    generalize (tmps[15]?).getD undef = x15 at hl
    generalize (tmps[16]?).getD undef = x16 at hl
    generalize (tmps[17]?).getD undef = x17 at hl
    generalize (tmps[18]?).getD undef = x18 at hl
    generalize (tmps[19]?).getD undef = x19 at hl
    generalize (tmps[20]?).getD undef = x20 at hl
    generalize (tmps[21]?).getD undef = x21 at hl
    generalize (tmps[22]?).getD undef = x22 at hl
    generalize (tmps[23]?).getD undef = x23 at hl
    generalize (tmps[24]?).getD undef = x24 at hl
    generalize (tmps[25]?).getD undef = x25 at hl
    generalize (tmps[26]?).getD undef = x26 at hl
    generalize (tmps[27]?).getD undef = x27 at hl
    subst hl
    go_wp2_with fail
    refine bodyPost_ret (results_cell_row rfl _ _ w.heap.size _ _ _ _ rfl HR.out Try.underlying59 rfl (by rw [info_hard]; rfl)) rfl ?_
    exact finhard G g s w w2 X HS.out HQ.out.1 HQ.out.2.1 HQ.out.2.2
end Go.Proofs.Ytaeoccpjdjafnaa.Im
namespace Go.Proofs.Ytaeoccpjdjafnaa.Im
open Go.RowKit
open Rl (En Lg)
open Qu (Cf)
set_option linter.unusedSectionVars false
variable [Lo]
set_option maxRecDepth 100000
set_option linter.unusedVariables false
def OwnPts (w : World) : Nat → Nat → List (Pt × Ad) → Prop
  | B, N, [] => B ≤ N
  | B, N, q :: l => ∃ m, B ≤ m ∧ OwnPt w B m q.1 q.2 ∧ OwnPts w m N l
theorem OwnPt.le {w : World} {B N : Nat} {p : Pt} {a : Ad} (h : OwnPt w B N p a) : B ≤ N := by
  obtain ⟨m0, m1, m2, m3, ⟨c0, c1, c2, c3, c4⟩, _⟩ := h; omega
namespace OwnPts
variable {w w' : World}
theorem le : ∀ {l : List (Pt × Ad)} {B N : Nat}, OwnPts w B N l → B ≤ N
  | [], _, _, h => h
  | q :: l, _, _, ⟨m, h1, _, h3⟩ => Nat.le_trans h1 (le h3)
theorem kp (hk : Kp Parts w w') : ∀ {l : List (Pt × Ad)} {B N : Nat}, OwnPts w B N l → OwnPts w' B N l
  | [], _, _, h => h
  | q :: l, _, _, ⟨m, h1, h2, h3⟩ => ⟨m, h1, h2.kp hk, kp hk h3⟩
theorem keep {S : Nat → Prop} (ht : Turned S w w') : ∀ {l : List (Pt × Ad)} {B N : Nat}, OwnPts w B N l → (∀ k, S k → ¬ Bl B N k) → OwnPts w' B N l
  | [], _, _, h, _ => h
  | q :: l, _, _, ⟨m, h1, h2, h3⟩, hs => ⟨m, h1, h2.keep ht (fun k hk hB => hs k hk ⟨hB.1, by have := hB.2; have := le h3; omega⟩), keep ht h3 (fun k hk hB => hs k hk ⟨by have := hB.1; omega, hB.2⟩)⟩
theorem wide {l : List (Pt × Ad)} : ∀ {B N B' N' : Nat}, OwnPts w B N l → B' ≤ B → N ≤ N' → OwnPts w B' N' l := by
  induction l with
  | nil => intro B N B' N' h h1 h2; exact Nat.le_trans h1 (Nat.le_trans h h2)
  | cons q l ih => rintro B N B' N' ⟨m, h1, h2, h3⟩ hB hN; exact ⟨m, Nat.le_trans hB h1, h2.wide hB (Nat.le_refl _), ih h3 (Nat.le_refl _) hN⟩
theorem snoc {N N' : Nat} {q : Pt × Ad} : ∀ {l : List (Pt × Ad)} {B : Nat}, OwnPts w B N l → OwnPt w N N' q.1 q.2 → OwnPts w B N' (l ++ [q])
  | [], _, h, hq => ⟨N', Nat.le_trans h hq.le, hq.wide h (Nat.le_refl _), Nat.le_refl _⟩
  | p :: l, _, ⟨m, h1, h2, h3⟩, hq => ⟨m, h1, h2, snoc h3 hq⟩
theorem mem {q : Pt × Ad} : ∀ {l : List (Pt × Ad)} {B N : Nat}, OwnPts w B N l → q ∈ l → OwnPt w B N q.1 q.2
  | p :: l, _, _, ⟨m, h1, h2, h3⟩, hq => by
    rcases List.mem_cons.1 hq with rfl | hq
    · exact h2.wide (Nat.le_refl _) (le h3)
    · exact (mem h3 hq).wide h1 (Nat.le_refl _)
end OwnPts
theorem OwnPts.kp_ {w w' : World} {B N : Nat} {l : List (Pt × Ad)} (h : OwnPts w B N l) (hk : Kp Parts w w') : OwnPts w' B N l := OwnPts.kp hk h
theorem OwnPts.keep_ {w w' : World} {B N : Nat} {l : List (Pt × Ad)} {S : Nat → Prop} (h : OwnPts w B N l) (ht : Turned S w w') (hs : ∀ k, S k → ¬ Bl B N k) : OwnPts w' B N l := OwnPts.keep ht h hs
theorem cellsH_fits (q : Hq) : (cellsH q).length = 10 := rfl
theorem cellsH_one (q : Hq) : ∀ u ∈ cellsH q, u.oneCell' = true := by
  intro u hu
  simp [cellsH] at hu
  rcases hu with rfl | rfl | rfl | rfl | rfl | rfl | rfl | rfl | rfl | rfl <;> rfl
theorem info_hard3 : (Try.prog.info? 59).map (fun i => (i.zero, i.size, i.bytes)) = some (some (.agg #[.int .i64 0, .int .i64 0, .int .i64 0, .int .i64 0, .int .i64 0, .slice none 0 0, .slice none 0 0, .slice none 0 0, .slice none 0 0, .slice none 0 0]), 10, 160) := by kernel_rfl
structure OwnHs (w : World) (B N : Nat) (A : Option Addr) (c : Nat) (M : List Hq) : Prop where
  row : RowIn cellsH 10 59 w (Bl B N) A c M
  pts : OwnPts w B N (M.map fun q => (q.h.p, q.a))
  num : ∀ q ∈ M, InInt q.h.g ∧ InInt q.h.t ∧ InInt q.h.v
namespace OwnHs
variable {w w' : World} {B B' N N' : Nat} {A : Option Addr} {c : Nat} {M : List Hq}
theorem nil (w : World) {B N : Nat} (h : B ≤ N) : OwnHs w B N none 0 [] := ⟨RowIn.nil cellsH_fits _ _ _, h, fun q hq => by cases hq⟩
theorem kq (h : OwnHs w B N A c M) (hk : Kq w.heap.size w w') : OwnHs w' B N A c M := ⟨hk.rowIn h.row (by decide) (by decide), h.pts.kp_ (Kp.ofKq hk parts_kq), h.num⟩
theorem keep {S : Nat → Prop} (h : OwnHs w B N A c M) (ht : Turned S w w') (hs : ∀ k, S k → ¬ Bl B N k) : OwnHs w' B N A c M := ⟨h.row.keep ht (fun k hk hS => hs k hS (h.row.blk k hk)), h.pts.keep_ ht hs, h.num⟩
theorem below (h : OwnHs w B N A c M) (hb : Below N w w') : OwnHs w' B N A c M :=
  h.keep (S := fun k => N ≤ k) ⟨hb.os, hb.tape, hb.output, hb.size, fun k _ hn => hb.block k (by omega)⟩ (fun k hk hB => by have := hB.2; omega)
theorem wide (h : OwnHs w B N A c M) (hB : B' ≤ B) (hN : N ≤ N') : OwnHs w B' N' A c M := ⟨h.row.mono (fun k hk => ⟨Nat.le_trans hB (h.row.blk k hk).1, Nat.lt_of_lt_of_le (h.row.blk k hk).2 hN⟩), h.pts.wide hB hN, h.num⟩
theorem reads (h : OwnHs w B N A c M) : IsHds w N A M := by
  refine ⟨⟨fun k hk => ?_⟩, fun q hq => ?_, h.num⟩
  · obtain ⟨g, hA, hg, hF, hc, _⟩ := h.row.get k hk
    refine ⟨g, 0, hA, hF.2, fun i hi j v hv => ?_⟩
    obtain ⟨g', hA', _, _, hc', _⟩ := h.row.get i hi
    obtain rfl : g = g' := by rw [hA] at hA'; injection hA' with e; injection e
    have hj : j < 10 := (List.getElem?_eq_some_iff.1 hv).1
    rw [Nat.zero_add, hc' j hj]; exact hv
  · exact (OwnPts.mem h.pts (List.mem_map.2 ⟨q, hq, rfl⟩)).reads
end OwnHs
theorem rdH_short (s : Pk.St) : (rdH s).2.rest.length ≤ s.rest.length := (codH 100000000 (by decide)).short s
structure LpH (w : World) (G g : Nat) (s : Pk.St) (A : Option Addr) (c : Nat) (L : List Hq) (m : Int) (s' : Pk.St) (W : World) : Prop where
  rq : Rq G g s' w W
  own : OwnHs W w.heap.size W.heap.size A c L
  st : (rdN rdH m.toNat s').2 = (rdL rdH s).2
  val : s' = Pk.gone ∨ L.map (·.h) ++ (rdN rdH m.toNat s').1 = (rdL rdH s).1
  few : 0 < m → s'.bad = false → (L.length : Int) + m ≤ 1250000
  rest : s'.rest.length ≤ 10000000
theorem LpH.done {w W : World} {G g c : Nat} {s s' : Pk.St} {A : Option Addr} {L : List Hq} {m : Int} (h : LpH w G g s A c L m s' W) (he : rdN rdH m.toNat s' = ([], s')) :
    OwnHs W w.heap.size W.heap.size A c L ∧ Rq G g (rdL rdH s).2 w W ∧ ((rdL rdH s).2 = Pk.gone ∨ L.map (·.h) = (rdL rdH s).1) := by
  have h1 := h.st
  have h2 := h.val
  rw [he] at h1 h2
  have h1' : s' = (rdL rdH s).2 := h1
  rw [List.append_nil] at h2
  exact ⟨h.own, h1' ▸ h.rq, by rw [← h1']; exact h2⟩
theorem lpH_step {w wr w4 w5 w6 : World} {G g c1 c6 : Nat} {s s' s2 : Pk.St} {A1 A6 : Option Addr} {L : List Hq} {m : Int} {x : Hd} {a : Ad} (h : LpH w G g s A1 c1 L m s' wr) (hG : G < w.heap.size) (hb5 : Below w4.heap.size w4 w5) (ho : OwnPt w4 wr.heap.size w4.heap.size x.p a) (hn : InInt x.g ∧ InInt x.t ∧ InInt x.v) (hr : Rq G g s2 wr w4) (hrow5 : RowIn cellsH 10 59 w5 (Bl w.heap.size wr.heap.size) A1 c1 L)
    {n5 : Nat} (hn5 : w5.heap.size = n5) (hrow6 : RowIn cellsH 10 59 w6 (fun k => Bl w.heap.size wr.heap.size k ∨ n5 ≤ k) A6 c6 (L ++ [⟨x, a⟩])) (hg6 : w5.grownBy w6 (Go.Proofs.Ytaeoccpjdjafnaa.blk A1)) (hst : (rdN rdH (m - 1).toNat s2).2 = (rdL rdH s).2) (hval : s2 = Pk.gone ∨ (L ++ [(⟨x, a⟩ : Hq)]).map (·.h) ++ (rdN rdH (m - 1).toNat s2).1 = (rdL rdH s).1) (hfew : 0 < m - 1 → s2.bad = false → (((L ++ [(⟨x, a⟩ : Hq)]).length : Nat) : Int) + (m - 1) ≤ 1250000) (hl2 : s2.rest.length ≤ 10000000) :
    LpH w G g s A6 c6 (L ++ [⟨x, a⟩]) (m - 1) s2 w6 := by
  obtain ⟨⟨g', hrt4, hgg⟩, hk4⟩ := hr
  have hws : w.heap.size ≤ wr.heap.size := h.rq.2.size
  have hw4 := hk4.size
  have hw5 := hb5.size
  have hw6 := hg6.size
  have hrt5 := hrt4.below hb5
  have hrt6 : Rt w6 G g' s2 := hrt5.grow hrow5 (by decide) (fun k hk => by have := hk.1; omega) hg6
  have hkq5 : Kq w.heap.size w w5 := (h.rq.2.trans (hk4.mono hws)).trans ((Kq.ofBelow hb5).mono (by omega))
  have hkq6 : Kq w.heap.size w w6 := hkq5.trans (Kq.grow hrow5 (fun k hk => hk.1) hkq5.size hg6)
  have kp56 : Kp Parts w5 w6 := by
    rcases hb : Go.Proofs.Ytaeoccpjdjafnaa.blk A1 with _ | k
    · rw [hb] at hg6
      exact Kp.ofBelow (below_grown hg6 (Nat.le_refl _) (fun j e => by cases e))
    · rw [hb] at hg6
      obtain ⟨cur, hc⟩ := hrow5.tag hb
      exact Kp.ofGrown hc (by rintro (e | e | e) <;> exact absurd e (by decide)) hg6
  have p4 : OwnPts w4 w.heap.size w4.heap.size ((L ++ [(⟨x, a⟩ : Hq)]).map fun q => (q.h.p, q.a)) := by
    rw [List.map_append]
    exact (h.own.pts.kp_ (Kp.ofKq hk4 parts_kq)).snoc ho
  have p6 := ((p4.kp_ (Kp.ofBelow hb5)).kp_ kp56).wide (Nat.le_refl _) (show w4.heap.size ≤ w6.heap.size by omega)
  refine ⟨⟨⟨g', hrt6, hgg⟩, hkq6⟩, ⟨hrow6.mono (fun k hk => ⟨?_, hrow6.lt k hk⟩), p6, fun q hq => ?_⟩, hst, hval, hfew, hl2⟩
  · rcases hrow6.blk k hk with e | e
    · exact e.1
    · omega
  · rcases List.mem_append.1 hq with hq | hq
    · exact h.own.num q hq
    · obtain rfl := List.mem_singleton.1 hq; exact hn
set_option maxHeartbeats 3200000 in
theorem rHs_any (G g : Nat) (s : Pk.St) (hl : s.rest.length ≤ 10000000) (w : World) (h : Rt w G g s) :
    Calls Try.prog 79 #[.pointer (some ⟨G, 0, none⟩), .func (.func 80) #[.pointer (some ⟨G, 0, none⟩)] #[]] w fun e w' => ∃ A c n, e = .returned (.slice A n c) ∧ ∃ L : List Hq, n = L.length ∧
      OwnHs w' w.heap.size w'.heap.size A c L ∧ Rq G g (rdL rdH s).2 w w' ∧ ((rdL rdH s).2 = Pk.gone ∨ L.map (·.h) = (rdL rdH s).1) := by
  obtain ⟨i0, hi, hz0, hz1, hz2⟩ := info_parts info_hard3
  have HI := hid (int_rdr g s w h.ro.rdr)
  have hin := Pk.rdInt_in s h.ro.rdr.small
  have hsh := Pk.rdInt_short s
  have H := hid h
  have HD : Hid (∀ (v : Int) (s1 : Pk.St), v = (Pk.rdInt s).1 → s1 = (Pk.rdInt s).2 → rdL rdH s = if v < 0 ∨ ((s1.rest.length / 8 : Nat) : Int) < v then ([], Pk.gone) else rdN rdH v.toNat s1) := hid (by rintro v s1 rfl rfl; rfl)
  have ST : Hid (∀ (v : Int) (s1 : Pk.St) (w1 : World), v = (Pk.rdInt s).1 → s1 = (Pk.rdInt s).2 → Rdr w1 g (Pk.rdInt s).2 → w.grownBy w1 (some g) → Rt w1 G g s1 ∧ Kq w.heap.size w w1) := hid (by
    rintro v s1 w1 rfl rfl hr hg
    exact H.out.step hr hg (fun e => by subst e; rfl))
  obtain ⟨s1, hs1⟩ : ∃ s1, s1 = (Pk.rdInt s).2 := ⟨_, rfl⟩
  obtain ⟨v, hv⟩ : ∃ v, v = (Pk.rdInt s).1 := ⟨_, rfl⟩
  rw [← hs1] at HI hsh
  rw [← hv] at HI hin
  have HD2 := hid (HD.out v s1 hv hs1)
  have ST2 : Hid (∀ (w1 : World), Rdr w1 g s1 → w.grownBy w1 (some g) → Rt w1 G g s1 ∧ Kq w.heap.size w w1) := hid (fun w1 hr hg => ST.out v s1 w1 hv hs1 (hs1 ▸ hr) hg)
  clear hs1 hv HD ST h
  have hin1 := hin.1
  have hin2 := hin.2
  have HS : Hid (s1.rest.length ≤ 10000000) := hid (by omega)
  have hs1l : s1.rest.length ≤ 10000000 := HS.out
  by_cases hneg : v < 0
  · skip
    have HF : Hid ((rdL rdH s).2 = Pk.gone) := hid (by rw [HD2.out, if_pos (by omega)])
    have hcell := H.out.cell
    clear hin hl hsh
    go_enter Try.func79, Try.ntmps79
    go_wp2_with fail
    refine HI.out.mono ?_
    rintro e w1 ⟨rfl, hR, hG⟩
    obtain ⟨hrt, hkq⟩ := ST2.out w1 hR hG
    have hc1 := hrt.cell
    have HSP := hid (spoilR_any G g 10000000 s1 HS.out w1 hrt)
    have HKQ := hid hkq
    clear hR hG hrt hkq hcell
    go_wp2_with fail
    refine HSP.out.mono ?_
    rintro e w3 ⟨rfl, hk3⟩
    have HR3 : Hid (Rq G g Pk.gone w w3) := hid ⟨hk3.at_, HKQ.out.trans (hk3.kq.mono HKQ.out.size)⟩
    clear hk3 hc1 HSP
    go_wp2_with fail
    go_loopw [5, 6] (fun i l wr => i = .int .i64 v ∧ l = .slice none 0 0 ∧ Hid (Rq G g Pk.gone w wr)) (fun _ _ _ => 0)
    case atStart => exact ⟨rfl, rfl, HR3⟩
    case round =>
      clear HR3
      obtain ⟨rfl, rfl, HR⟩ := hrel
      go_wp2_with fail
      go_ret
      rw [HF.out]
      exact ⟨none, 0, 0, rfl, [], rfl, OwnHs.nil _ HR.out.2.size, HR.out, .inl rfl⟩
  · by_cases hgt : ((s1.rest.length : Int) / 8) < v
    · skip
      have hv0 : 0 < v := by omega
      have HF : Hid ((rdL rdH s).2 = Pk.gone) := hid (by rw [HD2.out, if_pos (by omega)])
      have hcell := H.out.cell
      clear hin hl hsh
      go_enter Try.func79, Try.ntmps79
      go_wp2_with fail
      refine HI.out.mono ?_
      rintro e w1 ⟨rfl, hR, hG⟩
      obtain ⟨hrt, hkq⟩ := ST2.out w1 hR hG
      have hc1 := hrt.cell
      have HLF := hid (left_rdr g s1 w1 hR)
      have HSP := hid (spoilR_any G g 10000000 s1 HS.out w1 hrt)
      have HKQ := hid hkq
      clear hR hG hrt hkq hcell
      go_wp2_with fail
      refine HLF.out.mono ?_
      rintro e w2 ⟨rfl, rfl⟩
      go_wp2_with fail
      refine HSP.out.mono ?_
      rintro e w3 ⟨rfl, hk3⟩
      have HR3 : Hid (Rq G g Pk.gone w w3) := hid ⟨hk3.at_, HKQ.out.trans (hk3.kq.mono HKQ.out.size)⟩
      clear hk3 hc1 HSP
      go_wp2_with fail
      go_loopw [5, 6] (fun i l wr => i = .int .i64 v ∧ l = .slice none 0 0 ∧ Hid (Rq G g Pk.gone w wr)) (fun _ _ _ => 0)
      case atStart => exact ⟨rfl, rfl, HR3⟩
      case round =>
        clear HR3
        obtain ⟨rfl, rfl, HR⟩ := hrel
        obtain ⟨g', hrt, hgg⟩ := HR.out.1
        have hc := hrt.cell
        have HB : Hid (Calls Try.prog 106 #[.pointer (some ⟨g', 0, none⟩)] wr fun e w' => e = .returned (.bool true) ∧ wr = w') := hid (bad_rdr g' Pk.gone wr hrt.ro.rdr)
        clear hrt hgg
        go_wp2_with fail
        refine HB.out.mono ?_
        rintro e w4 ⟨rfl, rfl⟩
        go_wp2_with fail
        go_ret
        rw [HF.out]
        exact ⟨none, 0, 0, rfl, [], rfl, OwnHs.nil _ HR.out.2.size, HR.out, .inl rfl⟩
    · have hv0 : 0 ≤ v := by omega
      have START : Hid (∀ W, Rt W G g s1 → Kq w.heap.size w W → LpH w G g s none 0 [] v s1 W) := hid (fun W hr hk => ⟨⟨⟨g, hr, .inl rfl⟩, hk⟩, OwnHs.nil _ hk.size, by rw [HD2.out, if_neg (by omega)], .inr (by rw [HD2.out, if_neg (by omega)]; rfl), fun _ _ => by show ((0 : Nat) : Int) + v ≤ 1250000; omega, HS.out⟩)
      have hcell := H.out.cell
      clear hin hl hsh
      go_enter Try.func79, Try.ntmps79
      go_wp2_with fail
      refine HI.out.mono ?_
      rintro e w1 ⟨rfl, hR, hG⟩
      obtain ⟨hrt, hkq⟩ := ST2.out w1 hR hG
      have hc1 := hrt.cell
      have HLF := hid (left_rdr g s1 w1 hR)
      have HS1 := hid (START.out w1 hrt hkq)
      clear hR hG hrt hkq hcell
      go_wp2_with fail
      refine HLF.out.mono ?_
      rintro e w2 ⟨rfl, rfl⟩
      go_wp2_with fail
      go_loopw [5, 6] (fun i l wr => ∃ (m : Int) (A1 : Option Addr) (c1 q1 : Nat) (L : List Hq) (s' : Pk.St), (m ≤ 9223372036854775807 ∧ -9223372036854775808 ≤ m) ∧ i = .int .i64 m ∧ l = .slice A1 q1 c1 ∧ q1 = L.length ∧ Hid (LpH w G g s A1 c1 L m s' wr)) (fun i _ _ => (RowKit.intOf i).toNat)
      case atStart => exact ⟨v, none, 0, 0, [], s1, ⟨by omega, by omega⟩, rfl, rfl, rfl, HS1⟩
      case round =>
        clear HS1 hc1
        obtain ⟨m, A1, c1, q1, L, s', ⟨hm1, hm2⟩, rfl, rfl, hq, HL⟩ := hrel
        have HQ := hid hq
        obtain ⟨g', hrt, hgg⟩ := HL.out.rq.1
        have hc := hrt.cell
        have HB := bad_rdr g' s' wr hrt.ro.rdr
        by_cases hm : 0 < m
        · by_cases hb : s'.bad = true
          · have HF := hid (HL.out.done (rdN_bad _ _ _ hb))
            rw [hb] at HB
            replace HB := hid HB
            clear hrt hgg hb hq
            go_wp2_with fail
            refine HB.out.mono ?_
            rintro e w3 ⟨rfl, rfl⟩
            go_wp2_with fail
            go_ret
            exact ⟨A1, c1, q1, rfl, L, HQ.out, HF.out⟩
          · have hb' : s'.bad = false := by simpa using hb
            have hne : s' ≠ Pk.gone := fun e => by rw [e] at hb'; cases hb'
            obtain rfl : g' = g := by
              rcases hgg with h | h
              · exact h
              · exact absurd h hne
            rw [hb'] at HB
            replace HB := hid HB
            have HV := hid (rhard_any G g' s' HL.out.rest wr hrt)
            obtain ⟨s2, hs2⟩ : ∃ y, y = (rdH s').2 := ⟨_, rfl⟩
            have hfew := HL.out.few hm hb'
            have hq1 : q1 + 1 ≤ 10000000 := by omega
            obtain ⟨k, hk⟩ : ∃ k : Nat, m = (k : Int) + 1 := ⟨(m - 1).toNat, by omega⟩
            have HN : Hid ((rdN rdH (m - 1).toNat s2).2 = (rdL rdH s).2 ∧ ∀ x, (s2 = Pk.gone ∨ x = (rdH s').1) → (s2 = Pk.gone ∨ (L.map (·.h) ++ [x]) ++ (rdN rdH (m - 1).toNat s2).1 = (rdL rdH s).1)) := hid (by
              have h1 := HL.out.st
              have h2 := HL.out.val.resolve_left hne
              rw [show m.toNat = k + 1 by omega, rdN_one _ _ _ hb', ← hs2] at h1 h2
              rw [show (m - 1).toNat = k by omega]
              refine ⟨h1, fun x hx => hx.imp id (fun e => ?_)⟩
              rw [e, List.append_assoc]
              exact h2)
            have HW : Hid (((L.length + 1 : Nat) : Int) + (m - 1) ≤ 1250000 ∧ s2.rest.length ≤ 10000000) := hid ⟨by omega, by rw [hs2]; exact Nat.le_trans (rdH_short s') HL.out.rest⟩
            have HK := hid hq1
            rw [← hs2] at HV
            clear hrt hgg hb hb' hq hs2 hfew hk hq1 hne
            go_wp2_with fail
            refine HB.out.mono ?_
            rintro e w3 ⟨rfl, rfl⟩
            go_wp2_with fail
            refine HV.out.mono ?_
            rintro e w4 ⟨x, a, rfl, ho4, hn4, hr4, hx4⟩
            have hk4 := hr4.2
            have hrow4 := hk4.rowIn HL.out.own.row (by decide) (by decide)
            have hb5 : Below w4.heap.size w4 (w4.alloc (.cells #[.int .i64 x.g, .int .i64 x.t, .int .i64 x.v, .int .i64 x.p.log.base, .int .i64 x.p.log.term, .slice a.e x.p.log.es.length a.ce, .slice a.o x.p.cf.old.length a.co, .slice a.n x.p.cf.new.length a.cn, .slice a.l x.p.cf.lrn.length a.cl, .slice a.s x.p.sn.length a.cs] 59)) := (Below.refl _ w4).alloc (Nat.le_refl _) _
            have hrow5 := hrow4.below hb5
            have hcells : ∀ k, k < 10 → (w4.alloc (.cells #[.int .i64 x.g, .int .i64 x.t, .int .i64 x.v, .int .i64 x.p.log.base, .int .i64 x.p.log.term, .slice a.e x.p.log.es.length a.ce, .slice a.o x.p.cf.old.length a.co, .slice a.n x.p.cf.new.length a.cn, .slice a.l x.p.cf.lrn.length a.cl, .slice a.s x.p.sn.length a.cs] 59)).cell? ((⟨w4.heap.size, 0, none⟩ : Addr).add k) = (cellsH ⟨x, a⟩)[k]? := fun k hk => by
              rw [add_off, Nat.zero_add, row_cell (heap_alloc_new w4 _) k]; simp [cellsH]
            have H5 := hid (And.intro hb5 (And.intro ho4 (And.intro hn4 (And.intro hr4 (And.intro hx4 hrow5)))))
            clear hk4 hrow4 hb5 hr4 ho4 hn4 hx4 HB HV
            go_wp2_with (at_builtin; refine wpList_append_rowM rfl _ _ 22 rfl i0 _ Try.underlying22 hi hz0 hz1 hz2 rfl (by decide) hrow5 q1 HQ.out.symm rfl ⟨x, a⟩ ⟨w4.heap.size, 0, none⟩ 1 rfl hcells (cellsH_one _) (by have := HK.out; omega) HK.out ?_)
            intro A6 c6 w6 hrow6 hg6 hbl6
            have H6 : Hid (LpH w G g' s A6 c6 (L ++ [⟨x, a⟩]) (m - 1) s2 w6) := hid (lpH_step (L := L) (x := x) (a := a) HL.out H.out.lt H5.out.1 H5.out.2.1 H5.out.2.2.1 H5.out.2.2.2.1 H5.out.2.2.2.2.2 (World.size_alloc _ _) hrow6 hg6 HN.out.1 (by rw [List.map_append]; exact HN.out.2 x H5.out.2.2.2.2.1) (fun _ _ => by have := HW.out.1; rw [List.length_append]; simp only [List.length_cons, List.length_nil]; omega) HW.out.2)
            have HQ6 : Hid (q1 + 1 = (L ++ [(⟨x, a⟩ : Hq)]).length) := hid (by rw [List.length_append, ← HQ.out]; rfl)
            clear hrow5 hcells hrow6 hg6 hbl6
            go_wp2_with fail
            go_roundw
            case rel => exact ⟨m - 1, A6, c6, q1 + 1, L ++ [⟨x, a⟩], s2, ⟨by omega, by omega⟩, by go_num, rfl, HQ6.out, H6⟩
            case measure => simp [RowKit.intOf]; omega
        · have HF := hid (HL.out.done (by rw [show m.toNat = 0 by omega]; rfl))
          clear hrt hgg hq HB
          go_wp2_with fail
          go_ret
          exact ⟨A1, c1, q1, rfl, L, HQ.out, HF.out⟩
end Go.Proofs.Ytaeoccpjdjafnaa.Im
namespace Go.Proofs.Ytaeoccpjdjafnaa.Im
open Go Go.RowKit
open Rl (En Lg)
open Qu (Cf)
set_option linter.unusedSectionVars false
variable [Lo]
set_option maxRecDepth 100000
set_option linter.unusedVariables false
attribute [local go_sem ↓] loadAt_hard storeAt_hard loadAt_vote storeAt_vote loadAt_change storeAt_change
end Go.Proofs.Ytaeoccpjdjafnaa.Im
namespace Go.Proofs.Ytaeoccpjdjafnaa.Im
open Go.RowKit
open Rl (En Lg)
open Qu (Cf)
set_option linter.unusedSectionVars false
variable [Lo]
set_option maxRecDepth 100000
set_option linter.unusedVariables false
theorem cellsC_fits (q : Cq) : (cellsC q).length = 17 := rfl
structure OwnCs (w : World) (B N : Nat) (A : Option Addr) (c : Nat) (M : List Cq) : Prop where
  row : RowIn cellsC 17 36 w (Bl B N) A c M
  pts : OwnPts w B N (M.map fun q => (q.c.p, q.a))
  num : ∀ q ∈ M, (InInt q.c.k ∧ InInt q.c.g ∧ InInt q.c.t ∧ InInt q.c.v ∧ InInt q.c.f) ∧ okV q.c.a
namespace OwnCs
variable {w w' : World} {B B' N N' : Nat} {A : Option Addr} {c : Nat} {M : List Cq}
theorem nil (w : World) {B N : Nat} (h : B ≤ N) : OwnCs w B N none 0 [] := ⟨RowIn.nil cellsC_fits _ _ _, h, fun q hq => by cases hq⟩
theorem kq (h : OwnCs w B N A c M) (hk : Kq w.heap.size w w') : OwnCs w' B N A c M := ⟨hk.rowIn h.row (by decide) (by decide), h.pts.kp_ (Kp.ofKq hk parts_kq), h.num⟩
theorem keep {S : Nat → Prop} (h : OwnCs w B N A c M) (ht : Turned S w w') (hs : ∀ k, S k → ¬ Bl B N k) : OwnCs w' B N A c M := ⟨h.row.keep ht (fun k hk hS => hs k hS (h.row.blk k hk)), h.pts.keep_ ht hs, h.num⟩
theorem below (h : OwnCs w B N A c M) (hb : Below N w w') : OwnCs w' B N A c M :=
  h.keep (S := fun k => N ≤ k) ⟨hb.os, hb.tape, hb.output, hb.size, fun k _ hn => hb.block k (by omega)⟩ (fun k hk hB => by have := hB.2; omega)
theorem wide (h : OwnCs w B N A c M) (hB : B' ≤ B) (hN : N ≤ N') : OwnCs w B' N' A c M := ⟨h.row.mono (fun k hk => ⟨Nat.le_trans hB (h.row.blk k hk).1, Nat.lt_of_lt_of_le (h.row.blk k hk).2 hN⟩), h.pts.wide hB hN, h.num⟩
theorem reads (h : OwnCs w B N A c M) : IsCs w N A M := by
  refine ⟨⟨fun k hk => ?_⟩, fun q hq => ?_, h.num⟩
  · obtain ⟨g, hA, hg, hF, hc, _⟩ := h.row.get k hk
    refine ⟨g, 0, hA, hF.2, fun i hi j v hv => ?_⟩
    obtain ⟨g', hA', _, _, hc', _⟩ := h.row.get i hi
    obtain rfl : g = g' := by rw [hA] at hA'; injection hA' with e; injection e
    have hj : j < 17 := (List.getElem?_eq_some_iff.1 hv).1
    rw [Nat.zero_add, hc' j hj]; exact hv
  · exact (OwnPts.mem h.pts (List.mem_map.2 ⟨q, hq, rfl⟩)).reads
end OwnCs
structure LpC (w : World) (G g : Nat) (s : Pk.St) (A : Option Addr) (c : Nat) (L : List Cq) (m : Int) (s' : Pk.St) (W : World) : Prop where
  rq : Rq G g s' w W
  own : OwnCs W w.heap.size W.heap.size A c L
  st : (rdN rdC m.toNat s').2 = (rdL rdC s).2
  val : s' = Pk.gone ∨ L.map (·.c) ++ (rdN rdC m.toNat s').1 = (rdL rdC s).1
  few : 0 < m → s'.bad = false → (L.length : Int) + m ≤ 1250000
  rest : s'.rest.length ≤ 10000000
theorem LpC.done {w W : World} {G g c : Nat} {s s' : Pk.St} {A : Option Addr} {L : List Cq} {m : Int} (h : LpC w G g s A c L m s' W) (he : rdN rdC m.toNat s' = ([], s')) :
    OwnCs W w.heap.size W.heap.size A c L ∧ Rq G g (rdL rdC s).2 w W ∧ ((rdL rdC s).2 = Pk.gone ∨ L.map (·.c) = (rdL rdC s).1) := by
  have h1 := h.st
  have h2 := h.val
  rw [he] at h1 h2
  have h1' : s' = (rdL rdC s).2 := h1
  rw [List.append_nil] at h2
  exact ⟨h.own, h1' ▸ h.rq, by rw [← h1']; exact h2⟩
end Go.Proofs.Ytaeoccpjdjafnaa.Im
namespace Go.Proofs.Ytaeoccpjdjafnaa.Im
open Go.RowKit
open Rl (En Lg)
open Qu (Cf)
set_option linter.unusedSectionVars false
variable [Lo]
set_option maxRecDepth 100000
set_option linter.unusedVariables false
attribute [local go_sem ↓] storeAt_image
structure Ia where
  h : Option Addr
  ch : Nat
  v : Option Addr
  cv : Nat
def OwnIm (w : World) (B N : Nat) (i : Ia) (Q : List Hq) (L : List Vt) : Prop := ∃ m, B ≤ m ∧ m ≤ N ∧ OwnHs w B m i.h i.ch Q ∧ RowIn cellsV 5 34 w (Bl m N) i.v i.cv L ∧ ∀ v ∈ L, okV v
namespace OwnIm
variable {w w' : World} {B B' N N' : Nat} {i : Ia} {Q : List Hq} {L : List Vt}
theorem nil (w : World) {B N : Nat} (h : B ≤ N) : OwnIm w B N ⟨none, 0, none, 0⟩ [] [] := ⟨B, Nat.le_refl _, h, OwnHs.nil _ (Nat.le_refl _), RowIn.nil cellsV_fits _ _ _, fun v hv => by cases hv⟩
theorem keep {S : Nat → Prop} (h : OwnIm w B N i Q L) (ht : Turned S w w') (hs : ∀ k, S k → ¬ Bl B N k) : OwnIm w' B N i Q L := by
  obtain ⟨m, h1, h2, h3, h4, h5⟩ := h
  exact ⟨m, h1, h2, h3.keep ht (fun k hk hB => hs k hk ⟨hB.1, by have := hB.2; omega⟩), h4.keep ht (fun k hk hS => hs k hS ⟨by have := (h4.blk k hk).1; omega, (h4.blk k hk).2⟩), h5⟩
theorem below (h : OwnIm w B N i Q L) (hb : Below N w w') : OwnIm w' B N i Q L :=
  h.keep (S := fun k => N ≤ k) ⟨hb.os, hb.tape, hb.output, hb.size, fun k _ hn => hb.block k (by omega)⟩ (fun k hk hB => by have := hB.2; omega)
theorem wide (h : OwnIm w B N i Q L) (hB : B' ≤ B) (hN : N ≤ N') : OwnIm w B' N' i Q L := by
  obtain ⟨m, h1, h2, h3, h4, h5⟩ := h
  exact ⟨m, by omega, by omega, h3.wide hB (Nat.le_refl _), h4.mono (fun k hk => ⟨(h4.blk k hk).1, by have := (h4.blk k hk).2; omega⟩), h5⟩
end OwnIm
theorem rdIm_eq (s : Pk.St) : (rdIm s).1 = ⟨(rdL rdH s).1, (rdL rdV (rdL rdH s).2).1⟩ ∧ (rdIm s).2 = (rdL rdV (rdL rdH s).2).2 := by
  simp only [rdIm, rdM, rdP, and_self]
theorem rdHs_small (s : Pk.St) (h : s.small) : (rdL rdH s).2.small := ((codH 100000000 (by decide)).list (by decide)).small s h
theorem rdHs_short (s : Pk.St) : (rdL rdH s).2.rest.length ≤ s.rest.length := ((codH 100000000 (by decide)).list (by decide)).short s
theorem rdVs_good (s : Pk.St) (h : s.small) (hl : s.rest.length ≤ 10000000) : ∀ v ∈ (rdL rdV s).1, okV v := (((codV 100000000 (by decide)).list (by decide)).good s h (by omega)).1
theorem rdVs_gone : (rdL rdV Pk.gone).2 = Pk.gone := by rw [rdL_gone]
set_option maxHeartbeats 3200000 in
theorem rimage_any (G g : Nat) (s : Pk.St) (hl : s.rest.length ≤ 10000000) (w : World) (h : Rt w G g s) :
    Calls Try.prog 50 #[.pointer (some ⟨G, 0, none⟩)] w fun e w' => ∃ (i : Ia) (nh nv : Nat), e = .returned (.agg #[.slice i.h nh i.ch, .slice i.v nv i.cv]) ∧ ∃ Q L, (nh = Q.length ∧ nv = L.length) ∧ OwnIm w' w.heap.size w'.heap.size i Q L ∧ Rq G g (rdIm s).2 w w' ∧ ((rdIm s).2 = Pk.gone ∨ (⟨Q.map (·.h), L⟩ : Im) = (rdIm s).1) := by
  obtain ⟨R, hR⟩ : ∃ R, R = w.heap.size := ⟨_, rfl⟩
  obtain ⟨w1, hw1⟩ : ∃ w1, w1 = w.alloc (.cells #[.slice none 0 0, .slice none 0 0] 25) := ⟨_, rfl⟩
  obtain ⟨_, p0⟩ := Sp.start h w1 hw1
  rw [← hR] at p0
  have hmf : ∀ (fn : Fn) (first cap : Array Value) (w : World), (Instr.makeFunc fn first cap).run Try.prog w = .ok (.func fn first cap) w := fun _ _ _ _ => rfl
  have HH := hid (rHs_any G g s hl w1 p0.rt)
  obtain ⟨s1, hs1⟩ : ∃ s1, s1 = (rdL rdH s).2 := ⟨_, rfl⟩
  have HE : Hid ((rdIm s).2 = (rdL rdV s1).2 ∧ ∀ x, (rdIm s).1 = ⟨(rdL rdH s).1, x⟩ ↔ (rdL rdV s1).1 = x) := hid (by
    rw [(rdIm_eq s).1, (rdIm_eq s).2, ← hs1]
    exact ⟨rfl, fun x => ⟨fun e => by injection e, fun e => by rw [e]⟩⟩)
  have HS : Hid (s1.rest.length ≤ 10000000 ∧ s1.small) := hid ⟨by rw [hs1]; exact Nat.le_trans (rdHs_short s) hl, by rw [hs1]; exact rdHs_small s h.ro.rdr.small⟩
  have HV : Hid (∀ W g', Rt W G g' s1 → Calls Try.prog 81 #[.pointer (some ⟨G, 0, none⟩), .func (.func 82) #[.pointer (some ⟨G, 0, none⟩)] #[]] W fun e w' => ∃ A c n, e = .returned (.slice A n c) ∧ n = (rdL rdV s1).1.length ∧ RowIn cellsV 5 34 w' (fun k => W.heap.size ≤ k) A c (rdL rdV s1).1 ∧ Rk G g' 10000000 (rdL rdV s1).2 W w') := hid (fun W g' hW => rVs_any G g' s1 HS.out.1 W hW)
  have P0 := hid (And.intro p0 (And.intro hR h.lt))
  rw [← hs1] at HH
  clear p0 hs1 h hl
  go_enter Try.func50, Try.ntmps50
  go_wp2_with fail
  rw [← hR, ← hw1]
  clear hw1 hR
  refine HH.out.mono ?_
  rintro e w2 ⟨A2, c2, n2, rfl, Q, hn2, ho2, hr2, hx2⟩
  obtain ⟨g2, hrt2, hgg2⟩ := hr2.1
  have HV2 := hid (HV.out w2 g2 hrt2)
  have H2 := hid (And.intro hn2 (And.intro ho2 (And.intro hr2 (And.intro hx2 hgg2))))
  clear hn2 ho2 hr2 hrt2 hgg2 hx2
  go_wp2_with fail
  refine HV2.out.mono ?_
  rintro e w3 ⟨A3, c3, n3, rfl, hn3, ho3, hk3⟩
  have hrow3 : w3.heap[R]? = some (.cells #[.slice none 0 0, .slice none 0 0] 25 (0, 0)) := by
    have h1 := P0.out.1.row
    have h2 := H2.out.2.2.1.2.keep R _ _ _ (row_lt h1) h1 (by decide) (by decide)
    exact hk3.kq.keep R _ _ _ (row_lt h2) h2 (by decide) (by decide)
  have hst3 := stRow info_image2 (cs' := #[.slice A2 n2 c2, .slice A3 n3 c3]) hrow3 rfl rfl (by simp [Value.oneCell'])
  obtain ⟨w4, hw4⟩ : ∃ w4, w4 = w3.setRow R #[.slice A2 n2 c2, .slice A3 n3 c3] := ⟨_, rfl⟩
  have HF : Hid (w4.heap[R]? = some (.cells #[.slice A2 n2 c2, .slice A3 n3 c3] 25 (0, 0)) ∧ OwnIm w4 w.heap.size w4.heap.size ⟨A2, c2, A3, c3⟩ Q (rdL rdV s1).1 ∧ Rq G g (rdL rdV s1).2 w w4) := hid (by
    have ht := row_turned w3 R #[.slice A2 n2 c2, .slice A3 n3 c3]
    have hro := setRow_heap w3 R _ #[.slice A2 n2 c2, .slice A3 n3 c3] _ _ hrow3
    rw [← hw4] at ht hro
    have hRw := P0.out.2.1
    have hGl := P0.out.2.2
    have z1 : R < w1.heap.size := row_lt P0.out.1.row
    have z2 := H2.out.2.2.1.2.size
    have z3 := hk3.kq.size
    have z4 := ht.size
    have hgr : w3.grownBy w4 (some R) := ⟨ht.os, ht.tape, ht.output, ht.size, fun k hk hne => ht.block k hk (fun e => hne (by rw [e]))⟩
    refine ⟨hro, ⟨w2.heap.size, by omega, by omega, ?_, ?_, rdVs_good s1 HS.out.2 HS.out.1⟩, ?_, ?_⟩
    · exact ((H2.out.2.1.kq hk3.kq).keep ht (fun k hk hB => by have := hB.1; omega)).wide (by omega) (Nat.le_refl _)
    · refine (ho3.keep ht (fun k hk e => ?_)).mono (fun k hk => ⟨ho3.blk k hk, by have := ho3.lt k hk; omega⟩)
      have := ho3.blk k hk
      omega
    · obtain ⟨g', hrt, hgg⟩ := hk3.at_
      refine ⟨g', hrt.fill hgr (by omega) (Rdr.tag hrt.ro.rdr hrow3 (by decide)), ?_⟩
      rcases hgg with e | e
      · rcases H2.out.2.2.2.2 with e2 | e2
        · exact .inl (e.trans e2)
        · exact .inr (by rw [e2]; exact rdVs_gone)
      · exact .inr e
    · exact ((P0.out.1.kq.trans (H2.out.2.2.1.2.mono P0.out.1.kq.size)).trans (hk3.kq.mono (by omega))).trans (Kq.ofRow hgr (by omega) (by omega)))
  have HN := hid hn3
  rw [← hw4] at hst3
  clear hn3 ho3 hk3 hrow3 hw4
  go_wp2_with fail
  refine bodyPost_ret (results_cell_row rfl _ _ R _ _ _ _ rfl HF.out.1 Try.underlying25 rfl (by rw [info_image2]; rfl)) rfl ?_
  refine ⟨⟨A2, c2, A3, c3⟩, n2, n3, rfl, Q, _, ⟨H2.out.1, HN.out⟩, HF.out.2.1, by rw [HE.out.1]; exact HF.out.2.2, ?_⟩
  rw [HE.out.1]
  rcases H2.out.2.2.2.1 with e | e
  · left; rw [e]; exact rdVs_gone
  · right; rw [e]; exact ((HE.out.2 _).2 rfl).symm
end Go.Proofs.Ytaeoccpjdjafnaa.Im
namespace Go.Proofs.Ytaeoccpjdjafnaa
open Go.RowKit
set_option maxHeartbeats 800000 in
set_option maxRecDepth 100000 in
theorem ent_same (p q : Rl.En) (A A' : Option Addr) (c c' : Nat) (hp : p.d.length ≤ maxLen) (hq : q.d.length ≤ maxLen) (w : World) (h : IsBytes w w.heap.size A p.d) (h' : IsBytes w w.heap.size A' q.d) :
    Calls Try.prog 99 #[.agg #[.int .i64 p.t, .int .i64 p.k, .slice A p.d.length c], .agg #[.int .i64 q.t, .int .i64 q.k, .slice A' q.d.length c']] w fun e w' => e = .returned (.bool (decide (p = q))) ∧ Below w.heap.size w w' := by
  obtain ⟨w1, hw1⟩ : ∃ w1, w1 = (w.alloc (.cells #[.int .i64 p.t, .int .i64 p.k, .slice A p.d.length c] 77)).alloc (.cells #[.int .i64 q.t, .int .i64 q.k, .slice A' q.d.length c'] 77) := ⟨_, rfl⟩
  have hb1 : Below w.heap.size w w1 := by rw [hw1]; exact ((Below.refl _ w).alloc (Nat.le_refl _) _).alloc (by simp) _
  have HS := hid (same_any w1.heap.size w1.heap.size A A' c c' p.d q.d hp hq w1 ((h.below hb1).more hb1.size) ((h'.below hb1).more hb1.size))
  have HB := hid hb1
  rw [hw1] at HS HB
  clear hb1 hw1 h h'
  by_cases ha : p.t = q.t
  · by_cases hb : p.k = q.k
    · by_cases hd : p.d = q.d
      · have HE : Hid (decide (p = q) = true) := hid (decide_eq_true (by cases p; cases q; simp at ha hb hd; simp [ha, hb, hd]))
        rw [decide_eq_true hd] at HS
        clear hd
        rw [ha, hb] at HS HB
        rw [HE.out]
        go_enter Try.func99, Try.ntmps99
        go_wp2_with fail
        refine HS.out.mono ?_
        rintro e w2 ⟨rfl, n, hw2⟩
        have HW : Hid (Below w.heap.size w w2) := by rw [hw2]; exact below_drewN HB.out n
        clear hw2
        go_wp2_with fail
        go_ret
        exact ⟨rfl, HW.out⟩
      · have HE : Hid (decide (p = q) = false) := hid (decide_eq_false (by rintro rfl; exact hd rfl))
        rw [decide_eq_false hd] at HS
        clear hd
        rw [ha, hb] at HS HB
        rw [HE.out]
        go_enter Try.func99, Try.ntmps99
        go_wp2_with fail
        refine HS.out.mono ?_
        rintro e w2 ⟨rfl, n, hw2⟩
        have HW : Hid (Below w.heap.size w w2) := by rw [hw2]; exact below_drewN HB.out n
        clear hw2
        go_wp2_with fail
        go_ret
        exact ⟨rfl, HW.out⟩
    · have HE : Hid (decide (p = q) = false) := hid (decide_eq_false (by rintro rfl; exact hb rfl))
      rw [ha] at HB
      rw [HE.out]
      go_enter Try.func99, Try.ntmps99
      go_wp2_with fail
      go_ret
      exact ⟨rfl, HB.out⟩
  · have HE : Hid (decide (p = q) = false) := hid (decide_eq_false (by rintro rfl; exact ha rfl))
    rw [HE.out]
    go_enter Try.func99, Try.ntmps99
    go_wp2_with fail
    go_ret
    exact ⟨rfl, HB.out⟩
set_option maxHeartbeats 800000 in
set_option maxRecDepth 100000 in
theorem ents_same (A A' : Option Addr) (c c' n m : Nat) (L M : List Rl.En) (hn : L.length = n) (hm : M.length = m) (hL : n ≤ 100000) (w : World) (h : IsEnts w w.heap.size A L) (h' : IsEnts w w.heap.size A' M) :
    Calls Try.prog 71 #[.slice A n c, .slice A' m c'] w fun e w' => e = .returned (.bool (decide (L = M))) ∧ Below w.heap.size w w' := by
  subst hn
  subst hm
  by_cases hl : L.length = M.length
  · have hl0 : (L.length : Int) = (M.length : Int) := by omega
    have HH := hid (And.intro h h')
    clear h h'
    go_enter Try.func71, Try.ntmps71
    go_wp2_with fail
    go_loopw [5] (fun i wr => ∃ k : Nat, k ≤ L.length ∧ i = .int .i64 k ∧ Hid (L.take k = M.take k ∧ Below w.heap.size w wr)) (fun i _ => L.length - (RowKit.intOf i).toNat)
    case atStart => exact ⟨0, by omega, rfl, hid ⟨by simp, Below.refl _ _⟩⟩
    case round =>
      obtain ⟨k, hk, rfl, hS⟩ := hrel
      have HL := hid hl
      by_cases hlt : k < L.length
      · have hr := HH.out.1.below hS.out.2
        have hr' := HH.out.2.below hS.out.2
        obtain ⟨b, off, rfl, hbl, hc⟩ := hr.cells k hlt
        have hkM : k < M.length := by omega
        obtain ⟨b', off', rfl, hbl', hc'⟩ := hr'.cells k hkM
        obtain ⟨A1, c1, d0, d1, d2, hB1', hm1', _⟩ := hc k hlt
        have hB1 := hB1'.more hS.out.2.size
        have hm1 := Nat.le_trans hm1'.1 hm1'.2
        obtain ⟨A2, c2, e0, e1, e2, hB2', hm2', _⟩ := hc' k hkM
        have hB2 := hB2'.more hS.out.2.size
        have hm2 := Nat.le_trans hm2'.1 hm2'.2
        clear hB1' hB2' hm1' hm2'
        have hk0 : (k : Int) < (L.length : Int) := by omega
        have hk1 : (k : Int) < (M.length : Int) := by omega
        have HC := hid (ent_same L[k] M[k] A1 A2 c1 c2 hm1 hm2 wr.drew (hB1.drewN 1) (hB2.drewN 1))
        have d0W : wr.drew.cell? ⟨b, off + k * 3, none⟩ = some (.int .i64 L[k].t) := d0
        have d1W : wr.drew.cell? ⟨b, off + k * 3 + 1, none⟩ = some (.int .i64 L[k].k) := d1
        have d2W : wr.drew.cell? ⟨b, off + k * 3 + 2, none⟩ = some (.slice A1 L[k].d.length c1) := d2
        have e0W : wr.drew.cell? ⟨b', off' + k * 3, none⟩ = some (.int .i64 M[k].t) := e0
        have e1W : wr.drew.cell? ⟨b', off' + k * 3 + 1, none⟩ = some (.int .i64 M[k].k) := e1
        have e2W : wr.drew.cell? ⟨b', off' + k * 3 + 2, none⟩ = some (.slice A2 M[k].d.length c2) := e2
        by_cases he : L[k] = M[k]
        · rw [decide_eq_true he] at HC
          have hS' : L.take (k + 1) = M.take (k + 1) := by
            rw [List.take_succ_eq_append_getElem hlt, List.take_succ_eq_append_getElem hkM, hS.out.1, he]
          have HS := hid hS'
          clear hc hc' hr hr' hB1 hB2 hS' he hl
          go_wp2_with fail
          go_still_tail 8, (by kernel_rfl)
          go_wp2_with fail
          refine HC.out.mono ?_
          rintro e w2 ⟨rfl, hb2⟩
          have HB2 : Hid (L.take (k + 1) = M.take (k + 1) ∧ Below w.heap.size w w2) := hid ⟨HS.out, hS.out.2.trans (((Below.refl _ wr).drew.trans hb2).mono hS.out.2.size)⟩
          clear hb2 d0W d1W d2W e0W e1W e2W d0 d1 d2 e0 e1 e2
          go_wp2_with fail
          go_roundw
          case rel => exact ⟨k + 1, by omega, by go_num, HB2⟩
          case measure => simp [RowKit.intOf]; omega
        · rw [decide_eq_false he] at HC
          have hne : decide (L = M) = false := decide_eq_false (fun e => by subst e; exact he rfl)
          have HE := hid hne
          clear hc hc' hr hr' hB1 hB2 he hne hl
          go_wp2_with fail
          go_still_tail 8, (by kernel_rfl)
          go_wp2_with fail
          refine HC.out.mono ?_
          rintro e w2 ⟨rfl, hb2⟩
          have HB2 : Hid (Below w.heap.size w w2) := hid (hS.out.2.trans (((Below.refl _ wr).drew.trans hb2).mono hS.out.2.size))
          clear hb2 d0W d1W d2W e0W e1W e2W d0 d1 d2 e0 e1 e2
          go_wp2_with fail
          go_ret
          rw [HE.out]
          exact ⟨rfl, HB2.out⟩
      · obtain rfl : k = L.length := by omega
        have hE : decide (L = M) = true := decide_eq_true (by
          have := hS.out.1
          rw [List.take_length, hl, List.take_length] at this
          exact this)
        have HE := hid hE
        have hk0 : ¬ (L.length : Int) < (L.length : Int) := by omega
        clear hE hlt
        go_wp2_with fail
        go_ret
        rw [HE.out]
        exact ⟨rfl, hS.out.2⟩
  · have hE : decide (L = M) = false := decide_eq_false (fun e => hl (by rw [e]))
    rw [hE]
    have hl0 : ¬ (L.length : Int) = (M.length : Int) := by omega
    clear h h' hE hl
    go_enter Try.func71, Try.ntmps71
    go_wp2
    go_ret
    exact ⟨rfl, Below.refl _ _⟩
end Go.Proofs.Ytaeoccpjdjafnaa
namespace Go.Proofs.Ytaeoccpjdjafnaa
open Go.RowKit
end Go.Proofs.Ytaeoccpjdjafnaa
namespace Go.Proofs.Ytaeoccpjdjafnaa
open Go.RowKit
end Go.Proofs.Ytaeoccpjdjafnaa
namespace Go.Proofs.Ytaeoccpjdjafnaa
open Go.RowKit
set_option maxHeartbeats 800000 in
set_option maxRecDepth 100000 in
theorem log_same (p q : Rl.Lg) (A A' : Option Addr) (c c' : Nat) (hl : p.es.length ≤ 100000) (w : World) (h : IsEnts w w.heap.size A p.es) (h' : IsEnts w w.heap.size A' q.es) :
    Calls Try.prog 42 #[.agg #[.int .i64 p.base, .int .i64 p.term, .slice A p.es.length c], .agg #[.int .i64 q.base, .int .i64 q.term, .slice A' q.es.length c']] w fun e w' => e = .returned (.bool (decide (p = q))) ∧ Below w.heap.size w w' := by
  obtain ⟨w1, hw1⟩ : ∃ w1, w1 = (w.alloc (.cells #[.int .i64 p.base, .int .i64 p.term, .slice A p.es.length c] 28)).alloc (.cells #[.int .i64 q.base, .int .i64 q.term, .slice A' q.es.length c'] 28) := ⟨_, rfl⟩
  have hb1 : Below w.heap.size w w1 := by rw [hw1]; exact ((Below.refl _ w).alloc (Nat.le_refl _) _).alloc (by simp) _
  have HS := hid (ents_same A A' c c' p.es.length q.es.length p.es q.es rfl rfl hl w1 ((h.below hb1).more hb1.size) ((h'.below hb1).more hb1.size))
  have HB := hid hb1
  have HZ := hid hb1.size
  rw [hw1] at HS HB HZ
  clear hb1 hw1 h h'
  by_cases ha : p.base = q.base
  · by_cases hb : p.term = q.term
    · have HE : Hid (decide (p = q) = decide (p.es = q.es)) := hid (by
        rw [decide_eq_decide]
        cases p; cases q
        simp at ha hb
        simp [ha, hb])
      rw [ha, hb] at HS HB HZ
      rw [HE.out]
      generalize decide (p.es = q.es) = bb at HS ⊢
      clear HE
      cases bb <;>
      (go_enter Try.func42, Try.ntmps42
       go_wp2_with fail
       refine HS.out.mono ?_
       rintro e w2 ⟨rfl, hb2⟩
       have HW : Hid (Below w.heap.size w w2) := hid (HB.out.trans (hb2.mono HZ.out))
       clear hb2
       go_wp2_with fail
       go_ret
       exact ⟨rfl, HW.out⟩)
    · have HE : Hid (decide (p = q) = false) := hid (decide_eq_false (by rintro rfl; exact hb rfl))
      rw [ha] at HB
      rw [HE.out]
      go_enter Try.func42, Try.ntmps42
      go_wp2_with fail
      go_ret
      exact ⟨rfl, HB.out⟩
  · have HE : Hid (decide (p = q) = false) := hid (decide_eq_false (by rintro rfl; exact ha rfl))
    rw [HE.out]
    go_enter Try.func42, Try.ntmps42
    go_wp2_with fail
    go_ret
    exact ⟨rfl, HB.out⟩
end Go.Proofs.Ytaeoccpjdjafnaa
namespace Go.Proofs.Ytaeoccpjdjafnaa
open Go.RowKit
end Go.Proofs.Ytaeoccpjdjafnaa
