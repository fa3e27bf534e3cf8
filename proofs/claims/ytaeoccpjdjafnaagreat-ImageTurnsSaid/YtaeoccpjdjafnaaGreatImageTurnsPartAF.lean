/- Texts of the proof, one behind the other: ImFew, ImLaw, EntsIn, RlIn, ConfIn, ImIn, KitChange, ImBk, ImInD, RfAhead, RfApM, ImTuM, SpoilB, SpoilEn, Spoil, ImSpoil, ImBases, ImCopy, ImIn2, ImCopyI. -/
import Derived.Test.YtaeoccpjdjafnaaGreatImageTurnsPartAE
import Derived.Test.YtaeoccpjdjafnaaGreatImageTurnsPartAA
import Derived.Deep.Slices
import Derived.Deep.Fields
import Derived.ChangeSame
import Derived.WalkLawsBesides
import Derived.ProofKit
import Derived.OpenShut
import Derived.Test.YtaeoccpjdjafnaaGreatImageTurnsPartAB
import Derived.Test.YtaeoccpjdjafnaaGreatImageTurnsPartAC
import Derived.Deep.RegionHeld3
import Derived.BigQuiet
import Derived.Test.YtaeoccpjdjafnaaGreatImageTurnsPartAD
import Derived.Test.YtaeoccpjdjafnaaGreatRows
namespace Go.Proofs.YtaeoccpjdjafnaaGreat.Im
open Go Go.RowKit
open Rl (En Lg)
open Qu (Cf)
set_option maxRecDepth 100000
set_option linter.unusedVariables false
local instance lo12 : Lo := ⟨0⟩
attribute [local go_sem ↓] loadAt_hard storeAt_hard loadAt_change storeAt_change
theorem bigConf_any (A0 A1 A2 : Option Addr) (n0 n1 n2 k0 k1 k2 n : Nat) (hn : n ≤ 1000000) (w : World) :
    Calls Tryz.prog 10 #[.agg #[.slice A0 n0 k0, .slice A1 n1 k1, .slice A2 n2 k2], .int .i64 (n : Int)] w fun e w' => e = .returned (.bool (decide (n < n0) || decide (n < n1) || decide (n < n2))) ∧ Below w.heap.size w w' := by
  have hb : Below w.heap.size w (w.alloc (.cells #[.slice A0 n0 k0, .slice A1 n1 k1, .slice A2 n2 k2] 28)) := (Below.refl _ w).alloc (Nat.le_refl _) _
  have HB := hid hb
  clear hb
  by_cases h0 : n < n0
  · have h0' : (n : Int) < (n0 : Int) := by omega
    have HE : Hid ((decide (n < n0) || decide (n < n1) || decide (n < n2)) = true) := hid (by simp [h0])
    rw [HE.out]
    clear h0
    go_enter Tryz.func10, Tryz.ntmps10
    go_wp2_with fail
    go_ret
    exact ⟨rfl, HB.out⟩
  · have h0' : ¬ (n : Int) < (n0 : Int) := by omega
    by_cases h1 : n < n1
    · have h1' : (n : Int) < (n1 : Int) := by omega
      have HE : Hid ((decide (n < n0) || decide (n < n1) || decide (n < n2)) = true) := hid (by simp [h1])
      rw [HE.out]
      clear h0 h1
      go_enter Tryz.func10, Tryz.ntmps10
      go_wp2_with fail
      go_ret
      exact ⟨rfl, HB.out⟩
    · have h1' : ¬ (n : Int) < (n1 : Int) := by omega
      by_cases h2 : n < n2
      · have h2' : (n : Int) < (n2 : Int) := by omega
        have HE : Hid ((decide (n < n0) || decide (n < n1) || decide (n < n2)) = true) := hid (by simp [h2])
        rw [HE.out]
        clear h0 h1 h2
        go_enter Tryz.func10, Tryz.ntmps10
        go_wp2_with fail
        go_ret
        exact ⟨rfl, HB.out⟩
      · have h2' : ¬ (n : Int) < (n2 : Int) := by omega
        have HE : Hid ((decide (n < n0) || decide (n < n1) || decide (n < n2)) = false) := hid (by simp [h0, h1, h2])
        rw [HE.out]
        clear h0 h1 h2
        go_enter Tryz.func10, Tryz.ntmps10
        go_wp2_with fail
        go_ret
        exact ⟨rfl, HB.out⟩
def bigCf (f : Cf) (n : Nat) : Bool := decide (n < f.old.length) || decide (n < f.new.length) || decide (n < f.lrn.length)
def bigPt (p : Pt) : Bool := big p.log.es 100 16384 || bigCf p.cf 100 || decide (16384 < p.sn.length)
theorem hard_new (w : World) (x : Hd) (ad : Ad) : Below w.heap.size w (w.alloc (.cells #[.int .i64 x.g, .int .i64 x.t, .int .i64 x.v, .int .i64 x.p.log.base, .int .i64 x.p.log.term, .slice ad.e x.p.log.es.length ad.ce, .slice ad.o x.p.cf.old.length ad.co, .slice ad.n x.p.cf.new.length ad.cn, .slice ad.l x.p.cf.lrn.length ad.cl, .slice ad.s x.p.sn.length ad.cs] 75)) := (Below.refl _ w).alloc (Nat.le_refl _) _
set_option maxHeartbeats 1600000 in
theorem bigHard_any (x : Hd) (ad : Ad) (w : World) (h : IsPt w w.heap.size x.p ad) :
    Calls Tryz.prog 47 #[.agg #[.int .i64 x.g, .int .i64 x.t, .int .i64 x.v, .int .i64 x.p.log.base, .int .i64 x.p.log.term, .slice ad.e x.p.log.es.length ad.ce, .slice ad.o x.p.cf.old.length ad.co, .slice ad.n x.p.cf.new.length ad.cn, .slice ad.l x.p.cf.lrn.length ad.cl, .slice ad.s x.p.sn.length ad.cs], .int .i64 100, .int .i64 16384] w fun e w' => e = .returned (.bool (bigPt x.p)) ∧ Below w.heap.size w w' := by
  obtain ⟨w1, hw1⟩ : ∃ w1, w1 = w.alloc (.cells #[.int .i64 x.g, .int .i64 x.t, .int .i64 x.v, .int .i64 x.p.log.base, .int .i64 x.p.log.term, .slice ad.e x.p.log.es.length ad.ce, .slice ad.o x.p.cf.old.length ad.co, .slice ad.n x.p.cf.new.length ad.cn, .slice ad.l x.p.cf.lrn.length ad.cl, .slice ad.s x.p.sn.length ad.cs] 75) := ⟨_, rfl⟩
  have r1 : w1.heap[w.heap.size]? = some (.cells #[.int .i64 x.g, .int .i64 x.t, .int .i64 x.v, .int .i64 x.p.log.base, .int .i64 x.p.log.term, .slice ad.e x.p.log.es.length ad.ce, .slice ad.o x.p.cf.old.length ad.co, .slice ad.n x.p.cf.new.length ad.cn, .slice ad.l x.p.cf.lrn.length ad.cl, .slice ad.s x.p.sn.length ad.cs] 75 (0, 0)) := by rw [hw1]; exact heap_alloc_new w _
  have b1 : Below w.heap.size w w1 := by rw [hw1]; exact hard_new w x ad
  have c5 : w1.cell? ⟨w.heap.size, 5, none⟩ = some (.slice ad.e x.p.log.es.length ad.ce) := row_cell r1 5
  have HE := hid (big_any w.heap.size ad.e ad.ce x.p.log.es.length x.p.log.es rfl 100 16384 (by decide) (by decide) w1 (h.es.below b1))
  have HR := hid (And.intro r1 b1)
  rw [hw1] at c5
  clear r1 b1 h
  go_enter Tryz.func47, Tryz.ntmps47
  go_wp2_with fail
  rw [← hw1]
  clear hw1 c5
  refine HE.out.mono ?_
  rintro e w2 ⟨rfl, hw2⟩
  subst hw2
  obtain ⟨b, hb⟩ : ∃ b, big x.p.log.es 100 16384 = b := ⟨_, rfl⟩
  rw [hb]
  cases b with
  | true =>
    have HV : Hid (bigPt x.p = true) := hid (by unfold bigPt; rw [hb]; rfl)
    clear hb
    go_wp2_with fail
    go_ret
    rw [HV.out]
    exact ⟨rfl, HR.out.2⟩
  | false =>
    have c6 : w2.cell? ⟨w.heap.size, 6, none⟩ = some (.slice ad.o x.p.cf.old.length ad.co) := row_cell HR.out.1 6
    have c7 : w2.cell? ⟨w.heap.size, 7, none⟩ = some (.slice ad.n x.p.cf.new.length ad.cn) := row_cell HR.out.1 7
    have c8 : w2.cell? ⟨w.heap.size, 8, none⟩ = some (.slice ad.l x.p.cf.lrn.length ad.cl) := row_cell HR.out.1 8
    have HC := hid (bigConf_any ad.o ad.n ad.l x.p.cf.old.length x.p.cf.new.length x.p.cf.lrn.length ad.co ad.cn ad.cl 100 (by decide) w2)
    have HX := hid hb
    clear hb
    go_wp2_with fail
    refine HC.out.mono ?_
    rintro e w3 ⟨rfl, hb3⟩
    obtain ⟨b2, hb2⟩ : ∃ b2, bigCf x.p.cf 100 = b2 := ⟨_, rfl⟩
    rw [show (decide (100 < x.p.cf.old.length) || decide (100 < x.p.cf.new.length) || decide (100 < x.p.cf.lrn.length)) = b2 from hb2]
    have r3 := (hb3.block _ (row_lt HR.out.1)).trans HR.out.1
    have c9 : w3.cell? ⟨w.heap.size, 9, none⟩ = some (.slice ad.s x.p.sn.length ad.cs) := row_cell r3 9
    have HB3 := hid (HR.out.2.trans (hb3.mono HR.out.2.size))
    cases b2 with
    | true =>
      have HV : Hid (bigPt x.p = true) := hid (by unfold bigPt; rw [HX.out, hb2]; rfl)
      clear hb2 r3 hb3
      go_wp2_with fail
      go_ret
      rw [HV.out]
      exact ⟨rfl, HB3.out⟩
    | false =>
      have HV : Hid (bigPt x.p = decide ((16384 : Int) < (x.p.sn.length : Int))) := hid (by unfold bigPt; rw [HX.out, hb2]; simp only [Bool.false_or]; exact decide_eq_decide.2 (by omega))
      clear hb2 r3 hb3
      go_wp2_with fail
      go_ret
      rw [HV.out]
      exact ⟨rfl, HB3.out⟩
set_option maxHeartbeats 1600000 in
theorem few_any (x : Ch) (ad : Ad) (w : World) (h : IsPt w w.heap.size x.p ad) :
    Calls Tryz.prog 34 #[.agg #[.int .i64 x.k, .int .i64 x.g, .int .i64 x.t, .int .i64 x.v, .int .i64 x.f, .int .i64 x.p.log.base, .int .i64 x.p.log.term, .slice ad.e x.p.log.es.length ad.ce, .slice ad.o x.p.cf.old.length ad.co, .slice ad.n x.p.cf.new.length ad.cn, .slice ad.l x.p.cf.lrn.length ad.cl, .slice ad.s x.p.sn.length ad.cs, .int .i64 x.a.x, .int .i64 x.a.p, .int .i64 x.a.r, .int .i64 x.a.b, .int .i64 x.a.v]] w fun e w' => e = .returned (.bool (!bigPt x.p)) ∧ Below w.heap.size w w' := by
  obtain ⟨w1, hw1⟩ : ∃ w1, w1 = w.alloc (.cells #[.int .i64 x.k, .int .i64 x.g, .int .i64 x.t, .int .i64 x.v, .int .i64 x.f, .int .i64 x.p.log.base, .int .i64 x.p.log.term, .slice ad.e x.p.log.es.length ad.ce, .slice ad.o x.p.cf.old.length ad.co, .slice ad.n x.p.cf.new.length ad.cn, .slice ad.l x.p.cf.lrn.length ad.cl, .slice ad.s x.p.sn.length ad.cs, .int .i64 x.a.x, .int .i64 x.a.p, .int .i64 x.a.r, .int .i64 x.a.b, .int .i64 x.a.v] 62) := ⟨_, rfl⟩
  have r1 : w1.heap[w.heap.size]? = some (.cells #[.int .i64 x.k, .int .i64 x.g, .int .i64 x.t, .int .i64 x.v, .int .i64 x.f, .int .i64 x.p.log.base, .int .i64 x.p.log.term, .slice ad.e x.p.log.es.length ad.ce, .slice ad.o x.p.cf.old.length ad.co, .slice ad.n x.p.cf.new.length ad.cn, .slice ad.l x.p.cf.lrn.length ad.cl, .slice ad.s x.p.sn.length ad.cs, .int .i64 x.a.x, .int .i64 x.a.p, .int .i64 x.a.r, .int .i64 x.a.b, .int .i64 x.a.v] 62 (0, 0)) := by rw [hw1]; exact heap_alloc_new w _
  have b1 : Below w.heap.size w w1 := by rw [hw1]; exact (Below.refl _ w).alloc (Nat.le_refl _) _
  have c5 : w1.cell? ⟨w.heap.size, 7, none⟩ = some (.slice ad.e x.p.log.es.length ad.ce) := row_cell r1 7
  have HE := hid (big_any w.heap.size ad.e ad.ce x.p.log.es.length x.p.log.es rfl 100 16384 (by decide) (by decide) w1 (h.es.below b1))
  have HR := hid (And.intro r1 b1)
  rw [hw1] at c5
  clear r1 b1 h
  go_enter Tryz.func34, Tryz.ntmps34
  go_wp2_with fail
  rw [← hw1]
  clear hw1 c5
  refine HE.out.mono ?_
  rintro e w2 ⟨rfl, hw2⟩
  subst hw2
  obtain ⟨b, hb⟩ : ∃ b, big x.p.log.es 100 16384 = b := ⟨_, rfl⟩
  rw [hb]
  cases b with
  | true =>
    have HV : Hid (bigPt x.p = true) := hid (by unfold bigPt; rw [hb]; rfl)
    clear hb
    go_wp2_with fail
    go_ret
    rw [HV.out]
    exact ⟨rfl, HR.out.2⟩
  | false =>
    have c6 : w2.cell? ⟨w.heap.size, 8, none⟩ = some (.slice ad.o x.p.cf.old.length ad.co) := row_cell HR.out.1 8
    have c7 : w2.cell? ⟨w.heap.size, 9, none⟩ = some (.slice ad.n x.p.cf.new.length ad.cn) := row_cell HR.out.1 9
    have c8 : w2.cell? ⟨w.heap.size, 10, none⟩ = some (.slice ad.l x.p.cf.lrn.length ad.cl) := row_cell HR.out.1 10
    have HC := hid (bigConf_any ad.o ad.n ad.l x.p.cf.old.length x.p.cf.new.length x.p.cf.lrn.length ad.co ad.cn ad.cl 100 (by decide) w2)
    have HX := hid hb
    clear hb
    go_wp2_with fail
    refine HC.out.mono ?_
    rintro e w3 ⟨rfl, hb3⟩
    obtain ⟨b2, hb2⟩ : ∃ b2, bigCf x.p.cf 100 = b2 := ⟨_, rfl⟩
    rw [show (decide (100 < x.p.cf.old.length) || decide (100 < x.p.cf.new.length) || decide (100 < x.p.cf.lrn.length)) = b2 from hb2]
    have r3 := (hb3.block _ (row_lt HR.out.1)).trans HR.out.1
    have c9 : w3.cell? ⟨w.heap.size, 11, none⟩ = some (.slice ad.s x.p.sn.length ad.cs) := row_cell r3 11
    have HB3 := hid (HR.out.2.trans (hb3.mono HR.out.2.size))
    cases b2 with
    | true =>
      have HV : Hid (bigPt x.p = true) := hid (by unfold bigPt; rw [HX.out, hb2]; rfl)
      clear hb2 r3 hb3
      go_wp2_with fail
      go_ret
      rw [HV.out]
      exact ⟨rfl, HB3.out⟩
    | false =>
      have HV : Hid ((!bigPt x.p) = decide ((x.p.sn.length : Int) ≤ (16384 : Int))) := hid (by unfold bigPt; rw [HX.out, hb2]; simp only [Bool.false_or]; rw [← decide_not]; exact decide_eq_decide.2 (by omega))
      clear hb2 r3 hb3
      go_wp2_with fail
      go_ret
      rw [HV.out]
      exact ⟨rfl, HB3.out⟩
def bigHs (Q : List Hq) : Bool := Q.any fun q => bigPt q.h.p
theorem bigHs_take (Q : List Hq) (k : Nat) (h : k < Q.length) : bigHs (Q.take (k + 1)) = (bigHs (Q.take k) || bigPt Q[k].h.p) := by
  unfold bigHs
  rw [List.take_succ_eq_append_getElem h, List.any_append]
  simp
def fewI (Q : List Hq) (L : List Vt) : Bool := !(decide (40 < Q.length) || decide (200 < L.length)) && !bigHs Q
set_option maxHeartbeats 3200000 in
theorem fewI_any (i : Ia) (nh nv : Nat) (Q : List Hq) (L : List Vt) (hnh : nh = Q.length) (hnv : nv = L.length) (w : World) (h : IsHds w w.heap.size i.h Q) :
    Calls Tryz.prog 9 #[.agg #[.slice i.h nh i.ch, .slice i.v nv i.cv]] w fun e w' => e = .returned (.bool (fewI Q L)) ∧ Below w.heap.size w w' := by
  obtain ⟨w1, hw1⟩ : ∃ w1, w1 = w.alloc (.cells #[.slice i.h nh i.ch, .slice i.v nv i.cv] 25) := ⟨_, rfl⟩
  have r1 : w1.heap[w.heap.size]? = some (.cells #[.slice i.h nh i.ch, .slice i.v nv i.cv] 25 (0, 0)) := by rw [hw1]; exact heap_alloc_new w _
  have b1 : Below w.heap.size w w1 := by rw [hw1]; exact (Below.refl _ w).alloc (Nat.le_refl _) _
  by_cases g1 : 40 < nh
  · have g1' : (40 : Int) < (nh : Int) := by omega
    have HV : Hid (fewI Q L = false) := hid (by unfold fewI; rw [← hnh]; simp [g1])
    rw [HV.out]
    have HB := hid b1
    rw [hw1] at HB
    clear g1 hnh hnv h r1 b1 hw1
    go_enter Tryz.func9, Tryz.ntmps9
    go_wp2_with fail
    go_ret
    exact ⟨rfl, HB.out⟩
  · have g1' : ¬ (40 : Int) < (nh : Int) := by omega
    by_cases g2 : 200 < nv
    · have g2' : (200 : Int) < (nv : Int) := by omega
      have HV : Hid (fewI Q L = false) := hid (by unfold fewI; rw [← hnv]; simp [g2])
      rw [HV.out]
      have HB := hid b1
      rw [hw1] at HB
      clear g1 g2 hnh hnv h r1 b1 hw1
      go_enter Tryz.func9, Tryz.ntmps9
      go_wp2_with fail
      go_ret
      exact ⟨rfl, HB.out⟩
    · have g2' : ¬ (200 : Int) < (nv : Int) := by omega
      have HX := hid (And.intro hnh (And.intro h (And.intro r1 (And.intro b1 (And.intro (show fewI Q L = !bigHs Q by unfold fewI; rw [← hnh, ← hnv]; simp [g1, g2]) (show nh ≤ 40 by omega))))))
      clear g1 g2 hnh hnv h r1 b1
      go_enter Tryz.func9, Tryz.ntmps9
      go_wp2_with fail
      rw [← hw1]
      clear hw1
      go_loopw [3] (fun j wr => ∃ k : Nat, k ≤ nh ∧ j = .int .i64 (k : Int) ∧ Hid (Below w1.heap.size w1 wr ∧ bigHs (Q.take k) = false)) (fun j _ => nh - (RowKit.intOf j).toNat)
      case atStart => exact ⟨0, Nat.zero_le _, rfl, hid ⟨Below.refl _ _, rfl⟩⟩
      case round =>
        obtain ⟨k, hk, rfl, HI⟩ := hrel
        have HB : Hid (Below w.heap.size w wr) := hid (HX.out.2.2.2.1.trans (HI.out.1.mono HX.out.2.2.2.1.size))
        have rr := (HI.out.1.block _ (row_lt HX.out.2.2.1)).trans HX.out.2.2.1
        have c0 : wr.cell? ⟨w.heap.size, 0, none⟩ = some (.slice i.h nh i.ch) := row_cell rr 0
        have hn40 := HX.out.2.2.2.2.2
        by_cases hlt : k < nh
        · have hlt0 : (k : Int) < (nh : Int) := by omega
          have hlt1 : k < Q.length := by rw [← HX.out.1]; exact hlt
          obtain ⟨q, hq⟩ : ∃ q, q = Q[k] := ⟨_, rfl⟩
          have hqm : q ∈ Q := by rw [hq]; exact List.getElem_mem hlt1
          obtain ⟨g, off, hA, hg, hcs⟩ := (HX.out.2.1.below HB.out).row.at_ k hlt1
          have hr := hcs k hlt1
          rw [← hq] at hr
          obtain ⟨y, ay⟩ := q
          have ld := ldH wr g (off + k * 10) (cellsH ⟨y, ay⟩) rfl hr
          have HBH := hid (bigHard_any y ay wr (((HX.out.2.1.pt _ hqm).below HB.out).more HB.out.size))
          have HT := hid (bigHs_take Q k hlt1)
          rw [← hq] at HT
          rw [hA] at c0
          clear rr hcs hr hq hqm hg hA hlt
          go_wp2_with fail
          refine HBH.out.mono ?_
          rintro e w2 ⟨rfl, hb2⟩
          obtain ⟨b, hb⟩ : ∃ b, bigPt y.p = b := ⟨_, rfl⟩
          rw [hb]
          have HB2 := hid (HB.out.trans (hb2.mono HB.out.size))
          have HI2 := hid (HI.out.1.trans (hb2.mono HI.out.1.size))
          clear hb2 ld c0
          cases b with
          | true =>
            have HV : Hid (fewI Q L = false) := hid (by
              rw [HX.out.2.2.2.2.1]
              have : bigHs Q = true := by
                have h1 : bigHs (Q.take (k + 1)) = true := by rw [HT.out, hb]; simp
                unfold bigHs at h1 ⊢
                obtain ⟨z, hz, hz2⟩ := List.any_eq_true.1 h1
                exact List.any_eq_true.2 ⟨z, List.mem_of_mem_take hz, hz2⟩
              rw [this]; rfl)
            clear hb
            go_wp2_with fail
            go_ret
            rw [HV.out]
            exact ⟨rfl, HB2.out⟩
          | false =>
            have HI3 : Hid (Below w1.heap.size w1 w2 ∧ bigHs (Q.take (k + 1)) = false) := hid ⟨HI2.out, by rw [HT.out, hb, HI.out.2]; rfl⟩
            clear hb
            go_wp2_with fail
            go_roundw
            case rel => exact ⟨k + 1, by omega, by go_num, HI3⟩
            case measure => simp [RowKit.intOf]; omega
        · have hlt0 : ¬ (k : Int) < (nh : Int) := by omega
          have HV : Hid (fewI Q L = true) := hid (by
            rw [HX.out.2.2.2.2.1]
            have : bigHs Q = false := by
              have h1 := HI.out.2
              rw [List.take_of_length_le (by rw [← HX.out.1]; omega)] at h1
              exact h1
            rw [this]; rfl)
          clear rr hlt
          go_wp2_with fail
          go_ret
          rw [HV.out]
          exact ⟨rfl, HB.out⟩
end Go.Proofs.YtaeoccpjdjafnaaGreat.Im
namespace Go.Proofs.YtaeoccpjdjafnaaGreat.Im
open Rl (En Lg)
open Qu (Cf)
theorem cs_enc (M : List Cq) {l : List Nat} (h : encL encC (M.map (·.c)) = l) : encL encCq M = l := by rw [← h, encL_mapC]
theorem cs_len (M : List Cq) {l : List Nat} (h : encL encC (M.map (·.c)) = l) : 8 + (M.flatMap encCq).length = l.length := by
  rw [← cs_enc M h]
  unfold encL
  simp only [List.length_append]
  rfl
end Go.Proofs.YtaeoccpjdjafnaaGreat.Im
namespace Go.Proofs.YtaeoccpjdjafnaaGreat
open Go.RowKit Go.ChangeShapes Go.WideShapes Go.Deep
theorem bytes_of_trod {H : Type} {enc : TypeId × Value → H} {W : World} {fuel : Nat} {cs : List Value} {x : DataW H × List MemPlace} (h : DataW.trod enc Tryz.prog W 0 (fun _ => true) true fuel 35 cs = some x) :
    ∃ (a : Option Addr) (c : Nat) (l : List Nat), cs = [.slice a l.length c] ∧ IsBytes W W.heap.size a l ∧ (l.length ≤ c ∧ c ≤ maxLen) ∧ (a = none → c = 0) := by
  rcases open_ints Tryz.underlying35 Tryz.underlying5 (by kernel_rfl) h with ⟨hcs, _⟩ | ⟨x, l, c, zs, hcs, _, hl, hm, hz, hx, hcell, hwz⟩
  · exact ⟨none, 0, [], hcs, IsBytes.nil, ⟨Nat.le_refl _, Nat.zero_le _⟩, fun _ => rfl⟩
  · simp only [if_true] at hz
    obtain ⟨m, h1, h2⟩ := isBytes_of_ints hl hz hcell hwz
    subst h2
    exact ⟨some x, c, m, hcs, h1, ⟨hl, hm⟩, fun h => by cases h⟩
theorem int_of_trod {H : Type} {enc : TypeId × Value → H} {W : World} {fuel : Nat} {cs : List Value} {x : DataW H × List MemPlace} (h : DataW.trod enc Tryz.prog W 0 (fun _ => true) true fuel 3 cs = some x) : ∃ n, cs = [.int .i64 n] ∧ InInt n := by
  obtain ⟨n, h1, _, h2⟩ := DataW.trod_int Tryz.underlying3 h
  exact ⟨n, h1, bounds_i64 h2⟩
theorem one_cell {cs : List Value} {n : Nat} (h : cs.length = n) (j : Nat) (hj : j < n) : (cs.drop j).take 1 = [cs[j]'(by omega)] := by
  rw [List.drop_eq_getElem_cons (by omega)]
  rfl
theorem cellsOf_ent : Tryz.prog.cellsOf 73 = 3 := by kernel_rfl
set_option maxRecDepth 100000 in
theorem ent_of_trod1 {H : Type} {enc : TypeId × Value → H} {W : World} {fuel : Nat} {a : Addr} {cs : List Value} {x : DataW H × List MemPlace} (hc : W.cells? 0 a 3 = some cs) (h : DataW.trod enc Tryz.prog W 0 (fun _ => true) true fuel 73 cs = some x) :
    ∃ t : Rl.En, (InInt t.t ∧ InInt t.k) ∧ ∀ b o, a = ⟨b, o, none⟩ → EnAt W W.heap.size b o t := by
  obtain ⟨_, hcl, hat⟩ := World.cells?_some hc
  obtain ⟨ys, n, _, _, _, hyl, hf⟩ := DataW.trod_struct Tryz.underlying73 h
  have hyl4 : ys.length = 3 := hyl
  have e0 : DataW.trod enc Tryz.prog W 0 (fun _ => true) true n 3 ((cs.drop 0).take (Tryz.prog.cellsOf 3)) = ys[0]? := hf 0 _ rfl
  have e1 : DataW.trod enc Tryz.prog W 0 (fun _ => true) true n 3 ((cs.drop 1).take (Tryz.prog.cellsOf 3)) = ys[1]? := hf 1 _ rfl
  have e2 : DataW.trod enc Tryz.prog W 0 (fun _ => true) true n 35 ((cs.drop 2).take (Tryz.prog.cellsOf 35)) = ys[2]? := hf 2 _ rfl
  have c1 : Tryz.prog.cellsOf 3 = 1 := by kernel_rfl
  have c2 : Tryz.prog.cellsOf 35 = 1 := by kernel_rfl
  rw [c1] at e0
  rw [one_cell hcl 0 (by omega), List.getElem?_eq_getElem (by omega)] at e0
  rw [c1] at e1
  rw [one_cell hcl 1 (by omega), List.getElem?_eq_getElem (by omega)] at e1
  rw [c2] at e2
  rw [one_cell hcl 2 (by omega), List.getElem?_eq_getElem (by omega)] at e2
  obtain ⟨k0, k01, k02⟩ := int_of_trod e0
  have k01 := (List.cons.inj k01).1
  obtain ⟨k1, k11, k12⟩ := int_of_trod e1
  have k11 := (List.cons.inj k11).1
  obtain ⟨ap, cp, p, k21, p2, p3, p4⟩ := bytes_of_trod e2
  have k21 := (List.cons.inj k21).1
  refine ⟨⟨k0, k1, p⟩, ⟨k02, k12⟩, fun b o e => ?_⟩
  subst e
  have g : ∀ j, (hj : j < 3) → W.cell? ⟨b, o + j, none⟩ = some (cs[j]'(by omega)) := fun j hj => by
    have := hat j hj
    rw [List.getElem?_eq_getElem (by omega)] at this
    rw [← this]
    congr 1
    unfold Addr.add; split <;> simp [*]
  exact ⟨ap, cp, by have := g 0 (by omega); rw [k01] at this; exact this, by have := g 1 (by omega); rw [k11] at this; exact this, by have := g 2 (by omega); rw [k21] at this; exact this, p2, p3, p4⟩
set_option maxRecDepth 100000 in
theorem ents_of_trod {H : Type} {enc : TypeId × Value → H} {W : World} {fuel : Nat} {cs : List Value} {x : DataW H × List MemPlace} (h : DataW.trod enc Tryz.prog W 0 (fun _ => true) true fuel 56 cs = some x) :
    ∃ (a : Option Addr) (c : Nat) (ts : List Rl.En), cs = [.slice a ts.length c] ∧ IsEnts W W.heap.size a ts ∧ (ts.length ≤ c ∧ c ≤ maxLen) ∧ (a = none → c = 0) := by
  rcases open_slice Tryz.underlying56 h with ⟨hcs, _⟩ | ⟨a, len, cap, m, n, D, Pl, hcs, _, hl, hm, hmm, _, hi⟩
  · exact ⟨none, 0, [], hcs, IsEnts.nil, ⟨Nat.le_refl _, Nat.zero_le _⟩, fun _ => rfl⟩
  · simp only [if_true] at hmm
    subst hmm
    rw [cellsOf_ent] at hi
    have hth : ∀ i, i < len → ∃ t : Rl.En, ((InInt t.t ∧ InInt t.k) ∧ ∀ b o, a.add (i * 3) = ⟨b, o, none⟩ → EnAt W W.heap.size b o t) ∧ ∃ cs, W.cells? 0 (a.add (i * 3)) 3 = some cs := fun i hlt => by
      obtain ⟨cs', h1, h2⟩ := hi i (by omega)
      obtain ⟨t, ht⟩ := ent_of_trod1 h1 h2
      exact ⟨t, ht, cs', h1⟩
    refine ⟨some a, m, (List.range len).attach.map (fun i => (hth i.1 (List.mem_range.1 i.2)).choose), ?_, ⟨fun e he => ?_, fun k hk => ?_⟩, ?_, fun h => by cases h⟩
    · rw [hcs]; simp
    · obtain ⟨i, hi, rfl⟩ := List.mem_map.1 he
      have hi2 : i.1 < len := List.mem_range.1 i.2
      exact (hth i.1 hi2).choose_spec.1.1
    · have hk' : k < len := by simpa using hk
      obtain ⟨cs0, hcs0⟩ := (hth 0 (by omega)).choose_spec.2
      obtain ⟨_, hcl, hat⟩ := World.cells?_some hcs0
      have hsp := hat 0 (by omega)
      rw [List.getElem?_eq_getElem (by omega)] at hsp
      have hlt := World.block_lt_of_cell? _ _ hsp
      have hspot := World.cell?_spot hsp
      obtain ⟨b, off, spot⟩ := a
      have hs : spot = none := by simpa [Addr.add] using hspot
      subst hs
      have hb : b < W.heap.size := by
        simpa [Addr.add] using hlt
      refine ⟨b, off, rfl, hb, fun i hi' => ?_⟩
      have hi2 : i < len := by simpa using hi'
      simp only [List.getElem_map, List.getElem_attach, List.getElem_range]
      refine (hth i hi2).choose_spec.1.2 b (off + i * 3) ?_
      unfold Addr.add; split <;> simp [*]
    · simp; exact ⟨hl, hm⟩
end Go.Proofs.YtaeoccpjdjafnaaGreat
namespace Go.Proofs.YtaeoccpjdjafnaaGreat
open Go.RowKit Go.ChangeShapes Go.WideShapes Go.Deep
set_option maxRecDepth 100000
theorem cellsOf_log : Tryz.prog.cellsOf 58 = 3 := by kernel_rfl
theorem log_of_trod {H : Type} {enc : TypeId × Value → H} {W : World} {fuel : Nat} {cs : List Value} {x : DataW H × List MemPlace} (hcl : cs.length = 3) (h : DataW.trod enc Tryz.prog W 0 (fun _ => true) true fuel 58 cs = some x) :
    ∃ (g : Rl.Lg) (a : Option Addr) (c : Nat), cs = [.int .i64 g.base, .int .i64 g.term, .slice a g.es.length c] ∧ LgIs W W.heap.size g a c := by
  obtain ⟨ys, n, _, _, _, hyl, hf⟩ := DataW.trod_struct Tryz.underlying58 h
  have hyl3 : ys.length = 3 := hyl
  have e0 : DataW.trod enc Tryz.prog W 0 (fun _ => true) true n 3 ((cs.drop 0).take (Tryz.prog.cellsOf 3)) = ys[0]? := hf 0 _ rfl
  have e1 : DataW.trod enc Tryz.prog W 0 (fun _ => true) true n 3 ((cs.drop 1).take (Tryz.prog.cellsOf 3)) = ys[1]? := hf 1 _ rfl
  have e2 : DataW.trod enc Tryz.prog W 0 (fun _ => true) true n 56 ((cs.drop 2).take (Tryz.prog.cellsOf 56)) = ys[2]? := hf 2 _ rfl
  have c1 : Tryz.prog.cellsOf 3 = 1 := by kernel_rfl
  have c2 : Tryz.prog.cellsOf 56 = 1 := by kernel_rfl
  rw [c1] at e0 e1
  rw [c2] at e2
  rw [one_cell hcl 0 (by omega), List.getElem?_eq_getElem (by omega)] at e0
  rw [one_cell hcl 1 (by omega), List.getElem?_eq_getElem (by omega)] at e1
  rw [one_cell hcl 2 (by omega), List.getElem?_eq_getElem (by omega)] at e2
  obtain ⟨k0, p1, p2⟩ := int_of_trod e0
  obtain ⟨k1, q1, q2⟩ := int_of_trod e1
  obtain ⟨a, c, ts, r1, r2, r3, r4⟩ := ents_of_trod e2
  have p1 := (List.cons.inj p1).1
  have q1 := (List.cons.inj q1).1
  have r1 := (List.cons.inj r1).1
  refine ⟨⟨k0, k1, ts⟩, a, c, ?_, ⟨r2, r3, r4, p2, q2⟩⟩
  match cs, hcl with
  | [x0, x1, x2], _ =>
    simp at p1 q1 r1
    rw [p1, q1, r1]
end Go.Proofs.YtaeoccpjdjafnaaGreat
namespace Go.Proofs.YtaeoccpjdjafnaaGreat
open Go.RowKit Go.ChangeShapes Go.WideShapes Go.Deep
set_option maxRecDepth 100000
theorem intsIn_of_trod {H : Type} {enc : TypeId × Value → H} {W : World} {fuel : Nat} {cs : List Value} {x : DataW H × List MemPlace} (h : DataW.trod enc Tryz.prog W 0 (fun _ => true) true fuel 26 cs = some x) :
    ∃ (a : Option Addr) (c : Nat) (l : List Int), cs = [.slice a l.length c] ∧ IsInts W W.heap.size a l ∧ (l.length ≤ c ∧ c ≤ maxLen) ∧ (a = none → c = 0) := by
  rcases open_ints Tryz.underlying26 Tryz.underlying3 (by kernel_rfl) h with ⟨hcs, _⟩ | ⟨x, l, c, zs, hcs, _, hl, hm, hz, hx, hcell, hwz⟩
  · exact ⟨none, 0, [], hcs, IsInts.nil, ⟨Nat.le_refl _, Nat.zero_le _⟩, fun _ => rfl⟩
  · simp only [if_true] at hz
    obtain ⟨m, h1, h2⟩ := isInts_of_ints hl hz hcell hwz
    subst h2
    exact ⟨some x, c, m, hcs, h1, ⟨hl, hm⟩, fun h => by cases h⟩
theorem one_cell3 {cs : List Value} (h : cs.length = 3) (j : Nat) (hj : j < 3) : (cs.drop j).take 1 = [cs[j]'(by omega)] := by
  rw [List.drop_eq_getElem_cons (by omega)]
  rfl
theorem cellsOf_conf : Tryz.prog.cellsOf 28 = 3 := by kernel_rfl
theorem conf_of_trod {H : Type} {enc : TypeId × Value → H} {W : World} {fuel : Nat} {cs : List Value} {x : DataW H × List MemPlace} (hcl : cs.length = 3) (h : DataW.trod enc Tryz.prog W 0 (fun _ => true) true fuel 28 cs = some x) :
    ∃ (c : Qu.Cf) (a0 a1 a2 : Option Addr) (k0 k1 k2 : Nat), cs = [.slice a0 c.old.length k0, .slice a1 c.new.length k1, .slice a2 c.lrn.length k2] ∧ CIs W W.heap.size c a0 a1 a2 k0 k1 k2 := by
  obtain ⟨ys, n, _, _, _, hyl, hf⟩ := DataW.trod_struct Tryz.underlying28 h
  have hyl3 : ys.length = 3 := hyl
  have e0 : DataW.trod enc Tryz.prog W 0 (fun _ => true) true n 26 ((cs.drop 0).take (Tryz.prog.cellsOf 26)) = ys[0]? := hf 0 _ rfl
  have e1 : DataW.trod enc Tryz.prog W 0 (fun _ => true) true n 26 ((cs.drop 1).take (Tryz.prog.cellsOf 26)) = ys[1]? := hf 1 _ rfl
  have e2 : DataW.trod enc Tryz.prog W 0 (fun _ => true) true n 26 ((cs.drop 2).take (Tryz.prog.cellsOf 26)) = ys[2]? := hf 2 _ rfl
  have c3 : Tryz.prog.cellsOf 26 = 1 := by kernel_rfl
  rw [c3] at e0 e1 e2
  rw [one_cell3 hcl 0 (by omega), List.getElem?_eq_getElem (by omega)] at e0
  rw [one_cell3 hcl 1 (by omega), List.getElem?_eq_getElem (by omega)] at e1
  rw [one_cell3 hcl 2 (by omega), List.getElem?_eq_getElem (by omega)] at e2
  obtain ⟨a0, k0, l0, p1, p2, p3, p4⟩ := intsIn_of_trod e0
  obtain ⟨a1, k1, l1, q1, q2, q3, q4⟩ := intsIn_of_trod e1
  obtain ⟨a2, k2, l2, r1, r2, r3, r4⟩ := intsIn_of_trod e2
  have p1 := (List.cons.inj p1).1
  have q1 := (List.cons.inj q1).1
  have r1 := (List.cons.inj r1).1
  refine ⟨⟨l0, l1, l2⟩, a0, a1, a2, k0, k1, k2, ?_, ⟨p2, q2, r2, p4, q4, r4, p3, q3, r3⟩⟩
  match cs, hcl with
  | [x0, x1, x2], _ =>
    simp at p1 q1 r1
    rw [p1, q1, r1]
end Go.Proofs.YtaeoccpjdjafnaaGreat
namespace Go.Proofs.YtaeoccpjdjafnaaGreat.Im
open Go.RowKit Go.ChangeShapes Go.WideShapes Go.Deep
set_option maxRecDepth 100000
theorem cellsOf_int : Tryz.prog.cellsOf 3 = 1 := by kernel_rfl
theorem cellsOf_bytes : Tryz.prog.cellsOf 35 = 1 := by kernel_rfl
theorem cellsOf_hard : Tryz.prog.cellsOf 75 = 10 := by kernel_rfl
theorem cellsOf_vote : Tryz.prog.cellsOf 60 = 5 := by kernel_rfl
theorem cellsOf_change : Tryz.prog.cellsOf 62 = 17 := by kernel_rfl
theorem cellsOf_hards : Tryz.prog.cellsOf 22 = 1 := by kernel_rfl
theorem cellsOf_votes : Tryz.prog.cellsOf 23 = 1 := by kernel_rfl
theorem cellsOf_image : Tryz.prog.cellsOf 25 = 2 := by kernel_rfl
theorem len_sub {cs : List Value} {n j k : Nat} (h : cs.length = n) (hj : j + k ≤ n) : ((cs.drop j).take k).length = k := by
  rw [List.length_take, List.length_drop]; omega
theorem add_off (b o k : Nat) : (⟨b, o, none⟩ : Addr).add k = ⟨b, o + k, none⟩ := by unfold Addr.add; split <;> simp [*]
theorem rows_in {α : Type} {f : α → List Value} {size : Nat} {W : World} {a : Addr} {len : Nat} (P : α → Prop) (hs : 0 < size)
    (h : ∀ i, i < len → ∃ cs, W.cells? 0 (a.add (i * size)) size = some cs ∧ ∃ x : α, cs = f x ∧ P x) :
    ∃ L : List α, L.length = len ∧ IsRow f size W W.heap.size (some a) L ∧ ∀ x ∈ L, P x := by
  have hth : ∀ i, i < len → ∃ x : α, P x ∧ W.cells? 0 (a.add (i * size)) size = some (f x) := fun i hi => by
    obtain ⟨cs, h1, x, rfl, h3⟩ := h i hi
    exact ⟨x, h3, h1⟩
  refine ⟨(List.range len).attach.map (fun i => (hth i.1 (List.mem_range.1 i.2)).choose), by simp, ⟨fun k hk => ?_⟩, fun x hx => ?_⟩
  · have hk' : k < len := by simpa using hk
    obtain ⟨_, hcs0⟩ := (hth 0 (by omega)).choose_spec
    obtain ⟨_, hcl, hat⟩ := World.cells?_some hcs0
    have hsp := hat 0 hs
    rw [List.getElem?_eq_getElem (by omega)] at hsp
    have hlt := World.block_lt_of_cell? _ _ hsp
    have hspot := World.cell?_spot hsp
    obtain ⟨b, off, spot⟩ := a
    have hsn : spot = none := by simpa [Addr.add] using hspot
    subst hsn
    have hb : b < W.heap.size := by simpa [Addr.add] using hlt
    refine ⟨b, off, rfl, hb, fun i hi' => ?_⟩
    have hi2 : i < len := by simpa using hi'
    simp only [List.getElem_map, List.getElem_attach, List.getElem_range]
    obtain ⟨_, hci⟩ := (hth i hi2).choose_spec
    obtain ⟨_, hcl, hat⟩ := World.cells?_some hci
    intro j v hv
    have hj : j < size := by rw [← hcl]; exact (List.getElem?_eq_some_iff.1 hv).1
    have := hat j hj
    rw [hv, Go.Deep.add_add, add_off] at this
    rw [Nat.add_assoc]
    exact this
  · obtain ⟨i, _, rfl⟩ := List.mem_map.1 hx
    exact (hth i.1 (List.mem_range.1 i.2)).choose_spec.1
theorem pt_in {H : Type} {enc : TypeId × Value → H} {W : World} {fuel : Nat} {c1 c2 c3 : List Value} {x1 x2 x3 : DataW H × List MemPlace} (h1 : c1.length = 3) (h2 : c2.length = 3)
    (e1 : DataW.trod enc Tryz.prog W 0 (fun _ => true) true fuel 58 c1 = some x1)
    (e2 : DataW.trod enc Tryz.prog W 0 (fun _ => true) true fuel 28 c2 = some x2)
    (e3 : DataW.trod enc Tryz.prog W 0 (fun _ => true) true fuel 35 c3 = some x3) :
    ∃ (p : Pt) (a : Ad), c1 ++ (c2 ++ c3) = [.int .i64 p.log.base, .int .i64 p.log.term, .slice a.e p.log.es.length a.ce, .slice a.o p.cf.old.length a.co, .slice a.n p.cf.new.length a.cn, .slice a.l p.cf.lrn.length a.cl, .slice a.s p.sn.length a.cs] ∧ IsPt W W.heap.size p a := by
  obtain ⟨g, a, c, r1, r2⟩ := log_of_trod h1 e1
  obtain ⟨f, a0, a1, a2, k0, k1, k2, s1, s2⟩ := conf_of_trod h2 e2
  obtain ⟨ab, cb, l, t1, t2, t3, t4⟩ := bytes_of_trod e3
  refine ⟨⟨g, f, l⟩, ⟨a, c, a0, k0, a1, k1, a2, k2, ab, cb⟩, ?_, ⟨r2.es, s2.o, s2.n, s2.l, t2, ⟨r2.room, r2.none_⟩, ⟨s2.co, s2.zo⟩, ⟨s2.cn, s2.zn⟩, ⟨s2.cl, s2.zl⟩, ⟨t3, t4⟩, r2.num⟩⟩
  rw [r1, s1, t1]
  rfl
theorem vote_in {H : Type} {enc : TypeId × Value → H} {W : World} {fuel : Nat} {cs : List Value} {x : DataW H × List MemPlace} (hcl : cs.length = 5) (h : DataW.trod enc Tryz.prog W 0 (fun _ => true) true fuel 60 cs = some x) :
    ∃ v : Vt, cs = cellsV v ∧ okV v := by
  obtain ⟨ys, n, _, _, _, hyl, hf⟩ := DataW.trod_struct Tryz.underlying60 h
  have hyl5 : ys.length = 5 := hyl
  have e0 : DataW.trod enc Tryz.prog W 0 (fun _ => true) true n 3 ((cs.drop 0).take (Tryz.prog.cellsOf 3)) = ys[0]? := hf 0 _ rfl
  rw [cellsOf_int, List.getElem?_eq_getElem (by omega)] at e0
  obtain ⟨i0, p0, q0⟩ := int_of_trod e0
  have e1 : DataW.trod enc Tryz.prog W 0 (fun _ => true) true n 3 ((cs.drop 1).take (Tryz.prog.cellsOf 3)) = ys[1]? := hf 1 _ rfl
  rw [cellsOf_int, List.getElem?_eq_getElem (by omega)] at e1
  obtain ⟨i1, p1, q1⟩ := int_of_trod e1
  have e2 : DataW.trod enc Tryz.prog W 0 (fun _ => true) true n 3 ((cs.drop 2).take (Tryz.prog.cellsOf 3)) = ys[2]? := hf 2 _ rfl
  rw [cellsOf_int, List.getElem?_eq_getElem (by omega)] at e2
  obtain ⟨i2, p2, q2⟩ := int_of_trod e2
  have e3 : DataW.trod enc Tryz.prog W 0 (fun _ => true) true n 3 ((cs.drop 3).take (Tryz.prog.cellsOf 3)) = ys[3]? := hf 3 _ rfl
  rw [cellsOf_int, List.getElem?_eq_getElem (by omega)] at e3
  obtain ⟨i3, p3, q3⟩ := int_of_trod e3
  have e4 : DataW.trod enc Tryz.prog W 0 (fun _ => true) true n 3 ((cs.drop 4).take (Tryz.prog.cellsOf 3)) = ys[4]? := hf 4 _ rfl
  rw [cellsOf_int, List.getElem?_eq_getElem (by omega)] at e4
  obtain ⟨i4, p4, q4⟩ := int_of_trod e4
  refine ⟨⟨i0, i1, i2, i3, i4⟩, ?_, ⟨⟨⟨⟨q0, q1⟩, q2⟩, q3⟩, q4⟩⟩
  have hs : cs = (cs.drop 0).take 1 ++ ((cs.drop 1).take 1 ++ ((cs.drop 2).take 1 ++ ((cs.drop 3).take 1 ++ (cs.drop 4).take 1))) := by
    match cs, hcl with
    | [_, _, _, _, _], _ => rfl
  rw [hs, p0, p1, p2, p3, p4]
  rfl
theorem split10 {cs : List Value} (h : cs.length = 10) : cs = (cs.drop 0).take 1 ++ ((cs.drop 1).take 1 ++ ((cs.drop 2).take 1 ++ (((cs.drop 3).take 3 ++ ((cs.drop 6).take 3 ++ (cs.drop 9).take 1))))) := by
  match cs, h with
  | [_, _, _, _, _, _, _, _, _, _], _ => rfl
theorem hard_in {H : Type} {enc : TypeId × Value → H} {W : World} {fuel : Nat} {cs : List Value} {x : DataW H × List MemPlace} (hcl : cs.length = 10) (h : DataW.trod enc Tryz.prog W 0 (fun _ => true) true fuel 75 cs = some x) :
    ∃ q : Hq, cs = cellsH q ∧ IsPt W W.heap.size q.h.p q.a ∧ (InInt q.h.g ∧ InInt q.h.t ∧ InInt q.h.v) := by
  obtain ⟨ys, n, _, _, _, hyl, hf⟩ := DataW.trod_struct Tryz.underlying75 h
  have hyl5 : ys.length = 6 := hyl
  have e0 : DataW.trod enc Tryz.prog W 0 (fun _ => true) true n 3 ((cs.drop 0).take (Tryz.prog.cellsOf 3)) = ys[0]? := hf 0 _ rfl
  rw [cellsOf_int, List.getElem?_eq_getElem (by omega)] at e0
  obtain ⟨i0, p0, q0⟩ := int_of_trod e0
  have e1 : DataW.trod enc Tryz.prog W 0 (fun _ => true) true n 3 ((cs.drop 1).take (Tryz.prog.cellsOf 3)) = ys[1]? := hf 1 _ rfl
  rw [cellsOf_int, List.getElem?_eq_getElem (by omega)] at e1
  obtain ⟨i1, p1, q1⟩ := int_of_trod e1
  have e2 : DataW.trod enc Tryz.prog W 0 (fun _ => true) true n 3 ((cs.drop 2).take (Tryz.prog.cellsOf 3)) = ys[2]? := hf 2 _ rfl
  rw [cellsOf_int, List.getElem?_eq_getElem (by omega)] at e2
  obtain ⟨i2, p2, q2⟩ := int_of_trod e2
  have e3a : DataW.trod enc Tryz.prog W 0 (fun _ => true) true n 58 ((cs.drop 3).take (Tryz.prog.cellsOf 58)) = ys[3]? := hf 3 _ rfl
  have e3b : DataW.trod enc Tryz.prog W 0 (fun _ => true) true n 28 ((cs.drop 6).take (Tryz.prog.cellsOf 28)) = ys[4]? := hf 4 _ rfl
  have e3c : DataW.trod enc Tryz.prog W 0 (fun _ => true) true n 35 ((cs.drop 9).take (Tryz.prog.cellsOf 35)) = ys[5]? := hf 5 _ rfl
  rw [cellsOf_log, List.getElem?_eq_getElem (by omega)] at e3a
  rw [cellsOf_conf, List.getElem?_eq_getElem (by omega)] at e3b
  rw [cellsOf_bytes, List.getElem?_eq_getElem (by omega)] at e3c
  obtain ⟨pt, ad, hp, hq⟩ := pt_in (len_sub hcl (by omega)) (len_sub hcl (by omega)) e3a e3b e3c
  refine ⟨⟨⟨i0, i1, i2, pt⟩, ad⟩, ?_, hq, q0, q1, q2⟩
  rw [split10 hcl, p0, p1, p2, hp]
  rfl
theorem split17 {cs : List Value} (h : cs.length = 17) : cs = (cs.drop 0).take 1 ++ ((cs.drop 1).take 1 ++ ((cs.drop 2).take 1 ++ ((cs.drop 3).take 1 ++ ((cs.drop 4).take 1 ++ (((cs.drop 5).take 3 ++ ((cs.drop 8).take 3 ++ (cs.drop 11).take 1)) ++ (cs.drop 12).take 5))))) := by
  match cs, h with
  | [_, _, _, _, _, _, _, _, _, _, _, _, _, _, _, _, _], _ => rfl
theorem change_in {H : Type} {enc : TypeId × Value → H} {W : World} {fuel : Nat} {cs : List Value} {x : DataW H × List MemPlace} (hcl : cs.length = 17) (h : DataW.trod enc Tryz.prog W 0 (fun _ => true) true fuel 62 cs = some x) :
    ∃ q : Cq, cs = cellsC q ∧ IsPt W W.heap.size q.c.p q.a ∧ (InInt q.c.k ∧ InInt q.c.g ∧ InInt q.c.t ∧ InInt q.c.v ∧ InInt q.c.f) ∧ okV q.c.a := by
  obtain ⟨ys, n, _, _, _, hyl, hf⟩ := DataW.trod_struct Tryz.underlying62 h
  have hyl5 : ys.length = 9 := hyl
  have e0 : DataW.trod enc Tryz.prog W 0 (fun _ => true) true n 3 ((cs.drop 0).take (Tryz.prog.cellsOf 3)) = ys[0]? := hf 0 _ rfl
  rw [cellsOf_int, List.getElem?_eq_getElem (by omega)] at e0
  obtain ⟨i0, p0, q0⟩ := int_of_trod e0
  have e1 : DataW.trod enc Tryz.prog W 0 (fun _ => true) true n 3 ((cs.drop 1).take (Tryz.prog.cellsOf 3)) = ys[1]? := hf 1 _ rfl
  rw [cellsOf_int, List.getElem?_eq_getElem (by omega)] at e1
  obtain ⟨i1, p1, q1⟩ := int_of_trod e1
  have e2 : DataW.trod enc Tryz.prog W 0 (fun _ => true) true n 3 ((cs.drop 2).take (Tryz.prog.cellsOf 3)) = ys[2]? := hf 2 _ rfl
  rw [cellsOf_int, List.getElem?_eq_getElem (by omega)] at e2
  obtain ⟨i2, p2, q2⟩ := int_of_trod e2
  have e3 : DataW.trod enc Tryz.prog W 0 (fun _ => true) true n 3 ((cs.drop 3).take (Tryz.prog.cellsOf 3)) = ys[3]? := hf 3 _ rfl
  rw [cellsOf_int, List.getElem?_eq_getElem (by omega)] at e3
  obtain ⟨i3, p3, q3⟩ := int_of_trod e3
  have e4 : DataW.trod enc Tryz.prog W 0 (fun _ => true) true n 3 ((cs.drop 4).take (Tryz.prog.cellsOf 3)) = ys[4]? := hf 4 _ rfl
  rw [cellsOf_int, List.getElem?_eq_getElem (by omega)] at e4
  obtain ⟨i4, p4, q4⟩ := int_of_trod e4
  have e5a : DataW.trod enc Tryz.prog W 0 (fun _ => true) true n 58 ((cs.drop 5).take (Tryz.prog.cellsOf 58)) = ys[5]? := hf 5 _ rfl
  have e5b : DataW.trod enc Tryz.prog W 0 (fun _ => true) true n 28 ((cs.drop 8).take (Tryz.prog.cellsOf 28)) = ys[6]? := hf 6 _ rfl
  have e5c : DataW.trod enc Tryz.prog W 0 (fun _ => true) true n 35 ((cs.drop 11).take (Tryz.prog.cellsOf 35)) = ys[7]? := hf 7 _ rfl
  rw [cellsOf_log, List.getElem?_eq_getElem (by omega)] at e5a
  rw [cellsOf_conf, List.getElem?_eq_getElem (by omega)] at e5b
  rw [cellsOf_bytes, List.getElem?_eq_getElem (by omega)] at e5c
  obtain ⟨pt, ad, hp, hq⟩ := pt_in (len_sub hcl (by omega)) (len_sub hcl (by omega)) e5a e5b e5c
  have e8 : DataW.trod enc Tryz.prog W 0 (fun _ => true) true n 60 ((cs.drop 12).take (Tryz.prog.cellsOf 60)) = ys[8]? := hf 8 _ rfl
  rw [cellsOf_vote, List.getElem?_eq_getElem (by omega)] at e8
  obtain ⟨vt, hv, hw⟩ := vote_in (len_sub hcl (by omega)) e8
  refine ⟨⟨⟨i0, i1, i2, i3, i4, pt, vt⟩, ad⟩, ?_, hq, ⟨q0, q1, q2, q3, q4⟩, hw⟩
  rw [split17 hcl, p0, p1, p2, p3, p4, hp, hv]
  rfl
theorem hards_in {H : Type} {enc : TypeId × Value → H} {W : World} {fuel : Nat} {cs : List Value} {x : DataW H × List MemPlace} (h : DataW.trod enc Tryz.prog W 0 (fun _ => true) true fuel 22 cs = some x) :
    ∃ (a : Option Addr) (c : Nat) (L : List Hq), cs = [.slice a L.length c] ∧ IsHds W W.heap.size a L ∧ (L.length ≤ c ∧ c ≤ maxLen) ∧ (a = none → c = 0) := by
  rcases open_slice Tryz.underlying22 h with ⟨hcs, _⟩ | ⟨a, len, cap, m, n, D, Pl, hcs, _, hl, hm, hmm, _, hi⟩
  · exact ⟨none, 0, [], hcs, ⟨IsRow.nil, by simp, by simp⟩, ⟨Nat.le_refl _, Nat.zero_le _⟩, fun _ => rfl⟩
  · simp only [if_true] at hmm
    subst hmm
    rw [cellsOf_hard] at hi
    obtain ⟨L, h1, h2, h3⟩ := rows_in (f := cellsH) (size := 10) (W := W) (a := a) (len := len) (fun q => IsPt W W.heap.size q.h.p q.a ∧ (InInt q.h.g ∧ InInt q.h.t ∧ InInt q.h.v)) (by decide) (fun i hlt => by
      obtain ⟨cs', e1, e2⟩ := hi i (by omega)
      obtain ⟨q, r1, r2⟩ := hard_in (World.cells?_some e1).2.1 e2
      exact ⟨cs', e1, q, r1, r2⟩)
    subst h1
    exact ⟨some a, _, L, hcs, ⟨h2, fun q hq => (h3 q hq).1, fun q hq => (h3 q hq).2⟩, ⟨hl, hm⟩, fun h => by cases h⟩
theorem votes_in {H : Type} {enc : TypeId × Value → H} {W : World} {fuel : Nat} {cs : List Value} {x : DataW H × List MemPlace} (h : DataW.trod enc Tryz.prog W 0 (fun _ => true) true fuel 23 cs = some x) :
    ∃ (a : Option Addr) (c : Nat) (L : List Vt), cs = [.slice a L.length c] ∧ IsVs W W.heap.size a L ∧ (L.length ≤ c ∧ c ≤ maxLen) ∧ (a = none → c = 0) := by
  rcases open_slice Tryz.underlying23 h with ⟨hcs, _⟩ | ⟨a, len, cap, m, n, D, Pl, hcs, _, hl, hm, hmm, _, hi⟩
  · exact ⟨none, 0, [], hcs, ⟨IsRow.nil, by simp⟩, ⟨Nat.le_refl _, Nat.zero_le _⟩, fun _ => rfl⟩
  · simp only [if_true] at hmm
    subst hmm
    rw [cellsOf_vote] at hi
    obtain ⟨L, h1, h2, h3⟩ := rows_in (f := cellsV) (size := 5) (W := W) (a := a) (len := len) (fun q => okV q) (by decide) (fun i hlt => by
      obtain ⟨cs', e1, e2⟩ := hi i (by omega)
      obtain ⟨q, r1, r2⟩ := vote_in (World.cells?_some e1).2.1 e2
      exact ⟨cs', e1, q, r1, r2⟩)
    subst h1
    exact ⟨some a, _, L, hcs, ⟨h2, h3⟩, ⟨hl, hm⟩, fun h => by cases h⟩
theorem changes_in {H : Type} {enc : TypeId × Value → H} {W : World} {fuel : Nat} {cs : List Value} {x : DataW H × List MemPlace} (h : DataW.trod enc Tryz.prog W 0 (fun _ => true) true fuel 45 cs = some x) :
    ∃ (a : Option Addr) (c : Nat) (L : List Cq), cs = [.slice a L.length c] ∧ IsCs W W.heap.size a L ∧ (L.length ≤ c ∧ c ≤ maxLen) ∧ (a = none → c = 0) := by
  rcases open_slice Tryz.underlying45 h with ⟨hcs, _⟩ | ⟨a, len, cap, m, n, D, Pl, hcs, _, hl, hm, hmm, _, hi⟩
  · exact ⟨none, 0, [], hcs, ⟨IsRow.nil, by simp, by simp⟩, ⟨Nat.le_refl _, Nat.zero_le _⟩, fun _ => rfl⟩
  · simp only [if_true] at hmm
    subst hmm
    rw [cellsOf_change] at hi
    obtain ⟨L, h1, h2, h3⟩ := rows_in (f := cellsC) (size := 17) (W := W) (a := a) (len := len) (fun q => IsPt W W.heap.size q.c.p q.a ∧ (InInt q.c.k ∧ InInt q.c.g ∧ InInt q.c.t ∧ InInt q.c.v ∧ InInt q.c.f) ∧ okV q.c.a) (by decide) (fun i hlt => by
      obtain ⟨cs', e1, e2⟩ := hi i (by omega)
      obtain ⟨q, r1, r2⟩ := change_in (World.cells?_some e1).2.1 e2
      exact ⟨cs', e1, q, r1, r2⟩)
    subst h1
    exact ⟨some a, _, L, hcs, ⟨h2, fun q hq => (h3 q hq).1, fun q hq => (h3 q hq).2⟩, ⟨hl, hm⟩, fun h => by cases h⟩
structure ImIs (w : World) (B : Nat) (i : Ia) (Q : List Hq) (L : List Vt) : Prop where
  h : IsHds w B i.h Q
  v : IsVs w B i.v L
  rh : (Q.length ≤ i.ch ∧ i.ch ≤ maxLen) ∧ (i.h = none → i.ch = 0)
  rv : (L.length ≤ i.cv ∧ i.cv ≤ maxLen) ∧ (i.v = none → i.cv = 0)
theorem ImIs.below {w w' : World} {B : Nat} {i : Ia} {Q : List Hq} {L : List Vt} (h : ImIs w B i Q L) (hb : Below B w w') : ImIs w' B i Q L := ⟨h.h.below hb, h.v.below hb, h.rh, h.rv⟩
theorem ImIs.more {w : World} {B B' : Nat} {i : Ia} {Q : List Hq} {L : List Vt} (h : ImIs w B i Q L) (hB : B ≤ B') : ImIs w B' i Q L := ⟨h.h.more hB, h.v.more hB, h.rh, h.rv⟩
structure ChIs (w : World) (B : Nat) (c : Ch) (a : Ad) : Prop where
  pt : IsPt w B c.p a
  num : (InInt c.k ∧ InInt c.g ∧ InInt c.t ∧ InInt c.v ∧ InInt c.f) ∧ okV c.a
theorem ChIs.below {w w' : World} {B : Nat} {c : Ch} {a : Ad} (h : ChIs w B c a) (hb : Below B w w') : ChIs w' B c a := ⟨h.pt.below hb, h.num⟩
theorem ChIs.more {w : World} {B B' : Nat} {c : Ch} {a : Ad} (h : ChIs w B c a) (hB : B ≤ B') : ChIs w B' c a := ⟨h.pt.more hB, h.num⟩
theorem image_open {H : Type} {enc : TypeId × Value → H} {W : World} {cs : Array Value} {d : DataW H} {p : List MemPlace} (hsz : cs.size = Tryz.prog.cellsOf 25) (h : DataW.Trod enc Tryz.prog W 0 (fun _ => true) true 25 (.agg cs) d p) :
    ∃ (i : Ia) (Q : List Hq) (L : List Vt), cs = #[.slice i.h Q.length i.ch, .slice i.v L.length i.cv] ∧ ImIs W W.heap.size i Q L := by
  obtain ⟨fuel, hf⟩ := h
  rw [cellsOf_image] at hsz
  have hf : DataW.trod enc Tryz.prog W 0 (fun _ => true) true fuel 25 cs.toList = some (d, p) := hf
  have hcl : cs.toList.length = 2 := by simpa using hsz
  obtain ⟨ys, n, _, _, _, hyl, hg⟩ := DataW.trod_struct Tryz.underlying25 hf
  have hyl2 : ys.length = 2 := hyl
  have e0 : DataW.trod enc Tryz.prog W 0 (fun _ => true) true n 22 ((cs.toList.drop 0).take (Tryz.prog.cellsOf 22)) = ys[0]? := hg 0 _ rfl
  have e1 : DataW.trod enc Tryz.prog W 0 (fun _ => true) true n 23 ((cs.toList.drop 1).take (Tryz.prog.cellsOf 23)) = ys[1]? := hg 1 _ rfl
  rw [cellsOf_hards, List.getElem?_eq_getElem (by omega)] at e0
  rw [cellsOf_votes, List.getElem?_eq_getElem (by omega)] at e1
  obtain ⟨a0, c0, Q, p1, p2, p3, p4⟩ := hards_in e0
  obtain ⟨a1, c1, L, q1, q2, q3, q4⟩ := votes_in e1
  refine ⟨⟨a0, c0, a1, c1⟩, Q, L, ?_, ⟨p2, q2, ⟨p3, p4⟩, ⟨q3, q4⟩⟩⟩
  have hs : cs.toList = (cs.toList.drop 0).take 1 ++ (cs.toList.drop 1).take 1 := by
    match cs.toList, hcl with
    | [_, _], _ => rfl
  rw [← Array.toArray_toList (xs := cs), hs, p1, q1]
  rfl
end Go.Proofs.YtaeoccpjdjafnaaGreat.Im
namespace Go.Proofs.YtaeoccpjdjafnaaGreat.Im
open Go Go.RowKit
open Rl (En Lg)
open Qu (Cf)
set_option maxRecDepth 100000
set_option linter.unusedVariables false
attribute [local go_sem ↓] loadAt_change storeAt_change loadAt_vote storeAt_vote loadAt_log1 storeAt_log1 loadAt_conf3 storeAt_conf3
theorem ldVoteC {w : World} {x : Ch} {a : Ad} {t : TypeId} {b : Nat} (h : w.heap[b]? = some (.cells #[.int .i64 x.k, .int .i64 x.g, .int .i64 x.t, .int .i64 x.v, .int .i64 x.f, .int .i64 x.p.log.base, .int .i64 x.p.log.term, .slice a.e x.p.log.es.length a.ce, .slice a.o x.p.cf.old.length a.co, .slice a.n x.p.cf.new.length a.cn, .slice a.l x.p.cf.lrn.length a.cl, .slice a.s x.p.sn.length a.cs, .int .i64 x.a.x, .int .i64 x.a.p, .int .i64 x.a.r, .int .i64 x.a.b, .int .i64 x.a.v] t (0, 0))) :
    (ldX 60 (.pointer (some ⟨b, 12, none⟩))).run Tryz.prog w = .ok (.agg #[.int .i64 x.a.x, .int .i64 x.a.p, .int .i64 x.a.r, .int .i64 x.a.b, .int .i64 x.a.v]) w :=
  ldV w b 12 [.int .i64 x.a.x, .int .i64 x.a.p, .int .i64 x.a.r, .int .i64 x.a.b, .int .i64 x.a.v] rfl (fun j v hv => by
    rw [row_cell h (12 + j)]
    rcases j with _ | _ | _ | _ | _ | j
    · simpa using hv
    · simpa using hv
    · simpa using hv
    · simpa using hv
    · simpa using hv
    · simp at hv)
set_option maxHeartbeats 1600000 in
theorem sameC_any (x : Ch) (a a' : Ad) (hf : FewK x.p) (w : World) (h : IsPt w w.heap.size x.p a) (h' : IsPt w w.heap.size x.p a') :
    Calls Tryz.prog 39 #[.agg #[.int .i64 x.k, .int .i64 x.g, .int .i64 x.t, .int .i64 x.v, .int .i64 x.f, .int .i64 x.p.log.base, .int .i64 x.p.log.term, .slice a.e x.p.log.es.length a.ce, .slice a.o x.p.cf.old.length a.co, .slice a.n x.p.cf.new.length a.cn, .slice a.l x.p.cf.lrn.length a.cl, .slice a.s x.p.sn.length a.cs, .int .i64 x.a.x, .int .i64 x.a.p, .int .i64 x.a.r, .int .i64 x.a.b, .int .i64 x.a.v], .agg #[.int .i64 x.k, .int .i64 x.g, .int .i64 x.t, .int .i64 x.v, .int .i64 x.f, .int .i64 x.p.log.base, .int .i64 x.p.log.term, .slice a'.e x.p.log.es.length a'.ce, .slice a'.o x.p.cf.old.length a'.co, .slice a'.n x.p.cf.new.length a'.cn, .slice a'.l x.p.cf.lrn.length a'.cl, .slice a'.s x.p.sn.length a'.cs, .int .i64 x.a.x, .int .i64 x.a.p, .int .i64 x.a.r, .int .i64 x.a.b, .int .i64 x.a.v]] w fun e w' => e = .returned (.bool true) ∧ Below w.heap.size w w' := by
  obtain ⟨wA, hwA⟩ : ∃ wA, wA = (w.alloc (.cells #[.int .i64 x.k, .int .i64 x.g, .int .i64 x.t, .int .i64 x.v, .int .i64 x.f, .int .i64 x.p.log.base, .int .i64 x.p.log.term, .slice a.e x.p.log.es.length a.ce, .slice a.o x.p.cf.old.length a.co, .slice a.n x.p.cf.new.length a.cn, .slice a.l x.p.cf.lrn.length a.cl, .slice a.s x.p.sn.length a.cs, .int .i64 x.a.x, .int .i64 x.a.p, .int .i64 x.a.r, .int .i64 x.a.b, .int .i64 x.a.v] 62)).alloc (.cells #[.int .i64 x.k, .int .i64 x.g, .int .i64 x.t, .int .i64 x.v, .int .i64 x.f, .int .i64 x.p.log.base, .int .i64 x.p.log.term, .slice a'.e x.p.log.es.length a'.ce, .slice a'.o x.p.cf.old.length a'.co, .slice a'.n x.p.cf.new.length a'.cn, .slice a'.l x.p.cf.lrn.length a'.cl, .slice a'.s x.p.sn.length a'.cs, .int .i64 x.a.x, .int .i64 x.a.p, .int .i64 x.a.r, .int .i64 x.a.b, .int .i64 x.a.v] 62) := ⟨_, rfl⟩
  have hbA : Below w.heap.size w wA := by rw [hwA]; exact ((Below.refl _ w).alloc (Nat.le_refl _) _).alloc (by simp) _
  have r0 : wA.heap[w.heap.size]? = some (.cells #[.int .i64 x.k, .int .i64 x.g, .int .i64 x.t, .int .i64 x.v, .int .i64 x.f, .int .i64 x.p.log.base, .int .i64 x.p.log.term, .slice a.e x.p.log.es.length a.ce, .slice a.o x.p.cf.old.length a.co, .slice a.n x.p.cf.new.length a.cn, .slice a.l x.p.cf.lrn.length a.cl, .slice a.s x.p.sn.length a.cs, .int .i64 x.a.x, .int .i64 x.a.p, .int .i64 x.a.r, .int .i64 x.a.b, .int .i64 x.a.v] 62 (0, 0)) := by rw [hwA, heap_alloc_old _ _ (by simp)]; exact heap_alloc_new w _
  have r1 : wA.heap[w.heap.size + 1]? = some (.cells #[.int .i64 x.k, .int .i64 x.g, .int .i64 x.t, .int .i64 x.v, .int .i64 x.f, .int .i64 x.p.log.base, .int .i64 x.p.log.term, .slice a'.e x.p.log.es.length a'.ce, .slice a'.o x.p.cf.old.length a'.co, .slice a'.n x.p.cf.new.length a'.cn, .slice a'.l x.p.cf.lrn.length a'.cl, .slice a'.s x.p.sn.length a'.cs, .int .i64 x.a.x, .int .i64 x.a.p, .int .i64 x.a.r, .int .i64 x.a.b, .int .i64 x.a.v] 62 (0, 0)) := by
    have := heap_alloc_new (w.alloc (.cells #[.int .i64 x.k, .int .i64 x.g, .int .i64 x.t, .int .i64 x.v, .int .i64 x.f, .int .i64 x.p.log.base, .int .i64 x.p.log.term, .slice a.e x.p.log.es.length a.ce, .slice a.o x.p.cf.old.length a.co, .slice a.n x.p.cf.new.length a.cn, .slice a.l x.p.cf.lrn.length a.cl, .slice a.s x.p.sn.length a.cs, .int .i64 x.a.x, .int .i64 x.a.p, .int .i64 x.a.r, .int .i64 x.a.b, .int .i64 x.a.v] 62)) (.cells #[.int .i64 x.k, .int .i64 x.g, .int .i64 x.t, .int .i64 x.v, .int .i64 x.f, .int .i64 x.p.log.base, .int .i64 x.p.log.term, .slice a'.e x.p.log.es.length a'.ce, .slice a'.o x.p.cf.old.length a'.co, .slice a'.n x.p.cf.new.length a'.cn, .slice a'.l x.p.cf.lrn.length a'.cl, .slice a'.s x.p.sn.length a'.cs, .int .i64 x.a.x, .int .i64 x.a.p, .int .i64 x.a.r, .int .i64 x.a.b, .int .i64 x.a.v] 62)
    rw [World.size_alloc, ← hwA] at this
    exact this
  have hA := (h.below hbA).more hbA.size
  have hA' := (h'.below hbA).more hbA.size
  have HL := hid ((log_same x.p.log x.p.log a.e a'.e a.ce a'.ce (by have := hf.es; omega) wA hA.es hA'.es).mono (fun e w' hh => (⟨by rw [hh.1, decide_eq_true rfl], hh.2⟩ : e = .returned (.bool true) ∧ Below wA.heap.size wA w')))
  have c0 := row_cell r0 0
  have c1 := row_cell r0 1
  have c2 := row_cell r0 2
  have c3 := row_cell r0 3
  have c4 := row_cell r0 4
  have d0 := row_cell r1 0
  have d1 := row_cell r1 1
  have d2 := row_cell r1 2
  have d3 := row_cell r1 3
  have d4 := row_cell r1 4
  have l0 := ldLogH (k := 5) r0 rfl rfl rfl
  have l1 := ldLogH (k := 5) r1 rfl rfl rfl
  rw [hwA] at c0 c1 c2 c3 c4 d0 d1 d2 d3 d4 l0 l1
  have HX := hid (And.intro r0 (And.intro r1 (And.intro hbA (And.intro h (And.intro h' hf)))))
  clear r0 r1 hbA h h' hA hA' hf
  go_enter Tryz.func39, Tryz.ntmps39
  go_wp2_with fail
  rw [← hwA]
  clear hwA c0 c1 c2 c3 c4 d0 d1 d2 d3 d4 l0 l1
  refine HL.out.mono ?_
  rintro e w1 ⟨rfl, hb1⟩
  have r01 := (hb1.block _ (row_lt HX.out.1)).trans HX.out.1
  have r11 := (hb1.block _ (row_lt HX.out.2.1)).trans HX.out.2.1
  have hbw1 := HX.out.2.2.1.trans (hb1.mono HX.out.2.2.1.size)
  have l2 := ldConfH (k := 8) r01 rfl rfl rfl
  have l3 := ldConfH (k := 8) r11 rfl rfl rfl
  have HC := hid (sameConf_any w1.heap.size w1.heap.size x.p.cf x.p.cf HX.out.2.2.2.2.2.sh HX.out.2.2.2.2.2.sh _ _ _ _ _ _ _ _ _ _ _ _ w1 ((HX.out.2.2.2.1.below hbw1).more hbw1.size).cis ((HX.out.2.2.2.2.1.below hbw1).more hbw1.size).cis (Nat.le_refl _) (Nat.le_refl _) rfl)
  have HB1 := hid (And.intro r01 (And.intro r11 hbw1))
  clear r01 r11 hbw1 hb1
  go_wp2_with fail
  refine HC.out.mono ?_
  rintro e w2 ⟨rfl, hb2⟩
  have r02 := (hb2.block _ (row_lt HB1.out.1)).trans HB1.out.1
  have r12 := (hb2.block _ (row_lt HB1.out.2.1)).trans HB1.out.2.1
  have hbw2 := HB1.out.2.2.trans (hb2.mono HB1.out.2.2.size)
  have c9 : w2.cell? ⟨w.heap.size, 11, none⟩ = some (.slice a.s x.p.sn.length a.cs) := row_cell r02 11
  have d9 : w2.cell? ⟨w.heap.size + 1, 11, none⟩ = some (.slice a'.s x.p.sn.length a'.cs) := row_cell r12 11
  have hrs := HX.out.2.2.2.1.rs.1
  have HS := hid (same_T w2.heap.size w2.heap.size a.s a'.s a.cs a'.cs x.p.sn x.p.sn.length rfl (Nat.le_trans hrs.1 hrs.2) w2 ((HX.out.2.2.2.1.below hbw2).more hbw2.size).s ((HX.out.2.2.2.2.1.below hbw2).more hbw2.size).s)
  have HB2 := hid (And.intro hbw2 (And.intro r02 r12))
  clear r02 r12 hbw2 hb2 hrs l2 l3
  go_wp2_with fail
  refine HS.out.mono ?_
  rintro e w3 ⟨rfl, n3, rfl⟩
  have hbd := below_drewN (Below.refl w2.heap.size w2) n3
  have l4 := ldVoteC ((hbd.block _ (row_lt HB2.out.2.1)).trans HB2.out.2.1)
  have l5 := ldVoteC ((hbd.block _ (row_lt HB2.out.2.2)).trans HB2.out.2.2)
  clear hbd
  go_wp2_with fail
  go_ret
  exact ⟨rfl, below_drewN HB2.out.1 _⟩
end Go.Proofs.YtaeoccpjdjafnaaGreat.Im
namespace Go.Proofs.YtaeoccpjdjafnaaGreat.Im
open Go Go.RowKit
open Rl (En Lg)
open Qu (Cf)
set_option maxRecDepth 100000
set_option linter.unusedVariables false
local instance lo13 : Lo := ⟨0⟩
theorem pt_lens {p : Pt} (h : bigPt p = false) : p.log.es.length ≤ 100 ∧ weigh p.log.es ≤ 16384 ∧ p.cf.old.length ≤ 100 ∧ p.cf.new.length ≤ 100 ∧ p.cf.lrn.length ≤ 100 ∧ p.sn.length ≤ 16384 := by
  unfold bigPt bigCf big at h
  simp only [Bool.or_eq_false_iff, decide_eq_false_iff_not] at h
  obtain ⟨⟨⟨h1, h2⟩, ⟨h3, h4⟩, h5⟩, h6⟩ := h
  exact ⟨by omega, by omega, by omega, by omega, by omega, by omega⟩
theorem weigh_flat (L : List En) : (L.flatMap encE).length = 24 * L.length + weigh L := by
  induction L with
  | nil => rfl
  | cons e L ih =>
    rw [List.flatMap_cons, List.length_append, ih, List.length_cons]
    have h1 : (encE e).length = 24 + e.d.length := by
      unfold encE encB
      simp only [List.length_append, Pk.enc_length]; omega
    have h2 : weigh (e :: L) = e.d.length + weigh L := by unfold weigh; simp
    rw [h1, h2]; omega
theorem pt_len {p : Pt} (h : bigPt p = false) : (encPt p).length ≤ 40000 := by
  obtain ⟨h1, h2, h3, h4, h5, h6⟩ := pt_lens h
  rw [encPt_length, weigh_flat]; omega
theorem pt_sz {p : Pt} (h : bigPt p = false) : Sz p := by
  obtain ⟨h1, h2, h3, h4, h5, h6⟩ := pt_lens h
  exact ⟨by omega, fun e he => by have := weigh_mem he; omega, by omega, by omega, by omega, by omega⟩
theorem pt_fewK {p : Pt} (h : bigPt p = false) : FewK p := by
  obtain ⟨h1, h2, h3, h4, h5, h6⟩ := pt_lens h
  exact ⟨by omega, ⟨by omega, by omega, by omega⟩⟩
theorem ents_small {w : World} {B : Nat} {A : Option Addr} {L : List En} (h : IsEnts w B A L) : ∀ e ∈ L, ∀ x ∈ e.d, x < 256 := by
  intro e he
  obtain ⟨k, hk, rfl⟩ := List.mem_iff_getElem.1 he
  obtain ⟨b, off, _, _, hc⟩ := h.cells k hk
  obtain ⟨_, _, _, _, _, hd, _⟩ := hc k hk
  exact hd.small
theorem pt_ok {w : World} {B : Nat} {p : Pt} {a : Ad} (h : IsPt w B p a) (hb : bigPt p = false) : okPt 10000000 p := by
  obtain ⟨h1, h2, h3, h4, h5, h6⟩ := pt_lens hb
  exact ⟨⟨⟨h.num, fun e he => ⟨h.es.num e he, ents_small h.es e he, by have := weigh_mem he; omega⟩, by omega⟩, ⟨⟨h.o.small, by omega⟩, ⟨h.n.small, by omega⟩⟩, ⟨h.l.small, by omega⟩⟩, h.s.small, by omega⟩
theorem few_of {Q : List Hq} {L : List Vt} (h : fewI Q L = true) : Q.length ≤ 40 ∧ L.length ≤ 200 ∧ ∀ q ∈ Q, bigPt q.h.p = false := by
  unfold fewI bigHs at h
  simp only [Bool.and_eq_true, Bool.not_eq_true', Bool.or_eq_false_iff, decide_eq_false_iff_not, List.any_eq_false, Bool.not_eq_true] at h
  exact ⟨by omega, by omega, fun q hq => by simpa using h.2 q hq⟩
theorem flatN_le {α : Type} (f : α → List Nat) (n : Nat) (L : List α) (h : ∀ x ∈ L, (f x).length ≤ n) : (L.flatMap f).length ≤ L.length * n := by
  induction L with
  | nil => simp
  | cons x L ih =>
    rw [List.flatMap_cons, List.length_append, List.length_cons, Nat.succ_mul]
    have h1 := h x List.mem_cons_self
    have h2 := ih (fun y hy => h y (List.mem_cons_of_mem _ hy))
    omega
theorem encV_len (v : Vt) : (encV v).length = 40 := by
  unfold encV; simp only [List.length_append, Pk.enc_length]
theorem encC_len {c : Ch} (hb : bigPt c.p = false) : (encC c).length ≤ 40080 := by
  unfold encC
  simp only [List.length_append, Pk.enc_length, encV_len]
  have := pt_len hb
  omega
structure FewX (Q : List Hq) (L : List Vt) : Prop where
  hq : Q.length ≤ 40
  lv : L.length ≤ 200
  sz : ∀ q ∈ Q, Sz q.h.p
  fk : ∀ q ∈ Q, FewK q.h.p
  ok : okIm 10000000 ⟨Q.map (·.h), L⟩
  len : 8 + (Q.flatMap encHq).length + (8 + (L.flatMap encV).length) = (encIm ⟨Q.map (·.h), L⟩).length
  big : (encIm ⟨Q.map (·.h), L⟩).length ≤ 2000000
  low : 16 ≤ (encIm ⟨Q.map (·.h), L⟩).length
structure FewCs (M : List Cq) : Prop where
  hq : M.length ≤ 20
  sz : ∀ q ∈ M, Sz q.c.p
  fk : ∀ q ∈ M, FewK q.c.p
  ok : okCs 10000000 (M.map (·.c))
  len : 8 + (M.flatMap encCq).length = (encL encC (M.map (·.c))).length
  big : (encL encC (M.map (·.c))).length ≤ 2000000
  low : 8 ≤ (encL encC (M.map (·.c))).length
theorem fewCs_of {w : World} {B : Nat} {A : Option Addr} {M : List Cq} (h : IsCs w B A M) (h1 : M.length ≤ 20) (h3 : ∀ q ∈ M, bigPt q.c.p = false) : FewCs M := by
  have hl := cs_len M rfl
  have hq : (M.flatMap encCq).length ≤ M.length * 40080 := flatN_le encCq 40080 M (fun q hq => encC_len (h3 q hq))
  have m1 : M.length * 40080 ≤ 20 * 40080 := Nat.mul_le_mul_right _ h1
  refine ⟨h1, fun q hq => pt_sz (h3 q hq), fun q hq => pt_fewK (h3 q hq), ⟨fun x hx => ?_, ?_⟩, hl, by omega, by omega⟩
  · obtain ⟨q, hq, rfl⟩ := List.mem_map.1 hx
    obtain ⟨⟨n1, n2, n3, n4, n5⟩, n6⟩ := h.num q hq
    exact ⟨⟨⟨⟨⟨⟨n1, n2⟩, n3⟩, n4⟩, n5⟩, pt_ok (h.pt q hq) (h3 q hq)⟩, n6⟩
  · rw [List.length_map]; omega
end Go.Proofs.YtaeoccpjdjafnaaGreat.Im
namespace Go.Proofs.YtaeoccpjdjafnaaGreat.Im
open Go Go.RowKit
open Rl (En Lg)
open Qu (Cf)
set_option maxRecDepth 100000
set_option linter.unusedVariables false
local instance lo15 : Lo := ⟨0⟩
attribute [local go_sem ↓] loadAt_vote storeAt_vote loadAt_hard storeAt_hard loadAt_change storeAt_change
def PtIn (w : World) (B N : Nat) (p : Pt) (a : Ad) : Prop := OwnE w B N a.e a.ce p.log.es ∧ (OwnsI 3 w B a.o a.co p.cf.old ∧ ∀ k, blk a.o = some k → k < N) ∧ (OwnsI 3 w B a.n a.cn p.cf.new ∧ ∀ k, blk a.n = some k → k < N) ∧ (OwnsI 3 w B a.l a.cl p.cf.lrn ∧ ∀ k, blk a.l = some k → k < N) ∧ (OwnsB 5 w B a.s a.cs p.sn ∧ ∀ k, blk a.s = some k → k < N) ∧ (InInt p.log.base ∧ InInt p.log.term)
theorem OwnPt.ptIn {w : World} {B N : Nat} {p : Pt} {a : Ad} (h : OwnPt w B N p a) : PtIn w B N p a := by
  obtain ⟨m0, m1, m2, m3, ⟨c0, c1, c2, c3, c4⟩, h1, h2, h3, h4, h5, h6⟩ := h
  exact ⟨h1.wide (Nat.le_refl _) (by omega), ⟨h2.1.weaken c0, fun k hk => by have := h2.2 k hk; omega⟩, ⟨h3.1.weaken (by omega), fun k hk => by have := h3.2 k hk; omega⟩, ⟨h4.1.weaken (by omega), fun k hk => by have := h4.2 k hk; omega⟩, ⟨h5.1.weaken (by omega), h5.2⟩, h6⟩
namespace PtIn
variable {w w' : World} {B B' N N' : Nat} {p : Pt} {a : Ad}
theorem kp (h : PtIn w B N p a) (hk : Kp Parts w w') : PtIn w' B N p a := by
  obtain ⟨h1, h2, h3, h4, h5, h6⟩ := h
  exact ⟨hk.ownE (.inl rfl) (.inr (.inl rfl)) h1, ⟨hk.ownI (.inr (.inr rfl)) h2.1, h2.2⟩, ⟨hk.ownI (.inr (.inr rfl)) h3.1, h3.2⟩, ⟨hk.ownI (.inr (.inr rfl)) h4.1, h4.2⟩, ⟨hk.ownB (.inr (.inl rfl)) h5.1, h5.2⟩, h6⟩
theorem wide (h : PtIn w B N p a) (hB : B' ≤ B) (hN : N ≤ N') : PtIn w B' N' p a := by
  obtain ⟨h1, h2, h3, h4, h5, h6⟩ := h
  exact ⟨h1.wide hB hN, ⟨h2.1.weaken hB, fun k hk => by have := h2.2 k hk; omega⟩, ⟨h3.1.weaken hB, fun k hk => by have := h3.2 k hk; omega⟩, ⟨h4.1.weaken hB, fun k hk => by have := h4.2 k hk; omega⟩, ⟨h5.1.weaken hB, fun k hk => by have := h5.2 k hk; omega⟩, h6⟩
theorem keep {S : Nat → Prop} (h : PtIn w B N p a) (ht : Turned S w w') (hs : ∀ k, S k → ¬ Bl B N k) : PtIn w' B N p a := by
  obtain ⟨h1, h2, h3, h4, h5, h6⟩ := h
  have kB : ∀ {A : Option Addr}, (∀ k, blk A = some k → B ≤ k) → (∀ k, blk A = some k → k < N) → ∀ k, blk A = some k → ¬ S k := fun h3 h4 k hk hS => hs k hS ⟨h3 k hk, h4 k hk⟩
  exact ⟨h1.keep ht hs, ⟨ownsI_turned h2.1 ht (kB (fun k hk => (h2.1.blkLt k hk).1) h2.2), h2.2⟩, ⟨ownsI_turned h3.1 ht (kB (fun k hk => (h3.1.blkLt k hk).1) h3.2), h3.2⟩, ⟨ownsI_turned h4.1 ht (kB (fun k hk => (h4.1.blkLt k hk).1) h4.2), h4.2⟩, ⟨h5.1.turned ht (kB (fun k hk => (h5.1.blkLt k hk).1) h5.2), h5.2⟩, h6⟩
theorem below (h : PtIn w B N p a) (hb : Below N w w') : PtIn w' B N p a :=
  h.keep (S := fun k => N ≤ k) ⟨hb.os, hb.tape, hb.output, hb.size, fun k _ hn => hb.block k (by omega)⟩ (fun k hk hB => by have := hB.2; omega)
theorem reads (h : PtIn w B N p a) : IsPt w N p a := by
  obtain ⟨h1, h2, h3, h4, h5, h6⟩ := h
  exact ⟨h1.reads, isInts_lower h2.1.reads h2.2, isInts_lower h3.1.reads h3.2, isInts_lower h4.1.reads h4.2, isBytes_lower h5.1.reads h5.2, ⟨h1.room, h1.none_⟩, ownsI_room h2.1, ownsI_room h3.1, ownsI_room h4.1, ownsB_room h5.1, h6⟩
end PtIn
structure InHs (w : World) (B N : Nat) (A : Option Addr) (c : Nat) (M : List Hq) : Prop where
  row : RowIn cellsH 10 75 w (Bl B N) A c M
  pts : ∀ q ∈ M, PtIn w B N q.h.p q.a
  num : ∀ q ∈ M, InInt q.h.g ∧ InInt q.h.t ∧ InInt q.h.v
namespace InHs
variable {w w' : World} {B B' N N' : Nat} {A : Option Addr} {c : Nat} {M : List Hq}
theorem nil (w : World) (B N : Nat) : InHs w B N none 0 [] := ⟨RowIn.nil cellsH_fits _ _ _, by simp, by simp⟩
theorem keep {S : Nat → Prop} (h : InHs w B N A c M) (ht : Turned S w w') (hs : ∀ k, S k → ¬ Bl B N k) : InHs w' B N A c M := ⟨h.row.keep ht (fun k hk hS => hs k hS (h.row.blk k hk)), fun q hq => (h.pts q hq).keep ht hs, h.num⟩
theorem below (h : InHs w B N A c M) (hb : Below N w w') : InHs w' B N A c M :=
  h.keep (S := fun k => N ≤ k) ⟨hb.os, hb.tape, hb.output, hb.size, fun k _ hn => hb.block k (by omega)⟩ (fun k hk hB => by have := hB.2; omega)
theorem wide (h : InHs w B N A c M) (hB : B' ≤ B) (hN : N ≤ N') : InHs w B' N' A c M := ⟨h.row.mono (fun k hk => ⟨Nat.le_trans hB (h.row.blk k hk).1, Nat.lt_of_lt_of_le (h.row.blk k hk).2 hN⟩), fun q hq => (h.pts q hq).wide hB hN, h.num⟩
theorem reads (h : InHs w B N A c M) : IsHds w N A M := by
  refine ⟨⟨fun k hk => ?_⟩, fun q hq => (h.pts q hq).reads, h.num⟩
  obtain ⟨g, hA, hg, hF, hc, _⟩ := h.row.get k hk
  refine ⟨g, 0, hA, hF.2, fun i hi j v hv => ?_⟩
  obtain ⟨g', hA', _, _, hc', _⟩ := h.row.get i hi
  obtain rfl : g = g' := by rw [hA] at hA'; injection hA' with e; injection e
  have hj : j < 10 := (List.getElem?_eq_some_iff.1 hv).1
  rw [Nat.zero_add, hc' j hj]; exact hv
theorem put {wr w4 w5 w6 : World} {n4 n5 c1 c6 : Nat} {A1 A6 : Option Addr} {L : List Hq} {x : Hq} (h : InHs wr B wr.heap.size A1 c1 L) (hB : B ≤ wr.heap.size) (hb4 : Below wr.heap.size wr w4) (ho : PtIn w4 wr.heap.size n4 x.h.p x.a) (hn4 : n4 ≤ w4.heap.size) (hn : InInt x.h.g ∧ InInt x.h.t ∧ InInt x.h.v)
    (hb5 : Below w4.heap.size w4 w5) (hrow5 : RowIn cellsH 10 75 w5 (Bl B wr.heap.size) A1 c1 L) (hn5 : w5.heap.size = n5) (hrow6 : RowIn cellsH 10 75 w6 (fun k => Bl B wr.heap.size k ∨ n5 ≤ k) A6 c6 (L ++ [x])) (hg6 : w5.grownBy w6 (Go.Proofs.YtaeoccpjdjafnaaGreat.blk A1)) :
    InHs w6 B w6.heap.size A6 c6 (L ++ [x]) := by
  have hw4 := hb4.size
  have hw5 := hb5.size
  have hw6 := hg6.size
  have kp56 : Kp Parts w5 w6 := by
    rcases hb : Go.Proofs.YtaeoccpjdjafnaaGreat.blk A1 with _ | k
    · rw [hb] at hg6
      exact Kp.ofBelow (below_grown hg6 (Nat.le_refl _) (fun j e => by cases e))
    · rw [hb] at hg6
      obtain ⟨cur, hc⟩ := hrow5.tag hb
      exact Kp.ofGrown hc (by rintro (e | e | e) <;> exact absurd e (by decide)) hg6
  refine ⟨hrow6.mono (fun k hk => ⟨?_, hrow6.lt k hk⟩), fun q hq => ?_, fun q hq => ?_⟩
  · rcases hrow6.blk k hk with e | e
    · exact e.1
    · omega
  · rcases List.mem_append.1 hq with hq | hq
    · exact ((((h.pts q hq).kp (Kp.ofBelow hb4)).kp (Kp.ofBelow hb5)).kp kp56).wide (Nat.le_refl _) (by omega)
    · obtain rfl := List.mem_singleton.1 hq
      exact ((ho.kp (Kp.ofBelow hb5)).kp kp56).wide hB (by omega)
  · rcases List.mem_append.1 hq with hq | hq
    · exact h.num q hq
    · obtain rfl := List.mem_singleton.1 hq; exact hn
end InHs
structure InCs (w : World) (B N : Nat) (A : Option Addr) (c : Nat) (M : List Cq) : Prop where
  row : RowIn cellsC 17 62 w (Bl B N) A c M
  pts : ∀ q ∈ M, PtIn w B N q.c.p q.a
  num : ∀ q ∈ M, (InInt q.c.k ∧ InInt q.c.g ∧ InInt q.c.t ∧ InInt q.c.v ∧ InInt q.c.f) ∧ okV q.c.a
namespace InCs
variable {w w' : World} {B B' N N' : Nat} {A : Option Addr} {c : Nat} {M : List Cq}
theorem nil (w : World) (B N : Nat) : InCs w B N none 0 [] := ⟨RowIn.nil cellsC_fits _ _ _, by simp, by simp⟩
theorem keep {S : Nat → Prop} (h : InCs w B N A c M) (ht : Turned S w w') (hs : ∀ k, S k → ¬ Bl B N k) : InCs w' B N A c M := ⟨h.row.keep ht (fun k hk hS => hs k hS (h.row.blk k hk)), fun q hq => (h.pts q hq).keep ht hs, h.num⟩
theorem below (h : InCs w B N A c M) (hb : Below N w w') : InCs w' B N A c M :=
  h.keep (S := fun k => N ≤ k) ⟨hb.os, hb.tape, hb.output, hb.size, fun k _ hn => hb.block k (by omega)⟩ (fun k hk hB => by have := hB.2; omega)
theorem wide (h : InCs w B N A c M) (hB : B' ≤ B) (hN : N ≤ N') : InCs w B' N' A c M := ⟨h.row.mono (fun k hk => ⟨Nat.le_trans hB (h.row.blk k hk).1, Nat.lt_of_lt_of_le (h.row.blk k hk).2 hN⟩), fun q hq => (h.pts q hq).wide hB hN, h.num⟩
theorem reads (h : InCs w B N A c M) : IsCs w N A M := by
  refine ⟨⟨fun k hk => ?_⟩, fun q hq => (h.pts q hq).reads, h.num⟩
  obtain ⟨g, hA, hg, hF, hc, _⟩ := h.row.get k hk
  refine ⟨g, 0, hA, hF.2, fun i hi j v hv => ?_⟩
  obtain ⟨g', hA', _, _, hc', _⟩ := h.row.get i hi
  obtain rfl : g = g' := by rw [hA] at hA'; injection hA' with e; injection e
  have hj : j < 17 := (List.getElem?_eq_some_iff.1 hv).1
  rw [Nat.zero_add, hc' j hj]; exact hv
theorem put {wr w4 w5 w6 : World} {n4 n5 c1 c6 : Nat} {A1 A6 : Option Addr} {L : List Cq} {x : Cq} (h : InCs wr B wr.heap.size A1 c1 L) (hB : B ≤ wr.heap.size) (hb4 : Below wr.heap.size wr w4) (ho : PtIn w4 wr.heap.size n4 x.c.p x.a) (hn4 : n4 ≤ w4.heap.size) (hn : (InInt x.c.k ∧ InInt x.c.g ∧ InInt x.c.t ∧ InInt x.c.v ∧ InInt x.c.f) ∧ okV x.c.a)
    (hb5 : Below w4.heap.size w4 w5) (hrow5 : RowIn cellsC 17 62 w5 (Bl B wr.heap.size) A1 c1 L) (hn5 : w5.heap.size = n5) (hrow6 : RowIn cellsC 17 62 w6 (fun k => Bl B wr.heap.size k ∨ n5 ≤ k) A6 c6 (L ++ [x])) (hg6 : w5.grownBy w6 (Go.Proofs.YtaeoccpjdjafnaaGreat.blk A1)) :
    InCs w6 B w6.heap.size A6 c6 (L ++ [x]) := by
  have hw4 := hb4.size
  have hw5 := hb5.size
  have hw6 := hg6.size
  have kp56 : Kp Parts w5 w6 := by
    rcases hb : Go.Proofs.YtaeoccpjdjafnaaGreat.blk A1 with _ | k
    · rw [hb] at hg6
      exact Kp.ofBelow (below_grown hg6 (Nat.le_refl _) (fun j e => by cases e))
    · rw [hb] at hg6
      obtain ⟨cur, hc⟩ := hrow5.tag hb
      exact Kp.ofGrown hc (by rintro (e | e | e) <;> exact absurd e (by decide)) hg6
  refine ⟨hrow6.mono (fun k hk => ⟨?_, hrow6.lt k hk⟩), fun q hq => ?_, fun q hq => ?_⟩
  · rcases hrow6.blk k hk with e | e
    · exact e.1
    · omega
  · rcases List.mem_append.1 hq with hq | hq
    · exact ((((h.pts q hq).kp (Kp.ofBelow hb4)).kp (Kp.ofBelow hb5)).kp kp56).wide (Nat.le_refl _) (by omega)
    · obtain rfl := List.mem_singleton.1 hq
      exact ((ho.kp (Kp.ofBelow hb5)).kp kp56).wide hB (by omega)
  · rcases List.mem_append.1 hq with hq | hq
    · exact h.num q hq
    · obtain rfl := List.mem_singleton.1 hq; exact hn
end InCs
def InVs (w : World) (B N : Nat) (A : Option Addr) (c : Nat) (L : List Vt) : Prop := RowIn cellsV 5 60 w (Bl B N) A c L ∧ ∀ v ∈ L, okV v
namespace InVs
variable {w w' : World} {B B' N N' : Nat} {A : Option Addr} {c : Nat} {L : List Vt}
theorem nil (w : World) (B N : Nat) : InVs w B N none 0 [] := ⟨RowIn.nil cellsV_fits _ _ _, by simp⟩
theorem keep {S : Nat → Prop} (h : InVs w B N A c L) (ht : Turned S w w') (hs : ∀ k, S k → ¬ Bl B N k) : InVs w' B N A c L := ⟨h.1.keep ht (fun k hk hS => hs k hS (h.1.blk k hk)), h.2⟩
theorem below (h : InVs w B N A c L) (hb : Below N w w') : InVs w' B N A c L :=
  h.keep (S := fun k => N ≤ k) ⟨hb.os, hb.tape, hb.output, hb.size, fun k _ hn => hb.block k (by omega)⟩ (fun k hk hB => by have := hB.2; omega)
theorem wide (h : InVs w B N A c L) (hB : B' ≤ B) (hN : N ≤ N') : InVs w B' N' A c L := ⟨h.1.mono (fun k hk => ⟨Nat.le_trans hB (h.1.blk k hk).1, Nat.lt_of_lt_of_le (h.1.blk k hk).2 hN⟩), h.2⟩
theorem reads (h : InVs w B N A c L) : IsVs w N A L := by
  refine ⟨⟨fun k hk => ?_⟩, h.2⟩
  obtain ⟨g, hA, hg, hF, hc, _⟩ := h.1.get k hk
  refine ⟨g, 0, hA, hF.2, fun i hi j v hv => ?_⟩
  obtain ⟨g', hA', _, _, hc', _⟩ := h.1.get i hi
  obtain rfl : g = g' := by rw [hA] at hA'; injection hA' with e; injection e
  have hj : j < 5 := (List.getElem?_eq_some_iff.1 hv).1
  rw [Nat.zero_add, hc' j hj]; exact hv
end InVs
end Go.Proofs.YtaeoccpjdjafnaaGreat.Im
namespace Go.Proofs.YtaeoccpjdjafnaaGreat.Im
open Go Go.RowKit
set_option maxRecDepth 100000
set_option linter.unusedVariables false
def aheadV (a b : Vt) : Bool := decide (a.x < b.x) || (decide (a.x = b.x) && decide (a.p < b.p))
set_option maxHeartbeats 3200000 in
theorem ahead_any (a b : Vt) (w : World) :
    Calls Tryz.prog 89 #[.agg #[.int .i64 a.x, .int .i64 a.p, .int .i64 a.r, .int .i64 a.b, .int .i64 a.v], .agg #[.int .i64 b.x, .int .i64 b.p, .int .i64 b.r, .int .i64 b.b, .int .i64 b.v]] w fun e w' => e = .returned (.bool (aheadV a b)) ∧ Below w.heap.size w w' := by
  obtain ⟨p1, p2, p3⟩ := twoNew w (.cells #[.int .i64 a.x, .int .i64 a.p, .int .i64 a.r, .int .i64 a.b, .int .i64 a.v] 60) (.cells #[.int .i64 b.x, .int .i64 b.p, .int .i64 b.r, .int .i64 b.b, .int .i64 b.v] 60)
  have HB := hid p1
  have c0 := row_cell p2 0
  have c1 := row_cell p2 1
  have d0 := row_cell p3 0
  have d1 := row_cell p3 1
  clear p1 p2 p3
  by_cases h1 : a.x < b.x
  · have HV : Hid (aheadV a b = true) := hid (by unfold aheadV; simp [h1])
    go_enter Tryz.func89, Tryz.ntmps89
    go_wp2_with fail
    go_ret
    exact ⟨by rw [HV.out]; rfl, ((Below.refl _ w).alloc (Nat.le_refl _) _).alloc (by simp) _⟩
  · by_cases h2 : a.x = b.x
    · by_cases h3 : a.p < b.p
      · have HV : Hid (aheadV a b = true) := hid (by unfold aheadV; simp [h2, h3])
        go_enter Tryz.func89, Tryz.ntmps89
        go_wp2_with fail
        go_ret
        exact ⟨by rw [HV.out]; rfl, ((Below.refl _ w).alloc (Nat.le_refl _) _).alloc (by simp) _⟩
      · have HV : Hid (aheadV a b = false) := hid (by unfold aheadV; simp [h2, h3] <;> omega)
        go_enter Tryz.func89, Tryz.ntmps89
        go_wp2_with fail
        go_ret
        exact ⟨by rw [HV.out]; rfl, ((Below.refl _ w).alloc (Nat.le_refl _) _).alloc (by simp) _⟩
    · have HV : Hid (aheadV a b = false) := hid (by unfold aheadV; simp [h2] <;> omega)
      go_enter Tryz.func89, Tryz.ntmps89
      go_wp2_with fail
      go_ret
      exact ⟨by rw [HV.out]; rfl, ((Below.refl _ w).alloc (Nat.le_refl _) _).alloc (by simp) _⟩
end Go.Proofs.YtaeoccpjdjafnaaGreat.Im
namespace Go.Proofs.YtaeoccpjdjafnaaGreat.Im
open Go Go.RowKit
open Rl (En Lg)
open Qu (Cf)
set_option maxRecDepth 100000
set_option linter.unusedVariables false
theorem chgd_g' {h y : Hd} {c : Ch} (e : chgd h c = some y) : y.g = h.g := by
  unfold chgd at e
  split at e
  · injection e with e; rw [← e]
  · split at e
    · split at e
      · cases e
      · injection e with e; rw [← e]
    · injection e with e; rw [← e]
theorem ltV_asymm {a b : Vt} (h : ltV a b = true) : ltV b a = false := by
  rcases hb : ltV b a with _ | _
  · rfl
  · have := ltV_trans _ _ _ h hb
    rw [ltV_irr] at this; cases this
theorem ltV_total {a b : Vt} (h : ltV a b = false) (hd : a.x ≠ b.x ∨ a.p ≠ b.p) : ltV b a = true := by
  simp [ltV] at *
  rcases hd with hd | hd <;> omega
structure OV (c : Vt) (L : List Vt) (k : Nat) (laid : Bool) (O : List Vt) : Prop where
  no : laid = false → O = L.take k ∧ ∀ v ∈ L.take k, ltV v c = true
  yes : laid = true → O = (L.take k).filter (fun y => ltV y c) ++ c :: (L.take k).filter (fun y => ltV c y) ∧ ∃ i, ∃ h : i < L.length, i < k ∧ ltV L[i] c = false
namespace OV
variable {c : Vt} {L O : List Vt} {k : Nat}
theorem start : OV c L 0 false [] := ⟨fun _ => ⟨rfl, fun v hv => by cases hv⟩, fun h => by cases h⟩
theorem ahead (h : OV c L k false O) (hk : k < L.length) (hv : ltV L[k] c = true) : OV c L (k + 1) false (O ++ [L[k]]) := by
  obtain ⟨h1, h2⟩ := h.no rfl
  rw [h1]
  refine ⟨fun _ => ⟨(List.take_succ_eq_append_getElem hk).symm, fun v hm => ?_⟩, fun e => by cases e⟩
  rw [List.take_succ_eq_append_getElem hk] at hm
  rcases List.mem_append.1 hm with hm | hm
  · exact h2 v hm
  · rw [List.mem_singleton.1 hm]; exact hv
theorem filters (h2 : ∀ v ∈ L.take k, ltV v c = true) : (L.take k).filter (fun y => ltV y c) = L.take k ∧ (L.take k).filter (fun y => ltV c y) = [] :=
  ⟨List.filter_eq_self.2 h2, List.filter_eq_nil_iff.2 (fun v hv => by rw [ltV_asymm (h2 v hv)]; decide)⟩
theorem here (h : OV c L k false O) (hk : k < L.length) (hv : ltV L[k] c = false) (hx : L[k].x = c.x) (hp : L[k].p = c.p) : OV c L (k + 1) true (O ++ [c]) := by
  obtain ⟨h1, h2⟩ := h.no rfl
  obtain ⟨f1, f2⟩ := filters h2
  refine ⟨fun e => (by cases e), fun _ => ⟨?_, k, hk, by omega, hv⟩⟩
  have hcv : ltV c L[k] = false := by
    simp [ltV] at *
    omega
  rw [List.take_succ_eq_append_getElem hk, List.filter_append, List.filter_append, f1, f2, h1, List.filter_cons_of_neg (by rw [hv]; decide), List.filter_cons_of_neg (by rw [hcv]; decide)]
  simp
theorem before (h : OV c L k false O) (hk : k < L.length) (hv : ltV L[k] c = false) (hd : L[k].x ≠ c.x ∨ L[k].p ≠ c.p) : OV c L (k + 1) true ((O ++ [c]) ++ [L[k]]) := by
  obtain ⟨h1, h2⟩ := h.no rfl
  obtain ⟨f1, f2⟩ := filters h2
  refine ⟨fun e => (by cases e), fun _ => ⟨?_, k, hk, by omega, hv⟩⟩
  have hcv := ltV_total hv hd
  rw [List.take_succ_eq_append_getElem hk, List.filter_append, List.filter_append, f1, f2, h1, List.filter_cons_of_neg (by rw [hv]; decide), List.filter_cons_of_pos hcv]
  simp
theorem later (h : OV c L k true O) (hasc : asc ltV L = true) (hk : k < L.length) : ltV L[k] c = false ∧ ltV c L[k] = true := by
  obtain ⟨_, i, hi, hik, hn⟩ := h.yes rfl
  have h1 := asc_lt ltV ltV_trans L hasc i k hi hk hik
  have h2 : ltV c L[k] = true := by
    simp [ltV] at *
    omega
  exact ⟨ltV_asymm h2, h2⟩
theorem laterD (h : OV c L k true O) (hasc : asc ltV L = true) (hk : k < L.length) : L[k].x ≠ c.x ∨ L[k].p ≠ c.p := by
  have h2 := (h.later hasc hk).2
  simp [ltV] at h2
  omega
theorem more (h : OV c L k true O) (hasc : asc ltV L = true) (hk : k < L.length) : OV c L (k + 1) true (O ++ [L[k]]) := by
  obtain ⟨h0, h2⟩ := h.later hasc hk
  obtain ⟨h1, i, hi, hik, hn⟩ := h.yes rfl
  refine ⟨fun e => (by cases e), fun _ => ⟨?_, i, hi, by omega, hn⟩⟩
  rw [List.take_succ_eq_append_getElem hk, List.filter_append, List.filter_append, h1, List.filter_cons_of_neg (by rw [h0]; decide), List.filter_cons_of_pos h2]
  simp
theorem endNo (h : OV c L L.length false O) : O ++ [c] = ins ltV L c := by
  obtain ⟨h1, h2⟩ := h.no rfl
  obtain ⟨f1, f2⟩ := filters h2
  rw [List.take_length] at f1 f2 h1
  unfold ins
  rw [f1, f2, h1]
theorem endYes (h : OV c L L.length true O) : O = ins ltV L c := by
  obtain ⟨h1, _⟩ := h.yes rfl
  rw [List.take_length] at h1
  exact h1
end OV
theorem ins_set {L : List Hd} (hasc : asc ltH L = true) {k : Nat} (hk : k < L.length) {y : Hd} (hy : y.g = L[k].g) : ins ltH L y = L.set k y := by
  have hlt := asc_lt ltH ltH_trans L hasc
  have hf : ∀ x : Hd, ltH x y = ltH x L[k] := fun x => by unfold ltH; rw [hy]
  have hg : ∀ x : Hd, ltH y x = ltH L[k] x := fun x => by unfold ltH; rw [hy]
  have e1 : L.filter (fun x => ltH x y) = L.take k := by
    conv => lhs; rw [← List.take_append_drop k L]
    rw [List.filter_append, List.filter_eq_self.2, List.filter_eq_nil_iff.2, List.append_nil]
    · intro x hx
      obtain ⟨i, hi, rfl⟩ := List.getElem_of_mem hx
      rw [List.getElem_drop, hf]
      rw [List.length_drop] at hi
      rcases Nat.eq_zero_or_pos i with rfl | h0
      · simp [ltH]
      · have := hlt k (k + i) hk (by omega) (by omega)
        simp [ltH] at *; omega
    · intro x hx
      obtain ⟨i, hi, rfl⟩ := List.getElem_of_mem hx
      rw [List.length_take] at hi
      rw [List.getElem_take, hf]
      exact hlt i k (by omega) hk (by omega)
  have e2 : L.filter (fun x => ltH y x) = L.drop (k + 1) := by
    conv => lhs; rw [← List.take_append_drop (k + 1) L]
    rw [List.filter_append, List.filter_eq_nil_iff.2, List.filter_eq_self.2, List.nil_append]
    · intro x hx
      obtain ⟨i, hi, rfl⟩ := List.getElem_of_mem hx
      rw [List.length_drop] at hi
      rw [List.getElem_drop, hg]
      exact hlt k (k + 1 + i) hk (by omega) (by omega)
    · intro x hx
      obtain ⟨i, hi, rfl⟩ := List.getElem_of_mem hx
      rw [List.length_take] at hi
      rw [List.getElem_take, hg]
      rcases Nat.lt_or_ge i k with h | h
      · have := hlt i k (by omega) hk h
        simp [ltH] at *; omega
      · obtain rfl : i = k := by omega
        simp [ltH]
  unfold ins
  rw [e1, e2, List.set_eq_take_append_cons_drop, if_pos hk]
theorem find_first {L : List Hd} {g : Int} {k : Nat} (hk : k < L.length) (h : L[k].g = g) (hno : ∀ i (hi : i < L.length), i < k → L[i].g ≠ g) : L.find? (fun h => decide (h.g = g)) = some L[k] := by
  rw [List.find?_eq_some_iff_getElem]
  exact ⟨by simpa using h, k, hk, rfl, fun j hj => by simpa using hno j (by omega) hj⟩
theorem find_none {L : List Hd} {g : Int} (hno : ∀ i (hi : i < L.length), L[i].g ≠ g) : L.find? (fun h => decide (h.g = g)) = none := by
  rw [List.find?_eq_none]
  intro x hx
  obtain ⟨i, hi, rfl⟩ := List.getElem_of_mem hx
  simpa using hno i hi
end Go.Proofs.YtaeoccpjdjafnaaGreat.Im
namespace Go.Proofs.YtaeoccpjdjafnaaGreat.Im
open Go Go.RowKit
open Rl (En Lg)
open Qu (Cf)
set_option maxRecDepth 100000
set_option linter.unusedVariables false
section
variable {α : Type} {lt : α → α → Bool} (ht : ∀ a b c, lt a b = true → lt b c = true → lt a c = true)
include ht
theorem asc_pw (L : List α) : asc lt L = true ↔ L.Pairwise (fun a b => lt a b = true) := by
  constructor
  · intro h
    rw [List.pairwise_iff_getElem]
    intro i j hi hj hij
    exact asc_lt lt ht L h i j hi hj hij
  · intro h
    rw [asc_iff]
    intro i hi
    exact (List.pairwise_iff_getElem.1 h) i (i + 1) (by omega) hi (by omega)
theorem ins_asc {L : List α} (h : asc lt L = true) (x : α) : asc lt (ins lt L x) = true := by
  rw [asc_pw ht] at *
  unfold ins
  rw [List.pairwise_append]
  refine ⟨h.filter _, ?_, fun a ha b hb => ?_⟩
  · rw [List.pairwise_cons]
    exact ⟨fun b hb => (List.mem_filter.1 hb).2, h.filter _⟩
  · have h1 := (List.mem_filter.1 ha).2
    rcases List.mem_cons.1 hb with rfl | hb
    · exact h1
    · exact ht _ _ _ h1 (List.mem_filter.1 hb).2
end
theorem filters_le {α : Type} (p q : α → Bool) (hpq : ∀ a, p a = true → q a = false) : ∀ L : List α, (L.filter p).length + (L.filter q).length ≤ L.length
  | [] => Nat.le_refl _
  | a :: L => by
    have ih := filters_le p q hpq L
    rcases hp : p a with _ | _
    · rcases hq : q a with _ | _
      · rw [List.filter_cons_of_neg (by rw [hp]; decide), List.filter_cons_of_neg (by rw [hq]; decide), List.length_cons]; omega
      · rw [List.filter_cons_of_neg (by rw [hp]; decide), List.filter_cons_of_pos hq, List.length_cons, List.length_cons]; omega
    · rw [List.filter_cons_of_pos hp, List.filter_cons_of_neg (by rw [hpq a hp]; decide), List.length_cons, List.length_cons]; omega
theorem insV_le (L : List Vt) (x : Vt) : (ins ltV L x).length ≤ L.length + 1 := by
  have := filters_le (fun y => ltV y x) (fun y => ltV x y) (fun a h => ltV_asymm h) L
  unfold ins
  rw [List.length_append, List.length_cons]
  omega
structure SmP (n : Nat) (p : Pt) : Prop where
  es : p.log.es.length ≤ 100 + 100 * n
  d : ∀ e ∈ p.log.es, e.d.length ≤ 16384
  cf : p.cf.old.length ≤ 100 ∧ p.cf.new.length ≤ 100 ∧ p.cf.lrn.length ≤ 100
  sn : p.sn.length ≤ 16384
structure Sm (n : Nat) (x : Im) : Prop where
  hn : x.hs.length ≤ 40
  vn : x.vs.length ≤ 200 + n
  p : ∀ h ∈ x.hs, SmP n h.p
  so : asc ltH x.hs = true ∧ asc ltV x.vs = true
theorem mem_weigh {L : List En} {e : En} (h : e ∈ L) : e.d.length ≤ weigh L := by
  induction L with
  | nil => cases h
  | cons a L ih =>
    have h2 : weigh (a :: L) = a.d.length + weigh L := by unfold weigh; simp
    rcases List.mem_cons.1 h with rfl | h
    · omega
    · have := ih h; omega
theorem smP_of {p : Pt} (h : bigPt p = false) : SmP 0 p := by
  obtain ⟨h1, h2, h3, h4, h5, h6⟩ := pt_lens h
  exact ⟨by omega, fun e he => by have := mem_weigh he; omega, ⟨h3, h4, h5⟩, h6⟩
theorem SmP.mono {n m : Nat} {p : Pt} (h : SmP n p) (hnm : n ≤ m) : SmP m p := ⟨by have := h.es; omega, h.d, h.cf, h.sn⟩
theorem chgd_sm {n : Nat} {h y : Hd} {c : Ch} (hh : SmP n h.p) (hc : bigPt c.p = false) (e : chgd h c = some y) : SmP (n + 1) y.p := by
  have hcp := smP_of hc
  unfold chgd at e
  split at e
  · injection e with e; rw [← e]; exact hh.mono (by omega)
  · split at e
    · split at e
      · cases e
      · injection e with e
        rw [← e]
        refine ⟨?_, fun x hx => ?_, hh.cf, hh.sn⟩
        · show (List.take _ _ ++ _).length ≤ _
          rw [List.length_append, List.length_take]
          have h1 := hh.es
          have h2 := hcp.es
          omega
        · rcases List.mem_append.1 hx with hx | hx
          · exact hh.d x (List.mem_of_mem_take hx)
          · exact hcp.d x hx
    · injection e with e
      rw [← e]
      refine ⟨?_, fun x hx => ?_, hcp.cf, hcp.sn⟩
      · show (sinceM _ _ _).es.length ≤ _
        unfold sinceM
        split
        · unfold Rl.Lg.cut
          split
          · show (List.drop _ _).length ≤ _
            rw [List.length_drop]
            have := hh.es
            omega
          · exact Nat.zero_le _
        · exact Nat.zero_le _
      · have hx' : x ∈ (sinceM h.p.log c.p.log.base c.p.log.term).es := hx
        unfold sinceM at hx'
        split at hx'
        · unfold Rl.Lg.cut at hx'
          split at hx'
          · exact hh.d x (List.mem_of_mem_drop hx')
          · cases hx'
        · cases hx'
theorem sm_apply {n : Nat} {x : Im} {c : Ch} (h : Sm n x) (hc : bigPt c.p = false) (e : (apply x c).2 = 0) : Sm (n + 1) (apply x c).1 := by
  unfold apply at *
  by_cases h1 : c.k = 1 ∨ c.k = 2 ∨ c.k = 3
  · rw [if_pos h1] at *
    rcases hf : x.hs.find? (fun h => decide (h.g = c.g)) with _ | h0
    · rw [hf] at e
      have e' : (6 : Int) = 0 := e
      omega
    · rw [hf] at e
      dsimp only at e
      rcases hy : chgd h0 c with _ | y
      · rw [hy] at e
        have e' : (3 : Int) = 0 := e
        omega
      · have hm := List.mem_of_find?_eq_some hf
        obtain ⟨k, hk, hkk⟩ := List.getElem_of_mem hm
        have hg : y.g = x.hs[k].g := by rw [hkk]; exact chgd_g' hy
        have hi : ins ltH x.hs y = x.hs.set k y := ins_set h.so.1 hk hg
        rw [hf]
        dsimp only
        rw [hy]
        refine ⟨?_, by have := h.vn; show x.vs.length ≤ _; omega, fun z hz => ?_, ⟨ins_asc ltH_trans h.so.1 y, h.so.2⟩⟩
        · show (ins ltH x.hs y).length ≤ 40
          rw [hi, List.length_set]; exact h.hn
        · have hz' : z ∈ ins ltH x.hs y := hz
          rw [hi] at hz'
          rcases List.mem_or_eq_of_mem_set hz' with hz | rfl
          · exact (h.p z hz).mono (by omega)
          · exact chgd_sm (h.p h0 hm) hc hy
  · rw [if_neg h1] at *
    by_cases h4 : c.k = 4
    · rw [if_pos h4] at *
      exact ⟨h.hn, Nat.le_trans (insV_le _ _) (by have := h.vn; omega), fun z hz => (h.p z hz).mono (by omega), ⟨h.so.1, ins_asc ltV_trans h.so.2 _⟩⟩
    · rw [if_neg h4] at e
      exact absurd e (by decide)
theorem sm_start {Q : List Hq} {L : List Vt} (hf : fewI Q L = true) (hs : sorted ⟨Q.map (·.h), L⟩ = true) : Sm 0 ⟨Q.map (·.h), L⟩ := by
  obtain ⟨h1, h2, h3⟩ := few_of hf
  unfold sorted at hs
  rw [Bool.and_eq_true] at hs
  refine ⟨by show (Q.map (·.h)).length ≤ 40; rw [List.length_map]; exact h1, by show L.length ≤ 200 + 0; omega, fun h hh => ?_, hs⟩
  obtain ⟨q, hq, rfl⟩ := List.mem_map.1 hh
  exact smP_of (h3 q hq)
def basesB (Q : List Hq) : Bool := Q.all fun q => (decide (0 ≤ q.h.p.log.base) && decide (q.h.p.log.base ≤ 1099511627776)) && (decide (0 ≤ q.h.p.log.term) && decide (q.h.p.log.term ≤ 1099511627776))
theorem basesB_take (Q : List Hq) (k : Nat) (h : k < Q.length) (hb : ∀ q ∈ Q.take k, (0 ≤ q.h.p.log.base ∧ q.h.p.log.base ≤ 1099511627776) ∧ (0 ≤ q.h.p.log.term ∧ q.h.p.log.term ≤ 1099511627776)) (hk : (0 ≤ Q[k].h.p.log.base ∧ Q[k].h.p.log.base ≤ 1099511627776) ∧ (0 ≤ Q[k].h.p.log.term ∧ Q[k].h.p.log.term ≤ 1099511627776)) : ∀ q ∈ Q.take (k + 1), (0 ≤ q.h.p.log.base ∧ q.h.p.log.base ≤ 1099511627776) ∧ (0 ≤ q.h.p.log.term ∧ q.h.p.log.term ≤ 1099511627776) := by
  intro q hq
  rw [List.take_succ_eq_append_getElem h] at hq
  rcases List.mem_append.1 hq with hq | hq
  · exact hb q hq
  · rw [List.mem_singleton.1 hq]; exact hk
theorem basesB_yes {Q : List Hq} (h : ∀ q ∈ Q, (0 ≤ q.h.p.log.base ∧ q.h.p.log.base ≤ 1099511627776) ∧ (0 ≤ q.h.p.log.term ∧ q.h.p.log.term ≤ 1099511627776)) : basesB Q = true := by
  unfold basesB
  rw [List.all_eq_true]
  intro q hq
  obtain ⟨⟨h1, h2⟩, h3, h4⟩ := h q hq
  simp [h1, h2, h3, h4]
theorem basesB_iff {Q : List Hq} (h : basesB Q = true) : ∀ q ∈ Q, (0 ≤ q.h.p.log.base ∧ q.h.p.log.base ≤ 1099511627776) ∧ (0 ≤ q.h.p.log.term ∧ q.h.p.log.term ≤ 1099511627776) := by
  unfold basesB at h
  rw [List.all_eq_true] at h
  intro q hq
  have := h q hq
  simp at this
  exact this
theorem basesB_no {Q : List Hq} (k : Nat) (h : k < Q.length) (hk : ¬ ((0 ≤ Q[k].h.p.log.base ∧ Q[k].h.p.log.base ≤ 1099511627776) ∧ (0 ≤ Q[k].h.p.log.term ∧ Q[k].h.p.log.term ≤ 1099511627776))) : basesB Q = false := by
  rcases hb : basesB Q with _ | _
  · rfl
  · exact absurd (basesB_iff hb _ (List.getElem_mem h)) hk
end Go.Proofs.YtaeoccpjdjafnaaGreat.Im
namespace Go.Proofs.YtaeoccpjdjafnaaGreat
open Go.RowKit
set_option maxHeartbeats 400000 in
theorem spoil_any (base : Nat) (A : Option Addr) (c : Nat) (l : List Nat) (hl : l.length ≤ maxLen) (w : World) (h : OwnsB 5 w base A c l) :
    Calls Tryz.prog 87 #[.slice A l.length c] w fun e w' => e = .returned (.tuple #[]) ∧ w.grownBy w' (Value.slice A l.length c).ownBlock := by
  unfold maxLen at hl
  go_enter Tryz.func87, Tryz.ntmps87
  go_wp2
  go_loopw [2] (fun i wr => ∃ k : Nat, ∃ L : List Nat, k ≤ l.length ∧ i = .int .i64 k ∧ L.length = l.length ∧ OwnsB 5 wr base A c L ∧ w.grownBy wr (Value.slice A l.length c).ownBlock) (fun i _ => l.length - (RowKit.intOf i).toNat)
  case atStart => exact ⟨0, l, by omega, rfl, rfl, h, grown_refl _ _⟩
  case round =>
    clear h
    obtain ⟨k, L, hk, rfl, hL, hown, hgr⟩ := hrel
    have HL := hid hL
    by_cases hlt : k < l.length
    · have hkl : k < L.length := by rw [hL]; exact hlt
      obtain ⟨g, rfl, _, _, hcg, hfg⟩ := hown.at_ hkl
      have h8 := hown.small L[k] (List.getElem_mem _)
      have HX : Hid (bits .xor .u8 (L[k] : Int) 90 = ((L[k] ^^^ 90 : Nat) : Int)) := hid (u8_xor_nat L[k] 90 h8 (by decide))
      have hs1 := hown.set_ k (L[k] ^^^ 90) (by have := Nat.xor_lt_two_pow (n := 8) h8 (show 90 < 2 ^ 8 by decide); simpa using this)
      have hg1 : w.grownBy (wr.setCell ⟨g, k, none⟩ (.int .u8 (L[k] ^^^ 90 : Nat))) (some g) := grown_trans hgr (grown_setCell _ _ _ _) (fun _ e _ => by injection e with e; rw [e])
      have HS := hid (And.intro hs1 hg1)
      clear hs1 hg1 hown hgr hL
      go_wp2
      rw [HX.out]
      go_roundw
      case rel => exact ⟨k + 1, _, by omega, by go_num, by rw [List.length_set]; exact HL.out, HS.out.1, HS.out.2⟩
      case measure => simp [RowKit.intOf]; omega
    · clear hL
      go_wp2
      go_end0
      exact ⟨rfl, hgr⟩
theorem spoil_N (base : Nat) (A : Option Addr) (c : Nat) (l : List Nat) (n : Nat) (hn : l.length = n) (hl : n ≤ maxLen) (w : World) (h : OwnsB 5 w base A c l) :
    Calls Tryz.prog 87 #[.slice A n c] w fun e w' => e = .returned (.tuple #[]) ∧ w.grownBy w' (blk A) := by
  subst hn; rw [← ownBlock_slice A l.length c]; exact spoil_any base A c l hl w h
end Go.Proofs.YtaeoccpjdjafnaaGreat
namespace Go.Proofs.YtaeoccpjdjafnaaGreat
open Go.RowKit
def deadE (_ : El) : El := ⟨⟨-77, 0, []⟩, none, 0⟩
structure BytesE (w : World) (F : Nat → Prop) (L : List El) : Prop where
  own : ∀ q ∈ L, OwnsB 5 w 0 q.A q.c q.e.d ∧ ∀ k, blk q.A = some k → F k
  apart : Apart (L.map fun q => blk q.A)
theorem BytesE.keep {w w' : World} {F S : Nat → Prop} {L : List El} (h : BytesE w F L) (ht : Turned S w w') (hd : ∀ q ∈ L, ∀ k, blk q.A = some k → ¬ S k) : BytesE w' F L :=
  ⟨fun q hq => ⟨(h.own q hq).1.turned ht (hd q hq), (h.own q hq).2⟩, h.apart⟩
def halfE (L : List El) (k : Nat) : List El := (L.take k).map deadE ++ L.drop k
theorem halfE_length (L : List El) (k : Nat) (h : k ≤ L.length) : (halfE L k).length = L.length := by unfold halfE; rw [List.length_append, List.length_map, List.length_take, List.length_drop]; omega
theorem halfE_get (L : List El) (k : Nat) (h : k < L.length) : (halfE L k)[k]'(by rw [halfE_length L k (by omega)]; exact h) = L[k] := by
  have : (halfE L k)[k]? = some L[k] := by
    unfold halfE
    rw [List.getElem?_append_right (by rw [List.length_map, List.length_take]; omega), List.length_map, List.length_take, List.getElem?_drop, show k + (k - min k L.length) = k by omega, List.getElem?_eq_getElem h]
  rw [List.getElem?_eq_getElem (by rw [halfE_length L k (by omega)]; exact h)] at this
  exact Option.some.inj this
theorem halfE_set (L : List El) (k : Nat) (h : k < L.length) : (halfE L k).set k (deadE L[k]) = halfE L (k + 1) := by
  unfold halfE
  have hl : ((L.take k).map deadE).length = k := by rw [List.length_map, List.length_take]; omega
  rw [List.set_append_right _ _ (by omega), hl, Nat.sub_self, List.drop_eq_getElem_cons h, List.set_cons_zero, List.take_succ_eq_append_getElem h, List.map_append, List.append_assoc]
  rfl
structure SpToE (w wr : World) (F : Nat → Prop) (A : Option Addr) (c : Nat) (L : List El) (k : Nat) : Prop where
  row : RowIn cellsE 3 73 wr F A c (halfE L k)
  byt : BytesE wr F (L.drop k)
  tur : Turned F w wr
set_option maxHeartbeats 1600000 in
set_option maxRecDepth 100000 in
theorem spoilEs_any (F : Nat → Prop) (A : Option Addr) (c : Nat) (L : List El) (hL : L.length ≤ 100000) (w : World) (h : RowIn cellsE 3 73 w F A c L) (hb : BytesE w F L) :
    Calls Tryz.prog 86 #[.slice A L.length c] w fun e w' => e = .returned (.tuple #[]) ∧ Turned F w w' := by
  have H0 : Hid (SpToE w w F A c L 0) := hid ⟨by unfold halfE; simpa using h, by simpa using hb, Turned.refl _ _⟩
  clear h hb
  go_enter Tryz.func86, Tryz.ntmps86
  go_wp2_with fail
  go_loopw [2] (fun i wr => ∃ k : Nat, k ≤ L.length ∧ i = .int .i64 k ∧ Hid (SpToE w wr F A c L k)) (fun i _ => L.length - (RowKit.intOf i).toNat)
  case atStart => exact ⟨0, by omega, rfl, H0⟩
  case round =>
    clear H0
    obtain ⟨k, hk, rfl, hS⟩ := hrel
    by_cases hlt : k < L.length
    · have hlt' : k < (halfE L k).length := by rw [halfE_length L k hk]; exact hlt
      obtain ⟨g, rfl, hg, hFg, hc, hf⟩ := hS.out.row.get k hlt'
      rw [halfE_get L k hlt] at hc
      have c2 : wr.cell? ⟨g, k * 3 + 2, none⟩ = some (.slice L[k].A L[k].e.d.length L[k].c) := hc 2 (by omega)
      have hk0 : (k : Int) < (L.length : Int) := by omega
      have hdk : L.drop k = L[k] :: L.drop (k + 1) := List.drop_eq_getElem_cons hlt
      have hmem : L[k] ∈ L.drop k := by rw [hdk]; exact List.mem_cons_self
      have ho := hS.out.byt.own L[k] hmem
      have HSp := hid (spoil_N 0 L[k].A L[k].c L[k].e.d L[k].e.d.length rfl (Nat.le_trans ho.1.room.1 ho.1.room.2) wr ho.1)
      have HI := hid (And.intro ho (And.intro hdk (And.intro hlt' (And.intro hg (And.intro hFg hf)))))
      have cc : Hid (∀ j, j < 3 → wr.cell? ⟨g, k * 3 + j, none⟩ = (cellsE L[k])[j]?) := hid hc
      clear hc hf ho hdk hmem hlt' hFg
      go_wp2_with fail
      refine HSp.out.mono ?_
      rintro e w2 ⟨rfl, hg2⟩
      obtain ⟨ho, hdk, hlt', hg', hFg, hf⟩ := HI.out
      have T2 : Turned (fun j => blk L[k].A = some j) wr w2 := Turned.ofGrown hg2 (fun j hj => hj)
      have hnb : ¬ blk L[k].A = some g := fun e => by
        obtain ⟨cur, hcur⟩ := hS.out.row.tag (k := g) rfl
        exact ho.1.ne hcur (by decide) e
      have r2 := hS.out.row.keep T2 (fun j hj e => hnb (by have hj : g = j := (by injection hj); rw [hj]; exact e))
      have d0 : w2.cell? ⟨g, k * 3, none⟩ = some (.int .i64 L[k].e.t) := (T2.cell (p := ⟨g, k * 3, none⟩) hg' hnb).trans (cc.out 0 (by omega))
      have d1 : w2.cell? ⟨g, k * 3 + 1, none⟩ = some (.int .i64 L[k].e.k) := (T2.cell (p := ⟨g, k * 3 + 1, none⟩) hg' hnb).trans (cc.out 1 (by omega))
      have d2 : w2.cell? ⟨g, k * 3 + 2, none⟩ = some (.slice L[k].A L[k].e.d.length L[k].c) := (T2.cell (p := ⟨g, k * 3 + 2, none⟩) hg' hnb).trans (cc.out 2 (by omega))
      have f2 : ∀ j, w2.frozen? ⟨g, j, none⟩ = false := fun j => (World.frozen?_of_block (a := ⟨g, j, none⟩) (T2.block g hg' hnb)).trans (hf j)
      have hget := halfE_get L k hlt
      have p1 := r2.put rfl k 0 hlt' (by omega) (.int .i64 (-77)) ⟨⟨-77, L[k].e.k, L[k].e.d⟩, L[k].A, L[k].c⟩ (by rw [hget]; rfl)
      have p2 := p1.put rfl k 1 (by rw [List.length_set]; exact hlt') (by omega) (.int .i64 0) ⟨⟨-77, 0, L[k].e.d⟩, L[k].A, L[k].c⟩ (by rw [List.getElem_set_self]; rfl)
      have p3 := p2.put rfl k 2 (by rw [List.length_set, List.length_set]; exact hlt') (by omega) (.slice none 0 0) (deadE L[k]) (by rw [List.getElem_set_self]; rfl)
      rw [List.set_set, List.set_set, halfE_set L k hlt, Nat.add_zero] at p3
      have T3 := Turned.three w2 g (k * 3) (k * 3 + 1) (k * 3 + 2) (.int .i64 (-77)) (.int .i64 0) (.slice none 0 0)
      have HS : Hid (SpToE w (((w2.setCell ⟨g, k * 3, none⟩ (.int .i64 (-77))).setCell ⟨g, k * 3 + 1, none⟩ (.int .i64 0)).setCell ⟨g, k * 3 + 2, none⟩ (.slice none 0 0)) F (some ⟨g, 0, none⟩) c L (k + 1)) := hid (by
        refine ⟨p3, ?_, (hS.out.tur.then_ T2 (fun j _ hj => ho.2 j hj)).then_ T3 (fun j _ hj => by rw [hj]; exact hFg)⟩
        have hb := hS.out.byt
        rw [hdk] at hb
        have hown := hb.own
        have hap := hb.apart
        unfold Apart at hap
        rw [List.map_cons, List.pairwise_cons] at hap
        have hb2 : BytesE wr F (L.drop (k + 1)) := ⟨fun q hq => hown q (List.mem_cons_of_mem _ hq), hap.2⟩
        have hb3 := hb2.keep T2 (fun q hq j hj e => hap.1 _ (List.mem_map.2 ⟨q, hq, rfl⟩) j e hj)
        refine hb3.keep T3 (fun q hq j hj e => ?_)
        obtain ⟨cur, hcur⟩ := r2.tag (k := g) rfl
        exact (hb3.own q hq).1.ne hcur (by decide) (by rw [hj, e]))
      clear p1 p2 p3 T3 T2 hg2 r2 hget cc HI HSp hS c2 hnb ho hdk hf hg' hlt' hFg
      go_wp2_with fail
      go_roundw
      case rel => exact ⟨k + 1, by omega, by go_num, HS⟩
      case measure => simp [RowKit.intOf]; omega
    · obtain rfl : k = L.length := by omega
      have hkk : ¬ (L.length : Int) < (L.length : Int) := by omega
      go_wp2_with fail
      go_end0
      exact ⟨rfl, hS.out.tur⟩
end Go.Proofs.YtaeoccpjdjafnaaGreat
namespace Go.Proofs.YtaeoccpjdjafnaaGreat
open Go.RowKit
theorem i64_xor_in (a b : Int) : InInt (bits .xor .i64 a b) := by
  unfold InInt bits IntKind.wrap
  simp [IntKind.signed, IntKind.bits]
  omega
set_option maxHeartbeats 400000 in
theorem spoilInts_any (base : Nat) (A : Option Addr) (c : Nat) (l : List Int) (hl : l.length ≤ maxLen) (w : World) (h : OwnsI 3 w base A c l) :
    Calls Tryz.prog 88 #[.slice A l.length c] w fun e w' => e = .returned (.tuple #[]) ∧ w.grownBy w' (Value.slice A l.length c).ownBlock := by
  unfold maxLen at hl
  go_enter Tryz.func88, Tryz.ntmps88
  go_wp2
  go_loopw [2] (fun i wr => ∃ k : Nat, ∃ L : List Int, k ≤ l.length ∧ i = .int .i64 k ∧ L.length = l.length ∧ OwnsI 3 wr base A c L ∧ w.grownBy wr (Value.slice A l.length c).ownBlock) (fun i _ => l.length - (RowKit.intOf i).toNat)
  case atStart => exact ⟨0, l, by omega, rfl, rfl, h, grown_refl _ _⟩
  case round =>
    clear h
    obtain ⟨k, L, hk, rfl, hL, hown, hgr⟩ := hrel
    have HL := hid hL
    by_cases hlt : k < l.length
    · have hkl : k < L.length := by rw [hL]; exact hlt
      obtain ⟨g, rfl, _, _, hcg, hfg⟩ := hown.at_ hkl
      have hs1 := hown.set_ k (bits .xor .i64 L[k] 77) (i64_xor_in _ _)
      have hg1 : w.grownBy (wr.setCell ⟨g, k, none⟩ (.int .i64 (bits .xor .i64 L[k] 77))) (some g) := grown_trans hgr (grown_setCell _ _ _ _) (fun _ e _ => by injection e with e; rw [e])
      have HS := hid (And.intro hs1 hg1)
      clear hs1 hg1 hown hgr hL
      go_wp2
      go_roundw
      case rel => exact ⟨k + 1, _, by omega, by go_num, by rw [List.length_set]; exact HL.out, HS.out.1, HS.out.2⟩
      case measure => simp [RowKit.intOf]; omega
    · clear hL
      go_wp2
      go_end0
      exact ⟨rfl, hgr⟩
theorem spoilI_N (base : Nat) (A : Option Addr) (c : Nat) (l : List Int) (n : Nat) (hn : l.length = n) (hl : n ≤ maxLen) (w : World) (h : OwnsI 3 w base A c l) :
    Calls Tryz.prog 88 #[.slice A n c] w fun e w' => e = .returned (.tuple #[]) ∧ w.grownBy w' (blk A) := by
  subst hn; rw [← ownBlock_slice A l.length c]; exact spoilInts_any base A c l hl w h
end Go.Proofs.YtaeoccpjdjafnaaGreat
namespace Go.Proofs.YtaeoccpjdjafnaaGreat.Im
open Go Go.RowKit
open Rl (En Lg)
open Qu (Cf)
set_option maxRecDepth 100000
set_option linter.unusedVariables false
local instance lo27 : Lo := ⟨0⟩
attribute [local go_sem ↓] loadAt_hard storeAt_hard loadAt_vote storeAt_vote loadAt_change storeAt_change loadAt_conf3 storeAt_conf3
theorem ownsB_tag {e : TypeId} {w : World} {base c k : Nat} {A : Option Addr} {l : List Nat} (h : OwnsB e w base A c l) (hk : blk A = some k) : ∃ cur, w.heap[k]? = some (.cells cur e (0, 0)) := by
  rcases h.row.2 with ⟨h0, _⟩ | ⟨g', cap, cur, hv, _, hh, _⟩
  · injection h0 with h0; rw [h0] at hk; cases hk
  · have hA : A = some ⟨g', 0, none⟩ := by injection hv
    rw [hA] at hk
    obtain rfl : g' = k := by injection hk
    exact ⟨cur, hh⟩
theorem ownsI_tag {e : TypeId} {w : World} {base c k : Nat} {A : Option Addr} {l : List Int} (h : OwnsI e w base A c l) (hk : blk A = some k) : ∃ cur, w.heap[k]? = some (.cells cur e (0, 0)) := by
  rcases h.row.2 with ⟨h0, _⟩ | ⟨g', cap, cur, hv, _, hh, _⟩
  · injection h0 with h0; rw [h0] at hk; cases hk
  · have hA : A = some ⟨g', 0, none⟩ := by injection hv
    rw [hA] at hk
    obtain rfl : g' = k := by injection hk
    exact ⟨cur, hh⟩
def InF (F : Nat → Prop) (w : World) (B N : Nat) : Prop := ∀ k cs t fr, Bl B N k → w.heap[k]? = some (.cells cs t fr) → Parts t → F k
theorem spoilE_in (F : Nat → Prop) (B N : Nat) (A : Option Addr) (c n : Nat) (L : List En) (hn : L.length = n) (hL : n ≤ 100000) (w : World) (h : OwnE w B N A c L) (hF : InF F w B N) :
    Calls Tryz.prog 86 #[.slice A n c] w fun e w' => e = .returned (.tuple #[]) ∧ Turned F w w' := by
  obtain ⟨M, h1, h2⟩ := h
  have e : n = M.length := by rw [← hn, ← h1, List.length_map]
  rw [e]
  refine spoilEs_any F A c M (by omega) w (h2.row.mono fun k hk => ?_) ⟨fun q hq => ⟨(h2.own q hq).1, fun k hk => ?_⟩, h2.apart⟩
  · obtain ⟨cur, hc⟩ := h2.row.tag hk
    exact hF k _ _ _ (h2.row.blk k hk) hc (.inl rfl)
  · obtain ⟨cur, hc⟩ := ownsB_tag (h2.own q hq).1 hk
    exact hF k _ _ _ ((h2.own q hq).2 k hk) hc (.inr (.inl rfl))
theorem range_sub {w : World} {b o : Nat} {cs : List Value} (h : w.rangeAt b o cs) (i n : Nat) : w.rangeAt b (o + i) ((cs.drop i).take n) := fun j v hv => by
  rw [List.getElem?_take] at hv
  split at hv
  · rw [List.getElem?_drop] at hv
    have := h (i + j) v hv
    rwa [← Nat.add_assoc] at this
  · cases hv
theorem run_ldConf3 (w : World) (b o : Nat) (cs : List Value) (h : cs.length = 3) (hc : w.rangeAt b o cs) : (ldX 28 (.pointer (some ⟨b, o, none⟩))).run Tryz.prog w = .ok (.agg cs.toArray) w :=
  run_loadAt_mid w b o 28 cs _ hc Tryz.underlying28 rfl (by rw [info_conf33, h])
set_option maxHeartbeats 1600000 in
theorem spoilConf_in (F : Nat → Prop) (x : Cf) (A0 A1 A2 : Option Addr) (c0 c1 c2 n0 n1 n2 : Nat) (e0 : x.old.length = n0) (e1 : x.new.length = n1) (e2 : x.lrn.length = n2) (m0 m1 m2 : Nat) (w : World) (h0 : OwnsI 3 w m0 A0 c0 x.old) (b0 : ∀ k, blk A0 = some k → k < m1) (h1 : OwnsI 3 w m1 A1 c1 x.new) (b1 : ∀ k, blk A1 = some k → k < m2) (h2 : OwnsI 3 w m2 A2 c2 x.lrn) (hm : m0 ≤ m1 ∧ m1 ≤ m2)
    (hF0 : ∀ k, blk A0 = some k → F k) (hF1 : ∀ k, blk A1 = some k → F k) (hF2 : ∀ k, blk A2 = some k → F k) :
    Calls Tryz.prog 31 #[.agg #[.slice A0 n0 c0, .slice A1 n1 c1, .slice A2 n2 c2]] w fun e w' => e = .returned (.tuple #[]) ∧ Turned F w w' := by
  obtain ⟨wA, hwA⟩ : ∃ wA, wA = w.alloc (.cells #[.slice A0 n0 c0, .slice A1 n1 c1, .slice A2 n2 c2] 28) := ⟨_, rfl⟩
  have hbA : Below w.heap.size w wA := by rw [hwA]; exact (Below.refl _ w).alloc (Nat.le_refl _) _
  have rA : wA.heap[w.heap.size]? = some (.cells #[.slice A0 n0 c0, .slice A1 n1 c1, .slice A2 n2 c2] 28 (0, 0)) := by rw [hwA]; exact heap_alloc_new _ _
  have r0 := ownsI_room h0
  have r1 := ownsI_room h1
  have r2 := ownsI_room h2
  have l0 := h0.blkLt
  have l1 := h1.blkLt
  have l2 := h2.blkLt
  have HP0 := hid (spoilI_N m0 A0 c0 x.old n0 e0 (by have := r0.1; omega) wA (h0.below hbA))
  have HP1 := hid (fun W (h : OwnsI 3 W m1 A1 c1 x.new) => spoilI_N m1 A1 c1 x.new n1 e1 (by have := r1.1; omega) W h)
  have HP2 := hid (fun W (h : OwnsI 3 W m2 A2 c2 x.lrn) => spoilI_N m2 A2 c2 x.lrn n2 e2 (by have := r2.1; omega) W h)
  have H0 := hid (And.intro (h1.below hbA) (And.intro (h2.below hbA) (And.intro b0 (And.intro b1 (And.intro hm (And.intro (Turned.ofBelow F hbA) rA))))))
  have HF := hid (And.intro hF0 (And.intro hF1 hF2))
  have HL := hid (And.intro l0 (And.intro l1 l2))
  have s0 := row_cell rA 0
  rw [hwA] at s0
  clear h0 h1 h2 b0 b1 hm hF0 hF1 hF2 r0 r1 r2 e0 e1 e2 l0 l1 l2 hbA rA
  go_enter Tryz.func31, Tryz.ntmps31
  go_wp2_with fail
  rw [← hwA]
  clear hwA s0
  refine HP0.out.mono ?_
  rintro e w1 ⟨rfl, hg1⟩
  have H1 : Hid (OwnsI 3 w1 m1 A1 c1 x.new ∧ OwnsI 3 w1 m2 A2 c2 x.lrn ∧ Turned F w w1 ∧ w1.heap[w.heap.size]? = some (.cells #[.slice A0 n0 c0, .slice A1 n1 c1, .slice A2 n2 c2] 28 (0, 0))) := hid (by
    obtain ⟨h1, h2, b0, b1, hm, ht, rA⟩ := H0.out
    have t1 : Turned (fun j => blk A0 = some j) wA w1 := Turned.ofGrown hg1 (fun j hj => hj)
    exact ⟨ownsI_turned h1 t1 (fun k hk e => by have := b0 k e; have := (h1.blkLt k hk).1; omega), ownsI_turned h2 t1 (fun k hk e => by have := b0 k e; have := (h2.blkLt k hk).1; omega), ht.trans (t1.mono HF.out.1), (t1.block _ (row_lt rA) (fun e => by have := (HL.out.1 _ e).2; omega)).trans rA⟩)
  have HQ1 := hid (HP1.out w1 H1.out.1)
  have s1 := row_cell H1.out.2.2.2 1
  clear hg1 HP0 HP1
  go_wp2_with fail
  refine HQ1.out.mono ?_
  rintro e w2 ⟨rfl, hg2⟩
  have H2 : Hid (OwnsI 3 w2 m2 A2 c2 x.lrn ∧ Turned F w w2 ∧ w2.heap[w.heap.size]? = some (.cells #[.slice A0 n0 c0, .slice A1 n1 c1, .slice A2 n2 c2] 28 (0, 0))) := hid (by
    obtain ⟨h1, h2, b0, b1, hm, ht, rA⟩ := H0.out
    have t1 : Turned (fun j => blk A1 = some j) w1 w2 := Turned.ofGrown hg2 (fun j hj => hj)
    exact ⟨ownsI_turned H1.out.2.1 t1 (fun k hk e => by have := b1 k e; have := (h2.blkLt k hk).1; omega), H1.out.2.2.1.trans (t1.mono HF.out.2.1), (t1.block _ (row_lt H1.out.2.2.2) (fun e => by have := (HL.out.2.1 _ e).2; omega)).trans H1.out.2.2.2⟩)
  have HQ2 := hid (HP2.out w2 H2.out.1)
  have s2 := row_cell H2.out.2.2 2
  clear hg2 HP2 HQ1 s1
  go_wp2_with fail
  refine HQ2.out.mono ?_
  rintro e w3 ⟨rfl, hg3⟩
  have H3 : Hid (Turned F w w3) := hid (H2.out.2.1.trans (Turned.ofGrown hg3 (fun j hj => HF.out.2.2 j hj)))
  clear hg3 HQ2 H2 H1 s2
  go_wp2_with fail
  go_end0
  exact ⟨rfl, H3.out⟩
structure Pc (w : World) (B N : Nat) (p : Pt) (a : Ad) (m0 m1 m2 m3 : Nat) : Prop where
  m : B ≤ m0 ∧ m0 ≤ m1 ∧ m1 ≤ m2 ∧ m2 ≤ m3 ∧ m3 ≤ N
  e : OwnE w B m0 a.e a.ce p.log.es
  o : OwnsI 3 w m0 a.o a.co p.cf.old
  bo : ∀ k, blk a.o = some k → k < m1
  n : OwnsI 3 w m1 a.n a.cn p.cf.new
  bn : ∀ k, blk a.n = some k → k < m2
  l : OwnsI 3 w m2 a.l a.cl p.cf.lrn
  bl : ∀ k, blk a.l = some k → k < m3
  s : OwnsB 5 w m3 a.s a.cs p.sn
  bs : ∀ k, blk a.s = some k → k < N
theorem Pc.of {w : World} {B N : Nat} {p : Pt} {a : Ad} (h : OwnPt w B N p a) : ∃ m0 m1 m2 m3, Pc w B N p a m0 m1 m2 m3 := by
  obtain ⟨m0, m1, m2, m3, hm, h1, h2, h3, h4, h5, h6⟩ := h
  exact ⟨m0, m1, m2, m3, hm, h1, h2.1, h2.2, h3.1, h3.2, h4.1, h4.2, h5.1, h5.2⟩
theorem Pc.two {w w1 : World} {B N m0 m1 m2 m3 : Nat} {p : Pt} {a : Ad} (h : Pc w B N p a m0 m1 m2 m3) (ht : Turned (Bl B m0) w w1) :
    OwnsI 3 w1 m0 a.o a.co p.cf.old ∧ OwnsI 3 w1 m1 a.n a.cn p.cf.new ∧ OwnsI 3 w1 m2 a.l a.cl p.cf.lrn ∧ OwnsB 5 w1 m3 a.s a.cs p.sn := by
  have hm := h.m
  exact ⟨ownsI_turned h.o ht (fun k hk e => by have := (h.o.blkLt k hk).1; have := e.2; omega), ownsI_turned h.n ht (fun k hk e => by have := (h.n.blkLt k hk).1; have := e.2; omega), ownsI_turned h.l ht (fun k hk e => by have := (h.l.blkLt k hk).1; have := e.2; omega), h.s.turned ht (fun k hk e => by have := (h.s.blkLt k hk).1; have := e.2; omega)⟩
def Tg (w : World) (B N : Nat) : Nat → Prop := fun k => Bl B N k ∧ ∃ cs t fr, w.heap[k]? = some (.cells cs t fr) ∧ Parts t
theorem Tg.inF (w : World) (B N : Nat) : InF (Tg w B N) w B N := fun k cs t fr hB hk ht => ⟨hB, cs, t, fr, hk, ht⟩
theorem Tg.mono {w : World} {B B' N N' : Nat} (hB : B' ≤ B) (hN : N ≤ N') : ∀ k, Tg w B N k → Tg w B' N' k := fun k h => ⟨⟨Nat.le_trans hB h.1.1, Nat.lt_of_lt_of_le h.1.2 hN⟩, h.2⟩
theorem Pc.tgO {w : World} {B N m0 m1 m2 m3 : Nat} {p : Pt} {a : Ad} (h : Pc w B N p a m0 m1 m2 m3) : (∀ k, blk a.o = some k → Tg w m0 m3 k) ∧ (∀ k, blk a.n = some k → Tg w m0 m3 k) ∧ (∀ k, blk a.l = some k → Tg w m0 m3 k) ∧ ∀ k, blk a.s = some k → Tg w m3 N k := by
  have hm := h.m
  refine ⟨fun k hk => ?_, fun k hk => ?_, fun k hk => ?_, fun k hk => ?_⟩
  · obtain ⟨cur, hc⟩ := ownsI_tag h.o hk
    exact ⟨⟨(h.o.blkLt k hk).1, by have := h.bo k hk; omega⟩, _, _, _, hc, .inr (.inr rfl)⟩
  · obtain ⟨cur, hc⟩ := ownsI_tag h.n hk
    exact ⟨⟨by have := (h.n.blkLt k hk).1; omega, by have := h.bn k hk; omega⟩, _, _, _, hc, .inr (.inr rfl)⟩
  · obtain ⟨cur, hc⟩ := ownsI_tag h.l hk
    exact ⟨⟨by have := (h.l.blkLt k hk).1; omega, by have := h.bl k hk; omega⟩, _, _, _, hc, .inr (.inr rfl)⟩
  · obtain ⟨cur, hc⟩ := ownsB_tag h.s hk
    exact ⟨⟨(h.s.blkLt k hk).1, h.bs k hk⟩, _, _, _, hc, .inr (.inl rfl)⟩
theorem Pc.below {w w1 : World} {B N m0 m1 m2 m3 : Nat} {p : Pt} {a : Ad} (h : Pc w B N p a m0 m1 m2 m3) (hb : Below w.heap.size w w1) : Pc w1 B N p a m0 m1 m2 m3 :=
  ⟨h.m, h.e.keep (Turned.ofBelow (fun _ => False) hb) (fun k hk => hk.elim), h.o.below hb, h.bo, h.n.below hb, h.bn, h.l.below hb, h.bl, h.s.below hb, h.bs⟩
theorem Tg.old {w w1 : World} {B N : Nat} (hb : Below w.heap.size w w1) (hN : N ≤ w.heap.size) : ∀ k, Tg w1 B N k → Tg w B N k := fun k h => by
  obtain ⟨h1, cs, t, fr, h2, h3⟩ := h
  exact ⟨h1, cs, t, fr, (hb.block k (by have := h1.2; omega)).symm.trans h2, h3⟩
set_option maxHeartbeats 1600000 in
theorem spoilHard_in (x : Hd) (a : Ad) (hx : x.p.log.es.length ≤ 100000) (B N : Nat) (w : World) (h : OwnPt w B N x.p a) (hN : N ≤ w.heap.size) :
    Calls Tryz.prog 84 #[.agg #[.int .i64 x.g, .int .i64 x.t, .int .i64 x.v, .int .i64 x.p.log.base, .int .i64 x.p.log.term, .slice a.e x.p.log.es.length a.ce, .slice a.o x.p.cf.old.length a.co, .slice a.n x.p.cf.new.length a.cn, .slice a.l x.p.cf.lrn.length a.cl, .slice a.s x.p.sn.length a.cs]] w fun e w' => e = .returned (.tuple #[]) ∧ Turned (Tg w B N) w w' := by
  obtain ⟨m0, m1, m2, m3, hp0⟩ := Pc.of h
  obtain ⟨wA, hwA⟩ : ∃ wA, wA = w.alloc (.cells #[.int .i64 x.g, .int .i64 x.t, .int .i64 x.v, .int .i64 x.p.log.base, .int .i64 x.p.log.term, .slice a.e x.p.log.es.length a.ce, .slice a.o x.p.cf.old.length a.co, .slice a.n x.p.cf.new.length a.cn, .slice a.l x.p.cf.lrn.length a.cl, .slice a.s x.p.sn.length a.cs] 75) := ⟨_, rfl⟩
  have hbA : Below w.heap.size w wA := by rw [hwA]; exact (Below.refl _ w).alloc (Nat.le_refl _) _
  have rA : wA.heap[w.heap.size]? = some (.cells #[.int .i64 x.g, .int .i64 x.t, .int .i64 x.v, .int .i64 x.p.log.base, .int .i64 x.p.log.term, .slice a.e x.p.log.es.length a.ce, .slice a.o x.p.cf.old.length a.co, .slice a.n x.p.cf.new.length a.cn, .slice a.l x.p.cf.lrn.length a.cl, .slice a.s x.p.sn.length a.cs] 75 (0, 0)) := by rw [hwA]; exact heap_alloc_new _ _
  have hp := hp0.below hbA
  have HP := hid hp
  have HE := hid (spoilE_in (Tg wA B m0) B m0 a.e a.ce x.p.log.es.length x.p.log.es rfl hx wA hp.e (Tg.inF wA B m0))
  have HA := hid (And.intro rA (And.intro hbA hN))
  have s0 := row_cell rA 5
  rw [hwA] at s0
  clear h hp hp0 hbA rA hN
  go_enter Tryz.func84, Tryz.ntmps84
  go_wp2_with fail
  rw [← hwA]
  clear hwA s0
  refine HE.out.mono ?_
  rintro e w1 ⟨rfl, ht1⟩
  obtain ⟨o1, o2, o3, o4⟩ := HP.out.two (ht1.mono fun k h => h.1)
  have hm := HP.out.m
  have tg := HP.out.tgO
  have r1 := (ht1.block _ (row_lt HA.out.1) (fun e => by have := e.1.2; have := HA.out.2.2; omega)).trans HA.out.1
  have s1 := run_ldConf3 w1 w.heap.size 6 ([.slice a.o x.p.cf.old.length a.co, .slice a.n x.p.cf.new.length a.cn, .slice a.l x.p.cf.lrn.length a.cl]) rfl (by have := range_sub (range_row (cs := [.int .i64 x.g, .int .i64 x.t, .int .i64 x.v, .int .i64 x.p.log.base, .int .i64 x.p.log.term, .slice a.e x.p.log.es.length a.ce, .slice a.o x.p.cf.old.length a.co, .slice a.n x.p.cf.new.length a.cn, .slice a.l x.p.cf.lrn.length a.cl, .slice a.s x.p.sn.length a.cs]) r1) 6 3; rwa [Nat.zero_add] at this)
  have HC := hid (spoilConf_in (Tg wA m0 m3) x.p.cf a.o a.n a.l a.co a.cn a.cl x.p.cf.old.length x.p.cf.new.length x.p.cf.lrn.length rfl rfl rfl m0 m1 m2 w1 o1 HP.out.bo o2 HP.out.bn o3 ⟨hm.2.1, hm.2.2.1⟩ tg.1 tg.2.1 tg.2.2.1)
  have H1 := hid (And.intro ht1 (And.intro o4 r1))
  clear ht1 o1 o2 o3 o4 hm tg HE r1
  go_wp2_with fail
  refine HC.out.mono ?_
  rintro e w2 ⟨rfl, ht2⟩
  have o4 := H1.out.2.1.turned ht2 (fun k hk e => by have := (H1.out.2.1.blkLt k hk).1; have := e.1.2; omega)
  have r2 := (ht2.block _ (row_lt H1.out.2.2) (fun e => by have := e.1.2; have := HA.out.2.2; have := HP.out.m; omega)).trans H1.out.2.2
  have s2 := row_cell r2 9
  have HS := hid (spoil_N m3 a.s a.cs x.p.sn x.p.sn.length rfl (by have := o4.room; omega) w2 o4)
  have H2 : Hid (Turned (Tg wA B N) wA w2) := hid (by
    have hm := HP.out.m
    exact (H1.out.1.mono (Tg.mono (Nat.le_refl _) (by omega))).trans (ht2.mono (Tg.mono (by omega) (by omega))))
  clear ht2 o4 HC H1 s1 r2
  go_wp2_with fail
  refine HS.out.mono ?_
  rintro e w3 ⟨rfl, hg3⟩
  have H3 : Hid (Turned (Tg w B N) w w3) := hid (((Turned.ofBelow _ HA.out.2.1).trans ((H2.out.trans (Turned.ofGrown hg3 (fun j hj => by
    have hm := HP.out.m
    exact Tg.mono (by omega) (Nat.le_refl _) j (HP.out.tgO.2.2.2 j hj)))).mono (Tg.old HA.out.2.1 HA.out.2.2))))
  clear hg3 HS H2 s2
  go_wp2_with fail
  go_end0
  exact ⟨rfl, H3.out⟩
def halfD {α : Type} (f : α → α) (L : List α) (k : Nat) : List α := (L.take k).map f ++ L.drop k
section
variable {α : Type} (f : α → α) (L : List α) (k : Nat)
theorem halfD_length (h : k ≤ L.length) : (halfD f L k).length = L.length := by unfold halfD; rw [List.length_append, List.length_map, List.length_take, List.length_drop]; omega
theorem halfD_get (h : k < L.length) : (halfD f L k)[k]'(by rw [halfD_length f L k (by omega)]; exact h) = L[k] := by
  have : (halfD f L k)[k]? = some L[k] := by
    unfold halfD
    rw [List.getElem?_append_right (by rw [List.length_map, List.length_take]; omega), List.length_map, List.length_take, List.getElem?_drop, show k + (k - min k L.length) = k by omega, List.getElem?_eq_getElem h]
  rw [List.getElem?_eq_getElem (by rw [halfD_length f L k (by omega)]; exact h)] at this
  exact Option.some.inj this
theorem halfD_set (h : k < L.length) : (halfD f L k).set k (f L[k]) = halfD f L (k + 1) := by
  unfold halfD
  have hl : ((L.take k).map f).length = k := by rw [List.length_map, List.length_take]; omega
  rw [List.set_append_right _ _ (by omega), hl, Nat.sub_self, List.drop_eq_getElem_cons h, List.set_cons_zero, List.take_succ_eq_append_getElem h, List.map_append, List.append_assoc]
  rfl
end
def deadH (_ : Hq) : Hq := ⟨⟨-77, 0, 0, ⟨⟨0, 0, []⟩, ⟨[], [], []⟩, []⟩⟩, A0⟩
def deadC (_ : Cq) : Cq := ⟨⟨-77, 0, 0, 0, 0, ⟨⟨0, 0, []⟩, ⟨[], [], []⟩, []⟩, ⟨0, 0, 0, 0, 0⟩⟩, A0⟩
def deadV (v : Vt) : Vt := ⟨bits .xor .i64 v.x 77, 0, 0, 0, 0⟩
set_option maxHeartbeats 800000 in
theorem spoilVs_any (B N : Nat) (A : Option Addr) (c n : Nat) (L : List Vt) (hn : L.length = n) (hL : n ≤ 100000) (w : World) (h : RowIn cellsV 5 60 w (Bl B N) A c L) :
    Calls Tryz.prog 85 #[.slice A n c] w fun e w' => e = .returned (.tuple #[]) ∧ Turned (Bl B N) w w' := by
  have H0 : Hid (RowIn cellsV 5 60 w (Bl B N) A c (halfD deadV L 0) ∧ Turned (Bl B N) w w) := hid ⟨by unfold halfD; simpa using h, Turned.refl _ _⟩
  clear h
  go_enter Tryz.func85, Tryz.ntmps85
  go_wp2_with fail
  go_loopw [2] (fun i wr => ∃ k : Nat, k ≤ n ∧ i = .int .i64 k ∧ Hid (RowIn cellsV 5 60 wr (Bl B N) A c (halfD deadV L k) ∧ Turned (Bl B N) w wr)) (fun i _ => n - (RowKit.intOf i).toNat)
  case atStart => exact ⟨0, by omega, rfl, H0⟩
  case round =>
    clear H0
    obtain ⟨k, hk, rfl, hS⟩ := hrel
    by_cases hlt : k < n
    · have hlt1 : k < L.length := by omega
      have hlt' : k < (halfD deadV L k).length := by rw [halfD_length deadV L k (by omega)]; exact hlt1
      obtain ⟨g, rfl, hg, hFg, hc, hf⟩ := hS.out.1.get k hlt'
      rw [halfD_get deadV L k hlt1] at hc
      have c0 : wr.cell? ⟨g, k * 5, none⟩ = some (.int .i64 L[k].x) := hc 0 (by omega)
      have hk0 : (k : Int) < (n : Int) := by omega
      have hth := RowIn.there hS.out.1 k hlt'
      have hst := stAt info_vote hth #[.int .i64 (bits .xor .i64 L[k].x 77), .int .i64 0, .int .i64 0, .int .i64 0, .int .i64 0] rfl (by simp [Value.oneCell'])
      have hrow4 := RowIn.setAll hS.out.1 k hlt' (deadV L[k])
      rw [halfD_set deadV L k hlt1] at hrow4
      have hT := turned_setCells g (cellsV (deadV L[k])) wr (k * 5)
      have HI : Hid (RowIn cellsV 5 60 (wr.setCells g (k * 5) (cellsV (deadV L[k]))) (Bl B N) (some ⟨g, 0, none⟩) c (halfD deadV L (k + 1)) ∧ Turned (Bl B N) w (wr.setCells g (k * 5) (cellsV (deadV L[k])))) := hid ⟨hrow4, hS.out.2.then_ hT (fun j _ hj => by rw [hj]; exact hFg)⟩
      have hst' : (stX 60 (.pointer (some ⟨g, k * 5, none⟩)) (.agg #[.int .i64 (bits .xor .i64 L[k].x 77), .int .i64 0, .int .i64 0, .int .i64 0, .int .i64 0])).run Tryz.prog wr = .ok () (wr.setCells g (k * 5) (cellsV (deadV L[k]))) := hst
      clear hst hrow4 hT hth hc hf hlt' hS
      generalize wr.setCells g (k * 5) (cellsV (deadV L[k])) = w4 at *
      go_wp2_with fail
      go_roundw
      case rel => exact ⟨k + 1, by omega, by go_num, HI⟩
      case measure => simp [RowKit.intOf]; omega
    · obtain rfl : k = n := by omega
      have hkk : ¬ (k : Int) < (k : Int) := by omega
      have HF := hid hS.out.2
      clear hS
      go_wp2_with fail
      go_end0
      exact ⟨rfl, HF.out⟩
structure SpH (w wr : World) (B N : Nat) (A : Option Addr) (c : Nat) (M : List Hq) (k : Nat) (bx : Nat) (cs : Array Value) : Prop where
  row : RowIn cellsH 10 75 wr (Bl B N) A c (halfD deadH M k)
  pts : ∃ m, B ≤ m ∧ OwnPts wr m N ((M.drop k).map fun q => (q.h.p, q.a))
  tur : Turned (Bl B N) w wr
  box : wr.heap[bx]? = some (.cells cs 25 (0, 0))
set_option maxHeartbeats 3200000 in
theorem spoilIm_any (B N : Nat) (i : Ia) (nh nv : Nat) (Q : List Hq) (L : List Vt) (hnh : nh = Q.length) (hnv : nv = L.length) (hlh : nh ≤ 100000) (hlv : nv ≤ 100000) (hf : ∀ q ∈ Q, q.h.p.log.es.length ≤ 100000) (w : World) (h : OwnIm w B N i Q L) (hN : N ≤ w.heap.size) :
    Calls Tryz.prog 29 #[.agg #[.slice i.h nh i.ch, .slice i.v nv i.cv]] w fun e w' => e = .returned (.tuple #[]) ∧ Turned (Bl B N) w w' := by
  obtain ⟨wA, hwA⟩ : ∃ wA, wA = w.alloc (.cells #[.slice i.h nh i.ch, .slice i.v nv i.cv] 25) := ⟨_, rfl⟩
  have hbA : Below w.heap.size w wA := by rw [hwA]; exact (Below.refl _ w).alloc (Nat.le_refl _) _
  have rA : wA.heap[w.heap.size]? = some (.cells #[.slice i.h nh i.ch, .slice i.v nv i.cv] 25 (0, 0)) := by rw [hwA]; exact heap_alloc_new _ _
  obtain ⟨bx, hbx⟩ : ∃ b, b = w.heap.size := ⟨_, rfl⟩
  rw [← hbx] at rA
  obtain ⟨m, hm1, hm2, hh, hv, hok⟩ := h.below (hbA.mono hN)
  have H0 : Hid (SpH wA wA B m i.h i.ch Q 0 bx #[.slice i.h nh i.ch, .slice i.v nv i.cv]) := hid ⟨by unfold halfD; simpa using hh.row, ⟨B, Nat.le_refl _, by simpa using hh.pts⟩, Turned.refl _ _, rA⟩
  have HV := hid (And.intro hm1 (And.intro hm2 (And.intro hv (And.intro (show N ≤ bx by omega) (And.intro hbA (show N ≤ wA.heap.size by have := hbA.size; omega))))))
  have HF := hid hf
  have HNN := hid (And.intro hnh hnv)
  clear hh hv hok hm1 hm2 hf h hN hbA rA hnh hnv
  go_enter Tryz.func29, Tryz.ntmps29
  go_wp2_with fail
  try rw [← hwA]
  try rw [← hbx]
  clear hwA hbx
  go_loopw [2] (fun j wr => ∃ k : Nat, k ≤ nh ∧ j = .int .i64 k ∧ Hid (SpH wA wr B m i.h i.ch Q k bx #[.slice i.h nh i.ch, .slice i.v nv i.cv])) (fun j _ => nh - (RowKit.intOf j).toNat)
  case atStart => exact ⟨0, by omega, rfl, H0⟩
  case round =>
    clear H0
    obtain ⟨k, hk, rfl, hS⟩ := hrel
    have b0 := row_cell hS.out.box 0
    by_cases hlt : k < nh
    · have hlt1 : k < Q.length := by have := HNN.out.1; omega
      have hlt' : k < (halfD deadH Q k).length := by rw [halfD_length deadH Q k (by omega)]; exact hlt1
      obtain ⟨g, hA⟩ : ∃ g, i.h = some ⟨g, 0, none⟩ := by
        obtain ⟨g, e, _⟩ := hS.out.row.get k hlt'
        exact ⟨g, e⟩
      have hrow := hS.out.row
      rw [hA] at hrow b0
      have HAA := hid hA
      clear hA
      have hrange := RowIn.range hrow k hlt'
      rw [halfD_get deadH Q k hlt1] at hrange
      have hkn : (k : Int) < (nh : Int) := by omega
      obtain ⟨q, hq⟩ : ∃ q, q = Q[k] := ⟨_, rfl⟩
      have hqm : q ∈ Q := by rw [hq]; exact List.getElem_mem hlt1
      rw [← hq] at hrange
      obtain ⟨m', hm', hpts⟩ := hS.out.pts
      rw [List.drop_eq_getElem_cons hlt1, ← hq, List.map_cons] at hpts
      obtain ⟨m'', hm'', hp, hps⟩ := hpts
      have hset := halfD_set deadH Q k hlt1
      obtain ⟨x, ad⟩ := q
      have hld : (ldX 75 (.pointer (some ⟨g, k * 10, none⟩))).run Tryz.prog wr = .ok (.agg #[.int .i64 x.g, .int .i64 x.t, .int .i64 x.v, .int .i64 x.p.log.base, .int .i64 x.p.log.term, .slice ad.e x.p.log.es.length ad.ce, .slice ad.o x.p.cf.old.length ad.co, .slice ad.n x.p.cf.new.length ad.cn, .slice ad.l x.p.cf.lrn.length ad.cl, .slice ad.s x.p.sn.length ad.cs]) wr := ldH wr g (k * 10) (cellsH ⟨x, ad⟩) rfl hrange
      have HSP := hid (spoilHard_in x ad (HF.out _ hqm) m' m'' wr hp (by have := hps.le; have := HV.out.2.1; have := HV.out.2.2.2.2.2; have := hS.out.tur.size; omega))
      have HI := hid (And.intro hrow (And.intro hset (And.intro hlt' (And.intro hps (And.intro hm' hm'')))))
      clear hrow hrange hqm hq hp hps hset hlt' hm' hm''
      go_wp2_with fail
      refine HSP.out.mono ?_
      rintro e w2 ⟨rfl, ht2⟩
      obtain ⟨hrow, hset, hlt', hps, hm', hm''⟩ := HI.out
      obtain ⟨cur, hcur⟩ := hrow.tag rfl
      have hle := hps.le
      have hbx2 := (ht2.block _ (row_lt hS.out.box) (fun e => by have h1 := e.1.2; have := HV.out.2.1; have := HV.out.2.2.2.1; omega)).trans hS.out.box
      have b2 := row_cell hbx2 0
      rw [HAA.out] at b2
      have hrow2 := hrow.keep ht2 (fun j hj e => by
        obtain rfl : g = j := by injection hj
        obtain ⟨_, cs, t, fr, h1, h2⟩ := e
        rw [hcur] at h1
        have := (Obj.cells.inj (Option.some.inj h1)).2.1
        rw [← this] at h2
        rcases h2 with e | e | e <;> exact absurd e (by decide))
      have hth := RowIn.there hrow2 k hlt'
      have hst := stAt info_hard hth #[.int .i64 (-77), .int .i64 0, .int .i64 0, .int .i64 0, .int .i64 0, .slice none 0 0, .slice none 0 0, .slice none 0 0, .slice none 0 0, .slice none 0 0] rfl (by simp [Value.oneCell'])
      have hrow4 := RowIn.setAll hrow2 k hlt' (deadH Q[k])
      rw [hset] at hrow4
      have hT := turned_setCells g (cellsH (deadH Q[k])) w2 (k * 10)
      have HN : Hid (SpH wA (w2.setCells g (k * 10) (cellsH (deadH Q[k]))) B m (some ⟨g, 0, none⟩) i.ch Q (k + 1) bx #[.slice i.h nh i.ch, .slice i.v nv i.cv]) := hid (by
        have ht2' : Turned (Bl m' m'') wr w2 := ht2.mono (fun k h => h.1)
        have hps2 := OwnPts.keep_ hps ht2' (fun k hk hB => by have h1 := hk.2; have h2 := hB.1; omega)
        obtain ⟨cur2, hcur2⟩ := hrow2.tag rfl
        have hgr : w2.grownBy (w2.setCells g (k * 10) (cellsH (deadH Q[k]))) (some g) := ⟨hT.os, hT.tape, hT.output, hT.size, fun j hj hne => hT.block j hj (fun e => hne (by rw [e]))⟩
        have kp : Kp Parts w2 (w2.setCells g (k * 10) (cellsH (deadH Q[k]))) := Kp.ofGrown hcur2 (by rintro (e | e | e) <;> exact absurd e (by decide)) hgr
        have hgB := hrow.blk g rfl
        exact ⟨hrow4, ⟨m'', by omega, OwnPts.kp_ hps2 kp⟩, (hS.out.tur.trans (ht2'.mono (fun k h => ⟨by have := h.1; omega, by have := h.2; omega⟩))).then_ hT (fun j _ hj => by rw [hj]; exact hgB), (hT.block _ (row_lt hbx2) (fun e => by have h1 := hgB.2; have := HV.out.2.1; have := HV.out.2.2.2.1; omega)).trans hbx2⟩)
      have hst' : (stX 75 (.pointer (some ⟨g, k * 10, none⟩)) (.agg #[.int .i64 (-77), .int .i64 0, .int .i64 0, .int .i64 0, .int .i64 0, .slice none 0 0, .slice none 0 0, .slice none 0 0, .slice none 0 0, .slice none 0 0])).run Tryz.prog w2 = .ok () (w2.setCells g (k * 10) (cellsH (deadH Q[k]))) := hst
      rw [← HAA.out] at HN
      clear hst hrow4 hT hth hrow2 hrow hset hps HI HSP ht2 hcur hS hle hm' hm'' hbx2 b0 hld
      generalize w2.setCells g (k * 10) (cellsH (deadH Q[k])) = w4 at *
      go_wp2_with fail
      go_roundw
      case rel => exact ⟨k + 1, by omega, by go_num, HN⟩
      case measure => simp [RowKit.intOf]; omega
    · obtain rfl : k = nh := by omega
      have hkk : ¬ (k : Int) < (k : Int) := by omega
      have hvr := HV.out.2.2.1.keep hS.out.tur (fun j hj e => by have h1 := (HV.out.2.2.1.blk j hj).1; have h2 := e.2; omega)
      have HVS := hid (spoilVs_any m N i.v i.cv nv L HNN.out.2.symm hlv wr hvr)
      have HT := hid hS.out.tur
      have b1 := row_cell hS.out.box 1
      clear hvr hS
      go_wp2_with fail
      refine HVS.out.mono ?_
      rintro e w2 ⟨rfl, ht2⟩
      have HF : Hid (Turned (Bl B N) w w2) := hid ((Turned.ofBelow _ HV.out.2.2.2.2.1).trans ((HT.out.mono (fun k h => ⟨h.1, by have := h.2; have := HV.out.2.1; omega⟩)).trans (ht2.mono (fun k h => ⟨by have := h.1; have := HV.out.1; omega, h.2⟩))))
      clear ht2 HVS HT b0 b1
      go_wp2_with fail
      go_end0
      exact ⟨rfl, HF.out⟩
end Go.Proofs.YtaeoccpjdjafnaaGreat.Im
namespace Go.Proofs.YtaeoccpjdjafnaaGreat.Im
open Go Go.RowKit
open Rl (En Lg)
open Qu (Cf)
set_option maxRecDepth 100000
set_option linter.unusedVariables false
attribute [local go_sem ↓] loadAt_log1 storeAt_log1
theorem run_ldLog3 (w : World) (b o : Nat) (cs : List Value) (h : cs.length = 3) (hc : w.rangeAt b o cs) : (ldX 58 (.pointer (some ⟨b, o, none⟩))).run Tryz.prog w = .ok (.agg cs.toArray) w :=
  run_loadAt_mid w b o 58 cs _ hc Tryz.underlying58 rfl (by rw [info_log33, h])
set_option maxHeartbeats 3200000 in
theorem bases_any (i : Ia) (nh nv : Nat) (Q : List Hq) (hnh : nh = Q.length) (hlh : nh ≤ 100000) (w : World) (h : IsHds w w.heap.size i.h Q) :
    Calls Tryz.prog 35 #[.agg #[.slice i.h nh i.ch, .slice i.v nv i.cv]] w fun e w' => e = .returned (.bool (basesB Q)) ∧ Below w.heap.size w w' := by
  obtain ⟨w1, hw1⟩ : ∃ w1, w1 = w.alloc (.cells #[.slice i.h nh i.ch, .slice i.v nv i.cv] 25) := ⟨_, rfl⟩
  obtain ⟨b, hb⟩ : ∃ b, b = w.heap.size := ⟨_, rfl⟩
  have H1 : Hid (w1.heap[b]? = some (.cells #[.slice i.h nh i.ch, .slice i.v nv i.cv] 25 (0, 0)) ∧ Below w.heap.size w w1) := hid (by
    rw [hw1, hb]
    exact ⟨heap_alloc_new w _, (Below.refl _ w).alloc (Nat.le_refl _) _⟩)
  have HN := hid (And.intro hnh (And.intro h (show b = w.heap.size from hb)))
  clear hnh h
  go_enter Tryz.func35, Tryz.ntmps35
  go_wp2_with fail
  try rw [← hw1]
  try rw [← hb]
  clear hw1 hb
  go_loopw [3] (fun j wr => ∃ k : Nat, k ≤ nh ∧ j = .int .i64 (k : Int) ∧ Hid ((wr.heap[b]? = some (.cells #[.slice i.h nh i.ch, .slice i.v nv i.cv] 25 (0, 0)) ∧ Below w.heap.size w wr) ∧ ∀ q ∈ Q.take k, (0 ≤ q.h.p.log.base ∧ q.h.p.log.base ≤ 1099511627776) ∧ (0 ≤ q.h.p.log.term ∧ q.h.p.log.term ≤ 1099511627776))) (fun j _ => nh - (RowKit.intOf j).toNat)
  case atStart => exact ⟨0, Nat.zero_le _, rfl, hid ⟨H1.out, fun q hq => by cases hq⟩⟩
  case round =>
    clear H1
    obtain ⟨k, hk, rfl, HI⟩ := hrel
    have r0 := row_cell HI.out.1.1 0
    by_cases hlt : k < nh
    · have hlt0 : (k : Int) < (nh : Int) := by omega
      have hkQ : k < Q.length := by have := HN.out.1; omega
      obtain ⟨g, off, hA, hg, hcs⟩ := (HN.out.2.1.below HI.out.1.2).row.at_ k hkQ
      obtain ⟨q, hq⟩ : ∃ q, q = Q[k] := ⟨_, rfl⟩
      have hr := hcs k hkQ
      have hnum := (HN.out.2.1.pt _ (List.getElem_mem hkQ)).num
      rw [← hq] at hr hnum
      have HQ := hid (And.intro hq hnum)
      obtain ⟨x, ax⟩ := q
      rw [hA] at r0
      have hld := run_ldLog3 wr g (off + k * 10 + 3) ([.int .i64 x.p.log.base, .int .i64 x.p.log.term, .slice ax.e x.p.log.es.length ax.ce]) rfl (range_sub hr 3 3)
      have hst := stNew wr 58 3 info_log33 #[.int .i64 0, .int .i64 0, .slice none 0 0] #[.int .i64 x.p.log.base, .int .i64 x.p.log.term, .slice ax.e x.p.log.es.length ax.ce] rfl rfl (by simp [Value.oneCell'])
      obtain ⟨w4, hw4⟩ : ∃ w4, w4 = wr.alloc (.cells #[.int .i64 x.p.log.base, .int .i64 x.p.log.term, .slice ax.e x.p.log.es.length ax.ce] 58) := ⟨_, rfl⟩
      rw [← hw4] at hst
      have H4 : Hid ((w4.heap[b]? = some (.cells #[.slice i.h nh i.ch, .slice i.v nv i.cv] 25 (0, 0)) ∧ Below w.heap.size w w4) ∧ w4.heap[wr.heap.size]? = some (.cells #[.int .i64 x.p.log.base, .int .i64 x.p.log.term, .slice ax.e x.p.log.es.length ax.ce] 58 (0, 0))) := hid (by
        have hb4 : Below wr.heap.size wr w4 := by rw [hw4]; exact (Below.refl _ wr).alloc (Nat.le_refl _) _
        exact ⟨⟨(hb4.block _ (row_lt HI.out.1.1)).trans HI.out.1.1, HI.out.1.2.trans (hb4.mono HI.out.1.2.size)⟩, by rw [hw4]; exact heap_alloc_new wr _⟩)
      have c0 : w4.cell? ⟨wr.heap.size, 0, none⟩ = some (.int .i64 x.p.log.base) := row_cell H4.out.2 0
      have c1 : w4.cell? ⟨wr.heap.size, 1, none⟩ = some (.int .i64 x.p.log.term) := row_cell H4.out.2 1
      have HBAD : Hid (¬ ((0 ≤ x.p.log.base ∧ x.p.log.base ≤ 1099511627776) ∧ (0 ≤ x.p.log.term ∧ x.p.log.term ≤ 1099511627776)) → basesB Q = false) := hid (fun hn => basesB_no k hkQ (by rw [← HQ.out.1]; exact hn))
      clear hcs hr hq hA hg hw4 hnum hlt
      by_cases h1 : x.p.log.base < 0
      · have HV := hid (HBAD.out (by omega))
        go_wp2_with fail
        go_ret
        exact ⟨by rw [HV.out]; rfl, H4.out.1.2⟩
      · by_cases h2 : 1099511627776 < x.p.log.base
        · have HV := hid (HBAD.out (by omega))
          go_wp2_with fail
          go_ret
          exact ⟨by rw [HV.out]; rfl, H4.out.1.2⟩
        · by_cases h3 : x.p.log.term < 0
          · have HV := hid (HBAD.out (by omega))
            go_wp2_with fail
            go_ret
            exact ⟨by rw [HV.out]; rfl, H4.out.1.2⟩
          · by_cases h4 : 1099511627776 < x.p.log.term
            · have HV := hid (HBAD.out (by omega))
              go_wp2_with fail
              go_ret
              exact ⟨by rw [HV.out]; rfl, H4.out.1.2⟩
            · have HF : Hid ((w4.heap[b]? = some (.cells #[.slice i.h nh i.ch, .slice i.v nv i.cv] 25 (0, 0)) ∧ Below w.heap.size w w4) ∧ ∀ q ∈ Q.take (k + 1), (0 ≤ q.h.p.log.base ∧ q.h.p.log.base ≤ 1099511627776) ∧ (0 ≤ q.h.p.log.term ∧ q.h.p.log.term ≤ 1099511627776)) := hid ⟨H4.out.1, basesB_take Q k hkQ HI.out.2 (by rw [← HQ.out.1]; exact ⟨⟨Int.not_lt.1 h1, Int.not_lt.1 h2⟩, Int.not_lt.1 h3, Int.not_lt.1 h4⟩)⟩
              clear HI HBAD H4 HQ
              go_wp2_with fail
              go_roundw
              case rel => exact ⟨k + 1, by omega, by go_num, HF⟩
              case measure => simp [RowKit.intOf]; omega
    · obtain rfl : k = nh := by omega
      have hlt0 : ¬ (k : Int) < (k : Int) := by omega
      have HV : Hid (basesB Q = true) := hid (basesB_yes (by have := HI.out.2; rwa [HN.out.1, List.take_length] at this))
      clear hlt
      go_wp2_with fail
      go_ret
      exact ⟨by rw [HV.out]; rfl, HI.out.1.2⟩
end Go.Proofs.YtaeoccpjdjafnaaGreat.Im
namespace Go.Proofs.YtaeoccpjdjafnaaGreat.Im
open Go Go.RowKit
open Rl (En Lg)
open Qu (Cf)
set_option maxRecDepth 100000
set_option linter.unusedVariables false
attribute [local go_sem ↓] loadAt_hard storeAt_hard loadAt_change storeAt_change loadAt_log1 storeAt_log1 loadAt_conf3 storeAt_conf3
local instance lo14 : Lo := ⟨0⟩
set_option maxHeartbeats 3200000 in
theorem copyH_any (x : Hd) (ad : Ad) (hf : FewK x.p ∧ Rl.Few x.p.log.es) (hsn : x.p.sn.length ≤ 140737488355328) (w : World) (h : IsPt w w.heap.size x.p ad) :
    Calls Tryz.prog 49 #[.agg #[.int .i64 x.g, .int .i64 x.t, .int .i64 x.v, .int .i64 x.p.log.base, .int .i64 x.p.log.term, .slice ad.e x.p.log.es.length ad.ce, .slice ad.o x.p.cf.old.length ad.co, .slice ad.n x.p.cf.new.length ad.cn, .slice ad.l x.p.cf.lrn.length ad.cl, .slice ad.s x.p.sn.length ad.cs]] w fun e w' => ∃ a' : Ad, e = .returned (.agg #[.int .i64 x.g, .int .i64 x.t, .int .i64 x.v, .int .i64 x.p.log.base, .int .i64 x.p.log.term, .slice a'.e x.p.log.es.length a'.ce, .slice a'.o x.p.cf.old.length a'.co, .slice a'.n x.p.cf.new.length a'.cn, .slice a'.l x.p.cf.lrn.length a'.cl, .slice a'.s x.p.sn.length a'.cs]) ∧ OwnPt w' w.heap.size w'.heap.size x.p a' ∧ Below w.heap.size w w' := by
  obtain ⟨wA, hwA⟩ : ∃ wA, wA = (w.alloc (.cells #[.int .i64 x.g, .int .i64 x.t, .int .i64 x.v, .int .i64 x.p.log.base, .int .i64 x.p.log.term, .slice ad.e x.p.log.es.length ad.ce, .slice ad.o x.p.cf.old.length ad.co, .slice ad.n x.p.cf.new.length ad.cn, .slice ad.l x.p.cf.lrn.length ad.cl, .slice ad.s x.p.sn.length ad.cs] 75)).alloc (.cells #[.int .i64 0, .int .i64 0, .int .i64 0, .int .i64 0, .int .i64 0, .slice none 0 0, .slice none 0 0, .slice none 0 0, .slice none 0 0, .slice none 0 0] 75) := ⟨_, rfl⟩
  obtain ⟨b0, hb0⟩ : ∃ b, b = w.heap.size := ⟨_, rfl⟩
  obtain ⟨b1, hb1⟩ : ∃ b, b = w.heap.size + 1 := ⟨_, rfl⟩
  have hsA : wA.heap.size = w.heap.size + 2 := by rw [hwA]; simp
  have hbA : Below w.heap.size w wA := by rw [hwA]; exact ((Below.refl _ w).alloc (Nat.le_refl _) _).alloc (by simp) _
  have hr0 : wA.heap[b0]? = some (.cells #[.int .i64 x.g, .int .i64 x.t, .int .i64 x.v, .int .i64 x.p.log.base, .int .i64 x.p.log.term, .slice ad.e x.p.log.es.length ad.ce, .slice ad.o x.p.cf.old.length ad.co, .slice ad.n x.p.cf.new.length ad.cn, .slice ad.l x.p.cf.lrn.length ad.cl, .slice ad.s x.p.sn.length ad.cs] 75 (0, 0)) := by rw [hwA, heap_alloc_old _ _ (by rw [hb0]; simp), hb0]; exact heap_alloc_new w _
  have hr1 : wA.heap[b1]? = some (.cells #[.int .i64 0, .int .i64 0, .int .i64 0, .int .i64 0, .int .i64 0, .slice none 0 0, .slice none 0 0, .slice none 0 0, .slice none 0 0, .slice none 0 0] 75 (0, 0)) := by
    have := heap_alloc_new (w.alloc (.cells #[.int .i64 x.g, .int .i64 x.t, .int .i64 x.v, .int .i64 x.p.log.base, .int .i64 x.p.log.term, .slice ad.e x.p.log.es.length ad.ce, .slice ad.o x.p.cf.old.length ad.co, .slice ad.n x.p.cf.new.length ad.cn, .slice ad.l x.p.cf.lrn.length ad.cl, .slice ad.s x.p.sn.length ad.cs] 75)) (.cells #[.int .i64 0, .int .i64 0, .int .i64 0, .int .i64 0, .int .i64 0, .slice none 0 0, .slice none 0 0, .slice none 0 0, .slice none 0 0, .slice none 0 0] 75)
    rw [World.size_alloc, ← hwA, ← hb1] at this
    exact this
  have HL := hid (copyLog_any x.p.log ad.e ad.ce x.p.log.es.length rfl hf.1.es hf.2 wA ((h.es.below hbA).more hbA.size))
  have ld0 := ldLogH (k := 3) hr0 rfl rfl rfl
  rw [hwA, hb0] at ld0
  have H0 := hid (And.intro hr0 (And.intro hr1 (And.intro hbA (And.intro hsA (And.intro hb0 hb1)))))
  have HP := hid (And.intro h hf)
  have HSN := hid hsn
  clear hr0 hr1 hbA hsA h hf hsn
  go_enter Tryz.func49, Tryz.ntmps49
  go_wp2_with fail
  rw [← hwA]
  clear hwA ld0
  refine HL.out.mono ?_
  rintro e w1 ⟨A5, c5, rfl, ho1, hb1w⟩
  rw [← hb1, ← hb0]
  have hne : b0 ≠ b1 := by omega
  have z0 := H0.out.2.2.2.1
  have hb0A : b0 < wA.heap.size := by omega
  have hb1A : b1 < wA.heap.size := by omega
  have hlo0 : w.heap.size ≤ b0 := by omega
  have hlo1 : w.heap.size ≤ b1 := by omega
  have hAsz : w.heap.size ≤ wA.heap.size := by omega
  clear hb0 hb1 z0
  obtain ⟨ad1, had1⟩ : ∃ a : Ad, a = { ad with e := A5, ce := c5 } := ⟨_, rfl⟩
  have hr01 := (hb1w.block _ (by omega)).trans H0.out.1
  have hr11 := (hb1w.block _ (by omega)).trans H0.out.2.1
  have hst1 := stAt info_log33 (conf_there hr01 3 3 (by simp)) #[.int .i64 x.p.log.base, .int .i64 x.p.log.term, .slice A5 x.p.log.es.length c5] rfl (by simp [Value.oneCell'])
  have hT2 := turned_setCells b0 [.int .i64 x.p.log.base, .int .i64 x.p.log.term, .slice A5 x.p.log.es.length c5] w1 3
  have hr02 : (w1.setCells b0 3 [.int .i64 x.p.log.base, .int .i64 x.p.log.term, .slice A5 x.p.log.es.length c5]).heap[b0]? = some (.cells #[.int .i64 x.g, .int .i64 x.t, .int .i64 x.v, .int .i64 x.p.log.base, .int .i64 x.p.log.term, .slice ad1.e x.p.log.es.length ad1.ce, .slice ad1.o x.p.cf.old.length ad1.co, .slice ad1.n x.p.cf.new.length ad1.cn, .slice ad1.l x.p.cf.lrn.length ad1.cl, .slice ad1.s x.p.sn.length ad1.cs] 75 (0, 0)) := by
    rw [had1]
    exact row_set (row_set (row_set hr01 3 (.int .i64 x.p.log.base)) 4 (.int .i64 x.p.log.term)) 5 (.slice A5 x.p.log.es.length c5)
  obtain ⟨w2, hw2⟩ : ∃ w2, w2 = w1.setCells b0 3 [.int .i64 x.p.log.base, .int .i64 x.p.log.term, .slice A5 x.p.log.es.length c5] := ⟨_, rfl⟩
  have hst1' : (stX 58 (.pointer (some ⟨b0, 3, none⟩)) (.agg #[.int .i64 x.p.log.base, .int .i64 x.p.log.term, .slice A5 x.p.log.es.length c5])).run Tryz.prog w1 = .ok () w2 := by rw [hw2]; exact hst1
  rw [← hw2] at hT2 hr02
  clear hst1 hw2
  have hr12 := (hT2.block b1 (row_lt hr11) (by omega)).trans hr11
  have hbel1 : Below w.heap.size w w1 := H0.out.2.2.1.trans (hb1w.mono (by omega))
  have hbel2 : Below w.heap.size w w2 := hbel1.trans (hT2.below hbel1.size (fun k hk => by omega))
  have ld2 := ldConfH (k := 6) hr02 rfl rfl rfl
  have HC := hid (copyConf_sep w.heap.size x.p.cf HP.out.2.1.sh ad.o ad.n ad.l ad.co ad.cn ad.cl w2 (HP.out.1.cis.below hbel2) hbel2.size)
  have e1o : ad1.o = ad.o ∧ ad1.co = ad.co ∧ ad1.n = ad.n ∧ ad1.cn = ad.cn ∧ ad1.l = ad.l ∧ ad1.cl = ad.cl := by rw [had1]; exact ⟨rfl, rfl, rfl, rfl, rfl, rfl⟩
  rw [e1o.1, e1o.2.1, e1o.2.2.1, e1o.2.2.2.1, e1o.2.2.2.2.1, e1o.2.2.2.2.2] at ld2
  have H2 := hid (And.intro hr02 (And.intro hr12 (And.intro hbel2 (And.intro ho1 (And.intro hT2 (And.intro hb1w had1))))))
  clear hr01 hr11 hT2 hr02 hr12 hbel1 hbel2 e1o ho1 hb1w had1
  go_wp2_with fail
  refine HC.out.mono ?_
  rintro e w3 ⟨B0, B1, B2, p0, p1, p2, rfl, ⟨m1, m2, ⟨g1, g2, g3⟩, o0, o1, o2⟩, hcis, hb3⟩
  obtain ⟨ad2, had2⟩ : ∃ a : Ad, a = { ad1 with o := B0, co := p0, n := B1, cn := p1, l := B2, cl := p2 } := ⟨_, rfl⟩
  have hr03 := (hb3.block _ (row_lt H2.out.1)).trans H2.out.1
  have hr13 := (hb3.block _ (row_lt H2.out.2.1)).trans H2.out.2.1
  have hst3 := stAt info_conf33 (conf_there hr03 6 3 (by simp)) #[.slice B0 x.p.cf.old.length p0, .slice B1 x.p.cf.new.length p1, .slice B2 x.p.cf.lrn.length p2] rfl (by simp [Value.oneCell'])
  have hT4 := turned_setCells b0 [.slice B0 x.p.cf.old.length p0, .slice B1 x.p.cf.new.length p1, .slice B2 x.p.cf.lrn.length p2] w3 6
  have hr04 : (w3.setCells b0 6 [.slice B0 x.p.cf.old.length p0, .slice B1 x.p.cf.new.length p1, .slice B2 x.p.cf.lrn.length p2]).heap[b0]? = some (.cells #[.int .i64 x.g, .int .i64 x.t, .int .i64 x.v, .int .i64 x.p.log.base, .int .i64 x.p.log.term, .slice ad2.e x.p.log.es.length ad2.ce, .slice ad2.o x.p.cf.old.length ad2.co, .slice ad2.n x.p.cf.new.length ad2.cn, .slice ad2.l x.p.cf.lrn.length ad2.cl, .slice ad2.s x.p.sn.length ad2.cs] 75 (0, 0)) := by
    rw [had2]
    exact row_set (row_set (row_set hr03 6 (.slice B0 x.p.cf.old.length p0)) 7 (.slice B1 x.p.cf.new.length p1)) 8 (.slice B2 x.p.cf.lrn.length p2)
  obtain ⟨w4, hw4⟩ : ∃ w4, w4 = w3.setCells b0 6 [.slice B0 x.p.cf.old.length p0, .slice B1 x.p.cf.new.length p1, .slice B2 x.p.cf.lrn.length p2] := ⟨_, rfl⟩
  have hst3' : (stX 28 (.pointer (some ⟨b0, 6, none⟩)) (.agg #[.slice B0 x.p.cf.old.length p0, .slice B1 x.p.cf.new.length p1, .slice B2 x.p.cf.lrn.length p2])).run Tryz.prog w3 = .ok () w4 := by rw [hw4]; exact hst3
  rw [← hw4] at hT4 hr04
  clear hst3 hw4
  have hr14 := (hT4.block b1 (row_lt hr13) (by omega)).trans hr13
  have hbel3 : Below w.heap.size w w3 := H2.out.2.2.1.trans (hb3.mono H2.out.2.2.1.size)
  have hbel4 : Below w.heap.size w w4 := hbel3.trans (hT4.below hbel3.size (fun k hk => by omega))
  have e2s : ad2.s = ad.s ∧ ad2.cs = ad.cs := by rw [had2, H2.out.2.2.2.2.2.2]; exact ⟨rfl, rfl⟩
  have c9 : w4.cell? ⟨b0, 9, none⟩ = some (.slice ad2.s x.p.sn.length ad2.cs) := row_cell hr04 9
  rw [e2s.1, e2s.2] at c9
  have hrs := HP.out.1.rs.1
  have HS := hid (copy_N w.heap.size ad.s ad.cs x.p.sn x.p.sn.length rfl (HSN.out) w4 (HP.out.1.s.below hbel4) hbel4.size)
  have H4 := hid (And.intro hr04 (And.intro hr14 (And.intro hbel4 (And.intro hT4 (And.intro hb3 (And.intro had2 (And.intro (show w2.heap.size ≤ m1 ∧ m1 ≤ m2 ∧ m2 ≤ w3.heap.size from ⟨g1, g2, g3⟩) (And.intro o0 (And.intro o1 o2)))))))))
  clear hr03 hr13 hT4 hr04 hr14 hbel3 hbel4 hb3 had2 g1 g2 g3 o0 o1 o2 hcis e2s hrs hst1' ld2
  go_wp2_with fail
  refine HS.out.mono ?_
  rintro e w5 ⟨A9, c9', rfl, ho5, hb5⟩
  have hr05 := (hb5.block _ (row_lt H4.out.1)).trans H4.out.1
  have hr15 := (hb5.block _ (row_lt H4.out.2.1)).trans H4.out.2.1
  have hc5 := row_cell hr05 9
  have hf5 := row_free hr05 9
  obtain ⟨ad3, had3⟩ : ∃ a : Ad, a = { ad2 with s := A9, cs := c9' } := ⟨_, rfl⟩
  have hr06 : (w5.setCell ⟨b0, 9, none⟩ (.slice A9 x.p.sn.length c9')).heap[b0]? = some (.cells #[.int .i64 x.g, .int .i64 x.t, .int .i64 x.v, .int .i64 x.p.log.base, .int .i64 x.p.log.term, .slice ad3.e x.p.log.es.length ad3.ce, .slice ad3.o x.p.cf.old.length ad3.co, .slice ad3.n x.p.cf.new.length ad3.cn, .slice ad3.l x.p.cf.lrn.length ad3.cl, .slice ad3.s x.p.sn.length ad3.cs] 75 (0, 0)) := by rw [had3]; exact row_set hr05 9 (.slice A9 x.p.sn.length c9')
  have hT6 : Turned (fun k => k = b0) w5 (w5.setCell ⟨b0, 9, none⟩ (.slice A9 x.p.sn.length c9')) := Turned.one _ _ _ _
  have hr16 := (hT6.block b1 (row_lt hr15) (by omega)).trans hr15
  have hc5' : w5.cell? ⟨b0, 9, none⟩ = some (.slice ad2.s x.p.sn.length ad2.cs) := hc5
  clear hc5
  generalize hw6 : w5.setCell ⟨b0, 9, none⟩ (.slice A9 x.p.sn.length c9') = w6 at *
  have ld6 := ldRow info_hard Tryz.underlying75 rfl hr06 rfl
  have hst6 := stRow info_hard (cs' := #[.int .i64 x.g, .int .i64 x.t, .int .i64 x.v, .int .i64 x.p.log.base, .int .i64 x.p.log.term, .slice ad3.e x.p.log.es.length ad3.ce, .slice ad3.o x.p.cf.old.length ad3.co, .slice ad3.n x.p.cf.new.length ad3.cn, .slice ad3.l x.p.cf.lrn.length ad3.cl, .slice ad3.s x.p.sn.length ad3.cs]) hr16 rfl rfl (by simp [Value.oneCell'])
  have r7 := setRow_heap w6 b1 _ #[.int .i64 x.g, .int .i64 x.t, .int .i64 x.v, .int .i64 x.p.log.base, .int .i64 x.p.log.term, .slice ad3.e x.p.log.es.length ad3.ce, .slice ad3.o x.p.cf.old.length ad3.co, .slice ad3.n x.p.cf.new.length ad3.cn, .slice ad3.l x.p.cf.lrn.length ad3.cl, .slice ad3.s x.p.sn.length ad3.cs] _ _ hr16
  have hT7 := row_turned w6 b1 #[.int .i64 x.g, .int .i64 x.t, .int .i64 x.v, .int .i64 x.p.log.base, .int .i64 x.p.log.term, .slice ad3.e x.p.log.es.length ad3.ce, .slice ad3.o x.p.cf.old.length ad3.co, .slice ad3.n x.p.cf.new.length ad3.cn, .slice ad3.l x.p.cf.lrn.length ad3.cl, .slice ad3.s x.p.sn.length ad3.cs]
  generalize w6.setRow b1 #[.int .i64 x.g, .int .i64 x.t, .int .i64 x.v, .int .i64 x.p.log.base, .int .i64 x.p.log.term, .slice ad3.e x.p.log.es.length ad3.ce, .slice ad3.o x.p.cf.old.length ad3.co, .slice ad3.n x.p.cf.new.length ad3.cn, .slice ad3.l x.p.cf.lrn.length ad3.cl, .slice ad3.s x.p.sn.length ad3.cs] = w7 at *
  have HE : Hid (w7.heap[b1]? = some (.cells #[.int .i64 x.g, .int .i64 x.t, .int .i64 x.v, .int .i64 x.p.log.base, .int .i64 x.p.log.term, .slice ad3.e x.p.log.es.length ad3.ce, .slice ad3.o x.p.cf.old.length ad3.co, .slice ad3.n x.p.cf.new.length ad3.cn, .slice ad3.l x.p.cf.lrn.length ad3.cl, .slice ad3.s x.p.sn.length ad3.cs] 75 (0, 0)) ∧ OwnPt w7 w.heap.size w7.heap.size x.p ad3 ∧ Below w.heap.size w w7) := hid (by
    obtain ⟨g1, g2, g3⟩ := H4.out.2.2.2.2.2.2.1
    obtain ⟨o0, o1, o2⟩ := H4.out.2.2.2.2.2.2.2
    have q1 := H2.out.2.2.2.2.2.1.size
    have q2 := H2.out.2.2.2.2.1.size
    have q3 := H4.out.2.2.2.2.1.size
    have q4 := H4.out.2.2.2.1.size
    have q5 := hb5.size
    have q6 := hT6.size
    have q7 := hT7.size
    have T57 : Turned (fun k => k = b0 ∨ k = b1) w5 w7 := (hT6.mono (fun k hk => .inl hk)).trans (hT7.mono (fun k hk => .inr hk))
    have T47 : Turned (fun k => k = b0 ∨ k = b1) w4 w7 := (Turned.ofBelow _ hb5).trans T57
    have T37 : Turned (fun k => k = b0 ∨ k = b1) w3 w7 := (H4.out.2.2.2.1.mono (fun k hk => .inl hk)).trans T47
    have T27 : Turned (fun k => k = b0 ∨ k = b1) w2 w7 := (Turned.ofBelow _ H4.out.2.2.2.2.1).trans T37
    have T17 : Turned (fun k => k = b0 ∨ k = b1) w1 w7 := (H2.out.2.2.2.2.1.mono (fun k hk => .inl hk)).trans T27
    have hno : ∀ k, wA.heap.size ≤ k → ¬ (k = b0 ∨ k = b1) := fun k hk e => by omega
    have ead : ad3.e = A5 ∧ ad3.ce = c5 ∧ ad3.o = B0 ∧ ad3.co = p0 ∧ ad3.n = B1 ∧ ad3.cn = p1 ∧ ad3.l = B2 ∧ ad3.cl = p2 ∧ ad3.s = A9 ∧ ad3.cs = c9' := by
      rw [had3, H4.out.2.2.2.2.2.1, H2.out.2.2.2.2.2.2]; exact ⟨rfl, rfl, rfl, rfl, rfl, rfl, rfl, rfl, rfl, rfl⟩
    obtain ⟨f1, f2, f3, f4, f5, f6, f7, f8, f9, f10⟩ := ead
    refine ⟨r7, ⟨w1.heap.size, m1, m2, w3.heap.size, ⟨by omega, by omega, g2, g3, by omega⟩, ?_, ?_, ?_, ?_, ?_, HP.out.1.num⟩, ?_⟩
    · rw [f1, f2]
      exact (H2.out.2.2.2.1.keep T17 (fun k hk hBl => hno k hBl.1 hk)).wide (by omega) (Nat.le_refl _)
    · rw [f3, f4]
      exact ⟨(ownsI_turned o0.1 T37 (fun k hk => hno k (by have := (o0.1.blkLt k hk).1; omega))).weaken (by omega), o0.2⟩
    · rw [f5, f6]
      exact ⟨ownsI_turned o1.1 T37 (fun k hk => hno k (by have := (o1.1.blkLt k hk).1; omega)), o1.2⟩
    · rw [f7, f8]
      exact ⟨ownsI_turned o2 T37 (fun k hk => hno k (by have := (o2.blkLt k hk).1; omega)), fun k hk => (o2.blkLt k hk).2⟩
    · rw [f9, f10]
      exact ⟨(ho5.turned T57 (fun k hk => hno k (by have := (ho5.blkLt k hk).1; omega))).weaken (by omega), fun k hk => by have := (ho5.blkLt k hk).2; omega⟩
    · have hbel5 : Below w.heap.size w w5 := H4.out.2.2.1.trans (hb5.mono H4.out.2.2.1.size)
      exact hbel5.trans (T57.below hbel5.size (fun k hk => by omega)))
  clear hr05 hr15 hr06 hT6 hr16 r7 hT7 ho5 hb5 had3 hst3' c9
  go_wp2_with fail
  refine bodyPost_ret (results_cell_row rfl _ _ b1 _ _ _ _ rfl HE.out.1 Tryz.underlying75 rfl (by rw [info_hard]; rfl)) rfl ?_
  exact ⟨ad3, rfl, HE.out.2⟩
set_option maxHeartbeats 3200000 in
theorem copyC_any (x : Ch) (ad : Ad) (hf : FewK x.p ∧ Rl.Few x.p.log.es) (hsn : x.p.sn.length ≤ 140737488355328) (w : World) (h : IsPt w w.heap.size x.p ad) :
    Calls Tryz.prog 36 #[.agg #[.int .i64 x.k, .int .i64 x.g, .int .i64 x.t, .int .i64 x.v, .int .i64 x.f, .int .i64 x.p.log.base, .int .i64 x.p.log.term, .slice ad.e x.p.log.es.length ad.ce, .slice ad.o x.p.cf.old.length ad.co, .slice ad.n x.p.cf.new.length ad.cn, .slice ad.l x.p.cf.lrn.length ad.cl, .slice ad.s x.p.sn.length ad.cs, .int .i64 x.a.x, .int .i64 x.a.p, .int .i64 x.a.r, .int .i64 x.a.b, .int .i64 x.a.v]] w fun e w' => ∃ a' : Ad, e = .returned (.agg #[.int .i64 x.k, .int .i64 x.g, .int .i64 x.t, .int .i64 x.v, .int .i64 x.f, .int .i64 x.p.log.base, .int .i64 x.p.log.term, .slice a'.e x.p.log.es.length a'.ce, .slice a'.o x.p.cf.old.length a'.co, .slice a'.n x.p.cf.new.length a'.cn, .slice a'.l x.p.cf.lrn.length a'.cl, .slice a'.s x.p.sn.length a'.cs, .int .i64 x.a.x, .int .i64 x.a.p, .int .i64 x.a.r, .int .i64 x.a.b, .int .i64 x.a.v]) ∧ OwnPt w' w.heap.size w'.heap.size x.p a' ∧ Below w.heap.size w w' := by
  obtain ⟨wA, hwA⟩ : ∃ wA, wA = (w.alloc (.cells #[.int .i64 x.k, .int .i64 x.g, .int .i64 x.t, .int .i64 x.v, .int .i64 x.f, .int .i64 x.p.log.base, .int .i64 x.p.log.term, .slice ad.e x.p.log.es.length ad.ce, .slice ad.o x.p.cf.old.length ad.co, .slice ad.n x.p.cf.new.length ad.cn, .slice ad.l x.p.cf.lrn.length ad.cl, .slice ad.s x.p.sn.length ad.cs, .int .i64 x.a.x, .int .i64 x.a.p, .int .i64 x.a.r, .int .i64 x.a.b, .int .i64 x.a.v] 62)).alloc (.cells #[.int .i64 0, .int .i64 0, .int .i64 0, .int .i64 0, .int .i64 0, .int .i64 0, .int .i64 0, .slice none 0 0, .slice none 0 0, .slice none 0 0, .slice none 0 0, .slice none 0 0, .int .i64 0, .int .i64 0, .int .i64 0, .int .i64 0, .int .i64 0] 62) := ⟨_, rfl⟩
  obtain ⟨b0, hb0⟩ : ∃ b, b = w.heap.size := ⟨_, rfl⟩
  obtain ⟨b1, hb1⟩ : ∃ b, b = w.heap.size + 1 := ⟨_, rfl⟩
  have hsA : wA.heap.size = w.heap.size + 2 := by rw [hwA]; simp
  have hbA : Below w.heap.size w wA := by rw [hwA]; exact ((Below.refl _ w).alloc (Nat.le_refl _) _).alloc (by simp) _
  have hr0 : wA.heap[b0]? = some (.cells #[.int .i64 x.k, .int .i64 x.g, .int .i64 x.t, .int .i64 x.v, .int .i64 x.f, .int .i64 x.p.log.base, .int .i64 x.p.log.term, .slice ad.e x.p.log.es.length ad.ce, .slice ad.o x.p.cf.old.length ad.co, .slice ad.n x.p.cf.new.length ad.cn, .slice ad.l x.p.cf.lrn.length ad.cl, .slice ad.s x.p.sn.length ad.cs, .int .i64 x.a.x, .int .i64 x.a.p, .int .i64 x.a.r, .int .i64 x.a.b, .int .i64 x.a.v] 62 (0, 0)) := by rw [hwA, heap_alloc_old _ _ (by rw [hb0]; simp), hb0]; exact heap_alloc_new w _
  have hr1 : wA.heap[b1]? = some (.cells #[.int .i64 0, .int .i64 0, .int .i64 0, .int .i64 0, .int .i64 0, .int .i64 0, .int .i64 0, .slice none 0 0, .slice none 0 0, .slice none 0 0, .slice none 0 0, .slice none 0 0, .int .i64 0, .int .i64 0, .int .i64 0, .int .i64 0, .int .i64 0] 62 (0, 0)) := by
    have := heap_alloc_new (w.alloc (.cells #[.int .i64 x.k, .int .i64 x.g, .int .i64 x.t, .int .i64 x.v, .int .i64 x.f, .int .i64 x.p.log.base, .int .i64 x.p.log.term, .slice ad.e x.p.log.es.length ad.ce, .slice ad.o x.p.cf.old.length ad.co, .slice ad.n x.p.cf.new.length ad.cn, .slice ad.l x.p.cf.lrn.length ad.cl, .slice ad.s x.p.sn.length ad.cs, .int .i64 x.a.x, .int .i64 x.a.p, .int .i64 x.a.r, .int .i64 x.a.b, .int .i64 x.a.v] 62)) (.cells #[.int .i64 0, .int .i64 0, .int .i64 0, .int .i64 0, .int .i64 0, .int .i64 0, .int .i64 0, .slice none 0 0, .slice none 0 0, .slice none 0 0, .slice none 0 0, .slice none 0 0, .int .i64 0, .int .i64 0, .int .i64 0, .int .i64 0, .int .i64 0] 62)
    rw [World.size_alloc, ← hwA, ← hb1] at this
    exact this
  have HL := hid (copyLog_any x.p.log ad.e ad.ce x.p.log.es.length rfl hf.1.es hf.2 wA ((h.es.below hbA).more hbA.size))
  have ld0 := ldLogH (k := 5) hr0 rfl rfl rfl
  rw [hwA, hb0] at ld0
  have H0 := hid (And.intro hr0 (And.intro hr1 (And.intro hbA (And.intro hsA (And.intro hb0 hb1)))))
  have HP := hid (And.intro h hf)
  have HSN := hid hsn
  clear hr0 hr1 hbA hsA h hf hsn
  go_enter Tryz.func36, Tryz.ntmps36
  go_wp2_with fail
  rw [← hwA]
  clear hwA ld0
  refine HL.out.mono ?_
  rintro e w1 ⟨A5, c5, rfl, ho1, hb1w⟩
  rw [← hb1, ← hb0]
  have hne : b0 ≠ b1 := by omega
  have z0 := H0.out.2.2.2.1
  have hb0A : b0 < wA.heap.size := by omega
  have hb1A : b1 < wA.heap.size := by omega
  have hlo0 : w.heap.size ≤ b0 := by omega
  have hlo1 : w.heap.size ≤ b1 := by omega
  have hAsz : w.heap.size ≤ wA.heap.size := by omega
  clear hb0 hb1 z0
  obtain ⟨ad1, had1⟩ : ∃ a : Ad, a = { ad with e := A5, ce := c5 } := ⟨_, rfl⟩
  have hr01 := (hb1w.block _ (by omega)).trans H0.out.1
  have hr11 := (hb1w.block _ (by omega)).trans H0.out.2.1
  have hst1 := stAt info_log33 (conf_there hr01 5 3 (by simp)) #[.int .i64 x.p.log.base, .int .i64 x.p.log.term, .slice A5 x.p.log.es.length c5] rfl (by simp [Value.oneCell'])
  have hT2 := turned_setCells b0 [.int .i64 x.p.log.base, .int .i64 x.p.log.term, .slice A5 x.p.log.es.length c5] w1 5
  have hr02 : (w1.setCells b0 5 [.int .i64 x.p.log.base, .int .i64 x.p.log.term, .slice A5 x.p.log.es.length c5]).heap[b0]? = some (.cells #[.int .i64 x.k, .int .i64 x.g, .int .i64 x.t, .int .i64 x.v, .int .i64 x.f, .int .i64 x.p.log.base, .int .i64 x.p.log.term, .slice ad1.e x.p.log.es.length ad1.ce, .slice ad1.o x.p.cf.old.length ad1.co, .slice ad1.n x.p.cf.new.length ad1.cn, .slice ad1.l x.p.cf.lrn.length ad1.cl, .slice ad1.s x.p.sn.length ad1.cs, .int .i64 x.a.x, .int .i64 x.a.p, .int .i64 x.a.r, .int .i64 x.a.b, .int .i64 x.a.v] 62 (0, 0)) := by
    rw [had1]
    exact row_set (row_set (row_set hr01 5 (.int .i64 x.p.log.base)) 6 (.int .i64 x.p.log.term)) 7 (.slice A5 x.p.log.es.length c5)
  obtain ⟨w2, hw2⟩ : ∃ w2, w2 = w1.setCells b0 5 [.int .i64 x.p.log.base, .int .i64 x.p.log.term, .slice A5 x.p.log.es.length c5] := ⟨_, rfl⟩
  have hst1' : (stX 58 (.pointer (some ⟨b0, 5, none⟩)) (.agg #[.int .i64 x.p.log.base, .int .i64 x.p.log.term, .slice A5 x.p.log.es.length c5])).run Tryz.prog w1 = .ok () w2 := by rw [hw2]; exact hst1
  rw [← hw2] at hT2 hr02
  clear hst1 hw2
  have hr12 := (hT2.block b1 (row_lt hr11) (by omega)).trans hr11
  have hbel1 : Below w.heap.size w w1 := H0.out.2.2.1.trans (hb1w.mono (by omega))
  have hbel2 : Below w.heap.size w w2 := hbel1.trans (hT2.below hbel1.size (fun k hk => by omega))
  have ld2 := ldConfH (k := 8) hr02 rfl rfl rfl
  have HC := hid (copyConf_sep w.heap.size x.p.cf HP.out.2.1.sh ad.o ad.n ad.l ad.co ad.cn ad.cl w2 (HP.out.1.cis.below hbel2) hbel2.size)
  have e1o : ad1.o = ad.o ∧ ad1.co = ad.co ∧ ad1.n = ad.n ∧ ad1.cn = ad.cn ∧ ad1.l = ad.l ∧ ad1.cl = ad.cl := by rw [had1]; exact ⟨rfl, rfl, rfl, rfl, rfl, rfl⟩
  rw [e1o.1, e1o.2.1, e1o.2.2.1, e1o.2.2.2.1, e1o.2.2.2.2.1, e1o.2.2.2.2.2] at ld2
  have H2 := hid (And.intro hr02 (And.intro hr12 (And.intro hbel2 (And.intro ho1 (And.intro hT2 (And.intro hb1w had1))))))
  clear hr01 hr11 hT2 hr02 hr12 hbel1 hbel2 e1o ho1 hb1w had1
  go_wp2_with fail
  refine HC.out.mono ?_
  rintro e w3 ⟨B0, B1, B2, p0, p1, p2, rfl, ⟨m1, m2, ⟨g1, g2, g3⟩, o0, o1, o2⟩, hcis, hb3⟩
  obtain ⟨ad2, had2⟩ : ∃ a : Ad, a = { ad1 with o := B0, co := p0, n := B1, cn := p1, l := B2, cl := p2 } := ⟨_, rfl⟩
  have hr03 := (hb3.block _ (row_lt H2.out.1)).trans H2.out.1
  have hr13 := (hb3.block _ (row_lt H2.out.2.1)).trans H2.out.2.1
  have hst3 := stAt info_conf33 (conf_there hr03 8 3 (by simp)) #[.slice B0 x.p.cf.old.length p0, .slice B1 x.p.cf.new.length p1, .slice B2 x.p.cf.lrn.length p2] rfl (by simp [Value.oneCell'])
  have hT4 := turned_setCells b0 [.slice B0 x.p.cf.old.length p0, .slice B1 x.p.cf.new.length p1, .slice B2 x.p.cf.lrn.length p2] w3 8
  have hr04 : (w3.setCells b0 8 [.slice B0 x.p.cf.old.length p0, .slice B1 x.p.cf.new.length p1, .slice B2 x.p.cf.lrn.length p2]).heap[b0]? = some (.cells #[.int .i64 x.k, .int .i64 x.g, .int .i64 x.t, .int .i64 x.v, .int .i64 x.f, .int .i64 x.p.log.base, .int .i64 x.p.log.term, .slice ad2.e x.p.log.es.length ad2.ce, .slice ad2.o x.p.cf.old.length ad2.co, .slice ad2.n x.p.cf.new.length ad2.cn, .slice ad2.l x.p.cf.lrn.length ad2.cl, .slice ad2.s x.p.sn.length ad2.cs, .int .i64 x.a.x, .int .i64 x.a.p, .int .i64 x.a.r, .int .i64 x.a.b, .int .i64 x.a.v] 62 (0, 0)) := by
    rw [had2]
    exact row_set (row_set (row_set hr03 8 (.slice B0 x.p.cf.old.length p0)) 9 (.slice B1 x.p.cf.new.length p1)) 10 (.slice B2 x.p.cf.lrn.length p2)
  obtain ⟨w4, hw4⟩ : ∃ w4, w4 = w3.setCells b0 8 [.slice B0 x.p.cf.old.length p0, .slice B1 x.p.cf.new.length p1, .slice B2 x.p.cf.lrn.length p2] := ⟨_, rfl⟩
  have hst3' : (stX 28 (.pointer (some ⟨b0, 8, none⟩)) (.agg #[.slice B0 x.p.cf.old.length p0, .slice B1 x.p.cf.new.length p1, .slice B2 x.p.cf.lrn.length p2])).run Tryz.prog w3 = .ok () w4 := by rw [hw4]; exact hst3
  rw [← hw4] at hT4 hr04
  clear hst3 hw4
  have hr14 := (hT4.block b1 (row_lt hr13) (by omega)).trans hr13
  have hbel3 : Below w.heap.size w w3 := H2.out.2.2.1.trans (hb3.mono H2.out.2.2.1.size)
  have hbel4 : Below w.heap.size w w4 := hbel3.trans (hT4.below hbel3.size (fun k hk => by omega))
  have e2s : ad2.s = ad.s ∧ ad2.cs = ad.cs := by rw [had2, H2.out.2.2.2.2.2.2]; exact ⟨rfl, rfl⟩
  have c9 : w4.cell? ⟨b0, 11, none⟩ = some (.slice ad2.s x.p.sn.length ad2.cs) := row_cell hr04 11
  rw [e2s.1, e2s.2] at c9
  have hrs := HP.out.1.rs.1
  have HS := hid (copy_N w.heap.size ad.s ad.cs x.p.sn x.p.sn.length rfl (HSN.out) w4 (HP.out.1.s.below hbel4) hbel4.size)
  have H4 := hid (And.intro hr04 (And.intro hr14 (And.intro hbel4 (And.intro hT4 (And.intro hb3 (And.intro had2 (And.intro (show w2.heap.size ≤ m1 ∧ m1 ≤ m2 ∧ m2 ≤ w3.heap.size from ⟨g1, g2, g3⟩) (And.intro o0 (And.intro o1 o2)))))))))
  clear hr03 hr13 hT4 hr04 hr14 hbel3 hbel4 hb3 had2 g1 g2 g3 o0 o1 o2 hcis e2s hrs hst1' ld2
  go_wp2_with fail
  refine HS.out.mono ?_
  rintro e w5 ⟨A9, c9', rfl, ho5, hb5⟩
  have hr05 := (hb5.block _ (row_lt H4.out.1)).trans H4.out.1
  have hr15 := (hb5.block _ (row_lt H4.out.2.1)).trans H4.out.2.1
  have hc5 := row_cell hr05 11
  have hf5 := row_free hr05 11
  obtain ⟨ad3, had3⟩ : ∃ a : Ad, a = { ad2 with s := A9, cs := c9' } := ⟨_, rfl⟩
  have hr06 : (w5.setCell ⟨b0, 11, none⟩ (.slice A9 x.p.sn.length c9')).heap[b0]? = some (.cells #[.int .i64 x.k, .int .i64 x.g, .int .i64 x.t, .int .i64 x.v, .int .i64 x.f, .int .i64 x.p.log.base, .int .i64 x.p.log.term, .slice ad3.e x.p.log.es.length ad3.ce, .slice ad3.o x.p.cf.old.length ad3.co, .slice ad3.n x.p.cf.new.length ad3.cn, .slice ad3.l x.p.cf.lrn.length ad3.cl, .slice ad3.s x.p.sn.length ad3.cs, .int .i64 x.a.x, .int .i64 x.a.p, .int .i64 x.a.r, .int .i64 x.a.b, .int .i64 x.a.v] 62 (0, 0)) := by rw [had3]; exact row_set hr05 11 (.slice A9 x.p.sn.length c9')
  have hT6 : Turned (fun k => k = b0) w5 (w5.setCell ⟨b0, 11, none⟩ (.slice A9 x.p.sn.length c9')) := Turned.one _ _ _ _
  have hr16 := (hT6.block b1 (row_lt hr15) (by omega)).trans hr15
  have hc5' : w5.cell? ⟨b0, 11, none⟩ = some (.slice ad2.s x.p.sn.length ad2.cs) := hc5
  clear hc5
  generalize hw6 : w5.setCell ⟨b0, 11, none⟩ (.slice A9 x.p.sn.length c9') = w6 at *
  have ld6 := ldRow info_change Tryz.underlying62 rfl hr06 rfl
  have hst6 := stRow info_change (cs' := #[.int .i64 x.k, .int .i64 x.g, .int .i64 x.t, .int .i64 x.v, .int .i64 x.f, .int .i64 x.p.log.base, .int .i64 x.p.log.term, .slice ad3.e x.p.log.es.length ad3.ce, .slice ad3.o x.p.cf.old.length ad3.co, .slice ad3.n x.p.cf.new.length ad3.cn, .slice ad3.l x.p.cf.lrn.length ad3.cl, .slice ad3.s x.p.sn.length ad3.cs, .int .i64 x.a.x, .int .i64 x.a.p, .int .i64 x.a.r, .int .i64 x.a.b, .int .i64 x.a.v]) hr16 rfl rfl (by simp [Value.oneCell'])
  have r7 := setRow_heap w6 b1 _ #[.int .i64 x.k, .int .i64 x.g, .int .i64 x.t, .int .i64 x.v, .int .i64 x.f, .int .i64 x.p.log.base, .int .i64 x.p.log.term, .slice ad3.e x.p.log.es.length ad3.ce, .slice ad3.o x.p.cf.old.length ad3.co, .slice ad3.n x.p.cf.new.length ad3.cn, .slice ad3.l x.p.cf.lrn.length ad3.cl, .slice ad3.s x.p.sn.length ad3.cs, .int .i64 x.a.x, .int .i64 x.a.p, .int .i64 x.a.r, .int .i64 x.a.b, .int .i64 x.a.v] _ _ hr16
  have hT7 := row_turned w6 b1 #[.int .i64 x.k, .int .i64 x.g, .int .i64 x.t, .int .i64 x.v, .int .i64 x.f, .int .i64 x.p.log.base, .int .i64 x.p.log.term, .slice ad3.e x.p.log.es.length ad3.ce, .slice ad3.o x.p.cf.old.length ad3.co, .slice ad3.n x.p.cf.new.length ad3.cn, .slice ad3.l x.p.cf.lrn.length ad3.cl, .slice ad3.s x.p.sn.length ad3.cs, .int .i64 x.a.x, .int .i64 x.a.p, .int .i64 x.a.r, .int .i64 x.a.b, .int .i64 x.a.v]
  generalize w6.setRow b1 #[.int .i64 x.k, .int .i64 x.g, .int .i64 x.t, .int .i64 x.v, .int .i64 x.f, .int .i64 x.p.log.base, .int .i64 x.p.log.term, .slice ad3.e x.p.log.es.length ad3.ce, .slice ad3.o x.p.cf.old.length ad3.co, .slice ad3.n x.p.cf.new.length ad3.cn, .slice ad3.l x.p.cf.lrn.length ad3.cl, .slice ad3.s x.p.sn.length ad3.cs, .int .i64 x.a.x, .int .i64 x.a.p, .int .i64 x.a.r, .int .i64 x.a.b, .int .i64 x.a.v] = w7 at *
  have HE : Hid (w7.heap[b1]? = some (.cells #[.int .i64 x.k, .int .i64 x.g, .int .i64 x.t, .int .i64 x.v, .int .i64 x.f, .int .i64 x.p.log.base, .int .i64 x.p.log.term, .slice ad3.e x.p.log.es.length ad3.ce, .slice ad3.o x.p.cf.old.length ad3.co, .slice ad3.n x.p.cf.new.length ad3.cn, .slice ad3.l x.p.cf.lrn.length ad3.cl, .slice ad3.s x.p.sn.length ad3.cs, .int .i64 x.a.x, .int .i64 x.a.p, .int .i64 x.a.r, .int .i64 x.a.b, .int .i64 x.a.v] 62 (0, 0)) ∧ OwnPt w7 w.heap.size w7.heap.size x.p ad3 ∧ Below w.heap.size w w7) := hid (by
    obtain ⟨g1, g2, g3⟩ := H4.out.2.2.2.2.2.2.1
    obtain ⟨o0, o1, o2⟩ := H4.out.2.2.2.2.2.2.2
    have q1 := H2.out.2.2.2.2.2.1.size
    have q2 := H2.out.2.2.2.2.1.size
    have q3 := H4.out.2.2.2.2.1.size
    have q4 := H4.out.2.2.2.1.size
    have q5 := hb5.size
    have q6 := hT6.size
    have q7 := hT7.size
    have T57 : Turned (fun k => k = b0 ∨ k = b1) w5 w7 := (hT6.mono (fun k hk => .inl hk)).trans (hT7.mono (fun k hk => .inr hk))
    have T47 : Turned (fun k => k = b0 ∨ k = b1) w4 w7 := (Turned.ofBelow _ hb5).trans T57
    have T37 : Turned (fun k => k = b0 ∨ k = b1) w3 w7 := (H4.out.2.2.2.1.mono (fun k hk => .inl hk)).trans T47
    have T27 : Turned (fun k => k = b0 ∨ k = b1) w2 w7 := (Turned.ofBelow _ H4.out.2.2.2.2.1).trans T37
    have T17 : Turned (fun k => k = b0 ∨ k = b1) w1 w7 := (H2.out.2.2.2.2.1.mono (fun k hk => .inl hk)).trans T27
    have hno : ∀ k, wA.heap.size ≤ k → ¬ (k = b0 ∨ k = b1) := fun k hk e => by omega
    have ead : ad3.e = A5 ∧ ad3.ce = c5 ∧ ad3.o = B0 ∧ ad3.co = p0 ∧ ad3.n = B1 ∧ ad3.cn = p1 ∧ ad3.l = B2 ∧ ad3.cl = p2 ∧ ad3.s = A9 ∧ ad3.cs = c9' := by
      rw [had3, H4.out.2.2.2.2.2.1, H2.out.2.2.2.2.2.2]; exact ⟨rfl, rfl, rfl, rfl, rfl, rfl, rfl, rfl, rfl, rfl⟩
    obtain ⟨f1, f2, f3, f4, f5, f6, f7, f8, f9, f10⟩ := ead
    refine ⟨r7, ⟨w1.heap.size, m1, m2, w3.heap.size, ⟨by omega, by omega, g2, g3, by omega⟩, ?_, ?_, ?_, ?_, ?_, HP.out.1.num⟩, ?_⟩
    · rw [f1, f2]
      exact (H2.out.2.2.2.1.keep T17 (fun k hk hBl => hno k hBl.1 hk)).wide (by omega) (Nat.le_refl _)
    · rw [f3, f4]
      exact ⟨(ownsI_turned o0.1 T37 (fun k hk => hno k (by have := (o0.1.blkLt k hk).1; omega))).weaken (by omega), o0.2⟩
    · rw [f5, f6]
      exact ⟨ownsI_turned o1.1 T37 (fun k hk => hno k (by have := (o1.1.blkLt k hk).1; omega)), o1.2⟩
    · rw [f7, f8]
      exact ⟨ownsI_turned o2 T37 (fun k hk => hno k (by have := (o2.blkLt k hk).1; omega)), fun k hk => (o2.blkLt k hk).2⟩
    · rw [f9, f10]
      exact ⟨(ho5.turned T57 (fun k hk => hno k (by have := (ho5.blkLt k hk).1; omega))).weaken (by omega), fun k hk => by have := (ho5.blkLt k hk).2; omega⟩
    · have hbel5 : Below w.heap.size w w5 := H4.out.2.2.1.trans (hb5.mono H4.out.2.2.1.size)
      exact hbel5.trans (T57.below hbel5.size (fun k hk => by omega)))
  clear hr05 hr15 hr06 hT6 hr16 r7 hT7 ho5 hb5 had3 hst3' c9
  go_wp2_with fail
  refine bodyPost_ret (results_cell_row rfl _ _ b1 _ _ _ _ rfl HE.out.1 Tryz.underlying62 rfl (by rw [info_change]; rfl)) rfl ?_
  exact ⟨ad3, rfl, HE.out.2⟩
end Go.Proofs.YtaeoccpjdjafnaaGreat.Im
namespace Go.Proofs.YtaeoccpjdjafnaaGreat.Im
open Go Go.RowKit
open Rl (En Lg)
open Qu (Cf)
set_option maxRecDepth 100000
set_option linter.unusedVariables false
local instance lo15b : Lo := ⟨0⟩
attribute [local go_sem ↓] loadAt_vote storeAt_vote loadAt_hard storeAt_hard loadAt_change storeAt_change
set_option maxHeartbeats 1600000 in
theorem copyVs_any (A : Option Addr) (c n : Nat) (L : List Vt) (hn : L.length = n) (hl : n ≤ 100000) (w : World) (h : IsVs w w.heap.size A L) :
    Calls Tryz.prog 48 #[.slice A n c] w fun e w' => ∃ A' c', e = .returned (.slice A' n c') ∧ InVs w' w.heap.size w'.heap.size A' c' L ∧ Below w.heap.size w w' := by
  subst hn
  obtain ⟨i0, hi, hz0, hz1, hz2⟩ := info_parts info_vote3
  have HH := hid h
  have HLN := hid hl
  clear h
  go_enter Tryz.func48, Tryz.ntmps48
  go_wp2_with fail
  go_loopw [3, 4] (fun o i wr => ∃ (k q : Nat) (A1 : Option Addr) (c1 : Nat), k ≤ L.length ∧ o = .slice A1 q c1 ∧ i = .int .i64 k ∧ Hid (q = (L.take k).length ∧ q = k ∧ InVs wr w.heap.size wr.heap.size A1 c1 (L.take k) ∧ Below w.heap.size w wr)) (fun _ i _ => L.length - (RowKit.intOf i).toNat)
  case atStart => exact ⟨0, 0, none, 0, by omega, rfl, rfl, hid ⟨by simp, rfl, InVs.nil _ _ _, Below.refl _ _⟩⟩
  case round =>
    obtain ⟨k, q, A1, c1, hk, rfl, rfl, HI⟩ := hrel
    by_cases hlt : k < L.length
    · obtain ⟨b, off, rfl, hbl, hc⟩ := (HH.out.below HI.out.2.2.2).row.at_ k hlt
      obtain ⟨v, hv⟩ : ∃ v : Vt, v = L[k] := ⟨_, rfl⟩
      have hr0 := hc k hlt
      rw [← hv] at hr0
      have hok : okV v := by rw [hv]; exact HH.out.num _ (List.getElem_mem hlt)
      have HT := hid (show L.take (k + 1) = L.take k ++ [v] by rw [hv]; exact List.take_succ_eq_append_getElem hlt)
      have l0 : (ldX 60 (.pointer (some ⟨b, off + k * 5, none⟩))).run Tryz.prog wr = .ok (.agg #[.int .i64 v.x, .int .i64 v.p, .int .i64 v.r, .int .i64 v.b, .int .i64 v.v]) wr := ldV wr b (off + k * 5) (cellsV v) rfl hr0
      have hk0 : (k : Int) < (L.length : Int) := by omega
      have hb5 : Below wr.heap.size wr (wr.alloc (.cells #[.int .i64 v.x, .int .i64 v.p, .int .i64 v.r, .int .i64 v.b, .int .i64 v.v] 60)) := (Below.refl _ wr).alloc (Nat.le_refl _) _
      have hrow5 := HI.out.2.2.1.1.below hb5
      have hcells : ∀ j, j < 5 → (wr.alloc (.cells #[.int .i64 v.x, .int .i64 v.p, .int .i64 v.r, .int .i64 v.b, .int .i64 v.v] 60)).cell? ((⟨wr.heap.size, 0, none⟩ : Addr).add j) = (cellsV v)[j]? := fun j hj => by
        rw [add_off, Nat.zero_add, row_cell (heap_alloc_new wr _) j]; simp [cellsV]
      have hq1 : q + 1 ≤ 100001 := by have := HI.out.2.1; have := HLN.out; omega
      have HK := hid (And.intro hok (And.intro hb5 hq1))
      clear hc hr0 hv hbl hlt hok hb5 hq1
      go_wp2_with (at_builtin; refine wpList_append_rowM rfl _ _ 23 rfl i0 _ Tryz.underlying23 hi hz0 hz1 hz2 rfl (by decide) hrow5 q HI.out.1.symm rfl v ⟨wr.heap.size, 0, none⟩ 1 rfl hcells (cellsV_one v) (by have := HK.out.2.2; omega) (by have := HK.out.2.2; omega) ?_)
      intro A6 c6 w6 hrow6 hg6 hbl6
      have hbel : Below w.heap.size w w6 := (HI.out.2.2.2.trans (HK.out.2.1.mono HI.out.2.2.2.size)).grown hg6 (Nat.le_trans HI.out.2.2.2.size (by simp)) (fun k hk => (HI.out.2.2.1.1.blk k hk).1)
      have HI6 : Hid (q + 1 = (L.take (k + 1)).length ∧ q + 1 = k + 1 ∧ InVs w6 w.heap.size w6.heap.size A6 c6 (L.take (k + 1)) ∧ Below w.heap.size w w6) := hid ⟨by rw [HT.out, List.length_append, ← HI.out.1]; rfl, by rw [HI.out.2.1], by
        rw [HT.out]
        refine ⟨hrow6.mono (fun k hk => ⟨?_, hrow6.lt k hk⟩), fun x hx => ?_⟩
        · rcases hrow6.blk k hk with e | e
          · exact e.1
          · have := HI.out.2.2.2.size
            omega
        · rcases List.mem_append.1 hx with hx | hx
          · exact HI.out.2.2.1.2 x hx
          · rw [List.mem_singleton.1 hx]; exact HK.out.1, hbel⟩
      clear HI HT l0 hrow5 hcells HK hrow6 hg6 hbl6 hbel
      go_wp2_with fail
      go_roundw
      case rel => exact ⟨k + 1, q + 1, A6, c6, by omega, rfl, by go_num, HI6⟩
      case measure => simp [RowKit.intOf]; omega
    · obtain rfl : k = L.length := by omega
      have hk0 : ¬ (L.length : Int) < (L.length : Int) := by omega
      have HF := hid (And.intro HI.out.2.1 (And.intro HI.out.2.2.1 HI.out.2.2.2))
      rw [List.take_length] at HF
      clear hlt HI
      go_wp2_with fail
      go_ret
      exact ⟨A1, c1, by rw [HF.out.1]; rfl, HF.out.2⟩
set_option maxHeartbeats 1600000 in
theorem copyCs_any (A : Option Addr) (c n : Nat) (L : List Cq) (hn : L.length = n) (hl : n ≤ 100000) (hf : ∀ q ∈ L, (FewK q.c.p ∧ Rl.Few q.c.p.log.es) ∧ q.c.p.sn.length ≤ 140737488355328) (w : World) (h : IsCs w w.heap.size A L) :
    Calls Tryz.prog 41 #[.slice A n c] w fun e w' => ∃ A' c', e = .returned (.slice A' n c') ∧ (∃ M, M.map (·.c) = L.map (·.c) ∧ InCs w' w.heap.size w'.heap.size A' c' M) ∧ Below w.heap.size w w' := by
  subst hn
  obtain ⟨i0, hi, hz0, hz1, hz2⟩ := info_parts info_change3
  have HH := hid (And.intro h hf)
  have HLN := hid hl
  clear h hf
  go_enter Tryz.func41, Tryz.ntmps41
  go_wp2_with fail
  go_loopw [3, 4] (fun o i wr => ∃ (k q : Nat) (A1 : Option Addr) (c1 : Nat), k ≤ L.length ∧ o = .slice A1 q c1 ∧ i = .int .i64 k ∧ Hid (q = k ∧ (∃ M, M.length = k ∧ M.map (·.c) = (L.take k).map (·.c) ∧ InCs wr w.heap.size wr.heap.size A1 c1 M) ∧ Below w.heap.size w wr)) (fun _ i _ => L.length - (RowKit.intOf i).toNat)
  case atStart => exact ⟨0, 0, none, 0, by omega, rfl, rfl, hid ⟨rfl, ⟨[], rfl, by simp, InCs.nil _ _ _⟩, Below.refl _ _⟩⟩
  case round =>
    obtain ⟨k, q, A1, c1, hk, rfl, rfl, HI⟩ := hrel
    obtain ⟨hqk, ⟨M, hM1, hM2, hM3⟩, hbI⟩ := HI.out
    have HM := hid (And.intro hqk (And.intro hM1 (And.intro hM2 (And.intro hM3 hbI))))
    clear hqk hM1 hM2 hM3 hbI HI
    by_cases hlt : k < L.length
    · obtain ⟨b, off, rfl, hbl, hc⟩ := (HH.out.1.below HM.out.2.2.2.2).row.at_ k hlt
      obtain ⟨x, hx⟩ : ∃ x : Cq, x = L[k] := ⟨_, rfl⟩
      have hr0 := hc k hlt
      rw [← hx] at hr0
      have hxm : x ∈ L := by rw [hx]; exact List.getElem_mem hlt
      have HT := hid (show (L.take (k + 1)).map (·.c) = (L.take k).map (·.c) ++ [x.c] by rw [hx, List.take_succ_eq_append_getElem hlt, List.map_append]; rfl)
      obtain ⟨y, ay⟩ := x
      have l0 : (ldX 62 (.pointer (some ⟨b, off + k * 17, none⟩))).run Tryz.prog wr = .ok (.agg #[.int .i64 y.k, .int .i64 y.g, .int .i64 y.t, .int .i64 y.v, .int .i64 y.f, .int .i64 y.p.log.base, .int .i64 y.p.log.term, .slice ay.e y.p.log.es.length ay.ce, .slice ay.o y.p.cf.old.length ay.co, .slice ay.n y.p.cf.new.length ay.cn, .slice ay.l y.p.cf.lrn.length ay.cl, .slice ay.s y.p.sn.length ay.cs, .int .i64 y.a.x, .int .i64 y.a.p, .int .i64 y.a.r, .int .i64 y.a.b, .int .i64 y.a.v]) wr := ldC wr b (off + k * 17) (cellsC ⟨y, ay⟩) rfl hr0
      have hfx := HH.out.2 _ hxm
      have HC := hid (copyC_any y ay hfx.1 hfx.2 wr (((HH.out.1.below HM.out.2.2.2.2).pt _ hxm).more HM.out.2.2.2.2.size))
      have HNM := hid (HH.out.1.num _ hxm)
      have hk0 : (k : Int) < (L.length : Int) := by omega
      clear hc hr0 hx hbl hlt hxm hfx
      go_wp2_with fail
      refine HC.out.mono ?_
      rintro e w4 ⟨a', rfl, ho, hb4⟩
      have hb5 : Below w4.heap.size w4 (w4.alloc (.cells #[.int .i64 y.k, .int .i64 y.g, .int .i64 y.t, .int .i64 y.v, .int .i64 y.f, .int .i64 y.p.log.base, .int .i64 y.p.log.term, .slice a'.e y.p.log.es.length a'.ce, .slice a'.o y.p.cf.old.length a'.co, .slice a'.n y.p.cf.new.length a'.cn, .slice a'.l y.p.cf.lrn.length a'.cl, .slice a'.s y.p.sn.length a'.cs, .int .i64 y.a.x, .int .i64 y.a.p, .int .i64 y.a.r, .int .i64 y.a.b, .int .i64 y.a.v] 62)) := (Below.refl _ w4).alloc (Nat.le_refl _) _
      have hrow4 : RowIn cellsC 17 62 w4 (Bl w.heap.size wr.heap.size) A1 c1 M := HM.out.2.2.2.1.row.below hb4
      have hrow5 := hrow4.below hb5
      have hcells : ∀ j, j < 17 → (w4.alloc (.cells #[.int .i64 y.k, .int .i64 y.g, .int .i64 y.t, .int .i64 y.v, .int .i64 y.f, .int .i64 y.p.log.base, .int .i64 y.p.log.term, .slice a'.e y.p.log.es.length a'.ce, .slice a'.o y.p.cf.old.length a'.co, .slice a'.n y.p.cf.new.length a'.cn, .slice a'.l y.p.cf.lrn.length a'.cl, .slice a'.s y.p.sn.length a'.cs, .int .i64 y.a.x, .int .i64 y.a.p, .int .i64 y.a.r, .int .i64 y.a.b, .int .i64 y.a.v] 62)).cell? ((⟨w4.heap.size, 0, none⟩ : Addr).add j) = (cellsC ⟨y, a'⟩)[j]? := fun j hj => by
        rw [add_off, Nat.zero_add, row_cell (heap_alloc_new w4 _) j]; simp [cellsC]
      have hq1 : q + 1 ≤ 100001 := by have := HM.out.1; have := HLN.out; omega
      have hMq : M.length = q := by rw [HM.out.1]; exact HM.out.2.1
      have HK := hid (And.intro ho (And.intro hb4 (And.intro hb5 (And.intro hrow5 hq1))))
      clear ho hb4 hb5 hrow4 hq1 HC
      go_wp2_with (at_builtin; refine wpList_append_rowM rfl _ _ 45 rfl i0 _ Tryz.underlying45 hi hz0 hz1 hz2 rfl (by decide) hrow5 q hMq rfl ⟨y, a'⟩ ⟨w4.heap.size, 0, none⟩ 1 rfl hcells (cellsC_one _) (by have := HK.out.2.2.2.2; omega) (by have := HK.out.2.2.2.2; omega) ?_)
      intro A6 c6 w6 hrow6 hg6 hbl6
      have hwr : w.heap.size ≤ wr.heap.size := HM.out.2.2.2.2.size
      have hb5w : Below w.heap.size w (w4.alloc (.cells #[.int .i64 y.k, .int .i64 y.g, .int .i64 y.t, .int .i64 y.v, .int .i64 y.f, .int .i64 y.p.log.base, .int .i64 y.p.log.term, .slice a'.e y.p.log.es.length a'.ce, .slice a'.o y.p.cf.old.length a'.co, .slice a'.n y.p.cf.new.length a'.cn, .slice a'.l y.p.cf.lrn.length a'.cl, .slice a'.s y.p.sn.length a'.cs, .int .i64 y.a.x, .int .i64 y.a.p, .int .i64 y.a.r, .int .i64 y.a.b, .int .i64 y.a.v] 62)) := HM.out.2.2.2.2.trans ((HK.out.2.1.trans (HK.out.2.2.1.mono HK.out.2.1.size)).mono hwr)
      have hbel : Below w.heap.size w w6 := hb5w.grown hg6 hb5w.size (fun k hk => (HK.out.2.2.2.1.blk k hk).1)
      have HI6 : Hid (q + 1 = k + 1 ∧ (∃ M, M.length = k + 1 ∧ M.map (·.c) = (L.take (k + 1)).map (·.c) ∧ InCs w6 w.heap.size w6.heap.size A6 c6 M) ∧ Below w.heap.size w w6) := hid ⟨by rw [HM.out.1], ⟨M ++ [⟨y, a'⟩], by rw [List.length_append, HM.out.2.1]; rfl, by rw [List.map_append, HM.out.2.2.1, HT.out]; rfl, HM.out.2.2.2.1.put hwr HK.out.2.1 HK.out.1.ptIn (Nat.le_refl _) HNM.out HK.out.2.2.1 HK.out.2.2.2.1 (n5 := w4.heap.size + 1) (World.size_alloc _ _) hrow6 hg6⟩, hbel⟩
      clear HM HT l0 hrow5 hcells HK hrow6 hg6 hbl6 hbel hb5w hMq HNM hwr
      go_wp2_with fail
      go_roundw
      case rel => exact ⟨k + 1, q + 1, A6, c6, by omega, rfl, by go_num, HI6⟩
      case measure => simp [RowKit.intOf]; omega
    · obtain rfl : k = L.length := by omega
      have hk0 : ¬ (L.length : Int) < (L.length : Int) := by omega
      clear hlt
      go_wp2_with fail
      go_ret
      refine ⟨A1, c1, by rw [HM.out.1]; rfl, ⟨M, ?_, HM.out.2.2.2.1⟩, HM.out.2.2.2.2⟩
      have := HM.out.2.2.1
      rwa [List.take_length] at this
end Go.Proofs.YtaeoccpjdjafnaaGreat.Im
namespace Go.Proofs.YtaeoccpjdjafnaaGreat.Im
open Go Go.RowKit
open Rl (En Lg)
open Qu (Cf)
set_option maxRecDepth 100000
set_option linter.unusedVariables false
local instance lo16 : Lo := ⟨0⟩
attribute [local go_sem ↓] loadAt_hard storeAt_hard loadAt_image storeAt_image
structure InIm (w : World) (B N : Nat) (i : Ia) (Q : List Hq) (L : List Vt) : Prop where
  h : InHs w B N i.h i.ch Q
  v : InVs w B N i.v i.cv L
namespace InIm
variable {w w' : World} {B B' N N' : Nat} {i : Ia} {Q : List Hq} {L : List Vt}
theorem keep {S : Nat → Prop} (h : InIm w B N i Q L) (ht : Turned S w w') (hs : ∀ k, S k → ¬ Bl B N k) : InIm w' B N i Q L := ⟨h.h.keep ht hs, h.v.keep ht hs⟩
theorem below (h : InIm w B N i Q L) (hb : Below N w w') : InIm w' B N i Q L := ⟨h.h.below hb, h.v.below hb⟩
theorem wide (h : InIm w B N i Q L) (hB : B' ≤ B) (hN : N ≤ N') : InIm w B' N' i Q L := ⟨h.h.wide hB hN, h.v.wide hB hN⟩
end InIm
theorem row_frz {w : World} {b : Nat} {vs : Array Value} {t : TypeId} (h : w.heap[b]? = some (.cells vs t (0, 0))) (k : Nat) : w.frozen? ⟨b, k, none⟩ = false := by simp [World.frozen?, h]
theorem row2_set {W : World} {B : Nat} {t : TypeId} {u v : Value} (x : Value) (h : W.heap[B]? = some (.cells #[u, v] t (0, 0))) : (W.setCell ⟨B, 0, none⟩ x).heap[B]? = some (.cells #[x, v] t (0, 0)) := by
  obtain ⟨hlt, hk⟩ := Array.getElem?_eq_some_iff.1 h
  show (W.heap.modify B _)[B]? = _
  rw [Array.getElem?_eq_getElem (by rw [Array.size_modify]; exact hlt), Array.getElem_modify_self, hk]
  rfl
theorem size_setCell' (w : World) (a : Addr) (v : Value) : (w.setCell a v).heap.size = w.heap.size := by simp [World.setCell]
def opL5 : Op := Op.load 22 (.tmp 16)
structure Ci (w w2 : World) (b0 b1 b2 : Nat) (i : Ia) (nh nv : Nat) (L : List Vt) (Av : Option Addr) (cv : Nat) (k : Nat) (A1 : Option Addr) (c1 : Nat) (hs : List Hd) (M : List Hq) (wr : World) : Prop where
  bel : Below b0 w wr
  size : w2.heap.size ≤ wr.heap.size
  r0 : wr.heap[b0]? = some (.cells #[.slice i.h nh i.ch, .slice i.v nv i.cv] 25 (0, 0))
  r1 : wr.heap[b1]? = some (.cells #[.slice none 0 0, .slice none 0 0] 25 (0, 0))
  r2 : wr.heap[b2]? = some (.cells #[.slice A1 k c1, .slice Av nv cv] 25 (0, 0))
  vs : InVs wr (b1 + 1) b2 Av cv L
  len : M.length = k
  eq : M.map (·.h) = hs.take k
  hs : InHs wr w2.heap.size wr.heap.size A1 c1 M
set_option maxHeartbeats 6400000 in
theorem copyIm_any (i : Ia) (nh nv : Nat) (Q : List Hq) (L : List Vt) (hnh : Q.length = nh) (hnv : L.length = nv) (hlh : nh ≤ 10000) (hlv : nv ≤ 10000) (hf : ∀ q ∈ Q, (FewK q.h.p ∧ Rl.Few q.h.p.log.es) ∧ q.h.p.sn.length ≤ 140737488355328) (w : World) (h : IsHds w w.heap.size i.h Q) (hv : IsVs w w.heap.size i.v L) :
    Calls Tryz.prog 12 #[.agg #[.slice i.h nh i.ch, .slice i.v nv i.cv]] w fun e w' => ∃ j : Ia, e = .returned (.agg #[.slice j.h nh j.ch, .slice j.v nv j.cv]) ∧ (∃ M, M.map (·.h) = Q.map (·.h) ∧ InIm w' w.heap.size w'.heap.size j M L) ∧ Below w.heap.size w w' := by
  obtain ⟨i0, hi, hz0, hz1, hz2⟩ := info_parts info_hard3
  obtain ⟨wA, hwA⟩ : ∃ wA, wA = (w.alloc (.cells #[.slice i.h nh i.ch, .slice i.v nv i.cv] 25)).alloc (.cells #[.slice none 0 0, .slice none 0 0] 25) := ⟨_, rfl⟩
  have hr0 : wA.heap[w.heap.size]? = some (.cells #[.slice i.h nh i.ch, .slice i.v nv i.cv] 25 (0, 0)) := by rw [hwA]; exact at_old (at_new rfl)
  have hr1 : wA.heap[w.heap.size + 1]? = some (.cells #[.slice none 0 0, .slice none 0 0] 25 (0, 0)) := by rw [hwA]; exact at_new (World.size_alloc _ _).symm
  have hbA : Below w.heap.size w wA := by rw [hwA]; exact ((Below.refl _ w).alloc (Nat.le_refl _) _).alloc (by simp) _
  have hzA : wA.heap.size = w.heap.size + 2 := by rw [hwA]; simp
  have HV := hid (copyVs_any i.v i.cv nv L hnv (by omega) wA ((hv.below hbA).more hbA.size))
  have c1 : wA.cell? ⟨w.heap.size, 1, none⟩ = some (.slice i.v nv i.cv) := row_cell hr0 1
  have H0 := hid (And.intro hr0 (And.intro hr1 (And.intro hbA hzA)))
  have HX := hid (And.intro h (And.intro hnh hf))
  rw [hwA] at c1
  clear hr0 hr1 hbA hzA h hv hf hnh hnv
  go_enter Tryz.func12, Tryz.ntmps12
  go_wp2_with fail
  rw [← hwA]
  clear hwA c1
  refine HV.out.mono ?_
  rintro e w1 ⟨Av, cv, rfl, hvs, hb1⟩
  obtain ⟨w2, hw2⟩ : ∃ w2, w2 = w1.alloc (.cells #[.slice none 0 0, .slice Av nv cv] 25) := ⟨_, rfl⟩
  have hst2 := stNew w1 25 2 info_image2 #[.slice none 0 0, .slice none 0 0] #[.slice none 0 0, .slice Av nv cv] rfl rfl (by simp [Value.oneCell'])
  rw [← hw2] at hst2
  have hb2 : Below w1.heap.size w1 w2 := by rw [hw2]; exact (Below.refl _ _).alloc (Nat.le_refl _) _
  have hr2 : w2.heap[w1.heap.size]? = some (.cells #[.slice none 0 0, .slice Av nv cv] 25 (0, 0)) := by rw [hw2]; exact heap_alloc_new _ _
  have hz2 : w2.heap.size = w1.heap.size + 1 := by rw [hw2]; simp
  have HC : Hid (Ci w w2 w.heap.size (w.heap.size + 1) w1.heap.size i nh nv L Av cv 0 none 0 (Q.map (·.h)) [] w2) := hid (by
    have hz1 := hb1.size
    have hzA := H0.out.2.2.2
    have hb12 : Below wA.heap.size wA w2 := hb1.trans (hb2.mono hz1)
    exact ⟨H0.out.2.2.1.trans (hb12.mono (by omega)), Nat.le_refl _, (hb12.block _ (row_lt H0.out.1)).trans H0.out.1, (hb12.block _ (row_lt H0.out.2.1)).trans H0.out.2.1, hr2, (hvs.below hb2).wide (by omega) (Nat.le_refl _), rfl, by simp, InHs.nil _ _ _⟩)
  have HZ : Hid (w.heap.size + 1 < w1.heap.size ∧ w1.heap.size < w2.heap.size) := hid (by
    have hz1 := hb1.size
    have hzA := H0.out.2.2.2
    exact ⟨by omega, by omega⟩)
  obtain ⟨b0, hb0⟩ : ∃ b, b = w.heap.size := ⟨_, rfl⟩
  obtain ⟨b1, hb1'⟩ : ∃ b, b = w.heap.size + 1 := ⟨_, rfl⟩
  obtain ⟨b2, hb2'⟩ : ∃ b, b = w1.heap.size := ⟨_, rfl⟩
  rw [← hb1', ← hb0, ← hb2'] at HC
  rw [← hb1', ← hb2'] at HZ
  have HB := hid (And.intro hb0 hb1')
  clear H0 HV hvs hb1 hb2 hr2 hz2 hw2
  go_wp2_with fail
  rw [← hb1', ← hb0, ← hb2']
  clear hb0 hb1' hb2' hst2
  go_loopw [4] (fun j wr => ∃ k : Nat, k ≤ nh ∧ j = .int .i64 (k : Int) ∧ Hid (∃ A1 c1 M, Ci w w2 b0 b1 b2 i nh nv L Av cv k A1 c1 (Q.map (·.h)) M wr)) (fun j _ => nh - (RowKit.intOf j).toNat)
  case atStart => exact ⟨0, Nat.zero_le _, rfl, hid ⟨_, _, _, HC.out⟩⟩
  case round =>
    obtain ⟨k, hk, rfl, HI0⟩ := hrel
    obtain ⟨A1, c1, M, hI⟩ := HI0.out
    have HI := hid hI
    have r00 := row_cell hI.r0 0
    clear hI HI0 HC
    by_cases hlt : k < nh
    · have hlt0 : (k : Int) < (nh : Int) := by omega
      have hlt1 : k < Q.length := by rw [HX.out.2.1]; exact hlt
      have hI := HI.out
      have hbw : Below w.heap.size w wr := by have := hI.bel; rw [HB.out.1] at this; exact this
      obtain ⟨g, off, hA, hg, hcs⟩ := (HX.out.1.below hbw).row.at_ k hlt1
      obtain ⟨q, hq⟩ : ∃ q, q = Q[k] := ⟨_, rfl⟩
      have hr := hcs k hlt1
      have hqm : q ∈ Q := by rw [hq]; exact List.getElem_mem hlt1
      have hth : (Q.map (·.h)).take (k + 1) = (Q.map (·.h)).take k ++ [q.h] := by
        rw [List.take_succ_eq_append_getElem (by simpa using hlt1), hq]; simp
      rw [← hq] at hr
      obtain ⟨y, ay⟩ := q
      have hgw : g < wr.heap.size := by have := hbw.size; omega
      have hfx := HX.out.2.2 _ hqm
      have HCH := hid (copyH_any y ay hfx.1 hfx.2 wr.drew (((HX.out.1.below hbw).pt _ hqm).below (Below.refl _ wr).drew |>.more hbw.size))
      have hgB : g < b0 := by rw [HB.out.1]; exact hg
      have h02 : b0 < b2 := by have := HZ.out.1; rw [HB.out.1]; have := HB.out.2; omega
      have SF : Hid (∀ W, Turned (fun k => b2 ≤ k) wr W → W.cell? ⟨b0, 0, none⟩ = some (.slice (some ⟨g, off, none⟩) nh i.ch) ∧ (ldX 75 (.pointer (some ⟨g, off + k * 10, none⟩))).run Tryz.prog W = .ok (.agg #[.int .i64 y.g, .int .i64 y.t, .int .i64 y.v, .int .i64 y.p.log.base, .int .i64 y.p.log.term, .slice ay.e y.p.log.es.length ay.ce, .slice ay.o y.p.cf.old.length ay.co, .slice ay.n y.p.cf.new.length ay.cn, .slice ay.l y.p.cf.lrn.length ay.cl, .slice ay.s y.p.sn.length ay.cs]) W) := hid (fun W hb => ⟨by rw [← hA]; exact row_cell ((hb.block _ (row_lt hI.r0) (by omega)).trans hI.r0) 0, ldH W g (off + k * 10) (cellsH ⟨y, ay⟩) rfl (fun j v hv => (hb.cell (p := ⟨g, off + k * 10 + j, none⟩) hgw (by show ¬ b2 ≤ g; omega)).trans (hr j v hv))⟩)
      have SG : Hid (∀ W, Turned (fun k => w2.heap.size ≤ k) wr W → W.heap[b2]? = some (.cells #[.slice A1 k c1, .slice Av nv cv] 25 (0, 0))) := hid (fun W hb => (hb.block _ (row_lt hI.r2) (by have := HZ.out.2; omega)).trans hI.r2)
      have HNM := hid (HX.out.1.num _ hqm)
      have HT := hid hth
      have HG := hid (And.intro hgw hbw)
      have s0 := SF.out wr (Turned.refl _ _)
      have s1 := SF.out wr.drew (Turned.refl _ _).drew
      have f1 := row_cell (SG.out wr.drew (Turned.refl _ _).drew) 0
      rw [hA] at r00
      have HGB := hid (And.intro hgB h02)
      clear hcs hr hq hqm hth hgw hfx hI hbw hg hA hgB h02 hlt
      go_wp2_with fail
      have hopL : opL5 = Op.load 22 (.tmp 16) := rfl
      rw [← hopL]
      go_region_held3 (fun W => W.cell? ⟨b0, 0, none⟩ = some (.slice (some ⟨g, off, none⟩) nh i.ch) ∧ (ldX 75 (.pointer (some ⟨g, off + k * 10, none⟩))).run Tryz.prog W = .ok (.agg #[.int .i64 y.g, .int .i64 y.t, .int .i64 y.v, .int .i64 y.p.log.base, .int .i64 y.p.log.term, .slice ay.e y.p.log.es.length ay.ce, .slice ay.o y.p.cf.old.length ay.co, .slice ay.n y.p.cf.new.length ay.cn, .slice ay.l y.p.cf.lrn.length ay.cl, .slice ay.s y.p.sn.length ay.cs]) W)
        (first | with_reducible exact s7 _ | with_reducible exact s6 | with_reducible exact s5 | with_reducible exact s4 | with_reducible exact s1 | with_reducible exact s0 | fail)
        (first
          | (go_at_call 49; refine HCH.out.mono ?_; rintro e w4 ⟨a', rfl, ho, hb4⟩; have hb4' : Below wr.heap.size wr w4 := (Below.refl _ wr).drew.trans hb4; have HB4 := hid (And.intro hb4' ho); have t4 : ∀ (S : Nat → Prop), Turned S wr w4 := fun S => Turned.ofBelow S hb4'; have T5 := hid (fun (S : Nat → Prop) => (t4 S).alloc (.cells #[.int .i64 y.g, .int .i64 y.t, .int .i64 y.v, .int .i64 y.p.log.base, .int .i64 y.p.log.term, .slice a'.e y.p.log.es.length a'.ce, .slice a'.o y.p.cf.old.length a'.co, .slice a'.n y.p.cf.new.length a'.cn, .slice a'.l y.p.cf.lrn.length a'.cl, .slice a'.s y.p.sn.length a'.cs] 75)); have s4 := SF.out w4 (t4 _); have f4 := row_cell (SG.out w4 (t4 _)) 0; have s5 := SF.out _ (T5.out _); have f5 := row_cell (SG.out _ (T5.out _)) 0; clear hb4 hb4' ho t4)
          | (refine step_append_row (by rfl) _ _ 22 (by rfl) i0 _ Tryz.underlying22 hi hz0 hz1 hz2 (by rfl) (by decide) ((HI.out.hs.row.below HB4.out.1).below ((Below.refl _ w4).alloc (Nat.le_refl _) (.cells #[.int .i64 y.g, .int .i64 y.t, .int .i64 y.v, .int .i64 y.p.log.base, .int .i64 y.p.log.term, .slice a'.e y.p.log.es.length a'.ce, .slice a'.o y.p.cf.old.length a'.co, .slice a'.n y.p.cf.new.length a'.cn, .slice a'.l y.p.cf.lrn.length a'.cl, .slice a'.s y.p.sn.length a'.cs] 75))) k HI.out.len rfl ⟨y, a'⟩ ⟨w4.heap.size, 0, none⟩ 1 (by rfl) (fun j hj => by rw [add_off, Nat.zero_add, row_cell (heap_alloc_new w4 _) j]; simp [cellsH]) (cellsH_one _) (by omega) (by omega) ?_; intro A6 c6 w6 hrow6 hg6 hbl6; have T6 : Turned (fun k => w2.heap.size ≤ k) wr w6 := (T5.out _).trans (Turned.ofGrown hg6 (fun k hk => (HI.out.hs.row.blk k hk).1)); have HR6 := hid (And.intro hrow6 (And.intro hg6 T6)); have s6 := SF.out w6 (T6.mono (fun k (hk : w2.heap.size ≤ k) => show b2 ≤ k by have := HZ.out.2; omega)); have f6 := row_cell (SG.out w6 T6) 0; have z6 := row_frz (SG.out w6 T6) 0; have s7 := fun (v : Value) => SF.out (w6.setCell ⟨b2, 0, none⟩ v) ((T6.mono (fun k (hk : w2.heap.size ≤ k) => show b2 ≤ k by have := HZ.out.2; omega)).setCell b2 0 v (fun _ => Nat.le_refl _)); clear hrow6 hg6 hbl6 T6)
          | fail)
      all_goals
        (obtain ⟨hrow6, hg6, T6⟩ := HR6.out
         obtain ⟨w7, hw7⟩ : ∃ w7, w7 = w6.setCell ⟨b2, 0, none⟩ (.slice A6 (k + 1) c6) := ⟨_, rfl⟩
         rw [← hw7]
         have HI7 : Hid (∃ A1 c1 M, Ci w w2 b0 b1 b2 i nh nv L Av cv (k + 1) A1 c1 (Q.map (·.h)) M w7) := hid ⟨A6, c6, M ++ [⟨y, a'⟩], by
           obtain ⟨hz1, hz2⟩ := HZ.out
           obtain ⟨hgb, h02⟩ := HGB.out
           have hI := HI.out
           have t6 : Turned (fun k => b2 ≤ k) wr w6 := T6.mono (fun k (hk : w2.heap.size ≤ k) => show b2 ≤ k by omega)
           have t7 : Turned (fun k => b2 ≤ k) wr w7 := by rw [hw7]; exact t6.setCell b2 0 _ (fun _ => Nat.le_refl _)
           have l0 := row_lt hI.r0
           have hb5 : Below w4.heap.size w4 (w4.alloc (.cells #[.int .i64 y.g, .int .i64 y.t, .int .i64 y.v, .int .i64 y.p.log.base, .int .i64 y.p.log.term, .slice a'.e y.p.log.es.length a'.ce, .slice a'.o y.p.cf.old.length a'.co, .slice a'.n y.p.cf.new.length a'.cn, .slice a'.l y.p.cf.lrn.length a'.cl, .slice a'.s y.p.sn.length a'.cs] 75)) := (Below.refl _ w4).alloc (Nat.le_refl _) _
           have hp := hI.hs.put (x := ⟨y, a'⟩) hI.size HB4.out.1 (OwnPt.ptIn (show OwnPt w4 wr.heap.size w4.heap.size y.p a' from HB4.out.2)) (Nat.le_refl _) HNM.out hb5 ((hI.hs.row.below HB4.out.1).below hb5) rfl hrow6 hg6
           refine ⟨hI.bel.trans (t7.below (by omega) (fun k hk => by omega)), Nat.le_trans hI.size t7.size, (t7.block _ l0 (by omega)).trans hI.r0, (t7.block _ (row_lt hI.r1) (by omega)).trans hI.r1, by rw [hw7]; exact row2_set _ (SG.out w6 T6), hI.vs.keep t7 (fun j hj hB => by have := hB.2; omega), by simp [hI.len], by rw [List.map_append, hI.eq, HT.out]; rfl, ?_⟩
           rw [hw7, size_setCell']
           exact hp.keep (Turned.one w6 b2 0 _) (fun j hj hB => by have := hB.1; omega)⟩
         clear HI SF SG HCH HB4 T5 HR6 s6 f6 z6 s7 hrow6 hg6 T6 s0 s1 s4 s5 f1 f4 f5 r00 HT HNM HG HGB hw7
         go_wp2_with fail
         go_roundw)
      all_goals first | exact ⟨k + 1, by omega, by go_num, HI7⟩ | (simp [RowKit.intOf]; omega)
    · obtain rfl : k = nh := by omega
      have hk0 : ¬ (k : Int) < (k : Int) := by omega
      have ld := ldRow info_image2 Tryz.underlying25 rfl HI.out.r2 rfl
      have st := stThere info_image2 wr b1 #[.slice A1 k c1, .slice Av nv cv] (show wr.there b1 0 2 from there_row HI.out.r1) rfl (by simp [Value.oneCell'])
      have HR := hid (setCells_all HI.out.r1 [.slice A1 k c1, .slice Av nv cv] rfl)
      have HF : Hid ((∃ M, M.map (·.h) = Q.map (·.h) ∧ InIm (wr.setCells b1 0 [.slice A1 k c1, .slice Av nv cv]) w.heap.size (wr.setCells b1 0 [.slice A1 k c1, .slice Av nv cv]).heap.size ⟨A1, c1, Av, cv⟩ M L) ∧ Below w.heap.size w (wr.setCells b1 0 [.slice A1 k c1, .slice Av nv cv])) := hid (by
        have hT := turned_setCells b1 [.slice A1 k c1, .slice Av nv cv] wr 0
        obtain ⟨hz1, hz2⟩ := HZ.out
        obtain ⟨hB0, hB1⟩ := HB.out
        have hI := HI.out
        have hs := hI.size
        have hzt := hT.size
        refine ⟨⟨M, ?_, ⟨(hI.hs.keep hT (fun j hj hB => by have := hB.1; omega)).wide (by have := hI.bel.size; omega) hzt, (hI.vs.keep hT (fun j hj hB => by have := hB.1; omega)).wide (by omega) (by omega)⟩⟩, ?_⟩
        · rw [hI.eq, ← HX.out.2.1]
          exact List.take_of_length_le (by simp)
        · have := hI.bel
          rw [hB0] at this
          exact this.trans (hT.below this.size (fun k hk => by omega)))
      clear hlt HI HZ HB HX
      go_wp2_with fail
      refine bodyPost_ret (results_cell_row rfl _ _ b1 _ _ _ _ rfl HR.out Tryz.underlying25 rfl (by rw [info_image2]; rfl)) rfl ?_
      exact ⟨⟨A1, c1, Av, cv⟩, rfl, HF.out⟩
end Go.Proofs.YtaeoccpjdjafnaaGreat.Im
