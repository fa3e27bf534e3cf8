/- Texts of the proof, one behind the other: Conf, CopyInts, KitIntN, KitConf, KitHard, ImRows, ImSet, ImOwnE, EntsMore, ImEachE, ImEach2, RegCalls, ImOwnHard. -/
import Derived.Test.YtaeoccpjdjafnaaRows
import Derived.Test.YtaeoccpjdjafnaaImageApartPartAA
import Derived.Test.YtaeoccpjdjafnaaImageApartPartAC
import Derived.Test.YtaeoccpjdjafnaaImageApartPartAB
import Derived.Deep.RegionHeld3
import Derived.Laws.AppendOwnNone
import Derived.Lib.AppendZeros
import Derived.ArgAppend
import Derived.OwnWalk
namespace Go.Proofs.Ytaeoccpjdjafnaa
open Go.RowKit
structure CIs (w : World) (B : Nat) (c : Qu.Cf) (a0 a1 a2 : Option Addr) (k0 k1 k2 : Nat) : Prop where
  o : IsInts w B a0 c.old
  n : IsInts w B a1 c.new
  l : IsInts w B a2 c.lrn
  zo : a0 = none → k0 = 0
  zn : a1 = none → k1 = 0
  zl : a2 = none → k2 = 0
  co : c.old.length ≤ k0 ∧ k0 ≤ maxLen
  cn : c.new.length ≤ k1 ∧ k1 ≤ maxLen
  cl : c.lrn.length ≤ k2 ∧ k2 ≤ maxLen
namespace CIs
variable {w w' : World} {B B' : Nat} {c : Qu.Cf} {a0 a1 a2 : Option Addr} {k0 k1 k2 : Nat}
theorem below (h : CIs w B c a0 a1 a2 k0 k1 k2) (hb : Below B w w') : CIs w' B c a0 a1 a2 k0 k1 k2 := ⟨h.o.below hb, h.n.below hb, h.l.below hb, h.zo, h.zn, h.zl, h.co, h.cn, h.cl⟩
theorem more (h : CIs w B c a0 a1 a2 k0 k1 k2) (hB : B ≤ B') : CIs w B' c a0 a1 a2 k0 k1 k2 := ⟨h.o.more hB, h.n.more hB, h.l.more hB, h.zo, h.zn, h.zl, h.co, h.cn, h.cl⟩
theorem drewN (h : CIs w B c a0 a1 a2 k0 k1 k2) (j : Nat) : CIs (w.drewN j) B c a0 a1 a2 k0 k1 k2 := ⟨h.o.drewN j, h.n.drewN j, h.l.drewN j, h.zo, h.zn, h.zl, h.co, h.cn, h.cl⟩
end CIs
def Short (c : Qu.Cf) : Prop := c.old.length ≤ 20000 ∧ c.new.length ≤ 20000 ∧ c.lrn.length ≤ 20000
end Go.Proofs.Ytaeoccpjdjafnaa
namespace Go.Proofs.Ytaeoccpjdjafnaa.I
open Go.RowKit
end Go.Proofs.Ytaeoccpjdjafnaa.I
namespace Go.Proofs.Ytaeoccpjdjafnaa
open Go.RowKit
theorem sameI_N (B B' : Nat) (A A' : Option Addr) (c c' : Nat) (l m : List Int) (n k : Nat) (hn : l.length = n) (hk : m.length = k) (hl : n ≤ maxLen) (hm : k ≤ maxLen) (w : World) (h : IsInts w B A l) (h' : IsInts w B' A' m) :
    Calls Try.prog 76 #[.slice A n c, .slice A' k c'] w fun e w' => e = .returned (.bool (decide (l = m))) ∧ ∃ j, w' = w.drewN j := by
  subst hn; subst hk; exact I.same_any B B' A A' c c' l m hl hm w h h'
theorem sameI_T {w : World} {B B' : Nat} {A A' : Option Addr} {c c' n m : Nat} {l l' : List Int} (hn : l.length = n) (hm : l'.length = m) (hn2 : n ≤ 100000) (he : l' = l) (h : IsInts w B A l) (h' : IsInts w B' A' l') :
    Calls Try.prog 76 #[.slice A n c, .slice A' m c'] w fun e w' => e = .returned (.bool true) ∧ ∃ j, w' = w.drewN j := by
  have hm2 : m ≤ 100000 := by rw [← hm, he, hn]; exact hn2
  have := sameI_N B B' A A' c c' l l' n m hn hm (by unfold maxLen; omega) (by unfold maxLen; omega) w h h'
  rw [show decide (l = l') = true from decide_eq_true he.symm] at this
  exact this
end Go.Proofs.Ytaeoccpjdjafnaa
namespace Go.Proofs.Ytaeoccpjdjafnaa
open Go.RowKit
set_option maxHeartbeats 1000000 in
theorem sameConf_any (B B' : Nat) (c d : Qu.Cf) (hs0 : Short c) (hd0 : Short d) (a0 a1 a2 b0 b1 b2 : Option Addr) (k0 k1 k2 m0 m1 m2 : Nat) (w : World) (h0 : CIs w B c a0 a1 a2 k0 k1 k2) (h0' : CIs w B' d b0 b1 b2 m0 m1 m2) (hB : B ≤ w.heap.size) (hB' : B' ≤ w.heap.size) (he : c = d) :
    Calls Try.prog 47 #[.agg #[.slice a0 c.old.length k0, .slice a1 c.new.length k1, .slice a2 c.lrn.length k2], .agg #[.slice b0 d.old.length m0, .slice b1 d.new.length m1, .slice b2 d.lrn.length m2]] w fun e w' => e = .returned (.bool true) ∧ Below w.heap.size w w' := by
  subst he
  have hbel : Below w.heap.size w ((w.alloc (.cells #[.slice a0 c.old.length k0, .slice a1 c.new.length k1, .slice a2 c.lrn.length k2] 31)).alloc (.cells #[.slice b0 c.old.length m0, .slice b1 c.new.length m1, .slice b2 c.lrn.length m2] 31)) := ((Below.refl _ _).alloc (Nat.le_refl _) _).alloc (by simp) _
  have HO := hid (fun j : Nat => sameI_T (n := c.old.length) (m := c.old.length) (c := k0) (c' := m0) rfl rfl (by have := hs0.1; omega) rfl (((h0.below (hbel.mono hB)).o).drewN j) (((h0'.below (hbel.mono hB')).o).drewN j))
  have HN := hid (fun j : Nat => sameI_T (n := c.new.length) (m := c.new.length) (c := k1) (c' := m1) rfl rfl (by have := hs0.2.1; omega) rfl (((h0.below (hbel.mono hB)).n).drewN j) (((h0'.below (hbel.mono hB')).n).drewN j))
  have HL := hid (fun j : Nat => sameI_T (n := c.lrn.length) (m := c.lrn.length) (c := k2) (c' := m2) rfl rfl (by have := hs0.2.2; omega) rfl (((h0.below (hbel.mono hB)).l).drewN j) (((h0'.below (hbel.mono hB')).l).drewN j))
  have HB := hid hbel
  clear hbel h0 h0' hs0 hd0
  go_enter Try.func47, Try.ntmps47
  go_wp2_with fail
  refine (HO.out 0).mono ?_
  rintro e w1 ⟨rfl, n1, rfl⟩
  go_wp2_with fail
  refine (HN.out _).mono ?_
  rintro e w1 ⟨rfl, n2, rfl⟩
  go_wp2_with fail
  refine (HL.out (n1 + n2)).mono ?_
  rintro e w1 ⟨rfl, n3, rfl⟩
  go_wp2
  go_ret
  exact ⟨rfl, below_drewN HB.out _⟩
end Go.Proofs.Ytaeoccpjdjafnaa
namespace Go.Proofs.Ytaeoccpjdjafnaa.Im
open Go Go.RowKit
open Rl (En Lg)
open Qu (Cf)
set_option maxRecDepth 100000
set_option linter.unusedVariables false
attribute [local go_sem ↓] loadAt_hard storeAt_hard loadAt_vote storeAt_vote loadAt_log1 storeAt_log1 loadAt_conf3 storeAt_conf3 loadAt_image storeAt_image
theorem IsPt.cis {w : World} {B : Nat} {p : Pt} {a : Ad} (h : IsPt w B p a) : CIs w B p.cf a.o a.n a.l a.co a.cn a.cl :=
  ⟨h.o, h.n, h.l, h.ro.2, h.rn.2, h.rl.2, h.ro.1, h.rn.1, h.rl.1⟩
structure FewK (p : Pt) : Prop where
  es : p.log.es.length ≤ 90000
  sh : Short p.cf
theorem ldLogH {w : World} {cs : Array Value} {t : TypeId} {b k : Nat} {v1 v2 v3 : Value} (h : w.heap[b]? = some (.cells cs t (0, 0))) (h1 : cs[k]? = some v1) (h2 : cs[k + 1]? = some v2) (h3 : cs[k + 2]? = some v3) :
    (ldX 28 (.pointer (some ⟨b, k, none⟩))).run Try.prog w = .ok (.agg #[v1, v2, v3]) w :=
  run_loadAt_mid w b k 28 [v1, v2, v3] _ (fun j v hv => by
    rw [row_cell h (k + j)]
    rcases j with _ | _ | _ | j
    · simpa using h1.trans (by simpa using hv)
    · simpa using h2.trans (by simpa using hv)
    · simpa using h3.trans (by simpa using hv)
    · simp at hv) Try.underlying28 rfl (by rw [info_log33]; rfl)
theorem ldConfH {w : World} {cs : Array Value} {t : TypeId} {b k : Nat} {v1 v2 v3 : Value} (h : w.heap[b]? = some (.cells cs t (0, 0))) (h1 : cs[k]? = some v1) (h2 : cs[k + 1]? = some v2) (h3 : cs[k + 2]? = some v3) :
    (ldX 31 (.pointer (some ⟨b, k, none⟩))).run Try.prog w = .ok (.agg #[v1, v2, v3]) w :=
  run_loadAt_mid w b k 31 [v1, v2, v3] _ (fun j v hv => by
    rw [row_cell h (k + j)]
    rcases j with _ | _ | _ | j
    · simpa using h1.trans (by simpa using hv)
    · simpa using h2.trans (by simpa using hv)
    · simpa using h3.trans (by simpa using hv)
    · simp at hv) Try.underlying31 rfl (by rw [info_conf33]; rfl)
set_option maxHeartbeats 1600000 in
theorem sameH_any (x : Hd) (a a' : Ad) (hf : FewK x.p) (w : World) (h : IsPt w w.heap.size x.p a) (h' : IsPt w w.heap.size x.p a') :
    Calls Try.prog 68 #[.agg #[.int .i64 x.g, .int .i64 x.t, .int .i64 x.v, .int .i64 x.p.log.base, .int .i64 x.p.log.term, .slice a.e x.p.log.es.length a.ce, .slice a.o x.p.cf.old.length a.co, .slice a.n x.p.cf.new.length a.cn, .slice a.l x.p.cf.lrn.length a.cl, .slice a.s x.p.sn.length a.cs], .agg #[.int .i64 x.g, .int .i64 x.t, .int .i64 x.v, .int .i64 x.p.log.base, .int .i64 x.p.log.term, .slice a'.e x.p.log.es.length a'.ce, .slice a'.o x.p.cf.old.length a'.co, .slice a'.n x.p.cf.new.length a'.cn, .slice a'.l x.p.cf.lrn.length a'.cl, .slice a'.s x.p.sn.length a'.cs]] w fun e w' => e = .returned (.bool true) ∧ Below w.heap.size w w' := by
  obtain ⟨wA, hwA⟩ : ∃ wA, wA = (w.alloc (.cells #[.int .i64 x.g, .int .i64 x.t, .int .i64 x.v, .int .i64 x.p.log.base, .int .i64 x.p.log.term, .slice a.e x.p.log.es.length a.ce, .slice a.o x.p.cf.old.length a.co, .slice a.n x.p.cf.new.length a.cn, .slice a.l x.p.cf.lrn.length a.cl, .slice a.s x.p.sn.length a.cs] 59)).alloc (.cells #[.int .i64 x.g, .int .i64 x.t, .int .i64 x.v, .int .i64 x.p.log.base, .int .i64 x.p.log.term, .slice a'.e x.p.log.es.length a'.ce, .slice a'.o x.p.cf.old.length a'.co, .slice a'.n x.p.cf.new.length a'.cn, .slice a'.l x.p.cf.lrn.length a'.cl, .slice a'.s x.p.sn.length a'.cs] 59) := ⟨_, rfl⟩
  have hbA : Below w.heap.size w wA := by rw [hwA]; exact ((Below.refl _ w).alloc (Nat.le_refl _) _).alloc (by simp) _
  have r0 : wA.heap[w.heap.size]? = some (.cells #[.int .i64 x.g, .int .i64 x.t, .int .i64 x.v, .int .i64 x.p.log.base, .int .i64 x.p.log.term, .slice a.e x.p.log.es.length a.ce, .slice a.o x.p.cf.old.length a.co, .slice a.n x.p.cf.new.length a.cn, .slice a.l x.p.cf.lrn.length a.cl, .slice a.s x.p.sn.length a.cs] 59 (0, 0)) := by rw [hwA, heap_alloc_old _ _ (by simp)]; exact heap_alloc_new w _
  have r1 : wA.heap[w.heap.size + 1]? = some (.cells #[.int .i64 x.g, .int .i64 x.t, .int .i64 x.v, .int .i64 x.p.log.base, .int .i64 x.p.log.term, .slice a'.e x.p.log.es.length a'.ce, .slice a'.o x.p.cf.old.length a'.co, .slice a'.n x.p.cf.new.length a'.cn, .slice a'.l x.p.cf.lrn.length a'.cl, .slice a'.s x.p.sn.length a'.cs] 59 (0, 0)) := by
    have := heap_alloc_new (w.alloc (.cells #[.int .i64 x.g, .int .i64 x.t, .int .i64 x.v, .int .i64 x.p.log.base, .int .i64 x.p.log.term, .slice a.e x.p.log.es.length a.ce, .slice a.o x.p.cf.old.length a.co, .slice a.n x.p.cf.new.length a.cn, .slice a.l x.p.cf.lrn.length a.cl, .slice a.s x.p.sn.length a.cs] 59)) (.cells #[.int .i64 x.g, .int .i64 x.t, .int .i64 x.v, .int .i64 x.p.log.base, .int .i64 x.p.log.term, .slice a'.e x.p.log.es.length a'.ce, .slice a'.o x.p.cf.old.length a'.co, .slice a'.n x.p.cf.new.length a'.cn, .slice a'.l x.p.cf.lrn.length a'.cl, .slice a'.s x.p.sn.length a'.cs] 59)
    rw [World.size_alloc, ← hwA] at this
    exact this
  have hA := (h.below hbA).more hbA.size
  have hA' := (h'.below hbA).more hbA.size
  have HL := hid ((log_same x.p.log x.p.log a.e a'.e a.ce a'.ce (by have := hf.es; omega) wA hA.es hA'.es).mono (fun e w' hh => (⟨by rw [hh.1, decide_eq_true rfl], hh.2⟩ : e = .returned (.bool true) ∧ Below wA.heap.size wA w')))
  have c0 := row_cell r0 0
  have c1 := row_cell r0 1
  have c2 := row_cell r0 2
  have d0 := row_cell r1 0
  have d1 := row_cell r1 1
  have d2 := row_cell r1 2
  have l0 := ldLogH (k := 3) r0 rfl rfl rfl
  have l1 := ldLogH (k := 3) r1 rfl rfl rfl
  rw [hwA] at c0 c1 c2 d0 d1 d2 l0 l1
  have HX := hid (And.intro r0 (And.intro r1 (And.intro hbA (And.intro h (And.intro h' hf)))))
  clear r0 r1 hbA h h' hA hA' hf
  go_enter Try.func68, Try.ntmps68
  go_wp2_with fail
  rw [← hwA]
  clear hwA c0 c1 c2 d0 d1 d2 l0 l1
  refine HL.out.mono ?_
  rintro e w1 ⟨rfl, hb1⟩
  have r01 := (hb1.block _ (row_lt HX.out.1)).trans HX.out.1
  have r11 := (hb1.block _ (row_lt HX.out.2.1)).trans HX.out.2.1
  have hbw1 := HX.out.2.2.1.trans (hb1.mono HX.out.2.2.1.size)
  have l2 := ldConfH (k := 6) r01 rfl rfl rfl
  have l3 := ldConfH (k := 6) r11 rfl rfl rfl
  have HC := hid (sameConf_any w1.heap.size w1.heap.size x.p.cf x.p.cf HX.out.2.2.2.2.2.sh HX.out.2.2.2.2.2.sh _ _ _ _ _ _ _ _ _ _ _ _ w1 ((HX.out.2.2.2.1.below hbw1).more hbw1.size).cis ((HX.out.2.2.2.2.1.below hbw1).more hbw1.size).cis (Nat.le_refl _) (Nat.le_refl _) rfl)
  have HB1 := hid (And.intro r01 (And.intro r11 hbw1))
  clear r01 r11 hbw1 hb1
  go_wp2_with fail
  refine HC.out.mono ?_
  rintro e w2 ⟨rfl, hb2⟩
  have r02 := (hb2.block _ (row_lt HB1.out.1)).trans HB1.out.1
  have r12 := (hb2.block _ (row_lt HB1.out.2.1)).trans HB1.out.2.1
  have hbw2 := HB1.out.2.2.trans (hb2.mono HB1.out.2.2.size)
  have c9 : w2.cell? ⟨w.heap.size, 9, none⟩ = some (.slice a.s x.p.sn.length a.cs) := row_cell r02 9
  have d9 : w2.cell? ⟨w.heap.size + 1, 9, none⟩ = some (.slice a'.s x.p.sn.length a'.cs) := row_cell r12 9
  have hrs := HX.out.2.2.2.1.rs.1
  have HS := hid (same_T w2.heap.size w2.heap.size a.s a'.s a.cs a'.cs x.p.sn x.p.sn.length rfl (Nat.le_trans hrs.1 hrs.2) w2 ((HX.out.2.2.2.1.below hbw2).more hbw2.size).s ((HX.out.2.2.2.2.1.below hbw2).more hbw2.size).s)
  have HB2 := hid hbw2
  clear r02 r12 hbw2 hb2 hrs l2 l3
  go_wp2_with fail
  refine HS.out.mono ?_
  rintro e w3 ⟨rfl, n3, rfl⟩
  go_wp2_with fail
  go_ret
  exact ⟨rfl, below_drewN HB2.out _⟩
set_option maxHeartbeats 1600000 in
theorem sameHs_any (A A' : Option Addr) (c c' n : Nat) (Q R : List Hq) (hn : Q.length = n) (hR : Q.map (·.h) = R.map (·.h)) (hl : n ≤ 100000) (hf : ∀ q ∈ Q, FewK q.h.p) (w : World) (h : IsHds w w.heap.size A Q) (h' : IsHds w w.heap.size A' R) :
    Calls Try.prog 35 #[.slice A n c, .slice A' n c'] w fun e w' => e = .returned (.bool true) ∧ Below w.heap.size w w' := by
  subst hn
  have hl0 : R.length = Q.length := by have := congrArg List.length hR; rw [List.length_map, List.length_map] at this; exact this.symm
  have HH := hid (And.intro h (And.intro h' (And.intro hf (And.intro hR hl0))))
  clear h h' hf hR
  go_enter Try.func35, Try.ntmps35
  go_wp2_with fail
  go_loopw [5] (fun i wr => ∃ k : Nat, k ≤ Q.length ∧ i = .int .i64 k ∧ Hid (Below w.heap.size w wr)) (fun i _ => Q.length - (RowKit.intOf i).toNat)
  case atStart => exact ⟨0, by omega, rfl, hid (Below.refl _ _)⟩
  case round =>
    obtain ⟨k, hk, rfl, hS⟩ := hrel
    by_cases hlt : k < Q.length
    · have hkM : k < R.length := by omega
      have hr := HH.out.1.below hS.out
      have hr' := HH.out.2.1.below hS.out
      obtain ⟨b, off, rfl, hbl, hc⟩ := hr.row.at_ k hlt
      obtain ⟨b', off', rfl, hbl', hc'⟩ := hr'.row.at_ k hkM
      obtain ⟨x, ax⟩ : ∃ x : Hd, x = Q[k].h := ⟨_, rfl⟩
      have ax' : R[k].h = x := by
        have h1 : (Q.map (·.h))[k]'(by simpa using hlt) = (R.map (·.h))[k]'(by simpa using hkM) := by congr 1; exact HH.out.2.2.2.1
        rw [List.getElem_map, List.getElem_map] at h1
        rw [ax, h1]
      obtain ⟨p, hp⟩ : ∃ p, p = Q[k].a := ⟨_, rfl⟩
      obtain ⟨p', hp'⟩ : ∃ p, p = R[k].a := ⟨_, rfl⟩
      have hr0 := hc k hlt
      have hr1 := hc' k hkM
      have hq : Q[k] = ⟨x, p⟩ := by rw [ax, hp]
      have hq' : R[k] = ⟨x, p'⟩ := by rw [← ax', hp']
      rw [hq] at hr0
      rw [hq'] at hr1
      have hm1 := hr.pt _ (List.getElem_mem hlt)
      have hm2 := hr'.pt _ (List.getElem_mem hkM)
      have hfk := HH.out.2.2.1 _ (List.getElem_mem hlt)
      rw [hq] at hm1 hfk
      rw [hq'] at hm2
      have l0 : (ldX 59 (.pointer (some ⟨b, off + k * 10, none⟩))).run Try.prog wr.drew = .ok (.agg #[.int .i64 x.g, .int .i64 x.t, .int .i64 x.v, .int .i64 x.p.log.base, .int .i64 x.p.log.term, .slice p.e x.p.log.es.length p.ce, .slice p.o x.p.cf.old.length p.co, .slice p.n x.p.cf.new.length p.cn, .slice p.l x.p.cf.lrn.length p.cl, .slice p.s x.p.sn.length p.cs]) wr.drew := ldH wr.drew b (off + k * 10) (cellsH ⟨x, p⟩) rfl hr0
      have l1 : (ldX 59 (.pointer (some ⟨b', off' + k * 10, none⟩))).run Try.prog wr.drew = .ok (.agg #[.int .i64 x.g, .int .i64 x.t, .int .i64 x.v, .int .i64 x.p.log.base, .int .i64 x.p.log.term, .slice p'.e x.p.log.es.length p'.ce, .slice p'.o x.p.cf.old.length p'.co, .slice p'.n x.p.cf.new.length p'.cn, .slice p'.l x.p.cf.lrn.length p'.cl, .slice p'.s x.p.sn.length p'.cs]) wr.drew := ldH wr.drew b' (off' + k * 10) (cellsH ⟨x, p'⟩) rfl hr1
      have HC := hid (sameH_any x p p' hfk wr.drew ((hm1.below (Below.refl _ wr).drew).more hS.out.size) ((hm2.below (Below.refl _ wr).drew).more hS.out.size))
      have hk0 : (k : Int) < (Q.length : Int) := by omega
      clear hc hc' hr hr' hr0 hr1 hq hq' hm1 hm2 hfk ax ax' hp hp' hl0
      go_wp2_with fail
      go_still_tail 8, (by kernel_rfl)
      go_wp2_with fail
      refine HC.out.mono ?_
      rintro e w2 ⟨rfl, hb2⟩
      have HB2 : Hid (Below w.heap.size w w2) := hid (hS.out.trans (((Below.refl _ wr).drew.trans hb2).mono hS.out.size))
      clear hb2 l0 l1
      go_wp2_with fail
      go_roundw
      case rel => exact ⟨k + 1, by omega, by go_num, HB2⟩
      case measure => simp [RowKit.intOf]; omega
    · obtain rfl : k = Q.length := by omega
      have hk0 : ¬ (Q.length : Int) < (Q.length : Int) := by omega
      clear hlt
      go_wp2_with fail
      go_ret
      exact ⟨rfl, hS.out⟩
set_option maxHeartbeats 1600000 in
theorem sameVs_any (A A' : Option Addr) (c c' n : Nat) (L : List Vt) (hn : L.length = n) (hl : n ≤ 100000) (w : World) (h : IsVs w w.heap.size A L) (h' : IsVs w w.heap.size A' L) :
    Calls Try.prog 36 #[.slice A n c, .slice A' n c'] w fun e w' => e = .returned (.bool true) ∧ Below w.heap.size w w' := by
  subst hn
  have HH := hid (And.intro h h')
  clear h h'
  go_enter Try.func36, Try.ntmps36
  go_wp2_with fail
  go_loopw [5] (fun i wr => ∃ k : Nat, k ≤ L.length ∧ i = .int .i64 k ∧ Hid (Below w.heap.size w wr)) (fun i _ => L.length - (RowKit.intOf i).toNat)
  case atStart => exact ⟨0, by omega, rfl, hid (Below.refl _ _)⟩
  case round =>
    obtain ⟨k, hk, rfl, hS⟩ := hrel
    by_cases hlt : k < L.length
    · have hr := HH.out.1.row.below hS.out
      have hr' := HH.out.2.row.below hS.out
      obtain ⟨b, off, rfl, hbl, hc⟩ := hr.at_ k hlt
      obtain ⟨b', off', rfl, hbl', hc'⟩ := hr'.at_ k hlt
      obtain ⟨v, hv⟩ : ∃ v : Vt, v = L[k] := ⟨_, rfl⟩
      have hr0 := hc k hlt
      have hr1 := hc' k hlt
      rw [← hv] at hr0 hr1
      have l0 : (ldX 34 (.pointer (some ⟨b, off + k * 5, none⟩))).run Try.prog wr.drew = .ok (.agg #[.int .i64 v.x, .int .i64 v.p, .int .i64 v.r, .int .i64 v.b, .int .i64 v.v]) wr.drew := ldV wr.drew b (off + k * 5) (cellsV v) rfl hr0
      have l1 : (ldX 34 (.pointer (some ⟨b', off' + k * 5, none⟩))).run Try.prog wr.drew = .ok (.agg #[.int .i64 v.x, .int .i64 v.p, .int .i64 v.r, .int .i64 v.b, .int .i64 v.v]) wr.drew := ldV wr.drew b' (off' + k * 5) (cellsV v) rfl hr1
      have HB2 : Hid (Below w.heap.size w wr.drew) := hid hS.out.drew
      have hk0 : (k : Int) < (L.length : Int) := by omega
      clear hc hc' hr hr' hr0 hr1 hv
      go_wp2_with fail
      go_still_tail 8, (by kernel_rfl)
      go_wp2_with fail
      go_roundw
      case rel => exact ⟨k + 1, by omega, by go_num, HB2⟩
      case measure => simp [RowKit.intOf]; omega
    · obtain rfl : k = L.length := by omega
      have hk0 : ¬ (L.length : Int) < (L.length : Int) := by omega
      clear hlt
      go_wp2_with fail
      go_ret
      exact ⟨rfl, hS.out⟩
set_option maxHeartbeats 1600000 in
theorem sameIm_any (i i' : Ia) (nh nv : Nat) (Q R : List Hq) (L : List Vt) (hnh : Q.length = nh) (hnv : L.length = nv) (hR : Q.map (·.h) = R.map (·.h)) (hlh : nh ≤ 100000) (hlv : nv ≤ 100000) (hf : ∀ q ∈ Q, FewK q.h.p) (w : World) (h : IsHds w w.heap.size i.h Q) (h' : IsHds w w.heap.size i'.h R) (hv : IsVs w w.heap.size i.v L) (hv' : IsVs w w.heap.size i'.v L) :
    Calls Try.prog 12 #[.agg #[.slice i.h nh i.ch, .slice i.v nv i.cv], .agg #[.slice i'.h nh i'.ch, .slice i'.v nv i'.cv]] w fun e w' => e = .returned (.bool true) ∧ Below w.heap.size w w' := by
  obtain ⟨wA, hwA⟩ : ∃ wA, wA = (w.alloc (.cells #[.slice i.h nh i.ch, .slice i.v nv i.cv] 25)).alloc (.cells #[.slice i'.h nh i'.ch, .slice i'.v nv i'.cv] 25) := ⟨_, rfl⟩
  have hbA : Below w.heap.size w wA := by rw [hwA]; exact ((Below.refl _ w).alloc (Nat.le_refl _) _).alloc (by simp) _
  have r0 : wA.heap[w.heap.size]? = some (.cells #[.slice i.h nh i.ch, .slice i.v nv i.cv] 25 (0, 0)) := by rw [hwA, heap_alloc_old _ _ (by simp)]; exact heap_alloc_new w _
  have r1 : wA.heap[w.heap.size + 1]? = some (.cells #[.slice i'.h nh i'.ch, .slice i'.v nv i'.cv] 25 (0, 0)) := by
    have := heap_alloc_new (w.alloc (.cells #[.slice i.h nh i.ch, .slice i.v nv i.cv] 25)) (.cells #[.slice i'.h nh i'.ch, .slice i'.v nv i'.cv] 25)
    rw [World.size_alloc, ← hwA] at this
    exact this
  have HS := hid (sameHs_any i.h i'.h i.ch i'.ch nh Q R hnh hR hlh hf wA ((h.below hbA).more hbA.size) ((h'.below hbA).more hbA.size))
  have c0 := row_cell r0 0
  have d0 := row_cell r1 0
  rw [hwA] at c0 d0
  have HX := hid (And.intro r0 (And.intro r1 (And.intro hbA (And.intro hv (And.intro hv' (And.intro hnv hlv))))))
  clear r0 r1 hbA h h' hv hv' hnh hnv hR hlh hlv hf
  go_enter Try.func12, Try.ntmps12
  go_wp2_with fail
  rw [← hwA]
  clear hwA c0 d0
  refine HS.out.mono ?_
  rintro e w1 ⟨rfl, hb1⟩
  have c1 : w1.cell? ⟨w.heap.size, 1, none⟩ = some (.slice i.v nv i.cv) := row_cell ((hb1.block _ (row_lt HX.out.1)).trans HX.out.1) 1
  have d1 : w1.cell? ⟨w.heap.size + 1, 1, none⟩ = some (.slice i'.v nv i'.cv) := row_cell ((hb1.block _ (row_lt HX.out.2.1)).trans HX.out.2.1) 1
  have hbw1 := HX.out.2.2.1.trans (hb1.mono HX.out.2.2.1.size)
  have HV := hid (sameVs_any i.v i'.v i.cv i'.cv nv L HX.out.2.2.2.2.2.1 HX.out.2.2.2.2.2.2 w1 ((HX.out.2.2.2.1.below hbw1).more hbw1.size) ((HX.out.2.2.2.2.1.below hbw1).more hbw1.size))
  have HB1 := hid hbw1
  clear hbw1 hb1
  go_wp2_with fail
  refine HV.out.mono ?_
  rintro e w2 ⟨rfl, hb2⟩
  have HB2 := hid (HB1.out.trans (hb2.mono HB1.out.size))
  clear hb2
  go_wp2_with fail
  go_ret
  exact ⟨rfl, HB2.out⟩
end Go.Proofs.Ytaeoccpjdjafnaa.Im
namespace Go.Proofs.Ytaeoccpjdjafnaa.Im
open Go.RowKit
set_option maxRecDepth 100000
section
variable {P : Program} {α : Type} {f : α → List Value} {size bytes : Nat} {e : TypeId} {w : World} {F : Nat → Prop} {A : Option Addr} {c : Nat} {L : List α}
theorem IsRow.news {B : Nat} {ad : Addr} {M : List α} (hf : ∀ x, (f x).length = size) (h : IsRow f size w B (some ad) M) (j : Nat) (u : Value) (hj : (M.flatMap f)[j]? = some u) : w.cell? (ad.add j) = some u := by
  have hl : j < M.length * size := by
    have := (List.getElem?_eq_some_iff.1 hj).1
    rwa [flat_len f size hf] at this
  have hs : 0 < size := by
    rcases Nat.eq_zero_or_pos size with e | e
    · rw [e, Nat.mul_zero] at hl; omega
    · exact e
  have hi : j / size < M.length := Nat.div_lt_of_lt_mul (by rw [Nat.mul_comm]; exact hl)
  have hk : j % size < size := Nat.mod_lt _ hs
  have hjk : j = j / size * size + j % size := by rw [Nat.mul_comm]; exact (Nat.div_add_mod j size).symm
  obtain ⟨b, off, e1, _, hc⟩ := h.at_ (j / size) hi
  injection e1 with e1
  subst e1
  rw [hjk, flat_get f size hf M (j / size) hi (j % size) hk] at hj
  have := hc (j / size) hi (j % size) u hj
  rw [add_off, hjk, ← Nat.add_assoc]
  exact this
theorem run_append_rows (t ty : TypeId) (i : TypeInfo) (z : Value)
    (ht : P.underlying t = some (.slice e)) (hi : P.info? e = some i) (hz : i.zero = some z) (hsize : i.size = size) (hby : i.bytes = bytes) (hzs : z.cells.size = size) (hsz : 0 < size)
    (h : RowIn f size e w F A c L) {B : Nat} (ad : Addr) (c' : Nat) (M : List α) (hr : IsRow f size w B (some ad) M) (h1 : ∀ y, ∀ u ∈ f y, u.oneCell' = true)
    (hb : (L.length + M.length) * bytes ≤ 140737488355328) (hl : L.length + M.length ≤ 100000) :
    ∃ A2 c2 w', (Builtin.append_ #[t, t] ty #[.slice A L.length c, .slice (some ad) M.length c']).run P w = .ok (.slice A2 (L.length + M.length) c2) w' ∧ RowIn f size e w' (fun k => F k ∨ w.heap.size ≤ k) A2 c2 (L ++ M) ∧ w.grownBy w' (blk A) := by
  obtain ⟨v', w', hr, h2, h3, _, h4⟩ := run_append_own_at (P := P) w 0 t ty e i z size bytes ht hi hz hsize hby hzs hsz _ L.length (L.flatMap f) h.row ad M.length c' (M.flatMap f) (flat_len f size h.fits M)
    (hr.news h.fits) (fun u hu => by
      obtain ⟨y, _, hy⟩ := List.mem_flatMap.1 hu
      exact h1 y u hy) (by unfold maxLen; omega) hb (Nat.zero_le _)
  obtain ⟨A2, c2, rfl⟩ := own_slice h2
  rw [ownBlock_slice] at h3
  rw [ownBlock_slice, ownBlock_slice] at h4
  refine ⟨A2, c2, w', hr, ⟨h.fits, ?_, fun k hk => ?_⟩, h3⟩
  · rw [List.length_append, List.flatMap_append]; exact h2
  · rcases h4 with h4 | h4
    · exact .inl (h.blk k (by rw [← h4]; exact hk))
    · rw [h4] at hk
      injection hk with hk
      exact .inr (by omega)
theorem wpList_append_rows {ops : Array Oper} {rest : List Oper} {o : Oper} {a : Act} {Q : Exit → Act → World → Prop} (hgd : o.guard = none) (s x : Operand) (t : TypeId)
    (ho : o.op = .call { callee := .builtin .append, args := #[s, x], argTypes := #[t, t] }) (i : TypeInfo) (z : Value)
    (ht : P.underlying t = some (.slice e)) (hi : P.info? e = some i) (hz : i.zero = some z) (hsize : i.size = size) (hby : i.bytes = bytes) (hzs : z.cells.size = size) (hsz : 0 < size)
    (h : RowIn f size e w F A c L) (n : Nat) (hn : L.length = n) (hs : a.eval s = .slice A n c) {B : Nat} (A' : Option Addr) (c' : Nat) (M : List α) (m : Nat) (hm : M.length = m) (hx : a.eval x = .slice A' m c') (hnil : A' = none → c' = 0) (hr : IsRow f size w B A' M) (h1 : ∀ y, ∀ u ∈ f y, u.oneCell' = true)
    (hb : (n + m) * bytes ≤ 140737488355328) (hl : n + m ≤ 100000)
    (hK : ∀ A2 c2 w', RowIn f size e w' (fun k => F k ∨ w.heap.size ≤ k) A2 c2 (L ++ M) → w.grownBy w' (blk A) → wpList P ops Q rest (a.put o.dst (.slice A2 (n + m) c2)) w') : wpList P ops Q (o :: rest) a w := by
  subst hn
  subst hm
  rcases A' with _ | ad
  · obtain rfl : M = [] := by
      rcases M with _ | ⟨y, M⟩
      · rfl
      · obtain ⟨b, off, e, _⟩ := hr.at_ 0 (by simp)
        cases e
    obtain rfl := hnil rfl
    refine wpList_append_own_none hgd s x t ho 0 e i size ht hi _ L.length (L.flatMap f) hs h.row hx ?_
    have := hK A c w (by rw [List.append_nil]; exact ⟨h.fits, h.row, fun k hk => .inl (h.blk k hk)⟩) (World.grownBy.refl w _)
    simpa using this
  · refine wpList_plain hgd fun K hKK => ?_
    obtain ⟨A2, c2, w', hrun, h2, h3⟩ := run_append_rows t o.type i z ht hi hz hsize hby hzs hsz h ad c' M hr h1 hb hl
    refine Lib.wp_append_run w s x t t ho _ _ hs hx _ w' hrun (hKK _ _ (hK A2 c2 w' h2 h3))
end
structure SRows {α : Type} (f : α → List Value) (size : Nat) (w : World) (B b : Nat) (L : List (List α)) : Prop where
  at_ : ∀ i (h : i < L.length), ∃ a k, w.cell? ⟨b, i, none⟩ = some (.slice a L[i].length k) ∧ IsRow f size w B a L[i] ∧ (a = none → k = 0)
theorem sflat_step {α : Type} (L : List (List α)) (k : Nat) (h : k < L.length) : (L.take (k + 1)).flatten = (L.take k).flatten ++ L[k] := by
  rw [List.take_succ_eq_append_getElem h, List.flatten_append]; simp
theorem sflat_le {α : Type} (L : List (List α)) (k : Nat) : (L.take k).flatten.length ≤ L.flatten.length := by
  have h : L.flatten.length = (L.take k ++ L.drop k).flatten.length := by rw [List.take_append_drop]
  rw [List.flatten_append, List.length_append] at h
  omega
theorem RowIn.isRow {α : Type} {f : α → List Value} {size : Nat} {e : TypeId} {w : World} {F : Nat → Prop} {A : Option Addr} {c : Nat} {L : List α} (h : RowIn f size e w F A c L) : IsRow f size w w.heap.size A L := ⟨fun k hk => by
  obtain ⟨g, hA, hg, hF, hc, _⟩ := h.get k hk
  refine ⟨g, 0, hA, hg, fun j hj n v hv => ?_⟩
  obtain ⟨g', hA', _, _, hc', _⟩ := h.get j hj
  obtain rfl : g = g' := by rw [hA] at hA'; injection hA' with e; injection e
  have hn : n < size := by have := (List.getElem?_eq_some_iff.1 hv).1; rwa [h.fits] at this
  rw [Nat.zero_add, hc' n hn]; exact hv⟩
theorem IsRow.sl {α : Type} {f : α → List Value} {size : Nat} {w : World} {B : Nat} {A : Option Addr} {L : List α} (h : IsRow f size w B A L) {c i : Nat} (hc : L.length ≤ c) : IsRow f size w B (if c = i then A else A.map (fun x => x.add (i * size))) (L.drop i) := by
  by_cases hi : L.length ≤ i
  · rw [List.drop_of_length_le hi]; exact IsRow.nil
  · rw [if_neg (by omega)]
    refine ⟨fun k hk => ?_⟩
    rw [List.length_drop] at hk
    obtain ⟨b, off, rfl, hlt, hcs⟩ := h.at_ k (by omega)
    refine ⟨b, off + i * size, by simp [add_off], hlt, fun j hj n v hv => ?_⟩
    rw [List.length_drop] at hj
    rw [List.getElem_drop] at hv
    rw [show off + i * size + j * size = off + (i + j) * size by rw [Nat.add_mul]; omega]
    exact hcs (i + j) (by omega) n v hv
theorem IsRow.from {α : Type} {f : α → List Value} {size : Nat} {w : World} {B b off : Nat} {L : List α} (h : IsRow f size w B (some ⟨b, off, none⟩) L) (i : Nat) : IsRow f size w B (some ⟨b, off + i * size, none⟩) (L.drop i) := ⟨fun k hk => by
  rw [List.length_drop] at hk
  obtain ⟨b', off', e, hlt, hcs⟩ := h.at_ (i + k) (by omega)
  injection e with e
  injection e with e1 e2
  subst e1
  subst e2
  refine ⟨b, off + i * size, rfl, hlt, fun j hj n v hv => ?_⟩
  rw [List.length_drop] at hj
  rw [List.getElem_drop] at hv
  rw [show off + i * size + j * size = off + (i + j) * size by rw [Nat.add_mul]; omega]
  exact hcs (i + j) (by omega) n v hv⟩
theorem IsRow.take {α : Type} {f : α → List Value} {size : Nat} {w : World} {B : Nat} {A : Option Addr} {L : List α} (h : IsRow f size w B A L) (n : Nat) : IsRow f size w B A (L.take n) := ⟨fun k hk => by
  have hk' : k < L.length := by rw [List.length_take] at hk; omega
  obtain ⟨b, off, e, hlt, hc⟩ := h.at_ k hk'
  refine ⟨b, off, e, hlt, fun i hi j v hv => ?_⟩
  have hi' : i < L.length := by rw [List.length_take] at hi; omega
  rw [List.getElem_take] at hv
  exact hc i hi' j v hv⟩
end Go.Proofs.Ytaeoccpjdjafnaa.Im
namespace Go.Proofs.Ytaeoccpjdjafnaa.Im
open Go.RowKit
set_option maxRecDepth 100000
def over (xs : List Value) : Nat → List Value → List Value
  | _, [] => xs
  | o, v :: vs => over (xs.set o v) (o + 1) vs
theorem over_get : ∀ (vs xs : List Value) (o j : Nat), o + vs.length ≤ xs.length → (over xs o vs)[j]? = if o ≤ j ∧ j < o + vs.length then vs[j - o]? else xs[j]?
  | [], xs, o, j, _ => by rw [if_neg (by simp only [List.length_nil]; omega)]; rfl
  | v :: vs, xs, o, j, h => by
    simp only [List.length_cons] at h
    show (over (xs.set o v) (o + 1) vs)[j]? = _
    rw [over_get vs _ (o + 1) j (by rw [List.length_set]; omega)]
    by_cases h1 : o = j
    · subst h1
      rw [if_neg (by omega), if_pos (by simp), Nat.sub_self, List.getElem?_set_self (by omega)]
      rfl
    · by_cases h2 : o + 1 ≤ j ∧ j < o + 1 + vs.length
      · rw [if_pos h2, if_pos (by simp; omega), show j - o = (j - (o + 1)) + 1 by omega]
        rfl
      · rw [if_neg h2, if_neg (by simp; omega), List.getElem?_set_ne h1]
theorem over_flat {α : Type} (f : α → List Value) (n : Nat) (hf : ∀ x, (f x).length = n) (L : List α) (i : Nat) (hi : i < L.length) (x' : α) : over (L.flatMap f) (i * n) (f x') = (L.set i x').flatMap f := by
  have hle : i * n + n ≤ L.length * n := by
    have := Nat.mul_le_mul_right n (show i + 1 ≤ L.length by omega)
    rw [Nat.succ_mul] at this
    exact this
  have hl1 := flat_len f n hf L
  have hl2 := flat_len f n hf (L.set i x')
  rw [List.length_set] at hl2
  apply List.ext_getElem?
  intro j
  rw [over_get _ _ _ _ (by rw [hf, hl1]; exact hle), hf]
  by_cases hj : j < L.length * n
  · have hn : 0 < n := by
      rcases Nat.eq_zero_or_pos n with e | e
      · rw [e, Nat.mul_zero] at hj; omega
      · exact e
    have hq : j / n < L.length := Nat.div_lt_of_lt_mul (by rw [Nat.mul_comm]; exact hj)
    have hr : j % n < n := Nat.mod_lt _ hn
    have hjk : j = j / n * n + j % n := by rw [Nat.mul_comm]; exact (Nat.div_add_mod j n).symm
    have g1 := flat_get f n hf L (j / n) hq (j % n) hr
    have g2 := flat_get f n hf (L.set i x') (j / n) (by rw [List.length_set]; exact hq) (j % n) hr
    rw [← hjk] at g1 g2
    rw [g1, g2]
    by_cases e : j / n = i
    · have hb1 : i * n ≤ j := by rw [← e]; omega
      have hb2 : j < i * n + n := by rw [← e]; omega
      rw [if_pos ⟨hb1, hb2⟩]
      have e3 : j - i * n = j % n := by rw [← e]; omega
      rw [e3]
      congr 2
      subst e
      rw [List.getElem_set_self]
    · rw [if_neg ?_]
      · rw [List.getElem_set_ne (fun h => e h.symm)]
      · rintro ⟨h1, h2⟩
        apply e
        have a1 : i ≤ j / n := (Nat.le_div_iff_mul_le hn).2 h1
        have a2 : j / n < i + 1 := Nat.div_lt_of_lt_mul (by rw [Nat.mul_comm, Nat.succ_mul]; exact h2)
        omega
  · rw [if_neg (by omega), List.getElem?_eq_none (by omega), List.getElem?_eq_none (by omega)]
theorem stored_all {base n cap g : Nat} {e : TypeId} {size : Nat} : ∀ (vs xs : List Value) (w : World) (o : Nat), w.ownsRow base e size (.slice (some ⟨g, 0, none⟩) n cap) n xs → (w.setCells g o vs).ownsRow base e size (.slice (some ⟨g, 0, none⟩) n cap) n (over xs o vs)
  | [], _, _, _, h => h
  | v :: vs, xs, w, o, h => stored_all vs (xs.set o v) (w.setCell ⟨g, o, none⟩ v) (o + 1) (h.stored o v).1
section
variable {α : Type} {f : α → List Value} {size : Nat} {e : TypeId} {w : World} {F : Nat → Prop} {c g : Nat} {L : List α}
theorem RowIn.setAll (h : RowIn f size e w F (some ⟨g, 0, none⟩) c L) (i : Nat) (hi : i < L.length) (x' : α) : RowIn f size e (w.setCells g (i * size) (f x')) F (some ⟨g, 0, none⟩) c (L.set i x') := by
  refine ⟨h.fits, ?_, h.blk⟩
  rw [List.length_set, ← over_flat f size h.fits L i hi x']
  exact stored_all _ _ _ _ h.row
theorem RowIn.there (h : RowIn f size e w F (some ⟨g, 0, none⟩) c L) (i : Nat) (hi : i < L.length) : w.there g (i * size) size := fun j hj => by
  obtain ⟨g', hA, _, _, hc, hf⟩ := h.get i hi
  obtain rfl : g = g' := by injection hA with e; injection e
  refine ⟨?_, hf _⟩
  rw [hc j hj, List.getElem?_eq_getElem (by rw [h.fits]; exact hj)]
  rfl
theorem RowIn.range (h : RowIn f size e w F (some ⟨g, 0, none⟩) c L) (i : Nat) (hi : i < L.length) : w.rangeAt g (i * size) (f L[i]) := fun j v hv => by
  obtain ⟨g', hA, _, _, hc, hf⟩ := h.get i hi
  obtain rfl : g = g' := by injection hA with e; injection e
  have hj : j < size := by have := (List.getElem?_eq_some_iff.1 hv).1; rwa [h.fits] at this
  rw [hc j hj]; exact hv
end
theorem stAt {t : TypeId} {n : Nat} (hi : (Try.prog.info? t).map (·.size) = some n) {w : World} {b o : Nat} (ht : w.there b o n) (cs : Array Value) (hn : cs.size = n) (h1 : cs.all (·.oneCell') = true) : (stX t (.pointer (some ⟨b, o, none⟩)) (.agg cs)).run Try.prog w = .ok () (w.setCells b o cs.toList) :=
  run_storeAt_mid w b o t cs (hn ▸ ht) (by rw [hi, hn]) h1
end Go.Proofs.Ytaeoccpjdjafnaa.Im
namespace Go.Proofs.Ytaeoccpjdjafnaa.Im
open Go.RowKit
set_option maxRecDepth 100000
set_option linter.unusedVariables false
theorem fitE (q : El) : (cellsE q).length = 3 := rfl
theorem oneE (q : El) : ∀ u ∈ cellsE q, u.oneCell' = true := by
  intro u hu
  simp [cellsE] at hu
  rcases hu with rfl | rfl | rfl <;> rfl
theorem infE : (Try.prog.info? 77).map (fun i => (i.zero, i.size, i.bytes)) = some (some (.agg #[.int .i64 0, .int .i64 0, .slice none 0 0]), 3, 40) := by kernel_rfl
set_option maxHeartbeats 800000 in
theorem ownE_any (A : Option Addr) (c n : Nat) (L : List El) (hn : L.length = n) (hl : n ≤ 100000) (w : World) (h : IsRow cellsE 3 w w.heap.size A L) (hnil : A = none → c = 0) :
    Calls Try.prog 117 #[.slice A n c] w fun e w' => ∃ A' c', e = .returned (.slice A' n c') ∧ RowIn cellsE 3 77 w' (fun k => w.heap.size ≤ k) A' c' L ∧ Below w.heap.size w w' := by
  obtain ⟨i0, hi, hz0, hz1, hz2⟩ := info_parts infE
  have hrow : RowIn cellsE 3 77 w (fun k => w.heap.size ≤ k) none 0 [] := RowIn.nil fitE _ _ _
  go_enter Try.func117, Try.ntmps117
  go_wp2_with (at_builtin; refine wpList_append_rows rfl _ _ 26 rfl i0 _ Try.underlying26 hi hz0 hz1 hz2 rfl (by decide) hrow 0 rfl rfl A c L n hn rfl hnil h oneE (by omega) (by omega) ?_)
  intro A2 c2 w2 hrow2 hg2
  have H2 : Hid (RowIn cellsE 3 77 w2 (fun k => w.heap.size ≤ k) A2 c2 L ∧ Below w.heap.size w w2) := hid ⟨hrow2.mono (fun k hk => by have := hrow2.blk k hk; omega), below_grown hg2 (Nat.le_refl _) (fun k e => by cases e)⟩
  clear hrow2 hg2 hrow
  go_wp2_with fail
  go_ret
  exact ⟨A2, c2, rfl, H2.out⟩
set_option maxHeartbeats 800000 in
theorem growE_any (n : Nat) (hn : n ≤ 100000) (w : World) :
    Calls Try.prog 88 #[.slice none 0 0, .int .i64 (n : Int)] w fun e w' => ∃ A' c', e = .returned (.slice A' 0 c') ∧ RowIn cellsE 3 77 w' (fun k => w.heap.size ≤ k) A' c' [] ∧ Below w.heap.size w w' := by
  obtain ⟨i0, hi, hz0, hz1, hz2⟩ := info_parts infE
  have hui : Try.prog.underlying 3 = some (.int .i64) := by kernel_rfl
  by_cases h0 : 0 < n
  · go_enter Try.func88, Try.ntmps88
    go_wp2_with (at_builtin; refine Lib.wpList_append_run _ rfl _ _ 26 3 rfl (.slice none 0 0) (.int .i64 (n : Int)) rfl rfl _ _ (Lib.run_append_nil_zeros _ 26 3 _ 77 i0 (.agg #[.int .i64 0, .int .i64 0, .slice none 0 0]) .i64 .i64 Try.underlying26 hui hi hz0 n h0 (by rw [hz1]; decide) (by omega) (by rw [hz2]; omega)) ?_)
    have hcap1 := grownCap_ge w n 0 77
    have hcap2 := grownCap_le_maxLen w n 0 77 (by unfold maxLen; omega)
    obtain ⟨cap, hcap⟩ : ∃ cap, cap = grownCap w n 0 77 := ⟨_, rfl⟩
    rw [← hcap] at hcap1 hcap2 ⊢
    have HO : Hid (RowIn cellsE 3 77 (w.drew.alloc (.cells (Builtin.zeroCells (Value.agg #[.int .i64 0, .int .i64 0, .slice none 0 0]).cells n ++ Builtin.zeroCells (Value.agg #[.int .i64 0, .int .i64 0, .slice none 0 0]).cells (cap - n)) 77)) (fun k => w.heap.size ≤ k) (some ⟨w.heap.size, 0, none⟩) cap []) := by
      refine ⟨fitE, ⟨by simp, .inr ⟨w.heap.size, cap, _, rfl, Nat.zero_le _, heap_alloc_new w.drew _, Nat.zero_le _, hcap2, ?_, by simp⟩⟩, fun k hk => by cases hk; exact Nat.le_refl _⟩
      rw [Array.size_append, size_zeroCells, size_zeroCells]
      show n * 3 + (cap - n) * 3 = cap * 3
      omega
    have HB : Hid (Below w.heap.size w (w.drew.alloc (.cells (Builtin.zeroCells (Value.agg #[.int .i64 0, .int .i64 0, .slice none 0 0]).cells n ++ Builtin.zeroCells (Value.agg #[.int .i64 0, .int .i64 0, .slice none 0 0]).cells (cap - n)) 77))) :=
      (Below.refl _ _).drew.alloc (Nat.le_refl _) _
    unfold maxLen at hcap2
    have HC := hid hcap
    clear hcap
    go_wp2
    go_ret
    exact ⟨_, _, rfl, HO.out, HB.out⟩
  · obtain rfl : n = 0 := by omega
    go_enter Try.func88, Try.ntmps88
    go_wp2
    go_ret
    exact ⟨none, 0, rfl, RowIn.nil fitE _ _ _, Below.refl _ _⟩
set_option maxHeartbeats 1600000 in
theorem concatE_any (B b : Nat) (L : List (List El)) (n c : Nat) (hn : L.length = n) (hL : n ≤ 1000) (hF : L.flatten.length ≤ 100000) (w : World) (h0 : SRows cellsE 3 w B b L) (hb : b < w.heap.size) (hB : B ≤ w.heap.size) :
    Calls Try.prog 59 #[.slice (some ⟨b, 0, none⟩) n c] w fun e w' => ∃ A c' m, e = .returned (.slice A m c') ∧ m = L.flatten.length ∧ RowIn cellsE 3 77 w' (fun k => w.heap.size ≤ k) A c' L.flatten ∧ Below w.heap.size w w' := by
  obtain ⟨i0, hi, hz0, hz1, hz2⟩ := info_parts infE
  subst hn
  have h := hid h0
  have HF := hid hF
  clear h0 hF
  go_enter Try.func59, Try.ntmps59
  go_wp2_with fail
  go_loopw [3, 11] (fun v i wr => ∃ k m : Nat, k ≤ L.length ∧ m ≤ 100000 ∧ v = .int .i64 m ∧ i = .int .i64 k ∧ w = wr ∧ Hid (m = (L.take k).flatten.length)) (fun _ i _ => L.length - (RowKit.intOf i).toNat)
  case atStart => exact ⟨0, 0, by omega, by omega, rfl, rfl, rfl, hid (by simp)⟩
  case round =>
    obtain ⟨k, m, hk, hm, rfl, rfl, rfl, hs⟩ := hrel
    by_cases hlt : k < L.length
    · obtain ⟨a, ka, hcell, _, _⟩ := h.out.at_ k hlt
      have hst := sflat_step L k hlt
      have hle := sflat_le L (k + 1)
      rw [hst, List.length_append, ← hs.out] at hle
      have hm2 : m + L[k].length ≤ 100000 := by have := HF.out; omega
      have HS := hid hst
      clear hst hle
      generalize hn : L[k].length = n at *
      have HN := hid hn
      clear hn
      have hneg : ¬ ((m : Int) + (n : Int) < 0) := by omega
      go_wp2_with fail
      go_roundw
      case rel => exact ⟨k + 1, m + n, by omega, hm2, by go_num, by go_num, trivial, hid (by rw [HS.out, List.length_append, ← hs.out, HN.out])⟩
      case measure => simp [RowKit.intOf]; omega
    · obtain rfl : k = L.length := by omega
      have HG := hid (growE_any m (by omega) w)
      go_wp2_with fail
      refine HG.out.mono ?_
      rintro e w1 ⟨A1, c1, rfl, hown1, hbel1⟩
      have HO := hid hown1
      have HB := hid hbel1
      clear hown1 hbel1 HG
      go_wp2_with fail
      go_loopw [6, 27] (fun v i wr => ∃ (k q : Nat) (A : Option Addr) (c2 : Nat), k ≤ L.length ∧ v = .slice A q c2 ∧ i = .int .i64 k ∧ Hid (q = (L.take k).flatten.length ∧ RowIn cellsE 3 77 wr (fun k => w.heap.size ≤ k) A c2 (L.take k).flatten ∧ Below w.heap.size w wr)) (fun _ i _ => L.length - (RowKit.intOf i).toNat)
      case atStart => exact ⟨0, 0, A1, c1, by omega, rfl, rfl, hid ⟨by simp, by simpa using HO.out, HB.out⟩⟩
      case round =>
        clear HO HB
        obtain ⟨k, q, A, c2, hk, rfl, rfl, HX⟩ := hrel
        by_cases hlt : k < L.length
        · obtain ⟨a, ka, hcell0, hrow, hnil⟩ := h.out.at_ k hlt
          have hbel := HX.out.2.2
          have hcell : wr.cell? ⟨b, k, none⟩ = some (.slice a L[k].length ka) := (hbel.cell (by exact hb)).trans hcell0
          have hrow2 : IsRow cellsE 3 wr w.heap.size a L[k] := (hrow.more hB).below hbel
          have hst := sflat_step L k hlt
          have hle := sflat_le L (k + 1)
          rw [hst, List.length_append, ← HX.out.1] at hle
          have hsum : q + L[k].length ≤ 100000 := by have := HF.out; omega
          have hown := HX.out.2.1
          have HM := hid (And.intro hst (And.intro hle hbel))
          generalize hLk : L[k] = M at *
          obtain ⟨m, hm⟩ : ∃ m, m = M.length := ⟨_, rfl⟩
          rw [← hm] at hcell hsum
          have HK := hid (And.intro hm (And.intro hsum HX.out.1))
          clear hst hle hrow hcell0 hbel hm
          go_wp2_with (at_builtin; refine wpList_append_rows rfl _ _ 26 rfl i0 _ Try.underlying26 hi hz0 hz1 hz2 rfl (by decide) hown q HK.out.2.2.symm rfl a ka M m HK.out.1.symm rfl hnil hrow2 oneE (by have := HK.out.2.1; omega) HK.out.2.1 ?_)
          intro A3 c3 w3 hown3 hg3
          have H4 : Hid (q + m = (L.take (k + 1)).flatten.length ∧ RowIn cellsE 3 77 w3 (fun k => w.heap.size ≤ k) A3 c3 (L.take (k + 1)).flatten ∧ Below w.heap.size w w3) := hid (by
            refine ⟨by rw [HM.out.1, List.length_append, ← HK.out.1, ← HK.out.2.2], ?_, HM.out.2.2.trans (below_grown hg3 HM.out.2.2.size (fun k hk => HX.out.2.1.blk k hk))⟩
            rw [HM.out.1]
            have hz := HM.out.2.2.size
            exact hown3.mono (fun k hk => by have := hown3.blk k hk; omega))
          clear hown3 hg3 hown hrow2
          go_wp2_with fail
          go_roundw
          case rel => exact ⟨k + 1, q + m, A3, c3, by omega, by first | rfl | (simp), by go_num, H4⟩
          case measure => simp [RowKit.intOf]; omega
        · obtain rfl : k = L.length := by omega
          have H3 := HX.out
          rw [List.take_length] at H3
          have H3' := hid H3
          clear H3
          go_wp2_with fail
          go_ret
          exact ⟨A, c2, q, rfl, H3'.out.1, H3'.out.2.1, H3'.out.2.2⟩
end Go.Proofs.Ytaeoccpjdjafnaa.Im
namespace Go.Proofs.Ytaeoccpjdjafnaa
open Go.RowKit
def Reads (w : World) (B : Nat) (M : List El) : Prop := ∀ q ∈ M, IsBytes w B q.A q.e.d ∧ (q.e.d.length ≤ q.c ∧ q.c ≤ maxLen) ∧ (q.A = none → q.c = 0)
theorem IsEnts.flat {w : World} {B : Nat} {A : Option Addr} {L : List Rl.En} (h : IsEnts w B A L) : ∃ M : List El, M.map (·.e) = L ∧ Reads w B M ∧ ∀ ad, A = some ad → ∀ j u, (M.flatMap cellsE)[j]? = some u → w.cell? (ad.add j) = some u := by
  have hq : ∀ i : Fin L.length, ∃ q : El, q.e = L[i] ∧ (IsBytes w B q.A q.e.d ∧ (q.e.d.length ≤ q.c ∧ q.c ≤ maxLen) ∧ (q.A = none → q.c = 0)) ∧ ∀ ad, A = some ad → ∀ k, k < 3 → w.cell? (ad.add (i.1 * 3 + k)) = (cellsE q)[k]? := by
    intro i
    obtain ⟨b, off, rfl, _, hc⟩ := h.cells i.1 i.2
    obtain ⟨A1, c1, d0, d1, d2, d3, d4, d5⟩ := hc i.1 i.2
    refine ⟨⟨L[i], A1, c1⟩, rfl, ⟨d3, d4, d5⟩, fun ad he k hk => ?_⟩
    injection he with he
    subst he
    rw [add_off, ← Nat.add_assoc]
    match k, hk with
    | 0, _ => exact d0
    | 1, _ => exact d1
    | 2, _ => exact d2
  refine ⟨List.ofFn (fun i => (hq i).choose), ?_, ?_, ?_⟩
  · apply List.ext_getElem
    · simp
    · intro i h1 h2
      rw [List.getElem_map, List.getElem_ofFn]
      exact (hq ⟨i, h2⟩).choose_spec.1
  · intro q hm
    obtain ⟨i, rfl⟩ := List.mem_ofFn.1 hm
    exact (hq i).choose_spec.2.1
  · intro ad he j u hu
    have hlt := (List.getElem?_eq_some_iff.1 hu).1
    rw [flat_len cellsE 3 (fun _ => rfl)] at hlt
    have hj : j / 3 < (List.ofFn (fun i => (hq i).choose)).length := by omega
    have e := flat_get cellsE 3 (fun _ => rfl) _ (j / 3) hj (j % 3) (by omega)
    rw [show j / 3 * 3 + j % 3 = j by omega, hu, List.getElem_ofFn] at e
    have := (hq ⟨j / 3, by simpa using hj⟩).choose_spec.2.2 ad he (j % 3) (by omega)
    rw [show j / 3 * 3 + j % 3 = j by omega] at this
    rw [this, ← e]
theorem Reads.below {w w' : World} {B : Nat} {M : List El} (h : Reads w B M) (hb : Below B w w') : Reads w' B M := fun q hq => ⟨(h q hq).1.below hb, (h q hq).2⟩
theorem isEnts_row {w : World} {B B' : Nat} {F : Nat → Prop} {A : Option Addr} {c : Nat} {M : List El} (hrow : RowIn cellsE 3 77 w F A c M) (hr : Reads w B M) (hB : B ≤ B') (hF : ∀ k, F k → k < w.heap.size → k < B') (hn : ∀ q ∈ M, InInt q.e.t ∧ InInt q.e.k) : IsEnts w B' A (M.map (·.e)) := ⟨fun e he => by
  obtain ⟨q, hq, rfl⟩ := List.mem_map.1 he
  exact hn q hq, fun k hk => by
  rw [List.length_map] at hk
  obtain ⟨g, hA, hg, hFg, _, _⟩ := hrow.get k hk
  refine ⟨g, 0, hA, hF g hFg hg, fun i hi => ?_⟩
  rw [List.length_map] at hi
  obtain ⟨g', hA', _, _, hc, _⟩ := hrow.get i hi
  obtain rfl : g = g' := by rw [hA] at hA'; injection hA' with e; injection e
  have ho := hr M[i] (List.getElem_mem hi)
  rw [List.getElem_map, Nat.zero_add]
  exact ⟨M[i].A, M[i].c, hc 0 (by omega), hc 1 (by omega), hc 2 (by omega), ho.1.more hB, ho.2⟩⟩
def SharE (w : World) (B lo : Nat) (A : Option Addr) (c : Nat) (L : List Rl.En) : Prop :=
  ∃ M : List El, M.map (·.e) = L ∧ RowIn cellsE 3 77 w (fun k => lo ≤ k) A c M ∧ Reads w B M ∧ ∀ q ∈ M, InInt q.e.t ∧ InInt q.e.k
namespace SharE
variable {w w' : World} {B lo : Nat} {A : Option Addr} {c : Nat} {L : List Rl.En}
theorem nil (w : World) (B lo : Nat) : SharE w B lo none 0 [] := ⟨[], rfl, RowIn.nil (f := cellsE) (fun _ => rfl) _ _ _, fun q hq => by simp at hq, by simp⟩
theorem reads (h : SharE w B lo A c L) (hB : B ≤ w.heap.size) : IsEnts w w.heap.size A L := by
  obtain ⟨M, h1, h2, h3, h4⟩ := h
  rw [← h1]
  exact isEnts_row h2 h3 hB (fun k _ hk => hk) h4
theorem keep {S : Nat → Prop} (h : SharE w B lo A c L) (ht : Turned S w w') (hB : B ≤ w.heap.size) (hs : ∀ k, S k → B ≤ k ∧ k < lo) : SharE w' B lo A c L := by
  obtain ⟨M, h1, h2, h3, h4⟩ := h
  exact ⟨M, h1, h2.keep ht (fun k hk hS => by have := h2.blk k hk; have := (hs k hS).2; omega), h3.below (ht.below hB (fun k hk => (hs k hk).1)), h4⟩
theorem below (h : SharE w B lo A c L) (hb : Below w.heap.size w w') (hB : B ≤ w.heap.size) : SharE w' B lo A c L := h.keep (S := fun _ => False) (Turned.ofBelow _ hb) hB (fun _ h => h.elim)
theorem room (h : SharE w B lo A c L) : L.length ≤ c ∧ c ≤ maxLen := by
  obtain ⟨M, h1, h2⟩ := h; rw [← h1, List.length_map]; exact ⟨h2.1.cap, h2.1.capLe⟩
theorem none_ (h : SharE w B lo A c L) : A = none → c = 0 := by
  obtain ⟨M, h1, h2⟩ := h; exact h2.1.none_
end SharE
end Go.Proofs.Ytaeoccpjdjafnaa
namespace Go.Proofs.Ytaeoccpjdjafnaa.Im
open Go.RowKit
open Rl (En Lg)
set_option maxRecDepth 100000
set_option linter.unusedVariables false
theorem loadAt_entry1 (a : Value) : Instr.loadAt 77 a = ldX 77 a := rfl
theorem storeAt_entry1 (a v : Value) : Instr.storeAt 77 a v = stX 77 a v := rfl
attribute [local go_sem ↓] loadAt_entry1 storeAt_entry1
theorem info_entry33 : (Try.prog.info? 77).map (·.size) = some 3 := by kernel_rfl
set_option maxHeartbeats 400000 in
theorem ownB_any (A : Option Addr) (c n : Nat) (l : List Nat) (hn : l.length = n) (hl : n ≤ 140737488355000) (w : World) (h : IsBytes w w.heap.size A l) (hnil : A = none → c = 0) :
    Calls Try.prog 96 #[.slice A n c] w fun e w' => ∃ A' c', e = .returned (.slice A' n c') ∧ OwnsB 5 w' w.heap.size A' c' l ∧ Below w.heap.size w w' := by
  obtain ⟨i0, hi, hz0, hz1, hz2⟩ := info_parts info_u8
  have hrow : OwnsB 5 w w.heap.size none 0 [] := OwnsB.nil _ _ _
  go_enter Try.func96, Try.ntmps96
  go_wp2_with (at_builtin; refine wpList_append_bytesN rfl _ _ 32 rfl w.heap.size 5 i0 Try.underlying32 hi hz0 hz1 hz2 none 0 [] 0 rfl rfl hrow w.heap.size A c l n hn rfl hnil h l rfl (by omega) (Nat.le_refl _) ?_)
  intro A2 c2 w2 ho hb
  have H2 := hid (And.intro ho hb)
  clear ho hb hrow
  go_wp2_with fail
  go_ret
  exact ⟨A2, c2, ret_len (by simp), H2.out⟩
set_option maxHeartbeats 400000 in
theorem ownI_any (A : Option Addr) (c n : Nat) (l : List Int) (hn : l.length = n) (hl : n ≤ 17592186044000) (w : World) (h : IsInts w w.heap.size A l) (hnil : A = none → c = 0) :
    Calls Try.prog 95 #[.slice A n c] w fun e w' => ∃ A' c', e = .returned (.slice A' n c') ∧ OwnsI 3 w' w.heap.size A' c' l ∧ Below w.heap.size w w' := by
  obtain ⟨i0, hi, hz0, hz1, hz2⟩ := info_parts I.info_int
  have hrow : OwnsI 3 w w.heap.size none 0 [] := OwnsI.nil _ _ _
  go_enter Try.func95, Try.ntmps95
  go_wp2_with (at_builtin; refine wpList_append_intsN rfl _ _ 29 rfl w.heap.size 3 i0 Try.underlying29 hi hz0 hz1 hz2 none 0 [] 0 rfl rfl hrow w.heap.size A c l n hn rfl hnil h l rfl (by omega) (Nat.le_refl _) ?_)
  intro A2 c2 w2 ho hb
  have H2 := hid (And.intro ho hb)
  clear ho hb hrow
  go_wp2_with fail
  go_ret
  exact ⟨A2, c2, ret_len (by simp), H2.out⟩
set_option maxHeartbeats 1600000 in
theorem ownEntry_any (x : En) (A : Option Addr) (c n : Nat) (hn : x.d.length = n) (hl : n ≤ 140737488355000) (w : World) (h : IsBytes w w.heap.size A x.d) (hnil : A = none → c = 0) :
    Calls Try.prog 94 #[.agg #[.int .i64 x.t, .int .i64 x.k, .slice A n c]] w fun e w' => ∃ A' c', e = .returned (.agg #[.int .i64 x.t, .int .i64 x.k, .slice A' n c']) ∧ OwnsB 5 w' w.heap.size A' c' x.d ∧ Below w.heap.size w w' := by
  obtain ⟨wA, hwA⟩ : ∃ wA, wA = (w.alloc (.cells #[.int .i64 x.t, .int .i64 x.k, .slice A n c] 77)).alloc (.cells #[.int .i64 0, .int .i64 0, .slice none 0 0] 77) := ⟨_, rfl⟩
  obtain ⟨b1, hb1⟩ : ∃ b1, b1 = w.heap.size + 1 := ⟨_, rfl⟩
  have hsA : wA.heap.size = w.heap.size + 2 := by rw [hwA]; simp
  have hbA : Below w.heap.size w wA := by rw [hwA]; exact ((Below.refl _ w).alloc (Nat.le_refl _) _).alloc (by simp) _
  have hr0 : wA.heap[w.heap.size]? = some (.cells #[.int .i64 x.t, .int .i64 x.k, .slice A n c] 77 (0, 0)) := by rw [hwA, heap_alloc_old _ _ (by simp)]; exact heap_alloc_new w _
  have hr1 : wA.heap[b1]? = some (.cells #[.int .i64 0, .int .i64 0, .slice none 0 0] 77 (0, 0)) := by
    have := heap_alloc_new (w.alloc (.cells #[.int .i64 x.t, .int .i64 x.k, .slice A n c] 77)) (.cells #[.int .i64 0, .int .i64 0, .slice none 0 0] 77)
    rw [World.size_alloc, ← hwA, ← hb1] at this
    exact this
  have HO := hid (ownB_any A c n x.d hn hl wA ((h.below hbA).more (by omega)) hnil)
  have hc2 := row_cell hr0 2
  have H0 := hid (And.intro hr0 (And.intro hr1 (And.intro hbA (And.intro hsA hb1))))
  have hc2' : wA.cell? ⟨w.heap.size, 2, none⟩ = some (.slice A n c) := hc2
  clear hc2 hr0 hr1 hbA hsA h hn hl hnil
  go_enter Try.func94, Try.ntmps94
  go_wp2_with fail
  rw [← hwA, ← hb1]
  clear hwA hb1
  go_wp2_with fail
  refine HO.out.mono ?_
  rintro e w1 ⟨A1, c1, rfl, ho1, hb1⟩
  have hr01 := (hb1.block _ (by have := H0.out.2.2.2.1; omega)).trans H0.out.1
  have hr11 := (hb1.block _ (by have := H0.out.2.2.2.1; have := H0.out.2.2.2.2; omega)).trans H0.out.2.1
  have hc1 := row_cell hr01 2
  have hf1 := row_free hr01 2
  have hcc : w1.cell? ⟨w.heap.size, 2, none⟩ = some (.slice A n c) := hc1
  have hr02 : (w1.setCell ⟨w.heap.size, 2, none⟩ (.slice A1 n c1)).heap[w.heap.size]? = some (.cells #[.int .i64 x.t, .int .i64 x.k, .slice A1 n c1] 77 (0, 0)) := row_set hr01 2 _
  have hT2 : Turned (fun k => k = w.heap.size) w1 (w1.setCell ⟨w.heap.size, 2, none⟩ (.slice A1 n c1)) := Turned.one _ _ _ _
  have hr12 := (hT2.block b1 (row_lt hr11) (by have := H0.out.2.2.2.2; omega)).trans hr11
  generalize hw2 : w1.setCell ⟨w.heap.size, 2, none⟩ (.slice A1 n c1) = w2 at *
  have hld := ldRow info_entry33 Try.underlying77 rfl hr02 rfl
  have hst := stRow info_entry33 (cs' := #[.int .i64 x.t, .int .i64 x.k, .slice A1 n c1]) hr12 rfl rfl (by simp [Value.oneCell'])
  have hro3 := setRow_heap w2 b1 _ #[.int .i64 x.t, .int .i64 x.k, .slice A1 n c1] _ _ hr12
  have hT3 := row_turned w2 b1 #[.int .i64 x.t, .int .i64 x.k, .slice A1 n c1]
  generalize w2.setRow b1 #[.int .i64 x.t, .int .i64 x.k, .slice A1 n c1] = w3 at *
  have HF : Hid (w3.heap[b1]? = some (.cells #[.int .i64 x.t, .int .i64 x.k, .slice A1 n c1] 77 (0, 0)) ∧ OwnsB 5 w3 w.heap.size A1 c1 x.d ∧ Below w.heap.size w w3) := hid (by
    have z0 := H0.out.2.2.2.1
    have z1 := H0.out.2.2.2.2
    have zb := hb1.size
    have o2 := ho1.turned hT2 (fun k hk e => by have := (ho1.blkLt k hk).1; omega)
    refine ⟨hro3, (o2.turned hT3 (fun k hk e => by have := (o2.blkLt k hk).1; omega)).weaken (by omega), ?_⟩
    exact (H0.out.2.2.1.trans (hb1.mono (by omega))).trans ((hT2.below (by omega) (fun k hk => by omega)).trans (hT3.below (by have := hT2.size; omega) (fun k hk => by omega))))
  clear ho1 hb1 hr01 hr11 hc1 hr02 hT2 hr12 hro3 hT3
  go_wp2_with fail
  refine bodyPost_ret (results_cell_row rfl _ _ b1 _ _ _ _ rfl HF.out.1 Try.underlying77 rfl (by rw [info_entry33]; rfl)) rfl ?_
  exact ⟨A1, c1, rfl, HF.out.2⟩
end Go.Proofs.Ytaeoccpjdjafnaa.Im
namespace Go.Proofs.Ytaeoccpjdjafnaa.Im
open Go.RowKit
open Rl (En Lg)
set_option maxRecDepth 100000
set_option linter.unusedVariables false
attribute [local go_sem ↓] loadAt_entry1 storeAt_entry1
theorem isEnts_row {w : World} {B : Nat} {A : Option Addr} {L : List En} (h : IsEnts w B A L) : ∃ M : List El, M.map (·.e) = L ∧ Reads w B M ∧ IsRow cellsE 3 w B A M := by
  obtain ⟨M, h1, h2, h3⟩ := h.flat
  refine ⟨M, h1, h2, ⟨fun k hk => ?_⟩⟩
  have hkL : k < L.length := by rw [← h1, List.length_map]; exact hk
  obtain ⟨b, off, e, hb, _⟩ := h.cells k hkL
  refine ⟨b, off, e, hb, fun i hi j v hv => ?_⟩
  have hj : j < 3 := (List.getElem?_eq_some_iff.1 hv).1
  have h4 := h3 ⟨b, off, none⟩ e (i * 3 + j) v (by rw [flat_get cellsE 3 (fun _ => rfl) M i hi j hj]; exact hv)
  rw [add_off, ← Nat.add_assoc] at h4
  exact h4
def Chain {α : Type} (R : Nat → Nat → α → Prop) : Nat → Nat → List α → Prop
  | B, N, [] => B ≤ N
  | B, N, q :: l => ∃ m, B ≤ m ∧ R B m q ∧ Chain R m N l
section
variable {α : Type} {R R' : Nat → Nat → α → Prop}
theorem Chain.le : ∀ {l : List α} {B N : Nat}, Chain R B N l → B ≤ N
  | [], _, _, h => h
  | _ :: _, _, _, ⟨_, h1, _, h3⟩ => Nat.le_trans h1 (Chain.le h3)
theorem Chain.imp (h : ∀ a b x, R a b x → R' a b x) : ∀ {l : List α} {B N : Nat}, Chain R B N l → Chain R' B N l
  | [], _, _, h0 => h0
  | _ :: _, _, _, ⟨m, h1, h2, h3⟩ => ⟨m, h1, h _ _ _ h2, Chain.imp h h3⟩
theorem Chain.snoc {N N' : Nat} {q : α} (hN : N ≤ N') (hq : R N N' q) (hR : ∀ a a' b x, a' ≤ a → R a b x → R a' b x) : ∀ {l : List α} {B : Nat}, Chain R B N l → Chain R B N' (l ++ [q])
  | [], _, h => ⟨N', Nat.le_trans h hN, hR _ _ _ _ h hq, Nat.le_refl _⟩
  | _ :: _, _, ⟨m, h1, h2, h3⟩ => ⟨m, h1, h2, Chain.snoc hN hq hR h3⟩
theorem Chain.mem {q : α} : ∀ {l : List α} {B N : Nat}, Chain R B N l → q ∈ l → ∃ a b, B ≤ a ∧ b ≤ N ∧ R a b q
  | _ :: _, _, _, ⟨m, h1, h2, h3⟩, hq => by
    rcases List.mem_cons.1 hq with rfl | hq
    · exact ⟨_, m, Nat.le_refl _, Chain.le h3, h2⟩
    · obtain ⟨a, b, q1, q2, q3⟩ := Chain.mem h3 hq
      exact ⟨a, b, by omega, q2, q3⟩
end
def OwnEl (w : World) (B N : Nat) (q : El) : Prop := OwnsB 5 w B q.A q.c q.e.d ∧ ∀ k, blk q.A = some k → k < N
theorem chain_apart {w : World} : ∀ {l : List El} {B N : Nat}, Chain (OwnEl w) B N l → Apart (l.map fun q => blk q.A)
  | [], _, _, _ => List.Pairwise.nil
  | q :: l, _, _, ⟨m, h1, h2, h3⟩ => by
    refine List.Pairwise.cons (fun x hx k hk e => ?_) (chain_apart h3)
    obtain ⟨q', hq', rfl⟩ := List.mem_map.1 hx
    obtain ⟨a, b, p1, _, p3⟩ := Chain.mem h3 hq'
    have := h2.2 k hk
    have := (p3.1.blkLt k e).1
    omega
theorem ents_of {w : World} {B N c : Nat} {A : Option Addr} {M : List El} {lo : Nat} (hrow : RowIn cellsE 3 77 w (fun k => B ≤ k) A c M) (hch : Chain (OwnEl w) lo N M) (hlo : B ≤ lo) (hN : w.heap.size ≤ N) (hnum : ∀ q ∈ M, InInt q.e.t ∧ InInt q.e.k) : EntsAt w B N A c M := by
  refine ⟨hrow.mono (fun k hk => ⟨hrow.blk k hk, by have := hrow.lt k hk; omega⟩), fun q hq => ?_, chain_apart hch, hnum⟩
  obtain ⟨a, b, p1, p2, p3⟩ := Chain.mem hch hq
  exact ⟨p3.1.weaken (Nat.zero_le _), fun k hk => ⟨by have := (p3.1.blkLt k hk).1; omega, by have := p3.2 k hk; omega⟩⟩
structure EvE (w : World) (lo : Nat) (A : Option Addr) (c : Nat) (M : List El) (k : Nat) (W : World) (M1 : List El) : Prop where
  len : M1.length = k
  row : RowIn cellsE 3 77 W (fun k => w.heap.size ≤ k) A c (M1 ++ M.drop k)
  ch : Chain (OwnEl W) lo W.heap.size M1
  val : M1.map (·.e) = (M.map (·.e)).take k
  bel : Below w.heap.size w W
  lo : w.heap.size ≤ lo
set_option maxHeartbeats 1600000 in
theorem eachE_any (A : Option Addr) (c n : Nat) (L : List En) (hn : L.length = n) (hl : n ≤ 100000) (hf : ∀ e ∈ L, e.d.length ≤ 140737488355000) (w : World) (h : IsEnts w w.heap.size A L) (hnil : A = none → c = 0) :
    Calls Try.prog 93 #[.slice A n c, .func (.func 94) #[] #[]] w fun e w' => ∃ A' c', e = .returned (.slice A' n c') ∧ OwnE w' w.heap.size w'.heap.size A' c' L ∧ Below w.heap.size w w' := by
  obtain ⟨M, hM, hrd, hrow⟩ := isEnts_row h
  have hMn : M.length = n := by rw [← hn, ← hM, List.length_map]
  have HO := hid (ownE_any A c n M hMn hl w hrow hnil)
  have hnum : ∀ q ∈ M, InInt q.e.t ∧ InInt q.e.k := fun q hq => h.num q.e (by rw [← hM]; exact List.mem_map.2 ⟨q, hq, rfl⟩)
  have HF : Hid (∀ q ∈ M, q.e.d.length ≤ 140737488355000) := hid (fun q hq => hf q.e (by rw [← hM]; exact List.mem_map.2 ⟨q, hq, rfl⟩))
  have H0 := hid (And.intro hM (And.intro hrd (And.intro hMn hnum)))
  have HL := hid hl
  clear h hn hnil hM hrd hrow hMn hnum hf
  go_enter Try.func93, Try.ntmps93
  go_wp2_with fail
  refine HO.out.mono ?_
  rintro e w1 ⟨A1, c1, rfl, hrow1, hb1⟩
  have HI : Hid (EvE w w1.heap.size A1 c1 M 0 w1 []) := hid ⟨rfl, by simpa using hrow1, Nat.le_refl _, by simp, hb1, hb1.size⟩
  clear hrow1 hb1
  go_wp2_with fail
  go_loopw [11] (fun i wr => ∃ k : Nat, k ≤ n ∧ i = .int .i64 k ∧ Hid (∃ M1, EvE w w1.heap.size A1 c1 M k wr M1)) (fun i _ => n - (RowKit.intOf i).toNat)
  case atStart => exact ⟨0, by omega, rfl, hid ⟨_, HI.out⟩⟩
  case round =>
    clear HI
    obtain ⟨k, hk, rfl, HV⟩ := hrel
    obtain ⟨M1, hv⟩ := HV.out
    by_cases hlt : k < n
    · have hkM : k < M.length := by rw [H0.out.2.2.1]; exact hlt
      have hkr : k < (M1 ++ M.drop k).length := by rw [List.length_append, List.length_drop, hv.len]; omega
      have hel : (M1 ++ M.drop k)[k] = M[k] := by
        rw [List.getElem_append_right (by rw [hv.len]; exact Nat.le_refl _)]
        simp [hv.len]
      obtain ⟨g, rfl⟩ : ∃ g, A1 = some ⟨g, 0, none⟩ := by
        obtain ⟨g, e, _⟩ := hv.row.get k hkr
        exact ⟨g, e⟩
      have hrange := RowIn.range hv.row k hkr
      rw [hel] at hrange
      have hkn : (k : Int) < (n : Int) := by omega
      obtain ⟨q, hq⟩ : ∃ q, q = M[k] := ⟨_, rfl⟩
      have hqm : q ∈ M := by rw [hq]; exact List.getElem_mem hkM
      rw [← hq] at hrange
      have hld : (ldX 77 (.pointer (some ⟨g, k * 3, none⟩))).run Try.prog wr = .ok (.agg #[.int .i64 q.e.t, .int .i64 q.e.k, .slice q.A q.e.d.length q.c]) wr := run_loadAt_mid wr g (k * 3) 77 (cellsE q) _ hrange Try.underlying77 rfl (by rw [info_entry33]; rfl)
      have hqr := H0.out.2.1 q hqm
      obtain ⟨m, hm⟩ : ∃ m, m = q.e.d.length := ⟨_, rfl⟩
      have hml : m ≤ 140737488355000 := by rw [hm]; exact HF.out q hqm
      have HE := hid (ownEntry_any q.e q.A q.c m hm.symm hml wr ((hqr.1.below hv.bel).more hv.bel.size) hqr.2.2)
      rw [← hm] at hld
      have H3 := hid (And.intro hv (And.intro hq (And.intro hkr hm)))
      clear hv hrange hel hqr hm hq hkr
      go_wp2_with fail
      refine HE.out.mono ?_
      rintro e w3 ⟨A3, c3, rfl, ho3, hb3⟩
      have hrow3 := H3.out.1.row.below hb3
      have hth := RowIn.there hrow3 k H3.out.2.2.1
      have hst := stAt info_entry33 hth #[.int .i64 q.e.t, .int .i64 q.e.k, .slice A3 m c3] rfl (by simp [Value.oneCell'])
      have hrow4 := RowIn.setAll hrow3 k H3.out.2.2.1 (⟨q.e, A3, c3⟩ : El)
      have hT := turned_setCells g [.int .i64 q.e.t, .int .i64 q.e.k, .slice A3 m c3] w3 (k * 3)
      have HI : Hid (EvE w w1.heap.size (some ⟨g, 0, none⟩) c1 M (k + 1) (w3.setCells g (k * 3) [.int .i64 q.e.t, .int .i64 q.e.k, .slice A3 m c3]) (M1 ++ [⟨q.e, A3, c3⟩])) := hid (by
        obtain ⟨hv, hq, hkr, hm⟩ := H3.out
        have hlen := hv.len
        obtain ⟨cur, hcur⟩ := hrow3.tag rfl
        have own3 : ∀ a b x, OwnEl wr a b x → OwnEl (w3.setCells g (k * 3) [.int .i64 q.e.t, .int .i64 q.e.k, .slice A3 m c3]) a b x := fun a b x hx => by
          have h3 : OwnsB 5 w3 a x.A x.c x.e.d := hx.1.turned (S := fun _ => False) (Turned.ofBelow _ hb3) (fun _ _ h => h)
          exact ⟨h3.turned hT (fun j hj e => h3.ne hcur (by decide) (by rw [← e]; exact hj)), hx.2⟩
        have hset : (M1 ++ M.drop k).set k (⟨q.e, A3, c3⟩ : El) = (M1 ++ [⟨q.e, A3, c3⟩]) ++ M.drop (k + 1) := by
          rw [List.set_append_right _ _ (by omega), hlen, Nat.sub_self, List.drop_eq_getElem_cons hkM, List.append_assoc]
          rfl
        have hz := hT.size
        have hb3z := hb3.size
        refine ⟨by simp [hlen], by rw [← hset, show [Value.int .i64 q.e.t, .int .i64 q.e.k, .slice A3 m c3] = cellsE ⟨q.e, A3, c3⟩ by rw [hm]; rfl]; exact hrow4, ?_, ?_, ?_, hv.lo⟩
        · have ho4 : OwnEl (w3.setCells g (k * 3) [.int .i64 q.e.t, .int .i64 q.e.k, .slice A3 m c3]) wr.heap.size (w3.setCells g (k * 3) [.int .i64 q.e.t, .int .i64 q.e.k, .slice A3 m c3]).heap.size ⟨q.e, A3, c3⟩ := by
            have h4 := ho3.turned hT (fun j hj e => ho3.ne hcur (by decide) (by rw [← e]; exact hj))
            exact ⟨h4, fun j hj => (h4.blkLt j hj).2⟩
          exact Chain.snoc (by omega) ho4 (fun a a' b x h hx => ⟨hx.1.weaken h, hx.2⟩) (hv.ch.imp own3)
        · rw [List.map_append, hv.val, List.take_succ_eq_append_getElem (by rw [List.length_map]; exact hkM), List.getElem_map, hq]; rfl
        · exact (hv.bel.trans (hb3.mono hv.bel.size)).trans (hT.below (by have := hv.bel.size; omega) (fun j hj => by
            have := hrow3.blk g rfl
            omega)))
      clear hrow3 hth hrow4 hT ho3 hb3
      generalize w3.setCells g (k * 3) [.int .i64 q.e.t, .int .i64 q.e.k, .slice A3 m c3] = w4 at *
      go_wp2_with fail
      go_roundw
      case rel => exact ⟨k + 1, by omega, by go_num, hid ⟨_, HI.out⟩⟩
      case measure => simp [RowKit.intOf]; omega
    · obtain rfl : k = n := by omega
      have HF2 : Hid (OwnE wr w.heap.size wr.heap.size A1 c1 L ∧ Below w.heap.size w wr) := hid (by
        have h0 : M.drop k = [] := List.drop_of_length_le (by rw [H0.out.2.2.1]; exact Nat.le_refl _)
        have h1 := hv.row
        rw [h0, List.append_nil] at h1
        have h2 := hv.val
        rw [List.take_of_length_le (by rw [List.length_map, H0.out.2.2.1]; exact Nat.le_refl _), H0.out.1] at h2
        refine ⟨⟨M1, h2, ents_of h1 hv.ch hv.lo (Nat.le_refl _) (fun q hq => ?_)⟩, hv.bel⟩
        have hqe : q.e ∈ M.map (·.e) := by rw [H0.out.1, ← h2]; exact List.mem_map.2 ⟨q, hq, rfl⟩
        obtain ⟨q', hq', e⟩ := List.mem_map.1 hqe
        rw [← e]; exact H0.out.2.2.2 q' hq')
      clear hv
      go_wp2_with fail
      go_ret
      exact ⟨A1, c1, rfl, HF2.out⟩
end Go.Proofs.Ytaeoccpjdjafnaa.Im
namespace Go.Proofs.Ytaeoccpjdjafnaa
open Go
set_option maxRecDepth 100000
structure Rc (δ : Type) where
  ops : Array Oper
  nt : Nat
  step : Nat → Option Nat
  val : δ → Nat → Value
  inv : δ → Nat → World → Prop
structure Jc {δ : Type} (C : Rc δ) (a0 : Act) (X : δ) (p : Nat) (listed : Array Bool) (a : Act) (w : World) : Prop where
  size : a.tmps.size = C.nt
  defers : a.defers = a0.defers
  keep : ∀ s : Nat, (∀ (j : Nat) (o : Oper), C.ops[j]? = some o → o.dst ≠ some s) → a.eval (.tmp s) = a0.eval (.tmp s)
  lsize : listed.size = C.ops.size
  clos : ∀ (j : Nat) (o : Oper), C.ops[j]? = some o → listed.getD j false = true → ∀ e ∈ o.after, Region.binds .any e = true → listed.getD e.on false = true
  slots : ∀ (j : Nat) (o : Oper) (d : Nat), C.ops[j]? = some o → o.dst = some d → listed.getD j false = true → a.eval (.tmp d) = C.val X j
  call : ∀ j, j < C.ops.size → ∀ k, C.step j = some k → (listed.getD j false = true ↔ k < p)
  inv : C.inv X p w
structure Rc.Ok {δ : Type} (C : Rc δ) : Prop where
  nt : ∀ (j : Nat) (o : Oper) (d : Nat), C.ops[j]? = some o → o.dst = some d → d < C.nt
  once : ∀ (i j : Nat) (o o' : Oper) (d : Nat), C.ops[i]? = some o → C.ops[j]? = some o' → o.dst = some d → o'.dst = some d → i = j
  uniq : ∀ i j k, i < C.ops.size → j < C.ops.size → C.step i = some k → C.step j = some k → i = j
theorem evput_ne (a : Act) {d : Option Tmp} {t : Nat} (v : Value) (h : d ≠ some t) : (a.put d v).eval (.tmp t) = a.eval (.tmp t) := by
  rcases d with _ | d
  · rfl
  · have : d ≠ t := fun e => h (by rw [e])
    simp [Act.put, Act.eval, Array.getElem?_setIfInBounds_ne this]
theorem evput_self (a : Act) {d : Nat} (v : Value) (h : d < a.tmps.size) : (a.put (some d) v).eval (.tmp d) = v := by
  simp [Act.put, Act.eval, h]
theorem listed_set (l : Array Bool) (j m : Nat) (hj : j < l.size) : (l.setIfInBounds j true).getD m false = if m = j then true else l.getD m false := by
  rw [Array.getD_eq_getD_getElem?, Array.getD_eq_getD_getElem?]
  by_cases e : m = j
  · subst e
    rw [if_pos rfl, Array.getElem?_setIfInBounds_self_of_lt hj]; rfl
  · rw [if_neg e, Array.getElem?_setIfInBounds_ne (by omega)]
theorem listed_no {l : Array Bool} {j : Nat} (h : l.getD j true = false) : l.getD j false = false := by
  rw [Array.getD_eq_getD_getElem?] at h ⊢
  rcases hl : l[j]? with _ | b
  · rfl
  · rw [hl] at h; exact h
section
variable {δ : Type} {C : Rc δ} {a0 a : Act} {X X' : δ} {p p' : Nat} {listed : Array Bool} {w w' : World}
theorem Jc.put (hC : C.Ok) (h : Jc C a0 X p listed a w) (j : Nat) (o : Oper) (hj : C.ops[j]? = some o) (ha : ∀ e ∈ o.after, Region.binds .any e = true → listed.getD e.on false = true) (v : Value) (hinv : C.inv X' p' w')
    (hk : ∀ (m : Nat), m < C.ops.size → listed.getD m false = true → C.val X' m = C.val X m) (hu : listed.getD j true = false) (hv : ∀ d, o.dst = some d → v = C.val X' j)
    (hc : ∀ m, m < C.ops.size → ∀ k, C.step m = some k → ((if m = j then true else listed.getD m false) = true ↔ k < p')) :
    Jc C a0 X' p' (listed.setIfInBounds j true) (a.put o.dst v) w' := by
  have hjs : j < C.ops.size := (Array.getElem?_eq_some_iff.1 hj).1
  have hjl : j < listed.size := by rw [h.lsize]; exact hjs
  refine ⟨?_, ?_, fun s hs => ?_, by simp [h.lsize], fun m om hm hl e he hb => ?_, fun m om d hm hd hl => ?_, fun m hm k hmk => ?_, hinv⟩
  · rcases hd : o.dst with _ | d
    · exact h.size
    · simp [Act.put, h.size]
  · rcases hd : o.dst with _ | d
    · exact h.defers
    · exact h.defers
  · rw [evput_ne a v (hs j o hj)]; exact h.keep s hs
  · rw [listed_set _ _ _ hjl] at hl ⊢
    by_cases e1 : e.on = j
    · rw [if_pos e1]
    · rw [if_neg e1]
      by_cases e2 : m = j
      · subst e2
        rw [hj] at hm
        obtain rfl := Option.some.inj hm
        exact ha e he hb
      · rw [if_neg e2] at hl
        exact h.clos m om hm hl e he hb
  · rw [listed_set _ _ _ hjl] at hl
    by_cases e2 : m = j
    · subst e2
      rw [hj] at hm
      obtain rfl := Option.some.inj hm
      rw [hd, evput_self a v (by rw [h.size]; exact hC.nt m o d hj hd)]
      exact hv d hd
    · rw [if_neg e2] at hl
      rw [evput_ne a v (fun e => e2 (hC.once m j om o d hm hj hd e)), hk m (Array.getElem?_eq_some_iff.1 hm).1 hl]
      exact h.slots m om d hm hd hl
  · rw [listed_set _ _ _ hjl]; exact hc m hm k hmk
theorem Jc.pure (hC : C.Ok) (h : Jc C a0 X p listed a w) (j : Nat) (o : Oper) (hj : C.ops[j]? = some o) (ha : ∀ e ∈ o.after, Region.binds .any e = true → listed.getD e.on false = true) (hu : listed.getD j true = false) (hn : C.step j = none) :
    Jc C a0 X p (listed.setIfInBounds j true) (a.put o.dst (C.val X j)) w :=
  h.put hC j o hj ha _ h.inv (fun _ _ _ => rfl) hu (fun _ _ => rfl) (fun m hm k hk => by
    rw [if_neg (fun e => by subst e; rw [hn] at hk; cases hk)]
    exact h.call m hm k hk)
theorem Jc.called (hC : C.Ok) (h : Jc C a0 X p listed a w) (j : Nat) (o : Oper) (hj : C.ops[j]? = some o) (ha : ∀ e ∈ o.after, Region.binds .any e = true → listed.getD e.on false = true) (hu : listed.getD j true = false) (hn : C.step j = some p) (v : Value) (hinv : C.inv X' (p + 1) w')
    (hk : ∀ (m : Nat), m < C.ops.size → m ≠ j → listed.getD m false = true → C.val X' m = C.val X m) (hv : ∀ d, o.dst = some d → v = C.val X' j) :
    Jc C a0 X' (p + 1) (listed.setIfInBounds j true) (a.put o.dst v) w' :=
  h.put hC j o hj ha v hinv (fun m hm hl => hk m hm (fun e => by rw [e, listed_no hu] at hl; cases hl) hl) hu hv (fun m hm k hmk => by
    by_cases e : m = j
    · subst e
      rw [hn] at hmk; injection hmk with hmk
      rw [if_pos rfl]
      exact ⟨fun _ => by omega, fun _ => rfl⟩
    · rw [if_neg e, h.call m hm k hmk]
      have : k ≠ p := fun e' => e (hC.uniq m j p hm (Array.getElem?_eq_some_iff.1 hj).1 (e' ▸ hmk) hn)
      omega)
theorem Jc.next (h : Jc C a0 X p listed a w) {j k : Nat} (hj : j < C.ops.size) (hk : C.step j = some k) (hu : listed.getD j true = false) (hb : k = 0 ∨ ∃ i, i < C.ops.size ∧ C.step i = some (k - 1) ∧ listed.getD i false = true) : k = p := by
  have h1 : p ≤ k := by
    rcases Nat.lt_or_ge k p with h' | h'
    · have := (h.call j hj k hk).2 h'
      rw [listed_no hu] at this; cases this
    · exact h'
  rcases hb with h0 | ⟨i, hi, hik, hil⟩
  · omega
  · have := (h.call i hi _ hik).1 hil
    omega
theorem Jc.ahead (h : Jc C a0 X p listed a w) {j m k : Nat} {om : Oper} (hm : C.ops[m]? = some om) (hk : C.step m = some k) (hu : listed.getD j true = false) (hw : ∃ e ∈ om.after, Region.binds .any e = true ∧ e.on = j) : p ≤ k := by
  rcases Nat.lt_or_ge k p with h' | h'
  · have hl := (h.call m (Array.getElem?_eq_some_iff.1 hm).1 k hk).2 h'
    obtain ⟨e, he, hb, rfl⟩ := hw
    have := h.clos m om hm hl e he hb
    rw [listed_no hu] at this; cases this
  · exact h'
end
theorem Jc.kept {δ : Type} {C : Rc δ} {a0 a : Act} {X : δ} {p : Nat} {listed : Array Bool} {w : World} (h : Jc C a0 X p listed a w) (s : Nat) (hb : (C.ops.all fun o => decide (o.dst ≠ some s)) = true) : a.eval (.tmp s) = a0.eval (.tmp s) :=
  h.keep s (fun j o hj => by
    have := (Array.all_eq_true_iff_forall_mem.1 hb) o (Array.mem_of_getElem? hj)
    simpa using this)
theorem run_move {P : Program} {ρ : Operand → Value} {x : Operand} {ty : TypeId} {w : World} {v : Value} (h : ρ x = v) : (execOp ρ (sop (.move x) ty)).run P w = .ok (.value v) w := by subst h; exact x_move _ _ _ _
theorem run_assign {P : Program} {ρ : Operand → Value} {x : Operand} {ty : TypeId} {w : World} {v : Value} (h : ρ x = v) : (execOp ρ (sop (.assign x) ty)).run P w = .ok (.value v) w := by subst h; exact x_assign _ _ _ _
theorem run_pick {P : Program} {ρ : Operand → Value} {c x y : Operand} {ty : TypeId} {w : World} {b : Bool} {v : Value} (hc : ρ c = .bool b) (h : (if b = true then ρ x else ρ y) = v) : (execOp ρ (sop (.pick c x y) ty)).run P w = .ok (.value v) w := by subst h; simp [execOp, sop, hc, asBool]
theorem run_bin {P : Program} {ρ : Operand → Value} {op : BinOp} {t u : TypeId} {x y : Operand} {ty : TypeId} {w : World} {v1 v2 v : Value} (h1 : ρ x = v1) (h2 : ρ y = v2) (h : (do eqGuard op t x y v1 v2; binOp op t v1 v2 : Sem Value).run P w = .ok v w) : (execOp ρ (sop (.binOp op t x y u) ty)).run P w = .ok (.value v) w := by
  subst h1
  subst h2
  unfold execOp sop
  simp only [Sem.run_bind, Sem.run_pure] at h ⊢
  rw [h]
  rfl
theorem run_fad {P : Program} {ρ : Operand → Value} {t : TypeId} {x : Operand} {f : Nat} {ty : TypeId} {v0 v : Value} {w : World} (h0 : ρ x = v0) (h : (Instr.fieldAt t v0 f).run P w = .ok v w) : (execOp ρ (sop (.fieldAddr t x f) ty)).run P w = .ok (.value v) w := by subst h0; simp [execOp, sop, h]
theorem run_load {P : Program} {ρ : Operand → Value} {t : TypeId} {x : Operand} {ty : TypeId} {v0 v : Value} {w : World} (h0 : ρ x = v0) (h : (Instr.loadAt t v0).run P w = .ok v w) : (execOp ρ (sop (.load t x) ty)).run P w = .ok (.value v) w := by subst h0; simp [execOp, sop, h]
theorem run_store {P : Program} {ρ : Operand → Value} {t : TypeId} {x y : Operand} {ty : TypeId} {v0 v : Value} {w w' : World} (h0 : ρ x = v0) (h1 : ρ y = v) (h : (Instr.storeAt t v0 v).run P w = .ok () w') : (execOp ρ (sop (.store t x y) ty)).run P w = .ok .skip w' := by subst h0; subst h1; simp [execOp, sop, h]
theorem run_call1 {P : Program} {a : Act} {f : FuncId} {x : Operand} {ty t : TypeId} {v : Value} {w : World} (h : a.eval x = v) (hcf : (callFunc f #[v]).run P w = .ok (.enter f #[v]) w) : (execOp a.eval (sop (.call { callee := .value (.func f), args := #[x], argTypes := #[t] }) ty)).run P w = .ok (.enter f #[v]) w := by
  generalize hρ : a.eval = ρ at h ⊢
  have hf : ρ (.func f) = .func (.func f) #[] #[] := by rw [← hρ]; rfl
  clear hρ
  unfold execOp sop
  simp [resolve, invoke, h, hf, Deferred.ofValue, hcf]
def Ic {δ : Type} (C : Rc δ) (a0 : Act) (listed : Array Bool) (a : Act) (w : World) : Prop := ∃ X p, Jc C a0 X p listed a w
section
variable {δ : Type} {P : Program} {C : Rc δ} {a0 a : Act} {X : δ} {p : Nat} {listed : Array Bool} {w : World} {Q : Exit → Act → World → Prop}
def ArmC (P : Program) (C : Rc δ) (a0 : Act) (Q : Exit → Act → World → Prop) (j : Nat) (o : Oper) : Prop :=
  ∀ X p listed a w, Jc C a0 X p listed a w → C.ops[j]? = some o → listed.getD j true = false → (∀ e ∈ o.after, Region.binds .any e = true → listed.getD e.on false = true) → wpOp P C.ops Q j (fun a' w' => Ic C a0 (listed.setIfInBounds j true) a' w') a w
theorem arm_pure (hC : C.Ok) {j : Nat} {o : Oper} (hg : o.guard = none) (hn : C.step j = none)
    (hr : ∀ X p listed a w, Jc C a0 X p listed a w → listed.getD j true = false → (∀ e ∈ o.after, Region.binds .any e = true → listed.getD e.on false = true) → (execOp a.eval (sop o.op o.type)).run P w = .ok (.value (C.val X j)) w) : ArmC P C a0 Q j o := by
  intro X p listed a w h hj hu ha
  refine Goes.wpOp (R := fun v w' => v = C.val X j ∧ w' = w) hj hg (.inl ⟨_, w, hr X p listed a w h hu ha, rfl, rfl⟩) ?_
  rintro v w' ⟨rfl, rfl⟩
  exact ⟨X, p, h.pure hC j o hj ha hu hn⟩
theorem wanted_of {ops : Array Oper} {a : Act} {o og : Oper} {g d : Nat} {b c : Bool} (hg : o.guard = some (g, b)) (ho : ops[g]? = some og) (hd : og.dst = some d) (hlt : d < a.tmps.size) (h : a.eval (.tmp d) = .bool c) : Region.wanted o (yielded ops a.tmps) = (c == b) := by
  have h2 : a.tmps[d]? = some (.bool c) := by
    have h3 : a.tmps.getD d undef = .bool c := h
    rw [Array.getD_eq_getD_getElem?, Array.getElem?_eq_getElem hlt] at h3
    rw [Array.getElem?_eq_getElem hlt]
    exact congrArg some h3
  unfold Region.wanted
  rw [hg]
  simp only [yielded, ho, Option.bind_some, hd, h2]
  cases b <;> cases c <;> rfl
theorem arm_shut (hC : C.Ok) {j : Nat} {o : Oper} (hn : C.step j = none) (hv : ∀ X, C.val X j = undef)
    (hr : ∀ X p listed a w, Jc C a0 X p listed a w → listed.getD j true = false → (∀ e ∈ o.after, Region.binds .any e = true → listed.getD e.on false = true) → Region.wanted o (yielded C.ops a.tmps) = false) : ArmC P C a0 Q j o := by
  intro X p listed a w h hj hu ha
  have h1 := hr X p listed a w h hu ha
  unfold Go.wpOp
  simp only [hj]
  rw [if_neg (by rw [h1]; exact Bool.false_ne_true)]
  have := h.pure hC j o hj ha hu hn
  rw [hv] at this
  exact ⟨X, p, this⟩
theorem arm_call (hC : C.Ok) {j k : Nat} {o : Oper} (hg : o.guard = none) (hn : C.step j = some k) (hb : k = 0 ∨ ∃ i, i < C.ops.size ∧ C.step i = some (k - 1) ∧ ∃ e ∈ o.after, Region.binds .any e = true ∧ e.on = i)
    (hr : ∀ X listed a w, Jc C a0 X k listed a w → listed.getD j true = false → (∀ e ∈ o.after, Region.binds .any e = true → listed.getD e.on false = true) →
      Goes P a w o.op o.type fun v w' => ∃ X', (∀ d, o.dst = some d → v = C.val X' j) ∧ C.inv X' (k + 1) w' ∧ ∀ m, m < C.ops.size → m ≠ j → (∀ i, C.step m = some i → i < k) → listed.getD m false = true → C.val X' m = C.val X m) : ArmC P C a0 Q j o := by
  intro X p listed a w h hj hu ha
  have hjs := (Array.getElem?_eq_some_iff.1 hj).1
  obtain rfl : k = p := h.next hjs hn hu (hb.imp id (fun ⟨i, h1, h2, e, he, h3, h4⟩ => ⟨i, h1, h2, h4 ▸ ha e he h3⟩))
  refine Goes.wpOp (R := fun v w' => ∃ X', (∀ d, o.dst = some d → v = C.val X' j) ∧ C.inv X' (k + 1) w' ∧ ∀ m, m < C.ops.size → m ≠ j → (∀ i, C.step m = some i → i < k) → listed.getD m false = true → C.val X' m = C.val X m) hj hg (hr X listed a w h hu ha) ?_
  rintro v w' ⟨X', h1, h2, h3⟩
  exact ⟨X', k + 1, h.called hC j o hj ha hu hn v h2 (fun m hm hne hl => h3 m hm hne (fun i hi => (h.call m hm i hi).1 hl) hl) h1⟩
theorem arm_store (hC : C.Ok) {j k : Nat} {o : Oper} (hg : o.guard = none) (hd : o.dst = none) (hn : C.step j = some k) (hb : k = 0 ∨ ∃ i, i < C.ops.size ∧ C.step i = some (k - 1) ∧ ∃ e ∈ o.after, Region.binds .any e = true ∧ e.on = i)
    (hr : ∀ X listed a w, Jc C a0 X k listed a w → listed.getD j true = false → (∀ e ∈ o.after, Region.binds .any e = true → listed.getD e.on false = true) →
      ∃ w', (execOp a.eval (sop o.op o.type)).run P w = .ok .skip w' ∧ C.inv X (k + 1) w') : ArmC P C a0 Q j o := by
  intro X p listed a w h hj hu ha
  have hjs := (Array.getElem?_eq_some_iff.1 hj).1
  obtain rfl : k = p := h.next hjs hn hu (hb.imp id (fun ⟨i, h1, h2, e, he, h3, h4⟩ => ⟨i, h1, h2, h4 ▸ ha e he h3⟩))
  obtain ⟨w', hrun, hinv⟩ := hr X listed a w h hu ha
  unfold Go.wpOp
  simp only [hj]
  have hw : Region.wanted o (yielded C.ops a.tmps) = true := by simp [Region.wanted, hg]
  rw [if_pos hw]
  left
  unfold Oper.wp
  rw [exec_sop, hrun, Oper.upon_skip]
  exact ⟨X, k + 1, h.called hC j o hj ha hu hn undef hinv (fun _ _ _ _ => rfl) (fun d e => by rw [hd] at e; cases e)⟩
def acyc (ops : Array Oper) : Bool := (List.range ops.size).all fun i => match ops[i]? with
  | some o => o.after.all fun e => !Region.binds .any e || decide (e.on < i)
  | none => true
theorem acyc_spec {ops : Array Oper} (h : acyc ops = true) (i : Nat) (o : Oper) (hi : ops[i]? = some o) (e : _) (he : e ∈ o.after) (hb : Region.binds .any e = true) : e.on < i := by
  have hlt : i < ops.size := (Array.getElem?_eq_some_iff.1 hi).1
  have := List.all_eq_true.1 h i (List.mem_range.2 hlt)
  rw [hi] at this
  have h2 := (Array.all_eq_true_iff_forall_mem.1 this) e he
  rw [hb] at h2
  simpa using h2
def onceB (C : Rc δ) : Bool := (List.range C.ops.size).all fun i => (match C.ops[i]?.bind (·.dst) with | some d => decide (d < C.nt) | none => true) && (List.range C.ops.size).all fun j => decide (i = j) || ((decide (C.ops[i]?.bind (·.dst) = none) || decide (C.ops[i]?.bind (·.dst) ≠ C.ops[j]?.bind (·.dst))) && (decide (C.step i = none) || decide (C.step i ≠ C.step j)))
theorem onceB_ok (h : onceB C = true) : C.Ok := by
  have key : ∀ i j, i < C.ops.size → j < C.ops.size → i ≠ j → (C.ops[i]?.bind (·.dst) = none ∨ C.ops[i]?.bind (·.dst) ≠ C.ops[j]?.bind (·.dst)) ∧ (C.step i = none ∨ C.step i ≠ C.step j) := fun i j hi hj hne => by
    have h1 := List.all_eq_true.1 h i (List.mem_range.2 hi)
    rw [Bool.and_eq_true] at h1
    have h2 := List.all_eq_true.1 h1.2 j (List.mem_range.2 hj)
    simpa [hne] using h2
  refine ⟨fun j o d hj hd => ?_, fun i j o o' d hi hj hd hd' => ?_, fun i j k hi hj h1 h2 => ?_⟩
  · have h1 := List.all_eq_true.1 h j (List.mem_range.2 (Array.getElem?_eq_some_iff.1 hj).1)
    rw [Bool.and_eq_true] at h1
    have h2 := h1.1
    rw [hj] at h2
    simp only [Option.bind_some, hd] at h2
    simpa using h2
  · rcases Nat.decEq i j with hne | e
    · have := (key i j (Array.getElem?_eq_some_iff.1 hi).1 (Array.getElem?_eq_some_iff.1 hj).1 hne).1
      rw [hi, hj] at this
      simp only [Option.bind_some, hd, hd'] at this
      rcases this with h | h
      · cases h
      · exact absurd rfl h
    · exact e
  · rcases Nat.decEq i j with hne | e
    · rcases (key i j hi hj hne).2 with h | h
      · rw [h] at h1; cases h1
      · exact absurd (h1.trans h2.symm) h
    · exact e
theorem region_calls {id : Nat} (hm : P.follows .mixedOrders = true) (hac : acyc C.ops = true) (hsz : a.tmps.size = C.nt) (X : δ) (h0 : C.inv X 0 w.drew) (hok : onceB C = true) (arms : C.Ok → AllFrom (ArmC P C a Q) 0 C.ops.toList)
    (he : ∀ listed a' w X p, Jc C a X p listed a' w → (∀ j, j < C.ops.size → listed.getD j false = true) → Q .normal a' w) : (Code.region id C.ops true).wp P Q a w := by
  refine wp_region_inv hm (Ic C a) ?_ (fun listed a' w i o hI hi hu ha => ?_) (fun listed a' w hI hr => ?_)
  · have hl : ∀ j, (Array.replicate C.ops.size false).getD j false = false := fun j => by
      rw [Array.getD_eq_getD_getElem?, Array.getElem?_replicate]
      split <;> rfl
    refine ⟨X, 0, hsz, rfl, fun _ _ => rfl, by simp, fun j o hj h => ?_, fun j o d hj hd h => ?_, fun j hj k hk => ?_, h0⟩
    · rw [hl] at h; cases h
    · rw [hl] at h; cases h
    · rw [hl]; exact ⟨fun h => (by cases h), fun h => (by omega)⟩
  · have := AllFrom.get (arms (onceB_ok hok)) i o (by rw [Array.getElem?_toList]; exact hi)
    rw [Nat.zero_add] at this
    obtain ⟨X, p, h⟩ := hI
    exact this X p listed a' w h hi hu ha
  · obtain ⟨X, p, h⟩ := hI
    exact he listed a' w X p h (fun j hj => all_listed h.lsize (fun i o hi e he hb => acyc_spec hac i o hi e he hb) hr j hj)
theorem act_listing (tmps : Array Value) (n : Nat) (h : tmps.size = n) : tmps = ((List.range n).map fun i => (tmps[i]?).getD undef).toArray := by
  apply Array.ext_getElem?
  intro i
  by_cases hi : i < n
  · have hi' : i < tmps.size := by omega
    simp [hi, hi']
  · have h1 : tmps[i]? = none := Array.getElem?_eq_none (by omega)
    rw [h1, eq_comm, List.getElem?_toArray, List.getElem?_eq_none_iff]; simp; omega
end
end Go.Proofs.Ytaeoccpjdjafnaa
namespace Go.Proofs.Ytaeoccpjdjafnaa.Im
open Go Go.RowKit
open Rl (En Lg)
open Qu (Cf)
set_option maxRecDepth 100000
set_option linter.unusedVariables false
attribute [local go_sem ↓] loadAt_hard storeAt_hard loadAt_conf3 storeAt_conf3
local instance lo1 : Lo := ⟨0⟩
structure FewP (p : Pt) : Prop where
  es : p.log.es.length ≤ 100000
  d : ∀ e ∈ p.log.es, e.d.length ≤ 1000000000
  o : p.cf.old.length ≤ 100000
  n : p.cf.new.length ≤ 100000
  l : p.cf.lrn.length ≤ 100000
  s : p.sn.length ≤ 1000000000
theorem build_cf3 (a : Act) (w : World) {A1 A2 A3 : Option Addr} {n1 n2 n3 c1 c2 c3 : Nat} (e1 : a.eval (.tmp 12) = .slice A1 n1 c1) (e2 : a.eval (.tmp 16) = .slice A2 n2 c2) (e3 : a.eval (.tmp 20) = .slice A3 n3 c3) :
    (Instr.build 31 ((#[(0, .tmp 12), (1, .tmp 16), (2, .tmp 20)] : Array (Nat × Operand)).map fun (i, x) => (i, a.eval x))).run Try.prog w = .ok (.agg #[.slice A1 n1 c1, .slice A2 n2 c2, .slice A3 n3 c3]) w := by
  generalize a.eval = ρ at *
  simp only [List.map_toArray, List.map_cons, List.map_nil, e1, e2, e3]
  clear e1 e2 e3
  go_simp
  try rfl
theorem ownsI_below {e : TypeId} {w w' : World} {base c : Nat} {A : Option Addr} {l : List Int} (h : OwnsI e w base A c l) (hb : Below w.heap.size w w') : OwnsI e w' base A c l := ownsI_turned h (S := fun _ => False) (Turned.ofBelow _ hb) (fun _ _ h => h)
structure RH (ad : Ad) (x : Hd) (b0 b1 lo hi : Nat) (w0 : World) (A5 : Option Addr) (c5 : Nat) (X : Pl) (p : Nat) (w : World) : Prop where
  bel : Below b0 w0 w
  sz : hi ≤ w.heap.size
  rowL : p ≤ 3 → w.heap[b0]? = some (.cells #[.int .i64 x.g, .int .i64 x.t, .int .i64 x.v, .int .i64 x.p.log.base, .int .i64 x.p.log.term, .slice A5 x.p.log.es.length c5, .slice ad.o x.p.cf.old.length ad.co, .slice ad.n x.p.cf.new.length ad.cn, .slice ad.l x.p.cf.lrn.length ad.cl, .slice ad.s x.p.sn.length ad.cs] 59 (0, 0))
  rowS : 3 < p → w.heap[b0]? = some (.cells #[.int .i64 x.g, .int .i64 x.t, .int .i64 x.v, .int .i64 x.p.log.base, .int .i64 x.p.log.term, .slice A5 x.p.log.es.length c5, .slice X.a.o x.p.cf.old.length X.a.co, .slice X.a.n x.p.cf.new.length X.a.cn, .slice X.a.l x.p.cf.lrn.length X.a.cl, .slice ad.s x.p.sn.length ad.cs] 59 (0, 0))
  res : w.heap[b1]? = some (.cells #[.int .i64 0, .int .i64 0, .int .i64 0, .int .i64 0, .int .i64 0, .slice none 0 0, .slice none 0 0, .slice none 0 0, .slice none 0 0, .slice none 0 0] 59 (0, 0))
  es : OwnE w lo hi A5 c5 x.p.log.es
  o1 : 0 < p → (OwnsI 3 w hi X.a.o X.a.co x.p.cf.old ∧ ∀ k, blk X.a.o = some k → k < X.m1) ∧ hi ≤ X.m1 ∧ X.m1 ≤ w.heap.size
  o2 : 1 < p → (OwnsI 3 w X.m1 X.a.n X.a.cn x.p.cf.new ∧ ∀ k, blk X.a.n = some k → k < X.m2) ∧ X.m1 ≤ X.m2 ∧ X.m2 ≤ w.heap.size
  o3 : 2 < p → (OwnsI 3 w X.m2 X.a.l X.a.cl x.p.cf.lrn ∧ ∀ k, blk X.a.l = some k → k < X.m3) ∧ X.m2 ≤ X.m3 ∧ X.m3 ≤ w.heap.size
section
variable {ad : Ad} {x : Hd} {b0 b1 lo hi : Nat} {w0 : World} {A5 : Option Addr} {c5 : Nat} {X : Pl} {p : Nat} {w w' : World}
theorem RH.grow (h : RH ad x b0 b1 lo hi w0 A5 c5 X p w) (hb : Below w.heap.size w w') (X' : Pl) (p' : Nat) (hp : p' = p + 1) (hp3 : p < 3)
    (h1 : 0 < p' → (OwnsI 3 w' hi X'.a.o X'.a.co x.p.cf.old ∧ ∀ k, blk X'.a.o = some k → k < X'.m1) ∧ hi ≤ X'.m1 ∧ X'.m1 ≤ w'.heap.size)
    (h2 : 1 < p' → (OwnsI 3 w' X'.m1 X'.a.n X'.a.cn x.p.cf.new ∧ ∀ k, blk X'.a.n = some k → k < X'.m2) ∧ X'.m1 ≤ X'.m2 ∧ X'.m2 ≤ w'.heap.size)
    (h3 : 2 < p' → (OwnsI 3 w' X'.m2 X'.a.l X'.a.cl x.p.cf.lrn ∧ ∀ k, blk X'.a.l = some k → k < X'.m3) ∧ X'.m2 ≤ X'.m3 ∧ X'.m3 ≤ w'.heap.size) : RH ad x b0 b1 lo hi w0 A5 c5 X' p' w' := by
  have r0 := h.rowL (by omega)
  have hlt := row_lt r0
  exact ⟨h.bel.trans (hb.mono (by omega)), Nat.le_trans h.sz hb.size, fun _ => (hb.block _ hlt).trans r0, fun e => by omega, (hb.block _ (row_lt h.res)).trans h.res, h.es.below (hb.mono h.sz), h1, h2, h3⟩
end
theorem conf_there {w : World} {b : Nat} {cs : Array Value} {t : TypeId} (h : w.heap[b]? = some (.cells cs t (0, 0))) (o n : Nat) (hn : o + n ≤ cs.size) : w.there b o n := fun j hj => by
  rw [row_cell h (o + j), row_free h (o + j)]
  exact ⟨by rw [Array.getElem?_eq_getElem (by omega)]; rfl, rfl⟩
def valH (ad : Ad) (x : Hd) (b0 : Nat) (X : Pl) : Nat → Value
  | 0 => .pointer (some ⟨b0, 6, none⟩)
  | 1 => .pointer (some ⟨b0, 6, none⟩)
  | 2 => .slice ad.o x.p.cf.old.length ad.co
  | 3 => .slice X.a.o x.p.cf.old.length X.a.co
  | 4 => .pointer (some ⟨b0, 6, none⟩)
  | 5 => .pointer (some ⟨b0, 7, none⟩)
  | 6 => .slice ad.n x.p.cf.new.length ad.cn
  | 7 => .slice X.a.n x.p.cf.new.length X.a.cn
  | 8 => .pointer (some ⟨b0, 6, none⟩)
  | 9 => .pointer (some ⟨b0, 8, none⟩)
  | 10 => .slice ad.l x.p.cf.lrn.length ad.cl
  | 11 => .slice X.a.l x.p.cf.lrn.length X.a.cl
  | 12 => .agg #[.slice X.a.o x.p.cf.old.length X.a.co, .slice X.a.n x.p.cf.new.length X.a.cn, .slice X.a.l x.p.cf.lrn.length X.a.cl]
  | 13 => .pointer (some ⟨b0, 6, none⟩)
  | _ => undef
def stH : Nat → Option Nat
  | 3 => some 0
  | 7 => some 1
  | 11 => some 2
  | 14 => some 3
  | _ => none
theorem valH_eq {ad : Ad} {x : Hd} {b0 : Nat} {X X' : Pl} (m : Nat) (h3 : m ≠ 3 ∨ (X'.a.o = X.a.o ∧ X'.a.co = X.a.co)) (h7 : m ≠ 7 ∨ (X'.a.n = X.a.n ∧ X'.a.cn = X.a.cn)) (h11 : m ≠ 11) (h12 : m ≠ 12) : valH ad x b0 X' m = valH ad x b0 X m := by
  by_cases e3 : m = 3
  · subst e3
    rcases h3 with h | ⟨h1, h2⟩
    · exact absurd rfl h
    · show Value.slice X'.a.o _ X'.a.co = .slice X.a.o _ X.a.co
      rw [h1, h2]
  · by_cases e7 : m = 7
    · subst e7
      rcases h7 with h | ⟨h1, h2⟩
      · exact absurd rfl h
      · show Value.slice X'.a.n _ X'.a.cn = .slice X.a.n _ X.a.cn
        rw [h1, h2]
    · unfold valH
      split <;> first | rfl | (exfalso; omega)
theorem rh_call0 {ad : Ad} {x : Hd} {b0 b1 lo hi : Nat} {w0 : World} {A5 : Option Addr} {c5 : Nat} {X : Pl} {w : World} (HF : Hid (IsPt w0 b0 x.p ad ∧ FewP x.p)) (h : RH ad x b0 b1 lo hi w0 A5 c5 X 0 w) :
    Calls Try.prog 95 #[.slice ad.o x.p.cf.old.length ad.co] w fun e w' => ∃ X' : Pl, e = .returned (.slice X'.a.o x.p.cf.old.length X'.a.co) ∧ RH ad x b0 b1 lo hi w0 A5 c5 X' (0 + 1) w' ∧ True := by
  have hb0 : b0 ≤ w.heap.size := Nat.le_of_lt (row_lt (h.rowL (by omega)))
  refine (ownI_any ad.o ad.co x.p.cf.old.length x.p.cf.old rfl (by have := HF.out.2.o; omega) w ((HF.out.1.o.below h.bel).more hb0) HF.out.1.ro.2).mono ?_
  rintro e w' ⟨A, c, rfl, ho, hb⟩
  exact ⟨{ X with a := { X.a with o := A, co := c }, m1 := w'.heap.size }, rfl, h.grow hb _ _ rfl (by omega) (fun _ => ⟨⟨ho.weaken h.sz, fun k hk => (ho.blkLt k hk).2⟩, Nat.le_trans h.sz hb.size, Nat.le_refl _⟩) (fun e => by omega) (fun e => by omega), trivial⟩
theorem rh_call1 {ad : Ad} {x : Hd} {b0 b1 lo hi : Nat} {w0 : World} {A5 : Option Addr} {c5 : Nat} {X : Pl} {w : World} (HF : Hid (IsPt w0 b0 x.p ad ∧ FewP x.p)) (h : RH ad x b0 b1 lo hi w0 A5 c5 X 1 w) :
    Calls Try.prog 95 #[.slice ad.n x.p.cf.new.length ad.cn] w fun e w' => ∃ X' : Pl, e = .returned (.slice X'.a.n x.p.cf.new.length X'.a.cn) ∧ RH ad x b0 b1 lo hi w0 A5 c5 X' (1 + 1) w' ∧ ((X'.a.o = X.a.o ∧ X'.a.co = X.a.co) ∧ True) := by
  have hb0 : b0 ≤ w.heap.size := Nat.le_of_lt (row_lt (h.rowL (by omega)))
  refine (ownI_any ad.n ad.cn x.p.cf.new.length x.p.cf.new rfl (by have := HF.out.2.n; omega) w ((HF.out.1.n.below h.bel).more hb0) HF.out.1.rn.2).mono ?_
  rintro e w' ⟨A, c, rfl, ho, hb⟩
  exact ⟨{ X with a := { X.a with n := A, cn := c }, m2 := w'.heap.size }, rfl, h.grow hb _ _ rfl (by omega) (fun _ => by
      obtain ⟨⟨q1, q2⟩, q3, q4⟩ := h.o1 (by omega)
      exact ⟨⟨ownsI_below q1 hb, q2⟩, q3, Nat.le_trans q4 hb.size⟩) (fun _ => ⟨⟨ho.weaken (h.o1 (by omega)).2.2, fun k hk => (ho.blkLt k hk).2⟩, Nat.le_trans (h.o1 (by omega)).2.2 hb.size, Nat.le_refl _⟩) (fun e => by omega), ⟨⟨rfl, rfl⟩, trivial⟩⟩
theorem rh_call2 {ad : Ad} {x : Hd} {b0 b1 lo hi : Nat} {w0 : World} {A5 : Option Addr} {c5 : Nat} {X : Pl} {w : World} (HF : Hid (IsPt w0 b0 x.p ad ∧ FewP x.p)) (h : RH ad x b0 b1 lo hi w0 A5 c5 X 2 w) :
    Calls Try.prog 95 #[.slice ad.l x.p.cf.lrn.length ad.cl] w fun e w' => ∃ X' : Pl, e = .returned (.slice X'.a.l x.p.cf.lrn.length X'.a.cl) ∧ RH ad x b0 b1 lo hi w0 A5 c5 X' (2 + 1) w' ∧ ((X'.a.o = X.a.o ∧ X'.a.co = X.a.co) ∧ (X'.a.n = X.a.n ∧ X'.a.cn = X.a.cn)) := by
  have hb0 : b0 ≤ w.heap.size := Nat.le_of_lt (row_lt (h.rowL (by omega)))
  refine (ownI_any ad.l ad.cl x.p.cf.lrn.length x.p.cf.lrn rfl (by have := HF.out.2.l; omega) w ((HF.out.1.l.below h.bel).more hb0) HF.out.1.rl.2).mono ?_
  rintro e w' ⟨A, c, rfl, ho, hb⟩
  exact ⟨{ X with a := { X.a with l := A, cl := c }, m3 := w'.heap.size }, rfl, h.grow hb _ _ rfl (by omega) (fun _ => by
      obtain ⟨⟨q1, q2⟩, q3, q4⟩ := h.o1 (by omega)
      exact ⟨⟨ownsI_below q1 hb, q2⟩, q3, Nat.le_trans q4 hb.size⟩) (fun _ => by
      obtain ⟨⟨q1, q2⟩, q3, q4⟩ := h.o2 (by omega)
      exact ⟨⟨ownsI_below q1 hb, q2⟩, q3, Nat.le_trans q4 hb.size⟩) (fun _ => ⟨⟨ho.weaken (h.o2 (by omega)).2.2, fun k hk => (ho.blkLt k hk).2⟩, Nat.le_trans (h.o2 (by omega)).2.2 hb.size, Nat.le_refl _⟩), ⟨⟨rfl, rfl⟩, ⟨rfl, rfl⟩⟩⟩
theorem rh_store {ad : Ad} {x : Hd} {b0 b1 lo hi : Nat} {w0 : World} {A5 : Option Addr} {c5 : Nat} {X : Pl} {w : World} (HB : Hid (b0 < lo ∧ b0 ≠ b1 ∧ lo ≤ hi)) (h : RH ad x b0 b1 lo hi w0 A5 c5 X 3 w) :
    ∃ w', (Instr.storeAt 31 (.pointer (some ⟨b0, 6, none⟩)) (.agg #[.slice X.a.o x.p.cf.old.length X.a.co, .slice X.a.n x.p.cf.new.length X.a.cn, .slice X.a.l x.p.cf.lrn.length X.a.cl])).run Try.prog w = .ok () w' ∧ RH ad x b0 b1 lo hi w0 A5 c5 X (3 + 1) w' := by
  have r0 := h.rowL (by omega)
  have hst := stAt info_conf33 (conf_there r0 6 3 (by simp)) #[.slice X.a.o x.p.cf.old.length X.a.co, .slice X.a.n x.p.cf.new.length X.a.cn, .slice X.a.l x.p.cf.lrn.length X.a.cl] rfl (by simp [Value.oneCell'])
  have hT := turned_setCells b0 [.slice X.a.o x.p.cf.old.length X.a.co, .slice X.a.n x.p.cf.new.length X.a.cn, .slice X.a.l x.p.cf.lrn.length X.a.cl] w 6
  have r1 := row_set (row_set (row_set r0 6 (.slice X.a.o x.p.cf.old.length X.a.co)) 7 (.slice X.a.n x.p.cf.new.length X.a.cn)) 8 (.slice X.a.l x.p.cf.lrn.length X.a.cl)
  obtain ⟨⟨p1, p2⟩, p3, p4⟩ := h.o1 (by omega)
  obtain ⟨⟨q1, q2⟩, q3, q4⟩ := h.o2 (by omega)
  obtain ⟨⟨s1, s2⟩, s3, s4⟩ := h.o3 (by omega)
  have hb := HB.out
  have hz := hT.size
  have hlt := row_lt r0
  refine ⟨_, hst, h.bel.trans (hT.below (by omega) (fun k hk => by omega)), Nat.le_trans h.sz hz, fun e => by omega, fun _ => r1, (hT.block _ (row_lt h.res) (by omega)).trans h.res, h.es.keep hT (fun k hk hB => by have := hB.1; omega),
    fun _ => ⟨⟨ownsI_turned p1 hT (fun k hk e => by have := (p1.blkLt k hk).1; omega), p2⟩, p3, Nat.le_trans p4 hz⟩, fun _ => ⟨⟨ownsI_turned q1 hT (fun k hk e => by have := (q1.blkLt k hk).1; omega), q2⟩, q3, Nat.le_trans q4 hz⟩, fun _ => ⟨⟨ownsI_turned s1 hT (fun k hk e => by have := (s1.blkLt k hk).1; omega), s2⟩, s3, Nat.le_trans s4 hz⟩⟩
set_option maxHeartbeats 3200000 in
theorem ownHard_any (x : Hd) (ad : Ad) (hf : FewP x.p) (w : World) (h : IsPt w w.heap.size x.p ad) :
    Calls Try.prog 66 #[.agg #[.int .i64 x.g, .int .i64 x.t, .int .i64 x.v, .int .i64 x.p.log.base, .int .i64 x.p.log.term, .slice ad.e x.p.log.es.length ad.ce, .slice ad.o x.p.cf.old.length ad.co, .slice ad.n x.p.cf.new.length ad.cn, .slice ad.l x.p.cf.lrn.length ad.cl, .slice ad.s x.p.sn.length ad.cs]] w fun e w' => ∃ a' : Ad, e = .returned (.agg #[.int .i64 x.g, .int .i64 x.t, .int .i64 x.v, .int .i64 x.p.log.base, .int .i64 x.p.log.term, .slice a'.e x.p.log.es.length a'.ce, .slice a'.o x.p.cf.old.length a'.co, .slice a'.n x.p.cf.new.length a'.cn, .slice a'.l x.p.cf.lrn.length a'.cl, .slice a'.s x.p.sn.length a'.cs]) ∧ OwnPt w' w.heap.size w'.heap.size x.p a' ∧ Below w.heap.size w w' := by
  obtain ⟨wA, hwA⟩ : ∃ wA, wA = (w.alloc (.cells #[.int .i64 x.g, .int .i64 x.t, .int .i64 x.v, .int .i64 x.p.log.base, .int .i64 x.p.log.term, .slice ad.e x.p.log.es.length ad.ce, .slice ad.o x.p.cf.old.length ad.co, .slice ad.n x.p.cf.new.length ad.cn, .slice ad.l x.p.cf.lrn.length ad.cl, .slice ad.s x.p.sn.length ad.cs] 59)).alloc (.cells #[.int .i64 0, .int .i64 0, .int .i64 0, .int .i64 0, .int .i64 0, .slice none 0 0, .slice none 0 0, .slice none 0 0, .slice none 0 0, .slice none 0 0] 59) := ⟨_, rfl⟩
  obtain ⟨b0, hb0⟩ : ∃ b, b = w.heap.size := ⟨_, rfl⟩
  obtain ⟨b1, hb1⟩ : ∃ b, b = w.heap.size + 1 := ⟨_, rfl⟩
  have hsA : wA.heap.size = w.heap.size + 2 := by rw [hwA]; simp
  have hbA : Below w.heap.size w wA := by rw [hwA]; exact ((Below.refl _ w).alloc (Nat.le_refl _) _).alloc (by simp) _
  have hr0 : wA.heap[b0]? = some (.cells #[.int .i64 x.g, .int .i64 x.t, .int .i64 x.v, .int .i64 x.p.log.base, .int .i64 x.p.log.term, .slice ad.e x.p.log.es.length ad.ce, .slice ad.o x.p.cf.old.length ad.co, .slice ad.n x.p.cf.new.length ad.cn, .slice ad.l x.p.cf.lrn.length ad.cl, .slice ad.s x.p.sn.length ad.cs] 59 (0, 0)) := by rw [hwA, heap_alloc_old _ _ (by rw [hb0]; simp), hb0]; exact heap_alloc_new w _
  have hr1 : wA.heap[b1]? = some (.cells #[.int .i64 0, .int .i64 0, .int .i64 0, .int .i64 0, .int .i64 0, .slice none 0 0, .slice none 0 0, .slice none 0 0, .slice none 0 0, .slice none 0 0] 59 (0, 0)) := by
    have := heap_alloc_new (w.alloc (.cells #[.int .i64 x.g, .int .i64 x.t, .int .i64 x.v, .int .i64 x.p.log.base, .int .i64 x.p.log.term, .slice ad.e x.p.log.es.length ad.ce, .slice ad.o x.p.cf.old.length ad.co, .slice ad.n x.p.cf.new.length ad.cn, .slice ad.l x.p.cf.lrn.length ad.cl, .slice ad.s x.p.sn.length ad.cs] 59)) (.cells #[.int .i64 0, .int .i64 0, .int .i64 0, .int .i64 0, .int .i64 0, .slice none 0 0, .slice none 0 0, .slice none 0 0, .slice none 0 0, .slice none 0 0] 59)
    rw [World.size_alloc, ← hwA, ← hb1] at this
    exact this
  have HE := hid (eachE_any ad.e ad.ce x.p.log.es.length x.p.log.es rfl hf.es (fun e he => by have := hf.d e he; omega) wA ((h.es.below hbA).more (by omega)) h.re.2)
  have hc5 := row_cell hr0 5
  have H0 := hid (And.intro hr0 (And.intro hr1 (And.intro hbA (And.intro hsA (And.intro hb0 hb1)))))
  have hc5' : wA.cell? ⟨b0, 5, none⟩ = some (.slice ad.e x.p.log.es.length ad.ce) := hc5
  have HP := hid (And.intro h hf)
  clear hc5 hr0 hr1 hbA hsA h hf
  go_enter Try.func66, Try.ntmps66
  go_wp2_with fail
  rw [← hwA, ← hb1, ← hb0]
  clear hwA hb0 hb1
  go_wp2_with fail
  refine HE.out.mono ?_
  rintro e w1 ⟨A5, c5, rfl, ho1, hb1⟩
  have z0 := H0.out.2.2.2.1
  have zb0 := H0.out.2.2.2.2.1
  have zb1 := H0.out.2.2.2.2.2
  have hr01 := (hb1.block _ (by omega)).trans H0.out.1
  have hr11 := (hb1.block _ (by omega)).trans H0.out.2.1
  have hc1 := row_cell hr01 5
  have hf1 := row_free hr01 5
  have hcc : w1.cell? ⟨b0, 5, none⟩ = some (.slice ad.e x.p.log.es.length ad.ce) := hc1
  obtain ⟨w2, hw2⟩ : ∃ w2, w2 = w1.setCell ⟨b0, 5, none⟩ (.slice A5 x.p.log.es.length c5) := ⟨_, rfl⟩
  have hr02 : w2.heap[b0]? = some (.cells #[.int .i64 x.g, .int .i64 x.t, .int .i64 x.v, .int .i64 x.p.log.base, .int .i64 x.p.log.term, .slice A5 x.p.log.es.length c5, .slice ad.o x.p.cf.old.length ad.co, .slice ad.n x.p.cf.new.length ad.cn, .slice ad.l x.p.cf.lrn.length ad.cl, .slice ad.s x.p.sn.length ad.cs] 59 (0, 0)) := by rw [hw2]; exact row_set hr01 5 _
  have hT2 : Turned (fun k => k = b0) w1 w2 := by rw [hw2]; exact Turned.one _ _ _ _
  have hr12 := (hT2.block b1 (row_lt hr11) (by omega)).trans hr11
  obtain ⟨hi, hhi⟩ : ∃ hi, hi = w1.heap.size := ⟨_, rfl⟩
  have HR : Hid (RH ad x b0 b1 wA.heap.size hi w A5 c5 X0 0 w2) := hid (by
    have hz2 := hT2.size
    have hzb := hb1.size
    refine ⟨(H0.out.2.2.1.mono (by omega)).trans ((hb1.mono (by omega)).trans (hT2.below (by omega) (fun k hk => by omega))), by omega, fun _ => hr02, fun e => by omega, hr12, ?_, fun e => by omega, fun e => by omega, fun e => by omega⟩
    rw [hhi]
    exact ho1.keep hT2 (fun k hk hB => by have := hB.1; omega))
  have HT := hid (And.intro hhi (Nat.le_trans hb1.size hT2.size))
  have HSZ := hid hb1.size
  clear z0 zb0 zb1 hr01 hr11 hc1 hr02 hT2 hr12 ho1 hb1 hhi
  go_wp2_with fail
  rw [← hw2]
  clear hw2 hf1 hcc
  have HF : Hid (IsPt w b0 x.p ad ∧ FewP x.p) := hid (by rw [H0.out.2.2.2.2.1]; exact HP.out)
  have HB : Hid (b0 < wA.heap.size ∧ b0 ≠ b1 ∧ wA.heap.size ≤ hi) := hid (by
    have z0 := H0.out.2.2.2.1
    have zb0 := H0.out.2.2.2.2.1
    have zb1 := H0.out.2.2.2.2.2
    have hr := HR.out.sz
    have := HT.out.1
    refine ⟨by omega, by omega, ?_⟩
    rw [this]
    exact HSZ.out)
  generalize hlo : wA.heap.size = lo at *
  refine region_calls (C := ⟨_, 28, stH, valH ad x b0, RH ad x b0 b1 lo hi w A5 c5⟩) rfl (by kernel_rfl) rfl X0 ?inv (by kernel_rfl) ?arms ?he
  case inv =>
    have h := HR.out
    exact ⟨h.bel.drew, h.sz, h.rowL, h.rowS, h.res, h.es.below (Below.refl _ _).drew, fun e => by omega, fun e => by omega, fun e => by omega⟩
  case arms =>
    intro hC
    exact ⟨arm_pure hC rfl rfl (fun X p listed a W h hu ha => run_fad (show a.eval (.tmp 1) = .pointer (some ⟨b0, 0, none⟩) from h.kept 1 (by kernel_rfl)) (show (Instr.fieldAt _ _ _).run _ W = .ok (.pointer (some ⟨b0, 6, none⟩)) W by go_simp)),
      arm_pure hC rfl rfl (fun X p listed a W h hu ha => run_fad (show a.eval (.tmp 9) = .pointer (some ⟨b0, 6, none⟩) from h.slots 0 _ 9 rfl rfl (ha ⟨0, .data⟩ (by simp) rfl)) (show (Instr.fieldAt _ _ _).run _ W = .ok (.pointer (some ⟨b0, 6, none⟩)) W by go_simp)),
      arm_pure hC rfl rfl (fun X p listed a W h hu ha => run_load (show a.eval (.tmp 10) = .pointer (some ⟨b0, 6, none⟩) from h.slots 1 _ 10 rfl rfl (ha ⟨1, .data⟩ (by simp) rfl)) (by
        have hp := h.ahead (m := 14) (k := 3) rfl rfl hu ⟨⟨2, .phase⟩, by simp, rfl, rfl⟩
        have hi : RH ad x b0 b1 lo hi w A5 c5 X p W := h.inv
        have hc : W.cell? ⟨b0, 6, none⟩ = some (.slice ad.o x.p.cf.old.length ad.co) := row_cell (hi.rowL hp) 6
        show (Instr.loadAt _ _).run _ W = .ok (.slice ad.o x.p.cf.old.length ad.co) W
        clear h ha hi
        go_simp)),
      arm_call (k := 0) hC rfl rfl (.inl rfl) (fun X listed a W h hu ha => .inr ⟨95, #[.slice ad.o x.p.cf.old.length ad.co], run_call1 (show a.eval (.tmp 11) = .slice ad.o x.p.cf.old.length ad.co from h.slots 2 _ 11 rfl rfl (ha ⟨2, .data⟩ (by simp) rfl)) (by go_simp), (rh_call0 HF h.inv).mono (by
        rintro e W' ⟨X', rfl, h2, h4⟩
        exact ⟨_, rfl, X', fun d hd => rfl, h2, fun m hm hne hs hl => valH_eq m (.inl (fun e => hne e)) (.inl (fun e => by subst e; have := hs 1 rfl; omega)) (fun e => by subst e; have := hs 2 rfl; omega) (fun e => by subst e; have := h.clos 12 _ rfl hl ⟨3, .data⟩ (by simp) rfl; rw [listed_no hu] at this; cases this)⟩)⟩),
      arm_pure hC rfl rfl (fun X p listed a W h hu ha => run_fad (show a.eval (.tmp 1) = .pointer (some ⟨b0, 0, none⟩) from h.kept 1 (by kernel_rfl)) (show (Instr.fieldAt _ _ _).run _ W = .ok (.pointer (some ⟨b0, 6, none⟩)) W by go_simp)),
      arm_pure hC rfl rfl (fun X p listed a W h hu ha => run_fad (show a.eval (.tmp 13) = .pointer (some ⟨b0, 6, none⟩) from h.slots 4 _ 13 rfl rfl (ha ⟨4, .data⟩ (by simp) rfl)) (show (Instr.fieldAt _ _ _).run _ W = .ok (.pointer (some ⟨b0, 7, none⟩)) W by go_simp)),
      arm_pure hC rfl rfl (fun X p listed a W h hu ha => run_load (show a.eval (.tmp 14) = .pointer (some ⟨b0, 7, none⟩) from h.slots 5 _ 14 rfl rfl (ha ⟨5, .data⟩ (by simp) rfl)) (by
        have hp := h.ahead (m := 14) (k := 3) rfl rfl hu ⟨⟨6, .phase⟩, by simp, rfl, rfl⟩
        have hi : RH ad x b0 b1 lo hi w A5 c5 X p W := h.inv
        have hc : W.cell? ⟨b0, 7, none⟩ = some (.slice ad.n x.p.cf.new.length ad.cn) := row_cell (hi.rowL hp) 7
        show (Instr.loadAt _ _).run _ W = .ok (.slice ad.n x.p.cf.new.length ad.cn) W
        clear h ha hi
        go_simp)),
      arm_call (k := 1) hC rfl rfl (.inr ⟨3, (show 3 < 15 by decide), rfl, ⟨3, .chain⟩, by simp, rfl, rfl⟩) (fun X listed a W h hu ha => .inr ⟨95, #[.slice ad.n x.p.cf.new.length ad.cn], run_call1 (show a.eval (.tmp 15) = .slice ad.n x.p.cf.new.length ad.cn from h.slots 6 _ 15 rfl rfl (ha ⟨6, .data⟩ (by simp) rfl)) (by go_simp), (rh_call1 HF h.inv).mono (by
        rintro e W' ⟨X', rfl, h2, h4⟩
        exact ⟨_, rfl, X', fun d hd => rfl, h2, fun m hm hne hs hl => valH_eq m (.inr h4.1) (.inl (fun e => hne e)) (fun e => by subst e; have := hs 2 rfl; omega) (fun e => by subst e; have := h.clos 12 _ rfl hl ⟨7, .data⟩ (by simp) rfl; rw [listed_no hu] at this; cases this)⟩)⟩),
      arm_pure hC rfl rfl (fun X p listed a W h hu ha => run_fad (show a.eval (.tmp 1) = .pointer (some ⟨b0, 0, none⟩) from h.kept 1 (by kernel_rfl)) (show (Instr.fieldAt _ _ _).run _ W = .ok (.pointer (some ⟨b0, 6, none⟩)) W by go_simp)),
      arm_pure hC rfl rfl (fun X p listed a W h hu ha => run_fad (show a.eval (.tmp 17) = .pointer (some ⟨b0, 6, none⟩) from h.slots 8 _ 17 rfl rfl (ha ⟨8, .data⟩ (by simp) rfl)) (show (Instr.fieldAt _ _ _).run _ W = .ok (.pointer (some ⟨b0, 8, none⟩)) W by go_simp)),
      arm_pure hC rfl rfl (fun X p listed a W h hu ha => run_load (show a.eval (.tmp 18) = .pointer (some ⟨b0, 8, none⟩) from h.slots 9 _ 18 rfl rfl (ha ⟨9, .data⟩ (by simp) rfl)) (by
        have hp := h.ahead (m := 14) (k := 3) rfl rfl hu ⟨⟨10, .phase⟩, by simp, rfl, rfl⟩
        have hi : RH ad x b0 b1 lo hi w A5 c5 X p W := h.inv
        have hc : W.cell? ⟨b0, 8, none⟩ = some (.slice ad.l x.p.cf.lrn.length ad.cl) := row_cell (hi.rowL hp) 8
        show (Instr.loadAt _ _).run _ W = .ok (.slice ad.l x.p.cf.lrn.length ad.cl) W
        clear h ha hi
        go_simp)),
      arm_call (k := 2) hC rfl rfl (.inr ⟨7, (show 7 < 15 by decide), rfl, ⟨7, .chain⟩, by simp, rfl, rfl⟩) (fun X listed a W h hu ha => .inr ⟨95, #[.slice ad.l x.p.cf.lrn.length ad.cl], run_call1 (show a.eval (.tmp 19) = .slice ad.l x.p.cf.lrn.length ad.cl from h.slots 10 _ 19 rfl rfl (ha ⟨10, .data⟩ (by simp) rfl)) (by go_simp), (rh_call2 HF h.inv).mono (by
        rintro e W' ⟨X', rfl, h2, h4⟩
        exact ⟨_, rfl, X', fun d hd => rfl, h2, fun m hm hne hs hl => valH_eq m (.inr h4.1) (.inr h4.2) (fun e => hne e) (fun e => by subst e; have := h.clos 12 _ rfl hl ⟨11, .data⟩ (by simp) rfl; rw [listed_no hu] at this; cases this)⟩)⟩),
      arm_pure hC rfl rfl (fun X p listed a W h hu ha => x_build _ _ _ _ _ _ (build_cf3 a W (show a.eval (.tmp 12) = .slice X.a.o x.p.cf.old.length X.a.co from h.slots 3 _ 12 rfl rfl (ha ⟨3, .data⟩ (by simp) rfl)) (show a.eval (.tmp 16) = .slice X.a.n x.p.cf.new.length X.a.cn from h.slots 7 _ 16 rfl rfl (ha ⟨7, .data⟩ (by simp) rfl)) (show a.eval (.tmp 20) = .slice X.a.l x.p.cf.lrn.length X.a.cl from h.slots 11 _ 20 rfl rfl (ha ⟨11, .data⟩ (by simp) rfl)))),
      arm_pure hC rfl rfl (fun X p listed a W h hu ha => run_fad (show a.eval (.tmp 1) = .pointer (some ⟨b0, 0, none⟩) from h.kept 1 (by kernel_rfl)) (show (Instr.fieldAt _ _ _).run _ W = .ok (.pointer (some ⟨b0, 6, none⟩)) W by go_simp)),
      arm_store (k := 3) hC rfl rfl rfl (.inr ⟨11, (show 11 < 15 by decide), rfl, ⟨11, .chain⟩, by simp, rfl, rfl⟩) (fun X listed a W h hu ha => by
        obtain ⟨W', q1, q2⟩ := rh_store HB h.inv
        exact ⟨W', run_store (show a.eval (.tmp 22) = .pointer (some ⟨b0, 6, none⟩) from h.slots 13 _ 22 rfl rfl (ha ⟨13, .data⟩ (by simp) rfl)) (show a.eval (.tmp 21) = .agg #[.slice X.a.o x.p.cf.old.length X.a.co, .slice X.a.n x.p.cf.new.length X.a.cn, .slice X.a.l x.p.cf.lrn.length X.a.cl] from h.slots 12 _ 21 rfl rfl (ha ⟨12, .data⟩ (by simp) rfl)) q1, q2⟩),
      trivial⟩
  case he =>
    intro listed a w3 X p hJ hall
    have hp3 : 3 < p := (hJ.call 14 (show 14 < 15 by decide) 3 rfl).1 (hall 14 (show 14 < 15 by decide))
    have hR : RH ad x b0 b1 lo hi w A5 c5 X p w3 := hJ.inv
    have H3 := hid hR
    have k1 : a.eval (.tmp 1) = .pointer (some ⟨b0, 0, none⟩) := hJ.kept 1 (by kernel_rfl)
    have k2 : a.eval (.tmp 2) = .pointer (some ⟨b1, 0, none⟩) := hJ.kept 2 (by kernel_rfl)
    have hts : a.tmps.size = 28 := hJ.size
    have k1' : (a.tmps[1]?).getD undef = .pointer (some ⟨b0, 0, none⟩) := by rw [← Array.getD_eq_getD_getElem?]; exact k1
    have k2' : (a.tmps[2]?).getD undef = .pointer (some ⟨b1, 0, none⟩) := by rw [← Array.getD_eq_getD_getElem?]; exact k2
    have hdf : a.defers = [] := hJ.defers
    obtain ⟨tmps, defers⟩ := a
    obtain rfl : defers = [] := hdf
    clear hJ hall hR k1 k2
    have hl := act_listing tmps 28 hts
    have h2 : (List.range 28).map (fun i => (tmps[i]?).getD undef) = [(tmps[0]?).getD undef, (tmps[1]?).getD undef, (tmps[2]?).getD undef, (tmps[3]?).getD undef, (tmps[4]?).getD undef, (tmps[5]?).getD undef, (tmps[6]?).getD undef, (tmps[7]?).getD undef, (tmps[8]?).getD undef, (tmps[9]?).getD undef, (tmps[10]?).getD undef, (tmps[11]?).getD undef, (tmps[12]?).getD undef, (tmps[13]?).getD undef, (tmps[14]?).getD undef, (tmps[15]?).getD undef, (tmps[16]?).getD undef, (tmps[17]?).getD undef, (tmps[18]?).getD undef, (tmps[19]?).getD undef, (tmps[20]?).getD undef, (tmps[21]?).getD undef, (tmps[22]?).getD undef, (tmps[23]?).getD undef, (tmps[24]?).getD undef, (tmps[25]?).getD undef, (tmps[26]?).getD undef, (tmps[27]?).getD undef] := by kernel_rfl
    rw [h2, k1', k2'] at hl
    clear h2 k1' k2' hts
    generalize (tmps[0]?).getD undef = x0 at hl
    generalize (tmps[3]?).getD undef = x3 at hl
    generalize (tmps[4]?).getD undef = x4 at hl
    generalize (tmps[5]?).getD undef = x5 at hl
    generalize (tmps[6]?).getD undef = x6 at hl
    generalize (tmps[7]?).getD undef = x7 at hl
    generalize (tmps[8]?).getD undef = x8 at hl
    generalize (tmps[9]?).getD undef = x9 at hl
    generalize (tmps[10]?).getD undef = x10 at hl
    generalize (tmps[11]?).getD undef = x11 at hl
    generalize (tmps[12]?).getD undef = x12 at hl
    generalize (tmps[13]?).getD undef = x13 at hl
    generalize (tmps[14]?).getD undef = x14 at hl
    generalize (tmps[15]?).getD undef = x15 at hl
    generalize (tmps[16]?).getD undef = x16 at hl
    generalize (tmps[17]?).getD undef = x17 at hl
    generalize (tmps[18]?).getD undef = x18 at hl
    generalize (tmps[19]?).getD undef = x19 at hl
    generalize (tmps[20]?).getD undef = x20 at hl
    generalize (tmps[21]?).getD undef = x21 at hl
    generalize (tmps[22]?).getD undef = x22 at hl
    generalize (tmps[23]?).getD undef = x23 at hl
    generalize (tmps[24]?).getD undef = x24 at hl
    generalize (tmps[25]?).getD undef = x25 at hl
    generalize (tmps[26]?).getD undef = x26 at hl
    generalize (tmps[27]?).getD undef = x27 at hl
    subst hl
    have r3 := H3.out.rowS hp3
    have hc9 : w3.cell? ⟨b0, 9, none⟩ = some (.slice ad.s x.p.sn.length ad.cs) := row_cell r3 9
    have hb0w : b0 ≤ w3.heap.size := Nat.le_of_lt (row_lt r3)
    have HO := hid (ownB_any ad.s ad.cs x.p.sn.length x.p.sn rfl (by have := HF.out.2.s; omega) w3 ((HF.out.1.s.below H3.out.bel).more hb0w) HF.out.1.rs.2)
    clear hb0w r3
    go_wp2_with fail
    refine HO.out.mono ?_
    rintro e w4 ⟨A9, c9, rfl, ho4, hb4⟩
    have r4 := (hb4.block _ (row_lt (H3.out.rowS hp3))).trans (H3.out.rowS hp3)
    have q4 := (hb4.block _ (row_lt H3.out.res)).trans H3.out.res
    have hc4 : w4.cell? ⟨b0, 9, none⟩ = some (.slice ad.s x.p.sn.length ad.cs) := row_cell r4 9
    have hf4 := row_free r4 9
    have r5 := row_set r4 9 (.slice A9 x.p.sn.length c9)
    have hT5 : Turned (fun k => k = b0) w4 (w4.setCell ⟨b0, 9, none⟩ (.slice A9 x.p.sn.length c9)) := Turned.one _ _ _ _
    have q5 := (hT5.block b1 (row_lt q4) (fun e => HB.out.2.1 e.symm)).trans q4
    generalize hw5 : w4.setCell ⟨b0, 9, none⟩ (.slice A9 x.p.sn.length c9) = w5 at *
    have hld := ldRow info_hard Try.underlying59 rfl r5 rfl
    have hst := stRow info_hard (cs' := #[.int .i64 x.g, .int .i64 x.t, .int .i64 x.v, .int .i64 x.p.log.base, .int .i64 x.p.log.term, .slice ((⟨A5, c5, X.a.o, X.a.co, X.a.n, X.a.cn, X.a.l, X.a.cl, A9, c9⟩ : Ad)).e x.p.log.es.length ((⟨A5, c5, X.a.o, X.a.co, X.a.n, X.a.cn, X.a.l, X.a.cl, A9, c9⟩ : Ad)).ce, .slice ((⟨A5, c5, X.a.o, X.a.co, X.a.n, X.a.cn, X.a.l, X.a.cl, A9, c9⟩ : Ad)).o x.p.cf.old.length ((⟨A5, c5, X.a.o, X.a.co, X.a.n, X.a.cn, X.a.l, X.a.cl, A9, c9⟩ : Ad)).co, .slice ((⟨A5, c5, X.a.o, X.a.co, X.a.n, X.a.cn, X.a.l, X.a.cl, A9, c9⟩ : Ad)).n x.p.cf.new.length ((⟨A5, c5, X.a.o, X.a.co, X.a.n, X.a.cn, X.a.l, X.a.cl, A9, c9⟩ : Ad)).cn, .slice ((⟨A5, c5, X.a.o, X.a.co, X.a.n, X.a.cn, X.a.l, X.a.cl, A9, c9⟩ : Ad)).l x.p.cf.lrn.length ((⟨A5, c5, X.a.o, X.a.co, X.a.n, X.a.cn, X.a.l, X.a.cl, A9, c9⟩ : Ad)).cl, .slice ((⟨A5, c5, X.a.o, X.a.co, X.a.n, X.a.cn, X.a.l, X.a.cl, A9, c9⟩ : Ad)).s x.p.sn.length ((⟨A5, c5, X.a.o, X.a.co, X.a.n, X.a.cn, X.a.l, X.a.cl, A9, c9⟩ : Ad)).cs]) q5 rfl rfl (by simp [Value.oneCell'])
    have r6 := setRow_heap w5 b1 _ #[.int .i64 x.g, .int .i64 x.t, .int .i64 x.v, .int .i64 x.p.log.base, .int .i64 x.p.log.term, .slice ((⟨A5, c5, X.a.o, X.a.co, X.a.n, X.a.cn, X.a.l, X.a.cl, A9, c9⟩ : Ad)).e x.p.log.es.length ((⟨A5, c5, X.a.o, X.a.co, X.a.n, X.a.cn, X.a.l, X.a.cl, A9, c9⟩ : Ad)).ce, .slice ((⟨A5, c5, X.a.o, X.a.co, X.a.n, X.a.cn, X.a.l, X.a.cl, A9, c9⟩ : Ad)).o x.p.cf.old.length ((⟨A5, c5, X.a.o, X.a.co, X.a.n, X.a.cn, X.a.l, X.a.cl, A9, c9⟩ : Ad)).co, .slice ((⟨A5, c5, X.a.o, X.a.co, X.a.n, X.a.cn, X.a.l, X.a.cl, A9, c9⟩ : Ad)).n x.p.cf.new.length ((⟨A5, c5, X.a.o, X.a.co, X.a.n, X.a.cn, X.a.l, X.a.cl, A9, c9⟩ : Ad)).cn, .slice ((⟨A5, c5, X.a.o, X.a.co, X.a.n, X.a.cn, X.a.l, X.a.cl, A9, c9⟩ : Ad)).l x.p.cf.lrn.length ((⟨A5, c5, X.a.o, X.a.co, X.a.n, X.a.cn, X.a.l, X.a.cl, A9, c9⟩ : Ad)).cl, .slice ((⟨A5, c5, X.a.o, X.a.co, X.a.n, X.a.cn, X.a.l, X.a.cl, A9, c9⟩ : Ad)).s x.p.sn.length ((⟨A5, c5, X.a.o, X.a.co, X.a.n, X.a.cn, X.a.l, X.a.cl, A9, c9⟩ : Ad)).cs] _ _ q5
    have hT6 := row_turned w5 b1 #[.int .i64 x.g, .int .i64 x.t, .int .i64 x.v, .int .i64 x.p.log.base, .int .i64 x.p.log.term, .slice ((⟨A5, c5, X.a.o, X.a.co, X.a.n, X.a.cn, X.a.l, X.a.cl, A9, c9⟩ : Ad)).e x.p.log.es.length ((⟨A5, c5, X.a.o, X.a.co, X.a.n, X.a.cn, X.a.l, X.a.cl, A9, c9⟩ : Ad)).ce, .slice ((⟨A5, c5, X.a.o, X.a.co, X.a.n, X.a.cn, X.a.l, X.a.cl, A9, c9⟩ : Ad)).o x.p.cf.old.length ((⟨A5, c5, X.a.o, X.a.co, X.a.n, X.a.cn, X.a.l, X.a.cl, A9, c9⟩ : Ad)).co, .slice ((⟨A5, c5, X.a.o, X.a.co, X.a.n, X.a.cn, X.a.l, X.a.cl, A9, c9⟩ : Ad)).n x.p.cf.new.length ((⟨A5, c5, X.a.o, X.a.co, X.a.n, X.a.cn, X.a.l, X.a.cl, A9, c9⟩ : Ad)).cn, .slice ((⟨A5, c5, X.a.o, X.a.co, X.a.n, X.a.cn, X.a.l, X.a.cl, A9, c9⟩ : Ad)).l x.p.cf.lrn.length ((⟨A5, c5, X.a.o, X.a.co, X.a.n, X.a.cn, X.a.l, X.a.cl, A9, c9⟩ : Ad)).cl, .slice ((⟨A5, c5, X.a.o, X.a.co, X.a.n, X.a.cn, X.a.l, X.a.cl, A9, c9⟩ : Ad)).s x.p.sn.length ((⟨A5, c5, X.a.o, X.a.co, X.a.n, X.a.cn, X.a.l, X.a.cl, A9, c9⟩ : Ad)).cs]
    generalize w5.setRow b1 #[.int .i64 x.g, .int .i64 x.t, .int .i64 x.v, .int .i64 x.p.log.base, .int .i64 x.p.log.term, .slice ((⟨A5, c5, X.a.o, X.a.co, X.a.n, X.a.cn, X.a.l, X.a.cl, A9, c9⟩ : Ad)).e x.p.log.es.length ((⟨A5, c5, X.a.o, X.a.co, X.a.n, X.a.cn, X.a.l, X.a.cl, A9, c9⟩ : Ad)).ce, .slice ((⟨A5, c5, X.a.o, X.a.co, X.a.n, X.a.cn, X.a.l, X.a.cl, A9, c9⟩ : Ad)).o x.p.cf.old.length ((⟨A5, c5, X.a.o, X.a.co, X.a.n, X.a.cn, X.a.l, X.a.cl, A9, c9⟩ : Ad)).co, .slice ((⟨A5, c5, X.a.o, X.a.co, X.a.n, X.a.cn, X.a.l, X.a.cl, A9, c9⟩ : Ad)).n x.p.cf.new.length ((⟨A5, c5, X.a.o, X.a.co, X.a.n, X.a.cn, X.a.l, X.a.cl, A9, c9⟩ : Ad)).cn, .slice ((⟨A5, c5, X.a.o, X.a.co, X.a.n, X.a.cn, X.a.l, X.a.cl, A9, c9⟩ : Ad)).l x.p.cf.lrn.length ((⟨A5, c5, X.a.o, X.a.co, X.a.n, X.a.cn, X.a.l, X.a.cl, A9, c9⟩ : Ad)).cl, .slice ((⟨A5, c5, X.a.o, X.a.co, X.a.n, X.a.cn, X.a.l, X.a.cl, A9, c9⟩ : Ad)).s x.p.sn.length ((⟨A5, c5, X.a.o, X.a.co, X.a.n, X.a.cn, X.a.l, X.a.cl, A9, c9⟩ : Ad)).cs] = w6 at *
    have HE6 : Hid (w6.heap[b1]? = some (.cells #[.int .i64 x.g, .int .i64 x.t, .int .i64 x.v, .int .i64 x.p.log.base, .int .i64 x.p.log.term, .slice ((⟨A5, c5, X.a.o, X.a.co, X.a.n, X.a.cn, X.a.l, X.a.cl, A9, c9⟩ : Ad)).e x.p.log.es.length ((⟨A5, c5, X.a.o, X.a.co, X.a.n, X.a.cn, X.a.l, X.a.cl, A9, c9⟩ : Ad)).ce, .slice ((⟨A5, c5, X.a.o, X.a.co, X.a.n, X.a.cn, X.a.l, X.a.cl, A9, c9⟩ : Ad)).o x.p.cf.old.length ((⟨A5, c5, X.a.o, X.a.co, X.a.n, X.a.cn, X.a.l, X.a.cl, A9, c9⟩ : Ad)).co, .slice ((⟨A5, c5, X.a.o, X.a.co, X.a.n, X.a.cn, X.a.l, X.a.cl, A9, c9⟩ : Ad)).n x.p.cf.new.length ((⟨A5, c5, X.a.o, X.a.co, X.a.n, X.a.cn, X.a.l, X.a.cl, A9, c9⟩ : Ad)).cn, .slice ((⟨A5, c5, X.a.o, X.a.co, X.a.n, X.a.cn, X.a.l, X.a.cl, A9, c9⟩ : Ad)).l x.p.cf.lrn.length ((⟨A5, c5, X.a.o, X.a.co, X.a.n, X.a.cn, X.a.l, X.a.cl, A9, c9⟩ : Ad)).cl, .slice ((⟨A5, c5, X.a.o, X.a.co, X.a.n, X.a.cn, X.a.l, X.a.cl, A9, c9⟩ : Ad)).s x.p.sn.length ((⟨A5, c5, X.a.o, X.a.co, X.a.n, X.a.cn, X.a.l, X.a.cl, A9, c9⟩ : Ad)).cs] 59 (0, 0)) ∧ OwnPt w6 w.heap.size w6.heap.size x.p ⟨A5, c5, X.a.o, X.a.co, X.a.n, X.a.cn, X.a.l, X.a.cl, A9, c9⟩ ∧ Below w.heap.size w w6) := hid (by
      obtain ⟨⟨p1, p2⟩, p3, p4⟩ := H3.out.o1 (by omega)
      obtain ⟨⟨q1, q2⟩, q3, q4⟩ := H3.out.o2 (by omega)
      obtain ⟨⟨s1, s2⟩, s3, s4⟩ := H3.out.o3 (by omega)
      have zb0 := H0.out.2.2.2.2.1
      have zb1 := H0.out.2.2.2.2.2
      have z0 := H0.out.2.2.2.1
      have hB := HB.out
      have hbz := hb4.size
      have hT : Turned (fun k => k = b0 ∨ k = b1) w4 w6 := (hT5.mono (fun k hk => .inl hk)).trans (hT6.mono (fun k hk => .inr hk))
      have hz := hT.size
      have hno : ∀ k, lo ≤ k → ¬ (k = b0 ∨ k = b1) := fun k hk e => by omega
      have hin : hi ≤ w3.heap.size := H3.out.sz
      refine ⟨r6, ⟨hi, X.m1, X.m2, X.m3, ⟨by omega, p3, q3, s3, by omega⟩, ?_, ⟨ownsI_turned (ownsI_below p1 hb4) hT (fun k hk => hno k (by have := (p1.blkLt k hk).1; omega)), p2⟩, ⟨ownsI_turned (ownsI_below q1 hb4) hT (fun k hk => hno k (by have := (q1.blkLt k hk).1; omega)), q2⟩, ⟨ownsI_turned (ownsI_below s1 hb4) hT (fun k hk => hno k (by have := (s1.blkLt k hk).1; omega)), s2⟩, ⟨(ho4.turned hT (fun k hk => hno k (by have := (ho4.blkLt k hk).1; omega))).weaken s4, fun k hk => by have := (ho4.blkLt k hk).2; omega⟩, HP.out.1.num⟩, ?_⟩
      · exact ((H3.out.es.below (hb4.mono hin)).keep hT (fun k hk hBl => hno k (by have := hBl.1; omega) hk)).wide (by omega) (Nat.le_refl _)
      · exact (H3.out.bel.mono (by omega)).trans ((hb4.mono (by omega)).trans (hT.below (by omega) (fun k hk => by omega))))
    clear r4 q4 hc9 r5 hT5 q5 r6 hT6 ho4 hb4
    go_wp2_with fail
    refine bodyPost_ret (results_cell_row rfl _ _ b1 _ _ _ _ rfl HE6.out.1 Try.underlying59 rfl (by rw [info_hard]; rfl)) rfl ?_
    exact ⟨⟨A5, c5, X.a.o, X.a.co, X.a.n, X.a.cn, X.a.l, X.a.cl, A9, c9⟩, rfl, HE6.out.2⟩
end Go.Proofs.Ytaeoccpjdjafnaa.Im
