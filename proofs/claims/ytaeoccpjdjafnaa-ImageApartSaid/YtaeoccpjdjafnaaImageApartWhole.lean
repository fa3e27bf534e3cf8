/- Behind a change that is made an image is in order; all that the change isn't about is as it was, what it is about is there once; the same change once more changes nothing. Conditions: none. -/
import Derived.Test.YtaeoccpjdjafnaaImageApartPartAG
import Derived.Test.YtaeoccpjdjafnaaImageApartPartAD
import Derived.Test.YtaeoccpjdjafnaaImageApartPartAF
import Derived.StillTailTactics
import Derived.Deep.RegionHeld3
import Derived.Test.YtaeoccpjdjafnaaRows
import Derived.Test.YtaeoccpjdjafnaaImageApartPartAA
import Derived.Test.YtaeoccpjdjafnaaImageApartPartAH
import Derived.Test.YtaeoccpjdjafnaaImageApartPartAE
import Derived.Test.YtaeoccpjdjafnaaImageApartPartAC
import Derived.WalkKit
import Derived.WalkLawsBesides
import Derived.ProofKit
import Derived.OpenShut
import Derived.ShutString
import Derived.ChangeOld
import Derived.Below
import Derived.SizedLaws
namespace Go.Proofs.Ytaeoccpjdjafnaa.Im
open Go Go.RowKit
open Rl (En Lg)
open Qu (Cf)
set_option maxRecDepth 100000
set_option linter.unusedVariables false
attribute [local go_sem ↓] loadAt_hard storeAt_hard loadAt_change storeAt_change loadAt_image storeAt_image loadAt_vote storeAt_vote
def keepH (c : Ch) (q : Hq) : Bool := decide (c.k = 4) || !decide (q.h.g = c.g)
def keepV (c : Ch) (v : Vt) : Bool := !decide (c.k = 4) || (!decide (v.x = c.a.x) || !decide (v.p = c.a.p))
structure WoH (w W : World) (v1 v2 : Value) (c : Ch) (ac : Ad) (A1 : Option Addr) (n c1 : Nat) (M : List Hq) : Prop where
  ap : Ap w v1 v2 c ac W
  r5 : W.heap[w.heap.size + 1 + 1 + 1]? = some (.cells #[.slice A1 n c1, .slice none 0 0] 25 (0, 0))
  hs : RowIn cellsH 10 59 W (Bl (w.heap.size + 4) W.heap.size) A1 c1 M
  ln : M.length = n
theorem wo_start (w : World) (v1 v2 : Value) (c : Ch) (ac : Ad) (wA : World) (h : Ap w v1 v2 c ac wA) (hz : wA.heap.size = w.heap.size + 3) : WoH w (wA.alloc (.cells #[.slice none 0 0, .slice none 0 0] 25)) v1 v2 c ac none 0 0 [] := by
  refine ⟨h.grow ((Below.refl _ _).alloc (Nat.le_refl _) _), ?_, RowIn.nil cellsH_fits _ _ _, rfl⟩
  have := heap_alloc_new wA (.cells #[.slice none 0 0, .slice none 0 0] 25)
  rwa [hz] at this
namespace WoH
variable {w W W' w5 w6 : World} {v1 v2 : Value} {c : Ch} {ac : Ad} {A1 A6 : Option Addr} {n c1 c6 : Nat} {M : List Hq} {q : Hq}
theorem grow (h : WoH w W v1 v2 c ac A1 n c1 M) (hb : Below W.heap.size W W') : WoH w W' v1 v2 c ac A1 n c1 M :=
  ⟨h.ap.grow hb, (hb.block _ (row_lt h.r5)).trans h.r5, (h.hs.below hb).mono (fun k hk => ⟨(h.hs.blk k hk).1, Nat.lt_of_lt_of_le (h.hs.blk k hk).2 hb.size⟩), h.ln⟩
theorem put (h : WoH w W v1 v2 c ac A1 n c1 M) (hb : Below W.heap.size W w5) (hrow6 : RowIn cellsH 10 59 w6 (fun k => Bl (w.heap.size + 4) W.heap.size k ∨ w5.heap.size ≤ k) A6 c6 (M ++ [q])) (hg6 : w5.grownBy w6 (blk A1)) :
    (w6.frozen? ⟨w.heap.size + 1 + 1 + 1, 0, none⟩ = false ∧ w6.cell? ⟨w.heap.size + 1 + 1 + 1, 0, none⟩ = some (.slice A1 n c1)) ∧ WoH w (w6.setCell ⟨w.heap.size + 1 + 1 + 1, 0, none⟩ (.slice A6 (n + 1) c6)) v1 v2 c ac A6 (n + 1) c6 (M ++ [q]) := by
  have hW := row_lt h.r5
  have hz := hb.size
  have hz6 := hg6.size
  have b56 : Below (w.heap.size + 4) w5 w6 := below_grown hg6 (by omega) (fun k hk => (h.hs.blk k hk).1)
  have b6 : Below (w.heap.size + 4) W w6 := (hb.mono (by omega)).trans b56
  have r6 : w6.heap[w.heap.size + 1 + 1 + 1]? = some (.cells #[.slice A1 n c1, .slice none 0 0] 25 (0, 0)) := (b6.block _ (by omega)).trans h.r5
  have a6 : Ap w v1 v2 c ac w6 := ⟨h.ap.bel.trans (b6.mono (by omega)), (b6.block _ (by omega)).trans h.ap.r2, (b6.block _ (by omega)).trans h.ap.r3, (b6.block _ (by omega)).trans h.ap.r4⟩
  have hT : Turned (fun k => k = w.heap.size + 1 + 1 + 1) w6 (w6.setCell ⟨w.heap.size + 1 + 1 + 1, 0, none⟩ (.slice A6 (n + 1) c6)) := Turned.one _ _ _ _
  refine ⟨⟨row_free r6 0, row_cell r6 0⟩, a6.turned (by omega) hT, row_set r6 0 _, (hrow6.keep hT (fun k hk e => ?_)).mono (fun k hk => ⟨?_, Nat.lt_of_lt_of_le (hrow6.lt k hk) hT.size⟩), by rw [List.length_append, h.ln]; rfl⟩
  · rcases hrow6.blk k hk with e' | e'
    · have := e'.1; omega
    · omega
  · rcases hrow6.blk k hk with e | e
    · exact e.1
    · omega
end WoH
structure WoV (w W : World) (v1 v2 : Value) (c : Ch) (ac : Ad) (A1 : Option Addr) (n c1 : Nat) (M : List Hq) (N : Nat) (A2 : Option Addr) (m c2 : Nat) (O : List Vt) : Prop where
  ap : Ap w v1 v2 c ac W
  r5 : W.heap[w.heap.size + 1 + 1 + 1]? = some (.cells #[.slice A1 n c1, .slice A2 m c2] 25 (0, 0))
  hs : RowIn cellsH 10 59 W (Bl (w.heap.size + 4) N) A1 c1 M
  vs : RowIn cellsV 5 34 W (Bl N W.heap.size) A2 c2 O
  lm : O.length = m
  low : w.heap.size + 4 ≤ N ∧ N ≤ W.heap.size
theorem WoH.toV {w W : World} {v1 v2 : Value} {c : Ch} {ac : Ad} {A1 : Option Addr} {n c1 : Nat} {M : List Hq} (h : WoH w W v1 v2 c ac A1 n c1 M) : WoV w W v1 v2 c ac A1 n c1 M W.heap.size none 0 0 [] :=
  ⟨h.ap, h.r5, h.hs, RowIn.nil cellsV_fits _ _ _, rfl, by have := row_lt h.r5; omega, Nat.le_refl _⟩
namespace WoV
variable {w W W' w5 w6 : World} {v1 v2 : Value} {c : Ch} {ac : Ad} {A1 A2 A6 : Option Addr} {n c1 m c2 c6 N : Nat} {M : List Hq} {O : List Vt} {v : Vt}
theorem grow (h : WoV w W v1 v2 c ac A1 n c1 M N A2 m c2 O) (hb : Below W.heap.size W W') : WoV w W' v1 v2 c ac A1 n c1 M N A2 m c2 O :=
  ⟨h.ap.grow hb, (hb.block _ (row_lt h.r5)).trans h.r5, h.hs.below hb, (h.vs.below hb).mono (fun k hk => ⟨(h.vs.blk k hk).1, Nat.lt_of_lt_of_le (h.vs.blk k hk).2 hb.size⟩), h.lm, h.low.1, Nat.le_trans h.low.2 hb.size⟩
theorem put (h : WoV w W v1 v2 c ac A1 n c1 M N A2 m c2 O) (hb : Below W.heap.size W w5) (hrow6 : RowIn cellsV 5 34 w6 (fun k => Bl N W.heap.size k ∨ w5.heap.size ≤ k) A6 c6 (O ++ [v])) (hg6 : w5.grownBy w6 (blk A2)) :
    (w6.frozen? ⟨w.heap.size + 1 + 1 + 1, 1, none⟩ = false ∧ w6.cell? ⟨w.heap.size + 1 + 1 + 1, 1, none⟩ = some (.slice A2 m c2)) ∧ WoV w (w6.setCell ⟨w.heap.size + 1 + 1 + 1, 1, none⟩ (.slice A6 (m + 1) c6)) v1 v2 c ac A1 n c1 M N A6 (m + 1) c6 (O ++ [v]) := by
  obtain ⟨l1, l2⟩ := h.low
  have hW := row_lt h.r5
  have hz := hb.size
  have hz6 := hg6.size
  have b56 : Below N w5 w6 := below_grown hg6 (by omega) (fun k hk => (h.vs.blk k hk).1)
  have b6 : Below N W w6 := (hb.mono (by omega)).trans b56
  have r6 : w6.heap[w.heap.size + 1 + 1 + 1]? = some (.cells #[.slice A1 n c1, .slice A2 m c2] 25 (0, 0)) := (b6.block _ (by omega)).trans h.r5
  have a6 : Ap w v1 v2 c ac w6 := ⟨h.ap.bel.trans (b6.mono (by omega)), (b6.block _ (by omega)).trans h.ap.r2, (b6.block _ (by omega)).trans h.ap.r3, (b6.block _ (by omega)).trans h.ap.r4⟩
  have hT : Turned (fun k => k = w.heap.size + 1 + 1 + 1) w6 (w6.setCell ⟨w.heap.size + 1 + 1 + 1, 1, none⟩ (.slice A6 (m + 1) c6)) := Turned.one _ _ _ _
  have tB : Turned (fun k => N ≤ k) W w6 := ⟨b6.os, b6.tape, b6.output, b6.size, fun k _ hn => b6.block k (by omega)⟩
  refine ⟨⟨row_free r6 1, row_cell r6 1⟩, a6.turned (by omega) hT, row_set r6 1 _, (h.hs.keep tB (fun k hk e => by have := (h.hs.blk k hk).2; omega)).keep hT (fun k hk e => by have := (h.hs.blk k hk).1; omega), (hrow6.keep hT (fun k hk e => ?_)).mono (fun k hk => ⟨?_, Nat.lt_of_lt_of_le (hrow6.lt k hk) hT.size⟩), by rw [List.length_append, h.lm]; rfl, l1, by have := hT.size; omega⟩
  · rcases hrow6.blk k hk with e' | e'
    · have := e'.1; omega
    · omega
  · rcases hrow6.blk k hk with e | e
    · exact e.1
    · omega
end WoV
def opL29 : Op := Op.load 22 (.tmp 29)
def opL73 : Op := Op.load 23 (.tmp 73)
set_option maxHeartbeats 6400000 in
theorem without_any (i : Ia) (nh nv : Nat) (Q : List Hq) (L : List Vt) (c : Ch) (ac : Ad) (hnh : nh = Q.length) (hnv : nv = L.length) (hlh : nh ≤ 20000) (hlv : nv ≤ 20000) (w : World) (hh : IsHds w w.heap.size i.h Q) (hv : IsVs w w.heap.size i.v L) :
    Calls Try.prog 11 #[.agg #[.slice i.h nh i.ch, .slice i.v nv i.cv], .agg #[.int .i64 c.k, .int .i64 c.g, .int .i64 c.t, .int .i64 c.v, .int .i64 c.f, .int .i64 c.p.log.base, .int .i64 c.p.log.term, .slice ac.e c.p.log.es.length ac.ce, .slice ac.o c.p.cf.old.length ac.co, .slice ac.n c.p.cf.new.length ac.cn, .slice ac.l c.p.cf.lrn.length ac.cl, .slice ac.s c.p.sn.length ac.cs, .int .i64 c.a.x, .int .i64 c.a.p, .int .i64 c.a.r, .int .i64 c.a.b, .int .i64 c.a.v]] w fun e w' => ∃ (j : Ia) (n m : Nat), e = .returned (.agg #[.slice j.h n j.ch, .slice j.v m j.cv]) ∧ (n = (Q.filter (keepH c)).length ∧ m = (L.filter (keepV c)).length) ∧ (IsHds w' w'.heap.size j.h (Q.filter (keepH c)) ∧ IsVs w' w'.heap.size j.v (L.filter (keepV c))) ∧ Below w.heap.size w w' := by
  obtain ⟨iH, hiH, zH0, zH1, zH2⟩ := info_parts info_hard3
  obtain ⟨iV, hiV, zV0, zV1, zV2⟩ := info_parts info_vote3
  obtain ⟨wA, hwA⟩ : ∃ wA, wA = (((w.alloc (.cells #[.slice i.h nh i.ch, .slice i.v nv i.cv] 25)).alloc (.cells #[.int .i64 c.k, .int .i64 c.g, .int .i64 c.t, .int .i64 c.v, .int .i64 c.f, .int .i64 c.p.log.base, .int .i64 c.p.log.term, .slice ac.e c.p.log.es.length ac.ce, .slice ac.o c.p.cf.old.length ac.co, .slice ac.n c.p.cf.new.length ac.cn, .slice ac.l c.p.cf.lrn.length ac.cl, .slice ac.s c.p.sn.length ac.cs, .int .i64 c.a.x, .int .i64 c.a.p, .int .i64 c.a.r, .int .i64 c.a.b, .int .i64 c.a.v] 36)).alloc (.cells #[.slice none 0 0, .slice none 0 0] 25)) := ⟨_, rfl⟩
  have hg := ap_start w (.slice i.h nh i.ch) (.slice i.v nv i.cv) c ac
  rw [← hwA] at hg
  have hzA : wA.heap.size = w.heap.size + 3 := by rw [hwA]; simp
  obtain ⟨wB, hwB⟩ : ∃ wB, wB = wA.alloc (.cells #[.slice none 0 0, .slice none 0 0] 25) := ⟨_, rfl⟩
  have HS : Hid (WoH w wB (.slice i.h nh i.ch) (.slice i.v nv i.cv) c ac none 0 0 []) := hid (by rw [hwB]; exact wo_start w _ _ c ac wA hg hzA)
  have HN := hid (And.intro hnh hnv)
  have HX := hid (And.intro hh hv)
  have HZA := hid hzA
  clear hg hh hv hnh hnv hzA
  go_enter Try.func11, Try.ntmps11
  go_wp2_with fail
  rw [← hwA, ← hwB]
  try rw [HZA.out]
  clear hwA hwB
  go_loopw [6] (fun iv wr => ∃ k : Nat, k ≤ nh ∧ iv = .int .i64 (k : Int) ∧ Hid (∃ A1 n c1, WoH w wr (.slice i.h nh i.ch) (.slice i.v nv i.cv) c ac A1 n c1 ((Q.take k).filter (keepH c)) ∧ n ≤ k)) (fun iv _ => nh - (RowKit.intOf iv).toNat)
  case atStart => exact ⟨0, Nat.zero_le _, rfl, hid ⟨_, _, _, HS.out, Nat.zero_le _⟩⟩
  case round =>
    clear HS
    obtain ⟨k, hk, rfl, HQ0⟩ := hrel
    obtain ⟨A1, n, c1, hQ, hn⟩ := HQ0.out
    have HQ := hid hQ
    have r00 := row_cell hQ.ap.r2 0
    clear hQ HQ0
    by_cases hlt : k < nh
    · have hlt0 : (k : Int) < (nh : Int) := by omega
      have hkQ : k < Q.length := by have := HN.out.1; omega
      obtain ⟨b, off, hA, hbl, hcs⟩ := (HX.out.1.below HQ.out.ap.bel).row.at_ k hkQ
      obtain ⟨q, hq⟩ : ∃ q, q = Q[k] := ⟨_, rfl⟩
      have hr := hcs k hkQ
      rw [← hq] at hr
      have hth : Q.take (k + 1) = Q.take k ++ [q] := by rw [hq]; exact List.take_succ_eq_append_getElem hkQ
      have HT := hid hth
      obtain ⟨y, ay⟩ := q
      have l0 : (ldX 59 (.pointer (some ⟨b, off + k * 10, none⟩))).run Try.prog wr = .ok (.agg #[.int .i64 y.g, .int .i64 y.t, .int .i64 y.v, .int .i64 y.p.log.base, .int .i64 y.p.log.term, .slice ay.e y.p.log.es.length ay.ce, .slice ay.o y.p.cf.old.length ay.co, .slice ay.n y.p.cf.new.length ay.cn, .slice ay.l y.p.cf.lrn.length ay.cl, .slice ay.s y.p.sn.length ay.cs]) wr := ldH wr b (off + k * 10) (cellsH ⟨y, ay⟩) rfl hr
      have l0g : wr.cell? ⟨b, off + k * 10, none⟩ = some (.int .i64 y.g) := hr 0 _ rfl
      have k0 : wr.cell? ⟨w.heap.size + 1, 0, none⟩ = some (.int .i64 c.k) := row_cell HQ.out.ap.r3 0
      have k1 : wr.cell? ⟨w.heap.size + 1, 1, none⟩ = some (.int .i64 c.g) := row_cell HQ.out.ap.r3 1
      have HR := hid hr
      have HBL := hid hbl
      have HA := hid hA
      rw [hA] at r00
      clear hcs hr hth hq hA hbl hkQ hlt l0
      by_cases h4 : c.k = 4
      · have HK : Hid (keepH c ⟨y, ay⟩ = true) := hid (by simp [keepH, h4])
        rw [h4] at k0
        clear h4
        go_wp2_with fail
        go_quiet (fail)
        obtain ⟨u, hu⟩ : ∃ u, u = wr.drewN nq := ⟨_, rfl⟩
        have HU : Hid (WoH w u (.slice i.h nh i.ch) (.slice i.v nv i.cv) c ac A1 n c1 ((Q.take k).filter (keepH c))) := hid (by rw [hu]; exact HQ.out.grow (below_drewN (Below.refl wr.heap.size wr) nq))
        have SF : Hid (∀ W, Turned (fun k => w.heap.size + 1 + 1 + 1 ≤ k) u W → W.cell? ⟨w.heap.size, 0, none⟩ = some (.slice (some ⟨b, off, none⟩) nh i.ch) ∧ (ldX 59 (.pointer (some ⟨b, off + k * 10, none⟩))).run Try.prog W = .ok (.agg #[.int .i64 y.g, .int .i64 y.t, .int .i64 y.v, .int .i64 y.p.log.base, .int .i64 y.p.log.term, .slice ay.e y.p.log.es.length ay.ce, .slice ay.o y.p.cf.old.length ay.co, .slice ay.n y.p.cf.new.length ay.cn, .slice ay.l y.p.cf.lrn.length ay.cl, .slice ay.s y.p.sn.length ay.cs]) W) := hid (fun W hT => ⟨by rw [← HA.out]; exact row_cell ((hT.block _ (row_lt HU.out.ap.r2) (by omega)).trans HU.out.ap.r2) 0, ldH W b (off + k * 10) (cellsH ⟨y, ay⟩) rfl (fun jj vv hv => (hT.cell (p := ⟨b, off + k * 10 + jj, none⟩) (by show b < _; have := HBL.out; have := HU.out.ap.bel.size; omega) (by show ¬ _ ≤ b; have := HBL.out; omega)).trans (by rw [hu]; exact HR.out jj vv hv))⟩)
        have SG : Hid (∀ W, Turned (fun k => w.heap.size + 4 ≤ k) u W → W.heap[w.heap.size + 1 + 1 + 1]? = some (.cells #[.slice A1 n c1, .slice none 0 0] 25 (0, 0))) := hid (fun W hT => (hT.block _ (row_lt HU.out.r5) (by omega)).trans HU.out.r5)
        have T5 := hid (((Turned.refl (fun k => w.heap.size + 4 ≤ k) u).alloc (.cells #[.int .i64 y.g, .int .i64 y.t, .int .i64 y.v, .int .i64 y.p.log.base, .int .i64 y.p.log.term, .slice ay.e y.p.log.es.length ay.ce, .slice ay.o y.p.cf.old.length ay.co, .slice ay.n y.p.cf.new.length ay.cn, .slice ay.l y.p.cf.lrn.length ay.cl, .slice ay.s y.p.sn.length ay.cs] 59)).drew)
        have s0 := SF.out u (Turned.refl _ _)
        have s1 := SF.out u.drew (Turned.refl _ _).drew
        have s5 := SF.out _ (T5.out.mono (fun k (hk : w.heap.size + 4 ≤ k) => show w.heap.size + 1 + 1 + 1 ≤ k by omega))
        have f1 := row_cell (SG.out u.drew (Turned.refl _ _).drew) 0
        have f5 := row_cell (SG.out _ T5.out) 0
        have HB5 := hid (show Below u.heap.size u ((u.alloc (.cells #[.int .i64 y.g, .int .i64 y.t, .int .i64 y.v, .int .i64 y.p.log.base, .int .i64 y.p.log.term, .slice ay.e y.p.log.es.length ay.ce, .slice ay.o y.p.cf.old.length ay.co, .slice ay.n y.p.cf.new.length ay.cn, .slice ay.l y.p.cf.lrn.length ay.cl, .slice ay.s y.p.sn.length ay.cs] 59)).drew) from ((Below.refl _ u).alloc (Nat.le_refl _) _).drew)
        rw [← hu]
        clear hu HQ l0g k0 k1
        go_wp2_with fail
        have hopL : opL29 = Op.load 22 (.tmp 29) := rfl
        rw [← hopL]
        go_region_held3 (fun W => W.cell? ⟨w.heap.size, 0, none⟩ = some (.slice (some ⟨b, off, none⟩) nh i.ch) ∧ (ldX 59 (.pointer (some ⟨b, off + k * 10, none⟩))).run Try.prog W = .ok (.agg #[.int .i64 y.g, .int .i64 y.t, .int .i64 y.v, .int .i64 y.p.log.base, .int .i64 y.p.log.term, .slice ay.e y.p.log.es.length ay.ce, .slice ay.o y.p.cf.old.length ay.co, .slice ay.n y.p.cf.new.length ay.cn, .slice ay.l y.p.cf.lrn.length ay.cl, .slice ay.s y.p.sn.length ay.cs]) W)
          (first | with_reducible exact s7 _ | with_reducible exact s6 | with_reducible exact s5 | with_reducible exact s1 | with_reducible exact s0 | fail)
          (first
            | (refine step_append_row (by rfl) _ _ 22 (by rfl) iH _ Try.underlying22 hiH zH0 zH1 zH2 (by rfl) (by decide) (HU.out.hs.below HB5.out) n HU.out.ln rfl ⟨y, ay⟩ ⟨u.heap.size, 0, none⟩ 1 (by rfl) (fun jj hj => by rw [add_off, Nat.zero_add]; exact (row_cell (w := (u.alloc (.cells #[.int .i64 y.g, .int .i64 y.t, .int .i64 y.v, .int .i64 y.p.log.base, .int .i64 y.p.log.term, .slice ay.e y.p.log.es.length ay.ce, .slice ay.o y.p.cf.old.length ay.co, .slice ay.n y.p.cf.new.length ay.cn, .slice ay.l y.p.cf.lrn.length ay.cl, .slice ay.s y.p.sn.length ay.cs] 59)).drew) (show ((u.alloc (.cells #[.int .i64 y.g, .int .i64 y.t, .int .i64 y.v, .int .i64 y.p.log.base, .int .i64 y.p.log.term, .slice ay.e y.p.log.es.length ay.ce, .slice ay.o y.p.cf.old.length ay.co, .slice ay.n y.p.cf.new.length ay.cn, .slice ay.l y.p.cf.lrn.length ay.cl, .slice ay.s y.p.sn.length ay.cs] 59)).drew).heap[u.heap.size]? = _ from heap_alloc_new u (.cells #[.int .i64 y.g, .int .i64 y.t, .int .i64 y.v, .int .i64 y.p.log.base, .int .i64 y.p.log.term, .slice ay.e y.p.log.es.length ay.ce, .slice ay.o y.p.cf.old.length ay.co, .slice ay.n y.p.cf.new.length ay.cn, .slice ay.l y.p.cf.lrn.length ay.cl, .slice ay.s y.p.sn.length ay.cs] 59)) jj).trans (by simp [cellsH])) (cellsH_one _) (by omega) (by omega) ?_; intro A6 c6 w6 hrow6 hg6 hbl6; have T6 : Turned (fun k => w.heap.size + 4 ≤ k) u w6 := T5.out.trans (Turned.ofGrown hg6 (fun k hk => (HU.out.hs.blk k hk).1)); have HR6 := hid (And.intro hrow6 (And.intro hg6 T6)); have s6 := SF.out w6 (T6.mono (fun k (hk : w.heap.size + 4 ≤ k) => show w.heap.size + 1 + 1 + 1 ≤ k by omega)); have f6 := row_cell (SG.out w6 T6) 0; have z6 := row_free (SG.out w6 T6) 0; have s7 := fun (v : Value) => SF.out (w6.setCell ⟨w.heap.size + 1 + 1 + 1, 0, none⟩ v) ((T6.mono (fun k (hk : w.heap.size + 4 ≤ k) => show w.heap.size + 1 + 1 + 1 ≤ k by omega)).setCell (w.heap.size + 1 + 1 + 1) 0 v (fun _ => Nat.le_refl _)); clear hrow6 hg6 hbl6 T6)
            | fail)
        all_goals
          (obtain ⟨hrow6, hg6, T6⟩ := HR6.out
           obtain ⟨u7, hu7⟩ : ∃ u7, u7 = w6.setCell ⟨w.heap.size + 1 + 1 + 1, 0, none⟩ (.slice A6 (n + 1) c6) := ⟨_, rfl⟩
           have HP := (HU.out.put HB5.out hrow6 hg6).2
           rw [← hu7] at HP ⊢
           have HF : Hid (∃ A1 n c1, WoH w u7 (.slice i.h nh i.ch) (.slice i.v nv i.cv) c ac A1 n c1 ((Q.take (k + 1)).filter (keepH c)) ∧ n ≤ k + 1) := hid ⟨A6, n + 1, c6, by rw [HT.out, List.filter_append, List.filter_cons_of_pos HK.out, List.filter_nil]; exact HP, by omega⟩
           clear HP SF SG HU T5 HB5 HR6 s6 f6 z6 s7 hrow6 hg6 T6 s0 s1 s5 f1 f5 r00 HT HK HBL HR HA hu7
           go_wp2_with fail
           go_roundw)
        all_goals first | exact ⟨k + 1, by omega, by go_num, HF⟩ | (simp [RowKit.intOf]; omega)
      · have hkb : (c.k == 4) = false := by simpa using h4
        by_cases hgg : y.g = c.g
        · have HK : Hid (keepH c ⟨y, ay⟩ = false) := hid (by simp [keepH, h4, hgg])
          have hgb : (y.g != c.g) = false := by simpa using hgg
          clear h4 hgg
          go_wp2_with fail
          go_quiet (fail)
          have HF : Hid (∃ A1 n c1, WoH w (wr.drewN nq) (.slice i.h nh i.ch) (.slice i.v nv i.cv) c ac A1 n c1 ((Q.take (k + 1)).filter (keepH c)) ∧ n ≤ k + 1) := hid ⟨A1, n, c1, by rw [HT.out, List.filter_append, List.filter_cons_of_neg (by rw [HK.out]; decide), List.filter_nil, List.append_nil]; exact HQ.out.grow (below_drewN (Below.refl wr.heap.size wr) nq), by omega⟩
          go_wp2_with fail
          go_roundw
          case rel => exact ⟨k + 1, by omega, by go_num, HF⟩
          case measure => simp [RowKit.intOf]; omega
        · have HK : Hid (keepH c ⟨y, ay⟩ = true) := hid (by simp [keepH, h4, hgg])
          have hgb : (y.g != c.g) = true := by simpa using hgg
          clear h4 hgg
          go_wp2_with fail
          go_quiet (fail)
          obtain ⟨u, hu⟩ : ∃ u, u = wr.drewN nq := ⟨_, rfl⟩
          have HU : Hid (WoH w u (.slice i.h nh i.ch) (.slice i.v nv i.cv) c ac A1 n c1 ((Q.take k).filter (keepH c))) := hid (by rw [hu]; exact HQ.out.grow (below_drewN (Below.refl wr.heap.size wr) nq))
          have SF : Hid (∀ W, Turned (fun k => w.heap.size + 1 + 1 + 1 ≤ k) u W → W.cell? ⟨w.heap.size, 0, none⟩ = some (.slice (some ⟨b, off, none⟩) nh i.ch) ∧ (ldX 59 (.pointer (some ⟨b, off + k * 10, none⟩))).run Try.prog W = .ok (.agg #[.int .i64 y.g, .int .i64 y.t, .int .i64 y.v, .int .i64 y.p.log.base, .int .i64 y.p.log.term, .slice ay.e y.p.log.es.length ay.ce, .slice ay.o y.p.cf.old.length ay.co, .slice ay.n y.p.cf.new.length ay.cn, .slice ay.l y.p.cf.lrn.length ay.cl, .slice ay.s y.p.sn.length ay.cs]) W) := hid (fun W hT => ⟨by rw [← HA.out]; exact row_cell ((hT.block _ (row_lt HU.out.ap.r2) (by omega)).trans HU.out.ap.r2) 0, ldH W b (off + k * 10) (cellsH ⟨y, ay⟩) rfl (fun jj vv hv => (hT.cell (p := ⟨b, off + k * 10 + jj, none⟩) (by show b < _; have := HBL.out; have := HU.out.ap.bel.size; omega) (by show ¬ _ ≤ b; have := HBL.out; omega)).trans (by rw [hu]; exact HR.out jj vv hv))⟩)
          have SG : Hid (∀ W, Turned (fun k => w.heap.size + 4 ≤ k) u W → W.heap[w.heap.size + 1 + 1 + 1]? = some (.cells #[.slice A1 n c1, .slice none 0 0] 25 (0, 0))) := hid (fun W hT => (hT.block _ (row_lt HU.out.r5) (by omega)).trans HU.out.r5)
          have T5 := hid (((Turned.refl (fun k => w.heap.size + 4 ≤ k) u).alloc (.cells #[.int .i64 y.g, .int .i64 y.t, .int .i64 y.v, .int .i64 y.p.log.base, .int .i64 y.p.log.term, .slice ay.e y.p.log.es.length ay.ce, .slice ay.o y.p.cf.old.length ay.co, .slice ay.n y.p.cf.new.length ay.cn, .slice ay.l y.p.cf.lrn.length ay.cl, .slice ay.s y.p.sn.length ay.cs] 59)).drew)
          have s0 := SF.out u (Turned.refl _ _)
          have s1 := SF.out u.drew (Turned.refl _ _).drew
          have s5 := SF.out _ (T5.out.mono (fun k (hk : w.heap.size + 4 ≤ k) => show w.heap.size + 1 + 1 + 1 ≤ k by omega))
          have f1 := row_cell (SG.out u.drew (Turned.refl _ _).drew) 0
          have f5 := row_cell (SG.out _ T5.out) 0
          have HB5 := hid (show Below u.heap.size u ((u.alloc (.cells #[.int .i64 y.g, .int .i64 y.t, .int .i64 y.v, .int .i64 y.p.log.base, .int .i64 y.p.log.term, .slice ay.e y.p.log.es.length ay.ce, .slice ay.o y.p.cf.old.length ay.co, .slice ay.n y.p.cf.new.length ay.cn, .slice ay.l y.p.cf.lrn.length ay.cl, .slice ay.s y.p.sn.length ay.cs] 59)).drew) from ((Below.refl _ u).alloc (Nat.le_refl _) _).drew)
          rw [← hu]
          clear hu HQ l0g k0 k1
          go_wp2_with fail
          have hopL : opL29 = Op.load 22 (.tmp 29) := rfl
          rw [← hopL]
          go_region_held3 (fun W => W.cell? ⟨w.heap.size, 0, none⟩ = some (.slice (some ⟨b, off, none⟩) nh i.ch) ∧ (ldX 59 (.pointer (some ⟨b, off + k * 10, none⟩))).run Try.prog W = .ok (.agg #[.int .i64 y.g, .int .i64 y.t, .int .i64 y.v, .int .i64 y.p.log.base, .int .i64 y.p.log.term, .slice ay.e y.p.log.es.length ay.ce, .slice ay.o y.p.cf.old.length ay.co, .slice ay.n y.p.cf.new.length ay.cn, .slice ay.l y.p.cf.lrn.length ay.cl, .slice ay.s y.p.sn.length ay.cs]) W)
            (first | with_reducible exact s7 _ | with_reducible exact s6 | with_reducible exact s5 | with_reducible exact s1 | with_reducible exact s0 | fail)
            (first
              | (refine step_append_row (by rfl) _ _ 22 (by rfl) iH _ Try.underlying22 hiH zH0 zH1 zH2 (by rfl) (by decide) (HU.out.hs.below HB5.out) n HU.out.ln rfl ⟨y, ay⟩ ⟨u.heap.size, 0, none⟩ 1 (by rfl) (fun jj hj => by rw [add_off, Nat.zero_add]; exact (row_cell (w := (u.alloc (.cells #[.int .i64 y.g, .int .i64 y.t, .int .i64 y.v, .int .i64 y.p.log.base, .int .i64 y.p.log.term, .slice ay.e y.p.log.es.length ay.ce, .slice ay.o y.p.cf.old.length ay.co, .slice ay.n y.p.cf.new.length ay.cn, .slice ay.l y.p.cf.lrn.length ay.cl, .slice ay.s y.p.sn.length ay.cs] 59)).drew) (show ((u.alloc (.cells #[.int .i64 y.g, .int .i64 y.t, .int .i64 y.v, .int .i64 y.p.log.base, .int .i64 y.p.log.term, .slice ay.e y.p.log.es.length ay.ce, .slice ay.o y.p.cf.old.length ay.co, .slice ay.n y.p.cf.new.length ay.cn, .slice ay.l y.p.cf.lrn.length ay.cl, .slice ay.s y.p.sn.length ay.cs] 59)).drew).heap[u.heap.size]? = _ from heap_alloc_new u (.cells #[.int .i64 y.g, .int .i64 y.t, .int .i64 y.v, .int .i64 y.p.log.base, .int .i64 y.p.log.term, .slice ay.e y.p.log.es.length ay.ce, .slice ay.o y.p.cf.old.length ay.co, .slice ay.n y.p.cf.new.length ay.cn, .slice ay.l y.p.cf.lrn.length ay.cl, .slice ay.s y.p.sn.length ay.cs] 59)) jj).trans (by simp [cellsH])) (cellsH_one _) (by omega) (by omega) ?_; intro A6 c6 w6 hrow6 hg6 hbl6; have T6 : Turned (fun k => w.heap.size + 4 ≤ k) u w6 := T5.out.trans (Turned.ofGrown hg6 (fun k hk => (HU.out.hs.blk k hk).1)); have HR6 := hid (And.intro hrow6 (And.intro hg6 T6)); have s6 := SF.out w6 (T6.mono (fun k (hk : w.heap.size + 4 ≤ k) => show w.heap.size + 1 + 1 + 1 ≤ k by omega)); have f6 := row_cell (SG.out w6 T6) 0; have z6 := row_free (SG.out w6 T6) 0; have s7 := fun (v : Value) => SF.out (w6.setCell ⟨w.heap.size + 1 + 1 + 1, 0, none⟩ v) ((T6.mono (fun k (hk : w.heap.size + 4 ≤ k) => show w.heap.size + 1 + 1 + 1 ≤ k by omega)).setCell (w.heap.size + 1 + 1 + 1) 0 v (fun _ => Nat.le_refl _)); clear hrow6 hg6 hbl6 T6)
              | fail)
          all_goals
            (obtain ⟨hrow6, hg6, T6⟩ := HR6.out
             obtain ⟨u7, hu7⟩ : ∃ u7, u7 = w6.setCell ⟨w.heap.size + 1 + 1 + 1, 0, none⟩ (.slice A6 (n + 1) c6) := ⟨_, rfl⟩
             have HP := (HU.out.put HB5.out hrow6 hg6).2
             rw [← hu7] at HP ⊢
             have HF : Hid (∃ A1 n c1, WoH w u7 (.slice i.h nh i.ch) (.slice i.v nv i.cv) c ac A1 n c1 ((Q.take (k + 1)).filter (keepH c)) ∧ n ≤ k + 1) := hid ⟨A6, n + 1, c6, by rw [HT.out, List.filter_append, List.filter_cons_of_pos HK.out, List.filter_nil]; exact HP, by omega⟩
             clear HP SF SG HU T5 HB5 HR6 s6 f6 z6 s7 hrow6 hg6 T6 s0 s1 s5 f1 f5 r00 HT HK HBL HR HA hu7
             go_wp2_with fail
             go_roundw)
          all_goals first | exact ⟨k + 1, by omega, by go_num, HF⟩ | (simp [RowKit.intOf]; omega)
    · obtain rfl : k = nh := by omega
      have hlt0 : ¬ (k : Int) < (k : Int) := by omega
      have HV0 : Hid (∃ N, WoV w wr (.slice i.h k i.ch) (.slice i.v nv i.cv) c ac A1 n c1 (Q.filter (keepH c)) N none 0 0 []) := hid ⟨_, by have := HQ.out.toV; rw [HN.out.1, List.take_length] at this; rw [HN.out.1]; exact this⟩
      have HLN : Hid (n = (Q.filter (keepH c)).length) := hid (by have := HQ.out.ln; rw [HN.out.1, List.take_length] at this; exact this.symm)
      obtain ⟨N, hV⟩ := HV0.out
      have HV := hid hV
      clear hV HV0 HQ hlt hn
      go_wp2_with fail
      clear r00 hlt0
      go_loopw [7] (fun iv wr => ∃ j : Nat, j ≤ nv ∧ iv = .int .i64 (j : Int) ∧ Hid (∃ A2 m c2, WoV w wr (.slice i.h k i.ch) (.slice i.v nv i.cv) c ac A1 n c1 (Q.filter (keepH c)) N A2 m c2 ((L.take j).filter (keepV c)) ∧ m ≤ j)) (fun iv _ => nv - (RowKit.intOf iv).toNat)
      case atStart => exact ⟨0, Nat.zero_le _, rfl, hid ⟨_, _, _, HV.out, Nat.zero_le _⟩⟩
      case round =>
        clear HV
        obtain ⟨j, hj, rfl, HQ0⟩ := hrel
        obtain ⟨A2, m, c2, hQ, hn⟩ := HQ0.out
        have HQ := hid hQ
        have r00 := row_cell hQ.ap.r2 1
        clear hQ HQ0
        by_cases hlt : j < nv
        · have hlt0 : (j : Int) < (nv : Int) := by omega
          have hkQ : j < L.length := by have := HN.out.2; omega
          obtain ⟨b, off, hA, hbl, hcs⟩ := (HX.out.2.below HQ.out.ap.bel).row.at_ j hkQ
          obtain ⟨v, hq⟩ : ∃ v, v = L[j] := ⟨_, rfl⟩
          have hr := hcs j hkQ
          rw [← hq] at hr
          have hth : L.take (j + 1) = L.take j ++ [v] := by rw [hq]; exact List.take_succ_eq_append_getElem hkQ
          have HT := hid hth
          have l0 : (ldX 34 (.pointer (some ⟨b, off + j * 5, none⟩))).run Try.prog wr = .ok (.agg #[.int .i64 v.x, .int .i64 v.p, .int .i64 v.r, .int .i64 v.b, .int .i64 v.v]) wr := ldV wr b (off + j * 5) (cellsV v) rfl hr
          have l0x : wr.cell? ⟨b, off + j * 5, none⟩ = some (.int .i64 v.x) := hr 0 _ rfl
          have l0p : wr.cell? ⟨b, off + j * 5 + 1, none⟩ = some (.int .i64 v.p) := hr 1 _ rfl
          have k0 : wr.cell? ⟨w.heap.size + 1, 0, none⟩ = some (.int .i64 c.k) := row_cell HQ.out.ap.r3 0
          have kx : wr.cell? ⟨w.heap.size + 1, 12, none⟩ = some (.int .i64 c.a.x) := row_cell HQ.out.ap.r3 12
          have kp : wr.cell? ⟨w.heap.size + 1, 13, none⟩ = some (.int .i64 c.a.p) := row_cell HQ.out.ap.r3 13
          rw [hA] at r00
          have HR := hid hr
          have HBL := hid hbl
          have HA := hid hA
          clear hcs hr hth hq hA hbl hkQ hlt l0
          by_cases h4 : c.k = 4
          · rw [h4] at k0
            by_cases hx : v.x = c.a.x
            · have hxb : (v.x != c.a.x) = false := by simpa using hx
              by_cases hp : v.p = c.a.p
              · have hpb : (v.p != c.a.p) = false := by simpa using hp
                have HK : Hid (keepV c v = false) := hid (by simp [keepV, h4, hx, hp])
                clear h4 hx hp
                go_wp2_with fail
                go_quiet (fail)
                have HF : Hid (∃ A2 m c2, WoV w (wr.drewN nq) (.slice i.h k i.ch) (.slice i.v nv i.cv) c ac A1 n c1 (Q.filter (keepH c)) N A2 m c2 ((L.take (j + 1)).filter (keepV c)) ∧ m ≤ j + 1) := hid ⟨A2, m, c2, by rw [HT.out, List.filter_append, List.filter_cons_of_neg (by rw [HK.out]; decide), List.filter_nil, List.append_nil]; exact HQ.out.grow (below_drewN (Below.refl wr.heap.size wr) nq), by omega⟩
                go_wp2_with fail
                go_roundw
                case rel => exact ⟨j + 1, by omega, by go_num, HF⟩
                case measure => simp [RowKit.intOf]; omega
              · have hpb : (v.p != c.a.p) = true := by simpa using hp
                have HK : Hid (keepV c v = true) := hid (by simp [keepV, h4, hx, hp])
                clear h4 hx hp
                go_wp2_with fail
                go_quiet (fail)
                obtain ⟨u, hu⟩ : ∃ u, u = wr.drewN nq := ⟨_, rfl⟩
                have HU : Hid (WoV w u (.slice i.h k i.ch) (.slice i.v nv i.cv) c ac A1 n c1 (Q.filter (keepH c)) N A2 m c2 ((L.take j).filter (keepV c))) := hid (by rw [hu]; exact HQ.out.grow (below_drewN (Below.refl wr.heap.size wr) nq))
                have SF : Hid (∀ W, Turned (fun k => w.heap.size + 1 + 1 + 1 ≤ k) u W → W.cell? ⟨w.heap.size, 1, none⟩ = some (.slice (some ⟨b, off, none⟩) nv i.cv) ∧ (ldX 34 (.pointer (some ⟨b, off + j * 5, none⟩))).run Try.prog W = .ok (.agg #[.int .i64 v.x, .int .i64 v.p, .int .i64 v.r, .int .i64 v.b, .int .i64 v.v]) W) := hid (fun W hT => ⟨by rw [← HA.out]; exact row_cell ((hT.block _ (row_lt HU.out.ap.r2) (by omega)).trans HU.out.ap.r2) 1, ldV W b (off + j * 5) (cellsV v) rfl (fun jj vv hv => (hT.cell (p := ⟨b, off + j * 5 + jj, none⟩) (by show b < _; have := HBL.out; have := HU.out.ap.bel.size; omega) (by show ¬ _ ≤ b; have := HBL.out; omega)).trans (by rw [hu]; exact HR.out jj vv hv))⟩)
                have SG : Hid (∀ W, Turned (fun k => w.heap.size + 4 ≤ k) u W → W.heap[w.heap.size + 1 + 1 + 1]? = some (.cells #[.slice A1 n c1, .slice A2 m c2] 25 (0, 0))) := hid (fun W hT => (hT.block _ (row_lt HU.out.r5) (by omega)).trans HU.out.r5)
                have T5 := hid (((Turned.refl (fun k => w.heap.size + 4 ≤ k) u).alloc (.cells #[.int .i64 v.x, .int .i64 v.p, .int .i64 v.r, .int .i64 v.b, .int .i64 v.v] 34)).drew)
                have s0 := SF.out u (Turned.refl _ _)
                have s1 := SF.out u.drew (Turned.refl _ _).drew
                have s5 := SF.out _ (T5.out.mono (fun k (hk : w.heap.size + 4 ≤ k) => show w.heap.size + 1 + 1 + 1 ≤ k by omega))
                have f1 := row_cell (SG.out u.drew (Turned.refl _ _).drew) 1
                have f5 := row_cell (SG.out _ T5.out) 1
                have HB5 := hid (show Below u.heap.size u ((u.alloc (.cells #[.int .i64 v.x, .int .i64 v.p, .int .i64 v.r, .int .i64 v.b, .int .i64 v.v] 34)).drew) from ((Below.refl _ u).alloc (Nat.le_refl _) _).drew)
                rw [← hu]
                clear hu HQ l0x l0p k0 kx kp
                go_wp2_with fail
                have hopL : opL73 = Op.load 23 (.tmp 73) := rfl
                rw [← hopL]
                go_region_held3 (fun W => W.cell? ⟨w.heap.size, 1, none⟩ = some (.slice (some ⟨b, off, none⟩) nv i.cv) ∧ (ldX 34 (.pointer (some ⟨b, off + j * 5, none⟩))).run Try.prog W = .ok (.agg #[.int .i64 v.x, .int .i64 v.p, .int .i64 v.r, .int .i64 v.b, .int .i64 v.v]) W)
                  (first | with_reducible exact s7 _ | with_reducible exact s6 | with_reducible exact s5 | with_reducible exact s1 | with_reducible exact s0 | fail)
                  (first
                    | (refine step_append_row (by rfl) _ _ 23 (by rfl) iV _ Try.underlying23 hiV zV0 zV1 zV2 (by rfl) (by decide) (HU.out.vs.below HB5.out) m HU.out.lm rfl v ⟨u.heap.size, 0, none⟩ 1 (by rfl) (fun jj hj => by rw [add_off, Nat.zero_add]; exact (row_cell (w := (u.alloc (.cells #[.int .i64 v.x, .int .i64 v.p, .int .i64 v.r, .int .i64 v.b, .int .i64 v.v] 34)).drew) (show ((u.alloc (.cells #[.int .i64 v.x, .int .i64 v.p, .int .i64 v.r, .int .i64 v.b, .int .i64 v.v] 34)).drew).heap[u.heap.size]? = _ from heap_alloc_new u (.cells #[.int .i64 v.x, .int .i64 v.p, .int .i64 v.r, .int .i64 v.b, .int .i64 v.v] 34)) jj).trans (by simp [cellsV])) (cellsV_one _) (by omega) (by omega) ?_; intro A6 c6 w6 hrow6 hg6 hbl6; have T6 : Turned (fun k => w.heap.size + 4 ≤ k) u w6 := T5.out.trans (Turned.ofGrown hg6 (fun k hk => Nat.le_trans HU.out.low.1 (HU.out.vs.blk k hk).1)); have HR6 := hid (And.intro hrow6 (And.intro hg6 T6)); have s6 := SF.out w6 (T6.mono (fun k (hk : w.heap.size + 4 ≤ k) => show w.heap.size + 1 + 1 + 1 ≤ k by omega)); have f6 := row_cell (SG.out w6 T6) 1; have z6 := row_free (SG.out w6 T6) 1; have s7 := fun (v : Value) => SF.out (w6.setCell ⟨w.heap.size + 1 + 1 + 1, 1, none⟩ v) ((T6.mono (fun k (hk : w.heap.size + 4 ≤ k) => show w.heap.size + 1 + 1 + 1 ≤ k by omega)).setCell (w.heap.size + 1 + 1 + 1) 1 v (fun _ => Nat.le_refl _)); clear hrow6 hg6 hbl6 T6)
                    | fail)
                all_goals
                  (obtain ⟨hrow6, hg6, T6⟩ := HR6.out
                   obtain ⟨u7, hu7⟩ : ∃ u7, u7 = w6.setCell ⟨w.heap.size + 1 + 1 + 1, 1, none⟩ (.slice A6 (m + 1) c6) := ⟨_, rfl⟩
                   have HP := (HU.out.put HB5.out hrow6 hg6).2
                   rw [← hu7] at HP ⊢
                   have HF : Hid (∃ A2 m c2, WoV w u7 (.slice i.h k i.ch) (.slice i.v nv i.cv) c ac A1 n c1 (Q.filter (keepH c)) N A2 m c2 ((L.take (j + 1)).filter (keepV c)) ∧ m ≤ j + 1) := hid ⟨A6, m + 1, c6, by rw [HT.out, List.filter_append, List.filter_cons_of_pos HK.out, List.filter_nil]; exact HP, by omega⟩
                   clear HP SF SG HU T5 HB5 HR6 s6 f6 z6 s7 hrow6 hg6 T6 s0 s1 s5 f1 f5 r00 HT HK HBL HR HA hu7
                   go_wp2_with fail
                   go_roundw)
                all_goals first | exact ⟨j + 1, by omega, by go_num, HF⟩ | (simp [RowKit.intOf]; omega)
            · have hxb : (v.x != c.a.x) = true := by simpa using hx
              have HK : Hid (keepV c v = true) := hid (by simp [keepV, h4, hx])
              clear h4 hx
              go_wp2_with fail
              go_quiet (fail)
              obtain ⟨u, hu⟩ : ∃ u, u = wr.drewN nq := ⟨_, rfl⟩
              have HU : Hid (WoV w u (.slice i.h k i.ch) (.slice i.v nv i.cv) c ac A1 n c1 (Q.filter (keepH c)) N A2 m c2 ((L.take j).filter (keepV c))) := hid (by rw [hu]; exact HQ.out.grow (below_drewN (Below.refl wr.heap.size wr) nq))
              have SF : Hid (∀ W, Turned (fun k => w.heap.size + 1 + 1 + 1 ≤ k) u W → W.cell? ⟨w.heap.size, 1, none⟩ = some (.slice (some ⟨b, off, none⟩) nv i.cv) ∧ (ldX 34 (.pointer (some ⟨b, off + j * 5, none⟩))).run Try.prog W = .ok (.agg #[.int .i64 v.x, .int .i64 v.p, .int .i64 v.r, .int .i64 v.b, .int .i64 v.v]) W) := hid (fun W hT => ⟨by rw [← HA.out]; exact row_cell ((hT.block _ (row_lt HU.out.ap.r2) (by omega)).trans HU.out.ap.r2) 1, ldV W b (off + j * 5) (cellsV v) rfl (fun jj vv hv => (hT.cell (p := ⟨b, off + j * 5 + jj, none⟩) (by show b < _; have := HBL.out; have := HU.out.ap.bel.size; omega) (by show ¬ _ ≤ b; have := HBL.out; omega)).trans (by rw [hu]; exact HR.out jj vv hv))⟩)
              have SG : Hid (∀ W, Turned (fun k => w.heap.size + 4 ≤ k) u W → W.heap[w.heap.size + 1 + 1 + 1]? = some (.cells #[.slice A1 n c1, .slice A2 m c2] 25 (0, 0))) := hid (fun W hT => (hT.block _ (row_lt HU.out.r5) (by omega)).trans HU.out.r5)
              have T5 := hid (((Turned.refl (fun k => w.heap.size + 4 ≤ k) u).alloc (.cells #[.int .i64 v.x, .int .i64 v.p, .int .i64 v.r, .int .i64 v.b, .int .i64 v.v] 34)).drew)
              have s0 := SF.out u (Turned.refl _ _)
              have s1 := SF.out u.drew (Turned.refl _ _).drew
              have s5 := SF.out _ (T5.out.mono (fun k (hk : w.heap.size + 4 ≤ k) => show w.heap.size + 1 + 1 + 1 ≤ k by omega))
              have f1 := row_cell (SG.out u.drew (Turned.refl _ _).drew) 1
              have f5 := row_cell (SG.out _ T5.out) 1
              have HB5 := hid (show Below u.heap.size u ((u.alloc (.cells #[.int .i64 v.x, .int .i64 v.p, .int .i64 v.r, .int .i64 v.b, .int .i64 v.v] 34)).drew) from ((Below.refl _ u).alloc (Nat.le_refl _) _).drew)
              rw [← hu]
              clear hu HQ l0x l0p k0 kx kp
              go_wp2_with fail
              have hopL : opL73 = Op.load 23 (.tmp 73) := rfl
              rw [← hopL]
              go_region_held3 (fun W => W.cell? ⟨w.heap.size, 1, none⟩ = some (.slice (some ⟨b, off, none⟩) nv i.cv) ∧ (ldX 34 (.pointer (some ⟨b, off + j * 5, none⟩))).run Try.prog W = .ok (.agg #[.int .i64 v.x, .int .i64 v.p, .int .i64 v.r, .int .i64 v.b, .int .i64 v.v]) W)
                (first | with_reducible exact s7 _ | with_reducible exact s6 | with_reducible exact s5 | with_reducible exact s1 | with_reducible exact s0 | fail)
                (first
                  | (refine step_append_row (by rfl) _ _ 23 (by rfl) iV _ Try.underlying23 hiV zV0 zV1 zV2 (by rfl) (by decide) (HU.out.vs.below HB5.out) m HU.out.lm rfl v ⟨u.heap.size, 0, none⟩ 1 (by rfl) (fun jj hj => by rw [add_off, Nat.zero_add]; exact (row_cell (w := (u.alloc (.cells #[.int .i64 v.x, .int .i64 v.p, .int .i64 v.r, .int .i64 v.b, .int .i64 v.v] 34)).drew) (show ((u.alloc (.cells #[.int .i64 v.x, .int .i64 v.p, .int .i64 v.r, .int .i64 v.b, .int .i64 v.v] 34)).drew).heap[u.heap.size]? = _ from heap_alloc_new u (.cells #[.int .i64 v.x, .int .i64 v.p, .int .i64 v.r, .int .i64 v.b, .int .i64 v.v] 34)) jj).trans (by simp [cellsV])) (cellsV_one _) (by omega) (by omega) ?_; intro A6 c6 w6 hrow6 hg6 hbl6; have T6 : Turned (fun k => w.heap.size + 4 ≤ k) u w6 := T5.out.trans (Turned.ofGrown hg6 (fun k hk => Nat.le_trans HU.out.low.1 (HU.out.vs.blk k hk).1)); have HR6 := hid (And.intro hrow6 (And.intro hg6 T6)); have s6 := SF.out w6 (T6.mono (fun k (hk : w.heap.size + 4 ≤ k) => show w.heap.size + 1 + 1 + 1 ≤ k by omega)); have f6 := row_cell (SG.out w6 T6) 1; have z6 := row_free (SG.out w6 T6) 1; have s7 := fun (v : Value) => SF.out (w6.setCell ⟨w.heap.size + 1 + 1 + 1, 1, none⟩ v) ((T6.mono (fun k (hk : w.heap.size + 4 ≤ k) => show w.heap.size + 1 + 1 + 1 ≤ k by omega)).setCell (w.heap.size + 1 + 1 + 1) 1 v (fun _ => Nat.le_refl _)); clear hrow6 hg6 hbl6 T6)
                  | fail)
              all_goals
                (obtain ⟨hrow6, hg6, T6⟩ := HR6.out
                 obtain ⟨u7, hu7⟩ : ∃ u7, u7 = w6.setCell ⟨w.heap.size + 1 + 1 + 1, 1, none⟩ (.slice A6 (m + 1) c6) := ⟨_, rfl⟩
                 have HP := (HU.out.put HB5.out hrow6 hg6).2
                 rw [← hu7] at HP ⊢
                 have HF : Hid (∃ A2 m c2, WoV w u7 (.slice i.h k i.ch) (.slice i.v nv i.cv) c ac A1 n c1 (Q.filter (keepH c)) N A2 m c2 ((L.take (j + 1)).filter (keepV c)) ∧ m ≤ j + 1) := hid ⟨A6, m + 1, c6, by rw [HT.out, List.filter_append, List.filter_cons_of_pos HK.out, List.filter_nil]; exact HP, by omega⟩
                 clear HP SF SG HU T5 HB5 HR6 s6 f6 z6 s7 hrow6 hg6 T6 s0 s1 s5 f1 f5 r00 HT HK HBL HR HA hu7
                 go_wp2_with fail
                 go_roundw)
              all_goals first | exact ⟨j + 1, by omega, by go_num, HF⟩ | (simp [RowKit.intOf]; omega)
          · have hkb : (c.k != 4) = true := by simpa using h4
            have HK : Hid (keepV c v = true) := hid (by simp [keepV, h4])
            clear h4
            go_wp2_with fail
            go_quiet (fail)
            obtain ⟨u, hu⟩ : ∃ u, u = wr.drewN nq := ⟨_, rfl⟩
            have HU : Hid (WoV w u (.slice i.h k i.ch) (.slice i.v nv i.cv) c ac A1 n c1 (Q.filter (keepH c)) N A2 m c2 ((L.take j).filter (keepV c))) := hid (by rw [hu]; exact HQ.out.grow (below_drewN (Below.refl wr.heap.size wr) nq))
            have SF : Hid (∀ W, Turned (fun k => w.heap.size + 1 + 1 + 1 ≤ k) u W → W.cell? ⟨w.heap.size, 1, none⟩ = some (.slice (some ⟨b, off, none⟩) nv i.cv) ∧ (ldX 34 (.pointer (some ⟨b, off + j * 5, none⟩))).run Try.prog W = .ok (.agg #[.int .i64 v.x, .int .i64 v.p, .int .i64 v.r, .int .i64 v.b, .int .i64 v.v]) W) := hid (fun W hT => ⟨by rw [← HA.out]; exact row_cell ((hT.block _ (row_lt HU.out.ap.r2) (by omega)).trans HU.out.ap.r2) 1, ldV W b (off + j * 5) (cellsV v) rfl (fun jj vv hv => (hT.cell (p := ⟨b, off + j * 5 + jj, none⟩) (by show b < _; have := HBL.out; have := HU.out.ap.bel.size; omega) (by show ¬ _ ≤ b; have := HBL.out; omega)).trans (by rw [hu]; exact HR.out jj vv hv))⟩)
            have SG : Hid (∀ W, Turned (fun k => w.heap.size + 4 ≤ k) u W → W.heap[w.heap.size + 1 + 1 + 1]? = some (.cells #[.slice A1 n c1, .slice A2 m c2] 25 (0, 0))) := hid (fun W hT => (hT.block _ (row_lt HU.out.r5) (by omega)).trans HU.out.r5)
            have T5 := hid (((Turned.refl (fun k => w.heap.size + 4 ≤ k) u).alloc (.cells #[.int .i64 v.x, .int .i64 v.p, .int .i64 v.r, .int .i64 v.b, .int .i64 v.v] 34)).drew)
            have s0 := SF.out u (Turned.refl _ _)
            have s1 := SF.out u.drew (Turned.refl _ _).drew
            have s5 := SF.out _ (T5.out.mono (fun k (hk : w.heap.size + 4 ≤ k) => show w.heap.size + 1 + 1 + 1 ≤ k by omega))
            have f1 := row_cell (SG.out u.drew (Turned.refl _ _).drew) 1
            have f5 := row_cell (SG.out _ T5.out) 1
            have HB5 := hid (show Below u.heap.size u ((u.alloc (.cells #[.int .i64 v.x, .int .i64 v.p, .int .i64 v.r, .int .i64 v.b, .int .i64 v.v] 34)).drew) from ((Below.refl _ u).alloc (Nat.le_refl _) _).drew)
            rw [← hu]
            clear hu HQ l0x l0p k0 kx kp
            go_wp2_with fail
            have hopL : opL73 = Op.load 23 (.tmp 73) := rfl
            rw [← hopL]
            go_region_held3 (fun W => W.cell? ⟨w.heap.size, 1, none⟩ = some (.slice (some ⟨b, off, none⟩) nv i.cv) ∧ (ldX 34 (.pointer (some ⟨b, off + j * 5, none⟩))).run Try.prog W = .ok (.agg #[.int .i64 v.x, .int .i64 v.p, .int .i64 v.r, .int .i64 v.b, .int .i64 v.v]) W)
              (first | with_reducible exact s7 _ | with_reducible exact s6 | with_reducible exact s5 | with_reducible exact s1 | with_reducible exact s0 | fail)
              (first
                | (refine step_append_row (by rfl) _ _ 23 (by rfl) iV _ Try.underlying23 hiV zV0 zV1 zV2 (by rfl) (by decide) (HU.out.vs.below HB5.out) m HU.out.lm rfl v ⟨u.heap.size, 0, none⟩ 1 (by rfl) (fun jj hj => by rw [add_off, Nat.zero_add]; exact (row_cell (w := (u.alloc (.cells #[.int .i64 v.x, .int .i64 v.p, .int .i64 v.r, .int .i64 v.b, .int .i64 v.v] 34)).drew) (show ((u.alloc (.cells #[.int .i64 v.x, .int .i64 v.p, .int .i64 v.r, .int .i64 v.b, .int .i64 v.v] 34)).drew).heap[u.heap.size]? = _ from heap_alloc_new u (.cells #[.int .i64 v.x, .int .i64 v.p, .int .i64 v.r, .int .i64 v.b, .int .i64 v.v] 34)) jj).trans (by simp [cellsV])) (cellsV_one _) (by omega) (by omega) ?_; intro A6 c6 w6 hrow6 hg6 hbl6; have T6 : Turned (fun k => w.heap.size + 4 ≤ k) u w6 := T5.out.trans (Turned.ofGrown hg6 (fun k hk => Nat.le_trans HU.out.low.1 (HU.out.vs.blk k hk).1)); have HR6 := hid (And.intro hrow6 (And.intro hg6 T6)); have s6 := SF.out w6 (T6.mono (fun k (hk : w.heap.size + 4 ≤ k) => show w.heap.size + 1 + 1 + 1 ≤ k by omega)); have f6 := row_cell (SG.out w6 T6) 1; have z6 := row_free (SG.out w6 T6) 1; have s7 := fun (v : Value) => SF.out (w6.setCell ⟨w.heap.size + 1 + 1 + 1, 1, none⟩ v) ((T6.mono (fun k (hk : w.heap.size + 4 ≤ k) => show w.heap.size + 1 + 1 + 1 ≤ k by omega)).setCell (w.heap.size + 1 + 1 + 1) 1 v (fun _ => Nat.le_refl _)); clear hrow6 hg6 hbl6 T6)
                | fail)
            all_goals
              (obtain ⟨hrow6, hg6, T6⟩ := HR6.out
               obtain ⟨u7, hu7⟩ : ∃ u7, u7 = w6.setCell ⟨w.heap.size + 1 + 1 + 1, 1, none⟩ (.slice A6 (m + 1) c6) := ⟨_, rfl⟩
               have HP := (HU.out.put HB5.out hrow6 hg6).2
               rw [← hu7] at HP ⊢
               have HF : Hid (∃ A2 m c2, WoV w u7 (.slice i.h k i.ch) (.slice i.v nv i.cv) c ac A1 n c1 (Q.filter (keepH c)) N A2 m c2 ((L.take (j + 1)).filter (keepV c)) ∧ m ≤ j + 1) := hid ⟨A6, m + 1, c6, by rw [HT.out, List.filter_append, List.filter_cons_of_pos HK.out, List.filter_nil]; exact HP, by omega⟩
               clear HP SF SG HU T5 HB5 HR6 s6 f6 z6 s7 hrow6 hg6 T6 s0 s1 s5 f1 f5 r00 HT HK HBL HR HA hu7
               go_wp2_with fail
               go_roundw)
            all_goals first | exact ⟨j + 1, by omega, by go_num, HF⟩ | (simp [RowKit.intOf]; omega)
        · obtain rfl : j = nv := by omega
          have hlt1 : ¬ (j : Int) < (j : Int) := by omega
          have HLM : Hid (m = (L.filter (keepV c)).length) := hid (by have := HQ.out.lm; rw [HN.out.2, List.take_length] at this; exact this.symm)
          have ld := ldRow info_image2 Try.underlying25 rfl HQ.out.r5 rfl
          have st := stThere info_image2 wr (w.heap.size + 1 + 1) #[.slice A1 n c1, .slice A2 m c2] (show wr.there (w.heap.size + 1 + 1) 0 2 from there_row HQ.out.ap.r4) rfl (by simp [Value.oneCell'])
          have HR := hid (setCells_all HQ.out.ap.r4 [.slice A1 n c1, .slice A2 m c2] rfl)
          have hT := turned_setCells (w.heap.size + 1 + 1) [.slice A1 n c1, .slice A2 m c2] wr 0
          obtain ⟨w9, hw9⟩ : ∃ w9, w9 = wr.setCells (w.heap.size + 1 + 1) 0 [.slice A1 n c1, .slice A2 m c2] := ⟨_, rfl⟩
          rw [← hw9] at hT HR st
          have HF : Hid ((IsHds w9 w9.heap.size A1 (Q.filter (keepH c)) ∧ IsVs w9 w9.heap.size A2 (L.filter (keepV c))) ∧ Below w.heap.size w w9) := hid (by
            have h := HQ.out
            obtain ⟨l1, l2⟩ := h.low
            have hbel : Below w.heap.size w w9 := h.ap.bel.trans (hT.below h.ap.bel.size (fun k hk => by omega))
            have hv := h.vs
            rw [HN.out.2, List.take_length] at hv
            refine ⟨⟨⟨RowIn.isRow (h.hs.keep hT (fun k hk e => by have := (h.hs.blk k hk).1; omega)), fun q hq => ?_, fun q hq => ?_⟩, ⟨RowIn.isRow (hv.keep hT (fun k hk e => by have := (hv.blk k hk).1; omega)), fun q hq => ?_⟩⟩, hbel⟩
            · exact ((HX.out.1.pt q (List.mem_filter.1 hq).1).below hbel).more hbel.size
            · exact HX.out.1.num q (List.mem_filter.1 hq).1
            · exact HX.out.2.num q (List.mem_filter.1 hq).1)
          clear hT hw9 HX HQ
          go_wp2_with fail
          refine bodyPost_ret (results_cell_row rfl _ _ (w.heap.size + 1 + 1) _ _ _ _ rfl HR.out Try.underlying25 rfl (by rw [info_image2]; rfl)) rfl ?_
          exact ⟨⟨A1, c1, A2, c2⟩, n, m, rfl, ⟨HLN.out, HLM.out⟩, HF.out⟩
end Go.Proofs.Ytaeoccpjdjafnaa.Im
namespace Go.Proofs.Ytaeoccpjdjafnaa
open Go.RowKit
end Go.Proofs.Ytaeoccpjdjafnaa
namespace Go.Proofs.Ytaeoccpjdjafnaa
open Go.RowKit
def deadE (_ : El) : El := ⟨⟨-77, 0, []⟩, none, 0⟩
structure BytesE (w : World) (F : Nat → Prop) (L : List El) : Prop where
  own : ∀ q ∈ L, OwnsB 5 w 0 q.A q.c q.e.d ∧ ∀ k, blk q.A = some k → F k
  apart : Apart (L.map fun q => blk q.A)
theorem BytesE.keep {w w' : World} {F S : Nat → Prop} {L : List El} (h : BytesE w F L) (ht : Turned S w w') (hd : ∀ q ∈ L, ∀ k, blk q.A = some k → ¬ S k) : BytesE w' F L :=
  ⟨fun q hq => ⟨(h.own q hq).1.turned ht (hd q hq), (h.own q hq).2⟩, h.apart⟩
def halfE (L : List El) (k : Nat) : List El := (L.take k).map deadE ++ L.drop k
structure SpToE (w wr : World) (F : Nat → Prop) (A : Option Addr) (c : Nat) (L : List El) (k : Nat) : Prop where
  row : RowIn cellsE 3 77 wr F A c (halfE L k)
  byt : BytesE wr F (L.drop k)
  tur : Turned F w wr
end Go.Proofs.Ytaeoccpjdjafnaa
namespace Go.Proofs.Ytaeoccpjdjafnaa
open Go.RowKit
end Go.Proofs.Ytaeoccpjdjafnaa
namespace Go.Proofs.Ytaeoccpjdjafnaa.Im
open Go Go.RowKit
open Rl (En Lg)
open Qu (Cf)
set_option maxRecDepth 100000
set_option linter.unusedVariables false
local instance lo27 : Lo := ⟨0⟩
attribute [local go_sem ↓] loadAt_hard storeAt_hard loadAt_vote storeAt_vote loadAt_change storeAt_change loadAt_conf3 storeAt_conf3
theorem range_sub {w : World} {b o : Nat} {cs : List Value} (h : w.rangeAt b o cs) (i n : Nat) : w.rangeAt b (o + i) ((cs.drop i).take n) := fun j v hv => by
  rw [List.getElem?_take] at hv
  split at hv
  · rw [List.getElem?_drop] at hv
    have := h (i + j) v hv
    rwa [← Nat.add_assoc] at this
  · cases hv
structure Pc (w : World) (B N : Nat) (p : Pt) (a : Ad) (m0 m1 m2 m3 : Nat) : Prop where
  m : B ≤ m0 ∧ m0 ≤ m1 ∧ m1 ≤ m2 ∧ m2 ≤ m3 ∧ m3 ≤ N
  e : OwnE w B m0 a.e a.ce p.log.es
  o : OwnsI 3 w m0 a.o a.co p.cf.old
  bo : ∀ k, blk a.o = some k → k < m1
  n : OwnsI 3 w m1 a.n a.cn p.cf.new
  bn : ∀ k, blk a.n = some k → k < m2
  l : OwnsI 3 w m2 a.l a.cl p.cf.lrn
  bl : ∀ k, blk a.l = some k → k < m3
  s : OwnsB 5 w m3 a.s a.cs p.sn
  bs : ∀ k, blk a.s = some k → k < N
theorem Pc.of {w : World} {B N : Nat} {p : Pt} {a : Ad} (h : OwnPt w B N p a) : ∃ m0 m1 m2 m3, Pc w B N p a m0 m1 m2 m3 := by
  obtain ⟨m0, m1, m2, m3, hm, h1, h2, h3, h4, h5, h6⟩ := h
  exact ⟨m0, m1, m2, m3, hm, h1, h2.1, h2.2, h3.1, h3.2, h4.1, h4.2, h5.1, h5.2⟩
theorem Pc.two {w w1 : World} {B N m0 m1 m2 m3 : Nat} {p : Pt} {a : Ad} (h : Pc w B N p a m0 m1 m2 m3) (ht : Turned (Bl B m0) w w1) :
    OwnsI 3 w1 m0 a.o a.co p.cf.old ∧ OwnsI 3 w1 m1 a.n a.cn p.cf.new ∧ OwnsI 3 w1 m2 a.l a.cl p.cf.lrn ∧ OwnsB 5 w1 m3 a.s a.cs p.sn := by
  have hm := h.m
  exact ⟨ownsI_turned h.o ht (fun k hk e => by have := (h.o.blkLt k hk).1; have := e.2; omega), ownsI_turned h.n ht (fun k hk e => by have := (h.n.blkLt k hk).1; have := e.2; omega), ownsI_turned h.l ht (fun k hk e => by have := (h.l.blkLt k hk).1; have := e.2; omega), h.s.turned ht (fun k hk e => by have := (h.s.blkLt k hk).1; have := e.2; omega)⟩
def Tg (w : World) (B N : Nat) : Nat → Prop := fun k => Bl B N k ∧ ∃ cs t fr, w.heap[k]? = some (.cells cs t fr) ∧ Parts t
theorem Tg.mono {w : World} {B B' N N' : Nat} (hB : B' ≤ B) (hN : N ≤ N') : ∀ k, Tg w B N k → Tg w B' N' k := fun k h => ⟨⟨Nat.le_trans hB h.1.1, Nat.lt_of_lt_of_le h.1.2 hN⟩, h.2⟩
theorem Pc.below {w w1 : World} {B N m0 m1 m2 m3 : Nat} {p : Pt} {a : Ad} (h : Pc w B N p a m0 m1 m2 m3) (hb : Below w.heap.size w w1) : Pc w1 B N p a m0 m1 m2 m3 :=
  ⟨h.m, h.e.keep (Turned.ofBelow (fun _ => False) hb) (fun k hk => hk.elim), h.o.below hb, h.bo, h.n.below hb, h.bn, h.l.below hb, h.bl, h.s.below hb, h.bs⟩
theorem Tg.old {w w1 : World} {B N : Nat} (hb : Below w.heap.size w w1) (hN : N ≤ w.heap.size) : ∀ k, Tg w1 B N k → Tg w B N k := fun k h => by
  obtain ⟨h1, cs, t, fr, h2, h3⟩ := h
  exact ⟨h1, cs, t, fr, (hb.block k (by have := h1.2; omega)).symm.trans h2, h3⟩
def halfD {α : Type} (f : α → α) (L : List α) (k : Nat) : List α := (L.take k).map f ++ L.drop k
section
variable {α : Type} (f : α → α) (L : List α) (k : Nat)
end
def deadH (_ : Hq) : Hq := ⟨⟨-77, 0, 0, ⟨⟨0, 0, []⟩, ⟨[], [], []⟩, []⟩⟩, A0⟩
structure SpH (w wr : World) (B N : Nat) (A : Option Addr) (c : Nat) (M : List Hq) (k : Nat) (bx : Nat) (cs : Array Value) : Prop where
  row : RowIn cellsH 10 59 wr (Bl B N) A c (halfD deadH M k)
  pts : ∃ m, B ≤ m ∧ OwnPts wr m N ((M.drop k).map fun q => (q.h.p, q.a))
  tur : Turned (Bl B N) w wr
  box : wr.heap[bx]? = some (.cells cs 25 (0, 0))
end Go.Proofs.Ytaeoccpjdjafnaa.Im
namespace Go.Proofs.Ytaeoccpjdjafnaa.Im
open Go Go.RowKit
open Rl (En Lg)
open Qu (Cf)
set_option maxRecDepth 100000
set_option linter.unusedVariables false
attribute [local go_sem ↓] loadAt_log1 storeAt_log1
theorem run_ldLog3 (w : World) (b o : Nat) (cs : List Value) (h : cs.length = 3) (hc : w.rangeAt b o cs) : (ldX 28 (.pointer (some ⟨b, o, none⟩))).run Try.prog w = .ok (.agg cs.toArray) w :=
  run_loadAt_mid w b o 28 cs _ hc Try.underlying28 rfl (by rw [info_log33, h])
set_option maxHeartbeats 3200000 in
theorem bases_any (i : Ia) (nh nv : Nat) (Q : List Hq) (hnh : nh = Q.length) (hlh : nh ≤ 100000) (w : World) (h : IsHds w w.heap.size i.h Q) :
    Calls Try.prog 7 #[.agg #[.slice i.h nh i.ch, .slice i.v nv i.cv]] w fun e w' => e = .returned (.bool (basesB Q)) ∧ Below w.heap.size w w' := by
  obtain ⟨w1, hw1⟩ : ∃ w1, w1 = w.alloc (.cells #[.slice i.h nh i.ch, .slice i.v nv i.cv] 25) := ⟨_, rfl⟩
  obtain ⟨b, hb⟩ : ∃ b, b = w.heap.size := ⟨_, rfl⟩
  have H1 : Hid (w1.heap[b]? = some (.cells #[.slice i.h nh i.ch, .slice i.v nv i.cv] 25 (0, 0)) ∧ Below w.heap.size w w1) := hid (by
    rw [hw1, hb]
    exact ⟨heap_alloc_new w _, (Below.refl _ w).alloc (Nat.le_refl _) _⟩)
  have HN := hid (And.intro hnh (And.intro h (show b = w.heap.size from hb)))
  clear hnh h
  go_enter Try.func7, Try.ntmps7
  go_wp2_with fail
  try rw [← hw1]
  try rw [← hb]
  clear hw1 hb
  go_loopw [3] (fun j wr => ∃ k : Nat, k ≤ nh ∧ j = .int .i64 (k : Int) ∧ Hid ((wr.heap[b]? = some (.cells #[.slice i.h nh i.ch, .slice i.v nv i.cv] 25 (0, 0)) ∧ Below w.heap.size w wr) ∧ ∀ q ∈ Q.take k, (0 ≤ q.h.p.log.base ∧ q.h.p.log.base ≤ 1099511627776) ∧ (0 ≤ q.h.p.log.term ∧ q.h.p.log.term ≤ 1099511627776))) (fun j _ => nh - (RowKit.intOf j).toNat)
  case atStart => exact ⟨0, Nat.zero_le _, rfl, hid ⟨H1.out, fun q hq => by cases hq⟩⟩
  case round =>
    clear H1
    obtain ⟨k, hk, rfl, HI⟩ := hrel
    have r0 := row_cell HI.out.1.1 0
    by_cases hlt : k < nh
    · have hlt0 : (k : Int) < (nh : Int) := by omega
      have hkQ : k < Q.length := by have := HN.out.1; omega
      obtain ⟨g, off, hA, hg, hcs⟩ := (HN.out.2.1.below HI.out.1.2).row.at_ k hkQ
      obtain ⟨q, hq⟩ : ∃ q, q = Q[k] := ⟨_, rfl⟩
      have hr := hcs k hkQ
      have hnum := (HN.out.2.1.pt _ (List.getElem_mem hkQ)).num
      rw [← hq] at hr hnum
      have HQ := hid (And.intro hq hnum)
      obtain ⟨x, ax⟩ := q
      rw [hA] at r0
      have hld := run_ldLog3 wr g (off + k * 10 + 3) ([.int .i64 x.p.log.base, .int .i64 x.p.log.term, .slice ax.e x.p.log.es.length ax.ce]) rfl (range_sub hr 3 3)
      have hst := stNew wr 28 3 info_log33 #[.int .i64 0, .int .i64 0, .slice none 0 0] #[.int .i64 x.p.log.base, .int .i64 x.p.log.term, .slice ax.e x.p.log.es.length ax.ce] rfl rfl (by simp [Value.oneCell'])
      obtain ⟨w4, hw4⟩ : ∃ w4, w4 = wr.alloc (.cells #[.int .i64 x.p.log.base, .int .i64 x.p.log.term, .slice ax.e x.p.log.es.length ax.ce] 28) := ⟨_, rfl⟩
      rw [← hw4] at hst
      have H4 : Hid ((w4.heap[b]? = some (.cells #[.slice i.h nh i.ch, .slice i.v nv i.cv] 25 (0, 0)) ∧ Below w.heap.size w w4) ∧ w4.heap[wr.heap.size]? = some (.cells #[.int .i64 x.p.log.base, .int .i64 x.p.log.term, .slice ax.e x.p.log.es.length ax.ce] 28 (0, 0))) := hid (by
        have hb4 : Below wr.heap.size wr w4 := by rw [hw4]; exact (Below.refl _ wr).alloc (Nat.le_refl _) _
        exact ⟨⟨(hb4.block _ (row_lt HI.out.1.1)).trans HI.out.1.1, HI.out.1.2.trans (hb4.mono HI.out.1.2.size)⟩, by rw [hw4]; exact heap_alloc_new wr _⟩)
      have c0 : w4.cell? ⟨wr.heap.size, 0, none⟩ = some (.int .i64 x.p.log.base) := row_cell H4.out.2 0
      have c1 : w4.cell? ⟨wr.heap.size, 1, none⟩ = some (.int .i64 x.p.log.term) := row_cell H4.out.2 1
      have HBAD : Hid (¬ ((0 ≤ x.p.log.base ∧ x.p.log.base ≤ 1099511627776) ∧ (0 ≤ x.p.log.term ∧ x.p.log.term ≤ 1099511627776)) → basesB Q = false) := hid (fun hn => basesB_no k hkQ (by rw [← HQ.out.1]; exact hn))
      clear hcs hr hq hA hg hw4 hnum hlt
      by_cases h1 : x.p.log.base < 0
      · have HV := hid (HBAD.out (by omega))
        go_wp2_with fail
        go_ret
        exact ⟨by rw [HV.out]; rfl, H4.out.1.2⟩
      · by_cases h2 : 1099511627776 < x.p.log.base
        · have HV := hid (HBAD.out (by omega))
          go_wp2_with fail
          go_ret
          exact ⟨by rw [HV.out]; rfl, H4.out.1.2⟩
        · by_cases h3 : x.p.log.term < 0
          · have HV := hid (HBAD.out (by omega))
            go_wp2_with fail
            go_ret
            exact ⟨by rw [HV.out]; rfl, H4.out.1.2⟩
          · by_cases h4 : 1099511627776 < x.p.log.term
            · have HV := hid (HBAD.out (by omega))
              go_wp2_with fail
              go_ret
              exact ⟨by rw [HV.out]; rfl, H4.out.1.2⟩
            · have HF : Hid ((w4.heap[b]? = some (.cells #[.slice i.h nh i.ch, .slice i.v nv i.cv] 25 (0, 0)) ∧ Below w.heap.size w w4) ∧ ∀ q ∈ Q.take (k + 1), (0 ≤ q.h.p.log.base ∧ q.h.p.log.base ≤ 1099511627776) ∧ (0 ≤ q.h.p.log.term ∧ q.h.p.log.term ≤ 1099511627776)) := hid ⟨H4.out.1, basesB_take Q k hkQ HI.out.2 (by rw [← HQ.out.1]; exact ⟨⟨Int.not_lt.1 h1, Int.not_lt.1 h2⟩, Int.not_lt.1 h3, Int.not_lt.1 h4⟩)⟩
              clear HI HBAD H4 HQ
              go_wp2_with fail
              go_roundw
              case rel => exact ⟨k + 1, by omega, by go_num, HF⟩
              case measure => simp [RowKit.intOf]; omega
    · obtain rfl : k = nh := by omega
      have hlt0 : ¬ (k : Int) < (k : Int) := by omega
      have HV : Hid (basesB Q = true) := hid (basesB_yes (by have := HI.out.2; rwa [HN.out.1, List.take_length] at this))
      clear hlt
      go_wp2_with fail
      go_ret
      exact ⟨by rw [HV.out]; rfl, HI.out.1.2⟩
end Go.Proofs.Ytaeoccpjdjafnaa.Im
namespace Go.Proofs.Ytaeoccpjdjafnaa.Im
open Go Go.RowKit
open Rl (En Lg)
open Qu (Cf)
set_option maxRecDepth 100000
set_option linter.unusedVariables false
attribute [local go_sem ↓] loadAt_vote
set_option maxHeartbeats 6400000 in
theorem ordered_any (i : Ia) (nh nv : Nat) (Q : List Hq) (L : List Vt) (hnh : Q.length = nh) (hnv : L.length = nv) (hlh : nh ≤ 100000) (hlv : nv ≤ 100000) (w : World) (h : IsHds w w.heap.size i.h Q) (hv : IsVs w w.heap.size i.v L) :
    Calls Try.prog 6 #[.agg #[.slice i.h nh i.ch, .slice i.v nv i.cv]] w fun e w' => e = .returned (.bool (sorted ⟨Q.map (·.h), L⟩)) ∧ Below w.heap.size w w' := by
  obtain ⟨w1, hw1⟩ : ∃ w1, w1 = w.alloc (.cells #[.slice i.h nh i.ch, .slice i.v nv i.cv] 25) := ⟨_, rfl⟩
  have hb1 : Below w.heap.size w w1 := by rw [hw1]; exact (Below.refl _ w).alloc (Nat.le_refl _) _
  have r1 : w1.heap[w.heap.size]? = some (.cells #[.slice i.h nh i.ch, .slice i.v nv i.cv] 25 (0, 0)) := by rw [hw1]; exact heap_alloc_new w _
  have HA := hid (asc_iff ltH (Q.map (·.h)))
  have HAV := hid (asc_iff ltV L)
  have HH := hid (And.intro h (And.intro hnh (And.intro hv (And.intro hnv (And.intro hb1 r1)))))
  obtain ⟨b0, hb0⟩ : ∃ b, b = w.heap.size := ⟨_, rfl⟩
  have HB0 := hid hb0
  clear h hv hnh hnv hb1 r1
  go_enter Try.func6, Try.ntmps6
  go_wp2_with fail
  rw [← hw1, ← hb0]
  clear hw1 hb0
  go_loopw [3] (fun i wr => ∃ k : Nat, k ≤ nh ∧ i = .int .i64 ((k : Int) + 1) ∧ Hid (Below w1.heap.size w1 wr ∧ ∀ j (hj : j + 1 < Q.length), j < k → (Q[j]'(by omega)).h.g < (Q[j + 1]'hj).h.g)) (fun i _ => nh + 1 - (RowKit.intOf i).toNat)
  case atStart => exact ⟨0, Nat.zero_le _, rfl, hid ⟨Below.refl _ _, fun j hj hlt => absurd hlt (Nat.not_lt_zero _)⟩⟩
  case round =>
    obtain ⟨k, hk, rfl, HK⟩ := hrel
    have c0 : wr.cell? ⟨b0, 0, none⟩ = some (.slice i.h nh i.ch) := row_cell ((HK.out.1.block b0 (by rw [HB0.out]; exact row_lt HH.out.2.2.2.2.2)).trans (by rw [HB0.out]; exact HH.out.2.2.2.2.2)) 0
    by_cases hlt : k + 1 < nh
    · have hQ : k + 1 < Q.length := by rw [HH.out.2.1]; exact hlt
      have hI := HH.out.1.below (HH.out.2.2.2.2.1.trans (HK.out.1.mono HH.out.2.2.2.2.1.size))
      obtain ⟨b, off, hA, hbb, hcs⟩ := hI.row.at_ k (by omega)
      rw [hA] at c0
      obtain ⟨x, hx⟩ : ∃ x, x = Q[k]'(by omega) := ⟨_, rfl⟩
      obtain ⟨y, hy⟩ : ∃ y, y = Q[k + 1]'hQ := ⟨_, rfl⟩
      have hr0 := hcs k (by omega) 0 _ rfl
      have hr1 := hcs (k + 1) hQ 0 _ rfl
      rw [← hx] at hr0
      rw [← hy] at hr1
      have l0 : wr.cell? ⟨b, off + k * 10, none⟩ = some (.int .i64 x.h.g) := hr0
      have l1 : wr.cell? ⟨b, off + (k + 1) * 10, none⟩ = some (.int .i64 y.h.g) := hr1
      have HST : Hid (∀ j (hj : j + 1 < Q.length), j < k + 1 → x.h.g < y.h.g → (Q[j]'(by omega)).h.g < (Q[j + 1]'hj).h.g) := hid (by
        intro j hj hlt2 hxy
        by_cases e : j = k
        · subst e; rw [← hx, ← hy]; exact hxy
        · exact HK.out.2 j hj (by omega))
      have HNO : Hid (¬ x.h.g < y.h.g → sorted ⟨Q.map (·.h), L⟩ = false) := hid (by
        intro hno
        have : asc ltH (Q.map (·.h)) = false := by
          rw [Bool.eq_false_iff]
          intro hb
          have := HA.out.1 hb k (by simpa using hQ)
          rw [List.getElem_map, List.getElem_map, ← hx, ← hy] at this
          exact absurd (by simpa [ltH] using this) hno
        unfold sorted
        rw [this]; rfl)
      have HBW := hid HK.out.1.drew
      have w0 : (k : Int) + 1 - 1 = (k : Int) := by omega
      have w1 : IntKind.i64.wrap (k : Int) = (k : Int) := by rw [IntKind.wrap_i64]; omega
      have w2 : IntKind.i64.wrap ((k : Int) + 1 - 1) = (k : Int) := by rw [IntKind.wrap_i64]; omega
      have b3 : (0 : Int) ≤ (k : Int) + 1 := by omega
      have t0 : ((k : Int) + 1).toNat = k + 1 := by omega
      have b00 : (0 : Int) ≤ (k : Int) := by omega
      have b1 : (k : Int) < (nh : Int) := by omega
      have b2 : (k : Int) + 1 < (nh : Int) := by omega
      clear hI hcs hr0 hr1 hx hy hQ hA hbb
      by_cases hxy : x.h.g < y.h.g
      · have hd : decide (x.h.g < y.h.g) = true := decide_eq_true hxy
        have hd2 : ¬ y.h.g ≤ x.h.g := by omega
        have HN := hid (fun j hj hl => HST.out j hj hl hxy)
        clear hxy
        go_wp2_with fail
        go_still_tail 13, (by kernel_rfl)
        go_wp2_with fail
        go_roundw
        case rel => exact ⟨k + 1, by omega, by go_num, hid ⟨HBW.out, HN.out⟩⟩
        case measure => simp [RowKit.intOf]; omega
      · have hd2 : y.h.g ≤ x.h.g := by omega
        have HN := hid (HNO.out hxy)
        clear hxy
        go_wp2_with fail
        go_still_tail 13, (by kernel_rfl)
        go_wp2_with fail
        go_ret
        rw [HN.out]
        exact ⟨rfl, HH.out.2.2.2.2.1.trans (HBW.out.mono HH.out.2.2.2.2.1.size)⟩
    · have HAS : Hid (asc ltH (Q.map (·.h)) = true) := hid (HA.out.2 (fun j hj => by
        rw [List.length_map] at hj
        rw [List.getElem_map, List.getElem_map]
        have := HK.out.2 j hj (by have := HH.out.2.1; omega)
        simpa [ltH] using this))
      have HB1 := hid HK.out.1
      clear HK
      go_wp2_with fail
      go_loopw [4] (fun i wr => ∃ k : Nat, k ≤ nv ∧ i = .int .i64 ((k : Int) + 1) ∧ Hid (Below w1.heap.size w1 wr ∧ ∀ j (hj : j + 1 < L.length), j < k → ltV (L[j]'(by omega)) (L[j + 1]'hj) = true)) (fun i _ => nv + 1 - (RowKit.intOf i).toNat)
      case atStart => exact ⟨0, Nat.zero_le _, rfl, hid ⟨HB1.out, fun j hj hlt => absurd hlt (Nat.not_lt_zero _)⟩⟩
      case round =>
        clear HB1 c0 hlt
        obtain ⟨k, hk, rfl, HK⟩ := hrel
        have c1 : wr.cell? ⟨b0, 1, none⟩ = some (.slice i.v nv i.cv) := row_cell ((HK.out.1.block b0 (by rw [HB0.out]; exact row_lt HH.out.2.2.2.2.2)).trans (by rw [HB0.out]; exact HH.out.2.2.2.2.2)) 1
        by_cases hlt : k + 1 < nv
        · have hQ : k + 1 < L.length := by rw [HH.out.2.2.2.1]; exact hlt
          have hI := HH.out.2.2.1.row.below (HH.out.2.2.2.2.1.trans (HK.out.1.mono HH.out.2.2.2.2.1.size))
          obtain ⟨b, off, hA, hbb, hcs⟩ := hI.at_ k (by omega)
          rw [hA] at c1
          obtain ⟨x, hx⟩ : ∃ x, x = L[k]'(by omega) := ⟨_, rfl⟩
          obtain ⟨y, hy⟩ : ∃ y, y = L[k + 1]'hQ := ⟨_, rfl⟩
          have hr0 := hcs k (by omega)
          have hr1 := hcs (k + 1) hQ
          rw [← hx] at hr0
          rw [← hy] at hr1
          have hbwr : b < wr.heap.size := by have := HH.out.2.2.2.2.1.size; have := HK.out.1.size; omega
          have LD : Hid (∀ W, Below wr.heap.size wr W → (ldX 34 (.pointer (some ⟨b, off + k * 5, none⟩))).run Try.prog W = .ok (.agg #[.int .i64 x.x, .int .i64 x.p, .int .i64 x.r, .int .i64 x.b, .int .i64 x.v]) W ∧ (ldX 34 (.pointer (some ⟨b, off + (k + 1) * 5, none⟩))).run Try.prog W = .ok (.agg #[.int .i64 y.x, .int .i64 y.p, .int .i64 y.r, .int .i64 y.b, .int .i64 y.v]) W ∧ W.cell? ⟨b0, 1, none⟩ = some (.slice (some ⟨b, off, none⟩) nv i.cv)) := hid (fun W hb =>
            ⟨ldV W b (off + k * 5) (cellsV x) rfl (fun j v hv => (hb.cell (p := ⟨b, off + k * 5 + j, none⟩) hbwr).trans (hr0 j v hv)), ldV W b (off + (k + 1) * 5) (cellsV y) rfl (fun j v hv => (hb.cell (p := ⟨b, off + (k + 1) * 5 + j, none⟩) hbwr).trans (hr1 j v hv)), (hb.cell (p := ⟨b0, 1, none⟩) (by have := row_lt HH.out.2.2.2.2.2; have := HK.out.1.size; have := HB0.out; show b0 < _; omega)).trans c1⟩)
          obtain ⟨l0, l1, l2⟩ := LD.out wr.drew (Below.refl _ _).drew
          obtain ⟨m0, m1, m2⟩ := LD.out (wr.alloc (.cells #[.int .i64 0, .int .i64 0, .int .i64 0, .int .i64 0, .int .i64 0] 34)).drew ((Below.refl _ wr).alloc (Nat.le_refl _) _).drew
          obtain ⟨n0, n1, n2⟩ := LD.out ((wr.alloc (.cells #[.int .i64 0, .int .i64 0, .int .i64 0, .int .i64 0, .int .i64 0] 34)).alloc (.cells #[.int .i64 0, .int .i64 0, .int .i64 0, .int .i64 0, .int .i64 0] 34)).drew (((Below.refl _ wr).alloc (Nat.le_refl _) _).alloc (by simp) _).drew
          obtain ⟨p00, p01, p02⟩ := LD.out (wr.alloc (.cells #[.int .i64 x.x, .int .i64 x.p, .int .i64 x.r, .int .i64 x.b, .int .i64 x.v] 34)).drew ((Below.refl _ wr).alloc (Nat.le_refl _) _).drew
          obtain ⟨p10, p11, p12⟩ := LD.out ((wr.alloc (.cells #[.int .i64 0, .int .i64 0, .int .i64 0, .int .i64 0, .int .i64 0] 34)).alloc (.cells #[.int .i64 x.x, .int .i64 x.p, .int .i64 x.r, .int .i64 x.b, .int .i64 x.v] 34)).drew (((Below.refl _ wr).alloc (Nat.le_refl _) _).alloc (by simp) _).drew
          obtain ⟨p20, p21, p22⟩ := LD.out ((wr.alloc (.cells #[.int .i64 x.x, .int .i64 x.p, .int .i64 x.r, .int .i64 x.b, .int .i64 x.v] 34)).alloc (.cells #[.int .i64 0, .int .i64 0, .int .i64 0, .int .i64 0, .int .i64 0] 34)).drew (((Below.refl _ wr).alloc (Nat.le_refl _) _).alloc (by simp) _).drew
          have HST : Hid (∀ j (hj : j + 1 < L.length), j < k + 1 → ltV x y = true → ltV (L[j]'(by omega)) (L[j + 1]'hj) = true) := hid (by
            intro j hj hlt2 hxy
            by_cases e : j = k
            · subst e; rw [← hx, ← hy]; exact hxy
            · exact HK.out.2 j hj (by omega))
          have HNO : Hid (ltV x y = false → sorted ⟨Q.map (·.h), L⟩ = false) := hid (by
            intro hno
            have : asc ltV L = false := by
              rw [Bool.eq_false_iff]
              intro hb
              have := HAV.out.1 hb k hQ
              rw [← hx, ← hy, hno] at this
              cases this
            unfold sorted
            show (asc ltH (Q.map (·.h)) && asc ltV L) = false
            rw [this, Bool.and_false])
          have HBY : Hid (∀ X Y : Obj, Below w1.heap.size w1 ((wr.alloc X).alloc Y).drew) := hid (fun X Y => ((HK.out.1.alloc HK.out.1.size _).alloc (by have := HK.out.1.size; simp; omega) _).drew)
          have HBX : Hid (∀ X Y : Obj, Below w.heap.size w ((wr.alloc X).alloc Y).drew) := hid (fun X Y => HH.out.2.2.2.2.1.trans ((HBY.out X Y).mono HH.out.2.2.2.2.1.size))
          have w0 : (k : Int) + 1 - 1 = (k : Int) := by omega
          have w1 : IntKind.i64.wrap (k : Int) = (k : Int) := by rw [IntKind.wrap_i64]; omega
          have w2 : IntKind.i64.wrap ((k : Int) + 1 - 1) = (k : Int) := by rw [IntKind.wrap_i64]; omega
          have b3 : (0 : Int) ≤ (k : Int) + 1 := by omega
          have t0 : ((k : Int) + 1).toNat = k + 1 := by omega
          have b00 : (0 : Int) ≤ (k : Int) := by omega
          have b1 : (k : Int) < (nv : Int) := by omega
          have b2 : (k : Int) + 1 < (nv : Int) := by omega
          clear hI hcs hr0 hr1 hx hy hQ hA hbb hbwr
          go_wp2_with fail
          go_region
          all_goals
            clear l0 l1 l2 m0 m1 m2 n0 n1 n2 p00 p01 p02 p10 p11 p12 p20 p21 p22
            by_cases q1 : y.x < x.x
            · have HN := hid (HNO.out (by simp [ltV]; omega))
              go_wp2_with fail
              go_ret
              rw [HN.out]
              exact ⟨rfl, HBX.out _ _⟩
            · by_cases q2 : x.x = y.x
              · by_cases q3 : y.p ≤ x.p
                · have HN := hid (HNO.out (by simp [ltV]; omega))
                  go_wp2_with fail
                  go_ret
                  rw [HN.out]
                  exact ⟨rfl, HBX.out _ _⟩
                · have HN := hid (fun j hj hl => HST.out j hj hl (by simp [ltV]; omega))
                  go_wp2_with fail
                  go_roundw
                  all_goals first | exact ⟨k + 1, by omega, by go_num, hid ⟨HBY.out _ _, HN.out⟩⟩ | (simp [RowKit.intOf]; omega) | exact ⟨⟨k + 1, by omega, by go_num, hid ⟨HBY.out _ _, HN.out⟩⟩, by simp [RowKit.intOf]; omega⟩ | (trace_state; fail)
              · have HN := hid (fun j hj hl => HST.out j hj hl (by simp [ltV]; omega))
                go_wp2_with fail
                go_roundw
                all_goals first | exact ⟨k + 1, by omega, by go_num, hid ⟨HBY.out _ _, HN.out⟩⟩ | (simp [RowKit.intOf]; omega) | exact ⟨⟨k + 1, by omega, by go_num, hid ⟨HBY.out _ _, HN.out⟩⟩, by simp [RowKit.intOf]; omega⟩ | (trace_state; fail)
        · have HAS2 : Hid (asc ltV L = true) := hid (HAV.out.2 (fun j hj => HK.out.2 j hj (by have := HH.out.2.2.2.1; omega)))
          have HBW := hid HK.out.1
          clear HK
          go_wp2_with fail
          go_ret
          unfold sorted
          rw [HAS.out, HAS2.out]
          exact ⟨rfl, HH.out.2.2.2.2.1.trans (HBW.out.mono HH.out.2.2.2.2.1.size)⟩
end Go.Proofs.Ytaeoccpjdjafnaa.Im
namespace Go.Proofs.Ytaeoccpjdjafnaa.Im
open Go Go.RowKit
open Rl (En Lg)
open Qu (Cf)
set_option maxRecDepth 100000
set_option linter.unusedVariables false
def okBase (g : Lg) : Prop := (0 ≤ g.base ∧ g.base ≤ 1099511627776) ∧ (0 ≤ g.term ∧ g.term ≤ 1099511627776)
local instance lo40 : Lo := ⟨0⟩
theorem chgd_base {h z : Hd} {c : Ch} (e : chgd h c = some z) (hh : okBase h.p.log) (hc : okBase c.p.log) : okBase z.p.log := by
  unfold chgd at e
  split at e
  · injection e with e; rw [← e]; exact hh
  · split at e
    · split at e
      · cases e
      · injection e with e; rw [← e]; exact hh
    · injection e with e
      rw [← e]
      obtain ⟨h1, h2⟩ := sinceM_bt h.p.log c.p.log.base c.p.log.term
      show okBase (sinceM h.p.log c.p.log.base c.p.log.term)
      unfold okBase
      rw [h1, h2]; exact hc
theorem apply_base {x : Im} {c : Ch} (hx : ∀ h ∈ x.hs, okBase h.p.log) (hc : okBase c.p.log) : ∀ h ∈ (apply x c).1.hs, okBase h.p.log := by
  unfold apply
  split
  · split
    · intro h hh; cases hh
    · rename_i h0 hf
      split
      · intro h hh; cases hh
      · rename_i z hz
        intro h hh
        rcases mem_ins hh with e | e
        · rw [e]; exact chgd_base hz (hx _ (List.mem_of_find?_eq_some hf)) hc
        · exact hx _ e
  · split
    · exact hx
    · intro h hh; cases hh
theorem without_of (Q : List Hq) (L : List Vt) (c : Ch) : without ⟨Q.map (·.h), L⟩ c = ⟨(Q.filter (keepH c)).map (·.h), L.filter (keepV c)⟩ := by
  unfold without
  congr 1
  rw [List.filter_map]
  rfl
structure Wb (w W : World) (i : Ia) (nh nv : Nat) (c : Ch) (a : Ad) : Prop where
  bel : Below w.heap.size w W
  r0 : W.heap[w.heap.size]? = some (.cells #[.slice i.h nh i.ch, .slice i.v nv i.cv] 25 (0, 0))
  r1 : W.heap[w.heap.size + 1]? = some (.cells #[.int .i64 c.k, .int .i64 c.g, .int .i64 c.t, .int .i64 c.v, .int .i64 c.f, .int .i64 c.p.log.base, .int .i64 c.p.log.term, .slice a.e c.p.log.es.length a.ce, .slice a.o c.p.cf.old.length a.co, .slice a.n c.p.cf.new.length a.cn, .slice a.l c.p.cf.lrn.length a.cl, .slice a.s c.p.sn.length a.cs, .int .i64 c.a.x, .int .i64 c.a.p, .int .i64 c.a.r, .int .i64 c.a.b, .int .i64 c.a.v] 36 (0, 0))
theorem wb_start (w : World) (i : Ia) (nh nv : Nat) (c : Ch) (a : Ad) : Wb w ((w.alloc (.cells #[.slice i.h nh i.ch, .slice i.v nv i.cv] 25)).alloc (.cells #[.int .i64 c.k, .int .i64 c.g, .int .i64 c.t, .int .i64 c.v, .int .i64 c.f, .int .i64 c.p.log.base, .int .i64 c.p.log.term, .slice a.e c.p.log.es.length a.ce, .slice a.o c.p.cf.old.length a.co, .slice a.n c.p.cf.new.length a.cn, .slice a.l c.p.cf.lrn.length a.cl, .slice a.s c.p.sn.length a.cs, .int .i64 c.a.x, .int .i64 c.a.p, .int .i64 c.a.r, .int .i64 c.a.b, .int .i64 c.a.v] 36)) i nh nv c a := by
  refine ⟨((Below.refl _ w).alloc (Nat.le_refl _) _).alloc (by simp) _, ?_, ?_⟩
  · rw [heap_alloc_old _ _ (by simp)]; exact heap_alloc_new w _
  · have := heap_alloc_new (w.alloc (.cells #[.slice i.h nh i.ch, .slice i.v nv i.cv] 25)) (.cells #[.int .i64 c.k, .int .i64 c.g, .int .i64 c.t, .int .i64 c.v, .int .i64 c.f, .int .i64 c.p.log.base, .int .i64 c.p.log.term, .slice a.e c.p.log.es.length a.ce, .slice a.o c.p.cf.old.length a.co, .slice a.n c.p.cf.new.length a.cn, .slice a.l c.p.cf.lrn.length a.cl, .slice a.s c.p.sn.length a.cs, .int .i64 c.a.x, .int .i64 c.a.p, .int .i64 c.a.r, .int .i64 c.a.b, .int .i64 c.a.v] 36)
    rwa [World.size_alloc] at this
namespace Wb
variable {w W W' : World} {i : Ia} {nh nv : Nat} {c : Ch} {a : Ad}
theorem keep (h : Wb w W i nh nv c a) (hb : Below W.heap.size W W') : Wb w W' i nh nv c a := ⟨h.bel.trans (hb.mono h.bel.size), (hb.block _ (row_lt h.r0)).trans h.r0, (hb.block _ (row_lt h.r1)).trans h.r1⟩
theorem ldi (h : Wb w W i nh nv c a) : (ldX 25 (.pointer (some ⟨w.heap.size, 0, none⟩))).run Try.prog W = .ok (.agg #[.slice i.h nh i.ch, .slice i.v nv i.cv]) W := ldRow info_image2 Try.underlying25 rfl h.r0 rfl
theorem ldc (h : Wb w W i nh nv c a) : (ldX 36 (.pointer (some ⟨w.heap.size + 1, 0, none⟩))).run Try.prog W = .ok (.agg #[.int .i64 c.k, .int .i64 c.g, .int .i64 c.t, .int .i64 c.v, .int .i64 c.f, .int .i64 c.p.log.base, .int .i64 c.p.log.term, .slice a.e c.p.log.es.length a.ce, .slice a.o c.p.cf.old.length a.co, .slice a.n c.p.cf.new.length a.cn, .slice a.l c.p.cf.lrn.length a.cl, .slice a.s c.p.sn.length a.cs, .int .i64 c.a.x, .int .i64 c.a.p, .int .i64 c.a.r, .int .i64 c.a.b, .int .i64 c.a.v]) W := ldRow info_change Try.underlying36 rfl h.r1 rfl
end Wb
theorem apply_sm {n : Nat} (hn : n ≤ 20) {x r : Im} {er : Int} (i : Ia) (nh nv : Nat) (Q : List Hq) (L : List Vt) (c : Ch) (ac : Ad) (nx mx : Nat) (hx : (⟨Q.map (·.h), L⟩ : Im) = x) (hnh : Q.length = nh) (hnv : L.length = nv) (hs : Sm n x) (hb : ∀ h ∈ x.hs, okBase h.p.log) (hc : bigPt c.p = false) (hr : apply x c = (r, er)) (hnx : r.hs.length = nx) (hmx : r.vs.length = mx) (w : World) (h : ImIs w w.heap.size i Q L) (hp : ChIs w w.heap.size c ac) :
    Calls Try.prog 10 #[.agg #[.slice i.h nh i.ch, .slice i.v nv i.cv], .agg #[.int .i64 c.k, .int .i64 c.g, .int .i64 c.t, .int .i64 c.v, .int .i64 c.f, .int .i64 c.p.log.base, .int .i64 c.p.log.term, .slice ac.e c.p.log.es.length ac.ce, .slice ac.o c.p.cf.old.length ac.co, .slice ac.n c.p.cf.new.length ac.cn, .slice ac.l c.p.cf.lrn.length ac.cl, .slice ac.s c.p.sn.length ac.cs, .int .i64 c.a.x, .int .i64 c.a.p, .int .i64 c.a.r, .int .i64 c.a.b, .int .i64 c.a.v]] w fun e w' => ∃ (iy : Ia) (Qy : List Hq), e = .returned (.tuple #[.agg #[.slice iy.h nx iy.ch, .slice iy.v mx iy.cv], .int .i64 er]) ∧ (Qy.map (·.h) = r.hs ∧ Qy.length = nx) ∧ ImIs w' w'.heap.size iy Qy r.vs ∧ Below w.heap.size w w' := by
  subst hx
  have h1 : Q.length ≤ 40 := by have := hs.hn; simpa using this
  have h2 : L.length ≤ 200 + n := hs.vn
  have hP : ∀ q ∈ Q, SmP n q.h.p ∧ okBase q.h.p.log := fun q hq => ⟨hs.p q.h (List.mem_map.2 ⟨q, hq, rfl⟩), hb q.h (List.mem_map.2 ⟨q, hq, rfl⟩)⟩
  have := apply_any i nh nv Q L c ac hnh.symm hnv.symm (by omega) (by omega) hs.so.1 hs.so.2 (fun q hq => ⟨(smP_few (hP q hq).1 (by omega)).2.1, ⟨⟨(hP q hq).2.1.1, by have := (hP q hq).2.1.2; omega⟩, trivial, by have := (smP_few (hP q hq).1 (by omega)).2.2; omega⟩, (smP_few (hP q hq).1 (by omega)).1.1.2⟩) (fun q hq z hz => (smP_few (chgd_sm (hP q hq).1 hc hz) (by omega)).2.1) (smP_few (smP_of hc) (by omega)).2.2 w h.h h.v hp.pt h.rh.2 h.rv.2 ⟨by rw [← hnh]; exact h.rh.1.1, h.rh.1.2⟩ ⟨by rw [← hnv]; exact h.rv.1.1, h.rv.1.2⟩ hp.num
  refine this.mono ?_
  rintro e w' ⟨iy, ny, my, er', rfl, he, ⟨Qy, Ly, ⟨e1, e2⟩, ho, hv⟩, hbb⟩
  rw [hr] at he hv
  have hv1 : Qy.map (·.h) = r.hs := congrArg Im.hs hv
  have hv2 : Ly = r.vs := congrArg Im.vs hv
  subst hv2
  have hlen : Qy.length = nx := by rw [← hnx, ← hv1, List.length_map]
  refine ⟨iy, Qy, ?_, ⟨hv1, hlen⟩, ⟨ho.vs.1, ho.vs.2, ⟨ho.room.1, ho.room.2.1⟩, ⟨ho.room.2.2.1, ho.room.2.2.2⟩⟩, hbb⟩
  rw [he, e1, e2, hlen, hmx]
theorem without_mem {x : Im} {c : Ch} {h : Hd} (hh : h ∈ (without x c).hs) : h ∈ x.hs := (List.mem_filter.1 hh).1
theorem without_im {x u : Im} (i : Ia) (nh nv : Nat) (Q : List Hq) (L : List Vt) (c : Ch) (ac : Ad) (n1 m1 : Nat) (hx : (⟨Q.map (·.h), L⟩ : Im) = x) (hnh : Q.length = nh) (hnv : L.length = nv) (hlh : nh ≤ 20000) (hlv : nv ≤ 20000) (hu : without x c = u) (hn1 : u.hs.length = n1) (hm1 : u.vs.length = m1) (w : World) (hh : IsHds w w.heap.size i.h Q) (hv : IsVs w w.heap.size i.v L) :
    Calls Try.prog 11 #[.agg #[.slice i.h nh i.ch, .slice i.v nv i.cv], .agg #[.int .i64 c.k, .int .i64 c.g, .int .i64 c.t, .int .i64 c.v, .int .i64 c.f, .int .i64 c.p.log.base, .int .i64 c.p.log.term, .slice ac.e c.p.log.es.length ac.ce, .slice ac.o c.p.cf.old.length ac.co, .slice ac.n c.p.cf.new.length ac.cn, .slice ac.l c.p.cf.lrn.length ac.cl, .slice ac.s c.p.sn.length ac.cs, .int .i64 c.a.x, .int .i64 c.a.p, .int .i64 c.a.r, .int .i64 c.a.b, .int .i64 c.a.v]] w fun e w' => ∃ (j : Ia) (R : List Hq), e = .returned (.agg #[.slice j.h n1 j.ch, .slice j.v m1 j.cv]) ∧ (R.map (·.h) = u.hs ∧ R.length = n1) ∧ (IsHds w' w'.heap.size j.h R ∧ IsVs w' w'.heap.size j.v u.vs) ∧ Below w.heap.size w w' := by
  subst hx
  rw [without_of] at hu
  refine (without_any i nh nv Q L c ac hnh.symm hnv.symm hlh hlv w hh hv).mono ?_
  rintro e w' ⟨j, n, m, rfl, ⟨e1, e2⟩, ⟨h1, h2⟩, hb⟩
  subst hu
  have e3 : n = n1 := by rw [e1, ← hn1]; exact (List.length_map _).symm
  have e4 : m = m1 := by rw [e2, ← hm1]
  subst e3 e4
  exact ⟨j, _, rfl, ⟨rfl, e1.symm⟩, ⟨h1, h2⟩, hb⟩
theorem field_im0 (W : World) (A B : Option Addr) (n m c d : Nat) : (Instr.field 25 (.agg #[.slice A n c, .slice B m d]) 0).run Try.prog W = .ok (.slice A n c) W := by kernel_rfl
theorem field_im1 (W : World) (A B : Option Addr) (n m c d : Nat) : (Instr.field 25 (.agg #[.slice A n c, .slice B m d]) 1).run Try.prog W = .ok (.slice B m d) W := by kernel_rfl
end Go.Proofs.Ytaeoccpjdjafnaa.Im
namespace Go.Proofs.Ytaeoccpjdjafnaa.imageApart
open Go.ChangeShapes Go.WideShapes Go.ChangeAt Go.RowKit
open Go.ChangeMaps (open_string shut_string)
set_option linter.unusedVariables false
theorem own : ownKnob Try.prog.godebug = none := by kernel_rfl
theorem laidOut : laidOutB Try.prog = true := by kernel_rfl
attribute [local go_sem ↓] Im.loadAt_image Im.storeAt_image Im.loadAt_change Im.storeAt_change
open Im in
set_option maxRecDepth 100000 in
set_option maxHeartbeats 25600000 in
theorem walk (i0 : Im.Ia) (Q0 : List Im.Hq) (L0 : List Im.Vt) (c1 : Im.Ch) (a1 : Im.Ad) (w : World) (k0 : Im.ImIs w w.heap.size i0 Q0 L0) (k1 : Im.ChIs w w.heap.size c1 a1) :
    Calls Try.prog 3 #[.agg #[.slice i0.h Q0.length i0.ch, .slice i0.v L0.length i0.cv], .agg #[.int .i64 c1.k, .int .i64 c1.g, .int .i64 c1.t, .int .i64 c1.v, .int .i64 c1.f, .int .i64 c1.p.log.base, .int .i64 c1.p.log.term, .slice a1.e c1.p.log.es.length a1.ce, .slice a1.o c1.p.cf.old.length a1.co, .slice a1.n c1.p.cf.new.length a1.cn, .slice a1.l c1.p.cf.lrn.length a1.cl, .slice a1.s c1.p.sn.length a1.cs, .int .i64 c1.a.x, .int .i64 c1.a.p, .int .i64 c1.a.r, .int .i64 c1.a.b, .int .i64 c1.a.v]] w fun e w' => e = .returned (.bool true) ∧ Below w.heap.size w w' := by
  obtain ⟨nh, hnh⟩ : ∃ n, Q0.length = n := ⟨_, rfl⟩
  obtain ⟨nv, hnv⟩ : ∃ n, L0.length = n := ⟨_, rfl⟩
  rw [hnh, hnv]
  obtain ⟨w1, hw1⟩ : ∃ w1, w1 = (w.alloc (.cells #[.slice i0.h nh i0.ch, .slice i0.v nv i0.cv] 25)).alloc (.cells #[.int .i64 c1.k, .int .i64 c1.g, .int .i64 c1.t, .int .i64 c1.v, .int .i64 c1.f, .int .i64 c1.p.log.base, .int .i64 c1.p.log.term, .slice a1.e c1.p.log.es.length a1.ce, .slice a1.o c1.p.cf.old.length a1.co, .slice a1.n c1.p.cf.new.length a1.cn, .slice a1.l c1.p.cf.lrn.length a1.cl, .slice a1.s c1.p.sn.length a1.cs, .int .i64 c1.a.x, .int .i64 c1.a.p, .int .i64 c1.a.r, .int .i64 c1.a.b, .int .i64 c1.a.v] 36) := ⟨_, rfl⟩
  have hq1 := wb_start w i0 nh nv c1 a1
  rw [← hw1] at hq1
  have W1 := hid hq1
  have ld1 := hq1.ldi
  have HX := hid (And.intro k0 k1)
  have HN := hid (And.intro hnh hnv)
  have HF := hid (fewI_any i0 nh nv Q0 L0 hnh.symm hnv.symm w1 ((k0.below hq1.bel).more hq1.bel.size).h)
  have HKN := hid known_any
  rw [hw1] at ld1
  clear hq1 k0 k1 hnh hnv
  go_enter Try.func3, Try.ntmps3
  go_wp2_with fail
  rw [← hw1]
  clear hw1 ld1
  refine HF.out.mono ?_
  rintro e w2 ⟨rfl, hb2⟩
  have W2 := hid (W1.out.keep hb2)
  have ld2 := W2.out.ldi
  obtain ⟨b, hb⟩ : ∃ b, fewI Q0 L0 = b := ⟨_, rfl⟩
  rw [hb]
  have HFW := hid hb
  clear hb hb2 HF W1
  cases b with
  | false =>
    clear ld2
    go_wp2_with fail
    refine (HKN.out w2).mono ?_
    rintro e x3 ⟨rfl, hx3⟩
    have HX3 := hid (W2.out.bel.trans (hx3.mono W2.out.bel.size))
    clear hx3
    go_wp2_with fail
    go_ret
    exact ⟨rfl, HX3.out⟩
  | true =>
    obtain ⟨f1, f2, f3⟩ := few_of HFW.out
    have hnh40 : nh ≤ 40 := by rw [← HN.out.1]; exact f1
    have hnv200 : nv ≤ 200 := by rw [← HN.out.2]; exact f2
    have HO := hid (ordered_any i0 nh nv Q0 L0 HN.out.1 HN.out.2 (by omega) (by omega) w2 ((HX.out.1.h.below W2.out.bel).more W2.out.bel.size) ((HX.out.1.v.below W2.out.bel).more W2.out.bel.size))
    clear f1 f2 f3
    go_wp2_with fail
    refine HO.out.mono ?_
    rintro e w3 ⟨rfl, hb3⟩
    have W3 := hid (W2.out.keep hb3)
    obtain ⟨so, hso⟩ : ∃ b, sorted ⟨Q0.map (·.h), L0⟩ = b := ⟨_, rfl⟩
    rw [hso]
    have HSO := hid hso
    clear hso hb3 HO ld2 W2
    cases so with
    | false =>
      go_wp2_with fail
      refine (HKN.out w3).mono ?_
      rintro e x4 ⟨rfl, hx4⟩
      have HX4 := hid (W3.out.bel.trans (hx4.mono W3.out.bel.size))
      clear hx4
      go_wp2_with fail
      go_ret
      exact ⟨rfl, HX4.out⟩
    | true =>
      have HB := hid (bases_any i0 nh nv Q0 HN.out.1.symm (by omega) w3 ((HX.out.1.h.below W3.out.bel).more W3.out.bel.size))
      have ld3 := W3.out.ldi
      go_wp2_with fail
      refine HB.out.mono ?_
      rintro e w4 ⟨rfl, hb4⟩
      have W4 := hid (W3.out.keep hb4)
      obtain ⟨ba, hba⟩ : ∃ b, basesB Q0 = b := ⟨_, rfl⟩
      rw [hba]
      have HBA := hid hba
      clear hba hb4 HB ld3 W3
      cases ba with
      | false =>
        go_wp2_with fail
        refine (HKN.out w4).mono ?_
        rintro e x5 ⟨rfl, hx5⟩
        have HX5 := hid (W4.out.bel.trans (hx5.mono W4.out.bel.size))
        clear hx5
        go_wp2_with fail
        go_ret
        exact ⟨rfl, HX5.out⟩
      | true =>
        have HC := hid (few_any c1 a1 w4 ((HX.out.2.pt.below W4.out.bel).more W4.out.bel.size))
        have ld4 := W4.out.ldc
        go_wp2_with fail
        refine HC.out.mono ?_
        rintro e w5 ⟨rfl, hb5⟩
        have W5 := hid (W4.out.keep hb5)
        obtain ⟨bg, hbg⟩ : ∃ b, bigPt c1.p = b := ⟨_, rfl⟩
        rw [hbg]
        have HBG := hid hbg
        clear hbg hb5 HC ld4 W4
        cases bg with
        | true =>
          go_wp2_with fail
          refine (HKN.out w5).mono ?_
          rintro e x6 ⟨rfl, hx6⟩
          have HX6 := hid (W5.out.bel.trans (hx6.mono W5.out.bel.size))
          clear hx6
          go_wp2_with fail
          go_ret
          exact ⟨rfl, HX6.out⟩
        | false =>
          have m5 : w5.cell? ⟨w.heap.size + 1, 5, none⟩ = some (.int .i64 c1.p.log.base) := row_cell W5.out.r1 5
          have m6 : w5.cell? ⟨w.heap.size + 1, 6, none⟩ = some (.int .i64 c1.p.log.term) := row_cell W5.out.r1 6
          by_cases h1 : c1.p.log.base < 0
          · clear hnh40 hnv200
            go_wp2_with fail
            refine (HKN.out w5).mono ?_
            rintro e x7 ⟨rfl, hx7⟩
            have HX7 := hid (W5.out.bel.trans (hx7.mono W5.out.bel.size))
            clear hx7
            go_wp2_with fail
            go_ret
            exact ⟨rfl, HX7.out⟩
          · by_cases h2 : 1099511627776 < c1.p.log.base
            · clear hnh40 hnv200
              go_wp2_with fail
              refine (HKN.out w5).mono ?_
              rintro e x7 ⟨rfl, hx7⟩
              have HX7 := hid (W5.out.bel.trans (hx7.mono W5.out.bel.size))
              clear hx7
              go_wp2_with fail
              go_ret
              exact ⟨rfl, HX7.out⟩
            · by_cases h3 : c1.p.log.term < 0
              · clear hnh40 hnv200
                go_wp2_with fail
                refine (HKN.out w5).mono ?_
                rintro e x7 ⟨rfl, hx7⟩
                have HX7 := hid (W5.out.bel.trans (hx7.mono W5.out.bel.size))
                clear hx7
                go_wp2_with fail
                go_ret
                exact ⟨rfl, HX7.out⟩
              · by_cases h4 : 1099511627776 < c1.p.log.term
                · clear hnh40 hnv200
                  go_wp2_with fail
                  refine (HKN.out w5).mono ?_
                  rintro e x7 ⟨rfl, hx7⟩
                  have HX7 := hid (W5.out.bel.trans (hx7.mono W5.out.bel.size))
                  clear hx7
                  go_wp2_with fail
                  go_ret
                  exact ⟨rfl, HX7.out⟩
                · have OB : Hid (okBase c1.p.log) := hid ⟨⟨Int.not_lt.1 h1, Int.not_lt.1 h2⟩, Int.not_lt.1 h3, Int.not_lt.1 h4⟩
                  obtain ⟨x, hx⟩ : ∃ x : Im, x = ⟨Q0.map (·.h), L0⟩ := ⟨_, rfl⟩
                  obtain ⟨r, er, hr⟩ : ∃ r er, apply x c1 = (r, er) := ⟨_, _, rfl⟩
                  have HSM : Hid (Sm 0 x) := hid (by rw [hx]; exact sm_start HFW.out HSO.out)
                  have HBX : Hid (∀ h ∈ x.hs, okBase h.p.log) := hid (by rw [hx]; intro h hh; obtain ⟨q, hq, rfl⟩ := List.mem_map.1 hh; exact basesB_iff HBA.out q hq)
                  have HSR : Hid (Sm 1 r) := hid (by have := sm_any (c := c1) HSM.out HBG.out; rw [hr] at this; exact this)
                  have HBR : Hid (∀ h ∈ r.hs, okBase h.p.log) := hid (by have := apply_base HBX.out OB.out; rw [hr] at this; exact this)
                  obtain ⟨nx, hnx⟩ : ∃ n, r.hs.length = n := ⟨_, rfl⟩
                  obtain ⟨mx, hmx⟩ : ∃ n, r.vs.length = n := ⟨_, rfl⟩
                  have HX0 := hid (And.intro hx (And.intro hr (And.intro hnx hmx)))
                  have hnx40 : nx ≤ 40 := by rw [← hnx]; exact HSR.out.hn
                  have hmx201 : mx ≤ 201 := by rw [← hmx]; have := HSR.out.vn; omega
                  have HAP := hid (apply_sm (n := 0) (by omega) i0 nh nv Q0 L0 c1 a1 nx mx hx.symm HN.out.1 HN.out.2 HSM.out HBX.out HBG.out hr hnx hmx w5 ((HX.out.1.below W5.out.bel).more W5.out.bel.size) ((HX.out.2.below W5.out.bel).more W5.out.bel.size))
                  have ld5 := W5.out.ldi
                  have lc5 := W5.out.ldc
                  clear hx hr hnx hmx
                  go_wp2_with fail
                  refine HAP.out.mono ?_
                  rintro e w6 ⟨iy, Qy, rfl, ⟨hQy, hQl⟩, hiy, hb6⟩
                  obtain ⟨b2, hb2⟩ : ∃ b, b = w6.heap.size := ⟨_, rfl⟩
                  obtain ⟨w7, hw7⟩ : ∃ w7, w7 = w6.alloc (.cells #[.slice iy.h nx iy.ch, .slice iy.v mx iy.cv] 25) := ⟨_, rfl⟩
                  have hst := stNew w6 25 2 info_image2 #[.slice none 0 0, .slice none 0 0] #[.slice iy.h nx iy.ch, .slice iy.v mx iy.cv] rfl rfl (by simp [Value.oneCell'])
                  rw [← hw7] at hst
                  have I7 : Hid (Wb w w7 i0 nh nv c1 a1 ∧ w7.heap[b2]? = some (.cells #[.slice iy.h nx iy.ch, .slice iy.v mx iy.cv] 25 (0, 0)) ∧ ImIs w7 w7.heap.size iy Qy r.vs ∧ (Qy.map (·.h) = r.hs ∧ Qy.length = nx)) := hid (by
                    have hb67 : Below w6.heap.size w6 w7 := by rw [hw7]; exact (Below.refl _ w6).alloc (Nat.le_refl _) _
                    exact ⟨W5.out.keep (hb6.trans (hb67.mono hb6.size)), by rw [hw7, hb2]; exact heap_alloc_new w6 _, (hiy.below hb67).more hb67.size, hQy, hQl⟩)
                  have HB2 := hid hb2
                  clear hQy hQl hiy hb6 hw7 HAP W5 ld5 lc5 m5 m6 h1 h2 h3 h4 hb2
                  by_cases hz : er = 0
                  · subst hz
                    have HA : Hid (Im.Apart x r c1) := hid (apart_of HSM.out.so.1 HSM.out.so.2 HX0.out.2.1)
                    have HA2 := hid (apply_sm (n := 1) (by omega) iy nx mx Qy r.vs c1 a1 nx mx (x := r) (r := r) (er := 0) (by rw [I7.out.2.2.2.1]) I7.out.2.2.2.2 HX0.out.2.2.2 HSR.out HBR.out HBG.out HA.out.twice HX0.out.2.2.1 HX0.out.2.2.2 w7 I7.out.2.2.1 ((HX.out.2.below I7.out.1.bel).more I7.out.1.bel.size))
                    have ld7 : (ldX 25 (.pointer (some ⟨b2, 0, none⟩))).run Try.prog w7 = .ok (.agg #[.slice iy.h nx iy.ch, .slice iy.v mx iy.cv]) w7 := ldRow info_image2 Try.underlying25 rfl I7.out.2.1 rfl
                    have lc7 := I7.out.1.ldc
                    rw [HB2.out] at ld7
                    go_wp2_with fail
                    try rw [← HB2.out]
                    clear hst ld7 lc7
                    refine HA2.out.mono ?_
                    rintro e w8 ⟨iz, Qz, rfl, ⟨hQz, hQl⟩, hiz, hb8⟩
                    obtain ⟨b3, hb3⟩ : ∃ b, b = w8.heap.size := ⟨_, rfl⟩
                    obtain ⟨w9, hw9⟩ : ∃ w9, w9 = w8.alloc (.cells #[.slice iz.h nx iz.ch, .slice iz.v mx iz.cv] 25) := ⟨_, rfl⟩
                    have hst := stNew w8 25 2 info_image2 #[.slice none 0 0, .slice none 0 0] #[.slice iz.h nx iz.ch, .slice iz.v mx iz.cv] rfl rfl (by simp [Value.oneCell'])
                    rw [← hw9] at hst
                    have I9 : Hid (Wb w w9 i0 nh nv c1 a1 ∧ w9.heap[b2]? = some (.cells #[.slice iy.h nx iy.ch, .slice iy.v mx iy.cv] 25 (0, 0)) ∧ w9.heap[b3]? = some (.cells #[.slice iz.h nx iz.ch, .slice iz.v mx iz.cv] 25 (0, 0)) ∧ ImIs w9 w9.heap.size iy Qy r.vs ∧ ImIs w9 w9.heap.size iz Qz r.vs ∧ ((Qy.map (·.h) = r.hs ∧ Qy.length = nx) ∧ Qz.map (·.h) = r.hs ∧ Qz.length = nx)) := hid (by
                      have hb89 : Below w8.heap.size w8 w9 := by rw [hw9]; exact (Below.refl _ w8).alloc (Nat.le_refl _) _
                      have hb79 : Below w7.heap.size w7 w9 := hb8.trans (hb89.mono hb8.size)
                      exact ⟨I7.out.1.keep hb79, (hb79.block _ (row_lt I7.out.2.1)).trans I7.out.2.1, by rw [hw9, hb3]; exact heap_alloc_new w8 _, (I7.out.2.2.1.below hb79).more hb79.size, (hiz.below hb89).more hb89.size, I7.out.2.2.2, hQz, hQl⟩)
                    have HB3 := hid hb3
                    clear hQz hQl hiz hb8 hw9 HA2 I7 hb3
                    obtain ⟨u, hu⟩ : ∃ u, without r c1 = u := ⟨_, rfl⟩
                    obtain ⟨n1, hn1⟩ : ∃ n, u.hs.length = n := ⟨_, rfl⟩
                    obtain ⟨m1, hm1⟩ : ∃ n, u.vs.length = n := ⟨_, rfl⟩
                    have HU := hid (And.intro hu (And.intro hn1 hm1))
                    have hone : nx + mx = n1 + m1 + 1 := by rw [← hn1, ← hm1, ← hu, ← HX0.out.2.2.1, ← HX0.out.2.2.2]; exact HA.out.one
                    clear hu hn1 hm1
                    obtain ⟨s9, hs9⟩ : ∃ s, s = w9.heap.size := ⟨_, rfl⟩
                    have HS9 := hid hs9
                    have FA : Hid (∀ W, Below s9 w9 W → Wb w W i0 nh nv c1 a1 ∧ W.heap[b2]? = some (.cells #[.slice iy.h nx iy.ch, .slice iy.v mx iy.cv] 25 (0, 0)) ∧ W.heap[b3]? = some (.cells #[.slice iz.h nx iz.ch, .slice iz.v mx iz.cv] 25 (0, 0)) ∧ ImIs W W.heap.size iy Qy r.vs ∧ ImIs W W.heap.size iz Qz r.vs ∧ (∃ h : True, ImIs W W.heap.size i0 Q0 L0 ∧ ChIs W W.heap.size c1 a1)) := hid (fun W hb => by
                      rw [hs9] at hb
                      obtain ⟨q1, q2, q3, q4, q5, _⟩ := I9.out
                      have hk := q1.keep hb
                      exact ⟨hk, (hb.block _ (row_lt q2)).trans q2, (hb.block _ (row_lt q3)).trans q3, (q4.below hb).more hb.size, (q5.below hb).more hb.size, trivial, (HX.out.1.below hk.bel).more hk.bel.size, (HX.out.2.below hk.bel).more hk.bel.size⟩)
                    have LD : Hid (∀ W, Below s9 w9 W → ((ldX 25 (.pointer (some ⟨w.heap.size, 0, none⟩))).run Try.prog W = .ok (.agg #[.slice i0.h nh i0.ch, .slice i0.v nv i0.cv]) W ∧ (ldX 36 (.pointer (some ⟨w.heap.size + 1, 0, none⟩))).run Try.prog W = .ok (.agg #[.int .i64 c1.k, .int .i64 c1.g, .int .i64 c1.t, .int .i64 c1.v, .int .i64 c1.f, .int .i64 c1.p.log.base, .int .i64 c1.p.log.term, .slice a1.e c1.p.log.es.length a1.ce, .slice a1.o c1.p.cf.old.length a1.co, .slice a1.n c1.p.cf.new.length a1.cn, .slice a1.l c1.p.cf.lrn.length a1.cl, .slice a1.s c1.p.sn.length a1.cs, .int .i64 c1.a.x, .int .i64 c1.a.p, .int .i64 c1.a.r, .int .i64 c1.a.b, .int .i64 c1.a.v]) W) ∧ (ldX 25 (.pointer (some ⟨b2, 0, none⟩))).run Try.prog W = .ok (.agg #[.slice iy.h nx iy.ch, .slice iy.v mx iy.cv]) W ∧ (ldX 25 (.pointer (some ⟨b3, 0, none⟩))).run Try.prog W = .ok (.agg #[.slice iz.h nx iz.ch, .slice iz.v mx iz.cv]) W) := hid (fun W hb => by
                      obtain ⟨q1, q2, q3, _⟩ := FA.out W hb
                      exact ⟨⟨q1.ldi, q1.ldc⟩, ldRow info_image2 Try.underlying25 rfl q2 rfl, ldRow info_image2 Try.underlying25 rfl q3 rfl⟩)
                    have HWY : Hid (∀ W, Below s9 w9 W → Calls Try.prog 11 #[.agg #[.slice iy.h nx iy.ch, .slice iy.v mx iy.cv], .agg #[.int .i64 c1.k, .int .i64 c1.g, .int .i64 c1.t, .int .i64 c1.v, .int .i64 c1.f, .int .i64 c1.p.log.base, .int .i64 c1.p.log.term, .slice a1.e c1.p.log.es.length a1.ce, .slice a1.o c1.p.cf.old.length a1.co, .slice a1.n c1.p.cf.new.length a1.cn, .slice a1.l c1.p.cf.lrn.length a1.cl, .slice a1.s c1.p.sn.length a1.cs, .int .i64 c1.a.x, .int .i64 c1.a.p, .int .i64 c1.a.r, .int .i64 c1.a.b, .int .i64 c1.a.v]] W fun e w' => ∃ (j : Ia) (R : List Hq), e = .returned (.agg #[.slice j.h n1 j.ch, .slice j.v m1 j.cv]) ∧ (R.map (·.h) = u.hs ∧ R.length = n1) ∧ (IsHds w' w'.heap.size j.h R ∧ IsVs w' w'.heap.size j.v u.vs) ∧ Below W.heap.size W w') := hid (fun W hb => by
                      obtain ⟨_, _, _, q4, _⟩ := FA.out W hb
                      exact without_im iy nx mx Qy r.vs c1 a1 n1 m1 (x := r) (u := u) (by rw [I9.out.2.2.2.2.2.1.1]) I9.out.2.2.2.2.2.1.2 HX0.out.2.2.2 (by omega) (by omega) HU.out.1 HU.out.2.1 HU.out.2.2 W q4.h q4.v)
                    have LB : Hid (∀ W, Below s9 w9 W → s9 ≤ W.heap.size) := hid (fun W hb => by have := hb.size; rw [← hs9] at this; exact this)
                    have hd9 : Below s9 w9 w9.drew := (Below.refl _ _).drew
                    have HD9 := hid hd9
                    have p0 := (LD.out w9 (Below.refl _ _)).1.2
                    have p1 := (LD.out w9 (Below.refl _ _)).2.1
                    have s0 := And.intro p0 p1
                    have s1 := And.intro (LD.out w9.drew hd9).1.2 (LD.out w9.drew hd9).2.1
                    clear hd9 p0 p1 hs9
                    have fd0 := field_im0
                    have fd1 := field_im1
                    have hn1b : n1 ≤ 300 := by omega
                    have hm1b : m1 ≤ 300 := by omega
                    have wr1 : IntKind.i64.wrap ((n1 : Int) + (m1 : Int)) = (n1 : Int) + (m1 : Int) := by rw [IntKind.wrap_i64]; omega
                    go_wp2_with fail
                    try rw [← HB3.out]
                    clear hst
                    go_region_held3 (fun W => (ldX 36 (.pointer (some ⟨w.heap.size + 1, 0, none⟩))).run Try.prog W = .ok (.agg #[.int .i64 c1.k, .int .i64 c1.g, .int .i64 c1.t, .int .i64 c1.v, .int .i64 c1.f, .int .i64 c1.p.log.base, .int .i64 c1.p.log.term, .slice a1.e c1.p.log.es.length a1.ce, .slice a1.o c1.p.cf.old.length a1.co, .slice a1.n c1.p.cf.new.length a1.cn, .slice a1.l c1.p.cf.lrn.length a1.cl, .slice a1.s c1.p.sn.length a1.cs, .int .i64 c1.a.x, .int .i64 c1.a.p, .int .i64 c1.a.r, .int .i64 c1.a.b, .int .i64 c1.a.v]) W ∧ (ldX 25 (.pointer (some ⟨b2, 0, none⟩))).run Try.prog W = .ok (.agg #[.slice iy.h nx iy.ch, .slice iy.v mx iy.cv]) W)
                      (first | with_reducible exact s4 | with_reducible exact s3 | with_reducible exact s1 | with_reducible exact s0 | fail)
                      (first
                        | (go_at_call 11; refine (HWY.out _ G3.out).mono ?_; rintro e v4 ⟨j4, R4, rfl, _, _, hb4⟩; have G4 : Hid (Below s9 w9 v4) := hid (G3.out.trans (hb4.mono (LB.out _ G3.out))); have s4 := And.intro (LD.out v4 G4.out).1.2 (LD.out v4 G4.out).2.1; clear hb4)
                        | (go_at_call 11; refine (HWY.out _ HD9.out).mono ?_; rintro e v3 ⟨j3, R3, rfl, _, _, hb3⟩; have G3 : Hid (Below s9 w9 v3) := hid (HD9.out.trans (hb3.mono (LB.out _ HD9.out))); have s3 := And.intro (LD.out v3 G3.out).1.2 (LD.out v3 G3.out).2.1; clear hb3)
                        | fail)
                    all_goals
                      have HOY : Hid (∀ W, Below s9 w9 W → Calls Try.prog 6 #[.agg #[.slice iy.h nx iy.ch, .slice iy.v mx iy.cv]] W fun e w' => e = .returned (.bool true) ∧ Below W.heap.size W w') := hid (fun W hb => by
                        obtain ⟨_, _, _, q4, _⟩ := FA.out W hb
                        have h := ordered_any iy nx mx Qy r.vs I9.out.2.2.2.2.2.1.2 HX0.out.2.2.2 (by omega) (by omega) W q4.h q4.v
                        have hs : sorted ⟨Qy.map (·.h), r.vs⟩ = true := by
                          rw [I9.out.2.2.2.2.2.1.1]
                          unfold sorted
                          rw [Bool.and_eq_true]
                          exact HSR.out.so
                        rw [hs] at h
                        exact h)
                      have HWX : Hid (∀ W, Below s9 w9 W → Calls Try.prog 11 #[.agg #[.slice i0.h nh i0.ch, .slice i0.v nv i0.cv], .agg #[.int .i64 c1.k, .int .i64 c1.g, .int .i64 c1.t, .int .i64 c1.v, .int .i64 c1.f, .int .i64 c1.p.log.base, .int .i64 c1.p.log.term, .slice a1.e c1.p.log.es.length a1.ce, .slice a1.o c1.p.cf.old.length a1.co, .slice a1.n c1.p.cf.new.length a1.cn, .slice a1.l c1.p.cf.lrn.length a1.cl, .slice a1.s c1.p.sn.length a1.cs, .int .i64 c1.a.x, .int .i64 c1.a.p, .int .i64 c1.a.r, .int .i64 c1.a.b, .int .i64 c1.a.v]] W fun e w' => ∃ (j : Ia) (R : List Hq), e = .returned (.agg #[.slice j.h n1 j.ch, .slice j.v m1 j.cv]) ∧ (R.map (·.h) = u.hs ∧ R.length = n1) ∧ (IsHds w' w'.heap.size j.h R ∧ IsVs w' w'.heap.size j.v u.vs) ∧ Below W.heap.size W w') := hid (fun W hb => by
                        obtain ⟨_, _, _, _, _, _, q4, _⟩ := FA.out W hb
                        exact without_im i0 nh nv Q0 L0 c1 a1 n1 m1 (x := x) (u := u) HX0.out.1.symm HN.out.1 HN.out.2 (by omega) (by omega) (HA.out.same.trans HU.out.1) HU.out.2.1 HU.out.2.2 W q4.h q4.v)
                      have HSU : Hid (∀ (W : World) (j j' : Ia) (R R' : List Hq), (R.map (·.h) = u.hs ∧ R.length = n1) → (R'.map (·.h) = u.hs ∧ R'.length = n1) → (IsHds W W.heap.size j.h R ∧ IsVs W W.heap.size j.v u.vs) → (IsHds W W.heap.size j'.h R' ∧ IsVs W W.heap.size j'.v u.vs) → Calls Try.prog 12 #[.agg #[.slice j.h n1 j.ch, .slice j.v m1 j.cv], .agg #[.slice j'.h n1 j'.ch, .slice j'.v m1 j'.cv]] W fun e w' => e = .returned (.bool true) ∧ Below W.heap.size W w') := hid (fun W j j' R R' e1 e2 g1 g2 => by
                        exact sameIm_any j j' n1 m1 R R' u.vs e1.2 HU.out.2.2 (e1.1.trans e2.1.symm) (by omega) (by omega) (fun q hq => (smP_few (HSR.out.p q.h (without_mem (c := c1) (by rw [HU.out.1, ← e1.1]; exact List.mem_map.2 ⟨q, hq, rfl⟩))) (by omega)).1.1.1) W g1.1 g2.1 g1.2 g2.2)
                      have HSZ : Hid (∀ W, Below s9 w9 W → Calls Try.prog 12 #[.agg #[.slice iy.h nx iy.ch, .slice iy.v mx iy.cv], .agg #[.slice iz.h nx iz.ch, .slice iz.v mx iz.cv]] W fun e w' => e = .returned (.bool true) ∧ Below W.heap.size W w') := hid (fun W hb => by
                        obtain ⟨_, _, _, q4, q5, _⟩ := FA.out W hb
                        obtain ⟨⟨e1, e2⟩, e3, e4⟩ := I9.out.2.2.2.2.2
                        exact sameIm_any iy iz nx mx Qy Qz r.vs e2 HX0.out.2.2.2 (e1.trans e3.symm) (by omega) (by omega) (fun q hq => (smP_few (HSR.out.p q.h (by rw [← e1]; exact List.mem_map.2 ⟨q, hq, rfl⟩)) (by omega)).1.1.1) W q4.h q5.h q4.v q5.v)
                      have y0 := row_cell (FA.out v4 G4.out).2.1 0
                      have y1 := row_cell (FA.out v4 G4.out).2.1 1
                      have x0 := row_cell (FA.out v4 G4.out).1.r0 0
                      have k0 := row_cell (FA.out v4 G4.out).1.r1 0
                      have e0 := LD.out v4 G4.out
                      have G4d := hid (show Below s9 w9 v4.drew from G4.out.drew)
                      have e1 := LD.out v4.drew G4d.out
                      have hne : ((nx : Int) + (mx : Int) != (n1 : Int) + (m1 : Int) + 1) = false := by simp; omega
                      have HLEN : Hid (nx = nh ∨ c1.k = 4) := hid (by
                        rcases HA.out.len with h | h
                        · left; rw [← HX0.out.2.2.1, h, HX0.out.1]; show (Q0.map (·.h)).length = nh; rw [List.length_map]; exact HN.out.1
                        · exact .inr h)
                      clear s0 s1 s3 s4 G3 fd0 fd1 wr1
                      by_cases hnn : nx = nh
                      · have hnb : ((nx : Int) != (nh : Int)) = false := by simp; omega
                        clear HLEN hnn
                        go_wp2_with fail
                        go_region_held3 (fun W => ((ldX 25 (.pointer (some ⟨w.heap.size, 0, none⟩))).run Try.prog W = .ok (.agg #[.slice i0.h nh i0.ch, .slice i0.v nv i0.cv]) W ∧ (ldX 36 (.pointer (some ⟨w.heap.size + 1, 0, none⟩))).run Try.prog W = .ok (.agg #[.int .i64 c1.k, .int .i64 c1.g, .int .i64 c1.t, .int .i64 c1.v, .int .i64 c1.f, .int .i64 c1.p.log.base, .int .i64 c1.p.log.term, .slice a1.e c1.p.log.es.length a1.ce, .slice a1.o c1.p.cf.old.length a1.co, .slice a1.n c1.p.cf.new.length a1.cn, .slice a1.l c1.p.cf.lrn.length a1.cl, .slice a1.s c1.p.sn.length a1.cs, .int .i64 c1.a.x, .int .i64 c1.a.p, .int .i64 c1.a.r, .int .i64 c1.a.b, .int .i64 c1.a.v]) W) ∧ (ldX 25 (.pointer (some ⟨b2, 0, none⟩))).run Try.prog W = .ok (.agg #[.slice iy.h nx iy.ch, .slice iy.v mx iy.cv]) W ∧ (ldX 25 (.pointer (some ⟨b3, 0, none⟩))).run Try.prog W = .ok (.agg #[.slice iz.h nx iz.ch, .slice iz.v mx iz.cv]) W)
                          (first | with_reducible exact e10 | with_reducible exact e9 | with_reducible exact e8 | with_reducible exact e7 | with_reducible exact e6 | with_reducible exact e5 | with_reducible exact e1 | with_reducible exact e0 | fail)
                          (first
                            | (go_at_call 9; refine (HKN.out _).mono ?_; rintro e v10 ⟨rfl, hb10⟩; have G10 := hid (G9.out.trans (hb10.mono (LB.out _ G9.out))); have e10 := LD.out v10 G10.out; clear hb10)
                            | (go_at_call 12; refine (HSZ.out _ G8.out).mono ?_; rintro e v9 ⟨rfl, hb9⟩; have G9 := hid (G8.out.trans (hb9.mono (LB.out _ G8.out))); have e9 := LD.out v9 G9.out; clear hb9)
                            | (go_at_call 12; refine (HSU.out _ jx jy Rx Ry ERX.out ERY.out HUU.out.1 HUU.out.2).mono ?_; rintro e v8 ⟨rfl, hb8⟩; have G8 := hid (G7.out.trans (hb8.mono (LB.out _ G7.out))); have e8 := LD.out v8 G8.out; clear hb8)
                            | (go_at_call 11; refine (HWY.out _ G6.out).mono ?_; rintro e v7 ⟨jy, Ry, rfl, hRy, hIy, hb7⟩; have G7 := hid (G6.out.trans (hb7.mono (LB.out _ G6.out))); have ERY := hid hRy; have HUU := hid (And.intro (And.intro ((HVX.out.1.below hb7).more hb7.size) ((HVX.out.2.below hb7).more hb7.size)) hIy); have e7 := LD.out v7 G7.out; clear hb7 hRy hIy)
                            | (go_at_call 11; refine (HWX.out _ G6.out).mono ?_; rintro e v7 ⟨jx, Rx, rfl, hRx, hIx, hb7⟩; have G7 := hid (G6.out.trans (hb7.mono (LB.out _ G6.out))); have ERX := hid hRx; have HUU := hid (And.intro hIx (And.intro ((HVY.out.1.below hb7).more hb7.size) ((HVY.out.2.below hb7).more hb7.size))); have e7 := LD.out v7 G7.out; clear hb7 hRx hIx)
                            | (go_at_call 11; refine (HWX.out _ G5.out).mono ?_; rintro e v6 ⟨jx, Rx, rfl, hRx, hIx, hb6⟩; have G6 := hid (G5.out.trans (hb6.mono (LB.out _ G5.out))); have ERX := hid hRx; have HVX := hid hIx; have e6 := LD.out v6 G6.out; clear hb6 hRx hIx)
                            | (go_at_call 11; refine (HWY.out _ G5.out).mono ?_; rintro e v6 ⟨jy, Ry, rfl, hRy, hIy, hb6⟩; have G6 := hid (G5.out.trans (hb6.mono (LB.out _ G5.out))); have ERY := hid hRy; have HVY := hid hIy; have e6 := LD.out v6 G6.out; clear hb6 hRy hIy)
                            | (go_at_call 6; refine (HOY.out _ G4d.out).mono ?_; rintro e v5 ⟨rfl, hb5⟩; have G5 := hid (G4d.out.trans (hb5.mono (LB.out _ G4d.out))); have e5 := LD.out v5 G5.out; clear hb5)
                            | fail)
                        all_goals
                          (have HB10 := hid (FA.out v10 G10.out).1.bel
                           clear e0 e1 e5 e6 e7 e8 e9 e10 FA LD HWY HWX HSU HSZ HOY HUU
                           go_wp2_with fail
                           go_ret
                           exact ⟨rfl, HB10.out⟩)
                      · have hk4 : c1.k = 4 := HLEN.out.resolve_left hnn
                        have k0' : v4.cell? ⟨w.heap.size + 1, 0, none⟩ = some (.int .i64 4) := by rw [← hk4]; exact k0
                        have hnb : ((nx : Int) != (nh : Int)) = true := by simp; omega
                        clear HLEN hnn hk4 k0
                        go_wp2_with fail
                        go_region_held3 (fun W => ((ldX 25 (.pointer (some ⟨w.heap.size, 0, none⟩))).run Try.prog W = .ok (.agg #[.slice i0.h nh i0.ch, .slice i0.v nv i0.cv]) W ∧ (ldX 36 (.pointer (some ⟨w.heap.size + 1, 0, none⟩))).run Try.prog W = .ok (.agg #[.int .i64 c1.k, .int .i64 c1.g, .int .i64 c1.t, .int .i64 c1.v, .int .i64 c1.f, .int .i64 c1.p.log.base, .int .i64 c1.p.log.term, .slice a1.e c1.p.log.es.length a1.ce, .slice a1.o c1.p.cf.old.length a1.co, .slice a1.n c1.p.cf.new.length a1.cn, .slice a1.l c1.p.cf.lrn.length a1.cl, .slice a1.s c1.p.sn.length a1.cs, .int .i64 c1.a.x, .int .i64 c1.a.p, .int .i64 c1.a.r, .int .i64 c1.a.b, .int .i64 c1.a.v]) W) ∧ (ldX 25 (.pointer (some ⟨b2, 0, none⟩))).run Try.prog W = .ok (.agg #[.slice iy.h nx iy.ch, .slice iy.v mx iy.cv]) W ∧ (ldX 25 (.pointer (some ⟨b3, 0, none⟩))).run Try.prog W = .ok (.agg #[.slice iz.h nx iz.ch, .slice iz.v mx iz.cv]) W)
                          (first | with_reducible exact e10 | with_reducible exact e9 | with_reducible exact e8 | with_reducible exact e7 | with_reducible exact e6 | with_reducible exact e5 | with_reducible exact e1 | with_reducible exact e0 | fail)
                          (first
                            | (go_at_call 9; refine (HKN.out _).mono ?_; rintro e v10 ⟨rfl, hb10⟩; have G10 := hid (G9.out.trans (hb10.mono (LB.out _ G9.out))); have e10 := LD.out v10 G10.out; clear hb10)
                            | (go_at_call 12; refine (HSZ.out _ G8.out).mono ?_; rintro e v9 ⟨rfl, hb9⟩; have G9 := hid (G8.out.trans (hb9.mono (LB.out _ G8.out))); have e9 := LD.out v9 G9.out; clear hb9)
                            | (go_at_call 12; refine (HSU.out _ jx jy Rx Ry ERX.out ERY.out HUU.out.1 HUU.out.2).mono ?_; rintro e v8 ⟨rfl, hb8⟩; have G8 := hid (G7.out.trans (hb8.mono (LB.out _ G7.out))); have e8 := LD.out v8 G8.out; clear hb8)
                            | (go_at_call 11; refine (HWY.out _ G6.out).mono ?_; rintro e v7 ⟨jy, Ry, rfl, hRy, hIy, hb7⟩; have G7 := hid (G6.out.trans (hb7.mono (LB.out _ G6.out))); have ERY := hid hRy; have HUU := hid (And.intro (And.intro ((HVX.out.1.below hb7).more hb7.size) ((HVX.out.2.below hb7).more hb7.size)) hIy); have e7 := LD.out v7 G7.out; clear hb7 hRy hIy)
                            | (go_at_call 11; refine (HWX.out _ G6.out).mono ?_; rintro e v7 ⟨jx, Rx, rfl, hRx, hIx, hb7⟩; have G7 := hid (G6.out.trans (hb7.mono (LB.out _ G6.out))); have ERX := hid hRx; have HUU := hid (And.intro hIx (And.intro ((HVY.out.1.below hb7).more hb7.size) ((HVY.out.2.below hb7).more hb7.size))); have e7 := LD.out v7 G7.out; clear hb7 hRx hIx)
                            | (go_at_call 11; refine (HWX.out _ G5.out).mono ?_; rintro e v6 ⟨jx, Rx, rfl, hRx, hIx, hb6⟩; have G6 := hid (G5.out.trans (hb6.mono (LB.out _ G5.out))); have ERX := hid hRx; have HVX := hid hIx; have e6 := LD.out v6 G6.out; clear hb6 hRx hIx)
                            | (go_at_call 11; refine (HWY.out _ G5.out).mono ?_; rintro e v6 ⟨jy, Ry, rfl, hRy, hIy, hb6⟩; have G6 := hid (G5.out.trans (hb6.mono (LB.out _ G5.out))); have ERY := hid hRy; have HVY := hid hIy; have e6 := LD.out v6 G6.out; clear hb6 hRy hIy)
                            | (go_at_call 6; refine (HOY.out _ G4d.out).mono ?_; rintro e v5 ⟨rfl, hb5⟩; have G5 := hid (G4d.out.trans (hb5.mono (LB.out _ G4d.out))); have e5 := LD.out v5 G5.out; clear hb5)
                            | fail)
                        all_goals
                          (have HB10 := hid (FA.out v10 G10.out).1.bel
                           clear e0 e1 e5 e6 e7 e8 e9 e10 FA LD HWY HWX HSU HSZ HOY HUU
                           go_wp2_with fail
                           go_ret
                           exact ⟨rfl, HB10.out⟩)
                  · have hzb : (er != 0) = true := by simpa using hz
                    have HR0 : Hid (r = ⟨[], []⟩) := hid (by have := apply_err (x := x) (c := c1) (by rw [HX0.out.2.1]; exact hz); rw [HX0.out.2.1] at this; exact this)
                    have n0 : nx = 0 := by rw [← HX0.out.2.2.1, HR0.out]; rfl
                    have m0 : mx = 0 := by rw [← HX0.out.2.2.2, HR0.out]; rfl
                    clear hnx40 hmx201 HX0 HSR HBR HSM HBX
                    subst n0 m0
                    have y0 := row_cell I7.out.2.1 0
                    have y1 := row_cell I7.out.2.1 1
                    rw [HB2.out] at y0 y1
                    go_wp2_with fail
                    refine (HKN.out w7).mono ?_
                    rintro e x8 ⟨rfl, hx8⟩
                    have HX8 := hid (I7.out.1.bel.trans (hx8.mono I7.out.1.bel.size))
                    clear hx8
                    go_wp2_with fail
                    go_ret
                    exact ⟨rfl, HX8.out⟩
set_option maxRecDepth 100000 in
theorem lifted (os : Os) (started : os.Started) (H : Type) (enc : TypeId × Value → H) :
    ReturnsInHanded {} Try.checked os 3 .any (Rows.imageApartSpec.pre6 enc Try.prog Try.f3 Rows.imageApartRow.domain false) (Rows.imageApartSpec.post enc Try.prog Try.f3 false true false false) := by
  refine returnsInHanded_of_change_sized (C := Try.checked) own started (by kernel_rfl) Try.func3
    (ChangeSpec.witness6 (enc := enc) (C := Try.checked) false ⟨#[], #[.agg #[.slice none 0 0, .slice none 0 0], .agg #[.int .i64 0, .int .i64 0, .int .i64 0, .int .i64 0, .int .i64 0, .int .i64 0, .int .i64 0, .slice none 0 0, .slice none 0 0, .slice none 0 0, .slice none 0 0, .slice none 0 0, .int .i64 0, .int .i64 0, .int .i64 0, .int .i64 0, .int .i64 0]], []⟩ 8 (by kernel_rfl) (by kernel_rfl) (by kernel_rfl) (by kernel_rfl)) ?_
  intro W base args ds gs before hval0 hW hcnd hsz0 _
  have hsz : (DataW.weightsEach Try.prog (Try.f3.params.toList ++ Rows.imageApartSpec.plain.varTypes Try.prog) (ds ++ gs)).all (· ≤ reachBytes) = true := hsz0
  clear hsz0
  have hval : ∀ (j : Nat) t v, Try.f3.params[j]? = some t → args[j]? = some v → Value.okWide Try.prog W .any base t v := hval0
  have hW' := hW
  obtain ⟨p, q, hA0, hV, rfl, hfz, hnd⟩ := hW
  have hA : DataW.TrodAll enc Try.prog W 0 (fun _ => true) true Try.f3.params.toList args.toList ds p := hA0
  rw [Try.params3] at hA hval hsz
  obtain ⟨v0, vs0, d0, ds0, p0, q0, hargs, rfl, rfl, g0, t0⟩ := trodAll_cons hA
  obtain ⟨v1, vs1, d1, ds1, p1, q1, rfl, rfl, rfl, g1, t1⟩ := trodAll_cons t0
  obtain ⟨rfl, rfl, rfl⟩ := trodAll_nil t1
  obtain rfl : args = #[v0, v1] := by cases args; simp_all
  obtain ⟨rfl, rfl⟩ := trodVars_none hV
  obtain ⟨cs0, rfl, sz0⟩ := okWide_struct Try.underlying25 (hval 0 25 v0 rfl rfl)
  have m0 := g0
  have lt0 : ∀ x ∈ p0, x.block < W.heap.size := by obtain ⟨m, hm⟩ := m0; exact DataW.trod_lt m _ _ _ hm
  obtain ⟨i0, Q0, L0, rfl, k0⟩ := Im.image_open sz0 g0
  obtain ⟨cs1, rfl, sz1⟩ := okWide_struct Try.underlying36 (hval 1 36 v1 rfl rfl)
  have m1 := g1
  have lt1 : ∀ x ∈ p1, x.block < W.heap.size := by obtain ⟨m, hm⟩ := m1; exact DataW.trod_lt m _ _ _ hm
  obtain ⟨c1, a1, rfl, k1⟩ := Im.change_open sz1 g1
  clear hA0 hval0
  refine (walk i0 Q0 L0 c1 a1 W k0 k1).mono fun e W' ⟨he, bel⟩ => ?_
  subst he
  exact ⟨_, rfl, _, _, _, [], _, [], hW', trodAll_mk1 (shut_bool Try.underlying4 _), (trodAll_cons_mk (Below.trod laidOut (by kernel_rfl) (of_decide_eq_true (by kernel_rfl)) m0 bel lt0) (trodAll_cons_mk (Below.trod laidOut (by kernel_rfl) (of_decide_eq_true (by kernel_rfl)) m1 bel lt1) trodAll_mk0)), rfl, bel.frame _, fun h => by cases h⟩
theorem over : Rows.imageApartRow.holds Try.pinned (OpenSpec.ofChange Rows.imageApartSpec) :=
  OpenClaim.holds_of_wide 3 Try.f3 rfl rfl rfl rfl rfl rfl rfl ⟨rfl, rfl, rfl, rfl, rfl⟩ rfl rfl rfl rfl rfl (by kernel_rfl) Try.func3 (by kernel_rfl)
    (of_decide_eq_true (by kernel_rfl)) (by unfold Func.isWrapper; first | (rw [if_pos (by decide +kernel)]; kernel_rfl) | (rw [if_neg (by decide +kernel)]; exact ⟨rfl, rfl⟩))
    (fun os started H enc _ => lifted os started H enc)
theorem proved : Rows.ImageApartSaid := over
end Go.Proofs.Ytaeoccpjdjafnaa.imageApart
