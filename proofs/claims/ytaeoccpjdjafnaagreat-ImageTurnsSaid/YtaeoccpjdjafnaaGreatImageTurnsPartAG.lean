/- Texts of the proof, one behind the other: RfApV, RlRefL, RlRefB, RfSnap, RfTurned, RfTurn2, RfApH, ImTu, RefInt, RefBlob, PackRefPut. -/
import Derived.Test.YtaeoccpjdjafnaaGreatImageTurnsPartAF
import Derived.Deep.RegionHeld3
import Derived.Deep.CutRange
import Derived.Test.YtaeoccpjdjafnaaGreatImageTurnsPartAA
import Derived.Test.YtaeoccpjdjafnaaGreatImageTurnsPartAB
import Derived.Test.YtaeoccpjdjafnaaGreatImageTurnsPartAC
import Derived.Test.YtaeoccpjdjafnaaGreatImageTurnsPartAE
namespace Go.Proofs.YtaeoccpjdjafnaaGreat.Im
open Go Go.RowKit
open Rl (En Lg)
open Qu (Cf)
set_option maxRecDepth 100000
set_option linter.unusedVariables false
local instance lo32 : Lo := ⟨0⟩
attribute [local go_sem ↓] loadAt_hard storeAt_hard loadAt_change storeAt_change loadAt_image storeAt_image loadAt_vote storeAt_vote
def RefA (w : World) (r : Im × Int) (e : Ending) (w' : World) : Prop := ∃ (i : Ia) (nh nv : Nat) (er : Int), e = .returned (.tuple #[.agg #[.slice i.h nh i.ch, .slice i.v nv i.cv], .int .i64 er]) ∧ er = r.2 ∧ (∃ Q L, (nh = Q.length ∧ nv = L.length) ∧ InIm w' w.heap.size w'.heap.size i Q L ∧ (⟨Q.map (·.h), L⟩ : Im) = r.1) ∧ Below w.heap.size w w'
theorem refA_none {w W : World} (er : Int) (hb : Below w.heap.size w W) {r : Im × Int} (hr : r = (⟨[], []⟩, er)) : RefA w r (.returned (.tuple #[.agg #[.slice none 0 0, .slice none 0 0], .int .i64 er])) W := by
  rw [hr]
  exact ⟨⟨none, 0, none, 0⟩, 0, 0, er, rfl, rfl, ⟨[], [], ⟨rfl, rfl⟩, ⟨InHs.nil _ _ _, InVs.nil _ _ _⟩, rfl⟩, hb⟩
structure Az (w W : World) (v1 v2 : Value) (c : Ch) (ac : Ad) (j : Ia) (nh : Nat) (V2 : Value) (b6 : Nat) (M : List Hq) : Prop where
  ap : Ap w v1 v2 c ac W
  r6 : W.heap[b6]? = some (.cells #[.slice j.h nh j.ch, V2] 25 (0, 0))
  hs : InHs W (w.heap.size + 3) b6 j.h j.ch M
  lt : w.heap.size + 3 ≤ b6
namespace Az
variable {w W W' : World} {v1 v2 V2 : Value} {c : Ch} {ac : Ad} {j : Ia} {nh b6 : Nat} {M : List Hq}
theorem belowB (h : Az w W v1 v2 c ac j nh V2 b6 M) (hb : Below (b6 + 1) W W') : Az w W' v1 v2 c ac j nh V2 b6 M := by
  have hl := h.lt
  have h6 := row_lt h.r6
  exact ⟨⟨h.ap.bel.trans (hb.mono (by omega)), (hb.block _ (by omega)).trans h.ap.r2, (hb.block _ (by omega)).trans h.ap.r3, (hb.block _ (by omega)).trans h.ap.r4⟩, (hb.block _ (by omega)).trans h.r6, h.hs.below (hb.mono (by omega)), hl⟩
theorem grow (h : Az w W v1 v2 c ac j nh V2 b6 M) (hb : Below W.heap.size W W') : Az w W' v1 v2 c ac j nh V2 b6 M := h.belowB (hb.mono (row_lt h.r6))
theorem set1 (h : Az w W v1 v2 c ac j nh V2 b6 M) (v : Value) : Az w (W.setCell ⟨b6, 1, none⟩ v) v1 v2 c ac j nh v b6 M := by
  have hT : Turned (fun k => k = b6) W (W.setCell ⟨b6, 1, none⟩ v) := Turned.one _ _ _ _
  have hl := h.lt
  exact ⟨h.ap.turned (by omega) hT, row_set h.r6 1 v, h.hs.keep hT (fun k hk hB => by have := hB.2; omega), hl⟩
end Az
theorem run_ldVoteC {w : World} {c : Ch} {ac : Ad} {b : Nat} (h : w.heap[b]? = some (.cells #[.int .i64 c.k, .int .i64 c.g, .int .i64 c.t, .int .i64 c.v, .int .i64 c.f, .int .i64 c.p.log.base, .int .i64 c.p.log.term, .slice ac.e c.p.log.es.length ac.ce, .slice ac.o c.p.cf.old.length ac.co, .slice ac.n c.p.cf.new.length ac.cn, .slice ac.l c.p.cf.lrn.length ac.cl, .slice ac.s c.p.sn.length ac.cs, .int .i64 c.a.x, .int .i64 c.a.p, .int .i64 c.a.r, .int .i64 c.a.b, .int .i64 c.a.v] 62 (0, 0))) : (ldX 60 (.pointer (some ⟨b, 12, none⟩))).run Tryz.prog w = .ok (.agg #[.int .i64 c.a.x, .int .i64 c.a.p, .int .i64 c.a.r, .int .i64 c.a.b, .int .i64 c.a.v]) w :=
  ldV w b 12 (cellsV c.a) rfl (by
    have := range_row (cs := [.int .i64 c.k, .int .i64 c.g, .int .i64 c.t, .int .i64 c.v, .int .i64 c.f, .int .i64 c.p.log.base, .int .i64 c.p.log.term, .slice ac.e c.p.log.es.length ac.ce, .slice ac.o c.p.cf.old.length ac.co, .slice ac.n c.p.cf.new.length ac.cn, .slice ac.l c.p.cf.lrn.length ac.cl, .slice ac.s c.p.sn.length ac.cs, .int .i64 c.a.x, .int .i64 c.a.p, .int .i64 c.a.r, .int .i64 c.a.b, .int .i64 c.a.v]) h
    intro j v hv
    have hj : j < 5 := (List.getElem?_eq_some_iff.1 hv).1
    have := this (12 + j) v (by
      match j, hj with
      | 0, _ => exact hv
      | 1, _ => exact hv
      | 2, _ => exact hv
      | 3, _ => exact hv
      | 4, _ => exact hv)
    rwa [Nat.zero_add] at this)
set_option maxHeartbeats 3200000 in
theorem rApply0_any (i : Ia) (nh nv : Nat) (Q : List Hq) (L : List Vt) (c : Ch) (ac : Ad) (hk : c.k < 1 ∨ 4 < c.k) (hnh : nh = Q.length) (hnv : nv = L.length) (hlh : nh ≤ 10000) (hlv : nv ≤ 10000) (hf : ∀ q ∈ Q, (FewK q.h.p ∧ Rl.Few q.h.p.log.es) ∧ q.h.p.sn.length ≤ 140737488355328) (w : World) (hh : IsHds w w.heap.size i.h Q) (hv : IsVs w w.heap.size i.v L) :
    Calls Tryz.prog 38 #[.agg #[.slice i.h nh i.ch, .slice i.v nv i.cv], .agg #[.int .i64 c.k, .int .i64 c.g, .int .i64 c.t, .int .i64 c.v, .int .i64 c.f, .int .i64 c.p.log.base, .int .i64 c.p.log.term, .slice ac.e c.p.log.es.length ac.ce, .slice ac.o c.p.cf.old.length ac.co, .slice ac.n c.p.cf.new.length ac.cn, .slice ac.l c.p.cf.lrn.length ac.cl, .slice ac.s c.p.sn.length ac.cs, .int .i64 c.a.x, .int .i64 c.a.p, .int .i64 c.a.r, .int .i64 c.a.b, .int .i64 c.a.v]] w (RefA w (apply ⟨Q.map (·.h), L⟩ c)) := by
  have HA : Hid (apply ⟨Q.map (·.h), L⟩ c = (⟨[], []⟩, 13)) := hid (by
    unfold apply
    rw [if_neg (by omega), if_neg (by omega)])
  obtain ⟨wA, hwA⟩ : ∃ wA, wA = (((w.alloc (.cells #[.slice i.h nh i.ch, .slice i.v nv i.cv] 25)).alloc (.cells #[.int .i64 c.k, .int .i64 c.g, .int .i64 c.t, .int .i64 c.v, .int .i64 c.f, .int .i64 c.p.log.base, .int .i64 c.p.log.term, .slice ac.e c.p.log.es.length ac.ce, .slice ac.o c.p.cf.old.length ac.co, .slice ac.n c.p.cf.new.length ac.cn, .slice ac.l c.p.cf.lrn.length ac.cl, .slice ac.s c.p.sn.length ac.cs, .int .i64 c.a.x, .int .i64 c.a.p, .int .i64 c.a.r, .int .i64 c.a.b, .int .i64 c.a.v] 62)).alloc (.cells #[.slice none 0 0, .slice none 0 0] 25)) := ⟨_, rfl⟩
  have hg := ap_start w (.slice i.h nh i.ch) (.slice i.v nv i.cv) c ac
  rw [← hwA] at hg
  have hzA : wA.heap.size = w.heap.size + 3 := by rw [hwA]; simp
  have ldA := ldRow info_image2 Tryz.underlying25 rfl hg.r2 rfl
  have HCI := hid (copyIm_any i nh nv Q L hnh.symm hnv.symm hlh hlv hf wA ((hh.below hg.bel).more hg.bel.size) ((hv.below hg.bel).more hg.bel.size))
  have HG := hid (And.intro hg hzA)
  have HN := hid (And.intro hnh hnv)
  have HV0 := hid hv
  rw [hwA] at ldA
  clear hg hzA hh hv hf hnh hnv
  go_enter Tryz.func38, Tryz.ntmps38
  go_wp2_with fail
  rw [← hwA]
  clear hwA ldA
  refine HCI.out.mono ?_
  rintro e w1 ⟨j, rfl, ⟨M, hM, ho⟩, hb1⟩
  obtain ⟨b6, hb6⟩ : ∃ b, b = w1.heap.size := ⟨_, rfl⟩
  obtain ⟨w2, hw2⟩ : ∃ w2, w2 = w1.alloc (.cells #[.slice j.h nh j.ch, .slice j.v nv j.cv] 25) := ⟨_, rfl⟩
  have st2 := stNew w1 25 2 info_image2 #[.slice none 0 0, .slice none 0 0] #[.slice j.h nh j.ch, .slice j.v nv j.cv] rfl rfl (by simp [Value.oneCell'])
  rw [← hw2] at st2
  have Z2 : Hid (Az w w2 (.slice i.h nh i.ch) (.slice i.v nv i.cv) c ac j nh (.slice j.v nv j.cv) b6 M ∧ InVs w2 (w.heap.size + 3) b6 j.v j.cv L) := hid (by
    obtain ⟨hg, hzA⟩ := HG.out
    have hb12 : Below w1.heap.size w1 w2 := by rw [hw2]; exact (Below.refl _ _).alloc (Nat.le_refl _) _
    have hb : Below wA.heap.size wA w2 := hb1.trans (hb12.mono hb1.size)
    have hz := hb1.size
    rw [hb6]
    refine ⟨⟨hg.grow hb, by rw [hw2]; exact heap_alloc_new w1 _, ?_, by omega⟩, ?_⟩
    · rw [← hzA]; exact ho.h.below hb12
    · rw [← hzA]; exact ho.v.below hb12)
  have HM := hid hM
  clear ho hb1 hM HG HCI hw2
  have k0 : w2.cell? ⟨w.heap.size + 1, 0, none⟩ = some (.int .i64 c.k) := row_cell Z2.out.1.ap.r3 0
  have st4 := stSame info_image2 Z2.out.1.ap.r4 rfl (by simp [Value.oneCell'])
  by_cases h1 : c.k < 1
  · clear hk
    go_wp2_with fail
    refine bodyPost_ret (results_two rfl info_image2 Tryz.underlying25 rfl _ _ (w.heap.size + 1 + 1) _ _ _ rfl Z2.out.1.ap.r4 rfl) rfl ?_
    exact refA_none 13 Z2.out.1.ap.bel HA.out
  · have h4 : 4 < c.k := by omega
    clear hk
    go_wp2_with fail
    refine bodyPost_ret (results_two rfl info_image2 Tryz.underlying25 rfl _ _ (w.heap.size + 1 + 1) _ _ _ rfl Z2.out.1.ap.r4 rfl) rfl ?_
    exact refA_none 13 Z2.out.1.ap.bel HA.out
structure AV (w W : World) (v1 v2 : Value) (c : Ch) (ac : Ad) (j : Ia) (nh b6 : Nat) (M : List Hq) (Av : Option Addr) (cv : Nat) (O : List Vt) (q : Nat) : Prop where
  az : Az w W v1 v2 c ac j nh (.slice Av q cv) b6 M
  vs : InVs W (b6 + 1) W.heap.size Av cv O
  len : O.length = q
namespace AV
variable {w W W' w5 w6 : World} {v1 v2 : Value} {c : Ch} {ac : Ad} {j : Ia} {nh b6 cv q c6 : Nat} {M : List Hq} {Av A6 : Option Addr} {O : List Vt} {v : Vt}
theorem grow (h : AV w W v1 v2 c ac j nh b6 M Av cv O q) (hb : Below W.heap.size W W') : AV w W' v1 v2 c ac j nh b6 M Av cv O q :=
  ⟨h.az.grow hb, (h.vs.below hb).wide (Nat.le_refl _) hb.size, h.len⟩
theorem put (h : AV w W v1 v2 c ac j nh b6 M Av cv O q) (hb : Below W.heap.size W w5) (hok : okV v) {n5 : Nat} (hn5 : W.heap.size ≤ n5) (hrow6 : RowIn cellsV 5 60 w6 (fun k => Bl (b6 + 1) W.heap.size k ∨ n5 ≤ k) A6 c6 (O ++ [v])) (hg6 : w5.grownBy w6 (blk Av)) :
    (w6.frozen? ⟨b6, 1, none⟩ = false ∧ w6.cell? ⟨b6, 1, none⟩ = some (.slice Av q cv)) ∧ AV w (w6.setCell ⟨b6, 1, none⟩ (.slice A6 (q + 1) c6)) v1 v2 c ac j nh b6 M A6 c6 (O ++ [v]) (q + 1) := by
  have hW := row_lt h.az.r6
  have hz := hb.size
  have hz6 := hg6.size
  have b56 : Below (b6 + 1) w5 w6 := below_grown hg6 (by omega) (fun k hk => (h.vs.1.blk k hk).1)
  have a6 := (h.az.grow hb).belowB b56
  refine ⟨⟨row_free a6.r6 1, row_cell a6.r6 1⟩, a6.set1 _, ?_, by rw [List.length_append, h.len]; rfl⟩
  have hT : Turned (fun k => k = b6) w6 (w6.setCell ⟨b6, 1, none⟩ (.slice A6 (q + 1) c6)) := Turned.one _ _ _ _
  have hzs := hT.size
  refine InVs.wide (N := w6.heap.size) (InVs.keep (w := w6) ⟨hrow6.mono (fun k hk => ⟨?_, hrow6.lt k hk⟩), fun x hx => ?_⟩ hT (fun k hk hB => by have := hB.1; omega)) (Nat.le_refl _) hzs
  · rcases hrow6.blk k hk with e | e
    · exact e.1
    · omega
  · rcases List.mem_append.1 hx with hx | hx
    · exact h.vs.2 x hx
    · rw [List.mem_singleton.1 hx]; exact hok
end AV
set_option maxHeartbeats 12800000 in
theorem rApply4_any (i : Ia) (nh nv : Nat) (Q : List Hq) (L : List Vt) (c : Ch) (ac : Ad) (hk : c.k = 4) (hnh : nh = Q.length) (hnv : nv = L.length) (hlh : nh ≤ 10000) (hlv : nv ≤ 10000) (hav : asc ltV L = true) (hf : ∀ q ∈ Q, (FewK q.h.p ∧ Rl.Few q.h.p.log.es) ∧ q.h.p.sn.length ≤ 140737488355328) (w : World) (hh : IsHds w w.heap.size i.h Q) (hv : IsVs w w.heap.size i.v L) (hcv : okV c.a) :
    Calls Tryz.prog 38 #[.agg #[.slice i.h nh i.ch, .slice i.v nv i.cv], .agg #[.int .i64 c.k, .int .i64 c.g, .int .i64 c.t, .int .i64 c.v, .int .i64 c.f, .int .i64 c.p.log.base, .int .i64 c.p.log.term, .slice ac.e c.p.log.es.length ac.ce, .slice ac.o c.p.cf.old.length ac.co, .slice ac.n c.p.cf.new.length ac.cn, .slice ac.l c.p.cf.lrn.length ac.cl, .slice ac.s c.p.sn.length ac.cs, .int .i64 c.a.x, .int .i64 c.a.p, .int .i64 c.a.r, .int .i64 c.a.b, .int .i64 c.a.v]] w (RefA w (apply ⟨Q.map (·.h), L⟩ c)) := by
  have HA : Hid (apply ⟨Q.map (·.h), L⟩ c = (⟨Q.map (·.h), ins ltV L c.a⟩, 0)) := hid (by
    unfold apply
    rw [if_neg (by omega), if_pos hk])
  obtain ⟨i0, hi, hz0, hz1, hz2⟩ := info_parts info_vote3
  have HK := hid (And.intro hav hcv)
  have HK4 := hid hk
  obtain ⟨wA, hwA⟩ : ∃ wA, wA = (((w.alloc (.cells #[.slice i.h nh i.ch, .slice i.v nv i.cv] 25)).alloc (.cells #[.int .i64 c.k, .int .i64 c.g, .int .i64 c.t, .int .i64 c.v, .int .i64 c.f, .int .i64 c.p.log.base, .int .i64 c.p.log.term, .slice ac.e c.p.log.es.length ac.ce, .slice ac.o c.p.cf.old.length ac.co, .slice ac.n c.p.cf.new.length ac.cn, .slice ac.l c.p.cf.lrn.length ac.cl, .slice ac.s c.p.sn.length ac.cs, .int .i64 c.a.x, .int .i64 c.a.p, .int .i64 c.a.r, .int .i64 c.a.b, .int .i64 c.a.v] 62)).alloc (.cells #[.slice none 0 0, .slice none 0 0] 25)) := ⟨_, rfl⟩
  have hg := ap_start w (.slice i.h nh i.ch) (.slice i.v nv i.cv) c ac
  rw [← hwA] at hg
  have hzA : wA.heap.size = w.heap.size + 3 := by rw [hwA]; simp
  have ldA := ldRow info_image2 Tryz.underlying25 rfl hg.r2 rfl
  have HCI := hid (copyIm_any i nh nv Q L hnh.symm hnv.symm hlh hlv hf wA ((hh.below hg.bel).more hg.bel.size) ((hv.below hg.bel).more hg.bel.size))
  have HG := hid (And.intro hg hzA)
  have HN := hid (And.intro hnh hnv)
  have HV0 := hid hv
  clear hk hav hcv
  rw [hwA] at ldA
  clear hg hzA hh hv hf hnh hnv
  go_enter Tryz.func38, Tryz.ntmps38
  go_wp2_with fail
  rw [← hwA]
  clear hwA ldA
  refine HCI.out.mono ?_
  rintro e w1 ⟨j, rfl, ⟨M, hM, ho⟩, hb1⟩
  obtain ⟨b6, hb6⟩ : ∃ b, b = w1.heap.size := ⟨_, rfl⟩
  obtain ⟨w2, hw2⟩ : ∃ w2, w2 = w1.alloc (.cells #[.slice j.h nh j.ch, .slice j.v nv j.cv] 25) := ⟨_, rfl⟩
  have st2 := stNew w1 25 2 info_image2 #[.slice none 0 0, .slice none 0 0] #[.slice j.h nh j.ch, .slice j.v nv j.cv] rfl rfl (by simp [Value.oneCell'])
  rw [← hw2] at st2
  have Z2 : Hid (Az w w2 (.slice i.h nh i.ch) (.slice i.v nv i.cv) c ac j nh (.slice j.v nv j.cv) b6 M ∧ InVs w2 (w.heap.size + 3) b6 j.v j.cv L) := hid (by
    obtain ⟨hg, hzA⟩ := HG.out
    have hb12 : Below w1.heap.size w1 w2 := by rw [hw2]; exact (Below.refl _ _).alloc (Nat.le_refl _) _
    have hb : Below wA.heap.size wA w2 := hb1.trans (hb12.mono hb1.size)
    have hz := hb1.size
    rw [hb6]
    refine ⟨⟨hg.grow hb, by rw [hw2]; exact heap_alloc_new w1 _, ?_, by omega⟩, ?_⟩
    · rw [← hzA]; exact ho.h.below hb12
    · rw [← hzA]; exact ho.v.below hb12)
  have HM := hid hM
  clear ho hb1 hM HG HCI hw2
  have k0 : w2.cell? ⟨w.heap.size + 1, 0, none⟩ = some (.int .i64 c.k) := row_cell Z2.out.1.ap.r3 0
  rw [HK4.out] at k0
  have z2 := row_free Z2.out.1.r6 1
  have c2 := row_cell Z2.out.1.r6 1
  rw [hb6] at z2 c2
  obtain ⟨w3, hw3⟩ : ∃ w3, w3 = w2.setCell ⟨b6, 1, none⟩ (.slice none 0 0) := ⟨_, rfl⟩
  have V3 : Hid (AV w w3 (.slice i.h nh i.ch) (.slice i.v nv i.cv) c ac j nh b6 M none 0 [] 0) := hid (by
    rw [hw3]
    exact ⟨Z2.out.1.set1 _, InVs.nil _ _ _, rfl⟩)
  have HB6 := hid hb6
  rw [hb6] at hw3
  clear Z2 hb6
  go_wp2_with fail
  try rw [← hw3]
  try rw [← HB6.out]
  clear hw3 k0 z2 c2 st2
  go_loopw [7, 8] (fun lv iv wr => ∃ (laid : Bool) (k : Nat), k ≤ nv ∧ lv = .bool laid ∧ iv = .int .i64 (k : Int) ∧ Hid (∃ Av cv O q, AV w wr (.slice i.h nh i.ch) (.slice i.v nv i.cv) c ac j nh b6 M Av cv O q ∧ OV c.a L k laid O ∧ q ≤ k + 1)) (fun _ iv _ => nv - (RowKit.intOf iv).toNat)
  case atStart => exact ⟨false, 0, Nat.zero_le _, rfl, rfl, hid ⟨_, _, _, _, V3.out, OV.start, by omega⟩⟩
  case round =>
    clear V3
    obtain ⟨laid, k, hk, rfl, rfl, HQ0⟩ := hrel
    obtain ⟨Av, cv, O, q, hQ, hOV, hq⟩ := HQ0.out
    have HQ := hid hQ
    have HO := hid hOV
    have r00 := row_cell hQ.az.ap.r2 1
    clear hQ hOV HQ0
    by_cases hlt : k < nv
    · have hlt0 : (k : Int) < (nv : Int) := by omega
      have hkL : k < L.length := by have := HN.out.2; omega
      obtain ⟨b, off, hA, hbl, hcs⟩ := (HV0.out.below HQ.out.az.ap.bel).row.at_ k hkL
      obtain ⟨v, hv⟩ : ∃ v : Vt, v = L[k] := ⟨_, rfl⟩
      have hr0 := hcs k hkL
      rw [← hv] at hr0
      have HVV := hid (And.intro hv (show okV v by rw [hv]; exact HV0.out.num _ (List.getElem_mem hkL)))
      have HKL := hid hkL
      have l0 : (ldX 60 (.pointer (some ⟨b, off + k * 5, none⟩))).run Tryz.prog wr = .ok (.agg #[.int .i64 v.x, .int .i64 v.p, .int .i64 v.r, .int .i64 v.b, .int .i64 v.v]) wr := ldV wr b (off + k * 5) (cellsV v) rfl hr0
      rw [hA] at r00
      obtain ⟨w4, hw4⟩ : ∃ w4, w4 = wr.alloc (.cells #[.int .i64 v.x, .int .i64 v.p, .int .i64 v.r, .int .i64 v.b, .int .i64 v.v] 60) := ⟨_, rfl⟩
      have hst4 := stNew wr 60 5 info_vote #[.int .i64 0, .int .i64 0, .int .i64 0, .int .i64 0, .int .i64 0] #[.int .i64 v.x, .int .i64 v.p, .int .i64 v.r, .int .i64 v.b, .int .i64 v.v] rfl rfl (by simp [Value.oneCell'])
      rw [← hw4] at hst4
      obtain ⟨bv, hbv⟩ : ∃ b, b = wr.heap.size := ⟨_, rfl⟩
      have H4 : Hid (AV w w4 (.slice i.h nh i.ch) (.slice i.v nv i.cv) c ac j nh b6 M Av cv O q ∧ w4.heap[bv]? = some (.cells #[.int .i64 v.x, .int .i64 v.p, .int .i64 v.r, .int .i64 v.b, .int .i64 v.v] 60 (0, 0)) ∧ b6 < bv ∧ ∀ k, blk Av = some k → k < bv) := hid (by
        have hb : Below wr.heap.size wr w4 := by rw [hw4]; exact (Below.refl _ wr).alloc (Nat.le_refl _) _
        exact ⟨HQ.out.grow hb, by rw [hw4, hbv]; exact heap_alloc_new wr _, by rw [hbv]; exact row_lt HQ.out.az.r6, fun k hk => by rw [hbv]; exact (HQ.out.vs.1.blk k hk).2⟩)
      clear hcs hr0 hA hbl hv HQ hlt
      have ldv4 := ldRow info_vote Tryz.underlying60 rfl H4.out.2.1 rfl
      have ldc4 := run_ldVoteC H4.out.1.az.ap.r3
      cases laid with
      | false =>
        have HAH := ahead_any v c.a w4
        obtain ⟨ah, hah⟩ : ∃ a, a = aheadV v c.a := ⟨_, rfl⟩
        rw [← hah] at HAH
        replace HAH := hid HAH
        have HAA := hid hah
        rw [hbv] at ldv4
        clear hw4 hah
        go_wp2_with fail
        refine HAH.out.mono ?_
        rintro e w5 ⟨rfl, hb5⟩
        have H5 : Hid (AV w w5 (.slice i.h nh i.ch) (.slice i.v nv i.cv) c ac j nh b6 M Av cv O q ∧ w5.heap[bv]? = some (.cells #[.int .i64 v.x, .int .i64 v.p, .int .i64 v.r, .int .i64 v.b, .int .i64 v.v] 60 (0, 0)) ∧ b6 < bv ∧ ∀ k, blk Av = some k → k < bv) := hid ⟨H4.out.1.grow hb5, (hb5.block _ (row_lt H4.out.2.1)).trans H4.out.2.1, H4.out.2.2⟩
        try rw [← hbv]
        clear hb5 HAH ldv4 ldc4 H4 hst4 l0 r00 hbv
        cases ah with
        | true =>
          have hdd : v.x ≠ c.a.x ∨ v.p ≠ c.a.p := by have := HAA.out; unfold aheadV at this; simp at this; omega
          by_cases hx : v.x = c.a.x
          · have hp : v.p ≠ c.a.p := hdd.resolve_left (fun h => h hx)
            have hpb : (v.p != c.a.p) = true := by simpa using hp
            have hxb : (v.x != c.a.x) = false := by simpa using hx
            clear hdd hp hx
            have p0 := row_cell H5.out.2.1 0
            have p1 := row_cell H5.out.2.1 1
            have m0 := row_cell H5.out.1.az.ap.r3 12
            have m1 := row_cell H5.out.1.az.ap.r3 13
            have ldb := ldRow info_vote Tryz.underlying60 rfl H5.out.2.1 rfl
            have HT6 := hid H5.out.1
            have e6 := row_cell HT6.out.az.r6 1
            have hb6 : Below w5.heap.size w5 (w5.alloc (.cells #[.int .i64 v.x, .int .i64 v.p, .int .i64 v.r, .int .i64 v.b, .int .i64 v.v] 60)) := (Below.refl _ w5).alloc (Nat.le_refl _) _
            have hr6 := HT6.out.vs.1.below (hb6)
            have hc6 : ∀ j, j < 5 → (w5.alloc (.cells #[.int .i64 v.x, .int .i64 v.p, .int .i64 v.r, .int .i64 v.b, .int .i64 v.v] 60)).cell? ((⟨w5.heap.size, 0, none⟩ : Addr).add j) = (cellsV v)[j]? := fun j hj => by
              rw [add_off, Nat.zero_add, row_cell (heap_alloc_new w5 _) j]; simp [cellsV]
            have HBB6 := hid hb6
            clear hb6
            have hq4 : q ≤ 20000 := by omega
            go_wp2_with (at_builtin; refine wpList_append_rowM rfl _ _ 23 rfl i0 _ Tryz.underlying23 hi hz0 hz1 hz2 rfl (by decide) hr6 (q) HT6.out.len rfl v ⟨w5.heap.size, 0, none⟩ 1 rfl hc6 (cellsV_one v) (by omega) (by omega) ?_)
            intro A6 c6 w6 hrow6 hg6 _
            obtain ⟨⟨z6, d6⟩, hput6⟩ := HT6.out.put HBB6.out (HVV.out.2) (Nat.le_add_right _ 1) hrow6 hg6
            obtain ⟨u6, hu6⟩ : ∃ u, u = w6.setCell ⟨b6, 1, none⟩ (.slice A6 ((q) + 1) c6) := ⟨_, rfl⟩
            rw [← hu6] at hput6
            have P6 := hid hput6
            clear hput6 hrow6 hg6 hr6 hc6 HBB6 e6
            have HF : Hid (∃ Av cv O q, AV w u6 (.slice i.h nh i.ch) (.slice i.v nv i.cv) c ac j nh b6 M Av cv O q ∧ OV c.a L (k + 1) false O ∧ q ≤ k + 1 + 1) := hid ⟨_, _, _, _, P6.out, by rw [HVV.out.1]; exact HO.out.ahead hkL (by rw [← HVV.out.1]; exact HAA.out.symm), by omega⟩
            clear ldb p0 p1 m0 m1 HT6 P6
            go_wp2_with fail
            rw [← hu6]
            clear hu6 z6 d6
            go_roundw
            case rel => exact ⟨false, k + 1, by omega, rfl, by go_num, HF⟩
            case measure => simp [RowKit.intOf]; omega
          · have hxb : (v.x != c.a.x) = true := by simpa using hx
            clear hdd hx
            have p0 := row_cell H5.out.2.1 0
            have p1 := row_cell H5.out.2.1 1
            have m0 := row_cell H5.out.1.az.ap.r3 12
            have m1 := row_cell H5.out.1.az.ap.r3 13
            have ldb := ldRow info_vote Tryz.underlying60 rfl H5.out.2.1 rfl
            have HT6 := hid H5.out.1
            have e6 := row_cell HT6.out.az.r6 1
            have hb6 : Below w5.heap.size w5 (w5.alloc (.cells #[.int .i64 v.x, .int .i64 v.p, .int .i64 v.r, .int .i64 v.b, .int .i64 v.v] 60)) := (Below.refl _ w5).alloc (Nat.le_refl _) _
            have hr6 := HT6.out.vs.1.below (hb6)
            have hc6 : ∀ j, j < 5 → (w5.alloc (.cells #[.int .i64 v.x, .int .i64 v.p, .int .i64 v.r, .int .i64 v.b, .int .i64 v.v] 60)).cell? ((⟨w5.heap.size, 0, none⟩ : Addr).add j) = (cellsV v)[j]? := fun j hj => by
              rw [add_off, Nat.zero_add, row_cell (heap_alloc_new w5 _) j]; simp [cellsV]
            have HBB6 := hid hb6
            clear hb6
            have hq4 : q ≤ 20000 := by omega
            go_wp2_with (at_builtin; refine wpList_append_rowM rfl _ _ 23 rfl i0 _ Tryz.underlying23 hi hz0 hz1 hz2 rfl (by decide) hr6 (q) HT6.out.len rfl v ⟨w5.heap.size, 0, none⟩ 1 rfl hc6 (cellsV_one v) (by omega) (by omega) ?_)
            intro A6 c6 w6 hrow6 hg6 _
            obtain ⟨⟨z6, d6⟩, hput6⟩ := HT6.out.put HBB6.out (HVV.out.2) (Nat.le_add_right _ 1) hrow6 hg6
            obtain ⟨u6, hu6⟩ : ∃ u, u = w6.setCell ⟨b6, 1, none⟩ (.slice A6 ((q) + 1) c6) := ⟨_, rfl⟩
            rw [← hu6] at hput6
            have P6 := hid hput6
            clear hput6 hrow6 hg6 hr6 hc6 HBB6 e6
            have HF : Hid (∃ Av cv O q, AV w u6 (.slice i.h nh i.ch) (.slice i.v nv i.cv) c ac j nh b6 M Av cv O q ∧ OV c.a L (k + 1) false O ∧ q ≤ k + 1 + 1) := hid ⟨_, _, _, _, P6.out, by rw [HVV.out.1]; exact HO.out.ahead hkL (by rw [← HVV.out.1]; exact HAA.out.symm), by omega⟩
            clear ldb p0 p1 m0 m1 HT6 P6
            go_wp2_with fail
            rw [← hu6]
            clear hu6 z6 d6
            go_roundw
            case rel => exact ⟨false, k + 1, by omega, rfl, by go_num, HF⟩
            case measure => simp [RowKit.intOf]; omega
        | false =>
          have hqk : q ≤ k := by
            have h1 := (HO.out.no rfl).1
            have h2 := H5.out.1.len
            rw [h1, List.length_take] at h2
            omega
          have ldc := run_ldVoteC H5.out.1.az.ap.r3
          have HT6 := hid H5.out.1
          have e6 := row_cell HT6.out.az.r6 1
          have hb6 : Below w5.heap.size w5 (w5.alloc (.cells #[.int .i64 c.a.x, .int .i64 c.a.p, .int .i64 c.a.r, .int .i64 c.a.b, .int .i64 c.a.v] 60)) := (Below.refl _ w5).alloc (Nat.le_refl _) _
          have hr6 := HT6.out.vs.1.below (hb6)
          have hc6 : ∀ j, j < 5 → (w5.alloc (.cells #[.int .i64 c.a.x, .int .i64 c.a.p, .int .i64 c.a.r, .int .i64 c.a.b, .int .i64 c.a.v] 60)).cell? ((⟨w5.heap.size, 0, none⟩ : Addr).add j) = (cellsV c.a)[j]? := fun j hj => by
            rw [add_off, Nat.zero_add, row_cell (heap_alloc_new w5 _) j]; simp [cellsV]
          have HBB6 := hid hb6
          clear hb6
          have hq4 : q ≤ 20000 := by omega
          go_wp2_with (at_builtin; refine wpList_append_rowM rfl _ _ 23 rfl i0 _ Tryz.underlying23 hi hz0 hz1 hz2 rfl (by decide) hr6 (q) HT6.out.len rfl c.a ⟨w5.heap.size, 0, none⟩ 1 rfl hc6 (cellsV_one c.a) (by omega) (by omega) ?_)
          intro A6 c6 w6 hrow6 hg6 _
          obtain ⟨⟨z6, d6⟩, hput6⟩ := HT6.out.put HBB6.out (HK.out.2) (Nat.le_add_right _ 1) hrow6 hg6
          have box6 : w6.heap[bv]? = some (.cells #[.int .i64 v.x, .int .i64 v.p, .int .i64 v.r, .int .i64 v.b, .int .i64 v.v] 60 (0, 0)) := (hg6.block _ (by have := row_lt H5.out.2.1; simp; omega) (fun e => by have := H5.out.2.2.2 bv e.symm; omega)).trans ((HBB6.out.block _ (row_lt H5.out.2.1)).trans H5.out.2.1)
          obtain ⟨u6, hu6⟩ : ∃ u, u = w6.setCell ⟨b6, 1, none⟩ (.slice A6 ((q) + 1) c6) := ⟨_, rfl⟩
          rw [← hu6] at hput6
          have P6 := hid hput6
          clear hput6 hrow6 hg6 hr6 hc6 HBB6 e6
          have H6 : Hid (AV w u6 (.slice i.h nh i.ch) (.slice i.v nv i.cv) c ac j nh b6 M A6 c6 (O ++ [c.a]) (q + 1) ∧ u6.heap[bv]? = some (.cells #[.int .i64 v.x, .int .i64 v.p, .int .i64 v.r, .int .i64 v.b, .int .i64 v.v] 60 (0, 0)) ∧ b6 < bv) := hid ⟨P6.out, by rw [hu6]; exact ((Turned.one w6 b6 1 _).block _ (row_lt box6) (by have := H5.out.2.2.1; omega)).trans box6, H5.out.2.2.1⟩
          clear P6 HT6
          go_upto_region 13 with fail
          rw [← hu6]
          clear hu6 z6 d6 ldc
          by_cases hs : v.x = c.a.x ∧ v.p = c.a.p
          · obtain ⟨hx, hp⟩ := hs
            have hxb : (v.x != c.a.x) = false := by simpa using hx
            have hpb : (v.p != c.a.p) = false := by simpa using hp
            have p0 := row_cell H6.out.2.1 0
            have p1 := row_cell H6.out.2.1 1
            have m0 := row_cell H6.out.1.az.ap.r3 12
            have m1 := row_cell H6.out.1.az.ap.r3 13
            have HF : Hid (∃ Av cv O q, AV w u6 (.slice i.h nh i.ch) (.slice i.v nv i.cv) c ac j nh b6 M Av cv O q ∧ OV c.a L (k + 1) true O ∧ q ≤ k + 1 + 1) := hid ⟨_, _, _, _, H6.out.1, HO.out.here hkL (by rw [← HVV.out.1]; exact HAA.out.symm) (by rw [← HVV.out.1]; exact hx) (by rw [← HVV.out.1]; exact hp), by omega⟩
            clear hx hp
            go_wp2_with fail
            clear p0 p1 m0 m1
            go_roundw
            case rel => exact ⟨true, k + 1, by omega, rfl, by go_num, HF⟩
            case measure => simp [RowKit.intOf]; omega
          · have hdd : v.x ≠ c.a.x ∨ v.p ≠ c.a.p := by exact (Decidable.em (v.x = c.a.x)).elim (fun h => .inr (fun e => hs ⟨h, e⟩)) .inl
            have HDD := hid hdd
            clear hs
            by_cases hx : v.x = c.a.x
            · have hp : v.p ≠ c.a.p := hdd.resolve_left (fun h => h hx)
              have hpb : (v.p != c.a.p) = true := by simpa using hp
              have hxb : (v.x != c.a.x) = false := by simpa using hx
              clear hdd hp hx
              have p0 := row_cell H6.out.2.1 0
              have p1 := row_cell H6.out.2.1 1
              have m0 := row_cell H6.out.1.az.ap.r3 12
              have m1 := row_cell H6.out.1.az.ap.r3 13
              have ldb := ldRow info_vote Tryz.underlying60 rfl H6.out.2.1 rfl
              have HT7 := hid H6.out.1
              have e7 := row_cell HT7.out.az.r6 1
              have hb7 : Below u6.heap.size u6 (u6.alloc (.cells #[.int .i64 v.x, .int .i64 v.p, .int .i64 v.r, .int .i64 v.b, .int .i64 v.v] 60)) := (Below.refl _ u6).alloc (Nat.le_refl _) _
              have hr7 := HT7.out.vs.1.below (hb7)
              have hc7 : ∀ j, j < 5 → (u6.alloc (.cells #[.int .i64 v.x, .int .i64 v.p, .int .i64 v.r, .int .i64 v.b, .int .i64 v.v] 60)).cell? ((⟨u6.heap.size, 0, none⟩ : Addr).add j) = (cellsV v)[j]? := fun j hj => by
                rw [add_off, Nat.zero_add, row_cell (heap_alloc_new u6 _) j]; simp [cellsV]
              have HBB7 := hid hb7
              clear hb7
              have hq4 : (q + 1) ≤ 20000 := by omega
              go_wp2_with (at_builtin; refine wpList_append_rowM rfl _ _ 23 rfl i0 _ Tryz.underlying23 hi hz0 hz1 hz2 rfl (by decide) hr7 ((q + 1)) HT7.out.len rfl v ⟨u6.heap.size, 0, none⟩ 1 rfl hc7 (cellsV_one v) (by omega) (by omega) ?_)
              intro A7 c7 w7 hrow7 hg7 _
              obtain ⟨⟨z7, d7⟩, hput7⟩ := HT7.out.put HBB7.out (HVV.out.2) (Nat.le_add_right _ 1) (show RowIn cellsV 5 60 w7 _ A7 c7 ((O ++ [c.a]) ++ [v]) by rw [List.append_assoc]; exact hrow7) hg7
              obtain ⟨u7, hu7⟩ : ∃ u, u = w7.setCell ⟨b6, 1, none⟩ (.slice A7 (((q + 1)) + 1) c7) := ⟨_, rfl⟩
              rw [← hu7] at hput7
              have P7 := hid hput7
              clear hput7 hrow7 hg7 hr7 hc7 HBB7 e7
              have HF : Hid (∃ Av cv O q, AV w u7 (.slice i.h nh i.ch) (.slice i.v nv i.cv) c ac j nh b6 M Av cv O q ∧ OV c.a L (k + 1) true O ∧ q ≤ k + 1 + 1) := hid ⟨_, _, _, _, P7.out, by rw [HVV.out.1]; exact HO.out.before hkL (by rw [← HVV.out.1]; exact HAA.out.symm) (by rw [← HVV.out.1]; exact HDD.out), by omega⟩
              clear ldb p0 p1 m0 m1 HT7 P7
              go_wp2_with fail
              rw [← hu7]
              clear hu7 z7 d7
              go_roundw
              case rel => exact ⟨true, k + 1, by omega, rfl, by go_num, HF⟩
              case measure => simp [RowKit.intOf]; omega
            · have hxb : (v.x != c.a.x) = true := by simpa using hx
              clear hdd hx
              have p0 := row_cell H6.out.2.1 0
              have p1 := row_cell H6.out.2.1 1
              have m0 := row_cell H6.out.1.az.ap.r3 12
              have m1 := row_cell H6.out.1.az.ap.r3 13
              have ldb := ldRow info_vote Tryz.underlying60 rfl H6.out.2.1 rfl
              have HT7 := hid H6.out.1
              have e7 := row_cell HT7.out.az.r6 1
              have hb7 : Below u6.heap.size u6 (u6.alloc (.cells #[.int .i64 v.x, .int .i64 v.p, .int .i64 v.r, .int .i64 v.b, .int .i64 v.v] 60)) := (Below.refl _ u6).alloc (Nat.le_refl _) _
              have hr7 := HT7.out.vs.1.below (hb7)
              have hc7 : ∀ j, j < 5 → (u6.alloc (.cells #[.int .i64 v.x, .int .i64 v.p, .int .i64 v.r, .int .i64 v.b, .int .i64 v.v] 60)).cell? ((⟨u6.heap.size, 0, none⟩ : Addr).add j) = (cellsV v)[j]? := fun j hj => by
                rw [add_off, Nat.zero_add, row_cell (heap_alloc_new u6 _) j]; simp [cellsV]
              have HBB7 := hid hb7
              clear hb7
              have hq4 : (q + 1) ≤ 20000 := by omega
              go_wp2_with (at_builtin; refine wpList_append_rowM rfl _ _ 23 rfl i0 _ Tryz.underlying23 hi hz0 hz1 hz2 rfl (by decide) hr7 ((q + 1)) HT7.out.len rfl v ⟨u6.heap.size, 0, none⟩ 1 rfl hc7 (cellsV_one v) (by omega) (by omega) ?_)
              intro A7 c7 w7 hrow7 hg7 _
              obtain ⟨⟨z7, d7⟩, hput7⟩ := HT7.out.put HBB7.out (HVV.out.2) (Nat.le_add_right _ 1) (show RowIn cellsV 5 60 w7 _ A7 c7 ((O ++ [c.a]) ++ [v]) by rw [List.append_assoc]; exact hrow7) hg7
              obtain ⟨u7, hu7⟩ : ∃ u, u = w7.setCell ⟨b6, 1, none⟩ (.slice A7 (((q + 1)) + 1) c7) := ⟨_, rfl⟩
              rw [← hu7] at hput7
              have P7 := hid hput7
              clear hput7 hrow7 hg7 hr7 hc7 HBB7 e7
              have HF : Hid (∃ Av cv O q, AV w u7 (.slice i.h nh i.ch) (.slice i.v nv i.cv) c ac j nh b6 M Av cv O q ∧ OV c.a L (k + 1) true O ∧ q ≤ k + 1 + 1) := hid ⟨_, _, _, _, P7.out, by rw [HVV.out.1]; exact HO.out.before hkL (by rw [← HVV.out.1]; exact HAA.out.symm) (by rw [← HVV.out.1]; exact HDD.out), by omega⟩
              clear ldb p0 p1 m0 m1 HT7 P7
              go_wp2_with fail
              rw [← hu7]
              clear hu7 z7 d7
              go_roundw
              case rel => exact ⟨true, k + 1, by omega, rfl, by go_num, HF⟩
              case measure => simp [RowKit.intOf]; omega
      | true =>
        clear hw4 ldv4 ldc4
        go_upto_region 14 with fail
        try rw [← hbv]
        clear hbv hst4 l0 r00
        have hdd : v.x ≠ c.a.x ∨ v.p ≠ c.a.p := by rw [HVV.out.1]; exact HO.out.laterD HK.out.1 hkL
        by_cases hx : v.x = c.a.x
        · have hp : v.p ≠ c.a.p := hdd.resolve_left (fun h => h hx)
          have hpb : (v.p != c.a.p) = true := by simpa using hp
          have hxb : (v.x != c.a.x) = false := by simpa using hx
          clear hdd hp hx
          have p0 := row_cell H4.out.2.1 0
          have p1 := row_cell H4.out.2.1 1
          have m0 := row_cell H4.out.1.az.ap.r3 12
          have m1 := row_cell H4.out.1.az.ap.r3 13
          have ldb := ldRow info_vote Tryz.underlying60 rfl H4.out.2.1 rfl
          have HT6 := hid H4.out.1
          have e6 := row_cell HT6.out.az.r6 1
          have hb6 : Below w4.heap.size w4 (w4.alloc (.cells #[.int .i64 v.x, .int .i64 v.p, .int .i64 v.r, .int .i64 v.b, .int .i64 v.v] 60)) := (Below.refl _ w4).alloc (Nat.le_refl _) _
          have hr6 := HT6.out.vs.1.below (hb6)
          have hc6 : ∀ j, j < 5 → (w4.alloc (.cells #[.int .i64 v.x, .int .i64 v.p, .int .i64 v.r, .int .i64 v.b, .int .i64 v.v] 60)).cell? ((⟨w4.heap.size, 0, none⟩ : Addr).add j) = (cellsV v)[j]? := fun j hj => by
            rw [add_off, Nat.zero_add, row_cell (heap_alloc_new w4 _) j]; simp [cellsV]
          have HBB6 := hid hb6
          clear hb6
          have hq4 : q ≤ 20000 := by omega
          go_wp2_with (at_builtin; refine wpList_append_rowM rfl _ _ 23 rfl i0 _ Tryz.underlying23 hi hz0 hz1 hz2 rfl (by decide) hr6 (q) HT6.out.len rfl v ⟨w4.heap.size, 0, none⟩ 1 rfl hc6 (cellsV_one v) (by omega) (by omega) ?_)
          intro A6 c6 w6 hrow6 hg6 _
          obtain ⟨⟨z6, d6⟩, hput6⟩ := HT6.out.put HBB6.out (HVV.out.2) (Nat.le_add_right _ 1) hrow6 hg6
          obtain ⟨u6, hu6⟩ : ∃ u, u = w6.setCell ⟨b6, 1, none⟩ (.slice A6 ((q) + 1) c6) := ⟨_, rfl⟩
          rw [← hu6] at hput6
          have P6 := hid hput6
          clear hput6 hrow6 hg6 hr6 hc6 HBB6 e6
          have HF : Hid (∃ Av cv O q, AV w u6 (.slice i.h nh i.ch) (.slice i.v nv i.cv) c ac j nh b6 M Av cv O q ∧ OV c.a L (k + 1) true O ∧ q ≤ k + 1 + 1) := hid ⟨_, _, _, _, P6.out, by rw [HVV.out.1]; exact HO.out.more HK.out.1 hkL, by omega⟩
          clear ldb p0 p1 m0 m1 HT6 P6
          go_wp2_with fail
          rw [← hu6]
          clear hu6 z6 d6
          go_roundw
          case rel => exact ⟨true, k + 1, by omega, rfl, by go_num, HF⟩
          case measure => simp [RowKit.intOf]; omega
        · have hxb : (v.x != c.a.x) = true := by simpa using hx
          clear hdd hx
          have p0 := row_cell H4.out.2.1 0
          have p1 := row_cell H4.out.2.1 1
          have m0 := row_cell H4.out.1.az.ap.r3 12
          have m1 := row_cell H4.out.1.az.ap.r3 13
          have ldb := ldRow info_vote Tryz.underlying60 rfl H4.out.2.1 rfl
          have HT6 := hid H4.out.1
          have e6 := row_cell HT6.out.az.r6 1
          have hb6 : Below w4.heap.size w4 (w4.alloc (.cells #[.int .i64 v.x, .int .i64 v.p, .int .i64 v.r, .int .i64 v.b, .int .i64 v.v] 60)) := (Below.refl _ w4).alloc (Nat.le_refl _) _
          have hr6 := HT6.out.vs.1.below (hb6)
          have hc6 : ∀ j, j < 5 → (w4.alloc (.cells #[.int .i64 v.x, .int .i64 v.p, .int .i64 v.r, .int .i64 v.b, .int .i64 v.v] 60)).cell? ((⟨w4.heap.size, 0, none⟩ : Addr).add j) = (cellsV v)[j]? := fun j hj => by
            rw [add_off, Nat.zero_add, row_cell (heap_alloc_new w4 _) j]; simp [cellsV]
          have HBB6 := hid hb6
          clear hb6
          have hq4 : q ≤ 20000 := by omega
          go_wp2_with (at_builtin; refine wpList_append_rowM rfl _ _ 23 rfl i0 _ Tryz.underlying23 hi hz0 hz1 hz2 rfl (by decide) hr6 (q) HT6.out.len rfl v ⟨w4.heap.size, 0, none⟩ 1 rfl hc6 (cellsV_one v) (by omega) (by omega) ?_)
          intro A6 c6 w6 hrow6 hg6 _
          obtain ⟨⟨z6, d6⟩, hput6⟩ := HT6.out.put HBB6.out (HVV.out.2) (Nat.le_add_right _ 1) hrow6 hg6
          obtain ⟨u6, hu6⟩ : ∃ u, u = w6.setCell ⟨b6, 1, none⟩ (.slice A6 ((q) + 1) c6) := ⟨_, rfl⟩
          rw [← hu6] at hput6
          have P6 := hid hput6
          clear hput6 hrow6 hg6 hr6 hc6 HBB6 e6
          have HF : Hid (∃ Av cv O q, AV w u6 (.slice i.h nh i.ch) (.slice i.v nv i.cv) c ac j nh b6 M Av cv O q ∧ OV c.a L (k + 1) true O ∧ q ≤ k + 1 + 1) := hid ⟨_, _, _, _, P6.out, by rw [HVV.out.1]; exact HO.out.more HK.out.1 hkL, by omega⟩
          clear ldb p0 p1 m0 m1 HT6 P6
          go_wp2_with fail
          rw [← hu6]
          clear hu6 z6 d6
          go_roundw
          case rel => exact ⟨true, k + 1, by omega, rfl, by go_num, HF⟩
          case measure => simp [RowKit.intOf]; omega
    · obtain rfl : k = nv := by omega
      have hlt0 : ¬ (k : Int) < (k : Int) := by omega
      cases laid with
      | false =>
        have ldc := run_ldVoteC HQ.out.az.ap.r3
        have e6 := row_cell HQ.out.az.r6 1
        have hb6 : Below wr.heap.size wr (wr.alloc (.cells #[.int .i64 c.a.x, .int .i64 c.a.p, .int .i64 c.a.r, .int .i64 c.a.b, .int .i64 c.a.v] 60)) := (Below.refl _ wr).alloc (Nat.le_refl _) _
        have hr6 := HQ.out.vs.1.below (hb6)
        have hc6 : ∀ j, j < 5 → (wr.alloc (.cells #[.int .i64 c.a.x, .int .i64 c.a.p, .int .i64 c.a.r, .int .i64 c.a.b, .int .i64 c.a.v] 60)).cell? ((⟨wr.heap.size, 0, none⟩ : Addr).add j) = (cellsV c.a)[j]? := fun j hj => by
          rw [add_off, Nat.zero_add, row_cell (heap_alloc_new wr _) j]; simp [cellsV]
        have HBB6 := hid hb6
        clear hb6
        have hq4 : q ≤ 20000 := by omega
        go_wp2_with (at_builtin; refine wpList_append_rowM rfl _ _ 23 rfl i0 _ Tryz.underlying23 hi hz0 hz1 hz2 rfl (by decide) hr6 (q) HQ.out.len rfl c.a ⟨wr.heap.size, 0, none⟩ 1 rfl hc6 (cellsV_one c.a) (by omega) (by omega) ?_)
        intro A6 c6 w6 hrow6 hg6 _
        obtain ⟨⟨z6, d6⟩, hput6⟩ := HQ.out.put HBB6.out (HK.out.2) (Nat.le_add_right _ 1) hrow6 hg6
        obtain ⟨u6, hu6⟩ : ∃ u, u = w6.setCell ⟨b6, 1, none⟩ (.slice A6 ((q) + 1) c6) := ⟨_, rfl⟩
        rw [← hu6] at hput6
        have P6 := hid hput6
        clear hput6 hrow6 hg6 hr6 hc6 HBB6 e6
        go_upto_region 18 with fail
        rw [← hu6]
        clear hu6 z6 d6 ldc
        have ldo := ldRow info_image2 Tryz.underlying25 rfl P6.out.az.r6 rfl
        have hst := stRow info_image2 (cs' := #[.slice j.h nh j.ch, .slice A6 (q + 1) c6]) P6.out.az.ap.r4 rfl rfl (by simp [Value.oneCell'])
        have r9 := setRow_heap u6 (w.heap.size + 1 + 1) _ #[.slice j.h nh j.ch, .slice A6 (q + 1) c6] _ _ P6.out.az.ap.r4
        have t9 := row_turned u6 (w.heap.size + 1 + 1) #[.slice j.h nh j.ch, .slice A6 (q + 1) c6]
        obtain ⟨w9, hw9⟩ : ∃ w9, w9 = u6.setRow (w.heap.size + 1 + 1) #[.slice j.h nh j.ch, .slice A6 (q + 1) c6] := ⟨_, rfl⟩
        rw [← hw9] at hst r9 t9
        have H9 : Hid (w9.heap[w.heap.size + 1 + 1]? = some (.cells #[.slice j.h nh j.ch, .slice A6 (q + 1) c6] 25 (0, 0)) ∧ InIm w9 w.heap.size w9.heap.size ⟨j.h, j.ch, A6, c6⟩ M (O ++ [c.a]) ∧ Below w.heap.size w w9 ∧ (O ++ [c.a]).length = q + 1 ∧ O ++ [c.a] = ins ltV L c.a) := hid (by
          have ha := P6.out
          have hl := ha.az.lt
          have hb := ha.az.ap.bel
          have hW := row_lt ha.az.r6
          have hz := t9.size
          exact ⟨r9, ⟨(ha.az.hs.keep t9 (fun k hk hB => by have := hB.1; omega)).wide (by omega) (by omega), (ha.vs.keep t9 (fun k hk hB => by have := hB.1; omega)).wide (by omega) hz⟩, hb.trans (t9.below hb.size (fun k hk => by omega)), ha.len, by have hl : k = L.length := HN.out.2; have h := HO.out; rw [hl] at h; exact h.endNo⟩)
        clear r9 t9 hw9
        go_wp2_with fail
        refine bodyPost_ret (results_two rfl info_image2 Tryz.underlying25 rfl _ _ (w.heap.size + 1 + 1) _ _ _ rfl H9.out.1 rfl) rfl ?_
        unfold RefA
        rw [HA.out]
        exact ⟨⟨j.h, j.ch, A6, c6⟩, nh, q + 1, 0, rfl, rfl, ⟨M, O ++ [c.a], ⟨by have := congrArg List.length HM.out; rw [List.length_map, List.length_map] at this; have := HN.out.1; omega, H9.out.2.2.2.1.symm⟩, H9.out.2.1, by rw [HM.out, H9.out.2.2.2.2]⟩, H9.out.2.2.1⟩
      | true =>
        have ldo := ldRow info_image2 Tryz.underlying25 rfl HQ.out.az.r6 rfl
        have hst := stRow info_image2 (cs' := #[.slice j.h nh j.ch, .slice Av (q) cv]) HQ.out.az.ap.r4 rfl rfl (by simp [Value.oneCell'])
        have r9 := setRow_heap wr (w.heap.size + 1 + 1) _ #[.slice j.h nh j.ch, .slice Av (q) cv] _ _ HQ.out.az.ap.r4
        have t9 := row_turned wr (w.heap.size + 1 + 1) #[.slice j.h nh j.ch, .slice Av (q) cv]
        obtain ⟨w9, hw9⟩ : ∃ w9, w9 = wr.setRow (w.heap.size + 1 + 1) #[.slice j.h nh j.ch, .slice Av (q) cv] := ⟨_, rfl⟩
        rw [← hw9] at hst r9 t9
        have H9 : Hid (w9.heap[w.heap.size + 1 + 1]? = some (.cells #[.slice j.h nh j.ch, .slice Av (q) cv] 25 (0, 0)) ∧ InIm w9 w.heap.size w9.heap.size ⟨j.h, j.ch, Av, cv⟩ M (O) ∧ Below w.heap.size w w9 ∧ (O).length = q ∧ O = ins ltV L c.a) := hid (by
          have ha := HQ.out
          have hl := ha.az.lt
          have hb := ha.az.ap.bel
          have hW := row_lt ha.az.r6
          have hz := t9.size
          exact ⟨r9, ⟨(ha.az.hs.keep t9 (fun k hk hB => by have := hB.1; omega)).wide (by omega) (by omega), (ha.vs.keep t9 (fun k hk hB => by have := hB.1; omega)).wide (by omega) hz⟩, hb.trans (t9.below hb.size (fun k hk => by omega)), ha.len, by have hl : k = L.length := HN.out.2; have h := HO.out; rw [hl] at h; exact h.endYes⟩)
        clear r9 t9 hw9
        go_wp2_with fail
        refine bodyPost_ret (results_two rfl info_image2 Tryz.underlying25 rfl _ _ (w.heap.size + 1 + 1) _ _ _ rfl H9.out.1 rfl) rfl ?_
        unfold RefA
        rw [HA.out]
        exact ⟨⟨j.h, j.ch, Av, cv⟩, nh, q, 0, rfl, rfl, ⟨M, O, ⟨by have := congrArg List.length HM.out; rw [List.length_map, List.length_map] at this; have := HN.out.1; omega, H9.out.2.2.2.1.symm⟩, H9.out.2.1, by rw [HM.out, H9.out.2.2.2.2]⟩, H9.out.2.2.1⟩
end Go.Proofs.YtaeoccpjdjafnaaGreat.Im
namespace Go.Proofs.YtaeoccpjdjafnaaGreat
open Go.RowKit
set_option maxHeartbeats 800000 in
set_option maxRecDepth 100000 in
theorem refLast_any (B : Nat) (g : Rl.Lg) (A : Option Addr) (c : Nat) (hg : Rl.Ok g) (w : World) (h : LgIs w B g A c) (hB : B ≤ w.heap.size) :
    Calls Tryz.prog 135 #[.agg #[.int .i64 g.base, .int .i64 g.term, .slice A g.es.length c]] w fun e w' => e = .returned (.tuple #[.int .i64 g.last, .int .i64 g.lastT]) ∧ Below w.heap.size w w' := by
  obtain ⟨⟨hb0, hb1⟩, _, hl⟩ := hg
  have HB : Hid (∀ n, Below w.heap.size w ((w.alloc (.cells #[.int .i64 g.base, .int .i64 g.term, .slice A g.es.length c] 58)).drewN n)) := hid (fun n => below_drewN ((Below.refl _ w).alloc (Nat.le_refl _) _) n)
  by_cases h0 : g.es.length = 0
  · have HE : Hid (g.last = g.base ∧ g.lastT = g.term) := hid (by unfold Rl.Lg.last Rl.Lg.lastT; rw [h0]; exact ⟨by omega, rfl⟩)
    have h00 : (g.es.length : Int) = 0 := by omega
    clear h
    go_enter Tryz.func135, Tryz.ntmps135
    go_wp2_with fail
    go_quiet (fail)
    go_wp2_with fail
    go_ret2
    exact ⟨by rw [HE.out.1, HE.out.2]; rfl, below_drewN ((Below.refl _ w).alloc (Nat.le_refl _) _) _⟩
  · have hlt : g.es.length - 1 < g.es.length := by omega
    obtain ⟨b, off, rfl, hbl, hc⟩ := h.es.cells (g.es.length - 1) hlt
    obtain ⟨A1, c1, d0, d1, d2, _, _⟩ := hc (g.es.length - 1) hlt
    have HE : Hid (g.last = g.base + (g.es.length : Nat) ∧ g.lastT = g.es[g.es.length - 1].t) := hid ⟨rfl, by
      unfold Rl.Lg.lastT
      have := g.at_succ (g.es.length - 1) hlt
      rw [show g.es.length - 1 + 1 = g.es.length by omega] at this
      exact this⟩
    have e0 : (w.alloc (.cells #[.int .i64 g.base, .int .i64 g.term, .slice (some ⟨b, off, none⟩) g.es.length c] 58)).cell? ⟨b, off + (g.es.length - 1) * 3, none⟩ = some (.int .i64 g.es[g.es.length - 1].t) := by rw [((Below.refl _ w).alloc (Nat.le_refl _) _).cell (by show b < _; omega)]; exact d0
    obtain ⟨x, hx⟩ : ∃ x, x = g.es[g.es.length - 1].t := ⟨_, rfl⟩
    rw [← hx] at e0 HE
    obtain ⟨k, hk⟩ : ∃ k, k = g.es.length - 1 := ⟨_, rfl⟩
    rw [← hk] at e0
    have hk1 : ((g.es.length : Nat) : Int) - 1 = (k : Int) := by omega
    have hk2 : (k : Int) < (g.es.length : Int) := by omega
    have h00 : ¬ (g.es.length : Int) = 0 := by omega
    clear h hc d0 d1 d2 hx hk
    go_enter Tryz.func135, Tryz.ntmps135
    go_wp2_with fail
    go_quiet (fail)
    go_wp2_with fail
    go_ret2
    exact ⟨by rw [HE.out.1, HE.out.2]; rfl, HB.out _⟩
end Go.Proofs.YtaeoccpjdjafnaaGreat
namespace Go.Proofs.YtaeoccpjdjafnaaGreat
open Go.RowKit
set_option maxHeartbeats 800000 in
set_option maxRecDepth 100000 in
theorem refTerm_no (B : Nat) (g : Rl.Lg) (A : Option Addr) (c : Nat) (i : Int) (hg : Rl.Ok g) (hn : g.has i = false) (w : World) (h : LgIs w B g A c) (hB : B ≤ w.heap.size) :
    Calls Tryz.prog 167 #[.agg #[.int .i64 g.base, .int .i64 g.term, .slice A g.es.length c], .int .i64 i] w fun e w' => e = .returned (.tuple #[.int .i64 0, .bool false]) ∧ Below w.heap.size w w' := by
  have hb1 : Below w.heap.size w (w.alloc (.cells #[.int .i64 g.base, .int .i64 g.term, .slice A g.es.length c] 58)) := (Below.refl _ w).alloc (Nat.le_refl _) _
  have HC := hid (refLast_any w.heap.size g A c hg _ ((h.more hB).below hb1) hb1.size)
  have HB := hid hb1
  have hn2 := Rl.Lg.has_not.1 hn
  obtain ⟨la, hla⟩ : ∃ la, la = g.last := ⟨_, rfl⟩
  obtain ⟨lt, hlt⟩ : ∃ lt, lt = g.lastT := ⟨_, rfl⟩
  have hla2 : la = g.base + (g.es.length : Nat) := by rw [hla]; rfl
  rw [← hla, ← hlt] at HC
  by_cases h1 : i < g.base
  · clear h hb1 hn hn2 hla hlt hla2
    go_enter Tryz.func167, Tryz.ntmps167
    go_wp2_with fail
    refine HC.out.mono ?_
    rintro e w2 ⟨rfl, hb2⟩
    have HB2 := hid (HB.out.trans (hb2.mono HB.out.size))
    have q0 : w2.cell? ⟨w.heap.size, 0, none⟩ = some (.int .i64 g.base) := by rw [hb2.cell (by simp)]; simp
    clear hb2
    go_wp2_with fail
    go_ret2
    exact ⟨rfl, HB2.out⟩
  · have h2 : la < i := by omega
    clear h hb1 hn hn2 hla hlt hla2
    go_enter Tryz.func167, Tryz.ntmps167
    go_wp2_with fail
    refine HC.out.mono ?_
    rintro e w2 ⟨rfl, hb2⟩
    have HB2 := hid (HB.out.trans (hb2.mono HB.out.size))
    have q0 : w2.cell? ⟨w.heap.size, 0, none⟩ = some (.int .i64 g.base) := by rw [hb2.cell (by simp)]; simp
    clear hb2
    go_wp2_with fail
    go_ret2
    exact ⟨rfl, HB2.out⟩
set_option maxHeartbeats 800000 in
set_option maxRecDepth 100000 in
theorem refTerm_yes (B : Nat) (g : Rl.Lg) (A : Option Addr) (c : Nat) (i : Int) (p : Nat) (hi : i = g.base + (p : Int)) (hp : p ≤ g.es.length) (hg : Rl.Ok g) (w : World) (h : LgIs w B g A c) (hB : B ≤ w.heap.size) :
    Calls Tryz.prog 167 #[.agg #[.int .i64 g.base, .int .i64 g.term, .slice A g.es.length c], .int .i64 i] w fun e w' => e = .returned (.tuple #[.int .i64 (g.at_ p), .bool true]) ∧ Below w.heap.size w w' := by
  have hb1 : Below w.heap.size w (w.alloc (.cells #[.int .i64 g.base, .int .i64 g.term, .slice A g.es.length c] 58)) := (Below.refl _ w).alloc (Nat.le_refl _) _
  have HC := hid (refLast_any w.heap.size g A c hg _ ((h.more hB).below hb1) hb1.size)
  have HB := hid hb1
  obtain ⟨la, hla⟩ : ∃ la, la = g.last := ⟨_, rfl⟩
  obtain ⟨lt, hlt⟩ : ∃ lt, lt = g.lastT := ⟨_, rfl⟩
  have hla2 : la = g.base + (g.es.length : Nat) := by rw [hla]; rfl
  rw [← hla, ← hlt] at HC
  have hil : ¬ la < i := by omega
  have hib : ¬ i < g.base := by omega
  clear hla hlt hla2
  obtain ⟨⟨g0, g1⟩, _, gl⟩ := hg
  rcases p with _ | p
  · obtain rfl : i = g.base := by omega
    clear h hb1 hi
    go_enter Tryz.func167, Tryz.ntmps167
    go_wp2_with fail
    refine HC.out.mono ?_
    rintro e w2 ⟨rfl, hb2⟩
    have HB2 := hid (HB.out.trans (hb2.mono HB.out.size))
    have q0 : w2.cell? ⟨w.heap.size, 0, none⟩ = some (.int .i64 g.base) := by rw [hb2.cell (by simp)]; simp
    have q1 : w2.cell? ⟨w.heap.size, 1, none⟩ = some (.int .i64 g.term) := by rw [hb2.cell (by simp)]; simp
    clear hb2
    go_wp2_with fail
    go_ret2
    exact ⟨rfl, HB2.out⟩
  · obtain ⟨b, off, rfl, hbB, hc⟩ := h.term_cell p (by omega)
    have hcW : Hid (∀ w', Below w.heap.size w w' → w'.cell? ⟨b, off + p * 3, none⟩ = some (.int .i64 (g.at_ (p + 1)))) := hid (fun w' hb => (hb.cell (by show b < _; omega)).trans hc)
    have hne : ¬ i = g.base := by omega
    have hsub : i - g.base = (p : Int) + 1 := by omega
    have hb2' : i ≤ 1099511727776 := by omega
    have hp0 : (p : Int) < (g.es.length : Int) := by omega
    obtain ⟨x, hx⟩ : ∃ x, x = g.at_ (p + 1) := ⟨_, rfl⟩
    rw [← hx] at hcW ⊢
    clear h hb1 hi hc hx
    go_enter Tryz.func167, Tryz.ntmps167
    go_wp2_with fail
    refine HC.out.mono ?_
    rintro e w2 ⟨rfl, hb2⟩
    have HB2 := hid (HB.out.trans (hb2.mono HB.out.size))
    have q0 : w2.cell? ⟨w.heap.size, 0, none⟩ = some (.int .i64 g.base) := by rw [hb2.cell (by simp)]; simp
    have q2 : w2.cell? ⟨w.heap.size, 2, none⟩ = some (.slice (some ⟨b, off, none⟩) g.es.length c) := by rw [hb2.cell (by simp)]; simp
    have q3 := hcW.out w2 HB2.out
    clear hb2
    go_wp2_with fail
    go_ret2
    exact ⟨rfl, HB2.out⟩
theorem refTerm_any (B : Nat) (g : Rl.Lg) (A : Option Addr) (c : Nat) (i : Int) (hg : Rl.Ok g) (w : World) (h : LgIs w B g A c) (hB : B ≤ w.heap.size) :
    Calls Tryz.prog 167 #[.agg #[.int .i64 g.base, .int .i64 g.term, .slice A g.es.length c], .int .i64 i] w fun e w' => e = .returned (.tuple #[.int .i64 (g.termV i), .bool (g.has i)]) ∧ Below w.heap.size w w' := by
  unfold Rl.Lg.termV
  rcases hh : g.has i with _ | _
  · exact refTerm_no B g A c i hg hh w h hB
  · obtain ⟨p, h1, h2, h3⟩ := Rl.Lg.has_at hh
    rw [h3]
    exact refTerm_yes B g A c i p h1 h2 hg w h hB
set_option maxHeartbeats 800000 in
set_option maxRecDepth 100000 in
theorem refCut_no (B : Nat) (g : Rl.Lg) (A : Option Addr) (c : Nat) (i : Int) (hg : Rl.Ok g) (hn : g.has i = false) (w : World) (h : LgIs w B g A c) (hB : B ≤ w.heap.size) :
    Calls Tryz.prog 168 #[.agg #[.int .i64 g.base, .int .i64 g.term, .slice A g.es.length c], .int .i64 i] w fun e w' => e = .returned (.tuple #[.agg #[.int .i64 0, .int .i64 0, .slice none 0 0], .int .i64 3]) ∧ Below w.heap.size w w' := by
  obtain ⟨w1, hw1⟩ : ∃ w1, w1 = (w.alloc (.cells #[.int .i64 g.base, .int .i64 g.term, .slice A g.es.length c] 58)).alloc (.cells #[.int .i64 0, .int .i64 0, .slice none 0 0] 58) := ⟨_, rfl⟩
  have hb1 : Below w.heap.size w w1 := by rw [hw1]; exact ((Below.refl _ w).alloc (Nat.le_refl _) _).alloc (by simp) _
  have HC := hid (refTerm_no w.heap.size g A c i hg hn w1 ((h.more hB).below hb1) hb1.size)
  have HB := hid hb1
  have HZ := hid hb1.size
  rw [hw1] at HC HB HZ
  clear h hb1 hn hw1
  go_enter Tryz.func168, Tryz.ntmps168
  go_wp2_with fail
  refine HC.out.mono ?_
  rintro e w2 ⟨rfl, hb2⟩
  have HB2 := hid (HB.out.trans (hb2.mono HZ.out))
  have r0 : w2.cell? ⟨w.heap.size + 1, 0, none⟩ = some (.int .i64 0) := by rw [hb2.cell (by simp)]; simp [World.cell?_alloc_at]
  have r1 : w2.cell? ⟨w.heap.size + 1, 1, none⟩ = some (.int .i64 0) := by rw [hb2.cell (by simp)]; simp [World.cell?_alloc_at]
  have r2 : w2.cell? ⟨w.heap.size + 1, 2, none⟩ = some (.slice none 0 0) := by rw [hb2.cell (by simp)]; simp [World.cell?_alloc_at]
  have f3 : ∀ k, w2.frozen? ⟨w.heap.size + 1, k, none⟩ = false := fun k => by rw [hb2.frozen (by simp)]; simp [World.frozen?_alloc_at]
  have hs3 : w.heap.size + 2 ≤ w2.heap.size := by simpa using hb2.size
  clear hb2
  go_wp2_with fail
  refine bodyPost_ret (by simp [results, Tryz.results168, go_sem, r0, r1, r2]; try rfl) rfl ?_
  refine ⟨rfl, HB2.out.trans ?_⟩
  go_grown
set_option maxHeartbeats 800000 in
set_option maxRecDepth 100000 in
theorem refCut_yes (B : Nat) (g : Rl.Lg) (A : Option Addr) (c : Nat) (i : Int) (p : Nat) (hi : i = g.base + (p : Int)) (hp : p ≤ g.es.length) (hg : Rl.Ok g) (hf : Rl.Few g.es) (w : World) (h : LgIs w B g A c) (hB : B ≤ w.heap.size) :
    Calls Tryz.prog 168 #[.agg #[.int .i64 g.base, .int .i64 g.term, .slice A g.es.length c], .int .i64 i] w fun e w' => ∃ A' c', e = .returned (.tuple #[.agg #[.int .i64 i, .int .i64 (g.at_ p), .slice A' (g.es.length - p) c'], .int .i64 0]) ∧ OwnE w' w.heap.size w'.heap.size A' c' (g.es.drop p) ∧ Below w.heap.size w w' := by
  obtain ⟨w1, hw1⟩ : ∃ w1, w1 = (w.alloc (.cells #[.int .i64 g.base, .int .i64 g.term, .slice A g.es.length c] 58)).alloc (.cells #[.int .i64 0, .int .i64 0, .slice none 0 0] 58) := ⟨_, rfl⟩
  have hb1 : Below w.heap.size w w1 := by rw [hw1]; exact ((Below.refl _ w).alloc (Nat.le_refl _) _).alloc (by simp) _
  have HC := hid (refTerm_yes w.heap.size g A c i p hi hp hg w1 ((h.more hB).below hb1) hb1.size)
  have HB := hid hb1
  have HZ := hid hb1.size
  rw [hw1] at HC HB HZ
  obtain ⟨⟨g0, g1⟩, _, gl⟩ := hg
  have hroom := h.room.1
  have hsl := (h.es.sl (i := p) h.room.1).more hB
  obtain ⟨A1, hA1⟩ : ∃ A1, (if c = p then A else A.map (fun x => x.add (p * 3))) = A1 := ⟨_, rfl⟩
  rw [hA1] at hsl
  have HO : Hid (∀ w' c', Below w.heap.size w w' → Calls Tryz.prog 125 #[.slice A1 (g.es.length - p) c'] w' fun e w'' => ∃ A' c', e = .returned (.slice A' (g.es.length - p) c') ∧ OwnE w'' w'.heap.size w''.heap.size A' c' (g.es.drop p) ∧ Below w'.heap.size w' w'') := hid (fun w' c' hb => copyE_any w.heap.size _ c' _ _ List.length_drop (by omega) (fun e he => hf e (List.mem_of_mem_drop he)) w' (hsl.below hb) hb.size)
  have hsub : i - g.base = (p : Int) := by omega
  have hi2 : i ≤ 1099511727776 := by omega
  have hi3 : 0 ≤ i := by omega
  have hpl : (p : Int) ≤ (g.es.length : Int) := by omega
  clear h hb1 hi hsl hf hw1
  go_enter Tryz.func168, Tryz.ntmps168
  go_wp2_with fail
  refine HC.out.mono ?_
  rintro e w2 ⟨rfl, hb2⟩
  have HB2 := hid (HB.out.trans (hb2.mono HZ.out))
  have q0 : w2.cell? ⟨w.heap.size, 0, none⟩ = some (.int .i64 g.base) := by rw [hb2.cell (by simp; omega)]; simp
  have q2 : w2.cell? ⟨w.heap.size, 2, none⟩ = some (.slice A g.es.length c) := by rw [hb2.cell (by simp; omega)]; simp
  have HR : Hid (∀ w3, Below w2.heap.size w2 w3 → (w3.cell? ⟨w.heap.size + 1, 0, none⟩ = some (.int .i64 0) ∧ w3.cell? ⟨w.heap.size + 1, 1, none⟩ = some (.int .i64 0) ∧ w3.cell? ⟨w.heap.size + 1, 2, none⟩ = some (.slice none 0 0)) ∧ ∀ k, w3.frozen? ⟨w.heap.size + 1, k, none⟩ = false) := hid (fun w3 hb3 => by
    have hs3 : w.heap.size + 2 ≤ w2.heap.size := by simpa using hb2.size
    refine ⟨⟨?_, ?_, ?_⟩, fun k => ?_⟩
    · rw [hb3.cell (by show w.heap.size + 1 < _; omega), hb2.cell (by simp)]; simp [World.cell?_alloc_at]
    · rw [hb3.cell (by show w.heap.size + 1 < _; omega), hb2.cell (by simp)]; simp [World.cell?_alloc_at]
    · rw [hb3.cell (by show w.heap.size + 1 < _; omega), hb2.cell (by simp)]; simp [World.cell?_alloc_at]
    · rw [hb3.frozen (by show w.heap.size + 1 < _; omega), hb2.frozen (by simp)]; simp [World.frozen?_alloc_at])
  have hs2 : w.heap.size + 2 ≤ w2.heap.size := by simpa using hb2.size
  clear hb2
  go_wp2_with fail
  refine (HO.out w2 _ HB2.out).mono ?_
  rintro e w3 ⟨A3, c3, rfl, ho3, hb3⟩
  obtain ⟨⟨r0, r1, r2⟩, f3⟩ := HR.out w3 hb3
  have hs3 := hb3.size
  have H3 := hid (And.intro ho3 (HB2.out.trans (hb3.mono HB2.out.size)))
  clear hb3 ho3 HR HO HC
  go_wp2_with fail
  refine bodyPost_ret (by simp [results, Tryz.results168, go_sem, r0, r1, r2]; try rfl) rfl ?_
  have T : Turned (fun k => k < w.heap.size + 2) w3 (((w3.setCell ⟨w.heap.size + 1, 0, none⟩ (.int .i64 i)).setCell ⟨w.heap.size + 1, 1, none⟩ (.int .i64 (g.at_ p))).setCell ⟨w.heap.size + 1, 2, none⟩ (.slice A3 (g.es.length - p) c3)) := by
    (repeat' first | exact Turned.refl _ _ | refine Turned.setCell ?_ _ _ _ (fun _ => by omega))
  refine ⟨A3, c3, rfl, (H3.out.1.keep T (fun k hk hB => ?_)).wide (by omega) T.size, H3.out.2.trans ?_⟩
  · have := hB.1; omega
  · go_grown
theorem refCut_any (B : Nat) (g : Rl.Lg) (A : Option Addr) (c : Nat) (i : Int) (hg : Rl.Ok g) (hf : Rl.Few g.es) (w : World) (h : LgIs w B g A c) (hB : B ≤ w.heap.size) :
    Calls Tryz.prog 168 #[.agg #[.int .i64 g.base, .int .i64 g.term, .slice A g.es.length c], .int .i64 i] w fun e w' => ∃ A' c', e = .returned (.tuple #[.agg #[.int .i64 (g.cut i).base, .int .i64 (g.cut i).term, .slice A' (g.cut i).es.length c'], .int .i64 (g.cutE i)]) ∧ OwnE w' w.heap.size w'.heap.size A' c' (g.cut i).es ∧ Below w.heap.size w w' := by
  unfold Rl.Lg.cut Rl.Lg.cutE
  rcases hh : g.has i with _ | _
  · exact (refCut_no B g A c i hg hh w h hB).mono fun e w' ⟨h1, h2⟩ => ⟨none, 0, h1, OwnE.nil _ _ _, h2⟩
  · obtain ⟨p, h1, h2, h3⟩ := Rl.Lg.has_at hh
    rw [h3]
    simp only [if_true, List.length_drop]
    exact refCut_yes B g A c i p h1 h2 hg hf w h hB
end Go.Proofs.YtaeoccpjdjafnaaGreat
namespace Go.Proofs.YtaeoccpjdjafnaaGreat.Im
open Go.RowKit
open Rl (En Lg)
set_option maxRecDepth 100000
set_option linter.unusedVariables false
attribute [local go_sem ↓] loadAt_log1 storeAt_log1
set_option maxHeartbeats 3200000 in
theorem rSnapped_any (g : Lg) (A : Option Addr) (c : Nat) (b t : Int) (n : Nat) (hn : n = g.es.length) (hg : Rl.Ok g) (hf : Rl.Few g.es) (hb : InInt b ∧ InInt t) (w : World) (h : LgIs w w.heap.size g A c) :
    Calls Tryz.prog 136 #[.agg #[.int .i64 g.base, .int .i64 g.term, .slice A n c], .int .i64 b, .int .i64 t] w fun e w' => ∃ A' c' m, e = .returned (.agg #[.int .i64 (sinceM g b t).base, .int .i64 (sinceM g b t).term, .slice A' m c']) ∧ m = (sinceM g b t).es.length ∧ OwnE w' w.heap.size w'.heap.size A' c' (sinceM g b t).es ∧ Below w.heap.size w w' := by
  obtain ⟨wA, hwA⟩ : ∃ wA, wA = (w.alloc (.cells #[.int .i64 g.base, .int .i64 g.term, .slice A n c] 58)).alloc (.cells #[.int .i64 0, .int .i64 0, .slice none 0 0] 58) := ⟨_, rfl⟩
  obtain ⟨b0, hb0⟩ : ∃ b, b = w.heap.size := ⟨_, rfl⟩
  obtain ⟨b1, hb1⟩ : ∃ b, b = w.heap.size + 1 := ⟨_, rfl⟩
  have hsA : wA.heap.size = w.heap.size + 2 := by rw [hwA]; simp
  have hbA : Below w.heap.size w wA := by rw [hwA]; exact ((Below.refl _ w).alloc (Nat.le_refl _) _).alloc (by simp) _
  have hr0 : wA.heap[b0]? = some (.cells #[.int .i64 g.base, .int .i64 g.term, .slice A n c] 58 (0, 0)) := by rw [hwA, heap_alloc_old _ _ (by rw [hb0]; simp), hb0]; exact heap_alloc_new w _
  have hr1 : wA.heap[b1]? = some (.cells #[.int .i64 0, .int .i64 0, .slice none 0 0] 58 (0, 0)) := by
    have := heap_alloc_new (w.alloc (.cells #[.int .i64 g.base, .int .i64 g.term, .slice A n c] 58)) (.cells #[.int .i64 0, .int .i64 0, .slice none 0 0] 58)
    rw [World.size_alloc, ← hwA, ← hb1] at this
    exact this
  have HT : Hid (Calls Tryz.prog 167 #[.agg #[.int .i64 g.base, .int .i64 g.term, .slice A n c], .int .i64 b] wA fun e w' => e = .returned (.tuple #[.int .i64 (g.termV b), .bool (g.has b)]) ∧ Below wA.heap.size wA w') := hid (by
    rw [hn]
    exact refTerm_any wA.heap.size g A c b hg wA ((h.below hbA).more (by omega)) (Nat.le_refl _))
  have HC : Hid (∀ W, Below wA.heap.size wA W → Calls Tryz.prog 168 #[.agg #[.int .i64 g.base, .int .i64 g.term, .slice A n c], .int .i64 b] W fun e w' => ∃ A' c', e = .returned (.tuple #[.agg #[.int .i64 (g.cut b).base, .int .i64 (g.cut b).term, .slice A' (g.cut b).es.length c'], .int .i64 (g.cutE b)]) ∧ OwnE w' W.heap.size w'.heap.size A' c' (g.cut b).es ∧ Below W.heap.size W w') := hid (fun W hW => by
    rw [hn]
    exact refCut_any W.heap.size g A c b hg hf W (((h.below hbA).more (by omega)).below hW |>.more hW.size) (Nat.le_refl _))
  have hld := ldRow info_log33 Tryz.underlying58 rfl hr0 rfl
  have H0 := hid (And.intro hr0 (And.intro hr1 (And.intro hbA (And.intro hsA (And.intro hb0 hb1)))))
  have hb01 := hb.1.1
  have hb02 := hb.1.2
  obtain ⟨tv, htv⟩ : ∃ e, e = g.termV b := ⟨_, rfl⟩
  obtain ⟨hs, hhs⟩ : ∃ e, e = g.has b := ⟨_, rfl⟩
  obtain ⟨e0, he0⟩ : ∃ e, e = g.cutE b := ⟨_, rfl⟩
  obtain ⟨g', hg'⟩ : ∃ x, x = g.cut b := ⟨_, rfl⟩
  have HS : Hid (sinceM g b t = if hs = true ∧ tv = t then g' else ⟨b, t, []⟩) := hid (by
    rw [htv, hhs, hg']
    unfold sinceM Rl.Lg.cutE Rl.Lg.termV Rl.Lg.cut
    rcases g.has b with _ | _ <;> simp)
  rw [← he0, ← hg'] at HC
  rw [← htv, ← hhs] at HT
  obtain ⟨m, hm⟩ : ∃ m, m = g'.es.length := ⟨_, rfl⟩
  rw [← hm] at HC
  have HM := hid hm
  rw [hwA, hb0] at hld
  clear hr0 hr1 hbA hsA h hn hg hf hb hg' hm htv hhs he0
  go_enter Tryz.func136, Tryz.ntmps136
  go_wp2_with fail
  rw [← hwA]
  refine HT.out.mono ?_
  rintro e w1 ⟨rfl, hbl1⟩
  have H1 : Hid (w1.heap[b0]? = some (.cells #[.int .i64 g.base, .int .i64 g.term, .slice A n c] 58 (0, 0)) ∧ w1.heap[b1]? = some (.cells #[.int .i64 0, .int .i64 0, .slice none 0 0] 58 (0, 0)) ∧ Below wA.heap.size wA w1 ∧ Below w.heap.size w w1) := hid (by
    have z0 := H0.out.2.2.2.1
    have z1 := H0.out.2.2.2.2
    exact ⟨(hbl1.block _ (by omega)).trans H0.out.1, (hbl1.block _ (by omega)).trans H0.out.2.1, hbl1, H0.out.2.2.1.trans (hbl1.mono (by omega))⟩)
  have hstB := stRow info_log33 (cs' := #[.int .i64 b, .int .i64 t, .slice none 0 0]) H1.out.2.1 rfl rfl (by simp [Value.oneCell'])
  have rB := setRow_heap w1 b1 _ #[.int .i64 b, .int .i64 t, .slice none 0 0] _ _ H1.out.2.1
  have tB := row_turned w1 b1 #[.int .i64 b, .int .i64 t, .slice none 0 0]
  obtain ⟨w4, hw4⟩ : ∃ w4, w4 = w1.setRow b1 #[.int .i64 b, .int .i64 t, .slice none 0 0] := ⟨_, rfl⟩
  rw [← hw4] at hstB rB tB
  have FB : Hid (w4.heap[b1]? = some (.cells #[.int .i64 b, .int .i64 t, .slice none 0 0] 58 (0, 0)) ∧ Below w.heap.size w w4) := hid (by
    have z1 := H0.out.2.2.2.2.2
    exact ⟨rB, H1.out.2.2.2.trans (tB.below H1.out.2.2.2.size (fun k hk => by omega))⟩)
  have hb1' := H0.out.2.2.2.2.2
  have hb0' := H0.out.2.2.2.2.1
  have HC1 := hid (HC.out w1 H1.out.2.2.1)
  have hld1 := ldRow info_log33 Tryz.underlying58 rfl H1.out.1 rfl
  clear hbl1 rB tB hw4 hwA hld HT HC hb0 hb1
  subst hb1'
  subst hb0'
  cases hs with
  | false =>
    have HV : Hid (sinceM g b t = ⟨b, t, []⟩) := hid (by rw [HS.out, if_neg (fun h => by cases h.1)])
    clear hld1
    go_wp2_with fail
    refine bodyPost_ret (results_cell_row rfl _ _ (w.heap.size + 1) _ _ _ _ rfl FB.out.1 Tryz.underlying58 rfl (by rw [info_log33]; rfl)) rfl ?_
    rw [HV.out]
    exact ⟨none, 0, 0, rfl, rfl, OwnE.nil _ _ _, FB.out.2⟩
  | true =>
    by_cases ht : tv = t
    · have HV : Hid (sinceM g b t = g') := hid (by rw [HS.out, if_pos ⟨rfl, ht⟩])
      subst ht
      clear hstB FB HS
      go_wp2_with fail
      refine HC1.out.mono ?_
      rintro e w2 ⟨A1, c1, rfl, ho1, hbl2⟩
      obtain ⟨w3, hw3⟩ : ∃ w3, w3 = w2.alloc (.cells #[.int .i64 g'.base, .int .i64 g'.term, .slice A1 m c1] 58) := ⟨_, rfl⟩
      have hb3 : Below w2.heap.size w2 w3 := by rw [hw3]; exact (Below.refl _ w2).alloc (Nat.le_refl _) _
      have hro3 : w3.heap[w2.heap.size]? = some (.cells #[.int .i64 g'.base, .int .i64 g'.term, .slice A1 m c1] 58 (0, 0)) := by rw [hw3]; exact heap_alloc_new w2 _
      have hst3 := stNew w2 58 3 info_log33 #[.int .i64 0, .int .i64 0, .slice none 0 0] #[.int .i64 g'.base, .int .i64 g'.term, .slice A1 m c1] rfl rfl (by simp [Value.oneCell'])
      rw [← hw3] at hst3
      have hz3 : w3.heap[w.heap.size + 1]? = some (.cells #[.int .i64 0, .int .i64 0, .slice none 0 0] 58 (0, 0)) := by
        have z1 := row_lt H1.out.2.1
        have zb := hbl2.size
        exact (hb3.block _ (by omega)).trans ((hbl2.block _ z1).trans H1.out.2.1)
      have hld3 := ldRow info_log33 Tryz.underlying58 rfl hro3 rfl
      have hstA := stRow info_log33 (cs' := #[.int .i64 g'.base, .int .i64 g'.term, .slice A1 m c1]) hz3 rfl rfl (by simp [Value.oneCell'])
      have rA := setRow_heap w3 (w.heap.size + 1) _ #[.int .i64 g'.base, .int .i64 g'.term, .slice A1 m c1] _ _ hz3
      have tA := row_turned w3 (w.heap.size + 1) #[.int .i64 g'.base, .int .i64 g'.term, .slice A1 m c1]
      obtain ⟨w5, hw5⟩ : ∃ w5, w5 = w3.setRow (w.heap.size + 1) #[.int .i64 g'.base, .int .i64 g'.term, .slice A1 m c1] := ⟨_, rfl⟩
      rw [← hw5] at hstA rA tA
      have FA : Hid (w5.heap[w.heap.size + 1]? = some (.cells #[.int .i64 g'.base, .int .i64 g'.term, .slice A1 m c1] 58 (0, 0)) ∧ OwnE w5 w.heap.size w5.heap.size A1 c1 g'.es ∧ Below w.heap.size w w5) := hid (by
        have z1 := row_lt H1.out.2.1
        have zb := hbl2.size
        have zc := hb3.size
        have zt := tA.size
        have low3 : Below w.heap.size w w3 := H1.out.2.2.2.trans ((hbl2.trans (hb3.mono zb)).mono H1.out.2.2.2.size)
        exact ⟨rA, ((ho1.below hb3).keep tA (fun k hk hB => by have := hB.1; omega)).wide (by omega) (by omega), low3.trans (tA.below low3.size (fun k hk => by omega))⟩)
      clear ho1 hbl2 hb3 hro3 hz3 rA tA hw5 hw3 hld1 HC1
      go_wp2_with fail
      refine bodyPost_ret (results_cell_row rfl _ _ (w.heap.size + 1) _ _ _ _ rfl FA.out.1 Tryz.underlying58 rfl (by rw [info_log33]; rfl)) rfl ?_
      rw [HV.out]
      exact ⟨A1, c1, m, rfl, HM.out, FA.out.2⟩
    · have HV : Hid (sinceM g b t = ⟨b, t, []⟩) := hid (by rw [HS.out, if_neg (fun h => ht h.2)])
      clear hld1
      go_wp2_with fail
      refine bodyPost_ret (results_cell_row rfl _ _ (w.heap.size + 1) _ _ _ _ rfl FB.out.1 Tryz.underlying58 rfl (by rw [info_log33]; rfl)) rfl ?_
      rw [HV.out]
      exact ⟨none, 0, 0, rfl, rfl, OwnE.nil _ _ _, FB.out.2⟩
end Go.Proofs.YtaeoccpjdjafnaaGreat.Im
namespace Go.Proofs.YtaeoccpjdjafnaaGreat.Im
open Go Go.RowKit
open Rl (En Lg)
open Qu (Cf)
set_option maxRecDepth 100000
set_option linter.unusedVariables false
local instance lo30 : Lo := ⟨0⟩
attribute [local go_sem ↓] loadAt_hard storeAt_hard loadAt_change storeAt_change loadAt_log1 storeAt_log1 loadAt_conf3 storeAt_conf3
theorem step_append_rows {P : Program} {w : World} {ops : Array Oper} {o : Oper} {a : Act} {K : Act → World → Prop} {Q : Exit → Act → World → Prop} {E : Prop} (hgd : o.guard = none) (s x : Operand) (t : TypeId)
    (ho : o.op = .call { callee := .builtin .append, args := #[s, x], argTypes := #[t, t] }) {α : Type} {f : α → List Value} {size bytes : Nat} {e : TypeId} {F : Nat → Prop} {A : Option Addr} {c : Nat} {L : List α} (i : TypeInfo) (z : Value)
    (ht : P.underlying t = some (.slice e)) (hi : P.info? e = some i) (hz : i.zero = some z) (hsize : i.size = size) (hby : i.bytes = bytes) (hzs : z.cells.size = size) (hsz : 0 < size)
    (h : RowIn f size e w F A c L) (n : Nat) (hn : L.length = n) (hs : a.eval s = .slice A n c) {B : Nat} (A' : Option Addr) (c' : Nat) (M : List α) (m : Nat) (hm : M.length = m) (hx : a.eval x = .slice A' m c') (hnil : A' = none → c' = 0) (hr : IsRow f size w B A' M) (h1 : ∀ y, ∀ u ∈ f y, u.oneCell' = true)
    (hb : (n + m) * bytes ≤ 140737488355328) (hl : n + m ≤ 100000)
    (hK : ∀ A2 c2 w', RowIn f size e w' (fun k => F k ∨ w.heap.size ≤ k) A2 c2 (L ++ M) → w.grownBy w' (blk A) → K (a.put o.dst (.slice A2 (n + m) c2)) w') :
    if Region.wanted o (yielded ops a.tmps) = true then Oper.wp P o a w K Q else E := by
  have hw : Region.wanted o (yielded ops a.tmps) = true := by simp [Region.wanted, hgd]
  rw [if_pos hw]
  subst hn
  subst hm
  rcases A' with _ | ad
  · obtain rfl : M = [] := by
      rcases M with _ | ⟨y, M⟩
      · rfl
      · obtain ⟨b, off, e, _⟩ := hr.at_ 0 (by simp)
        cases e
    obtain rfl := hnil rfl
    have hrun := run_append_owned_none (P := P) (w := w) 0 t o.type e i size ht hi _ L.length (L.flatMap f) h.row
    refine Lib.wp_append_run w s x t t ho _ _ hs hx _ w hrun ?_
    have := hK A c w (by rw [List.append_nil]; exact ⟨h.fits, h.row, fun k hk => .inl (h.blk k hk)⟩) (World.grownBy.refl w _)
    simpa using this
  · obtain ⟨A2, c2, w', hrun, h2, h3⟩ := run_append_rows t o.type i z ht hi hz hsize hby hzs hsz h ad c' M hr h1 hb hl
    exact Lib.wp_append_run w s x t t ho _ _ hs hx _ w' hrun (hK _ _ _ h2 h3)
def TurnPost (x : Hd) (c : Ch) (w : World) (e : Ending) (w' : World) : Prop := ∃ (y : Hd) (a : Ad) (b : Bool), e = .returned (.tuple #[.agg #[.int .i64 y.g, .int .i64 y.t, .int .i64 y.v, .int .i64 y.p.log.base, .int .i64 y.p.log.term, .slice a.e y.p.log.es.length a.ce, .slice a.o y.p.cf.old.length a.co, .slice a.n y.p.cf.new.length a.cn, .slice a.l y.p.cf.lrn.length a.cl, .slice a.s y.p.sn.length a.cs], .bool b]) ∧ b = (chgd x c).isSome ∧ y = (chgd x c).getD x ∧ PtIn w' w.heap.size w'.heap.size y.p a ∧ (InInt y.g ∧ InInt y.t ∧ InInt y.v) ∧ Below w.heap.size w w'
structure Tz (w W : World) (x : Hd) (c : Ch) (a1 a2 : Ad) (m : Nat) : Prop where
  bel : Below w.heap.size w W
  r0 : W.heap[w.heap.size]? = some (.cells #[.int .i64 x.g, .int .i64 x.t, .int .i64 x.v, .int .i64 x.p.log.base, .int .i64 x.p.log.term, .slice a1.e x.p.log.es.length a1.ce, .slice a1.o x.p.cf.old.length a1.co, .slice a1.n x.p.cf.new.length a1.cn, .slice a1.l x.p.cf.lrn.length a1.cl, .slice a1.s x.p.sn.length a1.cs] 75 (0, 0))
  r1 : W.heap[w.heap.size + 1]? = some (.cells #[.int .i64 c.k, .int .i64 c.g, .int .i64 c.t, .int .i64 c.v, .int .i64 c.f, .int .i64 c.p.log.base, .int .i64 c.p.log.term, .slice a2.e c.p.log.es.length a2.ce, .slice a2.o c.p.cf.old.length a2.co, .slice a2.n c.p.cf.new.length a2.cn, .slice a2.l c.p.cf.lrn.length a2.cl, .slice a2.s c.p.sn.length a2.cs, .int .i64 c.a.x, .int .i64 c.a.p, .int .i64 c.a.r, .int .i64 c.a.b, .int .i64 c.a.v] 62 (0, 0))
  r2 : W.heap[w.heap.size + 1 + 1]? = some (.cells #[.int .i64 0, .int .i64 0, .int .i64 0, .int .i64 0, .int .i64 0, .slice none 0 0, .slice none 0 0, .slice none 0 0, .slice none 0 0, .slice none 0 0] 75 (0, 0))
  p1 : PtIn W (w.heap.size + 3) m x.p a1
  p2 : PtIn W m W.heap.size c.p a2
  lt : w.heap.size + 3 ≤ m ∧ m ≤ W.heap.size
theorem Tz.below {w W W' : World} {x : Hd} {c : Ch} {a1 a2 : Ad} {m : Nat} (h : Tz w W x c a1 a2 m) (hb : Below W.heap.size W W') : Tz w W' x c a1 a2 m :=
  ⟨h.bel.trans (hb.mono h.bel.size), (hb.block _ (row_lt h.r0)).trans h.r0, (hb.block _ (row_lt h.r1)).trans h.r1, (hb.block _ (row_lt h.r2)).trans h.r2, h.p1.below (hb.mono h.lt.2), (h.p2.below hb).wide (Nat.le_refl _) hb.size, ⟨h.lt.1, by have := h.lt.2; have := hb.size; omega⟩⟩
set_option maxHeartbeats 6400000 in
theorem rTurn1_any (x : Hd) (ad : Ad) (c : Ch) (ac : Ad) (hk : c.k = 1) (hok : Rl.Ok x.p.log) (hf : (FewK x.p ∧ Rl.Few x.p.log.es) ∧ x.p.sn.length ≤ 140737488355328) (hfc : (FewK c.p ∧ Rl.Few c.p.log.es) ∧ c.p.sn.length ≤ 140737488355328) (hsz : x.p.log.es.length ≤ 40000 ∧ c.p.log.es.length ≤ 40000) (w : World) (hx : IsPt w w.heap.size x.p ad) (hc : IsPt w w.heap.size c.p ac) (hnx : InInt x.g ∧ InInt x.t ∧ InInt x.v) (hnc : (InInt c.k ∧ InInt c.g ∧ InInt c.t ∧ InInt c.v ∧ InInt c.f) ∧ okV c.a) :
    Calls Tryz.prog 97 #[.agg #[.int .i64 x.g, .int .i64 x.t, .int .i64 x.v, .int .i64 x.p.log.base, .int .i64 x.p.log.term, .slice ad.e x.p.log.es.length ad.ce, .slice ad.o x.p.cf.old.length ad.co, .slice ad.n x.p.cf.new.length ad.cn, .slice ad.l x.p.cf.lrn.length ad.cl, .slice ad.s x.p.sn.length ad.cs], .agg #[.int .i64 c.k, .int .i64 c.g, .int .i64 c.t, .int .i64 c.v, .int .i64 c.f, .int .i64 c.p.log.base, .int .i64 c.p.log.term, .slice ac.e c.p.log.es.length ac.ce, .slice ac.o c.p.cf.old.length ac.co, .slice ac.n c.p.cf.new.length ac.cn, .slice ac.l c.p.cf.lrn.length ac.cl, .slice ac.s c.p.sn.length ac.cs, .int .i64 c.a.x, .int .i64 c.a.p, .int .i64 c.a.r, .int .i64 c.a.b, .int .i64 c.a.v]] w (TurnPost x c w) := by
  obtain ⟨wA, hwA⟩ : ∃ wA, wA = (((w.alloc (.cells #[.int .i64 x.g, .int .i64 x.t, .int .i64 x.v, .int .i64 x.p.log.base, .int .i64 x.p.log.term, .slice ad.e x.p.log.es.length ad.ce, .slice ad.o x.p.cf.old.length ad.co, .slice ad.n x.p.cf.new.length ad.cn, .slice ad.l x.p.cf.lrn.length ad.cl, .slice ad.s x.p.sn.length ad.cs] 75)).alloc (.cells #[.int .i64 c.k, .int .i64 c.g, .int .i64 c.t, .int .i64 c.v, .int .i64 c.f, .int .i64 c.p.log.base, .int .i64 c.p.log.term, .slice ac.e c.p.log.es.length ac.ce, .slice ac.o c.p.cf.old.length ac.co, .slice ac.n c.p.cf.new.length ac.cn, .slice ac.l c.p.cf.lrn.length ac.cl, .slice ac.s c.p.sn.length ac.cs, .int .i64 c.a.x, .int .i64 c.a.p, .int .i64 c.a.r, .int .i64 c.a.b, .int .i64 c.a.v] 62)).alloc (.cells #[.int .i64 0, .int .i64 0, .int .i64 0, .int .i64 0, .int .i64 0, .slice none 0 0, .slice none 0 0, .slice none 0 0, .slice none 0 0, .slice none 0 0] 75)) := ⟨_, rfl⟩
  have hg := cg_start w x ad c ac
  rw [← hwA] at hg
  have hzA : wA.heap.size = w.heap.size + 3 := by rw [hwA]; simp
  have ldA := ldRow info_hard Tryz.underlying75 rfl hg.r2 rfl
  have HCH := hid (copyH_any x ad hf.1 hf.2 wA (hx.low hg.bel))
  have HCC := hid (fun W (h : IsPt W W.heap.size c.p ac) => copyC_any c ac hfc.1 hfc.2 W h)
  have HG := hid (And.intro hg (And.intro hzA hc))
  have HX := hid (And.intro hnx (And.intro hnc (And.intro hok (And.intro hsz (And.intro hf.1.2 hfc.1.2)))))
  have HK := hid hk
  rw [hwA] at ldA
  clear hg hzA hx hc hf hfc hnx hnc hok hsz hk
  go_enter Tryz.func97, Tryz.ntmps97
  go_wp2_with fail
  rw [← hwA]
  clear hwA ldA
  refine HCH.out.mono ?_
  rintro e w1 ⟨a1, rfl, ho1, hb1⟩
  have r01 := (hb1.block _ (row_lt HG.out.1.r2)).trans HG.out.1.r2
  have st1 := stRow info_hard (cs' := #[.int .i64 x.g, .int .i64 x.t, .int .i64 x.v, .int .i64 x.p.log.base, .int .i64 x.p.log.term, .slice a1.e x.p.log.es.length a1.ce, .slice a1.o x.p.cf.old.length a1.co, .slice a1.n x.p.cf.new.length a1.cn, .slice a1.l x.p.cf.lrn.length a1.cl, .slice a1.s x.p.sn.length a1.cs]) r01 rfl rfl (by simp [Value.oneCell'])
  have ro1 := setRow_heap w1 w.heap.size _ #[.int .i64 x.g, .int .i64 x.t, .int .i64 x.v, .int .i64 x.p.log.base, .int .i64 x.p.log.term, .slice a1.e x.p.log.es.length a1.ce, .slice a1.o x.p.cf.old.length a1.co, .slice a1.n x.p.cf.new.length a1.cn, .slice a1.l x.p.cf.lrn.length a1.cl, .slice a1.s x.p.sn.length a1.cs] _ _ r01
  have tu1 := row_turned w1 w.heap.size #[.int .i64 x.g, .int .i64 x.t, .int .i64 x.v, .int .i64 x.p.log.base, .int .i64 x.p.log.term, .slice a1.e x.p.log.es.length a1.ce, .slice a1.o x.p.cf.old.length a1.co, .slice a1.n x.p.cf.new.length a1.cn, .slice a1.l x.p.cf.lrn.length a1.cl, .slice a1.s x.p.sn.length a1.cs]
  obtain ⟨w2, hw2⟩ : ∃ w2, w2 = w1.setRow w.heap.size #[.int .i64 x.g, .int .i64 x.t, .int .i64 x.v, .int .i64 x.p.log.base, .int .i64 x.p.log.term, .slice a1.e x.p.log.es.length a1.ce, .slice a1.o x.p.cf.old.length a1.co, .slice a1.n x.p.cf.new.length a1.cn, .slice a1.l x.p.cf.lrn.length a1.cl, .slice a1.s x.p.sn.length a1.cs] := ⟨_, rfl⟩
  rw [← hw2] at st1 ro1 tu1
  have H2 : Hid (w2.heap[w.heap.size]? = some (.cells #[.int .i64 x.g, .int .i64 x.t, .int .i64 x.v, .int .i64 x.p.log.base, .int .i64 x.p.log.term, .slice a1.e x.p.log.es.length a1.ce, .slice a1.o x.p.cf.old.length a1.co, .slice a1.n x.p.cf.new.length a1.cn, .slice a1.l x.p.cf.lrn.length a1.cl, .slice a1.s x.p.sn.length a1.cs] 75 (0, 0)) ∧ w2.heap[w.heap.size + 1]? = some (.cells #[.int .i64 c.k, .int .i64 c.g, .int .i64 c.t, .int .i64 c.v, .int .i64 c.f, .int .i64 c.p.log.base, .int .i64 c.p.log.term, .slice ac.e c.p.log.es.length ac.ce, .slice ac.o c.p.cf.old.length ac.co, .slice ac.n c.p.cf.new.length ac.cn, .slice ac.l c.p.cf.lrn.length ac.cl, .slice ac.s c.p.sn.length ac.cs, .int .i64 c.a.x, .int .i64 c.a.p, .int .i64 c.a.r, .int .i64 c.a.b, .int .i64 c.a.v] 62 (0, 0)) ∧ w2.heap[w.heap.size + 1 + 1]? = some (.cells #[.int .i64 0, .int .i64 0, .int .i64 0, .int .i64 0, .int .i64 0, .slice none 0 0, .slice none 0 0, .slice none 0 0, .slice none 0 0, .slice none 0 0] 75 (0, 0)) ∧ PtIn w2 (w.heap.size + 3) w2.heap.size x.p a1 ∧ Below w.heap.size w w2 ∧ IsPt w2 w2.heap.size c.p ac ∧ w.heap.size + 3 ≤ w2.heap.size) := hid (by
    obtain ⟨hg, hzA, hc⟩ := HG.out
    have hz1 := hb1.size
    have hz2 := tu1.size
    have hbw : Below w.heap.size w w2 := hg.bel.trans ((hb1.mono hg.bel.size).trans (tu1.below (by omega) (fun k hk => by omega)))
    refine ⟨ro1, (tu1.block _ (by omega) (by omega)).trans ((hb1.block _ (by omega)).trans hg.r3), (tu1.block _ (by omega) (by omega)).trans ((hb1.block _ (by omega)).trans hg.r4), ?_, hbw, hc.low hbw, by omega⟩
    rw [← hzA]
    exact (ho1.ptIn.keep tu1 (fun k hk hB => by have := hB.1; omega)).wide (Nat.le_refl _) hz2)
  have ld2 := ldRow info_change Tryz.underlying62 rfl H2.out.2.1 rfl
  have HC2 := hid (HCC.out w2 H2.out.2.2.2.2.2.1)
  clear ho1 hb1 r01 ro1 tu1 hw2 HCH HCC HG
  go_wp2_with fail
  refine HC2.out.mono ?_
  rintro e w3 ⟨a2, rfl, ho3, hb3⟩
  have r13 := (hb3.block _ (row_lt H2.out.2.1)).trans H2.out.2.1
  have st3 := stRow info_change (cs' := #[.int .i64 c.k, .int .i64 c.g, .int .i64 c.t, .int .i64 c.v, .int .i64 c.f, .int .i64 c.p.log.base, .int .i64 c.p.log.term, .slice a2.e c.p.log.es.length a2.ce, .slice a2.o c.p.cf.old.length a2.co, .slice a2.n c.p.cf.new.length a2.cn, .slice a2.l c.p.cf.lrn.length a2.cl, .slice a2.s c.p.sn.length a2.cs, .int .i64 c.a.x, .int .i64 c.a.p, .int .i64 c.a.r, .int .i64 c.a.b, .int .i64 c.a.v]) r13 rfl rfl (by simp [Value.oneCell'])
  have ro3 := setRow_heap w3 (w.heap.size + 1) _ #[.int .i64 c.k, .int .i64 c.g, .int .i64 c.t, .int .i64 c.v, .int .i64 c.f, .int .i64 c.p.log.base, .int .i64 c.p.log.term, .slice a2.e c.p.log.es.length a2.ce, .slice a2.o c.p.cf.old.length a2.co, .slice a2.n c.p.cf.new.length a2.cn, .slice a2.l c.p.cf.lrn.length a2.cl, .slice a2.s c.p.sn.length a2.cs, .int .i64 c.a.x, .int .i64 c.a.p, .int .i64 c.a.r, .int .i64 c.a.b, .int .i64 c.a.v] _ _ r13
  have tu3 := row_turned w3 (w.heap.size + 1) #[.int .i64 c.k, .int .i64 c.g, .int .i64 c.t, .int .i64 c.v, .int .i64 c.f, .int .i64 c.p.log.base, .int .i64 c.p.log.term, .slice a2.e c.p.log.es.length a2.ce, .slice a2.o c.p.cf.old.length a2.co, .slice a2.n c.p.cf.new.length a2.cn, .slice a2.l c.p.cf.lrn.length a2.cl, .slice a2.s c.p.sn.length a2.cs, .int .i64 c.a.x, .int .i64 c.a.p, .int .i64 c.a.r, .int .i64 c.a.b, .int .i64 c.a.v]
  obtain ⟨w4, hw4⟩ : ∃ w4, w4 = w3.setRow (w.heap.size + 1) #[.int .i64 c.k, .int .i64 c.g, .int .i64 c.t, .int .i64 c.v, .int .i64 c.f, .int .i64 c.p.log.base, .int .i64 c.p.log.term, .slice a2.e c.p.log.es.length a2.ce, .slice a2.o c.p.cf.old.length a2.co, .slice a2.n c.p.cf.new.length a2.cn, .slice a2.l c.p.cf.lrn.length a2.cl, .slice a2.s c.p.sn.length a2.cs, .int .i64 c.a.x, .int .i64 c.a.p, .int .i64 c.a.r, .int .i64 c.a.b, .int .i64 c.a.v] := ⟨_, rfl⟩
  rw [← hw4] at st3 ro3 tu3
  have T4 : Hid (Tz w w4 x c a1 a2 w2.heap.size) := hid (by
    obtain ⟨q0, q1, q2, q3, q4, q5, q6⟩ := H2.out
    have hz3 := hb3.size
    have hz4 := tu3.size
    exact ⟨q4.trans ((hb3.mono q4.size).trans (tu3.below (by omega) (fun k hk => by omega))), (tu3.block _ (by omega) (by omega)).trans ((hb3.block _ (by omega)).trans q0), ro3, (tu3.block _ (by omega) (by omega)).trans ((hb3.block _ (by omega)).trans q2), (q3.below hb3).keep tu3 (fun k hk hB => by have := hB.1; omega), (ho3.ptIn.keep tu3 (fun k hk hB => by have := hB.1; omega)).wide (Nat.le_refl _) hz4, ⟨q6, by omega⟩⟩)
  obtain ⟨m, hm⟩ : ∃ m, m = w2.heap.size := ⟨_, rfl⟩
  rw [← hm] at T4
  have k0 : w4.cell? ⟨w.heap.size + 1, 0, none⟩ = some (.int .i64 c.k) := row_cell T4.out.r1 0
  rw [HK.out] at k0
  clear ho3 hb3 r13 ro3 tu3 hw4 HC2 H2 ld2 hm st1
  obtain ⟨y, hy⟩ : ∃ y : Hd, y = { x with t := c.t, v := c.v } := ⟨_, rfl⟩
  obtain ⟨a', ha'⟩ : ∃ a' : Ad, a' = a1 := ⟨_, rfl⟩
  have HY : Hid (chgd x c = some y ∧ (InInt y.g ∧ InInt y.t ∧ InInt y.v)) := hid (by rw [hy]; exact ⟨by unfold chgd; rw [if_pos HK.out], HX.out.1.1, HX.out.2.1.1.2.2.1, HX.out.2.1.1.2.2.2.1⟩)
  have k2 : w4.cell? ⟨w.heap.size + 1, 2, none⟩ = some (.int .i64 c.t) := row_cell T4.out.r1 2
  have z1 := row_free T4.out.r0 1
  have c1 := row_cell T4.out.r0 1
  obtain ⟨w5, hw5⟩ : ∃ u, u = w4.setCell ⟨w.heap.size, 1, none⟩ (.int .i64 c.t) := ⟨_, rfl⟩
  have t5 : Turned (fun k => k = w.heap.size) w4 w5 := by rw [hw5]; exact Turned.one _ _ _ _
  have r05 := row_set T4.out.r0 1 (.int .i64 c.t)
  rw [← hw5] at r05
  have r15 := (t5.block _ (row_lt T4.out.r1) (by omega)).trans T4.out.r1
  have k3 : w5.cell? ⟨w.heap.size + 1, 3, none⟩ = some (.int .i64 c.v) := row_cell r15 3
  have z2 := row_free r05 2
  have c2 := row_cell r05 2
  obtain ⟨w6, hw6⟩ : ∃ u, u = w5.setCell ⟨w.heap.size, 2, none⟩ (.int .i64 c.v) := ⟨_, rfl⟩
  have t6 : Turned (fun k => k = w.heap.size) w5 w6 := by rw [hw6]; exact Turned.one _ _ _ _
  have r06 := row_set r05 2 (.int .i64 c.v)
  rw [← hw6] at r06
  have H6 : Hid (w6.heap[w.heap.size]? = some (.cells #[.int .i64 y.g, .int .i64 y.t, .int .i64 y.v, .int .i64 y.p.log.base, .int .i64 y.p.log.term, .slice a'.e y.p.log.es.length a'.ce, .slice a'.o y.p.cf.old.length a'.co, .slice a'.n y.p.cf.new.length a'.cn, .slice a'.l y.p.cf.lrn.length a'.cl, .slice a'.s y.p.sn.length a'.cs] 75 (0, 0)) ∧ w6.heap[w.heap.size + 1 + 1]? = some (.cells #[.int .i64 0, .int .i64 0, .int .i64 0, .int .i64 0, .int .i64 0, .slice none 0 0, .slice none 0 0, .slice none 0 0, .slice none 0 0, .slice none 0 0] 75 (0, 0)) ∧ PtIn w6 (w.heap.size + 3) w6.heap.size y.p a' ∧ Below w.heap.size w w6) := hid (by
    have t46 := t5.trans t6
    have hz := t46.size
    have hlt := T4.out.lt
    rw [hy, ha']
    exact ⟨r06, (t46.block _ (row_lt T4.out.r2) (by omega)).trans T4.out.r2, (T4.out.p1.keep t46 (fun k hk hB => by have := hB.1; omega)).wide (Nat.le_refl _) (by omega), T4.out.bel.trans (t46.below T4.out.bel.size (fun k hk => by omega))⟩)
  clear t5 t6 r05 r06 r15
  have hld := ldRow info_hard Tryz.underlying75 rfl H6.out.1 rfl
  have hst := stRow info_hard (cs' := #[.int .i64 y.g, .int .i64 y.t, .int .i64 y.v, .int .i64 y.p.log.base, .int .i64 y.p.log.term, .slice a'.e y.p.log.es.length a'.ce, .slice a'.o y.p.cf.old.length a'.co, .slice a'.n y.p.cf.new.length a'.cn, .slice a'.l y.p.cf.lrn.length a'.cl, .slice a'.s y.p.sn.length a'.cs]) H6.out.2.1 rfl rfl (by simp [Value.oneCell'])
  have r5 := setRow_heap w6 (w.heap.size + 1 + 1) _ #[.int .i64 y.g, .int .i64 y.t, .int .i64 y.v, .int .i64 y.p.log.base, .int .i64 y.p.log.term, .slice a'.e y.p.log.es.length a'.ce, .slice a'.o y.p.cf.old.length a'.co, .slice a'.n y.p.cf.new.length a'.cn, .slice a'.l y.p.cf.lrn.length a'.cl, .slice a'.s y.p.sn.length a'.cs] _ _ H6.out.2.1
  have tT := row_turned w6 (w.heap.size + 1 + 1) #[.int .i64 y.g, .int .i64 y.t, .int .i64 y.v, .int .i64 y.p.log.base, .int .i64 y.p.log.term, .slice a'.e y.p.log.es.length a'.ce, .slice a'.o y.p.cf.old.length a'.co, .slice a'.n y.p.cf.new.length a'.cn, .slice a'.l y.p.cf.lrn.length a'.cl, .slice a'.s y.p.sn.length a'.cs]
  obtain ⟨wC, hwC⟩ : ∃ wC, wC = w6.setRow (w.heap.size + 1 + 1) #[.int .i64 y.g, .int .i64 y.t, .int .i64 y.v, .int .i64 y.p.log.base, .int .i64 y.p.log.term, .slice a'.e y.p.log.es.length a'.ce, .slice a'.o y.p.cf.old.length a'.co, .slice a'.n y.p.cf.new.length a'.cn, .slice a'.l y.p.cf.lrn.length a'.cl, .slice a'.s y.p.sn.length a'.cs] := ⟨_, rfl⟩
  rw [← hwC] at hst r5 tT
  have HC : Hid (wC.heap[w.heap.size + 1 + 1]? = some (.cells #[.int .i64 y.g, .int .i64 y.t, .int .i64 y.v, .int .i64 y.p.log.base, .int .i64 y.p.log.term, .slice a'.e y.p.log.es.length a'.ce, .slice a'.o y.p.cf.old.length a'.co, .slice a'.n y.p.cf.new.length a'.cn, .slice a'.l y.p.cf.lrn.length a'.cl, .slice a'.s y.p.sn.length a'.cs] 75 (0, 0)) ∧ PtIn wC w.heap.size wC.heap.size y.p a' ∧ Below w.heap.size w wC) := hid (by
    obtain ⟨_, _, q1, q2⟩ := H6.out
    have hz := tT.size
    exact ⟨r5, (q1.keep tT (fun k hk hB => by have := hB.1; omega)).wide (by omega) hz, q2.trans (tT.below q2.size (fun k hk => by omega))⟩)
  rw [hw6, hw5] at hld hst
  rw [hw5] at k3 z2 c2
  clear r5 tT hwC hw5 hw6 T4 hy ha'
  go_wp2_with fail
  refine bodyPost_ret (results_two rfl info_hard Tryz.underlying75 rfl _ _ (w.heap.size + 1 + 1) _ _ _ rfl HC.out.1 rfl) rfl ?_
  exact ⟨y, a', true, rfl, by rw [HY.out.1]; rfl, by rw [HY.out.1]; rfl, HC.out.2.1, HY.out.2, HC.out.2.2⟩
set_option maxHeartbeats 6400000 in
theorem rTurn3_any (x : Hd) (ad : Ad) (c : Ch) (ac : Ad) (hk : c.k = 3) (hok : Rl.Ok x.p.log) (hf : (FewK x.p ∧ Rl.Few x.p.log.es) ∧ x.p.sn.length ≤ 140737488355328) (hfc : (FewK c.p ∧ Rl.Few c.p.log.es) ∧ c.p.sn.length ≤ 140737488355328) (hsz : x.p.log.es.length ≤ 40000 ∧ c.p.log.es.length ≤ 40000) (w : World) (hx : IsPt w w.heap.size x.p ad) (hc : IsPt w w.heap.size c.p ac) (hnx : InInt x.g ∧ InInt x.t ∧ InInt x.v) (hnc : (InInt c.k ∧ InInt c.g ∧ InInt c.t ∧ InInt c.v ∧ InInt c.f) ∧ okV c.a) :
    Calls Tryz.prog 97 #[.agg #[.int .i64 x.g, .int .i64 x.t, .int .i64 x.v, .int .i64 x.p.log.base, .int .i64 x.p.log.term, .slice ad.e x.p.log.es.length ad.ce, .slice ad.o x.p.cf.old.length ad.co, .slice ad.n x.p.cf.new.length ad.cn, .slice ad.l x.p.cf.lrn.length ad.cl, .slice ad.s x.p.sn.length ad.cs], .agg #[.int .i64 c.k, .int .i64 c.g, .int .i64 c.t, .int .i64 c.v, .int .i64 c.f, .int .i64 c.p.log.base, .int .i64 c.p.log.term, .slice ac.e c.p.log.es.length ac.ce, .slice ac.o c.p.cf.old.length ac.co, .slice ac.n c.p.cf.new.length ac.cn, .slice ac.l c.p.cf.lrn.length ac.cl, .slice ac.s c.p.sn.length ac.cs, .int .i64 c.a.x, .int .i64 c.a.p, .int .i64 c.a.r, .int .i64 c.a.b, .int .i64 c.a.v]] w (TurnPost x c w) := by
  obtain ⟨wA, hwA⟩ : ∃ wA, wA = (((w.alloc (.cells #[.int .i64 x.g, .int .i64 x.t, .int .i64 x.v, .int .i64 x.p.log.base, .int .i64 x.p.log.term, .slice ad.e x.p.log.es.length ad.ce, .slice ad.o x.p.cf.old.length ad.co, .slice ad.n x.p.cf.new.length ad.cn, .slice ad.l x.p.cf.lrn.length ad.cl, .slice ad.s x.p.sn.length ad.cs] 75)).alloc (.cells #[.int .i64 c.k, .int .i64 c.g, .int .i64 c.t, .int .i64 c.v, .int .i64 c.f, .int .i64 c.p.log.base, .int .i64 c.p.log.term, .slice ac.e c.p.log.es.length ac.ce, .slice ac.o c.p.cf.old.length ac.co, .slice ac.n c.p.cf.new.length ac.cn, .slice ac.l c.p.cf.lrn.length ac.cl, .slice ac.s c.p.sn.length ac.cs, .int .i64 c.a.x, .int .i64 c.a.p, .int .i64 c.a.r, .int .i64 c.a.b, .int .i64 c.a.v] 62)).alloc (.cells #[.int .i64 0, .int .i64 0, .int .i64 0, .int .i64 0, .int .i64 0, .slice none 0 0, .slice none 0 0, .slice none 0 0, .slice none 0 0, .slice none 0 0] 75)) := ⟨_, rfl⟩
  have hg := cg_start w x ad c ac
  rw [← hwA] at hg
  have hzA : wA.heap.size = w.heap.size + 3 := by rw [hwA]; simp
  have ldA := ldRow info_hard Tryz.underlying75 rfl hg.r2 rfl
  have HCH := hid (copyH_any x ad hf.1 hf.2 wA (hx.low hg.bel))
  have HCC := hid (fun W (h : IsPt W W.heap.size c.p ac) => copyC_any c ac hfc.1 hfc.2 W h)
  have HG := hid (And.intro hg (And.intro hzA hc))
  have HX := hid (And.intro hnx (And.intro hnc (And.intro hok (And.intro hsz (And.intro hf.1.2 hfc.1.2)))))
  have HK := hid hk
  rw [hwA] at ldA
  clear hg hzA hx hc hf hfc hnx hnc hok hsz hk
  go_enter Tryz.func97, Tryz.ntmps97
  go_wp2_with fail
  rw [← hwA]
  clear hwA ldA
  refine HCH.out.mono ?_
  rintro e w1 ⟨a1, rfl, ho1, hb1⟩
  have r01 := (hb1.block _ (row_lt HG.out.1.r2)).trans HG.out.1.r2
  have st1 := stRow info_hard (cs' := #[.int .i64 x.g, .int .i64 x.t, .int .i64 x.v, .int .i64 x.p.log.base, .int .i64 x.p.log.term, .slice a1.e x.p.log.es.length a1.ce, .slice a1.o x.p.cf.old.length a1.co, .slice a1.n x.p.cf.new.length a1.cn, .slice a1.l x.p.cf.lrn.length a1.cl, .slice a1.s x.p.sn.length a1.cs]) r01 rfl rfl (by simp [Value.oneCell'])
  have ro1 := setRow_heap w1 w.heap.size _ #[.int .i64 x.g, .int .i64 x.t, .int .i64 x.v, .int .i64 x.p.log.base, .int .i64 x.p.log.term, .slice a1.e x.p.log.es.length a1.ce, .slice a1.o x.p.cf.old.length a1.co, .slice a1.n x.p.cf.new.length a1.cn, .slice a1.l x.p.cf.lrn.length a1.cl, .slice a1.s x.p.sn.length a1.cs] _ _ r01
  have tu1 := row_turned w1 w.heap.size #[.int .i64 x.g, .int .i64 x.t, .int .i64 x.v, .int .i64 x.p.log.base, .int .i64 x.p.log.term, .slice a1.e x.p.log.es.length a1.ce, .slice a1.o x.p.cf.old.length a1.co, .slice a1.n x.p.cf.new.length a1.cn, .slice a1.l x.p.cf.lrn.length a1.cl, .slice a1.s x.p.sn.length a1.cs]
  obtain ⟨w2, hw2⟩ : ∃ w2, w2 = w1.setRow w.heap.size #[.int .i64 x.g, .int .i64 x.t, .int .i64 x.v, .int .i64 x.p.log.base, .int .i64 x.p.log.term, .slice a1.e x.p.log.es.length a1.ce, .slice a1.o x.p.cf.old.length a1.co, .slice a1.n x.p.cf.new.length a1.cn, .slice a1.l x.p.cf.lrn.length a1.cl, .slice a1.s x.p.sn.length a1.cs] := ⟨_, rfl⟩
  rw [← hw2] at st1 ro1 tu1
  have H2 : Hid (w2.heap[w.heap.size]? = some (.cells #[.int .i64 x.g, .int .i64 x.t, .int .i64 x.v, .int .i64 x.p.log.base, .int .i64 x.p.log.term, .slice a1.e x.p.log.es.length a1.ce, .slice a1.o x.p.cf.old.length a1.co, .slice a1.n x.p.cf.new.length a1.cn, .slice a1.l x.p.cf.lrn.length a1.cl, .slice a1.s x.p.sn.length a1.cs] 75 (0, 0)) ∧ w2.heap[w.heap.size + 1]? = some (.cells #[.int .i64 c.k, .int .i64 c.g, .int .i64 c.t, .int .i64 c.v, .int .i64 c.f, .int .i64 c.p.log.base, .int .i64 c.p.log.term, .slice ac.e c.p.log.es.length ac.ce, .slice ac.o c.p.cf.old.length ac.co, .slice ac.n c.p.cf.new.length ac.cn, .slice ac.l c.p.cf.lrn.length ac.cl, .slice ac.s c.p.sn.length ac.cs, .int .i64 c.a.x, .int .i64 c.a.p, .int .i64 c.a.r, .int .i64 c.a.b, .int .i64 c.a.v] 62 (0, 0)) ∧ w2.heap[w.heap.size + 1 + 1]? = some (.cells #[.int .i64 0, .int .i64 0, .int .i64 0, .int .i64 0, .int .i64 0, .slice none 0 0, .slice none 0 0, .slice none 0 0, .slice none 0 0, .slice none 0 0] 75 (0, 0)) ∧ PtIn w2 (w.heap.size + 3) w2.heap.size x.p a1 ∧ Below w.heap.size w w2 ∧ IsPt w2 w2.heap.size c.p ac ∧ w.heap.size + 3 ≤ w2.heap.size) := hid (by
    obtain ⟨hg, hzA, hc⟩ := HG.out
    have hz1 := hb1.size
    have hz2 := tu1.size
    have hbw : Below w.heap.size w w2 := hg.bel.trans ((hb1.mono hg.bel.size).trans (tu1.below (by omega) (fun k hk => by omega)))
    refine ⟨ro1, (tu1.block _ (by omega) (by omega)).trans ((hb1.block _ (by omega)).trans hg.r3), (tu1.block _ (by omega) (by omega)).trans ((hb1.block _ (by omega)).trans hg.r4), ?_, hbw, hc.low hbw, by omega⟩
    rw [← hzA]
    exact (ho1.ptIn.keep tu1 (fun k hk hB => by have := hB.1; omega)).wide (Nat.le_refl _) hz2)
  have ld2 := ldRow info_change Tryz.underlying62 rfl H2.out.2.1 rfl
  have HC2 := hid (HCC.out w2 H2.out.2.2.2.2.2.1)
  clear ho1 hb1 r01 ro1 tu1 hw2 HCH HCC HG
  go_wp2_with fail
  refine HC2.out.mono ?_
  rintro e w3 ⟨a2, rfl, ho3, hb3⟩
  have r13 := (hb3.block _ (row_lt H2.out.2.1)).trans H2.out.2.1
  have st3 := stRow info_change (cs' := #[.int .i64 c.k, .int .i64 c.g, .int .i64 c.t, .int .i64 c.v, .int .i64 c.f, .int .i64 c.p.log.base, .int .i64 c.p.log.term, .slice a2.e c.p.log.es.length a2.ce, .slice a2.o c.p.cf.old.length a2.co, .slice a2.n c.p.cf.new.length a2.cn, .slice a2.l c.p.cf.lrn.length a2.cl, .slice a2.s c.p.sn.length a2.cs, .int .i64 c.a.x, .int .i64 c.a.p, .int .i64 c.a.r, .int .i64 c.a.b, .int .i64 c.a.v]) r13 rfl rfl (by simp [Value.oneCell'])
  have ro3 := setRow_heap w3 (w.heap.size + 1) _ #[.int .i64 c.k, .int .i64 c.g, .int .i64 c.t, .int .i64 c.v, .int .i64 c.f, .int .i64 c.p.log.base, .int .i64 c.p.log.term, .slice a2.e c.p.log.es.length a2.ce, .slice a2.o c.p.cf.old.length a2.co, .slice a2.n c.p.cf.new.length a2.cn, .slice a2.l c.p.cf.lrn.length a2.cl, .slice a2.s c.p.sn.length a2.cs, .int .i64 c.a.x, .int .i64 c.a.p, .int .i64 c.a.r, .int .i64 c.a.b, .int .i64 c.a.v] _ _ r13
  have tu3 := row_turned w3 (w.heap.size + 1) #[.int .i64 c.k, .int .i64 c.g, .int .i64 c.t, .int .i64 c.v, .int .i64 c.f, .int .i64 c.p.log.base, .int .i64 c.p.log.term, .slice a2.e c.p.log.es.length a2.ce, .slice a2.o c.p.cf.old.length a2.co, .slice a2.n c.p.cf.new.length a2.cn, .slice a2.l c.p.cf.lrn.length a2.cl, .slice a2.s c.p.sn.length a2.cs, .int .i64 c.a.x, .int .i64 c.a.p, .int .i64 c.a.r, .int .i64 c.a.b, .int .i64 c.a.v]
  obtain ⟨w4, hw4⟩ : ∃ w4, w4 = w3.setRow (w.heap.size + 1) #[.int .i64 c.k, .int .i64 c.g, .int .i64 c.t, .int .i64 c.v, .int .i64 c.f, .int .i64 c.p.log.base, .int .i64 c.p.log.term, .slice a2.e c.p.log.es.length a2.ce, .slice a2.o c.p.cf.old.length a2.co, .slice a2.n c.p.cf.new.length a2.cn, .slice a2.l c.p.cf.lrn.length a2.cl, .slice a2.s c.p.sn.length a2.cs, .int .i64 c.a.x, .int .i64 c.a.p, .int .i64 c.a.r, .int .i64 c.a.b, .int .i64 c.a.v] := ⟨_, rfl⟩
  rw [← hw4] at st3 ro3 tu3
  have T4 : Hid (Tz w w4 x c a1 a2 w2.heap.size) := hid (by
    obtain ⟨q0, q1, q2, q3, q4, q5, q6⟩ := H2.out
    have hz3 := hb3.size
    have hz4 := tu3.size
    exact ⟨q4.trans ((hb3.mono q4.size).trans (tu3.below (by omega) (fun k hk => by omega))), (tu3.block _ (by omega) (by omega)).trans ((hb3.block _ (by omega)).trans q0), ro3, (tu3.block _ (by omega) (by omega)).trans ((hb3.block _ (by omega)).trans q2), (q3.below hb3).keep tu3 (fun k hk hB => by have := hB.1; omega), (ho3.ptIn.keep tu3 (fun k hk hB => by have := hB.1; omega)).wide (Nat.le_refl _) hz4, ⟨q6, by omega⟩⟩)
  obtain ⟨m, hm⟩ : ∃ m, m = w2.heap.size := ⟨_, rfl⟩
  rw [← hm] at T4
  have k0 : w4.cell? ⟨w.heap.size + 1, 0, none⟩ = some (.int .i64 c.k) := row_cell T4.out.r1 0
  rw [HK.out] at k0
  clear ho3 hb3 r13 ro3 tu3 hw4 HC2 H2 ld2 hm st1
  have k1 : w4.cell? ⟨w.heap.size + 1, 5, none⟩ = some (.int .i64 c.p.log.base) := row_cell T4.out.r1 5
  have k2 : w4.cell? ⟨w.heap.size + 1, 6, none⟩ = some (.int .i64 c.p.log.term) := row_cell T4.out.r1 6
  have lg4 : (ldX 58 (.pointer (some ⟨w.heap.size, 3, none⟩))).run Tryz.prog w4 = .ok (.agg #[.int .i64 x.p.log.base, .int .i64 x.p.log.term, .slice a1.e x.p.log.es.length a1.ce]) w4 := ldLogX T4.out.r0
  obtain ⟨g, hg⟩ : ∃ g, g = sinceM x.p.log c.p.log.base c.p.log.term := ⟨_, rfl⟩
  have HS := hid (rSnapped_any x.p.log a1.e a1.ce c.p.log.base c.p.log.term x.p.log.es.length rfl HX.out.2.2.1 HX.out.2.2.2.2.1 T4.out.p2.reads.num w4 (by
    have h := T4.out.p1.reads
    exact ⟨h.es.more T4.out.lt.2, h.re.1, h.re.2, h.num⟩))
  rw [← hg] at HS
  have HGG : Hid (InInt g.base ∧ InInt g.term) := hid (by
    have h1 := T4.out.p1.reads.num
    have h2 := T4.out.p2.reads.num
    rw [hg, (sinceM_bt _ _ _).1, (sinceM_bt _ _ _).2]
    exact h2)
  have HYG := hid hg
  clear hg
  go_wp2_with fail
  refine HS.out.mono ?_
  rintro e w5 ⟨A5, c5, n5, rfl, hn5, ho5, hb5⟩
  have T5 := hid (T4.out.below hb5)
  have HN5 := hid hn5
  have st5 := stAt info_log33 (conf_there T5.out.r0 3 3 (by simp)) #[.int .i64 g.base, .int .i64 g.term, .slice A5 n5 c5] rfl (by simp [Value.oneCell'])
  obtain ⟨w6, hw6⟩ : ∃ u, u = w5.setCells w.heap.size 3 [.int .i64 g.base, .int .i64 g.term, .slice A5 n5 c5] := ⟨_, rfl⟩
  have t6 : Turned (fun k => k = w.heap.size) w5 w6 := by rw [hw6]; exact turned_setCells _ _ _ _
  have r06 := row_set (row_set (row_set T5.out.r0 3 (.int .i64 g.base)) 4 (.int .i64 g.term)) 5 (.slice A5 n5 c5)
  have e06 : w6 = ((w5.setCell ⟨w.heap.size, 3, none⟩ (.int .i64 g.base)).setCell ⟨w.heap.size, 4, none⟩ (.int .i64 g.term)).setCell ⟨w.heap.size, 5, none⟩ (.slice A5 n5 c5) := hw6
  rw [← e06] at r06
  have r16 := (t6.block _ (row_lt T5.out.r1) (by omega)).trans T5.out.r1
  have ld6 : (ldX 28 (.pointer (some ⟨w.heap.size + 1, 8, none⟩))).run Tryz.prog w6 = .ok (.agg #[.slice a2.o c.p.cf.old.length a2.co, .slice a2.n c.p.cf.new.length a2.cn, .slice a2.l c.p.cf.lrn.length a2.cl]) w6 := ldConfC r16
  have st6 := stAt info_conf33 (conf_there r06 6 3 (by simp)) #[.slice a2.o c.p.cf.old.length a2.co, .slice a2.n c.p.cf.new.length a2.cn, .slice a2.l c.p.cf.lrn.length a2.cl] rfl (by simp [Value.oneCell'])
  obtain ⟨w7, hw7⟩ : ∃ u, u = w6.setCells w.heap.size 6 [.slice a2.o c.p.cf.old.length a2.co, .slice a2.n c.p.cf.new.length a2.cn, .slice a2.l c.p.cf.lrn.length a2.cl] := ⟨_, rfl⟩
  have t7 : Turned (fun k => k = w.heap.size) w6 w7 := by rw [hw7]; exact turned_setCells _ _ _ _
  have r07 := row_set (row_set (row_set r06 6 (.slice a2.o c.p.cf.old.length a2.co)) 7 (.slice a2.n c.p.cf.new.length a2.cn)) 8 (.slice a2.l c.p.cf.lrn.length a2.cl)
  have e07 : w7 = ((w6.setCell ⟨w.heap.size, 6, none⟩ (.slice a2.o c.p.cf.old.length a2.co)).setCell ⟨w.heap.size, 7, none⟩ (.slice a2.n c.p.cf.new.length a2.cn)).setCell ⟨w.heap.size, 8, none⟩ (.slice a2.l c.p.cf.lrn.length a2.cl) := hw7
  rw [← e07] at r07
  have r17 := (t7.block _ (row_lt r16) (by omega)).trans r16
  have k7 : w7.cell? ⟨w.heap.size + 1, 11, none⟩ = some (.slice a2.s c.p.sn.length a2.cs) := row_cell r17 11
  have z7 := row_free r07 9
  have c7 := row_cell r07 9
  obtain ⟨w8, hw8⟩ : ∃ u, u = w7.setCell ⟨w.heap.size, 9, none⟩ (.slice a2.s c.p.sn.length a2.cs) := ⟨_, rfl⟩
  have t8 : Turned (fun k => k = w.heap.size) w7 w8 := by rw [hw8]; exact Turned.one _ _ _ _
  have r08 := row_set r07 9 (.slice a2.s c.p.sn.length a2.cs)
  rw [← hw8] at r08
  obtain ⟨y, hy⟩ : ∃ y : Hd, y = { x with p := ⟨g, c.p.cf, c.p.sn⟩ } := ⟨_, rfl⟩
  obtain ⟨a', ha'⟩ : ∃ a' : Ad, a' = { a2 with e := A5, ce := c5 } := ⟨_, rfl⟩
  have HY : Hid (chgd x c = some y ∧ (InInt y.g ∧ InInt y.t ∧ InInt y.v)) := hid (by rw [hy, HYG.out]; exact ⟨by unfold chgd; rw [if_neg (by rw [HK.out]; decide), if_neg (by rw [HK.out]; decide)], HX.out.1⟩)
  have H8 : Hid (w8.heap[w.heap.size]? = some (.cells #[.int .i64 y.g, .int .i64 y.t, .int .i64 y.v, .int .i64 y.p.log.base, .int .i64 y.p.log.term, .slice a'.e y.p.log.es.length a'.ce, .slice a'.o y.p.cf.old.length a'.co, .slice a'.n y.p.cf.new.length a'.cn, .slice a'.l y.p.cf.lrn.length a'.cl, .slice a'.s y.p.sn.length a'.cs] 75 (0, 0)) ∧ w8.heap[w.heap.size + 1 + 1]? = some (.cells #[.int .i64 0, .int .i64 0, .int .i64 0, .int .i64 0, .int .i64 0, .slice none 0 0, .slice none 0 0, .slice none 0 0, .slice none 0 0, .slice none 0 0] 75 (0, 0)) ∧ PtIn w8 (w.heap.size + 3) w8.heap.size y.p a' ∧ Below w.heap.size w w8) := hid (by
    have t58 := t6.trans (t7.trans t8)
    have hz := t58.size
    have hz5 := hb5.size
    have hlt := T4.out.lt
    have hlt5 := T5.out.lt
    rw [hy, ha']
    refine ⟨by rw [r08, HN5.out]; rfl, (t58.block _ (row_lt T5.out.r2) (by omega)).trans T5.out.r2, ?_, T5.out.bel.trans (t58.below T5.out.bel.size (fun k hk => by omega))⟩
    obtain ⟨_, q2, q3, q4, q5, _⟩ := (T5.out.p2.keep t58 (fun k hk hB => by have := hB.1; omega)).wide (show w.heap.size + 3 ≤ m by omega) (show w5.heap.size ≤ w8.heap.size by omega)
    exact ⟨(ho5.keep t58 (fun k hk hB => by have := hB.1; omega)).wide (by omega) (by omega), q2, q3, q4, q5, HGG.out⟩)
  clear t6 t7 t8 r06 r07 r08 r16 r17 e06 e07 ho5 hb5 hn5
  have hld := ldRow info_hard Tryz.underlying75 rfl H8.out.1 rfl
  have hst := stRow info_hard (cs' := #[.int .i64 y.g, .int .i64 y.t, .int .i64 y.v, .int .i64 y.p.log.base, .int .i64 y.p.log.term, .slice a'.e y.p.log.es.length a'.ce, .slice a'.o y.p.cf.old.length a'.co, .slice a'.n y.p.cf.new.length a'.cn, .slice a'.l y.p.cf.lrn.length a'.cl, .slice a'.s y.p.sn.length a'.cs]) H8.out.2.1 rfl rfl (by simp [Value.oneCell'])
  have r5 := setRow_heap w8 (w.heap.size + 1 + 1) _ #[.int .i64 y.g, .int .i64 y.t, .int .i64 y.v, .int .i64 y.p.log.base, .int .i64 y.p.log.term, .slice a'.e y.p.log.es.length a'.ce, .slice a'.o y.p.cf.old.length a'.co, .slice a'.n y.p.cf.new.length a'.cn, .slice a'.l y.p.cf.lrn.length a'.cl, .slice a'.s y.p.sn.length a'.cs] _ _ H8.out.2.1
  have tT := row_turned w8 (w.heap.size + 1 + 1) #[.int .i64 y.g, .int .i64 y.t, .int .i64 y.v, .int .i64 y.p.log.base, .int .i64 y.p.log.term, .slice a'.e y.p.log.es.length a'.ce, .slice a'.o y.p.cf.old.length a'.co, .slice a'.n y.p.cf.new.length a'.cn, .slice a'.l y.p.cf.lrn.length a'.cl, .slice a'.s y.p.sn.length a'.cs]
  obtain ⟨wC, hwC⟩ : ∃ wC, wC = w8.setRow (w.heap.size + 1 + 1) #[.int .i64 y.g, .int .i64 y.t, .int .i64 y.v, .int .i64 y.p.log.base, .int .i64 y.p.log.term, .slice a'.e y.p.log.es.length a'.ce, .slice a'.o y.p.cf.old.length a'.co, .slice a'.n y.p.cf.new.length a'.cn, .slice a'.l y.p.cf.lrn.length a'.cl, .slice a'.s y.p.sn.length a'.cs] := ⟨_, rfl⟩
  rw [← hwC] at hst r5 tT
  have HC : Hid (wC.heap[w.heap.size + 1 + 1]? = some (.cells #[.int .i64 y.g, .int .i64 y.t, .int .i64 y.v, .int .i64 y.p.log.base, .int .i64 y.p.log.term, .slice a'.e y.p.log.es.length a'.ce, .slice a'.o y.p.cf.old.length a'.co, .slice a'.n y.p.cf.new.length a'.cn, .slice a'.l y.p.cf.lrn.length a'.cl, .slice a'.s y.p.sn.length a'.cs] 75 (0, 0)) ∧ PtIn wC w.heap.size wC.heap.size y.p a' ∧ Below w.heap.size w wC) := hid (by
    obtain ⟨_, _, q1, q2⟩ := H8.out
    have hz := tT.size
    exact ⟨r5, (q1.keep tT (fun k hk hB => by have := hB.1; omega)).wide (by omega) hz, q2.trans (tT.below q2.size (fun k hk => by omega))⟩)
  rw [hw8, hw7, hw6] at hld hst
  rw [hw7, hw6] at k7 z7 c7
  rw [hw6] at ld6 st6
  clear r5 tT hwC hw6 hw7 hw8 T4 T5 hy ha' HYG lg4 k1 k2
  go_wp2_with fail
  refine bodyPost_ret (results_two rfl info_hard Tryz.underlying75 rfl _ _ (w.heap.size + 1 + 1) _ _ _ rfl HC.out.1 rfl) rfl ?_
  exact ⟨y, a', true, rfl, by rw [HY.out.1]; rfl, by rw [HY.out.1]; rfl, HC.out.2.1, HY.out.2, HC.out.2.2⟩
end Go.Proofs.YtaeoccpjdjafnaaGreat.Im
namespace Go.Proofs.YtaeoccpjdjafnaaGreat.Im
open Go Go.RowKit
open Rl (En Lg)
open Qu (Cf)
set_option maxRecDepth 100000
set_option linter.unusedVariables false
local instance lo31 : Lo := ⟨0⟩
attribute [local go_sem ↓] loadAt_hard storeAt_hard loadAt_change storeAt_change loadAt_log1 storeAt_log1 loadAt_conf3 storeAt_conf3
theorem entsAt_row {w : World} {B N : Nat} {A : Option Addr} {c : Nat} {M : List El} (h : EntsAt w B N A c M) : IsRow cellsE 3 w N A M := ⟨fun k hk => by
  obtain ⟨g, hA, hg, hF, _⟩ := h.row.get k hk
  refine ⟨g, 0, hA, hF.2, fun i hi j v hv => ?_⟩
  obtain ⟨g', hA', _, _, hc', _⟩ := h.row.get i hi
  obtain rfl : g = g' := by rw [hA] at hA'; injection hA' with e; injection e
  have hj : j < 3 := (List.getElem?_eq_some_iff.1 hv).1
  rw [Nat.zero_add, hc' j hj]; exact hv⟩
theorem entsAt_wide {w w' : World} {B N : Nat} {A : Option Addr} {c : Nat} {M : List El} (h : EntsAt w B N A c M) (hb : Below N w w') : EntsAt w' B N A c M := h.below hb
theorem ents_join {w6 w7 : World} {B m N6 N7 : Nat} {A1 A2 A7 : Option Addr} {c1 c2 c7 : Nat} {M1 M2 : List El} (h1 : EntsAt w6 m N6 A1 c1 M1) (h2 : EntsAt w6 B m A2 c2 M2) (hB : B ≤ m) (hm : m ≤ N6) (hN : N6 ≤ w6.heap.size) (hrow : RowIn cellsE 3 73 w7 (fun k => Bl m N6 k ∨ w6.heap.size ≤ k) A7 c7 (M1 ++ M2)) (hg : w6.grownBy w7 (blk A1)) (hN7 : N7 = w7.heap.size) : EntsAt w7 B N7 A7 c7 (M1 ++ M2) := by
  have hz := hg.size
  have hA1 : ∀ k, blk A1 = some k → ∃ cur, w6.heap[k]? = some (.cells cur 73 (0, 0)) := fun k hk => h1.row.tag hk
  have ht : Turned (fun k => blk A1 = some k) w6 w7 := Turned.ofGrown hg (fun k e => e)
  have hne : ∀ (q : El) (base : Nat), OwnsB 5 w6 base q.A q.c q.e.d → ∀ k, blk q.A = some k → ¬ blk A1 = some k := fun q base ho k hk e => by
    obtain ⟨cur, hc⟩ := hA1 k e
    exact ho.ne hc (by decide) hk
  refine ⟨hrow.mono (fun k hk => ⟨?_, by rw [hN7]; exact hrow.lt k hk⟩), fun q hq => ?_, ?_, fun q hq => ?_⟩
  · rcases hrow.blk k hk with e | e
    · have := e.1; omega
    · omega
  · rcases List.mem_append.1 hq with hq | hq
    · obtain ⟨o1, o2⟩ := h1.own q hq
      exact ⟨o1.turned ht (hne q 0 o1), fun k hk => ⟨by have := (o2 k hk).1; omega, by have := (o2 k hk).2; omega⟩⟩
    · obtain ⟨o1, o2⟩ := h2.own q hq
      exact ⟨o1.turned ht (hne q 0 o1), fun k hk => ⟨(o2 k hk).1, by have := (o2 k hk).2; omega⟩⟩
  · unfold Apart
    rw [List.map_append, List.pairwise_append]
    refine ⟨h1.apart, h2.apart, fun a ha b hb k hk hk2 => ?_⟩
    obtain ⟨q1, hq1, rfl⟩ := List.mem_map.1 ha
    obtain ⟨q2, hq2, rfl⟩ := List.mem_map.1 hb
    have e1 := ((h1.own q1 hq1).2 k hk).1
    have e2 := ((h2.own q2 hq2).2 k hk2).2
    omega
  · rcases List.mem_append.1 hq with hq | hq
    · exact h1.num q hq
    · exact h2.num q hq
theorem appended {w w5 w6 w7 : World} {x : Hd} {c : Ch} {a1 a2 : Ad} {m N6 c6 : Nat} {A6 : Option Addr} {M1 : List El} (T5 : Tz w w5 x c a1 a2 m) (he : EntsAt w6 w5.heap.size N6 A6 c6 M1) (hb : Below w5.heap.size w5 w6) (hg : w6.grownBy w7 (blk A6)) :
    w7.heap[w.heap.size]? = some (.cells #[.int .i64 x.g, .int .i64 x.t, .int .i64 x.v, .int .i64 x.p.log.base, .int .i64 x.p.log.term, .slice a1.e x.p.log.es.length a1.ce, .slice a1.o x.p.cf.old.length a1.co, .slice a1.n x.p.cf.new.length a1.cn, .slice a1.l x.p.cf.lrn.length a1.cl, .slice a1.s x.p.sn.length a1.cs] 75 (0, 0)) ∧ w7.heap[w.heap.size + 1]? = some (.cells #[.int .i64 c.k, .int .i64 c.g, .int .i64 c.t, .int .i64 c.v, .int .i64 c.f, .int .i64 c.p.log.base, .int .i64 c.p.log.term, .slice a2.e c.p.log.es.length a2.ce, .slice a2.o c.p.cf.old.length a2.co, .slice a2.n c.p.cf.new.length a2.cn, .slice a2.l c.p.cf.lrn.length a2.cl, .slice a2.s c.p.sn.length a2.cs, .int .i64 c.a.x, .int .i64 c.a.p, .int .i64 c.a.r, .int .i64 c.a.b, .int .i64 c.a.v] 62 (0, 0)) ∧ ∀ j, j < w5.heap.size → blk A6 ≠ some j := by
  have hne : ∀ j, j < w5.heap.size → blk A6 ≠ some j := fun j hj e => by
    have h1 : w5.heap.size ≤ j := (he.row.blk j e).1
    omega
  have hz := hb.size
  have T6 := T5.below hb
  have l0 := row_lt T5.r0
  have l1 := row_lt T5.r1
  exact ⟨(hg.block _ (by omega) (hne _ l0).symm).trans T6.r0, (hg.block _ (by omega) (hne _ l1).symm).trans T6.r1, hne⟩
theorem appended7 {w w7 : World} {x : Hd} {c : Ch} {a1 a2 : Ad} {lc : Nat} (r0 : w7.heap[w.heap.size]? = some (.cells #[.int .i64 x.g, .int .i64 x.t, .int .i64 x.v, .int .i64 x.p.log.base, .int .i64 x.p.log.term, .slice a1.e x.p.log.es.length a1.ce, .slice a1.o x.p.cf.old.length a1.co, .slice a1.n x.p.cf.new.length a1.cn, .slice a1.l x.p.cf.lrn.length a1.cl, .slice a1.s x.p.sn.length a1.cs] 75 (0, 0))) (r1 : w7.heap[w.heap.size + 1]? = some (.cells #[.int .i64 c.k, .int .i64 c.g, .int .i64 c.t, .int .i64 c.v, .int .i64 c.f, .int .i64 c.p.log.base, .int .i64 c.p.log.term, .slice a2.e c.p.log.es.length a2.ce, .slice a2.o c.p.cf.old.length a2.co, .slice a2.n c.p.cf.new.length a2.cn, .slice a2.l c.p.cf.lrn.length a2.cl, .slice a2.s c.p.sn.length a2.cs, .int .i64 c.a.x, .int .i64 c.a.p, .int .i64 c.a.r, .int .i64 c.a.b, .int .i64 c.a.v] 62 (0, 0))) (hlc : lc = c.p.log.es.length) :
    w7.cell? ⟨w.heap.size, 3, none⟩ = some (.int .i64 x.p.log.base) ∧ w7.cell? ⟨w.heap.size + 1, 4, none⟩ = some (.int .i64 c.f) ∧ w7.cell? ⟨w.heap.size + 1, 7, none⟩ = some (.slice a2.e lc a2.ce) := by
  rw [hlc]
  exact ⟨row_cell r0 3, row_cell r1 4, row_cell r1 7⟩
theorem appended8 {w w7 : World} {x : Hd} {c : Ch} {a1 a2 : Ad} {lc : Nat} (r0 : w7.heap[w.heap.size]? = some (.cells #[.int .i64 x.g, .int .i64 x.t, .int .i64 x.v, .int .i64 x.p.log.base, .int .i64 x.p.log.term, .slice a1.e x.p.log.es.length a1.ce, .slice a1.o x.p.cf.old.length a1.co, .slice a1.n x.p.cf.new.length a1.cn, .slice a1.l x.p.cf.lrn.length a1.cl, .slice a1.s x.p.sn.length a1.cs] 75 (0, 0))) (r1 : w7.heap[w.heap.size + 1]? = some (.cells #[.int .i64 c.k, .int .i64 c.g, .int .i64 c.t, .int .i64 c.v, .int .i64 c.f, .int .i64 c.p.log.base, .int .i64 c.p.log.term, .slice a2.e c.p.log.es.length a2.ce, .slice a2.o c.p.cf.old.length a2.co, .slice a2.n c.p.cf.new.length a2.cn, .slice a2.l c.p.cf.lrn.length a2.cl, .slice a2.s c.p.sn.length a2.cs, .int .i64 c.a.x, .int .i64 c.a.p, .int .i64 c.a.r, .int .i64 c.a.b, .int .i64 c.a.v] 62 (0, 0))) (hlc : lc = c.p.log.es.length) (v : Value) :
    (w7.setCell ⟨w.heap.size, 5, none⟩ v).cell? ⟨w.heap.size, 3, none⟩ = some (.int .i64 x.p.log.base) ∧ (w7.setCell ⟨w.heap.size, 5, none⟩ v).cell? ⟨w.heap.size + 1, 4, none⟩ = some (.int .i64 c.f) ∧ (w7.setCell ⟨w.heap.size, 5, none⟩ v).cell? ⟨w.heap.size + 1, 7, none⟩ = some (.slice a2.e lc a2.ce) := by
  have r17 := ((Turned.one w7 w.heap.size 5 v).block _ (row_lt r1) (by omega)).trans r1
  rw [hlc]
  exact ⟨row_cell (row_set r0 5 v) 3, row_cell r17 4, row_cell r17 7⟩
def opL7 : Op := Op.load 56 (.tmp 61)
set_option maxHeartbeats 6400000 in
theorem rTurn2_any (x : Hd) (ad : Ad) (c : Ch) (ac : Ad) (hk : c.k = 2) (hok : Rl.Ok x.p.log) (hf : (FewK x.p ∧ Rl.Few x.p.log.es) ∧ x.p.sn.length ≤ 140737488355328) (hfc : (FewK c.p ∧ Rl.Few c.p.log.es) ∧ c.p.sn.length ≤ 140737488355328) (hsz : x.p.log.es.length ≤ 40000 ∧ c.p.log.es.length ≤ 40000) (w : World) (hx : IsPt w w.heap.size x.p ad) (hc : IsPt w w.heap.size c.p ac) (hnx : InInt x.g ∧ InInt x.t ∧ InInt x.v) (hnc : (InInt c.k ∧ InInt c.g ∧ InInt c.t ∧ InInt c.v ∧ InInt c.f) ∧ okV c.a) :
    Calls Tryz.prog 97 #[.agg #[.int .i64 x.g, .int .i64 x.t, .int .i64 x.v, .int .i64 x.p.log.base, .int .i64 x.p.log.term, .slice ad.e x.p.log.es.length ad.ce, .slice ad.o x.p.cf.old.length ad.co, .slice ad.n x.p.cf.new.length ad.cn, .slice ad.l x.p.cf.lrn.length ad.cl, .slice ad.s x.p.sn.length ad.cs], .agg #[.int .i64 c.k, .int .i64 c.g, .int .i64 c.t, .int .i64 c.v, .int .i64 c.f, .int .i64 c.p.log.base, .int .i64 c.p.log.term, .slice ac.e c.p.log.es.length ac.ce, .slice ac.o c.p.cf.old.length ac.co, .slice ac.n c.p.cf.new.length ac.cn, .slice ac.l c.p.cf.lrn.length ac.cl, .slice ac.s c.p.sn.length ac.cs, .int .i64 c.a.x, .int .i64 c.a.p, .int .i64 c.a.r, .int .i64 c.a.b, .int .i64 c.a.v]] w (TurnPost x c w) := by
  obtain ⟨wA, hwA⟩ : ∃ wA, wA = (((w.alloc (.cells #[.int .i64 x.g, .int .i64 x.t, .int .i64 x.v, .int .i64 x.p.log.base, .int .i64 x.p.log.term, .slice ad.e x.p.log.es.length ad.ce, .slice ad.o x.p.cf.old.length ad.co, .slice ad.n x.p.cf.new.length ad.cn, .slice ad.l x.p.cf.lrn.length ad.cl, .slice ad.s x.p.sn.length ad.cs] 75)).alloc (.cells #[.int .i64 c.k, .int .i64 c.g, .int .i64 c.t, .int .i64 c.v, .int .i64 c.f, .int .i64 c.p.log.base, .int .i64 c.p.log.term, .slice ac.e c.p.log.es.length ac.ce, .slice ac.o c.p.cf.old.length ac.co, .slice ac.n c.p.cf.new.length ac.cn, .slice ac.l c.p.cf.lrn.length ac.cl, .slice ac.s c.p.sn.length ac.cs, .int .i64 c.a.x, .int .i64 c.a.p, .int .i64 c.a.r, .int .i64 c.a.b, .int .i64 c.a.v] 62)).alloc (.cells #[.int .i64 0, .int .i64 0, .int .i64 0, .int .i64 0, .int .i64 0, .slice none 0 0, .slice none 0 0, .slice none 0 0, .slice none 0 0, .slice none 0 0] 75)) := ⟨_, rfl⟩
  have hg := cg_start w x ad c ac
  rw [← hwA] at hg
  have hzA : wA.heap.size = w.heap.size + 3 := by rw [hwA]; simp
  have ldA := ldRow info_hard Tryz.underlying75 rfl hg.r2 rfl
  have HCH := hid (copyH_any x ad hf.1 hf.2 wA (hx.low hg.bel))
  have HCC := hid (fun W (h : IsPt W W.heap.size c.p ac) => copyC_any c ac hfc.1 hfc.2 W h)
  have HG := hid (And.intro hg (And.intro hzA hc))
  have HX := hid (And.intro hnx (And.intro hnc (And.intro hok (And.intro hsz (And.intro hf.1.2 hfc.1.2)))))
  have HK := hid hk
  rw [hwA] at ldA
  clear hg hzA hx hc hf hfc hnx hnc hok hsz hk
  go_enter Tryz.func97, Tryz.ntmps97
  go_wp2_with fail
  rw [← hwA]
  clear hwA ldA
  refine HCH.out.mono ?_
  rintro e w1 ⟨a1, rfl, ho1, hb1⟩
  have r01 := (hb1.block _ (row_lt HG.out.1.r2)).trans HG.out.1.r2
  have st1 := stRow info_hard (cs' := #[.int .i64 x.g, .int .i64 x.t, .int .i64 x.v, .int .i64 x.p.log.base, .int .i64 x.p.log.term, .slice a1.e x.p.log.es.length a1.ce, .slice a1.o x.p.cf.old.length a1.co, .slice a1.n x.p.cf.new.length a1.cn, .slice a1.l x.p.cf.lrn.length a1.cl, .slice a1.s x.p.sn.length a1.cs]) r01 rfl rfl (by simp [Value.oneCell'])
  have ro1 := setRow_heap w1 w.heap.size _ #[.int .i64 x.g, .int .i64 x.t, .int .i64 x.v, .int .i64 x.p.log.base, .int .i64 x.p.log.term, .slice a1.e x.p.log.es.length a1.ce, .slice a1.o x.p.cf.old.length a1.co, .slice a1.n x.p.cf.new.length a1.cn, .slice a1.l x.p.cf.lrn.length a1.cl, .slice a1.s x.p.sn.length a1.cs] _ _ r01
  have tu1 := row_turned w1 w.heap.size #[.int .i64 x.g, .int .i64 x.t, .int .i64 x.v, .int .i64 x.p.log.base, .int .i64 x.p.log.term, .slice a1.e x.p.log.es.length a1.ce, .slice a1.o x.p.cf.old.length a1.co, .slice a1.n x.p.cf.new.length a1.cn, .slice a1.l x.p.cf.lrn.length a1.cl, .slice a1.s x.p.sn.length a1.cs]
  obtain ⟨w2, hw2⟩ : ∃ w2, w2 = w1.setRow w.heap.size #[.int .i64 x.g, .int .i64 x.t, .int .i64 x.v, .int .i64 x.p.log.base, .int .i64 x.p.log.term, .slice a1.e x.p.log.es.length a1.ce, .slice a1.o x.p.cf.old.length a1.co, .slice a1.n x.p.cf.new.length a1.cn, .slice a1.l x.p.cf.lrn.length a1.cl, .slice a1.s x.p.sn.length a1.cs] := ⟨_, rfl⟩
  rw [← hw2] at st1 ro1 tu1
  have H2 : Hid (w2.heap[w.heap.size]? = some (.cells #[.int .i64 x.g, .int .i64 x.t, .int .i64 x.v, .int .i64 x.p.log.base, .int .i64 x.p.log.term, .slice a1.e x.p.log.es.length a1.ce, .slice a1.o x.p.cf.old.length a1.co, .slice a1.n x.p.cf.new.length a1.cn, .slice a1.l x.p.cf.lrn.length a1.cl, .slice a1.s x.p.sn.length a1.cs] 75 (0, 0)) ∧ w2.heap[w.heap.size + 1]? = some (.cells #[.int .i64 c.k, .int .i64 c.g, .int .i64 c.t, .int .i64 c.v, .int .i64 c.f, .int .i64 c.p.log.base, .int .i64 c.p.log.term, .slice ac.e c.p.log.es.length ac.ce, .slice ac.o c.p.cf.old.length ac.co, .slice ac.n c.p.cf.new.length ac.cn, .slice ac.l c.p.cf.lrn.length ac.cl, .slice ac.s c.p.sn.length ac.cs, .int .i64 c.a.x, .int .i64 c.a.p, .int .i64 c.a.r, .int .i64 c.a.b, .int .i64 c.a.v] 62 (0, 0)) ∧ w2.heap[w.heap.size + 1 + 1]? = some (.cells #[.int .i64 0, .int .i64 0, .int .i64 0, .int .i64 0, .int .i64 0, .slice none 0 0, .slice none 0 0, .slice none 0 0, .slice none 0 0, .slice none 0 0] 75 (0, 0)) ∧ PtIn w2 (w.heap.size + 3) w2.heap.size x.p a1 ∧ Below w.heap.size w w2 ∧ IsPt w2 w2.heap.size c.p ac ∧ w.heap.size + 3 ≤ w2.heap.size) := hid (by
    obtain ⟨hg, hzA, hc⟩ := HG.out
    have hz1 := hb1.size
    have hz2 := tu1.size
    have hbw : Below w.heap.size w w2 := hg.bel.trans ((hb1.mono hg.bel.size).trans (tu1.below (by omega) (fun k hk => by omega)))
    refine ⟨ro1, (tu1.block _ (by omega) (by omega)).trans ((hb1.block _ (by omega)).trans hg.r3), (tu1.block _ (by omega) (by omega)).trans ((hb1.block _ (by omega)).trans hg.r4), ?_, hbw, hc.low hbw, by omega⟩
    rw [← hzA]
    exact (ho1.ptIn.keep tu1 (fun k hk hB => by have := hB.1; omega)).wide (Nat.le_refl _) hz2)
  have ld2 := ldRow info_change Tryz.underlying62 rfl H2.out.2.1 rfl
  have HC2 := hid (HCC.out w2 H2.out.2.2.2.2.2.1)
  clear ho1 hb1 r01 ro1 tu1 hw2 HCH HCC HG
  go_wp2_with fail
  refine HC2.out.mono ?_
  rintro e w3 ⟨a2, rfl, ho3, hb3⟩
  have r13 := (hb3.block _ (row_lt H2.out.2.1)).trans H2.out.2.1
  have st3 := stRow info_change (cs' := #[.int .i64 c.k, .int .i64 c.g, .int .i64 c.t, .int .i64 c.v, .int .i64 c.f, .int .i64 c.p.log.base, .int .i64 c.p.log.term, .slice a2.e c.p.log.es.length a2.ce, .slice a2.o c.p.cf.old.length a2.co, .slice a2.n c.p.cf.new.length a2.cn, .slice a2.l c.p.cf.lrn.length a2.cl, .slice a2.s c.p.sn.length a2.cs, .int .i64 c.a.x, .int .i64 c.a.p, .int .i64 c.a.r, .int .i64 c.a.b, .int .i64 c.a.v]) r13 rfl rfl (by simp [Value.oneCell'])
  have ro3 := setRow_heap w3 (w.heap.size + 1) _ #[.int .i64 c.k, .int .i64 c.g, .int .i64 c.t, .int .i64 c.v, .int .i64 c.f, .int .i64 c.p.log.base, .int .i64 c.p.log.term, .slice a2.e c.p.log.es.length a2.ce, .slice a2.o c.p.cf.old.length a2.co, .slice a2.n c.p.cf.new.length a2.cn, .slice a2.l c.p.cf.lrn.length a2.cl, .slice a2.s c.p.sn.length a2.cs, .int .i64 c.a.x, .int .i64 c.a.p, .int .i64 c.a.r, .int .i64 c.a.b, .int .i64 c.a.v] _ _ r13
  have tu3 := row_turned w3 (w.heap.size + 1) #[.int .i64 c.k, .int .i64 c.g, .int .i64 c.t, .int .i64 c.v, .int .i64 c.f, .int .i64 c.p.log.base, .int .i64 c.p.log.term, .slice a2.e c.p.log.es.length a2.ce, .slice a2.o c.p.cf.old.length a2.co, .slice a2.n c.p.cf.new.length a2.cn, .slice a2.l c.p.cf.lrn.length a2.cl, .slice a2.s c.p.sn.length a2.cs, .int .i64 c.a.x, .int .i64 c.a.p, .int .i64 c.a.r, .int .i64 c.a.b, .int .i64 c.a.v]
  obtain ⟨w4, hw4⟩ : ∃ w4, w4 = w3.setRow (w.heap.size + 1) #[.int .i64 c.k, .int .i64 c.g, .int .i64 c.t, .int .i64 c.v, .int .i64 c.f, .int .i64 c.p.log.base, .int .i64 c.p.log.term, .slice a2.e c.p.log.es.length a2.ce, .slice a2.o c.p.cf.old.length a2.co, .slice a2.n c.p.cf.new.length a2.cn, .slice a2.l c.p.cf.lrn.length a2.cl, .slice a2.s c.p.sn.length a2.cs, .int .i64 c.a.x, .int .i64 c.a.p, .int .i64 c.a.r, .int .i64 c.a.b, .int .i64 c.a.v] := ⟨_, rfl⟩
  rw [← hw4] at st3 ro3 tu3
  have T4 : Hid (Tz w w4 x c a1 a2 w2.heap.size) := hid (by
    obtain ⟨q0, q1, q2, q3, q4, q5, q6⟩ := H2.out
    have hz3 := hb3.size
    have hz4 := tu3.size
    exact ⟨q4.trans ((hb3.mono q4.size).trans (tu3.below (by omega) (fun k hk => by omega))), (tu3.block _ (by omega) (by omega)).trans ((hb3.block _ (by omega)).trans q0), ro3, (tu3.block _ (by omega) (by omega)).trans ((hb3.block _ (by omega)).trans q2), (q3.below hb3).keep tu3 (fun k hk hB => by have := hB.1; omega), (ho3.ptIn.keep tu3 (fun k hk hB => by have := hB.1; omega)).wide (Nat.le_refl _) hz4, ⟨q6, by omega⟩⟩)
  obtain ⟨m, hm⟩ : ∃ m, m = w2.heap.size := ⟨_, rfl⟩
  rw [← hm] at T4
  have k0 : w4.cell? ⟨w.heap.size + 1, 0, none⟩ = some (.int .i64 c.k) := row_cell T4.out.r1 0
  rw [HK.out] at k0
  clear ho3 hb3 r13 ro3 tu3 hw4 HC2 H2 ld2 hm st1
  have lg4 : (ldX 58 (.pointer (some ⟨w.heap.size, 3, none⟩))).run Tryz.prog w4 = .ok (.agg #[.int .i64 x.p.log.base, .int .i64 x.p.log.term, .slice a1.e x.p.log.es.length a1.ce]) w4 := ldLogX T4.out.r0
  have HLA := hid (refLast_any w4.heap.size x.p.log a1.e a1.ce HX.out.2.2.1 w4 (by
    have h := T4.out.p1.reads
    exact ⟨h.es.more T4.out.lt.2, h.re.1, h.re.2, h.num⟩) (Nat.le_refl _))
  obtain ⟨la, hla⟩ : ∃ l, l = x.p.log.last := ⟨_, rfl⟩
  have hln : (x.p.log.last : Int) = x.p.log.base + (x.p.log.es.length : Nat) := rfl
  rw [← hla] at HLA hln
  have hcf := HX.out.2.1.1.2.2.2.2
  have hf1 := hcf.1
  have hf2 := hcf.2
  have hb1' := HX.out.2.2.1.1.1
  have hb2' := HX.out.2.2.1.1.2
  have hel := HX.out.2.2.2.1.1
  have HLL := hid hla
  clear hcf hla
  go_wp2_with fail
  refine HLA.out.mono ?_
  rintro e w5 ⟨rfl, hb5⟩
  have T5 := hid (T4.out.below hb5)
  have k4 : w5.cell? ⟨w.heap.size + 1, 4, none⟩ = some (.int .i64 c.f) := row_cell T5.out.r1 4
  have k3 : w5.cell? ⟨w.heap.size, 3, none⟩ = some (.int .i64 x.p.log.base) := row_cell T5.out.r0 3
  clear hb5 T4 HLA lg4
  have HBAD : Hid (chgd x c = none → w5.heap[w.heap.size]? = some (.cells #[.int .i64 x.g, .int .i64 x.t, .int .i64 x.v, .int .i64 x.p.log.base, .int .i64 x.p.log.term, .slice a1.e x.p.log.es.length a1.ce, .slice a1.o x.p.cf.old.length a1.co, .slice a1.n x.p.cf.new.length a1.cn, .slice a1.l x.p.cf.lrn.length a1.cl, .slice a1.s x.p.sn.length a1.cs] 75 (0, 0)) ∧ w5.heap[w.heap.size + 1 + 1]? = some (.cells #[.int .i64 0, .int .i64 0, .int .i64 0, .int .i64 0, .int .i64 0, .slice none 0 0, .slice none 0 0, .slice none 0 0, .slice none 0 0, .slice none 0 0] 75 (0, 0)) ∧ PtIn w5 (w.heap.size + 3) w5.heap.size x.p a1 ∧ Below w.heap.size w w5) := hid (fun _ => ⟨T5.out.r0, T5.out.r2, T5.out.p1.wide (Nat.le_refl _) T5.out.lt.2, T5.out.bel⟩)
  by_cases hlow : c.f ≤ x.p.log.base
  · have HE : Hid (chgd x c = none) := hid (by unfold chgd; rw [if_neg (by rw [HK.out]; decide), if_pos HK.out, if_pos (.inl hlow)])
    have HB := hid (HBAD.out HE.out)
    obtain ⟨y, hy⟩ : ∃ y : Hd, y = x := ⟨_, rfl⟩
    obtain ⟨a', ha'⟩ : ∃ a' : Ad, a' = a1 := ⟨_, rfl⟩
    have HYX := hid hy
    rw [← hy, ← ha'] at HB
    clear hy ha'
    have hld := ldRow info_hard Tryz.underlying75 rfl HB.out.1 rfl
    have hst := stRow info_hard (cs' := #[.int .i64 y.g, .int .i64 y.t, .int .i64 y.v, .int .i64 y.p.log.base, .int .i64 y.p.log.term, .slice a'.e y.p.log.es.length a'.ce, .slice a'.o y.p.cf.old.length a'.co, .slice a'.n y.p.cf.new.length a'.cn, .slice a'.l y.p.cf.lrn.length a'.cl, .slice a'.s y.p.sn.length a'.cs]) HB.out.2.1 rfl rfl (by simp [Value.oneCell'])
    have r5 := setRow_heap w5 (w.heap.size + 1 + 1) _ #[.int .i64 y.g, .int .i64 y.t, .int .i64 y.v, .int .i64 y.p.log.base, .int .i64 y.p.log.term, .slice a'.e y.p.log.es.length a'.ce, .slice a'.o y.p.cf.old.length a'.co, .slice a'.n y.p.cf.new.length a'.cn, .slice a'.l y.p.cf.lrn.length a'.cl, .slice a'.s y.p.sn.length a'.cs] _ _ HB.out.2.1
    have tT := row_turned w5 (w.heap.size + 1 + 1) #[.int .i64 y.g, .int .i64 y.t, .int .i64 y.v, .int .i64 y.p.log.base, .int .i64 y.p.log.term, .slice a'.e y.p.log.es.length a'.ce, .slice a'.o y.p.cf.old.length a'.co, .slice a'.n y.p.cf.new.length a'.cn, .slice a'.l y.p.cf.lrn.length a'.cl, .slice a'.s y.p.sn.length a'.cs]
    obtain ⟨wC, hwC⟩ : ∃ wC, wC = w5.setRow (w.heap.size + 1 + 1) #[.int .i64 y.g, .int .i64 y.t, .int .i64 y.v, .int .i64 y.p.log.base, .int .i64 y.p.log.term, .slice a'.e y.p.log.es.length a'.ce, .slice a'.o y.p.cf.old.length a'.co, .slice a'.n y.p.cf.new.length a'.cn, .slice a'.l y.p.cf.lrn.length a'.cl, .slice a'.s y.p.sn.length a'.cs] := ⟨_, rfl⟩
    rw [← hwC] at hst r5 tT
    have HC : Hid (wC.heap[w.heap.size + 1 + 1]? = some (.cells #[.int .i64 y.g, .int .i64 y.t, .int .i64 y.v, .int .i64 y.p.log.base, .int .i64 y.p.log.term, .slice a'.e y.p.log.es.length a'.ce, .slice a'.o y.p.cf.old.length a'.co, .slice a'.n y.p.cf.new.length a'.cn, .slice a'.l y.p.cf.lrn.length a'.cl, .slice a'.s y.p.sn.length a'.cs] 75 (0, 0)) ∧ PtIn wC w.heap.size wC.heap.size y.p a' ∧ Below w.heap.size w wC) := hid (by
      obtain ⟨_, _, q1, q2⟩ := HB.out
      have hz := tT.size
      exact ⟨r5, (q1.keep tT (fun k hk hB => by have := hB.1; omega)).wide (by omega) hz, q2.trans (tT.below q2.size (fun k hk => by omega))⟩)
    clear r5 tT hwC T5 HBAD
    go_wp2_with fail
    refine bodyPost_ret (results_two rfl info_hard Tryz.underlying75 rfl _ _ (w.heap.size + 1 + 1) _ _ _ rfl HC.out.1 rfl) rfl ?_
    exact ⟨y, a', false, rfl, by rw [HE.out]; rfl, by rw [HE.out]; exact HYX.out, HC.out.2.1, by rw [HYX.out]; exact HX.out.1, HC.out.2.2⟩
  · by_cases hhi : la < c.f - 1
    · have HE : Hid (chgd x c = none) := hid (by unfold chgd; rw [if_neg (by rw [HK.out]; decide), if_pos HK.out, if_pos (.inr (by rw [← HLL.out]; exact hhi))])
      have HB := hid (HBAD.out HE.out)
      obtain ⟨y, hy⟩ : ∃ y : Hd, y = x := ⟨_, rfl⟩
      obtain ⟨a', ha'⟩ : ∃ a' : Ad, a' = a1 := ⟨_, rfl⟩
      have HYX := hid hy
      rw [← hy, ← ha'] at HB
      have hhj : la + 1 < c.f := by omega
      clear hy ha'
      have hld := ldRow info_hard Tryz.underlying75 rfl HB.out.1 rfl
      have hst := stRow info_hard (cs' := #[.int .i64 y.g, .int .i64 y.t, .int .i64 y.v, .int .i64 y.p.log.base, .int .i64 y.p.log.term, .slice a'.e y.p.log.es.length a'.ce, .slice a'.o y.p.cf.old.length a'.co, .slice a'.n y.p.cf.new.length a'.cn, .slice a'.l y.p.cf.lrn.length a'.cl, .slice a'.s y.p.sn.length a'.cs]) HB.out.2.1 rfl rfl (by simp [Value.oneCell'])
      have r5 := setRow_heap w5 (w.heap.size + 1 + 1) _ #[.int .i64 y.g, .int .i64 y.t, .int .i64 y.v, .int .i64 y.p.log.base, .int .i64 y.p.log.term, .slice a'.e y.p.log.es.length a'.ce, .slice a'.o y.p.cf.old.length a'.co, .slice a'.n y.p.cf.new.length a'.cn, .slice a'.l y.p.cf.lrn.length a'.cl, .slice a'.s y.p.sn.length a'.cs] _ _ HB.out.2.1
      have tT := row_turned w5 (w.heap.size + 1 + 1) #[.int .i64 y.g, .int .i64 y.t, .int .i64 y.v, .int .i64 y.p.log.base, .int .i64 y.p.log.term, .slice a'.e y.p.log.es.length a'.ce, .slice a'.o y.p.cf.old.length a'.co, .slice a'.n y.p.cf.new.length a'.cn, .slice a'.l y.p.cf.lrn.length a'.cl, .slice a'.s y.p.sn.length a'.cs]
      obtain ⟨wC, hwC⟩ : ∃ wC, wC = w5.setRow (w.heap.size + 1 + 1) #[.int .i64 y.g, .int .i64 y.t, .int .i64 y.v, .int .i64 y.p.log.base, .int .i64 y.p.log.term, .slice a'.e y.p.log.es.length a'.ce, .slice a'.o y.p.cf.old.length a'.co, .slice a'.n y.p.cf.new.length a'.cn, .slice a'.l y.p.cf.lrn.length a'.cl, .slice a'.s y.p.sn.length a'.cs] := ⟨_, rfl⟩
      rw [← hwC] at hst r5 tT
      have HC : Hid (wC.heap[w.heap.size + 1 + 1]? = some (.cells #[.int .i64 y.g, .int .i64 y.t, .int .i64 y.v, .int .i64 y.p.log.base, .int .i64 y.p.log.term, .slice a'.e y.p.log.es.length a'.ce, .slice a'.o y.p.cf.old.length a'.co, .slice a'.n y.p.cf.new.length a'.cn, .slice a'.l y.p.cf.lrn.length a'.cl, .slice a'.s y.p.sn.length a'.cs] 75 (0, 0)) ∧ PtIn wC w.heap.size wC.heap.size y.p a' ∧ Below w.heap.size w wC) := hid (by
        obtain ⟨_, _, q1, q2⟩ := HB.out
        have hz := tT.size
        exact ⟨r5, (q1.keep tT (fun k hk hB => by have := hB.1; omega)).wide (by omega) hz, q2.trans (tT.below q2.size (fun k hk => by omega))⟩)
      clear r5 tT hwC T5 HBAD hhi
      go_wp2_with fail
      refine bodyPost_ret (results_two rfl info_hard Tryz.underlying75 rfl _ _ (w.heap.size + 1 + 1) _ _ _ rfl HC.out.1 rfl) rfl ?_
      exact ⟨y, a', false, rfl, by rw [HE.out]; rfl, by rw [HE.out]; exact HYX.out, HC.out.2.1, by rw [HYX.out]; exact HX.out.1, HC.out.2.2⟩
    · obtain ⟨k, hk⟩ : ∃ k : Nat, (k : Int) = c.f - x.p.log.base - 1 := ⟨(c.f - x.p.log.base - 1).toNat, by omega⟩
      have hkl : k ≤ x.p.log.es.length := by omega
      obtain ⟨y, hy⟩ : ∃ y : Hd, y = { x with p := { x.p with log := { x.p.log with es := x.p.log.es.take k ++ c.p.log.es } } } := ⟨_, rfl⟩
      have HV : Hid (chgd x c = some y) := hid (by
        unfold chgd
        rw [if_neg (by rw [HK.out]; decide), if_pos HK.out, if_neg (by rw [← HLL.out]; omega), ← hk, hy]
        rfl)
      have hre := T5.out.p1.reads.re
      have hce : k ≤ a1.ce := by have := hre.1.1; omega
      have hmx : a1.ce ≤ maxLen := hre.1.2
      unfold maxLen at hmx
      have hhj : ¬ la + 1 < c.f := by omega
      have hwa : IntKind.i64.wrap (c.f - x.p.log.base) = (k : Int) + 1 := by rw [IntKind.wrap_i64]; omega
      have hwc : IntKind.i64.wrap ((k : Int) + 1 - 1) = (k : Int) := by rw [IntKind.wrap_i64]; omega
      have hwd : IntKind.i64.wrap (k : Int) = (k : Int) := by rw [IntKind.wrap_i64]; omega
      have hwb : (0 : Int) ≤ (k : Int) := by omega
      have hki : (k : Int) ≤ (a1.ce : Int) := by omega
      obtain ⟨lc, hlc⟩ : ∃ n, n = c.p.log.es.length := ⟨_, rfl⟩
      have hlc4 : lc ≤ 40000 := by rw [hlc]; exact HX.out.2.2.2.1.2
      have hk4 : k ≤ 40000 := by omega
      obtain ⟨i0, hi, hz0, hz1, hz2⟩ := info_parts info_entry
      have HCE := hid (fun (W : World) (h : IsEnts W W.heap.size a1.e (x.p.log.es.take k)) => copyE_any W.heap.size a1.e a1.ce k (x.p.log.es.take k) (by rw [List.length_take]; omega) (by omega) (fun e he => HX.out.2.2.2.2.1 e (List.mem_of_mem_take he)) W h (Nat.le_refl _))
      have HW : Hid (∀ W, Below w5.heap.size w5 W → W.cell? ⟨w.heap.size, 5, none⟩ = some (.slice a1.e x.p.log.es.length a1.ce) ∧ W.cell? ⟨w.heap.size, 3, none⟩ = some (.int .i64 x.p.log.base) ∧ W.cell? ⟨w.heap.size + 1, 4, none⟩ = some (.int .i64 c.f) ∧ W.cell? ⟨w.heap.size + 1, 7, none⟩ = some (.slice a2.e lc a2.ce)) := hid (fun W hb => by
        have t := T5.out.below hb
        rw [hlc]
        exact ⟨row_cell t.r0 5, row_cell t.r0 3, row_cell t.r1 4, row_cell t.r1 7⟩)
      have HKX := hid (And.intro hkl hy)
      have HLC := hid hlc
      clear hk hkl hy hhi HBAD hre hlc
      go_wp2_with fail
      have hopL : opL7 = Op.load 56 (.tmp 61) := rfl
      rw [← hopL]
      obtain ⟨M2, hm2, he2⟩ := T5.out.p2.1
      have hM2 : M2.length = lc := by rw [HLC.out, ← hm2, List.length_map]
      have HM2 := hid (And.intro hm2 (And.intro he2 T5.out.p2.reads.re))
      have hnil2 := T5.out.p2.reads.re.2
      have hbd : Below w5.heap.size w5 w5.drew := (Below.refl _ w5).drew
      have HC6 := hid (HCE.out w5.drew (((T5.out.p1.reads.es.more T5.out.lt.2).below hbd).take k))
      obtain ⟨f5, s5⟩ := HW.out w5 (Below.refl _ _)
      obtain ⟨g5, s5d⟩ := HW.out w5.drew hbd
      clear hm2 he2 hbd HCE
      go_region_held3 (fun W => W.cell? ⟨w.heap.size, 3, none⟩ = some (.int .i64 x.p.log.base) ∧ W.cell? ⟨w.heap.size + 1, 4, none⟩ = some (.int .i64 c.f) ∧ W.cell? ⟨w.heap.size + 1, 7, none⟩ = some (.slice a2.e lc a2.ce))
        (first | with_reducible exact s8 _ | with_reducible exact s7 | with_reducible exact s6 | with_reducible exact s5d | with_reducible exact s5 | fail)
        (first
          | (go_at_call 125; refine HC6.out.mono ?_; rintro e w6 ⟨A6, c6, rfl, ho6, hb6⟩; have hb56 : Below w5.heap.size w5 w6 := (Below.refl _ w5).drew.trans hb6; obtain ⟨M1, hm1, he1⟩ := ho6; have hM1 : M1.length = k := (by have := congrArg List.length hm1; rw [List.length_map, List.length_take] at this; have := HKX.out.1; omega); have H6 := hid (And.intro hm1 (And.intro he1 hb56)); obtain ⟨g6, s6⟩ := HW.out w6 hb56; clear hm1 he1 hb6 hb56)
          | (refine step_append_rows (by rfl) _ _ 56 (by rfl) i0 _ Tryz.underlying56 hi hz0 hz1 hz2 (by rfl) (by decide) H6.out.2.1.row k hM1 rfl a2.e a2.ce M2 lc hM2 (by rfl) hnil2 ((entsAt_row HM2.out.2.1).below (H6.out.2.2.mono (Nat.le_refl _))) cellsE_one (by omega) (by omega) ?_; intro A7 c7 w7 hrow7 hg7; have HFX := appended T5.out H6.out.2.1 H6.out.2.2 hg7; have r07 := HFX.1; have r17 := HFX.2.1; have hne7 := HFX.2.2; clear HFX; have g7 := row_cell r07 5; have z7 := row_free r07 5; have s7 := appended7 r07 r17 HLC.out; have s8 := appended8 r07 r17 HLC.out; have H7 := hid (And.intro hrow7 (And.intro hg7 (And.intro r07 hne7))); clear hrow7 hg7 r07 r17 hne7)
          | fail)
      all_goals
        (obtain ⟨hrow7, hg7, r07, hne7⟩ := H7.out
         obtain ⟨w8, hw8⟩ : ∃ w8, w8 = w7.setCell ⟨w.heap.size, 5, none⟩ (.slice A7 (k + lc) c7) := ⟨_, rfl⟩
         obtain ⟨a', ha'⟩ : ∃ a' : Ad, a' = { a1 with e := A7, ce := c7 } := ⟨_, rfl⟩
         have H8 : Hid (w8.heap[w.heap.size]? = some (.cells #[.int .i64 y.g, .int .i64 y.t, .int .i64 y.v, .int .i64 y.p.log.base, .int .i64 y.p.log.term, .slice a'.e y.p.log.es.length a'.ce, .slice a'.o y.p.cf.old.length a'.co, .slice a'.n y.p.cf.new.length a'.cn, .slice a'.l y.p.cf.lrn.length a'.cl, .slice a'.s y.p.sn.length a'.cs] 75 (0, 0)) ∧ w8.heap[w.heap.size + 1 + 1]? = some (.cells #[.int .i64 0, .int .i64 0, .int .i64 0, .int .i64 0, .int .i64 0, .slice none 0 0, .slice none 0 0, .slice none 0 0, .slice none 0 0, .slice none 0 0] 75 (0, 0)) ∧ PtIn w8 (w.heap.size + 3) w8.heap.size y.p a' ∧ Below w.heap.size w w8) := hid (by
           have t8 : Turned (fun k => k = w.heap.size) w7 w8 := by rw [hw8]; exact Turned.one _ _ _ _
           have hb56 := H6.out.2.2
           have hz5 := hb56.size
           have hz7 := hg7.size
           have hz8 := t8.size
           have T6 := T5.out.below hb56
           have hlt := T5.out.lt
           have b57 : Below w5.heap.size w5 w7 := hb56.grown hg7 hz5 (fun j hj => by
             rcases Nat.lt_or_ge j w5.heap.size with h | h
             · exact absurd hj (hne7 j h)
             · exact h)
           have T7 := T5.out.below b57
           have es6 := (entsAt_wide HM2.out.2.1 hb56)
           have es7 := ents_join (H6.out.2.1) es6 hlt.2 hz5 (Nat.le_refl _) hrow7 hg7 rfl
           have hm : M1.map (·.e) ++ M2.map (·.e) = x.p.log.es.take k ++ c.p.log.es := by rw [H6.out.1, HM2.out.1]
           rw [HKX.out.2, ha']
           refine ⟨?_, (t8.block _ (row_lt T7.r2) (by omega)).trans T7.r2, ?_, T7.bel.trans (t8.below T7.bel.size (fun k hk => by omega))⟩
           · rw [hw8, row_set r07 5 _]
             have hlen : (x.p.log.es.take k ++ c.p.log.es).length = k + lc := by rw [List.length_append, List.length_take, ← HLC.out]; have := HKX.out.1; omega
             simp only [hlen]
             rfl
           · obtain ⟨_, q2, q3, q4, q5, q6⟩ := (T7.p1.keep t8 (fun k hk hB => by have := hB.1; omega)).wide (Nat.le_refl _) (show m ≤ w8.heap.size by omega)
             have o8 : OwnE w8 (w.heap.size + 3) w8.heap.size A7 c7 (x.p.log.es.take k ++ c.p.log.es) := ⟨M1 ++ M2, by rw [List.map_append]; exact hm, (es7.keep t8 (fun k hk hB => by have := hB.1; omega)).wide (by omega) hz8⟩
             exact ⟨o8, q2, q3, q4, q5, q6⟩)
         have hld := ldRow info_hard Tryz.underlying75 rfl H8.out.1 rfl
         have hst := stRow info_hard (cs' := #[.int .i64 y.g, .int .i64 y.t, .int .i64 y.v, .int .i64 y.p.log.base, .int .i64 y.p.log.term, .slice a'.e y.p.log.es.length a'.ce, .slice a'.o y.p.cf.old.length a'.co, .slice a'.n y.p.cf.new.length a'.cn, .slice a'.l y.p.cf.lrn.length a'.cl, .slice a'.s y.p.sn.length a'.cs]) H8.out.2.1 rfl rfl (by simp [Value.oneCell'])
         have r5 := setRow_heap w8 (w.heap.size + 1 + 1) _ #[.int .i64 y.g, .int .i64 y.t, .int .i64 y.v, .int .i64 y.p.log.base, .int .i64 y.p.log.term, .slice a'.e y.p.log.es.length a'.ce, .slice a'.o y.p.cf.old.length a'.co, .slice a'.n y.p.cf.new.length a'.cn, .slice a'.l y.p.cf.lrn.length a'.cl, .slice a'.s y.p.sn.length a'.cs] _ _ H8.out.2.1
         have tT := row_turned w8 (w.heap.size + 1 + 1) #[.int .i64 y.g, .int .i64 y.t, .int .i64 y.v, .int .i64 y.p.log.base, .int .i64 y.p.log.term, .slice a'.e y.p.log.es.length a'.ce, .slice a'.o y.p.cf.old.length a'.co, .slice a'.n y.p.cf.new.length a'.cn, .slice a'.l y.p.cf.lrn.length a'.cl, .slice a'.s y.p.sn.length a'.cs]
         obtain ⟨wC, hwC⟩ : ∃ wC, wC = w8.setRow (w.heap.size + 1 + 1) #[.int .i64 y.g, .int .i64 y.t, .int .i64 y.v, .int .i64 y.p.log.base, .int .i64 y.p.log.term, .slice a'.e y.p.log.es.length a'.ce, .slice a'.o y.p.cf.old.length a'.co, .slice a'.n y.p.cf.new.length a'.cn, .slice a'.l y.p.cf.lrn.length a'.cl, .slice a'.s y.p.sn.length a'.cs] := ⟨_, rfl⟩
         rw [← hwC] at hst r5 tT
         have HC : Hid (wC.heap[w.heap.size + 1 + 1]? = some (.cells #[.int .i64 y.g, .int .i64 y.t, .int .i64 y.v, .int .i64 y.p.log.base, .int .i64 y.p.log.term, .slice a'.e y.p.log.es.length a'.ce, .slice a'.o y.p.cf.old.length a'.co, .slice a'.n y.p.cf.new.length a'.cn, .slice a'.l y.p.cf.lrn.length a'.cl, .slice a'.s y.p.sn.length a'.cs] 75 (0, 0)) ∧ PtIn wC w.heap.size wC.heap.size y.p a' ∧ Below w.heap.size w wC) := hid (by
           obtain ⟨_, _, q1, q2⟩ := H8.out
           have hz := tT.size
           exact ⟨r5, (q1.keep tT (fun k hk hB => by have := hB.1; omega)).wide (by omega) hz, q2.trans (tT.below q2.size (fun k hk => by omega))⟩)
         rw [hw8] at hld hst
         clear r5 tT hwC hw8 T5 ha' H6 H7 HM2 hrow7 hg7 r07 hne7 s5 s5d s6 s7 s8 f5 g5 g6 g7 k3 k4 HW HC6
         go_wp2_with fail
         refine bodyPost_ret (results_two rfl info_hard Tryz.underlying75 rfl _ _ (w.heap.size + 1 + 1) _ _ _ rfl HC.out.1 rfl) rfl ?_
         exact ⟨y, a', true, rfl, by rw [HV.out]; rfl, by rw [HV.out]; rfl, HC.out.2.1, by rw [HKX.out.2]; exact HX.out.1, HC.out.2.2⟩)
theorem rTurned_any (x : Hd) (ad : Ad) (c : Ch) (ac : Ad) (hk : c.k = 1 ∨ c.k = 2 ∨ c.k = 3) (hok : Rl.Ok x.p.log) (hf : (FewK x.p ∧ Rl.Few x.p.log.es) ∧ x.p.sn.length ≤ 140737488355328) (hfc : (FewK c.p ∧ Rl.Few c.p.log.es) ∧ c.p.sn.length ≤ 140737488355328) (hsz : x.p.log.es.length ≤ 40000 ∧ c.p.log.es.length ≤ 40000) (w : World) (hx : IsPt w w.heap.size x.p ad) (hc : IsPt w w.heap.size c.p ac) (hnx : InInt x.g ∧ InInt x.t ∧ InInt x.v) (hnc : (InInt c.k ∧ InInt c.g ∧ InInt c.t ∧ InInt c.v ∧ InInt c.f) ∧ okV c.a) :
    Calls Tryz.prog 97 #[.agg #[.int .i64 x.g, .int .i64 x.t, .int .i64 x.v, .int .i64 x.p.log.base, .int .i64 x.p.log.term, .slice ad.e x.p.log.es.length ad.ce, .slice ad.o x.p.cf.old.length ad.co, .slice ad.n x.p.cf.new.length ad.cn, .slice ad.l x.p.cf.lrn.length ad.cl, .slice ad.s x.p.sn.length ad.cs], .agg #[.int .i64 c.k, .int .i64 c.g, .int .i64 c.t, .int .i64 c.v, .int .i64 c.f, .int .i64 c.p.log.base, .int .i64 c.p.log.term, .slice ac.e c.p.log.es.length ac.ce, .slice ac.o c.p.cf.old.length ac.co, .slice ac.n c.p.cf.new.length ac.cn, .slice ac.l c.p.cf.lrn.length ac.cl, .slice ac.s c.p.sn.length ac.cs, .int .i64 c.a.x, .int .i64 c.a.p, .int .i64 c.a.r, .int .i64 c.a.b, .int .i64 c.a.v]] w (TurnPost x c w) := by
  rcases hk with hk | hk | hk
  · exact rTurn1_any x ad c ac hk hok hf hfc hsz w hx hc hnx hnc
  · exact rTurn2_any x ad c ac hk hok hf hfc hsz w hx hc hnx hnc
  · exact rTurn3_any x ad c ac hk hok hf hfc hsz w hx hc hnx hnc
end Go.Proofs.YtaeoccpjdjafnaaGreat.Im
namespace Go.Proofs.YtaeoccpjdjafnaaGreat.Im
open Go Go.RowKit
open Rl (En Lg)
open Qu (Cf)
set_option maxRecDepth 100000
set_option linter.unusedVariables false
local instance lo33 : Lo := ⟨0⟩
attribute [local go_sem ↓] loadAt_hard storeAt_hard loadAt_change storeAt_change loadAt_image storeAt_image loadAt_vote storeAt_vote
theorem chgd_g {h y : Hd} {c : Ch} (e : chgd h c = some y) : y.g = h.g := by
  unfold chgd at e
  split at e
  · injection e with e; rw [← e]
  · split at e
    · split at e
      · cases e
      · injection e with e; rw [← e]
    · injection e with e; rw [← e]
theorem InHs.setAt {w : World} {B N B' N' N2 g c : Nat} {M : List Hq} (h : InHs w B N (some ⟨g, 0, none⟩) c M) (k : Nat) (hk : k < M.length) (z : Hd) (az : Ad) (hp : PtIn w B' N' z.p az) (hB : B ≤ B') (hN : N ≤ N2) (hN' : N' ≤ N2) (hn : InInt z.g ∧ InInt z.t ∧ InInt z.v) : InHs (w.setCells g (k * 10) (cellsH ⟨z, az⟩)) B N2 (some ⟨g, 0, none⟩) c (M.set k ⟨z, az⟩) := by
  obtain ⟨cur, hcur⟩ := h.row.tag rfl
  have hT := turned_setCells g (cellsH ⟨z, az⟩) w (k * 10)
  have hgr : w.grownBy (w.setCells g (k * 10) (cellsH ⟨z, az⟩)) (some g) := ⟨hT.os, hT.tape, hT.output, hT.size, fun j hj hne => hT.block j hj (fun e => hne (by rw [e]))⟩
  have kp : Kp Parts w (w.setCells g (k * 10) (cellsH ⟨z, az⟩)) := Kp.ofGrown hcur (by rintro (e | e | e) <;> exact absurd e (by decide)) hgr
  refine ⟨(RowIn.setAll h.row k hk ⟨z, az⟩).mono (fun j hj => ?_), fun q hq => ?_, fun q hq => ?_⟩
  · have := h.row.blk j hj
    exact ⟨this.1, Nat.lt_of_lt_of_le this.2 hN⟩
  · rcases List.mem_or_eq_of_mem_set hq with hq | rfl
    · exact ((h.pts q hq).kp kp).wide (Nat.le_refl _) hN
    · exact (hp.kp kp).wide hB hN'
  · rcases List.mem_or_eq_of_mem_set hq with hq | rfl
    · exact h.num q hq
    · exact hn
theorem map_at {M Q : List Hq} (h : M.map (·.h) = Q.map (·.h)) (i : Nat) (hi : i < M.length) (hi' : i < (Q.map (·.h)).length) : (Q.map (·.h))[i] = M[i].h := by
  have : (Q.map (·.h))[i]? = some M[i].h := by rw [← h, List.getElem?_map, List.getElem?_eq_getElem hi]; rfl
  rw [List.getElem?_eq_getElem hi'] at this
  exact Option.some.inj this
theorem find_at {M Q : List Hq} {g : Int} (h : M.map (·.h) = Q.map (·.h)) (k : Nat) (hk : k < M.length) (y : Hd) (hy : y = M[k].h) (hg : y.g = g) (hno : ∀ i (hi : i < M.length), i < k → M[i].h.g ≠ g) : (Q.map (·.h)).find? (fun h => decide (h.g = g)) = some y := by
  have hl : (Q.map (·.h)).length = M.length := by rw [← h, List.length_map]
  have e := map_at h k hk (by omega)
  rw [find_first (show k < (Q.map (·.h)).length by omega) (by rw [e, ← hy]; exact hg) (fun i hi hik => by rw [map_at h i (by omega) hi]; exact hno i (by omega) hik), e, hy]
section
variable {M Q : List Hq} {L : List Vt} {c : Ch} (hk1 : c.k = 1 ∨ c.k = 2 ∨ c.k = 3) (h : M.map (·.h) = Q.map (·.h))
include hk1 h
theorem apply_bad (k : Nat) (hk : k < M.length) (y : Hd) (hy : y = M[k].h) (hg : y.g = c.g) (hno : ∀ i (hi : i < M.length), i < k → M[i].h.g ≠ c.g) (hb : false = (chgd y c).isSome) : apply ⟨Q.map (·.h), L⟩ c = (⟨[], []⟩, 3) := by
  have hn : chgd y c = none := by
    rcases he : chgd y c with _ | _
    · rfl
    · rw [he] at hb; cases hb
  unfold apply
  rw [if_pos hk1]
  dsimp only
  rw [find_at h k hk y hy hg hno]
  dsimp only
  rw [hn]
theorem apply_good (hah : asc ltH (Q.map (·.h)) = true) (k : Nat) (hk : k < M.length) (y : Hd) (hy : y = M[k].h) (hg : y.g = c.g) (hno : ∀ i (hi : i < M.length), i < k → M[i].h.g ≠ c.g) (hb : true = (chgd y c).isSome) {z : Hd} (hz : z = (chgd y c).getD y) (az : Ad) : apply ⟨Q.map (·.h), L⟩ c = (⟨(M.set k ⟨z, az⟩).map (·.h), L⟩, 0) := by
  have hn : chgd y c = some z := by
    rcases he : chgd y c with _ | z'
    · rw [he] at hb; cases hb
    · rw [hz, he]; rfl
  have hl : (Q.map (·.h)).length = M.length := by rw [← h, List.length_map]
  have e := map_at h k hk (by omega)
  unfold apply
  rw [if_pos hk1]
  dsimp only
  rw [find_at h k hk y hy hg hno]
  dsimp only
  rw [hn]
  dsimp only
  rw [ins_set hah (show k < (Q.map (·.h)).length by omega) (by rw [e, ← hy]; exact chgd_g hn), List.map_set, h]
theorem apply_none (hno : ∀ i (hi : i < M.length), M[i].h.g ≠ c.g) : apply ⟨Q.map (·.h), L⟩ c = (⟨[], []⟩, 6) := by
  have hl : (Q.map (·.h)).length = M.length := by rw [← h, List.length_map]
  unfold apply
  rw [if_pos hk1]
  dsimp only
  rw [find_none (fun i hi => by rw [map_at h i (by omega) hi]; exact hno i (by omega))]
end
theorem InVs.of_tag {w w' : World} {B N B' N' g c cv : Nat} {A : Option Addr} {L : List Vt} {M : List Hq} (h : InVs w B N A cv L) (hT : Turned (fun k => k = g) w w') (_ : Bl B' N' g) (h2 : InVs w B N' A cv L) (hr : InHs w B' N' (some ⟨g, 0, none⟩) c M) : InVs w' B N A cv L := by
  obtain ⟨cur, hcur⟩ := hr.row.tag rfl
  exact ⟨h.1.keep hT (fun k hk e => h.1.ne hcur (by decide) (by rw [hk, e])), h.2⟩
structure MidR (w W : World) (v1 v2 : Value) (c : Ch) (ac : Ad) (j : Ia) (nh : Nat) (V2 : Value) (b6 : Nat) (M : List Hq) (L : List Vt) (z : Hd) (az : Ad) (b8 : Nat) : Prop where
  zz : Az w W v1 v2 c ac j nh V2 b6 M
  vs : InVs W (w.heap.size + 3) b6 j.v j.cv L
  r8 : W.heap[b8]? = some (.cells #[.int .i64 z.g, .int .i64 z.t, .int .i64 z.v, .int .i64 z.p.log.base, .int .i64 z.p.log.term, .slice az.e z.p.log.es.length az.ce, .slice az.o z.p.cf.old.length az.co, .slice az.n z.p.cf.new.length az.cn, .slice az.l z.p.cf.lrn.length az.cl, .slice az.s z.p.sn.length az.cs] 75 (0, 0))
  pt : PtIn W (b6 + 1) W.heap.size z.p az
  lt : b6 < b8
set_option maxHeartbeats 12800000 in
theorem rApplyH_any (i : Ia) (nh nv : Nat) (Q : List Hq) (L : List Vt) (c : Ch) (ac : Ad) (hk : c.k = 1 ∨ c.k = 2 ∨ c.k = 3) (hnh : nh = Q.length) (hnv : nv = L.length) (hlh : nh ≤ 10000) (hlv : nv ≤ 10000) (hah : asc ltH (Q.map (·.h)) = true) (hfq : ∀ q ∈ Q, Rl.Ok q.h.p.log ∧ q.h.p.log.es.length ≤ 40000) (hfc : ((FewK c.p ∧ Rl.Few c.p.log.es) ∧ c.p.sn.length ≤ 140737488355328) ∧ c.p.log.es.length ≤ 40000) (hf : ∀ q ∈ Q, (FewK q.h.p ∧ Rl.Few q.h.p.log.es) ∧ q.h.p.sn.length ≤ 140737488355328) (w : World) (hh : IsHds w w.heap.size i.h Q) (hv : IsVs w w.heap.size i.v L) (hc : IsPt w w.heap.size c.p ac) (hnc : (InInt c.k ∧ InInt c.g ∧ InInt c.t ∧ InInt c.v ∧ InInt c.f) ∧ okV c.a) :
    Calls Tryz.prog 38 #[.agg #[.slice i.h nh i.ch, .slice i.v nv i.cv], .agg #[.int .i64 c.k, .int .i64 c.g, .int .i64 c.t, .int .i64 c.v, .int .i64 c.f, .int .i64 c.p.log.base, .int .i64 c.p.log.term, .slice ac.e c.p.log.es.length ac.ce, .slice ac.o c.p.cf.old.length ac.co, .slice ac.n c.p.cf.new.length ac.cn, .slice ac.l c.p.cf.lrn.length ac.cl, .slice ac.s c.p.sn.length ac.cs, .int .i64 c.a.x, .int .i64 c.a.p, .int .i64 c.a.r, .int .i64 c.a.b, .int .i64 c.a.v]] w (RefA w (apply ⟨Q.map (·.h), L⟩ c)) := by
  have HK := hid (And.intro hk (And.intro hah (And.intro hfc (And.intro hc hnc))))
  have HFQ : Hid (∀ h ∈ Q.map (·.h), ((FewK h.p ∧ Rl.Few h.p.log.es) ∧ h.p.sn.length ≤ 140737488355328) ∧ Rl.Ok h.p.log ∧ h.p.log.es.length ≤ 40000) := hid (fun h hm => by
    obtain ⟨q, hq, rfl⟩ := List.mem_map.1 hm
    exact ⟨hf q hq, hfq q hq⟩)
  have hk1 : ¬ c.k < 1 := by omega
  have hk4 : ¬ 4 < c.k := by omega
  have hk5 : (c.k == 4) = false := by
    have : c.k ≠ 4 := by omega
    simpa using this
  obtain ⟨wA, hwA⟩ : ∃ wA, wA = (((w.alloc (.cells #[.slice i.h nh i.ch, .slice i.v nv i.cv] 25)).alloc (.cells #[.int .i64 c.k, .int .i64 c.g, .int .i64 c.t, .int .i64 c.v, .int .i64 c.f, .int .i64 c.p.log.base, .int .i64 c.p.log.term, .slice ac.e c.p.log.es.length ac.ce, .slice ac.o c.p.cf.old.length ac.co, .slice ac.n c.p.cf.new.length ac.cn, .slice ac.l c.p.cf.lrn.length ac.cl, .slice ac.s c.p.sn.length ac.cs, .int .i64 c.a.x, .int .i64 c.a.p, .int .i64 c.a.r, .int .i64 c.a.b, .int .i64 c.a.v] 62)).alloc (.cells #[.slice none 0 0, .slice none 0 0] 25)) := ⟨_, rfl⟩
  have hg := ap_start w (.slice i.h nh i.ch) (.slice i.v nv i.cv) c ac
  rw [← hwA] at hg
  have hzA : wA.heap.size = w.heap.size + 3 := by rw [hwA]; simp
  have ldA := ldRow info_image2 Tryz.underlying25 rfl hg.r2 rfl
  have HCI := hid (copyIm_any i nh nv Q L hnh.symm hnv.symm hlh hlv hf wA ((hh.below hg.bel).more hg.bel.size) ((hv.below hg.bel).more hg.bel.size))
  have HG := hid (And.intro hg hzA)
  have HN := hid (And.intro hnh hnv)
  have HV0 := hid hv
  clear hk hah hfq hfc hc hnc
  rw [hwA] at ldA
  clear hg hzA hh hv hf hnh hnv
  go_enter Tryz.func38, Tryz.ntmps38
  go_wp2_with fail
  rw [← hwA]
  clear hwA ldA
  refine HCI.out.mono ?_
  rintro e w1 ⟨j, rfl, ⟨M, hM, ho⟩, hb1⟩
  obtain ⟨b6, hb6⟩ : ∃ b, b = w1.heap.size := ⟨_, rfl⟩
  obtain ⟨w2, hw2⟩ : ∃ w2, w2 = w1.alloc (.cells #[.slice j.h nh j.ch, .slice j.v nv j.cv] 25) := ⟨_, rfl⟩
  have st2 := stNew w1 25 2 info_image2 #[.slice none 0 0, .slice none 0 0] #[.slice j.h nh j.ch, .slice j.v nv j.cv] rfl rfl (by simp [Value.oneCell'])
  rw [← hw2] at st2
  have Z2 : Hid (Az w w2 (.slice i.h nh i.ch) (.slice i.v nv i.cv) c ac j nh (.slice j.v nv j.cv) b6 M ∧ InVs w2 (w.heap.size + 3) b6 j.v j.cv L) := hid (by
    obtain ⟨hg, hzA⟩ := HG.out
    have hb12 : Below w1.heap.size w1 w2 := by rw [hw2]; exact (Below.refl _ _).alloc (Nat.le_refl _) _
    have hb : Below wA.heap.size wA w2 := hb1.trans (hb12.mono hb1.size)
    have hz := hb1.size
    rw [hb6]
    refine ⟨⟨hg.grow hb, by rw [hw2]; exact heap_alloc_new w1 _, ?_, by omega⟩, ?_⟩
    · rw [← hzA]; exact ho.h.below hb12
    · rw [← hzA]; exact ho.v.below hb12)
  have HM := hid hM
  clear ho hb1 hM HG HCI hw2
  have k0 : w2.cell? ⟨w.heap.size + 1, 0, none⟩ = some (.int .i64 c.k) := row_cell Z2.out.1.ap.r3 0
  have HB6 := hid hb6
  have HML : Hid (M.length = nh) := hid (by have := congrArg List.length HM.out; rw [List.length_map, List.length_map] at this; have := HN.out.1; omega)
  clear hb6
  go_wp2_with fail
  try rw [← HB6.out]
  clear k0 st2 hk1 hk4 hk5
  go_loopw [10] (fun iv wr => ∃ (k : Nat), k ≤ nh ∧ iv = .int .i64 (k : Int) ∧ Hid ((Az w wr (.slice i.h nh i.ch) (.slice i.v nv i.cv) c ac j nh (.slice j.v nv j.cv) b6 M ∧ InVs wr (w.heap.size + 3) b6 j.v j.cv L) ∧ ∀ i (hi : i < M.length), i < k → M[i].h.g ≠ c.g)) (fun iv _ => nh - (RowKit.intOf iv).toNat)
  case atStart => exact ⟨0, Nat.zero_le _, rfl, hid ⟨Z2.out, fun i _ h => by omega⟩⟩
  case round =>
    clear Z2
    obtain ⟨k, hk, rfl, HQ⟩ := hrel
    have r60 := row_cell HQ.out.1.1.r6 0
    by_cases hlt : k < nh
    · have hlt0 : (k : Int) < (nh : Int) := by omega
      have hb0 : (0 : Int) ≤ (k : Int) := by omega
      have hkM : k < M.length := by have := HML.out; omega
      obtain ⟨g, hA⟩ : ∃ g, j.h = some ⟨g, 0, none⟩ := by
        obtain ⟨g, e, _⟩ := HQ.out.1.1.hs.row.get k hkM
        exact ⟨g, e⟩
      have hrow := HQ.out.1.1.hs.row
      rw [hA] at hrow r60
      have hrange := RowIn.range hrow k hkM
      obtain ⟨q, hq⟩ : ∃ q, q = M[k] := ⟨_, rfl⟩
      rw [← hq] at hrange
      obtain ⟨y, ay⟩ := q
      have gk : wr.cell? ⟨g, k * 10, none⟩ = some (.int .i64 y.g) := hrange 0 _ rfl
      have cg : wr.cell? ⟨w.heap.size + 1, 1, none⟩ = some (.int .i64 c.g) := row_cell HQ.out.1.1.ap.r3 1
      have HY := hid (And.intro hq (And.intro hA hrange))
      clear hrow hrange hlt hA hq
      by_cases hyg : y.g = c.g
      · have hyb : (y.g == c.g) = true := by simpa using hyg
        have HYG := hid hyg
        clear hyg
        go_wp2_with fail
        go_region
        obtain ⟨w1, hw1⟩ : ∃ w1, w1 = wr.drew := ⟨_, rfl⟩
        rw [← hw1]
        have H1 : Hid (Az w w1 (.slice i.h nh i.ch) (.slice i.v nv i.cv) c ac j nh (.slice j.v nv j.cv) b6 M ∧ InVs w1 (w.heap.size + 3) b6 j.v j.cv L ∧ w1.rangeAt g (k * 10) (cellsH ⟨y, ay⟩) ∧ g < b6) := hid (by
          have hb : Below wr.heap.size wr w1 := by rw [hw1]; exact (Below.refl _ _).drew
          have hgl : g < b6 := (HQ.out.1.1.hs.row.blk g (by rw [HY.out.2.1]; rfl)).2
          have h6 := row_lt HQ.out.1.1.r6
          exact ⟨HQ.out.1.1.grow hb, HQ.out.1.2.below (hb.mono (by omega)), fun jj v hv => (hb.cell (p := ⟨g, k * 10 + jj, none⟩) (by show g < _; omega)).trans (HY.out.2.2 jj v hv), hgl⟩)
        clear hw1 r60 gk cg hyb
        have LD : Hid (∀ W, Below w1.heap.size w1 W → (ldX 75 (.pointer (some ⟨g, k * 10, none⟩))).run Tryz.prog W = .ok (.agg #[.int .i64 y.g, .int .i64 y.t, .int .i64 y.v, .int .i64 y.p.log.base, .int .i64 y.p.log.term, .slice ay.e y.p.log.es.length ay.ce, .slice ay.o y.p.cf.old.length ay.co, .slice ay.n y.p.cf.new.length ay.cn, .slice ay.l y.p.cf.lrn.length ay.cl, .slice ay.s y.p.sn.length ay.cs]) W ∧ (ldX 62 (.pointer (some ⟨w.heap.size + 1, 0, none⟩))).run Tryz.prog W = .ok (.agg #[.int .i64 c.k, .int .i64 c.g, .int .i64 c.t, .int .i64 c.v, .int .i64 c.f, .int .i64 c.p.log.base, .int .i64 c.p.log.term, .slice ac.e c.p.log.es.length ac.ce, .slice ac.o c.p.cf.old.length ac.co, .slice ac.n c.p.cf.new.length ac.cn, .slice ac.l c.p.cf.lrn.length ac.cl, .slice ac.s c.p.sn.length ac.cs, .int .i64 c.a.x, .int .i64 c.a.p, .int .i64 c.a.r, .int .i64 c.a.b, .int .i64 c.a.v]) W ∧ W.cell? ⟨b6, 0, none⟩ = some (.slice (some ⟨g, 0, none⟩) nh j.ch)) := hid (fun W hb => by
          have z := H1.out.1.grow hb
          have h6 := row_lt H1.out.1.r6
          have hg6 := H1.out.2.2.2
          refine ⟨ldH W g (k * 10) (cellsH ⟨y, ay⟩) rfl (fun jj v hv => (hb.cell (p := ⟨g, k * 10 + jj, none⟩) (by show g < _; omega)).trans (H1.out.2.2.1 jj v hv)), ldRow info_change Tryz.underlying62 rfl z.ap.r3 rfl, ?_⟩
          have := row_cell z.r6 0
          rw [HY.out.2.1] at this
          exact this)
        have CH : Hid (∀ W, Below w1.heap.size w1 W → Calls Tryz.prog 97 #[.agg #[.int .i64 y.g, .int .i64 y.t, .int .i64 y.v, .int .i64 y.p.log.base, .int .i64 y.p.log.term, .slice ay.e y.p.log.es.length ay.ce, .slice ay.o y.p.cf.old.length ay.co, .slice ay.n y.p.cf.new.length ay.cn, .slice ay.l y.p.cf.lrn.length ay.cl, .slice ay.s y.p.sn.length ay.cs], .agg #[.int .i64 c.k, .int .i64 c.g, .int .i64 c.t, .int .i64 c.v, .int .i64 c.f, .int .i64 c.p.log.base, .int .i64 c.p.log.term, .slice ac.e c.p.log.es.length ac.ce, .slice ac.o c.p.cf.old.length ac.co, .slice ac.n c.p.cf.new.length ac.cn, .slice ac.l c.p.cf.lrn.length ac.cl, .slice ac.s c.p.sn.length ac.cs, .int .i64 c.a.x, .int .i64 c.a.p, .int .i64 c.a.r, .int .i64 c.a.b, .int .i64 c.a.v]] W (TurnPost y c W)) := hid (fun W hb => by
          obtain ⟨hk, hah, hfc, hc, hnc⟩ := HK.out
          have z := H1.out.1.grow hb
          have hym : (⟨y, ay⟩ : Hq) ∈ M := by rw [HY.out.1]; exact List.getElem_mem _
          have hyq : y ∈ Q.map (·.h) := by rw [← HM.out]; exact List.mem_map.2 ⟨_, hym, rfl⟩
          obtain ⟨f1, f2, f3⟩ := HFQ.out y hyq
          have hl6 := row_lt z.r6
          exact rTurned_any y ay c ac hk f2 f1 hfc.1 ⟨f3, hfc.2⟩ W ((z.hs.pts _ hym).reads.more (by omega)) (hc.low z.ap.bel) (z.hs.num _ hym) hnc)
        obtain ⟨l0, l1, l2⟩ := LD.out w1 (Below.refl _ _)
        obtain ⟨m0, m1, m2⟩ := LD.out w1.drew (Below.refl _ _).drew
        go_wp2_with fail
        go_region_held3 (fun W => (ldX 75 (.pointer (some ⟨g, k * 10, none⟩))).run Tryz.prog W = .ok (.agg #[.int .i64 y.g, .int .i64 y.t, .int .i64 y.v, .int .i64 y.p.log.base, .int .i64 y.p.log.term, .slice ay.e y.p.log.es.length ay.ce, .slice ay.o y.p.cf.old.length ay.co, .slice ay.n y.p.cf.new.length ay.cn, .slice ay.l y.p.cf.lrn.length ay.cl, .slice ay.s y.p.sn.length ay.cs]) W ∧ (ldX 62 (.pointer (some ⟨w.heap.size + 1, 0, none⟩))).run Tryz.prog W = .ok (.agg #[.int .i64 c.k, .int .i64 c.g, .int .i64 c.t, .int .i64 c.v, .int .i64 c.f, .int .i64 c.p.log.base, .int .i64 c.p.log.term, .slice ac.e c.p.log.es.length ac.ce, .slice ac.o c.p.cf.old.length ac.co, .slice ac.n c.p.cf.new.length ac.cn, .slice ac.l c.p.cf.lrn.length ac.cl, .slice ac.s c.p.sn.length ac.cs, .int .i64 c.a.x, .int .i64 c.a.p, .int .i64 c.a.r, .int .i64 c.a.b, .int .i64 c.a.v]) W ∧ W.cell? ⟨b6, 0, none⟩ = some (.slice (some ⟨g, 0, none⟩) nh j.ch))
          (first | with_reducible exact ⟨l0, l1, l2⟩ | with_reducible exact ⟨m0, m1, m2⟩ | with_reducible exact e3 | with_reducible exact e4 | with_reducible exact LD.out _ (HB3.out.alloc HB3.out.size _) | with_reducible exact LD.out _ (((Below.refl _ w1).alloc (Nat.le_refl _) _).drew) | fail)
          (first
            | (go_at_call 97; refine (CH.out _ (Below.refl _ _).drew).mono ?_; rintro e w3 ⟨z, az, bo, rfl, hbo, hz, hpt, hnum, hb3⟩; have HZZ := hid (And.intro hz (And.intro hnum hbo)); clear hz hnum hbo; have HB3 : Hid (Below w1.heap.size w1 w3) := hid ((Below.refl _ w1).drew.trans hb3); have e3 := LD.out w3 HB3.out; have hsn := stNew w3 75 10 info_hard #[.int .i64 0, .int .i64 0, .int .i64 0, .int .i64 0, .int .i64 0, .slice none 0 0, .slice none 0 0, .slice none 0 0, .slice none 0 0, .slice none 0 0] #[.int .i64 z.g, .int .i64 z.t, .int .i64 z.v, .int .i64 z.p.log.base, .int .i64 z.p.log.term, .slice az.e z.p.log.es.length az.ce, .slice az.o z.p.cf.old.length az.co, .slice az.n z.p.cf.new.length az.cn, .slice az.l z.p.cf.lrn.length az.cl, .slice az.s z.p.sn.length az.cs] rfl rfl (by simp [Value.oneCell']))
            | (go_at_call 97; refine (CH.out _ (((Below.refl _ w1).alloc (Nat.le_refl _) _).drew)).mono ?_; rintro e w3 ⟨z, az, bo, rfl, hbo, hz, hpt, hnum, hb3⟩; have HZZ := hid (And.intro hz (And.intro hnum hbo)); clear hz hnum hbo; have HB3 : Hid (Below w1.heap.size w1 w3) := hid ((((Below.refl _ w1).alloc (Nat.le_refl _) _).drew).trans (hb3.mono (by simp))); have e3 := LD.out w3 HB3.out; have hr8 : w3.heap[w1.heap.size]? = some (.cells #[.int .i64 0, .int .i64 0, .int .i64 0, .int .i64 0, .int .i64 0, .slice none 0 0, .slice none 0 0, .slice none 0 0, .slice none 0 0, .slice none 0 0] 75 (0, 0)) := (hb3.block _ (by simp)).trans (heap_alloc_new w1 _); have hst8 := stRow info_hard (cs' := #[.int .i64 z.g, .int .i64 z.t, .int .i64 z.v, .int .i64 z.p.log.base, .int .i64 z.p.log.term, .slice az.e z.p.log.es.length az.ce, .slice az.o z.p.cf.old.length az.co, .slice az.n z.p.cf.new.length az.cn, .slice az.l z.p.cf.lrn.length az.cl, .slice az.s z.p.sn.length az.cs]) hr8 rfl rfl (by simp [Value.oneCell']); have e4 := LD.out (w3.setRow w1.heap.size #[.int .i64 z.g, .int .i64 z.t, .int .i64 z.v, .int .i64 z.p.log.base, .int .i64 z.p.log.term, .slice az.e z.p.log.es.length az.ce, .slice az.o z.p.cf.old.length az.co, .slice az.n z.p.cf.new.length az.cn, .slice az.l z.p.cf.lrn.length az.cl, .slice az.s z.p.sn.length az.cs]) (HB3.out.trans ((row_turned w3 w1.heap.size #[.int .i64 z.g, .int .i64 z.t, .int .i64 z.v, .int .i64 z.p.log.base, .int .i64 z.p.log.term, .slice az.e z.p.log.es.length az.ce, .slice az.o z.p.cf.old.length az.co, .slice az.n z.p.cf.new.length az.cn, .slice az.l z.p.cf.lrn.length az.cl, .slice az.s z.p.sn.length az.cs]).below HB3.out.size (fun k hk => by omega))); have HR8 := hid (setRow_heap w3 w1.heap.size _ #[.int .i64 z.g, .int .i64 z.t, .int .i64 z.v, .int .i64 z.p.log.base, .int .i64 z.p.log.term, .slice az.e z.p.log.es.length az.ce, .slice az.o z.p.cf.old.length az.co, .slice az.n z.p.cf.new.length az.cn, .slice az.l z.p.cf.lrn.length az.cl, .slice az.s z.p.sn.length az.cs] _ _ hr8); clear hr8)
            | fail)
        all_goals
          clear l0 l1 l2 m0 m1 m2 e3
          have h16 := row_lt H1.out.1.r6
          first
            | (have HMD : Hid (MidR w (w3.alloc (.cells #[.int .i64 z.g, .int .i64 z.t, .int .i64 z.v, .int .i64 z.p.log.base, .int .i64 z.p.log.term, .slice az.e z.p.log.es.length az.ce, .slice az.o z.p.cf.old.length az.co, .slice az.n z.p.cf.new.length az.cn, .slice az.l z.p.cf.lrn.length az.cl, .slice az.s z.p.sn.length az.cs] 75)) (.slice i.h nh i.ch) (.slice i.v nv i.cv) c ac j nh (.slice j.v nv j.cv) b6 M L z az w3.heap.size) := hid (by
                 have hb4 : Below w3.heap.size w3 (w3.alloc (.cells #[.int .i64 z.g, .int .i64 z.t, .int .i64 z.v, .int .i64 z.p.log.base, .int .i64 z.p.log.term, .slice az.e z.p.log.es.length az.ce, .slice az.o z.p.cf.old.length az.co, .slice az.n z.p.cf.new.length az.cn, .slice az.l z.p.cf.lrn.length az.cl, .slice az.s z.p.sn.length az.cs] 75)) := (Below.refl _ w3).alloc (Nat.le_refl _) _
                 have hbb := HB3.out.trans (hb4.mono HB3.out.size)
                 have hs1 : w1.heap.size ≤ w3.heap.size := HB3.out.size
                 exact ⟨H1.out.1.grow hbb, H1.out.2.1.below (hbb.mono (by omega)), heap_alloc_new w3 _, (hpt.below hb4).wide (by show b6 + 1 ≤ w1.heap.size; omega) hb4.size, by omega⟩)
               generalize w3.alloc (.cells #[.int .i64 z.g, .int .i64 z.t, .int .i64 z.v, .int .i64 z.p.log.base, .int .i64 z.p.log.term, .slice az.e z.p.log.es.length az.ce, .slice az.o z.p.cf.old.length az.co, .slice az.n z.p.cf.new.length az.cn, .slice az.l z.p.cf.lrn.length az.cl, .slice az.s z.p.sn.length az.cs] 75) = w4 at *
               generalize w3.heap.size = b8 at *)
            | (have HMD : Hid (MidR w (w3.setRow w1.heap.size #[.int .i64 z.g, .int .i64 z.t, .int .i64 z.v, .int .i64 z.p.log.base, .int .i64 z.p.log.term, .slice az.e z.p.log.es.length az.ce, .slice az.o z.p.cf.old.length az.co, .slice az.n z.p.cf.new.length az.cn, .slice az.l z.p.cf.lrn.length az.cl, .slice az.s z.p.sn.length az.cs]) (.slice i.h nh i.ch) (.slice i.v nv i.cv) c ac j nh (.slice j.v nv j.cv) b6 M L z az w1.heap.size) := hid (by
                 have ht4 := row_turned w3 w1.heap.size #[.int .i64 z.g, .int .i64 z.t, .int .i64 z.v, .int .i64 z.p.log.base, .int .i64 z.p.log.term, .slice az.e z.p.log.es.length az.ce, .slice az.o z.p.cf.old.length az.co, .slice az.n z.p.cf.new.length az.cn, .slice az.l z.p.cf.lrn.length az.cl, .slice az.s z.p.sn.length az.cs]
                 have hbb : Below w1.heap.size w1 (w3.setRow w1.heap.size #[.int .i64 z.g, .int .i64 z.t, .int .i64 z.v, .int .i64 z.p.log.base, .int .i64 z.p.log.term, .slice az.e z.p.log.es.length az.ce, .slice az.o z.p.cf.old.length az.co, .slice az.n z.p.cf.new.length az.cn, .slice az.l z.p.cf.lrn.length az.cl, .slice az.s z.p.sn.length az.cs]) := HB3.out.trans (ht4.below HB3.out.size (fun k hk => by omega))
                 exact ⟨H1.out.1.grow hbb, H1.out.2.1.below (hbb.mono (by omega)), HR8.out, (hpt.keep ht4 (fun k hk hB => by have h1 := hB.1; simp at h1; omega)).wide (by simp; omega) ht4.size, h16⟩)
               generalize w3.setRow w1.heap.size #[.int .i64 z.g, .int .i64 z.t, .int .i64 z.v, .int .i64 z.p.log.base, .int .i64 z.p.log.term, .slice az.e z.p.log.es.length az.ce, .slice az.o z.p.cf.old.length az.co, .slice az.n z.p.cf.new.length az.cn, .slice az.l z.p.cf.lrn.length az.cl, .slice az.s z.p.sn.length az.cs] = w4 at *
               generalize w1.heap.size = b8 at *)
          have hmd := HMD.out
          have k60 : w4.cell? ⟨b6, 0, none⟩ = some (.slice (some ⟨g, 0, none⟩) nh j.ch) := by
            have := row_cell hmd.zz.r6 0
            rw [HY.out.2.1] at this
            exact this
          have l8 := ldRow info_hard Tryz.underlying75 rfl hmd.r8 rfl
          have hrow4 := hmd.zz.hs.row
          rw [HY.out.2.1] at hrow4
          have hth := RowIn.there hrow4 k hkM
          have sto := stSame info_image2 hmd.zz.ap.r4 rfl (by simp [Value.oneCell'])
          cases bo with
          | false =>
            have HV : Hid (apply ⟨Q.map (·.h), L⟩ c = (⟨[], []⟩, 3)) := hid (apply_bad HK.out.1 HM.out k hkM y (by rw [← HY.out.1]) HYG.out HQ.out.2 HZZ.out.2.2)
            clear l8 hth hrow4 k60
            go_wp2_with fail
            refine bodyPost_ret (results_two rfl info_image2 Tryz.underlying25 rfl _ _ (w.heap.size + 1 + 1) _ _ _ rfl HMD.out.zz.ap.r4 rfl) rfl ?_
            exact refA_none 3 HMD.out.zz.ap.bel HV.out
          | true =>
            have hst := stAt info_hard hth #[.int .i64 z.g, .int .i64 z.t, .int .i64 z.v, .int .i64 z.p.log.base, .int .i64 z.p.log.term, .slice az.e z.p.log.es.length az.ce, .slice az.o z.p.cf.old.length az.co, .slice az.n z.p.cf.new.length az.cn, .slice az.l z.p.cf.lrn.length az.cl, .slice az.s z.p.sn.length az.cs] rfl (by simp [Value.oneCell'])
            have hst' : (stX 75 (.pointer (some ⟨g, k * 10, none⟩)) (.agg #[.int .i64 z.g, .int .i64 z.t, .int .i64 z.v, .int .i64 z.p.log.base, .int .i64 z.p.log.term, .slice az.e z.p.log.es.length az.ce, .slice az.o z.p.cf.old.length az.co, .slice az.n z.p.cf.new.length az.cn, .slice az.l z.p.cf.lrn.length az.cl, .slice az.s z.p.sn.length az.cs])).run Tryz.prog w4 = .ok () (w4.setCells g (k * 10) (cellsH ⟨z, az⟩)) := hst
            obtain ⟨w5, hw5⟩ : ∃ w5, w5 = w4.setCells g (k * 10) (cellsH ⟨z, az⟩) := ⟨_, rfl⟩
            rw [← hw5] at hst'
            have H5 : Hid (Ap w (.slice i.h nh i.ch) (.slice i.v nv i.cv) c ac w5 ∧ w5.heap[b6]? = some (.cells #[.slice j.h nh j.ch, .slice j.v nv j.cv] 25 (0, 0)) ∧ InHs w5 (w.heap.size + 3) w5.heap.size j.h j.ch (M.set k ⟨z, az⟩) ∧ InVs w5 (w.heap.size + 3) w5.heap.size j.v j.cv L ∧ b6 < w5.heap.size) := hid (by
              have hmd := HMD.out
              have hT := turned_setCells g (cellsH ⟨z, az⟩) w4 (k * 10)
              rw [← hw5] at hT
              have hhs := hmd.zz.hs
              rw [HY.out.2.1] at hhs
              have hgB := hhs.row.blk g rfl
              have hg1 := hgB.1
              have hg2 := hgB.2
              have h6 := row_lt hmd.zz.r6
              have hz5 := hT.size
              have hl := hmd.zz.lt
              refine ⟨⟨hmd.zz.ap.bel.trans (hT.below hmd.zz.ap.bel.size (fun k hk => by omega)), (hT.block _ (by omega) (by omega)).trans hmd.zz.ap.r2, (hT.block _ (by omega) (by omega)).trans hmd.zz.ap.r3, (hT.block _ (by omega) (by omega)).trans hmd.zz.ap.r4⟩, (hT.block _ h6 (by omega)).trans hmd.zz.r6, ?_, (hmd.vs.wide (Nat.le_refl _) (show b6 ≤ w5.heap.size by omega)).of_tag hT hgB hmd.vs hhs, by omega⟩
              rw [HY.out.2.1, hw5]
              exact hhs.setAt k hkM z az hmd.pt (by omega) (by rw [← hw5]; omega) (by rw [← hw5]; exact hz5) HZZ.out.2.1)
            have ldo := ldRow info_image2 Tryz.underlying25 rfl H5.out.2.1 rfl
            have str := stRow info_image2 (cs' := #[.slice j.h nh j.ch, .slice j.v nv j.cv]) H5.out.1.r4 rfl rfl (by simp [Value.oneCell'])
            have r9 := setRow_heap w5 (w.heap.size + 1 + 1) _ #[.slice j.h nh j.ch, .slice j.v nv j.cv] _ _ H5.out.1.r4
            have t9 := row_turned w5 (w.heap.size + 1 + 1) #[.slice j.h nh j.ch, .slice j.v nv j.cv]
            obtain ⟨w9, hw9⟩ : ∃ w9, w9 = w5.setRow (w.heap.size + 1 + 1) #[.slice j.h nh j.ch, .slice j.v nv j.cv] := ⟨_, rfl⟩
            rw [← hw9] at str r9 t9
            have H9 : Hid (w9.heap[w.heap.size + 1 + 1]? = some (.cells #[.slice j.h nh j.ch, .slice j.v nv j.cv] 25 (0, 0)) ∧ InIm w9 w.heap.size w9.heap.size j (M.set k ⟨z, az⟩) L ∧ Below w.heap.size w w9) := hid (by
              obtain ⟨ha, h6, hs, hv, hl⟩ := H5.out
              have hz := t9.size
              exact ⟨r9, ⟨(hs.keep t9 (fun k hk hB => by have := hB.1; omega)).wide (by omega) hz, (hv.keep t9 (fun k hk hB => by have := hB.1; omega)).wide (by omega) hz⟩, ha.bel.trans (t9.below ha.bel.size (fun k hk => by omega))⟩)
            have HV : Hid (apply ⟨Q.map (·.h), L⟩ c = (⟨(M.set k ⟨z, az⟩).map (·.h), L⟩, 0)) := hid (apply_good HK.out.1 HM.out HK.out.2.1 k hkM y (by rw [← HY.out.1]) HYG.out HQ.out.2 HZZ.out.2.2 HZZ.out.1 az)
            clear hst hth hrow4 r9 t9 hw9 hw5 sto
            go_wp2_with fail
            refine bodyPost_ret (results_two rfl info_image2 Tryz.underlying25 rfl _ _ (w.heap.size + 1 + 1) _ _ _ rfl H9.out.1 rfl) rfl ?_
            unfold RefA
            rw [HV.out]
            exact ⟨j, nh, nv, 0, rfl, rfl, ⟨M.set k ⟨z, az⟩, L, ⟨by rw [List.length_set]; exact HML.out.symm, HN.out.2⟩, H9.out.2.1, rfl⟩, H9.out.2.2⟩
      · have hyb : (y.g == c.g) = false := by simpa using hyg
        have HYG := hid hyg
        clear hyg
        go_wp2_with fail
        go_region
        obtain ⟨w1, hw1⟩ : ∃ w1, w1 = wr.drew := ⟨_, rfl⟩
        rw [← hw1]
        have HF : Hid ((Az w w1 (.slice i.h nh i.ch) (.slice i.v nv i.cv) c ac j nh (.slice j.v nv j.cv) b6 M ∧ InVs w1 (w.heap.size + 3) b6 j.v j.cv L) ∧ ∀ i (hi : i < M.length), i < k + 1 → M[i].h.g ≠ c.g) := hid (by
          have hb : Below wr.heap.size wr w1 := by rw [hw1]; exact (Below.refl _ _).drew
          have h6 := row_lt HQ.out.1.1.r6
          refine ⟨⟨HQ.out.1.1.grow hb, HQ.out.1.2.below (hb.mono (by omega))⟩, fun ii hi hik => ?_⟩
          by_cases e : ii = k
          · subst e
            rw [← HY.out.1]
            exact HYG.out
          · exact HQ.out.2 ii hi (by omega))
        clear hw1 r60 gk cg hyb HQ
        go_wp2_with fail
        go_roundw
        case rel => exact ⟨k + 1, by omega, by go_num, HF⟩
        case measure => simp [RowKit.intOf]; omega
    · obtain rfl : k = nh := by omega
      have hlt0 : ¬ (k : Int) < (k : Int) := by omega
      have HV : Hid (apply ⟨Q.map (·.h), L⟩ c = (⟨[], []⟩, 6)) := hid (apply_none HK.out.1 HM.out (fun i hi => HQ.out.2 i hi (by have := HML.out; omega)))
      have sto := stSame info_image2 HQ.out.1.1.ap.r4 rfl (by simp [Value.oneCell'])
      go_wp2_with fail
      refine bodyPost_ret (results_two rfl info_image2 Tryz.underlying25 rfl _ _ (w.heap.size + 1 + 1) _ _ _ rfl HQ.out.1.1.ap.r4 rfl) rfl ?_
      exact refA_none 6 HQ.out.1.1.ap.bel HV.out
theorem rApply_any (i : Ia) (nh nv : Nat) (Q : List Hq) (L : List Vt) (c : Ch) (ac : Ad) (hnh : nh = Q.length) (hnv : nv = L.length) (hlh : nh ≤ 10000) (hlv : nv ≤ 10000) (hah : asc ltH (Q.map (·.h)) = true) (hav : asc ltV L = true) (hf : ∀ q ∈ Q, (FewK q.h.p ∧ Rl.Few q.h.p.log.es) ∧ q.h.p.sn.length ≤ 140737488355328) (hfq : ∀ q ∈ Q, Rl.Ok q.h.p.log ∧ q.h.p.log.es.length ≤ 40000) (hfc : ((FewK c.p ∧ Rl.Few c.p.log.es) ∧ c.p.sn.length ≤ 140737488355328) ∧ c.p.log.es.length ≤ 40000) (w : World) (hh : IsHds w w.heap.size i.h Q) (hv : IsVs w w.heap.size i.v L) (hc : IsPt w w.heap.size c.p ac) (hnc : (InInt c.k ∧ InInt c.g ∧ InInt c.t ∧ InInt c.v ∧ InInt c.f) ∧ okV c.a) :
    Calls Tryz.prog 38 #[.agg #[.slice i.h nh i.ch, .slice i.v nv i.cv], .agg #[.int .i64 c.k, .int .i64 c.g, .int .i64 c.t, .int .i64 c.v, .int .i64 c.f, .int .i64 c.p.log.base, .int .i64 c.p.log.term, .slice ac.e c.p.log.es.length ac.ce, .slice ac.o c.p.cf.old.length ac.co, .slice ac.n c.p.cf.new.length ac.cn, .slice ac.l c.p.cf.lrn.length ac.cl, .slice ac.s c.p.sn.length ac.cs, .int .i64 c.a.x, .int .i64 c.a.p, .int .i64 c.a.r, .int .i64 c.a.b, .int .i64 c.a.v]] w (RefA w (apply ⟨Q.map (·.h), L⟩ c)) := by
  by_cases h1 : c.k = 1 ∨ c.k = 2 ∨ c.k = 3
  · exact rApplyH_any i nh nv Q L c ac h1 hnh hnv hlh hlv hah hfq hfc hf w hh hv hc hnc
  · by_cases h4 : c.k = 4
    · exact rApply4_any i nh nv Q L c ac h4 hnh hnv hlh hlv hav hf w hh hv hnc.2
    · exact rApply0_any i nh nv Q L c ac (by omega) hnh hnv hlh hlv hf w hh hv
end Go.Proofs.YtaeoccpjdjafnaaGreat.Im
namespace Go.Proofs.YtaeoccpjdjafnaaGreat.Im
open Go Go.RowKit
open Rl (En Lg)
open Qu (Cf)
set_option maxRecDepth 100000
set_option linter.unusedVariables false
local instance lo34 : Lo := ⟨0⟩
theorem apply_err {x : Im} {c : Ch} (h : (apply x c).2 ≠ 0) : (apply x c).1 = ⟨[], []⟩ := by
  unfold apply at *
  split at h
  · rename_i h1
    rw [if_pos h1]
    rcases hf : x.hs.find? (fun h => decide (h.g = c.g)) with _ | h0
    · rw [hf]
    · rw [hf] at h ⊢
      dsimp only at h ⊢
      rcases hy : chgd h0 c with _ | y
      · rfl
      · rw [hy] at h
        exact absurd rfl h
  · rename_i h1
    rw [if_neg h1]
    split at h
    · exact absurd rfl h
    · rename_i h4
      rw [if_neg h4]
theorem Sm.mono {n m : Nat} {x : Im} (h : Sm n x) (hnm : n ≤ m) : Sm m x := ⟨h.hn, by have := h.vn; omega, fun z hz => (h.p z hz).mono hnm, h.so⟩
theorem sm_any {n : Nat} {x : Im} {c : Ch} (h : Sm n x) (hc : bigPt c.p = false) : Sm (n + 1) (apply x c).1 := by
  by_cases e : (apply x c).2 = 0
  · exact sm_apply h hc e
  · rw [apply_err e]
    exact ⟨Nat.zero_le _, Nat.zero_le _, fun z hz => (by cases hz), rfl, rfl⟩
theorem smP_few {n : Nat} {p : Pt} (h : SmP n p) (hn : n ≤ 21) : ((FewK p ∧ Rl.Few p.log.es) ∧ p.sn.length ≤ 140737488355328) ∧ FewP p ∧ p.log.es.length ≤ 20000 := by
  obtain ⟨h1, h2, ⟨h3, h4, h5⟩, h6⟩ := h
  exact ⟨⟨⟨⟨by omega, by omega, by omega, by omega⟩, fun e he => by have := h2 e he; omega⟩, by omega⟩, ⟨by omega, fun e he => by have := h2 e he; omega, by omega, by omega, by omega, by omega⟩, by omega⟩
structure TuC (w W : World) (B b5 : Nat) (i : Ia) (nh nv : Nat) (Q : List Hq) (L : List Vt) (A1 : Option Addr) (l1 : List Cq) (g o : Nat) (y : Ch) (ay : Ad) : Prop where
  bel : Below w.heap.size w W
  r5 : W.heap[b5]? = some (.cells #[.slice i.h nh i.ch, .slice i.v nv i.cv] 25 (0, 0))
  hs : IsHds W B i.h Q
  vs : IsVs W B i.v L
  cs : IsCs W B A1 l1
  rg : W.rangeAt g o (cellsC ⟨y, ay⟩)
  pt : IsPt W B y.p ay
  lt : b5 < B ∧ g < B ∧ B ≤ W.heap.size ∧ w.heap.size ≤ B
theorem TuC.to {w W W' : World} {B b5 : Nat} {i : Ia} {nh nv : Nat} {Q : List Hq} {L : List Vt} {A1 : Option Addr} {l1 : List Cq} {g o : Nat} {y : Ch} {ay : Ad} (h : TuC w W B b5 i nh nv Q L A1 l1 g o y ay) (hb : Below B W W') : TuC w W' B b5 i nh nv Q L A1 l1 g o y ay := by
  obtain ⟨l1, l2, l3, l4⟩ := h.lt
  exact ⟨h.bel.trans (hb.mono l4), (hb.block _ l1).trans h.r5, h.hs.below hb, h.vs.below hb, h.cs.below hb, fun j v hv => (hb.cell (p := ⟨g, o + j, none⟩) l2).trans (h.rg j v hv), h.pt.below hb, ⟨l1, l2, Nat.le_trans l3 hb.size, l4⟩⟩
theorem TuC.ld {w W : World} {B b5 : Nat} {i : Ia} {nh nv : Nat} {Q : List Hq} {L : List Vt} {A1 : Option Addr} {l1 : List Cq} {g o : Nat} {y : Ch} {ay : Ad} (h : TuC w W B b5 i nh nv Q L A1 l1 g o y ay) : (ldX 62 (.pointer (some ⟨g, o, none⟩))).run Tryz.prog W = .ok (.agg #[.int .i64 y.k, .int .i64 y.g, .int .i64 y.t, .int .i64 y.v, .int .i64 y.f, .int .i64 y.p.log.base, .int .i64 y.p.log.term, .slice ay.e y.p.log.es.length ay.ce, .slice ay.o y.p.cf.old.length ay.co, .slice ay.n y.p.cf.new.length ay.cn, .slice ay.l y.p.cf.lrn.length ay.cl, .slice ay.s y.p.sn.length ay.cs, .int .i64 y.a.x, .int .i64 y.a.p, .int .i64 y.a.r, .int .i64 y.a.b, .int .i64 y.a.v]) W ∧ (ldX 25 (.pointer (some ⟨b5, 0, none⟩))).run Tryz.prog W = .ok (.agg #[.slice i.h nh i.ch, .slice i.v nv i.cv]) W :=
  ⟨ldC W g o (cellsC ⟨y, ay⟩) rfl h.rg, ldRow info_image2 Tryz.underlying25 rfl h.r5 rfl⟩
structure TuM (W : World) (b7 b8 lo s3 s5 : Nat) (j : Ia) (nh nv : Nat) (M : List Hq) (L : List Vt) (y : Ch) (a : Ad) : Prop where
  r7 : W.heap[b7]? = some (.cells #[.slice j.h nh j.ch, .slice j.v nv j.cv] 25 (0, 0))
  h7 : InIm W s3 b7 j M L
  r8 : W.heap[b8]? = some (.cells #[.int .i64 y.k, .int .i64 y.g, .int .i64 y.t, .int .i64 y.v, .int .i64 y.f, .int .i64 y.p.log.base, .int .i64 y.p.log.term, .slice a.e y.p.log.es.length a.ce, .slice a.o y.p.cf.old.length a.co, .slice a.n y.p.cf.new.length a.cn, .slice a.l y.p.cf.lrn.length a.cl, .slice a.s y.p.sn.length a.cs, .int .i64 y.a.x, .int .i64 y.a.p, .int .i64 y.a.r, .int .i64 y.a.b, .int .i64 y.a.v] 62 (0, 0))
  p8 : PtIn W s5 b8 y.p a
  lt : s3 ≤ b7 ∧ b7 < s5 ∧ s5 ≤ b8 ∧ b8 < lo
theorem TuM.to {W W' : World} {b7 b8 lo s3 s5 : Nat} {j : Ia} {nh nv : Nat} {M : List Hq} {L : List Vt} {y : Ch} {a : Ad} (h : TuM W b7 b8 lo s3 s5 j nh nv M L y a) (ht : Turned (fun k => lo ≤ k) W W') : TuM W' b7 b8 lo s3 s5 j nh nv M L y a := by
  obtain ⟨l1, l2, l3, l4⟩ := h.lt
  exact ⟨(ht.block _ (row_lt h.r7) (by omega)).trans h.r7, h.h7.keep ht (fun k hk hB => by have := hB.2; omega), (ht.block _ (row_lt h.r8) (by omega)).trans h.r8, h.p8.keep ht (fun k hk hB => by have := hB.2; omega), h.lt⟩
theorem TuM.ld {W : World} {b7 b8 lo s3 s5 : Nat} {j : Ia} {nh nv : Nat} {M : List Hq} {L : List Vt} {y : Ch} {a : Ad} (h : TuM W b7 b8 lo s3 s5 j nh nv M L y a) : (ldX 25 (.pointer (some ⟨b7, 0, none⟩))).run Tryz.prog W = .ok (.agg #[.slice j.h nh j.ch, .slice j.v nv j.cv]) W ∧ (ldX 62 (.pointer (some ⟨b8, 0, none⟩))).run Tryz.prog W = .ok (.agg #[.int .i64 y.k, .int .i64 y.g, .int .i64 y.t, .int .i64 y.v, .int .i64 y.f, .int .i64 y.p.log.base, .int .i64 y.p.log.term, .slice a.e y.p.log.es.length a.ce, .slice a.o y.p.cf.old.length a.co, .slice a.n y.p.cf.new.length a.cn, .slice a.l y.p.cf.lrn.length a.cl, .slice a.s y.p.sn.length a.cs, .int .i64 y.a.x, .int .i64 y.a.p, .int .i64 y.a.r, .int .i64 y.a.b, .int .i64 y.a.v]) W :=
  ⟨ldRow info_image2 Tryz.underlying25 rfl h.r7 rfl, ldRow info_change Tryz.underlying62 rfl h.r8 rfl⟩
structure TuZ (W : World) (b11 s9 : Nat) (iz : Ia) (nh nv : Nat) (Qz : List Hq) (Lz : List Vt) : Prop where
  r11 : W.heap[b11]? = some (.cells #[.slice iz.h nh iz.ch, .slice iz.v nv iz.cv] 25 (0, 0))
  z : InIm W s9 W.heap.size iz Qz Lz
  lt : s9 ≤ b11
theorem TuZ.to {W W' : World} {b11 s9 : Nat} {iz : Ia} {nh nv : Nat} {Qz : List Hq} {Lz : List Vt} (h : TuZ W b11 s9 iz nh nv Qz Lz) {S : Nat → Prop} (hS : ∀ k, S k → k < s9 ∨ W.heap.size ≤ k) (ht : Turned S W W') : TuZ W' b11 s9 iz nh nv Qz Lz :=
  ⟨(ht.block _ (row_lt h.r11) (fun e => by have := hS _ e; have := row_lt h.r11; have := h.lt; omega)).trans h.r11, (h.z.keep ht (fun k hk hB => by have := hS _ hk; have := hB.1; have := hB.2; omega)).wide (Nat.le_refl _) ht.size, h.lt⟩
end Go.Proofs.YtaeoccpjdjafnaaGreat.Im
namespace Go.Proofs.YtaeoccpjdjafnaaGreat
open Go.RowKit
set_option maxRecDepth 100000
theorem u64_wrap (v : Int) : IntKind.u64.wrap v = v % 18446744073709551616 := by simp [IntKind.wrap, IntKind.signed, IntKind.bits]
def lows (v : Int) (k : Nat) : List Nat := (List.range k).map (Pk.byteOf v)
theorem lows_length (v : Int) (k : Nat) : (lows v k).length = k := by simp [lows]
theorem lows_snoc (v : Int) (k : Nat) : lows v (k + 1) = lows v k ++ [Pk.byteOf v k] := by unfold lows; rw [List.range_succ, List.map_append]; rfl
theorem lows_get (v : Int) (k i : Nat) (h : i < (lows v k).length) : (lows v k)[i] = Pk.byteOf v i := by simp [lows]
theorem low_byte (v : Int) (k : Nat) (h : k < 8) : (v % 18446744073709551616) / 2 ^ (8 * k) % 256 = (Pk.byteOf v k : Nat) := by
  rw [byteOf_val]
  match k, h with
  | 0, _ => simp only [Nat.reduceMul, Int.reducePow]; omega
  | 1, _ => simp only [Nat.reduceMul, Int.reducePow]; omega
  | 2, _ => simp only [Nat.reduceMul, Int.reducePow]; omega
  | 3, _ => simp only [Nat.reduceMul, Int.reducePow]; omega
  | 4, _ => simp only [Nat.reduceMul, Int.reducePow]; omega
  | 5, _ => simp only [Nat.reduceMul, Int.reducePow]; omega
  | 6, _ => simp only [Nat.reduceMul, Int.reducePow]; omega
  | 7, _ => simp only [Nat.reduceMul, Int.reducePow]; omega
set_option maxRecDepth 100000 in
set_option maxHeartbeats 800000 in
theorem refInt_any (B : Nat) (A : Option Addr) (c : Nat) (l : List Nat) (v : Int) (hv : InInt v) (hl : l.length ≤ 140737488354000) (w : World) (h : IsBytes w B A l) (hB : B ≤ w.heap.size) :
    Calls Tryz.prog 55 #[.slice A l.length c, .int .i64 v] w fun e w' => ∃ A' c', e = .returned (.slice A' (l.length + 8) c') ∧ OwnsB 5 w' w.heap.size A' c' (l ++ Pk.enc v) ∧ Below w.heap.size w w' := by
  obtain ⟨i0, hi, hz0, hz1, hz2⟩ := info_parts info_u8
  have hv1 := hv.1
  have hv2 := hv.2
  clear hv
  go_enter Tryz.func55, Tryz.ntmps55
  go_wp2
  go_loopw [5, 6, 7] (fun lo u i wr => ∃ k n : Nat, ∃ A1 : Option Addr, ∃ c1 : Nat, k ≤ 8 ∧ i = .int .i64 k ∧ u = .int .u64 (n : Int) ∧ n < 18446744073709551616 ∧ lo = .slice A1 k c1 ∧ OwnsB 5 wr w.heap.size A1 c1 (lows v k) ∧ Below w.heap.size w wr ∧ Hid ((n : Int) = (v % 18446744073709551616) / 2 ^ (8 * k))) (fun _ _ i _ => 8 - (RowKit.intOf i).toNat)
  case atStart =>
    refine ⟨0, (v % 18446744073709551616).toNat, none, 0, by omega, rfl, ?_, by omega, rfl, OwnsB.nil _ _ _, Below.refl _ _, ?_⟩
    · rw [u64_wrap]; go_num
    · show _ = _
      simp; omega
  case round =>
    obtain ⟨k, n, A1, c1, hk, rfl, rfl, hn, rfl, hown, hbel, hu⟩ := hrel
    by_cases hlt : k < 8
    · have hx : ((n : Int) % 256) = (Pk.byteOf v k : Nat) := by rw [hu.out]; exact low_byte v k hlt
      have HX := hid hx
      have hb8 := Pk.byteOf_lt v k
      clear hx
      go_wp2_with (at_builtin; refine wpList_append_byteN rfl _ _ 35 rfl w.heap.size 5 i0 Tryz.underlying35 hi hz0 hz1 hz2 A1 c1 (lows v k) k (lows_length v k) rfl (hown.alloc _) ⟨wr.heap.size, 0, none⟩ 1 (Pk.byteOf v k) _ HX.out hb8 rfl ?c1 (lows v (k + 1)) (lows_snoc v k).symm (by omega) ?c2 ?_)
      case c1 => simp
      case c2 => have := hbel.size; simp; omega
      intro A2 c2 w1 hown2 hb1
      have hb2 : Below w.heap.size w w1 := (hbel.alloc hbel.size _).trans hb1
      clear hb1 hown hbel
      go_wp2
      go_roundw
      case rel => exact ⟨k + 1, n / 256, A2, c2, by omega, by go_num, by go_num, by omega, rfl, hown2, hb2, by
        have e := hu.out
        show _ = _
        rw [Pk.ediv_pow, ← e]; omega⟩
      case measure => simp [RowKit.intOf]; omega
    · have HK8 : Hid (k = 8) := show k = 8 by omega
      obtain ⟨k8, rfl⟩ : ∃ k8 : Nat, k8 = k := ⟨_, rfl⟩
      clear hu hn
      go_wp2
      clear hlt hk
      have hreads := hown.reads
      have HBEL := hid hbel
      have hsz := hbel.size
      clear hown hbel
      obtain ⟨wm, rfl⟩ : ∃ wm : World, wm = wr := ⟨_, rfl⟩
      go_loopw [8, 9] (fun b i wr => ∃ k : Nat, ∃ A3 : Option Addr, ∃ c3 : Nat, k ≤ l.length ∧ i = .int .i64 k ∧ b = .slice A3 k c3 ∧ OwnsB 5 wr wm.heap.size A3 c3 (l.take k) ∧ Below wm.heap.size wm wr) (fun _ i _ => l.length - (RowKit.intOf i).toNat)
      case atStart => exact ⟨0, none, 0, by omega, rfl, rfl, OwnsB.nil _ _ _, Below.refl _ _⟩
      case round =>
        obtain ⟨k, A3, c3, hk, rfl, rfl, hown, hbel⟩ := hrel
        have hlk : (l.take k).length = k := by rw [List.length_take]; omega
        have HLK := hid hlk
        clear hlk
        by_cases hlt : k < l.length
        · have h1 := ((h.more hB).below (HBEL.out.trans (hbel.mono hsz)))
          obtain ⟨b, off, rfl, _, hc⟩ := h1.cells k hlt
          have hck := hc k hlt
          have hb8 := h.small l[k] (List.getElem_mem _)
          clear hc h1
          go_wp2_with (at_builtin; refine wpList_append_byteN rfl _ _ 35 rfl wm.heap.size 5 i0 Tryz.underlying35 hi hz0 hz1 hz2 A3 c3 (l.take k) k HLK.out rfl (hown.alloc _) ⟨wr.heap.size, 0, none⟩ 1 l[k] _ rfl hb8 rfl ?c3 (l.take (k + 1)) (List.take_succ_eq_append_getElem hlt).symm (by omega) ?c4 ?_)
          case c3 => simp
          case c4 => have := hbel.size; simp; omega
          intro A4 c4 w1 hown2 hb1
          have hb2 : Below wm.heap.size wm w1 := (hbel.alloc hbel.size _).trans hb1
          clear hb1 hown hbel hck
          go_wp2
          go_roundw
          case rel => exact ⟨k + 1, A4, c4, by omega, by go_num, rfl, hown2, hb2⟩
          case measure => simp [RowKit.intOf]; omega
        · obtain rfl : k = l.length := by omega
          rw [List.take_length] at hown
          clear HLK hlt hk
          go_wp2
          go_loopw [8, 10] (fun b i wr => ∃ k : Nat, ∃ A4 : Option Addr, ∃ c4 : Nat, k ≤ 8 ∧ i = .int .i64 (7 - (k : Int)) ∧ b = .slice A4 (l.length + k) c4 ∧ OwnsB 5 wr wm.heap.size A4 c4 (l ++ (Pk.enc v).take k) ∧ Below wm.heap.size wm wr) (fun _ i _ => (RowKit.intOf i + 1).toNat)
          case atStart => exact ⟨0, A3, c3, by omega, rfl, rfl, by simpa using hown, hbel⟩
          case round =>
            clear hown hbel
            obtain ⟨k, A4, c4, hk, rfl, rfl, hown, hbel⟩ := hrel
            have hlen : (l ++ (Pk.enc v).take k).length = l.length + k := by rw [List.length_append, List.length_take, Pk.enc_length]; omega
            have HL := hid hlen
            clear hlen
            by_cases hlt : k < 8
            · obtain ⟨m, hm⟩ : ∃ m : Nat, 7 - (k : Int) = (m : Int) := ⟨7 - k, by omega⟩
              have HM := hid hm
              rw [hm]
              have hm0 : m < 8 := by omega
              have hme : 7 - k = m := by omega
              have HME := hid hme
              clear hm hme
              obtain ⟨b, off, rfl, _, hc⟩ := (hreads.below hbel).cells m (by rw [lows_length, HK8.out]; exact hm0)
              have hck := hc m (by rw [lows_length, HK8.out]; exact hm0)
              rw [lows_get] at hck
              have hb8 := Pk.byteOf_lt v m
              clear hc
              go_wp2_with (at_builtin; refine wpList_append_byteN rfl _ _ 35 rfl wm.heap.size 5 i0 Tryz.underlying35 hi hz0 hz1 hz2 A4 c4 (l ++ (Pk.enc v).take k) (l.length + k) HL.out rfl (hown.alloc _) ⟨wr.heap.size, 0, none⟩ 1 (Pk.byteOf v m) _ rfl hb8 rfl ?c5 (l ++ (Pk.enc v).take (k + 1)) (by rw [enc_take v k hlt, HME.out, ← List.append_assoc]) (by omega) ?c6 ?_)
              case c5 => simp
              case c6 => have := hbel.size; simp; omega
              intro A5 c5 w1 hown2 hb1
              have hb2 : Below wm.heap.size wm w1 := (hbel.alloc hbel.size _).trans hb1
              have HO : Hid (OwnsB 5 w1 wm.heap.size A5 c5 (l ++ (Pk.enc v).take (k + 1))) := hown2
              clear hb1 hown hbel hck hown2
              go_wp2
              go_roundw
              case rel => exact ⟨k + 1, A5, c5, by omega, by rw [← HM.out]; go_num, rfl, HO.out, hb2⟩
              case measure => simp [RowKit.intOf] <;> omega
            · obtain rfl : k = 8 := by omega
              have HO : Hid (OwnsB 5 wr w.heap.size A4 c4 (l ++ Pk.enc v)) := by
                show OwnsB _ _ _ _ _ _
                exact hown.weaken hsz
              have HB : Hid (Below w.heap.size w wr) := HBEL.out.trans (hbel.mono hsz)
              clear hown hbel hreads
              go_wp2
              go_ret
              exact ⟨A4, c4, rfl, HO.out, HB.out⟩
end Go.Proofs.YtaeoccpjdjafnaaGreat
namespace Go.Proofs.YtaeoccpjdjafnaaGreat
open Go.RowKit
set_option maxHeartbeats 800000 in
theorem refBlob_any (B : Nat) (A : Option Addr) (c : Nat) (l : List Nat) (B' : Nat) (A' : Option Addr) (c' : Nat) (m : List Nat) (hl : l.length + m.length ≤ 140737488354000) (w : World) (h : IsBytes w B A l) (hB : B ≤ w.heap.size)
    (h' : IsBytes w B' A' m) (hB' : B' ≤ w.heap.size) :
    Calls Tryz.prog 56 #[.slice A l.length c, .slice A' m.length c'] w fun e w' => ∃ A2 c2, e = .returned (.slice A2 (l.length + 8 + m.length) c2) ∧ OwnsB 5 w' w.heap.size A2 c2 (l ++ (Pk.enc m.length ++ m)) ∧ Below w.heap.size w w' := by
  obtain ⟨i0, hi, hz0, hz1, hz2⟩ := info_parts info_u8
  go_enter Tryz.func56, Tryz.ntmps56
  go_wp2_with fail
  refine (refInt_any B A c l (m.length : Int) (by unfold InInt; omega) (by omega) _ h hB).mono ?_
  rintro e w1 ⟨A1, c1, rfl, hown, hbel⟩
  go_wp2_with fail
  go_loopw [5, 6] (fun b i wr => ∃ k : Nat, ∃ A3 : Option Addr, ∃ c3 : Nat, k ≤ m.length ∧ i = .int .i64 k ∧ b = .slice A3 (l.length + 8 + k) c3 ∧ OwnsB 5 wr w.heap.size A3 c3 (l ++ (Pk.enc m.length ++ m.take k)) ∧ Below w.heap.size w wr) (fun _ i _ => m.length - (RowKit.intOf i).toNat)
  case atStart => exact ⟨0, A1, c1, by omega, rfl, rfl, by simpa using hown, hbel⟩
  case round =>
    clear hown hbel
    obtain ⟨k, A3, c3, hk, rfl, rfl, hown, hbel⟩ := hrel
    by_cases hlt : k < m.length
    · have h1 := (h'.more hB').below hbel
      obtain ⟨b, off, rfl, _, hc⟩ := h1.cells k hlt
      have hck := hc k hlt
      have hb8 := h1.small m[k] (List.getElem_mem _)
      clear hc h1
      go_wp2_with (at_builtin; refine wpList_append_byteN rfl _ _ 35 rfl w.heap.size 5 i0 Tryz.underlying35 hi hz0 hz1 hz2 A3 c3 (l ++ (Pk.enc m.length ++ m.take k)) (l.length + 8 + k) ?c0 rfl (hown.alloc _) ⟨wr.heap.size, 0, none⟩ 1 m[k] _ rfl hb8 rfl ?c1 (l ++ (Pk.enc m.length ++ m.take (k + 1))) (by rw [List.append_assoc, List.append_assoc, List.take_succ_eq_append_getElem hlt]) (by omega) ?c2 ?_)
      case c0 => rw [List.length_append, List.length_append, Pk.enc_length, List.length_take]; omega
      case c1 => simp
      case c2 => have := hbel.size; simp; omega
      intro A4 c4 w2 hown2 hb1
      have HO := hid (And.intro hown2 ((hbel.alloc hbel.size _).trans hb1))
      clear hb1 hown hbel hck hown2
      go_wp2
      go_roundw
      case rel => exact ⟨k + 1, A4, c4, by omega, by go_num, rfl, HO.out.1, HO.out.2⟩
      case measure => simp [RowKit.intOf] <;> omega
    · obtain rfl : k = m.length := by omega
      rw [List.take_length] at hown
      clear hlt hk
      go_wp2
      go_ret
      exact ⟨A3, c3, rfl, hown, hbel⟩
end Go.Proofs.YtaeoccpjdjafnaaGreat
namespace Go.Proofs.YtaeoccpjdjafnaaGreat
open Go.RowKit
set_option maxRecDepth 100000
set_option maxHeartbeats 800000 in
theorem refInts_any (B : Nat) (A : Option Addr) (c : Nat) (l : List Nat) (B' : Nat) (A' : Option Addr) (c' : Nat) (m : List Int) (hl : l.length + 8 * m.length ≤ 140737488354000) (w : World) (h : IsBytes w B A l) (hB : B ≤ w.heap.size)
    (h' : IsInts w B' A' m) (hB' : B' ≤ w.heap.size) :
    Calls Tryz.prog 104 #[.slice A l.length c, .slice A' m.length c'] w fun e w' => ∃ A2 c2, e = .returned (.slice A2 (l.length + 8 + 8 * m.length) c2) ∧ OwnsB 5 w' w.heap.size A2 c2 (l ++ (Pk.enc m.length ++ Pk.encs m)) ∧ Below w.heap.size w w' := by
  obtain ⟨i0, hi, hz0, hz1, hz2⟩ := info_parts info_u8
  go_enter Tryz.func104, Tryz.ntmps104
  go_wp2_with fail
  refine (refInt_any B A c l (m.length : Int) (by unfold InInt; omega) (by omega) _ h hB).mono ?_
  rintro e w1 ⟨A1, c1, rfl, hown, hbel⟩
  go_wp2_with fail
  go_loopw [5, 6, 7, 8] (fun b i _ _ wr => ∃ k : Nat, ∃ A3 : Option Addr, ∃ c3 : Nat, k ≤ m.length ∧ i = .int .i64 k ∧ b = .slice A3 (l.length + 8 + 8 * k) c3 ∧ OwnsB 5 wr w.heap.size A3 c3 (l ++ (Pk.enc m.length ++ Pk.encs (m.take k))) ∧ Below w.heap.size w wr) (fun _ i _ _ _ => m.length - (RowKit.intOf i).toNat)
  case atStart => exact ⟨0, A1, c1, by omega, rfl, rfl, by simpa [Pk.encs] using hown, hbel⟩
  case round =>
    clear hown hbel
    obtain ⟨k, A3, c3, hk, rfl, rfl, hown, hbel⟩ := hrel
    by_cases hlt : k < m.length
    · have h1 := (h'.more hB').below hbel
      obtain ⟨b, off, rfl, _, hc⟩ := h1.cells k hlt
      have hck := hc k hlt
      have hv := h1.small m[k] (List.getElem_mem _)
      clear hc h1
      obtain ⟨wo, rfl⟩ : ∃ wo : World, wo = wr := ⟨_, rfl⟩
      go_wp2_with fail
      refine (refInt_any 0 none 0 [] m[k] hv (by simp) _ IsBytes.nil (Nat.zero_le _)).mono ?_
      rintro e w2 ⟨A4, c4, rfl, hown4, hbel4⟩
      simp only [List.length_nil, Nat.zero_add, List.nil_append] at hown4 ⊢
      have hown' := hown.below hbel4
      have hb2 : Below w.heap.size w w2 := hbel.trans (hbel4.mono hbel.size)
      have hsz := hb2.size
      have hlt3 : ∀ g, blk A3 = some g → g < wo.heap.size := fun g hg => (hown.rowLt g (by rw [ownBlock_slice]; exact hg)).2
      obtain ⟨g4, rfl, hg4, hg4', _, _⟩ := hown4.at_ (k := 0) (by rw [Pk.enc_length]; omega)
      have hne : blk A3 ≠ some g4 := fun e => by have := hlt3 g4 e; omega
      have hcells : ∀ j, (hj : j < 8) → w2.cell? ⟨g4, j, none⟩ = some (.int .u8 ((Pk.enc m[k])[j]'hj : Nat)) := fun j hj => by
        obtain ⟨g, e, _, _, h1, _⟩ := hown4.at_ (k := j) hj
        injection e with e; injection e with e; subst e; exact h1
      have HC := hid hcells
      clear hck hown hown4 hbel4 hcells hlt3
      go_wp2_with fail
      go_loopw [5, 8] (fun b i wr => ∃ j : Nat, ∃ A5 : Option Addr, ∃ c5 : Nat, j ≤ 8 ∧ i = .int .i64 j ∧ b = .slice A5 (l.length + 8 + 8 * k + j) c5 ∧ OwnsB 5 wr w.heap.size A5 c5 (l ++ (Pk.enc m.length ++ (Pk.encs (m.take k) ++ (Pk.enc m[k]).take j))) ∧ Hid (wr.heap[g4]? = w2.heap[g4]?) ∧ blk A5 ≠ some g4 ∧ Below w.heap.size w wr ∧ w2.heap.size ≤ wr.heap.size) (fun _ i _ => 8 - (RowKit.intOf i).toNat)
      case atStart => exact ⟨0, A3, c3, by omega, rfl, rfl, by simpa using hown', hid rfl, hne, hb2, Nat.le_refl _⟩
      case round =>
        clear hown' hb2 hne hbel
        obtain ⟨j, A5, c5, hj, rfl, rfl, hown, hsame, hne, hbel, hsz2⟩ := hrel
        by_cases hltj : j < 8
        · have hck : wr.cell? ⟨g4, j, none⟩ = some (.int .u8 ((Pk.enc m[k])[j]'hltj : Nat)) := (World.cell?_of_block (w := w2) hsame.out).trans (HC.out j hltj)
          have hb8 := Pk.enc_small m[k] _ (List.getElem_mem (h := (show j < (Pk.enc m[k]).length from hltj)))
          go_wp2_with (at_builtin; refine wpList_append_byteAt rfl _ _ 35 rfl w.heap.size 5 i0 Tryz.underlying35 hi hz0 hz1 hz2 A5 c5 (l ++ (Pk.enc m.length ++ (Pk.encs (m.take k) ++ (Pk.enc m[k]).take j))) (l.length + 8 + 8 * k + j) ?d0 rfl (hown.alloc _) ⟨wr.heap.size, 0, none⟩ 1 ((Pk.enc m[k])[j]'hltj) _ rfl hb8 rfl ?d1 (l ++ (Pk.enc m.length ++ (Pk.encs (m.take k) ++ (Pk.enc m[k]).take (j + 1)))) ?d3 (by omega) ?d2 ?_)
          case d0 => simp only [List.length_append, Pk.enc_length, Pk.encs_length, List.length_take]; omega
          case d1 => simp
          case d2 => have := hbel.size; simp; omega
          case d3 => rw [List.append_assoc, List.append_assoc, List.append_assoc, List.take_succ_eq_append_getElem (show j < (Pk.enc m[k]).length from hltj)]; rfl
          intro A6 c6 w3 hown6 hb6 hg6 ha6
          have hne6 : blk A6 ≠ some g4 := by
            rcases ha6 with e | e
            · rw [e]; exact hne
            · rw [e]; intro e; injection e with e; (try simp at e); omega
          have hsame6 : Hid (w3.heap[g4]? = w2.heap[g4]?) := by
            show _ = _
            rw [hg6.block g4 (by simp; omega) (fun e => hne e.symm), ← hsame.out]
            exact Below.heap_alloc _ _ _ (by omega)
          have HO := hid (And.intro hown6 (And.intro hne6 (And.intro ((hbel.alloc hbel.size _).trans hb6) (show w2.heap.size ≤ w3.heap.size by have := hb6.size; simp at this; omega))))
          clear hown6 hb6 hg6 ha6 hne6 hne hown hbel hck
          go_wp2
          go_roundw
          case rel => exact ⟨j + 1, A6, c6, by omega, by go_num, rfl, HO.out.1, hsame6, HO.out.2.1, HO.out.2.2.1, HO.out.2.2.2⟩
          case measure => simp [RowKit.intOf] <;> omega
        · have HO : Hid (OwnsB 5 wr w.heap.size A5 c5 (l ++ (Pk.enc m.length ++ Pk.encs (m.take (k + 1))))) := by
            obtain rfl : j = 8 := by omega
            show OwnsB _ _ _ _ _ _
            rw [List.take_succ_eq_append_getElem hlt, Pk.encs_snoc]
            exact hown
          have HB := hid hbel
          have hj8 : l.length + 8 + 8 * k + j = l.length + 8 + 8 * (k + 1) := by omega
          have HJ := hid hj8
          clear hown hbel hsame hne hj8
          go_wp2
          go_roundw
          case rel => exact ⟨k + 1, A5, c5, by omega, by go_num, by rw [HJ.out], HO.out, HB.out⟩
          case measure => simp [RowKit.intOf] <;> omega
    · obtain rfl : k = m.length := by omega
      rw [List.take_length] at hown
      clear hlt hk
      go_wp2
      go_ret
      exact ⟨A3, c3, rfl, hown, hbel⟩
end Go.Proofs.YtaeoccpjdjafnaaGreat
