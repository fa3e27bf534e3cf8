/- Texts of the proof, one behind the other: ImChg, ImChg3, ImCmp, ImOr, ImAsc, ImBsH, ImOwnH. -/
import Derived.Test.YtaeoccpjdjafnaaImageApartPartAB
import Derived.Test.YtaeoccpjdjafnaaImageApartPartAD
import Derived.Test.YtaeoccpjdjafnaaImageApartPartAA
import Derived.Deep.RegionHeld3
namespace Go.Proofs.Ytaeoccpjdjafnaa.Im
open Go Go.RowKit
open Rl (En Lg)
open Qu (Cf)
set_option maxRecDepth 100000
set_option linter.unusedVariables false
attribute [local go_sem ↓] loadAt_hard storeAt_hard loadAt_change storeAt_change loadAt_log1 storeAt_log1 loadAt_conf3 storeAt_conf3
local instance lo5 : Lo := ⟨0⟩
def chgd (h : Hd) (c : Ch) : Option Hd :=
  if c.k = 1 then some { h with t := c.t, v := c.v }
  else if c.k = 2 then (if c.f ≤ h.p.log.base ∨ h.p.log.last < c.f - 1 then none else some { h with p := { h.p with log := { h.p.log with es := h.p.log.es.take (c.f - h.p.log.base - 1).toNat ++ c.p.log.es } } })
  else some { h with p := ⟨sinceM h.p.log c.p.log.base c.p.log.term, c.p.cf, c.p.sn⟩ }
structure Cg (w : World) (x : Hd) (ad : Ad) (c : Ch) (ac : Ad) (W : World) : Prop where
  bel : Below w.heap.size w W
  r2 : W.heap[w.heap.size]? = some (.cells #[.int .i64 x.g, .int .i64 x.t, .int .i64 x.v, .int .i64 x.p.log.base, .int .i64 x.p.log.term, .slice ad.e x.p.log.es.length ad.ce, .slice ad.o x.p.cf.old.length ad.co, .slice ad.n x.p.cf.new.length ad.cn, .slice ad.l x.p.cf.lrn.length ad.cl, .slice ad.s x.p.sn.length ad.cs] 59 (0, 0))
  r3 : W.heap[w.heap.size + 1]? = some (.cells #[.int .i64 c.k, .int .i64 c.g, .int .i64 c.t, .int .i64 c.v, .int .i64 c.f, .int .i64 c.p.log.base, .int .i64 c.p.log.term, .slice ac.e c.p.log.es.length ac.ce, .slice ac.o c.p.cf.old.length ac.co, .slice ac.n c.p.cf.new.length ac.cn, .slice ac.l c.p.cf.lrn.length ac.cl, .slice ac.s c.p.sn.length ac.cs, .int .i64 c.a.x, .int .i64 c.a.p, .int .i64 c.a.r, .int .i64 c.a.b, .int .i64 c.a.v] 36 (0, 0))
  r4 : W.heap[w.heap.size + 1 + 1]? = some (.cells #[.int .i64 0, .int .i64 0, .int .i64 0, .int .i64 0, .int .i64 0, .slice none 0 0, .slice none 0 0, .slice none 0 0, .slice none 0 0, .slice none 0 0] 59 (0, 0))
theorem cg_start (w : World) (x : Hd) (ad : Ad) (c : Ch) (ac : Ad) : Cg w x ad c ac (((w.alloc (.cells #[.int .i64 x.g, .int .i64 x.t, .int .i64 x.v, .int .i64 x.p.log.base, .int .i64 x.p.log.term, .slice ad.e x.p.log.es.length ad.ce, .slice ad.o x.p.cf.old.length ad.co, .slice ad.n x.p.cf.new.length ad.cn, .slice ad.l x.p.cf.lrn.length ad.cl, .slice ad.s x.p.sn.length ad.cs] 59)).alloc (.cells #[.int .i64 c.k, .int .i64 c.g, .int .i64 c.t, .int .i64 c.v, .int .i64 c.f, .int .i64 c.p.log.base, .int .i64 c.p.log.term, .slice ac.e c.p.log.es.length ac.ce, .slice ac.o c.p.cf.old.length ac.co, .slice ac.n c.p.cf.new.length ac.cn, .slice ac.l c.p.cf.lrn.length ac.cl, .slice ac.s c.p.sn.length ac.cs, .int .i64 c.a.x, .int .i64 c.a.p, .int .i64 c.a.r, .int .i64 c.a.b, .int .i64 c.a.v] 36)).alloc (.cells #[.int .i64 0, .int .i64 0, .int .i64 0, .int .i64 0, .int .i64 0, .slice none 0 0, .slice none 0 0, .slice none 0 0, .slice none 0 0, .slice none 0 0] 59)) := by
  refine ⟨(((Below.refl _ w).alloc (Nat.le_refl _) _).alloc (by simp) _).alloc (by simp; omega) _, ?_, ?_, ?_⟩
  · rw [heap_alloc_old _ _ (by simp; omega), heap_alloc_old _ _ (by simp)]; exact heap_alloc_new w _
  · rw [heap_alloc_old _ _ (by simp)]
    have := heap_alloc_new (w.alloc (.cells #[.int .i64 x.g, .int .i64 x.t, .int .i64 x.v, .int .i64 x.p.log.base, .int .i64 x.p.log.term, .slice ad.e x.p.log.es.length ad.ce, .slice ad.o x.p.cf.old.length ad.co, .slice ad.n x.p.cf.new.length ad.cn, .slice ad.l x.p.cf.lrn.length ad.cl, .slice ad.s x.p.sn.length ad.cs] 59)) (.cells #[.int .i64 c.k, .int .i64 c.g, .int .i64 c.t, .int .i64 c.v, .int .i64 c.f, .int .i64 c.p.log.base, .int .i64 c.p.log.term, .slice ac.e c.p.log.es.length ac.ce, .slice ac.o c.p.cf.old.length ac.co, .slice ac.n c.p.cf.new.length ac.cn, .slice ac.l c.p.cf.lrn.length ac.cl, .slice ac.s c.p.sn.length ac.cs, .int .i64 c.a.x, .int .i64 c.a.p, .int .i64 c.a.r, .int .i64 c.a.b, .int .i64 c.a.v] 36)
    rwa [World.size_alloc] at this
  · have := heap_alloc_new ((w.alloc (.cells #[.int .i64 x.g, .int .i64 x.t, .int .i64 x.v, .int .i64 x.p.log.base, .int .i64 x.p.log.term, .slice ad.e x.p.log.es.length ad.ce, .slice ad.o x.p.cf.old.length ad.co, .slice ad.n x.p.cf.new.length ad.cn, .slice ad.l x.p.cf.lrn.length ad.cl, .slice ad.s x.p.sn.length ad.cs] 59)).alloc (.cells #[.int .i64 c.k, .int .i64 c.g, .int .i64 c.t, .int .i64 c.v, .int .i64 c.f, .int .i64 c.p.log.base, .int .i64 c.p.log.term, .slice ac.e c.p.log.es.length ac.ce, .slice ac.o c.p.cf.old.length ac.co, .slice ac.n c.p.cf.new.length ac.cn, .slice ac.l c.p.cf.lrn.length ac.cl, .slice ac.s c.p.sn.length ac.cs, .int .i64 c.a.x, .int .i64 c.a.p, .int .i64 c.a.r, .int .i64 c.a.b, .int .i64 c.a.v] 36)) (.cells #[.int .i64 0, .int .i64 0, .int .i64 0, .int .i64 0, .int .i64 0, .slice none 0 0, .slice none 0 0, .slice none 0 0, .slice none 0 0, .slice none 0 0] 59)
    rw [World.size_alloc, World.size_alloc] at this
    exact this
theorem isPt0 (w : World) (B : Nat) : IsPt w B P0 A0 := ⟨IsEnts.nil, IsInts.nil, IsInts.nil, IsInts.nil, IsBytes.nil, ⟨⟨Nat.le_refl _, Nat.zero_le _⟩, fun _ => rfl⟩, ⟨⟨Nat.le_refl _, Nat.zero_le _⟩, fun _ => rfl⟩, ⟨⟨Nat.le_refl _, Nat.zero_le _⟩, fun _ => rfl⟩, ⟨⟨Nat.le_refl _, Nat.zero_le _⟩, fun _ => rfl⟩, ⟨⟨Nat.le_refl _, Nat.zero_le _⟩, fun _ => rfl⟩, ⟨⟨by decide, by decide⟩, ⟨by decide, by decide⟩⟩⟩
theorem st_pt {w wC : World} {B N : Nat} {p : Pt} {a : Ad} (hx : IsPt w B p a) (hB : B ≤ w.heap.size) (hb : Below w.heap.size w wC) (W : World) (hT : Turned (fun k => B ≤ k ∧ k < N) wC W) : IsPt W W.heap.size p a :=
  (hx.below ((hb.mono hB).trans (hT.below (Nat.le_trans hB hb.size) (fun k hk => hk.1)))).more (Nat.le_trans (Nat.le_trans hB hb.size) hT.size)
def Told13 (B : Nat) (w : World) (r : Option Hd) (e : Ending) (w' : World) : Prop := ∃ (y : Hd) (a : Ad) (n : Int), e = .returned (.tuple #[.agg #[.int .i64 y.g, .int .i64 y.t, .int .i64 y.v, .int .i64 y.p.log.base, .int .i64 y.p.log.term, .slice a.e y.p.log.es.length a.ce, .slice a.o y.p.cf.old.length a.co, .slice a.n y.p.cf.new.length a.cn, .slice a.l y.p.cf.lrn.length a.cl, .slice a.s y.p.sn.length a.cs], .int .i64 n]) ∧ (match r with | some z => y = z ∧ n = 0 | none => n = 3) ∧ (∀ W, Turned (fun k => B ≤ k ∧ k < w.heap.size) w' W → IsPt W W.heap.size y.p a) ∧ (InInt y.g ∧ InInt y.t ∧ InInt y.v) ∧ Below w.heap.size w w'
set_option maxHeartbeats 3200000 in
theorem chg1_any (x : Hd) (ad : Ad) (c : Ch) (ac : Ad) (hk : c.k = 1) (B : Nat) (w : World) (hB : B ≤ w.heap.size) (hx : IsPt w B x.p ad) (hnx : InInt x.g ∧ InInt x.t ∧ InInt x.v) (hnc : (InInt c.k ∧ InInt c.g ∧ InInt c.t ∧ InInt c.v ∧ InInt c.f) ∧ okV c.a) :
    Calls Try.prog 30 #[.agg #[.int .i64 x.g, .int .i64 x.t, .int .i64 x.v, .int .i64 x.p.log.base, .int .i64 x.p.log.term, .slice ad.e x.p.log.es.length ad.ce, .slice ad.o x.p.cf.old.length ad.co, .slice ad.n x.p.cf.new.length ad.cn, .slice ad.l x.p.cf.lrn.length ad.cl, .slice ad.s x.p.sn.length ad.cs], .agg #[.int .i64 c.k, .int .i64 c.g, .int .i64 c.t, .int .i64 c.v, .int .i64 c.f, .int .i64 c.p.log.base, .int .i64 c.p.log.term, .slice ac.e c.p.log.es.length ac.ce, .slice ac.o c.p.cf.old.length ac.co, .slice ac.n c.p.cf.new.length ac.cn, .slice ac.l c.p.cf.lrn.length ac.cl, .slice ac.s c.p.sn.length ac.cs, .int .i64 c.a.x, .int .i64 c.a.p, .int .i64 c.a.r, .int .i64 c.a.b, .int .i64 c.a.v]] w fun e w' => Told13 B w (chgd x c) e w' := by
  obtain ⟨wA, hwA⟩ : ∃ wA, wA = (((w.alloc (.cells #[.int .i64 x.g, .int .i64 x.t, .int .i64 x.v, .int .i64 x.p.log.base, .int .i64 x.p.log.term, .slice ad.e x.p.log.es.length ad.ce, .slice ad.o x.p.cf.old.length ad.co, .slice ad.n x.p.cf.new.length ad.cn, .slice ad.l x.p.cf.lrn.length ad.cl, .slice ad.s x.p.sn.length ad.cs] 59)).alloc (.cells #[.int .i64 c.k, .int .i64 c.g, .int .i64 c.t, .int .i64 c.v, .int .i64 c.f, .int .i64 c.p.log.base, .int .i64 c.p.log.term, .slice ac.e c.p.log.es.length ac.ce, .slice ac.o c.p.cf.old.length ac.co, .slice ac.n c.p.cf.new.length ac.cn, .slice ac.l c.p.cf.lrn.length ac.cl, .slice ac.s c.p.sn.length ac.cs, .int .i64 c.a.x, .int .i64 c.a.p, .int .i64 c.a.r, .int .i64 c.a.b, .int .i64 c.a.v] 36)).alloc (.cells #[.int .i64 0, .int .i64 0, .int .i64 0, .int .i64 0, .int .i64 0, .slice none 0 0, .slice none 0 0, .slice none 0 0, .slice none 0 0, .slice none 0 0] 59)) := ⟨_, rfl⟩
  have hg := cg_start w x ad c ac
  rw [← hwA] at hg
  have k0 : wA.cell? ⟨w.heap.size + 1, 0, none⟩ = some (.int .i64 c.k) := row_cell hg.r3 0
  rw [hk] at k0
  have k2 : wA.cell? ⟨w.heap.size + 1, 2, none⟩ = some (.int .i64 c.t) := row_cell hg.r3 2
  have k3 : wA.cell? ⟨w.heap.size + 1, 3, none⟩ = some (.int .i64 c.v) := row_cell hg.r3 3
  have h1 : wA.cell? ⟨w.heap.size, 1, none⟩ = some (.int .i64 x.t) := row_cell hg.r2 1
  have h2 : wA.cell? ⟨w.heap.size, 2, none⟩ = some (.int .i64 x.v) := row_cell hg.r2 2
  have f1 := row_free hg.r2 1
  have f2 := row_free hg.r2 2
  rw [hwA] at k0
  have HX := hid (And.intro hx (And.intro hnx hnc))
  have HB0 := hid hB
  have HG := hid hg
  have HK := hid hk
  clear hg hx hnx hnc hk hB
  go_enter Try.func30, Try.ntmps30
  go_wp2_with fail
  rw [← hwA]
  clear hwA k0
  go_region
  have r2 := row_set (row_set HG.out.r2 1 (.int .i64 c.t)) 2 (.int .i64 c.v)
  have hT : Turned (fun k => k = w.heap.size) wA ((wA.setCell ⟨w.heap.size, 1, none⟩ (.int .i64 c.t)).setCell ⟨w.heap.size, 2, none⟩ (.int .i64 c.v)).drew := (Turned.two wA w.heap.size 1 2 _ _).drew
  generalize hwB : ((wA.setCell ⟨w.heap.size, 1, none⟩ (.int .i64 c.t)).setCell ⟨w.heap.size, 2, none⟩ (.int .i64 c.v)).drew = wB at *
  have r2' : wB.heap[w.heap.size]? = some (.cells #[.int .i64 ({ x with t := c.t, v := c.v }).g, .int .i64 ({ x with t := c.t, v := c.v }).t, .int .i64 ({ x with t := c.t, v := c.v }).v, .int .i64 (({ x with t := c.t, v := c.v }).p).log.base, .int .i64 (({ x with t := c.t, v := c.v }).p).log.term, .slice ad.e (({ x with t := c.t, v := c.v }).p).log.es.length ad.ce, .slice ad.o (({ x with t := c.t, v := c.v }).p).cf.old.length ad.co, .slice ad.n (({ x with t := c.t, v := c.v }).p).cf.new.length ad.cn, .slice ad.l (({ x with t := c.t, v := c.v }).p).cf.lrn.length ad.cl, .slice ad.s (({ x with t := c.t, v := c.v }).p).sn.length ad.cs] 59 (0, 0)) := by rw [← hwB]; exact r2
  have r4' := (hT.block _ (row_lt HG.out.r4) (by omega)).trans HG.out.r4
  have hbB : Below w.heap.size w wB := HG.out.bel.trans (hT.below HG.out.bel.size (fun k hk => by omega))
  have hld := ldRow info_hard Try.underlying59 rfl r2' rfl
  have hst := stRow info_hard (cs' := #[.int .i64 (({ x with t := c.t, v := c.v } : Hd)).g, .int .i64 (({ x with t := c.t, v := c.v } : Hd)).t, .int .i64 (({ x with t := c.t, v := c.v } : Hd)).v, .int .i64 ((({ x with t := c.t, v := c.v } : Hd)).p).log.base, .int .i64 ((({ x with t := c.t, v := c.v } : Hd)).p).log.term, .slice ad.e ((({ x with t := c.t, v := c.v } : Hd)).p).log.es.length ad.ce, .slice ad.o ((({ x with t := c.t, v := c.v } : Hd)).p).cf.old.length ad.co, .slice ad.n ((({ x with t := c.t, v := c.v } : Hd)).p).cf.new.length ad.cn, .slice ad.l ((({ x with t := c.t, v := c.v } : Hd)).p).cf.lrn.length ad.cl, .slice ad.s ((({ x with t := c.t, v := c.v } : Hd)).p).sn.length ad.cs]) r4' rfl rfl (by simp [Value.oneCell'])
  have r5 := setRow_heap wB (w.heap.size + 1 + 1) _ #[.int .i64 (({ x with t := c.t, v := c.v } : Hd)).g, .int .i64 (({ x with t := c.t, v := c.v } : Hd)).t, .int .i64 (({ x with t := c.t, v := c.v } : Hd)).v, .int .i64 ((({ x with t := c.t, v := c.v } : Hd)).p).log.base, .int .i64 ((({ x with t := c.t, v := c.v } : Hd)).p).log.term, .slice ad.e ((({ x with t := c.t, v := c.v } : Hd)).p).log.es.length ad.ce, .slice ad.o ((({ x with t := c.t, v := c.v } : Hd)).p).cf.old.length ad.co, .slice ad.n ((({ x with t := c.t, v := c.v } : Hd)).p).cf.new.length ad.cn, .slice ad.l ((({ x with t := c.t, v := c.v } : Hd)).p).cf.lrn.length ad.cl, .slice ad.s ((({ x with t := c.t, v := c.v } : Hd)).p).sn.length ad.cs] _ _ r4'
  have tT := row_turned wB (w.heap.size + 1 + 1) #[.int .i64 (({ x with t := c.t, v := c.v } : Hd)).g, .int .i64 (({ x with t := c.t, v := c.v } : Hd)).t, .int .i64 (({ x with t := c.t, v := c.v } : Hd)).v, .int .i64 ((({ x with t := c.t, v := c.v } : Hd)).p).log.base, .int .i64 ((({ x with t := c.t, v := c.v } : Hd)).p).log.term, .slice ad.e ((({ x with t := c.t, v := c.v } : Hd)).p).log.es.length ad.ce, .slice ad.o ((({ x with t := c.t, v := c.v } : Hd)).p).cf.old.length ad.co, .slice ad.n ((({ x with t := c.t, v := c.v } : Hd)).p).cf.new.length ad.cn, .slice ad.l ((({ x with t := c.t, v := c.v } : Hd)).p).cf.lrn.length ad.cl, .slice ad.s ((({ x with t := c.t, v := c.v } : Hd)).p).sn.length ad.cs]
  generalize wB.setRow (w.heap.size + 1 + 1) #[.int .i64 (({ x with t := c.t, v := c.v } : Hd)).g, .int .i64 (({ x with t := c.t, v := c.v } : Hd)).t, .int .i64 (({ x with t := c.t, v := c.v } : Hd)).v, .int .i64 ((({ x with t := c.t, v := c.v } : Hd)).p).log.base, .int .i64 ((({ x with t := c.t, v := c.v } : Hd)).p).log.term, .slice ad.e ((({ x with t := c.t, v := c.v } : Hd)).p).log.es.length ad.ce, .slice ad.o ((({ x with t := c.t, v := c.v } : Hd)).p).cf.old.length ad.co, .slice ad.n ((({ x with t := c.t, v := c.v } : Hd)).p).cf.new.length ad.cn, .slice ad.l ((({ x with t := c.t, v := c.v } : Hd)).p).cf.lrn.length ad.cl, .slice ad.s ((({ x with t := c.t, v := c.v } : Hd)).p).sn.length ad.cs] = wC at *
  have H5 := hid (And.intro r5 tT)
  have HBB := hid hbB
  clear r5 tT r2' r4' hbB
  clear r2 hT hwB k2 k3 h1 h2 f1 f2
  go_wp2_with fail
  refine bodyPost_ret (results_two rfl info_hard Try.underlying59 rfl _ _ (w.heap.size + 1 + 1) _ _ _ rfl H5.out.1 rfl) rfl ?_
  have hbC : Below w.heap.size w wC := HBB.out.trans (H5.out.2.below HBB.out.size (fun k hk => by omega))
  refine ⟨{ x with t := c.t, v := c.v }, ad, 0, rfl, ?_, st_pt HX.out.1 HB0.out hbC, ⟨HX.out.2.1.1, HX.out.2.2.1.2.2.1, HX.out.2.2.1.2.2.2.1⟩, hbC⟩
  unfold chgd
  rw [if_pos HK.out]
  exact ⟨rfl, rfl⟩
theorem ents_read {w : World} {F : Nat → Prop} {A : Option Addr} {c B : Nat} {M : List El} (h : RowIn cellsE 3 77 w F A c M) (hr : Reads w B M) (hB : B ≤ w.heap.size) (hnum : ∀ q ∈ M, InInt q.e.t ∧ InInt q.e.k) : IsEnts w w.heap.size A (M.map (·.e)) := by
  refine ⟨fun e he => ?_, fun k hk => ?_⟩
  · obtain ⟨q, hq, rfl⟩ := List.mem_map.1 he
    exact hnum q hq
  · rw [List.length_map] at hk
    obtain ⟨g, hA, hg, _, _, _⟩ := h.get k hk
    refine ⟨g, 0, hA, hg, fun i hi => ?_⟩
    rw [List.length_map] at hi
    obtain ⟨g', hA', _, _, hc, _⟩ := h.get i hi
    obtain rfl : g = g' := by rw [hA] at hA'; injection hA' with e; injection e
    rw [List.getElem_map, Nat.zero_add]
    obtain ⟨q1, q2, q3⟩ := hr M[i] (List.getElem_mem hi)
    exact ⟨M[i].A, M[i].c, hc 0 (by omega), hc 1 (by omega), hc 2 (by omega), q1.more hB, q2, q3⟩
set_option maxHeartbeats 6400000 in
theorem chg2_any (x : Hd) (ad : Ad) (c : Ch) (ac : Ad) (hk : c.k = 2) (hok : Rl.Ok x.p.log) (hcl : c.p.log.es.length ≤ 20000) (B : Nat) (w : World) (hB : B ≤ w.heap.size) (hx : IsPt w B x.p ad) (hc : IsPt w B c.p ac) (hnx : InInt x.g ∧ InInt x.t ∧ InInt x.v) (hnc : (InInt c.k ∧ InInt c.g ∧ InInt c.t ∧ InInt c.v ∧ InInt c.f) ∧ okV c.a) :
    Calls Try.prog 30 #[.agg #[.int .i64 x.g, .int .i64 x.t, .int .i64 x.v, .int .i64 x.p.log.base, .int .i64 x.p.log.term, .slice ad.e x.p.log.es.length ad.ce, .slice ad.o x.p.cf.old.length ad.co, .slice ad.n x.p.cf.new.length ad.cn, .slice ad.l x.p.cf.lrn.length ad.cl, .slice ad.s x.p.sn.length ad.cs], .agg #[.int .i64 c.k, .int .i64 c.g, .int .i64 c.t, .int .i64 c.v, .int .i64 c.f, .int .i64 c.p.log.base, .int .i64 c.p.log.term, .slice ac.e c.p.log.es.length ac.ce, .slice ac.o c.p.cf.old.length ac.co, .slice ac.n c.p.cf.new.length ac.cn, .slice ac.l c.p.cf.lrn.length ac.cl, .slice ac.s c.p.sn.length ac.cs, .int .i64 c.a.x, .int .i64 c.a.p, .int .i64 c.a.r, .int .i64 c.a.b, .int .i64 c.a.v]] w fun e w' => Told13 B w (chgd x c) e w' := by
  obtain ⟨wA, hwA⟩ : ∃ wA, wA = (((w.alloc (.cells #[.int .i64 x.g, .int .i64 x.t, .int .i64 x.v, .int .i64 x.p.log.base, .int .i64 x.p.log.term, .slice ad.e x.p.log.es.length ad.ce, .slice ad.o x.p.cf.old.length ad.co, .slice ad.n x.p.cf.new.length ad.cn, .slice ad.l x.p.cf.lrn.length ad.cl, .slice ad.s x.p.sn.length ad.cs] 59)).alloc (.cells #[.int .i64 c.k, .int .i64 c.g, .int .i64 c.t, .int .i64 c.v, .int .i64 c.f, .int .i64 c.p.log.base, .int .i64 c.p.log.term, .slice ac.e c.p.log.es.length ac.ce, .slice ac.o c.p.cf.old.length ac.co, .slice ac.n c.p.cf.new.length ac.cn, .slice ac.l c.p.cf.lrn.length ac.cl, .slice ac.s c.p.sn.length ac.cs, .int .i64 c.a.x, .int .i64 c.a.p, .int .i64 c.a.r, .int .i64 c.a.b, .int .i64 c.a.v] 36)).alloc (.cells #[.int .i64 0, .int .i64 0, .int .i64 0, .int .i64 0, .int .i64 0, .slice none 0 0, .slice none 0 0, .slice none 0 0, .slice none 0 0, .slice none 0 0] 59)) := ⟨_, rfl⟩
  have hg := cg_start w x ad c ac
  rw [← hwA] at hg
  have k0 : wA.cell? ⟨w.heap.size + 1, 0, none⟩ = some (.int .i64 c.k) := row_cell hg.r3 0
  rw [hk] at k0
  have hlg : (ldX 28 (.pointer (some ⟨w.heap.size, 3, none⟩))).run Try.prog wA = .ok (.agg #[.int .i64 x.p.log.base, .int .i64 x.p.log.term, .slice ad.e x.p.log.es.length ad.ce]) wA :=
    run_loadAt_mid wA w.heap.size 3 28 [.int .i64 x.p.log.base, .int .i64 x.p.log.term, .slice ad.e x.p.log.es.length ad.ce] _ (fun j v hv => by
      rw [row_cell hg.r2 (3 + j)]
      rcases j with _ | _ | _ | j
      · simpa using hv
      · simpa using hv
      · simpa using hv
      · simp at hv) Try.underlying28 rfl (by rw [info_log33]; rfl)
  have HLA := hid (last_any wA.heap.size x.p.log ad.e ad.ce hok wA ⟨(hx.es.below (hg.bel.mono hB)).more (Nat.le_trans hB hg.bel.size), hx.re.1, hx.re.2, hx.num⟩ (Nat.le_refl _))
  rw [hwA] at k0 hlg
  have hcf := hnc.1.2.2.2.2
  have hf1 := hcf.1
  have hf2 := hcf.2
  have hb1 := hok.1.1
  have hb2 := hok.1.2
  have hln : (x.p.log.last : Int) = x.p.log.base + (x.p.log.es.length : Nat) := rfl
  have hel := hok.2.2
  have HX := hid (And.intro hx (And.intro hnx (And.intro hnc hc)))
  have HG := hid hg
  have HK := hid hk
  obtain ⟨la, hla⟩ : ∃ l, l = x.p.log.last := ⟨_, rfl⟩
  rw [← hla] at HLA hln
  have HCL := hid hcl
  have HB0 := hid hB
  clear hg hx hnx hnc hc hk hok hcf hcl hB
  go_enter Try.func30, Try.ntmps30
  go_wp2_with fail
  rw [← hwA]
  clear hwA k0 hlg
  refine HLA.out.mono ?_
  rintro e w1 ⟨rfl, hbl⟩
  have r21 := (hbl.block _ (row_lt HG.out.r2)).trans HG.out.r2
  have r31 := (hbl.block _ (row_lt HG.out.r3)).trans HG.out.r3
  have r41 := (hbl.block _ (row_lt HG.out.r4)).trans HG.out.r4
  have hbw1 := HG.out.bel.trans (hbl.mono HG.out.bel.size)
  have H1 := hid (And.intro r21 (And.intro r31 (And.intro r41 hbw1)))
  have k4 : w1.cell? ⟨w.heap.size + 1, 4, none⟩ = some (.int .i64 c.f) := row_cell r31 4
  have k23 : w1.cell? ⟨w.heap.size, 3, none⟩ = some (.int .i64 x.p.log.base) := row_cell r21 3
  by_cases hlow : c.f ≤ x.p.log.base
  · have HE : Hid (chgd x c = none) := hid (by unfold chgd; rw [if_neg (by rw [HK.out]; decide), if_pos HK.out, if_pos (.inl hlow)])
    have hst := stSame info_hard r41 rfl (by simp [Value.oneCell'])
    clear hbl r21 r31 r41 hbw1
    go_wp2_with fail
    refine bodyPost_ret (results_two rfl info_hard Try.underlying59 rfl _ _ (w.heap.size + 1 + 1) _ _ _ rfl H1.out.2.2.1 rfl) rfl ?_
    rw [HE.out]
    exact ⟨⟨0, 0, 0, P0⟩, A0, 3, rfl, rfl, fun _ _ => isPt0 _ _, ⟨⟨by decide, by decide⟩, ⟨by decide, by decide⟩, ⟨by decide, by decide⟩⟩, H1.out.2.2.2⟩
  · by_cases hhi : la < c.f - 1
    · have HE : Hid (chgd x c = none) := hid (by unfold chgd; rw [if_neg (by rw [HK.out]; decide), if_pos HK.out, if_pos (.inr (by rw [← hla]; exact hhi))])
      have hst := stSame info_hard r41 rfl (by simp [Value.oneCell'])
      clear hbl r21 r31 r41 hbw1
      go_wp2_with fail
      refine bodyPost_ret (results_two rfl info_hard Try.underlying59 rfl _ _ (w.heap.size + 1 + 1) _ _ _ rfl H1.out.2.2.1 rfl) rfl ?_
      rw [HE.out]
      exact ⟨⟨0, 0, 0, P0⟩, A0, 3, rfl, rfl, fun _ _ => isPt0 _ _, ⟨⟨by decide, by decide⟩, ⟨by decide, by decide⟩, ⟨by decide, by decide⟩⟩, H1.out.2.2.2⟩
    · obtain ⟨k, hk⟩ : ∃ k : Nat, (k : Int) = c.f - x.p.log.base - 1 := ⟨(c.f - x.p.log.base - 1).toNat, by omega⟩
      have hkl : k ≤ x.p.log.es.length := by omega
      have HV : Hid (chgd x c = some { x with p := { x.p with log := { x.p.log with es := x.p.log.es.take k ++ c.p.log.es } } }) := hid (by
        unfold chgd
        rw [if_neg (by rw [HK.out]; decide), if_pos HK.out, if_neg (by rw [← hla]; omega), ← hk]
        rfl)
      have k5 : w1.cell? ⟨w.heap.size, 5, none⟩ = some (.slice ad.e x.p.log.es.length ad.ce) := row_cell r21 5
      have k35 : w1.cell? ⟨w.heap.size + 1, 7, none⟩ = some (.slice ac.e c.p.log.es.length ac.ce) := row_cell r31 7
      have hre := HX.out.1.re
      have hce : k ≤ ad.ce := by have := hre.1.1; omega
      have hmx : ad.ce ≤ maxLen := hre.1.2
      unfold maxLen at hmx
      have hwa : IntKind.i64.wrap (c.f - x.p.log.base) = (k : Int) + 1 := by rw [IntKind.wrap_i64]; omega
      have hwc : IntKind.i64.wrap ((k : Int) + 1 - 1) = (k : Int) := by rw [IntKind.wrap_i64]; omega
      have hwd : IntKind.i64.wrap (k : Int) = (k : Int) := by rw [IntKind.wrap_i64]; omega
      clear hk
      have hwb : (0 : Int) ≤ (k : Int) := by omega
      have hki : (k : Int) ≤ (ad.ce : Int) := by omega
      clear hbl r21 r31 r41 hbw1 hre
      go_wp2_with fail
      go_still_tail 14, (by kernel_rfl)
      go_wp2_with fail
      obtain ⟨w2, hw2⟩ : ∃ w2, w2 = (w1.alloc (.cells #[.slice ad.e k ad.ce, .slice ac.e c.p.log.es.length ac.ce] 26)).drew := ⟨_, rfl⟩
      rw [← hw2]
      have z2 : w2.heap.size = w1.heap.size + 1 := by rw [hw2]; simp
      have hb2 : Below w1.heap.size w1 w2 := by rw [hw2]; exact ((Below.refl _ w1).alloc (Nat.le_refl _) _).drew
      have r02 : w2.heap[w1.heap.size]? = some (.cells #[.slice ad.e k ad.ce, .slice ac.e c.p.log.es.length ac.ce] 26 (0, 0)) := by rw [hw2]; exact heap_alloc_new w1 _
      have hbw2 : Below w.heap.size w w2 := H1.out.2.2.2.trans (hb2.mono H1.out.2.2.2.size)
      have HC : Hid (∃ M : List El, M.map (·.e) = x.p.log.es.take k ++ c.p.log.es ∧ Reads w2 B M ∧ Calls Try.prog 59 #[.slice (some ⟨w1.heap.size, 0, none⟩) 2 2] w2 fun e w' => ∃ A' c' m, e = .returned (.slice A' m c') ∧ m = (x.p.log.es.take k ++ c.p.log.es).length ∧ RowIn cellsE 3 77 w' (fun k => w2.heap.size ≤ k) A' c' M ∧ Below w2.heap.size w2 w') := hid (by
        obtain ⟨M1, m1, d1, q1⟩ := isEnts_row (HX.out.1.es.below (hbw2.mono HB0.out))
        obtain ⟨M2, m2, d2, q2⟩ := isEnts_row (HX.out.2.2.2.es.below (hbw2.mono HB0.out))
        have l1 : M1.length = x.p.log.es.length := by rw [← m1, List.length_map]
        have l2 : M2.length = c.p.log.es.length := by rw [← m2, List.length_map]
        have l3 : (M1.take k).length = k := by rw [List.length_take]; omega
        have hcl := HCL.out
        refine ⟨M1.take k ++ M2, by rw [List.map_append, List.map_take, m1, m2], fun q hq => ?_, ?_⟩
        · rcases List.mem_append.1 hq with h | h
          · exact d1 q (List.mem_of_mem_take h)
          · exact d2 q h
        · have := concatE_any B w1.heap.size [M1.take k, M2] 2 2 rfl (by decide) (by simp only [List.flatten_cons, List.flatten_nil, List.append_nil, List.length_append]; omega) w2 ⟨fun i hi => by
            match i, hi with
            | 0, h0 =>
              refine ⟨ad.e, ad.ce, ?_, q1.take k, HX.out.1.re.2⟩
              rw [show ([M1.take k, M2][0]'h0).length = k from l3]
              exact row_cell r02 0
            | 1, h0 =>
              refine ⟨ac.e, ac.ce, ?_, q2, HX.out.2.2.2.re.2⟩
              rw [show ([M1.take k, M2][1]'h0).length = c.p.log.es.length from l2]
              exact row_cell r02 1⟩ (by omega) (Nat.le_trans HB0.out hbw2.size)
          refine this.mono ?_
          rintro e w3 ⟨A', c', m, he, hm, hr, hb⟩
          refine ⟨A', c', m, he, ?_, by simpa using hr, hb⟩
          rw [hm]
          simp only [List.flatten_cons, List.flatten_nil, List.append_nil, List.length_append, l3, l2, List.length_take]
          omega)
      obtain ⟨M, hM, hRd, HC⟩ := HC.out
      have HM := hid (And.intro hM hRd)
      clear hM hRd
      refine HC.mono ?_
      rintro e w3 ⟨A3, p3, m3, rfl, hm3, hr3, hb3⟩
      have hbw3 := hbw2.trans (hb3.mono hbw2.size)
      have hb13 := hb2.trans (hb3.mono hb2.size)
      have r23 := (hb13.block _ (row_lt H1.out.1)).trans H1.out.1
      have r43 := (hb13.block _ (row_lt H1.out.2.2.1)).trans H1.out.2.2.1
      have c3 : w3.cell? ⟨w.heap.size, 5, none⟩ = some (.slice ad.e x.p.log.es.length ad.ce) := row_cell r23 5
      have f3 := row_free r23 5
      have H3 := hid (And.intro r23 (And.intro r43 (And.intro hbw3 (And.intro hb3 (And.intro hr3 (And.intro hm3 (And.intro z2 H1.out.2.2.2)))))))
      clear r23 r43 hbw3 hb3 hr3 hm3 hb13 hb2 r02 hbw2 hw2 HC z2 k4 k23 k5 k35
      go_wp2_with fail
      have hT4 : Turned (fun k => k = w.heap.size) w3 (w3.setCell ⟨w.heap.size, 5, none⟩ (.slice A3 m3 p3)) := Turned.one _ _ _ _
      have r24 := row_set H3.out.1 5 (.slice A3 m3 p3)
      have r44 := (hT4.block _ (row_lt H3.out.2.1) (by omega)).trans H3.out.2.1
      generalize w3.setCell ⟨w.heap.size, 5, none⟩ (.slice A3 m3 p3) = w4 at *
      obtain ⟨y, hy⟩ : ∃ y : Hd, y = { x with p := { x.p with log := { x.p.log with es := x.p.log.es.take k ++ c.p.log.es } } } := ⟨_, rfl⟩
      obtain ⟨a', ha'⟩ : ∃ a' : Ad, a' = { ad with e := A3, ce := p3 } := ⟨_, rfl⟩
      have r24' : w4.heap[w.heap.size]? = some (.cells #[.int .i64 y.g, .int .i64 y.t, .int .i64 y.v, .int .i64 y.p.log.base, .int .i64 y.p.log.term, .slice a'.e y.p.log.es.length a'.ce, .slice a'.o y.p.cf.old.length a'.co, .slice a'.n y.p.cf.new.length a'.cn, .slice a'.l y.p.cf.lrn.length a'.cl, .slice a'.s y.p.sn.length a'.cs] 59 (0, 0)) := by
        rw [hy, ha', r24, H3.out.2.2.2.2.2.1]; rfl
      have hld := ldRow info_hard Try.underlying59 rfl r24' rfl
      have hst := stRow info_hard (cs' := #[.int .i64 y.g, .int .i64 y.t, .int .i64 y.v, .int .i64 y.p.log.base, .int .i64 y.p.log.term, .slice a'.e y.p.log.es.length a'.ce, .slice a'.o y.p.cf.old.length a'.co, .slice a'.n y.p.cf.new.length a'.cn, .slice a'.l y.p.cf.lrn.length a'.cl, .slice a'.s y.p.sn.length a'.cs]) r44 rfl rfl (by simp [Value.oneCell'])
      have r5 := setRow_heap w4 (w.heap.size + 1 + 1) _ #[.int .i64 y.g, .int .i64 y.t, .int .i64 y.v, .int .i64 y.p.log.base, .int .i64 y.p.log.term, .slice a'.e y.p.log.es.length a'.ce, .slice a'.o y.p.cf.old.length a'.co, .slice a'.n y.p.cf.new.length a'.cn, .slice a'.l y.p.cf.lrn.length a'.cl, .slice a'.s y.p.sn.length a'.cs] _ _ r44
      have tT := row_turned w4 (w.heap.size + 1 + 1) #[.int .i64 y.g, .int .i64 y.t, .int .i64 y.v, .int .i64 y.p.log.base, .int .i64 y.p.log.term, .slice a'.e y.p.log.es.length a'.ce, .slice a'.o y.p.cf.old.length a'.co, .slice a'.n y.p.cf.new.length a'.cn, .slice a'.l y.p.cf.lrn.length a'.cl, .slice a'.s y.p.sn.length a'.cs]
      generalize w4.setRow (w.heap.size + 1 + 1) #[.int .i64 y.g, .int .i64 y.t, .int .i64 y.v, .int .i64 y.p.log.base, .int .i64 y.p.log.term, .slice a'.e y.p.log.es.length a'.ce, .slice a'.o y.p.cf.old.length a'.co, .slice a'.n y.p.cf.new.length a'.cn, .slice a'.l y.p.cf.lrn.length a'.cl, .slice a'.s y.p.sn.length a'.cs] = wC at *
      have HF : Hid (wC.heap[w.heap.size + 1 + 1]? = some (.cells #[.int .i64 y.g, .int .i64 y.t, .int .i64 y.v, .int .i64 y.p.log.base, .int .i64 y.p.log.term, .slice a'.e y.p.log.es.length a'.ce, .slice a'.o y.p.cf.old.length a'.co, .slice a'.n y.p.cf.new.length a'.cn, .slice a'.l y.p.cf.lrn.length a'.cl, .slice a'.s y.p.sn.length a'.cs] 59 (0, 0)) ∧ Below w.heap.size w wC ∧ ∀ W, Turned (fun k => B ≤ k ∧ k < w.heap.size) wC W → IsPt W W.heap.size y.p a') := hid (by
        obtain ⟨_, _, hbw3, hb3, hr3, hm3, z2, hbw1⟩ := H3.out
        have hz1 := hbw1.size
        have hz3 := hb3.size
        have hz4 := hT4.size
        have hz5 := tT.size
        have hB0 := HB0.out
        have hT : Turned (fun k => k = w.heap.size ∨ k = w.heap.size + 1 + 1) w3 wC := (hT4.mono (fun k hk => .inl hk)).trans (tT.mono (fun k hk => .inr hk))
        have hB : Below w.heap.size w wC := hbw3.trans (hT.below hbw3.size (fun k hk => by omega))
        have hs2 : w.heap.size + 1 + 1 < w1.heap.size := row_lt H1.out.2.2.1
        refine ⟨r5, hB, fun W hTW => ?_⟩
        have hzW := hTW.size
        have hrow := (hr3.keep hT (fun k hk e => by have := hr3.blk k hk; omega)).keep hTW (fun k hk e => by have := hr3.blk k hk; omega)
        have hRd : Reads W B M := HM.out.2.below ((hb3.mono (by omega)).trans ((hT.below (by omega) (fun k hk => by omega)).trans (hTW.below (by omega) (fun k hk => hk.1))))
        rw [hy, ha']
        have he := ents_read hrow hRd (by omega) (fun q hq => by
          have hq' : q.e ∈ x.p.log.es.take k ++ c.p.log.es := by rw [← HM.out.1]; exact List.mem_map.2 ⟨q, hq, rfl⟩
          rcases List.mem_append.1 hq' with h | h
          · exact HX.out.1.es.num _ (List.mem_of_mem_take h)
          · exact HX.out.2.2.2.es.num _ h)
        rw [HM.out.1] at he
        have hlen : M.length = (x.p.log.es.take k ++ c.p.log.es).length := by rw [← HM.out.1, List.length_map]
        have hX := st_pt HX.out.1 hB0 hB W hTW
        exact ⟨he, hX.o, hX.n, hX.l, hX.s, ⟨⟨by rw [← hlen]; exact hrow.cap, hrow.capLe⟩, hrow.none_⟩, hX.ro, hX.rn, hX.rl, hX.rs, hX.num⟩)
      have HY := hid hy
      clear r24 r44 r24' r5 tT hT4 H3 c3 f3 hy ha'
      go_wp2_with fail
      refine bodyPost_ret (results_two rfl info_hard Try.underlying59 rfl _ _ (w.heap.size + 1 + 1) _ _ _ rfl HF.out.1 rfl) rfl ?_
      rw [HV.out, ← HY.out]
      refine ⟨y, a', 0, rfl, ⟨rfl, rfl⟩, HF.out.2.2, ?_, HF.out.2.1⟩
      rw [HY.out]
      exact HX.out.2.1
end Go.Proofs.Ytaeoccpjdjafnaa.Im
namespace Go.Proofs.Ytaeoccpjdjafnaa.Im
open Go Go.RowKit
open Rl (En Lg)
open Qu (Cf)
set_option maxRecDepth 100000
set_option linter.unusedVariables false
attribute [local go_sem ↓] loadAt_hard storeAt_hard loadAt_change storeAt_change loadAt_log1 storeAt_log1 loadAt_conf3 storeAt_conf3
local instance lo6 : Lo := ⟨0⟩
theorem sinceM_bt (g : Lg) (b t : Int) : (sinceM g b t).base = b ∧ (sinceM g b t).term = t := by
  unfold sinceM
  by_cases h : g.cutE b = 0 ∧ (g.cut b).term = t
  · rw [if_pos h]
    refine ⟨?_, h.2⟩
    have h1 := h.1
    unfold Lg.cutE at h1
    unfold Lg.cut
    by_cases hh : g.has b = true
    · rw [if_pos hh]
    · rw [if_neg hh] at h1; exact absurd h1 (by decide)
  · rw [if_neg h]; exact ⟨rfl, rfl⟩
def rsRow (x : Hd) (ad : Ad) (c : Ch) (ac : Ad) (g : Lg) (X : Option Addr × Nat) : Nat → Array Value
  | 0 => #[.int .i64 x.g, .int .i64 x.t, .int .i64 x.v, .int .i64 x.p.log.base, .int .i64 x.p.log.term, .slice ad.e x.p.log.es.length ad.ce, .slice ad.o x.p.cf.old.length ad.co, .slice ad.n x.p.cf.new.length ad.cn, .slice ad.l x.p.cf.lrn.length ad.cl, .slice ad.s x.p.sn.length ad.cs]
  | 1 => #[.int .i64 x.g, .int .i64 x.t, .int .i64 x.v, .int .i64 x.p.log.base, .int .i64 x.p.log.term, .slice ad.e x.p.log.es.length ad.ce, .slice ad.o x.p.cf.old.length ad.co, .slice ad.n x.p.cf.new.length ad.cn, .slice ad.l x.p.cf.lrn.length ad.cl, .slice ad.s x.p.sn.length ad.cs]
  | 2 => #[.int .i64 x.g, .int .i64 x.t, .int .i64 x.v, .int .i64 g.base, .int .i64 g.term, .slice X.1 g.es.length X.2, .slice ad.o x.p.cf.old.length ad.co, .slice ad.n x.p.cf.new.length ad.cn, .slice ad.l x.p.cf.lrn.length ad.cl, .slice ad.s x.p.sn.length ad.cs]
  | 3 => #[.int .i64 x.g, .int .i64 x.t, .int .i64 x.v, .int .i64 g.base, .int .i64 g.term, .slice X.1 g.es.length X.2, .slice ac.o c.p.cf.old.length ac.co, .slice ac.n c.p.cf.new.length ac.cn, .slice ac.l c.p.cf.lrn.length ac.cl, .slice ad.s x.p.sn.length ad.cs]
  | _ => #[.int .i64 x.g, .int .i64 x.t, .int .i64 x.v, .int .i64 g.base, .int .i64 g.term, .slice X.1 g.es.length X.2, .slice ac.o c.p.cf.old.length ac.co, .slice ac.n c.p.cf.new.length ac.cn, .slice ac.l c.p.cf.lrn.length ac.cl, .slice ac.s c.p.sn.length ac.cs]
theorem rsRow_0 (x : Hd) (ad : Ad) (c : Ch) (ac : Ad) (g : Lg) (X : Option Addr × Nat) (p : Nat) (h : p ≤ 0) : rsRow x ad c ac g X p = #[.int .i64 x.g, .int .i64 x.t, .int .i64 x.v, .int .i64 x.p.log.base, .int .i64 x.p.log.term, .slice ad.e x.p.log.es.length ad.ce, .slice ad.o x.p.cf.old.length ad.co, .slice ad.n x.p.cf.new.length ad.cn, .slice ad.l x.p.cf.lrn.length ad.cl, .slice ad.s x.p.sn.length ad.cs] := by
  obtain rfl : p = 0 := by omega
  rfl
theorem rsRow_4 (x : Hd) (ad : Ad) (c : Ch) (ac : Ad) (g : Lg) (X : Option Addr × Nat) (p : Nat) (h : 3 < p) : rsRow x ad c ac g X p = #[.int .i64 x.g, .int .i64 x.t, .int .i64 x.v, .int .i64 g.base, .int .i64 g.term, .slice X.1 g.es.length X.2, .slice ac.o c.p.cf.old.length ac.co, .slice ac.n c.p.cf.new.length ac.cn, .slice ac.l c.p.cf.lrn.length ac.cl, .slice ac.s c.p.sn.length ac.cs] := by
  match p, h with
  | p + 4, _ => rfl
structure RS (w0 : World) (x : Hd) (ad : Ad) (c : Ch) (ac : Ad) (g : Lg) (b2 b3 b4 lo : Nat) (X : Option Addr × Nat) (p : Nat) (w : World) : Prop where
  bel : Below w0.heap.size w0 w
  r2 : w.heap[b2]? = some (.cells (rsRow x ad c ac g X p) 59 (0, 0))
  r3 : w.heap[b3]? = some (.cells #[.int .i64 c.k, .int .i64 c.g, .int .i64 c.t, .int .i64 c.v, .int .i64 c.f, .int .i64 c.p.log.base, .int .i64 c.p.log.term, .slice ac.e c.p.log.es.length ac.ce, .slice ac.o c.p.cf.old.length ac.co, .slice ac.n c.p.cf.new.length ac.cn, .slice ac.l c.p.cf.lrn.length ac.cl, .slice ac.s c.p.sn.length ac.cs, .int .i64 c.a.x, .int .i64 c.a.p, .int .i64 c.a.r, .int .i64 c.a.b, .int .i64 c.a.v] 36 (0, 0))
  r4 : w.heap[b4]? = some (.cells #[.int .i64 0, .int .i64 0, .int .i64 0, .int .i64 0, .int .i64 0, .slice none 0 0, .slice none 0 0, .slice none 0 0, .slice none 0 0, .slice none 0 0] 59 (0, 0))
  sz : lo ≤ w.heap.size
  own : 0 < p → OwnE w lo w.heap.size X.1 X.2 g.es
theorem ldLogX {w : World} {x : Hd} {ad : Ad} {b : Nat} (h : w.heap[b]? = some (.cells #[.int .i64 x.g, .int .i64 x.t, .int .i64 x.v, .int .i64 x.p.log.base, .int .i64 x.p.log.term, .slice ad.e x.p.log.es.length ad.ce, .slice ad.o x.p.cf.old.length ad.co, .slice ad.n x.p.cf.new.length ad.cn, .slice ad.l x.p.cf.lrn.length ad.cl, .slice ad.s x.p.sn.length ad.cs] 59 (0, 0))) :
    (Instr.loadAt 28 (.pointer (some ⟨b, 3, none⟩))).run Try.prog w = .ok (.agg #[.int .i64 x.p.log.base, .int .i64 x.p.log.term, .slice ad.e x.p.log.es.length ad.ce]) w :=
  run_loadAt_mid w b 3 28 [.int .i64 x.p.log.base, .int .i64 x.p.log.term, .slice ad.e x.p.log.es.length ad.ce] _ (fun j v hv => by
    rw [row_cell h (3 + j)]
    rcases j with _ | _ | _ | j
    · simpa using hv
    · simpa using hv
    · simpa using hv
    · simp at hv) Try.underlying28 rfl (by rw [info_log33]; rfl)
theorem ldConfC {w : World} {c : Ch} {ac : Ad} {b : Nat} (h : w.heap[b]? = some (.cells #[.int .i64 c.k, .int .i64 c.g, .int .i64 c.t, .int .i64 c.v, .int .i64 c.f, .int .i64 c.p.log.base, .int .i64 c.p.log.term, .slice ac.e c.p.log.es.length ac.ce, .slice ac.o c.p.cf.old.length ac.co, .slice ac.n c.p.cf.new.length ac.cn, .slice ac.l c.p.cf.lrn.length ac.cl, .slice ac.s c.p.sn.length ac.cs, .int .i64 c.a.x, .int .i64 c.a.p, .int .i64 c.a.r, .int .i64 c.a.b, .int .i64 c.a.v] 36 (0, 0))) :
    (Instr.loadAt 31 (.pointer (some ⟨b, 8, none⟩))).run Try.prog w = .ok (.agg #[.slice ac.o c.p.cf.old.length ac.co, .slice ac.n c.p.cf.new.length ac.cn, .slice ac.l c.p.cf.lrn.length ac.cl]) w :=
  run_loadAt_mid w b 8 31 [.slice ac.o c.p.cf.old.length ac.co, .slice ac.n c.p.cf.new.length ac.cn, .slice ac.l c.p.cf.lrn.length ac.cl] _ (fun j v hv => by
    rw [row_cell h (8 + j)]
    rcases j with _ | _ | _ | j
    · simpa using hv
    · simpa using hv
    · simpa using hv
    · simp at hv) Try.underlying31 rfl (by rw [info_conf33]; rfl)
theorem run_call3 {P : Program} {a : Act} {f : FuncId} {x y z : Operand} {ty t u s : TypeId} {v1 v2 v3 : Value} {w : World} (h1 : a.eval x = v1) (h2 : a.eval y = v2) (h3 : a.eval z = v3) (hcf : (callFunc f #[v1, v2, v3]).run P w = .ok (.enter f #[v1, v2, v3]) w) : (execOp a.eval (sop (.call { callee := .value (.func f), args := #[x, y, z], argTypes := #[t, u, s] }) ty)).run P w = .ok (.enter f #[v1, v2, v3]) w := by
  generalize hρ : a.eval = ρ at h1 h2 h3 ⊢
  have hf : ρ (.func f) = .func (.func f) #[] #[] := by rw [← hρ]; rfl
  clear hρ
  unfold execOp sop
  simp [resolve, invoke, h1, h2, h3, hf, Deferred.ofValue, hcf]
def valS (x : Hd) (ad : Ad) (c : Ch) (ac : Ad) (g : Lg) (b2 b3 : Nat) (X : Option Addr × Nat) : Nat → Value
  | 0 => .pointer (some ⟨b2, 3, none⟩)
  | 1 => .agg #[.int .i64 x.p.log.base, .int .i64 x.p.log.term, .slice ad.e x.p.log.es.length ad.ce]
  | 2 => .pointer (some ⟨b3, 5, none⟩)
  | 3 => .pointer (some ⟨b3, 5, none⟩)
  | 4 => .int .i64 c.p.log.base
  | 5 => .pointer (some ⟨b3, 5, none⟩)
  | 6 => .pointer (some ⟨b3, 6, none⟩)
  | 7 => .int .i64 c.p.log.term
  | 8 => .agg #[.int .i64 g.base, .int .i64 g.term, .slice X.1 g.es.length X.2]
  | 9 => .pointer (some ⟨b3, 8, none⟩)
  | 10 => .agg #[.slice ac.o c.p.cf.old.length ac.co, .slice ac.n c.p.cf.new.length ac.cn, .slice ac.l c.p.cf.lrn.length ac.cl]
  | 11 => .pointer (some ⟨b3, 11, none⟩)
  | 12 => .slice ac.s c.p.sn.length ac.cs
  | 13 => .pointer (some ⟨b2, 3, none⟩)
  | 15 => .pointer (some ⟨b2, 6, none⟩)
  | 17 => .pointer (some ⟨b2, 9, none⟩)
  | _ => undef
def stS : Nat → Option Nat
  | 8 => some 0
  | 14 => some 1
  | 16 => some 2
  | 18 => some 3
  | _ => none
theorem valS_eq {x : Hd} {ad : Ad} {c : Ch} {ac : Ad} {g : Lg} {b2 b3 : Nat} {X X' : Option Addr × Nat} (m : Nat) (h : m ≠ 8) : valS x ad c ac g b2 b3 X' m = valS x ad c ac g b2 b3 X m := by
  unfold valS
  split <;> first | rfl | (exfalso; omega)
theorem rs_call {w0 : World} {B : Nat} {x : Hd} {ad : Ad} {c : Ch} {ac : Ad} {g : Lg} {b2 b3 b4 lo : Nat} {X : Option Addr × Nat} {w : World} (HF : Hid ((B ≤ w0.heap.size ∧ IsPt w0 B x.p ad) ∧ Rl.Ok x.p.log ∧ Rl.Few x.p.log.es ∧ (InInt c.p.log.base ∧ InInt c.p.log.term) ∧ g = sinceM x.p.log c.p.log.base c.p.log.term)) (h : RS w0 x ad c ac g b2 b3 b4 lo X 0 w) :
    Calls Try.prog 60 #[.agg #[.int .i64 x.p.log.base, .int .i64 x.p.log.term, .slice ad.e x.p.log.es.length ad.ce], .int .i64 c.p.log.base, .int .i64 c.p.log.term] w fun e w' => ∃ X' : Option Addr × Nat, e = .returned (.agg #[.int .i64 g.base, .int .i64 g.term, .slice X'.1 g.es.length X'.2]) ∧ RS w0 x ad c ac g b2 b3 b4 lo X' (0 + 1) w' := by
  obtain ⟨⟨hB, hx⟩, hok, hfew, hn, hg⟩ := HF.out
  refine (since_any x.p.log ad.e ad.ce c.p.log.base c.p.log.term x.p.log.es.length rfl hok hfew hn w ⟨(hx.es.below (h.bel.mono hB)).more (Nat.le_trans hB h.bel.size), hx.re.1, hx.re.2, hx.num⟩).mono ?_
  rintro e w' ⟨A', c', m, he, hm, ho, hb⟩
  rw [← hg] at he hm ho
  subst hm
  exact ⟨(A', c'), he, h.bel.trans (hb.mono h.bel.size), (hb.block _ (row_lt h.r2)).trans h.r2, (hb.block _ (row_lt h.r3)).trans h.r3, (hb.block _ (row_lt h.r4)).trans h.r4, Nat.le_trans h.sz hb.size, fun _ => ho.wide h.sz (Nat.le_refl _)⟩
theorem rs_store1 {w0 : World} {x : Hd} {ad : Ad} {c : Ch} {ac : Ad} {g : Lg} {b2 b3 b4 lo : Nat} {X : Option Addr × Nat} {w : World} (HB : Hid (w0.heap.size ≤ b2 ∧ b2 ≠ b3 ∧ b2 ≠ b4 ∧ b2 < lo)) (h : RS w0 x ad c ac g b2 b3 b4 lo X 1 w) :
    ∃ w', (Instr.storeAt 28 (.pointer (some ⟨b2, 3, none⟩)) (.agg #[.int .i64 g.base, .int .i64 g.term, .slice X.1 g.es.length X.2])).run Try.prog w = .ok () w' ∧ RS w0 x ad c ac g b2 b3 b4 lo X (1 + 1) w' := by
  have hr : w.heap[b2]? = some (.cells (rsRow x ad c ac g X 1) 59 (0, 0)) := h.r2
  have hst := stAt info_log33 (conf_there hr 3 3 (by simp [rsRow])) #[.int .i64 g.base, .int .i64 g.term, .slice X.1 g.es.length X.2] rfl (by simp [Value.oneCell'])
  have hT := turned_setCells b2 [.int .i64 g.base, .int .i64 g.term, .slice X.1 g.es.length X.2] w 3
  have r1 := (row_set (row_set (row_set hr 3 (.int .i64 g.base)) 4 (.int .i64 g.term)) 5 (.slice X.1 g.es.length X.2))
  have hb := HB.out
  have hz := hT.size
  refine ⟨_, hst, h.bel.trans (hT.below h.bel.size (fun k hk => by omega)), r1, (hT.block _ (row_lt h.r3) (by omega)).trans h.r3, (hT.block _ (row_lt h.r4) (by omega)).trans h.r4, Nat.le_trans h.sz hz, fun _ => ((h.own (by omega)).keep hT (fun k hk hB => by have := hB.1; omega)).wide (Nat.le_refl _) hz⟩
theorem rs_store2 {w0 : World} {x : Hd} {ad : Ad} {c : Ch} {ac : Ad} {g : Lg} {b2 b3 b4 lo : Nat} {X : Option Addr × Nat} {w : World} (HB : Hid (w0.heap.size ≤ b2 ∧ b2 ≠ b3 ∧ b2 ≠ b4 ∧ b2 < lo)) (h : RS w0 x ad c ac g b2 b3 b4 lo X 2 w) :
    ∃ w', (Instr.storeAt 31 (.pointer (some ⟨b2, 6, none⟩)) (.agg #[.slice ac.o c.p.cf.old.length ac.co, .slice ac.n c.p.cf.new.length ac.cn, .slice ac.l c.p.cf.lrn.length ac.cl])).run Try.prog w = .ok () w' ∧ RS w0 x ad c ac g b2 b3 b4 lo X (2 + 1) w' := by
  have hr : w.heap[b2]? = some (.cells (rsRow x ad c ac g X 2) 59 (0, 0)) := h.r2
  have hst := stAt info_conf33 (conf_there hr 6 3 (by simp [rsRow])) #[.slice ac.o c.p.cf.old.length ac.co, .slice ac.n c.p.cf.new.length ac.cn, .slice ac.l c.p.cf.lrn.length ac.cl] rfl (by simp [Value.oneCell'])
  have hT := turned_setCells b2 [.slice ac.o c.p.cf.old.length ac.co, .slice ac.n c.p.cf.new.length ac.cn, .slice ac.l c.p.cf.lrn.length ac.cl] w 6
  have r1 := (row_set (row_set (row_set hr 6 (.slice ac.o c.p.cf.old.length ac.co)) 7 (.slice ac.n c.p.cf.new.length ac.cn)) 8 (.slice ac.l c.p.cf.lrn.length ac.cl))
  have hb := HB.out
  have hz := hT.size
  refine ⟨_, hst, h.bel.trans (hT.below h.bel.size (fun k hk => by omega)), r1, (hT.block _ (row_lt h.r3) (by omega)).trans h.r3, (hT.block _ (row_lt h.r4) (by omega)).trans h.r4, Nat.le_trans h.sz hz, fun _ => ((h.own (by omega)).keep hT (fun k hk hB => by have := hB.1; omega)).wide (Nat.le_refl _) hz⟩
theorem rs_store3 {w0 : World} {x : Hd} {ad : Ad} {c : Ch} {ac : Ad} {g : Lg} {b2 b3 b4 lo : Nat} {X : Option Addr × Nat} {w : World} (HB : Hid (w0.heap.size ≤ b2 ∧ b2 ≠ b3 ∧ b2 ≠ b4 ∧ b2 < lo)) (h : RS w0 x ad c ac g b2 b3 b4 lo X 3 w) :
    ∃ w', (Instr.storeAt 32 (.pointer (some ⟨b2, 9, none⟩)) (.slice ac.s c.p.sn.length ac.cs)).run Try.prog w = .ok () w' ∧ RS w0 x ad c ac g b2 b3 b4 lo X (3 + 1) w' := by
  have hr : w.heap[b2]? = some (.cells (rsRow x ad c ac g X 3) 59 (0, 0)) := h.r2
  have hst : (Instr.storeAt 32 (.pointer (some ⟨b2, 9, none⟩)) (.slice ac.s c.p.sn.length ac.cs)).run Try.prog w = .ok () (w.setCell ⟨b2, 9, none⟩ (.slice ac.s c.p.sn.length ac.cs)) := by
    have hc := row_cell hr 9
    have hf := row_free hr 9
    have hc' : w.cell? ⟨b2, 9, none⟩ = some (.slice ad.s x.p.sn.length ad.cs) := hc
    clear hr HB hc
    go_simp
  have hT : Turned (fun k => k = b2) w (w.setCell ⟨b2, 9, none⟩ (.slice ac.s c.p.sn.length ac.cs)) := Turned.one _ _ _ _
  have r1 := (row_set hr 9 (.slice ac.s c.p.sn.length ac.cs))
  have hb := HB.out
  have hz := hT.size
  refine ⟨_, hst, h.bel.trans (hT.below h.bel.size (fun k hk => by omega)), r1, (hT.block _ (row_lt h.r3) (by omega)).trans h.r3, (hT.block _ (row_lt h.r4) (by omega)).trans h.r4, Nat.le_trans h.sz hz, fun _ => ((h.own (by omega)).keep hT (fun k hk hB => by have := hB.1; omega)).wide (Nat.le_refl _) hz⟩
set_option maxHeartbeats 6400000 in
theorem chg3_any (x : Hd) (ad : Ad) (c : Ch) (ac : Ad) (hk : c.k = 3) (hok : Rl.Ok x.p.log) (hfew : Rl.Few x.p.log.es) (B : Nat) (w : World) (hB : B ≤ w.heap.size) (hx : IsPt w B x.p ad) (hc : IsPt w B c.p ac) (hnx : InInt x.g ∧ InInt x.t ∧ InInt x.v) (hnc : (InInt c.k ∧ InInt c.g ∧ InInt c.t ∧ InInt c.v ∧ InInt c.f) ∧ okV c.a) :
    Calls Try.prog 30 #[.agg #[.int .i64 x.g, .int .i64 x.t, .int .i64 x.v, .int .i64 x.p.log.base, .int .i64 x.p.log.term, .slice ad.e x.p.log.es.length ad.ce, .slice ad.o x.p.cf.old.length ad.co, .slice ad.n x.p.cf.new.length ad.cn, .slice ad.l x.p.cf.lrn.length ad.cl, .slice ad.s x.p.sn.length ad.cs], .agg #[.int .i64 c.k, .int .i64 c.g, .int .i64 c.t, .int .i64 c.v, .int .i64 c.f, .int .i64 c.p.log.base, .int .i64 c.p.log.term, .slice ac.e c.p.log.es.length ac.ce, .slice ac.o c.p.cf.old.length ac.co, .slice ac.n c.p.cf.new.length ac.cn, .slice ac.l c.p.cf.lrn.length ac.cl, .slice ac.s c.p.sn.length ac.cs, .int .i64 c.a.x, .int .i64 c.a.p, .int .i64 c.a.r, .int .i64 c.a.b, .int .i64 c.a.v]] w fun e w' => Told13 B w (chgd x c) e w' := by
  obtain ⟨wA, hwA⟩ : ∃ wA, wA = (((w.alloc (.cells #[.int .i64 x.g, .int .i64 x.t, .int .i64 x.v, .int .i64 x.p.log.base, .int .i64 x.p.log.term, .slice ad.e x.p.log.es.length ad.ce, .slice ad.o x.p.cf.old.length ad.co, .slice ad.n x.p.cf.new.length ad.cn, .slice ad.l x.p.cf.lrn.length ad.cl, .slice ad.s x.p.sn.length ad.cs] 59)).alloc (.cells #[.int .i64 c.k, .int .i64 c.g, .int .i64 c.t, .int .i64 c.v, .int .i64 c.f, .int .i64 c.p.log.base, .int .i64 c.p.log.term, .slice ac.e c.p.log.es.length ac.ce, .slice ac.o c.p.cf.old.length ac.co, .slice ac.n c.p.cf.new.length ac.cn, .slice ac.l c.p.cf.lrn.length ac.cl, .slice ac.s c.p.sn.length ac.cs, .int .i64 c.a.x, .int .i64 c.a.p, .int .i64 c.a.r, .int .i64 c.a.b, .int .i64 c.a.v] 36)).alloc (.cells #[.int .i64 0, .int .i64 0, .int .i64 0, .int .i64 0, .int .i64 0, .slice none 0 0, .slice none 0 0, .slice none 0 0, .slice none 0 0, .slice none 0 0] 59)) := ⟨_, rfl⟩
  have hg := cg_start w x ad c ac
  rw [← hwA] at hg
  have k0 : wA.cell? ⟨w.heap.size + 1, 0, none⟩ = some (.int .i64 c.k) := row_cell hg.r3 0
  rw [hk] at k0
  rw [hwA] at k0
  obtain ⟨g, hgm⟩ : ∃ g, g = sinceM x.p.log c.p.log.base c.p.log.term := ⟨_, rfl⟩
  have HX := hid (And.intro hx (And.intro hnx (And.intro hnc hc)))
  have HF : Hid ((B ≤ w.heap.size ∧ IsPt w B x.p ad) ∧ Rl.Ok x.p.log ∧ Rl.Few x.p.log.es ∧ (InInt c.p.log.base ∧ InInt c.p.log.term) ∧ g = sinceM x.p.log c.p.log.base c.p.log.term) := hid ⟨⟨hB, hx⟩, hok, hfew, hc.num, hgm⟩
  have HV : Hid (chgd x c = some { x with p := ⟨g, c.p.cf, c.p.sn⟩ }) := hid (by
    unfold chgd
    rw [if_neg (by rw [hk]; decide), if_neg (by rw [hk]; decide), ← hgm])
  have HG := hid hg
  clear hg hx hnx hnc hc hk hok hfew hgm hB
  go_enter Try.func30, Try.ntmps30
  go_wp2_with fail
  rw [← hwA]
  clear hwA k0
  obtain ⟨b2, hb2⟩ : ∃ b, b = w.heap.size := ⟨_, rfl⟩
  obtain ⟨b3, hb3⟩ : ∃ b, b = w.heap.size + 1 := ⟨_, rfl⟩
  obtain ⟨b4, hb4⟩ : ∃ b, b = w.heap.size + 1 + 1 := ⟨_, rfl⟩
  rw [← hb4, ← hb3, ← hb2]
  have HB : Hid (w.heap.size ≤ b2 ∧ b2 ≠ b3 ∧ b2 ≠ b4 ∧ b2 < wA.heap.size) := hid (by
    have := row_lt HG.out.r4
    exact ⟨by omega, by omega, by omega, by omega⟩)
  have HR : Hid (RS w x ad c ac g b2 b3 b4 wA.heap.size (none, 0) 0 wA) := hid (by
    have h := HG.out
    exact ⟨h.bel, by rw [hb2]; exact h.r2, by rw [hb3]; exact h.r3, by rw [hb4]; exact h.r4, Nat.le_refl _, fun e => by omega⟩)
  have HB4 := hid (And.intro hb2 hb4)
  clear hb2 hb3 hb4 HG
  generalize hlo : wA.heap.size = lo at *
  refine region_calls (C := ⟨_, 77, stS, valS x ad c ac g b2 b3, RS w x ad c ac g b2 b3 b4 lo⟩) rfl (by kernel_rfl) rfl (none, 0) ?inv (by kernel_rfl) ?arms ?he
  case inv =>
    have h := HR.out
    exact ⟨h.bel.drew, h.r2, h.r3, h.r4, h.sz, fun e => by omega⟩
  case arms =>
    intro hC
    exact ⟨arm_pure hC rfl rfl (fun X p listed a W h hu ha => run_fad (show a.eval (.tmp 2) = .pointer (some ⟨b2, 0, none⟩) from h.kept 2 (by kernel_rfl)) (show (Instr.fieldAt _ _ _).run _ W = .ok (.pointer (some ⟨b2, 3, none⟩)) W by go_simp)),
      arm_pure hC rfl rfl (fun X p listed a W h hu ha => run_load (show a.eval (.tmp 60) = .pointer (some ⟨b2, 3, none⟩) from h.slots 0 _ 60 rfl rfl (ha ⟨0, .data⟩ (by simp) rfl)) (by
        have hp := h.ahead (m := 8) (k := 0) rfl rfl hu ⟨⟨1, .data⟩, by simp, rfl, rfl⟩
        have hp' : p = 0 ∨ 0 < p := by omega
        have hi : RS w x ad c ac g b2 b3 b4 lo X p W := h.inv
        have hz := rsRow_0 x ad c ac g X p (Nat.le_trans hp (Nat.le_refl _))
        exact ldLogX (hz ▸ hi.r2))),
      arm_pure hC rfl rfl (fun X p listed a W h hu ha => run_fad (show a.eval (.tmp 3) = .pointer (some ⟨b3, 0, none⟩) from h.kept 3 (by kernel_rfl)) (show (Instr.fieldAt _ _ _).run _ W = .ok (.pointer (some ⟨b3, 5, none⟩)) W by go_simp)),
      arm_pure hC rfl rfl (fun X p listed a W h hu ha => run_fad (show a.eval (.tmp 62) = .pointer (some ⟨b3, 5, none⟩) from h.slots 2 _ 62 rfl rfl (ha ⟨2, .data⟩ (by simp) rfl)) (show (Instr.fieldAt _ _ _).run _ W = .ok (.pointer (some ⟨b3, 5, none⟩)) W by go_simp)),
      arm_pure hC rfl rfl (fun X p listed a W h hu ha => run_load (show a.eval (.tmp 63) = .pointer (some ⟨b3, 5, none⟩) from h.slots 3 _ 63 rfl rfl (ha ⟨3, .data⟩ (by simp) rfl)) (by
        have hi : RS w x ad c ac g b2 b3 b4 lo X p W := h.inv
        have hc : W.cell? ⟨b3, 5, none⟩ = some (.int .i64 c.p.log.base) := row_cell hi.r3 5
        show (Instr.loadAt _ _).run _ W = .ok (.int .i64 c.p.log.base) W
        clear h ha hi
        go_simp)),
      arm_pure hC rfl rfl (fun X p listed a W h hu ha => run_fad (show a.eval (.tmp 3) = .pointer (some ⟨b3, 0, none⟩) from h.kept 3 (by kernel_rfl)) (show (Instr.fieldAt _ _ _).run _ W = .ok (.pointer (some ⟨b3, 5, none⟩)) W by go_simp)),
      arm_pure hC rfl rfl (fun X p listed a W h hu ha => run_fad (show a.eval (.tmp 65) = .pointer (some ⟨b3, 5, none⟩) from h.slots 5 _ 65 rfl rfl (ha ⟨5, .data⟩ (by simp) rfl)) (show (Instr.fieldAt _ _ _).run _ W = .ok (.pointer (some ⟨b3, 6, none⟩)) W by go_simp)),
      arm_pure hC rfl rfl (fun X p listed a W h hu ha => run_load (show a.eval (.tmp 66) = .pointer (some ⟨b3, 6, none⟩) from h.slots 6 _ 66 rfl rfl (ha ⟨6, .data⟩ (by simp) rfl)) (by
        have hi : RS w x ad c ac g b2 b3 b4 lo X p W := h.inv
        have hc : W.cell? ⟨b3, 6, none⟩ = some (.int .i64 c.p.log.term) := row_cell hi.r3 6
        show (Instr.loadAt _ _).run _ W = .ok (.int .i64 c.p.log.term) W
        clear h ha hi
        go_simp)),
      arm_call (k := 0) hC rfl rfl (.inl rfl) (fun X listed a W h hu ha => .inr ⟨60, #[.agg #[.int .i64 x.p.log.base, .int .i64 x.p.log.term, .slice ad.e x.p.log.es.length ad.ce], .int .i64 c.p.log.base, .int .i64 c.p.log.term], run_call3 (show a.eval (.tmp 61) = .agg #[.int .i64 x.p.log.base, .int .i64 x.p.log.term, .slice ad.e x.p.log.es.length ad.ce] from h.slots 1 _ 61 rfl rfl (ha ⟨1, .data⟩ (by simp) rfl)) (show a.eval (.tmp 64) = .int .i64 c.p.log.base from h.slots 4 _ 64 rfl rfl (ha ⟨4, .data⟩ (by simp) rfl)) (show a.eval (.tmp 67) = .int .i64 c.p.log.term from h.slots 7 _ 67 rfl rfl (ha ⟨7, .data⟩ (by simp) rfl)) (by go_simp), (rs_call HF h.inv).mono (by
        rintro e W' ⟨X', rfl, h2⟩
        exact ⟨_, rfl, X', fun d hd => rfl, h2, fun m hm hne hs hl => valS_eq m (fun e => hne e)⟩)⟩),
      arm_pure hC rfl rfl (fun X p listed a W h hu ha => run_fad (show a.eval (.tmp 3) = .pointer (some ⟨b3, 0, none⟩) from h.kept 3 (by kernel_rfl)) (show (Instr.fieldAt _ _ _).run _ W = .ok (.pointer (some ⟨b3, 8, none⟩)) W by go_simp)),
      arm_pure hC rfl rfl (fun X p listed a W h hu ha => run_load (show a.eval (.tmp 69) = .pointer (some ⟨b3, 8, none⟩) from h.slots 9 _ 69 rfl rfl (ha ⟨9, .data⟩ (by simp) rfl)) (by
        have hi : RS w x ad c ac g b2 b3 b4 lo X p W := h.inv
        exact ldConfC hi.r3)),
      arm_pure hC rfl rfl (fun X p listed a W h hu ha => run_fad (show a.eval (.tmp 3) = .pointer (some ⟨b3, 0, none⟩) from h.kept 3 (by kernel_rfl)) (show (Instr.fieldAt _ _ _).run _ W = .ok (.pointer (some ⟨b3, 11, none⟩)) W by go_simp)),
      arm_pure hC rfl rfl (fun X p listed a W h hu ha => run_load (show a.eval (.tmp 71) = .pointer (some ⟨b3, 11, none⟩) from h.slots 11 _ 71 rfl rfl (ha ⟨11, .data⟩ (by simp) rfl)) (by
        have hi : RS w x ad c ac g b2 b3 b4 lo X p W := h.inv
        have hc : W.cell? ⟨b3, 11, none⟩ = some (.slice ac.s c.p.sn.length ac.cs) := row_cell hi.r3 11
        show (Instr.loadAt _ _).run _ W = .ok (.slice ac.s c.p.sn.length ac.cs) W
        clear h ha hi
        go_simp)),
      arm_pure hC rfl rfl (fun X p listed a W h hu ha => run_fad (show a.eval (.tmp 2) = .pointer (some ⟨b2, 0, none⟩) from h.kept 2 (by kernel_rfl)) (show (Instr.fieldAt _ _ _).run _ W = .ok (.pointer (some ⟨b2, 3, none⟩)) W by go_simp)),
      arm_store (k := 1) hC rfl rfl rfl (.inr ⟨8, (show 8 < 19 by decide), rfl, ⟨8, .chain⟩, by simp, rfl, rfl⟩) (fun X listed a W h hu ha => by
        obtain ⟨W', q1, q2⟩ := rs_store1 HB h.inv
        exact ⟨W', run_store (show a.eval (.tmp 73) = .pointer (some ⟨b2, 3, none⟩) from h.slots 13 _ 73 rfl rfl (ha ⟨13, .data⟩ (by simp) rfl)) (show a.eval (.tmp 68) = .agg #[.int .i64 g.base, .int .i64 g.term, .slice X.1 g.es.length X.2] from h.slots 8 _ 68 rfl rfl (ha ⟨8, .data⟩ (by simp) rfl)) q1, q2⟩),
      arm_pure hC rfl rfl (fun X p listed a W h hu ha => run_fad (show a.eval (.tmp 2) = .pointer (some ⟨b2, 0, none⟩) from h.kept 2 (by kernel_rfl)) (show (Instr.fieldAt _ _ _).run _ W = .ok (.pointer (some ⟨b2, 6, none⟩)) W by go_simp)),
      arm_store (k := 2) hC rfl rfl rfl (.inr ⟨14, (show 14 < 19 by decide), rfl, ⟨14, .chain⟩, by simp, rfl, rfl⟩) (fun X listed a W h hu ha => by
        obtain ⟨W', q1, q2⟩ := rs_store2 HB h.inv
        exact ⟨W', run_store (show a.eval (.tmp 74) = .pointer (some ⟨b2, 6, none⟩) from h.slots 15 _ 74 rfl rfl (ha ⟨15, .data⟩ (by simp) rfl)) (show a.eval (.tmp 70) = .agg #[.slice ac.o c.p.cf.old.length ac.co, .slice ac.n c.p.cf.new.length ac.cn, .slice ac.l c.p.cf.lrn.length ac.cl] from h.slots 10 _ 70 rfl rfl (ha ⟨10, .data⟩ (by simp) rfl)) q1, q2⟩),
      arm_pure hC rfl rfl (fun X p listed a W h hu ha => run_fad (show a.eval (.tmp 2) = .pointer (some ⟨b2, 0, none⟩) from h.kept 2 (by kernel_rfl)) (show (Instr.fieldAt _ _ _).run _ W = .ok (.pointer (some ⟨b2, 9, none⟩)) W by go_simp)),
      arm_store (k := 3) hC rfl rfl rfl (.inr ⟨16, (show 16 < 19 by decide), rfl, ⟨16, .chain⟩, by simp, rfl, rfl⟩) (fun X listed a W h hu ha => by
        obtain ⟨W', q1, q2⟩ := rs_store3 HB h.inv
        exact ⟨W', run_store (show a.eval (.tmp 75) = .pointer (some ⟨b2, 9, none⟩) from h.slots 17 _ 75 rfl rfl (ha ⟨17, .data⟩ (by simp) rfl)) (show a.eval (.tmp 72) = .slice ac.s c.p.sn.length ac.cs from h.slots 12 _ 72 rfl rfl (ha ⟨12, .data⟩ (by simp) rfl)) q1, q2⟩),
      trivial⟩
  case he =>
    intro listed a w3 X p hJ hall
    have hp3 : 3 < p := (hJ.call 18 (show 18 < 19 by decide) 3 rfl).1 (hall 18 (show 18 < 19 by decide))
    have hR : RS w x ad c ac g b2 b3 b4 lo X p w3 := hJ.inv
    have H3 := hid hR
    have HJ := hid hp3
    have k2 : a.eval (.tmp 2) = .pointer (some ⟨b2, 0, none⟩) := hJ.kept 2 (by kernel_rfl)
    have k4 : a.eval (.tmp 4) = .pointer (some ⟨b4, 0, none⟩) := hJ.kept 4 (by kernel_rfl)
    have hts : a.tmps.size = 77 := hJ.size
    have k2' : (a.tmps[2]?).getD undef = .pointer (some ⟨b2, 0, none⟩) := by rw [← Array.getD_eq_getD_getElem?]; exact k2
    have k4' : (a.tmps[4]?).getD undef = .pointer (some ⟨b4, 0, none⟩) := by rw [← Array.getD_eq_getD_getElem?]; exact k4
    have hdf : a.defers = [] := hJ.defers
    obtain ⟨tmps, defers⟩ := a
    obtain rfl : defers = [] := hdf
    clear hJ hall hR k2 k4
    have hl := act_listing tmps 77 hts
    have h2 : (List.range 77).map (fun i => (tmps[i]?).getD undef) = [(tmps[0]?).getD undef, (tmps[1]?).getD undef, (tmps[2]?).getD undef, (tmps[3]?).getD undef, (tmps[4]?).getD undef, (tmps[5]?).getD undef, (tmps[6]?).getD undef, (tmps[7]?).getD undef, (tmps[8]?).getD undef, (tmps[9]?).getD undef, (tmps[10]?).getD undef, (tmps[11]?).getD undef, (tmps[12]?).getD undef, (tmps[13]?).getD undef, (tmps[14]?).getD undef, (tmps[15]?).getD undef, (tmps[16]?).getD undef, (tmps[17]?).getD undef, (tmps[18]?).getD undef, (tmps[19]?).getD undef, (tmps[20]?).getD undef, (tmps[21]?).getD undef, (tmps[22]?).getD undef, (tmps[23]?).getD undef, (tmps[24]?).getD undef, (tmps[25]?).getD undef, (tmps[26]?).getD undef, (tmps[27]?).getD undef, (tmps[28]?).getD undef, (tmps[29]?).getD undef, (tmps[30]?).getD undef, (tmps[31]?).getD undef, (tmps[32]?).getD undef, (tmps[33]?).getD undef, (tmps[34]?).getD undef, (tmps[35]?).getD undef, (tmps[36]?).getD undef, (tmps[37]?).getD undef, (tmps[38]?).getD undef, (tmps[39]?).getD undef, (tmps[40]?).getD undef, (tmps[41]?).getD undef, (tmps[42]?).getD undef, (tmps[43]?).getD undef, (tmps[44]?).getD undef, (tmps[45]?).getD undef, (tmps[46]?).getD undef, (tmps[47]?).getD undef, (tmps[48]?).getD undef, (tmps[49]?).getD undef, (tmps[50]?).getD undef, (tmps[51]?).getD undef, (tmps[52]?).getD undef, (tmps[53]?).getD undef, (tmps[54]?).getD undef, (tmps[55]?).getD undef, (tmps[56]?).getD undef, (tmps[57]?).getD undef, (tmps[58]?).getD undef, (tmps[59]?).getD undef, (tmps[60]?).getD undef, (tmps[61]?).getD undef, (tmps[62]?).getD undef, (tmps[63]?).getD undef, (tmps[64]?).getD undef, (tmps[65]?).getD undef, (tmps[66]?).getD undef, (tmps[67]?).getD undef, (tmps[68]?).getD undef, (tmps[69]?).getD undef, (tmps[70]?).getD undef, (tmps[71]?).getD undef, (tmps[72]?).getD undef, (tmps[73]?).getD undef, (tmps[74]?).getD undef, (tmps[75]?).getD undef, (tmps[76]?).getD undef] := by kernel_rfl
    rw [h2, k2', k4'] at hl
    clear h2 k2' k4' hts
    generalize (tmps[0]?).getD undef = y0 at hl
    generalize (tmps[1]?).getD undef = y1 at hl
    generalize (tmps[3]?).getD undef = y3 at hl
    generalize (tmps[5]?).getD undef = y5 at hl
    generalize (tmps[6]?).getD undef = y6 at hl
    generalize (tmps[7]?).getD undef = y7 at hl
    generalize (tmps[8]?).getD undef = y8 at hl
    generalize (tmps[9]?).getD undef = y9 at hl
    generalize (tmps[10]?).getD undef = y10 at hl
    generalize (tmps[11]?).getD undef = y11 at hl
    generalize (tmps[12]?).getD undef = y12 at hl
    generalize (tmps[13]?).getD undef = y13 at hl
    generalize (tmps[14]?).getD undef = y14 at hl
    generalize (tmps[15]?).getD undef = y15 at hl
    generalize (tmps[16]?).getD undef = y16 at hl
    generalize (tmps[17]?).getD undef = y17 at hl
    generalize (tmps[18]?).getD undef = y18 at hl
    generalize (tmps[19]?).getD undef = y19 at hl
    generalize (tmps[20]?).getD undef = y20 at hl
    generalize (tmps[21]?).getD undef = y21 at hl
    generalize (tmps[22]?).getD undef = y22 at hl
    generalize (tmps[23]?).getD undef = y23 at hl
    generalize (tmps[24]?).getD undef = y24 at hl
    generalize (tmps[25]?).getD undef = y25 at hl
    generalize (tmps[26]?).getD undef = y26 at hl
    generalize (tmps[27]?).getD undef = y27 at hl
    generalize (tmps[28]?).getD undef = y28 at hl
    generalize (tmps[29]?).getD undef = y29 at hl
    generalize (tmps[30]?).getD undef = y30 at hl
    generalize (tmps[31]?).getD undef = y31 at hl
    generalize (tmps[32]?).getD undef = y32 at hl
    generalize (tmps[33]?).getD undef = y33 at hl
    generalize (tmps[34]?).getD undef = y34 at hl
    generalize (tmps[35]?).getD undef = y35 at hl
    generalize (tmps[36]?).getD undef = y36 at hl
    generalize (tmps[37]?).getD undef = y37 at hl
    generalize (tmps[38]?).getD undef = y38 at hl
    generalize (tmps[39]?).getD undef = y39 at hl
    generalize (tmps[40]?).getD undef = y40 at hl
    generalize (tmps[41]?).getD undef = y41 at hl
    generalize (tmps[42]?).getD undef = y42 at hl
    generalize (tmps[43]?).getD undef = y43 at hl
    generalize (tmps[44]?).getD undef = y44 at hl
    generalize (tmps[45]?).getD undef = y45 at hl
    generalize (tmps[46]?).getD undef = y46 at hl
    generalize (tmps[47]?).getD undef = y47 at hl
    generalize (tmps[48]?).getD undef = y48 at hl
    generalize (tmps[49]?).getD undef = y49 at hl
    generalize (tmps[50]?).getD undef = y50 at hl
    generalize (tmps[51]?).getD undef = y51 at hl
    generalize (tmps[52]?).getD undef = y52 at hl
    generalize (tmps[53]?).getD undef = y53 at hl
    generalize (tmps[54]?).getD undef = y54 at hl
    generalize (tmps[55]?).getD undef = y55 at hl
    generalize (tmps[56]?).getD undef = y56 at hl
    generalize (tmps[57]?).getD undef = y57 at hl
    generalize (tmps[58]?).getD undef = y58 at hl
    generalize (tmps[59]?).getD undef = y59 at hl
    generalize (tmps[60]?).getD undef = y60 at hl
    generalize (tmps[61]?).getD undef = y61 at hl
    generalize (tmps[62]?).getD undef = y62 at hl
    generalize (tmps[63]?).getD undef = y63 at hl
    generalize (tmps[64]?).getD undef = y64 at hl
    generalize (tmps[65]?).getD undef = y65 at hl
    generalize (tmps[66]?).getD undef = y66 at hl
    generalize (tmps[67]?).getD undef = y67 at hl
    generalize (tmps[68]?).getD undef = y68 at hl
    generalize (tmps[69]?).getD undef = y69 at hl
    generalize (tmps[70]?).getD undef = y70 at hl
    generalize (tmps[71]?).getD undef = y71 at hl
    generalize (tmps[72]?).getD undef = y72 at hl
    generalize (tmps[73]?).getD undef = y73 at hl
    generalize (tmps[74]?).getD undef = y74 at hl
    generalize (tmps[75]?).getD undef = y75 at hl
    generalize (tmps[76]?).getD undef = y76 at hl
    subst hl
    obtain ⟨y, hy⟩ : ∃ y : Hd, y = { x with p := ⟨g, c.p.cf, c.p.sn⟩ } := ⟨_, rfl⟩
    obtain ⟨a', ha'⟩ : ∃ a' : Ad, a' = ⟨X.1, X.2, ac.o, ac.co, ac.n, ac.cn, ac.l, ac.cl, ac.s, ac.cs⟩ := ⟨_, rfl⟩
    have r2 : w3.heap[b2]? = some (.cells #[.int .i64 y.g, .int .i64 y.t, .int .i64 y.v, .int .i64 y.p.log.base, .int .i64 y.p.log.term, .slice a'.e y.p.log.es.length a'.ce, .slice a'.o y.p.cf.old.length a'.co, .slice a'.n y.p.cf.new.length a'.cn, .slice a'.l y.p.cf.lrn.length a'.cl, .slice a'.s y.p.sn.length a'.cs] 59 (0, 0)) := by
      have h := H3.out.r2
      rw [rsRow_4 _ _ _ _ _ _ p HJ.out] at h
      rw [hy, ha']; exact h
    have hld := ldRow info_hard Try.underlying59 rfl r2 rfl
    have hst := stRow info_hard (cs' := #[.int .i64 y.g, .int .i64 y.t, .int .i64 y.v, .int .i64 y.p.log.base, .int .i64 y.p.log.term, .slice a'.e y.p.log.es.length a'.ce, .slice a'.o y.p.cf.old.length a'.co, .slice a'.n y.p.cf.new.length a'.cn, .slice a'.l y.p.cf.lrn.length a'.cl, .slice a'.s y.p.sn.length a'.cs]) H3.out.r4 rfl rfl (by simp [Value.oneCell'])
    have r5 := setRow_heap w3 b4 _ #[.int .i64 y.g, .int .i64 y.t, .int .i64 y.v, .int .i64 y.p.log.base, .int .i64 y.p.log.term, .slice a'.e y.p.log.es.length a'.ce, .slice a'.o y.p.cf.old.length a'.co, .slice a'.n y.p.cf.new.length a'.cn, .slice a'.l y.p.cf.lrn.length a'.cl, .slice a'.s y.p.sn.length a'.cs] _ _ H3.out.r4
    have tT := row_turned w3 b4 #[.int .i64 y.g, .int .i64 y.t, .int .i64 y.v, .int .i64 y.p.log.base, .int .i64 y.p.log.term, .slice a'.e y.p.log.es.length a'.ce, .slice a'.o y.p.cf.old.length a'.co, .slice a'.n y.p.cf.new.length a'.cn, .slice a'.l y.p.cf.lrn.length a'.cl, .slice a'.s y.p.sn.length a'.cs]
    generalize w3.setRow b4 #[.int .i64 y.g, .int .i64 y.t, .int .i64 y.v, .int .i64 y.p.log.base, .int .i64 y.p.log.term, .slice a'.e y.p.log.es.length a'.ce, .slice a'.o y.p.cf.old.length a'.co, .slice a'.n y.p.cf.new.length a'.cn, .slice a'.l y.p.cf.lrn.length a'.cl, .slice a'.s y.p.sn.length a'.cs] = wC at *
    have HZ : Hid (wC.heap[b4]? = some (.cells #[.int .i64 y.g, .int .i64 y.t, .int .i64 y.v, .int .i64 y.p.log.base, .int .i64 y.p.log.term, .slice a'.e y.p.log.es.length a'.ce, .slice a'.o y.p.cf.old.length a'.co, .slice a'.n y.p.cf.new.length a'.cn, .slice a'.l y.p.cf.lrn.length a'.cl, .slice a'.s y.p.sn.length a'.cs] 59 (0, 0)) ∧ Below w.heap.size w wC ∧ (∀ W, Turned (fun k => B ≤ k ∧ k < w.heap.size) wC W → IsPt W W.heap.size y.p a') ∧ (InInt y.g ∧ InInt y.t ∧ InInt y.v)) := hid (by
      have hb := HB.out
      have hb4 := HB4.out
      have hlw := hlo
      have hB : Below w.heap.size w wC := H3.out.bel.trans (tT.below H3.out.bel.size (fun k hk => by omega))
      have hq := row_lt HR.out.r4
      have ho3 := ((H3.out.own (by have := HJ.out; omega)).keep tT (fun k hk hB => by have := hB.1; omega)).wide (Nat.le_refl _) tT.size
      have h2 := HX.out.2.1
      refine ⟨r5, hB, fun W hTW => ?_, by rw [hy]; exact h2⟩
      rw [hy, ha']
      have hX := st_pt HX.out.2.2.2 HF.out.1.1 hB W hTW
      have hlw := H3.out.sz
      have ho := (ho3.keep hTW (fun k hk hBl => by have := hBl.1; omega)).wide (Nat.le_refl _) hTW.size
      have hbt := sinceM_bt x.p.log c.p.log.base c.p.log.term
      have hn := HF.out.2.2.2.1
      have hgm := HF.out.2.2.2.2
      refine ⟨ho.reads, hX.o, hX.n, hX.l, hX.s, ⟨ho.room, ho.none_⟩, hX.ro, hX.rn, hX.rl, hX.rs, ?_⟩
      show InInt g.base ∧ InInt g.term
      rw [hgm, hbt.1, hbt.2]
      exact hn)
    have HY := hid hy
    clear r2 r5 tT hy ha'
    go_wp2_with fail
    refine bodyPost_ret (results_two rfl info_hard Try.underlying59 rfl _ _ b4 _ _ _ rfl HZ.out.1 rfl) rfl ?_
    rw [HV.out, ← HY.out]
    exact ⟨y, a', 0, rfl, ⟨rfl, rfl⟩, HZ.out.2.2.1, HZ.out.2.2.2, HZ.out.2.1⟩
theorem changed_any (x : Hd) (ad : Ad) (c : Ch) (ac : Ad) (hk : c.k = 1 ∨ c.k = 2 ∨ c.k = 3) (hok : Rl.Ok x.p.log) (hfew : Rl.Few x.p.log.es) (hcl : c.p.log.es.length ≤ 20000) (B : Nat) (w : World) (hB : B ≤ w.heap.size) (hx : IsPt w B x.p ad) (hc : IsPt w B c.p ac) (hnx : InInt x.g ∧ InInt x.t ∧ InInt x.v) (hnc : (InInt c.k ∧ InInt c.g ∧ InInt c.t ∧ InInt c.v ∧ InInt c.f) ∧ okV c.a) :
    Calls Try.prog 30 #[.agg #[.int .i64 x.g, .int .i64 x.t, .int .i64 x.v, .int .i64 x.p.log.base, .int .i64 x.p.log.term, .slice ad.e x.p.log.es.length ad.ce, .slice ad.o x.p.cf.old.length ad.co, .slice ad.n x.p.cf.new.length ad.cn, .slice ad.l x.p.cf.lrn.length ad.cl, .slice ad.s x.p.sn.length ad.cs], .agg #[.int .i64 c.k, .int .i64 c.g, .int .i64 c.t, .int .i64 c.v, .int .i64 c.f, .int .i64 c.p.log.base, .int .i64 c.p.log.term, .slice ac.e c.p.log.es.length ac.ce, .slice ac.o c.p.cf.old.length ac.co, .slice ac.n c.p.cf.new.length ac.cn, .slice ac.l c.p.cf.lrn.length ac.cl, .slice ac.s c.p.sn.length ac.cs, .int .i64 c.a.x, .int .i64 c.a.p, .int .i64 c.a.r, .int .i64 c.a.b, .int .i64 c.a.v]] w fun e w' => Told13 B w (chgd x c) e w' := by
  rcases hk with h | h | h
  · exact chg1_any x ad c ac h B w hB hx hnx hnc
  · exact chg2_any x ad c ac h hok hcl B w hB hx hc hnx hnc
  · exact chg3_any x ad c ac h hok hfew B w hB hx hc hnx hnc
end Go.Proofs.Ytaeoccpjdjafnaa.Im
namespace Go.Proofs.Ytaeoccpjdjafnaa.Im
open Go.RowKit
open Rl (En Lg)
open Qu (Cf)
set_option maxRecDepth 100000
set_option linter.unusedVariables false
def cmpI (a b : Int) : Int := if a < b then -1 else if b < a then 1 else 0
theorem isNaN_any (a : Int) (w : World) : Calls Try.prog 87 #[.int .i64 a] w fun e w' => e = .returned (.bool false) ∧ w = w' := by
  go_enter Try.func87, Try.ntmps87
  go_wp2
  go_ret
  exact ⟨rfl, rfl⟩
set_option maxHeartbeats 800000 in
theorem cmp_any (a b : Int) (w : World) : Calls Try.prog 57 #[.int .i64 a, .int .i64 b] w fun e w' => e = .returned (.int .i64 (cmpI a b)) ∧ w = w' := by
  have H1 := hid (isNaN_any a w)
  have H2 := hid (isNaN_any b w)
  by_cases h : a < b
  · have HV : Hid (cmpI a b = -1) := hid (by unfold cmpI; rw [if_pos h])
    go_enter Try.func57, Try.ntmps57
    go_wp2_with fail
    refine H1.out.mono ?_
    rintro e w1 ⟨rfl, rfl⟩
    go_wp2_with fail
    refine H2.out.mono ?_
    rintro e w1 ⟨rfl, rfl⟩
    go_wp2_with fail
    go_ret
    exact ⟨ret_int HV.out.symm, rfl⟩
  · by_cases h2 : b < a
    · have HV : Hid (cmpI a b = 1) := hid (by unfold cmpI; rw [if_neg h, if_pos h2])
      go_enter Try.func57, Try.ntmps57
      go_wp2_with fail
      refine H1.out.mono ?_
      rintro e w1 ⟨rfl, rfl⟩
      go_wp2_with fail
      refine H2.out.mono ?_
      rintro e w1 ⟨rfl, rfl⟩
      go_wp2_with fail
      go_ret
      exact ⟨ret_int HV.out.symm, rfl⟩
    · have HV : Hid (cmpI a b = 0) := hid (by unfold cmpI; rw [if_neg h, if_neg h2])
      go_enter Try.func57, Try.ntmps57
      go_wp2_with fail
      refine H1.out.mono ?_
      rintro e w1 ⟨rfl, rfl⟩
      go_wp2_with fail
      refine H2.out.mono ?_
      rintro e w1 ⟨rfl, rfl⟩
      go_wp2_with fail
      go_ret
      exact ⟨ret_int HV.out.symm, rfl⟩
set_option maxHeartbeats 1600000 in
theorem byGroup_any (h k : Hd) (a b : Ad) (w : World) : Calls Try.prog 29 #[.agg #[.int .i64 h.g, .int .i64 h.t, .int .i64 h.v, .int .i64 h.p.log.base, .int .i64 h.p.log.term, .slice a.e h.p.log.es.length a.ce, .slice a.o h.p.cf.old.length a.co, .slice a.n h.p.cf.new.length a.cn, .slice a.l h.p.cf.lrn.length a.cl, .slice a.s h.p.sn.length a.cs], .agg #[.int .i64 k.g, .int .i64 k.t, .int .i64 k.v, .int .i64 k.p.log.base, .int .i64 k.p.log.term, .slice b.e k.p.log.es.length b.ce, .slice b.o k.p.cf.old.length b.co, .slice b.n k.p.cf.new.length b.cn, .slice b.l k.p.cf.lrn.length b.cl, .slice b.s k.p.sn.length b.cs]] w fun e w' => e = .returned (.int .i64 (cmpI h.g k.g)) ∧ Below w.heap.size w w' := by
  obtain ⟨w2, hw2⟩ : ∃ w2, w2 = (w.alloc (.cells #[.int .i64 h.g, .int .i64 h.t, .int .i64 h.v, .int .i64 h.p.log.base, .int .i64 h.p.log.term, .slice a.e h.p.log.es.length a.ce, .slice a.o h.p.cf.old.length a.co, .slice a.n h.p.cf.new.length a.cn, .slice a.l h.p.cf.lrn.length a.cl, .slice a.s h.p.sn.length a.cs] 59)).alloc (.cells #[.int .i64 k.g, .int .i64 k.t, .int .i64 k.v, .int .i64 k.p.log.base, .int .i64 k.p.log.term, .slice b.e k.p.log.es.length b.ce, .slice b.o k.p.cf.old.length b.co, .slice b.n k.p.cf.new.length b.cn, .slice b.l k.p.cf.lrn.length b.cl, .slice b.s k.p.sn.length b.cs] 59) := ⟨_, rfl⟩
  have hB : Below w.heap.size w w2 := by
    rw [hw2]; exact ((Below.refl _ w).alloc (Nat.le_refl _) _).alloc (by simp) _
  have HC := hid (cmp_any h.g k.g)
  have HB := hid hB
  clear hB
  go_enter Try.func29, Try.ntmps29
  go_wp2_with fail
  rw [← hw2]
  refine (HC.out w2).mono ?_
  rintro e w3 ⟨rfl, rfl⟩
  clear hw2
  go_wp2_with fail
  go_ret
  exact ⟨rfl, HB.out⟩
end Go.Proofs.Ytaeoccpjdjafnaa.Im
namespace Go.Proofs.Ytaeoccpjdjafnaa.Im
open Go.RowKit
open Rl (En Lg)
open Qu (Cf)
set_option maxRecDepth 100000
set_option linter.unusedVariables false
def orI : List Int → Int
  | [] => 0
  | x :: r => if x = 0 then orI r else x
theorem orI_next (L : List Int) (k : Nat) (h : k < L.length) : orI (L.drop k) = if L[k] = 0 then orI (L.drop (k + 1)) else L[k] := by
  rw [List.drop_eq_getElem_cons h]; rfl
set_option maxHeartbeats 1600000 in
theorem or_any (B : Nat) (A : Option Addr) (c : Nat) (L : List Int) (n : Nat) (hn : L.length = n) (hl : n ≤ 1000) (w : World) (h : IsInts w B A L) :
    Calls Try.prog 64 #[.slice A n c] w fun e w' => e = .returned (.int .i64 (orI L)) ∧ w = w' := by
  go_enter Try.func64, Try.ntmps64
  go_wp2_with fail
  go_loop [5, 8] (fun _ i => ∃ k : Nat, k ≤ n ∧ i = .int .i64 k ∧ Hid (orI (L.drop k) = orI L)) (fun _ i => n - (RowKit.intOf i).toNat)
  case atStart => exact ⟨0, by omega, rfl, hid (by simp)⟩
  case round =>
    obtain ⟨k, hk, rfl, HK⟩ := hrel
    by_cases hlt : k < n
    · obtain ⟨b, off, rfl, _, hc⟩ := h.cells k (by omega)
      have hck := hc k (by omega)
      have hnx := orI_next L k (by omega)
      obtain ⟨x, hx⟩ : ∃ x, x = L[k]'(by omega) := ⟨_, rfl⟩
      rw [← hx] at hck hnx
      by_cases h0 : x = 0
      · rw [if_pos h0] at hnx
        have HN := hid hnx
        subst h0
        clear hnx hc hx
        go_wp2_with fail
        go_round
        case rel => exact ⟨k + 1, by omega, by go_num, hid (by rw [← HN.out]; exact HK.out)⟩
        case measure => simp [RowKit.intOf]; omega
      · rw [if_neg h0] at hnx
        have HN := hid hnx
        clear hnx hc hx
        go_wp2_with fail
        go_ret
        exact ⟨ret_int (by rw [← HK.out]; exact HN.out.symm), rfl⟩
    · obtain rfl : k = n := by omega
      have HN : Hid (orI L = 0) := hid (by rw [← HK.out, List.drop_of_length_le (by omega)]; rfl)
      go_wp2_with fail
      go_ret
      exact ⟨ret_int HN.out.symm, rfl⟩
theorem cmpI_in (a b : Int) : InInt (cmpI a b) := by
  unfold cmpI InInt
  split
  · omega
  · split <;> omega
set_option maxHeartbeats 3200000 in
theorem byTP_any (v u : Vt) (w : World) : Calls Try.prog 33 #[.agg #[.int .i64 v.x, .int .i64 v.p, .int .i64 v.r, .int .i64 v.b, .int .i64 v.v], .agg #[.int .i64 u.x, .int .i64 u.p, .int .i64 u.r, .int .i64 u.b, .int .i64 u.v]] w fun e w' => e = .returned (.int .i64 (orI [cmpI v.x u.x, cmpI v.p u.p])) ∧ Below w.heap.size w w' := by
  obtain ⟨w2, hw2⟩ : ∃ w2, w2 = (w.alloc (.cells #[.int .i64 v.x, .int .i64 v.p, .int .i64 v.r, .int .i64 v.b, .int .i64 v.v] 34)).alloc (.cells #[.int .i64 u.x, .int .i64 u.p, .int .i64 u.r, .int .i64 u.b, .int .i64 u.v] 34) := ⟨_, rfl⟩
  have hB : Below w.heap.size w w2 := by
    rw [hw2]; exact ((Below.refl _ w).alloc (Nat.le_refl _) _).alloc (by simp) _
  have r1 : w2.heap[w.heap.size]? = some (.cells #[.int .i64 v.x, .int .i64 v.p, .int .i64 v.r, .int .i64 v.b, .int .i64 v.v] 34 (0, 0)) := by
    have hb2 : Below (w.heap.size + 1) (w.alloc (.cells #[.int .i64 v.x, .int .i64 v.p, .int .i64 v.r, .int .i64 v.b, .int .i64 v.v] 34)) w2 := by rw [hw2]; exact (Below.refl _ _).alloc (by simp) _
    exact (hb2.block _ (by omega)).trans (heap_alloc_new w _)
  have r2 : w2.heap[w.heap.size + 1]? = some (.cells #[.int .i64 u.x, .int .i64 u.p, .int .i64 u.r, .int .i64 u.b, .int .i64 u.v] 34 (0, 0)) := by
    have := heap_alloc_new (w.alloc (.cells #[.int .i64 v.x, .int .i64 v.p, .int .i64 v.r, .int .i64 v.b, .int .i64 v.v] 34)) (.cells #[.int .i64 u.x, .int .i64 u.p, .int .i64 u.r, .int .i64 u.b, .int .i64 u.v] 34)
    rw [← hw2] at this
    simpa using this
  obtain ⟨x1, hx1⟩ : ∃ x, x = cmpI v.x u.x := ⟨_, rfl⟩
  obtain ⟨x2, hx2⟩ : ∃ x, x = cmpI v.p u.p := ⟨_, rfl⟩
  obtain ⟨w3, hw3⟩ : ∃ w3, w3 = (w2.alloc (.cells #[.int .i64 x1, .int .i64 x2] 3)).drew := ⟨_, rfl⟩
  have hB3 : Below w2.heap.size w2 w3 := by rw [hw3]; exact ((Below.refl _ w2).alloc (Nat.le_refl _) _).drew
  have r3 : w3.heap[w2.heap.size]? = some (.cells (ints [x1, x2]).toArray 3 (0, 0)) := by rw [hw3]; exact heap_alloc_new w2 _
  have S0 : Hid (∀ W : World, W.heap[w.heap.size]? = some (.cells #[.int .i64 v.x, .int .i64 v.p, .int .i64 v.r, .int .i64 v.b, .int .i64 v.v] 34 (0, 0)) → W.heap[w.heap.size + 1]? = some (.cells #[.int .i64 u.x, .int .i64 u.p, .int .i64 u.r, .int .i64 u.b, .int .i64 u.v] 34 (0, 0)) → (W.cell? ⟨w.heap.size, 0, none⟩ = some (.int .i64 v.x) ∧ W.cell? ⟨w.heap.size, 1, none⟩ = some (.int .i64 v.p)) ∧ (W.cell? ⟨w.heap.size + 1, 0, none⟩ = some (.int .i64 u.x) ∧ W.cell? ⟨w.heap.size + 1, 1, none⟩ = some (.int .i64 u.p))) := hid (fun W h1 h2 => ⟨⟨row_cell h1 0, row_cell h1 1⟩, ⟨row_cell h2 0, row_cell h2 1⟩⟩)
  have k0 := S0.out w2 r1 r2
  have k1 := S0.out w2.drew r1 r2
  have k3 := S0.out w3 ((hB3.block _ (row_lt r1)).trans r1) ((hB3.block _ (row_lt r2)).trans r2)
  have HX := hid (And.intro hx1 hx2)
  have HB := hid (hB.trans (hB3.mono hB.size))
  have HI3 : IsInts w3 w3.heap.size (some ⟨w2.heap.size, 0, none⟩) [x1, x2] := by
    refine ⟨fun x hx => ?_, fun k hk => ⟨w2.heap.size, 0, rfl, row_lt r3, fun i hi => ?_⟩⟩
    · simp only [List.mem_cons, List.not_mem_nil, or_false] at hx
      rcases hx with rfl | rfl
      · rw [hx1]; exact cmpI_in _ _
      · rw [hx2]; exact cmpI_in _ _
    · rw [Nat.zero_add, row_cell r3 i, List.getElem?_toArray, ints_get _ i hi]
  have HO := hid (or_any _ _ 2 [x1, x2] 2 rfl (by decide) w3 HI3)
  rw [← hx1, ← hx2]
  clear hB hB3 r1 r2 r3 HI3 hx1 hx2
  go_enter Try.func33, Try.ntmps33
  go_wp2_with fail
  rw [← hw2]
  clear hw2
  go_region_held3 (fun W => (W.cell? ⟨w.heap.size, 0, none⟩ = some (.int .i64 v.x) ∧ W.cell? ⟨w.heap.size, 1, none⟩ = some (.int .i64 v.p)) ∧ (W.cell? ⟨w.heap.size + 1, 0, none⟩ = some (.int .i64 u.x) ∧ W.cell? ⟨w.heap.size + 1, 1, none⟩ = some (.int .i64 u.p)))
    (first | with_reducible exact k1 | with_reducible exact k0 | with_reducible exact k3 | (rw [← hw3]; exact k3) | exact k1 | exact k0 | fail)
    (first
      | (go_at_call 64; rw [← hw3]; refine HO.out.mono ?_; rintro e w7 ⟨rfl, rfl⟩)
      | (go_at_call 57; refine (cmp_any _ _ _).mono ?_; rintro e w6 ⟨rfl, rfl⟩; (first | rw [← HX.out.1] | rw [← HX.out.2])))
  all_goals
    go_wp2_with fail
    go_ret
    exact ⟨rfl, by rw [← hw3]; exact HB.out⟩
end Go.Proofs.Ytaeoccpjdjafnaa.Im
namespace Go.Proofs.Ytaeoccpjdjafnaa.Im
open Go.RowKit
open Rl (En Lg)
open Qu (Cf)
set_option maxRecDepth 100000
set_option linter.unusedVariables false
attribute [local go_sem ↓] loadAt_hard storeAt_hard loadAt_vote storeAt_vote loadAt_change storeAt_change
theorem cmpI_lt (a b : Int) : (0 ≤ cmpI a b) = ¬ (a < b) := by
  unfold cmpI
  split
  · simp [*]
  · split <;> simp [*]
set_option maxHeartbeats 3200000 in
theorem ascH_any (B : Nat) (A : Option Addr) (c : Nat) (Q : List Hq) (n : Nat) (hn : Q.length = n) (hnn : n ≤ 100000000) (w : World) (h : IsHds w B A Q) (hB : B ≤ w.heap.size) :
    Calls Try.prog 51 #[.slice A n c, .func (.func 29) #[] #[]] w fun e w' => e = .returned (.bool (asc ltH (Q.map (·.h)))) ∧ Below w.heap.size w w' := by
  have HA := hid (asc_iff ltH (Q.map (·.h)))
  have HH := hid (And.intro h (And.intro hn hB))
  clear h hn hB
  go_enter Try.func51, Try.ntmps51
  go_wp2_with fail
  go_loopw [5] (fun i wr => ∃ k : Nat, k ≤ n ∧ i = .int .i64 ((k : Int) + 1) ∧ Hid (Below w.heap.size w wr ∧ ∀ j (hj : j + 1 < Q.length), j < k → (Q[j]'(by omega)).h.g < (Q[j + 1]'hj).h.g)) (fun i _ => n + 1 - (RowKit.intOf i).toNat)
  case atStart => exact ⟨0, Nat.zero_le _, rfl, hid ⟨Below.refl _ w, fun j hj hlt => absurd hlt (Nat.not_lt_zero _)⟩⟩
  case round =>
    obtain ⟨k, hk, rfl, HK⟩ := hrel
    by_cases hlt : k + 1 < n
    · have hQ : k + 1 < Q.length := by rw [HH.out.2.1]; exact hlt
      have hI := HH.out.1.below (HK.out.1.mono HH.out.2.2)
      obtain ⟨b, off, hA, hbb, hcs⟩ := hI.row.at_ k (by omega)
      subst hA
      obtain ⟨x, hx⟩ : ∃ x, x = Q[k]'(by omega) := ⟨_, rfl⟩
      obtain ⟨y, hy⟩ : ∃ y, y = Q[k + 1]'hQ := ⟨_, rfl⟩
      have hr0 := hcs k (by omega)
      have hr1 := hcs (k + 1) hQ
      rw [← hx] at hr0
      rw [← hy] at hr1
      have l0 : (ldX 59 (.pointer (some ⟨b, off + k * 10, none⟩))).run Try.prog wr = .ok (.agg #[.int .i64 x.h.g, .int .i64 x.h.t, .int .i64 x.h.v, .int .i64 x.h.p.log.base, .int .i64 x.h.p.log.term, .slice x.a.e x.h.p.log.es.length x.a.ce, .slice x.a.o x.h.p.cf.old.length x.a.co, .slice x.a.n x.h.p.cf.new.length x.a.cn, .slice x.a.l x.h.p.cf.lrn.length x.a.cl, .slice x.a.s x.h.p.sn.length x.a.cs]) wr := ldH wr b (off + k * 10) (cellsH x) rfl hr0
      have l1 : (ldX 59 (.pointer (some ⟨b, off + (k + 1) * 10, none⟩))).run Try.prog wr = .ok (.agg #[.int .i64 y.h.g, .int .i64 y.h.t, .int .i64 y.h.v, .int .i64 y.h.p.log.base, .int .i64 y.h.p.log.term, .slice y.a.e y.h.p.log.es.length y.a.ce, .slice y.a.o y.h.p.cf.old.length y.a.co, .slice y.a.n y.h.p.cf.new.length y.a.cn, .slice y.a.l y.h.p.cf.lrn.length y.a.cl, .slice y.a.s y.h.p.sn.length y.a.cs]) wr := ldH wr b (off + (k + 1) * 10) (cellsH y) rfl hr1
      have m0 : (ldX 59 (.pointer (some ⟨b, off + k * 10, none⟩))).run Try.prog wr.drew = .ok (.agg #[.int .i64 x.h.g, .int .i64 x.h.t, .int .i64 x.h.v, .int .i64 x.h.p.log.base, .int .i64 x.h.p.log.term, .slice x.a.e x.h.p.log.es.length x.a.ce, .slice x.a.o x.h.p.cf.old.length x.a.co, .slice x.a.n x.h.p.cf.new.length x.a.cn, .slice x.a.l x.h.p.cf.lrn.length x.a.cl, .slice x.a.s x.h.p.sn.length x.a.cs]) wr.drew := ldH wr.drew b (off + k * 10) (cellsH x) rfl hr0
      have m1 : (ldX 59 (.pointer (some ⟨b, off + (k + 1) * 10, none⟩))).run Try.prog wr.drew = .ok (.agg #[.int .i64 y.h.g, .int .i64 y.h.t, .int .i64 y.h.v, .int .i64 y.h.p.log.base, .int .i64 y.h.p.log.term, .slice y.a.e y.h.p.log.es.length y.a.ce, .slice y.a.o y.h.p.cf.old.length y.a.co, .slice y.a.n y.h.p.cf.new.length y.a.cn, .slice y.a.l y.h.p.cf.lrn.length y.a.cl, .slice y.a.s y.h.p.sn.length y.a.cs]) wr.drew := ldH wr.drew b (off + (k + 1) * 10) (cellsH y) rfl hr1
      have HST : Hid (∀ j (hj : j + 1 < Q.length), j < k + 1 → x.h.g < y.h.g → (Q[j]'(by omega)).h.g < (Q[j + 1]'hj).h.g) := hid (by
        intro j hj hlt2 hxy
        by_cases e : j = k
        · subst e; rw [← hx, ← hy]; exact hxy
        · exact HK.out.2 j hj (by omega))
      have HNO : Hid (¬ x.h.g < y.h.g → asc ltH (Q.map (·.h)) = false) := hid (by
        intro hno
        rw [Bool.eq_false_iff]
        intro hb
        have := HA.out.1 hb k (by simpa using hQ)
        rw [List.getElem_map, List.getElem_map, ← hx, ← hy] at this
        exact absurd (by simpa [ltH] using this) hno)
      have hbw0 : b < wr.heap.size := by have := HH.out.2.2; have := HK.out.1.size; omega
      have LD : Hid (∀ W, Below wr.heap.size wr W → (ldX 59 (.pointer (some ⟨b, off + k * 10, none⟩))).run Try.prog W = .ok (.agg #[.int .i64 x.h.g, .int .i64 x.h.t, .int .i64 x.h.v, .int .i64 x.h.p.log.base, .int .i64 x.h.p.log.term, .slice x.a.e x.h.p.log.es.length x.a.ce, .slice x.a.o x.h.p.cf.old.length x.a.co, .slice x.a.n x.h.p.cf.new.length x.a.cn, .slice x.a.l x.h.p.cf.lrn.length x.a.cl, .slice x.a.s x.h.p.sn.length x.a.cs]) W ∧ (ldX 59 (.pointer (some ⟨b, off + (k + 1) * 10, none⟩))).run Try.prog W = .ok (.agg #[.int .i64 y.h.g, .int .i64 y.h.t, .int .i64 y.h.v, .int .i64 y.h.p.log.base, .int .i64 y.h.p.log.term, .slice y.a.e y.h.p.log.es.length y.a.ce, .slice y.a.o y.h.p.cf.old.length y.a.co, .slice y.a.n y.h.p.cf.new.length y.a.cn, .slice y.a.l y.h.p.cf.lrn.length y.a.cl, .slice y.a.s y.h.p.sn.length y.a.cs]) W) := hid (fun W hb =>
        ⟨ldH W b (off + k * 10) (cellsH x) rfl (fun j v hv => (hb.cell (p := ⟨b, off + k * 10 + j, none⟩) hbw0).trans (hr0 j v hv)), ldH W b (off + (k + 1) * 10) (cellsH y) rfl (fun j v hv => (hb.cell (p := ⟨b, off + (k + 1) * 10 + j, none⟩) hbw0).trans (hr1 j v hv))⟩)
      have hbw : Below w.heap.size w wr.drew := HK.out.1.drew
      have HBW := hid hbw
      clear hbw
      have w0 : (k : Int) + 1 - 1 = (k : Int) := by omega
      have w1 : IntKind.i64.wrap (k : Int) = (k : Int) := by rw [IntKind.wrap_i64]; omega
      have w2 : IntKind.i64.wrap ((k : Int) + 1 - 1) = (k : Int) := by rw [IntKind.wrap_i64]; omega
      have b3 : (0 : Int) ≤ (k : Int) + 1 := by omega
      have t0 : ((k : Int) + 1).toNat = k + 1 := by omega
      have b0 : (0 : Int) ≤ (k : Int) := by omega
      have b1 : (k : Int) < (n : Int) := by omega
      have b2 : (k : Int) + 1 < (n : Int) := by omega
      clear hI hcs hr0 hr1 hx hy hQ
      go_wp2_with fail
      go_region_held3 (fun W => (ldX 59 (.pointer (some ⟨b, off + k * 10, none⟩))).run Try.prog W = .ok (.agg #[.int .i64 x.h.g, .int .i64 x.h.t, .int .i64 x.h.v, .int .i64 x.h.p.log.base, .int .i64 x.h.p.log.term, .slice x.a.e x.h.p.log.es.length x.a.ce, .slice x.a.o x.h.p.cf.old.length x.a.co, .slice x.a.n x.h.p.cf.new.length x.a.cn, .slice x.a.l x.h.p.cf.lrn.length x.a.cl, .slice x.a.s x.h.p.sn.length x.a.cs]) W ∧ (ldX 59 (.pointer (some ⟨b, off + (k + 1) * 10, none⟩))).run Try.prog W = .ok (.agg #[.int .i64 y.h.g, .int .i64 y.h.t, .int .i64 y.h.v, .int .i64 y.h.p.log.base, .int .i64 y.h.p.log.term, .slice y.a.e y.h.p.log.es.length y.a.ce, .slice y.a.o y.h.p.cf.old.length y.a.co, .slice y.a.n y.h.p.cf.new.length y.a.cn, .slice y.a.l y.h.p.cf.lrn.length y.a.cl, .slice y.a.s y.h.p.sn.length y.a.cs]) W)
        (first | with_reducible exact ⟨l0, l1⟩ | with_reducible exact ⟨m0, m1⟩ | with_reducible exact e3 | fail)
        (first
          | (go_at_call 29; refine (byGroup_any x.h y.h x.a y.a _).mono ?_; rintro e w3 ⟨rfl, hb3⟩; have HB3 := hid (HBW.out.trans (hb3.mono HBW.out.size)); have e3 : (ldX 59 (.pointer (some ⟨b, off + k * 10, none⟩))).run Try.prog w3 = .ok (.agg #[.int .i64 x.h.g, .int .i64 x.h.t, .int .i64 x.h.v, .int .i64 x.h.p.log.base, .int .i64 x.h.p.log.term, .slice x.a.e x.h.p.log.es.length x.a.ce, .slice x.a.o x.h.p.cf.old.length x.a.co, .slice x.a.n x.h.p.cf.new.length x.a.cn, .slice x.a.l x.h.p.cf.lrn.length x.a.cl, .slice x.a.s x.h.p.sn.length x.a.cs]) w3 ∧ (ldX 59 (.pointer (some ⟨b, off + (k + 1) * 10, none⟩))).run Try.prog w3 = .ok (.agg #[.int .i64 y.h.g, .int .i64 y.h.t, .int .i64 y.h.v, .int .i64 y.h.p.log.base, .int .i64 y.h.p.log.term, .slice y.a.e y.h.p.log.es.length y.a.ce, .slice y.a.o y.h.p.cf.old.length y.a.co, .slice y.a.n y.h.p.cf.new.length y.a.cn, .slice y.a.l y.h.p.cf.lrn.length y.a.cl, .slice y.a.s y.h.p.sn.length y.a.cs]) w3 := LD.out w3 ((Below.refl _ wr).drew.trans hb3); clear hb3))
      all_goals
        clear l0 l1 m0 m1 e3
        by_cases hxy : x.h.g < y.h.g
        · have hd : decide (0 ≤ cmpI x.h.g y.h.g) = false := by simp [cmpI_lt, hxy]
          rw [hd]
          have HN : Hid (∀ j (hj : j + 1 < Q.length), j < k + 1 → (Q[j]'(by omega)).h.g < (Q[j + 1]'hj).h.g) := hid (fun j hj h2 => HST.out j hj h2 hxy)
          go_wp2_with fail
          go_roundw
          case rel => exact ⟨k + 1, by omega, by go_num, hid ⟨HB3.out, HN.out⟩⟩
          case measure => simp [RowKit.intOf]; omega
        · have hd : decide (0 ≤ cmpI x.h.g y.h.g) = true := by simp [cmpI_lt, hxy]
          rw [hd]
          have HN := hid (HNO.out (by omega))
          go_wp2_with fail
          go_ret
          rw [HN.out]
          exact ⟨rfl, HB3.out⟩
    · have HF : Hid (asc ltH (Q.map (·.h)) = true) := hid (by
        refine HA.out.2 (fun i hi => ?_)
        rw [List.length_map] at hi
        have hn := HH.out.2.1
        have := HK.out.2 i hi (by omega)
        rw [List.getElem_map, List.getElem_map]
        simpa [ltH] using this)
      have b1 : ¬ ((k : Int) + 1 < (n : Int)) := by omega
      go_wp2_with fail
      go_ret
      rw [HF.out]
      exact ⟨rfl, HK.out.1⟩
end Go.Proofs.Ytaeoccpjdjafnaa.Im
namespace Go.Proofs.Ytaeoccpjdjafnaa.Im
open Go Go.RowKit
set_option maxRecDepth 100000
set_option linter.unusedVariables false
attribute [local go_sem ↓] loadAt_hard storeAt_hard
structure At {α : Type} (lt : α → α → Bool) (L : List α) (x : α) (k : Nat) : Prop where
  le : k ≤ L.length
  ahead : ∀ i (h : i < L.length), i < k → lt L[i] x = true
  behind : ∀ i (h : i < L.length), k ≤ i → lt L[i] x = false
structure Bs {α : Type} (lt : α → α → Bool) (L : List α) (x : α) (i j : Nat) : Prop where
  ahead : ∀ a (h : a < L.length), a < i → lt L[a] x = true
  behind : ∀ a (h : a < L.length), j ≤ a → lt L[a] x = false
theorem asc_lt {α : Type} (lt : α → α → Bool) (ht : ∀ a b c, lt a b = true → lt b c = true → lt a c = true) (L : List α) (h : asc lt L = true) : ∀ i j (hi : i < L.length) (hj : j < L.length), i < j → lt L[i] L[j] = true := by
  intro i j
  induction j with
  | zero => intro _ _ h; omega
  | succ j ih =>
    intro hi hj hij
    have h1 := (asc_iff lt L).1 h j hj
    rcases Nat.lt_or_ge i j with h2 | h2
    · exact ht _ _ _ (ih hi (by omega) h2) h1
    · obtain rfl : i = j := by omega
      exact h1
def vShut (i n : Nat) (_ : Unit) : Nat → Value
  | 0 => .int .i64 i
  | 1 => .int .i64 i
  | 2 => .int .i64 n
  | 3 => .bool false
  | 4 => .bool false
  | 13 => .bool false
  | 14 => .int .i64 i
  | 15 => .bool false
  | _ => undef
theorem cmp_neg (y x : Hd) : decide (cmpI y.g x.g < 0) = ltH y x := by
  unfold cmpI ltH
  split
  · rename_i h; simp [h]
  · rename_i h
    split <;> simp <;> omega
theorem cmp_zero (y x : Int) : (cmpI y x == 0) = true ↔ y = x := by
  unfold cmpI
  split
  · simp; omega
  · split
    · simp; omega
    · simp; omega
theorem ltH_trans (a b c : Hd) (h1 : ltH a b = true) (h2 : ltH b c = true) : ltH a c = true := by simp [ltH] at *; omega
theorem ltV_trans (a b c : Vt) (h1 : ltV a b = true) (h2 : ltV b c = true) : ltV a c = true := by simp [ltV] at *; omega
set_option maxHeartbeats 6400000 in
theorem bsH_any (B : Nat) (A : Option Addr) (c : Nat) (Q : List Hq) (n : Nat) (hn : Q.length = n) (hnn : n ≤ 1000000) (x : Hd) (ad : Ad) (hasc : asc ltH (Q.map (·.h)) = true) (w : World) (h : IsHds w B A Q) (hB : B ≤ w.heap.size) :
    Calls Try.prog 28 #[.slice A n c, .agg #[.int .i64 x.g, .int .i64 x.t, .int .i64 x.v, .int .i64 x.p.log.base, .int .i64 x.p.log.term, .slice ad.e x.p.log.es.length ad.ce, .slice ad.o x.p.cf.old.length ad.co, .slice ad.n x.p.cf.new.length ad.cn, .slice ad.l x.p.cf.lrn.length ad.cl, .slice ad.s x.p.sn.length ad.cs], .func (.func 29) #[] #[]] w fun e w' => ∃ (k : Nat) (f : Bool), e = .returned (.tuple #[.int .i64 k, .bool f]) ∧ At ltH (Q.map (·.h)) x k ∧ (f = true ↔ ∃ h : k < Q.length, Q[k].h.g = x.g) ∧ Below w.heap.size w w' := by
  have hlt := asc_lt ltH ltH_trans _ hasc
  obtain ⟨w1, hw1⟩ : ∃ w1, w1 = w.alloc (.cells #[.int .i64 x.g, .int .i64 x.t, .int .i64 x.v, .int .i64 x.p.log.base, .int .i64 x.p.log.term, .slice ad.e x.p.log.es.length ad.ce, .slice ad.o x.p.cf.old.length ad.co, .slice ad.n x.p.cf.new.length ad.cn, .slice ad.l x.p.cf.lrn.length ad.cl, .slice ad.s x.p.sn.length ad.cs] 59) := ⟨_, rfl⟩
  have hb1 : Below w.heap.size w w1 := by rw [hw1]; exact (Below.refl _ w).alloc (Nat.le_refl _) _
  have hr1 : w1.heap[w.heap.size]? = some (.cells #[.int .i64 x.g, .int .i64 x.t, .int .i64 x.v, .int .i64 x.p.log.base, .int .i64 x.p.log.term, .slice ad.e x.p.log.es.length ad.ce, .slice ad.o x.p.cf.old.length ad.co, .slice ad.n x.p.cf.new.length ad.cn, .slice ad.l x.p.cf.lrn.length ad.cl, .slice ad.s x.p.sn.length ad.cs] 59 (0, 0)) := by rw [hw1]; exact heap_alloc_new w _
  have HH := hid (And.intro h (And.intro hn hB))
  have HA : Hid (∀ i j (hi : i < Q.length) (hj : j < Q.length), i < j → ltH Q[i].h Q[j].h = true) := hid (fun i j hi hj hij => by have := hlt i j (by simpa using hi) (by simpa using hj) hij; simpa using this)
  have HL := hid hnn
  have H1 := hid (And.intro hb1 hr1)
  obtain ⟨b0, hb0⟩ : ∃ b, b = w.heap.size := ⟨_, rfl⟩
  have HB0 := hid hb0
  clear h hn hB hlt hasc hb1 hr1
  go_enter Try.func28, Try.ntmps28
  go_wp2_with fail
  rw [← hw1, ← hb0]
  clear hw1 hb0
  go_wp2_with fail
  go_loopw [9, 10] (fun iv jv wr => ∃ i j : Nat, i ≤ j ∧ j ≤ n ∧ iv = .int .i64 i ∧ jv = .int .i64 j ∧ Hid (Bs ltH (Q.map (·.h)) x i j ∧ Below w1.heap.size w1 wr)) (fun iv jv _ => (RowKit.intOf jv).toNat - (RowKit.intOf iv).toNat)
  case atStart => exact ⟨0, n, Nat.zero_le _, Nat.le_refl _, rfl, rfl, hid ⟨⟨fun a ha hlt => absurd hlt (Nat.not_lt_zero _), fun a ha hge => by rw [List.length_map] at ha; have := HH.out.2.1; omega⟩, Below.refl _ _⟩⟩
  case round =>
    obtain ⟨i, j, hij, hjn, rfl, rfl, HI⟩ := hrel
    have hrow0 : wr.heap[b0]? = some (.cells #[.int .i64 x.g, .int .i64 x.t, .int .i64 x.v, .int .i64 x.p.log.base, .int .i64 x.p.log.term, .slice ad.e x.p.log.es.length ad.ce, .slice ad.o x.p.cf.old.length ad.co, .slice ad.n x.p.cf.new.length ad.cn, .slice ad.l x.p.cf.lrn.length ad.cl, .slice ad.s x.p.sn.length ad.cs] 59 (0, 0)) := (HI.out.2.block b0 (by rw [HB0.out]; exact row_lt H1.out.2)).trans (by rw [HB0.out]; exact H1.out.2)
    by_cases hlt : i < j
    · obtain ⟨h, hh⟩ : ∃ h, h = (i + j) / 2 := ⟨_, rfl⟩
      have hh1 : i ≤ h := by omega
      have hh2 : h < j := by omega
      have hQ : h < Q.length := by rw [HH.out.2.1]; omega
      have hI := HH.out.1.below ((H1.out.1.mono HH.out.2.2).trans (HI.out.2.mono (by have := H1.out.1.size; have := HH.out.2.2; omega)))
      obtain ⟨b, off, hA, hbb, hcs⟩ := hI.row.at_ h hQ
      subst hA
      obtain ⟨q, hq⟩ : ∃ q, q = Q[h] := ⟨_, rfl⟩
      have hr0 := hcs h hQ
      rw [← hq] at hr0
      obtain ⟨y, ay⟩ := q
      have l0 : (ldX 59 (.pointer (some ⟨b, off + h * 10, none⟩))).run Try.prog wr = .ok (.agg #[.int .i64 y.g, .int .i64 y.t, .int .i64 y.v, .int .i64 y.p.log.base, .int .i64 y.p.log.term, .slice ay.e y.p.log.es.length ay.ce, .slice ay.o y.p.cf.old.length ay.co, .slice ay.n y.p.cf.new.length ay.cn, .slice ay.l y.p.cf.lrn.length ay.cl, .slice ay.s y.p.sn.length ay.cs]) wr := ldH wr b (off + h * 10) (cellsH ⟨y, ay⟩) rfl hr0
      have l1 : (ldX 59 (.pointer (some ⟨b0, 0, none⟩))).run Try.prog wr = .ok (.agg #[.int .i64 x.g, .int .i64 x.t, .int .i64 x.v, .int .i64 x.p.log.base, .int .i64 x.p.log.term, .slice ad.e x.p.log.es.length ad.ce, .slice ad.o x.p.cf.old.length ad.co, .slice ad.n x.p.cf.new.length ad.cn, .slice ad.l x.p.cf.lrn.length ad.cl, .slice ad.s x.p.sn.length ad.cs]) wr := ldRow info_hard Try.underlying59 rfl hrow0 rfl
      have m0 : (ldX 59 (.pointer (some ⟨b, off + h * 10, none⟩))).run Try.prog wr.drew = .ok (.agg #[.int .i64 y.g, .int .i64 y.t, .int .i64 y.v, .int .i64 y.p.log.base, .int .i64 y.p.log.term, .slice ay.e y.p.log.es.length ay.ce, .slice ay.o y.p.cf.old.length ay.co, .slice ay.n y.p.cf.new.length ay.cn, .slice ay.l y.p.cf.lrn.length ay.cl, .slice ay.s y.p.sn.length ay.cs]) wr.drew := ldH wr.drew b (off + h * 10) (cellsH ⟨y, ay⟩) rfl hr0
      have m1 : (ldX 59 (.pointer (some ⟨b0, 0, none⟩))).run Try.prog wr.drew = .ok (.agg #[.int .i64 x.g, .int .i64 x.t, .int .i64 x.v, .int .i64 x.p.log.base, .int .i64 x.p.log.term, .slice ad.e x.p.log.es.length ad.ce, .slice ad.o x.p.cf.old.length ad.co, .slice ad.n x.p.cf.new.length ad.cn, .slice ad.l x.p.cf.lrn.length ad.cl, .slice ad.s x.p.sn.length ad.cs]) wr.drew := ldRow info_hard Try.underlying59 rfl (show wr.drew.heap[b0]? = _ from hrow0) rfl
      have hbw0 : b < wr.heap.size := by have := HH.out.2.2; have := H1.out.1.size; have := HI.out.2.size; omega
      have LD : Hid (∀ W, Below wr.heap.size wr W → (ldX 59 (.pointer (some ⟨b, off + h * 10, none⟩))).run Try.prog W = .ok (.agg #[.int .i64 y.g, .int .i64 y.t, .int .i64 y.v, .int .i64 y.p.log.base, .int .i64 y.p.log.term, .slice ay.e y.p.log.es.length ay.ce, .slice ay.o y.p.cf.old.length ay.co, .slice ay.n y.p.cf.new.length ay.cn, .slice ay.l y.p.cf.lrn.length ay.cl, .slice ay.s y.p.sn.length ay.cs]) W ∧ (ldX 59 (.pointer (some ⟨b0, 0, none⟩))).run Try.prog W = .ok (.agg #[.int .i64 x.g, .int .i64 x.t, .int .i64 x.v, .int .i64 x.p.log.base, .int .i64 x.p.log.term, .slice ad.e x.p.log.es.length ad.ce, .slice ad.o x.p.cf.old.length ad.co, .slice ad.n x.p.cf.new.length ad.cn, .slice ad.l x.p.cf.lrn.length ad.cl, .slice ad.s x.p.sn.length ad.cs]) W) := hid (fun W hb =>
        ⟨ldH W b (off + h * 10) (cellsH ⟨y, ay⟩) rfl (fun j v hv => (hb.cell (p := ⟨b, off + h * 10 + j, none⟩) hbw0).trans (hr0 j v hv)), ldRow info_hard Try.underlying59 rfl ((hb.block _ (row_lt hrow0)).trans hrow0) rfl⟩)
      have HLE : Hid (ltH y x = true → Bs ltH (Q.map (·.h)) x (h + 1) j) := hid (fun hlx => ⟨fun a ha hal => by
        rw [List.length_map] at ha
        rw [List.getElem_map]
        rcases Nat.lt_or_ge a h with h2 | h2
        · have h3 := HA.out a h ha hQ h2
          rw [← hq] at h3
          exact ltH_trans _ _ _ h3 hlx
        · obtain rfl : a = h := by omega
          rw [← hq]; exact hlx, HI.out.1.behind⟩)
      have HGE : Hid (ltH y x = false → Bs ltH (Q.map (·.h)) x i h) := hid (fun hlx => ⟨HI.out.1.ahead, fun a ha hal => by
        rw [List.length_map] at ha
        rw [List.getElem_map]
        rcases Nat.lt_or_ge h a with h2 | h2
        · have h3 := HA.out h a hQ ha h2
          rw [← hq] at h3
          rw [Bool.eq_false_iff]
          intro h4
          have := ltH_trans _ _ _ h3 h4
          rw [hlx] at this
          cases this
        · obtain rfl : a = h := by omega
          rw [← hq]; exact hlx⟩)
      have HBW := hid (And.intro HI.out.2 hh)
      have b1 : (i : Int) < (j : Int) := by omega
      have b2 : (h : Int) < (n : Int) := by omega
      have b3 : (i : Int) + (j : Int) ≤ 2000000 := by omega
      have b4 : ((i : Int) + (j : Int)) / 2 = (h : Int) := by omega
      clear hI hcs hr0 hq hQ hh hrow0 HI
      have bi : (0 : Int) ≤ (h : Int) := by omega
      go_wp2_with fail
      go_region_held3 (fun W => (ldX 59 (.pointer (some ⟨b, off + h * 10, none⟩))).run Try.prog W = .ok (.agg #[.int .i64 y.g, .int .i64 y.t, .int .i64 y.v, .int .i64 y.p.log.base, .int .i64 y.p.log.term, .slice ay.e y.p.log.es.length ay.ce, .slice ay.o y.p.cf.old.length ay.co, .slice ay.n y.p.cf.new.length ay.cn, .slice ay.l y.p.cf.lrn.length ay.cl, .slice ay.s y.p.sn.length ay.cs]) W ∧ (ldX 59 (.pointer (some ⟨b0, 0, none⟩))).run Try.prog W = .ok (.agg #[.int .i64 x.g, .int .i64 x.t, .int .i64 x.v, .int .i64 x.p.log.base, .int .i64 x.p.log.term, .slice ad.e x.p.log.es.length ad.ce, .slice ad.o x.p.cf.old.length ad.co, .slice ad.n x.p.cf.new.length ad.cn, .slice ad.l x.p.cf.lrn.length ad.cl, .slice ad.s x.p.sn.length ad.cs]) W)
        (first | with_reducible exact ⟨l0, l1⟩ | with_reducible exact ⟨m0, m1⟩ | with_reducible exact e3 | fail)
        (first
          | (go_at_call 29; refine (byGroup_any y x ay ad _).mono ?_; rintro e w3 ⟨rfl, hb3⟩; have HB3 := hid (HBW.out.1.drew.trans (hb3.mono HBW.out.1.size)); have e3 := LD.out w3 ((Below.refl _ wr).drew.trans hb3); clear hb3))
      all_goals
        clear l0 l1 m0 m1 e3
        by_cases hxy : ltH y x = true
        · have hd : decide (cmpI y.g x.g < 0) = true := by rw [cmp_neg, hxy]
          rw [hd]
          have HN := hid (HLE.out hxy)
          go_wp2_with fail
          go_roundw
          case rel => exact ⟨h + 1, j, by omega, hjn, by go_num, rfl, hid ⟨HN.out, HB3.out⟩⟩
          case measure => simp [RowKit.intOf]; omega
        · have hxf : ltH y x = false := by simpa using hxy
          have hd : decide (cmpI y.g x.g < 0) = false := by rw [cmp_neg, hxf]
          rw [hd]
          have HN := hid (HGE.out hxf)
          go_wp2_with fail
          go_roundw
          case rel => exact ⟨i, h, by omega, by omega, rfl, rfl, hid ⟨HN.out, HB3.out⟩⟩
          case measure => simp [RowKit.intOf]; omega
    · obtain rfl : i = j := by omega
      have HAT : Hid (At ltH (Q.map (·.h)) x i) := hid ⟨by rw [List.length_map]; have := HH.out.2.1; omega, HI.out.1.ahead, HI.out.1.behind⟩
      have hbel := H1.out.1.trans (HI.out.2.mono H1.out.1.size)
      by_cases hin : i < n
      · have hQ : i < Q.length := by rw [HH.out.2.1]; omega
        have hI := HH.out.1.below (hbel.mono HH.out.2.2)
        obtain ⟨b, off, hA, hbb, hcs⟩ := hI.row.at_ i hQ
        subst hA
        obtain ⟨q, hq⟩ : ∃ q, q = Q[i] := ⟨_, rfl⟩
        have hr0 := hcs i hQ
        rw [← hq] at hr0
        obtain ⟨y, ay⟩ := q
        have l0 : (ldX 59 (.pointer (some ⟨b, off + i * 10, none⟩))).run Try.prog wr = .ok (.agg #[.int .i64 y.g, .int .i64 y.t, .int .i64 y.v, .int .i64 y.p.log.base, .int .i64 y.p.log.term, .slice ay.e y.p.log.es.length ay.ce, .slice ay.o y.p.cf.old.length ay.co, .slice ay.n y.p.cf.new.length ay.cn, .slice ay.l y.p.cf.lrn.length ay.cl, .slice ay.s y.p.sn.length ay.cs]) wr := ldH wr b (off + i * 10) (cellsH ⟨y, ay⟩) rfl hr0
        have l1 : (ldX 59 (.pointer (some ⟨b0, 0, none⟩))).run Try.prog wr = .ok (.agg #[.int .i64 x.g, .int .i64 x.t, .int .i64 x.v, .int .i64 x.p.log.base, .int .i64 x.p.log.term, .slice ad.e x.p.log.es.length ad.ce, .slice ad.o x.p.cf.old.length ad.co, .slice ad.n x.p.cf.new.length ad.cn, .slice ad.l x.p.cf.lrn.length ad.cl, .slice ad.s x.p.sn.length ad.cs]) wr := ldRow info_hard Try.underlying59 rfl hrow0 rfl
        have m0 : (ldX 59 (.pointer (some ⟨b, off + i * 10, none⟩))).run Try.prog wr.drew = .ok (.agg #[.int .i64 y.g, .int .i64 y.t, .int .i64 y.v, .int .i64 y.p.log.base, .int .i64 y.p.log.term, .slice ay.e y.p.log.es.length ay.ce, .slice ay.o y.p.cf.old.length ay.co, .slice ay.n y.p.cf.new.length ay.cn, .slice ay.l y.p.cf.lrn.length ay.cl, .slice ay.s y.p.sn.length ay.cs]) wr.drew := ldH wr.drew b (off + i * 10) (cellsH ⟨y, ay⟩) rfl hr0
        have m1 : (ldX 59 (.pointer (some ⟨b0, 0, none⟩))).run Try.prog wr.drew = .ok (.agg #[.int .i64 x.g, .int .i64 x.t, .int .i64 x.v, .int .i64 x.p.log.base, .int .i64 x.p.log.term, .slice ad.e x.p.log.es.length ad.ce, .slice ad.o x.p.cf.old.length ad.co, .slice ad.n x.p.cf.new.length ad.cn, .slice ad.l x.p.cf.lrn.length ad.cl, .slice ad.s x.p.sn.length ad.cs]) wr.drew := ldRow info_hard Try.underlying59 rfl (show wr.drew.heap[b0]? = _ from hrow0) rfl
        have hbw0 : b < wr.heap.size := by have := HH.out.2.2; have := H1.out.1.size; have := HI.out.2.size; omega
        have LD : Hid (∀ W, Below wr.heap.size wr W → (ldX 59 (.pointer (some ⟨b, off + i * 10, none⟩))).run Try.prog W = .ok (.agg #[.int .i64 y.g, .int .i64 y.t, .int .i64 y.v, .int .i64 y.p.log.base, .int .i64 y.p.log.term, .slice ay.e y.p.log.es.length ay.ce, .slice ay.o y.p.cf.old.length ay.co, .slice ay.n y.p.cf.new.length ay.cn, .slice ay.l y.p.cf.lrn.length ay.cl, .slice ay.s y.p.sn.length ay.cs]) W ∧ (ldX 59 (.pointer (some ⟨b0, 0, none⟩))).run Try.prog W = .ok (.agg #[.int .i64 x.g, .int .i64 x.t, .int .i64 x.v, .int .i64 x.p.log.base, .int .i64 x.p.log.term, .slice ad.e x.p.log.es.length ad.ce, .slice ad.o x.p.cf.old.length ad.co, .slice ad.n x.p.cf.new.length ad.cn, .slice ad.l x.p.cf.lrn.length ad.cl, .slice ad.s x.p.sn.length ad.cs]) W) := hid (fun W hb =>
          ⟨ldH W b (off + i * 10) (cellsH ⟨y, ay⟩) rfl (fun j v hv => (hb.cell (p := ⟨b, off + i * 10 + j, none⟩) hbw0).trans (hr0 j v hv)), ldRow info_hard Try.underlying59 rfl ((hb.block _ (row_lt hrow0)).trans hrow0) rfl⟩)
        have HEQ : Hid ((cmpI y.g x.g == 0) = true ↔ ∃ h : i < Q.length, Q[i].h.g = x.g) := hid (by
          rw [cmp_zero]
          exact ⟨fun e => ⟨hQ, by rw [← hq]; exact e⟩, fun ⟨_, e⟩ => by rw [← hq] at e; exact e⟩)
        have HBW := hid (And.intro HI.out.2 hbel)
        have b2 : (i : Int) < (n : Int) := by omega
        have bi : (0 : Int) ≤ (i : Int) := by omega
        clear hI hcs hr0 hq hQ hrow0 HI hbel
        go_wp2_with fail
        go_region_held3 (fun W => (ldX 59 (.pointer (some ⟨b, off + i * 10, none⟩))).run Try.prog W = .ok (.agg #[.int .i64 y.g, .int .i64 y.t, .int .i64 y.v, .int .i64 y.p.log.base, .int .i64 y.p.log.term, .slice ay.e y.p.log.es.length ay.ce, .slice ay.o y.p.cf.old.length ay.co, .slice ay.n y.p.cf.new.length ay.cn, .slice ay.l y.p.cf.lrn.length ay.cl, .slice ay.s y.p.sn.length ay.cs]) W ∧ (ldX 59 (.pointer (some ⟨b0, 0, none⟩))).run Try.prog W = .ok (.agg #[.int .i64 x.g, .int .i64 x.t, .int .i64 x.v, .int .i64 x.p.log.base, .int .i64 x.p.log.term, .slice ad.e x.p.log.es.length ad.ce, .slice ad.o x.p.cf.old.length ad.co, .slice ad.n x.p.cf.new.length ad.cn, .slice ad.l x.p.cf.lrn.length ad.cl, .slice ad.s x.p.sn.length ad.cs]) W)
          (first | with_reducible exact ⟨l0, l1⟩ | with_reducible exact ⟨m0, m1⟩ | with_reducible exact e3 | fail)
          (first
            | (go_at_call 29; refine (byGroup_any y x ay ad _).mono ?_; rintro e w3 ⟨rfl, hb3⟩; have HB3 := hid (HBW.out.2.drew.trans (hb3.mono HBW.out.2.size)); have e3 := LD.out w3 ((Below.refl _ wr).drew.trans hb3); clear hb3))
        all_goals
          clear l0 l1 m0 m1 e3
          go_wp2_with fail
          go_ret2
          exact ⟨i, _, rfl, HAT.out, HEQ.out, HB3.out⟩
      · have HBW := hid (And.intro HI.out.2 hbel)
        have HNO : Hid (false = true ↔ ∃ h : i < Q.length, Q[i].h.g = x.g) := hid ⟨fun e => (by cases e), fun ⟨h, _⟩ => (by have := HH.out.2.1; omega)⟩
        have b2 : ¬ (i : Int) < (n : Int) := by omega
        clear hrow0 HI hbel
        go_wp2_with fail
        refine region_calls (C := (⟨_, 49, fun _ => none, vShut i n, fun _ _ W => Below w1.heap.size w1 W⟩ : Rc Unit)) rfl (by kernel_rfl) rfl () ?inv (by kernel_rfl) ?arms ?he
        case inv => exact HBW.out.1.drew
        case arms =>
          intro hC
          exact ⟨arm_pure hC rfl rfl (fun X p listed a w h hu ha => run_move (show a.eval (.tmp 9) = .int .i64 i from h.kept 9 (by kernel_rfl))),
            arm_pure hC rfl rfl (fun X p listed a w h hu ha => run_move (show a.eval (.tmp 9) = .int .i64 i from h.kept 9 (by kernel_rfl))),
            arm_pure hC rfl rfl (fun X p listed a w h hu ha => run_move (show a.eval (.tmp 8) = .int .i64 n from h.kept 8 (by kernel_rfl))),
            arm_pure hC rfl rfl (fun X p listed a w h hu ha => run_bin (show a.eval (.tmp 36) = .int .i64 i from h.slots 1 _ 36 rfl rfl (ha ⟨1, .data⟩ (by simp) rfl)) (show a.eval (.tmp 37) = .int .i64 n from h.slots 2 _ 37 rfl rfl (ha ⟨2, .data⟩ (by simp) rfl)) (show Sem.run _ _ w = .ok (Value.bool false) w by go_simp)),
            arm_pure hC rfl rfl (fun X p listed a w h hu ha => run_move (show a.eval (.tmp 38) = .bool false from h.slots 3 _ 38 rfl rfl (ha ⟨3, .data⟩ (by simp) rfl))),
            arm_shut hC rfl (fun _ => rfl) (fun X p listed a w h hu ha => (wanted_of rfl rfl rfl (by rw [h.size]; show 39 < 49; decide) (show a.eval (.tmp 39) = .bool false from h.slots 4 _ 39 rfl rfl (ha ⟨4, .guard⟩ (by simp) rfl))).trans rfl),
            arm_shut hC rfl (fun _ => rfl) (fun X p listed a w h hu ha => (wanted_of rfl rfl rfl (by rw [h.size]; show 39 < 49; decide) (show a.eval (.tmp 39) = .bool false from h.slots 4 _ 39 rfl rfl (ha ⟨4, .guard⟩ (by simp) rfl))).trans rfl),
            arm_shut hC rfl (fun _ => rfl) (fun X p listed a w h hu ha => (wanted_of rfl rfl rfl (by rw [h.size]; show 39 < 49; decide) (show a.eval (.tmp 39) = .bool false from h.slots 4 _ 39 rfl rfl (ha ⟨4, .guard⟩ (by simp) rfl))).trans rfl),
            arm_shut hC rfl (fun _ => rfl) (fun X p listed a w h hu ha => (wanted_of rfl rfl rfl (by rw [h.size]; show 39 < 49; decide) (show a.eval (.tmp 39) = .bool false from h.slots 4 _ 39 rfl rfl (ha ⟨4, .guard⟩ (by simp) rfl))).trans rfl),
            arm_shut hC rfl (fun _ => rfl) (fun X p listed a w h hu ha => (wanted_of rfl rfl rfl (by rw [h.size]; show 39 < 49; decide) (show a.eval (.tmp 39) = .bool false from h.slots 4 _ 39 rfl rfl (ha ⟨4, .guard⟩ (by simp) rfl))).trans rfl),
            arm_shut hC rfl (fun _ => rfl) (fun X p listed a w h hu ha => (wanted_of rfl rfl rfl (by rw [h.size]; show 39 < 49; decide) (show a.eval (.tmp 39) = .bool false from h.slots 4 _ 39 rfl rfl (ha ⟨4, .guard⟩ (by simp) rfl))).trans rfl),
            arm_shut hC rfl (fun _ => rfl) (fun X p listed a w h hu ha => (wanted_of rfl rfl rfl (by rw [h.size]; show 39 < 49; decide) (show a.eval (.tmp 39) = .bool false from h.slots 4 _ 39 rfl rfl (ha ⟨4, .guard⟩ (by simp) rfl))).trans rfl),
            arm_shut hC rfl (fun _ => rfl) (fun X p listed a w h hu ha => (wanted_of rfl rfl rfl (by rw [h.size]; show 39 < 49; decide) (show a.eval (.tmp 39) = .bool false from h.slots 4 _ 39 rfl rfl (ha ⟨4, .guard⟩ (by simp) rfl))).trans rfl),
            arm_pure hC rfl rfl (fun X p listed a w h hu ha => run_pick (show a.eval (.tmp 39) = .bool false from h.slots 4 _ 39 rfl rfl (ha ⟨4, .data⟩ (by simp) rfl)) rfl),
            arm_pure hC rfl rfl (fun X p listed a w h hu ha => run_assign (show a.eval (.tmp 35) = .int .i64 i from h.slots 0 _ 35 rfl rfl (ha ⟨0, .data⟩ (by simp) rfl))),
            arm_pure hC rfl rfl (fun X p listed a w h hu ha => run_assign (show a.eval (.tmp 48) = .bool false from h.slots 13 _ 48 rfl rfl (ha ⟨13, .data⟩ (by simp) rfl))),
            trivial⟩
        case he =>
          intro listed a w3 X p hJ hall
          have hR : Below w1.heap.size w1 w3 := hJ.inv
          have H3 := hid (H1.out.1.trans (hR.mono H1.out.1.size))
          have k6 : a.eval (.tmp 6) = .int .i64 i := hJ.slots 14 _ 6 rfl rfl (hall 14 (show 14 < 16 by decide))
          have k7 : a.eval (.tmp 7) = .bool false := hJ.slots 15 _ 7 rfl rfl (hall 15 (show 15 < 16 by decide))
          have hts : a.tmps.size = 49 := hJ.size
          have k6' : (a.tmps[6]?).getD undef = .int .i64 i := by rw [← Array.getD_eq_getD_getElem?]; exact k6
          have k7' : (a.tmps[7]?).getD undef = .bool false := by rw [← Array.getD_eq_getD_getElem?]; exact k7
          have hdf : a.defers = [] := hJ.defers
          obtain ⟨tmps, defers⟩ := a
          obtain rfl : defers = [] := hdf
          clear hJ hall hR k6 k7
          have hl := act_listing tmps 49 hts
          have h2 : (List.range 49).map (fun i => (tmps[i]?).getD undef) = [(tmps[0]?).getD undef, (tmps[1]?).getD undef, (tmps[2]?).getD undef, (tmps[3]?).getD undef, (tmps[4]?).getD undef, (tmps[5]?).getD undef, (tmps[6]?).getD undef, (tmps[7]?).getD undef, (tmps[8]?).getD undef, (tmps[9]?).getD undef, (tmps[10]?).getD undef, (tmps[11]?).getD undef, (tmps[12]?).getD undef, (tmps[13]?).getD undef, (tmps[14]?).getD undef, (tmps[15]?).getD undef, (tmps[16]?).getD undef, (tmps[17]?).getD undef, (tmps[18]?).getD undef, (tmps[19]?).getD undef, (tmps[20]?).getD undef, (tmps[21]?).getD undef, (tmps[22]?).getD undef, (tmps[23]?).getD undef, (tmps[24]?).getD undef, (tmps[25]?).getD undef, (tmps[26]?).getD undef, (tmps[27]?).getD undef, (tmps[28]?).getD undef, (tmps[29]?).getD undef, (tmps[30]?).getD undef, (tmps[31]?).getD undef, (tmps[32]?).getD undef, (tmps[33]?).getD undef, (tmps[34]?).getD undef, (tmps[35]?).getD undef, (tmps[36]?).getD undef, (tmps[37]?).getD undef, (tmps[38]?).getD undef, (tmps[39]?).getD undef, (tmps[40]?).getD undef, (tmps[41]?).getD undef, (tmps[42]?).getD undef, (tmps[43]?).getD undef, (tmps[44]?).getD undef, (tmps[45]?).getD undef, (tmps[46]?).getD undef, (tmps[47]?).getD undef, (tmps[48]?).getD undef] := by kernel_rfl
          rw [h2, k6', k7'] at hl
          clear h2 k6' k7' hts
          generalize (tmps[0]?).getD undef = x0 at hl
          generalize (tmps[1]?).getD undef = x1 at hl
          generalize (tmps[2]?).getD undef = x2 at hl
          generalize (tmps[3]?).getD undef = x3 at hl
          generalize (tmps[4]?).getD undef = x4 at hl
          generalize (tmps[5]?).getD undef = x5 at hl
          generalize (tmps[8]?).getD undef = x8 at hl
          generalize (tmps[9]?).getD undef = x9 at hl
          generalize (tmps[10]?).getD undef = x10 at hl
          generalize (tmps[11]?).getD undef = x11 at hl
          generalize (tmps[12]?).getD undef = x12 at hl
          generalize (tmps[13]?).getD undef = x13 at hl
          generalize (tmps[14]?).getD undef = x14 at hl
          generalize (tmps[15]?).getD undef = x15 at hl
          generalize (tmps[16]?).getD undef = x16 at hl
          generalize (tmps[17]?).getD undef = x17 at hl
          generalize (tmps[18]?).getD undef = x18 at hl
          generalize (tmps[19]?).getD undef = x19 at hl
          generalize (tmps[20]?).getD undef = x20 at hl
          generalize (tmps[21]?).getD undef = x21 at hl
          generalize (tmps[22]?).getD undef = x22 at hl
          generalize (tmps[23]?).getD undef = x23 at hl
          generalize (tmps[24]?).getD undef = x24 at hl
          generalize (tmps[25]?).getD undef = x25 at hl
          generalize (tmps[26]?).getD undef = x26 at hl
          generalize (tmps[27]?).getD undef = x27 at hl
          generalize (tmps[28]?).getD undef = x28 at hl
          generalize (tmps[29]?).getD undef = x29 at hl
          generalize (tmps[30]?).getD undef = x30 at hl
          generalize (tmps[31]?).getD undef = x31 at hl
          generalize (tmps[32]?).getD undef = x32 at hl
          generalize (tmps[33]?).getD undef = x33 at hl
          generalize (tmps[34]?).getD undef = x34 at hl
          generalize (tmps[35]?).getD undef = x35 at hl
          generalize (tmps[36]?).getD undef = x36 at hl
          generalize (tmps[37]?).getD undef = x37 at hl
          generalize (tmps[38]?).getD undef = x38 at hl
          generalize (tmps[39]?).getD undef = x39 at hl
          generalize (tmps[40]?).getD undef = x40 at hl
          generalize (tmps[41]?).getD undef = x41 at hl
          generalize (tmps[42]?).getD undef = x42 at hl
          generalize (tmps[43]?).getD undef = x43 at hl
          generalize (tmps[44]?).getD undef = x44 at hl
          generalize (tmps[45]?).getD undef = x45 at hl
          generalize (tmps[46]?).getD undef = x46 at hl
          generalize (tmps[47]?).getD undef = x47 at hl
          generalize (tmps[48]?).getD undef = x48 at hl
          subst hl
          go_wp2_with fail
          go_ret2
          exact ⟨i, false, rfl, HAT.out, HNO.out, H3.out⟩
end Go.Proofs.Ytaeoccpjdjafnaa.Im
namespace Go.Proofs.Ytaeoccpjdjafnaa.Im
open Go.RowKit
set_option maxRecDepth 100000
set_option linter.unusedVariables false
theorem fitH (q : Hq) : (cellsH q).length = 10 := rfl
theorem oneH (q : Hq) : ∀ u ∈ cellsH q, u.oneCell' = true := by
  intro u hu
  simp [cellsH] at hu
  rcases hu with rfl | rfl | rfl | rfl | rfl | rfl | rfl | rfl | rfl | rfl <;> rfl
theorem infH : (Try.prog.info? 59).map (fun i => (i.zero, i.size, i.bytes)) = some (some (.agg #[.int .i64 0, .int .i64 0, .int .i64 0, .int .i64 0, .int .i64 0, .slice none 0 0, .slice none 0 0, .slice none 0 0, .slice none 0 0, .slice none 0 0]), 10, 160) := by kernel_rfl
set_option maxHeartbeats 800000 in
theorem ownH_any (A : Option Addr) (c n : Nat) (L : List Hq) (hn : L.length = n) (hl : n ≤ 100000) (w : World) (h : IsRow cellsH 10 w w.heap.size A L) (hnil : A = none → c = 0) :
    Calls Try.prog 92 #[.slice A n c] w fun e w' => ∃ A' c', e = .returned (.slice A' n c') ∧ RowIn cellsH 10 59 w' (fun k => w.heap.size ≤ k) A' c' L ∧ Below w.heap.size w w' := by
  obtain ⟨i0, hi, hz0, hz1, hz2⟩ := info_parts infH
  have hrow : RowIn cellsH 10 59 w (fun k => w.heap.size ≤ k) none 0 [] := RowIn.nil fitH _ _ _
  go_enter Try.func92, Try.ntmps92
  go_wp2_with (at_builtin; refine wpList_append_rows rfl _ _ 22 rfl i0 _ Try.underlying22 hi hz0 hz1 hz2 rfl (by decide) hrow 0 rfl rfl A c L n hn rfl hnil h oneH (by omega) (by omega) ?_)
  intro A2 c2 w2 hrow2 hg2
  have H2 : Hid (RowIn cellsH 10 59 w2 (fun k => w.heap.size ≤ k) A2 c2 L ∧ Below w.heap.size w w2) := hid ⟨hrow2.mono (fun k hk => by have := hrow2.blk k hk; omega), below_grown hg2 (Nat.le_refl _) (fun k e => by cases e)⟩
  clear hrow2 hg2 hrow
  go_wp2_with fail
  go_ret
  exact ⟨A2, c2, rfl, H2.out⟩
set_option maxHeartbeats 800000 in
theorem growH_any (n : Nat) (hn : n ≤ 100000) (w : World) :
    Calls Try.prog 90 #[.slice none 0 0, .int .i64 (n : Int)] w fun e w' => ∃ A' c', e = .returned (.slice A' 0 c') ∧ RowIn cellsH 10 59 w' (fun k => w.heap.size ≤ k) A' c' [] ∧ Below w.heap.size w w' := by
  obtain ⟨i0, hi, hz0, hz1, hz2⟩ := info_parts infH
  have hui : Try.prog.underlying 3 = some (.int .i64) := by kernel_rfl
  by_cases h0 : 0 < n
  · go_enter Try.func90, Try.ntmps90
    go_wp2_with (at_builtin; refine Lib.wpList_append_run _ rfl _ _ 22 3 rfl (.slice none 0 0) (.int .i64 (n : Int)) rfl rfl _ _ (Lib.run_append_nil_zeros _ 22 3 _ 59 i0 (.agg #[.int .i64 0, .int .i64 0, .int .i64 0, .int .i64 0, .int .i64 0, .slice none 0 0, .slice none 0 0, .slice none 0 0, .slice none 0 0, .slice none 0 0]) .i64 .i64 Try.underlying22 hui hi hz0 n h0 (by rw [hz1]; decide) (by omega) (by rw [hz2]; omega)) ?_)
    have hcap1 := grownCap_ge w n 0 59
    have hcap2 := grownCap_le_maxLen w n 0 59 (by unfold maxLen; omega)
    obtain ⟨cap, hcap⟩ : ∃ cap, cap = grownCap w n 0 59 := ⟨_, rfl⟩
    rw [← hcap] at hcap1 hcap2 ⊢
    have HO : Hid (RowIn cellsH 10 59 (w.drew.alloc (.cells (Builtin.zeroCells (Value.agg #[.int .i64 0, .int .i64 0, .int .i64 0, .int .i64 0, .int .i64 0, .slice none 0 0, .slice none 0 0, .slice none 0 0, .slice none 0 0, .slice none 0 0]).cells n ++ Builtin.zeroCells (Value.agg #[.int .i64 0, .int .i64 0, .int .i64 0, .int .i64 0, .int .i64 0, .slice none 0 0, .slice none 0 0, .slice none 0 0, .slice none 0 0, .slice none 0 0]).cells (cap - n)) 59)) (fun k => w.heap.size ≤ k) (some ⟨w.heap.size, 0, none⟩) cap []) := by
      refine ⟨fitH, ⟨by simp, .inr ⟨w.heap.size, cap, _, rfl, Nat.zero_le _, heap_alloc_new w.drew _, Nat.zero_le _, hcap2, ?_, by simp⟩⟩, fun k hk => by cases hk; exact Nat.le_refl _⟩
      rw [Array.size_append, size_zeroCells, size_zeroCells]
      show n * 10 + (cap - n) * 10 = cap * 10
      omega
    have HB : Hid (Below w.heap.size w (w.drew.alloc (.cells (Builtin.zeroCells (Value.agg #[.int .i64 0, .int .i64 0, .int .i64 0, .int .i64 0, .int .i64 0, .slice none 0 0, .slice none 0 0, .slice none 0 0, .slice none 0 0, .slice none 0 0]).cells n ++ Builtin.zeroCells (Value.agg #[.int .i64 0, .int .i64 0, .int .i64 0, .int .i64 0, .int .i64 0, .slice none 0 0, .slice none 0 0, .slice none 0 0, .slice none 0 0, .slice none 0 0]).cells (cap - n)) 59))) :=
      (Below.refl _ _).drew.alloc (Nat.le_refl _) _
    unfold maxLen at hcap2
    have HC := hid hcap
    clear hcap
    go_wp2
    go_ret
    exact ⟨_, _, rfl, HO.out, HB.out⟩
  · obtain rfl : n = 0 := by omega
    go_enter Try.func90, Try.ntmps90
    go_wp2
    go_ret
    exact ⟨none, 0, rfl, RowIn.nil fitH _ _ _, Below.refl _ _⟩
set_option maxHeartbeats 1600000 in
theorem concatH_any (B b : Nat) (L : List (List Hq)) (n c : Nat) (hn : L.length = n) (hL : n ≤ 1000) (hF : L.flatten.length ≤ 100000) (w : World) (h0 : SRows cellsH 10 w B b L) (hb : b < w.heap.size) (hB : B ≤ w.heap.size) :
    Calls Try.prog 61 #[.slice (some ⟨b, 0, none⟩) n c] w fun e w' => ∃ A c' m, e = .returned (.slice A m c') ∧ m = L.flatten.length ∧ RowIn cellsH 10 59 w' (fun k => w.heap.size ≤ k) A c' L.flatten ∧ Below w.heap.size w w' := by
  obtain ⟨i0, hi, hz0, hz1, hz2⟩ := info_parts infH
  subst hn
  have h := hid h0
  have HF := hid hF
  clear h0 hF
  go_enter Try.func61, Try.ntmps61
  go_wp2_with fail
  go_loopw [3, 11] (fun v i wr => ∃ k m : Nat, k ≤ L.length ∧ m ≤ 100000 ∧ v = .int .i64 m ∧ i = .int .i64 k ∧ w = wr ∧ Hid (m = (L.take k).flatten.length)) (fun _ i _ => L.length - (RowKit.intOf i).toNat)
  case atStart => exact ⟨0, 0, by omega, by omega, rfl, rfl, rfl, hid (by simp)⟩
  case round =>
    obtain ⟨k, m, hk, hm, rfl, rfl, rfl, hs⟩ := hrel
    by_cases hlt : k < L.length
    · obtain ⟨a, ka, hcell, _, _⟩ := h.out.at_ k hlt
      have hst := sflat_step L k hlt
      have hle := sflat_le L (k + 1)
      rw [hst, List.length_append, ← hs.out] at hle
      have hm2 : m + L[k].length ≤ 100000 := by have := HF.out; omega
      have HS := hid hst
      clear hst hle
      generalize hn : L[k].length = n at *
      have HN := hid hn
      clear hn
      have hneg : ¬ ((m : Int) + (n : Int) < 0) := by omega
      go_wp2_with fail
      go_roundw
      case rel => exact ⟨k + 1, m + n, by omega, hm2, by go_num, by go_num, trivial, hid (by rw [HS.out, List.length_append, ← hs.out, HN.out])⟩
      case measure => simp [RowKit.intOf]; omega
    · obtain rfl : k = L.length := by omega
      have HG := hid (growH_any m (by omega) w)
      go_wp2_with fail
      refine HG.out.mono ?_
      rintro e w1 ⟨A1, c1, rfl, hown1, hbel1⟩
      have HO := hid hown1
      have HB := hid hbel1
      clear hown1 hbel1 HG
      go_wp2_with fail
      go_loopw [6, 27] (fun v i wr => ∃ (k q : Nat) (A : Option Addr) (c2 : Nat), k ≤ L.length ∧ v = .slice A q c2 ∧ i = .int .i64 k ∧ Hid (q = (L.take k).flatten.length ∧ RowIn cellsH 10 59 wr (fun k => w.heap.size ≤ k) A c2 (L.take k).flatten ∧ Below w.heap.size w wr)) (fun _ i _ => L.length - (RowKit.intOf i).toNat)
      case atStart => exact ⟨0, 0, A1, c1, by omega, rfl, rfl, hid ⟨by simp, by simpa using HO.out, HB.out⟩⟩
      case round =>
        clear HO HB
        obtain ⟨k, q, A, c2, hk, rfl, rfl, HX⟩ := hrel
        by_cases hlt : k < L.length
        · obtain ⟨a, ka, hcell0, hrow, hnil⟩ := h.out.at_ k hlt
          have hbel := HX.out.2.2
          have hcell : wr.cell? ⟨b, k, none⟩ = some (.slice a L[k].length ka) := (hbel.cell (by exact hb)).trans hcell0
          have hrow2 : IsRow cellsH 10 wr w.heap.size a L[k] := (hrow.more hB).below hbel
          have hst := sflat_step L k hlt
          have hle := sflat_le L (k + 1)
          rw [hst, List.length_append, ← HX.out.1] at hle
          have hsum : q + L[k].length ≤ 100000 := by have := HF.out; omega
          have hown := HX.out.2.1
          have HM := hid (And.intro hst (And.intro hle hbel))
          generalize hLk : L[k] = M at *
          obtain ⟨m, hm⟩ : ∃ m, m = M.length := ⟨_, rfl⟩
          rw [← hm] at hcell hsum
          have HK := hid (And.intro hm (And.intro hsum HX.out.1))
          clear hst hle hrow hcell0 hbel hm
          go_wp2_with (at_builtin; refine wpList_append_rows rfl _ _ 22 rfl i0 _ Try.underlying22 hi hz0 hz1 hz2 rfl (by decide) hown q HK.out.2.2.symm rfl a ka M m HK.out.1.symm rfl hnil hrow2 oneH (by have := HK.out.2.1; omega) HK.out.2.1 ?_)
          intro A3 c3 w3 hown3 hg3
          have H4 : Hid (q + m = (L.take (k + 1)).flatten.length ∧ RowIn cellsH 10 59 w3 (fun k => w.heap.size ≤ k) A3 c3 (L.take (k + 1)).flatten ∧ Below w.heap.size w w3) := hid (by
            refine ⟨by rw [HM.out.1, List.length_append, ← HK.out.1, ← HK.out.2.2], ?_, HM.out.2.2.trans (below_grown hg3 HM.out.2.2.size (fun k hk => HX.out.2.1.blk k hk))⟩
            rw [HM.out.1]
            have hz := HM.out.2.2.size
            exact hown3.mono (fun k hk => by have := hown3.blk k hk; omega))
          clear hown3 hg3 hown hrow2
          go_wp2_with fail
          go_roundw
          case rel => exact ⟨k + 1, q + m, A3, c3, by omega, by first | rfl | (simp), by go_num, H4⟩
          case measure => simp [RowKit.intOf]; omega
        · obtain rfl : k = L.length := by omega
          have H3 := HX.out
          rw [List.take_length] at H3
          have H3' := hid H3
          clear H3
          go_wp2_with fail
          go_ret
          exact ⟨A, c2, q, rfl, H3'.out.1, H3'.out.2.1, H3'.out.2.2⟩
end Go.Proofs.Ytaeoccpjdjafnaa.Im
