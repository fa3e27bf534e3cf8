/- Texts of the proof, one behind the other: CfOf, RegCalls, RegGrow, RegArms, RegStore, CfX, CfY, Region, RefRd, RefReader2, RefRdInt, RefReader, RefReader3, RefRdNew. -/
import Derived.Test.YtfkjahpcpmcefaaGreatConfKnownPartAB
import Derived.Test.YtfkjahpcpmcefaaGreatConfKnownPartAC
import Derived.Test.YtfkjahpcpmcefaaGreatConfKnownPartAD
import Derived.StillTail
import Derived.Below
import Derived.WalkKit
import Derived.Deep.CutRange
import Derived.Test.YtfkjahpcpmcefaaGreatConfKnownPartAA
import Derived.Deep.RegionHeld3
import Derived.Deep.AppendLies
import Derived.Deep.MidRow
import Derived.Deep.RegionLaw
import Derived.IntWalk
namespace Go.Proofs.YtfkjahpcpmcefaaGreat.Co
open Go Go.RowKit
open Qu (Cf)
open Rl (En Lg)
open Im (Ad Hd Pt IsPt)
set_option maxRecDepth 100000
set_option linter.unusedVariables false
attribute [local go_sem] Oper.semAt_some
theorem loadAt_en3 (a : Value) : Instr.loadAt 33 a = Im.ldX 33 a := rfl
theorem storeAt_en3 (a v : Value) : Instr.storeAt 33 a v = Im.stX 33 a v := rfl
theorem info_en3 : (Tryz.prog.info? 33).map (·.size) = some 3 := by kernel_rfl
attribute [local go_sem ↓] Im.loadAt_conf3 Im.storeAt_conf3
theorem keepsFrom_below {B : Nat} {W W' : World} (h : Below W.heap.size W W') : KeepsFrom B W W' := ⟨h.size, fun k o _ hk _ => (h.block k (Array.getElem?_eq_some_iff.1 hk).1).trans hk⟩
theorem EvAt.more {W : World} {n₀ n₁ m : Nat} {A : Option Addr} {T K : Nat → Int} {D : Nat → Value} (h : EvAt W n₀ A m T K D) (hn : n₀ ≤ n₁) : EvAt W n₁ A m T K D :=
  ⟨fun x hx => by
    obtain ⟨b, off, e, hlt, h1⟩ := h.at_ x hx
    exact ⟨b, off, e, by omega, h1⟩⟩
def Quiet (e : En) : Prop := e.k ≠ 2 ∨ (Im.getCf e.d).2 ≠ 0
set_option maxHeartbeats 1600000 in
theorem told_any (e : En) (he : Quiet e) (hn : e.d.length ≤ 65536) (A : Option Addr) (c : Nat) (hz : A = none → c = 0) (w : World) (h : IsBytes w w.heap.size A e.d) :
    Calls Tryz.prog 56 #[.agg #[.int .i64 e.t, .int .i64 e.k, .slice A e.d.length c]] w fun r w' => ∃ m : M3, r = .returned (.tuple #[.agg #[.slice m.a0 m.n0 m.k0, .slice m.a1 m.n1 m.k1, .slice m.a2 m.n2 m.k2], .bool false]) ∧ Below w.heap.size w w' := by
  obtain ⟨w2, hw2⟩ : ∃ w2, w2 = (w.alloc (.cells #[.int .i64 e.t, .int .i64 e.k, .slice A e.d.length c] 33)).alloc (.cells #[.slice none 0 0, .slice none 0 0, .slice none 0 0] 24) := ⟨_, rfl⟩
  have hb2 : Below w.heap.size w w2 := by rw [hw2]; exact ((Below.refl _ _).alloc (Nat.le_refl _) _).alloc (by simp) _
  have hs2 : w2.heap.size = w.heap.size + 2 := by rw [hw2]; simp
  have hr : w2.heap[w.heap.size]? = some (.cells #[.int .i64 e.t, .int .i64 e.k, .slice A e.d.length c] 33 (0, 0)) := by rw [hw2, Below.heap_alloc _ _ _ (by simp)]; exact heap_alloc_new w _
  have hx : Bx w2 (w.heap.size + 1) 24 mNil := by
    have q := heap_alloc_new (w.alloc (.cells #[.int .i64 e.t, .int .i64 e.k, .slice A e.d.length c] 33)) (.cells #[.slice none 0 0, .slice none 0 0, .slice none 0 0] 24)
    rw [World.size_alloc] at q
    rw [hw2]; exact q
  have c1 := cell_of_row w2 w.heap.size 1 _ _ _ hr
  have c2 := cell_of_row w2 w.heap.size 2 _ _ _ hr
  have hst := st_nil hx
  have HG := hid (Im.getCf_any e.d A c e.d.length rfl w2 ((h.below hb2).more (by omega)) hz (by omega))
  have HX := hid (And.intro hx hb2)
  have hk : (e.k != 2) = true ∨ ((e.k != 2) = false ∧ (((Im.getCf e.d).2 == 0) = false)) := by
    by_cases h2 : e.k = 2
    · refine .inr ⟨by rw [h2]; rfl, ?_⟩
      rw [beq_eq_false_iff_ne]
      exact he.resolve_left (fun q => q h2)
    · exact .inl (by rw [bne_iff_ne]; exact h2)
  rw [hw2] at c1 c2 hst
  clear h hb2 hs2 hr hx he
  rcases hk with hk | ⟨hk, hg⟩
  · go_enter Tryz.func56, Tryz.ntmps56
    go_wp2_with fail
    rw [← hw2]
    refine bodyPost_ret (Im.results_two rfl Im.info_conf33 Tryz.underlying24 rfl _ _ (w.heap.size + 1) _ _ _ rfl HX.out.1 rfl) rfl ?_
    exact ⟨mNil, rfl, HX.out.2⟩
  · obtain ⟨er, her⟩ : ∃ er, er = (Im.getCf e.d).2 := ⟨_, rfl⟩
    rw [← her] at HG hg
    clear her
    go_enter Tryz.func56, Tryz.ntmps56
    go_wp2_with fail
    rw [← hw2]
    clear hw2 c1 c2 hst
    refine HG.out.mono ?_
    rintro r w3 ⟨a, n1, n2, n3, rfl, _, hb3⟩
    obtain ⟨v3, hv3⟩ : ∃ v3, v3 = w3.alloc (.cells #[.slice ((⟨a.o, n1, a.co, a.n, n2, a.cn, a.l, n3, a.cl⟩ : M3)).a0 ((⟨a.o, n1, a.co, a.n, n2, a.cn, a.l, n3, a.cl⟩ : M3)).n0 ((⟨a.o, n1, a.co, a.n, n2, a.cn, a.l, n3, a.cl⟩ : M3)).k0, .slice ((⟨a.o, n1, a.co, a.n, n2, a.cn, a.l, n3, a.cl⟩ : M3)).a1 ((⟨a.o, n1, a.co, a.n, n2, a.cn, a.l, n3, a.cl⟩ : M3)).n1 ((⟨a.o, n1, a.co, a.n, n2, a.cn, a.l, n3, a.cl⟩ : M3)).k1, .slice ((⟨a.o, n1, a.co, a.n, n2, a.cn, a.l, n3, a.cl⟩ : M3)).a2 ((⟨a.o, n1, a.co, a.n, n2, a.cn, a.l, n3, a.cl⟩ : M3)).n2 ((⟨a.o, n1, a.co, a.n, n2, a.cn, a.l, n3, a.cl⟩ : M3)).k2] 24) := ⟨_, rfl⟩
    obtain ⟨q1, q2, q3, q4⟩ := box_new hv3
    have hld := q1.ld
    have hb23 := hb3.trans (q2.mono hb3.size)
    have hbx := HX.out.1.below hb23 HX.out.1.lt
    have hst := hbx.st (m' := ⟨a.o, n1, a.co, a.n, n2, a.cn, a.l, n3, a.cl⟩)
    have H3 := hid (And.intro (hbx.set ⟨a.o, n1, a.co, a.n, n2, a.cn, a.l, n3, a.cl⟩) (HX.out.2.trans ((hb23.mono HX.out.2.size).trans ((Bx.tur v3 (w.heap.size + 1) ⟨a.o, n1, a.co, a.n, n2, a.cn, a.l, n3, a.cl⟩).below (by have := HX.out.2.size; have := hb23.size; omega) (fun k hk => by omega)))))
    clear hv3 q1 q2 q3 hb3 hb23 hbx
    go_wp2_with fail
    refine bodyPost_ret (Im.results_two rfl Im.info_conf33 Tryz.underlying24 rfl _ _ (w.heap.size + 1) _ _ _ rfl H3.out.1 rfl) rfl ?_
    exact ⟨⟨a.o, n1, a.co, a.n, n2, a.cn, a.l, n3, a.cl⟩, rfl, H3.out.2⟩
def mOf (x : Hd) (a : Ad) : M3 := ⟨a.o, x.p.cf.old.length, a.co, a.n, x.p.cf.new.length, a.cn, a.l, x.p.cf.lrn.length, a.cl⟩
theorem evAt_of {w : World} {B : Nat} {A : Option Addr} {L : List En} (h : IsEnts w B A L) : ∃ (T K : Nat → Int) (D : Nat → Value) (F : Nat → Option Addr) (G : Nat → Nat), EvAt w B A L.length T K D ∧ ∀ i (hi : i < L.length), T i = L[i].t ∧ K i = L[i].k ∧ D i = .slice (F i) L[i].d.length (G i) ∧ IsBytes w B (F i) L[i].d ∧ (F i = none → G i = 0) := by
  have hc : ∀ i, ∃ q : Option Addr × Nat, ∀ hi : i < L.length, (∃ b off, A = some ⟨b, off, none⟩ ∧ b < B ∧ w.cell? ⟨b, off + i * 3, none⟩ = some (.int .i64 L[i].t) ∧ w.cell? ⟨b, off + i * 3 + 1, none⟩ = some (.int .i64 L[i].k) ∧ w.cell? ⟨b, off + i * 3 + 2, none⟩ = some (.slice q.1 L[i].d.length q.2)) ∧ IsBytes w B q.1 L[i].d ∧ (q.1 = none → q.2 = 0) := fun i => by
    by_cases hi : i < L.length
    · obtain ⟨b, off, e, hb, hq⟩ := h.cells i hi
      obtain ⟨A', c', h0, h1, h2, h3, h4, h5⟩ := hq i hi
      exact ⟨(A', c'), fun _ => ⟨⟨b, off, e, hb, h0, h1, h2⟩, h3, h5⟩⟩
    · exact ⟨(none, 0), fun q => absurd q hi⟩
  refine ⟨fun i => (L[i]?.map (·.t)).getD 0, fun i => (L[i]?.map (·.k)).getD 0, fun i => .slice (hc i).choose.1 ((L[i]?.map (·.d.length)).getD 0) (hc i).choose.2, fun i => (hc i).choose.1, fun i => (hc i).choose.2, ⟨fun i hi => ?_⟩, fun i hi => ?_⟩
  · have := (hc i).choose_spec hi
    simp only [List.getElem?_eq_getElem hi, Option.map_some, Option.getD_some]
    exact this.1
  · have := (hc i).choose_spec hi
    simp only [List.getElem?_eq_getElem hi, Option.map_some, Option.getD_some]
    exact ⟨trivial, trivial, trivial, this.2.1, this.2.2⟩
theorem row_own (B b : Nat) (cs : Array Value) (t : TypeId) : OwnFrom B (fun (_ : Unit) W => W.heap[b]? = some (.cells cs t (0, 0))) := fun _ W W' row hs hg hr => by
  have hlt := (Array.getElem?_eq_some_iff.1 hs).1
  refine (hg.block b hlt (fun e => ?_)).trans hs
  obtain ⟨_, o, ho, hc⟩ := hr b e.symm
  rw [hs] at ho
  obtain rfl := Option.some.inj ho
  cases hc
theorem sub_range {w : World} {b o : Nat} {cs : List Value} (h : w.rangeAt b o cs) (i n : Nat) : w.rangeAt b (o + i) ((cs.drop i).take n) := fun j v hv => by
  rw [List.getElem?_take] at hv
  split at hv
  · rw [List.getElem?_drop] at hv
    have := h (i + j) v hv
    rwa [← Nat.add_assoc] at this
  · cases hv
theorem ld_conf {W : World} {b : Nat} {x : Hd} {a : Ad} (h : W.heap[b]? = some (.cells #[.int .i64 x.g, .int .i64 x.t, .int .i64 x.v, .int .i64 x.p.log.base, .int .i64 x.p.log.term, .slice a.e x.p.log.es.length a.ce, .slice a.o x.p.cf.old.length a.co, .slice a.n x.p.cf.new.length a.cn, .slice a.l x.p.cf.lrn.length a.cl, .slice a.s x.p.sn.length a.cs] 38 (0, 0))) : (Im.ldX 24 (.pointer (some ⟨b, 6, none⟩))).run Tryz.prog W = .ok (.agg #[.slice ((mOf x a)).a0 ((mOf x a)).n0 ((mOf x a)).k0, .slice ((mOf x a)).a1 ((mOf x a)).n1 ((mOf x a)).k1, .slice ((mOf x a)).a2 ((mOf x a)).n2 ((mOf x a)).k2]) W := by
  have hr := sub_range (Im.range_row (cs := [.int .i64 x.g, .int .i64 x.t, .int .i64 x.v, .int .i64 x.p.log.base, .int .i64 x.p.log.term, .slice a.e x.p.log.es.length a.ce, .slice a.o x.p.cf.old.length a.co, .slice a.n x.p.cf.new.length a.cn, .slice a.l x.p.cf.lrn.length a.cl, .slice a.s x.p.sn.length a.cs]) h) 6 3
  exact run_loadAt_mid W b 6 24 _ _ hr Tryz.underlying24 rfl (by rw [Im.info_conf33]; rfl)
theorem res_of (tmps : Array Value) (w : World) (b1 b2 : Nat) (m : M3) (v : Int) (h2 : tmps[2]?.getD undef = .pointer (some ⟨b1, 0, none⟩)) (h3 : tmps[3]?.getD undef = .pointer (some ⟨b2, 0, none⟩)) (hg : Bx w b1 24 m) (hc : w.cell? ⟨b2, 0, none⟩ = some (.int .i64 v)) :
    (results Tryz.f29 tmps).run Tryz.prog w = .ok (.tuple #[.agg #[.slice m.a0 m.n0 m.k0, .slice m.a1 m.n1 m.k1, .slice m.a2 m.n2 m.k2], .int .i64 v]) w := by
  have hl := run_loadVar_row (P := Tryz.prog) w b1 24 24 #[.slice m.a0 m.n0 m.k0, .slice m.a1 m.n1 m.k1, .slice m.a2 m.n2 m.k2] (0, 0) _ hg Tryz.underlying24 rfl (by rw [Im.info_conf33]; rfl)
  have c0 := hg.c0
  have c1 := hg.c1
  have c2 := hg.c2
  simp [results, Tryz.results29, go_sem, h2, h3, c0, c1, c2, hc]
theorem of_store {W : World} {b : Nat} {x : Hd} {a : Ad} (m' : M3) (v : Value) (p0 : W.heap[b]? = some (.cells #[.int .i64 x.g, .int .i64 x.t, .int .i64 x.v, .int .i64 x.p.log.base, .int .i64 x.p.log.term, .slice a.e x.p.log.es.length a.ce, .slice a.o x.p.cf.old.length a.co, .slice a.n x.p.cf.new.length a.cn, .slice a.l x.p.cf.lrn.length a.cl, .slice a.s x.p.sn.length a.cs] 38 (0, 0))) (p1 : Bx W (b + 1) 24 mNil) (p2 : W.heap[b + 2]? = some (.cells #[.int .i64 0] 3 (0, 0))) :
    ((W.setRow (b + 1) #[.slice m'.a0 m'.n0 m'.k0, .slice m'.a1 m'.n1 m'.k1, .slice m'.a2 m'.n2 m'.k2]).cell? ⟨b, 3, none⟩ = some (.int .i64 x.p.log.base) ∧ (Im.ldX 24 (.pointer (some ⟨b, 6, none⟩))).run Tryz.prog (W.setRow (b + 1) #[.slice m'.a0 m'.n0 m'.k0, .slice m'.a1 m'.n1 m'.k1, .slice m'.a2 m'.n2 m'.k2]) = .ok (.agg #[.slice ((mOf x a)).a0 ((mOf x a)).n0 ((mOf x a)).k0, .slice ((mOf x a)).a1 ((mOf x a)).n1 ((mOf x a)).k1, .slice ((mOf x a)).a2 ((mOf x a)).n2 ((mOf x a)).k2]) (W.setRow (b + 1) #[.slice m'.a0 m'.n0 m'.k0, .slice m'.a1 m'.n1 m'.k1, .slice m'.a2 m'.n2 m'.k2])) ∧
    (W.setRow (b + 1) #[.slice m'.a0 m'.n0 m'.k0, .slice m'.a1 m'.n1 m'.k1, .slice m'.a2 m'.n2 m'.k2]).cell? ⟨b + 2, 0, none⟩ = some (.int .i64 0) ∧ (W.setRow (b + 1) #[.slice m'.a0 m'.n0 m'.k0, .slice m'.a1 m'.n1 m'.k1, .slice m'.a2 m'.n2 m'.k2]).frozen? ⟨b + 2, 0, none⟩ = false ∧
    (((W.setRow (b + 1) #[.slice m'.a0 m'.n0 m'.k0, .slice m'.a1 m'.n1 m'.k1, .slice m'.a2 m'.n2 m'.k2]).setCell ⟨b + 2, 0, none⟩ v).cell? ⟨b, 3, none⟩ = some (.int .i64 x.p.log.base) ∧ (Im.ldX 24 (.pointer (some ⟨b, 6, none⟩))).run Tryz.prog ((W.setRow (b + 1) #[.slice m'.a0 m'.n0 m'.k0, .slice m'.a1 m'.n1 m'.k1, .slice m'.a2 m'.n2 m'.k2]).setCell ⟨b + 2, 0, none⟩ v) = .ok (.agg #[.slice ((mOf x a)).a0 ((mOf x a)).n0 ((mOf x a)).k0, .slice ((mOf x a)).a1 ((mOf x a)).n1 ((mOf x a)).k1, .slice ((mOf x a)).a2 ((mOf x a)).n2 ((mOf x a)).k2]) ((W.setRow (b + 1) #[.slice m'.a0 m'.n0 m'.k0, .slice m'.a1 m'.n1 m'.k1, .slice m'.a2 m'.n2 m'.k2]).setCell ⟨b + 2, 0, none⟩ v)) ∧
    Bx ((W.setRow (b + 1) #[.slice m'.a0 m'.n0 m'.k0, .slice m'.a1 m'.n1 m'.k1, .slice m'.a2 m'.n2 m'.k2]).setCell ⟨b + 2, 0, none⟩ v) (b + 1) 24 m' ∧ ((W.setRow (b + 1) #[.slice m'.a0 m'.n0 m'.k0, .slice m'.a1 m'.n1 m'.k1, .slice m'.a2 m'.n2 m'.k2]).setCell ⟨b + 2, 0, none⟩ v).cell? ⟨b + 2, 0, none⟩ = some v ∧ Turned (fun k => k = b + 1 ∨ k = b + 2) W ((W.setRow (b + 1) #[.slice m'.a0 m'.n0 m'.k0, .slice m'.a1 m'.n1 m'.k1, .slice m'.a2 m'.n2 m'.k2]).setCell ⟨b + 2, 0, none⟩ v) := by
  have g0 := (setRow_other W (b + 1) b #[.slice m'.a0 m'.n0 m'.k0, .slice m'.a1 m'.n1 m'.k1, .slice m'.a2 m'.n2 m'.k2] (by omega)).trans p0
  have g2 := (setRow_other W (b + 1) (b + 2) #[.slice m'.a0 m'.n0 m'.k0, .slice m'.a1 m'.n1 m'.k1, .slice m'.a2 m'.n2 m'.k2] (by omega)).trans p2
  have g1 := p1.set m'
  have k0 := (Below.heap_setCell (W.setRow (b + 1) #[.slice m'.a0 m'.n0 m'.k0, .slice m'.a1 m'.n1 m'.k1, .slice m'.a2 m'.n2 m'.k2]) ⟨b + 2, 0, none⟩ v b (show b ≠ b + 2 by omega)).trans g0
  have k1 : Bx ((W.setRow (b + 1) #[.slice m'.a0 m'.n0 m'.k0, .slice m'.a1 m'.n1 m'.k1, .slice m'.a2 m'.n2 m'.k2]).setCell ⟨b + 2, 0, none⟩ v) (b + 1) 24 m' := g1.keep (Below.heap_setCell (W.setRow (b + 1) #[.slice m'.a0 m'.n0 m'.k0, .slice m'.a1 m'.n1 m'.k1, .slice m'.a2 m'.n2 m'.k2]) ⟨b + 2, 0, none⟩ v (b + 1) (show b + 1 ≠ b + 2 by omega))
  refine ⟨⟨cell_of_row _ b 3 _ _ _ g0, ld_conf g0⟩, cell_of_row _ (b + 2) 0 _ _ _ g2, by simp [World.frozen?, g2], ⟨cell_of_row _ b 3 _ _ _ k0, ld_conf k0⟩, k1, ?_, ?_⟩
  · simp [World.cell?, World.setCell, Array.getElem?_modify, g2]
  · exact ((Bx.tur W (b + 1) m').mono (fun k hk => .inl hk)).trans ((Turned.one _ (b + 2) 0 v).mono (fun k hk => .inr hk))
attribute [local go_sem ↓] loadAt_en3 storeAt_en3
set_option maxHeartbeats 3200000 in
theorem of_any (x : Hd) (a : Ad) (w : World) (hE : IsEnts w w.heap.size a.e x.p.log.es) (hm : x.p.log.es.length ≤ 1000) (hmc : x.p.log.es.length ≤ a.ce ∧ a.ce ≤ maxLen) (hq : ∀ e ∈ x.p.log.es, Quiet e ∧ e.d.length ≤ 65536) (hC : InC w w.heap.size x.p.cf (mOf x a)) (hs : Short x.p.cf) (hb : 0 ≤ x.p.log.base ∧ x.p.log.base ≤ 1099511627776) :
    Calls Tryz.prog 29 #[.agg #[.int .i64 x.g, .int .i64 x.t, .int .i64 x.v, .int .i64 x.p.log.base, .int .i64 x.p.log.term, .slice a.e x.p.log.es.length a.ce, .slice a.o x.p.cf.old.length a.co, .slice a.n x.p.cf.new.length a.cn, .slice a.l x.p.cf.lrn.length a.cl, .slice a.s x.p.sn.length a.cs]] w (GotE w x.p.cf x.p.log.base) := by
  obtain ⟨T, K, D, F, G, hev, hdat⟩ := evAt_of hE
  obtain ⟨w0, hw0⟩ : ∃ w0, w0 = (((w.alloc (.cells #[.int .i64 x.g, .int .i64 x.t, .int .i64 x.v, .int .i64 x.p.log.base, .int .i64 x.p.log.term, .slice a.e x.p.log.es.length a.ce, .slice a.o x.p.cf.old.length a.co, .slice a.n x.p.cf.new.length a.cn, .slice a.l x.p.cf.lrn.length a.cl, .slice a.s x.p.sn.length a.cs] 38)).alloc (.cells #[.slice none 0 0, .slice none 0 0, .slice none 0 0] 24)).alloc (.cells #[.int .i64 0] 3)).alloc (.cells #[.slice a.e x.p.log.es.length a.ce] 34) := ⟨_, rfl⟩
  have hb0 : Below w.heap.size w w0 := by rw [hw0]; exact ((((Below.refl _ _).alloc (Nat.le_refl _) _).alloc (by simp) _).alloc (by simp <;> omega) _).alloc (by simp <;> omega) _
  have hs0 : w0.heap.size = w.heap.size + 4 := by rw [hw0]; simp
  have hr0 : w0.heap[w.heap.size]? = some (.cells #[.int .i64 x.g, .int .i64 x.t, .int .i64 x.v, .int .i64 x.p.log.base, .int .i64 x.p.log.term, .slice a.e x.p.log.es.length a.ce, .slice a.o x.p.cf.old.length a.co, .slice a.n x.p.cf.new.length a.cn, .slice a.l x.p.cf.lrn.length a.cl, .slice a.s x.p.sn.length a.cs] 38 (0, 0)) := by
    rw [hw0, Below.heap_alloc _ _ _ (by simp <;> omega), Below.heap_alloc _ _ _ (by simp <;> omega), Below.heap_alloc _ _ _ (by simp)]; exact heap_alloc_new w _
  have hr1 : Bx w0 (w.heap.size + 1) 24 mNil := by
    have q := heap_alloc_new (w.alloc (.cells #[.int .i64 x.g, .int .i64 x.t, .int .i64 x.v, .int .i64 x.p.log.base, .int .i64 x.p.log.term, .slice a.e x.p.log.es.length a.ce, .slice a.o x.p.cf.old.length a.co, .slice a.n x.p.cf.new.length a.cn, .slice a.l x.p.cf.lrn.length a.cl, .slice a.s x.p.sn.length a.cs] 38)) (.cells #[.slice none 0 0, .slice none 0 0, .slice none 0 0] 24)
    rw [World.size_alloc] at q
    unfold Bx
    rw [hw0, Below.heap_alloc _ _ _ (by simp <;> omega), Below.heap_alloc _ _ _ (by simp)]
    exact q
  have hr2 : w0.heap[w.heap.size + 2]? = some (.cells #[.int .i64 0] 3 (0, 0)) := by
    have q := heap_alloc_new ((w.alloc (.cells #[.int .i64 x.g, .int .i64 x.t, .int .i64 x.v, .int .i64 x.p.log.base, .int .i64 x.p.log.term, .slice a.e x.p.log.es.length a.ce, .slice a.o x.p.cf.old.length a.co, .slice a.n x.p.cf.new.length a.cn, .slice a.l x.p.cf.lrn.length a.cl, .slice a.s x.p.sn.length a.cs] 38)).alloc (.cells #[.slice none 0 0, .slice none 0 0, .slice none 0 0] 24)) (.cells #[.int .i64 0] 3)
    rw [World.size_alloc, World.size_alloc] at q
    rw [hw0, Below.heap_alloc _ _ _ (by simp)]
    exact q
  have hr3 : w0.cell? ⟨w.heap.size + 3, 0, none⟩ = some (.slice a.e x.p.log.es.length a.ce) := by
    have q := heap_alloc_new (((w.alloc (.cells #[.int .i64 x.g, .int .i64 x.t, .int .i64 x.v, .int .i64 x.p.log.base, .int .i64 x.p.log.term, .slice a.e x.p.log.es.length a.ce, .slice a.o x.p.cf.old.length a.co, .slice a.n x.p.cf.new.length a.cn, .slice a.l x.p.cf.lrn.length a.cl, .slice a.s x.p.sn.length a.cs] 38)).alloc (.cells #[.slice none 0 0, .slice none 0 0, .slice none 0 0] 24)).alloc (.cells #[.int .i64 0] 3)) (.cells #[.slice a.e x.p.log.es.length a.ce] 34)
    rw [World.size_alloc, World.size_alloc, World.size_alloc] at q
    rw [hw0]
    exact cell_of_row _ (w.heap.size + 3) 0 _ _ _ q
  have H0 := hid (And.intro hb0 (And.intro hs0 (And.intro hr0 (And.intro hr1 (And.intro hr2 hr3)))))
  have HEV := hid (hev.below hb0)
  have HDA : Hid (∀ i, i < x.p.log.es.length → ∃ e : En, Quiet e ∧ e.d.length ≤ 65536 ∧ T i = e.t ∧ K i = e.k ∧ ∃ A c, D i = .slice A e.d.length c ∧ IsBytes w w.heap.size A e.d ∧ (A = none → c = 0)) := hid (fun i hi => by
    obtain ⟨q1, q2, q3, q4, q5⟩ := hdat i hi
    exact ⟨_, (hq _ (List.getElem_mem hi)).1, (hq _ (List.getElem_mem hi)).2, q1, q2, _, _, q3, q4, q5⟩)
  have HC := hid (And.intro hC hs)
  have c5 : w0.cell? ⟨w.heap.size, 5, none⟩ = some (.slice a.e x.p.log.es.length a.ce) := by exact cell_of_row w0 w.heap.size 5 _ _ _ hr0
  clear hE hev hdat hb0 hs0 hr0 hr1 hr2 hr3 hq hC hs
  have c5' : (((w.alloc (.cells #[.int .i64 x.g, .int .i64 x.t, .int .i64 x.v, .int .i64 x.p.log.base, .int .i64 x.p.log.term, .slice a.e x.p.log.es.length a.ce, .slice a.o x.p.cf.old.length a.co, .slice a.n x.p.cf.new.length a.cn, .slice a.l x.p.cf.lrn.length a.cl, .slice a.s x.p.sn.length a.cs] 38)).alloc (.cells #[.slice none 0 0, .slice none 0 0, .slice none 0 0] 24)).alloc (.cells #[.int .i64 0] 3)).cell? ⟨w.heap.size, 5, none⟩ = some (.slice a.e x.p.log.es.length a.ce) := by
    have q : (((w.alloc (.cells #[.int .i64 x.g, .int .i64 x.t, .int .i64 x.v, .int .i64 x.p.log.base, .int .i64 x.p.log.term, .slice a.e x.p.log.es.length a.ce, .slice a.o x.p.cf.old.length a.co, .slice a.n x.p.cf.new.length a.cn, .slice a.l x.p.cf.lrn.length a.cl, .slice a.s x.p.sn.length a.cs] 38)).alloc (.cells #[.slice none 0 0, .slice none 0 0, .slice none 0 0] 24)).alloc (.cells #[.int .i64 0] 3)).heap[w.heap.size]? = some (.cells #[.int .i64 x.g, .int .i64 x.t, .int .i64 x.v, .int .i64 x.p.log.base, .int .i64 x.p.log.term, .slice a.e x.p.log.es.length a.ce, .slice a.o x.p.cf.old.length a.co, .slice a.n x.p.cf.new.length a.cn, .slice a.l x.p.cf.lrn.length a.cl, .slice a.s x.p.sn.length a.cs] 38 (0, 0)) := by
      rw [Below.heap_alloc _ _ _ (by simp <;> omega), Below.heap_alloc _ _ _ (by simp)]; exact heap_alloc_new w _
    exact cell_of_row _ w.heap.size 5 _ _ _ q
  have HW0 := hid hw0
  clear hw0 c5
  refine (callsIn_wide (n := 9)).1 ?_
  refine callsIn_of_wp_marks Tryz.func29 rfl trivial ?_
  simp only [Tryz.ntmps29, List.size_toArray, List.length_cons, List.length_nil, Nat.reduceAdd, Nat.reduceSub, Array.replicate_succ, Array.replicate_zero, List.push_toArray, List.append_toArray, List.nil_append, List.cons_append]
  refine wpIn_wide.2 ?_
  go_wp2_with fail
  refine (backward_any a.e x.p.log.es.length a.ce _).mono ?_
  rintro e0 w0' ⟨rfl, hw0'⟩
  obtain rfl : w0' = w0 := by rw [hw0', HW0.out]
  clear hw0' c5'
  go_wp2_with fail
  have HROW : Hid (∀ W, Below w0'.heap.size w0' W → W.heap[w.heap.size]? = some (.cells #[.int .i64 x.g, .int .i64 x.t, .int .i64 x.v, .int .i64 x.p.log.base, .int .i64 x.p.log.term, .slice a.e x.p.log.es.length a.ce, .slice a.o x.p.cf.old.length a.co, .slice a.n x.p.cf.new.length a.cn, .slice a.l x.p.cf.lrn.length a.cl, .slice a.s x.p.sn.length a.cs] 38 (0, 0)) ∧ Bx W (w.heap.size + 1) 24 mNil ∧ W.heap[w.heap.size + 2]? = some (.cells #[.int .i64 0] 3 (0, 0))) := hid (fun W hb => by
    have hz := H0.out.2.1
    exact ⟨(hb.block _ (by omega)).trans H0.out.2.2.1, H0.out.2.2.2.1.below hb (by omega), (hb.block _ (by omega)).trans H0.out.2.2.2.2.1⟩)
  refine (wpIn_wide (n := 9)).1 ?_
  refine wpIn_rangeFunc_ownH (n := 9) rfl (by omega) (gf := 80) (lb := #[.pointer (some ⟨w.heap.size + 1 + 1 + 1, 0, none⟩)]) rfl trivial (enters_of (P := Tryz.prog) Tryz.func80 (by kernel_rfl) rfl)
    (encs := encB T K D (m := x.p.log.es.length)) (Kp := Below w0'.heap.size) (S := fun xs => xs = (List.finRange x.p.log.es.length).reverse) (Sp := fun pre => ∃ k, k ≤ x.p.log.es.length ∧ pre = dn k) (N := x.p.log.es.length) (w0 := w0') ?seq belowK_t (belowK_b (Nat.le_refl _)) (Below.refl _ _) (fun _ => rfl)
    (fun pre W => Below w0'.heap.size w0' W) (fun _ _ _ => False) (ownFrom_below (Nat.le_refl _) (Nat.le_refl _)) (fun _ _ _ _ _ hs _ _ => hs) (Below.refl _ _)
    (fun z a' W => ∃ q, w0'.heap.size ≤ q ∧ W.heap[q]? = some (.cells #[.int .i64 (T z.1), .int .i64 (K z.1), D z.1] 33 (0, 0)) ∧ ∃ r, a' = { tmps := #[.agg #[.int .i64 x.g, .int .i64 x.t, .int .i64 x.v, .int .i64 x.p.log.base, .int .i64 x.p.log.term, .slice a.e x.p.log.es.length a.ce, .slice a.o x.p.cf.old.length a.co, .slice a.n x.p.cf.new.length a.cn, .slice a.l x.p.cf.lrn.length a.cl, .slice a.s x.p.sn.length a.cs], .pointer (some ⟨w.heap.size, 0, none⟩), .pointer (some ⟨w.heap.size + 1, 0, none⟩), .pointer (some ⟨w.heap.size + 1 + 1, 0, none⟩), .int .i64 (z.1 : Int), .pointer (some ⟨q, 0, none⟩), undef, undef, .pointer (some ⟨w.heap.size, 3, none⟩), .pointer (some ⟨w.heap.size, 5, none⟩), .slice a.e x.p.log.es.length a.ce, .func (.func 80) #[] #[.pointer (some ⟨w.heap.size + 1 + 1 + 1, 0, none⟩)], .int .i64 (z.1 : Int), r, undef, undef, undef, undef, undef, undef, undef, undef, undef, undef, undef, undef, undef, undef, undef, undef, undef, undef, undef], defers := [] })
    ?ax ?assign ?body ?done ?stop
  case ax =>
    rintro z a' _ W W' row ⟨q, hq, hr, h2⟩ hg hrow
    exact ⟨q, hq, row_own _ q _ _ () W W' row hr hg hrow, h2⟩
  case seq =>
    intro lp J Jx W hW hJ hJx hY h0
    refine (back1_in 7 lp (w.heap.size + 3) w0'.heap.size a.e x.p.log.es.length a.ce (by omega) hmc.1 hmc.2 T K D J Jx hY W ((hW.cell (p := ⟨w.heap.size + 3, 0, none⟩) (by show w.heap.size + 3 < w0'.heap.size; have := H0.out.2.1; omega)).trans H0.out.2.2.2.2.2) (by have := H0.out.2.1; omega) ?_ h0).mono ?_
    · exact (HEV.out.below (hW.mono (by have := H0.out.2.1; omega))).more (by have := H0.out.2.1; omega)
    · rintro e1 w1 ⟨h1, h2⟩
      exact ⟨h1, h2⟩
  case assign =>
    intro lp pre z W K0 hI hK
    simp only [encB]
    have hone : (D z.1).oneCell' = true := by
      obtain ⟨en, _, _, _, _, A1, c1, hD, _, _⟩ := HDA.out z.1 z.2
      rw [hD]; rfl
    have hst := Im.stNew W 33 3 info_en3 #[.int .i64 0, .int .i64 0, .slice none 0 0] #[.int .i64 (T z.1), .int .i64 (K z.1), D z.1] rfl rfl (by generalize D z.1 = d at hone; simp [Value.oneCell'] at hone ⊢; exact hone)
    clear hone
    gi_wp2
    exact hK _ _ ((KeepsOthers.alloc _ _).from _) ((Below.refl _ W).alloc hI.size _) (hI.alloc hI.size _) ⟨W.heap.size, hI.size, heap_alloc_new _ _, _, rfl⟩
  case body =>
    rintro lp pre z a' W hlp hrec hI ⟨q, hq, hr, r, rfl⟩ hlen
    obtain ⟨en, h1, h2, h3, h4, A1, c1, hD, h5, h6⟩ := HDA.out z.1 z.2
    have hrow := HROW.out W hI
    have hlw : Below w.heap.size w W := H0.out.1.trans (hI.mono (by have := H0.out.2.1; omega))
    have HTO := hid (told_any en h1 h2 A1 c1 h6 W ((h5.below hlw).more hlw.size))
    rw [h3, h4, hD] at hr
    have hld := Im.ldRow info_en3 Tryz.underlying33 rfl hr rfl
    have HI := hid hI
    clear h1 h2 h3 h4 h5 h6 hD hr hlw hrow hI hlen
    gi_wp2_with (refine ⟨trivial, ?_⟩; gi_at_call 56; refine (CallsIn.inRound lp (callsIn_wide.2 HTO.out)).mono ?_; rintro e3 w3 ⟨m3, rfl, hb3⟩; obtain ⟨v3, hv3⟩ : ∃ v3, v3 = w3.alloc (.cells #[.slice m3.a0 m3.n0 m3.k0, .slice m3.a1 m3.n1 m3.k1, .slice m3.a2 m3.n2 m3.k2] 24) := ⟨_, rfl⟩; obtain ⟨_, q2, _, q4⟩ := box_new hv3; have HB3 := hid (hb3.trans (q2.mono hb3.size)); clear hv3 hb3 q2)
    exact ⟨keepsFrom_below HB3.out, HB3.out.mono HI.out.size, HI.out.trans (HB3.out.mono HI.out.size)⟩
  case done =>
    rintro D0 xs W hD rfl hI hK
    obtain ⟨r0, r1, r2⟩ := HROW.out W.drew hI.drew
    have hlw : Below w.heap.size w W := H0.out.1.trans (hI.mono (by have := H0.out.2.1; omega))
    have c3 : W.drew.cell? ⟨w.heap.size, 3, none⟩ = some (.int .i64 x.p.log.base) := cell_of_row _ w.heap.size 3 _ _ _ r0
    have hld := ld_conf r0
    have HSM := hid (same_any w.heap.size x.p.cf HC.out.2 (mOf x a) W.drew ((HC.out.1.below hlw).drew) hlw.size)
    have HS : Hid (∀ W', Below W.drew.heap.size W.drew W' → W'.heap[w.heap.size]? = some (.cells #[.int .i64 x.g, .int .i64 x.t, .int .i64 x.v, .int .i64 x.p.log.base, .int .i64 x.p.log.term, .slice a.e x.p.log.es.length a.ce, .slice a.o x.p.cf.old.length a.co, .slice a.n x.p.cf.new.length a.cn, .slice a.l x.p.cf.lrn.length a.cl, .slice a.s x.p.sn.length a.cs] 38 (0, 0)) ∧ Bx W' (w.heap.size + 1) 24 mNil ∧ W'.heap[w.heap.size + 2]? = some (.cells #[.int .i64 0] 3 (0, 0)) ∧ W'.heap[D0]? = some (.deferred (some []))) := hid (fun W' hb => by
      have hz := H0.out.2.1
      have hz2 := hI.size
      have hz3 : W.drew.heap.size = W.heap.size := rfl
      have hDl := (Array.getElem?_eq_some_iff.1 hK).1
      exact ⟨(hb.block _ (by omega)).trans r0, r1.below hb (by omega), (hb.block _ (by omega)).trans r2, (hb.block D0 (by omega)).trans hK⟩)
    have HI := hid (And.intro hlw (And.intro hD hI))
    clear hI hK r0 r1 r2 hlw
    go_wp2_with fail
    go_region_held3 (fun W' => W'.cell? ⟨w.heap.size, 3, none⟩ = some (.int .i64 x.p.log.base) ∧ (Im.ldX 24 (.pointer (some ⟨w.heap.size, 6, none⟩))).run Tryz.prog W' = .ok (.agg #[.slice ((mOf x a)).a0 ((mOf x a)).n0 ((mOf x a)).k0, .slice ((mOf x a)).a1 ((mOf x a)).n1 ((mOf x a)).k1, .slice ((mOf x a)).a2 ((mOf x a)).n2 ((mOf x a)).k2]) W')
      (first | exact ⟨c3, hld⟩ | exact ⟨HRA.out.1, HRA.out.2.1⟩ | exact HRB.out | exact HRC.out | fail)
      (first
        | (go_at_call 57; refine HSM.out.mono ?_; rintro e5 w5 ⟨m', rfl, ho5, hb5⟩; obtain ⟨p0, p1, p2, p3⟩ := HS.out w5 hb5; have hst := p1.st (m' := m'); have HRA := hid (And.intro (cell_of_row w5 w.heap.size 3 _ _ _ p0) (And.intro (ld_conf p0) (And.intro ho5 (And.intro hb5 p3)))); obtain ⟨s1, k2, f2, s2, s3, s4, s5⟩ := of_store m' (.int .i64 x.p.log.base) p0 p1 p2; have HRB := hid s1; have HRC := hid s2; have HRD := hid (And.intro s3 (And.intro s4 s5)); clear s1 s2 s3 s4 s5 p0 p1 p2 p3))
    obtain ⟨v6, hv6⟩ : ∃ v6, v6 = (w5.setRow (w.heap.size + 1) #[.slice m'.a0 m'.n0 m'.k0, .slice m'.a1 m'.n1 m'.k1, .slice m'.a2 m'.n2 m'.k2]).setCell ⟨w.heap.size + 1 + 1, 0, none⟩ (.int .i64 x.p.log.base) := ⟨_, rfl⟩
    have hx6 : Bx v6 (w.heap.size + 1) 24 m' := by rw [hv6]; exact HRD.out.1
    have hc6 : v6.cell? ⟨w.heap.size + 2, 0, none⟩ = some (.int .i64 x.p.log.base) := by rw [hv6]; exact HRD.out.2.1
    have ht6 : Turned (fun k => k = w.heap.size + 1 ∨ k = w.heap.size + 2) w5 v6 := by rw [hv6]; exact HRD.out.2.2
    have hz := H0.out.2.1
    have hD := HI.out.2.1
    have hDl : D0 < W.drew.heap.size := by
      have := (Array.getElem?_eq_some_iff.1 (HS.out W.drew (Below.refl _ _)).2.2.2).1
      exact this
    have hzz : W.drew.heap.size = W.heap.size := rfl
    have hzw := HI.out.2.2.size
    have hb5 := HRA.out.2.2.2.1
    have hz5 := hb5.size
    have hK6 : v6.heap[D0]? = some (.deferred (some [])) := (ht6.block D0 (by omega) (fun e => by omega)).trans HRA.out.2.2.2.2
    have ho6 : OwnC v6 W.drew.heap.size w5.heap.size x.p.cf m' := HRA.out.2.2.1.turned ht6 (fun k hk e => by omega)
    have hput := grownBy_putObj' v6 D0 (.deferred none)
    have ht7 : Turned (fun k => k = D0) v6 (v6.putObj D0 (.deferred none)) := Turned.ofGrown hput (fun k e => by cases e; rfl)
    have hx7 := hx6.turned ht7 (fun e => by omega)
    have hc7 : (v6.putObj D0 (.deferred none)).cell? ⟨w.heap.size + 2, 0, none⟩ = some (.int .i64 x.p.log.base) := (ht7.cell (p := ⟨w.heap.size + 2, 0, none⟩) (World.block_lt_of_cell? _ _ hc6) (fun e => by have e' : w.heap.size + 2 = D0 := e; omega)).trans hc6
    have ho7 := ho6.turned ht7 (fun k hk e => by omega)
    have hl7 : Below w.heap.size w (v6.putObj D0 (.deferred none)) := by
      have h5 : Below w.heap.size w w5 := (Below.drew HI.out.1).trans (hb5.mono (by omega))
      have h6 := h5.trans (ht6.below (by have := h5.size; omega) (fun k hk => by omega))
      exact h6.trans (ht7.below h6.size (fun k hk => by omega))
    have hs7 := ht7.size
    have hs6 := ht6.size
    rw [← hv6]
    clear hv6
    go_wp2
    refine ⟨by simp, .inl ⟨_, _, rfl, run_takeDeferred hK6, ?_⟩⟩
    refine ⟨.tuple #[.agg #[.slice m'.a0 m'.n0 m'.k0, .slice m'.a1 m'.n1 m'.k1, .slice m'.a2 m'.n2 m'.k2], .int .i64 x.p.log.base], ?_, m', rfl, ho7.wide (by omega) (by omega), hl7⟩
    exact res_of _ _ (w.heap.size + 1) (w.heap.size + 2) m' x.p.log.base rfl rfl hx7 hc7
  case stop =>
    rintro D0 c0 pre W _ _ h _
    exact h.elim
end Go.Proofs.YtfkjahpcpmcefaaGreat.Co
namespace Go.Proofs.YtfkjahpcpmcefaaGreat
open Go
set_option maxRecDepth 100000
structure Rc (δ : Type) where
  ops : Array Oper
  nt : Nat
  step : Nat → Option Nat
  val : δ → Nat → Value
  inv : δ → Nat → World → Prop
structure Jc {δ : Type} (C : Rc δ) (a0 : Act) (X : δ) (p : Nat) (listed : Array Bool) (a : Act) (w : World) : Prop where
  size : a.tmps.size = C.nt
  defers : a.defers = a0.defers
  keep : ∀ s : Nat, (∀ (j : Nat) (o : Oper), C.ops[j]? = some o → o.dst ≠ some s) → a.eval (.tmp s) = a0.eval (.tmp s)
  lsize : listed.size = C.ops.size
  clos : ∀ (j : Nat) (o : Oper), C.ops[j]? = some o → listed.getD j false = true → ∀ e ∈ o.after, Region.binds .any e = true → listed.getD e.on false = true
  slots : ∀ (j : Nat) (o : Oper) (d : Nat), C.ops[j]? = some o → o.dst = some d → listed.getD j false = true → a.eval (.tmp d) = C.val X j
  call : ∀ j, j < C.ops.size → ∀ k, C.step j = some k → (listed.getD j false = true ↔ k < p)
  inv : C.inv X p w
structure Rc.Ok {δ : Type} (C : Rc δ) : Prop where
  nt : ∀ (j : Nat) (o : Oper) (d : Nat), C.ops[j]? = some o → o.dst = some d → d < C.nt
  once : ∀ (i j : Nat) (o o' : Oper) (d : Nat), C.ops[i]? = some o → C.ops[j]? = some o' → o.dst = some d → o'.dst = some d → i = j
  uniq : ∀ i j k, i < C.ops.size → j < C.ops.size → C.step i = some k → C.step j = some k → i = j
theorem evput_ne (a : Act) {d : Option Tmp} {t : Nat} (v : Value) (h : d ≠ some t) : (a.put d v).eval (.tmp t) = a.eval (.tmp t) := by
  rcases d with _ | d
  · rfl
  · have : d ≠ t := fun e => h (by rw [e])
    simp [Act.put, Act.eval, Array.getElem?_setIfInBounds_ne this]
theorem evput_self (a : Act) {d : Nat} (v : Value) (h : d < a.tmps.size) : (a.put (some d) v).eval (.tmp d) = v := by
  simp [Act.put, Act.eval, h]
theorem listed_set (l : Array Bool) (j m : Nat) (hj : j < l.size) : (l.setIfInBounds j true).getD m false = if m = j then true else l.getD m false := by
  rw [Array.getD_eq_getD_getElem?, Array.getD_eq_getD_getElem?]
  by_cases e : m = j
  · subst e
    rw [if_pos rfl, Array.getElem?_setIfInBounds_self_of_lt hj]; rfl
  · rw [if_neg e, Array.getElem?_setIfInBounds_ne (by omega)]
theorem listed_no {l : Array Bool} {j : Nat} (h : l.getD j true = false) : l.getD j false = false := by
  rw [Array.getD_eq_getD_getElem?] at h ⊢
  rcases hl : l[j]? with _ | b
  · rfl
  · rw [hl] at h; exact h
section
variable {δ : Type} {C : Rc δ} {a0 a : Act} {X X' : δ} {p p' : Nat} {listed : Array Bool} {w w' : World}
theorem Jc.put (hC : C.Ok) (h : Jc C a0 X p listed a w) (j : Nat) (o : Oper) (hj : C.ops[j]? = some o) (ha : ∀ e ∈ o.after, Region.binds .any e = true → listed.getD e.on false = true) (v : Value) (hinv : C.inv X' p' w')
    (hk : ∀ (m : Nat), m < C.ops.size → listed.getD m false = true → C.val X' m = C.val X m) (hu : listed.getD j true = false) (hv : ∀ d, o.dst = some d → v = C.val X' j)
    (hc : ∀ m, m < C.ops.size → ∀ k, C.step m = some k → ((if m = j then true else listed.getD m false) = true ↔ k < p')) :
    Jc C a0 X' p' (listed.setIfInBounds j true) (a.put o.dst v) w' := by
  have hjs : j < C.ops.size := (Array.getElem?_eq_some_iff.1 hj).1
  have hjl : j < listed.size := by rw [h.lsize]; exact hjs
  refine ⟨?_, ?_, fun s hs => ?_, by simp [h.lsize], fun m om hm hl e he hb => ?_, fun m om d hm hd hl => ?_, fun m hm k hmk => ?_, hinv⟩
  · rcases hd : o.dst with _ | d
    · exact h.size
    · simp [Act.put, h.size]
  · rcases hd : o.dst with _ | d
    · exact h.defers
    · exact h.defers
  · rw [evput_ne a v (hs j o hj)]; exact h.keep s hs
  · rw [listed_set _ _ _ hjl] at hl ⊢
    by_cases e1 : e.on = j
    · rw [if_pos e1]
    · rw [if_neg e1]
      by_cases e2 : m = j
      · subst e2
        rw [hj] at hm
        obtain rfl := Option.some.inj hm
        exact ha e he hb
      · rw [if_neg e2] at hl
        exact h.clos m om hm hl e he hb
  · rw [listed_set _ _ _ hjl] at hl
    by_cases e2 : m = j
    · subst e2
      rw [hj] at hm
      obtain rfl := Option.some.inj hm
      rw [hd, evput_self a v (by rw [h.size]; exact hC.nt m o d hj hd)]
      exact hv d hd
    · rw [if_neg e2] at hl
      rw [evput_ne a v (fun e => e2 (hC.once m j om o d hm hj hd e)), hk m (Array.getElem?_eq_some_iff.1 hm).1 hl]
      exact h.slots m om d hm hd hl
  · rw [listed_set _ _ _ hjl]; exact hc m hm k hmk
theorem Jc.next (h : Jc C a0 X p listed a w) {j k : Nat} (hj : j < C.ops.size) (hk : C.step j = some k) (hu : listed.getD j true = false) (hb : k = 0 ∨ ∃ i, i < C.ops.size ∧ C.step i = some (k - 1) ∧ listed.getD i false = true) : k = p := by
  have h1 : p ≤ k := by
    rcases Nat.lt_or_ge k p with h' | h'
    · have := (h.call j hj k hk).2 h'
      rw [listed_no hu] at this; cases this
    · exact h'
  rcases hb with h0 | ⟨i, hi, hik, hil⟩
  · omega
  · have := (h.call i hi _ hik).1 hil
    omega
theorem Jc.ahead (h : Jc C a0 X p listed a w) {j m k : Nat} {om : Oper} (hm : C.ops[m]? = some om) (hk : C.step m = some k) (hu : listed.getD j true = false) (hw : ∃ e ∈ om.after, Region.binds .any e = true ∧ e.on = j) : p ≤ k := by
  rcases Nat.lt_or_ge k p with h' | h'
  · have hl := (h.call m (Array.getElem?_eq_some_iff.1 hm).1 k hk).2 h'
    obtain ⟨e, he, hb, rfl⟩ := hw
    have := h.clos m om hm hl e he hb
    rw [listed_no hu] at this; cases this
  · exact h'
end
theorem Jc.kept {δ : Type} {C : Rc δ} {a0 a : Act} {X : δ} {p : Nat} {listed : Array Bool} {w : World} (h : Jc C a0 X p listed a w) (s : Nat) (hb : (C.ops.all fun o => decide (o.dst ≠ some s)) = true) : a.eval (.tmp s) = a0.eval (.tmp s) :=
  h.keep s (fun j o hj => by
    have := (Array.all_eq_true_iff_forall_mem.1 hb) o (Array.mem_of_getElem? hj)
    simpa using this)
theorem run_pick {P : Program} {ρ : Operand → Value} {c x y : Operand} {ty : TypeId} {w : World} {b : Bool} {v : Value} (hc : ρ c = .bool b) (h : (if b = true then ρ x else ρ y) = v) : (execOp ρ (sop (.pick c x y) ty)).run P w = .ok (.value v) w := by subst h; simp [execOp, sop, hc, asBool]
theorem run_bin {P : Program} {ρ : Operand → Value} {op : BinOp} {t u : TypeId} {x y : Operand} {ty : TypeId} {w : World} {v1 v2 v : Value} (h1 : ρ x = v1) (h2 : ρ y = v2) (h : (do eqGuard op t x y v1 v2; binOp op t v1 v2 : Sem Value).run P w = .ok v w) : (execOp ρ (sop (.binOp op t x y u) ty)).run P w = .ok (.value v) w := by
  subst h1
  subst h2
  unfold execOp sop
  simp only [Sem.run_bind, Sem.run_pure] at h ⊢
  rw [h]
  rfl
theorem run_fad {P : Program} {ρ : Operand → Value} {t : TypeId} {x : Operand} {f : Nat} {ty : TypeId} {v0 v : Value} {w : World} (h0 : ρ x = v0) (h : (Instr.fieldAt t v0 f).run P w = .ok v w) : (execOp ρ (sop (.fieldAddr t x f) ty)).run P w = .ok (.value v) w := by subst h0; simp [execOp, sop, h]
theorem run_store {P : Program} {ρ : Operand → Value} {t : TypeId} {x y : Operand} {ty : TypeId} {v0 v : Value} {w w' : World} (h0 : ρ x = v0) (h1 : ρ y = v) (h : (Instr.storeAt t v0 v).run P w = .ok () w') : (execOp ρ (sop (.store t x y) ty)).run P w = .ok .skip w' := by subst h0; subst h1; simp [execOp, sop, h]
theorem run_call1 {P : Program} {a : Act} {f : FuncId} {x : Operand} {ty t : TypeId} {v : Value} {w : World} (h : a.eval x = v) (hcf : (callFunc f #[v]).run P w = .ok (.enter f #[v]) w) : (execOp a.eval (sop (.call { callee := .value (.func f), args := #[x], argTypes := #[t] }) ty)).run P w = .ok (.enter f #[v]) w := by
  generalize hρ : a.eval = ρ at h ⊢
  have hf : ρ (.func f) = .func (.func f) #[] #[] := by rw [← hρ]; rfl
  clear hρ
  unfold execOp sop
  simp [resolve, invoke, h, hf, Deferred.ofValue, hcf]
section
variable {δ : Type} {P : Program} {C : Rc δ} {a0 a : Act} {X : δ} {p : Nat} {listed : Array Bool} {w : World} {Q : Exit → Act → World → Prop}
theorem wanted_of {ops : Array Oper} {a : Act} {o og : Oper} {g d : Nat} {b c : Bool} (hg : o.guard = some (g, b)) (ho : ops[g]? = some og) (hd : og.dst = some d) (hlt : d < a.tmps.size) (h : a.eval (.tmp d) = .bool c) : Region.wanted o (yielded ops a.tmps) = (c == b) := by
  have h2 : a.tmps[d]? = some (.bool c) := by
    have h3 : a.tmps.getD d undef = .bool c := h
    rw [Array.getD_eq_getD_getElem?, Array.getElem?_eq_getElem hlt] at h3
    rw [Array.getElem?_eq_getElem hlt]
    exact congrArg some h3
  unfold Region.wanted
  rw [hg]
  simp only [yielded, ho, Option.bind_some, hd, h2]
  cases b <;> cases c <;> rfl
theorem goes_wpOpG {P : Program} {ops : Array Oper} {Q : Exit → Act → World → Prop} {K : Act → World → Prop} {a : Act} {w : World} {i : Nat} {o : Oper} {R : Value → World → Prop} (hi : ops[i]? = some o) (hw : Region.wanted o (yielded ops a.tmps) = true) (h : Goes P a w o.op o.type R)
    (hk : ∀ v w', R v w' → K (a.put o.dst v) w') : wpOp P ops Q i K a w := by
  unfold Go.wpOp
  simp only [hi]
  rw [if_pos hw]
  left
  unfold Oper.wp
  rw [exec_sop]
  rcases h with ⟨v, w', hr, hR⟩ | ⟨f, args, hr, hC⟩
  · rw [hr, Oper.upon_value]
    exact hk v w' hR
  · rw [hr, Oper.upon_enter]
    refine hC.mono ?_
    rintro e w' ⟨v, rfl, hR⟩
    exact hk v w' hR
def acyc (ops : Array Oper) : Bool := (List.range ops.size).all fun i => match ops[i]? with
  | some o => o.after.all fun e => !Region.binds .any e || decide (e.on < i)
  | none => true
theorem acyc_spec {ops : Array Oper} (h : acyc ops = true) (i : Nat) (o : Oper) (hi : ops[i]? = some o) (e : _) (he : e ∈ o.after) (hb : Region.binds .any e = true) : e.on < i := by
  have hlt : i < ops.size := (Array.getElem?_eq_some_iff.1 hi).1
  have := List.all_eq_true.1 h i (List.mem_range.2 hlt)
  rw [hi] at this
  have h2 := (Array.all_eq_true_iff_forall_mem.1 this) e he
  rw [hb] at h2
  simpa using h2
end
end Go.Proofs.YtfkjahpcpmcefaaGreat
namespace Go.Proofs.YtfkjahpcpmcefaaGreat
open Go Go.RowKit
set_option maxRecDepth 100000
set_option linter.unusedVariables false
structure Gp where
  p : World → Value → Prop
  mono : ∀ w w' v, p w v → Below w.heap.size w w' → p w' v
def Gp.any : Gp := ⟨fun _ _ => True, fun _ _ _ _ _ => trivial⟩
def Gp.is (v0 : Value) : Gp := ⟨fun _ v => v = v0, fun _ _ _ h _ => h⟩
def Gp.row (lo : Nat) (n : Nat) (cs : Array Value) (t : TypeId) : Gp := ⟨fun w v => ∃ b, lo ≤ b ∧ v = .slice (some ⟨b, 0, none⟩) n n ∧ w.heap[b]? = some (.cells cs t (0, 0)), fun w w' v ⟨b, h0, h1, h2⟩ hb => ⟨b, h0, h1, (hb.block b (Array.getElem?_eq_some_iff.1 h2).1).trans h2⟩⟩
def Gp.box (lo : Nat) (cs : Array Value) (t : TypeId) : Gp := ⟨fun w v => ∃ b, lo ≤ b ∧ v = .pointer (some ⟨b, 0, none⟩) ∧ w.heap[b]? = some (.cells cs t (0, 0)), fun w w' v ⟨b, h0, h1, h2⟩ hb => ⟨b, h0, h1, (hb.block b (Array.getElem?_eq_some_iff.1 h2).1).trans h2⟩⟩
def dstsN (ops : Array Oper) (n : Nat) : List Nat := (ops.toList.take n).filterMap (·.dst)
def putAll (u : Nat → Value) (ds : List Nat) (a : Act) : Act := ds.foldl (fun a d => a.put (some d) (u d)) a
theorem putAll_size (u : Nat → Value) : ∀ (ds : List Nat) (a : Act), (putAll u ds a).tmps.size = a.tmps.size := by
  intro ds
  induction ds with
  | nil => intro a; rfl
  | cons d ds ih => intro a; show (putAll u ds (a.put (some d) (u d))).tmps.size = _; rw [ih]; simp [Act.put]
theorem putAll_defers (u : Nat → Value) : ∀ (ds : List Nat) (a : Act), (putAll u ds a).defers = a.defers := by
  intro ds
  induction ds with
  | nil => intro a; rfl
  | cons d ds ih => intro a; show (putAll u ds (a.put (some d) (u d))).defers = _; rw [ih]; rfl
theorem putAll_get (u : Nat → Value) : ∀ (ds : List Nat) (a : Act) (i : Nat), i < a.tmps.size → (putAll u ds a).tmps[i]? = if i ∈ ds then some (u i) else a.tmps[i]? := by
  intro ds
  induction ds with
  | nil => intro a i _; simp [putAll]
  | cons d ds ih =>
    intro a i hi
    show (putAll u ds (a.put (some d) (u d))).tmps[i]? = _
    rw [ih _ _ (by simp [Act.put]; exact hi)]
    by_cases h : i ∈ ds
    · rw [if_pos h, if_pos (List.mem_cons_of_mem _ h)]
    · rw [if_neg h]
      by_cases e : i = d
      · subst e
        rw [if_pos List.mem_cons_self]
        simp [Act.put, hi]
      · rw [if_neg (by simp [e, h])]
        simp [Act.put, Array.getElem?_setIfInBounds_ne (Ne.symm e)]
theorem act_putAll {a a0 : Act} {ds : List Nat} (hsz : a.tmps.size = a0.tmps.size) (hdf : a.defers = a0.defers) (hk : ∀ s, s ∉ ds → a.eval (.tmp s) = a0.eval (.tmp s)) : a = putAll (fun d => a.eval (.tmp d)) ds a0 := by
  obtain ⟨t, df⟩ := a
  obtain ⟨t0, df0⟩ := a0
  have h1 : t = (putAll (fun d => (⟨t, df⟩ : Act).eval (.tmp d)) ds ⟨t0, df0⟩).tmps := by
    apply Array.ext_getElem?
    intro i
    by_cases hi : i < t0.size
    · rw [putAll_get _ _ _ _ hi]
      have hi' : i < t.size := by have : t.size = t0.size := hsz; omega
      by_cases h : i ∈ ds
      · rw [if_pos h]
        simp [Act.eval, hi']
      · rw [if_neg h]
        have := hk i h
        simp only [Act.eval, Array.getD_eq_getD_getElem?] at this
        rw [Array.getElem?_eq_getElem hi', Array.getElem?_eq_getElem hi] at this ⊢
        exact congrArg some this
    · rw [Array.getElem?_eq_none (by have : t.size = t0.size := hsz; omega), Array.getElem?_eq_none (by rw [putAll_size]; show t0.size ≤ i; omega)]
  have h2 : df = (putAll (fun d => (⟨t, df⟩ : Act).eval (.tmp d)) ds ⟨t0, df0⟩).defers := by rw [putAll_defers]; exact hdf
  rcases hp : putAll (fun d => (⟨t, df⟩ : Act).eval (.tmp d)) ds ⟨t0, df0⟩ with ⟨t1, d1⟩
  rw [hp] at h1 h2
  rw [h1, h2]
def listedN (n m : Nat) : Array Bool := (List.replicate n true ++ List.replicate m false).toArray
def reachB (ops : Array Oper) : Nat → Nat → Nat → Bool
  | 0, _, _ => false
  | f + 1, i, j => match ops[i]? with
    | some o => o.after.any fun e => Region.binds .any e && (decide (e.on = j) || reachB ops f e.on j)
    | none => false
def sinkG (ops : Array Oper) (n : Nat) : Bool := (List.range ops.size).all fun i => decide (i < n) || (List.range n).all fun j => reachB ops ops.size i j
def onceG (ops : Array Oper) (n nt : Nat) : Bool := (dstsN ops n).all (fun d => decide (d < nt)) && decide (dstsN ops n).Nodup && (List.range n).all fun j => match ops[j]? with
  | some o => o.dst.isSome
  | none => true
def edgeB (ops : Array Oper) (o : Oper) (i d : Nat) : Bool := (o.after.any fun e => Region.binds .any e && decide (e.on = i)) && decide (ops[i]?.bind (·.dst) = some d)
structure Jg (H : Nat → Gp) (ops : Array Oper) (n : Nat) (a0 : Act) (w0 : World) (listed : Array Bool) (a : Act) (w : World) : Prop where
  size : a.tmps.size = a0.tmps.size
  defers : a.defers = a0.defers
  keep : ∀ s, s ∉ dstsN ops n → a.eval (.tmp s) = a0.eval (.tmp s)
  lsize : listed.size = ops.size
  slots : ∀ j o d, ops[j]? = some o → o.dst = some d → listed.getD j false = true → (H j).p w (a.eval (.tmp d))
  clos : ∀ j o, ops[j]? = some o → listed.getD j false = true → ∀ e ∈ o.after, Region.binds .any e = true → listed.getD e.on false = true
  bel : Below w0.heap.size w0 w
  tail : ∀ j, n ≤ j → listed.getD j false = false
theorem mem_dsts {ops : Array Oper} {n j d : Nat} {o : Oper} (hj : ops[j]? = some o) (hd : o.dst = some d) (hn : j < n) : d ∈ dstsN ops n := by
  refine List.mem_filterMap.2 ⟨o, ?_, hd⟩
  have : (ops.toList.take n)[j]? = some o := by rw [List.getElem?_take, if_pos hn, Array.getElem?_toList]; exact hj
  exact List.mem_of_getElem? this
theorem dst_once {l : List Oper} (h : (l.filterMap (·.dst)).Nodup) : ∀ {i j : Nat} {o o' : Oper} {d : Nat}, l[i]? = some o → l[j]? = some o' → o.dst = some d → o'.dst = some d → i = j := by
  induction l with
  | nil => intro i j o o' d h1; simp at h1
  | cons x l ih =>
    intro i j o o' d h1 h2 h3 h4
    have hm : ∀ {k : Nat} {y : Oper}, l[k]? = some y → y.dst = some d → d ∈ l.filterMap (·.dst) := fun hk hy => List.mem_filterMap.2 ⟨_, List.mem_of_getElem? hk, hy⟩
    have hl : (l.filterMap (·.dst)).Nodup := by
      rcases hx : x.dst with _ | dx
      · rw [List.filterMap_cons_none hx] at h; exact h
      · rw [List.filterMap_cons_some hx] at h; exact (List.nodup_cons.1 h).2
    rcases i with _ | i
    · rcases j with _ | j
      · rfl
      · simp at h1 h2
        subst h1
        rw [List.filterMap_cons_some h3] at h
        exact absurd (hm h2 h4) (List.nodup_cons.1 h).1
    · rcases j with _ | j
      · simp at h1 h2
        subst h2
        rw [List.filterMap_cons_some h4] at h
        exact absurd (hm h1 h3) (List.nodup_cons.1 h).1
      · simp at h1 h2
        rw [ih hl h1 h2 h3 h4]
theorem once_of {ops : Array Oper} {n i j d : Nat} {o o' : Oper} (h : (dstsN ops n).Nodup) (hi : ops[i]? = some o) (hj : ops[j]? = some o') (hin : i < n) (hjn : j < n) (h1 : o.dst = some d) (h2 : o'.dst = some d) : i = j := by
  have t : ∀ {k : Nat} {y : Oper}, ops[k]? = some y → k < n → (ops.toList.take n)[k]? = some y := fun hk hn => by rw [List.getElem?_take, if_pos hn, Array.getElem?_toList]; exact hk
  exact dst_once h (t hi hin) (t hj hjn) h1 h2
section
variable {P : Program} {H : Nat → Gp} {ops : Array Oper} {n : Nat} {a0 : Act} {w0 : World} {Q : Exit → Act → World → Prop}
theorem Jg.step (hn : (dstsN ops n).Nodup) (hb : ∀ d ∈ dstsN ops n, d < a0.tmps.size) {listed : Array Bool} {a : Act} {w w' : World} {v : Value} (h : Jg H ops n a0 w0 listed a w) {i : Nat} {o : Oper} (hi : ops[i]? = some o) (hin : i < n) {d : Nat} (hd : o.dst = some d) (ha : ∀ e ∈ o.after, Region.binds .any e = true → listed.getD e.on false = true)
    (hv : (H i).p w' v) (hw : Below w.heap.size w w') : Jg H ops n a0 w0 (listed.setIfInBounds i true) (a.put o.dst v) w' := by
  have his : i < listed.size := by rw [h.lsize]; exact (Array.getElem?_eq_some_iff.1 hi).1
  have hdm := mem_dsts hi hd hin
  refine ⟨by rw [hd]; simp [Act.put, h.size], by rw [hd]; exact h.defers, fun s hs => ?_, by simp [h.lsize], fun m om dm hm hdm' hl => ?_, fun m om hm hl e he hb => ?_, h.bel.trans (hw.mono h.bel.size), fun m hm => ?_⟩
  · rw [evput_ne a v (by rw [hd]; intro e; injection e with e; subst e; exact hs hdm)]
    exact h.keep s hs
  · rw [listed_set _ _ _ his] at hl
    by_cases e : m = i
    · subst e
      rw [hi] at hm
      obtain rfl := Option.some.inj hm
      rw [hd] at hdm'
      obtain rfl := Option.some.inj hdm'
      rw [hd, evput_self a v (by rw [h.size]; exact hb _ hdm)]
      exact hv
    · rw [if_neg e] at hl
      have hmn : m < n := by
        rcases Nat.lt_or_ge m n with h' | h'
        · exact h'
        · rw [h.tail m h'] at hl; cases hl
      rw [evput_ne a v (fun e' => e (once_of hn hm hi hmn hin hdm' (by rw [e'])))]
      exact (H m).mono _ _ _ (h.slots m om dm hm hdm' hl) hw
  · rw [listed_set _ _ _ his] at hl ⊢
    by_cases e1 : e.on = i
    · rw [if_pos e1]
    · rw [if_neg e1]
      by_cases e2 : m = i
      · subst e2
        rw [hi] at hm
        obtain rfl := Option.some.inj hm
        exact ha e he hb
      · rw [if_neg e2] at hl
        exact h.clos m om hm hl e he hb
  · rw [listed_set _ _ _ his, if_neg (by omega)]; exact h.tail m hm
theorem reach_listed {listed : Array Bool} (hc : ∀ j o, ops[j]? = some o → listed.getD j false = true → ∀ e ∈ o.after, Region.binds .any e = true → listed.getD e.on false = true) {j : Nat} : ∀ (f i : Nat) (o : Oper), ops[i]? = some o → (∀ e ∈ o.after, Region.binds .any e = true → listed.getD e.on false = true) → reachB ops f i j = true → listed.getD j false = true := by
  intro f
  induction f with
  | zero => intro i o _ _ h; cases h
  | succ f ih =>
    intro i o hi ha h
    unfold reachB at h
    rw [hi] at h
    obtain ⟨k, hk, h3⟩ := Array.any_eq_true.1 h
    rw [Bool.and_eq_true, Bool.or_eq_true, decide_eq_true_eq] at h3
    have hl := ha _ (Array.getElem_mem hk) h3.1
    rcases h3.2 with h4 | h4
    · rw [← h4]; exact hl
    · rcases ho : ops[(o.after[k]).on]? with _ | o2
      · cases f with
        | zero => cases h4
        | succ f => unfold reachB at h4; rw [ho] at h4; cases h4
      · exact ih _ o2 ho (fun e he hb => hc _ o2 ho hl e he hb) h4
theorem sinkG_spec (h : sinkG ops n = true) {i : Nat} {o : Oper} (hi : ops[i]? = some o) (hn : n ≤ i) {j : Nat} (hj : j < n) : reachB ops ops.size i j = true := by
  have h1 := List.all_eq_true.1 h i (List.mem_range.2 (Array.getElem?_eq_some_iff.1 hi).1)
  simp only [Bool.or_eq_true, decide_eq_true_eq] at h1
  rcases h1 with h1 | h1
  · omega
  · exact List.all_eq_true.1 h1 j (List.mem_range.2 hj)
theorem listed_is {listed : Array Bool} (hsz : listed.size = ops.size) (hn : n ≤ ops.size) (h1 : ∀ j, j < n → listed.getD j false = true) (h2 : ∀ j, n ≤ j → listed.getD j false = false) : listed = listedN n (ops.size - n) := by
  apply Array.ext_getElem?
  intro i
  rw [show (listedN n (ops.size - n))[i]? = (List.replicate n true ++ List.replicate (ops.size - n) false)[i]? from List.getElem?_toArray]
  by_cases hi : i < n
  · rw [List.getElem?_append_left (by simpa using hi), List.getElem?_replicate, if_pos hi]
    have := h1 i hi
    have hl : i < listed.size := by omega
    rw [Array.getD_eq_getD_getElem?, Array.getElem?_eq_getElem hl] at this
    rw [Array.getElem?_eq_getElem hl]
    exact congrArg some this
  · rw [List.getElem?_append_right (by simp; omega), List.length_replicate, List.getElem?_replicate]
    have := h2 i (by omega)
    by_cases hl : i < listed.size
    · rw [Array.getD_eq_getD_getElem?, Array.getElem?_eq_getElem hl] at this
      rw [Array.getElem?_eq_getElem hl, if_pos (by omega)]
      exact congrArg some this
    · rw [Array.getElem?_eq_none (by omega), if_neg (by omega)]
theorem unl_N (n m : Nat) : unl (listedN n m) = m := by
  unfold unl listedN
  rw [List.count_append, List.count_replicate, List.count_replicate]
  simp
end
end Go.Proofs.YtfkjahpcpmcefaaGreat
namespace Go.Proofs.YtfkjahpcpmcefaaGreat
open Go Go.RowKit
set_option maxRecDepth 100000
set_option linter.unusedVariables false
theorem ev_const0 (a : Act) (v : Value) : a.eval (.const v) = v := rfl
section
variable {P : Program} {a : Act} {w w' : World} {ty : TypeId} {R : Value → World → Prop} {op : Op} {v : Value}
theorem goes_val (h : (execOp a.eval (sop op ty)).run P w = .ok (.value v) w) (hR : R v w) : Goes P a w op ty (fun v w' => R v w' ∧ Below w.heap.size w w') := .inl ⟨v, w, h, hR, Below.refl _ _⟩
theorem goes_new {o : Obj} (h : (execOp a.eval (sop op ty)).run P w = .ok (.value v) (w.alloc o)) (hR : R v (w.alloc o)) : Goes P a w op ty (fun v w' => R v w' ∧ Below w.heap.size w w') := .inl ⟨v, _, h, hR, (Below.refl _ w).alloc (Nat.le_refl _) _⟩
theorem goes_move {x : Operand} (h : a.eval x = v) (hR : R v w) : Goes P a w (.move x) ty (fun v w' => R v w' ∧ Below w.heap.size w w') := by
  subst h; exact goes_val (x_move _ _ _ _) hR
theorem goes_index {t : TypeId} {x y : Operand} {v1 v2 : Value} (h1 : a.eval x = v1) (h2 : a.eval y = v2) (h : (Instr.indexAt t v1 v2).run P w = .ok v w) (hR : R v w) : Goes P a w (.indexAddr t x y) ty (fun v w' => R v w' ∧ Below w.heap.size w w') := by
  subst h1 h2; exact goes_val (x_index _ _ _ _ _ _ _ h) hR
theorem goes_load {t : TypeId} {x : Operand} {v1 : Value} (h1 : a.eval x = v1) (h : (Instr.loadAt t v1).run P w = .ok v w) (hR : R v w) : Goes P a w (.load t x) ty (fun v w' => R v w' ∧ Below w.heap.size w w') := by
  subst h1; exact goes_val (x_load _ _ _ _ _ _ h) hR
theorem goes_fad {t : TypeId} {x : Operand} {f : Nat} {v1 : Value} (h1 : a.eval x = v1) (h : (Instr.fieldAt t v1 f).run P w = .ok v w) (hR : R v w) : Goes P a w (.fieldAddr t x f) ty (fun v w' => R v w' ∧ Below w.heap.size w w') :=
  goes_val (run_fad h1 h) hR
theorem goes_slice {t e : TypeId} {n : Nat} {parts : Array (Nat × Operand)} (cs : Array Value) {i0 : TypeInfo} {z : Value} (sz : Nat) (hs : i0.size = sz) (hu : P.underlying t = some (.slice e)) (hi : P.info? e = some i0) (hz : i0.zero = some z) (hn : ¬ n * sz > 2 ^ 24) (hp : n * sz ≠ 0)
    (pv : List (Nat × Value)) (hpv : (parts.map fun (i, x) => (i, a.eval x)).toList = pv) (hf : Instr.fill (fun i => some (i * sz, sz)) ((Array.range (n * sz)).map (z.cells[· % z.cells.size]!)) pv = some cs) (hR : R (.slice (some ⟨w.heap.size, 0, none⟩) n n) (w.alloc (.cells cs e))) :
    Goes P a w (.buildSlice t n parts) ty (fun v w' => R v w' ∧ Below w.heap.size w w') := by
  subst hs hpv
  exact goes_new (x_slice _ _ _ _ _ _ _ _ (run_buildSlice w t e n _ cs i0 z hu hi hz hn hp hf)) hR
theorem run_ext {ρ : Operand → Value} {x : Operand} {i : Nat} {ty : TypeId} {w : World} {cs : Array Value} {v : Value} (h : ρ x = .tuple cs) (hv : cs[i]? = some v) : (execOp ρ (sop (.extract x i) ty)).run P w = .ok (.value v) w := by
  unfold execOp sop; simp only [h]; go_simp
theorem goes_ext {x : Operand} {i : Nat} {cs : Array Value} (h : a.eval x = .tuple cs) (hv : cs[i]? = some v) (hR : R v w) : Goes P a w (.extract x i) ty (fun v w' => R v w' ∧ Below w.heap.size w w') := goes_val (run_ext h hv) hR
theorem run_call0 {f : FuncId} (hcf : (callFunc f #[]).run P w = .ok (.enter f #[]) w) : (execOp a.eval (sop (.call { callee := .value (.func f), args := #[], argTypes := #[] }) ty)).run P w = .ok (.enter f #[]) w := by
  generalize hρ : a.eval = ρ
  have hf : ρ (.func f) = .func (.func f) #[] #[] := by rw [← hρ]; rfl
  clear hρ
  unfold execOp sop
  simp [resolve, invoke, hf, Deferred.ofValue, hcf]
theorem run_call2 {f : FuncId} {x y : Operand} {t u : TypeId} {v v2 : Value} (h : a.eval x = v) (h2 : a.eval y = v2) (hcf : (callFunc f #[v, v2]).run P w = .ok (.enter f #[v, v2]) w) : (execOp a.eval (sop (.call { callee := .value (.func f), args := #[x, y], argTypes := #[t, u] }) ty)).run P w = .ok (.enter f #[v, v2]) w := by
  generalize hρ : a.eval = ρ at h h2 ⊢
  have hf : ρ (.func f) = .func (.func f) #[] #[] := by rw [← hρ]; rfl
  clear hρ
  unfold execOp sop
  simp [resolve, invoke, h, h2, hf, Deferred.ofValue, hcf]
theorem goes_call0 {f : FuncId} (hcf : (callFunc f #[]).run P w = .ok (.enter f #[]) w) (h : Calls P f #[] w fun e w' => ∃ v, e = .returned v ∧ R v w' ∧ Below w.heap.size w w') : Goes P a w (.call { callee := .value (.func f), args := #[], argTypes := #[] }) ty (fun v w' => R v w' ∧ Below w.heap.size w w') := .inr ⟨f, #[], run_call0 hcf, h⟩
theorem goes_call1 {f : FuncId} {x : Operand} {t : TypeId} {v1 : Value} (h1 : a.eval x = v1) (hcf : (callFunc f #[v1]).run P w = .ok (.enter f #[v1]) w) (h : Calls P f #[v1] w fun e w' => ∃ v, e = .returned v ∧ R v w' ∧ Below w.heap.size w w') : Goes P a w (.call { callee := .value (.func f), args := #[x], argTypes := #[t] }) ty (fun v w' => R v w' ∧ Below w.heap.size w w') := .inr ⟨f, #[v1], run_call1 h1 hcf, h⟩
theorem goes_call2 {f : FuncId} {x y : Operand} {t u : TypeId} {v1 v2 : Value} (h1 : a.eval x = v1) (h2 : a.eval y = v2) (hcf : (callFunc f #[v1, v2]).run P w = .ok (.enter f #[v1, v2]) w) (h : Calls P f #[v1, v2] w fun e w' => ∃ v, e = .returned v ∧ R v w' ∧ Below w.heap.size w w') : Goes P a w (.call { callee := .value (.func f), args := #[x, y], argTypes := #[t, u] }) ty (fun v w' => R v w' ∧ Below w.heap.size w w') := .inr ⟨f, #[v1, v2], run_call2 h1 h2 hcf, h⟩
end
def Gp.rowIn (lo : Nat) (g : Nat → Value) (cs : Array Value) (t : TypeId) : Gp := ⟨fun w v => ∃ b, lo ≤ b ∧ v = g b ∧ w.heap[b]? = some (.cells cs t (0, 0)), fun w w' v ⟨b, h0, h1, h2⟩ hb => ⟨b, h0, h1, (hb.block b (Array.getElem?_eq_some_iff.1 h2).1).trans h2⟩⟩
end Go.Proofs.YtfkjahpcpmcefaaGreat
namespace Go.Proofs.YtfkjahpcpmcefaaGreat
open Go Go.RowKit
set_option maxRecDepth 100000
set_option linter.unusedVariables false
structure Gs where
  H : Nat → Gp
  H2 : Nat → Value → Prop
  K : Value → World → Prop
  le : ∀ j w v, (H j).p w v → H2 j v
def onceS (ops : Array Oper) (s m nt : Nat) : Bool := (dstsN ops m).all (fun d => decide (d < nt)) && decide (dstsN ops m).Nodup && ((List.range m).all fun j => match ops[j]? with
  | some o => if j = s then o.dst.isNone else o.dst.isSome
  | none => true)
def ArmS (P : Program) (C : Gs) (ops : Array Oper) (ds : List Nat) (s : Nat) (a0 : Act) (w0 : World) (j : Nat) (o : Oper) : Prop :=
  j = s ∨ (o.guard = none ∧ ∀ (a : Act) (w : World), Below w0.heap.size w0 w → (∀ s, s ∉ ds → a.eval (.tmp s) = a0.eval (.tmp s)) → (∀ i d, edgeB ops o i d = true → (C.H i).p w (a.eval (.tmp d))) →
    Goes P a w o.op o.type (fun v w' => (C.H j).p w' v ∧ Below w.heap.size w w'))
def ArmL (P : Program) (C : Gs) (ops : Array Oper) (s j : Nat) (o : Oper) : Prop :=
  j = s ∨ reachB ops ops.size s j = true ∨ (o.guard = none ∧ ∀ (a : Act) (w : World), (∀ i d, edgeB ops o i d = true → C.H2 i (a.eval (.tmp d))) → ∃ v, (execOp a.eval (sop o.op o.type)).run P w = .ok (.value v) w ∧ C.H2 j v)
structure Js (C : Gs) (ops : Array Oper) (s m db : Nat) (a0 : Act) (w0 : World) (listed : Array Bool) (a : Act) (w : World) : Prop where
  size : a.tmps.size = a0.tmps.size
  defers : a.defers = a0.defers
  keep : ∀ s, s ∉ dstsN ops m → a.eval (.tmp s) = a0.eval (.tmp s)
  lsize : listed.size = ops.size
  pre : listed.getD s false = false → (∀ j o d, ops[j]? = some o → o.dst = some d → listed.getD j false = true → (C.H j).p w (a.eval (.tmp d))) ∧ Below w0.heap.size w0 w
  post : listed.getD s false = true → (∀ j o d, ops[j]? = some o → o.dst = some d → listed.getD j false = true → C.H2 j (a.eval (.tmp d))) ∧ C.K (a.eval (.tmp db)) w
  clos : ∀ j o, ops[j]? = some o → listed.getD j false = true → ∀ e ∈ o.after, Region.binds .any e = true → listed.getD e.on false = true
  tail : ∀ j, m ≤ j → listed.getD j false = false
section
variable {P : Program} {C : Gs} {ops : Array Oper} {s m db : Nat} {a0 : Act} {w0 : World} {Q : Exit → Act → World → Prop}
theorem Js.step (hn : (dstsN ops m).Nodup) (hb : ∀ d ∈ dstsN ops m, d < a0.tmps.size) {jb : Nat} {ob : Oper} (hjb : ops[jb]? = some ob) (hdb : ob.dst = some db) (hjbm : jb < m) (hjbs : reachB ops ops.size s jb = true) {so : Oper} (hs : ops[s]? = some so)
    {listed : Array Bool} {a : Act} {w w' : World} {v : Value} (h : Js C ops s m db a0 w0 listed a w) {i : Nat} {o : Oper} (hi : ops[i]? = some o) (hin : i < m) (his : i ≠ s) {d : Nat} (hd : o.dst = some d) (ha : ∀ e ∈ o.after, Region.binds .any e = true → listed.getD e.on false = true) (hu : listed.getD i true = false)
    (hpre : listed.getD s false = false → (C.H i).p w' v ∧ Below w.heap.size w w') (hpost : listed.getD s false = true → C.H2 i v ∧ w' = w) : Js C ops s m db a0 w0 (listed.setIfInBounds i true) (a.put o.dst v) w' := by
  have hil : i < listed.size := by rw [h.lsize]; exact (Array.getElem?_eq_some_iff.1 hi).1
  have hdm := mem_dsts hi hd hin
  have hsl : (listed.setIfInBounds i true).getD s false = listed.getD s false := by rw [listed_set _ _ _ hil, if_neg (Ne.symm his)]
  have old : ∀ m' om dm, ops[m']? = some om → om.dst = some dm → (listed.setIfInBounds i true).getD m' false = true → m' ≠ i → listed.getD m' false = true ∧ (a.put o.dst v).eval (.tmp dm) = a.eval (.tmp dm) := fun m' om dm hm hdm' hl e => by
    rw [listed_set _ _ _ hil, if_neg e] at hl
    have hmn : m' < m := by
      rcases Nat.lt_or_ge m' m with h' | h'
      · exact h'
      · rw [h.tail m' h'] at hl; cases hl
    exact ⟨hl, evput_ne a v (fun e' => e (once_of hn hm hi hmn hin hdm' (by rw [e'])))⟩
  have new : (a.put o.dst v).eval (.tmp d) = v := by rw [hd]; exact evput_self a v (by rw [h.size]; exact hb _ hdm)
  refine ⟨by rw [hd]; simp [Act.put, h.size], by rw [hd]; exact h.defers, fun s' hs' => ?_, by simp [h.lsize], fun hf => ?_, fun hf => ?_, fun m' om hm hl e he hb => ?_, fun m' hm => ?_⟩
  · rw [evput_ne a v (by rw [hd]; intro e; injection e with e; subst e; exact hs' hdm)]
    exact h.keep s' hs'
  · rw [hsl] at hf
    obtain ⟨p1, p2⟩ := h.pre hf
    obtain ⟨q1, q2⟩ := hpre hf
    refine ⟨fun m' om dm hm hdm' hl => ?_, p2.trans (q2.mono p2.size)⟩
    by_cases e : m' = i
    · subst e
      rw [hi] at hm
      obtain rfl := Option.some.inj hm
      rw [hd] at hdm'
      obtain rfl := Option.some.inj hdm'
      rw [new]; exact q1
    · obtain ⟨r1, r2⟩ := old m' om dm hm hdm' hl e
      rw [r2]
      exact (C.H m').mono _ _ _ (p1 m' om dm hm hdm' r1) q2
  · rw [hsl] at hf
    obtain ⟨p1, p2⟩ := h.post hf
    obtain ⟨q1, rfl⟩ := hpost hf
    refine ⟨fun m' om dm hm hdm' hl => ?_, ?_⟩
    · by_cases e : m' = i
      · subst e
        rw [hi] at hm
        obtain rfl := Option.some.inj hm
        rw [hd] at hdm'
        obtain rfl := Option.some.inj hdm'
        rw [new]; exact q1
      · obtain ⟨r1, r2⟩ := old m' om dm hm hdm' hl e
        rw [r2]
        exact p1 m' om dm hm hdm' r1
    · have hjl : listed.getD jb false = true := reach_listed h.clos _ s so hs (fun e he hb => h.clos s so hs hf e he hb) hjbs
      have hne : jb ≠ i := fun e => by
        subst e
        rw [listed_no hu] at hjl; cases hjl
      rw [evput_ne a v (fun e' => hne (once_of hn hjb hi hjbm hin hdb (by rw [e'])))]
      exact p2
  · rw [listed_set _ _ _ hil] at hl ⊢
    by_cases e1 : e.on = i
    · rw [if_pos e1]
    · rw [if_neg e1]
      by_cases e2 : m' = i
      · subst e2
        rw [hi] at hm
        obtain rfl := Option.some.inj hm
        exact ha e he hb
      · rw [if_neg e2] at hl
        exact h.clos m' om hm hl e he hb
  · rw [listed_set _ _ _ hil, if_neg (by omega)]; exact h.tail m' hm
theorem Js.stored {listed : Array Bool} {a : Act} {w w' : World} (h : Js C ops s m db a0 w0 listed a w) {o : Oper} (hs : ops[s]? = some o) (hsm : s < m) (hd : o.dst = none) (hu : listed.getD s true = false) (ha : ∀ e ∈ o.after, Region.binds .any e = true → listed.getD e.on false = true)
    (hK : C.K (a.eval (.tmp db)) w') : Js C ops s m db a0 w0 (listed.setIfInBounds s true) (a.put o.dst undef) w' := by
  have hil : s < listed.size := by rw [h.lsize]; exact (Array.getElem?_eq_some_iff.1 hs).1
  have e0 : ∀ t : Nat, (a.put o.dst undef).eval (.tmp t) = a.eval (.tmp t) := fun t => by rw [hd]; rfl
  refine ⟨by rw [hd]; exact h.size, by rw [hd]; exact h.defers, fun s' hs' => by rw [e0]; exact h.keep s' hs', by simp [h.lsize], fun hf => ?_, fun _ => ?_, fun m' om hm hl e he hb => ?_, fun m' hm => ?_⟩
  · rw [listed_set _ _ _ hil, if_pos rfl] at hf; cases hf
  · refine ⟨fun m' om dm hm hdm' hl => ?_, by rw [e0]; exact hK⟩
    rw [listed_set _ _ _ hil] at hl
    by_cases e : m' = s
    · subst e
      rw [hs] at hm
      obtain rfl := Option.some.inj hm
      rw [hd] at hdm'; cases hdm'
    · rw [if_neg e] at hl
      rw [e0]
      exact C.le _ _ _ ((h.pre (listed_no hu)).1 m' om dm hm hdm' hl)
  · rw [listed_set _ _ _ hil] at hl ⊢
    by_cases e1 : e.on = s
    · rw [if_pos e1]
    · rw [if_neg e1]
      by_cases e2 : m' = s
      · subst e2
        rw [hs] at hm
        obtain rfl := Option.some.inj hm
        exact ha e he hb
      · rw [if_neg e2] at hl
        exact h.clos m' om hm hl e he hb
  · rw [listed_set _ _ _ hil, if_neg (by omega)]; exact h.tail m' hm
theorem wpAny_store (hac : acyc ops = true) (hsink : sinkG ops m = true) (hns : m ≤ ops.size) (hsm : s < m) (hn : (dstsN ops m).Nodup) (hb : ∀ d ∈ dstsN ops m, d < a0.tmps.size) (hd : ∀ j o, ops[j]? = some o → j < m → if j = s then o.dst = none else ∃ d, o.dst = some d)
    {jb : Nat} {ob : Oper} (hjb : ops[jb]? = some ob) (hdb : ob.dst = some db) (hjbm : jb < m) (hjbs : reachB ops ops.size s jb = true) {so : Oper} (hs : ops[s]? = some so) (hsg : so.guard = none)
    (arms : ∀ j o, ops[j]? = some o → j < m → ArmS P C ops (dstsN ops m) s a0 w0 j o) (late : ∀ j o, ops[j]? = some o → j < m → ArmL P C ops s j o)
    (store : ∀ (a : Act) (w : World), Below w0.heap.size w0 w → (∀ s, s ∉ dstsN ops m → a.eval (.tmp s) = a0.eval (.tmp s)) → (∀ j o d, ops[j]? = some o → o.dst = some d → reachB ops ops.size s j = true → (C.H j).p w (a.eval (.tmp d))) →
      ∃ w', (execOp a.eval (sop so.op so.type)).run P w = .ok .skip w' ∧ C.K (a.eval (.tmp db)) w')
    (he : ∀ a w, Js C ops s m db a0 w0 (listedN m (ops.size - m)) a w → wpAny P .any ops Q (ops.size - m) (listedN m (ops.size - m)) a w) :
    ∀ fuel listed a w, Js C ops s m db a0 w0 listed a w → unl listed = fuel → wpAny P .any ops Q fuel listed a w := by
  intro fuel
  induction fuel with
  | zero =>
    intro listed a w h hu
    have hall : ∀ j, j < m → listed.getD j false = true := fun j hj => by
      have hjl : j < listed.size := by rw [h.lsize]; omega
      rcases hb' : listed.getD j false with _ | _
      · exfalso
        have hm : false ∈ listed.toList := by
          rw [Array.getD_eq_getD_getElem?, Array.getElem?_eq_getElem hjl] at hb'
          have hb'' : listed[j] = false := hb'
          rw [← hb'']
          exact Array.mem_toList_iff.2 (Array.getElem_mem hjl)
        have := List.count_pos_iff.2 hm
        unfold unl at hu
        omega
      · rfl
    have e := listed_is h.lsize hns hall h.tail
    have hz : ops.size - m = 0 := by rw [e, unl_N] at hu; exact hu
    have := he a w (e ▸ h)
    rw [hz] at this
    rw [e, hz]
    exact this
  | succ fuel ih =>
    intro listed a w h hu
    by_cases hall : ∀ j, j < m → listed.getD j false = true
    · have e := listed_is h.lsize hns hall h.tail
      have hz : fuel + 1 = ops.size - m := by rw [e, unl_N] at hu; exact hu.symm
      rw [hz, e]
      exact he a w (e ▸ h)
    · refine ⟨fun hr => absurd (fun j hj => all_listed h.lsize (fun i o hi e he hb => acyc_spec hac i o hi e he hb) hr j (by omega)) hall, fun i hi => ?_⟩
      obtain ⟨h0, o, ho, ha⟩ := mem_ready.1 hi
      have hin : i < m := by
        rcases Nat.lt_or_ge i m with h' | h'
        · exact h'
        · refine absurd (fun j hj => ?_) hall
          exact reach_listed h.clos _ i o ho ha (sinkG_spec hsink ho h' hj)
      have hfu : ∀ {a' : Act} {w' : World}, Js C ops s m db a0 w0 (listed.setIfInBounds i true) a' w' → wpAny P .any ops Q fuel (listed.setIfInBounds i true) a' w' := fun hj => ih _ _ _ hj (by have := unl_set h0; omega)
      have hdd := hd i o ho hin
      by_cases his : i = s
      · subst his
        rw [hs] at ho
        obtain rfl := Option.some.inj ho
        rw [if_pos rfl] at hdd
        obtain ⟨p1, p2⟩ := h.pre (listed_no h0)
        obtain ⟨w', hrun, hK⟩ := store a w p2 h.keep (fun j oj dj hj hdj hr => p1 j oj dj hj hdj (reach_listed h.clos _ i _ hs ha hr))
        unfold Go.wpOp
        simp only [hs]
        have hw : Region.wanted so (yielded ops a.tmps) = true := by simp [Region.wanted, hsg]
        rw [if_pos hw]
        left
        unfold Oper.wp
        rw [exec_sop, hrun, Oper.upon_skip]
        exact hfu (h.stored hs hin hdd h0 ha hK)
      · rw [if_neg his] at hdd
        obtain ⟨d, hdst⟩ := hdd
        have edges : ∀ k dk, edgeB ops o k dk = true → ∃ ok, ops[k]? = some ok ∧ ok.dst = some dk ∧ listed.getD k false = true := fun k dk hk => by
          unfold edgeB at hk
          rw [Bool.and_eq_true, decide_eq_true_eq] at hk
          obtain ⟨q, hq, h3⟩ := Array.any_eq_true.1 hk.1
          rw [Bool.and_eq_true, decide_eq_true_eq] at h3
          obtain ⟨ok, hok, hdk⟩ := Option.bind_eq_some_iff.1 hk.2
          exact ⟨ok, hok, hdk, h3.2 ▸ ha _ (Array.getElem_mem hq) h3.1⟩
        rcases hsl : listed.getD s false with _ | _
        · obtain ⟨p1, p2⟩ := h.pre hsl
          rcases arms i o ho hin with hx | ⟨hg, harm⟩
          · exact absurd hx his
          · refine Goes.wpOp ho hg (harm a w p2 h.keep (fun k dk hk => ?_)) (fun v w' hv => ?_)
            · obtain ⟨ok, h1, h2, h3⟩ := edges k dk hk
              exact p1 k ok dk h1 h2 h3
            · exact hfu (h.step hn hb hjb hdb hjbm hjbs hs ho hin his hdst ha h0 (fun _ => hv) (fun hf => by rw [hsl] at hf; cases hf))
        · obtain ⟨p1, p2⟩ := h.post hsl
          rcases late i o ho hin with hx | hx | ⟨hg, harm⟩
          · exact absurd hx his
          · have := reach_listed h.clos _ s so hs (fun e he hb => h.clos s so hs hsl e he hb) hx
            rw [listed_no h0] at this; cases this
          · obtain ⟨v, hrun, hv⟩ := harm a w (fun k dk hk => by
              obtain ⟨ok, h1, h2, h3⟩ := edges k dk hk
              exact p1 k ok dk h1 h2 h3)
            refine Goes.wpOp (R := fun v' w' => v' = v ∧ w' = w) ho hg (.inl ⟨v, w, hrun, rfl, rfl⟩) ?_
            rintro v' w' ⟨rfl, rfl⟩
            exact hfu (h.step hn hb hjb hdb hjbm hjbs hs ho hin his hdst ha h0 (fun hf => by rw [hsl] at hf; cases hf) (fun _ => ⟨hv, rfl⟩))
theorem wp_region_store {id : Nat} (s m db jb : Nat) (st : TypeId) (sx sy : Operand) (C : Gs) (ds : List Nat) (tl : List Oper) (hds : dstsN ops m = ds) (htl : ops.toList.drop m = tl) (hm : P.follows .mixedOrders = true) (hac : acyc ops = true) (hsink : sinkG ops m = true) (hns : m ≤ ops.size) (hsm : s < m) (hon : onceS ops s m a0.tmps.size = true) (hseq : Region.seqB .any ops (ops.size - m) m (listedN m (ops.size - m)) = true)
    (hjb : (decide (jb < m) && decide (ops[jb]?.bind (·.dst) = some db) && reachB ops ops.size s jb && decide (ops[s]?.map (·.guard) = some none)) = true)
    (arms : AllFrom (ArmS P C ops ds s a0 w0) 0 (ops.toList.take m)) (late : AllFrom (ArmL P C ops s) 0 (ops.toList.take m))
    (hop : ops[s]?.map (·.op) = some (.store st sx sy))
    (store : ∀ (a : Act) (w : World), Below w0.heap.size w0 w → (∀ s, s ∉ ds → a.eval (.tmp s) = a0.eval (.tmp s)) → (∀ j d, (decide (ops[j]?.bind (·.dst) = some d) && reachB ops ops.size s j) = true → (C.H j).p w (a.eval (.tmp d))) →
      ∃ w', (Instr.storeAt st (a.eval sx) (a.eval sy)).run P w = .ok () w' ∧ C.K (a.eval (.tmp db)) w')
    (he : ∀ (u : Nat → Value) w, (∀ j d, j < m → ops[j]?.bind (·.dst) = some d → C.H2 j (u d)) → C.K (u db) w → wpList P ops Q tl (putAll u ds a0) w) : (Code.region id ops true).wp P Q a0 w0 := by
  subst hds htl
  unfold onceS at hon
  rw [Bool.and_eq_true, Bool.and_eq_true, decide_eq_true_eq] at hon
  obtain ⟨⟨hon1, hon2⟩, hon3⟩ := hon
  simp only [Bool.and_eq_true, decide_eq_true_eq] at hjb
  obtain ⟨⟨⟨hj1, hj2⟩, hj3⟩, hj4⟩ := hjb
  obtain ⟨ob, hob, hobd⟩ := Option.bind_eq_some_iff.1 hj2
  obtain ⟨so, hso, hsg⟩ := Option.map_eq_some_iff.1 hj4
  have hopo : so.op = .store st sx sy := by rw [hso] at hop; exact Option.some.inj hop
  have hb : ∀ d ∈ dstsN ops m, d < a0.tmps.size := fun d hd => by simpa using List.all_eq_true.1 hon1 d hd
  have hdd : ∀ j o, ops[j]? = some o → j < m → if j = s then o.dst = none else ∃ d, o.dst = some d := fun j o hj hn => by
    have := List.all_eq_true.1 hon3 j (List.mem_range.2 hn)
    rw [hj] at this
    by_cases e : j = s
    · rw [if_pos e]
      simpa [e] using this
    · rw [if_neg e]
      simp only [if_neg e] at this
      exact Option.isSome_iff_exists.1 this
  have hl : ∀ j, (Array.replicate ops.size false).getD j false = false := fun j => by
    rw [Array.getD_eq_getD_getElem?, Array.getElem?_replicate]
    split <;> rfl
  have at_ : ∀ {p : Nat → Oper → Prop}, AllFrom p 0 (ops.toList.take m) → ∀ j o, ops[j]? = some o → j < m → p j o := fun h j o hj hn => by
    have := AllFrom.get h j o (by rw [List.getElem?_take, if_pos hn, Array.getElem?_toList]; exact hj)
    rwa [Nat.zero_add] at this
  refine wp_region_any hm (wpAny_store (C := C) (w0 := w0) (db := db) hac hsink hns hsm hon2 hb hdd hob hobd hj1 hj3 hso hsg (at_ arms) (at_ late) (fun a w h1 h2 h3 => by
    obtain ⟨w', q1, q2⟩ := store a w h1 h2 (fun j d hr => by
      rw [Bool.and_eq_true, decide_eq_true_eq] at hr
      obtain ⟨o, ho, hd⟩ := Option.bind_eq_some_iff.1 hr.1
      exact h3 j o d ho hd hr.2)
    exact ⟨w', by rw [hopo]; exact run_store rfl rfl q1, q2⟩) (fun a w h => ?_) ops.size _ a0 _
    ⟨rfl, rfl, fun _ _ => rfl, by simp, fun _ => ⟨fun j o d hj hd h => ?_, (Below.refl _ w0).drew⟩, fun h => ?_, fun j o hj h => ?_, fun j _ => hl j⟩ ?_)
  · have hlen : (ops.toList.drop m).length = ops.size - m := by simp
    rw [← hlen]
    refine wpAny_of_seq (ops.toList.drop m) m _ a w (fun j => by rw [List.getElem?_drop, Array.getElem?_toList]) (by rw [hlen]; exact hseq) ?_
    have hlt : ∀ j, j < m → (listedN m (ops.size - m)).getD j false = true := fun j hj => by
      unfold listedN
      rw [Array.getD_eq_getD_getElem?, List.getElem?_toArray, List.getElem?_append_left (by simpa using hj), List.getElem?_replicate, if_pos hj]
      rfl
    obtain ⟨p1, p2⟩ := h.post (hlt s hsm)
    have e := act_putAll h.size h.defers h.keep
    rw [e]
    refine he _ w (fun j d hj hjd => ?_) p2
    obtain ⟨o, ho, hod⟩ := Option.bind_eq_some_iff.1 hjd
    exact p1 j o d ho hod (hlt j hj)
  · rw [hl] at h; cases h
  · rw [hl] at h; cases h
  · rw [hl] at h; cases h
  · unfold unl
    rw [Array.toList_replicate, List.count_replicate]
    simp
end
end Go.Proofs.YtfkjahpcpmcefaaGreat
namespace Go.Proofs.YtfkjahpcpmcefaaGreat.Co
open Go Go.RowKit
open Qu (Cf)
set_option maxRecDepth 100000
set_option linter.unusedVariables false
theorem bigC_any (A0 A1 A2 : Option Addr) (n0 n1 n2 k0 k1 k2 n : Nat) (hn : n ≤ 1000000) (w : World) :
    Calls Tryz.prog 10 #[.agg #[.slice A0 n0 k0, .slice A1 n1 k1, .slice A2 n2 k2], .int .i64 (n : Int)] w fun e w' => e = .returned (.bool (decide (n < n0) || decide (n < n1) || decide (n < n2))) ∧ Below w.heap.size w w' := by
  have hb : Below w.heap.size w (w.alloc (.cells #[.slice A0 n0 k0, .slice A1 n1 k1, .slice A2 n2 k2] 24)) := (Below.refl _ w).alloc (Nat.le_refl _) _
  have HB := hid hb
  clear hb
  by_cases h0 : n < n0
  · have h0' : (n : Int) < (n0 : Int) := by omega
    have HE : Hid ((decide (n < n0) || decide (n < n1) || decide (n < n2)) = true) := hid (by simp [h0])
    rw [HE.out]
    clear h0
    go_enter Tryz.func10, Tryz.ntmps10
    go_wp2_with fail
    go_ret
    exact ⟨rfl, HB.out⟩
  · have h0' : ¬ (n : Int) < (n0 : Int) := by omega
    by_cases h1 : n < n1
    · have h1' : (n : Int) < (n1 : Int) := by omega
      have HE : Hid ((decide (n < n0) || decide (n < n1) || decide (n < n2)) = true) := hid (by simp [h1])
      rw [HE.out]
      clear h0 h1
      go_enter Tryz.func10, Tryz.ntmps10
      go_wp2_with fail
      go_ret
      exact ⟨rfl, HB.out⟩
    · have h1' : ¬ (n : Int) < (n1 : Int) := by omega
      by_cases h2 : n < n2
      · have h2' : (n : Int) < (n2 : Int) := by omega
        have HE : Hid ((decide (n < n0) || decide (n < n1) || decide (n < n2)) = true) := hid (by simp [h2])
        rw [HE.out]
        clear h0 h1 h2
        go_enter Tryz.func10, Tryz.ntmps10
        go_wp2_with fail
        go_ret
        exact ⟨rfl, HB.out⟩
      · have h2' : ¬ (n : Int) < (n2 : Int) := by omega
        have HE : Hid ((decide (n < n0) || decide (n < n1) || decide (n < n2)) = false) := hid (by simp [h0, h1, h2])
        rw [HE.out]
        clear h0 h1 h2
        go_enter Tryz.func10, Tryz.ntmps10
        go_wp2_with fail
        go_ret
        exact ⟨rfl, HB.out⟩
theorem lent_M (B : Nat) (A : Option Addr) (c n : Nat) (l : List Int) (hn : n = l.length) (hl : n ≤ 100000) (w : World) (h : IsInts w B A l) (hB : B ≤ w.heap.size) :
    Calls Tryz.prog 12 #[.slice A n c] w fun e w' => ∃ g c', e = .returned (.slice (some ⟨g, 0, none⟩) (n + 5) c') ∧ OwnsI 3 w' w.heap.size (some ⟨g, 0, none⟩) c' (I.lent l) ∧ Below w.heap.size w w' := by
  subst hn; exact I.lent_any B A c l (by omega) w h hB
theorem kept_M (B B' g : Nat) (A' : Option Addr) (c c' n : Nat) (l : List Int) (hn : n = l.length) (hl : n ≤ 100000) (hcap : n + 5 ≤ c) (w : World) (h : IsInts w B (some ⟨g, 0, none⟩) (I.lent l)) (h' : IsInts w B' A' l) :
    Calls Tryz.prog 21 #[.slice (some ⟨g, 0, none⟩) (n + 5) c, .slice A' n c'] w fun e w' => e = .returned (.bool true) ∧ Below w.heap.size w w' := by
  subst hn; exact (I.kept_any B B' g A' c c' l (by omega) hcap w h h').mono fun e w' ⟨he, j, hj⟩ => ⟨he, by rw [hj]; exact below_drewN (Below.refl _ _) j⟩
theorem lent_head {w : World} {B : Nat} {A : Option Addr} {l : List Int} (h : IsInts w B A (I.lent l)) : IsInts w B A l := by
  have := h.take l.length
  rwa [I.take_lent] at this
def nxP (lo : Nat) (x : Cf) (b : Bool) : Gp := ⟨fun w v => ∃ (m : M3) (B N : Nat), v = .tuple #[.agg #[.slice m.a0 m.n0 m.k0, .slice m.a1 m.n1 m.k1, .slice m.a2 m.n2 m.k2], .bool b] ∧ lo ≤ B ∧ N ≤ w.heap.size ∧ OwnC w B N x m, fun w w' v ⟨m, B, N, h0, h1, h2, h3⟩ hb => ⟨m, B, N, h0, h1, Nat.le_trans h2 hb.size, h3.below hb⟩⟩
def mP (lo : Nat) (x : Cf) : Gp := ⟨fun w v => ∃ (m : M3) (B N : Nat), v = .agg #[.slice m.a0 m.n0 m.k0, .slice m.a1 m.n1 m.k1, .slice m.a2 m.n2 m.k2] ∧ lo ≤ B ∧ N ≤ w.heap.size ∧ OwnC w B N x m, fun w w' v ⟨m, B, N, h0, h1, h2, h3⟩ hb => ⟨m, B, N, h0, h1, Nat.le_trans h2 hb.size, h3.below hb⟩⟩
def zero3 : Array Value := #[.slice none 0 0, .slice none 0 0, .slice none 0 0]
def H7 (mx : M3) (gy n cy cap : Nat) (A : Option Addr) (lo : Nat) (x : Cf) (b : Bool) : Nat → Gp
  | 0 => Gp.is (.agg #[.slice mx.a0 mx.n0 mx.k0, .slice mx.a1 mx.n1 mx.k1, .slice mx.a2 mx.n2 mx.k2])
  | 1 => Gp.is (.slice (some ⟨gy, 0, none⟩) (n + 5) cy)
  | 2 => Gp.is (.slice A n cap)
  | 3 => Gp.is (.int .i64 n)
  | 4 => Gp.is (.slice (some ⟨gy, 0, none⟩) n cy)
  | 5 => nxP lo x b
  | 6 => nxP lo x b
  | 7 => mP lo x
  | 8 => Gp.is (.bool b)
  | 9 => Gp.box lo zero3 24
  | _ => Gp.any
def H72 (b : Bool) : Nat → Value → Prop
  | 5 => fun v => ∃ x, v = .tuple #[x, .bool b]
  | 6 => fun v => ∃ x, v = .tuple #[x, .bool b]
  | 8 => fun v => v = .bool b
  | _ => fun _ => True
def K7 (w0 : World) (x : Cf) (v : Value) (w : World) : Prop := ∃ (q : Nat) (m : M3) (B N : Nat), v = .pointer (some ⟨q, 0, none⟩) ∧ w0.heap.size ≤ q ∧ Bx w q 24 m ∧ w0.heap.size ≤ B ∧ N ≤ w.heap.size ∧ OwnC w B N x m ∧ Below w0.heap.size w0 w
theorem H7_le {mx : M3} {gy n cy cap : Nat} {A : Option Addr} {lo : Nat} {x : Cf} {b : Bool} : ∀ j w v, (H7 mx gy n cy cap A lo x b j).p w v → H72 b j v
  | 5, w, v, ⟨m, _, _, h, _⟩ => ⟨_, h⟩
  | 6, w, v, ⟨m, _, _, h, _⟩ => ⟨_, h⟩
  | 8, w, v, h => h
  | 0, _, _, _ | 1, _, _, _ | 2, _, _, _ | 3, _, _, _ | 4, _, _, _ | 7, _, _, _ | 9, _, _, _ | _ + 10, _, _, _ => trivial
def G7 (mx : M3) (gy n cy cap : Nat) (A : Option Addr) (x : Cf) (b : Bool) (w0 : World) : Gs := ⟨H7 mx gy n cy cap A w0.heap.size x b, H72 b, K7 w0 x, H7_le⟩
theorem run_boxC {ρ : Operand → Value} {ty : TypeId} {w : World} : (execOp ρ (sop (.alloc 24) ty)).run Tryz.prog w = .ok (.value (.pointer (some ⟨w.heap.size, 0, none⟩))) (w.alloc (.cells zero3 24)) := by
  unfold execOp sop zero3; simp only []; go_simp
theorem run_lenI {ρ : Operand → Value} {ty : TypeId} {w : World} {x : Operand} {A : Option Addr} {n c : Nat} (h : ρ x = .slice A n c) : (execOp ρ (sop (.call { callee := .builtin .len, args := #[x], argTypes := #[22] }) ty)).run Tryz.prog w = .ok (.value (.int .i64 n)) w := by
  unfold execOp sop; simp only []; go_simp
theorem run_upto {ρ : Operand → Value} {ty : TypeId} {w : World} {x y : Operand} {A : Option Addr} {m n c : Nat} (h : ρ x = .slice A m c) (h2 : ρ y = .int .i64 n) (hn : n ≤ c) (hc : c ≤ 9223372036854775807) : (execOp ρ (sop (.slice 22 x none (some y) none) ty)).run Tryz.prog w = .ok (.value (.slice A n c)) w := by
  have h3 : (n : Int) ≤ (c : Int) := by omega
  have h4 : (0 : Int) ≤ (n : Int) := by omega
  have h5 : (c : Int) ≤ 9223372036854775807 := by omega
  unfold execOp sop; simp only [h]; go_simp
theorem store7 {w0 W : World} {x : Cf} {v7 v9 : Value} (hb : Below w0.heap.size w0 W) (h7 : (mP w0.heap.size x).p W v7) (h9 : (Gp.box w0.heap.size zero3 24).p W v9) :
    ∃ w', (Instr.storeAt 24 v9 v7).run Tryz.prog W = .ok () w' ∧ K7 w0 x v9 w' := by
  obtain ⟨m, B, N, rfl, h1, h2, h3⟩ := h7
  obtain ⟨q, hlo, rfl, hq⟩ := h9
  have hx : Bx W q 24 mNil := hq
  have ht := Bx.tur W q m
  have hne : ∀ A k cl, OwnsI 3 W B A k cl → ∀ j, blk A = some j → j ≠ q := fun A k cl ho j hj e => by
    have : ∃ cur, W.heap[j]? = some (.cells cur 3 (0, 0)) := by
      rcases ho.row.2 with ⟨h0, _⟩ | ⟨g', cap, cur, hv, _, hh, _⟩
      · injection h0 with h0; rw [h0] at hj; cases hj
      · have hA : A = some ⟨g', 0, none⟩ := by injection hv
        rw [hA] at hj
        obtain rfl : g' = j := by injection hj
        exact ⟨cur, hh⟩
    obtain ⟨cur, hc⟩ := this
    rw [e, hq] at hc
    injection hc with hc
    injection hc with _ ht _
    exact absurd ht (by decide)
  have ho : OwnC (W.setRow q #[.slice m.a0 m.n0 m.k0, .slice m.a1 m.n1 m.k1, .slice m.a2 m.n2 m.k2]) B N x m :=
    ⟨ownsI_turn h3.o ht (hne _ _ _ h3.o), ownsI_turn h3.n ht (hne _ _ _ h3.n), ownsI_turn h3.l ht (hne _ _ _ h3.l), h3.e0, h3.e1, h3.e2, h3.b0, h3.b1, h3.b2, h3.d1, h3.d2, h3.d3⟩
  exact ⟨_, hx.st (m' := m), q, m, B, N, rfl, hlo, hx.set m, h1, Nat.le_trans h2 ht.size, ho, hb.trans (ht.below hb.size (fun k hk => by rw [hk]; exact hlo))⟩
end Go.Proofs.YtfkjahpcpmcefaaGreat.Co
namespace Go.Proofs.YtfkjahpcpmcefaaGreat.Co
open Go Go.RowKit
open Qu (Cf)
set_option maxRecDepth 100000
set_option linter.unusedVariables false
attribute [local go_sem ↓] Im.loadAt_conf3 Im.storeAt_conf3 loadAt_mem storeAt_mem
def bigM (m : M3) : Bool := decide (300 < m.n0) || decide (300 < m.n1) || decide (300 < m.n2)
theorem bigM_any (m : M3) (w : World) : Calls Tryz.prog 10 #[.agg #[.slice m.a0 m.n0 m.k0, .slice m.a1 m.n1 m.k1, .slice m.a2 m.n2 m.k2], .int .i64 300] w fun e w' => e = .returned (.bool (bigM m)) ∧ Below w.heap.size w w' := bigC_any m.a0 m.a1 m.a2 m.n0 m.n1 m.n2 m.k0 m.k1 m.k2 300 (by decide) w
theorem bigM_no {m : M3} (h : bigM m = false) : m.n0 ≤ 300 ∧ m.n1 ≤ 300 ∧ m.n2 ≤ 300 := by
  unfold bigM at h
  simp only [Bool.or_eq_false_iff, decide_eq_false_iff_not] at h
  omega
theorem box_keep {w5 v5 : World} {B : Nat} {x : Cf} {m : M3} (ho : OwnC w5 B w5.heap.size x m) (h : v5 = w5.alloc (.cells #[.slice m.a0 m.n0 m.k0, .slice m.a1 m.n1 m.k1, .slice m.a2 m.n2 m.k2] 24)) : ∀ W, Below v5.heap.size v5 W → Bx W w5.heap.size 24 m ∧ OwnC W B w5.heap.size x m ∧ Below w5.heap.size w5 W ∧ w5.heap.size + 1 ≤ W.heap.size := fun W hb => by
  obtain ⟨q1, q2, q3, _⟩ := box_new h
  exact ⟨q1.below hb q1.lt, (ho.below q2).below hb, q2.trans (hb.mono q2.size), by have := hb.size; omega⟩
theorem short_add {c : Cf} (h : Short c) (n : Int) : Short (add c n).1 := by
  rw [add_is]
  dsimp only
  split
  · exact ⟨h.1, by simp, by simp⟩
  · exact ⟨by simp [nil], by simp [nil], by simp [nil]⟩
theorem short_drop {c : Cf} (h : Short c) (n : Int) : Short (drop c n).1 := by
  rw [drop_is]
  dsimp only
  split
  · exact ⟨h.1, Nat.le_trans (List.length_filter_le _ _) h.1, by simp⟩
  · exact ⟨by simp [nil], by simp [nil], by simp [nil]⟩
theorem short_next {c : Cf} (h : Short c) (h3 : c.old.length ≤ 3000 ∧ c.lrn.length ≤ 3000) (f : List Int) : Short (next c f).1 := by
  unfold next
  split
  · exact h
  · split
    · exact ⟨h.2.1, by simp, by simp⟩
    · split
      · refine ⟨h.1, ?_, by simp⟩
        have := (Qu.uni_is (c.old ++ c.lrn)).length_le
        rw [List.length_append] at this
        show (Qu.uni (c.old ++ c.lrn)).length ≤ 20000
        omega
      · exact h
set_option maxHeartbeats 12800000 in
theorem steps_any (B : Nat) (c : Cf) (m : M3) (node : Int) (hnode : InInt node) (A : Option Addr) (n cap : Nat) (f : List Int) (hn : n = f.length) (w : World) (h : InC w B c m) (h' : IsInts w B A f) (hB : B ≤ w.heap.size) :
    Calls Tryz.prog 5 #[.agg #[.slice m.a0 m.n0 m.k0, .slice m.a1 m.n1 m.k1, .slice m.a2 m.n2 m.k2], .int .i64 node, .slice A n cap] w fun e w' => e = .returned (.bool true) ∧ Below w.heap.size w w' := by
  obtain ⟨w1, hw1⟩ : ∃ w1, w1 = w.alloc (.cells #[.slice m.a0 m.n0 m.k0, .slice m.a1 m.n1 m.k1, .slice m.a2 m.n2 m.k2] 24) := ⟨_, rfl⟩
  have hb1 : Below w.heap.size w w1 := by rw [hw1]; exact below_new w _
  have hs1 : w1.heap.size = w.heap.size + 1 := by rw [hw1]; simp
  have hx1 : Bx w1 w.heap.size 24 m := by rw [hw1]; exact Bx.new _ _ _
  have hld := (Bx.new w 24 m).ld
  have HK1 : Hid (∀ W, Below w1.heap.size w1 W → Bx W w.heap.size 24 m ∧ InC W B c m ∧ IsInts W B A f ∧ Below w.heap.size w W ∧ B ≤ W.heap.size) := hid (fun W hb => by
    have hl := hb1.trans (hb.mono hb1.size)
    exact ⟨hx1.below hb hx1.lt, h.below (hl.mono hB), h'.below (hl.mono hB), hl, by have := hl.size; omega⟩)
  have HE := hid (And.intro h.e0 (And.intro h.e1 (And.intro h.e2 hn)))
  clear h h' hb1 hs1 hx1 hB hn
  obtain ⟨bg, hbg⟩ : ∃ bg, bg = bigM m := ⟨_, rfl⟩
  have HG := hid (bigM_any m w1)
  rw [← hbg] at HG
  have HBG := hid hbg
  clear hbg
  cases bg
  · by_cases hn3 : 300 < n
    · have hn3' : (300 : Int) < (n : Int) := by omega
      clear hn3
      go_enter Tryz.func5, Tryz.ntmps5
      go_wp2_with fail
      rw [← hw1]
      clear hw1 hld
      refine HG.out.mono ?_
      rintro e w2 ⟨rfl, hb2⟩
      have HL := hid (HK1.out w2 hb2).2.2.2.1
      clear hb2
      go_wp2_with fail
      refine (works_any w2).mono ?_
      rintro e w3 ⟨rfl, hb3⟩
      have HB3 := hid (HL.out.trans (hb3.mono HL.out.size))
      clear hb3
      go_wp2_with fail
      go_ret
      exact ⟨rfl, HB3.out⟩
    · have hn3' : ¬ (300 : Int) < (n : Int) := by omega
      have hn300 : n ≤ 300 := by omega
      clear hn3
      have hbn := bigM_no HBG.out.symm
      have hsh : Short c := ⟨by have := HE.out.1; omega, by have := HE.out.2.1; omega, by have := HE.out.2.2.1; omega⟩
      have h300 : c.old.length ≤ 3000 ∧ c.lrn.length ≤ 3000 := ⟨by have := HE.out.1; omega, by have := HE.out.2.2.1; omega⟩
      have HS := hid (And.intro hsh h300)
      clear hbn hsh h300
      go_enter Tryz.func5, Tryz.ntmps5
      go_wp2_with fail
      rw [← hw1]
      clear hw1 hld
      refine HG.out.mono ?_
      rintro e w2 ⟨rfl, hb2⟩
      have hld2 := (HK1.out w2 hb2).1.ld
      have H2 := hid hb2
      clear hb2 HG
      go_wp2_with fail
      refine (copyConf_M B c HS.out.1 m w2 (HK1.out w2 H2.out).2.1 (HK1.out w2 H2.out).2.2.2.2).mono ?_
      rintro e w3 ⟨mx, rfl, hox, hb3⟩
      obtain ⟨v3, hv3⟩ : ∃ v3, v3 = w3.alloc (.cells #[.slice mx.a0 mx.n0 mx.k0, .slice mx.a1 mx.n1 mx.k1, .slice mx.a2 mx.n2 mx.k2] 24) := ⟨_, rfl⟩
      have hst3 := (box_new hv3).2.2.2
      have HK3 : Hid (∀ W, Below v3.heap.size v3 W → Bx W w3.heap.size 24 mx ∧ InC W w3.heap.size c mx ∧ Below w1.heap.size w1 W ∧ w3.heap.size + 1 ≤ W.heap.size) := hid (fun W hb => by
        have q := box_keep hox hv3 W hb
        exact ⟨q.1, q.2.1.inC, H2.out.trans ((hb3.mono H2.out.size).trans (q.2.2.1.mono (by have := H2.out.size; have := hb3.size; omega))), q.2.2.2⟩)
      clear hox hb3 hv3 hld2
      go_wp2_with fail
      have hq1 := HK1.out v3 (HK3.out v3 (Below.refl _ _)).2.2.1
      refine (lent_M B A cap n f HE.out.2.2.2 (by omega) v3 hq1.2.2.1 hq1.2.2.2.2).mono ?_
      rintro e w4 ⟨gy, cy, rfl, hoy, hb4⟩
      have hcy := (ownsI_cap hoy).2
      rw [I.lent_length, ← HE.out.2.2.2] at hcy
      have HK4 : Hid (∀ W, Below w4.heap.size w4 W → IsInts W w4.heap.size (some ⟨gy, 0, none⟩) (I.lent f) ∧ Below v3.heap.size v3 W) := hid (fun W hb => ⟨hoy.reads.below hb, hb4.trans (hb.mono hb4.size)⟩)
      have HCY := hid hcy
      have hld4 := (HK3.out w4 hb4).1.ld
      have hpa := add_any w3.heap.size c HS.out.1 mx node hnode w4 (HK3.out w4 hb4).2.1 (by have := (HK3.out w4 hb4).2.2.2; omega)
      obtain ⟨ra, hra⟩ : ∃ ra, ra = add c node := ⟨_, rfl⟩
      have HRA0 := hid hra
      clear hra
      rw [← HRA0.out] at hpa
      have HPA := hid hpa
      clear hoy hcy hb4 hq1 hpa hst3
      go_wp2_with fail
      refine HPA.out.mono ?_
      rintro e w5 ⟨ma, rfl, hoa, hb5⟩
      obtain ⟨v5, hv5⟩ : ∃ v5, v5 = w5.alloc (.cells #[.slice ma.a0 ma.n0 ma.k0, .slice ma.a1 ma.n1 ma.k1, .slice ma.a2 ma.n2 ma.k2] 24) := ⟨_, rfl⟩
      have hst5 := (box_new hv5).2.2.2
      have HK5 : Hid (∀ W, Below v5.heap.size v5 W → Bx W w5.heap.size 24 ma ∧ OwnC W w4.heap.size w5.heap.size ra.1 ma ∧ Below w4.heap.size w4 W ∧ w5.heap.size + 1 ≤ W.heap.size) := hid (fun W hb => by
        have q := box_keep hoa hv5 W hb
        exact ⟨q.1, q.2.1, hb5.trans (q.2.2.1.mono hb5.size), q.2.2.2⟩)
      have hs5 : v5.heap.size = w5.heap.size + 1 := by rw [hv5]; simp
      have h45 := hb5.size
      have HZ5 := hid (And.intro hs5 h45)
      have hq3 := HK3.out v5 (HK4.out v5 (HK5.out v5 (Below.refl _ _)).2.2.1).2
      have hld5 := hq3.1.ld
      have hpb := drop_any w3.heap.size c HS.out.1 mx node hnode v5 hq3.2.1 (by have := hq3.2.2.2; omega)
      obtain ⟨rb, hrb⟩ : ∃ rb, rb = drop c node := ⟨_, rfl⟩
      have HRB0 := hid hrb
      clear hrb
      rw [← HRB0.out] at hpb
      have HPB := hid hpb
      clear hoa hb5 hv5 hs5 h45 hq3 hpb hld4 HPA
      go_wp2_with fail
      refine HPB.out.mono ?_
      rintro e w6 ⟨mb, rfl, hob, hb6⟩
      obtain ⟨v6, hv6⟩ : ∃ v6, v6 = w6.alloc (.cells #[.slice mb.a0 mb.n0 mb.k0, .slice mb.a1 mb.n1 mb.k1, .slice mb.a2 mb.n2 mb.k2] 24) := ⟨_, rfl⟩
      have hst6 := (box_new hv6).2.2.2
      have HK6 : Hid (∀ W, Below v6.heap.size v6 W → Bx W w6.heap.size 24 mb ∧ OwnC W v5.heap.size w6.heap.size rb.1 mb ∧ Below v5.heap.size v5 W ∧ w6.heap.size + 1 ≤ W.heap.size) := hid (fun W hb => by
        have q := box_keep hob hv6 W hb
        exact ⟨q.1, q.2.1, hb6.trans (q.2.2.1.mono hb6.size), q.2.2.2⟩)
      have hs6 : v6.heap.size = w6.heap.size + 1 := by rw [hv6]; simp
      have h56 := hb6.size
      have HZ6 := hid (And.intro hs6 h56)
      clear hob hb6 hv6 hs6 h56 hld5 hst5 HPB
      obtain ⟨rd, hrd⟩ : ∃ rd, rd = next c f := ⟨_, rfl⟩
      have HRD0 := hid hrd
      clear hrd
      have HLO : Hid (∀ W, Below v6.heap.size v6 W → (Below w4.heap.size w4 W ∧ Below w1.heap.size w1 W) ∧ Bx W w3.heap.size 24 mx ∧ InC W w3.heap.size c mx ∧ w3.heap.size + 1 ≤ W.heap.size) := hid (fun W hb => by
        have q5 := HK5.out W (HK6.out W hb).2.2.1
        have q3 := HK3.out W (HK4.out W q5.2.2.1).2
        exact ⟨⟨q5.2.2.1, q3.2.2.1⟩, q3.1, q3.2.1, q3.2.2.2⟩)
      have HPD : Hid (∀ W, Below v6.heap.size v6 W → Calls Tryz.prog 15 #[.agg #[.slice mx.a0 mx.n0 mx.k0, .slice mx.a1 mx.n1 mx.k1, .slice mx.a2 mx.n2 mx.k2], .slice (some ⟨gy, 0, none⟩) n cy] W (GotB W rd.1 rd.2)) := hid (fun W hb => by
        have q := HLO.out W hb
        have q4 := (HK4.out W q.1.1).1
        rw [HRD0.out]
        exact next_any w3.heap.size w4.heap.size c HS.out.1 mx (some ⟨gy, 0, none⟩) n cy f HE.out.2.2.2 (by omega) W q.2.2.1 (lent_head q4) (by have := q.2.2.2; omega) q.1.1.size)
      go_wp2_with fail
      refine wp_region_store (w0 := v6) 10 11 13 9 _ _ _ (G7 mx gy n cy cap A rd.1 rd.2 v6) [46, 47, 48, 49, 50, 51, 45, 52, 53, 13] _ (by kernel_rfl) rfl rfl (by kernel_rfl) (by kernel_rfl) (by decide) (by decide) (by kernel_rfl) (by kernel_rfl) (by kernel_rfl) ?arms ?late rfl ?store ?he
      case arms =>
        exact ⟨(.inr ⟨rfl, fun a W hb hkp hw => goes_load (v1 := .pointer (some ⟨w3.heap.size, 0, none⟩)) (hkp 7 (by decide)) (HLO.out W hb).2.1.ld rfl⟩),
          (.inr ⟨rfl, fun a W hb hkp hw => goes_move (hkp 8 (by decide)) rfl⟩),
          (.inr ⟨rfl, fun a W hb hkp hw => goes_move (hkp 2 (by decide)) rfl⟩),
          (.inr ⟨rfl, fun a W hb hkp hw => goes_val (run_lenI (hw 2 48 (by kernel_rfl))) rfl⟩),
          (.inr ⟨rfl, fun a W hb hkp hw => goes_val (run_upto (hw 1 47 (by kernel_rfl)) (hw 3 49 (by kernel_rfl)) (by have := HCY.out; omega) (by have := HCY.out; unfold maxLen at this; omega)) rfl⟩),
          (.inr ⟨rfl, fun a W hb hkp hw => goes_call2 (hw 0 46 (by kernel_rfl)) (hw 4 50 (by kernel_rfl)) (by go_simp) ((HPD.out W hb).mono (by rintro e w' ⟨md, rfl, ho, hb'⟩; exact ⟨_, rfl, ⟨md, W.heap.size, w'.heap.size, rfl, hb.size, Nat.le_refl _, ho⟩, hb'⟩))⟩),
          (.inr ⟨rfl, fun a W hb hkp hw => goes_move rfl (hw 5 51 (by kernel_rfl))⟩),
          (.inr ⟨rfl, fun a W hb hkp hw => by
            obtain ⟨md, B', N', e1, h1⟩ := hw 6 45 (by kernel_rfl)
            exact goes_ext e1 rfl ⟨md, B', N', rfl, h1⟩⟩),
          (.inr ⟨rfl, fun a W hb hkp hw => by
            obtain ⟨md, B', N', e1, h1⟩ := hw 6 45 (by kernel_rfl)
            exact goes_ext e1 rfl rfl⟩),
          (.inr ⟨rfl, fun a W hb hkp hw => goes_new run_boxC ⟨W.heap.size, hb.size, rfl, heap_alloc_new _ _⟩⟩),
          .inl rfl, trivial⟩
      case late =>
        exact ⟨.inr (.inl (by kernel_rfl)), .inr (.inl (by kernel_rfl)), .inr (.inl (by kernel_rfl)), .inr (.inl (by kernel_rfl)), .inr (.inl (by kernel_rfl)), .inr (.inl (by kernel_rfl)), .inr (.inl (by kernel_rfl)), .inr (.inl (by kernel_rfl)),
          .inr (.inr ⟨rfl, fun a W h => by
            obtain ⟨x, e1⟩ : ∃ x, a.eval (.tmp 45) = .tuple #[x, .bool rd.2] := h 6 45 (by kernel_rfl)
            exact ⟨_, run_ext e1 rfl, rfl⟩⟩),
          .inr (.inl (by kernel_rfl)), .inl rfl, trivial⟩
      case store =>
        intro a W hb hkp hw
        exact store7 hb (hw 7 52 (by kernel_rfl)) (hw 9 13 (by kernel_rfl))
      case he =>
        intro u w7 hH hK
        have e53 : u 53 = .bool rd.2 := hH 8 53 (by decide) (by kernel_rfl)
        obtain ⟨q7, md, B7, N7, e13, hq7, hx7, hB7, hN7, ho7, hb7⟩ : K7 v6 rd.1 (u 13) w7 := hK
        clear hH
        have H7 := hid (And.intro hq7 (And.intro hx7 (And.intro hB7 (And.intro hN7 (And.intro ho7 hb7)))))
        simp only [putAll, List.foldl_cons, List.foldl_nil, e53, e13]
        clear e53 e13 hq7 hx7 hB7 hN7 ho7 hb7
        have HC1 : Hid (∀ W, Below w7.heap.size w7 W → (Bx W w.heap.size 24 m ∧ InC W B c m ∧ IsInts W B A f ∧ Below w.heap.size w W ∧ B ≤ W.heap.size) ∧ Below v6.heap.size v6 W) := hid (fun W hb => by
          have q := H7.out.2.2.2.2.2.trans (hb.mono H7.out.2.2.2.2.2.size)
          exact ⟨HK1.out W (HLO.out W q).1.2, q⟩)
        have hld7 := (HC1.out w7 (Below.refl _ _)).1.1.ld
        have hra := refAdd_any B c HS.out.1 m node hnode w7 (HC1.out w7 (Below.refl _ _)).1.2.1 (HC1.out w7 (Below.refl _ _)).1.2.2.2.2
        rw [← HRA0.out] at hra
        have HRA := hid hra
        clear hra hst6
        go_wp2_with fail
        refine HRA.out.mono ?_
        rintro e w8 ⟨na, rfl, hna, hb8⟩
        obtain ⟨v8, hv8⟩ : ∃ v8, v8 = w8.alloc (.cells #[.slice na.a0 na.n0 na.k0, .slice na.a1 na.n1 na.k1, .slice na.a2 na.n2 na.k2] 24) := ⟨_, rfl⟩
        have hst8 := (box_new hv8).2.2.2
        have HK8 : Hid (∀ W, Below v8.heap.size v8 W → Bx W w8.heap.size 24 na ∧ InC W w8.heap.size ra.1 na ∧ Below w7.heap.size w7 W ∧ w8.heap.size + 1 ≤ W.heap.size) := hid (fun W hb => by
          have q := box_keep hna hv8 W hb
          exact ⟨q.1, q.2.1.inC, hb8.trans (q.2.2.1.mono hb8.size), q.2.2.2⟩)
        have hc8 := HC1.out v8 (HK8.out v8 (Below.refl _ _)).2.2.1
        have hld8 := hc8.1.1.ld
        have hrb := refDrop_any B c HS.out.1 m node hnode v8 hc8.1.2.1 hc8.1.2.2.2.2
        rw [← HRB0.out] at hrb
        have HRB := hid hrb
        clear hna hb8 hv8 hc8 hrb hld7 HRA
        go_wp2_with fail
        refine HRB.out.mono ?_
        rintro e w9 ⟨nb, rfl, hnb, hb9⟩
        obtain ⟨v9, hv9⟩ : ∃ v9, v9 = w9.alloc (.cells #[.slice nb.a0 nb.n0 nb.k0, .slice nb.a1 nb.n1 nb.k1, .slice nb.a2 nb.n2 nb.k2] 24) := ⟨_, rfl⟩
        have hst9 := (box_new hv9).2.2.2
        have HK9 : Hid (∀ W, Below v9.heap.size v9 W → Bx W w9.heap.size 24 nb ∧ InC W w9.heap.size rb.1 nb ∧ Below v8.heap.size v8 W ∧ w9.heap.size + 1 ≤ W.heap.size) := hid (fun W hb => by
          have q := box_keep hnb hv9 W hb
          exact ⟨q.1, q.2.1.inC, hb9.trans (q.2.2.1.mono hb9.size), q.2.2.2⟩)
        have hc9 := HC1.out v9 (HK8.out v9 (HK9.out v9 (Below.refl _ _)).2.2.1).2.2.1
        have hld9 := hc9.1.1.ld
        have hrd := refNext_any B B c HS.out.1 HS.out.2 m A n cap f HE.out.2.2.2 (by omega) v9 hc9.1.2.1 hc9.1.2.2.1 hc9.1.2.2.2.2 hc9.1.2.2.2.2
        rw [← HRD0.out] at hrd
        have HRD := hid hrd
        clear hnb hb9 hv9 hc9 hrd hld8 hst8 HRB
        go_wp2_with fail
        refine HRD.out.mono ?_
        rintro e wx ⟨nd, rfl, hnd, hbx⟩
        obtain ⟨vx, hvx⟩ : ∃ vx, vx = wx.alloc (.cells #[.slice nd.a0 nd.n0 nd.k0, .slice nd.a1 nd.n1 nd.k1, .slice nd.a2 nd.n2 nd.k2] 24) := ⟨_, rfl⟩
        have hstx := (box_new hvx).2.2.2
        have HKX : Hid (∀ W, Below vx.heap.size vx W → Bx W wx.heap.size 24 nd ∧ InC W wx.heap.size rd.1 nd ∧ Below v9.heap.size v9 W ∧ wx.heap.size + 1 ≤ W.heap.size) := hid (fun W hb => by
          have q := box_keep hnd hvx W hb
          exact ⟨q.1, q.2.1.inC, hbx.trans (q.2.2.1.mono hbx.size), q.2.2.2⟩)
        have HALL : Hid (∀ W, Below vx.heap.size vx W → (Bx W w5.heap.size 24 ma ∧ OwnC W w4.heap.size w5.heap.size ra.1 ma ∧ w5.heap.size + 1 ≤ W.heap.size) ∧ (Bx W w6.heap.size 24 mb ∧ OwnC W v5.heap.size w6.heap.size rb.1 mb ∧ w6.heap.size + 1 ≤ W.heap.size) ∧ (Bx W q7 24 md ∧ OwnC W B7 N7 rd.1 md ∧ N7 ≤ W.heap.size) ∧ (Bx W w8.heap.size 24 na ∧ InC W w8.heap.size ra.1 na ∧ w8.heap.size + 1 ≤ W.heap.size) ∧ (Bx W w9.heap.size 24 nb ∧ InC W w9.heap.size rb.1 nb ∧ w9.heap.size + 1 ≤ W.heap.size) ∧ (Bx W wx.heap.size 24 nd ∧ InC W wx.heap.size rd.1 nd ∧ wx.heap.size + 1 ≤ W.heap.size) ∧ Below v6.heap.size v6 W) := hid (fun W hb => by
          have qx := HKX.out W hb
          have q9 := HK9.out W qx.2.2.1
          have q8 := HK8.out W q9.2.2.1
          have qc := (HC1.out W q8.2.2.1).2
          have q6 := HK6.out W qc
          have q5 := HK5.out W q6.2.2.1
          exact ⟨⟨q5.1, q5.2.1, q5.2.2.2⟩, ⟨q6.1, q6.2.1, q6.2.2.2⟩, ⟨H7.out.2.1.below q8.2.2.1 H7.out.2.1.lt, H7.out.2.2.2.2.1.below q8.2.2.1, by have := q8.2.2.1.size; have := H7.out.2.2.2.1; omega⟩, ⟨q8.1, q8.2.1, q8.2.2.2⟩, ⟨q9.1, q9.2.1, q9.2.2.2⟩, ⟨qx.1, qx.2.1, qx.2.2.2⟩, qc⟩)
        have HSH : Hid (Short ra.1 ∧ Short rb.1 ∧ Short rd.1) := hid ⟨by rw [HRA0.out]; exact short_add HS.out.1 node, by rw [HRB0.out]; exact short_drop HS.out.1 node, by rw [HRD0.out]; exact short_next HS.out.1 HS.out.2 f⟩
        have e1 : (ra.2 != ra.2) = false := by simp
        have e2 : (rb.2 != rb.2) = false := by simp
        have e3 : (rd.2 != rd.2) = false := by cases rd.2 <;> rfl
        have hx0 := HALL.out vx (Below.refl _ _)
        have la := hx0.1.1.ld
        have lna := hx0.2.2.2.1.1.ld
        have HSA := hid (sameConf_M w5.heap.size w8.heap.size ra.1 HSH.out.1 ma na vx hx0.1.2.1.inC hx0.2.2.2.1.2.1 (by have := hx0.1.2.2; omega) (by have := hx0.2.2.2.1.2.2; omega))
        clear hnd hbx hvx hld9 hst9 HRD hx0
        go_wp2_with fail
        refine HSA.out.mono ?_
        rintro e y1 ⟨rfl, hy1⟩
        have hx1 := HALL.out y1 hy1
        have lb := hx1.2.1.1.ld
        have lnb := hx1.2.2.2.2.1.1.ld
        have HSB := hid (sameConf_M w6.heap.size w9.heap.size rb.1 HSH.out.2.1 mb nb y1 hx1.2.1.2.1.inC hx1.2.2.2.2.1.2.1 (by have := hx1.2.1.2.2; omega) (by have := hx1.2.2.2.2.1.2.2; omega))
        have HY1 := hid hy1
        clear hx1 hy1 la lna HSA hstx
        go_wp2_with fail
        refine HSB.out.mono ?_
        rintro e y2 ⟨rfl, hy2⟩
        have hy2 := HY1.out.trans (hy2.mono HY1.out.size)
        have hx2 := HALL.out y2 hy2
        have lc := hx2.2.2.1.1.ld
        have lnc := hx2.2.2.2.2.2.1.1.ld
        have HSC := hid (sameConf_M N7 wx.heap.size rd.1 HSH.out.2.2 md nd y2 hx2.2.2.1.2.1.inC hx2.2.2.2.2.2.1.2.1 hx2.2.2.1.2.2 (by have := hx2.2.2.2.2.2.1.2.2; omega))
        have HY2 := hid hy2
        clear hx2 hy2 lb lnb HSB HY1
        go_wp2_with fail
        refine HSC.out.mono ?_
        rintro e y3 ⟨rfl, hy3⟩
        have hy3 := HY2.out.trans (hy3.mono HY2.out.size)
        have HX3 := hid (HALL.out y3 hy3)
        have la := HX3.out.1.1.ld
        clear hy3 lc lnc HSC HY2 e1 e2 e3
        go_wp2_with fail
        refine (spoil_any (fun k => w4.heap.size ≤ k ∧ k < w5.heap.size) _ _ ra.1 ma y3 HX3.out.1.2.1 (fun k h1 h2 => ⟨h1, h2⟩)).mono ?_
        rintro e y4 ⟨rfl, ht4⟩
        have z5 := HZ5.out.1
        have z5' := HZ5.out.2
        have z6 := HZ6.out.1
        have z6' := HZ6.out.2
        have hL4 : Below w4.heap.size w4 y4 := by
          have q := (HLO.out y3 HX3.out.2.2.2.2.2.2).1.1
          exact q.trans (ht4.below q.size (fun k hk => hk.1))
        have hxb4 := HX3.out.2.1.1.turned ht4 (fun hk => by omega)
        have hob4 := HX3.out.2.1.2.1.turned ht4 (fun k hk => by omega)
        have hxd4 := HX3.out.2.2.1.1.turned ht4 (fun hk => by have := H7.out.1; omega)
        have hod4 := HX3.out.2.2.1.2.1.turned ht4 (fun k hk => by have := H7.out.2.2.1; omega)
        have lb := hxb4.ld
        have HY4 := hid (And.intro hL4 (And.intro hob4 (And.intro hxd4 hod4)))
        have HZZ := hid (And.intro z5 (And.intro z5' (And.intro z6 z6')))
        clear ht4 hL4 hxb4 hob4 hxd4 hod4 la z5 z5' z6 z6'
        go_wp2_with fail
        refine (spoil_any (fun k => v5.heap.size ≤ k ∧ k < w6.heap.size) _ _ rb.1 mb y4 HY4.out.2.1 (fun k h1 h2 => ⟨h1, h2⟩)).mono ?_
        rintro e y5 ⟨rfl, ht5⟩
        have hz := HZZ.out
        have hL5 : Below w4.heap.size w4 y5 := HY4.out.1.trans (ht5.below HY4.out.1.size (fun k hk => by omega))
        have hxd5 := HY4.out.2.2.1.turned ht5 (fun hk => by have := H7.out.1; omega)
        have hod5 := HY4.out.2.2.2.turned ht5 (fun k hk => by have := H7.out.2.2.1; omega)
        have ld5 := hxd5.ld
        have HY5 := hid (And.intro hL5 hod5)
        clear ht5 hL5 hxd5 hod5 lb hz HY4
        go_wp2_with fail
        refine (spoil_any (fun k => v6.heap.size ≤ k) _ _ rd.1 md y5 HY5.out.2 (fun k h1 h2 => Nat.le_trans H7.out.2.2.1 h1)).mono ?_
        rintro e y6 ⟨rfl, ht6⟩
        have hL6 : Below w4.heap.size w4 y6 := HY5.out.1.trans (ht6.below HY5.out.1.size (fun k hk => by have := HZZ.out; omega))
        have HEND : Hid (∀ W, Below w4.heap.size w4 W → (Bx W w3.heap.size 24 mx ∧ InC W w3.heap.size c mx ∧ w3.heap.size ≤ W.heap.size) ∧ (Bx W w.heap.size 24 m ∧ InC W B c m ∧ IsInts W B A f ∧ Below w.heap.size w W ∧ B ≤ W.heap.size) ∧ IsInts W w4.heap.size (some ⟨gy, 0, none⟩) (I.lent f)) := hid (fun W hb => by
          have q4 := HK4.out W hb
          have q3 := HK3.out W q4.2
          exact ⟨⟨q3.1, q3.2.1, by have := q3.2.2.2; omega⟩, HK1.out W q3.2.2.1, q4.1⟩)
        have h6 := HEND.out y6 hL6
        have lx := h6.1.1.ld
        have lcc := h6.2.1.1.ld
        have HSX := hid (sameConf_M w3.heap.size B c HS.out.1 mx m y6 h6.1.2.1 h6.2.1.2.1 h6.1.2.2 h6.2.1.2.2.2.2)
        have HL6 := hid hL6
        clear ht6 hL6 h6 ld5 HY5
        go_wp2_with fail
        refine HSX.out.mono ?_
        rintro e y7 ⟨rfl, hy7⟩
        have hL7 := HL6.out.trans (hy7.mono HL6.out.size)
        have h7 := HEND.out y7 hL7
        have HKP := hid (kept_M w4.heap.size B gy A cy cap n f HE.out.2.2.2 (by omega) HCY.out.1 y7 h7.2.2 h7.2.1.2.2.1)
        have HL7 := hid hL7
        clear hy7 hL7 h7 lx lcc HSX
        go_wp2_with fail
        refine HKP.out.mono ?_
        rintro e y8 ⟨rfl, hy8⟩
        have hL8 := HL7.out.trans (hy8.mono HL7.out.size)
        have HL8 := hid hL8
        clear hy8 hL8 HKP
        go_wp2_with fail
        refine (works_any y8).mono ?_
        rintro e y9 ⟨rfl, hy9⟩
        have HL9 := hid (HEND.out y9 (HL8.out.trans (hy9.mono HL8.out.size))).2.1.2.2.2.1
        clear hy9
        go_wp2_with fail
        go_ret
        exact ⟨rfl, HL9.out⟩
  · go_enter Tryz.func5, Tryz.ntmps5
    go_wp2_with fail
    rw [← hw1]
    clear hw1 hld
    refine HG.out.mono ?_
    rintro e w2 ⟨rfl, hb2⟩
    have HL := hid (HK1.out w2 hb2).2.2.2.1
    clear hb2
    go_wp2_with fail
    refine (works_any w2).mono ?_
    rintro e w3 ⟨rfl, hb3⟩
    have HB3 := hid (HL.out.trans (hb3.mono HL.out.size))
    clear hb3
    go_wp2_with fail
    go_ret
    exact ⟨rfl, HB3.out⟩
end Go.Proofs.YtfkjahpcpmcefaaGreat.Co
namespace Go.Proofs.YtfkjahpcpmcefaaGreat
open Go.RowKit
theorem wp_append_byteN {P : Program} {w : World} {o : Oper} {a : Act} {K : Act → World → Prop} {Q : Exit → Act → World → Prop} (s x : Operand) (t : TypeId)
    (ho : o.op = .call { callee := .builtin .append, args := #[s, x], argTypes := #[t, t] })
    (base : Nat) (e : TypeId) (i : TypeInfo) (ht : P.underlying t = some (.slice e)) (hi : P.info? e = some i) (hz : i.zero = some (.int .u8 0)) (hsize : i.size = 1) (hby : i.bytes = 1)
    (A : Option Addr) (c : Nat) (l : List Nat) (n : Nat) (hln : l.length = n) (hs : a.eval s = .slice A n c) (hown : OwnsB e w base A c l)
    (ad : Addr) (c' : Nat) (y : Nat) (v : Int) (hyv : v = (y : Int)) (hy : y < 256) (hx : a.eval x = .slice (some ad) 1 c') (hc : w.cell? ad = some (.int .u8 v))
    (L : List Nat) (hL : l ++ [y] = L) (hbytes : n + 1 ≤ 140737488355328) (hbase : base ≤ w.heap.size)
    (h : ∀ A2 c2 w', OwnsB e w' base A2 c2 L → Below base w w' → w.grownBy w' (blk A) → (blk A2 = blk A ∨ blk A2 = some w.heap.size) → K (a.put o.dst (.slice A2 (n + 1) c2)) w') : o.wp P a w K Q := by
  subst hln
  subst hL
  subst hyv
  obtain ⟨v', w', hr, h1, h2, _, h4⟩ := run_append_own_at (P := P) w base t o.type e i (.int .u8 0) 1 1 ht hi hz hsize hby rfl (by decide) _ l.length (bytes l) hown.row ad 1 c' [.int .u8 (y : Int)] rfl
    (fun j u hj => by
      match j, hj with
      | 0, hj => simp at hj; subst hj; simpa [Addr.add] using hc) (fun u hu => by simp at hu; subst hu; rfl) (by unfold maxLen; omega) (by omega) hbase
  obtain ⟨A2, c2, rfl⟩ := own_slice h1
  have e2 : bytes l ++ [Value.int .u8 (y : Int)] = bytes (l ++ [y]) := by unfold bytes; simp
  rw [e2] at h1
  rw [ownBlock_slice, ownBlock_slice] at h4
  unfold Oper.wp execOp
  simp only [ho, resolve, invoke, builtin, Sem.run_bind, Sem.run_pure, Result.andThen_ok, List.map_toArray, List.map_cons, List.map_nil, hs, hx, hr]
  refine h A2 c2 w' ⟨fun z hz => ?_, by rw [List.length_append]; exact h1⟩ (below_grown h2 hbase fun k hk => (hown.row.lt k hk).1) (by rw [← ownBlock_slice A l.length c]; exact h2) h4
  rcases List.mem_append.1 hz with hz | hz
  · exact hown.small z hz
  · simp at hz; subst hz; exact hy
theorem step_append_byteN {P : Program} {w : World} {ops : Array Oper} {o : Oper} {a : Act} {K : Act → World → Prop} {Q : Exit → Act → World → Prop} {E : Prop} (hgd : o.guard = none) (s x : Operand) (t : TypeId)
    (ho : o.op = .call { callee := .builtin .append, args := #[s, x], argTypes := #[t, t] })
    (base : Nat) (e : TypeId) (i : TypeInfo) (ht : P.underlying t = some (.slice e)) (hi : P.info? e = some i) (hz : i.zero = some (.int .u8 0)) (hsize : i.size = 1) (hby : i.bytes = 1)
    (A : Option Addr) (c : Nat) (l : List Nat) (n : Nat) (hln : l.length = n) (hs : a.eval s = .slice A n c) (hown : OwnsB e w base A c l)
    (ad : Addr) (c' : Nat) (y : Nat) (v : Int) (hyv : v = (y : Int)) (hy : y < 256) (hx : a.eval x = .slice (some ad) 1 c') (hc : w.cell? ad = some (.int .u8 v))
    (L : List Nat) (hL : l ++ [y] = L) (hbytes : n + 1 ≤ 140737488355328) (hbase : base ≤ w.heap.size)
    (h : ∀ A2 c2 w', OwnsB e w' base A2 c2 L → Below base w w' → w.grownBy w' (blk A) → (blk A2 = blk A ∨ blk A2 = some w.heap.size) → K (a.put o.dst (.slice A2 (n + 1) c2)) w') :
    if Region.wanted o (yielded ops a.tmps) = true then Oper.wp P o a w K Q else E := by
  have hw : Region.wanted o (yielded ops a.tmps) = true := by simp [Region.wanted, hgd]
  rw [if_pos hw]
  exact wp_append_byteN s x t ho base e i ht hi hz hsize hby A c l n hln hs hown ad c' y v hyv hy hx hc L hL hbytes hbase h
theorem OwnsB.readsB {e : TypeId} {w : World} {base c top : Nat} {A : Option Addr} {l : List Nat} (h : OwnsB e w base A c l) (ht : ∀ k, blk A = some k → k < top) : IsBytes w top A l := by
  refine ⟨h.small, fun k hk => ?_⟩
  obtain ⟨b, off, e, _, hc⟩ := h.reads.cells k hk
  exact ⟨b, off, e, ht b (by rw [e]; rfl), hc⟩
end Go.Proofs.YtfkjahpcpmcefaaGreat
namespace Go.Proofs.YtfkjahpcpmcefaaGreat
open Go.RowKit
set_option maxRecDepth 100000
def leftOf (B : List Nat) (at' : Nat) (bad : Bool) : List Nat := if bad = true then [] else B.drop at'
structure RefR (w : World) (g top : Nat) (B : List Nat) (at' : Nat) (bad : Bool) : Prop where
  at_ : ∃ A c, w.heap[g]? = some (.cells #[.slice A B.length c, .int .i64 (at' : Int), .bool bad] 110 (0, 0)) ∧ OwnsB 5 w (g + 1) A c B ∧ (∀ k, blk A = some k → k < top)
  le : at' ≤ B.length
  short : B.length ≤ 1000000
  top_ : g < top ∧ top ≤ w.heap.size
namespace RefR
variable {w w' : World} {g top : Nat} {B : List Nat} {at' : Nat} {bad : Bool}
theorem other {row : Option Nat} (h : RefR w g top B at' bad) (hG : w.grownBy w' row) (hr : ∀ k, row = some k → k < g ∨ top ≤ k) : RefR w' g top B at' bad := by
  obtain ⟨A, c, h1, h2, h3⟩ := h.at_
  refine ⟨⟨A, c, ?_, ⟨h2.small, h2.row.kept hG ?_⟩, h3⟩, h.le, h.short, h.top_.1, Nat.le_trans h.top_.2 hG.size⟩
  · rw [hG.block g (by have := h.top_; omega) (fun e => by have := hr g e.symm; have := h.top_; omega)]
    exact h1
  · rw [ownBlock_slice]
    rcases hb : blk A with _ | k
    · exact .inl rfl
    · refine .inr (fun e => ?_)
      have h4 := hr k e.symm
      have h5 := h3 k hb
      have h6 := h2.blkLt k hb
      omega
theorem below (h : RefR w g top B at' bad) (hb : Below w.heap.size w w') : RefR w' g top B at' bad := h.other (grown_below hb none) (fun k e => by cases e)
theorem belowB {b0 : Nat} (h : RefR w g top B at' bad) (hb : Below b0 w w') (h0 : top ≤ b0) : RefR w' g top B at' bad := by
  obtain ⟨A, c, h1, h2, h3⟩ := h.at_
  refine ⟨⟨A, c, (hb.block g (by have := h.top_; omega)).trans h1, ⟨h2.small, h2.row.1, ?_⟩, h3⟩, h.le, h.short, h.top_.1, Nat.le_trans h.top_.2 hb.size⟩
  rcases h2.row.2 with hn | ⟨g', cap, cur, hv, hb', hh, rest⟩
  · exact .inl hn
  · refine .inr ⟨g', cap, cur, hv, hb', (hb.block g' ?_).trans hh, rest⟩
    have : blk A = some g' := by
      injection hv with hv
      rw [hv]; rfl
    have := h3 g' this
    omega
theorem drewN (h : RefR w g top B at' bad) (n : Nat) : RefR (w.drewN n) g top B at' bad := h.below (below_drewN (Below.refl _ _) n)
theorem cells (h : RefR w g top B at' bad) : ∃ A c, w.cell? ⟨g, 0, none⟩ = some (.slice A B.length c) ∧ w.cell? ⟨g, 1, none⟩ = some (.int .i64 (at' : Int)) ∧ w.cell? ⟨g, 2, none⟩ = some (.bool bad) ∧ IsBytes w top A B ∧ B.length ≤ c := by
  obtain ⟨A, c, h1, h2, h3⟩ := h.at_
  exact ⟨A, c, row_cell h1 0, row_cell h1 1, row_cell h1 2, h2.readsB h3, h2.cap⟩
theorem free (h : RefR w g top B at' bad) (i : Nat) : w.frozen? ⟨g, i, none⟩ = false := by
  obtain ⟨A, c, h1, h2, h3⟩ := h.at_
  exact row_free h1 i
theorem setBad (h : RefR w g top B at' bad) (b : Bool) : RefR (w.setCell ⟨g, 2, none⟩ (.bool b)) g top B at' b ∧ w.grownBy (w.setCell ⟨g, 2, none⟩ (.bool b)) (some g) := by
  obtain ⟨A, c, h1, h2, h3⟩ := h.at_
  have hG := grown_setCell w g 2 (.bool b)
  exact ⟨⟨⟨A, c, row_set h1 2 _, h2.grown hG (fun k hk => by injection hk with hk; omega), h3⟩, h.le, h.short, h.top_.1, Nat.le_trans h.top_.2 hG.size⟩, hG⟩
theorem setAt (h : RefR w g top B at' bad) (a2 : Nat) (ha : a2 ≤ B.length) : RefR (w.setCell ⟨g, 1, none⟩ (.int .i64 (a2 : Int))) g top B a2 bad ∧ w.grownBy (w.setCell ⟨g, 1, none⟩ (.int .i64 (a2 : Int))) (some g) := by
  obtain ⟨A, c, h1, h2, h3⟩ := h.at_
  have hG := grown_setCell w g 1 (.int .i64 (a2 : Int))
  exact ⟨⟨⟨A, c, row_set h1 1 _, h2.grown hG (fun k hk => by injection hk with hk; omega), h3⟩, ha, h.short, h.top_.1, Nat.le_trans h.top_.2 hG.size⟩, hG⟩
end RefR
set_option maxRecDepth 100000 in
set_option maxHeartbeats 400000 in
theorem refLeft_any (g top : Nat) (B : List Nat) (at' : Nat) (bad : Bool) (w : World) (h : RefR w g top B at' bad) :
    Calls Tryz.prog 97 #[.pointer (some ⟨g, 0, none⟩)] w fun e w' => e = .returned (.int .i64 ((leftOf B at' bad).length : Nat)) ∧ ∃ n, w' = w.drewN n := by
  obtain ⟨A, c, hc0, hc1, hc2, _, hc⟩ := h.cells
  have hle := h.le
  have hsh := h.short
  clear h
  cases bad
  · go_enter Tryz.func97, Tryz.ntmps97
    go_wp2
    go_quiet (fail)
    go_wp2
    go_ret
    exact ⟨ret_int (by simp [leftOf]; omega), _, rfl⟩
  · go_enter Tryz.func97, Tryz.ntmps97
    go_wp2
    go_ret
    exact ⟨ret_int (by simp [leftOf]), 0, rfl⟩
end Go.Proofs.YtfkjahpcpmcefaaGreat
namespace Go.Proofs.YtfkjahpcpmcefaaGreat
open Go.RowKit
set_option maxRecDepth 100000
theorem u64_wrap' (v : Int) : IntKind.u64.wrap v = v % 18446744073709551616 := by simp [IntKind.wrap, IntKind.signed, IntKind.bits]
theorem leftOf_get (B : List Nat) (at' k : Nat) (h : at' + k < B.length) : (B.drop at').take (k + 1) = (B.drop at').take k ++ [B[at' + k]] := by
  rw [List.take_succ_eq_append_getElem (by rw [List.length_drop]; omega), List.getElem_drop]
set_option maxRecDepth 100000 in
set_option maxHeartbeats 800000 in
theorem refRInt_short (g top : Nat) (B : List Nat) (at' : Nat) (bad : Bool) (w : World) (h : RefR w g top B at' bad) (hl : (leftOf B at' bad).length < 8) :
    Calls Tryz.prog 113 #[.pointer (some ⟨g, 0, none⟩)] w fun e w' => e = .returned (.int .i64 0) ∧ RefR w' g top B at' true ∧ w.grownBy w' (some g) := by
  have HL := hid (refLeft_any g top B at' bad w h)
  have HE := hid hl
  have H := hid h
  obtain ⟨A, c, hc0, hc1, hc2, _, hc⟩ := h.cells
  have hf2 := h.free 2
  clear h
  go_enter Tryz.func113, Tryz.ntmps113
  go_wp2_with fail
  refine HL.out.mono ?_
  rintro e w1 ⟨rfl, n, rfl⟩
  have HB := hid ((H.out.drewN n).setBad true)
  go_wp2_with fail
  go_ret
  exact ⟨rfl, HB.out.1, (grown_drewN (grown_refl _ _) n).trans HB.out.2⟩
set_option maxRecDepth 100000 in
set_option maxHeartbeats 1600000 in
theorem refRInt_long (g top : Nat) (B : List Nat) (at' : Nat) (w : World) (h : RefR w g top B at' false) (hl : at' + 8 ≤ B.length) :
    Calls Tryz.prog 113 #[.pointer (some ⟨g, 0, none⟩)] w fun e w' => e = .returned (.int .i64 (Pk.sgn (Pk.num ((B.drop at').take 8)))) ∧ RefR w' g top B (at' + 8) false ∧ w.grownBy w' (some g) := by
  have HL := hid (refLeft_any g top B at' false w h)
  have hll : (leftOf B at' false).length = B.length - at' := by simp [leftOf]
  rw [hll] at HL
  have H := hid h
  have hle := h.le
  have hsh := h.short
  clear h hll
  go_enter Tryz.func113, Tryz.ntmps113
  go_wp2_with fail
  refine HL.out.mono ?_
  rintro e w1 ⟨rfl, n1, rfl⟩
  go_wp2_with fail
  go_loopw [3, 4] (fun v i wr => ∃ k n m : Nat, k ≤ 8 ∧ i = .int .i64 k ∧ v = .int .u64 (n : Int) ∧ wr = w.drewN m ∧ Hid (n = Pk.num ((B.drop at').take k))) (fun _ i _ => 8 - (RowKit.intOf i).toNat)
  case atStart => exact ⟨0, 0, n1, by omega, rfl, rfl, rfl, hid rfl⟩
  case round =>
    obtain ⟨k, n, m, hk, rfl, rfl, rfl, hs⟩ := hrel
    by_cases hlt : k < 8
    · obtain ⟨A, c, hc0, hc1, hc2, hb, hc⟩ := H.out.cells
      obtain ⟨b, off, rfl, _, hcell⟩ := hb.cells (at' + k) (by omega)
      have hck := hcell (at' + k) (by omega)
      have hb8 := hb.small B[at' + k] (List.getElem_mem _)
      have hn7 : n < 72057594037927936 := by
        rw [hs.out]
        have h1 := Pk.num_lt ((B.drop at').take k) (fun x hx => hb.small x (List.mem_of_mem_drop (List.mem_of_mem_take hx)))
        have h2 : ((B.drop at').take k).length ≤ 7 := by rw [List.length_take]; omega
        have h3 : 256 ^ ((B.drop at').take k).length ≤ 256 ^ 7 := Nat.pow_le_pow_right (by decide) h2
        have h4 : 256 ^ 7 = 72057594037927936 := by decide
        omega
      have hkl : at' + k < B.length := by omega
      have e1 : IntKind.i64.wrap ((at' : Int) + (k : Int)) = (at' : Int) + (k : Int) := IntWalk.i64_in _ (by omega)
      have e2 : IntKind.u64.wrap ((n : Int) * 256) = (n : Int) * 256 := by rw [u64_wrap']; omega
      have e3 : IntKind.u64.wrap ((n : Int) * 256 + (B[at' + k] : Int)) = (n : Int) * 256 + (B[at' + k] : Int) := by rw [u64_wrap']; omega
      have e4 : ((at' : Int) + (k : Int)).toNat = at' + k := by omega
      have e5 : 0 ≤ (at' : Int) + (k : Int) := by omega
      clear hcell hb
      go_wp2
      go_quiet (fail)
      clear e1 e2 e3 e4 e5
      go_wp2
      go_roundw
      case rel => exact ⟨k + 1, n * 256 + B[at' + k], _, by omega, by go_num, by go_num, rfl, by
        show _ = _
        rw [leftOf_get B at' k hkl, Pk.num_snoc, ← hs.out]⟩
      case measure => simp [RowKit.intOf] <;> omega
    · obtain rfl : k = 8 := by omega
      have hw := H.out.drewN m
      obtain ⟨A, c, hc0, hc1, hc2, hb, hc⟩ := hw.cells
      have hf1 := hw.free 1
      have HA : Hid (RefR ((w.drewN m).setCell ⟨g, 1, none⟩ (.int .i64 ((at' : Int) + 8))) g top B (at' + 8) false ∧ (w.drewN m).grownBy ((w.drewN m).setCell ⟨g, 1, none⟩ (.int .i64 ((at' : Int) + 8))) (some g)) := hw.setAt (at' + 8) hl
      have hn : n < 18446744073709551616 := by
        rw [hs.out]
        exact Pk.take_num_lt _ (fun x hx => hb.small x (List.mem_of_mem_drop hx))
      have hv : wrap64 (n : Int) = Pk.sgn (Pk.num ((B.drop at').take 8)) := by rw [wrap64_sgn n hn, hs.out]
      have HV := hid hv
      clear hw hb hn hv
      go_wp2
      go_ret
      exact ⟨ret_int HV.out, HA.out.1, (grown_drewN (grown_refl _ _) m).trans HA.out.2⟩
end Go.Proofs.YtfkjahpcpmcefaaGreat
namespace Go.Proofs.YtfkjahpcpmcefaaGreat
open Go.RowKit
set_option maxRecDepth 100000
def stOf (B : List Nat) (at' : Nat) (bad : Bool) : Pk.St := ⟨leftOf B at' bad, bad⟩
theorem stOf_short (B : List Nat) (at' : Nat) (bad : Bool) (hl : (leftOf B at' bad).length < 8) : Pk.rdInt (stOf B at' bad) = (0, Pk.gone) := by
  unfold Pk.rdInt stOf; rw [if_pos hl]
theorem stOf_long (B : List Nat) (at' : Nat) (hl : at' + 8 ≤ B.length) : Pk.rdInt (stOf B at' false) = (Pk.sgn (Pk.num ((B.drop at').take 8)), stOf B (at' + 8) false) := by
  unfold Pk.rdInt stOf leftOf
  rw [if_neg (by simp; omega)]
  simp
theorem stOf_cases (B : List Nat) (at' : Nat) (bad : Bool) : (leftOf B at' bad).length < 8 ∨ (bad = false ∧ at' + 8 ≤ B.length) := by
  cases bad
  · by_cases h : at' + 8 ≤ B.length
    · exact .inr ⟨rfl, h⟩
    · left; simp [leftOf]; omega
  · left; simp [leftOf]
end Go.Proofs.YtfkjahpcpmcefaaGreat
namespace Go.Proofs.YtfkjahpcpmcefaaGreat
open Go.RowKit
set_option maxHeartbeats 400000 in
theorem refEnd_any (g top : Nat) (B : List Nat) (at' : Nat) (bad : Bool) (w : World) (h : RefR w g top B at' bad) :
    Calls Tryz.prog 84 #[.pointer (some ⟨g, 0, none⟩)] w fun e w' => e = .returned (.int .i64 (endOf ⟨leftOf B at' bad, bad⟩)) ∧ ∃ n, w' = w.drewN n := by
  obtain ⟨A, c, hc0, hc1, hc2, _, hc⟩ := h.cells
  have HL := hid (refLeft_any g top B at' bad w h)
  clear h
  cases bad
  · by_cases hl : 0 < (leftOf B at' false).length
    · have HE := hid hl
      go_enter Tryz.func84, Tryz.ntmps84
      go_wp2_with fail
      refine HL.out.mono ?_
      rintro e w1 ⟨rfl, n, rfl⟩
      go_wp2_with fail
      go_ret
      exact ⟨ret_int (by simp [endOf, HE.out]), n, rfl⟩
    · have hl' : (leftOf B at' false).length = 0 := by omega
      have HE := hid hl'
      clear hl'
      go_enter Tryz.func84, Tryz.ntmps84
      go_wp2_with fail
      refine HL.out.mono ?_
      rintro e w1 ⟨rfl, n, rfl⟩
      go_wp2_with fail
      go_ret
      exact ⟨ret_int (by simp [endOf, HE.out]), n, rfl⟩
  · go_enter Tryz.func84, Tryz.ntmps84
    go_wp2_with fail
    go_ret
    exact ⟨ret_int (by simp [endOf]), 0, rfl⟩
end Go.Proofs.YtfkjahpcpmcefaaGreat
namespace Go.Proofs.YtfkjahpcpmcefaaGreat
open Go.RowKit
end Go.Proofs.YtfkjahpcpmcefaaGreat
namespace Go.Proofs.YtfkjahpcpmcefaaGreat
open Go.RowKit
set_option maxRecDepth 100000
theorem frozen_alloc_lt (w : World) (o : Obj) (p : Addr) (h : p.block < w.heap.size) : (w.alloc o).frozen? p = w.frozen? p := ((Below.refl w.heap.size w).alloc (Nat.le_refl _) o).frozen h
set_option maxRecDepth 100000 in
set_option maxHeartbeats 1600000 in
theorem refReader_any (B0 : Nat) (A : Option Addr) (c : Nat) (l : List Nat) (hl : l.length ≤ 1000000) (w : World) (h : IsBytes w B0 A l) (hB : B0 ≤ w.heap.size) :
    Calls Tryz.prog 82 #[.slice A l.length c] w fun e w' => e = .returned (.pointer (some ⟨w.heap.size, 0, none⟩)) ∧ RefR w' w.heap.size w'.heap.size l 0 false ∧ Below w.heap.size w w' := by
  obtain ⟨i0, hi, hz0, hz1, hz2⟩ := info_parts info_u8
  go_enter Tryz.func82, Tryz.ntmps82
  go_wp2
  go_loopw [4] (fun i wr => ∃ k : Nat, ∃ A5 : Option Addr, ∃ c5 : Nat, k ≤ l.length ∧ i = .int .i64 k ∧ Hid (wr.heap[w.heap.size]? = some (.cells #[.slice A5 k c5, .int .i64 0, .bool false] 110 (0, 0))) ∧ OwnsB 5 wr (w.heap.size + 1) A5 c5 (l.take k) ∧ Below w.heap.size w wr ∧ w.heap.size < wr.heap.size) (fun i _ => l.length - (RowKit.intOf i).toNat)
  case atStart => exact ⟨0, none, 0, by omega, rfl, heap_alloc_new w _, OwnsB.nil _ _ _, (Below.refl _ _).alloc (Nat.le_refl _) _, by simp⟩
  case round =>
    obtain ⟨k, A5, c5, hk, rfl, hh, hown, hbel, hsz⟩ := hrel
    have hlk : (l.take k).length = k := by rw [List.length_take]; omega
    have HLK := hid hlk
    clear hlk
    by_cases hlt : k < l.length
    · have hc0 : wr.cell? ⟨w.heap.size, 0, none⟩ = some (.slice A5 k c5) := row_cell hh.out 0
      have hf0 : wr.frozen? ⟨w.heap.size, 0, none⟩ = false := row_free hh.out 0
      obtain ⟨b, off, rfl, hb, hcell⟩ := (h.below (hbel.mono hB)).cells k hlt
      have hck := hcell k hlt
      have hb8 := h.small l[k] (List.getElem_mem _)
      have hk0 : (k : Int) < (l.length : Int) := by omega
      have hk00 : 0 ≤ (k : Int) := by omega
      have hk5 : k + 1 ≤ 140737488355328 := by omega
      have HD : Hid (l.take k ++ [l[k]] = l.take (k + 1)) := (List.take_succ_eq_append_getElem hlt).symm
      clear hcell
      go_wp2
      have hcA : Hid (∀ o, (wr.alloc o).drew.cell? ⟨w.heap.size, 0, none⟩ = some (.slice A5 k c5)) := fun o => (World.cell?_alloc_lt wr o ⟨w.heap.size, 0, none⟩ hsz).trans hc0
      have hfA : Hid (∀ o, (wr.alloc o).drew.frozen? ⟨w.heap.size, 0, none⟩ = false) := fun o => (frozen_alloc_lt wr o ⟨w.heap.size, 0, none⟩ hsz).trans hf0
      have HHA : Hid (∀ o, (wr.alloc o).drew.heap[w.heap.size]? = some (.cells #[.slice A5 k c5, .int .i64 0, .bool false] 110 (0, 0))) := fun o => (Below.heap_alloc wr o _ hsz).trans hh.out
      go_region_law ((refine step_append_byteN (by rfl) _ _ 31 (by rfl) (w.heap.size + 1) 5 i0 Tryz.underlying31 hi hz0 hz1 hz2 A5 c5 (l.take k) k HLK.out (by rfl) ((hown.alloc _).drew) ⟨wr.heap.size, 0, none⟩ 1 l[k] _ (by rfl) hb8 (by rfl) (by simp) (l.take (k + 1)) HD.out hk5 (by simp; omega) ?_; intro A6 c6 w6 hown6 hbel6 hgr6 hat6; have hc6 := (hbel6.cell (p := ⟨w.heap.size, 0, none⟩) (by simp)).trans (hcA.out _); have hf6 := (hbel6.frozen (p := ⟨w.heap.size, 0, none⟩) (by simp)).trans (hfA.out _)))
      all_goals
        have hh6 : w6.heap[w.heap.size]? = some (.cells #[.slice A5 k c5, .int .i64 0, .bool false] 110 (0, 0)) := (hbel6.block w.heap.size (by omega)).trans (HHA.out _)
        have HO : Hid ((w6.setCell ⟨w.heap.size, 0, none⟩ (.slice A6 (k + 1) c6)).heap[w.heap.size]? = some (.cells #[.slice A6 (k + 1) c6, .int .i64 0, .bool false] 110 (0, 0))) := row_set hh6 0 _
        have hb6 : Below w.heap.size w w6 := (((hbel.alloc hbel.size _).drew).trans (hbel6.mono (by omega)))
        have hsz6 : w.heap.size < w6.heap.size := row_lt hh6
        have HP : Hid (OwnsB 5 (w6.setCell ⟨w.heap.size, 0, none⟩ (.slice A6 (k + 1) c6)) (w.heap.size + 1) A6 c6 (l.take (k + 1)) ∧ Below w.heap.size w (w6.setCell ⟨w.heap.size, 0, none⟩ (.slice A6 (k + 1) c6)) ∧ w.heap.size < (w6.setCell ⟨w.heap.size, 0, none⟩ (.slice A6 (k + 1) c6)).heap.size) :=
          ⟨hown6.grown (grown_setCell w6 w.heap.size 0 _) (fun k hk => by injection hk with hk; omega), hb6.setCell (Nat.le_refl _) _, by simp [World.setCell]; exact hsz6⟩
        clear hown hown6 hbel6 hgr6 hat6 hc6 hf6 hh6 hb6 hbel hc0 hf0 hck HHA hcA hfA
        go_wp2
        go_roundw
        case rel => exact ⟨k + 1, A6, c6, by omega, by go_num, HO.out, HP.out.1, HP.out.2.1, HP.out.2.2⟩
        case measure => simp [RowKit.intOf] <;> omega
    · obtain rfl : k = l.length := by omega
      have HO : Hid (RefR wr w.heap.size wr.heap.size l 0 false) := by
        rw [List.take_length] at hown
        exact ⟨⟨A5, c5, hh.out, hown, fun k hk => (hown.blkLt k hk).2⟩, Nat.zero_le _, hl, hsz, Nat.le_refl _⟩
      clear hown hlt hk
      go_wp2
      go_ret
      exact ⟨rfl, HO.out, hbel⟩
end Go.Proofs.YtfkjahpcpmcefaaGreat
