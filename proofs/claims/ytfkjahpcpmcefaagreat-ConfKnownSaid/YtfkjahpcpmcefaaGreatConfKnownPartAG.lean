/- Texts of the proof, one behind the other: CfOh, QuA, QuE, CfZ, RegAll, CfSf, CfSg, CfCk. -/
import Derived.Test.YtfkjahpcpmcefaaGreatConfKnownPartAF
import Derived.Test.YtfkjahpcpmcefaaGreatConfKnownPartAA
import Derived.Shelf.Abstract
import Derived.Maps.OwnSet
import Derived.Maps.OwnOps
import Derived.Maps.AppendAt
import Derived.Test.YtfkjahpcpmcefaaGreatConfKnownPartAE
import Derived.BigQuiet
import Derived.Deep.CutRange
namespace Go.Proofs.YtfkjahpcpmcefaaGreat.Im
open Go.RowKit
open Rl (En Lg)
open Qu (Cf)
set_option maxRecDepth 100000
set_option linter.unusedVariables false
attribute [local go_sem ↓] loadAt_hard storeAt_hard
def bigPT (p : Pt) : Bool := big p.log.es 2000 65536 || bigCf p.cf 2000 || decide (65536 < p.sn.length)
set_option maxHeartbeats 1600000 in
theorem bigHardT_any (x : Hd) (ad : Ad) (w : World) (h : IsPt w w.heap.size x.p ad) :
    Calls Tryz.prog 27 #[.agg #[.int .i64 x.g, .int .i64 x.t, .int .i64 x.v, .int .i64 x.p.log.base, .int .i64 x.p.log.term, .slice ad.e x.p.log.es.length ad.ce, .slice ad.o x.p.cf.old.length ad.co, .slice ad.n x.p.cf.new.length ad.cn, .slice ad.l x.p.cf.lrn.length ad.cl, .slice ad.s x.p.sn.length ad.cs], .int .i64 2000, .int .i64 65536] w fun e w' => e = .returned (.bool (bigPT x.p)) ∧ Below w.heap.size w w' := by
  obtain ⟨w1, hw1⟩ : ∃ w1, w1 = w.alloc (.cells #[.int .i64 x.g, .int .i64 x.t, .int .i64 x.v, .int .i64 x.p.log.base, .int .i64 x.p.log.term, .slice ad.e x.p.log.es.length ad.ce, .slice ad.o x.p.cf.old.length ad.co, .slice ad.n x.p.cf.new.length ad.cn, .slice ad.l x.p.cf.lrn.length ad.cl, .slice ad.s x.p.sn.length ad.cs] 38) := ⟨_, rfl⟩
  have r1 : w1.heap[w.heap.size]? = some (.cells #[.int .i64 x.g, .int .i64 x.t, .int .i64 x.v, .int .i64 x.p.log.base, .int .i64 x.p.log.term, .slice ad.e x.p.log.es.length ad.ce, .slice ad.o x.p.cf.old.length ad.co, .slice ad.n x.p.cf.new.length ad.cn, .slice ad.l x.p.cf.lrn.length ad.cl, .slice ad.s x.p.sn.length ad.cs] 38 (0, 0)) := by rw [hw1]; exact heap_alloc_new w _
  have b1 : Below w.heap.size w w1 := by rw [hw1]; exact hard_new w x ad
  have c5 : w1.cell? ⟨w.heap.size, 5, none⟩ = some (.slice ad.e x.p.log.es.length ad.ce) := row_cell r1 5
  have HE := hid (big_any w.heap.size ad.e ad.ce x.p.log.es.length x.p.log.es rfl 2000 65536 (by decide) (by decide) w1 (h.es.below b1))
  have HR := hid (And.intro r1 b1)
  rw [hw1] at c5
  clear r1 b1 h
  go_enter Tryz.func27, Tryz.ntmps27
  go_wp2_with fail
  rw [← hw1]
  clear hw1 c5
  refine HE.out.mono ?_
  rintro e w2 ⟨rfl, hw2⟩
  subst hw2
  obtain ⟨b, hb⟩ : ∃ b, big x.p.log.es 2000 65536 = b := ⟨_, rfl⟩
  rw [hb]
  cases b with
  | true =>
    have HV : Hid (bigPT x.p = true) := hid (by unfold bigPT; rw [hb]; rfl)
    clear hb
    go_wp2_with fail
    go_ret
    rw [HV.out]
    exact ⟨rfl, HR.out.2⟩
  | false =>
    have c6 : w2.cell? ⟨w.heap.size, 6, none⟩ = some (.slice ad.o x.p.cf.old.length ad.co) := row_cell HR.out.1 6
    have c7 : w2.cell? ⟨w.heap.size, 7, none⟩ = some (.slice ad.n x.p.cf.new.length ad.cn) := row_cell HR.out.1 7
    have c8 : w2.cell? ⟨w.heap.size, 8, none⟩ = some (.slice ad.l x.p.cf.lrn.length ad.cl) := row_cell HR.out.1 8
    have HC := hid (bigConf_any ad.o ad.n ad.l x.p.cf.old.length x.p.cf.new.length x.p.cf.lrn.length ad.co ad.cn ad.cl 2000 (by decide) w2)
    have HX := hid hb
    clear hb
    go_wp2_with fail
    refine HC.out.mono ?_
    rintro e w3 ⟨rfl, hb3⟩
    obtain ⟨b2, hb2⟩ : ∃ b2, bigCf x.p.cf 2000 = b2 := ⟨_, rfl⟩
    rw [show (decide (2000 < x.p.cf.old.length) || decide (2000 < x.p.cf.new.length) || decide (2000 < x.p.cf.lrn.length)) = b2 from hb2]
    have r3 := (hb3.block _ (row_lt HR.out.1)).trans HR.out.1
    have c9 : w3.cell? ⟨w.heap.size, 9, none⟩ = some (.slice ad.s x.p.sn.length ad.cs) := row_cell r3 9
    have HB3 := hid (HR.out.2.trans (hb3.mono HR.out.2.size))
    cases b2 with
    | true =>
      have HV : Hid (bigPT x.p = true) := hid (by unfold bigPT; rw [HX.out, hb2]; rfl)
      clear hb2 r3 hb3
      go_wp2_with fail
      go_ret
      rw [HV.out]
      exact ⟨rfl, HB3.out⟩
    | false =>
      have HV : Hid (bigPT x.p = decide ((65536 : Int) < (x.p.sn.length : Int))) := hid (by unfold bigPT; rw [HX.out, hb2]; simp only [Bool.false_or]; exact decide_eq_decide.2 (by omega))
      clear hb2 r3 hb3
      go_wp2_with fail
      go_ret
      rw [HV.out]
      exact ⟨rfl, HB3.out⟩
end Go.Proofs.YtfkjahpcpmcefaaGreat.Im
namespace Go.Proofs.YtfkjahpcpmcefaaGreat.Co
open Go Go.RowKit
open Qu (Cf)
open Rl (En Lg)
open Im (Ad Hd Pt IsPt)
set_option maxRecDepth 100000
set_option linter.unusedVariables false
attribute [local go_sem ↓] Im.loadAt_conf3 Im.storeAt_conf3 Im.loadAt_hard Im.storeAt_hard Im.loadAt_log1 Im.storeAt_log1
theorem inC_pt {w : World} {B : Nat} {x : Hd} {a : Ad} (h : IsPt w B x.p a) : InC w B x.p.cf (mOf x a) := ⟨h.cis, rfl, rfl, rfl⟩
structure OfOk (x : Hd) : Prop where
  big : Im.bigPT x.p = false
  q : ∀ e ∈ x.p.log.es, Quiet e ∧ e.d.length ≤ 65536
  b : 0 ≤ x.p.log.base ∧ x.p.log.base ≤ 1099511627776
  t : 0 ≤ x.p.log.term ∧ x.p.log.term ≤ 1099511627776
  k : x.p.log.es.length ≤ 1000 ∧ Short x.p.cf ∧ x.p.sn.length ≤ 65536
theorem box_hard {w v : World} {x : Hd} {a : Ad} (h : v = w.alloc (.cells #[.int .i64 x.g, .int .i64 x.t, .int .i64 x.v, .int .i64 x.p.log.base, .int .i64 x.p.log.term, .slice a.e x.p.log.es.length a.ce, .slice a.o x.p.cf.old.length a.co, .slice a.n x.p.cf.new.length a.cn, .slice a.l x.p.cf.lrn.length a.cl, .slice a.s x.p.sn.length a.cs] 38)) : v.heap[w.heap.size]? = some (.cells #[.int .i64 x.g, .int .i64 x.t, .int .i64 x.v, .int .i64 x.p.log.base, .int .i64 x.p.log.term, .slice a.e x.p.log.es.length a.ce, .slice a.o x.p.cf.old.length a.co, .slice a.n x.p.cf.new.length a.cn, .slice a.l x.p.cf.lrn.length a.cl, .slice a.s x.p.sn.length a.cs] 38 (0, 0)) ∧ Below w.heap.size w v ∧ v.heap.size = w.heap.size + 1 ∧
    (Im.stX 38 (.pointer (some ⟨w.heap.size, 0, none⟩)) (.agg #[.int .i64 x.g, .int .i64 x.t, .int .i64 x.v, .int .i64 x.p.log.base, .int .i64 x.p.log.term, .slice a.e x.p.log.es.length a.ce, .slice a.o x.p.cf.old.length a.co, .slice a.n x.p.cf.new.length a.cn, .slice a.l x.p.cf.lrn.length a.cl, .slice a.s x.p.sn.length a.cs])).run Tryz.prog (w.alloc (.cells #[.int .i64 0, .int .i64 0, .int .i64 0, .int .i64 0, .int .i64 0, .slice none 0 0, .slice none 0 0, .slice none 0 0, .slice none 0 0, .slice none 0 0] 38)) = .ok () v := by
  subst h
  exact ⟨heap_alloc_new _ _, below_new _ _, by simp, Im.stNew w _ 10 Im.info_hard _ _ rfl rfl (by simp [Value.oneCell'])⟩
set_option maxHeartbeats 6400000 in
theorem confOf_any (x : Hd) (a : Ad) (hx : OfOk x) (w : World) (h : IsPt w w.heap.size x.p a) :
    Calls Tryz.prog 8 #[.agg #[.int .i64 x.g, .int .i64 x.t, .int .i64 x.v, .int .i64 x.p.log.base, .int .i64 x.p.log.term, .slice a.e x.p.log.es.length a.ce, .slice a.o x.p.cf.old.length a.co, .slice a.n x.p.cf.new.length a.cn, .slice a.l x.p.cf.lrn.length a.cl, .slice a.s x.p.sn.length a.cs]] w fun e w' => e = .returned (.bool true) ∧ Below w.heap.size w w' := by
  obtain ⟨w1, hw1⟩ : ∃ w1, w1 = w.alloc (.cells #[.int .i64 x.g, .int .i64 x.t, .int .i64 x.v, .int .i64 x.p.log.base, .int .i64 x.p.log.term, .slice a.e x.p.log.es.length a.ce, .slice a.o x.p.cf.old.length a.co, .slice a.n x.p.cf.new.length a.cn, .slice a.l x.p.cf.lrn.length a.cl, .slice a.s x.p.sn.length a.cs] 38) := ⟨_, rfl⟩
  have r1 := (box_hard hw1).1
  have b1 := (box_hard hw1).2.1
  have z1 := (box_hard hw1).2.2.1
  have HX := hid hx
  obtain ⟨bs, hbs⟩ : ∃ b, b = x.p.log.base := ⟨_, rfl⟩
  obtain ⟨tm, htm⟩ : ∃ b, b = x.p.log.term := ⟨_, rfl⟩
  have f1 : ¬ bs < 0 := by have := hx.b; omega
  have f2 : ¬ 1099511627776 < bs := by have := hx.b; omega
  have f3 : ¬ tm < 0 := by have := hx.t; omega
  have f4 : ¬ 1099511627776 < tm := by have := hx.t; omega
  have ld0 := Im.ldLogH (k := 3) r1 rfl rfl rfl
  rw [← hbs, ← htm] at ld0
  rw [hw1] at ld0
  obtain ⟨v1, hv1⟩ : ∃ v1, v1 = w1.alloc (.cells #[.int .i64 bs, .int .i64 tm, .slice a.e x.p.log.es.length a.ce] 36) := ⟨_, rfl⟩
  have st1 := Im.stNew w1 36 3 Im.info_log33 #[.int .i64 0, .int .i64 0, .slice none 0 0] #[.int .i64 bs, .int .i64 tm, .slice a.e x.p.log.es.length a.ce] rfl rfl (by simp [Value.oneCell'])
  rw [← hv1, hw1, World.size_alloc] at st1
  have hb01 : Below w1.heap.size w1 v1 := by rw [hv1]; exact below_new _ _
  have zv : v1.heap.size = w1.heap.size + 1 := by rw [hv1]; simp
  have rl : v1.heap[w1.heap.size]? = some (.cells #[.int .i64 bs, .int .i64 tm, .slice a.e x.p.log.es.length a.ce] 36 (0, 0)) := by rw [hv1]; exact heap_alloc_new _ _
  have HK1 : Hid (∀ W, Below v1.heap.size v1 W → W.heap[w.heap.size]? = some (.cells #[.int .i64 x.g, .int .i64 x.t, .int .i64 x.v, .int .i64 x.p.log.base, .int .i64 x.p.log.term, .slice a.e x.p.log.es.length a.ce, .slice a.o x.p.cf.old.length a.co, .slice a.n x.p.cf.new.length a.cn, .slice a.l x.p.cf.lrn.length a.cl, .slice a.s x.p.sn.length a.cs] 38 (0, 0)) ∧ IsPt W w.heap.size x.p a ∧ Below w.heap.size w W) := hid (fun W hb => by
    have hl := b1.trans ((hb01.trans (hb.mono hb01.size)).mono b1.size)
    exact ⟨(((hb01.trans (hb.mono hb01.size)).block _ (by omega)).trans r1), h.below hl, hl⟩)
  have q1 := HK1.out v1 (Below.refl _ _)
  have c0 := cell_of_row v1 w1.heap.size 0 _ _ _ rl
  have c1 := cell_of_row v1 w1.heap.size 1 _ _ _ rl
  rw [hw1, World.size_alloc] at c0 c1
  have ld1 := Im.ldRow Im.info_hard Tryz.underlying38 rfl q1.1 rfl
  have HBG := hid (Im.bigHardT_any x a v1 (q1.2.1.more q1.2.2.size))
  rw [hx.big] at HBG
  have HSB := hid hbs
  clear r1 b1 z1 hb01 zv rl q1 hx h htm hbs hw1 hv1
  go_enter Tryz.func8, Tryz.ntmps8
  go_wp2_with fail
  refine HBG.out.mono ?_
  rintro e w2 ⟨rfl, hb2⟩
  have HB2 := hid hb2
  have ld2 := Im.ldRow Im.info_hard Tryz.underlying38 rfl (HK1.out w2 hb2).1 rfl
  clear hb2 ld0 st1 c0 c1 ld1 HBG f1 f2 f3 f4
  go_wp2_with fail
  have q2 := HK1.out w2 HB2.out
  refine (Im.copyH_any x a ⟨⟨by have := HX.out.k.1; omega, HX.out.k.2.1⟩, fun e he => (HX.out.q e he).2⟩ (by have := HX.out.k.2.2; omega) w2 (q2.2.1.more q2.2.2.size)).mono ?_
  rintro e w3 ⟨a', rfl, ho3, hb3⟩
  obtain ⟨v3, hv3⟩ : ∃ v3, v3 = w3.alloc (.cells #[.int .i64 x.g, .int .i64 x.t, .int .i64 x.v, .int .i64 x.p.log.base, .int .i64 x.p.log.term, .slice a'.e x.p.log.es.length a'.ce, .slice a'.o x.p.cf.old.length a'.co, .slice a'.n x.p.cf.new.length a'.cn, .slice a'.l x.p.cf.lrn.length a'.cl, .slice a'.s x.p.sn.length a'.cs] 38) := ⟨_, rfl⟩
  have st3 := (box_hard hv3).2.2.2
  have HK3 : Hid (∀ W, Below v3.heap.size v3 W → W.heap[w3.heap.size]? = some (.cells #[.int .i64 x.g, .int .i64 x.t, .int .i64 x.v, .int .i64 x.p.log.base, .int .i64 x.p.log.term, .slice a'.e x.p.log.es.length a'.ce, .slice a'.o x.p.cf.old.length a'.co, .slice a'.n x.p.cf.new.length a'.cn, .slice a'.l x.p.cf.lrn.length a'.cl, .slice a'.s x.p.sn.length a'.cs] 38 (0, 0)) ∧ IsPt W w3.heap.size x.p a' ∧ Below v1.heap.size v1 W ∧ w3.heap.size + 1 ≤ W.heap.size) := hid (fun W hb => by
    obtain ⟨g1, g2, g3, _⟩ := box_hard hv3
    have hl := g2.trans (hb.mono g2.size)
    exact ⟨(hb.block _ (by omega)).trans g1, ho3.reads.below hl, HB2.out.trans ((hb3.trans (hl.mono hb3.size)).mono HB2.out.size), by have := hb.size; omega⟩)
  have ld3 := Im.ldRow Im.info_hard Tryz.underlying38 rfl (HK3.out v3 (Below.refl _ _)).1 rfl
  clear ho3 hb3 hv3 q2 ld2
  go_wp2_with fail
  have q3 := HK3.out v3 (Below.refl _ _)
  have HOF : Hid (∀ W, Below v3.heap.size v3 W → Calls Tryz.prog 29 #[.agg #[.int .i64 x.g, .int .i64 x.t, .int .i64 x.v, .int .i64 x.p.log.base, .int .i64 x.p.log.term, .slice a'.e x.p.log.es.length a'.ce, .slice a'.o x.p.cf.old.length a'.co, .slice a'.n x.p.cf.new.length a'.cn, .slice a'.l x.p.cf.lrn.length a'.cl, .slice a'.s x.p.sn.length a'.cs]] W (GotE W x.p.cf bs)) := hid (fun W hb => by
    rw [HSB.out]
    have q := HK3.out W hb
    have hI := q.2.1.more (show w3.heap.size ≤ W.heap.size by omega)
    exact of_any x a' W hI.es HX.out.k.1 hI.re.1 HX.out.q (inC_pt hI) HX.out.k.2.1 HX.out.b)
  refine (HOF.out v3 (Below.refl _ _)).mono ?_
  rintro e w4 ⟨m1, rfl, ho4, hb4⟩
  obtain ⟨v4, hv4⟩ : ∃ v4, v4 = w4.alloc (.cells #[.slice m1.a0 m1.n0 m1.k0, .slice m1.a1 m1.n1 m1.k1, .slice m1.a2 m1.n2 m1.k2] 24) := ⟨_, rfl⟩
  have st4 := (box_new hv4).2.2.2
  have HK4 : Hid (∀ W, Below v4.heap.size v4 W → Bx W w4.heap.size 24 m1 ∧ OwnC W v3.heap.size w4.heap.size x.p.cf m1 ∧ Below v3.heap.size v3 W ∧ w4.heap.size + 1 ≤ W.heap.size) := hid (fun W hb => by
    have q := box_keep ho4 hv4 W hb
    exact ⟨q.1, q.2.1, hb4.trans (q.2.2.1.mono hb4.size), q.2.2.2⟩)
  have HZ4 : Hid (v4.heap.size = w4.heap.size + 1 ∧ v3.heap.size ≤ w4.heap.size) := hid ⟨by rw [hv4]; simp, hb4.size⟩
  have ld4 := Im.ldRow Im.info_hard Tryz.underlying38 rfl (HK3.out v4 (HK4.out v4 (Below.refl _ _)).2.2.1).1 rfl
  clear ho4 hb4 hv4 q3 ld3 st3
  go_wp2_with fail
  refine (HOF.out v4 (HK4.out v4 (Below.refl _ _)).2.2.1).mono ?_
  rintro e w5 ⟨m2, rfl, ho5, hb5⟩
  obtain ⟨v5, hv5⟩ : ∃ v5, v5 = w5.alloc (.cells #[.slice m2.a0 m2.n0 m2.k0, .slice m2.a1 m2.n1 m2.k1, .slice m2.a2 m2.n2 m2.k2] 24) := ⟨_, rfl⟩
  have st5 := (box_new hv5).2.2.2
  have HK5 : Hid (∀ W, Below v5.heap.size v5 W → Bx W w5.heap.size 24 m2 ∧ OwnC W v4.heap.size w5.heap.size x.p.cf m2 ∧ Below v4.heap.size v4 W ∧ w5.heap.size + 1 ≤ W.heap.size) := hid (fun W hb => by
    have q := box_keep ho5 hv5 W hb
    exact ⟨q.1, q.2.1, hb5.trans (q.2.2.1.mono hb5.size), q.2.2.2⟩)
  have HZ5 : Hid (v4.heap.size ≤ w5.heap.size ∧ w5.heap.size + 1 ≤ v5.heap.size) := hid ⟨hb5.size, by rw [hv5]; simp⟩
  have ld5 := Im.ldRow Im.info_hard Tryz.underlying38 rfl (HK1.out v5 (HK3.out v5 (HK4.out v5 (HK5.out v5 (Below.refl _ _)).2.2.1).2.2.1).2.2.1).1 rfl
  clear ho5 hb5 hv5 ld4 st4
  go_wp2_with fail
  have q5 := HK1.out v5 (HK3.out v5 (HK4.out v5 (HK5.out v5 (Below.refl _ _)).2.2.1).2.2.1).2.2.1
  have HRF : Hid (Calls Tryz.prog 30 #[.agg #[.int .i64 x.g, .int .i64 x.t, .int .i64 x.v, .int .i64 x.p.log.base, .int .i64 x.p.log.term, .slice a.e x.p.log.es.length a.ce, .slice a.o x.p.cf.old.length a.co, .slice a.n x.p.cf.new.length a.cn, .slice a.l x.p.cf.lrn.length a.cl, .slice a.s x.p.sn.length a.cs]] v5 (GotE v5 x.p.cf bs)) := hid (by
    rw [HSB.out]
    exact refOf_any x a v5 (q5.2.1.more q5.2.2.size).es HX.out.k.1 HX.out.q (inC_pt (q5.2.1.more q5.2.2.size)) HX.out.k.2.1 HX.out.b)
  refine HRF.out.mono ?_
  rintro e w6 ⟨m3, rfl, ho6, hb6⟩
  obtain ⟨v6, hv6⟩ : ∃ v6, v6 = w6.alloc (.cells #[.slice m3.a0 m3.n0 m3.k0, .slice m3.a1 m3.n1 m3.k1, .slice m3.a2 m3.n2 m3.k2] 24) := ⟨_, rfl⟩
  have st6 := (box_new hv6).2.2.2
  have HK6 : Hid (∀ W, Below v6.heap.size v6 W → Bx W w6.heap.size 24 m3 ∧ OwnC W v5.heap.size w6.heap.size x.p.cf m3 ∧ (Bx W w5.heap.size 24 m2 ∧ OwnC W v4.heap.size w5.heap.size x.p.cf m2) ∧ (Bx W w4.heap.size 24 m1 ∧ OwnC W v3.heap.size w4.heap.size x.p.cf m1) ∧ Below v3.heap.size v3 W ∧ w6.heap.size + 1 ≤ W.heap.size ∧ w5.heap.size + 1 ≤ w6.heap.size) := hid (fun W hb => by
    have q := box_keep ho6 hv6 W hb
    have k5 := HK5.out W (hb6.trans (q.2.2.1.mono hb6.size))
    have k4 := HK4.out W k5.2.2.1
    have := (HK5.out v5 (Below.refl _ _)).2.2.2
    exact ⟨q.1, q.2.1, ⟨k5.1, k5.2.1⟩, ⟨k4.1, k4.2.1⟩, k4.2.2.1, q.2.2.2, by have := hb6.size; omega⟩)
  have e1 : (bs != bs) = false := by simp
  have q6 := HK6.out v6 (Below.refl _ _)
  have l1 := q6.2.2.2.1.1.ld
  have l3 := q6.1.ld
  have HSA := hid (sameConf_M w4.heap.size w6.heap.size x.p.cf HX.out.k.2.1 m1 m3 v6 q6.2.2.2.1.2.inC q6.2.1.inC (by have := HZ4.out; have := HZ5.out; omega) (by omega))
  clear ho6 hb6 hv6 q5 q6 HRF HOF ld5 st5
  go_wp2_with fail
  refine HSA.out.mono ?_
  rintro e y1 ⟨rfl, hy1⟩
  have k1 := HK6.out y1 hy1
  have l1b := k1.2.2.2.1.1.ld
  have H1 := hid k1
  clear k1 hy1 l1 l3 HSA st6
  go_wp2_with fail
  refine (spoil_any (fun k => v3.heap.size ≤ k ∧ k < w4.heap.size) _ _ x.p.cf m1 y1 H1.out.2.2.2.1.2 (fun k h1 h2 => ⟨h1, h2⟩)).mono ?_
  rintro e y2 ⟨rfl, ht2⟩
  have z4 := HZ4.out
  have z5 := HZ5.out
  have hL : Below v3.heap.size v3 y2 := H1.out.2.2.2.2.1.trans (ht2.below H1.out.2.2.2.2.1.size (fun k hk => hk.1))
  have x2 := H1.out.2.2.1.1.turned ht2 (fun hk => by omega)
  have o2 := (H1.out.2.2.1.2.turned ht2 (fun k hk => by omega)).inC
  have hsz : y1.heap.size ≤ y2.heap.size := ht2.size
  have x3 := H1.out.1.turned ht2 (fun hk => by have := H1.out.2.2.2.2.2.2; omega)
  have o3 := (H1.out.2.1.turned ht2 (fun k hk => by omega)).inC
  have lb := x2.ld
  have lc := x3.ld
  have HSB2 := hid (sameConf_M w5.heap.size w6.heap.size x.p.cf HX.out.k.2.1 m2 m3 y2 o2 o3 (by have := H1.out.2.2.2.2.2; omega) (by have := H1.out.2.2.2.2.2; omega))
  have HL2 := hid hL
  clear hL x2 o2 x3 o3 ht2 l1b z4 z5
  go_wp2_with fail
  refine HSB2.out.mono ?_
  rintro e y3 ⟨rfl, hy3⟩
  have hL3 : Below v3.heap.size v3 y3 := HL2.out.trans (hy3.mono HL2.out.size)
  have k3 := HK3.out y3 hL3
  have k1 := HK1.out y3 k3.2.2.1
  have la := Im.ldRow Im.info_hard Tryz.underlying38 rfl k3.1 rfl
  have lb2 := Im.ldRow Im.info_hard Tryz.underlying38 rfl k1.1 rfl
  have HSH := hid (Im.sameH_any x a' a ⟨by have := HX.out.k.1; omega, HX.out.k.2.1⟩ y3 (k3.2.1.more (by omega)) (k1.2.1.more k1.2.2.size))
  have H3 := hid hL3
  clear hy3 hL3 k3 k1 lb lc HSB2
  go_wp2_with fail
  refine HSH.out.mono ?_
  rintro e y4 ⟨rfl, hy4⟩
  have H4 := hid (H3.out.trans (hy4.mono H3.out.size))
  clear hy4 la lb2 HSH
  go_wp2_with fail
  refine (works_any y4).mono ?_
  rintro e y5 ⟨rfl, hy5⟩
  have HE := hid (HK1.out y5 (HK3.out y5 (H4.out.trans (hy5.mono H4.out.size))).2.2.1).2.2
  clear hy5
  go_wp2_with fail
  go_ret
  exact ⟨rfl, HE.out⟩
end Go.Proofs.YtfkjahpcpmcefaaGreat.Co
namespace Go.Proofs.YtfkjahpcpmcefaaGreat
open Go.RowKit
set_option maxHeartbeats 400000 in
theorem count_any (g : FuncId) (cb : Array Value) (p : Int → Bool) (w0 : World) (ht0 : Tells g cb p w0) (eg : ∀ args w, (callFunc g args).run Tryz.prog w = .ok (.enter g args) w)
    (B : Nat) (A : Option Addr) (c : Nat) (l : List Int) (hl : l.length ≤ 100000) (w : World) (hw0 : Below w0.heap.size w0 w) (h0 : IsInts w B A l) (hB : B ≤ w.heap.size) :
    Calls Tryz.prog 90 #[.slice A l.length c, .func (.func g) #[] cb] w fun e w' => e = .returned (.int .i64 (l.countP p : Nat)) ∧ Below w.heap.size w w' := by
  have ht := hid ht0
  have hw := hid hw0
  have h := hid h0
  clear ht0 hw0 h0
  go_enter Tryz.func90, Tryz.ntmps90
  go_wp2
  go_loopw [5, 10] (fun n i wr => ∃ k m : Nat, k ≤ l.length ∧ m ≤ k ∧ n = .int .i64 m ∧ i = .int .i64 k ∧ Hid (m = (l.take k).countP p) ∧ Below w.heap.size w wr) (fun _ i _ => l.length - (RowKit.intOf i).toNat)
  case atStart => exact ⟨0, 0, by omega, by omega, rfl, rfl, hid (by simp), Below.refl _ _⟩
  case round =>
    obtain ⟨k, m, hk, hm, rfl, rfl, hc, hbel0⟩ := hrel
    have hbel := hid hbel0
    clear hbel0
    by_cases hlt : k < l.length
    · obtain ⟨b, off, rfl, hb, hcell⟩ := h.out.cells k hlt
      have hck : wr.cell? ⟨b, off + k, none⟩ = some (.int .i64 l[k]) := (hbel.out.cell (p := ⟨b, off + k, none⟩) (by show b < _; omega)).trans (hcell k hlt)
      have hcall := ht.out l[k] (h.out.small _ (List.getElem_mem hlt)) wr (hw.out.trans (hbel.out.mono hw.out.size))
      have hs : (l.take (k + 1)).countP p = (l.take k).countP p + if p l[k] then 1 else 0 := by
        rw [List.take_succ_eq_append_getElem hlt, List.countP_append]; simp
      have HS := hid hs
      clear hcell hs
      cases hp : p l[k]
      · rw [hp] at hcall
        have HP := hid hp
        clear hp
        go_wp2_with (go_at_fn g; refine hcall.mono ?_; rintro e w' ⟨rfl, hb'⟩)
        go_roundw
        case rel => exact ⟨k + 1, m, by omega, by omega, rfl, by go_num, hid (by rw [HS.out, HP.out]; simpa using hc.out), bthen hbel.out hb' hbel.out.size⟩
        case measure => simp [RowKit.intOf]; omega
      · rw [hp] at hcall
        have HP := hid hp
        clear hp
        go_wp2_with (go_at_fn g; refine hcall.mono ?_; rintro e w' ⟨rfl, hb'⟩)
        go_roundw
        case rel => exact ⟨k + 1, m + 1, by omega, by omega, by go_num, by go_num, hid (by rw [HS.out, HP.out, ← hc.out]; rfl), bthen hbel.out hb' hbel.out.size⟩
        case measure => simp [RowKit.intOf]; omega
    · obtain rfl : k = l.length := by omega
      go_wp2
      go_ret
      exact ⟨by rw [hc.out, List.take_length]; rfl, hbel.out⟩
theorem majority_any (g : FuncId) (cb : Array Value) (p : Int → Bool) (w0 : World) (ht : Tells g cb p w0) (eg : ∀ args w, (callFunc g args).run Tryz.prog w = .ok (.enter g args) w)
    (B : Nat) (A : Option Addr) (c : Nat) (l : List Int) (hl : l.length ≤ 100000) (w : World) (hw : Below w0.heap.size w0 w) (h : IsInts w B A l) (hB : B ≤ w.heap.size) :
    Calls Tryz.prog 75 #[.slice A l.length c, .func (.func g) #[] cb] w fun e w' => e = .returned (.bool (Qu.maj l p)) ∧ Below w.heap.size w w' := by
  have hc := count_any g cb p w0 ht eg B A c l hl w hw h hB
  have hle := List.countP_le_length (p := p) (l := l)
  have hmaj : Qu.maj l p = decide ((l.length : Int).tdiv 2 < (l.countP p : Nat)) := by
    unfold Qu.maj
    refine decide_eq_decide.2 ?_
    rw [show ((l.length : Int).tdiv 2) = ((l.length / 2 : Nat) : Int) from rfl]
    omega
  rw [hmaj]
  generalize l.countP p = m at *
  clear hmaj
  go_enter Tryz.func75, Tryz.ntmps75
  go_wp2_with fail
  refine hc.mono ?_
  rintro e w' ⟨rfl, hb⟩
  go_wp2
  go_ret
  exact ⟨rfl, hb⟩
theorem quorum_any (g : FuncId) (cb : Array Value) (p : Int → Bool) (w0 : World) (ht0 : Tells g cb p w0) (eg : ∀ args w, (callFunc g args).run Tryz.prog w = .ok (.enter g args) w)
    (B : Nat) (c : Qu.Cf) (hs0 : Short c) (a0 a1 a2 : Option Addr) (k0 k1 k2 : Nat) (w : World) (hw0 : Below w0.heap.size w0 w) (h0 : CIs w B c a0 a1 a2 k0 k1 k2) (hB : B ≤ w.heap.size) :
    Calls Tryz.prog 49 #[.agg #[.slice a0 c.old.length k0, .slice a1 c.new.length k1, .slice a2 c.lrn.length k2], .func (.func g) #[] cb] w fun e w' => e = .returned (.bool (Qu.quo c p)) ∧ Below w.heap.size w w' := by
  have ht := hid ht0
  have hw := hid hw0
  have h := hid h0
  have hs := hid hs0
  clear ht0 hw0 h0 hs0
  have hq : Qu.quo c p = (Qu.maj c.old p && (c.new.isEmpty || Qu.maj c.new p)) := rfl
  have HQ := hid hq
  clear hq
  go_enter Tryz.func49, Tryz.ntmps49
  go_wp2_with fail
  refine (majority_any g cb p w0 ht.out eg B a0 k0 c.old (by have := hs.out.1; omega) _ (hw.out.alloc hw.out.size _) (h.out.o.below ((Below.refl _ _).alloc hB _)) (by simp; omega)).mono ?_
  rintro e w1 ⟨rfl, hb10⟩
  have hb1 : Hid (Below w.heap.size w w1) := hid (((Below.refl _ _).alloc (Nat.le_refl _) _).trans (hb10.mono (by simp)))
  have hn1 := h.out.n.below (hb1.out.mono hB)
  have hcell : w1.cell? ⟨w.heap.size, 1, none⟩ = some (.slice a1 c.new.length k1) := by
    rw [hb10.cell (by simp)]
    exact cell_of_row _ w.heap.size 1 _ _ _ (heap_alloc_new w _)
  have HM := hid (majority_any g cb p w0 ht.out eg B a1 k1 c.new (by have := hs.out.2.1; omega) w1 (hw.out.trans (hb1.out.mono hw.out.size)) hn1 (by have := hb1.out.size; omega))
  have hlen := hs.out.2.1
  clear hb10 hn1
  cases hm : Qu.maj c.old p
  · have HE := hid hm
    clear hm
    go_wp2
    go_ret
    exact ⟨by rw [HQ.out, HE.out]; rfl, hb1.out⟩
  · have HE := hid hm
    clear hm
    by_cases hn : c.new = []
    · have h00 : c.new.length = 0 := by rw [hn]; rfl
      have HN := hid hn
      clear hn
      rw [h00] at hcell
      go_wp2
      go_ret
      exact ⟨by rw [HQ.out, HE.out, HN.out]; rfl, hb1.out⟩
    · have h00 : 0 < c.new.length := List.length_pos_iff.2 hn
      have h01 : ((c.new.length : Int) == 0) = false := by rw [beq_eq_false_iff_ne]; omega
      have HN := hid hn
      clear hn
      go_wp2_with fail
      refine HM.out.mono ?_
      rintro e w2 ⟨rfl, hb2⟩
      have H2 := hid hb2
      clear hb2
      go_wp2
      go_ret
      exact ⟨by rw [HQ.out, HE.out]; cases hne : c.new with | nil => exact absurd hne HN.out | cons y ys => rfl, bthen hb1.out H2.out hb1.out.size⟩
end Go.Proofs.YtfkjahpcpmcefaaGreat
namespace Go.Proofs.YtfkjahpcpmcefaaGreat
open Go.RowKit Go.Maps
theorem keyI : Keyed Tryz.prog 3 := int_keyed Tryz.underlying3
theorem wfI {x : Int} (h : InInt x) : (Lit.int .i64 x).wf = true := by
  obtain ⟨h1, h2⟩ := h
  simp [Lit.wf, IntKind.min, IntKind.max, IntKind.signed, IntKind.bits]; omega
theorem keyOfI {x : Int} (h : InInt x) : keyOf Tryz.prog 3 (.int .i64 x) = some (.int .i64 x) := keyOf_int_mk Tryz.underlying3 (wfI h)
theorem keyLitI (x : Int) : WideAt.IsKeyLit (.int .i64 x) := by simp [WideAt.IsKeyLit]
theorem zeroUnit (w : World) : (zeroValue 75).run Tryz.prog w = .ok (.agg #[]) w := by kernel_rfl
def SetAt (w : World) (b : Nat) (l : List Int) : Prop := ∃ D : DataW Unit, w.ownsMap Tryz.prog 3 unitElem b l.length D ∧ ∀ x, Maps.has D (.int .i64 x) = decide (x ∈ l)
theorem SetAt.lt {w : World} {b : Nat} {l : List Int} (h : SetAt w b l) : b < w.heap.size := by obtain ⟨D, h1, _⟩ := h; exact h1.lt
theorem SetAt.keep {w w' : World} {b : Nat} {l : List Int} (h : SetAt w b l) (hk : w'.heap[b]? = w.heap[b]?) : SetAt w' b l := by
  obtain ⟨D, ⟨es, clock, hb, r⟩, h2⟩ := h
  exact ⟨D, ⟨es, clock, hk.trans hb, r⟩, h2⟩
theorem SetAt.below {w w' : World} {B b : Nat} {l : List Int} (h : SetAt w b l) (hb : Below B w w') (hlt : b < B) : SetAt w' b l := h.keep (hb.block b hlt)
theorem SetAt.made (w : World) : SetAt (w.alloc (.map #[] 0)) w.heap.size [] := ⟨.map [], World.ownsMap_made _ _ _ _, fun x => by simp [has_eq]⟩
set_option maxRecDepth 100000 in
theorem won1_any (bx b : Nat) (l : List Int) (x : Int) (hx : InInt x) (w : World) (hc : w.cell? ⟨bx, 0, none⟩ = some (.map (some b))) (h : SetAt w b l) :
    Calls Tryz.prog 50 #[.int .i64 x, .pointer (some ⟨bx, 0, none⟩)] w fun e w' => e = .returned (.bool (decide (x ∈ l))) ∧ Below w.heap.size w w' := by
  obtain ⟨D, hown, hD⟩ := h
  have hkey := keyOfI hx
  have hx' := hD x
  have HX := hid hx'
  have HB := hid ((Below.refl w.heap.size w).alloc (Nat.le_refl _) (.cells #[] 75))
  clear hD hx'
  go_enter Tryz.func50, Tryz.ntmps50
  go_wp2_with (first
    | (at_lookup; refine wpList_lookup_own_unit _ rfl _ _ 74 rfl 3 75 keyI Tryz.underlying74 (zeroUnit _) b l.length D rfl hown _ _ rfl hkey ?_)
    | go_in)
  go_ret
  exact ⟨by rw [← HX.out]; rfl, HB.out⟩
theorem three_new (w : World) (o1 o2 o3 : Obj) : (((w.alloc o1).alloc o2).alloc o3).heap[w.heap.size]? = some o1 ∧ (((w.alloc o1).alloc o2).alloc o3).heap[w.heap.size + 1]? = some o2 ∧ (((w.alloc o1).alloc o2).alloc o3).heap[w.heap.size + 2]? = some o3 ∧
    (((w.alloc o1).alloc o2).alloc o3).heap.size = w.heap.size + 3 ∧ Below w.heap.size w (((w.alloc o1).alloc o2).alloc o3) := by
  refine ⟨?_, ?_, ?_, by simp, (((Below.refl _ w).alloc (Nat.le_refl _) _).alloc (by simp) _).alloc (by simp; omega) _⟩
  · rw [Below.heap_alloc _ _ _ (by simp; omega), Below.heap_alloc _ _ _ (by simp)]; exact heap_alloc_new w o1
  · rw [Below.heap_alloc _ _ _ (by simp)]
    have := heap_alloc_new (w.alloc o1) o2
    rwa [World.size_alloc] at this
  · have := heap_alloc_new ((w.alloc o1).alloc o2) o3
    rwa [World.size_alloc, World.size_alloc] at this
set_option maxRecDepth 100000 in
set_option maxHeartbeats 1000000 in
theorem won_any (B : Nat) (c : Qu.Cf) (hs0 : Short c) (a0 a1 a2 ay : Option Addr) (k0 k1 k2 ky : Nat) (yes : List Int) (hy0 : yes.length ≤ 2000) (w : World) (h0 : CIs w B c a0 a1 a2 k0 k1 k2) (hY0 : IsInts w B ay yes) (hB : B ≤ w.heap.size) :
    Calls Tryz.prog 24 #[.agg #[.slice a0 c.old.length k0, .slice a1 c.new.length k1, .slice a2 c.lrn.length k2], .slice ay yes.length ky] w fun e w' => e = .returned (.bool (Qu.won c yes)) ∧ Below w.heap.size w w' := by
  have h := hid h0
  have hs := hid hs0
  have hY := hid hY0
  have hmm := @run_makeMap Tryz.prog
  have hq : Qu.won c yes = Qu.quo c (fun x => decide (x ∈ yes)) := rfl
  rw [hq]
  clear h0 hs0 hY0 hq
  go_enter Tryz.func24, Tryz.ntmps24
  go_wp2_with fail
  obtain ⟨q0, q1, q2, q3, q4⟩ := three_new w (.cells #[.slice a0 c.old.length k0, .slice a1 c.new.length k1, .slice a2 c.lrn.length k2] 24) (.map #[] 0) (.cells #[.map (some (w.heap.size + 1))] 74)
  have qs : SetAt (((w.alloc (.cells #[.slice a0 c.old.length k0, .slice a1 c.new.length k1, .slice a2 c.lrn.length k2] 24)).alloc (.map #[] 0)).alloc (.cells #[.map (some (w.heap.size + 1))] 74)) (w.heap.size + 1) [] := by
    have := SetAt.made (w.alloc (.cells #[.slice a0 c.old.length k0, .slice a1 c.new.length k1, .slice a2 c.lrn.length k2] 24))
    rw [World.size_alloc] at this
    exact this.keep (Below.heap_alloc _ _ _ (by simp))
  have H0 := hid q0
  have H2 := hid q2
  have H3 := hid q3
  have H4 := hid q4
  have HS := hid qs
  clear q0 q1 q2 q3 q4 qs
  go_loopw [11] (fun i wr => ∃ k : Nat, k ≤ yes.length ∧ i = .int .i64 k ∧ Hid (Below w.heap.size w wr) ∧ Hid (w.heap.size + 3 ≤ wr.heap.size) ∧ Hid (wr.heap[w.heap.size]? = some (.cells #[.slice a0 c.old.length k0, .slice a1 c.new.length k1, .slice a2 c.lrn.length k2] 24 (0, 0))) ∧
    Hid (wr.heap[w.heap.size + 2]? = some (.cells #[.map (some (w.heap.size + 1))] 74 (0, 0))) ∧ Hid (SetAt wr (w.heap.size + 1) (yes.take k))) (fun i _ => yes.length - (RowKit.intOf i).toNat)
  case atStart => exact ⟨0, by omega, rfl, H4, hid (Nat.le_of_eq H3.out.symm), H0, H2, by simpa using HS⟩
  case round =>
    clear H0 H2 H3 H4 HS
    obtain ⟨k, hk, rfl, hbel, hsz, hc, hm, hset⟩ := hrel
    have cm : wr.cell? ⟨w.heap.size + 2, 0, none⟩ = some (.map (some (w.heap.size + 1))) := cell_of_row wr (w.heap.size + 2) 0 _ _ _ hm.out
    by_cases hlt : k < yes.length
    · obtain ⟨b, off, rfl, hb, hcell⟩ := hY.out.cells k hlt
      have hck : wr.cell? ⟨b, off + k, none⟩ = some (.int .i64 yes[k]) := (hbel.out.cell (p := ⟨b, off + k, none⟩) (by show b < _; omega)).trans (hcell k hlt)
      obtain ⟨D, hown, hD⟩ := hset.out
      have HD := hid hD
      have HIM := hid hown.isMap
      have hkey := keyOfI (hY.out.small _ (List.getElem_mem hlt))
      have hlen : (yes.take k).length = k := by rw [List.length_take]; omega
      rw [hlen] at hown
      have hbnd : k < maxLen := by unfold maxLen; omega
      have HST := hid (List.take_succ_eq_append_getElem hlt)
      have HLT := hid hlt
      have hkx := keyLitI yes[k]
      generalize yes[k] = x at *
      clear hcell hD hlen hlt
      go_wp2_with (first
        | (at_mapUpdate; refine wpList_mapUpdate_own _ rfl _ _ _ 74 rfl 3 75 keyI Tryz.underlying74 (unitElem (H := Unit)) (w.heap.size + 1) k D rfl hown hbnd _ _ _ rfl rfl hkey _ [] unitElem_mk ?_; intro w1 hown1 hgrow1)
        | go_in)
      have hblk : ∀ j, j < w.heap.size + 3 → j ≠ w.heap.size + 1 → w1.heap[j]? = wr.heap[j]? := fun j hj hne => hgrow1.block j (by have := hsz.out; omega) (fun e => hne (by injection e))
      have HB := hid hblk
      have HO := hid hown1
      have HG := hid hgrow1
      clear hblk hown1 hgrow1 hown
      go_roundw
      case rel =>
        refine ⟨k + 1, by have := HLT.out; omega, by go_num, hid (hbel.out.grown HG.out (by have := hsz.out; omega) (fun j e => by injection e with e; omega)), ?_, hid ((HB.out _ (by omega) (by omega)).trans hc.out), hid ((HB.out _ (by omega) (by omega)).trans hm.out), hid ?_⟩
        · exact hid (Nat.le_trans hsz.out HG.out.size)
        · refine ⟨_, by rw [List.length_take, Nat.min_eq_left (by have := HLT.out; omega)]; exact HO.out, fun y => ?_⟩
          rw [HST.out]
          by_cases hxy : y = x
          · subst hxy
            rw [has_put_same HIM.out hkx]
            simp
          · rw [has_put_other (fun e => hxy (by injection e)), HD.out y]
            simp [hxy]
      case measure => simp [RowKit.intOf]; have := HLT.out; omega
    · obtain rfl : k = yes.length := by omega
      have hset2 : SetAt wr (w.heap.size + 1) yes := by have := hset.out; rwa [List.take_length] at this
      have c0 : wr.cell? ⟨w.heap.size, 0, none⟩ = some (.slice a0 c.old.length k0) := cell_of_row wr w.heap.size 0 _ _ _ hc.out
      have c1 : wr.cell? ⟨w.heap.size, 1, none⟩ = some (.slice a1 c.new.length k1) := cell_of_row wr w.heap.size 1 _ _ _ hc.out
      have c2 : wr.cell? ⟨w.heap.size, 2, none⟩ = some (.slice a2 c.lrn.length k2) := cell_of_row wr w.heap.size 2 _ _ _ hc.out
      have ht : Tells 50 #[.pointer (some ⟨w.heap.size + 2, 0, none⟩)] (fun x => decide (x ∈ yes)) wr := fun x hx w2 hb2 =>
        won1_any (w.heap.size + 2) (w.heap.size + 1) yes x hx w2 ((hb2.cell (by have := hsz.out; show w.heap.size + 2 < _; omega)).trans cm) (hset2.below hb2 hset2.lt)
      have HQ := hid (quorum_any _ _ _ wr ht (enters_of Tryz.func50 (by kernel_rfl) rfl) B c hs.out a0 a1 a2 k0 k1 k2 wr (Below.refl _ _) (h.out.below (hbel.out.mono hB)) (by have := hsz.out; omega))
      clear hset2 ht
      go_wp2_with fail
      refine HQ.out.mono ?_
      rintro e w3 ⟨rfl, hb3⟩
      have HB3 := hid (bthen hbel.out hb3 hbel.out.size)
      clear hb3
      go_wp2
      go_ret
      exact ⟨rfl, HB3.out⟩
end Go.Proofs.YtfkjahpcpmcefaaGreat
namespace Go.Proofs.YtfkjahpcpmcefaaGreat.Co
open Go Go.RowKit
open Qu (Cf)
set_option maxRecDepth 100000
set_option linter.unusedVariables false
attribute [local go_sem ↓] Im.loadAt_conf3 Im.storeAt_conf3 loadAt_mem storeAt_mem
def eqs (b : List Int) (x : Int) (j : Nat) : List Int := (b.take j).filter (fun y => decide (x = y))
theorem eqs_yes {b : List Int} {x : Int} {j : Nat} (h : j < b.length) (he : x = b[j]) : eqs b x (j + 1) = eqs b x j ++ [x] := by
  unfold eqs; rw [List.take_succ_eq_append_getElem h, List.filter_append]; simp [he]
theorem eqs_no {b : List Int} {x : Int} {j : Nat} (h : j < b.length) (he : x ≠ b[j]) : eqs b x (j + 1) = eqs b x j := by
  unfold eqs; rw [List.take_succ_eq_append_getElem h, List.filter_append]; simp [he]
theorem eqs_le (b : List Int) (x : Int) (j : Nat) : (eqs b x j).length ≤ j := Nat.le_trans (List.length_filter_le _ _) (by simp; omega)
theorem both_succ {a b : List Int} {k : Nat} (h : k < a.length) : both (a.take (k + 1)) b = both (a.take k) b ++ eqs b a[k] b.length := by
  unfold both eqs
  rw [List.take_succ_eq_append_getElem h, List.flatMap_append, List.take_length]
  simp
theorem both_len (a b : List Int) : (both a b).length ≤ a.length * b.length := by
  induction a with
  | nil => simp [both]
  | cons x a ih =>
    have : both (x :: a) b = b.filter (fun y => decide (x = y)) ++ both a b := rfl
    rw [this, List.length_append, List.length_cons, Nat.add_mul, Nat.one_mul]
    have := List.length_filter_le (fun y => decide (x = y)) b
    omega
set_option maxHeartbeats 3200000 in
theorem bothL_any (B B' : Nat) (A A' : Option Addr) (c c' n n' : Nat) (l l' : List Int) (hn : n = l.length) (hn' : n' = l'.length) (hl : n * n' ≤ 17000000000000) (hl1 : n ≤ 100000000) (hl2 : n' ≤ 100000000) (w : World) (h : IsInts w B A l) (h' : IsInts w B' A' l') (hB : B ≤ w.heap.size) (hB' : B' ≤ w.heap.size) :
    Calls Tryz.prog 25 #[.slice A n c, .slice A' n' c'] w fun e w' => ∃ A2 c2 q, e = .returned (.slice A2 q c2) ∧ q = (both l l').length ∧ OwnsI 3 w' w.heap.size A2 c2 (both l l') ∧ Below w.heap.size w w' := by
  obtain ⟨i0, hi, hz0, hz1, hz2⟩ := info_parts I.info_int
  have H := hid (And.intro h (And.intro h' (And.intro hB hB')))
  have HN := hid (And.intro hn hn')
  have HLL : Hid (∀ k, k ≤ n → k * n' ≤ 17000000000000) := hid (fun k hk => Nat.le_trans (Nat.mul_le_mul_right _ hk) hl)
  clear h h' hB hB' hn hn' hl
  go_enter Tryz.func25, Tryz.ntmps25
  go_wp2_with fail
  go_loopw [5, 6] (fun v i wr => ∃ (k q : Nat) (A2 : Option Addr) (c2 : Nat), k ≤ n ∧ v = .slice A2 q c2 ∧ i = .int .i64 k ∧ Hid (q = (both (l.take k) l').length ∧ OwnsI 3 wr w.heap.size A2 c2 (both (l.take k) l') ∧ Below w.heap.size w wr)) (fun _ i _ => n - (RowKit.intOf i).toNat)
  case atStart => exact ⟨0, 0, none, 0, by omega, rfl, rfl, hid ⟨rfl, OwnsI.nil _ _ _, Below.refl _ _⟩⟩
  case round =>
    obtain ⟨k, q, A2, c2, hk, rfl, rfl, HR⟩ := hrel
    by_cases hlt : k < n
    · have hkl : k < l.length := by rw [← HN.out.1]; exact hlt
      go_wp2_with fail
      go_loopw [5, 7] (fun v j wx => ∃ (d q : Nat) (A2 : Option Addr) (c2 : Nat), d ≤ n' ∧ v = .slice A2 q c2 ∧ j = .int .i64 d ∧ Hid (q = (both (l.take k) l' ++ eqs l' l[k] d).length ∧ OwnsI 3 wx w.heap.size A2 c2 (both (l.take k) l' ++ eqs l' l[k] d) ∧ Below w.heap.size w wx)) (fun _ j _ => n' - (RowKit.intOf j).toNat)
      case atStart => exact ⟨0, q, A2, c2, by omega, rfl, rfl, hid (by simpa [eqs] using HR.out)⟩
      case round =>
        clear HR
        obtain ⟨d, q, A2, c2, hd, rfl, rfl, HR⟩ := hrel
        by_cases hlt2 : d < n'
        · have hdl : d < l'.length := by rw [← HN.out.2]; exact hlt2
          have hA := (H.out.1.below (HR.out.2.2.mono H.out.2.2.1)).cells k hkl
          have hA' := (H.out.2.1.below (HR.out.2.2.mono H.out.2.2.2)).cells d hdl
          obtain ⟨b, off, rfl, hb, hcell⟩ := hA
          obtain ⟨b', off', rfl, hb', hcell'⟩ := hA'
          have hc1 := hcell k hkl
          have hc2 := hcell' d hdl
          obtain ⟨x, hx⟩ : ∃ x, x = l[k] := ⟨_, rfl⟩
          obtain ⟨y, hy⟩ : ∃ y, y = l'[d] := ⟨_, rfl⟩
          rw [← hx] at hc1
          rw [← hy] at hc2
          have HX := hid (And.intro hx hy)
          clear hcell hcell' hx hy
          by_cases he : x = y
          · have he' : (x == y) = true := by rw [beq_iff_eq]; exact he
            have HE := hid he
            clear he
            go_wp2_with fail
            go_quiet (fail)
            obtain ⟨w9, hw9⟩ : ∃ w9, w9 = wr.drewN nq := ⟨_, rfl⟩
            have hc9 : w9.cell? ⟨b, off + k, none⟩ = some (.int .i64 x) := by rw [hw9]; exact hc1
            have hown : OwnsI 3 w9 w.heap.size A2 c2 (both (l.take k) l' ++ eqs l' l[k] d) := by rw [hw9]; exact HR.out.2.1.drewN _
            have hbel : Below w.heap.size w w9 := by rw [hw9]; exact below_drewN HR.out.2.2 _
            have hbase := hbel.size
            have hln := HR.out.1.symm
            have hxi : InInt x := by rw [HX.out.1]; exact H.out.1.small _ (List.getElem_mem hkl)
            have HS := hid (eqs_yes (x := l[k]) hdl (by rw [← HX.out.1, ← HX.out.2]; exact HE.out))
            have hql : q + 1 ≤ 17000000000000 + 1 + 100000000 := by
              have h1 := both_len (l.take k) l'
              have h2 := eqs_le l' l[k] d
              have h3 := HLL.out k hk
              rw [List.length_take, Nat.min_eq_left (by omega), ← HN.out.2] at h1
              rw [List.length_append] at hln
              omega
            have HXI := hid hxi
            have HBL := hid hbel
            rw [← hw9]
            clear hw9 hc1 hc2 he' hxi hbel
            go_wp2_with (at_builtin; refine wpList_append_intN rfl _ _ 22 rfl w.heap.size 3 i0 Tryz.underlying22 hi hz0 hz1 hz2 A2 c2 (both (l.take k) l' ++ eqs l' l[k] d) q hln rfl (hown.alloc _) ⟨w9.heap.size, 0, none⟩ 1 x HXI.out rfl (by simp) (both (l.take k) l' ++ eqs l' l[k] d ++ [x]) rfl (by omega) (by simp; omega) ?_)
            intro A3 c3 w5 hown5 hbel5
            have H5 := hid (And.intro hown5 ((HBL.out.alloc HBL.out.size _).trans hbel5))
            have HLN := hid hln
            clear hown hown5 hbel5 hc9 hln
            go_wp2
            go_roundw
            case rel => exact ⟨d + 1, q + 1, A3, c3, by omega, rfl, by go_num, hid ⟨by rw [HS.out, ← List.append_assoc, List.length_append, HLN.out]; rfl, by rw [HS.out]; have := H5.out.1; rw [← HX.out.1] at this ⊢; exact this, H5.out.2⟩⟩
            case measure => simp [RowKit.intOf]; omega
          · have he' : (x == y) = false := by rw [beq_eq_false_iff_ne]; exact he
            have HE := hid (eqs_no (x := l[k]) hdl (by rw [← HX.out.1, ← HX.out.2]; exact he))
            clear he
            go_wp2_with fail
            go_quiet (fail)
            go_wp2
            go_roundw
            case rel => exact ⟨d + 1, q, A2, c2, by omega, rfl, by go_num, hid ⟨by rw [HE.out]; exact HR.out.1, by rw [HE.out]; exact HR.out.2.1.drewN _, below_drewN HR.out.2.2 _⟩⟩
            case measure => simp [RowKit.intOf]; omega
        · obtain rfl : d = n' := by omega
          have hend : both (l.take (k + 1)) l' = both (l.take k) l' ++ eqs l' l[k] d := by rw [both_succ hkl, HN.out.2]
          rw [← hend] at HR
          go_wp2_with fail
          go_roundw
          case rel => exact ⟨k + 1, q, A2, c2, by omega, rfl, by go_num, HR⟩
          case measure => simp [RowKit.intOf]; omega
    · obtain rfl : k = n := by omega
      rw [HN.out.1, List.take_length] at HR
      go_wp2_with fail
      go_ret
      exact ⟨A2, c2, q, rfl, HR.out.1, HR.out.2.1, HR.out.2.2⟩
def stp (p : Int) (c : Cf) (n : Int) (f : List Int) : Cf × Bool := if p = 0 then ((add c n).1, (add c n).2 == 0) else if p = 1 then ((drop c n).1, (drop c n).2 == 0) else next c f
set_option maxHeartbeats 3200000 in
theorem stepped_any (B B' : Nat) (c : Cf) (hs : Short c) (m : M3) (how node : Int) (hnode : InInt node) (A' : Option Addr) (n' k' : Nat) (f : List Int) (hn' : n' = f.length) (hl' : n' ≤ 100000) (w : World) (h : InC w B c m) (h' : IsInts w B' A' f) (hB : B ≤ w.heap.size) (hB' : B' ≤ w.heap.size) :
    Calls Tryz.prog 22 #[.agg #[.slice m.a0 m.n0 m.k0, .slice m.a1 m.n1 m.k1, .slice m.a2 m.n2 m.k2], .int .i64 how, .int .i64 node, .slice A' n' k'] w (GotB w (stp (how % 3) c node f).1 (stp (how % 3) c node f).2) := by
  obtain ⟨w2, hw2⟩ : ∃ w2, w2 = (w.alloc (.cells #[.slice m.a0 m.n0 m.k0, .slice m.a1 m.n1 m.k1, .slice m.a2 m.n2 m.k2] 24)).alloc (.cells #[.slice none 0 0, .slice none 0 0, .slice none 0 0] 24) := ⟨_, rfl⟩
  have hq := box2 w 24 m
  rw [← hw2] at hq
  have hld := hq.2.2.1.ld
  have HQ := hid hq
  have HP := hid (pick_some how 3 (by decide) (by decide) w2)
  have hi2 := h.below (hq.1.mono hB)
  have hf2 := h'.below (hq.1.mono hB')
  have hB2 : B ≤ w2.heap.size := by have := hq.2.1; omega
  have hB2' : B' ≤ w2.heap.size := by have := hq.2.1; omega
  have hp0 := Int.emod_nonneg how (show (3 : Int) ≠ 0 by decide)
  have hp1 := Int.emod_lt_of_pos how (show (0 : Int) < 3 by decide)
  obtain ⟨p, hp⟩ : ∃ p, p = how % 3 := ⟨_, rfl⟩
  rw [← hp] at HP hp0 hp1 ⊢
  have HW2 := hid hw2
  have h3 : p = 0 ∨ p = 1 ∨ p = 2 := by omega
  clear h h' hq hB hB' hp hw2 hp0 hp1
  rcases h3 with rfl | rfl | rfl
  · obtain ⟨r, hr⟩ : ∃ r, r = add c node := ⟨_, rfl⟩
    have HC := add_any B c hs m node hnode w2 hi2 hB2
    rw [← hr] at HC
    have HC := hid HC
    have HR : Hid (stp 0 c node f = (r.1, r.2 == 0)) := hid (by unfold stp; rw [if_pos rfl, hr])
    clear hr hi2 hf2
    go_enter Tryz.func22, Tryz.ntmps22
    go_wp2_with fail
    rw [← HW2.out]
    refine HP.out.mono ?_
    rintro e w9 ⟨rfl, rfl⟩
    go_wp2_with fail
    refine HC.out.mono ?_
    rintro e w3 ⟨mr, rfl, hor, hb3⟩
    obtain ⟨v3, hv3⟩ : ∃ v3, v3 = w3.alloc (.cells #[.slice mr.a0 mr.n0 mr.k0, .slice mr.a1 mr.n1 mr.k1, .slice mr.a2 mr.n2 mr.k2] 24) := ⟨_, rfl⟩
    have hst3 := (box_new hv3).2.2.2
    have hk := box_keep hor hv3 v3 (Below.refl _ _)
    have hld3 := hk.1.ld
    have hbx := (HQ.out.2.2.2.below hb3 HQ.out.2.2.2.lt).below hk.2.2.1 (by have := hb3.size; have := HQ.out.2.2.2.lt; omega)
    have hst := hbx.st (m' := mr)
    have H3 := hid (And.intro (hbx.set mr) (got_box (w2 := w2) (b := w.heap.size + 1) (hk.2.1.wide (Nat.le_refl _) (by have := hk.2.2.2; omega)) (HQ.out.1.trans ((hb3.trans (hk.2.2.1.mono hb3.size)).mono HQ.out.1.size)) ⟨by omega, HQ.out.2.2.2.lt⟩))
    clear hor hb3 hv3 hk hbx
    go_wp2_with fail
    refine bodyPost_ret (Im.results_two rfl Im.info_conf33 Tryz.underlying24 rfl _ _ (w.heap.size + 1) _ _ _ rfl H3.out.1 rfl) rfl ?_
    rw [HR.out]
    exact ⟨mr, rfl, H3.out.2.1, H3.out.2.2⟩
  · obtain ⟨r, hr⟩ : ∃ r, r = drop c node := ⟨_, rfl⟩
    have HC := drop_any B c hs m node hnode w2 hi2 hB2
    rw [← hr] at HC
    have HC := hid HC
    have HR : Hid (stp 1 c node f = (r.1, r.2 == 0)) := hid (by unfold stp; rw [if_neg (by decide), if_pos rfl, hr])
    clear hr hi2 hf2
    go_enter Tryz.func22, Tryz.ntmps22
    go_wp2_with fail
    rw [← HW2.out]
    refine HP.out.mono ?_
    rintro e w9 ⟨rfl, rfl⟩
    go_wp2_with fail
    refine HC.out.mono ?_
    rintro e w3 ⟨mr, rfl, hor, hb3⟩
    obtain ⟨v3, hv3⟩ : ∃ v3, v3 = w3.alloc (.cells #[.slice mr.a0 mr.n0 mr.k0, .slice mr.a1 mr.n1 mr.k1, .slice mr.a2 mr.n2 mr.k2] 24) := ⟨_, rfl⟩
    have hst3 := (box_new hv3).2.2.2
    have hk := box_keep hor hv3 v3 (Below.refl _ _)
    have hld3 := hk.1.ld
    have hbx := (HQ.out.2.2.2.below hb3 HQ.out.2.2.2.lt).below hk.2.2.1 (by have := hb3.size; have := HQ.out.2.2.2.lt; omega)
    have hst := hbx.st (m' := mr)
    have H3 := hid (And.intro (hbx.set mr) (got_box (w2 := w2) (b := w.heap.size + 1) (hk.2.1.wide (Nat.le_refl _) (by have := hk.2.2.2; omega)) (HQ.out.1.trans ((hb3.trans (hk.2.2.1.mono hb3.size)).mono HQ.out.1.size)) ⟨by omega, HQ.out.2.2.2.lt⟩))
    clear hor hb3 hv3 hk hbx
    go_wp2_with fail
    refine bodyPost_ret (Im.results_two rfl Im.info_conf33 Tryz.underlying24 rfl _ _ (w.heap.size + 1) _ _ _ rfl H3.out.1 rfl) rfl ?_
    rw [HR.out]
    exact ⟨mr, rfl, H3.out.2.1, H3.out.2.2⟩
  · obtain ⟨r, hr⟩ : ∃ r, r = next c f := ⟨_, rfl⟩
    have HC := next_any B B' c hs m A' n' k' f hn' hl' w2 hi2 hf2 hB2 hB2'
    rw [← hr] at HC
    have HC := hid HC
    have HR : Hid (stp 2 c node f = r) := hid (by unfold stp; rw [if_neg (by decide), if_neg (by decide), hr])
    clear hr hi2 hf2 hn'
    go_enter Tryz.func22, Tryz.ntmps22
    go_wp2_with fail
    rw [← HW2.out]
    refine HP.out.mono ?_
    rintro e w9 ⟨rfl, rfl⟩
    go_wp2_with fail
    refine HC.out.mono ?_
    rintro e w3 ⟨mr, rfl, hor, hb3⟩
    have hbx := HQ.out.2.2.2.below hb3 HQ.out.2.2.2.lt
    have hst := hbx.st (m' := mr)
    have H3 := hid (And.intro (hbx.set mr) (got_box (w2 := w2) (b := w.heap.size + 1) hor (HQ.out.1.trans (hb3.mono HQ.out.1.size)) ⟨by omega, HQ.out.2.2.2.lt⟩))
    clear hor hb3 hbx
    go_wp2_with fail
    refine bodyPost_ret (Im.results_two rfl Im.info_conf33 Tryz.underlying24 rfl _ _ (w.heap.size + 1) _ _ _ rfl H3.out.1 rfl) rfl ?_
    rw [HR.out]
    exact ⟨mr, rfl, H3.out.2.1, H3.out.2.2⟩
end Go.Proofs.YtfkjahpcpmcefaaGreat.Co
namespace Go.Proofs.YtfkjahpcpmcefaaGreat
open Go Go.RowKit
set_option maxRecDepth 100000
set_option linter.unusedVariables false
def ArmO (P : Program) (H : Nat → Gp) (ops : Array Oper) (ds : List Nat) (a0 : Act) (w0 : World) (j : Nat) (o : Oper) : Prop :=
  (o.guard = none ∨ ∃ g d b, o.guard = some (g, b) ∧ edgeB ops o g d = true ∧ ∀ w v, (H g).p w v → v = .bool b) ∧ ∀ a w, Below w0.heap.size w0 w → (∀ s, s ∉ ds → a.eval (.tmp s) = a0.eval (.tmp s)) → (∀ i d, edgeB ops o i d = true → (H i).p w (a.eval (.tmp d))) →
    Goes P a w o.op o.type (fun v w' => (H j).p w' v ∧ Below w.heap.size w w')
section
variable {P : Program} {H : Nat → Gp} {ops : Array Oper} {n : Nat} {a0 : Act} {w0 : World} {Q : Exit → Act → World → Prop}
theorem edge_at {listed : Array Bool} {a : Act} {w : World} (h : Jg H ops n a0 w0 listed a w) {o : Oper} (ha : ∀ e ∈ o.after, Region.binds .any e = true → listed.getD e.on false = true) {k dk : Nat} (hk : edgeB ops o k dk = true) : ∃ ok, ops[k]? = some ok ∧ ok.dst = some dk ∧ listed.getD k false = true := by
  unfold edgeB at hk
  rw [Bool.and_eq_true, decide_eq_true_eq] at hk
  obtain ⟨q, hq, h3⟩ := Array.any_eq_true.1 hk.1
  rw [Bool.and_eq_true, decide_eq_true_eq] at h3
  obtain ⟨ok, hok, hdk⟩ := Option.bind_eq_some_iff.1 hk.2
  exact ⟨ok, hok, hdk, h3.2 ▸ ha _ (Array.getElem_mem hq) h3.1⟩
theorem wpAny_all (hac : acyc ops = true) (hn : (dstsN ops ops.size).Nodup) (hb : ∀ d ∈ dstsN ops ops.size, d < a0.tmps.size) (hd : ∀ (j : Nat) (o : Oper), ops[j]? = some o → ∃ d, o.dst = some d)
    (arms : ∀ (j : Nat) (o : Oper), ops[j]? = some o → ArmO P H ops (dstsN ops ops.size) a0 w0 j o)
    (he : ∀ a w, Jg H ops ops.size a0 w0 (listedN ops.size 0) a w → Q .normal a w) :
    ∀ fuel listed a w, Jg H ops ops.size a0 w0 listed a w → unl listed = fuel → wpAny P .any ops Q fuel listed a w := by
  intro fuel
  induction fuel with
  | zero =>
    intro listed a w h hu
    have hall : ∀ j, j < ops.size → listed.getD j false = true := fun j hj => by
      have hjl : j < listed.size := by rw [h.lsize]; omega
      rcases hb' : listed.getD j false with _ | _
      · exfalso
        have hm : false ∈ listed.toList := by
          rw [Array.getD_eq_getD_getElem?, Array.getElem?_eq_getElem hjl] at hb'
          have hb'' : listed[j] = false := hb'
          rw [← hb'']
          exact Array.mem_toList_iff.2 (Array.getElem_mem hjl)
        have := List.count_pos_iff.2 hm
        unfold unl at hu
        omega
      · rfl
    have e := listed_is h.lsize (Nat.le_refl _) hall (fun j hj => h.tail j hj)
    rw [Nat.sub_self] at e
    refine ⟨?_, he a w (e ▸ h)⟩
    rcases hl : Region.ready .any ops listed with _ | ⟨i, rest⟩
    · rfl
    · obtain ⟨h0, o, ho, _⟩ := (mem_ready (j := i)).1 (by rw [hl]; exact List.mem_cons_self)
      have := unl_set h0
      omega
  | succ fuel ih =>
    intro listed a w h hu
    refine ⟨fun hr => ?_, fun i hi => ?_⟩
    · have hall : ∀ j, j < ops.size → listed.getD j false = true := fun j hj => all_listed h.lsize (fun i o hi e he hb => acyc_spec hac i o hi e he hb) hr j hj
      have e := listed_is h.lsize (Nat.le_refl _) hall (fun j hj => h.tail j hj)
      rw [Nat.sub_self] at e
      exact he a w (e ▸ h)
    · obtain ⟨h0, o, ho, ha⟩ := mem_ready.1 hi
      have hin : i < ops.size := (Array.getElem?_eq_some_iff.1 ho).1
      obtain ⟨d, hd'⟩ := hd i o ho
      obtain ⟨hg, harm⟩ := arms i o ho
      have hw : Region.wanted o (yielded ops a.tmps) = true := by
        rcases hg with hg | ⟨g, dg, b, hg, hgd, hgb⟩
        · simp [Region.wanted, hg]
        · obtain ⟨og, hog, hdg, hlg⟩ := edge_at h ha hgd
          have hgn : g < ops.size := (Array.getElem?_eq_some_iff.1 hog).1
          rw [wanted_of hg hog hdg (by rw [h.size]; exact hb _ (mem_dsts hog hdg hgn)) (hgb _ _ (h.slots g og dg hog hdg hlg))]
          cases b <;> rfl
      refine goes_wpOpG ho hw (harm a w h.bel h.keep (fun k dk hk => ?_)) (fun v w' hv => ?_)
      · obtain ⟨ok, hok, hdk, hlk⟩ := edge_at h ha hk
        exact h.slots k ok dk hok hdk hlk
      · refine ih _ _ _ (h.step hn hb ho hin hd' ha hv.1 hv.2) ?_
        have := unl_set h0
        omega
theorem wp_region_all {id : Nat} (N : Nat) (H : Nat → Gp) (ds : List Nat) (hN : ops.size = N) (hds : dstsN ops N = ds) (hm : P.follows .mixedOrders = true) (hac : acyc ops = true) (hon : onceG ops N a0.tmps.size = true)
    (arms : AllFrom (ArmO P H ops ds a0 w0) 0 ops.toList)
    (he : ∀ (u : Nat → Value) w, (∀ j d, j < N → ops[j]?.bind (·.dst) = some d → (H j).p w (u d)) → Below w0.heap.size w0 w → Q .normal (putAll u ds a0) w) : (Code.region id ops true).wp P Q a0 w0 := by
  subst hN
  subst hds
  unfold onceG at hon
  rw [Bool.and_eq_true, Bool.and_eq_true, decide_eq_true_eq] at hon
  obtain ⟨⟨hon1, hon2⟩, hon3⟩ := hon
  have hb : ∀ d ∈ dstsN ops ops.size, d < a0.tmps.size := fun d hd => by simpa using List.all_eq_true.1 hon1 d hd
  have hdd : ∀ (j : Nat) (o : Oper), ops[j]? = some o → ∃ d, o.dst = some d := fun j o hj => by
    have := List.all_eq_true.1 hon3 j (List.mem_range.2 (Array.getElem?_eq_some_iff.1 hj).1)
    rw [hj] at this
    exact Option.isSome_iff_exists.1 this
  have hl : ∀ j, (Array.replicate ops.size false).getD j false = false := fun j => by
    rw [Array.getD_eq_getD_getElem?, Array.getElem?_replicate]
    split <;> rfl
  refine wp_region_any hm (wpAny_all (H := H) (w0 := w0) hac hon2 hb hdd (fun j o hj => ?_) (fun a w h => ?_) ops.size _ a0 _ ⟨rfl, rfl, fun _ _ => rfl, by simp, fun j o d hj hd h => ?_, fun j o hj h => ?_, (Below.refl _ w0).drew, fun j _ => hl j⟩ ?_)
  · have := AllFrom.get arms j o (by rw [Array.getElem?_toList]; exact hj)
    rwa [Nat.zero_add] at this
  · have e := act_putAll h.size h.defers h.keep
    rw [e]
    refine he _ w (fun j d hj hjd => ?_) h.bel
    obtain ⟨o, ho, hod⟩ := Option.bind_eq_some_iff.1 hjd
    refine h.slots j o d ho hod ?_
    unfold listedN
    rw [Array.getD_eq_getD_getElem?, List.getElem?_toArray, List.getElem?_append_left (by simpa using hj), List.getElem?_replicate, if_pos hj]
    rfl
  · rw [hl] at h; cases h
  · rw [hl] at h; cases h
  · unfold unl
    rw [Array.toList_replicate, List.count_replicate]
    simp
end
section
variable {P : Program} {a : Act} {w : World} {ty : TypeId} {R : Value → World → Prop}
theorem run_callN {f : FuncId} {args : Array Operand} {ts : Array TypeId} {vals : Array Value} (h : args.map a.eval = vals) (hcf : (callFunc f vals).run P w = .ok (.enter f vals) w) : (execOp a.eval (sop (.call { callee := .value (.func f), args := args, argTypes := ts }) ty)).run P w = .ok (.enter f vals) w := by
  subst h
  generalize hρ : a.eval = ρ at hcf ⊢
  have hf : ρ (.func f) = .func (.func f) #[] #[] := by rw [← hρ]; rfl
  clear hρ
  unfold execOp sop
  simp [resolve, invoke, hf, Deferred.ofValue, hcf]
theorem goes_callN {f : FuncId} {args : Array Operand} {ts : Array TypeId} (vals : Array Value) (h : args.map a.eval = vals) (hcf : (callFunc f vals).run P w = .ok (.enter f vals) w) (hC : Calls P f vals w fun e w' => ∃ v, e = .returned v ∧ R v w' ∧ Below w.heap.size w w') : Goes P a w (.call { callee := .value (.func f), args := args, argTypes := ts }) ty (fun v w' => R v w' ∧ Below w.heap.size w w') := .inr ⟨f, vals, run_callN h hcf, hC⟩
theorem run_notV {ρ : Operand → Value} {x : Operand} {t : TypeId} {b : Bool} (h : ρ x = .bool b) : (execOp ρ (sop (.unOp .not t x) ty)).run P w = .ok (.value (.bool !b)) w := by
  unfold execOp sop
  simp only [h]
  go_simp
theorem goes_assign {x : Operand} {v : Value} (h : a.eval x = v) (hR : R v w) : Goes P a w (.assign x) ty (fun v w' => R v w' ∧ Below w.heap.size w w') := by
  subst h; exact goes_val (x_assign _ _ _ _) hR
end
end Go.Proofs.YtfkjahpcpmcefaaGreat
namespace Go.Proofs.YtfkjahpcpmcefaaGreat.Co
open Go Go.RowKit
open Qu (Cf)
set_option maxRecDepth 100000
set_option linter.unusedVariables false
attribute [local go_sem ↓] Im.loadAt_conf3 Im.storeAt_conf3 loadAt_mem storeAt_mem
theorem sameF_M (B B' : Nat) (c d : Cf) (hs : Short c) (hd : Short d) (hne : c ≠ d) (m m' : M3) (w : World) (h : InC w B c m) (h' : InC w B' d m') (hB : B ≤ w.heap.size) (hB' : B' ≤ w.heap.size) :
    Calls Tryz.prog 19 #[.agg #[.slice m.a0 m.n0 m.k0, .slice m.a1 m.n1 m.k1, .slice m.a2 m.n2 m.k2], .agg #[.slice m'.a0 m'.n0 m'.k0, .slice m'.a1 m'.n1 m'.k1, .slice m'.a2 m'.n2 m'.k2]] w fun e w' => e = .returned (.bool false) ∧ Below w.heap.size w w' := by
  obtain ⟨w2, hw2⟩ : ∃ w2, w2 = (w.alloc (.cells #[.slice m.a0 m.n0 m.k0, .slice m.a1 m.n1 m.k1, .slice m.a2 m.n2 m.k2] 24)).alloc (.cells #[.slice m'.a0 m'.n0 m'.k0, .slice m'.a1 m'.n1 m'.k1, .slice m'.a2 m'.n2 m'.k2] 24) := ⟨_, rfl⟩
  have hb : Below w.heap.size w w2 := by rw [hw2]; exact ((Below.refl _ _).alloc (Nat.le_refl _) _).alloc (by simp) _
  have hx : Bx w2 w.heap.size 24 m := by unfold Bx; rw [hw2, Below.heap_alloc _ _ _ (by simp)]; exact heap_alloc_new w _
  have hy : Bx w2 (w.heap.size + 1) 24 m' := by
    have q := heap_alloc_new (w.alloc (.cells #[.slice m.a0 m.n0 m.k0, .slice m.a1 m.n1 m.k1, .slice m.a2 m.n2 m.k2] 24)) (.cells #[.slice m'.a0 m'.n0 m'.k0, .slice m'.a1 m'.n1 m'.k1, .slice m'.a2 m'.n2 m'.k2] 24)
    rw [World.size_alloc] at q
    rw [hw2]; exact q
  have HH : Hid (∀ W, Below w2.heap.size w2 W → Bx W w.heap.size 24 m ∧ Bx W (w.heap.size + 1) 24 m' ∧ InC W B c m ∧ InC W B' d m' ∧ Below w.heap.size w W) := hid (fun W hq => by
    have hl := hb.trans (hq.mono hb.size)
    exact ⟨hx.below hq hx.lt, hy.below hq hy.lt, h.below (hl.mono hB), h'.below (hl.mono hB'), hl⟩)
  have H0 := fun W (hq : Below w2.heap.size w2 W) => sameI_N B B' m.a0 m'.a0 m.k0 m'.k0 c.old d.old m.n0 m'.n0 (HH.out W hq).2.2.1.e0.symm (HH.out W hq).2.2.2.1.e0.symm (by have := (HH.out W hq).2.2.1.e0; have := hs.1; unfold maxLen; omega) (by have := (HH.out W hq).2.2.2.1.e0; have := hd.1; unfold maxLen; omega) W (HH.out W hq).2.2.1.o (HH.out W hq).2.2.2.1.o
  have H1 := fun W (hq : Below w2.heap.size w2 W) => sameI_N B B' m.a1 m'.a1 m.k1 m'.k1 c.new d.new m.n1 m'.n1 (HH.out W hq).2.2.1.e1.symm (HH.out W hq).2.2.2.1.e1.symm (by have := (HH.out W hq).2.2.1.e1; have := hs.2.1; unfold maxLen; omega) (by have := (HH.out W hq).2.2.2.1.e1; have := hd.2.1; unfold maxLen; omega) W (HH.out W hq).2.2.1.n (HH.out W hq).2.2.2.1.n
  have H2 := fun W (hq : Below w2.heap.size w2 W) => sameI_N B B' m.a2 m'.a2 m.k2 m'.k2 c.lrn d.lrn m.n2 m'.n2 (HH.out W hq).2.2.1.e2.symm (HH.out W hq).2.2.2.1.e2.symm (by have := (HH.out W hq).2.2.1.e2; have := hs.2.2; unfold maxLen; omega) (by have := (HH.out W hq).2.2.2.1.e2; have := hd.2.2; unfold maxLen; omega) W (HH.out W hq).2.2.1.l (HH.out W hq).2.2.2.1.l
  have x0 := hx.c0
  have y0 := hy.c0
  rw [hw2] at x0 y0
  have HW := hid hw2
  clear h h' hb hx hy hB hB' hs hd hw2
  by_cases q0 : c.old = d.old
  · rw [decide_eq_true q0] at H0
    by_cases q1 : c.new = d.new
    · rw [decide_eq_true q1] at H1
      have q2 : c.lrn ≠ d.lrn := fun q2 => hne (by cases c; cases d; simp_all)
      rw [decide_eq_false q2] at H2
      have h0 := hid H0
      have h1 := hid H1
      have h2 := hid H2
      clear H0 H1 H2 q0 q1 q2 hne
      go_enter Tryz.func19, Tryz.ntmps19
      go_wp2_with fail
      rw [← HW.out]
      refine (h0.out w2 (Below.refl _ _)).mono ?_
      rintro e w3 ⟨rfl, j, rfl⟩
      have B3 := hid (below_drewN (Below.refl w2.heap.size w2) j)
      have x1 := (HH.out _ B3.out).1.c1
      have y1 := (HH.out _ B3.out).2.1.c1
      obtain ⟨w4, hw4⟩ : ∃ w4, w4 = w2.drewN j := ⟨_, rfl⟩
      rw [← hw4] at x1 y1 B3 ⊢
      clear hw4 x0 y0
      go_wp2_with fail
      refine (h1.out w4 B3.out).mono ?_
      rintro e w5 ⟨rfl, j5, hw5⟩
      have B5 : Hid (Below w2.heap.size w2 w5) := hid (by rw [hw5]; exact below_drewN B3.out j5)
      have x2 := (HH.out _ B5.out).1.c2
      have y2 := (HH.out _ B5.out).2.1.c2
      clear hw5 x1 y1
      go_wp2_with fail
      refine (h2.out w5 B5.out).mono ?_
      rintro e w6 ⟨rfl, j6, hw6⟩
      have B6 : Hid (Below w.heap.size w w6) := hid (by rw [hw6]; exact (HH.out _ (below_drewN B5.out j6)).2.2.2.2)
      clear hw6 x2 y2
      go_wp2_with fail
      go_ret
      exact ⟨rfl, B6.out⟩
    · rw [decide_eq_false q1] at H1
      have h0 := hid H0
      have h1 := hid H1
      clear H0 H1 H2 q0 q1 hne
      go_enter Tryz.func19, Tryz.ntmps19
      go_wp2_with fail
      rw [← HW.out]
      refine (h0.out w2 (Below.refl _ _)).mono ?_
      rintro e w3 ⟨rfl, j, rfl⟩
      have B3 := hid (below_drewN (Below.refl w2.heap.size w2) j)
      have x1 := (HH.out _ B3.out).1.c1
      have y1 := (HH.out _ B3.out).2.1.c1
      obtain ⟨w4, hw4⟩ : ∃ w4, w4 = w2.drewN j := ⟨_, rfl⟩
      rw [← hw4] at x1 y1 B3 ⊢
      clear hw4 x0 y0
      go_wp2_with fail
      refine (h1.out w4 B3.out).mono ?_
      rintro e w5 ⟨rfl, j5, hw5⟩
      have B5 : Hid (Below w.heap.size w w5) := hid (by rw [hw5]; exact (HH.out _ (below_drewN B3.out j5)).2.2.2.2)
      clear hw5 x1 y1
      go_wp2_with fail
      go_ret
      exact ⟨rfl, B5.out⟩
  · rw [decide_eq_false q0] at H0
    have h0 := hid H0
    clear H0 H1 H2 q0 hne
    go_enter Tryz.func19, Tryz.ntmps19
    go_wp2_with fail
    rw [← HW.out]
    refine (h0.out w2 (Below.refl _ _)).mono ?_
    rintro e w3 ⟨rfl, j, hw3⟩
    have B3 : Hid (Below w.heap.size w w3) := hid (by rw [hw3]; exact (HH.out _ (below_drewN (Below.refl w2.heap.size w2) j)).2.2.2.2)
    clear hw3 x0 y0
    go_wp2_with fail
    go_ret
    exact ⟨rfl, B3.out⟩
theorem voters_M (B : Nat) (c : Cf) (hs : Short c) (m : M3) (w : World) (h : InC w B c m) (hB : B ≤ w.heap.size) :
    Calls Tryz.prog 26 #[.agg #[.slice m.a0 m.n0 m.k0, .slice m.a1 m.n1 m.k1, .slice m.a2 m.n2 m.k2]] w fun e w' => ∃ A q k, e = .returned (.slice A q k) ∧ q = (Qu.uni (c.old ++ c.new)).length ∧ IsInts w' w'.heap.size A (Qu.uni (c.old ++ c.new)) ∧ Below w.heap.size w w' := by
  rw [h.val]
  exact (voters_any B c hs _ _ _ _ _ _ w h.cis hB).mono fun e w' ⟨A, k, he, ho, hb⟩ => ⟨A, _, k, he, rfl, ho.reads, hb⟩
theorem won_M (B : Nat) (c : Cf) (hs : Short c) (m : M3) (ay : Option Addr) (n ky : Nat) (yes : List Int) (hn : n = yes.length) (hy : n ≤ 2000) (w : World) (h : InC w B c m) (h' : IsInts w B ay yes) (hB : B ≤ w.heap.size) :
    Calls Tryz.prog 24 #[.agg #[.slice m.a0 m.n0 m.k0, .slice m.a1 m.n1 m.k1, .slice m.a2 m.n2 m.k2], .slice ay n ky] w fun e w' => e = .returned (.bool (Qu.won c yes)) ∧ Below w.heap.size w w' := by
  subst hn; rw [h.val]; exact won_any B c hs _ _ _ ay _ _ _ ky yes hy w h.cis h' hB
theorem stp_step {p : Int} {c : Cf} {n : Int} {f : List Int} (h : (stp p c n f).2 = true) : Step c (stp p c n f).1 := by
  unfold stp at h ⊢
  split at h
  · next hp => rw [if_pos hp]; exact add_step (by simpa using h)
  · next hp =>
    rw [if_neg hp]
    split at h
    · next hq => rw [if_pos hq]; exact drop_step (by simpa using h)
    · next hq => rw [if_neg hq]; exact next_step h
theorem short_stp {c : Cf} (h : Short c) (h3 : c.old.length ≤ 3000 ∧ c.lrn.length ≤ 3000) (p n : Int) (f : List Int) : Short (stp p c n f).1 := by
  unfold stp
  split
  · exact short_add h n
  · split
    · exact short_drop h n
    · exact short_next h h3 f
def lstP (L : List Int) : Gp := ⟨fun w v => ∃ (A : Option Addr) (q k : Nat), v = .slice A q k ∧ q = L.length ∧ IsInts w w.heap.size A L, fun w w' v ⟨A, q, k, h0, h1, h2⟩ hb => ⟨A, q, k, h0, h1, (h2.below hb).more hb.size⟩⟩
end Go.Proofs.YtfkjahpcpmcefaaGreat.Co
namespace Go.Proofs.YtfkjahpcpmcefaaGreat.Co
open Go Go.RowKit
open Qu (Cf)
set_option maxRecDepth 100000
set_option linter.unusedVariables false
attribute [local go_sem ↓] Im.loadAt_conf3 Im.storeAt_conf3 loadAt_mem storeAt_mem
def lenP (n : Nat) : Gp := ⟨fun _ v => ∃ q : Nat, v = .int .i64 q ∧ q = n, fun _ _ _ h _ => h⟩
def H10 (Aa Ab : Option Addr) (na nb ka kb : Nat) (a b : List Int) (m mx : M3) (c x : Cf) : Nat → Gp
  | 0 => Gp.is (.slice Aa na ka)
  | 1 => Gp.is (.slice Ab nb kb)
  | 2 => lstP (both a b)
  | 3 => Gp.is (.agg #[.slice m.a0 m.n0 m.k0, .slice m.a1 m.n1 m.k1, .slice m.a2 m.n2 m.k2])
  | 4 => lstP (Qu.uni (c.old ++ c.new))
  | 5 => Gp.is (.agg #[.slice mx.a0 mx.n0 mx.k0, .slice mx.a1 mx.n1 mx.k1, .slice mx.a2 mx.n2 mx.k2])
  | 6 => lstP (Qu.uni (x.old ++ x.new))
  | 7 => lstP (both (Qu.uni (c.old ++ c.new)) (Qu.uni (x.old ++ x.new)))
  | 8 => lstP (both (both a b) (both (Qu.uni (c.old ++ c.new)) (Qu.uni (x.old ++ x.new))))
  | 9 => lenP (both (both a b) (both (Qu.uni (c.old ++ c.new)) (Qu.uni (x.old ++ x.new)))).length
  | 10 => Gp.is (.bool true)
  | 11 => Gp.is (.bool true)
  | 12 => Gp.is (.bool true)
  | 13 => Gp.is (.bool true)
  | 14 => Gp.is (.bool true)
  | _ => Gp.any
theorem node_len {l : List Int} (h : Qu.node l = true) : l.length ≤ 7 := by
  obtain ⟨h1, h2⟩ := node_is.1 h
  have := Qu.length_le_of h1 [1, 2, 3, 4, 5, 6, 7] (fun x hx => by
    have h3 := (h2 x hx).1
    have h4 := (h2 x hx).2
    simp
    omega)
  simpa using this
theorem voters_few {c : Cf} (h : Qu.ok c = true) : (Qu.uni (c.old ++ c.new)).length ≤ 14 := by
  obtain ⟨_, h1, h2, _, _⟩ := ok_parts h
  have := (Qu.uni_is (c.old ++ c.new)).length_le
  rw [List.length_append] at this
  have := node_len h1
  have := node_len h2
  omega
set_option maxHeartbeats 6400000 in
theorem safe_any (B : Nat) (c : Cf) (m : M3) (how node : Int) (hnode : InInt node) (Af : Option Addr) (nf kf : Nat) (f : List Int) (hnf : nf = f.length) (Aa : Option Addr) (na ka : Nat) (a : List Int) (hna : na = a.length) (Ab : Option Addr) (nb kb : Nat) (b : List Int) (hnb : nb = b.length) (w : World) (h : InC w B c m) (hf : IsInts w B Af f) (ha : IsInts w B Aa a) (hb : IsInts w B Ab b) (hB : B ≤ w.heap.size) :
    Calls Tryz.prog 6 #[.agg #[.slice m.a0 m.n0 m.k0, .slice m.a1 m.n1 m.k1, .slice m.a2 m.n2 m.k2], .int .i64 how, .int .i64 node, .slice Af nf kf, .slice Aa na ka, .slice Ab nb kb] w fun e w' => e = .returned (.bool true) ∧ Below w.heap.size w w' := by
  obtain ⟨w1, hw1⟩ : ∃ w1, w1 = w.alloc (.cells #[.slice m.a0 m.n0 m.k0, .slice m.a1 m.n1 m.k1, .slice m.a2 m.n2 m.k2] 24) := ⟨_, rfl⟩
  have hb1 : Below w.heap.size w w1 := by rw [hw1]; exact below_new w _
  have hx1 : Bx w1 w.heap.size 24 m := by rw [hw1]; exact Bx.new _ _ _
  have hld := (Bx.new w 24 m).ld
  have HK1 : Hid (∀ W, Below w1.heap.size w1 W → Bx W w.heap.size 24 m ∧ InC W B c m ∧ IsInts W B Af f ∧ IsInts W B Aa a ∧ IsInts W B Ab b ∧ Below w.heap.size w W ∧ B ≤ W.heap.size) := hid (fun W hq => by
    have hl := hb1.trans (hq.mono hb1.size)
    exact ⟨hx1.below hq hx1.lt, h.below (hl.mono hB), hf.below (hl.mono hB), ha.below (hl.mono hB), hb.below (hl.mono hB), hl, by have := hl.size; omega⟩)
  have HL : Hid (m.n0 = c.old.length ∧ m.n1 = c.new.length ∧ m.n2 = c.lrn.length) := hid ⟨h.e0, h.e1, h.e2⟩
  have HE := hid (And.intro hna hnb)
  have HNF := hid hnf
  clear h hf ha hb hb1 hx1 hB hna hnb hnf
  obtain ⟨bg, hbg⟩ : ∃ bg, bg = bigM m := ⟨_, rfl⟩
  have HG := hid (bigM_any m w1)
  rw [← hbg] at HG
  have HBG := hid hbg
  clear hbg
  cases bg
  case true =>
    go_enter Tryz.func6, Tryz.ntmps6
    go_wp2_with fail
    rw [← hw1]
    clear hw1 hld
    refine HG.out.mono ?_
    rintro e w2 ⟨rfl, hb2⟩
    have HL := hid (HK1.out w2 hb2).2.2.2.2.2.1
    clear hb2
    go_wp2_with fail
    refine (works_any w2).mono ?_
    rintro e w3 ⟨rfl, hb3⟩
    have HB3 := hid (HL.out.trans (hb3.mono HL.out.size))
    clear hb3
    go_wp2_with fail
    go_ret
    exact ⟨rfl, HB3.out⟩
  by_cases h1 : 300 < nf
  · have h1' : (300 : Int) < (nf : Int) := by omega
    clear h1
    go_enter Tryz.func6, Tryz.ntmps6
    go_wp2_with fail
    rw [← hw1]
    clear hw1 hld
    refine HG.out.mono ?_
    rintro e w2 ⟨rfl, hb2⟩
    have HL := hid (HK1.out w2 hb2).2.2.2.2.2.1
    clear hb2
    go_wp2_with fail
    refine (works_any w2).mono ?_
    rintro e w3 ⟨rfl, hb3⟩
    have HB3 := hid (HL.out.trans (hb3.mono HL.out.size))
    clear hb3
    go_wp2_with fail
    go_ret
    exact ⟨rfl, HB3.out⟩
  have h1' : ¬ (300 : Int) < (nf : Int) := by omega
  by_cases h2 : 300 < na
  · have h2' : (300 : Int) < (na : Int) := by omega
    clear h2
    go_enter Tryz.func6, Tryz.ntmps6
    go_wp2_with fail
    rw [← hw1]
    clear hw1 hld
    refine HG.out.mono ?_
    rintro e w2 ⟨rfl, hb2⟩
    have HL := hid (HK1.out w2 hb2).2.2.2.2.2.1
    clear hb2
    go_wp2_with fail
    refine (works_any w2).mono ?_
    rintro e w3 ⟨rfl, hb3⟩
    have HB3 := hid (HL.out.trans (hb3.mono HL.out.size))
    clear hb3
    go_wp2_with fail
    go_ret
    exact ⟨rfl, HB3.out⟩
  have h2' : ¬ (300 : Int) < (na : Int) := by omega
  by_cases h3 : 300 < nb
  · have h3' : (300 : Int) < (nb : Int) := by omega
    clear h3
    go_enter Tryz.func6, Tryz.ntmps6
    go_wp2_with fail
    rw [← hw1]
    clear hw1 hld
    refine HG.out.mono ?_
    rintro e w2 ⟨rfl, hb2⟩
    have HL := hid (HK1.out w2 hb2).2.2.2.2.2.1
    clear hb2
    go_wp2_with fail
    refine (works_any w2).mono ?_
    rintro e w3 ⟨rfl, hb3⟩
    have HB3 := hid (HL.out.trans (hb3.mono HL.out.size))
    clear hb3
    go_wp2_with fail
    go_ret
    exact ⟨rfl, HB3.out⟩
  have h3' : ¬ (300 : Int) < (nb : Int) := by omega
  have hnf3 : nf ≤ 300 := by omega
  have hna3 : na ≤ 300 := by omega
  have hnb3 : nb ≤ 300 := by omega
  clear h1 h2 h3
  have hbn := bigM_no HBG.out.symm
  have hsh : Short c := ⟨by have := HL.out.1; omega, by have := HL.out.2.1; omega, by have := HL.out.2.2; omega⟩
  have h300 : c.old.length ≤ 3000 ∧ c.lrn.length ≤ 3000 := ⟨by have := HL.out.1; omega, by have := HL.out.2.2; omega⟩
  have HS := hid (And.intro hsh h300)
  have HST := hid (fun W hq => stepped_any B B c hsh m how node hnode Af nf kf f HNF.out (by omega) W (HK1.out W hq).2.1 (HK1.out W hq).2.2.1 (HK1.out W hq).2.2.2.2.2.2 (HK1.out W hq).2.2.2.2.2.2)
  obtain ⟨r, hr⟩ : ∃ r, r = stp (how % 3) c node f := ⟨_, rfl⟩
  have hsr : Short r.1 := by rw [hr]; exact short_stp hsh h300 _ _ _
  have HSR := hid hsr
  have hstep : r.2 = true → Step c r.1 := by rw [hr]; exact stp_step
  rw [← hr] at HST
  clear hbn hsh h300 hr hsr
  obtain ⟨b2, hb2⟩ : ∃ b2, b2 = r.2 := ⟨_, rfl⟩
  rw [← hb2] at HST hstep
  clear hb2
  cases b2
  · clear hstep
    go_enter Tryz.func6, Tryz.ntmps6
    go_wp2_with fail
    rw [← hw1]
    clear hw1 hld
    refine HG.out.mono ?_
    rintro e w2 ⟨rfl, hb2⟩
    have hld2 := (HK1.out w2 hb2).1.ld
    have H2 := hid hb2
    clear hb2 HG
    go_wp2_with fail
    have k2 := hid (HK1.out w2 H2.out)
    refine (HST.out w2 H2.out).mono ?_
    rintro e w3 ⟨mx, rfl, hox, hb3⟩
    obtain ⟨v3, hv3⟩ : ∃ v3, v3 = w3.alloc (.cells #[.slice mx.a0 mx.n0 mx.k0, .slice mx.a1 mx.n1 mx.k1, .slice mx.a2 mx.n2 mx.k2] 24) := ⟨_, rfl⟩
    have hst3 := (box_new hv3).2.2.2
    have HK3 : Hid (∀ W, Below v3.heap.size v3 W → Bx W w3.heap.size 24 mx ∧ InC W w3.heap.size r.1 mx ∧ w3.heap.size + 1 ≤ W.heap.size ∧ Bx W w.heap.size 24 m ∧ InC W B c m ∧ IsInts W B Aa a ∧ IsInts W B Ab b ∧ Below w.heap.size w W ∧ B ≤ W.heap.size) := hid (fun W hb => by
      have q := box_keep hox hv3 W hb
      have q1 := HK1.out W (H2.out.trans ((hb3.mono H2.out.size).trans (q.2.2.1.mono (by have := H2.out.size; have := hb3.size; omega))))
      exact ⟨q.1, q.2.1.inC, q.2.2.2, q1.1, q1.2.1, q1.2.2.2.1, q1.2.2.2.2.1, q1.2.2.2.2.2.1, q1.2.2.2.2.2.2⟩)
    clear hox hb3 hv3 hld2 HST k2
    have HLW := hid (HK3.out v3 (Below.refl _ _)).2.2.2.2.2.2.2.1
    go_wp2_with fail
    clear hst3
    refine (works_any v3).mono ?_
    rintro e wz ⟨rfl, hbz⟩
    have HBZ := hid (HLW.out.trans (hbz.mono HLW.out.size))
    clear hbz
    go_wp2_with fail
    go_ret
    exact ⟨rfl, HBZ.out⟩
  · have HSTP := hid (hstep rfl)
    clear hstep
    cases hwa : Qu.won c a
    · have HWN := hid hwa
      clear hwa
      go_enter Tryz.func6, Tryz.ntmps6
      go_wp2_with fail
      rw [← hw1]
      clear hw1 hld
      refine HG.out.mono ?_
      rintro e w2 ⟨rfl, hb2⟩
      have hld2 := (HK1.out w2 hb2).1.ld
      have H2 := hid hb2
      clear hb2 HG
      go_wp2_with fail
      have k2 := hid (HK1.out w2 H2.out)
      refine (HST.out w2 H2.out).mono ?_
      rintro e w3 ⟨mx, rfl, hox, hb3⟩
      obtain ⟨v3, hv3⟩ : ∃ v3, v3 = w3.alloc (.cells #[.slice mx.a0 mx.n0 mx.k0, .slice mx.a1 mx.n1 mx.k1, .slice mx.a2 mx.n2 mx.k2] 24) := ⟨_, rfl⟩
      have hst3 := (box_new hv3).2.2.2
      have HK3 : Hid (∀ W, Below v3.heap.size v3 W → Bx W w3.heap.size 24 mx ∧ InC W w3.heap.size r.1 mx ∧ w3.heap.size + 1 ≤ W.heap.size ∧ Bx W w.heap.size 24 m ∧ InC W B c m ∧ IsInts W B Aa a ∧ IsInts W B Ab b ∧ Below w.heap.size w W ∧ B ≤ W.heap.size) := hid (fun W hb => by
        have q := box_keep hox hv3 W hb
        have q1 := HK1.out W (H2.out.trans ((hb3.mono H2.out.size).trans (q.2.2.1.mono (by have := H2.out.size; have := hb3.size; omega))))
        exact ⟨q.1, q.2.1.inC, q.2.2.2, q1.1, q1.2.1, q1.2.2.2.1, q1.2.2.2.2.1, q1.2.2.2.2.2.1, q1.2.2.2.2.2.2⟩)
      clear hox hb3 hv3 hld2 HST k2
      have hx0 := HK3.out v3 (Below.refl _ _)
      have hldc := hx0.2.2.2.1.ld
      have HC1 := hid (check_M B c HS.out.1 m v3 hx0.2.2.2.2.1 hx0.2.2.2.2.2.2.2.2)
      rw [err_t HSTP.out.ok1] at HC1
      clear hx0
      go_wp2_with fail
      refine HC1.out.mono ?_
      rintro e w4 ⟨rfl, hb4⟩
      have hx4 := HK3.out w4 hb4
      have hldx := hx4.1.ld
      have HC2 := hid (check_M w3.heap.size r.1 HSR.out mx w4 hx4.2.1 (by have := hx4.2.2.1; omega))
      rw [err_t HSTP.out.ok2] at HC2
      have H4 := hid hb4
      clear hx4 hldc hb4 HC1 hst3
      go_wp2_with fail
      refine HC2.out.mono ?_
      rintro e w5 ⟨rfl, hb5⟩
      have H5 := hid (H4.out.trans (hb5.mono H4.out.size))
      have hx5 := HK3.out w5 H5.out
      have hldx := hx5.1.ld
      have hldc := hx5.2.2.2.1.ld
      have HSF := hid (sameF_M w3.heap.size B r.1 c HSR.out HS.out.1 HSTP.out.ne mx m w5 hx5.2.1 hx5.2.2.2.2.1 (by have := hx5.2.2.1; omega) hx5.2.2.2.2.2.2.2.2)
      clear hx5 hb5 HC2 H4
      go_wp2_with fail
      refine HSF.out.mono ?_
      rintro e w6 ⟨rfl, hb6⟩
      have H6 := hid (H5.out.trans (hb6.mono H5.out.size))
      have hx6 := HK3.out w6 H6.out
      have hldc := hx6.2.2.2.1.ld
      have HWA := won_M B c HS.out.1 m Aa na ka a HE.out.1 (by omega) w6 hx6.2.2.2.2.1 hx6.2.2.2.2.2.1 hx6.2.2.2.2.2.2.2.2
      clear hx6 hb6 hldx HSF H5
      rw [HWN.out] at HWA
      have HWA := hid HWA
      go_wp2_with fail
      refine HWA.out.mono ?_
      rintro e w7 ⟨rfl, hb7⟩
      have HLW := hid (HK3.out w7 (H6.out.trans (hb7.mono H6.out.size))).2.2.2.2.2.2.2.1
      clear hb7 hldc
      go_wp2_with fail
      refine (works_any w7).mono ?_
      rintro e wz ⟨rfl, hbz⟩
      have HBZ := hid (HLW.out.trans (hbz.mono HLW.out.size))
      clear hbz
      go_wp2_with fail
      go_ret
      exact ⟨rfl, HBZ.out⟩
    · have HWN := hid hwa
      clear hwa
      cases hwb : Qu.won r.1 b
      · have HWN2 := hid hwb
        clear hwb
        go_enter Tryz.func6, Tryz.ntmps6
        go_wp2_with fail
        rw [← hw1]
        clear hw1 hld
        refine HG.out.mono ?_
        rintro e w2 ⟨rfl, hb2⟩
        have hld2 := (HK1.out w2 hb2).1.ld
        have H2 := hid hb2
        clear hb2 HG
        go_wp2_with fail
        have k2 := hid (HK1.out w2 H2.out)
        refine (HST.out w2 H2.out).mono ?_
        rintro e w3 ⟨mx, rfl, hox, hb3⟩
        obtain ⟨v3, hv3⟩ : ∃ v3, v3 = w3.alloc (.cells #[.slice mx.a0 mx.n0 mx.k0, .slice mx.a1 mx.n1 mx.k1, .slice mx.a2 mx.n2 mx.k2] 24) := ⟨_, rfl⟩
        have hst3 := (box_new hv3).2.2.2
        have HK3 : Hid (∀ W, Below v3.heap.size v3 W → Bx W w3.heap.size 24 mx ∧ InC W w3.heap.size r.1 mx ∧ w3.heap.size + 1 ≤ W.heap.size ∧ Bx W w.heap.size 24 m ∧ InC W B c m ∧ IsInts W B Aa a ∧ IsInts W B Ab b ∧ Below w.heap.size w W ∧ B ≤ W.heap.size) := hid (fun W hb => by
          have q := box_keep hox hv3 W hb
          have q1 := HK1.out W (H2.out.trans ((hb3.mono H2.out.size).trans (q.2.2.1.mono (by have := H2.out.size; have := hb3.size; omega))))
          exact ⟨q.1, q.2.1.inC, q.2.2.2, q1.1, q1.2.1, q1.2.2.2.1, q1.2.2.2.2.1, q1.2.2.2.2.2.1, q1.2.2.2.2.2.2⟩)
        clear hox hb3 hv3 hld2 HST k2
        have hx0 := HK3.out v3 (Below.refl _ _)
        have hldc := hx0.2.2.2.1.ld
        have HC1 := hid (check_M B c HS.out.1 m v3 hx0.2.2.2.2.1 hx0.2.2.2.2.2.2.2.2)
        rw [err_t HSTP.out.ok1] at HC1
        clear hx0
        go_wp2_with fail
        refine HC1.out.mono ?_
        rintro e w4 ⟨rfl, hb4⟩
        have hx4 := HK3.out w4 hb4
        have hldx := hx4.1.ld
        have HC2 := hid (check_M w3.heap.size r.1 HSR.out mx w4 hx4.2.1 (by have := hx4.2.2.1; omega))
        rw [err_t HSTP.out.ok2] at HC2
        have H4 := hid hb4
        clear hx4 hldc hb4 HC1 hst3
        go_wp2_with fail
        refine HC2.out.mono ?_
        rintro e w5 ⟨rfl, hb5⟩
        have H5 := hid (H4.out.trans (hb5.mono H4.out.size))
        have hx5 := HK3.out w5 H5.out
        have hldx := hx5.1.ld
        have hldc := hx5.2.2.2.1.ld
        have HSF := hid (sameF_M w3.heap.size B r.1 c HSR.out HS.out.1 HSTP.out.ne mx m w5 hx5.2.1 hx5.2.2.2.2.1 (by have := hx5.2.2.1; omega) hx5.2.2.2.2.2.2.2.2)
        clear hx5 hb5 HC2 H4
        go_wp2_with fail
        refine HSF.out.mono ?_
        rintro e w6 ⟨rfl, hb6⟩
        have H6 := hid (H5.out.trans (hb6.mono H5.out.size))
        have hx6 := HK3.out w6 H6.out
        have hldc := hx6.2.2.2.1.ld
        have HWA := won_M B c HS.out.1 m Aa na ka a HE.out.1 (by omega) w6 hx6.2.2.2.2.1 hx6.2.2.2.2.2.1 hx6.2.2.2.2.2.2.2.2
        clear hx6 hb6 hldx HSF H5
        rw [HWN.out] at HWA
        have HWA := hid HWA
        go_wp2_with fail
        refine HWA.out.mono ?_
        rintro e w7 ⟨rfl, hb7⟩
        have H7 := hid (H6.out.trans (hb7.mono H6.out.size))
        have hx7 := HK3.out w7 H7.out
        have hldx := hx7.1.ld
        have HWB := won_M w7.heap.size r.1 HSR.out mx Ab nb kb b HE.out.2 (by omega) w7 (hx7.2.1.more (by have := hx7.2.2.1; omega)) (hx7.2.2.2.2.2.2.1.more hx7.2.2.2.2.2.2.2.2) (Nat.le_refl _)
        clear hx7 hb7 hldc HWA H6
        rw [HWN2.out] at HWB
        have HWB := hid HWB
        go_wp2_with fail
        refine HWB.out.mono ?_
        rintro e w8 ⟨rfl, hb8⟩
        have HLW := hid (HK3.out w8 (H7.out.trans (hb8.mono H7.out.size))).2.2.2.2.2.2.2.1
        clear hb8 hldx
        go_wp2_with fail
        refine (works_any w8).mono ?_
        rintro e wz ⟨rfl, hbz⟩
        have HBZ := hid (HLW.out.trans (hbz.mono HLW.out.size))
        clear hbz
        go_wp2_with fail
        go_ret
        exact ⟨rfl, HBZ.out⟩
      · have HPOS := hid (safe_both HSTP.out HWN.out hwb)
        have HWN2 := hid hwb
        clear hwb
        go_enter Tryz.func6, Tryz.ntmps6
        go_wp2_with fail
        rw [← hw1]
        clear hw1 hld
        refine HG.out.mono ?_
        rintro e w2 ⟨rfl, hb2⟩
        have hld2 := (HK1.out w2 hb2).1.ld
        have H2 := hid hb2
        clear hb2 HG
        go_wp2_with fail
        have k2 := hid (HK1.out w2 H2.out)
        refine (HST.out w2 H2.out).mono ?_
        rintro e w3 ⟨mx, rfl, hox, hb3⟩
        obtain ⟨v3, hv3⟩ : ∃ v3, v3 = w3.alloc (.cells #[.slice mx.a0 mx.n0 mx.k0, .slice mx.a1 mx.n1 mx.k1, .slice mx.a2 mx.n2 mx.k2] 24) := ⟨_, rfl⟩
        have hst3 := (box_new hv3).2.2.2
        have HK3 : Hid (∀ W, Below v3.heap.size v3 W → Bx W w3.heap.size 24 mx ∧ InC W w3.heap.size r.1 mx ∧ w3.heap.size + 1 ≤ W.heap.size ∧ Bx W w.heap.size 24 m ∧ InC W B c m ∧ IsInts W B Aa a ∧ IsInts W B Ab b ∧ Below w.heap.size w W ∧ B ≤ W.heap.size) := hid (fun W hb => by
          have q := box_keep hox hv3 W hb
          have q1 := HK1.out W (H2.out.trans ((hb3.mono H2.out.size).trans (q.2.2.1.mono (by have := H2.out.size; have := hb3.size; omega))))
          exact ⟨q.1, q.2.1.inC, q.2.2.2, q1.1, q1.2.1, q1.2.2.2.1, q1.2.2.2.2.1, q1.2.2.2.2.2.1, q1.2.2.2.2.2.2⟩)
        clear hox hb3 hv3 hld2 HST k2
        have hx0 := HK3.out v3 (Below.refl _ _)
        have hldc := hx0.2.2.2.1.ld
        have HC1 := hid (check_M B c HS.out.1 m v3 hx0.2.2.2.2.1 hx0.2.2.2.2.2.2.2.2)
        rw [err_t HSTP.out.ok1] at HC1
        clear hx0
        go_wp2_with fail
        refine HC1.out.mono ?_
        rintro e w4 ⟨rfl, hb4⟩
        have hx4 := HK3.out w4 hb4
        have hldx := hx4.1.ld
        have HC2 := hid (check_M w3.heap.size r.1 HSR.out mx w4 hx4.2.1 (by have := hx4.2.2.1; omega))
        rw [err_t HSTP.out.ok2] at HC2
        have H4 := hid hb4
        clear hx4 hldc hb4 HC1 hst3
        go_wp2_with fail
        refine HC2.out.mono ?_
        rintro e w5 ⟨rfl, hb5⟩
        have H5 := hid (H4.out.trans (hb5.mono H4.out.size))
        have hx5 := HK3.out w5 H5.out
        have hldx := hx5.1.ld
        have hldc := hx5.2.2.2.1.ld
        have HSF := hid (sameF_M w3.heap.size B r.1 c HSR.out HS.out.1 HSTP.out.ne mx m w5 hx5.2.1 hx5.2.2.2.2.1 (by have := hx5.2.2.1; omega) hx5.2.2.2.2.2.2.2.2)
        clear hx5 hb5 HC2 H4
        go_wp2_with fail
        refine HSF.out.mono ?_
        rintro e w6 ⟨rfl, hb6⟩
        have H6 := hid (H5.out.trans (hb6.mono H5.out.size))
        have hx6 := HK3.out w6 H6.out
        have hldc := hx6.2.2.2.1.ld
        have HWA := won_M B c HS.out.1 m Aa na ka a HE.out.1 (by omega) w6 hx6.2.2.2.2.1 hx6.2.2.2.2.2.1 hx6.2.2.2.2.2.2.2.2
        clear hx6 hb6 hldx HSF H5
        rw [HWN.out] at HWA
        have HWA := hid HWA
        go_wp2_with fail
        refine HWA.out.mono ?_
        rintro e w7 ⟨rfl, hb7⟩
        have H7 := hid (H6.out.trans (hb7.mono H6.out.size))
        have hx7 := HK3.out w7 H7.out
        have hldx := hx7.1.ld
        have HWB := won_M w7.heap.size r.1 HSR.out mx Ab nb kb b HE.out.2 (by omega) w7 (hx7.2.1.more (by have := hx7.2.2.1; omega)) (hx7.2.2.2.2.2.2.1.more hx7.2.2.2.2.2.2.2.2) (Nat.le_refl _)
        clear hx7 hb7 hldc HWA H6
        rw [HWN2.out] at HWB
        have HWB := hid HWB
        go_wp2_with fail
        refine HWB.out.mono ?_
        rintro e w8 ⟨rfl, hb8⟩
        have H8 := hid (H7.out.trans (hb8.mono H7.out.size))
        have HK8 : Hid (∀ W, Below w8.heap.size w8 W → Bx W w3.heap.size 24 mx ∧ InC W w3.heap.size r.1 mx ∧ w3.heap.size + 1 ≤ W.heap.size ∧ Bx W w.heap.size 24 m ∧ InC W B c m ∧ IsInts W B Aa a ∧ IsInts W B Ab b ∧ Below w.heap.size w W ∧ B ≤ W.heap.size) := hid (fun W hq => HK3.out W (H8.out.trans (hq.mono H8.out.size)))
        have HB1 := hid (fun W (hq : Below w8.heap.size w8 W) => bothL_any B B Aa Ab ka kb na nb a b HE.out.1 HE.out.2 (by have := Nat.mul_le_mul hna3 hnb3; omega) (by omega) (by omega) W (HK8.out W hq).2.2.2.2.2.1 (HK8.out W hq).2.2.2.2.2.2.1 (HK8.out W hq).2.2.2.2.2.2.2.2 (HK8.out W hq).2.2.2.2.2.2.2.2)
        have HV1 := hid (fun W (hq : Below w8.heap.size w8 W) => voters_M B c HS.out.1 m W (HK8.out W hq).2.2.2.2.1 (HK8.out W hq).2.2.2.2.2.2.2.2)
        have HV2 := hid (fun W (hq : Below w8.heap.size w8 W) => voters_M w3.heap.size r.1 HSR.out mx W (HK8.out W hq).2.1 (by have := (HK8.out W hq).2.2.1; omega))
        have HSZ : Hid (∀ z3 z4, z3 = (Qu.uni (c.old ++ c.new)).length → z4 = (Qu.uni (r.1.old ++ r.1.new)).length → z3 * z4 ≤ 17000000000000 ∧ z3 ≤ 100000000 ∧ z4 ≤ 100000000) := hid (fun z3 z4 h3 h4 => by
          have q1 := voters_few HSTP.out.ok1
          have q2 := voters_few HSTP.out.ok2
          rw [← h3] at q1
          rw [← h4] at q2
          have := Nat.mul_le_mul q1 q2
          exact ⟨by omega, by omega, by omega⟩)
        have HSY : Hid (∀ z3 z4, z3 = (both a b).length → z4 = (both (Qu.uni (c.old ++ c.new)) (Qu.uni (r.1.old ++ r.1.new))).length → z3 * z4 ≤ 17000000000000 ∧ z3 ≤ 100000000 ∧ z4 ≤ 100000000) := hid (fun z3 z4 h3 h4 => by
          have q1 := both_len a b
          have q2 := both_len (Qu.uni (c.old ++ c.new)) (Qu.uni (r.1.old ++ r.1.new))
          have q3 := Nat.mul_le_mul (voters_few HSTP.out.ok1) (voters_few HSTP.out.ok2)
          have q4 : a.length * b.length ≤ 300 * 300 := Nat.mul_le_mul (by rw [← HE.out.1]; exact hna3) (by rw [← HE.out.2]; exact hnb3)
          have q5 : z3 ≤ 90000 := by omega
          have q6 : z4 ≤ 196 := by omega
          have := Nat.mul_le_mul q5 q6
          exact ⟨by omega, by omega, by omega⟩)
        clear hb8 hldx HWB
        go_wp2_with fail
        go_cut [12] from 68 to 81 (fun s W => s = .bool true ∧ Hid (Below w8.heap.size w8 W))
        case first =>
          rename_i J9 K9 h1 h2
          refine wp_region_all (w0 := w8) 15 (H10 Aa Ab na nb ka kb a b m mx c r.1) [68, 69, 70, 71, 72, 73, 74, 75, 76, 77, 78, 79, 80, 81, 12] (by kernel_rfl) (by kernel_rfl) rfl (by kernel_rfl) (by kernel_rfl) ?arms ?he
          case arms =>
            exact ⟨⟨.inl rfl, fun q W hb hkp hw => goes_move (hkp 4 (by decide)) rfl⟩,
              ⟨.inl rfl, fun q W hb hkp hw => goes_move (hkp 5 (by decide)) rfl⟩,
              ⟨.inl rfl, fun q W hb hkp hw => goes_call2 (hw 0 68 (by kernel_rfl)) (hw 1 69 (by kernel_rfl)) (by go_simp) ((HB1.out W hb).mono (by rintro e w' ⟨A2, c2, z, rfl, hz, ho, hb'⟩; exact ⟨_, rfl, ⟨A2, z, c2, rfl, hz, ho.reads⟩, hb'⟩))⟩,
              ⟨.inl rfl, fun q W hb hkp hw => goes_load (v1 := .pointer (some ⟨w.heap.size, 0, none⟩)) (hkp 6 (by decide)) (HK8.out W hb).2.2.2.1.ld rfl⟩,
              ⟨.inl rfl, fun q W hb hkp hw => goes_call1 (hw 3 71 (by kernel_rfl)) (by go_simp) ((HV1.out W hb).mono (by rintro e w' ⟨A2, z, c2, rfl, hz, ho, hb'⟩; exact ⟨_, rfl, ⟨A2, z, c2, rfl, hz, ho⟩, hb'⟩))⟩,
              ⟨.inl rfl, fun q W hb hkp hw => goes_load (v1 := .pointer (some ⟨w3.heap.size, 0, none⟩)) (hkp 13 (by decide)) (HK8.out W hb).1.ld rfl⟩,
              ⟨.inl rfl, fun q W hb hkp hw => goes_call1 (hw 5 73 (by kernel_rfl)) (by go_simp) ((HV2.out W hb).mono (by rintro e w' ⟨A2, z, c2, rfl, hz, ho, hb'⟩; exact ⟨_, rfl, ⟨A2, z, c2, rfl, hz, ho⟩, hb'⟩))⟩,
              ⟨.inl rfl, fun q W hb hkp hw => by
                obtain ⟨A3, z3, c3, e3, hz3, hi3⟩ := hw 4 72 (by kernel_rfl)
                obtain ⟨A4, z4, c4, e4, hz4, hi4⟩ := hw 6 74 (by kernel_rfl)
                exact goes_call2 e3 e4 (by go_simp) ((bothL_any _ _ A3 A4 c3 c4 z3 z4 _ _ hz3 hz4 (HSZ.out z3 z4 hz3 hz4).1 (HSZ.out z3 z4 hz3 hz4).2.1 (HSZ.out z3 z4 hz3 hz4).2.2 W hi3 hi4 (Nat.le_refl _) (Nat.le_refl _)).mono (by rintro e w' ⟨A2, c2, z, rfl, hz, ho, hb'⟩; exact ⟨_, rfl, ⟨A2, z, c2, rfl, hz, ho.reads⟩, hb'⟩))⟩,
              ⟨.inl rfl, fun q W hb hkp hw => by
                obtain ⟨A3, z3, c3, e3, hz3, hi3⟩ := hw 2 70 (by kernel_rfl)
                obtain ⟨A4, z4, c4, e4, hz4, hi4⟩ := hw 7 75 (by kernel_rfl)
                exact goes_call2 e3 e4 (by go_simp) ((bothL_any _ _ A3 A4 c3 c4 z3 z4 _ _ hz3 hz4 (HSY.out z3 z4 hz3 hz4).1 (HSY.out z3 z4 hz3 hz4).2.1 (HSY.out z3 z4 hz3 hz4).2.2 W hi3 hi4 (Nat.le_refl _) (Nat.le_refl _)).mono (by rintro e w' ⟨A2, c2, z, rfl, hz, ho, hb'⟩; exact ⟨_, rfl, ⟨A2, z, c2, rfl, hz, ho.reads⟩, hb'⟩))⟩,
              ⟨.inl rfl, fun q W hb hkp hw => by
                obtain ⟨A3, z3, c3, e3, hz3, hi3⟩ := hw 8 76 (by kernel_rfl)
                exact goes_val (run_lenI e3) ⟨z3, rfl, hz3⟩⟩,
              ⟨.inl rfl, fun q W hb hkp hw => by
                obtain ⟨z3, e3, hz3⟩ := hw 9 77 (by kernel_rfl)
                have hpos : (0 : Int) < (z3 : Int) := by have := HPOS.out; omega
                exact goes_val (run_bin e3 (show _ = .int .i64 0 from rfl) (by clear hw hkp hb e3 hz3; go_simp; omega)) rfl⟩,
              ⟨.inl rfl, fun q W hb hkp hw => goes_move rfl (hw 10 78 (by kernel_rfl))⟩,
              ⟨.inr ⟨11, 79, true, rfl, by kernel_rfl, fun _ _ h => h⟩, fun q W hb hkp hw => goes_call0 (by go_simp) ((works_any W).mono (by rintro e w' ⟨rfl, hb'⟩; exact ⟨_, rfl, rfl, hb'⟩))⟩,
              ⟨.inl rfl, fun q W hb hkp hw => goes_val (run_pick (hw 11 79 (by kernel_rfl)) (show _ = .bool true from hw 12 80 (by kernel_rfl))) rfl⟩,
              ⟨.inl rfl, fun q W hb hkp hw => goes_assign rfl (hw 13 81 (by kernel_rfl))⟩, trivial⟩
          case he =>
            intro u w9 hH hq
            have e12 : u 12 = .bool true := hH 14 12 (by decide) (by kernel_rfl)
            have G9 := hid hq
            exact h2 _ _ (Met.intro (h1 _ _ ⟨u 12, u 68, u 69, u 70, u 71, u 72, u 73, u 74, u 75, u 76, u 77, u 78, u 79, u 80, u 81, ⟨e12, G9⟩, by kernel_rfl⟩))
        case rest =>
          obtain ⟨rfl, G9⟩ := hcut
          have HEND := hid (HK8.out _ G9.out).2.2.2.2.2.2.2.1
          clear G9
          go_wp2_with fail
          go_ret
          exact ⟨rfl, HEND.out⟩
end Go.Proofs.YtfkjahpcpmcefaaGreat.Co
namespace Go.Proofs.YtfkjahpcpmcefaaGreat.Co
open Go Go.RowKit
open Qu (Cf)
set_option maxRecDepth 100000
set_option linter.unusedVariables false
attribute [local go_sem ↓] Im.loadAt_conf3 Im.storeAt_conf3 loadAt_mem storeAt_mem
section
variable {ρ : Operand → Value} {ty : TypeId} {w : World} {x y : Operand}
theorem run_gt0 {n : Nat} (h : ρ x = .int .i64 (n : Nat)) (h2 : ρ (.const (.int .i64 0)) = .int .i64 0) (hn : n = 0) : (execOp ρ (sop (.binOp .gtr 3 x (.const (.int .i64 0)) 3) ty)).run Tryz.prog w = .ok (.value (.bool false)) w := by
  subst hn; exact run_bin h h2 (by go_simp)
theorem run_neF {n m : Int} (h : ρ x = .int .i64 n) (h2 : ρ y = .int .i64 m) (hnm : n = m) : (execOp ρ (sop (.binOp .neq 3 x y 3) ty)).run Tryz.prog w = .ok (.value (.bool false)) w := by
  subst hnm; exact run_bin h h2 (by go_simp)
theorem run_add1 {n : Nat} (h : ρ x = .int .i64 (n : Nat)) (h2 : ρ (.const (.int .i64 1)) = .int .i64 1) (hn : n ≤ 1000) : (execOp ρ (sop (.binOp .add 3 x (.const (.int .i64 1)) 3) ty)).run Tryz.prog w = .ok (.value (.int .i64 ((n + 1 : Nat) : Nat))) w :=
  run_bin h h2 (by
    have e : IntKind.i64.wrap ((n : Int) + 1) = ((n + 1 : Nat) : Int) := by rw [IntKind.wrap_i64]; omega
    rw [← e]
    go_simp)
theorem run_sub1 {n : Nat} (h : ρ x = .int .i64 (n : Nat)) (h2 : ρ (.const (.int .i64 1)) = .int .i64 1) (hn : 1 ≤ n ∧ n ≤ 1000) : (execOp ρ (sop (.binOp .sub 3 x (.const (.int .i64 1)) 3) ty)).run Tryz.prog w = .ok (.value (.int .i64 ((n - 1 : Nat) : Nat))) w :=
  run_bin h h2 (by
    have e : IntKind.i64.wrap ((n : Int) - 1) = ((n - 1 : Nat) : Int) := by rw [IntKind.wrap_i64]; omega
    rw [← e]
    go_simp)
end
def H9 (b10 b2 : Nat) (md m : M3) (n : Int) (U : List Int) (c : Cf) : Nat → Gp
  | 0 => Gp.is (.bool true)
  | 1 => Gp.is (.bool false)
  | 2 => Gp.is (.bool false)
  | 3 => Gp.is (.bool true)
  | 4 => Gp.is (.bool false)
  | 5 => Gp.is (.bool false)
  | 6 => Gp.is (.bool false)
  | 7 => Gp.is (.bool false)
  | 8 => Gp.is (.bool false)
  | 9 => Gp.is (.bool false)
  | 10 => Gp.is (.pointer (some ⟨b10, 1, none⟩))
  | 11 => Gp.is (.slice md.a1 md.n1 md.k1)
  | 12 => Gp.is (.int .i64 (md.n1 : Nat))
  | 13 => Gp.is (.bool false)
  | 14 => Gp.is (.bool false)
  | 15 => Gp.is (.bool false)
  | 16 => Gp.is (.pointer (some ⟨b10, 2, none⟩))
  | 17 => Gp.is (.slice md.a2 md.n2 md.k2)
  | 18 => Gp.is (.int .i64 (md.n2 : Nat))
  | 19 => Gp.is (.bool false)
  | 20 => Gp.is (.bool false)
  | 21 => Gp.is (.bool false)
  | 22 => Gp.is (.pointer (some ⟨b10, 0, none⟩))
  | 23 => Gp.is (.slice md.a0 md.n0 md.k0)
  | 24 => Gp.is (.int .i64 (md.n0 : Nat))
  | 25 => Gp.is (.pointer (some ⟨b2, 0, none⟩))
  | 26 => Gp.is (.slice m.a0 m.n0 m.k0)
  | 27 => Gp.is (.int .i64 (m.n0 : Nat))
  | 28 => Gp.is (.int .i64 ((m.n0 + 1 : Nat) : Nat))
  | 29 => Gp.is (.bool false)
  | 30 => Gp.is (.bool false)
  | 31 => Gp.is (.bool false)
  | 32 => Gp.is (.pointer (some ⟨b10, 0, none⟩))
  | 33 => Gp.is (.slice md.a0 md.n0 md.k0)
  | 34 => Gp.is (.int .i64 n)
  | 35 => Gp.row 0 1 #[.int .i64 n] 3
  | 36 => lstP (both U [n])
  | 37 => lenP (both U [n]).length
  | 38 => Gp.is (.bool false)
  | 39 => Gp.is (.bool false)
  | 40 => Gp.is (.bool false)
  | 41 => Gp.is (.pointer (some ⟨b10, 0, none⟩))
  | 42 => Gp.is (.slice md.a0 md.n0 md.k0)
  | 43 => Gp.is (.pointer (some ⟨b2, 0, none⟩))
  | 44 => Gp.is (.slice m.a0 m.n0 m.k0)
  | 45 => lstP (both U c.old)
  | 46 => lenP (both U c.old).length
  | 47 => Gp.is (.pointer (some ⟨b2, 0, none⟩))
  | 48 => Gp.is (.slice m.a0 m.n0 m.k0)
  | 49 => Gp.is (.int .i64 (m.n0 : Nat))
  | 50 => Gp.is (.bool false)
  | 51 => Gp.is (.bool false)
  | _ => Gp.any
def H18 (b17 b2 : Nat) (md m : M3) (n : Int) (U : List Int) (c : Cf) : Nat → Gp
  | 0 => Gp.is (.bool true)
  | 1 => Gp.is (.bool false)
  | 2 => Gp.is (.bool false)
  | 3 => Gp.is (.pointer (some ⟨b17, 1, none⟩))
  | 4 => Gp.is (.slice md.a1 md.n1 md.k1)
  | 5 => Gp.is (.int .i64 (md.n1 : Nat))
  | 6 => Gp.is (.bool false)
  | 7 => Gp.is (.bool false)
  | 8 => Gp.is (.bool false)
  | 9 => Gp.is (.pointer (some ⟨b17, 2, none⟩))
  | 10 => Gp.is (.slice md.a2 md.n2 md.k2)
  | 11 => Gp.is (.int .i64 (md.n2 : Nat))
  | 12 => Gp.is (.bool false)
  | 13 => Gp.is (.bool false)
  | 14 => Gp.is (.bool false)
  | 15 => Gp.is (.pointer (some ⟨b17, 0, none⟩))
  | 16 => Gp.is (.slice md.a0 md.n0 md.k0)
  | 17 => Gp.is (.int .i64 (md.n0 : Nat))
  | 18 => Gp.is (.pointer (some ⟨b2, 0, none⟩))
  | 19 => Gp.is (.slice m.a0 m.n0 m.k0)
  | 20 => Gp.is (.int .i64 (m.n0 : Nat))
  | 21 => Gp.is (.int .i64 ((m.n0 - 1 : Nat) : Nat))
  | 22 => Gp.is (.bool false)
  | 23 => Gp.is (.bool false)
  | 24 => Gp.is (.bool false)
  | 25 => Gp.is (.pointer (some ⟨b17, 0, none⟩))
  | 26 => Gp.is (.slice md.a0 md.n0 md.k0)
  | 27 => Gp.is (.int .i64 n)
  | 28 => Gp.row 0 1 #[.int .i64 n] 3
  | 29 => lstP (both U [n])
  | 30 => lenP (both U [n]).length
  | 31 => Gp.is (.bool false)
  | 32 => Gp.is (.bool false)
  | 33 => Gp.is (.bool false)
  | 34 => Gp.is (.pointer (some ⟨b17, 0, none⟩))
  | 35 => Gp.is (.slice md.a0 md.n0 md.k0)
  | 36 => Gp.is (.pointer (some ⟨b2, 0, none⟩))
  | 37 => Gp.is (.slice m.a0 m.n0 m.k0)
  | 38 => lstP (both U c.old)
  | 39 => lenP (both U c.old).length
  | 40 => Gp.is (.pointer (some ⟨b17, 0, none⟩))
  | 41 => Gp.is (.slice md.a0 md.n0 md.k0)
  | 42 => Gp.is (.int .i64 (md.n0 : Nat))
  | 43 => Gp.is (.bool false)
  | 44 => Gp.is (.bool false)
  | _ => Gp.any
end Go.Proofs.YtfkjahpcpmcefaaGreat.Co
