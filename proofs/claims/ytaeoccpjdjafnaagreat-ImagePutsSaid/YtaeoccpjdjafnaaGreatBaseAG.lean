/- Texts of the proof, one behind the other: ConfIn, ImIn, KitChange, ImBk, ImOrd. -/
import Derived.Test.YtaeoccpjdjafnaaGreatBaseAC
import Derived.Deep.Slices
import Derived.Deep.Fields
import Derived.ChangeSame
import Derived.WalkLawsBesides
import Derived.ProofKit
import Derived.OpenShut
import Derived.Test.YtaeoccpjdjafnaaGreatBaseAA
import Derived.Test.YtaeoccpjdjafnaaGreatBaseAF
import Derived.Test.YtaeoccpjdjafnaaGreatBaseAD
namespace Go.Proofs.YtaeoccpjdjafnaaGreat
open Go.RowKit Go.ChangeShapes Go.WideShapes Go.Deep
set_option maxRecDepth 100000

theorem intsIn_of_trod {H : Type} {enc : TypeId × Value → H} {W : World} {fuel : Nat} {cs : List Value} {x : DataW H × List MemPlace} (h : DataW.trod enc Tryz.prog W 0 (fun _ => true) true fuel 26 cs = some x) :
    ∃ (a : Option Addr) (c : Nat) (l : List Int), cs = [.slice a l.length c] ∧ IsInts W W.heap.size a l ∧ (l.length ≤ c ∧ c ≤ maxLen) ∧ (a = none → c = 0) := by
  rcases open_ints Tryz.underlying26 Tryz.underlying3 (by kernel_rfl) h with ⟨hcs, _⟩ | ⟨x, l, c, zs, hcs, _, hl, hm, hz, hx, hcell, hwz⟩
  · exact ⟨none, 0, [], hcs, IsInts.nil, ⟨Nat.le_refl _, Nat.zero_le _⟩, fun _ => rfl⟩
  · simp only [if_true] at hz
    obtain ⟨m, h1, h2⟩ := isInts_of_ints hl hz hcell hwz
    subst h2
    exact ⟨some x, c, m, hcs, h1, ⟨hl, hm⟩, fun h => by cases h⟩
theorem one_cell3 {cs : List Value} (h : cs.length = 3) (j : Nat) (hj : j < 3) : (cs.drop j).take 1 = [cs[j]'(by omega)] := by
  rw [List.drop_eq_getElem_cons (by omega)]
  rfl
theorem cellsOf_conf : Tryz.prog.cellsOf 28 = 3 := by kernel_rfl
theorem conf_of_trod {H : Type} {enc : TypeId × Value → H} {W : World} {fuel : Nat} {cs : List Value} {x : DataW H × List MemPlace} (hcl : cs.length = 3) (h : DataW.trod enc Tryz.prog W 0 (fun _ => true) true fuel 28 cs = some x) :
    ∃ (c : Qu.Cf) (a0 a1 a2 : Option Addr) (k0 k1 k2 : Nat), cs = [.slice a0 c.old.length k0, .slice a1 c.new.length k1, .slice a2 c.lrn.length k2] ∧ CIs W W.heap.size c a0 a1 a2 k0 k1 k2 := by
  obtain ⟨ys, n, _, _, _, hyl, hf⟩ := DataW.trod_struct Tryz.underlying28 h
  have hyl3 : ys.length = 3 := hyl
  have e0 : DataW.trod enc Tryz.prog W 0 (fun _ => true) true n 26 ((cs.drop 0).take (Tryz.prog.cellsOf 26)) = ys[0]? := hf 0 _ rfl
  have e1 : DataW.trod enc Tryz.prog W 0 (fun _ => true) true n 26 ((cs.drop 1).take (Tryz.prog.cellsOf 26)) = ys[1]? := hf 1 _ rfl
  have e2 : DataW.trod enc Tryz.prog W 0 (fun _ => true) true n 26 ((cs.drop 2).take (Tryz.prog.cellsOf 26)) = ys[2]? := hf 2 _ rfl
  have c3 : Tryz.prog.cellsOf 26 = 1 := by kernel_rfl
  rw [c3] at e0 e1 e2
  rw [one_cell3 hcl 0 (by omega), List.getElem?_eq_getElem (by omega)] at e0
  rw [one_cell3 hcl 1 (by omega), List.getElem?_eq_getElem (by omega)] at e1
  rw [one_cell3 hcl 2 (by omega), List.getElem?_eq_getElem (by omega)] at e2
  obtain ⟨a0, k0, l0, p1, p2, p3, p4⟩ := intsIn_of_trod e0
  obtain ⟨a1, k1, l1, q1, q2, q3, q4⟩ := intsIn_of_trod e1
  obtain ⟨a2, k2, l2, r1, r2, r3, r4⟩ := intsIn_of_trod e2
  have p1 := (List.cons.inj p1).1
  have q1 := (List.cons.inj q1).1
  have r1 := (List.cons.inj r1).1
  refine ⟨⟨l0, l1, l2⟩, a0, a1, a2, k0, k1, k2, ?_, ⟨p2, q2, r2, p4, q4, r4, p3, q3, r3⟩⟩
  match cs, hcl with
  | [x0, x1, x2], _ =>
    simp at p1 q1 r1
    rw [p1, q1, r1]
theorem conf_open {H : Type} {enc : TypeId × Value → H} {W : World} {cs : Array Value} {d : DataW H} {p : List MemPlace} (hsz : cs.size = Tryz.prog.cellsOf 28) (h : DataW.Trod enc Tryz.prog W 0 (fun _ => true) true 28 (.agg cs) d p) :
    ∃ (c : Qu.Cf) (a0 a1 a2 : Option Addr) (k0 k1 k2 : Nat), cs = #[.slice a0 c.old.length k0, .slice a1 c.new.length k1, .slice a2 c.lrn.length k2] ∧ CIs W W.heap.size c a0 a1 a2 k0 k1 k2 := by
  obtain ⟨fuel, hf⟩ := h
  rw [cellsOf_conf] at hsz
  obtain ⟨c, a0, a1, a2, k0, k1, k2, e, hc⟩ := conf_of_trod (cs := cs.toList) (by simpa using hsz) hf
  refine ⟨c, a0, a1, a2, k0, k1, k2, ?_, hc⟩
  rw [← Array.toArray_toList (xs := cs), e]
end Go.Proofs.YtaeoccpjdjafnaaGreat
namespace Go.Proofs.YtaeoccpjdjafnaaGreat.Im
open Go.RowKit Go.ChangeShapes Go.WideShapes Go.Deep
set_option maxRecDepth 100000

theorem cellsOf_int : Tryz.prog.cellsOf 3 = 1 := by kernel_rfl
theorem cellsOf_bytes : Tryz.prog.cellsOf 35 = 1 := by kernel_rfl
theorem cellsOf_hard : Tryz.prog.cellsOf 75 = 10 := by kernel_rfl
theorem cellsOf_vote : Tryz.prog.cellsOf 60 = 5 := by kernel_rfl
theorem cellsOf_change : Tryz.prog.cellsOf 62 = 17 := by kernel_rfl
theorem cellsOf_hards : Tryz.prog.cellsOf 22 = 1 := by kernel_rfl
theorem cellsOf_votes : Tryz.prog.cellsOf 23 = 1 := by kernel_rfl
theorem cellsOf_image : Tryz.prog.cellsOf 25 = 2 := by kernel_rfl
theorem len_sub {cs : List Value} {n j k : Nat} (h : cs.length = n) (hj : j + k ≤ n) : ((cs.drop j).take k).length = k := by
  rw [List.length_take, List.length_drop]; omega
theorem add_off (b o k : Nat) : (⟨b, o, none⟩ : Addr).add k = ⟨b, o + k, none⟩ := by unfold Addr.add; split <;> simp [*]
/-- rows of elements, each read by itself -/
theorem rows_in {α : Type} {f : α → List Value} {size : Nat} {W : World} {a : Addr} {len : Nat} (P : α → Prop) (hs : 0 < size)
    (h : ∀ i, i < len → ∃ cs, W.cells? 0 (a.add (i * size)) size = some cs ∧ ∃ x : α, cs = f x ∧ P x) :
    ∃ L : List α, L.length = len ∧ IsRow f size W W.heap.size (some a) L ∧ ∀ x ∈ L, P x := by
  have hth : ∀ i, i < len → ∃ x : α, P x ∧ W.cells? 0 (a.add (i * size)) size = some (f x) := fun i hi => by
    obtain ⟨cs, h1, x, rfl, h3⟩ := h i hi
    exact ⟨x, h3, h1⟩
  refine ⟨(List.range len).attach.map (fun i => (hth i.1 (List.mem_range.1 i.2)).choose), by simp, ⟨fun k hk => ?_⟩, fun x hx => ?_⟩
  · have hk' : k < len := by simpa using hk
    obtain ⟨_, hcs0⟩ := (hth 0 (by omega)).choose_spec
    obtain ⟨_, hcl, hat⟩ := World.cells?_some hcs0
    have hsp := hat 0 hs
    rw [List.getElem?_eq_getElem (by omega)] at hsp
    have hlt := World.block_lt_of_cell? _ _ hsp
    have hspot := World.cell?_spot hsp
    obtain ⟨b, off, spot⟩ := a
    have hsn : spot = none := by simpa [Addr.add] using hspot
    subst hsn
    have hb : b < W.heap.size := by simpa [Addr.add] using hlt
    refine ⟨b, off, rfl, hb, fun i hi' => ?_⟩
    have hi2 : i < len := by simpa using hi'
    simp only [List.getElem_map, List.getElem_attach, List.getElem_range]
    obtain ⟨_, hci⟩ := (hth i hi2).choose_spec
    obtain ⟨_, hcl, hat⟩ := World.cells?_some hci
    intro j v hv
    have hj : j < size := by rw [← hcl]; exact (List.getElem?_eq_some_iff.1 hv).1
    have := hat j hj
    rw [hv, Go.Deep.add_add, add_off] at this
    rw [Nat.add_assoc]
    exact this
  · obtain ⟨i, _, rfl⟩ := List.mem_map.1 hx
    exact (hth i.1 (List.mem_range.1 i.2)).choose_spec.1
/-- the parts of a group's state, of a change -/
theorem pt_in {H : Type} {enc : TypeId × Value → H} {W : World} {fuel : Nat} {c1 c2 c3 : List Value} {x1 x2 x3 : DataW H × List MemPlace} (h1 : c1.length = 3) (h2 : c2.length = 3)
    (e1 : DataW.trod enc Tryz.prog W 0 (fun _ => true) true fuel 58 c1 = some x1)
    (e2 : DataW.trod enc Tryz.prog W 0 (fun _ => true) true fuel 28 c2 = some x2)
    (e3 : DataW.trod enc Tryz.prog W 0 (fun _ => true) true fuel 35 c3 = some x3) :
    ∃ (p : Pt) (a : Ad), c1 ++ (c2 ++ c3) = [.int .i64 p.log.base, .int .i64 p.log.term, .slice a.e p.log.es.length a.ce, .slice a.o p.cf.old.length a.co, .slice a.n p.cf.new.length a.cn, .slice a.l p.cf.lrn.length a.cl, .slice a.s p.sn.length a.cs] ∧ IsPt W W.heap.size p a := by
  obtain ⟨g, a, c, r1, r2⟩ := log_of_trod h1 e1
  obtain ⟨f, a0, a1, a2, k0, k1, k2, s1, s2⟩ := conf_of_trod h2 e2
  obtain ⟨ab, cb, l, t1, t2, t3, t4⟩ := bytes_of_trod e3
  refine ⟨⟨g, f, l⟩, ⟨a, c, a0, k0, a1, k1, a2, k2, ab, cb⟩, ?_, ⟨r2.es, s2.o, s2.n, s2.l, t2, ⟨r2.room, r2.none_⟩, ⟨s2.co, s2.zo⟩, ⟨s2.cn, s2.zn⟩, ⟨s2.cl, s2.zl⟩, ⟨t3, t4⟩, r2.num⟩⟩
  rw [r1, s1, t1]
  rfl

theorem vote_in {H : Type} {enc : TypeId × Value → H} {W : World} {fuel : Nat} {cs : List Value} {x : DataW H × List MemPlace} (hcl : cs.length = 5) (h : DataW.trod enc Tryz.prog W 0 (fun _ => true) true fuel 60 cs = some x) :
    ∃ v : Vt, cs = cellsV v ∧ okV v := by
  obtain ⟨ys, n, _, _, _, hyl, hf⟩ := DataW.trod_struct Tryz.underlying60 h
  have hyl5 : ys.length = 5 := hyl
  have e0 : DataW.trod enc Tryz.prog W 0 (fun _ => true) true n 3 ((cs.drop 0).take (Tryz.prog.cellsOf 3)) = ys[0]? := hf 0 _ rfl
  rw [cellsOf_int, List.getElem?_eq_getElem (by omega)] at e0
  obtain ⟨i0, p0, q0⟩ := int_of_trod e0
  have e1 : DataW.trod enc Tryz.prog W 0 (fun _ => true) true n 3 ((cs.drop 1).take (Tryz.prog.cellsOf 3)) = ys[1]? := hf 1 _ rfl
  rw [cellsOf_int, List.getElem?_eq_getElem (by omega)] at e1
  obtain ⟨i1, p1, q1⟩ := int_of_trod e1
  have e2 : DataW.trod enc Tryz.prog W 0 (fun _ => true) true n 3 ((cs.drop 2).take (Tryz.prog.cellsOf 3)) = ys[2]? := hf 2 _ rfl
  rw [cellsOf_int, List.getElem?_eq_getElem (by omega)] at e2
  obtain ⟨i2, p2, q2⟩ := int_of_trod e2
  have e3 : DataW.trod enc Tryz.prog W 0 (fun _ => true) true n 3 ((cs.drop 3).take (Tryz.prog.cellsOf 3)) = ys[3]? := hf 3 _ rfl
  rw [cellsOf_int, List.getElem?_eq_getElem (by omega)] at e3
  obtain ⟨i3, p3, q3⟩ := int_of_trod e3
  have e4 : DataW.trod enc Tryz.prog W 0 (fun _ => true) true n 3 ((cs.drop 4).take (Tryz.prog.cellsOf 3)) = ys[4]? := hf 4 _ rfl
  rw [cellsOf_int, List.getElem?_eq_getElem (by omega)] at e4
  obtain ⟨i4, p4, q4⟩ := int_of_trod e4
  refine ⟨⟨i0, i1, i2, i3, i4⟩, ?_, ⟨⟨⟨⟨q0, q1⟩, q2⟩, q3⟩, q4⟩⟩
  have hs : cs = (cs.drop 0).take 1 ++ ((cs.drop 1).take 1 ++ ((cs.drop 2).take 1 ++ ((cs.drop 3).take 1 ++ (cs.drop 4).take 1))) := by
    match cs, hcl with
    | [_, _, _, _, _], _ => rfl
  rw [hs, p0, p1, p2, p3, p4]
  rfl
theorem split10 {cs : List Value} (h : cs.length = 10) : cs = (cs.drop 0).take 1 ++ ((cs.drop 1).take 1 ++ ((cs.drop 2).take 1 ++ (((cs.drop 3).take 3 ++ ((cs.drop 6).take 3 ++ (cs.drop 9).take 1))))) := by
  match cs, h with
  | [_, _, _, _, _, _, _, _, _, _], _ => rfl
theorem hard_in {H : Type} {enc : TypeId × Value → H} {W : World} {fuel : Nat} {cs : List Value} {x : DataW H × List MemPlace} (hcl : cs.length = 10) (h : DataW.trod enc Tryz.prog W 0 (fun _ => true) true fuel 75 cs = some x) :
    ∃ q : Hq, cs = cellsH q ∧ IsPt W W.heap.size q.h.p q.a ∧ (InInt q.h.g ∧ InInt q.h.t ∧ InInt q.h.v) := by
  obtain ⟨ys, n, _, _, _, hyl, hf⟩ := DataW.trod_struct Tryz.underlying75 h
  have hyl5 : ys.length = 6 := hyl
  have e0 : DataW.trod enc Tryz.prog W 0 (fun _ => true) true n 3 ((cs.drop 0).take (Tryz.prog.cellsOf 3)) = ys[0]? := hf 0 _ rfl
  rw [cellsOf_int, List.getElem?_eq_getElem (by omega)] at e0
  obtain ⟨i0, p0, q0⟩ := int_of_trod e0
  have e1 : DataW.trod enc Tryz.prog W 0 (fun _ => true) true n 3 ((cs.drop 1).take (Tryz.prog.cellsOf 3)) = ys[1]? := hf 1 _ rfl
  rw [cellsOf_int, List.getElem?_eq_getElem (by omega)] at e1
  obtain ⟨i1, p1, q1⟩ := int_of_trod e1
  have e2 : DataW.trod enc Tryz.prog W 0 (fun _ => true) true n 3 ((cs.drop 2).take (Tryz.prog.cellsOf 3)) = ys[2]? := hf 2 _ rfl
  rw [cellsOf_int, List.getElem?_eq_getElem (by omega)] at e2
  obtain ⟨i2, p2, q2⟩ := int_of_trod e2
  have e3a : DataW.trod enc Tryz.prog W 0 (fun _ => true) true n 58 ((cs.drop 3).take (Tryz.prog.cellsOf 58)) = ys[3]? := hf 3 _ rfl
  have e3b : DataW.trod enc Tryz.prog W 0 (fun _ => true) true n 28 ((cs.drop 6).take (Tryz.prog.cellsOf 28)) = ys[4]? := hf 4 _ rfl
  have e3c : DataW.trod enc Tryz.prog W 0 (fun _ => true) true n 35 ((cs.drop 9).take (Tryz.prog.cellsOf 35)) = ys[5]? := hf 5 _ rfl
  rw [cellsOf_log, List.getElem?_eq_getElem (by omega)] at e3a
  rw [cellsOf_conf, List.getElem?_eq_getElem (by omega)] at e3b
  rw [cellsOf_bytes, List.getElem?_eq_getElem (by omega)] at e3c
  obtain ⟨pt, ad, hp, hq⟩ := pt_in (len_sub hcl (by omega)) (len_sub hcl (by omega)) e3a e3b e3c
  refine ⟨⟨⟨i0, i1, i2, pt⟩, ad⟩, ?_, hq, q0, q1, q2⟩
  rw [split10 hcl, p0, p1, p2, hp]
  rfl
theorem split17 {cs : List Value} (h : cs.length = 17) : cs = (cs.drop 0).take 1 ++ ((cs.drop 1).take 1 ++ ((cs.drop 2).take 1 ++ ((cs.drop 3).take 1 ++ ((cs.drop 4).take 1 ++ (((cs.drop 5).take 3 ++ ((cs.drop 8).take 3 ++ (cs.drop 11).take 1)) ++ (cs.drop 12).take 5))))) := by
  match cs, h with
  | [_, _, _, _, _, _, _, _, _, _, _, _, _, _, _, _, _], _ => rfl
theorem change_in {H : Type} {enc : TypeId × Value → H} {W : World} {fuel : Nat} {cs : List Value} {x : DataW H × List MemPlace} (hcl : cs.length = 17) (h : DataW.trod enc Tryz.prog W 0 (fun _ => true) true fuel 62 cs = some x) :
    ∃ q : Cq, cs = cellsC q ∧ IsPt W W.heap.size q.c.p q.a ∧ (InInt q.c.k ∧ InInt q.c.g ∧ InInt q.c.t ∧ InInt q.c.v ∧ InInt q.c.f) ∧ okV q.c.a := by
  obtain ⟨ys, n, _, _, _, hyl, hf⟩ := DataW.trod_struct Tryz.underlying62 h
  have hyl5 : ys.length = 9 := hyl
  have e0 : DataW.trod enc Tryz.prog W 0 (fun _ => true) true n 3 ((cs.drop 0).take (Tryz.prog.cellsOf 3)) = ys[0]? := hf 0 _ rfl
  rw [cellsOf_int, List.getElem?_eq_getElem (by omega)] at e0
  obtain ⟨i0, p0, q0⟩ := int_of_trod e0
  have e1 : DataW.trod enc Tryz.prog W 0 (fun _ => true) true n 3 ((cs.drop 1).take (Tryz.prog.cellsOf 3)) = ys[1]? := hf 1 _ rfl
  rw [cellsOf_int, List.getElem?_eq_getElem (by omega)] at e1
  obtain ⟨i1, p1, q1⟩ := int_of_trod e1
  have e2 : DataW.trod enc Tryz.prog W 0 (fun _ => true) true n 3 ((cs.drop 2).take (Tryz.prog.cellsOf 3)) = ys[2]? := hf 2 _ rfl
  rw [cellsOf_int, List.getElem?_eq_getElem (by omega)] at e2
  obtain ⟨i2, p2, q2⟩ := int_of_trod e2
  have e3 : DataW.trod enc Tryz.prog W 0 (fun _ => true) true n 3 ((cs.drop 3).take (Tryz.prog.cellsOf 3)) = ys[3]? := hf 3 _ rfl
  rw [cellsOf_int, List.getElem?_eq_getElem (by omega)] at e3
  obtain ⟨i3, p3, q3⟩ := int_of_trod e3
  have e4 : DataW.trod enc Tryz.prog W 0 (fun _ => true) true n 3 ((cs.drop 4).take (Tryz.prog.cellsOf 3)) = ys[4]? := hf 4 _ rfl
  rw [cellsOf_int, List.getElem?_eq_getElem (by omega)] at e4
  obtain ⟨i4, p4, q4⟩ := int_of_trod e4
  have e5a : DataW.trod enc Tryz.prog W 0 (fun _ => true) true n 58 ((cs.drop 5).take (Tryz.prog.cellsOf 58)) = ys[5]? := hf 5 _ rfl
  have e5b : DataW.trod enc Tryz.prog W 0 (fun _ => true) true n 28 ((cs.drop 8).take (Tryz.prog.cellsOf 28)) = ys[6]? := hf 6 _ rfl
  have e5c : DataW.trod enc Tryz.prog W 0 (fun _ => true) true n 35 ((cs.drop 11).take (Tryz.prog.cellsOf 35)) = ys[7]? := hf 7 _ rfl
  rw [cellsOf_log, List.getElem?_eq_getElem (by omega)] at e5a
  rw [cellsOf_conf, List.getElem?_eq_getElem (by omega)] at e5b
  rw [cellsOf_bytes, List.getElem?_eq_getElem (by omega)] at e5c
  obtain ⟨pt, ad, hp, hq⟩ := pt_in (len_sub hcl (by omega)) (len_sub hcl (by omega)) e5a e5b e5c
  have e8 : DataW.trod enc Tryz.prog W 0 (fun _ => true) true n 60 ((cs.drop 12).take (Tryz.prog.cellsOf 60)) = ys[8]? := hf 8 _ rfl
  rw [cellsOf_vote, List.getElem?_eq_getElem (by omega)] at e8
  obtain ⟨vt, hv, hw⟩ := vote_in (len_sub hcl (by omega)) e8
  refine ⟨⟨⟨i0, i1, i2, i3, i4, pt, vt⟩, ad⟩, ?_, hq, ⟨q0, q1, q2, q3, q4⟩, hw⟩
  rw [split17 hcl, p0, p1, p2, p3, p4, hp, hv]
  rfl
theorem hards_in {H : Type} {enc : TypeId × Value → H} {W : World} {fuel : Nat} {cs : List Value} {x : DataW H × List MemPlace} (h : DataW.trod enc Tryz.prog W 0 (fun _ => true) true fuel 22 cs = some x) :
    ∃ (a : Option Addr) (c : Nat) (L : List Hq), cs = [.slice a L.length c] ∧ IsHds W W.heap.size a L ∧ (L.length ≤ c ∧ c ≤ maxLen) ∧ (a = none → c = 0) := by
  rcases open_slice Tryz.underlying22 h with ⟨hcs, _⟩ | ⟨a, len, cap, m, n, D, Pl, hcs, _, hl, hm, hmm, _, hi⟩
  · exact ⟨none, 0, [], hcs, ⟨IsRow.nil, by simp, by simp⟩, ⟨Nat.le_refl _, Nat.zero_le _⟩, fun _ => rfl⟩
  · simp only [if_true] at hmm
    subst hmm
    rw [cellsOf_hard] at hi
    obtain ⟨L, h1, h2, h3⟩ := rows_in (f := cellsH) (size := 10) (W := W) (a := a) (len := len) (fun q => IsPt W W.heap.size q.h.p q.a ∧ (InInt q.h.g ∧ InInt q.h.t ∧ InInt q.h.v)) (by decide) (fun i hlt => by
      obtain ⟨cs', e1, e2⟩ := hi i (by omega)
      obtain ⟨q, r1, r2⟩ := hard_in (World.cells?_some e1).2.1 e2
      exact ⟨cs', e1, q, r1, r2⟩)
    subst h1
    exact ⟨some a, _, L, hcs, ⟨h2, fun q hq => (h3 q hq).1, fun q hq => (h3 q hq).2⟩, ⟨hl, hm⟩, fun h => by cases h⟩
theorem votes_in {H : Type} {enc : TypeId × Value → H} {W : World} {fuel : Nat} {cs : List Value} {x : DataW H × List MemPlace} (h : DataW.trod enc Tryz.prog W 0 (fun _ => true) true fuel 23 cs = some x) :
    ∃ (a : Option Addr) (c : Nat) (L : List Vt), cs = [.slice a L.length c] ∧ IsVs W W.heap.size a L ∧ (L.length ≤ c ∧ c ≤ maxLen) ∧ (a = none → c = 0) := by
  rcases open_slice Tryz.underlying23 h with ⟨hcs, _⟩ | ⟨a, len, cap, m, n, D, Pl, hcs, _, hl, hm, hmm, _, hi⟩
  · exact ⟨none, 0, [], hcs, ⟨IsRow.nil, by simp⟩, ⟨Nat.le_refl _, Nat.zero_le _⟩, fun _ => rfl⟩
  · simp only [if_true] at hmm
    subst hmm
    rw [cellsOf_vote] at hi
    obtain ⟨L, h1, h2, h3⟩ := rows_in (f := cellsV) (size := 5) (W := W) (a := a) (len := len) (fun q => okV q) (by decide) (fun i hlt => by
      obtain ⟨cs', e1, e2⟩ := hi i (by omega)
      obtain ⟨q, r1, r2⟩ := vote_in (World.cells?_some e1).2.1 e2
      exact ⟨cs', e1, q, r1, r2⟩)
    subst h1
    exact ⟨some a, _, L, hcs, ⟨h2, h3⟩, ⟨hl, hm⟩, fun h => by cases h⟩
theorem changes_in {H : Type} {enc : TypeId × Value → H} {W : World} {fuel : Nat} {cs : List Value} {x : DataW H × List MemPlace} (h : DataW.trod enc Tryz.prog W 0 (fun _ => true) true fuel 45 cs = some x) :
    ∃ (a : Option Addr) (c : Nat) (L : List Cq), cs = [.slice a L.length c] ∧ IsCs W W.heap.size a L ∧ (L.length ≤ c ∧ c ≤ maxLen) ∧ (a = none → c = 0) := by
  rcases open_slice Tryz.underlying45 h with ⟨hcs, _⟩ | ⟨a, len, cap, m, n, D, Pl, hcs, _, hl, hm, hmm, _, hi⟩
  · exact ⟨none, 0, [], hcs, ⟨IsRow.nil, by simp, by simp⟩, ⟨Nat.le_refl _, Nat.zero_le _⟩, fun _ => rfl⟩
  · simp only [if_true] at hmm
    subst hmm
    rw [cellsOf_change] at hi
    obtain ⟨L, h1, h2, h3⟩ := rows_in (f := cellsC) (size := 17) (W := W) (a := a) (len := len) (fun q => IsPt W W.heap.size q.c.p q.a ∧ (InInt q.c.k ∧ InInt q.c.g ∧ InInt q.c.t ∧ InInt q.c.v ∧ InInt q.c.f) ∧ okV q.c.a) (by decide) (fun i hlt => by
      obtain ⟨cs', e1, e2⟩ := hi i (by omega)
      obtain ⟨q, r1, r2⟩ := change_in (World.cells?_some e1).2.1 e2
      exact ⟨cs', e1, q, r1, r2⟩)
    subst h1
    exact ⟨some a, _, L, hcs, ⟨h2, fun q hq => (h3 q hq).1, fun q hq => (h3 q hq).2⟩, ⟨hl, hm⟩, fun h => by cases h⟩
/-- an image that lies below a block -/
structure ImIs (w : World) (B : Nat) (i : Ia) (Q : List Hq) (L : List Vt) : Prop where
  h : IsHds w B i.h Q
  v : IsVs w B i.v L
  rh : (Q.length ≤ i.ch ∧ i.ch ≤ maxLen) ∧ (i.h = none → i.ch = 0)
  rv : (L.length ≤ i.cv ∧ i.cv ≤ maxLen) ∧ (i.v = none → i.cv = 0)
theorem ImIs.below {w w' : World} {B : Nat} {i : Ia} {Q : List Hq} {L : List Vt} (h : ImIs w B i Q L) (hb : Below B w w') : ImIs w' B i Q L := ⟨h.h.below hb, h.v.below hb, h.rh, h.rv⟩
theorem ImIs.more {w : World} {B B' : Nat} {i : Ia} {Q : List Hq} {L : List Vt} (h : ImIs w B i Q L) (hB : B ≤ B') : ImIs w B' i Q L := ⟨h.h.more hB, h.v.more hB, h.rh, h.rv⟩
/-- a change that lies below a block -/
structure ChIs (w : World) (B : Nat) (c : Ch) (a : Ad) : Prop where
  pt : IsPt w B c.p a
  num : (InInt c.k ∧ InInt c.g ∧ InInt c.t ∧ InInt c.v ∧ InInt c.f) ∧ okV c.a
theorem ChIs.below {w w' : World} {B : Nat} {c : Ch} {a : Ad} (h : ChIs w B c a) (hb : Below B w w') : ChIs w' B c a := ⟨h.pt.below hb, h.num⟩
theorem ChIs.more {w : World} {B B' : Nat} {c : Ch} {a : Ad} (h : ChIs w B c a) (hB : B ≤ B') : ChIs w B' c a := ⟨h.pt.more hB, h.num⟩
theorem image_open {H : Type} {enc : TypeId × Value → H} {W : World} {cs : Array Value} {d : DataW H} {p : List MemPlace} (hsz : cs.size = Tryz.prog.cellsOf 25) (h : DataW.Trod enc Tryz.prog W 0 (fun _ => true) true 25 (.agg cs) d p) :
    ∃ (i : Ia) (Q : List Hq) (L : List Vt), cs = #[.slice i.h Q.length i.ch, .slice i.v L.length i.cv] ∧ ImIs W W.heap.size i Q L := by
  obtain ⟨fuel, hf⟩ := h
  rw [cellsOf_image] at hsz
  have hf : DataW.trod enc Tryz.prog W 0 (fun _ => true) true fuel 25 cs.toList = some (d, p) := hf
  have hcl : cs.toList.length = 2 := by simpa using hsz
  obtain ⟨ys, n, _, _, _, hyl, hg⟩ := DataW.trod_struct Tryz.underlying25 hf
  have hyl2 : ys.length = 2 := hyl
  have e0 : DataW.trod enc Tryz.prog W 0 (fun _ => true) true n 22 ((cs.toList.drop 0).take (Tryz.prog.cellsOf 22)) = ys[0]? := hg 0 _ rfl
  have e1 : DataW.trod enc Tryz.prog W 0 (fun _ => true) true n 23 ((cs.toList.drop 1).take (Tryz.prog.cellsOf 23)) = ys[1]? := hg 1 _ rfl
  rw [cellsOf_hards, List.getElem?_eq_getElem (by omega)] at e0
  rw [cellsOf_votes, List.getElem?_eq_getElem (by omega)] at e1
  obtain ⟨a0, c0, Q, p1, p2, p3, p4⟩ := hards_in e0
  obtain ⟨a1, c1, L, q1, q2, q3, q4⟩ := votes_in e1
  refine ⟨⟨a0, c0, a1, c1⟩, Q, L, ?_, ⟨p2, q2, ⟨p3, p4⟩, ⟨q3, q4⟩⟩⟩
  have hs : cs.toList = (cs.toList.drop 0).take 1 ++ (cs.toList.drop 1).take 1 := by
    match cs.toList, hcl with
    | [_, _], _ => rfl
  rw [← Array.toArray_toList (xs := cs), hs, p1, q1]
  rfl
theorem change_open {H : Type} {enc : TypeId × Value → H} {W : World} {cs : Array Value} {d : DataW H} {p : List MemPlace} (hsz : cs.size = Tryz.prog.cellsOf 62) (h : DataW.Trod enc Tryz.prog W 0 (fun _ => true) true 62 (.agg cs) d p) :
    ∃ (c : Ch) (a : Ad), cs = #[.int .i64 c.k, .int .i64 c.g, .int .i64 c.t, .int .i64 c.v, .int .i64 c.f, .int .i64 c.p.log.base, .int .i64 c.p.log.term, .slice a.e c.p.log.es.length a.ce, .slice a.o c.p.cf.old.length a.co, .slice a.n c.p.cf.new.length a.cn, .slice a.l c.p.cf.lrn.length a.cl, .slice a.s c.p.sn.length a.cs, .int .i64 c.a.x, .int .i64 c.a.p, .int .i64 c.a.r, .int .i64 c.a.b, .int .i64 c.a.v] ∧ ChIs W W.heap.size c a := by
  obtain ⟨fuel, hf⟩ := h
  rw [cellsOf_change] at hsz
  have hf : DataW.trod enc Tryz.prog W 0 (fun _ => true) true fuel 62 cs.toList = some (d, p) := hf
  obtain ⟨q, e, h1, h2, h3⟩ := change_in (by simpa using hsz) hf
  refine ⟨q.c, q.a, ?_, ⟨h1, h2, h3⟩⟩
  rw [← Array.toArray_toList (xs := cs), e]
  rfl
end Go.Proofs.YtaeoccpjdjafnaaGreat.Im
namespace Go.Proofs.YtaeoccpjdjafnaaGreat.Im
open Go Go.RowKit
open Rl (En Lg)
open Qu (Cf)
set_option maxRecDepth 100000
set_option linter.unusedVariables false
attribute [local go_sem ↓] loadAt_change storeAt_change loadAt_vote storeAt_vote loadAt_log1 storeAt_log1 loadAt_conf3 storeAt_conf3
theorem ldVoteC {w : World} {x : Ch} {a : Ad} {t : TypeId} {b : Nat} (h : w.heap[b]? = some (.cells #[.int .i64 x.k, .int .i64 x.g, .int .i64 x.t, .int .i64 x.v, .int .i64 x.f, .int .i64 x.p.log.base, .int .i64 x.p.log.term, .slice a.e x.p.log.es.length a.ce, .slice a.o x.p.cf.old.length a.co, .slice a.n x.p.cf.new.length a.cn, .slice a.l x.p.cf.lrn.length a.cl, .slice a.s x.p.sn.length a.cs, .int .i64 x.a.x, .int .i64 x.a.p, .int .i64 x.a.r, .int .i64 x.a.b, .int .i64 x.a.v] t (0, 0))) :
    (ldX 60 (.pointer (some ⟨b, 12, none⟩))).run Tryz.prog w = .ok (.agg #[.int .i64 x.a.x, .int .i64 x.a.p, .int .i64 x.a.r, .int .i64 x.a.b, .int .i64 x.a.v]) w :=
  ldV w b 12 [.int .i64 x.a.x, .int .i64 x.a.p, .int .i64 x.a.r, .int .i64 x.a.b, .int .i64 x.a.v] rfl (fun j v hv => by
    rw [row_cell h (12 + j)]
    rcases j with _ | _ | _ | _ | _ | j
    · simpa using hv
    · simpa using hv
    · simpa using hv
    · simpa using hv
    · simpa using hv
    · simp at hv)
set_option maxHeartbeats 1600000 in
theorem sameC_any (x : Ch) (a a' : Ad) (hf : FewK x.p) (w : World) (h : IsPt w w.heap.size x.p a) (h' : IsPt w w.heap.size x.p a') :
    Calls Tryz.prog 39 #[.agg #[.int .i64 x.k, .int .i64 x.g, .int .i64 x.t, .int .i64 x.v, .int .i64 x.f, .int .i64 x.p.log.base, .int .i64 x.p.log.term, .slice a.e x.p.log.es.length a.ce, .slice a.o x.p.cf.old.length a.co, .slice a.n x.p.cf.new.length a.cn, .slice a.l x.p.cf.lrn.length a.cl, .slice a.s x.p.sn.length a.cs, .int .i64 x.a.x, .int .i64 x.a.p, .int .i64 x.a.r, .int .i64 x.a.b, .int .i64 x.a.v], .agg #[.int .i64 x.k, .int .i64 x.g, .int .i64 x.t, .int .i64 x.v, .int .i64 x.f, .int .i64 x.p.log.base, .int .i64 x.p.log.term, .slice a'.e x.p.log.es.length a'.ce, .slice a'.o x.p.cf.old.length a'.co, .slice a'.n x.p.cf.new.length a'.cn, .slice a'.l x.p.cf.lrn.length a'.cl, .slice a'.s x.p.sn.length a'.cs, .int .i64 x.a.x, .int .i64 x.a.p, .int .i64 x.a.r, .int .i64 x.a.b, .int .i64 x.a.v]] w fun e w' => e = .returned (.bool true) ∧ Below w.heap.size w w' := by
  obtain ⟨wA, hwA⟩ : ∃ wA, wA = (w.alloc (.cells #[.int .i64 x.k, .int .i64 x.g, .int .i64 x.t, .int .i64 x.v, .int .i64 x.f, .int .i64 x.p.log.base, .int .i64 x.p.log.term, .slice a.e x.p.log.es.length a.ce, .slice a.o x.p.cf.old.length a.co, .slice a.n x.p.cf.new.length a.cn, .slice a.l x.p.cf.lrn.length a.cl, .slice a.s x.p.sn.length a.cs, .int .i64 x.a.x, .int .i64 x.a.p, .int .i64 x.a.r, .int .i64 x.a.b, .int .i64 x.a.v] 62)).alloc (.cells #[.int .i64 x.k, .int .i64 x.g, .int .i64 x.t, .int .i64 x.v, .int .i64 x.f, .int .i64 x.p.log.base, .int .i64 x.p.log.term, .slice a'.e x.p.log.es.length a'.ce, .slice a'.o x.p.cf.old.length a'.co, .slice a'.n x.p.cf.new.length a'.cn, .slice a'.l x.p.cf.lrn.length a'.cl, .slice a'.s x.p.sn.length a'.cs, .int .i64 x.a.x, .int .i64 x.a.p, .int .i64 x.a.r, .int .i64 x.a.b, .int .i64 x.a.v] 62) := ⟨_, rfl⟩
  have hbA : Below w.heap.size w wA := by rw [hwA]; exact ((Below.refl _ w).alloc (Nat.le_refl _) _).alloc (by simp) _
  have r0 : wA.heap[w.heap.size]? = some (.cells #[.int .i64 x.k, .int .i64 x.g, .int .i64 x.t, .int .i64 x.v, .int .i64 x.f, .int .i64 x.p.log.base, .int .i64 x.p.log.term, .slice a.e x.p.log.es.length a.ce, .slice a.o x.p.cf.old.length a.co, .slice a.n x.p.cf.new.length a.cn, .slice a.l x.p.cf.lrn.length a.cl, .slice a.s x.p.sn.length a.cs, .int .i64 x.a.x, .int .i64 x.a.p, .int .i64 x.a.r, .int .i64 x.a.b, .int .i64 x.a.v] 62 (0, 0)) := by rw [hwA, heap_alloc_old _ _ (by simp)]; exact heap_alloc_new w _
  have r1 : wA.heap[w.heap.size + 1]? = some (.cells #[.int .i64 x.k, .int .i64 x.g, .int .i64 x.t, .int .i64 x.v, .int .i64 x.f, .int .i64 x.p.log.base, .int .i64 x.p.log.term, .slice a'.e x.p.log.es.length a'.ce, .slice a'.o x.p.cf.old.length a'.co, .slice a'.n x.p.cf.new.length a'.cn, .slice a'.l x.p.cf.lrn.length a'.cl, .slice a'.s x.p.sn.length a'.cs, .int .i64 x.a.x, .int .i64 x.a.p, .int .i64 x.a.r, .int .i64 x.a.b, .int .i64 x.a.v] 62 (0, 0)) := by
    have := heap_alloc_new (w.alloc (.cells #[.int .i64 x.k, .int .i64 x.g, .int .i64 x.t, .int .i64 x.v, .int .i64 x.f, .int .i64 x.p.log.base, .int .i64 x.p.log.term, .slice a.e x.p.log.es.length a.ce, .slice a.o x.p.cf.old.length a.co, .slice a.n x.p.cf.new.length a.cn, .slice a.l x.p.cf.lrn.length a.cl, .slice a.s x.p.sn.length a.cs, .int .i64 x.a.x, .int .i64 x.a.p, .int .i64 x.a.r, .int .i64 x.a.b, .int .i64 x.a.v] 62)) (.cells #[.int .i64 x.k, .int .i64 x.g, .int .i64 x.t, .int .i64 x.v, .int .i64 x.f, .int .i64 x.p.log.base, .int .i64 x.p.log.term, .slice a'.e x.p.log.es.length a'.ce, .slice a'.o x.p.cf.old.length a'.co, .slice a'.n x.p.cf.new.length a'.cn, .slice a'.l x.p.cf.lrn.length a'.cl, .slice a'.s x.p.sn.length a'.cs, .int .i64 x.a.x, .int .i64 x.a.p, .int .i64 x.a.r, .int .i64 x.a.b, .int .i64 x.a.v] 62)
    rw [World.size_alloc, ← hwA] at this
    exact this
  have hA := (h.below hbA).more hbA.size
  have hA' := (h'.below hbA).more hbA.size
  have HL := hid ((log_same x.p.log x.p.log a.e a'.e a.ce a'.ce (by have := hf.es; omega) wA hA.es hA'.es).mono (fun e w' hh => (⟨by rw [hh.1, decide_eq_true rfl], hh.2⟩ : e = .returned (.bool true) ∧ Below wA.heap.size wA w')))
  have c0 := row_cell r0 0
  have c1 := row_cell r0 1
  have c2 := row_cell r0 2
  have c3 := row_cell r0 3
  have c4 := row_cell r0 4
  have d0 := row_cell r1 0
  have d1 := row_cell r1 1
  have d2 := row_cell r1 2
  have d3 := row_cell r1 3
  have d4 := row_cell r1 4
  have l0 := ldLogH (k := 5) r0 rfl rfl rfl
  have l1 := ldLogH (k := 5) r1 rfl rfl rfl
  rw [hwA] at c0 c1 c2 c3 c4 d0 d1 d2 d3 d4 l0 l1
  have HX := hid (And.intro r0 (And.intro r1 (And.intro hbA (And.intro h (And.intro h' hf)))))
  clear r0 r1 hbA h h' hA hA' hf
  go_enter Tryz.func39, Tryz.ntmps39
  go_wp2_with fail
  rw [← hwA]
  clear hwA c0 c1 c2 c3 c4 d0 d1 d2 d3 d4 l0 l1
  refine HL.out.mono ?_
  rintro e w1 ⟨rfl, hb1⟩
  have r01 := (hb1.block _ (row_lt HX.out.1)).trans HX.out.1
  have r11 := (hb1.block _ (row_lt HX.out.2.1)).trans HX.out.2.1
  have hbw1 := HX.out.2.2.1.trans (hb1.mono HX.out.2.2.1.size)
  have l2 := ldConfH (k := 8) r01 rfl rfl rfl
  have l3 := ldConfH (k := 8) r11 rfl rfl rfl
  have HC := hid (sameConf_any w1.heap.size w1.heap.size x.p.cf x.p.cf HX.out.2.2.2.2.2.sh HX.out.2.2.2.2.2.sh _ _ _ _ _ _ _ _ _ _ _ _ w1 ((HX.out.2.2.2.1.below hbw1).more hbw1.size).cis ((HX.out.2.2.2.2.1.below hbw1).more hbw1.size).cis (Nat.le_refl _) (Nat.le_refl _) rfl)
  have HB1 := hid (And.intro r01 (And.intro r11 hbw1))
  clear r01 r11 hbw1 hb1
  go_wp2_with fail
  refine HC.out.mono ?_
  rintro e w2 ⟨rfl, hb2⟩
  have r02 := (hb2.block _ (row_lt HB1.out.1)).trans HB1.out.1
  have r12 := (hb2.block _ (row_lt HB1.out.2.1)).trans HB1.out.2.1
  have hbw2 := HB1.out.2.2.trans (hb2.mono HB1.out.2.2.size)
  have c9 : w2.cell? ⟨w.heap.size, 11, none⟩ = some (.slice a.s x.p.sn.length a.cs) := row_cell r02 11
  have d9 : w2.cell? ⟨w.heap.size + 1, 11, none⟩ = some (.slice a'.s x.p.sn.length a'.cs) := row_cell r12 11
  have hrs := HX.out.2.2.2.1.rs.1
  have HS := hid (same_T w2.heap.size w2.heap.size a.s a'.s a.cs a'.cs x.p.sn x.p.sn.length rfl (Nat.le_trans hrs.1 hrs.2) w2 ((HX.out.2.2.2.1.below hbw2).more hbw2.size).s ((HX.out.2.2.2.2.1.below hbw2).more hbw2.size).s)
  have HB2 := hid (And.intro hbw2 (And.intro r02 r12))
  clear r02 r12 hbw2 hb2 hrs l2 l3
  go_wp2_with fail
  refine HS.out.mono ?_
  rintro e w3 ⟨rfl, n3, rfl⟩
  have hbd := below_drewN (Below.refl w2.heap.size w2) n3
  have l4 := ldVoteC ((hbd.block _ (row_lt HB2.out.2.1)).trans HB2.out.2.1)
  have l5 := ldVoteC ((hbd.block _ (row_lt HB2.out.2.2)).trans HB2.out.2.2)
  clear hbd
  go_wp2_with fail
  go_ret
  exact ⟨rfl, below_drewN HB2.out.1 _⟩
set_option maxHeartbeats 1600000 in
theorem sameCs_any (A A' : Option Addr) (c c' n : Nat) (Q R : List Cq) (hn : Q.length = n) (hR : Q.map (·.c) = R.map (·.c)) (hl : n ≤ 100000) (hf : ∀ q ∈ Q, FewK q.c.p) (w : World) (h : IsCs w w.heap.size A Q) (h' : IsCs w w.heap.size A' R) :
    Calls Tryz.prog 28 #[.slice A n c, .slice A' n c'] w fun e w' => e = .returned (.bool true) ∧ Below w.heap.size w w' := by
  subst hn
  have hl0 : R.length = Q.length := by have := congrArg List.length hR; rw [List.length_map, List.length_map] at this; exact this.symm
  have HH := hid (And.intro h (And.intro h' (And.intro hf (And.intro hR hl0))))
  clear h h' hf hR
  go_enter Tryz.func28, Tryz.ntmps28
  go_wp2_with fail
  go_loopw [5] (fun i wr => ∃ k : Nat, k ≤ Q.length ∧ i = .int .i64 k ∧ Hid (Below w.heap.size w wr)) (fun i _ => Q.length - (RowKit.intOf i).toNat)
  case atStart => exact ⟨0, by omega, rfl, hid (Below.refl _ _)⟩
  case round =>
    obtain ⟨k, hk, rfl, hS⟩ := hrel
    by_cases hlt : k < Q.length
    · have hkM : k < R.length := by omega
      have hr := HH.out.1.below hS.out
      have hr' := HH.out.2.1.below hS.out
      obtain ⟨b, off, rfl, hbl, hc⟩ := hr.row.at_ k hlt
      obtain ⟨b', off', rfl, hbl', hc'⟩ := hr'.row.at_ k hkM
      obtain ⟨x, ax⟩ : ∃ x : Ch, x = Q[k].c := ⟨_, rfl⟩
      have ax' : R[k].c = x := by
        have h1 : (Q.map (·.c))[k]'(by simpa using hlt) = (R.map (·.c))[k]'(by simpa using hkM) := by congr 1; exact HH.out.2.2.2.1
        rw [List.getElem_map, List.getElem_map] at h1
        rw [ax, h1]
      obtain ⟨p, hp⟩ : ∃ p, p = Q[k].a := ⟨_, rfl⟩
      obtain ⟨p', hp'⟩ : ∃ p, p = R[k].a := ⟨_, rfl⟩
      have hr0 := hc k hlt
      have hr1 := hc' k hkM
      have hq : Q[k] = ⟨x, p⟩ := by rw [ax, hp]
      have hq' : R[k] = ⟨x, p'⟩ := by rw [← ax', hp']
      rw [hq] at hr0
      rw [hq'] at hr1
      have hm1 := hr.pt _ (List.getElem_mem hlt)
      have hm2 := hr'.pt _ (List.getElem_mem hkM)
      have hfk := HH.out.2.2.1 _ (List.getElem_mem hlt)
      rw [hq] at hm1 hfk
      rw [hq'] at hm2
      have l0 : (ldX 62 (.pointer (some ⟨b, off + k * 17, none⟩))).run Tryz.prog wr.drew = .ok (.agg #[.int .i64 x.k, .int .i64 x.g, .int .i64 x.t, .int .i64 x.v, .int .i64 x.f, .int .i64 x.p.log.base, .int .i64 x.p.log.term, .slice p.e x.p.log.es.length p.ce, .slice p.o x.p.cf.old.length p.co, .slice p.n x.p.cf.new.length p.cn, .slice p.l x.p.cf.lrn.length p.cl, .slice p.s x.p.sn.length p.cs, .int .i64 x.a.x, .int .i64 x.a.p, .int .i64 x.a.r, .int .i64 x.a.b, .int .i64 x.a.v]) wr.drew := ldC wr.drew b (off + k * 17) (cellsC ⟨x, p⟩) rfl hr0
      have l1 : (ldX 62 (.pointer (some ⟨b', off' + k * 17, none⟩))).run Tryz.prog wr.drew = .ok (.agg #[.int .i64 x.k, .int .i64 x.g, .int .i64 x.t, .int .i64 x.v, .int .i64 x.f, .int .i64 x.p.log.base, .int .i64 x.p.log.term, .slice p'.e x.p.log.es.length p'.ce, .slice p'.o x.p.cf.old.length p'.co, .slice p'.n x.p.cf.new.length p'.cn, .slice p'.l x.p.cf.lrn.length p'.cl, .slice p'.s x.p.sn.length p'.cs, .int .i64 x.a.x, .int .i64 x.a.p, .int .i64 x.a.r, .int .i64 x.a.b, .int .i64 x.a.v]) wr.drew := ldC wr.drew b' (off' + k * 17) (cellsC ⟨x, p'⟩) rfl hr1
      have HC := hid (sameC_any x p p' hfk wr.drew ((hm1.below (Below.refl _ wr).drew).more hS.out.size) ((hm2.below (Below.refl _ wr).drew).more hS.out.size))
      have hk0 : (k : Int) < (Q.length : Int) := by omega
      clear hc hc' hr hr' hr0 hr1 hq hq' hm1 hm2 hfk ax ax' hp hp' hl0
      go_wp2_with fail
      go_still_tail 8, (by kernel_rfl)
      go_wp2_with fail
      refine HC.out.mono ?_
      rintro e w2 ⟨rfl, hb2⟩
      have HB2 : Hid (Below w.heap.size w w2) := hid (hS.out.trans (((Below.refl _ wr).drew.trans hb2).mono hS.out.size))
      clear hb2 l0 l1
      go_wp2_with fail
      go_roundw
      case rel => exact ⟨k + 1, by omega, by go_num, HB2⟩
      case measure => simp [RowKit.intOf]; omega
    · obtain rfl : k = Q.length := by omega
      have hk0 : ¬ (Q.length : Int) < (Q.length : Int) := by omega
      clear hlt
      go_wp2_with fail
      go_ret
      exact ⟨rfl, hS.out⟩
end Go.Proofs.YtaeoccpjdjafnaaGreat.Im
namespace Go.Proofs.YtaeoccpjdjafnaaGreat.Im
open Go Go.RowKit
open Rl (En Lg)
open Qu (Cf)
set_option maxRecDepth 100000
set_option linter.unusedVariables false
local instance lo13 : Lo := ⟨0⟩
theorem pt_lens {p : Pt} (h : bigPt p = false) : p.log.es.length ≤ 100 ∧ weigh p.log.es ≤ 16384 ∧ p.cf.old.length ≤ 100 ∧ p.cf.new.length ≤ 100 ∧ p.cf.lrn.length ≤ 100 ∧ p.sn.length ≤ 16384 := by
  unfold bigPt bigCf big at h
  simp only [Bool.or_eq_false_iff, decide_eq_false_iff_not] at h
  obtain ⟨⟨⟨h1, h2⟩, ⟨h3, h4⟩, h5⟩, h6⟩ := h
  exact ⟨by omega, by omega, by omega, by omega, by omega, by omega⟩
theorem weigh_flat (L : List En) : (L.flatMap encE).length = 24 * L.length + weigh L := by
  induction L with
  | nil => rfl
  | cons e L ih =>
    rw [List.flatMap_cons, List.length_append, ih, List.length_cons]
    have h1 : (encE e).length = 24 + e.d.length := by
      unfold encE encB
      simp only [List.length_append, Pk.enc_length]; omega
    have h2 : weigh (e :: L) = e.d.length + weigh L := by unfold weigh; simp
    rw [h1, h2]; omega
theorem pt_len {p : Pt} (h : bigPt p = false) : (encPt p).length ≤ 40000 := by
  obtain ⟨h1, h2, h3, h4, h5, h6⟩ := pt_lens h
  rw [encPt_length, weigh_flat]; omega
theorem pt_sz {p : Pt} (h : bigPt p = false) : Sz p := by
  obtain ⟨h1, h2, h3, h4, h5, h6⟩ := pt_lens h
  exact ⟨by omega, fun e he => by have := weigh_mem he; omega, by omega, by omega, by omega, by omega⟩
theorem pt_fewK {p : Pt} (h : bigPt p = false) : FewK p := by
  obtain ⟨h1, h2, h3, h4, h5, h6⟩ := pt_lens h
  exact ⟨by omega, ⟨by omega, by omega, by omega⟩⟩
theorem ents_small {w : World} {B : Nat} {A : Option Addr} {L : List En} (h : IsEnts w B A L) : ∀ e ∈ L, ∀ x ∈ e.d, x < 256 := by
  intro e he
  obtain ⟨k, hk, rfl⟩ := List.mem_iff_getElem.1 he
  obtain ⟨b, off, _, _, hc⟩ := h.cells k hk
  obtain ⟨_, _, _, _, _, hd, _⟩ := hc k hk
  exact hd.small
theorem pt_ok {w : World} {B : Nat} {p : Pt} {a : Ad} (h : IsPt w B p a) (hb : bigPt p = false) : okPt 10000000 p := by
  obtain ⟨h1, h2, h3, h4, h5, h6⟩ := pt_lens hb
  exact ⟨⟨⟨h.num, fun e he => ⟨h.es.num e he, ents_small h.es e he, by have := weigh_mem he; omega⟩, by omega⟩, ⟨⟨h.o.small, by omega⟩, ⟨h.n.small, by omega⟩⟩, ⟨h.l.small, by omega⟩⟩, h.s.small, by omega⟩
theorem few_of {Q : List Hq} {L : List Vt} (h : fewI Q L = true) : Q.length ≤ 40 ∧ L.length ≤ 200 ∧ ∀ q ∈ Q, bigPt q.h.p = false := by
  unfold fewI bigHs at h
  simp only [Bool.and_eq_true, Bool.not_eq_true', Bool.or_eq_false_iff, decide_eq_false_iff_not, List.any_eq_false, Bool.not_eq_true] at h
  exact ⟨by omega, by omega, fun q hq => by simpa using h.2 q hq⟩
theorem flatN_le {α : Type} (f : α → List Nat) (n : Nat) (L : List α) (h : ∀ x ∈ L, (f x).length ≤ n) : (L.flatMap f).length ≤ L.length * n := by
  induction L with
  | nil => simp
  | cons x L ih =>
    rw [List.flatMap_cons, List.length_append, List.length_cons, Nat.succ_mul]
    have h1 := h x List.mem_cons_self
    have h2 := ih (fun y hy => h y (List.mem_cons_of_mem _ hy))
    omega
theorem encH_len {h : Hd} (hb : bigPt h.p = false) : (encH h).length ≤ 40024 := by
  unfold encH
  simp only [List.length_append, Pk.enc_length]
  have := pt_len hb
  omega
theorem encV_len (v : Vt) : (encV v).length = 40 := by
  unfold encV; simp only [List.length_append, Pk.enc_length]
theorem encC_len {c : Ch} (hb : bigPt c.p = false) : (encC c).length ≤ 40080 := by
  unfold encC
  simp only [List.length_append, Pk.enc_length, encV_len]
  have := pt_len hb
  omega
/-- an image within bounds: its bytes -/
structure FewX (Q : List Hq) (L : List Vt) : Prop where
  hq : Q.length ≤ 40
  lv : L.length ≤ 200
  sz : ∀ q ∈ Q, Sz q.h.p
  fk : ∀ q ∈ Q, FewK q.h.p
  ok : okIm 10000000 ⟨Q.map (·.h), L⟩
  len : 8 + (Q.flatMap encHq).length + (8 + (L.flatMap encV).length) = (encIm ⟨Q.map (·.h), L⟩).length
  big : (encIm ⟨Q.map (·.h), L⟩).length ≤ 2000000
  low : 16 ≤ (encIm ⟨Q.map (·.h), L⟩).length
theorem fewX_of {w : World} {B : Nat} {A A' : Option Addr} {Q : List Hq} {L : List Vt} (h : IsHds w B A Q) (hv : IsVs w B A' L) (hf : fewI Q L = true) : FewX Q L := by
  obtain ⟨h1, h2, h3⟩ := few_of hf
  have hl := im_len Q L rfl
  have hq : (Q.flatMap encHq).length ≤ Q.length * 40024 := flatN_le encHq 40024 Q (fun q hq => encH_len (h3 q hq))
  have hv' : (L.flatMap encV).length ≤ L.length * 40 := flatN_le encV 40 L (fun v _ => Nat.le_of_eq (encV_len v))
  have m1 : Q.length * 40024 ≤ 40 * 40024 := Nat.mul_le_mul_right _ h1
  have m2 : L.length * 40 ≤ 200 * 40 := Nat.mul_le_mul_right _ h2
  refine ⟨h1, h2, fun q hq => pt_sz (h3 q hq), fun q hq => pt_fewK (h3 q hq), ⟨⟨fun x hx => ?_, ?_⟩, ⟨fun v hv'' => hv.num v hv'', by show L.length ≤ _; omega⟩⟩, hl, by omega, by omega⟩
  · obtain ⟨q, hq, rfl⟩ := List.mem_map.1 hx
    have hn := h.num q hq
    exact ⟨⟨⟨hn.1, hn.2.1⟩, hn.2.2⟩, pt_ok (h.pt q hq) (h3 q hq)⟩
  · show (Q.map (·.h)).length ≤ _
    rw [List.length_map]; omega
/-- changes within bounds: their bytes -/
structure FewCs (M : List Cq) : Prop where
  hq : M.length ≤ 20
  sz : ∀ q ∈ M, Sz q.c.p
  fk : ∀ q ∈ M, FewK q.c.p
  ok : okCs 10000000 (M.map (·.c))
  len : 8 + (M.flatMap encCq).length = (encL encC (M.map (·.c))).length
  big : (encL encC (M.map (·.c))).length ≤ 2000000
  low : 8 ≤ (encL encC (M.map (·.c))).length
theorem fewCs_of {w : World} {B : Nat} {A : Option Addr} {M : List Cq} (h : IsCs w B A M) (h1 : M.length ≤ 20) (h3 : ∀ q ∈ M, bigPt q.c.p = false) : FewCs M := by
  have hl := cs_len M rfl
  have hq : (M.flatMap encCq).length ≤ M.length * 40080 := flatN_le encCq 40080 M (fun q hq => encC_len (h3 q hq))
  have m1 : M.length * 40080 ≤ 20 * 40080 := Nat.mul_le_mul_right _ h1
  refine ⟨h1, fun q hq => pt_sz (h3 q hq), fun q hq => pt_fewK (h3 q hq), ⟨fun x hx => ?_, ?_⟩, hl, by omega, by omega⟩
  · obtain ⟨q, hq, rfl⟩ := List.mem_map.1 hx
    obtain ⟨⟨n1, n2, n3, n4, n5⟩, n6⟩ := h.num q hq
    exact ⟨⟨⟨⟨⟨⟨n1, n2⟩, n3⟩, n4⟩, n5⟩, pt_ok (h.pt q hq) (h3 q hq)⟩, n6⟩
  · rw [List.length_map]; omega
theorem get_back {x : Im} (h : okIm 10000000 x) : get (encIm x) = if sorted x = true then (x, 0) else (⟨[], []⟩, 15) := by
  have hw := whole_back (codIm 10000000 (by decide)) (⟨[], []⟩ : Im) x h
  unfold get
  rw [hw]
  by_cases hs : sorted x = true
  · rw [if_neg (by simp [hs]), if_pos hs]
  · have hs' : sorted x = false := by simpa using hs
    rw [if_pos ⟨rfl, hs'⟩, if_neg hs]
theorem get_cut {x : Im} (h : okIm 10000000 x) (n : Nat) (hn : n < (encIm x).length) : get ((encIm x).take n) = (⟨[], []⟩, 4) := by
  have hw := whole_cut (codIm 10000000 (by decide)) (⟨[], []⟩ : Im) x n h hn
  unfold get
  rw [hw, if_neg (by simp)]
theorem getCs_back {l : List Ch} (h : okCs 10000000 l) : getCs (encL encC l) = (l, 0) := whole_back (codCs 10000000 (by decide)) [] l h
theorem getCs_cut {l : List Ch} (h : okCs 10000000 l) (n : Nat) (hn : n < (encL encC l).length) : getCs ((encL encC l).take n) = ([], 4) := whole_cut (codCs 10000000 (by decide)) [] l n h hn
theorem getCs_more {l : List Ch} (h : okCs 10000000 l) (y : Nat) : getCs (encL encC l ++ [y]) = ([], 2) := whole_more (codCs 10000000 (by decide)) [] l y [] h
/-- nothing was read, with this code -/
def ToldNo (er : Int) (w : World) (e : Ending) (w' : World) : Prop := ∃ i : Ia, e = .returned (.tuple #[.agg #[.slice i.h 0 i.ch, .slice i.v 0 i.cv], .int .i64 er]) ∧ Below w.heap.size w w'
theorem nil_img {Q : List Hq} {L : List Vt} (h : (⟨Q.map (·.h), L⟩ : Im) = ⟨[], []⟩) : Q = [] ∧ L = [] := ⟨List.map_eq_nil_iff.1 (congrArg Im.hs h), congrArg Im.vs h⟩
theorem getNo_any (l : List Nat) (A : Option Addr) (c n : Nat) (hn : l.length = n) (er : Int) (hg : get l = (⟨[], []⟩, er)) (hl : n ≤ 2000000) (hz : A = none → c = 0) (w : World) (h : IsBytes w w.heap.size A l) :
    Calls Tryz.prog 22 #[.slice A n c] w fun e w' => ToldNo er w e w' := by
  have h1 := get_any l A c n hn w h hz (by omega)
  rw [hg] at h1
  refine h1.mono ?_
  rintro e w' ⟨i, nh, nv, rfl, ⟨Q, L, ⟨e1, e2⟩, ho, e3⟩, hb⟩
  obtain ⟨rfl, rfl⟩ := nil_img e3
  obtain rfl : nh = 0 := e1
  obtain rfl : nv = 0 := e2
  exact ⟨i, rfl, hb⟩
/-- an image that is read as it was -/
theorem getIm_any (x : Im) (A : Option Addr) (c n : Nat) (hn : (encIm x).length = n) (hok : okIm 10000000 x) (hs : sorted x = true) (hl : n ≤ 2000000) (hz : A = none → c = 0) (w : World) (h : IsBytes w w.heap.size A (encIm x)) :
    Calls Tryz.prog 22 #[.slice A n c] w fun e w' => ∃ i : Ia, e = .returned (.tuple #[.agg #[.slice i.h x.hs.length i.ch, .slice i.v x.vs.length i.cv], .int .i64 0]) ∧ (∃ Q, Q.map (·.h) = x.hs ∧ OwnIm w' w.heap.size w'.heap.size i Q x.vs) ∧ Below w.heap.size w w' := by
  have h1 := get_any (encIm x) A c n hn w h hz (by omega)
  rw [get_back hok, if_pos hs] at h1
  refine h1.mono ?_
  rintro e w' ⟨i, nh, nv, rfl, ⟨Q, L, ⟨e1, e2⟩, ho, e3⟩, hb⟩
  have e4 : Q.map (·.h) = x.hs := congrArg Im.hs e3
  have e5 : L = x.vs := congrArg Im.vs e3
  subst e5
  refine ⟨i, ?_, ⟨Q, e4, ho⟩, hb⟩
  rw [e1, e2, ← e4, List.length_map]
theorem getCsNo_any (l : List Nat) (A : Option Addr) (c n : Nat) (hn : l.length = n) (er : Int) (hg : getCs l = ([], er)) (hl : n ≤ 2000001) (hz : A = none → c = 0) (w : World) (h : IsBytes w w.heap.size A l) :
    Calls Tryz.prog 24 #[.slice A n c] w fun e w' => (∃ A' c', e = .returned (.tuple #[.slice A' 0 c', .int .i64 er])) ∧ Below w.heap.size w w' := by
  have h1 := getCs_any l A c n hn w h hz (by omega)
  rw [hg] at h1
  refine h1.mono ?_
  rintro e w' ⟨A', c', nl, rfl, ⟨L, rfl, ho, e3⟩, hb⟩
  rw [show L = [] from List.map_eq_nil_iff.1 e3]
  exact ⟨⟨A', c', rfl⟩, hb⟩
theorem getCsIs_any (l : List Ch) (A : Option Addr) (c n m : Nat) (hn : (encL encC l).length = n) (hm : l.length = m) (hok : okCs 10000000 l) (hl : n ≤ 2000000) (hz : A = none → c = 0) (w : World) (h : IsBytes w w.heap.size A (encL encC l)) :
    Calls Tryz.prog 24 #[.slice A n c] w fun e w' => ∃ A' c', e = .returned (.tuple #[.slice A' m c', .int .i64 0]) ∧ (∃ M, M.map (·.c) = l ∧ OwnCs w' w.heap.size w'.heap.size A' c' M) ∧ Below w.heap.size w w' := by
  have h1 := getCs_any (encL encC l) A c n hn w h hz (by omega)
  rw [getCs_back hok] at h1
  refine h1.mono ?_
  rintro e w' ⟨A', c', nl, rfl, ⟨L, rfl, ho, e3⟩, hb⟩
  have e4 : L.map (·.c) = l := e3
  refine ⟨A', c', ?_, ⟨L, e4, ho⟩, hb⟩
  rw [← hm, ← e4, List.length_map]
theorem pick_any (k : Int) (n : Nat) (hn : 1 ≤ n) (hn2 : n ≤ 2000001) (w : World) :
    Calls Tryz.prog 44 #[.int .i64 k, .int .i64 (n : Int)] w fun e w' => (∃ p : Nat, e = .returned (.int .i64 p) ∧ p < n) ∧ w = w' :=
  (pick_lt k n (by omega) (by omega) w).mono fun e w' ⟨⟨p, h1, h2⟩, h3⟩ => ⟨⟨p, h1, by omega⟩, h3⟩
end Go.Proofs.YtaeoccpjdjafnaaGreat.Im
namespace Go.Proofs.YtaeoccpjdjafnaaGreat.Im
open Go Go.RowKit
open Rl (En Lg)
open Qu (Cf)
set_option maxRecDepth 100000
set_option linter.unusedVariables false
attribute [local go_sem ↓] loadAt_vote
set_option maxHeartbeats 6400000 in
theorem ordered_any (i : Ia) (nh nv : Nat) (Q : List Hq) (L : List Vt) (hnh : Q.length = nh) (hnv : L.length = nv) (hlh : nh ≤ 100000) (hlv : nv ≤ 100000) (w : World) (h : IsHds w w.heap.size i.h Q) (hv : IsVs w w.heap.size i.v L) :
    Calls Tryz.prog 43 #[.agg #[.slice i.h nh i.ch, .slice i.v nv i.cv]] w fun e w' => e = .returned (.bool (sorted ⟨Q.map (·.h), L⟩)) ∧ Below w.heap.size w w' := by
  obtain ⟨w1, hw1⟩ : ∃ w1, w1 = w.alloc (.cells #[.slice i.h nh i.ch, .slice i.v nv i.cv] 25) := ⟨_, rfl⟩
  have hb1 : Below w.heap.size w w1 := by rw [hw1]; exact (Below.refl _ w).alloc (Nat.le_refl _) _
  have r1 : w1.heap[w.heap.size]? = some (.cells #[.slice i.h nh i.ch, .slice i.v nv i.cv] 25 (0, 0)) := by rw [hw1]; exact heap_alloc_new w _
  have HA := hid (asc_iff ltH (Q.map (·.h)))
  have HAV := hid (asc_iff ltV L)
  have HH := hid (And.intro h (And.intro hnh (And.intro hv (And.intro hnv (And.intro hb1 r1)))))
  obtain ⟨b0, hb0⟩ : ∃ b, b = w.heap.size := ⟨_, rfl⟩
  have HB0 := hid hb0
  clear h hv hnh hnv hb1 r1
  go_enter Tryz.func43, Tryz.ntmps43
  go_wp2_with fail
  rw [← hw1, ← hb0]
  clear hw1 hb0
  go_loopw [3] (fun i wr => ∃ k : Nat, k ≤ nh ∧ i = .int .i64 ((k : Int) + 1) ∧ Hid (Below w1.heap.size w1 wr ∧ ∀ j (hj : j + 1 < Q.length), j < k → (Q[j]'(by omega)).h.g < (Q[j + 1]'hj).h.g)) (fun i _ => nh + 1 - (RowKit.intOf i).toNat)
  case atStart => exact ⟨0, Nat.zero_le _, rfl, hid ⟨Below.refl _ _, fun j hj hlt => absurd hlt (Nat.not_lt_zero _)⟩⟩
  case round =>
    obtain ⟨k, hk, rfl, HK⟩ := hrel
    have c0 : wr.cell? ⟨b0, 0, none⟩ = some (.slice i.h nh i.ch) := row_cell ((HK.out.1.block b0 (by rw [HB0.out]; exact row_lt HH.out.2.2.2.2.2)).trans (by rw [HB0.out]; exact HH.out.2.2.2.2.2)) 0
    by_cases hlt : k + 1 < nh
    · have hQ : k + 1 < Q.length := by rw [HH.out.2.1]; exact hlt
      have hI := HH.out.1.below (HH.out.2.2.2.2.1.trans (HK.out.1.mono HH.out.2.2.2.2.1.size))
      obtain ⟨b, off, hA, hbb, hcs⟩ := hI.row.at_ k (by omega)
      rw [hA] at c0
      obtain ⟨x, hx⟩ : ∃ x, x = Q[k]'(by omega) := ⟨_, rfl⟩
      obtain ⟨y, hy⟩ : ∃ y, y = Q[k + 1]'hQ := ⟨_, rfl⟩
      have hr0 := hcs k (by omega) 0 _ rfl
      have hr1 := hcs (k + 1) hQ 0 _ rfl
      rw [← hx] at hr0
      rw [← hy] at hr1
      have l0 : wr.cell? ⟨b, off + k * 10, none⟩ = some (.int .i64 x.h.g) := hr0
      have l1 : wr.cell? ⟨b, off + (k + 1) * 10, none⟩ = some (.int .i64 y.h.g) := hr1
      have HST : Hid (∀ j (hj : j + 1 < Q.length), j < k + 1 → x.h.g < y.h.g → (Q[j]'(by omega)).h.g < (Q[j + 1]'hj).h.g) := hid (by
        intro j hj hlt2 hxy
        by_cases e : j = k
        · subst e; rw [← hx, ← hy]; exact hxy
        · exact HK.out.2 j hj (by omega))
      have HNO : Hid (¬ x.h.g < y.h.g → sorted ⟨Q.map (·.h), L⟩ = false) := hid (by
        intro hno
        have : asc ltH (Q.map (·.h)) = false := by
          rw [Bool.eq_false_iff]
          intro hb
          have := HA.out.1 hb k (by simpa using hQ)
          rw [List.getElem_map, List.getElem_map, ← hx, ← hy] at this
          exact absurd (by simpa [ltH] using this) hno
        unfold sorted
        rw [this]; rfl)
      have HBW := hid HK.out.1.drew
      have w0 : (k : Int) + 1 - 1 = (k : Int) := by omega
      have w1 : IntKind.i64.wrap (k : Int) = (k : Int) := by rw [IntKind.wrap_i64]; omega
      have w2 : IntKind.i64.wrap ((k : Int) + 1 - 1) = (k : Int) := by rw [IntKind.wrap_i64]; omega
      have b3 : (0 : Int) ≤ (k : Int) + 1 := by omega
      have t0 : ((k : Int) + 1).toNat = k + 1 := by omega
      have b00 : (0 : Int) ≤ (k : Int) := by omega
      have b1 : (k : Int) < (nh : Int) := by omega
      have b2 : (k : Int) + 1 < (nh : Int) := by omega
      clear hI hcs hr0 hr1 hx hy hQ hA hbb
      by_cases hxy : x.h.g < y.h.g
      · have hd : decide (x.h.g < y.h.g) = true := decide_eq_true hxy
        have hd2 : ¬ y.h.g ≤ x.h.g := by omega
        have HN := hid (fun j hj hl => HST.out j hj hl hxy)
        clear hxy
        go_wp2_with fail
        go_still_tail 13, (by kernel_rfl)
        go_wp2_with fail
        go_roundw
        case rel => exact ⟨k + 1, by omega, by go_num, hid ⟨HBW.out, HN.out⟩⟩
        case measure => simp [RowKit.intOf]; omega
      · have hd2 : y.h.g ≤ x.h.g := by omega
        have HN := hid (HNO.out hxy)
        clear hxy
        go_wp2_with fail
        go_still_tail 13, (by kernel_rfl)
        go_wp2_with fail
        go_ret
        rw [HN.out]
        exact ⟨rfl, HH.out.2.2.2.2.1.trans (HBW.out.mono HH.out.2.2.2.2.1.size)⟩
    · have HAS : Hid (asc ltH (Q.map (·.h)) = true) := hid (HA.out.2 (fun j hj => by
        rw [List.length_map] at hj
        rw [List.getElem_map, List.getElem_map]
        have := HK.out.2 j hj (by have := HH.out.2.1; omega)
        simpa [ltH] using this))
      have HB1 := hid HK.out.1
      clear HK
      go_wp2_with fail
      go_loopw [4] (fun i wr => ∃ k : Nat, k ≤ nv ∧ i = .int .i64 ((k : Int) + 1) ∧ Hid (Below w1.heap.size w1 wr ∧ ∀ j (hj : j + 1 < L.length), j < k → ltV (L[j]'(by omega)) (L[j + 1]'hj) = true)) (fun i _ => nv + 1 - (RowKit.intOf i).toNat)
      case atStart => exact ⟨0, Nat.zero_le _, rfl, hid ⟨HB1.out, fun j hj hlt => absurd hlt (Nat.not_lt_zero _)⟩⟩
      case round =>
        clear HB1 c0 hlt
        obtain ⟨k, hk, rfl, HK⟩ := hrel
        have c1 : wr.cell? ⟨b0, 1, none⟩ = some (.slice i.v nv i.cv) := row_cell ((HK.out.1.block b0 (by rw [HB0.out]; exact row_lt HH.out.2.2.2.2.2)).trans (by rw [HB0.out]; exact HH.out.2.2.2.2.2)) 1
        by_cases hlt : k + 1 < nv
        · have hQ : k + 1 < L.length := by rw [HH.out.2.2.2.1]; exact hlt
          have hI := HH.out.2.2.1.row.below (HH.out.2.2.2.2.1.trans (HK.out.1.mono HH.out.2.2.2.2.1.size))
          obtain ⟨b, off, hA, hbb, hcs⟩ := hI.at_ k (by omega)
          rw [hA] at c1
          obtain ⟨x, hx⟩ : ∃ x, x = L[k]'(by omega) := ⟨_, rfl⟩
          obtain ⟨y, hy⟩ : ∃ y, y = L[k + 1]'hQ := ⟨_, rfl⟩
          have hr0 := hcs k (by omega)
          have hr1 := hcs (k + 1) hQ
          rw [← hx] at hr0
          rw [← hy] at hr1
          have hbwr : b < wr.heap.size := by have := HH.out.2.2.2.2.1.size; have := HK.out.1.size; omega
          have LD : Hid (∀ W, Below wr.heap.size wr W → (ldX 60 (.pointer (some ⟨b, off + k * 5, none⟩))).run Tryz.prog W = .ok (.agg #[.int .i64 x.x, .int .i64 x.p, .int .i64 x.r, .int .i64 x.b, .int .i64 x.v]) W ∧ (ldX 60 (.pointer (some ⟨b, off + (k + 1) * 5, none⟩))).run Tryz.prog W = .ok (.agg #[.int .i64 y.x, .int .i64 y.p, .int .i64 y.r, .int .i64 y.b, .int .i64 y.v]) W ∧ W.cell? ⟨b0, 1, none⟩ = some (.slice (some ⟨b, off, none⟩) nv i.cv)) := hid (fun W hb =>
            ⟨ldV W b (off + k * 5) (cellsV x) rfl (fun j v hv => (hb.cell (p := ⟨b, off + k * 5 + j, none⟩) hbwr).trans (hr0 j v hv)), ldV W b (off + (k + 1) * 5) (cellsV y) rfl (fun j v hv => (hb.cell (p := ⟨b, off + (k + 1) * 5 + j, none⟩) hbwr).trans (hr1 j v hv)), (hb.cell (p := ⟨b0, 1, none⟩) (by have := row_lt HH.out.2.2.2.2.2; have := HK.out.1.size; have := HB0.out; show b0 < _; omega)).trans c1⟩)
          obtain ⟨l0, l1, l2⟩ := LD.out wr.drew (Below.refl _ _).drew
          obtain ⟨m0, m1, m2⟩ := LD.out (wr.alloc (.cells #[.int .i64 0, .int .i64 0, .int .i64 0, .int .i64 0, .int .i64 0] 60)).drew ((Below.refl _ wr).alloc (Nat.le_refl _) _).drew
          obtain ⟨n0, n1, n2⟩ := LD.out ((wr.alloc (.cells #[.int .i64 0, .int .i64 0, .int .i64 0, .int .i64 0, .int .i64 0] 60)).alloc (.cells #[.int .i64 0, .int .i64 0, .int .i64 0, .int .i64 0, .int .i64 0] 60)).drew (((Below.refl _ wr).alloc (Nat.le_refl _) _).alloc (by simp) _).drew
          obtain ⟨p00, p01, p02⟩ := LD.out (wr.alloc (.cells #[.int .i64 x.x, .int .i64 x.p, .int .i64 x.r, .int .i64 x.b, .int .i64 x.v] 60)).drew ((Below.refl _ wr).alloc (Nat.le_refl _) _).drew
          obtain ⟨p10, p11, p12⟩ := LD.out ((wr.alloc (.cells #[.int .i64 0, .int .i64 0, .int .i64 0, .int .i64 0, .int .i64 0] 60)).alloc (.cells #[.int .i64 x.x, .int .i64 x.p, .int .i64 x.r, .int .i64 x.b, .int .i64 x.v] 60)).drew (((Below.refl _ wr).alloc (Nat.le_refl _) _).alloc (by simp) _).drew
          obtain ⟨p20, p21, p22⟩ := LD.out ((wr.alloc (.cells #[.int .i64 x.x, .int .i64 x.p, .int .i64 x.r, .int .i64 x.b, .int .i64 x.v] 60)).alloc (.cells #[.int .i64 0, .int .i64 0, .int .i64 0, .int .i64 0, .int .i64 0] 60)).drew (((Below.refl _ wr).alloc (Nat.le_refl _) _).alloc (by simp) _).drew
          have HST : Hid (∀ j (hj : j + 1 < L.length), j < k + 1 → ltV x y = true → ltV (L[j]'(by omega)) (L[j + 1]'hj) = true) := hid (by
            intro j hj hlt2 hxy
            by_cases e : j = k
            · subst e; rw [← hx, ← hy]; exact hxy
            · exact HK.out.2 j hj (by omega))
          have HNO : Hid (ltV x y = false → sorted ⟨Q.map (·.h), L⟩ = false) := hid (by
            intro hno
            have : asc ltV L = false := by
              rw [Bool.eq_false_iff]
              intro hb
              have := HAV.out.1 hb k hQ
              rw [← hx, ← hy, hno] at this
              cases this
            unfold sorted
            show (asc ltH (Q.map (·.h)) && asc ltV L) = false
            rw [this, Bool.and_false])
          have HBY : Hid (∀ X Y : Obj, Below w1.heap.size w1 ((wr.alloc X).alloc Y).drew) := hid (fun X Y => ((HK.out.1.alloc HK.out.1.size _).alloc (by have := HK.out.1.size; simp; omega) _).drew)
          have HBX : Hid (∀ X Y : Obj, Below w.heap.size w ((wr.alloc X).alloc Y).drew) := hid (fun X Y => HH.out.2.2.2.2.1.trans ((HBY.out X Y).mono HH.out.2.2.2.2.1.size))
          have w0 : (k : Int) + 1 - 1 = (k : Int) := by omega
          have w1 : IntKind.i64.wrap (k : Int) = (k : Int) := by rw [IntKind.wrap_i64]; omega
          have w2 : IntKind.i64.wrap ((k : Int) + 1 - 1) = (k : Int) := by rw [IntKind.wrap_i64]; omega
          have b3 : (0 : Int) ≤ (k : Int) + 1 := by omega
          have t0 : ((k : Int) + 1).toNat = k + 1 := by omega
          have b00 : (0 : Int) ≤ (k : Int) := by omega
          have b1 : (k : Int) < (nv : Int) := by omega
          have b2 : (k : Int) + 1 < (nv : Int) := by omega
          clear hI hcs hr0 hr1 hx hy hQ hA hbb hbwr
          go_wp2_with fail
          go_region
          all_goals
            clear l0 l1 l2 m0 m1 m2 n0 n1 n2 p00 p01 p02 p10 p11 p12 p20 p21 p22
            by_cases q1 : y.x < x.x
            · have HN := hid (HNO.out (by simp [ltV]; omega))
              go_wp2_with fail
              go_ret
              rw [HN.out]
              exact ⟨rfl, HBX.out _ _⟩
            · by_cases q2 : x.x = y.x
              · by_cases q3 : y.p ≤ x.p
                · have HN := hid (HNO.out (by simp [ltV]; omega))
                  go_wp2_with fail
                  go_ret
                  rw [HN.out]
                  exact ⟨rfl, HBX.out _ _⟩
                · have HN := hid (fun j hj hl => HST.out j hj hl (by simp [ltV]; omega))
                  go_wp2_with fail
                  go_roundw
                  all_goals first | exact ⟨k + 1, by omega, by go_num, hid ⟨HBY.out _ _, HN.out⟩⟩ | (simp [RowKit.intOf]; omega) | exact ⟨⟨k + 1, by omega, by go_num, hid ⟨HBY.out _ _, HN.out⟩⟩, by simp [RowKit.intOf]; omega⟩ | (trace_state; fail)
              · have HN := hid (fun j hj hl => HST.out j hj hl (by simp [ltV]; omega))
                go_wp2_with fail
                go_roundw
                all_goals first | exact ⟨k + 1, by omega, by go_num, hid ⟨HBY.out _ _, HN.out⟩⟩ | (simp [RowKit.intOf]; omega) | exact ⟨⟨k + 1, by omega, by go_num, hid ⟨HBY.out _ _, HN.out⟩⟩, by simp [RowKit.intOf]; omega⟩ | (trace_state; fail)
        · have HAS2 : Hid (asc ltV L = true) := hid (HAV.out.2 (fun j hj => HK.out.2 j hj (by have := HH.out.2.2.2.1; omega)))
          have HBW := hid HK.out.1
          clear HK
          go_wp2_with fail
          go_ret
          unfold sorted
          rw [HAS.out, HAS2.out]
          exact ⟨rfl, HH.out.2.2.2.2.1.trans (HBW.out.mono HH.out.2.2.2.2.1.size)⟩
end Go.Proofs.YtaeoccpjdjafnaaGreat.Im
