/- Messages that came in: how they read. And what the program's own text lays: the table of the fields. -/
import Derived.Test.YtmaebemhephcmaaDoorMsN
import Derived.Test.YtmaebemhephcmaaDoorEntsIn
import Derived.LaidMore
import Derived.LaidLaws
import Derived.Stop.Joined
namespace Go.Proofs.YtmaebemhephcmaaDoor.Ms
open Go.RowKit Go.ChangeShapes Go.WideShapes Go.Deep
set_option maxRecDepth 100000

theorem cellsOf_msg : Tryd.prog.cellsOf 25 = 17 := by kernel_rfl
theorem msg_of_trod {H : Type} {enc : TypeId × Value → H} {W : World} {fuel : Nat} {cs : List Value} {x : DataW H × List MemPlace} (hcl : cs.length = 17) (h : DataW.trod enc Tryd.prog W 0 (fun _ => true) true fuel 25 cs = some x) :
    ∃ (m : M) (A : Option Addr) (c : Nat) (A' : Option Addr) (c' : Nat), cs = (#[.int .i64 m.K, .int .i64 m.F, .int .i64 m.T, .int .i64 m.g, .int .i64 m.t, .int .i64 m.i, .int .i64 m.p, .int .i64 m.c, .int .i64 m.r, .int .i64 m.x, .int .i64 m.a, .int .i64 m.b, .int .i64 m.v, .int .i64 m.s, .bool m.ok, .slice A m.es.length c, .slice A' m.d.length c'] : Array Value).toList ∧ Is W W.heap.size m A c A' c' := by
  obtain ⟨ys, n, _, _, _, hyl, hf⟩ := DataW.trod_struct Tryd.underlying25 h
  have hyl17 : ys.length = 17 := hyl
  have ci : Tryd.prog.cellsOf 3 = 1 := by kernel_rfl
  have cb : Tryd.prog.cellsOf 4 = 1 := by kernel_rfl
  have ce : Tryd.prog.cellsOf 22 = 1 := by kernel_rfl
  have cd : Tryd.prog.cellsOf 23 = 1 := by kernel_rfl
  have e0 : DataW.trod enc Tryd.prog W 0 (fun _ => true) true n 3 ((cs.drop 0).take (Tryd.prog.cellsOf 3)) = ys[0]? := hf 0 _ rfl
  rw [ci, one_cell hcl 0 (by omega), List.getElem?_eq_getElem (by omega)] at e0
  have e1 : DataW.trod enc Tryd.prog W 0 (fun _ => true) true n 3 ((cs.drop 1).take (Tryd.prog.cellsOf 3)) = ys[1]? := hf 1 _ rfl
  rw [ci, one_cell hcl 1 (by omega), List.getElem?_eq_getElem (by omega)] at e1
  have e2 : DataW.trod enc Tryd.prog W 0 (fun _ => true) true n 3 ((cs.drop 2).take (Tryd.prog.cellsOf 3)) = ys[2]? := hf 2 _ rfl
  rw [ci, one_cell hcl 2 (by omega), List.getElem?_eq_getElem (by omega)] at e2
  have e3 : DataW.trod enc Tryd.prog W 0 (fun _ => true) true n 3 ((cs.drop 3).take (Tryd.prog.cellsOf 3)) = ys[3]? := hf 3 _ rfl
  rw [ci, one_cell hcl 3 (by omega), List.getElem?_eq_getElem (by omega)] at e3
  have e4 : DataW.trod enc Tryd.prog W 0 (fun _ => true) true n 3 ((cs.drop 4).take (Tryd.prog.cellsOf 3)) = ys[4]? := hf 4 _ rfl
  rw [ci, one_cell hcl 4 (by omega), List.getElem?_eq_getElem (by omega)] at e4
  have e5 : DataW.trod enc Tryd.prog W 0 (fun _ => true) true n 3 ((cs.drop 5).take (Tryd.prog.cellsOf 3)) = ys[5]? := hf 5 _ rfl
  rw [ci, one_cell hcl 5 (by omega), List.getElem?_eq_getElem (by omega)] at e5
  have e6 : DataW.trod enc Tryd.prog W 0 (fun _ => true) true n 3 ((cs.drop 6).take (Tryd.prog.cellsOf 3)) = ys[6]? := hf 6 _ rfl
  rw [ci, one_cell hcl 6 (by omega), List.getElem?_eq_getElem (by omega)] at e6
  have e7 : DataW.trod enc Tryd.prog W 0 (fun _ => true) true n 3 ((cs.drop 7).take (Tryd.prog.cellsOf 3)) = ys[7]? := hf 7 _ rfl
  rw [ci, one_cell hcl 7 (by omega), List.getElem?_eq_getElem (by omega)] at e7
  have e8 : DataW.trod enc Tryd.prog W 0 (fun _ => true) true n 3 ((cs.drop 8).take (Tryd.prog.cellsOf 3)) = ys[8]? := hf 8 _ rfl
  rw [ci, one_cell hcl 8 (by omega), List.getElem?_eq_getElem (by omega)] at e8
  have e9 : DataW.trod enc Tryd.prog W 0 (fun _ => true) true n 3 ((cs.drop 9).take (Tryd.prog.cellsOf 3)) = ys[9]? := hf 9 _ rfl
  rw [ci, one_cell hcl 9 (by omega), List.getElem?_eq_getElem (by omega)] at e9
  have e10 : DataW.trod enc Tryd.prog W 0 (fun _ => true) true n 3 ((cs.drop 10).take (Tryd.prog.cellsOf 3)) = ys[10]? := hf 10 _ rfl
  rw [ci, one_cell hcl 10 (by omega), List.getElem?_eq_getElem (by omega)] at e10
  have e11 : DataW.trod enc Tryd.prog W 0 (fun _ => true) true n 3 ((cs.drop 11).take (Tryd.prog.cellsOf 3)) = ys[11]? := hf 11 _ rfl
  rw [ci, one_cell hcl 11 (by omega), List.getElem?_eq_getElem (by omega)] at e11
  have e12 : DataW.trod enc Tryd.prog W 0 (fun _ => true) true n 3 ((cs.drop 12).take (Tryd.prog.cellsOf 3)) = ys[12]? := hf 12 _ rfl
  rw [ci, one_cell hcl 12 (by omega), List.getElem?_eq_getElem (by omega)] at e12
  have e13 : DataW.trod enc Tryd.prog W 0 (fun _ => true) true n 3 ((cs.drop 13).take (Tryd.prog.cellsOf 3)) = ys[13]? := hf 13 _ rfl
  rw [ci, one_cell hcl 13 (by omega), List.getElem?_eq_getElem (by omega)] at e13
  have e14 : DataW.trod enc Tryd.prog W 0 (fun _ => true) true n 4 ((cs.drop 14).take (Tryd.prog.cellsOf 4)) = ys[14]? := hf 14 _ rfl
  rw [cb, one_cell hcl 14 (by omega), List.getElem?_eq_getElem (by omega)] at e14
  have e15 : DataW.trod enc Tryd.prog W 0 (fun _ => true) true n 22 ((cs.drop 15).take (Tryd.prog.cellsOf 22)) = ys[15]? := hf 15 _ rfl
  rw [ce, one_cell hcl 15 (by omega), List.getElem?_eq_getElem (by omega)] at e15
  have e16 : DataW.trod enc Tryd.prog W 0 (fun _ => true) true n 23 ((cs.drop 16).take (Tryd.prog.cellsOf 23)) = ys[16]? := hf 16 _ rfl
  rw [cd, one_cell hcl 16 (by omega), List.getElem?_eq_getElem (by omega)] at e16
  obtain ⟨n0, p0, b0⟩ := int_of_trod e0
  obtain ⟨n1, p1, b1⟩ := int_of_trod e1
  obtain ⟨n2, p2, b2⟩ := int_of_trod e2
  obtain ⟨n3, p3, b3⟩ := int_of_trod e3
  obtain ⟨n4, p4, b4⟩ := int_of_trod e4
  obtain ⟨n5, p5, b5⟩ := int_of_trod e5
  obtain ⟨n6, p6, b6⟩ := int_of_trod e6
  obtain ⟨n7, p7, b7⟩ := int_of_trod e7
  obtain ⟨n8, p8, b8⟩ := int_of_trod e8
  obtain ⟨n9, p9, b9⟩ := int_of_trod e9
  obtain ⟨n10, p10, b10⟩ := int_of_trod e10
  obtain ⟨n11, p11, b11⟩ := int_of_trod e11
  obtain ⟨n12, p12, b12⟩ := int_of_trod e12
  obtain ⟨n13, p13, b13⟩ := int_of_trod e13
  obtain ⟨ok, p14, _⟩ := DataW.trod_bool Tryd.underlying4 e14
  obtain ⟨A, c, es, p15, h1, h2, h3⟩ := ents_of_trod e15
  obtain ⟨A', c', d, p16, h4, h5, h6⟩ := bytes_of_trod e16
  have p0 := (List.cons.inj p0).1
  have p1 := (List.cons.inj p1).1
  have p2 := (List.cons.inj p2).1
  have p3 := (List.cons.inj p3).1
  have p4 := (List.cons.inj p4).1
  have p5 := (List.cons.inj p5).1
  have p6 := (List.cons.inj p6).1
  have p7 := (List.cons.inj p7).1
  have p8 := (List.cons.inj p8).1
  have p9 := (List.cons.inj p9).1
  have p10 := (List.cons.inj p10).1
  have p11 := (List.cons.inj p11).1
  have p12 := (List.cons.inj p12).1
  have p13 := (List.cons.inj p13).1
  have p14 := (List.cons.inj p14).1
  have p15 := (List.cons.inj p15).1
  have p16 := (List.cons.inj p16).1
  refine ⟨⟨n0, n1, n2, n3, n4, n5, n6, n7, n8, n9, n10, n11, n12, n13, ok, es, d⟩, A, c, A', c', ?_, ⟨?_, h1, h2, h3, h4, h5, h6⟩⟩
  · match cs, hcl with
    | [x0, x1, x2, x3, x4, x5, x6, x7, x8, x9, x10, x11, x12, x13, x14, x15, x16], _ =>
      simp at p0 p1 p2 p3 p4 p5 p6 p7 p8 p9 p10 p11 p12 p13 p14 p15 p16
      rw [p0, p1, p2, p3, p4, p5, p6, p7, p8, p9, p10, p11, p12, p13, p14, p15, p16]
  · intro r hr
    simp only [nums, List.mem_cons, List.not_mem_nil, or_false] at hr
    rcases hr with rfl | rfl | rfl | rfl | rfl | rfl | rfl | rfl | rfl | rfl | rfl | rfl | rfl | rfl
    · exact b0
    · exact b1
    · exact b2
    · exact b3
    · exact b4
    · exact b5
    · exact b6
    · exact b7
    · exact b8
    · exact b9
    · exact b10
    · exact b11
    · exact b12
    · exact b13
theorem msg_open {H : Type} {enc : TypeId × Value → H} {W : World} {cs : Array Value} {d : DataW H} {p : List MemPlace} (hsz : cs.size = Tryd.prog.cellsOf 25) (h : DataW.Trod enc Tryd.prog W 0 (fun _ => true) true 25 (.agg cs) d p) :
    ∃ (m : M) (A : Option Addr) (c : Nat) (A' : Option Addr) (c' : Nat), cs = #[.int .i64 m.K, .int .i64 m.F, .int .i64 m.T, .int .i64 m.g, .int .i64 m.t, .int .i64 m.i, .int .i64 m.p, .int .i64 m.c, .int .i64 m.r, .int .i64 m.x, .int .i64 m.a, .int .i64 m.b, .int .i64 m.v, .int .i64 m.s, .bool m.ok, .slice A m.es.length c, .slice A' m.d.length c'] ∧ Is W W.heap.size m A c A' c' := by
  obtain ⟨fuel, hf⟩ := h
  rw [cellsOf_msg] at hsz
  obtain ⟨m, A, c, A', c', e, hc⟩ := msg_of_trod (cs := cs.toList) (by simpa using hsz) hf
  refine ⟨m, A, c, A', c', ?_, hc⟩
  rw [← Array.toArray_toList (xs := cs), e]

/-! What the text lays. -/
theorem gF : Tryd.prog.globalNamed "glebe/message.fieldsOf" = some 0 := by kernel_rfl
theorem tF : (Tryd.prog.globals[0]?).map (·.type) = some 56 := by kernel_rfl
def laid : List (String × DataW Unit) := [("glebe/message.fieldsOf", Rows.laid_glebe_message_fieldsOf)]
theorem door_met (os : Os) (args : Array Value) : laidMetH Tryd.prog laid ((World.doorLaid Tryd.prog 400 os).forCall (fun _ _ => 0) ⟨#[], args, []⟩).memory :=
  laidMetH_of_parts3 (fuel := 8) (laidMet_of_run' 8 (by kernel_rfl) (by kernel_rfl)) (by kernel_rfl) (by kernel_rfl)
theorem tab_of_laid {W : World} (h : laidMetH Tryd.prog laid W) : Tab W := by
  rw [MakeChecks.laidMetH_plain _ _ _ (by kernel_rfl)] at h
  obtain ⟨ps, ⟨g0, t0, cs0, f0, p0, q0, hg0, ht0, hv0, hd0, _, _⟩, _, _⟩ := h
  obtain rfl := Option.some.inj (gF.symm.trans hg0)
  obtain rfl := Option.some.inj (tF.symm.trans ht0)
  obtain ⟨xs, m1, rfl, hx, hlen, hn, hel⟩ := DataW.trod_array Tryd.underlying56 hd0
  have cs1 : Tryd.prog.cellsOf 9 = 1 := by kernel_rfl
  have cs12 : Tryd.prog.cellsOf 56 = 12 := by kernel_rfl
  rw [cs12] at hlen
  simp only [Prod.mk.injEq, Rows.laid_glebe_message_fieldsOf, DataW.agg.injEq] at hx
  intro k hk
  have hk2 := hel k hk
  rw [cs1, Nat.mul_one, one_cell hlen k hk, List.getElem?_eq_getElem (by omega)] at hk2
  obtain ⟨s, h1, h2, _⟩ := DataW.trod_string Tryd.underlying9 hk2
  have h3 := (List.cons.inj h1).1
  have h4 := World.var?_cell hg0 hv0 k
  have h5 : (xs.map (·.1))[k]? = some (.lit (.string s.data.toList)) := by rw [List.getElem?_map, List.getElem?_eq_getElem (by omega), h2]; rfl
  rw [← hx.1] at h5
  have h6 : s = strOf (tab k) := by
    apply ByteArray.ext
    apply Array.toList_inj.1
    show s.data.toList = (strOf (tab k)).data.toList
    match k, hk with
    | 0, _ | 1, _ | 2, _ | 3, _ | 4, _ | 5, _ | 6, _ | 7, _ | 8, _ | 9, _ | 10, _ | 11, _ =>
      simp only [List.getElem?_cons_zero, List.getElem?_cons_succ, Option.some.injEq, DataW.lit.injEq, Lit.string.injEq] at h5
      rw [← h5]; rfl
  rw [h4, ← Array.getElem?_toList, List.getElem?_eq_getElem (by omega), h3, h6]
end Go.Proofs.YtmaebemhephcmaaDoor.Ms
