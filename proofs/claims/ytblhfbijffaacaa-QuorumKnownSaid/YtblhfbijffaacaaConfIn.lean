/- Members that came in: how they read. -/
import Derived.Test.YtblhfbijffaacaaConf
import Derived.Deep.Slices
import Derived.Deep.Fields
import Derived.ChangeSame
import Derived.WalkLawsBesides
import Derived.ProofKit
import Derived.OpenShut
namespace Go.Proofs.Ytblhfbijffaacaa
open Go.RowKit Go.ChangeShapes Go.WideShapes Go.Deep

theorem intsIn_of_trod {H : Type} {enc : TypeId × Value → H} {W : World} {fuel : Nat} {cs : List Value} {x : DataW H × List MemPlace} (h : DataW.trod enc Try.prog W 0 (fun _ => true) true fuel 22 cs = some x) :
    ∃ (a : Option Addr) (c : Nat) (l : List Int), cs = [.slice a l.length c] ∧ IsInts W W.heap.size a l ∧ (l.length ≤ c ∧ c ≤ maxLen) ∧ (a = none → c = 0) := by
  rcases open_ints Try.underlying22 Try.underlying3 (by kernel_rfl) h with ⟨hcs, _⟩ | ⟨x, l, c, zs, hcs, _, hl, hm, hz, hx, hcell, hwz⟩
  · exact ⟨none, 0, [], hcs, IsInts.nil, ⟨Nat.le_refl _, Nat.zero_le _⟩, fun _ => rfl⟩
  · simp only [if_true] at hz
    obtain ⟨m, h1, h2⟩ := isInts_of_ints hl hz hcell hwz
    subst h2
    exact ⟨some x, c, m, hcs, h1, ⟨hl, hm⟩, fun h => by cases h⟩
theorem one_cell3 {cs : List Value} (h : cs.length = 3) (j : Nat) (hj : j < 3) : (cs.drop j).take 1 = [cs[j]'(by omega)] := by
  rw [List.drop_eq_getElem_cons (by omega)]
  rfl
theorem cellsOf_conf : Try.prog.cellsOf 24 = 3 := by kernel_rfl
theorem conf_of_trod {H : Type} {enc : TypeId × Value → H} {W : World} {fuel : Nat} {cs : List Value} {x : DataW H × List MemPlace} (hcl : cs.length = 3) (h : DataW.trod enc Try.prog W 0 (fun _ => true) true fuel 24 cs = some x) :
    ∃ (c : Qu.Cf) (a0 a1 a2 : Option Addr) (k0 k1 k2 : Nat), cs = [.slice a0 c.old.length k0, .slice a1 c.new.length k1, .slice a2 c.lrn.length k2] ∧ CIs W W.heap.size c a0 a1 a2 k0 k1 k2 := by
  obtain ⟨ys, n, _, _, _, hyl, hf⟩ := DataW.trod_struct Try.underlying24 h
  have hyl3 : ys.length = 3 := hyl
  have e0 : DataW.trod enc Try.prog W 0 (fun _ => true) true n 22 ((cs.drop 0).take (Try.prog.cellsOf 22)) = ys[0]? := hf 0 _ rfl
  have e1 : DataW.trod enc Try.prog W 0 (fun _ => true) true n 22 ((cs.drop 1).take (Try.prog.cellsOf 22)) = ys[1]? := hf 1 _ rfl
  have e2 : DataW.trod enc Try.prog W 0 (fun _ => true) true n 22 ((cs.drop 2).take (Try.prog.cellsOf 22)) = ys[2]? := hf 2 _ rfl
  have c3 : Try.prog.cellsOf 22 = 1 := by kernel_rfl
  rw [c3] at e0 e1 e2
  rw [one_cell3 hcl 0 (by omega), List.getElem?_eq_getElem (by omega)] at e0
  rw [one_cell3 hcl 1 (by omega), List.getElem?_eq_getElem (by omega)] at e1
  rw [one_cell3 hcl 2 (by omega), List.getElem?_eq_getElem (by omega)] at e2
  obtain ⟨a0, k0, l0, p1, p2, p3, p4⟩ := intsIn_of_trod e0
  obtain ⟨a1, k1, l1, q1, q2, q3, q4⟩ := intsIn_of_trod e1
  obtain ⟨a2, k2, l2, r1, r2, r3, r4⟩ := intsIn_of_trod e2
  have p1 := (List.cons.inj p1).1
  have q1 := (List.cons.inj q1).1
  have r1 := (List.cons.inj r1).1
  refine ⟨⟨l0, l1, l2⟩, a0, a1, a2, k0, k1, k2, ?_, ⟨p2, q2, r2, p4, q4, r4, p3, q3, r3⟩⟩
  match cs, hcl with
  | [x0, x1, x2], _ =>
    simp at p1 q1 r1
    rw [p1, q1, r1]
theorem conf_open {H : Type} {enc : TypeId × Value → H} {W : World} {cs : Array Value} {d : DataW H} {p : List MemPlace} (hsz : cs.size = Try.prog.cellsOf 24) (h : DataW.Trod enc Try.prog W 0 (fun _ => true) true 24 (.agg cs) d p) :
    ∃ (c : Qu.Cf) (a0 a1 a2 : Option Addr) (k0 k1 k2 : Nat), cs = #[.slice a0 c.old.length k0, .slice a1 c.new.length k1, .slice a2 c.lrn.length k2] ∧ CIs W W.heap.size c a0 a1 a2 k0 k1 k2 := by
  obtain ⟨fuel, hf⟩ := h
  rw [cellsOf_conf] at hsz
  obtain ⟨c, a0, a1, a2, k0, k1, k2, e, hc⟩ := conf_of_trod (cs := cs.toList) (by simpa using hsz) hf
  refine ⟨c, a0, a1, a2, k0, k1, k2, ?_, hc⟩
  rw [← Array.toArray_toList (xs := cs), e]
end Go.Proofs.Ytblhfbijffaacaa
