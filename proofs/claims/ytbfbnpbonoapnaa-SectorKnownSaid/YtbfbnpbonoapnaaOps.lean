/- What the walks say of memory: a slice of calls that came in, or that the text spells out. -/
import Derived.Test.YtbfbnpbonoapnaaRows
import Derived.Test.YtbfbnpbonoapnaaGrown
import Derived.Test.YtbfbnpbonoapnaaDisk
import Derived.Deep.Slices
import Derived.Deep.Fields
import Derived.ChangeSame
import Derived.WalkLawsBesides
import Derived.ProofKit
import Derived.OpenShut
namespace Go.Proofs.Ytbfbnpbonoapnaa
open Go.RowKit Go.ChangeShapes Go.WideShapes Go.Deep

namespace Sx
/-- a call -/
structure Op where
  kind : Int
  i : Int
  look : Int
  data : List Nat
  lst : List Int
end Sx
/-- call t lies at ⟨b, o⟩ -/
def OpAt (w : World) (B b o : Nat) (t : Sx.Op) : Prop :=
  ∃ ap cp al cl, w.cell? ⟨b, o, none⟩ = some (.int .i64 t.kind) ∧ w.cell? ⟨b, o + 1, none⟩ = some (.int .i64 t.i) ∧ w.cell? ⟨b, o + 2, none⟩ = some (.int .i64 t.look) ∧ w.cell? ⟨b, o + 3, none⟩ = some (.slice ap t.data.length cp) ∧ w.cell? ⟨b, o + 4, none⟩ = some (.slice al t.lst.length cl) ∧
    IsBytes w B ap t.data ∧ IsInts w B al t.lst ∧ (t.data.length ≤ cp ∧ cp ≤ maxLen) ∧ (t.lst.length ≤ cl ∧ cl ≤ maxLen) ∧ (ap = none → cp = 0) ∧ (al = none → cl = 0) ∧ InInt t.kind ∧ InInt t.i ∧ InInt t.look
/-- Below block B a slice at A holds the calls ts. -/
structure IsOps (w : World) (B : Nat) (A : Option Addr) (ts : List Sx.Op) : Prop where
  cells : ∀ k, k < ts.length → ∃ b off, A = some ⟨b, off, none⟩ ∧ b < B ∧ ∀ i (h : i < ts.length), OpAt w B b (off + i * 5) ts[i]

theorem OpAt.below {w w' : World} {B b o : Nat} {t : Sx.Op} (h : OpAt w B b o t) (hlt : b < B) (hb : Below B w w') : OpAt w' B b o t := by
  obtain ⟨ap, cp, al, cl, c0, c1, c2, c3, c4, hp, hl, rest⟩ := h
  exact ⟨ap, cp, al, cl, (hb.cell hlt).trans c0, (hb.cell hlt).trans c1, (hb.cell hlt).trans c2, (hb.cell hlt).trans c3, (hb.cell hlt).trans c4, hp.below hb, hl.below hb, rest⟩
namespace IsOps
variable {w w' : World} {B : Nat} {A : Option Addr} {ts : List Sx.Op}
theorem nil : IsOps w B A [] := ⟨fun k h => by simp at h⟩
theorem below (h : IsOps w B A ts) (hb : Below B w w') : IsOps w' B A ts := ⟨fun k hk => by
  obtain ⟨b, off, e, hlt, hc⟩ := h.cells k hk
  exact ⟨b, off, e, hlt, fun i hi => (hc i hi).below hlt hb⟩⟩
theorem more {B' : Nat} (h : IsOps w B A ts) (hB : B ≤ B') : IsOps w B' A ts := ⟨fun k hk => by
  obtain ⟨b, off, e, hlt, hc⟩ := h.cells k hk
  refine ⟨b, off, e, by omega, fun i hi => ?_⟩
  obtain ⟨ap, cp, al, cl, c0, c1, c2, c3, c4, hp, hl, rest⟩ := hc i hi
  exact ⟨ap, cp, al, cl, c0, c1, c2, c3, c4, hp.more hB, hl.more hB, rest⟩⟩
theorem drewN (h : IsOps w B A ts) (n : Nat) : IsOps (w.drewN n) B A ts := h.below (below_drewN (Below.refl _ _) n)
theorem drew (h : IsOps w B A ts) : IsOps w.drew B A ts := h.below (Below.refl _ _).drew
theorem take (h : IsOps w B A ts) (n : Nat) : IsOps w B A (ts.take n) := ⟨fun k hk => by
  have hk' : k < ts.length := by rw [List.length_take] at hk; omega
  obtain ⟨b, off, e, hlt, hc⟩ := h.cells k hk'
  refine ⟨b, off, e, hlt, fun i hi => ?_⟩
  have hi' : i < ts.length := by rw [List.length_take] at hi; omega
  rw [List.getElem_take]
  exact hc i hi'⟩
end IsOps

theorem cellsOf_op : Try.prog.cellsOf 36 = 5 := by kernel_rfl
theorem bytes_of_trod {H : Type} {enc : TypeId × Value → H} {W : World} {fuel : Nat} {cs : List Value} {x : DataW H × List MemPlace} (h : DataW.trod enc Try.prog W 0 (fun _ => true) true fuel 33 cs = some x) :
    ∃ (a : Option Addr) (c : Nat) (l : List Nat), cs = [.slice a l.length c] ∧ IsBytes W W.heap.size a l ∧ (l.length ≤ c ∧ c ≤ maxLen) ∧ (a = none → c = 0) := by
  rcases open_ints Try.underlying33 Try.underlying5 (by kernel_rfl) h with ⟨hcs, _⟩ | ⟨x, l, c, zs, hcs, _, hl, hm, hz, hx, hcell, hwz⟩
  · exact ⟨none, 0, [], hcs, IsBytes.nil, ⟨Nat.le_refl _, Nat.zero_le _⟩, fun _ => rfl⟩
  · simp only [if_true] at hz
    obtain ⟨m, h1, h2⟩ := isBytes_of_ints hl hz hcell hwz
    subst h2
    exact ⟨some x, c, m, hcs, h1, ⟨hl, hm⟩, fun h => by cases h⟩
theorem ints_of_trod {H : Type} {enc : TypeId × Value → H} {W : World} {fuel : Nat} {cs : List Value} {x : DataW H × List MemPlace} (h : DataW.trod enc Try.prog W 0 (fun _ => true) true fuel 34 cs = some x) :
    ∃ (a : Option Addr) (c : Nat) (l : List Int), cs = [.slice a l.length c] ∧ IsInts W W.heap.size a l ∧ (l.length ≤ c ∧ c ≤ maxLen) ∧ (a = none → c = 0) := by
  rcases open_ints Try.underlying34 Try.underlying3 (by kernel_rfl) h with ⟨hcs, _⟩ | ⟨x, l, c, zs, hcs, _, hl, hm, hz, hx, hcell, hwz⟩
  · exact ⟨none, 0, [], hcs, IsInts.nil, ⟨Nat.le_refl _, Nat.zero_le _⟩, fun _ => rfl⟩
  · simp only [if_true] at hz
    obtain ⟨m, h1, h2⟩ := isInts_of_ints hl hz hcell hwz
    subst h2
    exact ⟨some x, c, m, hcs, h1, ⟨hl, hm⟩, fun h => by cases h⟩
theorem int_of_trod {H : Type} {enc : TypeId × Value → H} {W : World} {fuel : Nat} {cs : List Value} {x : DataW H × List MemPlace} (h : DataW.trod enc Try.prog W 0 (fun _ => true) true fuel 3 cs = some x) : ∃ n, cs = [.int .i64 n] ∧ InInt n := by
  obtain ⟨n, h1, _, h2⟩ := DataW.trod_int Try.underlying3 h
  exact ⟨n, h1, bounds_i64 h2⟩
theorem one_cell {cs : List Value} (h : cs.length = 5) (j : Nat) (hj : j < 5) : (cs.drop j).take 1 = [cs[j]'(by omega)] := by
  rw [List.drop_eq_getElem_cons (by omega)]
  rfl
set_option maxRecDepth 100000 in
theorem op_of_trod {H : Type} {enc : TypeId × Value → H} {W : World} {fuel : Nat} {a : Addr} {cs : List Value} {x : DataW H × List MemPlace} (hc : W.cells? 0 a 5 = some cs) (h : DataW.trod enc Try.prog W 0 (fun _ => true) true fuel 36 cs = some x) :
    ∃ t : Sx.Op, ∀ b o, a = ⟨b, o, none⟩ → OpAt W W.heap.size b o t := by
  obtain ⟨_, hcl, hat⟩ := World.cells?_some hc
  obtain ⟨ys, n, _, _, _, hyl, hf⟩ := DataW.trod_struct Try.underlying36 h
  have hyl4 : ys.length = 5 := hyl
  have e0 : DataW.trod enc Try.prog W 0 (fun _ => true) true n 3 ((cs.drop 0).take (Try.prog.cellsOf 3)) = ys[0]? := hf 0 _ rfl
  have e1 : DataW.trod enc Try.prog W 0 (fun _ => true) true n 3 ((cs.drop 1).take (Try.prog.cellsOf 3)) = ys[1]? := hf 1 _ rfl
  have e2 : DataW.trod enc Try.prog W 0 (fun _ => true) true n 3 ((cs.drop 2).take (Try.prog.cellsOf 3)) = ys[2]? := hf 2 _ rfl
  have e3 : DataW.trod enc Try.prog W 0 (fun _ => true) true n 33 ((cs.drop 3).take (Try.prog.cellsOf 33)) = ys[3]? := hf 3 _ rfl
  have e4 : DataW.trod enc Try.prog W 0 (fun _ => true) true n 34 ((cs.drop 4).take (Try.prog.cellsOf 34)) = ys[4]? := hf 4 _ rfl
  have c1 : Try.prog.cellsOf 3 = 1 := by kernel_rfl
  have c2 : Try.prog.cellsOf 33 = 1 := by kernel_rfl
  have c3 : Try.prog.cellsOf 34 = 1 := by kernel_rfl
  rw [c1] at e0 e1 e2
  rw [c2] at e3
  rw [c3] at e4
  rw [one_cell hcl 0 (by omega), List.getElem?_eq_getElem (by omega)] at e0
  rw [one_cell hcl 1 (by omega), List.getElem?_eq_getElem (by omega)] at e1
  rw [one_cell hcl 2 (by omega), List.getElem?_eq_getElem (by omega)] at e2
  rw [one_cell hcl 3 (by omega), List.getElem?_eq_getElem (by omega)] at e3
  rw [one_cell hcl 4 (by omega), List.getElem?_eq_getElem (by omega)] at e4
  obtain ⟨kd, k1, k2⟩ := int_of_trod e0
  obtain ⟨v, v1, v2⟩ := int_of_trod e1
  obtain ⟨u, u1, u2⟩ := int_of_trod e2
  obtain ⟨ap, cp, p, p1, p2, p3, p4⟩ := bytes_of_trod e3
  obtain ⟨al, cl, l, l1, l2, l3, l4⟩ := ints_of_trod e4
  have k1 := (List.cons.inj k1).1
  have v1 := (List.cons.inj v1).1
  have u1 := (List.cons.inj u1).1
  have p1 := (List.cons.inj p1).1
  have l1 := (List.cons.inj l1).1
  refine ⟨⟨kd, v, u, p, l⟩, fun b o e => ?_⟩
  subst e
  have g : ∀ j, (hj : j < 5) → W.cell? ⟨b, o + j, none⟩ = some (cs[j]'(by omega)) := fun j hj => by
    have := hat j hj
    rw [List.getElem?_eq_getElem (by omega)] at this
    rw [← this]
    congr 1
    unfold Addr.add; split <;> simp [*]
  exact ⟨ap, cp, al, cl, by have := g 0 (by omega); rw [k1] at this; exact this, by have := g 1 (by omega); rw [v1] at this; exact this, by have := g 2 (by omega); rw [u1] at this; exact this, by have := g 3 (by omega); rw [p1] at this; exact this,
    by have := g 4 (by omega); rw [l1] at this; exact this, p2, l2, p3, l3, p4, l4, k2, v2, u2⟩

set_option maxRecDepth 100000 in
theorem ops_of_trod {H : Type} {enc : TypeId × Value → H} {W : World} {fuel : Nat} {cs : List Value} {x : DataW H × List MemPlace} (h : DataW.trod enc Try.prog W 0 (fun _ => true) true fuel 22 cs = some x) :
    ∃ (a : Option Addr) (c : Nat) (ts : List Sx.Op), cs = [.slice a ts.length c] ∧ IsOps W W.heap.size a ts ∧ (ts.length ≤ c ∧ c ≤ maxLen) ∧ (a = none → c = 0) := by
  rcases open_slice Try.underlying22 h with ⟨hcs, _⟩ | ⟨a, len, cap, m, n, D, Pl, hcs, _, hl, hm, hmm, _, hi⟩
  · exact ⟨none, 0, [], hcs, IsOps.nil, ⟨Nat.le_refl _, Nat.zero_le _⟩, fun _ => rfl⟩
  · simp only [if_true] at hmm
    subst hmm
    rw [cellsOf_op] at hi
    have hth : ∀ i, i < len → ∃ t : Sx.Op, (∀ b o, a.add (i * 5) = ⟨b, o, none⟩ → OpAt W W.heap.size b o t) ∧ ∃ cs, W.cells? 0 (a.add (i * 5)) 5 = some cs := fun i hlt => by
      obtain ⟨cs', h1, h2⟩ := hi i (by omega)
      obtain ⟨t, ht⟩ := op_of_trod h1 h2
      exact ⟨t, ht, cs', h1⟩
    refine ⟨some a, m, (List.range len).attach.map (fun i => (hth i.1 (List.mem_range.1 i.2)).choose), ?_, ⟨fun k hk => ?_⟩, ?_, fun h => by cases h⟩
    · rw [hcs]; simp
    · have hk' : k < len := by simpa using hk
      obtain ⟨cs0, hcs0⟩ := (hth 0 (by omega)).choose_spec.2
      obtain ⟨_, hcl, hat⟩ := World.cells?_some hcs0
      have hsp := hat 0 (by omega)
      rw [List.getElem?_eq_getElem (by omega)] at hsp
      have hlt := World.block_lt_of_cell? _ _ hsp
      have hspot := World.cell?_spot hsp
      obtain ⟨b, off, spot⟩ := a
      have hs : spot = none := by simpa [Addr.add] using hspot
      subst hs
      have hb : b < W.heap.size := by
        simpa [Addr.add] using hlt
      refine ⟨b, off, rfl, hb, fun i hi' => ?_⟩
      have hi2 : i < len := by simpa using hi'
      simp only [List.getElem_map, List.getElem_attach, List.getElem_range]
      refine (hth i hi2).choose_spec.1 b (off + i * 5) ?_
      unfold Addr.add; split <;> simp [*]
    · simp; exact ⟨hl, hm⟩
end Go.Proofs.Ytbfbnpbonoapnaa
