/- What the walks say of memory: slices of calls, of packets, that came in or that the text spells out. -/
import Derived.Test.YtckfjkhjnpkobaaRows
import Derived.Test.YtckfjkhjnpkobaaKitPk
import Derived.Deep.Slices
import Derived.Deep.Fields
import Derived.ChangeSame
import Derived.WalkLawsBesides
import Derived.ProofKit
import Derived.OpenShut
namespace Go.Proofs.Ytckfjkhjnpkobaa
open Go.RowKit Go.ChangeShapes Go.WideShapes Go.Deep

/-- call t lies at ⟨b, o⟩ -/
def OpAt (w : World) (B b o : Nat) (t : Po.Op) : Prop :=
  ∃ ap cp, w.cell? ⟨b, o, none⟩ = some (.int .i64 t.kind) ∧ w.cell? ⟨b, o + 1, none⟩ = some (.int .i64 t.a) ∧ w.cell? ⟨b, o + 2, none⟩ = some (.int .i64 t.b) ∧ w.cell? ⟨b, o + 3, none⟩ = some (.slice ap t.d.length cp) ∧
    IsBytes w B ap t.d ∧ (t.d.length ≤ cp ∧ cp ≤ maxLen) ∧ (ap = none → cp = 0) ∧ InInt t.kind ∧ InInt t.a ∧ InInt t.b
/-- Below block B a slice at A holds the calls ts. -/
structure IsOps (w : World) (B : Nat) (A : Option Addr) (ts : List Po.Op) : Prop where
  cells : ∀ k, k < ts.length → ∃ b off, A = some ⟨b, off, none⟩ ∧ b < B ∧ ∀ i (h : i < ts.length), OpAt w B b (off + i * 4) ts[i]

theorem OpAt.below {w w' : World} {B b o : Nat} {t : Po.Op} (h : OpAt w B b o t) (hlt : b < B) (hb : Below B w w') : OpAt w' B b o t := by
  obtain ⟨ap, cp, c0, c1, c2, c3, hp, rest⟩ := h
  exact ⟨ap, cp, (hb.cell hlt).trans c0, (hb.cell hlt).trans c1, (hb.cell hlt).trans c2, (hb.cell hlt).trans c3, hp.below hb, rest⟩
namespace IsOps
variable {w w' : World} {B : Nat} {A : Option Addr} {ts : List Po.Op}
theorem nil : IsOps w B A [] := ⟨fun k h => by simp at h⟩
theorem below (h : IsOps w B A ts) (hb : Below B w w') : IsOps w' B A ts := ⟨fun k hk => by
  obtain ⟨b, off, e, hlt, hc⟩ := h.cells k hk
  exact ⟨b, off, e, hlt, fun i hi => (hc i hi).below hlt hb⟩⟩
theorem more {B' : Nat} (h : IsOps w B A ts) (hB : B ≤ B') : IsOps w B' A ts := ⟨fun k hk => by
  obtain ⟨b, off, e, hlt, hc⟩ := h.cells k hk
  refine ⟨b, off, e, by omega, fun i hi => ?_⟩
  obtain ⟨ap, cp, c0, c1, c2, c3, hp, rest⟩ := hc i hi
  exact ⟨ap, cp, c0, c1, c2, c3, hp.more hB, rest⟩⟩
theorem drewN (h : IsOps w B A ts) (n : Nat) : IsOps (w.drewN n) B A ts := h.below (below_drewN (Below.refl _ _) n)
theorem drew (h : IsOps w B A ts) : IsOps w.drew B A ts := h.below (Below.refl _ _).drew
theorem take (h : IsOps w B A ts) (n : Nat) : IsOps w B A (ts.take n) := ⟨fun k hk => by
  have hk' : k < ts.length := by rw [List.length_take] at hk; omega
  obtain ⟨b, off, e, hlt, hc⟩ := h.cells k hk'
  refine ⟨b, off, e, hlt, fun i hi => ?_⟩
  have hi' : i < ts.length := by rw [List.length_take] at hi; omega
  rw [List.getElem_take]
  exact hc i hi'⟩
end IsOps

theorem cellsOf_op : Try.prog.cellsOf 36 = 4 := by kernel_rfl
theorem bytes_of_trod {H : Type} {enc : TypeId × Value → H} {W : World} {fuel : Nat} {cs : List Value} {x : DataW H × List MemPlace} (h : DataW.trod enc Try.prog W 0 (fun _ => true) true fuel 34 cs = some x) :
    ∃ (a : Option Addr) (c : Nat) (l : List Nat), cs = [.slice a l.length c] ∧ IsBytes W W.heap.size a l ∧ (l.length ≤ c ∧ c ≤ maxLen) ∧ (a = none → c = 0) := by
  rcases open_ints Try.underlying34 Try.underlying5 (by kernel_rfl) h with ⟨hcs, _⟩ | ⟨x, l, c, zs, hcs, _, hl, hm, hz, hx, hcell, hwz⟩
  · exact ⟨none, 0, [], hcs, IsBytes.nil, ⟨Nat.le_refl _, Nat.zero_le _⟩, fun _ => rfl⟩
  · simp only [if_true] at hz
    obtain ⟨m, h1, h2⟩ := isBytes_of_ints hl hz hcell hwz
    subst h2
    exact ⟨some x, c, m, hcs, h1, ⟨hl, hm⟩, fun h => by cases h⟩
theorem int_of_trod {H : Type} {enc : TypeId × Value → H} {W : World} {fuel : Nat} {cs : List Value} {x : DataW H × List MemPlace} (h : DataW.trod enc Try.prog W 0 (fun _ => true) true fuel 3 cs = some x) : ∃ n, cs = [.int .i64 n] ∧ InInt n := by
  obtain ⟨n, h1, _, h2⟩ := DataW.trod_int Try.underlying3 h
  exact ⟨n, h1, bounds_i64 h2⟩
theorem one_cell {cs : List Value} {n : Nat} (h : cs.length = n) (j : Nat) (hj : j < n) : (cs.drop j).take 1 = [cs[j]'(by omega)] := by
  rw [List.drop_eq_getElem_cons (by omega)]
  rfl
theorem cellsOf_pk : Try.prog.cellsOf 42 = 3 := by kernel_rfl
set_option maxRecDepth 100000 in
theorem op_of_trod1 {H : Type} {enc : TypeId × Value → H} {W : World} {fuel : Nat} {a : Addr} {cs : List Value} {x : DataW H × List MemPlace} (hc : W.cells? 0 a 4 = some cs) (h : DataW.trod enc Try.prog W 0 (fun _ => true) true fuel 36 cs = some x) :
    ∃ t : Po.Op, ∀ b o, a = ⟨b, o, none⟩ → OpAt W W.heap.size b o t := by
  obtain ⟨_, hcl, hat⟩ := World.cells?_some hc
  obtain ⟨ys, n, _, _, _, hyl, hf⟩ := DataW.trod_struct Try.underlying36 h
  have hyl4 : ys.length = 4 := hyl
  have e0 : DataW.trod enc Try.prog W 0 (fun _ => true) true n 3 ((cs.drop 0).take (Try.prog.cellsOf 3)) = ys[0]? := hf 0 _ rfl
  have e1 : DataW.trod enc Try.prog W 0 (fun _ => true) true n 3 ((cs.drop 1).take (Try.prog.cellsOf 3)) = ys[1]? := hf 1 _ rfl
  have e2 : DataW.trod enc Try.prog W 0 (fun _ => true) true n 3 ((cs.drop 2).take (Try.prog.cellsOf 3)) = ys[2]? := hf 2 _ rfl
  have e3 : DataW.trod enc Try.prog W 0 (fun _ => true) true n 34 ((cs.drop 3).take (Try.prog.cellsOf 34)) = ys[3]? := hf 3 _ rfl
  have c1 : Try.prog.cellsOf 3 = 1 := by kernel_rfl
  have c2 : Try.prog.cellsOf 34 = 1 := by kernel_rfl
  rw [c1] at e0
  rw [one_cell hcl 0 (by omega), List.getElem?_eq_getElem (by omega)] at e0
  rw [c1] at e1
  rw [one_cell hcl 1 (by omega), List.getElem?_eq_getElem (by omega)] at e1
  rw [c1] at e2
  rw [one_cell hcl 2 (by omega), List.getElem?_eq_getElem (by omega)] at e2
  rw [c2] at e3
  rw [one_cell hcl 3 (by omega), List.getElem?_eq_getElem (by omega)] at e3
  obtain ⟨k0, k01, k02⟩ := int_of_trod e0
  have k01 := (List.cons.inj k01).1
  obtain ⟨k1, k11, k12⟩ := int_of_trod e1
  have k11 := (List.cons.inj k11).1
  obtain ⟨k2, k21, k22⟩ := int_of_trod e2
  have k21 := (List.cons.inj k21).1
  obtain ⟨ap, cp, p, k31, p2, p3, p4⟩ := bytes_of_trod e3
  have k31 := (List.cons.inj k31).1
  refine ⟨⟨k0, k1, k2, p⟩, fun b o e => ?_⟩
  subst e
  have g : ∀ j, (hj : j < 4) → W.cell? ⟨b, o + j, none⟩ = some (cs[j]'(by omega)) := fun j hj => by
    have := hat j hj
    rw [List.getElem?_eq_getElem (by omega)] at this
    rw [← this]
    congr 1
    unfold Addr.add; split <;> simp [*]
  exact ⟨ap, cp, by have := g 0 (by omega); rw [k01] at this; exact this, by have := g 1 (by omega); rw [k11] at this; exact this, by have := g 2 (by omega); rw [k21] at this; exact this, by have := g 3 (by omega); rw [k31] at this; exact this, p2, p3, p4, k02, k12, k22⟩

set_option maxRecDepth 100000 in
theorem ops_of_trod {H : Type} {enc : TypeId × Value → H} {W : World} {fuel : Nat} {cs : List Value} {x : DataW H × List MemPlace} (h : DataW.trod enc Try.prog W 0 (fun _ => true) true fuel 22 cs = some x) :
    ∃ (a : Option Addr) (c : Nat) (ts : List Po.Op), cs = [.slice a ts.length c] ∧ IsOps W W.heap.size a ts ∧ (ts.length ≤ c ∧ c ≤ maxLen) ∧ (a = none → c = 0) := by
  rcases open_slice Try.underlying22 h with ⟨hcs, _⟩ | ⟨a, len, cap, m, n, D, Pl, hcs, _, hl, hm, hmm, _, hi⟩
  · exact ⟨none, 0, [], hcs, IsOps.nil, ⟨Nat.le_refl _, Nat.zero_le _⟩, fun _ => rfl⟩
  · simp only [if_true] at hmm
    subst hmm
    rw [cellsOf_op] at hi
    have hth : ∀ i, i < len → ∃ t : Po.Op, (∀ b o, a.add (i * 4) = ⟨b, o, none⟩ → OpAt W W.heap.size b o t) ∧ ∃ cs, W.cells? 0 (a.add (i * 4)) 4 = some cs := fun i hlt => by
      obtain ⟨cs', h1, h2⟩ := hi i (by omega)
      obtain ⟨t, ht⟩ := op_of_trod1 h1 h2
      exact ⟨t, ht, cs', h1⟩
    refine ⟨some a, m, (List.range len).attach.map (fun i => (hth i.1 (List.mem_range.1 i.2)).choose), ?_, ⟨fun k hk => ?_⟩, ?_, fun h => by cases h⟩
    · rw [hcs]; simp
    · have hk' : k < len := by simpa using hk
      obtain ⟨cs0, hcs0⟩ := (hth 0 (by omega)).choose_spec.2
      obtain ⟨_, hcl, hat⟩ := World.cells?_some hcs0
      have hsp := hat 0 (by omega)
      rw [List.getElem?_eq_getElem (by omega)] at hsp
      have hlt := World.block_lt_of_cell? _ _ hsp
      have hspot := World.cell?_spot hsp
      obtain ⟨b, off, spot⟩ := a
      have hs : spot = none := by simpa [Addr.add] using hspot
      subst hs
      have hb : b < W.heap.size := by
        simpa [Addr.add] using hlt
      refine ⟨b, off, rfl, hb, fun i hi' => ?_⟩
      have hi2 : i < len := by simpa using hi'
      simp only [List.getElem_map, List.getElem_attach, List.getElem_range]
      refine (hth i hi2).choose_spec.1 b (off + i * 4) ?_
      unfold Addr.add; split <;> simp [*]
    · simp; exact ⟨hl, hm⟩
set_option maxRecDepth 100000 in
theorem pk_of_trod1 {H : Type} {enc : TypeId × Value → H} {W : World} {fuel : Nat} {a : Addr} {cs : List Value} {x : DataW H × List MemPlace} (hc : W.cells? 0 a 3 = some cs) (h : DataW.trod enc Try.prog W 0 (fun _ => true) true fuel 42 cs = some x) :
    ∃ t : Po.Pk, ∀ b o, a = ⟨b, o, none⟩ → PkAt W b o t := by
  obtain ⟨_, hcl, hat⟩ := World.cells?_some hc
  obtain ⟨ys, n, _, _, _, hyl, hf⟩ := DataW.trod_struct Try.underlying42 h
  have hyl4 : ys.length = 3 := hyl
  have e0 : DataW.trod enc Try.prog W 0 (fun _ => true) true n 3 ((cs.drop 0).take (Try.prog.cellsOf 3)) = ys[0]? := hf 0 _ rfl
  have e1 : DataW.trod enc Try.prog W 0 (fun _ => true) true n 3 ((cs.drop 1).take (Try.prog.cellsOf 3)) = ys[1]? := hf 1 _ rfl
  have e2 : DataW.trod enc Try.prog W 0 (fun _ => true) true n 34 ((cs.drop 2).take (Try.prog.cellsOf 34)) = ys[2]? := hf 2 _ rfl
  have c1 : Try.prog.cellsOf 3 = 1 := by kernel_rfl
  have c2 : Try.prog.cellsOf 34 = 1 := by kernel_rfl
  rw [c1] at e0
  rw [one_cell hcl 0 (by omega), List.getElem?_eq_getElem (by omega)] at e0
  rw [c1] at e1
  rw [one_cell hcl 1 (by omega), List.getElem?_eq_getElem (by omega)] at e1
  rw [c2] at e2
  rw [one_cell hcl 2 (by omega), List.getElem?_eq_getElem (by omega)] at e2
  obtain ⟨k0, k01, k02⟩ := int_of_trod e0
  have k01 := (List.cons.inj k01).1
  obtain ⟨k1, k11, k12⟩ := int_of_trod e1
  have k11 := (List.cons.inj k11).1
  obtain ⟨ap, cp, p, k21, p2, p3, p4⟩ := bytes_of_trod e2
  have k21 := (List.cons.inj k21).1
  refine ⟨⟨k0, k1, p⟩, fun b o e => ?_⟩
  subst e
  have g : ∀ j, (hj : j < 3) → W.cell? ⟨b, o + j, none⟩ = some (cs[j]'(by omega)) := fun j hj => by
    have := hat j hj
    rw [List.getElem?_eq_getElem (by omega)] at this
    rw [← this]
    congr 1
    unfold Addr.add; split <;> simp [*]
  exact ⟨ap, cp, by have := g 0 (by omega); rw [k01] at this; exact this, by have := g 1 (by omega); rw [k11] at this; exact this, by have := g 2 (by omega); rw [k21] at this; exact this, p2, Nat.le_trans p3.1 p3.2, p4⟩

set_option maxRecDepth 100000 in
theorem pks_of_trod {H : Type} {enc : TypeId × Value → H} {W : World} {fuel : Nat} {cs : List Value} {x : DataW H × List MemPlace} (h : DataW.trod enc Try.prog W 0 (fun _ => true) true fuel 28 cs = some x) :
    ∃ (a : Option Addr) (c : Nat) (ts : List Po.Pk), cs = [.slice a ts.length c] ∧ IsPks W a ts ∧ (ts.length ≤ c ∧ c ≤ maxLen) ∧ (a = none → c = 0) := by
  rcases open_slice Try.underlying28 h with ⟨hcs, _⟩ | ⟨a, len, cap, m, n, D, Pl, hcs, _, hl, hm, hmm, _, hi⟩
  · exact ⟨none, 0, [], hcs, fun k h => by simp at h, ⟨Nat.le_refl _, Nat.zero_le _⟩, fun _ => rfl⟩
  · simp only [if_true] at hmm
    subst hmm
    rw [cellsOf_pk] at hi
    have hth : ∀ i, i < len → ∃ t : Po.Pk, (∀ b o, a.add (i * 3) = ⟨b, o, none⟩ → PkAt W b o t) ∧ ∃ cs, W.cells? 0 (a.add (i * 3)) 3 = some cs := fun i hlt => by
      obtain ⟨cs', h1, h2⟩ := hi i (by omega)
      obtain ⟨t, ht⟩ := pk_of_trod1 h1 h2
      exact ⟨t, ht, cs', h1⟩
    refine ⟨some a, m, (List.range len).attach.map (fun i => (hth i.1 (List.mem_range.1 i.2)).choose), ?_, fun k hk => ?_, ?_, fun h => by cases h⟩
    · rw [hcs]; simp
    · have hk' : k < len := by simpa using hk
      obtain ⟨cs0, hcs0⟩ := (hth 0 (by omega)).choose_spec.2
      obtain ⟨_, hcl, hat⟩ := World.cells?_some hcs0
      have hsp := hat 0 (by omega)
      rw [List.getElem?_eq_getElem (by omega)] at hsp
      have hlt := World.block_lt_of_cell? _ _ hsp
      have hspot := World.cell?_spot hsp
      obtain ⟨b, off, spot⟩ := a
      have hs : spot = none := by simpa [Addr.add] using hspot
      subst hs
      have hb : b < W.heap.size := by
        simpa [Addr.add] using hlt
      refine ⟨b, off, rfl, hb, fun i hi' => ?_⟩
      have hi2 : i < len := by simpa using hi'
      simp only [List.getElem_map, List.getElem_attach, List.getElem_range]
      refine (hth i hi2).choose_spec.1 b (off + i * 3) ?_
      unfold Addr.add; split <;> simp [*]
    · simp; exact ⟨hl, hm⟩
end Go.Proofs.Ytckfjkhjnpkobaa
