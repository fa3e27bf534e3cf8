/- What the walks say of memory: a slice of things. -/
import Derived.Test.YtdmghnfnmgkigaaRows
import Derived.Test.YtdmghnfnmgkigaaPackMath2
import Derived.Test.YtdmghnfnmgkigaaGrown
import Derived.Deep.Slices
import Derived.Deep.Fields
import Derived.ChangeSame
import Derived.WalkLawsBesides
import Derived.ProofKit
import Derived.OpenShut
namespace Go.Proofs.Ytdmghnfnmgkigaa
open Go.RowKit Go.ChangeShapes Go.WideShapes Go.Deep

/-- thing t lies at ⟨b, o⟩ -/
def ThingAt (w : World) (B b o : Nat) (t : Pk.Th) : Prop :=
  ∃ ap cp al cl, w.cell? ⟨b, o, none⟩ = some (.int .i64 t.kind) ∧ w.cell? ⟨b, o + 1, none⟩ = some (.int .i64 t.v) ∧ w.cell? ⟨b, o + 2, none⟩ = some (.slice ap t.p.length cp) ∧ w.cell? ⟨b, o + 3, none⟩ = some (.slice al t.l.length cl) ∧
    IsBytes w B ap t.p ∧ IsInts w B al t.l ∧ (t.p.length ≤ cp ∧ cp ≤ maxLen) ∧ (t.l.length ≤ cl ∧ cl ≤ maxLen) ∧ (ap = none → cp = 0) ∧ (al = none → cl = 0) ∧ InInt t.kind ∧ InInt t.v
/-- Below block B a slice at A holds the things ts. -/
structure IsThings (w : World) (B : Nat) (A : Option Addr) (ts : List Pk.Th) : Prop where
  cells : ∀ k, k < ts.length → ∃ b off, A = some ⟨b, off, none⟩ ∧ b < B ∧ ∀ i (h : i < ts.length), ThingAt w B b (off + i * 4) ts[i]

namespace IsThings
variable {w w' : World} {B : Nat} {A : Option Addr} {ts : List Pk.Th}
theorem nil : IsThings w B A [] := ⟨fun k h => by simp at h⟩
theorem below (h : IsThings w B A ts) (hb : Below B w w') : IsThings w' B A ts := ⟨fun k hk => by
  obtain ⟨b, off, e, hlt, hc⟩ := h.cells k hk
  refine ⟨b, off, e, hlt, fun i hi => ?_⟩
  obtain ⟨ap, cp, al, cl, c0, c1, c2, c3, hp, hl, rest⟩ := hc i hi
  exact ⟨ap, cp, al, cl, (hb.cell hlt).trans c0, (hb.cell hlt).trans c1, (hb.cell hlt).trans c2, (hb.cell hlt).trans c3, hp.below hb, hl.below hb, rest⟩⟩
theorem more {B' : Nat} (h : IsThings w B A ts) (hB : B ≤ B') : IsThings w B' A ts := ⟨fun k hk => by
  obtain ⟨b, off, e, hlt, hc⟩ := h.cells k hk
  refine ⟨b, off, e, by omega, fun i hi => ?_⟩
  obtain ⟨ap, cp, al, cl, c0, c1, c2, c3, hp, hl, rest⟩ := hc i hi
  exact ⟨ap, cp, al, cl, c0, c1, c2, c3, hp.more hB, hl.more hB, rest⟩⟩
theorem drewN (h : IsThings w B A ts) (n : Nat) : IsThings (w.drewN n) B A ts := h.below (below_drewN (Below.refl _ _) n)
theorem drew (h : IsThings w B A ts) : IsThings w.drew B A ts := h.below (Below.refl _ _).drew
theorem ok (h : IsThings w B A ts) : ∀ t ∈ ts, t.ok := by
  intro t ht
  obtain ⟨i, hi, rfl⟩ := List.getElem_of_mem ht
  obtain ⟨b, off, _, _, hc⟩ := h.cells i hi
  obtain ⟨ap, cp, al, cl, _, _, _, _, hp, hl, _, _, _, _, _, hv⟩ := hc i hi
  exact ⟨hv, hp.small, hl.small⟩
end IsThings

theorem cellsOf_thing : Try.prog.cellsOf 54 = 4 := by kernel_rfl
theorem bytes_of_trod {H : Type} {enc : TypeId × Value → H} {W : World} {fuel : Nat} {cs : List Value} {x : DataW H × List MemPlace} (h : DataW.trod enc Try.prog W 0 (fun _ => true) true fuel 22 cs = some x) :
    ∃ (a : Option Addr) (c : Nat) (l : List Nat), cs = [.slice a l.length c] ∧ IsBytes W W.heap.size a l ∧ (l.length ≤ c ∧ c ≤ maxLen) ∧ (a = none → c = 0) := by
  rcases open_ints Try.underlying22 Try.underlying5 (by kernel_rfl) h with ⟨hcs, _⟩ | ⟨x, l, c, zs, hcs, _, hl, hm, hz, hx, hcell, hwz⟩
  · exact ⟨none, 0, [], hcs, IsBytes.nil, ⟨Nat.le_refl _, Nat.zero_le _⟩, fun _ => rfl⟩
  · simp only [if_true] at hz
    obtain ⟨m, h1, h2⟩ := isBytes_of_ints hl hz hcell hwz
    subst h2
    exact ⟨some x, c, m, hcs, h1, ⟨hl, hm⟩, fun h => by cases h⟩
theorem ints_of_trod {H : Type} {enc : TypeId × Value → H} {W : World} {fuel : Nat} {cs : List Value} {x : DataW H × List MemPlace} (h : DataW.trod enc Try.prog W 0 (fun _ => true) true fuel 23 cs = some x) :
    ∃ (a : Option Addr) (c : Nat) (l : List Int), cs = [.slice a l.length c] ∧ IsInts W W.heap.size a l ∧ (l.length ≤ c ∧ c ≤ maxLen) ∧ (a = none → c = 0) := by
  rcases open_ints Try.underlying23 Try.underlying3 (by kernel_rfl) h with ⟨hcs, _⟩ | ⟨x, l, c, zs, hcs, _, hl, hm, hz, hx, hcell, hwz⟩
  · exact ⟨none, 0, [], hcs, IsInts.nil, ⟨Nat.le_refl _, Nat.zero_le _⟩, fun _ => rfl⟩
  · simp only [if_true] at hz
    obtain ⟨m, h1, h2⟩ := isInts_of_ints hl hz hcell hwz
    subst h2
    exact ⟨some x, c, m, hcs, h1, ⟨hl, hm⟩, fun h => by cases h⟩
theorem int_of_trod {H : Type} {enc : TypeId × Value → H} {W : World} {fuel : Nat} {cs : List Value} {x : DataW H × List MemPlace} (h : DataW.trod enc Try.prog W 0 (fun _ => true) true fuel 3 cs = some x) : ∃ n, cs = [.int .i64 n] ∧ InInt n := by
  obtain ⟨n, h1, _, h2⟩ := DataW.trod_int Try.underlying3 h
  exact ⟨n, h1, bounds_i64 h2⟩
theorem one_cell {cs : List Value} (h : cs.length = 4) (j : Nat) (hj : j < 4) : (cs.drop j).take 1 = [cs[j]'(by omega)] := by
  rw [List.drop_eq_getElem_cons (by omega)]
  rfl
theorem thing_of_trod {H : Type} {enc : TypeId × Value → H} {W : World} {fuel : Nat} {a : Addr} {cs : List Value} {x : DataW H × List MemPlace} (hc : W.cells? 0 a 4 = some cs) (h : DataW.trod enc Try.prog W 0 (fun _ => true) true fuel 54 cs = some x) :
    ∃ t : Pk.Th, ∀ b o, a = ⟨b, o, none⟩ → ThingAt W W.heap.size b o t := by
  obtain ⟨_, hcl, hat⟩ := World.cells?_some hc
  obtain ⟨ys, n, _, _, _, hyl, hf⟩ := DataW.trod_struct Try.underlying54 h
  have hyl4 : ys.length = 4 := hyl
  have e0 : DataW.trod enc Try.prog W 0 (fun _ => true) true n 3 ((cs.drop 0).take (Try.prog.cellsOf 3)) = ys[0]? := hf 0 _ rfl
  have e1 : DataW.trod enc Try.prog W 0 (fun _ => true) true n 3 ((cs.drop 1).take (Try.prog.cellsOf 3)) = ys[1]? := hf 1 _ rfl
  have e2 : DataW.trod enc Try.prog W 0 (fun _ => true) true n 22 ((cs.drop 2).take (Try.prog.cellsOf 22)) = ys[2]? := hf 2 _ rfl
  have e3 : DataW.trod enc Try.prog W 0 (fun _ => true) true n 23 ((cs.drop 3).take (Try.prog.cellsOf 23)) = ys[3]? := hf 3 _ rfl
  have c1 : Try.prog.cellsOf 3 = 1 := by kernel_rfl
  have c2 : Try.prog.cellsOf 22 = 1 := by kernel_rfl
  have c3 : Try.prog.cellsOf 23 = 1 := by kernel_rfl
  rw [c1] at e0 e1
  rw [c2] at e2
  rw [c3] at e3
  rw [one_cell hcl 0 (by omega), List.getElem?_eq_getElem (by omega)] at e0
  rw [one_cell hcl 1 (by omega), List.getElem?_eq_getElem (by omega)] at e1
  rw [one_cell hcl 2 (by omega), List.getElem?_eq_getElem (by omega)] at e2
  rw [one_cell hcl 3 (by omega), List.getElem?_eq_getElem (by omega)] at e3
  obtain ⟨kd, k1, k2⟩ := int_of_trod e0
  obtain ⟨v, v1, v2⟩ := int_of_trod e1
  obtain ⟨ap, cp, p, p1, p2, p3, p4⟩ := bytes_of_trod e2
  obtain ⟨al, cl, l, l1, l2, l3, l4⟩ := ints_of_trod e3
  have k1 := (List.cons.inj k1).1
  have v1 := (List.cons.inj v1).1
  have p1 := (List.cons.inj p1).1
  have l1 := (List.cons.inj l1).1
  refine ⟨⟨kd, v, p, l⟩, fun b o e => ?_⟩
  subst e
  have g : ∀ j, (hj : j < 4) → W.cell? ⟨b, o + j, none⟩ = some (cs[j]'(by omega)) := fun j hj => by
    have := hat j hj
    rw [List.getElem?_eq_getElem (by omega)] at this
    rw [← this]
    congr 1
    unfold Addr.add; split <;> simp [*]
  exact ⟨ap, cp, al, cl, by have := g 0 (by omega); rw [k1] at this; exact this, by have := g 1 (by omega); rw [v1] at this; exact this, by have := g 2 (by omega); rw [p1] at this; exact this,
    by have := g 3 (by omega); rw [l1] at this; exact this, p2, l2, p3, l3, p4, l4, k2, v2⟩

theorem things_of_trod {H : Type} {enc : TypeId × Value → H} {W : World} {fuel : Nat} {cs : List Value} {x : DataW H × List MemPlace} (h : DataW.trod enc Try.prog W 0 (fun _ => true) true fuel 45 cs = some x) :
    ∃ (a : Option Addr) (c : Nat) (ts : List Pk.Th), cs = [.slice a ts.length c] ∧ IsThings W W.heap.size a ts ∧ (ts.length ≤ c ∧ c ≤ maxLen) ∧ (a = none → c = 0) := by
  rcases open_slice Try.underlying45 h with ⟨hcs, _⟩ | ⟨a, len, cap, m, n, D, Pl, hcs, _, hl, hm, hmm, _, hi⟩
  · exact ⟨none, 0, [], hcs, IsThings.nil, ⟨Nat.le_refl _, Nat.zero_le _⟩, fun _ => rfl⟩
  · simp only [if_true] at hmm
    subst hmm
    rw [cellsOf_thing] at hi
    have hth : ∀ i, i < len → ∃ t : Pk.Th, (∀ b o, a.add (i * 4) = ⟨b, o, none⟩ → ThingAt W W.heap.size b o t) ∧ ∃ cs, W.cells? 0 (a.add (i * 4)) 4 = some cs := fun i hlt => by
      obtain ⟨cs', h1, h2⟩ := hi i (by omega)
      obtain ⟨t, ht⟩ := thing_of_trod h1 h2
      exact ⟨t, ht, cs', h1⟩
    refine ⟨some a, m, (List.range len).attach.map (fun i => (hth i.1 (List.mem_range.1 i.2)).choose), ?_, ⟨fun k hk => ?_⟩, ?_, fun h => by cases h⟩
    · rw [hcs]; simp
    · have hk' : k < len := by simpa using hk
      obtain ⟨cs0, hcs0⟩ := (hth 0 (by omega)).choose_spec.2
      obtain ⟨_, hcl, hat⟩ := World.cells?_some hcs0
      have hsp := hat 0 (by omega)
      rw [List.getElem?_eq_getElem (by omega)] at hsp
      have hlt := World.block_lt_of_cell? _ _ hsp
      have hspot := World.cell?_spot hsp
      obtain ⟨b, off, spot⟩ := a
      have hs : spot = none := by simpa [Addr.add] using hspot
      subst hs
      have hb : b < W.heap.size := by
        simpa [Addr.add] using hlt
      refine ⟨b, off, rfl, hb, fun i hi' => ?_⟩
      have hi2 : i < len := by simpa using hi'
      simp only [List.getElem_map, List.getElem_attach, List.getElem_range]
      refine (hth i hi2).choose_spec.1 b (off + i * 4) ?_
      unfold Addr.add; split <;> simp [*]
    · simp; exact ⟨hl, hm⟩
end Go.Proofs.Ytdmghnfnmgkigaa
