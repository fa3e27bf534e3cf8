/- What the walks say of memory: slices of rows of bytes, of lives, that came in. -/
import Derived.Test.YtomnbaeokmpobaaRows
import Derived.Test.YtomnbaeokmpobaaGrown
import Derived.Test.YtomnbaeokmpobaaRowL
import Derived.Deep.Slices
import Derived.Deep.Fields
import Derived.ChangeSame
import Derived.WalkLawsBesides
import Derived.ProofKit
import Derived.OpenShut
namespace Go.Proofs.Ytomnbaeokmpobaa
open Go.RowKit Go.ChangeShapes Go.WideShapes Go.Deep

namespace Jo
structure Life where
  recs : List (List Nat)
  cut : Int
  fates : List Int
end Jo
/-- Below block B a slice at A holds these rows of bytes. -/
def IsRowsIn (w : World) (B : Nat) (A : Option Addr) (L : List (List Nat)) : Prop :=
  ∀ k, k < L.length → ∃ b off, A = some ⟨b, off, none⟩ ∧ b < B ∧ ∀ i (h : i < L.length), ∃ A' c', w.cell? ⟨b, off + i, none⟩ = some (.slice A' L[i].length c') ∧ IsBytes w B A' L[i] ∧ (L[i].length ≤ c' ∧ c' ≤ maxLen) ∧ (A' = none → c' = 0)
namespace IsRowsIn
variable {w w' : World} {B : Nat} {A : Option Addr} {L : List (List Nat)}
theorem nil : IsRowsIn w B A [] := fun k h => by simp at h
theorem below (h : IsRowsIn w B A L) (hb : Below B w w') : IsRowsIn w' B A L := fun k hk => by
  obtain ⟨b, off, e, hlt, hc⟩ := h k hk
  refine ⟨b, off, e, hlt, fun i hi => ?_⟩
  obtain ⟨A', c', h1, h2, h3⟩ := hc i hi
  exact ⟨A', c', (hb.cell hlt).trans h1, h2.below hb, h3⟩
end IsRowsIn
/-- life t lies at ⟨b, o⟩ -/
def LifeAt (w : World) (B b o : Nat) (t : Jo.Life) : Prop :=
  ∃ ar cr al cl, w.cell? ⟨b, o, none⟩ = some (.slice ar t.recs.length cr) ∧ w.cell? ⟨b, o + 1, none⟩ = some (.int .i64 t.cut) ∧ w.cell? ⟨b, o + 2, none⟩ = some (.slice al t.fates.length cl) ∧
    IsRowsIn w B ar t.recs ∧ IsInts w B al t.fates ∧ (t.recs.length ≤ cr ∧ cr ≤ maxLen) ∧ (t.fates.length ≤ cl ∧ cl ≤ maxLen) ∧ (ar = none → cr = 0) ∧ (al = none → cl = 0) ∧ InInt t.cut
theorem LifeAt.below {w w' : World} {B b o : Nat} {t : Jo.Life} (h : LifeAt w B b o t) (hlt : b < B) (hb : Below B w w') : LifeAt w' B b o t := by
  obtain ⟨ar, cr, al, cl, c0, c1, c2, hr, hl, rest⟩ := h
  exact ⟨ar, cr, al, cl, (hb.cell hlt).trans c0, (hb.cell hlt).trans c1, (hb.cell hlt).trans c2, hr.below hb, hl.below hb, rest⟩
/-- Below block B a slice at A holds the lives ts. -/
def IsLives (w : World) (B : Nat) (A : Option Addr) (ts : List Jo.Life) : Prop :=
  ∀ k, k < ts.length → ∃ b off, A = some ⟨b, off, none⟩ ∧ b < B ∧ ∀ i (h : i < ts.length), LifeAt w B b (off + i * 3) ts[i]
theorem IsLives.below {w w' : World} {B : Nat} {A : Option Addr} {ts : List Jo.Life} (h : IsLives w B A ts) (hb : Below B w w') : IsLives w' B A ts := fun k hk => by
  obtain ⟨b, off, e, hlt, hc⟩ := h k hk
  exact ⟨b, off, e, hlt, fun i hi => (hc i hi).below hlt hb⟩

theorem bytes_of_trod {H : Type} {enc : TypeId × Value → H} {W : World} {fuel : Nat} {cs : List Value} {x : DataW H × List MemPlace} (h : DataW.trod enc Try.prog W 0 (fun _ => true) true fuel 43 cs = some x) :
    ∃ (a : Option Addr) (c : Nat) (l : List Nat), cs = [.slice a l.length c] ∧ IsBytes W W.heap.size a l ∧ (l.length ≤ c ∧ c ≤ maxLen) ∧ (a = none → c = 0) := by
  rcases open_ints Try.underlying43 Try.underlying5 (by kernel_rfl) h with ⟨hcs, _⟩ | ⟨x, l, c, zs, hcs, _, hl, hm, hz, hx, hcell, hwz⟩
  · exact ⟨none, 0, [], hcs, IsBytes.nil, ⟨Nat.le_refl _, Nat.zero_le _⟩, fun _ => rfl⟩
  · simp only [if_true] at hz
    obtain ⟨m, h1, h2⟩ := isBytes_of_ints hl hz hcell hwz
    subst h2
    exact ⟨some x, c, m, hcs, h1, ⟨hl, hm⟩, fun h => by cases h⟩
theorem ints_of_trod {H : Type} {enc : TypeId × Value → H} {W : World} {fuel : Nat} {cs : List Value} {x : DataW H × List MemPlace} (h : DataW.trod enc Try.prog W 0 (fun _ => true) true fuel 28 cs = some x) :
    ∃ (a : Option Addr) (c : Nat) (l : List Int), cs = [.slice a l.length c] ∧ IsInts W W.heap.size a l ∧ (l.length ≤ c ∧ c ≤ maxLen) ∧ (a = none → c = 0) := by
  rcases open_ints Try.underlying28 Try.underlying3 (by kernel_rfl) h with ⟨hcs, _⟩ | ⟨x, l, c, zs, hcs, _, hl, hm, hz, hx, hcell, hwz⟩
  · exact ⟨none, 0, [], hcs, IsInts.nil, ⟨Nat.le_refl _, Nat.zero_le _⟩, fun _ => rfl⟩
  · simp only [if_true] at hz
    obtain ⟨m, h1, h2⟩ := isInts_of_ints hl hz hcell hwz
    subst h2
    exact ⟨some x, c, m, hcs, h1, ⟨hl, hm⟩, fun h => by cases h⟩
theorem int_of_trod {H : Type} {enc : TypeId × Value → H} {W : World} {fuel : Nat} {cs : List Value} {x : DataW H × List MemPlace} (h : DataW.trod enc Try.prog W 0 (fun _ => true) true fuel 3 cs = some x) : ∃ n, cs = [.int .i64 n] ∧ InInt n := by
  obtain ⟨n, h1, _, h2⟩ := DataW.trod_int Try.underlying3 h
  exact ⟨n, h1, bounds_i64 h2⟩
theorem one_cell {cs : List Value} {n : Nat} (h : cs.length = n) (j : Nat) (hj : j < n) : (cs.drop j).take 1 = [cs[j]'(by omega)] := by
  rw [List.drop_eq_getElem_cons (by omega)]
  rfl
theorem cellsOf_bytes : Try.prog.cellsOf 43 = 1 := by kernel_rfl
theorem cellsOf_life : Try.prog.cellsOf 30 = 3 := by kernel_rfl
set_option maxRecDepth 100000 in
theorem rows_of_trod {H : Type} {enc : TypeId × Value → H} {W : World} {fuel : Nat} {cs : List Value} {x : DataW H × List MemPlace} (h : DataW.trod enc Try.prog W 0 (fun _ => true) true fuel 27 cs = some x) :
    ∃ (a : Option Addr) (c : Nat) (L : List (List Nat)), cs = [.slice a L.length c] ∧ IsRowsIn W W.heap.size a L ∧ (L.length ≤ c ∧ c ≤ maxLen) ∧ (a = none → c = 0) := by
  rcases open_slice Try.underlying27 h with ⟨hcs, _⟩ | ⟨a, len, cap, m, n, D, Pl, hcs, _, hl, hm, hmm, _, hi⟩
  · exact ⟨none, 0, [], hcs, IsRowsIn.nil, ⟨Nat.le_refl _, Nat.zero_le _⟩, fun _ => rfl⟩
  · simp only [if_true] at hmm
    subst hmm
    rw [cellsOf_bytes] at hi
    have hth : ∀ i, i < len → ∃ l : List Nat, (∃ A' c', W.cells? 0 (a.add (i * 1)) 1 = some [.slice A' l.length c'] ∧ IsBytes W W.heap.size A' l ∧ (l.length ≤ c' ∧ c' ≤ maxLen) ∧ (A' = none → c' = 0)) := fun i hlt => by
      obtain ⟨cs', h1, h2⟩ := hi i (by omega)
      obtain ⟨A', c', l, h3, h4⟩ := bytes_of_trod h2
      subst h3
      exact ⟨l, A', c', h1, h4⟩
    refine ⟨some a, m, (List.range len).attach.map (fun i => (hth i.1 (List.mem_range.1 i.2)).choose), ?_, fun k hk => ?_, ?_, fun h => by cases h⟩
    · rw [hcs]; simp
    · have hk' : k < len := by simpa using hk
      obtain ⟨A0, c0, hcs0, _⟩ := (hth 0 (by omega)).choose_spec
      obtain ⟨_, hcl, hat⟩ := World.cells?_some hcs0
      have hsp := hat 0 (by omega)
      rw [List.getElem?_eq_getElem (by simp)] at hsp
      have hlt := World.block_lt_of_cell? _ _ hsp
      have hspot := World.cell?_spot hsp
      obtain ⟨b, off, spot⟩ := a
      have hs : spot = none := by simpa [Addr.add] using hspot
      subst hs
      have hb : b < W.heap.size := by
        simpa [Addr.add] using hlt
      refine ⟨b, off, rfl, hb, fun i hi' => ?_⟩
      have hi2 : i < len := by simpa using hi'
      simp only [List.getElem_map, List.getElem_attach, List.getElem_range]
      obtain ⟨A', c', h1, h2⟩ := (hth i hi2).choose_spec
      refine ⟨A', c', ?_, h2⟩
      obtain ⟨_, _, hat'⟩ := World.cells?_some h1
      have h3 := hat' 0 (by omega)
      refine (congrArg W.cell? ?_).trans h3
      rw [add_off, add_off, Nat.mul_one, Nat.add_zero]
    · simp; exact ⟨hl, hm⟩
set_option maxRecDepth 100000 in
theorem life_of_trod {H : Type} {enc : TypeId × Value → H} {W : World} {fuel : Nat} {a : Addr} {cs : List Value} {x : DataW H × List MemPlace} (hc : W.cells? 0 a 3 = some cs) (h : DataW.trod enc Try.prog W 0 (fun _ => true) true fuel 30 cs = some x) :
    ∃ t : Jo.Life, ∀ b o, a = ⟨b, o, none⟩ → LifeAt W W.heap.size b o t := by
  obtain ⟨_, hcl, hat⟩ := World.cells?_some hc
  obtain ⟨ys, n, _, _, _, hyl, hf⟩ := DataW.trod_struct Try.underlying30 h
  have hyl3 : ys.length = 3 := hyl
  have e0 : DataW.trod enc Try.prog W 0 (fun _ => true) true n 27 ((cs.drop 0).take (Try.prog.cellsOf 27)) = ys[0]? := hf 0 _ rfl
  have e1 : DataW.trod enc Try.prog W 0 (fun _ => true) true n 3 ((cs.drop 1).take (Try.prog.cellsOf 3)) = ys[1]? := hf 1 _ rfl
  have e2 : DataW.trod enc Try.prog W 0 (fun _ => true) true n 28 ((cs.drop 2).take (Try.prog.cellsOf 28)) = ys[2]? := hf 2 _ rfl
  have c1 : Try.prog.cellsOf 27 = 1 := by kernel_rfl
  have c2 : Try.prog.cellsOf 3 = 1 := by kernel_rfl
  have c3 : Try.prog.cellsOf 28 = 1 := by kernel_rfl
  rw [c1, one_cell hcl 0 (by omega), List.getElem?_eq_getElem (by omega)] at e0
  rw [c2, one_cell hcl 1 (by omega), List.getElem?_eq_getElem (by omega)] at e1
  rw [c3, one_cell hcl 2 (by omega), List.getElem?_eq_getElem (by omega)] at e2
  obtain ⟨ar, cr, R, r1, r2, r3, r4⟩ := rows_of_trod e0
  obtain ⟨v, v1, v2⟩ := int_of_trod e1
  obtain ⟨al, cl, l, l1, l2, l3, l4⟩ := ints_of_trod e2
  have r1 := (List.cons.inj r1).1
  have v1 := (List.cons.inj v1).1
  have l1 := (List.cons.inj l1).1
  refine ⟨⟨R, v, l⟩, fun b o e => ?_⟩
  subst e
  have g : ∀ j, (hj : j < 3) → W.cell? ⟨b, o + j, none⟩ = some (cs[j]'(by omega)) := fun j hj => by
    have := hat j hj
    rw [List.getElem?_eq_getElem (by omega)] at this
    rw [← this]
    congr 1
    unfold Addr.add; split <;> simp [*]
  exact ⟨ar, cr, al, cl, by have := g 0 (by omega); rw [r1] at this; exact this, by have := g 1 (by omega); rw [v1] at this; exact this, by have := g 2 (by omega); rw [l1] at this; exact this, r2, l2, r3, l3, r4, l4, v2⟩
set_option maxRecDepth 100000 in
theorem lives_of_trod {H : Type} {enc : TypeId × Value → H} {W : World} {fuel : Nat} {cs : List Value} {x : DataW H × List MemPlace} (h : DataW.trod enc Try.prog W 0 (fun _ => true) true fuel 22 cs = some x) :
    ∃ (a : Option Addr) (c : Nat) (ts : List Jo.Life), cs = [.slice a ts.length c] ∧ IsLives W W.heap.size a ts ∧ (ts.length ≤ c ∧ c ≤ maxLen) ∧ (a = none → c = 0) := by
  rcases open_slice Try.underlying22 h with ⟨hcs, _⟩ | ⟨a, len, cap, m, n, D, Pl, hcs, _, hl, hm, hmm, _, hi⟩
  · exact ⟨none, 0, [], hcs, fun k h => by simp at h, ⟨Nat.le_refl _, Nat.zero_le _⟩, fun _ => rfl⟩
  · simp only [if_true] at hmm
    subst hmm
    rw [cellsOf_life] at hi
    have hth : ∀ i, i < len → ∃ t : Jo.Life, (∀ b o, a.add (i * 3) = ⟨b, o, none⟩ → LifeAt W W.heap.size b o t) ∧ ∃ cs, W.cells? 0 (a.add (i * 3)) 3 = some cs := fun i hlt => by
      obtain ⟨cs', h1, h2⟩ := hi i (by omega)
      obtain ⟨t, ht⟩ := life_of_trod h1 h2
      exact ⟨t, ht, cs', h1⟩
    refine ⟨some a, m, (List.range len).attach.map (fun i => (hth i.1 (List.mem_range.1 i.2)).choose), ?_, fun k hk => ?_, ?_, fun h => by cases h⟩
    · rw [hcs]; simp
    · have hk' : k < len := by simpa using hk
      obtain ⟨cs0, hcs0⟩ := (hth 0 (by omega)).choose_spec.2
      obtain ⟨_, hcl, hat⟩ := World.cells?_some hcs0
      have hsp := hat 0 (by omega)
      rw [List.getElem?_eq_getElem (by omega)] at hsp
      have hlt := World.block_lt_of_cell? _ _ hsp
      have hspot := World.cell?_spot hsp
      obtain ⟨b, off, spot⟩ := a
      have hs : spot = none := by simpa [Addr.add] using hspot
      subst hs
      have hb : b < W.heap.size := by
        simpa [Addr.add] using hlt
      refine ⟨b, off, rfl, hb, fun i hi' => ?_⟩
      have hi2 : i < len := by simpa using hi'
      simp only [List.getElem_map, List.getElem_attach, List.getElem_range]
      refine (hth i hi2).choose_spec.1 b (off + i * 3) ?_
      unfold Addr.add; split <;> simp [*]
    · simp; exact ⟨hl, hm⟩
end Go.Proofs.Ytomnbaeokmpobaa
