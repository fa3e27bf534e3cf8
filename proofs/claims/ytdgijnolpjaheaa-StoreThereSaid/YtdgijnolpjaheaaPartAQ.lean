/- Texts of the proof, one behind the other: Deeds, StThere. -/
import Derived.Test.YtdgijnolpjaheaaRows
import Derived.Test.YtdgijnolpjaheaaPartAA
import Derived.Test.YtdgijnolpjaheaaPartAP
import Derived.Deep.Slices
import Derived.Deep.Fields
import Derived.ChangeSame
import Derived.WalkLawsBesides
import Derived.ProofKit
import Derived.OpenShut
namespace Go.Proofs.Ytdgijnolpjaheaa
open Go.RowKit Go.ChangeShapes Go.WideShapes Go.Deep

namespace Sto
structure Deed where
  fresh : Bool
  data : List Nat
  cut : Int
  fates : List Int
end Sto
/-- deed t lies at ⟨b, o⟩ -/
def DeedAt (w : World) (B b o : Nat) (t : Sto.Deed) : Prop :=
  ∃ ar cr al cl, w.cell? ⟨b, o, none⟩ = some (.bool t.fresh) ∧ w.cell? ⟨b, o + 1, none⟩ = some (.slice ar t.data.length cr) ∧ w.cell? ⟨b, o + 2, none⟩ = some (.int .i64 t.cut) ∧ w.cell? ⟨b, o + 3, none⟩ = some (.slice al t.fates.length cl) ∧
    IsBytes w B ar t.data ∧ IsInts w B al t.fates ∧ (t.data.length ≤ cr ∧ cr ≤ maxLen) ∧ (t.fates.length ≤ cl ∧ cl ≤ maxLen) ∧ (ar = none → cr = 0) ∧ (al = none → cl = 0) ∧ InInt t.cut
theorem DeedAt.below {w w' : World} {B b o : Nat} {t : Sto.Deed} (h : DeedAt w B b o t) (hlt : b < B) (hb : Below B w w') : DeedAt w' B b o t := by
  obtain ⟨ar, cr, al, cl, c0, c1, c2, c3, hr, hl, rest⟩ := h
  exact ⟨ar, cr, al, cl, (hb.cell hlt).trans c0, (hb.cell hlt).trans c1, (hb.cell hlt).trans c2, (hb.cell hlt).trans c3, hr.below hb, hl.below hb, rest⟩
/-- Below block B a slice at A holds the deeds ts. -/
def IsDeeds (w : World) (B : Nat) (A : Option Addr) (ts : List Sto.Deed) : Prop :=
  ∀ k, k < ts.length → ∃ b off, A = some ⟨b, off, none⟩ ∧ b < B ∧ ∀ i (h : i < ts.length), DeedAt w B b (off + i * 4) ts[i]
theorem IsDeeds.below {w w' : World} {B : Nat} {A : Option Addr} {ts : List Sto.Deed} (h : IsDeeds w B A ts) (hb : Below B w w') : IsDeeds w' B A ts := fun k hk => by
  obtain ⟨b, off, e, hlt, hc⟩ := h k hk
  exact ⟨b, off, e, hlt, fun i hi => (hc i hi).below hlt hb⟩

theorem cellsOf_deed : Try.prog.cellsOf 50 = 4 := by kernel_rfl
set_option maxRecDepth 100000 in
theorem deed_of_trod {H : Type} {enc : TypeId × Value → H} {W : World} {fuel : Nat} {a : Addr} {cs : List Value} {x : DataW H × List MemPlace} (hc : W.cells? 0 a 4 = some cs) (h : DataW.trod enc Try.prog W 0 (fun _ => true) true fuel 50 cs = some x) :
    ∃ t : Sto.Deed, ∀ b o, a = ⟨b, o, none⟩ → DeedAt W W.heap.size b o t := by
  obtain ⟨_, hcl, hat⟩ := World.cells?_some hc
  obtain ⟨ys, n, _, _, _, hyl, hf⟩ := DataW.trod_struct Try.underlying50 h
  have hyl3 : ys.length = 4 := hyl
  have e0 : DataW.trod enc Try.prog W 0 (fun _ => true) true n 4 ((cs.drop 0).take (Try.prog.cellsOf 4)) = ys[0]? := hf 0 _ rfl
  have e1 : DataW.trod enc Try.prog W 0 (fun _ => true) true n 32 ((cs.drop 1).take (Try.prog.cellsOf 32)) = ys[1]? := hf 1 _ rfl
  have e2 : DataW.trod enc Try.prog W 0 (fun _ => true) true n 3 ((cs.drop 2).take (Try.prog.cellsOf 3)) = ys[2]? := hf 2 _ rfl
  have e3 : DataW.trod enc Try.prog W 0 (fun _ => true) true n 23 ((cs.drop 3).take (Try.prog.cellsOf 23)) = ys[3]? := hf 3 _ rfl
  have c0 : Try.prog.cellsOf 4 = 1 := by kernel_rfl
  have c1 : Try.prog.cellsOf 32 = 1 := by kernel_rfl
  have c2 : Try.prog.cellsOf 3 = 1 := by kernel_rfl
  have c3 : Try.prog.cellsOf 23 = 1 := by kernel_rfl
  rw [c0, one_cell hcl 0 (by omega), List.getElem?_eq_getElem (by omega)] at e0
  rw [c1, one_cell hcl 1 (by omega), List.getElem?_eq_getElem (by omega)] at e1
  rw [c2, one_cell hcl 2 (by omega), List.getElem?_eq_getElem (by omega)] at e2
  rw [c3, one_cell hcl 3 (by omega), List.getElem?_eq_getElem (by omega)] at e3
  obtain ⟨x, x1, _⟩ := DataW.trod_bool Try.underlying4 e0
  obtain ⟨ar, cr, R, r1, r2, r3, r4⟩ := bytes_of_trod e1
  obtain ⟨v, v1, v2⟩ := int_of_trod e2
  obtain ⟨al, cl, l, l1, l2, l3, l4⟩ := ints_of_trod e3
  have x1 := (List.cons.inj x1).1
  have r1 := (List.cons.inj r1).1
  have v1 := (List.cons.inj v1).1
  have l1 := (List.cons.inj l1).1
  refine ⟨⟨x, R, v, l⟩, fun b o e => ?_⟩
  subst e
  have g : ∀ j, (hj : j < 4) → W.cell? ⟨b, o + j, none⟩ = some (cs[j]'(by omega)) := fun j hj => by
    have := hat j hj
    rw [List.getElem?_eq_getElem (by omega)] at this
    rw [← this]
    congr 1
    unfold Addr.add; split <;> simp [*]
  exact ⟨ar, cr, al, cl, by have := g 0 (by omega); rw [x1] at this; exact this, by have := g 1 (by omega); rw [r1] at this; exact this, by have := g 2 (by omega); rw [v1] at this; exact this, by have := g 3 (by omega); rw [l1] at this; exact this, r2, l2, r3, l3, r4, l4, v2⟩
set_option maxRecDepth 100000 in
theorem deeds_of_trod {H : Type} {enc : TypeId × Value → H} {W : World} {fuel : Nat} {cs : List Value} {x : DataW H × List MemPlace} (h : DataW.trod enc Try.prog W 0 (fun _ => true) true fuel 43 cs = some x) :
    ∃ (a : Option Addr) (c : Nat) (ts : List Sto.Deed), cs = [.slice a ts.length c] ∧ IsDeeds W W.heap.size a ts ∧ (ts.length ≤ c ∧ c ≤ maxLen) ∧ (a = none → c = 0) := by
  rcases open_slice Try.underlying43 h with ⟨hcs, _⟩ | ⟨a, len, cap, m, n, D, Pl, hcs, _, hl, hm, hmm, _, hi⟩
  · exact ⟨none, 0, [], hcs, fun k h => by simp at h, ⟨Nat.le_refl _, Nat.zero_le _⟩, fun _ => rfl⟩
  · simp only [if_true] at hmm
    subst hmm
    rw [cellsOf_deed] at hi
    have hth : ∀ i, i < len → ∃ t : Sto.Deed, (∀ b o, a.add (i * 4) = ⟨b, o, none⟩ → DeedAt W W.heap.size b o t) ∧ ∃ cs, W.cells? 0 (a.add (i * 4)) 4 = some cs := fun i hlt => by
      obtain ⟨cs', h1, h2⟩ := hi i (by omega)
      obtain ⟨t, ht⟩ := deed_of_trod h1 h2
      exact ⟨t, ht, cs', h1⟩
    refine ⟨some a, m, (List.range len).attach.map (fun i => (hth i.1 (List.mem_range.1 i.2)).choose), ?_, fun k hk => ?_, ?_, fun h => by cases h⟩
    · rw [hcs]; simp
    · have hk' : k < len := by simpa using hk
      obtain ⟨cs0, hcs0⟩ := (hth 0 (by omega)).choose_spec.2
      obtain ⟨_, hcl, hat⟩ := World.cells?_some hcs0
      have hsp := hat 0 (by omega)
      rw [List.getElem?_eq_getElem (by omega)] at hsp
      have hlt := World.block_lt_of_cell? _ _ hsp
      have hspot := World.cell?_spot hsp
      obtain ⟨b, off, spot⟩ := a
      have hs : spot = none := by simpa [Addr.add] using hspot
      subst hs
      have hb : b < W.heap.size := by
        simpa [Addr.add] using hlt
      refine ⟨b, off, rfl, hb, fun i hi' => ?_⟩
      have hi2 : i < len := by simpa using hi'
      simp only [List.getElem_map, List.getElem_attach, List.getElem_range]
      refine (hth i hi2).choose_spec.1 b (off + i * 4) ?_
      unfold Addr.add; split <;> simp [*]
    · simp; exact ⟨hl, hm⟩
end Go.Proofs.Ytdgijnolpjaheaa
namespace Go.Proofs.Ytdgijnolpjaheaa
open Go.RowKit

theorem crash_arm (s : Sx.St) (k : Int) (l : List Int) : Sx.crash (Sx.arm s k) l = Sx.crash s l := rfl
/-- what is held stands in block b -/
def HB (w : World) (b : Nat) (th : Bool) (A : Option Addr) (kp cc : Nat) (A2 : Option Addr) (kL c2 : Nat) (e : Int) : Prop :=
  w.heap[b]? = some (.cells #[.bool th, .slice A kp cc, .slice A2 kL c2, .int .i64 e] 48 (0, 0))
namespace HB
variable {w w' : World} {b : Nat} {th : Bool} {A : Option Addr} {kp cc : Nat} {A2 : Option Addr} {kL c2 : Nat} {e : Int}
theorem lt (h : HB w b th A kp cc A2 kL c2 e) : b < w.heap.size := (Array.getElem?_eq_some_iff.1 h).1
theorem cells (h : HB w b th A kp cc A2 kL c2 e) : w.cell? ⟨b, 0, none⟩ = some (.bool th) ∧ w.cell? ⟨b, 1, none⟩ = some (.slice A kp cc) ∧ w.cell? ⟨b, 2, none⟩ = some (.slice A2 kL c2) ∧ w.cell? ⟨b, 3, none⟩ = some (.int .i64 e) := by
  have h' : w.heap[b]? = _ := h
  simp [World.cell?, h']
theorem frozen (h : HB w b th A kp cc A2 kL c2 e) (k : Nat) : w.frozen? ⟨b, k, none⟩ = false := by
  have h' : w.heap[b]? = _ := h
  simp [World.frozen?, h']
theorem keep {S : Nat → Prop} (h : HB w b th A kp cc A2 kL c2 e) (ht : Turned S w w') (hs : ¬ S b) : HB w' b th A kp cc A2 kL c2 e := (ht.block b h.lt hs).trans h
theorem below (h : HB w b th A kp cc A2 kL c2 e) (hb : Below w.heap.size w w') : HB w' b th A kp cc A2 kL c2 e := (hb.block b h.lt).trans h
theorem other (h : HB w b th A kp cc A2 kL c2 e) : Other w b := .inr ⟨_, _, h, by decide, by decide⟩
theorem not_store (h : HB w b th A kp cc A2 kL c2 e) {g : Nat} {j : Sn} (hs : SAt w g j) : b ≠ g := by
  rintro rfl
  have h1 : w.heap[b]? = _ := h
  rw [show w.heap[b]? = _ from hs] at h1
  have h3 := (Obj.cells.inj (Option.some.inj h1)).2.1
  revert h3; decide
theorem not_jn (h : HB w b th A kp cc A2 kL c2 e) {g : Nat} {j : Jn} (hs : JAt w g j) : b ≠ g := by
  rintro rfl
  have h1 : w.heap[b]? = _ := h
  rw [show w.heap[b]? = _ from hs] at h1
  have h3 := (Obj.cells.inj (Option.some.inj h1)).2.1
  revert h3; decide
end HB
/-- the deed stands in block b -/
def DB (w : World) (b : Nat) (fr : Bool) (A : Option Addr) (kd cd : Nat) (cut : Int) (A2 : Option Addr) (kf cf : Nat) : Prop :=
  w.heap[b]? = some (.cells #[.bool fr, .slice A kd cd, .int .i64 cut, .slice A2 kf cf] 50 (0, 0))
namespace DB
variable {w w' : World} {b : Nat} {fr : Bool} {A : Option Addr} {kd cd : Nat} {cut : Int} {A2 : Option Addr} {kf cf : Nat}
theorem lt (h : DB w b fr A kd cd cut A2 kf cf) : b < w.heap.size := (Array.getElem?_eq_some_iff.1 h).1
theorem cells (h : DB w b fr A kd cd cut A2 kf cf) : w.cell? ⟨b, 0, none⟩ = some (.bool fr) ∧ w.cell? ⟨b, 1, none⟩ = some (.slice A kd cd) ∧ w.cell? ⟨b, 2, none⟩ = some (.int .i64 cut) ∧ w.cell? ⟨b, 3, none⟩ = some (.slice A2 kf cf) := by
  have h' : w.heap[b]? = _ := h
  simp [World.cell?, h']
theorem keep {S : Nat → Prop} (h : DB w b fr A kd cd cut A2 kf cf) (ht : Turned S w w') (hs : ¬ S b) : DB w' b fr A kd cd cut A2 kf cf := (ht.block b h.lt hs).trans h
theorem below (h : DB w b fr A kd cd cut A2 kf cf) (hb : Below w.heap.size w w') : DB w' b fr A kd cd cut A2 kf cf := (hb.block b h.lt).trans h
theorem not_store (h : DB w b fr A kd cd cut A2 kf cf) {g : Nat} {j : Sn} (hs : SAt w g j) : b ≠ g := by
  rintro rfl
  have h1 : w.heap[b]? = _ := h
  rw [show w.heap[b]? = _ from hs] at h1
  have h3 := (Obj.cells.inj (Option.some.inj h1)).2.1
  revert h3; decide
theorem not_jn (h : DB w b fr A kd cd cut A2 kf cf) {g : Nat} {j : Jn} (hs : JAt w g j) : b ≠ g := by
  rintro rfl
  have h1 : w.heap[b]? = _ := h
  rw [show w.heap[b]? = _ from hs] at h1
  have h3 := (Obj.cells.inj (Option.some.inj h1)).2.1
  revert h3; decide
end DB
theorem SG.shun {w0 w : World} {d : Dk} {s : Sx.St} {g gj m n : Nat} {e st : Int} {p : List Nat} {L : List (List Nat)} {c b : Nat} (h : SG w0 w d s g gj m n e st p L c) (h1 : ¬ d.has b) (h2 : ∀ j, SAt w g j → b ≠ g) (h3 : ∀ j, JAt w gj j → b ≠ gj) : ¬ (d.has b ∨ b = g ∨ b = gj) := by
  obtain ⟨ej, nx, rm, hj, _⟩ := h.jn
  rintro (h4 | h4 | h4)
  · exact h1 h4
  · exact h2 _ h.store h4
  · exact h3 _ hj h4
/-- opened and not ready, or ready -/
def StRd (st : Int) (rd : Bool) : Prop := (st = 0 ∧ rd = false) ∨ (st = 1 ∧ rd = true)
/-- the state of a round: B: the block of what is held; all of the disk lies below it -/
structure There (w0 w : World) (d : Dk) (s : Sx.St) (g gj B : Nat) (e st : Int) (p : List Nat) (L : List (List Nat)) (c : Nat) (th rd : Bool) (Ac : Option Addr) (kp cc : Nat) (Ar : Option Addr) (kL cr : Nat) : Prop where
  sg : SG w0 w d s g gj 4 22 e st p L c
  up : s.down = false
  st01 : StRd st rd
  cell : HB w B th Ac kp cc Ar kL cr e
  hv : HV w0 w B Ac kp Ar kL cr p L
  dlt : ∀ k, d.has k → k < B
  bge : w0.heap.size ≤ B
namespace There
variable {w0 w w' : World} {d : Dk} {s : Sx.St} {g gj B : Nat} {e st : Int} {p : List Nat} {L : List (List Nat)} {c : Nat} {th rd : Bool} {Ac : Option Addr} {kp cc : Nat} {Ar : Option Addr} {kL cr : Nat}
theorem size (h : There w0 w d s g gj B e st p L c th rd Ac kp cc Ar kL cr) : w0.heap.size ≤ w.heap.size := h.sg.disk.bel.size
theorem below (h : There w0 w d s g gj B e st p L c th rd Ac kp cc Ar kL cr) (hb : Below w.heap.size w w') : There w0 w' d s g gj B e st p L c th rd Ac kp cc Ar kL cr :=
  ⟨h.sg.below hb, h.up, h.st01, h.cell.below hb, h.hv.below hb h.size, h.dlt, h.bge⟩
theorem notB (h : There w0 w d s g gj B e st p L c th rd Ac kp cc Ar kL cr) : ¬ d.has B := fun hh => by have := h.dlt _ hh; omega
theorem arm (h : There w0 w d s g gj B e st p L c th rd Ac kp cc Ar kL cr) (k : Int) (hd : DiskAt w' (fun b => b < w0.heap.size) d (Sx.arm s k)) (ht : Turned d.has w w') : There w0 w' d (Sx.arm s k) g gj B e st p L c th rd Ac kp cc Ar kL cr :=
  ⟨h.sg.arm k hd ht, h.up, h.st01, h.cell.keep ht h.notB, h.hv.turned ht (fun j hj => ⟨h.sg.disk.ge j hj, .inl (h.dlt j hj)⟩) h.size, h.dlt, h.bge⟩
theorem st_ (h : There w0 w d s g gj B e st p L c th rd Ac kp cc Ar kL cr) : st = 0 ∨ st = 1 := by
  have h1 := h.st01
  unfold StRd at h1
  exact h1.imp And.left And.left
/-- what 'is' answers -/
theorem is_ (h : There w0 w d s g gj B e st p L c th rd Ac kp cc Ar kL cr) (hkp : kp ≤ 1000) (hkL : kL ≤ 1000) :
    Calls Try.prog 25 #[.agg #[.bool th, .slice Ac kp cc, .slice Ar kL cr, .int .i64 e], .pointer (some ⟨d.g, 0, none⟩)] w fun e' w' => e' = .returned (.bool true) ∧ Below w.heap.size w w' :=
  T.is_any w0 w d s 22 e p L h.sg.disk h.sg.held (by omega) h.up (by rw [h.hv.lL]; omega) th Ac cc p kp h.hv.lp (by omega) Ar cr L kL h.hv.lL e (h.hv.bytes.more h.size) (h.hv.rows.reads h.size) true (by simp)
end There
/-- behind a deed and the end of the arming: what was held, the deed, what would be held -/
structure Aft (w0 w : World) (d : Dk) (B bx bt : Nat) (e : Int) (p : List Nat) (L : List (List Nat)) (th : Bool) (Ac : Option Addr) (kp cc : Nat) (Ar : Option Addr) (kL cr : Nat) (fr : Bool) (ar : Option Addr) (kd cd : Nat) (cut : Int) (al : Option Addr) (kf cf : Nat) (e1 : Int) (p1 : List Nat) (L1 : List (List Nat)) (th1 : Bool) (A1 : Option Addr) (k1 c1 : Nat) (A2 : Option Addr) (k2 c2 : Nat) : Prop where
  cell : HB w B th Ac kp cc Ar kL cr e
  hv : HV w0 w B Ac kp Ar kL cr p L
  deed : DB w bx fr ar kd cd cut al kf cf
  then_ : HB w bt th1 A1 k1 c1 A2 k2 c2 e1
  hv1 : HV w0 w B A1 k1 A2 k2 c2 p1 L1
  dlt : ∀ k, d.has k → k < B
  bge : w0.heap.size ≤ B
  size : w0.heap.size ≤ w.heap.size
  lts : B < bx ∧ B < bt
namespace Aft
variable {w0 w w' : World} {d : Dk} {B bx bt : Nat} {e : Int} {p : List Nat} {L : List (List Nat)} {th : Bool} {Ac : Option Addr} {kp cc : Nat} {Ar : Option Addr} {kL cr : Nat} {fr : Bool} {ar : Option Addr} {kd cd : Nat} {cut : Int} {al : Option Addr} {kf cf : Nat} {e1 : Int} {p1 : List Nat} {L1 : List (List Nat)} {th1 : Bool} {A1 : Option Addr} {k1 c1 : Nat} {A2 : Option Addr} {k2 c2 : Nat}
theorem below (h : Aft w0 w d B bx bt e p L th Ac kp cc Ar kL cr fr ar kd cd cut al kf cf e1 p1 L1 th1 A1 k1 c1 A2 k2 c2) (hb : Below w.heap.size w w') : Aft w0 w' d B bx bt e p L th Ac kp cc Ar kL cr fr ar kd cd cut al kf cf e1 p1 L1 th1 A1 k1 c1 A2 k2 c2 :=
  ⟨h.cell.below hb, h.hv.below hb h.size, h.deed.below hb, h.then_.below hb, h.hv1.below hb h.size, h.dlt, h.bge, Nat.le_trans h.size hb.size, h.lts⟩
theorem disk (h : Aft w0 w d B bx bt e p L th Ac kp cc Ar kL cr fr ar kd cd cut al kf cf e1 p1 L1 th1 A1 k1 c1 A2 k2 c2) (hge : ∀ k, d.has k → w0.heap.size ≤ k) (ht : Turned d.has w w') : Aft w0 w' d B bx bt e p L th Ac kp cc Ar kL cr fr ar kd cd cut al kf cf e1 p1 L1 th1 A1 k1 c1 A2 k2 c2 := by
  have hno : ∀ b, B ≤ b → ¬ d.has b := fun b hb hh => by have := h.dlt _ hh; omega
  have hT : ∀ k, d.has k → w0.heap.size ≤ k ∧ (k < B ∨ Other w k) := fun k hk => ⟨hge k hk, .inl (h.dlt k hk)⟩
  exact ⟨h.cell.keep ht (hno _ (Nat.le_refl _)), h.hv.turned ht hT h.size, h.deed.keep ht (hno _ (by have := h.lts; omega)), h.then_.keep ht (hno _ (by have := h.lts; omega)), h.hv1.turned ht hT h.size, h.dlt, h.bge, Nat.le_trans h.size ht.size, h.lts⟩
/-- .. what would be held is held: h = then -/
theorem put (h : Aft w0 w d B bx bt e p L th Ac kp cc Ar kL cr fr ar kd cd cut al kf cf e1 p1 L1 th1 A1 k1 c1 A2 k2 c2) (hw : w' = (((w.setCell ⟨B, 0, none⟩ (.bool th1)).setCell ⟨B, 1, none⟩ (.slice A1 k1 c1)).setCell ⟨B, 2, none⟩ (.slice A2 k2 c2)).setCell ⟨B, 3, none⟩ (.int .i64 e1)) :
    HB w' B th1 A1 k1 c1 A2 k2 c2 e1 ∧ HV w0 w' B A1 k1 A2 k2 c2 p1 L1 ∧ DB w' bx fr ar kd cd cut al kf cf ∧ Off w w' d B w0.heap.size := by
  have hT : Turned (fun k => k = B) w w' := by
    rw [hw]
    exact (Turned.two w B 0 1 _ _).trans (Turned.two _ B 2 3 _ _)
  refine ⟨?_, h.hv1.turned hT (fun k hk => ?_) h.size, h.deed.keep hT (fun e => by have e' : bx = B := e; have := h.lts; omega), ⟨⟨_, _, h.cell, by decide, by decide, by decide⟩, fun hh => by have := h.dlt _ hh; omega, h.bge, hT⟩⟩
  · have h' : w.heap[B]? = _ := h.cell
    unfold HB
    rw [hw]
    simp [World.setCell, Array.getElem?_modify, h']
  · have hk' : k = B := hk
    rw [hk']
    exact ⟨h.bge, .inr h.cell.other⟩
end Aft
theorem There.aft {w0 w w5 w6 : World} {d : Dk} {s : Sx.St} {g gj B bx : Nat} {e st : Int} {p : List Nat} {L : List (List Nat)} {c : Nat} {th rd : Bool} {Ac : Option Addr} {kp cc : Nat} {Ar : Option Addr} {kL cr : Nat} {fr : Bool} {ar : Option Addr} {kd cd : Nat} {cut : Int} {al : Option Addr} {kf cf : Nat} {E e1 : Int} {p1 : List Nat} {L1 : List (List Nat)} {th1 : Bool} {A1 : Option Addr} {k1 c1 : Nat} {A2 : Option Addr} {k2 c2 : Nat}
    (h : There w0 w d s g gj B e st p L c th rd Ac kp cc Ar kL cr) (hx : DB w bx fr ar kd cd cut al kf cf) (hbx : B < bx) (hD : T.DoesR w0 w d s g gj 22 e st p L c fr kL E e1 A1 k1 A2 k2 c2 w5 p1 L1) (hw6 : w6 = w5.alloc (.cells #[.bool th1, .slice A1 k1 c1, .slice A2 k2 c2, .int .i64 e1] 48)) :
    Aft w0 w6 d B bx w5.heap.size e p L th Ac kp cc Ar kL cr fr ar kd cd cut al kf cf e1 p1 L1 th1 A1 k1 c1 A2 k2 c2 ∧ Below w5.heap.size w5 w6 := by
  have hb : Below w5.heap.size w5 w6 := by rw [hw6]; exact (Below.refl _ _).alloc (Nat.le_refl _) _
  have hs5 : w0.heap.size ≤ w5.heap.size := Nat.le_trans h.size hD.turned.size
  have hBlt := h.cell.lt
  refine ⟨⟨(h.cell.keep hD.turned (h.sg.shun h.notB (fun _ => h.cell.not_store) (fun _ => h.cell.not_jn))).below hb, ((h.hv.turned hD.turned (h.sg.others h.dlt) h.size)).below hb hs5, (hx.keep hD.turned (h.sg.shun (fun hh => by have := h.dlt _ hh; omega) (fun _ => hx.not_store) (fun _ => hx.not_jn))).below hb, ?_, (hD.hv.mono (by omega)).below hb hs5, h.dlt, h.bge, Nat.le_trans hs5 hb.size, hbx, ?_⟩, hb⟩
  · unfold HB; rw [hw6]; exact heap_alloc_new w5 _
  · have := hD.turned.size; omega
end Go.Proofs.Ytdgijnolpjaheaa
