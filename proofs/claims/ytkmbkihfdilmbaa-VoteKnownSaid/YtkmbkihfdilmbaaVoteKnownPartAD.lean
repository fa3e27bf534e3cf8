/- Texts of the proof, one behind the other: RegCalls, ImOwnHard, ImChg, ImChg3, ImCmp, ImOr, ImAsc, ImBsH, ImOwnH, ImPlH, ImAscV, ImBsV, ImOwnV, ImPlV, ImEachH, ImOwnIm, ImApply, ImApplyB, ImRdM, QuB, QuD, ImGet, PackPut, ImPutA, ImPutB, ImPutC, ImPutD, ImPutE, ImPutF, ImPutG, ImPutH, ImPutI, ImFirst, ImKnown, ImFew, ImInD, Spoil, ImSpoil, VoM, RegGrow, RegArms, VoN, RegAll. -/
import Derived.Test.YtkmbkihfdilmbaaVoteKnownPartAC
import Derived.Test.YtkmbkihfdilmbaaVoteKnownPartAB
import Derived.Test.YtkmbkihfdilmbaaVoteKnownPartAA
import Derived.Deep.RegionHeld3
import Derived.Deep.CutRange
import Derived.Shelf.Abstract
import Derived.StillTailTactics
import Derived.Test.YtkmbkihfdilmbaaRows
import Derived.StillTail
import Derived.Below
import Derived.WalkKit
namespace Go.Proofs.Ytkmbkihfdilmbaa
open Go
set_option maxRecDepth 100000
structure Rc (δ : Type) where
  ops : Array Oper
  nt : Nat
  step : Nat → Option Nat
  val : δ → Nat → Value
  inv : δ → Nat → World → Prop
structure Jc {δ : Type} (C : Rc δ) (a0 : Act) (X : δ) (p : Nat) (listed : Array Bool) (a : Act) (w : World) : Prop where
  size : a.tmps.size = C.nt
  defers : a.defers = a0.defers
  keep : ∀ s : Nat, (∀ (j : Nat) (o : Oper), C.ops[j]? = some o → o.dst ≠ some s) → a.eval (.tmp s) = a0.eval (.tmp s)
  lsize : listed.size = C.ops.size
  clos : ∀ (j : Nat) (o : Oper), C.ops[j]? = some o → listed.getD j false = true → ∀ e ∈ o.after, Region.binds .any e = true → listed.getD e.on false = true
  slots : ∀ (j : Nat) (o : Oper) (d : Nat), C.ops[j]? = some o → o.dst = some d → listed.getD j false = true → a.eval (.tmp d) = C.val X j
  call : ∀ j, j < C.ops.size → ∀ k, C.step j = some k → (listed.getD j false = true ↔ k < p)
  inv : C.inv X p w
structure Rc.Ok {δ : Type} (C : Rc δ) : Prop where
  nt : ∀ (j : Nat) (o : Oper) (d : Nat), C.ops[j]? = some o → o.dst = some d → d < C.nt
  once : ∀ (i j : Nat) (o o' : Oper) (d : Nat), C.ops[i]? = some o → C.ops[j]? = some o' → o.dst = some d → o'.dst = some d → i = j
  uniq : ∀ i j k, i < C.ops.size → j < C.ops.size → C.step i = some k → C.step j = some k → i = j
theorem evput_ne (a : Act) {d : Option Tmp} {t : Nat} (v : Value) (h : d ≠ some t) : (a.put d v).eval (.tmp t) = a.eval (.tmp t) := by
  rcases d with _ | d
  · rfl
  · have : d ≠ t := fun e => h (by rw [e])
    simp [Act.put, Act.eval, Array.getElem?_setIfInBounds_ne this]
theorem evput_self (a : Act) {d : Nat} (v : Value) (h : d < a.tmps.size) : (a.put (some d) v).eval (.tmp d) = v := by
  simp [Act.put, Act.eval, h]
theorem listed_set (l : Array Bool) (j m : Nat) (hj : j < l.size) : (l.setIfInBounds j true).getD m false = if m = j then true else l.getD m false := by
  rw [Array.getD_eq_getD_getElem?, Array.getD_eq_getD_getElem?]
  by_cases e : m = j
  · subst e
    rw [if_pos rfl, Array.getElem?_setIfInBounds_self_of_lt hj]; rfl
  · rw [if_neg e, Array.getElem?_setIfInBounds_ne (by omega)]
theorem listed_no {l : Array Bool} {j : Nat} (h : l.getD j true = false) : l.getD j false = false := by
  rw [Array.getD_eq_getD_getElem?] at h ⊢
  rcases hl : l[j]? with _ | b
  · rfl
  · rw [hl] at h; exact h
section
variable {δ : Type} {C : Rc δ} {a0 a : Act} {X X' : δ} {p p' : Nat} {listed : Array Bool} {w w' : World}
theorem Jc.put (hC : C.Ok) (h : Jc C a0 X p listed a w) (j : Nat) (o : Oper) (hj : C.ops[j]? = some o) (ha : ∀ e ∈ o.after, Region.binds .any e = true → listed.getD e.on false = true) (v : Value) (hinv : C.inv X' p' w')
    (hk : ∀ (m : Nat), m < C.ops.size → listed.getD m false = true → C.val X' m = C.val X m) (hu : listed.getD j true = false) (hv : ∀ d, o.dst = some d → v = C.val X' j)
    (hc : ∀ m, m < C.ops.size → ∀ k, C.step m = some k → ((if m = j then true else listed.getD m false) = true ↔ k < p')) :
    Jc C a0 X' p' (listed.setIfInBounds j true) (a.put o.dst v) w' := by
  have hjs : j < C.ops.size := (Array.getElem?_eq_some_iff.1 hj).1
  have hjl : j < listed.size := by rw [h.lsize]; exact hjs
  refine ⟨?_, ?_, fun s hs => ?_, by simp [h.lsize], fun m om hm hl e he hb => ?_, fun m om d hm hd hl => ?_, fun m hm k hmk => ?_, hinv⟩
  · rcases hd : o.dst with _ | d
    · exact h.size
    · simp [Act.put, h.size]
  · rcases hd : o.dst with _ | d
    · exact h.defers
    · exact h.defers
  · rw [evput_ne a v (hs j o hj)]; exact h.keep s hs
  · rw [listed_set _ _ _ hjl] at hl ⊢
    by_cases e1 : e.on = j
    · rw [if_pos e1]
    · rw [if_neg e1]
      by_cases e2 : m = j
      · subst e2
        rw [hj] at hm
        obtain rfl := Option.some.inj hm
        exact ha e he hb
      · rw [if_neg e2] at hl
        exact h.clos m om hm hl e he hb
  · rw [listed_set _ _ _ hjl] at hl
    by_cases e2 : m = j
    · subst e2
      rw [hj] at hm
      obtain rfl := Option.some.inj hm
      rw [hd, evput_self a v (by rw [h.size]; exact hC.nt m o d hj hd)]
      exact hv d hd
    · rw [if_neg e2] at hl
      rw [evput_ne a v (fun e => e2 (hC.once m j om o d hm hj hd e)), hk m (Array.getElem?_eq_some_iff.1 hm).1 hl]
      exact h.slots m om d hm hd hl
  · rw [listed_set _ _ _ hjl]; exact hc m hm k hmk
theorem Jc.ahead (h : Jc C a0 X p listed a w) {j m k : Nat} {om : Oper} (hm : C.ops[m]? = some om) (hk : C.step m = some k) (hu : listed.getD j true = false) (hw : ∃ e ∈ om.after, Region.binds .any e = true ∧ e.on = j) : p ≤ k := by
  rcases Nat.lt_or_ge k p with h' | h'
  · have hl := (h.call m (Array.getElem?_eq_some_iff.1 hm).1 k hk).2 h'
    obtain ⟨e, he, hb, rfl⟩ := hw
    have := h.clos m om hm hl e he hb
    rw [listed_no hu] at this; cases this
  · exact h'
end
theorem Jc.kept {δ : Type} {C : Rc δ} {a0 a : Act} {X : δ} {p : Nat} {listed : Array Bool} {w : World} (h : Jc C a0 X p listed a w) (s : Nat) (hb : (C.ops.all fun o => decide (o.dst ≠ some s)) = true) : a.eval (.tmp s) = a0.eval (.tmp s) :=
  h.keep s (fun j o hj => by
    have := (Array.all_eq_true_iff_forall_mem.1 hb) o (Array.mem_of_getElem? hj)
    simpa using this)
theorem run_pick {P : Program} {ρ : Operand → Value} {c x y : Operand} {ty : TypeId} {w : World} {b : Bool} {v : Value} (hc : ρ c = .bool b) (h : (if b = true then ρ x else ρ y) = v) : (execOp ρ (sop (.pick c x y) ty)).run P w = .ok (.value v) w := by subst h; simp [execOp, sop, hc, asBool]
theorem run_bin {P : Program} {ρ : Operand → Value} {op : BinOp} {t u : TypeId} {x y : Operand} {ty : TypeId} {w : World} {v1 v2 v : Value} (h1 : ρ x = v1) (h2 : ρ y = v2) (h : (do eqGuard op t x y v1 v2; binOp op t v1 v2 : Sem Value).run P w = .ok v w) : (execOp ρ (sop (.binOp op t x y u) ty)).run P w = .ok (.value v) w := by
  subst h1
  subst h2
  unfold execOp sop
  simp only [Sem.run_bind, Sem.run_pure] at h ⊢
  rw [h]
  rfl
section
variable {δ : Type} {P : Program} {C : Rc δ} {a0 a : Act} {X : δ} {p : Nat} {listed : Array Bool} {w : World} {Q : Exit → Act → World → Prop}
theorem wanted_of {ops : Array Oper} {a : Act} {o og : Oper} {g d : Nat} {b c : Bool} (hg : o.guard = some (g, b)) (ho : ops[g]? = some og) (hd : og.dst = some d) (hlt : d < a.tmps.size) (h : a.eval (.tmp d) = .bool c) : Region.wanted o (yielded ops a.tmps) = (c == b) := by
  have h2 : a.tmps[d]? = some (.bool c) := by
    have h3 : a.tmps.getD d undef = .bool c := h
    rw [Array.getD_eq_getD_getElem?, Array.getElem?_eq_getElem hlt] at h3
    rw [Array.getElem?_eq_getElem hlt]
    exact congrArg some h3
  unfold Region.wanted
  rw [hg]
  simp only [yielded, ho, Option.bind_some, hd, h2]
  cases b <;> cases c <;> rfl
theorem goes_wpOpG {P : Program} {ops : Array Oper} {Q : Exit → Act → World → Prop} {K : Act → World → Prop} {a : Act} {w : World} {i : Nat} {o : Oper} {R : Value → World → Prop} (hi : ops[i]? = some o) (hw : Region.wanted o (yielded ops a.tmps) = true) (h : Goes P a w o.op o.type R)
    (hk : ∀ v w', R v w' → K (a.put o.dst v) w') : wpOp P ops Q i K a w := by
  unfold Go.wpOp
  simp only [hi]
  rw [if_pos hw]
  left
  unfold Oper.wp
  rw [exec_sop]
  rcases h with ⟨v, w', hr, hR⟩ | ⟨f, args, hr, hC⟩
  · rw [hr, Oper.upon_value]
    exact hk v w' hR
  · rw [hr, Oper.upon_enter]
    refine hC.mono ?_
    rintro e w' ⟨v, rfl, hR⟩
    exact hk v w' hR
def acyc (ops : Array Oper) : Bool := (List.range ops.size).all fun i => match ops[i]? with
  | some o => o.after.all fun e => !Region.binds .any e || decide (e.on < i)
  | none => true
theorem acyc_spec {ops : Array Oper} (h : acyc ops = true) (i : Nat) (o : Oper) (hi : ops[i]? = some o) (e : _) (he : e ∈ o.after) (hb : Region.binds .any e = true) : e.on < i := by
  have hlt : i < ops.size := (Array.getElem?_eq_some_iff.1 hi).1
  have := List.all_eq_true.1 h i (List.mem_range.2 hlt)
  rw [hi] at this
  have h2 := (Array.all_eq_true_iff_forall_mem.1 this) e he
  rw [hb] at h2
  simpa using h2
end
end Go.Proofs.Ytkmbkihfdilmbaa
namespace Go.Proofs.Ytkmbkihfdilmbaa.Im
open Go Go.RowKit
open Rl (En Lg)
open Qu (Cf)
set_option maxRecDepth 100000
set_option linter.unusedVariables false
attribute [local go_sem ↓] loadAt_hard storeAt_hard loadAt_conf3 storeAt_conf3
local instance lo1 : Lo := ⟨0⟩
structure FewP (p : Pt) : Prop where
  es : p.log.es.length ≤ 100000
  d : ∀ e ∈ p.log.es, e.d.length ≤ 1000000000
  o : p.cf.old.length ≤ 100000
  n : p.cf.new.length ≤ 100000
  l : p.cf.lrn.length ≤ 100000
  s : p.sn.length ≤ 1000000000
structure RH (ad : Ad) (x : Hd) (b0 b1 lo hi : Nat) (w0 : World) (A5 : Option Addr) (c5 : Nat) (X : Pl) (p : Nat) (w : World) : Prop where
  bel : Below b0 w0 w
  sz : hi ≤ w.heap.size
  rowL : p ≤ 3 → w.heap[b0]? = some (.cells #[.int .i64 x.g, .int .i64 x.t, .int .i64 x.v, .int .i64 x.p.log.base, .int .i64 x.p.log.term, .slice A5 x.p.log.es.length c5, .slice ad.o x.p.cf.old.length ad.co, .slice ad.n x.p.cf.new.length ad.cn, .slice ad.l x.p.cf.lrn.length ad.cl, .slice ad.s x.p.sn.length ad.cs] 52 (0, 0))
  rowS : 3 < p → w.heap[b0]? = some (.cells #[.int .i64 x.g, .int .i64 x.t, .int .i64 x.v, .int .i64 x.p.log.base, .int .i64 x.p.log.term, .slice A5 x.p.log.es.length c5, .slice X.a.o x.p.cf.old.length X.a.co, .slice X.a.n x.p.cf.new.length X.a.cn, .slice X.a.l x.p.cf.lrn.length X.a.cl, .slice ad.s x.p.sn.length ad.cs] 52 (0, 0))
  res : w.heap[b1]? = some (.cells #[.int .i64 0, .int .i64 0, .int .i64 0, .int .i64 0, .int .i64 0, .slice none 0 0, .slice none 0 0, .slice none 0 0, .slice none 0 0, .slice none 0 0] 52 (0, 0))
  es : OwnE w lo hi A5 c5 x.p.log.es
  o1 : 0 < p → (OwnsI 3 w hi X.a.o X.a.co x.p.cf.old ∧ ∀ k, blk X.a.o = some k → k < X.m1) ∧ hi ≤ X.m1 ∧ X.m1 ≤ w.heap.size
  o2 : 1 < p → (OwnsI 3 w X.m1 X.a.n X.a.cn x.p.cf.new ∧ ∀ k, blk X.a.n = some k → k < X.m2) ∧ X.m1 ≤ X.m2 ∧ X.m2 ≤ w.heap.size
  o3 : 2 < p → (OwnsI 3 w X.m2 X.a.l X.a.cl x.p.cf.lrn ∧ ∀ k, blk X.a.l = some k → k < X.m3) ∧ X.m2 ≤ X.m3 ∧ X.m3 ≤ w.heap.size
section
variable {ad : Ad} {x : Hd} {b0 b1 lo hi : Nat} {w0 : World} {A5 : Option Addr} {c5 : Nat} {X : Pl} {p : Nat} {w w' : World}
end
end Go.Proofs.Ytkmbkihfdilmbaa.Im
namespace Go.Proofs.Ytkmbkihfdilmbaa.Im
open Go Go.RowKit
open Rl (En Lg)
open Qu (Cf)
set_option maxRecDepth 100000
set_option linter.unusedVariables false
attribute [local go_sem ↓] loadAt_hard storeAt_hard loadAt_log1 storeAt_log1 loadAt_conf3 storeAt_conf3
local instance lo5 : Lo := ⟨0⟩
def chgd (h : Hd) (c : Ch) : Option Hd :=
  if c.k = 1 then some { h with t := c.t, v := c.v }
  else if c.k = 2 then (if c.f ≤ h.p.log.base ∨ h.p.log.last < c.f - 1 then none else some { h with p := { h.p with log := { h.p.log with es := h.p.log.es.take (c.f - h.p.log.base - 1).toNat ++ c.p.log.es } } })
  else some { h with p := ⟨sinceM h.p.log c.p.log.base c.p.log.term, c.p.cf, c.p.sn⟩ }
end Go.Proofs.Ytkmbkihfdilmbaa.Im
namespace Go.Proofs.Ytkmbkihfdilmbaa.Im
open Go Go.RowKit
open Rl (En Lg)
open Qu (Cf)
set_option maxRecDepth 100000
set_option linter.unusedVariables false
attribute [local go_sem ↓] loadAt_hard storeAt_hard loadAt_log1 storeAt_log1 loadAt_conf3 storeAt_conf3
local instance lo6 : Lo := ⟨0⟩
end Go.Proofs.Ytkmbkihfdilmbaa.Im
namespace Go.Proofs.Ytkmbkihfdilmbaa.Im
open Go.RowKit
open Rl (En Lg)
open Qu (Cf)
set_option maxRecDepth 100000
set_option linter.unusedVariables false
end Go.Proofs.Ytkmbkihfdilmbaa.Im
namespace Go.Proofs.Ytkmbkihfdilmbaa.Im
open Go.RowKit
open Rl (En Lg)
open Qu (Cf)
set_option maxRecDepth 100000
set_option linter.unusedVariables false
end Go.Proofs.Ytkmbkihfdilmbaa.Im
namespace Go.Proofs.Ytkmbkihfdilmbaa.Im
open Go.RowKit
open Rl (En Lg)
open Qu (Cf)
set_option maxRecDepth 100000
set_option linter.unusedVariables false
attribute [local go_sem ↓] loadAt_hard storeAt_hard
end Go.Proofs.Ytkmbkihfdilmbaa.Im
namespace Go.Proofs.Ytkmbkihfdilmbaa.Im
open Go Go.RowKit
set_option maxRecDepth 100000
set_option linter.unusedVariables false
attribute [local go_sem ↓] loadAt_hard storeAt_hard
structure At {α : Type} (lt : α → α → Bool) (L : List α) (x : α) (k : Nat) : Prop where
  le : k ≤ L.length
  ahead : ∀ i (h : i < L.length), i < k → lt L[i] x = true
  behind : ∀ i (h : i < L.length), k ≤ i → lt L[i] x = false
structure Bs {α : Type} (lt : α → α → Bool) (L : List α) (x : α) (i j : Nat) : Prop where
  ahead : ∀ a (h : a < L.length), a < i → lt L[a] x = true
  behind : ∀ a (h : a < L.length), j ≤ a → lt L[a] x = false
end Go.Proofs.Ytkmbkihfdilmbaa.Im
namespace Go.Proofs.Ytkmbkihfdilmbaa.Im
open Go.RowKit
set_option maxRecDepth 100000
set_option linter.unusedVariables false
end Go.Proofs.Ytkmbkihfdilmbaa.Im
namespace Go.Proofs.Ytkmbkihfdilmbaa.Im
open Go Go.RowKit
set_option maxRecDepth 100000
set_option linter.unusedVariables false
attribute [local go_sem ↓] loadAt_hard storeAt_hard
def ins {α : Type} (lt : α → α → Bool) (L : List α) (x : α) : List α := L.filter (fun y => lt y x) ++ x :: L.filter (fun y => lt x y)
end Go.Proofs.Ytkmbkihfdilmbaa.Im
namespace Go.Proofs.Ytkmbkihfdilmbaa.Im
open Go.RowKit
open Rl (En Lg)
open Qu (Cf)
set_option maxRecDepth 100000
set_option linter.unusedVariables false
attribute [local go_sem ↓] loadAt_hard storeAt_hard
end Go.Proofs.Ytkmbkihfdilmbaa.Im
namespace Go.Proofs.Ytkmbkihfdilmbaa.Im
open Go Go.RowKit
set_option maxRecDepth 100000
set_option linter.unusedVariables false
end Go.Proofs.Ytkmbkihfdilmbaa.Im
namespace Go.Proofs.Ytkmbkihfdilmbaa.Im
open Go.RowKit
set_option maxRecDepth 100000
set_option linter.unusedVariables false
end Go.Proofs.Ytkmbkihfdilmbaa.Im
namespace Go.Proofs.Ytkmbkihfdilmbaa.Im
open Go Go.RowKit
set_option maxRecDepth 100000
set_option linter.unusedVariables false
end Go.Proofs.Ytkmbkihfdilmbaa.Im
namespace Go.Proofs.Ytkmbkihfdilmbaa.Im
open Go.RowKit
open Rl (En Lg)
open Qu (Cf)
set_option maxRecDepth 100000
set_option linter.unusedVariables false
attribute [local go_sem ↓] loadAt_hard storeAt_hard
local instance lo2 : Lo := ⟨0⟩
structure EvH (w : World) (lo : Nat) (A : Option Addr) (c : Nat) (M : List Hq) (k : Nat) (W : World) (M1 : List Hq) : Prop where
  len : M1.length = k
  row : RowIn cellsH 10 52 W (fun k => w.heap.size ≤ k) A c (M1 ++ M.drop k)
  ch : OwnPts W lo W.heap.size (M1.map fun q => (q.h.p, q.a))
  val : M1.map (·.h) = (M.map (·.h)).take k
  bel : Below w.heap.size w W
  lo : w.heap.size ≤ lo
end Go.Proofs.Ytkmbkihfdilmbaa.Im
namespace Go.Proofs.Ytkmbkihfdilmbaa.Im
open Go.RowKit
open Rl (En Lg)
open Qu (Cf)
set_option maxRecDepth 100000
set_option linter.unusedVariables false
local instance lo3 : Lo := ⟨0⟩
end Go.Proofs.Ytkmbkihfdilmbaa.Im
namespace Go.Proofs.Ytkmbkihfdilmbaa.Im
open Go Go.RowKit
open Rl (En Lg)
open Qu (Cf)
set_option maxRecDepth 100000
set_option linter.unusedVariables false
attribute [local go_sem ↓] loadAt_hard storeAt_hard
local instance lo7 : Lo := ⟨0⟩
def apply (x : Im) (c : Ch) : Im × Int :=
  if c.k = 1 ∨ c.k = 2 ∨ c.k = 3 then
    match x.hs.find? (fun h => decide (h.g = c.g)) with
    | none => (⟨[], []⟩, 6)
    | some h => match chgd h c with
      | none => (⟨[], []⟩, 3)
      | some y => (⟨ins ltH x.hs y, x.vs⟩, 0)
  else if c.k = 4 then (⟨x.hs, ins ltV x.vs c.a⟩, 0)
  else (⟨[], []⟩, 13)
section
variable {w W W' : World} {v1 v2 : Value} {c : Ch} {ac : Ad}
end
end Go.Proofs.Ytkmbkihfdilmbaa.Im
namespace Go.Proofs.Ytkmbkihfdilmbaa.Im
open Go Go.RowKit
open Rl (En Lg)
open Qu (Cf)
set_option maxRecDepth 100000
set_option linter.unusedVariables false
attribute [local go_sem ↓] loadAt_hard storeAt_hard
local instance lo8 : Lo := ⟨0⟩
end Go.Proofs.Ytkmbkihfdilmbaa.Im
namespace Go.Proofs.Ytkmbkihfdilmbaa.Im
open Go.RowKit
open Rl (En Lg)
open Qu (Cf)
set_option maxRecDepth 100000
set_option linter.unusedVariables false
attribute [local go_sem ↓] loadAt_conf3 storeAt_conf3
instance lo0 : Lo := ⟨0⟩
def OwnCf (w : World) (B N : Nat) (c : Cf) (a : Ad) : Prop := ∃ m1 m2, (B ≤ m1 ∧ m1 ≤ m2 ∧ m2 ≤ N) ∧ (OwnsI 3 w B a.o a.co c.old ∧ ∀ k, blk a.o = some k → k < m1) ∧ (OwnsI 3 w m1 a.n a.cn c.new ∧ ∀ k, blk a.n = some k → k < m2) ∧ OwnsI 3 w m2 a.l a.cl c.lrn
theorem OwnCf.nil (w : World) {B N : Nat} (h : B ≤ N) : OwnCf w B N ⟨[], [], []⟩ A0 := ⟨B, B, ⟨Nat.le_refl _, Nat.le_refl _, h⟩, ⟨OwnsI.nil _ _ _, fun k hk => by cases hk⟩, ⟨OwnsI.nil _ _ _, fun k hk => by cases hk⟩, OwnsI.nil _ _ _⟩
theorem OwnsI.below_ {e : TypeId} {w w' : World} {base c : Nat} {A : Option Addr} {l : List Int} (h : OwnsI e w base A c l) (hb : Below w.heap.size w w') : OwnsI e w' base A c l := ownsI_turned h (S := fun _ => False) (Turned.ofBelow _ hb) (fun _ _ h => h)
end Go.Proofs.Ytkmbkihfdilmbaa.Im
namespace Go.Proofs.Ytkmbkihfdilmbaa
open Go.RowKit
end Go.Proofs.Ytkmbkihfdilmbaa
namespace Go.Proofs.Ytkmbkihfdilmbaa
open Go.RowKit
structure Box3 (w : World) (b : Nat) (v0 v1 v2 : Value) : Prop where
  c0 : w.cell? ⟨b, 0, none⟩ = some v0
  c1 : w.cell? ⟨b, 1, none⟩ = some v1
  c2 : w.cell? ⟨b, 2, none⟩ = some v2
theorem Box3.below {w w' : World} {B b : Nat} {v0 v1 v2 : Value} (h : Box3 w b v0 v1 v2) (hb : Below B w w') (hlt : b < B) : Box3 w' b v0 v1 v2 :=
  ⟨(hb.cell (p := ⟨b, 0, none⟩) hlt).trans h.c0, (hb.cell (p := ⟨b, 1, none⟩) hlt).trans h.c1, (hb.cell (p := ⟨b, 2, none⟩) hlt).trans h.c2⟩
end Go.Proofs.Ytkmbkihfdilmbaa
namespace Go.Proofs.Ytkmbkihfdilmbaa.Im
open Go.RowKit
open Rl (En Lg)
open Qu (Cf)
set_option maxRecDepth 100000
set_option linter.unusedVariables false
attribute [local go_sem ↓] loadAt_conf3 storeAt_conf3
theorem OwnCf.below {w w' : World} {B N : Nat} {c : Cf} {a : Ad} (h : OwnCf w B N c a) (hb : Below w.heap.size w w') : OwnCf w' B N c a := by
  obtain ⟨m1, m2, hm, ⟨h1, b1⟩, ⟨h2, b2⟩, h3⟩ := h
  exact ⟨m1, m2, hm, ⟨OwnsI.below_ h1 hb, b1⟩, ⟨OwnsI.below_ h2 hb, b2⟩, OwnsI.below_ h3 hb⟩
theorem OwnCf.wide {w : World} {B B' N N' : Nat} {c : Cf} {a : Ad} (h : OwnCf w B N c a) (hB : B' ≤ B) (hN : N ≤ N') : OwnCf w B' N' c a := by
  obtain ⟨m1, m2, hm, ⟨h1, b1⟩, h2, h3⟩ := h
  exact ⟨m1, m2, ⟨by omega, hm.2.1, by omega⟩, ⟨h1.weaken hB, b1⟩, h2, h3⟩
theorem OwnCf.keep {S : Nat → Prop} {w w' : World} {B N : Nat} {c : Cf} {a : Ad} (h : OwnCf w B N c a) (ht : Turned S w w') (hs : ∀ k, S k → k < B) : OwnCf w' B N c a := by
  obtain ⟨m1, m2, hm, ⟨h1, b1⟩, ⟨h2, b2⟩, h3⟩ := h
  exact ⟨m1, m2, hm, ⟨ownsI_turned h1 ht (fun k hk e => by have := (h1.blkLt k hk).1; have := hs k e; omega), b1⟩, ⟨ownsI_turned h2 ht (fun k hk e => by have := (h2.blkLt k hk).1; have := hs k e; omega), b2⟩, ownsI_turned h3 ht (fun k hk e => by have := (h3.blkLt k hk).1; have := hs k e; omega)⟩
end Go.Proofs.Ytkmbkihfdilmbaa.Im
namespace Go.Proofs.Ytkmbkihfdilmbaa
open Go.RowKit
end Go.Proofs.Ytkmbkihfdilmbaa
namespace Go.Proofs.Ytkmbkihfdilmbaa.Im
open Go.RowKit
open Rl (En Lg)
open Qu (Cf)
open Pk (enc encs)
set_option maxRecDepth 100000
set_option linter.unusedVariables false
attribute [local go_sem ↓] loadAt_hard storeAt_hard
structure Putp (B : Nat) (w w' : World) : Prop where
  bel : Below B w w'
  tag : ∀ (k : Nat) (cs : Array Value) (t : TypeId) (fr : Nat × Nat), w.heap[k]? = some (.cells cs t fr) → t ≠ 5 → w'.heap[k]? = some (.cells cs t fr)
theorem Putp.refl (B : Nat) (w : World) : Putp B w w := ⟨Below.refl B w, fun _ _ _ _ h _ => h⟩
theorem Putp.trans {B : Nat} {a b c : World} (h : Putp B a b) (h' : Putp B b c) : Putp B a c := ⟨h.bel.trans h'.bel, fun k cs t fr h1 h2 => h'.tag k cs t fr (h.tag k cs t fr h1 h2) h2⟩
theorem Putp.grown {B c : Nat} {A : Option Addr} {l : List Nat} {a b : World} (ho : OwnsB 5 a B A c l) (hg : a.grownBy b (blk A)) (hB : B ≤ a.heap.size) : Putp B a b :=
  ⟨below_grown hg hB (fun k hk => (ho.blkLt k hk).1), fun k cs t fr h1 h2 => (hg.block k (row_lt h1) (fun e => by
    rcases ho.row.2 with ⟨h0, _⟩ | ⟨g', cap, cur, hv, _, hh, _⟩
    · injection h0 with h0; rw [h0] at e; cases e
    · have hA : A = some ⟨g', 0, none⟩ := by injection hv
      rw [hA] at e
      obtain rfl : k = g' := by injection e
      rw [hh] at h1
      have := Option.some.inj h1
      injection this with _ h3
      exact h2 h3.symm)).trans h1⟩
structure Bq (B : Nat) (w w' : World) (A : Option Addr) (c : Nat) (l : List Nat) (q : Nat) : Prop where
  own : OwnsB 5 w' B A c l
  len : l.length = q
  put : Putp B w w'
  base : B ≤ w'.heap.size
theorem Bq.then_ {B : Nat} {a b c : World} {A A' : Option Addr} {k k' q q' : Nat} {l l' : List Nat} (h : Bq B a b A k l q) (h' : Bq B b c A' k' l' q') : Bq B a c A' k' l' q' := ⟨h'.own, h'.len, h.put.trans h'.put, h'.base⟩
end Go.Proofs.Ytkmbkihfdilmbaa.Im
namespace Go.Proofs.Ytkmbkihfdilmbaa.Im
open Go.RowKit
open Rl (En Lg)
open Qu (Cf)
open Pk (enc encs)
set_option maxRecDepth 100000
set_option linter.unusedVariables false
attribute [local go_sem ↓] loadAt_hard storeAt_hard
theorem encE_length (x : En) : (encE x).length = 24 + x.d.length := by unfold encE encB; simp [Pk.enc_length]; omega
end Go.Proofs.Ytkmbkihfdilmbaa.Im
namespace Go.Proofs.Ytkmbkihfdilmbaa.Im
open Go.RowKit
open Rl (En Lg)
open Qu (Cf)
open Pk (enc encs)
set_option maxRecDepth 100000
set_option linter.unusedVariables false
attribute [local go_sem ↓] loadAt_hard storeAt_hard
end Go.Proofs.Ytkmbkihfdilmbaa.Im
namespace Go.Proofs.Ytkmbkihfdilmbaa.Im
open Go.RowKit
open Rl (En Lg)
open Qu (Cf)
open Pk (enc encs)
set_option maxRecDepth 100000
set_option linter.unusedVariables false
attribute [local go_sem ↓] loadAt_hard storeAt_hard
structure Sz (p : Pt) : Prop where
  e : p.log.es.length ≤ 1000000
  d : ∀ e ∈ p.log.es, e.d.length ≤ 1000000000
  o : p.cf.old.length ≤ 1000000
  n : p.cf.new.length ≤ 1000000
  l : p.cf.lrn.length ≤ 1000000
  s : p.sn.length ≤ 1000000000
end Go.Proofs.Ytkmbkihfdilmbaa.Im
namespace Go.Proofs.Ytkmbkihfdilmbaa.Im
open Go.RowKit
open Rl (En Lg)
open Qu (Cf)
open Pk (enc encs)
set_option maxRecDepth 100000
set_option linter.unusedVariables false
attribute [local go_sem ↓] loadAt_hard storeAt_hard
theorem flat_le {α : Type} (f : α → List Nat) (L : List α) (x : α) (h : x ∈ L) : (f x).length ≤ (L.flatMap f).length := by
  induction L with
  | nil => cases h
  | cons y L ih =>
    rw [List.flatMap_cons, List.length_append]
    rcases List.mem_cons.1 h with rfl | h
    · omega
    · have := ih h; omega
end Go.Proofs.Ytkmbkihfdilmbaa.Im
namespace Go.Proofs.Ytkmbkihfdilmbaa.Im
open Go.RowKit
open Rl (En Lg)
open Qu (Cf)
open Pk (enc encs)
set_option maxRecDepth 100000
set_option linter.unusedVariables false
attribute [local go_sem ↓] loadAt_hard storeAt_hard
end Go.Proofs.Ytkmbkihfdilmbaa.Im
namespace Go.Proofs.Ytkmbkihfdilmbaa.Im
open Go.RowKit
open Rl (En Lg)
open Qu (Cf)
open Pk (enc encs)
set_option maxRecDepth 100000
set_option linter.unusedVariables false
attribute [local go_sem ↓] loadAt_hard storeAt_hard
end Go.Proofs.Ytkmbkihfdilmbaa.Im
namespace Go.Proofs.Ytkmbkihfdilmbaa.Im
open Go.RowKit
open Rl (En Lg)
open Qu (Cf)
open Pk (enc encs)
set_option maxRecDepth 100000
set_option linter.unusedVariables false
attribute [local go_sem ↓] loadAt_hard storeAt_hard
end Go.Proofs.Ytkmbkihfdilmbaa.Im
namespace Go.Proofs.Ytkmbkihfdilmbaa.Im
open Go.RowKit
open Rl (En Lg)
open Qu (Cf)
open Pk (enc encs)
set_option maxRecDepth 100000
set_option linter.unusedVariables false
end Go.Proofs.Ytkmbkihfdilmbaa.Im
namespace Go.Proofs.Ytkmbkihfdilmbaa.Im
open Go Go.RowKit
open Rl (En Lg)
open Qu (Cf)
set_option maxRecDepth 100000
set_option linter.unusedVariables false
local instance lo9 : Lo := ⟨0⟩
end Go.Proofs.Ytkmbkihfdilmbaa.Im
namespace Go.Proofs.Ytkmbkihfdilmbaa.Im
open Go Go.RowKit
open Rl (En Lg)
open Qu (Cf)
set_option maxRecDepth 100000
set_option linter.unusedVariables false
local instance lo10 : Lo := ⟨0⟩
end Go.Proofs.Ytkmbkihfdilmbaa.Im
namespace Go.Proofs.Ytkmbkihfdilmbaa.Im
open Go Go.RowKit
open Rl (En Lg)
open Qu (Cf)
set_option maxRecDepth 100000
set_option linter.unusedVariables false
local instance lo12 : Lo := ⟨0⟩
attribute [local go_sem ↓] loadAt_hard storeAt_hard
theorem bigConf_any (A0 A1 A2 : Option Addr) (n0 n1 n2 k0 k1 k2 n : Nat) (hn : n ≤ 1000000) (w : World) :
    Calls Try.prog 38 #[.agg #[.slice A0 n0 k0, .slice A1 n1 k1, .slice A2 n2 k2], .int .i64 (n : Int)] w fun e w' => e = .returned (.bool (decide (n < n0) || decide (n < n1) || decide (n < n2))) ∧ Below w.heap.size w w' := by
  have hb : Below w.heap.size w (w.alloc (.cells #[.slice A0 n0 k0, .slice A1 n1 k1, .slice A2 n2 k2] 37)) := (Below.refl _ w).alloc (Nat.le_refl _) _
  have HB := hid hb
  clear hb
  by_cases h0 : n < n0
  · have h0' : (n : Int) < (n0 : Int) := by omega
    have HE : Hid ((decide (n < n0) || decide (n < n1) || decide (n < n2)) = true) := hid (by simp [h0])
    rw [HE.out]
    clear h0
    go_enter Try.func38, Try.ntmps38
    go_wp2_with fail
    go_ret
    exact ⟨rfl, HB.out⟩
  · have h0' : ¬ (n : Int) < (n0 : Int) := by omega
    by_cases h1 : n < n1
    · have h1' : (n : Int) < (n1 : Int) := by omega
      have HE : Hid ((decide (n < n0) || decide (n < n1) || decide (n < n2)) = true) := hid (by simp [h1])
      rw [HE.out]
      clear h0 h1
      go_enter Try.func38, Try.ntmps38
      go_wp2_with fail
      go_ret
      exact ⟨rfl, HB.out⟩
    · have h1' : ¬ (n : Int) < (n1 : Int) := by omega
      by_cases h2 : n < n2
      · have h2' : (n : Int) < (n2 : Int) := by omega
        have HE : Hid ((decide (n < n0) || decide (n < n1) || decide (n < n2)) = true) := hid (by simp [h2])
        rw [HE.out]
        clear h0 h1 h2
        go_enter Try.func38, Try.ntmps38
        go_wp2_with fail
        go_ret
        exact ⟨rfl, HB.out⟩
      · have h2' : ¬ (n : Int) < (n2 : Int) := by omega
        have HE : Hid ((decide (n < n0) || decide (n < n1) || decide (n < n2)) = false) := hid (by simp [h0, h1, h2])
        rw [HE.out]
        clear h0 h1 h2
        go_enter Try.func38, Try.ntmps38
        go_wp2_with fail
        go_ret
        exact ⟨rfl, HB.out⟩
end Go.Proofs.Ytkmbkihfdilmbaa.Im
namespace Go.Proofs.Ytkmbkihfdilmbaa.Im
open Go Go.RowKit
open Rl (En Lg)
open Qu (Cf)
set_option maxRecDepth 100000
set_option linter.unusedVariables false
local instance lo15 : Lo := ⟨0⟩
attribute [local go_sem ↓] loadAt_hard storeAt_hard
def PtIn (w : World) (B N : Nat) (p : Pt) (a : Ad) : Prop := OwnE w B N a.e a.ce p.log.es ∧ (OwnsI 3 w B a.o a.co p.cf.old ∧ ∀ k, blk a.o = some k → k < N) ∧ (OwnsI 3 w B a.n a.cn p.cf.new ∧ ∀ k, blk a.n = some k → k < N) ∧ (OwnsI 3 w B a.l a.cl p.cf.lrn ∧ ∀ k, blk a.l = some k → k < N) ∧ (OwnsB 5 w B a.s a.cs p.sn ∧ ∀ k, blk a.s = some k → k < N) ∧ (InInt p.log.base ∧ InInt p.log.term)
namespace PtIn
variable {w w' : World} {B B' N N' : Nat} {p : Pt} {a : Ad}
theorem kp (h : PtIn w B N p a) (hk : Kp Parts w w') : PtIn w' B N p a := by
  obtain ⟨h1, h2, h3, h4, h5, h6⟩ := h
  exact ⟨hk.ownE (.inl rfl) (.inr (.inl rfl)) h1, ⟨hk.ownI (.inr (.inr rfl)) h2.1, h2.2⟩, ⟨hk.ownI (.inr (.inr rfl)) h3.1, h3.2⟩, ⟨hk.ownI (.inr (.inr rfl)) h4.1, h4.2⟩, ⟨hk.ownB (.inr (.inl rfl)) h5.1, h5.2⟩, h6⟩
theorem wide (h : PtIn w B N p a) (hB : B' ≤ B) (hN : N ≤ N') : PtIn w B' N' p a := by
  obtain ⟨h1, h2, h3, h4, h5, h6⟩ := h
  exact ⟨h1.wide hB hN, ⟨h2.1.weaken hB, fun k hk => by have := h2.2 k hk; omega⟩, ⟨h3.1.weaken hB, fun k hk => by have := h3.2 k hk; omega⟩, ⟨h4.1.weaken hB, fun k hk => by have := h4.2 k hk; omega⟩, ⟨h5.1.weaken hB, fun k hk => by have := h5.2 k hk; omega⟩, h6⟩
theorem keep {S : Nat → Prop} (h : PtIn w B N p a) (ht : Turned S w w') (hs : ∀ k, S k → ¬ Bl B N k) : PtIn w' B N p a := by
  obtain ⟨h1, h2, h3, h4, h5, h6⟩ := h
  have kB : ∀ {A : Option Addr}, (∀ k, blk A = some k → B ≤ k) → (∀ k, blk A = some k → k < N) → ∀ k, blk A = some k → ¬ S k := fun h3 h4 k hk hS => hs k hS ⟨h3 k hk, h4 k hk⟩
  exact ⟨h1.keep ht hs, ⟨ownsI_turned h2.1 ht (kB (fun k hk => (h2.1.blkLt k hk).1) h2.2), h2.2⟩, ⟨ownsI_turned h3.1 ht (kB (fun k hk => (h3.1.blkLt k hk).1) h3.2), h3.2⟩, ⟨ownsI_turned h4.1 ht (kB (fun k hk => (h4.1.blkLt k hk).1) h4.2), h4.2⟩, ⟨h5.1.turned ht (kB (fun k hk => (h5.1.blkLt k hk).1) h5.2), h5.2⟩, h6⟩
theorem below (h : PtIn w B N p a) (hb : Below N w w') : PtIn w' B N p a :=
  h.keep (S := fun k => N ≤ k) ⟨hb.os, hb.tape, hb.output, hb.size, fun k _ hn => hb.block k (by omega)⟩ (fun k hk hB => by have := hB.2; omega)
theorem reads (h : PtIn w B N p a) : IsPt w N p a := by
  obtain ⟨h1, h2, h3, h4, h5, h6⟩ := h
  exact ⟨h1.reads, isInts_lower h2.1.reads h2.2, isInts_lower h3.1.reads h3.2, isInts_lower h4.1.reads h4.2, isBytes_lower h5.1.reads h5.2, ⟨h1.room, h1.none_⟩, ownsI_room h2.1, ownsI_room h3.1, ownsI_room h4.1, ownsB_room h5.1, h6⟩
end PtIn
structure InHs (w : World) (B N : Nat) (A : Option Addr) (c : Nat) (M : List Hq) : Prop where
  row : RowIn cellsH 10 52 w (Bl B N) A c M
  pts : ∀ q ∈ M, PtIn w B N q.h.p q.a
  num : ∀ q ∈ M, InInt q.h.g ∧ InInt q.h.t ∧ InInt q.h.v
namespace InHs
variable {w w' : World} {B B' N N' : Nat} {A : Option Addr} {c : Nat} {M : List Hq}
theorem nil (w : World) (B N : Nat) : InHs w B N none 0 [] := ⟨RowIn.nil cellsH_fits _ _ _, by simp, by simp⟩
theorem keep {S : Nat → Prop} (h : InHs w B N A c M) (ht : Turned S w w') (hs : ∀ k, S k → ¬ Bl B N k) : InHs w' B N A c M := ⟨h.row.keep ht (fun k hk hS => hs k hS (h.row.blk k hk)), fun q hq => (h.pts q hq).keep ht hs, h.num⟩
theorem below (h : InHs w B N A c M) (hb : Below N w w') : InHs w' B N A c M :=
  h.keep (S := fun k => N ≤ k) ⟨hb.os, hb.tape, hb.output, hb.size, fun k _ hn => hb.block k (by omega)⟩ (fun k hk hB => by have := hB.2; omega)
theorem wide (h : InHs w B N A c M) (hB : B' ≤ B) (hN : N ≤ N') : InHs w B' N' A c M := ⟨h.row.mono (fun k hk => ⟨Nat.le_trans hB (h.row.blk k hk).1, Nat.lt_of_lt_of_le (h.row.blk k hk).2 hN⟩), fun q hq => (h.pts q hq).wide hB hN, h.num⟩
theorem reads (h : InHs w B N A c M) : IsHds w N A M := by
  refine ⟨⟨fun k hk => ?_⟩, fun q hq => (h.pts q hq).reads, h.num⟩
  obtain ⟨g, hA, hg, hF, hc, _⟩ := h.row.get k hk
  refine ⟨g, 0, hA, hF.2, fun i hi j v hv => ?_⟩
  obtain ⟨g', hA', _, _, hc', _⟩ := h.row.get i hi
  obtain rfl : g = g' := by rw [hA] at hA'; injection hA' with e; injection e
  have hj : j < 10 := (List.getElem?_eq_some_iff.1 hv).1
  rw [Nat.zero_add, hc' j hj]; exact hv
theorem put {wr w4 w5 w6 : World} {n4 n5 c1 c6 : Nat} {A1 A6 : Option Addr} {L : List Hq} {x : Hq} (h : InHs wr B wr.heap.size A1 c1 L) (hB : B ≤ wr.heap.size) (hb4 : Below wr.heap.size wr w4) (ho : PtIn w4 wr.heap.size n4 x.h.p x.a) (hn4 : n4 ≤ w4.heap.size) (hn : InInt x.h.g ∧ InInt x.h.t ∧ InInt x.h.v)
    (hb5 : Below w4.heap.size w4 w5) (hrow5 : RowIn cellsH 10 52 w5 (Bl B wr.heap.size) A1 c1 L) (hn5 : w5.heap.size = n5) (hrow6 : RowIn cellsH 10 52 w6 (fun k => Bl B wr.heap.size k ∨ n5 ≤ k) A6 c6 (L ++ [x])) (hg6 : w5.grownBy w6 (Go.Proofs.Ytkmbkihfdilmbaa.blk A1)) :
    InHs w6 B w6.heap.size A6 c6 (L ++ [x]) := by
  have hw4 := hb4.size
  have hw5 := hb5.size
  have hw6 := hg6.size
  have kp56 : Kp Parts w5 w6 := by
    rcases hb : Go.Proofs.Ytkmbkihfdilmbaa.blk A1 with _ | k
    · rw [hb] at hg6
      exact Kp.ofBelow (below_grown hg6 (Nat.le_refl _) (fun j e => by cases e))
    · rw [hb] at hg6
      obtain ⟨cur, hc⟩ := hrow5.tag hb
      exact Kp.ofGrown hc (by rintro (e | e | e) <;> exact absurd e (by decide)) hg6
  refine ⟨hrow6.mono (fun k hk => ⟨?_, hrow6.lt k hk⟩), fun q hq => ?_, fun q hq => ?_⟩
  · rcases hrow6.blk k hk with e | e
    · exact e.1
    · omega
  · rcases List.mem_append.1 hq with hq | hq
    · exact ((((h.pts q hq).kp (Kp.ofBelow hb4)).kp (Kp.ofBelow hb5)).kp kp56).wide (Nat.le_refl _) (by omega)
    · obtain rfl := List.mem_singleton.1 hq
      exact ((ho.kp (Kp.ofBelow hb5)).kp kp56).wide hB (by omega)
  · rcases List.mem_append.1 hq with hq | hq
    · exact h.num q hq
    · obtain rfl := List.mem_singleton.1 hq; exact hn
end InHs
namespace InCs
variable {w w' : World} {B B' N N' : Nat} {A : Option Addr} {c : Nat} {M : List Cq}
end InCs
namespace InVs
variable {w w' : World} {B B' N N' : Nat} {A : Option Addr} {c : Nat} {L : List Vt}
end InVs
end Go.Proofs.Ytkmbkihfdilmbaa.Im
namespace Go.Proofs.Ytkmbkihfdilmbaa
open Go.RowKit
end Go.Proofs.Ytkmbkihfdilmbaa
namespace Go.Proofs.Ytkmbkihfdilmbaa.Im
open Go Go.RowKit
open Rl (En Lg)
open Qu (Cf)
set_option maxRecDepth 100000
set_option linter.unusedVariables false
local instance lo27 : Lo := ⟨0⟩
attribute [local go_sem ↓] loadAt_hard storeAt_hard loadAt_conf3 storeAt_conf3
theorem range_sub {w : World} {b o : Nat} {cs : List Value} (h : w.rangeAt b o cs) (i n : Nat) : w.rangeAt b (o + i) ((cs.drop i).take n) := fun j v hv => by
  rw [List.getElem?_take] at hv
  split at hv
  · rw [List.getElem?_drop] at hv
    have := h (i + j) v hv
    rwa [← Nat.add_assoc] at this
  · cases hv
structure Pc (w : World) (B N : Nat) (p : Pt) (a : Ad) (m0 m1 m2 m3 : Nat) : Prop where
  m : B ≤ m0 ∧ m0 ≤ m1 ∧ m1 ≤ m2 ∧ m2 ≤ m3 ∧ m3 ≤ N
  e : OwnE w B m0 a.e a.ce p.log.es
  o : OwnsI 3 w m0 a.o a.co p.cf.old
  bo : ∀ k, blk a.o = some k → k < m1
  n : OwnsI 3 w m1 a.n a.cn p.cf.new
  bn : ∀ k, blk a.n = some k → k < m2
  l : OwnsI 3 w m2 a.l a.cl p.cf.lrn
  bl : ∀ k, blk a.l = some k → k < m3
  s : OwnsB 5 w m3 a.s a.cs p.sn
  bs : ∀ k, blk a.s = some k → k < N
theorem Pc.two {w w1 : World} {B N m0 m1 m2 m3 : Nat} {p : Pt} {a : Ad} (h : Pc w B N p a m0 m1 m2 m3) (ht : Turned (Bl B m0) w w1) :
    OwnsI 3 w1 m0 a.o a.co p.cf.old ∧ OwnsI 3 w1 m1 a.n a.cn p.cf.new ∧ OwnsI 3 w1 m2 a.l a.cl p.cf.lrn ∧ OwnsB 5 w1 m3 a.s a.cs p.sn := by
  have hm := h.m
  exact ⟨ownsI_turned h.o ht (fun k hk e => by have := (h.o.blkLt k hk).1; have := e.2; omega), ownsI_turned h.n ht (fun k hk e => by have := (h.n.blkLt k hk).1; have := e.2; omega), ownsI_turned h.l ht (fun k hk e => by have := (h.l.blkLt k hk).1; have := e.2; omega), h.s.turned ht (fun k hk e => by have := (h.s.blkLt k hk).1; have := e.2; omega)⟩
def Tg (w : World) (B N : Nat) : Nat → Prop := fun k => Bl B N k ∧ ∃ cs t fr, w.heap[k]? = some (.cells cs t fr) ∧ Parts t
theorem Tg.mono {w : World} {B B' N N' : Nat} (hB : B' ≤ B) (hN : N ≤ N') : ∀ k, Tg w B N k → Tg w B' N' k := fun k h => ⟨⟨Nat.le_trans hB h.1.1, Nat.lt_of_lt_of_le h.1.2 hN⟩, h.2⟩
theorem Pc.below {w w1 : World} {B N m0 m1 m2 m3 : Nat} {p : Pt} {a : Ad} (h : Pc w B N p a m0 m1 m2 m3) (hb : Below w.heap.size w w1) : Pc w1 B N p a m0 m1 m2 m3 :=
  ⟨h.m, h.e.keep (Turned.ofBelow (fun _ => False) hb) (fun k hk => hk.elim), h.o.below hb, h.bo, h.n.below hb, h.bn, h.l.below hb, h.bl, h.s.below hb, h.bs⟩
theorem Tg.old {w w1 : World} {B N : Nat} (hb : Below w.heap.size w w1) (hN : N ≤ w.heap.size) : ∀ k, Tg w1 B N k → Tg w B N k := fun k h => by
  obtain ⟨h1, cs, t, fr, h2, h3⟩ := h
  exact ⟨h1, cs, t, fr, (hb.block k (by have := h1.2; omega)).symm.trans h2, h3⟩
def halfD {α : Type} (f : α → α) (L : List α) (k : Nat) : List α := (L.take k).map f ++ L.drop k
section
variable {α : Type} (f : α → α) (L : List α) (k : Nat)
theorem halfD_length (h : k ≤ L.length) : (halfD f L k).length = L.length := by unfold halfD; rw [List.length_append, List.length_map, List.length_take, List.length_drop]; omega
theorem halfD_get (h : k < L.length) : (halfD f L k)[k]'(by rw [halfD_length f L k (by omega)]; exact h) = L[k] := by
  have : (halfD f L k)[k]? = some L[k] := by
    unfold halfD
    rw [List.getElem?_append_right (by rw [List.length_map, List.length_take]; omega), List.length_map, List.length_take, List.getElem?_drop, show k + (k - min k L.length) = k by omega, List.getElem?_eq_getElem h]
  rw [List.getElem?_eq_getElem (by rw [halfD_length f L k (by omega)]; exact h)] at this
  exact Option.some.inj this
theorem halfD_set (h : k < L.length) : (halfD f L k).set k (f L[k]) = halfD f L (k + 1) := by
  unfold halfD
  have hl : ((L.take k).map f).length = k := by rw [List.length_map, List.length_take]; omega
  rw [List.set_append_right _ _ (by omega), hl, Nat.sub_self, List.drop_eq_getElem_cons h, List.set_cons_zero, List.take_succ_eq_append_getElem h, List.map_append, List.append_assoc]
  rfl
end
end Go.Proofs.Ytkmbkihfdilmbaa.Im
namespace Go.Proofs.Ytkmbkihfdilmbaa.Vo
open Go Go.RowKit
open Rl (En Lg)
open Ms (M)
open Im (ldX stX IsRow halfD halfD_length halfD_get halfD_set stAt)
set_option maxRecDepth 100000
set_option linter.unusedVariables false
attribute [local go_sem ↓] loadAt_msgV storeAt_msgV Im.loadAt_log1 Im.storeAt_log1 Im.loadAt_conf3 Im.storeAt_conf3
theorem Rw.ldC {w : World} {b : Nat} {v0 v1 v2 : Value} (h : Rw w b #[v0, v1, v2] 37) : (ldX 37 (.pointer (some ⟨b, 0, none⟩))).run Try.prog w = .ok (.agg #[v0, v1, v2]) w :=
  Im.ldRow Im.info_conf33 Try.underlying37 rfl h rfl
def askO (id group term index prev : Int) : Option Int → List Value
  | some n => askC id group term index prev n
  | none => [.int .i64 0, .int .i64 0, .int .i64 0, .int .i64 0, .int .i64 0, .int .i64 0, .int .i64 0, .int .i64 0, .int .i64 0, .int .i64 0, .int .i64 0, .int .i64 0, .int .i64 0, .int .i64 0, .bool false, .slice none 0 0, .slice none 0 0]
theorem askO_len (id group term index prev : Int) (o : Option Int) : (askO id group term index prev o).length = 17 := by cases o <;> rfl
def gone (_ : Option Int) : Option Int := none
theorem rowO {id group term index prev : Int} {e : TypeId} {w : World} {F : Nat → Prop} {A : Option Addr} {c : Nat} {L : List Int} (h : RowIn (askC id group term index prev) 17 e w F A c L) : RowIn (askO id group term index prev) 17 e w F A c (L.map some) := by
  refine ⟨askO_len id group term index prev, ?_, h.blk⟩
  rw [List.length_map, List.flatMap_map]
  exact h.row
set_option maxHeartbeats 12800000 in
theorem voteAsks_any (id group term : Int) (g : Lg) (A : Option Addr) (cg : Nat) (c : Qu.Cf) (a0 a1 a2 : Option Addr) (k0 k1 k2 : Nat) (hs : c.old.length ≤ 300 ∧ c.new.length ≤ 300 ∧ c.lrn.length ≤ 300) (hg : LogOk g) (w : World) (h : LgIs w w.heap.size g A cg) (hc : CIs w w.heap.size c a0 a1 a2 k0 k1 k2) :
    Calls Try.prog 12 #[.int .i64 id, .int .i64 group, .int .i64 term, .agg #[.int .i64 g.base, .int .i64 g.term, .slice A g.es.length cg], .agg #[.slice a0 c.old.length k0, .slice a1 c.new.length k1, .slice a2 c.lrn.length k2]] w fun e w' => e = .returned (.bool true) ∧ Below w.heap.size w w' := by
  obtain ⟨w1, hw1⟩ : ∃ w1, w1 = (w.alloc (.cells #[.int .i64 g.base, .int .i64 g.term, .slice A g.es.length cg] 25)).alloc (.cells #[.slice a0 c.old.length k0, .slice a1 c.new.length k1, .slice a2 c.lrn.length k2] 37) := ⟨_, rfl⟩
  obtain ⟨hb, hz⟩ := boxes w #[.int .i64 g.base, .int .i64 g.term, .slice A g.es.length cg] #[.slice a0 c.old.length k0, .slice a1 c.new.length k1, .slice a2 c.lrn.length k2] 25 37
  obtain ⟨r0, r1⟩ := Rw.two w #[.int .i64 g.base, .int .i64 g.term, .slice A g.es.length cg] #[.slice a0 c.old.length k0, .slice a1 c.new.length k1, .slice a2 c.lrn.length k2] 25 37
  rw [← hw1] at hb r0 r1
  have R1 := hid (And.intro r0 r1)
  have B1 := hid hb
  have HG := hid hg
  have HS := hid hs
  have HIC := hid (And.intro h hc)
  have IS : Hid (∀ W, Below w.heap.size w W → LgIs W W.heap.size g A cg ∧ CIs W W.heap.size c a0 a1 a2 k0 k1 k2) := hid (fun W hW => ⟨(HIC.out.1.below hW).more hW.size, (HIC.out.2.below hW).more hW.size⟩)
  have HL := hid (long_any g A cg hg.lim hg.few w1 (IS.out w1 hb).1)
  have HFE := hid (big_few hg.few)
  have HSH : Hid (Short c) := hid ⟨by omega, by omega, by omega⟩
  have ld1 := r0.ldL
  rw [hw1] at ld1
  clear hb hz r0 r1 h hc hg hs
  go_enter Try.func12, Try.ntmps12
  go_wp2_with fail
  rw [← hw1]
  clear hw1 ld1
  refine HL.out.mono ?_
  rintro e w2 ⟨rfl, hb2⟩
  have R2 := hid (And.intro (R1.out.1.keep hb2) (R1.out.2.keep hb2))
  have B2 := hid (B1.out.trans (hb2.mono B1.out.size))
  have lc2 := R2.out.2.ldC
  have HBC := Im.bigConf_any a0 a1 a2 c.old.length c.new.length c.lrn.length k0 k1 k2 300 (by decide) w2
  rw [decide_eq_false (show ¬ 300 < c.old.length by have := HS.out; omega), decide_eq_false (show ¬ 300 < c.new.length by have := HS.out; omega), decide_eq_false (show ¬ 300 < c.lrn.length by have := HS.out; omega)] at HBC
  have HBF := hid HBC
  clear hb2 HL R1 HBC
  go_wp2_with fail
  refine HBF.out.mono ?_
  rintro e w3 ⟨rfl, hb3⟩
  have R3 := hid (And.intro (R2.out.1.keep hb3) (R2.out.2.keep hb3))
  have B3 := hid (B2.out.trans (hb3.mono B2.out.size))
  have ll3 := R3.out.1.ldL
  have HCL := hid (copyLog_any g A cg g.es.length rfl (by have := HFE.out.1; omega) HFE.out.2 w3 (IS.out w3 B3.out).1.es)
  clear hb3 lc2 HBF R2
  go_wp2_with fail
  refine HCL.out.mono ?_
  rintro e w4 ⟨A4, c4, rfl, ho4, hb4⟩
  have hst := Im.stNew w4 25 3 Im.info_log33 #[.int .i64 0, .int .i64 0, .slice none 0 0] #[.int .i64 g.base, .int .i64 g.term, .slice A4 g.es.length c4] rfl rfl (by simp [Value.oneCell'])
  obtain ⟨w5, hw5⟩ : ∃ w5, w5 = w4.alloc (.cells #[.int .i64 g.base, .int .i64 g.term, .slice A4 g.es.length c4] 25) := ⟨_, rfl⟩
  rw [← hw5] at hst
  have hb45 : Below w4.heap.size w4 w5 := by rw [hw5]; exact (Below.refl _ _).alloc (Nat.le_refl _) _
  obtain ⟨bx, hbx⟩ : ∃ b, b = w4.heap.size := ⟨_, rfl⟩
  have hr5 : Rw w5 bx #[.int .i64 g.base, .int .i64 g.term, .slice A4 g.es.length c4] 25 := by rw [hw5, hbx]; exact heap_alloc_new w4 _
  have hb35 := hb4.trans (hb45.mono hb4.size)
  have B5 := hid (B3.out.trans (hb35.mono B3.out.size))
  have R5 := hid (And.intro (R3.out.1.keep hb35) (And.intro (R3.out.2.keep hb35) hr5))
  have X5 : Hid (LgIs w5 w5.heap.size g A4 c4) := hid ⟨(ho4.reads.below hb45).more hb45.size, ho4.room, ho4.none_, HIC.out.1.num⟩
  have HBX := hid hbx
  have lc5 := R5.out.2.1.ldC
  have HCC := hid (copyConf_any w5.heap.size c HSH.out a0 a1 a2 k0 k1 k2 w5 (IS.out w5 B5.out).2 (Nat.le_refl _))
  clear hb4 ho4 hb45 hw5 hr5 hb35 hbx ll3 HCL R3
  go_upto_region 4 with fail
  rw [← HBX.out]
  clear hst
  go_wp2_with fail
  refine HCC.out.mono ?_
  rintro e w6 ⟨B0, B1', B2', p0, p1, p2, rfl, ho6, hb6⟩
  have hst := Im.stNew w6 37 3 Im.info_conf33 #[.slice none 0 0, .slice none 0 0, .slice none 0 0] #[.slice B0 c.old.length p0, .slice B1' c.new.length p1, .slice B2' c.lrn.length p2] rfl rfl (by simp [Value.oneCell'])
  obtain ⟨w7, hw7⟩ : ∃ w7, w7 = w6.alloc (.cells #[.slice B0 c.old.length p0, .slice B1' c.new.length p1, .slice B2' c.lrn.length p2] 37) := ⟨_, rfl⟩
  rw [← hw7] at hst
  have hb67 : Below w6.heap.size w6 w7 := by rw [hw7]; exact (Below.refl _ _).alloc (Nat.le_refl _) _
  obtain ⟨by_, hby⟩ : ∃ b, b = w6.heap.size := ⟨_, rfl⟩
  have hr7 : Rw w7 by_ #[.slice B0 c.old.length p0, .slice B1' c.new.length p1, .slice B2' c.lrn.length p2] 37 := by rw [hw7, hby]; exact heap_alloc_new w6 _
  have hb57 := hb6.trans (hb67.mono hb6.size)
  have B7 := hid (B5.out.trans (hb57.mono B5.out.size))
  have R7 := hid (And.intro (And.intro (R5.out.1.keep hb57) (R5.out.2.1.keep hb57)) (And.intro (R5.out.2.2.keep hb57) hr7))
  have X7 : Hid (LgIs w7 w7.heap.size g A4 c4 ∧ CIs w7 w7.heap.size c B0 B1' B2' p0 p1 p2) := hid ⟨(X5.out.below hb57).more hb57.size, (ho6.below hb67).more hb67.size⟩
  have HBY := hid hby
  obtain ⟨s7, hs7⟩ : ∃ s, s = w7.heap.size := ⟨_, rfl⟩
  -- what holds in every world behind w7 that leaves what lies below it
  have FA : Hid (∀ W, Below s7 w7 W → ((Rw W w.heap.size #[.int .i64 g.base, .int .i64 g.term, .slice A g.es.length cg] 25 ∧ Rw W (w.heap.size + 1) #[.slice a0 c.old.length k0, .slice a1 c.new.length k1, .slice a2 c.lrn.length k2] 37) ∧ Rw W bx #[.int .i64 g.base, .int .i64 g.term, .slice A4 g.es.length c4] 25 ∧ Rw W by_ #[.slice B0 c.old.length p0, .slice B1' c.new.length p1, .slice B2' c.lrn.length p2] 37) ∧ (LgIs W W.heap.size g A4 c4 ∧ CIs W W.heap.size c B0 B1' B2' p0 p1 p2) ∧ (LgIs W W.heap.size g A cg ∧ CIs W W.heap.size c a0 a1 a2 k0 k1 k2) ∧ Below w.heap.size w W) := hid (fun W hb => by
    rw [hs7] at hb
    have hB := B7.out.trans (hb.mono B7.out.size)
    exact ⟨⟨⟨R7.out.1.1.keep hb, R7.out.1.2.keep hb⟩, R7.out.2.1.keep hb, R7.out.2.2.keep hb⟩, ⟨(X7.out.1.below hb).more hb.size, (X7.out.2.below hb).more hb.size⟩, IS.out W hB, hB⟩)
  have LB : Hid (∀ W, Below s7 w7 W → s7 ≤ W.heap.size) := hid (fun W hb => by have := hb.size; rw [← hs7] at this; exact this)
  have HAS : Hid (∀ W, Below s7 w7 W → Calls Try.prog 40 #[.int .i64 id, .int .i64 group, .int .i64 term, .agg #[.int .i64 g.base, .int .i64 g.term, .slice A4 g.es.length c4], .agg #[.slice B0 c.old.length p0, .slice B1' c.new.length p1, .slice B2' c.lrn.length p2]] W fun e w' => ∃ A' c' n', e = .returned (.slice A' n' c') ∧ n' = (others id c).length ∧ RowIn (askC id group term g.last g.lastT) 17 31 w' (fun k => W.heap.size ≤ k) A' c' (others id c) ∧ Below W.heap.size W w') := hid (fun W hb => by
    obtain ⟨_, ⟨q1, q2⟩, _⟩ := FA.out W hb
    exact asks_any id group term g A4 c4 c B0 B1' B2' p0 p1 p2 HG.out.ok HS.out W q1 q2)
  have HAR : Hid (∀ W, Below s7 w7 W → Calls Try.prog 41 #[.int .i64 id, .int .i64 group, .int .i64 term, .agg #[.int .i64 g.base, .int .i64 g.term, .slice A g.es.length cg], .agg #[.slice a0 c.old.length k0, .slice a1 c.new.length k1, .slice a2 c.lrn.length k2]] W fun e w' => ∃ A' c' n', e = .returned (.slice A' n' c') ∧ n' = (others id c).length ∧ RowIn (askC id group term g.last g.lastT) 17 31 w' (fun k => W.heap.size ≤ k) A' c' (others id c) ∧ Below W.heap.size W w') := hid (fun W hb => by
    obtain ⟨_, _, ⟨q1, q2⟩, _⟩ := FA.out W hb
    exact refAsks_any id group term g A cg c a0 a1 a2 k0 k1 k2 HG.out.ok HS.out W q1 q2)
  have HSL : Hid (∀ W, Below s7 w7 W → Calls Try.prog 37 #[.agg #[.int .i64 g.base, .int .i64 g.term, .slice A4 g.es.length c4], .agg #[.int .i64 g.base, .int .i64 g.term, .slice A g.es.length cg]] W fun e w' => e = .returned (.bool true) ∧ Below W.heap.size W w') := hid (fun W hb => by
    obtain ⟨_, ⟨q1, _⟩, ⟨q2, _⟩, _⟩ := FA.out W hb
    have := log_same g g A4 A c4 cg (by have := HFE.out.1; omega) W q1.es q2.es
    rw [decide_eq_true rfl] at this
    exact this)
  have HSC : Hid (∀ W, Below s7 w7 W → Calls Try.prog 43 #[.agg #[.slice B0 c.old.length p0, .slice B1' c.new.length p1, .slice B2' c.lrn.length p2], .agg #[.slice a0 c.old.length k0, .slice a1 c.new.length k1, .slice a2 c.lrn.length k2]] W fun e w' => e = .returned (.bool true) ∧ Below W.heap.size W w') := hid (fun W hb => by
    obtain ⟨_, ⟨_, q1⟩, ⟨_, q2⟩, _⟩ := FA.out W hb
    exact sameConf_any W.heap.size W.heap.size c c HSH.out HSH.out B0 B1' B2' a0 a1 a2 p0 p1 p2 k0 k1 k2 W q1 q2 (Nat.le_refl _) (Nat.le_refl _) rfl)
  have hd7 : Below s7 w7 w7 := Below.refl _ _
  have lx7 := (FA.out w7 hd7).1.2.1.ldL
  have ly7 := (FA.out w7 hd7).1.2.2.ldC
  have HA7 := hid (HAS.out w7 hd7)
  have HS7 := hid hs7
  clear hb6 ho6 hb67 hw7 hr7 hb57 hby lc5 HCC R5 X5 R7 X7 hd7 hs7 IS
  go_upto_region 5 with fail
  rw [← HBY.out]
  clear hst
  go_wp2_with fail
  refine HA7.out.mono ?_
  rintro e w8 ⟨C8, d8, n8, rfl, hn8, ho8, hb8⟩
  obtain ⟨L, hL⟩ : ∃ L, others id c = L := ⟨_, rfl⟩
  rw [hL] at hn8 ho8
  have HLL := hid hL
  have HN : Hid (L.length = n8 ∧ n8 ≤ 600) := hid ⟨hn8.symm, by
    rw [hn8, ← hL]
    unfold others
    have h1 := List.length_filter_le (fun n => !decide (n = id)) (Qu.uni (c.old ++ c.new))
    have h2 := (Qu.uni_is (c.old ++ c.new)).length_le
    rw [List.length_append] at h2
    have := HS.out
    omega⟩
  have hb8' : Below s7 w7 w8 := by rw [HS7.out]; exact hb8
  have G8 := hid hb8'
  have O8 : Hid (RowIn (askC id group term g.last g.lastT) 17 31 w8 (Bl s7 w8.heap.size) C8 d8 L) := hid (ho8.mono (fun k hk => ⟨by rw [HS7.out]; exact ho8.blk k hk, ho8.lt k hk⟩))
  have lx8 := (FA.out w8 hb8').1.2.1.ldL
  have ly8 := (FA.out w8 hb8').1.2.2.ldC
  have HA8 := hid (HAS.out w8 hb8')
  clear lx7 ly7 HA7 hn8 ho8 hb8 hb8' hL
  go_wp2_with fail
  refine HA8.out.mono ?_
  rintro e w9 ⟨C9, d9, n9, rfl, hn9, ho9, hb9⟩
  rw [HLL.out, HN.out.1] at hn9
  subst hn9
  rw [HLL.out] at ho9
  have G9 := hid (G8.out.trans (hb9.mono (LB.out _ G8.out)))
  have O9 := hid (And.intro (O8.out.below hb9) ho9)
  have HB9 := hid hb9
  have ll9 := (FA.out w9 G9.out).1.1.1.ldL
  have lc9 := (FA.out w9 G9.out).1.1.2.ldC
  have HR9 := hid (HAR.out w9 G9.out)
  clear lx8 ly8 HA8 ho9 hb9
  go_wp2_with fail
  refine HR9.out.mono ?_
  rintro e w10 ⟨C10, d10, n10, rfl, hn10, ho10, hb10⟩
  rw [HLL.out, HN.out.1] at hn10
  subst hn10
  rw [HLL.out] at ho10
  have G10 := hid (G9.out.trans (hb10.mono (LB.out _ G9.out)))
  have O10 := hid (And.intro (O9.out.1.below hb10) (And.intro (O9.out.2.below hb10) ho10))
  have HSM := hid (sameMsgs_any id group term g.last g.lastT C8 C10 d8 d10 n10 L HN.out.1 (by have := HN.out.2; omega) w10 (Im.RowIn.isRow O10.out.1) (Im.RowIn.isRow O10.out.2.2))
  clear ll9 lc9 HR9 ho10 hb10
  go_wp2_with fail
  refine HSM.out.mono ?_
  rintro e w11 ⟨rfl, hb11⟩
  have G11 := hid (G10.out.trans (hb11.mono (LB.out _ G10.out)))
  have O11 := hid (And.intro (O10.out.1.below hb11) (And.intro (O10.out.2.1.below hb11) (O10.out.2.2.below hb11)))
  obtain ⟨s8, hs8⟩ : ∃ s, s = w8.heap.size := ⟨_, rfl⟩
  have HS8 : Hid (s8 = w8.heap.size ∧ w8.heap.size ≤ w9.heap.size) := hid ⟨hs8, HB9.out.size⟩
  have H0 : Hid (RowIn (askO id group term g.last g.lastT) 17 31 w11 (Bl s7 s8) C8 d8 (halfD gone (L.map some) 0) ∧ Turned (Bl s7 s8) w11 w11) := hid ⟨by rw [hs8]; unfold halfD; simpa using rowO O11.out.1, Turned.refl _ _⟩
  have HLM : Hid ((L.map some).length = n10) := hid (by rw [List.length_map]; exact HN.out.1)
  clear HSM hb11 O10 O9 O8 hs8
  go_wp2_with fail
  go_loopw [16] (fun i wr => ∃ k : Nat, k ≤ n10 ∧ i = .int .i64 k ∧ Hid (RowIn (askO id group term g.last g.lastT) 17 31 wr (Bl s7 s8) C8 d8 (halfD gone (L.map some) k) ∧ Turned (Bl s7 s8) w11 wr)) (fun i _ => n10 - (RowKit.intOf i).toNat)
  case atStart => exact ⟨0, by omega, rfl, H0⟩
  case round =>
    clear H0
    obtain ⟨k, hk, rfl, hS⟩ := hrel
    by_cases hlt : k < n10
    · have hlt1 : k < (L.map some).length := by rw [HLM.out]; exact hlt
      have hlt' : k < (halfD gone (L.map some) k).length := by rw [halfD_length gone (L.map some) k (by omega)]; exact hlt1
      obtain ⟨gb, hgb, hgl, hFg, hc, hf⟩ := hS.out.1.get k hlt'
      have hC8 := hid hgb
      subst hgb
      have hk0 : (k : Int) < (n10 : Int) := by omega
      have hn6 : n10 ≤ 600 := HN.out.2
      have hth := Im.RowIn.there hS.out.1 k hlt'
      have hst := stAt info_msgV hth #[.int .i64 0, .int .i64 0, .int .i64 0, .int .i64 0, .int .i64 0, .int .i64 0, .int .i64 0, .int .i64 0, .int .i64 0, .int .i64 0, .int .i64 0, .int .i64 0, .int .i64 0, .int .i64 0, .bool false, .slice none 0 0, .slice none 0 0] rfl (by simp [Value.oneCell'])
      have hrow4 := Im.RowIn.setAll hS.out.1 k hlt' (gone (L.map some)[k])
      rw [halfD_set gone (L.map some) k hlt1] at hrow4
      have hT := turned_setCells gb (askO id group term g.last g.lastT (gone (L.map some)[k])) wr (k * 17)
      have HI : Hid (RowIn (askO id group term g.last g.lastT) 17 31 (wr.setCells gb (k * 17) (askO id group term g.last g.lastT (gone (L.map some)[k]))) (Bl s7 s8) (some ⟨gb, 0, none⟩) d8 (halfD gone (L.map some) (k + 1)) ∧ Turned (Bl s7 s8) w11 (wr.setCells gb (k * 17) (askO id group term g.last g.lastT (gone (L.map some)[k])))) := hid ⟨hrow4, hS.out.2.then_ hT (fun j _ hj => by rw [hj]; exact hFg)⟩
      have hst' : (stX 31 (.pointer (some ⟨gb, k * 17, none⟩)) (.agg #[.int .i64 0, .int .i64 0, .int .i64 0, .int .i64 0, .int .i64 0, .int .i64 0, .int .i64 0, .int .i64 0, .int .i64 0, .int .i64 0, .int .i64 0, .int .i64 0, .int .i64 0, .int .i64 0, .bool false, .slice none 0 0, .slice none 0 0])).run Try.prog wr = .ok () (wr.setCells gb (k * 17) (askO id group term g.last g.lastT (gone (L.map some)[k]))) := hst
      clear hst hrow4 hT hth hc hf hlt' hS
      generalize wr.setCells gb (k * 17) (askO id group term g.last g.lastT (gone (L.map some)[k])) = w12 at *
      go_wp2_with fail
      go_roundw
      case rel => exact ⟨k + 1, by omega, by go_num, HI⟩
      case measure => simp [RowKit.intOf]; omega
    · obtain rfl : k = n10 := by omega
      have hkk : ¬ (k : Int) < (k : Int) := by omega
      have G12 : Hid (Below s7 w7 wr) := hid (G11.out.trans (hS.out.2.below (LB.out _ G11.out) (fun j hj => hj.1)))
      have O12 : Hid (RowIn (askC id group term g.last g.lastT) 17 31 wr (fun k => w8.heap.size ≤ k) C9 d9 L ∧ RowIn (askC id group term g.last g.lastT) 17 31 wr (fun k => w9.heap.size ≤ k) C10 d10 L) := hid
        ⟨O11.out.2.1.keep hS.out.2 (fun j hj hb => by have h1 := O11.out.2.1.blk j hj; have h2 := hb.2; have := HS8.out; omega), O11.out.2.2.keep hS.out.2 (fun j hj hb => by have h1 := O11.out.2.2.blk j hj; have h2 := hb.2; have := HS8.out; omega)⟩
      have HSM := hid (sameMsgs_any id group term g.last g.lastT C9 C10 d9 d10 k L HN.out.1 (by have := HN.out.2; omega) wr (Im.RowIn.isRow O12.out.1) (Im.RowIn.isRow O12.out.2))
      clear hS O11
      go_wp2_with fail
      refine HSM.out.mono ?_
      rintro e w13 ⟨rfl, hb13⟩
      have G13 := hid (G12.out.trans (hb13.mono (LB.out _ G12.out)))
      have lx := (FA.out w13 G13.out).1.2.1.ldL
      have ll := (FA.out w13 G13.out).1.1.1.ldL
      have HL13 := hid (HSL.out w13 G13.out)
      clear hb13 HSM O12
      go_wp2_with fail
      refine HL13.out.mono ?_
      rintro e w14 ⟨rfl, hb14⟩
      have G14 := hid (G13.out.trans (hb14.mono (LB.out _ G13.out)))
      have ly := (FA.out w14 G14.out).1.2.2.ldC
      have lc := (FA.out w14 G14.out).1.1.2.ldC
      have HC14 := hid (HSC.out w14 G14.out)
      clear hb14 HL13 lx ll
      go_wp2_with fail
      refine HC14.out.mono ?_
      rintro e w15 ⟨rfl, hb15⟩
      have G15 := hid (G14.out.trans (hb15.mono (LB.out _ G14.out)))
      clear hb15 HC14 ly lc
      go_wp2_with fail
      refine (works_any _).mono ?_
      rintro e w16 ⟨rfl, hb16⟩
      have G16 := hid (G15.out.trans (hb16.mono (LB.out _ G15.out)))
      have HB16 := hid (FA.out w16 G16.out).2.2.2
      clear hb16
      go_wp2_with fail
      go_ret
      exact ⟨rfl, HB16.out⟩
end Go.Proofs.Ytkmbkihfdilmbaa.Vo
namespace Go.Proofs.Ytkmbkihfdilmbaa
open Go Go.RowKit
set_option maxRecDepth 100000
set_option linter.unusedVariables false
structure Gp where
  p : World → Value → Prop
  mono : ∀ w w' v, p w v → Below w.heap.size w w' → p w' v
def Gp.any : Gp := ⟨fun _ _ => True, fun _ _ _ _ _ => trivial⟩
def Gp.is (v0 : Value) : Gp := ⟨fun _ v => v = v0, fun _ _ _ h _ => h⟩
def Gp.row (lo : Nat) (n : Nat) (cs : Array Value) (t : TypeId) : Gp := ⟨fun w v => ∃ b, lo ≤ b ∧ v = .slice (some ⟨b, 0, none⟩) n n ∧ w.heap[b]? = some (.cells cs t (0, 0)), fun w w' v ⟨b, h0, h1, h2⟩ hb => ⟨b, h0, h1, (hb.block b (Array.getElem?_eq_some_iff.1 h2).1).trans h2⟩⟩
def dstsN (ops : Array Oper) (n : Nat) : List Nat := (ops.toList.take n).filterMap (·.dst)
def putAll (u : Nat → Value) (ds : List Nat) (a : Act) : Act := ds.foldl (fun a d => a.put (some d) (u d)) a
theorem putAll_size (u : Nat → Value) : ∀ (ds : List Nat) (a : Act), (putAll u ds a).tmps.size = a.tmps.size := by
  intro ds
  induction ds with
  | nil => intro a; rfl
  | cons d ds ih => intro a; show (putAll u ds (a.put (some d) (u d))).tmps.size = _; rw [ih]; simp [Act.put]
theorem putAll_defers (u : Nat → Value) : ∀ (ds : List Nat) (a : Act), (putAll u ds a).defers = a.defers := by
  intro ds
  induction ds with
  | nil => intro a; rfl
  | cons d ds ih => intro a; show (putAll u ds (a.put (some d) (u d))).defers = _; rw [ih]; rfl
theorem putAll_get (u : Nat → Value) : ∀ (ds : List Nat) (a : Act) (i : Nat), i < a.tmps.size → (putAll u ds a).tmps[i]? = if i ∈ ds then some (u i) else a.tmps[i]? := by
  intro ds
  induction ds with
  | nil => intro a i _; simp [putAll]
  | cons d ds ih =>
    intro a i hi
    show (putAll u ds (a.put (some d) (u d))).tmps[i]? = _
    rw [ih _ _ (by simp [Act.put]; exact hi)]
    by_cases h : i ∈ ds
    · rw [if_pos h, if_pos (List.mem_cons_of_mem _ h)]
    · rw [if_neg h]
      by_cases e : i = d
      · subst e
        rw [if_pos List.mem_cons_self]
        simp [Act.put, hi]
      · rw [if_neg (by simp [e, h])]
        simp [Act.put, Array.getElem?_setIfInBounds_ne (Ne.symm e)]
theorem act_putAll {a a0 : Act} {ds : List Nat} (hsz : a.tmps.size = a0.tmps.size) (hdf : a.defers = a0.defers) (hk : ∀ s, s ∉ ds → a.eval (.tmp s) = a0.eval (.tmp s)) : a = putAll (fun d => a.eval (.tmp d)) ds a0 := by
  obtain ⟨t, df⟩ := a
  obtain ⟨t0, df0⟩ := a0
  have h1 : t = (putAll (fun d => (⟨t, df⟩ : Act).eval (.tmp d)) ds ⟨t0, df0⟩).tmps := by
    apply Array.ext_getElem?
    intro i
    by_cases hi : i < t0.size
    · rw [putAll_get _ _ _ _ hi]
      have hi' : i < t.size := by have : t.size = t0.size := hsz; omega
      by_cases h : i ∈ ds
      · rw [if_pos h]
        simp [Act.eval, hi']
      · rw [if_neg h]
        have := hk i h
        simp only [Act.eval, Array.getD_eq_getD_getElem?] at this
        rw [Array.getElem?_eq_getElem hi', Array.getElem?_eq_getElem hi] at this ⊢
        exact congrArg some this
    · rw [Array.getElem?_eq_none (by have : t.size = t0.size := hsz; omega), Array.getElem?_eq_none (by rw [putAll_size]; show t0.size ≤ i; omega)]
  have h2 : df = (putAll (fun d => (⟨t, df⟩ : Act).eval (.tmp d)) ds ⟨t0, df0⟩).defers := by rw [putAll_defers]; exact hdf
  rcases hp : putAll (fun d => (⟨t, df⟩ : Act).eval (.tmp d)) ds ⟨t0, df0⟩ with ⟨t1, d1⟩
  rw [hp] at h1 h2
  rw [h1, h2]
def listedN (n m : Nat) : Array Bool := (List.replicate n true ++ List.replicate m false).toArray
def onceG (ops : Array Oper) (n nt : Nat) : Bool := (dstsN ops n).all (fun d => decide (d < nt)) && decide (dstsN ops n).Nodup && (List.range n).all fun j => match ops[j]? with
  | some o => o.dst.isSome
  | none => true
def edgeB (ops : Array Oper) (o : Oper) (i d : Nat) : Bool := (o.after.any fun e => Region.binds .any e && decide (e.on = i)) && decide (ops[i]?.bind (·.dst) = some d)
structure Jg (H : Nat → Gp) (ops : Array Oper) (n : Nat) (a0 : Act) (w0 : World) (listed : Array Bool) (a : Act) (w : World) : Prop where
  size : a.tmps.size = a0.tmps.size
  defers : a.defers = a0.defers
  keep : ∀ s, s ∉ dstsN ops n → a.eval (.tmp s) = a0.eval (.tmp s)
  lsize : listed.size = ops.size
  slots : ∀ j o d, ops[j]? = some o → o.dst = some d → listed.getD j false = true → (H j).p w (a.eval (.tmp d))
  clos : ∀ j o, ops[j]? = some o → listed.getD j false = true → ∀ e ∈ o.after, Region.binds .any e = true → listed.getD e.on false = true
  bel : Below w0.heap.size w0 w
  tail : ∀ j, n ≤ j → listed.getD j false = false
theorem mem_dsts {ops : Array Oper} {n j d : Nat} {o : Oper} (hj : ops[j]? = some o) (hd : o.dst = some d) (hn : j < n) : d ∈ dstsN ops n := by
  refine List.mem_filterMap.2 ⟨o, ?_, hd⟩
  have : (ops.toList.take n)[j]? = some o := by rw [List.getElem?_take, if_pos hn, Array.getElem?_toList]; exact hj
  exact List.mem_of_getElem? this
theorem dst_once {l : List Oper} (h : (l.filterMap (·.dst)).Nodup) : ∀ {i j : Nat} {o o' : Oper} {d : Nat}, l[i]? = some o → l[j]? = some o' → o.dst = some d → o'.dst = some d → i = j := by
  induction l with
  | nil => intro i j o o' d h1; simp at h1
  | cons x l ih =>
    intro i j o o' d h1 h2 h3 h4
    have hm : ∀ {k : Nat} {y : Oper}, l[k]? = some y → y.dst = some d → d ∈ l.filterMap (·.dst) := fun hk hy => List.mem_filterMap.2 ⟨_, List.mem_of_getElem? hk, hy⟩
    have hl : (l.filterMap (·.dst)).Nodup := by
      rcases hx : x.dst with _ | dx
      · rw [List.filterMap_cons_none hx] at h; exact h
      · rw [List.filterMap_cons_some hx] at h; exact (List.nodup_cons.1 h).2
    rcases i with _ | i
    · rcases j with _ | j
      · rfl
      · simp at h1 h2
        subst h1
        rw [List.filterMap_cons_some h3] at h
        exact absurd (hm h2 h4) (List.nodup_cons.1 h).1
    · rcases j with _ | j
      · simp at h1 h2
        subst h2
        rw [List.filterMap_cons_some h4] at h
        exact absurd (hm h1 h3) (List.nodup_cons.1 h).1
      · simp at h1 h2
        rw [ih hl h1 h2 h3 h4]
theorem once_of {ops : Array Oper} {n i j d : Nat} {o o' : Oper} (h : (dstsN ops n).Nodup) (hi : ops[i]? = some o) (hj : ops[j]? = some o') (hin : i < n) (hjn : j < n) (h1 : o.dst = some d) (h2 : o'.dst = some d) : i = j := by
  have t : ∀ {k : Nat} {y : Oper}, ops[k]? = some y → k < n → (ops.toList.take n)[k]? = some y := fun hk hn => by rw [List.getElem?_take, if_pos hn, Array.getElem?_toList]; exact hk
  exact dst_once h (t hi hin) (t hj hjn) h1 h2
section
variable {P : Program} {H : Nat → Gp} {ops : Array Oper} {n : Nat} {a0 : Act} {w0 : World} {Q : Exit → Act → World → Prop}
theorem Jg.step (hn : (dstsN ops n).Nodup) (hb : ∀ d ∈ dstsN ops n, d < a0.tmps.size) {listed : Array Bool} {a : Act} {w w' : World} {v : Value} (h : Jg H ops n a0 w0 listed a w) {i : Nat} {o : Oper} (hi : ops[i]? = some o) (hin : i < n) {d : Nat} (hd : o.dst = some d) (ha : ∀ e ∈ o.after, Region.binds .any e = true → listed.getD e.on false = true)
    (hv : (H i).p w' v) (hw : Below w.heap.size w w') : Jg H ops n a0 w0 (listed.setIfInBounds i true) (a.put o.dst v) w' := by
  have his : i < listed.size := by rw [h.lsize]; exact (Array.getElem?_eq_some_iff.1 hi).1
  have hdm := mem_dsts hi hd hin
  refine ⟨by rw [hd]; simp [Act.put, h.size], by rw [hd]; exact h.defers, fun s hs => ?_, by simp [h.lsize], fun m om dm hm hdm' hl => ?_, fun m om hm hl e he hb => ?_, h.bel.trans (hw.mono h.bel.size), fun m hm => ?_⟩
  · rw [evput_ne a v (by rw [hd]; intro e; injection e with e; subst e; exact hs hdm)]
    exact h.keep s hs
  · rw [listed_set _ _ _ his] at hl
    by_cases e : m = i
    · subst e
      rw [hi] at hm
      obtain rfl := Option.some.inj hm
      rw [hd] at hdm'
      obtain rfl := Option.some.inj hdm'
      rw [hd, evput_self a v (by rw [h.size]; exact hb _ hdm)]
      exact hv
    · rw [if_neg e] at hl
      have hmn : m < n := by
        rcases Nat.lt_or_ge m n with h' | h'
        · exact h'
        · rw [h.tail m h'] at hl; cases hl
      rw [evput_ne a v (fun e' => e (once_of hn hm hi hmn hin hdm' (by rw [e'])))]
      exact (H m).mono _ _ _ (h.slots m om dm hm hdm' hl) hw
  · rw [listed_set _ _ _ his] at hl ⊢
    by_cases e1 : e.on = i
    · rw [if_pos e1]
    · rw [if_neg e1]
      by_cases e2 : m = i
      · subst e2
        rw [hi] at hm
        obtain rfl := Option.some.inj hm
        exact ha e he hb
      · rw [if_neg e2] at hl
        exact h.clos m om hm hl e he hb
  · rw [listed_set _ _ _ his, if_neg (by omega)]; exact h.tail m hm
theorem listed_is {listed : Array Bool} (hsz : listed.size = ops.size) (hn : n ≤ ops.size) (h1 : ∀ j, j < n → listed.getD j false = true) (h2 : ∀ j, n ≤ j → listed.getD j false = false) : listed = listedN n (ops.size - n) := by
  apply Array.ext_getElem?
  intro i
  rw [show (listedN n (ops.size - n))[i]? = (List.replicate n true ++ List.replicate (ops.size - n) false)[i]? from List.getElem?_toArray]
  by_cases hi : i < n
  · rw [List.getElem?_append_left (by simpa using hi), List.getElem?_replicate, if_pos hi]
    have := h1 i hi
    have hl : i < listed.size := by omega
    rw [Array.getD_eq_getD_getElem?, Array.getElem?_eq_getElem hl] at this
    rw [Array.getElem?_eq_getElem hl]
    exact congrArg some this
  · rw [List.getElem?_append_right (by simp; omega), List.length_replicate, List.getElem?_replicate]
    have := h2 i (by omega)
    by_cases hl : i < listed.size
    · rw [Array.getD_eq_getD_getElem?, Array.getElem?_eq_getElem hl] at this
      rw [Array.getElem?_eq_getElem hl, if_pos (by omega)]
      exact congrArg some this
    · rw [Array.getElem?_eq_none (by omega), if_neg (by omega)]
end
end Go.Proofs.Ytkmbkihfdilmbaa
namespace Go.Proofs.Ytkmbkihfdilmbaa
open Go Go.RowKit
set_option maxRecDepth 100000
set_option linter.unusedVariables false
theorem ev_const0 (a : Act) (v : Value) : a.eval (.const v) = v := rfl
section
variable {P : Program} {a : Act} {w w' : World} {ty : TypeId} {R : Value → World → Prop} {op : Op} {v : Value}
theorem goes_val (h : (execOp a.eval (sop op ty)).run P w = .ok (.value v) w) (hR : R v w) : Goes P a w op ty (fun v w' => R v w' ∧ Below w.heap.size w w') := .inl ⟨v, w, h, hR, Below.refl _ _⟩
theorem goes_new {o : Obj} (h : (execOp a.eval (sop op ty)).run P w = .ok (.value v) (w.alloc o)) (hR : R v (w.alloc o)) : Goes P a w op ty (fun v w' => R v w' ∧ Below w.heap.size w w') := .inl ⟨v, _, h, hR, (Below.refl _ w).alloc (Nat.le_refl _) _⟩
theorem goes_move {x : Operand} (h : a.eval x = v) (hR : R v w) : Goes P a w (.move x) ty (fun v w' => R v w' ∧ Below w.heap.size w w') := by
  subst h; exact goes_val (x_move _ _ _ _) hR
theorem goes_index {t : TypeId} {x y : Operand} {v1 v2 : Value} (h1 : a.eval x = v1) (h2 : a.eval y = v2) (h : (Instr.indexAt t v1 v2).run P w = .ok v w) (hR : R v w) : Goes P a w (.indexAddr t x y) ty (fun v w' => R v w' ∧ Below w.heap.size w w') := by
  subst h1 h2; exact goes_val (x_index _ _ _ _ _ _ _ h) hR
theorem goes_load {t : TypeId} {x : Operand} {v1 : Value} (h1 : a.eval x = v1) (h : (Instr.loadAt t v1).run P w = .ok v w) (hR : R v w) : Goes P a w (.load t x) ty (fun v w' => R v w' ∧ Below w.heap.size w w') := by
  subst h1; exact goes_val (x_load _ _ _ _ _ _ h) hR
theorem goes_build {t : TypeId} {parts : Array (Nat × Operand)} (cs : Array Value) (pv : List (Nat × Value)) (hpv : (parts.map fun (i, x) => (i, a.eval x)).toList = pv) (h : P.built t pv = some cs) (hR : R (.agg cs) w) : Goes P a w (.build t parts) ty (fun v w' => R v w' ∧ Below w.heap.size w w') := by
  subst hpv
  exact goes_val (x_build _ _ _ _ _ _ (run_build w _ _ _ h)) hR
theorem goes_slice {t e : TypeId} {n : Nat} {parts : Array (Nat × Operand)} (cs : Array Value) {i0 : TypeInfo} {z : Value} (sz : Nat) (hs : i0.size = sz) (hu : P.underlying t = some (.slice e)) (hi : P.info? e = some i0) (hz : i0.zero = some z) (hn : ¬ n * sz > 2 ^ 24) (hp : n * sz ≠ 0)
    (pv : List (Nat × Value)) (hpv : (parts.map fun (i, x) => (i, a.eval x)).toList = pv) (hf : Instr.fill (fun i => some (i * sz, sz)) ((Array.range (n * sz)).map (z.cells[· % z.cells.size]!)) pv = some cs) (hR : R (.slice (some ⟨w.heap.size, 0, none⟩) n n) (w.alloc (.cells cs e))) :
    Goes P a w (.buildSlice t n parts) ty (fun v w' => R v w' ∧ Below w.heap.size w w') := by
  subst hs hpv
  exact goes_new (x_slice _ _ _ _ _ _ _ _ (run_buildSlice w t e n _ cs i0 z hu hi hz hn hp hf)) hR
end
def Gp.rowIn (lo : Nat) (g : Nat → Value) (cs : Array Value) (t : TypeId) : Gp := ⟨fun w v => ∃ b, lo ≤ b ∧ v = g b ∧ w.heap[b]? = some (.cells cs t (0, 0)), fun w w' v ⟨b, h0, h1, h2⟩ hb => ⟨b, h0, h1, (hb.block b (Array.getElem?_eq_some_iff.1 h2).1).trans h2⟩⟩
end Go.Proofs.Ytkmbkihfdilmbaa
namespace Go.Proofs.Ytkmbkihfdilmbaa.Vo
open Go Go.RowKit
open Rl (En Lg)
open Ms (M)
open Im (ldX stX)
set_option maxRecDepth 100000
set_option linter.unusedVariables false
def mv (f t i p : Int) : Value := .agg #[.int .i64 1, .int .i64 f, .int .i64 1, .int .i64 0, .int .i64 t, .int .i64 i, .int .i64 p, .int .i64 0, .int .i64 0, .int .i64 0, .int .i64 0, .int .i64 0, .int .i64 0, .int .i64 0, .bool false, .slice none 0 0, .slice none 0 0]
theorem askedK (f t i p : Int) (w : World) : Calls Try.prog 9 #[.int .i64 f, .int .i64 t, .int .i64 i, .int .i64 p] w fun e w' => e = .returned (mv f t i p) ∧ Below w.heap.size w w' := asked_any f t i p w
theorem tellsK (draw term v f t i p : Int) (hd : InInt draw) (g : Lg) (A : Option Addr) (n c : Nat) (hg : LogOk g ∧ g.es.length = n) (w : World) (h : LgIs w w.heap.size g A c) :
    Calls Try.prog 8 #[.int .i64 draw, .int .i64 term, .int .i64 v, .agg #[.int .i64 g.base, .int .i64 g.term, .slice A n c], mv f t i p] w fun e w' => e = .returned (.bool true) ∧ Below w.heap.size w w' := by
  obtain ⟨hg, rfl⟩ := hg
  exact tells_any draw term v hd g A c (askM f t i p) none 0 none 0 hg w h
theorem onceK (draw term f t i p f2 t2 i2 p2 : Int) (hd : InInt draw) (g : Lg) (A : Option Addr) (n c : Nat) (hg : LogOk g ∧ g.es.length = n) (w : World) (h : LgIs w w.heap.size g A c) :
    Calls Try.prog 10 #[.int .i64 draw, .int .i64 term, .agg #[.int .i64 g.base, .int .i64 g.term, .slice A n c], mv f t i p, mv f2 t2 i2 p2] w fun e w' => e = .returned (.bool true) ∧ Below w.heap.size w w' := by
  obtain ⟨hg, rfl⟩ := hg
  exact once_any draw term hd g A c (askM f t i p) none 0 none 0 (askM f2 t2 i2 p2) none 0 none 0 hg w h
theorem wholeK (term v f t i p more later : Int) (g : Lg) (A : Option Addr) (n c : Nat) (hg : LogOk g ∧ g.es.length = n) (w : World) (h : LgIs w w.heap.size g A c) :
    Calls Try.prog 11 #[.int .i64 term, .int .i64 v, .agg #[.int .i64 g.base, .int .i64 g.term, .slice A n c], mv f t i p, .int .i64 more, .int .i64 later] w fun e w' => e = .returned (.bool true) ∧ Below w.heap.size w w' := by
  obtain ⟨hg, rfl⟩ := hg
  exact whole_any term v g A c (askM f t i p) none 0 none 0 more later hg w h
theorem grantsK (f t i p : Int) (term v : Int) (r : Bool) (hr : grants term v sevenL (askM f t i p) = r) (A : Option Addr) (w : World) (h : LgIs w w.heap.size sevenL A 2) :
    Calls Try.prog 13 #[.int .i64 term, .int .i64 v, .agg #[.int .i64 5, .int .i64 2, .slice A 2 2], mv f t i p] w fun e w' => e = .returned (.bool r) ∧ Below w.heap.size w w' := grants7_any f t i p term v r hr A w h
theorem grants2K (A : Option Addr) (w : World) (h : LgIs w w.heap.size sevenL A 2) :
    Calls Try.prog 13 #[.int .i64 5, .int .i64 0, .agg #[.int .i64 5, .int .i64 2, .slice A 2 2], .agg #[.int .i64 2, .int .i64 2, .int .i64 1, .int .i64 0, .int .i64 5, .int .i64 7, .int .i64 3, .int .i64 0, .int .i64 0, .int .i64 0, .int .i64 0, .int .i64 0, .int .i64 0, .int .i64 0, .bool false, .slice none 0 0, .slice none 0 0]] w fun e w' => e = .returned (.bool false) ∧ Below w.heap.size w w' := by
  have := grants_any w.heap.size sevenL A 2 { askM 2 5 7 3 with K := 2 } none 0 none 0 5 0 seven_ok w h (Nat.le_refl _)
  rw [show grants 5 0 sevenL { askM 2 5 7 3 with K := 2 } = false by decide] at this
  exact this
def zeroL : Lg := ⟨0, 0, []⟩
def baseL : Lg := ⟨7, 3, []⟩
theorem sevenOk : LogOk sevenL := ⟨seven_ok, by decide, by decide⟩
theorem zeroOk : LogOk zeroL := ⟨by unfold Rl.Ok zeroL; simp, by decide, by decide⟩
theorem baseOk : LogOk baseL := ⟨by unfold Rl.Ok baseL; simp, by decide, by decide⟩
theorem run_ldLogV (w : World) (b o : Nat) (cs : List Value) (h : cs.length = 3) (hc : w.rangeAt b o cs) : (ldX 25 (.pointer (some ⟨b, o, none⟩))).run Try.prog w = .ok (.agg cs.toArray) w :=
  run_loadAt_mid w b o 25 cs _ hc Try.underlying25 rfl (by rw [Im.info_log33, h])
theorem rowRange {w : World} {b : Nat} {cs : List Value} {t : TypeId} (h : Rw w b cs.toArray t) (i n : Nat) : w.rangeAt b i ((cs.drop i).take n) := by
  have := Im.range_sub (Im.range_row h) i n
  rwa [Nat.zero_add] at this
theorem logs_at (w2 : World) (A : Option Addr) (hl : LgIs w2 w2.heap.size sevenL A 2) (w3 : World) (hb : Below w2.heap.size w2 w3) (gl : Nat) (hr : Rw w3 gl #[.int .i64 5, .int .i64 2, .slice A 2 2, .int .i64 0, .int .i64 0, .slice none 0 0, .int .i64 7, .int .i64 3, .slice none 0 0] 25) :
    ∀ j, j < 3 → ∃ g A' n c, (LogOk g ∧ g.es.length = n) ∧ ∀ W, Below w3.heap.size w3 W → LgIs W W.heap.size g A' c ∧ (ldX 25 (.pointer (some ⟨gl, j * 3, none⟩))).run Try.prog W = .ok (.agg #[.int .i64 g.base, .int .i64 g.term, .slice A' n c]) W := by
  have hz : ∀ (W : World) (b t : Int), InInt b ∧ InInt t → LgIs W W.heap.size ⟨b, t, []⟩ none 0 := fun W b t h => ⟨IsEnts.nil, ⟨Nat.le_refl _, Nat.zero_le _⟩, fun _ => rfl, h⟩
  have ra := fun (W : World) (hW : Below w3.heap.size w3 W) (i : Nat) => rowRange (cs := [.int .i64 5, .int .i64 2, .slice A 2 2, .int .i64 0, .int .i64 0, .slice none 0 0, .int .i64 7, .int .i64 3, .slice none 0 0]) (hr.keep hW) i 3
  intro j hj
  match j, hj with
  | 0, _ => exact ⟨sevenL, A, 2, 2, ⟨sevenOk, rfl⟩, fun W hW => ⟨((hl.below hb).more hb.size |>.below hW).more hW.size, run_ldLogV W gl (0 * 3) _ rfl (ra W hW 0)⟩⟩
  | 1, _ => exact ⟨zeroL, none, 0, 0, ⟨zeroOk, rfl⟩, fun W hW => ⟨hz W 0 0 (by unfold InInt; omega), run_ldLogV W gl (1 * 3) _ rfl (ra W hW 3)⟩⟩
  | 2, _ => exact ⟨baseL, none, 0, 0, ⟨baseOk, rfl⟩, fun W hW => ⟨hz W 7 3 (by unfold InInt; omega), run_ldLogV W gl (2 * 3) _ rfl (ra W hW 6)⟩⟩
def nL : List Int := [-9223372036854775808, -1, 0, 1, 2, 3, 4, 5, 6, 7, 8, 9, 10, 9223372036854775807]
theorem nL_in : ∀ x ∈ nL, InInt x := by unfold InInt nL; simp
theorem n_at (w1 : World) (b : Nat) (hr : Rw w1 b (ints nL).toArray 3) : ∀ i, i < 14 → ∃ x, InInt x ∧ ∀ W, Below w1.heap.size w1 W → W.cell? ⟨b, i, none⟩ = some (.int .i64 x) := fun i hi =>
  ⟨nL[i]'hi, nL_in _ (List.getElem_mem _), fun W hW => by
    rw [row_cell (hr.keep hW) i, List.getElem?_toArray, ints_get nL i hi]⟩
theorem isInts_row {w : World} {b : Nat} {t : TypeId} (l : List Int) (hs : ∀ x ∈ l, InInt x) (h : w.heap[b]? = some (.cells (ints l).toArray t (0, 0))) : IsInts w w.heap.size (some ⟨b, 0, none⟩) l :=
  ⟨hs, fun k hk => ⟨b, 0, rfl, row_lt' h, fun i hi => by rw [Nat.zero_add, row_cell h i, List.getElem?_toArray, ints_get l i hi]⟩⟩
def exC : Qu.Cf := ⟨[1, 2, 3], [3, 5], [7]⟩
def exV (b1 b2 b3 : Nat) : Value := .agg #[.slice (some ⟨b1, 0, none⟩) 3 3, .slice (some ⟨b2, 0, none⟩) 2 2, .slice (some ⟨b3, 0, none⟩) 1 1]
theorem asksK (id group term : Int) (A : Option Addr) (b1 b2 b3 : Nat) (w : World) (h : LgIs w w.heap.size sevenL A 2) (h1 : Rw w b1 #[.int .i64 1, .int .i64 2, .int .i64 3] 3) (h2 : Rw w b2 #[.int .i64 3, .int .i64 5] 3) (h3 : Rw w b3 #[.int .i64 7] 3) :
    Calls Try.prog 12 #[.int .i64 id, .int .i64 group, .int .i64 term, .agg #[.int .i64 5, .int .i64 2, .slice A 2 2], exV b1 b2 b3] w fun e w' => e = .returned (.bool true) ∧ Below w.heap.size w w' :=
  voteAsks_any id group term sevenL A 2 exC (some ⟨b1, 0, none⟩) (some ⟨b2, 0, none⟩) (some ⟨b3, 0, none⟩) 3 2 1 (by decide) sevenOk w h
    ⟨isInts_row [1, 2, 3] (by simp [InInt]) h1, isInts_row [3, 5] (by simp [InInt]) h2, isInts_row [7] (by simp [InInt]) h3, by simp, by simp, by simp, by decide, by decide, by decide⟩
theorem asks0K (id group term : Int) (w : World) :
    Calls Try.prog 12 #[.int .i64 id, .int .i64 group, .int .i64 term, .agg #[.int .i64 0, .int .i64 0, .slice none 0 0], .agg #[.slice none 0 0, .slice none 0 0, .slice none 0 0]] w fun e w' => e = .returned (.bool true) ∧ Below w.heap.size w w' :=
  voteAsks_any id group term zeroL none 0 ⟨[], [], []⟩ none none none 0 0 0 (by decide) zeroOk w ⟨IsEnts.nil, ⟨Nat.le_refl _, Nat.zero_le _⟩, fun _ => rfl, by unfold InInt zeroL; simp⟩
    ⟨IsInts.nil, IsInts.nil, IsInts.nil, by simp, by simp, by simp, by decide, by decide, by decide⟩
def Gp.seven : Gp := ⟨fun w v => ∃ A, v = .agg #[.int .i64 5, .int .i64 2, .slice A 2 2] ∧ LgIs w w.heap.size sevenL A 2, fun w w' v ⟨A, h0, h1⟩ hb => ⟨A, h0, (h1.below hb).more hb.size⟩⟩
def Gp.exC : Gp := ⟨fun w v => ∃ b1 b2 b3, v = exV b1 b2 b3 ∧ Rw w b1 #[.int .i64 1, .int .i64 2, .int .i64 3] 3 ∧ Rw w b2 #[.int .i64 3, .int .i64 5] 3 ∧ Rw w b3 #[.int .i64 7] 3, fun w w' v ⟨b1, b2, b3, h0, h1, h2, h3⟩ hb => ⟨b1, b2, b3, h0, h1.keep hb, h2.keep hb, h3.keep hb⟩⟩
def HA (gn i : Nat) (x : Int) : Nat → Gp
  | 0 => Gp.is (.slice (some ⟨gn, 0, none⟩) 14 14)
  | 1 => Gp.is (.int .i64 i)
  | 2 => Gp.is (.pointer (some ⟨gn, i, none⟩))
  | 3 => Gp.is (.int .i64 x)
  | 4 => Gp.is (.slice (some ⟨gn, 0, none⟩) 14 14)
  | 5 => Gp.is (.int .i64 i)
  | 6 => Gp.is (.pointer (some ⟨gn, i, none⟩))
  | 7 => Gp.is (.int .i64 x)
  | 8 => Gp.is (.slice (some ⟨gn, 0, none⟩) 14 14)
  | 9 => Gp.is (.int .i64 i)
  | 10 => Gp.is (.pointer (some ⟨gn, i, none⟩))
  | 11 => Gp.is (.int .i64 x)
  | 12 => Gp.seven
  | 13 => Gp.row 0 3 #[.int .i64 1, .int .i64 2, .int .i64 3] 3
  | 14 => Gp.row 0 2 #[.int .i64 3, .int .i64 5] 3
  | 15 => Gp.row 0 1 #[.int .i64 7] 3
  | _ => Gp.exC
end Go.Proofs.Ytkmbkihfdilmbaa.Vo
namespace Go.Proofs.Ytkmbkihfdilmbaa
open Go Go.RowKit
set_option maxRecDepth 100000
set_option linter.unusedVariables false
def ArmO (P : Program) (H : Nat → Gp) (ops : Array Oper) (ds : List Nat) (a0 : Act) (w0 : World) (j : Nat) (o : Oper) : Prop :=
  (o.guard = none ∨ ∃ g d b, o.guard = some (g, b) ∧ edgeB ops o g d = true ∧ ∀ w v, (H g).p w v → v = .bool b) ∧ ∀ a w, Below w0.heap.size w0 w → (∀ s, s ∉ ds → a.eval (.tmp s) = a0.eval (.tmp s)) → (∀ i d, edgeB ops o i d = true → (H i).p w (a.eval (.tmp d))) →
    Goes P a w o.op o.type (fun v w' => (H j).p w' v ∧ Below w.heap.size w w')
section
variable {P : Program} {H : Nat → Gp} {ops : Array Oper} {n : Nat} {a0 : Act} {w0 : World} {Q : Exit → Act → World → Prop}
theorem edge_at {listed : Array Bool} {a : Act} {w : World} (h : Jg H ops n a0 w0 listed a w) {o : Oper} (ha : ∀ e ∈ o.after, Region.binds .any e = true → listed.getD e.on false = true) {k dk : Nat} (hk : edgeB ops o k dk = true) : ∃ ok, ops[k]? = some ok ∧ ok.dst = some dk ∧ listed.getD k false = true := by
  unfold edgeB at hk
  rw [Bool.and_eq_true, decide_eq_true_eq] at hk
  obtain ⟨q, hq, h3⟩ := Array.any_eq_true.1 hk.1
  rw [Bool.and_eq_true, decide_eq_true_eq] at h3
  obtain ⟨ok, hok, hdk⟩ := Option.bind_eq_some_iff.1 hk.2
  exact ⟨ok, hok, hdk, h3.2 ▸ ha _ (Array.getElem_mem hq) h3.1⟩
theorem wpAny_all (hac : acyc ops = true) (hn : (dstsN ops ops.size).Nodup) (hb : ∀ d ∈ dstsN ops ops.size, d < a0.tmps.size) (hd : ∀ (j : Nat) (o : Oper), ops[j]? = some o → ∃ d, o.dst = some d)
    (arms : ∀ (j : Nat) (o : Oper), ops[j]? = some o → ArmO P H ops (dstsN ops ops.size) a0 w0 j o)
    (he : ∀ a w, Jg H ops ops.size a0 w0 (listedN ops.size 0) a w → Q .normal a w) :
    ∀ fuel listed a w, Jg H ops ops.size a0 w0 listed a w → unl listed = fuel → wpAny P .any ops Q fuel listed a w := by
  intro fuel
  induction fuel with
  | zero =>
    intro listed a w h hu
    have hall : ∀ j, j < ops.size → listed.getD j false = true := fun j hj => by
      have hjl : j < listed.size := by rw [h.lsize]; omega
      rcases hb' : listed.getD j false with _ | _
      · exfalso
        have hm : false ∈ listed.toList := by
          rw [Array.getD_eq_getD_getElem?, Array.getElem?_eq_getElem hjl] at hb'
          have hb'' : listed[j] = false := hb'
          rw [← hb'']
          exact Array.mem_toList_iff.2 (Array.getElem_mem hjl)
        have := List.count_pos_iff.2 hm
        unfold unl at hu
        omega
      · rfl
    have e := listed_is h.lsize (Nat.le_refl _) hall (fun j hj => h.tail j hj)
    rw [Nat.sub_self] at e
    refine ⟨?_, he a w (e ▸ h)⟩
    rcases hl : Region.ready .any ops listed with _ | ⟨i, rest⟩
    · rfl
    · obtain ⟨h0, o, ho, _⟩ := (mem_ready (j := i)).1 (by rw [hl]; exact List.mem_cons_self)
      have := unl_set h0
      omega
  | succ fuel ih =>
    intro listed a w h hu
    refine ⟨fun hr => ?_, fun i hi => ?_⟩
    · have hall : ∀ j, j < ops.size → listed.getD j false = true := fun j hj => all_listed h.lsize (fun i o hi e he hb => acyc_spec hac i o hi e he hb) hr j hj
      have e := listed_is h.lsize (Nat.le_refl _) hall (fun j hj => h.tail j hj)
      rw [Nat.sub_self] at e
      exact he a w (e ▸ h)
    · obtain ⟨h0, o, ho, ha⟩ := mem_ready.1 hi
      have hin : i < ops.size := (Array.getElem?_eq_some_iff.1 ho).1
      obtain ⟨d, hd'⟩ := hd i o ho
      obtain ⟨hg, harm⟩ := arms i o ho
      have hw : Region.wanted o (yielded ops a.tmps) = true := by
        rcases hg with hg | ⟨g, dg, b, hg, hgd, hgb⟩
        · simp [Region.wanted, hg]
        · obtain ⟨og, hog, hdg, hlg⟩ := edge_at h ha hgd
          have hgn : g < ops.size := (Array.getElem?_eq_some_iff.1 hog).1
          rw [wanted_of hg hog hdg (by rw [h.size]; exact hb _ (mem_dsts hog hdg hgn)) (hgb _ _ (h.slots g og dg hog hdg hlg))]
          cases b <;> rfl
      refine goes_wpOpG ho hw (harm a w h.bel h.keep (fun k dk hk => ?_)) (fun v w' hv => ?_)
      · obtain ⟨ok, hok, hdk, hlk⟩ := edge_at h ha hk
        exact h.slots k ok dk hok hdk hlk
      · refine ih _ _ _ (h.step hn hb ho hin hd' ha hv.1 hv.2) ?_
        have := unl_set h0
        omega
theorem wp_region_all {id : Nat} (N : Nat) (H : Nat → Gp) (ds : List Nat) (hN : ops.size = N) (hds : dstsN ops N = ds) (hm : P.follows .mixedOrders = true) (hac : acyc ops = true) (hon : onceG ops N a0.tmps.size = true)
    (arms : AllFrom (ArmO P H ops ds a0 w0) 0 ops.toList)
    (he : ∀ (u : Nat → Value) w, (∀ j d, j < N → ops[j]?.bind (·.dst) = some d → (H j).p w (u d)) → Below w0.heap.size w0 w → Q .normal (putAll u ds a0) w) : (Code.region id ops true).wp P Q a0 w0 := by
  subst hN
  subst hds
  unfold onceG at hon
  rw [Bool.and_eq_true, Bool.and_eq_true, decide_eq_true_eq] at hon
  obtain ⟨⟨hon1, hon2⟩, hon3⟩ := hon
  have hb : ∀ d ∈ dstsN ops ops.size, d < a0.tmps.size := fun d hd => by simpa using List.all_eq_true.1 hon1 d hd
  have hdd : ∀ (j : Nat) (o : Oper), ops[j]? = some o → ∃ d, o.dst = some d := fun j o hj => by
    have := List.all_eq_true.1 hon3 j (List.mem_range.2 (Array.getElem?_eq_some_iff.1 hj).1)
    rw [hj] at this
    exact Option.isSome_iff_exists.1 this
  have hl : ∀ j, (Array.replicate ops.size false).getD j false = false := fun j => by
    rw [Array.getD_eq_getD_getElem?, Array.getElem?_replicate]
    split <;> rfl
  refine wp_region_any hm (wpAny_all (H := H) (w0 := w0) hac hon2 hb hdd (fun j o hj => ?_) (fun a w h => ?_) ops.size _ a0 _ ⟨rfl, rfl, fun _ _ => rfl, by simp, fun j o d hj hd h => ?_, fun j o hj h => ?_, (Below.refl _ w0).drew, fun j _ => hl j⟩ ?_)
  · have := AllFrom.get arms j o (by rw [Array.getElem?_toList]; exact hj)
    rwa [Nat.zero_add] at this
  · have e := act_putAll h.size h.defers h.keep
    rw [e]
    refine he _ w (fun j d hj hjd => ?_) h.bel
    obtain ⟨o, ho, hod⟩ := Option.bind_eq_some_iff.1 hjd
    refine h.slots j o d ho hod ?_
    unfold listedN
    rw [Array.getD_eq_getD_getElem?, List.getElem?_toArray, List.getElem?_append_left (by simpa using hj), List.getElem?_replicate, if_pos hj]
    rfl
  · rw [hl] at h; cases h
  · rw [hl] at h; cases h
  · unfold unl
    rw [Array.toList_replicate, List.count_replicate]
    simp
end
section
variable {P : Program} {a : Act} {w : World} {ty : TypeId} {R : Value → World → Prop}
theorem run_callN {f : FuncId} {args : Array Operand} {ts : Array TypeId} {vals : Array Value} (h : args.map a.eval = vals) (hcf : (callFunc f vals).run P w = .ok (.enter f vals) w) : (execOp a.eval (sop (.call { callee := .value (.func f), args := args, argTypes := ts }) ty)).run P w = .ok (.enter f vals) w := by
  subst h
  generalize hρ : a.eval = ρ at hcf ⊢
  have hf : ρ (.func f) = .func (.func f) #[] #[] := by rw [← hρ]; rfl
  clear hρ
  unfold execOp sop
  simp [resolve, invoke, hf, Deferred.ofValue, hcf]
theorem goes_callN {f : FuncId} {args : Array Operand} {ts : Array TypeId} (vals : Array Value) (h : args.map a.eval = vals) (hcf : (callFunc f vals).run P w = .ok (.enter f vals) w) (hC : Calls P f vals w fun e w' => ∃ v, e = .returned v ∧ R v w' ∧ Below w.heap.size w w') : Goes P a w (.call { callee := .value (.func f), args := args, argTypes := ts }) ty (fun v w' => R v w' ∧ Below w.heap.size w w') := .inr ⟨f, vals, run_callN h hcf, hC⟩
theorem run_notV {ρ : Operand → Value} {x : Operand} {t : TypeId} {b : Bool} (h : ρ x = .bool b) : (execOp ρ (sop (.unOp .not t x) ty)).run P w = .ok (.value (.bool !b)) w := by
  unfold execOp sop
  simp only [h]
  go_simp
theorem goes_assign {x : Operand} {v : Value} (h : a.eval x = v) (hR : R v w) : Goes P a w (.assign x) ty (fun v w' => R v w' ∧ Below w.heap.size w w') := by
  subst h; exact goes_val (x_assign _ _ _ _) hR
end
end Go.Proofs.Ytkmbkihfdilmbaa
