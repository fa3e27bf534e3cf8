/- The examples of the chapter; a list's number at its ends. Conditions: none. -/
import Derived.Test.YtaeoccpjdjafnaaGreatBaseAA
import Derived.OwnWalk
import Derived.Deep.Slices
import Derived.Test.YtaeoccpjdjafnaaGreatBaseAC
import Derived.StillTail
import Derived.Below
import Derived.WalkKit
import Derived.Test.YtaeoccpjdjafnaaGreatBaseAF
import Derived.Laws.OwnMore
import Derived.Test.YtaeoccpjdjafnaaGreatRows
import Derived.Deep.RegionHeld3
import Derived.Deep.CutRange
import Derived.BigQuiet
import Derived.WalkLawsBesides
import Derived.ProofKit
import Derived.OpenShut
import Derived.ShutString
import Derived.ChangeOld
import Derived.SizedLaws
namespace Go.Proofs.YtaeoccpjdjafnaaGreat
open Go.RowKit

theorem info_u8k : (Tryz.prog.info? 5).map (fun i => (i.zero, i.size, i.bytes)) = some (some (.int .u8 0), 1, 1) := by kernel_rfl
/-- a row of so many noughts -/
def zeros (n : Nat) : List Nat := List.replicate n 0
theorem zeros_length (n : Nat) : (zeros n).length = n := by simp [zeros]
theorem zeros_small (n : Nat) : ∀ x ∈ zeros n, x < 256 := by intro x hx; have := (List.mem_replicate.1 hx).2; omega
def zeroRow (n : Nat) : Array Value := (bytes (zeros n)).toArray
theorem make_any (n : Nat) (hn : n ≤ 65536) (W : World) : (Instr.makeSlice 35 (.int .i64 (n : Int)) (.int .i64 (n : Int))).run Tryz.prog W = .ok (.slice (some ⟨W.heap.size, 0, none⟩) n n) (W.alloc (.cells (zeroRow n) 5)) := by
  obtain ⟨i0, hi, hz0, hz1, hz2⟩ := info_parts info_u8k
  have h := run_make (P := Tryz.prog) W 35 5 i0 (.int .u8 0) Tryz.underlying35 hi hz0 .i64 .i64 n n (by omega) (by omega) (by rw [hz2]; omega) (by omega)
  rw [Int.toNat_natCast, hz1, Nat.mul_one] at h
  rw [h]
  have e : madeCells (Value.int .u8 0).cells n = zeroRow n := by
    apply Array.toList_inj.1
    rw [show (Value.int .u8 0).cells = #[Value.int .u8 0] from rfl, toList_madeCells_one]
    simp [zeroRow, zeros, bytes]
  rw [e]
end Go.Proofs.YtaeoccpjdjafnaaGreat
namespace Go.Proofs.YtaeoccpjdjafnaaGreat
open Go Go.RowKit
set_option maxRecDepth 100000
set_option linter.unusedVariables false

/-- what is known of an operation's value, and stays so as the heap grows -/
structure Gp where
  p : World → Value → Prop
  mono : ∀ w w' v, p w v → Below w.heap.size w w' → p w' v
def Gp.any : Gp := ⟨fun _ _ => True, fun _ _ _ _ _ => trivial⟩
def Gp.is (v0 : Value) : Gp := ⟨fun _ v => v = v0, fun _ _ _ h _ => h⟩
/-- a new row -/
def Gp.row (lo : Nat) (n : Nat) (cs : Array Value) (t : TypeId) : Gp := ⟨fun w v => ∃ b, lo ≤ b ∧ v = .slice (some ⟨b, 0, none⟩) n n ∧ w.heap[b]? = some (.cells cs t (0, 0)), fun w w' v ⟨b, h0, h1, h2⟩ hb => ⟨b, h0, h1, (hb.block b (Array.getElem?_eq_some_iff.1 h2).1).trans h2⟩⟩
/-- a new box -/
def Gp.box (lo : Nat) (cs : Array Value) (t : TypeId) : Gp := ⟨fun w v => ∃ b, lo ≤ b ∧ v = .pointer (some ⟨b, 0, none⟩) ∧ w.heap[b]? = some (.cells cs t (0, 0)), fun w w' v ⟨b, h0, h1, h2⟩ hb => ⟨b, h0, h1, (hb.block b (Array.getElem?_eq_some_iff.1 h2).1).trans h2⟩⟩

/-- the slots that the first n operations write -/
def dstsN (ops : Array Oper) (n : Nat) : List Nat := (ops.toList.take n).filterMap (·.dst)
def putAll (u : Nat → Value) (ds : List Nat) (a : Act) : Act := ds.foldl (fun a d => a.put (some d) (u d)) a
theorem putAll_size (u : Nat → Value) : ∀ (ds : List Nat) (a : Act), (putAll u ds a).tmps.size = a.tmps.size := by
  intro ds
  induction ds with
  | nil => intro a; rfl
  | cons d ds ih => intro a; show (putAll u ds (a.put (some d) (u d))).tmps.size = _; rw [ih]; simp [Act.put]
theorem putAll_defers (u : Nat → Value) : ∀ (ds : List Nat) (a : Act), (putAll u ds a).defers = a.defers := by
  intro ds
  induction ds with
  | nil => intro a; rfl
  | cons d ds ih => intro a; show (putAll u ds (a.put (some d) (u d))).defers = _; rw [ih]; rfl
theorem putAll_get (u : Nat → Value) : ∀ (ds : List Nat) (a : Act) (i : Nat), i < a.tmps.size → (putAll u ds a).tmps[i]? = if i ∈ ds then some (u i) else a.tmps[i]? := by
  intro ds
  induction ds with
  | nil => intro a i _; simp [putAll]
  | cons d ds ih =>
    intro a i hi
    show (putAll u ds (a.put (some d) (u d))).tmps[i]? = _
    rw [ih _ _ (by simp [Act.put]; exact hi)]
    by_cases h : i ∈ ds
    · rw [if_pos h, if_pos (List.mem_cons_of_mem _ h)]
    · rw [if_neg h]
      by_cases e : i = d
      · subst e
        rw [if_pos List.mem_cons_self]
        simp [Act.put, hi]
      · rw [if_neg (by simp [e, h])]
        simp [Act.put, Array.getElem?_setIfInBounds_ne (Ne.symm e)]
theorem act_putAll {a a0 : Act} {ds : List Nat} (hsz : a.tmps.size = a0.tmps.size) (hdf : a.defers = a0.defers) (hk : ∀ s, s ∉ ds → a.eval (.tmp s) = a0.eval (.tmp s)) : a = putAll (fun d => a.eval (.tmp d)) ds a0 := by
  obtain ⟨t, df⟩ := a
  obtain ⟨t0, df0⟩ := a0
  have h1 : t = (putAll (fun d => (⟨t, df⟩ : Act).eval (.tmp d)) ds ⟨t0, df0⟩).tmps := by
    apply Array.ext_getElem?
    intro i
    by_cases hi : i < t0.size
    · rw [putAll_get _ _ _ _ hi]
      have hi' : i < t.size := by have : t.size = t0.size := hsz; omega
      by_cases h : i ∈ ds
      · rw [if_pos h]
        simp [Act.eval, hi']
      · rw [if_neg h]
        have := hk i h
        simp only [Act.eval, Array.getD_eq_getD_getElem?] at this
        rw [Array.getElem?_eq_getElem hi', Array.getElem?_eq_getElem hi] at this ⊢
        exact congrArg some this
    · rw [Array.getElem?_eq_none (by have : t.size = t0.size := hsz; omega), Array.getElem?_eq_none (by rw [putAll_size]; show t0.size ≤ i; omega)]
  have h2 : df = (putAll (fun d => (⟨t, df⟩ : Act).eval (.tmp d)) ds ⟨t0, df0⟩).defers := by rw [putAll_defers]; exact hdf
  rcases hp : putAll (fun d => (⟨t, df⟩ : Act).eval (.tmp d)) ds ⟨t0, df0⟩ with ⟨t1, d1⟩
  rw [hp] at h1 h2
  rw [h1, h2]
def listedN (n m : Nat) : Array Bool := (List.replicate n true ++ List.replicate m false).toArray
/-- operation i waits for j, or for one that does -/
def reachB (ops : Array Oper) : Nat → Nat → Nat → Bool
  | 0, _, _ => false
  | f + 1, i, j => match ops[i]? with
    | some o => o.after.any fun e => Region.binds .any e && (decide (e.on = j) || reachB ops f e.on j)
    | none => false
/-- each operation from n on waits for all ahead of n -/
def sinkG (ops : Array Oper) (n : Nat) : Bool := (List.range ops.size).all fun i => decide (i < n) || (List.range n).all fun j => reachB ops ops.size i j
/-- no slot is written twice, none beyond nt -/
def onceG (ops : Array Oper) (n nt : Nat) : Bool := (dstsN ops n).all (fun d => decide (d < nt)) && decide (dstsN ops n).Nodup && (List.range n).all fun j => match ops[j]? with
  | some o => o.dst.isSome
  | none => true
def edgeB (ops : Array Oper) (o : Oper) (i d : Nat) : Bool := (o.after.any fun e => Region.binds .any e && decide (e.on = i)) && decide (ops[i]?.bind (·.dst) = some d)
/-- what operation j must do -/
def ArmG (P : Program) (H : Nat → Gp) (ops : Array Oper) (ds : List Nat) (a0 : Act) (w0 : World) (j : Nat) (o : Oper) : Prop :=
  o.guard = none ∧ ∀ a w, Below w0.heap.size w0 w → (∀ s, s ∉ ds → a.eval (.tmp s) = a0.eval (.tmp s)) → (∀ i d, edgeB ops o i d = true → (H i).p w (a.eval (.tmp d))) →
    Goes P a w o.op o.type (fun v w' => (H j).p w' v ∧ Below w.heap.size w w')
structure Jg (H : Nat → Gp) (ops : Array Oper) (n : Nat) (a0 : Act) (w0 : World) (listed : Array Bool) (a : Act) (w : World) : Prop where
  size : a.tmps.size = a0.tmps.size
  defers : a.defers = a0.defers
  keep : ∀ s, s ∉ dstsN ops n → a.eval (.tmp s) = a0.eval (.tmp s)
  lsize : listed.size = ops.size
  slots : ∀ j o d, ops[j]? = some o → o.dst = some d → listed.getD j false = true → (H j).p w (a.eval (.tmp d))
  clos : ∀ j o, ops[j]? = some o → listed.getD j false = true → ∀ e ∈ o.after, Region.binds .any e = true → listed.getD e.on false = true
  bel : Below w0.heap.size w0 w
  tail : ∀ j, n ≤ j → listed.getD j false = false
theorem mem_dsts {ops : Array Oper} {n j d : Nat} {o : Oper} (hj : ops[j]? = some o) (hd : o.dst = some d) (hn : j < n) : d ∈ dstsN ops n := by
  refine List.mem_filterMap.2 ⟨o, ?_, hd⟩
  have : (ops.toList.take n)[j]? = some o := by rw [List.getElem?_take, if_pos hn, Array.getElem?_toList]; exact hj
  exact List.mem_of_getElem? this
theorem dst_once {l : List Oper} (h : (l.filterMap (·.dst)).Nodup) : ∀ {i j : Nat} {o o' : Oper} {d : Nat}, l[i]? = some o → l[j]? = some o' → o.dst = some d → o'.dst = some d → i = j := by
  induction l with
  | nil => intro i j o o' d h1; simp at h1
  | cons x l ih =>
    intro i j o o' d h1 h2 h3 h4
    have hm : ∀ {k : Nat} {y : Oper}, l[k]? = some y → y.dst = some d → d ∈ l.filterMap (·.dst) := fun hk hy => List.mem_filterMap.2 ⟨_, List.mem_of_getElem? hk, hy⟩
    have hl : (l.filterMap (·.dst)).Nodup := by
      rcases hx : x.dst with _ | dx
      · rw [List.filterMap_cons_none hx] at h; exact h
      · rw [List.filterMap_cons_some hx] at h; exact (List.nodup_cons.1 h).2
    rcases i with _ | i
    · rcases j with _ | j
      · rfl
      · simp at h1 h2
        subst h1
        rw [List.filterMap_cons_some h3] at h
        exact absurd (hm h2 h4) (List.nodup_cons.1 h).1
    · rcases j with _ | j
      · simp at h1 h2
        subst h2
        rw [List.filterMap_cons_some h4] at h
        exact absurd (hm h1 h3) (List.nodup_cons.1 h).1
      · simp at h1 h2
        rw [ih hl h1 h2 h3 h4]
theorem once_of {ops : Array Oper} {n i j d : Nat} {o o' : Oper} (h : (dstsN ops n).Nodup) (hi : ops[i]? = some o) (hj : ops[j]? = some o') (hin : i < n) (hjn : j < n) (h1 : o.dst = some d) (h2 : o'.dst = some d) : i = j := by
  have t : ∀ {k : Nat} {y : Oper}, ops[k]? = some y → k < n → (ops.toList.take n)[k]? = some y := fun hk hn => by rw [List.getElem?_take, if_pos hn, Array.getElem?_toList]; exact hk
  exact dst_once h (t hi hin) (t hj hjn) h1 h2
section
variable {P : Program} {H : Nat → Gp} {ops : Array Oper} {n : Nat} {a0 : Act} {w0 : World} {Q : Exit → Act → World → Prop}
theorem Jg.step (hn : (dstsN ops n).Nodup) (hb : ∀ d ∈ dstsN ops n, d < a0.tmps.size) {listed : Array Bool} {a : Act} {w w' : World} {v : Value} (h : Jg H ops n a0 w0 listed a w) {i : Nat} {o : Oper} (hi : ops[i]? = some o) (hin : i < n) {d : Nat} (hd : o.dst = some d) (ha : ∀ e ∈ o.after, Region.binds .any e = true → listed.getD e.on false = true)
    (hv : (H i).p w' v) (hw : Below w.heap.size w w') : Jg H ops n a0 w0 (listed.setIfInBounds i true) (a.put o.dst v) w' := by
  have his : i < listed.size := by rw [h.lsize]; exact (Array.getElem?_eq_some_iff.1 hi).1
  have hdm := mem_dsts hi hd hin
  refine ⟨by rw [hd]; simp [Act.put, h.size], by rw [hd]; exact h.defers, fun s hs => ?_, by simp [h.lsize], fun m om dm hm hdm' hl => ?_, fun m om hm hl e he hb => ?_, h.bel.trans (hw.mono h.bel.size), fun m hm => ?_⟩
  · rw [evput_ne a v (by rw [hd]; intro e; injection e with e; subst e; exact hs hdm)]
    exact h.keep s hs
  · rw [listed_set _ _ _ his] at hl
    by_cases e : m = i
    · subst e
      rw [hi] at hm
      obtain rfl := Option.some.inj hm
      rw [hd] at hdm'
      obtain rfl := Option.some.inj hdm'
      rw [hd, evput_self a v (by rw [h.size]; exact hb _ hdm)]
      exact hv
    · rw [if_neg e] at hl
      have hmn : m < n := by
        rcases Nat.lt_or_ge m n with h' | h'
        · exact h'
        · rw [h.tail m h'] at hl; cases hl
      rw [evput_ne a v (fun e' => e (once_of hn hm hi hmn hin hdm' (by rw [e'])))]
      exact (H m).mono _ _ _ (h.slots m om dm hm hdm' hl) hw
  · rw [listed_set _ _ _ his] at hl ⊢
    by_cases e1 : e.on = i
    · rw [if_pos e1]
    · rw [if_neg e1]
      by_cases e2 : m = i
      · subst e2
        rw [hi] at hm
        obtain rfl := Option.some.inj hm
        exact ha e he hb
      · rw [if_neg e2] at hl
        exact h.clos m om hm hl e he hb
  · rw [listed_set _ _ _ his, if_neg (by omega)]; exact h.tail m hm
theorem reach_listed {listed : Array Bool} (hc : ∀ j o, ops[j]? = some o → listed.getD j false = true → ∀ e ∈ o.after, Region.binds .any e = true → listed.getD e.on false = true) {j : Nat} : ∀ (f i : Nat) (o : Oper), ops[i]? = some o → (∀ e ∈ o.after, Region.binds .any e = true → listed.getD e.on false = true) → reachB ops f i j = true → listed.getD j false = true := by
  intro f
  induction f with
  | zero => intro i o _ _ h; cases h
  | succ f ih =>
    intro i o hi ha h
    unfold reachB at h
    rw [hi] at h
    obtain ⟨k, hk, h3⟩ := Array.any_eq_true.1 h
    rw [Bool.and_eq_true, Bool.or_eq_true, decide_eq_true_eq] at h3
    have hl := ha _ (Array.getElem_mem hk) h3.1
    rcases h3.2 with h4 | h4
    · rw [← h4]; exact hl
    · rcases ho : ops[(o.after[k]).on]? with _ | o2
      · cases f with
        | zero => cases h4
        | succ f => unfold reachB at h4; rw [ho] at h4; cases h4
      · exact ih _ o2 ho (fun e he hb => hc _ o2 ho hl e he hb) h4
theorem sinkG_spec (h : sinkG ops n = true) {i : Nat} {o : Oper} (hi : ops[i]? = some o) (hn : n ≤ i) {j : Nat} (hj : j < n) : reachB ops ops.size i j = true := by
  have h1 := List.all_eq_true.1 h i (List.mem_range.2 (Array.getElem?_eq_some_iff.1 hi).1)
  simp only [Bool.or_eq_true, decide_eq_true_eq] at h1
  rcases h1 with h1 | h1
  · omega
  · exact List.all_eq_true.1 h1 j (List.mem_range.2 hj)
theorem listed_is {listed : Array Bool} (hsz : listed.size = ops.size) (hn : n ≤ ops.size) (h1 : ∀ j, j < n → listed.getD j false = true) (h2 : ∀ j, n ≤ j → listed.getD j false = false) : listed = listedN n (ops.size - n) := by
  apply Array.ext_getElem?
  intro i
  rw [show (listedN n (ops.size - n))[i]? = (List.replicate n true ++ List.replicate (ops.size - n) false)[i]? from List.getElem?_toArray]
  by_cases hi : i < n
  · rw [List.getElem?_append_left (by simpa using hi), List.getElem?_replicate, if_pos hi]
    have := h1 i hi
    have hl : i < listed.size := by omega
    rw [Array.getD_eq_getD_getElem?, Array.getElem?_eq_getElem hl] at this
    rw [Array.getElem?_eq_getElem hl]
    exact congrArg some this
  · rw [List.getElem?_append_right (by simp; omega), List.length_replicate, List.getElem?_replicate]
    have := h2 i (by omega)
    by_cases hl : i < listed.size
    · rw [Array.getD_eq_getD_getElem?, Array.getElem?_eq_getElem hl] at this
      rw [Array.getElem?_eq_getElem hl, if_pos (by omega)]
      exact congrArg some this
    · rw [Array.getElem?_eq_none (by omega), if_neg (by omega)]
theorem unl_N (n m : Nat) : unl (listedN n m) = m := by
  unfold unl listedN
  rw [List.count_append, List.count_replicate, List.count_replicate]
  simp
theorem wpAny_grow (hac : acyc ops = true) (hsink : sinkG ops n = true) (hns : n ≤ ops.size) (hn : (dstsN ops n).Nodup) (hb : ∀ d ∈ dstsN ops n, d < a0.tmps.size) (hd : ∀ j o, ops[j]? = some o → j < n → ∃ d, o.dst = some d)
    (arms : ∀ j o, ops[j]? = some o → j < n → ArmG P H ops (dstsN ops n) a0 w0 j o)
    (he : ∀ a w, Jg H ops n a0 w0 (listedN n (ops.size - n)) a w → wpAny P .any ops Q (ops.size - n) (listedN n (ops.size - n)) a w) :
    ∀ fuel listed a w, Jg H ops n a0 w0 listed a w → unl listed = fuel → wpAny P .any ops Q fuel listed a w := by
  intro fuel
  induction fuel with
  | zero =>
    intro listed a w h hu
    have hall : ∀ j, j < n → listed.getD j false = true := fun j hj => by
      have hjl : j < listed.size := by rw [h.lsize]; omega
      rcases hb' : listed.getD j false with _ | _
      · exfalso
        have hm : false ∈ listed.toList := by
          rw [Array.getD_eq_getD_getElem?, Array.getElem?_eq_getElem hjl] at hb'
          have hb'' : listed[j] = false := hb'
          rw [← hb'']
          exact Array.mem_toList_iff.2 (Array.getElem_mem hjl)
        have := List.count_pos_iff.2 hm
        unfold unl at hu
        omega
      · rfl
    have e := listed_is h.lsize hns hall h.tail
    have hz : ops.size - n = 0 := by rw [e, unl_N] at hu; exact hu
    have := he a w (e ▸ h)
    rw [hz] at this
    rw [e, hz]
    exact this
  | succ fuel ih =>
    intro listed a w h hu
    by_cases hall : ∀ j, j < n → listed.getD j false = true
    · have e := listed_is h.lsize hns hall h.tail
      have hz : fuel + 1 = ops.size - n := by rw [e, unl_N] at hu; exact hu.symm
      rw [hz, e]
      exact he a w (e ▸ h)
    · refine ⟨fun hr => absurd (fun j hj => all_listed h.lsize (fun i o hi e he hb => acyc_spec hac i o hi e he hb) hr j (by omega)) hall, fun i hi => ?_⟩
      obtain ⟨h0, o, ho, ha⟩ := mem_ready.1 hi
      have hin : i < n := by
        rcases Nat.lt_or_ge i n with h' | h'
        · exact h'
        · refine absurd (fun j hj => ?_) hall
          exact reach_listed h.clos _ i o ho ha (sinkG_spec hsink ho h' hj)
      obtain ⟨d, hd⟩ := hd i o ho hin
      obtain ⟨hg, harm⟩ := arms i o ho hin
      refine Goes.wpOp ho hg (harm a w h.bel h.keep (fun k dk hk => ?_)) (fun v w' hv => ?_)
      · unfold edgeB at hk
        rw [Bool.and_eq_true, decide_eq_true_eq] at hk
        obtain ⟨q, hq, h3⟩ := Array.any_eq_true.1 hk.1
        rw [Bool.and_eq_true, decide_eq_true_eq] at h3
        obtain ⟨ok, hok, hdk⟩ := Option.bind_eq_some_iff.1 hk.2
        exact h.slots k ok dk hok hdk (h3.2 ▸ ha _ (Array.getElem_mem hq) h3.1)
      · refine ih _ _ _ (h.step hn hb ho hin hd ha hv.1 hv.2) ?_
        have := unl_set h0
        omega
/-- the law -/
theorem wp_region_grow {id : Nat} (n : Nat) (H : Nat → Gp) (ds : List Nat) (tl : List Oper) (hds : dstsN ops n = ds) (htl : ops.toList.drop n = tl) (hm : P.follows .mixedOrders = true) (hac : acyc ops = true) (hsink : sinkG ops n = true) (hns : n ≤ ops.size) (hon : onceG ops n a0.tmps.size = true) (hseq : Region.seqB .any ops (ops.size - n) n (listedN n (ops.size - n)) = true)
    (arms : AllFrom (ArmG P H ops ds a0 w0) 0 (ops.toList.take n))
    (he : ∀ (u : Nat → Value) w, (∀ j d, j < n → ops[j]?.bind (·.dst) = some d → (H j).p w (u d)) → Below w0.heap.size w0 w → wpList P ops Q tl (putAll u ds a0) w) : (Code.region id ops true).wp P Q a0 w0 := by
  subst hds htl
  unfold onceG at hon
  rw [Bool.and_eq_true, Bool.and_eq_true, decide_eq_true_eq] at hon
  obtain ⟨⟨hon1, hon2⟩, hon3⟩ := hon
  have hb : ∀ d ∈ dstsN ops n, d < a0.tmps.size := fun d hd => by simpa using List.all_eq_true.1 hon1 d hd
  have hdd : ∀ j o, ops[j]? = some o → j < n → ∃ d, o.dst = some d := fun j o hj hn => by
    have := List.all_eq_true.1 hon3 j (List.mem_range.2 hn)
    rw [hj] at this
    exact Option.isSome_iff_exists.1 this
  have hl : ∀ j, (Array.replicate ops.size false).getD j false = false := fun j => by
    rw [Array.getD_eq_getD_getElem?, Array.getElem?_replicate]
    split <;> rfl
  refine wp_region_any hm (wpAny_grow (H := H) (w0 := w0) hac hsink hns hon2 hb hdd (fun j o hj hn => ?_) (fun a w h => ?_) ops.size _ a0 _ ⟨rfl, rfl, fun _ _ => rfl, by simp, fun j o d hj hd h => ?_, fun j o hj h => ?_, (Below.refl _ w0).drew, fun j _ => hl j⟩ ?_)
  · have := AllFrom.get arms j o (by rw [List.getElem?_take, if_pos hn, Array.getElem?_toList]; exact hj)
    rwa [Nat.zero_add] at this
  · have hlen : (ops.toList.drop n).length = ops.size - n := by simp
    have hlN : (listedN n (ops.size - n)) = listedN n (ops.size - n) := rfl
    rw [← hlen]
    refine wpAny_of_seq (ops.toList.drop n) n _ a w (fun j => by rw [List.getElem?_drop, Array.getElem?_toList]) (by rw [hlen]; exact hseq) ?_
    have e := act_putAll h.size h.defers h.keep
    rw [e]
    refine he _ w (fun j d hj hjd => ?_) h.bel
    obtain ⟨o, ho, hod⟩ := Option.bind_eq_some_iff.1 hjd
    refine h.slots j o d ho hod ?_
    unfold listedN
    rw [Array.getD_eq_getD_getElem?, List.getElem?_toArray, List.getElem?_append_left (by simpa using hj), List.getElem?_replicate, if_pos hj]
    rfl
  · rw [hl] at h; cases h
  · rw [hl] at h; cases h
  · unfold unl
    rw [Array.toList_replicate, List.count_replicate]
    simp
end
end Go.Proofs.YtaeoccpjdjafnaaGreat
namespace Go.Proofs.YtaeoccpjdjafnaaGreat
open Go Go.RowKit
set_option maxRecDepth 100000
set_option linter.unusedVariables false
theorem ev_const0 (a : Act) (v : Value) : a.eval (.const v) = v := rfl
section
variable {P : Program} {a : Act} {w w' : World} {ty : TypeId} {R : Value → World → Prop} {op : Op} {v : Value}
theorem goes_val (h : (execOp a.eval (sop op ty)).run P w = .ok (.value v) w) (hR : R v w) : Goes P a w op ty (fun v w' => R v w' ∧ Below w.heap.size w w') := .inl ⟨v, w, h, hR, Below.refl _ _⟩
theorem goes_new {o : Obj} (h : (execOp a.eval (sop op ty)).run P w = .ok (.value v) (w.alloc o)) (hR : R v (w.alloc o)) : Goes P a w op ty (fun v w' => R v w' ∧ Below w.heap.size w w') := .inl ⟨v, _, h, hR, (Below.refl _ w).alloc (Nat.le_refl _) _⟩
theorem goes_move {x : Operand} (h : a.eval x = v) (hR : R v w) : Goes P a w (.move x) ty (fun v w' => R v w' ∧ Below w.heap.size w w') := by
  subst h; exact goes_val (x_move _ _ _ _) hR
theorem goes_index {t : TypeId} {x y : Operand} {v1 v2 : Value} (h1 : a.eval x = v1) (h2 : a.eval y = v2) (h : (Instr.indexAt t v1 v2).run P w = .ok v w) (hR : R v w) : Goes P a w (.indexAddr t x y) ty (fun v w' => R v w' ∧ Below w.heap.size w w') := by
  subst h1 h2; exact goes_val (x_index _ _ _ _ _ _ _ h) hR
theorem goes_load {t : TypeId} {x : Operand} {v1 : Value} (h1 : a.eval x = v1) (h : (Instr.loadAt t v1).run P w = .ok v w) (hR : R v w) : Goes P a w (.load t x) ty (fun v w' => R v w' ∧ Below w.heap.size w w') := by
  subst h1; exact goes_val (x_load _ _ _ _ _ _ h) hR
theorem goes_fad {t : TypeId} {x : Operand} {f : Nat} {v1 : Value} (h1 : a.eval x = v1) (h : (Instr.fieldAt t v1 f).run P w = .ok v w) (hR : R v w) : Goes P a w (.fieldAddr t x f) ty (fun v w' => R v w' ∧ Below w.heap.size w w') :=
  goes_val (run_fad h1 h) hR
theorem goes_build {t : TypeId} {parts : Array (Nat × Operand)} (cs : Array Value) (pv : List (Nat × Value)) (hpv : (parts.map fun (i, x) => (i, a.eval x)).toList = pv) (h : P.built t pv = some cs) (hR : R (.agg cs) w) : Goes P a w (.build t parts) ty (fun v w' => R v w' ∧ Below w.heap.size w w') := by
  subst hpv
  exact goes_val (x_build _ _ _ _ _ _ (run_build w _ _ _ h)) hR
theorem goes_slice {t e : TypeId} {n : Nat} {parts : Array (Nat × Operand)} (cs : Array Value) {i0 : TypeInfo} {z : Value} (sz : Nat) (hs : i0.size = sz) (hu : P.underlying t = some (.slice e)) (hi : P.info? e = some i0) (hz : i0.zero = some z) (hn : ¬ n * sz > 2 ^ 24) (hp : n * sz ≠ 0)
    (pv : List (Nat × Value)) (hpv : (parts.map fun (i, x) => (i, a.eval x)).toList = pv) (hf : Instr.fill (fun i => some (i * sz, sz)) ((Array.range (n * sz)).map (z.cells[· % z.cells.size]!)) pv = some cs) (hR : R (.slice (some ⟨w.heap.size, 0, none⟩) n n) (w.alloc (.cells cs e))) :
    Goes P a w (.buildSlice t n parts) ty (fun v w' => R v w' ∧ Below w.heap.size w w') := by
  subst hs hpv
  exact goes_new (x_slice _ _ _ _ _ _ _ _ (run_buildSlice w t e n _ cs i0 z hu hi hz hn hp hf)) hR
theorem run_ext {ρ : Operand → Value} {x : Operand} {i : Nat} {ty : TypeId} {w : World} {cs : Array Value} {v : Value} (h : ρ x = .tuple cs) (hv : cs[i]? = some v) : (execOp ρ (sop (.extract x i) ty)).run P w = .ok (.value v) w := by
  unfold execOp sop; simp only [h]; go_simp
theorem goes_ext {x : Operand} {i : Nat} {cs : Array Value} (h : a.eval x = .tuple cs) (hv : cs[i]? = some v) (hR : R v w) : Goes P a w (.extract x i) ty (fun v w' => R v w' ∧ Below w.heap.size w w') := goes_val (run_ext h hv) hR
theorem run_call0 {f : FuncId} (hcf : (callFunc f #[]).run P w = .ok (.enter f #[]) w) : (execOp a.eval (sop (.call { callee := .value (.func f), args := #[], argTypes := #[] }) ty)).run P w = .ok (.enter f #[]) w := by
  generalize hρ : a.eval = ρ
  have hf : ρ (.func f) = .func (.func f) #[] #[] := by rw [← hρ]; rfl
  clear hρ
  unfold execOp sop
  simp [resolve, invoke, hf, Deferred.ofValue, hcf]
theorem run_call2 {f : FuncId} {x y : Operand} {t u : TypeId} {v v2 : Value} (h : a.eval x = v) (h2 : a.eval y = v2) (hcf : (callFunc f #[v, v2]).run P w = .ok (.enter f #[v, v2]) w) : (execOp a.eval (sop (.call { callee := .value (.func f), args := #[x, y], argTypes := #[t, u] }) ty)).run P w = .ok (.enter f #[v, v2]) w := by
  generalize hρ : a.eval = ρ at h h2 ⊢
  have hf : ρ (.func f) = .func (.func f) #[] #[] := by rw [← hρ]; rfl
  clear hρ
  unfold execOp sop
  simp [resolve, invoke, h, h2, hf, Deferred.ofValue, hcf]
theorem goes_call0 {f : FuncId} (hcf : (callFunc f #[]).run P w = .ok (.enter f #[]) w) (h : Calls P f #[] w fun e w' => ∃ v, e = .returned v ∧ R v w' ∧ Below w.heap.size w w') : Goes P a w (.call { callee := .value (.func f), args := #[], argTypes := #[] }) ty (fun v w' => R v w' ∧ Below w.heap.size w w') := .inr ⟨f, #[], run_call0 hcf, h⟩
theorem goes_call1 {f : FuncId} {x : Operand} {t : TypeId} {v1 : Value} (h1 : a.eval x = v1) (hcf : (callFunc f #[v1]).run P w = .ok (.enter f #[v1]) w) (h : Calls P f #[v1] w fun e w' => ∃ v, e = .returned v ∧ R v w' ∧ Below w.heap.size w w') : Goes P a w (.call { callee := .value (.func f), args := #[x], argTypes := #[t] }) ty (fun v w' => R v w' ∧ Below w.heap.size w w') := .inr ⟨f, #[v1], run_call1 h1 hcf, h⟩
theorem goes_call2 {f : FuncId} {x y : Operand} {t u : TypeId} {v1 v2 : Value} (h1 : a.eval x = v1) (h2 : a.eval y = v2) (hcf : (callFunc f #[v1, v2]).run P w = .ok (.enter f #[v1, v2]) w) (h : Calls P f #[v1, v2] w fun e w' => ∃ v, e = .returned v ∧ R v w' ∧ Below w.heap.size w w') : Goes P a w (.call { callee := .value (.func f), args := #[x, y], argTypes := #[t, u] }) ty (fun v w' => R v w' ∧ Below w.heap.size w w') := .inr ⟨f, #[v1, v2], run_call2 h1 h2 hcf, h⟩
end
/-- something that holds a row that was made -/
def Gp.rowIn (lo : Nat) (g : Nat → Value) (cs : Array Value) (t : TypeId) : Gp := ⟨fun w v => ∃ b, lo ≤ b ∧ v = g b ∧ w.heap[b]? = some (.cells cs t (0, 0)), fun w w' v ⟨b, h0, h1, h2⟩ hb => ⟨b, h0, h1, (hb.block b (Array.getElem?_eq_some_iff.1 h2).1).trans h2⟩⟩
end Go.Proofs.YtaeoccpjdjafnaaGreat
namespace Go.Proofs.YtaeoccpjdjafnaaGreat
open Go Go.RowKit
set_option maxRecDepth 100000
set_option linter.unusedVariables false

/-- what is known around one store -/
structure Gs where
  H : Nat → Gp
  H2 : Nat → Value → Prop
  K : Value → World → Prop
  le : ∀ j w v, (H j).p w v → H2 j v
/-- no slot is written twice, none beyond nt; all but s write one -/
def onceS (ops : Array Oper) (s m nt : Nat) : Bool := (dstsN ops m).all (fun d => decide (d < nt)) && decide (dstsN ops m).Nodup && ((List.range m).all fun j => match ops[j]? with
  | some o => if j = s then o.dst.isNone else o.dst.isSome
  | none => true)
/-- what operation j must do, ahead of the store -/
def ArmS (P : Program) (C : Gs) (ops : Array Oper) (ds : List Nat) (s : Nat) (a0 : Act) (w0 : World) (j : Nat) (o : Oper) : Prop :=
  j = s ∨ (o.guard = none ∧ ∀ (a : Act) (w : World), Below w0.heap.size w0 w → (∀ s, s ∉ ds → a.eval (.tmp s) = a0.eval (.tmp s)) → (∀ i d, edgeB ops o i d = true → (C.H i).p w (a.eval (.tmp d))) →
    Goes P a w o.op o.type (fun v w' => (C.H j).p w' v ∧ Below w.heap.size w w'))
/-- what operation j must do behind the store, if it can come there -/
def ArmL (P : Program) (C : Gs) (ops : Array Oper) (s j : Nat) (o : Oper) : Prop :=
  j = s ∨ reachB ops ops.size s j = true ∨ (o.guard = none ∧ ∀ (a : Act) (w : World), (∀ i d, edgeB ops o i d = true → C.H2 i (a.eval (.tmp d))) → ∃ v, (execOp a.eval (sop o.op o.type)).run P w = .ok (.value v) w ∧ C.H2 j v)
structure Js (C : Gs) (ops : Array Oper) (s m db : Nat) (a0 : Act) (w0 : World) (listed : Array Bool) (a : Act) (w : World) : Prop where
  size : a.tmps.size = a0.tmps.size
  defers : a.defers = a0.defers
  keep : ∀ s, s ∉ dstsN ops m → a.eval (.tmp s) = a0.eval (.tmp s)
  lsize : listed.size = ops.size
  pre : listed.getD s false = false → (∀ j o d, ops[j]? = some o → o.dst = some d → listed.getD j false = true → (C.H j).p w (a.eval (.tmp d))) ∧ Below w0.heap.size w0 w
  post : listed.getD s false = true → (∀ j o d, ops[j]? = some o → o.dst = some d → listed.getD j false = true → C.H2 j (a.eval (.tmp d))) ∧ C.K (a.eval (.tmp db)) w
  clos : ∀ j o, ops[j]? = some o → listed.getD j false = true → ∀ e ∈ o.after, Region.binds .any e = true → listed.getD e.on false = true
  tail : ∀ j, m ≤ j → listed.getD j false = false
section
variable {P : Program} {C : Gs} {ops : Array Oper} {s m db : Nat} {a0 : Act} {w0 : World} {Q : Exit → Act → World → Prop}
/-- one operation but the store -/
theorem Js.step (hn : (dstsN ops m).Nodup) (hb : ∀ d ∈ dstsN ops m, d < a0.tmps.size) {jb : Nat} {ob : Oper} (hjb : ops[jb]? = some ob) (hdb : ob.dst = some db) (hjbm : jb < m) (hjbs : reachB ops ops.size s jb = true) {so : Oper} (hs : ops[s]? = some so)
    {listed : Array Bool} {a : Act} {w w' : World} {v : Value} (h : Js C ops s m db a0 w0 listed a w) {i : Nat} {o : Oper} (hi : ops[i]? = some o) (hin : i < m) (his : i ≠ s) {d : Nat} (hd : o.dst = some d) (ha : ∀ e ∈ o.after, Region.binds .any e = true → listed.getD e.on false = true) (hu : listed.getD i true = false)
    (hpre : listed.getD s false = false → (C.H i).p w' v ∧ Below w.heap.size w w') (hpost : listed.getD s false = true → C.H2 i v ∧ w' = w) : Js C ops s m db a0 w0 (listed.setIfInBounds i true) (a.put o.dst v) w' := by
  have hil : i < listed.size := by rw [h.lsize]; exact (Array.getElem?_eq_some_iff.1 hi).1
  have hdm := mem_dsts hi hd hin
  have hsl : (listed.setIfInBounds i true).getD s false = listed.getD s false := by rw [listed_set _ _ _ hil, if_neg (Ne.symm his)]
  have old : ∀ m' om dm, ops[m']? = some om → om.dst = some dm → (listed.setIfInBounds i true).getD m' false = true → m' ≠ i → listed.getD m' false = true ∧ (a.put o.dst v).eval (.tmp dm) = a.eval (.tmp dm) := fun m' om dm hm hdm' hl e => by
    rw [listed_set _ _ _ hil, if_neg e] at hl
    have hmn : m' < m := by
      rcases Nat.lt_or_ge m' m with h' | h'
      · exact h'
      · rw [h.tail m' h'] at hl; cases hl
    exact ⟨hl, evput_ne a v (fun e' => e (once_of hn hm hi hmn hin hdm' (by rw [e'])))⟩
  have new : (a.put o.dst v).eval (.tmp d) = v := by rw [hd]; exact evput_self a v (by rw [h.size]; exact hb _ hdm)
  refine ⟨by rw [hd]; simp [Act.put, h.size], by rw [hd]; exact h.defers, fun s' hs' => ?_, by simp [h.lsize], fun hf => ?_, fun hf => ?_, fun m' om hm hl e he hb => ?_, fun m' hm => ?_⟩
  · rw [evput_ne a v (by rw [hd]; intro e; injection e with e; subst e; exact hs' hdm)]
    exact h.keep s' hs'
  · rw [hsl] at hf
    obtain ⟨p1, p2⟩ := h.pre hf
    obtain ⟨q1, q2⟩ := hpre hf
    refine ⟨fun m' om dm hm hdm' hl => ?_, p2.trans (q2.mono p2.size)⟩
    by_cases e : m' = i
    · subst e
      rw [hi] at hm
      obtain rfl := Option.some.inj hm
      rw [hd] at hdm'
      obtain rfl := Option.some.inj hdm'
      rw [new]; exact q1
    · obtain ⟨r1, r2⟩ := old m' om dm hm hdm' hl e
      rw [r2]
      exact (C.H m').mono _ _ _ (p1 m' om dm hm hdm' r1) q2
  · rw [hsl] at hf
    obtain ⟨p1, p2⟩ := h.post hf
    obtain ⟨q1, rfl⟩ := hpost hf
    refine ⟨fun m' om dm hm hdm' hl => ?_, ?_⟩
    · by_cases e : m' = i
      · subst e
        rw [hi] at hm
        obtain rfl := Option.some.inj hm
        rw [hd] at hdm'
        obtain rfl := Option.some.inj hdm'
        rw [new]; exact q1
      · obtain ⟨r1, r2⟩ := old m' om dm hm hdm' hl e
        rw [r2]
        exact p1 m' om dm hm hdm' r1
    · have hjl : listed.getD jb false = true := reach_listed h.clos _ s so hs (fun e he hb => h.clos s so hs hf e he hb) hjbs
      have hne : jb ≠ i := fun e => by
        subst e
        rw [listed_no hu] at hjl; cases hjl
      rw [evput_ne a v (fun e' => hne (once_of hn hjb hi hjbm hin hdb (by rw [e'])))]
      exact p2
  · rw [listed_set _ _ _ hil] at hl ⊢
    by_cases e1 : e.on = i
    · rw [if_pos e1]
    · rw [if_neg e1]
      by_cases e2 : m' = i
      · subst e2
        rw [hi] at hm
        obtain rfl := Option.some.inj hm
        exact ha e he hb
      · rw [if_neg e2] at hl
        exact h.clos m' om hm hl e he hb
  · rw [listed_set _ _ _ hil, if_neg (by omega)]; exact h.tail m' hm
/-- the store -/
theorem Js.stored {listed : Array Bool} {a : Act} {w w' : World} (h : Js C ops s m db a0 w0 listed a w) {o : Oper} (hs : ops[s]? = some o) (hsm : s < m) (hd : o.dst = none) (hu : listed.getD s true = false) (ha : ∀ e ∈ o.after, Region.binds .any e = true → listed.getD e.on false = true)
    (hK : C.K (a.eval (.tmp db)) w') : Js C ops s m db a0 w0 (listed.setIfInBounds s true) (a.put o.dst undef) w' := by
  have hil : s < listed.size := by rw [h.lsize]; exact (Array.getElem?_eq_some_iff.1 hs).1
  have e0 : ∀ t : Nat, (a.put o.dst undef).eval (.tmp t) = a.eval (.tmp t) := fun t => by rw [hd]; rfl
  refine ⟨by rw [hd]; exact h.size, by rw [hd]; exact h.defers, fun s' hs' => by rw [e0]; exact h.keep s' hs', by simp [h.lsize], fun hf => ?_, fun _ => ?_, fun m' om hm hl e he hb => ?_, fun m' hm => ?_⟩
  · rw [listed_set _ _ _ hil, if_pos rfl] at hf; cases hf
  · refine ⟨fun m' om dm hm hdm' hl => ?_, by rw [e0]; exact hK⟩
    rw [listed_set _ _ _ hil] at hl
    by_cases e : m' = s
    · subst e
      rw [hs] at hm
      obtain rfl := Option.some.inj hm
      rw [hd] at hdm'; cases hdm'
    · rw [if_neg e] at hl
      rw [e0]
      exact C.le _ _ _ ((h.pre (listed_no hu)).1 m' om dm hm hdm' hl)
  · rw [listed_set _ _ _ hil] at hl ⊢
    by_cases e1 : e.on = s
    · rw [if_pos e1]
    · rw [if_neg e1]
      by_cases e2 : m' = s
      · subst e2
        rw [hs] at hm
        obtain rfl := Option.some.inj hm
        exact ha e he hb
      · rw [if_neg e2] at hl
        exact h.clos m' om hm hl e he hb
  · rw [listed_set _ _ _ hil, if_neg (by omega)]; exact h.tail m' hm
theorem wpAny_store (hac : acyc ops = true) (hsink : sinkG ops m = true) (hns : m ≤ ops.size) (hsm : s < m) (hn : (dstsN ops m).Nodup) (hb : ∀ d ∈ dstsN ops m, d < a0.tmps.size) (hd : ∀ j o, ops[j]? = some o → j < m → if j = s then o.dst = none else ∃ d, o.dst = some d)
    {jb : Nat} {ob : Oper} (hjb : ops[jb]? = some ob) (hdb : ob.dst = some db) (hjbm : jb < m) (hjbs : reachB ops ops.size s jb = true) {so : Oper} (hs : ops[s]? = some so) (hsg : so.guard = none)
    (arms : ∀ j o, ops[j]? = some o → j < m → ArmS P C ops (dstsN ops m) s a0 w0 j o) (late : ∀ j o, ops[j]? = some o → j < m → ArmL P C ops s j o)
    (store : ∀ (a : Act) (w : World), Below w0.heap.size w0 w → (∀ s, s ∉ dstsN ops m → a.eval (.tmp s) = a0.eval (.tmp s)) → (∀ j o d, ops[j]? = some o → o.dst = some d → reachB ops ops.size s j = true → (C.H j).p w (a.eval (.tmp d))) →
      ∃ w', (execOp a.eval (sop so.op so.type)).run P w = .ok .skip w' ∧ C.K (a.eval (.tmp db)) w')
    (he : ∀ a w, Js C ops s m db a0 w0 (listedN m (ops.size - m)) a w → wpAny P .any ops Q (ops.size - m) (listedN m (ops.size - m)) a w) :
    ∀ fuel listed a w, Js C ops s m db a0 w0 listed a w → unl listed = fuel → wpAny P .any ops Q fuel listed a w := by
  intro fuel
  induction fuel with
  | zero =>
    intro listed a w h hu
    have hall : ∀ j, j < m → listed.getD j false = true := fun j hj => by
      have hjl : j < listed.size := by rw [h.lsize]; omega
      rcases hb' : listed.getD j false with _ | _
      · exfalso
        have hm : false ∈ listed.toList := by
          rw [Array.getD_eq_getD_getElem?, Array.getElem?_eq_getElem hjl] at hb'
          have hb'' : listed[j] = false := hb'
          rw [← hb'']
          exact Array.mem_toList_iff.2 (Array.getElem_mem hjl)
        have := List.count_pos_iff.2 hm
        unfold unl at hu
        omega
      · rfl
    have e := listed_is h.lsize hns hall h.tail
    have hz : ops.size - m = 0 := by rw [e, unl_N] at hu; exact hu
    have := he a w (e ▸ h)
    rw [hz] at this
    rw [e, hz]
    exact this
  | succ fuel ih =>
    intro listed a w h hu
    by_cases hall : ∀ j, j < m → listed.getD j false = true
    · have e := listed_is h.lsize hns hall h.tail
      have hz : fuel + 1 = ops.size - m := by rw [e, unl_N] at hu; exact hu.symm
      rw [hz, e]
      exact he a w (e ▸ h)
    · refine ⟨fun hr => absurd (fun j hj => all_listed h.lsize (fun i o hi e he hb => acyc_spec hac i o hi e he hb) hr j (by omega)) hall, fun i hi => ?_⟩
      obtain ⟨h0, o, ho, ha⟩ := mem_ready.1 hi
      have hin : i < m := by
        rcases Nat.lt_or_ge i m with h' | h'
        · exact h'
        · refine absurd (fun j hj => ?_) hall
          exact reach_listed h.clos _ i o ho ha (sinkG_spec hsink ho h' hj)
      have hfu : ∀ {a' : Act} {w' : World}, Js C ops s m db a0 w0 (listed.setIfInBounds i true) a' w' → wpAny P .any ops Q fuel (listed.setIfInBounds i true) a' w' := fun hj => ih _ _ _ hj (by have := unl_set h0; omega)
      have hdd := hd i o ho hin
      by_cases his : i = s
      · subst his
        rw [hs] at ho
        obtain rfl := Option.some.inj ho
        rw [if_pos rfl] at hdd
        obtain ⟨p1, p2⟩ := h.pre (listed_no h0)
        obtain ⟨w', hrun, hK⟩ := store a w p2 h.keep (fun j oj dj hj hdj hr => p1 j oj dj hj hdj (reach_listed h.clos _ i _ hs ha hr))
        unfold Go.wpOp
        simp only [hs]
        have hw : Region.wanted so (yielded ops a.tmps) = true := by simp [Region.wanted, hsg]
        rw [if_pos hw]
        left
        unfold Oper.wp
        rw [exec_sop, hrun, Oper.upon_skip]
        exact hfu (h.stored hs hin hdd h0 ha hK)
      · rw [if_neg his] at hdd
        obtain ⟨d, hdst⟩ := hdd
        have edges : ∀ k dk, edgeB ops o k dk = true → ∃ ok, ops[k]? = some ok ∧ ok.dst = some dk ∧ listed.getD k false = true := fun k dk hk => by
          unfold edgeB at hk
          rw [Bool.and_eq_true, decide_eq_true_eq] at hk
          obtain ⟨q, hq, h3⟩ := Array.any_eq_true.1 hk.1
          rw [Bool.and_eq_true, decide_eq_true_eq] at h3
          obtain ⟨ok, hok, hdk⟩ := Option.bind_eq_some_iff.1 hk.2
          exact ⟨ok, hok, hdk, h3.2 ▸ ha _ (Array.getElem_mem hq) h3.1⟩
        rcases hsl : listed.getD s false with _ | _
        · obtain ⟨p1, p2⟩ := h.pre hsl
          rcases arms i o ho hin with hx | ⟨hg, harm⟩
          · exact absurd hx his
          · refine Goes.wpOp ho hg (harm a w p2 h.keep (fun k dk hk => ?_)) (fun v w' hv => ?_)
            · obtain ⟨ok, h1, h2, h3⟩ := edges k dk hk
              exact p1 k ok dk h1 h2 h3
            · exact hfu (h.step hn hb hjb hdb hjbm hjbs hs ho hin his hdst ha h0 (fun _ => hv) (fun hf => by rw [hsl] at hf; cases hf))
        · obtain ⟨p1, p2⟩ := h.post hsl
          rcases late i o ho hin with hx | hx | ⟨hg, harm⟩
          · exact absurd hx his
          · have := reach_listed h.clos _ s so hs (fun e he hb => h.clos s so hs hsl e he hb) hx
            rw [listed_no h0] at this; cases this
          · obtain ⟨v, hrun, hv⟩ := harm a w (fun k dk hk => by
              obtain ⟨ok, h1, h2, h3⟩ := edges k dk hk
              exact p1 k ok dk h1 h2 h3)
            refine Goes.wpOp (R := fun v' w' => v' = v ∧ w' = w) ho hg (.inl ⟨v, w, hrun, rfl, rfl⟩) ?_
            rintro v' w' ⟨rfl, rfl⟩
            exact hfu (h.step hn hb hjb hdb hjbm hjbs hs ho hin his hdst ha h0 (fun hf => by rw [hsl] at hf; cases hf) (fun _ => ⟨hv, rfl⟩))
/-- the law -/
theorem wp_region_store {id : Nat} (s m db jb : Nat) (st : TypeId) (sx sy : Operand) (C : Gs) (ds : List Nat) (tl : List Oper) (hds : dstsN ops m = ds) (htl : ops.toList.drop m = tl) (hm : P.follows .mixedOrders = true) (hac : acyc ops = true) (hsink : sinkG ops m = true) (hns : m ≤ ops.size) (hsm : s < m) (hon : onceS ops s m a0.tmps.size = true) (hseq : Region.seqB .any ops (ops.size - m) m (listedN m (ops.size - m)) = true)
    (hjb : (decide (jb < m) && decide (ops[jb]?.bind (·.dst) = some db) && reachB ops ops.size s jb && decide (ops[s]?.map (·.guard) = some none)) = true)
    (arms : AllFrom (ArmS P C ops ds s a0 w0) 0 (ops.toList.take m)) (late : AllFrom (ArmL P C ops s) 0 (ops.toList.take m))
    (hop : ops[s]?.map (·.op) = some (.store st sx sy))
    (store : ∀ (a : Act) (w : World), Below w0.heap.size w0 w → (∀ s, s ∉ ds → a.eval (.tmp s) = a0.eval (.tmp s)) → (∀ j d, (decide (ops[j]?.bind (·.dst) = some d) && reachB ops ops.size s j) = true → (C.H j).p w (a.eval (.tmp d))) →
      ∃ w', (Instr.storeAt st (a.eval sx) (a.eval sy)).run P w = .ok () w' ∧ C.K (a.eval (.tmp db)) w')
    (he : ∀ (u : Nat → Value) w, (∀ j d, j < m → ops[j]?.bind (·.dst) = some d → C.H2 j (u d)) → C.K (u db) w → wpList P ops Q tl (putAll u ds a0) w) : (Code.region id ops true).wp P Q a0 w0 := by
  subst hds htl
  unfold onceS at hon
  rw [Bool.and_eq_true, Bool.and_eq_true, decide_eq_true_eq] at hon
  obtain ⟨⟨hon1, hon2⟩, hon3⟩ := hon
  simp only [Bool.and_eq_true, decide_eq_true_eq] at hjb
  obtain ⟨⟨⟨hj1, hj2⟩, hj3⟩, hj4⟩ := hjb
  obtain ⟨ob, hob, hobd⟩ := Option.bind_eq_some_iff.1 hj2
  obtain ⟨so, hso, hsg⟩ := Option.map_eq_some_iff.1 hj4
  have hopo : so.op = .store st sx sy := by rw [hso] at hop; exact Option.some.inj hop
  have hb : ∀ d ∈ dstsN ops m, d < a0.tmps.size := fun d hd => by simpa using List.all_eq_true.1 hon1 d hd
  have hdd : ∀ j o, ops[j]? = some o → j < m → if j = s then o.dst = none else ∃ d, o.dst = some d := fun j o hj hn => by
    have := List.all_eq_true.1 hon3 j (List.mem_range.2 hn)
    rw [hj] at this
    by_cases e : j = s
    · rw [if_pos e]
      simpa [e] using this
    · rw [if_neg e]
      simp only [if_neg e] at this
      exact Option.isSome_iff_exists.1 this
  have hl : ∀ j, (Array.replicate ops.size false).getD j false = false := fun j => by
    rw [Array.getD_eq_getD_getElem?, Array.getElem?_replicate]
    split <;> rfl
  have at_ : ∀ {p : Nat → Oper → Prop}, AllFrom p 0 (ops.toList.take m) → ∀ j o, ops[j]? = some o → j < m → p j o := fun h j o hj hn => by
    have := AllFrom.get h j o (by rw [List.getElem?_take, if_pos hn, Array.getElem?_toList]; exact hj)
    rwa [Nat.zero_add] at this
  refine wp_region_any hm (wpAny_store (C := C) (w0 := w0) (db := db) hac hsink hns hsm hon2 hb hdd hob hobd hj1 hj3 hso hsg (at_ arms) (at_ late) (fun a w h1 h2 h3 => by
    obtain ⟨w', q1, q2⟩ := store a w h1 h2 (fun j d hr => by
      rw [Bool.and_eq_true, decide_eq_true_eq] at hr
      obtain ⟨o, ho, hd⟩ := Option.bind_eq_some_iff.1 hr.1
      exact h3 j o d ho hd hr.2)
    exact ⟨w', by rw [hopo]; exact run_store rfl rfl q1, q2⟩) (fun a w h => ?_) ops.size _ a0 _
    ⟨rfl, rfl, fun _ _ => rfl, by simp, fun _ => ⟨fun j o d hj hd h => ?_, (Below.refl _ w0).drew⟩, fun h => ?_, fun j o hj h => ?_, fun j _ => hl j⟩ ?_)
  · have hlen : (ops.toList.drop m).length = ops.size - m := by simp
    rw [← hlen]
    refine wpAny_of_seq (ops.toList.drop m) m _ a w (fun j => by rw [List.getElem?_drop, Array.getElem?_toList]) (by rw [hlen]; exact hseq) ?_
    have hlt : ∀ j, j < m → (listedN m (ops.size - m)).getD j false = true := fun j hj => by
      unfold listedN
      rw [Array.getD_eq_getD_getElem?, List.getElem?_toArray, List.getElem?_append_left (by simpa using hj), List.getElem?_replicate, if_pos hj]
      rfl
    obtain ⟨p1, p2⟩ := h.post (hlt s hsm)
    have e := act_putAll h.size h.defers h.keep
    rw [e]
    refine he _ w (fun j d hj hjd => ?_) p2
    obtain ⟨o, ho, hod⟩ := Option.bind_eq_some_iff.1 hjd
    exact p1 j o d ho hod (hlt j hj)
  · rw [hl] at h; cases h
  · rw [hl] at h; cases h
  · rw [hl] at h; cases h
  · unfold unl
    rw [Array.toList_replicate, List.count_replicate]
    simp
end
end Go.Proofs.YtaeoccpjdjafnaaGreat
namespace Go.Proofs.YtaeoccpjdjafnaaGreat.Im
open Go Go.RowKit
open Rl (En Lg)
open Qu (Cf)
set_option maxRecDepth 100000
set_option linter.unusedVariables false
local instance lo11 : Lo := ⟨0⟩
theorem own_lit (w : World) (base : Nat) (hb : base ≤ w.heap.size) (l : List Nat) (hs : ∀ x ∈ l, x < 256) (hm : l.length ≤ maxLen) : OwnsB 5 (w.alloc (.cells (bytes l).toArray 5)) base (some ⟨w.heap.size, 0, none⟩) l.length l :=
  ⟨hs, by
    have h := World.ownsRow_lit (base := base) (size := 1) (e := 5) w (bytes l).toArray l.length hb hm (by simp [bytes_length])
    simpa using h⟩
/-- nothing was read, with this code -/
def ToldN (er : Int) (w : World) (e : Ending) (w' : World) : Prop := ∃ i : Ia, e = .returned (.tuple #[.agg #[.slice i.h 0 i.ch, .slice i.v 0 i.cv], .int .i64 er]) ∧ Below w.heap.size w w'
theorem nil_im {Q : List Hq} {L : List Vt} (h : (⟨Q.map (·.h), L⟩ : Im) = ⟨[], []⟩) : Q = [] ∧ L = [] := ⟨List.map_eq_nil_iff.1 (congrArg Im.hs h), congrArg Im.vs h⟩
theorem getN_any (l : List Nat) (A : Option Addr) (c n : Nat) (hn : l.length = n) (er : Int) (hg : get l = (⟨[], []⟩, er)) (hl : n ≤ 1000) (hz : A = none → c = 0) (w : World) (h : IsBytes w w.heap.size A l) :
    Calls Tryz.prog 22 #[.slice A n c] w fun e w' => ToldN er w e w' := by
  have h1 := get_any l A c n hn w h hz (by omega)
  rw [hg] at h1
  refine h1.mono ?_
  rintro e w' ⟨i, nh, nv, rfl, ⟨Q, L, ⟨e1, e2⟩, ho, e3⟩, hb⟩
  obtain ⟨rfl, rfl⟩ := nil_im e3
  obtain rfl : nh = 0 := e1
  obtain rfl : nv = 0 := e2
  exact ⟨i, rfl, hb⟩
theorem getZ_any (n : Nat) (er : Int) (hg : get (zeros n) = (⟨[], []⟩, er)) (hl : n ≤ 1000) (w : World) :
    Calls Tryz.prog 22 #[.slice (some ⟨w.heap.size, 0, none⟩) n n] (w.alloc (.cells (zeroRow n) 5)) fun e w' => ToldN er w e w' := by
  refine (getN_any (zeros n) _ n n (zeros_length n) er hg hl (fun e => by cases e) _ (by rw [World.size_alloc]; exact isBytes_new w (zeros n) (zeros_small n) _ _)).mono ?_
  rintro e w' ⟨i, rfl, hb⟩
  exact ⟨i, rfl, ((Below.refl _ w).alloc (Nat.le_refl _) _).trans (hb.mono (by simp))⟩
theorem get15 : get (zeros 15) = (⟨[], []⟩, 4) := by decide +kernel
theorem get17 : get (zeros 17) = (⟨[], []⟩, 2) := by decide +kernel
def b255 : List Nat := zeros 8 ++ [255, 255, 255, 255, 255, 255, 255, 255]
def b1 : List Nat := zeros 8 ++ [0, 0, 0, 0, 0, 0, 0, 1]
theorem get255 : get b255 = (⟨[], []⟩, 4) := by decide +kernel
theorem get1 : get b1 = (⟨[], []⟩, 4) := by decide +kernel
def numsC (c : Ch) : Prop := (InInt c.k ∧ InInt c.g ∧ InInt c.t ∧ InInt c.v ∧ InInt c.f) ∧ okV c.a
/-- a change of the image of the chapter's examples -/
theorem applyF_any (c : Ch) (ac : Ad) (hcl : c.p.log.es.length ≤ 20000) (hfy : ∀ y, chgd firstH c = some y → FewP y.p) (hnum : numsC c) (A : Option Addr) (a : Ad) (hA : A ≠ none) (w : World) (hh : IsHds w w.heap.size A [⟨firstH, a⟩]) (hc : IsPt w w.heap.size c.p ac) :
    Calls Tryz.prog 37 #[.agg #[.slice A 1 1, .slice none 0 0], .agg #[.int .i64 c.k, .int .i64 c.g, .int .i64 c.t, .int .i64 c.v, .int .i64 c.f, .int .i64 c.p.log.base, .int .i64 c.p.log.term, .slice ac.e c.p.log.es.length ac.ce, .slice ac.o c.p.cf.old.length ac.co, .slice ac.n c.p.cf.new.length ac.cn, .slice ac.l c.p.cf.lrn.length ac.cl, .slice ac.s c.p.sn.length ac.cs, .int .i64 c.a.x, .int .i64 c.a.p, .int .i64 c.a.r, .int .i64 c.a.b, .int .i64 c.a.v]] w fun e w' => ToldA w (apply ⟨[firstH], []⟩ c) e w' :=
  apply_any ⟨A, 1, none, 0⟩ 1 0 [⟨firstH, a⟩] [] c ac rfl rfl (by decide) (by decide) rfl rfl (fun q hq => by rw [List.mem_singleton.1 hq]; exact firstFew) (fun q hq y hy => by rw [List.mem_singleton.1 hq] at hy; exact hfy y hy) hcl w hh ⟨IsRow.nil, by simp⟩ hc (fun e => absurd e hA) (fun _ => rfl) ⟨Nat.le_refl _, (by unfold maxLen; omega : (1 : Nat) ≤ maxLen)⟩ ⟨Nat.le_refl _, Nat.zero_le _⟩ hnum
theorem applyZ_any (c : Ch) (ac : Ad) (hcl : c.p.log.es.length ≤ 20000) (hnum : numsC c) (w : World) (hc : IsPt w w.heap.size c.p ac) :
    Calls Tryz.prog 37 #[.agg #[.slice none 0 0, .slice none 0 0], .agg #[.int .i64 c.k, .int .i64 c.g, .int .i64 c.t, .int .i64 c.v, .int .i64 c.f, .int .i64 c.p.log.base, .int .i64 c.p.log.term, .slice ac.e c.p.log.es.length ac.ce, .slice ac.o c.p.cf.old.length ac.co, .slice ac.n c.p.cf.new.length ac.cn, .slice ac.l c.p.cf.lrn.length ac.cl, .slice ac.s c.p.sn.length ac.cs, .int .i64 c.a.x, .int .i64 c.a.p, .int .i64 c.a.r, .int .i64 c.a.b, .int .i64 c.a.v]] w fun e w' => ToldA w (apply ⟨[], []⟩ c) e w' :=
  apply_any ⟨none, 0, none, 0⟩ 0 0 [] [] c ac rfl rfl (by decide) (by decide) rfl rfl (by simp) (by simp) hcl w ⟨IsRow.nil, by simp, by simp⟩ ⟨IsRow.nil, by simp⟩ hc (fun _ => rfl) (fun _ => rfl) ⟨Nat.le_refl _, Nat.zero_le _⟩ ⟨Nat.le_refl _, Nat.zero_le _⟩ hnum
def fewB (p : Pt) : Bool := decide (p.log.es.length ≤ 100000) && p.log.es.all (fun e => decide (e.d.length ≤ 1000000000)) && decide (p.cf.old.length ≤ 100000) && decide (p.cf.new.length ≤ 100000) && decide (p.cf.lrn.length ≤ 100000) && decide (p.sn.length ≤ 1000000000)
theorem fewB_few {p : Pt} (h : fewB p = true) : FewP p := by
  unfold fewB at h
  simp only [Bool.and_eq_true, decide_eq_true_eq, List.all_eq_true] at h
  obtain ⟨⟨⟨⟨⟨h1, h2⟩, h3⟩, h4⟩, h5⟩, h6⟩ := h
  exact ⟨h1, h2, h3, h4, h5, h6⟩
def fewC (c : Ch) : Bool := match chgd firstH c with
  | none => true
  | some y => fewB y.p
theorem fewC_few {c : Ch} (h : fewC c = true) : ∀ y, chgd firstH c = some y → FewP y.p := fun y hy => by
  unfold fewC at h; rw [hy] at h; exact fewB_few h
theorem toldN_of {w w' : World} {e : Ending} {r : Im × Int} {er : Int} (h : ToldA w r e w') (hr : r = (⟨[], []⟩, er)) : ToldN er w e w' := by
  subst hr
  obtain ⟨i, nh, nv, e', rfl, rfl, ⟨Q, L, ⟨e1, e2⟩, ho, e3⟩, hb⟩ := h
  obtain ⟨rfl, rfl⟩ := nil_im e3
  obtain rfl : nh = 0 := e1
  obtain rfl : nv = 0 := e2
  exact ⟨i, rfl, hb⟩
def V0 : Vt := ⟨0, 0, 0, 0, 0⟩
def kindC (k : Int) : Ch := ⟨k, 0, 0, 0, 0, P0, V0⟩
def groupC : Ch := ⟨1, 1, 0, 0, 0, P0, V0⟩
def voteC : Ch := ⟨4, 0, 0, 0, 0, P0, ⟨5, 1, 2, 0, 0⟩⟩
theorem group_apply : apply ⟨[], []⟩ groupC = (⟨[], []⟩, 6) := by decide +kernel
theorem vote_apply : apply ⟨[], []⟩ voteC = (⟨[], [⟨5, 1, 2, 0, 0⟩]⟩, 0) := by decide +kernel
theorem kind0_apply : apply ⟨[firstH], []⟩ (kindC 0) = (⟨[], []⟩, 13) := by decide +kernel
theorem kind5_apply : apply ⟨[firstH], []⟩ (kindC 5) = (⟨[], []⟩, 13) := by decide +kernel
theorem in_of {z : Int} (h : (decide (-9223372036854775808 ≤ z) && decide (z ≤ 9223372036854775807)) = true) : InInt z := by
  rw [Bool.and_eq_true, decide_eq_true_eq, decide_eq_true_eq] at h; exact h
theorem nums_of (c : Ch) (h : ([c.k, c.g, c.t, c.v, c.f, c.a.x, c.a.p, c.a.r, c.a.b, c.a.v].all fun z => decide (-9223372036854775808 ≤ z) && decide (z ≤ 9223372036854775807)) = true) : numsC c := by
  simp only [List.all_cons, List.all_nil, Bool.and_true, Bool.and_eq_true, decide_eq_true_eq] at h
  obtain ⟨h1, h2, h3, h4, h5, h6, h7, h8, h9, h10⟩ := h
  exact ⟨⟨h1, h2, h3, h4, h5⟩, ⟨⟨⟨⟨h6, h7⟩, h8⟩, h9⟩, h10⟩⟩
theorem group_any (w : World) : Calls Tryz.prog 37 #[.agg #[.slice none 0 0, .slice none 0 0], .agg #[.int .i64 1, .int .i64 1, .int .i64 0, .int .i64 0, .int .i64 0, .int .i64 0, .int .i64 0, .slice none 0 0, .slice none 0 0, .slice none 0 0, .slice none 0 0, .slice none 0 0, .int .i64 0, .int .i64 0, .int .i64 0, .int .i64 0, .int .i64 0]] w fun e w' => ToldN 6 w e w' :=
  (applyZ_any groupC A0 (by decide) (nums_of _ (by decide)) w (isPt0 _ _)).mono fun e w' h => toldN_of h group_apply
theorem vote_any (w : World) : Calls Tryz.prog 37 #[.agg #[.slice none 0 0, .slice none 0 0], .agg #[.int .i64 4, .int .i64 0, .int .i64 0, .int .i64 0, .int .i64 0, .int .i64 0, .int .i64 0, .slice none 0 0, .slice none 0 0, .slice none 0 0, .slice none 0 0, .slice none 0 0, .int .i64 5, .int .i64 1, .int .i64 2, .int .i64 0, .int .i64 0]] w fun e w' => ∃ i : Ia, e = .returned (.tuple #[.agg #[.slice i.h 0 i.ch, .slice i.v 1 i.cv], .int .i64 0]) ∧ Below w.heap.size w w' := by
  refine (applyZ_any voteC A0 (by decide) (nums_of _ (by decide)) w (isPt0 _ _)).mono fun e w' h => ?_
  rw [vote_apply] at h
  obtain ⟨i, nh, nv, e', rfl, rfl, ⟨Q, L, ⟨e1, e2⟩, ho, e3⟩, hb⟩ := h
  obtain rfl : Q = [] := List.map_eq_nil_iff.1 (congrArg Im.hs e3)
  obtain rfl : L = _ := congrArg Im.vs e3
  obtain rfl : nh = 0 := e1
  obtain rfl : nv = 1 := e2
  exact ⟨i, rfl, hb⟩
theorem kind_any (k : Int) (hk : apply ⟨[firstH], []⟩ (kindC k) = (⟨[], []⟩, 13)) (hfew : fewC (kindC k) = true) (hn : numsC (kindC k)) (A : Option Addr) (a : Ad) (hA : A ≠ none) (w : World) (hh : IsHds w w.heap.size A [⟨firstH, a⟩]) : Calls Tryz.prog 37 #[.agg #[.slice A 1 1, .slice none 0 0], .agg #[.int .i64 k, .int .i64 0, .int .i64 0, .int .i64 0, .int .i64 0, .int .i64 0, .int .i64 0, .slice none 0 0, .slice none 0 0, .slice none 0 0, .slice none 0 0, .slice none 0 0, .int .i64 0, .int .i64 0, .int .i64 0, .int .i64 0, .int .i64 0]] w fun e w' => ToldN 13 w e w' :=
  (applyF_any (kindC k) A0 (show 0 ≤ 20000 by decide) (fewC_few hfew) hn A a hA w hh (isPt0 _ _)).mono fun e w' h => toldN_of h hk
def fromL : List Int := [3, 4, 5, 8, 9, -9223372036854775808, 9223372036854775807]
def leftL : List Int := [-1, -1, 1, 4, -1, -1, -1]
def logC (f : Int) : Ch := ⟨2, 1, 0, 0, f, ⟨⟨0, 0, [⟨9, 0, []⟩]⟩, ⟨[], [], []⟩, []⟩, V0⟩
def yL (l : List En) : Hd := { firstH with p := { firstH.p with log := { firstH.p.log with es := l } } }
def logB (k : Nat) : Bool := fewC (logC (fromL.getD k 0)) && match apply ⟨[firstH], []⟩ (logC (fromL.getD k 0)) with
  | (x, er) => (decide (er = 0) && decide (0 ≤ leftL.getD k 0) && decide (x = ⟨[yL (firstH.p.log.es.take (fromL.getD k 0 - 5).toNat ++ [⟨9, 0, []⟩])], []⟩) && decide ((((firstH.p.log.es.take (fromL.getD k 0 - 5).toNat ++ [(⟨9, 0, []⟩ : En)]).length : Nat) : Int) = leftL.getD k 0)) || (decide (er = 3) && decide (leftL.getD k 0 = -1) && decide (x = ⟨[], []⟩))
theorem logB_all : ∀ k, k < 7 → logB k = true := by decide +kernel
theorem log_fact {k : Nat} (hk : k < 7) : fewC (logC (fromL.getD k 0)) = true ∧ (((apply ⟨[firstH], []⟩ (logC (fromL.getD k 0))).2 = 0 ∧ ∃ y, (apply ⟨[firstH], []⟩ (logC (fromL.getD k 0))).1 = ⟨[y], []⟩ ∧ ((y.p.log.es.length : Nat) : Int) = leftL.getD k 0) ∨ ((apply ⟨[firstH], []⟩ (logC (fromL.getD k 0))).2 = 3 ∧ leftL.getD k 0 = -1 ∧ (apply ⟨[firstH], []⟩ (logC (fromL.getD k 0))).1 = ⟨[], []⟩)) := by
  have h := logB_all k hk
  unfold logB at h
  rw [Bool.and_eq_true] at h
  refine ⟨h.1, ?_⟩
  have h2 := h.2
  rcases ha : apply ⟨[firstH], []⟩ (logC (fromL.getD k 0)) with ⟨x, er⟩
  rw [ha] at h2
  simp only [Bool.or_eq_true, Bool.and_eq_true, decide_eq_true_eq] at h2
  rcases h2 with ⟨⟨⟨h3, h4⟩, h5⟩, h6⟩ | ⟨⟨h3, h4⟩, h5⟩
  · exact .inl ⟨h3, _, h5, h6⟩
  · exact .inr ⟨h3, h4, h5⟩
def snapC (b t : Int) : Ch := ⟨3, 1, 0, 0, 0, ⟨⟨b, t, []⟩, ⟨[7], [], []⟩, [5]⟩, V0⟩
def bV : List Int := [6, 6, 9, 4, 7, 0]
def tV : List Int := [3, 2, 3, 2, 3, 0]
def nV : List Nat := [1, 0, 0, 3, 0, 0]
def ySnap (k : Nat) : Hd := { firstH with p := ⟨⟨bV.getD k 0, tV.getD k 0, firstH.p.log.es.drop (3 - nV.getD k 0)⟩, ⟨[7], [], []⟩, [5]⟩ }
def snapB (k : Nat) : Bool := fewC (snapC (bV.getD k 0) (tV.getD k 0)) && decide (apply ⟨[firstH], []⟩ (snapC (bV.getD k 0) (tV.getD k 0)) = (⟨[ySnap k], []⟩, 0)) && decide ((firstH.p.log.es.drop (3 - nV.getD k 0)).length = nV.getD k 0)
theorem snapB_all : ∀ k, k < 6 → snapB k = true := by decide +kernel
theorem snap_fact {k : Nat} (hk : k < 6) : fewC (snapC (bV.getD k 0) (tV.getD k 0)) = true ∧ apply ⟨[firstH], []⟩ (snapC (bV.getD k 0) (tV.getD k 0)) = (⟨[ySnap k], []⟩, 0) ∧ (ySnap k).p.log.es.length = nV.getD k 0 := by
  have h := snapB_all k hk
  unfold snapB at h
  simp only [Bool.and_eq_true, decide_eq_true_eq] at h
  exact ⟨h.1.1, h.1.2, h.2⟩
/-- the entry that is laid -/
theorem ent_at {w : World} {b : Nat} (h : w.heap[b]? = some (.cells #[.int .i64 9, .int .i64 0, .slice none 0 0] 73 (0, 0))) : IsEnts w w.heap.size (some ⟨b, 0, none⟩) [⟨9, 0, []⟩] :=
  ⟨by simp [InInt], fun k hk => ⟨b, 0, rfl, row_lt h, fun i hi => by
    obtain rfl : i = 0 := by simpa using hi
    have c := fun k => row_cell h k
    exact ⟨_, _, c 0, c 1, c 2, IsBytes.nil, room_none.1, room_none.2⟩⟩⟩
theorem log_any (f : Int) (hfew : fewC (logC f) = true) (hf : InInt f) (A : Option Addr) (a : Ad) (hA : A ≠ none) (b : Nat) (w : World) (hh : IsHds w w.heap.size A [⟨firstH, a⟩]) (hb : w.heap[b]? = some (.cells #[.int .i64 9, .int .i64 0, .slice none 0 0] 73 (0, 0))) :
    Calls Tryz.prog 37 #[.agg #[.slice A 1 1, .slice none 0 0], .agg #[.int .i64 2, .int .i64 1, .int .i64 0, .int .i64 0, .int .i64 f, .int .i64 0, .int .i64 0, .slice (some ⟨b, 0, none⟩) 1 1, .slice none 0 0, .slice none 0 0, .slice none 0 0, .slice none 0 0, .int .i64 0, .int .i64 0, .int .i64 0, .int .i64 0, .int .i64 0]] w fun e w' => ToldA w (apply ⟨[firstH], []⟩ (logC f)) e w' :=
  applyF_any (logC f) ⟨some ⟨b, 0, none⟩, 1, none, 0, none, 0, none, 0, none, 0⟩ (show 1 ≤ 20000 by decide) (fewC_few hfew) ⟨⟨(nums_of (logC 0) (by decide)).1.1, (nums_of (logC 0) (by decide)).1.2.1, (nums_of (logC 0) (by decide)).1.2.2.1, (nums_of (logC 0) (by decide)).1.2.2.2.1, hf⟩, (nums_of (logC 0) (by decide)).2⟩ A a hA w hh
    ⟨ent_at hb, IsInts.nil, IsInts.nil, IsInts.nil, IsBytes.nil, room_at 1 (by decide) _, room_none, room_none, room_none, room_none, (⟨in_of rfl, in_of rfl⟩ : InInt 0 ∧ InInt 0)⟩
theorem snap_any (t1 t2 : Int) (hfew : fewC (snapC t1 t2) = true) (hf : InInt t1 ∧ InInt t2) (A : Option Addr) (a : Ad) (hA : A ≠ none) (b b' : Nat) (w : World) (hh : IsHds w w.heap.size A [⟨firstH, a⟩]) (hb : w.heap[b]? = some (.cells #[.int .i64 7] 3 (0, 0))) (hb' : w.heap[b']? = some (.cells #[.int .u8 5] 5 (0, 0))) :
    Calls Tryz.prog 37 #[.agg #[.slice A 1 1, .slice none 0 0], .agg #[.int .i64 3, .int .i64 1, .int .i64 0, .int .i64 0, .int .i64 0, .int .i64 t1, .int .i64 t2, .slice none 0 0, .slice (some ⟨b, 0, none⟩) 1 1, .slice none 0 0, .slice none 0 0, .slice (some ⟨b', 0, none⟩) 1 1, .int .i64 0, .int .i64 0, .int .i64 0, .int .i64 0, .int .i64 0]] w fun e w' => ToldA w (apply ⟨[firstH], []⟩ (snapC t1 t2)) e w' :=
  applyF_any (snapC t1 t2) ⟨none, 0, some ⟨b, 0, none⟩, 1, none, 0, none, 0, some ⟨b', 0, none⟩, 1⟩ (show 0 ≤ 20000 by decide) (fewC_few hfew) ⟨(nums_of (snapC 0 0) (by decide)).1, (nums_of (snapC 0 0) (by decide)).2⟩ A a hA w hh
    ⟨⟨by simp [snapC], fun k hk => by simp [snapC] at hk⟩, ints_at [7] (by simp [InInt]) hb, IsInts.nil, IsInts.nil, bytes_at [5] (by decide) hb', room_none, room_at 1 (by decide) _, room_none, room_none, room_at 1 (by decide) _, hf⟩
theorem own_z (w : World) (n : Nat) (hm : n ≤ maxLen) : OwnsB 5 (w.alloc (.cells (zeroRow n) 5)) w.heap.size (some ⟨w.heap.size, 0, none⟩) n (zeros n) := by
  have h := own_lit w w.heap.size (Nat.le_refl _) (zeros n) (zeros_small n) (by rw [zeros_length]; exact hm)
  rw [zeros_length] at h
  exact h
theorem row_after (w5 : World) (n : Nat) (l : List Nat) (hs : ∀ x ∈ l, x < 256) : IsBytes ((w5.alloc (.cells (zeroRow n) 5)).alloc (.cells (bytes l).toArray 5)) (w5.heap.size + 1 + 1) (some ⟨w5.heap.size + 1, 0, none⟩) l := by
  have h := isBytes_new (w5.alloc (.cells (zeroRow n) 5)) l hs 5 (0, 0)
  simp only [World.size_alloc] at h
  exact h
/-! The regions that make a change and apply it. -/
def Gp.firstP : Gp := ⟨fun w v => ∃ A ad, v = .agg #[.slice A 1 1, .slice none 0 0] ∧ A ≠ none ∧ IsHds w w.heap.size A [⟨firstH, ad⟩], fun w w' v ⟨A, ad, h1, h2, h3⟩ hb => ⟨A, ad, h1, h2, (h3.below hb).more hb.size⟩⟩
def Imp (r : Im × Int) (i : Ia) (nh nv : Nat) (w : World) : Prop := ∃ Q L, nh = Q.length ∧ nv = L.length ∧ IsHds w w.heap.size i.h Q ∧ (⟨Q.map (·.h), L⟩ : Im) = r.1
theorem Imp.low {r : Im × Int} {i : Ia} {nh nv : Nat} {w w' : World} (h : Imp r i nh nv w) (hb : Below w.heap.size w w') : Imp r i nh nv w' := by
  obtain ⟨Q, L, h1, h2, h3, h4⟩ := h
  exact ⟨Q, L, h1, h2, (h3.below hb).more hb.size, h4⟩
def Gp.toldP (r : Im × Int) : Gp := ⟨fun w v => ∃ (i : Ia) (nh nv : Nat), v = .tuple #[.agg #[.slice i.h nh i.ch, .slice i.v nv i.cv], .int .i64 r.2] ∧ Imp r i nh nv w, fun w w' v ⟨i, nh, nv, h1, h2⟩ hb => ⟨i, nh, nv, h1, h2.low hb⟩⟩
def Gp.imgP (r : Im × Int) : Gp := ⟨fun w v => ∃ (i : Ia) (nh nv : Nat), v = .agg #[.slice i.h nh i.ch, .slice i.v nv i.cv] ∧ Imp r i nh nv w, fun w w' v ⟨i, nh, nv, h1, h2⟩ hb => ⟨i, nh, nv, h1, h2.low hb⟩⟩
theorem toldP_of {w w' : World} {r : Im × Int} {e : Ending} (h : ToldA w r e w') : ∃ v, e = .returned v ∧ (Gp.toldP r).p w' v ∧ Below w.heap.size w w' := by
  obtain ⟨i, nh, nv, er, rfl, rfl, ⟨Q, L, ⟨e1, e2⟩, ho, e3⟩, hb⟩ := h
  exact ⟨_, rfl, ⟨i, nh, nv, rfl, Q, L, e1, e2, ho.vs.1, e3⟩, hb⟩
theorem run_boxI {ρ : Operand → Value} {ty : TypeId} {w : World} : (execOp ρ (sop (.alloc 25) ty)).run Tryz.prog w = .ok (.value (.pointer (some ⟨w.heap.size, 0, none⟩))) (w.alloc (.cells #[.slice none 0 0, .slice none 0 0] 25)) := by
  unfold execOp sop; simp only []; go_simp
def entRow : Array Value := #[.int .i64 9, .int .i64 0, .slice none 0 0]
def logV (f : Int) (b : Nat) : Value := .agg #[.int .i64 2, .int .i64 1, .int .i64 0, .int .i64 0, .int .i64 f, .int .i64 0, .int .i64 0, .slice (some ⟨b, 0, none⟩) 1 1, .slice none 0 0, .slice none 0 0, .slice none 0 0, .slice none 0 0, .int .i64 0, .int .i64 0, .int .i64 0, .int .i64 0, .int .i64 0]
def HL (bf lo k : Nat) (f : Int) (r : Im × Int) : Nat → Gp
  | 0 => Gp.firstP
  | 1 => Gp.is (.slice (some ⟨bf, 0, none⟩) 7 7)
  | 2 => Gp.is (.int .i64 k)
  | 3 => Gp.is (.pointer (some ⟨bf, k, none⟩))
  | 4 => Gp.is (.int .i64 f)
  | 5 => Gp.is (.agg entRow)
  | 6 => Gp.rowIn 0 (fun b => .slice (some ⟨b, 0, none⟩) 1 1) entRow 73
  | 7 => Gp.rowIn 0 (fun b => .agg #[.int .i64 0, .int .i64 0, .slice (some ⟨b, 0, none⟩) 1 1]) entRow 73
  | 8 => Gp.rowIn 0 (logV f) entRow 73
  | 9 => Gp.toldP r
  | 10 => Gp.toldP r
  | 11 => Gp.imgP r
  | 12 => Gp.is (.int .i64 r.2)
  | 13 => Gp.rowIn lo (fun b => .pointer (some ⟨b, 0, none⟩)) #[.slice none 0 0, .slice none 0 0] 25
  | _ => Gp.any
theorem info_ent3 : (Tryz.prog.info? 73).map (fun i => (i.zero, i.size, i.bytes)) = some (some (.agg #[.int .i64 0, .int .i64 0, .slice none 0 0]), 3, 40) := by kernel_rfl
/-- the box holds what was told -/
def KI (w0 : World) (r : Im × Int) (v : Value) (w : World) : Prop := ∃ (b : Nat) (i : Ia) (nh nv : Nat), v = .pointer (some ⟨b, 0, none⟩) ∧ w.heap[b]? = some (.cells #[.slice i.h nh i.ch, .slice i.v nv i.cv] 25 (0, 0)) ∧ Below w0.heap.size w0 w ∧
  ∀ y, r.1 = ⟨[y], []⟩ → nh = 1 ∧ ∃ g off ay, i.h = some ⟨g, off, none⟩ ∧ w.rangeAt g off (cellsH ⟨y, ay⟩)
theorem store_img {w0 W : World} {r : Im × Int} {v11 v13 : Value} (hb : Below w0.heap.size w0 W) (h11 : (Gp.imgP r).p W v11) (h13 : (Gp.rowIn w0.heap.size (fun b => .pointer (some ⟨b, 0, none⟩)) #[.slice none 0 0, .slice none 0 0] 25).p W v13) :
    ∃ w', (Instr.storeAt 25 v13 v11).run Tryz.prog W = .ok () w' ∧ KI w0 r v13 w' := by
  obtain ⟨i, nh, nv, rfl, Q, L, e1, e2, hh, e3⟩ := h11
  obtain ⟨b, hlo, rfl, r13⟩ := h13
  refine ⟨_, stRow info_image2 (cs' := #[.slice i.h nh i.ch, .slice i.v nv i.cv]) r13 rfl rfl (by simp [Value.oneCell']), b, i, nh, nv, rfl, setRow_heap W b _ _ _ _ r13, hb.trans ((row_turned W b _).below hb.size (fun k hk => by subst hk; exact hlo)), fun y hy => ?_⟩
  have e4 : (⟨Q.map (·.h), L⟩ : Im) = ⟨[y], []⟩ := e3.trans hy
  obtain ⟨ay, rfl, rfl⟩ := one_im e4
  refine ⟨e1, ?_⟩
  obtain ⟨g, off, hA, hg, hc⟩ := hh.row.at_ 0 (by simp)
  have hc0 := hc 0 (by simp)
  refine ⟨g, off, ay, hA, fun j v hv => ?_⟩
  have h1 := hc0 j v hv
  have hgb : g ≠ b := fun e => by
    subst e
    have h9 := hc0 9 (.slice ay.s y.p.sn.length ay.cs) rfl
    rw [row_cell r13] at h9
    simp at h9
  have hT := row_turned W b #[.slice i.h nh i.ch, .slice i.v nv i.cv]
  rw [Nat.zero_mul, Nat.add_zero] at h1
  exact (World.cell?_of_block (a := ⟨g, off + j, none⟩) (hT.block g hg hgb)).trans h1
def H2I (j1 j2 : Nat) (r : Im × Int) (j : Nat) (v : Value) : Prop := if j = j1 then ∃ x, v = .tuple #[x, .int .i64 r.2] else if j = j2 then v = .int .i64 r.2 else True
theorem H2I_le {H : Nat → Gp} {j1 j2 : Nat} {r : Im × Int} (h1 : H j1 = Gp.toldP r) (h2 : H j2 = Gp.is (.int .i64 r.2)) (j : Nat) (w : World) (v : Value) (h : (H j).p w v) : H2I j1 j2 r j v := by
  unfold H2I
  by_cases e1 : j = j1
  · subst e1
    rw [if_pos rfl]
    rw [h1] at h
    obtain ⟨i, nh, nv, rfl, _⟩ := h
    exact ⟨_, rfl⟩
  · rw [if_neg e1]
    by_cases e2 : j = j2
    · subst e2
      rw [if_pos rfl]
      rw [h2] at h
      exact h
    · rw [if_neg e2]; trivial
def CL (bf k : Nat) (f : Int) (r : Im × Int) (w0 : World) : Gs := ⟨HL bf w0.heap.size k f r, H2I 10 12 r, KI w0 r, H2I_le rfl rfl⟩
def snapV (t1 t2 : Int) (b b' : Nat) : Value := .agg #[.int .i64 3, .int .i64 1, .int .i64 0, .int .i64 0, .int .i64 0, .int .i64 t1, .int .i64 t2, .slice none 0 0, .slice (some ⟨b, 0, none⟩) 1 1, .slice none 0 0, .slice none 0 0, .slice (some ⟨b', 0, none⟩) 1 1, .int .i64 0, .int .i64 0, .int .i64 0, .int .i64 0, .int .i64 0]
def row7 : Array Value := #[.int .i64 7]
def row5 : Array Value := #[.int .u8 5]
def Gp.snapP (t1 t2 : Int) : Gp := ⟨fun w v => ∃ b b', v = snapV t1 t2 b b' ∧ w.heap[b]? = some (.cells row7 3 (0, 0)) ∧ w.heap[b']? = some (.cells row5 5 (0, 0)), fun w w' v ⟨b, b', h0, h1, h2⟩ hb => ⟨b, b', h0, (hb.block b (Array.getElem?_eq_some_iff.1 h1).1).trans h1, (hb.block b' (Array.getElem?_eq_some_iff.1 h2).1).trans h2⟩⟩
def HSn (bb br lo k : Nat) (t1 t2 : Int) (r : Im × Int) : Nat → Gp
  | 0 => Gp.firstP
  | 1 => Gp.is (.slice (some ⟨bb, 0, none⟩) 6 6)
  | 2 => Gp.is (.int .i64 k)
  | 3 => Gp.is (.pointer (some ⟨bb, k, none⟩))
  | 4 => Gp.is (.slice (some ⟨br, 0, none⟩) 3 3)
  | 5 => Gp.is (.pointer (some ⟨br, 0, none⟩))
  | 6 => Gp.is (.int .i64 t1)
  | 7 => Gp.is (.slice (some ⟨bb, 0, none⟩) 6 6)
  | 8 => Gp.is (.int .i64 k)
  | 9 => Gp.is (.pointer (some ⟨bb, k, none⟩))
  | 10 => Gp.is (.slice (some ⟨br, 0, none⟩) 3 3)
  | 11 => Gp.is (.pointer (some ⟨br, 1, none⟩))
  | 12 => Gp.is (.int .i64 t2)
  | 13 => Gp.is (.agg #[.int .i64 t1, .int .i64 t2, .slice none 0 0])
  | 14 => Gp.rowIn 0 (fun b => .slice (some ⟨b, 0, none⟩) 1 1) row7 3
  | 15 => Gp.rowIn 0 (fun b => .agg #[.slice (some ⟨b, 0, none⟩) 1 1, .slice none 0 0, .slice none 0 0]) row7 3
  | 16 => Gp.rowIn 0 (fun b => .slice (some ⟨b, 0, none⟩) 1 1) row5 5
  | 17 => Gp.snapP t1 t2
  | 18 => Gp.toldP r
  | 19 => Gp.toldP r
  | 20 => Gp.imgP r
  | 21 => Gp.is (.int .i64 r.2)
  | 22 => Gp.rowIn lo (fun b => .pointer (some ⟨b, 0, none⟩)) #[.slice none 0 0, .slice none 0 0] 25
  | _ => Gp.any
def CSn (bb br k : Nat) (t1 t2 : Int) (r : Im × Int) (w0 : World) : Gs := ⟨HSn bb br w0.heap.size k t1 t2 r, H2I 19 21 r, KI w0 r, H2I_le rfl rfl⟩
def cf12 : Cf := ⟨[1, 2], [], [3]⟩
def cf21 : Cf := ⟨[2, 1], [], []⟩
theorem cf12_get : getCf (encCf cf12) = (cf12, 0) := by decide +kernel
theorem cf21_get : getCf (encCf cf21) = (⟨[], [], []⟩, 29) := by decide +kernel
theorem put12_any (w : World) : Calls Tryz.prog 17 #[.agg #[.slice (some ⟨w.heap.size, 0, none⟩) 2 2, .slice none 0 0, .slice (some ⟨w.heap.size + 1, 0, none⟩) 1 1]] ((w.alloc (.cells #[.int .i64 1, .int .i64 2] 3)).alloc (.cells #[.int .i64 3] 3)) fun e w' => ∃ A c, e = .returned (.slice A 48 c) ∧ OwnsB 5 w' w.heap.size A c (encCf cf12) ∧ Below w.heap.size w w' := by
  obtain ⟨W, hW⟩ : ∃ W, W = ((w.alloc (.cells #[.int .i64 1, .int .i64 2] 3)).alloc (.cells #[.int .i64 3] 3)) := ⟨_, rfl⟩
  have e0 : W.heap[w.heap.size]? = some (.cells #[.int .i64 1, .int .i64 2] 3 (0, 0)) := by rw [hW]; exact at_old (at_new rfl)
  have e1 : W.heap[w.heap.size + 1]? = some (.cells #[.int .i64 3] 3 (0, 0)) := by rw [hW]; exact at_new (World.size_alloc _ _).symm
  have hb : Below w.heap.size w W := by rw [hW]; exact ((Below.refl _ w).alloc (Nat.le_refl _) _).alloc (by simp) _
  rw [← hW]
  clear hW
  refine (putCf_any W.heap.size W (Nat.le_refl _) cf12 _ none _ 2 0 1 (ints_at [1, 2] (by simp [InInt]) e0) IsInts.nil (ints_at [3] (by simp [InInt]) e1) 2 0 1 rfl rfl rfl ⟨by decide, by decide, by decide⟩).mono ?_
  rintro e w' ⟨A, c, rfl, h⟩
  exact ⟨A, c, rfl, h.own.weaken hb.size, hb.trans (h.put.bel.mono hb.size)⟩
theorem put21_any (w : World) : Calls Tryz.prog 17 #[.agg #[.slice (some ⟨w.heap.size, 0, none⟩) 2 2, .slice none 0 0, .slice none 0 0]] (w.alloc (.cells #[.int .i64 2, .int .i64 1] 3)) fun e w' => ∃ A c, e = .returned (.slice A 40 c) ∧ OwnsB 5 w' w.heap.size A c (encCf cf21) ∧ Below w.heap.size w w' := by
  obtain ⟨W, hW⟩ : ∃ W, W = (w.alloc (.cells #[.int .i64 2, .int .i64 1] 3)) := ⟨_, rfl⟩
  have e0 : W.heap[w.heap.size]? = some (.cells #[.int .i64 2, .int .i64 1] 3 (0, 0)) := by rw [hW]; exact at_new rfl
  have hb : Below w.heap.size w W := by rw [hW]; exact (Below.refl _ w).alloc (Nat.le_refl _) _
  rw [← hW]
  clear hW
  refine (putCf_any W.heap.size W (Nat.le_refl _) cf21 _ none none 2 0 0 (ints_at [2, 1] (by simp [InInt]) e0) IsInts.nil IsInts.nil 2 0 0 rfl rfl rfl ⟨by decide, by decide, by decide⟩).mono ?_
  rintro e w' ⟨A, c, rfl, h⟩
  exact ⟨A, c, rfl, h.own.weaken hb.size, hb.trans (h.put.bel.mono hb.size)⟩
theorem get12_any (A : Option Addr) (c : Nat) (w : World) (base : Nat) (h : OwnsB 5 w base A c (encCf cf12)) : Calls Tryz.prog 26 #[.slice A 48 c] w fun e w' => ∃ a : Ad, e = .returned (.tuple #[.agg #[.slice a.o 2 a.co, .slice a.n 0 a.cn, .slice a.l 1 a.cl], .int .i64 0]) ∧ Below w.heap.size w w' := by
  have h1 := getCf_any (encCf cf12) A c 48 (by decide +kernel) w h.reads h.none_ (by decide)
  rw [cf12_get] at h1
  refine h1.mono ?_
  rintro e w' ⟨a, n1, n2, n3, rfl, ⟨p, ⟨rfl, rfl, rfl⟩, ho, rfl⟩, hb⟩
  exact ⟨a, rfl, hb⟩
theorem get21_any (A : Option Addr) (c : Nat) (w : World) (base : Nat) (h : OwnsB 5 w base A c (encCf cf21)) : Calls Tryz.prog 26 #[.slice A 40 c] w fun e w' => ∃ a : Ad, e = .returned (.tuple #[.agg #[.slice a.o 0 a.co, .slice a.n 0 a.cn, .slice a.l 0 a.cl], .int .i64 29]) ∧ Below w.heap.size w w' := by
  have h1 := getCf_any (encCf cf21) A c 40 (by decide +kernel) w h.reads h.none_ (by decide)
  rw [cf21_get] at h1
  refine h1.mono ?_
  rintro e w' ⟨a, n1, n2, n3, rfl, ⟨p, ⟨rfl, rfl, rfl⟩, ho, rfl⟩, hb⟩
  exact ⟨a, rfl, hb⟩
end Go.Proofs.YtaeoccpjdjafnaaGreat.Im
namespace Go.Proofs.YtaeoccpjdjafnaaGreat.imageKnown
open Go.ChangeShapes Go.WideShapes Go.ChangeAt Go.RowKit
open Go.ChangeMaps (open_string shut_string)
set_option linter.unusedVariables false

theorem own : ownKnob Tryz.prog.godebug = none := by kernel_rfl
theorem laidOut : laidOutB Tryz.prog = true := by kernel_rfl

theorem b255_small : ∀ x ∈ [255, 255, 255, 255, 255, 255, 255, 255], x < 256 := by decide
theorem b1_small : ∀ x ∈ [0, 0, 0, 0, 0, 0, 0, 1], x < 256 := by decide
theorem make16 (W : World) : (Instr.makeSlice 35 (.int .i64 16) (.int .i64 16)).run Tryz.prog W = .ok (.slice (some ⟨W.heap.size, 0, none⟩) 16 16) (W.alloc (.cells (zeroRow 16) 5)) := make_any 16 (by omega) W
theorem make15 (W : World) : (Instr.makeSlice 35 (.int .i64 15) (.int .i64 15)).run Tryz.prog W = .ok (.slice (some ⟨W.heap.size, 0, none⟩) 15 15) (W.alloc (.cells (zeroRow 15) 5)) := make_any 15 (by omega) W
theorem make17 (W : World) : (Instr.makeSlice 35 (.int .i64 17) (.int .i64 17)).run Tryz.prog W = .ok (.slice (some ⟨W.heap.size, 0, none⟩) 17 17) (W.alloc (.cells (zeroRow 17) 5)) := make_any 17 (by omega) W
theorem make8 (W : World) : (Instr.makeSlice 35 (.int .i64 8) (.int .i64 8)).run Tryz.prog W = .ok (.slice (some ⟨W.heap.size, 0, none⟩) 8 8) (W.alloc (.cells (zeroRow 8) 5)) := make_any 8 (by omega) W
set_option maxRecDepth 100000 in
theorem rows_k (wr wt : World) (bb : Nat) (hwt : wt = ((((((wr.alloc (.cells #[.int .i64 6, .int .i64 3, .int .i64 1] 3)).alloc (.cells #[.int .i64 6, .int .i64 2, .int .i64 0] 3)).alloc (.cells #[.int .i64 9, .int .i64 3, .int .i64 0] 3)).alloc (.cells #[.int .i64 4, .int .i64 2, .int .i64 3] 3)).alloc (.cells #[.int .i64 7, .int .i64 3, .int .i64 0] 3)).alloc (.cells #[.int .i64 0, .int .i64 0, .int .i64 0] 3)).alloc (.cells #[.slice (some ⟨wr.heap.size, 0, none⟩) 3 3, .slice (some ⟨wr.heap.size + 1, 0, none⟩) 3 3, .slice (some ⟨wr.heap.size + 1 + 1, 0, none⟩) 3 3, .slice (some ⟨wr.heap.size + 1 + 1 + 1, 0, none⟩) 3 3, .slice (some ⟨wr.heap.size + 1 + 1 + 1 + 1, 0, none⟩) 3 3, .slice (some ⟨wr.heap.size + 1 + 1 + 1 + 1 + 1, 0, none⟩) 3 3] 26))
    (hbb : bb = wr.heap.size + 1 + 1 + 1 + 1 + 1 + 1) : Below wr.heap.size wr wt ∧ ∀ W, Below wt.heap.size wt W → ∀ k, k < 6 → ∃ br, W.cell? ⟨bb, k, none⟩ = some (.slice (some ⟨br, 0, none⟩) 3 3) ∧ W.cell? ⟨br, 0, none⟩ = some (.int .i64 (Im.bV.getD k 0)) ∧ W.cell? ⟨br, 1, none⟩ = some (.int .i64 (Im.tV.getD k 0)) ∧ W.cell? ⟨br, 2, none⟩ = some (.int .i64 (Im.nV.getD k 0 : Nat)) := by
  have e6 : wt.heap[bb]? = some (.cells #[.slice (some ⟨wr.heap.size, 0, none⟩) 3 3, .slice (some ⟨wr.heap.size + 1, 0, none⟩) 3 3, .slice (some ⟨wr.heap.size + 1 + 1, 0, none⟩) 3 3, .slice (some ⟨wr.heap.size + 1 + 1 + 1, 0, none⟩) 3 3, .slice (some ⟨wr.heap.size + 1 + 1 + 1 + 1, 0, none⟩) 3 3, .slice (some ⟨wr.heap.size + 1 + 1 + 1 + 1 + 1, 0, none⟩) 3 3] 26 (0, 0)) := by rw [hwt, hbb]; exact Im.at_new (by simp [World.size_alloc])
  have e0 : wt.heap[wr.heap.size]? = some (.cells #[.int .i64 6, .int .i64 3, .int .i64 1] 3 (0, 0)) := by rw [hwt]; exact Im.at_old (Im.at_old (Im.at_old (Im.at_old (Im.at_old (Im.at_old (Im.at_new rfl))))))
  have e1 : wt.heap[wr.heap.size + 1]? = some (.cells #[.int .i64 6, .int .i64 2, .int .i64 0] 3 (0, 0)) := by rw [hwt]; exact Im.at_old (Im.at_old (Im.at_old (Im.at_old (Im.at_old (Im.at_new (by simp [World.size_alloc]))))))
  have e2 : wt.heap[wr.heap.size + 1 + 1]? = some (.cells #[.int .i64 9, .int .i64 3, .int .i64 0] 3 (0, 0)) := by rw [hwt]; exact Im.at_old (Im.at_old (Im.at_old (Im.at_old (Im.at_new (by simp [World.size_alloc])))))
  have e3 : wt.heap[wr.heap.size + 1 + 1 + 1]? = some (.cells #[.int .i64 4, .int .i64 2, .int .i64 3] 3 (0, 0)) := by rw [hwt]; exact Im.at_old (Im.at_old (Im.at_old (Im.at_new (by simp [World.size_alloc]))))
  have e4 : wt.heap[wr.heap.size + 1 + 1 + 1 + 1]? = some (.cells #[.int .i64 7, .int .i64 3, .int .i64 0] 3 (0, 0)) := by rw [hwt]; exact Im.at_old (Im.at_old (Im.at_new (by simp [World.size_alloc])))
  have e5 : wt.heap[wr.heap.size + 1 + 1 + 1 + 1 + 1]? = some (.cells #[.int .i64 0, .int .i64 0, .int .i64 0] 3 (0, 0)) := by rw [hwt]; exact Im.at_old (Im.at_new (by simp [World.size_alloc]))
  have hb : Below wr.heap.size wr wt := by
    rw [hwt]
    exact (((((((Below.refl _ wr).alloc (by simp) _).alloc (by simp) _).alloc (by simp; omega) _).alloc (by simp; omega) _).alloc (by simp; omega) _).alloc (by simp; omega) _).alloc (by simp; omega) _
  clear hwt
  refine ⟨hb, fun W hB k hk => ?_⟩
  have up : ∀ {b : Nat} {o : Obj}, wt.heap[b]? = some o → W.heap[b]? = some o := fun h => (hB.block _ (Array.getElem?_eq_some_iff.1 h).1).trans h
  match k, hk with
  | 0, _ => exact ⟨_, row_cell (up e6) 0, row_cell (up e0) 0, row_cell (up e0) 1, row_cell (up e0) 2⟩
  | 1, _ => exact ⟨_, row_cell (up e6) 1, row_cell (up e1) 0, row_cell (up e1) 1, row_cell (up e1) 2⟩
  | 2, _ => exact ⟨_, row_cell (up e6) 2, row_cell (up e2) 0, row_cell (up e2) 1, row_cell (up e2) 2⟩
  | 3, _ => exact ⟨_, row_cell (up e6) 3, row_cell (up e3) 0, row_cell (up e3) 1, row_cell (up e3) 2⟩
  | 4, _ => exact ⟨_, row_cell (up e6) 4, row_cell (up e4) 0, row_cell (up e4) 1, row_cell (up e4) 2⟩
  | 5, _ => exact ⟨_, row_cell (up e6) 5, row_cell (up e5) 0, row_cell (up e5) 1, row_cell (up e5) 2⟩
theorem bt_in : ∀ k, k < 6 → InInt (Im.bV.getD k 0) ∧ InInt (Im.tV.getD k 0) := fun k hk => by
  match k, hk with
  | 0, _ => exact ⟨Im.in_of rfl, Im.in_of rfl⟩
  | 1, _ => exact ⟨Im.in_of rfl, Im.in_of rfl⟩
  | 2, _ => exact ⟨Im.in_of rfl, Im.in_of rfl⟩
  | 3, _ => exact ⟨Im.in_of rfl, Im.in_of rfl⟩
  | 4, _ => exact ⟨Im.in_of rfl, Im.in_of rfl⟩
  | 5, _ => exact ⟨Im.in_of rfl, Im.in_of rfl⟩
theorem from_in : ∀ k, k < 7 → InInt (Im.fromL.getD k 0) := fun k hk => by
  match k, hk with
  | 0, _ => exact Im.in_of rfl
  | 1, _ => exact Im.in_of rfl
  | 2, _ => exact Im.in_of rfl
  | 3, _ => exact Im.in_of rfl
  | 4, _ => exact Im.in_of rfl
  | 5, _ => exact Im.in_of rfl
  | 6, _ => exact Im.in_of rfl
theorem lit_at {w : World} {b : Nat} {t : TypeId} (l : List Int) (h : w.heap[b]? = some (.cells (ints l).toArray t (0, 0))) (k : Nat) (hk : k < l.length) : w.cell? ⟨b, k, none⟩ = some (.int .i64 (l.getD k 0)) := by
  rw [cell_of_row _ _ _ _ _ (0, 0) h, List.getElem?_toArray, ints_get l k hk, List.getD_eq_getElem?_getD, List.getElem?_eq_getElem hk]; rfl
attribute [local go_sem ↓] Im.loadAt_image Im.storeAt_image Im.loadAt_conf3 Im.storeAt_conf3
open Im in
set_option maxRecDepth 100000 in
set_option maxHeartbeats 12800000 in
theorem walk (w : World) : Calls Tryz.prog 8 #[] w fun e w' => e = .returned (.bool true) ∧ Below w.heap.size w w' := by
  have hm16 := make16
  have hm15 := make15
  have hm17 := make17
  have hm8 := make8
  obtain ⟨i0, hi, hz0, hz1, hz2⟩ := info_parts info_u8k
  have HPE : Hid (∀ W, Calls Tryz.prog 15 #[.agg #[.slice none 0 0, .slice none 0 0]] W fun e w' => Im.Told W.heap.size W (zeros 16) 16 e w') := hid (fun W => putIm_any W.heap.size W (Nat.le_refl _) [] 0 rfl [] 0 rfl ⟨by decide, by decide⟩ (by simp) (by decide) none none 0 0 ⟨IsRow.nil, by simp, by simp⟩ ⟨IsRow.nil, by simp⟩ 16 rfl)
  go_enter Tryz.func8, Tryz.ntmps8
  go_upto_region 1 with fail
  go_cut [34] from 30 to 33 (fun b wx => b = .bool false ∧ Hid (Below w.heap.size w wx))
  case first =>
    go_region_held3 (fun W => True ∧ True) (exact ⟨trivial, trivial⟩)
      (first
        | (go_at_call 15; refine (HPE.out w.drew).mono ?_; rintro e w3 ⟨A3, c3, rfl, h3⟩; have HB3 : Hid (Below w.heap.size w w3) := hid ((Below.refl _ w).drew.trans h3.put.bel); have HS := hid (same_T (w3.heap.size + 1) (w3.heap.size + 1) A3 (some ⟨w3.heap.size, 0, none⟩) c3 16 (zeros 16) 16 (zeros_length 16) (by unfold maxLen; omega) (w3.alloc (.cells (zeroRow 16) 5)) ((h3.own.reads.below ((Below.refl _ w3).alloc (Nat.le_refl _) _)).more (by omega)) (isBytes_new w3 (zeros 16) (zeros_small 16) _ _)); have HB4 : Hid (Below w.heap.size w (w3.alloc (.cells (zeroRow 16) 5))) := hid (HB3.out.alloc HB3.out.size _))
        | (go_at_call 15; refine (HPE.out (w.alloc (.cells (zeroRow 16) 5)).drew).mono ?_; rintro e w3 ⟨A3, c3, rfl, h3⟩; have HB4 : Hid (Below w.heap.size w w3) := hid (((Below.refl _ w).alloc (Nat.le_refl _) _).drew.trans (h3.put.bel.mono (show w.heap.size ≤ (w.alloc (.cells (zeroRow 16) 5)).heap.size by simp))); have HS := hid (same_T w3.heap.size w3.heap.size A3 (some ⟨w.heap.size, 0, none⟩) c3 16 (zeros 16) 16 (zeros_length 16) (by unfold maxLen; omega) w3 h3.own.reads (((isBytes_new w (zeros 16) (zeros_small 16) _ _).drew.below (show Below (w.heap.size + 1) _ _ from h3.put.bel.mono (show w.heap.size + 1 ≤ (w.alloc (.cells (zeroRow 16) 5)).heap.size by simp))).more (by have := h3.put.bel.size; have e : (w.alloc (.cells (zeroRow 16) 5)).drew.heap.size = w.heap.size + 1 := World.size_alloc _ _; omega))))
        | (go_at_call 14; refine HS.out.mono ?_; rintro e w5 ⟨rfl, n5, rfl⟩)
        | fail)
    all_goals
      have HB5 := hid (below_drewN HB4.out n5)
      generalize World.drewN _ n5 = w5 at *
      clear HB4 HS
      go_wp2_with fail
      go_meet
      exact ⟨rfl, HB5⟩
  case rest =>
    obtain ⟨rfl, HB0⟩ := hcut
    clear HPE
    obtain ⟨w0, hw0⟩ : ∃ w0, w0 = wc := ⟨_, rfl⟩
    rw [← hw0] at HB0 ⊢
    clear hw0
    have HX1 := hid (getZ_any 15 4 get15 (by decide) w0)
    go_wp2_with fail
    refine HX1.out.mono ?_
    rintro e wa1 ⟨i1, rfl, hb1⟩
    obtain ⟨wb1, hw2⟩ : ∃ wb1, wb1 = wa1.alloc (.cells #[.slice i1.h 0 i1.ch, .slice i1.v 0 i1.cv] 25) := ⟨_, rfl⟩
    have hstwb1 := stNew wa1 25 2 info_image2 #[.slice none 0 0, .slice none 0 0] #[.slice i1.h 0 i1.ch, .slice i1.v 0 i1.cv] rfl rfl (by simp [Value.oneCell'])
    rw [← hw2] at hstwb1
    have hb2 : Below wa1.heap.size wa1 wb1 := by rw [hw2]; exact (Below.refl _ _).alloc (Nat.le_refl _) _
    have rwb1 : wb1.heap[wa1.heap.size]? = some (.cells #[.slice i1.h 0 i1.ch, .slice i1.v 0 i1.cv] 25 (0, 0)) := by rw [hw2]; exact heap_alloc_new _ _
    have HB1 : Hid (Below w.heap.size w wb1) := hid (HB0.out.trans ((hb1.trans (hb2.mono hb1.size)).mono HB0.out.size))
    clear HB0 HX1 hb1 hb2 hw2
    clear rwb1
    have HX2 := hid (getZ_any 17 2 get17 (by decide) wb1)
    go_wp2_with fail
    refine HX2.out.mono ?_
    rintro e wa2 ⟨i2, rfl, hb1⟩
    obtain ⟨wb2, hw2⟩ : ∃ wb2, wb2 = wa2.alloc (.cells #[.slice i2.h 0 i2.ch, .slice i2.v 0 i2.cv] 25) := ⟨_, rfl⟩
    have hstwb2 := stNew wa2 25 2 info_image2 #[.slice none 0 0, .slice none 0 0] #[.slice i2.h 0 i2.ch, .slice i2.v 0 i2.cv] rfl rfl (by simp [Value.oneCell'])
    rw [← hw2] at hstwb2
    have hb2 : Below wa2.heap.size wa2 wb2 := by rw [hw2]; exact (Below.refl _ _).alloc (Nat.le_refl _) _
    have rwb2 : wb2.heap[wa2.heap.size]? = some (.cells #[.slice i2.h 0 i2.ch, .slice i2.v 0 i2.cv] 25 (0, 0)) := by rw [hw2]; exact heap_alloc_new _ _
    have HB2 : Hid (Below w.heap.size w wb2) := hid (HB1.out.trans ((hb1.trans (hb2.mono hb1.size)).mono HB1.out.size))
    clear HB1 HX2 hb1 hb2 hw2
    clear rwb2
    clear hstwb1
    have hown := (own_z wb2 8 (by unfold maxLen; omega)).alloc (.cells (bytes [255, 255, 255, 255, 255, 255, 255, 255]).toArray 5)
    have hrow := row_after wb2 8 [255, 255, 255, 255, 255, 255, 255, 255] b255_small
    go_wp2_with (at_builtin; refine wpList_append_bytesN rfl _ _ 35 rfl wb2.heap.size 5 i0 Tryz.underlying35 hi hz0 hz1 hz2 _ 8 (zeros 8) 8 (zeros_length 8) rfl hown (wb2.heap.size + 1 + 1) _ 8 [255, 255, 255, 255, 255, 255, 255, 255] 8 rfl rfl (fun e => by cases e) hrow Im.b255 rfl (by omega) (by simp; omega) ?_)
    intro A3 c3 wp2 hown3 hbel3
    have HBa2 : Hid (Below wb2.heap.size wb2 wp2) := hid ((((Below.refl _ wb2).alloc (Nat.le_refl _) _).alloc (by simp) _).trans hbel3)
    have HGa2 := hid (getN_any Im.b255 A3 c3 16 rfl 4 get255 (by decide) hown3.none_ wp2 hown3.reads)
    clear hown hrow hown3 hbel3
    go_wp2_with fail
    refine HGa2.out.mono ?_
    rintro e wa3 ⟨i3, rfl, hb0⟩
    have hb1 : Below wb2.heap.size wb2 wa3 := HBa2.out.trans (hb0.mono HBa2.out.size)
    obtain ⟨wb3, hw2⟩ : ∃ wb3, wb3 = wa3.alloc (.cells #[.slice i3.h 0 i3.ch, .slice i3.v 0 i3.cv] 25) := ⟨_, rfl⟩
    have hstwb3 := stNew wa3 25 2 info_image2 #[.slice none 0 0, .slice none 0 0] #[.slice i3.h 0 i3.ch, .slice i3.v 0 i3.cv] rfl rfl (by simp [Value.oneCell'])
    rw [← hw2] at hstwb3
    have hb2 : Below wa3.heap.size wa3 wb3 := by rw [hw2]; exact (Below.refl _ _).alloc (Nat.le_refl _) _
    have rwb3 : wb3.heap[wa3.heap.size]? = some (.cells #[.slice i3.h 0 i3.ch, .slice i3.v 0 i3.cv] 25 (0, 0)) := by rw [hw2]; exact heap_alloc_new _ _
    have HB3 : Hid (Below w.heap.size w wb3) := hid (HB2.out.trans ((hb1.trans (hb2.mono hb1.size)).mono HB2.out.size))
    clear HB2 HBa2 HGa2 hb0 hb1 hb2 hw2 rwb3
    have hown := (own_z wb3 8 (by unfold maxLen; omega)).alloc (.cells (bytes [0, 0, 0, 0, 0, 0, 0, 1]).toArray 5)
    have hrow := row_after wb3 8 [0, 0, 0, 0, 0, 0, 0, 1] b1_small
    go_wp2_with (at_builtin; refine wpList_append_bytesN rfl _ _ 35 rfl wb3.heap.size 5 i0 Tryz.underlying35 hi hz0 hz1 hz2 _ 8 (zeros 8) 8 (zeros_length 8) rfl hown (wb3.heap.size + 1 + 1) _ 8 [0, 0, 0, 0, 0, 0, 0, 1] 8 rfl rfl (fun e => by cases e) hrow Im.b1 rfl (by omega) (by simp; omega) ?_)
    intro A3 c3 wp3 hown3 hbel3
    have HBa3 : Hid (Below wb3.heap.size wb3 wp3) := hid ((((Below.refl _ wb3).alloc (Nat.le_refl _) _).alloc (by simp) _).trans hbel3)
    have HGa3 := hid (getN_any Im.b1 A3 c3 16 rfl 4 get1 (by decide) hown3.none_ wp3 hown3.reads)
    clear hown hrow hown3 hbel3
    go_wp2_with fail
    refine HGa3.out.mono ?_
    rintro e wa4 ⟨i4, rfl, hb0⟩
    have hb1 : Below wb3.heap.size wb3 wa4 := HBa3.out.trans (hb0.mono HBa3.out.size)
    obtain ⟨wb4, hw2⟩ : ∃ wb4, wb4 = wa4.alloc (.cells #[.slice i4.h 0 i4.ch, .slice i4.v 0 i4.cv] 25) := ⟨_, rfl⟩
    have hstwb4 := stNew wa4 25 2 info_image2 #[.slice none 0 0, .slice none 0 0] #[.slice i4.h 0 i4.ch, .slice i4.v 0 i4.cv] rfl rfl (by simp [Value.oneCell'])
    rw [← hw2] at hstwb4
    have hb2 : Below wa4.heap.size wa4 wb4 := by rw [hw2]; exact (Below.refl _ _).alloc (Nat.le_refl _) _
    have rwb4 : wb4.heap[wa4.heap.size]? = some (.cells #[.slice i4.h 0 i4.ch, .slice i4.v 0 i4.cv] 25 (0, 0)) := by rw [hw2]; exact heap_alloc_new _ _
    have HB4 : Hid (Below w.heap.size w wb4) := hid (HB3.out.trans ((hb1.trans (hb2.mono hb1.size)).mono HB3.out.size))
    clear HB3 HBa3 HGa3 hb0 hb1 hb2 hw2 rwb4
    have HX5 := hid (group_any wb4)
    go_wp2_with fail
    refine HX5.out.mono ?_
    rintro e wa5 ⟨i5, rfl, hb1⟩
    obtain ⟨wb5, hw2⟩ : ∃ wb5, wb5 = wa5.alloc (.cells #[.slice i5.h 0 i5.ch, .slice i5.v 0 i5.cv] 25) := ⟨_, rfl⟩
    have hstwb5 := stNew wa5 25 2 info_image2 #[.slice none 0 0, .slice none 0 0] #[.slice i5.h 0 i5.ch, .slice i5.v 0 i5.cv] rfl rfl (by simp [Value.oneCell'])
    rw [← hw2] at hstwb5
    have hb2 : Below wa5.heap.size wa5 wb5 := by rw [hw2]; exact (Below.refl _ _).alloc (Nat.le_refl _) _
    have rwb5 : wb5.heap[wa5.heap.size]? = some (.cells #[.slice i5.h 0 i5.ch, .slice i5.v 0 i5.cv] 25 (0, 0)) := by rw [hw2]; exact heap_alloc_new _ _
    have HB5 : Hid (Below w.heap.size w wb5) := hid (HB4.out.trans ((hb1.trans (hb2.mono hb1.size)).mono HB4.out.size))
    clear HB4 HX5 hb1 hb2 hw2
    clear rwb5
    have HX6 := hid (vote_any wb5)
    go_wp2_with fail
    refine HX6.out.mono ?_
    rintro e wa6 ⟨i6, rfl, hb1⟩
    obtain ⟨wb6, hw2⟩ : ∃ wb6, wb6 = wa6.alloc (.cells #[.slice i6.h 0 i6.ch, .slice i6.v 1 i6.cv] 25) := ⟨_, rfl⟩
    have hstwb6 := stNew wa6 25 2 info_image2 #[.slice none 0 0, .slice none 0 0] #[.slice i6.h 0 i6.ch, .slice i6.v 1 i6.cv] rfl rfl (by simp [Value.oneCell'])
    rw [← hw2] at hstwb6
    have hb2 : Below wa6.heap.size wa6 wb6 := by rw [hw2]; exact (Below.refl _ _).alloc (Nat.le_refl _) _
    have rwb6 : wb6.heap[wa6.heap.size]? = some (.cells #[.slice i6.h 0 i6.ch, .slice i6.v 1 i6.cv] 25 (0, 0)) := by rw [hw2]; exact heap_alloc_new _ _
    have HB6 : Hid (Below w.heap.size w wb6) := hid (HB5.out.trans ((hb1.trans (hb2.mono hb1.size)).mono HB5.out.size))
    clear HB5 HX6 hb1 hb2 hw2
    have HV : Hid (∀ wr, Below wb6.heap.size wb6 wr → wr.cell? ⟨wa6.heap.size, 1, none⟩ = some (.slice i6.v 1 i6.cv)) := hid (fun wr hb => row_cell ((hb.block _ (row_lt rwb6)).trans rwb6) 1)
    have HVB : Hid (Below wb6.heap.size wb6 wb6) := hid (Below.refl _ _)
    clear rwb6
    have HF7 := hid (first_any wb6)
    go_wp2_with fail
    refine HF7.out.mono ?_
    rintro e wf7 ⟨A7, a7, rfl, hh1, hn1, hbf⟩
    have HX7 := hid (kind_any 0 kind0_apply (by decide +kernel) (nums_of _ (by decide)) A7 a7 hn1 wf7 hh1)
    have HBf : Hid (Below wb6.heap.size wb6 wf7) := hid hbf
    clear hbf hh1 hn1
    go_wp2_with fail
    refine HX7.out.mono ?_
    rintro e wa7 ⟨i7, rfl, hb0⟩
    have hb1 : Below wb6.heap.size wb6 wa7 := HBf.out.trans (hb0.mono HBf.out.size)
    obtain ⟨wb7, hw2⟩ : ∃ wb7, wb7 = wa7.alloc (.cells #[.slice i7.h 0 i7.ch, .slice i7.v 0 i7.cv] 25) := ⟨_, rfl⟩
    have hstwb7 := stNew wa7 25 2 info_image2 #[.slice none 0 0, .slice none 0 0] #[.slice i7.h 0 i7.ch, .slice i7.v 0 i7.cv] rfl rfl (by simp [Value.oneCell'])
    rw [← hw2] at hstwb7
    have hb2 : Below wa7.heap.size wa7 wb7 := by rw [hw2]; exact (Below.refl _ _).alloc (Nat.le_refl _) _
    have rwb7 : wb7.heap[wa7.heap.size]? = some (.cells #[.slice i7.h 0 i7.ch, .slice i7.v 0 i7.cv] 25 (0, 0)) := by rw [hw2]; exact heap_alloc_new _ _
    have HVB2 : Hid (Below wb6.heap.size wb6 wb7) := hid (HVB.out.trans ((hb1.trans (hb2.mono hb1.size)).mono HVB.out.size))
    have HB7 : Hid (Below w.heap.size w wb7) := hid (HB6.out.trans ((hb1.trans (hb2.mono hb1.size)).mono HB6.out.size))
    clear HB6 HVB HF7 HX7 HBf hb0 hb1 hb2 hw2 rwb7
    have HVB := HVB2
    clear HVB2
    have HF8 := hid (first_any wb7)
    go_wp2_with fail
    refine HF8.out.mono ?_
    rintro e wf8 ⟨A8, a8, rfl, hh1, hn1, hbf⟩
    have HX8 := hid (kind_any 5 kind5_apply (by decide +kernel) (nums_of _ (by decide)) A8 a8 hn1 wf8 hh1)
    have HBf : Hid (Below wb7.heap.size wb7 wf8) := hid hbf
    clear hbf hh1 hn1
    go_wp2_with fail
    refine HX8.out.mono ?_
    rintro e wa8 ⟨i8, rfl, hb0⟩
    have hb1 : Below wb7.heap.size wb7 wa8 := HBf.out.trans (hb0.mono HBf.out.size)
    obtain ⟨wb8, hw2⟩ : ∃ wb8, wb8 = wa8.alloc (.cells #[.slice i8.h 0 i8.ch, .slice i8.v 0 i8.cv] 25) := ⟨_, rfl⟩
    have hstwb8 := stNew wa8 25 2 info_image2 #[.slice none 0 0, .slice none 0 0] #[.slice i8.h 0 i8.ch, .slice i8.v 0 i8.cv] rfl rfl (by simp [Value.oneCell'])
    rw [← hw2] at hstwb8
    have hb2 : Below wa8.heap.size wa8 wb8 := by rw [hw2]; exact (Below.refl _ _).alloc (Nat.le_refl _) _
    have rwb8 : wb8.heap[wa8.heap.size]? = some (.cells #[.slice i8.h 0 i8.ch, .slice i8.v 0 i8.cv] 25 (0, 0)) := by rw [hw2]; exact heap_alloc_new _ _
    have HVB2 : Hid (Below wb6.heap.size wb6 wb8) := hid (HVB.out.trans ((hb1.trans (hb2.mono hb1.size)).mono HVB.out.size))
    have HB8 : Hid (Below w.heap.size w wb8) := hid (HB7.out.trans ((hb1.trans (hb2.mono hb1.size)).mono HB7.out.size))
    clear HB7 HVB HF8 HX8 HBf hb0 hb1 hb2 hw2 rwb8
    have HVB := HVB2
    clear HVB2
    have hv := HV.out wb8 HVB.out
    obtain ⟨ws, hws⟩ : ∃ ws, ws = (wb8.alloc (.cells (ints fromL).toArray 3)).alloc (.cells (ints leftL).toArray 3) := ⟨_, rfl⟩
    have hbs : Below wb8.heap.size wb8 ws := by rw [hws]; exact ((Below.refl _ _).alloc (Nat.le_refl _) _).alloc (by simp) _
    have hss : ws.heap.size = wb8.heap.size + 1 + 1 := by rw [hws]; simp
    have hr1 : ws.heap[wb8.heap.size]? = some (.cells (ints fromL).toArray 3 (0, 0)) := by rw [hws]; exact at_old (at_new rfl)
    have hr2 : ws.heap[wb8.heap.size + 1]? = some (.cells (ints leftL).toArray 3 (0, 0)) := by rw [hws]; exact at_new (World.size_alloc _ _).symm
    obtain ⟨bf, hbf⟩ : ∃ bf, bf = wb8.heap.size := ⟨_, rfl⟩
    obtain ⟨bl, hbl⟩ : ∃ bl, bl = wb8.heap.size + 1 := ⟨_, rfl⟩
    have HS : Hid (∀ wr, Below ws.heap.size ws wr → ∀ k, k < 7 → wr.cell? ⟨bf, k, none⟩ = some (.int .i64 (fromL.getD k 0)) ∧ wr.cell? ⟨bl, k, none⟩ = some (.int .i64 (leftL.getD k 0))) := hid (fun wr hb k hk => by
      rw [hbf, hbl]
      exact ⟨lit_at fromL ((hb.block _ (row_lt hr1)).trans hr1) k hk, lit_at leftL ((hb.block _ (row_lt hr2)).trans hr2) k hk⟩)
    have HB := hid (HB8.out.trans (hbs.mono HB8.out.size))
    have hws' : (wb8.alloc (.cells #[.int .i64 3, .int .i64 4, .int .i64 5, .int .i64 8, .int .i64 9, .int .i64 (-9223372036854775808), .int .i64 9223372036854775807] 3)).alloc (.cells #[.int .i64 (-1), .int .i64 (-1), .int .i64 1, .int .i64 4, .int .i64 (-1), .int .i64 (-1), .int .i64 (-1)] 3) = ws := hws.symm
    clear HB8 hbs hws HV HVB hr1 hr2 hss
    go_wp2_with fail
    rw [← hbl, ← hbf]
    clear hws' hv hbf hbl
    go_loopw [19] (fun i wr => ∃ k : Nat, k ≤ 7 ∧ i = .int .i64 (k : Int) ∧ Hid (Below ws.heap.size ws wr)) (fun i _ => 7 - (RowKit.intOf i).toNat)
    case atStart => exact ⟨0, by omega, by simp, hid (Below.refl _ _)⟩
    case round =>
      obtain ⟨k, hk, rfl, HI⟩ := hrel
      by_cases hlt : k < 7
      · have hlt0 : (k : Int) < 7 := by omega
        obtain ⟨f, hf⟩ : ∃ f, fromL.getD k 0 = f := ⟨_, rfl⟩
        obtain ⟨v, hv⟩ : ∃ v, leftL.getD k 0 = v := ⟨_, rfl⟩
        have HFC : Hid ((∀ W, Below ws.heap.size ws W → W.cell? ⟨bf, k, none⟩ = some (.int .i64 f) ∧ W.cell? ⟨bl, k, none⟩ = some (.int .i64 v)) ∧ fewC (logC f) = true ∧ InInt f ∧ (((apply ⟨[firstH], []⟩ (logC f)).2 = 0 ∧ ∃ y, (apply ⟨[firstH], []⟩ (logC f)).1 = ⟨[y], []⟩ ∧ ((y.p.log.es.length : Nat) : Int) = v) ∨ ((apply ⟨[firstH], []⟩ (logC f)).2 = 3 ∧ v = -1 ∧ (apply ⟨[firstH], []⟩ (logC f)).1 = ⟨[], []⟩))) := hid (by
          have h1 := log_fact hlt
          rw [hf, hv] at h1
          have h2 : InInt f := by rw [← hf]; exact from_in k hlt
          exact ⟨fun W hb => by have := HS.out W hb k hlt; rw [hf, hv] at this; exact this, h1.1, h2, h1.2⟩)
        clear hf hv
        go_wp2_with fail
        obtain ⟨ie, hie, hez0, hez1, hez2⟩ := info_parts info_ent3
        refine wp_region_store (w0 := wr) 14 15 20 13 _ _ _ (CL bf k f (apply ⟨[firstH], []⟩ (logC f)) wr) [129, 130, 131, 132, 133, 134, 135, 136, 137, 138, 128, 139, 140, 20] _ (by kernel_rfl) rfl rfl (by kernel_rfl) (by kernel_rfl) (by decide) (by decide) (by kernel_rfl) (by kernel_rfl) (by kernel_rfl) ?arms ?late rfl ?store ?he
        case arms =>
          exact ⟨(.inr ⟨rfl, fun a W hb hkp hw => goes_call0 (by go_simp) ((first_any W).mono (by rintro e w' ⟨A, a1, rfl, hh, hn, hb'⟩; exact ⟨_, rfl, ⟨A, a1, rfl, hn, hh⟩, hb'⟩))⟩),
            (.inr ⟨rfl, fun a W hb hkp hw => goes_move (hkp 17 (by decide)) rfl⟩),
            (.inr ⟨rfl, fun a W hb hkp hw => goes_move (hkp 19 (by decide)) rfl⟩),
            (.inr ⟨rfl, fun a W hb hkp hw => goes_index (v1 := .slice (some ⟨bf, 0, none⟩) 7 7) (v2 := .int .i64 k) (hw 1 130 (by kernel_rfl)) (hw 2 131 (by kernel_rfl)) (show (Instr.indexAt _ _ _).run _ W = .ok (.pointer (some ⟨bf, k, none⟩)) W by clear hkp hw hb; go_simp) rfl⟩),
            (.inr ⟨rfl, fun a W hb hkp hw => goes_load (v1 := .pointer (some ⟨bf, k, none⟩)) (hw 3 132 (by kernel_rfl)) (show (Instr.loadAt _ _).run _ W = .ok (.int .i64 f) W by have hc := (HFC.out.1 W (HI.out.trans (hb.mono HI.out.size))).1; clear hkp hw hb; go_simp) rfl⟩),
            (.inr ⟨rfl, fun a W hb hkp hw => goes_build entRow [(0, .int .i64 9)] (by simp [ev_const0]) (by kernel_rfl) rfl⟩),
            (.inr ⟨rfl, fun a W hb hkp hw => goes_slice entRow 3 hez1 Tryz.underlying56 hie hez0 (by decide) (by decide) [(0, .agg entRow)] (by
              have e1 : a.eval (.tmp 134) = .agg entRow := hw 5 134 (by kernel_rfl)
              simp [e1]) (by kernel_rfl) ⟨W.heap.size, Nat.zero_le _, rfl, heap_alloc_new _ _⟩⟩),
            (.inr ⟨rfl, fun a W hb hkp hw => by
              obtain ⟨b, _, e1, hr⟩ := hw 6 135 (by kernel_rfl)
              exact goes_build #[.int .i64 0, .int .i64 0, .slice (some ⟨b, 0, none⟩) 1 1] [(2, .slice (some ⟨b, 0, none⟩) 1 1)] (by simp [e1]) (by kernel_rfl) ⟨b, Nat.zero_le _, rfl, hr⟩⟩),
            (.inr ⟨rfl, fun a W hb hkp hw => by
              obtain ⟨b, _, e1, hr⟩ := hw 7 136 (by kernel_rfl)
              have e2 : a.eval (.tmp 133) = .int .i64 f := hw 4 133 (by kernel_rfl)
              exact goes_build #[.int .i64 2, .int .i64 1, .int .i64 0, .int .i64 0, .int .i64 f, .int .i64 0, .int .i64 0, .slice (some ⟨b, 0, none⟩) 1 1, .slice none 0 0, .slice none 0 0, .slice none 0 0, .slice none 0 0, .int .i64 0, .int .i64 0, .int .i64 0, .int .i64 0, .int .i64 0] [(0, .int .i64 2), (1, .int .i64 1), (4, .int .i64 f), (5, .agg #[.int .i64 0, .int .i64 0, .slice (some ⟨b, 0, none⟩) 1 1])] (by simp [e1, e2, ev_const0]) (by kernel_rfl) ⟨b, Nat.zero_le _, rfl, hr⟩⟩),
            (.inr ⟨rfl, fun a W hb hkp hw => by
              obtain ⟨A, a1, e1, hn, hh⟩ := hw 0 129 (by kernel_rfl)
              obtain ⟨b, _, e2, hr⟩ := hw 8 137 (by kernel_rfl)
              exact goes_call2 e1 e2 (by go_simp) ((log_any f HFC.out.2.1 HFC.out.2.2.1 A a1 hn b W hh hr).mono fun e w' h => toldP_of h)⟩),
            (.inr ⟨rfl, fun a W hb hkp hw => goes_move rfl (hw 9 138 (by kernel_rfl))⟩),
            (.inr ⟨rfl, fun a W hb hkp hw => by
              obtain ⟨i, nh, nv, e1, h1⟩ := hw 10 128 (by kernel_rfl)
              exact goes_ext e1 rfl ⟨i, nh, nv, rfl, h1⟩⟩),
            (.inr ⟨rfl, fun a W hb hkp hw => by
              obtain ⟨i, nh, nv, e1, h1⟩ := hw 10 128 (by kernel_rfl)
              exact goes_ext e1 rfl rfl⟩),
            (.inr ⟨rfl, fun a W hb hkp hw => goes_new run_boxI ⟨W.heap.size, hb.size, rfl, heap_alloc_new _ _⟩⟩),
            .inl rfl, trivial⟩
        case late =>
          exact ⟨.inr (.inl (by kernel_rfl)), .inr (.inl (by kernel_rfl)), .inr (.inl (by kernel_rfl)), .inr (.inl (by kernel_rfl)), .inr (.inl (by kernel_rfl)), .inr (.inl (by kernel_rfl)), .inr (.inl (by kernel_rfl)), .inr (.inl (by kernel_rfl)), .inr (.inl (by kernel_rfl)), .inr (.inl (by kernel_rfl)), .inr (.inl (by kernel_rfl)), .inr (.inl (by kernel_rfl)),
            .inr (.inr ⟨rfl, fun a W h => by
              obtain ⟨x, e1⟩ : ∃ x, a.eval (.tmp 128) = .tuple #[x, .int .i64 (apply ⟨[firstH], []⟩ (logC f)).2] := h 10 128 (by kernel_rfl)
              exact ⟨_, run_ext e1 rfl, rfl⟩⟩),
            .inr (.inl (by kernel_rfl)), .inl rfl, trivial⟩
        case store =>
          intro a W hb hkp hw
          exact store_img hb (hw 11 139 (by kernel_rfl)) (hw 13 20 (by kernel_rfl))
        case he =>
          intro u wz hH hK
          have e12 : u 140 = .int .i64 (apply ⟨[firstH], []⟩ (logC f)).2 := hH 12 140 (by decide) (by kernel_rfl)
          obtain ⟨b, i, nh, nv, e13, r13, hB, hy⟩ : KI wr (apply ⟨[firstH], []⟩ (logC f)) (u 20) wz := hK
          clear hH
          obtain ⟨er, her⟩ : ∃ er, er = (apply ⟨[firstH], []⟩ (logC f)).2 := ⟨_, rfl⟩
          rw [← her] at e12
          simp only [putAll, List.foldl_cons, List.foldl_nil, e12, e13]
          have HZ := hid (And.intro her (And.intro r13 (And.intro hB hy)))
          clear e12 e13 her r13 hB hy hlt
          rcases HFC.out.2.2.2 with ⟨q1, y, q2, q3⟩ | ⟨q1, q2, q3⟩
          · obtain rfl : er = 0 := HZ.out.1.trans q1
            obtain ⟨hn1, g, off, ay, hA, hr⟩ := HZ.out.2.2.2 y q2
            obtain ⟨q, hq⟩ : ∃ q : Nat, y.p.log.es.length = q := ⟨_, rfl⟩
            rw [hq] at q3
            have c20 : wz.cell? ⟨b, 0, none⟩ = some (.slice (some ⟨g, off, none⟩) 1 i.ch) := by rw [← hA, ← hn1]; exact row_cell HZ.out.2.1 0
            have cg : wz.cell? ⟨g, off + 5, none⟩ = some (.slice ay.e q ay.ce) := by rw [← hq]; exact hr 5 _ rfl
            have cl : wz.cell? ⟨bl, k, none⟩ = some (.int .i64 (q : Int)) := by rw [q3]; exact (HFC.out.1 wz (HI.out.trans (HZ.out.2.2.1.mono HI.out.size))).2
            have hq0 : (0 : Int) ≤ (q : Int) := by omega
            have HI2 := hid (HI.out.trans (HZ.out.2.2.1.mono HI.out.size))
            clear hn1 hA hr hq q3 q1 q2
            go_wp2_with fail
            go_quiet (fail)
            go_wp2
            go_roundw
            case rel => exact ⟨k + 1, by omega, by go_num, hid (below_drewN HI2.out _)⟩
            case measure => simp [RowKit.intOf]; omega
          · obtain rfl : er = 3 := HZ.out.1.trans q1
            have c20 : wz.cell? ⟨b, 0, none⟩ = some (.slice i.h nh i.ch) := row_cell HZ.out.2.1 0
            have cl : wz.cell? ⟨bl, k, none⟩ = some (.int .i64 v) := (HFC.out.1 wz (HI.out.trans (HZ.out.2.2.1.mono HI.out.size))).2
            rw [q2] at cl
            have HI2 := hid (HI.out.trans (HZ.out.2.2.1.mono HI.out.size))
            clear q1 q2 q3
            go_wp2_with fail
            go_quiet (fail)
            go_wp2
            go_roundw
            case rel => exact ⟨k + 1, by omega, by go_num, hid (below_drewN HI2.out _)⟩
            case measure => simp [RowKit.intOf]; omega
      · have hlt0 : ¬ (k : Int) < 7 := by omega
        have HB2 := hid (HB.out.trans (HI.out.mono HB.out.size))
        clear HB HI HS hlt hk
        obtain ⟨wt, hwt⟩ : ∃ wt, wt = ((((((wr.alloc (.cells #[.int .i64 6, .int .i64 3, .int .i64 1] 3)).alloc (.cells #[.int .i64 6, .int .i64 2, .int .i64 0] 3)).alloc (.cells #[.int .i64 9, .int .i64 3, .int .i64 0] 3)).alloc (.cells #[.int .i64 4, .int .i64 2, .int .i64 3] 3)).alloc (.cells #[.int .i64 7, .int .i64 3, .int .i64 0] 3)).alloc (.cells #[.int .i64 0, .int .i64 0, .int .i64 0] 3)).alloc (.cells #[.slice (some ⟨wr.heap.size, 0, none⟩) 3 3, .slice (some ⟨wr.heap.size + 1, 0, none⟩) 3 3, .slice (some ⟨wr.heap.size + 1 + 1, 0, none⟩) 3 3, .slice (some ⟨wr.heap.size + 1 + 1 + 1, 0, none⟩) 3 3, .slice (some ⟨wr.heap.size + 1 + 1 + 1 + 1, 0, none⟩) 3 3, .slice (some ⟨wr.heap.size + 1 + 1 + 1 + 1 + 1, 0, none⟩) 3 3] 26) := ⟨_, rfl⟩
        obtain ⟨bb, hbb⟩ : ∃ bb, bb = wr.heap.size + 1 + 1 + 1 + 1 + 1 + 1 := ⟨_, rfl⟩
        have HS := hid (rows_k wr wt bb hwt hbb)
        have HB := hid (HB2.out.trans (HS.out.1.mono HB2.out.size))
        have hwt' := hwt.symm
        clear HB2 hwt
        go_wp2_with fail
        rw [← hbb]
        clear hwt' hbb
        go_loopw [23] (fun i wx => ∃ k : Nat, k ≤ 6 ∧ i = .int .i64 (k : Int) ∧ Hid (Below wt.heap.size wt wx)) (fun i _ => 6 - (RowKit.intOf i).toNat)
        case atStart => exact ⟨0, by omega, by simp, hid (Below.refl _ _)⟩
        case round =>
          obtain ⟨k, hk, rfl, HI⟩ := hrel
          by_cases hlt : k < 6
          · have hlt0 : (k : Int) < 6 := by omega
            obtain ⟨t1, ht1⟩ : ∃ t1, bV.getD k 0 = t1 := ⟨_, rfl⟩
            obtain ⟨t2, ht2⟩ : ∃ t2, tV.getD k 0 = t2 := ⟨_, rfl⟩
            obtain ⟨t3, ht3⟩ : ∃ t3, nV.getD k 0 = t3 := ⟨_, rfl⟩
            obtain ⟨br, hbr⟩ := HS.out.2 wr (HI.out) k hlt
            rw [ht1, ht2, ht3] at hbr
            have hcells : ∀ W, Below wr.heap.size wr W → W.cell? ⟨bb, k, none⟩ = some (.slice (some ⟨br, 0, none⟩) 3 3) ∧ W.cell? ⟨br, 0, none⟩ = some (.int .i64 t1) ∧ W.cell? ⟨br, 1, none⟩ = some (.int .i64 t2) ∧ W.cell? ⟨br, 2, none⟩ = some (.int .i64 (t3 : Nat)) := fun W hb => by
              have lt : ∀ {p : Addr} {v : Value}, wr.cell? p = some v → p.block < wr.heap.size := fun h => World.block_lt_of_cell? _ _ h
              exact ⟨(hb.cell (lt hbr.1)).trans hbr.1, (hb.cell (lt hbr.2.1)).trans hbr.2.1, (hb.cell (lt hbr.2.2.1)).trans hbr.2.2.1, (hb.cell (lt hbr.2.2.2)).trans hbr.2.2.2⟩
            have HFC := hid (And.intro hcells (And.intro (by have := (snap_fact hlt).1; rw [ht1, ht2] at this; exact this) (And.intro (by rw [← ht1, ← ht2]; exact bt_in k hlt) (And.intro (by have := (snap_fact hlt).2.1; rw [ht1, ht2] at this; exact this) (And.intro (show (ySnap k).p.log.es.length = t3 from by rw [← ht3]; exact (snap_fact hlt).2.2) (And.intro (show (ySnap k).p.log.base = t1 from ht1) (show (ySnap k).p.log.term = t2 from ht2)))))) : Hid (_ ∧ fewC (snapC t1 t2) = true ∧ (InInt t1 ∧ InInt t2) ∧ apply ⟨[firstH], []⟩ (snapC t1 t2) = (⟨[ySnap k], []⟩, 0) ∧ _))
            clear ht1 ht2 ht3 hbr hcells hlt
            go_wp2_with fail
            obtain ⟨i1, hi1, hiz0, hiz1, hiz2⟩ := info_parts I.info_int
            refine wp_region_store (w0 := wr) 23 24 24 22 _ _ _ (CSn bb br k t1 t2 (apply ⟨[firstH], []⟩ (snapC t1 t2)) wr) [189, 190, 191, 192, 193, 194, 195, 196, 197, 198, 199, 200, 201, 202, 203, 204, 205, 206, 207, 188, 208, 209, 24] _ (by kernel_rfl) rfl rfl (by kernel_rfl) (by kernel_rfl) (by decide) (by decide) (by kernel_rfl) (by kernel_rfl) (by kernel_rfl) ?arms ?late rfl ?store ?he
            case arms =>
              exact ⟨(.inr ⟨rfl, fun a W hb hkp hw => goes_call0 (by go_simp) ((first_any W).mono (by rintro e w' ⟨A, a1, rfl, hh, hn, hb'⟩; exact ⟨_, rfl, ⟨A, a1, rfl, hn, hh⟩, hb'⟩))⟩),
                (.inr ⟨rfl, fun a W hb hkp hw => goes_move (hkp 22 (by decide)) rfl⟩),
                (.inr ⟨rfl, fun a W hb hkp hw => goes_move (hkp 23 (by decide)) rfl⟩),
                (.inr ⟨rfl, fun a W hb hkp hw => goes_index (v1 := .slice (some ⟨bb, 0, none⟩) 6 6) (v2 := .int .i64 k) (hw 1 190 (by kernel_rfl)) (hw 2 191 (by kernel_rfl)) (show (Instr.indexAt _ _ _).run _ W = .ok (.pointer (some ⟨bb, k, none⟩)) W by clear hkp hw hb; go_simp) rfl⟩),
                (.inr ⟨rfl, fun a W hb hkp hw => goes_load (v1 := .pointer (some ⟨bb, k, none⟩)) (hw 3 192 (by kernel_rfl)) (show (Instr.loadAt _ _).run _ W = .ok (.slice (some ⟨br, 0, none⟩) 3 3) W by have hc := (HFC.out.1 W hb).1; clear hkp hw hb; go_simp) rfl⟩),
                (.inr ⟨rfl, fun a W hb hkp hw => goes_index (v1 := .slice (some ⟨br, 0, none⟩) 3 3) (v2 := .int .i64 0) (hw 4 193 (by kernel_rfl)) rfl (show (Instr.indexAt _ _ _).run _ W = .ok (.pointer (some ⟨br, 0, none⟩)) W by clear hkp hw hb; go_simp) rfl⟩),
                (.inr ⟨rfl, fun a W hb hkp hw => goes_load (v1 := .pointer (some ⟨br, 0, none⟩)) (hw 5 194 (by kernel_rfl)) (show (Instr.loadAt _ _).run _ W = .ok (.int .i64 t1) W by have hc := (HFC.out.1 W hb).2.1; clear hkp hw hb; go_simp) rfl⟩),
                (.inr ⟨rfl, fun a W hb hkp hw => goes_move (hkp 22 (by decide)) rfl⟩),
                (.inr ⟨rfl, fun a W hb hkp hw => goes_move (hkp 23 (by decide)) rfl⟩),
                (.inr ⟨rfl, fun a W hb hkp hw => goes_index (v1 := .slice (some ⟨bb, 0, none⟩) 6 6) (v2 := .int .i64 k) (hw 7 196 (by kernel_rfl)) (hw 8 197 (by kernel_rfl)) (show (Instr.indexAt _ _ _).run _ W = .ok (.pointer (some ⟨bb, k, none⟩)) W by clear hkp hw hb; go_simp) rfl⟩),
                (.inr ⟨rfl, fun a W hb hkp hw => goes_load (v1 := .pointer (some ⟨bb, k, none⟩)) (hw 9 198 (by kernel_rfl)) (show (Instr.loadAt _ _).run _ W = .ok (.slice (some ⟨br, 0, none⟩) 3 3) W by have hc := (HFC.out.1 W hb).1; clear hkp hw hb; go_simp) rfl⟩),
                (.inr ⟨rfl, fun a W hb hkp hw => goes_index (v1 := .slice (some ⟨br, 0, none⟩) 3 3) (v2 := .int .i64 1) (hw 10 199 (by kernel_rfl)) rfl (show (Instr.indexAt _ _ _).run _ W = .ok (.pointer (some ⟨br, 1, none⟩)) W by clear hkp hw hb; go_simp) rfl⟩),
                (.inr ⟨rfl, fun a W hb hkp hw => goes_load (v1 := .pointer (some ⟨br, 1, none⟩)) (hw 11 200 (by kernel_rfl)) (show (Instr.loadAt _ _).run _ W = .ok (.int .i64 t2) W by have hc := (HFC.out.1 W hb).2.2.1; clear hkp hw hb; go_simp) rfl⟩),
                (.inr ⟨rfl, fun a W hb hkp hw => by
                have e1 : a.eval (.tmp 195) = .int .i64 t1 := hw 6 195 (by kernel_rfl)
                have e2 : a.eval (.tmp 201) = .int .i64 t2 := hw 12 201 (by kernel_rfl)
                exact goes_build #[.int .i64 t1, .int .i64 t2, .slice none 0 0] [(0, .int .i64 t1), (1, .int .i64 t2)] (by simp [e1, e2]) (by kernel_rfl) rfl⟩),
                (.inr ⟨rfl, fun a W hb hkp hw => goes_slice row7 1 hiz1 Tryz.underlying26 hi1 hiz0 (by decide) (by decide) [(0, .int .i64 7)] (by simp [ev_const0]) (by kernel_rfl) ⟨W.heap.size, Nat.zero_le _, rfl, heap_alloc_new _ _⟩⟩),
                (.inr ⟨rfl, fun a W hb hkp hw => by
                obtain ⟨b, _, e1, hr⟩ := hw 14 203 (by kernel_rfl)
                exact goes_build #[.slice (some ⟨b, 0, none⟩) 1 1, .slice none 0 0, .slice none 0 0] [(0, .slice (some ⟨b, 0, none⟩) 1 1)] (by simp [e1]) (by kernel_rfl) ⟨b, Nat.zero_le _, rfl, hr⟩⟩),
                (.inr ⟨rfl, fun a W hb hkp hw => goes_slice row5 1 hz1 Tryz.underlying35 hi hz0 (by decide) (by decide) [(0, .int .u8 5)] (by simp [ev_const0]) (by kernel_rfl) ⟨W.heap.size, Nat.zero_le _, rfl, heap_alloc_new _ _⟩⟩),
                (.inr ⟨rfl, fun a W hb hkp hw => by
                have e1 : a.eval (.tmp 202) = .agg #[.int .i64 t1, .int .i64 t2, .slice none 0 0] := hw 13 202 (by kernel_rfl)
                obtain ⟨b, _, e2, hr⟩ := hw 15 204 (by kernel_rfl)
                obtain ⟨b', _, e3, hr'⟩ := hw 16 205 (by kernel_rfl)
                exact goes_build #[.int .i64 3, .int .i64 1, .int .i64 0, .int .i64 0, .int .i64 0, .int .i64 t1, .int .i64 t2, .slice none 0 0, .slice (some ⟨b, 0, none⟩) 1 1, .slice none 0 0, .slice none 0 0, .slice (some ⟨b', 0, none⟩) 1 1, .int .i64 0, .int .i64 0, .int .i64 0, .int .i64 0, .int .i64 0] [(0, .int .i64 3), (1, .int .i64 1), (5, .agg #[.int .i64 t1, .int .i64 t2, .slice none 0 0]), (6, .agg #[.slice (some ⟨b, 0, none⟩) 1 1, .slice none 0 0, .slice none 0 0]), (7, .slice (some ⟨b', 0, none⟩) 1 1)] (by simp [e1, e2, e3, ev_const0]) (by kernel_rfl) ⟨b, b', rfl, hr, hr'⟩⟩),
                (.inr ⟨rfl, fun a W hb hkp hw => by
                obtain ⟨A, a1, e1, hn, hh⟩ := hw 0 189 (by kernel_rfl)
                obtain ⟨b, b', e2, hr, hr'⟩ := hw 17 206 (by kernel_rfl)
                exact goes_call2 e1 e2 (by go_simp) ((snap_any t1 t2 HFC.out.2.1 HFC.out.2.2.1 A a1 hn b b' W hh hr hr').mono fun e w' h => toldP_of h)⟩),
                (.inr ⟨rfl, fun a W hb hkp hw => goes_move rfl (hw 18 207 (by kernel_rfl))⟩),
                (.inr ⟨rfl, fun a W hb hkp hw => by
                obtain ⟨i, nh, nv, e1, h1⟩ := hw 19 188 (by kernel_rfl)
                exact goes_ext e1 rfl ⟨i, nh, nv, rfl, h1⟩⟩),
                (.inr ⟨rfl, fun a W hb hkp hw => by
                obtain ⟨i, nh, nv, e1, h1⟩ := hw 19 188 (by kernel_rfl)
                exact goes_ext e1 rfl rfl⟩),
                (.inr ⟨rfl, fun a W hb hkp hw => goes_new run_boxI ⟨W.heap.size, hb.size, rfl, heap_alloc_new _ _⟩⟩),
                .inl rfl,
                trivial⟩
            case late =>
              exact ⟨.inr (.inl (by kernel_rfl)), .inr (.inl (by kernel_rfl)), .inr (.inl (by kernel_rfl)), .inr (.inl (by kernel_rfl)), .inr (.inl (by kernel_rfl)), .inr (.inl (by kernel_rfl)), .inr (.inl (by kernel_rfl)), .inr (.inl (by kernel_rfl)), .inr (.inl (by kernel_rfl)), .inr (.inl (by kernel_rfl)), .inr (.inl (by kernel_rfl)), .inr (.inl (by kernel_rfl)), .inr (.inl (by kernel_rfl)), .inr (.inl (by kernel_rfl)), .inr (.inl (by kernel_rfl)), .inr (.inl (by kernel_rfl)), .inr (.inl (by kernel_rfl)), .inr (.inl (by kernel_rfl)), .inr (.inl (by kernel_rfl)), .inr (.inl (by kernel_rfl)), .inr (.inl (by kernel_rfl)),
                .inr (.inr ⟨rfl, fun a W h => by
                  obtain ⟨x, e1⟩ : ∃ x, a.eval (.tmp 188) = .tuple #[x, .int .i64 (apply ⟨[firstH], []⟩ (snapC t1 t2)).2] := h 19 188 (by kernel_rfl)
                  exact ⟨_, run_ext e1 rfl, rfl⟩⟩),
                .inr (.inl (by kernel_rfl)), .inl rfl, trivial⟩
            case store =>
              intro a W hb hkp hw
              exact store_img hb (hw 20 208 (by kernel_rfl)) (hw 22 24 (by kernel_rfl))
            case he =>
              intro u wz hH hK
              have e12 : u 209 = .int .i64 (apply ⟨[firstH], []⟩ (snapC t1 t2)).2 := hH 21 209 (by decide) (by kernel_rfl)
              obtain ⟨b, i, nh, nv, e13, r13, hB, hy⟩ : KI wr (apply ⟨[firstH], []⟩ (snapC t1 t2)) (u 24) wz := hK
              clear hH
              have hap := HFC.out.2.2.2.1
              rw [hap] at e12 hy
              simp only [putAll, List.foldl_cons, List.foldl_nil, e12, e13]
              obtain ⟨hn1, g, off, ay, hA, hr⟩ := hy (ySnap k) rfl
              have hcl := HFC.out.1 wz hB
              have c20 : wz.cell? ⟨b, 0, none⟩ = some (.slice (some ⟨g, off, none⟩) 1 i.ch) := by rw [← hA, ← hn1]; exact row_cell r13 0
              have d1 : wz.cell? ⟨bb, k, none⟩ = some (.slice (some ⟨br, 0, none⟩) 3 3) := hcl.1
              have d2 : wz.cell? ⟨br, 0, none⟩ = some (.int .i64 t1) := hcl.2.1
              have d3 : wz.cell? ⟨br, 1, none⟩ = some (.int .i64 t2) := hcl.2.2.1
              have d4 : wz.cell? ⟨br, 2, none⟩ = some (.int .i64 (t3 : Nat)) := hcl.2.2.2
              have f1 : wz.cell? ⟨g, off + 1, none⟩ = some (.int .i64 3) := hr 1 _ rfl
              have f3 : wz.cell? ⟨g, off + 3, none⟩ = some (.int .i64 t1) := by rw [← HFC.out.2.2.2.2.2.1]; exact hr 3 _ rfl
              have f4 : wz.cell? ⟨g, off + 4, none⟩ = some (.int .i64 t2) := by rw [← HFC.out.2.2.2.2.2.2]; exact hr 4 _ rfl
              have f5 : wz.cell? ⟨g, off + 5, none⟩ = some (.slice ay.e t3 ay.ce) := by rw [← HFC.out.2.2.2.2.1]; exact hr 5 _ rfl
              have f6 : wz.cell? ⟨g, off + 6, none⟩ = some (.slice ay.o 1 ay.co) := hr 6 _ rfl
              have f9 : wz.cell? ⟨g, off + 9, none⟩ = some (.slice ay.s 1 ay.cs) := hr 9 _ rfl
              have HI2 := hid (HI.out.trans (hB.mono HI.out.size))
              clear e12 e13 r13 hB hy hap hn1 hA hr hcl HI HFC
              go_wp2_with fail
              go_quiet (fail)
              go_wp2
              go_roundw
              case rel => exact ⟨k + 1, by omega, by go_num, hid (below_drewN HI2.out _)⟩
              case measure => simp [RowKit.intOf]; omega
          · have hlt0 : ¬ (k : Int) < 6 := by omega
            have HB2 := hid (HB.out.trans (HI.out.mono HB.out.size))
            clear HB HI HS hlt hk
            have HP := hid (put12_any wr)
            go_wp2_with fail
            refine HP.out.mono ?_
            rintro e w2 ⟨A2, c2, rfl, ho2, hb2⟩
            have HG := hid (get12_any A2 c2 w2 _ ho2)
            have HB3 := hid (HB2.out.trans (hb2.mono HB2.out.size))
            clear HP HB2 ho2 hb2
            go_wp2_with fail
            refine HG.out.mono ?_
            rintro e w3 ⟨a3, rfl, hb3⟩
            obtain ⟨w4, hw4⟩ : ∃ w4, w4 = w3.alloc (.cells #[.slice a3.o 2 a3.co, .slice a3.n 0 a3.cn, .slice a3.l 1 a3.cl] 28) := ⟨_, rfl⟩
            have hst4 := stNew w3 28 3 info_conf33 #[.slice none 0 0, .slice none 0 0, .slice none 0 0] #[.slice a3.o 2 a3.co, .slice a3.n 0 a3.cn, .slice a3.l 1 a3.cl] rfl rfl (by simp [Value.oneCell'])
            rw [← hw4] at hst4
            have hb4 : Below w3.heap.size w3 w4 := by rw [hw4]; exact (Below.refl _ _).alloc (Nat.le_refl _) _
            have r4 : w4.heap[w3.heap.size]? = some (.cells #[.slice a3.o 2 a3.co, .slice a3.n 0 a3.cn, .slice a3.l 1 a3.cl] 28 (0, 0)) := by rw [hw4]; exact heap_alloc_new _ _
            have HB4 := hid (HB3.out.trans ((hb3.trans (hb4.mono hb3.size)).mono HB3.out.size))
            have HR := hid (And.intro r4 (Below.refl w4.heap.size w4))
            have HP := hid (put21_any w4)
            clear HG HB3 hb3 hb4 hw4 r4
            go_wp2_with fail
            refine HP.out.mono ?_
            rintro e w5 ⟨A5, c5, rfl, ho5, hb5⟩
            have HG := hid (get21_any A5 c5 w5 _ ho5)
            have HR5 := hid hb5
            clear HP ho5 hb5 hst4
            go_wp2_with fail
            refine HG.out.mono ?_
            rintro e w6 ⟨a6, rfl, hb6⟩
            obtain ⟨w7, hw7⟩ : ∃ w7, w7 = w6.alloc (.cells #[.slice a6.o 0 a6.co, .slice a6.n 0 a6.cn, .slice a6.l 0 a6.cl] 28) := ⟨_, rfl⟩
            have hst7 := stNew w6 28 3 info_conf33 #[.slice none 0 0, .slice none 0 0, .slice none 0 0] #[.slice a6.o 0 a6.co, .slice a6.n 0 a6.cn, .slice a6.l 0 a6.cl] rfl rfl (by simp [Value.oneCell'])
            rw [← hw7] at hst7
            have hb7 : Below w6.heap.size w6 w7 := by rw [hw7]; exact (Below.refl _ _).alloc (Nat.le_refl _) _
            have hb47 : Below w4.heap.size w4 w7 := HR5.out.trans ((hb6.trans (hb7.mono hb6.size)).mono HR5.out.size)
            have r7 := (hb47.block _ (row_lt HR.out.1)).trans HR.out.1
            have c70 : w7.cell? ⟨w3.heap.size, 0, none⟩ = some (.slice a3.o 2 a3.co) := row_cell r7 0
            have c72 : w7.cell? ⟨w3.heap.size, 2, none⟩ = some (.slice a3.l 1 a3.cl) := row_cell r7 2
            have HB7 := hid (HB4.out.trans (hb47.mono HB4.out.size))
            have HK := hid (known_any w7)
            clear HG HR HR5 hb6 hb7 hb47 hw7 r7 HB4
            go_wp2_with fail
            refine HK.out.mono ?_
            rintro e w8 ⟨rfl, hb8⟩
            have HB8 := hid (HB7.out.trans (hb8.mono HB7.out.size))
            clear hb8
            go_wp2_with fail
            go_ret
            exact ⟨rfl, HB8.out⟩

set_option maxRecDepth 100000 in
theorem lifted (os : Os) (started : os.Started) (H : Type) (enc : TypeId × Value → H) :
    ReturnsInHanded {} Tryz.checked os 8 .any (Rows.imageKnownSpec.pre6 enc Tryz.prog Tryz.f8 Rows.imageKnownRow.domain false) (Rows.imageKnownSpec.post enc Tryz.prog Tryz.f8 false true false false) := by
  refine returnsInHanded_of_change_sized (C := Tryz.checked) own started (by kernel_rfl) Tryz.func8
    (ChangeSpec.witness6 (enc := enc) (C := Tryz.checked) false ⟨#[], #[], []⟩ 8 (by kernel_rfl) (by kernel_rfl) (by kernel_rfl) (by kernel_rfl)) ?_
  intro W base args ds gs before hval0 hW hcnd hsz0 _
  have hsz : (DataW.weightsEach Tryz.prog (Tryz.f8.params.toList ++ Rows.imageKnownSpec.plain.varTypes Tryz.prog) (ds ++ gs)).all (· ≤ reachBytes) = true := hsz0
  clear hsz0
  have hval : ∀ (j : Nat) t v, Tryz.f8.params[j]? = some t → args[j]? = some v → Value.okWide Tryz.prog W .any base t v := hval0
  have hW' := hW
  obtain ⟨p, q, hA0, hV, rfl, hfz, hnd⟩ := hW
  have hA : DataW.TrodAll enc Tryz.prog W 0 (fun _ => true) true Tryz.f8.params.toList args.toList ds p := hA0
  rw [Tryz.params8] at hA hval hsz
  obtain ⟨rfl, rfl, rfl⟩ := trodAll_none hA
  obtain ⟨rfl, rfl⟩ := trodVars_none hV
  clear hA0 hval0
  refine (walk  W ).mono fun e W' ⟨he, bel⟩ => ?_
  subst he
  exact ⟨_, rfl, _, _, _, [], _, [], hW', trodAll_mk1 (shut_bool Tryz.underlying4 _), trodAll_mk0, rfl, bel.frame _, fun h => by cases h⟩

theorem over : Rows.imageKnownRow.holds Tryz.pinned (OpenSpec.ofChange Rows.imageKnownSpec) :=
  OpenClaim.holds_of_wide 8 Tryz.f8 rfl rfl rfl rfl rfl rfl rfl ⟨rfl, rfl, rfl, rfl, rfl⟩ rfl rfl rfl rfl rfl (by kernel_rfl) Tryz.func8 (by kernel_rfl)
    (of_decide_eq_true (by kernel_rfl)) (by unfold Func.isWrapper; first | (rw [if_pos (by decide +kernel)]; kernel_rfl) | (rw [if_neg (by decide +kernel)]; exact ⟨rfl, rfl⟩))
    (fun os started H enc _ => lifted os started H enc)

theorem proved : Rows.ImageKnownSaid := over
end Go.Proofs.YtaeoccpjdjafnaaGreat.imageKnown
