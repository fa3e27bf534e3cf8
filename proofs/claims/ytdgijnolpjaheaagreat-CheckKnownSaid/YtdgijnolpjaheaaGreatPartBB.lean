/- Texts of the proof, one behind the other: Known08. -/
import Derived.Test.YtdgijnolpjaheaaGreatPartAZ
import Derived.Test.YtdgijnolpjaheaaGreatPartBA
import Derived.Test.YtdgijnolpjaheaaGreatPartAB
import Derived.Test.YtdgijnolpjaheaaGreatPartAP
namespace Go.Proofs.YtdgijnolpjaheaaGreat
open Go Go.RowKit

inductive Cls where
  | bytes (n : Nat) | ints (n : Nat) | op (k : Int) (p q : Nat) | row | idx | ptr | num | ops
def ten : List Int := [-9223372036854775808, -1, 0, 1, 2, 3, 4, 5, 9, 10, 11, 1099511627775, 1099511627776, 1099511627777, 4611686018427387904, 9223372036854775807]
theorem ten_in : ∀ v ∈ ten, InInt v := by
  intro v hv
  simp only [ten, List.mem_cons, List.not_mem_nil, or_false] at hv
  unfold InInt
  omega
structure OpD where
  t : Ck.Op
  ap : Option Addr
  cp : Nat
  al : Option Addr
  cl : Nat
def OpD.cells (d : OpD) : List Value := [.int .i64 d.t.kind, .int .i64 d.t.at_, .int .i64 d.t.n, .int .i64 d.t.ep, .slice d.ap d.t.data.length d.cp, .slice d.al d.t.lst.length d.cl]
structure OpD.Ok (d : OpD) (w : World) : Prop where
  p : IsBytes w w.heap.size d.ap d.t.data
  l : IsInts w w.heap.size d.al d.t.lst
  cp : d.t.data.length ≤ d.cp ∧ d.cp ≤ maxLen
  np : d.ap = none → d.cp = 0
  a : InInt d.t.at_
  n : InInt d.t.n
theorem OpD.Ok.below {d : OpD} {w w' : World} (h : d.Ok w) (hb : Below w.heap.size w w') : d.Ok w' :=
  ⟨(h.p.below hb).more hb.size, (h.l.below hb).more hb.size, h.cp, h.np, h.a, h.n⟩
theorem nil_cap : 0 ≤ 0 ∧ 0 ≤ maxLen := ⟨Nat.le_refl _, Nat.zero_le _⟩
/-- its kind, how long its bytes and its list are -/
def Kd (k : Int) (p q : Nat) (d : OpD) : Prop := d.t.kind = k ∧ d.t.data.length = p ∧ d.t.lst.length = q
def Shape7 (ts : List Ck.Op) : Prop := ts.map (fun t => (t.kind, t.data.length, t.lst.length)) = [(0, 1, 0), (0, 40, 0), (0, 41, 0), (0, 0, 0), (2, 0, 0), (0, 80, 0), (1, 0, 2)]
/-- what an operation's value is, by its class -/
def Has (N : Nat) (w : World) : Cls → Value → Prop
  | .bytes n, v => ∃ A c, ∃ l : List Nat, l.length = n ∧ v = .slice A l.length c ∧ IsBytes w w.heap.size A l ∧ (l.length ≤ c ∧ c ≤ maxLen) ∧ (A = none → c = 0)
  | .ints n, v => ∃ A c, ∃ l : List Int, l.length = n ∧ v = .slice A l.length c ∧ IsInts w w.heap.size A l ∧ (l.length ≤ c ∧ c ≤ maxLen) ∧ (A = none → c = 0)
  | .op k p q, v => ∃ d : OpD, d.Ok w ∧ Kd k p q d ∧ v = .agg d.cells.toArray
  | .row, v => v = .slice (some ⟨N, 0, none⟩) 16 16
  | .idx, v => ∃ j : Nat, j < 16 ∧ v = .int .i64 j
  | .ptr, v => ∃ j : Nat, j < 16 ∧ v = .pointer (some ⟨N, j, none⟩)
  | .num, v => ∃ z : Int, InInt z ∧ v = .int .i64 z
  | .ops, v => ∃ g, ∃ ts : List Ck.Op, v = .slice (some ⟨g, 0, none⟩) 7 7 ∧ Shape7 ts ∧ Ck.IsOps w w.heap.size (some ⟨g, 0, none⟩) ts
theorem isOps_more {w : World} {B B' : Nat} {A : Option Addr} {ts : List Ck.Op} (h : Ck.IsOps w B A ts) (hB : B ≤ B') : Ck.IsOps w B' A ts := ⟨fun k hk => by
  obtain ⟨b, off, e, hlt, hc⟩ := h.cells k hk
  refine ⟨b, off, e, by omega, fun i hi => ?_⟩
  obtain ⟨ap, cp, al, cl, c0, c1, c2, c3, c4, c5, hp, hl, rest⟩ := hc i hi
  exact ⟨ap, cp, al, cl, c0, c1, c2, c3, c4, c5, hp.more hB, hl.more hB, rest⟩⟩
theorem Has.below {N : Nat} {w w' : World} (hb : Below w.heap.size w w') : ∀ {c : Cls} {v : Value}, Has N w c v → Has N w' c v
  | .bytes _, _, ⟨A, c, l, h0, h1, h2, h3⟩ => ⟨A, c, l, h0, h1, (h2.below hb).more hb.size, h3⟩
  | .ints _, _, ⟨A, c, l, h0, h1, h2, h3⟩ => ⟨A, c, l, h0, h1, (h2.below hb).more hb.size, h3⟩
  | .op _ _ _, _, ⟨d, h1, h2, h3⟩ => ⟨d, h1.below hb, h2, h3⟩
  | .row, _, h => h
  | .idx, _, h => h
  | .ptr, _, h => h
  | .num, _, h => h
  | .ops, _, ⟨g, ts, h1, h2, h3⟩ => ⟨g, ts, h1, h2, isOps_more (h3.below hb) hb.size⟩
def dst (j : Nat) : Nat := if j = 41 then 4 else 18 + j

def clsL : List Cls := [.row, .idx, .ptr, .num, .row, .idx, .ptr, .num, (.bytes 1), (.op 0 1 0), .row, .idx, .ptr, .num, (.bytes 40), (.op 0 40 0), .row, .idx, .ptr, .num, (.bytes 41), (.op 0 41 0), (.op 0 0 0), .row, .idx, .ptr, .num, .row, .idx, .ptr, .num, (.op 2 0 0), (.bytes 80), (.op 0 80 0), .row, .idx, .ptr, .num, (.ints 2), (.op 1 0 2), .ops, .ops]
def cls (j : Nat) : Cls := (clsL[j]?).getD .ops
/-- the region under way -/
structure J (a0 : Act) (base : World) (N i k : Nat) (listed : Array Bool) (a : Act) (w : World) : Prop where
  size : a.tmps.size = 69
  defers : a.defers = []
  keep : ∀ s : Nat, (∀ j, j < 42 → dst j ≠ s) → a.eval (.tmp s) = a0.eval (.tmp s)
  s1 : a.eval (.tmp 1) = .slice (some ⟨N, 0, none⟩) 16 16
  s2 : a.eval (.tmp 2) = .int .i64 i
  s3 : a.eval (.tmp 3) = .int .i64 k
  hi : i < 16
  hk : k < 16
  lsize : listed.size = 42
  bel : Below base.heap.size base w
  done : ∀ j, j < 42 → listed.getD j false = true → Has N w (cls j) (a.eval (.tmp (dst j)))
theorem eval_put_ne (a : Act) {d t : Nat} (v : Value) (h : d ≠ t) : (a.put (some d) v).eval (.tmp t) = a.eval (.tmp t) := by
  simp [Act.put, Act.eval, Array.getElem?_setIfInBounds_ne h]
theorem eval_put_self (a : Act) {d : Nat} (v : Value) (h : d < a.tmps.size) : (a.put (some d) v).eval (.tmp d) = v := by
  simp [Act.put, Act.eval, h]
theorem ev_const (a : Act) (v : Value) : a.eval (.const v) = v := rfl
theorem J.put {a0 : Act} {base w w' : World} {N i k : Nat} {listed : Array Bool} {a : Act} (h : J a0 base N i k listed a w) (j : Nat) (hj : j < 42) (v : Value) (hb : Below w.heap.size w w') (hv : Has N w' (cls j) v) :
    J a0 base N i k (listed.setIfInBounds j true) (a.put (some (dst j)) v) w' := by
  have hd : dst j < 69 ∧ dst j ≠ 1 ∧ dst j ≠ 2 ∧ dst j ≠ 3 := by unfold dst; split <;> omega
  refine ⟨by simp [Act.put, h.size], h.defers, fun s hs => (eval_put_ne a v (hs j hj)).trans (h.keep s hs), (eval_put_ne a v hd.2.1).trans h.s1, (eval_put_ne a v hd.2.2.1).trans h.s2, (eval_put_ne a v hd.2.2.2).trans h.s3, h.hi, h.hk, by simp [h.lsize], h.bel.trans (hb.mono h.bel.size), fun m hm hl => ?_⟩
  by_cases e : m = j
  · subst e
    rw [eval_put_self a v (by rw [h.size]; exact hd.1)]
    exact hv
  · have hne : dst j ≠ dst m := by unfold dst; split <;> split <;> omega
    rw [eval_put_ne a v hne]
    refine (h.done m hm ?_).below hb
    rw [Array.getD_eq_getD_getElem?, Array.getElem?_setIfInBounds_ne (by omega), ← Array.getD_eq_getD_getElem?] at hl
    exact hl
section
variable {a0 : Act} {base w : World} {N i k : Nat} {listed : Array Bool} {a : Act}
theorem g_row (hJ : J a0 base N i k listed a w) {ty : TypeId} : Goes Tryz.prog a w (.move (.tmp 1)) ty (fun v w' => Has N w' .row v ∧ Below w.heap.size w w') := .inl ⟨_, w, x_move _ _ _ _, hJ.s1, Below.refl _ _⟩
theorem g_i (hJ : J a0 base N i k listed a w) {ty : TypeId} : Goes Tryz.prog a w (.move (.tmp 2)) ty (fun v w' => Has N w' .idx v ∧ Below w.heap.size w w') := .inl ⟨_, w, x_move _ _ _ _, ⟨i, hJ.hi, hJ.s2⟩, Below.refl _ _⟩
theorem g_k (hJ : J a0 base N i k listed a w) {ty : TypeId} : Goes Tryz.prog a w (.move (.tmp 3)) ty (fun v w' => Has N w' .idx v ∧ Below w.heap.size w w') := .inl ⟨_, w, x_move _ _ _ _, ⟨k, hJ.hk, hJ.s3⟩, Below.refl _ _⟩
theorem g_assign {p : Nat} {ty : TypeId} (h : Has N w .ops (a.eval (.tmp p))) : Goes Tryz.prog a w (.assign (.tmp p)) ty (fun v w' => Has N w' .ops v ∧ Below w.heap.size w w') := .inl ⟨_, w, x_assign _ _ _ _, h, Below.refl _ _⟩
theorem g_index (p q : Nat) {ty : TypeId} (hp : Has N w .row (a.eval (.tmp p))) (hq : Has N w .idx (a.eval (.tmp q))) : Goes Tryz.prog a w (.indexAddr 22 (.tmp p) (.tmp q)) ty (fun v w' => Has N w' .ptr v ∧ Below w.heap.size w w') := by
  obtain ⟨j, hj, hq⟩ := hq
  refine .inl ⟨.pointer (some ⟨N, j, none⟩), w, x_index _ _ _ _ _ _ _ ?_, ⟨j, hj, rfl⟩, Below.refl _ _⟩
  rw [hp, hq]
  have h1 : (j : Int) < 16 := by omega
  go_simp
theorem g_load (hJ : J a0 base N i k listed a w) (hN : IsInts base base.heap.size (some ⟨N, 0, none⟩) ten) (p : Nat) {ty : TypeId} (hp : Has N w .ptr (a.eval (.tmp p))) : Goes Tryz.prog a w (.load 3 (.tmp p)) ty (fun v w' => Has N w' .num v ∧ Below w.heap.size w w') := by
  obtain ⟨j, hj, hp⟩ := hp
  obtain ⟨b, off, e, _, hc⟩ := (hN.below hJ.bel).cells j (show j < ten.length from hj)
  injection e with e
  injection e with e1 e2 e3
  subst e1
  subst e2
  have hcj := hc j (show j < ten.length from hj)
  rw [Nat.zero_add] at hcj
  refine .inl ⟨.int .i64 (ten[j]'hj), w, x_load _ _ _ _ _ _ ?_, ⟨_, ten_in _ (List.getElem_mem _), rfl⟩, Below.refl _ _⟩
  rw [hp]
  go_simp
  all_goals rfl
theorem g_bytes (l : List Nat) (n : Nat) (parts : Array (Nat × Operand)) {ty : TypeId} (hn : l.length = n) (hl : 0 < n ∧ n ≤ 100) (h8 : ∀ x ∈ l, x < 256)
    (hf : Instr.fill (fun i => some (i * 1, 1)) ((Array.range (n * 1)).map ((Value.int .u8 0).cells[· % (Value.int .u8 0).cells.size]!)) (parts.map fun (i, x) => (i, a.eval x)).toList = some (bytes l).toArray) :
    Goes Tryz.prog a w (.buildSlice 23 n parts) ty (fun v w' => Has N w' (.bytes n) v ∧ Below w.heap.size w w') := by
  subst hn
  obtain ⟨i0, hi, hz0, hz1, hz2⟩ := info_parts info_u8
  refine .inl ⟨_, _, x_slice _ _ _ _ _ _ _ _ (run_buildSlice w 23 5 l.length _ (bytes l).toArray i0 (.int .u8 0) (by kernel_rfl) hi hz0 (by rw [hz1]; omega) (by rw [hz1]; omega) (by rw [hz1]; exact hf)), ⟨some ⟨w.heap.size, 0, none⟩, l.length, l, rfl, rfl, ?_, ⟨Nat.le_refl _, by unfold maxLen; omega⟩, fun h => by cases h⟩, (Below.refl _ w).alloc (Nat.le_refl _) _⟩
  exact (isBytes_new w l h8 5 (0, 0)).more (by simp)
theorem g_ints (m : Nat) (parts : Array (Nat × Operand)) {ty : TypeId} (l : List Int) (hl : ∀ x ∈ l, InInt x) (hm : l.length = m) (hm2 : 0 < m ∧ m ≤ 100)
    (hf : Instr.fill (fun i => some (i * 1, 1)) ((Array.range (m * 1)).map ((Value.int .i64 0).cells[· % (Value.int .i64 0).cells.size]!)) (parts.map fun (i, x) => (i, a.eval x)).toList = some (ints l).toArray) :
    Goes Tryz.prog a w (.buildSlice 22 m parts) ty (fun v w' => Has N w' (.ints m) v ∧ Below w.heap.size w w') := by
  subst hm
  obtain ⟨i0, hi, hz0, hz1, hz2⟩ := info_parts I.info_int
  refine .inl ⟨_, _, x_slice _ _ _ _ _ _ _ _ (run_buildSlice w 22 3 l.length _ (ints l).toArray i0 (.int .i64 0) (by kernel_rfl) hi hz0 (by rw [hz1]; omega) (by rw [hz1]; omega) (by rw [hz1]; exact hf)), ⟨some ⟨w.heap.size, 0, none⟩, l.length, l, rfl, rfl, ?_, ⟨Nat.le_refl _, by unfold maxLen; omega⟩, fun h => by cases h⟩, (Below.refl _ w).alloc (Nat.le_refl _) _⟩
  exact (isInts_new w l hl 3 (0, 0)).more (by simp)
theorem g_call (n : Nat) {ty : TypeId} (hn : n ≤ 100000) : Goes Tryz.prog a w (.call { callee := .value (.func 4), args := #[.const (Value.int IntKind.i64 (n : Nat))], argTypes := #[3] }) ty (fun v w' => Has N w' (.bytes n) v ∧ Below w.heap.size w w') := by
  refine .inr ⟨4, #[.int .i64 n], ?_, ?_⟩
  · unfold execOp sop
    simp only []
    go_simp
  · refine (row_any n hn w).mono ?_
    rintro e w' ⟨A, c, L, rfl, hL, ho, hb⟩
    subst hL
    exact ⟨_, rfl, ⟨A, c, L, rfl, rfl, ho.reads, ⟨ho.cap, ho.capLe⟩, ho.none_⟩, hb⟩
theorem g_build {kd : Int} {p q : Nat} (d : OpD) (hd : d.Ok w) (hk : Kd kd p q d) (parts : Array (Nat × Operand)) {ty : TypeId} (hb : Tryz.prog.built 25 (parts.map fun (i, x) => (i, a.eval x)).toList = some d.cells.toArray) :
    Goes Tryz.prog a w (.build 25 parts) ty (fun v w' => Has N w' (.op kd p q) v ∧ Below w.heap.size w w') :=
  .inl ⟨_, w, x_build _ _ _ _ _ _ (run_build w _ _ _ hb), ⟨d, hd, hk, rfl⟩, Below.refl _ _⟩
theorem flatOp_get (ds : List OpD) : ∀ (i r : Nat) (hi : i < ds.length), r < 6 → (ds.flatMap OpD.cells)[i * 6 + r]? = ds[i].cells[r]? := by
  induction ds with
  | nil => intro i r hi; simp at hi
  | cons d ds ih =>
    intro i r hi hr
    rw [List.flatMap_cons]
    rcases i with _ | i
    · rw [List.getElem?_append_left (by show 0 * 6 + r < 6; omega)]
      simp
    · rw [List.getElem?_append_right (by show 6 ≤ _; omega)]
      have : (i + 1) * 6 + r - d.cells.length = i * 6 + r := by show (i + 1) * 6 + r - 6 = _; omega
      rw [this, ih i r (by simpa using hi) hr]
      rfl
theorem info_op : (Tryz.prog.info? 25).map (fun i => (i.zero, i.size, i.bytes)) = some (some (.agg #[.int .i64 0, .int .i64 0, .int .i64 0, .int .i64 0, .slice none 0 0, .slice none 0 0]), 6, 80) := by kernel_rfl
theorem g_ops (ds : List OpD) (hsh : (ds.map OpD.t).map (fun t => (t.kind, t.data.length, t.lst.length)) = [(0, 1, 0), (0, 40, 0), (0, 41, 0), (0, 0, 0), (2, 0, 0), (0, 80, 0), (1, 0, 2)]) (hds : ∀ d ∈ ds, d.Ok w) (parts : Array (Nat × Operand)) {ty : TypeId}
    (hf : Instr.fill (fun i => some (i * 6, 6)) ((Array.range (7 * 6)).map ((Value.agg #[.int .i64 0, .int .i64 0, .int .i64 0, .int .i64 0, .slice none 0 0, .slice none 0 0]).cells[· % (Value.agg #[.int .i64 0, .int .i64 0, .int .i64 0, .int .i64 0, .slice none 0 0, .slice none 0 0]).cells.size]!)) (parts.map fun (i, x) => (i, a.eval x)).toList = some (ds.flatMap OpD.cells).toArray) :
    Goes Tryz.prog a w (.buildSlice 27 7 parts) ty (fun v w' => Has N w' .ops v ∧ Below w.heap.size w w') := by
  obtain ⟨i0, hi, hz0, hz1, hz2⟩ := info_parts info_op
  have hb : Below w.heap.size w (w.alloc (.cells (ds.flatMap OpD.cells).toArray 25)) := (Below.refl _ w).alloc (Nat.le_refl _) _
  refine .inl ⟨_, _, x_slice _ _ _ _ _ _ _ _ (run_buildSlice w 27 25 7 _ (ds.flatMap OpD.cells).toArray i0 _ (by kernel_rfl) hi hz0 (by rw [hz1]; omega) (by rw [hz1]; omega) (by rw [hz1]; exact hf)), ⟨w.heap.size, ds.map OpD.t, rfl, hsh, ⟨fun m hm => ⟨w.heap.size, 0, rfl, by simp, fun j hj => ?_⟩⟩⟩, hb⟩
  have hj' : j < ds.length := by simpa using hj
  have hok := (hds _ (List.getElem_mem hj')).below hb
  have hc : ∀ r, r < 6 → (w.alloc (.cells (ds.flatMap OpD.cells).toArray 25)).cell? ⟨w.heap.size, 0 + j * 6 + r, none⟩ = ds[j].cells[r]? := fun r hr => by
    rw [World.cell?_alloc_new]
    rw [List.getElem?_toArray, Nat.zero_add, flatOp_get ds j r hj' hr]
  have e : (ds.map OpD.t)[j] = ds[j].t := by simp
  rw [e]
  exact ⟨ds[j].ap, ds[j].cp, ds[j].al, ds[j].cl, hc 0 (by omega), hc 1 (by omega), hc 2 (by omega), hc 3 (by omega), hc 4 (by omega), hc 5 (by omega), hok.p, hok.l, hok.cp, hok.np, hok.a, hok.n⟩
end

theorem st0 {a0 : Act} {base w : World} {N i k : Nat} {listed : Array Bool} {a : Act} (hJ : J a0 base N i k listed a w) (_hon : ∀ m ∈ ([] : List Nat), listed.getD m false = true) : Goes Tryz.prog a w (.move (.tmp 1)) 22 (fun v w' => Has N w' .row v ∧ Below w.heap.size w w') := by
  exact g_row hJ
theorem st1 {a0 : Act} {base w : World} {N i k : Nat} {listed : Array Bool} {a : Act} (hJ : J a0 base N i k listed a w) (_hon : ∀ m ∈ ([] : List Nat), listed.getD m false = true) : Goes Tryz.prog a w (.move (.tmp 2)) 3 (fun v w' => Has N w' .idx v ∧ Below w.heap.size w w') := by
  exact g_i hJ
theorem st2 {a0 : Act} {base w : World} {N i k : Nat} {listed : Array Bool} {a : Act} (hJ : J a0 base N i k listed a w) (hon : ∀ m ∈ ([0, 1] : List Nat), listed.getD m false = true) : Goes Tryz.prog a w (.indexAddr 22 (.tmp 18) (.tmp 19)) 0 (fun v w' => Has N w' .ptr v ∧ Below w.heap.size w w') := by
  exact g_index 18 19 (hJ.done 0 (by omega) (hon 0 (by simp)) : Has N w .row (a.eval (.tmp 18))) (hJ.done 1 (by omega) (hon 1 (by simp)) : Has N w .idx (a.eval (.tmp 19)))
theorem st3 {a0 : Act} {base w : World} {N i k : Nat} {listed : Array Bool} {a : Act} (hJ : J a0 base N i k listed a w) (hN : IsInts base base.heap.size (some ⟨N, 0, none⟩) ten) (hon : ∀ m ∈ ([2] : List Nat), listed.getD m false = true) : Goes Tryz.prog a w (.load 3 (.tmp 20)) 3 (fun v w' => Has N w' .num v ∧ Below w.heap.size w w') := by
  exact g_load hJ hN 20 (hJ.done 2 (by omega) (hon 2 (by simp)) : Has N w .ptr (a.eval (.tmp 20)))
theorem st4 {a0 : Act} {base w : World} {N i k : Nat} {listed : Array Bool} {a : Act} (hJ : J a0 base N i k listed a w) (_hon : ∀ m ∈ ([] : List Nat), listed.getD m false = true) : Goes Tryz.prog a w (.move (.tmp 1)) 22 (fun v w' => Has N w' .row v ∧ Below w.heap.size w w') := by
  exact g_row hJ
theorem st5 {a0 : Act} {base w : World} {N i k : Nat} {listed : Array Bool} {a : Act} (hJ : J a0 base N i k listed a w) (_hon : ∀ m ∈ ([] : List Nat), listed.getD m false = true) : Goes Tryz.prog a w (.move (.tmp 3)) 3 (fun v w' => Has N w' .idx v ∧ Below w.heap.size w w') := by
  exact g_k hJ
theorem st6 {a0 : Act} {base w : World} {N i k : Nat} {listed : Array Bool} {a : Act} (hJ : J a0 base N i k listed a w) (hon : ∀ m ∈ ([4, 5] : List Nat), listed.getD m false = true) : Goes Tryz.prog a w (.indexAddr 22 (.tmp 22) (.tmp 23)) 0 (fun v w' => Has N w' .ptr v ∧ Below w.heap.size w w') := by
  exact g_index 22 23 (hJ.done 4 (by omega) (hon 4 (by simp)) : Has N w .row (a.eval (.tmp 22))) (hJ.done 5 (by omega) (hon 5 (by simp)) : Has N w .idx (a.eval (.tmp 23)))
theorem st7 {a0 : Act} {base w : World} {N i k : Nat} {listed : Array Bool} {a : Act} (hJ : J a0 base N i k listed a w) (hN : IsInts base base.heap.size (some ⟨N, 0, none⟩) ten) (hon : ∀ m ∈ ([6] : List Nat), listed.getD m false = true) : Goes Tryz.prog a w (.load 3 (.tmp 24)) 3 (fun v w' => Has N w' .num v ∧ Below w.heap.size w w') := by
  exact g_load hJ hN 24 (hJ.done 6 (by omega) (hon 6 (by simp)) : Has N w .ptr (a.eval (.tmp 24)))
theorem st8 {a0 : Act} {base w : World} {N i k : Nat} {listed : Array Bool} {a : Act} (_hJ : J a0 base N i k listed a w) (_hon : ∀ m ∈ ([] : List Nat), listed.getD m false = true) : Goes Tryz.prog a w (.buildSlice 23 1 #[(0, .const (Value.int IntKind.u8 7))]) 23 (fun v w' => Has N w' (.bytes 1) v ∧ Below w.heap.size w w') := by
  exact g_bytes [7] 1 _ rfl (by decide) (by decide) (by simp only [List.map_toArray, List.map_cons, List.map_nil, ev_const]; kernel_rfl)
theorem st9 {a0 : Act} {base w : World} {N i k : Nat} {listed : Array Bool} {a : Act} (hJ : J a0 base N i k listed a w) (hon : ∀ m ∈ ([3, 7, 8] : List Nat), listed.getD m false = true) : Goes Tryz.prog a w (.build 25 #[(1, .tmp 21), (2, .tmp 25), (3, .const (Value.int IntKind.i64 1)), (4, .tmp 26)]) 25 (fun v w' => Has N w' (.op 0 1 0) v ∧ Below w.heap.size w w') := by
  obtain ⟨z1, hz1, e1⟩ : Has N w .num (a.eval (.tmp 21)) := hJ.done 3 (by omega) (hon 3 (by simp))
  obtain ⟨z2, hz2, e2⟩ : Has N w .num (a.eval (.tmp 25)) := hJ.done 7 (by omega) (hon 7 (by simp))
  obtain ⟨A4, c4, l4, q4, e4, h4, g4, n4⟩ : Has N w (.bytes 1) (a.eval (.tmp 26)) := hJ.done 8 (by omega) (hon 8 (by simp))

  exact g_build ⟨⟨0, z1, z2, 1, l4, []⟩, A4, c4, none, 0⟩ ⟨h4, IsInts.nil, g4, n4, hz1, hz2⟩ ⟨rfl, q4, rfl⟩ _ (by simp only [List.map_toArray, List.map_cons, List.map_nil, e1, e2, e4, ev_const]; kernel_rfl)
theorem st10 {a0 : Act} {base w : World} {N i k : Nat} {listed : Array Bool} {a : Act} (hJ : J a0 base N i k listed a w) (_hon : ∀ m ∈ ([] : List Nat), listed.getD m false = true) : Goes Tryz.prog a w (.move (.tmp 1)) 22 (fun v w' => Has N w' .row v ∧ Below w.heap.size w w') := by
  exact g_row hJ
theorem st11 {a0 : Act} {base w : World} {N i k : Nat} {listed : Array Bool} {a : Act} (hJ : J a0 base N i k listed a w) (_hon : ∀ m ∈ ([] : List Nat), listed.getD m false = true) : Goes Tryz.prog a w (.move (.tmp 2)) 3 (fun v w' => Has N w' .idx v ∧ Below w.heap.size w w') := by
  exact g_i hJ
theorem st12 {a0 : Act} {base w : World} {N i k : Nat} {listed : Array Bool} {a : Act} (hJ : J a0 base N i k listed a w) (hon : ∀ m ∈ ([10, 11] : List Nat), listed.getD m false = true) : Goes Tryz.prog a w (.indexAddr 22 (.tmp 28) (.tmp 29)) 0 (fun v w' => Has N w' .ptr v ∧ Below w.heap.size w w') := by
  exact g_index 28 29 (hJ.done 10 (by omega) (hon 10 (by simp)) : Has N w .row (a.eval (.tmp 28))) (hJ.done 11 (by omega) (hon 11 (by simp)) : Has N w .idx (a.eval (.tmp 29)))
theorem st13 {a0 : Act} {base w : World} {N i k : Nat} {listed : Array Bool} {a : Act} (hJ : J a0 base N i k listed a w) (hN : IsInts base base.heap.size (some ⟨N, 0, none⟩) ten) (hon : ∀ m ∈ ([12] : List Nat), listed.getD m false = true) : Goes Tryz.prog a w (.load 3 (.tmp 30)) 3 (fun v w' => Has N w' .num v ∧ Below w.heap.size w w') := by
  exact g_load hJ hN 30 (hJ.done 12 (by omega) (hon 12 (by simp)) : Has N w .ptr (a.eval (.tmp 30)))
theorem st14 {a0 : Act} {base w : World} {N i k : Nat} {listed : Array Bool} {a : Act} (_hJ : J a0 base N i k listed a w) (_hon : ∀ m ∈ ([] : List Nat), listed.getD m false = true) : Goes Tryz.prog a w (.call { callee := .value (.func 4), args := #[.const (Value.int IntKind.i64 40)], argTypes := #[3] }) 23 (fun v w' => Has N w' (.bytes 40) v ∧ Below w.heap.size w w') := by
  exact g_call 40 (by omega)
theorem st15 {a0 : Act} {base w : World} {N i k : Nat} {listed : Array Bool} {a : Act} (hJ : J a0 base N i k listed a w) (hon : ∀ m ∈ ([13, 14] : List Nat), listed.getD m false = true) : Goes Tryz.prog a w (.build 25 #[(1, .const (Value.int IntKind.i64 1)), (2, .const (Value.int IntKind.i64 3)), (3, .tmp 31), (4, .tmp 32)]) 25 (fun v w' => Has N w' (.op 0 40 0) v ∧ Below w.heap.size w w') := by
  obtain ⟨z3, hz3, e3⟩ : Has N w .num (a.eval (.tmp 31)) := hJ.done 13 (by omega) (hon 13 (by simp))
  obtain ⟨A4, c4, l4, q4, e4, h4, g4, n4⟩ : Has N w (.bytes 40) (a.eval (.tmp 32)) := hJ.done 14 (by omega) (hon 14 (by simp))

  exact g_build ⟨⟨0, 1, 3, z3, l4, []⟩, A4, c4, none, 0⟩ ⟨h4, IsInts.nil, g4, n4, (show InInt 1 by unfold InInt; omega), (show InInt 3 by unfold InInt; omega)⟩ ⟨rfl, q4, rfl⟩ _ (by simp only [List.map_toArray, List.map_cons, List.map_nil, e3, e4, ev_const]; kernel_rfl)
theorem st16 {a0 : Act} {base w : World} {N i k : Nat} {listed : Array Bool} {a : Act} (hJ : J a0 base N i k listed a w) (_hon : ∀ m ∈ ([] : List Nat), listed.getD m false = true) : Goes Tryz.prog a w (.move (.tmp 1)) 22 (fun v w' => Has N w' .row v ∧ Below w.heap.size w w') := by
  exact g_row hJ
theorem st17 {a0 : Act} {base w : World} {N i k : Nat} {listed : Array Bool} {a : Act} (hJ : J a0 base N i k listed a w) (_hon : ∀ m ∈ ([] : List Nat), listed.getD m false = true) : Goes Tryz.prog a w (.move (.tmp 3)) 3 (fun v w' => Has N w' .idx v ∧ Below w.heap.size w w') := by
  exact g_k hJ
theorem st18 {a0 : Act} {base w : World} {N i k : Nat} {listed : Array Bool} {a : Act} (hJ : J a0 base N i k listed a w) (hon : ∀ m ∈ ([16, 17] : List Nat), listed.getD m false = true) : Goes Tryz.prog a w (.indexAddr 22 (.tmp 34) (.tmp 35)) 0 (fun v w' => Has N w' .ptr v ∧ Below w.heap.size w w') := by
  exact g_index 34 35 (hJ.done 16 (by omega) (hon 16 (by simp)) : Has N w .row (a.eval (.tmp 34))) (hJ.done 17 (by omega) (hon 17 (by simp)) : Has N w .idx (a.eval (.tmp 35)))
theorem st19 {a0 : Act} {base w : World} {N i k : Nat} {listed : Array Bool} {a : Act} (hJ : J a0 base N i k listed a w) (hN : IsInts base base.heap.size (some ⟨N, 0, none⟩) ten) (hon : ∀ m ∈ ([18] : List Nat), listed.getD m false = true) : Goes Tryz.prog a w (.load 3 (.tmp 36)) 3 (fun v w' => Has N w' .num v ∧ Below w.heap.size w w') := by
  exact g_load hJ hN 36 (hJ.done 18 (by omega) (hon 18 (by simp)) : Has N w .ptr (a.eval (.tmp 36)))
theorem st20 {a0 : Act} {base w : World} {N i k : Nat} {listed : Array Bool} {a : Act} (_hJ : J a0 base N i k listed a w) (_hon : ∀ m ∈ ([14] : List Nat), listed.getD m false = true) : Goes Tryz.prog a w (.call { callee := .value (.func 4), args := #[.const (Value.int IntKind.i64 41)], argTypes := #[3] }) 23 (fun v w' => Has N w' (.bytes 41) v ∧ Below w.heap.size w w') := by
  exact g_call 41 (by omega)
theorem st21 {a0 : Act} {base w : World} {N i k : Nat} {listed : Array Bool} {a : Act} (hJ : J a0 base N i k listed a w) (hon : ∀ m ∈ ([19, 20] : List Nat), listed.getD m false = true) : Goes Tryz.prog a w (.build 25 #[(1, .const (Value.int IntKind.i64 1)), (2, .const (Value.int IntKind.i64 3)), (3, .tmp 37), (4, .tmp 38)]) 25 (fun v w' => Has N w' (.op 0 41 0) v ∧ Below w.heap.size w w') := by
  obtain ⟨z3, hz3, e3⟩ : Has N w .num (a.eval (.tmp 37)) := hJ.done 19 (by omega) (hon 19 (by simp))
  obtain ⟨A4, c4, l4, q4, e4, h4, g4, n4⟩ : Has N w (.bytes 41) (a.eval (.tmp 38)) := hJ.done 20 (by omega) (hon 20 (by simp))

  exact g_build ⟨⟨0, 1, 3, z3, l4, []⟩, A4, c4, none, 0⟩ ⟨h4, IsInts.nil, g4, n4, (show InInt 1 by unfold InInt; omega), (show InInt 3 by unfold InInt; omega)⟩ ⟨rfl, q4, rfl⟩ _ (by simp only [List.map_toArray, List.map_cons, List.map_nil, e3, e4, ev_const]; kernel_rfl)
theorem st22 {a0 : Act} {base w : World} {N i k : Nat} {listed : Array Bool} {a : Act} (_hJ : J a0 base N i k listed a w) (_hon : ∀ m ∈ ([] : List Nat), listed.getD m false = true) : Goes Tryz.prog a w (.build 25 #[(1, .const (Value.int IntKind.i64 1)), (2, .const (Value.int IntKind.i64 3)), (3, .const (Value.int IntKind.i64 2))]) 25 (fun v w' => Has N w' (.op 0 0 0) v ∧ Below w.heap.size w w') := by
  exact g_build ⟨⟨0, 1, 3, 2, [], []⟩, none, 0, none, 0⟩ ⟨IsBytes.nil, IsInts.nil, nil_cap, (fun _ => rfl), (show InInt 1 by unfold InInt; omega), (show InInt 3 by unfold InInt; omega)⟩ ⟨rfl, rfl, rfl⟩ _ (by simp only [List.map_toArray, List.map_cons, List.map_nil, ev_const]; kernel_rfl)
theorem st23 {a0 : Act} {base w : World} {N i k : Nat} {listed : Array Bool} {a : Act} (hJ : J a0 base N i k listed a w) (_hon : ∀ m ∈ ([] : List Nat), listed.getD m false = true) : Goes Tryz.prog a w (.move (.tmp 1)) 22 (fun v w' => Has N w' .row v ∧ Below w.heap.size w w') := by
  exact g_row hJ
theorem st24 {a0 : Act} {base w : World} {N i k : Nat} {listed : Array Bool} {a : Act} (hJ : J a0 base N i k listed a w) (_hon : ∀ m ∈ ([] : List Nat), listed.getD m false = true) : Goes Tryz.prog a w (.move (.tmp 2)) 3 (fun v w' => Has N w' .idx v ∧ Below w.heap.size w w') := by
  exact g_i hJ
theorem st25 {a0 : Act} {base w : World} {N i k : Nat} {listed : Array Bool} {a : Act} (hJ : J a0 base N i k listed a w) (hon : ∀ m ∈ ([23, 24] : List Nat), listed.getD m false = true) : Goes Tryz.prog a w (.indexAddr 22 (.tmp 41) (.tmp 42)) 0 (fun v w' => Has N w' .ptr v ∧ Below w.heap.size w w') := by
  exact g_index 41 42 (hJ.done 23 (by omega) (hon 23 (by simp)) : Has N w .row (a.eval (.tmp 41))) (hJ.done 24 (by omega) (hon 24 (by simp)) : Has N w .idx (a.eval (.tmp 42)))
theorem st26 {a0 : Act} {base w : World} {N i k : Nat} {listed : Array Bool} {a : Act} (hJ : J a0 base N i k listed a w) (hN : IsInts base base.heap.size (some ⟨N, 0, none⟩) ten) (hon : ∀ m ∈ ([25] : List Nat), listed.getD m false = true) : Goes Tryz.prog a w (.load 3 (.tmp 43)) 3 (fun v w' => Has N w' .num v ∧ Below w.heap.size w w') := by
  exact g_load hJ hN 43 (hJ.done 25 (by omega) (hon 25 (by simp)) : Has N w .ptr (a.eval (.tmp 43)))
theorem st27 {a0 : Act} {base w : World} {N i k : Nat} {listed : Array Bool} {a : Act} (hJ : J a0 base N i k listed a w) (_hon : ∀ m ∈ ([] : List Nat), listed.getD m false = true) : Goes Tryz.prog a w (.move (.tmp 1)) 22 (fun v w' => Has N w' .row v ∧ Below w.heap.size w w') := by
  exact g_row hJ
theorem st28 {a0 : Act} {base w : World} {N i k : Nat} {listed : Array Bool} {a : Act} (hJ : J a0 base N i k listed a w) (_hon : ∀ m ∈ ([] : List Nat), listed.getD m false = true) : Goes Tryz.prog a w (.move (.tmp 3)) 3 (fun v w' => Has N w' .idx v ∧ Below w.heap.size w w') := by
  exact g_k hJ
theorem st29 {a0 : Act} {base w : World} {N i k : Nat} {listed : Array Bool} {a : Act} (hJ : J a0 base N i k listed a w) (hon : ∀ m ∈ ([27, 28] : List Nat), listed.getD m false = true) : Goes Tryz.prog a w (.indexAddr 22 (.tmp 45) (.tmp 46)) 0 (fun v w' => Has N w' .ptr v ∧ Below w.heap.size w w') := by
  exact g_index 45 46 (hJ.done 27 (by omega) (hon 27 (by simp)) : Has N w .row (a.eval (.tmp 45))) (hJ.done 28 (by omega) (hon 28 (by simp)) : Has N w .idx (a.eval (.tmp 46)))
theorem st30 {a0 : Act} {base w : World} {N i k : Nat} {listed : Array Bool} {a : Act} (hJ : J a0 base N i k listed a w) (hN : IsInts base base.heap.size (some ⟨N, 0, none⟩) ten) (hon : ∀ m ∈ ([29] : List Nat), listed.getD m false = true) : Goes Tryz.prog a w (.load 3 (.tmp 47)) 3 (fun v w' => Has N w' .num v ∧ Below w.heap.size w w') := by
  exact g_load hJ hN 47 (hJ.done 29 (by omega) (hon 29 (by simp)) : Has N w .ptr (a.eval (.tmp 47)))
theorem st31 {a0 : Act} {base w : World} {N i k : Nat} {listed : Array Bool} {a : Act} (hJ : J a0 base N i k listed a w) (hon : ∀ m ∈ ([26, 30] : List Nat), listed.getD m false = true) : Goes Tryz.prog a w (.build 25 #[(0, .const (Value.int IntKind.i64 2)), (1, .tmp 44), (2, .tmp 48)]) 25 (fun v w' => Has N w' (.op 2 0 0) v ∧ Below w.heap.size w w') := by
  obtain ⟨z1, hz1, e1⟩ : Has N w .num (a.eval (.tmp 44)) := hJ.done 26 (by omega) (hon 26 (by simp))
  obtain ⟨z2, hz2, e2⟩ : Has N w .num (a.eval (.tmp 48)) := hJ.done 30 (by omega) (hon 30 (by simp))
  exact g_build ⟨⟨2, z1, z2, 0, [], []⟩, none, 0, none, 0⟩ ⟨IsBytes.nil, IsInts.nil, nil_cap, (fun _ => rfl), hz1, hz2⟩ ⟨rfl, rfl, rfl⟩ _ (by simp only [List.map_toArray, List.map_cons, List.map_nil, e1, e2, ev_const]; kernel_rfl)
theorem st32 {a0 : Act} {base w : World} {N i k : Nat} {listed : Array Bool} {a : Act} (_hJ : J a0 base N i k listed a w) (_hon : ∀ m ∈ ([20] : List Nat), listed.getD m false = true) : Goes Tryz.prog a w (.call { callee := .value (.func 4), args := #[.const (Value.int IntKind.i64 80)], argTypes := #[3] }) 23 (fun v w' => Has N w' (.bytes 80) v ∧ Below w.heap.size w w') := by
  exact g_call 80 (by omega)
theorem st33 {a0 : Act} {base w : World} {N i k : Nat} {listed : Array Bool} {a : Act} (hJ : J a0 base N i k listed a w) (hon : ∀ m ∈ ([32] : List Nat), listed.getD m false = true) : Goes Tryz.prog a w (.build 25 #[(1, .const (Value.int IntKind.i64 1)), (2, .const (Value.int IntKind.i64 3)), (3, .const (Value.int IntKind.i64 3)), (4, .tmp 50)]) 25 (fun v w' => Has N w' (.op 0 80 0) v ∧ Below w.heap.size w w') := by
  obtain ⟨A4, c4, l4, q4, e4, h4, g4, n4⟩ : Has N w (.bytes 80) (a.eval (.tmp 50)) := hJ.done 32 (by omega) (hon 32 (by simp))

  exact g_build ⟨⟨0, 1, 3, 3, l4, []⟩, A4, c4, none, 0⟩ ⟨h4, IsInts.nil, g4, n4, (show InInt 1 by unfold InInt; omega), (show InInt 3 by unfold InInt; omega)⟩ ⟨rfl, q4, rfl⟩ _ (by simp only [List.map_toArray, List.map_cons, List.map_nil, e4, ev_const]; kernel_rfl)
theorem st34 {a0 : Act} {base w : World} {N i k : Nat} {listed : Array Bool} {a : Act} (hJ : J a0 base N i k listed a w) (_hon : ∀ m ∈ ([] : List Nat), listed.getD m false = true) : Goes Tryz.prog a w (.move (.tmp 1)) 22 (fun v w' => Has N w' .row v ∧ Below w.heap.size w w') := by
  exact g_row hJ
theorem st35 {a0 : Act} {base w : World} {N i k : Nat} {listed : Array Bool} {a : Act} (hJ : J a0 base N i k listed a w) (_hon : ∀ m ∈ ([] : List Nat), listed.getD m false = true) : Goes Tryz.prog a w (.move (.tmp 3)) 3 (fun v w' => Has N w' .idx v ∧ Below w.heap.size w w') := by
  exact g_k hJ
theorem st36 {a0 : Act} {base w : World} {N i k : Nat} {listed : Array Bool} {a : Act} (hJ : J a0 base N i k listed a w) (hon : ∀ m ∈ ([34, 35] : List Nat), listed.getD m false = true) : Goes Tryz.prog a w (.indexAddr 22 (.tmp 52) (.tmp 53)) 0 (fun v w' => Has N w' .ptr v ∧ Below w.heap.size w w') := by
  exact g_index 52 53 (hJ.done 34 (by omega) (hon 34 (by simp)) : Has N w .row (a.eval (.tmp 52))) (hJ.done 35 (by omega) (hon 35 (by simp)) : Has N w .idx (a.eval (.tmp 53)))
theorem st37 {a0 : Act} {base w : World} {N i k : Nat} {listed : Array Bool} {a : Act} (hJ : J a0 base N i k listed a w) (hN : IsInts base base.heap.size (some ⟨N, 0, none⟩) ten) (hon : ∀ m ∈ ([36] : List Nat), listed.getD m false = true) : Goes Tryz.prog a w (.load 3 (.tmp 54)) 3 (fun v w' => Has N w' .num v ∧ Below w.heap.size w w') := by
  exact g_load hJ hN 54 (hJ.done 36 (by omega) (hon 36 (by simp)) : Has N w .ptr (a.eval (.tmp 54)))
theorem st38 {a0 : Act} {base w : World} {N i k : Nat} {listed : Array Bool} {a : Act} (hJ : J a0 base N i k listed a w) (hon : ∀ m ∈ ([37] : List Nat), listed.getD m false = true) : Goes Tryz.prog a w (.buildSlice 22 2 #[(0, .const (Value.int IntKind.i64 1)), (1, .tmp 55)]) 22 (fun v w' => Has N w' (.ints 2) v ∧ Below w.heap.size w w') := by
  obtain ⟨z1, hz1, e1⟩ : Has N w .num (a.eval (.tmp 55)) := hJ.done 37 (by omega) (hon 37 (by simp))
  exact g_ints 2 _ [1, z1] (by intro x hx; simp at hx; rcases hx with rfl | rfl <;> first | assumption | (unfold InInt; omega)) rfl (by omega) (by simp only [List.map_toArray, List.map_cons, List.map_nil, e1, ev_const]; kernel_rfl)
theorem st39 {a0 : Act} {base w : World} {N i k : Nat} {listed : Array Bool} {a : Act} (hJ : J a0 base N i k listed a w) (hon : ∀ m ∈ ([38] : List Nat), listed.getD m false = true) : Goes Tryz.prog a w (.build 25 #[(0, .const (Value.int IntKind.i64 1)), (1, .const (Value.int IntKind.i64 1)), (2, .const (Value.int IntKind.i64 3)), (5, .tmp 56)]) 25 (fun v w' => Has N w' (.op 1 0 2) v ∧ Below w.heap.size w w') := by
  obtain ⟨A5, c5, l5, q5, e5, h5, g5, n5⟩ : Has N w (.ints 2) (a.eval (.tmp 56)) := hJ.done 38 (by omega) (hon 38 (by simp))
  exact g_build ⟨⟨1, 1, 3, 0, [], l5⟩, none, 0, A5, c5⟩ ⟨IsBytes.nil, h5, nil_cap, (fun _ => rfl), (show InInt 1 by unfold InInt; omega), (show InInt 3 by unfold InInt; omega)⟩ ⟨rfl, rfl, q5⟩ _ (by simp only [List.map_toArray, List.map_cons, List.map_nil, e5, ev_const]; kernel_rfl)
theorem st40 {a0 : Act} {base w : World} {N i k : Nat} {listed : Array Bool} {a : Act} (hJ : J a0 base N i k listed a w) (hon : ∀ m ∈ ([9, 15, 21, 22, 31, 33, 39] : List Nat), listed.getD m false = true) : Goes Tryz.prog a w (.buildSlice 27 7 #[(0, .tmp 27), (1, .tmp 33), (2, .tmp 39), (3, .tmp 40), (4, .tmp 49), (5, .tmp 51), (6, .tmp 57)]) 27 (fun v w' => Has N w' .ops v ∧ Below w.heap.size w w') := by
  obtain ⟨d0, hd0, hk0, e0⟩ : Has N w (.op 0 1 0) (a.eval (.tmp 27)) := hJ.done 9 (by omega) (hon 9 (by simp))
  obtain ⟨d1, hd1, hk1, e1⟩ : Has N w (.op 0 40 0) (a.eval (.tmp 33)) := hJ.done 15 (by omega) (hon 15 (by simp))
  obtain ⟨d2, hd2, hk2, e2⟩ : Has N w (.op 0 41 0) (a.eval (.tmp 39)) := hJ.done 21 (by omega) (hon 21 (by simp))
  obtain ⟨d3, hd3, hk3, e3⟩ : Has N w (.op 0 0 0) (a.eval (.tmp 40)) := hJ.done 22 (by omega) (hon 22 (by simp))
  obtain ⟨d4, hd4, hk4, e4⟩ : Has N w (.op 2 0 0) (a.eval (.tmp 49)) := hJ.done 31 (by omega) (hon 31 (by simp))
  obtain ⟨d5, hd5, hk5, e5⟩ : Has N w (.op 0 80 0) (a.eval (.tmp 51)) := hJ.done 33 (by omega) (hon 33 (by simp))
  obtain ⟨d6, hd6, hk6, e6⟩ : Has N w (.op 1 0 2) (a.eval (.tmp 57)) := hJ.done 39 (by omega) (hon 39 (by simp))
  exact g_ops [d0, d1, d2, d3, d4, d5, d6] (by simp only [List.map_cons, List.map_nil, hk0.1, hk0.2.1, hk0.2.2, hk1.1, hk1.2.1, hk1.2.2, hk2.1, hk2.2.1, hk2.2.2, hk3.1, hk3.2.1, hk3.2.2, hk4.1, hk4.2.1, hk4.2.2, hk5.1, hk5.2.1, hk5.2.2, hk6.1, hk6.2.1, hk6.2.2]) (by intro d hd; simp only [List.mem_cons, List.not_mem_nil, or_false] at hd; rcases hd with rfl | rfl | rfl | rfl | rfl | rfl | rfl <;> assumption) _ (by simp only [List.map_toArray, List.map_cons, List.map_nil, e0, e1, e2, e3, e4, e5, e6]; kernel_rfl)
theorem st41 {a0 : Act} {base w : World} {N i k : Nat} {listed : Array Bool} {a : Act} (hJ : J a0 base N i k listed a w) (hon : ∀ m ∈ ([40] : List Nat), listed.getD m false = true) : Goes Tryz.prog a w (.assign (.tmp 58)) 27 (fun v w' => Has N w' .ops v ∧ Below w.heap.size w w') := by
  exact g_assign (hJ.done 40 (by omega) (hon 40 (by simp)) : Has N w .ops (a.eval (.tmp 58)))
def tbl : List (Option Tmp × Op × TypeId × Option (Nat × Bool) × List Nat) := [
  (some 18, .move (.tmp 1), 22, none, []),
  (some 19, .move (.tmp 2), 3, none, []),
  (some 20, .indexAddr 22 (.tmp 18) (.tmp 19), 0, none, [0, 1]),
  (some 21, .load 3 (.tmp 20), 3, none, [2]),
  (some 22, .move (.tmp 1), 22, none, []),
  (some 23, .move (.tmp 3), 3, none, []),
  (some 24, .indexAddr 22 (.tmp 22) (.tmp 23), 0, none, [4, 5]),
  (some 25, .load 3 (.tmp 24), 3, none, [6]),
  (some 26, .buildSlice 23 1 #[(0, .const (Value.int IntKind.u8 7))], 23, none, []),
  (some 27, .build 25 #[(1, .tmp 21), (2, .tmp 25), (3, .const (Value.int IntKind.i64 1)), (4, .tmp 26)], 25, none, [3, 7, 8]),
  (some 28, .move (.tmp 1), 22, none, []),
  (some 29, .move (.tmp 2), 3, none, []),
  (some 30, .indexAddr 22 (.tmp 28) (.tmp 29), 0, none, [10, 11]),
  (some 31, .load 3 (.tmp 30), 3, none, [12]),
  (some 32, .call { callee := .value (.func 4), args := #[.const (Value.int IntKind.i64 40)], argTypes := #[3] }, 23, none, []),
  (some 33, .build 25 #[(1, .const (Value.int IntKind.i64 1)), (2, .const (Value.int IntKind.i64 3)), (3, .tmp 31), (4, .tmp 32)], 25, none, [13, 14]),
  (some 34, .move (.tmp 1), 22, none, []),
  (some 35, .move (.tmp 3), 3, none, []),
  (some 36, .indexAddr 22 (.tmp 34) (.tmp 35), 0, none, [16, 17]),
  (some 37, .load 3 (.tmp 36), 3, none, [18]),
  (some 38, .call { callee := .value (.func 4), args := #[.const (Value.int IntKind.i64 41)], argTypes := #[3] }, 23, none, [14]),
  (some 39, .build 25 #[(1, .const (Value.int IntKind.i64 1)), (2, .const (Value.int IntKind.i64 3)), (3, .tmp 37), (4, .tmp 38)], 25, none, [19, 20]),
  (some 40, .build 25 #[(1, .const (Value.int IntKind.i64 1)), (2, .const (Value.int IntKind.i64 3)), (3, .const (Value.int IntKind.i64 2))], 25, none, []),
  (some 41, .move (.tmp 1), 22, none, []),
  (some 42, .move (.tmp 2), 3, none, []),
  (some 43, .indexAddr 22 (.tmp 41) (.tmp 42), 0, none, [23, 24]),
  (some 44, .load 3 (.tmp 43), 3, none, [25]),
  (some 45, .move (.tmp 1), 22, none, []),
  (some 46, .move (.tmp 3), 3, none, []),
  (some 47, .indexAddr 22 (.tmp 45) (.tmp 46), 0, none, [27, 28]),
  (some 48, .load 3 (.tmp 47), 3, none, [29]),
  (some 49, .build 25 #[(0, .const (Value.int IntKind.i64 2)), (1, .tmp 44), (2, .tmp 48)], 25, none, [26, 30]),
  (some 50, .call { callee := .value (.func 4), args := #[.const (Value.int IntKind.i64 80)], argTypes := #[3] }, 23, none, [20]),
  (some 51, .build 25 #[(1, .const (Value.int IntKind.i64 1)), (2, .const (Value.int IntKind.i64 3)), (3, .const (Value.int IntKind.i64 3)), (4, .tmp 50)], 25, none, [32]),
  (some 52, .move (.tmp 1), 22, none, []),
  (some 53, .move (.tmp 3), 3, none, []),
  (some 54, .indexAddr 22 (.tmp 52) (.tmp 53), 0, none, [34, 35]),
  (some 55, .load 3 (.tmp 54), 3, none, [36]),
  (some 56, .buildSlice 22 2 #[(0, .const (Value.int IntKind.i64 1)), (1, .tmp 55)], 22, none, [37]),
  (some 57, .build 25 #[(0, .const (Value.int IntKind.i64 1)), (1, .const (Value.int IntKind.i64 1)), (2, .const (Value.int IntKind.i64 3)), (5, .tmp 56)], 25, none, [38]),
  (some 58, .buildSlice 27 7 #[(0, .tmp 27), (1, .tmp 33), (2, .tmp 39), (3, .tmp 40), (4, .tmp 49), (5, .tmp 51), (6, .tmp 57)], 27, none, [9, 15, 21, 22, 31, 33, 39]),
  (some 4, .assign (.tmp 58), 27, none, [40, 32, 0, 1, 2, 3, 4, 5, 6, 7, 8, 9, 10, 11, 12, 13, 14, 15, 16, 17, 18, 19, 20, 21, 22, 23, 24, 25, 26, 27, 28, 29, 30, 31, 32, 33, 34, 35, 36, 37, 38, 39, 40])
]
def StOk (a0 : Act) (base : World) (N i k : Nat) (j : Nat) (s : Option Tmp × Op × TypeId × Option (Nat × Bool) × List Nat) : Prop := s.1 = some (dst j) ∧ s.2.2.2.1 = none ∧ (∀ m ∈ s.2.2.2.2, m < j) ∧ ∀ listed a w, J a0 base N i k listed a w → (∀ m ∈ s.2.2.2.2, listed.getD m false = true) → Goes Tryz.prog a w s.2.1 s.2.2.1 (fun v w' => Has N w' (cls j) v ∧ Below w.heap.size w w')
set_option maxRecDepth 100000 in
theorem tbl_ok {a0 : Act} {base : World} {N i k : Nat} (hN : IsInts base base.heap.size (some ⟨N, 0, none⟩) ten) : AllFrom (StOk a0 base N i k) 0 tbl := ⟨
  ⟨rfl, rfl, by decide, fun listed a w hJ hon => st0 hJ hon⟩,
  ⟨rfl, rfl, by decide, fun listed a w hJ hon => st1 hJ hon⟩,
  ⟨rfl, rfl, by decide, fun listed a w hJ hon => st2 hJ hon⟩,
  ⟨rfl, rfl, by decide, fun listed a w hJ hon => st3 hJ hN hon⟩,
  ⟨rfl, rfl, by decide, fun listed a w hJ hon => st4 hJ hon⟩,
  ⟨rfl, rfl, by decide, fun listed a w hJ hon => st5 hJ hon⟩,
  ⟨rfl, rfl, by decide, fun listed a w hJ hon => st6 hJ hon⟩,
  ⟨rfl, rfl, by decide, fun listed a w hJ hon => st7 hJ hN hon⟩,
  ⟨rfl, rfl, by decide, fun listed a w hJ hon => st8 hJ hon⟩,
  ⟨rfl, rfl, by decide, fun listed a w hJ hon => st9 hJ hon⟩,
  ⟨rfl, rfl, by decide, fun listed a w hJ hon => st10 hJ hon⟩,
  ⟨rfl, rfl, by decide, fun listed a w hJ hon => st11 hJ hon⟩,
  ⟨rfl, rfl, by decide, fun listed a w hJ hon => st12 hJ hon⟩,
  ⟨rfl, rfl, by decide, fun listed a w hJ hon => st13 hJ hN hon⟩,
  ⟨rfl, rfl, by decide, fun listed a w hJ hon => st14 hJ hon⟩,
  ⟨rfl, rfl, by decide, fun listed a w hJ hon => st15 hJ hon⟩,
  ⟨rfl, rfl, by decide, fun listed a w hJ hon => st16 hJ hon⟩,
  ⟨rfl, rfl, by decide, fun listed a w hJ hon => st17 hJ hon⟩,
  ⟨rfl, rfl, by decide, fun listed a w hJ hon => st18 hJ hon⟩,
  ⟨rfl, rfl, by decide, fun listed a w hJ hon => st19 hJ hN hon⟩,
  ⟨rfl, rfl, by decide, fun listed a w hJ hon => st20 hJ hon⟩,
  ⟨rfl, rfl, by decide, fun listed a w hJ hon => st21 hJ hon⟩,
  ⟨rfl, rfl, by decide, fun listed a w hJ hon => st22 hJ hon⟩,
  ⟨rfl, rfl, by decide, fun listed a w hJ hon => st23 hJ hon⟩,
  ⟨rfl, rfl, by decide, fun listed a w hJ hon => st24 hJ hon⟩,
  ⟨rfl, rfl, by decide, fun listed a w hJ hon => st25 hJ hon⟩,
  ⟨rfl, rfl, by decide, fun listed a w hJ hon => st26 hJ hN hon⟩,
  ⟨rfl, rfl, by decide, fun listed a w hJ hon => st27 hJ hon⟩,
  ⟨rfl, rfl, by decide, fun listed a w hJ hon => st28 hJ hon⟩,
  ⟨rfl, rfl, by decide, fun listed a w hJ hon => st29 hJ hon⟩,
  ⟨rfl, rfl, by decide, fun listed a w hJ hon => st30 hJ hN hon⟩,
  ⟨rfl, rfl, by decide, fun listed a w hJ hon => st31 hJ hon⟩,
  ⟨rfl, rfl, by decide, fun listed a w hJ hon => st32 hJ hon⟩,
  ⟨rfl, rfl, by decide, fun listed a w hJ hon => st33 hJ hon⟩,
  ⟨rfl, rfl, by decide, fun listed a w hJ hon => st34 hJ hon⟩,
  ⟨rfl, rfl, by decide, fun listed a w hJ hon => st35 hJ hon⟩,
  ⟨rfl, rfl, by decide, fun listed a w hJ hon => st36 hJ hon⟩,
  ⟨rfl, rfl, by decide, fun listed a w hJ hon => st37 hJ hN hon⟩,
  ⟨rfl, rfl, by decide, fun listed a w hJ hon => st38 hJ hon⟩,
  ⟨rfl, rfl, by decide, fun listed a w hJ hon => st39 hJ hon⟩,
  ⟨rfl, rfl, by decide, fun listed a w hJ hon => st40 hJ hon⟩,
  ⟨rfl, rfl, by decide, fun listed a w hJ hon => st41 hJ (fun m hm => hon m (by simp at hm; subst hm; decide))⟩,
  trivial⟩
/-- the region: in whatever order -/
theorem region8 {a0 : Act} {base w : World} {N i k : Nat} {ops : Array Oper} {id : Nat} {Q : Exit → Act → World → Prop} {a : Act} (hN : IsInts base base.heap.size (some ⟨N, 0, none⟩) ten) (hops : ops.toList.map skel = tbl)
    (hJ : J a0 base N i k (Array.replicate ops.size false) a w.drew) (hQ : ∀ a w, J a0 base N i k (Array.replicate 42 true) a w → Q .normal a w) : (Code.region id ops true).wp Tryz.prog Q a w := by
  have hsize : ops.size = 42 := by
    have := congrArg List.length hops
    simpa [tbl] using this
  have hat : ∀ (j : Nat) (o : Oper), ops[j]? = some o → StOk a0 base N i k j (skel o) := fun j o ho => by
    have h1 : tbl[j]? = some (skel o) := by rw [← hops, List.getElem?_map, Array.getElem?_toList, ho]; rfl
    have := AllFrom.get (tbl_ok (a0 := a0) (i := i) (k := k) hN) j _ h1
    rwa [Nat.zero_add] at this
  have hon : ∀ (o : Oper) (e : Edge), e ∈ o.after → Region.binds .any e = true → e.on ∈ (skel o).2.2.2.2 := fun o e he hb => by
    refine List.mem_map.2 ⟨e, List.mem_filter.2 ⟨by simpa using he, hb⟩, rfl⟩
  refine wp_region_inv (by kernel_rfl) (J a0 base N i k) hJ ?_ ?_
  · intro listed a w j o hJ ho h0 ha
    obtain ⟨h1, h2, h3, h4⟩ := hat j o ho
    have hj : j < 42 := by rw [← hsize]; exact (Array.getElem?_eq_some_iff.1 ho).1
    refine Goes.wpOp ho h2 (h4 listed a w hJ (fun m hm => ?_)) (fun v w' hv => ?_)
    · obtain ⟨e, he, rfl⟩ := List.mem_map.1 hm
      obtain ⟨he1, he2⟩ := List.mem_filter.1 he
      exact ha e (by simpa using he1) he2
    · have h1 : o.dst = some (dst j) := h1
      rw [h1]
      exact hJ.put j hj v hv.2 hv.1
  · intro listed a w hJ hr
    have hall := all_listed (by rw [hJ.lsize, hsize]) (fun j o ho e he hb => (hat j o ho).2.2.1 _ (hon o e he hb)) hr
    refine hQ a w ⟨hJ.size, hJ.defers, hJ.keep, hJ.s1, hJ.s2, hJ.s3, hJ.hi, hJ.hk, by simp, hJ.bel, fun j hj _ => hJ.done j hj (hall j (by omega))⟩

/-- .. from a frame that is written out to such a one -/
theorem region8L {v0 v1 v2 v3 v4 v5 v6 v7 v8 v9 v10 v11 v12 v13 v14 v15 v16 v17 v18 v19 v20 v21 v22 v23 v24 v25 v26 v27 v28 v29 v30 v31 v32 v33 v34 v35 v36 v37 v38 v39 v40 v41 v42 v43 v44 v45 v46 v47 v48 v49 v50 v51 v52 v53 v54 v55 v56 v57 v58 v59 v60 v61 v62 v63 v64 v65 v66 v67 v68 : Value} {base w : World} {N i k : Nat} {ops : Array Oper} {id : Nat} {Q : Exit → Act → World → Prop} (hN : IsInts base base.heap.size (some ⟨N, 0, none⟩) ten) (hops : ops.toList.map skel = tbl)
    (h1 : v1 = .slice (some ⟨N, 0, none⟩) 16 16) (h2 : v2 = .int .i64 i) (h3 : v3 = .int .i64 k) (hi : i < 16) (hk : k < 16) (hb : Below base.heap.size base w)
    (hQ : ∀ (u : Nat → Value) (g : Nat) (ts : List Ck.Op) (w' : World), Shape7 ts → Ck.IsOps w' w'.heap.size (some ⟨g, 0, none⟩) ts → Below base.heap.size base w' → Q .normal ⟨#[v0, v1, v2, v3, .slice (some ⟨g, 0, none⟩) 7 7, v5, v6, v7, v8, v9, v10, v11, v12, v13, v14, v15, v16, v17, u 18, u 19, u 20, u 21, u 22, u 23, u 24, u 25, u 26, u 27, u 28, u 29, u 30, u 31, u 32, u 33, u 34, u 35, u 36, u 37, u 38, u 39, u 40, u 41, u 42, u 43, u 44, u 45, u 46, u 47, u 48, u 49, u 50, u 51, u 52, u 53, u 54, u 55, u 56, u 57, u 58, v59, v60, v61, v62, v63, v64, v65, v66, v67, v68], []⟩ w') :
    (Code.region id ops true).wp Tryz.prog Q ⟨#[v0, v1, v2, v3, v4, v5, v6, v7, v8, v9, v10, v11, v12, v13, v14, v15, v16, v17, v18, v19, v20, v21, v22, v23, v24, v25, v26, v27, v28, v29, v30, v31, v32, v33, v34, v35, v36, v37, v38, v39, v40, v41, v42, v43, v44, v45, v46, v47, v48, v49, v50, v51, v52, v53, v54, v55, v56, v57, v58, v59, v60, v61, v62, v63, v64, v65, v66, v67, v68], []⟩ w := by
  have hm : ops.size = 42 := by
    have := congrArg List.length hops
    simpa [tbl] using this
  refine region8 (a0 := ⟨#[v0, v1, v2, v3, v4, v5, v6, v7, v8, v9, v10, v11, v12, v13, v14, v15, v16, v17, v18, v19, v20, v21, v22, v23, v24, v25, v26, v27, v28, v29, v30, v31, v32, v33, v34, v35, v36, v37, v38, v39, v40, v41, v42, v43, v44, v45, v46, v47, v48, v49, v50, v51, v52, v53, v54, v55, v56, v57, v58, v59, v60, v61, v62, v63, v64, v65, v66, v67, v68], []⟩) hN hops ⟨rfl, rfl, fun s _ => rfl, h1, h2, h3, hi, hk, by simp [hm], hb.drew, fun j hj h => by
    rw [Array.getD_eq_getD_getElem?, Array.getElem?_replicate] at h
    split at h <;> cases h⟩ (fun a wz hJ => ?_)
  obtain ⟨g, ts, e4, hts, hops⟩ : Has N wz .ops (a.eval (.tmp 4)) := hJ.done 41 (by omega) (by simp)
  have hkp : ∀ s : Nat, s ≠ 4 → (s < 18 ∨ 58 < s) → a.eval (.tmp s) = Act.eval ⟨#[v0, v1, v2, v3, v4, v5, v6, v7, v8, v9, v10, v11, v12, v13, v14, v15, v16, v17, v18, v19, v20, v21, v22, v23, v24, v25, v26, v27, v28, v29, v30, v31, v32, v33, v34, v35, v36, v37, v38, v39, v40, v41, v42, v43, v44, v45, v46, v47, v48, v49, v50, v51, v52, v53, v54, v55, v56, v57, v58, v59, v60, v61, v62, v63, v64, v65, v66, v67, v68], []⟩ (.tmp s) := fun s h4 hs => hJ.keep s (fun j hj => by unfold dst; split <;> omega)
  have k0 : a.eval (.tmp 0) = v0 := hkp 0 (by decide) (by decide)
  have k1 : a.eval (.tmp 1) = v1 := hkp 1 (by decide) (by decide)
  have k2 : a.eval (.tmp 2) = v2 := hkp 2 (by decide) (by decide)
  have k3 : a.eval (.tmp 3) = v3 := hkp 3 (by decide) (by decide)
  have k5 : a.eval (.tmp 5) = v5 := hkp 5 (by decide) (by decide)
  have k6 : a.eval (.tmp 6) = v6 := hkp 6 (by decide) (by decide)
  have k7 : a.eval (.tmp 7) = v7 := hkp 7 (by decide) (by decide)
  have k8 : a.eval (.tmp 8) = v8 := hkp 8 (by decide) (by decide)
  have k9 : a.eval (.tmp 9) = v9 := hkp 9 (by decide) (by decide)
  have k10 : a.eval (.tmp 10) = v10 := hkp 10 (by decide) (by decide)
  have k11 : a.eval (.tmp 11) = v11 := hkp 11 (by decide) (by decide)
  have k12 : a.eval (.tmp 12) = v12 := hkp 12 (by decide) (by decide)
  have k13 : a.eval (.tmp 13) = v13 := hkp 13 (by decide) (by decide)
  have k14 : a.eval (.tmp 14) = v14 := hkp 14 (by decide) (by decide)
  have k15 : a.eval (.tmp 15) = v15 := hkp 15 (by decide) (by decide)
  have k16 : a.eval (.tmp 16) = v16 := hkp 16 (by decide) (by decide)
  have k17 : a.eval (.tmp 17) = v17 := hkp 17 (by decide) (by decide)
  have k59 : a.eval (.tmp 59) = v59 := hkp 59 (by decide) (by decide)
  have k60 : a.eval (.tmp 60) = v60 := hkp 60 (by decide) (by decide)
  have k61 : a.eval (.tmp 61) = v61 := hkp 61 (by decide) (by decide)
  have k62 : a.eval (.tmp 62) = v62 := hkp 62 (by decide) (by decide)
  have k63 : a.eval (.tmp 63) = v63 := hkp 63 (by decide) (by decide)
  have k64 : a.eval (.tmp 64) = v64 := hkp 64 (by decide) (by decide)
  have k65 : a.eval (.tmp 65) = v65 := hkp 65 (by decide) (by decide)
  have k66 : a.eval (.tmp 66) = v66 := hkp 66 (by decide) (by decide)
  have k67 : a.eval (.tmp 67) = v67 := hkp 67 (by decide) (by decide)
  have k68 : a.eval (.tmp 68) = v68 := hkp 68 (by decide) (by decide)
  have hs := hJ.size
  have hd := hJ.defers
  have hbz := hJ.bel
  clear hJ hkp
  have hl : a.tmps.toList = (List.range 69).map (fun n => a.eval (.tmp n)) := by
    refine List.ext_getElem (by simp [hs]) (fun n h1 h2 => ?_)
    have h3 : n < a.tmps.size := by simpa using h1
    simp [Act.eval, h3]
  have h2 : (List.range 69).map (fun n => a.eval (.tmp n)) = [a.eval (.tmp 0), a.eval (.tmp 1), a.eval (.tmp 2), a.eval (.tmp 3), a.eval (.tmp 4), a.eval (.tmp 5), a.eval (.tmp 6), a.eval (.tmp 7), a.eval (.tmp 8), a.eval (.tmp 9), a.eval (.tmp 10), a.eval (.tmp 11), a.eval (.tmp 12), a.eval (.tmp 13), a.eval (.tmp 14), a.eval (.tmp 15), a.eval (.tmp 16), a.eval (.tmp 17), a.eval (.tmp 18), a.eval (.tmp 19), a.eval (.tmp 20), a.eval (.tmp 21), a.eval (.tmp 22), a.eval (.tmp 23), a.eval (.tmp 24), a.eval (.tmp 25), a.eval (.tmp 26), a.eval (.tmp 27), a.eval (.tmp 28), a.eval (.tmp 29), a.eval (.tmp 30), a.eval (.tmp 31), a.eval (.tmp 32), a.eval (.tmp 33), a.eval (.tmp 34), a.eval (.tmp 35), a.eval (.tmp 36), a.eval (.tmp 37), a.eval (.tmp 38), a.eval (.tmp 39), a.eval (.tmp 40), a.eval (.tmp 41), a.eval (.tmp 42), a.eval (.tmp 43), a.eval (.tmp 44), a.eval (.tmp 45), a.eval (.tmp 46), a.eval (.tmp 47), a.eval (.tmp 48), a.eval (.tmp 49), a.eval (.tmp 50), a.eval (.tmp 51), a.eval (.tmp 52), a.eval (.tmp 53), a.eval (.tmp 54), a.eval (.tmp 55), a.eval (.tmp 56), a.eval (.tmp 57), a.eval (.tmp 58), a.eval (.tmp 59), a.eval (.tmp 60), a.eval (.tmp 61), a.eval (.tmp 62), a.eval (.tmp 63), a.eval (.tmp 64), a.eval (.tmp 65), a.eval (.tmp 66), a.eval (.tmp 67), a.eval (.tmp 68)] := by kernel_rfl
  rw [h2, k0, k1, k2, k3, k5, k6, k7, k8, k9, k10, k11, k12, k13, k14, k15, k16, k17, k59, k60, k61, k62, k63, k64, k65, k66, k67, k68, e4] at hl
  have hQ' := hQ (fun n => a.eval (.tmp n)) g ts wz hts hops hbz
  obtain ⟨tmps, defers⟩ := a
  have hd : defers = [] := hd
  subst hd
  have h3 : tmps = (tmps.toList).toArray := by simp
  have hl : tmps.toList = _ := hl
  rw [hl] at h3
  rw [h3]
  rw [h3] at hQ'
  exact hQ'
end Go.Proofs.YtdgijnolpjaheaaGreat
