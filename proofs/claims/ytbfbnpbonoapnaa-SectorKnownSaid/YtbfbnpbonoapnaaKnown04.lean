/- SectorKnown's list of operations: made in whatever order, it is a list of operations. (Made by wip/tools/mkknown4.py.) -/
import Derived.Test.YtbfbnpbonoapnaaRegInv
import Derived.Test.YtbfbnpbonoapnaaOps
import Derived.Test.YtbfbnpbonoapnaaKitInts
namespace Go.Proofs.Ytbfbnpbonoapnaa
open Go Go.RowKit

inductive Cls where
  | bytes | ints | op | row | idx | ptr | num | ops
def ten : List Int := [-9223372036854775808, -1, 0, 1, 2, 3, 4, 16384, 16385, 9223372036854775807]
theorem ten_in : ∀ v ∈ ten, InInt v := by
  intro v hv
  simp only [ten, List.mem_cons, List.not_mem_nil, or_false] at hv
  unfold InInt
  omega
structure OpD where
  t : Sx.Op
  ap : Option Addr
  cp : Nat
  al : Option Addr
  cl : Nat
def OpD.cells (d : OpD) : List Value := [.int .i64 d.t.kind, .int .i64 d.t.i, .int .i64 d.t.look, .slice d.ap d.t.data.length d.cp, .slice d.al d.t.lst.length d.cl]
structure OpD.Ok (d : OpD) (w : World) : Prop where
  p : IsBytes w w.heap.size d.ap d.t.data
  l : IsInts w w.heap.size d.al d.t.lst
  cp : d.t.data.length ≤ d.cp ∧ d.cp ≤ maxLen
  cl : d.t.lst.length ≤ d.cl ∧ d.cl ≤ maxLen
  np : d.ap = none → d.cp = 0
  nl : d.al = none → d.cl = 0
  kind : InInt d.t.kind
  i : InInt d.t.i
  look : InInt d.t.look
theorem OpD.Ok.below {d : OpD} {w w' : World} (h : d.Ok w) (hb : Below w.heap.size w w') : d.Ok w' :=
  ⟨(h.p.below hb).more hb.size, (h.l.below hb).more hb.size, h.cp, h.cl, h.np, h.nl, h.kind, h.i, h.look⟩
theorem nil_cap : 0 ≤ 0 ∧ 0 ≤ maxLen := ⟨Nat.le_refl _, Nat.zero_le _⟩
/-- what an operation's value is, by its class -/
def Has (N : Nat) (w : World) : Cls → Value → Prop
  | .bytes, v => ∃ A c, ∃ l : List Nat, v = .slice A l.length c ∧ IsBytes w w.heap.size A l ∧ (l.length ≤ c ∧ c ≤ maxLen) ∧ (A = none → c = 0)
  | .ints, v => ∃ A c, ∃ l : List Int, v = .slice A l.length c ∧ IsInts w w.heap.size A l ∧ (l.length ≤ c ∧ c ≤ maxLen) ∧ (A = none → c = 0)
  | .op, v => ∃ d : OpD, d.Ok w ∧ v = .agg d.cells.toArray
  | .row, v => v = .slice (some ⟨N, 0, none⟩) 10 10
  | .idx, v => ∃ j : Nat, j < 10 ∧ v = .int .i64 j
  | .ptr, v => ∃ j : Nat, j < 10 ∧ v = .pointer (some ⟨N, j, none⟩)
  | .num, v => ∃ z : Int, InInt z ∧ v = .int .i64 z
  | .ops, v => ∃ g, ∃ ts : List Sx.Op, v = .slice (some ⟨g, 0, none⟩) 22 22 ∧ ts.length = 22 ∧ IsOps w w.heap.size (some ⟨g, 0, none⟩) ts
theorem Has.below {N : Nat} {w w' : World} (hb : Below w.heap.size w w') : ∀ {c : Cls} {v : Value}, Has N w c v → Has N w' c v
  | .bytes, _, ⟨A, c, l, h1, h2, h3⟩ => ⟨A, c, l, h1, (h2.below hb).more hb.size, h3⟩
  | .ints, _, ⟨A, c, l, h1, h2, h3⟩ => ⟨A, c, l, h1, (h2.below hb).more hb.size, h3⟩
  | .op, _, ⟨d, h1, h2⟩ => ⟨d, h1.below hb, h2⟩
  | .row, _, h => h
  | .idx, _, h => h
  | .ptr, _, h => h
  | .num, _, h => h
  | .ops, _, ⟨g, ts, h1, h2, h3⟩ => ⟨g, ts, h1, h2, (h3.below hb).more hb.size⟩
def dst (j : Nat) : Nat := if j = 58 then 4 else 18 + j

def clsL : List Cls := [.bytes, .op, .op, .bytes, .op, .op, .bytes, .op, .bytes, .op, .op, .row, .idx, .ptr, .num, .row, .idx, .ptr, .num, .ints, .op, .bytes, .op, .ints, .op, .row, .idx, .ptr, .num, .bytes, .row, .idx, .ptr, .num, .op, .bytes, .op, .row, .idx, .ptr, .num, .op, .op, .op, .op, .op, .row, .idx, .ptr, .num, .op, .bytes, .op, .ints, .op, .op, .op, .ops, .ops]
def cls (j : Nat) : Cls := (clsL[j]?).getD .ops
/-- the region under way -/
structure J (a0 : Act) (base : World) (N i k : Nat) (listed : Array Bool) (a : Act) (w : World) : Prop where
  size : a.tmps.size = 132
  defers : a.defers = []
  keep : ∀ s : Nat, (∀ j, j < 59 → dst j ≠ s) → a.eval (.tmp s) = a0.eval (.tmp s)
  s1 : a.eval (.tmp 1) = .slice (some ⟨N, 0, none⟩) 10 10
  s2 : a.eval (.tmp 2) = .int .i64 i
  s3 : a.eval (.tmp 3) = .int .i64 k
  hi : i < 10
  hk : k < 10
  lsize : listed.size = 59
  bel : Below base.heap.size base w
  done : ∀ j, j < 59 → listed.getD j false = true → Has N w (cls j) (a.eval (.tmp (dst j)))
theorem eval_put_ne (a : Act) {d t : Nat} (v : Value) (h : d ≠ t) : (a.put (some d) v).eval (.tmp t) = a.eval (.tmp t) := by
  simp [Act.put, Act.eval, Array.getElem?_setIfInBounds_ne h]
theorem eval_put_self (a : Act) {d : Nat} (v : Value) (h : d < a.tmps.size) : (a.put (some d) v).eval (.tmp d) = v := by
  simp [Act.put, Act.eval, h]
theorem ev_const (a : Act) (v : Value) : a.eval (.const v) = v := rfl
theorem J.put {a0 : Act} {base w w' : World} {N i k : Nat} {listed : Array Bool} {a : Act} (h : J a0 base N i k listed a w) (j : Nat) (hj : j < 59) (v : Value) (hb : Below w.heap.size w w') (hv : Has N w' (cls j) v) :
    J a0 base N i k (listed.setIfInBounds j true) (a.put (some (dst j)) v) w' := by
  have hd : dst j < 132 ∧ dst j ≠ 1 ∧ dst j ≠ 2 ∧ dst j ≠ 3 := by unfold dst; split <;> omega
  refine ⟨by simp [Act.put, h.size], h.defers, fun s hs => (eval_put_ne a v (hs j hj)).trans (h.keep s hs), (eval_put_ne a v hd.2.1).trans h.s1, (eval_put_ne a v hd.2.2.1).trans h.s2, (eval_put_ne a v hd.2.2.2).trans h.s3, h.hi, h.hk, by simp [h.lsize], h.bel.trans (hb.mono h.bel.size), fun m hm hl => ?_⟩
  by_cases e : m = j
  · subst e
    rw [eval_put_self a v (by rw [h.size]; exact hd.1)]
    exact hv
  · have hne : dst j ≠ dst m := by unfold dst; split <;> split <;> omega
    rw [eval_put_ne a v hne]
    refine (h.done m hm ?_).below hb
    rw [Array.getD_eq_getD_getElem?, Array.getElem?_setIfInBounds_ne (by omega), ← Array.getD_eq_getD_getElem?] at hl
    exact hl
section
variable {a0 : Act} {base w : World} {N i k : Nat} {listed : Array Bool} {a : Act}
theorem g_row (hJ : J a0 base N i k listed a w) {ty : TypeId} : Goes Try.prog a w (.move (.tmp 1)) ty (fun v w' => Has N w' .row v ∧ Below w.heap.size w w') := .inl ⟨_, w, x_move _ _ _ _, hJ.s1, Below.refl _ _⟩
theorem g_i (hJ : J a0 base N i k listed a w) {ty : TypeId} : Goes Try.prog a w (.move (.tmp 2)) ty (fun v w' => Has N w' .idx v ∧ Below w.heap.size w w') := .inl ⟨_, w, x_move _ _ _ _, ⟨i, hJ.hi, hJ.s2⟩, Below.refl _ _⟩
theorem g_k (hJ : J a0 base N i k listed a w) {ty : TypeId} : Goes Try.prog a w (.move (.tmp 3)) ty (fun v w' => Has N w' .idx v ∧ Below w.heap.size w w') := .inl ⟨_, w, x_move _ _ _ _, ⟨k, hJ.hk, hJ.s3⟩, Below.refl _ _⟩
theorem g_assign {p : Nat} {ty : TypeId} (h : Has N w .ops (a.eval (.tmp p))) : Goes Try.prog a w (.assign (.tmp p)) ty (fun v w' => Has N w' .ops v ∧ Below w.heap.size w w') := .inl ⟨_, w, x_assign _ _ _ _, h, Below.refl _ _⟩
theorem g_index (p q : Nat) {ty : TypeId} (hp : Has N w .row (a.eval (.tmp p))) (hq : Has N w .idx (a.eval (.tmp q))) : Goes Try.prog a w (.indexAddr 34 (.tmp p) (.tmp q)) ty (fun v w' => Has N w' .ptr v ∧ Below w.heap.size w w') := by
  obtain ⟨j, hj, hq⟩ := hq
  refine .inl ⟨.pointer (some ⟨N, j, none⟩), w, x_index _ _ _ _ _ _ _ ?_, ⟨j, hj, rfl⟩, Below.refl _ _⟩
  rw [hp, hq]
  have h1 : (j : Int) < 10 := by omega
  go_simp
theorem g_load (hJ : J a0 base N i k listed a w) (hN : IsInts base base.heap.size (some ⟨N, 0, none⟩) ten) (p : Nat) {ty : TypeId} (hp : Has N w .ptr (a.eval (.tmp p))) : Goes Try.prog a w (.load 3 (.tmp p)) ty (fun v w' => Has N w' .num v ∧ Below w.heap.size w w') := by
  obtain ⟨j, hj, hp⟩ := hp
  obtain ⟨b, off, e, _, hc⟩ := (hN.below hJ.bel).cells j (show j < ten.length from hj)
  injection e with e
  injection e with e1 e2 e3
  subst e1
  subst e2
  have hcj := hc j (show j < ten.length from hj)
  rw [Nat.zero_add] at hcj
  refine .inl ⟨.int .i64 (ten[j]'hj), w, x_load _ _ _ _ _ _ ?_, ⟨_, ten_in _ (List.getElem_mem _), rfl⟩, Below.refl _ _⟩
  rw [hp]
  go_simp
  all_goals rfl
theorem capLe4 {e : TypeId} {w : World} {base c : Nat} {A : Option Addr} {l : List Nat} (h : OwnsB e w base A c l) : c ≤ maxLen := by
  rcases h.row.2 with ⟨h0, _⟩ | ⟨g, cap, cur, h1, _, _, h4, h5, _⟩
  · injection h0 with _ _ h0; subst h0; exact Nat.zero_le _
  · injection h1 with _ _ h1; subst h1; exact h5
theorem g_call (n : Nat) {ty : TypeId} (hn : n ≤ 100000) : Goes Try.prog a w (.call { callee := .value (.func 24), args := #[.const (Value.int IntKind.i64 (n : Nat))], argTypes := #[3] }) ty (fun v w' => Has N w' .bytes v ∧ Below w.heap.size w w') := by
  refine .inr ⟨24, #[.int .i64 n], ?_, ?_⟩
  · unfold execOp sop
    simp only []
    go_simp
  · refine (row_any n hn w).mono ?_
    rintro e w' ⟨A, c, L, rfl, hL, ho, hb⟩
    subst hL
    exact ⟨_, rfl, ⟨A, c, L, rfl, ho.reads, ⟨ho.cap, capLe4 ho⟩, ho.none_⟩, hb⟩
theorem g_bytes (z : Int) {ty : TypeId} (h0 : 0 ≤ z) (h1 : z < 256) : Goes Try.prog a w (.buildSlice 33 1 #[(0, .const (Value.int IntKind.u8 z))]) ty (fun v w' => Has N w' .bytes v ∧ Below w.heap.size w w') := by
  obtain ⟨i0, hi, hz0, hz1, hz2⟩ := info_parts info_u8
  obtain ⟨n, rfl⟩ := Int.eq_ofNat_of_zero_le h0
  refine .inl ⟨_, _, x_slice _ _ _ _ _ _ _ _ (run_buildSlice w 33 5 1 _ (bytes [n]).toArray i0 (.int .u8 0) (by kernel_rfl) hi hz0 (by rw [hz1]; omega) (by rw [hz1]; omega) ?_), ⟨some ⟨w.heap.size, 0, none⟩, 1, [n], rfl, ?_, ⟨Nat.le_refl _, by unfold maxLen; show (1 : Nat) ≤ _; omega⟩, fun h => by cases h⟩, (Below.refl _ w).alloc (Nat.le_refl _) _⟩
  · rw [hz1]
    simp only [List.map_toArray, List.map_cons, List.map_nil, ev_const]
    kernel_rfl
  · exact (isBytes_new w [n] (by simp; omega) 5 (0, 0)).more (by simp)
theorem g_ints (m : Nat) (parts : Array (Nat × Operand)) {ty : TypeId} (l : List Int) (hl : ∀ x ∈ l, InInt x) (hm : l.length = m) (hm2 : 0 < m ∧ m ≤ 100)
    (hf : Instr.fill (fun i => some (i * 1, 1)) ((Array.range (m * 1)).map ((Value.int .i64 0).cells[· % (Value.int .i64 0).cells.size]!)) (parts.map fun (i, x) => (i, a.eval x)).toList = some (ints l).toArray) :
    Goes Try.prog a w (.buildSlice 34 m parts) ty (fun v w' => Has N w' .ints v ∧ Below w.heap.size w w') := by
  subst hm
  obtain ⟨i0, hi, hz0, hz1, hz2⟩ := info_parts I.info_int
  refine .inl ⟨_, _, x_slice _ _ _ _ _ _ _ _ (run_buildSlice w 34 3 l.length _ (ints l).toArray i0 (.int .i64 0) (by kernel_rfl) hi hz0 (by rw [hz1]; omega) (by rw [hz1]; omega) (by rw [hz1]; exact hf)), ⟨some ⟨w.heap.size, 0, none⟩, l.length, l, rfl, ?_, ⟨Nat.le_refl _, by unfold maxLen; omega⟩, fun h => by cases h⟩, (Below.refl _ w).alloc (Nat.le_refl _) _⟩
  exact (isInts_new w l hl 3 (0, 0)).more (by simp)
theorem g_build (d : OpD) (hd : d.Ok w) (parts : Array (Nat × Operand)) {ty : TypeId} (hb : Try.prog.built 36 (parts.map fun (i, x) => (i, a.eval x)).toList = some d.cells.toArray) :
    Goes Try.prog a w (.build 36 parts) ty (fun v w' => Has N w' .op v ∧ Below w.heap.size w w') :=
  .inl ⟨_, w, x_build _ _ _ _ _ _ (run_build w _ _ _ hb), ⟨d, hd, rfl⟩, Below.refl _ _⟩
theorem flat_get (ds : List OpD) : ∀ (i r : Nat) (hi : i < ds.length), r < 5 → (ds.flatMap OpD.cells)[i * 5 + r]? = ds[i].cells[r]? := by
  induction ds with
  | nil => intro i r hi; simp at hi
  | cons d ds ih =>
    intro i r hi hr
    rw [List.flatMap_cons]
    rcases i with _ | i
    · rw [List.getElem?_append_left (by show 0 * 5 + r < 5; omega)]
      simp
    · rw [List.getElem?_append_right (by show 5 ≤ _; omega)]
      have : (i + 1) * 5 + r - d.cells.length = i * 5 + r := by show (i + 1) * 5 + r - 5 = _; omega
      rw [this, ih i r (by simpa using hi) hr]
      rfl
theorem info_op : (Try.prog.info? 36).map (fun i => (i.zero, i.size, i.bytes)) = some (some (.agg #[.int .i64 0, .int .i64 0, .int .i64 0, .slice none 0 0, .slice none 0 0]), 5, 72) := by kernel_rfl
theorem g_ops (ds : List OpD) (h22 : ds.length = 22) (hds : ∀ d ∈ ds, d.Ok w) (parts : Array (Nat × Operand)) {ty : TypeId}
    (hf : Instr.fill (fun i => some (i * 5, 5)) ((Array.range (22 * 5)).map ((Value.agg #[.int .i64 0, .int .i64 0, .int .i64 0, .slice none 0 0, .slice none 0 0]).cells[· % (Value.agg #[.int .i64 0, .int .i64 0, .int .i64 0, .slice none 0 0, .slice none 0 0]).cells.size]!)) (parts.map fun (i, x) => (i, a.eval x)).toList = some (ds.flatMap OpD.cells).toArray) :
    Goes Try.prog a w (.buildSlice 22 22 parts) ty (fun v w' => Has N w' .ops v ∧ Below w.heap.size w w') := by
  obtain ⟨i0, hi, hz0, hz1, hz2⟩ := info_parts info_op
  have hb : Below w.heap.size w (w.alloc (.cells (ds.flatMap OpD.cells).toArray 36)) := (Below.refl _ w).alloc (Nat.le_refl _) _
  refine .inl ⟨_, _, x_slice _ _ _ _ _ _ _ _ (run_buildSlice w 22 36 22 _ (ds.flatMap OpD.cells).toArray i0 _ (by kernel_rfl) hi hz0 (by rw [hz1]; omega) (by rw [hz1]; omega) (by rw [hz1]; exact hf)), ⟨w.heap.size, ds.map (·.t), rfl, by simpa using h22, ⟨fun m hm => ⟨w.heap.size, 0, rfl, by simp, fun j hj => ?_⟩⟩⟩, hb⟩
  have hj' : j < ds.length := by simpa using hj
  have hok := (hds _ (List.getElem_mem hj')).below hb
  have hc : ∀ r, r < 5 → (w.alloc (.cells (ds.flatMap OpD.cells).toArray 36)).cell? ⟨w.heap.size, 0 + j * 5 + r, none⟩ = ds[j].cells[r]? := fun r hr => by
    rw [World.cell?_alloc_new]
    rw [List.getElem?_toArray, Nat.zero_add, flat_get ds j r hj' hr]
  have e : (ds.map (·.t))[j] = ds[j].t := by simp
  rw [e]
  exact ⟨ds[j].ap, ds[j].cp, ds[j].al, ds[j].cl, hc 0 (by omega), hc 1 (by omega), hc 2 (by omega), hc 3 (by omega), hc 4 (by omega), hok.p, hok.l, hok.cp, hok.cl, hok.np, hok.nl, hok.kind, hok.i, hok.look⟩
end

theorem st0 {a0 : Act} {base w : World} {N i k : Nat} {listed : Array Bool} {a : Act} (_hJ : J a0 base N i k listed a w) (_hon : ∀ m ∈ ([] : List Nat), listed.getD m false = true) : Goes Try.prog a w (.buildSlice 33 1 #[(0, .const (Value.int IntKind.u8 7))]) 33 (fun v w' => Has N w' .bytes v ∧ Below w.heap.size w w') := by
  exact g_bytes 7 (by omega) (by omega)
theorem st1 {a0 : Act} {base w : World} {N i k : Nat} {listed : Array Bool} {a : Act} (hJ : J a0 base N i k listed a w) (hon : ∀ m ∈ ([0] : List Nat), listed.getD m false = true) : Goes Try.prog a w (.build 36 #[(0, .const (Value.int IntKind.i64 0)), (1, .const (Value.int IntKind.i64 1)), (3, .tmp 18)]) 36 (fun v w' => Has N w' .op v ∧ Below w.heap.size w w') := by
  obtain ⟨A3, c3, l3, e3, h3, g3, n3⟩ : Has N w .bytes (a.eval (.tmp 18)) := hJ.done 0 (by omega) (hon 0 (by simp))
  exact g_build ⟨⟨0, 1, 0, l3, []⟩, A3, c3, none, 0⟩ ⟨h3, IsInts.nil, g3, nil_cap, n3, (fun _ => rfl), (show InInt 0 by unfold InInt; omega), (show InInt 1 by unfold InInt; omega), (show InInt 0 by unfold InInt; omega)⟩ _ (by simp only [List.map_toArray, List.map_cons, List.map_nil, e3, ev_const]; kernel_rfl)
theorem st2 {a0 : Act} {base w : World} {N i k : Nat} {listed : Array Bool} {a : Act} (_hJ : J a0 base N i k listed a w) (_hon : ∀ m ∈ ([] : List Nat), listed.getD m false = true) : Goes Try.prog a w (.build 36 #[(0, .const (Value.int IntKind.i64 3))]) 36 (fun v w' => Has N w' .op v ∧ Below w.heap.size w w') := by
  exact g_build ⟨⟨3, 0, 0, [], []⟩, none, 0, none, 0⟩ ⟨IsBytes.nil, IsInts.nil, nil_cap, nil_cap, (fun _ => rfl), (fun _ => rfl), (show InInt 3 by unfold InInt; omega), (show InInt 0 by unfold InInt; omega), (show InInt 0 by unfold InInt; omega)⟩ _ (by simp only [List.map_toArray, List.map_cons, List.map_nil, ev_const]; kernel_rfl)
theorem st3 {a0 : Act} {base w : World} {N i k : Nat} {listed : Array Bool} {a : Act} (_hJ : J a0 base N i k listed a w) (_hon : ∀ m ∈ ([] : List Nat), listed.getD m false = true) : Goes Try.prog a w (.buildSlice 33 1 #[(0, .const (Value.int IntKind.u8 7))]) 33 (fun v w' => Has N w' .bytes v ∧ Below w.heap.size w w') := by
  exact g_bytes 7 (by omega) (by omega)
theorem st4 {a0 : Act} {base w : World} {N i k : Nat} {listed : Array Bool} {a : Act} (hJ : J a0 base N i k listed a w) (hon : ∀ m ∈ ([3] : List Nat), listed.getD m false = true) : Goes Try.prog a w (.build 36 #[(0, .const (Value.int IntKind.i64 0)), (1, .const (Value.int IntKind.i64 1)), (3, .tmp 21)]) 36 (fun v w' => Has N w' .op v ∧ Below w.heap.size w w') := by
  obtain ⟨A3, c3, l3, e3, h3, g3, n3⟩ : Has N w .bytes (a.eval (.tmp 21)) := hJ.done 3 (by omega) (hon 3 (by simp))
  exact g_build ⟨⟨0, 1, 0, l3, []⟩, A3, c3, none, 0⟩ ⟨h3, IsInts.nil, g3, nil_cap, n3, (fun _ => rfl), (show InInt 0 by unfold InInt; omega), (show InInt 1 by unfold InInt; omega), (show InInt 0 by unfold InInt; omega)⟩ _ (by simp only [List.map_toArray, List.map_cons, List.map_nil, e3, ev_const]; kernel_rfl)
theorem st5 {a0 : Act} {base w : World} {N i k : Nat} {listed : Array Bool} {a : Act} (_hJ : J a0 base N i k listed a w) (_hon : ∀ m ∈ ([] : List Nat), listed.getD m false = true) : Goes Try.prog a w (.build 36 #[(0, .const (Value.int IntKind.i64 1))]) 36 (fun v w' => Has N w' .op v ∧ Below w.heap.size w w') := by
  exact g_build ⟨⟨1, 0, 0, [], []⟩, none, 0, none, 0⟩ ⟨IsBytes.nil, IsInts.nil, nil_cap, nil_cap, (fun _ => rfl), (fun _ => rfl), (show InInt 1 by unfold InInt; omega), (show InInt 0 by unfold InInt; omega), (show InInt 0 by unfold InInt; omega)⟩ _ (by simp only [List.map_toArray, List.map_cons, List.map_nil, ev_const]; kernel_rfl)
theorem st6 {a0 : Act} {base w : World} {N i k : Nat} {listed : Array Bool} {a : Act} (_hJ : J a0 base N i k listed a w) (_hon : ∀ m ∈ ([] : List Nat), listed.getD m false = true) : Goes Try.prog a w (.buildSlice 33 1 #[(0, .const (Value.int IntKind.u8 8))]) 33 (fun v w' => Has N w' .bytes v ∧ Below w.heap.size w w') := by
  exact g_bytes 8 (by omega) (by omega)
theorem st7 {a0 : Act} {base w : World} {N i k : Nat} {listed : Array Bool} {a : Act} (hJ : J a0 base N i k listed a w) (hon : ∀ m ∈ ([6] : List Nat), listed.getD m false = true) : Goes Try.prog a w (.build 36 #[(0, .const (Value.int IntKind.i64 0)), (1, .const (Value.int IntKind.i64 1)), (3, .tmp 24)]) 36 (fun v w' => Has N w' .op v ∧ Below w.heap.size w w') := by
  obtain ⟨A3, c3, l3, e3, h3, g3, n3⟩ : Has N w .bytes (a.eval (.tmp 24)) := hJ.done 6 (by omega) (hon 6 (by simp))
  exact g_build ⟨⟨0, 1, 0, l3, []⟩, A3, c3, none, 0⟩ ⟨h3, IsInts.nil, g3, nil_cap, n3, (fun _ => rfl), (show InInt 0 by unfold InInt; omega), (show InInt 1 by unfold InInt; omega), (show InInt 0 by unfold InInt; omega)⟩ _ (by simp only [List.map_toArray, List.map_cons, List.map_nil, e3, ev_const]; kernel_rfl)
theorem st8 {a0 : Act} {base w : World} {N i k : Nat} {listed : Array Bool} {a : Act} (_hJ : J a0 base N i k listed a w) (_hon : ∀ m ∈ ([] : List Nat), listed.getD m false = true) : Goes Try.prog a w (.buildSlice 33 1 #[(0, .const (Value.int IntKind.u8 9))]) 33 (fun v w' => Has N w' .bytes v ∧ Below w.heap.size w w') := by
  exact g_bytes 9 (by omega) (by omega)
theorem st9 {a0 : Act} {base w : World} {N i k : Nat} {listed : Array Bool} {a : Act} (hJ : J a0 base N i k listed a w) (hon : ∀ m ∈ ([8] : List Nat), listed.getD m false = true) : Goes Try.prog a w (.build 36 #[(0, .const (Value.int IntKind.i64 0)), (1, .const (Value.int IntKind.i64 2)), (3, .tmp 26)]) 36 (fun v w' => Has N w' .op v ∧ Below w.heap.size w w') := by
  obtain ⟨A3, c3, l3, e3, h3, g3, n3⟩ : Has N w .bytes (a.eval (.tmp 26)) := hJ.done 8 (by omega) (hon 8 (by simp))
  exact g_build ⟨⟨0, 2, 0, l3, []⟩, A3, c3, none, 0⟩ ⟨h3, IsInts.nil, g3, nil_cap, n3, (fun _ => rfl), (show InInt 0 by unfold InInt; omega), (show InInt 2 by unfold InInt; omega), (show InInt 0 by unfold InInt; omega)⟩ _ (by simp only [List.map_toArray, List.map_cons, List.map_nil, e3, ev_const]; kernel_rfl)
theorem st10 {a0 : Act} {base w : World} {N i k : Nat} {listed : Array Bool} {a : Act} (_hJ : J a0 base N i k listed a w) (_hon : ∀ m ∈ ([] : List Nat), listed.getD m false = true) : Goes Try.prog a w (.build 36 #[(0, .const (Value.int IntKind.i64 0)), (1, .const (Value.int IntKind.i64 1))]) 36 (fun v w' => Has N w' .op v ∧ Below w.heap.size w w') := by
  exact g_build ⟨⟨0, 1, 0, [], []⟩, none, 0, none, 0⟩ ⟨IsBytes.nil, IsInts.nil, nil_cap, nil_cap, (fun _ => rfl), (fun _ => rfl), (show InInt 0 by unfold InInt; omega), (show InInt 1 by unfold InInt; omega), (show InInt 0 by unfold InInt; omega)⟩ _ (by simp only [List.map_toArray, List.map_cons, List.map_nil, ev_const]; kernel_rfl)
theorem st11 {a0 : Act} {base w : World} {N i k : Nat} {listed : Array Bool} {a : Act} (hJ : J a0 base N i k listed a w) (_hon : ∀ m ∈ ([] : List Nat), listed.getD m false = true) : Goes Try.prog a w (.move (.tmp 1)) 34 (fun v w' => Has N w' .row v ∧ Below w.heap.size w w') := by
  exact g_row hJ
theorem st12 {a0 : Act} {base w : World} {N i k : Nat} {listed : Array Bool} {a : Act} (hJ : J a0 base N i k listed a w) (_hon : ∀ m ∈ ([] : List Nat), listed.getD m false = true) : Goes Try.prog a w (.move (.tmp 2)) 3 (fun v w' => Has N w' .idx v ∧ Below w.heap.size w w') := by
  exact g_i hJ
theorem st13 {a0 : Act} {base w : World} {N i k : Nat} {listed : Array Bool} {a : Act} (hJ : J a0 base N i k listed a w) (hon : ∀ m ∈ ([11, 12] : List Nat), listed.getD m false = true) : Goes Try.prog a w (.indexAddr 34 (.tmp 29) (.tmp 30)) 0 (fun v w' => Has N w' .ptr v ∧ Below w.heap.size w w') := by
  exact g_index 29 30 (hJ.done 11 (by omega) (hon 11 (by simp)) : Has N w .row (a.eval (.tmp 29))) (hJ.done 12 (by omega) (hon 12 (by simp)) : Has N w .idx (a.eval (.tmp 30)))
theorem st14 {a0 : Act} {base w : World} {N i k : Nat} {listed : Array Bool} {a : Act} (hJ : J a0 base N i k listed a w) (hN : IsInts base base.heap.size (some ⟨N, 0, none⟩) ten) (hon : ∀ m ∈ ([13] : List Nat), listed.getD m false = true) : Goes Try.prog a w (.load 3 (.tmp 31)) 3 (fun v w' => Has N w' .num v ∧ Below w.heap.size w w') := by
  exact g_load hJ hN 31 (hJ.done 13 (by omega) (hon 13 (by simp)) : Has N w .ptr (a.eval (.tmp 31)))
theorem st15 {a0 : Act} {base w : World} {N i k : Nat} {listed : Array Bool} {a : Act} (hJ : J a0 base N i k listed a w) (_hon : ∀ m ∈ ([] : List Nat), listed.getD m false = true) : Goes Try.prog a w (.move (.tmp 1)) 34 (fun v w' => Has N w' .row v ∧ Below w.heap.size w w') := by
  exact g_row hJ
theorem st16 {a0 : Act} {base w : World} {N i k : Nat} {listed : Array Bool} {a : Act} (hJ : J a0 base N i k listed a w) (_hon : ∀ m ∈ ([] : List Nat), listed.getD m false = true) : Goes Try.prog a w (.move (.tmp 3)) 3 (fun v w' => Has N w' .idx v ∧ Below w.heap.size w w') := by
  exact g_k hJ
theorem st17 {a0 : Act} {base w : World} {N i k : Nat} {listed : Array Bool} {a : Act} (hJ : J a0 base N i k listed a w) (hon : ∀ m ∈ ([15, 16] : List Nat), listed.getD m false = true) : Goes Try.prog a w (.indexAddr 34 (.tmp 33) (.tmp 34)) 0 (fun v w' => Has N w' .ptr v ∧ Below w.heap.size w w') := by
  exact g_index 33 34 (hJ.done 15 (by omega) (hon 15 (by simp)) : Has N w .row (a.eval (.tmp 33))) (hJ.done 16 (by omega) (hon 16 (by simp)) : Has N w .idx (a.eval (.tmp 34)))
theorem st18 {a0 : Act} {base w : World} {N i k : Nat} {listed : Array Bool} {a : Act} (hJ : J a0 base N i k listed a w) (hN : IsInts base base.heap.size (some ⟨N, 0, none⟩) ten) (hon : ∀ m ∈ ([17] : List Nat), listed.getD m false = true) : Goes Try.prog a w (.load 3 (.tmp 35)) 3 (fun v w' => Has N w' .num v ∧ Below w.heap.size w w') := by
  exact g_load hJ hN 35 (hJ.done 17 (by omega) (hon 17 (by simp)) : Has N w .ptr (a.eval (.tmp 35)))
theorem st19 {a0 : Act} {base w : World} {N i k : Nat} {listed : Array Bool} {a : Act} (hJ : J a0 base N i k listed a w) (hon : ∀ m ∈ ([14, 18] : List Nat), listed.getD m false = true) : Goes Try.prog a w (.buildSlice 34 2 #[(0, .tmp 32), (1, .tmp 36)]) 34 (fun v w' => Has N w' .ints v ∧ Below w.heap.size w w') := by
  obtain ⟨z0, hz0, e0⟩ : Has N w .num (a.eval (.tmp 32)) := hJ.done 14 (by omega) (hon 14 (by simp))
  obtain ⟨z1, hz1, e1⟩ : Has N w .num (a.eval (.tmp 36)) := hJ.done 18 (by omega) (hon 18 (by simp))
  exact g_ints 2 _ [z0, z1] (by intro x hx; simp at hx; rcases hx with rfl | rfl <;> first | assumption | (unfold InInt; omega)) rfl (by omega) (by simp only [List.map_toArray, List.map_cons, List.map_nil, e0, e1]; kernel_rfl)
theorem st20 {a0 : Act} {base w : World} {N i k : Nat} {listed : Array Bool} {a : Act} (hJ : J a0 base N i k listed a w) (hon : ∀ m ∈ ([19] : List Nat), listed.getD m false = true) : Goes Try.prog a w (.build 36 #[(0, .const (Value.int IntKind.i64 3)), (4, .tmp 37), (2, .const (Value.int IntKind.i64 1))]) 36 (fun v w' => Has N w' .op v ∧ Below w.heap.size w w') := by
  obtain ⟨A4, c4, l4, e4, h4, g4, n4⟩ : Has N w .ints (a.eval (.tmp 37)) := hJ.done 19 (by omega) (hon 19 (by simp))
  exact g_build ⟨⟨3, 0, 1, [], l4⟩, none, 0, A4, c4⟩ ⟨IsBytes.nil, h4, nil_cap, g4, (fun _ => rfl), n4, (show InInt 3 by unfold InInt; omega), (show InInt 0 by unfold InInt; omega), (show InInt 1 by unfold InInt; omega)⟩ _ (by simp only [List.map_toArray, List.map_cons, List.map_nil, e4, ev_const]; kernel_rfl)
theorem st21 {a0 : Act} {base w : World} {N i k : Nat} {listed : Array Bool} {a : Act} (_hJ : J a0 base N i k listed a w) (_hon : ∀ m ∈ ([] : List Nat), listed.getD m false = true) : Goes Try.prog a w (.buildSlice 33 1 #[(0, .const (Value.int IntKind.u8 10))]) 33 (fun v w' => Has N w' .bytes v ∧ Below w.heap.size w w') := by
  exact g_bytes 10 (by omega) (by omega)
theorem st22 {a0 : Act} {base w : World} {N i k : Nat} {listed : Array Bool} {a : Act} (hJ : J a0 base N i k listed a w) (hon : ∀ m ∈ ([21] : List Nat), listed.getD m false = true) : Goes Try.prog a w (.build 36 #[(0, .const (Value.int IntKind.i64 0)), (1, .const (Value.int IntKind.i64 1)), (3, .tmp 39), (2, .const (Value.int IntKind.i64 2))]) 36 (fun v w' => Has N w' .op v ∧ Below w.heap.size w w') := by
  obtain ⟨A3, c3, l3, e3, h3, g3, n3⟩ : Has N w .bytes (a.eval (.tmp 39)) := hJ.done 21 (by omega) (hon 21 (by simp))
  exact g_build ⟨⟨0, 1, 2, l3, []⟩, A3, c3, none, 0⟩ ⟨h3, IsInts.nil, g3, nil_cap, n3, (fun _ => rfl), (show InInt 0 by unfold InInt; omega), (show InInt 1 by unfold InInt; omega), (show InInt 2 by unfold InInt; omega)⟩ _ (by simp only [List.map_toArray, List.map_cons, List.map_nil, e3, ev_const]; kernel_rfl)
theorem st23 {a0 : Act} {base w : World} {N i k : Nat} {listed : Array Bool} {a : Act} (_hJ : J a0 base N i k listed a w) (_hon : ∀ m ∈ ([] : List Nat), listed.getD m false = true) : Goes Try.prog a w (.buildSlice 34 1 #[(0, .const (Value.int IntKind.i64 0))]) 34 (fun v w' => Has N w' .ints v ∧ Below w.heap.size w w') := by
  exact g_ints 1 _ [0] (by intro x hx; simp at hx; rcases hx with rfl <;> first | assumption | (unfold InInt; omega)) rfl (by omega) (by simp only [List.map_toArray, List.map_cons, List.map_nil, ev_const]; kernel_rfl)
theorem st24 {a0 : Act} {base w : World} {N i k : Nat} {listed : Array Bool} {a : Act} (hJ : J a0 base N i k listed a w) (hon : ∀ m ∈ ([23] : List Nat), listed.getD m false = true) : Goes Try.prog a w (.build 36 #[(0, .const (Value.int IntKind.i64 3)), (4, .tmp 41)]) 36 (fun v w' => Has N w' .op v ∧ Below w.heap.size w w') := by
  obtain ⟨A4, c4, l4, e4, h4, g4, n4⟩ : Has N w .ints (a.eval (.tmp 41)) := hJ.done 23 (by omega) (hon 23 (by simp))
  exact g_build ⟨⟨3, 0, 0, [], l4⟩, none, 0, A4, c4⟩ ⟨IsBytes.nil, h4, nil_cap, g4, (fun _ => rfl), n4, (show InInt 3 by unfold InInt; omega), (show InInt 0 by unfold InInt; omega), (show InInt 0 by unfold InInt; omega)⟩ _ (by simp only [List.map_toArray, List.map_cons, List.map_nil, e4, ev_const]; kernel_rfl)
theorem st25 {a0 : Act} {base w : World} {N i k : Nat} {listed : Array Bool} {a : Act} (hJ : J a0 base N i k listed a w) (_hon : ∀ m ∈ ([] : List Nat), listed.getD m false = true) : Goes Try.prog a w (.move (.tmp 1)) 34 (fun v w' => Has N w' .row v ∧ Below w.heap.size w w') := by
  exact g_row hJ
theorem st26 {a0 : Act} {base w : World} {N i k : Nat} {listed : Array Bool} {a : Act} (hJ : J a0 base N i k listed a w) (_hon : ∀ m ∈ ([] : List Nat), listed.getD m false = true) : Goes Try.prog a w (.move (.tmp 2)) 3 (fun v w' => Has N w' .idx v ∧ Below w.heap.size w w') := by
  exact g_i hJ
theorem st27 {a0 : Act} {base w : World} {N i k : Nat} {listed : Array Bool} {a : Act} (hJ : J a0 base N i k listed a w) (hon : ∀ m ∈ ([25, 26] : List Nat), listed.getD m false = true) : Goes Try.prog a w (.indexAddr 34 (.tmp 43) (.tmp 44)) 0 (fun v w' => Has N w' .ptr v ∧ Below w.heap.size w w') := by
  exact g_index 43 44 (hJ.done 25 (by omega) (hon 25 (by simp)) : Has N w .row (a.eval (.tmp 43))) (hJ.done 26 (by omega) (hon 26 (by simp)) : Has N w .idx (a.eval (.tmp 44)))
theorem st28 {a0 : Act} {base w : World} {N i k : Nat} {listed : Array Bool} {a : Act} (hJ : J a0 base N i k listed a w) (hN : IsInts base base.heap.size (some ⟨N, 0, none⟩) ten) (hon : ∀ m ∈ ([27] : List Nat), listed.getD m false = true) : Goes Try.prog a w (.load 3 (.tmp 45)) 3 (fun v w' => Has N w' .num v ∧ Below w.heap.size w w') := by
  exact g_load hJ hN 45 (hJ.done 27 (by omega) (hon 27 (by simp)) : Has N w .ptr (a.eval (.tmp 45)))
theorem st29 {a0 : Act} {base w : World} {N i k : Nat} {listed : Array Bool} {a : Act} (_hJ : J a0 base N i k listed a w) (_hon : ∀ m ∈ ([] : List Nat), listed.getD m false = true) : Goes Try.prog a w (.call { callee := .value (.func 24), args := #[.const (Value.int IntKind.i64 64)], argTypes := #[3] }) 33 (fun v w' => Has N w' .bytes v ∧ Below w.heap.size w w') := by
  exact g_call 64 (by omega)
theorem st30 {a0 : Act} {base w : World} {N i k : Nat} {listed : Array Bool} {a : Act} (hJ : J a0 base N i k listed a w) (_hon : ∀ m ∈ ([] : List Nat), listed.getD m false = true) : Goes Try.prog a w (.move (.tmp 1)) 34 (fun v w' => Has N w' .row v ∧ Below w.heap.size w w') := by
  exact g_row hJ
theorem st31 {a0 : Act} {base w : World} {N i k : Nat} {listed : Array Bool} {a : Act} (hJ : J a0 base N i k listed a w) (_hon : ∀ m ∈ ([] : List Nat), listed.getD m false = true) : Goes Try.prog a w (.move (.tmp 3)) 3 (fun v w' => Has N w' .idx v ∧ Below w.heap.size w w') := by
  exact g_k hJ
theorem st32 {a0 : Act} {base w : World} {N i k : Nat} {listed : Array Bool} {a : Act} (hJ : J a0 base N i k listed a w) (hon : ∀ m ∈ ([30, 31] : List Nat), listed.getD m false = true) : Goes Try.prog a w (.indexAddr 34 (.tmp 48) (.tmp 49)) 0 (fun v w' => Has N w' .ptr v ∧ Below w.heap.size w w') := by
  exact g_index 48 49 (hJ.done 30 (by omega) (hon 30 (by simp)) : Has N w .row (a.eval (.tmp 48))) (hJ.done 31 (by omega) (hon 31 (by simp)) : Has N w .idx (a.eval (.tmp 49)))
theorem st33 {a0 : Act} {base w : World} {N i k : Nat} {listed : Array Bool} {a : Act} (hJ : J a0 base N i k listed a w) (hN : IsInts base base.heap.size (some ⟨N, 0, none⟩) ten) (hon : ∀ m ∈ ([32] : List Nat), listed.getD m false = true) : Goes Try.prog a w (.load 3 (.tmp 50)) 3 (fun v w' => Has N w' .num v ∧ Below w.heap.size w w') := by
  exact g_load hJ hN 50 (hJ.done 32 (by omega) (hon 32 (by simp)) : Has N w .ptr (a.eval (.tmp 50)))
theorem st34 {a0 : Act} {base w : World} {N i k : Nat} {listed : Array Bool} {a : Act} (hJ : J a0 base N i k listed a w) (hon : ∀ m ∈ ([28, 29, 33] : List Nat), listed.getD m false = true) : Goes Try.prog a w (.build 36 #[(0, .const (Value.int IntKind.i64 0)), (1, .tmp 46), (3, .tmp 47), (2, .tmp 51)]) 36 (fun v w' => Has N w' .op v ∧ Below w.heap.size w w') := by
  obtain ⟨z1, hz1, e1⟩ : Has N w .num (a.eval (.tmp 46)) := hJ.done 28 (by omega) (hon 28 (by simp))
  obtain ⟨A3, c3, l3, e3, h3, g3, n3⟩ : Has N w .bytes (a.eval (.tmp 47)) := hJ.done 29 (by omega) (hon 29 (by simp))
  obtain ⟨z2, hz2, e2⟩ : Has N w .num (a.eval (.tmp 51)) := hJ.done 33 (by omega) (hon 33 (by simp))
  exact g_build ⟨⟨0, z1, z2, l3, []⟩, A3, c3, none, 0⟩ ⟨h3, IsInts.nil, g3, nil_cap, n3, (fun _ => rfl), (show InInt 0 by unfold InInt; omega), hz1, hz2⟩ _ (by simp only [List.map_toArray, List.map_cons, List.map_nil, e1, e3, e2, ev_const]; kernel_rfl)
theorem st35 {a0 : Act} {base w : World} {N i k : Nat} {listed : Array Bool} {a : Act} (_hJ : J a0 base N i k listed a w) (_hon : ∀ m ∈ ([29] : List Nat), listed.getD m false = true) : Goes Try.prog a w (.call { callee := .value (.func 24), args := #[.const (Value.int IntKind.i64 65)], argTypes := #[3] }) 33 (fun v w' => Has N w' .bytes v ∧ Below w.heap.size w w') := by
  exact g_call 65 (by omega)
theorem st36 {a0 : Act} {base w : World} {N i k : Nat} {listed : Array Bool} {a : Act} (hJ : J a0 base N i k listed a w) (hon : ∀ m ∈ ([35] : List Nat), listed.getD m false = true) : Goes Try.prog a w (.build 36 #[(0, .const (Value.int IntKind.i64 0)), (1, .const (Value.int IntKind.i64 2)), (3, .tmp 53)]) 36 (fun v w' => Has N w' .op v ∧ Below w.heap.size w w') := by
  obtain ⟨A3, c3, l3, e3, h3, g3, n3⟩ : Has N w .bytes (a.eval (.tmp 53)) := hJ.done 35 (by omega) (hon 35 (by simp))
  exact g_build ⟨⟨0, 2, 0, l3, []⟩, A3, c3, none, 0⟩ ⟨h3, IsInts.nil, g3, nil_cap, n3, (fun _ => rfl), (show InInt 0 by unfold InInt; omega), (show InInt 2 by unfold InInt; omega), (show InInt 0 by unfold InInt; omega)⟩ _ (by simp only [List.map_toArray, List.map_cons, List.map_nil, e3, ev_const]; kernel_rfl)
theorem st37 {a0 : Act} {base w : World} {N i k : Nat} {listed : Array Bool} {a : Act} (hJ : J a0 base N i k listed a w) (_hon : ∀ m ∈ ([] : List Nat), listed.getD m false = true) : Goes Try.prog a w (.move (.tmp 1)) 34 (fun v w' => Has N w' .row v ∧ Below w.heap.size w w') := by
  exact g_row hJ
theorem st38 {a0 : Act} {base w : World} {N i k : Nat} {listed : Array Bool} {a : Act} (hJ : J a0 base N i k listed a w) (_hon : ∀ m ∈ ([] : List Nat), listed.getD m false = true) : Goes Try.prog a w (.move (.tmp 3)) 3 (fun v w' => Has N w' .idx v ∧ Below w.heap.size w w') := by
  exact g_k hJ
theorem st39 {a0 : Act} {base w : World} {N i k : Nat} {listed : Array Bool} {a : Act} (hJ : J a0 base N i k listed a w) (hon : ∀ m ∈ ([37, 38] : List Nat), listed.getD m false = true) : Goes Try.prog a w (.indexAddr 34 (.tmp 55) (.tmp 56)) 0 (fun v w' => Has N w' .ptr v ∧ Below w.heap.size w w') := by
  exact g_index 55 56 (hJ.done 37 (by omega) (hon 37 (by simp)) : Has N w .row (a.eval (.tmp 55))) (hJ.done 38 (by omega) (hon 38 (by simp)) : Has N w .idx (a.eval (.tmp 56)))
theorem st40 {a0 : Act} {base w : World} {N i k : Nat} {listed : Array Bool} {a : Act} (hJ : J a0 base N i k listed a w) (hN : IsInts base base.heap.size (some ⟨N, 0, none⟩) ten) (hon : ∀ m ∈ ([39] : List Nat), listed.getD m false = true) : Goes Try.prog a w (.load 3 (.tmp 57)) 3 (fun v w' => Has N w' .num v ∧ Below w.heap.size w w') := by
  exact g_load hJ hN 57 (hJ.done 39 (by omega) (hon 39 (by simp)) : Has N w .ptr (a.eval (.tmp 57)))
theorem st41 {a0 : Act} {base w : World} {N i k : Nat} {listed : Array Bool} {a : Act} (hJ : J a0 base N i k listed a w) (hon : ∀ m ∈ ([40] : List Nat), listed.getD m false = true) : Goes Try.prog a w (.build 36 #[(0, .const (Value.int IntKind.i64 2)), (1, .tmp 58)]) 36 (fun v w' => Has N w' .op v ∧ Below w.heap.size w w') := by
  obtain ⟨z1, hz1, e1⟩ : Has N w .num (a.eval (.tmp 58)) := hJ.done 40 (by omega) (hon 40 (by simp))
  exact g_build ⟨⟨2, z1, 0, [], []⟩, none, 0, none, 0⟩ ⟨IsBytes.nil, IsInts.nil, nil_cap, nil_cap, (fun _ => rfl), (fun _ => rfl), (show InInt 2 by unfold InInt; omega), hz1, (show InInt 0 by unfold InInt; omega)⟩ _ (by simp only [List.map_toArray, List.map_cons, List.map_nil, e1, ev_const]; kernel_rfl)
theorem st42 {a0 : Act} {base w : World} {N i k : Nat} {listed : Array Bool} {a : Act} (_hJ : J a0 base N i k listed a w) (_hon : ∀ m ∈ ([] : List Nat), listed.getD m false = true) : Goes Try.prog a w (.build 36 #[(0, .const (Value.int IntKind.i64 0)), (1, .const (Value.int IntKind.i64 9))]) 36 (fun v w' => Has N w' .op v ∧ Below w.heap.size w w') := by
  exact g_build ⟨⟨0, 9, 0, [], []⟩, none, 0, none, 0⟩ ⟨IsBytes.nil, IsInts.nil, nil_cap, nil_cap, (fun _ => rfl), (fun _ => rfl), (show InInt 0 by unfold InInt; omega), (show InInt 9 by unfold InInt; omega), (show InInt 0 by unfold InInt; omega)⟩ _ (by simp only [List.map_toArray, List.map_cons, List.map_nil, ev_const]; kernel_rfl)
theorem st43 {a0 : Act} {base w : World} {N i k : Nat} {listed : Array Bool} {a : Act} (_hJ : J a0 base N i k listed a w) (_hon : ∀ m ∈ ([] : List Nat), listed.getD m false = true) : Goes Try.prog a w (.build 36 #[(0, .const (Value.int IntKind.i64 0)), (1, .const (Value.int IntKind.i64 3))]) 36 (fun v w' => Has N w' .op v ∧ Below w.heap.size w w') := by
  exact g_build ⟨⟨0, 3, 0, [], []⟩, none, 0, none, 0⟩ ⟨IsBytes.nil, IsInts.nil, nil_cap, nil_cap, (fun _ => rfl), (fun _ => rfl), (show InInt 0 by unfold InInt; omega), (show InInt 3 by unfold InInt; omega), (show InInt 0 by unfold InInt; omega)⟩ _ (by simp only [List.map_toArray, List.map_cons, List.map_nil, ev_const]; kernel_rfl)
theorem st44 {a0 : Act} {base w : World} {N i k : Nat} {listed : Array Bool} {a : Act} (_hJ : J a0 base N i k listed a w) (_hon : ∀ m ∈ ([] : List Nat), listed.getD m false = true) : Goes Try.prog a w (.build 36 #[(0, .const (Value.int IntKind.i64 1)), (1, .const (Value.int IntKind.i64 3))]) 36 (fun v w' => Has N w' .op v ∧ Below w.heap.size w w') := by
  exact g_build ⟨⟨1, 3, 0, [], []⟩, none, 0, none, 0⟩ ⟨IsBytes.nil, IsInts.nil, nil_cap, nil_cap, (fun _ => rfl), (fun _ => rfl), (show InInt 1 by unfold InInt; omega), (show InInt 3 by unfold InInt; omega), (show InInt 0 by unfold InInt; omega)⟩ _ (by simp only [List.map_toArray, List.map_cons, List.map_nil, ev_const]; kernel_rfl)
theorem st45 {a0 : Act} {base w : World} {N i k : Nat} {listed : Array Bool} {a : Act} (_hJ : J a0 base N i k listed a w) (_hon : ∀ m ∈ ([] : List Nat), listed.getD m false = true) : Goes Try.prog a w (.build 36 #[(0, .const (Value.int IntKind.i64 1))]) 36 (fun v w' => Has N w' .op v ∧ Below w.heap.size w w') := by
  exact g_build ⟨⟨1, 0, 0, [], []⟩, none, 0, none, 0⟩ ⟨IsBytes.nil, IsInts.nil, nil_cap, nil_cap, (fun _ => rfl), (fun _ => rfl), (show InInt 1 by unfold InInt; omega), (show InInt 0 by unfold InInt; omega), (show InInt 0 by unfold InInt; omega)⟩ _ (by simp only [List.map_toArray, List.map_cons, List.map_nil, ev_const]; kernel_rfl)
theorem st46 {a0 : Act} {base w : World} {N i k : Nat} {listed : Array Bool} {a : Act} (hJ : J a0 base N i k listed a w) (_hon : ∀ m ∈ ([] : List Nat), listed.getD m false = true) : Goes Try.prog a w (.move (.tmp 1)) 34 (fun v w' => Has N w' .row v ∧ Below w.heap.size w w') := by
  exact g_row hJ
theorem st47 {a0 : Act} {base w : World} {N i k : Nat} {listed : Array Bool} {a : Act} (hJ : J a0 base N i k listed a w) (_hon : ∀ m ∈ ([] : List Nat), listed.getD m false = true) : Goes Try.prog a w (.move (.tmp 2)) 3 (fun v w' => Has N w' .idx v ∧ Below w.heap.size w w') := by
  exact g_i hJ
theorem st48 {a0 : Act} {base w : World} {N i k : Nat} {listed : Array Bool} {a : Act} (hJ : J a0 base N i k listed a w) (hon : ∀ m ∈ ([46, 47] : List Nat), listed.getD m false = true) : Goes Try.prog a w (.indexAddr 34 (.tmp 64) (.tmp 65)) 0 (fun v w' => Has N w' .ptr v ∧ Below w.heap.size w w') := by
  exact g_index 64 65 (hJ.done 46 (by omega) (hon 46 (by simp)) : Has N w .row (a.eval (.tmp 64))) (hJ.done 47 (by omega) (hon 47 (by simp)) : Has N w .idx (a.eval (.tmp 65)))
theorem st49 {a0 : Act} {base w : World} {N i k : Nat} {listed : Array Bool} {a : Act} (hJ : J a0 base N i k listed a w) (hN : IsInts base base.heap.size (some ⟨N, 0, none⟩) ten) (hon : ∀ m ∈ ([48] : List Nat), listed.getD m false = true) : Goes Try.prog a w (.load 3 (.tmp 66)) 3 (fun v w' => Has N w' .num v ∧ Below w.heap.size w w') := by
  exact g_load hJ hN 66 (hJ.done 48 (by omega) (hon 48 (by simp)) : Has N w .ptr (a.eval (.tmp 66)))
theorem st50 {a0 : Act} {base w : World} {N i k : Nat} {listed : Array Bool} {a : Act} (hJ : J a0 base N i k listed a w) (hon : ∀ m ∈ ([49] : List Nat), listed.getD m false = true) : Goes Try.prog a w (.build 36 #[(0, .const (Value.int IntKind.i64 0)), (1, .tmp 67)]) 36 (fun v w' => Has N w' .op v ∧ Below w.heap.size w w') := by
  obtain ⟨z1, hz1, e1⟩ : Has N w .num (a.eval (.tmp 67)) := hJ.done 49 (by omega) (hon 49 (by simp))
  exact g_build ⟨⟨0, z1, 0, [], []⟩, none, 0, none, 0⟩ ⟨IsBytes.nil, IsInts.nil, nil_cap, nil_cap, (fun _ => rfl), (fun _ => rfl), (show InInt 0 by unfold InInt; omega), hz1, (show InInt 0 by unfold InInt; omega)⟩ _ (by simp only [List.map_toArray, List.map_cons, List.map_nil, e1, ev_const]; kernel_rfl)
theorem st51 {a0 : Act} {base w : World} {N i k : Nat} {listed : Array Bool} {a : Act} (_hJ : J a0 base N i k listed a w) (_hon : ∀ m ∈ ([35] : List Nat), listed.getD m false = true) : Goes Try.prog a w (.call { callee := .value (.func 24), args := #[.const (Value.int IntKind.i64 65)], argTypes := #[3] }) 33 (fun v w' => Has N w' .bytes v ∧ Below w.heap.size w w') := by
  exact g_call 65 (by omega)
theorem st52 {a0 : Act} {base w : World} {N i k : Nat} {listed : Array Bool} {a : Act} (hJ : J a0 base N i k listed a w) (hon : ∀ m ∈ ([51] : List Nat), listed.getD m false = true) : Goes Try.prog a w (.build 36 #[(0, .const (Value.int IntKind.i64 0)), (3, .tmp 69)]) 36 (fun v w' => Has N w' .op v ∧ Below w.heap.size w w') := by
  obtain ⟨A3, c3, l3, e3, h3, g3, n3⟩ : Has N w .bytes (a.eval (.tmp 69)) := hJ.done 51 (by omega) (hon 51 (by simp))
  exact g_build ⟨⟨0, 0, 0, l3, []⟩, A3, c3, none, 0⟩ ⟨h3, IsInts.nil, g3, nil_cap, n3, (fun _ => rfl), (show InInt 0 by unfold InInt; omega), (show InInt 0 by unfold InInt; omega), (show InInt 0 by unfold InInt; omega)⟩ _ (by simp only [List.map_toArray, List.map_cons, List.map_nil, e3, ev_const]; kernel_rfl)
theorem st53 {a0 : Act} {base w : World} {N i k : Nat} {listed : Array Bool} {a : Act} (_hJ : J a0 base N i k listed a w) (_hon : ∀ m ∈ ([] : List Nat), listed.getD m false = true) : Goes Try.prog a w (.buildSlice 34 4 #[(0, .const (Value.int IntKind.i64 1)), (1, .const (Value.int IntKind.i64 1)), (2, .const (Value.int IntKind.i64 2)), (3, .const (Value.int IntKind.i64 3))]) 34 (fun v w' => Has N w' .ints v ∧ Below w.heap.size w w') := by
  exact g_ints 4 _ [1, 1, 2, 3] (by intro x hx; simp at hx; rcases hx with rfl | rfl | rfl <;> first | assumption | (unfold InInt; omega)) rfl (by omega) (by simp only [List.map_toArray, List.map_cons, List.map_nil, ev_const]; kernel_rfl)
theorem st54 {a0 : Act} {base w : World} {N i k : Nat} {listed : Array Bool} {a : Act} (hJ : J a0 base N i k listed a w) (hon : ∀ m ∈ ([53] : List Nat), listed.getD m false = true) : Goes Try.prog a w (.build 36 #[(0, .const (Value.int IntKind.i64 3)), (4, .tmp 71)]) 36 (fun v w' => Has N w' .op v ∧ Below w.heap.size w w') := by
  obtain ⟨A4, c4, l4, e4, h4, g4, n4⟩ : Has N w .ints (a.eval (.tmp 71)) := hJ.done 53 (by omega) (hon 53 (by simp))
  exact g_build ⟨⟨3, 0, 0, [], l4⟩, none, 0, A4, c4⟩ ⟨IsBytes.nil, h4, nil_cap, g4, (fun _ => rfl), n4, (show InInt 3 by unfold InInt; omega), (show InInt 0 by unfold InInt; omega), (show InInt 0 by unfold InInt; omega)⟩ _ (by simp only [List.map_toArray, List.map_cons, List.map_nil, e4, ev_const]; kernel_rfl)
theorem st55 {a0 : Act} {base w : World} {N i k : Nat} {listed : Array Bool} {a : Act} (_hJ : J a0 base N i k listed a w) (_hon : ∀ m ∈ ([] : List Nat), listed.getD m false = true) : Goes Try.prog a w (.build 36 #[(0, .const (Value.int IntKind.i64 9))]) 36 (fun v w' => Has N w' .op v ∧ Below w.heap.size w w') := by
  exact g_build ⟨⟨9, 0, 0, [], []⟩, none, 0, none, 0⟩ ⟨IsBytes.nil, IsInts.nil, nil_cap, nil_cap, (fun _ => rfl), (fun _ => rfl), (show InInt 9 by unfold InInt; omega), (show InInt 0 by unfold InInt; omega), (show InInt 0 by unfold InInt; omega)⟩ _ (by simp only [List.map_toArray, List.map_cons, List.map_nil, ev_const]; kernel_rfl)
theorem st56 {a0 : Act} {base w : World} {N i k : Nat} {listed : Array Bool} {a : Act} (_hJ : J a0 base N i k listed a w) (_hon : ∀ m ∈ ([] : List Nat), listed.getD m false = true) : Goes Try.prog a w (.build 36 #[(0, .const (Value.int IntKind.i64 1))]) 36 (fun v w' => Has N w' .op v ∧ Below w.heap.size w w') := by
  exact g_build ⟨⟨1, 0, 0, [], []⟩, none, 0, none, 0⟩ ⟨IsBytes.nil, IsInts.nil, nil_cap, nil_cap, (fun _ => rfl), (fun _ => rfl), (show InInt 1 by unfold InInt; omega), (show InInt 0 by unfold InInt; omega), (show InInt 0 by unfold InInt; omega)⟩ _ (by simp only [List.map_toArray, List.map_cons, List.map_nil, ev_const]; kernel_rfl)
theorem st57 {a0 : Act} {base w : World} {N i k : Nat} {listed : Array Bool} {a : Act} (hJ : J a0 base N i k listed a w) (hon : ∀ m ∈ ([1, 2, 4, 5, 7, 9, 10, 20, 22, 24, 34, 36, 41, 42, 43, 44, 45, 50, 52, 54, 55, 56] : List Nat), listed.getD m false = true) : Goes Try.prog a w (.buildSlice 22 22 #[(0, .tmp 19), (1, .tmp 20), (2, .tmp 22), (3, .tmp 23), (4, .tmp 25), (5, .tmp 27), (6, .tmp 28), (7, .tmp 38), (8, .tmp 40), (9, .tmp 42), (10, .tmp 52), (11, .tmp 54), (12, .tmp 59), (13, .tmp 60), (14, .tmp 61), (15, .tmp 62), (16, .tmp 63), (17, .tmp 68), (18, .tmp 70), (19, .tmp 72), (20, .tmp 73), (21, .tmp 74)]) 22 (fun v w' => Has N w' .ops v ∧ Below w.heap.size w w') := by
  obtain ⟨d0, hd0, e0⟩ : Has N w .op (a.eval (.tmp 19)) := hJ.done 1 (by omega) (hon 1 (by simp))
  obtain ⟨d1, hd1, e1⟩ : Has N w .op (a.eval (.tmp 20)) := hJ.done 2 (by omega) (hon 2 (by simp))
  obtain ⟨d2, hd2, e2⟩ : Has N w .op (a.eval (.tmp 22)) := hJ.done 4 (by omega) (hon 4 (by simp))
  obtain ⟨d3, hd3, e3⟩ : Has N w .op (a.eval (.tmp 23)) := hJ.done 5 (by omega) (hon 5 (by simp))
  obtain ⟨d4, hd4, e4⟩ : Has N w .op (a.eval (.tmp 25)) := hJ.done 7 (by omega) (hon 7 (by simp))
  obtain ⟨d5, hd5, e5⟩ : Has N w .op (a.eval (.tmp 27)) := hJ.done 9 (by omega) (hon 9 (by simp))
  obtain ⟨d6, hd6, e6⟩ : Has N w .op (a.eval (.tmp 28)) := hJ.done 10 (by omega) (hon 10 (by simp))
  obtain ⟨d7, hd7, e7⟩ : Has N w .op (a.eval (.tmp 38)) := hJ.done 20 (by omega) (hon 20 (by simp))
  obtain ⟨d8, hd8, e8⟩ : Has N w .op (a.eval (.tmp 40)) := hJ.done 22 (by omega) (hon 22 (by simp))
  obtain ⟨d9, hd9, e9⟩ : Has N w .op (a.eval (.tmp 42)) := hJ.done 24 (by omega) (hon 24 (by simp))
  obtain ⟨d10, hd10, e10⟩ : Has N w .op (a.eval (.tmp 52)) := hJ.done 34 (by omega) (hon 34 (by simp))
  obtain ⟨d11, hd11, e11⟩ : Has N w .op (a.eval (.tmp 54)) := hJ.done 36 (by omega) (hon 36 (by simp))
  obtain ⟨d12, hd12, e12⟩ : Has N w .op (a.eval (.tmp 59)) := hJ.done 41 (by omega) (hon 41 (by simp))
  obtain ⟨d13, hd13, e13⟩ : Has N w .op (a.eval (.tmp 60)) := hJ.done 42 (by omega) (hon 42 (by simp))
  obtain ⟨d14, hd14, e14⟩ : Has N w .op (a.eval (.tmp 61)) := hJ.done 43 (by omega) (hon 43 (by simp))
  obtain ⟨d15, hd15, e15⟩ : Has N w .op (a.eval (.tmp 62)) := hJ.done 44 (by omega) (hon 44 (by simp))
  obtain ⟨d16, hd16, e16⟩ : Has N w .op (a.eval (.tmp 63)) := hJ.done 45 (by omega) (hon 45 (by simp))
  obtain ⟨d17, hd17, e17⟩ : Has N w .op (a.eval (.tmp 68)) := hJ.done 50 (by omega) (hon 50 (by simp))
  obtain ⟨d18, hd18, e18⟩ : Has N w .op (a.eval (.tmp 70)) := hJ.done 52 (by omega) (hon 52 (by simp))
  obtain ⟨d19, hd19, e19⟩ : Has N w .op (a.eval (.tmp 72)) := hJ.done 54 (by omega) (hon 54 (by simp))
  obtain ⟨d20, hd20, e20⟩ : Has N w .op (a.eval (.tmp 73)) := hJ.done 55 (by omega) (hon 55 (by simp))
  obtain ⟨d21, hd21, e21⟩ : Has N w .op (a.eval (.tmp 74)) := hJ.done 56 (by omega) (hon 56 (by simp))
  exact g_ops [d0, d1, d2, d3, d4, d5, d6, d7, d8, d9, d10, d11, d12, d13, d14, d15, d16, d17, d18, d19, d20, d21] rfl (by intro d hd; simp only [List.mem_cons, List.not_mem_nil, or_false] at hd; rcases hd with rfl | rfl | rfl | rfl | rfl | rfl | rfl | rfl | rfl | rfl | rfl | rfl | rfl | rfl | rfl | rfl | rfl | rfl | rfl | rfl | rfl | rfl <;> assumption) _ (by simp only [List.map_toArray, List.map_cons, List.map_nil, e0, e1, e2, e3, e4, e5, e6, e7, e8, e9, e10, e11, e12, e13, e14, e15, e16, e17, e18, e19, e20, e21]; kernel_rfl)
theorem st58 {a0 : Act} {base w : World} {N i k : Nat} {listed : Array Bool} {a : Act} (hJ : J a0 base N i k listed a w) (hon : ∀ m ∈ ([57] : List Nat), listed.getD m false = true) : Goes Try.prog a w (.assign (.tmp 75)) 22 (fun v w' => Has N w' .ops v ∧ Below w.heap.size w w') := by
  exact g_assign (hJ.done 57 (by omega) (hon 57 (by simp)) : Has N w .ops (a.eval (.tmp 75)))
def tbl : List (Option Tmp × Op × TypeId × Option (Nat × Bool) × List Nat) := [
  (some 18, .buildSlice 33 1 #[(0, .const (Value.int IntKind.u8 7))], 33, none, []),
  (some 19, .build 36 #[(0, .const (Value.int IntKind.i64 0)), (1, .const (Value.int IntKind.i64 1)), (3, .tmp 18)], 36, none, [0]),
  (some 20, .build 36 #[(0, .const (Value.int IntKind.i64 3))], 36, none, []),
  (some 21, .buildSlice 33 1 #[(0, .const (Value.int IntKind.u8 7))], 33, none, []),
  (some 22, .build 36 #[(0, .const (Value.int IntKind.i64 0)), (1, .const (Value.int IntKind.i64 1)), (3, .tmp 21)], 36, none, [3]),
  (some 23, .build 36 #[(0, .const (Value.int IntKind.i64 1))], 36, none, []),
  (some 24, .buildSlice 33 1 #[(0, .const (Value.int IntKind.u8 8))], 33, none, []),
  (some 25, .build 36 #[(0, .const (Value.int IntKind.i64 0)), (1, .const (Value.int IntKind.i64 1)), (3, .tmp 24)], 36, none, [6]),
  (some 26, .buildSlice 33 1 #[(0, .const (Value.int IntKind.u8 9))], 33, none, []),
  (some 27, .build 36 #[(0, .const (Value.int IntKind.i64 0)), (1, .const (Value.int IntKind.i64 2)), (3, .tmp 26)], 36, none, [8]),
  (some 28, .build 36 #[(0, .const (Value.int IntKind.i64 0)), (1, .const (Value.int IntKind.i64 1))], 36, none, []),
  (some 29, .move (.tmp 1), 34, none, []),
  (some 30, .move (.tmp 2), 3, none, []),
  (some 31, .indexAddr 34 (.tmp 29) (.tmp 30), 0, none, [11, 12]),
  (some 32, .load 3 (.tmp 31), 3, none, [13]),
  (some 33, .move (.tmp 1), 34, none, []),
  (some 34, .move (.tmp 3), 3, none, []),
  (some 35, .indexAddr 34 (.tmp 33) (.tmp 34), 0, none, [15, 16]),
  (some 36, .load 3 (.tmp 35), 3, none, [17]),
  (some 37, .buildSlice 34 2 #[(0, .tmp 32), (1, .tmp 36)], 34, none, [14, 18]),
  (some 38, .build 36 #[(0, .const (Value.int IntKind.i64 3)), (4, .tmp 37), (2, .const (Value.int IntKind.i64 1))], 36, none, [19]),
  (some 39, .buildSlice 33 1 #[(0, .const (Value.int IntKind.u8 10))], 33, none, []),
  (some 40, .build 36 #[(0, .const (Value.int IntKind.i64 0)), (1, .const (Value.int IntKind.i64 1)), (3, .tmp 39), (2, .const (Value.int IntKind.i64 2))], 36, none, [21]),
  (some 41, .buildSlice 34 1 #[(0, .const (Value.int IntKind.i64 0))], 34, none, []),
  (some 42, .build 36 #[(0, .const (Value.int IntKind.i64 3)), (4, .tmp 41)], 36, none, [23]),
  (some 43, .move (.tmp 1), 34, none, []),
  (some 44, .move (.tmp 2), 3, none, []),
  (some 45, .indexAddr 34 (.tmp 43) (.tmp 44), 0, none, [25, 26]),
  (some 46, .load 3 (.tmp 45), 3, none, [27]),
  (some 47, .call { callee := .value (.func 24), args := #[.const (Value.int IntKind.i64 64)], argTypes := #[3] }, 33, none, []),
  (some 48, .move (.tmp 1), 34, none, []),
  (some 49, .move (.tmp 3), 3, none, []),
  (some 50, .indexAddr 34 (.tmp 48) (.tmp 49), 0, none, [30, 31]),
  (some 51, .load 3 (.tmp 50), 3, none, [32]),
  (some 52, .build 36 #[(0, .const (Value.int IntKind.i64 0)), (1, .tmp 46), (3, .tmp 47), (2, .tmp 51)], 36, none, [28, 29, 33]),
  (some 53, .call { callee := .value (.func 24), args := #[.const (Value.int IntKind.i64 65)], argTypes := #[3] }, 33, none, [29]),
  (some 54, .build 36 #[(0, .const (Value.int IntKind.i64 0)), (1, .const (Value.int IntKind.i64 2)), (3, .tmp 53)], 36, none, [35]),
  (some 55, .move (.tmp 1), 34, none, []),
  (some 56, .move (.tmp 3), 3, none, []),
  (some 57, .indexAddr 34 (.tmp 55) (.tmp 56), 0, none, [37, 38]),
  (some 58, .load 3 (.tmp 57), 3, none, [39]),
  (some 59, .build 36 #[(0, .const (Value.int IntKind.i64 2)), (1, .tmp 58)], 36, none, [40]),
  (some 60, .build 36 #[(0, .const (Value.int IntKind.i64 0)), (1, .const (Value.int IntKind.i64 9))], 36, none, []),
  (some 61, .build 36 #[(0, .const (Value.int IntKind.i64 0)), (1, .const (Value.int IntKind.i64 3))], 36, none, []),
  (some 62, .build 36 #[(0, .const (Value.int IntKind.i64 1)), (1, .const (Value.int IntKind.i64 3))], 36, none, []),
  (some 63, .build 36 #[(0, .const (Value.int IntKind.i64 1))], 36, none, []),
  (some 64, .move (.tmp 1), 34, none, []),
  (some 65, .move (.tmp 2), 3, none, []),
  (some 66, .indexAddr 34 (.tmp 64) (.tmp 65), 0, none, [46, 47]),
  (some 67, .load 3 (.tmp 66), 3, none, [48]),
  (some 68, .build 36 #[(0, .const (Value.int IntKind.i64 0)), (1, .tmp 67)], 36, none, [49]),
  (some 69, .call { callee := .value (.func 24), args := #[.const (Value.int IntKind.i64 65)], argTypes := #[3] }, 33, none, [35]),
  (some 70, .build 36 #[(0, .const (Value.int IntKind.i64 0)), (3, .tmp 69)], 36, none, [51]),
  (some 71, .buildSlice 34 4 #[(0, .const (Value.int IntKind.i64 1)), (1, .const (Value.int IntKind.i64 1)), (2, .const (Value.int IntKind.i64 2)), (3, .const (Value.int IntKind.i64 3))], 34, none, []),
  (some 72, .build 36 #[(0, .const (Value.int IntKind.i64 3)), (4, .tmp 71)], 36, none, [53]),
  (some 73, .build 36 #[(0, .const (Value.int IntKind.i64 9))], 36, none, []),
  (some 74, .build 36 #[(0, .const (Value.int IntKind.i64 1))], 36, none, []),
  (some 75, .buildSlice 22 22 #[(0, .tmp 19), (1, .tmp 20), (2, .tmp 22), (3, .tmp 23), (4, .tmp 25), (5, .tmp 27), (6, .tmp 28), (7, .tmp 38), (8, .tmp 40), (9, .tmp 42), (10, .tmp 52), (11, .tmp 54), (12, .tmp 59), (13, .tmp 60), (14, .tmp 61), (15, .tmp 62), (16, .tmp 63), (17, .tmp 68), (18, .tmp 70), (19, .tmp 72), (20, .tmp 73), (21, .tmp 74)], 22, none, [1, 2, 4, 5, 7, 9, 10, 20, 22, 24, 34, 36, 41, 42, 43, 44, 45, 50, 52, 54, 55, 56]),
  (some 4, .assign (.tmp 75), 22, none, [57, 51, 0, 1, 2, 3, 4, 5, 6, 7, 8, 9, 10, 11, 12, 13, 14, 15, 16, 17, 18, 19, 20, 21, 22, 23, 24, 25, 26, 27, 28, 29, 30, 31, 32, 33, 34, 35, 36, 37, 38, 39, 40, 41, 42, 43, 44, 45, 46, 47, 48, 49, 50, 51, 52, 53, 54, 55, 56, 57])
]
def StOk (a0 : Act) (base : World) (N i k : Nat) (j : Nat) (s : Option Tmp × Op × TypeId × Option (Nat × Bool) × List Nat) : Prop := s.1 = some (dst j) ∧ s.2.2.2.1 = none ∧ (∀ m ∈ s.2.2.2.2, m < j) ∧ ∀ listed a w, J a0 base N i k listed a w → (∀ m ∈ s.2.2.2.2, listed.getD m false = true) → Goes Try.prog a w s.2.1 s.2.2.1 (fun v w' => Has N w' (cls j) v ∧ Below w.heap.size w w')
theorem tbl_ok {a0 : Act} {base : World} {N i k : Nat} (hN : IsInts base base.heap.size (some ⟨N, 0, none⟩) ten) : AllFrom (StOk a0 base N i k) 0 tbl := ⟨
  ⟨rfl, rfl, by decide, fun listed a w hJ hon => st0 hJ hon⟩,
  ⟨rfl, rfl, by decide, fun listed a w hJ hon => st1 hJ hon⟩,
  ⟨rfl, rfl, by decide, fun listed a w hJ hon => st2 hJ hon⟩,
  ⟨rfl, rfl, by decide, fun listed a w hJ hon => st3 hJ hon⟩,
  ⟨rfl, rfl, by decide, fun listed a w hJ hon => st4 hJ hon⟩,
  ⟨rfl, rfl, by decide, fun listed a w hJ hon => st5 hJ hon⟩,
  ⟨rfl, rfl, by decide, fun listed a w hJ hon => st6 hJ hon⟩,
  ⟨rfl, rfl, by decide, fun listed a w hJ hon => st7 hJ hon⟩,
  ⟨rfl, rfl, by decide, fun listed a w hJ hon => st8 hJ hon⟩,
  ⟨rfl, rfl, by decide, fun listed a w hJ hon => st9 hJ hon⟩,
  ⟨rfl, rfl, by decide, fun listed a w hJ hon => st10 hJ hon⟩,
  ⟨rfl, rfl, by decide, fun listed a w hJ hon => st11 hJ hon⟩,
  ⟨rfl, rfl, by decide, fun listed a w hJ hon => st12 hJ hon⟩,
  ⟨rfl, rfl, by decide, fun listed a w hJ hon => st13 hJ hon⟩,
  ⟨rfl, rfl, by decide, fun listed a w hJ hon => st14 hJ hN hon⟩,
  ⟨rfl, rfl, by decide, fun listed a w hJ hon => st15 hJ hon⟩,
  ⟨rfl, rfl, by decide, fun listed a w hJ hon => st16 hJ hon⟩,
  ⟨rfl, rfl, by decide, fun listed a w hJ hon => st17 hJ hon⟩,
  ⟨rfl, rfl, by decide, fun listed a w hJ hon => st18 hJ hN hon⟩,
  ⟨rfl, rfl, by decide, fun listed a w hJ hon => st19 hJ hon⟩,
  ⟨rfl, rfl, by decide, fun listed a w hJ hon => st20 hJ hon⟩,
  ⟨rfl, rfl, by decide, fun listed a w hJ hon => st21 hJ hon⟩,
  ⟨rfl, rfl, by decide, fun listed a w hJ hon => st22 hJ hon⟩,
  ⟨rfl, rfl, by decide, fun listed a w hJ hon => st23 hJ hon⟩,
  ⟨rfl, rfl, by decide, fun listed a w hJ hon => st24 hJ hon⟩,
  ⟨rfl, rfl, by decide, fun listed a w hJ hon => st25 hJ hon⟩,
  ⟨rfl, rfl, by decide, fun listed a w hJ hon => st26 hJ hon⟩,
  ⟨rfl, rfl, by decide, fun listed a w hJ hon => st27 hJ hon⟩,
  ⟨rfl, rfl, by decide, fun listed a w hJ hon => st28 hJ hN hon⟩,
  ⟨rfl, rfl, by decide, fun listed a w hJ hon => st29 hJ hon⟩,
  ⟨rfl, rfl, by decide, fun listed a w hJ hon => st30 hJ hon⟩,
  ⟨rfl, rfl, by decide, fun listed a w hJ hon => st31 hJ hon⟩,
  ⟨rfl, rfl, by decide, fun listed a w hJ hon => st32 hJ hon⟩,
  ⟨rfl, rfl, by decide, fun listed a w hJ hon => st33 hJ hN hon⟩,
  ⟨rfl, rfl, by decide, fun listed a w hJ hon => st34 hJ hon⟩,
  ⟨rfl, rfl, by decide, fun listed a w hJ hon => st35 hJ hon⟩,
  ⟨rfl, rfl, by decide, fun listed a w hJ hon => st36 hJ hon⟩,
  ⟨rfl, rfl, by decide, fun listed a w hJ hon => st37 hJ hon⟩,
  ⟨rfl, rfl, by decide, fun listed a w hJ hon => st38 hJ hon⟩,
  ⟨rfl, rfl, by decide, fun listed a w hJ hon => st39 hJ hon⟩,
  ⟨rfl, rfl, by decide, fun listed a w hJ hon => st40 hJ hN hon⟩,
  ⟨rfl, rfl, by decide, fun listed a w hJ hon => st41 hJ hon⟩,
  ⟨rfl, rfl, by decide, fun listed a w hJ hon => st42 hJ hon⟩,
  ⟨rfl, rfl, by decide, fun listed a w hJ hon => st43 hJ hon⟩,
  ⟨rfl, rfl, by decide, fun listed a w hJ hon => st44 hJ hon⟩,
  ⟨rfl, rfl, by decide, fun listed a w hJ hon => st45 hJ hon⟩,
  ⟨rfl, rfl, by decide, fun listed a w hJ hon => st46 hJ hon⟩,
  ⟨rfl, rfl, by decide, fun listed a w hJ hon => st47 hJ hon⟩,
  ⟨rfl, rfl, by decide, fun listed a w hJ hon => st48 hJ hon⟩,
  ⟨rfl, rfl, by decide, fun listed a w hJ hon => st49 hJ hN hon⟩,
  ⟨rfl, rfl, by decide, fun listed a w hJ hon => st50 hJ hon⟩,
  ⟨rfl, rfl, by decide, fun listed a w hJ hon => st51 hJ hon⟩,
  ⟨rfl, rfl, by decide, fun listed a w hJ hon => st52 hJ hon⟩,
  ⟨rfl, rfl, by decide, fun listed a w hJ hon => st53 hJ hon⟩,
  ⟨rfl, rfl, by decide, fun listed a w hJ hon => st54 hJ hon⟩,
  ⟨rfl, rfl, by decide, fun listed a w hJ hon => st55 hJ hon⟩,
  ⟨rfl, rfl, by decide, fun listed a w hJ hon => st56 hJ hon⟩,
  ⟨rfl, rfl, by decide, fun listed a w hJ hon => st57 hJ hon⟩,
  ⟨rfl, rfl, by decide, fun listed a w hJ hon => st58 hJ (fun m hm => hon m (by simp at hm; subst hm; decide))⟩,
  trivial⟩
/-- the region: in whatever order -/
theorem region8 {a0 : Act} {base w : World} {N i k : Nat} {ops : Array Oper} {id : Nat} {Q : Exit → Act → World → Prop} {a : Act} (hN : IsInts base base.heap.size (some ⟨N, 0, none⟩) ten) (hops : ops.toList.map skel = tbl)
    (hJ : J a0 base N i k (Array.replicate ops.size false) a w.drew) (hQ : ∀ a w, J a0 base N i k (Array.replicate 59 true) a w → Q .normal a w) : (Code.region id ops true).wp Try.prog Q a w := by
  have hsize : ops.size = 59 := by
    have := congrArg List.length hops
    simpa [tbl] using this
  have hat : ∀ (j : Nat) (o : Oper), ops[j]? = some o → StOk a0 base N i k j (skel o) := fun j o ho => by
    have h1 : tbl[j]? = some (skel o) := by rw [← hops, List.getElem?_map, Array.getElem?_toList, ho]; rfl
    have := AllFrom.get (tbl_ok (a0 := a0) (i := i) (k := k) hN) j _ h1
    rwa [Nat.zero_add] at this
  have hon : ∀ (o : Oper) (e : Edge), e ∈ o.after → Region.binds .any e = true → e.on ∈ (skel o).2.2.2.2 := fun o e he hb => by
    refine List.mem_map.2 ⟨e, List.mem_filter.2 ⟨by simpa using he, hb⟩, rfl⟩
  refine wp_region_inv (by kernel_rfl) (J a0 base N i k) hJ ?_ ?_
  · intro listed a w j o hJ ho h0 ha
    obtain ⟨h1, h2, h3, h4⟩ := hat j o ho
    have hj : j < 59 := by rw [← hsize]; exact (Array.getElem?_eq_some_iff.1 ho).1
    refine Goes.wpOp ho h2 (h4 listed a w hJ (fun m hm => ?_)) (fun v w' hv => ?_)
    · obtain ⟨e, he, rfl⟩ := List.mem_map.1 hm
      obtain ⟨he1, he2⟩ := List.mem_filter.1 he
      exact ha e (by simpa using he1) he2
    · have h1 : o.dst = some (dst j) := h1
      rw [h1]
      exact hJ.put j hj v hv.2 hv.1
  · intro listed a w hJ hr
    have hall := all_listed (by rw [hJ.lsize, hsize]) (fun j o ho e he hb => (hat j o ho).2.2.1 _ (hon o e he hb)) hr
    refine hQ a w ⟨hJ.size, hJ.defers, hJ.keep, hJ.s1, hJ.s2, hJ.s3, hJ.hi, hJ.hk, by simp, hJ.bel, fun j hj _ => hJ.done j hj (hall j (by omega))⟩
/-- .. from a frame that is written out to such a one -/
theorem region8L {v0 v1 v2 v3 v4 v5 v6 v7 v8 v9 v10 v11 v12 v13 v14 v15 v16 v17 v18 v19 v20 v21 v22 v23 v24 v25 v26 v27 v28 v29 v30 v31 v32 v33 v34 v35 v36 v37 v38 v39 v40 v41 v42 v43 v44 v45 v46 v47 v48 v49 v50 v51 v52 v53 v54 v55 v56 v57 v58 v59 v60 v61 v62 v63 v64 v65 v66 v67 v68 v69 v70 v71 v72 v73 v74 v75 v76 v77 v78 v79 v80 v81 v82 v83 v84 v85 v86 v87 v88 v89 v90 v91 v92 v93 v94 v95 v96 v97 v98 v99 v100 v101 v102 v103 v104 v105 v106 v107 v108 v109 v110 v111 v112 v113 v114 v115 v116 v117 v118 v119 v120 v121 v122 v123 v124 v125 v126 v127 v128 v129 v130 v131 : Value} {base w : World} {N i k : Nat} {ops : Array Oper} {id : Nat} {Q : Exit → Act → World → Prop} (hN : IsInts base base.heap.size (some ⟨N, 0, none⟩) ten) (hops : ops.toList.map skel = tbl)
    (h1 : v1 = .slice (some ⟨N, 0, none⟩) 10 10) (h2 : v2 = .int .i64 i) (h3 : v3 = .int .i64 k) (hi : i < 10) (hk : k < 10) (hb : Below base.heap.size base w)
    (hQ : ∀ (u : Nat → Value) (g : Nat) (ts : List Sx.Op) (w' : World), ts.length = 22 → IsOps w' w'.heap.size (some ⟨g, 0, none⟩) ts → Below base.heap.size base w' → Q .normal ⟨#[v0, v1, v2, v3, .slice (some ⟨g, 0, none⟩) 22 22, v5, v6, v7, v8, v9, v10, v11, v12, v13, v14, v15, v16, v17, u 18, u 19, u 20, u 21, u 22, u 23, u 24, u 25, u 26, u 27, u 28, u 29, u 30, u 31, u 32, u 33, u 34, u 35, u 36, u 37, u 38, u 39, u 40, u 41, u 42, u 43, u 44, u 45, u 46, u 47, u 48, u 49, u 50, u 51, u 52, u 53, u 54, u 55, u 56, u 57, u 58, u 59, u 60, u 61, u 62, u 63, u 64, u 65, u 66, u 67, u 68, u 69, u 70, u 71, u 72, u 73, u 74, u 75, v76, v77, v78, v79, v80, v81, v82, v83, v84, v85, v86, v87, v88, v89, v90, v91, v92, v93, v94, v95, v96, v97, v98, v99, v100, v101, v102, v103, v104, v105, v106, v107, v108, v109, v110, v111, v112, v113, v114, v115, v116, v117, v118, v119, v120, v121, v122, v123, v124, v125, v126, v127, v128, v129, v130, v131], []⟩ w') :
    (Code.region id ops true).wp Try.prog Q ⟨#[v0, v1, v2, v3, v4, v5, v6, v7, v8, v9, v10, v11, v12, v13, v14, v15, v16, v17, v18, v19, v20, v21, v22, v23, v24, v25, v26, v27, v28, v29, v30, v31, v32, v33, v34, v35, v36, v37, v38, v39, v40, v41, v42, v43, v44, v45, v46, v47, v48, v49, v50, v51, v52, v53, v54, v55, v56, v57, v58, v59, v60, v61, v62, v63, v64, v65, v66, v67, v68, v69, v70, v71, v72, v73, v74, v75, v76, v77, v78, v79, v80, v81, v82, v83, v84, v85, v86, v87, v88, v89, v90, v91, v92, v93, v94, v95, v96, v97, v98, v99, v100, v101, v102, v103, v104, v105, v106, v107, v108, v109, v110, v111, v112, v113, v114, v115, v116, v117, v118, v119, v120, v121, v122, v123, v124, v125, v126, v127, v128, v129, v130, v131], []⟩ w := by
  have hm : ops.size = 59 := by
    have := congrArg List.length hops
    simpa [tbl] using this
  refine region8 (a0 := ⟨#[v0, v1, v2, v3, v4, v5, v6, v7, v8, v9, v10, v11, v12, v13, v14, v15, v16, v17, v18, v19, v20, v21, v22, v23, v24, v25, v26, v27, v28, v29, v30, v31, v32, v33, v34, v35, v36, v37, v38, v39, v40, v41, v42, v43, v44, v45, v46, v47, v48, v49, v50, v51, v52, v53, v54, v55, v56, v57, v58, v59, v60, v61, v62, v63, v64, v65, v66, v67, v68, v69, v70, v71, v72, v73, v74, v75, v76, v77, v78, v79, v80, v81, v82, v83, v84, v85, v86, v87, v88, v89, v90, v91, v92, v93, v94, v95, v96, v97, v98, v99, v100, v101, v102, v103, v104, v105, v106, v107, v108, v109, v110, v111, v112, v113, v114, v115, v116, v117, v118, v119, v120, v121, v122, v123, v124, v125, v126, v127, v128, v129, v130, v131], []⟩) hN hops ⟨rfl, rfl, fun s _ => rfl, h1, h2, h3, hi, hk, by simp [hm], hb.drew, fun j hj h => by
    rw [Array.getD_eq_getD_getElem?, Array.getElem?_replicate] at h
    split at h <;> cases h⟩ (fun a wz hJ => ?_)
  obtain ⟨g, ts, e4, hts, hops⟩ : Has N wz .ops (a.eval (.tmp 4)) := hJ.done 58 (by omega) (by simp)
  have hkp : ∀ s : Nat, s ≠ 4 → (s < 18 ∨ 75 < s) → a.eval (.tmp s) = Act.eval ⟨#[v0, v1, v2, v3, v4, v5, v6, v7, v8, v9, v10, v11, v12, v13, v14, v15, v16, v17, v18, v19, v20, v21, v22, v23, v24, v25, v26, v27, v28, v29, v30, v31, v32, v33, v34, v35, v36, v37, v38, v39, v40, v41, v42, v43, v44, v45, v46, v47, v48, v49, v50, v51, v52, v53, v54, v55, v56, v57, v58, v59, v60, v61, v62, v63, v64, v65, v66, v67, v68, v69, v70, v71, v72, v73, v74, v75, v76, v77, v78, v79, v80, v81, v82, v83, v84, v85, v86, v87, v88, v89, v90, v91, v92, v93, v94, v95, v96, v97, v98, v99, v100, v101, v102, v103, v104, v105, v106, v107, v108, v109, v110, v111, v112, v113, v114, v115, v116, v117, v118, v119, v120, v121, v122, v123, v124, v125, v126, v127, v128, v129, v130, v131], []⟩ (.tmp s) := fun s h4 hs => hJ.keep s (fun j hj => by unfold dst; split <;> omega)
  have k0 : a.eval (.tmp 0) = v0 := hkp 0 (by decide) (by decide)
  have k1 : a.eval (.tmp 1) = v1 := hkp 1 (by decide) (by decide)
  have k2 : a.eval (.tmp 2) = v2 := hkp 2 (by decide) (by decide)
  have k3 : a.eval (.tmp 3) = v3 := hkp 3 (by decide) (by decide)
  have k5 : a.eval (.tmp 5) = v5 := hkp 5 (by decide) (by decide)
  have k6 : a.eval (.tmp 6) = v6 := hkp 6 (by decide) (by decide)
  have k7 : a.eval (.tmp 7) = v7 := hkp 7 (by decide) (by decide)
  have k8 : a.eval (.tmp 8) = v8 := hkp 8 (by decide) (by decide)
  have k9 : a.eval (.tmp 9) = v9 := hkp 9 (by decide) (by decide)
  have k10 : a.eval (.tmp 10) = v10 := hkp 10 (by decide) (by decide)
  have k11 : a.eval (.tmp 11) = v11 := hkp 11 (by decide) (by decide)
  have k12 : a.eval (.tmp 12) = v12 := hkp 12 (by decide) (by decide)
  have k13 : a.eval (.tmp 13) = v13 := hkp 13 (by decide) (by decide)
  have k14 : a.eval (.tmp 14) = v14 := hkp 14 (by decide) (by decide)
  have k15 : a.eval (.tmp 15) = v15 := hkp 15 (by decide) (by decide)
  have k16 : a.eval (.tmp 16) = v16 := hkp 16 (by decide) (by decide)
  have k17 : a.eval (.tmp 17) = v17 := hkp 17 (by decide) (by decide)
  have k76 : a.eval (.tmp 76) = v76 := hkp 76 (by decide) (by decide)
  have k77 : a.eval (.tmp 77) = v77 := hkp 77 (by decide) (by decide)
  have k78 : a.eval (.tmp 78) = v78 := hkp 78 (by decide) (by decide)
  have k79 : a.eval (.tmp 79) = v79 := hkp 79 (by decide) (by decide)
  have k80 : a.eval (.tmp 80) = v80 := hkp 80 (by decide) (by decide)
  have k81 : a.eval (.tmp 81) = v81 := hkp 81 (by decide) (by decide)
  have k82 : a.eval (.tmp 82) = v82 := hkp 82 (by decide) (by decide)
  have k83 : a.eval (.tmp 83) = v83 := hkp 83 (by decide) (by decide)
  have k84 : a.eval (.tmp 84) = v84 := hkp 84 (by decide) (by decide)
  have k85 : a.eval (.tmp 85) = v85 := hkp 85 (by decide) (by decide)
  have k86 : a.eval (.tmp 86) = v86 := hkp 86 (by decide) (by decide)
  have k87 : a.eval (.tmp 87) = v87 := hkp 87 (by decide) (by decide)
  have k88 : a.eval (.tmp 88) = v88 := hkp 88 (by decide) (by decide)
  have k89 : a.eval (.tmp 89) = v89 := hkp 89 (by decide) (by decide)
  have k90 : a.eval (.tmp 90) = v90 := hkp 90 (by decide) (by decide)
  have k91 : a.eval (.tmp 91) = v91 := hkp 91 (by decide) (by decide)
  have k92 : a.eval (.tmp 92) = v92 := hkp 92 (by decide) (by decide)
  have k93 : a.eval (.tmp 93) = v93 := hkp 93 (by decide) (by decide)
  have k94 : a.eval (.tmp 94) = v94 := hkp 94 (by decide) (by decide)
  have k95 : a.eval (.tmp 95) = v95 := hkp 95 (by decide) (by decide)
  have k96 : a.eval (.tmp 96) = v96 := hkp 96 (by decide) (by decide)
  have k97 : a.eval (.tmp 97) = v97 := hkp 97 (by decide) (by decide)
  have k98 : a.eval (.tmp 98) = v98 := hkp 98 (by decide) (by decide)
  have k99 : a.eval (.tmp 99) = v99 := hkp 99 (by decide) (by decide)
  have k100 : a.eval (.tmp 100) = v100 := hkp 100 (by decide) (by decide)
  have k101 : a.eval (.tmp 101) = v101 := hkp 101 (by decide) (by decide)
  have k102 : a.eval (.tmp 102) = v102 := hkp 102 (by decide) (by decide)
  have k103 : a.eval (.tmp 103) = v103 := hkp 103 (by decide) (by decide)
  have k104 : a.eval (.tmp 104) = v104 := hkp 104 (by decide) (by decide)
  have k105 : a.eval (.tmp 105) = v105 := hkp 105 (by decide) (by decide)
  have k106 : a.eval (.tmp 106) = v106 := hkp 106 (by decide) (by decide)
  have k107 : a.eval (.tmp 107) = v107 := hkp 107 (by decide) (by decide)
  have k108 : a.eval (.tmp 108) = v108 := hkp 108 (by decide) (by decide)
  have k109 : a.eval (.tmp 109) = v109 := hkp 109 (by decide) (by decide)
  have k110 : a.eval (.tmp 110) = v110 := hkp 110 (by decide) (by decide)
  have k111 : a.eval (.tmp 111) = v111 := hkp 111 (by decide) (by decide)
  have k112 : a.eval (.tmp 112) = v112 := hkp 112 (by decide) (by decide)
  have k113 : a.eval (.tmp 113) = v113 := hkp 113 (by decide) (by decide)
  have k114 : a.eval (.tmp 114) = v114 := hkp 114 (by decide) (by decide)
  have k115 : a.eval (.tmp 115) = v115 := hkp 115 (by decide) (by decide)
  have k116 : a.eval (.tmp 116) = v116 := hkp 116 (by decide) (by decide)
  have k117 : a.eval (.tmp 117) = v117 := hkp 117 (by decide) (by decide)
  have k118 : a.eval (.tmp 118) = v118 := hkp 118 (by decide) (by decide)
  have k119 : a.eval (.tmp 119) = v119 := hkp 119 (by decide) (by decide)
  have k120 : a.eval (.tmp 120) = v120 := hkp 120 (by decide) (by decide)
  have k121 : a.eval (.tmp 121) = v121 := hkp 121 (by decide) (by decide)
  have k122 : a.eval (.tmp 122) = v122 := hkp 122 (by decide) (by decide)
  have k123 : a.eval (.tmp 123) = v123 := hkp 123 (by decide) (by decide)
  have k124 : a.eval (.tmp 124) = v124 := hkp 124 (by decide) (by decide)
  have k125 : a.eval (.tmp 125) = v125 := hkp 125 (by decide) (by decide)
  have k126 : a.eval (.tmp 126) = v126 := hkp 126 (by decide) (by decide)
  have k127 : a.eval (.tmp 127) = v127 := hkp 127 (by decide) (by decide)
  have k128 : a.eval (.tmp 128) = v128 := hkp 128 (by decide) (by decide)
  have k129 : a.eval (.tmp 129) = v129 := hkp 129 (by decide) (by decide)
  have k130 : a.eval (.tmp 130) = v130 := hkp 130 (by decide) (by decide)
  have k131 : a.eval (.tmp 131) = v131 := hkp 131 (by decide) (by decide)
  have hs := hJ.size
  have hd := hJ.defers
  have hbz := hJ.bel
  clear hJ hkp
  have hl : a.tmps.toList = (List.range 132).map (fun n => a.eval (.tmp n)) := by
    refine List.ext_getElem (by simp [hs]) (fun n h1 h2 => ?_)
    have h3 : n < a.tmps.size := by simpa using h1
    simp [Act.eval, h3]
  have h2 : (List.range 132).map (fun n => a.eval (.tmp n)) = [a.eval (.tmp 0), a.eval (.tmp 1), a.eval (.tmp 2), a.eval (.tmp 3), a.eval (.tmp 4), a.eval (.tmp 5), a.eval (.tmp 6), a.eval (.tmp 7), a.eval (.tmp 8), a.eval (.tmp 9), a.eval (.tmp 10), a.eval (.tmp 11), a.eval (.tmp 12), a.eval (.tmp 13), a.eval (.tmp 14), a.eval (.tmp 15), a.eval (.tmp 16), a.eval (.tmp 17), a.eval (.tmp 18), a.eval (.tmp 19), a.eval (.tmp 20), a.eval (.tmp 21), a.eval (.tmp 22), a.eval (.tmp 23), a.eval (.tmp 24), a.eval (.tmp 25), a.eval (.tmp 26), a.eval (.tmp 27), a.eval (.tmp 28), a.eval (.tmp 29), a.eval (.tmp 30), a.eval (.tmp 31), a.eval (.tmp 32), a.eval (.tmp 33), a.eval (.tmp 34), a.eval (.tmp 35), a.eval (.tmp 36), a.eval (.tmp 37), a.eval (.tmp 38), a.eval (.tmp 39), a.eval (.tmp 40), a.eval (.tmp 41), a.eval (.tmp 42), a.eval (.tmp 43), a.eval (.tmp 44), a.eval (.tmp 45), a.eval (.tmp 46), a.eval (.tmp 47), a.eval (.tmp 48), a.eval (.tmp 49), a.eval (.tmp 50), a.eval (.tmp 51), a.eval (.tmp 52), a.eval (.tmp 53), a.eval (.tmp 54), a.eval (.tmp 55), a.eval (.tmp 56), a.eval (.tmp 57), a.eval (.tmp 58), a.eval (.tmp 59), a.eval (.tmp 60), a.eval (.tmp 61), a.eval (.tmp 62), a.eval (.tmp 63), a.eval (.tmp 64), a.eval (.tmp 65), a.eval (.tmp 66), a.eval (.tmp 67), a.eval (.tmp 68), a.eval (.tmp 69), a.eval (.tmp 70), a.eval (.tmp 71), a.eval (.tmp 72), a.eval (.tmp 73), a.eval (.tmp 74), a.eval (.tmp 75), a.eval (.tmp 76), a.eval (.tmp 77), a.eval (.tmp 78), a.eval (.tmp 79), a.eval (.tmp 80), a.eval (.tmp 81), a.eval (.tmp 82), a.eval (.tmp 83), a.eval (.tmp 84), a.eval (.tmp 85), a.eval (.tmp 86), a.eval (.tmp 87), a.eval (.tmp 88), a.eval (.tmp 89), a.eval (.tmp 90), a.eval (.tmp 91), a.eval (.tmp 92), a.eval (.tmp 93), a.eval (.tmp 94), a.eval (.tmp 95), a.eval (.tmp 96), a.eval (.tmp 97), a.eval (.tmp 98), a.eval (.tmp 99), a.eval (.tmp 100), a.eval (.tmp 101), a.eval (.tmp 102), a.eval (.tmp 103), a.eval (.tmp 104), a.eval (.tmp 105), a.eval (.tmp 106), a.eval (.tmp 107), a.eval (.tmp 108), a.eval (.tmp 109), a.eval (.tmp 110), a.eval (.tmp 111), a.eval (.tmp 112), a.eval (.tmp 113), a.eval (.tmp 114), a.eval (.tmp 115), a.eval (.tmp 116), a.eval (.tmp 117), a.eval (.tmp 118), a.eval (.tmp 119), a.eval (.tmp 120), a.eval (.tmp 121), a.eval (.tmp 122), a.eval (.tmp 123), a.eval (.tmp 124), a.eval (.tmp 125), a.eval (.tmp 126), a.eval (.tmp 127), a.eval (.tmp 128), a.eval (.tmp 129), a.eval (.tmp 130), a.eval (.tmp 131)] := by kernel_rfl
  rw [h2, k0, k1, k2, k3, k5, k6, k7, k8, k9, k10, k11, k12, k13, k14, k15, k16, k17, k76, k77, k78, k79, k80, k81, k82, k83, k84, k85, k86, k87, k88, k89, k90, k91, k92, k93, k94, k95, k96, k97, k98, k99, k100, k101, k102, k103, k104, k105, k106, k107, k108, k109, k110, k111, k112, k113, k114, k115, k116, k117, k118, k119, k120, k121, k122, k123, k124, k125, k126, k127, k128, k129, k130, k131, e4] at hl
  have hQ' := hQ (fun n => a.eval (.tmp n)) g ts wz hts hops hbz
  obtain ⟨tmps, defers⟩ := a
  have hd : defers = [] := hd
  subst hd
  have h3 : tmps = (tmps.toList).toArray := by simp
  have hl : tmps.toList = _ := hl
  rw [hl] at h3
  rw [h3]
  rw [h3] at hQ'
  exact hQ'
end Go.Proofs.Ytbfbnpbonoapnaa
