/- PostKnown's list of operations: made in whatever order, it is a list of operations. (Made by wip/tools/mkknown6.py.) -/
import Derived.Test.YtckfjkhjnpkobaaRegInv
import Derived.Test.YtckfjkhjnpkobaaPoIn
import Derived.Test.YtckfjkhjnpkobaaKitBytes
import Derived.Test.YtckfjkhjnpkobaaGrown
namespace Go.Proofs.Ytckfjkhjnpkobaa
open Go Go.RowKit

inductive Cls where
  | bytes | op | row | idx | ptr | num | ops
def ten : List Int := [-9223372036854775808, -1, 0, 1, 2, 3, 7, 8, 15, 16, 255, 256, 9223372036854775807]
theorem ten_in : ∀ v ∈ ten, InInt v := by
  intro v hv
  simp only [ten, List.mem_cons, List.not_mem_nil, or_false] at hv
  unfold InInt
  omega
structure OpD where
  t : Po.Op
  ap : Option Addr
  cp : Nat
def OpD.cells (d : OpD) : List Value := [.int .i64 d.t.kind, .int .i64 d.t.a, .int .i64 d.t.b, .slice d.ap d.t.d.length d.cp]
structure OpD.Ok (d : OpD) (w : World) : Prop where
  p : IsBytes w w.heap.size d.ap d.t.d
  cp : d.t.d.length ≤ d.cp ∧ d.cp ≤ maxLen
  np : d.ap = none → d.cp = 0
  kind : InInt d.t.kind
  a : InInt d.t.a
  b : InInt d.t.b
theorem OpD.Ok.below {d : OpD} {w w' : World} (h : d.Ok w) (hb : Below w.heap.size w w') : d.Ok w' :=
  ⟨(h.p.below hb).more hb.size, h.cp, h.np, h.kind, h.a, h.b⟩
theorem nil_cap : 0 ≤ 0 ∧ 0 ≤ maxLen := ⟨Nat.le_refl _, Nat.zero_le _⟩
/-- what an operation's value is, by its class -/
def Has (N : Nat) (w : World) : Cls → Value → Prop
  | .bytes, v => ∃ A c, ∃ l : List Nat, v = .slice A l.length c ∧ IsBytes w w.heap.size A l ∧ (l.length ≤ c ∧ c ≤ maxLen) ∧ (A = none → c = 0)
  | .op, v => ∃ d : OpD, d.Ok w ∧ v = .agg d.cells.toArray
  | .row, v => v = .slice (some ⟨N, 0, none⟩) 13 13
  | .idx, v => ∃ j : Nat, j < 13 ∧ v = .int .i64 j
  | .ptr, v => ∃ j : Nat, j < 13 ∧ v = .pointer (some ⟨N, j, none⟩)
  | .num, v => ∃ z : Int, InInt z ∧ v = .int .i64 z
  | .ops, v => ∃ g, ∃ ts : List Po.Op, v = .slice (some ⟨g, 0, none⟩) 19 19 ∧ ts.length = 19 ∧ IsOps w w.heap.size (some ⟨g, 0, none⟩) ts
theorem Has.below {N : Nat} {w w' : World} (hb : Below w.heap.size w w') : ∀ {c : Cls} {v : Value}, Has N w c v → Has N w' c v
  | .bytes, _, ⟨A, c, l, h1, h2, h3⟩ => ⟨A, c, l, h1, (h2.below hb).more hb.size, h3⟩
  | .op, _, ⟨d, h1, h2⟩ => ⟨d, h1.below hb, h2⟩
  | .row, _, h => h
  | .idx, _, h => h
  | .ptr, _, h => h
  | .num, _, h => h
  | .ops, _, ⟨g, ts, h1, h2, h3⟩ => ⟨g, ts, h1, h2, (h3.below hb).more hb.size⟩
def dst (j : Nat) : Nat := if j = 109 then 4 else 18 + j

def clsL : List Cls := [.bytes, .op, .bytes, .op, .row, .idx, .ptr, .num, .row, .idx, .ptr, .num, .op, .op, .row, .idx, .ptr, .num, .row, .idx, .ptr, .num, .op, .row, .idx, .ptr, .num, .row, .idx, .ptr, .num, .op, .row, .idx, .ptr, .num, .row, .idx, .ptr, .num, .bytes, .op, .row, .idx, .ptr, .num, .row, .idx, .ptr, .num, .bytes, .op, .row, .idx, .ptr, .num, .row, .idx, .ptr, .num, .op, .row, .idx, .ptr, .num, .op, .op, .row, .idx, .ptr, .num, .op, .op, .row, .idx, .ptr, .num, .op, .row, .idx, .ptr, .num, .row, .idx, .ptr, .num, .op, .row, .idx, .ptr, .num, .op, .row, .idx, .ptr, .num, .op, .op, .row, .idx, .ptr, .num, .row, .idx, .ptr, .num, .bytes, .op, .ops, .ops]
def cls (j : Nat) : Cls := (clsL[j]?).getD .ops
/-- the region under way -/
structure J (a0 : Act) (base : World) (N i k : Nat) (listed : Array Bool) (a : Act) (w : World) : Prop where
  size : a.tmps.size = 154
  defers : a.defers = []
  keep : ∀ s : Nat, (∀ j, j < 110 → dst j ≠ s) → a.eval (.tmp s) = a0.eval (.tmp s)
  s1 : a.eval (.tmp 1) = .slice (some ⟨N, 0, none⟩) 13 13
  s2 : a.eval (.tmp 2) = .int .i64 i
  s3 : a.eval (.tmp 3) = .int .i64 k
  hi : i < 13
  hk : k < 13
  lsize : listed.size = 110
  bel : Below base.heap.size base w
  done : ∀ j, j < 110 → listed.getD j false = true → Has N w (cls j) (a.eval (.tmp (dst j)))
theorem eval_put_ne (a : Act) {d t : Nat} (v : Value) (h : d ≠ t) : (a.put (some d) v).eval (.tmp t) = a.eval (.tmp t) := by
  simp [Act.put, Act.eval, Array.getElem?_setIfInBounds_ne h]
theorem eval_put_self (a : Act) {d : Nat} (v : Value) (h : d < a.tmps.size) : (a.put (some d) v).eval (.tmp d) = v := by
  simp [Act.put, Act.eval, h]
theorem ev_const (a : Act) (v : Value) : a.eval (.const v) = v := rfl
theorem J.put {a0 : Act} {base w w' : World} {N i k : Nat} {listed : Array Bool} {a : Act} (h : J a0 base N i k listed a w) (j : Nat) (hj : j < 110) (v : Value) (hb : Below w.heap.size w w') (hv : Has N w' (cls j) v) :
    J a0 base N i k (listed.setIfInBounds j true) (a.put (some (dst j)) v) w' := by
  have hd : dst j < 154 ∧ dst j ≠ 1 ∧ dst j ≠ 2 ∧ dst j ≠ 3 := by unfold dst; split <;> omega
  refine ⟨by simp [Act.put, h.size], h.defers, fun s hs => (eval_put_ne a v (hs j hj)).trans (h.keep s hs), (eval_put_ne a v hd.2.1).trans h.s1, (eval_put_ne a v hd.2.2.1).trans h.s2, (eval_put_ne a v hd.2.2.2).trans h.s3, h.hi, h.hk, by simp [h.lsize], h.bel.trans (hb.mono h.bel.size), fun m hm hl => ?_⟩
  by_cases e : m = j
  · subst e
    rw [eval_put_self a v (by rw [h.size]; exact hd.1)]
    exact hv
  · have hne : dst j ≠ dst m := by unfold dst; split <;> split <;> omega
    rw [eval_put_ne a v hne]
    refine (h.done m hm ?_).below hb
    rw [Array.getD_eq_getD_getElem?, Array.getElem?_setIfInBounds_ne (by omega), ← Array.getD_eq_getD_getElem?] at hl
    exact hl
section
variable {a0 : Act} {base w : World} {N i k : Nat} {listed : Array Bool} {a : Act}
theorem g_row (hJ : J a0 base N i k listed a w) {ty : TypeId} : Goes Try.prog a w (.move (.tmp 1)) ty (fun v w' => Has N w' .row v ∧ Below w.heap.size w w') := .inl ⟨_, w, x_move _ _ _ _, hJ.s1, Below.refl _ _⟩
theorem g_i (hJ : J a0 base N i k listed a w) {ty : TypeId} : Goes Try.prog a w (.move (.tmp 2)) ty (fun v w' => Has N w' .idx v ∧ Below w.heap.size w w') := .inl ⟨_, w, x_move _ _ _ _, ⟨i, hJ.hi, hJ.s2⟩, Below.refl _ _⟩
theorem g_k (hJ : J a0 base N i k listed a w) {ty : TypeId} : Goes Try.prog a w (.move (.tmp 3)) ty (fun v w' => Has N w' .idx v ∧ Below w.heap.size w w') := .inl ⟨_, w, x_move _ _ _ _, ⟨k, hJ.hk, hJ.s3⟩, Below.refl _ _⟩
theorem g_assign {p : Nat} {ty : TypeId} (h : Has N w .ops (a.eval (.tmp p))) : Goes Try.prog a w (.assign (.tmp p)) ty (fun v w' => Has N w' .ops v ∧ Below w.heap.size w w') := .inl ⟨_, w, x_assign _ _ _ _, h, Below.refl _ _⟩
theorem g_index (p q : Nat) {ty : TypeId} (hp : Has N w .row (a.eval (.tmp p))) (hq : Has N w .idx (a.eval (.tmp q))) : Goes Try.prog a w (.indexAddr 30 (.tmp p) (.tmp q)) ty (fun v w' => Has N w' .ptr v ∧ Below w.heap.size w w') := by
  obtain ⟨j, hj, hq⟩ := hq
  refine .inl ⟨.pointer (some ⟨N, j, none⟩), w, x_index _ _ _ _ _ _ _ ?_, ⟨j, hj, rfl⟩, Below.refl _ _⟩
  rw [hp, hq]
  have h1 : (j : Int) < 13 := by omega
  go_simp
theorem g_load (hJ : J a0 base N i k listed a w) (hN : IsInts base base.heap.size (some ⟨N, 0, none⟩) ten) (p : Nat) {ty : TypeId} (hp : Has N w .ptr (a.eval (.tmp p))) : Goes Try.prog a w (.load 3 (.tmp p)) ty (fun v w' => Has N w' .num v ∧ Below w.heap.size w w') := by
  obtain ⟨j, hj, hp⟩ := hp
  obtain ⟨b, off, e, _, hc⟩ := (hN.below hJ.bel).cells j (show j < ten.length from hj)
  injection e with e
  injection e with e1 e2 e3
  subst e1
  subst e2
  have hcj := hc j (show j < ten.length from hj)
  rw [Nat.zero_add] at hcj
  refine .inl ⟨.int .i64 (ten[j]'hj), w, x_load _ _ _ _ _ _ ?_, ⟨_, ten_in _ (List.getElem_mem _), rfl⟩, Below.refl _ _⟩
  rw [hp]
  go_simp
  all_goals rfl
theorem g_bytes (l : List Nat) (n : Nat) (parts : Array (Nat × Operand)) {ty : TypeId} (hn : l.length = n) (hl : 0 < n ∧ n ≤ 100) (h8 : ∀ x ∈ l, x < 256)
    (hf : Instr.fill (fun i => some (i * 1, 1)) ((Array.range (n * 1)).map ((Value.int .u8 0).cells[· % (Value.int .u8 0).cells.size]!)) (parts.map fun (i, x) => (i, a.eval x)).toList = some (bytes l).toArray) :
    Goes Try.prog a w (.buildSlice 34 n parts) ty (fun v w' => Has N w' .bytes v ∧ Below w.heap.size w w') := by
  subst hn
  obtain ⟨i0, hi, hz0, hz1, hz2⟩ := info_parts info_u8
  refine .inl ⟨_, _, x_slice _ _ _ _ _ _ _ _ (run_buildSlice w 34 5 l.length _ (bytes l).toArray i0 (.int .u8 0) (by kernel_rfl) hi hz0 (by rw [hz1]; omega) (by rw [hz1]; omega) (by rw [hz1]; exact hf)), ⟨some ⟨w.heap.size, 0, none⟩, l.length, l, rfl, ?_, ⟨Nat.le_refl _, by unfold maxLen; omega⟩, fun h => by cases h⟩, (Below.refl _ w).alloc (Nat.le_refl _) _⟩
  exact (isBytes_new w l h8 5 (0, 0)).more (by simp)
theorem g_build (d : OpD) (hd : d.Ok w) (parts : Array (Nat × Operand)) {ty : TypeId} (hb : Try.prog.built 36 (parts.map fun (i, x) => (i, a.eval x)).toList = some d.cells.toArray) :
    Goes Try.prog a w (.build 36 parts) ty (fun v w' => Has N w' .op v ∧ Below w.heap.size w w') :=
  .inl ⟨_, w, x_build _ _ _ _ _ _ (run_build w _ _ _ hb), ⟨d, hd, rfl⟩, Below.refl _ _⟩
theorem flatOp_get (ds : List OpD) : ∀ (i r : Nat) (hi : i < ds.length), r < 4 → (ds.flatMap OpD.cells)[i * 4 + r]? = ds[i].cells[r]? := by
  induction ds with
  | nil => intro i r hi; simp at hi
  | cons d ds ih =>
    intro i r hi hr
    rw [List.flatMap_cons]
    rcases i with _ | i
    · rw [List.getElem?_append_left (by show 0 * 5 + r < 4; omega)]
      simp
    · rw [List.getElem?_append_right (by show 4 ≤ _; omega)]
      have : (i + 1) * 4 + r - d.cells.length = i * 4 + r := by show (i + 1) * 4 + r - 4 = _; omega
      rw [this, ih i r (by simpa using hi) hr]
      rfl
theorem info_op : (Try.prog.info? 36).map (fun i => (i.zero, i.size, i.bytes)) = some (some (.agg #[.int .i64 0, .int .i64 0, .int .i64 0, .slice none 0 0]), 4, 48) := by kernel_rfl
theorem g_ops (ds : List OpD) (h19 : ds.length = 19) (hds : ∀ d ∈ ds, d.Ok w) (parts : Array (Nat × Operand)) {ty : TypeId}
    (hf : Instr.fill (fun i => some (i * 4, 4)) ((Array.range (19 * 4)).map ((Value.agg #[.int .i64 0, .int .i64 0, .int .i64 0, .slice none 0 0]).cells[· % (Value.agg #[.int .i64 0, .int .i64 0, .int .i64 0, .slice none 0 0]).cells.size]!)) (parts.map fun (i, x) => (i, a.eval x)).toList = some (ds.flatMap OpD.cells).toArray) :
    Goes Try.prog a w (.buildSlice 22 19 parts) ty (fun v w' => Has N w' .ops v ∧ Below w.heap.size w w') := by
  obtain ⟨i0, hi, hz0, hz1, hz2⟩ := info_parts info_op
  have hb : Below w.heap.size w (w.alloc (.cells (ds.flatMap OpD.cells).toArray 36)) := (Below.refl _ w).alloc (Nat.le_refl _) _
  refine .inl ⟨_, _, x_slice _ _ _ _ _ _ _ _ (run_buildSlice w 22 36 19 _ (ds.flatMap OpD.cells).toArray i0 _ (by kernel_rfl) hi hz0 (by rw [hz1]; omega) (by rw [hz1]; omega) (by rw [hz1]; exact hf)), ⟨w.heap.size, ds.map (·.t), rfl, by simpa using h19, ⟨fun m hm => ⟨w.heap.size, 0, rfl, by simp, fun j hj => ?_⟩⟩⟩, hb⟩
  have hj' : j < ds.length := by simpa using hj
  have hok := (hds _ (List.getElem_mem hj')).below hb
  have hc : ∀ r, r < 4 → (w.alloc (.cells (ds.flatMap OpD.cells).toArray 36)).cell? ⟨w.heap.size, 0 + j * 4 + r, none⟩ = ds[j].cells[r]? := fun r hr => by
    rw [World.cell?_alloc_new]
    rw [List.getElem?_toArray, Nat.zero_add, flatOp_get ds j r hj' hr]
  have e : (ds.map (·.t))[j] = ds[j].t := by simp
  rw [e]
  exact ⟨ds[j].ap, ds[j].cp, hc 0 (by omega), hc 1 (by omega), hc 2 (by omega), hc 3 (by omega), hok.p, hok.cp, hok.np, hok.kind, hok.a, hok.b⟩
end

theorem st0 {a0 : Act} {base w : World} {N i k : Nat} {listed : Array Bool} {a : Act} (_hJ : J a0 base N i k listed a w) (_hon : ∀ m ∈ ([] : List Nat), listed.getD m false = true) : Goes Try.prog a w (.buildSlice 34 2 #[(0, .const (Value.int IntKind.u8 7)), (1, .const (Value.int IntKind.u8 1))]) 34 (fun v w' => Has N w' .bytes v ∧ Below w.heap.size w w') := by
  exact g_bytes [7, 1] 2 _ rfl (by decide) (by decide) (by simp only [List.map_toArray, List.map_cons, List.map_nil, ev_const]; kernel_rfl)
theorem st1 {a0 : Act} {base w : World} {N i k : Nat} {listed : Array Bool} {a : Act} (hJ : J a0 base N i k listed a w) (hon : ∀ m ∈ ([0] : List Nat), listed.getD m false = true) : Goes Try.prog a w (.build 36 #[(1, .const (Value.int IntKind.i64 1)), (2, .const (Value.int IntKind.i64 2)), (3, .tmp 18)]) 36 (fun v w' => Has N w' .op v ∧ Below w.heap.size w w') := by
  obtain ⟨A3, c3, l3, e3, h3, g3, n3⟩ : Has N w .bytes (a.eval (.tmp 18)) := hJ.done 0 (by omega) (hon 0 (by simp))
  exact g_build ⟨⟨0, 1, 2, l3⟩, A3, c3⟩ ⟨h3, g3, n3, (show InInt 0 by unfold InInt; omega), (show InInt 1 by unfold InInt; omega), (show InInt 2 by unfold InInt; omega)⟩ _ (by simp only [List.map_toArray, List.map_cons, List.map_nil, e3, ev_const]; kernel_rfl)
theorem st2 {a0 : Act} {base w : World} {N i k : Nat} {listed : Array Bool} {a : Act} (_hJ : J a0 base N i k listed a w) (_hon : ∀ m ∈ ([] : List Nat), listed.getD m false = true) : Goes Try.prog a w (.buildSlice 34 1 #[(0, .const (Value.int IntKind.u8 8))]) 34 (fun v w' => Has N w' .bytes v ∧ Below w.heap.size w w') := by
  exact g_bytes [8] 1 _ rfl (by decide) (by decide) (by simp only [List.map_toArray, List.map_cons, List.map_nil, ev_const]; kernel_rfl)
theorem st3 {a0 : Act} {base w : World} {N i k : Nat} {listed : Array Bool} {a : Act} (hJ : J a0 base N i k listed a w) (hon : ∀ m ∈ ([2] : List Nat), listed.getD m false = true) : Goes Try.prog a w (.build 36 #[(1, .const (Value.int IntKind.i64 2)), (2, .const (Value.int IntKind.i64 1)), (3, .tmp 20)]) 36 (fun v w' => Has N w' .op v ∧ Below w.heap.size w w') := by
  obtain ⟨A3, c3, l3, e3, h3, g3, n3⟩ : Has N w .bytes (a.eval (.tmp 20)) := hJ.done 2 (by omega) (hon 2 (by simp))
  exact g_build ⟨⟨0, 2, 1, l3⟩, A3, c3⟩ ⟨h3, g3, n3, (show InInt 0 by unfold InInt; omega), (show InInt 2 by unfold InInt; omega), (show InInt 1 by unfold InInt; omega)⟩ _ (by simp only [List.map_toArray, List.map_cons, List.map_nil, e3, ev_const]; kernel_rfl)
theorem st4 {a0 : Act} {base w : World} {N i k : Nat} {listed : Array Bool} {a : Act} (hJ : J a0 base N i k listed a w) (_hon : ∀ m ∈ ([] : List Nat), listed.getD m false = true) : Goes Try.prog a w (.move (.tmp 1)) 30 (fun v w' => Has N w' .row v ∧ Below w.heap.size w w') := by
  exact g_row hJ
theorem st5 {a0 : Act} {base w : World} {N i k : Nat} {listed : Array Bool} {a : Act} (hJ : J a0 base N i k listed a w) (_hon : ∀ m ∈ ([] : List Nat), listed.getD m false = true) : Goes Try.prog a w (.move (.tmp 2)) 3 (fun v w' => Has N w' .idx v ∧ Below w.heap.size w w') := by
  exact g_i hJ
theorem st6 {a0 : Act} {base w : World} {N i k : Nat} {listed : Array Bool} {a : Act} (hJ : J a0 base N i k listed a w) (hon : ∀ m ∈ ([4, 5] : List Nat), listed.getD m false = true) : Goes Try.prog a w (.indexAddr 30 (.tmp 22) (.tmp 23)) 0 (fun v w' => Has N w' .ptr v ∧ Below w.heap.size w w') := by
  exact g_index 22 23 (hJ.done 4 (by omega) (hon 4 (by simp)) : Has N w .row (a.eval (.tmp 22))) (hJ.done 5 (by omega) (hon 5 (by simp)) : Has N w .idx (a.eval (.tmp 23)))
theorem st7 {a0 : Act} {base w : World} {N i k : Nat} {listed : Array Bool} {a : Act} (hJ : J a0 base N i k listed a w) (hN : IsInts base base.heap.size (some ⟨N, 0, none⟩) ten) (hon : ∀ m ∈ ([6] : List Nat), listed.getD m false = true) : Goes Try.prog a w (.load 3 (.tmp 24)) 3 (fun v w' => Has N w' .num v ∧ Below w.heap.size w w') := by
  exact g_load hJ hN 24 (hJ.done 6 (by omega) (hon 6 (by simp)) : Has N w .ptr (a.eval (.tmp 24)))
theorem st8 {a0 : Act} {base w : World} {N i k : Nat} {listed : Array Bool} {a : Act} (hJ : J a0 base N i k listed a w) (_hon : ∀ m ∈ ([] : List Nat), listed.getD m false = true) : Goes Try.prog a w (.move (.tmp 1)) 30 (fun v w' => Has N w' .row v ∧ Below w.heap.size w w') := by
  exact g_row hJ
theorem st9 {a0 : Act} {base w : World} {N i k : Nat} {listed : Array Bool} {a : Act} (hJ : J a0 base N i k listed a w) (_hon : ∀ m ∈ ([] : List Nat), listed.getD m false = true) : Goes Try.prog a w (.move (.tmp 3)) 3 (fun v w' => Has N w' .idx v ∧ Below w.heap.size w w') := by
  exact g_k hJ
theorem st10 {a0 : Act} {base w : World} {N i k : Nat} {listed : Array Bool} {a : Act} (hJ : J a0 base N i k listed a w) (hon : ∀ m ∈ ([8, 9] : List Nat), listed.getD m false = true) : Goes Try.prog a w (.indexAddr 30 (.tmp 26) (.tmp 27)) 0 (fun v w' => Has N w' .ptr v ∧ Below w.heap.size w w') := by
  exact g_index 26 27 (hJ.done 8 (by omega) (hon 8 (by simp)) : Has N w .row (a.eval (.tmp 26))) (hJ.done 9 (by omega) (hon 9 (by simp)) : Has N w .idx (a.eval (.tmp 27)))
theorem st11 {a0 : Act} {base w : World} {N i k : Nat} {listed : Array Bool} {a : Act} (hJ : J a0 base N i k listed a w) (hN : IsInts base base.heap.size (some ⟨N, 0, none⟩) ten) (hon : ∀ m ∈ ([10] : List Nat), listed.getD m false = true) : Goes Try.prog a w (.load 3 (.tmp 28)) 3 (fun v w' => Has N w' .num v ∧ Below w.heap.size w w') := by
  exact g_load hJ hN 28 (hJ.done 10 (by omega) (hon 10 (by simp)) : Has N w .ptr (a.eval (.tmp 28)))
theorem st12 {a0 : Act} {base w : World} {N i k : Nat} {listed : Array Bool} {a : Act} (hJ : J a0 base N i k listed a w) (hon : ∀ m ∈ ([7, 11] : List Nat), listed.getD m false = true) : Goes Try.prog a w (.build 36 #[(1, .tmp 25), (2, .tmp 29)]) 36 (fun v w' => Has N w' .op v ∧ Below w.heap.size w w') := by
  obtain ⟨z1, hz1, e1⟩ : Has N w .num (a.eval (.tmp 25)) := hJ.done 7 (by omega) (hon 7 (by simp))
  obtain ⟨z2, hz2, e2⟩ : Has N w .num (a.eval (.tmp 29)) := hJ.done 11 (by omega) (hon 11 (by simp))
  exact g_build ⟨⟨0, z1, z2, []⟩, none, 0⟩ ⟨IsBytes.nil, nil_cap, (fun _ => rfl), (show InInt 0 by unfold InInt; omega), hz1, hz2⟩ _ (by simp only [List.map_toArray, List.map_cons, List.map_nil, e1, e2]; kernel_rfl)
theorem st13 {a0 : Act} {base w : World} {N i k : Nat} {listed : Array Bool} {a : Act} (_hJ : J a0 base N i k listed a w) (_hon : ∀ m ∈ ([] : List Nat), listed.getD m false = true) : Goes Try.prog a w (.build 36 #[(0, .const (Value.int IntKind.i64 3))]) 36 (fun v w' => Has N w' .op v ∧ Below w.heap.size w w') := by
  exact g_build ⟨⟨3, 0, 0, []⟩, none, 0⟩ ⟨IsBytes.nil, nil_cap, (fun _ => rfl), (show InInt 3 by unfold InInt; omega), (show InInt 0 by unfold InInt; omega), (show InInt 0 by unfold InInt; omega)⟩ _ (by simp only [List.map_toArray, List.map_cons, List.map_nil, ev_const]; kernel_rfl)
theorem st14 {a0 : Act} {base w : World} {N i k : Nat} {listed : Array Bool} {a : Act} (hJ : J a0 base N i k listed a w) (_hon : ∀ m ∈ ([] : List Nat), listed.getD m false = true) : Goes Try.prog a w (.move (.tmp 1)) 30 (fun v w' => Has N w' .row v ∧ Below w.heap.size w w') := by
  exact g_row hJ
theorem st15 {a0 : Act} {base w : World} {N i k : Nat} {listed : Array Bool} {a : Act} (hJ : J a0 base N i k listed a w) (_hon : ∀ m ∈ ([] : List Nat), listed.getD m false = true) : Goes Try.prog a w (.move (.tmp 2)) 3 (fun v w' => Has N w' .idx v ∧ Below w.heap.size w w') := by
  exact g_i hJ
theorem st16 {a0 : Act} {base w : World} {N i k : Nat} {listed : Array Bool} {a : Act} (hJ : J a0 base N i k listed a w) (hon : ∀ m ∈ ([14, 15] : List Nat), listed.getD m false = true) : Goes Try.prog a w (.indexAddr 30 (.tmp 32) (.tmp 33)) 0 (fun v w' => Has N w' .ptr v ∧ Below w.heap.size w w') := by
  exact g_index 32 33 (hJ.done 14 (by omega) (hon 14 (by simp)) : Has N w .row (a.eval (.tmp 32))) (hJ.done 15 (by omega) (hon 15 (by simp)) : Has N w .idx (a.eval (.tmp 33)))
theorem st17 {a0 : Act} {base w : World} {N i k : Nat} {listed : Array Bool} {a : Act} (hJ : J a0 base N i k listed a w) (hN : IsInts base base.heap.size (some ⟨N, 0, none⟩) ten) (hon : ∀ m ∈ ([16] : List Nat), listed.getD m false = true) : Goes Try.prog a w (.load 3 (.tmp 34)) 3 (fun v w' => Has N w' .num v ∧ Below w.heap.size w w') := by
  exact g_load hJ hN 34 (hJ.done 16 (by omega) (hon 16 (by simp)) : Has N w .ptr (a.eval (.tmp 34)))
theorem st18 {a0 : Act} {base w : World} {N i k : Nat} {listed : Array Bool} {a : Act} (hJ : J a0 base N i k listed a w) (_hon : ∀ m ∈ ([] : List Nat), listed.getD m false = true) : Goes Try.prog a w (.move (.tmp 1)) 30 (fun v w' => Has N w' .row v ∧ Below w.heap.size w w') := by
  exact g_row hJ
theorem st19 {a0 : Act} {base w : World} {N i k : Nat} {listed : Array Bool} {a : Act} (hJ : J a0 base N i k listed a w) (_hon : ∀ m ∈ ([] : List Nat), listed.getD m false = true) : Goes Try.prog a w (.move (.tmp 3)) 3 (fun v w' => Has N w' .idx v ∧ Below w.heap.size w w') := by
  exact g_k hJ
theorem st20 {a0 : Act} {base w : World} {N i k : Nat} {listed : Array Bool} {a : Act} (hJ : J a0 base N i k listed a w) (hon : ∀ m ∈ ([18, 19] : List Nat), listed.getD m false = true) : Goes Try.prog a w (.indexAddr 30 (.tmp 36) (.tmp 37)) 0 (fun v w' => Has N w' .ptr v ∧ Below w.heap.size w w') := by
  exact g_index 36 37 (hJ.done 18 (by omega) (hon 18 (by simp)) : Has N w .row (a.eval (.tmp 36))) (hJ.done 19 (by omega) (hon 19 (by simp)) : Has N w .idx (a.eval (.tmp 37)))
theorem st21 {a0 : Act} {base w : World} {N i k : Nat} {listed : Array Bool} {a : Act} (hJ : J a0 base N i k listed a w) (hN : IsInts base base.heap.size (some ⟨N, 0, none⟩) ten) (hon : ∀ m ∈ ([20] : List Nat), listed.getD m false = true) : Goes Try.prog a w (.load 3 (.tmp 38)) 3 (fun v w' => Has N w' .num v ∧ Below w.heap.size w w') := by
  exact g_load hJ hN 38 (hJ.done 20 (by omega) (hon 20 (by simp)) : Has N w .ptr (a.eval (.tmp 38)))
theorem st22 {a0 : Act} {base w : World} {N i k : Nat} {listed : Array Bool} {a : Act} (hJ : J a0 base N i k listed a w) (hon : ∀ m ∈ ([17, 21] : List Nat), listed.getD m false = true) : Goes Try.prog a w (.build 36 #[(0, .const (Value.int IntKind.i64 5)), (1, .tmp 35), (2, .tmp 39)]) 36 (fun v w' => Has N w' .op v ∧ Below w.heap.size w w') := by
  obtain ⟨z1, hz1, e1⟩ : Has N w .num (a.eval (.tmp 35)) := hJ.done 17 (by omega) (hon 17 (by simp))
  obtain ⟨z2, hz2, e2⟩ : Has N w .num (a.eval (.tmp 39)) := hJ.done 21 (by omega) (hon 21 (by simp))
  exact g_build ⟨⟨5, z1, z2, []⟩, none, 0⟩ ⟨IsBytes.nil, nil_cap, (fun _ => rfl), (show InInt 5 by unfold InInt; omega), hz1, hz2⟩ _ (by simp only [List.map_toArray, List.map_cons, List.map_nil, e1, e2, ev_const]; kernel_rfl)
theorem st23 {a0 : Act} {base w : World} {N i k : Nat} {listed : Array Bool} {a : Act} (hJ : J a0 base N i k listed a w) (_hon : ∀ m ∈ ([] : List Nat), listed.getD m false = true) : Goes Try.prog a w (.move (.tmp 1)) 30 (fun v w' => Has N w' .row v ∧ Below w.heap.size w w') := by
  exact g_row hJ
theorem st24 {a0 : Act} {base w : World} {N i k : Nat} {listed : Array Bool} {a : Act} (hJ : J a0 base N i k listed a w) (_hon : ∀ m ∈ ([] : List Nat), listed.getD m false = true) : Goes Try.prog a w (.move (.tmp 3)) 3 (fun v w' => Has N w' .idx v ∧ Below w.heap.size w w') := by
  exact g_k hJ
theorem st25 {a0 : Act} {base w : World} {N i k : Nat} {listed : Array Bool} {a : Act} (hJ : J a0 base N i k listed a w) (hon : ∀ m ∈ ([23, 24] : List Nat), listed.getD m false = true) : Goes Try.prog a w (.indexAddr 30 (.tmp 41) (.tmp 42)) 0 (fun v w' => Has N w' .ptr v ∧ Below w.heap.size w w') := by
  exact g_index 41 42 (hJ.done 23 (by omega) (hon 23 (by simp)) : Has N w .row (a.eval (.tmp 41))) (hJ.done 24 (by omega) (hon 24 (by simp)) : Has N w .idx (a.eval (.tmp 42)))
theorem st26 {a0 : Act} {base w : World} {N i k : Nat} {listed : Array Bool} {a : Act} (hJ : J a0 base N i k listed a w) (hN : IsInts base base.heap.size (some ⟨N, 0, none⟩) ten) (hon : ∀ m ∈ ([25] : List Nat), listed.getD m false = true) : Goes Try.prog a w (.load 3 (.tmp 43)) 3 (fun v w' => Has N w' .num v ∧ Below w.heap.size w w') := by
  exact g_load hJ hN 43 (hJ.done 25 (by omega) (hon 25 (by simp)) : Has N w .ptr (a.eval (.tmp 43)))
theorem st27 {a0 : Act} {base w : World} {N i k : Nat} {listed : Array Bool} {a : Act} (hJ : J a0 base N i k listed a w) (_hon : ∀ m ∈ ([] : List Nat), listed.getD m false = true) : Goes Try.prog a w (.move (.tmp 1)) 30 (fun v w' => Has N w' .row v ∧ Below w.heap.size w w') := by
  exact g_row hJ
theorem st28 {a0 : Act} {base w : World} {N i k : Nat} {listed : Array Bool} {a : Act} (hJ : J a0 base N i k listed a w) (_hon : ∀ m ∈ ([] : List Nat), listed.getD m false = true) : Goes Try.prog a w (.move (.tmp 2)) 3 (fun v w' => Has N w' .idx v ∧ Below w.heap.size w w') := by
  exact g_i hJ
theorem st29 {a0 : Act} {base w : World} {N i k : Nat} {listed : Array Bool} {a : Act} (hJ : J a0 base N i k listed a w) (hon : ∀ m ∈ ([27, 28] : List Nat), listed.getD m false = true) : Goes Try.prog a w (.indexAddr 30 (.tmp 45) (.tmp 46)) 0 (fun v w' => Has N w' .ptr v ∧ Below w.heap.size w w') := by
  exact g_index 45 46 (hJ.done 27 (by omega) (hon 27 (by simp)) : Has N w .row (a.eval (.tmp 45))) (hJ.done 28 (by omega) (hon 28 (by simp)) : Has N w .idx (a.eval (.tmp 46)))
theorem st30 {a0 : Act} {base w : World} {N i k : Nat} {listed : Array Bool} {a : Act} (hJ : J a0 base N i k listed a w) (hN : IsInts base base.heap.size (some ⟨N, 0, none⟩) ten) (hon : ∀ m ∈ ([29] : List Nat), listed.getD m false = true) : Goes Try.prog a w (.load 3 (.tmp 47)) 3 (fun v w' => Has N w' .num v ∧ Below w.heap.size w w') := by
  exact g_load hJ hN 47 (hJ.done 29 (by omega) (hon 29 (by simp)) : Has N w .ptr (a.eval (.tmp 47)))
theorem st31 {a0 : Act} {base w : World} {N i k : Nat} {listed : Array Bool} {a : Act} (hJ : J a0 base N i k listed a w) (hon : ∀ m ∈ ([26, 30] : List Nat), listed.getD m false = true) : Goes Try.prog a w (.build 36 #[(0, .const (Value.int IntKind.i64 5)), (1, .tmp 44), (2, .tmp 48)]) 36 (fun v w' => Has N w' .op v ∧ Below w.heap.size w w') := by
  obtain ⟨z1, hz1, e1⟩ : Has N w .num (a.eval (.tmp 44)) := hJ.done 26 (by omega) (hon 26 (by simp))
  obtain ⟨z2, hz2, e2⟩ : Has N w .num (a.eval (.tmp 48)) := hJ.done 30 (by omega) (hon 30 (by simp))
  exact g_build ⟨⟨5, z1, z2, []⟩, none, 0⟩ ⟨IsBytes.nil, nil_cap, (fun _ => rfl), (show InInt 5 by unfold InInt; omega), hz1, hz2⟩ _ (by simp only [List.map_toArray, List.map_cons, List.map_nil, e1, e2, ev_const]; kernel_rfl)
theorem st32 {a0 : Act} {base w : World} {N i k : Nat} {listed : Array Bool} {a : Act} (hJ : J a0 base N i k listed a w) (_hon : ∀ m ∈ ([] : List Nat), listed.getD m false = true) : Goes Try.prog a w (.move (.tmp 1)) 30 (fun v w' => Has N w' .row v ∧ Below w.heap.size w w') := by
  exact g_row hJ
theorem st33 {a0 : Act} {base w : World} {N i k : Nat} {listed : Array Bool} {a : Act} (hJ : J a0 base N i k listed a w) (_hon : ∀ m ∈ ([] : List Nat), listed.getD m false = true) : Goes Try.prog a w (.move (.tmp 3)) 3 (fun v w' => Has N w' .idx v ∧ Below w.heap.size w w') := by
  exact g_k hJ
theorem st34 {a0 : Act} {base w : World} {N i k : Nat} {listed : Array Bool} {a : Act} (hJ : J a0 base N i k listed a w) (hon : ∀ m ∈ ([32, 33] : List Nat), listed.getD m false = true) : Goes Try.prog a w (.indexAddr 30 (.tmp 50) (.tmp 51)) 0 (fun v w' => Has N w' .ptr v ∧ Below w.heap.size w w') := by
  exact g_index 50 51 (hJ.done 32 (by omega) (hon 32 (by simp)) : Has N w .row (a.eval (.tmp 50))) (hJ.done 33 (by omega) (hon 33 (by simp)) : Has N w .idx (a.eval (.tmp 51)))
theorem st35 {a0 : Act} {base w : World} {N i k : Nat} {listed : Array Bool} {a : Act} (hJ : J a0 base N i k listed a w) (hN : IsInts base base.heap.size (some ⟨N, 0, none⟩) ten) (hon : ∀ m ∈ ([34] : List Nat), listed.getD m false = true) : Goes Try.prog a w (.load 3 (.tmp 52)) 3 (fun v w' => Has N w' .num v ∧ Below w.heap.size w w') := by
  exact g_load hJ hN 52 (hJ.done 34 (by omega) (hon 34 (by simp)) : Has N w .ptr (a.eval (.tmp 52)))
theorem st36 {a0 : Act} {base w : World} {N i k : Nat} {listed : Array Bool} {a : Act} (hJ : J a0 base N i k listed a w) (_hon : ∀ m ∈ ([] : List Nat), listed.getD m false = true) : Goes Try.prog a w (.move (.tmp 1)) 30 (fun v w' => Has N w' .row v ∧ Below w.heap.size w w') := by
  exact g_row hJ
theorem st37 {a0 : Act} {base w : World} {N i k : Nat} {listed : Array Bool} {a : Act} (hJ : J a0 base N i k listed a w) (_hon : ∀ m ∈ ([] : List Nat), listed.getD m false = true) : Goes Try.prog a w (.move (.tmp 2)) 3 (fun v w' => Has N w' .idx v ∧ Below w.heap.size w w') := by
  exact g_i hJ
theorem st38 {a0 : Act} {base w : World} {N i k : Nat} {listed : Array Bool} {a : Act} (hJ : J a0 base N i k listed a w) (hon : ∀ m ∈ ([36, 37] : List Nat), listed.getD m false = true) : Goes Try.prog a w (.indexAddr 30 (.tmp 54) (.tmp 55)) 0 (fun v w' => Has N w' .ptr v ∧ Below w.heap.size w w') := by
  exact g_index 54 55 (hJ.done 36 (by omega) (hon 36 (by simp)) : Has N w .row (a.eval (.tmp 54))) (hJ.done 37 (by omega) (hon 37 (by simp)) : Has N w .idx (a.eval (.tmp 55)))
theorem st39 {a0 : Act} {base w : World} {N i k : Nat} {listed : Array Bool} {a : Act} (hJ : J a0 base N i k listed a w) (hN : IsInts base base.heap.size (some ⟨N, 0, none⟩) ten) (hon : ∀ m ∈ ([38] : List Nat), listed.getD m false = true) : Goes Try.prog a w (.load 3 (.tmp 56)) 3 (fun v w' => Has N w' .num v ∧ Below w.heap.size w w') := by
  exact g_load hJ hN 56 (hJ.done 38 (by omega) (hon 38 (by simp)) : Has N w .ptr (a.eval (.tmp 56)))
theorem st40 {a0 : Act} {base w : World} {N i k : Nat} {listed : Array Bool} {a : Act} (_hJ : J a0 base N i k listed a w) (_hon : ∀ m ∈ ([] : List Nat), listed.getD m false = true) : Goes Try.prog a w (.buildSlice 34 1 #[(0, .const (Value.int IntKind.u8 9))]) 34 (fun v w' => Has N w' .bytes v ∧ Below w.heap.size w w') := by
  exact g_bytes [9] 1 _ rfl (by decide) (by decide) (by simp only [List.map_toArray, List.map_cons, List.map_nil, ev_const]; kernel_rfl)
theorem st41 {a0 : Act} {base w : World} {N i k : Nat} {listed : Array Bool} {a : Act} (hJ : J a0 base N i k listed a w) (hon : ∀ m ∈ ([35, 39, 40] : List Nat), listed.getD m false = true) : Goes Try.prog a w (.build 36 #[(1, .tmp 53), (2, .tmp 57), (3, .tmp 58)]) 36 (fun v w' => Has N w' .op v ∧ Below w.heap.size w w') := by
  obtain ⟨z1, hz1, e1⟩ : Has N w .num (a.eval (.tmp 53)) := hJ.done 35 (by omega) (hon 35 (by simp))
  obtain ⟨z2, hz2, e2⟩ : Has N w .num (a.eval (.tmp 57)) := hJ.done 39 (by omega) (hon 39 (by simp))
  obtain ⟨A3, c3, l3, e3, h3, g3, n3⟩ : Has N w .bytes (a.eval (.tmp 58)) := hJ.done 40 (by omega) (hon 40 (by simp))
  exact g_build ⟨⟨0, z1, z2, l3⟩, A3, c3⟩ ⟨h3, g3, n3, (show InInt 0 by unfold InInt; omega), hz1, hz2⟩ _ (by simp only [List.map_toArray, List.map_cons, List.map_nil, e1, e2, e3]; kernel_rfl)
theorem st42 {a0 : Act} {base w : World} {N i k : Nat} {listed : Array Bool} {a : Act} (hJ : J a0 base N i k listed a w) (_hon : ∀ m ∈ ([] : List Nat), listed.getD m false = true) : Goes Try.prog a w (.move (.tmp 1)) 30 (fun v w' => Has N w' .row v ∧ Below w.heap.size w w') := by
  exact g_row hJ
theorem st43 {a0 : Act} {base w : World} {N i k : Nat} {listed : Array Bool} {a : Act} (hJ : J a0 base N i k listed a w) (_hon : ∀ m ∈ ([] : List Nat), listed.getD m false = true) : Goes Try.prog a w (.move (.tmp 2)) 3 (fun v w' => Has N w' .idx v ∧ Below w.heap.size w w') := by
  exact g_i hJ
theorem st44 {a0 : Act} {base w : World} {N i k : Nat} {listed : Array Bool} {a : Act} (hJ : J a0 base N i k listed a w) (hon : ∀ m ∈ ([42, 43] : List Nat), listed.getD m false = true) : Goes Try.prog a w (.indexAddr 30 (.tmp 60) (.tmp 61)) 0 (fun v w' => Has N w' .ptr v ∧ Below w.heap.size w w') := by
  exact g_index 60 61 (hJ.done 42 (by omega) (hon 42 (by simp)) : Has N w .row (a.eval (.tmp 60))) (hJ.done 43 (by omega) (hon 43 (by simp)) : Has N w .idx (a.eval (.tmp 61)))
theorem st45 {a0 : Act} {base w : World} {N i k : Nat} {listed : Array Bool} {a : Act} (hJ : J a0 base N i k listed a w) (hN : IsInts base base.heap.size (some ⟨N, 0, none⟩) ten) (hon : ∀ m ∈ ([44] : List Nat), listed.getD m false = true) : Goes Try.prog a w (.load 3 (.tmp 62)) 3 (fun v w' => Has N w' .num v ∧ Below w.heap.size w w') := by
  exact g_load hJ hN 62 (hJ.done 44 (by omega) (hon 44 (by simp)) : Has N w .ptr (a.eval (.tmp 62)))
theorem st46 {a0 : Act} {base w : World} {N i k : Nat} {listed : Array Bool} {a : Act} (hJ : J a0 base N i k listed a w) (_hon : ∀ m ∈ ([] : List Nat), listed.getD m false = true) : Goes Try.prog a w (.move (.tmp 1)) 30 (fun v w' => Has N w' .row v ∧ Below w.heap.size w w') := by
  exact g_row hJ
theorem st47 {a0 : Act} {base w : World} {N i k : Nat} {listed : Array Bool} {a : Act} (hJ : J a0 base N i k listed a w) (_hon : ∀ m ∈ ([] : List Nat), listed.getD m false = true) : Goes Try.prog a w (.move (.tmp 2)) 3 (fun v w' => Has N w' .idx v ∧ Below w.heap.size w w') := by
  exact g_i hJ
theorem st48 {a0 : Act} {base w : World} {N i k : Nat} {listed : Array Bool} {a : Act} (hJ : J a0 base N i k listed a w) (hon : ∀ m ∈ ([46, 47] : List Nat), listed.getD m false = true) : Goes Try.prog a w (.indexAddr 30 (.tmp 64) (.tmp 65)) 0 (fun v w' => Has N w' .ptr v ∧ Below w.heap.size w w') := by
  exact g_index 64 65 (hJ.done 46 (by omega) (hon 46 (by simp)) : Has N w .row (a.eval (.tmp 64))) (hJ.done 47 (by omega) (hon 47 (by simp)) : Has N w .idx (a.eval (.tmp 65)))
theorem st49 {a0 : Act} {base w : World} {N i k : Nat} {listed : Array Bool} {a : Act} (hJ : J a0 base N i k listed a w) (hN : IsInts base base.heap.size (some ⟨N, 0, none⟩) ten) (hon : ∀ m ∈ ([48] : List Nat), listed.getD m false = true) : Goes Try.prog a w (.load 3 (.tmp 66)) 3 (fun v w' => Has N w' .num v ∧ Below w.heap.size w w') := by
  exact g_load hJ hN 66 (hJ.done 48 (by omega) (hon 48 (by simp)) : Has N w .ptr (a.eval (.tmp 66)))
theorem st50 {a0 : Act} {base w : World} {N i k : Nat} {listed : Array Bool} {a : Act} (_hJ : J a0 base N i k listed a w) (_hon : ∀ m ∈ ([] : List Nat), listed.getD m false = true) : Goes Try.prog a w (.buildSlice 34 1 #[(0, .const (Value.int IntKind.u8 9))]) 34 (fun v w' => Has N w' .bytes v ∧ Below w.heap.size w w') := by
  exact g_bytes [9] 1 _ rfl (by decide) (by decide) (by simp only [List.map_toArray, List.map_cons, List.map_nil, ev_const]; kernel_rfl)
theorem st51 {a0 : Act} {base w : World} {N i k : Nat} {listed : Array Bool} {a : Act} (hJ : J a0 base N i k listed a w) (hon : ∀ m ∈ ([45, 49, 50] : List Nat), listed.getD m false = true) : Goes Try.prog a w (.build 36 #[(1, .tmp 63), (2, .tmp 67), (3, .tmp 68)]) 36 (fun v w' => Has N w' .op v ∧ Below w.heap.size w w') := by
  obtain ⟨z1, hz1, e1⟩ : Has N w .num (a.eval (.tmp 63)) := hJ.done 45 (by omega) (hon 45 (by simp))
  obtain ⟨z2, hz2, e2⟩ : Has N w .num (a.eval (.tmp 67)) := hJ.done 49 (by omega) (hon 49 (by simp))
  obtain ⟨A3, c3, l3, e3, h3, g3, n3⟩ : Has N w .bytes (a.eval (.tmp 68)) := hJ.done 50 (by omega) (hon 50 (by simp))
  exact g_build ⟨⟨0, z1, z2, l3⟩, A3, c3⟩ ⟨h3, g3, n3, (show InInt 0 by unfold InInt; omega), hz1, hz2⟩ _ (by simp only [List.map_toArray, List.map_cons, List.map_nil, e1, e2, e3]; kernel_rfl)
theorem st52 {a0 : Act} {base w : World} {N i k : Nat} {listed : Array Bool} {a : Act} (hJ : J a0 base N i k listed a w) (_hon : ∀ m ∈ ([] : List Nat), listed.getD m false = true) : Goes Try.prog a w (.move (.tmp 1)) 30 (fun v w' => Has N w' .row v ∧ Below w.heap.size w w') := by
  exact g_row hJ
theorem st53 {a0 : Act} {base w : World} {N i k : Nat} {listed : Array Bool} {a : Act} (hJ : J a0 base N i k listed a w) (_hon : ∀ m ∈ ([] : List Nat), listed.getD m false = true) : Goes Try.prog a w (.move (.tmp 2)) 3 (fun v w' => Has N w' .idx v ∧ Below w.heap.size w w') := by
  exact g_i hJ
theorem st54 {a0 : Act} {base w : World} {N i k : Nat} {listed : Array Bool} {a : Act} (hJ : J a0 base N i k listed a w) (hon : ∀ m ∈ ([52, 53] : List Nat), listed.getD m false = true) : Goes Try.prog a w (.indexAddr 30 (.tmp 70) (.tmp 71)) 0 (fun v w' => Has N w' .ptr v ∧ Below w.heap.size w w') := by
  exact g_index 70 71 (hJ.done 52 (by omega) (hon 52 (by simp)) : Has N w .row (a.eval (.tmp 70))) (hJ.done 53 (by omega) (hon 53 (by simp)) : Has N w .idx (a.eval (.tmp 71)))
theorem st55 {a0 : Act} {base w : World} {N i k : Nat} {listed : Array Bool} {a : Act} (hJ : J a0 base N i k listed a w) (hN : IsInts base base.heap.size (some ⟨N, 0, none⟩) ten) (hon : ∀ m ∈ ([54] : List Nat), listed.getD m false = true) : Goes Try.prog a w (.load 3 (.tmp 72)) 3 (fun v w' => Has N w' .num v ∧ Below w.heap.size w w') := by
  exact g_load hJ hN 72 (hJ.done 54 (by omega) (hon 54 (by simp)) : Has N w .ptr (a.eval (.tmp 72)))
theorem st56 {a0 : Act} {base w : World} {N i k : Nat} {listed : Array Bool} {a : Act} (hJ : J a0 base N i k listed a w) (_hon : ∀ m ∈ ([] : List Nat), listed.getD m false = true) : Goes Try.prog a w (.move (.tmp 1)) 30 (fun v w' => Has N w' .row v ∧ Below w.heap.size w w') := by
  exact g_row hJ
theorem st57 {a0 : Act} {base w : World} {N i k : Nat} {listed : Array Bool} {a : Act} (hJ : J a0 base N i k listed a w) (_hon : ∀ m ∈ ([] : List Nat), listed.getD m false = true) : Goes Try.prog a w (.move (.tmp 3)) 3 (fun v w' => Has N w' .idx v ∧ Below w.heap.size w w') := by
  exact g_k hJ
theorem st58 {a0 : Act} {base w : World} {N i k : Nat} {listed : Array Bool} {a : Act} (hJ : J a0 base N i k listed a w) (hon : ∀ m ∈ ([56, 57] : List Nat), listed.getD m false = true) : Goes Try.prog a w (.indexAddr 30 (.tmp 74) (.tmp 75)) 0 (fun v w' => Has N w' .ptr v ∧ Below w.heap.size w w') := by
  exact g_index 74 75 (hJ.done 56 (by omega) (hon 56 (by simp)) : Has N w .row (a.eval (.tmp 74))) (hJ.done 57 (by omega) (hon 57 (by simp)) : Has N w .idx (a.eval (.tmp 75)))
theorem st59 {a0 : Act} {base w : World} {N i k : Nat} {listed : Array Bool} {a : Act} (hJ : J a0 base N i k listed a w) (hN : IsInts base base.heap.size (some ⟨N, 0, none⟩) ten) (hon : ∀ m ∈ ([58] : List Nat), listed.getD m false = true) : Goes Try.prog a w (.load 3 (.tmp 76)) 3 (fun v w' => Has N w' .num v ∧ Below w.heap.size w w') := by
  exact g_load hJ hN 76 (hJ.done 58 (by omega) (hon 58 (by simp)) : Has N w .ptr (a.eval (.tmp 76)))
theorem st60 {a0 : Act} {base w : World} {N i k : Nat} {listed : Array Bool} {a : Act} (hJ : J a0 base N i k listed a w) (hon : ∀ m ∈ ([55, 59] : List Nat), listed.getD m false = true) : Goes Try.prog a w (.build 36 #[(0, .const (Value.int IntKind.i64 4)), (1, .tmp 73), (2, .tmp 77)]) 36 (fun v w' => Has N w' .op v ∧ Below w.heap.size w w') := by
  obtain ⟨z1, hz1, e1⟩ : Has N w .num (a.eval (.tmp 73)) := hJ.done 55 (by omega) (hon 55 (by simp))
  obtain ⟨z2, hz2, e2⟩ : Has N w .num (a.eval (.tmp 77)) := hJ.done 59 (by omega) (hon 59 (by simp))
  exact g_build ⟨⟨4, z1, z2, []⟩, none, 0⟩ ⟨IsBytes.nil, nil_cap, (fun _ => rfl), (show InInt 4 by unfold InInt; omega), hz1, hz2⟩ _ (by simp only [List.map_toArray, List.map_cons, List.map_nil, e1, e2, ev_const]; kernel_rfl)
theorem st61 {a0 : Act} {base w : World} {N i k : Nat} {listed : Array Bool} {a : Act} (hJ : J a0 base N i k listed a w) (_hon : ∀ m ∈ ([] : List Nat), listed.getD m false = true) : Goes Try.prog a w (.move (.tmp 1)) 30 (fun v w' => Has N w' .row v ∧ Below w.heap.size w w') := by
  exact g_row hJ
theorem st62 {a0 : Act} {base w : World} {N i k : Nat} {listed : Array Bool} {a : Act} (hJ : J a0 base N i k listed a w) (_hon : ∀ m ∈ ([] : List Nat), listed.getD m false = true) : Goes Try.prog a w (.move (.tmp 3)) 3 (fun v w' => Has N w' .idx v ∧ Below w.heap.size w w') := by
  exact g_k hJ
theorem st63 {a0 : Act} {base w : World} {N i k : Nat} {listed : Array Bool} {a : Act} (hJ : J a0 base N i k listed a w) (hon : ∀ m ∈ ([61, 62] : List Nat), listed.getD m false = true) : Goes Try.prog a w (.indexAddr 30 (.tmp 79) (.tmp 80)) 0 (fun v w' => Has N w' .ptr v ∧ Below w.heap.size w w') := by
  exact g_index 79 80 (hJ.done 61 (by omega) (hon 61 (by simp)) : Has N w .row (a.eval (.tmp 79))) (hJ.done 62 (by omega) (hon 62 (by simp)) : Has N w .idx (a.eval (.tmp 80)))
theorem st64 {a0 : Act} {base w : World} {N i k : Nat} {listed : Array Bool} {a : Act} (hJ : J a0 base N i k listed a w) (hN : IsInts base base.heap.size (some ⟨N, 0, none⟩) ten) (hon : ∀ m ∈ ([63] : List Nat), listed.getD m false = true) : Goes Try.prog a w (.load 3 (.tmp 81)) 3 (fun v w' => Has N w' .num v ∧ Below w.heap.size w w') := by
  exact g_load hJ hN 81 (hJ.done 63 (by omega) (hon 63 (by simp)) : Has N w .ptr (a.eval (.tmp 81)))
theorem st65 {a0 : Act} {base w : World} {N i k : Nat} {listed : Array Bool} {a : Act} (hJ : J a0 base N i k listed a w) (hon : ∀ m ∈ ([64] : List Nat), listed.getD m false = true) : Goes Try.prog a w (.build 36 #[(0, .const (Value.int IntKind.i64 4)), (1, .const (Value.int IntKind.i64 0)), (2, .tmp 82)]) 36 (fun v w' => Has N w' .op v ∧ Below w.heap.size w w') := by
  obtain ⟨z2, hz2, e2⟩ : Has N w .num (a.eval (.tmp 82)) := hJ.done 64 (by omega) (hon 64 (by simp))
  exact g_build ⟨⟨4, 0, z2, []⟩, none, 0⟩ ⟨IsBytes.nil, nil_cap, (fun _ => rfl), (show InInt 4 by unfold InInt; omega), (show InInt 0 by unfold InInt; omega), hz2⟩ _ (by simp only [List.map_toArray, List.map_cons, List.map_nil, e2, ev_const]; kernel_rfl)
theorem st66 {a0 : Act} {base w : World} {N i k : Nat} {listed : Array Bool} {a : Act} (_hJ : J a0 base N i k listed a w) (_hon : ∀ m ∈ ([] : List Nat), listed.getD m false = true) : Goes Try.prog a w (.build 36 #[(0, .const (Value.int IntKind.i64 4)), (1, .const (Value.int IntKind.i64 0)), (2, .const (Value.int IntKind.i64 3))]) 36 (fun v w' => Has N w' .op v ∧ Below w.heap.size w w') := by
  exact g_build ⟨⟨4, 0, 3, []⟩, none, 0⟩ ⟨IsBytes.nil, nil_cap, (fun _ => rfl), (show InInt 4 by unfold InInt; omega), (show InInt 0 by unfold InInt; omega), (show InInt 3 by unfold InInt; omega)⟩ _ (by simp only [List.map_toArray, List.map_cons, List.map_nil, ev_const]; kernel_rfl)
theorem st67 {a0 : Act} {base w : World} {N i k : Nat} {listed : Array Bool} {a : Act} (hJ : J a0 base N i k listed a w) (_hon : ∀ m ∈ ([] : List Nat), listed.getD m false = true) : Goes Try.prog a w (.move (.tmp 1)) 30 (fun v w' => Has N w' .row v ∧ Below w.heap.size w w') := by
  exact g_row hJ
theorem st68 {a0 : Act} {base w : World} {N i k : Nat} {listed : Array Bool} {a : Act} (hJ : J a0 base N i k listed a w) (_hon : ∀ m ∈ ([] : List Nat), listed.getD m false = true) : Goes Try.prog a w (.move (.tmp 2)) 3 (fun v w' => Has N w' .idx v ∧ Below w.heap.size w w') := by
  exact g_i hJ
theorem st69 {a0 : Act} {base w : World} {N i k : Nat} {listed : Array Bool} {a : Act} (hJ : J a0 base N i k listed a w) (hon : ∀ m ∈ ([67, 68] : List Nat), listed.getD m false = true) : Goes Try.prog a w (.indexAddr 30 (.tmp 85) (.tmp 86)) 0 (fun v w' => Has N w' .ptr v ∧ Below w.heap.size w w') := by
  exact g_index 85 86 (hJ.done 67 (by omega) (hon 67 (by simp)) : Has N w .row (a.eval (.tmp 85))) (hJ.done 68 (by omega) (hon 68 (by simp)) : Has N w .idx (a.eval (.tmp 86)))
theorem st70 {a0 : Act} {base w : World} {N i k : Nat} {listed : Array Bool} {a : Act} (hJ : J a0 base N i k listed a w) (hN : IsInts base base.heap.size (some ⟨N, 0, none⟩) ten) (hon : ∀ m ∈ ([69] : List Nat), listed.getD m false = true) : Goes Try.prog a w (.load 3 (.tmp 87)) 3 (fun v w' => Has N w' .num v ∧ Below w.heap.size w w') := by
  exact g_load hJ hN 87 (hJ.done 69 (by omega) (hon 69 (by simp)) : Has N w .ptr (a.eval (.tmp 87)))
theorem st71 {a0 : Act} {base w : World} {N i k : Nat} {listed : Array Bool} {a : Act} (hJ : J a0 base N i k listed a w) (hon : ∀ m ∈ ([70] : List Nat), listed.getD m false = true) : Goes Try.prog a w (.build 36 #[(0, .const (Value.int IntKind.i64 3)), (1, .tmp 88)]) 36 (fun v w' => Has N w' .op v ∧ Below w.heap.size w w') := by
  obtain ⟨z1, hz1, e1⟩ : Has N w .num (a.eval (.tmp 88)) := hJ.done 70 (by omega) (hon 70 (by simp))
  exact g_build ⟨⟨3, z1, 0, []⟩, none, 0⟩ ⟨IsBytes.nil, nil_cap, (fun _ => rfl), (show InInt 3 by unfold InInt; omega), hz1, (show InInt 0 by unfold InInt; omega)⟩ _ (by simp only [List.map_toArray, List.map_cons, List.map_nil, e1, ev_const]; kernel_rfl)
theorem st72 {a0 : Act} {base w : World} {N i k : Nat} {listed : Array Bool} {a : Act} (_hJ : J a0 base N i k listed a w) (_hon : ∀ m ∈ ([] : List Nat), listed.getD m false = true) : Goes Try.prog a w (.build 36 #[(0, .const (Value.int IntKind.i64 4)), (1, .const (Value.int IntKind.i64 3)), (2, .const (Value.int IntKind.i64 2))]) 36 (fun v w' => Has N w' .op v ∧ Below w.heap.size w w') := by
  exact g_build ⟨⟨4, 3, 2, []⟩, none, 0⟩ ⟨IsBytes.nil, nil_cap, (fun _ => rfl), (show InInt 4 by unfold InInt; omega), (show InInt 3 by unfold InInt; omega), (show InInt 2 by unfold InInt; omega)⟩ _ (by simp only [List.map_toArray, List.map_cons, List.map_nil, ev_const]; kernel_rfl)
theorem st73 {a0 : Act} {base w : World} {N i k : Nat} {listed : Array Bool} {a : Act} (hJ : J a0 base N i k listed a w) (_hon : ∀ m ∈ ([] : List Nat), listed.getD m false = true) : Goes Try.prog a w (.move (.tmp 1)) 30 (fun v w' => Has N w' .row v ∧ Below w.heap.size w w') := by
  exact g_row hJ
theorem st74 {a0 : Act} {base w : World} {N i k : Nat} {listed : Array Bool} {a : Act} (hJ : J a0 base N i k listed a w) (_hon : ∀ m ∈ ([] : List Nat), listed.getD m false = true) : Goes Try.prog a w (.move (.tmp 3)) 3 (fun v w' => Has N w' .idx v ∧ Below w.heap.size w w') := by
  exact g_k hJ
theorem st75 {a0 : Act} {base w : World} {N i k : Nat} {listed : Array Bool} {a : Act} (hJ : J a0 base N i k listed a w) (hon : ∀ m ∈ ([73, 74] : List Nat), listed.getD m false = true) : Goes Try.prog a w (.indexAddr 30 (.tmp 91) (.tmp 92)) 0 (fun v w' => Has N w' .ptr v ∧ Below w.heap.size w w') := by
  exact g_index 91 92 (hJ.done 73 (by omega) (hon 73 (by simp)) : Has N w .row (a.eval (.tmp 91))) (hJ.done 74 (by omega) (hon 74 (by simp)) : Has N w .idx (a.eval (.tmp 92)))
theorem st76 {a0 : Act} {base w : World} {N i k : Nat} {listed : Array Bool} {a : Act} (hJ : J a0 base N i k listed a w) (hN : IsInts base base.heap.size (some ⟨N, 0, none⟩) ten) (hon : ∀ m ∈ ([75] : List Nat), listed.getD m false = true) : Goes Try.prog a w (.load 3 (.tmp 93)) 3 (fun v w' => Has N w' .num v ∧ Below w.heap.size w w') := by
  exact g_load hJ hN 93 (hJ.done 75 (by omega) (hon 75 (by simp)) : Has N w .ptr (a.eval (.tmp 93)))
theorem st77 {a0 : Act} {base w : World} {N i k : Nat} {listed : Array Bool} {a : Act} (hJ : J a0 base N i k listed a w) (hon : ∀ m ∈ ([76] : List Nat), listed.getD m false = true) : Goes Try.prog a w (.build 36 #[(0, .const (Value.int IntKind.i64 1)), (1, .tmp 94)]) 36 (fun v w' => Has N w' .op v ∧ Below w.heap.size w w') := by
  obtain ⟨z1, hz1, e1⟩ : Has N w .num (a.eval (.tmp 94)) := hJ.done 76 (by omega) (hon 76 (by simp))
  exact g_build ⟨⟨1, z1, 0, []⟩, none, 0⟩ ⟨IsBytes.nil, nil_cap, (fun _ => rfl), (show InInt 1 by unfold InInt; omega), hz1, (show InInt 0 by unfold InInt; omega)⟩ _ (by simp only [List.map_toArray, List.map_cons, List.map_nil, e1, ev_const]; kernel_rfl)
theorem st78 {a0 : Act} {base w : World} {N i k : Nat} {listed : Array Bool} {a : Act} (hJ : J a0 base N i k listed a w) (_hon : ∀ m ∈ ([] : List Nat), listed.getD m false = true) : Goes Try.prog a w (.move (.tmp 1)) 30 (fun v w' => Has N w' .row v ∧ Below w.heap.size w w') := by
  exact g_row hJ
theorem st79 {a0 : Act} {base w : World} {N i k : Nat} {listed : Array Bool} {a : Act} (hJ : J a0 base N i k listed a w) (_hon : ∀ m ∈ ([] : List Nat), listed.getD m false = true) : Goes Try.prog a w (.move (.tmp 3)) 3 (fun v w' => Has N w' .idx v ∧ Below w.heap.size w w') := by
  exact g_k hJ
theorem st80 {a0 : Act} {base w : World} {N i k : Nat} {listed : Array Bool} {a : Act} (hJ : J a0 base N i k listed a w) (hon : ∀ m ∈ ([78, 79] : List Nat), listed.getD m false = true) : Goes Try.prog a w (.indexAddr 30 (.tmp 96) (.tmp 97)) 0 (fun v w' => Has N w' .ptr v ∧ Below w.heap.size w w') := by
  exact g_index 96 97 (hJ.done 78 (by omega) (hon 78 (by simp)) : Has N w .row (a.eval (.tmp 96))) (hJ.done 79 (by omega) (hon 79 (by simp)) : Has N w .idx (a.eval (.tmp 97)))
theorem st81 {a0 : Act} {base w : World} {N i k : Nat} {listed : Array Bool} {a : Act} (hJ : J a0 base N i k listed a w) (hN : IsInts base base.heap.size (some ⟨N, 0, none⟩) ten) (hon : ∀ m ∈ ([80] : List Nat), listed.getD m false = true) : Goes Try.prog a w (.load 3 (.tmp 98)) 3 (fun v w' => Has N w' .num v ∧ Below w.heap.size w w') := by
  exact g_load hJ hN 98 (hJ.done 80 (by omega) (hon 80 (by simp)) : Has N w .ptr (a.eval (.tmp 98)))
theorem st82 {a0 : Act} {base w : World} {N i k : Nat} {listed : Array Bool} {a : Act} (hJ : J a0 base N i k listed a w) (_hon : ∀ m ∈ ([] : List Nat), listed.getD m false = true) : Goes Try.prog a w (.move (.tmp 1)) 30 (fun v w' => Has N w' .row v ∧ Below w.heap.size w w') := by
  exact g_row hJ
theorem st83 {a0 : Act} {base w : World} {N i k : Nat} {listed : Array Bool} {a : Act} (hJ : J a0 base N i k listed a w) (_hon : ∀ m ∈ ([] : List Nat), listed.getD m false = true) : Goes Try.prog a w (.move (.tmp 2)) 3 (fun v w' => Has N w' .idx v ∧ Below w.heap.size w w') := by
  exact g_i hJ
theorem st84 {a0 : Act} {base w : World} {N i k : Nat} {listed : Array Bool} {a : Act} (hJ : J a0 base N i k listed a w) (hon : ∀ m ∈ ([82, 83] : List Nat), listed.getD m false = true) : Goes Try.prog a w (.indexAddr 30 (.tmp 100) (.tmp 101)) 0 (fun v w' => Has N w' .ptr v ∧ Below w.heap.size w w') := by
  exact g_index 100 101 (hJ.done 82 (by omega) (hon 82 (by simp)) : Has N w .row (a.eval (.tmp 100))) (hJ.done 83 (by omega) (hon 83 (by simp)) : Has N w .idx (a.eval (.tmp 101)))
theorem st85 {a0 : Act} {base w : World} {N i k : Nat} {listed : Array Bool} {a : Act} (hJ : J a0 base N i k listed a w) (hN : IsInts base base.heap.size (some ⟨N, 0, none⟩) ten) (hon : ∀ m ∈ ([84] : List Nat), listed.getD m false = true) : Goes Try.prog a w (.load 3 (.tmp 102)) 3 (fun v w' => Has N w' .num v ∧ Below w.heap.size w w') := by
  exact g_load hJ hN 102 (hJ.done 84 (by omega) (hon 84 (by simp)) : Has N w .ptr (a.eval (.tmp 102)))
theorem st86 {a0 : Act} {base w : World} {N i k : Nat} {listed : Array Bool} {a : Act} (hJ : J a0 base N i k listed a w) (hon : ∀ m ∈ ([81, 85] : List Nat), listed.getD m false = true) : Goes Try.prog a w (.build 36 #[(0, .const (Value.int IntKind.i64 6)), (1, .tmp 99), (2, .tmp 103)]) 36 (fun v w' => Has N w' .op v ∧ Below w.heap.size w w') := by
  obtain ⟨z1, hz1, e1⟩ : Has N w .num (a.eval (.tmp 99)) := hJ.done 81 (by omega) (hon 81 (by simp))
  obtain ⟨z2, hz2, e2⟩ : Has N w .num (a.eval (.tmp 103)) := hJ.done 85 (by omega) (hon 85 (by simp))
  exact g_build ⟨⟨6, z1, z2, []⟩, none, 0⟩ ⟨IsBytes.nil, nil_cap, (fun _ => rfl), (show InInt 6 by unfold InInt; omega), hz1, hz2⟩ _ (by simp only [List.map_toArray, List.map_cons, List.map_nil, e1, e2, ev_const]; kernel_rfl)
theorem st87 {a0 : Act} {base w : World} {N i k : Nat} {listed : Array Bool} {a : Act} (hJ : J a0 base N i k listed a w) (_hon : ∀ m ∈ ([] : List Nat), listed.getD m false = true) : Goes Try.prog a w (.move (.tmp 1)) 30 (fun v w' => Has N w' .row v ∧ Below w.heap.size w w') := by
  exact g_row hJ
theorem st88 {a0 : Act} {base w : World} {N i k : Nat} {listed : Array Bool} {a : Act} (hJ : J a0 base N i k listed a w) (_hon : ∀ m ∈ ([] : List Nat), listed.getD m false = true) : Goes Try.prog a w (.move (.tmp 2)) 3 (fun v w' => Has N w' .idx v ∧ Below w.heap.size w w') := by
  exact g_i hJ
theorem st89 {a0 : Act} {base w : World} {N i k : Nat} {listed : Array Bool} {a : Act} (hJ : J a0 base N i k listed a w) (hon : ∀ m ∈ ([87, 88] : List Nat), listed.getD m false = true) : Goes Try.prog a w (.indexAddr 30 (.tmp 105) (.tmp 106)) 0 (fun v w' => Has N w' .ptr v ∧ Below w.heap.size w w') := by
  exact g_index 105 106 (hJ.done 87 (by omega) (hon 87 (by simp)) : Has N w .row (a.eval (.tmp 105))) (hJ.done 88 (by omega) (hon 88 (by simp)) : Has N w .idx (a.eval (.tmp 106)))
theorem st90 {a0 : Act} {base w : World} {N i k : Nat} {listed : Array Bool} {a : Act} (hJ : J a0 base N i k listed a w) (hN : IsInts base base.heap.size (some ⟨N, 0, none⟩) ten) (hon : ∀ m ∈ ([89] : List Nat), listed.getD m false = true) : Goes Try.prog a w (.load 3 (.tmp 107)) 3 (fun v w' => Has N w' .num v ∧ Below w.heap.size w w') := by
  exact g_load hJ hN 107 (hJ.done 89 (by omega) (hon 89 (by simp)) : Has N w .ptr (a.eval (.tmp 107)))
theorem st91 {a0 : Act} {base w : World} {N i k : Nat} {listed : Array Bool} {a : Act} (hJ : J a0 base N i k listed a w) (hon : ∀ m ∈ ([90] : List Nat), listed.getD m false = true) : Goes Try.prog a w (.build 36 #[(0, .const (Value.int IntKind.i64 2)), (1, .tmp 108)]) 36 (fun v w' => Has N w' .op v ∧ Below w.heap.size w w') := by
  obtain ⟨z1, hz1, e1⟩ : Has N w .num (a.eval (.tmp 108)) := hJ.done 90 (by omega) (hon 90 (by simp))
  exact g_build ⟨⟨2, z1, 0, []⟩, none, 0⟩ ⟨IsBytes.nil, nil_cap, (fun _ => rfl), (show InInt 2 by unfold InInt; omega), hz1, (show InInt 0 by unfold InInt; omega)⟩ _ (by simp only [List.map_toArray, List.map_cons, List.map_nil, e1, ev_const]; kernel_rfl)
theorem st92 {a0 : Act} {base w : World} {N i k : Nat} {listed : Array Bool} {a : Act} (hJ : J a0 base N i k listed a w) (_hon : ∀ m ∈ ([] : List Nat), listed.getD m false = true) : Goes Try.prog a w (.move (.tmp 1)) 30 (fun v w' => Has N w' .row v ∧ Below w.heap.size w w') := by
  exact g_row hJ
theorem st93 {a0 : Act} {base w : World} {N i k : Nat} {listed : Array Bool} {a : Act} (hJ : J a0 base N i k listed a w) (_hon : ∀ m ∈ ([] : List Nat), listed.getD m false = true) : Goes Try.prog a w (.move (.tmp 2)) 3 (fun v w' => Has N w' .idx v ∧ Below w.heap.size w w') := by
  exact g_i hJ
theorem st94 {a0 : Act} {base w : World} {N i k : Nat} {listed : Array Bool} {a : Act} (hJ : J a0 base N i k listed a w) (hon : ∀ m ∈ ([92, 93] : List Nat), listed.getD m false = true) : Goes Try.prog a w (.indexAddr 30 (.tmp 110) (.tmp 111)) 0 (fun v w' => Has N w' .ptr v ∧ Below w.heap.size w w') := by
  exact g_index 110 111 (hJ.done 92 (by omega) (hon 92 (by simp)) : Has N w .row (a.eval (.tmp 110))) (hJ.done 93 (by omega) (hon 93 (by simp)) : Has N w .idx (a.eval (.tmp 111)))
theorem st95 {a0 : Act} {base w : World} {N i k : Nat} {listed : Array Bool} {a : Act} (hJ : J a0 base N i k listed a w) (hN : IsInts base base.heap.size (some ⟨N, 0, none⟩) ten) (hon : ∀ m ∈ ([94] : List Nat), listed.getD m false = true) : Goes Try.prog a w (.load 3 (.tmp 112)) 3 (fun v w' => Has N w' .num v ∧ Below w.heap.size w w') := by
  exact g_load hJ hN 112 (hJ.done 94 (by omega) (hon 94 (by simp)) : Has N w .ptr (a.eval (.tmp 112)))
theorem st96 {a0 : Act} {base w : World} {N i k : Nat} {listed : Array Bool} {a : Act} (hJ : J a0 base N i k listed a w) (hon : ∀ m ∈ ([95] : List Nat), listed.getD m false = true) : Goes Try.prog a w (.build 36 #[(0, .const (Value.int IntKind.i64 6)), (1, .const (Value.int IntKind.i64 5)), (2, .tmp 113)]) 36 (fun v w' => Has N w' .op v ∧ Below w.heap.size w w') := by
  obtain ⟨z2, hz2, e2⟩ : Has N w .num (a.eval (.tmp 113)) := hJ.done 95 (by omega) (hon 95 (by simp))
  exact g_build ⟨⟨6, 5, z2, []⟩, none, 0⟩ ⟨IsBytes.nil, nil_cap, (fun _ => rfl), (show InInt 6 by unfold InInt; omega), (show InInt 5 by unfold InInt; omega), hz2⟩ _ (by simp only [List.map_toArray, List.map_cons, List.map_nil, e2, ev_const]; kernel_rfl)
theorem st97 {a0 : Act} {base w : World} {N i k : Nat} {listed : Array Bool} {a : Act} (_hJ : J a0 base N i k listed a w) (_hon : ∀ m ∈ ([] : List Nat), listed.getD m false = true) : Goes Try.prog a w (.build 36 #[(0, .const (Value.int IntKind.i64 9))]) 36 (fun v w' => Has N w' .op v ∧ Below w.heap.size w w') := by
  exact g_build ⟨⟨9, 0, 0, []⟩, none, 0⟩ ⟨IsBytes.nil, nil_cap, (fun _ => rfl), (show InInt 9 by unfold InInt; omega), (show InInt 0 by unfold InInt; omega), (show InInt 0 by unfold InInt; omega)⟩ _ (by simp only [List.map_toArray, List.map_cons, List.map_nil, ev_const]; kernel_rfl)
theorem st98 {a0 : Act} {base w : World} {N i k : Nat} {listed : Array Bool} {a : Act} (hJ : J a0 base N i k listed a w) (_hon : ∀ m ∈ ([] : List Nat), listed.getD m false = true) : Goes Try.prog a w (.move (.tmp 1)) 30 (fun v w' => Has N w' .row v ∧ Below w.heap.size w w') := by
  exact g_row hJ
theorem st99 {a0 : Act} {base w : World} {N i k : Nat} {listed : Array Bool} {a : Act} (hJ : J a0 base N i k listed a w) (_hon : ∀ m ∈ ([] : List Nat), listed.getD m false = true) : Goes Try.prog a w (.move (.tmp 3)) 3 (fun v w' => Has N w' .idx v ∧ Below w.heap.size w w') := by
  exact g_k hJ
theorem st100 {a0 : Act} {base w : World} {N i k : Nat} {listed : Array Bool} {a : Act} (hJ : J a0 base N i k listed a w) (hon : ∀ m ∈ ([98, 99] : List Nat), listed.getD m false = true) : Goes Try.prog a w (.indexAddr 30 (.tmp 116) (.tmp 117)) 0 (fun v w' => Has N w' .ptr v ∧ Below w.heap.size w w') := by
  exact g_index 116 117 (hJ.done 98 (by omega) (hon 98 (by simp)) : Has N w .row (a.eval (.tmp 116))) (hJ.done 99 (by omega) (hon 99 (by simp)) : Has N w .idx (a.eval (.tmp 117)))
theorem st101 {a0 : Act} {base w : World} {N i k : Nat} {listed : Array Bool} {a : Act} (hJ : J a0 base N i k listed a w) (hN : IsInts base base.heap.size (some ⟨N, 0, none⟩) ten) (hon : ∀ m ∈ ([100] : List Nat), listed.getD m false = true) : Goes Try.prog a w (.load 3 (.tmp 118)) 3 (fun v w' => Has N w' .num v ∧ Below w.heap.size w w') := by
  exact g_load hJ hN 118 (hJ.done 100 (by omega) (hon 100 (by simp)) : Has N w .ptr (a.eval (.tmp 118)))
theorem st102 {a0 : Act} {base w : World} {N i k : Nat} {listed : Array Bool} {a : Act} (hJ : J a0 base N i k listed a w) (_hon : ∀ m ∈ ([] : List Nat), listed.getD m false = true) : Goes Try.prog a w (.move (.tmp 1)) 30 (fun v w' => Has N w' .row v ∧ Below w.heap.size w w') := by
  exact g_row hJ
theorem st103 {a0 : Act} {base w : World} {N i k : Nat} {listed : Array Bool} {a : Act} (hJ : J a0 base N i k listed a w) (_hon : ∀ m ∈ ([] : List Nat), listed.getD m false = true) : Goes Try.prog a w (.move (.tmp 2)) 3 (fun v w' => Has N w' .idx v ∧ Below w.heap.size w w') := by
  exact g_i hJ
theorem st104 {a0 : Act} {base w : World} {N i k : Nat} {listed : Array Bool} {a : Act} (hJ : J a0 base N i k listed a w) (hon : ∀ m ∈ ([102, 103] : List Nat), listed.getD m false = true) : Goes Try.prog a w (.indexAddr 30 (.tmp 120) (.tmp 121)) 0 (fun v w' => Has N w' .ptr v ∧ Below w.heap.size w w') := by
  exact g_index 120 121 (hJ.done 102 (by omega) (hon 102 (by simp)) : Has N w .row (a.eval (.tmp 120))) (hJ.done 103 (by omega) (hon 103 (by simp)) : Has N w .idx (a.eval (.tmp 121)))
theorem st105 {a0 : Act} {base w : World} {N i k : Nat} {listed : Array Bool} {a : Act} (hJ : J a0 base N i k listed a w) (hN : IsInts base base.heap.size (some ⟨N, 0, none⟩) ten) (hon : ∀ m ∈ ([104] : List Nat), listed.getD m false = true) : Goes Try.prog a w (.load 3 (.tmp 122)) 3 (fun v w' => Has N w' .num v ∧ Below w.heap.size w w') := by
  exact g_load hJ hN 122 (hJ.done 104 (by omega) (hon 104 (by simp)) : Has N w .ptr (a.eval (.tmp 122)))
theorem st106 {a0 : Act} {base w : World} {N i k : Nat} {listed : Array Bool} {a : Act} (_hJ : J a0 base N i k listed a w) (_hon : ∀ m ∈ ([] : List Nat), listed.getD m false = true) : Goes Try.prog a w (.buildSlice 34 1 #[(0, .const (Value.int IntKind.u8 10))]) 34 (fun v w' => Has N w' .bytes v ∧ Below w.heap.size w w') := by
  exact g_bytes [10] 1 _ rfl (by decide) (by decide) (by simp only [List.map_toArray, List.map_cons, List.map_nil, ev_const]; kernel_rfl)
theorem st107 {a0 : Act} {base w : World} {N i k : Nat} {listed : Array Bool} {a : Act} (hJ : J a0 base N i k listed a w) (hon : ∀ m ∈ ([101, 105, 106] : List Nat), listed.getD m false = true) : Goes Try.prog a w (.build 36 #[(1, .tmp 119), (2, .tmp 123), (3, .tmp 124)]) 36 (fun v w' => Has N w' .op v ∧ Below w.heap.size w w') := by
  obtain ⟨z1, hz1, e1⟩ : Has N w .num (a.eval (.tmp 119)) := hJ.done 101 (by omega) (hon 101 (by simp))
  obtain ⟨z2, hz2, e2⟩ : Has N w .num (a.eval (.tmp 123)) := hJ.done 105 (by omega) (hon 105 (by simp))
  obtain ⟨A3, c3, l3, e3, h3, g3, n3⟩ : Has N w .bytes (a.eval (.tmp 124)) := hJ.done 106 (by omega) (hon 106 (by simp))
  exact g_build ⟨⟨0, z1, z2, l3⟩, A3, c3⟩ ⟨h3, g3, n3, (show InInt 0 by unfold InInt; omega), hz1, hz2⟩ _ (by simp only [List.map_toArray, List.map_cons, List.map_nil, e1, e2, e3]; kernel_rfl)
theorem st108 {a0 : Act} {base w : World} {N i k : Nat} {listed : Array Bool} {a : Act} (hJ : J a0 base N i k listed a w) (hon : ∀ m ∈ ([1, 3, 12, 13, 22, 31, 41, 51, 60, 65, 66, 71, 72, 77, 86, 91, 96, 97, 107] : List Nat), listed.getD m false = true) : Goes Try.prog a w (.buildSlice 22 19 #[(0, .tmp 19), (1, .tmp 21), (2, .tmp 30), (3, .tmp 31), (4, .tmp 40), (5, .tmp 49), (6, .tmp 59), (7, .tmp 69), (8, .tmp 78), (9, .tmp 83), (10, .tmp 84), (11, .tmp 89), (12, .tmp 90), (13, .tmp 95), (14, .tmp 104), (15, .tmp 109), (16, .tmp 114), (17, .tmp 115), (18, .tmp 125)]) 22 (fun v w' => Has N w' .ops v ∧ Below w.heap.size w w') := by
  obtain ⟨d0, hd0, e0⟩ : Has N w .op (a.eval (.tmp 19)) := hJ.done 1 (by omega) (hon 1 (by simp))
  obtain ⟨d1, hd1, e1⟩ : Has N w .op (a.eval (.tmp 21)) := hJ.done 3 (by omega) (hon 3 (by simp))
  obtain ⟨d2, hd2, e2⟩ : Has N w .op (a.eval (.tmp 30)) := hJ.done 12 (by omega) (hon 12 (by simp))
  obtain ⟨d3, hd3, e3⟩ : Has N w .op (a.eval (.tmp 31)) := hJ.done 13 (by omega) (hon 13 (by simp))
  obtain ⟨d4, hd4, e4⟩ : Has N w .op (a.eval (.tmp 40)) := hJ.done 22 (by omega) (hon 22 (by simp))
  obtain ⟨d5, hd5, e5⟩ : Has N w .op (a.eval (.tmp 49)) := hJ.done 31 (by omega) (hon 31 (by simp))
  obtain ⟨d6, hd6, e6⟩ : Has N w .op (a.eval (.tmp 59)) := hJ.done 41 (by omega) (hon 41 (by simp))
  obtain ⟨d7, hd7, e7⟩ : Has N w .op (a.eval (.tmp 69)) := hJ.done 51 (by omega) (hon 51 (by simp))
  obtain ⟨d8, hd8, e8⟩ : Has N w .op (a.eval (.tmp 78)) := hJ.done 60 (by omega) (hon 60 (by simp))
  obtain ⟨d9, hd9, e9⟩ : Has N w .op (a.eval (.tmp 83)) := hJ.done 65 (by omega) (hon 65 (by simp))
  obtain ⟨d10, hd10, e10⟩ : Has N w .op (a.eval (.tmp 84)) := hJ.done 66 (by omega) (hon 66 (by simp))
  obtain ⟨d11, hd11, e11⟩ : Has N w .op (a.eval (.tmp 89)) := hJ.done 71 (by omega) (hon 71 (by simp))
  obtain ⟨d12, hd12, e12⟩ : Has N w .op (a.eval (.tmp 90)) := hJ.done 72 (by omega) (hon 72 (by simp))
  obtain ⟨d13, hd13, e13⟩ : Has N w .op (a.eval (.tmp 95)) := hJ.done 77 (by omega) (hon 77 (by simp))
  obtain ⟨d14, hd14, e14⟩ : Has N w .op (a.eval (.tmp 104)) := hJ.done 86 (by omega) (hon 86 (by simp))
  obtain ⟨d15, hd15, e15⟩ : Has N w .op (a.eval (.tmp 109)) := hJ.done 91 (by omega) (hon 91 (by simp))
  obtain ⟨d16, hd16, e16⟩ : Has N w .op (a.eval (.tmp 114)) := hJ.done 96 (by omega) (hon 96 (by simp))
  obtain ⟨d17, hd17, e17⟩ : Has N w .op (a.eval (.tmp 115)) := hJ.done 97 (by omega) (hon 97 (by simp))
  obtain ⟨d18, hd18, e18⟩ : Has N w .op (a.eval (.tmp 125)) := hJ.done 107 (by omega) (hon 107 (by simp))
  exact g_ops [d0, d1, d2, d3, d4, d5, d6, d7, d8, d9, d10, d11, d12, d13, d14, d15, d16, d17, d18] rfl (by intro d hd; simp only [List.mem_cons, List.not_mem_nil, or_false] at hd; rcases hd with rfl | rfl | rfl | rfl | rfl | rfl | rfl | rfl | rfl | rfl | rfl | rfl | rfl | rfl | rfl | rfl | rfl | rfl | rfl <;> assumption) _ (by simp only [List.map_toArray, List.map_cons, List.map_nil, e0, e1, e2, e3, e4, e5, e6, e7, e8, e9, e10, e11, e12, e13, e14, e15, e16, e17, e18]; kernel_rfl)
theorem st109 {a0 : Act} {base w : World} {N i k : Nat} {listed : Array Bool} {a : Act} (hJ : J a0 base N i k listed a w) (hon : ∀ m ∈ ([108] : List Nat), listed.getD m false = true) : Goes Try.prog a w (.assign (.tmp 126)) 22 (fun v w' => Has N w' .ops v ∧ Below w.heap.size w w') := by
  exact g_assign (hJ.done 108 (by omega) (hon 108 (by simp)) : Has N w .ops (a.eval (.tmp 126)))
def tbl : List (Option Tmp × Op × TypeId × Option (Nat × Bool) × List Nat) := [
  (some 18, .buildSlice 34 2 #[(0, .const (Value.int IntKind.u8 7)), (1, .const (Value.int IntKind.u8 1))], 34, none, []),
  (some 19, .build 36 #[(1, .const (Value.int IntKind.i64 1)), (2, .const (Value.int IntKind.i64 2)), (3, .tmp 18)], 36, none, [0]),
  (some 20, .buildSlice 34 1 #[(0, .const (Value.int IntKind.u8 8))], 34, none, []),
  (some 21, .build 36 #[(1, .const (Value.int IntKind.i64 2)), (2, .const (Value.int IntKind.i64 1)), (3, .tmp 20)], 36, none, [2]),
  (some 22, .move (.tmp 1), 30, none, []),
  (some 23, .move (.tmp 2), 3, none, []),
  (some 24, .indexAddr 30 (.tmp 22) (.tmp 23), 0, none, [4, 5]),
  (some 25, .load 3 (.tmp 24), 3, none, [6]),
  (some 26, .move (.tmp 1), 30, none, []),
  (some 27, .move (.tmp 3), 3, none, []),
  (some 28, .indexAddr 30 (.tmp 26) (.tmp 27), 0, none, [8, 9]),
  (some 29, .load 3 (.tmp 28), 3, none, [10]),
  (some 30, .build 36 #[(1, .tmp 25), (2, .tmp 29)], 36, none, [7, 11]),
  (some 31, .build 36 #[(0, .const (Value.int IntKind.i64 3))], 36, none, []),
  (some 32, .move (.tmp 1), 30, none, []),
  (some 33, .move (.tmp 2), 3, none, []),
  (some 34, .indexAddr 30 (.tmp 32) (.tmp 33), 0, none, [14, 15]),
  (some 35, .load 3 (.tmp 34), 3, none, [16]),
  (some 36, .move (.tmp 1), 30, none, []),
  (some 37, .move (.tmp 3), 3, none, []),
  (some 38, .indexAddr 30 (.tmp 36) (.tmp 37), 0, none, [18, 19]),
  (some 39, .load 3 (.tmp 38), 3, none, [20]),
  (some 40, .build 36 #[(0, .const (Value.int IntKind.i64 5)), (1, .tmp 35), (2, .tmp 39)], 36, none, [17, 21]),
  (some 41, .move (.tmp 1), 30, none, []),
  (some 42, .move (.tmp 3), 3, none, []),
  (some 43, .indexAddr 30 (.tmp 41) (.tmp 42), 0, none, [23, 24]),
  (some 44, .load 3 (.tmp 43), 3, none, [25]),
  (some 45, .move (.tmp 1), 30, none, []),
  (some 46, .move (.tmp 2), 3, none, []),
  (some 47, .indexAddr 30 (.tmp 45) (.tmp 46), 0, none, [27, 28]),
  (some 48, .load 3 (.tmp 47), 3, none, [29]),
  (some 49, .build 36 #[(0, .const (Value.int IntKind.i64 5)), (1, .tmp 44), (2, .tmp 48)], 36, none, [26, 30]),
  (some 50, .move (.tmp 1), 30, none, []),
  (some 51, .move (.tmp 3), 3, none, []),
  (some 52, .indexAddr 30 (.tmp 50) (.tmp 51), 0, none, [32, 33]),
  (some 53, .load 3 (.tmp 52), 3, none, [34]),
  (some 54, .move (.tmp 1), 30, none, []),
  (some 55, .move (.tmp 2), 3, none, []),
  (some 56, .indexAddr 30 (.tmp 54) (.tmp 55), 0, none, [36, 37]),
  (some 57, .load 3 (.tmp 56), 3, none, [38]),
  (some 58, .buildSlice 34 1 #[(0, .const (Value.int IntKind.u8 9))], 34, none, []),
  (some 59, .build 36 #[(1, .tmp 53), (2, .tmp 57), (3, .tmp 58)], 36, none, [35, 39, 40]),
  (some 60, .move (.tmp 1), 30, none, []),
  (some 61, .move (.tmp 2), 3, none, []),
  (some 62, .indexAddr 30 (.tmp 60) (.tmp 61), 0, none, [42, 43]),
  (some 63, .load 3 (.tmp 62), 3, none, [44]),
  (some 64, .move (.tmp 1), 30, none, []),
  (some 65, .move (.tmp 2), 3, none, []),
  (some 66, .indexAddr 30 (.tmp 64) (.tmp 65), 0, none, [46, 47]),
  (some 67, .load 3 (.tmp 66), 3, none, [48]),
  (some 68, .buildSlice 34 1 #[(0, .const (Value.int IntKind.u8 9))], 34, none, []),
  (some 69, .build 36 #[(1, .tmp 63), (2, .tmp 67), (3, .tmp 68)], 36, none, [45, 49, 50]),
  (some 70, .move (.tmp 1), 30, none, []),
  (some 71, .move (.tmp 2), 3, none, []),
  (some 72, .indexAddr 30 (.tmp 70) (.tmp 71), 0, none, [52, 53]),
  (some 73, .load 3 (.tmp 72), 3, none, [54]),
  (some 74, .move (.tmp 1), 30, none, []),
  (some 75, .move (.tmp 3), 3, none, []),
  (some 76, .indexAddr 30 (.tmp 74) (.tmp 75), 0, none, [56, 57]),
  (some 77, .load 3 (.tmp 76), 3, none, [58]),
  (some 78, .build 36 #[(0, .const (Value.int IntKind.i64 4)), (1, .tmp 73), (2, .tmp 77)], 36, none, [55, 59]),
  (some 79, .move (.tmp 1), 30, none, []),
  (some 80, .move (.tmp 3), 3, none, []),
  (some 81, .indexAddr 30 (.tmp 79) (.tmp 80), 0, none, [61, 62]),
  (some 82, .load 3 (.tmp 81), 3, none, [63]),
  (some 83, .build 36 #[(0, .const (Value.int IntKind.i64 4)), (1, .const (Value.int IntKind.i64 0)), (2, .tmp 82)], 36, none, [64]),
  (some 84, .build 36 #[(0, .const (Value.int IntKind.i64 4)), (1, .const (Value.int IntKind.i64 0)), (2, .const (Value.int IntKind.i64 3))], 36, none, []),
  (some 85, .move (.tmp 1), 30, none, []),
  (some 86, .move (.tmp 2), 3, none, []),
  (some 87, .indexAddr 30 (.tmp 85) (.tmp 86), 0, none, [67, 68]),
  (some 88, .load 3 (.tmp 87), 3, none, [69]),
  (some 89, .build 36 #[(0, .const (Value.int IntKind.i64 3)), (1, .tmp 88)], 36, none, [70]),
  (some 90, .build 36 #[(0, .const (Value.int IntKind.i64 4)), (1, .const (Value.int IntKind.i64 3)), (2, .const (Value.int IntKind.i64 2))], 36, none, []),
  (some 91, .move (.tmp 1), 30, none, []),
  (some 92, .move (.tmp 3), 3, none, []),
  (some 93, .indexAddr 30 (.tmp 91) (.tmp 92), 0, none, [73, 74]),
  (some 94, .load 3 (.tmp 93), 3, none, [75]),
  (some 95, .build 36 #[(0, .const (Value.int IntKind.i64 1)), (1, .tmp 94)], 36, none, [76]),
  (some 96, .move (.tmp 1), 30, none, []),
  (some 97, .move (.tmp 3), 3, none, []),
  (some 98, .indexAddr 30 (.tmp 96) (.tmp 97), 0, none, [78, 79]),
  (some 99, .load 3 (.tmp 98), 3, none, [80]),
  (some 100, .move (.tmp 1), 30, none, []),
  (some 101, .move (.tmp 2), 3, none, []),
  (some 102, .indexAddr 30 (.tmp 100) (.tmp 101), 0, none, [82, 83]),
  (some 103, .load 3 (.tmp 102), 3, none, [84]),
  (some 104, .build 36 #[(0, .const (Value.int IntKind.i64 6)), (1, .tmp 99), (2, .tmp 103)], 36, none, [81, 85]),
  (some 105, .move (.tmp 1), 30, none, []),
  (some 106, .move (.tmp 2), 3, none, []),
  (some 107, .indexAddr 30 (.tmp 105) (.tmp 106), 0, none, [87, 88]),
  (some 108, .load 3 (.tmp 107), 3, none, [89]),
  (some 109, .build 36 #[(0, .const (Value.int IntKind.i64 2)), (1, .tmp 108)], 36, none, [90]),
  (some 110, .move (.tmp 1), 30, none, []),
  (some 111, .move (.tmp 2), 3, none, []),
  (some 112, .indexAddr 30 (.tmp 110) (.tmp 111), 0, none, [92, 93]),
  (some 113, .load 3 (.tmp 112), 3, none, [94]),
  (some 114, .build 36 #[(0, .const (Value.int IntKind.i64 6)), (1, .const (Value.int IntKind.i64 5)), (2, .tmp 113)], 36, none, [95]),
  (some 115, .build 36 #[(0, .const (Value.int IntKind.i64 9))], 36, none, []),
  (some 116, .move (.tmp 1), 30, none, []),
  (some 117, .move (.tmp 3), 3, none, []),
  (some 118, .indexAddr 30 (.tmp 116) (.tmp 117), 0, none, [98, 99]),
  (some 119, .load 3 (.tmp 118), 3, none, [100]),
  (some 120, .move (.tmp 1), 30, none, []),
  (some 121, .move (.tmp 2), 3, none, []),
  (some 122, .indexAddr 30 (.tmp 120) (.tmp 121), 0, none, [102, 103]),
  (some 123, .load 3 (.tmp 122), 3, none, [104]),
  (some 124, .buildSlice 34 1 #[(0, .const (Value.int IntKind.u8 10))], 34, none, []),
  (some 125, .build 36 #[(1, .tmp 119), (2, .tmp 123), (3, .tmp 124)], 36, none, [101, 105, 106]),
  (some 126, .buildSlice 22 19 #[(0, .tmp 19), (1, .tmp 21), (2, .tmp 30), (3, .tmp 31), (4, .tmp 40), (5, .tmp 49), (6, .tmp 59), (7, .tmp 69), (8, .tmp 78), (9, .tmp 83), (10, .tmp 84), (11, .tmp 89), (12, .tmp 90), (13, .tmp 95), (14, .tmp 104), (15, .tmp 109), (16, .tmp 114), (17, .tmp 115), (18, .tmp 125)], 22, none, [1, 3, 12, 13, 22, 31, 41, 51, 60, 65, 66, 71, 72, 77, 86, 91, 96, 97, 107]),
  (some 4, .assign (.tmp 126), 22, none, [108, 0, 1, 2, 3, 4, 5, 6, 7, 8, 9, 10, 11, 12, 13, 14, 15, 16, 17, 18, 19, 20, 21, 22, 23, 24, 25, 26, 27, 28, 29, 30, 31, 32, 33, 34, 35, 36, 37, 38, 39, 40, 41, 42, 43, 44, 45, 46, 47, 48, 49, 50, 51, 52, 53, 54, 55, 56, 57, 58, 59, 60, 61, 62, 63, 64, 65, 66, 67, 68, 69, 70, 71, 72, 73, 74, 75, 76, 77, 78, 79, 80, 81, 82, 83, 84, 85, 86, 87, 88, 89, 90, 91, 92, 93, 94, 95, 96, 97, 98, 99, 100, 101, 102, 103, 104, 105, 106, 107, 108])
]
def StOk (a0 : Act) (base : World) (N i k : Nat) (j : Nat) (s : Option Tmp × Op × TypeId × Option (Nat × Bool) × List Nat) : Prop := s.1 = some (dst j) ∧ s.2.2.2.1 = none ∧ (∀ m ∈ s.2.2.2.2, m < j) ∧ ∀ listed a w, J a0 base N i k listed a w → (∀ m ∈ s.2.2.2.2, listed.getD m false = true) → Goes Try.prog a w s.2.1 s.2.2.1 (fun v w' => Has N w' (cls j) v ∧ Below w.heap.size w w')
set_option maxRecDepth 100000 in
theorem tbl_ok {a0 : Act} {base : World} {N i k : Nat} (hN : IsInts base base.heap.size (some ⟨N, 0, none⟩) ten) : AllFrom (StOk a0 base N i k) 0 tbl := ⟨
  ⟨rfl, rfl, by decide, fun listed a w hJ hon => st0 hJ hon⟩,
  ⟨rfl, rfl, by decide, fun listed a w hJ hon => st1 hJ hon⟩,
  ⟨rfl, rfl, by decide, fun listed a w hJ hon => st2 hJ hon⟩,
  ⟨rfl, rfl, by decide, fun listed a w hJ hon => st3 hJ hon⟩,
  ⟨rfl, rfl, by decide, fun listed a w hJ hon => st4 hJ hon⟩,
  ⟨rfl, rfl, by decide, fun listed a w hJ hon => st5 hJ hon⟩,
  ⟨rfl, rfl, by decide, fun listed a w hJ hon => st6 hJ hon⟩,
  ⟨rfl, rfl, by decide, fun listed a w hJ hon => st7 hJ hN hon⟩,
  ⟨rfl, rfl, by decide, fun listed a w hJ hon => st8 hJ hon⟩,
  ⟨rfl, rfl, by decide, fun listed a w hJ hon => st9 hJ hon⟩,
  ⟨rfl, rfl, by decide, fun listed a w hJ hon => st10 hJ hon⟩,
  ⟨rfl, rfl, by decide, fun listed a w hJ hon => st11 hJ hN hon⟩,
  ⟨rfl, rfl, by decide, fun listed a w hJ hon => st12 hJ hon⟩,
  ⟨rfl, rfl, by decide, fun listed a w hJ hon => st13 hJ hon⟩,
  ⟨rfl, rfl, by decide, fun listed a w hJ hon => st14 hJ hon⟩,
  ⟨rfl, rfl, by decide, fun listed a w hJ hon => st15 hJ hon⟩,
  ⟨rfl, rfl, by decide, fun listed a w hJ hon => st16 hJ hon⟩,
  ⟨rfl, rfl, by decide, fun listed a w hJ hon => st17 hJ hN hon⟩,
  ⟨rfl, rfl, by decide, fun listed a w hJ hon => st18 hJ hon⟩,
  ⟨rfl, rfl, by decide, fun listed a w hJ hon => st19 hJ hon⟩,
  ⟨rfl, rfl, by decide, fun listed a w hJ hon => st20 hJ hon⟩,
  ⟨rfl, rfl, by decide, fun listed a w hJ hon => st21 hJ hN hon⟩,
  ⟨rfl, rfl, by decide, fun listed a w hJ hon => st22 hJ hon⟩,
  ⟨rfl, rfl, by decide, fun listed a w hJ hon => st23 hJ hon⟩,
  ⟨rfl, rfl, by decide, fun listed a w hJ hon => st24 hJ hon⟩,
  ⟨rfl, rfl, by decide, fun listed a w hJ hon => st25 hJ hon⟩,
  ⟨rfl, rfl, by decide, fun listed a w hJ hon => st26 hJ hN hon⟩,
  ⟨rfl, rfl, by decide, fun listed a w hJ hon => st27 hJ hon⟩,
  ⟨rfl, rfl, by decide, fun listed a w hJ hon => st28 hJ hon⟩,
  ⟨rfl, rfl, by decide, fun listed a w hJ hon => st29 hJ hon⟩,
  ⟨rfl, rfl, by decide, fun listed a w hJ hon => st30 hJ hN hon⟩,
  ⟨rfl, rfl, by decide, fun listed a w hJ hon => st31 hJ hon⟩,
  ⟨rfl, rfl, by decide, fun listed a w hJ hon => st32 hJ hon⟩,
  ⟨rfl, rfl, by decide, fun listed a w hJ hon => st33 hJ hon⟩,
  ⟨rfl, rfl, by decide, fun listed a w hJ hon => st34 hJ hon⟩,
  ⟨rfl, rfl, by decide, fun listed a w hJ hon => st35 hJ hN hon⟩,
  ⟨rfl, rfl, by decide, fun listed a w hJ hon => st36 hJ hon⟩,
  ⟨rfl, rfl, by decide, fun listed a w hJ hon => st37 hJ hon⟩,
  ⟨rfl, rfl, by decide, fun listed a w hJ hon => st38 hJ hon⟩,
  ⟨rfl, rfl, by decide, fun listed a w hJ hon => st39 hJ hN hon⟩,
  ⟨rfl, rfl, by decide, fun listed a w hJ hon => st40 hJ hon⟩,
  ⟨rfl, rfl, by decide, fun listed a w hJ hon => st41 hJ hon⟩,
  ⟨rfl, rfl, by decide, fun listed a w hJ hon => st42 hJ hon⟩,
  ⟨rfl, rfl, by decide, fun listed a w hJ hon => st43 hJ hon⟩,
  ⟨rfl, rfl, by decide, fun listed a w hJ hon => st44 hJ hon⟩,
  ⟨rfl, rfl, by decide, fun listed a w hJ hon => st45 hJ hN hon⟩,
  ⟨rfl, rfl, by decide, fun listed a w hJ hon => st46 hJ hon⟩,
  ⟨rfl, rfl, by decide, fun listed a w hJ hon => st47 hJ hon⟩,
  ⟨rfl, rfl, by decide, fun listed a w hJ hon => st48 hJ hon⟩,
  ⟨rfl, rfl, by decide, fun listed a w hJ hon => st49 hJ hN hon⟩,
  ⟨rfl, rfl, by decide, fun listed a w hJ hon => st50 hJ hon⟩,
  ⟨rfl, rfl, by decide, fun listed a w hJ hon => st51 hJ hon⟩,
  ⟨rfl, rfl, by decide, fun listed a w hJ hon => st52 hJ hon⟩,
  ⟨rfl, rfl, by decide, fun listed a w hJ hon => st53 hJ hon⟩,
  ⟨rfl, rfl, by decide, fun listed a w hJ hon => st54 hJ hon⟩,
  ⟨rfl, rfl, by decide, fun listed a w hJ hon => st55 hJ hN hon⟩,
  ⟨rfl, rfl, by decide, fun listed a w hJ hon => st56 hJ hon⟩,
  ⟨rfl, rfl, by decide, fun listed a w hJ hon => st57 hJ hon⟩,
  ⟨rfl, rfl, by decide, fun listed a w hJ hon => st58 hJ hon⟩,
  ⟨rfl, rfl, by decide, fun listed a w hJ hon => st59 hJ hN hon⟩,
  ⟨rfl, rfl, by decide, fun listed a w hJ hon => st60 hJ hon⟩,
  ⟨rfl, rfl, by decide, fun listed a w hJ hon => st61 hJ hon⟩,
  ⟨rfl, rfl, by decide, fun listed a w hJ hon => st62 hJ hon⟩,
  ⟨rfl, rfl, by decide, fun listed a w hJ hon => st63 hJ hon⟩,
  ⟨rfl, rfl, by decide, fun listed a w hJ hon => st64 hJ hN hon⟩,
  ⟨rfl, rfl, by decide, fun listed a w hJ hon => st65 hJ hon⟩,
  ⟨rfl, rfl, by decide, fun listed a w hJ hon => st66 hJ hon⟩,
  ⟨rfl, rfl, by decide, fun listed a w hJ hon => st67 hJ hon⟩,
  ⟨rfl, rfl, by decide, fun listed a w hJ hon => st68 hJ hon⟩,
  ⟨rfl, rfl, by decide, fun listed a w hJ hon => st69 hJ hon⟩,
  ⟨rfl, rfl, by decide, fun listed a w hJ hon => st70 hJ hN hon⟩,
  ⟨rfl, rfl, by decide, fun listed a w hJ hon => st71 hJ hon⟩,
  ⟨rfl, rfl, by decide, fun listed a w hJ hon => st72 hJ hon⟩,
  ⟨rfl, rfl, by decide, fun listed a w hJ hon => st73 hJ hon⟩,
  ⟨rfl, rfl, by decide, fun listed a w hJ hon => st74 hJ hon⟩,
  ⟨rfl, rfl, by decide, fun listed a w hJ hon => st75 hJ hon⟩,
  ⟨rfl, rfl, by decide, fun listed a w hJ hon => st76 hJ hN hon⟩,
  ⟨rfl, rfl, by decide, fun listed a w hJ hon => st77 hJ hon⟩,
  ⟨rfl, rfl, by decide, fun listed a w hJ hon => st78 hJ hon⟩,
  ⟨rfl, rfl, by decide, fun listed a w hJ hon => st79 hJ hon⟩,
  ⟨rfl, rfl, by decide, fun listed a w hJ hon => st80 hJ hon⟩,
  ⟨rfl, rfl, by decide, fun listed a w hJ hon => st81 hJ hN hon⟩,
  ⟨rfl, rfl, by decide, fun listed a w hJ hon => st82 hJ hon⟩,
  ⟨rfl, rfl, by decide, fun listed a w hJ hon => st83 hJ hon⟩,
  ⟨rfl, rfl, by decide, fun listed a w hJ hon => st84 hJ hon⟩,
  ⟨rfl, rfl, by decide, fun listed a w hJ hon => st85 hJ hN hon⟩,
  ⟨rfl, rfl, by decide, fun listed a w hJ hon => st86 hJ hon⟩,
  ⟨rfl, rfl, by decide, fun listed a w hJ hon => st87 hJ hon⟩,
  ⟨rfl, rfl, by decide, fun listed a w hJ hon => st88 hJ hon⟩,
  ⟨rfl, rfl, by decide, fun listed a w hJ hon => st89 hJ hon⟩,
  ⟨rfl, rfl, by decide, fun listed a w hJ hon => st90 hJ hN hon⟩,
  ⟨rfl, rfl, by decide, fun listed a w hJ hon => st91 hJ hon⟩,
  ⟨rfl, rfl, by decide, fun listed a w hJ hon => st92 hJ hon⟩,
  ⟨rfl, rfl, by decide, fun listed a w hJ hon => st93 hJ hon⟩,
  ⟨rfl, rfl, by decide, fun listed a w hJ hon => st94 hJ hon⟩,
  ⟨rfl, rfl, by decide, fun listed a w hJ hon => st95 hJ hN hon⟩,
  ⟨rfl, rfl, by decide, fun listed a w hJ hon => st96 hJ hon⟩,
  ⟨rfl, rfl, by decide, fun listed a w hJ hon => st97 hJ hon⟩,
  ⟨rfl, rfl, by decide, fun listed a w hJ hon => st98 hJ hon⟩,
  ⟨rfl, rfl, by decide, fun listed a w hJ hon => st99 hJ hon⟩,
  ⟨rfl, rfl, by decide, fun listed a w hJ hon => st100 hJ hon⟩,
  ⟨rfl, rfl, by decide, fun listed a w hJ hon => st101 hJ hN hon⟩,
  ⟨rfl, rfl, by decide, fun listed a w hJ hon => st102 hJ hon⟩,
  ⟨rfl, rfl, by decide, fun listed a w hJ hon => st103 hJ hon⟩,
  ⟨rfl, rfl, by decide, fun listed a w hJ hon => st104 hJ hon⟩,
  ⟨rfl, rfl, by decide, fun listed a w hJ hon => st105 hJ hN hon⟩,
  ⟨rfl, rfl, by decide, fun listed a w hJ hon => st106 hJ hon⟩,
  ⟨rfl, rfl, by decide, fun listed a w hJ hon => st107 hJ hon⟩,
  ⟨rfl, rfl, by decide, fun listed a w hJ hon => st108 hJ hon⟩,
  ⟨rfl, rfl, by decide, fun listed a w hJ hon => st109 hJ (fun m hm => hon m (by simp at hm; subst hm; decide))⟩,
  trivial⟩
/-- the region: in whatever order -/
theorem region8 {a0 : Act} {base w : World} {N i k : Nat} {ops : Array Oper} {id : Nat} {Q : Exit → Act → World → Prop} {a : Act} (hN : IsInts base base.heap.size (some ⟨N, 0, none⟩) ten) (hops : ops.toList.map skel = tbl)
    (hJ : J a0 base N i k (Array.replicate ops.size false) a w.drew) (hQ : ∀ a w, J a0 base N i k (Array.replicate 110 true) a w → Q .normal a w) : (Code.region id ops true).wp Try.prog Q a w := by
  have hsize : ops.size = 110 := by
    have := congrArg List.length hops
    simpa [tbl] using this
  have hat : ∀ (j : Nat) (o : Oper), ops[j]? = some o → StOk a0 base N i k j (skel o) := fun j o ho => by
    have h1 : tbl[j]? = some (skel o) := by rw [← hops, List.getElem?_map, Array.getElem?_toList, ho]; rfl
    have := AllFrom.get (tbl_ok (a0 := a0) (i := i) (k := k) hN) j _ h1
    rwa [Nat.zero_add] at this
  have hon : ∀ (o : Oper) (e : Edge), e ∈ o.after → Region.binds .any e = true → e.on ∈ (skel o).2.2.2.2 := fun o e he hb => by
    refine List.mem_map.2 ⟨e, List.mem_filter.2 ⟨by simpa using he, hb⟩, rfl⟩
  refine wp_region_inv (by kernel_rfl) (J a0 base N i k) hJ ?_ ?_
  · intro listed a w j o hJ ho h0 ha
    obtain ⟨h1, h2, h3, h4⟩ := hat j o ho
    have hj : j < 110 := by rw [← hsize]; exact (Array.getElem?_eq_some_iff.1 ho).1
    refine Goes.wpOp ho h2 (h4 listed a w hJ (fun m hm => ?_)) (fun v w' hv => ?_)
    · obtain ⟨e, he, rfl⟩ := List.mem_map.1 hm
      obtain ⟨he1, he2⟩ := List.mem_filter.1 he
      exact ha e (by simpa using he1) he2
    · have h1 : o.dst = some (dst j) := h1
      rw [h1]
      exact hJ.put j hj v hv.2 hv.1
  · intro listed a w hJ hr
    have hall := all_listed (by rw [hJ.lsize, hsize]) (fun j o ho e he hb => (hat j o ho).2.2.1 _ (hon o e he hb)) hr
    refine hQ a w ⟨hJ.size, hJ.defers, hJ.keep, hJ.s1, hJ.s2, hJ.s3, hJ.hi, hJ.hk, by simp, hJ.bel, fun j hj _ => hJ.done j hj (hall j (by omega))⟩

/-- .. from a frame that is written out to such a one -/
theorem region8L {v0 v1 v2 v3 v4 v5 v6 v7 v8 v9 v10 v11 v12 v13 v14 v15 v16 v17 v18 v19 v20 v21 v22 v23 v24 v25 v26 v27 v28 v29 v30 v31 v32 v33 v34 v35 v36 v37 v38 v39 v40 v41 v42 v43 v44 v45 v46 v47 v48 v49 v50 v51 v52 v53 v54 v55 v56 v57 v58 v59 v60 v61 v62 v63 v64 v65 v66 v67 v68 v69 v70 v71 v72 v73 v74 v75 v76 v77 v78 v79 v80 v81 v82 v83 v84 v85 v86 v87 v88 v89 v90 v91 v92 v93 v94 v95 v96 v97 v98 v99 v100 v101 v102 v103 v104 v105 v106 v107 v108 v109 v110 v111 v112 v113 v114 v115 v116 v117 v118 v119 v120 v121 v122 v123 v124 v125 v126 v127 v128 v129 v130 v131 v132 v133 v134 v135 v136 v137 v138 v139 v140 v141 v142 v143 v144 v145 v146 v147 v148 v149 v150 v151 v152 v153 : Value} {base w : World} {N i k : Nat} {ops : Array Oper} {id : Nat} {Q : Exit → Act → World → Prop} (hN : IsInts base base.heap.size (some ⟨N, 0, none⟩) ten) (hops : ops.toList.map skel = tbl)
    (h1 : v1 = .slice (some ⟨N, 0, none⟩) 13 13) (h2 : v2 = .int .i64 i) (h3 : v3 = .int .i64 k) (hi : i < 13) (hk : k < 13) (hb : Below base.heap.size base w)
    (hQ : ∀ (u : Nat → Value) (g : Nat) (ts : List Po.Op) (w' : World), ts.length = 19 → IsOps w' w'.heap.size (some ⟨g, 0, none⟩) ts → Below base.heap.size base w' → Q .normal ⟨#[v0, v1, v2, v3, .slice (some ⟨g, 0, none⟩) 19 19, v5, v6, v7, v8, v9, v10, v11, v12, v13, v14, v15, v16, v17, u 18, u 19, u 20, u 21, u 22, u 23, u 24, u 25, u 26, u 27, u 28, u 29, u 30, u 31, u 32, u 33, u 34, u 35, u 36, u 37, u 38, u 39, u 40, u 41, u 42, u 43, u 44, u 45, u 46, u 47, u 48, u 49, u 50, u 51, u 52, u 53, u 54, u 55, u 56, u 57, u 58, u 59, u 60, u 61, u 62, u 63, u 64, u 65, u 66, u 67, u 68, u 69, u 70, u 71, u 72, u 73, u 74, u 75, u 76, u 77, u 78, u 79, u 80, u 81, u 82, u 83, u 84, u 85, u 86, u 87, u 88, u 89, u 90, u 91, u 92, u 93, u 94, u 95, u 96, u 97, u 98, u 99, u 100, u 101, u 102, u 103, u 104, u 105, u 106, u 107, u 108, u 109, u 110, u 111, u 112, u 113, u 114, u 115, u 116, u 117, u 118, u 119, u 120, u 121, u 122, u 123, u 124, u 125, u 126, v127, v128, v129, v130, v131, v132, v133, v134, v135, v136, v137, v138, v139, v140, v141, v142, v143, v144, v145, v146, v147, v148, v149, v150, v151, v152, v153], []⟩ w') :
    (Code.region id ops true).wp Try.prog Q ⟨#[v0, v1, v2, v3, v4, v5, v6, v7, v8, v9, v10, v11, v12, v13, v14, v15, v16, v17, v18, v19, v20, v21, v22, v23, v24, v25, v26, v27, v28, v29, v30, v31, v32, v33, v34, v35, v36, v37, v38, v39, v40, v41, v42, v43, v44, v45, v46, v47, v48, v49, v50, v51, v52, v53, v54, v55, v56, v57, v58, v59, v60, v61, v62, v63, v64, v65, v66, v67, v68, v69, v70, v71, v72, v73, v74, v75, v76, v77, v78, v79, v80, v81, v82, v83, v84, v85, v86, v87, v88, v89, v90, v91, v92, v93, v94, v95, v96, v97, v98, v99, v100, v101, v102, v103, v104, v105, v106, v107, v108, v109, v110, v111, v112, v113, v114, v115, v116, v117, v118, v119, v120, v121, v122, v123, v124, v125, v126, v127, v128, v129, v130, v131, v132, v133, v134, v135, v136, v137, v138, v139, v140, v141, v142, v143, v144, v145, v146, v147, v148, v149, v150, v151, v152, v153], []⟩ w := by
  have hm : ops.size = 110 := by
    have := congrArg List.length hops
    simpa [tbl] using this
  refine region8 (a0 := ⟨#[v0, v1, v2, v3, v4, v5, v6, v7, v8, v9, v10, v11, v12, v13, v14, v15, v16, v17, v18, v19, v20, v21, v22, v23, v24, v25, v26, v27, v28, v29, v30, v31, v32, v33, v34, v35, v36, v37, v38, v39, v40, v41, v42, v43, v44, v45, v46, v47, v48, v49, v50, v51, v52, v53, v54, v55, v56, v57, v58, v59, v60, v61, v62, v63, v64, v65, v66, v67, v68, v69, v70, v71, v72, v73, v74, v75, v76, v77, v78, v79, v80, v81, v82, v83, v84, v85, v86, v87, v88, v89, v90, v91, v92, v93, v94, v95, v96, v97, v98, v99, v100, v101, v102, v103, v104, v105, v106, v107, v108, v109, v110, v111, v112, v113, v114, v115, v116, v117, v118, v119, v120, v121, v122, v123, v124, v125, v126, v127, v128, v129, v130, v131, v132, v133, v134, v135, v136, v137, v138, v139, v140, v141, v142, v143, v144, v145, v146, v147, v148, v149, v150, v151, v152, v153], []⟩) hN hops ⟨rfl, rfl, fun s _ => rfl, h1, h2, h3, hi, hk, by simp [hm], hb.drew, fun j hj h => by
    rw [Array.getD_eq_getD_getElem?, Array.getElem?_replicate] at h
    split at h <;> cases h⟩ (fun a wz hJ => ?_)
  obtain ⟨g, ts, e4, hts, hops⟩ : Has N wz .ops (a.eval (.tmp 4)) := hJ.done 109 (by omega) (by simp)
  have hkp : ∀ s : Nat, s ≠ 4 → (s < 18 ∨ 126 < s) → a.eval (.tmp s) = Act.eval ⟨#[v0, v1, v2, v3, v4, v5, v6, v7, v8, v9, v10, v11, v12, v13, v14, v15, v16, v17, v18, v19, v20, v21, v22, v23, v24, v25, v26, v27, v28, v29, v30, v31, v32, v33, v34, v35, v36, v37, v38, v39, v40, v41, v42, v43, v44, v45, v46, v47, v48, v49, v50, v51, v52, v53, v54, v55, v56, v57, v58, v59, v60, v61, v62, v63, v64, v65, v66, v67, v68, v69, v70, v71, v72, v73, v74, v75, v76, v77, v78, v79, v80, v81, v82, v83, v84, v85, v86, v87, v88, v89, v90, v91, v92, v93, v94, v95, v96, v97, v98, v99, v100, v101, v102, v103, v104, v105, v106, v107, v108, v109, v110, v111, v112, v113, v114, v115, v116, v117, v118, v119, v120, v121, v122, v123, v124, v125, v126, v127, v128, v129, v130, v131, v132, v133, v134, v135, v136, v137, v138, v139, v140, v141, v142, v143, v144, v145, v146, v147, v148, v149, v150, v151, v152, v153], []⟩ (.tmp s) := fun s h4 hs => hJ.keep s (fun j hj => by unfold dst; split <;> omega)
  have k0 : a.eval (.tmp 0) = v0 := hkp 0 (by decide) (by decide)
  have k1 : a.eval (.tmp 1) = v1 := hkp 1 (by decide) (by decide)
  have k2 : a.eval (.tmp 2) = v2 := hkp 2 (by decide) (by decide)
  have k3 : a.eval (.tmp 3) = v3 := hkp 3 (by decide) (by decide)
  have k5 : a.eval (.tmp 5) = v5 := hkp 5 (by decide) (by decide)
  have k6 : a.eval (.tmp 6) = v6 := hkp 6 (by decide) (by decide)
  have k7 : a.eval (.tmp 7) = v7 := hkp 7 (by decide) (by decide)
  have k8 : a.eval (.tmp 8) = v8 := hkp 8 (by decide) (by decide)
  have k9 : a.eval (.tmp 9) = v9 := hkp 9 (by decide) (by decide)
  have k10 : a.eval (.tmp 10) = v10 := hkp 10 (by decide) (by decide)
  have k11 : a.eval (.tmp 11) = v11 := hkp 11 (by decide) (by decide)
  have k12 : a.eval (.tmp 12) = v12 := hkp 12 (by decide) (by decide)
  have k13 : a.eval (.tmp 13) = v13 := hkp 13 (by decide) (by decide)
  have k14 : a.eval (.tmp 14) = v14 := hkp 14 (by decide) (by decide)
  have k15 : a.eval (.tmp 15) = v15 := hkp 15 (by decide) (by decide)
  have k16 : a.eval (.tmp 16) = v16 := hkp 16 (by decide) (by decide)
  have k17 : a.eval (.tmp 17) = v17 := hkp 17 (by decide) (by decide)
  have k127 : a.eval (.tmp 127) = v127 := hkp 127 (by decide) (by decide)
  have k128 : a.eval (.tmp 128) = v128 := hkp 128 (by decide) (by decide)
  have k129 : a.eval (.tmp 129) = v129 := hkp 129 (by decide) (by decide)
  have k130 : a.eval (.tmp 130) = v130 := hkp 130 (by decide) (by decide)
  have k131 : a.eval (.tmp 131) = v131 := hkp 131 (by decide) (by decide)
  have k132 : a.eval (.tmp 132) = v132 := hkp 132 (by decide) (by decide)
  have k133 : a.eval (.tmp 133) = v133 := hkp 133 (by decide) (by decide)
  have k134 : a.eval (.tmp 134) = v134 := hkp 134 (by decide) (by decide)
  have k135 : a.eval (.tmp 135) = v135 := hkp 135 (by decide) (by decide)
  have k136 : a.eval (.tmp 136) = v136 := hkp 136 (by decide) (by decide)
  have k137 : a.eval (.tmp 137) = v137 := hkp 137 (by decide) (by decide)
  have k138 : a.eval (.tmp 138) = v138 := hkp 138 (by decide) (by decide)
  have k139 : a.eval (.tmp 139) = v139 := hkp 139 (by decide) (by decide)
  have k140 : a.eval (.tmp 140) = v140 := hkp 140 (by decide) (by decide)
  have k141 : a.eval (.tmp 141) = v141 := hkp 141 (by decide) (by decide)
  have k142 : a.eval (.tmp 142) = v142 := hkp 142 (by decide) (by decide)
  have k143 : a.eval (.tmp 143) = v143 := hkp 143 (by decide) (by decide)
  have k144 : a.eval (.tmp 144) = v144 := hkp 144 (by decide) (by decide)
  have k145 : a.eval (.tmp 145) = v145 := hkp 145 (by decide) (by decide)
  have k146 : a.eval (.tmp 146) = v146 := hkp 146 (by decide) (by decide)
  have k147 : a.eval (.tmp 147) = v147 := hkp 147 (by decide) (by decide)
  have k148 : a.eval (.tmp 148) = v148 := hkp 148 (by decide) (by decide)
  have k149 : a.eval (.tmp 149) = v149 := hkp 149 (by decide) (by decide)
  have k150 : a.eval (.tmp 150) = v150 := hkp 150 (by decide) (by decide)
  have k151 : a.eval (.tmp 151) = v151 := hkp 151 (by decide) (by decide)
  have k152 : a.eval (.tmp 152) = v152 := hkp 152 (by decide) (by decide)
  have k153 : a.eval (.tmp 153) = v153 := hkp 153 (by decide) (by decide)
  have hs := hJ.size
  have hd := hJ.defers
  have hbz := hJ.bel
  clear hJ hkp
  have hl : a.tmps.toList = (List.range 154).map (fun n => a.eval (.tmp n)) := by
    refine List.ext_getElem (by simp [hs]) (fun n h1 h2 => ?_)
    have h3 : n < a.tmps.size := by simpa using h1
    simp [Act.eval, h3]
  have h2 : (List.range 154).map (fun n => a.eval (.tmp n)) = [a.eval (.tmp 0), a.eval (.tmp 1), a.eval (.tmp 2), a.eval (.tmp 3), a.eval (.tmp 4), a.eval (.tmp 5), a.eval (.tmp 6), a.eval (.tmp 7), a.eval (.tmp 8), a.eval (.tmp 9), a.eval (.tmp 10), a.eval (.tmp 11), a.eval (.tmp 12), a.eval (.tmp 13), a.eval (.tmp 14), a.eval (.tmp 15), a.eval (.tmp 16), a.eval (.tmp 17), a.eval (.tmp 18), a.eval (.tmp 19), a.eval (.tmp 20), a.eval (.tmp 21), a.eval (.tmp 22), a.eval (.tmp 23), a.eval (.tmp 24), a.eval (.tmp 25), a.eval (.tmp 26), a.eval (.tmp 27), a.eval (.tmp 28), a.eval (.tmp 29), a.eval (.tmp 30), a.eval (.tmp 31), a.eval (.tmp 32), a.eval (.tmp 33), a.eval (.tmp 34), a.eval (.tmp 35), a.eval (.tmp 36), a.eval (.tmp 37), a.eval (.tmp 38), a.eval (.tmp 39), a.eval (.tmp 40), a.eval (.tmp 41), a.eval (.tmp 42), a.eval (.tmp 43), a.eval (.tmp 44), a.eval (.tmp 45), a.eval (.tmp 46), a.eval (.tmp 47), a.eval (.tmp 48), a.eval (.tmp 49), a.eval (.tmp 50), a.eval (.tmp 51), a.eval (.tmp 52), a.eval (.tmp 53), a.eval (.tmp 54), a.eval (.tmp 55), a.eval (.tmp 56), a.eval (.tmp 57), a.eval (.tmp 58), a.eval (.tmp 59), a.eval (.tmp 60), a.eval (.tmp 61), a.eval (.tmp 62), a.eval (.tmp 63), a.eval (.tmp 64), a.eval (.tmp 65), a.eval (.tmp 66), a.eval (.tmp 67), a.eval (.tmp 68), a.eval (.tmp 69), a.eval (.tmp 70), a.eval (.tmp 71), a.eval (.tmp 72), a.eval (.tmp 73), a.eval (.tmp 74), a.eval (.tmp 75), a.eval (.tmp 76), a.eval (.tmp 77), a.eval (.tmp 78), a.eval (.tmp 79), a.eval (.tmp 80), a.eval (.tmp 81), a.eval (.tmp 82), a.eval (.tmp 83), a.eval (.tmp 84), a.eval (.tmp 85), a.eval (.tmp 86), a.eval (.tmp 87), a.eval (.tmp 88), a.eval (.tmp 89), a.eval (.tmp 90), a.eval (.tmp 91), a.eval (.tmp 92), a.eval (.tmp 93), a.eval (.tmp 94), a.eval (.tmp 95), a.eval (.tmp 96), a.eval (.tmp 97), a.eval (.tmp 98), a.eval (.tmp 99), a.eval (.tmp 100), a.eval (.tmp 101), a.eval (.tmp 102), a.eval (.tmp 103), a.eval (.tmp 104), a.eval (.tmp 105), a.eval (.tmp 106), a.eval (.tmp 107), a.eval (.tmp 108), a.eval (.tmp 109), a.eval (.tmp 110), a.eval (.tmp 111), a.eval (.tmp 112), a.eval (.tmp 113), a.eval (.tmp 114), a.eval (.tmp 115), a.eval (.tmp 116), a.eval (.tmp 117), a.eval (.tmp 118), a.eval (.tmp 119), a.eval (.tmp 120), a.eval (.tmp 121), a.eval (.tmp 122), a.eval (.tmp 123), a.eval (.tmp 124), a.eval (.tmp 125), a.eval (.tmp 126), a.eval (.tmp 127), a.eval (.tmp 128), a.eval (.tmp 129), a.eval (.tmp 130), a.eval (.tmp 131), a.eval (.tmp 132), a.eval (.tmp 133), a.eval (.tmp 134), a.eval (.tmp 135), a.eval (.tmp 136), a.eval (.tmp 137), a.eval (.tmp 138), a.eval (.tmp 139), a.eval (.tmp 140), a.eval (.tmp 141), a.eval (.tmp 142), a.eval (.tmp 143), a.eval (.tmp 144), a.eval (.tmp 145), a.eval (.tmp 146), a.eval (.tmp 147), a.eval (.tmp 148), a.eval (.tmp 149), a.eval (.tmp 150), a.eval (.tmp 151), a.eval (.tmp 152), a.eval (.tmp 153)] := by kernel_rfl
  rw [h2, k0, k1, k2, k3, k5, k6, k7, k8, k9, k10, k11, k12, k13, k14, k15, k16, k17, k127, k128, k129, k130, k131, k132, k133, k134, k135, k136, k137, k138, k139, k140, k141, k142, k143, k144, k145, k146, k147, k148, k149, k150, k151, k152, k153, e4] at hl
  have hQ' := hQ (fun n => a.eval (.tmp n)) g ts wz hts hops hbz
  obtain ⟨tmps, defers⟩ := a
  have hd : defers = [] := hd
  subst hd
  have h3 : tmps = (tmps.toList).toArray := by simp
  have hl : tmps.toList = _ := hl
  rw [hl] at h3
  rw [h3]
  rw [h3] at hQ'
  exact hQ'
end Go.Proofs.Ytckfjkhjnpkobaa
