/- Texts of the proof, one behind the other: KnTurn08. -/
import Derived.Test.YtdgijnolpjaheaaGreatPartBB
import Derived.Test.YtdgijnolpjaheaaGreatPartAZ
namespace Go.Proofs.YtdgijnolpjaheaaGreat
open Go Go.RowKit
namespace KT
inductive Cls where
  | bytes (n : Nat) | op (k : Int) (p : Nat) | vi | vc | vb | vk | cut | ops
/-- what the region finds: a sector's number, bytes c, bytes b, a place in b -/
structure P where
  i : Int
  Ac : Option Addr
  cc : Nat
  c : List Nat
  Ab : Option Addr
  cb : Nat
  b : List Nat
  k : Nat
structure P.Ok (X : P) (w : World) : Prop where
  i : InInt X.i
  hc : IsBytes w w.heap.size X.Ac X.c
  cc : X.c.length ≤ X.cc ∧ X.cc ≤ maxLen
  cz : X.Ac = none → X.cc = 0
  hb : IsBytes w w.heap.size X.Ab X.b
  cb : X.b.length ≤ X.cb ∧ X.cb ≤ maxLen
  bz : X.Ab = none → X.cb = 0
  k : X.k < X.b.length
theorem P.Ok.below {X : P} {w w' : World} (h : X.Ok w) (hb : Below w.heap.size w w') : X.Ok w' :=
  ⟨h.i, (h.hc.below hb).more hb.size, h.cc, h.cz, (h.hb.below hb).more hb.size, h.cb, h.bz, h.k⟩
theorem P.Ok.len {X : P} {w : World} (h : X.Ok w) : (X.b.take X.k).length = X.k := by rw [List.length_take]; have := h.k; omega
theorem P.Ok.cut {X : P} {w : World} (h : X.Ok w) : (X.b.take X.k).length ≤ X.cb ∧ X.cb ≤ maxLen := by rw [h.len]; have := h.k; have := h.cb; omega
def Shape6 (X : P) (ts : List Ck.Op) : Prop := ts.map (fun t => (t.kind, t.data.length, t.lst.length)) = [(0, 1, 0), (0, 50, 0), (3, X.c.length, 0), (9, 0, 0), (3, X.k, 0), (9, 0, 0)]
def Has (X : P) (w : World) : Cls → Value → Prop
  | .bytes n, v => ∃ A c, ∃ l : List Nat, l.length = n ∧ v = .slice A l.length c ∧ IsBytes w w.heap.size A l ∧ (l.length ≤ c ∧ c ≤ maxLen) ∧ (A = none → c = 0)
  | .op k p, v => ∃ d : OpD, d.Ok w ∧ (d.t.kind = k ∧ d.t.data.length = p ∧ d.t.lst.length = 0) ∧ v = .agg d.cells.toArray
  | .vi, v => v = .int .i64 X.i
  | .vc, v => v = .slice X.Ac X.c.length X.cc
  | .vb, v => v = .slice X.Ab X.b.length X.cb
  | .vk, v => v = .int .i64 X.k
  | .cut, v => v = .slice X.Ab X.k X.cb
  | .ops, v => ∃ g, ∃ ts : List Ck.Op, v = .slice (some ⟨g, 0, none⟩) 6 6 ∧ Shape6 X ts ∧ Ck.IsOps w w.heap.size (some ⟨g, 0, none⟩) ts
theorem Has.below {X : P} {w w' : World} (hb : Below w.heap.size w w') : ∀ {c : Cls} {v : Value}, Has X w c v → Has X w' c v
  | .bytes _, _, ⟨A, c, l, h0, h1, h2, h3⟩ => ⟨A, c, l, h0, h1, (h2.below hb).more hb.size, h3⟩
  | .op _ _, _, ⟨d, h1, h2, h3⟩ => ⟨d, h1.below hb, h2, h3⟩
  | .vi, _, h => h
  | .vc, _, h => h
  | .vb, _, h => h
  | .vk, _, h => h
  | .cut, _, h => h
  | .ops, _, ⟨g, ts, h1, h2, h3⟩ => ⟨g, ts, h1, h2, isOps_more (h3.below hb) hb.size⟩
def dst (j : Nat) : Nat := if j = 15 then 8 else 42 + j

def clsL (X : P) : List Cls := [(.bytes 1), (.op 0 1), (.bytes 50), (.op 0 50), .vi, .vc, (.op 3 X.c.length), (.op 9 0), .vi, .vb, .vk, .cut, (.op 3 X.k), (.op 9 0), .ops, .ops]
def cls (X : P) (j : Nat) : Cls := ((clsL X)[j]?).getD .ops
/-- the region under way -/
structure J (X : P) (a0 : Act) (base : World) (listed : Array Bool) (a : Act) (w : World) : Prop where
  size : a.tmps.size = 60
  defers : a.defers = []
  keep : ∀ s : Nat, (∀ j, j < 16 → dst j ≠ s) → a.eval (.tmp s) = a0.eval (.tmp s)
  s3 : a.eval (.tmp 3) = .int .i64 X.i
  s7 : a.eval (.tmp 7) = .slice X.Ac X.c.length X.cc
  s4 : a.eval (.tmp 4) = .slice X.Ab X.b.length X.cb
  s6 : a.eval (.tmp 6) = .int .i64 X.k
  ok0 : X.Ok base
  lsize : listed.size = 16
  bel : Below base.heap.size base w
  done : ∀ j, j < 16 → listed.getD j false = true → Has X w (cls X j) (a.eval (.tmp (dst j)))
theorem J.put {X : P} {a0 : Act} {base w w' : World} {listed : Array Bool} {a : Act} (h : J X a0 base listed a w) (j : Nat) (hj : j < 16) (v : Value) (hb : Below w.heap.size w w') (hv : Has X w' (cls X j) v) :
    J X a0 base (listed.setIfInBounds j true) (a.put (some (dst j)) v) w' := by
  have hd : dst j < 60 ∧ dst j ≠ 3 ∧ dst j ≠ 7 ∧ dst j ≠ 4 ∧ dst j ≠ 6 := by unfold dst; split <;> omega
  refine ⟨by simp [Act.put, h.size], h.defers, fun s hs => (eval_put_ne a v (hs j hj)).trans (h.keep s hs), (eval_put_ne a v hd.2.1).trans h.s3, (eval_put_ne a v hd.2.2.1).trans h.s7, (eval_put_ne a v hd.2.2.2.1).trans h.s4, (eval_put_ne a v hd.2.2.2.2).trans h.s6, h.ok0, by simp [h.lsize], h.bel.trans (hb.mono h.bel.size), fun m hm hl => ?_⟩
  by_cases e : m = j
  · subst e
    rw [eval_put_self a v (by rw [h.size]; exact hd.1)]
    exact hv
  · have hne : dst j ≠ dst m := by unfold dst; split <;> split <;> omega
    rw [eval_put_ne a v hne]
    refine (h.done m hm ?_).below hb
    rw [Array.getD_eq_getD_getElem?, Array.getElem?_setIfInBounds_ne (by omega), ← Array.getD_eq_getD_getElem?] at hl
    exact hl
section
variable {X : P} {a0 : Act} {base w : World} {listed : Array Bool} {a : Act}
theorem J.ok (h : J X a0 base listed a w) : X.Ok w := h.ok0.below h.bel
theorem J.okc (h : J X a0 base listed a w) : IsBytes w w.heap.size X.Ac X.c := h.ok.hc
theorem J.okb (h : J X a0 base listed a w) : IsBytes w w.heap.size X.Ab (X.b.take X.k) := h.ok.hb.take _
theorem g_move {c : Cls} {v : Value} (s : Nat) (h : a.eval (.tmp s) = v) {ty : TypeId} (hc : Has X w c v := by first | rfl | exact rfl) : Goes Tryz.prog a w (.move (.tmp s)) ty (fun v w' => Has X w' c v ∧ Below w.heap.size w w') := .inl ⟨_, w, x_move _ _ _ _, by rw [h]; exact hc, Below.refl _ _⟩
theorem g_assign {p : Nat} {ty : TypeId} (h : Has X w .ops (a.eval (.tmp p))) : Goes Tryz.prog a w (.assign (.tmp p)) ty (fun v w' => Has X w' .ops v ∧ Below w.heap.size w w') := .inl ⟨_, w, x_assign _ _ _ _, h, Below.refl _ _⟩
theorem x_cut {P : Program} (ρ : Operand → Value) (t : TypeId) (x y : Operand) (ty : TypeId) (v : Value) (w : World) (h : (Instr.sliceAt t (ρ x) none (some (ρ y)) none).run P w = .ok v w) : (execOp ρ (sop (.slice t x none (some y) none) ty)).run P w = .ok (.value v) w := by simp [execOp, sop, h]
theorem g_cut (hX : X.Ok w) (p q : Nat) {ty : TypeId} (hp : Has X w .vb (a.eval (.tmp p))) (hq : Has X w .vk (a.eval (.tmp q))) : Goes Tryz.prog a w (.slice 23 (.tmp p) none (some (.tmp q)) none) ty (fun v w' => Has X w' .cut v ∧ Below w.heap.size w w') := by
  have hp : a.eval (.tmp p) = .slice X.Ab X.b.length X.cb := hp
  have hq : a.eval (.tmp q) = .int .i64 X.k := hq
  refine .inl ⟨.slice X.Ab X.k X.cb, w, x_cut _ _ _ _ _ _ _ ?_, rfl, Below.refl _ _⟩
  rw [hp, hq]
  obtain ⟨h1, h2⟩ := hX.cb
  have h3 := hX.k
  have h4 : (0 : Int) ≤ (X.k : Int) := by omega
  have h5 : (X.k : Int) ≤ (X.cb : Int) := by omega
  go_simp
theorem g_bytes (l : List Nat) (n : Nat) (parts : Array (Nat × Operand)) {ty : TypeId} (hn : l.length = n) (hl : 0 < n ∧ n ≤ 100) (h8 : ∀ x ∈ l, x < 256)
    (hf : Instr.fill (fun i => some (i * 1, 1)) ((Array.range (n * 1)).map ((Value.int .u8 0).cells[· % (Value.int .u8 0).cells.size]!)) (parts.map fun (i, x) => (i, a.eval x)).toList = some (bytes l).toArray) :
    Goes Tryz.prog a w (.buildSlice 23 n parts) ty (fun v w' => Has X w' (.bytes n) v ∧ Below w.heap.size w w') :=
  Go.Proofs.YtdgijnolpjaheaaGreat.g_bytes (N := 0) l n parts hn hl h8 hf
theorem g_call (n : Nat) {ty : TypeId} (hn : n ≤ 100000) : Goes Tryz.prog a w (.call { callee := .value (.func 4), args := #[.const (Value.int IntKind.i64 (n : Nat))], argTypes := #[3] }) ty (fun v w' => Has X w' (.bytes n) v ∧ Below w.heap.size w w') :=
  Go.Proofs.YtdgijnolpjaheaaGreat.g_call (N := 0) n hn
theorem g_build {kd : Int} {p : Nat} (d : OpD) (hd : d.Ok w) (hk : d.t.kind = kd ∧ d.t.data.length = p) (parts : Array (Nat × Operand)) {ty : TypeId} (hb : Tryz.prog.built 25 (parts.map fun (i, x) => (i, a.eval x)).toList = some d.cells.toArray) (hl : d.t.lst.length = 0 := by rfl) :
    Goes Tryz.prog a w (.build 25 parts) ty (fun v w' => Has X w' (.op kd p) v ∧ Below w.heap.size w w') :=
  .inl ⟨_, w, x_build _ _ _ _ _ _ (run_build w _ _ _ hb), ⟨d, hd, ⟨hk.1, hk.2, hl⟩, rfl⟩, Below.refl _ _⟩
theorem g_ops (ds : List OpD) (hsh : (ds.map OpD.t).map (fun t => (t.kind, t.data.length, t.lst.length)) = [(0, 1, 0), (0, 50, 0), (3, X.c.length, 0), (9, 0, 0), (3, X.k, 0), (9, 0, 0)]) (hds : ∀ d ∈ ds, d.Ok w) (parts : Array (Nat × Operand)) {ty : TypeId}
    (hf : Instr.fill (fun i => some (i * 6, 6)) ((Array.range (6 * 6)).map ((Value.agg #[.int .i64 0, .int .i64 0, .int .i64 0, .int .i64 0, .slice none 0 0, .slice none 0 0]).cells[· % (Value.agg #[.int .i64 0, .int .i64 0, .int .i64 0, .int .i64 0, .slice none 0 0, .slice none 0 0]).cells.size]!)) (parts.map fun (i, x) => (i, a.eval x)).toList = some (ds.flatMap OpD.cells).toArray) :
    Goes Tryz.prog a w (.buildSlice 27 6 parts) ty (fun v w' => Has X w' .ops v ∧ Below w.heap.size w w') := by
  obtain ⟨i0, hi, hz0, hz1, hz2⟩ := info_parts info_op
  have hb : Below w.heap.size w (w.alloc (.cells (ds.flatMap OpD.cells).toArray 25)) := (Below.refl _ w).alloc (Nat.le_refl _) _
  refine .inl ⟨_, _, x_slice _ _ _ _ _ _ _ _ (run_buildSlice w 27 25 6 _ (ds.flatMap OpD.cells).toArray i0 _ (by kernel_rfl) hi hz0 (by rw [hz1]; omega) (by rw [hz1]; omega) (by rw [hz1]; exact hf)), ⟨w.heap.size, ds.map OpD.t, rfl, hsh, ⟨fun m hm => ⟨w.heap.size, 0, rfl, by simp, fun j hj => ?_⟩⟩⟩, hb⟩
  have hj' : j < ds.length := by simpa using hj
  have hok := (hds _ (List.getElem_mem hj')).below hb
  have hc : ∀ r, r < 6 → (w.alloc (.cells (ds.flatMap OpD.cells).toArray 25)).cell? ⟨w.heap.size, 0 + j * 6 + r, none⟩ = ds[j].cells[r]? := fun r hr => by
    rw [World.cell?_alloc_new]
    rw [List.getElem?_toArray, Nat.zero_add, flatOp_get ds j r hj' hr]
  have e : (ds.map OpD.t)[j] = ds[j].t := by simp
  rw [e]
  exact ⟨ds[j].ap, ds[j].cp, ds[j].al, ds[j].cl, hc 0 (by omega), hc 1 (by omega), hc 2 (by omega), hc 3 (by omega), hc 4 (by omega), hc 5 (by omega), hok.p, hok.l, hok.cp, hok.np, hok.a, hok.n⟩
end

theorem st0 {X : P} {a0 : Act} {base w : World} {listed : Array Bool} {a : Act} (_hJ : J X a0 base listed a w) (_hon : ∀ m ∈ ([] : List Nat), listed.getD m false = true) : Goes Tryz.prog a w (.buildSlice 23 1 #[(0, .const (Value.int IntKind.u8 9))]) 23 (fun v w' => Has X w' (.bytes 1) v ∧ Below w.heap.size w w') := by
  exact g_bytes [9] 1 _ rfl (by decide) (by decide) (by simp only [List.map_toArray, List.map_cons, List.map_nil, ev_const]; kernel_rfl)
theorem st1 {X : P} {a0 : Act} {base w : World} {listed : Array Bool} {a : Act} (hJ : J X a0 base listed a w) (hon : ∀ m ∈ ([0] : List Nat), listed.getD m false = true) : Goes Tryz.prog a w (.build 25 #[(1, .const (Value.int IntKind.i64 1)), (2, .const (Value.int IntKind.i64 3)), (3, .const (Value.int IntKind.i64 4)), (4, .tmp 42)]) 25 (fun v w' => Has X w' (.op 0 1) v ∧ Below w.heap.size w w') := by
  obtain ⟨A4, c4, l4, q4, e4, h4, g4, n4⟩ : Has X w (.bytes 1) (a.eval (.tmp 42)) := hJ.done 0 (by omega) (hon 0 (by simp))
  exact g_build ⟨⟨0, 1, 3, 4, l4, []⟩, A4, c4, none, 0⟩ ⟨h4, IsInts.nil, g4, n4, (show InInt 1 by unfold InInt; omega), (show InInt 3 by unfold InInt; omega)⟩ ⟨rfl, q4⟩ _ (by simp only [List.map_toArray, List.map_cons, List.map_nil, e4, ev_const]; kernel_rfl)
theorem st2 {X : P} {a0 : Act} {base w : World} {listed : Array Bool} {a : Act} (_hJ : J X a0 base listed a w) (_hon : ∀ m ∈ ([] : List Nat), listed.getD m false = true) : Goes Tryz.prog a w (.call { callee := .value (.func 4), args := #[.const (Value.int IntKind.i64 50)], argTypes := #[3] }) 23 (fun v w' => Has X w' (.bytes 50) v ∧ Below w.heap.size w w') := by
  exact g_call 50 (by omega)
theorem st3 {X : P} {a0 : Act} {base w : World} {listed : Array Bool} {a : Act} (hJ : J X a0 base listed a w) (hon : ∀ m ∈ ([2] : List Nat), listed.getD m false = true) : Goes Tryz.prog a w (.build 25 #[(1, .const (Value.int IntKind.i64 1)), (2, .const (Value.int IntKind.i64 3)), (3, .const (Value.int IntKind.i64 5)), (4, .tmp 44)]) 25 (fun v w' => Has X w' (.op 0 50) v ∧ Below w.heap.size w w') := by
  obtain ⟨A4, c4, l4, q4, e4, h4, g4, n4⟩ : Has X w (.bytes 50) (a.eval (.tmp 44)) := hJ.done 2 (by omega) (hon 2 (by simp))
  exact g_build ⟨⟨0, 1, 3, 5, l4, []⟩, A4, c4, none, 0⟩ ⟨h4, IsInts.nil, g4, n4, (show InInt 1 by unfold InInt; omega), (show InInt 3 by unfold InInt; omega)⟩ ⟨rfl, q4⟩ _ (by simp only [List.map_toArray, List.map_cons, List.map_nil, e4, ev_const]; kernel_rfl)
theorem st4 {X : P} {a0 : Act} {base w : World} {listed : Array Bool} {a : Act} (hJ : J X a0 base listed a w) (_hon : ∀ m ∈ ([] : List Nat), listed.getD m false = true) : Goes Tryz.prog a w (.move (.tmp 3)) 3 (fun v w' => Has X w' .vi v ∧ Below w.heap.size w w') := by
  exact g_move 3 hJ.s3
theorem st5 {X : P} {a0 : Act} {base w : World} {listed : Array Bool} {a : Act} (hJ : J X a0 base listed a w) (_hon : ∀ m ∈ ([] : List Nat), listed.getD m false = true) : Goes Tryz.prog a w (.move (.tmp 7)) 23 (fun v w' => Has X w' .vc v ∧ Below w.heap.size w w') := by
  exact g_move 7 hJ.s7
theorem st6 {X : P} {a0 : Act} {base w : World} {listed : Array Bool} {a : Act} (hJ : J X a0 base listed a w) (hon : ∀ m ∈ ([4, 5] : List Nat), listed.getD m false = true) : Goes Tryz.prog a w (.build 25 #[(0, .const (Value.int IntKind.i64 3)), (1, .tmp 46), (4, .tmp 47)]) 25 (fun v w' => Has X w' (.op 3 X.c.length) v ∧ Below w.heap.size w w') := by
  have e1 : Has X w .vi (a.eval (.tmp 46)) := hJ.done 4 (by omega) (hon 4 (by simp))
  have e1 : a.eval (.tmp 46) = .int .i64 X.i := e1
  have e4 : Has X w .vc (a.eval (.tmp 47)) := hJ.done 5 (by omega) (hon 5 (by simp))
  have e4 : a.eval (.tmp 47) = .slice X.Ac X.c.length X.cc := e4
  exact g_build ⟨⟨3, X.i, 0, 0, X.c, []⟩, X.Ac, X.cc, none, 0⟩ ⟨hJ.okc, IsInts.nil, hJ.ok.cc, hJ.ok.cz, hJ.ok.i, (show InInt 0 by unfold InInt; omega)⟩ ⟨rfl, rfl⟩ _ (by simp only [List.map_toArray, List.map_cons, List.map_nil, e1, e4, ev_const]; kernel_rfl)
theorem st7 {X : P} {a0 : Act} {base w : World} {listed : Array Bool} {a : Act} (_hJ : J X a0 base listed a w) (_hon : ∀ m ∈ ([] : List Nat), listed.getD m false = true) : Goes Tryz.prog a w (.build 25 #[(0, .const (Value.int IntKind.i64 9)), (1, .const (Value.int IntKind.i64 1)), (2, .const (Value.int IntKind.i64 3))]) 25 (fun v w' => Has X w' (.op 9 0) v ∧ Below w.heap.size w w') := by
  exact g_build ⟨⟨9, 1, 3, 0, [], []⟩, none, 0, none, 0⟩ ⟨IsBytes.nil, IsInts.nil, nil_cap, (fun _ => rfl), (show InInt 1 by unfold InInt; omega), (show InInt 3 by unfold InInt; omega)⟩ ⟨rfl, rfl⟩ _ (by simp only [List.map_toArray, List.map_cons, List.map_nil, ev_const]; kernel_rfl)
theorem st8 {X : P} {a0 : Act} {base w : World} {listed : Array Bool} {a : Act} (hJ : J X a0 base listed a w) (_hon : ∀ m ∈ ([] : List Nat), listed.getD m false = true) : Goes Tryz.prog a w (.move (.tmp 3)) 3 (fun v w' => Has X w' .vi v ∧ Below w.heap.size w w') := by
  exact g_move 3 hJ.s3
theorem st9 {X : P} {a0 : Act} {base w : World} {listed : Array Bool} {a : Act} (hJ : J X a0 base listed a w) (_hon : ∀ m ∈ ([] : List Nat), listed.getD m false = true) : Goes Tryz.prog a w (.move (.tmp 4)) 23 (fun v w' => Has X w' .vb v ∧ Below w.heap.size w w') := by
  exact g_move 4 hJ.s4
theorem st10 {X : P} {a0 : Act} {base w : World} {listed : Array Bool} {a : Act} (hJ : J X a0 base listed a w) (_hon : ∀ m ∈ ([] : List Nat), listed.getD m false = true) : Goes Tryz.prog a w (.move (.tmp 6)) 3 (fun v w' => Has X w' .vk v ∧ Below w.heap.size w w') := by
  exact g_move 6 hJ.s6
theorem st11 {X : P} {a0 : Act} {base w : World} {listed : Array Bool} {a : Act} (hJ : J X a0 base listed a w) (hon : ∀ m ∈ ([9, 10] : List Nat), listed.getD m false = true) : Goes Tryz.prog a w (.slice 23 (.tmp 51) none (some (.tmp 52)) none) 23 (fun v w' => Has X w' .cut v ∧ Below w.heap.size w w') := by
  exact g_cut hJ.ok 51 52 (hJ.done 9 (by omega) (hon 9 (by simp))) (hJ.done 10 (by omega) (hon 10 (by simp)))
theorem st12 {X : P} {a0 : Act} {base w : World} {listed : Array Bool} {a : Act} (hJ : J X a0 base listed a w) (hon : ∀ m ∈ ([8, 11] : List Nat), listed.getD m false = true) : Goes Tryz.prog a w (.build 25 #[(0, .const (Value.int IntKind.i64 3)), (1, .tmp 50), (4, .tmp 53)]) 25 (fun v w' => Has X w' (.op 3 X.k) v ∧ Below w.heap.size w w') := by
  have e1 : Has X w .vi (a.eval (.tmp 50)) := hJ.done 8 (by omega) (hon 8 (by simp))
  have e1 : a.eval (.tmp 50) = .int .i64 X.i := e1
  have e4 : Has X w .cut (a.eval (.tmp 53)) := hJ.done 11 (by omega) (hon 11 (by simp))
  have e4 : a.eval (.tmp 53) = .slice X.Ab X.k X.cb := e4
  rw [← hJ.ok.len] at e4
  exact g_build ⟨⟨3, X.i, 0, 0, (X.b.take X.k), []⟩, X.Ab, X.cb, none, 0⟩ ⟨hJ.okb, IsInts.nil, hJ.ok.cut, hJ.ok.bz, hJ.ok.i, (show InInt 0 by unfold InInt; omega)⟩ ⟨rfl, hJ.ok.len⟩ _ (by simp only [List.map_toArray, List.map_cons, List.map_nil, e1, e4, ev_const]; kernel_rfl)
theorem st13 {X : P} {a0 : Act} {base w : World} {listed : Array Bool} {a : Act} (_hJ : J X a0 base listed a w) (_hon : ∀ m ∈ ([] : List Nat), listed.getD m false = true) : Goes Tryz.prog a w (.build 25 #[(0, .const (Value.int IntKind.i64 9)), (1, .const (Value.int IntKind.i64 1)), (2, .const (Value.int IntKind.i64 3))]) 25 (fun v w' => Has X w' (.op 9 0) v ∧ Below w.heap.size w w') := by
  exact g_build ⟨⟨9, 1, 3, 0, [], []⟩, none, 0, none, 0⟩ ⟨IsBytes.nil, IsInts.nil, nil_cap, (fun _ => rfl), (show InInt 1 by unfold InInt; omega), (show InInt 3 by unfold InInt; omega)⟩ ⟨rfl, rfl⟩ _ (by simp only [List.map_toArray, List.map_cons, List.map_nil, ev_const]; kernel_rfl)
theorem st14 {X : P} {a0 : Act} {base w : World} {listed : Array Bool} {a : Act} (hJ : J X a0 base listed a w) (hon : ∀ m ∈ ([1, 3, 6, 7, 12, 13] : List Nat), listed.getD m false = true) : Goes Tryz.prog a w (.buildSlice 27 6 #[(0, .tmp 43), (1, .tmp 45), (2, .tmp 48), (3, .tmp 49), (4, .tmp 54), (5, .tmp 55)]) 27 (fun v w' => Has X w' .ops v ∧ Below w.heap.size w w') := by
  obtain ⟨d0, hd0, hk0, e0⟩ : Has X w (.op 0 1) (a.eval (.tmp 43)) := hJ.done 1 (by omega) (hon 1 (by simp))
  obtain ⟨d1, hd1, hk1, e1⟩ : Has X w (.op 0 50) (a.eval (.tmp 45)) := hJ.done 3 (by omega) (hon 3 (by simp))
  obtain ⟨d2, hd2, hk2, e2⟩ : Has X w (.op 3 X.c.length) (a.eval (.tmp 48)) := hJ.done 6 (by omega) (hon 6 (by simp))
  obtain ⟨d3, hd3, hk3, e3⟩ : Has X w (.op 9 0) (a.eval (.tmp 49)) := hJ.done 7 (by omega) (hon 7 (by simp))
  obtain ⟨d4, hd4, hk4, e4⟩ : Has X w (.op 3 X.k) (a.eval (.tmp 54)) := hJ.done 12 (by omega) (hon 12 (by simp))
  obtain ⟨d5, hd5, hk5, e5⟩ : Has X w (.op 9 0) (a.eval (.tmp 55)) := hJ.done 13 (by omega) (hon 13 (by simp))
  exact g_ops [d0, d1, d2, d3, d4, d5] (by simp only [List.map_cons, List.map_nil, hk0.1, hk0.2, hk1.1, hk1.2, hk2.1, hk2.2, hk3.1, hk3.2, hk4.1, hk4.2, hk5.1, hk5.2]) (by intro d hd; simp only [List.mem_cons, List.not_mem_nil, or_false] at hd; rcases hd with rfl | rfl | rfl | rfl | rfl | rfl <;> assumption) _ (by simp only [List.map_toArray, List.map_cons, List.map_nil, e0, e1, e2, e3, e4, e5]; kernel_rfl)
theorem st15 {X : P} {a0 : Act} {base w : World} {listed : Array Bool} {a : Act} (hJ : J X a0 base listed a w) (hon : ∀ m ∈ ([14] : List Nat), listed.getD m false = true) : Goes Tryz.prog a w (.assign (.tmp 56)) 27 (fun v w' => Has X w' .ops v ∧ Below w.heap.size w w') := by
  exact g_assign (hJ.done 14 (by omega) (hon 14 (by simp)) : Has X w .ops (a.eval (.tmp 56)))
def tbl : List (Option Tmp × Op × TypeId × Option (Nat × Bool) × List Nat) := [
  (some 42, .buildSlice 23 1 #[(0, .const (Value.int IntKind.u8 9))], 23, none, []),
  (some 43, .build 25 #[(1, .const (Value.int IntKind.i64 1)), (2, .const (Value.int IntKind.i64 3)), (3, .const (Value.int IntKind.i64 4)), (4, .tmp 42)], 25, none, [0]),
  (some 44, .call { callee := .value (.func 4), args := #[.const (Value.int IntKind.i64 50)], argTypes := #[3] }, 23, none, []),
  (some 45, .build 25 #[(1, .const (Value.int IntKind.i64 1)), (2, .const (Value.int IntKind.i64 3)), (3, .const (Value.int IntKind.i64 5)), (4, .tmp 44)], 25, none, [2]),
  (some 46, .move (.tmp 3), 3, none, []),
  (some 47, .move (.tmp 7), 23, none, []),
  (some 48, .build 25 #[(0, .const (Value.int IntKind.i64 3)), (1, .tmp 46), (4, .tmp 47)], 25, none, [4, 5]),
  (some 49, .build 25 #[(0, .const (Value.int IntKind.i64 9)), (1, .const (Value.int IntKind.i64 1)), (2, .const (Value.int IntKind.i64 3))], 25, none, []),
  (some 50, .move (.tmp 3), 3, none, []),
  (some 51, .move (.tmp 4), 23, none, []),
  (some 52, .move (.tmp 6), 3, none, []),
  (some 53, .slice 23 (.tmp 51) none (some (.tmp 52)) none, 23, none, [9, 10]),
  (some 54, .build 25 #[(0, .const (Value.int IntKind.i64 3)), (1, .tmp 50), (4, .tmp 53)], 25, none, [8, 11]),
  (some 55, .build 25 #[(0, .const (Value.int IntKind.i64 9)), (1, .const (Value.int IntKind.i64 1)), (2, .const (Value.int IntKind.i64 3))], 25, none, []),
  (some 56, .buildSlice 27 6 #[(0, .tmp 43), (1, .tmp 45), (2, .tmp 48), (3, .tmp 49), (4, .tmp 54), (5, .tmp 55)], 27, none, [1, 3, 6, 7, 12, 13]),
  (some 8, .assign (.tmp 56), 27, none, [14, 2, 0, 1, 2, 3, 4, 5, 6, 7, 8, 9, 10, 11, 12, 13, 14])
]
def StOk (X : P) (a0 : Act) (base : World) (j : Nat) (s : Option Tmp × Op × TypeId × Option (Nat × Bool) × List Nat) : Prop := s.1 = some (dst j) ∧ s.2.2.2.1 = none ∧ (∀ m ∈ s.2.2.2.2, m < j) ∧ ∀ listed a w, J X a0 base listed a w → (∀ m ∈ s.2.2.2.2, listed.getD m false = true) → Goes Tryz.prog a w s.2.1 s.2.2.1 (fun v w' => Has X w' (cls X j) v ∧ Below w.heap.size w w')
set_option maxRecDepth 100000 in
theorem tbl_ok {X : P} {a0 : Act} {base : World} : AllFrom (StOk X a0 base) 0 tbl := ⟨
  ⟨rfl, rfl, by decide, fun listed a w hJ hon => st0 hJ hon⟩,
  ⟨rfl, rfl, by decide, fun listed a w hJ hon => st1 hJ hon⟩,
  ⟨rfl, rfl, by decide, fun listed a w hJ hon => st2 hJ hon⟩,
  ⟨rfl, rfl, by decide, fun listed a w hJ hon => st3 hJ hon⟩,
  ⟨rfl, rfl, by decide, fun listed a w hJ hon => st4 hJ hon⟩,
  ⟨rfl, rfl, by decide, fun listed a w hJ hon => st5 hJ hon⟩,
  ⟨rfl, rfl, by decide, fun listed a w hJ hon => st6 hJ hon⟩,
  ⟨rfl, rfl, by decide, fun listed a w hJ hon => st7 hJ hon⟩,
  ⟨rfl, rfl, by decide, fun listed a w hJ hon => st8 hJ hon⟩,
  ⟨rfl, rfl, by decide, fun listed a w hJ hon => st9 hJ hon⟩,
  ⟨rfl, rfl, by decide, fun listed a w hJ hon => st10 hJ hon⟩,
  ⟨rfl, rfl, by decide, fun listed a w hJ hon => st11 hJ hon⟩,
  ⟨rfl, rfl, by decide, fun listed a w hJ hon => st12 hJ hon⟩,
  ⟨rfl, rfl, by decide, fun listed a w hJ hon => st13 hJ hon⟩,
  ⟨rfl, rfl, by decide, fun listed a w hJ hon => st14 hJ hon⟩,
  ⟨rfl, rfl, by decide, fun listed a w hJ hon => st15 hJ (fun m hm => hon m (by simp at hm; subst hm; decide))⟩,
  trivial⟩
/-- the region: in whatever order -/
theorem region8 {X : P} {a0 : Act} {base w : World} {ops : Array Oper} {id : Nat} {Q : Exit → Act → World → Prop} {a : Act} (hops : ops.toList.map skel = tbl)
    (hJ : J X a0 base (Array.replicate ops.size false) a w.drew) (hQ : ∀ a w, J X a0 base (Array.replicate 16 true) a w → Q .normal a w) : (Code.region id ops true).wp Tryz.prog Q a w := by
  have hsize : ops.size = 16 := by
    have := congrArg List.length hops
    simpa [tbl] using this
  have hat : ∀ (j : Nat) (o : Oper), ops[j]? = some o → StOk X a0 base j (skel o) := fun j o ho => by
    have h1 : tbl[j]? = some (skel o) := by rw [← hops, List.getElem?_map, Array.getElem?_toList, ho]; rfl
    have := AllFrom.get (tbl_ok (X := X) (a0 := a0) (base := base)) j _ h1
    rwa [Nat.zero_add] at this
  have hon : ∀ (o : Oper) (e : Edge), e ∈ o.after → Region.binds .any e = true → e.on ∈ (skel o).2.2.2.2 := fun o e he hb => by
    refine List.mem_map.2 ⟨e, List.mem_filter.2 ⟨by simpa using he, hb⟩, rfl⟩
  refine wp_region_inv (by kernel_rfl) (J X a0 base) hJ ?_ ?_
  · intro listed a w j o hJ ho h0 ha
    obtain ⟨h1, h2, h3, h4⟩ := hat j o ho
    have hj : j < 16 := by rw [← hsize]; exact (Array.getElem?_eq_some_iff.1 ho).1
    refine Goes.wpOp ho h2 (h4 listed a w hJ (fun m hm => ?_)) (fun v w' hv => ?_)
    · obtain ⟨e, he, rfl⟩ := List.mem_map.1 hm
      obtain ⟨he1, he2⟩ := List.mem_filter.1 he
      exact ha e (by simpa using he1) he2
    · have h1 : o.dst = some (dst j) := h1
      rw [h1]
      exact hJ.put j hj v hv.2 hv.1
  · intro listed a w hJ hr
    have hall := all_listed (by rw [hJ.lsize, hsize]) (fun j o ho e he hb => (hat j o ho).2.2.1 _ (hon o e he hb)) hr
    refine hQ a w ⟨hJ.size, hJ.defers, hJ.keep, hJ.s3, hJ.s7, hJ.s4, hJ.s6, hJ.ok0, by simp, hJ.bel, fun j hj _ => hJ.done j hj (hall j (by omega))⟩

/-- .. from a frame that is written out to such a one -/
theorem region12L {v0 v1 v2 v3 v4 v5 v6 v7 v8 v9 v10 v11 v12 v13 v14 v15 v16 v17 v18 v19 v20 v21 v22 v23 v24 v25 v26 v27 v28 v29 v30 v31 v32 v33 v34 v35 v36 v37 v38 v39 v40 v41 v42 v43 v44 v45 v46 v47 v48 v49 v50 v51 v52 v53 v54 v55 v56 v57 v58 v59 : Value} {X : P} {base w : World} {ops : Array Oper} {id : Nat} {Q : Exit → Act → World → Prop} (hX : X.Ok base) (hops : ops.toList.map skel = tbl)
    (h3 : v3 = .int .i64 X.i) (h7 : v7 = .slice X.Ac X.c.length X.cc) (h4 : v4 = .slice X.Ab X.b.length X.cb) (h6 : v6 = .int .i64 X.k) (hb : Below base.heap.size base w)
    (hQ : ∀ (u : Nat → Value) (g : Nat) (ts : List Ck.Op) (w' : World), Shape6 X ts → Ck.IsOps w' w'.heap.size (some ⟨g, 0, none⟩) ts → Below base.heap.size base w' → Q .normal ⟨#[v0, v1, v2, v3, v4, v5, v6, v7, .slice (some ⟨g, 0, none⟩) 6 6, v9, v10, v11, v12, v13, v14, v15, v16, v17, v18, v19, v20, v21, v22, v23, v24, v25, v26, v27, v28, v29, v30, v31, v32, v33, v34, v35, v36, v37, v38, v39, v40, v41, u 42, u 43, u 44, u 45, u 46, u 47, u 48, u 49, u 50, u 51, u 52, u 53, u 54, u 55, u 56, v57, v58, v59], []⟩ w') :
    (Code.region id ops true).wp Tryz.prog Q ⟨#[v0, v1, v2, v3, v4, v5, v6, v7, v8, v9, v10, v11, v12, v13, v14, v15, v16, v17, v18, v19, v20, v21, v22, v23, v24, v25, v26, v27, v28, v29, v30, v31, v32, v33, v34, v35, v36, v37, v38, v39, v40, v41, v42, v43, v44, v45, v46, v47, v48, v49, v50, v51, v52, v53, v54, v55, v56, v57, v58, v59], []⟩ w := by
  have hm : ops.size = 16 := by
    have := congrArg List.length hops
    simpa [tbl] using this
  refine region8 (X := X) (a0 := ⟨#[v0, v1, v2, v3, v4, v5, v6, v7, v8, v9, v10, v11, v12, v13, v14, v15, v16, v17, v18, v19, v20, v21, v22, v23, v24, v25, v26, v27, v28, v29, v30, v31, v32, v33, v34, v35, v36, v37, v38, v39, v40, v41, v42, v43, v44, v45, v46, v47, v48, v49, v50, v51, v52, v53, v54, v55, v56, v57, v58, v59], []⟩) hops ⟨rfl, rfl, fun s _ => rfl, h3, h7, h4, h6, hX, by simp [hm], hb.drew, fun j hj h => by
    rw [Array.getD_eq_getD_getElem?, Array.getElem?_replicate] at h
    split at h <;> cases h⟩ (fun a wz hJ => ?_)
  obtain ⟨g, ts, e4, hts, hops⟩ : Has X wz .ops (a.eval (.tmp 8)) := hJ.done 15 (by omega) (by simp)
  have hkp : ∀ s : Nat, s ≠ 8 → (s < 42 ∨ 56 < s) → a.eval (.tmp s) = Act.eval ⟨#[v0, v1, v2, v3, v4, v5, v6, v7, v8, v9, v10, v11, v12, v13, v14, v15, v16, v17, v18, v19, v20, v21, v22, v23, v24, v25, v26, v27, v28, v29, v30, v31, v32, v33, v34, v35, v36, v37, v38, v39, v40, v41, v42, v43, v44, v45, v46, v47, v48, v49, v50, v51, v52, v53, v54, v55, v56, v57, v58, v59], []⟩ (.tmp s) := fun s h4 hs => hJ.keep s (fun j hj => by unfold dst; split <;> omega)
  have k0 : a.eval (.tmp 0) = v0 := hkp 0 (by decide) (by decide)
  have k1 : a.eval (.tmp 1) = v1 := hkp 1 (by decide) (by decide)
  have k2 : a.eval (.tmp 2) = v2 := hkp 2 (by decide) (by decide)
  have k3 : a.eval (.tmp 3) = v3 := hkp 3 (by decide) (by decide)
  have k4 : a.eval (.tmp 4) = v4 := hkp 4 (by decide) (by decide)
  have k5 : a.eval (.tmp 5) = v5 := hkp 5 (by decide) (by decide)
  have k6 : a.eval (.tmp 6) = v6 := hkp 6 (by decide) (by decide)
  have k7 : a.eval (.tmp 7) = v7 := hkp 7 (by decide) (by decide)
  have k9 : a.eval (.tmp 9) = v9 := hkp 9 (by decide) (by decide)
  have k10 : a.eval (.tmp 10) = v10 := hkp 10 (by decide) (by decide)
  have k11 : a.eval (.tmp 11) = v11 := hkp 11 (by decide) (by decide)
  have k12 : a.eval (.tmp 12) = v12 := hkp 12 (by decide) (by decide)
  have k13 : a.eval (.tmp 13) = v13 := hkp 13 (by decide) (by decide)
  have k14 : a.eval (.tmp 14) = v14 := hkp 14 (by decide) (by decide)
  have k15 : a.eval (.tmp 15) = v15 := hkp 15 (by decide) (by decide)
  have k16 : a.eval (.tmp 16) = v16 := hkp 16 (by decide) (by decide)
  have k17 : a.eval (.tmp 17) = v17 := hkp 17 (by decide) (by decide)
  have k18 : a.eval (.tmp 18) = v18 := hkp 18 (by decide) (by decide)
  have k19 : a.eval (.tmp 19) = v19 := hkp 19 (by decide) (by decide)
  have k20 : a.eval (.tmp 20) = v20 := hkp 20 (by decide) (by decide)
  have k21 : a.eval (.tmp 21) = v21 := hkp 21 (by decide) (by decide)
  have k22 : a.eval (.tmp 22) = v22 := hkp 22 (by decide) (by decide)
  have k23 : a.eval (.tmp 23) = v23 := hkp 23 (by decide) (by decide)
  have k24 : a.eval (.tmp 24) = v24 := hkp 24 (by decide) (by decide)
  have k25 : a.eval (.tmp 25) = v25 := hkp 25 (by decide) (by decide)
  have k26 : a.eval (.tmp 26) = v26 := hkp 26 (by decide) (by decide)
  have k27 : a.eval (.tmp 27) = v27 := hkp 27 (by decide) (by decide)
  have k28 : a.eval (.tmp 28) = v28 := hkp 28 (by decide) (by decide)
  have k29 : a.eval (.tmp 29) = v29 := hkp 29 (by decide) (by decide)
  have k30 : a.eval (.tmp 30) = v30 := hkp 30 (by decide) (by decide)
  have k31 : a.eval (.tmp 31) = v31 := hkp 31 (by decide) (by decide)
  have k32 : a.eval (.tmp 32) = v32 := hkp 32 (by decide) (by decide)
  have k33 : a.eval (.tmp 33) = v33 := hkp 33 (by decide) (by decide)
  have k34 : a.eval (.tmp 34) = v34 := hkp 34 (by decide) (by decide)
  have k35 : a.eval (.tmp 35) = v35 := hkp 35 (by decide) (by decide)
  have k36 : a.eval (.tmp 36) = v36 := hkp 36 (by decide) (by decide)
  have k37 : a.eval (.tmp 37) = v37 := hkp 37 (by decide) (by decide)
  have k38 : a.eval (.tmp 38) = v38 := hkp 38 (by decide) (by decide)
  have k39 : a.eval (.tmp 39) = v39 := hkp 39 (by decide) (by decide)
  have k40 : a.eval (.tmp 40) = v40 := hkp 40 (by decide) (by decide)
  have k41 : a.eval (.tmp 41) = v41 := hkp 41 (by decide) (by decide)
  have k57 : a.eval (.tmp 57) = v57 := hkp 57 (by decide) (by decide)
  have k58 : a.eval (.tmp 58) = v58 := hkp 58 (by decide) (by decide)
  have k59 : a.eval (.tmp 59) = v59 := hkp 59 (by decide) (by decide)
  have hs := hJ.size
  have hd := hJ.defers
  have hbz := hJ.bel
  clear hJ hkp
  have hl : a.tmps.toList = (List.range 60).map (fun n => a.eval (.tmp n)) := by
    refine List.ext_getElem (by simp [hs]) (fun n h1 h2 => ?_)
    have h3 : n < a.tmps.size := by simpa using h1
    simp [Act.eval, h3]
  have h2 : (List.range 60).map (fun n => a.eval (.tmp n)) = [a.eval (.tmp 0), a.eval (.tmp 1), a.eval (.tmp 2), a.eval (.tmp 3), a.eval (.tmp 4), a.eval (.tmp 5), a.eval (.tmp 6), a.eval (.tmp 7), a.eval (.tmp 8), a.eval (.tmp 9), a.eval (.tmp 10), a.eval (.tmp 11), a.eval (.tmp 12), a.eval (.tmp 13), a.eval (.tmp 14), a.eval (.tmp 15), a.eval (.tmp 16), a.eval (.tmp 17), a.eval (.tmp 18), a.eval (.tmp 19), a.eval (.tmp 20), a.eval (.tmp 21), a.eval (.tmp 22), a.eval (.tmp 23), a.eval (.tmp 24), a.eval (.tmp 25), a.eval (.tmp 26), a.eval (.tmp 27), a.eval (.tmp 28), a.eval (.tmp 29), a.eval (.tmp 30), a.eval (.tmp 31), a.eval (.tmp 32), a.eval (.tmp 33), a.eval (.tmp 34), a.eval (.tmp 35), a.eval (.tmp 36), a.eval (.tmp 37), a.eval (.tmp 38), a.eval (.tmp 39), a.eval (.tmp 40), a.eval (.tmp 41), a.eval (.tmp 42), a.eval (.tmp 43), a.eval (.tmp 44), a.eval (.tmp 45), a.eval (.tmp 46), a.eval (.tmp 47), a.eval (.tmp 48), a.eval (.tmp 49), a.eval (.tmp 50), a.eval (.tmp 51), a.eval (.tmp 52), a.eval (.tmp 53), a.eval (.tmp 54), a.eval (.tmp 55), a.eval (.tmp 56), a.eval (.tmp 57), a.eval (.tmp 58), a.eval (.tmp 59)] := by kernel_rfl
  rw [h2, k0, k1, k2, k3, k4, k5, k6, k7, k9, k10, k11, k12, k13, k14, k15, k16, k17, k18, k19, k20, k21, k22, k23, k24, k25, k26, k27, k28, k29, k30, k31, k32, k33, k34, k35, k36, k37, k38, k39, k40, k41, k57, k58, k59, e4] at hl
  have hQ' := hQ (fun n => a.eval (.tmp n)) g ts wz hts hops hbz
  obtain ⟨tmps, defers⟩ := a
  have hd : defers = [] := hd
  subst hd
  have h3 : tmps = (tmps.toList).toArray := by simp
  have hl : tmps.toList = _ := hl
  rw [hl] at h3
  rw [h3]
  rw [h3] at hQ'
  exact hQ'
end KT
end Go.Proofs.YtdgijnolpjaheaaGreat
