/- A message that lies in a block of its own: read and written as a whole, not cell by cell. -/
import Derived.Test.YtmaebemhephcmaaDoorMsC
import Derived.Test.YtmaebemhephcmaaDoorReader
import Derived.Deep.WholeRow
namespace Go.Proofs.YtmaebemhephcmaaDoor.Ms
open Go.RowKit
set_option maxRecDepth 100000

/-- the box of a message: its cells -/
structure Bx (w : World) (b : Nat) (m : M) (A : Option Addr) (c : Nat) (A' : Option Addr) (c' : Nat) : Prop where
  row : w.heap[b]? = some (.cells #[.int .i64 m.K, .int .i64 m.F, .int .i64 m.T, .int .i64 m.g, .int .i64 m.t, .int .i64 m.i, .int .i64 m.p, .int .i64 m.c, .int .i64 m.r, .int .i64 m.x, .int .i64 m.a, .int .i64 m.b, .int .i64 m.v, .int .i64 m.s, .bool m.ok, .slice A m.es.length c, .slice A' m.d.length c'] 25 (0, 0))
theorem Bx.below {w w' : World} {B b : Nat} {m : M} {A A' : Option Addr} {c c' : Nat} (h : Bx w b m A c A' c') (hb : Below B w w') (hB : b < B) : Bx w' b m A c A' c' := ⟨(hb.block b hB).trans h.row⟩
theorem Bx.cell {w : World} {b : Nat} {m : M} {A A' : Option Addr} {c c' : Nat} (h : Bx w b m A c A' c') (i : Nat) : w.cell? ⟨b, i, none⟩ = (#[.int .i64 m.K, .int .i64 m.F, .int .i64 m.T, .int .i64 m.g, .int .i64 m.t, .int .i64 m.i, .int .i64 m.p, .int .i64 m.c, .int .i64 m.r, .int .i64 m.x, .int .i64 m.a, .int .i64 m.b, .int .i64 m.v, .int .i64 m.s, .bool m.ok, .slice A m.es.length c, .slice A' m.d.length c'] : Array Value)[i]? := cell_of_row w b i _ _ (0, 0) h.row
theorem Bx.c0 {w : World} {b : Nat} {m : M} {A A' : Option Addr} {c c' : Nat} (h : Bx w b m A c A' c') : w.cell? ⟨b, 0, none⟩ = some (.int .i64 m.K) := h.cell 0
theorem Bx.c14 {w : World} {b : Nat} {m : M} {A A' : Option Addr} {c c' : Nat} (h : Bx w b m A c A' c') : w.cell? ⟨b, 14, none⟩ = some (.bool m.ok) := h.cell 14
theorem Bx.c15 {w : World} {b : Nat} {m : M} {A A' : Option Addr} {c c' : Nat} (h : Bx w b m A c A' c') : w.cell? ⟨b, 15, none⟩ = some (.slice A m.es.length c) := h.cell 15
theorem Bx.c16 {w : World} {b : Nat} {m : M} {A A' : Option Addr} {c c' : Nat} (h : Bx w b m A c A' c') : w.cell? ⟨b, 16, none⟩ = some (.slice A' m.d.length c') := h.cell 16
/-- a whole message, read and written: words that the walk doesn't open -/
def ldMsg (a : Value) : Sem Value := Instr.loadAt 25 a
def stMsg (a v : Value) : Sem Unit := Instr.storeAt 25 a v
theorem loadAt_msg (a : Value) : Instr.loadAt 25 a = ldMsg a := rfl
theorem storeAt_msg (a v : Value) : Instr.storeAt 25 a v = stMsg a v := rfl
theorem info_msg : (Tryd.prog.info? 25).map (·.size) = some 17 := by kernel_rfl
theorem ld_row (w : World) (b : Nat) (cs : Array Value) (t : TypeId) (fr : Nat × Nat) (hg : w.heap[b]? = some (.cells cs t fr)) (h : cs.size = 17) : (ldMsg (.pointer (some ⟨b, 0, none⟩))).run Tryd.prog w = .ok (.agg cs) w :=
  run_loadVar_row w b t 25 cs fr _ hg Tryd.underlying25 rfl (by rw [info_msg, h])
theorem ld_new (w : World) (t : TypeId) (cs : Array Value) (h : cs.size = 17) : (ldMsg (.pointer (some ⟨w.heap.size, 0, none⟩))).run Tryd.prog (w.alloc (.cells cs t)) = .ok (.agg cs) (w.alloc (.cells cs t)) :=
  ld_row _ _ cs t (0, 0) (heap_alloc_new w _) h
theorem Bx.load {w : World} {b : Nat} {m : M} {A A' : Option Addr} {c c' : Nat} (h : Bx w b m A c A' c') : (ldMsg (.pointer (some ⟨b, 0, none⟩))).run Tryd.prog w = .ok (.agg #[.int .i64 m.K, .int .i64 m.F, .int .i64 m.T, .int .i64 m.g, .int .i64 m.t, .int .i64 m.i, .int .i64 m.p, .int .i64 m.c, .int .i64 m.r, .int .i64 m.x, .int .i64 m.a, .int .i64 m.b, .int .i64 m.v, .int .i64 m.s, .bool m.ok, .slice A m.es.length c, .slice A' m.d.length c']) w :=
  ld_row w b _ _ _ h.row rfl
theorem st_new (w : World) (cs cs' : Array Value) (h : cs.size = 17) (h' : cs'.size = 17) (h1 : cs'.all (·.oneCell') = true) : (stMsg (.pointer (some ⟨w.heap.size, 0, none⟩)) (.agg cs')).run Tryd.prog (w.alloc (.cells cs 25)) = .ok () (w.alloc (.cells cs' 25)) :=
  run_storeVar_new w _ cs cs' (by rw [info_msg, h']) (by rw [h, h']) h1
end Go.Proofs.YtmaebemhephcmaaDoor.Ms
