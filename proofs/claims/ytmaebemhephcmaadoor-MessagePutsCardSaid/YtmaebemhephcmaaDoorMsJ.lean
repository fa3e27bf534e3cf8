/- The walks through package message: a field that is read. -/
import Derived.Test.YtmaebemhephcmaaDoorMsI
import Derived.Test.YtmaebemhephcmaaDoorReader2
namespace Go.Proofs.YtmaebemhephcmaaDoor.Ms
open Go.RowKit
set_option maxRecDepth 100000
attribute [local go_sem ↓] loadAt_msg storeAt_msg

/-- no cell of a message is a byte -/
theorem no_byte (m : M) (A : Option Addr) (c : Nat) (A' : Option Addr) (c' : Nat) (i : Nat) (x : Int) : (#[.int .i64 m.K, .int .i64 m.F, .int .i64 m.T, .int .i64 m.g, .int .i64 m.t, .int .i64 m.i, .int .i64 m.p, .int .i64 m.c, .int .i64 m.r, .int .i64 m.x, .int .i64 m.a, .int .i64 m.b, .int .i64 m.v, .int .i64 m.s, .bool m.ok, .slice A m.es.length c, .slice A' m.d.length c'] : Array Value)[i]? ≠ some (.int .u8 x) := by
  intro h
  have h2 : ∀ v ∈ (#[.int .i64 m.K, .int .i64 m.F, .int .i64 m.T, .int .i64 m.g, .int .i64 m.t, .int .i64 m.i, .int .i64 m.p, .int .i64 m.c, .int .i64 m.r, .int .i64 m.x, .int .i64 m.a, .int .i64 m.b, .int .i64 m.v, .int .i64 m.s, .bool m.ok, .slice A m.es.length c, .slice A' m.d.length c'] : Array Value).toList, v ≠ Value.int .u8 x := by
    intro v hv
    simp only [List.mem_cons, List.not_mem_nil, or_false] at hv
    rcases hv with rfl | rfl | rfl | rfl | rfl | rfl | rfl | rfl | rfl | rfl | rfl | rfl | rfl | rfl | rfl | rfl | rfl <;> (intro e; cases e)
  rw [← Array.getElem?_toList] at h
  exact h2 _ (List.mem_of_getElem? h) rfl
/-- a reader stays when a message's box ahead of it is written -/
theorem rdr_box {w w' : World} {g b : Nat} {s : Pk.St} {m : M} {A A' : Option Addr} {c c' : Nat} (h : Rdr w g s) (hb : Bx w b m A c A' c') (hne : b ≠ g) (ht : Turned (fun k => k = b) w w') : Rdr w' g s := by
  obtain ⟨A1, c1, h1, h2, h3⟩ := h.at_
  refine ⟨h.small, h.ok, A1, c1, (ht.block g (row_lt h1) (fun e => hne e.symm)).trans h1, ⟨h2.small, fun k hk => ?_⟩, h3⟩
  obtain ⟨b1, off, e, hlt, hc⟩ := h2.cells k hk
  have hb1 : b1 ≠ b := fun e => by
    have := hc k hk
    rw [e, hb.cell] at this
    exact no_byte m A c A' c' _ _ this
  refine ⟨b1, off, e, hlt, fun i hi => ?_⟩
  rw [← hc i hi]
  exact World.cell?_of_block (ht.block b1 (by have := row_lt h1; omega) hb1)
/-- a message that is being read: its box at gm, the reader behind it at gr, and behind that what the message leads to -/
structure Rd (w0 W : World) (B gm gr lo : Nat) (m : M) (s : Pk.St) (A : Option Addr) (c : Nat) (A' : Option Addr) (c' : Nat) (N : Nat) : Prop where
  bel : Below B w0 W
  box : Bx W gm m A c A' c'
  rdr : Rdr W gr s
  lt : B ≤ gm ∧ gm < gr ∧ gr < lo ∧ lo ≤ W.heap.size
  es : OwnE W lo W.heap.size A c m.es
  d : OwnsB 5 W lo A' c' m.d
  num : ∀ r ∈ nums, InInt (m.num r)
  few : m.es.length ≤ N
  short : s.rest.length ≤ 65536
namespace Rd
variable {w0 W W' : World} {B gm gr lo : Nat} {m : M} {s : Pk.St} {A A' : Option Addr} {c c' N : Nat}
/-- the reader has gone on -/
theorem read (h : Rd w0 W B gm gr lo m s A c A' c' N) {s' : Pk.St} (hr : Rdr W' gr s') (hg : W.grownBy W' (some gr)) (hs : s'.rest.length ≤ s.rest.length) : Rd w0 W' B gm gr lo m s' A c A' c' N := by
  have hl := h.lt
  refine ⟨h.bel.trans ⟨hg.os, hg.tape, hg.output, hg.size, fun k hk => hg.block k ?_ ?_⟩, ⟨(hg.block gm (row_lt h.box.row) (fun e => by injection e; omega)).trans h.box.row⟩, hr, ⟨hl.1, hl.2.1, hl.2.2.1, Nat.le_trans hl.2.2.2 hg.size⟩, ?_, ?_, h.num, h.few, Nat.le_trans hs h.short⟩
  · have := row_lt h.box.row; omega
  · intro e; injection e; omega
  · exact (h.es.keep (Turned.ofGrown (S := fun k => k = gr) hg (fun k hk => (Option.some.inj hk).symm)) (fun k hk hB => by have := hB.1; omega)).wide (Nat.le_refl _) hg.size
  · exact h.d.grown hg (fun k hk => by injection hk with hk; omega)
/-- a cell of the box has been written -/
theorem store (h : Rd w0 W B gm gr lo m s A c A' c' N) {m' : M} {A2 A3 : Option Addr} {c2 c3 N' i : Nat} {u : Value} (hc : (#[.int .i64 m.K, .int .i64 m.F, .int .i64 m.T, .int .i64 m.g, .int .i64 m.t, .int .i64 m.i, .int .i64 m.p, .int .i64 m.c, .int .i64 m.r, .int .i64 m.x, .int .i64 m.a, .int .i64 m.b, .int .i64 m.v, .int .i64 m.s, .bool m.ok, .slice A m.es.length c, .slice A' m.d.length c'] : Array Value).setIfInBounds i u = (#[.int .i64 m'.K, .int .i64 m'.F, .int .i64 m'.T, .int .i64 m'.g, .int .i64 m'.t, .int .i64 m'.i, .int .i64 m'.p, .int .i64 m'.c, .int .i64 m'.r, .int .i64 m'.x, .int .i64 m'.a, .int .i64 m'.b, .int .i64 m'.v, .int .i64 m'.s, .bool m'.ok, .slice A2 m'.es.length c2, .slice A3 m'.d.length c3] : Array Value))
    (he : OwnE W lo W.heap.size A2 c2 m'.es) (hd : OwnsB 5 W lo A3 c3 m'.d) (hn : ∀ r ∈ nums, InInt (m'.num r)) (hf : m'.es.length ≤ N') : Rd w0 (W.setCell ⟨gm, i, none⟩ u) B gm gr lo m' s A2 c2 A3 c3 N' := by
  have hl := h.lt
  have hg := grown_setCell W gm i u
  have ht : Turned (fun k => k = gm) W (W.setCell ⟨gm, i, none⟩ u) := Turned.ofGrown hg (fun k hk => (Option.some.inj hk).symm)
  refine ⟨h.bel.trans ⟨hg.os, hg.tape, hg.output, hg.size, fun k hk => hg.block k ?_ ?_⟩, ⟨?_⟩, rdr_box h.rdr h.box (by omega) ht, ⟨hl.1, hl.2.1, hl.2.2.1, Nat.le_trans hl.2.2.2 hg.size⟩, ?_, ?_, hn, hf, h.short⟩
  · have := row_lt h.box.row; omega
  · intro e; injection e; omega
  · rw [row_set h.box.row, hc]
  · exact (he.keep ht (fun k hk hB => by have := hB.1; omega)).wide (Nat.le_refl _) hg.size
  · exact hd.grown hg (fun k hk => by injection hk with hk; omega)
theorem free (h : Rd w0 W B gm gr lo m s A c A' c' N) (i : Nat) : W.frozen? ⟨gm, i, none⟩ = false := row_free h.box.row i
end Rd
theorem set_cells (m : M) (A : Option Addr) (c : Nat) (A' : Option Addr) (c' : Nat) (r : Nat) (hr : r ∈ nums) (v : Int) : (#[.int .i64 m.K, .int .i64 m.F, .int .i64 m.T, .int .i64 m.g, .int .i64 m.t, .int .i64 m.i, .int .i64 m.p, .int .i64 m.c, .int .i64 m.r, .int .i64 m.x, .int .i64 m.a, .int .i64 m.b, .int .i64 m.v, .int .i64 m.s, .bool m.ok, .slice A m.es.length c, .slice A' m.d.length c'] : Array Value).setIfInBounds (ix r) (.int .i64 v) = (#[.int .i64 ((m.set r v)).K, .int .i64 ((m.set r v)).F, .int .i64 ((m.set r v)).T, .int .i64 ((m.set r v)).g, .int .i64 ((m.set r v)).t, .int .i64 ((m.set r v)).i, .int .i64 ((m.set r v)).p, .int .i64 ((m.set r v)).c, .int .i64 ((m.set r v)).r, .int .i64 ((m.set r v)).x, .int .i64 ((m.set r v)).a, .int .i64 ((m.set r v)).b, .int .i64 ((m.set r v)).v, .int .i64 ((m.set r v)).s, .bool ((m.set r v)).ok, .slice A ((m.set r v)).es.length c, .slice A' ((m.set r v)).d.length c'] : Array Value) := by
  simp only [nums, List.mem_cons, List.not_mem_nil, or_false] at hr
  rcases hr with rfl | rfl | rfl | rfl | rfl | rfl | rfl | rfl | rfl | rfl | rfl | rfl | rfl | rfl <;> rfl
theorem set_es (m : M) (r : Nat) (v : Int) : (m.set r v).es = m.es ∧ (m.set r v).d = m.d := by
  by_cases hr : r ∈ nums
  · simp only [nums, List.mem_cons, List.not_mem_nil, or_false] at hr
    rcases hr with rfl | rfl | rfl | rfl | rfl | rfl | rfl | rfl | rfl | rfl | rfl | rfl | rfl | rfl <;> exact ⟨rfl, rfl⟩
  · rw [set_out m r v hr]; exact ⟨rfl, rfl⟩
/-- but for the box and the reader, nothing below lo is turned -/
structure Kept (lo gm gr : Nat) (W W' : World) : Prop where
  size : W.heap.size ≤ W'.heap.size
  same : ∀ k, k < lo → k < W.heap.size → k ≠ gm → k ≠ gr → W'.heap[k]? = W.heap[k]?
namespace Kept
variable {lo gm gr : Nat} {a b c : World}
theorem trans (h : Kept lo gm gr a b) (h' : Kept lo gm gr b c) : Kept lo gm gr a c := ⟨Nat.le_trans h.size h'.size, fun k h1 h2 h3 h4 => (h'.same k h1 (Nat.lt_of_lt_of_le h2 h.size) h3 h4).trans (h.same k h1 h2 h3 h4)⟩
theorem rd (h : a.grownBy b (some gr)) : Kept lo gm gr a b := ⟨h.size, fun k _ h2 _ h4 => h.block k h2 (fun e => h4 (Option.some.inj e))⟩
theorem st (a : World) (i : Nat) (u : Value) : Kept lo gm gr a (a.setCell ⟨gm, i, none⟩ u) := ⟨(grown_setCell a gm i u).size, fun k _ h2 h3 _ => (grown_setCell a gm i u).block k h2 (fun e => h3 (Option.some.inj e))⟩
theorem bel (h : Below lo a b) : Kept lo gm gr a b := ⟨h.size, fun k h1 _ _ _ => h.block k h1⟩
end Kept
/-- what is told of a field that is read -/
def Told (w0 W : World) (B gm gr lo N : Nat) (A : Option Addr) (c : Nat) (A' : Option Addr) (c' : Nat) (r : Nat) (x : Option (M × Pk.St)) (e : Ending) (w' : World) : Prop :=
  match x with
  | none => e = .returned (.bool false) ∧ Below B w0 w'
  | some (m, s) => ∃ A2 c2 A3 c3, e = .returned (.bool true) ∧ Rd w0 w' B gm gr lo m s A2 c2 A3 c3 (N + 3000) ∧ Kept lo gm gr W w' ∧ (r ≠ 101 → A2 = A ∧ c2 = c) ∧ (r ≠ 100 → A3 = A' ∧ c3 = c')
set_option maxHeartbeats 1600000 in
theorem getNum_any (w0 W : World) (B gm gr lo : Nat) (m : M) (s : Pk.St) (A : Option Addr) (c : Nat) (A' : Option Addr) (c' N : Nat) (h : Rd w0 W B gm gr lo m s A c A' c' N) (r : Nat) (hr : r ∈ nums) :
    Calls Tryd.prog 74 #[.pointer (some ⟨gr, 0, none⟩), .pointer (some ⟨gm, 0, none⟩), .int .i32 (r : Int)] W fun e w' => Told w0 W B gm gr lo N A c A' c' r (rdF m s r) e w' := by
  have hlt : r < 128 := by
    simp only [nums, List.mem_cons, List.not_mem_nil, or_false] at hr
    omega
  have h111 : (r : Int) ≠ 111 := by
    simp only [nums, List.mem_cons, List.not_mem_nil, or_false] at hr
    omega
  have h101 : (r : Int) ≠ 101 := by
    simp only [nums, List.mem_cons, List.not_mem_nil, or_false] at hr
    omega
  have h100 : (r : Int) ≠ 100 := by
    simp only [nums, List.mem_cons, List.not_mem_nil, or_false] at hr
    omega
  have HF : Hid (rdF m s r = some (m.set r (Pk.rdInt s).1, (Pk.rdInt s).2)) := by
    show _ = _
    unfold rdF; rw [if_neg (by omega), if_neg (by omega), if_neg (by omega)]
  have hN := number_any gm r hlt
  rw [show ptr gm r = some ⟨gm, ix r, none⟩ from if_pos hr] at hN
  have HN := hid hN
  have HI := hid (int_rdr gr s W h.rdr)
  have hin := Pk.rdInt_in s h.rdr.small
  have HH := hid (And.intro h (And.intro hin hr))
  clear hN h hr hin
  go_enter Tryd.func74, Tryd.ntmps74
  go_wp2_with fail
  refine (HN.out _).mono ?_
  rintro e w1 ⟨rfl, rfl⟩
  go_wp2_with fail
  refine HI.out.mono ?_
  rintro e w1 ⟨rfl, hR, hG⟩
  have h1 := HH.out.1.read hR hG (Pk.rdInt_short s)
  have hc := (h1.box.cell (ix r)).trans (num_cell m A c A' c' r HH.out.2.2)
  have hf := h1.free (ix r)
  have hes := set_es m r (Pk.rdInt s).1
  have h2 := h1.store (N' := N + 3000) (set_cells m A c A' c' r HH.out.2.2 (Pk.rdInt s).1) (by rw [hes.1]; exact h1.es) (by rw [hes.2]; exact h1.d) (fun q hq => by
    rw [num_set m r q _ hq]
    split
    · exact HH.out.2.1
    · exact h1.num q hq) (by rw [hes.1]; have := h1.few; omega)
  have H2 := hid (And.intro h2 ((Kept.rd (lo := lo) (gm := gm) hG).trans (Kept.st w1 (ix r) (.int .i64 (Pk.rdInt s).1))))
  clear hR hG h1 hes h2
  go_wp2_with fail
  go_ret
  rw [HF.out]
  exact ⟨A, c, A', c', rfl, H2.out.1, H2.out.2, fun _ => ⟨rfl, rfl⟩, fun _ => ⟨rfl, rfl⟩⟩
end Go.Proofs.YtmaebemhephcmaaDoor.Ms
