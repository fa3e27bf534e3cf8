/- Texts of the proof, one behind the other: MsJ, MsK, ReadNew. -/
import Derived.Test.YtpigekbfngalbaaDoorPartAH
import Derived.Test.YtpigekbfngalbaaDoorPartAD
import Derived.Deep.RegionHeld3
namespace Go.Proofs.YtpigekbfngalbaaDoor.Ms
open Go.RowKit
set_option maxRecDepth 100000
attribute [local go_sem ↓] loadAt_msg storeAt_msg

/-- no cell of a message is a byte -/
theorem no_byte (m : M) (A : Option Addr) (c : Nat) (A' : Option Addr) (c' : Nat) (i : Nat) (x : Int) : (#[.int .i64 m.K, .int .i64 m.F, .int .i64 m.T, .int .i64 m.g, .int .i64 m.t, .int .i64 m.i, .int .i64 m.p, .int .i64 m.c, .int .i64 m.r, .int .i64 m.x, .int .i64 m.a, .int .i64 m.b, .int .i64 m.v, .int .i64 m.s, .bool m.ok, .slice A m.es.length c, .slice A' m.d.length c'] : Array Value)[i]? ≠ some (.int .u8 x) := by
  intro h
  have h2 : ∀ v ∈ (#[.int .i64 m.K, .int .i64 m.F, .int .i64 m.T, .int .i64 m.g, .int .i64 m.t, .int .i64 m.i, .int .i64 m.p, .int .i64 m.c, .int .i64 m.r, .int .i64 m.x, .int .i64 m.a, .int .i64 m.b, .int .i64 m.v, .int .i64 m.s, .bool m.ok, .slice A m.es.length c, .slice A' m.d.length c'] : Array Value).toList, v ≠ Value.int .u8 x := by
    intro v hv
    simp only [List.mem_cons, List.not_mem_nil, or_false] at hv
    rcases hv with rfl | rfl | rfl | rfl | rfl | rfl | rfl | rfl | rfl | rfl | rfl | rfl | rfl | rfl | rfl | rfl | rfl <;> (intro e; cases e)
  rw [← Array.getElem?_toList] at h
  exact h2 _ (List.mem_of_getElem? h) rfl
/-- a reader stays when a message's box ahead of it is written -/
theorem rdr_box {w w' : World} {g b : Nat} {s : Pk.St} {m : M} {A A' : Option Addr} {c c' : Nat} (h : Rdr w g s) (hb : Bx w b m A c A' c') (hne : b ≠ g) (ht : Turned (fun k => k = b) w w') : Rdr w' g s := by
  obtain ⟨A1, c1, h1, h2, h3⟩ := h.at_
  refine ⟨h.small, h.ok, A1, c1, (ht.block g (row_lt h1) (fun e => hne e.symm)).trans h1, ⟨h2.small, fun k hk => ?_⟩, h3⟩
  obtain ⟨b1, off, e, hlt, hc⟩ := h2.cells k hk
  have hb1 : b1 ≠ b := fun e => by
    have := hc k hk
    rw [e, hb.cell] at this
    exact no_byte m A c A' c' _ _ this
  refine ⟨b1, off, e, hlt, fun i hi => ?_⟩
  rw [← hc i hi]
  exact World.cell?_of_block (ht.block b1 (by have := row_lt h1; omega) hb1)
/-- a message that is being read: its box at gm, the reader behind it at gr, and behind that what the message leads to -/
structure Rd (w0 W : World) (B gm gr lo : Nat) (m : M) (s : Pk.St) (A : Option Addr) (c : Nat) (A' : Option Addr) (c' : Nat) (N : Nat) : Prop where
  bel : Below B w0 W
  box : Bx W gm m A c A' c'
  rdr : Rdr W gr s
  lt : B ≤ gm ∧ gm < gr ∧ gr < lo ∧ lo ≤ W.heap.size
  es : OwnE W lo W.heap.size A c m.es
  d : OwnsB 5 W lo A' c' m.d
  num : ∀ r ∈ nums, InInt (m.num r)
  few : m.es.length ≤ N
  short : s.rest.length ≤ 65536
namespace Rd
variable {w0 W W' : World} {B gm gr lo : Nat} {m : M} {s : Pk.St} {A A' : Option Addr} {c c' N : Nat}
/-- the reader has gone on -/
theorem read (h : Rd w0 W B gm gr lo m s A c A' c' N) {s' : Pk.St} (hr : Rdr W' gr s') (hg : W.grownBy W' (some gr)) (hs : s'.rest.length ≤ s.rest.length) : Rd w0 W' B gm gr lo m s' A c A' c' N := by
  have hl := h.lt
  refine ⟨h.bel.trans ⟨hg.os, hg.tape, hg.output, hg.size, fun k hk => hg.block k ?_ ?_⟩, ⟨(hg.block gm (row_lt h.box.row) (fun e => by injection e; omega)).trans h.box.row⟩, hr, ⟨hl.1, hl.2.1, hl.2.2.1, Nat.le_trans hl.2.2.2 hg.size⟩, ?_, ?_, h.num, h.few, Nat.le_trans hs h.short⟩
  · have := row_lt h.box.row; omega
  · intro e; injection e; omega
  · exact (h.es.keep (Turned.ofGrown (S := fun k => k = gr) hg (fun k hk => (Option.some.inj hk).symm)) (fun k hk hB => by have := hB.1; omega)).wide (Nat.le_refl _) hg.size
  · exact h.d.grown hg (fun k hk => by injection hk with hk; omega)
/-- a cell of the box has been written -/
theorem store (h : Rd w0 W B gm gr lo m s A c A' c' N) {m' : M} {A2 A3 : Option Addr} {c2 c3 N' i : Nat} {u : Value} (hc : (#[.int .i64 m.K, .int .i64 m.F, .int .i64 m.T, .int .i64 m.g, .int .i64 m.t, .int .i64 m.i, .int .i64 m.p, .int .i64 m.c, .int .i64 m.r, .int .i64 m.x, .int .i64 m.a, .int .i64 m.b, .int .i64 m.v, .int .i64 m.s, .bool m.ok, .slice A m.es.length c, .slice A' m.d.length c'] : Array Value).setIfInBounds i u = (#[.int .i64 m'.K, .int .i64 m'.F, .int .i64 m'.T, .int .i64 m'.g, .int .i64 m'.t, .int .i64 m'.i, .int .i64 m'.p, .int .i64 m'.c, .int .i64 m'.r, .int .i64 m'.x, .int .i64 m'.a, .int .i64 m'.b, .int .i64 m'.v, .int .i64 m'.s, .bool m'.ok, .slice A2 m'.es.length c2, .slice A3 m'.d.length c3] : Array Value))
    (he : OwnE W lo W.heap.size A2 c2 m'.es) (hd : OwnsB 5 W lo A3 c3 m'.d) (hn : ∀ r ∈ nums, InInt (m'.num r)) (hf : m'.es.length ≤ N') : Rd w0 (W.setCell ⟨gm, i, none⟩ u) B gm gr lo m' s A2 c2 A3 c3 N' := by
  have hl := h.lt
  have hg := grown_setCell W gm i u
  have ht : Turned (fun k => k = gm) W (W.setCell ⟨gm, i, none⟩ u) := Turned.ofGrown hg (fun k hk => (Option.some.inj hk).symm)
  refine ⟨h.bel.trans ⟨hg.os, hg.tape, hg.output, hg.size, fun k hk => hg.block k ?_ ?_⟩, ⟨?_⟩, rdr_box h.rdr h.box (by omega) ht, ⟨hl.1, hl.2.1, hl.2.2.1, Nat.le_trans hl.2.2.2 hg.size⟩, ?_, ?_, hn, hf, h.short⟩
  · have := row_lt h.box.row; omega
  · intro e; injection e; omega
  · rw [row_set h.box.row, hc]
  · exact (he.keep ht (fun k hk hB => by have := hB.1; omega)).wide (Nat.le_refl _) hg.size
  · exact hd.grown hg (fun k hk => by injection hk with hk; omega)
theorem free (h : Rd w0 W B gm gr lo m s A c A' c' N) (i : Nat) : W.frozen? ⟨gm, i, none⟩ = false := row_free h.box.row i
end Rd
theorem set_cells (m : M) (A : Option Addr) (c : Nat) (A' : Option Addr) (c' : Nat) (r : Nat) (hr : r ∈ nums) (v : Int) : (#[.int .i64 m.K, .int .i64 m.F, .int .i64 m.T, .int .i64 m.g, .int .i64 m.t, .int .i64 m.i, .int .i64 m.p, .int .i64 m.c, .int .i64 m.r, .int .i64 m.x, .int .i64 m.a, .int .i64 m.b, .int .i64 m.v, .int .i64 m.s, .bool m.ok, .slice A m.es.length c, .slice A' m.d.length c'] : Array Value).setIfInBounds (ix r) (.int .i64 v) = (#[.int .i64 ((m.set r v)).K, .int .i64 ((m.set r v)).F, .int .i64 ((m.set r v)).T, .int .i64 ((m.set r v)).g, .int .i64 ((m.set r v)).t, .int .i64 ((m.set r v)).i, .int .i64 ((m.set r v)).p, .int .i64 ((m.set r v)).c, .int .i64 ((m.set r v)).r, .int .i64 ((m.set r v)).x, .int .i64 ((m.set r v)).a, .int .i64 ((m.set r v)).b, .int .i64 ((m.set r v)).v, .int .i64 ((m.set r v)).s, .bool ((m.set r v)).ok, .slice A ((m.set r v)).es.length c, .slice A' ((m.set r v)).d.length c'] : Array Value) := by
  simp only [nums, List.mem_cons, List.not_mem_nil, or_false] at hr
  rcases hr with rfl | rfl | rfl | rfl | rfl | rfl | rfl | rfl | rfl | rfl | rfl | rfl | rfl | rfl <;> rfl
theorem set_es (m : M) (r : Nat) (v : Int) : (m.set r v).es = m.es ∧ (m.set r v).d = m.d := by
  by_cases hr : r ∈ nums
  · simp only [nums, List.mem_cons, List.not_mem_nil, or_false] at hr
    rcases hr with rfl | rfl | rfl | rfl | rfl | rfl | rfl | rfl | rfl | rfl | rfl | rfl | rfl | rfl <;> exact ⟨rfl, rfl⟩
  · rw [set_out m r v hr]; exact ⟨rfl, rfl⟩
/-- but for the box and the reader, nothing below lo is turned -/
structure Kept (lo gm gr : Nat) (W W' : World) : Prop where
  size : W.heap.size ≤ W'.heap.size
  same : ∀ k, k < lo → k < W.heap.size → k ≠ gm → k ≠ gr → W'.heap[k]? = W.heap[k]?
namespace Kept
variable {lo gm gr : Nat} {a b c : World}
theorem trans (h : Kept lo gm gr a b) (h' : Kept lo gm gr b c) : Kept lo gm gr a c := ⟨Nat.le_trans h.size h'.size, fun k h1 h2 h3 h4 => (h'.same k h1 (Nat.lt_of_lt_of_le h2 h.size) h3 h4).trans (h.same k h1 h2 h3 h4)⟩
theorem rd (h : a.grownBy b (some gr)) : Kept lo gm gr a b := ⟨h.size, fun k _ h2 _ h4 => h.block k h2 (fun e => h4 (Option.some.inj e))⟩
theorem st (a : World) (i : Nat) (u : Value) : Kept lo gm gr a (a.setCell ⟨gm, i, none⟩ u) := ⟨(grown_setCell a gm i u).size, fun k _ h2 h3 _ => (grown_setCell a gm i u).block k h2 (fun e => h3 (Option.some.inj e))⟩
theorem bel (h : Below lo a b) : Kept lo gm gr a b := ⟨h.size, fun k h1 _ _ _ => h.block k h1⟩
end Kept
/-- what is told of a field that is read -/
def Told (w0 W : World) (B gm gr lo N : Nat) (A : Option Addr) (c : Nat) (A' : Option Addr) (c' : Nat) (r : Nat) (x : Option (M × Pk.St)) (e : Ending) (w' : World) : Prop :=
  match x with
  | none => e = .returned (.bool false) ∧ Below B w0 w'
  | some (m, s) => ∃ A2 c2 A3 c3, e = .returned (.bool true) ∧ Rd w0 w' B gm gr lo m s A2 c2 A3 c3 (N + 3000) ∧ Kept lo gm gr W w' ∧ (r ≠ 101 → A2 = A ∧ c2 = c) ∧ (r ≠ 100 → A3 = A' ∧ c3 = c')
set_option maxHeartbeats 1600000 in
theorem getNum_any (w0 W : World) (B gm gr lo : Nat) (m : M) (s : Pk.St) (A : Option Addr) (c : Nat) (A' : Option Addr) (c' N : Nat) (h : Rd w0 W B gm gr lo m s A c A' c' N) (r : Nat) (hr : r ∈ nums) :
    Calls Tryd.prog 74 #[.pointer (some ⟨gr, 0, none⟩), .pointer (some ⟨gm, 0, none⟩), .int .i32 (r : Int)] W fun e w' => Told w0 W B gm gr lo N A c A' c' r (rdF m s r) e w' := by
  have hlt : r < 128 := by
    simp only [nums, List.mem_cons, List.not_mem_nil, or_false] at hr
    omega
  have h111 : (r : Int) ≠ 111 := by
    simp only [nums, List.mem_cons, List.not_mem_nil, or_false] at hr
    omega
  have h101 : (r : Int) ≠ 101 := by
    simp only [nums, List.mem_cons, List.not_mem_nil, or_false] at hr
    omega
  have h100 : (r : Int) ≠ 100 := by
    simp only [nums, List.mem_cons, List.not_mem_nil, or_false] at hr
    omega
  have HF : Hid (rdF m s r = some (m.set r (Pk.rdInt s).1, (Pk.rdInt s).2)) := by
    show _ = _
    unfold rdF; rw [if_neg (by omega), if_neg (by omega), if_neg (by omega)]
  have hN := number_any gm r hlt
  rw [show ptr gm r = some ⟨gm, ix r, none⟩ from if_pos hr] at hN
  have HN := hid hN
  have HI := hid (int_rdr gr s W h.rdr)
  have hin := Pk.rdInt_in s h.rdr.small
  have HH := hid (And.intro h (And.intro hin hr))
  clear hN h hr hin
  go_enter Tryd.func74, Tryd.ntmps74
  go_wp2_with fail
  refine (HN.out _).mono ?_
  rintro e w1 ⟨rfl, rfl⟩
  go_wp2_with fail
  refine HI.out.mono ?_
  rintro e w1 ⟨rfl, hR, hG⟩
  have h1 := HH.out.1.read hR hG (Pk.rdInt_short s)
  have hc := (h1.box.cell (ix r)).trans (num_cell m A c A' c' r HH.out.2.2)
  have hf := h1.free (ix r)
  have hes := set_es m r (Pk.rdInt s).1
  have h2 := h1.store (N' := N + 3000) (set_cells m A c A' c' r HH.out.2.2 (Pk.rdInt s).1) (by rw [hes.1]; exact h1.es) (by rw [hes.2]; exact h1.d) (fun q hq => by
    rw [num_set m r q _ hq]
    split
    · exact HH.out.2.1
    · exact h1.num q hq) (by rw [hes.1]; have := h1.few; omega)
  have H2 := hid (And.intro h2 ((Kept.rd (lo := lo) (gm := gm) hG).trans (Kept.st w1 (ix r) (.int .i64 (Pk.rdInt s).1))))
  clear hR hG h1 hes h2
  go_wp2_with fail
  go_ret
  rw [HF.out]
  exact ⟨A, c, A', c', rfl, H2.out.1, H2.out.2, fun _ => ⟨rfl, rfl⟩, fun _ => ⟨rfl, rfl⟩⟩
end Go.Proofs.YtpigekbfngalbaaDoor.Ms
namespace Go.Proofs.YtpigekbfngalbaaDoor.Ms
open Go.RowKit
set_option maxRecDepth 100000
set_option linter.unusedVariables false
attribute [local go_sem ↓] loadAt_msg storeAt_msg

set_option maxHeartbeats 1600000 in
theorem getOk_any (w0 W : World) (B gm gr lo : Nat) (m : M) (s : Pk.St) (A : Option Addr) (c : Nat) (A' : Option Addr) (c' N : Nat) (h : Rd w0 W B gm gr lo m s A c A' c' N) :
    Calls Tryd.prog 74 #[.pointer (some ⟨gr, 0, none⟩), .pointer (some ⟨gm, 0, none⟩), .int .i32 ((111 : Nat) : Int)] W fun e w' => Told w0 W B gm gr lo N A c A' c' 111 (rdF m s 111) e w' := by
  have HF : Hid (rdF m s 111 = if (Pk.rdInt s).1 = 0 ∨ (Pk.rdInt s).1 = 1 then some ({ m with ok := decide ((Pk.rdInt s).1 = 1) }, (Pk.rdInt s).2) else none) := by
    show _ = _
    unfold rdF; rw [if_pos rfl]
  have HI := hid (int_rdr gr s W h.rdr)
  have HH := hid h
  clear h
  go_enter Tryd.func74, Tryd.ntmps74
  go_wp2_with fail
  refine HI.out.mono ?_
  rintro e w1 ⟨rfl, hR, hG⟩
  have h1 := HH.out.read hR hG (Pk.rdInt_short s)
  have hc := h1.box.c14
  have hf := h1.free 14
  have HKP : Hid (∀ b : Bool, Kept lo gm gr W (w1.setCell ⟨gm, 14, none⟩ (.bool b))) := hid fun b => (Kept.rd hG).trans (Kept.st w1 14 (.bool b))
  have H2 : Hid (∀ b : Bool, Rd w0 (w1.setCell ⟨gm, 14, none⟩ (.bool b)) B gm gr lo { m with ok := b } (Pk.rdInt s).2 A c A' c' (N + 3000)) := hid fun b => h1.store (m' := { m with ok := b }) (N' := N + 3000) rfl h1.es h1.d h1.num (by have := h1.few; show m.es.length ≤ _; omega)
  clear hR hG h1
  generalize Pk.rdInt s = q at HF H2 ⊢
  obtain ⟨v, s2⟩ := q
  have HF2 : Hid (rdF m s 111 = if v = 0 ∨ v = 1 then some ({ m with ok := decide (v = 1) }, s2) else none) := HF
  have HH2 : Hid (∀ b : Bool, Rd w0 (w1.setCell ⟨gm, 14, none⟩ (.bool b)) B gm gr lo { m with ok := b } s2 A c A' c' (N + 3000)) := H2
  clear HF H2
  show _
  simp only []
  by_cases h0 : v = 0
  · have HR : Hid (rdF m s 111 = some ({ m with ok := false }, s2)) := hid (by rw [HF2.out, if_pos (Or.inl h0), h0]; rfl)
    subst h0
    go_wp2_with fail
    go_ret
    rw [HR.out]
    exact ⟨A, c, A', c', rfl, HH2.out false, HKP.out false, fun _ => ⟨rfl, rfl⟩, fun _ => ⟨rfl, rfl⟩⟩
  · by_cases h1 : v = 1
    · have HR : Hid (rdF m s 111 = some ({ m with ok := true }, s2)) := hid (by rw [HF2.out, if_pos (Or.inr h1), h1]; rfl)
      subst h1
      go_wp2_with fail
      go_ret
      rw [HR.out]
      exact ⟨A, c, A', c', rfl, HH2.out true, HKP.out true, fun _ => ⟨rfl, rfl⟩, fun _ => ⟨rfl, rfl⟩⟩
    · have HR : Hid (rdF m s 111 = none) := hid (by rw [HF2.out, if_neg (by omega)])
      go_wp2_with fail
      go_ret
      rw [HR.out]
      refine ⟨?_, (HH2.out _).bel⟩
      show Ending.returned (.bool (v == 0 || v == 1)) = _
      simp [h0, h1]
set_option maxHeartbeats 1600000 in
theorem getData_any (w0 W : World) (B gm gr lo : Nat) (m : M) (s : Pk.St) (A : Option Addr) (c : Nat) (A' : Option Addr) (c' N : Nat) (h : Rd w0 W B gm gr lo m s A c A' c' N) :
    Calls Tryd.prog 74 #[.pointer (some ⟨gr, 0, none⟩), .pointer (some ⟨gm, 0, none⟩), .int .i32 ((100 : Nat) : Int)] W fun e w' => Told w0 W B gm gr lo N A c A' c' 100 (rdF m s 100) e w' := by
  have HF : Hid (rdF m s 100 = some ({ m with d := (Pk.rdBlob s).1 }, (Pk.rdBlob s).2)) := by
    show _ = _
    unfold rdF; rw [if_neg (by decide), if_neg (by decide), if_pos rfl]
  have hsh := h.short
  have HI := hid (blob_rdr gr s W h.rdr (by omega))
  have HH := hid h
  clear h
  go_enter Tryd.func74, Tryd.ntmps74
  go_wp2_with fail
  refine HI.out.mono ?_
  rintro e w1 ⟨A2, c2, rfl, ho, hR, hG⟩
  have h1 := HH.out.read hR hG (Pk.rdBlob_short s).1
  have hc := h1.box.c16
  have hf := h1.free 16
  have h2 := h1.store (m' := { m with d := (Pk.rdBlob s).1 }) (N' := N + 3000) (i := 16) (u := .slice A2 (Pk.rdBlob s).1.length c2) (A2 := A) (c2 := c) (A3 := A2) (c3 := c2) rfl h1.es (ho.weaken HH.out.lt.2.2.2) h1.num (by have := h1.few; show m.es.length ≤ _; omega)
  have H2 := hid (And.intro h2 ((Kept.rd (lo := lo) (gm := gm) hG).trans (Kept.st w1 16 (.slice A2 (Pk.rdBlob s).1.length c2))))
  clear hR hG h1 h2 ho
  go_wp2_with fail
  go_ret
  rw [HF.out]
  exact ⟨A, c, A2, c2, rfl, H2.out.1, H2.out.2, fun _ => ⟨rfl, rfl⟩, fun e => absurd rfl e⟩
/-- a load that a region must not take first -/
def loadE : Op := Op.load 22 (Operand.tmp 50)
theorem Rd.int {w0 W : World} {B gm gr lo : Nat} {m : M} {s : Pk.St} {A A' : Option Addr} {c c' N : Nat} (h : Rd w0 W B gm gr lo m s A c A' c' N) :
    Calls Tryd.prog 89 #[.pointer (some ⟨gr, 0, none⟩)] W fun e w' => e = .returned (.int .i64 (Pk.rdInt s).1) ∧ Rd w0 w' B gm gr lo m (Pk.rdInt s).2 A c A' c' N ∧ Kept lo gm gr W w' :=
  (int_rdr gr s W h.rdr).mono fun e w' ⟨he, hR, hG⟩ => ⟨he, h.read hR hG (Pk.rdInt_short s), Kept.rd hG⟩
theorem Rd.drew {w0 W : World} {B gm gr lo : Nat} {m : M} {s : Pk.St} {A A' : Option Addr} {c c' N : Nat} (h : Rd w0 W B gm gr lo m s A c A' c' N) : Rd w0 W.drew B gm gr lo m s A c A' c' N :=
  ⟨h.bel.drew, ⟨h.box.row⟩, h.rdr.drewN 1, h.lt, h.es.keep (S := fun _ => False) (Turned.ofBelow _ (Below.refl _ W).drew) (fun k hk _ => hk), h.d.drew, h.num, h.few, h.short⟩
theorem Rd.blob {w0 W : World} {B gm gr lo : Nat} {m : M} {s : Pk.St} {A A' : Option Addr} {c c' N : Nat} (h : Rd w0 W B gm gr lo m s A c A' c' N) :
    Calls Tryd.prog 91 #[.pointer (some ⟨gr, 0, none⟩)] W fun e w' => ∃ A2 c2, e = .returned (.slice A2 (Pk.rdBlob s).1.length c2) ∧ OwnsB 5 w' W.heap.size A2 c2 (Pk.rdBlob s).1 ∧ OwnE w' lo W.heap.size A c m.es ∧ lo ≤ W.heap.size ∧ W.heap.size ≤ w'.heap.size ∧ Rd w0 w' B gm gr lo m (Pk.rdBlob s).2 A c A' c' N ∧ Kept lo gm gr W w' :=
  (blob_rdr gr s W h.rdr (by have := h.short; omega)).mono fun e w' ⟨A2, c2, he, ho, hR, hG⟩ => ⟨A2, c2, he, ho, h.es.keep (Turned.ofGrown (S := fun k => k = gr) hG (fun k hk => (Option.some.inj hk).symm)) (fun k hk hB => by have := hB.1; have := h.lt; omega), h.lt.2.2.2, hG.size, h.read hR hG (Pk.rdBlob_short s).1, Kept.rd hG⟩
/-- a block that is made, and entries put behind: what was there stays -/
theorem Rd.put {w0 W W' : World} {B gm gr lo : Nat} {m : M} {s : Pk.St} {A A' : Option Addr} {c c' N : Nat} (h : Rd w0 W B gm gr lo m s A c A' c' N) (hd : A' = none ∧ c' = 0) (hb : Below lo W W') {A6 : Option Addr} {c6 q : Nat} {L : List Rl.En} (hL : L.length = q) (hE : OwnE W' lo W'.heap.size A6 c6 L) (hf : L.length ≤ N + 1) :
    Rd w0 (W'.setCell ⟨gm, 15, none⟩ (.slice A6 q c6)) B gm gr lo { m with es := L } s A6 c6 A' c' (N + 1) := by
  subst hL
  obtain ⟨hA, hc⟩ := hd
  subst hA
  subst hc
  have hl := h.lt
  have hgs := h.rdr.lt
  have hdn : m.d = [] := h.d.reads.of_none
  have e : Bx W' gm m A c none 0 := h.box.below hb (by omega)
  have hg := grown_setCell W' gm 15 (.slice A6 L.length c6)
  have ht : Turned (fun k => k = gm) W' (W'.setCell ⟨gm, 15, none⟩ (.slice A6 L.length c6)) := Turned.ofGrown hg (fun k hk => (Option.some.inj hk).symm)
  have hbw : Below B w0 W' := h.bel.trans (hb.mono (by omega))
  refine ⟨hbw.trans ⟨hg.os, hg.tape, hg.output, hg.size, fun k hk => hg.block k ?_ ?_⟩, ⟨?_⟩, rdr_box (h.rdr.below (hb.mono (by omega))) e (by omega) ht, ⟨hl.1, hl.2.1, hl.2.2.1, Nat.le_trans hl.2.2.2 (Nat.le_trans hb.size hg.size)⟩, ?_, ?_, h.num, hf, h.short⟩
  · have := row_lt e.row; omega
  · intro e; injection e; omega
  · rw [row_set e.row]; rfl
  · exact (hE.keep ht (fun k hk hB => by have := hB.1; omega)).wide (Nat.le_refl _) hg.size
  · show OwnsB _ _ _ _ _ m.d
    rw [hdn]; exact OwnsB.nil _ _ _
theorem Rd.behind {w0 W w6 : World} {B gm gr lo : Nat} {m : M} {s : Pk.St} {A A' : Option Addr} {c c' N : Nat} (h : Rd w0 W B gm gr lo m s A c A' c' N) {o : Obj} (hb : Below lo (W.alloc o) w6) : Below lo W w6 ∧ Bx w6 gm m A c A' c' := by
  have h1 : Below lo W w6 := ((Below.refl lo W).alloc h.lt.2.2.2 o).trans hb
  exact ⟨h1, h.box.below h1 (by have := h.lt; omega)⟩
/-- entries that are read, from the reader's state s0: j of them are, n are left -/
structure EsR (w0 W wr : World) (B gm gr lo : Nat) (m : M) (n : Nat) (s0 : Pk.St) (A' : Option Addr) (c' N j : Nat) (A1 : Option Addr) (c1 q : Nat) (s : Pk.St) (L : List Rl.En) : Prop where
  rd : Rd w0 wr B gm gr lo { m with es := m.es ++ L } s A1 c1 A' c' (N + j)
  kept : Kept lo gm gr W wr
  len : (m.es ++ L).length = q
  cnt : L.length = j
  rest : (L ++ (rdEs (n - j) s).1, (rdEs (n - j) s).2) = rdEs n s0
theorem rdE_num (s : Pk.St) (h : s.small) : InInt (rdE s).1.t ∧ InInt (rdE s).1.k :=
  ⟨Pk.rdInt_in s h, Pk.rdInt_in _ (Pk.rdInt_small s h)⟩
theorem rdEs_step {n j : Nat} (h : j < n) (s s0 : Pk.St) (L : List Rl.En) (hr : (L ++ (rdEs (n - j) s).1, (rdEs (n - j) s).2) = rdEs n s0) :
    (L ++ [(rdE s).1] ++ (rdEs (n - (j + 1)) (rdE s).2).1, (rdEs (n - (j + 1)) (rdE s).2).2) = rdEs n s0 := by
  obtain ⟨k, hk⟩ : ∃ k, n - j = k + 1 := ⟨n - j - 1, by omega⟩
  rw [hk] at hr
  rw [show n - (j + 1) = k by omega, ← hr]
  simp [rdEs]
set_option maxHeartbeats 3200000 in
theorem getEs_any (w0 W : World) (B gm gr lo : Nat) (m : M) (s : Pk.St) (A : Option Addr) (c : Nat) (A' : Option Addr) (c' N : Nat) (h : Rd w0 W B gm gr lo m s A c A' c' N) (hN : N ≤ 50000) (hd : A' = none ∧ c' = 0) :
    Calls Tryd.prog 74 #[.pointer (some ⟨gr, 0, none⟩), .pointer (some ⟨gm, 0, none⟩), .int .i32 ((101 : Nat) : Int)] W fun e w' => Told w0 W B gm gr lo N A c A' c' 101 (rdF m s 101) e w' := by
  have HF : Hid (rdF m s 101 = if (Pk.rdInt s).1 < 0 ∨ (((Pk.rdInt s).2.rest.length / 24 : Nat) : Int) < (Pk.rdInt s).1 then none
    else some ({ m with es := m.es ++ (rdEs (Pk.rdInt s).1.toNat (Pk.rdInt s).2).1 }, (rdEs (Pk.rdInt s).1.toNat (Pk.rdInt s).2).2)) := by
    show _ = _
    unfold rdF; rw [if_neg (by decide), if_pos rfl]
  have HI := hid (int_rdr gr s W h.rdr)
  have HH := hid h
  clear h
  go_enter Tryd.func74, Tryd.ntmps74
  go_wp2_with fail
  refine HI.out.mono ?_
  rintro e w1 ⟨rfl, hR, hG⟩
  have h1 := HH.out.read hR hG (Pk.rdInt_short s)
  have HKP : Hid (Kept lo gm gr W w1) := hid (Kept.rd hG)
  have H1 := hid h1
  have HL := hid (left_rdr gr (Pk.rdInt s).2 w1 hR)
  have hsh := h1.short
  clear hR hG h1
  generalize hq : Pk.rdInt s = q at HF H1 HL hsh ⊢
  have HQ := hid hq
  clear hq
  obtain ⟨v, s2⟩ := q
  have HF2 : Hid (rdF m s 101 = if v < 0 ∨ ((s2.rest.length / 24 : Nat) : Int) < v then none else some ({ m with es := m.es ++ (rdEs v.toNat s2).1 }, (rdEs v.toNat s2).2)) := HF
  have HH2 : Hid (Rd w0 w1 B gm gr lo m s2 A c A' c' N) := H1
  have HL2 : Hid (Calls Tryd.prog 90 #[.pointer (some ⟨gr, 0, none⟩)] w1 fun e w' => e = .returned (.int .i64 (s2.rest.length : Nat)) ∧ w1 = w') := HL
  have hsh2 : s2.rest.length ≤ 65536 := hsh
  clear HF H1 HL hsh HQ
  show _
  simp only []
  by_cases h0 : v < 0
  · have HR : Hid (rdF m s 101 = none) := hid (by rw [HF2.out, if_pos (Or.inl h0)])
    go_wp2_with fail
    go_ret
    rw [HR.out]
    exact ⟨rfl, HH2.out.bel⟩
  go_wp2_with fail
  refine HL2.out.mono ?_
  rintro e w2 ⟨rfl, rfl⟩
  obtain ⟨dd, hdd⟩ : ∃ dd : Nat, dd = s2.rest.length / 24 := ⟨_, rfl⟩
  rw [← hdd] at HF2
  have hd2 : dd ≤ 2730 := by omega
  by_cases hlong : (dd : Int) < v
  · have HR : Hid (rdF m s 101 = none) := hid (by rw [HF2.out, if_pos (Or.inr hlong)])
    go_wp2_with fail
    go_ret
    rw [HR.out]
    exact ⟨rfl, HH2.out.bel⟩
  · obtain ⟨n, rfl⟩ : ∃ n : Nat, v = (n : Int) := ⟨v.toNat, by omega⟩
    have hn : n ≤ 2730 := by omega
    have HR : Hid (rdF m s 101 = some ({ m with es := m.es ++ (rdEs n s2).1 }, (rdEs n s2).2)) := hid (by rw [HF2.out, if_neg (by omega)]; rfl)
    clear HF2 HL2
    go_wp2_with fail
    go_loopw [45] (fun i wr => ∃ (j : Nat) (A1 : Option Addr) (c1 q : Nat) (s3 : Pk.St) (L : List Rl.En), j ≤ n ∧ i = .int .i64 (j : Int) ∧ Hid (EsR w0 W wr B gm gr lo m n s2 A' c' N j A1 c1 q s3 L)) (fun i _ => n - (RowKit.intOf i).toNat)
    case atStart =>
      refine ⟨0, A, c, m.es.length, s2, [], Nat.zero_le _, rfl, hid ⟨?_, HKP.out, by rw [List.append_nil], rfl, by simp⟩⟩
      have e : ({ m with es := m.es ++ [] } : M) = m := by rw [List.append_nil]
      rw [e]
      exact HH2.out
    case round =>
      clear HH2 hlong hd2 h0 hdd hsh2
      obtain ⟨j, A1, c1, q, s3, L, hj, rfl, HE⟩ := hrel
      by_cases hlt : j < n
      · have hbox := HE.out.rd.box
        have hc15 := hbox.c15
        have hf15 := HE.out.rd.free 15
        have hlen := HE.out.len
        rw [hlen] at hc15
        have hq : q ≤ 60000 := by have := HE.out.rd.few; rw [← hlen]; show (m.es ++ L).length ≤ _; have : (m.es ++ L).length ≤ N + j := this; omega
        have HQ := hid (And.intro hlen hq)
        clear hbox hlen
        have hopE : loadE = Op.load 22 (Operand.tmp 50) := rfl
        go_wp2_with fail
        rw [← hopE]
        have hR0 := HE.out.rd.drew
        have hsm := HE.out.rd.rdr.small
        obtain ⟨t, k, d, s4, s5, s6, C1, C2, C3, hE⟩ : ∃ (t k : Int) (d : List Nat) (s4 s5 s6 : Pk.St), (∀ w', Rd w0 w' B gm gr lo { m with es := m.es ++ L } s3 A1 c1 A' c' (N + j) → Calls Tryd.prog 89 #[.pointer (some ⟨gr, 0, none⟩)] w' fun e w'' => e = .returned (.int .i64 t) ∧ Rd w0 w'' B gm gr lo { m with es := m.es ++ L } s4 A1 c1 A' c' (N + j) ∧ Kept lo gm gr w' w'') ∧
            (∀ w', Rd w0 w' B gm gr lo { m with es := m.es ++ L } s4 A1 c1 A' c' (N + j) → Calls Tryd.prog 89 #[.pointer (some ⟨gr, 0, none⟩)] w' fun e w'' => e = .returned (.int .i64 k) ∧ Rd w0 w'' B gm gr lo { m with es := m.es ++ L } s5 A1 c1 A' c' (N + j) ∧ Kept lo gm gr w' w'') ∧
            (∀ w', Rd w0 w' B gm gr lo { m with es := m.es ++ L } s5 A1 c1 A' c' (N + j) → Calls Tryd.prog 91 #[.pointer (some ⟨gr, 0, none⟩)] w' fun e w'' => ∃ A2 c2, e = .returned (.slice A2 d.length c2) ∧ OwnsB 5 w'' w'.heap.size A2 c2 d ∧ OwnE w'' lo w'.heap.size A1 c1 (m.es ++ L) ∧ lo ≤ w'.heap.size ∧ w'.heap.size ≤ w''.heap.size ∧ Rd w0 w'' B gm gr lo { m with es := m.es ++ L } s6 A1 c1 A' c' (N + j) ∧ Kept lo gm gr w' w'') ∧
            rdE s3 = (⟨t, k, d⟩, s6) := ⟨_, _, _, _, _, _, fun w' h => h.int, fun w' h => h.int, fun w' h => h.blob, rfl⟩
        have hnum : InInt t ∧ InInt k := by have := rdE_num s3 hsm; rw [hE] at this; exact this
        have HC := hid (And.intro (C1 _ hR0) (And.intro C2 C3))
        have HX := hid (And.intro hE hnum)
        have HK : Hid (∀ w' sx, Rd w0 w' B gm gr lo { m with es := m.es ++ L } sx A1 c1 A' c' (N + j) → w'.cell? ⟨gm, 15, none⟩ = some (.slice A1 q c1) ∧ w'.frozen? ⟨gm, 15, none⟩ = false ∧ gm < w'.heap.size) := hid fun w' sx h => ⟨by rw [h.box.c15]; show some (Value.slice A1 (m.es ++ L).length c1) = _; rw [HQ.out.1], h.free 15, row_lt h.box.row⟩
        have hkd : wr.drew.cell? ⟨gm, 15, none⟩ = some (.slice A1 q c1) := hc15
        have hl5 : q + 1 ≤ 100000 := by omega
        have HD := hid hd
        clear hR0 hsm C1 C2 C3 hE hnum hf15 hN
        go_region_held3 (fun w' => True)
          (first | exact trivial | fail)
          (first
            | (have _ := H4; refine step_append_ent (by rfl) _ _ (by rfl) (H4.out.2.1.below ((Below.refl _ w4).alloc (H4.out.2.2.2.1) _)) H4.out.2.2.1 (by rw [World.size_alloc]; exact Nat.le_succ_of_le H4.out.2.2.2.1) q HQ.out.1 (by rfl) ⟨t, k, d⟩ HX.out.2 A2 c2 (H4.out.1.below ((Below.refl _ w4).alloc (Nat.le_refl _) _)) ⟨w4.heap.size, 0, none⟩ 1 (by rfl) (fun j _ => cellsE_new w4 _ rfl ⟨⟨t, k, d⟩, A2, c2⟩ _ j) hl5 ?_; intro A6 c6 w6 hE6 hB6; have hbh := H4.out.2.2.2.2.1.behind hB6; have H6 := hid (And.intro hE6 hbh.1); have hk6 : w6.cell? ⟨gm, 15, none⟩ = some (.slice A1 q c1) := (hbh.1.cell (p := ⟨gm, 15, none⟩) (by have := HE.out.rd.lt; show gm < lo; omega)).trans hk4; have hf6 : w6.frozen? ⟨gm, 15, none⟩ = false := row_free hbh.2.row 15; clear hbh hE6 hB6)
            | (go_at_call 91; refine (HC.out.2.2 w3 H3.out.1).mono ?_; rintro e w4 ⟨A2, c2, rfl, h4⟩; have H4 := hid h4; have hk4 := (HK.out w4 _ h4.2.2.2.2.1).1; have hlt4 := (HK.out w4 _ h4.2.2.2.2.1).2.2; clear h4)
            | (go_at_call 89; refine (HC.out.2.1 w2 H2.out.1).mono ?_; rintro e w3 ⟨rfl, h3⟩; have H3 := hid h3; have hk3 := (HK.out w3 _ h3.1).1; clear h3)
            | (go_at_call 89; refine HC.out.1.mono ?_; rintro e w2 ⟨rfl, h2⟩; have H2 := hid h2; have hk2 := (HK.out w2 _ h2.1).1; clear h2))
        all_goals
          have H7 : Hid (EsR w0 W (w6.setCell ⟨gm, 15, none⟩ (.slice A6 (q + 1) c6)) B gm gr lo m n s2 A' c' N (j + 1) A6 c6 (q + 1) s6 (L ++ [⟨t, k, d⟩])) := by
            have hlen2 : (m.es ++ L ++ [(⟨t, k, d⟩ : Rl.En)]).length = q + 1 := by rw [List.length_append, HQ.out.1]; rfl
            have hfew := HE.out.rd.few
            have h5 := H4.out.2.2.2.2.1.put HD.out H6.out.2 hlen2 H6.out.1 (by rw [hlen2, ← HQ.out.1]; exact Nat.succ_le_succ hfew)
            have hst := rdEs_step hlt s3 s2 L HE.out.rest
            rw [HX.out.1] at hst
            refine hid ⟨?_, HE.out.kept.trans (((((Kept.bel (Below.refl lo wr).drew).trans H2.out.2).trans H3.out.2).trans H4.out.2.2.2.2.2).trans ((Kept.bel H6.out.2).trans (Kept.st w6 15 (.slice A6 (q + 1) c6)))), by rw [← List.append_assoc]; exact hlen2, by rw [List.length_append, HE.out.cnt]; rfl, hst⟩
            rw [List.append_assoc] at h5
            exact h5
          clear hk2 hk3 hk4 hlt4 hk6 hf6 hkd hc15
          go_wp2_with fail
          go_roundw
          case rel => exact ⟨j + 1, A6, c6, q + 1, s6, L ++ [⟨t, k, d⟩], by omega, by go_num, H7⟩
          case measure => simp [RowKit.intOf]; omega
      · obtain rfl : j = n := by omega
        have hrest := HE.out.rest
        rw [Nat.sub_self] at hrest
        have hL : rdEs j s2 = (L, s3) := by rw [← hrest]; simp [rdEs]
        have hrd := HE.out.rd
        have HRD : Hid (Rd w0 wr B gm gr lo { m with es := m.es ++ (rdEs j s2).1 } (rdEs j s2).2 A1 c1 A' c' (N + 3000)) := hid (by
          rw [hL]
          exact ⟨hrd.bel, hrd.box, hrd.rdr, hrd.lt, hrd.es, hrd.d, hrd.num, by have h9 : (m.es ++ L).length ≤ N + j := hrd.few; show (m.es ++ L).length ≤ N + 3000; omega, hrd.short⟩)
        clear hrest hL hrd
        go_wp2_with fail
        go_ret
        rw [HR.out]
        exact ⟨A1, c1, A', c', rfl, HRD.out, HE.out.kept, fun e => absurd rfl e, fun _ => ⟨rfl, rfl⟩⟩
end Go.Proofs.YtpigekbfngalbaaDoor.Ms
namespace Go.Proofs.YtpigekbfngalbaaDoor
open Go.RowKit

theorem OwnsB.capZ {e : TypeId} {w : World} {base c : Nat} {A : Option Addr} {l : List Nat} (h : OwnsB e w base A c l) : c ≤ maxLen ∧ (A = none → c = 0) := by
  rcases h.row.2 with ⟨h1, _⟩ | ⟨g, cap, cur, h1, _, _, _, h2, _⟩
  · injection h1 with h1 h2 h3
    exact ⟨by omega, fun _ => h3⟩
  · injection h1 with h3 h4 h5
    exact ⟨by omega, fun h6 => by rw [h3] at h6; cases h6⟩
set_option maxRecDepth 100000 in
set_option maxHeartbeats 400000 in
theorem sclone_any (B : Nat) (A : Option Addr) (c : Nat) (l : List Nat) (hl : l.length ≤ 140737488354000) (w : World) (h : IsBytes w B A l) (hB : B ≤ w.heap.size) (hn : A = none → c = 0) :
    Calls Tryd.prog 88 #[.slice A l.length c] w fun e w' => ∃ A' c', e = .returned (.slice A' l.length c') ∧ OwnsB 5 w' w.heap.size A' c' l ∧ Below w.heap.size w w' := by
  obtain ⟨i0, hi, hz0, hz1, hz2⟩ := info_parts info_u8
  have hq := fun (w : World) (a : Option Addr) (n c : Nat) => Lib.run_eql_slice_nil (P := Tryd.prog) w 23 5 a n c 0 0 Tryd.underlying23
  rcases A with _ | ad
  · obtain rfl := hn rfl
    obtain rfl := h.of_none
    go_enter Tryd.func88, Tryd.ntmps88
    go_wp2
    go_ret
    exact ⟨none, 0, rfl, OwnsB.nil _ _ _, Below.refl _ _⟩
  · have hbel : Below w.heap.size w (w.alloc (.cells #[] 5)) := (Below.refl _ _).alloc (Nat.le_refl _) _
    have hown : OwnsB 5 (w.alloc (.cells #[] 5)) w.heap.size (some ⟨w.heap.size, 0, none⟩) 0 [] := by
      refine ⟨by simp, by simp [bytes], .inr ⟨w.heap.size, 0, _, rfl, Nat.le_refl _, heap_alloc_new w _, Nat.zero_le _, by unfold maxLen; omega, by simp, by simp [bytes]⟩⟩
    have hs : IsBytes (w.alloc (.cells #[] 5)) w.heap.size (some ad) l := (h.more hB).below hbel
    have HB := hid hbel
    have hsz := hbel.size
    have HS := hid hsz
    clear hbel hsz
    go_enter Tryd.func88, Tryd.ntmps88
    go_wp2_with (at_builtin; refine wpList_append_bytesN rfl _ _ 23 rfl w.heap.size 5 i0 Tryd.underlying23 hi hz0 hz1 hz2 (some ⟨w.heap.size, 0, none⟩) 0 [] 0 rfl rfl hown w.heap.size (some ad) c l l.length rfl rfl hn hs l (List.nil_append _) (by omega) HS.out ?_)
    intro A3 c3 w2 hown2 hbel2
    have HB2 := hid (HB.out.trans hbel2)
    clear hown hs hbel2
    go_wp2
    go_ret
    exact ⟨A3, c3, ret_len (by simp), hown2, HB2.out⟩

/-- a reader that is made; it stays whatever is written into one block that was there ahead of it -/
def Fresh (w : World) (l : List Nat) (e : Ending) (w' : World) : Prop :=
  ∃ g, e = .returned (.pointer (some ⟨g, 0, none⟩)) ∧ w.heap.size ≤ g ∧ (∀ w2 row, w'.grownBy w2 row → (∀ k, row = some k → k < w.heap.size) → Rdr w2 g ⟨l, false⟩) ∧ Below w.heap.size w w'
set_option maxRecDepth 100000 in
set_option maxHeartbeats 400000 in
theorem read_keep (B : Nat) (A : Option Addr) (c : Nat) (l : List Nat) (hl : l.length ≤ 140737488354000) (w : World) (h : IsBytes w B A l) (hB : B ≤ w.heap.size) (hn : A = none → c = 0) :
    Calls Tryd.prog 73 #[.slice A l.length c] w (Fresh w l) := by
  have HC := hid (sclone_any B A c l hl w h hB hn)
  have hsm := h.small
  clear h hn
  go_enter Tryd.func73, Tryd.ntmps73
  go_wp2_with fail
  refine HC.out.mono ?_
  rintro e w1 ⟨A1, c1, rfl, hown, hbel⟩
  have hcap := hown.cap
  have hcap2 := hown.capZ
  have hm : l.length ≤ 9223372036854775807 := by have := hcap2.1; unfold maxLen at this; omega
  have hm2 : c1 ≤ 9223372036854775807 := by have := hcap2.1; unfold maxLen at this; omega
  have hsz := hbel.size
  have hblk := hown.blkLt
  clear HC
  have HR : Hid (∀ A2, (l = [] ∨ A2 = A1) → (A2 = none → l.length = 0) → ∀ w2 row, (w1.alloc (.cells #[.slice A2 l.length l.length, .bool false] 100)).grownBy w2 row → (∀ k, row = some k → k < w.heap.size) → Rdr w2 w1.heap.size ⟨l, false⟩) := by
    intro A2 hA hn2 w2 row hG hr
    have hr1 : some w1.heap.size ≠ row := fun e => by have := hr _ e.symm; omega
    refine ⟨hsm, fun h => (by cases h), A2, l.length, (hG.block w1.heap.size (by simp) hr1).trans (heap_alloc_new w1 _), ?_, Nat.le_refl _, by unfold maxLen; omega, hn2⟩
    rcases hA with rfl | rfl
    · exact IsBytes.nil
    · have h3 : OwnsB 5 w2 w.heap.size A2 c1 l := (hown.alloc _).grown hG hr
      refine ⟨h3.small, fun k hk => ?_⟩
      obtain ⟨b, off, e, _, hc⟩ := h3.reads.cells k hk
      exact ⟨b, off, e, (hblk b (by rw [e]; rfl)).2, hc⟩
  have HB : Hid (∀ o, Below w.heap.size w (w1.alloc o)) := fun o => hbel.alloc hsz o
  have hl0 := fun e => (hcap2.2 e)
  clear hbel hcap2 hown hblk
  rcases A1 with _ | ad
  · have hc0 : c1 = 0 := hl0 rfl
    obtain rfl := hc0
    obtain rfl : l = [] := List.eq_nil_of_length_eq_zero (by omega)
    clear hl0
    go_wp2
    go_ret
    exact ⟨_, rfl, hsz, HR.out none (by simp) (by simp), HB.out _⟩
  · clear hl0
    go_wp2
    go_ret
    exact ⟨_, rfl, hsz, HR.out (some ad) (.inr rfl) (fun h => by cases h), HB.out _⟩
theorem packRead_any (B : Nat) (A : Option Addr) (c : Nat) (l : List Nat) (hl : l.length ≤ 140737488354000) (w : World) (h : IsBytes w B A l) (hB : B ≤ w.heap.size) (hn : A = none → c = 0) :
    Calls Tryd.prog 73 #[.slice A l.length c] w fun e w' => ∃ g, e = .returned (.pointer (some ⟨g, 0, none⟩)) ∧ w.heap.size ≤ g ∧ Rdr w' g ⟨l, false⟩ ∧ Below w.heap.size w w' :=
  (read_keep B A c l hl w h hB hn).mono fun e w' ⟨g, he, hg, hR, hb⟩ => ⟨g, he, hg, hR w' none (grown_refl _ _) (fun k hk => by cases hk), hb⟩
end Go.Proofs.YtpigekbfngalbaaDoor
