/- The document's post in memory; the walks through its small functions. -/
import Derived.Test.YtckfjkhjnpkobaaPostH
namespace Go.Proofs.Ytckfjkhjnpkobaa
open Go.RowKit

/-- The document's post: at g, the packets L, whether each is turned, the two numbers of each cut way. All its blocks are in F. -/
structure RefIs (w : World) (F : Nat → Prop) (g : Nat) (L : List (Pl × Bool)) (A1 : Option Addr) (c1 : Nat) (A2 : Option Addr) (c2 : Nat) (C : List (Int × Int)) (A3 : Option Addr) (c3 : Nat) (A4 : Option Addr) (c4 : Nat) : Prop where
  lt : ∀ k, F k → k < w.heap.size
  has : F g
  obj : w.heap[g]? = some (.cells #[.slice A1 L.length c1, .slice A2 L.length c2, .slice A3 C.length c3, .slice A4 C.length c4] 32 (0, 0))
  row : RowIn cellsP 3 42 w F A1 c1 L
  tur : RowIn cellsB 1 4 w F A2 c2 L
  ra : RowIn cells1 1 3 w F A3 c3 C
  rb : RowIn cells2 1 3 w F A4 c4 C
  ab : ∀ k, blk A3 = some k → blk A4 ≠ some k
  byt : BytesIn w F L
  len : L.length ≤ 256
  cuts : C.length ≤ 64
def normed (C : List (Int × Int)) : List (Int × Int) := C.map fun q => Po.norm q.1 q.2
def RefAt (w : World) (F : Nat → Prop) (g : Nat) (s : Po.St) : Prop :=
  ∃ L A1 c1 A2 c2 C A3 c3 A4 c4, RefIs w F g L A1 c1 A2 c2 C A3 c3 A4 c4 ∧ s.l = L.map strip ∧ s.c = normed C
namespace RefIs
variable {w w' w1 : World} {F F' S : Nat → Prop} {g : Nat} {L : List (Pl × Bool)} {A1 A2 A3 A4 : Option Addr} {c1 c2 c3 c4 : Nat} {C : List (Int × Int)}
theorem keep (h : RefIs w F g L A1 c1 A2 c2 C A3 c3 A4 c4) (ht : Turned S w w') (hd : ∀ k, F k → ¬ S k) : RefIs w' F g L A1 c1 A2 c2 C A3 c3 A4 c4 :=
  ⟨fun k hk => Nat.lt_of_lt_of_le (h.lt k hk) ht.size, h.has, (ht.block g (h.lt g h.has) (hd g h.has)).trans h.obj, h.row.keep ht (fun k hk => hd k (h.row.blk k hk)), h.tur.keep ht (fun k hk => hd k (h.tur.blk k hk)), h.ra.keep ht (fun k hk => hd k (h.ra.blk k hk)), h.rb.keep ht (fun k hk => hd k (h.rb.blk k hk)), h.ab,
    h.byt.keep ht (fun q hq k hk => hd k ((h.byt.own q hq).2.2 k hk)), h.len, h.cuts⟩
theorem below (h : RefIs w F g L A1 c1 A2 c2 C A3 c3 A4 c4) (hb : Below w.heap.size w w') : RefIs w' F g L A1 c1 A2 c2 C A3 c3 A4 c4 := h.keep (S := fun _ => False) (Turned.ofBelow _ hb) (fun _ _ h => h)
theorem cells (h : RefIs w F g L A1 c1 A2 c2 C A3 c3 A4 c4) : w.cell? ⟨g, 0, none⟩ = some (.slice A1 L.length c1) ∧ w.cell? ⟨g, 1, none⟩ = some (.slice A2 L.length c2) ∧ w.cell? ⟨g, 2, none⟩ = some (.slice A3 C.length c3) ∧ w.cell? ⟨g, 3, none⟩ = some (.slice A4 C.length c4) := by
  simp [World.cell?, h.obj]
theorem frozen (h : RefIs w F g L A1 c1 A2 c2 C A3 c3 A4 c4) (k : Nat) : w.frozen? ⟨g, k, none⟩ = false := by simp [World.frozen?, h.obj]
theorem ne1 (h : RefIs w F g L A1 c1 A2 c2 C A3 c3 A4 c4) : blk A1 ≠ some g := h.row.ne h.obj (by decide)
theorem ne2 (h : RefIs w F g L A1 c1 A2 c2 C A3 c3 A4 c4) : blk A2 ≠ some g := h.tur.ne h.obj (by decide)
theorem ne3 (h : RefIs w F g L A1 c1 A2 c2 C A3 c3 A4 c4) : blk A3 ≠ some g := h.ra.ne h.obj (by decide)
theorem ne4 (h : RefIs w F g L A1 c1 A2 c2 C A3 c3 A4 c4) : blk A4 ≠ some g := h.rb.ne h.obj (by decide)
theorem neB (h : RefIs w F g L A1 c1 A2 c2 C A3 c3 A4 c4) : ∀ q ∈ L, blk q.1.A ≠ some g := fun q hq => (h.byt.own q hq).1.ne h.obj (by decide)
/-- Any change of the post's own rows: what is new is given, row by row; the post's own block is written last. -/
theorem rebuilt {F' : Nat → Prop} {L2 : List (Pl × Bool)} {C2 : List (Int × Int)} {B1 B2 B3 B4 : Option Addr} {d1 d2 d3 d4 : Nat} (hlt : ∀ k, F' k → k < w1.heap.size) (hg : F' g)
    (cs : Array Value) (hobj : w1.heap[g]? = some (.cells cs 32 (0, 0))) (hcs : cs = #[.slice B1 L2.length d1, .slice B2 L2.length d2, .slice B3 C2.length d3, .slice B4 C2.length d4])
    (hrow : RowIn cellsP 3 42 w1 F' B1 d1 L2) (htur : RowIn cellsB 1 4 w1 F' B2 d2 L2) (hra : RowIn cells1 1 3 w1 F' B3 d3 C2) (hrb : RowIn cells2 1 3 w1 F' B4 d4 C2) (hab : ∀ k, blk B3 = some k → blk B4 ≠ some k) (hbyt : BytesIn w1 F' L2) (hl : L2.length ≤ 256) (hc : C2.length ≤ 64) :
    RefIs w1 F' g L2 B1 d1 B2 d2 C2 B3 d3 B4 d4 := by
  subst hcs
  exact ⟨hlt, hg, hobj, hrow, htur, hra, hrb, hab, hbyt, hl, hc⟩
end RefIs
namespace RefAt
variable {w w' : World} {F S : Nat → Prop} {g : Nat} {s : Po.St}
theorem keep (h : RefAt w F g s) (ht : Turned S w w') (hd : ∀ k, F k → ¬ S k) : RefAt w' F g s := by
  obtain ⟨L, A1, c1, A2, c2, C, A3, c3, A4, c4, h1, h2⟩ := h
  exact ⟨L, A1, c1, A2, c2, C, A3, c3, A4, c4, h1.keep ht hd, h2⟩
theorem below (h : RefAt w F g s) (hb : Below w.heap.size w w') : RefAt w' F g s := h.keep (S := fun _ => False) (Turned.ofBelow _ hb) (fun _ _ h => h)
theorem lt (h : RefAt w F g s) : ∀ k, F k → k < w.heap.size := by obtain ⟨L, A1, c1, A2, c2, C, A3, c3, A4, c4, h1, h2⟩ := h; exact h1.lt
theorem has (h : RefAt w F g s) : F g := by obtain ⟨L, A1, c1, A2, c2, C, A3, c3, A4, c4, h1, h2⟩ := h; exact h1.has
end RefAt

theorem refThere_any (F : Nat → Prop) (g : Nat) (s : Po.St) (i : Int) (w : World) (h : RefAt w F g s) :
    Calls Try.prog 48 #[.pointer (some ⟨g, 0, none⟩), .int .i64 i] w fun e w' => e = .returned (.bool (Po.has s i)) ∧ w' = w := by
  obtain ⟨L, A1, c1, A2, c2, C, A3, c3, A4, c4, h1, h2, _⟩ := h
  have c0 := h1.cells.1
  have hl : s.l.length = L.length := by rw [h2, List.length_map]
  rw [← hl] at c0
  clear h1 h2 hl
  unfold Po.has
  by_cases h0 : 0 ≤ i
  · rw [decide_eq_true h0, Bool.true_and]
    by_cases h1 : i < (s.l.length : Int)
    · rw [decide_eq_true h1]
      go_enter Try.func48, Try.ntmps48
      go_wp2_with fail
      go_ret
      exact ⟨rfl, rfl⟩
    · rw [decide_eq_false h1]
      go_enter Try.func48, Try.ntmps48
      go_wp2_with fail
      go_ret
      exact ⟨rfl, rfl⟩
  · rw [decide_eq_false h0, Bool.false_and]
    go_enter Try.func48, Try.ntmps48
    go_wp2_with fail
    go_ret
    exact ⟨rfl, rfl⟩

theorem ix_at (C : List (Int × Int)) (x : Int × Int) (k : Nat) (hk : k < C.length) (h : x ∉ normed (C.take k)) (he : Po.norm C[k].1 C[k].2 = x) : Po.ixOf x (normed C) = (k : Int) := by
  have hk' : k < (normed C).length := by unfold normed; rw [List.length_map]; exact hk
  have e : (normed C)[k] = x := (List.getElem_map ..).trans he
  have h' : x ∉ (normed C).take k := by unfold normed at h ⊢; rw [← List.map_take]; exact h
  rw [Po.ixOf_in (by rw [← e]; exact List.getElem_mem hk'), idxOf_take _ x k hk' h' e]

set_option maxHeartbeats 3200000 in
set_option maxRecDepth 100000 in
theorem cutting_any (F : Nat → Prop) (g : Nat) (s : Po.St) (a b : Int) (w : World) (h : RefAt w F g s) :
    Calls Try.prog 46 #[.pointer (some ⟨g, 0, none⟩), .int .i64 a, .int .i64 b] w fun e w' => e = .returned (.int .i64 (Po.ixOf (Po.norm a b) s.c)) ∧ w' = w := by
  obtain ⟨L, A1, c1, A2, c2, C, A3, c3, A4, c4, hI, _, hc⟩ := h
  obtain ⟨_, _, g2, g3⟩ := hI.cells
  have hl := hI.cuts
  rw [hc]
  have HI := hid hI
  clear hI hc
  go_enter Try.func46, Try.ntmps46
  go_wp2_with fail
  go_loopw [7] (fun i wr => ∃ k : Nat, k ≤ C.length ∧ i = .int .i64 k ∧ Hid (Po.norm a b ∉ normed (C.take k)) ∧ wr = w) (fun i _ => C.length - (RowKit.intOf i).toNat)
  case atStart => exact ⟨0, by omega, rfl, hid (by simp [normed]), rfl⟩
  case round =>
    obtain ⟨k, hk, rfl, hS, hwr⟩ := hrel
    subst hwr
    by_cases hlt : k < C.length
    · obtain ⟨b3, rfl, _, _, hc3, _⟩ := HI.out.ra.get k hlt
      obtain ⟨b4, rfl, _, _, hc4, _⟩ := HI.out.rb.get k hlt
      have d3 := hc3 0 (by omega)
      have d4 := hc4 0 (by omega)
      rw [Nat.mul_one, Nat.add_zero] at d3 d4
      have hk0 : (k : Int) < (C.length : Int) := by omega
      obtain ⟨p, hp⟩ : ∃ p, p = C[k].1 := ⟨_, rfl⟩
      obtain ⟨q, hq⟩ : ∃ q, q = C[k].2 := ⟨_, rfl⟩
      have d3' : wr.cell? ⟨b3, k, none⟩ = some (.int .i64 p) := by rw [hp]; exact d3
      have d4' : wr.cell? ⟨b4, k, none⟩ = some (.int .i64 q) := by rw [hq]; exact d4
      have HN : Hid (Po.norm C[k].1 C[k].2 = Po.norm a b ↔ (p = a ∧ q = b) ∨ (p = b ∧ q = a)) := hid (by rw [← hp, ← hq]; exact Po.norm_eq)
      have HYes : Hid ((p = a ∧ q = b) ∨ (p = b ∧ q = a) → Po.ixOf (Po.norm a b) (normed C) = (k : Int)) := hid (fun h => ix_at C _ k hlt hS.out (HN.out.2 h))
      have HNo : Hid (¬ ((p = a ∧ q = b) ∨ (p = b ∧ q = a)) → Po.norm a b ∉ normed (C.take (k + 1))) := hid (fun h => by
        unfold normed
        rw [List.take_succ_eq_append_getElem hlt, List.map_append]
        intro hm
        rcases List.mem_append.1 hm with hm | hm
        · exact hS.out hm
        · simp only [List.map_cons, List.map_nil, List.mem_singleton] at hm
          exact h (HN.out.1 hm.symm))
      clear hc3 hc4 d3 d4 hp hq HN hS
      by_cases h1 : p = a
      · by_cases h2 : q = b
        · have HR := hid (HYes.out (.inl ⟨h1, h2⟩))
          have b1 : (p == a) = true := by simpa using h1
          have b2 : (q == b) = true := by simpa using h2
          clear h1 h2 HYes HNo
          go_wp2_with fail
          go_ret
          exact ⟨ret_int HR.out.symm, rfl⟩
        · have hno : ¬ ((p = a ∧ q = b) ∨ (p = b ∧ q = a)) := by rintro (h | h); exact h2 h.2; exact h2 (by rw [h.2, ← h1, h.1])
          have HR := hid (HNo.out hno)
          have b1 : (p == a) = true := by simpa using h1
          have b2 : (q == b) = false := by simpa using h2
          by_cases h3 : p = b
          · have b3x : (p == b) = true := by simpa using h3
            have b4x : (q == a) = false := by
              have : ¬ q = a := fun e => hno (.inr ⟨h3, e⟩)
              simpa using this
            clear h1 h2 h3 hno HYes HNo
            go_wp2_with fail
            go_roundw
            case rel => exact ⟨k + 1, by omega, by go_num, HR, trivial⟩
            case measure => simp [RowKit.intOf]; omega
          · have b3x : (p == b) = false := by simpa using h3
            clear h1 h2 h3 hno HYes HNo
            go_wp2_with fail
            go_roundw
            case rel => exact ⟨k + 1, by omega, by go_num, HR, trivial⟩
            case measure => simp [RowKit.intOf]; omega
      · have b1 : (p == a) = false := by simpa using h1
        by_cases h3 : p = b
        · have b3x : (p == b) = true := by simpa using h3
          by_cases h4 : q = a
          · have HR := hid (HYes.out (.inr ⟨h3, h4⟩))
            have b4x : (q == a) = true := by simpa using h4
            clear h1 h3 h4 HYes HNo
            go_wp2_with fail
            go_ret
            exact ⟨ret_int HR.out.symm, rfl⟩
          · have HR := hid (HNo.out (by rintro (h | h); exact h1 h.1; exact h4 h.2))
            have b4x : (q == a) = false := by simpa using h4
            clear h1 h3 h4 HYes HNo
            go_wp2_with fail
            go_roundw
            case rel => exact ⟨k + 1, by omega, by go_num, HR, trivial⟩
            case measure => simp [RowKit.intOf]; omega
        · have HR := hid (HNo.out (by rintro (h | h); exact h1 h.1; exact h3 h.1))
          have b3x : (p == b) = false := by simpa using h3
          clear h1 h3 HYes HNo
          go_wp2_with fail
          go_roundw
          case rel => exact ⟨k + 1, by omega, by go_num, HR, trivial⟩
          case measure => simp [RowKit.intOf]; omega
    · obtain rfl : k = C.length := by omega
      have HR : Hid (Po.ixOf (Po.norm a b) (normed C) = -1) := hid (Po.ixOf_out (by have := hS.out; rw [List.take_length] at this; exact this))
      clear hS
      go_wp2_with fail
      go_ret
      exact ⟨ret_int HR.out.symm, rfl⟩
end Go.Proofs.Ytckfjkhjnpkobaa
