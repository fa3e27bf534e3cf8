/- Posts in memory: the program's, the document's. -/
import Derived.Test.YtckfjkhjnpkobaaRows
import Derived.Test.YtckfjkhjnpkobaaPoMath
import Derived.Test.YtckfjkhjnpkobaaDel
import Derived.Test.YtckfjkhjnpkobaaKitBytes
import Derived.Test.YtckfjkhjnpkobaaSpoilB
namespace Go.Proofs.Ytckfjkhjnpkobaa
open Go.RowKit

/-- a packet where it lies: its bytes' address and room -/
structure Pl where
  p : Po.Pk
  A : Option Addr
  c : Nat
def Pl.val (q : Pl) : Value := .slice q.A q.p.d.length q.c
def cellsT (q : Pl × Bool) : List Value := [.int .i64 q.1.p.a, .int .i64 q.1.p.b, .slice q.1.A q.1.p.d.length q.1.c, .bool q.2]
def cellsP (q : Pl × Bool) : List Value := [.int .i64 q.1.p.a, .int .i64 q.1.p.b, .slice q.1.A q.1.p.d.length q.1.c]
def cellsB (q : Pl × Bool) : List Value := [.bool q.2]
def cellsL (q : Int × Int) : List Value := [.int .i64 q.1, .int .i64 q.2]
def cells1 (q : Int × Int) : List Value := [.int .i64 q.1]
def cells2 (q : Int × Int) : List Value := [.int .i64 q.2]
def strip (q : Pl × Bool) : Po.Pk × Bool := (q.1.p, q.2)

theorem OwnsB.turned {e : TypeId} {w w' : World} {S : Nat → Prop} {base c : Nat} {A : Option Addr} {l : List Nat} (h : OwnsB e w base A c l) (ht : Turned S w w') (hd : ∀ k, blk A = some k → ¬ S k) : OwnsB e w' base A c l :=
  ⟨h.small, ownsRow_turned h.row ht (fun k hk => hd k (by rw [← ownBlock_slice A l.length c]; exact hk))⟩
theorem OwnsB.ne {e : TypeId} {w : World} {base c g : Nat} {A : Option Addr} {l : List Nat} {cs : Array Value} {t : TypeId} (h : OwnsB e w base A c l) (hg : w.heap[g]? = some (.cells cs t (0, 0))) (hne : e ≠ t) : blk A ≠ some g := by
  intro hk
  rcases h.row.2 with ⟨h0, _⟩ | ⟨g', cap, cur, hv, _, hh, _⟩
  · injection h0 with h0; rw [h0] at hk; cases hk
  · have hA : A = some ⟨g', 0, none⟩ := by injection hv
    rw [hA] at hk
    obtain rfl : g' = g := by injection hk
    rw [hh] at hg
    exact hne (Obj.cells.inj (Option.some.inj hg)).2.1

/-- no two of these blocks are one -/
def Apart (l : List (Option Nat)) : Prop := l.Pairwise fun x y => ∀ k, x = some k → y ≠ some k
/-- the packets' bytes: each its own block, all of them in F -/
structure BytesIn (w : World) (F : Nat → Prop) (L : List (Pl × Bool)) : Prop where
  own : ∀ q ∈ L, OwnsB 5 w 0 q.1.A q.1.c q.1.p.d ∧ q.1.p.d.length ≤ 1024 ∧ ∀ k, blk q.1.A = some k → F k
  apart : Apart (L.map fun q => blk q.1.A)
namespace BytesIn
variable {w w' : World} {F F' S : Nat → Prop} {L : List (Pl × Bool)}
theorem nil (w : World) (F : Nat → Prop) : BytesIn w F [] := ⟨by simp, List.Pairwise.nil⟩
theorem keep (h : BytesIn w F L) (ht : Turned S w w') (hd : ∀ q ∈ L, ∀ k, blk q.1.A = some k → ¬ S k) : BytesIn w' F L :=
  ⟨fun q hq => ⟨(h.own q hq).1.turned ht (hd q hq), (h.own q hq).2⟩, h.apart⟩
theorem mono (h : BytesIn w F L) (hF : ∀ q ∈ L, ∀ k, blk q.1.A = some k → F' k) : BytesIn w F' L :=
  ⟨fun q hq => ⟨(h.own q hq).1, (h.own q hq).2.1, hF q hq⟩, h.apart⟩
theorem lt (h : BytesIn w F L) : ∀ q ∈ L, ∀ k, blk q.1.A = some k → k < w.heap.size := fun q hq k hk => ((h.own q hq).1.blkLt k hk).2
/-- other packets' bytes lie elsewhere -/
theorem ne (h : BytesIn w F L) {i j : Nat} (hi : i < L.length) (hj : j < L.length) (hne : i ≠ j) {k : Nat} (hk : blk L[i].1.A = some k) : blk L[j].1.A ≠ some k := by
  have hp := List.pairwise_iff_getElem.1 h.apart
  rcases Nat.lt_or_gt_of_ne hne with h1 | h1
  · have := hp i j (by simpa using hi) (by simpa using hj) h1 k
    simp only [List.getElem_map] at this
    exact this hk
  · intro e
    have := hp j i (by simpa using hj) (by simpa using hi) h1 k
    simp only [List.getElem_map] at this
    exact this e hk
theorem erase (h : BytesIn w F L) (i : Nat) : BytesIn w F (L.eraseIdx i) := by
  refine ⟨fun q hq => h.own q (List.mem_of_mem_eraseIdx hq), ?_⟩
  have := (List.eraseIdx_sublist L i).map (fun q : Pl × Bool => blk q.1.A)
  exact h.apart.sublist this
theorem take (h : BytesIn w F L) (n : Nat) : BytesIn w F (L.take n) := by
  refine ⟨fun q hq => h.own q (List.mem_of_mem_take hq), ?_⟩
  exact h.apart.sublist ((List.take_sublist n L).map (fun q : Pl × Bool => blk q.1.A))
/-- what is left lies elsewhere than what was taken out -/
theorem erase_ne (h : BytesIn w F L) (i : Nat) (hi : i < L.length) {k : Nat} (hk : blk L[i].1.A = some k) : ∀ q ∈ L.eraseIdx i, blk q.1.A ≠ some k := by
  intro q hq
  obtain ⟨j, hj, hne, rfl⟩ : ∃ j, ∃ hj : j < L.length, i ≠ j ∧ L[j] = q := by
    obtain ⟨j, hj, e⟩ := List.mem_eraseIdx_iff_getElem.1 hq
    exact ⟨j, hj, e.1.symm, e.2⟩
  exact h.ne hi hj hne hk
/-- one more, whose bytes are new -/
theorem snoc (h : BytesIn w F L) (q : Pl × Bool) (ho : OwnsB 5 w 0 q.1.A q.1.c q.1.p.d) (hl : q.1.p.d.length ≤ 1024) (hF : ∀ k, blk q.1.A = some k → F k) (hne : ∀ k, blk q.1.A = some k → ∀ r ∈ L, blk r.1.A ≠ some k) : BytesIn w F (L ++ [q]) := by
  refine ⟨fun r hr => ?_, ?_⟩
  · rcases List.mem_append.1 hr with hr | hr
    · exact h.own r hr
    · rw [List.mem_singleton.1 hr]; exact ⟨ho, hl, hF⟩
  · unfold Apart
    rw [List.map_append, List.pairwise_append]
    refine ⟨h.apart, List.pairwise_singleton _ _, fun x hx y hy k hk e => ?_⟩
    obtain ⟨r, hr, rfl⟩ := List.mem_map.1 hx
    obtain ⟨q', hq', rfl⟩ := List.mem_map.1 hy
    rw [List.mem_singleton.1 hq'] at e
    exact hne k e r hr hk
end BytesIn

/-- what a call does to its own blocks: only those have turned, and what it has now it had or has made -/
structure Step (F F' : Nat → Prop) (w w' : World) : Prop where
  turned : Turned F w w'
  new : ∀ k, F' k → F k ∨ w.heap.size ≤ k
theorem Step.trans {F F' F'' : Nat → Prop} {a b c : World} (h : Step F F' a b) (h' : Step F' F'' b c) : Step F F'' a c :=
  ⟨h.turned.then_ h'.turned (fun k hk e => (h.new k e).elim id (fun e => by omega)), fun k hk => (h'.new k hk).elim (h.new k) (fun e => .inr (Nat.le_trans h.turned.size e))⟩
theorem Step.refl (F : Nat → Prop) (w : World) : Step F F w w := ⟨Turned.refl _ _, fun _ h => .inl h⟩
theorem Step.ofBelow (F : Nat → Prop) {w w' : World} (h : Below w.heap.size w w') : Step F F w w' := ⟨Turned.ofBelow _ h, fun _ h => .inl h⟩

/-- The program's post: at g, the packets L in the row at A, the cut ways C in the row at A'. All its blocks are in F. -/
structure PostIs (w : World) (F : Nat → Prop) (g : Nat) (L : List (Pl × Bool)) (A : Option Addr) (c : Nat) (C : List (Int × Int)) (A' : Option Addr) (c' : Nat) : Prop where
  lt : ∀ k, F k → k < w.heap.size
  has : F g
  obj : w.heap[g]? = some (.cells #[.slice A L.length c, .slice A' C.length c'] 56 (0, 0))
  row : RowIn cellsT 4 62 w F A c L
  cut : RowIn cellsL 2 66 w F A' c' C
  byt : BytesIn w F L
  len : L.length ≤ 256
  cuts : C.length ≤ 64
def PostAt (w : World) (F : Nat → Prop) (g : Nat) (s : Po.St) : Prop :=
  ∃ L A c A' c', PostIs w F g L A c s.c A' c' ∧ s.l = L.map strip
namespace PostIs
variable {w w' w1 : World} {F F' S : Nat → Prop} {g : Nat} {L : List (Pl × Bool)} {A : Option Addr} {c : Nat} {C : List (Int × Int)} {A' : Option Addr} {c' : Nat}
theorem keep (h : PostIs w F g L A c C A' c') (ht : Turned S w w') (hd : ∀ k, F k → ¬ S k) : PostIs w' F g L A c C A' c' :=
  ⟨fun k hk => Nat.lt_of_lt_of_le (h.lt k hk) ht.size, h.has, (ht.block g (h.lt g h.has) (hd g h.has)).trans h.obj, h.row.keep ht (fun k hk => hd k (h.row.blk k hk)), h.cut.keep ht (fun k hk => hd k (h.cut.blk k hk)),
    h.byt.keep ht (fun q hq k hk => hd k ((h.byt.own q hq).2.2 k hk)), h.len, h.cuts⟩
theorem below (h : PostIs w F g L A c C A' c') (hb : Below w.heap.size w w') : PostIs w' F g L A c C A' c' := h.keep (S := fun _ => False) (Turned.ofBelow _ hb) (fun _ _ h => h)
theorem cell0 (h : PostIs w F g L A c C A' c') : w.cell? ⟨g, 0, none⟩ = some (.slice A L.length c) := by simp [World.cell?, h.obj]
theorem cell1 (h : PostIs w F g L A c C A' c') : w.cell? ⟨g, 1, none⟩ = some (.slice A' C.length c') := by simp [World.cell?, h.obj]
theorem frozen (h : PostIs w F g L A c C A' c') (k : Nat) : w.frozen? ⟨g, k, none⟩ = false := by simp [World.frozen?, h.obj]
theorem row_ne (h : PostIs w F g L A c C A' c') : blk A ≠ some g := h.row.ne h.obj (by decide)
theorem cut_ne (h : PostIs w F g L A c C A' c') : blk A' ≠ some g := h.cut.ne h.obj (by decide)
theorem byt_ne (h : PostIs w F g L A c C A' c') : ∀ q ∈ L, blk q.1.A ≠ some g := fun q hq => (h.byt.own q hq).1.ne h.obj (by decide)
theorem row_cut (h : PostIs w F g L A c C A' c') {k : Nat} (hk : blk A = some k) : blk A' ≠ some k := by
  obtain ⟨cur, hc⟩ := h.row.tag hk
  exact h.cut.ne hc (by decide)
theorem byt_row (h : PostIs w F g L A c C A' c') {k : Nat} (hk : blk A = some k) : ∀ q ∈ L, blk q.1.A ≠ some k := fun q hq => by
  obtain ⟨cur, hc⟩ := h.row.tag hk
  exact (h.byt.own q hq).1.ne hc (by decide)
theorem byt_cut (h : PostIs w F g L A c C A' c') {k : Nat} (hk : blk A' = some k) : ∀ q ∈ L, blk q.1.A ≠ some k := fun q hq => by
  obtain ⟨cur, hc⟩ := h.cut.tag hk
  exact (h.byt.own q hq).1.ne hc (by decide)
/-- one cell of the post's own block is written -/
theorem cellSet (h : PostIs w F g L A c C A' c') (v : Value) (k : Nat) : ∃ cs : Array Value, (w.setCell ⟨g, k, none⟩ v).heap[g]? = some (.cells cs 56 (0, 0)) ∧ cs = (#[Value.slice A L.length c, Value.slice A' C.length c'] : Array Value).setIfInBounds k v := by
  exact ⟨_, by simp [World.setCell, Array.getElem?_modify, h.obj], rfl⟩
/-- another list of packets -/
theorem setList (h : PostIs w F g L A c C A' c') (hw : Turned S w w1) (hg : ¬ S g) (hc : ∀ k, blk A' = some k → ¬ S k) {L2 : List (Pl × Bool)} {A2 : Option Addr} {c2 : Nat} (hF : F' g ∧ ∀ k, blk A' = some k → F' k) (hlt : ∀ k, F' k → k < w1.heap.size)
    (hrow : RowIn cellsT 4 62 w1 F' A2 c2 L2) (hbyt : BytesIn w1 F' L2) (hlen : L2.length ≤ 256) : PostIs (w1.setCell ⟨g, 0, none⟩ (.slice A2 L2.length c2)) F' g L2 A2 c2 C A' c' := by
  have hobj : w1.heap[g]? = some (.cells #[.slice A L.length c, .slice A' C.length c'] 56 (0, 0)) := (hw.block g (h.lt g h.has) hg).trans h.obj
  have ht := Turned.one w1 g 0 (.slice A2 L2.length c2)
  refine ⟨fun k hk => Nat.lt_of_lt_of_le (hlt k hk) ht.size, hF.1, by simp [World.setCell, Array.getElem?_modify, hobj], ?_, ?_, ?_, hlen, h.cuts⟩
  · exact hrow.keep ht (fun k hk e => hrow.ne hobj (by decide) (by rw [hk, e]))
  · exact ((h.cut.keep hw hc).mono hF.2).keep ht (fun k hk e => h.cut_ne (by rw [hk, e]))
  · exact hbyt.keep ht (fun q hq k hk e => (hbyt.own q hq).1.ne hobj (by decide) (by rw [hk, e]))
/-- other cut ways -/
theorem setCut (h : PostIs w F g L A c C A' c') (hw : Turned S w w1) (hg : ¬ S g) (hr : ∀ k, blk A = some k → ¬ S k) (hb : ∀ q ∈ L, ∀ k, blk q.1.A = some k → ¬ S k) {C2 : List (Int × Int)} {A2 : Option Addr} {c2 : Nat} (hF : ∀ k, F k → F' k) (hlt : ∀ k, F' k → k < w1.heap.size)
    (hcut : RowIn cellsL 2 66 w1 F' A2 c2 C2) (hlen : C2.length ≤ 64) : PostIs (w1.setCell ⟨g, 1, none⟩ (.slice A2 C2.length c2)) F' g L A c C2 A2 c2 := by
  have hobj : w1.heap[g]? = some (.cells #[.slice A L.length c, .slice A' C.length c'] 56 (0, 0)) := (hw.block g (h.lt g h.has) hg).trans h.obj
  have ht := Turned.one w1 g 1 (.slice A2 C2.length c2)
  refine ⟨fun k hk => Nat.lt_of_lt_of_le (hlt k hk) ht.size, hF g h.has, by simp [World.setCell, Array.getElem?_modify, hobj], ?_, ?_, ?_, h.len, hlen⟩
  · exact ((h.row.keep hw hr).mono (fun k hk => hF k (h.row.blk k hk))).keep ht (fun k hk e => h.row_ne (by rw [hk, e]))
  · exact hcut.keep ht (fun k hk e => hcut.ne hobj (by decide) (by rw [hk, e]))
  · exact ((h.byt.keep hw hb).mono (fun q hq k hk => hF k ((h.byt.own q hq).2.2 k hk))).keep ht (fun q hq k hk e => h.byt_ne q hq (by rw [hk, e]))
end PostIs
namespace PostAt
variable {w w' : World} {F S : Nat → Prop} {g : Nat} {s : Po.St}
theorem keep (h : PostAt w F g s) (ht : Turned S w w') (hd : ∀ k, F k → ¬ S k) : PostAt w' F g s := by
  obtain ⟨L, A, c, A', c', h1, h2⟩ := h
  exact ⟨L, A, c, A', c', h1.keep ht hd, h2⟩
theorem below (h : PostAt w F g s) (hb : Below w.heap.size w w') : PostAt w' F g s := by
  obtain ⟨L, A, c, A', c', h1, h2⟩ := h
  exact ⟨L, A, c, A', c', h1.below hb, h2⟩
theorem drewN (h : PostAt w F g s) (n : Nat) : PostAt (w.drewN n) F g s := h.below (below_drewN (Below.refl _ _) n)
theorem drew (h : PostAt w F g s) : PostAt w.drew F g s := h.below (Below.refl _ _).drew
theorem lt (h : PostAt w F g s) : ∀ k, F k → k < w.heap.size := by obtain ⟨L, A, c, A', c', h1, h2⟩ := h; exact h1.lt
theorem has (h : PostAt w F g s) : F g := by obtain ⟨L, A, c, A', c', h1, h2⟩ := h; exact h1.has
theorem len (h : PostAt w F g s) : s.l.length ≤ 256 := by obtain ⟨L, A, c, A', c', h1, h2⟩ := h; rw [h2, List.length_map]; exact h1.len
theorem cuts (h : PostAt w F g s) : s.c.length ≤ 64 := by obtain ⟨L, A, c, A', c', h1, h2⟩ := h; exact h1.cuts
theorem small (h : PostAt w F g s) : ∀ q ∈ s.l, q.1.d.length ≤ 1024 := by
  obtain ⟨L, A, c, A', c', h1, h2⟩ := h
  rw [h2]
  intro q hq
  obtain ⟨r, hr, rfl⟩ := List.mem_map.1 hq
  exact (h1.byt.own r hr).2.1
end PostAt
end Go.Proofs.Ytckfjkhjnpkobaa
