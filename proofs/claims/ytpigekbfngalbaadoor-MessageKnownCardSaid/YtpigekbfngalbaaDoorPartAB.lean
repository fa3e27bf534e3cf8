/- Texts of the proof, one behind the other: Ints, Grown, Turned, Flat. -/
import Derived.Test.YtpigekbfngalbaaDoorPartAA
import Derived.Maps.AppendAt
import Derived.Laws.OwnMore
import Derived.Lib.SliceRun
namespace Go.Proofs.YtpigekbfngalbaaDoor
open Go.RowKit

/-- a number that an int can be -/
def InInt (x : Int) : Prop := -9223372036854775808 ≤ x ∧ x ≤ 9223372036854775807
/-- the values of ints -/
def ints (l : List Int) : List Value := l.map fun (x : Int) => Value.int .i64 x

/-- Below block B of the world w, a slice of ints at the address A holds l (an empty one may lie anywhere). -/
structure IsInts (w : World) (B : Nat) (A : Option Addr) (l : List Int) : Prop where
  small : ∀ x ∈ l, InInt x
  cells : ∀ k, k < l.length → ∃ b off, A = some ⟨b, off, none⟩ ∧ b < B ∧ ∀ i (h : i < l.length), w.cell? ⟨b, off + i, none⟩ = some (.int .i64 l[i])

namespace IsInts
variable {w w' : World} {B B' : Nat} {A : Option Addr} {l : List Int}
theorem nil : IsInts w B A [] := ⟨by simp, fun k h => by simp at h⟩
theorem keep (h : IsInts w B A l) (hk : ∀ p : Addr, p.block < B → w'.cell? p = w.cell? p) : IsInts w' B A l :=
  ⟨h.small, fun k hl => by
    obtain ⟨b, off, e, hb, hc⟩ := h.cells k hl
    exact ⟨b, off, e, hb, fun i hi => (hk _ hb).trans (hc i hi)⟩⟩
theorem more (h : IsInts w B A l) (hB : B ≤ B') : IsInts w B' A l :=
  ⟨h.small, fun k hl => by
    obtain ⟨b, off, e, hb, hc⟩ := h.cells k hl
    exact ⟨b, off, e, by omega, hc⟩⟩
theorem below (h : IsInts w B A l) (hb : Below B w w') : IsInts w' B A l := h.keep fun _ hp => hb.cell hp
theorem take (h : IsInts w B A l) (n : Nat) : IsInts w B A (l.take n) := by
  refine ⟨fun x hx => h.small x (List.mem_of_mem_take hx), fun k hk => ?_⟩
  rw [List.length_take] at hk
  obtain ⟨b, off, e, hb, hc⟩ := h.cells k (by omega)
  refine ⟨b, off, e, hb, fun i hi => ?_⟩
  rw [List.length_take] at hi
  rw [List.getElem_take]
  exact hc i (by omega)
theorem drewN (h : IsInts w B A l) (n : Nat) : IsInts (w.drewN n) B A l := ⟨h.small, h.cells⟩
theorem drew (h : IsInts w B A l) : IsInts w.drew B A l := ⟨h.small, h.cells⟩
end IsInts
theorem isInts_of_ints {W : World} {x : Addr} {len cap : Nat} {zs : List Int} (hl : len ≤ cap) (hz : zs.length = cap)
    (hcell : ∀ i, i < zs.length → W.cell? (x.add i) = some (.int .i64 (zs.getD i 0))) (hwz : ∀ n ∈ zs, (Lit.int .i64 n).wf = true) :
    ∃ l : List Int, IsInts W W.heap.size (some x) l ∧ len = l.length := by
  refine ⟨zs.take len, ⟨fun y hy => ?_, fun k hk => ?_⟩, by simp; omega⟩
  · have := hwz y (List.mem_of_mem_take hy)
    simp [Lit.wf, IntKind.min, IntKind.max, IntKind.signed, IntKind.bits] at this
    exact this
  · have hk' : k < zs.length := by simp at hk; omega
    obtain ⟨b, off, spot⟩ := x
    have hspot : spot = none := by
      have := World.cell?_spot (hcell 0 (by omega))
      simpa [Addr.add] using this
    subst hspot
    have hadd : ∀ i, (⟨b, off, none⟩ : Addr).add i = ⟨b, off + i, none⟩ := fun i => by unfold Addr.add; split <;> simp [*]
    have hc : ∀ i, i < zs.length → W.cell? ⟨b, off + i, none⟩ = some (.int .i64 (zs.getD i 0)) := fun i hi => by rw [← hadd]; exact hcell i hi
    refine ⟨b, off, rfl, World.block_lt_of_cell? _ _ (hc k hk'), fun i hi => ?_⟩
    have hi' : i < zs.length := by simp at hi; omega
    rw [hc i hi', List.getElem_take, List.getD_eq_getElem?_getD, List.getElem?_eq_getElem hi']
    rfl

/-- A slice of ints (e: the number of the type int), at A, of capacity c, that the call itself has made: its block is not below base. -/
structure OwnsI (e : TypeId) (w : World) (base : Nat) (A : Option Addr) (c : Nat) (l : List Int) : Prop where
  small : ∀ x ∈ l, InInt x
  row : w.ownsRow base e 1 (.slice A l.length c) l.length (ints l)

theorem ints_get (l : List Int) (k : Nat) (h : k < l.length) : (ints l)[k]? = some (.int .i64 l[k]) := by
  unfold ints; rw [List.getElem?_map, List.getElem?_eq_getElem h]; rfl

namespace OwnsI
variable {e : TypeId} {w w' : World} {base : Nat} {A : Option Addr} {c : Nat} {l : List Int}
theorem reads (h : OwnsI e w base A c l) : IsInts w w.heap.size A l := by
  refine ⟨h.small, fun k hk => ?_⟩
  rcases h.row.2 with ⟨_, h0⟩ | ⟨g, cap, cur, hv, hg, hh, _, _, _, _⟩
  · omega
  · have hA : A = some ⟨g, 0, none⟩ ∧ c = cap := by injection hv with h1 h2 h3; exact ⟨h1, h3⟩
    obtain ⟨rfl, rfl⟩ := hA
    refine ⟨g, 0, rfl, (h.row.lt g rfl).2, fun i hi => ?_⟩
    have := h.row.cells (g := g) rfl i _ (ints_get l i hi)
    have e : (⟨g, 0, none⟩ : Addr).add i = ⟨g, 0 + i, none⟩ := by unfold Addr.add; split <;> simp [*]
    rw [e] at this
    exact this
theorem drew (h : OwnsI e w base A c l) : OwnsI e w.drew base A c l := ⟨h.small, h.row⟩
theorem drewN (h : OwnsI e w base A c l) (n : Nat) : OwnsI e (w.drewN n) base A c l := ⟨h.small, h.row⟩
theorem cap (h : OwnsI e w base A c l) : l.length ≤ c := by
  rcases h.row.2 with ⟨_, h0⟩ | ⟨g, cap, cur, hv, _, _, hc, _, _, _⟩
  · omega
  · have : c = cap := by injection hv
    omega
theorem below (h : OwnsI e w base A c l) (hb : Below w.heap.size w w') : OwnsI e w' base A c l := by
  refine ⟨h.small, h.row.kept (row := none) ⟨hb.os, hb.tape, hb.output, hb.size, fun k hk _ => hb.block k hk⟩ ?_⟩
  rcases ho : (Value.slice A l.length c).ownBlock with _ | g
  · exact .inl rfl
  · exact .inr (by simp)
theorem at_ (h : OwnsI e w base A c l) {k : Nat} (hk : k < l.length) : ∃ g, A = some ⟨g, 0, none⟩ ∧ base ≤ g ∧ g < w.heap.size ∧
    w.cell? ⟨g, k, none⟩ = some (.int .i64 l[k]) ∧ w.frozen? ⟨g, k, none⟩ = false := by
  rcases h.row.2 with ⟨_, h0⟩ | ⟨g, cap, cur, hv, hg, hh, _, _, _, _⟩
  · omega
  · have hA : A = some ⟨g, 0, none⟩ ∧ c = cap := by injection hv with h1 h2 h3; exact ⟨h1, h3⟩
    obtain ⟨rfl, rfl⟩ := hA
    refine ⟨g, rfl, hg, (h.row.lt g rfl).2, ?_, h.row.frozenAt k⟩
    rw [h.row.cellAt k (by omega)]
    exact ints_get l k hk
theorem set_ {g : Nat} (h : OwnsI e w base (some ⟨g, 0, none⟩) c l) (k : Nat) (x : Int) (hx : InInt x) :
    OwnsI e (w.setCell ⟨g, k, none⟩ (.int .i64 x)) base (some ⟨g, 0, none⟩) c (l.set k x) := by
  refine ⟨fun y hy => ?_, ?_⟩
  · rcases List.mem_or_eq_of_mem_set hy with hy | rfl
    · exact h.small y hy
    · exact hx
  · have := h.row.stored k (.int .i64 x)
    rw [List.length_set]
    rw [show ints (l.set k x) = (ints l).set k (.int .i64 x) from by unfold ints; rw [List.map_set]]
    exact this.1
end OwnsI
theorem IsInts.news {w : World} {B : Nat} {ad : Addr} {l : List Int} (h : IsInts w B (some ad) l) : ∀ j u, (ints l)[j]? = some u → w.cell? (ad.add j) = some u := by
  intro j u hu
  have hj : j < l.length := by
    have := (List.getElem?_eq_some_iff.1 hu).1
    simpa [ints] using this
  obtain ⟨b, off, e, _, hc⟩ := h.cells j hj
  injection e with e
  subst e
  rw [ints_get l j hj] at hu
  have hadd : (⟨b, off, none⟩ : Addr).add j = ⟨b, off + j, none⟩ := by unfold Addr.add; split <;> simp [*]
  rw [hadd, hc j hj]
  exact hu
theorem IsInts.of_none {w : World} {B : Nat} {l : List Int} (h : IsInts w B none l) : l = [] := by
  rcases l with _ | ⟨x, l⟩
  · rfl
  · obtain ⟨b, off, e, _⟩ := h.cells 0 (by simp)
    cases e
theorem ints_append (l m : List Int) : ints l ++ ints m = ints (l ++ m) := by unfold ints; rw [List.map_append]
theorem ints_oneCell (l : List Int) : ∀ u ∈ ints l, u.oneCell' = true := by
  intro u hu
  unfold ints at hu
  obtain ⟨x, _, rfl⟩ := List.mem_map.1 hu
  rfl
theorem ints_length (l : List Int) : (ints l).length = l.length := by simp [ints]

/-- append, onto a slice of ints that the call has made, of ints that may be nil, empty or lie anywhere -/
theorem wpList_append_ints {P : Program} {w : World} {ops : Array Oper} {rest : List Oper} {o : Oper} {a : Act} {Q : Exit → Act → World → Prop} (hgd : o.guard = none) (s x : Operand) (t : TypeId)
    (ho : o.op = .call { callee := .builtin .append, args := #[s, x], argTypes := #[t, t] })
    (base : Nat) (e : TypeId) (i : TypeInfo) (ht : P.underlying t = some (.slice e)) (hi : P.info? e = some i) (hz : i.zero = some (.int .i64 0)) (hsize : i.size = 1) (hby : i.bytes = 8)
    (A : Option Addr) (c : Nat) (l : List Int) (hs : a.eval s = .slice A l.length c) (hown : OwnsI e w base A c l)
    (B : Nat) (A' : Option Addr) (c' : Nat) (m : List Int) (hx : a.eval x = .slice A' m.length c') (hnil : A' = none → c' = 0) (hr : IsInts w B A' m)
    (hbytes : (l.length + m.length) * 8 ≤ 140737488355328) (hbase : base ≤ w.heap.size)
    (h : ∀ A2 c2 w', OwnsI e w' base A2 c2 (l ++ m) → w.grownBy w' (Value.slice A l.length c).ownBlock → wpList P ops Q rest (a.put o.dst (.slice A2 (l.length + m.length) c2)) w') : wpList P ops Q (o :: rest) a w := by
  have hsm : ∀ y ∈ l ++ m, InInt y := fun y hy => by
    rcases List.mem_append.1 hy with hy | hy
    · exact hown.small y hy
    · exact hr.small y hy
  rcases A' with _ | ad
  · obtain rfl := hr.of_none
    obtain rfl := hnil rfl
    refine wpList_append_own_none hgd s x t ho base e i 1 ht hi _ l.length (ints l) hs hown.row hx ?_
    exact h A c w ⟨hsm, by simpa using hown.row⟩ (World.grownBy.refl w _)
  · refine wpList_append_own w hgd s x t ho base e i (.int .i64 0) 1 8 ht hi hz hsize hby rfl (by decide) _ l.length (ints l) hs hown.row ad m.length c' (ints m) hx (by rw [ints_length]; omega) hr.news (ints_oneCell m) (by unfold maxLen; omega) (by omega) hbase ?_
    intro v' w' h1 h2 _
    obtain ⟨A2, c2, rfl⟩ := own_slice h1
    rw [ints_append] at h1
    exact h A2 c2 w' ⟨hsm, by rw [List.length_append]; exact h1⟩ h2
end Go.Proofs.YtpigekbfngalbaaDoor
namespace Go.Proofs.YtpigekbfngalbaaDoor
open Go.RowKit

theorem ret_len {A : Option Addr} {n m c : Nat} (h : n = m) : Ending.returned (.slice A n c) = .returned (.slice A m c) := by rw [h]
theorem grown_trans {a b c : World} {row row' : Option Nat} (h : a.grownBy b row) (h' : b.grownBy c row') (hr : ∀ k, row' = some k → k < a.heap.size → row = some k) : a.grownBy c row :=
  ⟨h'.os.trans h.os, h'.tape.trans h.tape, h'.output.trans h.output, Nat.le_trans h.size h'.size, fun k hk hne =>
    (h'.block k (Nat.lt_of_lt_of_le hk h.size) (fun e => hne (hr k e.symm hk).symm)).trans (h.block k hk hne)⟩
theorem grown_below {a b : World} (h : Below a.heap.size a b) (row : Option Nat) : a.grownBy b row := ⟨h.os, h.tape, h.output, h.size, fun k hk _ => h.block k hk⟩
theorem grown_then {a b c : World} {row : Option Nat} (h : a.grownBy b row) (h' : Below a.heap.size b c) : a.grownBy c row :=
  ⟨h'.os.trans h.os, h'.tape.trans h.tape, h'.output.trans h.output, Nat.le_trans h.size h'.size, fun k hk hne => (h'.block k hk).trans (h.block k hk hne)⟩
theorem grown_setCell (w : World) (g k : Nat) (u : Value) : w.grownBy (w.setCell ⟨g, k, none⟩ u) (some g) :=
  ⟨rfl, rfl, rfl, by simp [World.setCell], fun j _ hne => Below.heap_setCell _ _ _ _ (fun e => hne (by rw [e]))⟩
theorem grown_drewN {a b : World} {row : Option Nat} (h : a.grownBy b row) (n : Nat) : a.grownBy (b.drewN n) row := ⟨h.os, h.tape, h.output, h.size, h.block⟩
theorem grown_drew {a b : World} {row : Option Nat} (h : a.grownBy b row) : a.grownBy b.drew row := ⟨h.os, h.tape, h.output, h.size, h.block⟩
theorem grown_refl (a : World) (row : Option Nat) : a.grownBy a row := World.grownBy.refl a row
theorem below_grown {B : Nat} {a b : World} {row : Option Nat} (h : a.grownBy b row) (hB : B ≤ a.heap.size) (hr : ∀ k, row = some k → B ≤ k) : Below B a b := (Below.refl B a).grown h hB hr

theorem IsBytes.grown {w w' : World} {B : Nat} {A : Option Addr} {l : List Nat} {row : Option Nat} (h : IsBytes w B A l) (hg : w.grownBy w' row) (hB : B ≤ w.heap.size) (hr : ∀ k, row = some k → B ≤ k) : IsBytes w' B A l :=
  h.below (below_grown hg hB hr)
theorem IsInts.grown {w w' : World} {B : Nat} {A : Option Addr} {l : List Int} {row : Option Nat} (h : IsInts w B A l) (hg : w.grownBy w' row) (hB : B ≤ w.heap.size) (hr : ∀ k, row = some k → B ≤ k) : IsInts w' B A l :=
  h.below (below_grown hg hB hr)
theorem OwnsB.grown {e : TypeId} {w w' : World} {base c : Nat} {A : Option Addr} {l : List Nat} {row : Option Nat} (h : OwnsB e w base A c l) (hg : w.grownBy w' row) (hr : ∀ k, row = some k → k < base) : OwnsB e w' base A c l := by
  refine ⟨h.small, h.row.kept hg ?_⟩
  rcases ho : (Value.slice A l.length c).ownBlock with _ | g
  · exact .inl rfl
  · exact .inr (fun e => by have := hr g e.symm; have := (h.row.lt g ho).1; omega)
theorem OwnsI.grown {e : TypeId} {w w' : World} {base c : Nat} {A : Option Addr} {l : List Int} {row : Option Nat} (h : OwnsI e w base A c l) (hg : w.grownBy w' row) (hr : ∀ k, row = some k → k < base) : OwnsI e w' base A c l := by
  refine ⟨h.small, h.row.kept hg ?_⟩
  rcases ho : (Value.slice A l.length c).ownBlock with _ | g
  · exact .inl rfl
  · exact .inr (fun e => by have := hr g e.symm; have := (h.row.lt g ho).1; omega)
/-- what the call owns from a block on lies at that block or behind it -/
theorem OwnsB.rowLt {e : TypeId} {w : World} {base c : Nat} {A : Option Addr} {l : List Nat} (h : OwnsB e w base A c l) : ∀ k, (Value.slice A l.length c).ownBlock = some k → base ≤ k ∧ k < w.heap.size := h.row.lt
theorem OwnsI.rowLt {e : TypeId} {w : World} {base c : Nat} {A : Option Addr} {l : List Int} (h : OwnsI e w base A c l) : ∀ k, (Value.slice A l.length c).ownBlock = some k → base ≤ k ∧ k < w.heap.size := h.row.lt
theorem OwnsB.weaken {e : TypeId} {w : World} {base base' c : Nat} {A : Option Addr} {l : List Nat} (h : OwnsB e w base A c l) (hb : base' ≤ base) : OwnsB e w base' A c l := by
  refine ⟨h.small, h.row.1, ?_⟩
  rcases h.row.2 with h0 | ⟨g, cap, cur, h1, h2, h3⟩
  · exact .inl h0
  · exact .inr ⟨g, cap, cur, h1, by omega, h3⟩
theorem OwnsI.weaken {e : TypeId} {w : World} {base base' c : Nat} {A : Option Addr} {l : List Int} (h : OwnsI e w base A c l) (hb : base' ≤ base) : OwnsI e w base' A c l := by
  refine ⟨h.small, h.row.1, ?_⟩
  rcases h.row.2 with h0 | ⟨g, cap, cur, h1, h2, h3⟩
  · exact .inl h0
  · exact .inr ⟨g, cap, cur, h1, by omega, h3⟩
theorem OwnsB.alloc {e : TypeId} {w : World} {base c : Nat} {A : Option Addr} {l : List Nat} (h : OwnsB e w base A c l) (o : Obj) : OwnsB e (w.alloc o) base A c l := ⟨h.small, h.row.alloc o⟩
theorem OwnsI.alloc {e : TypeId} {w : World} {base c : Nat} {A : Option Addr} {l : List Int} (h : OwnsI e w base A c l) (o : Obj) : OwnsI e (w.alloc o) base A c l := ⟨h.small, h.row.alloc o⟩
theorem OwnsB.nil (e : TypeId) (w : World) (base : Nat) : OwnsB e w base none 0 [] := ⟨by simp, World.ownsRow_nil _ _ _ _⟩
theorem OwnsI.nil (e : TypeId) (w : World) (base : Nat) : OwnsI e w base none 0 [] := ⟨by simp, World.ownsRow_nil _ _ _ _⟩
/-- append of bytes, the length of what is there said apart -/
theorem wpList_append_bytesN {P : Program} {w : World} {ops : Array Oper} {rest : List Oper} {o : Oper} {a : Act} {Q : Exit → Act → World → Prop} (hgd : o.guard = none) (s x : Operand) (t : TypeId)
    (ho : o.op = .call { callee := .builtin .append, args := #[s, x], argTypes := #[t, t] })
    (base : Nat) (e : TypeId) (i : TypeInfo) (ht : P.underlying t = some (.slice e)) (hi : P.info? e = some i) (hz : i.zero = some (.int .u8 0)) (hsize : i.size = 1) (hby : i.bytes = 1)
    (A : Option Addr) (c : Nat) (l : List Nat) (n : Nat) (hln : l.length = n) (hs : a.eval s = .slice A n c) (hown : OwnsB e w base A c l)
    (B : Nat) (A' : Option Addr) (c' : Nat) (m : List Nat) (k : Nat) (hmk : m.length = k) (hx : a.eval x = .slice A' k c') (hnil : A' = none → c' = 0) (hr : IsBytes w B A' m)
    (L : List Nat) (hL : l ++ m = L) (hbytes : n + k ≤ 140737488355328) (hbase : base ≤ w.heap.size)
    (h : ∀ A2 c2 w', OwnsB e w' base A2 c2 L → Below base w w' → wpList P ops Q rest (a.put o.dst (.slice A2 (n + k) c2)) w') : wpList P ops Q (o :: rest) a w := by
  subst hln
  subst hmk
  subst hL
  exact wpList_append_bytes hgd s x t ho base e i ht hi hz hsize hby A c l hs hown B A' c' m hx hnil hr hbytes hbase fun A2 c2 w' h1 h2 => h A2 c2 w' h1 (below_grown h2 hbase fun k hk => (hown.row.lt k hk).1)
theorem wpList_append_intsN {P : Program} {w : World} {ops : Array Oper} {rest : List Oper} {o : Oper} {a : Act} {Q : Exit → Act → World → Prop} (hgd : o.guard = none) (s x : Operand) (t : TypeId)
    (ho : o.op = .call { callee := .builtin .append, args := #[s, x], argTypes := #[t, t] })
    (base : Nat) (e : TypeId) (i : TypeInfo) (ht : P.underlying t = some (.slice e)) (hi : P.info? e = some i) (hz : i.zero = some (.int .i64 0)) (hsize : i.size = 1) (hby : i.bytes = 8)
    (A : Option Addr) (c : Nat) (l : List Int) (n : Nat) (hln : l.length = n) (hs : a.eval s = .slice A n c) (hown : OwnsI e w base A c l)
    (B : Nat) (A' : Option Addr) (c' : Nat) (m : List Int) (k : Nat) (hmk : m.length = k) (hx : a.eval x = .slice A' k c') (hnil : A' = none → c' = 0) (hr : IsInts w B A' m)
    (L : List Int) (hL : l ++ m = L) (hbytes : (n + k) * 8 ≤ 140737488355328) (hbase : base ≤ w.heap.size)
    (h : ∀ A2 c2 w', OwnsI e w' base A2 c2 L → Below base w w' → wpList P ops Q rest (a.put o.dst (.slice A2 (n + k) c2)) w') : wpList P ops Q (o :: rest) a w := by
  subst hln
  subst hmk
  subst hL
  exact wpList_append_ints hgd s x t ho base e i ht hi hz hsize hby A c l hs hown B A' c' m hx hnil hr hbytes hbase fun A2 c2 w' h1 h2 => h A2 c2 w' h1 (below_grown h2 hbase fun k hk => (hown.row.lt k hk).1)
/-- append of one byte that the walk has just laid into a block of its own -/
theorem wpList_append_byteN {P : Program} {w : World} {ops : Array Oper} {rest : List Oper} {o : Oper} {a : Act} {Q : Exit → Act → World → Prop} (hgd : o.guard = none) (s x : Operand) (t : TypeId)
    (ho : o.op = .call { callee := .builtin .append, args := #[s, x], argTypes := #[t, t] })
    (base : Nat) (e : TypeId) (i : TypeInfo) (ht : P.underlying t = some (.slice e)) (hi : P.info? e = some i) (hz : i.zero = some (.int .u8 0)) (hsize : i.size = 1) (hby : i.bytes = 1)
    (A : Option Addr) (c : Nat) (l : List Nat) (n : Nat) (hln : l.length = n) (hs : a.eval s = .slice A n c) (hown : OwnsB e w base A c l)
    (ad : Addr) (c' : Nat) (y : Nat) (v : Int) (hyv : v = (y : Int)) (hy : y < 256) (hx : a.eval x = .slice (some ad) 1 c') (hc : w.cell? ad = some (.int .u8 v))
    (L : List Nat) (hL : l ++ [y] = L) (hbytes : n + 1 ≤ 140737488355328) (hbase : base ≤ w.heap.size)
    (h : ∀ A2 c2 w', OwnsB e w' base A2 c2 L → Below base w w' → wpList P ops Q rest (a.put o.dst (.slice A2 (n + 1) c2)) w') : wpList P ops Q (o :: rest) a w := by
  subst hln
  subst hL
  subst hyv
  refine wpList_append_own w hgd s x t ho base e i (.int .u8 0) 1 1 ht hi hz hsize hby rfl (by decide) _ l.length (bytes l) hs hown.row ad 1 c' [.int .u8 (y : Int)] hx rfl ?_ ?_ (by unfold maxLen; omega) (by omega) hbase ?_
  · intro j u hj
    match j, hj with
    | 0, hj => simp at hj; subst hj; simpa [Addr.add] using hc
  · intro u hu; simp at hu; subst hu; rfl
  · intro v' w' h1 h2 _
    obtain ⟨A2, c2, rfl⟩ := own_slice h1
    have e2 : bytes l ++ [Value.int .u8 (y : Int)] = bytes (l ++ [y]) := by unfold bytes; simp
    rw [e2] at h1
    refine h A2 c2 w' ⟨fun z hz => ?_, by rw [List.length_append]; exact h1⟩ (below_grown h2 hbase fun k hk => (hown.row.lt k hk).1)
    rcases List.mem_append.1 hz with hz | hz
    · exact hown.small z hz
    · simp at hz; subst hz; exact hy
theorem wpList_append_intN {P : Program} {w : World} {ops : Array Oper} {rest : List Oper} {o : Oper} {a : Act} {Q : Exit → Act → World → Prop} (hgd : o.guard = none) (s x : Operand) (t : TypeId)
    (ho : o.op = .call { callee := .builtin .append, args := #[s, x], argTypes := #[t, t] })
    (base : Nat) (e : TypeId) (i : TypeInfo) (ht : P.underlying t = some (.slice e)) (hi : P.info? e = some i) (hz : i.zero = some (.int .i64 0)) (hsize : i.size = 1) (hby : i.bytes = 8)
    (A : Option Addr) (c : Nat) (l : List Int) (n : Nat) (hln : l.length = n) (hs : a.eval s = .slice A n c) (hown : OwnsI e w base A c l)
    (ad : Addr) (c' : Nat) (v : Int) (hv : InInt v) (hx : a.eval x = .slice (some ad) 1 c') (hc : w.cell? ad = some (.int .i64 v))
    (L : List Int) (hL : l ++ [v] = L) (hbytes : (n + 1) * 8 ≤ 140737488355328) (hbase : base ≤ w.heap.size)
    (h : ∀ A2 c2 w', OwnsI e w' base A2 c2 L → Below base w w' → wpList P ops Q rest (a.put o.dst (.slice A2 (n + 1) c2)) w') : wpList P ops Q (o :: rest) a w := by
  subst hln
  subst hL
  refine wpList_append_own w hgd s x t ho base e i (.int .i64 0) 1 8 ht hi hz hsize hby rfl (by decide) _ l.length (ints l) hs hown.row ad 1 c' [.int .i64 v] hx rfl ?_ ?_ (by unfold maxLen; omega) (by omega) hbase ?_
  · intro j u hj
    match j, hj with
    | 0, hj => simp at hj; subst hj; simpa [Addr.add] using hc
  · intro u hu; simp at hu; subst hu; rfl
  · intro v' w' h1 h2 _
    obtain ⟨A2, c2, rfl⟩ := own_slice h1
    have e2 : ints l ++ [Value.int .i64 v] = ints (l ++ [v]) := by unfold ints; simp
    rw [e2] at h1
    refine h A2 c2 w' ⟨fun z hz => ?_, by rw [List.length_append]; exact h1⟩ (below_grown h2 hbase fun k hk => (hown.row.lt k hk).1)
    rcases List.mem_append.1 hz with hz | hz
    · exact hown.small z hz
    · simp at hz; subst hz; exact hv
/-- the block that an address lies in -/
def blk : Option Addr → Option Nat
  | some a => some a.block
  | none => none
theorem ownBlock_slice (A : Option Addr) (n c : Nat) : (Value.slice A n c).ownBlock = blk A := by cases A <;> rfl
/-- the same as wpList_append_byteN; and where the bytes lie from then on is said -/
theorem wpList_append_byteAt {P : Program} {w : World} {ops : Array Oper} {rest : List Oper} {o : Oper} {a : Act} {Q : Exit → Act → World → Prop} (hgd : o.guard = none) (s x : Operand) (t : TypeId)
    (ho : o.op = .call { callee := .builtin .append, args := #[s, x], argTypes := #[t, t] })
    (base : Nat) (e : TypeId) (i : TypeInfo) (ht : P.underlying t = some (.slice e)) (hi : P.info? e = some i) (hz : i.zero = some (.int .u8 0)) (hsize : i.size = 1) (hby : i.bytes = 1)
    (A : Option Addr) (c : Nat) (l : List Nat) (n : Nat) (hln : l.length = n) (hs : a.eval s = .slice A n c) (hown : OwnsB e w base A c l)
    (ad : Addr) (c' : Nat) (y : Nat) (v : Int) (hyv : v = (y : Int)) (hy : y < 256) (hx : a.eval x = .slice (some ad) 1 c') (hc : w.cell? ad = some (.int .u8 v))
    (L : List Nat) (hL : l ++ [y] = L) (hbytes : n + 1 ≤ 140737488355328) (hbase : base ≤ w.heap.size)
    (h : ∀ A2 c2 w', OwnsB e w' base A2 c2 L → Below base w w' → w.grownBy w' (blk A) → (blk A2 = blk A ∨ blk A2 = some w.heap.size) → wpList P ops Q rest (a.put o.dst (.slice A2 (n + 1) c2)) w') : wpList P ops Q (o :: rest) a w := by
  subst hln
  subst hL
  subst hyv
  refine wpList_append_own_at w hgd s x t ho base e i (.int .u8 0) 1 1 ht hi hz hsize hby rfl (by decide) _ l.length (bytes l) hs hown.row ad 1 c' [.int .u8 (y : Int)] hx rfl ?_ ?_ (by unfold maxLen; omega) (by omega) hbase ?_
  · intro j u hj
    match j, hj with
    | 0, hj => simp at hj; subst hj; simpa [Addr.add] using hc
  · intro u hu; simp at hu; subst hu; rfl
  · intro v' w' h1 h2 _ h4
    obtain ⟨A2, c2, rfl⟩ := own_slice h1
    have e2 : bytes l ++ [Value.int .u8 (y : Int)] = bytes (l ++ [y]) := by unfold bytes; simp
    rw [e2] at h1
    rw [ownBlock_slice, ownBlock_slice] at h4
    refine h A2 c2 w' ⟨fun z hz => ?_, by rw [List.length_append]; exact h1⟩ (below_grown h2 hbase fun k hk => (hown.row.lt k hk).1) (by rw [← ownBlock_slice A l.length c]; exact h2) h4
    rcases List.mem_append.1 hz with hz | hz
    · exact hown.small z hz
    · simp at hz; subst hz; exact hy
/-- a list that the text spells out, in a block of its own -/
theorem isBytes_new (w : World) (l : List Nat) (hs : ∀ x ∈ l, x < 256) (t : TypeId) (fr : Nat × Nat) :
    IsBytes (w.alloc (.cells (bytes l).toArray t fr)) (w.heap.size + 1) (some ⟨w.heap.size, 0, none⟩) l :=
  ⟨hs, fun _ _ => ⟨w.heap.size, 0, rfl, by omega, fun i hi => by
    rw [cell_of_row _ w.heap.size (0 + i) (bytes l).toArray t fr (heap_alloc_new w _), Nat.zero_add, List.getElem?_toArray]
    exact bytes_get l i hi⟩⟩
theorem isInts_new (w : World) (l : List Int) (hs : ∀ x ∈ l, InInt x) (t : TypeId) (fr : Nat × Nat) :
    IsInts (w.alloc (.cells (ints l).toArray t fr)) (w.heap.size + 1) (some ⟨w.heap.size, 0, none⟩) l :=
  ⟨hs, fun _ _ => ⟨w.heap.size, 0, rfl, by omega, fun i hi => by
    rw [cell_of_row _ w.heap.size (0 + i) (ints l).toArray t fr (heap_alloc_new w _), Nat.zero_add, List.getElem?_toArray]
    exact ints_get l i hi⟩⟩
/-- what the call owns: where it has no address it has no room -/
theorem OwnsB.none_ {e : TypeId} {w : World} {base c : Nat} {A : Option Addr} {l : List Nat} (h : OwnsB e w base A c l) : A = none → c = 0 := by
  rintro rfl
  rcases h.row.2 with ⟨hv, _⟩ | ⟨g, cap, cur, hv, _⟩
  · injection hv
  · cases hv
theorem OwnsB.grownN {e : TypeId} {w w' : World} {base c g : Nat} {l : List Nat} {row : Option Nat} (h : OwnsB e w base (some ⟨g, 0, none⟩) c l) (hg : w.grownBy w' row) (hne : row ≠ some g) : OwnsB e w' base (some ⟨g, 0, none⟩) c l :=
  ⟨h.small, h.row.kept hg (.inr fun e => hne e.symm)⟩
/-- where what the call owns lies -/
theorem OwnsB.blkLt {e : TypeId} {w : World} {base c : Nat} {A : Option Addr} {l : List Nat} (h : OwnsB e w base A c l) : ∀ k, blk A = some k → base ≤ k ∧ k < w.heap.size := by
  intro k hk; exact h.rowLt k (by rw [ownBlock_slice]; exact hk)
theorem OwnsI.blkLt {e : TypeId} {w : World} {base c : Nat} {A : Option Addr} {l : List Int} (h : OwnsI e w base A c l) : ∀ k, blk A = some k → base ≤ k ∧ k < w.heap.size := by
  intro k hk; exact h.rowLt k (by rw [ownBlock_slice]; exact hk)
end Go.Proofs.YtpigekbfngalbaaDoor
namespace Go.Proofs.YtpigekbfngalbaaDoor
open Go.RowKit

/-- of the blocks that there were none but those of S has turned -/
structure Turned (S : Nat → Prop) (w w' : World) : Prop where
  os : w'.os = w.os
  tape : w'.tape = w.tape
  output : w'.output = w.output
  size : w.heap.size ≤ w'.heap.size
  block : ∀ k, k < w.heap.size → ¬ S k → w'.heap[k]? = w.heap[k]?
namespace Turned
variable {S S' : Nat → Prop} {a b c w w' : World}
theorem refl (S : Nat → Prop) (w : World) : Turned S w w := ⟨rfl, rfl, rfl, Nat.le_refl _, fun _ _ _ => rfl⟩
theorem then_ (h : Turned S a b) (h' : Turned S' b c) (hs : ∀ k, k < a.heap.size → S' k → S k) : Turned S a c :=
  ⟨h'.os.trans h.os, h'.tape.trans h.tape, h'.output.trans h.output, Nat.le_trans h.size h'.size, fun k hk hn => (h'.block k (Nat.lt_of_lt_of_le hk h.size) (fun e => hn (hs k hk e))).trans (h.block k hk hn)⟩
theorem trans (h : Turned S a b) (h' : Turned S b c) : Turned S a c := h.then_ h' (fun _ _ h => h)
theorem mono (h : Turned S a b) (hs : ∀ k, S k → S' k) : Turned S' a b := ⟨h.os, h.tape, h.output, h.size, fun k hk hn => h.block k hk (fun e => hn (hs k e))⟩
theorem ofBelow (S : Nat → Prop) (h : Below a.heap.size a b) : Turned S a b := ⟨h.os, h.tape, h.output, h.size, fun k hk _ => h.block k hk⟩
theorem ofBelowB (S : Nat → Prop) {B : Nat} (h : Below B a b) (hs : ∀ k, B ≤ k → k < a.heap.size → S k) : Turned S a b :=
  ⟨h.os, h.tape, h.output, h.size, fun k hk hn => h.block k (by by_cases hb : k < B; exact hb; exact absurd (hs k (by omega) hk) hn)⟩
theorem ofGrown {row : Option Nat} (h : a.grownBy b row) (hs : ∀ k, row = some k → S k) : Turned S a b := ⟨h.os, h.tape, h.output, h.size, fun k hk hn => h.block k hk (fun e => hn (hs k e.symm))⟩
theorem drewN (h : Turned S a b) (n : Nat) : Turned S a (b.drewN n) := ⟨h.os, h.tape, h.output, h.size, h.block⟩
theorem drew (h : Turned S a b) : Turned S a b.drew := ⟨h.os, h.tape, h.output, h.size, h.block⟩
theorem ofDrewN (S : Nat → Prop) (a : World) (n : Nat) : Turned S a (a.drewN n) := (refl S a).drewN n
theorem alloc (h : Turned S a b) (o : Obj) : Turned S a (b.alloc o) := h.then_ (S' := S) (ofGrown (World.grownBy_alloc b o none) (fun k e => by cases e)) (fun _ _ h => h)
theorem setCell (h : Turned S a b) (g k : Nat) (u : Value) (hg : g < a.heap.size → S g) : Turned S a (b.setCell ⟨g, k, none⟩ u) :=
  h.then_ (S' := fun j => j = g) (ofGrown (grown_setCell b g k u) (fun j e => by injection e with e; exact e.symm)) (fun j hj e => by subst e; exact hg hj)
theorem one (w : World) (g k : Nat) (u : Value) : Turned (fun j => j = g) w (w.setCell ⟨g, k, none⟩ u) := ofGrown (grown_setCell w g k u) (fun j e => by injection e with e; exact e.symm)
theorem two (w : World) (g k k' : Nat) (u u' : Value) : Turned (fun j => j = g) w ((w.setCell ⟨g, k, none⟩ u).setCell ⟨g, k', none⟩ u') := (one w g k u).trans (one _ g k' u')
theorem three (w : World) (g k k' k'' : Nat) (u u' u'' : Value) : Turned (fun j => j = g) w (((w.setCell ⟨g, k, none⟩ u).setCell ⟨g, k', none⟩ u').setCell ⟨g, k'', none⟩ u'') := (two w g k k' u u').trans (one _ g k'' u'')
theorem below {B : Nat} (h : Turned S a b) (hB : B ≤ a.heap.size) (hs : ∀ k, S k → B ≤ k) : Below B a b :=
  ⟨h.os, h.tape, h.output, h.size, fun k hk => h.block k (by omega) (fun e => by have := hs k e; omega)⟩
theorem cell (h : Turned S a b) {p : Addr} (hp : p.block < a.heap.size) (hn : ¬ S p.block) : b.cell? p = a.cell? p := World.cell?_of_block (h.block p.block hp hn)
end Turned

theorem ownsRow_turned {w w' : World} {Z : Nat → Prop} {base : Nat} {e : TypeId} {size n : Nat} {v : Value} {xs : List Value} (h : w.ownsRow base e size v n xs) (ht : Turned Z w w') (ho : ∀ k, v.ownBlock = some k → ¬ Z k) : w'.ownsRow base e size v n xs := by
  refine ⟨h.1, ?_⟩
  rcases h.2 with h0 | ⟨g, cap, cur, h1, h2, h3, h4⟩
  · exact .inl h0
  · refine .inr ⟨g, cap, cur, h1, h2, ?_, h4⟩
    rw [ht.block g (Array.getElem?_eq_some_iff.1 h3).1 (ho g (by rw [h1]; rfl))]
    exact h3
end Go.Proofs.YtpigekbfngalbaaDoor
namespace Go.Proofs.YtpigekbfngalbaaDoor
open Go.RowKit

section
variable {α : Type} (f : α → List Value) (n : Nat) (hf : ∀ x, (f x).length = n)
include hf
theorem flat_len : ∀ L : List α, (L.flatMap f).length = L.length * n
  | [] => by simp
  | x :: r => by rw [List.flatMap_cons, List.length_append, hf, flat_len r, List.length_cons, Nat.succ_mul, Nat.add_comm]
theorem flat_get : ∀ (L : List α) (i : Nat) (hi : i < L.length) (k : Nat), k < n → (L.flatMap f)[i * n + k]? = (f L[i])[k]?
  | x :: r, 0, _, k, hk => by rw [List.flatMap_cons, Nat.zero_mul, Nat.zero_add, List.getElem?_append_left (by rw [hf]; exact hk)]; rfl
  | x :: r, i + 1, hi, k, hk => by
    rw [List.flatMap_cons, List.getElem?_append_right (by rw [hf, Nat.succ_mul]; omega), hf, show (i + 1) * n + k - n = i * n + k by rw [Nat.succ_mul]; omega]
    exact flat_get r i (by simpa using hi) k hk
theorem flat_erase : ∀ (L : List α) (i : Nat), i < L.length → (L.flatMap f).take (i * n) ++ (L.flatMap f).drop ((i + 1) * n) = (L.eraseIdx i).flatMap f
  | x :: r, 0, _ => by rw [List.flatMap_cons, Nat.zero_mul, List.take_zero, List.nil_append, Nat.zero_add, Nat.one_mul, List.drop_left' (hf x)]; rfl
  | x :: r, i + 1, hi => by
    have e1 : (i + 1) * n = (f x).length + i * n := by rw [hf, Nat.succ_mul]; omega
    have e2 : (i + 1 + 1) * n = (f x).length + (i + 1) * n := by rw [hf, Nat.succ_mul (i + 1)]; omega
    rw [List.flatMap_cons, e1, e2, List.take_length_add_append, List.drop_length_add_append, List.append_assoc, flat_erase r i (by simpa using hi)]
    rfl
theorem flat_set (x' : α) (k : Nat) (v : Value) : ∀ (L : List α) (i : Nat) (hi : i < L.length), k < n → f x' = (f L[i]).set k v → (L.set i x').flatMap f = (L.flatMap f).set (i * n + k) v
  | x :: r, 0, _, hk, he => by
    rw [List.set_cons_zero, List.flatMap_cons, List.flatMap_cons, Nat.zero_mul, Nat.zero_add, List.set_append_left _ _ (by rw [hf]; exact hk)]
    rw [he]; rfl
  | x :: r, i + 1, hi, hk, he => by
    have e1 : (i + 1) * n + k = (f x).length + (i * n + k) := by rw [hf, Nat.succ_mul]; omega
    rw [List.set_cons_succ, List.flatMap_cons, List.flatMap_cons, e1, List.set_append_right _ _ (by omega), Nat.add_sub_cancel_left, flat_set x' k v r i (by simpa using hi) hk (by simpa using he)]
end

/-- A row of the call's own, whose elements are laid flat by f, each in so many cells; its block is one of F. -/
structure RowIn {α : Type} (f : α → List Value) (size : Nat) (e : TypeId) (w : World) (F : Nat → Prop) (A : Option Addr) (c : Nat) (L : List α) : Prop where
  fits : ∀ x, (f x).length = size
  row : w.ownsRow 0 e size (.slice A L.length c) L.length (L.flatMap f)
  blk : ∀ k, blk A = some k → F k

namespace RowIn
variable {α : Type} {f : α → List Value} {size : Nat} {e : TypeId} {w w' : World} {F F' S : Nat → Prop} {A : Option Addr} {c : Nat} {L : List α}
theorem nil (hf : ∀ x, (f x).length = size) (e : TypeId) (w : World) (F : Nat → Prop) : RowIn f size e w F none 0 ([] : List α) :=
  ⟨hf, World.ownsRow_nil _ _ _ _, fun k h => by cases h⟩
theorem keep (h : RowIn f size e w F A c L) (ht : Turned S w w') (hd : ∀ k, Go.Proofs.YtpigekbfngalbaaDoor.blk A = some k → ¬ S k) : RowIn f size e w' F A c L :=
  ⟨h.fits, ownsRow_turned h.row ht (fun k hk => hd k (by rw [← ownBlock_slice A L.length c]; exact hk)), h.blk⟩
theorem mono (h : RowIn f size e w F A c L) (hF : ∀ k, Go.Proofs.YtpigekbfngalbaaDoor.blk A = some k → F' k) : RowIn f size e w F' A c L := ⟨h.fits, h.row, hF⟩
theorem lt (h : RowIn f size e w F A c L) : ∀ k, Go.Proofs.YtpigekbfngalbaaDoor.blk A = some k → k < w.heap.size := fun k hk => (h.row.lt k (by rw [ownBlock_slice]; exact hk)).2
theorem tag (h : RowIn f size e w F A c L) {k : Nat} (hk : Go.Proofs.YtpigekbfngalbaaDoor.blk A = some k) : ∃ cur, w.heap[k]? = some (.cells cur e (0, 0)) := by
  rcases h.row.2 with ⟨h0, _⟩ | ⟨g, cap, cur, hv, _, hh, _⟩
  · injection h0 with h0; rw [h0] at hk; cases hk
  · have hA : A = some ⟨g, 0, none⟩ := by injection hv
    rw [hA] at hk
    obtain rfl : g = k := by injection hk
    exact ⟨cur, hh⟩
theorem ne (h : RowIn f size e w F A c L) {g : Nat} {cs : Array Value} {t : TypeId} (hg : w.heap[g]? = some (.cells cs t (0, 0))) (hne : e ≠ t) : Go.Proofs.YtpigekbfngalbaaDoor.blk A ≠ some g := by
  intro hk
  obtain ⟨cur, hc⟩ := h.tag hk
  rw [hc] at hg
  exact hne (Obj.cells.inj (Option.some.inj hg)).2.1
theorem get (h : RowIn f size e w F A c L) (i : Nat) (hi : i < L.length) : ∃ g, A = some ⟨g, 0, none⟩ ∧ g < w.heap.size ∧ F g ∧ (∀ k, k < size → w.cell? ⟨g, i * size + k, none⟩ = (f L[i])[k]?) ∧ ∀ k, w.frozen? ⟨g, k, none⟩ = false := by
  rcases h.row.2 with ⟨_, h0⟩ | ⟨g, cap, cur, hv, _, hh, _⟩
  · omega
  · have hA : A = some ⟨g, 0, none⟩ := by injection hv
    subst hA
    refine ⟨g, rfl, (Array.getElem?_eq_some_iff.1 hh).1, h.blk g rfl, fun k hk => ?_, fun k => h.row.frozenAt k⟩
    have hlt : i * size + k < L.length * size := by
      have := Nat.mul_le_mul_right size (show i + 1 ≤ L.length by omega)
      rw [Nat.succ_mul] at this
      omega
    rw [h.row.cellAt _ hlt]
    exact flat_get f size h.fits L i hi k hk
theorem cap (h : RowIn f size e w F A c L) : L.length ≤ c := by
  rcases h.row.2 with ⟨h0, h1⟩ | ⟨g, cap, cur, hv, _, _, hc, _⟩
  · omega
  · have : c = cap := by injection hv
    omega
theorem capLe (h : RowIn f size e w F A c L) : c ≤ maxLen := by
  rcases h.row.2 with ⟨h0, h1⟩ | ⟨g, cap, cur, hv, _, _, hc, hm, _⟩
  · have : c = 0 := by injection h0
    omega
  · have : c = cap := by injection hv
    omega
theorem none_ (h : RowIn f size e w F A c L) : A = none → c = 0 := by
  rintro rfl
  rcases h.row.2 with ⟨h0, h1⟩ | ⟨g, cap, cur, hv, _⟩
  · injection h0
  · cases hv
theorem put (h : RowIn f size e w F A c L) {g : Nat} (hA : A = some ⟨g, 0, none⟩) (i k : Nat) (hi : i < L.length) (hk : k < size) (v : Value) (x' : α) (hx : f x' = (f L[i]).set k v) : RowIn f size e (w.setCell ⟨g, i * size + k, none⟩ v) F A c (L.set i x') := by
  subst hA
  refine ⟨h.fits, ?_, h.blk⟩
  rw [List.length_set, flat_set f size h.fits x' k v L i hi hk hx]
  exact (h.row.stored _ v).1
theorem below (h : RowIn f size e w F A c L) (hb : Below w.heap.size w w') : RowIn f size e w' F A c L := h.keep (S := fun _ => False) (Turned.ofBelow _ hb) (fun _ _ h => h)
end RowIn

/-- one element more -/
theorem run_append_row {P : Program} {α : Type} {f : α → List Value} {size bytes : Nat} {e : TypeId} {w : World} {F : Nat → Prop} {A : Option Addr} {c : Nat} {L : List α} (t ty : TypeId) (i : TypeInfo) (z : Value)
    (ht : P.underlying t = some (.slice e)) (hi : P.info? e = some i) (hz : i.zero = some z) (hsize : i.size = size) (hby : i.bytes = bytes) (hzs : z.cells.size = size) (hsz : 0 < size)
    (h : RowIn f size e w F A c L) (y : α) (ad : Addr) (c' : Nat) (hy : ∀ k, k < size → w.cell? (ad.add k) = (f y)[k]?) (h1 : ∀ u ∈ f y, u.oneCell' = true)
    (hb : (L.length + 1) * bytes ≤ 140737488355328) (hl : L.length + 1 ≤ 100000) :
    ∃ A2 c2 w', (Builtin.append_ #[t, t] ty #[.slice A L.length c, .slice (some ad) 1 c']).run P w = .ok (.slice A2 (L.length + 1) c2) w' ∧ RowIn f size e w' (fun k => F k ∨ w.heap.size ≤ k) A2 c2 (L ++ [y]) ∧ w.grownBy w' (blk A) ∧ (blk A2 = blk A ∨ blk A2 = some w.heap.size) := by
  obtain ⟨v', w', hr, h2, h3, _, h4⟩ := run_append_own_at (P := P) w 0 t ty e i z size bytes ht hi hz hsize hby hzs hsz _ L.length (L.flatMap f) h.row ad 1 c' (f y) (by rw [h.fits, Nat.one_mul])
    (fun j u hj => by
      have hlt : j < size := by have := (List.getElem?_eq_some_iff.1 hj).1; rwa [h.fits] at this
      rw [hy j hlt]; exact hj) h1 (by unfold maxLen; omega) hb (Nat.zero_le _)
  obtain ⟨A2, c2, rfl⟩ := own_slice h2
  rw [ownBlock_slice] at h3
  rw [ownBlock_slice, ownBlock_slice] at h4
  refine ⟨A2, c2, w', hr, ⟨h.fits, ?_, fun k hk => ?_⟩, h3, h4⟩
  · rw [List.length_append, List.flatMap_append]
    simpa using h2
  · rcases h4 with h4 | h4
    · exact .inl (h.blk k (by rw [← h4]; exact hk))
    · rw [h4] at hk
      injection hk with hk
      exact .inr (by omega)
/-- .. as an operation -/
theorem wp_append_row {P : Program} {w : World} {o : Oper} {a : Act} {K : Act → World → Prop} {Q : Exit → Act → World → Prop} (s x : Operand) (t : TypeId)
    (ho : o.op = .call { callee := .builtin .append, args := #[s, x], argTypes := #[t, t] }) {α : Type} {f : α → List Value} {size bytes : Nat} {e : TypeId} {F : Nat → Prop} {A : Option Addr} {c : Nat} {L : List α} (i : TypeInfo) (z : Value)
    (ht : P.underlying t = some (.slice e)) (hi : P.info? e = some i) (hz : i.zero = some z) (hsize : i.size = size) (hby : i.bytes = bytes) (hzs : z.cells.size = size) (hsz : 0 < size)
    (h : RowIn f size e w F A c L) (n : Nat) (hn : L.length = n) (hs : a.eval s = .slice A n c) (y : α) (ad : Addr) (c' : Nat) (hx : a.eval x = .slice (some ad) 1 c') (hy : ∀ k, k < size → w.cell? (ad.add k) = (f y)[k]?) (h1 : ∀ u ∈ f y, u.oneCell' = true)
    (hb : (n + 1) * bytes ≤ 140737488355328) (hl : n + 1 ≤ 100000)
    (hK : ∀ A2 c2 w', RowIn f size e w' (fun k => F k ∨ w.heap.size ≤ k) A2 c2 (L ++ [y]) → w.grownBy w' (blk A) → (blk A2 = blk A ∨ blk A2 = some w.heap.size) → K (a.put o.dst (.slice A2 (n + 1) c2)) w') : o.wp P a w K Q := by
  subst hn
  obtain ⟨A2, c2, w', hr, h2, h3, h4⟩ := run_append_row (P := P) t o.type i z ht hi hz hsize hby hzs hsz h y ad c' hy h1 hb hl
  unfold Oper.wp execOp
  simp only [ho, resolve, invoke, builtin, Sem.run_bind, Sem.run_pure, Result.andThen_ok, List.map_toArray, List.map_cons, List.map_nil, hs, hx, hr]
  exact hK A2 c2 w' h2 h3 h4
theorem step_append_row {P : Program} {w : World} {ops : Array Oper} {o : Oper} {a : Act} {K : Act → World → Prop} {Q : Exit → Act → World → Prop} {E : Prop} (hgd : o.guard = none) (s x : Operand) (t : TypeId)
    (ho : o.op = .call { callee := .builtin .append, args := #[s, x], argTypes := #[t, t] }) {α : Type} {f : α → List Value} {size bytes : Nat} {e : TypeId} {F : Nat → Prop} {A : Option Addr} {c : Nat} {L : List α} (i : TypeInfo) (z : Value)
    (ht : P.underlying t = some (.slice e)) (hi : P.info? e = some i) (hz : i.zero = some z) (hsize : i.size = size) (hby : i.bytes = bytes) (hzs : z.cells.size = size) (hsz : 0 < size)
    (h : RowIn f size e w F A c L) (n : Nat) (hn : L.length = n) (hs : a.eval s = .slice A n c) (y : α) (ad : Addr) (c' : Nat) (hx : a.eval x = .slice (some ad) 1 c') (hy : ∀ k, k < size → w.cell? (ad.add k) = (f y)[k]?) (h1 : ∀ u ∈ f y, u.oneCell' = true)
    (hb : (n + 1) * bytes ≤ 140737488355328) (hl : n + 1 ≤ 100000)
    (hK : ∀ A2 c2 w', RowIn f size e w' (fun k => F k ∨ w.heap.size ≤ k) A2 c2 (L ++ [y]) → w.grownBy w' (blk A) → (blk A2 = blk A ∨ blk A2 = some w.heap.size) → K (a.put o.dst (.slice A2 (n + 1) c2)) w') :
    if Region.wanted o (yielded ops a.tmps) = true then Oper.wp P o a w K Q else E := by
  have hw : Region.wanted o (yielded ops a.tmps) = true := by simp [Region.wanted, hgd]
  rw [if_pos hw]
  exact wp_append_row s x t ho i z ht hi hz hsize hby hzs hsz h n hn hs y ad c' hx hy h1 hb hl hK
theorem wpList_append_row {P : Program} {w : World} {ops : Array Oper} {rest : List Oper} {o : Oper} {a : Act} {Q : Exit → Act → World → Prop} (hgd : o.guard = none) (s x : Operand) (t : TypeId)
    (ho : o.op = .call { callee := .builtin .append, args := #[s, x], argTypes := #[t, t] }) {α : Type} {f : α → List Value} {size bytes : Nat} {e : TypeId} {F : Nat → Prop} {A : Option Addr} {c : Nat} {L : List α} (i : TypeInfo) (z : Value)
    (ht : P.underlying t = some (.slice e)) (hi : P.info? e = some i) (hz : i.zero = some z) (hsize : i.size = size) (hby : i.bytes = bytes) (hzs : z.cells.size = size) (hsz : 0 < size)
    (h : RowIn f size e w F A c L) (n : Nat) (hn : L.length = n) (hs : a.eval s = .slice A n c) (y : α) (ad : Addr) (c' : Nat) (hx : a.eval x = .slice (some ad) 1 c') (hy : ∀ k, k < size → w.cell? (ad.add k) = (f y)[k]?) (h1 : ∀ u ∈ f y, u.oneCell' = true)
    (hb : (n + 1) * bytes ≤ 140737488355328) (hl : n + 1 ≤ 100000)
    (hK : ∀ A2 c2 w', RowIn f size e w' (fun k => F k ∨ w.heap.size ≤ k) A2 c2 (L ++ [y]) → w.grownBy w' (blk A) → (blk A2 = blk A ∨ blk A2 = some w.heap.size) → wpList P ops Q rest (a.put o.dst (.slice A2 (n + 1) c2)) w') : wpList P ops Q (o :: rest) a w :=
  wpList_plain hgd fun _ hKK => wp_append_row s x t ho i z ht hi hz hsize hby hzs hsz h n hn hs y ad c' hx hy h1 hb hl fun A2 c2 w' h1 h2 h3 => hKK _ _ (hK A2 c2 w' h1 h2 h3)

/-- 'clear' of a part of a row, whatever its elements -/
theorem run_clear_sliceN {P : Program} (w : World) (t e ty : TypeId) (z : Value) (zs : List Value) (n c : Nat) (ht : P.underlying t = some (.slice e)) (hv : ∀ w, (zeroValue e).run P w = .ok z w) (hz : (Builtin.zeroCells z.cells n).toList = zs) (h1 : ∀ u ∈ zs, u.oneCell' = true) (b o : Nat) (hn : 0 < n)
    (hc : ∀ j, j < zs.length → (w.cell? ⟨b, o + j, none⟩).isSome = true) (hf : ∀ j, j < zs.length → w.frozen? ⟨b, o + j, none⟩ = false) :
    (Builtin.clear_ #[t] ty #[.slice (some ⟨b, o, none⟩) n c]).run P w = .ok (.tuple #[]) (w.setCells b o zs) := by
  have hst := run_storeCells_cells (P := P) b o zs 0 w (by simpa using hc) (by simpa using hf) h1
  simp only [Nat.add_zero] at hst
  obtain ⟨m, rfl⟩ : ∃ m, n = m + 1 := ⟨n - 1, by omega⟩
  simp [Builtin.clear_, run_underlying ht, hv, hz, hst]

/-- cells laid over a list -/
def setL : List Value → Nat → List Value → List Value
  | xs, _, [] => xs
  | xs, o, v :: r => setL (xs.set o v) (o + 1) r
theorem take_set_le {α : Type} (l : List α) (o j : Nat) (v : α) (h : o ≤ j) : (l.set j v).take o = l.take o := by
  apply List.ext_getElem?
  intro k
  rw [List.getElem?_take, List.getElem?_take]
  split
  · rw [List.getElem?_set_ne (by omega)]
  · rfl
theorem setL_ahead : ∀ (vs xs : List Value) (o j : Nat), j ≤ o → (setL xs o vs).take j = xs.take j
  | [], _, _, _, _ => rfl
  | v :: r, xs, o, j, h => by
    unfold setL
    rw [setL_ahead r _ _ _ (by omega), take_set_le _ _ _ _ h]
theorem setL_take : ∀ (vs xs : List Value) (o : Nat), o + vs.length ≤ xs.length → (setL xs o vs).take (o + vs.length) = xs.take o ++ vs
  | [], xs, o, _ => by simp [setL]
  | v :: r, xs, o, h => by
    rw [List.length_cons] at h
    unfold setL
    rw [List.length_cons, show o + (r.length + 1) = o + 1 + r.length by omega, setL_take r _ _ (by rw [List.length_set]; omega), List.take_succ_eq_append_getElem (by rw [List.length_set]; omega), take_set_le _ _ _ _ (Nat.le_refl _), List.getElem_set_self]
    simp
theorem ownsRow_setCells {base size n cap g : Nat} {e : TypeId} : ∀ (vs : List Value) (w : World) (xs : List Value) (o : Nat), w.ownsRow base e size (.slice (some ⟨g, 0, none⟩) n cap) n xs → (w.setCells g o vs).ownsRow base e size (.slice (some ⟨g, 0, none⟩) n cap) n (setL xs o vs)
  | [], _, _, _, h => h
  | v :: r, _, _, o, h => ownsRow_setCells r _ _ _ (h.stored o v).1
theorem ownsRow_shrink {w : World} {base size n m cap : Nat} {A : Option Addr} {e : TypeId} {xs : List Value} (h : w.ownsRow base e size (.slice A n cap) n xs) (hm : m ≤ n) : w.ownsRow base e size (.slice A m cap) m (xs.take (m * size)) := by
  have hle : m * size ≤ n * size := Nat.mul_le_mul_right _ hm
  refine ⟨by rw [List.length_take, h.1]; omega, ?_⟩
  rcases h.2 with ⟨h0, h1⟩ | ⟨g, cap', cur, hv, hg, hh, hc, hm2, hs, ht⟩
  · refine .inl ⟨?_, by omega⟩
    injection h0 with e1 e2 e3
    rw [e1, e3, show m = 0 by omega]
  · injection hv with e1 e2 e3
    subst e1
    subst e3
    refine .inr ⟨g, cap, cur, rfl, hg, hh, by omega, hm2, hs, ?_⟩
    rw [← ht, List.take_take, Nat.min_eq_left hle]
theorem turned_setCells (g : Nat) : ∀ (vs : List Value) (w : World) (o : Nat), Turned (fun k => k = g) w (w.setCells g o vs)
  | [], w, _ => Turned.refl _ w
  | v :: r, w, o => (Turned.one w g o v).trans (turned_setCells g r _ _)
end Go.Proofs.YtpigekbfngalbaaDoor
