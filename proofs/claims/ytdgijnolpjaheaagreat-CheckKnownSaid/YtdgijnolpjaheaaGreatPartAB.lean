/- Texts of the proof, one behind the other: Grown, SecMath, MapOf. -/
import Derived.Test.YtdgijnolpjaheaaGreatPartAA
import Derived.Maps.AppendAt
import Derived.Maps.OwnSet
import Derived.Lib.SlKeysI
namespace Go.Proofs.YtdgijnolpjaheaaGreat
open Go.RowKit

theorem ret_len {A : Option Addr} {n m c : Nat} (h : n = m) : Ending.returned (.slice A n c) = .returned (.slice A m c) := by rw [h]
theorem grown_trans {a b c : World} {row row' : Option Nat} (h : a.grownBy b row) (h' : b.grownBy c row') (hr : ∀ k, row' = some k → k < a.heap.size → row = some k) : a.grownBy c row :=
  ⟨h'.os.trans h.os, h'.tape.trans h.tape, h'.output.trans h.output, Nat.le_trans h.size h'.size, fun k hk hne =>
    (h'.block k (Nat.lt_of_lt_of_le hk h.size) (fun e => hne (hr k e.symm hk).symm)).trans (h.block k hk hne)⟩
theorem grown_below {a b : World} (h : Below a.heap.size a b) (row : Option Nat) : a.grownBy b row := ⟨h.os, h.tape, h.output, h.size, fun k hk _ => h.block k hk⟩
theorem grown_then {a b c : World} {row : Option Nat} (h : a.grownBy b row) (h' : Below a.heap.size b c) : a.grownBy c row :=
  ⟨h'.os.trans h.os, h'.tape.trans h.tape, h'.output.trans h.output, Nat.le_trans h.size h'.size, fun k hk hne => (h'.block k hk).trans (h.block k hk hne)⟩
theorem grown_setCell (w : World) (g k : Nat) (u : Value) : w.grownBy (w.setCell ⟨g, k, none⟩ u) (some g) :=
  ⟨rfl, rfl, rfl, by simp [World.setCell], fun j _ hne => Below.heap_setCell _ _ _ _ (fun e => hne (by rw [e]))⟩
theorem grown_drewN {a b : World} {row : Option Nat} (h : a.grownBy b row) (n : Nat) : a.grownBy (b.drewN n) row := ⟨h.os, h.tape, h.output, h.size, h.block⟩
theorem grown_drew {a b : World} {row : Option Nat} (h : a.grownBy b row) : a.grownBy b.drew row := ⟨h.os, h.tape, h.output, h.size, h.block⟩
theorem grown_refl (a : World) (row : Option Nat) : a.grownBy a row := World.grownBy.refl a row
theorem below_grown {B : Nat} {a b : World} {row : Option Nat} (h : a.grownBy b row) (hB : B ≤ a.heap.size) (hr : ∀ k, row = some k → B ≤ k) : Below B a b := (Below.refl B a).grown h hB hr

theorem IsBytes.grown {w w' : World} {B : Nat} {A : Option Addr} {l : List Nat} {row : Option Nat} (h : IsBytes w B A l) (hg : w.grownBy w' row) (hB : B ≤ w.heap.size) (hr : ∀ k, row = some k → B ≤ k) : IsBytes w' B A l :=
  h.below (below_grown hg hB hr)
theorem IsInts.grown {w w' : World} {B : Nat} {A : Option Addr} {l : List Int} {row : Option Nat} (h : IsInts w B A l) (hg : w.grownBy w' row) (hB : B ≤ w.heap.size) (hr : ∀ k, row = some k → B ≤ k) : IsInts w' B A l :=
  h.below (below_grown hg hB hr)
theorem OwnsB.grown {e : TypeId} {w w' : World} {base c : Nat} {A : Option Addr} {l : List Nat} {row : Option Nat} (h : OwnsB e w base A c l) (hg : w.grownBy w' row) (hr : ∀ k, row = some k → k < base) : OwnsB e w' base A c l := by
  refine ⟨h.small, h.row.kept hg ?_⟩
  rcases ho : (Value.slice A l.length c).ownBlock with _ | g
  · exact .inl rfl
  · exact .inr (fun e => by have := hr g e.symm; have := (h.row.lt g ho).1; omega)
theorem OwnsI.grown {e : TypeId} {w w' : World} {base c : Nat} {A : Option Addr} {l : List Int} {row : Option Nat} (h : OwnsI e w base A c l) (hg : w.grownBy w' row) (hr : ∀ k, row = some k → k < base) : OwnsI e w' base A c l := by
  refine ⟨h.small, h.row.kept hg ?_⟩
  rcases ho : (Value.slice A l.length c).ownBlock with _ | g
  · exact .inl rfl
  · exact .inr (fun e => by have := hr g e.symm; have := (h.row.lt g ho).1; omega)
/-- what the call owns from a block on lies at that block or behind it -/
theorem OwnsB.rowLt {e : TypeId} {w : World} {base c : Nat} {A : Option Addr} {l : List Nat} (h : OwnsB e w base A c l) : ∀ k, (Value.slice A l.length c).ownBlock = some k → base ≤ k ∧ k < w.heap.size := h.row.lt
theorem OwnsI.rowLt {e : TypeId} {w : World} {base c : Nat} {A : Option Addr} {l : List Int} (h : OwnsI e w base A c l) : ∀ k, (Value.slice A l.length c).ownBlock = some k → base ≤ k ∧ k < w.heap.size := h.row.lt
theorem OwnsB.weaken {e : TypeId} {w : World} {base base' c : Nat} {A : Option Addr} {l : List Nat} (h : OwnsB e w base A c l) (hb : base' ≤ base) : OwnsB e w base' A c l := by
  refine ⟨h.small, h.row.1, ?_⟩
  rcases h.row.2 with h0 | ⟨g, cap, cur, h1, h2, h3⟩
  · exact .inl h0
  · exact .inr ⟨g, cap, cur, h1, by omega, h3⟩
theorem OwnsI.weaken {e : TypeId} {w : World} {base base' c : Nat} {A : Option Addr} {l : List Int} (h : OwnsI e w base A c l) (hb : base' ≤ base) : OwnsI e w base' A c l := by
  refine ⟨h.small, h.row.1, ?_⟩
  rcases h.row.2 with h0 | ⟨g, cap, cur, h1, h2, h3⟩
  · exact .inl h0
  · exact .inr ⟨g, cap, cur, h1, by omega, h3⟩
theorem OwnsB.alloc {e : TypeId} {w : World} {base c : Nat} {A : Option Addr} {l : List Nat} (h : OwnsB e w base A c l) (o : Obj) : OwnsB e (w.alloc o) base A c l := ⟨h.small, h.row.alloc o⟩
theorem OwnsI.alloc {e : TypeId} {w : World} {base c : Nat} {A : Option Addr} {l : List Int} (h : OwnsI e w base A c l) (o : Obj) : OwnsI e (w.alloc o) base A c l := ⟨h.small, h.row.alloc o⟩
theorem OwnsB.nil (e : TypeId) (w : World) (base : Nat) : OwnsB e w base none 0 [] := ⟨by simp, World.ownsRow_nil _ _ _ _⟩
theorem OwnsI.nil (e : TypeId) (w : World) (base : Nat) : OwnsI e w base none 0 [] := ⟨by simp, World.ownsRow_nil _ _ _ _⟩
/-- append of bytes, the length of what is there said apart -/
theorem wpList_append_bytesN {P : Program} {w : World} {ops : Array Oper} {rest : List Oper} {o : Oper} {a : Act} {Q : Exit → Act → World → Prop} (hgd : o.guard = none) (s x : Operand) (t : TypeId)
    (ho : o.op = .call { callee := .builtin .append, args := #[s, x], argTypes := #[t, t] })
    (base : Nat) (e : TypeId) (i : TypeInfo) (ht : P.underlying t = some (.slice e)) (hi : P.info? e = some i) (hz : i.zero = some (.int .u8 0)) (hsize : i.size = 1) (hby : i.bytes = 1)
    (A : Option Addr) (c : Nat) (l : List Nat) (n : Nat) (hln : l.length = n) (hs : a.eval s = .slice A n c) (hown : OwnsB e w base A c l)
    (B : Nat) (A' : Option Addr) (c' : Nat) (m : List Nat) (k : Nat) (hmk : m.length = k) (hx : a.eval x = .slice A' k c') (hnil : A' = none → c' = 0) (hr : IsBytes w B A' m)
    (L : List Nat) (hL : l ++ m = L) (hbytes : n + k ≤ 140737488355328) (hbase : base ≤ w.heap.size)
    (h : ∀ A2 c2 w', OwnsB e w' base A2 c2 L → Below base w w' → wpList P ops Q rest (a.put o.dst (.slice A2 (n + k) c2)) w') : wpList P ops Q (o :: rest) a w := by
  subst hln
  subst hmk
  subst hL
  exact wpList_append_bytes hgd s x t ho base e i ht hi hz hsize hby A c l hs hown B A' c' m hx hnil hr hbytes hbase fun A2 c2 w' h1 h2 => h A2 c2 w' h1 (below_grown h2 hbase fun k hk => (hown.row.lt k hk).1)
theorem wpList_append_intsN {P : Program} {w : World} {ops : Array Oper} {rest : List Oper} {o : Oper} {a : Act} {Q : Exit → Act → World → Prop} (hgd : o.guard = none) (s x : Operand) (t : TypeId)
    (ho : o.op = .call { callee := .builtin .append, args := #[s, x], argTypes := #[t, t] })
    (base : Nat) (e : TypeId) (i : TypeInfo) (ht : P.underlying t = some (.slice e)) (hi : P.info? e = some i) (hz : i.zero = some (.int .i64 0)) (hsize : i.size = 1) (hby : i.bytes = 8)
    (A : Option Addr) (c : Nat) (l : List Int) (n : Nat) (hln : l.length = n) (hs : a.eval s = .slice A n c) (hown : OwnsI e w base A c l)
    (B : Nat) (A' : Option Addr) (c' : Nat) (m : List Int) (k : Nat) (hmk : m.length = k) (hx : a.eval x = .slice A' k c') (hnil : A' = none → c' = 0) (hr : IsInts w B A' m)
    (L : List Int) (hL : l ++ m = L) (hbytes : (n + k) * 8 ≤ 140737488355328) (hbase : base ≤ w.heap.size)
    (h : ∀ A2 c2 w', OwnsI e w' base A2 c2 L → Below base w w' → wpList P ops Q rest (a.put o.dst (.slice A2 (n + k) c2)) w') : wpList P ops Q (o :: rest) a w := by
  subst hln
  subst hmk
  subst hL
  exact wpList_append_ints hgd s x t ho base e i ht hi hz hsize hby A c l hs hown B A' c' m hx hnil hr hbytes hbase fun A2 c2 w' h1 h2 => h A2 c2 w' h1 (below_grown h2 hbase fun k hk => (hown.row.lt k hk).1)
/-- append of one byte that the walk has just laid into a block of its own -/
theorem wpList_append_byteN {P : Program} {w : World} {ops : Array Oper} {rest : List Oper} {o : Oper} {a : Act} {Q : Exit → Act → World → Prop} (hgd : o.guard = none) (s x : Operand) (t : TypeId)
    (ho : o.op = .call { callee := .builtin .append, args := #[s, x], argTypes := #[t, t] })
    (base : Nat) (e : TypeId) (i : TypeInfo) (ht : P.underlying t = some (.slice e)) (hi : P.info? e = some i) (hz : i.zero = some (.int .u8 0)) (hsize : i.size = 1) (hby : i.bytes = 1)
    (A : Option Addr) (c : Nat) (l : List Nat) (n : Nat) (hln : l.length = n) (hs : a.eval s = .slice A n c) (hown : OwnsB e w base A c l)
    (ad : Addr) (c' : Nat) (y : Nat) (v : Int) (hyv : v = (y : Int)) (hy : y < 256) (hx : a.eval x = .slice (some ad) 1 c') (hc : w.cell? ad = some (.int .u8 v))
    (L : List Nat) (hL : l ++ [y] = L) (hbytes : n + 1 ≤ 140737488355328) (hbase : base ≤ w.heap.size)
    (h : ∀ A2 c2 w', OwnsB e w' base A2 c2 L → Below base w w' → wpList P ops Q rest (a.put o.dst (.slice A2 (n + 1) c2)) w') : wpList P ops Q (o :: rest) a w := by
  subst hln
  subst hL
  subst hyv
  refine wpList_append_own w hgd s x t ho base e i (.int .u8 0) 1 1 ht hi hz hsize hby rfl (by decide) _ l.length (bytes l) hs hown.row ad 1 c' [.int .u8 (y : Int)] hx rfl ?_ ?_ (by unfold maxLen; omega) (by omega) hbase ?_
  · intro j u hj
    match j, hj with
    | 0, hj => simp at hj; subst hj; simpa [Addr.add] using hc
  · intro u hu; simp at hu; subst hu; rfl
  · intro v' w' h1 h2 _
    obtain ⟨A2, c2, rfl⟩ := own_slice h1
    have e2 : bytes l ++ [Value.int .u8 (y : Int)] = bytes (l ++ [y]) := by unfold bytes; simp
    rw [e2] at h1
    refine h A2 c2 w' ⟨fun z hz => ?_, by rw [List.length_append]; exact h1⟩ (below_grown h2 hbase fun k hk => (hown.row.lt k hk).1)
    rcases List.mem_append.1 hz with hz | hz
    · exact hown.small z hz
    · simp at hz; subst hz; exact hy
theorem wpList_append_intN {P : Program} {w : World} {ops : Array Oper} {rest : List Oper} {o : Oper} {a : Act} {Q : Exit → Act → World → Prop} (hgd : o.guard = none) (s x : Operand) (t : TypeId)
    (ho : o.op = .call { callee := .builtin .append, args := #[s, x], argTypes := #[t, t] })
    (base : Nat) (e : TypeId) (i : TypeInfo) (ht : P.underlying t = some (.slice e)) (hi : P.info? e = some i) (hz : i.zero = some (.int .i64 0)) (hsize : i.size = 1) (hby : i.bytes = 8)
    (A : Option Addr) (c : Nat) (l : List Int) (n : Nat) (hln : l.length = n) (hs : a.eval s = .slice A n c) (hown : OwnsI e w base A c l)
    (ad : Addr) (c' : Nat) (v : Int) (hv : InInt v) (hx : a.eval x = .slice (some ad) 1 c') (hc : w.cell? ad = some (.int .i64 v))
    (L : List Int) (hL : l ++ [v] = L) (hbytes : (n + 1) * 8 ≤ 140737488355328) (hbase : base ≤ w.heap.size)
    (h : ∀ A2 c2 w', OwnsI e w' base A2 c2 L → Below base w w' → wpList P ops Q rest (a.put o.dst (.slice A2 (n + 1) c2)) w') : wpList P ops Q (o :: rest) a w := by
  subst hln
  subst hL
  refine wpList_append_own w hgd s x t ho base e i (.int .i64 0) 1 8 ht hi hz hsize hby rfl (by decide) _ l.length (ints l) hs hown.row ad 1 c' [.int .i64 v] hx rfl ?_ ?_ (by unfold maxLen; omega) (by omega) hbase ?_
  · intro j u hj
    match j, hj with
    | 0, hj => simp at hj; subst hj; simpa [Addr.add] using hc
  · intro u hu; simp at hu; subst hu; rfl
  · intro v' w' h1 h2 _
    obtain ⟨A2, c2, rfl⟩ := own_slice h1
    have e2 : ints l ++ [Value.int .i64 v] = ints (l ++ [v]) := by unfold ints; simp
    rw [e2] at h1
    refine h A2 c2 w' ⟨fun z hz => ?_, by rw [List.length_append]; exact h1⟩ (below_grown h2 hbase fun k hk => (hown.row.lt k hk).1)
    rcases List.mem_append.1 hz with hz | hz
    · exact hown.small z hz
    · simp at hz; subst hz; exact hv
/-- the block that an address lies in -/
def blk : Option Addr → Option Nat
  | some a => some a.block
  | none => none
theorem ownBlock_slice (A : Option Addr) (n c : Nat) : (Value.slice A n c).ownBlock = blk A := by cases A <;> rfl
/-- the same as wpList_append_byteN; and where the bytes lie from then on is said -/
theorem wpList_append_byteAt {P : Program} {w : World} {ops : Array Oper} {rest : List Oper} {o : Oper} {a : Act} {Q : Exit → Act → World → Prop} (hgd : o.guard = none) (s x : Operand) (t : TypeId)
    (ho : o.op = .call { callee := .builtin .append, args := #[s, x], argTypes := #[t, t] })
    (base : Nat) (e : TypeId) (i : TypeInfo) (ht : P.underlying t = some (.slice e)) (hi : P.info? e = some i) (hz : i.zero = some (.int .u8 0)) (hsize : i.size = 1) (hby : i.bytes = 1)
    (A : Option Addr) (c : Nat) (l : List Nat) (n : Nat) (hln : l.length = n) (hs : a.eval s = .slice A n c) (hown : OwnsB e w base A c l)
    (ad : Addr) (c' : Nat) (y : Nat) (v : Int) (hyv : v = (y : Int)) (hy : y < 256) (hx : a.eval x = .slice (some ad) 1 c') (hc : w.cell? ad = some (.int .u8 v))
    (L : List Nat) (hL : l ++ [y] = L) (hbytes : n + 1 ≤ 140737488355328) (hbase : base ≤ w.heap.size)
    (h : ∀ A2 c2 w', OwnsB e w' base A2 c2 L → Below base w w' → w.grownBy w' (blk A) → (blk A2 = blk A ∨ blk A2 = some w.heap.size) → wpList P ops Q rest (a.put o.dst (.slice A2 (n + 1) c2)) w') : wpList P ops Q (o :: rest) a w := by
  subst hln
  subst hL
  subst hyv
  refine wpList_append_own_at w hgd s x t ho base e i (.int .u8 0) 1 1 ht hi hz hsize hby rfl (by decide) _ l.length (bytes l) hs hown.row ad 1 c' [.int .u8 (y : Int)] hx rfl ?_ ?_ (by unfold maxLen; omega) (by omega) hbase ?_
  · intro j u hj
    match j, hj with
    | 0, hj => simp at hj; subst hj; simpa [Addr.add] using hc
  · intro u hu; simp at hu; subst hu; rfl
  · intro v' w' h1 h2 _ h4
    obtain ⟨A2, c2, rfl⟩ := own_slice h1
    have e2 : bytes l ++ [Value.int .u8 (y : Int)] = bytes (l ++ [y]) := by unfold bytes; simp
    rw [e2] at h1
    rw [ownBlock_slice, ownBlock_slice] at h4
    refine h A2 c2 w' ⟨fun z hz => ?_, by rw [List.length_append]; exact h1⟩ (below_grown h2 hbase fun k hk => (hown.row.lt k hk).1) (by rw [← ownBlock_slice A l.length c]; exact h2) h4
    rcases List.mem_append.1 hz with hz | hz
    · exact hown.small z hz
    · simp at hz; subst hz; exact hy
/-- a list that the text spells out, in a block of its own -/
theorem isBytes_new (w : World) (l : List Nat) (hs : ∀ x ∈ l, x < 256) (t : TypeId) (fr : Nat × Nat) :
    IsBytes (w.alloc (.cells (bytes l).toArray t fr)) (w.heap.size + 1) (some ⟨w.heap.size, 0, none⟩) l :=
  ⟨hs, fun _ _ => ⟨w.heap.size, 0, rfl, by omega, fun i hi => by
    rw [cell_of_row _ w.heap.size (0 + i) (bytes l).toArray t fr (heap_alloc_new w _), Nat.zero_add, List.getElem?_toArray]
    exact bytes_get l i hi⟩⟩
theorem isInts_new (w : World) (l : List Int) (hs : ∀ x ∈ l, InInt x) (t : TypeId) (fr : Nat × Nat) :
    IsInts (w.alloc (.cells (ints l).toArray t fr)) (w.heap.size + 1) (some ⟨w.heap.size, 0, none⟩) l :=
  ⟨hs, fun _ _ => ⟨w.heap.size, 0, rfl, by omega, fun i hi => by
    rw [cell_of_row _ w.heap.size (0 + i) (ints l).toArray t fr (heap_alloc_new w _), Nat.zero_add, List.getElem?_toArray]
    exact ints_get l i hi⟩⟩
/-- what the call owns: where it has no address it has no room -/
theorem OwnsB.none_ {e : TypeId} {w : World} {base c : Nat} {A : Option Addr} {l : List Nat} (h : OwnsB e w base A c l) : A = none → c = 0 := by
  rintro rfl
  rcases h.row.2 with ⟨hv, _⟩ | ⟨g, cap, cur, hv, _⟩
  · injection hv
  · cases hv
theorem OwnsB.grownN {e : TypeId} {w w' : World} {base c g : Nat} {l : List Nat} {row : Option Nat} (h : OwnsB e w base (some ⟨g, 0, none⟩) c l) (hg : w.grownBy w' row) (hne : row ≠ some g) : OwnsB e w' base (some ⟨g, 0, none⟩) c l :=
  ⟨h.small, h.row.kept hg (.inr fun e => hne e.symm)⟩
/-- where what the call owns lies -/
theorem OwnsB.blkLt {e : TypeId} {w : World} {base c : Nat} {A : Option Addr} {l : List Nat} (h : OwnsB e w base A c l) : ∀ k, blk A = some k → base ≤ k ∧ k < w.heap.size := by
  intro k hk; exact h.rowLt k (by rw [ownBlock_slice]; exact hk)
theorem OwnsI.blkLt {e : TypeId} {w : World} {base c : Nat} {A : Option Addr} {l : List Int} (h : OwnsI e w base A c l) : ∀ k, blk A = some k → base ≤ k ∧ k < w.heap.size := by
  intro k hk; exact h.rowLt k (by rw [ownBlock_slice]; exact hk)
end Go.Proofs.YtdgijnolpjaheaaGreat
namespace Go.Proofs.YtdgijnolpjaheaaGreat
namespace Sx

def upd {α : Type} (f : Nat → α) (i : Nat) (x : α) : Nat → α := fun j => if j = i then x else f j
theorem upd_same {α : Type} (f : Nat → α) (i : Nat) (x : α) : upd f i x i = x := by simp [upd]
theorem upd_other {α : Type} (f : Nat → α) (i j : Nat) (x : α) (h : j ≠ i) : upd f i x j = f j := by simp [upd, h]

/-- n sectors: what is durable of each (its bytes; is it torn?), what the cache holds for it, the power -/
structure St where
  n : Nat
  dur : Nat → List Nat × Bool
  cache : Nat → Option (List Nat)
  armed : Bool
  left : Int
  down : Bool

def new (n : Nat) : St := ⟨n, fun _ => ([], false), fun _ => none, false, 0, false⟩
def St.dead (s : St) : Bool := s.armed && decide (s.left = 0)
def St.spent (s : St) : St := { s with left := if s.armed then s.left - 1 else s.left }
def St.off (s : St) : St := { s with down := true }
def spE (s : St) : Int := if s.dead then 10 else if s.down then 10 else 0
def spS (s : St) : St := if s.dead then s.off else if s.down then s else s.spent
def settle1 (c : Option (List Nat)) (d : List Nat × Bool) (f : Int) : List Nat × Bool :=
  match c with
  | none => d
  | some b => if f = 0 then d else if f = 1 then (b, false) else ([], true)
def settled (s : St) (i : Nat) (f : Int) : St := { s with dur := upd s.dur i (settle1 (s.cache i) (s.dur i) f) }
def dirtyTo (c : Nat → Option (List Nat)) (n : Nat) : List Nat := (List.range n).filter fun i => (c i).isSome
def dirty (s : St) : List Nat := dirtyTo s.cache s.n
def rk (s : St) (i : Nat) : Nat := (dirtyTo s.cache i).length
def fateAt (s : St) (l : List Int) (i : Nat) : Int := l.getD (rk s i) 0
def wrE (s : St) (i : Int) (b : List Nat) : Int := if s.down then 10 else if 0 ≤ i ∧ i < s.n then if 64 < b.length then 2 else spE s else 3
def wrS (s : St) (i : Int) (b : List Nat) : St :=
  if s.down then s else if 0 ≤ i ∧ i < s.n then if 64 < b.length then s else if s.dead then s.off else { s.spent with cache := upd s.cache i.toNat (some b) } else s
def flS (s : St) : St :=
  if s.dead then s.off else if s.down then s else { s.spent with dur := fun i => settle1 (s.cache i) (s.dur i) 1, cache := fun _ => none }
def crash (s : St) (l : List Int) : St :=
  { s with dur := fun i => settle1 (s.cache i) (s.dur i) (fateAt s l i), cache := fun _ => none, armed := false, left := 0, down := false }
def arm (s : St) (n : Int) : St := { s with armed := decide (0 ≤ n), left := n }
def rdE (s : St) (i : Int) : Int :=
  if 0 ≤ i ∧ i < s.n then match s.cache i.toNat with | some _ => 0 | none => if (s.dur i.toNat).2 then 9 else 0 else 3
def rdB (s : St) (i : Int) : List Nat :=
  if 0 ≤ i ∧ i < s.n then match s.cache i.toNat with | some b => b | none => if (s.dur i.toNat).2 then [] else (s.dur i.toNat).1 else []

theorem dirtyTo_succ (c : Nat → Option (List Nat)) (n : Nat) : dirtyTo c (n + 1) = dirtyTo c n ++ (if (c n).isSome then [n] else []) := by
  unfold dirtyTo
  rw [List.range_succ, List.filter_append]
  by_cases h : (c n).isSome <;> simp [h]
theorem mem_dirtyTo {c : Nat → Option (List Nat)} {n i : Nat} : i ∈ dirtyTo c n ↔ i < n ∧ (c i).isSome = true := by simp [dirtyTo]
theorem dirtyTo_rises (c : Nat → Option (List Nat)) (n : Nat) : (dirtyTo c n).Pairwise (· < ·) := List.Pairwise.filter _ List.pairwise_lt_range
theorem dirtyTo_nodup (c : Nat → Option (List Nat)) (n : Nat) : (dirtyTo c n).Nodup := (dirtyTo_rises c n).imp (fun h => Nat.ne_of_lt h)
theorem dirtyTo_length (c : Nat → Option (List Nat)) (n : Nat) : (dirtyTo c n).length ≤ n := by
  have := List.length_filter_le (fun i => (c i).isSome) (List.range n)
  simpa [dirtyTo] using this
theorem rk_get (c : Nat → Option (List Nat)) : ∀ n k, (h : k < (dirtyTo c n).length) → (dirtyTo c ((dirtyTo c n)[k])).length = k := by
  intro n
  induction n with
  | zero => intro k h; simp [dirtyTo] at h
  | succ n ih =>
    intro k h
    by_cases hk : k < (dirtyTo c n).length
    · have e : (dirtyTo c (n + 1))[k] = (dirtyTo c n)[k] := by
        simp only [dirtyTo_succ]
        rw [List.getElem_append_left hk]
      rw [e]
      exact ih k hk
    · have hl := h
      rw [dirtyTo_succ, List.length_append] at hl
      have hs : (c n).isSome = true := by
        cases hc : (c n).isSome
        · simp [hc] at hl; omega
        · rfl
      have hk2 : k = (dirtyTo c n).length := by simp [hs] at hl; omega
      subst hk2
      have e : (dirtyTo c (n + 1))[(dirtyTo c n).length] = n := by
        simp only [dirtyTo_succ, hs, if_true]
        rw [List.getElem_append_right (Nat.le_refl _)]
        simp
      rw [e]

/-- the first k of the dirty sectors are settled -/
def part (s : St) (F : Nat → Int) (k : Nat) : St := { s with dur := fun i => if i ∈ (dirty s).take k then settle1 (s.cache i) (s.dur i) (F i) else s.dur i }
theorem part_zero (s : St) (F : Nat → Int) : part s F 0 = s := by simp [part]
theorem part_step (s : St) (F : Nat → Int) (k : Nat) (h : k < (dirty s).length) : settled (part s F k) (dirty s)[k] (F (dirty s)[k]) = part s F (k + 1) := by
  have hn : (dirty s)[k] ∉ (dirty s).take k := by
    intro hm
    obtain ⟨j, hj, e⟩ := List.getElem_of_mem hm
    rw [List.length_take] at hj
    rw [List.getElem_take] at e
    have := (List.getElem_inj (dirtyTo_nodup s.cache s.n)).1 e
    omega
  unfold settled
  rw [show ({ part s F k with dur := upd (part s F k).dur (dirty s)[k] (settle1 ((part s F k).cache (dirty s)[k]) ((part s F k).dur (dirty s)[k]) (F (dirty s)[k])) } : St) = { s with dur := upd (part s F k).dur (dirty s)[k] (settle1 ((part s F k).cache (dirty s)[k]) ((part s F k).dur (dirty s)[k]) (F (dirty s)[k])) } from rfl]
  unfold part
  congr 1
  funext i
  unfold upd
  by_cases hi : i = (dirty s)[k]
  · subst hi
    simp only [if_true]
    rw [if_neg hn, if_pos]
    rw [List.take_succ_eq_append_getElem h]
    exact List.mem_append.2 (.inr (List.mem_singleton.2 rfl))
  · rw [if_neg hi]
    have : i ∈ (dirty s).take (k + 1) ↔ i ∈ (dirty s).take k := by
      rw [List.take_succ_eq_append_getElem h, List.mem_append, List.mem_singleton]
      exact ⟨fun h => h.resolve_right hi, .inl⟩
    simp [this]
theorem part_end (s : St) (F : Nat → Int) (i : Nat) (h : i < s.n) : (part s F (dirty s).length).dur i = settle1 (s.cache i) (s.dur i) (F i) := by
  unfold part
  simp only [List.take_length]
  by_cases hi : i ∈ dirty s
  · rw [if_pos hi]
  · rw [if_neg hi]
    have : s.cache i = none := by
      rcases hc : s.cache i with _ | b
      · rfl
      · exact absurd (mem_dirtyTo.2 ⟨h, by rw [hc]; rfl⟩) hi
    rw [this]
    rfl
theorem dirty_lt (s : St) (k : Nat) (h : k < (dirty s).length) : (dirty s)[k] < s.n ∧ ∃ b, s.cache (dirty s)[k] = some b := by
  have := mem_dirtyTo.1 (List.getElem_mem h)
  exact ⟨this.1, Option.isSome_iff_exists.1 this.2⟩
theorem fateAt_dirty (s : St) (l : List Int) (k : Nat) (h : k < (dirty s).length) : fateAt s l (dirty s)[k] = l.getD k 0 := by
  unfold fateAt rk
  have := rk_get s.cache s.n k h
  rw [show (dirtyTo s.cache (dirty s)[k]).length = k from this]
end Sx
end Go.Proofs.YtdgijnolpjaheaaGreat
namespace Go.Proofs.YtdgijnolpjaheaaGreat
namespace Sx
open Go.Maps

/-- an element of the map reads as itself -/
def valR (v : Value) : Option (DataW Value × List MemPlace) := some (.held v, [])
def one (a : Nat) : Option Value → List (Lit × DataW Value)
  | some v => [(.int .i64 (a : Int), .held v)]
  | none => []
def ents (f : Nat → Option Value) : Nat → Nat → List (Lit × DataW Value)
  | _, 0 => []
  | a, n + 1 => one a (f a) ++ ents f (a + 1) n
def mapOf (n : Nat) (f : Nat → Option Value) : DataW Value := .map (ents f 0 n)

theorem same_int (a b : Nat) : (Lit.int .i64 (a : Int)).sameKey (.int .i64 (b : Int)) = decide (a = b) := by
  simp only [Lit.sameKey, true_and]
  exact decide_eq_decide.2 Int.ofNat_inj
theorem before_int (a b : Nat) : (Lit.int .i64 (a : Int)).before (.int .i64 (b : Int)) = decide (a < b) := by
  simp [Lit.before]
theorem ents_cong {f g : Nat → Option Value} : ∀ (a n : Nat), (∀ i, a ≤ i → i < a + n → f i = g i) → ents f a n = ents g a n
  | _, 0, _ => rfl
  | a, n + 1, h => by
    unfold ents
    rw [h a (Nat.le_refl _) (by omega)]
    rw [ents_cong (a + 1) n (fun i h1 h2 => h i (by omega) (by omega))]
theorem ents_none (a n : Nat) : ents (fun _ => none) a n = [] := by
  induction n generalizing a with
  | zero => rfl
  | succ n ih => unfold ents; rw [ih]; rfl
theorem ents_key {f : Nat → Option Value} : ∀ (a n : Nat), ∀ p ∈ ents f a n, ∃ i, a ≤ i ∧ i < a + n ∧ p.1 = .int .i64 (i : Int)
  | _, 0, p, h => by simp [ents] at h
  | a, n + 1, p, h => by
    unfold ents at h
    rcases List.mem_append.1 h with h | h
    · rcases hf : f a with _ | v
      · rw [hf] at h; simp [one] at h
      · rw [hf] at h; simp [one] at h; subst h; exact ⟨a, Nat.le_refl _, by omega, rfl⟩
    · obtain ⟨i, h1, h2, h3⟩ := ents_key (a + 1) n p h
      exact ⟨i, by omega, by omega, h3⟩
theorem any_ents (f : Nat → Option Value) (k : Nat) : ∀ (a n : Nat), (ents f a n).any (fun p => p.1.sameKey (.int .i64 (k : Int))) = (decide (a ≤ k ∧ k < a + n) && (f k).isSome)
  | a, 0 => by simp [ents]; omega
  | a, n + 1 => by
    unfold ents
    rw [List.any_append, any_ents f k (a + 1) n]
    by_cases hk : k = a
    · subst hk
      rcases hf : f k with _ | v
      · simp [one]
      · simp [one, same_int]
    · have h1 : (one a (f a)).any (fun p => p.1.sameKey (.int .i64 (k : Int))) = false := by
        rcases hf : f a with _ | v
        · rfl
        · have : ¬ a = k := fun e => hk e.symm
          simp [one, same_int, this]
      rw [h1, Bool.false_or]
      congr 1
      exact decide_eq_decide.2 ⟨fun h => ⟨by omega, by omega⟩, fun h => ⟨by omega, by omega⟩⟩
theorem has_of (n : Nat) (f : Nat → Option Value) (k : Nat) (h : k < n) : Maps.has (mapOf n f) (.int .i64 (k : Int)) = (f k).isSome := by
  unfold mapOf
  rw [has_eq, any_ents]
  simp [h]
theorem find_ents (f : Nat → Option Value) (k : Nat) : ∀ (a n : Nat), a ≤ k → k < a + n → (ents f a n).find? (fun p => p.1.sameKey (.int .i64 (k : Int))) = (f k).map fun v => (.int .i64 (k : Int), .held v)
  | a, 0, h1, h2 => by omega
  | a, n + 1, h1, h2 => by
    unfold ents
    rw [List.find?_append]
    by_cases hk : k = a
    · subst hk
      rcases hf : f k with _ | v
      · simp only [one, List.find?_nil, Option.none_or, Option.map_none]
        rw [List.find?_eq_none]
        intro p hp
        obtain ⟨i, h3, _, h5⟩ := ents_key (k + 1) n p hp
        rw [h5, same_int]
        simp; omega
      · simp [one, same_int]
    · have h3 : (one a (f a)).find? (fun p => p.1.sameKey (.int .i64 (k : Int))) = none := by
        rcases hf : f a with _ | v
        · rfl
        · have : ¬ a = k := fun e => hk e.symm
          simp [one, same_int, this]
      rw [h3, Option.none_or]
      exact find_ents f k (a + 1) n (by omega) (by omega)
theorem atKey_of (n : Nat) (f : Nat → Option Value) (k : Nat) (h : k < n) (z : Value) : (mapOf n f).atKey (.int .i64 (k : Int)) (.held z) = .held ((f k).getD z) := by
  unfold mapOf DataW.atKey
  simp only
  rw [find_ents f k 0 n (Nat.zero_le _) (by omega)]
  rcases f k with _ | v <;> rfl
theorem insert_before (x : Lit × DataW Value) (l : List (Lit × DataW Value)) (h : ∀ p ∈ l, x.1.before p.1 = true) : DataW.insert x l = x :: l := by
  cases l with
  | nil => rfl
  | cons y r => unfold DataW.insert; rw [h y (List.mem_cons_self)]; rfl
theorem insert_behind (x : Lit × DataW Value) (l m : List (Lit × DataW Value)) (h : ∀ p ∈ l, x.1.before p.1 = false) : DataW.insert x (l ++ m) = l ++ DataW.insert x m := by
  induction l with
  | nil => rfl
  | cons y r ih =>
    rw [List.cons_append]
    conv => lhs; unfold DataW.insert
    rw [h y (List.mem_cons_self)]
    simp only [Bool.false_eq_true, if_false]
    rw [ih (fun p hp => h p (List.mem_cons_of_mem _ hp))]
    rfl
theorem put_ents (f : Nat → Option Value) (k : Nat) (v : Value) : ∀ (a n : Nat), a ≤ k → k < a + n →
    DataW.insert (.int .i64 (k : Int), .held v) ((ents f a n).filter fun p => !p.1.sameKey (.int .i64 (k : Int))) = ents (upd f k (some v)) a n
  | a, 0, h1, h2 => by omega
  | a, n + 1, h1, h2 => by
    unfold ents
    rw [List.filter_append]
    by_cases hk : k = a
    · subst hk
      rw [upd_same]
      have h3 : (ents f (k + 1) n).filter (fun p => !p.1.sameKey (.int .i64 (k : Int))) = ents f (k + 1) n := by
        refine List.filter_eq_self.2 fun p hp => ?_
        obtain ⟨i, h3, _, h5⟩ := ents_key (k + 1) n p hp
        rw [h5, same_int]
        simp; omega
      have h4 : (one k (f k)).filter (fun p => !p.1.sameKey (.int .i64 (k : Int))) = [] := by
        rcases hf : f k with _ | v
        · rfl
        · simp [one, same_int]
      rw [h3, h4, List.nil_append, insert_before]
      · rw [ents_cong (f := upd f k (some v)) (g := f) (k + 1) n (fun i h1 _ => upd_other _ _ _ _ (by omega))]
        rfl
      · intro p hp
        obtain ⟨i, h3, _, h5⟩ := ents_key (k + 1) n p hp
        rw [h5]
        show (Lit.int .i64 (k : Int)).before (.int .i64 (i : Int)) = true
        rw [before_int]
        simp; omega
    · rw [upd_other _ _ _ _ (fun e => hk e.symm)]
      have h4 : (one a (f a)).filter (fun p => !p.1.sameKey (.int .i64 (k : Int))) = (one a (f a)) := by
        rcases hf : f a with _ | v
        · rfl
        · have : ¬ a = k := fun e => hk e.symm
          simp [one, same_int, this]
      rw [h4, insert_behind, put_ents f k v (a + 1) n (by omega) (by omega)]
      intro p hp
      rcases hf : f a with _ | u
      · rw [hf] at hp; simp [one] at hp
      · rw [hf] at hp; simp [one] at hp; subst hp
        show (Lit.int .i64 (k : Int)).before (.int .i64 (a : Int)) = false
        rw [before_int]
        simp; omega
theorem put_of (n : Nat) (f : Nat → Option Value) (k : Nat) (h : k < n) (v : Value) : (mapOf n f).put (.int .i64 (k : Int)) (.held v) = mapOf n (upd f k (some v)) := by
  unfold mapOf DataW.put
  simp only
  rw [put_ents f k v 0 n (Nat.zero_le _) (by omega)]
theorem keys_ents (f : Nat → Option Value) : ∀ (a n : Nat), (ents f a n).map (fun p => Go.intOf p.1) = ((List.range' a n).filter fun i => (f i).isSome).map (fun (i : Nat) => (i : Int))
  | _, 0 => rfl
  | a, n + 1 => by
    unfold ents
    rw [List.map_append, keys_ents f (a + 1) n, List.range'_succ, List.filter_cons]
    rcases hf : f a with _ | v
    · simp [one]
    · simp [one, Go.intOf]
theorem keys_of (n : Nat) (f : Nat → Option Value) : intKeys (mapOf n f) = ((List.range n).filter fun i => (f i).isSome).map (fun (i : Nat) => (i : Int)) := by
  unfold mapOf intKeys
  simp only
  rw [keys_ents, List.range_eq_range']
theorem size_of (n : Nat) (f : Nat → Option Value) : Maps.size (mapOf n f) ≤ n := by
  unfold mapOf
  rw [size_eq]
  have h := congrArg List.length (keys_ents f 0 n)
  rw [List.length_map, List.length_map] at h
  rw [h]
  have := List.length_filter_le (fun i => (f i).isSome) (List.range' 0 n)
  simpa using this
/-- what was collected, sorted -/
theorem sorted_of (n : Nat) (f : Nat → Option Value) {ss : List Int} (h : ss.Perm (intKeys (mapOf n f))) : ss.mergeSort (fun x y => decide (x ≤ y)) = ((List.range n).filter fun i => (f i).isSome).map (fun (i : Nat) => (i : Int)) := by
  have h1 := mergeSort_of_perm_i h
  rw [keys_of] at h1
  refine h1.trans (List.mergeSort_of_pairwise ?_)
  rw [List.pairwise_map]
  refine ((List.pairwise_lt_range (n := n)).filter _).imp fun {a b} hab => ?_
  simp [leI]; omega
end Sx
/-- a bound on the entries, as near as the datum says -/
theorem ownsMap_tight {H : Type} {P : Program} {k : TypeId} {R : Value → Option (DataW H × List MemPlace)} {w : World} {b n m : Nat} {D : DataW H} (h : w.ownsMap P k R b n D) (hm : Maps.size D ≤ m) : w.ownsMap P k R b m D := by
  obtain ⟨es, clock, hb, F, hs, hD⟩ := h
  refine ⟨es, clock, hb, F, ?_, hD⟩
  have : Maps.size D = es.size := by rw [hD]; simp [Maps.size, length_sorted]
  omega
end Go.Proofs.YtdgijnolpjaheaaGreat
