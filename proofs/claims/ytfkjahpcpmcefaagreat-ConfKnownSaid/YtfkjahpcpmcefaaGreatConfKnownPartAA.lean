/- Texts of the proof, one behind the other: Mem, Ints, Grown, QuMath, CfMath, CfMath2, KitPick, Conf, KitIntEq, CopyInts, KitIntN, KitConf, PackMath, RlMath, ImMath, Turned, Flat. -/
import Derived.WalkKit
import Derived.WalkSpells
import Derived.Deep.Draws
import Derived.Laws.AppendOwnNone
import Derived.Maps.AppendAt
import Derived.Test.YtfkjahpcpmcefaaGreatRows
import Derived.Deep.QuietTactic
import Derived.BigQuiet
import Derived.Deep.RegionHeld3
import Init
import Derived.Laws.OwnMore
import Derived.Lib.SliceRun
namespace Go.Proofs.YtfkjahpcpmcefaaGreat
open Go.RowKit
theorem hid {p : Prop} (h : p) : Hid p := h
theorem below_drewN {B : Nat} {a w : World} (h : Below B a w) (n : Nat) : Below B a (w.drewN n) := ⟨h.os, h.tape, h.output, h.size, h.block⟩
def bytes (l : List Nat) : List Value := l.map fun (x : Nat) => Value.int .u8 (x : Int)
structure IsBytes (w : World) (B : Nat) (A : Option Addr) (l : List Nat) : Prop where
  small : ∀ x ∈ l, x < 256
  cells : ∀ k, k < l.length → ∃ b off, A = some ⟨b, off, none⟩ ∧ b < B ∧ ∀ i (h : i < l.length), w.cell? ⟨b, off + i, none⟩ = some (.int .u8 (l[i] : Nat))
namespace IsBytes
variable {w w' : World} {B B' : Nat} {A : Option Addr} {l : List Nat}
theorem nil : IsBytes w B A [] := ⟨by simp, fun k h => by simp at h⟩
theorem keep (h : IsBytes w B A l) (hk : ∀ p : Addr, p.block < B → w'.cell? p = w.cell? p) : IsBytes w' B A l :=
  ⟨h.small, fun k hl => by
    obtain ⟨b, off, e, hb, hc⟩ := h.cells k hl
    exact ⟨b, off, e, hb, fun i hi => (hk _ hb).trans (hc i hi)⟩⟩
theorem more (h : IsBytes w B A l) (hB : B ≤ B') : IsBytes w B' A l :=
  ⟨h.small, fun k hl => by
    obtain ⟨b, off, e, hb, hc⟩ := h.cells k hl
    exact ⟨b, off, e, by omega, hc⟩⟩
theorem below (h : IsBytes w B A l) (hb : Below B w w') : IsBytes w' B A l := h.keep fun _ hp => hb.cell hp
theorem take (h : IsBytes w B A l) (n : Nat) : IsBytes w B A (l.take n) := by
  refine ⟨fun x hx => h.small x (List.mem_of_mem_take hx), fun k hk => ?_⟩
  rw [List.length_take] at hk
  obtain ⟨b, off, e, hb, hc⟩ := h.cells k (by omega)
  refine ⟨b, off, e, hb, fun i hi => ?_⟩
  rw [List.length_take] at hi
  rw [List.getElem_take]
  exact hc i (by omega)
theorem drewN (h : IsBytes w B A l) (n : Nat) : IsBytes (w.drewN n) B A l := ⟨h.small, h.cells⟩
theorem drew (h : IsBytes w B A l) : IsBytes w.drew B A l := ⟨h.small, h.cells⟩
end IsBytes
structure OwnsB (e : TypeId) (w : World) (base : Nat) (A : Option Addr) (c : Nat) (l : List Nat) : Prop where
  small : ∀ x ∈ l, x < 256
  row : w.ownsRow base e 1 (.slice A l.length c) l.length (bytes l)
theorem bytes_get (l : List Nat) (k : Nat) (h : k < l.length) : (bytes l)[k]? = some (.int .u8 (l[k] : Nat)) := by
  unfold bytes; rw [List.getElem?_map, List.getElem?_eq_getElem h]; rfl
theorem own_slice {w : World} {base : Nat} {e : TypeId} {size n : Nat} {v : Value} {xs : List Value} (h : w.ownsRow base e size v n xs) : ∃ A c, v = .slice A n c := by
  rcases h.2 with ⟨rfl, h0⟩ | ⟨g, cap, cur, rfl, _⟩
  · exact ⟨none, 0, by rw [h0]⟩
  · exact ⟨_, _, rfl⟩
namespace OwnsB
variable {e : TypeId} {w w' : World} {base : Nat} {A : Option Addr} {c : Nat} {l : List Nat}
theorem reads (h : OwnsB e w base A c l) : IsBytes w w.heap.size A l := by
  refine ⟨h.small, fun k hk => ?_⟩
  rcases h.row.2 with ⟨_, h0⟩ | ⟨g, cap, cur, hv, hg, hh, _, _, _, _⟩
  · omega
  · have hA : A = some ⟨g, 0, none⟩ ∧ c = cap := by injection hv with h1 h2 h3; exact ⟨h1, h3⟩
    obtain ⟨rfl, rfl⟩ := hA
    refine ⟨g, 0, rfl, (h.row.lt g rfl).2, fun i hi => ?_⟩
    have := h.row.cells (g := g) rfl i _ (bytes_get l i hi)
    have e : (⟨g, 0, none⟩ : Addr).add i = ⟨g, 0 + i, none⟩ := by unfold Addr.add; split <;> simp [*]
    rw [e] at this
    exact this
theorem drew (h : OwnsB e w base A c l) : OwnsB e w.drew base A c l := ⟨h.small, h.row⟩
theorem drewN (h : OwnsB e w base A c l) (n : Nat) : OwnsB e (w.drewN n) base A c l := ⟨h.small, h.row⟩
theorem cap (h : OwnsB e w base A c l) : l.length ≤ c := by
  rcases h.row.2 with ⟨_, h0⟩ | ⟨g, cap, cur, hv, _, _, hc, _, _, _⟩
  · omega
  · have : c = cap := by injection hv
    omega
theorem below (h : OwnsB e w base A c l) (hb : Below w.heap.size w w') : OwnsB e w' base A c l := by
  refine ⟨h.small, h.row.kept (row := none) ⟨hb.os, hb.tape, hb.output, hb.size, fun k hk _ => hb.block k hk⟩ ?_⟩
  rcases ho : (Value.slice A l.length c).ownBlock with _ | g
  · exact .inl rfl
  · exact .inr (by simp)
theorem at_ (h : OwnsB e w base A c l) {k : Nat} (hk : k < l.length) : ∃ g, A = some ⟨g, 0, none⟩ ∧ base ≤ g ∧ g < w.heap.size ∧
    w.cell? ⟨g, k, none⟩ = some (.int .u8 (l[k] : Nat)) ∧ w.frozen? ⟨g, k, none⟩ = false := by
  rcases h.row.2 with ⟨_, h0⟩ | ⟨g, cap, cur, hv, hg, hh, _, _, _, _⟩
  · omega
  · have hA : A = some ⟨g, 0, none⟩ ∧ c = cap := by injection hv with h1 h2 h3; exact ⟨h1, h3⟩
    obtain ⟨rfl, rfl⟩ := hA
    refine ⟨g, rfl, hg, (h.row.lt g rfl).2, ?_, h.row.frozenAt k⟩
    rw [h.row.cellAt k (by omega)]
    exact bytes_get l k hk
theorem set_ {g : Nat} (h : OwnsB e w base (some ⟨g, 0, none⟩) c l) (k x : Nat) (hx : x < 256) :
    OwnsB e (w.setCell ⟨g, k, none⟩ (.int .u8 (x : Int))) base (some ⟨g, 0, none⟩) c (l.set k x) := by
  refine ⟨fun y hy => ?_, ?_⟩
  · rcases List.mem_or_eq_of_mem_set hy with hy | rfl
    · exact h.small y hy
    · exact hx
  · have := h.row.stored k (.int .u8 (x : Int))
    rw [List.length_set]
    rw [show bytes (l.set k x) = (bytes l).set k (.int .u8 (x : Int)) from by unfold bytes; rw [List.map_set]]
    exact this.1
end OwnsB
theorem IsBytes.news {w : World} {B : Nat} {ad : Addr} {l : List Nat} (h : IsBytes w B (some ad) l) : ∀ j u, (bytes l)[j]? = some u → w.cell? (ad.add j) = some u := by
  intro j u hu
  have hj : j < l.length := by
    have := (List.getElem?_eq_some_iff.1 hu).1
    simpa [bytes] using this
  obtain ⟨b, off, e, _, hc⟩ := h.cells j hj
  injection e with e
  subst e
  rw [bytes_get l j hj] at hu
  have hadd : (⟨b, off, none⟩ : Addr).add j = ⟨b, off + j, none⟩ := by unfold Addr.add; split <;> simp [*]
  rw [hadd, hc j hj]
  exact hu
theorem IsBytes.of_none {w : World} {B : Nat} {l : List Nat} (h : IsBytes w B none l) : l = [] := by
  rcases l with _ | ⟨x, l⟩
  · rfl
  · obtain ⟨b, off, e, _⟩ := h.cells 0 (by simp)
    cases e
theorem bytes_append (l m : List Nat) : bytes l ++ bytes m = bytes (l ++ m) := by unfold bytes; rw [List.map_append]
theorem bytes_oneCell (l : List Nat) : ∀ u ∈ bytes l, u.oneCell' = true := by
  intro u hu
  unfold bytes at hu
  obtain ⟨x, _, rfl⟩ := List.mem_map.1 hu
  rfl
theorem bytes_length (l : List Nat) : (bytes l).length = l.length := by simp [bytes]
theorem wpList_append_bytes {P : Program} {w : World} {ops : Array Oper} {rest : List Oper} {o : Oper} {a : Act} {Q : Exit → Act → World → Prop} (hgd : o.guard = none) (s x : Operand) (t : TypeId)
    (ho : o.op = .call { callee := .builtin .append, args := #[s, x], argTypes := #[t, t] })
    (base : Nat) (e : TypeId) (i : TypeInfo) (ht : P.underlying t = some (.slice e)) (hi : P.info? e = some i) (hz : i.zero = some (.int .u8 0)) (hsize : i.size = 1) (hby : i.bytes = 1)
    (A : Option Addr) (c : Nat) (l : List Nat) (hs : a.eval s = .slice A l.length c) (hown : OwnsB e w base A c l)
    (B : Nat) (A' : Option Addr) (c' : Nat) (m : List Nat) (hx : a.eval x = .slice A' m.length c') (hnil : A' = none → c' = 0) (hr : IsBytes w B A' m)
    (hbytes : l.length + m.length ≤ 140737488355328) (hbase : base ≤ w.heap.size)
    (h : ∀ A2 c2 w', OwnsB e w' base A2 c2 (l ++ m) → w.grownBy w' (Value.slice A l.length c).ownBlock → wpList P ops Q rest (a.put o.dst (.slice A2 (l.length + m.length) c2)) w') : wpList P ops Q (o :: rest) a w := by
  have hsm : ∀ y ∈ l ++ m, y < 256 := fun y hy => by
    rcases List.mem_append.1 hy with hy | hy
    · exact hown.small y hy
    · exact hr.small y hy
  rcases A' with _ | ad
  · obtain rfl := hr.of_none
    obtain rfl := hnil rfl
    refine wpList_append_own_none hgd s x t ho base e i 1 ht hi _ l.length (bytes l) hs hown.row hx ?_
    exact h A c w ⟨hsm, by simpa using hown.row⟩ (World.grownBy.refl w _)
  · refine wpList_append_own w hgd s x t ho base e i (.int .u8 0) 1 1 ht hi hz hsize hby rfl (by decide) _ l.length (bytes l) hs hown.row ad m.length c' (bytes m) hx (by rw [bytes_length]; omega) hr.news (bytes_oneCell m) (by unfold maxLen; omega) (by omega) hbase ?_
    intro v' w' h1 h2 _
    obtain ⟨A2, c2, rfl⟩ := own_slice h1
    rw [bytes_append] at h1
    exact h A2 c2 w' ⟨hsm, by rw [List.length_append]; exact h1⟩ h2
theorem ret_int {k : IntKind} {a b : Int} (h : a = b) : Ending.returned (.int k a) = .returned (.int k b) := by rw [h]
theorem add_off (b off m : Nat) : (⟨b, off, none⟩ : Addr).add m = ⟨b, off + m, none⟩ := by unfold Addr.add; split <;> simp [*]
theorem IsBytes.from {w : World} {B b off : Nat} {l : List Nat} (h : IsBytes w B (some ⟨b, off, none⟩) l) (m : Nat) : IsBytes w B (some ⟨b, off + m, none⟩) (l.drop m) := by
  refine ⟨fun x hx => h.small x (List.mem_of_mem_drop hx), fun k hk => ?_⟩
  rw [List.length_drop] at hk
  obtain ⟨b', off', e, hb, hc⟩ := h.cells 0 (by omega)
  injection e with e
  injection e with e1 e2
  subst e1
  subst e2
  refine ⟨b, off + m, rfl, hb, fun i hi => ?_⟩
  rw [List.length_drop] at hi
  rw [List.getElem_drop, Nat.add_assoc]
  exact hc (m + i) (by omega)
end Go.Proofs.YtfkjahpcpmcefaaGreat
namespace Go.Proofs.YtfkjahpcpmcefaaGreat
open Go.RowKit
def InInt (x : Int) : Prop := -9223372036854775808 ≤ x ∧ x ≤ 9223372036854775807
def ints (l : List Int) : List Value := l.map fun (x : Int) => Value.int .i64 x
structure IsInts (w : World) (B : Nat) (A : Option Addr) (l : List Int) : Prop where
  small : ∀ x ∈ l, InInt x
  cells : ∀ k, k < l.length → ∃ b off, A = some ⟨b, off, none⟩ ∧ b < B ∧ ∀ i (h : i < l.length), w.cell? ⟨b, off + i, none⟩ = some (.int .i64 l[i])
namespace IsInts
variable {w w' : World} {B B' : Nat} {A : Option Addr} {l : List Int}
theorem nil : IsInts w B A [] := ⟨by simp, fun k h => by simp at h⟩
theorem keep (h : IsInts w B A l) (hk : ∀ p : Addr, p.block < B → w'.cell? p = w.cell? p) : IsInts w' B A l :=
  ⟨h.small, fun k hl => by
    obtain ⟨b, off, e, hb, hc⟩ := h.cells k hl
    exact ⟨b, off, e, hb, fun i hi => (hk _ hb).trans (hc i hi)⟩⟩
theorem more (h : IsInts w B A l) (hB : B ≤ B') : IsInts w B' A l :=
  ⟨h.small, fun k hl => by
    obtain ⟨b, off, e, hb, hc⟩ := h.cells k hl
    exact ⟨b, off, e, by omega, hc⟩⟩
theorem below (h : IsInts w B A l) (hb : Below B w w') : IsInts w' B A l := h.keep fun _ hp => hb.cell hp
theorem take (h : IsInts w B A l) (n : Nat) : IsInts w B A (l.take n) := by
  refine ⟨fun x hx => h.small x (List.mem_of_mem_take hx), fun k hk => ?_⟩
  rw [List.length_take] at hk
  obtain ⟨b, off, e, hb, hc⟩ := h.cells k (by omega)
  refine ⟨b, off, e, hb, fun i hi => ?_⟩
  rw [List.length_take] at hi
  rw [List.getElem_take]
  exact hc i (by omega)
theorem drewN (h : IsInts w B A l) (n : Nat) : IsInts (w.drewN n) B A l := ⟨h.small, h.cells⟩
theorem drew (h : IsInts w B A l) : IsInts w.drew B A l := ⟨h.small, h.cells⟩
end IsInts
structure OwnsI (e : TypeId) (w : World) (base : Nat) (A : Option Addr) (c : Nat) (l : List Int) : Prop where
  small : ∀ x ∈ l, InInt x
  row : w.ownsRow base e 1 (.slice A l.length c) l.length (ints l)
theorem ints_get (l : List Int) (k : Nat) (h : k < l.length) : (ints l)[k]? = some (.int .i64 l[k]) := by
  unfold ints; rw [List.getElem?_map, List.getElem?_eq_getElem h]; rfl
namespace OwnsI
variable {e : TypeId} {w w' : World} {base : Nat} {A : Option Addr} {c : Nat} {l : List Int}
theorem reads (h : OwnsI e w base A c l) : IsInts w w.heap.size A l := by
  refine ⟨h.small, fun k hk => ?_⟩
  rcases h.row.2 with ⟨_, h0⟩ | ⟨g, cap, cur, hv, hg, hh, _, _, _, _⟩
  · omega
  · have hA : A = some ⟨g, 0, none⟩ ∧ c = cap := by injection hv with h1 h2 h3; exact ⟨h1, h3⟩
    obtain ⟨rfl, rfl⟩ := hA
    refine ⟨g, 0, rfl, (h.row.lt g rfl).2, fun i hi => ?_⟩
    have := h.row.cells (g := g) rfl i _ (ints_get l i hi)
    have e : (⟨g, 0, none⟩ : Addr).add i = ⟨g, 0 + i, none⟩ := by unfold Addr.add; split <;> simp [*]
    rw [e] at this
    exact this
theorem drew (h : OwnsI e w base A c l) : OwnsI e w.drew base A c l := ⟨h.small, h.row⟩
theorem drewN (h : OwnsI e w base A c l) (n : Nat) : OwnsI e (w.drewN n) base A c l := ⟨h.small, h.row⟩
theorem cap (h : OwnsI e w base A c l) : l.length ≤ c := by
  rcases h.row.2 with ⟨_, h0⟩ | ⟨g, cap, cur, hv, _, _, hc, _, _, _⟩
  · omega
  · have : c = cap := by injection hv
    omega
theorem below (h : OwnsI e w base A c l) (hb : Below w.heap.size w w') : OwnsI e w' base A c l := by
  refine ⟨h.small, h.row.kept (row := none) ⟨hb.os, hb.tape, hb.output, hb.size, fun k hk _ => hb.block k hk⟩ ?_⟩
  rcases ho : (Value.slice A l.length c).ownBlock with _ | g
  · exact .inl rfl
  · exact .inr (by simp)
theorem at_ (h : OwnsI e w base A c l) {k : Nat} (hk : k < l.length) : ∃ g, A = some ⟨g, 0, none⟩ ∧ base ≤ g ∧ g < w.heap.size ∧
    w.cell? ⟨g, k, none⟩ = some (.int .i64 l[k]) ∧ w.frozen? ⟨g, k, none⟩ = false := by
  rcases h.row.2 with ⟨_, h0⟩ | ⟨g, cap, cur, hv, hg, hh, _, _, _, _⟩
  · omega
  · have hA : A = some ⟨g, 0, none⟩ ∧ c = cap := by injection hv with h1 h2 h3; exact ⟨h1, h3⟩
    obtain ⟨rfl, rfl⟩ := hA
    refine ⟨g, rfl, hg, (h.row.lt g rfl).2, ?_, h.row.frozenAt k⟩
    rw [h.row.cellAt k (by omega)]
    exact ints_get l k hk
theorem set_ {g : Nat} (h : OwnsI e w base (some ⟨g, 0, none⟩) c l) (k : Nat) (x : Int) (hx : InInt x) :
    OwnsI e (w.setCell ⟨g, k, none⟩ (.int .i64 x)) base (some ⟨g, 0, none⟩) c (l.set k x) := by
  refine ⟨fun y hy => ?_, ?_⟩
  · rcases List.mem_or_eq_of_mem_set hy with hy | rfl
    · exact h.small y hy
    · exact hx
  · have := h.row.stored k (.int .i64 x)
    rw [List.length_set]
    rw [show ints (l.set k x) = (ints l).set k (.int .i64 x) from by unfold ints; rw [List.map_set]]
    exact this.1
end OwnsI
theorem IsInts.news {w : World} {B : Nat} {ad : Addr} {l : List Int} (h : IsInts w B (some ad) l) : ∀ j u, (ints l)[j]? = some u → w.cell? (ad.add j) = some u := by
  intro j u hu
  have hj : j < l.length := by
    have := (List.getElem?_eq_some_iff.1 hu).1
    simpa [ints] using this
  obtain ⟨b, off, e, _, hc⟩ := h.cells j hj
  injection e with e
  subst e
  rw [ints_get l j hj] at hu
  have hadd : (⟨b, off, none⟩ : Addr).add j = ⟨b, off + j, none⟩ := by unfold Addr.add; split <;> simp [*]
  rw [hadd, hc j hj]
  exact hu
theorem IsInts.of_none {w : World} {B : Nat} {l : List Int} (h : IsInts w B none l) : l = [] := by
  rcases l with _ | ⟨x, l⟩
  · rfl
  · obtain ⟨b, off, e, _⟩ := h.cells 0 (by simp)
    cases e
theorem ints_append (l m : List Int) : ints l ++ ints m = ints (l ++ m) := by unfold ints; rw [List.map_append]
theorem ints_oneCell (l : List Int) : ∀ u ∈ ints l, u.oneCell' = true := by
  intro u hu
  unfold ints at hu
  obtain ⟨x, _, rfl⟩ := List.mem_map.1 hu
  rfl
theorem ints_length (l : List Int) : (ints l).length = l.length := by simp [ints]
theorem wpList_append_ints {P : Program} {w : World} {ops : Array Oper} {rest : List Oper} {o : Oper} {a : Act} {Q : Exit → Act → World → Prop} (hgd : o.guard = none) (s x : Operand) (t : TypeId)
    (ho : o.op = .call { callee := .builtin .append, args := #[s, x], argTypes := #[t, t] })
    (base : Nat) (e : TypeId) (i : TypeInfo) (ht : P.underlying t = some (.slice e)) (hi : P.info? e = some i) (hz : i.zero = some (.int .i64 0)) (hsize : i.size = 1) (hby : i.bytes = 8)
    (A : Option Addr) (c : Nat) (l : List Int) (hs : a.eval s = .slice A l.length c) (hown : OwnsI e w base A c l)
    (B : Nat) (A' : Option Addr) (c' : Nat) (m : List Int) (hx : a.eval x = .slice A' m.length c') (hnil : A' = none → c' = 0) (hr : IsInts w B A' m)
    (hbytes : (l.length + m.length) * 8 ≤ 140737488355328) (hbase : base ≤ w.heap.size)
    (h : ∀ A2 c2 w', OwnsI e w' base A2 c2 (l ++ m) → w.grownBy w' (Value.slice A l.length c).ownBlock → wpList P ops Q rest (a.put o.dst (.slice A2 (l.length + m.length) c2)) w') : wpList P ops Q (o :: rest) a w := by
  have hsm : ∀ y ∈ l ++ m, InInt y := fun y hy => by
    rcases List.mem_append.1 hy with hy | hy
    · exact hown.small y hy
    · exact hr.small y hy
  rcases A' with _ | ad
  · obtain rfl := hr.of_none
    obtain rfl := hnil rfl
    refine wpList_append_own_none hgd s x t ho base e i 1 ht hi _ l.length (ints l) hs hown.row hx ?_
    exact h A c w ⟨hsm, by simpa using hown.row⟩ (World.grownBy.refl w _)
  · refine wpList_append_own w hgd s x t ho base e i (.int .i64 0) 1 8 ht hi hz hsize hby rfl (by decide) _ l.length (ints l) hs hown.row ad m.length c' (ints m) hx (by rw [ints_length]; omega) hr.news (ints_oneCell m) (by unfold maxLen; omega) (by omega) hbase ?_
    intro v' w' h1 h2 _
    obtain ⟨A2, c2, rfl⟩ := own_slice h1
    rw [ints_append] at h1
    exact h A2 c2 w' ⟨hsm, by rw [List.length_append]; exact h1⟩ h2
end Go.Proofs.YtfkjahpcpmcefaaGreat
namespace Go.Proofs.YtfkjahpcpmcefaaGreat
open Go.RowKit
theorem ret_len {A : Option Addr} {n m c : Nat} (h : n = m) : Ending.returned (.slice A n c) = .returned (.slice A m c) := by rw [h]
theorem grown_trans {a b c : World} {row row' : Option Nat} (h : a.grownBy b row) (h' : b.grownBy c row') (hr : ∀ k, row' = some k → k < a.heap.size → row = some k) : a.grownBy c row :=
  ⟨h'.os.trans h.os, h'.tape.trans h.tape, h'.output.trans h.output, Nat.le_trans h.size h'.size, fun k hk hne =>
    (h'.block k (Nat.lt_of_lt_of_le hk h.size) (fun e => hne (hr k e.symm hk).symm)).trans (h.block k hk hne)⟩
theorem grown_below {a b : World} (h : Below a.heap.size a b) (row : Option Nat) : a.grownBy b row := ⟨h.os, h.tape, h.output, h.size, fun k hk _ => h.block k hk⟩
theorem grown_then {a b c : World} {row : Option Nat} (h : a.grownBy b row) (h' : Below a.heap.size b c) : a.grownBy c row :=
  ⟨h'.os.trans h.os, h'.tape.trans h.tape, h'.output.trans h.output, Nat.le_trans h.size h'.size, fun k hk hne => (h'.block k hk).trans (h.block k hk hne)⟩
theorem grown_setCell (w : World) (g k : Nat) (u : Value) : w.grownBy (w.setCell ⟨g, k, none⟩ u) (some g) :=
  ⟨rfl, rfl, rfl, by simp [World.setCell], fun j _ hne => Below.heap_setCell _ _ _ _ (fun e => hne (by rw [e]))⟩
theorem grown_drewN {a b : World} {row : Option Nat} (h : a.grownBy b row) (n : Nat) : a.grownBy (b.drewN n) row := ⟨h.os, h.tape, h.output, h.size, h.block⟩
theorem grown_drew {a b : World} {row : Option Nat} (h : a.grownBy b row) : a.grownBy b.drew row := ⟨h.os, h.tape, h.output, h.size, h.block⟩
theorem grown_refl (a : World) (row : Option Nat) : a.grownBy a row := World.grownBy.refl a row
theorem below_grown {B : Nat} {a b : World} {row : Option Nat} (h : a.grownBy b row) (hB : B ≤ a.heap.size) (hr : ∀ k, row = some k → B ≤ k) : Below B a b := (Below.refl B a).grown h hB hr
theorem IsBytes.grown {w w' : World} {B : Nat} {A : Option Addr} {l : List Nat} {row : Option Nat} (h : IsBytes w B A l) (hg : w.grownBy w' row) (hB : B ≤ w.heap.size) (hr : ∀ k, row = some k → B ≤ k) : IsBytes w' B A l :=
  h.below (below_grown hg hB hr)
theorem IsInts.grown {w w' : World} {B : Nat} {A : Option Addr} {l : List Int} {row : Option Nat} (h : IsInts w B A l) (hg : w.grownBy w' row) (hB : B ≤ w.heap.size) (hr : ∀ k, row = some k → B ≤ k) : IsInts w' B A l :=
  h.below (below_grown hg hB hr)
theorem OwnsB.grown {e : TypeId} {w w' : World} {base c : Nat} {A : Option Addr} {l : List Nat} {row : Option Nat} (h : OwnsB e w base A c l) (hg : w.grownBy w' row) (hr : ∀ k, row = some k → k < base) : OwnsB e w' base A c l := by
  refine ⟨h.small, h.row.kept hg ?_⟩
  rcases ho : (Value.slice A l.length c).ownBlock with _ | g
  · exact .inl rfl
  · exact .inr (fun e => by have := hr g e.symm; have := (h.row.lt g ho).1; omega)
theorem OwnsI.grown {e : TypeId} {w w' : World} {base c : Nat} {A : Option Addr} {l : List Int} {row : Option Nat} (h : OwnsI e w base A c l) (hg : w.grownBy w' row) (hr : ∀ k, row = some k → k < base) : OwnsI e w' base A c l := by
  refine ⟨h.small, h.row.kept hg ?_⟩
  rcases ho : (Value.slice A l.length c).ownBlock with _ | g
  · exact .inl rfl
  · exact .inr (fun e => by have := hr g e.symm; have := (h.row.lt g ho).1; omega)
theorem OwnsB.rowLt {e : TypeId} {w : World} {base c : Nat} {A : Option Addr} {l : List Nat} (h : OwnsB e w base A c l) : ∀ k, (Value.slice A l.length c).ownBlock = some k → base ≤ k ∧ k < w.heap.size := h.row.lt
theorem OwnsI.rowLt {e : TypeId} {w : World} {base c : Nat} {A : Option Addr} {l : List Int} (h : OwnsI e w base A c l) : ∀ k, (Value.slice A l.length c).ownBlock = some k → base ≤ k ∧ k < w.heap.size := h.row.lt
theorem OwnsB.weaken {e : TypeId} {w : World} {base base' c : Nat} {A : Option Addr} {l : List Nat} (h : OwnsB e w base A c l) (hb : base' ≤ base) : OwnsB e w base' A c l := by
  refine ⟨h.small, h.row.1, ?_⟩
  rcases h.row.2 with h0 | ⟨g, cap, cur, h1, h2, h3⟩
  · exact .inl h0
  · exact .inr ⟨g, cap, cur, h1, by omega, h3⟩
theorem OwnsI.weaken {e : TypeId} {w : World} {base base' c : Nat} {A : Option Addr} {l : List Int} (h : OwnsI e w base A c l) (hb : base' ≤ base) : OwnsI e w base' A c l := by
  refine ⟨h.small, h.row.1, ?_⟩
  rcases h.row.2 with h0 | ⟨g, cap, cur, h1, h2, h3⟩
  · exact .inl h0
  · exact .inr ⟨g, cap, cur, h1, by omega, h3⟩
theorem OwnsB.alloc {e : TypeId} {w : World} {base c : Nat} {A : Option Addr} {l : List Nat} (h : OwnsB e w base A c l) (o : Obj) : OwnsB e (w.alloc o) base A c l := ⟨h.small, h.row.alloc o⟩
theorem OwnsI.alloc {e : TypeId} {w : World} {base c : Nat} {A : Option Addr} {l : List Int} (h : OwnsI e w base A c l) (o : Obj) : OwnsI e (w.alloc o) base A c l := ⟨h.small, h.row.alloc o⟩
theorem OwnsB.nil (e : TypeId) (w : World) (base : Nat) : OwnsB e w base none 0 [] := ⟨by simp, World.ownsRow_nil _ _ _ _⟩
theorem OwnsI.nil (e : TypeId) (w : World) (base : Nat) : OwnsI e w base none 0 [] := ⟨by simp, World.ownsRow_nil _ _ _ _⟩
theorem wpList_append_bytesN {P : Program} {w : World} {ops : Array Oper} {rest : List Oper} {o : Oper} {a : Act} {Q : Exit → Act → World → Prop} (hgd : o.guard = none) (s x : Operand) (t : TypeId)
    (ho : o.op = .call { callee := .builtin .append, args := #[s, x], argTypes := #[t, t] })
    (base : Nat) (e : TypeId) (i : TypeInfo) (ht : P.underlying t = some (.slice e)) (hi : P.info? e = some i) (hz : i.zero = some (.int .u8 0)) (hsize : i.size = 1) (hby : i.bytes = 1)
    (A : Option Addr) (c : Nat) (l : List Nat) (n : Nat) (hln : l.length = n) (hs : a.eval s = .slice A n c) (hown : OwnsB e w base A c l)
    (B : Nat) (A' : Option Addr) (c' : Nat) (m : List Nat) (k : Nat) (hmk : m.length = k) (hx : a.eval x = .slice A' k c') (hnil : A' = none → c' = 0) (hr : IsBytes w B A' m)
    (L : List Nat) (hL : l ++ m = L) (hbytes : n + k ≤ 140737488355328) (hbase : base ≤ w.heap.size)
    (h : ∀ A2 c2 w', OwnsB e w' base A2 c2 L → Below base w w' → wpList P ops Q rest (a.put o.dst (.slice A2 (n + k) c2)) w') : wpList P ops Q (o :: rest) a w := by
  subst hln
  subst hmk
  subst hL
  exact wpList_append_bytes hgd s x t ho base e i ht hi hz hsize hby A c l hs hown B A' c' m hx hnil hr hbytes hbase fun A2 c2 w' h1 h2 => h A2 c2 w' h1 (below_grown h2 hbase fun k hk => (hown.row.lt k hk).1)
theorem wpList_append_intsN {P : Program} {w : World} {ops : Array Oper} {rest : List Oper} {o : Oper} {a : Act} {Q : Exit → Act → World → Prop} (hgd : o.guard = none) (s x : Operand) (t : TypeId)
    (ho : o.op = .call { callee := .builtin .append, args := #[s, x], argTypes := #[t, t] })
    (base : Nat) (e : TypeId) (i : TypeInfo) (ht : P.underlying t = some (.slice e)) (hi : P.info? e = some i) (hz : i.zero = some (.int .i64 0)) (hsize : i.size = 1) (hby : i.bytes = 8)
    (A : Option Addr) (c : Nat) (l : List Int) (n : Nat) (hln : l.length = n) (hs : a.eval s = .slice A n c) (hown : OwnsI e w base A c l)
    (B : Nat) (A' : Option Addr) (c' : Nat) (m : List Int) (k : Nat) (hmk : m.length = k) (hx : a.eval x = .slice A' k c') (hnil : A' = none → c' = 0) (hr : IsInts w B A' m)
    (L : List Int) (hL : l ++ m = L) (hbytes : (n + k) * 8 ≤ 140737488355328) (hbase : base ≤ w.heap.size)
    (h : ∀ A2 c2 w', OwnsI e w' base A2 c2 L → Below base w w' → wpList P ops Q rest (a.put o.dst (.slice A2 (n + k) c2)) w') : wpList P ops Q (o :: rest) a w := by
  subst hln
  subst hmk
  subst hL
  exact wpList_append_ints hgd s x t ho base e i ht hi hz hsize hby A c l hs hown B A' c' m hx hnil hr hbytes hbase fun A2 c2 w' h1 h2 => h A2 c2 w' h1 (below_grown h2 hbase fun k hk => (hown.row.lt k hk).1)
theorem wpList_append_intN {P : Program} {w : World} {ops : Array Oper} {rest : List Oper} {o : Oper} {a : Act} {Q : Exit → Act → World → Prop} (hgd : o.guard = none) (s x : Operand) (t : TypeId)
    (ho : o.op = .call { callee := .builtin .append, args := #[s, x], argTypes := #[t, t] })
    (base : Nat) (e : TypeId) (i : TypeInfo) (ht : P.underlying t = some (.slice e)) (hi : P.info? e = some i) (hz : i.zero = some (.int .i64 0)) (hsize : i.size = 1) (hby : i.bytes = 8)
    (A : Option Addr) (c : Nat) (l : List Int) (n : Nat) (hln : l.length = n) (hs : a.eval s = .slice A n c) (hown : OwnsI e w base A c l)
    (ad : Addr) (c' : Nat) (v : Int) (hv : InInt v) (hx : a.eval x = .slice (some ad) 1 c') (hc : w.cell? ad = some (.int .i64 v))
    (L : List Int) (hL : l ++ [v] = L) (hbytes : (n + 1) * 8 ≤ 140737488355328) (hbase : base ≤ w.heap.size)
    (h : ∀ A2 c2 w', OwnsI e w' base A2 c2 L → Below base w w' → wpList P ops Q rest (a.put o.dst (.slice A2 (n + 1) c2)) w') : wpList P ops Q (o :: rest) a w := by
  subst hln
  subst hL
  refine wpList_append_own w hgd s x t ho base e i (.int .i64 0) 1 8 ht hi hz hsize hby rfl (by decide) _ l.length (ints l) hs hown.row ad 1 c' [.int .i64 v] hx rfl ?_ ?_ (by unfold maxLen; omega) (by omega) hbase ?_
  · intro j u hj
    match j, hj with
    | 0, hj => simp at hj; subst hj; simpa [Addr.add] using hc
  · intro u hu; simp at hu; subst hu; rfl
  · intro v' w' h1 h2 _
    obtain ⟨A2, c2, rfl⟩ := own_slice h1
    have e2 : ints l ++ [Value.int .i64 v] = ints (l ++ [v]) := by unfold ints; simp
    rw [e2] at h1
    refine h A2 c2 w' ⟨fun z hz => ?_, by rw [List.length_append]; exact h1⟩ (below_grown h2 hbase fun k hk => (hown.row.lt k hk).1)
    rcases List.mem_append.1 hz with hz | hz
    · exact hown.small z hz
    · simp at hz; subst hz; exact hv
def blk : Option Addr → Option Nat
  | some a => some a.block
  | none => none
theorem ownBlock_slice (A : Option Addr) (n c : Nat) : (Value.slice A n c).ownBlock = blk A := by cases A <;> rfl
theorem OwnsB.none_ {e : TypeId} {w : World} {base c : Nat} {A : Option Addr} {l : List Nat} (h : OwnsB e w base A c l) : A = none → c = 0 := by
  rintro rfl
  rcases h.row.2 with ⟨hv, _⟩ | ⟨g, cap, cur, hv, _⟩
  · injection hv
  · cases hv
theorem OwnsB.blkLt {e : TypeId} {w : World} {base c : Nat} {A : Option Addr} {l : List Nat} (h : OwnsB e w base A c l) : ∀ k, blk A = some k → base ≤ k ∧ k < w.heap.size := by
  intro k hk; exact h.rowLt k (by rw [ownBlock_slice]; exact hk)
theorem OwnsI.blkLt {e : TypeId} {w : World} {base c : Nat} {A : Option Addr} {l : List Int} (h : OwnsI e w base A c l) : ∀ k, blk A = some k → base ≤ k ∧ k < w.heap.size := by
  intro k hk; exact h.rowLt k (by rw [ownBlock_slice]; exact hk)
end Go.Proofs.YtfkjahpcpmcefaaGreat
namespace Go.Proofs.YtfkjahpcpmcefaaGreat
namespace Qu
structure Cf where
  old : List Int
  new : List Int
  lrn : List Int
deriving DecidableEq
def maj (l : List Int) (p : Int → Bool) : Bool := decide (l.length / 2 < l.countP p)
def quo (c : Cf) (p : Int → Bool) : Bool := maj c.old p && (c.new.isEmpty || maj c.new p)
def won (c : Cf) (yes : List Int) : Bool := quo c (fun x => decide (x ∈ yes))
theorem count_mono {p q : Int → Bool} (h : ∀ x, p x = true → q x = true) : ∀ l : List Int, l.countP p ≤ l.countP q
  | [] => by simp
  | x :: l => by
    have := count_mono h l
    rw [List.countP_cons, List.countP_cons]
    by_cases hp : p x = true
    · rw [hp, h x hp]; simp; omega
    · rw [Bool.not_eq_true] at hp; rw [hp]; simp; omega
theorem maj_mono {p q : Int → Bool} (h : ∀ x, p x = true → q x = true) {l : List Int} (hm : maj l p = true) : maj l q = true := by
  have h1 := of_decide_eq_true hm
  have h2 := count_mono h l
  exact decide_eq_true (by omega)
theorem quo_mono {p q : Int → Bool} (h : ∀ x, p x = true → q x = true) {c : Cf} (hm : quo c p = true) : quo c q = true := by
  unfold quo at hm ⊢
  rw [Bool.and_eq_true, Bool.or_eq_true] at hm ⊢
  exact ⟨maj_mono h hm.1, hm.2.imp id (maj_mono h)⟩
theorem quo_congr {p q : Int → Bool} (h : ∀ x, p x = q x) (c : Cf) : quo c p = quo c q := by
  rw [show p = q from funext h]
theorem maj_none (l : List Int) : maj l (fun _ => false) = false := by
  unfold maj; simp
theorem quo_none (c : Cf) : quo c (fun _ => false) = false := by unfold quo; rw [maj_none]; rfl
theorem count_both {p q : Int → Bool} : ∀ l : List Int, (∀ x ∈ l, ¬ (p x = true ∧ q x = true)) → l.countP p + l.countP q ≤ l.length
  | [], _ => by simp
  | x :: l, h => by
    have h1 := count_both l (fun y hy => h y (List.mem_cons_of_mem _ hy))
    have h2 := h x (List.mem_cons_self)
    rw [List.countP_cons, List.countP_cons, List.length_cons]
    cases hp : p x <;> cases hq : q x <;> simp_all <;> omega
theorem maj_meet {p q : Int → Bool} {l : List Int} (hp : maj l p = true) (hq : maj l q = true) : ∃ x ∈ l, p x = true ∧ q x = true := by
  have h1 := of_decide_eq_true hp
  have h2 := of_decide_eq_true hq
  by_cases h : ∃ x ∈ l, p x = true ∧ q x = true
  · exact h
  · have h3 := count_both (p := p) (q := q) l (fun x hx hh => h ⟨x, hx, hh⟩)
    omega
theorem won_old {c : Cf} {a : List Int} (h : won c a = true) : maj c.old (fun x => decide (x ∈ a)) = true := by
  unfold won quo at h; rw [Bool.and_eq_true] at h; exact h.1
theorem won_new {c : Cf} {a : List Int} (h : won c a = true) (hn : c.new ≠ []) : maj c.new (fun x => decide (x ∈ a)) = true := by
  unfold won quo at h
  rw [Bool.and_eq_true, Bool.or_eq_true] at h
  rcases h.2 with h | h
  · exact absurd (List.isEmpty_iff.1 h) hn
  · exact h
def node (l : List Int) : Bool := decide (l.Pairwise (· < ·) ∧ ∀ x ∈ l, 1 ≤ x ∧ x ≤ 7)
def ok (c : Cf) : Bool := !c.old.isEmpty && node c.old && node c.new && node c.lrn && decide (∀ x ∈ c.lrn, ¬ (x ∈ c.old ∨ x ∈ c.new))
def err (c : Cf) : Int := if ok c then 0 else 29
theorem err_ok {c : Cf} : err c = 0 ↔ ok c = true := by
  unfold err; cases ok c <;> simp
theorem node_snoc (l : List Int) (x : Int) : node (l ++ [x]) = (node l && (decide (1 ≤ x ∧ x ≤ 7) && decide (∀ y ∈ l, y < x))) := by
  unfold node
  rw [← Bool.decide_and, ← Bool.decide_and]
  refine decide_eq_decide.2 ?_
  rw [List.pairwise_append]
  constructor
  · rintro ⟨⟨h1, _, h3⟩, h4⟩
    exact ⟨⟨h1, fun y hy => h4 y (List.mem_append_left _ hy)⟩, h4 x (by simp), fun y hy => h3 y hy x (by simp)⟩
  · rintro ⟨⟨h1, h2⟩, h3, h4⟩
    refine ⟨⟨h1, by simp, fun a ha b hb => ?_⟩, fun y hy => ?_⟩
    · simp at hb; subst hb; exact h4 a ha
    · rcases List.mem_append.1 hy with hy | hy
      · exact h2 y hy
      · simp at hy; subst hy; exact h3
theorem node_step (l : List Int) (k : Nat) (h : k < l.length) : node (l.take (k + 1)) = (node (l.take k) && (decide (1 ≤ l[k] ∧ l[k] ≤ 7) && decide (∀ y ∈ l.take k, y < l[k]))) := by
  rw [List.take_succ_eq_append_getElem h, node_snoc]
theorem node_false {l : List Int} {k : Nat} (h : node (l.take k) = false) : node l = false := by
  unfold node at h ⊢
  rw [decide_eq_false_iff_not] at h ⊢
  intro h1
  exact h ⟨h1.1.sublist (List.take_sublist _ _), fun x hx => h1.2 x (List.mem_of_mem_take hx)⟩
def last (l : List Int) (k : Nat) : Int := (l.take k).getLast?.getD 0
theorem last_zero (l : List Int) : last l 0 = 0 := by simp [last]
theorem last_succ (l : List Int) (k : Nat) (h : k < l.length) : last l (k + 1) = l[k] := by
  unfold last; rw [List.take_succ_eq_append_getElem h, List.getLast?_append]; simp
theorem mem_last (l : List Int) (j : Nat) (h : j < l.length) : l[j] ∈ l.take (j + 1) := by
  rw [List.take_succ_eq_append_getElem h]; exact List.mem_append_right _ (List.mem_singleton_self _)
theorem last_pred (l : List Int) (k : Nat) (h : k < l.length) (h0 : 0 < k) : last l k = l[k - 1] := by
  obtain ⟨j, rfl⟩ : ∃ j, k = j + 1 := ⟨k - 1, by omega⟩
  rw [last_succ l j (by omega)]; rfl
theorem rise_last {l : List Int} {k : Nat} (hk : k ≤ l.length) (hn : node (l.take k) = true) (x : Int) (hx : 1 ≤ x) : (∀ y ∈ l.take k, y < x) ↔ last l k < x := by
  unfold node at hn
  have hn := of_decide_eq_true hn
  rcases Nat.eq_zero_or_pos k with rfl | h0
  · rw [last_zero]; simp; omega
  · obtain ⟨j, rfl⟩ : ∃ j, k = j + 1 := ⟨k - 1, by omega⟩
    rw [last_succ l j (by omega)]
    rw [List.take_succ_eq_append_getElem (by omega)] at hn ⊢
    have h3 := (List.pairwise_append.1 hn.1).2.2
    constructor
    · intro h; exact h _ (List.mem_append_right _ (List.mem_singleton_self _))
    · intro h y hy
      rcases List.mem_append.1 hy with hy | hy
      · have := h3 y hy l[j] (by simp); omega
      · simp at hy; omega
theorem node_step_last {l : List Int} {k : Nat} (h : k < l.length) (hn : node (l.take k) = true) : node (l.take (k + 1)) = decide (last l k < l[k] ∧ 1 ≤ l[k] ∧ l[k] ≤ 7) := by
  rw [node_step l k h, hn, Bool.true_and, ← Bool.decide_and]
  refine decide_eq_decide.2 ?_
  constructor
  · rintro ⟨h1, h2⟩; exact ⟨(rise_last (by omega) hn _ h1.1).1 h2, h1⟩
  · rintro ⟨h1, h2⟩; exact ⟨h2, (rise_last (by omega) hn _ h2.1).2 h1⟩
theorem last_nonneg {l : List Int} {k : Nat} (hk : k ≤ l.length) (hn : node (l.take k) = true) : 0 ≤ last l k := by
  rcases Nat.eq_zero_or_pos k with rfl | h0
  · rw [last_zero]; omega
  · obtain ⟨j, rfl⟩ : ∃ j, k = j + 1 := ⟨k - 1, by omega⟩
    rw [last_succ l j (by omega)]
    have hn := of_decide_eq_true hn
    have := hn.2 l[j] (mem_last l j (by omega))
    omega
def Uni (r l : List Int) : Prop := r.Pairwise (· < ·) ∧ ∀ x, x ∈ r ↔ x ∈ l
theorem uni_eq : ∀ {r s : List Int}, r.Pairwise (· < ·) → s.Pairwise (· < ·) → (∀ x, x ∈ r ↔ x ∈ s) → r = s
  | [], [], _, _, _ => rfl
  | [], b :: s, _, _, h => by have := (h b).2 (by simp); simp at this
  | a :: r, [], _, _, h => by have := (h a).1 (by simp); simp at this
  | a :: r, b :: s, h1, h2, h => by
    obtain ⟨a1, a2⟩ := List.pairwise_cons.1 h1
    obtain ⟨b1, b2⟩ := List.pairwise_cons.1 h2
    have hab : a = b := by
      rcases List.mem_cons.1 ((h a).1 (by simp)) with e | ha
      · exact e
      · rcases List.mem_cons.1 ((h b).2 (by simp)) with e | hb
        · exact e.symm
        · have := a1 b hb; have := b1 a ha; omega
    subst hab
    rw [uni_eq a2 b2 (fun x => ⟨fun hx => by
      rcases List.mem_cons.1 ((h x).1 (by simp [hx])) with e | hx'
      · have := a1 x hx; omega
      · exact hx', fun hx => by
      rcases List.mem_cons.1 ((h x).2 (by simp [hx])) with e | hx'
      · have := b1 x hx; omega
      · exact hx'⟩)]
theorem Uni.unique {r s l : List Int} (h1 : Uni r l) (h2 : Uni s l) : r = s := uni_eq h1.1 h2.1 (fun x => (h1.2 x).trans (h2.2 x).symm)
theorem length_le_of {r : List Int} (h : r.Pairwise (· < ·)) : ∀ l : List Int, (∀ x ∈ r, x ∈ l) → r.length ≤ l.length := by
  induction r with
  | nil => intro l _; simp
  | cons a r ih =>
    intro l hl
    obtain ⟨h1, h2⟩ := List.pairwise_cons.1 h
    have ha : a ∈ l := hl a (by simp)
    have := ih h2 (l.erase a) (fun x hx => (List.mem_erase_of_ne (by have := h1 x hx; omega)).2 (hl x (by simp [hx])))
    rw [List.length_erase_of_mem ha] at this
    have : 0 < l.length := List.length_pos_of_mem ha
    rw [List.length_cons]
    omega
theorem Uni.length_le {r l : List Int} (h : Uni r l) : r.length ≤ l.length := length_le_of h.1 l fun x hx => (h.2 x).1 hx
def uni (l : List Int) : List Int := l.foldl (fun r x => if x ∈ r then r else (r.filter (· < x)) ++ x :: r.filter (x < ·)) []
theorem with_uni {r l : List Int} {x : Int} (h : Uni r l) : Uni (if x ∈ r then r else (r.filter (· < x)) ++ x :: r.filter (x < ·)) (l ++ [x]) := by
  by_cases hx : x ∈ r
  · rw [if_pos hx]
    refine ⟨h.1, fun y => ?_⟩
    rw [h.2 y, List.mem_append]
    constructor
    · exact .inl
    · rintro (h1 | h1)
      · exact h1
      · simp at h1; subst h1; exact (h.2 _).1 hx
  · rw [if_neg hx]
    refine ⟨?_, fun y => ?_⟩
    · rw [List.pairwise_append]
      refine ⟨h.1.filter _, ?_, ?_⟩
      · rw [List.pairwise_cons]
        exact ⟨fun y hy => by simpa using (List.mem_filter.1 hy).2, h.1.filter _⟩
      · intro a ha b hb
        have h1 : a < x := by simpa using (List.mem_filter.1 ha).2
        rcases List.mem_cons.1 hb with rfl | hb
        · exact h1
        · have h2 : x < b := by simpa using (List.mem_filter.1 hb).2
          omega
    · rw [List.mem_append, List.mem_cons, List.mem_filter, List.mem_filter, List.mem_append, ← h.2 y]
      simp only [decide_eq_true_eq, List.mem_singleton]
      constructor
      · rintro (h1 | h1 | h1)
        · exact .inl h1.1
        · exact .inr h1
        · exact .inl h1.1
      · rintro (h1 | h1)
        · have : y ≠ x := fun e => hx (e ▸ h1)
          by_cases h2 : y < x
          · exact .inl ⟨h1, h2⟩
          · exact .inr (.inr ⟨h1, by omega⟩)
        · exact .inr (.inl h1)
theorem uni_is (l : List Int) : Uni (uni l) l := by
  have : ∀ (m r0 l0 : List Int), Uni r0 l0 → Uni (m.foldl (fun r x => if x ∈ r then r else (r.filter (· < x)) ++ x :: r.filter (x < ·)) r0) (l0 ++ m) := by
    intro m
    induction m with
    | nil => intro r0 l0 h; simpa using h
    | cons x m ih =>
      intro r0 l0 h
      rw [List.foldl_cons]
      have := ih _ _ (with_uni (x := x) h)
      rwa [List.append_assoc] at this
  have := this l [] [] ⟨List.Pairwise.nil, fun x => Iff.rfl⟩
  simpa [uni] using this
theorem uni_mem {l : List Int} {x : Int} : x ∈ uni l ↔ x ∈ l := (uni_is l).2 x
def reach (ps : List (Int × Int)) (v x : Int) : Bool := ps.any fun p => decide (p.1 = x ∧ v ≤ p.2)
def Agr (c : Cf) (ps : List (Int × Int)) (r : Int) : Prop :=
  0 ≤ r ∧ (0 < r → quo c (reach ps r) = true ∧ ∃ p ∈ ps, p.2 = r) ∧ ∀ p ∈ ps, 0 < p.2 → quo c (reach ps p.2) = true → p.2 ≤ r
theorem Agr.le {c : Cf} {ps : List (Int × Int)} {r s : Int} (h1 : Agr c ps r) (h2 : Agr c ps s) : r ≤ s := by
  by_cases h : 0 < r
  · obtain ⟨hq, p, hp, e⟩ := h1.2.1 h
    subst e
    exact h2.2.2 p hp h hq
  · have := h2.1; omega
theorem Agr.unique {c : Cf} {ps : List (Int × Int)} {r s : Int} (h1 : Agr c ps r) (h2 : Agr c ps s) : r = s := by
  have := h1.le h2; have := h2.le h1; omega
theorem least_of {P : Int × Int → Prop} [DecidablePred P] : ∀ {ps : List (Int × Int)}, (∃ p ∈ ps, P p) → ∃ p ∈ ps, P p ∧ ∀ q ∈ ps, P q → p.2 ≤ q.2
  | [], h => by obtain ⟨p, hp, _⟩ := h; simp at hp
  | a :: ps, h => by
    by_cases hr : ∃ p ∈ ps, P p
    · obtain ⟨p, hp, h1, h2⟩ := least_of hr
      by_cases ha : P a ∧ a.2 < p.2
      · refine ⟨a, by simp, ha.1, fun q hq hPq => ?_⟩
        rcases List.mem_cons.1 hq with rfl | hq
        · omega
        · have := h2 q hq hPq; omega
      · refine ⟨p, List.mem_cons_of_mem _ hp, h1, fun q hq hPq => ?_⟩
        rcases List.mem_cons.1 hq with rfl | hq
        · by_cases h3 : q.2 < p.2
          · exact absurd ⟨hPq, h3⟩ ha
          · omega
        · exact h2 q hq hPq
    · obtain ⟨p, hp, hPp⟩ := h
      rcases List.mem_cons.1 hp with rfl | hp
      · refine ⟨p, by simp, hPp, fun q hq hPq => ?_⟩
        rcases List.mem_cons.1 hq with rfl | hq
        · omega
        · exact absurd ⟨q, hq, hPq⟩ hr
      · exact absurd ⟨p, hp, hPp⟩ hr
theorem reach_none {ps : List (Int × Int)} {v : Int} (h : ∀ p ∈ ps, ¬ v ≤ p.2) (x : Int) : reach ps v x = false := by
  unfold reach
  rw [List.any_eq_false]
  intro p hp
  simp only [decide_eq_true_eq]
  exact fun e => h p hp e.2
theorem Agr.ge {c : Cf} {ps : List (Int × Int)} {r v : Int} (h : Agr c ps r) (hv : 0 < v) (hq : quo c (reach ps v) = true) : v ≤ r := by
  by_cases he : ∃ p ∈ ps, v ≤ p.2
  · obtain ⟨p, hp, h1, h2⟩ := least_of (P := fun p => v ≤ p.2) he
    have : quo c (reach ps p.2) = true := by
      refine quo_mono (fun x hx => ?_) hq
      unfold reach at hx ⊢
      rw [List.any_eq_true] at hx ⊢
      obtain ⟨q, hq, h3⟩ := hx
      have h3 := of_decide_eq_true h3
      exact ⟨q, hq, decide_eq_true ⟨h3.1, h2 q hq h3.2⟩⟩
    have := h.2.2 p hp (by omega) this
    omega
  · rw [quo_congr (fun x => reach_none (fun p hp hle => he ⟨p, hp, hle⟩) x), quo_none] at hq
    cases hq
theorem Agr.rise {c : Cf} {ps qs : List (Int × Int)} {r s : Int} (h1 : Agr c ps r) (h2 : Agr c qs s) (h : ∀ v x, reach ps v x = true → reach qs v x = true) : r ≤ s := by
  by_cases h0 : 0 < r
  · exact h2.ge h0 (quo_mono (h r) (h1.2.1 h0).1)
  · have := h2.1; omega
end Qu
end Go.Proofs.YtfkjahpcpmcefaaGreat
namespace Go.Proofs.YtfkjahpcpmcefaaGreat.Co
open Qu (Cf ok node won maj uni Uni)
set_option linter.unusedVariables false
def chg (c : Cf) : Bool := decide (0 < c.new.length) || decide (0 < c.lrn.length)
def nil : Cf := ⟨[], [], []⟩
def forb (c : Cf) (n : Int) : Int := if ok c = false then 29 else if n < 1 ∨ 7 < n then 28 else if chg c = true then 11 else 0
def add (c : Cf) (n : Int) : Cf × Int := if forb c n ≠ 0 then (nil, forb c n) else if n ∈ c.old then (nil, 7) else (⟨c.old, [], [n]⟩, 0)
def drop (c : Cf) (n : Int) : Cf × Int := if forb c n ≠ 0 then (nil, forb c n) else if n ∉ c.old then (nil, 6) else if c.old.length = 1 then (nil, 29) else (⟨c.old, c.old.filter (fun x => decide (x ≠ n)), []⟩, 0)
def next (c : Cf) (far : List Int) : Cf × Bool := if ok c = false ∨ chg c = false then (c, false) else if c.new ≠ [] then (⟨c.new, [], []⟩, true) else if ∀ x ∈ c.lrn, x ∈ far then (⟨c.old, uni (c.old ++ c.lrn), []⟩, true) else (c, false)
theorem ok_parts {c : Cf} (h : ok c = true) : c.old ≠ [] ∧ node c.old = true ∧ node c.new = true ∧ node c.lrn = true ∧ ∀ x ∈ c.lrn, ¬ (x ∈ c.old ∨ x ∈ c.new) := by
  unfold ok at h
  simp only [Bool.and_eq_true, decide_eq_true_eq, Bool.not_eq_true'] at h
  exact ⟨(fun e => by have := h.1.1.1.1; rw [e] at this; cases this), h.1.1.1.2, h.1.1.2, h.1.2, h.2⟩
theorem ok_of {c : Cf} (h0 : c.old ≠ []) (h1 : node c.old = true) (h2 : node c.new = true) (h3 : node c.lrn = true) (h4 : ∀ x ∈ c.lrn, ¬ (x ∈ c.old ∨ x ∈ c.new)) : ok c = true := by
  unfold ok
  simp only [Bool.and_eq_true, decide_eq_true_eq, Bool.not_eq_true']
  exact ⟨⟨⟨⟨by cases hh : c.old with | nil => exact absurd hh h0 | cons a l => rfl, h1⟩, h2⟩, h3⟩, h4⟩
theorem node_nil : node [] = true := by decide
theorem node_is {l : List Int} : node l = true ↔ l.Pairwise (· < ·) ∧ ∀ x ∈ l, 1 ≤ x ∧ x ≤ 7 := by unfold node; exact decide_eq_true_iff
theorem forb_no {c : Cf} {n : Int} (h : forb c n = 0) : ok c = true ∧ (1 ≤ n ∧ n ≤ 7) ∧ c.new = [] ∧ c.lrn = [] := by
  unfold forb at h
  split at h
  · cases h
  · next h1 =>
    split at h
    · cases h
    · next h2 =>
      split at h
      · cases h
      · next h3 =>
        refine ⟨by simpa using h1, by omega, ?_, ?_⟩
        · unfold chg at h3
          simp at h3
          exact h3.1
        · unfold chg at h3
          simp at h3
          exact h3.2
theorem add_yes {c : Cf} {n : Int} (h : (add c n).2 = 0) : (add c n).1 = ⟨c.old, [], [n]⟩ ∧ ok c = true ∧ (1 ≤ n ∧ n ≤ 7) ∧ c.new = [] ∧ c.lrn = [] ∧ n ∉ c.old := by
  unfold add at h ⊢
  by_cases h1 : forb c n = 0
  · rw [if_neg (by simpa using h1)] at h ⊢
    by_cases h2 : n ∈ c.old
    · rw [if_pos h2] at h; cases h
    · rw [if_neg h2]
      obtain ⟨a, b, d, e⟩ := forb_no h1
      exact ⟨rfl, a, b, d, e, h2⟩
  · rw [if_pos h1] at h; exact absurd h h1
theorem drop_yes {c : Cf} {n : Int} (h : (drop c n).2 = 0) : (drop c n).1 = ⟨c.old, c.old.filter (fun x => decide (x ≠ n)), []⟩ ∧ ok c = true ∧ (1 ≤ n ∧ n ≤ 7) ∧ c.new = [] ∧ c.lrn = [] ∧ n ∈ c.old ∧ c.old.length ≠ 1 := by
  unfold drop at h ⊢
  by_cases h1 : forb c n = 0
  · rw [if_neg (by simpa using h1)] at h ⊢
    by_cases h2 : n ∈ c.old
    · rw [if_neg (by simpa using h2)] at h ⊢
      by_cases h3 : c.old.length = 1
      · rw [if_pos h3] at h; cases h
      · rw [if_neg h3]
        obtain ⟨a, b, d, e⟩ := forb_no h1
        exact ⟨rfl, a, b, d, e, h2, h3⟩
    · rw [if_pos h2] at h; cases h
  · rw [if_pos h1] at h; exact absurd h h1
theorem next_yes {c : Cf} {far : List Int} (h : (next c far).2 = true) : ok c = true ∧ ((c.new ≠ [] ∧ (next c far).1 = ⟨c.new, [], []⟩) ∨ (c.new = [] ∧ c.lrn ≠ [] ∧ (∀ x ∈ c.lrn, x ∈ far) ∧ (next c far).1 = ⟨c.old, uni (c.old ++ c.lrn), []⟩)) := by
  unfold next at h ⊢
  by_cases h1 : ok c = false ∨ chg c = false
  · rw [if_pos h1] at h; cases h
  · rw [if_neg h1] at h ⊢
    rw [not_or] at h1
    have ho : ok c = true := by simpa using h1.1
    by_cases h2 : c.new ≠ []
    · rw [if_pos h2]; exact ⟨ho, .inl ⟨h2, rfl⟩⟩
    · rw [if_neg h2] at h ⊢
      have hn : c.new = [] := by simpa using h2
      by_cases h3 : ∀ x ∈ c.lrn, x ∈ far
      · rw [if_pos h3]
        refine ⟨ho, .inr ⟨hn, fun e => ?_, h3, rfl⟩⟩
        apply h1.2
        unfold chg
        rw [hn, e]; rfl
      · rw [if_neg h3] at h; cases h
structure Step (c x : Cf) : Prop where
  ok1 : ok c = true
  ok2 : ok x = true
  ne : x ≠ c
  meets : x.old = c.old ∨ (c.new ≠ [] ∧ x.old = c.new)
theorem uni_node {l k : List Int} (hl : node l = true) (hk : node k = true) : node (uni (l ++ k)) = true := by
  rw [node_is] at hl hk ⊢
  have hu := Qu.uni_is (l ++ k)
  refine ⟨hu.1, fun x hx => ?_⟩
  rcases List.mem_append.1 ((hu.2 x).1 hx) with h | h
  · exact hl.2 x h
  · exact hk.2 x h
theorem add_step {c : Cf} {n : Int} (h : (add c n).2 = 0) : Step c (add c n).1 := by
  obtain ⟨e, h1, h2, h3, h4, h5⟩ := add_yes h
  obtain ⟨p0, p1, p2, p3, p4⟩ := ok_parts h1
  rw [e]
  refine ⟨h1, ok_of p0 p1 node_nil (node_is.2 ⟨by simp, by simpa using h2⟩) (by simpa using h5), fun q => ?_, .inl rfl⟩
  have := congrArg Cf.lrn q
  rw [h4] at this
  cases this
theorem drop_step {c : Cf} {n : Int} (h : (drop c n).2 = 0) : Step c (drop c n).1 := by
  obtain ⟨e, h1, h2, h3, h4, h5, h6⟩ := drop_yes h
  obtain ⟨p0, p1, p2, p3, p4⟩ := ok_parts h1
  rw [e]
  have hn : node (c.old.filter (fun x => decide (x ≠ n))) = true := by
    rw [node_is] at p1 ⊢
    exact ⟨p1.1.sublist List.filter_sublist, fun x hx => p1.2 x (List.mem_filter.1 hx).1⟩
  refine ⟨h1, ok_of p0 p1 hn node_nil (by simp), fun q => ?_, .inl rfl⟩
  have hq : c.old.filter (fun x => decide (x ≠ n)) = [] := (congrArg Cf.new q).trans h3
  -- all old ones are n, and rise: there is but one
  have hall : ∀ x ∈ c.old, x = n := fun x hx => by
    have := List.filter_eq_nil_iff.1 hq x hx
    simpa using this
  have hle := Qu.length_le_of (node_is.1 p1).1 [n] (fun x hx => by rw [hall x hx]; exact List.mem_singleton.2 rfl)
  have hpos : 0 < c.old.length := List.length_pos_iff.2 p0
  simp at hle
  omega
theorem next_step {c : Cf} {far : List Int} (h : (next c far).2 = true) : Step c (next c far).1 := by
  obtain ⟨h1, h2⟩ := next_yes h
  obtain ⟨p0, p1, p2, p3, p4⟩ := ok_parts h1
  rcases h2 with ⟨h2, e⟩ | ⟨h2, h3, h4, e⟩
  · rw [e]
    refine ⟨h1, ok_of h2 p2 node_nil node_nil (by simp), fun q => ?_, .inr ⟨h2, rfl⟩⟩
    exact h2 (congrArg Cf.new q).symm
  · rw [e]
    refine ⟨h1, ok_of p0 p1 (uni_node p1 p3) node_nil (by simp), fun q => ?_, .inl rfl⟩
    exact h3 (congrArg Cf.lrn q).symm
theorem step_safe {c x : Cf} (h : Step c x) {a b : List Int} (ha : won c a = true) (hb : won x b = true) : ∃ v, (v ∈ a ∧ v ∈ b) ∧ (v ∈ c.old ∨ v ∈ c.new) ∧ (v ∈ x.old ∨ v ∈ x.new) := by
  have hb' := Qu.won_old hb
  rcases h.meets with e | ⟨hn, e⟩
  · rw [e] at hb'
    obtain ⟨v, hv, h1, h2⟩ := Qu.maj_meet (Qu.won_old ha) hb'
    exact ⟨v, ⟨of_decide_eq_true h1, of_decide_eq_true h2⟩, .inl hv, .inl (e ▸ hv)⟩
  · rw [e] at hb'
    obtain ⟨v, hv, h1, h2⟩ := Qu.maj_meet (Qu.won_new ha hn) hb'
    exact ⟨v, ⟨of_decide_eq_true h1, of_decide_eq_true h2⟩, .inr hv, .inl (e ▸ hv)⟩
def both (a b : List Int) : List Int := a.flatMap (fun x => b.filter (fun y => decide (x = y)))
theorem mem_both {a b : List Int} {x : Int} : x ∈ both a b ↔ x ∈ a ∧ x ∈ b := by
  unfold both
  simp only [List.mem_flatMap, List.mem_filter, decide_eq_true_eq]
  constructor
  · rintro ⟨y, hy, hx, rfl⟩; exact ⟨hy, hx⟩
  · rintro ⟨h1, h2⟩; exact ⟨x, h1, h2, rfl⟩
theorem safe_both {c x : Cf} (h : Step c x) {a b : List Int} (ha : won c a = true) (hb : won x b = true) : 0 < (both (both a b) (both (uni (c.old ++ c.new)) (uni (x.old ++ x.new)))).length := by
  obtain ⟨v, h1, h2, h3⟩ := step_safe h ha hb
  have hv : v ∈ both (both a b) (both (uni (c.old ++ c.new)) (uni (x.old ++ x.new))) := by
    rw [mem_both, mem_both, mem_both, Qu.uni_mem, Qu.uni_mem, List.mem_append, List.mem_append]
    exact ⟨h1, h2, h3⟩
  exact List.length_pos_of_mem hv
end Go.Proofs.YtfkjahpcpmcefaaGreat.Co
namespace Go.Proofs.YtfkjahpcpmcefaaGreat.Co
open Qu (Cf ok node won maj uni Uni)
set_option linter.unusedVariables false
theorem one_in {b : List Int} (hb : b.Pairwise (· < ·)) (x : Int) : (b.filter (fun y => decide (x = y))).length = if x ∈ b then 1 else 0 := by
  induction b with
  | nil => simp
  | cons y b ih =>
    obtain ⟨h1, h2⟩ := List.pairwise_cons.1 hb
    have := ih h2
    by_cases e : x = y
    · subst e
      have hn : x ∉ b := fun hx => by have := h1 x hx; omega
      rw [if_neg hn] at this
      rw [List.filter_cons_of_pos (by simp), List.length_cons, this, if_pos List.mem_cons_self]
    · rw [List.filter_cons_of_neg (by simpa using e), this]
      by_cases h : x ∈ b
      · rw [if_pos h, if_pos (List.mem_cons_of_mem _ h)]
      · rw [if_neg h, if_neg (by simp [e, h])]
theorem both_length {a b : List Int} (hb : b.Pairwise (· < ·)) : (both a b).length = a.countP (fun x => decide (x ∈ b)) := by
  unfold both
  induction a with
  | nil => rfl
  | cons x a ih =>
    rw [List.flatMap_cons, List.length_append, ih, one_in hb, List.countP_cons]
    by_cases h : x ∈ b
    · rw [if_pos h, if_pos (by simpa using h)]; omega
    · rw [if_neg h, if_neg (by simpa using h)]; omega
theorem rises {l : List Int} (h : node l = true) : l.Pairwise (· < ·) := (node_is.1 h).1
theorem filter_sub {a b : List Int} (ha : a.Pairwise (· < ·)) (hb : b.Pairwise (· < ·)) (h : ∀ x ∈ b, x ∈ a) : a.filter (fun x => decide (x ∈ b)) = b :=
  Qu.uni_eq (ha.sublist List.filter_sublist) hb (fun x => by
    rw [List.mem_filter, decide_eq_true_iff]
    exact ⟨fun q => q.2, fun q => ⟨h x q, q⟩⟩)
theorem both_sub {a b : List Int} (ha : a.Pairwise (· < ·)) (hb : b.Pairwise (· < ·)) (h : ∀ x ∈ b, x ∈ a) : (both a b).length = b.length := by
  rw [both_length hb, List.countP_eq_length_filter, filter_sub ha hb h]
theorem both_all {a b : List Int} (hb : b.Pairwise (· < ·)) (h : ∀ x ∈ a, x ∈ b) : (both a b).length = a.length := by
  rw [both_length hb, List.countP_eq_length.2 (fun x hx => by simpa using h x hx)]
theorem both_none {a : List Int} {n : Int} (h : n ∉ a) : (both a [n]).length = 0 := by
  rw [both_length (by simp), List.countP_eq_zero.2 (fun x hx => by simp; rintro rfl; exact h hx)]
theorem uni_plus {l : List Int} (hl : l.Pairwise (· < ·)) {n : Int} (hn : n ∉ l) : (uni (l ++ [n])).filter (fun x => decide (x ≠ n)) = l ∧ (uni (l ++ [n])).length = l.length + 1 := by
  have hu := Qu.uni_is (l ++ [n])
  have hf : (uni (l ++ [n])).filter (fun x => decide (x ≠ n)) = l := Qu.uni_eq (hu.1.sublist List.filter_sublist) hl (fun x => by
    rw [List.mem_filter, Qu.uni_mem, List.mem_append, List.mem_singleton, decide_eq_true_iff]
    constructor
    · rintro ⟨h | h, h2⟩
      · exact h
      · exact absurd h h2
    · intro h
      exact ⟨.inl h, fun e => hn (e ▸ h)⟩)
  refine ⟨hf, ?_⟩
  have h1 := both_sub (b := [n]) hu.1 (by simp) (fun x hx => by rw [List.mem_singleton.1 hx]; exact Qu.uni_mem.2 (by simp))
  rw [both_length (by simp)] at h1
  have h2 : (uni (l ++ [n])).length = (uni (l ++ [n])).countP (fun x => decide (x ∈ [n])) + ((uni (l ++ [n])).filter (fun x => decide (x ≠ n))).length := by
    rw [List.length_eq_countP_add_countP (fun x => decide (x ∈ [n])), ← List.countP_eq_length_filter]
    congr 1
    apply List.countP_congr
    intro x _
    simp
  rw [h1, hf] at h2
  simp at h2
  omega
structure Comes (c : Cf) (n : Int) (U : List Int) : Prop where
  b : ∀ far, n ∈ far → next ⟨c.old, [], [n]⟩ far = (⟨c.old, U, []⟩, true)
  d : ∀ far, next ⟨c.old, U, []⟩ far = (⟨U, [], []⟩, true)
  no : ∀ far, next ⟨U, [], []⟩ far = (⟨U, [], []⟩, false)
  len : U.length = c.old.length + 1
  one : (both U [n]).length = 1
  all : (both U c.old).length = c.old.length
  f : drop ⟨U, [], []⟩ n = (⟨U, c.old, []⟩, 0)
  h : ∀ far, next ⟨U, c.old, []⟩ far = (c, true)
theorem next_no {c : Cf} (h : chg c = false) (far : List Int) : next c far = (c, false) := by unfold next; rw [if_pos (.inr h)]
theorem next_new {c : Cf} (ho : ok c = true) (hn : c.new ≠ []) (far : List Int) : next c far = (⟨c.new, [], []⟩, true) := by
  unfold next
  rw [if_neg (by
    rw [not_or]
    refine ⟨by simp [ho], ?_⟩
    unfold chg
    have : 0 < c.new.length := List.length_pos_iff.2 hn
    simp [this]), if_pos hn]
theorem comes {c : Cf} {n : Int} (h : (add c n).2 = 0) : Comes c n (uni (c.old ++ [n])) := by
  have hs := add_step h
  obtain ⟨e, h1, h2, h3, h4, h5⟩ := add_yes h
  rw [e] at hs
  obtain ⟨p0, p1, p2, p3, p4⟩ := ok_parts h1
  have hu := Qu.uni_is (c.old ++ [n])
  obtain ⟨u1, u2⟩ := uni_plus (rises p1) h5
  have hnn : node [n] = true := node_is.2 ⟨by simp, by simpa using h2⟩
  have hU := uni_node p1 hnn
  have hU0 : uni (c.old ++ [n]) ≠ [] := fun q => by rw [q] at u2; simp at u2
  have okb : ok ⟨c.old, uni (c.old ++ [n]), []⟩ = true := ok_of p0 p1 hU node_nil (by simp)
  have okd : ok ⟨uni (c.old ++ [n]), [], []⟩ = true := ok_of hU0 hU node_nil node_nil (by simp)
  have okf : ok ⟨uni (c.old ++ [n]), c.old, []⟩ = true := ok_of hU0 hU p1 node_nil (by simp)
  have hnU : n ∈ uni (c.old ++ [n]) := Qu.uni_mem.2 (by simp)
  have hce : c = ⟨c.old, [], []⟩ := by cases c; simp_all
  refine ⟨fun far hf => ?_, fun far => next_new okb hU0 far, fun far => next_no (by rfl) far, u2, ?_, both_sub hu.1 (rises p1) (fun x hx => Qu.uni_mem.2 (List.mem_append.2 (.inl hx))), ?_, fun far => ?_⟩
  · unfold next
    rw [if_neg (by
      rw [not_or]
      exact ⟨by rw [hs.ok2]; decide, by simp [chg]⟩), if_neg (by simp), if_pos (by simpa using hf)]
  · rw [both_sub (b := [n]) hu.1 (by simp) (fun x hx => by rw [List.mem_singleton.1 hx]; exact hnU)]; rfl
  · unfold drop
    have hfb : forb ⟨uni (c.old ++ [n]), [], []⟩ n = 0 := by
      unfold forb
      rw [if_neg (by rw [okd]; decide), if_neg (by omega), if_neg (by simp [chg])]
    rw [if_neg (by simpa using hfb), if_neg (by simpa using hnU), if_neg (by
      show (uni (c.old ++ [n])).length ≠ 1
      have := List.length_pos_iff.2 p0
      omega)]
    show ((⟨uni (c.old ++ [n]), (uni (c.old ++ [n])).filter (fun x => decide (x ≠ n)), []⟩ : Cf), (0 : Int)) = _
    rw [u1]
  · rw [next_new okf p0 far]
    show ((⟨c.old, [], []⟩ : Cf), true) = _
    rw [← hce]
structure Goes1 (c : Cf) (n : Int) (F : List Int) : Prop where
  d : ∀ far, next ⟨c.old, F, []⟩ far = (⟨F, [], []⟩, true)
  len : F.length + 1 = c.old.length
  one : (both F [n]).length = 0
  all : (both F c.old).length = F.length
theorem goes1 {c : Cf} {n : Int} (h : (drop c n).2 = 0) : Goes1 c n (c.old.filter (fun x => decide (x ≠ n))) := by
  have hs := drop_step h
  obtain ⟨e, h1, h2, h3, h4, h5, h6⟩ := drop_yes h
  rw [e] at hs
  obtain ⟨p0, p1, p2, p3, p4⟩ := ok_parts h1
  have hl : (c.old.filter (fun x => decide (x ≠ n))).length + 1 = c.old.length := by
    have q1 := both_sub (b := [n]) (rises p1) (by simp) (fun x hx => by rw [List.mem_singleton.1 hx]; exact h5)
    rw [both_length (by simp)] at q1
    rw [List.length_eq_countP_add_countP (fun x => decide (x ∈ [n])) (l := c.old), q1, ← List.countP_eq_length_filter, Nat.add_comm]
    congr 1
    apply List.countP_congr
    intro x _
    simp
  have hF0 : c.old.filter (fun x => decide (x ≠ n)) ≠ [] := fun q => by rw [q] at hl; simp at hl; omega
  refine ⟨fun far => next_new hs.ok2 hF0 far, hl, both_none (fun q => by have := (List.mem_filter.1 q).2; simp at this), both_all (rises p1) (fun x hx => (List.mem_filter.1 hx).1)⟩
end Go.Proofs.YtfkjahpcpmcefaaGreat.Co
namespace Go.Proofs.YtfkjahpcpmcefaaGreat
open Go.RowKit
theorem tmod_cases (k n : Int) (hn : 1 ≤ n) : (0 ≤ k.tmod n ∧ k.tmod n = k % n) ∨ (k.tmod n < 0 ∧ -n < k.tmod n ∧ k.tmod n + n = k % n) := by
  have h3 := Int.emod_nonneg k (show n ≠ 0 by omega)
  have h4 := Int.emod_lt_of_pos k (show 0 < n by omega)
  have h2 := Int.tmod_eq_emod (a := k) (b := n)
  have h5 : (n.natAbs : Int) = n := by omega
  by_cases hc : 0 ≤ k ∨ n ∣ k
  · rw [if_pos hc] at h2; left; omega
  · rw [if_neg hc] at h2
    have h6 : k % n ≠ 0 := fun e => hc (Or.inr (Int.dvd_of_emod_eq_zero e))
    right; omega
set_option maxHeartbeats 400000 in
theorem pick_some (k n : Int) (hn : 1 ≤ n) (hn2 : (Lit.int .i64 n).wf = true) (w : World) :
    Calls Tryz.prog 46 #[.int .i64 k, .int .i64 n] w fun e w' => e = .returned (.int .i64 (k % n)) ∧ w = w' := by
  have hb : n ≤ 9223372036854775807 := by simp [Lit.wf] at hn2; omega
  rcases tmod_cases k n hn with ⟨h, e⟩ | ⟨h, h2, e⟩
  · have E := hid e
    clear e
    go_enter Tryz.func46, Tryz.ntmps46
    go_wp2
    go_ret
    exact ⟨by rw [← E.out]; rfl, rfl⟩
  · have E := hid e
    clear e
    go_enter Tryz.func46, Tryz.ntmps46
    go_wp2
    go_ret
    exact ⟨by rw [← E.out]; rfl, rfl⟩
end Go.Proofs.YtfkjahpcpmcefaaGreat
namespace Go.Proofs.YtfkjahpcpmcefaaGreat
open Go.RowKit
structure CIs (w : World) (B : Nat) (c : Qu.Cf) (a0 a1 a2 : Option Addr) (k0 k1 k2 : Nat) : Prop where
  o : IsInts w B a0 c.old
  n : IsInts w B a1 c.new
  l : IsInts w B a2 c.lrn
  zo : a0 = none → k0 = 0
  zn : a1 = none → k1 = 0
  zl : a2 = none → k2 = 0
  co : c.old.length ≤ k0 ∧ k0 ≤ maxLen
  cn : c.new.length ≤ k1 ∧ k1 ≤ maxLen
  cl : c.lrn.length ≤ k2 ∧ k2 ≤ maxLen
namespace CIs
variable {w w' : World} {B B' : Nat} {c : Qu.Cf} {a0 a1 a2 : Option Addr} {k0 k1 k2 : Nat}
theorem below (h : CIs w B c a0 a1 a2 k0 k1 k2) (hb : Below B w w') : CIs w' B c a0 a1 a2 k0 k1 k2 := ⟨h.o.below hb, h.n.below hb, h.l.below hb, h.zo, h.zn, h.zl, h.co, h.cn, h.cl⟩
theorem more (h : CIs w B c a0 a1 a2 k0 k1 k2) (hB : B ≤ B') : CIs w B' c a0 a1 a2 k0 k1 k2 := ⟨h.o.more hB, h.n.more hB, h.l.more hB, h.zo, h.zn, h.zl, h.co, h.cn, h.cl⟩
theorem drewN (h : CIs w B c a0 a1 a2 k0 k1 k2) (j : Nat) : CIs (w.drewN j) B c a0 a1 a2 k0 k1 k2 := ⟨h.o.drewN j, h.n.drewN j, h.l.drewN j, h.zo, h.zn, h.zl, h.co, h.cn, h.cl⟩
end CIs
def Short (c : Qu.Cf) : Prop := c.old.length ≤ 20000 ∧ c.new.length ≤ 20000 ∧ c.lrn.length ≤ 20000
def Tells (g : FuncId) (cb : Array Value) (p : Int → Bool) (w0 : World) : Prop :=
  ∀ x, InInt x → ∀ w, Below w0.heap.size w0 w → Calls Tryz.prog g (#[.int .i64 x] ++ cb) w fun e w' => e = .returned (.bool (p x)) ∧ Below w.heap.size w w'
theorem bthen {B : Nat} {a b c : World} (h : Below B a b) (h' : Below b.heap.size b c) (hB : B ≤ b.heap.size) : Below B a c := h.trans (h'.mono hB)
end Go.Proofs.YtfkjahpcpmcefaaGreat
namespace Go.Proofs.YtfkjahpcpmcefaaGreat.I
open Go.RowKit
theorem take_succ_eq (l m : List Int) (k : Nat) (h1 : k < l.length) (h2 : k < m.length) (h : l.take k = m.take k) (he : l[k] = m[k]) : l.take (k + 1) = m.take (k + 1) := by
  rw [List.take_succ_eq_append_getElem h1, List.take_succ_eq_append_getElem h2, h, he]
set_option maxHeartbeats 400000 in
theorem same_any (B B' : Nat) (A A' : Option Addr) (c c' : Nat) (l m : List Int) (hl : l.length ≤ maxLen) (hm : m.length ≤ maxLen) (w : World) (h : IsInts w B A l) (h' : IsInts w B' A' m) :
    Calls Tryz.prog 44 #[.slice A l.length c, .slice A' m.length c'] w fun e w' => e = .returned (.bool (decide (l = m))) ∧ ∃ n, w' = w.drewN n := by
  unfold maxLen at hl hm
  by_cases hne : l.length = m.length
  · have hb : ((l.length : Int) != (m.length : Int)) = false := by rw [bne_eq_false_iff_eq]; omega
    have HN := hid hne
    clear hne
    go_enter Tryz.func44, Tryz.ntmps44
    go_wp2
    go_loopw [5] (fun i wr => ∃ k n : Nat, k ≤ l.length ∧ i = .int .i64 k ∧ wr = w.drewN n ∧ Hid (l.take k = m.take k)) (fun i _ => l.length - (RowKit.intOf i).toNat)
    case atStart => exact ⟨0, 0, by omega, rfl, rfl, hid rfl⟩
    case round =>
      obtain ⟨k, n, hk, rfl, rfl, hs⟩ := hrel
      by_cases hlt : k < l.length
      · have hlt' : k < m.length := by have := HN.out; omega
        obtain ⟨b, off, rfl, _, hc⟩ := h.cells k hlt
        obtain ⟨b', off', rfl, _, hc'⟩ := h'.cells k hlt'
        have hck := hc k hlt
        have hck' := hc' k hlt'
        clear hc hc'
        by_cases he : l[k] = m[k]
        · have hbe : (l[k] != m[k]) = false := by rw [bne_eq_false_iff_eq]; omega
          have HE := hid he
          clear he
          go_wp2
          go_quiet (fail)
          go_wp2
          go_roundw
          case rel => exact ⟨k + 1, _, by omega, by go_num, rfl, hid (take_succ_eq l m k hlt hlt' hs.out HE.out)⟩
          case measure => simp [RowKit.intOf]; omega
        · have hbe : (l[k] != m[k]) = true := by rw [bne_iff_ne]; omega
          have hfin : decide (l = m) = false := by
            rw [decide_eq_false_iff_not]; rintro rfl; exact he rfl
          have HF := hid hfin
          clear he hfin
          go_wp2
          go_quiet (fail)
          go_wp2
          go_ret
          exact ⟨by rw [HF.out]; rfl, _, by rw [World.drewN_drewN]⟩
      · obtain rfl : k = l.length := by omega
        have hfin : decide (l = m) = true := by
          rw [decide_eq_true_iff]
          have e := hs.out
          rw [List.take_length, HN.out, List.take_length] at e
          exact e
        have HF := hid hfin
        clear hfin
        go_wp2
        go_ret
        exact ⟨by rw [HF.out]; rfl, _, rfl⟩
  · have hb : ((l.length : Int) != (m.length : Int)) = true := by rw [bne_iff_ne]; omega
    have hfin : decide (l = m) = false := by
      rw [decide_eq_false_iff_not]; rintro rfl; exact hne rfl
    have HF := hid hfin
    clear hfin hne
    go_enter Tryz.func44, Tryz.ntmps44
    go_wp2
    go_ret
    exact ⟨by rw [HF.out]; rfl, 0, rfl⟩
theorem info_int : (Tryz.prog.info? 3).map (fun i => (i.zero, i.size, i.bytes)) = some (some (.int .i64 0), 1, 8) := by kernel_rfl
end Go.Proofs.YtfkjahpcpmcefaaGreat.I
namespace Go.Proofs.YtfkjahpcpmcefaaGreat.I
open Go.RowKit
theorem ints_snoc (l : List Int) (k : Nat) (h : k < l.length) : ints (l.take k) ++ [Value.int .i64 l[k]] = ints (l.take (k + 1)) := by
  unfold ints; rw [List.take_succ_eq_append_getElem h, List.map_append]; rfl
set_option maxHeartbeats 400000 in
theorem copy_any (B : Nat) (A : Option Addr) (c : Nat) (l : List Int) (hl : l.length ≤ 17592186044000) (w : World) (h : IsInts w B A l) (hB : B ≤ w.heap.size) :
    Calls Tryz.prog 32 #[.slice A l.length c] w fun e w' => ∃ A' c', e = .returned (.slice A' l.length c') ∧ OwnsI 3 w' w.heap.size A' c' l ∧ Below w.heap.size w w' := by
  obtain ⟨i0, hi, hz0, hz1, hz2⟩ := info_parts info_int
  go_enter Tryz.func32, Tryz.ntmps32
  go_wp2
  go_loopw [3, 4] (fun v i wr => ∃ k : Nat, k ≤ l.length ∧ i = .int .i64 k ∧ wr.ownsRow w.heap.size 3 1 v k (ints (l.take k)) ∧ Below w.heap.size w wr) (fun _ i _ => l.length - (RowKit.intOf i).toNat)
  case atStart => exact ⟨0, by omega, rfl, World.ownsRow_nil _ _ _ _, Below.refl _ _⟩
  case round =>
    obtain ⟨k, hk, rfl, hown, hbel⟩ := hrel
    by_cases hlt : k < l.length
    · have h1 := (h.below (hbel.mono hB))
      obtain ⟨b, off, rfl, _, hc⟩ := h1.cells k hlt
      have hck := hc k hlt
      clear hc
      go_wp2_with (at_builtin; refine wpList_append_own _ rfl _ _ 22 rfl w.heap.size 3 i0 (.int .i64 0) 1 8 Tryz.underlying22 hi hz0 hz1 hz2 rfl (by decide) _ _ _ rfl (hown.alloc _) ⟨wr.heap.size, 0, none⟩ 1 1 [.int .i64 l[k]] rfl rfl ?c1 ?c2 ?c3 ?c4 ?c5 ?_)
      case c1 =>
        intro j u hj
        match j, hj with
        | 0, hj => simp at hj; subst hj; simp [Addr.add]
      case c2 => intro u hu; simp at hu; subst hu; rfl
      case c3 => unfold maxLen; omega
      case c4 => omega
      case c5 => have := hbel.size; simp; omega
      intro v' w1 hown' hgrow _
      rw [ints_snoc l k hlt] at hown'
      have hb1 : Below w.heap.size w w1 := (hbel.alloc hbel.size _).grown hgrow (by have := hbel.size; simp; omega) (fun g hg => (hown.lt g hg).1)
      clear hgrow hown hbel hck
      go_wp2
      go_roundw
      case rel => exact ⟨k + 1, by omega, by go_num, hown', hb1⟩
      case measure => simp [RowKit.intOf]; omega
    · obtain rfl : k = l.length := by omega
      rw [List.take_length] at hown
      obtain ⟨A', c', rfl⟩ := own_slice hown
      go_wp2
      go_ret
      exact ⟨A', c', rfl, ⟨h.small, hown⟩, hbel⟩
end Go.Proofs.YtfkjahpcpmcefaaGreat.I
namespace Go.Proofs.YtfkjahpcpmcefaaGreat
open Go.RowKit
theorem sameI_N (B B' : Nat) (A A' : Option Addr) (c c' : Nat) (l m : List Int) (n k : Nat) (hn : l.length = n) (hk : m.length = k) (hl : n ≤ maxLen) (hm : k ≤ maxLen) (w : World) (h : IsInts w B A l) (h' : IsInts w B' A' m) :
    Calls Tryz.prog 44 #[.slice A n c, .slice A' k c'] w fun e w' => e = .returned (.bool (decide (l = m))) ∧ ∃ j, w' = w.drewN j := by
  subst hn; subst hk; exact I.same_any B B' A A' c c' l m hl hm w h h'
theorem sameI_T {w : World} {B B' : Nat} {A A' : Option Addr} {c c' n m : Nat} {l l' : List Int} (hn : l.length = n) (hm : l'.length = m) (hn2 : n ≤ 100000) (he : l' = l) (h : IsInts w B A l) (h' : IsInts w B' A' l') :
    Calls Tryz.prog 44 #[.slice A n c, .slice A' m c'] w fun e w' => e = .returned (.bool true) ∧ ∃ j, w' = w.drewN j := by
  have hm2 : m ≤ 100000 := by rw [← hm, he, hn]; exact hn2
  have := sameI_N B B' A A' c c' l l' n m hn hm (by unfold maxLen; omega) (by unfold maxLen; omega) w h h'
  rw [show decide (l = l') = true from decide_eq_true he.symm] at this
  exact this
end Go.Proofs.YtfkjahpcpmcefaaGreat
namespace Go.Proofs.YtfkjahpcpmcefaaGreat
open Go.RowKit
set_option maxHeartbeats 1000000 in
theorem sameConf_any (B B' : Nat) (c d : Qu.Cf) (hs0 : Short c) (hd0 : Short d) (a0 a1 a2 b0 b1 b2 : Option Addr) (k0 k1 k2 m0 m1 m2 : Nat) (w : World) (h0 : CIs w B c a0 a1 a2 k0 k1 k2) (h0' : CIs w B' d b0 b1 b2 m0 m1 m2) (hB : B ≤ w.heap.size) (hB' : B' ≤ w.heap.size) (he : c = d) :
    Calls Tryz.prog 19 #[.agg #[.slice a0 c.old.length k0, .slice a1 c.new.length k1, .slice a2 c.lrn.length k2], .agg #[.slice b0 d.old.length m0, .slice b1 d.new.length m1, .slice b2 d.lrn.length m2]] w fun e w' => e = .returned (.bool true) ∧ Below w.heap.size w w' := by
  subst he
  have hbel : Below w.heap.size w ((w.alloc (.cells #[.slice a0 c.old.length k0, .slice a1 c.new.length k1, .slice a2 c.lrn.length k2] 24)).alloc (.cells #[.slice b0 c.old.length m0, .slice b1 c.new.length m1, .slice b2 c.lrn.length m2] 24)) := ((Below.refl _ _).alloc (Nat.le_refl _) _).alloc (by simp) _
  have HO := hid (fun j : Nat => sameI_T (n := c.old.length) (m := c.old.length) (c := k0) (c' := m0) rfl rfl (by have := hs0.1; omega) rfl (((h0.below (hbel.mono hB)).o).drewN j) (((h0'.below (hbel.mono hB')).o).drewN j))
  have HN := hid (fun j : Nat => sameI_T (n := c.new.length) (m := c.new.length) (c := k1) (c' := m1) rfl rfl (by have := hs0.2.1; omega) rfl (((h0.below (hbel.mono hB)).n).drewN j) (((h0'.below (hbel.mono hB')).n).drewN j))
  have HL := hid (fun j : Nat => sameI_T (n := c.lrn.length) (m := c.lrn.length) (c := k2) (c' := m2) rfl rfl (by have := hs0.2.2; omega) rfl (((h0.below (hbel.mono hB)).l).drewN j) (((h0'.below (hbel.mono hB')).l).drewN j))
  have HB := hid hbel
  clear hbel h0 h0' hs0 hd0
  go_enter Tryz.func19, Tryz.ntmps19
  go_wp2_with fail
  refine (HO.out 0).mono ?_
  rintro e w1 ⟨rfl, n1, rfl⟩
  go_wp2_with fail
  refine (HN.out _).mono ?_
  rintro e w1 ⟨rfl, n2, rfl⟩
  go_wp2_with fail
  refine (HL.out (n1 + n2)).mono ?_
  rintro e w1 ⟨rfl, n3, rfl⟩
  go_wp2
  go_ret
  exact ⟨rfl, below_drewN HB.out _⟩
theorem ownsI_cap {e : TypeId} {w : World} {base c : Nat} {A : Option Addr} {l : List Int} (h : OwnsI e w base A c l) : (A = none → c = 0) ∧ l.length ≤ c ∧ c ≤ maxLen := by
  rcases h.row.2 with ⟨hv, h0⟩ | ⟨g, cap, cur, hv, _, _, h1, h2, _, _⟩
  · have h2 : c = 0 := by injection hv
    exact ⟨fun _ => h2, by omega, by omega⟩
  · have h3 : c = cap := by injection hv
    refine ⟨fun e => ?_, by omega, by omega⟩
    subst e
    cases hv
set_option maxRecDepth 100000 in
set_option maxHeartbeats 2000000 in
theorem copyConf_sep (B : Nat) (c : Qu.Cf) (hs0 : Short c) (a0 a1 a2 : Option Addr) (k0 k1 k2 : Nat) (w : World) (h0 : CIs w B c a0 a1 a2 k0 k1 k2) (hB : B ≤ w.heap.size) :
    Calls Tryz.prog 11 #[.agg #[.slice a0 c.old.length k0, .slice a1 c.new.length k1, .slice a2 c.lrn.length k2]] w fun e w' => ∃ A0 A1 A2 p0 p1 p2, e = .returned (.agg #[.slice A0 c.old.length p0, .slice A1 c.new.length p1, .slice A2 c.lrn.length p2]) ∧ (∃ m1 m2, (w.heap.size ≤ m1 ∧ m1 ≤ m2 ∧ m2 ≤ w'.heap.size) ∧ (OwnsI 3 w' w.heap.size A0 p0 c.old ∧ ∀ k, blk A0 = some k → k < m1) ∧ (OwnsI 3 w' m1 A1 p1 c.new ∧ ∀ k, blk A1 = some k → k < m2) ∧ OwnsI 3 w' m2 A2 p2 c.lrn) ∧ CIs w' w'.heap.size c A0 A1 A2 p0 p1 p2 ∧ Below w.heap.size w w' := by
  obtain ⟨wb, hwb⟩ : ∃ wb, wb = (w.alloc (.cells #[.slice a0 c.old.length k0, .slice a1 c.new.length k1, .slice a2 c.lrn.length k2] 24)).alloc (.cells #[.slice none 0 0, .slice none 0 0, .slice none 0 0] 24) := ⟨_, rfl⟩
  have hbel : Below w.heap.size w wb := by rw [hwb]; exact ((Below.refl _ _).alloc (Nat.le_refl _) _).alloc (by simp) _
  have hsz : wb.heap.size = w.heap.size + 2 := by rw [hwb]; simp
  have hrow : wb.heap[w.heap.size]? = some (.cells #[.slice a0 c.old.length k0, .slice a1 c.new.length k1, .slice a2 c.lrn.length k2] 24 (0, 0)) := by rw [hwb, Below.heap_alloc _ _ _ (by simp)]; exact heap_alloc_new w _
  have hrow2 : wb.heap[w.heap.size + 1]? = some (.cells #[.slice none 0 0, .slice none 0 0, .slice none 0 0] 24 (0, 0)) := by
    rw [hwb]
    have := heap_alloc_new (w.alloc (.cells #[.slice a0 c.old.length k0, .slice a1 c.new.length k1, .slice a2 c.lrn.length k2] 24)) (.cells #[.slice none 0 0, .slice none 0 0, .slice none 0 0] 24)
    rwa [World.size_alloc] at this
  have hI := h0.below (hbel.mono hB)
  have HX : Hid (∀ w', Below wb.drew.heap.size wb.drew w' → w'.cell? ⟨w.heap.size, 0, none⟩ = some (.slice a0 c.old.length k0) ∧ w'.cell? ⟨w.heap.size, 1, none⟩ = some (.slice a1 c.new.length k1) ∧ w'.cell? ⟨w.heap.size, 2, none⟩ = some (.slice a2 c.lrn.length k2)) := hid fun w' hb => by
    have h1 : w'.heap[w.heap.size]? = _ := (hb.block w.heap.size (by show w.heap.size < wb.heap.size; omega)).trans hrow
    exact ⟨cell_of_row w' w.heap.size 0 _ _ _ h1, cell_of_row w' w.heap.size 1 _ _ _ h1, cell_of_row w' w.heap.size 2 _ _ _ h1⟩
  have HK : Hid (∀ w' v0 v1 v2, Below wb.drew.heap.size wb.drew w' → (((w'.setCell ⟨w.heap.size + 1, 0, none⟩ v0).setCell ⟨w.heap.size + 1, 1, none⟩ v1).setCell ⟨w.heap.size + 1, 2, none⟩ v2).cell? ⟨w.heap.size, 0, none⟩ = some (.slice a0 c.old.length k0) ∧ (((w'.setCell ⟨w.heap.size + 1, 0, none⟩ v0).setCell ⟨w.heap.size + 1, 1, none⟩ v1).setCell ⟨w.heap.size + 1, 2, none⟩ v2).cell? ⟨w.heap.size, 1, none⟩ = some (.slice a1 c.new.length k1) ∧ (((w'.setCell ⟨w.heap.size + 1, 0, none⟩ v0).setCell ⟨w.heap.size + 1, 1, none⟩ v1).setCell ⟨w.heap.size + 1, 2, none⟩ v2).cell? ⟨w.heap.size, 2, none⟩ = some (.slice a2 c.lrn.length k2)) := hid fun w' v0 v1 v2 hb => by
    have h1 : w'.heap[w.heap.size]? = _ := (hb.block w.heap.size (by show w.heap.size < wb.heap.size; omega)).trans hrow
    have h2 : (((w'.setCell ⟨w.heap.size + 1, 0, none⟩ v0).setCell ⟨w.heap.size + 1, 1, none⟩ v1).setCell ⟨w.heap.size + 1, 2, none⟩ v2).heap[w.heap.size]? = w'.heap[w.heap.size]? := by
      rw [Below.heap_setCell _ _ _ _ (show w.heap.size ≠ w.heap.size + 1 by omega), Below.heap_setCell _ _ _ _ (show w.heap.size ≠ w.heap.size + 1 by omega), Below.heap_setCell _ _ _ _ (show w.heap.size ≠ w.heap.size + 1 by omega)]
    have h2 := h2.trans h1
    exact ⟨cell_of_row _ w.heap.size 0 _ _ _ h2, cell_of_row _ w.heap.size 1 _ _ _ h2, cell_of_row _ w.heap.size 2 _ _ _ h2⟩
  have HZ : Hid (∀ w', Below wb.drew.heap.size wb.drew w' → (w'.cell? ⟨w.heap.size + 1, 0, none⟩ = some (.slice none 0 0) ∧ w'.cell? ⟨w.heap.size + 1, 1, none⟩ = some (.slice none 0 0) ∧ w'.cell? ⟨w.heap.size + 1, 2, none⟩ = some (.slice none 0 0)) ∧ (∀ k, w'.frozen? ⟨w.heap.size + 1, k, none⟩ = false)) := hid fun w' hb => by
    have h1 : w'.heap[w.heap.size + 1]? = _ := (hb.block (w.heap.size + 1) (by show w.heap.size + 1 < wb.heap.size; omega)).trans hrow2
    exact ⟨⟨cell_of_row w' (w.heap.size + 1) 0 _ _ _ h1, cell_of_row w' (w.heap.size + 1) 1 _ _ _ h1, cell_of_row w' (w.heap.size + 1) 2 _ _ _ h1⟩, fun k => by simp [World.frozen?, h1]⟩
  have HZR : Hid (∀ w', Below wb.drew.heap.size wb.drew w' → w'.heap[w.heap.size + 1]? = some (.cells #[.slice none 0 0, .slice none 0 0, .slice none 0 0] 24 (0, 0))) := hid fun w' hb => (hb.block (w.heap.size + 1) (by show w.heap.size + 1 < wb.heap.size; omega)).trans hrow2
  have hd : wb.drew.heap.size = wb.heap.size := rfl
  have HD := hid (And.intro hd hsz)
  have CP : ∀ (A : Option Addr) (k : Nat) (l : List Int), l.length ≤ 20000 → IsInts wb B A l → ∀ w', Below wb.drew.heap.size wb.drew w' → Calls Tryz.prog 32 #[.slice A l.length k] w' fun e w'' => ∃ A' p, e = .returned (.slice A' l.length p) ∧ Hid (OwnsI 3 w'' w'.heap.size A' p l) ∧ Hid (Below wb.drew.heap.size wb.drew w'') ∧ Hid (Below w'.heap.size w' w'') := fun A k l hl hi w' hb =>
    (I.copy_any B A k l (by omega) w' (hi.drew.below (hb.mono (by show B ≤ wb.heap.size; omega))) (by have := hb.size; omega)).mono fun e w'' ⟨A', p, he, ho, hb2⟩ => ⟨A', p, he, hid ho, hid (bthen hb hb2 hb.size), hid hb2⟩
  have HC0 := hid (CP a0 k0 c.old hs0.1 hI.o wb.drew (Below.refl _ _))
  have HC1 := hid (CP a1 k1 c.new hs0.2.1 hI.n)
  have HC2 := hid (CP a2 k2 c.lrn hs0.2.2 hI.l)
  have c0 := (HX.out wb.drew (Below.refl _ _)).1
  have c1 := (HX.out wb.drew (Below.refl _ _)).2.1
  have c2 := (HX.out wb.drew (Below.refl _ _)).2.2
  have HB := hid hbel
  clear hbel hI h0 hs0 hsz hrow hrow2 hd CP
  go_enter Tryz.func11, Tryz.ntmps11
  go_wp2_with fail
  rw [← hwb]; clear hwb
  go_region_held3 (fun w' => w'.cell? ⟨w.heap.size, 0, none⟩ = some (.slice a0 c.old.length k0) ∧ w'.cell? ⟨w.heap.size, 1, none⟩ = some (.slice a1 c.new.length k1) ∧ w'.cell? ⟨w.heap.size, 2, none⟩ = some (.slice a2 c.lrn.length k2))
    (first | exact ⟨c0, c1, c2⟩ | exact HK.out _ _ _ _ hb3.out | exact HX.out _ hb3.out | exact HX.out _ hb2.out | exact HX.out _ hb1.out | fail)
    (first
      | (go_at_call 32; refine HY2.out.mono ?_; rintro e3 w3 ⟨A2, p2, rfl, ho2, hb3, hbb3⟩; obtain ⟨⟨z0, z1, z2⟩, fz⟩ := HZ.out w3 hb3.out; have f0 := fz 0; have f1 := fz 1; have f2 := fz 2)
      | (go_at_call 32; refine HY1.out.mono ?_; rintro e2 w2 ⟨A1, p1, rfl, ho1, hb2, hbb2⟩; have HY2 := hid (HC2.out w2 hb2.out))
      | (go_at_call 32; refine HC0.out.mono ?_; rintro e1 w1 ⟨A0, p0, rfl, ho0, hb1, hbb1⟩; have HY1 := hid (HC1.out w1 hb1.out)))
  obtain ⟨w4, hw4⟩ : ∃ w4, w4 = ((w3.setCell ⟨w.heap.size + 1, 0, none⟩ (.slice A0 c.old.length p0)).setCell ⟨w.heap.size + 1, 1, none⟩ (.slice A1 c.new.length p1)).setCell ⟨w.heap.size + 1, 2, none⟩ (.slice A2 c.lrn.length p2) := ⟨_, rfl⟩
  rw [← hw4]
  have hx3 := HZR.out w3 hb3.out
  have hx4 : w4.heap[w.heap.size + 1]? = some (.cells #[.slice A0 c.old.length p0, .slice A1 c.new.length p1, .slice A2 c.lrn.length p2] 24 (0, 0)) := by
    rw [hw4]
    simp [World.setCell, Array.getElem?_modify, hx3]
  have hg : w3.grownBy w4 (some (w.heap.size + 1)) := by
    rw [hw4]
    refine ⟨rfl, rfl, rfl, by simp [World.setCell], fun k hk hne => ?_⟩
    have hne' : k ≠ w.heap.size + 1 := fun e => hne (by rw [e])
    rw [Below.heap_setCell _ _ _ _ hne', Below.heap_setCell _ _ _ _ hne', Below.heap_setCell _ _ _ _ hne']
  have r0 : w4.cell? ⟨w.heap.size + 1, 0, none⟩ = some (.slice A0 c.old.length p0) := by simp [World.cell?, hx4]
  have r1 : w4.cell? ⟨w.heap.size + 1, 1, none⟩ = some (.slice A1 c.new.length p1) := by simp [World.cell?, hx4]
  have r2 : w4.cell? ⟨w.heap.size + 1, 2, none⟩ = some (.slice A2 c.lrn.length p2) := by simp [World.cell?, hx4]
  have HG := hid hg
  clear hw4 hx3 hx4 hg HK fz f0 f1 f2 z0 z1 z2
  go_wp2
  refine bodyPost_ret (by simp [results, Tryz.results11, go_sem, r0, r1, r2]; try rfl) rfl ?_
  have hs0 := HD.out.1
  have hs1 := HD.out.2
  have hz1 := hb1.out.size
  have hz2 := hb2.out.size
  have o0 := ((ho0.out.below (hbb2.out)).below hbb3.out).grown HG.out (fun k e => by injection e with e; omega)
  have o1 := (ho1.out.below hbb3.out).grown HG.out (fun k e => by injection e with e; omega)
  have o2 := ho2.out.grown HG.out (fun k e => by injection e with e; omega)
  have hz4 := HG.out.size
  have hz3 := hb3.out.size
  have hzb2 := hbb2.out.size
  have hzb3 := hbb3.out.size
  refine ⟨A0, A1, A2, p0, p1, p2, rfl, ⟨w1.heap.size, w2.heap.size, ⟨by omega, hzb2, by omega⟩, ⟨o0.weaken (by omega), fun k hk => (ho0.out.blkLt k hk).2⟩, ⟨o1, fun k hk => (ho1.out.blkLt k hk).2⟩, o2⟩, ⟨o0.reads, o1.reads, o2.reads, (ownsI_cap o0).1, (ownsI_cap o1).1, (ownsI_cap o2).1, (ownsI_cap o0).2, (ownsI_cap o1).2, (ownsI_cap o2).2⟩, ?_⟩
  exact ((Below.drew HB.out).trans (hb3.out.mono (by omega))).grown HG.out (by have := hb3.out.size; omega) (fun k e => by injection e with e; omega)
end Go.Proofs.YtfkjahpcpmcefaaGreat
namespace Go.Proofs.YtfkjahpcpmcefaaGreat.Pk
def num (l : List Nat) : Nat := l.foldl (fun a x => a * 256 + x) 0
def sgn (n : Nat) : Int := if n < 9223372036854775808 then (n : Int) else (n : Int) - 18446744073709551616
def byteOf (v : Int) (k : Nat) : Nat := (v / 2 ^ (8 * k) % 256).toNat
def enc (v : Int) : List Nat := [byteOf v 7, byteOf v 6, byteOf v 5, byteOf v 4, byteOf v 3, byteOf v 2, byteOf v 1, byteOf v 0]
def encs (l : List Int) : List Nat := l.flatMap enc
theorem byteOf_lt (v : Int) (k : Nat) : byteOf v k < 256 := by
  unfold byteOf
  have := Int.emod_nonneg (v / 2 ^ (8 * k)) (show (256 : Int) ≠ 0 by decide)
  have := Int.emod_lt_of_pos (v / 2 ^ (8 * k)) (show (0 : Int) < 256 by decide)
  omega
theorem enc_length (v : Int) : (enc v).length = 8 := rfl
theorem enc_small (v : Int) : ∀ x ∈ enc v, x < 256 := by
  intro x hx
  simp only [enc, List.mem_cons, List.not_mem_nil, or_false] at hx
  rcases hx with rfl | rfl | rfl | rfl | rfl | rfl | rfl | rfl <;> exact byteOf_lt _ _
theorem encs_length (l : List Int) : (encs l).length = 8 * l.length := by
  induction l with
  | nil => rfl
  | cons x l ih => simp only [encs, List.flatMap_cons, List.length_append, enc_length, List.length_cons] at ih ⊢; omega
theorem encs_small (l : List Int) : ∀ x ∈ encs l, x < 256 := by
  intro x hx
  obtain ⟨v, _, hv⟩ := List.mem_flatMap.1 hx
  exact enc_small v x hv
theorem encs_snoc (l : List Int) (v : Int) : encs (l ++ [v]) = encs l ++ enc v := by
  simp [encs]
theorem split_byte (q : Int) : q = 256 * (q / 256) + q % 256 ∧ 0 ≤ q % 256 ∧ q % 256 < 256 := by omega
theorem join_bytes (q : Int) (r0 r1 r2 r3 r4 r5 r6 r7 : Nat) (h7 : q = r7 ∨ q = (r7 : Int) - 256)
    (b0 : r0 < 256) (b1 : r1 < 256) (b2 : r2 < 256) (b3 : r3 < 256) (b4 : r4 < 256) (b5 : r5 < 256) (b6 : r6 < 256) (b7 : r7 < 256) (b8 : -128 ≤ q ∧ q < 128) :
    sgn (((((((((0 * 256 + r7) * 256 + r6) * 256 + r5) * 256 + r4) * 256 + r3) * 256 + r2) * 256 + r1) * 256 + r0)) =
      256 * (256 * (256 * (256 * (256 * (256 * (256 * q + r6) + r5) + r4) + r3) + r2) + r1) + r0 := by
  unfold sgn
  rcases h7 with h7 | h7
  · rw [if_pos (by omega)]; omega
  · rw [if_neg (by omega)]; omega
theorem ediv_pow (v : Int) (k : Nat) : v / 2 ^ (8 * (k + 1)) = v / 2 ^ (8 * k) / 256 := by
  rw [Int.ediv_ediv_of_nonneg (Int.le_of_lt (Int.pow_pos (by decide))), Nat.mul_add, Int.pow_add]; rfl
theorem step_byte (v : Int) (k : Nat) : 256 * (v / 2 ^ (8 * (k + 1))) + (byteOf v k : Nat) = v / 2 ^ (8 * k) := by
  have e := split_byte (v / 2 ^ (8 * k))
  rw [← ediv_pow] at e
  unfold byteOf
  omega
theorem dec_enc (v : Int) (h : -9223372036854775808 ≤ v ∧ v ≤ 9223372036854775807) : sgn (num (enc v)) = v := by
  have hb : -128 ≤ v / 2 ^ (8 * 7) ∧ v / 2 ^ (8 * 7) < 128 := by simp only [Nat.reduceMul, Int.reducePow]; omega
  have h7 : v / 2 ^ (8 * 7) = (byteOf v 7 : Nat) ∨ v / 2 ^ (8 * 7) = ((byteOf v 7 : Nat) : Int) - 256 := by
    have := split_byte (v / 2 ^ (8 * 7))
    unfold byteOf
    omega
  have e := join_bytes (v / 2 ^ (8 * 7)) (byteOf v 0) (byteOf v 1) (byteOf v 2) (byteOf v 3) (byteOf v 4) (byteOf v 5) (byteOf v 6) (byteOf v 7) h7
    (byteOf_lt _ _) (byteOf_lt _ _) (byteOf_lt _ _) (byteOf_lt _ _) (byteOf_lt _ _) (byteOf_lt _ _) (byteOf_lt _ _) (byteOf_lt _ _) hb
  rw [step_byte v 6, step_byte v 5, step_byte v 4, step_byte v 3, step_byte v 2, step_byte v 1, step_byte v 0] at e
  simp only [num, enc, List.foldl_cons, List.foldl_nil]
  rw [e]
  simp
theorem num_snoc (l : List Nat) (x : Nat) : num (l ++ [x]) = num l * 256 + x := by simp [num]
theorem num_lt (l : List Nat) (h : ∀ x ∈ l, x < 256) : num l < 256 ^ l.length := by
  induction hn : l.length generalizing l with
  | zero => have := List.eq_nil_of_length_eq_zero hn; subst this; simp [num]
  | succ n ih =>
    obtain ⟨a, x, rfl⟩ : ∃ a x, l = a ++ [x] := ⟨l.dropLast, l.getLast (by intro e; subst e; simp at hn), (List.dropLast_concat_getLast _).symm⟩
    have h1 := ih a (fun y hy => h y (by simp [hy])) (by simpa using hn)
    have h2 := h x (by simp)
    rw [num_snoc, Nat.pow_succ]
    omega
theorem sgn_in (n : Nat) (h : n < 18446744073709551616) : -9223372036854775808 ≤ sgn n ∧ sgn n ≤ 9223372036854775807 := by
  unfold sgn; split <;> omega
structure St where
  rest : List Nat
  bad : Bool
def St.ok (s : St) : Prop := s.bad = true → s.rest = []
def St.small (s : St) : Prop := ∀ x ∈ s.rest, x < 256
def gone : St := ⟨[], true⟩
def taken (s : St) (n : Int) : List Nat × St :=
  if n < 0 ∨ (s.rest.length : Int) < n then ([], gone) else (s.rest.take n.toNat, ⟨s.rest.drop n.toNat, s.bad⟩)
def rdInt (s : St) : Int × St :=
  if s.rest.length < 8 then (0, gone) else (sgn (num (s.rest.take 8)), ⟨s.rest.drop 8, s.bad⟩)
def rdBlob (s : St) : List Nat × St :=
  if (rdInt s).2.bad = true ∨ (rdInt s).1 < 0 ∨ ((rdInt s).2.rest.length : Int) < (rdInt s).1 then ([], gone)
  else ((rdInt s).2.rest.take (rdInt s).1.toNat, ⟨(rdInt s).2.rest.drop (rdInt s).1.toNat, false⟩)
def nums (n : Nat) (l : List Nat) : List Int := (List.range n).map fun i => sgn (num ((l.drop (8 * i)).take 8))
def rdInts (s : St) : List Int × St :=
  if (rdInt s).2.bad = true ∨ (rdInt s).1 < 0 ∨ (((rdInt s).2.rest.length : Int) / 8) < (rdInt s).1 then ([], gone)
  else (nums (rdInt s).1.toNat (rdInt s).2.rest, ⟨(rdInt s).2.rest.drop (8 * (rdInt s).1.toNat), false⟩)
theorem gone_ok : gone.ok := fun _ => rfl
theorem gone_small : gone.small := by intro x hx; cases hx
theorem taken_ok (s : St) (n : Int) (h : s.ok) : (taken s n).2.ok := by
  unfold taken
  split
  · exact gone_ok
  · intro hb; have := h hb; simp [this]
theorem taken_small (s : St) (n : Int) (h : s.small) : (taken s n).2.small ∧ ∀ x ∈ (taken s n).1, x < 256 := by
  unfold taken
  split
  · exact ⟨gone_small, by simp⟩
  · exact ⟨fun x hx => h x (List.mem_of_mem_drop hx), fun x hx => h x (List.mem_of_mem_take hx)⟩
theorem rdInt_taken (s : St) : rdInt s = (if s.rest.length < 8 then 0 else sgn (num (taken s 8).1), (taken s 8).2) := by
  unfold rdInt taken
  by_cases h : s.rest.length < 8
  · rw [if_pos h, if_pos h, if_pos (by omega)]
  · rw [if_neg h, if_neg h, if_neg (by omega)]; rfl
theorem rdInt_num (s : St) : (rdInt s).1 = sgn (num (taken s 8).1) := by
  rw [rdInt_taken]
  by_cases h : s.rest.length < 8
  · simp only [if_pos h]; unfold taken; rw [if_pos (by omega)]; rfl
  · simp only [if_neg h]
theorem rdInt_st (s : St) : (rdInt s).2 = (taken s 8).2 := by rw [rdInt_taken]
theorem rdInt_ok (s : St) (h : s.ok) : (rdInt s).2.ok := by rw [rdInt_st]; exact taken_ok s 8 h
theorem rdInt_small (s : St) (h : s.small) : (rdInt s).2.small := by rw [rdInt_st]; exact (taken_small s 8 h).1
theorem take_num_lt (l : List Nat) (h : ∀ x ∈ l, x < 256) : num (l.take 8) < 18446744073709551616 := by
  have h1 := num_lt (l.take 8) (fun x hx => h x (List.mem_of_mem_take hx))
  have h2 : (l.take 8).length ≤ 8 := List.length_take_le _ _
  have h3 : 256 ^ (l.take 8).length ≤ 256 ^ 8 := Nat.pow_le_pow_right (by decide) h2
  have h4 : 256 ^ 8 = 18446744073709551616 := by decide
  omega
theorem rdInt_in (s : St) (h : s.small) : -9223372036854775808 ≤ (rdInt s).1 ∧ (rdInt s).1 ≤ 9223372036854775807 := by
  unfold rdInt
  split
  · exact ⟨by decide, by decide⟩
  · exact sgn_in _ (take_num_lt _ h)
theorem rdInt_short (s : St) : (rdInt s).2.rest.length ≤ s.rest.length := by
  unfold rdInt gone; split <;> simp
theorem rdBlob_ok (s : St) : (rdBlob s).2.ok := by
  unfold rdBlob
  split
  · exact gone_ok
  · intro hb; cases hb
theorem rdBlob_small (s : St) (h : s.small) : (rdBlob s).2.small ∧ ∀ x ∈ (rdBlob s).1, x < 256 := by
  unfold rdBlob
  have := rdInt_small s h
  split
  · exact ⟨gone_small, by simp⟩
  · exact ⟨fun x hx => this x (List.mem_of_mem_drop hx), fun x hx => this x (List.mem_of_mem_take hx)⟩
theorem rdBlob_short (s : St) : (rdBlob s).2.rest.length ≤ s.rest.length ∧ (rdBlob s).1.length ≤ s.rest.length := by
  have := rdInt_short s
  unfold rdBlob gone; split <;> simp <;> omega
theorem nums_length (n : Nat) (l : List Nat) : (nums n l).length = n := by simp [nums]
theorem nums_snoc (n : Nat) (l : List Nat) : nums (n + 1) l = nums n l ++ [sgn (num ((l.drop (8 * n)).take 8))] := by
  unfold nums; rw [List.range_succ, List.map_append]; rfl
theorem rdInt_drop (l : List Nat) (b : Bool) (k n : Nat) (hk : k < n) (hn : 8 * n ≤ l.length) : rdInt ⟨l.drop (8 * k), b⟩ = (sgn (num ((l.drop (8 * k)).take 8)), ⟨l.drop (8 * (k + 1)), b⟩) := by
  unfold rdInt
  rw [if_neg (by simp; omega)]
  simp only [List.drop_drop]
  rw [show 8 * k + 8 = 8 * (k + 1) from by omega]
theorem rdInt_bad (s : St) (h : s.ok) (hb : (rdInt s).2.bad = true) : (rdInt s).1 = 0 ∧ (rdInt s).2 = gone := by
  have h1 := rdInt_ok s h hb
  have h3 : (rdInt s).2 = gone := by
    cases he : (rdInt s).2 with
    | mk r b => rw [he] at h1 hb; simp only at h1 hb; subst h1; subst hb; rfl
  refine ⟨?_, h3⟩
  unfold rdInt at hb ⊢
  by_cases hl : s.rest.length < 8
  · rw [if_pos hl]
  · rw [if_neg hl] at hb
    have := h hb
    rw [this] at hl; simp at hl
theorem rdInts_bad (s : St) (hb : (rdInt s).2.bad = true) : rdInts s = ([], gone) := by
  unfold rdInts
  rw [if_pos (Or.inl hb)]
theorem rdInts_wrong (s : St) (h : (rdInt s).1 < 0 ∨ (((rdInt s).2.rest.length : Int) / 8) < (rdInt s).1) : rdInts s = ([], gone) := by
  unfold rdInts
  rw [if_pos (Or.inr h)]
theorem rdInts_right (s : St) (n : Nat) (hb : (rdInt s).2.bad = false) (hn : (rdInt s).1 = n) (h : 8 * n ≤ (rdInt s).2.rest.length) : rdInts s = (nums n (rdInt s).2.rest, ⟨(rdInt s).2.rest.drop (8 * n), false⟩) := by
  unfold rdInts
  rw [if_neg (by rw [hb, hn]; simp; omega), hn]
  rfl
theorem nums_in (n : Nat) (l : List Nat) (h : ∀ x ∈ l, x < 256) : ∀ v ∈ nums n l, -9223372036854775808 ≤ v ∧ v ≤ 9223372036854775807 := by
  intro v hv
  obtain ⟨i, _, rfl⟩ := List.mem_map.1 hv
  exact sgn_in _ (take_num_lt _ (fun x hx => h x (List.mem_of_mem_drop hx)))
theorem rdInts_ok (s : St) : (rdInts s).2.ok := by
  unfold rdInts
  split
  · exact gone_ok
  · intro hb; cases hb
theorem rdInts_small (s : St) (h : s.small) : (rdInts s).2.small := by
  unfold rdInts
  have := rdInt_small s h
  split
  · exact gone_small
  · exact fun x hx => this x (List.mem_of_mem_drop hx)
theorem rdInts_in (s : St) (h : s.small) : ∀ v ∈ (rdInts s).1, -9223372036854775808 ≤ v ∧ v ≤ 9223372036854775807 := by
  unfold rdInts
  split
  · intro v hv; cases hv
  · exact nums_in _ _ (rdInt_small s h)
theorem rdInts_short (s : St) : (rdInts s).2.rest.length ≤ s.rest.length ∧ 8 * (rdInts s).1.length ≤ s.rest.length := by
  have := rdInt_short s
  unfold rdInts gone
  split
  · simp
  · rename_i h
    simp only [not_or] at h
    simp only [List.length_drop, nums_length]
    omega
inductive Val where
  | num (v : Int)
  | blob (l : List Nat)
  | list (l : List Int)
def Val.enc : Val → List Nat
  | .num v => Pk.enc v
  | .blob l => Pk.enc l.length ++ l
  | .list l => Pk.enc l.length ++ encs l
def Val.ok : Val → Prop
  | .num v => -9223372036854775808 ≤ v ∧ v ≤ 9223372036854775807
  | .blob l => l.length ≤ 1024 ∧ ∀ x ∈ l, x < 256
  | .list l => l.length ≤ 1024 ∧ ∀ v ∈ l, -9223372036854775808 ≤ v ∧ v ≤ 9223372036854775807
theorem rdInt_enc (v : Int) (t : List Nat) (b : Bool) (h : -9223372036854775808 ≤ v ∧ v ≤ 9223372036854775807) : rdInt ⟨enc v ++ t, b⟩ = (v, ⟨t, b⟩) := by
  unfold rdInt
  rw [if_neg (by simp [enc_length])]
  have e : (enc v ++ t).take 8 = enc v := by rw [List.take_left' (enc_length v)]
  have e' : (enc v ++ t).drop 8 = t := by rw [List.drop_left' (enc_length v)]
  simp only [e, e', dec_enc v h]
theorem nums_encs (l : List Int) (t : List Nat) (h : ∀ v ∈ l, -9223372036854775808 ≤ v ∧ v ≤ 9223372036854775807) : nums l.length (encs l ++ t) = l := by
  apply List.ext_getElem
  · exact nums_length _ _
  · intro i h1 h2
    have e : l = l.take i ++ l[i] :: l.drop (i + 1) := by simp
    have e2 : encs l ++ t = encs (l.take i) ++ (enc l[i] ++ (encs (l.drop (i + 1)) ++ t)) := by
      conv => lhs; rw [e]
      simp only [encs, List.flatMap_append, List.flatMap_cons, List.append_assoc]
    have e3 : (encs (l.take i)).length = 8 * i := by rw [encs_length, List.length_take, Nat.min_eq_left (by omega)]
    simp only [nums, List.getElem_map, List.getElem_range]
    rw [e2, List.drop_left' e3, List.take_left' (enc_length _)]
    exact dec_enc _ (h _ (List.getElem_mem _))
end Go.Proofs.YtfkjahpcpmcefaaGreat.Pk
namespace Go.Proofs.YtfkjahpcpmcefaaGreat.Rl
structure En where
  t : Int
  k : Int
  d : List Nat
deriving DecidableEq
structure Lg where
  base : Int
  term : Int
  es : List En
deriving DecidableEq
def Lg.at_ (g : Lg) : Nat → Int
  | 0 => g.term
  | n + 1 => (g.es.map (·.t)).getD n 0
def Lg.last (g : Lg) : Int := g.base + (g.es.length : Nat)
def Lg.has (g : Lg) (i : Int) : Bool := decide (g.base ≤ i) && decide (i ≤ g.last)
def Lg.pl (g : Lg) (i : Int) : Nat := (i - g.base).toNat
def Lg.slice (g : Lg) (i m : Int) : List En := if g.has i = true ∧ i ≠ g.base then (g.es.drop (g.pl i - 1)).take m.toNat else []
def alike : List En → List En → Nat
  | a :: r, b :: s => if a.t = b.t then alike r s + 1 else 0
  | _, _ => 0
def Lg.there (g : Lg) (p : Nat) (e : List En) : Nat := alike (g.es.drop p) e
def Lg.cut (g : Lg) (i : Int) : Lg := if g.has i then ⟨i, g.at_ (g.pl i), g.es.drop (g.pl i)⟩ else ⟨0, 0, []⟩
def Lg.cutE (g : Lg) (i : Int) : Int := if g.has i then 0 else 3
def Ok (g : Lg) : Prop := (0 ≤ g.base ∧ g.base ≤ 1099511637776) ∧ True ∧ g.es.length ≤ 50000
def Few (l : List En) : Prop := ∀ e ∈ l, e.d.length ≤ 65536
theorem Ok.drop {g : Lg} (h : Ok g) (n : Nat) : (g.es.drop n).length ≤ 50000 := by rw [List.length_drop]; have := h.2.2; omega
end Go.Proofs.YtfkjahpcpmcefaaGreat.Rl
namespace Go.Proofs.YtfkjahpcpmcefaaGreat.Im
open Rl (En Lg)
open Qu (Cf)
open Pk (St rdInt rdBlob rdInts enc encs)
set_option linter.unusedVariables false
def InI (v : Int) : Prop := -9223372036854775808 ≤ v ∧ v ≤ 9223372036854775807
structure Codec {α : Type} (N : Nat) (one : St → α × St) (en : α → List Nat) (ok : α → Prop) : Prop where
  back : ∀ x t, ok x → one ⟨en x ++ t, false⟩ = (x, ⟨t, false⟩)
  cut : ∀ x n, ok x → n < (en x).length → (one ⟨(en x).take n, false⟩).2 = Pk.gone
  gone : (one Pk.gone).2 = Pk.gone
  only : ∀ s, s.small → (one s).2.bad = false → s.rest = en (one s).1 ++ (one s).2.rest ∧ s.bad = false
  small : ∀ s, s.small → (one s).2.small
  sok : ∀ s, s.ok → (one s).2.ok
  short : ∀ s, (one s).2.rest.length ≤ s.rest.length
  good : ∀ s, s.small → s.rest.length ≤ N → ok (one s).1
  tiny : ∀ x, ok x → ∀ y ∈ en x, y < 256
  eight : ∀ x, 8 ≤ (en x).length
def rdP {α β : Type} (f : St → α × St) (g : St → β × St) (s : St) : (α × β) × St := (((f s).1, (g (f s).2).1), (g (f s).2).2)
def rdM {α β : Type} (h : α → β) (f : St → α × St) (s : St) : β × St := (h (f s).1, (f s).2)
def rdN {α : Type} (one : St → α × St) : Nat → St → List α × St
  | 0, s => ([], s)
  | n + 1, s => if s.bad = true then ([], s) else ((one s).1 :: (rdN one n (one s).2).1, (rdN one n (one s).2).2)
def rdL {α : Type} (one : St → α × St) (s : St) : List α × St :=
  if (rdInt s).1 < 0 ∨ (((rdInt s).2.rest.length / 8 : Nat) : Int) < (rdInt s).1 then ([], Pk.gone) else rdN one (rdInt s).1.toNat (rdInt s).2
def encL {α : Type} (one : α → List Nat) (l : List α) : List Nat := enc l.length ++ l.flatMap one
def encB (d : List Nat) : List Nat := enc d.length ++ d
def encI (l : List Int) : List Nat := enc l.length ++ encs l
theorem take_app (a b : List Nat) (n : Nat) (h : a.length ≤ n) : (a ++ b).take n = a ++ b.take (n - a.length) := by
  rw [List.take_append, List.take_of_length_le h]
theorem take_app_lt (a b : List Nat) (n : Nat) (h : n < a.length) : (a ++ b).take n = a.take n := by
  rw [List.take_append, show n - a.length = 0 by omega]; simp
theorem enc_sgn (l : List Nat) (h : l.length = 8) (hs : ∀ x ∈ l, x < 256) : enc (Pk.sgn (Pk.num l)) = l := by
  have h1 : Pk.num l < 18446744073709551616 := by
    have := Pk.num_lt l hs
    rw [h] at this
    exact this
  match l, h, hs with
  | [a, b, c, d, e, f, g, i], _, hs =>
    have ha := hs a (by simp)
    have hb := hs b (by simp)
    have hc := hs c (by simp)
    have hd := hs d (by simp)
    have he := hs e (by simp)
    have hf := hs f (by simp)
    have hg := hs g (by simp)
    have hi := hs i (by simp)
    have hn : Pk.num [a, b, c, d, e, f, g, i] = ((((((a * 256 + b) * 256 + c) * 256 + d) * 256 + e) * 256 + f) * 256 + g) * 256 + i := by simp [Pk.num]
    rw [hn] at h1 ⊢
    unfold Pk.sgn Pk.enc Pk.byteOf
    simp only [List.cons.injEq, and_true]
    refine ⟨?_, ?_, ?_, ?_, ?_, ?_, ?_, ?_⟩ <;> (split <;> omega)
theorem rdInt_only (s : St) (hs : s.small) (hb : (rdInt s).2.bad = false) : s.rest = enc (rdInt s).1 ++ (rdInt s).2.rest ∧ s.bad = false := by
  unfold rdInt at hb ⊢
  split at hb
  · cases hb
  · rename_i h
    rw [if_neg h]
    refine ⟨?_, hb⟩
    show s.rest = enc (Pk.sgn (Pk.num (s.rest.take 8))) ++ s.rest.drop 8
    rw [enc_sgn _ (by rw [List.length_take]; omega) (fun x hx => hs x (List.mem_of_mem_take hx)), List.take_append_drop]
theorem rdInt_cut (v : Int) (n : Nat) (h : n < 8) : rdInt ⟨(enc v).take n, false⟩ = (0, Pk.gone) := by
  unfold rdInt; rw [if_pos (by simp only [List.length_take, Pk.enc_length]; omega)]
theorem Codec.int (N : Nat) : Codec N rdInt enc InI where
  back := fun x t hx => Pk.rdInt_enc x t false hx
  cut := fun x n _ hn => by rw [rdInt_cut x n (by rw [Pk.enc_length] at hn; exact hn)]
  gone := rfl
  only := rdInt_only
  small := Pk.rdInt_small
  sok := Pk.rdInt_ok
  short := Pk.rdInt_short
  good := fun s hs _ => Pk.rdInt_in s hs
  tiny := fun x _ => Pk.enc_small x
  eight := fun x => by rw [Pk.enc_length]; exact Nat.le_refl _
theorem well_of {s : St} {P : Prop} (h : ¬ (s.bad = true ∨ P)) : s.bad = false := by
  rcases hh : s.bad with _ | _
  · rfl
  · exact absurd (Or.inl hh) h
theorem Codec.blob (N : Nat) (hN : N ≤ 1000000000000) : Codec N rdBlob encB (fun d => (∀ x ∈ d, x < 256) ∧ d.length ≤ N) where
  back := fun l t ⟨_, h⟩ => by
    have e := Pk.rdInt_enc (l.length : Int) (l ++ t) false ⟨by omega, by omega⟩
    unfold rdBlob encB
    rw [List.append_assoc, e, if_neg (by simp; omega)]
    simp
  cut := fun l n ⟨_, h⟩ hn => by
    unfold encB at hn ⊢
    rw [List.length_append, Pk.enc_length] at hn
    by_cases h8 : n < 8
    · rw [take_app_lt _ _ _ (by rw [Pk.enc_length]; exact h8)]
      unfold rdBlob
      rw [rdInt_cut _ _ h8]; rfl
    · rw [take_app _ _ _ (by rw [Pk.enc_length]; omega)]
      have e := Pk.rdInt_enc (l.length : Int) (l.take (n - (enc (l.length : Int)).length)) false ⟨by omega, by omega⟩
      unfold rdBlob
      rw [e, if_pos (Or.inr (Or.inr (by simp only [List.length_take, Pk.enc_length]; omega)))]
  gone := rfl
  only := fun s hs hb => by
    have h1 := Pk.rdInt_small s hs
    unfold rdBlob at hb ⊢
    split at hb
    · cases hb
    · rename_i h
      rw [if_neg h]
      obtain ⟨h2, h3⟩ := rdInt_only s hs (well_of h)
      refine ⟨?_, h3⟩
      have hl : ((((rdInt s).2.rest.take (rdInt s).1.toNat).length : Nat) : Int) = (rdInt s).1 := by rw [List.length_take]; omega
      show s.rest = (enc ((((rdInt s).2.rest.take (rdInt s).1.toNat).length : Nat) : Int) ++ (rdInt s).2.rest.take (rdInt s).1.toNat) ++ (rdInt s).2.rest.drop (rdInt s).1.toNat
      rw [hl, List.append_assoc, List.take_append_drop]; exact h2
  small := fun s hs => (Pk.rdBlob_small s hs).1
  sok := fun s _ => Pk.rdBlob_ok s
  short := fun s => (Pk.rdBlob_short s).1
  good := fun s hs hl => ⟨(Pk.rdBlob_small s hs).2, Nat.le_trans (Pk.rdBlob_short s).2 hl⟩
  tiny := fun l ⟨h, _⟩ y hy => by
    unfold encB at hy
    rcases List.mem_append.1 hy with hy | hy
    · exact Pk.enc_small _ y hy
    · exact h y hy
  eight := fun l => by unfold encB; rw [List.length_append, Pk.enc_length]; omega
theorem encs_nums : ∀ (n : Nat) (l : List Nat), (∀ x ∈ l, x < 256) → 8 * n ≤ l.length → encs (Pk.nums n l) = l.take (8 * n) := by
  intro n
  induction n with
  | zero => intro l _ _; rfl
  | succ n ih =>
    intro l hs hl
    rw [Pk.nums_snoc, Pk.encs_snoc, ih l hs (by omega), enc_sgn _ (by rw [List.length_take, List.length_drop]; omega) (fun x hx => hs x (List.mem_of_mem_drop (List.mem_of_mem_take hx)))]
    rw [show 8 * (n + 1) = 8 * n + 8 by omega, List.take_add]
theorem Codec.ints (N : Nat) (hN : N ≤ 1000000000000) : Codec N rdInts encI (fun l => (∀ v ∈ l, InI v) ∧ l.length ≤ N) where
  back := fun l t ⟨hv, h⟩ => by
    have e := Pk.rdInt_enc (l.length : Int) (encs l ++ t) false ⟨by omega, by omega⟩
    have el := Pk.encs_length l
    unfold rdInts encI
    rw [List.append_assoc, e, if_neg (by simp [el]; omega)]
    simp only [Int.toNat_natCast]
    rw [Pk.nums_encs l t hv, List.drop_left' el]
  cut := fun l n ⟨_, h⟩ hn => by
    have el := Pk.encs_length l
    unfold encI at hn ⊢
    rw [List.length_append, Pk.enc_length, el] at hn
    by_cases h8 : n < 8
    · rw [take_app_lt _ _ _ (by rw [Pk.enc_length]; exact h8)]
      unfold rdInts
      rw [rdInt_cut _ _ h8]; rfl
    · rw [take_app _ _ _ (by rw [Pk.enc_length]; omega)]
      have e := Pk.rdInt_enc (l.length : Int) ((encs l).take (n - (enc (l.length : Int)).length)) false ⟨by omega, by omega⟩
      unfold rdInts
      rw [e, if_pos (Or.inr (Or.inr (by simp only [List.length_take, Pk.enc_length, el]; omega)))]
  gone := rfl
  only := fun s hs hb => by
    have h1 := Pk.rdInt_small s hs
    unfold rdInts at hb ⊢
    split at hb
    · cases hb
    · rename_i h
      rw [if_neg h]
      obtain ⟨h2, h3⟩ := rdInt_only s hs (well_of h)
      refine ⟨?_, h3⟩
      show s.rest = (enc (((Pk.nums (rdInt s).1.toNat (rdInt s).2.rest).length : Nat) : Int) ++ encs (Pk.nums (rdInt s).1.toNat (rdInt s).2.rest)) ++ (rdInt s).2.rest.drop (8 * (rdInt s).1.toNat)
      rw [Pk.nums_length, encs_nums _ _ h1 (by omega), List.append_assoc, List.take_append_drop, show (((rdInt s).1.toNat : Nat) : Int) = (rdInt s).1 by omega]
      exact h2
  small := Pk.rdInts_small
  sok := fun s _ => Pk.rdInts_ok s
  short := fun s => (Pk.rdInts_short s).1
  good := fun s hs hl => ⟨Pk.rdInts_in s hs, by have := (Pk.rdInts_short s).2; omega⟩
  tiny := fun l _ y hy => by
    unfold encI at hy
    rcases List.mem_append.1 hy with hy | hy
    · exact Pk.enc_small _ y hy
    · exact Pk.encs_small l y hy
  eight := fun l => by unfold encI; rw [List.length_append, Pk.enc_length]; omega
section
variable {α β : Type} {N : Nat} {f : St → α × St} {g : St → β × St} {e1 : α → List Nat} {e2 : β → List Nat} {o1 : α → Prop} {o2 : β → Prop}
theorem Codec.map (h1 : Codec N f e1 o1) (h : α → β) (k : β → α) (hk : ∀ a, k (h a) = a) (hh : ∀ b, h (k b) = b) : Codec N (rdM h f) (fun b => e1 (k b)) (fun b => o1 (k b)) where
  back := fun x t hx => by unfold rdM; rw [h1.back _ t hx]; simp only []; rw [hh]
  cut := fun x n hx hn => h1.cut _ n hx hn
  gone := h1.gone
  only := fun s hs hb => by
    have := h1.only s hs hb
    unfold rdM
    simp only [hk]
    exact this
  small := h1.small
  sok := h1.sok
  short := h1.short
  good := fun s hs hl => by show o1 (k (h (f s).1)); rw [hk]; exact h1.good s hs hl
  tiny := fun x hx => h1.tiny _ hx
  eight := fun x => h1.eight _
theorem rdN_back (h1 : Codec N f e1 o1) : ∀ (L : List α) (t : List Nat), (∀ x ∈ L, o1 x) → rdN f L.length ⟨L.flatMap e1 ++ t, false⟩ = (L, ⟨t, false⟩) := by
  intro L
  induction L with
  | nil => intro t _; rfl
  | cons x L ih =>
    intro t h
    show (if false = true then _ else _) = _
    rw [if_neg (by decide)]
    simp only [List.flatMap_cons, List.append_assoc]
    rw [h1.back x _ (h x List.mem_cons_self)]
    simp only []
    rw [ih t (fun y hy => h y (List.mem_cons_of_mem _ hy))]
theorem rdN_gone (n : Nat) : rdN f n Pk.gone = ([], Pk.gone) := by
  cases n with
  | zero => rfl
  | succ n => show (if true = true then _ else _) = _; rw [if_pos rfl]
theorem rdN_cut (h1 : Codec N f e1 o1) : ∀ (L : List α) (n : Nat), (∀ x ∈ L, o1 x) → n < (L.flatMap e1).length → (rdN f L.length ⟨(L.flatMap e1).take n, false⟩).2 = Pk.gone := by
  intro L
  induction L with
  | nil => intro n _ h; simp at h
  | cons x L ih =>
    intro n h hn
    show (if false = true then _ else _ : List α × St).2 = _
    rw [if_neg (by decide)]
    simp only []
    rw [List.flatMap_cons] at hn ⊢
    rw [List.length_append] at hn
    by_cases hc : n < (e1 x).length
    · rw [take_app_lt _ _ _ hc, h1.cut x n (h x List.mem_cons_self) hc, rdN_gone]
    · rw [take_app _ _ _ (by omega), h1.back x _ (h x List.mem_cons_self)]
      exact ih _ (fun y hy => h y (List.mem_cons_of_mem _ hy)) (by omega)
theorem rdN_only (h1 : Codec N f e1 o1) : ∀ (n : Nat) (s : St), s.small → (rdN f n s).2.bad = false → s.rest = (rdN f n s).1.flatMap e1 ++ (rdN f n s).2.rest ∧ s.bad = false ∧ (rdN f n s).1.length = n := by
  intro n
  induction n with
  | zero => intro s hs hb; exact ⟨rfl, hb, rfl⟩
  | succ n ih =>
    intro s hs hb
    rcases hsb : s.bad with _ | _
    · have e : rdN f (n + 1) s = ((f s).1 :: (rdN f n (f s).2).1, (rdN f n (f s).2).2) := by show (if s.bad = true then _ else _) = _; rw [hsb, if_neg (by decide)]
      rw [e] at hb ⊢
      obtain ⟨q1, q2, q3⟩ := ih _ (h1.small s hs) hb
      obtain ⟨q4, q5⟩ := h1.only s hs q2
      refine ⟨?_, rfl, by simp [q3]⟩
      show s.rest = ((f s).1 :: (rdN f n (f s).2).1).flatMap e1 ++ (rdN f n (f s).2).2.rest
      rw [List.flatMap_cons, List.append_assoc, ← q1, ← q4]
    · have e : rdN f (n + 1) s = ([], s) := by show (if s.bad = true then _ else _) = _; rw [hsb, if_pos rfl]
      rw [e] at hb
      have hb' : s.bad = false := hb
      rw [hsb] at hb'; cases hb'
theorem rdN_keeps {P : St → Prop} (h : ∀ s, P s → P (f s).2) : ∀ (n : Nat) (s : St), P s → P (rdN f n s).2 := by
  intro n
  induction n with
  | zero => intro s hs; exact hs
  | succ n ih =>
    intro s hs
    show P (if s.bad = true then _ else _ : List α × St).2
    split
    · exact hs
    · exact ih _ (h s hs)
theorem rdN_all {P : St → Prop} {Q : α → Prop} (h : ∀ s, P s → P (f s).2) (hq : ∀ s, P s → Q (f s).1) : ∀ (n : Nat) (s : St), P s → (∀ x ∈ (rdN f n s).1, Q x) ∧ (rdN f n s).1.length ≤ n := by
  intro n
  induction n with
  | zero => intro s hs; exact ⟨fun x hx => (by cases hx), Nat.zero_le _⟩
  | succ n ih =>
    intro s hs
    have e : rdN f (n + 1) s = if s.bad = true then ([], s) else ((f s).1 :: (rdN f n (f s).2).1, (rdN f n (f s).2).2) := rfl
    rw [e]
    split
    · exact ⟨fun x hx => (by cases hx), Nat.zero_le _⟩
    · obtain ⟨q1, q2⟩ := ih _ (h s hs)
      refine ⟨fun x hx => ?_, by simp; exact q2⟩
      rcases List.mem_cons.1 hx with rfl | hx
      · exact hq s hs
      · exact q1 x hx
theorem rdL_gone : rdL f Pk.gone = ([], Pk.gone) := by
  have e : rdInt Pk.gone = (0, Pk.gone) := rfl
  unfold rdL
  rw [e]; rfl
theorem enc_tiny (v : Int) : ∀ y ∈ enc v, y < 256 := Pk.enc_small v
theorem flat_eight (h1 : Codec N f e1 o1) (L : List α) : 8 * L.length ≤ (L.flatMap e1).length := by
  induction L with
  | nil => simp
  | cons x L ih => rw [List.flatMap_cons, List.length_append, List.length_cons]; have := h1.eight x; omega
theorem Codec.list (h1 : Codec N f e1 o1) (hN : N ≤ 1000000000000) : Codec N (rdL f) (encL e1) (fun l => (∀ x ∈ l, o1 x) ∧ l.length ≤ N) where
  back := fun L t ⟨hL, hl⟩ => by
    have h8 := flat_eight h1 L
    unfold rdL encL
    rw [List.append_assoc, Pk.rdInt_enc _ _ _ ⟨by omega, by omega⟩]
    simp only []
    rw [if_neg (by rw [List.length_append]; omega)]
    exact rdN_back h1 L t hL
  cut := fun L n ⟨hL, hl⟩ hn => by
    unfold encL at hn ⊢
    rw [List.length_append, Pk.enc_length] at hn
    unfold rdL
    by_cases h : n < 8
    · have e : (enc (L.length : Int) ++ L.flatMap e1).take n = (enc (L.length : Int)).take n := take_app_lt _ _ _ h
      have e2 : rdInt ⟨(enc (L.length : Int)).take n, false⟩ = (0, Pk.gone) := by
        unfold rdInt; rw [if_pos (by simp only [List.length_take, Pk.enc_length]; omega)]
      rw [e, e2]; rfl
    · rw [take_app _ _ _ (by rw [Pk.enc_length]; omega), Pk.rdInt_enc _ _ _ ⟨by omega, by omega⟩]
      simp only []
      split
      · rfl
      · exact rdN_cut h1 L _ hL (by rw [Pk.enc_length]; omega)
  gone := by rw [rdL_gone]
  only := fun s hs hb => by
    have e : rdL f s = if (rdInt s).1 < 0 ∨ (((rdInt s).2.rest.length / 8 : Nat) : Int) < (rdInt s).1 then ([], Pk.gone) else rdN f (rdInt s).1.toNat (rdInt s).2 := rfl
    rw [e] at hb ⊢
    split at hb
    · cases hb
    · rename_i hc
      rw [if_neg hc]
      obtain ⟨q1, q2, q3⟩ := rdN_only h1 _ _ (Pk.rdInt_small s hs) hb
      obtain ⟨q4, q5⟩ := rdInt_only s hs q2
      refine ⟨?_, q5⟩
      unfold encL
      rw [q3, List.append_assoc, ← q1, show (((rdInt s).1.toNat : Nat) : Int) = (rdInt s).1 by omega]
      exact q4
  small := fun s hs => by
    unfold rdL
    split
    · exact Pk.gone_small
    · exact rdN_keeps h1.small _ _ (Pk.rdInt_small s hs)
  sok := fun s hs => by
    unfold rdL
    split
    · exact Pk.gone_ok
    · exact rdN_keeps h1.sok _ _ (Pk.rdInt_ok s hs)
  short := fun s => by
    have h := Pk.rdInt_short s
    unfold rdL
    split
    · exact Nat.zero_le _
    · exact rdN_keeps (P := fun x => x.rest.length ≤ s.rest.length) (fun x hx => Nat.le_trans (h1.short x) hx) _ _ h
  good := fun s hs hl => by
    have h := Pk.rdInt_short s
    unfold rdL
    split
    · exact ⟨fun x hx => (by cases hx), Nat.zero_le _⟩
    · rename_i hc
      obtain ⟨q1, q2⟩ := rdN_all (P := fun x => x.small ∧ x.rest.length ≤ N) (Q := o1) (fun x hx => ⟨h1.small x hx.1, Nat.le_trans (h1.short x) hx.2⟩) (fun x hx => h1.good x hx.1 hx.2) (rdInt s).1.toNat (rdInt s).2 ⟨Pk.rdInt_small s hs, Nat.le_trans h hl⟩
      exact ⟨q1, by omega⟩
  tiny := fun L ⟨hL, _⟩ y hy => by
    unfold encL at hy
    rcases List.mem_append.1 hy with hy | hy
    · exact enc_tiny _ y hy
    · obtain ⟨x, hx, hy⟩ := List.mem_flatMap.1 hy
      exact h1.tiny x (hL x hx) y hy
  eight := fun L => by unfold encL; rw [List.length_append, Pk.enc_length]; omega
end
structure Pt where
  log : Lg
  cf : Cf
  sn : List Nat
deriving DecidableEq
structure Hd where
  g : Int
  t : Int
  v : Int
  p : Pt
deriving DecidableEq
structure Vt where
  x : Int
  p : Int
  r : Int
  b : Int
  v : Int
deriving DecidableEq
structure Im where
  hs : List Hd
  vs : List Vt
deriving DecidableEq
structure Ch where
  k : Int
  g : Int
  t : Int
  v : Int
  f : Int
  p : Pt
  a : Vt
deriving DecidableEq
def rdE : St → En × St := rdM (fun p => ⟨p.1.1, p.1.2, p.2⟩) (rdP (rdP rdInt rdInt) rdBlob)
def rdLg : St → Lg × St := rdM (fun p => ⟨p.1.1, p.1.2, p.2⟩) (rdP (rdP rdInt rdInt) (rdL rdE))
def rdCf : St → Cf × St := rdM (fun p => ⟨p.1.1, p.1.2, p.2⟩) (rdP (rdP rdInts rdInts) rdInts)
def rdPt : St → Pt × St := rdM (fun p => ⟨p.1.1, p.1.2, p.2⟩) (rdP (rdP rdLg rdCf) rdBlob)
def rdH : St → Hd × St := rdM (fun p => ⟨p.1.1.1, p.1.1.2, p.1.2, p.2⟩) (rdP (rdP (rdP rdInt rdInt) rdInt) rdPt)
def rdV : St → Vt × St := rdM (fun p => ⟨p.1.1.1.1, p.1.1.1.2, p.1.1.2, p.1.2, p.2⟩) (rdP (rdP (rdP (rdP rdInt rdInt) rdInt) rdInt) rdInt)
def rdIm : St → Im × St := rdM (fun p => ⟨p.1, p.2⟩) (rdP (rdL rdH) (rdL rdV))
def okV (v : Vt) : Prop := (((InI v.x ∧ InI v.p) ∧ InI v.r) ∧ InI v.b) ∧ InI v.v
section
variable (N : Nat) (hN : N ≤ 1000000000000)
include hN
end
def fin (s : St) : Int := if s.bad = true then 4 else if 0 < s.rest.length then 2 else 0
def whole {α : Type} (one : St → α × St) (no : α) (b : List Nat) : α × Int := if fin (one ⟨b, false⟩).2 ≠ 0 then (no, fin (one ⟨b, false⟩).2) else ((one ⟨b, false⟩).1, 0)
section
variable {α : Type} {N : Nat} {f : St → α × St} {e1 : α → List Nat} {o1 : α → Prop} (h1 : Codec N f e1 o1) (no : α)
include h1
end
def asc {α : Type} (lt : α → α → Bool) : List α → Bool
  | [] => true
  | [_] => true
  | a :: b :: l => lt a b && asc lt (b :: l)
def ltH (a b : Hd) : Bool := decide (a.g < b.g)
def ltV (a b : Vt) : Bool := decide (a.x < b.x) || (decide (a.x = b.x) && decide (a.p < b.p))
def sorted (x : Im) : Bool := asc ltH x.hs && asc ltV x.vs
def get (b : List Nat) : Im × Int := if (whole rdIm ⟨[], []⟩ b).2 = 0 ∧ sorted (whole rdIm ⟨[], []⟩ b).1 = false then (⟨[], []⟩, 15) else whole rdIm ⟨[], []⟩ b
def getCf (b : List Nat) : Cf × Int :=
  if (whole rdCf ⟨[], [], []⟩ b).2 ≠ 0 then (⟨[], [], []⟩, (whole rdCf ⟨[], [], []⟩ b).2) else if Qu.err (whole rdCf ⟨[], [], []⟩ b).1 ≠ 0 then (⟨[], [], []⟩, Qu.err (whole rdCf ⟨[], [], []⟩ b).1) else ((whole rdCf ⟨[], [], []⟩ b).1, 0)
end Go.Proofs.YtfkjahpcpmcefaaGreat.Im
namespace Go.Proofs.YtfkjahpcpmcefaaGreat
open Go.RowKit
structure Turned (S : Nat → Prop) (w w' : World) : Prop where
  os : w'.os = w.os
  tape : w'.tape = w.tape
  output : w'.output = w.output
  size : w.heap.size ≤ w'.heap.size
  block : ∀ k, k < w.heap.size → ¬ S k → w'.heap[k]? = w.heap[k]?
namespace Turned
variable {S S' : Nat → Prop} {a b c w w' : World}
theorem refl (S : Nat → Prop) (w : World) : Turned S w w := ⟨rfl, rfl, rfl, Nat.le_refl _, fun _ _ _ => rfl⟩
theorem then_ (h : Turned S a b) (h' : Turned S' b c) (hs : ∀ k, k < a.heap.size → S' k → S k) : Turned S a c :=
  ⟨h'.os.trans h.os, h'.tape.trans h.tape, h'.output.trans h.output, Nat.le_trans h.size h'.size, fun k hk hn => (h'.block k (Nat.lt_of_lt_of_le hk h.size) (fun e => hn (hs k hk e))).trans (h.block k hk hn)⟩
theorem trans (h : Turned S a b) (h' : Turned S b c) : Turned S a c := h.then_ h' (fun _ _ h => h)
theorem mono (h : Turned S a b) (hs : ∀ k, S k → S' k) : Turned S' a b := ⟨h.os, h.tape, h.output, h.size, fun k hk hn => h.block k hk (fun e => hn (hs k e))⟩
theorem ofBelow (S : Nat → Prop) (h : Below a.heap.size a b) : Turned S a b := ⟨h.os, h.tape, h.output, h.size, fun k hk _ => h.block k hk⟩
theorem ofGrown {row : Option Nat} (h : a.grownBy b row) (hs : ∀ k, row = some k → S k) : Turned S a b := ⟨h.os, h.tape, h.output, h.size, fun k hk hn => h.block k hk (fun e => hn (hs k e.symm))⟩
theorem drewN (h : Turned S a b) (n : Nat) : Turned S a (b.drewN n) := ⟨h.os, h.tape, h.output, h.size, h.block⟩
theorem drew (h : Turned S a b) : Turned S a b.drew := ⟨h.os, h.tape, h.output, h.size, h.block⟩
theorem alloc (h : Turned S a b) (o : Obj) : Turned S a (b.alloc o) := h.then_ (S' := S) (ofGrown (World.grownBy_alloc b o none) (fun k e => by cases e)) (fun _ _ h => h)
theorem setCell (h : Turned S a b) (g k : Nat) (u : Value) (hg : g < a.heap.size → S g) : Turned S a (b.setCell ⟨g, k, none⟩ u) :=
  h.then_ (S' := fun j => j = g) (ofGrown (grown_setCell b g k u) (fun j e => by injection e with e; exact e.symm)) (fun j hj e => by subst e; exact hg hj)
theorem one (w : World) (g k : Nat) (u : Value) : Turned (fun j => j = g) w (w.setCell ⟨g, k, none⟩ u) := ofGrown (grown_setCell w g k u) (fun j e => by injection e with e; exact e.symm)
theorem below {B : Nat} (h : Turned S a b) (hB : B ≤ a.heap.size) (hs : ∀ k, S k → B ≤ k) : Below B a b :=
  ⟨h.os, h.tape, h.output, h.size, fun k hk => h.block k (by omega) (fun e => by have := hs k e; omega)⟩
theorem cell (h : Turned S a b) {p : Addr} (hp : p.block < a.heap.size) (hn : ¬ S p.block) : b.cell? p = a.cell? p := World.cell?_of_block (h.block p.block hp hn)
end Turned
theorem ownsRow_turned {w w' : World} {Z : Nat → Prop} {base : Nat} {e : TypeId} {size n : Nat} {v : Value} {xs : List Value} (h : w.ownsRow base e size v n xs) (ht : Turned Z w w') (ho : ∀ k, v.ownBlock = some k → ¬ Z k) : w'.ownsRow base e size v n xs := by
  refine ⟨h.1, ?_⟩
  rcases h.2 with h0 | ⟨g, cap, cur, h1, h2, h3, h4⟩
  · exact .inl h0
  · refine .inr ⟨g, cap, cur, h1, h2, ?_, h4⟩
    rw [ht.block g (Array.getElem?_eq_some_iff.1 h3).1 (ho g (by rw [h1]; rfl))]
    exact h3
end Go.Proofs.YtfkjahpcpmcefaaGreat
namespace Go.Proofs.YtfkjahpcpmcefaaGreat
open Go.RowKit
section
variable {α : Type} (f : α → List Value) (n : Nat) (hf : ∀ x, (f x).length = n)
include hf
theorem flat_len : ∀ L : List α, (L.flatMap f).length = L.length * n
  | [] => by simp
  | x :: r => by rw [List.flatMap_cons, List.length_append, hf, flat_len r, List.length_cons, Nat.succ_mul, Nat.add_comm]
theorem flat_get : ∀ (L : List α) (i : Nat) (hi : i < L.length) (k : Nat), k < n → (L.flatMap f)[i * n + k]? = (f L[i])[k]?
  | x :: r, 0, _, k, hk => by rw [List.flatMap_cons, Nat.zero_mul, Nat.zero_add, List.getElem?_append_left (by rw [hf]; exact hk)]; rfl
  | x :: r, i + 1, hi, k, hk => by
    rw [List.flatMap_cons, List.getElem?_append_right (by rw [hf, Nat.succ_mul]; omega), hf, show (i + 1) * n + k - n = i * n + k by rw [Nat.succ_mul]; omega]
    exact flat_get r i (by simpa using hi) k hk
theorem flat_set (x' : α) (k : Nat) (v : Value) : ∀ (L : List α) (i : Nat) (hi : i < L.length), k < n → f x' = (f L[i]).set k v → (L.set i x').flatMap f = (L.flatMap f).set (i * n + k) v
  | x :: r, 0, _, hk, he => by
    rw [List.set_cons_zero, List.flatMap_cons, List.flatMap_cons, Nat.zero_mul, Nat.zero_add, List.set_append_left _ _ (by rw [hf]; exact hk)]
    rw [he]; rfl
  | x :: r, i + 1, hi, hk, he => by
    have e1 : (i + 1) * n + k = (f x).length + (i * n + k) := by rw [hf, Nat.succ_mul]; omega
    rw [List.set_cons_succ, List.flatMap_cons, List.flatMap_cons, e1, List.set_append_right _ _ (by omega), Nat.add_sub_cancel_left, flat_set x' k v r i (by simpa using hi) hk (by simpa using he)]
end
structure RowIn {α : Type} (f : α → List Value) (size : Nat) (e : TypeId) (w : World) (F : Nat → Prop) (A : Option Addr) (c : Nat) (L : List α) : Prop where
  fits : ∀ x, (f x).length = size
  row : w.ownsRow 0 e size (.slice A L.length c) L.length (L.flatMap f)
  blk : ∀ k, blk A = some k → F k
namespace RowIn
variable {α : Type} {f : α → List Value} {size : Nat} {e : TypeId} {w w' : World} {F F' S : Nat → Prop} {A : Option Addr} {c : Nat} {L : List α}
theorem nil (hf : ∀ x, (f x).length = size) (e : TypeId) (w : World) (F : Nat → Prop) : RowIn f size e w F none 0 ([] : List α) :=
  ⟨hf, World.ownsRow_nil _ _ _ _, fun k h => by cases h⟩
theorem keep (h : RowIn f size e w F A c L) (ht : Turned S w w') (hd : ∀ k, Go.Proofs.YtfkjahpcpmcefaaGreat.blk A = some k → ¬ S k) : RowIn f size e w' F A c L :=
  ⟨h.fits, ownsRow_turned h.row ht (fun k hk => hd k (by rw [← ownBlock_slice A L.length c]; exact hk)), h.blk⟩
theorem mono (h : RowIn f size e w F A c L) (hF : ∀ k, Go.Proofs.YtfkjahpcpmcefaaGreat.blk A = some k → F' k) : RowIn f size e w F' A c L := ⟨h.fits, h.row, hF⟩
theorem lt (h : RowIn f size e w F A c L) : ∀ k, Go.Proofs.YtfkjahpcpmcefaaGreat.blk A = some k → k < w.heap.size := fun k hk => (h.row.lt k (by rw [ownBlock_slice]; exact hk)).2
theorem tag (h : RowIn f size e w F A c L) {k : Nat} (hk : Go.Proofs.YtfkjahpcpmcefaaGreat.blk A = some k) : ∃ cur, w.heap[k]? = some (.cells cur e (0, 0)) := by
  rcases h.row.2 with ⟨h0, _⟩ | ⟨g, cap, cur, hv, _, hh, _⟩
  · injection h0 with h0; rw [h0] at hk; cases hk
  · have hA : A = some ⟨g, 0, none⟩ := by injection hv
    rw [hA] at hk
    obtain rfl : g = k := by injection hk
    exact ⟨cur, hh⟩
theorem ne (h : RowIn f size e w F A c L) {g : Nat} {cs : Array Value} {t : TypeId} (hg : w.heap[g]? = some (.cells cs t (0, 0))) (hne : e ≠ t) : Go.Proofs.YtfkjahpcpmcefaaGreat.blk A ≠ some g := by
  intro hk
  obtain ⟨cur, hc⟩ := h.tag hk
  rw [hc] at hg
  exact hne (Obj.cells.inj (Option.some.inj hg)).2.1
theorem get (h : RowIn f size e w F A c L) (i : Nat) (hi : i < L.length) : ∃ g, A = some ⟨g, 0, none⟩ ∧ g < w.heap.size ∧ F g ∧ (∀ k, k < size → w.cell? ⟨g, i * size + k, none⟩ = (f L[i])[k]?) ∧ ∀ k, w.frozen? ⟨g, k, none⟩ = false := by
  rcases h.row.2 with ⟨_, h0⟩ | ⟨g, cap, cur, hv, _, hh, _⟩
  · omega
  · have hA : A = some ⟨g, 0, none⟩ := by injection hv
    subst hA
    refine ⟨g, rfl, (Array.getElem?_eq_some_iff.1 hh).1, h.blk g rfl, fun k hk => ?_, fun k => h.row.frozenAt k⟩
    have hlt : i * size + k < L.length * size := by
      have := Nat.mul_le_mul_right size (show i + 1 ≤ L.length by omega)
      rw [Nat.succ_mul] at this
      omega
    rw [h.row.cellAt _ hlt]
    exact flat_get f size h.fits L i hi k hk
theorem cap (h : RowIn f size e w F A c L) : L.length ≤ c := by
  rcases h.row.2 with ⟨h0, h1⟩ | ⟨g, cap, cur, hv, _, _, hc, _⟩
  · omega
  · have : c = cap := by injection hv
    omega
theorem capLe (h : RowIn f size e w F A c L) : c ≤ maxLen := by
  rcases h.row.2 with ⟨h0, h1⟩ | ⟨g, cap, cur, hv, _, _, hc, hm, _⟩
  · have : c = 0 := by injection h0
    omega
  · have : c = cap := by injection hv
    omega
theorem none_ (h : RowIn f size e w F A c L) : A = none → c = 0 := by
  rintro rfl
  rcases h.row.2 with ⟨h0, h1⟩ | ⟨g, cap, cur, hv, _⟩
  · injection h0
  · cases hv
theorem put (h : RowIn f size e w F A c L) {g : Nat} (hA : A = some ⟨g, 0, none⟩) (i k : Nat) (hi : i < L.length) (hk : k < size) (v : Value) (x' : α) (hx : f x' = (f L[i]).set k v) : RowIn f size e (w.setCell ⟨g, i * size + k, none⟩ v) F A c (L.set i x') := by
  subst hA
  refine ⟨h.fits, ?_, h.blk⟩
  rw [List.length_set, flat_set f size h.fits x' k v L i hi hk hx]
  exact (h.row.stored _ v).1
theorem below (h : RowIn f size e w F A c L) (hb : Below w.heap.size w w') : RowIn f size e w' F A c L := h.keep (S := fun _ => False) (Turned.ofBelow _ hb) (fun _ _ h => h)
end RowIn
theorem run_append_row {P : Program} {α : Type} {f : α → List Value} {size bytes : Nat} {e : TypeId} {w : World} {F : Nat → Prop} {A : Option Addr} {c : Nat} {L : List α} (t ty : TypeId) (i : TypeInfo) (z : Value)
    (ht : P.underlying t = some (.slice e)) (hi : P.info? e = some i) (hz : i.zero = some z) (hsize : i.size = size) (hby : i.bytes = bytes) (hzs : z.cells.size = size) (hsz : 0 < size)
    (h : RowIn f size e w F A c L) (y : α) (ad : Addr) (c' : Nat) (hy : ∀ k, k < size → w.cell? (ad.add k) = (f y)[k]?) (h1 : ∀ u ∈ f y, u.oneCell' = true)
    (hb : (L.length + 1) * bytes ≤ 140737488355328) (hl : L.length + 1 ≤ 10000000) :
    ∃ A2 c2 w', (Builtin.append_ #[t, t] ty #[.slice A L.length c, .slice (some ad) 1 c']).run P w = .ok (.slice A2 (L.length + 1) c2) w' ∧ RowIn f size e w' (fun k => F k ∨ w.heap.size ≤ k) A2 c2 (L ++ [y]) ∧ w.grownBy w' (blk A) ∧ (blk A2 = blk A ∨ blk A2 = some w.heap.size) := by
  obtain ⟨v', w', hr, h2, h3, _, h4⟩ := run_append_own_at (P := P) w 0 t ty e i z size bytes ht hi hz hsize hby hzs hsz _ L.length (L.flatMap f) h.row ad 1 c' (f y) (by rw [h.fits, Nat.one_mul])
    (fun j u hj => by
      have hlt : j < size := by have := (List.getElem?_eq_some_iff.1 hj).1; rwa [h.fits] at this
      rw [hy j hlt]; exact hj) h1 (by unfold maxLen; omega) hb (Nat.zero_le _)
  obtain ⟨A2, c2, rfl⟩ := own_slice h2
  rw [ownBlock_slice] at h3
  rw [ownBlock_slice, ownBlock_slice] at h4
  refine ⟨A2, c2, w', hr, ⟨h.fits, ?_, fun k hk => ?_⟩, h3, h4⟩
  · rw [List.length_append, List.flatMap_append]
    simpa using h2
  · rcases h4 with h4 | h4
    · exact .inl (h.blk k (by rw [← h4]; exact hk))
    · rw [h4] at hk
      injection hk with hk
      exact .inr (by omega)
theorem wp_append_rowM {P : Program} {w : World} {o : Oper} {a : Act} {K : Act → World → Prop} {Q : Exit → Act → World → Prop} (s x : Operand) (t : TypeId)
    (ho : o.op = .call { callee := .builtin .append, args := #[s, x], argTypes := #[t, t] }) {α : Type} {f : α → List Value} {size bytes : Nat} {e : TypeId} {F : Nat → Prop} {A : Option Addr} {c : Nat} {L : List α} (i : TypeInfo) (z : Value)
    (ht : P.underlying t = some (.slice e)) (hi : P.info? e = some i) (hz : i.zero = some z) (hsize : i.size = size) (hby : i.bytes = bytes) (hzs : z.cells.size = size) (hsz : 0 < size)
    (h : RowIn f size e w F A c L) (n : Nat) (hn : L.length = n) (hs : a.eval s = .slice A n c) (y : α) (ad : Addr) (c' : Nat) (hx : a.eval x = .slice (some ad) 1 c') (hy : ∀ k, k < size → w.cell? (ad.add k) = (f y)[k]?) (h1 : ∀ u ∈ f y, u.oneCell' = true)
    (hb : (n + 1) * bytes ≤ 140737488355328) (hl : n + 1 ≤ 10000000)
    (hK : ∀ A2 c2 w', RowIn f size e w' (fun k => F k ∨ w.heap.size ≤ k) A2 c2 (L ++ [y]) → w.grownBy w' (blk A) → (blk A2 = blk A ∨ blk A2 = some w.heap.size) → K (a.put o.dst (.slice A2 (n + 1) c2)) w') : o.wp P a w K Q := by
  subst hn
  obtain ⟨A2, c2, w', hr, h2, h3, h4⟩ := run_append_row (P := P) t o.type i z ht hi hz hsize hby hzs hsz h y ad c' hy h1 hb hl
  unfold Oper.wp execOp
  simp only [ho, resolve, invoke, builtin, Sem.run_bind, Sem.run_pure, Result.andThen_ok, List.map_toArray, List.map_cons, List.map_nil, hs, hx, hr]
  exact hK A2 c2 w' h2 h3 h4
theorem wp_append_row {P : Program} {w : World} {o : Oper} {a : Act} {K : Act → World → Prop} {Q : Exit → Act → World → Prop} (s x : Operand) (t : TypeId)
    (ho : o.op = .call { callee := .builtin .append, args := #[s, x], argTypes := #[t, t] }) {α : Type} {f : α → List Value} {size bytes : Nat} {e : TypeId} {F : Nat → Prop} {A : Option Addr} {c : Nat} {L : List α} (i : TypeInfo) (z : Value)
    (ht : P.underlying t = some (.slice e)) (hi : P.info? e = some i) (hz : i.zero = some z) (hsize : i.size = size) (hby : i.bytes = bytes) (hzs : z.cells.size = size) (hsz : 0 < size)
    (h : RowIn f size e w F A c L) (n : Nat) (hn : L.length = n) (hs : a.eval s = .slice A n c) (y : α) (ad : Addr) (c' : Nat) (hx : a.eval x = .slice (some ad) 1 c') (hy : ∀ k, k < size → w.cell? (ad.add k) = (f y)[k]?) (h1 : ∀ u ∈ f y, u.oneCell' = true)
    (hb : (n + 1) * bytes ≤ 140737488355328) (hl : n + 1 ≤ 100000)
    (hK : ∀ A2 c2 w', RowIn f size e w' (fun k => F k ∨ w.heap.size ≤ k) A2 c2 (L ++ [y]) → w.grownBy w' (blk A) → (blk A2 = blk A ∨ blk A2 = some w.heap.size) → K (a.put o.dst (.slice A2 (n + 1) c2)) w') : o.wp P a w K Q :=
  wp_append_rowM s x t ho i z ht hi hz hsize hby hzs hsz h n hn hs y ad c' hx hy h1 hb (by omega) hK
theorem step_append_row {P : Program} {w : World} {ops : Array Oper} {o : Oper} {a : Act} {K : Act → World → Prop} {Q : Exit → Act → World → Prop} {E : Prop} (hgd : o.guard = none) (s x : Operand) (t : TypeId)
    (ho : o.op = .call { callee := .builtin .append, args := #[s, x], argTypes := #[t, t] }) {α : Type} {f : α → List Value} {size bytes : Nat} {e : TypeId} {F : Nat → Prop} {A : Option Addr} {c : Nat} {L : List α} (i : TypeInfo) (z : Value)
    (ht : P.underlying t = some (.slice e)) (hi : P.info? e = some i) (hz : i.zero = some z) (hsize : i.size = size) (hby : i.bytes = bytes) (hzs : z.cells.size = size) (hsz : 0 < size)
    (h : RowIn f size e w F A c L) (n : Nat) (hn : L.length = n) (hs : a.eval s = .slice A n c) (y : α) (ad : Addr) (c' : Nat) (hx : a.eval x = .slice (some ad) 1 c') (hy : ∀ k, k < size → w.cell? (ad.add k) = (f y)[k]?) (h1 : ∀ u ∈ f y, u.oneCell' = true)
    (hb : (n + 1) * bytes ≤ 140737488355328) (hl : n + 1 ≤ 100000)
    (hK : ∀ A2 c2 w', RowIn f size e w' (fun k => F k ∨ w.heap.size ≤ k) A2 c2 (L ++ [y]) → w.grownBy w' (blk A) → (blk A2 = blk A ∨ blk A2 = some w.heap.size) → K (a.put o.dst (.slice A2 (n + 1) c2)) w') :
    if Region.wanted o (yielded ops a.tmps) = true then Oper.wp P o a w K Q else E := by
  have hw : Region.wanted o (yielded ops a.tmps) = true := by simp [Region.wanted, hgd]
  rw [if_pos hw]
  exact wp_append_row s x t ho i z ht hi hz hsize hby hzs hsz h n hn hs y ad c' hx hy h1 hb hl hK
theorem run_clear_sliceN {P : Program} (w : World) (t e ty : TypeId) (z : Value) (zs : List Value) (n c : Nat) (ht : P.underlying t = some (.slice e)) (hv : ∀ w, (zeroValue e).run P w = .ok z w) (hz : (Builtin.zeroCells z.cells n).toList = zs) (h1 : ∀ u ∈ zs, u.oneCell' = true) (b o : Nat) (hn : 0 < n)
    (hc : ∀ j, j < zs.length → (w.cell? ⟨b, o + j, none⟩).isSome = true) (hf : ∀ j, j < zs.length → w.frozen? ⟨b, o + j, none⟩ = false) :
    (Builtin.clear_ #[t] ty #[.slice (some ⟨b, o, none⟩) n c]).run P w = .ok (.tuple #[]) (w.setCells b o zs) := by
  have hst := run_storeCells_cells (P := P) b o zs 0 w (by simpa using hc) (by simpa using hf) h1
  simp only [Nat.add_zero] at hst
  obtain ⟨m, rfl⟩ : ∃ m, n = m + 1 := ⟨n - 1, by omega⟩
  simp [Builtin.clear_, run_underlying ht, hv, hz, hst]
def setL : List Value → Nat → List Value → List Value
  | xs, _, [] => xs
  | xs, o, v :: r => setL (xs.set o v) (o + 1) r
theorem take_set_le {α : Type} (l : List α) (o j : Nat) (v : α) (h : o ≤ j) : (l.set j v).take o = l.take o := by
  apply List.ext_getElem?
  intro k
  rw [List.getElem?_take, List.getElem?_take]
  split
  · rw [List.getElem?_set_ne (by omega)]
  · rfl
theorem setL_ahead : ∀ (vs xs : List Value) (o j : Nat), j ≤ o → (setL xs o vs).take j = xs.take j
  | [], _, _, _, _ => rfl
  | v :: r, xs, o, j, h => by
    unfold setL
    rw [setL_ahead r _ _ _ (by omega), take_set_le _ _ _ _ h]
theorem ownsRow_setCells {base size n cap g : Nat} {e : TypeId} : ∀ (vs : List Value) (w : World) (xs : List Value) (o : Nat), w.ownsRow base e size (.slice (some ⟨g, 0, none⟩) n cap) n xs → (w.setCells g o vs).ownsRow base e size (.slice (some ⟨g, 0, none⟩) n cap) n (setL xs o vs)
  | [], _, _, _, h => h
  | v :: r, _, _, o, h => ownsRow_setCells r _ _ _ (h.stored o v).1
theorem ownsRow_shrink {w : World} {base size n m cap : Nat} {A : Option Addr} {e : TypeId} {xs : List Value} (h : w.ownsRow base e size (.slice A n cap) n xs) (hm : m ≤ n) : w.ownsRow base e size (.slice A m cap) m (xs.take (m * size)) := by
  have hle : m * size ≤ n * size := Nat.mul_le_mul_right _ hm
  refine ⟨by rw [List.length_take, h.1]; omega, ?_⟩
  rcases h.2 with ⟨h0, h1⟩ | ⟨g, cap', cur, hv, hg, hh, hc, hm2, hs, ht⟩
  · refine .inl ⟨?_, by omega⟩
    injection h0 with e1 e2 e3
    rw [e1, e3, show m = 0 by omega]
  · injection hv with e1 e2 e3
    subst e1
    subst e3
    refine .inr ⟨g, cap, cur, rfl, hg, hh, by omega, hm2, hs, ?_⟩
    rw [← ht, List.take_take, Nat.min_eq_left hle]
theorem turned_setCells (g : Nat) : ∀ (vs : List Value) (w : World) (o : Nat), Turned (fun k => k = g) w (w.setCells g o vs)
  | [], w, _ => Turned.refl _ w
  | v :: r, w, o => (Turned.one w g o v).trans (turned_setCells g r _ _)
end Go.Proofs.YtfkjahpcpmcefaaGreat
