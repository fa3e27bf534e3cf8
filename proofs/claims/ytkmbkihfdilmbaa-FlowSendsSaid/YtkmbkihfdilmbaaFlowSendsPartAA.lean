/- Texts of the proof, one behind the other: Mem, RlMath, Ints, Grown, Turned, Flat, Ents, RlL, RlRefL, RlT, KitEq, KitSame, KitEnCopy, RlRefB, EntsMore, RlRefC. -/
import Derived.WalkKit
import Derived.WalkSpells
import Derived.Deep.Draws
import Derived.Laws.AppendOwnNone
import Derived.Maps.AppendAt
import Derived.Laws.OwnMore
import Derived.Lib.SliceRun
import Derived.Test.YtkmbkihfdilmbaaRows
import Derived.StillTailTactics
import Derived.Deep.QuietTactic
import Derived.BigQuiet
import Derived.Handy
import Derived.Deep.RegionHeld3
import Derived.ArgAppend
import Derived.OwnWalk
namespace Go.Proofs.Ytkmbkihfdilmbaa
open Go.RowKit
theorem hid {p : Prop} (h : p) : Hid p := h
theorem below_drewN {B : Nat} {a w : World} (h : Below B a w) (n : Nat) : Below B a (w.drewN n) := ⟨h.os, h.tape, h.output, h.size, h.block⟩
def bytes (l : List Nat) : List Value := l.map fun (x : Nat) => Value.int .u8 (x : Int)
structure IsBytes (w : World) (B : Nat) (A : Option Addr) (l : List Nat) : Prop where
  small : ∀ x ∈ l, x < 256
  cells : ∀ k, k < l.length → ∃ b off, A = some ⟨b, off, none⟩ ∧ b < B ∧ ∀ i (h : i < l.length), w.cell? ⟨b, off + i, none⟩ = some (.int .u8 (l[i] : Nat))
namespace IsBytes
variable {w w' : World} {B B' : Nat} {A : Option Addr} {l : List Nat}
theorem nil : IsBytes w B A [] := ⟨by simp, fun k h => by simp at h⟩
theorem keep (h : IsBytes w B A l) (hk : ∀ p : Addr, p.block < B → w'.cell? p = w.cell? p) : IsBytes w' B A l :=
  ⟨h.small, fun k hl => by
    obtain ⟨b, off, e, hb, hc⟩ := h.cells k hl
    exact ⟨b, off, e, hb, fun i hi => (hk _ hb).trans (hc i hi)⟩⟩
theorem more (h : IsBytes w B A l) (hB : B ≤ B') : IsBytes w B' A l :=
  ⟨h.small, fun k hl => by
    obtain ⟨b, off, e, hb, hc⟩ := h.cells k hl
    exact ⟨b, off, e, by omega, hc⟩⟩
theorem below (h : IsBytes w B A l) (hb : Below B w w') : IsBytes w' B A l := h.keep fun _ hp => hb.cell hp
theorem take (h : IsBytes w B A l) (n : Nat) : IsBytes w B A (l.take n) := by
  refine ⟨fun x hx => h.small x (List.mem_of_mem_take hx), fun k hk => ?_⟩
  rw [List.length_take] at hk
  obtain ⟨b, off, e, hb, hc⟩ := h.cells k (by omega)
  refine ⟨b, off, e, hb, fun i hi => ?_⟩
  rw [List.length_take] at hi
  rw [List.getElem_take]
  exact hc i (by omega)
theorem drewN (h : IsBytes w B A l) (n : Nat) : IsBytes (w.drewN n) B A l := ⟨h.small, h.cells⟩
theorem drew (h : IsBytes w B A l) : IsBytes w.drew B A l := ⟨h.small, h.cells⟩
end IsBytes
theorem isBytes_of_ints {W : World} {x : Addr} {len cap : Nat} {zs : List Int} (hl : len ≤ cap) (hz : zs.length = cap)
    (hcell : ∀ i, i < zs.length → W.cell? (x.add i) = some (.int .u8 (zs.getD i 0))) (hwz : ∀ n ∈ zs, (Lit.int .u8 n).wf = true) :
    ∃ l : List Nat, IsBytes W W.heap.size (some x) l ∧ len = l.length := by
  have hb : ∀ n ∈ zs, 0 ≤ n ∧ n < 256 := fun n hn => by
    have := hwz n hn
    simp [Lit.wf, IntKind.min, IntKind.max, IntKind.signed, IntKind.bits] at this
    omega
  refine ⟨(zs.take len).map Int.toNat, ⟨fun y hy => ?_, fun k hk => ?_⟩, by simp; omega⟩
  · obtain ⟨n, hn, rfl⟩ := List.mem_map.1 hy
    have := hb n (List.mem_of_mem_take hn)
    omega
  · have hk' : k < zs.length := by simp at hk; omega
    obtain ⟨b, off, spot⟩ := x
    have hspot : spot = none := by
      have := World.cell?_spot (hcell 0 (by omega))
      simpa [Addr.add] using this
    subst hspot
    have hadd : ∀ i, (⟨b, off, none⟩ : Addr).add i = ⟨b, off + i, none⟩ := fun i => by unfold Addr.add; split <;> simp [*]
    have hc : ∀ i, i < zs.length → W.cell? ⟨b, off + i, none⟩ = some (.int .u8 (zs.getD i 0)) := fun i hi => by rw [← hadd]; exact hcell i hi
    refine ⟨b, off, rfl, World.block_lt_of_cell? _ _ (hc k hk'), fun i hi => ?_⟩
    have hi' : i < zs.length := by simp at hi; omega
    rw [hc i hi', List.getElem_map, List.getElem_take, Int.toNat_of_nonneg (hb _ (List.getElem_mem hi')).1, List.getD_eq_getElem?_getD, List.getElem?_eq_getElem hi']
    rfl
structure OwnsB (e : TypeId) (w : World) (base : Nat) (A : Option Addr) (c : Nat) (l : List Nat) : Prop where
  small : ∀ x ∈ l, x < 256
  row : w.ownsRow base e 1 (.slice A l.length c) l.length (bytes l)
theorem bytes_get (l : List Nat) (k : Nat) (h : k < l.length) : (bytes l)[k]? = some (.int .u8 (l[k] : Nat)) := by
  unfold bytes; rw [List.getElem?_map, List.getElem?_eq_getElem h]; rfl
theorem own_slice {w : World} {base : Nat} {e : TypeId} {size n : Nat} {v : Value} {xs : List Value} (h : w.ownsRow base e size v n xs) : ∃ A c, v = .slice A n c := by
  rcases h.2 with ⟨rfl, h0⟩ | ⟨g, cap, cur, rfl, _⟩
  · exact ⟨none, 0, by rw [h0]⟩
  · exact ⟨_, _, rfl⟩
namespace OwnsB
variable {e : TypeId} {w w' : World} {base : Nat} {A : Option Addr} {c : Nat} {l : List Nat}
theorem reads (h : OwnsB e w base A c l) : IsBytes w w.heap.size A l := by
  refine ⟨h.small, fun k hk => ?_⟩
  rcases h.row.2 with ⟨_, h0⟩ | ⟨g, cap, cur, hv, hg, hh, _, _, _, _⟩
  · omega
  · have hA : A = some ⟨g, 0, none⟩ ∧ c = cap := by injection hv with h1 h2 h3; exact ⟨h1, h3⟩
    obtain ⟨rfl, rfl⟩ := hA
    refine ⟨g, 0, rfl, (h.row.lt g rfl).2, fun i hi => ?_⟩
    have := h.row.cells (g := g) rfl i _ (bytes_get l i hi)
    have e : (⟨g, 0, none⟩ : Addr).add i = ⟨g, 0 + i, none⟩ := by unfold Addr.add; split <;> simp [*]
    rw [e] at this
    exact this
theorem drew (h : OwnsB e w base A c l) : OwnsB e w.drew base A c l := ⟨h.small, h.row⟩
theorem drewN (h : OwnsB e w base A c l) (n : Nat) : OwnsB e (w.drewN n) base A c l := ⟨h.small, h.row⟩
theorem cap (h : OwnsB e w base A c l) : l.length ≤ c := by
  rcases h.row.2 with ⟨_, h0⟩ | ⟨g, cap, cur, hv, _, _, hc, _, _, _⟩
  · omega
  · have : c = cap := by injection hv
    omega
theorem below (h : OwnsB e w base A c l) (hb : Below w.heap.size w w') : OwnsB e w' base A c l := by
  refine ⟨h.small, h.row.kept (row := none) ⟨hb.os, hb.tape, hb.output, hb.size, fun k hk _ => hb.block k hk⟩ ?_⟩
  rcases ho : (Value.slice A l.length c).ownBlock with _ | g
  · exact .inl rfl
  · exact .inr (by simp)
theorem at_ (h : OwnsB e w base A c l) {k : Nat} (hk : k < l.length) : ∃ g, A = some ⟨g, 0, none⟩ ∧ base ≤ g ∧ g < w.heap.size ∧
    w.cell? ⟨g, k, none⟩ = some (.int .u8 (l[k] : Nat)) ∧ w.frozen? ⟨g, k, none⟩ = false := by
  rcases h.row.2 with ⟨_, h0⟩ | ⟨g, cap, cur, hv, hg, hh, _, _, _, _⟩
  · omega
  · have hA : A = some ⟨g, 0, none⟩ ∧ c = cap := by injection hv with h1 h2 h3; exact ⟨h1, h3⟩
    obtain ⟨rfl, rfl⟩ := hA
    refine ⟨g, rfl, hg, (h.row.lt g rfl).2, ?_, h.row.frozenAt k⟩
    rw [h.row.cellAt k (by omega)]
    exact bytes_get l k hk
theorem set_ {g : Nat} (h : OwnsB e w base (some ⟨g, 0, none⟩) c l) (k x : Nat) (hx : x < 256) :
    OwnsB e (w.setCell ⟨g, k, none⟩ (.int .u8 (x : Int))) base (some ⟨g, 0, none⟩) c (l.set k x) := by
  refine ⟨fun y hy => ?_, ?_⟩
  · rcases List.mem_or_eq_of_mem_set hy with hy | rfl
    · exact h.small y hy
    · exact hx
  · have := h.row.stored k (.int .u8 (x : Int))
    rw [List.length_set]
    rw [show bytes (l.set k x) = (bytes l).set k (.int .u8 (x : Int)) from by unfold bytes; rw [List.map_set]]
    exact this.1
end OwnsB
theorem IsBytes.news {w : World} {B : Nat} {ad : Addr} {l : List Nat} (h : IsBytes w B (some ad) l) : ∀ j u, (bytes l)[j]? = some u → w.cell? (ad.add j) = some u := by
  intro j u hu
  have hj : j < l.length := by
    have := (List.getElem?_eq_some_iff.1 hu).1
    simpa [bytes] using this
  obtain ⟨b, off, e, _, hc⟩ := h.cells j hj
  injection e with e
  subst e
  rw [bytes_get l j hj] at hu
  have hadd : (⟨b, off, none⟩ : Addr).add j = ⟨b, off + j, none⟩ := by unfold Addr.add; split <;> simp [*]
  rw [hadd, hc j hj]
  exact hu
theorem IsBytes.of_none {w : World} {B : Nat} {l : List Nat} (h : IsBytes w B none l) : l = [] := by
  rcases l with _ | ⟨x, l⟩
  · rfl
  · obtain ⟨b, off, e, _⟩ := h.cells 0 (by simp)
    cases e
theorem bytes_append (l m : List Nat) : bytes l ++ bytes m = bytes (l ++ m) := by unfold bytes; rw [List.map_append]
theorem bytes_oneCell (l : List Nat) : ∀ u ∈ bytes l, u.oneCell' = true := by
  intro u hu
  unfold bytes at hu
  obtain ⟨x, _, rfl⟩ := List.mem_map.1 hu
  rfl
theorem bytes_length (l : List Nat) : (bytes l).length = l.length := by simp [bytes]
theorem wpList_append_bytes {P : Program} {w : World} {ops : Array Oper} {rest : List Oper} {o : Oper} {a : Act} {Q : Exit → Act → World → Prop} (hgd : o.guard = none) (s x : Operand) (t : TypeId)
    (ho : o.op = .call { callee := .builtin .append, args := #[s, x], argTypes := #[t, t] })
    (base : Nat) (e : TypeId) (i : TypeInfo) (ht : P.underlying t = some (.slice e)) (hi : P.info? e = some i) (hz : i.zero = some (.int .u8 0)) (hsize : i.size = 1) (hby : i.bytes = 1)
    (A : Option Addr) (c : Nat) (l : List Nat) (hs : a.eval s = .slice A l.length c) (hown : OwnsB e w base A c l)
    (B : Nat) (A' : Option Addr) (c' : Nat) (m : List Nat) (hx : a.eval x = .slice A' m.length c') (hnil : A' = none → c' = 0) (hr : IsBytes w B A' m)
    (hbytes : l.length + m.length ≤ 140737488355328) (hbase : base ≤ w.heap.size)
    (h : ∀ A2 c2 w', OwnsB e w' base A2 c2 (l ++ m) → w.grownBy w' (Value.slice A l.length c).ownBlock → wpList P ops Q rest (a.put o.dst (.slice A2 (l.length + m.length) c2)) w') : wpList P ops Q (o :: rest) a w := by
  have hsm : ∀ y ∈ l ++ m, y < 256 := fun y hy => by
    rcases List.mem_append.1 hy with hy | hy
    · exact hown.small y hy
    · exact hr.small y hy
  rcases A' with _ | ad
  · obtain rfl := hr.of_none
    obtain rfl := hnil rfl
    refine wpList_append_own_none hgd s x t ho base e i 1 ht hi _ l.length (bytes l) hs hown.row hx ?_
    exact h A c w ⟨hsm, by simpa using hown.row⟩ (World.grownBy.refl w _)
  · refine wpList_append_own w hgd s x t ho base e i (.int .u8 0) 1 1 ht hi hz hsize hby rfl (by decide) _ l.length (bytes l) hs hown.row ad m.length c' (bytes m) hx (by rw [bytes_length]; omega) hr.news (bytes_oneCell m) (by unfold maxLen; omega) (by omega) hbase ?_
    intro v' w' h1 h2 _
    obtain ⟨A2, c2, rfl⟩ := own_slice h1
    rw [bytes_append] at h1
    exact h A2 c2 w' ⟨hsm, by rw [List.length_append]; exact h1⟩ h2
theorem add_off (b off m : Nat) : (⟨b, off, none⟩ : Addr).add m = ⟨b, off + m, none⟩ := by unfold Addr.add; split <;> simp [*]
theorem IsBytes.from {w : World} {B b off : Nat} {l : List Nat} (h : IsBytes w B (some ⟨b, off, none⟩) l) (m : Nat) : IsBytes w B (some ⟨b, off + m, none⟩) (l.drop m) := by
  refine ⟨fun x hx => h.small x (List.mem_of_mem_drop hx), fun k hk => ?_⟩
  rw [List.length_drop] at hk
  obtain ⟨b', off', e, hb, hc⟩ := h.cells 0 (by omega)
  injection e with e
  injection e with e1 e2
  subst e1
  subst e2
  refine ⟨b, off + m, rfl, hb, fun i hi => ?_⟩
  rw [List.length_drop] at hi
  rw [List.getElem_drop, Nat.add_assoc]
  exact hc (m + i) (by omega)
end Go.Proofs.Ytkmbkihfdilmbaa
namespace Go.Proofs.Ytkmbkihfdilmbaa.Rl
structure En where
  t : Int
  k : Int
  d : List Nat
deriving DecidableEq
structure Lg where
  base : Int
  term : Int
  es : List En
deriving DecidableEq
def Lg.at_ (g : Lg) : Nat → Int
  | 0 => g.term
  | n + 1 => (g.es.map (·.t)).getD n 0
def Lg.last (g : Lg) : Int := g.base + (g.es.length : Nat)
def Lg.lastT (g : Lg) : Int := g.at_ g.es.length
def Lg.has (g : Lg) (i : Int) : Bool := decide (g.base ≤ i) && decide (i ≤ g.last)
def Lg.pl (g : Lg) (i : Int) : Nat := (i - g.base).toNat
def Lg.termV (g : Lg) (i : Int) : Int := if g.has i then g.at_ (g.pl i) else 0
def Lg.slice (g : Lg) (i m : Int) : List En := if g.has i = true ∧ i ≠ g.base then (g.es.drop (g.pl i - 1)).take m.toNat else []
def alike : List En → List En → Nat
  | a :: r, b :: s => if a.t = b.t then alike r s + 1 else 0
  | _, _ => 0
def Lg.there (g : Lg) (p : Nat) (e : List En) : Nat := alike (g.es.drop p) e
def Lg.cut (g : Lg) (i : Int) : Lg := if g.has i then ⟨i, g.at_ (g.pl i), g.es.drop (g.pl i)⟩ else ⟨0, 0, []⟩
def Lg.cutE (g : Lg) (i : Int) : Int := if g.has i then 0 else 3
def Ok (g : Lg) : Prop := (0 ≤ g.base ∧ g.base ≤ 1099511637776) ∧ True ∧ g.es.length ≤ 50000
def Few (l : List En) : Prop := ∀ e ∈ l, e.d.length ≤ 65536
theorem Lg.has_iff {g : Lg} {i : Int} : g.has i = true ↔ g.base ≤ i ∧ i ≤ g.base + (g.es.length : Nat) := by
  unfold Lg.has Lg.last; rw [Bool.and_eq_true, decide_eq_true_iff, decide_eq_true_iff]
theorem Lg.has_not {g : Lg} {i : Int} : g.has i = false ↔ ¬ (g.base ≤ i ∧ i ≤ g.base + (g.es.length : Nat)) := by
  rw [← Lg.has_iff]; simp
theorem Lg.has_at {g : Lg} {i : Int} (h : g.has i = true) : ∃ p : Nat, i = g.base + (p : Nat) ∧ p ≤ g.es.length ∧ g.pl i = p := by
  obtain ⟨h1, h2⟩ := Lg.has_iff.1 h
  refine ⟨(i - g.base).toNat, by omega, by omega, rfl⟩
theorem Lg.has_of {g : Lg} {p : Nat} (h : p ≤ g.es.length) : g.has (g.base + (p : Nat)) = true := Lg.has_iff.2 (by omega)
theorem Lg.at_succ (g : Lg) (n : Nat) (h : n < g.es.length) : g.at_ (n + 1) = g.es[n].t := by
  show (g.es.map (·.t)).getD n 0 = _
  rw [List.getD_eq_getElem?_getD, List.getElem?_map, List.getElem?_eq_getElem h]; rfl
theorem Ok.drop {g : Lg} (h : Ok g) (n : Nat) : (g.es.drop n).length ≤ 50000 := by rw [List.length_drop]; have := h.2.2; omega
end Go.Proofs.Ytkmbkihfdilmbaa.Rl
namespace Go.Proofs.Ytkmbkihfdilmbaa
open Go.RowKit
def InInt (x : Int) : Prop := -9223372036854775808 ≤ x ∧ x ≤ 9223372036854775807
def ints (l : List Int) : List Value := l.map fun (x : Int) => Value.int .i64 x
structure IsInts (w : World) (B : Nat) (A : Option Addr) (l : List Int) : Prop where
  small : ∀ x ∈ l, InInt x
  cells : ∀ k, k < l.length → ∃ b off, A = some ⟨b, off, none⟩ ∧ b < B ∧ ∀ i (h : i < l.length), w.cell? ⟨b, off + i, none⟩ = some (.int .i64 l[i])
namespace IsInts
variable {w w' : World} {B B' : Nat} {A : Option Addr} {l : List Int}
theorem nil : IsInts w B A [] := ⟨by simp, fun k h => by simp at h⟩
theorem keep (h : IsInts w B A l) (hk : ∀ p : Addr, p.block < B → w'.cell? p = w.cell? p) : IsInts w' B A l :=
  ⟨h.small, fun k hl => by
    obtain ⟨b, off, e, hb, hc⟩ := h.cells k hl
    exact ⟨b, off, e, hb, fun i hi => (hk _ hb).trans (hc i hi)⟩⟩
theorem more (h : IsInts w B A l) (hB : B ≤ B') : IsInts w B' A l :=
  ⟨h.small, fun k hl => by
    obtain ⟨b, off, e, hb, hc⟩ := h.cells k hl
    exact ⟨b, off, e, by omega, hc⟩⟩
theorem below (h : IsInts w B A l) (hb : Below B w w') : IsInts w' B A l := h.keep fun _ hp => hb.cell hp
theorem take (h : IsInts w B A l) (n : Nat) : IsInts w B A (l.take n) := by
  refine ⟨fun x hx => h.small x (List.mem_of_mem_take hx), fun k hk => ?_⟩
  rw [List.length_take] at hk
  obtain ⟨b, off, e, hb, hc⟩ := h.cells k (by omega)
  refine ⟨b, off, e, hb, fun i hi => ?_⟩
  rw [List.length_take] at hi
  rw [List.getElem_take]
  exact hc i (by omega)
theorem drewN (h : IsInts w B A l) (n : Nat) : IsInts (w.drewN n) B A l := ⟨h.small, h.cells⟩
theorem drew (h : IsInts w B A l) : IsInts w.drew B A l := ⟨h.small, h.cells⟩
end IsInts
theorem isInts_of_ints {W : World} {x : Addr} {len cap : Nat} {zs : List Int} (hl : len ≤ cap) (hz : zs.length = cap)
    (hcell : ∀ i, i < zs.length → W.cell? (x.add i) = some (.int .i64 (zs.getD i 0))) (hwz : ∀ n ∈ zs, (Lit.int .i64 n).wf = true) :
    ∃ l : List Int, IsInts W W.heap.size (some x) l ∧ len = l.length := by
  refine ⟨zs.take len, ⟨fun y hy => ?_, fun k hk => ?_⟩, by simp; omega⟩
  · have := hwz y (List.mem_of_mem_take hy)
    simp [Lit.wf, IntKind.min, IntKind.max, IntKind.signed, IntKind.bits] at this
    exact this
  · have hk' : k < zs.length := by simp at hk; omega
    obtain ⟨b, off, spot⟩ := x
    have hspot : spot = none := by
      have := World.cell?_spot (hcell 0 (by omega))
      simpa [Addr.add] using this
    subst hspot
    have hadd : ∀ i, (⟨b, off, none⟩ : Addr).add i = ⟨b, off + i, none⟩ := fun i => by unfold Addr.add; split <;> simp [*]
    have hc : ∀ i, i < zs.length → W.cell? ⟨b, off + i, none⟩ = some (.int .i64 (zs.getD i 0)) := fun i hi => by rw [← hadd]; exact hcell i hi
    refine ⟨b, off, rfl, World.block_lt_of_cell? _ _ (hc k hk'), fun i hi => ?_⟩
    have hi' : i < zs.length := by simp at hi; omega
    rw [hc i hi', List.getElem_take, List.getD_eq_getElem?_getD, List.getElem?_eq_getElem hi']
    rfl
structure OwnsI (e : TypeId) (w : World) (base : Nat) (A : Option Addr) (c : Nat) (l : List Int) : Prop where
  small : ∀ x ∈ l, InInt x
  row : w.ownsRow base e 1 (.slice A l.length c) l.length (ints l)
theorem ints_get (l : List Int) (k : Nat) (h : k < l.length) : (ints l)[k]? = some (.int .i64 l[k]) := by
  unfold ints; rw [List.getElem?_map, List.getElem?_eq_getElem h]; rfl
namespace OwnsI
variable {e : TypeId} {w w' : World} {base : Nat} {A : Option Addr} {c : Nat} {l : List Int}
theorem reads (h : OwnsI e w base A c l) : IsInts w w.heap.size A l := by
  refine ⟨h.small, fun k hk => ?_⟩
  rcases h.row.2 with ⟨_, h0⟩ | ⟨g, cap, cur, hv, hg, hh, _, _, _, _⟩
  · omega
  · have hA : A = some ⟨g, 0, none⟩ ∧ c = cap := by injection hv with h1 h2 h3; exact ⟨h1, h3⟩
    obtain ⟨rfl, rfl⟩ := hA
    refine ⟨g, 0, rfl, (h.row.lt g rfl).2, fun i hi => ?_⟩
    have := h.row.cells (g := g) rfl i _ (ints_get l i hi)
    have e : (⟨g, 0, none⟩ : Addr).add i = ⟨g, 0 + i, none⟩ := by unfold Addr.add; split <;> simp [*]
    rw [e] at this
    exact this
theorem drew (h : OwnsI e w base A c l) : OwnsI e w.drew base A c l := ⟨h.small, h.row⟩
theorem drewN (h : OwnsI e w base A c l) (n : Nat) : OwnsI e (w.drewN n) base A c l := ⟨h.small, h.row⟩
theorem cap (h : OwnsI e w base A c l) : l.length ≤ c := by
  rcases h.row.2 with ⟨_, h0⟩ | ⟨g, cap, cur, hv, _, _, hc, _, _, _⟩
  · omega
  · have : c = cap := by injection hv
    omega
theorem below (h : OwnsI e w base A c l) (hb : Below w.heap.size w w') : OwnsI e w' base A c l := by
  refine ⟨h.small, h.row.kept (row := none) ⟨hb.os, hb.tape, hb.output, hb.size, fun k hk _ => hb.block k hk⟩ ?_⟩
  rcases ho : (Value.slice A l.length c).ownBlock with _ | g
  · exact .inl rfl
  · exact .inr (by simp)
theorem at_ (h : OwnsI e w base A c l) {k : Nat} (hk : k < l.length) : ∃ g, A = some ⟨g, 0, none⟩ ∧ base ≤ g ∧ g < w.heap.size ∧
    w.cell? ⟨g, k, none⟩ = some (.int .i64 l[k]) ∧ w.frozen? ⟨g, k, none⟩ = false := by
  rcases h.row.2 with ⟨_, h0⟩ | ⟨g, cap, cur, hv, hg, hh, _, _, _, _⟩
  · omega
  · have hA : A = some ⟨g, 0, none⟩ ∧ c = cap := by injection hv with h1 h2 h3; exact ⟨h1, h3⟩
    obtain ⟨rfl, rfl⟩ := hA
    refine ⟨g, rfl, hg, (h.row.lt g rfl).2, ?_, h.row.frozenAt k⟩
    rw [h.row.cellAt k (by omega)]
    exact ints_get l k hk
theorem set_ {g : Nat} (h : OwnsI e w base (some ⟨g, 0, none⟩) c l) (k : Nat) (x : Int) (hx : InInt x) :
    OwnsI e (w.setCell ⟨g, k, none⟩ (.int .i64 x)) base (some ⟨g, 0, none⟩) c (l.set k x) := by
  refine ⟨fun y hy => ?_, ?_⟩
  · rcases List.mem_or_eq_of_mem_set hy with hy | rfl
    · exact h.small y hy
    · exact hx
  · have := h.row.stored k (.int .i64 x)
    rw [List.length_set]
    rw [show ints (l.set k x) = (ints l).set k (.int .i64 x) from by unfold ints; rw [List.map_set]]
    exact this.1
end OwnsI
theorem IsInts.news {w : World} {B : Nat} {ad : Addr} {l : List Int} (h : IsInts w B (some ad) l) : ∀ j u, (ints l)[j]? = some u → w.cell? (ad.add j) = some u := by
  intro j u hu
  have hj : j < l.length := by
    have := (List.getElem?_eq_some_iff.1 hu).1
    simpa [ints] using this
  obtain ⟨b, off, e, _, hc⟩ := h.cells j hj
  injection e with e
  subst e
  rw [ints_get l j hj] at hu
  have hadd : (⟨b, off, none⟩ : Addr).add j = ⟨b, off + j, none⟩ := by unfold Addr.add; split <;> simp [*]
  rw [hadd, hc j hj]
  exact hu
theorem IsInts.of_none {w : World} {B : Nat} {l : List Int} (h : IsInts w B none l) : l = [] := by
  rcases l with _ | ⟨x, l⟩
  · rfl
  · obtain ⟨b, off, e, _⟩ := h.cells 0 (by simp)
    cases e
end Go.Proofs.Ytkmbkihfdilmbaa
namespace Go.Proofs.Ytkmbkihfdilmbaa
open Go.RowKit
theorem ret_len {A : Option Addr} {n m c : Nat} (h : n = m) : Ending.returned (.slice A n c) = .returned (.slice A m c) := by rw [h]
theorem grown_trans {a b c : World} {row row' : Option Nat} (h : a.grownBy b row) (h' : b.grownBy c row') (hr : ∀ k, row' = some k → k < a.heap.size → row = some k) : a.grownBy c row :=
  ⟨h'.os.trans h.os, h'.tape.trans h.tape, h'.output.trans h.output, Nat.le_trans h.size h'.size, fun k hk hne =>
    (h'.block k (Nat.lt_of_lt_of_le hk h.size) (fun e => hne (hr k e.symm hk).symm)).trans (h.block k hk hne)⟩
theorem grown_setCell (w : World) (g k : Nat) (u : Value) : w.grownBy (w.setCell ⟨g, k, none⟩ u) (some g) :=
  ⟨rfl, rfl, rfl, by simp [World.setCell], fun j _ hne => Below.heap_setCell _ _ _ _ (fun e => hne (by rw [e]))⟩
theorem grown_refl (a : World) (row : Option Nat) : a.grownBy a row := World.grownBy.refl a row
theorem below_grown {B : Nat} {a b : World} {row : Option Nat} (h : a.grownBy b row) (hB : B ≤ a.heap.size) (hr : ∀ k, row = some k → B ≤ k) : Below B a b := (Below.refl B a).grown h hB hr
theorem IsBytes.grown {w w' : World} {B : Nat} {A : Option Addr} {l : List Nat} {row : Option Nat} (h : IsBytes w B A l) (hg : w.grownBy w' row) (hB : B ≤ w.heap.size) (hr : ∀ k, row = some k → B ≤ k) : IsBytes w' B A l :=
  h.below (below_grown hg hB hr)
theorem IsInts.grown {w w' : World} {B : Nat} {A : Option Addr} {l : List Int} {row : Option Nat} (h : IsInts w B A l) (hg : w.grownBy w' row) (hB : B ≤ w.heap.size) (hr : ∀ k, row = some k → B ≤ k) : IsInts w' B A l :=
  h.below (below_grown hg hB hr)
theorem OwnsB.grown {e : TypeId} {w w' : World} {base c : Nat} {A : Option Addr} {l : List Nat} {row : Option Nat} (h : OwnsB e w base A c l) (hg : w.grownBy w' row) (hr : ∀ k, row = some k → k < base) : OwnsB e w' base A c l := by
  refine ⟨h.small, h.row.kept hg ?_⟩
  rcases ho : (Value.slice A l.length c).ownBlock with _ | g
  · exact .inl rfl
  · exact .inr (fun e => by have := hr g e.symm; have := (h.row.lt g ho).1; omega)
theorem OwnsI.grown {e : TypeId} {w w' : World} {base c : Nat} {A : Option Addr} {l : List Int} {row : Option Nat} (h : OwnsI e w base A c l) (hg : w.grownBy w' row) (hr : ∀ k, row = some k → k < base) : OwnsI e w' base A c l := by
  refine ⟨h.small, h.row.kept hg ?_⟩
  rcases ho : (Value.slice A l.length c).ownBlock with _ | g
  · exact .inl rfl
  · exact .inr (fun e => by have := hr g e.symm; have := (h.row.lt g ho).1; omega)
theorem OwnsB.rowLt {e : TypeId} {w : World} {base c : Nat} {A : Option Addr} {l : List Nat} (h : OwnsB e w base A c l) : ∀ k, (Value.slice A l.length c).ownBlock = some k → base ≤ k ∧ k < w.heap.size := h.row.lt
theorem OwnsI.rowLt {e : TypeId} {w : World} {base c : Nat} {A : Option Addr} {l : List Int} (h : OwnsI e w base A c l) : ∀ k, (Value.slice A l.length c).ownBlock = some k → base ≤ k ∧ k < w.heap.size := h.row.lt
theorem OwnsB.weaken {e : TypeId} {w : World} {base base' c : Nat} {A : Option Addr} {l : List Nat} (h : OwnsB e w base A c l) (hb : base' ≤ base) : OwnsB e w base' A c l := by
  refine ⟨h.small, h.row.1, ?_⟩
  rcases h.row.2 with h0 | ⟨g, cap, cur, h1, h2, h3⟩
  · exact .inl h0
  · exact .inr ⟨g, cap, cur, h1, by omega, h3⟩
theorem OwnsI.weaken {e : TypeId} {w : World} {base base' c : Nat} {A : Option Addr} {l : List Int} (h : OwnsI e w base A c l) (hb : base' ≤ base) : OwnsI e w base' A c l := by
  refine ⟨h.small, h.row.1, ?_⟩
  rcases h.row.2 with h0 | ⟨g, cap, cur, h1, h2, h3⟩
  · exact .inl h0
  · exact .inr ⟨g, cap, cur, h1, by omega, h3⟩
theorem OwnsB.alloc {e : TypeId} {w : World} {base c : Nat} {A : Option Addr} {l : List Nat} (h : OwnsB e w base A c l) (o : Obj) : OwnsB e (w.alloc o) base A c l := ⟨h.small, h.row.alloc o⟩
theorem OwnsI.alloc {e : TypeId} {w : World} {base c : Nat} {A : Option Addr} {l : List Int} (h : OwnsI e w base A c l) (o : Obj) : OwnsI e (w.alloc o) base A c l := ⟨h.small, h.row.alloc o⟩
theorem OwnsB.nil (e : TypeId) (w : World) (base : Nat) : OwnsB e w base none 0 [] := ⟨by simp, World.ownsRow_nil _ _ _ _⟩
theorem OwnsI.nil (e : TypeId) (w : World) (base : Nat) : OwnsI e w base none 0 [] := ⟨by simp, World.ownsRow_nil _ _ _ _⟩
theorem wpList_append_bytesN {P : Program} {w : World} {ops : Array Oper} {rest : List Oper} {o : Oper} {a : Act} {Q : Exit → Act → World → Prop} (hgd : o.guard = none) (s x : Operand) (t : TypeId)
    (ho : o.op = .call { callee := .builtin .append, args := #[s, x], argTypes := #[t, t] })
    (base : Nat) (e : TypeId) (i : TypeInfo) (ht : P.underlying t = some (.slice e)) (hi : P.info? e = some i) (hz : i.zero = some (.int .u8 0)) (hsize : i.size = 1) (hby : i.bytes = 1)
    (A : Option Addr) (c : Nat) (l : List Nat) (n : Nat) (hln : l.length = n) (hs : a.eval s = .slice A n c) (hown : OwnsB e w base A c l)
    (B : Nat) (A' : Option Addr) (c' : Nat) (m : List Nat) (k : Nat) (hmk : m.length = k) (hx : a.eval x = .slice A' k c') (hnil : A' = none → c' = 0) (hr : IsBytes w B A' m)
    (L : List Nat) (hL : l ++ m = L) (hbytes : n + k ≤ 140737488355328) (hbase : base ≤ w.heap.size)
    (h : ∀ A2 c2 w', OwnsB e w' base A2 c2 L → Below base w w' → wpList P ops Q rest (a.put o.dst (.slice A2 (n + k) c2)) w') : wpList P ops Q (o :: rest) a w := by
  subst hln
  subst hmk
  subst hL
  exact wpList_append_bytes hgd s x t ho base e i ht hi hz hsize hby A c l hs hown B A' c' m hx hnil hr hbytes hbase fun A2 c2 w' h1 h2 => h A2 c2 w' h1 (below_grown h2 hbase fun k hk => (hown.row.lt k hk).1)
theorem wpList_append_byteN {P : Program} {w : World} {ops : Array Oper} {rest : List Oper} {o : Oper} {a : Act} {Q : Exit → Act → World → Prop} (hgd : o.guard = none) (s x : Operand) (t : TypeId)
    (ho : o.op = .call { callee := .builtin .append, args := #[s, x], argTypes := #[t, t] })
    (base : Nat) (e : TypeId) (i : TypeInfo) (ht : P.underlying t = some (.slice e)) (hi : P.info? e = some i) (hz : i.zero = some (.int .u8 0)) (hsize : i.size = 1) (hby : i.bytes = 1)
    (A : Option Addr) (c : Nat) (l : List Nat) (n : Nat) (hln : l.length = n) (hs : a.eval s = .slice A n c) (hown : OwnsB e w base A c l)
    (ad : Addr) (c' : Nat) (y : Nat) (v : Int) (hyv : v = (y : Int)) (hy : y < 256) (hx : a.eval x = .slice (some ad) 1 c') (hc : w.cell? ad = some (.int .u8 v))
    (L : List Nat) (hL : l ++ [y] = L) (hbytes : n + 1 ≤ 140737488355328) (hbase : base ≤ w.heap.size)
    (h : ∀ A2 c2 w', OwnsB e w' base A2 c2 L → Below base w w' → wpList P ops Q rest (a.put o.dst (.slice A2 (n + 1) c2)) w') : wpList P ops Q (o :: rest) a w := by
  subst hln
  subst hL
  subst hyv
  refine wpList_append_own w hgd s x t ho base e i (.int .u8 0) 1 1 ht hi hz hsize hby rfl (by decide) _ l.length (bytes l) hs hown.row ad 1 c' [.int .u8 (y : Int)] hx rfl ?_ ?_ (by unfold maxLen; omega) (by omega) hbase ?_
  · intro j u hj
    match j, hj with
    | 0, hj => simp at hj; subst hj; simpa [Addr.add] using hc
  · intro u hu; simp at hu; subst hu; rfl
  · intro v' w' h1 h2 _
    obtain ⟨A2, c2, rfl⟩ := own_slice h1
    have e2 : bytes l ++ [Value.int .u8 (y : Int)] = bytes (l ++ [y]) := by unfold bytes; simp
    rw [e2] at h1
    refine h A2 c2 w' ⟨fun z hz => ?_, by rw [List.length_append]; exact h1⟩ (below_grown h2 hbase fun k hk => (hown.row.lt k hk).1)
    rcases List.mem_append.1 hz with hz | hz
    · exact hown.small z hz
    · simp at hz; subst hz; exact hy
def blk : Option Addr → Option Nat
  | some a => some a.block
  | none => none
theorem ownBlock_slice (A : Option Addr) (n c : Nat) : (Value.slice A n c).ownBlock = blk A := by cases A <;> rfl
theorem wpList_append_byteAt {P : Program} {w : World} {ops : Array Oper} {rest : List Oper} {o : Oper} {a : Act} {Q : Exit → Act → World → Prop} (hgd : o.guard = none) (s x : Operand) (t : TypeId)
    (ho : o.op = .call { callee := .builtin .append, args := #[s, x], argTypes := #[t, t] })
    (base : Nat) (e : TypeId) (i : TypeInfo) (ht : P.underlying t = some (.slice e)) (hi : P.info? e = some i) (hz : i.zero = some (.int .u8 0)) (hsize : i.size = 1) (hby : i.bytes = 1)
    (A : Option Addr) (c : Nat) (l : List Nat) (n : Nat) (hln : l.length = n) (hs : a.eval s = .slice A n c) (hown : OwnsB e w base A c l)
    (ad : Addr) (c' : Nat) (y : Nat) (v : Int) (hyv : v = (y : Int)) (hy : y < 256) (hx : a.eval x = .slice (some ad) 1 c') (hc : w.cell? ad = some (.int .u8 v))
    (L : List Nat) (hL : l ++ [y] = L) (hbytes : n + 1 ≤ 140737488355328) (hbase : base ≤ w.heap.size)
    (h : ∀ A2 c2 w', OwnsB e w' base A2 c2 L → Below base w w' → w.grownBy w' (blk A) → (blk A2 = blk A ∨ blk A2 = some w.heap.size) → wpList P ops Q rest (a.put o.dst (.slice A2 (n + 1) c2)) w') : wpList P ops Q (o :: rest) a w := by
  subst hln
  subst hL
  subst hyv
  refine wpList_append_own_at w hgd s x t ho base e i (.int .u8 0) 1 1 ht hi hz hsize hby rfl (by decide) _ l.length (bytes l) hs hown.row ad 1 c' [.int .u8 (y : Int)] hx rfl ?_ ?_ (by unfold maxLen; omega) (by omega) hbase ?_
  · intro j u hj
    match j, hj with
    | 0, hj => simp at hj; subst hj; simpa [Addr.add] using hc
  · intro u hu; simp at hu; subst hu; rfl
  · intro v' w' h1 h2 _ h4
    obtain ⟨A2, c2, rfl⟩ := own_slice h1
    have e2 : bytes l ++ [Value.int .u8 (y : Int)] = bytes (l ++ [y]) := by unfold bytes; simp
    rw [e2] at h1
    rw [ownBlock_slice, ownBlock_slice] at h4
    refine h A2 c2 w' ⟨fun z hz => ?_, by rw [List.length_append]; exact h1⟩ (below_grown h2 hbase fun k hk => (hown.row.lt k hk).1) (by rw [← ownBlock_slice A l.length c]; exact h2) h4
    rcases List.mem_append.1 hz with hz | hz
    · exact hown.small z hz
    · simp at hz; subst hz; exact hy
theorem OwnsB.none_ {e : TypeId} {w : World} {base c : Nat} {A : Option Addr} {l : List Nat} (h : OwnsB e w base A c l) : A = none → c = 0 := by
  rintro rfl
  rcases h.row.2 with ⟨hv, _⟩ | ⟨g, cap, cur, hv, _⟩
  · injection hv
  · cases hv
theorem OwnsB.blkLt {e : TypeId} {w : World} {base c : Nat} {A : Option Addr} {l : List Nat} (h : OwnsB e w base A c l) : ∀ k, blk A = some k → base ≤ k ∧ k < w.heap.size := by
  intro k hk; exact h.rowLt k (by rw [ownBlock_slice]; exact hk)
theorem OwnsI.blkLt {e : TypeId} {w : World} {base c : Nat} {A : Option Addr} {l : List Int} (h : OwnsI e w base A c l) : ∀ k, blk A = some k → base ≤ k ∧ k < w.heap.size := by
  intro k hk; exact h.rowLt k (by rw [ownBlock_slice]; exact hk)
end Go.Proofs.Ytkmbkihfdilmbaa
namespace Go.Proofs.Ytkmbkihfdilmbaa
open Go.RowKit
structure Turned (S : Nat → Prop) (w w' : World) : Prop where
  os : w'.os = w.os
  tape : w'.tape = w.tape
  output : w'.output = w.output
  size : w.heap.size ≤ w'.heap.size
  block : ∀ k, k < w.heap.size → ¬ S k → w'.heap[k]? = w.heap[k]?
namespace Turned
variable {S S' : Nat → Prop} {a b c w w' : World}
theorem refl (S : Nat → Prop) (w : World) : Turned S w w := ⟨rfl, rfl, rfl, Nat.le_refl _, fun _ _ _ => rfl⟩
theorem then_ (h : Turned S a b) (h' : Turned S' b c) (hs : ∀ k, k < a.heap.size → S' k → S k) : Turned S a c :=
  ⟨h'.os.trans h.os, h'.tape.trans h.tape, h'.output.trans h.output, Nat.le_trans h.size h'.size, fun k hk hn => (h'.block k (Nat.lt_of_lt_of_le hk h.size) (fun e => hn (hs k hk e))).trans (h.block k hk hn)⟩
theorem trans (h : Turned S a b) (h' : Turned S b c) : Turned S a c := h.then_ h' (fun _ _ h => h)
theorem mono (h : Turned S a b) (hs : ∀ k, S k → S' k) : Turned S' a b := ⟨h.os, h.tape, h.output, h.size, fun k hk hn => h.block k hk (fun e => hn (hs k e))⟩
theorem ofBelow (S : Nat → Prop) (h : Below a.heap.size a b) : Turned S a b := ⟨h.os, h.tape, h.output, h.size, fun k hk _ => h.block k hk⟩
theorem ofGrown {row : Option Nat} (h : a.grownBy b row) (hs : ∀ k, row = some k → S k) : Turned S a b := ⟨h.os, h.tape, h.output, h.size, fun k hk hn => h.block k hk (fun e => hn (hs k e.symm))⟩
theorem drewN (h : Turned S a b) (n : Nat) : Turned S a (b.drewN n) := ⟨h.os, h.tape, h.output, h.size, h.block⟩
theorem drew (h : Turned S a b) : Turned S a b.drew := ⟨h.os, h.tape, h.output, h.size, h.block⟩
theorem alloc (h : Turned S a b) (o : Obj) : Turned S a (b.alloc o) := h.then_ (S' := S) (ofGrown (World.grownBy_alloc b o none) (fun k e => by cases e)) (fun _ _ h => h)
theorem setCell (h : Turned S a b) (g k : Nat) (u : Value) (hg : g < a.heap.size → S g) : Turned S a (b.setCell ⟨g, k, none⟩ u) :=
  h.then_ (S' := fun j => j = g) (ofGrown (grown_setCell b g k u) (fun j e => by injection e with e; exact e.symm)) (fun j hj e => by subst e; exact hg hj)
theorem one (w : World) (g k : Nat) (u : Value) : Turned (fun j => j = g) w (w.setCell ⟨g, k, none⟩ u) := ofGrown (grown_setCell w g k u) (fun j e => by injection e with e; exact e.symm)
theorem two (w : World) (g k k' : Nat) (u u' : Value) : Turned (fun j => j = g) w ((w.setCell ⟨g, k, none⟩ u).setCell ⟨g, k', none⟩ u') := (one w g k u).trans (one _ g k' u')
theorem three (w : World) (g k k' k'' : Nat) (u u' u'' : Value) : Turned (fun j => j = g) w (((w.setCell ⟨g, k, none⟩ u).setCell ⟨g, k', none⟩ u').setCell ⟨g, k'', none⟩ u'') := (two w g k k' u u').trans (one _ g k'' u'')
theorem below {B : Nat} (h : Turned S a b) (hB : B ≤ a.heap.size) (hs : ∀ k, S k → B ≤ k) : Below B a b :=
  ⟨h.os, h.tape, h.output, h.size, fun k hk => h.block k (by omega) (fun e => by have := hs k e; omega)⟩
theorem cell (h : Turned S a b) {p : Addr} (hp : p.block < a.heap.size) (hn : ¬ S p.block) : b.cell? p = a.cell? p := World.cell?_of_block (h.block p.block hp hn)
end Turned
theorem ownsRow_turned {w w' : World} {Z : Nat → Prop} {base : Nat} {e : TypeId} {size n : Nat} {v : Value} {xs : List Value} (h : w.ownsRow base e size v n xs) (ht : Turned Z w w') (ho : ∀ k, v.ownBlock = some k → ¬ Z k) : w'.ownsRow base e size v n xs := by
  refine ⟨h.1, ?_⟩
  rcases h.2 with h0 | ⟨g, cap, cur, h1, h2, h3, h4⟩
  · exact .inl h0
  · refine .inr ⟨g, cap, cur, h1, h2, ?_, h4⟩
    rw [ht.block g (Array.getElem?_eq_some_iff.1 h3).1 (ho g (by rw [h1]; rfl))]
    exact h3
end Go.Proofs.Ytkmbkihfdilmbaa
namespace Go.Proofs.Ytkmbkihfdilmbaa
open Go.RowKit
section
variable {α : Type} (f : α → List Value) (n : Nat) (hf : ∀ x, (f x).length = n)
include hf
theorem flat_len : ∀ L : List α, (L.flatMap f).length = L.length * n
  | [] => by simp
  | x :: r => by rw [List.flatMap_cons, List.length_append, hf, flat_len r, List.length_cons, Nat.succ_mul, Nat.add_comm]
theorem flat_get : ∀ (L : List α) (i : Nat) (hi : i < L.length) (k : Nat), k < n → (L.flatMap f)[i * n + k]? = (f L[i])[k]?
  | x :: r, 0, _, k, hk => by rw [List.flatMap_cons, Nat.zero_mul, Nat.zero_add, List.getElem?_append_left (by rw [hf]; exact hk)]; rfl
  | x :: r, i + 1, hi, k, hk => by
    rw [List.flatMap_cons, List.getElem?_append_right (by rw [hf, Nat.succ_mul]; omega), hf, show (i + 1) * n + k - n = i * n + k by rw [Nat.succ_mul]; omega]
    exact flat_get r i (by simpa using hi) k hk
theorem flat_set (x' : α) (k : Nat) (v : Value) : ∀ (L : List α) (i : Nat) (hi : i < L.length), k < n → f x' = (f L[i]).set k v → (L.set i x').flatMap f = (L.flatMap f).set (i * n + k) v
  | x :: r, 0, _, hk, he => by
    rw [List.set_cons_zero, List.flatMap_cons, List.flatMap_cons, Nat.zero_mul, Nat.zero_add, List.set_append_left _ _ (by rw [hf]; exact hk)]
    rw [he]; rfl
  | x :: r, i + 1, hi, hk, he => by
    have e1 : (i + 1) * n + k = (f x).length + (i * n + k) := by rw [hf, Nat.succ_mul]; omega
    rw [List.set_cons_succ, List.flatMap_cons, List.flatMap_cons, e1, List.set_append_right _ _ (by omega), Nat.add_sub_cancel_left, flat_set x' k v r i (by simpa using hi) hk (by simpa using he)]
end
structure RowIn {α : Type} (f : α → List Value) (size : Nat) (e : TypeId) (w : World) (F : Nat → Prop) (A : Option Addr) (c : Nat) (L : List α) : Prop where
  fits : ∀ x, (f x).length = size
  row : w.ownsRow 0 e size (.slice A L.length c) L.length (L.flatMap f)
  blk : ∀ k, blk A = some k → F k
namespace RowIn
variable {α : Type} {f : α → List Value} {size : Nat} {e : TypeId} {w w' : World} {F F' S : Nat → Prop} {A : Option Addr} {c : Nat} {L : List α}
theorem nil (hf : ∀ x, (f x).length = size) (e : TypeId) (w : World) (F : Nat → Prop) : RowIn f size e w F none 0 ([] : List α) :=
  ⟨hf, World.ownsRow_nil _ _ _ _, fun k h => by cases h⟩
theorem keep (h : RowIn f size e w F A c L) (ht : Turned S w w') (hd : ∀ k, Go.Proofs.Ytkmbkihfdilmbaa.blk A = some k → ¬ S k) : RowIn f size e w' F A c L :=
  ⟨h.fits, ownsRow_turned h.row ht (fun k hk => hd k (by rw [← ownBlock_slice A L.length c]; exact hk)), h.blk⟩
theorem mono (h : RowIn f size e w F A c L) (hF : ∀ k, Go.Proofs.Ytkmbkihfdilmbaa.blk A = some k → F' k) : RowIn f size e w F' A c L := ⟨h.fits, h.row, hF⟩
theorem lt (h : RowIn f size e w F A c L) : ∀ k, Go.Proofs.Ytkmbkihfdilmbaa.blk A = some k → k < w.heap.size := fun k hk => (h.row.lt k (by rw [ownBlock_slice]; exact hk)).2
theorem tag (h : RowIn f size e w F A c L) {k : Nat} (hk : Go.Proofs.Ytkmbkihfdilmbaa.blk A = some k) : ∃ cur, w.heap[k]? = some (.cells cur e (0, 0)) := by
  rcases h.row.2 with ⟨h0, _⟩ | ⟨g, cap, cur, hv, _, hh, _⟩
  · injection h0 with h0; rw [h0] at hk; cases hk
  · have hA : A = some ⟨g, 0, none⟩ := by injection hv
    rw [hA] at hk
    obtain rfl : g = k := by injection hk
    exact ⟨cur, hh⟩
theorem ne (h : RowIn f size e w F A c L) {g : Nat} {cs : Array Value} {t : TypeId} (hg : w.heap[g]? = some (.cells cs t (0, 0))) (hne : e ≠ t) : Go.Proofs.Ytkmbkihfdilmbaa.blk A ≠ some g := by
  intro hk
  obtain ⟨cur, hc⟩ := h.tag hk
  rw [hc] at hg
  exact hne (Obj.cells.inj (Option.some.inj hg)).2.1
theorem get (h : RowIn f size e w F A c L) (i : Nat) (hi : i < L.length) : ∃ g, A = some ⟨g, 0, none⟩ ∧ g < w.heap.size ∧ F g ∧ (∀ k, k < size → w.cell? ⟨g, i * size + k, none⟩ = (f L[i])[k]?) ∧ ∀ k, w.frozen? ⟨g, k, none⟩ = false := by
  rcases h.row.2 with ⟨_, h0⟩ | ⟨g, cap, cur, hv, _, hh, _⟩
  · omega
  · have hA : A = some ⟨g, 0, none⟩ := by injection hv
    subst hA
    refine ⟨g, rfl, (Array.getElem?_eq_some_iff.1 hh).1, h.blk g rfl, fun k hk => ?_, fun k => h.row.frozenAt k⟩
    have hlt : i * size + k < L.length * size := by
      have := Nat.mul_le_mul_right size (show i + 1 ≤ L.length by omega)
      rw [Nat.succ_mul] at this
      omega
    rw [h.row.cellAt _ hlt]
    exact flat_get f size h.fits L i hi k hk
theorem cap (h : RowIn f size e w F A c L) : L.length ≤ c := by
  rcases h.row.2 with ⟨h0, h1⟩ | ⟨g, cap, cur, hv, _, _, hc, _⟩
  · omega
  · have : c = cap := by injection hv
    omega
theorem capLe (h : RowIn f size e w F A c L) : c ≤ maxLen := by
  rcases h.row.2 with ⟨h0, h1⟩ | ⟨g, cap, cur, hv, _, _, hc, hm, _⟩
  · have : c = 0 := by injection h0
    omega
  · have : c = cap := by injection hv
    omega
theorem none_ (h : RowIn f size e w F A c L) : A = none → c = 0 := by
  rintro rfl
  rcases h.row.2 with ⟨h0, h1⟩ | ⟨g, cap, cur, hv, _⟩
  · injection h0
  · cases hv
theorem put (h : RowIn f size e w F A c L) {g : Nat} (hA : A = some ⟨g, 0, none⟩) (i k : Nat) (hi : i < L.length) (hk : k < size) (v : Value) (x' : α) (hx : f x' = (f L[i]).set k v) : RowIn f size e (w.setCell ⟨g, i * size + k, none⟩ v) F A c (L.set i x') := by
  subst hA
  refine ⟨h.fits, ?_, h.blk⟩
  rw [List.length_set, flat_set f size h.fits x' k v L i hi hk hx]
  exact (h.row.stored _ v).1
theorem below (h : RowIn f size e w F A c L) (hb : Below w.heap.size w w') : RowIn f size e w' F A c L := h.keep (S := fun _ => False) (Turned.ofBelow _ hb) (fun _ _ h => h)
end RowIn
theorem run_append_row {P : Program} {α : Type} {f : α → List Value} {size bytes : Nat} {e : TypeId} {w : World} {F : Nat → Prop} {A : Option Addr} {c : Nat} {L : List α} (t ty : TypeId) (i : TypeInfo) (z : Value)
    (ht : P.underlying t = some (.slice e)) (hi : P.info? e = some i) (hz : i.zero = some z) (hsize : i.size = size) (hby : i.bytes = bytes) (hzs : z.cells.size = size) (hsz : 0 < size)
    (h : RowIn f size e w F A c L) (y : α) (ad : Addr) (c' : Nat) (hy : ∀ k, k < size → w.cell? (ad.add k) = (f y)[k]?) (h1 : ∀ u ∈ f y, u.oneCell' = true)
    (hb : (L.length + 1) * bytes ≤ 140737488355328) (hl : L.length + 1 ≤ 10000000) :
    ∃ A2 c2 w', (Builtin.append_ #[t, t] ty #[.slice A L.length c, .slice (some ad) 1 c']).run P w = .ok (.slice A2 (L.length + 1) c2) w' ∧ RowIn f size e w' (fun k => F k ∨ w.heap.size ≤ k) A2 c2 (L ++ [y]) ∧ w.grownBy w' (blk A) ∧ (blk A2 = blk A ∨ blk A2 = some w.heap.size) := by
  obtain ⟨v', w', hr, h2, h3, _, h4⟩ := run_append_own_at (P := P) w 0 t ty e i z size bytes ht hi hz hsize hby hzs hsz _ L.length (L.flatMap f) h.row ad 1 c' (f y) (by rw [h.fits, Nat.one_mul])
    (fun j u hj => by
      have hlt : j < size := by have := (List.getElem?_eq_some_iff.1 hj).1; rwa [h.fits] at this
      rw [hy j hlt]; exact hj) h1 (by unfold maxLen; omega) hb (Nat.zero_le _)
  obtain ⟨A2, c2, rfl⟩ := own_slice h2
  rw [ownBlock_slice] at h3
  rw [ownBlock_slice, ownBlock_slice] at h4
  refine ⟨A2, c2, w', hr, ⟨h.fits, ?_, fun k hk => ?_⟩, h3, h4⟩
  · rw [List.length_append, List.flatMap_append]
    simpa using h2
  · rcases h4 with h4 | h4
    · exact .inl (h.blk k (by rw [← h4]; exact hk))
    · rw [h4] at hk
      injection hk with hk
      exact .inr (by omega)
theorem wp_append_rowM {P : Program} {w : World} {o : Oper} {a : Act} {K : Act → World → Prop} {Q : Exit → Act → World → Prop} (s x : Operand) (t : TypeId)
    (ho : o.op = .call { callee := .builtin .append, args := #[s, x], argTypes := #[t, t] }) {α : Type} {f : α → List Value} {size bytes : Nat} {e : TypeId} {F : Nat → Prop} {A : Option Addr} {c : Nat} {L : List α} (i : TypeInfo) (z : Value)
    (ht : P.underlying t = some (.slice e)) (hi : P.info? e = some i) (hz : i.zero = some z) (hsize : i.size = size) (hby : i.bytes = bytes) (hzs : z.cells.size = size) (hsz : 0 < size)
    (h : RowIn f size e w F A c L) (n : Nat) (hn : L.length = n) (hs : a.eval s = .slice A n c) (y : α) (ad : Addr) (c' : Nat) (hx : a.eval x = .slice (some ad) 1 c') (hy : ∀ k, k < size → w.cell? (ad.add k) = (f y)[k]?) (h1 : ∀ u ∈ f y, u.oneCell' = true)
    (hb : (n + 1) * bytes ≤ 140737488355328) (hl : n + 1 ≤ 10000000)
    (hK : ∀ A2 c2 w', RowIn f size e w' (fun k => F k ∨ w.heap.size ≤ k) A2 c2 (L ++ [y]) → w.grownBy w' (blk A) → (blk A2 = blk A ∨ blk A2 = some w.heap.size) → K (a.put o.dst (.slice A2 (n + 1) c2)) w') : o.wp P a w K Q := by
  subst hn
  obtain ⟨A2, c2, w', hr, h2, h3, h4⟩ := run_append_row (P := P) t o.type i z ht hi hz hsize hby hzs hsz h y ad c' hy h1 hb hl
  unfold Oper.wp execOp
  simp only [ho, resolve, invoke, builtin, Sem.run_bind, Sem.run_pure, Result.andThen_ok, List.map_toArray, List.map_cons, List.map_nil, hs, hx, hr]
  exact hK A2 c2 w' h2 h3 h4
theorem wp_append_row {P : Program} {w : World} {o : Oper} {a : Act} {K : Act → World → Prop} {Q : Exit → Act → World → Prop} (s x : Operand) (t : TypeId)
    (ho : o.op = .call { callee := .builtin .append, args := #[s, x], argTypes := #[t, t] }) {α : Type} {f : α → List Value} {size bytes : Nat} {e : TypeId} {F : Nat → Prop} {A : Option Addr} {c : Nat} {L : List α} (i : TypeInfo) (z : Value)
    (ht : P.underlying t = some (.slice e)) (hi : P.info? e = some i) (hz : i.zero = some z) (hsize : i.size = size) (hby : i.bytes = bytes) (hzs : z.cells.size = size) (hsz : 0 < size)
    (h : RowIn f size e w F A c L) (n : Nat) (hn : L.length = n) (hs : a.eval s = .slice A n c) (y : α) (ad : Addr) (c' : Nat) (hx : a.eval x = .slice (some ad) 1 c') (hy : ∀ k, k < size → w.cell? (ad.add k) = (f y)[k]?) (h1 : ∀ u ∈ f y, u.oneCell' = true)
    (hb : (n + 1) * bytes ≤ 140737488355328) (hl : n + 1 ≤ 100000)
    (hK : ∀ A2 c2 w', RowIn f size e w' (fun k => F k ∨ w.heap.size ≤ k) A2 c2 (L ++ [y]) → w.grownBy w' (blk A) → (blk A2 = blk A ∨ blk A2 = some w.heap.size) → K (a.put o.dst (.slice A2 (n + 1) c2)) w') : o.wp P a w K Q :=
  wp_append_rowM s x t ho i z ht hi hz hsize hby hzs hsz h n hn hs y ad c' hx hy h1 hb (by omega) hK
theorem step_append_row {P : Program} {w : World} {ops : Array Oper} {o : Oper} {a : Act} {K : Act → World → Prop} {Q : Exit → Act → World → Prop} {E : Prop} (hgd : o.guard = none) (s x : Operand) (t : TypeId)
    (ho : o.op = .call { callee := .builtin .append, args := #[s, x], argTypes := #[t, t] }) {α : Type} {f : α → List Value} {size bytes : Nat} {e : TypeId} {F : Nat → Prop} {A : Option Addr} {c : Nat} {L : List α} (i : TypeInfo) (z : Value)
    (ht : P.underlying t = some (.slice e)) (hi : P.info? e = some i) (hz : i.zero = some z) (hsize : i.size = size) (hby : i.bytes = bytes) (hzs : z.cells.size = size) (hsz : 0 < size)
    (h : RowIn f size e w F A c L) (n : Nat) (hn : L.length = n) (hs : a.eval s = .slice A n c) (y : α) (ad : Addr) (c' : Nat) (hx : a.eval x = .slice (some ad) 1 c') (hy : ∀ k, k < size → w.cell? (ad.add k) = (f y)[k]?) (h1 : ∀ u ∈ f y, u.oneCell' = true)
    (hb : (n + 1) * bytes ≤ 140737488355328) (hl : n + 1 ≤ 100000)
    (hK : ∀ A2 c2 w', RowIn f size e w' (fun k => F k ∨ w.heap.size ≤ k) A2 c2 (L ++ [y]) → w.grownBy w' (blk A) → (blk A2 = blk A ∨ blk A2 = some w.heap.size) → K (a.put o.dst (.slice A2 (n + 1) c2)) w') :
    if Region.wanted o (yielded ops a.tmps) = true then Oper.wp P o a w K Q else E := by
  have hw : Region.wanted o (yielded ops a.tmps) = true := by simp [Region.wanted, hgd]
  rw [if_pos hw]
  exact wp_append_row s x t ho i z ht hi hz hsize hby hzs hsz h n hn hs y ad c' hx hy h1 hb hl hK
theorem wpList_append_row {P : Program} {w : World} {ops : Array Oper} {rest : List Oper} {o : Oper} {a : Act} {Q : Exit → Act → World → Prop} (hgd : o.guard = none) (s x : Operand) (t : TypeId)
    (ho : o.op = .call { callee := .builtin .append, args := #[s, x], argTypes := #[t, t] }) {α : Type} {f : α → List Value} {size bytes : Nat} {e : TypeId} {F : Nat → Prop} {A : Option Addr} {c : Nat} {L : List α} (i : TypeInfo) (z : Value)
    (ht : P.underlying t = some (.slice e)) (hi : P.info? e = some i) (hz : i.zero = some z) (hsize : i.size = size) (hby : i.bytes = bytes) (hzs : z.cells.size = size) (hsz : 0 < size)
    (h : RowIn f size e w F A c L) (n : Nat) (hn : L.length = n) (hs : a.eval s = .slice A n c) (y : α) (ad : Addr) (c' : Nat) (hx : a.eval x = .slice (some ad) 1 c') (hy : ∀ k, k < size → w.cell? (ad.add k) = (f y)[k]?) (h1 : ∀ u ∈ f y, u.oneCell' = true)
    (hb : (n + 1) * bytes ≤ 140737488355328) (hl : n + 1 ≤ 100000)
    (hK : ∀ A2 c2 w', RowIn f size e w' (fun k => F k ∨ w.heap.size ≤ k) A2 c2 (L ++ [y]) → w.grownBy w' (blk A) → (blk A2 = blk A ∨ blk A2 = some w.heap.size) → wpList P ops Q rest (a.put o.dst (.slice A2 (n + 1) c2)) w') : wpList P ops Q (o :: rest) a w :=
  wpList_plain hgd fun _ hKK => wp_append_row s x t ho i z ht hi hz hsize hby hzs hsz h n hn hs y ad c' hx hy h1 hb hl fun A2 c2 w' h1 h2 h3 => hKK _ _ (hK A2 c2 w' h1 h2 h3)
theorem turned_setCells (g : Nat) : ∀ (vs : List Value) (w : World) (o : Nat), Turned (fun k => k = g) w (w.setCells g o vs)
  | [], w, _ => Turned.refl _ w
  | v :: r, w, o => (Turned.one w g o v).trans (turned_setCells g r _ _)
end Go.Proofs.Ytkmbkihfdilmbaa
namespace Go.Proofs.Ytkmbkihfdilmbaa
open Go.RowKit
def EnAt (w : World) (B b o : Nat) (e : Rl.En) : Prop :=
  ∃ A c, w.cell? ⟨b, o, none⟩ = some (.int .i64 e.t) ∧ w.cell? ⟨b, o + 1, none⟩ = some (.int .i64 e.k) ∧ w.cell? ⟨b, o + 2, none⟩ = some (.slice A e.d.length c) ∧ IsBytes w B A e.d ∧ (e.d.length ≤ c ∧ c ≤ maxLen) ∧ (A = none → c = 0)
structure IsEnts (w : World) (B : Nat) (A : Option Addr) (L : List Rl.En) : Prop where
  num : ∀ e ∈ L, InInt e.t ∧ InInt e.k
  cells : ∀ k, k < L.length → ∃ b off, A = some ⟨b, off, none⟩ ∧ b < B ∧ ∀ i (h : i < L.length), EnAt w B b (off + i * 3) L[i]
theorem EnAt.below {w w' : World} {B b o : Nat} {e : Rl.En} (h : EnAt w B b o e) (hb : b < B) (hB : Below B w w') : EnAt w' B b o e := by
  obtain ⟨A, c, h0, h1, h2, h3, h4, h5⟩ := h
  exact ⟨A, c, (hB.cell hb).trans h0, (hB.cell hb).trans h1, (hB.cell hb).trans h2, h3.below hB, h4, h5⟩
namespace IsEnts
variable {w w' : World} {B B' : Nat} {A : Option Addr} {L : List Rl.En}
theorem nil : IsEnts w B A [] := ⟨by simp, fun k h => by simp at h⟩
theorem below (h : IsEnts w B A L) (hb : Below B w w') : IsEnts w' B A L := ⟨h.num, fun k hk => by
  obtain ⟨b, off, e, hlt, hc⟩ := h.cells k hk
  exact ⟨b, off, e, hlt, fun i hi => (hc i hi).below hlt hb⟩⟩
theorem more (h : IsEnts w B A L) (hB : B ≤ B') : IsEnts w B' A L := ⟨h.num, fun k hk => by
  obtain ⟨b, off, e, hlt, hc⟩ := h.cells k hk
  refine ⟨b, off, e, by omega, fun i hi => ?_⟩
  obtain ⟨A, c, h0, h1, h2, h3, h4⟩ := hc i hi
  exact ⟨A, c, h0, h1, h2, h3.more hB, h4⟩⟩
theorem drewN (h : IsEnts w B A L) (n : Nat) : IsEnts (w.drewN n) B A L := h.below (below_drewN (Below.refl _ _) n)
theorem drew (h : IsEnts w B A L) : IsEnts w.drew B A L := h.below (Below.refl _ _).drew
theorem take (h : IsEnts w B A L) (n : Nat) : IsEnts w B A (L.take n) := ⟨fun e he => h.num e (List.mem_of_mem_take he), fun k hk => by
  have hk' : k < L.length := by rw [List.length_take] at hk; omega
  obtain ⟨b, off, e, hlt, hc⟩ := h.cells k hk'
  refine ⟨b, off, e, hlt, fun i hi => ?_⟩
  have hi' : i < L.length := by rw [List.length_take] at hi; omega
  rw [List.getElem_take]
  exact hc i hi'⟩
theorem sl (h : IsEnts w B A L) {c i : Nat} (hc : L.length ≤ c) : IsEnts w B (if c = i then A else A.map (fun x => x.add (i * 3))) (L.drop i) := by
  by_cases hi : L.length ≤ i
  · rw [List.drop_of_length_le hi]; exact IsEnts.nil
  · rw [if_neg (by omega)]
    refine ⟨fun e he => h.num e (List.mem_of_mem_drop he), fun k hk => ?_⟩
    rw [List.length_drop] at hk
    obtain ⟨b, off, rfl, hlt, hcs⟩ := h.cells k (by omega)
    refine ⟨b, off + i * 3, by simp [add_off], hlt, fun j hj => ?_⟩
    rw [List.length_drop] at hj
    rw [List.getElem_drop, show off + i * 3 + j * 3 = off + (i + j) * 3 by omega]
    exact hcs (i + j) (by omega)
theorem few (h : IsEnts w B A L) (k : Nat) (hk : k < L.length) : L[k].d.length ≤ maxLen := by
  obtain ⟨b, off, _, _, hc⟩ := h.cells k hk
  obtain ⟨_, _, _, _, _, _, h4, _⟩ := hc k hk
  omega
end IsEnts
structure El where
  e : Rl.En
  A : Option Addr
  c : Nat
def cellsE (q : El) : List Value := [.int .i64 q.e.t, .int .i64 q.e.k, .slice q.A q.e.d.length q.c]
theorem cellsE_one (y : El) : ∀ u ∈ cellsE y, u.oneCell' = true := by
  intro u hu
  simp [cellsE] at hu
  rcases hu with rfl | rfl | rfl <;> rfl
theorem info_entry : (Try.prog.info? 64).map (fun i => (i.zero, i.size, i.bytes)) = some (some (.agg #[.int .i64 0, .int .i64 0, .slice none 0 0]), 3, 40) := by kernel_rfl
theorem OwnsB.turned {e : TypeId} {w w' : World} {S : Nat → Prop} {base c : Nat} {A : Option Addr} {l : List Nat} (h : OwnsB e w base A c l) (ht : Turned S w w') (hd : ∀ k, blk A = some k → ¬ S k) : OwnsB e w' base A c l :=
  ⟨h.small, ownsRow_turned h.row ht (fun k hk => hd k (by rw [← ownBlock_slice A l.length c]; exact hk))⟩
theorem OwnsB.ne {e : TypeId} {w : World} {base c g : Nat} {A : Option Addr} {l : List Nat} {cs : Array Value} {t : TypeId} (h : OwnsB e w base A c l) (hg : w.heap[g]? = some (.cells cs t (0, 0))) (hne : e ≠ t) : blk A ≠ some g := by
  intro hk
  rcases h.row.2 with ⟨h0, _⟩ | ⟨g', cap, cur, hv, _, hh, _⟩
  · injection h0 with h0; rw [h0] at hk; cases hk
  · have hA : A = some ⟨g', 0, none⟩ := by injection hv
    rw [hA] at hk
    obtain rfl : g' = g := by injection hk
    rw [hh] at hg
    exact hne (Obj.cells.inj (Option.some.inj hg)).2.1
theorem OwnsB.room {e : TypeId} {w : World} {base c : Nat} {A : Option Addr} {l : List Nat} (h : OwnsB e w base A c l) : l.length ≤ c ∧ c ≤ maxLen := by
  refine ⟨h.cap, ?_⟩
  rcases h.row.2 with ⟨h1, _⟩ | ⟨g, cap, cur, h1, _, _, _, h2, _⟩
  · injection h1 with h1 h2 h3; omega
  · injection h1 with h3 h4 h5; omega
def Apart (l : List (Option Nat)) : Prop := l.Pairwise fun x y => ∀ k, x = some k → y ≠ some k
def Bl (B N : Nat) : Nat → Prop := fun k => B ≤ k ∧ k < N
structure EntsAt (w : World) (B N : Nat) (A : Option Addr) (c : Nat) (M : List El) : Prop where
  row : RowIn cellsE 3 64 w (Bl B N) A c M
  own : ∀ q ∈ M, OwnsB 5 w 0 q.A q.c q.e.d ∧ ∀ k, blk q.A = some k → Bl B N k
  apart : Apart (M.map fun q => blk q.A)
  num : ∀ q ∈ M, InInt q.e.t ∧ InInt q.e.k
namespace EntsAt
variable {w w' : World} {B B' N N' : Nat} {A : Option Addr} {c : Nat} {M : List El}
theorem keep {S : Nat → Prop} (h : EntsAt w B N A c M) (ht : Turned S w w') (hs : ∀ k, S k → ¬ Bl B N k) : EntsAt w' B N A c M :=
  ⟨h.row.keep ht (fun k hk hS => hs k hS (h.row.blk k hk)), fun q hq => ⟨(h.own q hq).1.turned ht (fun k hk hS => hs k hS ((h.own q hq).2 k hk)), (h.own q hq).2⟩, h.apart, h.num⟩
theorem below (h : EntsAt w B N A c M) (hb : Below N w w') : EntsAt w' B N A c M :=
  h.keep (S := fun k => N ≤ k) ⟨hb.os, hb.tape, hb.output, hb.size, fun k _ hn => hb.block k (by omega)⟩ (fun k hk hB => by have := hB.2; omega)
theorem wide (h : EntsAt w B N A c M) (hB : B' ≤ B) (hN : N ≤ N') : EntsAt w B' N' A c M :=
  ⟨h.row.mono (fun k hk => ⟨by have := (h.row.blk k hk).1; omega, by have := (h.row.blk k hk).2; omega⟩), fun q hq => ⟨(h.own q hq).1, fun k hk => ⟨by have := ((h.own q hq).2 k hk).1; omega, by have := ((h.own q hq).2 k hk).2; omega⟩⟩, h.apart, h.num⟩
theorem reads (h : EntsAt w B N A c M) : IsEnts w N A (M.map (·.e)) := ⟨fun e he => by
  obtain ⟨q, hq, rfl⟩ := List.mem_map.1 he
  exact h.num q hq, fun k hk => by
  rw [List.length_map] at hk
  obtain ⟨g, hA, hg, hF, _, _⟩ := h.row.get k hk
  refine ⟨g, 0, hA, hF.2, fun i hi => ?_⟩
  rw [List.length_map] at hi
  obtain ⟨g', hA', _, _, hc, _⟩ := h.row.get i hi
  obtain rfl : g = g' := by rw [hA] at hA'; injection hA' with e; injection e
  have ho := h.own M[i] (List.getElem_mem hi)
  rw [List.getElem_map, Nat.zero_add]
  have hr : IsBytes w N M[i].A M[i].e.d := by
    refine ⟨ho.1.small, fun k hk => ?_⟩
    obtain ⟨b, off, e, _, hc⟩ := ho.1.reads.cells k hk
    exact ⟨b, off, e, (ho.2 b (by rw [e]; rfl)).2, hc⟩
  exact ⟨M[i].A, M[i].c, hc 0 (by omega), hc 1 (by omega), hc 2 (by omega), hr, ho.1.room, ho.1.none_⟩⟩
theorem nil (w : World) (B N : Nat) : EntsAt w B N none 0 [] := ⟨RowIn.nil (f := cellsE) (fun _ => rfl) _ _ _, by simp, List.Pairwise.nil, by simp⟩
end EntsAt
def OwnE (w : World) (B N : Nat) (A : Option Addr) (c : Nat) (L : List Rl.En) : Prop := ∃ M : List El, M.map (·.e) = L ∧ EntsAt w B N A c M
namespace OwnE
variable {w w' : World} {B B' N N' : Nat} {A : Option Addr} {c : Nat} {L : List Rl.En}
theorem nil (w : World) (B N : Nat) : OwnE w B N none 0 [] := ⟨[], rfl, EntsAt.nil w B N⟩
theorem keep {S : Nat → Prop} (h : OwnE w B N A c L) (ht : Turned S w w') (hs : ∀ k, S k → ¬ Bl B N k) : OwnE w' B N A c L := by
  obtain ⟨M, h1, h2⟩ := h; exact ⟨M, h1, h2.keep ht hs⟩
theorem below (h : OwnE w B N A c L) (hb : Below N w w') : OwnE w' B N A c L := by
  obtain ⟨M, h1, h2⟩ := h; exact ⟨M, h1, h2.below hb⟩
theorem wide (h : OwnE w B N A c L) (hB : B' ≤ B) (hN : N ≤ N') : OwnE w B' N' A c L := by
  obtain ⟨M, h1, h2⟩ := h; exact ⟨M, h1, h2.wide hB hN⟩
theorem reads (h : OwnE w B N A c L) : IsEnts w N A L := by
  obtain ⟨M, h1, h2⟩ := h; rw [← h1]; exact h2.reads
theorem room (h : OwnE w B N A c L) : L.length ≤ c ∧ c ≤ maxLen := by
  obtain ⟨M, h1, h2⟩ := h; rw [← h1, List.length_map]; exact ⟨h2.row.cap, h2.row.capLe⟩
theorem none_ (h : OwnE w B N A c L) : A = none → c = 0 := by
  obtain ⟨M, h1, h2⟩ := h; exact h2.row.none_
end OwnE
theorem ent_put {w w' : World} {B N c c2 c' : Nat} {A A2 A' : Option Addr} {L : List Rl.En} {M : List El} (hM : M.map (·.e) = L) (h : EntsAt w B N A c M) (hBN : B ≤ N) (hN : N ≤ w.heap.size) (x : Rl.En) (hb : OwnsB 5 w N A' c' x.d) (hx : InInt x.t ∧ InInt x.k)
    (hrow : RowIn cellsE 3 64 w' (fun k => Bl B N k ∨ w.heap.size ≤ k) A2 c2 (M ++ [⟨x, A', c'⟩])) (hg : w.grownBy w' (blk A)) :
    OwnE w' B w'.heap.size A2 c2 (L ++ [x]) ∧ Below B w w' := by
  have hT : Turned (fun k => blk A = some k) w w' := Turned.ofGrown hg (fun k hk => hk)
  have hown : ∀ q : El, OwnsB 5 w 0 q.A q.c q.e.d → OwnsB 5 w' 0 q.A q.c q.e.d := fun q hq => hq.turned hT (fun k hk e => by
    obtain ⟨cur, hc⟩ := h.row.tag e
    exact hq.ne hc (by decide) hk)
  refine ⟨⟨M ++ [⟨x, A', c'⟩], by rw [List.map_append, hM]; rfl, ?_, ?_, ?_, ?_⟩, below_grown hg (by omega) (fun k hk => (h.row.blk k hk).1)⟩
  · refine hrow.mono (fun k hk => ⟨?_, hrow.lt k hk⟩)
    rcases hrow.blk k hk with e | e
    · exact e.1
    · omega
  · intro q hq
    rcases List.mem_append.1 hq with hq | hq
    · refine ⟨hown q (h.own q hq).1, fun k hk => ⟨((h.own q hq).2 k hk).1, ?_⟩⟩
      have := ((h.own q hq).2 k hk).2
      have := hT.size
      omega
    · obtain rfl := List.mem_singleton.1 hq
      have h0 : OwnsB 5 w 0 A' c' x.d := hb.weaken (Nat.zero_le _)
      refine ⟨hown _ h0, fun k hk => ?_⟩
      have := hb.blkLt k hk
      have := hT.size
      exact ⟨by omega, by omega⟩
  · unfold Apart
    rw [List.map_append, List.pairwise_append]
    refine ⟨h.apart, List.pairwise_singleton _ _, fun a ha b hb' k hk e => ?_⟩
    obtain ⟨q, hq, rfl⟩ := List.mem_map.1 ha
    obtain ⟨q', hq', rfl⟩ := List.mem_map.1 hb'
    obtain rfl := List.mem_singleton.1 hq'
    have h1 := ((h.own q hq).2 k hk).2
    have h2 := (hb.blkLt k e).1
    omega
  · intro q hq
    rcases List.mem_append.1 hq with hq | hq
    · exact h.num q hq
    · obtain rfl := List.mem_singleton.1 hq; exact hx
theorem wpList_append_ent {w : World} {ops : Array Oper} {rest : List Oper} {o : Oper} {a : Act} {Q : Exit → Act → World → Prop} (hgd : o.guard = none) (s y : Operand)
    (ho : o.op = .call { callee := .builtin .append, args := #[s, y], argTypes := #[23, 23] }) {B N c : Nat} {A : Option Addr} {L : List Rl.En} (h : OwnE w B N A c L) (hBN : B ≤ N) (hN : N ≤ w.heap.size)
    (n : Nat) (hn : L.length = n) (hs : a.eval s = .slice A n c) (x : Rl.En) (hx : InInt x.t ∧ InInt x.k) (A' : Option Addr) (c' : Nat) (hb : OwnsB 5 w N A' c' x.d) (ad : Addr) (ce : Nat) (hy : a.eval y = .slice (some ad) 1 ce) (hc : ∀ k, k < 3 → w.cell? (ad.add k) = (cellsE ⟨x, A', c'⟩)[k]?)
    (hl : n + 1 ≤ 100000)
    (hK : ∀ A2 c2 w', OwnE w' B w'.heap.size A2 c2 (L ++ [x]) → Below B w w' → wpList Try.prog ops Q rest (a.put o.dst (.slice A2 (n + 1) c2)) w') : wpList Try.prog ops Q (o :: rest) a w := by
  obtain ⟨i0, hi, hz0, hz1, hz2⟩ := info_parts info_entry
  obtain ⟨M, hM, hE⟩ := h
  exact wpList_append_row hgd s y 23 ho i0 _ Try.underlying23 hi hz0 hz1 hz2 rfl (by decide) hE.row n (by rw [← hn, ← hM, List.length_map]) hs ⟨x, A', c'⟩ ad ce hy hc (cellsE_one _) (by omega) hl
    fun A2 c2 w' h1 h2 _ => by
      obtain ⟨h4, h5⟩ := ent_put hM hE hBN hN x hb hx h1 h2
      exact hK A2 c2 w' h4 h5
theorem step_append_ent {w : World} {ops : Array Oper} {o : Oper} {a : Act} {K : Act → World → Prop} {Q : Exit → Act → World → Prop} {E : Prop} (hgd : o.guard = none) (s y : Operand)
    (ho : o.op = .call { callee := .builtin .append, args := #[s, y], argTypes := #[23, 23] }) {B N c : Nat} {A : Option Addr} {L : List Rl.En} (h : OwnE w B N A c L) (hBN : B ≤ N) (hN : N ≤ w.heap.size)
    (n : Nat) (hn : L.length = n) (hs : a.eval s = .slice A n c) (x : Rl.En) (hx : InInt x.t ∧ InInt x.k) (A' : Option Addr) (c' : Nat) (hb : OwnsB 5 w N A' c' x.d) (ad : Addr) (ce : Nat) (hy : a.eval y = .slice (some ad) 1 ce) (hc : ∀ k, k < 3 → w.cell? (ad.add k) = (cellsE ⟨x, A', c'⟩)[k]?)
    (hl : n + 1 ≤ 100000)
    (hK : ∀ A2 c2 w', OwnE w' B w'.heap.size A2 c2 (L ++ [x]) → Below B w w' → K (a.put o.dst (.slice A2 (n + 1) c2)) w') :
    if Region.wanted o (yielded ops a.tmps) = true then Oper.wp Try.prog o a w K Q else E := by
  obtain ⟨i0, hi, hz0, hz1, hz2⟩ := info_parts info_entry
  obtain ⟨M, hM, hE⟩ := h
  exact step_append_row hgd s y 23 ho i0 _ Try.underlying23 hi hz0 hz1 hz2 rfl (by decide) hE.row n (by rw [← hn, ← hM, List.length_map]) hs ⟨x, A', c'⟩ ad ce hy hc (cellsE_one _) (by omega) hl
    fun A2 c2 w' h1 h2 _ => by
      obtain ⟨h4, h5⟩ := ent_put hM hE hBN hN x hb hx h1 h2
      exact hK A2 c2 w' h4 h5
theorem cellsE_new (w : World) (N : Nat) (h : w.heap.size = N) (q : El) (t : TypeId) (k : Nat) : (w.alloc (.cells #[.int .i64 q.e.t, .int .i64 q.e.k, .slice q.A q.e.d.length q.c] t)).cell? ((⟨N, 0, none⟩ : Addr).add k) = (cellsE q)[k]? := by
  subst h
  rw [add_off, Nat.zero_add, cell_of_row _ w.heap.size k #[.int .i64 q.e.t, .int .i64 q.e.k, .slice q.A q.e.d.length q.c] t (0, 0) (heap_alloc_new w _)]
  exact List.getElem?_toArray (xs := cellsE q) ..
end Go.Proofs.Ytkmbkihfdilmbaa
namespace Go.Proofs.Ytkmbkihfdilmbaa
open Go.RowKit
theorem ret_b {a b : Bool} (h : a = b) : Ending.returned (.bool a) = .returned (.bool b) := by rw [h]
structure LgIs (w : World) (B : Nat) (g : Rl.Lg) (A : Option Addr) (c : Nat) : Prop where
  es : IsEnts w B A g.es
  room : g.es.length ≤ c ∧ c ≤ maxLen
  none_ : A = none → c = 0
  num : InInt g.base ∧ InInt g.term
namespace LgIs
variable {w w' : World} {B B' : Nat} {g : Rl.Lg} {A : Option Addr} {c : Nat}
theorem below (h : LgIs w B g A c) (hb : Below B w w') : LgIs w' B g A c := ⟨h.es.below hb, h.room, h.none_, h.num⟩
theorem more (h : LgIs w B g A c) (hB : B ≤ B') : LgIs w B' g A c := ⟨h.es.more hB, h.room, h.none_, h.num⟩
theorem drewN (h : LgIs w B g A c) (n : Nat) : LgIs (w.drewN n) B g A c := ⟨h.es.drewN n, h.room, h.none_, h.num⟩
end LgIs
set_option maxHeartbeats 800000 in
set_option maxRecDepth 100000 in
theorem last_any (B : Nat) (g : Rl.Lg) (A : Option Addr) (c : Nat) (hg : Rl.Ok g) (w : World) (h : LgIs w B g A c) (hB : B ≤ w.heap.size) :
    Calls Try.prog 62 #[.agg #[.int .i64 g.base, .int .i64 g.term, .slice A g.es.length c]] w fun e w' => e = .returned (.tuple #[.int .i64 g.last, .int .i64 g.lastT]) ∧ Below w.heap.size w w' := by
  obtain ⟨⟨hb0, hb1⟩, _, hl⟩ := hg
  have HB : Hid (∀ n, Below w.heap.size w ((w.alloc (.cells #[.int .i64 g.base, .int .i64 g.term, .slice A g.es.length c] 25)).drewN n)) := hid (fun n => below_drewN ((Below.refl _ w).alloc (Nat.le_refl _) _) n)
  by_cases h0 : g.es.length = 0
  · have HE : Hid (g.last = g.base ∧ g.lastT = g.term) := hid (by unfold Rl.Lg.last Rl.Lg.lastT; rw [h0]; exact ⟨by omega, rfl⟩)
    have h00 : (g.es.length : Int) = 0 := by omega
    clear h
    go_enter Try.func62, Try.ntmps62
    go_wp2_with fail
    go_quiet (fail)
    go_wp2_with fail
    go_ret2
    exact ⟨by rw [HE.out.1, HE.out.2]; rfl, below_drewN ((Below.refl _ w).alloc (Nat.le_refl _) _) _⟩
  · have hlt : g.es.length - 1 < g.es.length := by omega
    obtain ⟨b, off, rfl, hbl, hc⟩ := h.es.cells (g.es.length - 1) hlt
    obtain ⟨A1, c1, d0, d1, d2, _, _⟩ := hc (g.es.length - 1) hlt
    have HE : Hid (g.last = g.base + (g.es.length : Nat) ∧ g.lastT = g.es[g.es.length - 1].t) := hid ⟨rfl, by
      unfold Rl.Lg.lastT
      have := g.at_succ (g.es.length - 1) hlt
      rw [show g.es.length - 1 + 1 = g.es.length by omega] at this
      exact this⟩
    have e0 : (w.alloc (.cells #[.int .i64 g.base, .int .i64 g.term, .slice (some ⟨b, off, none⟩) g.es.length c] 25)).cell? ⟨b, off + (g.es.length - 1) * 3, none⟩ = some (.int .i64 g.es[g.es.length - 1].t) := by rw [((Below.refl _ w).alloc (Nat.le_refl _) _).cell (by show b < _; omega)]; exact d0
    obtain ⟨x, hx⟩ : ∃ x, x = g.es[g.es.length - 1].t := ⟨_, rfl⟩
    rw [← hx] at e0 HE
    obtain ⟨k, hk⟩ : ∃ k, k = g.es.length - 1 := ⟨_, rfl⟩
    rw [← hk] at e0
    have hk1 : ((g.es.length : Nat) : Int) - 1 = (k : Int) := by omega
    have hk2 : (k : Int) < (g.es.length : Int) := by omega
    have h00 : ¬ (g.es.length : Int) = 0 := by omega
    clear h hc d0 d1 d2 hx hk
    go_enter Try.func62, Try.ntmps62
    go_wp2_with fail
    go_quiet (fail)
    go_wp2_with fail
    go_ret2
    exact ⟨by rw [HE.out.1, HE.out.2]; rfl, HB.out _⟩
end Go.Proofs.Ytkmbkihfdilmbaa
namespace Go.Proofs.Ytkmbkihfdilmbaa
open Go.RowKit
set_option maxHeartbeats 800000 in
set_option maxRecDepth 100000 in
theorem refLast_any (B : Nat) (g : Rl.Lg) (A : Option Addr) (c : Nat) (hg : Rl.Ok g) (w : World) (h : LgIs w B g A c) (hB : B ≤ w.heap.size) :
    Calls Try.prog 73 #[.agg #[.int .i64 g.base, .int .i64 g.term, .slice A g.es.length c]] w fun e w' => e = .returned (.tuple #[.int .i64 g.last, .int .i64 g.lastT]) ∧ Below w.heap.size w w' := by
  obtain ⟨⟨hb0, hb1⟩, _, hl⟩ := hg
  have HB : Hid (∀ n, Below w.heap.size w ((w.alloc (.cells #[.int .i64 g.base, .int .i64 g.term, .slice A g.es.length c] 25)).drewN n)) := hid (fun n => below_drewN ((Below.refl _ w).alloc (Nat.le_refl _) _) n)
  by_cases h0 : g.es.length = 0
  · have HE : Hid (g.last = g.base ∧ g.lastT = g.term) := hid (by unfold Rl.Lg.last Rl.Lg.lastT; rw [h0]; exact ⟨by omega, rfl⟩)
    have h00 : (g.es.length : Int) = 0 := by omega
    clear h
    go_enter Try.func73, Try.ntmps73
    go_wp2_with fail
    go_quiet (fail)
    go_wp2_with fail
    go_ret2
    exact ⟨by rw [HE.out.1, HE.out.2]; rfl, below_drewN ((Below.refl _ w).alloc (Nat.le_refl _) _) _⟩
  · have hlt : g.es.length - 1 < g.es.length := by omega
    obtain ⟨b, off, rfl, hbl, hc⟩ := h.es.cells (g.es.length - 1) hlt
    obtain ⟨A1, c1, d0, d1, d2, _, _⟩ := hc (g.es.length - 1) hlt
    have HE : Hid (g.last = g.base + (g.es.length : Nat) ∧ g.lastT = g.es[g.es.length - 1].t) := hid ⟨rfl, by
      unfold Rl.Lg.lastT
      have := g.at_succ (g.es.length - 1) hlt
      rw [show g.es.length - 1 + 1 = g.es.length by omega] at this
      exact this⟩
    have e0 : (w.alloc (.cells #[.int .i64 g.base, .int .i64 g.term, .slice (some ⟨b, off, none⟩) g.es.length c] 25)).cell? ⟨b, off + (g.es.length - 1) * 3, none⟩ = some (.int .i64 g.es[g.es.length - 1].t) := by rw [((Below.refl _ w).alloc (Nat.le_refl _) _).cell (by show b < _; omega)]; exact d0
    obtain ⟨x, hx⟩ : ∃ x, x = g.es[g.es.length - 1].t := ⟨_, rfl⟩
    rw [← hx] at e0 HE
    obtain ⟨k, hk⟩ : ∃ k, k = g.es.length - 1 := ⟨_, rfl⟩
    rw [← hk] at e0
    have hk1 : ((g.es.length : Nat) : Int) - 1 = (k : Int) := by omega
    have hk2 : (k : Int) < (g.es.length : Int) := by omega
    have h00 : ¬ (g.es.length : Int) = 0 := by omega
    clear h hc d0 d1 d2 hx hk
    go_enter Try.func73, Try.ntmps73
    go_wp2_with fail
    go_quiet (fail)
    go_wp2_with fail
    go_ret2
    exact ⟨by rw [HE.out.1, HE.out.2]; rfl, HB.out _⟩
end Go.Proofs.Ytkmbkihfdilmbaa
namespace Go.Proofs.Ytkmbkihfdilmbaa
open Go.RowKit
set_option maxHeartbeats 800000 in
set_option maxRecDepth 100000 in
theorem has_any (B : Nat) (g : Rl.Lg) (A : Option Addr) (c : Nat) (i : Int) (hg : Rl.Ok g) (w : World) (h : LgIs w B g A c) (hB : B ≤ w.heap.size) :
    Calls Try.prog 68 #[.agg #[.int .i64 g.base, .int .i64 g.term, .slice A g.es.length c], .int .i64 i] w fun e w' => e = .returned (.bool (g.has i)) ∧ Below w.heap.size w w' := by
  have hb1 : Below w.heap.size w (w.alloc (.cells #[.int .i64 g.base, .int .i64 g.term, .slice A g.es.length c] 25)) := (Below.refl _ w).alloc (Nat.le_refl _) _
  have HC := hid (last_any w.heap.size g A c hg _ ((h.more hB).below hb1) hb1.size)
  have HB := hid hb1
  clear h hb1
  obtain ⟨la, hla⟩ : ∃ la, la = g.last := ⟨_, rfl⟩
  obtain ⟨lt, hlt⟩ : ∃ lt, lt = g.lastT := ⟨_, rfl⟩
  have HE : Hid (g.has i = (decide (g.base ≤ i) && decide (i ≤ la))) := hid (by unfold Rl.Lg.has; rw [hla])
  rw [← hla, ← hlt] at HC
  rw [HE.out]
  clear hla hlt HE
  by_cases h1 : g.base ≤ i
  · by_cases h2 : i ≤ la
    · go_enter Try.func68, Try.ntmps68
      go_wp2_with fail
      refine HC.out.mono ?_
      rintro e w2 ⟨rfl, hb2⟩
      have HB2 := hid (HB.out.trans (hb2.mono HB.out.size))
      have q0 : w2.cell? ⟨w.heap.size, 0, none⟩ = some (.int .i64 g.base) := by rw [hb2.cell (by simp)]; simp
      clear hb2
      go_wp2_with fail
      go_ret
      exact ⟨ret_b (by simp [*]), HB2.out⟩
    · go_enter Try.func68, Try.ntmps68
      go_wp2_with fail
      refine HC.out.mono ?_
      rintro e w2 ⟨rfl, hb2⟩
      have HB2 := hid (HB.out.trans (hb2.mono HB.out.size))
      have q0 : w2.cell? ⟨w.heap.size, 0, none⟩ = some (.int .i64 g.base) := by rw [hb2.cell (by simp)]; simp
      clear hb2
      go_wp2_with fail
      go_ret
      exact ⟨ret_b (by simp [*]), HB2.out⟩
  · go_enter Try.func68, Try.ntmps68
    go_wp2_with fail
    refine HC.out.mono ?_
    rintro e w2 ⟨rfl, hb2⟩
    have HB2 := hid (HB.out.trans (hb2.mono HB.out.size))
    have q0 : w2.cell? ⟨w.heap.size, 0, none⟩ = some (.int .i64 g.base) := by rw [hb2.cell (by simp)]; simp
    clear hb2
    go_wp2_with fail
    go_ret
    exact ⟨ret_b (by simp; omega), HB2.out⟩
theorem LgIs.term_cell {w : World} {B : Nat} {g : Rl.Lg} {A : Option Addr} {c : Nat} (h : LgIs w B g A c) (p : Nat) (hp : p < g.es.length) : ∃ b off, A = some ⟨b, off, none⟩ ∧ b < B ∧ w.cell? ⟨b, off + p * 3, none⟩ = some (.int .i64 (g.at_ (p + 1))) := by
  obtain ⟨b, off, rfl, hb, hc⟩ := h.es.cells p hp
  obtain ⟨_, _, d0, _⟩ := hc p hp
  exact ⟨b, off, rfl, hb, by rw [g.at_succ p hp]; exact d0⟩
set_option maxHeartbeats 800000 in
set_option maxRecDepth 100000 in
theorem term_no (B : Nat) (g : Rl.Lg) (A : Option Addr) (c : Nat) (i : Int) (hg : Rl.Ok g) (hn : g.has i = false) (w : World) (h : LgIs w B g A c) (hB : B ≤ w.heap.size) :
    Calls Try.prog 50 #[.agg #[.int .i64 g.base, .int .i64 g.term, .slice A g.es.length c], .int .i64 i] w fun e w' => e = .returned (.tuple #[.int .i64 0, .bool false]) ∧ Below w.heap.size w w' := by
  have hb1 : Below w.heap.size w (w.alloc (.cells #[.int .i64 g.base, .int .i64 g.term, .slice A g.es.length c] 25)) := (Below.refl _ w).alloc (Nat.le_refl _) _
  have HC := hid (has_any w.heap.size g A c i hg _ ((h.more hB).below hb1) hb1.size)
  have HB := hid hb1
  rw [hn] at HC
  clear h hb1 hn
  go_enter Try.func50, Try.ntmps50
  go_wp2_with fail
  refine HC.out.mono ?_
  rintro e w2 ⟨rfl, hb2⟩
  have HB2 := hid (HB.out.trans (hb2.mono HB.out.size))
  clear hb2
  go_wp2_with fail
  go_ret2
  exact ⟨rfl, HB2.out⟩
set_option maxHeartbeats 800000 in
set_option maxRecDepth 100000 in
theorem term_yes (B : Nat) (g : Rl.Lg) (A : Option Addr) (c : Nat) (i : Int) (p : Nat) (hi : i = g.base + (p : Int)) (hp : p ≤ g.es.length) (hg : Rl.Ok g) (w : World) (h : LgIs w B g A c) (hB : B ≤ w.heap.size) :
    Calls Try.prog 50 #[.agg #[.int .i64 g.base, .int .i64 g.term, .slice A g.es.length c], .int .i64 i] w fun e w' => e = .returned (.tuple #[.int .i64 (g.at_ p), .bool true]) ∧ Below w.heap.size w w' := by
  have hb1 : Below w.heap.size w (w.alloc (.cells #[.int .i64 g.base, .int .i64 g.term, .slice A g.es.length c] 25)) := (Below.refl _ w).alloc (Nat.le_refl _) _
  have hh : g.has i = true := by rw [hi]; exact Rl.Lg.has_of hp
  have HC := hid (has_any w.heap.size g A c i hg _ ((h.more hB).below hb1) hb1.size)
  have HB := hid hb1
  rw [hh] at HC
  obtain ⟨⟨g0, g1⟩, _, gl⟩ := hg
  rcases p with _ | p
  · obtain rfl : i = g.base := by omega
    clear h hb1 hh hi
    go_enter Try.func50, Try.ntmps50
    go_wp2_with fail
    refine HC.out.mono ?_
    rintro e w2 ⟨rfl, hb2⟩
    have HB2 := hid (HB.out.trans (hb2.mono HB.out.size))
    have q0 : w2.cell? ⟨w.heap.size, 0, none⟩ = some (.int .i64 g.base) := by rw [hb2.cell (by simp)]; simp
    have q1 : w2.cell? ⟨w.heap.size, 1, none⟩ = some (.int .i64 g.term) := by rw [hb2.cell (by simp)]; simp
    clear hb2
    go_wp2_with fail
    go_ret2
    exact ⟨rfl, HB2.out⟩
  · obtain ⟨b, off, rfl, hbB, hc⟩ := h.term_cell p (by omega)
    have hcW : Hid (∀ w', Below w.heap.size w w' → w'.cell? ⟨b, off + p * 3, none⟩ = some (.int .i64 (g.at_ (p + 1)))) := hid (fun w' hb => (hb.cell (by show b < _; omega)).trans hc)
    have hne : ¬ i = g.base := by omega
    have hsub : i - g.base = (p : Int) + 1 := by omega
    have hb2' : i ≤ 1099511727776 := by omega
    have hp0 : (p : Int) < (g.es.length : Int) := by omega
    obtain ⟨x, hx⟩ : ∃ x, x = g.at_ (p + 1) := ⟨_, rfl⟩
    rw [← hx] at hcW ⊢
    clear h hb1 hh hi hc hx
    go_enter Try.func50, Try.ntmps50
    go_wp2_with fail
    refine HC.out.mono ?_
    rintro e w2 ⟨rfl, hb2⟩
    have HB2 := hid (HB.out.trans (hb2.mono HB.out.size))
    have q0 : w2.cell? ⟨w.heap.size, 0, none⟩ = some (.int .i64 g.base) := by rw [hb2.cell (by simp)]; simp
    have q2 : w2.cell? ⟨w.heap.size, 2, none⟩ = some (.slice (some ⟨b, off, none⟩) g.es.length c) := by rw [hb2.cell (by simp)]; simp
    have q3 := hcW.out w2 HB2.out
    clear hb2
    go_wp2_with fail
    go_ret2
    exact ⟨rfl, HB2.out⟩
theorem term_any (B : Nat) (g : Rl.Lg) (A : Option Addr) (c : Nat) (i : Int) (hg : Rl.Ok g) (w : World) (h : LgIs w B g A c) (hB : B ≤ w.heap.size) :
    Calls Try.prog 50 #[.agg #[.int .i64 g.base, .int .i64 g.term, .slice A g.es.length c], .int .i64 i] w fun e w' => e = .returned (.tuple #[.int .i64 (g.termV i), .bool (g.has i)]) ∧ Below w.heap.size w w' := by
  unfold Rl.Lg.termV
  rcases hh : g.has i with _ | _
  · exact term_no B g A c i hg hh w h hB
  · obtain ⟨p, h1, h2, h3⟩ := Rl.Lg.has_at hh
    rw [h3]
    exact term_yes B g A c i p h1 h2 hg w h hB
end Go.Proofs.Ytkmbkihfdilmbaa
namespace Go.Proofs.Ytkmbkihfdilmbaa
open Go.RowKit
theorem take_succ_eq (l m : List Nat) (k : Nat) (h1 : k < l.length) (h2 : k < m.length) (h : l.take k = m.take k) (he : l[k] = m[k]) : l.take (k + 1) = m.take (k + 1) := by
  rw [List.take_succ_eq_append_getElem h1, List.take_succ_eq_append_getElem h2, h, he]
set_option maxHeartbeats 400000 in
theorem same_any (B B' : Nat) (A A' : Option Addr) (c c' : Nat) (l m : List Nat) (hl : l.length ≤ maxLen) (hm : m.length ≤ maxLen) (w : World) (h : IsBytes w B A l) (h' : IsBytes w B' A' m) :
    Calls Try.prog 53 #[.slice A l.length c, .slice A' m.length c'] w fun e w' => e = .returned (.bool (decide (l = m))) ∧ ∃ n, w' = w.drewN n := by
  unfold maxLen at hl hm
  by_cases hne : l.length = m.length
  · have hb : ((l.length : Int) != (m.length : Int)) = false := by rw [bne_eq_false_iff_eq]; omega
    have HN := hid hne
    clear hne
    go_enter Try.func53, Try.ntmps53
    go_wp2
    go_loopw [5] (fun i wr => ∃ k n : Nat, k ≤ l.length ∧ i = .int .i64 k ∧ wr = w.drewN n ∧ Hid (l.take k = m.take k)) (fun i _ => l.length - (RowKit.intOf i).toNat)
    case atStart => exact ⟨0, 0, by omega, rfl, rfl, hid rfl⟩
    case round =>
      obtain ⟨k, n, hk, rfl, rfl, hs⟩ := hrel
      by_cases hlt : k < l.length
      · have hlt' : k < m.length := by have := HN.out; omega
        obtain ⟨b, off, rfl, _, hc⟩ := h.cells k hlt
        obtain ⟨b', off', rfl, _, hc'⟩ := h'.cells k hlt'
        have hck := hc k hlt
        have hck' := hc' k hlt'
        clear hc hc'
        by_cases he : l[k] = m[k]
        · have hbe : (((l[k] : Nat) : Int) != ((m[k] : Nat) : Int)) = false := by rw [bne_eq_false_iff_eq]; omega
          have HE := hid he
          clear he
          go_wp2
          go_quiet (fail)
          go_wp2
          go_roundw
          case rel => exact ⟨k + 1, _, by omega, by go_num, rfl, hid (take_succ_eq l m k hlt hlt' hs.out HE.out)⟩
          case measure => simp [RowKit.intOf]; omega
        · have hbe : (((l[k] : Nat) : Int) != ((m[k] : Nat) : Int)) = true := by rw [bne_iff_ne]; omega
          have hfin : decide (l = m) = false := by
            rw [decide_eq_false_iff_not]; rintro rfl; exact he rfl
          have HF := hid hfin
          clear he hfin
          go_wp2
          go_quiet (fail)
          go_wp2
          go_ret
          exact ⟨by rw [HF.out]; rfl, _, by rw [World.drewN_drewN]⟩
      · obtain rfl : k = l.length := by omega
        have hfin : decide (l = m) = true := by
          rw [decide_eq_true_iff]
          have e := hs.out
          rw [List.take_length, HN.out, List.take_length] at e
          exact e
        have HF := hid hfin
        clear hfin
        go_wp2
        go_ret
        exact ⟨by rw [HF.out]; rfl, _, rfl⟩
  · have hb : ((l.length : Int) != (m.length : Int)) = true := by rw [bne_iff_ne]; omega
    have hfin : decide (l = m) = false := by
      rw [decide_eq_false_iff_not]; rintro rfl; exact hne rfl
    have HF := hid hfin
    clear hfin hne
    go_enter Try.func53, Try.ntmps53
    go_wp2
    go_ret
    exact ⟨by rw [HF.out]; rfl, 0, rfl⟩
theorem info_u8 : (Try.prog.info? 5).map (fun i => (i.zero, i.size, i.bytes)) = some (some (.int .u8 0), 1, 1) := by kernel_rfl
theorem bytes_snoc (l : List Nat) (k : Nat) (h : k < l.length) : bytes (l.take k) ++ [Value.int .u8 (l[k] : Nat)] = bytes (l.take (k + 1)) := by
  unfold bytes; rw [List.take_succ_eq_append_getElem h, List.map_append]; rfl
theorem same_N (B B' : Nat) (A A' : Option Addr) (c c' : Nat) (l m : List Nat) (n k : Nat) (hn : l.length = n) (hk : m.length = k) (hl : n ≤ maxLen) (hm : k ≤ maxLen) (w : World) (h : IsBytes w B A l) (h' : IsBytes w B' A' m) :
    Calls Try.prog 53 #[.slice A n c, .slice A' k c'] w fun e w' => e = .returned (.bool (decide (l = m))) ∧ ∃ j, w' = w.drewN j := by
  subst hn; subst hk; exact same_any B B' A A' c c' l m hl hm w h h'
theorem same_T (B B' : Nat) (A A' : Option Addr) (c c' : Nat) (l : List Nat) (n : Nat) (hn : l.length = n) (hl : n ≤ maxLen) (w : World) (h : IsBytes w B A l) (h' : IsBytes w B' A' l) :
    Calls Try.prog 53 #[.slice A n c, .slice A' n c'] w fun e w' => e = .returned (.bool true) ∧ ∃ j, w' = w.drewN j :=
  (same_N B B' A A' c c' l l n n hn hn hl hl w h h').mono fun _ _ ⟨h1, h2⟩ => ⟨by rw [h1, decide_eq_true rfl], h2⟩
end Go.Proofs.Ytkmbkihfdilmbaa
namespace Go.Proofs.Ytkmbkihfdilmbaa
open Go.RowKit
set_option maxHeartbeats 400000 in
theorem copy_any (B : Nat) (A : Option Addr) (c : Nat) (l : List Nat) (hl : l.length ≤ 140737488355328) (w : World) (h : IsBytes w B A l) (hB : B ≤ w.heap.size) :
    Calls Try.prog 47 #[.slice A l.length c] w fun e w' => ∃ A' c', e = .returned (.slice A' l.length c') ∧ OwnsB 5 w' w.heap.size A' c' l ∧ Below w.heap.size w w' := by
  obtain ⟨i0, hi, hz0, hz1, hz2⟩ := info_parts info_u8
  go_enter Try.func47, Try.ntmps47
  go_wp2
  go_loopw [3, 4] (fun v i wr => ∃ k : Nat, k ≤ l.length ∧ i = .int .i64 k ∧ wr.ownsRow w.heap.size 5 1 v k (bytes (l.take k)) ∧ Below w.heap.size w wr) (fun _ i _ => l.length - (RowKit.intOf i).toNat)
  case atStart => exact ⟨0, by omega, rfl, World.ownsRow_nil _ _ _ _, Below.refl _ _⟩
  case round =>
    obtain ⟨k, hk, rfl, hown, hbel⟩ := hrel
    by_cases hlt : k < l.length
    · have h1 := (h.below (hbel.mono hB))
      obtain ⟨b, off, rfl, _, hc⟩ := h1.cells k hlt
      have hck := hc k hlt
      clear hc
      go_wp2_with (at_builtin; refine wpList_append_own _ rfl _ _ 29 rfl w.heap.size 5 i0 (.int .u8 0) 1 1 Try.underlying29 hi hz0 hz1 hz2 rfl (by decide) _ _ _ rfl (hown.alloc _) ⟨wr.heap.size, 0, none⟩ 1 1 [.int .u8 (l[k] : Nat)] rfl rfl ?c1 ?c2 ?c3 ?c4 ?c5 ?_)
      case c1 =>
        intro j u hj
        match j, hj with
        | 0, hj => simp at hj; subst hj; simp [Addr.add]
      case c2 => intro u hu; simp at hu; subst hu; rfl
      case c3 => unfold maxLen; omega
      case c4 => omega
      case c5 => have := hbel.size; simp; omega
      intro v' w1 hown' hgrow _
      rw [bytes_snoc l k hlt] at hown'
      have hb1 : Below w.heap.size w w1 := (hbel.alloc hbel.size _).grown hgrow (by have := hbel.size; simp; omega) (fun g hg => (hown.lt g hg).1)
      clear hgrow hown hbel hck
      go_wp2
      go_roundw
      case rel => exact ⟨k + 1, by omega, by go_num, hown', hb1⟩
      case measure => simp [RowKit.intOf]; omega
    · obtain rfl : k = l.length := by omega
      rw [List.take_length] at hown
      obtain ⟨A', c', rfl⟩ := own_slice hown
      go_wp2
      go_ret
      exact ⟨A', c', rfl, ⟨h.small, hown⟩, hbel⟩
theorem copy_N (B : Nat) (A : Option Addr) (c : Nat) (l : List Nat) (n : Nat) (hn : l.length = n) (hl : n ≤ 140737488355328) (w : World) (h : IsBytes w B A l) (hB : B ≤ w.heap.size) :
    Calls Try.prog 47 #[.slice A n c] w fun e w' => ∃ A' c', e = .returned (.slice A' n c') ∧ OwnsB 5 w' w.heap.size A' c' l ∧ Below w.heap.size w w' := by
  subst hn; exact copy_any B A c l hl w h hB
end Go.Proofs.Ytkmbkihfdilmbaa
namespace Go.Proofs.Ytkmbkihfdilmbaa
open Go.RowKit
set_option maxHeartbeats 1600000 in
set_option maxRecDepth 100000 in
theorem copyE_any (B : Nat) (A : Option Addr) (c n : Nat) (L : List Rl.En) (hn : L.length = n) (hl : n ≤ 90000) (hf : Rl.Few L) (w : World) (h : IsEnts w B A L) (hB : B ≤ w.heap.size) :
    Calls Try.prog 46 #[.slice A n c] w fun e w' => ∃ A' c', e = .returned (.slice A' n c') ∧ OwnE w' w.heap.size w'.heap.size A' c' L ∧ Below w.heap.size w w' := by
  subst hn
  have HH := hid (h.more hB)
  have HF := hid hf
  have H1 : Hid (OwnE w w.heap.size w.heap.size none 0 (L.take 0) ∧ Below w.heap.size w w) := hid ⟨OwnE.nil _ _ _, Below.refl _ _⟩
  clear h hf
  go_enter Try.func46, Try.ntmps46
  go_wp2_with fail
  go_loopw [3, 4] (fun v i wr => ∃ (k : Nat) (A1 : Option Addr) (c1 : Nat), k ≤ L.length ∧ v = .slice A1 k c1 ∧ i = .int .i64 k ∧ Hid (OwnE wr w.heap.size wr.heap.size A1 c1 (L.take k) ∧ Below w.heap.size w wr)) (fun _ i _ => L.length - (RowKit.intOf i).toNat)
  case atStart => exact ⟨0, _, _, by omega, rfl, rfl, H1⟩
  case round =>
    clear H1
    obtain ⟨k, A1, c1, hk, rfl, rfl, hS⟩ := hrel
    by_cases hlt : k < L.length
    · obtain ⟨b, off, rfl, hbw, hc⟩ := (HH.out.below hS.out.2).cells k hlt
      obtain ⟨Ad, cd, d0, d1, d2, hd, hd2, hd3⟩ := hc k hlt
      have hk0 : (k : Int) < (L.length : Int) := by omega
      have hfk : L[k].d.length ≤ 65536 := HF.out _ (List.getElem_mem hlt)
      have hnum := HH.out.num _ (List.getElem_mem hlt)
      have htk : L.take (k + 1) = L.take k ++ [L[k]] := List.take_succ_eq_append_getElem hlt
      obtain ⟨x, hx⟩ : ∃ x, x = L[k] := ⟨_, rfl⟩
      rw [← hx] at d0 d1 d2 hd hd2 hfk hnum htk
      have HX := hid (And.intro hnum htk)
      have HC := hid (copy_N wr.heap.size Ad cd x.d x.d.length rfl (by omega) wr.drew ((hd.more hS.out.2.size).drewN 1) (Nat.le_refl _))
      have HK : Hid (∀ w', Below w.heap.size wr w' → w'.cell? ⟨b, off + k * 3, none⟩ = some (.int .i64 x.t) ∧ w'.cell? ⟨b, off + k * 3 + 1, none⟩ = some (.int .i64 x.k) ∧ w'.cell? ⟨b, off + k * 3 + 2, none⟩ = some (.slice Ad x.d.length cd)) := hid (fun w' hb => ⟨(hb.cell (by show b < _; omega)).trans d0, (hb.cell (by show b < _; omega)).trans d1, (hb.cell (by show b < _; omega)).trans d2⟩)
      have hl5 : k + 1 ≤ 100000 := by omega
      have HLK : Hid ((L.take k).length = k) := hid (by rw [List.length_take]; omega)
      clear hc hx hnum htk hd hd2 hd3 hfk
      go_wp2_with fail
      go_region_held3 (fun w' => w'.cell? ⟨b, off + k * 3, none⟩ = some (.int .i64 x.t) ∧ w'.cell? ⟨b, off + k * 3 + 1, none⟩ = some (.int .i64 x.k) ∧ w'.cell? ⟨b, off + k * 3 + 2, none⟩ = some (.slice Ad x.d.length cd))
        (first | exact HK.out _ (Below.refl _ wr).drew | exact HK.out _ hb2.out | exact HK.out _ (hb2.out.alloc hN2.out _) | exact HK.out _ h6.out.2 | fail)
        (first
          | (refine step_append_ent (by rfl) _ _ (by rfl) (hS.out.1.below (hb1.out.alloc hb1.out.size _)) hS.out.2.size (by rw [World.size_alloc]; have := hb1.out.size; omega) k HLK.out (by rfl) x HX.out.1 A2 c2 (ho2.out.below ((Below.refl _ w2).alloc (Nat.le_refl _) _)) ⟨w2.heap.size, 0, none⟩ 1 (by rfl) (fun j _ => cellsE_new w2 _ rfl ⟨x, A2, c2⟩ _ j) hl5 ?_; intro A6 c6 w6 hE6 hB6; have h6 := hid (And.intro hE6 ((hb2.out.alloc hN2.out _).trans hB6)); clear hE6 hB6)
          | (go_at_call 47; refine HC.out.mono ?_; rintro e w2 ⟨A2, c2, rfl, ho2', hb2'⟩; have ho2 := hid ho2'; have hb1 := hid ((Below.refl _ wr).drew.trans hb2'); have hb2 := hid (hb1.out.mono hS.out.2.size); have hN2 := hid (Nat.le_trans hS.out.2.size hb1.out.size); clear ho2' hb2'))
      all_goals
        (have H6 : Hid (OwnE w6 w.heap.size w6.heap.size A6 c6 (L.take (k + 1)) ∧ Below w.heap.size w w6) := hid ⟨by rw [HX.out.2]; exact h6.out.1, hS.out.2.trans h6.out.2⟩
         clear h6 hb1 hb2 hN2 ho2 HK HC d0 d1 d2
         go_wp2_with fail
         go_roundw
         case rel => exact ⟨k + 1, A6, c6, by omega, rfl, by go_num, H6⟩
         case measure => simp [RowKit.intOf]; omega)
    · obtain rfl : k = L.length := by omega
      have hS1 := hS.out
      rw [List.take_length] at hS1
      have HS := hid hS1
      clear hS hS1
      go_wp2_with fail
      go_ret
      exact ⟨A1, c1, rfl, HS.out.1, HS.out.2⟩
end Go.Proofs.Ytkmbkihfdilmbaa
namespace Go.Proofs.Ytkmbkihfdilmbaa
open Go.RowKit
set_option maxHeartbeats 800000 in
set_option maxRecDepth 100000 in
theorem refTerm_no (B : Nat) (g : Rl.Lg) (A : Option Addr) (c : Nat) (i : Int) (hg : Rl.Ok g) (hn : g.has i = false) (w : World) (h : LgIs w B g A c) (hB : B ≤ w.heap.size) :
    Calls Try.prog 56 #[.agg #[.int .i64 g.base, .int .i64 g.term, .slice A g.es.length c], .int .i64 i] w fun e w' => e = .returned (.tuple #[.int .i64 0, .bool false]) ∧ Below w.heap.size w w' := by
  have hb1 : Below w.heap.size w (w.alloc (.cells #[.int .i64 g.base, .int .i64 g.term, .slice A g.es.length c] 25)) := (Below.refl _ w).alloc (Nat.le_refl _) _
  have HC := hid (refLast_any w.heap.size g A c hg _ ((h.more hB).below hb1) hb1.size)
  have HB := hid hb1
  have hn2 := Rl.Lg.has_not.1 hn
  obtain ⟨la, hla⟩ : ∃ la, la = g.last := ⟨_, rfl⟩
  obtain ⟨lt, hlt⟩ : ∃ lt, lt = g.lastT := ⟨_, rfl⟩
  have hla2 : la = g.base + (g.es.length : Nat) := by rw [hla]; rfl
  rw [← hla, ← hlt] at HC
  by_cases h1 : i < g.base
  · clear h hb1 hn hn2 hla hlt hla2
    go_enter Try.func56, Try.ntmps56
    go_wp2_with fail
    refine HC.out.mono ?_
    rintro e w2 ⟨rfl, hb2⟩
    have HB2 := hid (HB.out.trans (hb2.mono HB.out.size))
    have q0 : w2.cell? ⟨w.heap.size, 0, none⟩ = some (.int .i64 g.base) := by rw [hb2.cell (by simp)]; simp
    clear hb2
    go_wp2_with fail
    go_ret2
    exact ⟨rfl, HB2.out⟩
  · have h2 : la < i := by omega
    clear h hb1 hn hn2 hla hlt hla2
    go_enter Try.func56, Try.ntmps56
    go_wp2_with fail
    refine HC.out.mono ?_
    rintro e w2 ⟨rfl, hb2⟩
    have HB2 := hid (HB.out.trans (hb2.mono HB.out.size))
    have q0 : w2.cell? ⟨w.heap.size, 0, none⟩ = some (.int .i64 g.base) := by rw [hb2.cell (by simp)]; simp
    clear hb2
    go_wp2_with fail
    go_ret2
    exact ⟨rfl, HB2.out⟩
set_option maxHeartbeats 800000 in
set_option maxRecDepth 100000 in
theorem refTerm_yes (B : Nat) (g : Rl.Lg) (A : Option Addr) (c : Nat) (i : Int) (p : Nat) (hi : i = g.base + (p : Int)) (hp : p ≤ g.es.length) (hg : Rl.Ok g) (w : World) (h : LgIs w B g A c) (hB : B ≤ w.heap.size) :
    Calls Try.prog 56 #[.agg #[.int .i64 g.base, .int .i64 g.term, .slice A g.es.length c], .int .i64 i] w fun e w' => e = .returned (.tuple #[.int .i64 (g.at_ p), .bool true]) ∧ Below w.heap.size w w' := by
  have hb1 : Below w.heap.size w (w.alloc (.cells #[.int .i64 g.base, .int .i64 g.term, .slice A g.es.length c] 25)) := (Below.refl _ w).alloc (Nat.le_refl _) _
  have HC := hid (refLast_any w.heap.size g A c hg _ ((h.more hB).below hb1) hb1.size)
  have HB := hid hb1
  obtain ⟨la, hla⟩ : ∃ la, la = g.last := ⟨_, rfl⟩
  obtain ⟨lt, hlt⟩ : ∃ lt, lt = g.lastT := ⟨_, rfl⟩
  have hla2 : la = g.base + (g.es.length : Nat) := by rw [hla]; rfl
  rw [← hla, ← hlt] at HC
  have hil : ¬ la < i := by omega
  have hib : ¬ i < g.base := by omega
  clear hla hlt hla2
  obtain ⟨⟨g0, g1⟩, _, gl⟩ := hg
  rcases p with _ | p
  · obtain rfl : i = g.base := by omega
    clear h hb1 hi
    go_enter Try.func56, Try.ntmps56
    go_wp2_with fail
    refine HC.out.mono ?_
    rintro e w2 ⟨rfl, hb2⟩
    have HB2 := hid (HB.out.trans (hb2.mono HB.out.size))
    have q0 : w2.cell? ⟨w.heap.size, 0, none⟩ = some (.int .i64 g.base) := by rw [hb2.cell (by simp)]; simp
    have q1 : w2.cell? ⟨w.heap.size, 1, none⟩ = some (.int .i64 g.term) := by rw [hb2.cell (by simp)]; simp
    clear hb2
    go_wp2_with fail
    go_ret2
    exact ⟨rfl, HB2.out⟩
  · obtain ⟨b, off, rfl, hbB, hc⟩ := h.term_cell p (by omega)
    have hcW : Hid (∀ w', Below w.heap.size w w' → w'.cell? ⟨b, off + p * 3, none⟩ = some (.int .i64 (g.at_ (p + 1)))) := hid (fun w' hb => (hb.cell (by show b < _; omega)).trans hc)
    have hne : ¬ i = g.base := by omega
    have hsub : i - g.base = (p : Int) + 1 := by omega
    have hb2' : i ≤ 1099511727776 := by omega
    have hp0 : (p : Int) < (g.es.length : Int) := by omega
    obtain ⟨x, hx⟩ : ∃ x, x = g.at_ (p + 1) := ⟨_, rfl⟩
    rw [← hx] at hcW ⊢
    clear h hb1 hi hc hx
    go_enter Try.func56, Try.ntmps56
    go_wp2_with fail
    refine HC.out.mono ?_
    rintro e w2 ⟨rfl, hb2⟩
    have HB2 := hid (HB.out.trans (hb2.mono HB.out.size))
    have q0 : w2.cell? ⟨w.heap.size, 0, none⟩ = some (.int .i64 g.base) := by rw [hb2.cell (by simp)]; simp
    have q2 : w2.cell? ⟨w.heap.size, 2, none⟩ = some (.slice (some ⟨b, off, none⟩) g.es.length c) := by rw [hb2.cell (by simp)]; simp
    have q3 := hcW.out w2 HB2.out
    clear hb2
    go_wp2_with fail
    go_ret2
    exact ⟨rfl, HB2.out⟩
theorem refTerm_any (B : Nat) (g : Rl.Lg) (A : Option Addr) (c : Nat) (i : Int) (hg : Rl.Ok g) (w : World) (h : LgIs w B g A c) (hB : B ≤ w.heap.size) :
    Calls Try.prog 56 #[.agg #[.int .i64 g.base, .int .i64 g.term, .slice A g.es.length c], .int .i64 i] w fun e w' => e = .returned (.tuple #[.int .i64 (g.termV i), .bool (g.has i)]) ∧ Below w.heap.size w w' := by
  unfold Rl.Lg.termV
  rcases hh : g.has i with _ | _
  · exact refTerm_no B g A c i hg hh w h hB
  · obtain ⟨p, h1, h2, h3⟩ := Rl.Lg.has_at hh
    rw [h3]
    exact refTerm_yes B g A c i p h1 h2 hg w h hB
end Go.Proofs.Ytkmbkihfdilmbaa
namespace Go.Proofs.Ytkmbkihfdilmbaa
open Go.RowKit
def Reads (w : World) (B : Nat) (M : List El) : Prop := ∀ q ∈ M, IsBytes w B q.A q.e.d ∧ (q.e.d.length ≤ q.c ∧ q.c ≤ maxLen) ∧ (q.A = none → q.c = 0)
theorem IsEnts.flat {w : World} {B : Nat} {A : Option Addr} {L : List Rl.En} (h : IsEnts w B A L) : ∃ M : List El, M.map (·.e) = L ∧ Reads w B M ∧ ∀ ad, A = some ad → ∀ j u, (M.flatMap cellsE)[j]? = some u → w.cell? (ad.add j) = some u := by
  have hq : ∀ i : Fin L.length, ∃ q : El, q.e = L[i] ∧ (IsBytes w B q.A q.e.d ∧ (q.e.d.length ≤ q.c ∧ q.c ≤ maxLen) ∧ (q.A = none → q.c = 0)) ∧ ∀ ad, A = some ad → ∀ k, k < 3 → w.cell? (ad.add (i.1 * 3 + k)) = (cellsE q)[k]? := by
    intro i
    obtain ⟨b, off, rfl, _, hc⟩ := h.cells i.1 i.2
    obtain ⟨A1, c1, d0, d1, d2, d3, d4, d5⟩ := hc i.1 i.2
    refine ⟨⟨L[i], A1, c1⟩, rfl, ⟨d3, d4, d5⟩, fun ad he k hk => ?_⟩
    injection he with he
    subst he
    rw [add_off, ← Nat.add_assoc]
    match k, hk with
    | 0, _ => exact d0
    | 1, _ => exact d1
    | 2, _ => exact d2
  refine ⟨List.ofFn (fun i => (hq i).choose), ?_, ?_, ?_⟩
  · apply List.ext_getElem
    · simp
    · intro i h1 h2
      rw [List.getElem_map, List.getElem_ofFn]
      exact (hq ⟨i, h2⟩).choose_spec.1
  · intro q hm
    obtain ⟨i, rfl⟩ := List.mem_ofFn.1 hm
    exact (hq i).choose_spec.2.1
  · intro ad he j u hu
    have hlt := (List.getElem?_eq_some_iff.1 hu).1
    rw [flat_len cellsE 3 (fun _ => rfl)] at hlt
    have hj : j / 3 < (List.ofFn (fun i => (hq i).choose)).length := by omega
    have e := flat_get cellsE 3 (fun _ => rfl) _ (j / 3) hj (j % 3) (by omega)
    rw [show j / 3 * 3 + j % 3 = j by omega, hu, List.getElem_ofFn] at e
    have := (hq ⟨j / 3, by simpa using hj⟩).choose_spec.2.2 ad he (j % 3) (by omega)
    rw [show j / 3 * 3 + j % 3 = j by omega] at this
    rw [this, ← e]
theorem Reads.below {w w' : World} {B : Nat} {M : List El} (h : Reads w B M) (hb : Below B w w') : Reads w' B M := fun q hq => ⟨(h q hq).1.below hb, (h q hq).2⟩
theorem isEnts_row {w : World} {B B' : Nat} {F : Nat → Prop} {A : Option Addr} {c : Nat} {M : List El} (hrow : RowIn cellsE 3 64 w F A c M) (hr : Reads w B M) (hB : B ≤ B') (hF : ∀ k, F k → k < w.heap.size → k < B') (hn : ∀ q ∈ M, InInt q.e.t ∧ InInt q.e.k) : IsEnts w B' A (M.map (·.e)) := ⟨fun e he => by
  obtain ⟨q, hq, rfl⟩ := List.mem_map.1 he
  exact hn q hq, fun k hk => by
  rw [List.length_map] at hk
  obtain ⟨g, hA, hg, hFg, _, _⟩ := hrow.get k hk
  refine ⟨g, 0, hA, hF g hFg hg, fun i hi => ?_⟩
  rw [List.length_map] at hi
  obtain ⟨g', hA', _, _, hc, _⟩ := hrow.get i hi
  obtain rfl : g = g' := by rw [hA] at hA'; injection hA' with e; injection e
  have ho := hr M[i] (List.getElem_mem hi)
  rw [List.getElem_map, Nat.zero_add]
  exact ⟨M[i].A, M[i].c, hc 0 (by omega), hc 1 (by omega), hc 2 (by omega), ho.1.more hB, ho.2⟩⟩
def SharE (w : World) (B lo : Nat) (A : Option Addr) (c : Nat) (L : List Rl.En) : Prop :=
  ∃ M : List El, M.map (·.e) = L ∧ RowIn cellsE 3 64 w (fun k => lo ≤ k) A c M ∧ Reads w B M ∧ ∀ q ∈ M, InInt q.e.t ∧ InInt q.e.k
namespace SharE
variable {w w' : World} {B lo : Nat} {A : Option Addr} {c : Nat} {L : List Rl.En}
theorem nil (w : World) (B lo : Nat) : SharE w B lo none 0 [] := ⟨[], rfl, RowIn.nil (f := cellsE) (fun _ => rfl) _ _ _, fun q hq => by simp at hq, by simp⟩
theorem reads (h : SharE w B lo A c L) (hB : B ≤ w.heap.size) : IsEnts w w.heap.size A L := by
  obtain ⟨M, h1, h2, h3, h4⟩ := h
  rw [← h1]
  exact isEnts_row h2 h3 hB (fun k _ hk => hk) h4
theorem keep {S : Nat → Prop} (h : SharE w B lo A c L) (ht : Turned S w w') (hB : B ≤ w.heap.size) (hs : ∀ k, S k → B ≤ k ∧ k < lo) : SharE w' B lo A c L := by
  obtain ⟨M, h1, h2, h3, h4⟩ := h
  exact ⟨M, h1, h2.keep ht (fun k hk hS => by have := h2.blk k hk; have := (hs k hS).2; omega), h3.below (ht.below hB (fun k hk => (hs k hk).1)), h4⟩
theorem below (h : SharE w B lo A c L) (hb : Below w.heap.size w w') (hB : B ≤ w.heap.size) : SharE w' B lo A c L := h.keep (S := fun _ => False) (Turned.ofBelow _ hb) hB (fun _ h => h.elim)
theorem room (h : SharE w B lo A c L) : L.length ≤ c ∧ c ≤ maxLen := by
  obtain ⟨M, h1, h2⟩ := h; rw [← h1, List.length_map]; exact ⟨h2.1.cap, h2.1.capLe⟩
theorem none_ (h : SharE w B lo A c L) : A = none → c = 0 := by
  obtain ⟨M, h1, h2⟩ := h; exact h2.1.none_
end SharE
theorem wpList_append_share {w : World} {ops : Array Oper} {rest : List Oper} {o : Oper} {a : Act} {Q : Exit → Act → World → Prop} (hgd : o.guard = none) (s y : Operand)
    (ho : o.op = .call { callee := .builtin .append, args := #[s, y], argTypes := #[23, 23] }) {B lo c : Nat} {A : Option Addr} {L : List Rl.En} (h : SharE w B lo A c L) (hB : B ≤ lo) (hlo : lo ≤ w.heap.size)
    (n : Nat) (hn : L.length = n) (hs : a.eval s = .slice A n c) (x : Rl.En) (hx : InInt x.t ∧ InInt x.k) (A' : Option Addr) (c' : Nat) (hb : IsBytes w B A' x.d ∧ (x.d.length ≤ c' ∧ c' ≤ maxLen) ∧ (A' = none → c' = 0)) (ad : Addr) (ce : Nat) (hy : a.eval y = .slice (some ad) 1 ce) (hc : ∀ k, k < 3 → w.cell? (ad.add k) = (cellsE ⟨x, A', c'⟩)[k]?)
    (hl : n + 1 ≤ 100000)
    (hK : ∀ A2 c2 w', SharE w' B lo A2 c2 (L ++ [x]) → Below lo w w' → wpList Try.prog ops Q rest (a.put o.dst (.slice A2 (n + 1) c2)) w') : wpList Try.prog ops Q (o :: rest) a w := by
  obtain ⟨i0, hi, hz0, hz1, hz2⟩ := info_parts info_entry
  obtain ⟨M, hM, hr, hrd, hnum⟩ := h
  refine wpList_append_row hgd s y 23 ho i0 _ Try.underlying23 hi hz0 hz1 hz2 rfl (by decide) hr n (by rw [← hn, ← hM, List.length_map]) hs ⟨x, A', c'⟩ ad ce hy hc (cellsE_one _) (by omega) hl ?_
  intro A2 c2 w' h1 h2 _
  have hbel : Below lo w w' := below_grown h2 hlo (fun k hk => hr.blk k hk)
  refine hK A2 c2 w' ⟨M ++ [⟨x, A', c'⟩], by rw [List.map_append, hM]; rfl, h1.mono (fun k hk => ?_), fun q hq => ?_, fun q hq => ?_⟩ hbel
  · rcases h1.blk k hk with e | e
    · exact e
    · omega
  · rcases List.mem_append.1 hq with hq | hq
    · exact hrd.below (hbel.mono hB) q hq
    · obtain rfl := List.mem_singleton.1 hq
      exact ⟨hb.1.below (hbel.mono hB), hb.2⟩
  · rcases List.mem_append.1 hq with hq | hq
    · exact hnum q hq
    · obtain rfl := List.mem_singleton.1 hq; exact hx
end Go.Proofs.Ytkmbkihfdilmbaa
namespace Go.Proofs.Ytkmbkihfdilmbaa
open Go.RowKit
set_option maxHeartbeats 1600000 in
set_option maxRecDepth 100000 in
theorem refSlice_no (B : Nat) (g : Rl.Lg) (A : Option Addr) (c : Nat) (i m : Int) (hg : Rl.Ok g) (hn : i ≤ g.base) (w : World) (h : LgIs w B g A c) (hB : B ≤ w.heap.size) :
    Calls Try.prog 57 #[.agg #[.int .i64 g.base, .int .i64 g.term, .slice A g.es.length c], .int .i64 i, .int .i64 m] w fun e w' => ∃ A' c', e = .returned (.slice A' 0 c') ∧ OwnE w' w.heap.size w'.heap.size A' c' [] ∧ Below w.heap.size w w' := by
  have hb1 : Below w.heap.size w (w.alloc (.cells #[.int .i64 g.base, .int .i64 g.term, .slice A g.es.length c] 25)) := (Below.refl _ w).alloc (Nat.le_refl _) _
  have HC := hid (refLast_any w.heap.size g A c hg _ ((h.more hB).below hb1) hb1.size)
  have HB := hid hb1
  have hla2 : g.last = g.base + (g.es.length : Nat) := rfl
  obtain ⟨⟨g0, g1⟩, _, gl⟩ := hg
  have h1 : i < g.base + 1 := by omega
  have h2 : ¬ g.base < i := by omega
  have HO : Hid (∀ w', Calls Try.prog 46 #[.slice none 0 0] w' fun e w'' => ∃ A' c', e = .returned (.slice A' 0 c') ∧ OwnE w'' w'.heap.size w''.heap.size A' c' [] ∧ Below w'.heap.size w' w'') := hid (fun w' => copyE_any 0 none 0 0 [] rfl (by omega) (fun e he => by cases he) w' IsEnts.nil (Nat.zero_le _))
  obtain ⟨lt, hlt⟩ : ∃ lt, lt = g.lastT := ⟨_, rfl⟩
  rw [← hlt, hla2] at HC
  clear h hb1 hla2 hlt hn
  by_cases h3 : g.base + 1 ≤ g.base + (g.es.length : Nat)
  · go_enter Try.func57, Try.ntmps57
    go_wp2_with fail
    refine HC.out.mono ?_
    rintro e w2 ⟨rfl, hb2⟩
    have HB2 := hid (HB.out.trans (hb2.mono HB.out.size))
    have q0 : w2.cell? ⟨w.heap.size, 0, none⟩ = some (.int .i64 g.base) := by rw [hb2.cell (by simp)]; simp
    clear hb2
    go_wp2_with fail
    go_loopw [9, 10] (fun v i wr => v = .slice none 0 0 ∧ i = .int .i64 (g.base + 1) ∧ wr = w2) (fun _ _ _ => 0)
    case atStart => exact ⟨rfl, rfl, rfl⟩
    case round =>
      obtain ⟨rfl, rfl, rfl⟩ := hrel
      go_wp2_with fail
      refine (HO.out wr).mono ?_
      rintro e w3 ⟨A3, c3, rfl, ho3, hb3⟩
      have H3 := hid (And.intro (ho3.wide HB2.out.size (Nat.le_refl _)) (HB2.out.trans (hb3.mono HB2.out.size)))
      clear hb3 ho3
      go_wp2_with fail
      go_ret
      exact ⟨A3, c3, rfl, H3.out.1, H3.out.2⟩
  · go_enter Try.func57, Try.ntmps57
    go_wp2_with fail
    refine HC.out.mono ?_
    rintro e w2 ⟨rfl, hb2⟩
    have HB2 := hid (HB.out.trans (hb2.mono HB.out.size))
    have q0 : w2.cell? ⟨w.heap.size, 0, none⟩ = some (.int .i64 g.base) := by rw [hb2.cell (by simp)]; simp
    clear hb2
    go_wp2_with fail
    go_loopw [9, 10] (fun v i wr => v = .slice none 0 0 ∧ i = .int .i64 (g.base + 1) ∧ wr = w2) (fun _ _ _ => 0)
    case atStart => exact ⟨rfl, rfl, rfl⟩
    case round =>
      obtain ⟨rfl, rfl, rfl⟩ := hrel
      go_wp2_with fail
      refine (HO.out wr).mono ?_
      rintro e w3 ⟨A3, c3, rfl, ho3, hb3⟩
      have H3 := hid (And.intro (ho3.wide HB2.out.size (Nat.le_refl _)) (HB2.out.trans (hb3.mono HB2.out.size)))
      clear hb3 ho3
      go_wp2_with fail
      go_ret
      exact ⟨A3, c3, rfl, H3.out.1, H3.out.2⟩
set_option maxHeartbeats 3200000 in
set_option maxRecDepth 100000 in
theorem refSlice_yes (B : Nat) (g : Rl.Lg) (A : Option Addr) (c : Nat) (i m : Int) (j : Nat) (L : List Rl.En) (hL : L = (g.es.drop j).take m.toNat) (hi : i = g.base + (j : Int) + 1) (hg : Rl.Ok g) (hf : Rl.Few g.es) (w : World) (h : LgIs w B g A c) (hB : B ≤ w.heap.size) :
    Calls Try.prog 57 #[.agg #[.int .i64 g.base, .int .i64 g.term, .slice A g.es.length c], .int .i64 i, .int .i64 m] w fun e w' => ∃ A' c', e = .returned (.slice A' L.length c') ∧ OwnE w' w.heap.size w'.heap.size A' c' L ∧ Below w.heap.size w w' := by
  have hb1 : Below w.heap.size w (w.alloc (.cells #[.int .i64 g.base, .int .i64 g.term, .slice A g.es.length c] 25)) := (Below.refl _ w).alloc (Nat.le_refl _) _
  have HC := hid (refLast_any w.heap.size g A c hg _ ((h.more hB).below hb1) hb1.size)
  have HB := hid hb1
  have hla2 : g.last = g.base + (g.es.length : Nat) := rfl
  obtain ⟨⟨g0, g1⟩, _, gl⟩ := hg
  have hlen : L.length = min m.toNat (g.es.length - j) := by rw [hL, List.length_take, List.length_drop]
  have hfL : Rl.Few L := fun e he => hf e (by rw [hL] at he; exact List.mem_of_mem_drop (List.mem_of_mem_take he))
  have hget : ∀ k (hk : k < L.length), ∃ hk2 : j + k < g.es.length, L[k] = g.es[j + k] := fun k hk => by
    refine ⟨by omega, ?_⟩
    have : L[k]? = g.es[j + k]? := by rw [hL, List.getElem?_take, if_pos (by omega), List.getElem?_drop]
    rw [List.getElem?_eq_getElem hk, List.getElem?_eq_getElem (by omega)] at this
    exact Option.some.inj this
  have h1 : ¬ i < g.base + 1 := by omega
  have h2 : g.base < i := by omega
  have HH := hid (h.es.more hB)
  have HI := hid (And.intro hlen (And.intro hfL (And.intro hget hi)))
  obtain ⟨lt, hlt⟩ : ∃ lt, lt = g.lastT := ⟨_, rfl⟩
  obtain ⟨la, hla⟩ : ∃ la, la = g.base + (g.es.length : Nat) := ⟨_, rfl⟩
  rw [← hlt, hla2, ← hla] at HC
  have HLA := hid hla
  have hla0 : la ≤ 2199023255552 := by omega
  have hla1 : 0 ≤ la := by omega
  clear h hb1 hla2 hlt hL hla hlen hfL hget hi
  go_enter Try.func57, Try.ntmps57
  go_wp2_with fail
  refine HC.out.mono ?_
  rintro e w2 ⟨rfl, hb2⟩
  have HB2 := hid (HB.out.trans (hb2.mono HB.out.size))
  have q0 : w2.cell? ⟨w.heap.size, 0, none⟩ = some (.int .i64 g.base) := by rw [hb2.cell (by simp)]; simp
  have q2 : w2.cell? ⟨w.heap.size, 2, none⟩ = some (.slice A g.es.length c) := by rw [hb2.cell (by simp)]; simp
  have hs2 : w.heap.size < w2.heap.size := by have := hb2.size; simp at this; omega
  have HQ := hid (And.intro q0 q2)
  have H0 : Hid (SharE w2 w.heap.size w2.heap.size none 0 (L.take 0) ∧ Below w2.heap.size w2 w2) := hid ⟨SharE.nil _ _ _, Below.refl _ _⟩
  clear hb2
  go_wp2_with fail
  go_loopw [9, 10] (fun v i' wr => ∃ (k : Nat) (A1 : Option Addr) (c1 : Nat), k ≤ L.length ∧ v = .slice A1 k c1 ∧ i' = .int .i64 (i + k) ∧ Hid (SharE wr w.heap.size w2.heap.size A1 c1 (L.take k) ∧ Below w2.heap.size w2 wr)) (fun _ i' _ => L.length - (RowKit.intOf i' - i).toNat)
  case atStart => exact ⟨0, none, 0, by omega, rfl, by simp, H0⟩
  case round =>
    clear H0 q0 q2
    obtain ⟨k, A1, c1, hk, rfl, rfl, hS⟩ := hrel
    have p0 : wr.cell? ⟨w.heap.size, 0, none⟩ = some (.int .i64 g.base) := (hS.out.2.cell (by show w.heap.size < _; omega)).trans HQ.out.1
    have p2 : wr.cell? ⟨w.heap.size, 2, none⟩ = some (.slice A g.es.length c) := (hS.out.2.cell (by show w.heap.size < _; omega)).trans HQ.out.2
    by_cases hlt : k < L.length
    · have hlen := HI.out.1
      have hi := HI.out.2.2.2
      have hla := HLA.out
      have h3 : i + (k : Int) ≤ la := by omega
      have h4 : (k : Int) < m := by omega
      obtain ⟨hk2, hgk⟩ := HI.out.2.2.1 k hlt
      obtain ⟨b, off, rfl, hbw, hc⟩ := ((HH.out.below HB2.out).below (hS.out.2.mono HB2.out.size)).cells (j + k) hk2
      obtain ⟨Ad, cd, d0, d1, d2, hd, hd2, hd3⟩ := hc (j + k) hk2
      have hnum := HH.out.num _ (List.getElem_mem hk2)
      have htk : L.take (k + 1) = L.take k ++ [L[k]] := List.take_succ_eq_append_getElem hlt
      obtain ⟨x, hx⟩ : ∃ x, x = g.es[j + k] := ⟨_, rfl⟩
      rw [hgk, ← hx] at htk
      rw [← hx] at d0 d1 d2 hd hd2 hnum
      have HX := hid (And.intro hnum (And.intro htk (And.intro hd (And.intro hd2 hd3))))
      obtain ⟨v, hv⟩ : ∃ v, v = j + k := ⟨_, rfl⟩
      rw [← hv] at d0 d1 d2 hk2
      have hsub : i + (k : Int) - g.base = (v : Int) + 1 := by omega
      have hv0 : (v : Int) < (g.es.length : Int) := by omega
      have hv1 : i + (k : Int) ≤ 2199023255552 := by omega
      have hv2 : 0 ≤ i + (k : Int) := by omega
      have hl5 : k + 1 ≤ 100000 := by omega
      have HLK : Hid ((L.take k).length = k) := hid (by rw [List.length_take]; omega)
      clear hc hx hnum htk hd hd2 hd3 hlen hi hla hgk hv
      have hsr : w.heap.size ≤ wr.heap.size := Nat.le_trans HB2.out.size hS.out.2.size
      have HA := hid (And.intro (hS.out.1.below ((Below.refl _ wr).alloc (Nat.le_refl _) (.cells #[.int .i64 x.t, .int .i64 x.k, .slice Ad x.d.length cd] 64)) hsr) (HX.out.2.2.1.below (((Below.refl _ wr).alloc (Nat.le_refl _) (.cells #[.int .i64 x.t, .int .i64 x.k, .slice Ad x.d.length cd] 64)).mono hsr)))
      go_wp2_with (at_builtin; refine wpList_append_share rfl _ _ rfl HA.out.1 HB2.out.size ?hN k HLK.out rfl x HX.out.1 Ad cd ⟨HA.out.2, HX.out.2.2.2.1, HX.out.2.2.2.2⟩ ⟨wr.heap.size, 0, none⟩ 1 rfl (fun j _ => cellsE_new _ _ rfl ⟨x, Ad, cd⟩ _ j) hl5 ?_)
      case hN => rw [World.size_alloc]; have := hS.out.2.size; omega
      intro A6 c6 w6 hE6 hB6
      rw [← HX.out.2.1] at hE6
      have H6 : Hid (SharE w6 w.heap.size w2.heap.size A6 c6 (L.take (k + 1)) ∧ Below w2.heap.size w2 w6) := hid ⟨hE6, (hS.out.2.alloc hS.out.2.size _).trans hB6⟩
      clear hE6 hB6 HA
      go_wp2_with fail
      go_roundw
      case rel => exact ⟨k + 1, A6, c6, by omega, rfl, by go_num, H6⟩
      case measure => simp [RowKit.intOf]; omega
    · have hlen := HI.out.1
      have hi := HI.out.2.2.2
      have hla := HLA.out
      obtain rfl : k = L.length := by omega
      have HBr := hid (HB2.out.trans (hS.out.2.mono HB2.out.size))
      have HO := hid (copyE_any wr.heap.size A1 c1 L.length L rfl (by omega) HI.out.2.1 wr (by
        have := hS.out.1.reads HBr.out.size
        rw [List.take_length] at this
        exact this) (Nat.le_refl _))
      by_cases h3 : i + (L.length : Int) ≤ la
      · have h4 : ¬ (L.length : Int) < m := by omega
        clear hlen hi hla
        go_wp2_with fail
        refine HO.out.mono ?_
        rintro e w3 ⟨A3, c3, rfl, ho3, hb3⟩
        have H3 := hid (And.intro (ho3.wide HBr.out.size (Nat.le_refl _)) (HBr.out.trans (hb3.mono HBr.out.size)))
        clear hb3 ho3
        go_wp2_with fail
        go_ret
        exact ⟨A3, c3, rfl, H3.out.1, H3.out.2⟩
      · clear hlen hi hla
        go_wp2_with fail
        refine HO.out.mono ?_
        rintro e w3 ⟨A3, c3, rfl, ho3, hb3⟩
        have H3 := hid (And.intro (ho3.wide HBr.out.size (Nat.le_refl _)) (HBr.out.trans (hb3.mono HBr.out.size)))
        clear hb3 ho3
        go_wp2_with fail
        go_ret
        exact ⟨A3, c3, rfl, H3.out.1, H3.out.2⟩
theorem refSlice_any (B : Nat) (g : Rl.Lg) (A : Option Addr) (c : Nat) (i m : Int) (hg : Rl.Ok g) (hf : Rl.Few g.es) (w : World) (h : LgIs w B g A c) (hB : B ≤ w.heap.size) :
    Calls Try.prog 57 #[.agg #[.int .i64 g.base, .int .i64 g.term, .slice A g.es.length c], .int .i64 i, .int .i64 m] w fun e w' => ∃ A' c', e = .returned (.slice A' (g.slice i m).length c') ∧ OwnE w' w.heap.size w'.heap.size A' c' (g.slice i m) ∧ Below w.heap.size w w' := by
  by_cases hn : i ≤ g.base
  · have e : g.slice i m = [] := by
      unfold Rl.Lg.slice
      refine if_neg (fun h => ?_)
      have := (Rl.Lg.has_iff.1 h.1).1
      exact h.2 (by omega)
    rw [e]
    exact refSlice_no B g A c i m hg hn w h hB
  · obtain ⟨j, hj⟩ : ∃ j : Nat, i = g.base + (j : Int) + 1 := ⟨(i - g.base - 1).toNat, by omega⟩
    refine refSlice_yes B g A c i m j _ ?_ hj hg hf w h hB
    unfold Rl.Lg.slice
    by_cases hh : g.has i = true
    · rw [if_pos ⟨hh, by omega⟩]
      have : g.pl i - 1 = j := by unfold Rl.Lg.pl; omega
      rw [this]
    · rw [if_neg (fun h => hh h.1)]
      have : ¬ (g.base ≤ i ∧ i ≤ g.base + (g.es.length : Nat)) := fun h => hh (Rl.Lg.has_iff.2 h)
      rw [List.drop_of_length_le (by omega)]
      simp
end Go.Proofs.Ytkmbkihfdilmbaa
