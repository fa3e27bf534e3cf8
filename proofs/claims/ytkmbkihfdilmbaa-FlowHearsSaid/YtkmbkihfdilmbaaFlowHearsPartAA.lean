/- Texts of the proof, one behind the other: Mem, RlMath, Ints, Grown, Turned, Flat, Ents, RlL, RlA, PackMath, Crc, FrameMath, BigEn, MsMath, MsA, MsB, EntsMore, MsC, VoA, VoB, QuMath, KitPick, Conf, KitIntEq, ImGrow, SortI, Compact, QuC, RqI, RqA, KitInts, RqB, RqC, VoC, VoD, ImMath, KitEq, Reader, ImMem, ImBox, VoE. -/
import Derived.WalkKit
import Derived.WalkSpells
import Derived.Deep.Draws
import Derived.Laws.AppendOwnNone
import Derived.Maps.AppendAt
import Derived.Laws.OwnMore
import Derived.Lib.SliceRun
import Derived.Test.YtkmbkihfdilmbaaRows
import Derived.StillTailTactics
import Derived.Deep.QuietTactic
import Derived.BigQuiet
import Derived.Handy
import Init
import Derived.Laws.BitsAllLaws
import Derived.Lib.Bytealg
import Derived.Lib.OthersKept
import Derived.ArgAppend
import Derived.OwnWalk
import Derived.Deep.CutRange
import Derived.Lib.AppendZeros
import Derived.Lib.SlKeysI
import Derived.Shelf.SortM.Plain
import Derived.Shelf.SortM.SortNone
import Derived.Shelf.SlicesG.CompactI
import Derived.Deep.RegionHeld3
import Derived.WalkMore
import Derived.Deep.MidRow
import Derived.Deep.WholeRow
namespace Go.Proofs.Ytkmbkihfdilmbaa
open Go.RowKit
theorem hid {p : Prop} (h : p) : Hid p := h
theorem below_drewN {B : Nat} {a w : World} (h : Below B a w) (n : Nat) : Below B a (w.drewN n) := ⟨h.os, h.tape, h.output, h.size, h.block⟩
def bytes (l : List Nat) : List Value := l.map fun (x : Nat) => Value.int .u8 (x : Int)
structure IsBytes (w : World) (B : Nat) (A : Option Addr) (l : List Nat) : Prop where
  small : ∀ x ∈ l, x < 256
  cells : ∀ k, k < l.length → ∃ b off, A = some ⟨b, off, none⟩ ∧ b < B ∧ ∀ i (h : i < l.length), w.cell? ⟨b, off + i, none⟩ = some (.int .u8 (l[i] : Nat))
namespace IsBytes
variable {w w' : World} {B B' : Nat} {A : Option Addr} {l : List Nat}
theorem nil : IsBytes w B A [] := ⟨by simp, fun k h => by simp at h⟩
theorem keep (h : IsBytes w B A l) (hk : ∀ p : Addr, p.block < B → w'.cell? p = w.cell? p) : IsBytes w' B A l :=
  ⟨h.small, fun k hl => by
    obtain ⟨b, off, e, hb, hc⟩ := h.cells k hl
    exact ⟨b, off, e, hb, fun i hi => (hk _ hb).trans (hc i hi)⟩⟩
theorem more (h : IsBytes w B A l) (hB : B ≤ B') : IsBytes w B' A l :=
  ⟨h.small, fun k hl => by
    obtain ⟨b, off, e, hb, hc⟩ := h.cells k hl
    exact ⟨b, off, e, by omega, hc⟩⟩
theorem below (h : IsBytes w B A l) (hb : Below B w w') : IsBytes w' B A l := h.keep fun _ hp => hb.cell hp
theorem take (h : IsBytes w B A l) (n : Nat) : IsBytes w B A (l.take n) := by
  refine ⟨fun x hx => h.small x (List.mem_of_mem_take hx), fun k hk => ?_⟩
  rw [List.length_take] at hk
  obtain ⟨b, off, e, hb, hc⟩ := h.cells k (by omega)
  refine ⟨b, off, e, hb, fun i hi => ?_⟩
  rw [List.length_take] at hi
  rw [List.getElem_take]
  exact hc i (by omega)
theorem drewN (h : IsBytes w B A l) (n : Nat) : IsBytes (w.drewN n) B A l := ⟨h.small, h.cells⟩
theorem drew (h : IsBytes w B A l) : IsBytes w.drew B A l := ⟨h.small, h.cells⟩
end IsBytes
theorem isBytes_of_ints {W : World} {x : Addr} {len cap : Nat} {zs : List Int} (hl : len ≤ cap) (hz : zs.length = cap)
    (hcell : ∀ i, i < zs.length → W.cell? (x.add i) = some (.int .u8 (zs.getD i 0))) (hwz : ∀ n ∈ zs, (Lit.int .u8 n).wf = true) :
    ∃ l : List Nat, IsBytes W W.heap.size (some x) l ∧ len = l.length := by
  have hb : ∀ n ∈ zs, 0 ≤ n ∧ n < 256 := fun n hn => by
    have := hwz n hn
    simp [Lit.wf, IntKind.min, IntKind.max, IntKind.signed, IntKind.bits] at this
    omega
  refine ⟨(zs.take len).map Int.toNat, ⟨fun y hy => ?_, fun k hk => ?_⟩, by simp; omega⟩
  · obtain ⟨n, hn, rfl⟩ := List.mem_map.1 hy
    have := hb n (List.mem_of_mem_take hn)
    omega
  · have hk' : k < zs.length := by simp at hk; omega
    obtain ⟨b, off, spot⟩ := x
    have hspot : spot = none := by
      have := World.cell?_spot (hcell 0 (by omega))
      simpa [Addr.add] using this
    subst hspot
    have hadd : ∀ i, (⟨b, off, none⟩ : Addr).add i = ⟨b, off + i, none⟩ := fun i => by unfold Addr.add; split <;> simp [*]
    have hc : ∀ i, i < zs.length → W.cell? ⟨b, off + i, none⟩ = some (.int .u8 (zs.getD i 0)) := fun i hi => by rw [← hadd]; exact hcell i hi
    refine ⟨b, off, rfl, World.block_lt_of_cell? _ _ (hc k hk'), fun i hi => ?_⟩
    have hi' : i < zs.length := by simp at hi; omega
    rw [hc i hi', List.getElem_map, List.getElem_take, Int.toNat_of_nonneg (hb _ (List.getElem_mem hi')).1, List.getD_eq_getElem?_getD, List.getElem?_eq_getElem hi']
    rfl
structure OwnsB (e : TypeId) (w : World) (base : Nat) (A : Option Addr) (c : Nat) (l : List Nat) : Prop where
  small : ∀ x ∈ l, x < 256
  row : w.ownsRow base e 1 (.slice A l.length c) l.length (bytes l)
theorem bytes_get (l : List Nat) (k : Nat) (h : k < l.length) : (bytes l)[k]? = some (.int .u8 (l[k] : Nat)) := by
  unfold bytes; rw [List.getElem?_map, List.getElem?_eq_getElem h]; rfl
theorem own_slice {w : World} {base : Nat} {e : TypeId} {size n : Nat} {v : Value} {xs : List Value} (h : w.ownsRow base e size v n xs) : ∃ A c, v = .slice A n c := by
  rcases h.2 with ⟨rfl, h0⟩ | ⟨g, cap, cur, rfl, _⟩
  · exact ⟨none, 0, by rw [h0]⟩
  · exact ⟨_, _, rfl⟩
namespace OwnsB
variable {e : TypeId} {w w' : World} {base : Nat} {A : Option Addr} {c : Nat} {l : List Nat}
theorem reads (h : OwnsB e w base A c l) : IsBytes w w.heap.size A l := by
  refine ⟨h.small, fun k hk => ?_⟩
  rcases h.row.2 with ⟨_, h0⟩ | ⟨g, cap, cur, hv, hg, hh, _, _, _, _⟩
  · omega
  · have hA : A = some ⟨g, 0, none⟩ ∧ c = cap := by injection hv with h1 h2 h3; exact ⟨h1, h3⟩
    obtain ⟨rfl, rfl⟩ := hA
    refine ⟨g, 0, rfl, (h.row.lt g rfl).2, fun i hi => ?_⟩
    have := h.row.cells (g := g) rfl i _ (bytes_get l i hi)
    have e : (⟨g, 0, none⟩ : Addr).add i = ⟨g, 0 + i, none⟩ := by unfold Addr.add; split <;> simp [*]
    rw [e] at this
    exact this
theorem drew (h : OwnsB e w base A c l) : OwnsB e w.drew base A c l := ⟨h.small, h.row⟩
theorem drewN (h : OwnsB e w base A c l) (n : Nat) : OwnsB e (w.drewN n) base A c l := ⟨h.small, h.row⟩
theorem cap (h : OwnsB e w base A c l) : l.length ≤ c := by
  rcases h.row.2 with ⟨_, h0⟩ | ⟨g, cap, cur, hv, _, _, hc, _, _, _⟩
  · omega
  · have : c = cap := by injection hv
    omega
theorem below (h : OwnsB e w base A c l) (hb : Below w.heap.size w w') : OwnsB e w' base A c l := by
  refine ⟨h.small, h.row.kept (row := none) ⟨hb.os, hb.tape, hb.output, hb.size, fun k hk _ => hb.block k hk⟩ ?_⟩
  rcases ho : (Value.slice A l.length c).ownBlock with _ | g
  · exact .inl rfl
  · exact .inr (by simp)
theorem at_ (h : OwnsB e w base A c l) {k : Nat} (hk : k < l.length) : ∃ g, A = some ⟨g, 0, none⟩ ∧ base ≤ g ∧ g < w.heap.size ∧
    w.cell? ⟨g, k, none⟩ = some (.int .u8 (l[k] : Nat)) ∧ w.frozen? ⟨g, k, none⟩ = false := by
  rcases h.row.2 with ⟨_, h0⟩ | ⟨g, cap, cur, hv, hg, hh, _, _, _, _⟩
  · omega
  · have hA : A = some ⟨g, 0, none⟩ ∧ c = cap := by injection hv with h1 h2 h3; exact ⟨h1, h3⟩
    obtain ⟨rfl, rfl⟩ := hA
    refine ⟨g, rfl, hg, (h.row.lt g rfl).2, ?_, h.row.frozenAt k⟩
    rw [h.row.cellAt k (by omega)]
    exact bytes_get l k hk
end OwnsB
theorem IsBytes.news {w : World} {B : Nat} {ad : Addr} {l : List Nat} (h : IsBytes w B (some ad) l) : ∀ j u, (bytes l)[j]? = some u → w.cell? (ad.add j) = some u := by
  intro j u hu
  have hj : j < l.length := by
    have := (List.getElem?_eq_some_iff.1 hu).1
    simpa [bytes] using this
  obtain ⟨b, off, e, _, hc⟩ := h.cells j hj
  injection e with e
  subst e
  rw [bytes_get l j hj] at hu
  have hadd : (⟨b, off, none⟩ : Addr).add j = ⟨b, off + j, none⟩ := by unfold Addr.add; split <;> simp [*]
  rw [hadd, hc j hj]
  exact hu
theorem IsBytes.of_none {w : World} {B : Nat} {l : List Nat} (h : IsBytes w B none l) : l = [] := by
  rcases l with _ | ⟨x, l⟩
  · rfl
  · obtain ⟨b, off, e, _⟩ := h.cells 0 (by simp)
    cases e
theorem bytes_append (l m : List Nat) : bytes l ++ bytes m = bytes (l ++ m) := by unfold bytes; rw [List.map_append]
theorem bytes_oneCell (l : List Nat) : ∀ u ∈ bytes l, u.oneCell' = true := by
  intro u hu
  unfold bytes at hu
  obtain ⟨x, _, rfl⟩ := List.mem_map.1 hu
  rfl
theorem bytes_length (l : List Nat) : (bytes l).length = l.length := by simp [bytes]
theorem wpList_append_bytes {P : Program} {w : World} {ops : Array Oper} {rest : List Oper} {o : Oper} {a : Act} {Q : Exit → Act → World → Prop} (hgd : o.guard = none) (s x : Operand) (t : TypeId)
    (ho : o.op = .call { callee := .builtin .append, args := #[s, x], argTypes := #[t, t] })
    (base : Nat) (e : TypeId) (i : TypeInfo) (ht : P.underlying t = some (.slice e)) (hi : P.info? e = some i) (hz : i.zero = some (.int .u8 0)) (hsize : i.size = 1) (hby : i.bytes = 1)
    (A : Option Addr) (c : Nat) (l : List Nat) (hs : a.eval s = .slice A l.length c) (hown : OwnsB e w base A c l)
    (B : Nat) (A' : Option Addr) (c' : Nat) (m : List Nat) (hx : a.eval x = .slice A' m.length c') (hnil : A' = none → c' = 0) (hr : IsBytes w B A' m)
    (hbytes : l.length + m.length ≤ 140737488355328) (hbase : base ≤ w.heap.size)
    (h : ∀ A2 c2 w', OwnsB e w' base A2 c2 (l ++ m) → w.grownBy w' (Value.slice A l.length c).ownBlock → wpList P ops Q rest (a.put o.dst (.slice A2 (l.length + m.length) c2)) w') : wpList P ops Q (o :: rest) a w := by
  have hsm : ∀ y ∈ l ++ m, y < 256 := fun y hy => by
    rcases List.mem_append.1 hy with hy | hy
    · exact hown.small y hy
    · exact hr.small y hy
  rcases A' with _ | ad
  · obtain rfl := hr.of_none
    obtain rfl := hnil rfl
    refine wpList_append_own_none hgd s x t ho base e i 1 ht hi _ l.length (bytes l) hs hown.row hx ?_
    exact h A c w ⟨hsm, by simpa using hown.row⟩ (World.grownBy.refl w _)
  · refine wpList_append_own w hgd s x t ho base e i (.int .u8 0) 1 1 ht hi hz hsize hby rfl (by decide) _ l.length (bytes l) hs hown.row ad m.length c' (bytes m) hx (by rw [bytes_length]; omega) hr.news (bytes_oneCell m) (by unfold maxLen; omega) (by omega) hbase ?_
    intro v' w' h1 h2 _
    obtain ⟨A2, c2, rfl⟩ := own_slice h1
    rw [bytes_append] at h1
    exact h A2 c2 w' ⟨hsm, by rw [List.length_append]; exact h1⟩ h2
theorem add_off (b off m : Nat) : (⟨b, off, none⟩ : Addr).add m = ⟨b, off + m, none⟩ := by unfold Addr.add; split <;> simp [*]
theorem IsBytes.from {w : World} {B b off : Nat} {l : List Nat} (h : IsBytes w B (some ⟨b, off, none⟩) l) (m : Nat) : IsBytes w B (some ⟨b, off + m, none⟩) (l.drop m) := by
  refine ⟨fun x hx => h.small x (List.mem_of_mem_drop hx), fun k hk => ?_⟩
  rw [List.length_drop] at hk
  obtain ⟨b', off', e, hb, hc⟩ := h.cells 0 (by omega)
  injection e with e
  injection e with e1 e2
  subst e1
  subst e2
  refine ⟨b, off + m, rfl, hb, fun i hi => ?_⟩
  rw [List.length_drop] at hi
  rw [List.getElem_drop, Nat.add_assoc]
  exact hc (m + i) (by omega)
end Go.Proofs.Ytkmbkihfdilmbaa
namespace Go.Proofs.Ytkmbkihfdilmbaa.Rl
structure En where
  t : Int
  k : Int
  d : List Nat
deriving DecidableEq
structure Lg where
  base : Int
  term : Int
  es : List En
deriving DecidableEq
def Lg.at_ (g : Lg) : Nat → Int
  | 0 => g.term
  | n + 1 => (g.es.map (·.t)).getD n 0
def Lg.last (g : Lg) : Int := g.base + (g.es.length : Nat)
def Lg.lastT (g : Lg) : Int := g.at_ g.es.length
def Lg.has (g : Lg) (i : Int) : Bool := decide (g.base ≤ i) && decide (i ≤ g.last)
def Lg.pl (g : Lg) (i : Int) : Nat := (i - g.base).toNat
def Lg.termV (g : Lg) (i : Int) : Int := if g.has i then g.at_ (g.pl i) else 0
def Lg.slice (g : Lg) (i m : Int) : List En := if g.has i = true ∧ i ≠ g.base then (g.es.drop (g.pl i - 1)).take m.toNat else []
def alike : List En → List En → Nat
  | a :: r, b :: s => if a.t = b.t then alike r s + 1 else 0
  | _, _ => 0
def Lg.there (g : Lg) (p : Nat) (e : List En) : Nat := alike (g.es.drop p) e
def Lg.cut (g : Lg) (i : Int) : Lg := if g.has i then ⟨i, g.at_ (g.pl i), g.es.drop (g.pl i)⟩ else ⟨0, 0, []⟩
def Lg.cutE (g : Lg) (i : Int) : Int := if g.has i then 0 else 3
def Ok (g : Lg) : Prop := (0 ≤ g.base ∧ g.base ≤ 1099511637776) ∧ True ∧ g.es.length ≤ 50000
def Few (l : List En) : Prop := ∀ e ∈ l, e.d.length ≤ 65536
theorem Lg.has_iff {g : Lg} {i : Int} : g.has i = true ↔ g.base ≤ i ∧ i ≤ g.base + (g.es.length : Nat) := by
  unfold Lg.has Lg.last; rw [Bool.and_eq_true, decide_eq_true_iff, decide_eq_true_iff]
theorem Lg.has_at {g : Lg} {i : Int} (h : g.has i = true) : ∃ p : Nat, i = g.base + (p : Nat) ∧ p ≤ g.es.length ∧ g.pl i = p := by
  obtain ⟨h1, h2⟩ := Lg.has_iff.1 h
  refine ⟨(i - g.base).toNat, by omega, by omega, rfl⟩
theorem Lg.has_of {g : Lg} {p : Nat} (h : p ≤ g.es.length) : g.has (g.base + (p : Nat)) = true := Lg.has_iff.2 (by omega)
theorem Lg.at_succ (g : Lg) (n : Nat) (h : n < g.es.length) : g.at_ (n + 1) = g.es[n].t := by
  show (g.es.map (·.t)).getD n 0 = _
  rw [List.getD_eq_getElem?_getD, List.getElem?_map, List.getElem?_eq_getElem h]; rfl
theorem Ok.drop {g : Lg} (h : Ok g) (n : Nat) : (g.es.drop n).length ≤ 50000 := by rw [List.length_drop]; have := h.2.2; omega
end Go.Proofs.Ytkmbkihfdilmbaa.Rl
namespace Go.Proofs.Ytkmbkihfdilmbaa
open Go.RowKit
def InInt (x : Int) : Prop := -9223372036854775808 ≤ x ∧ x ≤ 9223372036854775807
def ints (l : List Int) : List Value := l.map fun (x : Int) => Value.int .i64 x
structure IsInts (w : World) (B : Nat) (A : Option Addr) (l : List Int) : Prop where
  small : ∀ x ∈ l, InInt x
  cells : ∀ k, k < l.length → ∃ b off, A = some ⟨b, off, none⟩ ∧ b < B ∧ ∀ i (h : i < l.length), w.cell? ⟨b, off + i, none⟩ = some (.int .i64 l[i])
namespace IsInts
variable {w w' : World} {B B' : Nat} {A : Option Addr} {l : List Int}
theorem nil : IsInts w B A [] := ⟨by simp, fun k h => by simp at h⟩
theorem keep (h : IsInts w B A l) (hk : ∀ p : Addr, p.block < B → w'.cell? p = w.cell? p) : IsInts w' B A l :=
  ⟨h.small, fun k hl => by
    obtain ⟨b, off, e, hb, hc⟩ := h.cells k hl
    exact ⟨b, off, e, hb, fun i hi => (hk _ hb).trans (hc i hi)⟩⟩
theorem more (h : IsInts w B A l) (hB : B ≤ B') : IsInts w B' A l :=
  ⟨h.small, fun k hl => by
    obtain ⟨b, off, e, hb, hc⟩ := h.cells k hl
    exact ⟨b, off, e, by omega, hc⟩⟩
theorem below (h : IsInts w B A l) (hb : Below B w w') : IsInts w' B A l := h.keep fun _ hp => hb.cell hp
theorem take (h : IsInts w B A l) (n : Nat) : IsInts w B A (l.take n) := by
  refine ⟨fun x hx => h.small x (List.mem_of_mem_take hx), fun k hk => ?_⟩
  rw [List.length_take] at hk
  obtain ⟨b, off, e, hb, hc⟩ := h.cells k (by omega)
  refine ⟨b, off, e, hb, fun i hi => ?_⟩
  rw [List.length_take] at hi
  rw [List.getElem_take]
  exact hc i (by omega)
theorem drewN (h : IsInts w B A l) (n : Nat) : IsInts (w.drewN n) B A l := ⟨h.small, h.cells⟩
theorem drew (h : IsInts w B A l) : IsInts w.drew B A l := ⟨h.small, h.cells⟩
end IsInts
theorem isInts_of_ints {W : World} {x : Addr} {len cap : Nat} {zs : List Int} (hl : len ≤ cap) (hz : zs.length = cap)
    (hcell : ∀ i, i < zs.length → W.cell? (x.add i) = some (.int .i64 (zs.getD i 0))) (hwz : ∀ n ∈ zs, (Lit.int .i64 n).wf = true) :
    ∃ l : List Int, IsInts W W.heap.size (some x) l ∧ len = l.length := by
  refine ⟨zs.take len, ⟨fun y hy => ?_, fun k hk => ?_⟩, by simp; omega⟩
  · have := hwz y (List.mem_of_mem_take hy)
    simp [Lit.wf, IntKind.min, IntKind.max, IntKind.signed, IntKind.bits] at this
    exact this
  · have hk' : k < zs.length := by simp at hk; omega
    obtain ⟨b, off, spot⟩ := x
    have hspot : spot = none := by
      have := World.cell?_spot (hcell 0 (by omega))
      simpa [Addr.add] using this
    subst hspot
    have hadd : ∀ i, (⟨b, off, none⟩ : Addr).add i = ⟨b, off + i, none⟩ := fun i => by unfold Addr.add; split <;> simp [*]
    have hc : ∀ i, i < zs.length → W.cell? ⟨b, off + i, none⟩ = some (.int .i64 (zs.getD i 0)) := fun i hi => by rw [← hadd]; exact hcell i hi
    refine ⟨b, off, rfl, World.block_lt_of_cell? _ _ (hc k hk'), fun i hi => ?_⟩
    have hi' : i < zs.length := by simp at hi; omega
    rw [hc i hi', List.getElem_take, List.getD_eq_getElem?_getD, List.getElem?_eq_getElem hi']
    rfl
structure OwnsI (e : TypeId) (w : World) (base : Nat) (A : Option Addr) (c : Nat) (l : List Int) : Prop where
  small : ∀ x ∈ l, InInt x
  row : w.ownsRow base e 1 (.slice A l.length c) l.length (ints l)
theorem ints_get (l : List Int) (k : Nat) (h : k < l.length) : (ints l)[k]? = some (.int .i64 l[k]) := by
  unfold ints; rw [List.getElem?_map, List.getElem?_eq_getElem h]; rfl
namespace OwnsI
variable {e : TypeId} {w w' : World} {base : Nat} {A : Option Addr} {c : Nat} {l : List Int}
theorem reads (h : OwnsI e w base A c l) : IsInts w w.heap.size A l := by
  refine ⟨h.small, fun k hk => ?_⟩
  rcases h.row.2 with ⟨_, h0⟩ | ⟨g, cap, cur, hv, hg, hh, _, _, _, _⟩
  · omega
  · have hA : A = some ⟨g, 0, none⟩ ∧ c = cap := by injection hv with h1 h2 h3; exact ⟨h1, h3⟩
    obtain ⟨rfl, rfl⟩ := hA
    refine ⟨g, 0, rfl, (h.row.lt g rfl).2, fun i hi => ?_⟩
    have := h.row.cells (g := g) rfl i _ (ints_get l i hi)
    have e : (⟨g, 0, none⟩ : Addr).add i = ⟨g, 0 + i, none⟩ := by unfold Addr.add; split <;> simp [*]
    rw [e] at this
    exact this
theorem drew (h : OwnsI e w base A c l) : OwnsI e w.drew base A c l := ⟨h.small, h.row⟩
theorem drewN (h : OwnsI e w base A c l) (n : Nat) : OwnsI e (w.drewN n) base A c l := ⟨h.small, h.row⟩
theorem cap (h : OwnsI e w base A c l) : l.length ≤ c := by
  rcases h.row.2 with ⟨_, h0⟩ | ⟨g, cap, cur, hv, _, _, hc, _, _, _⟩
  · omega
  · have : c = cap := by injection hv
    omega
theorem below (h : OwnsI e w base A c l) (hb : Below w.heap.size w w') : OwnsI e w' base A c l := by
  refine ⟨h.small, h.row.kept (row := none) ⟨hb.os, hb.tape, hb.output, hb.size, fun k hk _ => hb.block k hk⟩ ?_⟩
  rcases ho : (Value.slice A l.length c).ownBlock with _ | g
  · exact .inl rfl
  · exact .inr (by simp)
theorem at_ (h : OwnsI e w base A c l) {k : Nat} (hk : k < l.length) : ∃ g, A = some ⟨g, 0, none⟩ ∧ base ≤ g ∧ g < w.heap.size ∧
    w.cell? ⟨g, k, none⟩ = some (.int .i64 l[k]) ∧ w.frozen? ⟨g, k, none⟩ = false := by
  rcases h.row.2 with ⟨_, h0⟩ | ⟨g, cap, cur, hv, hg, hh, _, _, _, _⟩
  · omega
  · have hA : A = some ⟨g, 0, none⟩ ∧ c = cap := by injection hv with h1 h2 h3; exact ⟨h1, h3⟩
    obtain ⟨rfl, rfl⟩ := hA
    refine ⟨g, rfl, hg, (h.row.lt g rfl).2, ?_, h.row.frozenAt k⟩
    rw [h.row.cellAt k (by omega)]
    exact ints_get l k hk
end OwnsI
theorem IsInts.news {w : World} {B : Nat} {ad : Addr} {l : List Int} (h : IsInts w B (some ad) l) : ∀ j u, (ints l)[j]? = some u → w.cell? (ad.add j) = some u := by
  intro j u hu
  have hj : j < l.length := by
    have := (List.getElem?_eq_some_iff.1 hu).1
    simpa [ints] using this
  obtain ⟨b, off, e, _, hc⟩ := h.cells j hj
  injection e with e
  subst e
  rw [ints_get l j hj] at hu
  have hadd : (⟨b, off, none⟩ : Addr).add j = ⟨b, off + j, none⟩ := by unfold Addr.add; split <;> simp [*]
  rw [hadd, hc j hj]
  exact hu
theorem IsInts.of_none {w : World} {B : Nat} {l : List Int} (h : IsInts w B none l) : l = [] := by
  rcases l with _ | ⟨x, l⟩
  · rfl
  · obtain ⟨b, off, e, _⟩ := h.cells 0 (by simp)
    cases e
end Go.Proofs.Ytkmbkihfdilmbaa
namespace Go.Proofs.Ytkmbkihfdilmbaa
open Go.RowKit
theorem ret_len {A : Option Addr} {n m c : Nat} (h : n = m) : Ending.returned (.slice A n c) = .returned (.slice A m c) := by rw [h]
theorem grown_setCell (w : World) (g k : Nat) (u : Value) : w.grownBy (w.setCell ⟨g, k, none⟩ u) (some g) :=
  ⟨rfl, rfl, rfl, by simp [World.setCell], fun j _ hne => Below.heap_setCell _ _ _ _ (fun e => hne (by rw [e]))⟩
theorem below_grown {B : Nat} {a b : World} {row : Option Nat} (h : a.grownBy b row) (hB : B ≤ a.heap.size) (hr : ∀ k, row = some k → B ≤ k) : Below B a b := (Below.refl B a).grown h hB hr
theorem IsBytes.grown {w w' : World} {B : Nat} {A : Option Addr} {l : List Nat} {row : Option Nat} (h : IsBytes w B A l) (hg : w.grownBy w' row) (hB : B ≤ w.heap.size) (hr : ∀ k, row = some k → B ≤ k) : IsBytes w' B A l :=
  h.below (below_grown hg hB hr)
theorem IsInts.grown {w w' : World} {B : Nat} {A : Option Addr} {l : List Int} {row : Option Nat} (h : IsInts w B A l) (hg : w.grownBy w' row) (hB : B ≤ w.heap.size) (hr : ∀ k, row = some k → B ≤ k) : IsInts w' B A l :=
  h.below (below_grown hg hB hr)
theorem OwnsB.grown {e : TypeId} {w w' : World} {base c : Nat} {A : Option Addr} {l : List Nat} {row : Option Nat} (h : OwnsB e w base A c l) (hg : w.grownBy w' row) (hr : ∀ k, row = some k → k < base) : OwnsB e w' base A c l := by
  refine ⟨h.small, h.row.kept hg ?_⟩
  rcases ho : (Value.slice A l.length c).ownBlock with _ | g
  · exact .inl rfl
  · exact .inr (fun e => by have := hr g e.symm; have := (h.row.lt g ho).1; omega)
theorem OwnsI.grown {e : TypeId} {w w' : World} {base c : Nat} {A : Option Addr} {l : List Int} {row : Option Nat} (h : OwnsI e w base A c l) (hg : w.grownBy w' row) (hr : ∀ k, row = some k → k < base) : OwnsI e w' base A c l := by
  refine ⟨h.small, h.row.kept hg ?_⟩
  rcases ho : (Value.slice A l.length c).ownBlock with _ | g
  · exact .inl rfl
  · exact .inr (fun e => by have := hr g e.symm; have := (h.row.lt g ho).1; omega)
theorem OwnsB.rowLt {e : TypeId} {w : World} {base c : Nat} {A : Option Addr} {l : List Nat} (h : OwnsB e w base A c l) : ∀ k, (Value.slice A l.length c).ownBlock = some k → base ≤ k ∧ k < w.heap.size := h.row.lt
theorem OwnsI.rowLt {e : TypeId} {w : World} {base c : Nat} {A : Option Addr} {l : List Int} (h : OwnsI e w base A c l) : ∀ k, (Value.slice A l.length c).ownBlock = some k → base ≤ k ∧ k < w.heap.size := h.row.lt
theorem OwnsB.weaken {e : TypeId} {w : World} {base base' c : Nat} {A : Option Addr} {l : List Nat} (h : OwnsB e w base A c l) (hb : base' ≤ base) : OwnsB e w base' A c l := by
  refine ⟨h.small, h.row.1, ?_⟩
  rcases h.row.2 with h0 | ⟨g, cap, cur, h1, h2, h3⟩
  · exact .inl h0
  · exact .inr ⟨g, cap, cur, h1, by omega, h3⟩
theorem OwnsI.weaken {e : TypeId} {w : World} {base base' c : Nat} {A : Option Addr} {l : List Int} (h : OwnsI e w base A c l) (hb : base' ≤ base) : OwnsI e w base' A c l := by
  refine ⟨h.small, h.row.1, ?_⟩
  rcases h.row.2 with h0 | ⟨g, cap, cur, h1, h2, h3⟩
  · exact .inl h0
  · exact .inr ⟨g, cap, cur, h1, by omega, h3⟩
theorem OwnsB.alloc {e : TypeId} {w : World} {base c : Nat} {A : Option Addr} {l : List Nat} (h : OwnsB e w base A c l) (o : Obj) : OwnsB e (w.alloc o) base A c l := ⟨h.small, h.row.alloc o⟩
theorem OwnsI.alloc {e : TypeId} {w : World} {base c : Nat} {A : Option Addr} {l : List Int} (h : OwnsI e w base A c l) (o : Obj) : OwnsI e (w.alloc o) base A c l := ⟨h.small, h.row.alloc o⟩
theorem OwnsB.nil (e : TypeId) (w : World) (base : Nat) : OwnsB e w base none 0 [] := ⟨by simp, World.ownsRow_nil _ _ _ _⟩
theorem OwnsI.nil (e : TypeId) (w : World) (base : Nat) : OwnsI e w base none 0 [] := ⟨by simp, World.ownsRow_nil _ _ _ _⟩
theorem wpList_append_bytesN {P : Program} {w : World} {ops : Array Oper} {rest : List Oper} {o : Oper} {a : Act} {Q : Exit → Act → World → Prop} (hgd : o.guard = none) (s x : Operand) (t : TypeId)
    (ho : o.op = .call { callee := .builtin .append, args := #[s, x], argTypes := #[t, t] })
    (base : Nat) (e : TypeId) (i : TypeInfo) (ht : P.underlying t = some (.slice e)) (hi : P.info? e = some i) (hz : i.zero = some (.int .u8 0)) (hsize : i.size = 1) (hby : i.bytes = 1)
    (A : Option Addr) (c : Nat) (l : List Nat) (n : Nat) (hln : l.length = n) (hs : a.eval s = .slice A n c) (hown : OwnsB e w base A c l)
    (B : Nat) (A' : Option Addr) (c' : Nat) (m : List Nat) (k : Nat) (hmk : m.length = k) (hx : a.eval x = .slice A' k c') (hnil : A' = none → c' = 0) (hr : IsBytes w B A' m)
    (L : List Nat) (hL : l ++ m = L) (hbytes : n + k ≤ 140737488355328) (hbase : base ≤ w.heap.size)
    (h : ∀ A2 c2 w', OwnsB e w' base A2 c2 L → Below base w w' → wpList P ops Q rest (a.put o.dst (.slice A2 (n + k) c2)) w') : wpList P ops Q (o :: rest) a w := by
  subst hln
  subst hmk
  subst hL
  exact wpList_append_bytes hgd s x t ho base e i ht hi hz hsize hby A c l hs hown B A' c' m hx hnil hr hbytes hbase fun A2 c2 w' h1 h2 => h A2 c2 w' h1 (below_grown h2 hbase fun k hk => (hown.row.lt k hk).1)
def blk : Option Addr → Option Nat
  | some a => some a.block
  | none => none
theorem ownBlock_slice (A : Option Addr) (n c : Nat) : (Value.slice A n c).ownBlock = blk A := by cases A <;> rfl
theorem OwnsB.none_ {e : TypeId} {w : World} {base c : Nat} {A : Option Addr} {l : List Nat} (h : OwnsB e w base A c l) : A = none → c = 0 := by
  rintro rfl
  rcases h.row.2 with ⟨hv, _⟩ | ⟨g, cap, cur, hv, _⟩
  · injection hv
  · cases hv
theorem OwnsB.blkLt {e : TypeId} {w : World} {base c : Nat} {A : Option Addr} {l : List Nat} (h : OwnsB e w base A c l) : ∀ k, blk A = some k → base ≤ k ∧ k < w.heap.size := by
  intro k hk; exact h.rowLt k (by rw [ownBlock_slice]; exact hk)
theorem OwnsI.blkLt {e : TypeId} {w : World} {base c : Nat} {A : Option Addr} {l : List Int} (h : OwnsI e w base A c l) : ∀ k, blk A = some k → base ≤ k ∧ k < w.heap.size := by
  intro k hk; exact h.rowLt k (by rw [ownBlock_slice]; exact hk)
end Go.Proofs.Ytkmbkihfdilmbaa
namespace Go.Proofs.Ytkmbkihfdilmbaa
open Go.RowKit
structure Turned (S : Nat → Prop) (w w' : World) : Prop where
  os : w'.os = w.os
  tape : w'.tape = w.tape
  output : w'.output = w.output
  size : w.heap.size ≤ w'.heap.size
  block : ∀ k, k < w.heap.size → ¬ S k → w'.heap[k]? = w.heap[k]?
namespace Turned
variable {S S' : Nat → Prop} {a b c w w' : World}
theorem refl (S : Nat → Prop) (w : World) : Turned S w w := ⟨rfl, rfl, rfl, Nat.le_refl _, fun _ _ _ => rfl⟩
theorem then_ (h : Turned S a b) (h' : Turned S' b c) (hs : ∀ k, k < a.heap.size → S' k → S k) : Turned S a c :=
  ⟨h'.os.trans h.os, h'.tape.trans h.tape, h'.output.trans h.output, Nat.le_trans h.size h'.size, fun k hk hn => (h'.block k (Nat.lt_of_lt_of_le hk h.size) (fun e => hn (hs k hk e))).trans (h.block k hk hn)⟩
theorem trans (h : Turned S a b) (h' : Turned S b c) : Turned S a c := h.then_ h' (fun _ _ h => h)
theorem mono (h : Turned S a b) (hs : ∀ k, S k → S' k) : Turned S' a b := ⟨h.os, h.tape, h.output, h.size, fun k hk hn => h.block k hk (fun e => hn (hs k e))⟩
theorem ofBelow (S : Nat → Prop) (h : Below a.heap.size a b) : Turned S a b := ⟨h.os, h.tape, h.output, h.size, fun k hk _ => h.block k hk⟩
theorem ofGrown {row : Option Nat} (h : a.grownBy b row) (hs : ∀ k, row = some k → S k) : Turned S a b := ⟨h.os, h.tape, h.output, h.size, fun k hk hn => h.block k hk (fun e => hn (hs k e.symm))⟩
theorem drewN (h : Turned S a b) (n : Nat) : Turned S a (b.drewN n) := ⟨h.os, h.tape, h.output, h.size, h.block⟩
theorem drew (h : Turned S a b) : Turned S a b.drew := ⟨h.os, h.tape, h.output, h.size, h.block⟩
theorem alloc (h : Turned S a b) (o : Obj) : Turned S a (b.alloc o) := h.then_ (S' := S) (ofGrown (World.grownBy_alloc b o none) (fun k e => by cases e)) (fun _ _ h => h)
theorem setCell (h : Turned S a b) (g k : Nat) (u : Value) (hg : g < a.heap.size → S g) : Turned S a (b.setCell ⟨g, k, none⟩ u) :=
  h.then_ (S' := fun j => j = g) (ofGrown (grown_setCell b g k u) (fun j e => by injection e with e; exact e.symm)) (fun j hj e => by subst e; exact hg hj)
theorem one (w : World) (g k : Nat) (u : Value) : Turned (fun j => j = g) w (w.setCell ⟨g, k, none⟩ u) := ofGrown (grown_setCell w g k u) (fun j e => by injection e with e; exact e.symm)
theorem two (w : World) (g k k' : Nat) (u u' : Value) : Turned (fun j => j = g) w ((w.setCell ⟨g, k, none⟩ u).setCell ⟨g, k', none⟩ u') := (one w g k u).trans (one _ g k' u')
theorem three (w : World) (g k k' k'' : Nat) (u u' u'' : Value) : Turned (fun j => j = g) w (((w.setCell ⟨g, k, none⟩ u).setCell ⟨g, k', none⟩ u').setCell ⟨g, k'', none⟩ u'') := (two w g k k' u u').trans (one _ g k'' u'')
theorem below {B : Nat} (h : Turned S a b) (hB : B ≤ a.heap.size) (hs : ∀ k, S k → B ≤ k) : Below B a b :=
  ⟨h.os, h.tape, h.output, h.size, fun k hk => h.block k (by omega) (fun e => by have := hs k e; omega)⟩
theorem cell (h : Turned S a b) {p : Addr} (hp : p.block < a.heap.size) (hn : ¬ S p.block) : b.cell? p = a.cell? p := World.cell?_of_block (h.block p.block hp hn)
end Turned
theorem ownsRow_turned {w w' : World} {Z : Nat → Prop} {base : Nat} {e : TypeId} {size n : Nat} {v : Value} {xs : List Value} (h : w.ownsRow base e size v n xs) (ht : Turned Z w w') (ho : ∀ k, v.ownBlock = some k → ¬ Z k) : w'.ownsRow base e size v n xs := by
  refine ⟨h.1, ?_⟩
  rcases h.2 with h0 | ⟨g, cap, cur, h1, h2, h3, h4⟩
  · exact .inl h0
  · refine .inr ⟨g, cap, cur, h1, h2, ?_, h4⟩
    rw [ht.block g (Array.getElem?_eq_some_iff.1 h3).1 (ho g (by rw [h1]; rfl))]
    exact h3
end Go.Proofs.Ytkmbkihfdilmbaa
namespace Go.Proofs.Ytkmbkihfdilmbaa
open Go.RowKit
section
variable {α : Type} (f : α → List Value) (n : Nat) (hf : ∀ x, (f x).length = n)
include hf
theorem flat_len : ∀ L : List α, (L.flatMap f).length = L.length * n
  | [] => by simp
  | x :: r => by rw [List.flatMap_cons, List.length_append, hf, flat_len r, List.length_cons, Nat.succ_mul, Nat.add_comm]
theorem flat_get : ∀ (L : List α) (i : Nat) (hi : i < L.length) (k : Nat), k < n → (L.flatMap f)[i * n + k]? = (f L[i])[k]?
  | x :: r, 0, _, k, hk => by rw [List.flatMap_cons, Nat.zero_mul, Nat.zero_add, List.getElem?_append_left (by rw [hf]; exact hk)]; rfl
  | x :: r, i + 1, hi, k, hk => by
    rw [List.flatMap_cons, List.getElem?_append_right (by rw [hf, Nat.succ_mul]; omega), hf, show (i + 1) * n + k - n = i * n + k by rw [Nat.succ_mul]; omega]
    exact flat_get r i (by simpa using hi) k hk
theorem flat_set (x' : α) (k : Nat) (v : Value) : ∀ (L : List α) (i : Nat) (hi : i < L.length), k < n → f x' = (f L[i]).set k v → (L.set i x').flatMap f = (L.flatMap f).set (i * n + k) v
  | x :: r, 0, _, hk, he => by
    rw [List.set_cons_zero, List.flatMap_cons, List.flatMap_cons, Nat.zero_mul, Nat.zero_add, List.set_append_left _ _ (by rw [hf]; exact hk)]
    rw [he]; rfl
  | x :: r, i + 1, hi, hk, he => by
    have e1 : (i + 1) * n + k = (f x).length + (i * n + k) := by rw [hf, Nat.succ_mul]; omega
    rw [List.set_cons_succ, List.flatMap_cons, List.flatMap_cons, e1, List.set_append_right _ _ (by omega), Nat.add_sub_cancel_left, flat_set x' k v r i (by simpa using hi) hk (by simpa using he)]
end
structure RowIn {α : Type} (f : α → List Value) (size : Nat) (e : TypeId) (w : World) (F : Nat → Prop) (A : Option Addr) (c : Nat) (L : List α) : Prop where
  fits : ∀ x, (f x).length = size
  row : w.ownsRow 0 e size (.slice A L.length c) L.length (L.flatMap f)
  blk : ∀ k, blk A = some k → F k
namespace RowIn
variable {α : Type} {f : α → List Value} {size : Nat} {e : TypeId} {w w' : World} {F F' S : Nat → Prop} {A : Option Addr} {c : Nat} {L : List α}
theorem nil (hf : ∀ x, (f x).length = size) (e : TypeId) (w : World) (F : Nat → Prop) : RowIn f size e w F none 0 ([] : List α) :=
  ⟨hf, World.ownsRow_nil _ _ _ _, fun k h => by cases h⟩
theorem keep (h : RowIn f size e w F A c L) (ht : Turned S w w') (hd : ∀ k, Go.Proofs.Ytkmbkihfdilmbaa.blk A = some k → ¬ S k) : RowIn f size e w' F A c L :=
  ⟨h.fits, ownsRow_turned h.row ht (fun k hk => hd k (by rw [← ownBlock_slice A L.length c]; exact hk)), h.blk⟩
theorem mono (h : RowIn f size e w F A c L) (hF : ∀ k, Go.Proofs.Ytkmbkihfdilmbaa.blk A = some k → F' k) : RowIn f size e w F' A c L := ⟨h.fits, h.row, hF⟩
theorem lt (h : RowIn f size e w F A c L) : ∀ k, Go.Proofs.Ytkmbkihfdilmbaa.blk A = some k → k < w.heap.size := fun k hk => (h.row.lt k (by rw [ownBlock_slice]; exact hk)).2
theorem tag (h : RowIn f size e w F A c L) {k : Nat} (hk : Go.Proofs.Ytkmbkihfdilmbaa.blk A = some k) : ∃ cur, w.heap[k]? = some (.cells cur e (0, 0)) := by
  rcases h.row.2 with ⟨h0, _⟩ | ⟨g, cap, cur, hv, _, hh, _⟩
  · injection h0 with h0; rw [h0] at hk; cases hk
  · have hA : A = some ⟨g, 0, none⟩ := by injection hv
    rw [hA] at hk
    obtain rfl : g = k := by injection hk
    exact ⟨cur, hh⟩
theorem ne (h : RowIn f size e w F A c L) {g : Nat} {cs : Array Value} {t : TypeId} (hg : w.heap[g]? = some (.cells cs t (0, 0))) (hne : e ≠ t) : Go.Proofs.Ytkmbkihfdilmbaa.blk A ≠ some g := by
  intro hk
  obtain ⟨cur, hc⟩ := h.tag hk
  rw [hc] at hg
  exact hne (Obj.cells.inj (Option.some.inj hg)).2.1
theorem get (h : RowIn f size e w F A c L) (i : Nat) (hi : i < L.length) : ∃ g, A = some ⟨g, 0, none⟩ ∧ g < w.heap.size ∧ F g ∧ (∀ k, k < size → w.cell? ⟨g, i * size + k, none⟩ = (f L[i])[k]?) ∧ ∀ k, w.frozen? ⟨g, k, none⟩ = false := by
  rcases h.row.2 with ⟨_, h0⟩ | ⟨g, cap, cur, hv, _, hh, _⟩
  · omega
  · have hA : A = some ⟨g, 0, none⟩ := by injection hv
    subst hA
    refine ⟨g, rfl, (Array.getElem?_eq_some_iff.1 hh).1, h.blk g rfl, fun k hk => ?_, fun k => h.row.frozenAt k⟩
    have hlt : i * size + k < L.length * size := by
      have := Nat.mul_le_mul_right size (show i + 1 ≤ L.length by omega)
      rw [Nat.succ_mul] at this
      omega
    rw [h.row.cellAt _ hlt]
    exact flat_get f size h.fits L i hi k hk
theorem cap (h : RowIn f size e w F A c L) : L.length ≤ c := by
  rcases h.row.2 with ⟨h0, h1⟩ | ⟨g, cap, cur, hv, _, _, hc, _⟩
  · omega
  · have : c = cap := by injection hv
    omega
theorem capLe (h : RowIn f size e w F A c L) : c ≤ maxLen := by
  rcases h.row.2 with ⟨h0, h1⟩ | ⟨g, cap, cur, hv, _, _, hc, hm, _⟩
  · have : c = 0 := by injection h0
    omega
  · have : c = cap := by injection hv
    omega
theorem none_ (h : RowIn f size e w F A c L) : A = none → c = 0 := by
  rintro rfl
  rcases h.row.2 with ⟨h0, h1⟩ | ⟨g, cap, cur, hv, _⟩
  · injection h0
  · cases hv
theorem put (h : RowIn f size e w F A c L) {g : Nat} (hA : A = some ⟨g, 0, none⟩) (i k : Nat) (hi : i < L.length) (hk : k < size) (v : Value) (x' : α) (hx : f x' = (f L[i]).set k v) : RowIn f size e (w.setCell ⟨g, i * size + k, none⟩ v) F A c (L.set i x') := by
  subst hA
  refine ⟨h.fits, ?_, h.blk⟩
  rw [List.length_set, flat_set f size h.fits x' k v L i hi hk hx]
  exact (h.row.stored _ v).1
theorem below (h : RowIn f size e w F A c L) (hb : Below w.heap.size w w') : RowIn f size e w' F A c L := h.keep (S := fun _ => False) (Turned.ofBelow _ hb) (fun _ _ h => h)
end RowIn
theorem run_append_row {P : Program} {α : Type} {f : α → List Value} {size bytes : Nat} {e : TypeId} {w : World} {F : Nat → Prop} {A : Option Addr} {c : Nat} {L : List α} (t ty : TypeId) (i : TypeInfo) (z : Value)
    (ht : P.underlying t = some (.slice e)) (hi : P.info? e = some i) (hz : i.zero = some z) (hsize : i.size = size) (hby : i.bytes = bytes) (hzs : z.cells.size = size) (hsz : 0 < size)
    (h : RowIn f size e w F A c L) (y : α) (ad : Addr) (c' : Nat) (hy : ∀ k, k < size → w.cell? (ad.add k) = (f y)[k]?) (h1 : ∀ u ∈ f y, u.oneCell' = true)
    (hb : (L.length + 1) * bytes ≤ 140737488355328) (hl : L.length + 1 ≤ 10000000) :
    ∃ A2 c2 w', (Builtin.append_ #[t, t] ty #[.slice A L.length c, .slice (some ad) 1 c']).run P w = .ok (.slice A2 (L.length + 1) c2) w' ∧ RowIn f size e w' (fun k => F k ∨ w.heap.size ≤ k) A2 c2 (L ++ [y]) ∧ w.grownBy w' (blk A) ∧ (blk A2 = blk A ∨ blk A2 = some w.heap.size) := by
  obtain ⟨v', w', hr, h2, h3, _, h4⟩ := run_append_own_at (P := P) w 0 t ty e i z size bytes ht hi hz hsize hby hzs hsz _ L.length (L.flatMap f) h.row ad 1 c' (f y) (by rw [h.fits, Nat.one_mul])
    (fun j u hj => by
      have hlt : j < size := by have := (List.getElem?_eq_some_iff.1 hj).1; rwa [h.fits] at this
      rw [hy j hlt]; exact hj) h1 (by unfold maxLen; omega) hb (Nat.zero_le _)
  obtain ⟨A2, c2, rfl⟩ := own_slice h2
  rw [ownBlock_slice] at h3
  rw [ownBlock_slice, ownBlock_slice] at h4
  refine ⟨A2, c2, w', hr, ⟨h.fits, ?_, fun k hk => ?_⟩, h3, h4⟩
  · rw [List.length_append, List.flatMap_append]
    simpa using h2
  · rcases h4 with h4 | h4
    · exact .inl (h.blk k (by rw [← h4]; exact hk))
    · rw [h4] at hk
      injection hk with hk
      exact .inr (by omega)
theorem wp_append_rowM {P : Program} {w : World} {o : Oper} {a : Act} {K : Act → World → Prop} {Q : Exit → Act → World → Prop} (s x : Operand) (t : TypeId)
    (ho : o.op = .call { callee := .builtin .append, args := #[s, x], argTypes := #[t, t] }) {α : Type} {f : α → List Value} {size bytes : Nat} {e : TypeId} {F : Nat → Prop} {A : Option Addr} {c : Nat} {L : List α} (i : TypeInfo) (z : Value)
    (ht : P.underlying t = some (.slice e)) (hi : P.info? e = some i) (hz : i.zero = some z) (hsize : i.size = size) (hby : i.bytes = bytes) (hzs : z.cells.size = size) (hsz : 0 < size)
    (h : RowIn f size e w F A c L) (n : Nat) (hn : L.length = n) (hs : a.eval s = .slice A n c) (y : α) (ad : Addr) (c' : Nat) (hx : a.eval x = .slice (some ad) 1 c') (hy : ∀ k, k < size → w.cell? (ad.add k) = (f y)[k]?) (h1 : ∀ u ∈ f y, u.oneCell' = true)
    (hb : (n + 1) * bytes ≤ 140737488355328) (hl : n + 1 ≤ 10000000)
    (hK : ∀ A2 c2 w', RowIn f size e w' (fun k => F k ∨ w.heap.size ≤ k) A2 c2 (L ++ [y]) → w.grownBy w' (blk A) → (blk A2 = blk A ∨ blk A2 = some w.heap.size) → K (a.put o.dst (.slice A2 (n + 1) c2)) w') : o.wp P a w K Q := by
  subst hn
  obtain ⟨A2, c2, w', hr, h2, h3, h4⟩ := run_append_row (P := P) t o.type i z ht hi hz hsize hby hzs hsz h y ad c' hy h1 hb hl
  unfold Oper.wp execOp
  simp only [ho, resolve, invoke, builtin, Sem.run_bind, Sem.run_pure, Result.andThen_ok, List.map_toArray, List.map_cons, List.map_nil, hs, hx, hr]
  exact hK A2 c2 w' h2 h3 h4
theorem wp_append_row {P : Program} {w : World} {o : Oper} {a : Act} {K : Act → World → Prop} {Q : Exit → Act → World → Prop} (s x : Operand) (t : TypeId)
    (ho : o.op = .call { callee := .builtin .append, args := #[s, x], argTypes := #[t, t] }) {α : Type} {f : α → List Value} {size bytes : Nat} {e : TypeId} {F : Nat → Prop} {A : Option Addr} {c : Nat} {L : List α} (i : TypeInfo) (z : Value)
    (ht : P.underlying t = some (.slice e)) (hi : P.info? e = some i) (hz : i.zero = some z) (hsize : i.size = size) (hby : i.bytes = bytes) (hzs : z.cells.size = size) (hsz : 0 < size)
    (h : RowIn f size e w F A c L) (n : Nat) (hn : L.length = n) (hs : a.eval s = .slice A n c) (y : α) (ad : Addr) (c' : Nat) (hx : a.eval x = .slice (some ad) 1 c') (hy : ∀ k, k < size → w.cell? (ad.add k) = (f y)[k]?) (h1 : ∀ u ∈ f y, u.oneCell' = true)
    (hb : (n + 1) * bytes ≤ 140737488355328) (hl : n + 1 ≤ 100000)
    (hK : ∀ A2 c2 w', RowIn f size e w' (fun k => F k ∨ w.heap.size ≤ k) A2 c2 (L ++ [y]) → w.grownBy w' (blk A) → (blk A2 = blk A ∨ blk A2 = some w.heap.size) → K (a.put o.dst (.slice A2 (n + 1) c2)) w') : o.wp P a w K Q :=
  wp_append_rowM s x t ho i z ht hi hz hsize hby hzs hsz h n hn hs y ad c' hx hy h1 hb (by omega) hK
theorem step_append_row {P : Program} {w : World} {ops : Array Oper} {o : Oper} {a : Act} {K : Act → World → Prop} {Q : Exit → Act → World → Prop} {E : Prop} (hgd : o.guard = none) (s x : Operand) (t : TypeId)
    (ho : o.op = .call { callee := .builtin .append, args := #[s, x], argTypes := #[t, t] }) {α : Type} {f : α → List Value} {size bytes : Nat} {e : TypeId} {F : Nat → Prop} {A : Option Addr} {c : Nat} {L : List α} (i : TypeInfo) (z : Value)
    (ht : P.underlying t = some (.slice e)) (hi : P.info? e = some i) (hz : i.zero = some z) (hsize : i.size = size) (hby : i.bytes = bytes) (hzs : z.cells.size = size) (hsz : 0 < size)
    (h : RowIn f size e w F A c L) (n : Nat) (hn : L.length = n) (hs : a.eval s = .slice A n c) (y : α) (ad : Addr) (c' : Nat) (hx : a.eval x = .slice (some ad) 1 c') (hy : ∀ k, k < size → w.cell? (ad.add k) = (f y)[k]?) (h1 : ∀ u ∈ f y, u.oneCell' = true)
    (hb : (n + 1) * bytes ≤ 140737488355328) (hl : n + 1 ≤ 100000)
    (hK : ∀ A2 c2 w', RowIn f size e w' (fun k => F k ∨ w.heap.size ≤ k) A2 c2 (L ++ [y]) → w.grownBy w' (blk A) → (blk A2 = blk A ∨ blk A2 = some w.heap.size) → K (a.put o.dst (.slice A2 (n + 1) c2)) w') :
    if Region.wanted o (yielded ops a.tmps) = true then Oper.wp P o a w K Q else E := by
  have hw : Region.wanted o (yielded ops a.tmps) = true := by simp [Region.wanted, hgd]
  rw [if_pos hw]
  exact wp_append_row s x t ho i z ht hi hz hsize hby hzs hsz h n hn hs y ad c' hx hy h1 hb hl hK
theorem wpList_append_row {P : Program} {w : World} {ops : Array Oper} {rest : List Oper} {o : Oper} {a : Act} {Q : Exit → Act → World → Prop} (hgd : o.guard = none) (s x : Operand) (t : TypeId)
    (ho : o.op = .call { callee := .builtin .append, args := #[s, x], argTypes := #[t, t] }) {α : Type} {f : α → List Value} {size bytes : Nat} {e : TypeId} {F : Nat → Prop} {A : Option Addr} {c : Nat} {L : List α} (i : TypeInfo) (z : Value)
    (ht : P.underlying t = some (.slice e)) (hi : P.info? e = some i) (hz : i.zero = some z) (hsize : i.size = size) (hby : i.bytes = bytes) (hzs : z.cells.size = size) (hsz : 0 < size)
    (h : RowIn f size e w F A c L) (n : Nat) (hn : L.length = n) (hs : a.eval s = .slice A n c) (y : α) (ad : Addr) (c' : Nat) (hx : a.eval x = .slice (some ad) 1 c') (hy : ∀ k, k < size → w.cell? (ad.add k) = (f y)[k]?) (h1 : ∀ u ∈ f y, u.oneCell' = true)
    (hb : (n + 1) * bytes ≤ 140737488355328) (hl : n + 1 ≤ 100000)
    (hK : ∀ A2 c2 w', RowIn f size e w' (fun k => F k ∨ w.heap.size ≤ k) A2 c2 (L ++ [y]) → w.grownBy w' (blk A) → (blk A2 = blk A ∨ blk A2 = some w.heap.size) → wpList P ops Q rest (a.put o.dst (.slice A2 (n + 1) c2)) w') : wpList P ops Q (o :: rest) a w :=
  wpList_plain hgd fun _ hKK => wp_append_row s x t ho i z ht hi hz hsize hby hzs hsz h n hn hs y ad c' hx hy h1 hb hl fun A2 c2 w' h1 h2 h3 => hKK _ _ (hK A2 c2 w' h1 h2 h3)
end Go.Proofs.Ytkmbkihfdilmbaa
namespace Go.Proofs.Ytkmbkihfdilmbaa
open Go.RowKit
def EnAt (w : World) (B b o : Nat) (e : Rl.En) : Prop :=
  ∃ A c, w.cell? ⟨b, o, none⟩ = some (.int .i64 e.t) ∧ w.cell? ⟨b, o + 1, none⟩ = some (.int .i64 e.k) ∧ w.cell? ⟨b, o + 2, none⟩ = some (.slice A e.d.length c) ∧ IsBytes w B A e.d ∧ (e.d.length ≤ c ∧ c ≤ maxLen) ∧ (A = none → c = 0)
structure IsEnts (w : World) (B : Nat) (A : Option Addr) (L : List Rl.En) : Prop where
  num : ∀ e ∈ L, InInt e.t ∧ InInt e.k
  cells : ∀ k, k < L.length → ∃ b off, A = some ⟨b, off, none⟩ ∧ b < B ∧ ∀ i (h : i < L.length), EnAt w B b (off + i * 3) L[i]
theorem EnAt.below {w w' : World} {B b o : Nat} {e : Rl.En} (h : EnAt w B b o e) (hb : b < B) (hB : Below B w w') : EnAt w' B b o e := by
  obtain ⟨A, c, h0, h1, h2, h3, h4, h5⟩ := h
  exact ⟨A, c, (hB.cell hb).trans h0, (hB.cell hb).trans h1, (hB.cell hb).trans h2, h3.below hB, h4, h5⟩
namespace IsEnts
variable {w w' : World} {B B' : Nat} {A : Option Addr} {L : List Rl.En}
theorem nil : IsEnts w B A [] := ⟨by simp, fun k h => by simp at h⟩
theorem below (h : IsEnts w B A L) (hb : Below B w w') : IsEnts w' B A L := ⟨h.num, fun k hk => by
  obtain ⟨b, off, e, hlt, hc⟩ := h.cells k hk
  exact ⟨b, off, e, hlt, fun i hi => (hc i hi).below hlt hb⟩⟩
theorem more (h : IsEnts w B A L) (hB : B ≤ B') : IsEnts w B' A L := ⟨h.num, fun k hk => by
  obtain ⟨b, off, e, hlt, hc⟩ := h.cells k hk
  refine ⟨b, off, e, by omega, fun i hi => ?_⟩
  obtain ⟨A, c, h0, h1, h2, h3, h4⟩ := hc i hi
  exact ⟨A, c, h0, h1, h2, h3.more hB, h4⟩⟩
theorem drewN (h : IsEnts w B A L) (n : Nat) : IsEnts (w.drewN n) B A L := h.below (below_drewN (Below.refl _ _) n)
theorem drew (h : IsEnts w B A L) : IsEnts w.drew B A L := h.below (Below.refl _ _).drew
theorem take (h : IsEnts w B A L) (n : Nat) : IsEnts w B A (L.take n) := ⟨fun e he => h.num e (List.mem_of_mem_take he), fun k hk => by
  have hk' : k < L.length := by rw [List.length_take] at hk; omega
  obtain ⟨b, off, e, hlt, hc⟩ := h.cells k hk'
  refine ⟨b, off, e, hlt, fun i hi => ?_⟩
  have hi' : i < L.length := by rw [List.length_take] at hi; omega
  rw [List.getElem_take]
  exact hc i hi'⟩
theorem sl (h : IsEnts w B A L) {c i : Nat} (hc : L.length ≤ c) : IsEnts w B (if c = i then A else A.map (fun x => x.add (i * 3))) (L.drop i) := by
  by_cases hi : L.length ≤ i
  · rw [List.drop_of_length_le hi]; exact IsEnts.nil
  · rw [if_neg (by omega)]
    refine ⟨fun e he => h.num e (List.mem_of_mem_drop he), fun k hk => ?_⟩
    rw [List.length_drop] at hk
    obtain ⟨b, off, rfl, hlt, hcs⟩ := h.cells k (by omega)
    refine ⟨b, off + i * 3, by simp [add_off], hlt, fun j hj => ?_⟩
    rw [List.length_drop] at hj
    rw [List.getElem_drop, show off + i * 3 + j * 3 = off + (i + j) * 3 by omega]
    exact hcs (i + j) (by omega)
theorem few (h : IsEnts w B A L) (k : Nat) (hk : k < L.length) : L[k].d.length ≤ maxLen := by
  obtain ⟨b, off, _, _, hc⟩ := h.cells k hk
  obtain ⟨_, _, _, _, _, _, h4, _⟩ := hc k hk
  omega
end IsEnts
structure El where
  e : Rl.En
  A : Option Addr
  c : Nat
def cellsE (q : El) : List Value := [.int .i64 q.e.t, .int .i64 q.e.k, .slice q.A q.e.d.length q.c]
theorem cellsE_one (y : El) : ∀ u ∈ cellsE y, u.oneCell' = true := by
  intro u hu
  simp [cellsE] at hu
  rcases hu with rfl | rfl | rfl <;> rfl
theorem info_entry : (Try.prog.info? 64).map (fun i => (i.zero, i.size, i.bytes)) = some (some (.agg #[.int .i64 0, .int .i64 0, .slice none 0 0]), 3, 40) := by kernel_rfl
theorem OwnsB.turned {e : TypeId} {w w' : World} {S : Nat → Prop} {base c : Nat} {A : Option Addr} {l : List Nat} (h : OwnsB e w base A c l) (ht : Turned S w w') (hd : ∀ k, blk A = some k → ¬ S k) : OwnsB e w' base A c l :=
  ⟨h.small, ownsRow_turned h.row ht (fun k hk => hd k (by rw [← ownBlock_slice A l.length c]; exact hk))⟩
theorem OwnsB.ne {e : TypeId} {w : World} {base c g : Nat} {A : Option Addr} {l : List Nat} {cs : Array Value} {t : TypeId} (h : OwnsB e w base A c l) (hg : w.heap[g]? = some (.cells cs t (0, 0))) (hne : e ≠ t) : blk A ≠ some g := by
  intro hk
  rcases h.row.2 with ⟨h0, _⟩ | ⟨g', cap, cur, hv, _, hh, _⟩
  · injection h0 with h0; rw [h0] at hk; cases hk
  · have hA : A = some ⟨g', 0, none⟩ := by injection hv
    rw [hA] at hk
    obtain rfl : g' = g := by injection hk
    rw [hh] at hg
    exact hne (Obj.cells.inj (Option.some.inj hg)).2.1
theorem OwnsB.room {e : TypeId} {w : World} {base c : Nat} {A : Option Addr} {l : List Nat} (h : OwnsB e w base A c l) : l.length ≤ c ∧ c ≤ maxLen := by
  refine ⟨h.cap, ?_⟩
  rcases h.row.2 with ⟨h1, _⟩ | ⟨g, cap, cur, h1, _, _, _, h2, _⟩
  · injection h1 with h1 h2 h3; omega
  · injection h1 with h3 h4 h5; omega
def Apart (l : List (Option Nat)) : Prop := l.Pairwise fun x y => ∀ k, x = some k → y ≠ some k
def Bl (B N : Nat) : Nat → Prop := fun k => B ≤ k ∧ k < N
structure EntsAt (w : World) (B N : Nat) (A : Option Addr) (c : Nat) (M : List El) : Prop where
  row : RowIn cellsE 3 64 w (Bl B N) A c M
  own : ∀ q ∈ M, OwnsB 5 w 0 q.A q.c q.e.d ∧ ∀ k, blk q.A = some k → Bl B N k
  apart : Apart (M.map fun q => blk q.A)
  num : ∀ q ∈ M, InInt q.e.t ∧ InInt q.e.k
namespace EntsAt
variable {w w' : World} {B B' N N' : Nat} {A : Option Addr} {c : Nat} {M : List El}
theorem keep {S : Nat → Prop} (h : EntsAt w B N A c M) (ht : Turned S w w') (hs : ∀ k, S k → ¬ Bl B N k) : EntsAt w' B N A c M :=
  ⟨h.row.keep ht (fun k hk hS => hs k hS (h.row.blk k hk)), fun q hq => ⟨(h.own q hq).1.turned ht (fun k hk hS => hs k hS ((h.own q hq).2 k hk)), (h.own q hq).2⟩, h.apart, h.num⟩
theorem below (h : EntsAt w B N A c M) (hb : Below N w w') : EntsAt w' B N A c M :=
  h.keep (S := fun k => N ≤ k) ⟨hb.os, hb.tape, hb.output, hb.size, fun k _ hn => hb.block k (by omega)⟩ (fun k hk hB => by have := hB.2; omega)
theorem wide (h : EntsAt w B N A c M) (hB : B' ≤ B) (hN : N ≤ N') : EntsAt w B' N' A c M :=
  ⟨h.row.mono (fun k hk => ⟨by have := (h.row.blk k hk).1; omega, by have := (h.row.blk k hk).2; omega⟩), fun q hq => ⟨(h.own q hq).1, fun k hk => ⟨by have := ((h.own q hq).2 k hk).1; omega, by have := ((h.own q hq).2 k hk).2; omega⟩⟩, h.apart, h.num⟩
theorem reads (h : EntsAt w B N A c M) : IsEnts w N A (M.map (·.e)) := ⟨fun e he => by
  obtain ⟨q, hq, rfl⟩ := List.mem_map.1 he
  exact h.num q hq, fun k hk => by
  rw [List.length_map] at hk
  obtain ⟨g, hA, hg, hF, _, _⟩ := h.row.get k hk
  refine ⟨g, 0, hA, hF.2, fun i hi => ?_⟩
  rw [List.length_map] at hi
  obtain ⟨g', hA', _, _, hc, _⟩ := h.row.get i hi
  obtain rfl : g = g' := by rw [hA] at hA'; injection hA' with e; injection e
  have ho := h.own M[i] (List.getElem_mem hi)
  rw [List.getElem_map, Nat.zero_add]
  have hr : IsBytes w N M[i].A M[i].e.d := by
    refine ⟨ho.1.small, fun k hk => ?_⟩
    obtain ⟨b, off, e, _, hc⟩ := ho.1.reads.cells k hk
    exact ⟨b, off, e, (ho.2 b (by rw [e]; rfl)).2, hc⟩
  exact ⟨M[i].A, M[i].c, hc 0 (by omega), hc 1 (by omega), hc 2 (by omega), hr, ho.1.room, ho.1.none_⟩⟩
theorem nil (w : World) (B N : Nat) : EntsAt w B N none 0 [] := ⟨RowIn.nil (f := cellsE) (fun _ => rfl) _ _ _, by simp, List.Pairwise.nil, by simp⟩
end EntsAt
def OwnE (w : World) (B N : Nat) (A : Option Addr) (c : Nat) (L : List Rl.En) : Prop := ∃ M : List El, M.map (·.e) = L ∧ EntsAt w B N A c M
namespace OwnE
variable {w w' : World} {B B' N N' : Nat} {A : Option Addr} {c : Nat} {L : List Rl.En}
theorem nil (w : World) (B N : Nat) : OwnE w B N none 0 [] := ⟨[], rfl, EntsAt.nil w B N⟩
theorem keep {S : Nat → Prop} (h : OwnE w B N A c L) (ht : Turned S w w') (hs : ∀ k, S k → ¬ Bl B N k) : OwnE w' B N A c L := by
  obtain ⟨M, h1, h2⟩ := h; exact ⟨M, h1, h2.keep ht hs⟩
theorem below (h : OwnE w B N A c L) (hb : Below N w w') : OwnE w' B N A c L := by
  obtain ⟨M, h1, h2⟩ := h; exact ⟨M, h1, h2.below hb⟩
theorem wide (h : OwnE w B N A c L) (hB : B' ≤ B) (hN : N ≤ N') : OwnE w B' N' A c L := by
  obtain ⟨M, h1, h2⟩ := h; exact ⟨M, h1, h2.wide hB hN⟩
theorem reads (h : OwnE w B N A c L) : IsEnts w N A L := by
  obtain ⟨M, h1, h2⟩ := h; rw [← h1]; exact h2.reads
theorem room (h : OwnE w B N A c L) : L.length ≤ c ∧ c ≤ maxLen := by
  obtain ⟨M, h1, h2⟩ := h; rw [← h1, List.length_map]; exact ⟨h2.row.cap, h2.row.capLe⟩
theorem none_ (h : OwnE w B N A c L) : A = none → c = 0 := by
  obtain ⟨M, h1, h2⟩ := h; exact h2.row.none_
end OwnE
theorem ent_put {w w' : World} {B N c c2 c' : Nat} {A A2 A' : Option Addr} {L : List Rl.En} {M : List El} (hM : M.map (·.e) = L) (h : EntsAt w B N A c M) (hBN : B ≤ N) (hN : N ≤ w.heap.size) (x : Rl.En) (hb : OwnsB 5 w N A' c' x.d) (hx : InInt x.t ∧ InInt x.k)
    (hrow : RowIn cellsE 3 64 w' (fun k => Bl B N k ∨ w.heap.size ≤ k) A2 c2 (M ++ [⟨x, A', c'⟩])) (hg : w.grownBy w' (blk A)) :
    OwnE w' B w'.heap.size A2 c2 (L ++ [x]) ∧ Below B w w' := by
  have hT : Turned (fun k => blk A = some k) w w' := Turned.ofGrown hg (fun k hk => hk)
  have hown : ∀ q : El, OwnsB 5 w 0 q.A q.c q.e.d → OwnsB 5 w' 0 q.A q.c q.e.d := fun q hq => hq.turned hT (fun k hk e => by
    obtain ⟨cur, hc⟩ := h.row.tag e
    exact hq.ne hc (by decide) hk)
  refine ⟨⟨M ++ [⟨x, A', c'⟩], by rw [List.map_append, hM]; rfl, ?_, ?_, ?_, ?_⟩, below_grown hg (by omega) (fun k hk => (h.row.blk k hk).1)⟩
  · refine hrow.mono (fun k hk => ⟨?_, hrow.lt k hk⟩)
    rcases hrow.blk k hk with e | e
    · exact e.1
    · omega
  · intro q hq
    rcases List.mem_append.1 hq with hq | hq
    · refine ⟨hown q (h.own q hq).1, fun k hk => ⟨((h.own q hq).2 k hk).1, ?_⟩⟩
      have := ((h.own q hq).2 k hk).2
      have := hT.size
      omega
    · obtain rfl := List.mem_singleton.1 hq
      have h0 : OwnsB 5 w 0 A' c' x.d := hb.weaken (Nat.zero_le _)
      refine ⟨hown _ h0, fun k hk => ?_⟩
      have := hb.blkLt k hk
      have := hT.size
      exact ⟨by omega, by omega⟩
  · unfold Apart
    rw [List.map_append, List.pairwise_append]
    refine ⟨h.apart, List.pairwise_singleton _ _, fun a ha b hb' k hk e => ?_⟩
    obtain ⟨q, hq, rfl⟩ := List.mem_map.1 ha
    obtain ⟨q', hq', rfl⟩ := List.mem_map.1 hb'
    obtain rfl := List.mem_singleton.1 hq'
    have h1 := ((h.own q hq).2 k hk).2
    have h2 := (hb.blkLt k e).1
    omega
  · intro q hq
    rcases List.mem_append.1 hq with hq | hq
    · exact h.num q hq
    · obtain rfl := List.mem_singleton.1 hq; exact hx
theorem wpList_append_ent {w : World} {ops : Array Oper} {rest : List Oper} {o : Oper} {a : Act} {Q : Exit → Act → World → Prop} (hgd : o.guard = none) (s y : Operand)
    (ho : o.op = .call { callee := .builtin .append, args := #[s, y], argTypes := #[23, 23] }) {B N c : Nat} {A : Option Addr} {L : List Rl.En} (h : OwnE w B N A c L) (hBN : B ≤ N) (hN : N ≤ w.heap.size)
    (n : Nat) (hn : L.length = n) (hs : a.eval s = .slice A n c) (x : Rl.En) (hx : InInt x.t ∧ InInt x.k) (A' : Option Addr) (c' : Nat) (hb : OwnsB 5 w N A' c' x.d) (ad : Addr) (ce : Nat) (hy : a.eval y = .slice (some ad) 1 ce) (hc : ∀ k, k < 3 → w.cell? (ad.add k) = (cellsE ⟨x, A', c'⟩)[k]?)
    (hl : n + 1 ≤ 100000)
    (hK : ∀ A2 c2 w', OwnE w' B w'.heap.size A2 c2 (L ++ [x]) → Below B w w' → wpList Try.prog ops Q rest (a.put o.dst (.slice A2 (n + 1) c2)) w') : wpList Try.prog ops Q (o :: rest) a w := by
  obtain ⟨i0, hi, hz0, hz1, hz2⟩ := info_parts info_entry
  obtain ⟨M, hM, hE⟩ := h
  exact wpList_append_row hgd s y 23 ho i0 _ Try.underlying23 hi hz0 hz1 hz2 rfl (by decide) hE.row n (by rw [← hn, ← hM, List.length_map]) hs ⟨x, A', c'⟩ ad ce hy hc (cellsE_one _) (by omega) hl
    fun A2 c2 w' h1 h2 _ => by
      obtain ⟨h4, h5⟩ := ent_put hM hE hBN hN x hb hx h1 h2
      exact hK A2 c2 w' h4 h5
theorem step_append_ent {w : World} {ops : Array Oper} {o : Oper} {a : Act} {K : Act → World → Prop} {Q : Exit → Act → World → Prop} {E : Prop} (hgd : o.guard = none) (s y : Operand)
    (ho : o.op = .call { callee := .builtin .append, args := #[s, y], argTypes := #[23, 23] }) {B N c : Nat} {A : Option Addr} {L : List Rl.En} (h : OwnE w B N A c L) (hBN : B ≤ N) (hN : N ≤ w.heap.size)
    (n : Nat) (hn : L.length = n) (hs : a.eval s = .slice A n c) (x : Rl.En) (hx : InInt x.t ∧ InInt x.k) (A' : Option Addr) (c' : Nat) (hb : OwnsB 5 w N A' c' x.d) (ad : Addr) (ce : Nat) (hy : a.eval y = .slice (some ad) 1 ce) (hc : ∀ k, k < 3 → w.cell? (ad.add k) = (cellsE ⟨x, A', c'⟩)[k]?)
    (hl : n + 1 ≤ 100000)
    (hK : ∀ A2 c2 w', OwnE w' B w'.heap.size A2 c2 (L ++ [x]) → Below B w w' → K (a.put o.dst (.slice A2 (n + 1) c2)) w') :
    if Region.wanted o (yielded ops a.tmps) = true then Oper.wp Try.prog o a w K Q else E := by
  obtain ⟨i0, hi, hz0, hz1, hz2⟩ := info_parts info_entry
  obtain ⟨M, hM, hE⟩ := h
  exact step_append_row hgd s y 23 ho i0 _ Try.underlying23 hi hz0 hz1 hz2 rfl (by decide) hE.row n (by rw [← hn, ← hM, List.length_map]) hs ⟨x, A', c'⟩ ad ce hy hc (cellsE_one _) (by omega) hl
    fun A2 c2 w' h1 h2 _ => by
      obtain ⟨h4, h5⟩ := ent_put hM hE hBN hN x hb hx h1 h2
      exact hK A2 c2 w' h4 h5
theorem cellsE_new (w : World) (N : Nat) (h : w.heap.size = N) (q : El) (t : TypeId) (k : Nat) : (w.alloc (.cells #[.int .i64 q.e.t, .int .i64 q.e.k, .slice q.A q.e.d.length q.c] t)).cell? ((⟨N, 0, none⟩ : Addr).add k) = (cellsE q)[k]? := by
  subst h
  rw [add_off, Nat.zero_add, cell_of_row _ w.heap.size k #[.int .i64 q.e.t, .int .i64 q.e.k, .slice q.A q.e.d.length q.c] t (0, 0) (heap_alloc_new w _)]
  exact List.getElem?_toArray (xs := cellsE q) ..
end Go.Proofs.Ytkmbkihfdilmbaa
namespace Go.Proofs.Ytkmbkihfdilmbaa
open Go.RowKit
theorem ret_b {a b : Bool} (h : a = b) : Ending.returned (.bool a) = .returned (.bool b) := by rw [h]
structure LgIs (w : World) (B : Nat) (g : Rl.Lg) (A : Option Addr) (c : Nat) : Prop where
  es : IsEnts w B A g.es
  room : g.es.length ≤ c ∧ c ≤ maxLen
  none_ : A = none → c = 0
  num : InInt g.base ∧ InInt g.term
namespace LgIs
variable {w w' : World} {B B' : Nat} {g : Rl.Lg} {A : Option Addr} {c : Nat}
theorem below (h : LgIs w B g A c) (hb : Below B w w') : LgIs w' B g A c := ⟨h.es.below hb, h.room, h.none_, h.num⟩
theorem more (h : LgIs w B g A c) (hB : B ≤ B') : LgIs w B' g A c := ⟨h.es.more hB, h.room, h.none_, h.num⟩
theorem drewN (h : LgIs w B g A c) (n : Nat) : LgIs (w.drewN n) B g A c := ⟨h.es.drewN n, h.room, h.none_, h.num⟩
end LgIs
set_option maxHeartbeats 800000 in
set_option maxRecDepth 100000 in
theorem last_any (B : Nat) (g : Rl.Lg) (A : Option Addr) (c : Nat) (hg : Rl.Ok g) (w : World) (h : LgIs w B g A c) (hB : B ≤ w.heap.size) :
    Calls Try.prog 62 #[.agg #[.int .i64 g.base, .int .i64 g.term, .slice A g.es.length c]] w fun e w' => e = .returned (.tuple #[.int .i64 g.last, .int .i64 g.lastT]) ∧ Below w.heap.size w w' := by
  obtain ⟨⟨hb0, hb1⟩, _, hl⟩ := hg
  have HB : Hid (∀ n, Below w.heap.size w ((w.alloc (.cells #[.int .i64 g.base, .int .i64 g.term, .slice A g.es.length c] 25)).drewN n)) := hid (fun n => below_drewN ((Below.refl _ w).alloc (Nat.le_refl _) _) n)
  by_cases h0 : g.es.length = 0
  · have HE : Hid (g.last = g.base ∧ g.lastT = g.term) := hid (by unfold Rl.Lg.last Rl.Lg.lastT; rw [h0]; exact ⟨by omega, rfl⟩)
    have h00 : (g.es.length : Int) = 0 := by omega
    clear h
    go_enter Try.func62, Try.ntmps62
    go_wp2_with fail
    go_quiet (fail)
    go_wp2_with fail
    go_ret2
    exact ⟨by rw [HE.out.1, HE.out.2]; rfl, below_drewN ((Below.refl _ w).alloc (Nat.le_refl _) _) _⟩
  · have hlt : g.es.length - 1 < g.es.length := by omega
    obtain ⟨b, off, rfl, hbl, hc⟩ := h.es.cells (g.es.length - 1) hlt
    obtain ⟨A1, c1, d0, d1, d2, _, _⟩ := hc (g.es.length - 1) hlt
    have HE : Hid (g.last = g.base + (g.es.length : Nat) ∧ g.lastT = g.es[g.es.length - 1].t) := hid ⟨rfl, by
      unfold Rl.Lg.lastT
      have := g.at_succ (g.es.length - 1) hlt
      rw [show g.es.length - 1 + 1 = g.es.length by omega] at this
      exact this⟩
    have e0 : (w.alloc (.cells #[.int .i64 g.base, .int .i64 g.term, .slice (some ⟨b, off, none⟩) g.es.length c] 25)).cell? ⟨b, off + (g.es.length - 1) * 3, none⟩ = some (.int .i64 g.es[g.es.length - 1].t) := by rw [((Below.refl _ w).alloc (Nat.le_refl _) _).cell (by show b < _; omega)]; exact d0
    obtain ⟨x, hx⟩ : ∃ x, x = g.es[g.es.length - 1].t := ⟨_, rfl⟩
    rw [← hx] at e0 HE
    obtain ⟨k, hk⟩ : ∃ k, k = g.es.length - 1 := ⟨_, rfl⟩
    rw [← hk] at e0
    have hk1 : ((g.es.length : Nat) : Int) - 1 = (k : Int) := by omega
    have hk2 : (k : Int) < (g.es.length : Int) := by omega
    have h00 : ¬ (g.es.length : Int) = 0 := by omega
    clear h hc d0 d1 d2 hx hk
    go_enter Try.func62, Try.ntmps62
    go_wp2_with fail
    go_quiet (fail)
    go_wp2_with fail
    go_ret2
    exact ⟨by rw [HE.out.1, HE.out.2]; rfl, HB.out _⟩
end Go.Proofs.Ytkmbkihfdilmbaa
namespace Go.Proofs.Ytkmbkihfdilmbaa
open Go.RowKit
end Go.Proofs.Ytkmbkihfdilmbaa
namespace Go.Proofs.Ytkmbkihfdilmbaa.Pk
def num (l : List Nat) : Nat := l.foldl (fun a x => a * 256 + x) 0
def sgn (n : Nat) : Int := if n < 9223372036854775808 then (n : Int) else (n : Int) - 18446744073709551616
def byteOf (v : Int) (k : Nat) : Nat := (v / 2 ^ (8 * k) % 256).toNat
def enc (v : Int) : List Nat := [byteOf v 7, byteOf v 6, byteOf v 5, byteOf v 4, byteOf v 3, byteOf v 2, byteOf v 1, byteOf v 0]
def encs (l : List Int) : List Nat := l.flatMap enc
theorem byteOf_lt (v : Int) (k : Nat) : byteOf v k < 256 := by
  unfold byteOf
  have := Int.emod_nonneg (v / 2 ^ (8 * k)) (show (256 : Int) ≠ 0 by decide)
  have := Int.emod_lt_of_pos (v / 2 ^ (8 * k)) (show (0 : Int) < 256 by decide)
  omega
theorem enc_length (v : Int) : (enc v).length = 8 := rfl
theorem enc_small (v : Int) : ∀ x ∈ enc v, x < 256 := by
  intro x hx
  simp only [enc, List.mem_cons, List.not_mem_nil, or_false] at hx
  rcases hx with rfl | rfl | rfl | rfl | rfl | rfl | rfl | rfl <;> exact byteOf_lt _ _
theorem encs_length (l : List Int) : (encs l).length = 8 * l.length := by
  induction l with
  | nil => rfl
  | cons x l ih => simp only [encs, List.flatMap_cons, List.length_append, enc_length, List.length_cons] at ih ⊢; omega
theorem encs_small (l : List Int) : ∀ x ∈ encs l, x < 256 := by
  intro x hx
  obtain ⟨v, _, hv⟩ := List.mem_flatMap.1 hx
  exact enc_small v x hv
theorem encs_snoc (l : List Int) (v : Int) : encs (l ++ [v]) = encs l ++ enc v := by
  simp [encs]
theorem split_byte (q : Int) : q = 256 * (q / 256) + q % 256 ∧ 0 ≤ q % 256 ∧ q % 256 < 256 := by omega
theorem join_bytes (q : Int) (r0 r1 r2 r3 r4 r5 r6 r7 : Nat) (h7 : q = r7 ∨ q = (r7 : Int) - 256)
    (b0 : r0 < 256) (b1 : r1 < 256) (b2 : r2 < 256) (b3 : r3 < 256) (b4 : r4 < 256) (b5 : r5 < 256) (b6 : r6 < 256) (b7 : r7 < 256) (b8 : -128 ≤ q ∧ q < 128) :
    sgn (((((((((0 * 256 + r7) * 256 + r6) * 256 + r5) * 256 + r4) * 256 + r3) * 256 + r2) * 256 + r1) * 256 + r0)) =
      256 * (256 * (256 * (256 * (256 * (256 * (256 * q + r6) + r5) + r4) + r3) + r2) + r1) + r0 := by
  unfold sgn
  rcases h7 with h7 | h7
  · rw [if_pos (by omega)]; omega
  · rw [if_neg (by omega)]; omega
theorem ediv_pow (v : Int) (k : Nat) : v / 2 ^ (8 * (k + 1)) = v / 2 ^ (8 * k) / 256 := by
  rw [Int.ediv_ediv_of_nonneg (Int.le_of_lt (Int.pow_pos (by decide))), Nat.mul_add, Int.pow_add]; rfl
theorem step_byte (v : Int) (k : Nat) : 256 * (v / 2 ^ (8 * (k + 1))) + (byteOf v k : Nat) = v / 2 ^ (8 * k) := by
  have e := split_byte (v / 2 ^ (8 * k))
  rw [← ediv_pow] at e
  unfold byteOf
  omega
theorem dec_enc (v : Int) (h : -9223372036854775808 ≤ v ∧ v ≤ 9223372036854775807) : sgn (num (enc v)) = v := by
  have hb : -128 ≤ v / 2 ^ (8 * 7) ∧ v / 2 ^ (8 * 7) < 128 := by simp only [Nat.reduceMul, Int.reducePow]; omega
  have h7 : v / 2 ^ (8 * 7) = (byteOf v 7 : Nat) ∨ v / 2 ^ (8 * 7) = ((byteOf v 7 : Nat) : Int) - 256 := by
    have := split_byte (v / 2 ^ (8 * 7))
    unfold byteOf
    omega
  have e := join_bytes (v / 2 ^ (8 * 7)) (byteOf v 0) (byteOf v 1) (byteOf v 2) (byteOf v 3) (byteOf v 4) (byteOf v 5) (byteOf v 6) (byteOf v 7) h7
    (byteOf_lt _ _) (byteOf_lt _ _) (byteOf_lt _ _) (byteOf_lt _ _) (byteOf_lt _ _) (byteOf_lt _ _) (byteOf_lt _ _) (byteOf_lt _ _) hb
  rw [step_byte v 6, step_byte v 5, step_byte v 4, step_byte v 3, step_byte v 2, step_byte v 1, step_byte v 0] at e
  simp only [num, enc, List.foldl_cons, List.foldl_nil]
  rw [e]
  simp
theorem num_snoc (l : List Nat) (x : Nat) : num (l ++ [x]) = num l * 256 + x := by simp [num]
theorem num_lt (l : List Nat) (h : ∀ x ∈ l, x < 256) : num l < 256 ^ l.length := by
  induction hn : l.length generalizing l with
  | zero => have := List.eq_nil_of_length_eq_zero hn; subst this; simp [num]
  | succ n ih =>
    obtain ⟨a, x, rfl⟩ : ∃ a x, l = a ++ [x] := ⟨l.dropLast, l.getLast (by intro e; subst e; simp at hn), (List.dropLast_concat_getLast _).symm⟩
    have h1 := ih a (fun y hy => h y (by simp [hy])) (by simpa using hn)
    have h2 := h x (by simp)
    rw [num_snoc, Nat.pow_succ]
    omega
theorem sgn_in (n : Nat) (h : n < 18446744073709551616) : -9223372036854775808 ≤ sgn n ∧ sgn n ≤ 9223372036854775807 := by
  unfold sgn; split <;> omega
structure St where
  rest : List Nat
  bad : Bool
def St.ok (s : St) : Prop := s.bad = true → s.rest = []
def St.small (s : St) : Prop := ∀ x ∈ s.rest, x < 256
def gone : St := ⟨[], true⟩
def taken (s : St) (n : Int) : List Nat × St :=
  if n < 0 ∨ (s.rest.length : Int) < n then ([], gone) else (s.rest.take n.toNat, ⟨s.rest.drop n.toNat, s.bad⟩)
def rdInt (s : St) : Int × St :=
  if s.rest.length < 8 then (0, gone) else (sgn (num (s.rest.take 8)), ⟨s.rest.drop 8, s.bad⟩)
def rdBlob (s : St) : List Nat × St :=
  if (rdInt s).2.bad = true ∨ (rdInt s).1 < 0 ∨ ((rdInt s).2.rest.length : Int) < (rdInt s).1 then ([], gone)
  else ((rdInt s).2.rest.take (rdInt s).1.toNat, ⟨(rdInt s).2.rest.drop (rdInt s).1.toNat, false⟩)
def nums (n : Nat) (l : List Nat) : List Int := (List.range n).map fun i => sgn (num ((l.drop (8 * i)).take 8))
def rdInts (s : St) : List Int × St :=
  if (rdInt s).2.bad = true ∨ (rdInt s).1 < 0 ∨ (((rdInt s).2.rest.length : Int) / 8) < (rdInt s).1 then ([], gone)
  else (nums (rdInt s).1.toNat (rdInt s).2.rest, ⟨(rdInt s).2.rest.drop (8 * (rdInt s).1.toNat), false⟩)
theorem gone_ok : gone.ok := fun _ => rfl
theorem gone_small : gone.small := by intro x hx; cases hx
theorem taken_ok (s : St) (n : Int) (h : s.ok) : (taken s n).2.ok := by
  unfold taken
  split
  · exact gone_ok
  · intro hb; have := h hb; simp [this]
theorem taken_small (s : St) (n : Int) (h : s.small) : (taken s n).2.small ∧ ∀ x ∈ (taken s n).1, x < 256 := by
  unfold taken
  split
  · exact ⟨gone_small, by simp⟩
  · exact ⟨fun x hx => h x (List.mem_of_mem_drop hx), fun x hx => h x (List.mem_of_mem_take hx)⟩
theorem rdInt_taken (s : St) : rdInt s = (if s.rest.length < 8 then 0 else sgn (num (taken s 8).1), (taken s 8).2) := by
  unfold rdInt taken
  by_cases h : s.rest.length < 8
  · rw [if_pos h, if_pos h, if_pos (by omega)]
  · rw [if_neg h, if_neg h, if_neg (by omega)]; rfl
theorem rdInt_st (s : St) : (rdInt s).2 = (taken s 8).2 := by rw [rdInt_taken]
theorem rdInt_ok (s : St) (h : s.ok) : (rdInt s).2.ok := by rw [rdInt_st]; exact taken_ok s 8 h
theorem rdInt_small (s : St) (h : s.small) : (rdInt s).2.small := by rw [rdInt_st]; exact (taken_small s 8 h).1
theorem take_num_lt (l : List Nat) (h : ∀ x ∈ l, x < 256) : num (l.take 8) < 18446744073709551616 := by
  have h1 := num_lt (l.take 8) (fun x hx => h x (List.mem_of_mem_take hx))
  have h2 : (l.take 8).length ≤ 8 := List.length_take_le _ _
  have h3 : 256 ^ (l.take 8).length ≤ 256 ^ 8 := Nat.pow_le_pow_right (by decide) h2
  have h4 : 256 ^ 8 = 18446744073709551616 := by decide
  omega
theorem rdInt_in (s : St) (h : s.small) : -9223372036854775808 ≤ (rdInt s).1 ∧ (rdInt s).1 ≤ 9223372036854775807 := by
  unfold rdInt
  split
  · exact ⟨by decide, by decide⟩
  · exact sgn_in _ (take_num_lt _ h)
theorem rdInt_short (s : St) : (rdInt s).2.rest.length ≤ s.rest.length := by
  unfold rdInt gone; split <;> simp
theorem rdBlob_ok (s : St) : (rdBlob s).2.ok := by
  unfold rdBlob
  split
  · exact gone_ok
  · intro hb; cases hb
theorem rdBlob_small (s : St) (h : s.small) : (rdBlob s).2.small ∧ ∀ x ∈ (rdBlob s).1, x < 256 := by
  unfold rdBlob
  have := rdInt_small s h
  split
  · exact ⟨gone_small, by simp⟩
  · exact ⟨fun x hx => this x (List.mem_of_mem_drop hx), fun x hx => this x (List.mem_of_mem_take hx)⟩
theorem rdBlob_short (s : St) : (rdBlob s).2.rest.length ≤ s.rest.length ∧ (rdBlob s).1.length ≤ s.rest.length := by
  have := rdInt_short s
  unfold rdBlob gone; split <;> simp <;> omega
theorem nums_length (n : Nat) (l : List Nat) : (nums n l).length = n := by simp [nums]
theorem nums_snoc (n : Nat) (l : List Nat) : nums (n + 1) l = nums n l ++ [sgn (num ((l.drop (8 * n)).take 8))] := by
  unfold nums; rw [List.range_succ, List.map_append]; rfl
theorem nums_in (n : Nat) (l : List Nat) (h : ∀ x ∈ l, x < 256) : ∀ v ∈ nums n l, -9223372036854775808 ≤ v ∧ v ≤ 9223372036854775807 := by
  intro v hv
  obtain ⟨i, _, rfl⟩ := List.mem_map.1 hv
  exact sgn_in _ (take_num_lt _ (fun x hx => h x (List.mem_of_mem_drop hx)))
theorem rdInts_ok (s : St) : (rdInts s).2.ok := by
  unfold rdInts
  split
  · exact gone_ok
  · intro hb; cases hb
theorem rdInts_small (s : St) (h : s.small) : (rdInts s).2.small := by
  unfold rdInts
  have := rdInt_small s h
  split
  · exact gone_small
  · exact fun x hx => this x (List.mem_of_mem_drop hx)
theorem rdInts_in (s : St) (h : s.small) : ∀ v ∈ (rdInts s).1, -9223372036854775808 ≤ v ∧ v ≤ 9223372036854775807 := by
  unfold rdInts
  split
  · intro v hv; cases hv
  · exact nums_in _ _ (rdInt_small s h)
theorem rdInts_short (s : St) : (rdInts s).2.rest.length ≤ s.rest.length ∧ 8 * (rdInts s).1.length ≤ s.rest.length := by
  have := rdInt_short s
  unfold rdInts gone
  split
  · simp
  · rename_i h
    simp only [not_or] at h
    simp only [List.length_drop, nums_length]
    omega
inductive Val where
  | num (v : Int)
  | blob (l : List Nat)
  | list (l : List Int)
def Val.enc : Val → List Nat
  | .num v => Pk.enc v
  | .blob l => Pk.enc l.length ++ l
  | .list l => Pk.enc l.length ++ encs l
def Val.ok : Val → Prop
  | .num v => -9223372036854775808 ≤ v ∧ v ≤ 9223372036854775807
  | .blob l => l.length ≤ 1024 ∧ ∀ x ∈ l, x < 256
  | .list l => l.length ≤ 1024 ∧ ∀ v ∈ l, -9223372036854775808 ≤ v ∧ v ≤ 9223372036854775807
def Val.kind : Val → Nat
  | .num _ => 0
  | .blob _ => 1
  | .list _ => 2
theorem rdInt_enc (v : Int) (t : List Nat) (b : Bool) (h : -9223372036854775808 ≤ v ∧ v ≤ 9223372036854775807) : rdInt ⟨enc v ++ t, b⟩ = (v, ⟨t, b⟩) := by
  unfold rdInt
  rw [if_neg (by simp [enc_length])]
  have e : (enc v ++ t).take 8 = enc v := by rw [List.take_left' (enc_length v)]
  have e' : (enc v ++ t).drop 8 = t := by rw [List.drop_left' (enc_length v)]
  simp only [e, e', dec_enc v h]
theorem nums_encs (l : List Int) (t : List Nat) (h : ∀ v ∈ l, -9223372036854775808 ≤ v ∧ v ≤ 9223372036854775807) : nums l.length (encs l ++ t) = l := by
  apply List.ext_getElem
  · exact nums_length _ _
  · intro i h1 h2
    have e : l = l.take i ++ l[i] :: l.drop (i + 1) := by simp
    have e2 : encs l ++ t = encs (l.take i) ++ (enc l[i] ++ (encs (l.drop (i + 1)) ++ t)) := by
      conv => lhs; rw [e]
      simp only [encs, List.flatMap_append, List.flatMap_cons, List.append_assoc]
    have e3 : (encs (l.take i)).length = 8 * i := by rw [encs_length, List.length_take, Nat.min_eq_left (by omega)]
    simp only [nums, List.getElem_map, List.getElem_range]
    rw [e2, List.drop_left' e3, List.take_left' (enc_length _)]
    exact dec_enc _ (h _ (List.getElem_mem _))
end Go.Proofs.Ytkmbkihfdilmbaa.Pk
namespace Go.Proofs.Ytkmbkihfdilmbaa.Crc
def step (r : Nat) : Nat := if r % 2 = 1 then (r / 2) ^^^ 2197175160 else r / 2
def steps : Nat → Nat → Nat
  | 0, r => r
  | n + 1, r => steps n (step r)
def byte (r c : Nat) : Nat := steps 8 (r ^^^ c)
def feed (r : Nat) (l : List Nat) : Nat := l.foldl byte r
def cplK (k r : Nat) : Nat := k ^^^ r
def cpl (r : Nat) : Nat := cplK 4294967295 r
def more (s : Nat) (l : List Nat) : Nat := cpl (feed (cpl s) l)
def num : List Nat → Nat
  | [] => 0
  | c :: l => c ^^^ (256 * num l)
theorem step_lt (a : Nat) (h : a < 4294967296) : step a < 4294967296 := by
  unfold step
  split
  · have h1 : a / 2 < 2 ^ 32 := by omega
    have := Nat.xor_lt_two_pow h1 (show 2197175160 < 2 ^ 32 by decide)
    simpa using this
  · omega
theorem steps_lt (n : Nat) : ∀ a, a < 4294967296 → steps n a < 4294967296 := by
  induction n with
  | zero => intro a h; exact h
  | succ n ih => intro a h; exact ih _ (step_lt a h)
theorem xor_lt (a b : Nat) (ha : a < 4294967296) (hb : b < 4294967296) : a ^^^ b < 4294967296 := by
  have := Nat.xor_lt_two_pow (n := 32) (by simpa using ha) (by simpa using hb)
  simpa using this
theorem byte_lt (r c : Nat) (hr : r < 4294967296) (hc : c < 256) : byte r c < 4294967296 :=
  steps_lt 8 _ (xor_lt r c hr (by omega))
theorem feed_lt (l : List Nat) : ∀ r, r < 4294967296 → (∀ x ∈ l, x < 256) → feed r l < 4294967296 := by
  induction l with
  | nil => intro r h _; exact h
  | cons c l ih =>
    intro r h hl
    exact ih _ (byte_lt r c h (hl c (by simp))) (fun x hx => hl x (by simp [hx]))
theorem cpl_lt (r : Nat) (h : r < 4294967296) : cpl r < 4294967296 := by
  have h1 : (4294967295 : Nat) < 2 ^ 32 := by omega
  have := Nat.xor_lt_two_pow (n := 32) h1 (show r < 2 ^ 32 by omega)
  unfold cpl cplK; omega
theorem more_lt (s : Nat) (l : List Nat) (hs : s < 4294967296) (hl : ∀ x ∈ l, x < 256) : more s l < 4294967296 := by
  unfold more
  exact cpl_lt _ (feed_lt l _ (cpl_lt s hs) hl)
def over : List Nat → List Nat → List Nat
  | a :: l, b :: m => (a ^^^ b) :: over l m
  | _, _ => []
end Go.Proofs.Ytkmbkihfdilmbaa.Crc
namespace Go.Proofs.Ytkmbkihfdilmbaa.Fr
def be4 (v : Nat) : List Nat := [v / 16777216 % 256, v / 65536 % 256, v / 256 % 256, v % 256]
def n4 (l : List Nat) : Nat := l.foldl (fun v x => v * 256 + x) 0
def sum (h p : List Nat) : Nat := Crc.more (Crc.more 0 h) p
def frame (p : List Nat) : List Nat := be4 p.length ++ (be4 (sum (be4 p.length) p) ++ p)
def get (b : List Nat) : List Nat × Nat × Nat :=
  if b.length < 8 then ([], 0, 1)
  else if 65536 < n4 (b.take 4) then ([], 0, 2)
  else if b.length - 8 < n4 (b.take 4) then ([], 0, 1)
  else if n4 ((b.drop 4).take 4) ≠ sum (b.take 4) ((b.drop 8).take (n4 (b.take 4))) then ([], 0, 5)
  else ((b.drop 8).take (n4 (b.take 4)), 8 + n4 (b.take 4), 0)
theorem be4_length (v : Nat) : (be4 v).length = 4 := rfl
theorem be4_lt (v : Nat) : ∀ x ∈ be4 v, x < 256 := by
  intro x hx
  simp only [be4, List.mem_cons, List.not_mem_nil, or_false] at hx
  omega
theorem n4_be4 (v : Nat) (h : v < 4294967296) : n4 (be4 v) = v := by
  simp only [n4, be4, List.foldl_cons, List.foldl_nil]
  omega
theorem four (l : List Nat) (h : l.length = 4) : ∃ a b c d, l = [a, b, c, d] := by
  match l, h with
  | [a, b, c, d], _ => exact ⟨a, b, c, d, rfl⟩
theorem n4_four (a b c d : Nat) : n4 [a, b, c, d] = ((a * 256 + b) * 256 + c) * 256 + d := by simp [n4]
theorem be4_n4 (l : List Nat) (hl : l.length = 4) (h : ∀ x ∈ l, x < 256) : be4 (n4 l) = l := by
  obtain ⟨a, b, c, d, rfl⟩ := four l hl
  rw [n4_four]
  have h1 := h a (by simp)
  have h2 := h b (by simp)
  have h3 := h c (by simp)
  have h4 := h d (by simp)
  unfold be4
  rw [show (((a * 256 + b) * 256 + c) * 256 + d) / 16777216 % 256 = a by omega, show (((a * 256 + b) * 256 + c) * 256 + d) / 65536 % 256 = b by omega,
    show (((a * 256 + b) * 256 + c) * 256 + d) / 256 % 256 = c by omega, show (((a * 256 + b) * 256 + c) * 256 + d) % 256 = d by omega]
theorem sum_lt (h p : List Nat) (hh : ∀ x ∈ h, x < 256) (hp : ∀ x ∈ p, x < 256) : sum h p < 4294967296 := Crc.more_lt _ _ (Crc.more_lt 0 h (by omega) hh) hp
theorem frame_length (p : List Nat) : (frame p).length = 8 + p.length := by
  unfold frame; rw [List.length_append, List.length_append, be4_length, be4_length]; omega
theorem get_parts (h s r : List Nat) (hh : h.length = 4) (hs : s.length = 4) : get (h ++ (s ++ r)) =
    if 65536 < n4 h then ([], 0, 2) else if r.length < n4 h then ([], 0, 1) else if n4 s ≠ sum h (r.take (n4 h)) then ([], 0, 5) else (r.take (n4 h), 8 + n4 h, 0) := by
  have e1 : (h ++ (s ++ r)).take 4 = h := by rw [← hh]; exact List.take_left' rfl
  have e2 : (h ++ (s ++ r)).drop 4 = s ++ r := by rw [← hh]; exact List.drop_left' rfl
  have e3 : (h ++ (s ++ r)).drop 8 = r := by
    rw [show 8 = 4 + 4 from rfl, ← List.drop_drop, e2, ← hs]; exact List.drop_left' rfl
  have e4 : (s ++ r).take 4 = s := by rw [← hs]; exact List.take_left' rfl
  have e5 : (h ++ (s ++ r)).length = 8 + r.length := by rw [List.length_append, List.length_append]; omega
  unfold get
  rw [e1, e2, e3, e4, e5, if_neg (by omega), Nat.add_sub_cancel_left]
theorem get_cases (b : List Nat) : (get b = ([], 0, 1) ∨ get b = ([], 0, 2) ∨ get b = ([], 0, 5)) ∨
    (8 ≤ b.length ∧ n4 (b.take 4) ≤ 65536 ∧ n4 (b.take 4) ≤ b.length - 8 ∧ n4 ((b.drop 4).take 4) = sum (b.take 4) ((b.drop 8).take (n4 (b.take 4))) ∧
      get b = ((b.drop 8).take (n4 (b.take 4)), 8 + n4 (b.take 4), 0)) := by
  unfold get
  split
  · exact .inl (.inl rfl)
  · split
    · exact .inl (.inr (.inl rfl))
    · split
      · exact .inl (.inl rfl)
      · split
        · exact .inl (.inr (.inr rfl))
        · rename_i h1 h2 h3 h4
          exact .inr ⟨by omega, by omega, by omega, Classical.not_not.1 h4, rfl⟩
theorem back (p more : List Nat) (hp : ∀ x ∈ p, x < 256) (hl : p.length ≤ 65536) : get (frame p ++ more) = (p, 8 + p.length, 0) := by
  unfold frame
  rw [List.append_assoc, List.append_assoc, get_parts _ _ _ (be4_length _) (be4_length _), n4_be4 _ (by omega), n4_be4 _ (sum_lt _ _ (be4_lt _) hp),
    if_neg (by omega), if_neg (by rw [List.length_append]; omega), List.take_left' rfl, if_neg (by simp)]
theorem only (b p : List Nat) (n : Nat) (hb : ∀ x ∈ b, x < 256) (h : get b = (p, n, 0)) : n ≤ b.length ∧ p.length ≤ 65536 ∧ frame p = b.take n := by
  rcases get_cases b with (e | e | e) | ⟨h8, h1, h2, h3, e⟩
  · rw [h] at e; injection e with _ e; injection e with _ e; cases e
  · rw [h] at e; injection e with _ e; injection e with _ e; cases e
  · rw [h] at e; injection e with _ e; injection e with _ e; cases e
  · rw [h] at e
    injection e with e1 e
    injection e with e2 _
    have l4 : (b.take 4).length = 4 := by rw [List.length_take]; omega
    have s4 : ∀ x ∈ b.take 4, x < 256 := fun x hx => hb x (List.mem_of_mem_take hx)
    have l8 : ((b.drop 4).take 4).length = 4 := by rw [List.length_take, List.length_drop]; omega
    have s8 : ∀ x ∈ (b.drop 4).take 4, x < 256 := fun x hx => hb x (List.mem_of_mem_drop (List.mem_of_mem_take hx))
    have hpl : p.length = n4 (b.take 4) := by rw [e1, List.length_take, List.length_drop]; omega
    refine ⟨by omega, by omega, ?_⟩
    unfold frame
    rw [hpl, be4_n4 _ l4 s4, e1, ← h3, be4_n4 _ l8 s8, e2]
    have e3 : b.take (8 + n4 (b.take 4)) = b.take 8 ++ (b.drop 8).take (n4 (b.take 4)) := by rw [List.take_add]
    have e4 : b.take 8 = b.take 4 ++ (b.drop 4).take 4 := by rw [show 8 = 4 + 4 from rfl, List.take_add]
    rw [e3, e4, List.append_assoc]
theorem cut (p : List Nat) (k : Nat) (hl : p.length ≤ 65536) (hk : k < 8 + p.length) : get ((frame p).take k) = ([], 0, 1) := by
  have e : ((frame p).take k).length = k := by rw [List.length_take, frame_length]; omega
  by_cases h8 : k < 8
  · unfold get; rw [e, if_pos h8]
  · have e1 : (frame p).take k = be4 p.length ++ (be4 (sum (be4 p.length) p) ++ p.take (k - 8)) := by
      unfold frame
      rw [List.take_append, be4_length, List.take_of_length_le (by rw [be4_length]; omega), List.take_append, be4_length, List.take_of_length_le (by rw [be4_length]; omega), show k - 4 - 4 = k - 8 from by omega]
    rw [e1, get_parts _ _ _ (be4_length _) (be4_length _), n4_be4 _ (by omega), if_neg (by omega), if_pos (by rw [List.length_take]; omega)]
end Go.Proofs.Ytkmbkihfdilmbaa.Fr
namespace Go.Proofs.Ytkmbkihfdilmbaa
open Go.RowKit
def weigh (L : List Rl.En) : Nat := (L.map (fun e => e.d.length)).sum
theorem weigh_take (L : List Rl.En) (k : Nat) (h : k < L.length) : weigh (L.take (k + 1)) = weigh (L.take k) + L[k].d.length := by
  unfold weigh
  rw [List.take_succ_eq_append_getElem h, List.map_append, List.sum_append]; simp
theorem weigh_le (L : List Rl.En) (k : Nat) : weigh (L.take k) ≤ weigh L := by
  conv => rhs; rw [← List.take_append_drop k L]
  unfold weigh
  rw [List.map_append, List.sum_append]; omega
theorem weigh_mem {L : List Rl.En} {e : Rl.En} (h : e ∈ L) : e.d.length ≤ weigh L := by
  induction L with
  | nil => cases h
  | cons a r ih =>
    have e1 : weigh (a :: r) = a.d.length + weigh r := by unfold weigh; simp
    rcases List.mem_cons.1 h with rfl | h
    · omega
    · have := ih h; omega
def big (L : List Rl.En) (n m : Nat) : Bool := decide (n < L.length) || decide (m < weigh L)
set_option maxHeartbeats 800000 in
set_option maxRecDepth 100000 in
theorem big_any (B : Nat) (A : Option Addr) (c n : Nat) (L : List Rl.En) (hn : L.length = n) (p q : Nat) (hp : p ≤ 1000000) (hq : q ≤ 1000000) (w : World) (h : IsEnts w B A L) :
    Calls Try.prog 45 #[.slice A n c, .int .i64 (p : Int), .int .i64 (q : Int)] w fun e w' => e = .returned (.bool (big L p q)) ∧ w' = w := by
  subst hn
  by_cases h0 : p < L.length
  · have e : big L p q = true := by simp [big, h0]
    rw [e]
    have h01 : (p : Int) < (L.length : Int) := by omega
    clear e h0 h
    go_enter Try.func45, Try.ntmps45
    go_wp2
    go_ret
    exact ⟨rfl, rfl⟩
  · have h01 : ¬ (p : Int) < (L.length : Int) := by omega
    have HL := hid h0
    have HH := hid h
    clear h0 h
    go_enter Try.func45, Try.ntmps45
    go_wp2_with fail
    go_loopw [7, 8] (fun s i wr => ∃ k v : Nat, k ≤ L.length ∧ s = .int .i64 v ∧ i = .int .i64 k ∧ v ≤ q ∧ Hid (v = weigh (L.take k)) ∧ wr = w) (fun _ i _ => L.length - (RowKit.intOf i).toNat)
    case atStart => exact ⟨0, 0, by omega, rfl, rfl, by omega, hid rfl, rfl⟩
    case round =>
      obtain ⟨k, v, hk, rfl, rfl, hv, hS, rfl⟩ := hrel
      by_cases hlt : k < L.length
      · obtain ⟨b, off, rfl, _, hc⟩ := HH.out.cells k hlt
        obtain ⟨Ad, cd, d0, d1, d2, hd, hd2, _⟩ := hc k hlt
        have hk0 : (k : Int) < (L.length : Int) := by omega
        have hw := weigh_take L k hlt
        have hw2 := weigh_le L (k + 1)
        have hw3 := hS.out
        obtain ⟨m, hm⟩ : ∃ m, m = L[k].d.length := ⟨_, rfl⟩
        rw [← hm] at d2 hw
        have HM := hid (And.intro hw (And.intro hw2 hw3))
        clear hc d0 d1 hd hd2 hw hw2 hw3 hm
        by_cases hmq : m ≤ q + 1
        · have hmq0 : (m : Int) ≤ (q : Int) + 1 := by omega
          by_cases hb : q < v + m
          · have HE : Hid (big L p q = true) := hid (by
              obtain ⟨hw, hw2, hw3⟩ := HM.out
              unfold big; rw [Bool.or_eq_true, decide_eq_true_iff, decide_eq_true_iff]; right; omega)
            have hb0 : (q : Int) < (v : Int) + (m : Int) := by omega
            go_wp2_with fail
            go_ret
            rw [HE.out]
            exact ⟨rfl, rfl⟩
          · have HV : Hid (v + m = weigh (L.take (k + 1))) := hid (by obtain ⟨hw, hw2, hw3⟩ := HM.out; omega)
            have hb0 : ¬ (q : Int) < (v : Int) + (m : Int) := by omega
            go_wp2_with fail
            go_roundw
            case rel => exact ⟨k + 1, v + m, by omega, by go_num, by go_num, by omega, HV, trivial⟩
            case measure => simp [RowKit.intOf]; omega
        · have hmq0 : ¬ (m : Int) ≤ (q : Int) + 1 := by omega
          have HE : Hid (big L p q = true) := hid (by
            obtain ⟨hw, hw2, hw3⟩ := HM.out
            unfold big; rw [Bool.or_eq_true, decide_eq_true_iff, decide_eq_true_iff]; right; omega)
          go_wp2_with fail
          go_ret
          rw [HE.out]
          exact ⟨rfl, rfl⟩
      · obtain rfl : k = L.length := by omega
        have HE : Hid (big L p q = false) := hid (by
          have e := hS.out
          rw [List.take_length] at e
          have := HL.out
          unfold big; rw [Bool.or_eq_false_iff, decide_eq_false_iff_not, decide_eq_false_iff_not]; omega)
        clear hS
        go_wp2_with fail
        go_ret
        rw [HE.out]
        exact ⟨rfl, rfl⟩
end Go.Proofs.Ytkmbkihfdilmbaa
namespace Go.Proofs.Ytkmbkihfdilmbaa.Ms
open Rl (En)
structure M where
  K : Int
  F : Int
  T : Int
  g : Int
  t : Int
  i : Int
  p : Int
  c : Int
  r : Int
  x : Int
  a : Int
  b : Int
  v : Int
  s : Int
  ok : Bool
  es : List En
  d : List Nat
deriving DecidableEq
def M0 : M := ⟨0, 0, 0, 0, 0, 0, 0, 0, 0, 0, 0, 0, 0, 0, false, [], []⟩
def tab : Nat → List Nat
  | 1 => [103, 116, 105, 112]
  | 2 => [103, 116, 111]
  | 3 => [103, 116, 105, 112, 99, 114, 101]
  | 4 => [103, 116, 111, 105, 114]
  | 5 => [103, 116, 105, 112, 114, 100]
  | 6 => [103, 115, 100]
  | 7 => [103, 115, 111, 105, 100]
  | 8 => [120, 97, 98]
  | 9 => [120, 97, 98, 111, 105, 118]
  | 10 => [120, 97, 98, 118]
  | 11 => [120, 97, 98, 111, 105, 118]
  | _ => []
def head : List Nat := [75, 70, 84]
def all : List Nat := [103, 116, 105, 112, 99, 114, 120, 97, 98, 118, 115, 111, 101, 100]
def nums : List Nat := [75, 70, 84, 103, 116, 105, 112, 99, 114, 120, 97, 98, 118, 115]
def isNum (r : Nat) : Bool := nums.contains r
def M.num (m : M) (r : Nat) : Int :=
  if r = 75 then m.K else if r = 70 then m.F else if r = 84 then m.T else if r = 103 then m.g else if r = 116 then m.t else if r = 105 then m.i else if r = 112 then m.p else if r = 99 then m.c else
  if r = 114 then m.r else if r = 120 then m.x else if r = 97 then m.a else if r = 98 then m.b else if r = 118 then m.v else if r = 115 then m.s else 0
def M.set (m : M) (r : Nat) (n : Int) : M :=
  if r = 75 then { m with K := n } else if r = 70 then { m with F := n } else if r = 84 then { m with T := n } else if r = 103 then { m with g := n } else if r = 116 then { m with t := n } else
  if r = 105 then { m with i := n } else if r = 112 then { m with p := n } else if r = 99 then { m with c := n } else if r = 114 then { m with r := n } else if r = 120 then { m with x := n } else
  if r = 97 then { m with a := n } else if r = 98 then { m with b := n } else if r = 118 then { m with v := n } else if r = 115 then { m with s := n } else m
def M.kind (m : M) : Nat := m.K.toNat
def M.isKind (m : M) : Bool := decide (1 ≤ m.K) && decide (m.K ≤ 11)
def M.blank (m : M) (r : Nat) : Bool :=
  if r = 111 then !m.ok else if r = 101 then decide (m.es.length = 0) else if r = 100 then decide (m.d.length = 0) else decide (m.num r = 0)
def least (r : Nat) : Int := if r = 70 ∨ r = 84 ∨ r = 120 ∨ r = 97 then 1 else 0
def most (r : Nat) : Int := if r = 70 ∨ r = 84 then 199 else if r = 103 ∨ r = 97 then 4 else if r = 118 then 2 else 1099511627776
def within (v : Int) (r : Nat) : Bool := decide (least r ≤ v) && decide (v ≤ most r)
def M.foreign (m : M) : Bool := all.any fun r => !(tab m.kind).contains r && !m.blank r
def enOk (e : En) : Bool := within e.t 116 && (decide (0 ≤ e.k) && decide (e.k ≤ 2))
def M.fine (m : M) (r : Nat) : Bool := !isNum r || within (m.num r) r
def M.inRange (m : M) : Bool := (head ++ tab m.kind).all m.fine && m.es.all enOk
def M.size (m : M) : Nat := 8 * (head ++ tab m.kind).length + (24 * m.es.length + weigh m.es) + m.d.length
def check (m : M) : Nat :=
  if m.isKind = false then 13 else if m.foreign = true then 14 else if m.inRange = false then 3 else if 1024 < m.es.length ∨ 65536 < m.size then 2 else 0
def encE (e : En) : List Nat := Pk.enc e.t ++ (Pk.enc e.k ++ (Pk.enc e.d.length ++ e.d))
def M.encF (m : M) (r : Nat) : List Nat :=
  if r = 111 then Pk.enc (if m.ok = true then 1 else 0) else if r = 101 then Pk.enc m.es.length ++ m.es.flatMap encE else if r = 100 then Pk.enc m.d.length ++ m.d else Pk.enc (m.num r)
def M.enc (m : M) : List Nat := (head ++ tab m.kind).flatMap m.encF
def put (m : M) : List Nat × Nat := if check m = 0 then (Fr.frame m.enc, 0) else ([], check m)
def rdE (s : Pk.St) : En × Pk.St := (⟨(Pk.rdInt s).1, (Pk.rdInt (Pk.rdInt s).2).1, (Pk.rdBlob (Pk.rdInt (Pk.rdInt s).2).2).1⟩, (Pk.rdBlob (Pk.rdInt (Pk.rdInt s).2).2).2)
def rdEs : Nat → Pk.St → List En × Pk.St
  | 0, s => ([], s)
  | n + 1, s => ((rdE s).1 :: (rdEs n (rdE s).2).1, (rdEs n (rdE s).2).2)
def rdF (m : M) (s : Pk.St) (r : Nat) : Option (M × Pk.St) :=
  if r = 111 then (if (Pk.rdInt s).1 = 0 ∨ (Pk.rdInt s).1 = 1 then some ({ m with ok := decide ((Pk.rdInt s).1 = 1) }, (Pk.rdInt s).2) else none)
  else if r = 101 then (if (Pk.rdInt s).1 < 0 ∨ (((Pk.rdInt s).2.rest.length / 24 : Nat) : Int) < (Pk.rdInt s).1 then none
    else some ({ m with es := m.es ++ (rdEs (Pk.rdInt s).1.toNat (Pk.rdInt s).2).1 }, (rdEs (Pk.rdInt s).1.toNat (Pk.rdInt s).2).2))
  else if r = 100 then some ({ m with d := (Pk.rdBlob s).1 }, (Pk.rdBlob s).2)
  else some (m.set r (Pk.rdInt s).1, (Pk.rdInt s).2)
def rdFs : List Nat → M → Pk.St → Option (M × Pk.St)
  | [], m, s => some (m, s)
  | r :: l, m, s => match rdF m s r with
    | none => none
    | some (m', s') => rdFs l m' s'
def head3 (p : List Nat) : M × Pk.St :=
  let s0 : Pk.St := ⟨p, false⟩
  let s1 := (Pk.rdInt s0).2
  let s2 := (Pk.rdInt s1).2
  ({ M0 with K := (Pk.rdInt s0).1, F := (Pk.rdInt s1).1, T := (Pk.rdInt s2).1 }, (Pk.rdInt s2).2)
def over (s : Pk.St) : Bool := !s.bad && decide (s.rest.length = 0)
def body (p : List Nat) : Option M :=
  match rdFs (tab (head3 p).1.kind) (head3 p).1 (head3 p).2 with
  | none => none
  | some (m, s) => if over s = true then some m else none
def dec (p : List Nat) : M × Nat :=
  if (head3 p).2.bad = true then (M0, 4) else if (head3 p).1.isKind = false then (M0, 13) else
  match body p with
  | none => (M0, 4)
  | some m => (m, 0)
def checked (x : M × Nat) : M × Nat := if x.2 ≠ 0 then (M0, x.2) else if check x.1 ≠ 0 then (M0, check x.1) else (x.1, 0)
def get (b : List Nat) : M × Nat :=
  if (Fr.get b).2.2 ≠ 0 then (M0, (Fr.get b).2.2) else if (Fr.get b).2.1 < b.length then (M0, 2) else checked (dec (Fr.get b).1)
end Go.Proofs.Ytkmbkihfdilmbaa.Ms
namespace Go.Proofs.Ytkmbkihfdilmbaa.Ms
open Go.RowKit
set_option maxRecDepth 100000
end Go.Proofs.Ytkmbkihfdilmbaa.Ms
namespace Go.Proofs.Ytkmbkihfdilmbaa.Ms
open Go.RowKit
set_option maxRecDepth 100000
def strOf (l : List Nat) : ByteArray := ⟨(l.map Nat.toUInt8).toArray⟩
end Go.Proofs.Ytkmbkihfdilmbaa.Ms
namespace Go.Proofs.Ytkmbkihfdilmbaa
open Go.RowKit
def Reads (w : World) (B : Nat) (M : List El) : Prop := ∀ q ∈ M, IsBytes w B q.A q.e.d ∧ (q.e.d.length ≤ q.c ∧ q.c ≤ maxLen) ∧ (q.A = none → q.c = 0)
theorem IsEnts.flat {w : World} {B : Nat} {A : Option Addr} {L : List Rl.En} (h : IsEnts w B A L) : ∃ M : List El, M.map (·.e) = L ∧ Reads w B M ∧ ∀ ad, A = some ad → ∀ j u, (M.flatMap cellsE)[j]? = some u → w.cell? (ad.add j) = some u := by
  have hq : ∀ i : Fin L.length, ∃ q : El, q.e = L[i] ∧ (IsBytes w B q.A q.e.d ∧ (q.e.d.length ≤ q.c ∧ q.c ≤ maxLen) ∧ (q.A = none → q.c = 0)) ∧ ∀ ad, A = some ad → ∀ k, k < 3 → w.cell? (ad.add (i.1 * 3 + k)) = (cellsE q)[k]? := by
    intro i
    obtain ⟨b, off, rfl, _, hc⟩ := h.cells i.1 i.2
    obtain ⟨A1, c1, d0, d1, d2, d3, d4, d5⟩ := hc i.1 i.2
    refine ⟨⟨L[i], A1, c1⟩, rfl, ⟨d3, d4, d5⟩, fun ad he k hk => ?_⟩
    injection he with he
    subst he
    rw [add_off, ← Nat.add_assoc]
    match k, hk with
    | 0, _ => exact d0
    | 1, _ => exact d1
    | 2, _ => exact d2
  refine ⟨List.ofFn (fun i => (hq i).choose), ?_, ?_, ?_⟩
  · apply List.ext_getElem
    · simp
    · intro i h1 h2
      rw [List.getElem_map, List.getElem_ofFn]
      exact (hq ⟨i, h2⟩).choose_spec.1
  · intro q hm
    obtain ⟨i, rfl⟩ := List.mem_ofFn.1 hm
    exact (hq i).choose_spec.2.1
  · intro ad he j u hu
    have hlt := (List.getElem?_eq_some_iff.1 hu).1
    rw [flat_len cellsE 3 (fun _ => rfl)] at hlt
    have hj : j / 3 < (List.ofFn (fun i => (hq i).choose)).length := by omega
    have e := flat_get cellsE 3 (fun _ => rfl) _ (j / 3) hj (j % 3) (by omega)
    rw [show j / 3 * 3 + j % 3 = j by omega, hu, List.getElem_ofFn] at e
    have := (hq ⟨j / 3, by simpa using hj⟩).choose_spec.2.2 ad he (j % 3) (by omega)
    rw [show j / 3 * 3 + j % 3 = j by omega] at this
    rw [this, ← e]
theorem Reads.below {w w' : World} {B : Nat} {M : List El} (h : Reads w B M) (hb : Below B w w') : Reads w' B M := fun q hq => ⟨(h q hq).1.below hb, (h q hq).2⟩
theorem isEnts_row {w : World} {B B' : Nat} {F : Nat → Prop} {A : Option Addr} {c : Nat} {M : List El} (hrow : RowIn cellsE 3 64 w F A c M) (hr : Reads w B M) (hB : B ≤ B') (hF : ∀ k, F k → k < w.heap.size → k < B') (hn : ∀ q ∈ M, InInt q.e.t ∧ InInt q.e.k) : IsEnts w B' A (M.map (·.e)) := ⟨fun e he => by
  obtain ⟨q, hq, rfl⟩ := List.mem_map.1 he
  exact hn q hq, fun k hk => by
  rw [List.length_map] at hk
  obtain ⟨g, hA, hg, hFg, _, _⟩ := hrow.get k hk
  refine ⟨g, 0, hA, hF g hFg hg, fun i hi => ?_⟩
  rw [List.length_map] at hi
  obtain ⟨g', hA', _, _, hc, _⟩ := hrow.get i hi
  obtain rfl : g = g' := by rw [hA] at hA'; injection hA' with e; injection e
  have ho := hr M[i] (List.getElem_mem hi)
  rw [List.getElem_map, Nat.zero_add]
  exact ⟨M[i].A, M[i].c, hc 0 (by omega), hc 1 (by omega), hc 2 (by omega), ho.1.more hB, ho.2⟩⟩
def SharE (w : World) (B lo : Nat) (A : Option Addr) (c : Nat) (L : List Rl.En) : Prop :=
  ∃ M : List El, M.map (·.e) = L ∧ RowIn cellsE 3 64 w (fun k => lo ≤ k) A c M ∧ Reads w B M ∧ ∀ q ∈ M, InInt q.e.t ∧ InInt q.e.k
namespace SharE
variable {w w' : World} {B lo : Nat} {A : Option Addr} {c : Nat} {L : List Rl.En}
theorem nil (w : World) (B lo : Nat) : SharE w B lo none 0 [] := ⟨[], rfl, RowIn.nil (f := cellsE) (fun _ => rfl) _ _ _, fun q hq => by simp at hq, by simp⟩
theorem reads (h : SharE w B lo A c L) (hB : B ≤ w.heap.size) : IsEnts w w.heap.size A L := by
  obtain ⟨M, h1, h2, h3, h4⟩ := h
  rw [← h1]
  exact isEnts_row h2 h3 hB (fun k _ hk => hk) h4
theorem keep {S : Nat → Prop} (h : SharE w B lo A c L) (ht : Turned S w w') (hB : B ≤ w.heap.size) (hs : ∀ k, S k → B ≤ k ∧ k < lo) : SharE w' B lo A c L := by
  obtain ⟨M, h1, h2, h3, h4⟩ := h
  exact ⟨M, h1, h2.keep ht (fun k hk hS => by have := h2.blk k hk; have := (hs k hS).2; omega), h3.below (ht.below hB (fun k hk => (hs k hk).1)), h4⟩
theorem below (h : SharE w B lo A c L) (hb : Below w.heap.size w w') (hB : B ≤ w.heap.size) : SharE w' B lo A c L := h.keep (S := fun _ => False) (Turned.ofBelow _ hb) hB (fun _ h => h.elim)
theorem room (h : SharE w B lo A c L) : L.length ≤ c ∧ c ≤ maxLen := by
  obtain ⟨M, h1, h2⟩ := h; rw [← h1, List.length_map]; exact ⟨h2.1.cap, h2.1.capLe⟩
theorem none_ (h : SharE w B lo A c L) : A = none → c = 0 := by
  obtain ⟨M, h1, h2⟩ := h; exact h2.1.none_
end SharE
end Go.Proofs.Ytkmbkihfdilmbaa
namespace Go.Proofs.Ytkmbkihfdilmbaa.Ms
open Go.RowKit
set_option maxRecDepth 100000
def Tab (w : World) : Prop := ∀ k, k < 12 → w.cell? ⟨0, k, none⟩ = some (.string (strOf (tab k)))
theorem Tab.below {w w' : World} {B : Nat} (h : Tab w) (hb : Below B w w') (hB : 0 < B) : Tab w' := fun k hk => (hb.cell hB).trans (h k hk)
theorem Tab.pos {w : World} (h : Tab w) : 0 < w.heap.size := World.block_lt_of_cell? _ _ (h 0 (by decide))
structure Is (w : World) (B : Nat) (m : M) (A : Option Addr) (c : Nat) (A' : Option Addr) (c' : Nat) : Prop where
  num : ∀ r ∈ nums, InInt (m.num r)
  es : IsEnts w B A m.es
  ec : m.es.length ≤ c ∧ c ≤ maxLen
  en : A = none → c = 0
  d : IsBytes w B A' m.d
  dc : m.d.length ≤ c' ∧ c' ≤ maxLen
  dn : A' = none → c' = 0
theorem Is.below {w w' : World} {B : Nat} {m : M} {A A' : Option Addr} {c c' : Nat} (h : Is w B m A c A' c') (hb : Below B w w') : Is w' B m A c A' c' := ⟨h.num, h.es.below hb, h.ec, h.en, h.d.below hb, h.dc, h.dn⟩
theorem Is.more {w : World} {B B' : Nat} {m : M} {A A' : Option Addr} {c c' : Nat} (h : Is w B m A c A' c') (hB : B ≤ B') : Is w B' m A c A' c' := ⟨h.num, h.es.more hB, h.ec, h.en, h.d.more hB, h.dc, h.dn⟩
end Go.Proofs.Ytkmbkihfdilmbaa.Ms
namespace Go.Proofs.Ytkmbkihfdilmbaa.Vo
open Go Go.RowKit
open Rl (En Lg)
open Ms (M)
set_option maxRecDepth 100000
set_option linter.unusedVariables false
end Go.Proofs.Ytkmbkihfdilmbaa.Vo
namespace Go.Proofs.Ytkmbkihfdilmbaa.Vo
open Go Go.RowKit
open Rl (En Lg)
open Ms (M)
set_option maxRecDepth 100000
set_option linter.unusedVariables false
theorem boxes (w : World) (x y : Array Value) (s t : TypeId) : Below w.heap.size w ((w.alloc (.cells x s)).alloc (.cells y t)) ∧ ((w.alloc (.cells x s)).alloc (.cells y t)).heap.size = w.heap.size + 2 :=
  ⟨((Below.refl _ w).alloc (Nat.le_refl _) _).alloc (by simp) _, by simp⟩
end Go.Proofs.Ytkmbkihfdilmbaa.Vo
namespace Go.Proofs.Ytkmbkihfdilmbaa
namespace Qu
structure Cf where
  old : List Int
  new : List Int
  lrn : List Int
deriving DecidableEq
def maj (l : List Int) (p : Int → Bool) : Bool := decide (l.length / 2 < l.countP p)
def quo (c : Cf) (p : Int → Bool) : Bool := maj c.old p && (c.new.isEmpty || maj c.new p)
def node (l : List Int) : Bool := decide (l.Pairwise (· < ·) ∧ ∀ x ∈ l, 1 ≤ x ∧ x ≤ 7)
def ok (c : Cf) : Bool := !c.old.isEmpty && node c.old && node c.new && node c.lrn && decide (∀ x ∈ c.lrn, ¬ (x ∈ c.old ∨ x ∈ c.new))
def last (l : List Int) (k : Nat) : Int := (l.take k).getLast?.getD 0
def reach (ps : List (Int × Int)) (v x : Int) : Bool := ps.any fun p => decide (p.1 = x ∧ v ≤ p.2)
def Agr (c : Cf) (ps : List (Int × Int)) (r : Int) : Prop :=
  0 ≤ r ∧ (0 < r → quo c (reach ps r) = true ∧ ∃ p ∈ ps, p.2 = r) ∧ ∀ p ∈ ps, 0 < p.2 → quo c (reach ps p.2) = true → p.2 ≤ r
theorem Agr.le {c : Cf} {ps : List (Int × Int)} {r s : Int} (h1 : Agr c ps r) (h2 : Agr c ps s) : r ≤ s := by
  by_cases h : 0 < r
  · obtain ⟨hq, p, hp, e⟩ := h1.2.1 h
    subst e
    exact h2.2.2 p hp h hq
  · have := h2.1; omega
end Qu
end Go.Proofs.Ytkmbkihfdilmbaa
namespace Go.Proofs.Ytkmbkihfdilmbaa
open Go.RowKit
end Go.Proofs.Ytkmbkihfdilmbaa
namespace Go.Proofs.Ytkmbkihfdilmbaa
open Go.RowKit
structure CIs (w : World) (B : Nat) (c : Qu.Cf) (a0 a1 a2 : Option Addr) (k0 k1 k2 : Nat) : Prop where
  o : IsInts w B a0 c.old
  n : IsInts w B a1 c.new
  l : IsInts w B a2 c.lrn
  zo : a0 = none → k0 = 0
  zn : a1 = none → k1 = 0
  zl : a2 = none → k2 = 0
  co : c.old.length ≤ k0 ∧ k0 ≤ maxLen
  cn : c.new.length ≤ k1 ∧ k1 ≤ maxLen
  cl : c.lrn.length ≤ k2 ∧ k2 ≤ maxLen
namespace CIs
variable {w w' : World} {B B' : Nat} {c : Qu.Cf} {a0 a1 a2 : Option Addr} {k0 k1 k2 : Nat}
theorem below (h : CIs w B c a0 a1 a2 k0 k1 k2) (hb : Below B w w') : CIs w' B c a0 a1 a2 k0 k1 k2 := ⟨h.o.below hb, h.n.below hb, h.l.below hb, h.zo, h.zn, h.zl, h.co, h.cn, h.cl⟩
theorem more (h : CIs w B c a0 a1 a2 k0 k1 k2) (hB : B ≤ B') : CIs w B' c a0 a1 a2 k0 k1 k2 := ⟨h.o.more hB, h.n.more hB, h.l.more hB, h.zo, h.zn, h.zl, h.co, h.cn, h.cl⟩
theorem drewN (h : CIs w B c a0 a1 a2 k0 k1 k2) (j : Nat) : CIs (w.drewN j) B c a0 a1 a2 k0 k1 k2 := ⟨h.o.drewN j, h.n.drewN j, h.l.drewN j, h.zo, h.zn, h.zl, h.co, h.cn, h.cl⟩
end CIs
def Short (c : Qu.Cf) : Prop := c.old.length ≤ 20000 ∧ c.new.length ≤ 20000 ∧ c.lrn.length ≤ 20000
end Go.Proofs.Ytkmbkihfdilmbaa
namespace Go.Proofs.Ytkmbkihfdilmbaa.I
open Go.RowKit
theorem info_int : (Try.prog.info? 3).map (fun i => (i.zero, i.size, i.bytes)) = some (some (.int .i64 0), 1, 8) := by kernel_rfl
end Go.Proofs.Ytkmbkihfdilmbaa.I
namespace Go.Proofs.Ytkmbkihfdilmbaa
open Go.RowKit
end Go.Proofs.Ytkmbkihfdilmbaa
namespace Go.Proofs.Ytkmbkihfdilmbaa
open Go.RowKit Go.Maps Go.Sort Go.Shelf
end Go.Proofs.Ytkmbkihfdilmbaa
namespace Go.Proofs.Ytkmbkihfdilmbaa
open Go.RowKit Go.Maps Go.Sort Go.Shelf
end Go.Proofs.Ytkmbkihfdilmbaa
namespace Go.Proofs.Ytkmbkihfdilmbaa
open Go.RowKit
structure IRows (w : World) (B b : Nat) (L : List (List Int)) : Prop where
  at_ : ∀ i (h : i < L.length), ∃ a k, w.cell? ⟨b, i, none⟩ = some (.slice a L[i].length k) ∧ IsInts w B a L[i] ∧ (a = none → k = 0)
end Go.Proofs.Ytkmbkihfdilmbaa
namespace Go.Proofs.Ytkmbkihfdilmbaa
open Go.RowKit
set_option maxRecDepth 100000
end Go.Proofs.Ytkmbkihfdilmbaa
namespace Go.Proofs.Ytkmbkihfdilmbaa
open Go.RowKit
end Go.Proofs.Ytkmbkihfdilmbaa
namespace Go.Proofs.Ytkmbkihfdilmbaa.I
open Go.RowKit
end Go.Proofs.Ytkmbkihfdilmbaa.I
namespace Go.Proofs.Ytkmbkihfdilmbaa
open Go.RowKit
namespace Qu
end Qu
end Go.Proofs.Ytkmbkihfdilmbaa
namespace Go.Proofs.Ytkmbkihfdilmbaa
open Go.RowKit
end Go.Proofs.Ytkmbkihfdilmbaa
namespace Go.Proofs.Ytkmbkihfdilmbaa.Vo
open Go Go.RowKit
open Rl (En Lg)
set_option maxRecDepth 100000
set_option linter.unusedVariables false
theorem info_msg : (Try.prog.info? 31).map (fun i => (i.zero, i.size, i.bytes)) = some (some (.agg #[.int .i64 0, .int .i64 0, .int .i64 0, .int .i64 0, .int .i64 0, .int .i64 0, .int .i64 0, .int .i64 0, .int .i64 0, .int .i64 0, .int .i64 0, .int .i64 0, .int .i64 0, .int .i64 0, .bool false, .slice none 0 0, .slice none 0 0]), 17, 168) := by kernel_rfl
end Go.Proofs.Ytkmbkihfdilmbaa.Vo
namespace Go.Proofs.Ytkmbkihfdilmbaa.Vo
open Go Go.RowKit
open Rl (En Lg)
set_option maxRecDepth 100000
set_option linter.unusedVariables false
end Go.Proofs.Ytkmbkihfdilmbaa.Vo
namespace Go.Proofs.Ytkmbkihfdilmbaa.Im
open Rl (En Lg)
open Qu (Cf)
open Pk (St rdInt rdBlob rdInts enc encs)
set_option linter.unusedVariables false
def InI (v : Int) : Prop := -9223372036854775808 ≤ v ∧ v ≤ 9223372036854775807
structure Codec {α : Type} (N : Nat) (one : St → α × St) (en : α → List Nat) (ok : α → Prop) : Prop where
  back : ∀ x t, ok x → one ⟨en x ++ t, false⟩ = (x, ⟨t, false⟩)
  cut : ∀ x n, ok x → n < (en x).length → (one ⟨(en x).take n, false⟩).2 = Pk.gone
  gone : (one Pk.gone).2 = Pk.gone
  only : ∀ s, s.small → (one s).2.bad = false → s.rest = en (one s).1 ++ (one s).2.rest ∧ s.bad = false
  small : ∀ s, s.small → (one s).2.small
  sok : ∀ s, s.ok → (one s).2.ok
  short : ∀ s, (one s).2.rest.length ≤ s.rest.length
  good : ∀ s, s.small → s.rest.length ≤ N → ok (one s).1
  tiny : ∀ x, ok x → ∀ y ∈ en x, y < 256
  eight : ∀ x, 8 ≤ (en x).length
def rdP {α β : Type} (f : St → α × St) (g : St → β × St) (s : St) : (α × β) × St := (((f s).1, (g (f s).2).1), (g (f s).2).2)
def rdM {α β : Type} (h : α → β) (f : St → α × St) (s : St) : β × St := (h (f s).1, (f s).2)
def rdN {α : Type} (one : St → α × St) : Nat → St → List α × St
  | 0, s => ([], s)
  | n + 1, s => if s.bad = true then ([], s) else ((one s).1 :: (rdN one n (one s).2).1, (rdN one n (one s).2).2)
def rdL {α : Type} (one : St → α × St) (s : St) : List α × St :=
  if (rdInt s).1 < 0 ∨ (((rdInt s).2.rest.length / 8 : Nat) : Int) < (rdInt s).1 then ([], Pk.gone) else rdN one (rdInt s).1.toNat (rdInt s).2
def encL {α : Type} (one : α → List Nat) (l : List α) : List Nat := enc l.length ++ l.flatMap one
def encB (d : List Nat) : List Nat := enc d.length ++ d
def encI (l : List Int) : List Nat := enc l.length ++ encs l
theorem take_app (a b : List Nat) (n : Nat) (h : a.length ≤ n) : (a ++ b).take n = a ++ b.take (n - a.length) := by
  rw [List.take_append, List.take_of_length_le h]
theorem take_app_lt (a b : List Nat) (n : Nat) (h : n < a.length) : (a ++ b).take n = a.take n := by
  rw [List.take_append, show n - a.length = 0 by omega]; simp
theorem enc_sgn (l : List Nat) (h : l.length = 8) (hs : ∀ x ∈ l, x < 256) : enc (Pk.sgn (Pk.num l)) = l := by
  have h1 : Pk.num l < 18446744073709551616 := by
    have := Pk.num_lt l hs
    rw [h] at this
    exact this
  match l, h, hs with
  | [a, b, c, d, e, f, g, i], _, hs =>
    have ha := hs a (by simp)
    have hb := hs b (by simp)
    have hc := hs c (by simp)
    have hd := hs d (by simp)
    have he := hs e (by simp)
    have hf := hs f (by simp)
    have hg := hs g (by simp)
    have hi := hs i (by simp)
    have hn : Pk.num [a, b, c, d, e, f, g, i] = ((((((a * 256 + b) * 256 + c) * 256 + d) * 256 + e) * 256 + f) * 256 + g) * 256 + i := by simp [Pk.num]
    rw [hn] at h1 ⊢
    unfold Pk.sgn Pk.enc Pk.byteOf
    simp only [List.cons.injEq, and_true]
    refine ⟨?_, ?_, ?_, ?_, ?_, ?_, ?_, ?_⟩ <;> (split <;> omega)
theorem rdInt_only (s : St) (hs : s.small) (hb : (rdInt s).2.bad = false) : s.rest = enc (rdInt s).1 ++ (rdInt s).2.rest ∧ s.bad = false := by
  unfold rdInt at hb ⊢
  split at hb
  · cases hb
  · rename_i h
    rw [if_neg h]
    refine ⟨?_, hb⟩
    show s.rest = enc (Pk.sgn (Pk.num (s.rest.take 8))) ++ s.rest.drop 8
    rw [enc_sgn _ (by rw [List.length_take]; omega) (fun x hx => hs x (List.mem_of_mem_take hx)), List.take_append_drop]
theorem rdInt_cut (v : Int) (n : Nat) (h : n < 8) : rdInt ⟨(enc v).take n, false⟩ = (0, Pk.gone) := by
  unfold rdInt; rw [if_pos (by simp only [List.length_take, Pk.enc_length]; omega)]
theorem Codec.int (N : Nat) : Codec N rdInt enc InI where
  back := fun x t hx => Pk.rdInt_enc x t false hx
  cut := fun x n _ hn => by rw [rdInt_cut x n (by rw [Pk.enc_length] at hn; exact hn)]
  gone := rfl
  only := rdInt_only
  small := Pk.rdInt_small
  sok := Pk.rdInt_ok
  short := Pk.rdInt_short
  good := fun s hs _ => Pk.rdInt_in s hs
  tiny := fun x _ => Pk.enc_small x
  eight := fun x => by rw [Pk.enc_length]; exact Nat.le_refl _
theorem well_of {s : St} {P : Prop} (h : ¬ (s.bad = true ∨ P)) : s.bad = false := by
  rcases hh : s.bad with _ | _
  · rfl
  · exact absurd (Or.inl hh) h
theorem Codec.blob (N : Nat) (hN : N ≤ 1000000000000) : Codec N rdBlob encB (fun d => (∀ x ∈ d, x < 256) ∧ d.length ≤ N) where
  back := fun l t ⟨_, h⟩ => by
    have e := Pk.rdInt_enc (l.length : Int) (l ++ t) false ⟨by omega, by omega⟩
    unfold rdBlob encB
    rw [List.append_assoc, e, if_neg (by simp; omega)]
    simp
  cut := fun l n ⟨_, h⟩ hn => by
    unfold encB at hn ⊢
    rw [List.length_append, Pk.enc_length] at hn
    by_cases h8 : n < 8
    · rw [take_app_lt _ _ _ (by rw [Pk.enc_length]; exact h8)]
      unfold rdBlob
      rw [rdInt_cut _ _ h8]; rfl
    · rw [take_app _ _ _ (by rw [Pk.enc_length]; omega)]
      have e := Pk.rdInt_enc (l.length : Int) (l.take (n - (enc (l.length : Int)).length)) false ⟨by omega, by omega⟩
      unfold rdBlob
      rw [e, if_pos (Or.inr (Or.inr (by simp only [List.length_take, Pk.enc_length]; omega)))]
  gone := rfl
  only := fun s hs hb => by
    have h1 := Pk.rdInt_small s hs
    unfold rdBlob at hb ⊢
    split at hb
    · cases hb
    · rename_i h
      rw [if_neg h]
      obtain ⟨h2, h3⟩ := rdInt_only s hs (well_of h)
      refine ⟨?_, h3⟩
      have hl : ((((rdInt s).2.rest.take (rdInt s).1.toNat).length : Nat) : Int) = (rdInt s).1 := by rw [List.length_take]; omega
      show s.rest = (enc ((((rdInt s).2.rest.take (rdInt s).1.toNat).length : Nat) : Int) ++ (rdInt s).2.rest.take (rdInt s).1.toNat) ++ (rdInt s).2.rest.drop (rdInt s).1.toNat
      rw [hl, List.append_assoc, List.take_append_drop]; exact h2
  small := fun s hs => (Pk.rdBlob_small s hs).1
  sok := fun s _ => Pk.rdBlob_ok s
  short := fun s => (Pk.rdBlob_short s).1
  good := fun s hs hl => ⟨(Pk.rdBlob_small s hs).2, Nat.le_trans (Pk.rdBlob_short s).2 hl⟩
  tiny := fun l ⟨h, _⟩ y hy => by
    unfold encB at hy
    rcases List.mem_append.1 hy with hy | hy
    · exact Pk.enc_small _ y hy
    · exact h y hy
  eight := fun l => by unfold encB; rw [List.length_append, Pk.enc_length]; omega
theorem encs_nums : ∀ (n : Nat) (l : List Nat), (∀ x ∈ l, x < 256) → 8 * n ≤ l.length → encs (Pk.nums n l) = l.take (8 * n) := by
  intro n
  induction n with
  | zero => intro l _ _; rfl
  | succ n ih =>
    intro l hs hl
    rw [Pk.nums_snoc, Pk.encs_snoc, ih l hs (by omega), enc_sgn _ (by rw [List.length_take, List.length_drop]; omega) (fun x hx => hs x (List.mem_of_mem_drop (List.mem_of_mem_take hx)))]
    rw [show 8 * (n + 1) = 8 * n + 8 by omega, List.take_add]
theorem Codec.ints (N : Nat) (hN : N ≤ 1000000000000) : Codec N rdInts encI (fun l => (∀ v ∈ l, InI v) ∧ l.length ≤ N) where
  back := fun l t ⟨hv, h⟩ => by
    have e := Pk.rdInt_enc (l.length : Int) (encs l ++ t) false ⟨by omega, by omega⟩
    have el := Pk.encs_length l
    unfold rdInts encI
    rw [List.append_assoc, e, if_neg (by simp [el]; omega)]
    simp only [Int.toNat_natCast]
    rw [Pk.nums_encs l t hv, List.drop_left' el]
  cut := fun l n ⟨_, h⟩ hn => by
    have el := Pk.encs_length l
    unfold encI at hn ⊢
    rw [List.length_append, Pk.enc_length, el] at hn
    by_cases h8 : n < 8
    · rw [take_app_lt _ _ _ (by rw [Pk.enc_length]; exact h8)]
      unfold rdInts
      rw [rdInt_cut _ _ h8]; rfl
    · rw [take_app _ _ _ (by rw [Pk.enc_length]; omega)]
      have e := Pk.rdInt_enc (l.length : Int) ((encs l).take (n - (enc (l.length : Int)).length)) false ⟨by omega, by omega⟩
      unfold rdInts
      rw [e, if_pos (Or.inr (Or.inr (by simp only [List.length_take, Pk.enc_length, el]; omega)))]
  gone := rfl
  only := fun s hs hb => by
    have h1 := Pk.rdInt_small s hs
    unfold rdInts at hb ⊢
    split at hb
    · cases hb
    · rename_i h
      rw [if_neg h]
      obtain ⟨h2, h3⟩ := rdInt_only s hs (well_of h)
      refine ⟨?_, h3⟩
      show s.rest = (enc (((Pk.nums (rdInt s).1.toNat (rdInt s).2.rest).length : Nat) : Int) ++ encs (Pk.nums (rdInt s).1.toNat (rdInt s).2.rest)) ++ (rdInt s).2.rest.drop (8 * (rdInt s).1.toNat)
      rw [Pk.nums_length, encs_nums _ _ h1 (by omega), List.append_assoc, List.take_append_drop, show (((rdInt s).1.toNat : Nat) : Int) = (rdInt s).1 by omega]
      exact h2
  small := Pk.rdInts_small
  sok := fun s _ => Pk.rdInts_ok s
  short := fun s => (Pk.rdInts_short s).1
  good := fun s hs hl => ⟨Pk.rdInts_in s hs, by have := (Pk.rdInts_short s).2; omega⟩
  tiny := fun l _ y hy => by
    unfold encI at hy
    rcases List.mem_append.1 hy with hy | hy
    · exact Pk.enc_small _ y hy
    · exact Pk.encs_small l y hy
  eight := fun l => by unfold encI; rw [List.length_append, Pk.enc_length]; omega
section
variable {α β : Type} {N : Nat} {f : St → α × St} {g : St → β × St} {e1 : α → List Nat} {e2 : β → List Nat} {o1 : α → Prop} {o2 : β → Prop}
theorem Codec.map (h1 : Codec N f e1 o1) (h : α → β) (k : β → α) (hk : ∀ a, k (h a) = a) (hh : ∀ b, h (k b) = b) : Codec N (rdM h f) (fun b => e1 (k b)) (fun b => o1 (k b)) where
  back := fun x t hx => by unfold rdM; rw [h1.back _ t hx]; simp only []; rw [hh]
  cut := fun x n hx hn => h1.cut _ n hx hn
  gone := h1.gone
  only := fun s hs hb => by
    have := h1.only s hs hb
    unfold rdM
    simp only [hk]
    exact this
  small := h1.small
  sok := h1.sok
  short := h1.short
  good := fun s hs hl => by show o1 (k (h (f s).1)); rw [hk]; exact h1.good s hs hl
  tiny := fun x hx => h1.tiny _ hx
  eight := fun x => h1.eight _
theorem rdN_back (h1 : Codec N f e1 o1) : ∀ (L : List α) (t : List Nat), (∀ x ∈ L, o1 x) → rdN f L.length ⟨L.flatMap e1 ++ t, false⟩ = (L, ⟨t, false⟩) := by
  intro L
  induction L with
  | nil => intro t _; rfl
  | cons x L ih =>
    intro t h
    show (if false = true then _ else _) = _
    rw [if_neg (by decide)]
    simp only [List.flatMap_cons, List.append_assoc]
    rw [h1.back x _ (h x List.mem_cons_self)]
    simp only []
    rw [ih t (fun y hy => h y (List.mem_cons_of_mem _ hy))]
theorem rdN_gone (n : Nat) : rdN f n Pk.gone = ([], Pk.gone) := by
  cases n with
  | zero => rfl
  | succ n => show (if true = true then _ else _) = _; rw [if_pos rfl]
theorem rdN_cut (h1 : Codec N f e1 o1) : ∀ (L : List α) (n : Nat), (∀ x ∈ L, o1 x) → n < (L.flatMap e1).length → (rdN f L.length ⟨(L.flatMap e1).take n, false⟩).2 = Pk.gone := by
  intro L
  induction L with
  | nil => intro n _ h; simp at h
  | cons x L ih =>
    intro n h hn
    show (if false = true then _ else _ : List α × St).2 = _
    rw [if_neg (by decide)]
    simp only []
    rw [List.flatMap_cons] at hn ⊢
    rw [List.length_append] at hn
    by_cases hc : n < (e1 x).length
    · rw [take_app_lt _ _ _ hc, h1.cut x n (h x List.mem_cons_self) hc, rdN_gone]
    · rw [take_app _ _ _ (by omega), h1.back x _ (h x List.mem_cons_self)]
      exact ih _ (fun y hy => h y (List.mem_cons_of_mem _ hy)) (by omega)
theorem rdN_only (h1 : Codec N f e1 o1) : ∀ (n : Nat) (s : St), s.small → (rdN f n s).2.bad = false → s.rest = (rdN f n s).1.flatMap e1 ++ (rdN f n s).2.rest ∧ s.bad = false ∧ (rdN f n s).1.length = n := by
  intro n
  induction n with
  | zero => intro s hs hb; exact ⟨rfl, hb, rfl⟩
  | succ n ih =>
    intro s hs hb
    rcases hsb : s.bad with _ | _
    · have e : rdN f (n + 1) s = ((f s).1 :: (rdN f n (f s).2).1, (rdN f n (f s).2).2) := by show (if s.bad = true then _ else _) = _; rw [hsb, if_neg (by decide)]
      rw [e] at hb ⊢
      obtain ⟨q1, q2, q3⟩ := ih _ (h1.small s hs) hb
      obtain ⟨q4, q5⟩ := h1.only s hs q2
      refine ⟨?_, rfl, by simp [q3]⟩
      show s.rest = ((f s).1 :: (rdN f n (f s).2).1).flatMap e1 ++ (rdN f n (f s).2).2.rest
      rw [List.flatMap_cons, List.append_assoc, ← q1, ← q4]
    · have e : rdN f (n + 1) s = ([], s) := by show (if s.bad = true then _ else _) = _; rw [hsb, if_pos rfl]
      rw [e] at hb
      have hb' : s.bad = false := hb
      rw [hsb] at hb'; cases hb'
theorem rdN_keeps {P : St → Prop} (h : ∀ s, P s → P (f s).2) : ∀ (n : Nat) (s : St), P s → P (rdN f n s).2 := by
  intro n
  induction n with
  | zero => intro s hs; exact hs
  | succ n ih =>
    intro s hs
    show P (if s.bad = true then _ else _ : List α × St).2
    split
    · exact hs
    · exact ih _ (h s hs)
theorem rdN_all {P : St → Prop} {Q : α → Prop} (h : ∀ s, P s → P (f s).2) (hq : ∀ s, P s → Q (f s).1) : ∀ (n : Nat) (s : St), P s → (∀ x ∈ (rdN f n s).1, Q x) ∧ (rdN f n s).1.length ≤ n := by
  intro n
  induction n with
  | zero => intro s hs; exact ⟨fun x hx => (by cases hx), Nat.zero_le _⟩
  | succ n ih =>
    intro s hs
    have e : rdN f (n + 1) s = if s.bad = true then ([], s) else ((f s).1 :: (rdN f n (f s).2).1, (rdN f n (f s).2).2) := rfl
    rw [e]
    split
    · exact ⟨fun x hx => (by cases hx), Nat.zero_le _⟩
    · obtain ⟨q1, q2⟩ := ih _ (h s hs)
      refine ⟨fun x hx => ?_, by simp; exact q2⟩
      rcases List.mem_cons.1 hx with rfl | hx
      · exact hq s hs
      · exact q1 x hx
theorem rdL_gone : rdL f Pk.gone = ([], Pk.gone) := by
  have e : rdInt Pk.gone = (0, Pk.gone) := rfl
  unfold rdL
  rw [e]; rfl
theorem enc_tiny (v : Int) : ∀ y ∈ enc v, y < 256 := Pk.enc_small v
theorem flat_eight (h1 : Codec N f e1 o1) (L : List α) : 8 * L.length ≤ (L.flatMap e1).length := by
  induction L with
  | nil => simp
  | cons x L ih => rw [List.flatMap_cons, List.length_append, List.length_cons]; have := h1.eight x; omega
theorem Codec.list (h1 : Codec N f e1 o1) (hN : N ≤ 1000000000000) : Codec N (rdL f) (encL e1) (fun l => (∀ x ∈ l, o1 x) ∧ l.length ≤ N) where
  back := fun L t ⟨hL, hl⟩ => by
    have h8 := flat_eight h1 L
    unfold rdL encL
    rw [List.append_assoc, Pk.rdInt_enc _ _ _ ⟨by omega, by omega⟩]
    simp only []
    rw [if_neg (by rw [List.length_append]; omega)]
    exact rdN_back h1 L t hL
  cut := fun L n ⟨hL, hl⟩ hn => by
    unfold encL at hn ⊢
    rw [List.length_append, Pk.enc_length] at hn
    unfold rdL
    by_cases h : n < 8
    · have e : (enc (L.length : Int) ++ L.flatMap e1).take n = (enc (L.length : Int)).take n := take_app_lt _ _ _ h
      have e2 : rdInt ⟨(enc (L.length : Int)).take n, false⟩ = (0, Pk.gone) := by
        unfold rdInt; rw [if_pos (by simp only [List.length_take, Pk.enc_length]; omega)]
      rw [e, e2]; rfl
    · rw [take_app _ _ _ (by rw [Pk.enc_length]; omega), Pk.rdInt_enc _ _ _ ⟨by omega, by omega⟩]
      simp only []
      split
      · rfl
      · exact rdN_cut h1 L _ hL (by rw [Pk.enc_length]; omega)
  gone := by rw [rdL_gone]
  only := fun s hs hb => by
    have e : rdL f s = if (rdInt s).1 < 0 ∨ (((rdInt s).2.rest.length / 8 : Nat) : Int) < (rdInt s).1 then ([], Pk.gone) else rdN f (rdInt s).1.toNat (rdInt s).2 := rfl
    rw [e] at hb ⊢
    split at hb
    · cases hb
    · rename_i hc
      rw [if_neg hc]
      obtain ⟨q1, q2, q3⟩ := rdN_only h1 _ _ (Pk.rdInt_small s hs) hb
      obtain ⟨q4, q5⟩ := rdInt_only s hs q2
      refine ⟨?_, q5⟩
      unfold encL
      rw [q3, List.append_assoc, ← q1, show (((rdInt s).1.toNat : Nat) : Int) = (rdInt s).1 by omega]
      exact q4
  small := fun s hs => by
    unfold rdL
    split
    · exact Pk.gone_small
    · exact rdN_keeps h1.small _ _ (Pk.rdInt_small s hs)
  sok := fun s hs => by
    unfold rdL
    split
    · exact Pk.gone_ok
    · exact rdN_keeps h1.sok _ _ (Pk.rdInt_ok s hs)
  short := fun s => by
    have h := Pk.rdInt_short s
    unfold rdL
    split
    · exact Nat.zero_le _
    · exact rdN_keeps (P := fun x => x.rest.length ≤ s.rest.length) (fun x hx => Nat.le_trans (h1.short x) hx) _ _ h
  good := fun s hs hl => by
    have h := Pk.rdInt_short s
    unfold rdL
    split
    · exact ⟨fun x hx => (by cases hx), Nat.zero_le _⟩
    · rename_i hc
      obtain ⟨q1, q2⟩ := rdN_all (P := fun x => x.small ∧ x.rest.length ≤ N) (Q := o1) (fun x hx => ⟨h1.small x hx.1, Nat.le_trans (h1.short x) hx.2⟩) (fun x hx => h1.good x hx.1 hx.2) (rdInt s).1.toNat (rdInt s).2 ⟨Pk.rdInt_small s hs, Nat.le_trans h hl⟩
      exact ⟨q1, by omega⟩
  tiny := fun L ⟨hL, _⟩ y hy => by
    unfold encL at hy
    rcases List.mem_append.1 hy with hy | hy
    · exact enc_tiny _ y hy
    · obtain ⟨x, hx, hy⟩ := List.mem_flatMap.1 hy
      exact h1.tiny x (hL x hx) y hy
  eight := fun L => by unfold encL; rw [List.length_append, Pk.enc_length]; omega
end
structure Pt where
  log : Lg
  cf : Cf
  sn : List Nat
deriving DecidableEq
structure Hd where
  g : Int
  t : Int
  v : Int
  p : Pt
deriving DecidableEq
structure Vt where
  x : Int
  p : Int
  r : Int
  b : Int
  v : Int
deriving DecidableEq
structure Im where
  hs : List Hd
  vs : List Vt
deriving DecidableEq
structure Ch where
  k : Int
  g : Int
  t : Int
  v : Int
  f : Int
  p : Pt
  a : Vt
deriving DecidableEq
def P0 : Pt := ⟨⟨0, 0, []⟩, ⟨[], [], []⟩, []⟩
def rdE : St → En × St := rdM (fun p => ⟨p.1.1, p.1.2, p.2⟩) (rdP (rdP rdInt rdInt) rdBlob)
def rdLg : St → Lg × St := rdM (fun p => ⟨p.1.1, p.1.2, p.2⟩) (rdP (rdP rdInt rdInt) (rdL rdE))
def rdCf : St → Cf × St := rdM (fun p => ⟨p.1.1, p.1.2, p.2⟩) (rdP (rdP rdInts rdInts) rdInts)
def rdPt : St → Pt × St := rdM (fun p => ⟨p.1.1, p.1.2, p.2⟩) (rdP (rdP rdLg rdCf) rdBlob)
def rdH : St → Hd × St := rdM (fun p => ⟨p.1.1.1, p.1.1.2, p.1.2, p.2⟩) (rdP (rdP (rdP rdInt rdInt) rdInt) rdPt)
def rdV : St → Vt × St := rdM (fun p => ⟨p.1.1.1.1, p.1.1.1.2, p.1.1.2, p.1.2, p.2⟩) (rdP (rdP (rdP (rdP rdInt rdInt) rdInt) rdInt) rdInt)
def rdIm : St → Im × St := rdM (fun p => ⟨p.1, p.2⟩) (rdP (rdL rdH) (rdL rdV))
def encE (e : En) : List Nat := (enc e.t ++ enc e.k) ++ encB e.d
def encCf (c : Cf) : List Nat := (encI c.old ++ encI c.new) ++ encI c.lrn
def okV (v : Vt) : Prop := (((InI v.x ∧ InI v.p) ∧ InI v.r) ∧ InI v.b) ∧ InI v.v
section
variable (N : Nat) (hN : N ≤ 1000000000000)
include hN
end
def fin (s : St) : Int := if s.bad = true then 4 else if 0 < s.rest.length then 2 else 0
def whole {α : Type} (one : St → α × St) (no : α) (b : List Nat) : α × Int := if fin (one ⟨b, false⟩).2 ≠ 0 then (no, fin (one ⟨b, false⟩).2) else ((one ⟨b, false⟩).1, 0)
section
variable {α : Type} {N : Nat} {f : St → α × St} {e1 : α → List Nat} {o1 : α → Prop} (h1 : Codec N f e1 o1) (no : α)
include h1
end
def asc {α : Type} (lt : α → α → Bool) : List α → Bool
  | [] => true
  | [_] => true
  | a :: b :: l => lt a b && asc lt (b :: l)
def ltH (a b : Hd) : Bool := decide (a.g < b.g)
def ltV (a b : Vt) : Bool := decide (a.x < b.x) || (decide (a.x = b.x) && decide (a.p < b.p))
def sorted (x : Im) : Bool := asc ltH x.hs && asc ltV x.vs
def get (b : List Nat) : Im × Int := if (whole rdIm ⟨[], []⟩ b).2 = 0 ∧ sorted (whole rdIm ⟨[], []⟩ b).1 = false then (⟨[], []⟩, 15) else whole rdIm ⟨[], []⟩ b
end Go.Proofs.Ytkmbkihfdilmbaa.Im
namespace Go.Proofs.Ytkmbkihfdilmbaa
open Go.RowKit
theorem info_u8 : (Try.prog.info? 5).map (fun i => (i.zero, i.size, i.bytes)) = some (some (.int .u8 0), 1, 1) := by kernel_rfl
theorem bytes_snoc (l : List Nat) (k : Nat) (h : k < l.length) : bytes (l.take k) ++ [Value.int .u8 (l[k] : Nat)] = bytes (l.take (k + 1)) := by
  unfold bytes; rw [List.take_succ_eq_append_getElem h, List.map_append]; rfl
end Go.Proofs.Ytkmbkihfdilmbaa
namespace Go.Proofs.Ytkmbkihfdilmbaa
open Go.RowKit
theorem row_cell {w : World} {g : Nat} {cs : Array Value} {t : TypeId} (h : w.heap[g]? = some (.cells cs t (0, 0))) (i : Nat) : w.cell? ⟨g, i, none⟩ = cs[i]? := cell_of_row w g i cs t (0, 0) h
theorem row_free {w : World} {g : Nat} {cs : Array Value} {t : TypeId} (h : w.heap[g]? = some (.cells cs t (0, 0))) (i : Nat) : w.frozen? ⟨g, i, none⟩ = false := by simp [World.frozen?, h]
theorem row_lt {w : World} {g : Nat} {o : Obj} (h : w.heap[g]? = some o) : g < w.heap.size := by
  rcases Nat.lt_or_ge g w.heap.size with hlt | hge
  · exact hlt
  · rw [Array.getElem?_eq_none hge] at h; cases h
theorem row_set {w : World} {g : Nat} {cs : Array Value} {t : TypeId} (h : w.heap[g]? = some (.cells cs t (0, 0))) (i : Nat) (u : Value) :
    (w.setCell ⟨g, i, none⟩ u).heap[g]? = some (.cells (cs.setIfInBounds i u) t (0, 0)) := by
  simp [World.setCell, Array.getElem?_modify, h]
namespace Rdr
variable {w w' : World} {g : Nat} {s : Pk.St}
end Rdr
theorem IsBytes.drop {w : World} {B : Nat} {ad : Addr} {l : List Nat} (h : IsBytes w B (some ad) l) (m : Nat) (hm : m < l.length) : IsBytes w B (some (ad.add m)) (l.drop m) := by
  refine ⟨fun x hx => h.small x (List.mem_of_mem_drop hx), fun k hk => ?_⟩
  obtain ⟨b, off, e, hb, hc⟩ := h.cells m hm
  injection e with e
  subst e
  refine ⟨b, off + m, by rw [add_off], hb, fun i hi => ?_⟩
  rw [List.length_drop] at hi
  rw [List.getElem_drop, Nat.add_assoc]
  exact hc (m + i) (by omega)
theorem IsBytes.put {w : World} {g : Nat} {A : Option Addr} {l : List Nat} (h : IsBytes w g A l) (k : Nat) (u : Value) : IsBytes (w.setCell ⟨g, k, none⟩ u).drew g A l := (h.below ((Below.refl g w).setCell (Nat.le_refl _) _)).drew
end Go.Proofs.Ytkmbkihfdilmbaa
namespace Go.Proofs.Ytkmbkihfdilmbaa.Im
open Go.RowKit
open Rl (En Lg)
open Qu (Cf)
set_option maxRecDepth 100000
set_option linter.unusedVariables false
structure Ad where
  e : Option Addr
  ce : Nat
  o : Option Addr
  co : Nat
  n : Option Addr
  cn : Nat
  l : Option Addr
  cl : Nat
  s : Option Addr
  cs : Nat
def A0 : Ad := ⟨none, 0, none, 0, none, 0, none, 0, none, 0⟩
def Room (n c : Nat) (A : Option Addr) : Prop := (n ≤ c ∧ c ≤ maxLen) ∧ (A = none → c = 0)
structure IsPt (w : World) (B : Nat) (p : Pt) (a : Ad) : Prop where
  es : IsEnts w B a.e p.log.es
  o : IsInts w B a.o p.cf.old
  n : IsInts w B a.n p.cf.new
  l : IsInts w B a.l p.cf.lrn
  s : IsBytes w B a.s p.sn
  re : Room p.log.es.length a.ce a.e
  ro : Room p.cf.old.length a.co a.o
  rn : Room p.cf.new.length a.cn a.n
  rl : Room p.cf.lrn.length a.cl a.l
  rs : Room p.sn.length a.cs a.s
  num : InInt p.log.base ∧ InInt p.log.term
namespace IsPt
variable {w w' : World} {B B' : Nat} {p : Pt} {a : Ad}
theorem below (h : IsPt w B p a) (hb : Below B w w') : IsPt w' B p a := ⟨h.es.below hb, h.o.below hb, h.n.below hb, h.l.below hb, h.s.below hb, h.re, h.ro, h.rn, h.rl, h.rs, h.num⟩
theorem more (h : IsPt w B p a) (hB : B ≤ B') : IsPt w B' p a := ⟨h.es.more hB, h.o.more hB, h.n.more hB, h.l.more hB, h.s.more hB, h.re, h.ro, h.rn, h.rl, h.rs, h.num⟩
end IsPt
structure Hq where
  h : Hd
  a : Ad
structure Cq where
  c : Ch
  a : Ad
def cellsH (q : Hq) : List Value := [.int .i64 q.h.g, .int .i64 q.h.t, .int .i64 q.h.v, .int .i64 q.h.p.log.base, .int .i64 q.h.p.log.term, .slice q.a.e q.h.p.log.es.length q.a.ce, .slice q.a.o q.h.p.cf.old.length q.a.co, .slice q.a.n q.h.p.cf.new.length q.a.cn, .slice q.a.l q.h.p.cf.lrn.length q.a.cl, .slice q.a.s q.h.p.sn.length q.a.cs]
def cellsV (v : Vt) : List Value := [.int .i64 v.x, .int .i64 v.p, .int .i64 v.r, .int .i64 v.b, .int .i64 v.v]
def cellsC (q : Cq) : List Value := [.int .i64 q.c.k, .int .i64 q.c.g, .int .i64 q.c.t, .int .i64 q.c.v, .int .i64 q.c.f, .int .i64 q.c.p.log.base, .int .i64 q.c.p.log.term, .slice q.a.e q.c.p.log.es.length q.a.ce, .slice q.a.o q.c.p.cf.old.length q.a.co, .slice q.a.n q.c.p.cf.new.length q.a.cn, .slice q.a.l q.c.p.cf.lrn.length q.a.cl, .slice q.a.s q.c.p.sn.length q.a.cs, .int .i64 q.c.a.x, .int .i64 q.c.a.p, .int .i64 q.c.a.r, .int .i64 q.c.a.b, .int .i64 q.c.a.v]
structure IsRow {α : Type} (f : α → List Value) (size : Nat) (w : World) (B : Nat) (A : Option Addr) (L : List α) : Prop where
  at_ : ∀ k, k < L.length → ∃ b off, A = some ⟨b, off, none⟩ ∧ b < B ∧ ∀ i (h : i < L.length), w.rangeAt b (off + i * size) (f L[i])
namespace IsRow
variable {α : Type} {f : α → List Value} {size : Nat} {w w' : World} {B B' : Nat} {A : Option Addr} {L : List α}
theorem nil : IsRow f size w B A ([] : List α) := ⟨fun k h => by simp at h⟩
theorem below (h : IsRow f size w B A L) (hb : Below B w w') : IsRow f size w' B A L := ⟨fun k hk => by
  obtain ⟨b, off, e, hlt, hc⟩ := h.at_ k hk
  exact ⟨b, off, e, hlt, fun i hi j v hv => (hb.cell (p := ⟨b, off + i * size + j, none⟩) hlt).trans (hc i hi j v hv)⟩⟩
theorem more (h : IsRow f size w B A L) (hB : B ≤ B') : IsRow f size w B' A L := ⟨fun k hk => by
  obtain ⟨b, off, e, hlt, hc⟩ := h.at_ k hk
  exact ⟨b, off, e, by omega, hc⟩⟩
end IsRow
structure IsHds (w : World) (B : Nat) (A : Option Addr) (Q : List Hq) : Prop where
  row : IsRow cellsH 10 w B A Q
  pt : ∀ q ∈ Q, IsPt w B q.h.p q.a
  num : ∀ q ∈ Q, InInt q.h.g ∧ InInt q.h.t ∧ InInt q.h.v
structure IsVs (w : World) (B : Nat) (A : Option Addr) (L : List Vt) : Prop where
  row : IsRow cellsV 5 w B A L
  num : ∀ v ∈ L, okV v
structure IsCs (w : World) (B : Nat) (A : Option Addr) (Q : List Cq) : Prop where
  row : IsRow cellsC 17 w B A Q
  pt : ∀ q ∈ Q, IsPt w B q.c.p q.a
  num : ∀ q ∈ Q, (InInt q.c.k ∧ InInt q.c.g ∧ InInt q.c.t ∧ InInt q.c.v ∧ InInt q.c.f) ∧ okV q.c.a
theorem IsHds.below {w w' : World} {B : Nat} {A : Option Addr} {Q : List Hq} (h : IsHds w B A Q) (hb : Below B w w') : IsHds w' B A Q := ⟨h.row.below hb, fun q hq => (h.pt q hq).below hb, h.num⟩
theorem IsHds.more {w : World} {B B' : Nat} {A : Option Addr} {Q : List Hq} (h : IsHds w B A Q) (hB : B ≤ B') : IsHds w B' A Q := ⟨h.row.more hB, fun q hq => (h.pt q hq).more hB, h.num⟩
theorem IsVs.below {w w' : World} {B : Nat} {A : Option Addr} {Q : List Vt} (h : IsVs w B A Q) (hb : Below B w w') : IsVs w' B A Q := ⟨h.row.below hb, h.num⟩
theorem IsVs.more {w : World} {B B' : Nat} {A : Option Addr} {Q : List Vt} (h : IsVs w B A Q) (hB : B ≤ B') : IsVs w B' A Q := ⟨h.row.more hB, h.num⟩
theorem IsCs.below {w w' : World} {B : Nat} {A : Option Addr} {Q : List Cq} (h : IsCs w B A Q) (hb : Below B w w') : IsCs w' B A Q := ⟨h.row.below hb, fun q hq => (h.pt q hq).below hb, h.num⟩
theorem IsCs.more {w : World} {B B' : Nat} {A : Option Addr} {Q : List Cq} (h : IsCs w B A Q) (hB : B ≤ B') : IsCs w B' A Q := ⟨h.row.more hB, fun q hq => (h.pt q hq).more hB, h.num⟩
def ldX (t : TypeId) (a : Value) : Sem Value := Instr.loadAt t a
def stX (t : TypeId) (a v : Value) : Sem Unit := Instr.storeAt t a v
theorem loadAt_hard (a : Value) : Instr.loadAt 52 a = ldX 52 a := rfl
theorem storeAt_hard (a v : Value) : Instr.storeAt 52 a v = stX 52 a v := rfl
theorem info_hard : (Try.prog.info? 52).map (·.size) = some 10 := by kernel_rfl
theorem stNew (w : World) (t : TypeId) (n : Nat) (hi : (Try.prog.info? t).map (·.size) = some n) (cs cs' : Array Value) (h : cs.size = n) (h' : cs'.size = n) (h1 : cs'.all (·.oneCell') = true) : (stX t (.pointer (some ⟨w.heap.size, 0, none⟩)) (.agg cs')).run Try.prog (w.alloc (.cells cs t)) = .ok () (w.alloc (.cells cs' t)) :=
  run_storeVar_new w _ cs cs' (by rw [hi, h']) (by rw [h, h']) h1
end Go.Proofs.Ytkmbkihfdilmbaa.Im
namespace Go.Proofs.Ytkmbkihfdilmbaa.Im
open Go.RowKit
set_option maxRecDepth 100000
theorem ldRow {t : TypeId} {n : Nat} {d : TypeDesc} (hi : (Try.prog.info? t).map (·.size) = some n) (hu : Try.prog.underlying t = some d) (hd : d.isRow = true) {w : World} {b : Nat} {cs : Array Value} {t' : TypeId} {fr : Nat × Nat} (hg : w.heap[b]? = some (.cells cs t' fr)) (h : cs.size = n) : (ldX t (.pointer (some ⟨b, 0, none⟩))).run Try.prog w = .ok (.agg cs) w :=
  run_loadVar_row w b t' t cs fr d hg hu (by cases d <;> first | rfl | cases hd) (by rw [hi, h])
theorem stRow {t : TypeId} {n : Nat} (hi : (Try.prog.info? t).map (·.size) = some n) {w : World} {b : Nat} {cs cs' : Array Value} {t' : TypeId} (hg : w.heap[b]? = some (.cells cs t' (0, 0))) (h : cs.size = n) (h' : cs'.size = n) (h1 : cs'.all (·.oneCell') = true) : (stX t (.pointer (some ⟨b, 0, none⟩)) (.agg cs')).run Try.prog w = .ok () (w.setRow b cs') :=
  run_storeVar_row w b t' t cs cs' hg (by rw [hi, h']) (by rw [h, h']) h1
theorem row_turned (w : World) (b : Nat) (cs : Array Value) : Turned (fun k => k = b) w (w.setRow b cs) := ⟨rfl, rfl, rfl, by simp, fun k _ hk => setRow_other w b k cs hk⟩
theorem loadAt_conf3 (a : Value) : Instr.loadAt 37 a = ldX 37 a := rfl
theorem storeAt_conf3 (a v : Value) : Instr.storeAt 37 a v = stX 37 a v := rfl
end Go.Proofs.Ytkmbkihfdilmbaa.Im
namespace Go.Proofs.Ytkmbkihfdilmbaa.Vo
open Go Go.RowKit
open Rl (En Lg)
open Ms (M)
open Im (ldX stX)
set_option maxRecDepth 100000
set_option linter.unusedVariables false
theorem loadAt_msgV (a : Value) : Instr.loadAt 31 a = ldX 31 a := rfl
theorem storeAt_msgV (a v : Value) : Instr.storeAt 31 a v = stX 31 a v := rfl
theorem info_msgV : (Try.prog.info? 31).map (·.size) = some 17 := by kernel_rfl
attribute [local go_sem ↓] loadAt_msgV storeAt_msgV
end Go.Proofs.Ytkmbkihfdilmbaa.Vo
