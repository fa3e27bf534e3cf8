/- Texts of the proof, one behind the other: Mem, RlMath, Ints, Grown. -/
import Derived.WalkKit
import Derived.WalkSpells
import Derived.Deep.Draws
import Derived.Laws.AppendOwnNone
import Derived.Maps.AppendAt
namespace Go.Proofs.YtpigekbfngalbaaDoor
open Go.RowKit

/-- a fact that the walk must not take for a rule -/
theorem hid {p : Prop} (h : p) : Hid p := h

theorem below_drewN {B : Nat} {a w : World} (h : Below B a w) (n : Nat) : Below B a (w.drewN n) := ⟨h.os, h.tape, h.output, h.size, h.block⟩

/-- the values of bytes -/
def bytes (l : List Nat) : List Value := l.map fun (x : Nat) => Value.int .u8 (x : Int)

/-- Below block B of the world w, a slice of bytes at the address A holds the numbers l (an empty one may lie anywhere). -/
structure IsBytes (w : World) (B : Nat) (A : Option Addr) (l : List Nat) : Prop where
  small : ∀ x ∈ l, x < 256
  cells : ∀ k, k < l.length → ∃ b off, A = some ⟨b, off, none⟩ ∧ b < B ∧ ∀ i (h : i < l.length), w.cell? ⟨b, off + i, none⟩ = some (.int .u8 (l[i] : Nat))

namespace IsBytes
variable {w w' : World} {B B' : Nat} {A : Option Addr} {l : List Nat}
theorem nil : IsBytes w B A [] := ⟨by simp, fun k h => by simp at h⟩
theorem keep (h : IsBytes w B A l) (hk : ∀ p : Addr, p.block < B → w'.cell? p = w.cell? p) : IsBytes w' B A l :=
  ⟨h.small, fun k hl => by
    obtain ⟨b, off, e, hb, hc⟩ := h.cells k hl
    exact ⟨b, off, e, hb, fun i hi => (hk _ hb).trans (hc i hi)⟩⟩
theorem more (h : IsBytes w B A l) (hB : B ≤ B') : IsBytes w B' A l :=
  ⟨h.small, fun k hl => by
    obtain ⟨b, off, e, hb, hc⟩ := h.cells k hl
    exact ⟨b, off, e, by omega, hc⟩⟩
theorem below (h : IsBytes w B A l) (hb : Below B w w') : IsBytes w' B A l := h.keep fun _ hp => hb.cell hp
theorem take (h : IsBytes w B A l) (n : Nat) : IsBytes w B A (l.take n) := by
  refine ⟨fun x hx => h.small x (List.mem_of_mem_take hx), fun k hk => ?_⟩
  rw [List.length_take] at hk
  obtain ⟨b, off, e, hb, hc⟩ := h.cells k (by omega)
  refine ⟨b, off, e, hb, fun i hi => ?_⟩
  rw [List.length_take] at hi
  rw [List.getElem_take]
  exact hc i (by omega)
theorem drewN (h : IsBytes w B A l) (n : Nat) : IsBytes (w.drewN n) B A l := ⟨h.small, h.cells⟩
theorem drew (h : IsBytes w B A l) : IsBytes w.drew B A l := ⟨h.small, h.cells⟩
end IsBytes
theorem isBytes_of_ints {W : World} {x : Addr} {len cap : Nat} {zs : List Int} (hl : len ≤ cap) (hz : zs.length = cap)
    (hcell : ∀ i, i < zs.length → W.cell? (x.add i) = some (.int .u8 (zs.getD i 0))) (hwz : ∀ n ∈ zs, (Lit.int .u8 n).wf = true) :
    ∃ l : List Nat, IsBytes W W.heap.size (some x) l ∧ len = l.length := by
  have hb : ∀ n ∈ zs, 0 ≤ n ∧ n < 256 := fun n hn => by
    have := hwz n hn
    simp [Lit.wf, IntKind.min, IntKind.max, IntKind.signed, IntKind.bits] at this
    omega
  refine ⟨(zs.take len).map Int.toNat, ⟨fun y hy => ?_, fun k hk => ?_⟩, by simp; omega⟩
  · obtain ⟨n, hn, rfl⟩ := List.mem_map.1 hy
    have := hb n (List.mem_of_mem_take hn)
    omega
  · have hk' : k < zs.length := by simp at hk; omega
    obtain ⟨b, off, spot⟩ := x
    have hspot : spot = none := by
      have := World.cell?_spot (hcell 0 (by omega))
      simpa [Addr.add] using this
    subst hspot
    have hadd : ∀ i, (⟨b, off, none⟩ : Addr).add i = ⟨b, off + i, none⟩ := fun i => by unfold Addr.add; split <;> simp [*]
    have hc : ∀ i, i < zs.length → W.cell? ⟨b, off + i, none⟩ = some (.int .u8 (zs.getD i 0)) := fun i hi => by rw [← hadd]; exact hcell i hi
    refine ⟨b, off, rfl, World.block_lt_of_cell? _ _ (hc k hk'), fun i hi => ?_⟩
    have hi' : i < zs.length := by simp at hi; omega
    rw [hc i hi', List.getElem_map, List.getElem_take, Int.toNat_of_nonneg (hb _ (List.getElem_mem hi')).1, List.getD_eq_getElem?_getD, List.getElem?_eq_getElem hi']
    rfl

/-- A slice of bytes (e: the number of the type uint8), at A, of capacity c, that the call itself has made: its block is not below base. -/
structure OwnsB (e : TypeId) (w : World) (base : Nat) (A : Option Addr) (c : Nat) (l : List Nat) : Prop where
  small : ∀ x ∈ l, x < 256
  row : w.ownsRow base e 1 (.slice A l.length c) l.length (bytes l)

theorem bytes_get (l : List Nat) (k : Nat) (h : k < l.length) : (bytes l)[k]? = some (.int .u8 (l[k] : Nat)) := by
  unfold bytes; rw [List.getElem?_map, List.getElem?_eq_getElem h]; rfl

theorem own_slice {w : World} {base : Nat} {e : TypeId} {size n : Nat} {v : Value} {xs : List Value} (h : w.ownsRow base e size v n xs) : ∃ A c, v = .slice A n c := by
  rcases h.2 with ⟨rfl, h0⟩ | ⟨g, cap, cur, rfl, _⟩
  · exact ⟨none, 0, by rw [h0]⟩
  · exact ⟨_, _, rfl⟩

namespace OwnsB
variable {e : TypeId} {w w' : World} {base : Nat} {A : Option Addr} {c : Nat} {l : List Nat}
theorem reads (h : OwnsB e w base A c l) : IsBytes w w.heap.size A l := by
  refine ⟨h.small, fun k hk => ?_⟩
  rcases h.row.2 with ⟨_, h0⟩ | ⟨g, cap, cur, hv, hg, hh, _, _, _, _⟩
  · omega
  · have hA : A = some ⟨g, 0, none⟩ ∧ c = cap := by injection hv with h1 h2 h3; exact ⟨h1, h3⟩
    obtain ⟨rfl, rfl⟩ := hA
    refine ⟨g, 0, rfl, (h.row.lt g rfl).2, fun i hi => ?_⟩
    have := h.row.cells (g := g) rfl i _ (bytes_get l i hi)
    have e : (⟨g, 0, none⟩ : Addr).add i = ⟨g, 0 + i, none⟩ := by unfold Addr.add; split <;> simp [*]
    rw [e] at this
    exact this
theorem drew (h : OwnsB e w base A c l) : OwnsB e w.drew base A c l := ⟨h.small, h.row⟩
theorem drewN (h : OwnsB e w base A c l) (n : Nat) : OwnsB e (w.drewN n) base A c l := ⟨h.small, h.row⟩
theorem cap (h : OwnsB e w base A c l) : l.length ≤ c := by
  rcases h.row.2 with ⟨_, h0⟩ | ⟨g, cap, cur, hv, _, _, hc, _, _, _⟩
  · omega
  · have : c = cap := by injection hv
    omega
theorem below (h : OwnsB e w base A c l) (hb : Below w.heap.size w w') : OwnsB e w' base A c l := by
  refine ⟨h.small, h.row.kept (row := none) ⟨hb.os, hb.tape, hb.output, hb.size, fun k hk _ => hb.block k hk⟩ ?_⟩
  rcases ho : (Value.slice A l.length c).ownBlock with _ | g
  · exact .inl rfl
  · exact .inr (by simp)
theorem at_ (h : OwnsB e w base A c l) {k : Nat} (hk : k < l.length) : ∃ g, A = some ⟨g, 0, none⟩ ∧ base ≤ g ∧ g < w.heap.size ∧
    w.cell? ⟨g, k, none⟩ = some (.int .u8 (l[k] : Nat)) ∧ w.frozen? ⟨g, k, none⟩ = false := by
  rcases h.row.2 with ⟨_, h0⟩ | ⟨g, cap, cur, hv, hg, hh, _, _, _, _⟩
  · omega
  · have hA : A = some ⟨g, 0, none⟩ ∧ c = cap := by injection hv with h1 h2 h3; exact ⟨h1, h3⟩
    obtain ⟨rfl, rfl⟩ := hA
    refine ⟨g, rfl, hg, (h.row.lt g rfl).2, ?_, h.row.frozenAt k⟩
    rw [h.row.cellAt k (by omega)]
    exact bytes_get l k hk
theorem set_ {g : Nat} (h : OwnsB e w base (some ⟨g, 0, none⟩) c l) (k x : Nat) (hx : x < 256) :
    OwnsB e (w.setCell ⟨g, k, none⟩ (.int .u8 (x : Int))) base (some ⟨g, 0, none⟩) c (l.set k x) := by
  refine ⟨fun y hy => ?_, ?_⟩
  · rcases List.mem_or_eq_of_mem_set hy with hy | rfl
    · exact h.small y hy
    · exact hx
  · have := h.row.stored k (.int .u8 (x : Int))
    rw [List.length_set]
    rw [show bytes (l.set k x) = (bytes l).set k (.int .u8 (x : Int)) from by unfold bytes; rw [List.map_set]]
    exact this.1
end OwnsB
theorem IsBytes.news {w : World} {B : Nat} {ad : Addr} {l : List Nat} (h : IsBytes w B (some ad) l) : ∀ j u, (bytes l)[j]? = some u → w.cell? (ad.add j) = some u := by
  intro j u hu
  have hj : j < l.length := by
    have := (List.getElem?_eq_some_iff.1 hu).1
    simpa [bytes] using this
  obtain ⟨b, off, e, _, hc⟩ := h.cells j hj
  injection e with e
  subst e
  rw [bytes_get l j hj] at hu
  have hadd : (⟨b, off, none⟩ : Addr).add j = ⟨b, off + j, none⟩ := by unfold Addr.add; split <;> simp [*]
  rw [hadd, hc j hj]
  exact hu
theorem IsBytes.of_none {w : World} {B : Nat} {l : List Nat} (h : IsBytes w B none l) : l = [] := by
  rcases l with _ | ⟨x, l⟩
  · rfl
  · obtain ⟨b, off, e, _⟩ := h.cells 0 (by simp)
    cases e
theorem bytes_append (l m : List Nat) : bytes l ++ bytes m = bytes (l ++ m) := by unfold bytes; rw [List.map_append]
theorem bytes_oneCell (l : List Nat) : ∀ u ∈ bytes l, u.oneCell' = true := by
  intro u hu
  unfold bytes at hu
  obtain ⟨x, _, rfl⟩ := List.mem_map.1 hu
  rfl
theorem bytes_length (l : List Nat) : (bytes l).length = l.length := by simp [bytes]

/-- append, onto a slice of bytes that the call has made, of bytes that may be nil, empty or lie anywhere -/
theorem wpList_append_bytes {P : Program} {w : World} {ops : Array Oper} {rest : List Oper} {o : Oper} {a : Act} {Q : Exit → Act → World → Prop} (hgd : o.guard = none) (s x : Operand) (t : TypeId)
    (ho : o.op = .call { callee := .builtin .append, args := #[s, x], argTypes := #[t, t] })
    (base : Nat) (e : TypeId) (i : TypeInfo) (ht : P.underlying t = some (.slice e)) (hi : P.info? e = some i) (hz : i.zero = some (.int .u8 0)) (hsize : i.size = 1) (hby : i.bytes = 1)
    (A : Option Addr) (c : Nat) (l : List Nat) (hs : a.eval s = .slice A l.length c) (hown : OwnsB e w base A c l)
    (B : Nat) (A' : Option Addr) (c' : Nat) (m : List Nat) (hx : a.eval x = .slice A' m.length c') (hnil : A' = none → c' = 0) (hr : IsBytes w B A' m)
    (hbytes : l.length + m.length ≤ 140737488355328) (hbase : base ≤ w.heap.size)
    (h : ∀ A2 c2 w', OwnsB e w' base A2 c2 (l ++ m) → w.grownBy w' (Value.slice A l.length c).ownBlock → wpList P ops Q rest (a.put o.dst (.slice A2 (l.length + m.length) c2)) w') : wpList P ops Q (o :: rest) a w := by
  have hsm : ∀ y ∈ l ++ m, y < 256 := fun y hy => by
    rcases List.mem_append.1 hy with hy | hy
    · exact hown.small y hy
    · exact hr.small y hy
  rcases A' with _ | ad
  · obtain rfl := hr.of_none
    obtain rfl := hnil rfl
    refine wpList_append_own_none hgd s x t ho base e i 1 ht hi _ l.length (bytes l) hs hown.row hx ?_
    exact h A c w ⟨hsm, by simpa using hown.row⟩ (World.grownBy.refl w _)
  · refine wpList_append_own w hgd s x t ho base e i (.int .u8 0) 1 1 ht hi hz hsize hby rfl (by decide) _ l.length (bytes l) hs hown.row ad m.length c' (bytes m) hx (by rw [bytes_length]; omega) hr.news (bytes_oneCell m) (by unfold maxLen; omega) (by omega) hbase ?_
    intro v' w' h1 h2 _
    obtain ⟨A2, c2, rfl⟩ := own_slice h1
    rw [bytes_append] at h1
    exact h A2 c2 w' ⟨hsm, by rw [List.length_append]; exact h1⟩ h2
theorem ret_int {k : IntKind} {a b : Int} (h : a = b) : Ending.returned (.int k a) = .returned (.int k b) := by rw [h]
theorem add_off (b off m : Nat) : (⟨b, off, none⟩ : Addr).add m = ⟨b, off + m, none⟩ := by unfold Addr.add; split <;> simp [*]
theorem IsBytes.from {w : World} {B b off : Nat} {l : List Nat} (h : IsBytes w B (some ⟨b, off, none⟩) l) (m : Nat) : IsBytes w B (some ⟨b, off + m, none⟩) (l.drop m) := by
  refine ⟨fun x hx => h.small x (List.mem_of_mem_drop hx), fun k hk => ?_⟩
  rw [List.length_drop] at hk
  obtain ⟨b', off', e, hb, hc⟩ := h.cells 0 (by omega)
  injection e with e
  injection e with e1 e2
  subst e1
  subst e2
  refine ⟨b, off + m, rfl, hb, fun i hi => ?_⟩
  rw [List.length_drop] at hi
  rw [List.getElem_drop, Nat.add_assoc]
  exact hc (m + i) (by omega)
end Go.Proofs.YtpigekbfngalbaaDoor
namespace Go.Proofs.YtpigekbfngalbaaDoor.Rl

/-- an entry -/
structure En where
  t : Int
  k : Int
  d : List Nat
deriving DecidableEq
/-- a log -/
structure Lg where
  base : Int
  term : Int
  es : List En
deriving DecidableEq
/-- the term at the place n behind the base -/
def Lg.at_ (g : Lg) : Nat → Int
  | 0 => g.term
  | n + 1 => (g.es.map (·.t)).getD n 0
def Lg.last (g : Lg) : Int := g.base + (g.es.length : Nat)
def Lg.lastT (g : Lg) : Int := g.at_ g.es.length
def Lg.has (g : Lg) (i : Int) : Bool := decide (g.base ≤ i) && decide (i ≤ g.last)
def Lg.pl (g : Lg) (i : Int) : Nat := (i - g.base).toNat
def Lg.termV (g : Lg) (i : Int) : Int := if g.has i then g.at_ (g.pl i) else 0
def Lg.newer (g : Lg) (i t : Int) : Bool := decide (g.lastT < t) || (decide (t = g.lastT) && decide (g.last ≤ i))
/-- the entries from an index on -/
def Lg.slice (g : Lg) (i m : Int) : List En := if g.has i = true ∧ i ≠ g.base then (g.es.drop (g.pl i - 1)).take m.toNat else []
/-- how many entries at the beginning have the same terms -/
def alike : List En → List En → Nat
  | a :: r, b :: s => if a.t = b.t then alike r s + 1 else 0
  | _, _ => 0
/-- how many of e are there behind the place p -/
def Lg.there (g : Lg) (p : Nat) (e : List En) : Nat := alike (g.es.drop p) e
def Lg.appE (g : Lg) (i : Int) (e : List En) : List En := if g.has i = true ∧ g.there (g.pl i) e < e.length then g.es.take (g.pl i + g.there (g.pl i) e) ++ e.drop (g.there (g.pl i) e) else g.es
def Lg.appI (g : Lg) (i : Int) (e : List En) : Int := if g.has i = true ∧ g.there (g.pl i) e < e.length then i + (g.there (g.pl i) e : Nat) + 1 else 0
def Lg.app (g : Lg) (i : Int) (e : List En) : Lg := ⟨g.base, g.term, g.appE i e⟩
def Lg.cut (g : Lg) (i : Int) : Lg := if g.has i then ⟨i, g.at_ (g.pl i), g.es.drop (g.pl i)⟩ else ⟨0, 0, []⟩
def Lg.cutE (g : Lg) (i : Int) : Int := if g.has i then 0 else 3
/-- a log that may be -/
def Ok (g : Lg) : Prop := (0 ≤ g.base ∧ g.base ≤ 1099511637776) ∧ True ∧ g.es.length ≤ 50000
/-- entries whose bytes are few -/
def Few (l : List En) : Prop := ∀ e ∈ l, e.d.length ≤ 65536

theorem Lg.has_iff {g : Lg} {i : Int} : g.has i = true ↔ g.base ≤ i ∧ i ≤ g.base + (g.es.length : Nat) := by
  unfold Lg.has Lg.last; rw [Bool.and_eq_true, decide_eq_true_iff, decide_eq_true_iff]
theorem Lg.has_not {g : Lg} {i : Int} : g.has i = false ↔ ¬ (g.base ≤ i ∧ i ≤ g.base + (g.es.length : Nat)) := by
  rw [← Lg.has_iff]; simp
/-- an index that the log has is a place -/
theorem Lg.has_at {g : Lg} {i : Int} (h : g.has i = true) : ∃ p : Nat, i = g.base + (p : Nat) ∧ p ≤ g.es.length ∧ g.pl i = p := by
  obtain ⟨h1, h2⟩ := Lg.has_iff.1 h
  refine ⟨(i - g.base).toNat, by omega, by omega, rfl⟩
theorem Lg.has_of {g : Lg} {p : Nat} (h : p ≤ g.es.length) : g.has (g.base + (p : Nat)) = true := Lg.has_iff.2 (by omega)
theorem Lg.pl_of (g : Lg) (p : Nat) : g.pl (g.base + (p : Nat)) = p := by unfold Lg.pl; omega
theorem Lg.at_succ (g : Lg) (n : Nat) (h : n < g.es.length) : g.at_ (n + 1) = g.es[n].t := by
  show (g.es.map (·.t)).getD n 0 = _
  rw [List.getD_eq_getElem?_getD, List.getElem?_map, List.getElem?_eq_getElem h]; rfl
theorem alike_le : ∀ a b : List En, alike a b ≤ a.length ∧ alike a b ≤ b.length
  | [], _ => by simp [alike]
  | _ :: _, [] => by simp [alike]
  | a :: r, b :: s => by
    have := alike_le r s
    unfold alike
    split
    · simp; omega
    · simp
theorem alike_get : ∀ (a b : List En) (k : Nat) (h : k < alike a b), (a[k]'(Nat.lt_of_lt_of_le h (alike_le a b).1)).t = (b[k]'(Nat.lt_of_lt_of_le h (alike_le a b).2)).t
  | [], _, k, h => by simp [alike] at h
  | _ :: _, [], k, h => by simp [alike] at h
  | a :: r, b :: s, k, h => by
    unfold alike at h
    split at h
    · rename_i e
      rcases k with _ | k
      · exact e
      · exact alike_get r s k (by omega)
    · omega
theorem alike_stop : ∀ (a b : List En) (h1 : alike a b < a.length) (h2 : alike a b < b.length), a[alike a b].t ≠ b[alike a b].t
  | [], _, h, _ => by simp at h
  | _ :: _, [], _, h => by simp at h
  | a :: r, b :: s, h1, h2 => by
    by_cases e : a.t = b.t
    · have e1 : alike (a :: r) (b :: s) = alike r s + 1 := by rw [alike, if_pos e]
      have h1' : alike r s < r.length := by rw [e1] at h1; simpa using h1
      have h2' : alike r s < s.length := by rw [e1] at h2; simpa using h2
      have := alike_stop r s h1' h2'
      simp only [e1, List.getElem_cons_succ]
      exact this
    · have e1 : alike (a :: r) (b :: s) = 0 := by rw [alike, if_neg e]
      simp only [e1, List.getElem_cons_zero]
      exact e
/-- it is the place at which they first differ, or where one of them ends -/
theorem alike_eq (a b : List En) (k : Nat) (h1 : k ≤ a.length) (h2 : k ≤ b.length) (hs : ∀ j (hj : j < k), (a[j]'(by omega)).t = (b[j]'(by omega)).t) (he : ∀ (h3 : k < a.length) (h4 : k < b.length), a[k].t ≠ b[k].t) : alike a b = k := by
  have hl := alike_le a b
  rcases Nat.lt_trichotomy (alike a b) k with h | h | h
  · exact absurd (hs _ h) (alike_stop a b (by omega) (by omega))
  · exact h
  · exact absurd (alike_get a b k h) (he (by omega) (by omega))
theorem Ok.drop {g : Lg} (h : Ok g) (n : Nat) : (g.es.drop n).length ≤ 50000 := by rw [List.length_drop]; have := h.2.2; omega
end Go.Proofs.YtpigekbfngalbaaDoor.Rl
namespace Go.Proofs.YtpigekbfngalbaaDoor
open Go.RowKit

/-- a number that an int can be -/
def InInt (x : Int) : Prop := -9223372036854775808 ≤ x ∧ x ≤ 9223372036854775807
/-- the values of ints -/
def ints (l : List Int) : List Value := l.map fun (x : Int) => Value.int .i64 x

/-- Below block B of the world w, a slice of ints at the address A holds l (an empty one may lie anywhere). -/
structure IsInts (w : World) (B : Nat) (A : Option Addr) (l : List Int) : Prop where
  small : ∀ x ∈ l, InInt x
  cells : ∀ k, k < l.length → ∃ b off, A = some ⟨b, off, none⟩ ∧ b < B ∧ ∀ i (h : i < l.length), w.cell? ⟨b, off + i, none⟩ = some (.int .i64 l[i])

namespace IsInts
variable {w w' : World} {B B' : Nat} {A : Option Addr} {l : List Int}
theorem nil : IsInts w B A [] := ⟨by simp, fun k h => by simp at h⟩
theorem keep (h : IsInts w B A l) (hk : ∀ p : Addr, p.block < B → w'.cell? p = w.cell? p) : IsInts w' B A l :=
  ⟨h.small, fun k hl => by
    obtain ⟨b, off, e, hb, hc⟩ := h.cells k hl
    exact ⟨b, off, e, hb, fun i hi => (hk _ hb).trans (hc i hi)⟩⟩
theorem more (h : IsInts w B A l) (hB : B ≤ B') : IsInts w B' A l :=
  ⟨h.small, fun k hl => by
    obtain ⟨b, off, e, hb, hc⟩ := h.cells k hl
    exact ⟨b, off, e, by omega, hc⟩⟩
theorem below (h : IsInts w B A l) (hb : Below B w w') : IsInts w' B A l := h.keep fun _ hp => hb.cell hp
theorem take (h : IsInts w B A l) (n : Nat) : IsInts w B A (l.take n) := by
  refine ⟨fun x hx => h.small x (List.mem_of_mem_take hx), fun k hk => ?_⟩
  rw [List.length_take] at hk
  obtain ⟨b, off, e, hb, hc⟩ := h.cells k (by omega)
  refine ⟨b, off, e, hb, fun i hi => ?_⟩
  rw [List.length_take] at hi
  rw [List.getElem_take]
  exact hc i (by omega)
theorem drewN (h : IsInts w B A l) (n : Nat) : IsInts (w.drewN n) B A l := ⟨h.small, h.cells⟩
theorem drew (h : IsInts w B A l) : IsInts w.drew B A l := ⟨h.small, h.cells⟩
end IsInts
theorem isInts_of_ints {W : World} {x : Addr} {len cap : Nat} {zs : List Int} (hl : len ≤ cap) (hz : zs.length = cap)
    (hcell : ∀ i, i < zs.length → W.cell? (x.add i) = some (.int .i64 (zs.getD i 0))) (hwz : ∀ n ∈ zs, (Lit.int .i64 n).wf = true) :
    ∃ l : List Int, IsInts W W.heap.size (some x) l ∧ len = l.length := by
  refine ⟨zs.take len, ⟨fun y hy => ?_, fun k hk => ?_⟩, by simp; omega⟩
  · have := hwz y (List.mem_of_mem_take hy)
    simp [Lit.wf, IntKind.min, IntKind.max, IntKind.signed, IntKind.bits] at this
    exact this
  · have hk' : k < zs.length := by simp at hk; omega
    obtain ⟨b, off, spot⟩ := x
    have hspot : spot = none := by
      have := World.cell?_spot (hcell 0 (by omega))
      simpa [Addr.add] using this
    subst hspot
    have hadd : ∀ i, (⟨b, off, none⟩ : Addr).add i = ⟨b, off + i, none⟩ := fun i => by unfold Addr.add; split <;> simp [*]
    have hc : ∀ i, i < zs.length → W.cell? ⟨b, off + i, none⟩ = some (.int .i64 (zs.getD i 0)) := fun i hi => by rw [← hadd]; exact hcell i hi
    refine ⟨b, off, rfl, World.block_lt_of_cell? _ _ (hc k hk'), fun i hi => ?_⟩
    have hi' : i < zs.length := by simp at hi; omega
    rw [hc i hi', List.getElem_take, List.getD_eq_getElem?_getD, List.getElem?_eq_getElem hi']
    rfl

/-- A slice of ints (e: the number of the type int), at A, of capacity c, that the call itself has made: its block is not below base. -/
structure OwnsI (e : TypeId) (w : World) (base : Nat) (A : Option Addr) (c : Nat) (l : List Int) : Prop where
  small : ∀ x ∈ l, InInt x
  row : w.ownsRow base e 1 (.slice A l.length c) l.length (ints l)

theorem ints_get (l : List Int) (k : Nat) (h : k < l.length) : (ints l)[k]? = some (.int .i64 l[k]) := by
  unfold ints; rw [List.getElem?_map, List.getElem?_eq_getElem h]; rfl

namespace OwnsI
variable {e : TypeId} {w w' : World} {base : Nat} {A : Option Addr} {c : Nat} {l : List Int}
theorem reads (h : OwnsI e w base A c l) : IsInts w w.heap.size A l := by
  refine ⟨h.small, fun k hk => ?_⟩
  rcases h.row.2 with ⟨_, h0⟩ | ⟨g, cap, cur, hv, hg, hh, _, _, _, _⟩
  · omega
  · have hA : A = some ⟨g, 0, none⟩ ∧ c = cap := by injection hv with h1 h2 h3; exact ⟨h1, h3⟩
    obtain ⟨rfl, rfl⟩ := hA
    refine ⟨g, 0, rfl, (h.row.lt g rfl).2, fun i hi => ?_⟩
    have := h.row.cells (g := g) rfl i _ (ints_get l i hi)
    have e : (⟨g, 0, none⟩ : Addr).add i = ⟨g, 0 + i, none⟩ := by unfold Addr.add; split <;> simp [*]
    rw [e] at this
    exact this
theorem drew (h : OwnsI e w base A c l) : OwnsI e w.drew base A c l := ⟨h.small, h.row⟩
theorem drewN (h : OwnsI e w base A c l) (n : Nat) : OwnsI e (w.drewN n) base A c l := ⟨h.small, h.row⟩
theorem cap (h : OwnsI e w base A c l) : l.length ≤ c := by
  rcases h.row.2 with ⟨_, h0⟩ | ⟨g, cap, cur, hv, _, _, hc, _, _, _⟩
  · omega
  · have : c = cap := by injection hv
    omega
theorem below (h : OwnsI e w base A c l) (hb : Below w.heap.size w w') : OwnsI e w' base A c l := by
  refine ⟨h.small, h.row.kept (row := none) ⟨hb.os, hb.tape, hb.output, hb.size, fun k hk _ => hb.block k hk⟩ ?_⟩
  rcases ho : (Value.slice A l.length c).ownBlock with _ | g
  · exact .inl rfl
  · exact .inr (by simp)
theorem at_ (h : OwnsI e w base A c l) {k : Nat} (hk : k < l.length) : ∃ g, A = some ⟨g, 0, none⟩ ∧ base ≤ g ∧ g < w.heap.size ∧
    w.cell? ⟨g, k, none⟩ = some (.int .i64 l[k]) ∧ w.frozen? ⟨g, k, none⟩ = false := by
  rcases h.row.2 with ⟨_, h0⟩ | ⟨g, cap, cur, hv, hg, hh, _, _, _, _⟩
  · omega
  · have hA : A = some ⟨g, 0, none⟩ ∧ c = cap := by injection hv with h1 h2 h3; exact ⟨h1, h3⟩
    obtain ⟨rfl, rfl⟩ := hA
    refine ⟨g, rfl, hg, (h.row.lt g rfl).2, ?_, h.row.frozenAt k⟩
    rw [h.row.cellAt k (by omega)]
    exact ints_get l k hk
theorem set_ {g : Nat} (h : OwnsI e w base (some ⟨g, 0, none⟩) c l) (k : Nat) (x : Int) (hx : InInt x) :
    OwnsI e (w.setCell ⟨g, k, none⟩ (.int .i64 x)) base (some ⟨g, 0, none⟩) c (l.set k x) := by
  refine ⟨fun y hy => ?_, ?_⟩
  · rcases List.mem_or_eq_of_mem_set hy with hy | rfl
    · exact h.small y hy
    · exact hx
  · have := h.row.stored k (.int .i64 x)
    rw [List.length_set]
    rw [show ints (l.set k x) = (ints l).set k (.int .i64 x) from by unfold ints; rw [List.map_set]]
    exact this.1
end OwnsI
theorem IsInts.news {w : World} {B : Nat} {ad : Addr} {l : List Int} (h : IsInts w B (some ad) l) : ∀ j u, (ints l)[j]? = some u → w.cell? (ad.add j) = some u := by
  intro j u hu
  have hj : j < l.length := by
    have := (List.getElem?_eq_some_iff.1 hu).1
    simpa [ints] using this
  obtain ⟨b, off, e, _, hc⟩ := h.cells j hj
  injection e with e
  subst e
  rw [ints_get l j hj] at hu
  have hadd : (⟨b, off, none⟩ : Addr).add j = ⟨b, off + j, none⟩ := by unfold Addr.add; split <;> simp [*]
  rw [hadd, hc j hj]
  exact hu
theorem IsInts.of_none {w : World} {B : Nat} {l : List Int} (h : IsInts w B none l) : l = [] := by
  rcases l with _ | ⟨x, l⟩
  · rfl
  · obtain ⟨b, off, e, _⟩ := h.cells 0 (by simp)
    cases e
theorem ints_append (l m : List Int) : ints l ++ ints m = ints (l ++ m) := by unfold ints; rw [List.map_append]
theorem ints_oneCell (l : List Int) : ∀ u ∈ ints l, u.oneCell' = true := by
  intro u hu
  unfold ints at hu
  obtain ⟨x, _, rfl⟩ := List.mem_map.1 hu
  rfl
theorem ints_length (l : List Int) : (ints l).length = l.length := by simp [ints]

/-- append, onto a slice of ints that the call has made, of ints that may be nil, empty or lie anywhere -/
theorem wpList_append_ints {P : Program} {w : World} {ops : Array Oper} {rest : List Oper} {o : Oper} {a : Act} {Q : Exit → Act → World → Prop} (hgd : o.guard = none) (s x : Operand) (t : TypeId)
    (ho : o.op = .call { callee := .builtin .append, args := #[s, x], argTypes := #[t, t] })
    (base : Nat) (e : TypeId) (i : TypeInfo) (ht : P.underlying t = some (.slice e)) (hi : P.info? e = some i) (hz : i.zero = some (.int .i64 0)) (hsize : i.size = 1) (hby : i.bytes = 8)
    (A : Option Addr) (c : Nat) (l : List Int) (hs : a.eval s = .slice A l.length c) (hown : OwnsI e w base A c l)
    (B : Nat) (A' : Option Addr) (c' : Nat) (m : List Int) (hx : a.eval x = .slice A' m.length c') (hnil : A' = none → c' = 0) (hr : IsInts w B A' m)
    (hbytes : (l.length + m.length) * 8 ≤ 140737488355328) (hbase : base ≤ w.heap.size)
    (h : ∀ A2 c2 w', OwnsI e w' base A2 c2 (l ++ m) → w.grownBy w' (Value.slice A l.length c).ownBlock → wpList P ops Q rest (a.put o.dst (.slice A2 (l.length + m.length) c2)) w') : wpList P ops Q (o :: rest) a w := by
  have hsm : ∀ y ∈ l ++ m, InInt y := fun y hy => by
    rcases List.mem_append.1 hy with hy | hy
    · exact hown.small y hy
    · exact hr.small y hy
  rcases A' with _ | ad
  · obtain rfl := hr.of_none
    obtain rfl := hnil rfl
    refine wpList_append_own_none hgd s x t ho base e i 1 ht hi _ l.length (ints l) hs hown.row hx ?_
    exact h A c w ⟨hsm, by simpa using hown.row⟩ (World.grownBy.refl w _)
  · refine wpList_append_own w hgd s x t ho base e i (.int .i64 0) 1 8 ht hi hz hsize hby rfl (by decide) _ l.length (ints l) hs hown.row ad m.length c' (ints m) hx (by rw [ints_length]; omega) hr.news (ints_oneCell m) (by unfold maxLen; omega) (by omega) hbase ?_
    intro v' w' h1 h2 _
    obtain ⟨A2, c2, rfl⟩ := own_slice h1
    rw [ints_append] at h1
    exact h A2 c2 w' ⟨hsm, by rw [List.length_append]; exact h1⟩ h2
end Go.Proofs.YtpigekbfngalbaaDoor
namespace Go.Proofs.YtpigekbfngalbaaDoor
open Go.RowKit

theorem ret_len {A : Option Addr} {n m c : Nat} (h : n = m) : Ending.returned (.slice A n c) = .returned (.slice A m c) := by rw [h]
theorem grown_trans {a b c : World} {row row' : Option Nat} (h : a.grownBy b row) (h' : b.grownBy c row') (hr : ∀ k, row' = some k → k < a.heap.size → row = some k) : a.grownBy c row :=
  ⟨h'.os.trans h.os, h'.tape.trans h.tape, h'.output.trans h.output, Nat.le_trans h.size h'.size, fun k hk hne =>
    (h'.block k (Nat.lt_of_lt_of_le hk h.size) (fun e => hne (hr k e.symm hk).symm)).trans (h.block k hk hne)⟩
theorem grown_below {a b : World} (h : Below a.heap.size a b) (row : Option Nat) : a.grownBy b row := ⟨h.os, h.tape, h.output, h.size, fun k hk _ => h.block k hk⟩
theorem grown_then {a b c : World} {row : Option Nat} (h : a.grownBy b row) (h' : Below a.heap.size b c) : a.grownBy c row :=
  ⟨h'.os.trans h.os, h'.tape.trans h.tape, h'.output.trans h.output, Nat.le_trans h.size h'.size, fun k hk hne => (h'.block k hk).trans (h.block k hk hne)⟩
theorem grown_setCell (w : World) (g k : Nat) (u : Value) : w.grownBy (w.setCell ⟨g, k, none⟩ u) (some g) :=
  ⟨rfl, rfl, rfl, by simp [World.setCell], fun j _ hne => Below.heap_setCell _ _ _ _ (fun e => hne (by rw [e]))⟩
theorem grown_drewN {a b : World} {row : Option Nat} (h : a.grownBy b row) (n : Nat) : a.grownBy (b.drewN n) row := ⟨h.os, h.tape, h.output, h.size, h.block⟩
theorem grown_drew {a b : World} {row : Option Nat} (h : a.grownBy b row) : a.grownBy b.drew row := ⟨h.os, h.tape, h.output, h.size, h.block⟩
theorem grown_refl (a : World) (row : Option Nat) : a.grownBy a row := World.grownBy.refl a row
theorem below_grown {B : Nat} {a b : World} {row : Option Nat} (h : a.grownBy b row) (hB : B ≤ a.heap.size) (hr : ∀ k, row = some k → B ≤ k) : Below B a b := (Below.refl B a).grown h hB hr

theorem IsBytes.grown {w w' : World} {B : Nat} {A : Option Addr} {l : List Nat} {row : Option Nat} (h : IsBytes w B A l) (hg : w.grownBy w' row) (hB : B ≤ w.heap.size) (hr : ∀ k, row = some k → B ≤ k) : IsBytes w' B A l :=
  h.below (below_grown hg hB hr)
theorem IsInts.grown {w w' : World} {B : Nat} {A : Option Addr} {l : List Int} {row : Option Nat} (h : IsInts w B A l) (hg : w.grownBy w' row) (hB : B ≤ w.heap.size) (hr : ∀ k, row = some k → B ≤ k) : IsInts w' B A l :=
  h.below (below_grown hg hB hr)
theorem OwnsB.grown {e : TypeId} {w w' : World} {base c : Nat} {A : Option Addr} {l : List Nat} {row : Option Nat} (h : OwnsB e w base A c l) (hg : w.grownBy w' row) (hr : ∀ k, row = some k → k < base) : OwnsB e w' base A c l := by
  refine ⟨h.small, h.row.kept hg ?_⟩
  rcases ho : (Value.slice A l.length c).ownBlock with _ | g
  · exact .inl rfl
  · exact .inr (fun e => by have := hr g e.symm; have := (h.row.lt g ho).1; omega)
theorem OwnsI.grown {e : TypeId} {w w' : World} {base c : Nat} {A : Option Addr} {l : List Int} {row : Option Nat} (h : OwnsI e w base A c l) (hg : w.grownBy w' row) (hr : ∀ k, row = some k → k < base) : OwnsI e w' base A c l := by
  refine ⟨h.small, h.row.kept hg ?_⟩
  rcases ho : (Value.slice A l.length c).ownBlock with _ | g
  · exact .inl rfl
  · exact .inr (fun e => by have := hr g e.symm; have := (h.row.lt g ho).1; omega)
/-- what the call owns from a block on lies at that block or behind it -/
theorem OwnsB.rowLt {e : TypeId} {w : World} {base c : Nat} {A : Option Addr} {l : List Nat} (h : OwnsB e w base A c l) : ∀ k, (Value.slice A l.length c).ownBlock = some k → base ≤ k ∧ k < w.heap.size := h.row.lt
theorem OwnsI.rowLt {e : TypeId} {w : World} {base c : Nat} {A : Option Addr} {l : List Int} (h : OwnsI e w base A c l) : ∀ k, (Value.slice A l.length c).ownBlock = some k → base ≤ k ∧ k < w.heap.size := h.row.lt
theorem OwnsB.weaken {e : TypeId} {w : World} {base base' c : Nat} {A : Option Addr} {l : List Nat} (h : OwnsB e w base A c l) (hb : base' ≤ base) : OwnsB e w base' A c l := by
  refine ⟨h.small, h.row.1, ?_⟩
  rcases h.row.2 with h0 | ⟨g, cap, cur, h1, h2, h3⟩
  · exact .inl h0
  · exact .inr ⟨g, cap, cur, h1, by omega, h3⟩
theorem OwnsI.weaken {e : TypeId} {w : World} {base base' c : Nat} {A : Option Addr} {l : List Int} (h : OwnsI e w base A c l) (hb : base' ≤ base) : OwnsI e w base' A c l := by
  refine ⟨h.small, h.row.1, ?_⟩
  rcases h.row.2 with h0 | ⟨g, cap, cur, h1, h2, h3⟩
  · exact .inl h0
  · exact .inr ⟨g, cap, cur, h1, by omega, h3⟩
theorem OwnsB.alloc {e : TypeId} {w : World} {base c : Nat} {A : Option Addr} {l : List Nat} (h : OwnsB e w base A c l) (o : Obj) : OwnsB e (w.alloc o) base A c l := ⟨h.small, h.row.alloc o⟩
theorem OwnsI.alloc {e : TypeId} {w : World} {base c : Nat} {A : Option Addr} {l : List Int} (h : OwnsI e w base A c l) (o : Obj) : OwnsI e (w.alloc o) base A c l := ⟨h.small, h.row.alloc o⟩
theorem OwnsB.nil (e : TypeId) (w : World) (base : Nat) : OwnsB e w base none 0 [] := ⟨by simp, World.ownsRow_nil _ _ _ _⟩
theorem OwnsI.nil (e : TypeId) (w : World) (base : Nat) : OwnsI e w base none 0 [] := ⟨by simp, World.ownsRow_nil _ _ _ _⟩
/-- append of bytes, the length of what is there said apart -/
theorem wpList_append_bytesN {P : Program} {w : World} {ops : Array Oper} {rest : List Oper} {o : Oper} {a : Act} {Q : Exit → Act → World → Prop} (hgd : o.guard = none) (s x : Operand) (t : TypeId)
    (ho : o.op = .call { callee := .builtin .append, args := #[s, x], argTypes := #[t, t] })
    (base : Nat) (e : TypeId) (i : TypeInfo) (ht : P.underlying t = some (.slice e)) (hi : P.info? e = some i) (hz : i.zero = some (.int .u8 0)) (hsize : i.size = 1) (hby : i.bytes = 1)
    (A : Option Addr) (c : Nat) (l : List Nat) (n : Nat) (hln : l.length = n) (hs : a.eval s = .slice A n c) (hown : OwnsB e w base A c l)
    (B : Nat) (A' : Option Addr) (c' : Nat) (m : List Nat) (k : Nat) (hmk : m.length = k) (hx : a.eval x = .slice A' k c') (hnil : A' = none → c' = 0) (hr : IsBytes w B A' m)
    (L : List Nat) (hL : l ++ m = L) (hbytes : n + k ≤ 140737488355328) (hbase : base ≤ w.heap.size)
    (h : ∀ A2 c2 w', OwnsB e w' base A2 c2 L → Below base w w' → wpList P ops Q rest (a.put o.dst (.slice A2 (n + k) c2)) w') : wpList P ops Q (o :: rest) a w := by
  subst hln
  subst hmk
  subst hL
  exact wpList_append_bytes hgd s x t ho base e i ht hi hz hsize hby A c l hs hown B A' c' m hx hnil hr hbytes hbase fun A2 c2 w' h1 h2 => h A2 c2 w' h1 (below_grown h2 hbase fun k hk => (hown.row.lt k hk).1)
theorem wpList_append_intsN {P : Program} {w : World} {ops : Array Oper} {rest : List Oper} {o : Oper} {a : Act} {Q : Exit → Act → World → Prop} (hgd : o.guard = none) (s x : Operand) (t : TypeId)
    (ho : o.op = .call { callee := .builtin .append, args := #[s, x], argTypes := #[t, t] })
    (base : Nat) (e : TypeId) (i : TypeInfo) (ht : P.underlying t = some (.slice e)) (hi : P.info? e = some i) (hz : i.zero = some (.int .i64 0)) (hsize : i.size = 1) (hby : i.bytes = 8)
    (A : Option Addr) (c : Nat) (l : List Int) (n : Nat) (hln : l.length = n) (hs : a.eval s = .slice A n c) (hown : OwnsI e w base A c l)
    (B : Nat) (A' : Option Addr) (c' : Nat) (m : List Int) (k : Nat) (hmk : m.length = k) (hx : a.eval x = .slice A' k c') (hnil : A' = none → c' = 0) (hr : IsInts w B A' m)
    (L : List Int) (hL : l ++ m = L) (hbytes : (n + k) * 8 ≤ 140737488355328) (hbase : base ≤ w.heap.size)
    (h : ∀ A2 c2 w', OwnsI e w' base A2 c2 L → Below base w w' → wpList P ops Q rest (a.put o.dst (.slice A2 (n + k) c2)) w') : wpList P ops Q (o :: rest) a w := by
  subst hln
  subst hmk
  subst hL
  exact wpList_append_ints hgd s x t ho base e i ht hi hz hsize hby A c l hs hown B A' c' m hx hnil hr hbytes hbase fun A2 c2 w' h1 h2 => h A2 c2 w' h1 (below_grown h2 hbase fun k hk => (hown.row.lt k hk).1)
/-- append of one byte that the walk has just laid into a block of its own -/
theorem wpList_append_byteN {P : Program} {w : World} {ops : Array Oper} {rest : List Oper} {o : Oper} {a : Act} {Q : Exit → Act → World → Prop} (hgd : o.guard = none) (s x : Operand) (t : TypeId)
    (ho : o.op = .call { callee := .builtin .append, args := #[s, x], argTypes := #[t, t] })
    (base : Nat) (e : TypeId) (i : TypeInfo) (ht : P.underlying t = some (.slice e)) (hi : P.info? e = some i) (hz : i.zero = some (.int .u8 0)) (hsize : i.size = 1) (hby : i.bytes = 1)
    (A : Option Addr) (c : Nat) (l : List Nat) (n : Nat) (hln : l.length = n) (hs : a.eval s = .slice A n c) (hown : OwnsB e w base A c l)
    (ad : Addr) (c' : Nat) (y : Nat) (v : Int) (hyv : v = (y : Int)) (hy : y < 256) (hx : a.eval x = .slice (some ad) 1 c') (hc : w.cell? ad = some (.int .u8 v))
    (L : List Nat) (hL : l ++ [y] = L) (hbytes : n + 1 ≤ 140737488355328) (hbase : base ≤ w.heap.size)
    (h : ∀ A2 c2 w', OwnsB e w' base A2 c2 L → Below base w w' → wpList P ops Q rest (a.put o.dst (.slice A2 (n + 1) c2)) w') : wpList P ops Q (o :: rest) a w := by
  subst hln
  subst hL
  subst hyv
  refine wpList_append_own w hgd s x t ho base e i (.int .u8 0) 1 1 ht hi hz hsize hby rfl (by decide) _ l.length (bytes l) hs hown.row ad 1 c' [.int .u8 (y : Int)] hx rfl ?_ ?_ (by unfold maxLen; omega) (by omega) hbase ?_
  · intro j u hj
    match j, hj with
    | 0, hj => simp at hj; subst hj; simpa [Addr.add] using hc
  · intro u hu; simp at hu; subst hu; rfl
  · intro v' w' h1 h2 _
    obtain ⟨A2, c2, rfl⟩ := own_slice h1
    have e2 : bytes l ++ [Value.int .u8 (y : Int)] = bytes (l ++ [y]) := by unfold bytes; simp
    rw [e2] at h1
    refine h A2 c2 w' ⟨fun z hz => ?_, by rw [List.length_append]; exact h1⟩ (below_grown h2 hbase fun k hk => (hown.row.lt k hk).1)
    rcases List.mem_append.1 hz with hz | hz
    · exact hown.small z hz
    · simp at hz; subst hz; exact hy
theorem wpList_append_intN {P : Program} {w : World} {ops : Array Oper} {rest : List Oper} {o : Oper} {a : Act} {Q : Exit → Act → World → Prop} (hgd : o.guard = none) (s x : Operand) (t : TypeId)
    (ho : o.op = .call { callee := .builtin .append, args := #[s, x], argTypes := #[t, t] })
    (base : Nat) (e : TypeId) (i : TypeInfo) (ht : P.underlying t = some (.slice e)) (hi : P.info? e = some i) (hz : i.zero = some (.int .i64 0)) (hsize : i.size = 1) (hby : i.bytes = 8)
    (A : Option Addr) (c : Nat) (l : List Int) (n : Nat) (hln : l.length = n) (hs : a.eval s = .slice A n c) (hown : OwnsI e w base A c l)
    (ad : Addr) (c' : Nat) (v : Int) (hv : InInt v) (hx : a.eval x = .slice (some ad) 1 c') (hc : w.cell? ad = some (.int .i64 v))
    (L : List Int) (hL : l ++ [v] = L) (hbytes : (n + 1) * 8 ≤ 140737488355328) (hbase : base ≤ w.heap.size)
    (h : ∀ A2 c2 w', OwnsI e w' base A2 c2 L → Below base w w' → wpList P ops Q rest (a.put o.dst (.slice A2 (n + 1) c2)) w') : wpList P ops Q (o :: rest) a w := by
  subst hln
  subst hL
  refine wpList_append_own w hgd s x t ho base e i (.int .i64 0) 1 8 ht hi hz hsize hby rfl (by decide) _ l.length (ints l) hs hown.row ad 1 c' [.int .i64 v] hx rfl ?_ ?_ (by unfold maxLen; omega) (by omega) hbase ?_
  · intro j u hj
    match j, hj with
    | 0, hj => simp at hj; subst hj; simpa [Addr.add] using hc
  · intro u hu; simp at hu; subst hu; rfl
  · intro v' w' h1 h2 _
    obtain ⟨A2, c2, rfl⟩ := own_slice h1
    have e2 : ints l ++ [Value.int .i64 v] = ints (l ++ [v]) := by unfold ints; simp
    rw [e2] at h1
    refine h A2 c2 w' ⟨fun z hz => ?_, by rw [List.length_append]; exact h1⟩ (below_grown h2 hbase fun k hk => (hown.row.lt k hk).1)
    rcases List.mem_append.1 hz with hz | hz
    · exact hown.small z hz
    · simp at hz; subst hz; exact hv
/-- the block that an address lies in -/
def blk : Option Addr → Option Nat
  | some a => some a.block
  | none => none
theorem ownBlock_slice (A : Option Addr) (n c : Nat) : (Value.slice A n c).ownBlock = blk A := by cases A <;> rfl
/-- the same as wpList_append_byteN; and where the bytes lie from then on is said -/
theorem wpList_append_byteAt {P : Program} {w : World} {ops : Array Oper} {rest : List Oper} {o : Oper} {a : Act} {Q : Exit → Act → World → Prop} (hgd : o.guard = none) (s x : Operand) (t : TypeId)
    (ho : o.op = .call { callee := .builtin .append, args := #[s, x], argTypes := #[t, t] })
    (base : Nat) (e : TypeId) (i : TypeInfo) (ht : P.underlying t = some (.slice e)) (hi : P.info? e = some i) (hz : i.zero = some (.int .u8 0)) (hsize : i.size = 1) (hby : i.bytes = 1)
    (A : Option Addr) (c : Nat) (l : List Nat) (n : Nat) (hln : l.length = n) (hs : a.eval s = .slice A n c) (hown : OwnsB e w base A c l)
    (ad : Addr) (c' : Nat) (y : Nat) (v : Int) (hyv : v = (y : Int)) (hy : y < 256) (hx : a.eval x = .slice (some ad) 1 c') (hc : w.cell? ad = some (.int .u8 v))
    (L : List Nat) (hL : l ++ [y] = L) (hbytes : n + 1 ≤ 140737488355328) (hbase : base ≤ w.heap.size)
    (h : ∀ A2 c2 w', OwnsB e w' base A2 c2 L → Below base w w' → w.grownBy w' (blk A) → (blk A2 = blk A ∨ blk A2 = some w.heap.size) → wpList P ops Q rest (a.put o.dst (.slice A2 (n + 1) c2)) w') : wpList P ops Q (o :: rest) a w := by
  subst hln
  subst hL
  subst hyv
  refine wpList_append_own_at w hgd s x t ho base e i (.int .u8 0) 1 1 ht hi hz hsize hby rfl (by decide) _ l.length (bytes l) hs hown.row ad 1 c' [.int .u8 (y : Int)] hx rfl ?_ ?_ (by unfold maxLen; omega) (by omega) hbase ?_
  · intro j u hj
    match j, hj with
    | 0, hj => simp at hj; subst hj; simpa [Addr.add] using hc
  · intro u hu; simp at hu; subst hu; rfl
  · intro v' w' h1 h2 _ h4
    obtain ⟨A2, c2, rfl⟩ := own_slice h1
    have e2 : bytes l ++ [Value.int .u8 (y : Int)] = bytes (l ++ [y]) := by unfold bytes; simp
    rw [e2] at h1
    rw [ownBlock_slice, ownBlock_slice] at h4
    refine h A2 c2 w' ⟨fun z hz => ?_, by rw [List.length_append]; exact h1⟩ (below_grown h2 hbase fun k hk => (hown.row.lt k hk).1) (by rw [← ownBlock_slice A l.length c]; exact h2) h4
    rcases List.mem_append.1 hz with hz | hz
    · exact hown.small z hz
    · simp at hz; subst hz; exact hy
/-- a list that the text spells out, in a block of its own -/
theorem isBytes_new (w : World) (l : List Nat) (hs : ∀ x ∈ l, x < 256) (t : TypeId) (fr : Nat × Nat) :
    IsBytes (w.alloc (.cells (bytes l).toArray t fr)) (w.heap.size + 1) (some ⟨w.heap.size, 0, none⟩) l :=
  ⟨hs, fun _ _ => ⟨w.heap.size, 0, rfl, by omega, fun i hi => by
    rw [cell_of_row _ w.heap.size (0 + i) (bytes l).toArray t fr (heap_alloc_new w _), Nat.zero_add, List.getElem?_toArray]
    exact bytes_get l i hi⟩⟩
theorem isInts_new (w : World) (l : List Int) (hs : ∀ x ∈ l, InInt x) (t : TypeId) (fr : Nat × Nat) :
    IsInts (w.alloc (.cells (ints l).toArray t fr)) (w.heap.size + 1) (some ⟨w.heap.size, 0, none⟩) l :=
  ⟨hs, fun _ _ => ⟨w.heap.size, 0, rfl, by omega, fun i hi => by
    rw [cell_of_row _ w.heap.size (0 + i) (ints l).toArray t fr (heap_alloc_new w _), Nat.zero_add, List.getElem?_toArray]
    exact ints_get l i hi⟩⟩
/-- what the call owns: where it has no address it has no room -/
theorem OwnsB.none_ {e : TypeId} {w : World} {base c : Nat} {A : Option Addr} {l : List Nat} (h : OwnsB e w base A c l) : A = none → c = 0 := by
  rintro rfl
  rcases h.row.2 with ⟨hv, _⟩ | ⟨g, cap, cur, hv, _⟩
  · injection hv
  · cases hv
theorem OwnsB.grownN {e : TypeId} {w w' : World} {base c g : Nat} {l : List Nat} {row : Option Nat} (h : OwnsB e w base (some ⟨g, 0, none⟩) c l) (hg : w.grownBy w' row) (hne : row ≠ some g) : OwnsB e w' base (some ⟨g, 0, none⟩) c l :=
  ⟨h.small, h.row.kept hg (.inr fun e => hne e.symm)⟩
/-- where what the call owns lies -/
theorem OwnsB.blkLt {e : TypeId} {w : World} {base c : Nat} {A : Option Addr} {l : List Nat} (h : OwnsB e w base A c l) : ∀ k, blk A = some k → base ≤ k ∧ k < w.heap.size := by
  intro k hk; exact h.rowLt k (by rw [ownBlock_slice]; exact hk)
theorem OwnsI.blkLt {e : TypeId} {w : World} {base c : Nat} {A : Option Addr} {l : List Int} (h : OwnsI e w base A c l) : ∀ k, blk A = some k → base ≤ k ∧ k < w.heap.size := by
  intro k hk; exact h.rowLt k (by rw [ownBlock_slice]; exact hk)
end Go.Proofs.YtpigekbfngalbaaDoor
