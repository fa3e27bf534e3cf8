/- What the walks say of memory: a slice of bytes that reads as a list of numbers below 256. -/
import Derived.WalkKit
import Derived.WalkSpells
import Derived.Deep.Draws
import Derived.Laws.AppendOwnNone
namespace Go.Proofs.YtmaebemhephcmaaDoor
open Go.RowKit

/-- a fact that the walk must not take for a rule -/
theorem hid {p : Prop} (h : p) : Hid p := h

theorem below_drewN {B : Nat} {a w : World} (h : Below B a w) (n : Nat) : Below B a (w.drewN n) := ⟨h.os, h.tape, h.output, h.size, h.block⟩

/-- the values of bytes -/
def bytes (l : List Nat) : List Value := l.map fun (x : Nat) => Value.int .u8 (x : Int)

/-- Below block B of the world w, a slice of bytes at the address A holds the numbers l (an empty one may lie anywhere). -/
structure IsBytes (w : World) (B : Nat) (A : Option Addr) (l : List Nat) : Prop where
  small : ∀ x ∈ l, x < 256
  cells : ∀ k, k < l.length → ∃ b off, A = some ⟨b, off, none⟩ ∧ b < B ∧ ∀ i (h : i < l.length), w.cell? ⟨b, off + i, none⟩ = some (.int .u8 (l[i] : Nat))

namespace IsBytes
variable {w w' : World} {B B' : Nat} {A : Option Addr} {l : List Nat}
theorem nil : IsBytes w B A [] := ⟨by simp, fun k h => by simp at h⟩
theorem keep (h : IsBytes w B A l) (hk : ∀ p : Addr, p.block < B → w'.cell? p = w.cell? p) : IsBytes w' B A l :=
  ⟨h.small, fun k hl => by
    obtain ⟨b, off, e, hb, hc⟩ := h.cells k hl
    exact ⟨b, off, e, hb, fun i hi => (hk _ hb).trans (hc i hi)⟩⟩
theorem more (h : IsBytes w B A l) (hB : B ≤ B') : IsBytes w B' A l :=
  ⟨h.small, fun k hl => by
    obtain ⟨b, off, e, hb, hc⟩ := h.cells k hl
    exact ⟨b, off, e, by omega, hc⟩⟩
theorem below (h : IsBytes w B A l) (hb : Below B w w') : IsBytes w' B A l := h.keep fun _ hp => hb.cell hp
theorem take (h : IsBytes w B A l) (n : Nat) : IsBytes w B A (l.take n) := by
  refine ⟨fun x hx => h.small x (List.mem_of_mem_take hx), fun k hk => ?_⟩
  rw [List.length_take] at hk
  obtain ⟨b, off, e, hb, hc⟩ := h.cells k (by omega)
  refine ⟨b, off, e, hb, fun i hi => ?_⟩
  rw [List.length_take] at hi
  rw [List.getElem_take]
  exact hc i (by omega)
theorem drewN (h : IsBytes w B A l) (n : Nat) : IsBytes (w.drewN n) B A l := ⟨h.small, h.cells⟩
theorem drew (h : IsBytes w B A l) : IsBytes w.drew B A l := ⟨h.small, h.cells⟩
end IsBytes
theorem isBytes_of_ints {W : World} {x : Addr} {len cap : Nat} {zs : List Int} (hl : len ≤ cap) (hz : zs.length = cap)
    (hcell : ∀ i, i < zs.length → W.cell? (x.add i) = some (.int .u8 (zs.getD i 0))) (hwz : ∀ n ∈ zs, (Lit.int .u8 n).wf = true) :
    ∃ l : List Nat, IsBytes W W.heap.size (some x) l ∧ len = l.length := by
  have hb : ∀ n ∈ zs, 0 ≤ n ∧ n < 256 := fun n hn => by
    have := hwz n hn
    simp [Lit.wf, IntKind.min, IntKind.max, IntKind.signed, IntKind.bits] at this
    omega
  refine ⟨(zs.take len).map Int.toNat, ⟨fun y hy => ?_, fun k hk => ?_⟩, by simp; omega⟩
  · obtain ⟨n, hn, rfl⟩ := List.mem_map.1 hy
    have := hb n (List.mem_of_mem_take hn)
    omega
  · have hk' : k < zs.length := by simp at hk; omega
    obtain ⟨b, off, spot⟩ := x
    have hspot : spot = none := by
      have := World.cell?_spot (hcell 0 (by omega))
      simpa [Addr.add] using this
    subst hspot
    have hadd : ∀ i, (⟨b, off, none⟩ : Addr).add i = ⟨b, off + i, none⟩ := fun i => by unfold Addr.add; split <;> simp [*]
    have hc : ∀ i, i < zs.length → W.cell? ⟨b, off + i, none⟩ = some (.int .u8 (zs.getD i 0)) := fun i hi => by rw [← hadd]; exact hcell i hi
    refine ⟨b, off, rfl, World.block_lt_of_cell? _ _ (hc k hk'), fun i hi => ?_⟩
    have hi' : i < zs.length := by simp at hi; omega
    rw [hc i hi', List.getElem_map, List.getElem_take, Int.toNat_of_nonneg (hb _ (List.getElem_mem hi')).1, List.getD_eq_getElem?_getD, List.getElem?_eq_getElem hi']
    rfl

/-- A slice of bytes (e: the number of the type uint8), at A, of capacity c, that the call itself has made: its block is not below base. -/
structure OwnsB (e : TypeId) (w : World) (base : Nat) (A : Option Addr) (c : Nat) (l : List Nat) : Prop where
  small : ∀ x ∈ l, x < 256
  row : w.ownsRow base e 1 (.slice A l.length c) l.length (bytes l)

theorem bytes_get (l : List Nat) (k : Nat) (h : k < l.length) : (bytes l)[k]? = some (.int .u8 (l[k] : Nat)) := by
  unfold bytes; rw [List.getElem?_map, List.getElem?_eq_getElem h]; rfl

theorem own_slice {w : World} {base : Nat} {e : TypeId} {size n : Nat} {v : Value} {xs : List Value} (h : w.ownsRow base e size v n xs) : ∃ A c, v = .slice A n c := by
  rcases h.2 with ⟨rfl, h0⟩ | ⟨g, cap, cur, rfl, _⟩
  · exact ⟨none, 0, by rw [h0]⟩
  · exact ⟨_, _, rfl⟩

namespace OwnsB
variable {e : TypeId} {w w' : World} {base : Nat} {A : Option Addr} {c : Nat} {l : List Nat}
theorem reads (h : OwnsB e w base A c l) : IsBytes w w.heap.size A l := by
  refine ⟨h.small, fun k hk => ?_⟩
  rcases h.row.2 with ⟨_, h0⟩ | ⟨g, cap, cur, hv, hg, hh, _, _, _, _⟩
  · omega
  · have hA : A = some ⟨g, 0, none⟩ ∧ c = cap := by injection hv with h1 h2 h3; exact ⟨h1, h3⟩
    obtain ⟨rfl, rfl⟩ := hA
    refine ⟨g, 0, rfl, (h.row.lt g rfl).2, fun i hi => ?_⟩
    have := h.row.cells (g := g) rfl i _ (bytes_get l i hi)
    have e : (⟨g, 0, none⟩ : Addr).add i = ⟨g, 0 + i, none⟩ := by unfold Addr.add; split <;> simp [*]
    rw [e] at this
    exact this
theorem drew (h : OwnsB e w base A c l) : OwnsB e w.drew base A c l := ⟨h.small, h.row⟩
theorem drewN (h : OwnsB e w base A c l) (n : Nat) : OwnsB e (w.drewN n) base A c l := ⟨h.small, h.row⟩
theorem cap (h : OwnsB e w base A c l) : l.length ≤ c := by
  rcases h.row.2 with ⟨_, h0⟩ | ⟨g, cap, cur, hv, _, _, hc, _, _, _⟩
  · omega
  · have : c = cap := by injection hv
    omega
theorem below (h : OwnsB e w base A c l) (hb : Below w.heap.size w w') : OwnsB e w' base A c l := by
  refine ⟨h.small, h.row.kept (row := none) ⟨hb.os, hb.tape, hb.output, hb.size, fun k hk _ => hb.block k hk⟩ ?_⟩
  rcases ho : (Value.slice A l.length c).ownBlock with _ | g
  · exact .inl rfl
  · exact .inr (by simp)
theorem at_ (h : OwnsB e w base A c l) {k : Nat} (hk : k < l.length) : ∃ g, A = some ⟨g, 0, none⟩ ∧ base ≤ g ∧ g < w.heap.size ∧
    w.cell? ⟨g, k, none⟩ = some (.int .u8 (l[k] : Nat)) ∧ w.frozen? ⟨g, k, none⟩ = false := by
  rcases h.row.2 with ⟨_, h0⟩ | ⟨g, cap, cur, hv, hg, hh, _, _, _, _⟩
  · omega
  · have hA : A = some ⟨g, 0, none⟩ ∧ c = cap := by injection hv with h1 h2 h3; exact ⟨h1, h3⟩
    obtain ⟨rfl, rfl⟩ := hA
    refine ⟨g, rfl, hg, (h.row.lt g rfl).2, ?_, h.row.frozenAt k⟩
    rw [h.row.cellAt k (by omega)]
    exact bytes_get l k hk
theorem set_ {g : Nat} (h : OwnsB e w base (some ⟨g, 0, none⟩) c l) (k x : Nat) (hx : x < 256) :
    OwnsB e (w.setCell ⟨g, k, none⟩ (.int .u8 (x : Int))) base (some ⟨g, 0, none⟩) c (l.set k x) := by
  refine ⟨fun y hy => ?_, ?_⟩
  · rcases List.mem_or_eq_of_mem_set hy with hy | rfl
    · exact h.small y hy
    · exact hx
  · have := h.row.stored k (.int .u8 (x : Int))
    rw [List.length_set]
    rw [show bytes (l.set k x) = (bytes l).set k (.int .u8 (x : Int)) from by unfold bytes; rw [List.map_set]]
    exact this.1
end OwnsB
theorem IsBytes.news {w : World} {B : Nat} {ad : Addr} {l : List Nat} (h : IsBytes w B (some ad) l) : ∀ j u, (bytes l)[j]? = some u → w.cell? (ad.add j) = some u := by
  intro j u hu
  have hj : j < l.length := by
    have := (List.getElem?_eq_some_iff.1 hu).1
    simpa [bytes] using this
  obtain ⟨b, off, e, _, hc⟩ := h.cells j hj
  injection e with e
  subst e
  rw [bytes_get l j hj] at hu
  have hadd : (⟨b, off, none⟩ : Addr).add j = ⟨b, off + j, none⟩ := by unfold Addr.add; split <;> simp [*]
  rw [hadd, hc j hj]
  exact hu
theorem IsBytes.of_none {w : World} {B : Nat} {l : List Nat} (h : IsBytes w B none l) : l = [] := by
  rcases l with _ | ⟨x, l⟩
  · rfl
  · obtain ⟨b, off, e, _⟩ := h.cells 0 (by simp)
    cases e
theorem bytes_append (l m : List Nat) : bytes l ++ bytes m = bytes (l ++ m) := by unfold bytes; rw [List.map_append]
theorem bytes_oneCell (l : List Nat) : ∀ u ∈ bytes l, u.oneCell' = true := by
  intro u hu
  unfold bytes at hu
  obtain ⟨x, _, rfl⟩ := List.mem_map.1 hu
  rfl
theorem bytes_length (l : List Nat) : (bytes l).length = l.length := by simp [bytes]

/-- append, onto a slice of bytes that the call has made, of bytes that may be nil, empty or lie anywhere -/
theorem wpList_append_bytes {P : Program} {w : World} {ops : Array Oper} {rest : List Oper} {o : Oper} {a : Act} {Q : Exit → Act → World → Prop} (hgd : o.guard = none) (s x : Operand) (t : TypeId)
    (ho : o.op = .call { callee := .builtin .append, args := #[s, x], argTypes := #[t, t] })
    (base : Nat) (e : TypeId) (i : TypeInfo) (ht : P.underlying t = some (.slice e)) (hi : P.info? e = some i) (hz : i.zero = some (.int .u8 0)) (hsize : i.size = 1) (hby : i.bytes = 1)
    (A : Option Addr) (c : Nat) (l : List Nat) (hs : a.eval s = .slice A l.length c) (hown : OwnsB e w base A c l)
    (B : Nat) (A' : Option Addr) (c' : Nat) (m : List Nat) (hx : a.eval x = .slice A' m.length c') (hnil : A' = none → c' = 0) (hr : IsBytes w B A' m)
    (hbytes : l.length + m.length ≤ 140737488355328) (hbase : base ≤ w.heap.size)
    (h : ∀ A2 c2 w', OwnsB e w' base A2 c2 (l ++ m) → w.grownBy w' (Value.slice A l.length c).ownBlock → wpList P ops Q rest (a.put o.dst (.slice A2 (l.length + m.length) c2)) w') : wpList P ops Q (o :: rest) a w := by
  have hsm : ∀ y ∈ l ++ m, y < 256 := fun y hy => by
    rcases List.mem_append.1 hy with hy | hy
    · exact hown.small y hy
    · exact hr.small y hy
  rcases A' with _ | ad
  · obtain rfl := hr.of_none
    obtain rfl := hnil rfl
    refine wpList_append_own_none hgd s x t ho base e i 1 ht hi _ l.length (bytes l) hs hown.row hx ?_
    exact h A c w ⟨hsm, by simpa using hown.row⟩ (World.grownBy.refl w _)
  · refine wpList_append_own w hgd s x t ho base e i (.int .u8 0) 1 1 ht hi hz hsize hby rfl (by decide) _ l.length (bytes l) hs hown.row ad m.length c' (bytes m) hx (by rw [bytes_length]; omega) hr.news (bytes_oneCell m) (by unfold maxLen; omega) (by omega) hbase ?_
    intro v' w' h1 h2 _
    obtain ⟨A2, c2, rfl⟩ := own_slice h1
    rw [bytes_append] at h1
    exact h A2 c2 w' ⟨hsm, by rw [List.length_append]; exact h1⟩ h2
theorem ret_int {k : IntKind} {a b : Int} (h : a = b) : Ending.returned (.int k a) = .returned (.int k b) := by rw [h]
theorem add_off (b off m : Nat) : (⟨b, off, none⟩ : Addr).add m = ⟨b, off + m, none⟩ := by unfold Addr.add; split <;> simp [*]
theorem IsBytes.from {w : World} {B b off : Nat} {l : List Nat} (h : IsBytes w B (some ⟨b, off, none⟩) l) (m : Nat) : IsBytes w B (some ⟨b, off + m, none⟩) (l.drop m) := by
  refine ⟨fun x hx => h.small x (List.mem_of_mem_drop hx), fun k hk => ?_⟩
  rw [List.length_drop] at hk
  obtain ⟨b', off', e, hb, hc⟩ := h.cells 0 (by omega)
  injection e with e
  injection e with e1 e2
  subst e1
  subst e2
  refine ⟨b, off + m, rfl, hb, fun i hi => ?_⟩
  rw [List.length_drop] at hi
  rw [List.getElem_drop, Nat.add_assoc]
  exact hc (m + i) (by omega)
end Go.Proofs.YtmaebemhephcmaaDoor
