/- What the walks say of memory: a disk, which lies in blocks of its own. -/
import Derived.Test.YtdgijnolpjaheaaMapOf
import Derived.Test.YtdgijnolpjaheaaKitEq
import Derived.Test.YtdgijnolpjaheaaTurned
namespace Go.Proofs.Ytdgijnolpjaheaa
open Go.RowKit

/-- A slice of bytes of the call's own, that lies in no block of Z. -/
structure OwnsZ (w : World) (Z : Nat → Prop) (A : Option Addr) (c : Nat) (l : List Nat) : Prop where
  own : OwnsB 5 w 0 A c l
  off : ∀ k, blk A = some k → ¬ Z k
namespace OwnsZ
variable {w w' : World} {Z Z' : Nat → Prop} {A : Option Addr} {c : Nat} {l : List Nat}
theorem lt (h : OwnsZ w Z A c l) : ∀ k, blk A = some k → k < w.heap.size := fun k hk => (h.own.blkLt k hk).2
theorem keep (h : OwnsZ w Z A c l) (ht : Turned Z w w') : OwnsZ w' Z A c l := by
  refine ⟨⟨h.own.small, h.own.row.1, ?_⟩, h.off⟩
  rcases h.own.row.2 with h0 | ⟨g, cap, cur, h1, h2, h3, h4⟩
  · exact .inl h0
  · refine .inr ⟨g, cap, cur, h1, h2, ?_, h4⟩
    have hA : A = some ⟨g, 0, none⟩ := by injection h1
    rw [ht.block g (Array.getElem?_eq_some_iff.1 h3).1 (h.off g (by rw [hA]; rfl))]
    exact h3
theorem mono (h : OwnsZ w Z A c l) (hz : ∀ k, Z' k → Z k) : OwnsZ w Z' A c l := ⟨h.own, fun k hk e => h.off k hk (hz k e)⟩
theorem shun (h : OwnsZ w Z A c l) : OwnsZ w (fun k => Z k ∨ w.heap.size ≤ k) A c l := ⟨h.own, fun k hk e => e.elim (h.off k hk) (fun e => by have := h.lt k hk; omega)⟩
theorem shunTag (h : OwnsZ w Z A c l) {g : Nat} {o : Obj} (hg : w.heap[g]? = some o) (ho : ∀ cur, o ≠ .cells cur 5 (0, 0)) : OwnsZ w (fun k => Z k ∨ k = g) A c l := by
  refine ⟨h.own, fun k hk e => e.elim (h.off k hk) (fun e => ?_)⟩
  subst e
  rcases h.own.row.2 with ⟨h0, _⟩ | ⟨g, cap, cur, h1, h2, h3, h4⟩
  · injection h0 with h0; rw [h0] at hk; cases hk
  · have hA : A = some ⟨g, 0, none⟩ := by injection h1
    rw [hA] at hk
    injection hk with hk
    have hk' : g = k := hk
    subst hk'
    rw [h3] at hg
    injection hg with hg
    exact ho cur hg.symm
theorem of {base : Nat} (h : OwnsB 5 w base A c l) : OwnsZ w (fun k => k < base) A c l := ⟨h.weaken (Nat.zero_le _), fun k hk e => by have := (h.blkLt k hk).1; omega⟩
theorem nil (w : World) (Z : Nat → Prop) : OwnsZ w Z none 0 [] := ⟨OwnsB.nil _ _ _, fun k h => by cases h⟩
theorem reads (h : OwnsZ w Z A c l) : IsBytes w w.heap.size A l := h.own.reads
theorem drewN (h : OwnsZ w Z A c l) (n : Nat) : OwnsZ (w.drewN n) Z A c l := ⟨h.own.drewN n, h.off⟩
end OwnsZ

/-- where a disk lies: itself, its sectors' row, its map -/
structure Dk where
  g : Nat
  h : Nat
  m : Nat
def Dk.has (d : Dk) (k : Nat) : Prop := k = d.g ∨ k = d.h ∨ k = d.m

/-- what the map has for a sector -/
def ElemAt (w : World) (Z : Nat → Prop) : Option Value → Option (List Nat) → Prop
  | none, none => True
  | some v, some l => l.length ≤ 64 ∧ ∃ A c, v = .slice A l.length c ∧ OwnsZ w Z A c l
  | _, _ => False
theorem ElemAt.imp {w w' : World} {Z Z' : Nat → Prop} {o : Option Value} {l : Option (List Nat)} (h : ElemAt w Z o l) (hi : ∀ A c l, OwnsZ w Z A c l → OwnsZ w' Z' A c l) : ElemAt w' Z' o l := by
  rcases o with _ | v <;> rcases l with _ | l
  · trivial
  · exact h
  · exact h
  · obtain ⟨h0, A, c, h1, h2⟩ := h
    exact ⟨h0, A, c, h1, hi A c l h2⟩

/-- The disk s lies in d, and in no block of Z. -/
structure DiskAt (w : World) (Z : Nat → Prop) (d : Dk) (s : Sx.St) : Prop where
  bound : 1 ≤ s.n ∧ s.n ≤ 16384
  off : ∀ k, d.has k → ¬ Z k
  left : InInt s.left ∧ (s.armed = true → 0 ≤ s.left)
  disk : w.heap[d.g]? = some (.cells #[.slice (some ⟨d.h, 0, none⟩) s.n s.n, .map (some d.m), .bool s.armed, .int .i64 s.left, .bool s.down] 66 (0, 0))
  row : ∃ cur : Array Value, w.heap[d.h]? = some (.cells cur 92 (0, 0)) ∧ cur.size = s.n * 2 ∧ ∀ i, i < s.n → (s.dur i).1.length ≤ 64 ∧ ∃ A c, cur[i * 2]? = some (.slice A (s.dur i).1.length c) ∧ cur[i * 2 + 1]? = some (.bool (s.dur i).2) ∧ OwnsZ w Z A c (s.dur i).1
  map : ∃ f, w.ownsMap Try.prog 3 Sx.valR d.m s.n (Sx.mapOf s.n f) ∧ ∀ i, i < s.n → ElemAt w Z (f i) (s.cache i)

namespace DiskAt
variable {w w' : World} {Z Z' : Nat → Prop} {d : Dk} {s s' : Sx.St}
theorem glt (h : DiskAt w Z d s) : d.g < w.heap.size := (Array.getElem?_eq_some_iff.1 h.disk).1
theorem hlt (h : DiskAt w Z d s) : d.h < w.heap.size := by obtain ⟨_, h1, _⟩ := h.row; exact (Array.getElem?_eq_some_iff.1 h1).1
theorem mlt (h : DiskAt w Z d s) : d.m < w.heap.size := by obtain ⟨_, h1, _⟩ := h.map; exact h1.lt
theorem lt (h : DiskAt w Z d s) : ∀ k, d.has k → k < w.heap.size := by
  rintro k (rfl | rfl | rfl)
  · exact h.glt
  · exact h.hlt
  · exact h.mlt
theorem g_ne_h (h : DiskAt w Z d s) : d.g ≠ d.h := by
  intro e
  obtain ⟨cur, h1, _⟩ := h.row
  have h2 := h.disk
  rw [e, h1] at h2
  have h3 := (Obj.cells.inj (Option.some.inj h2)).2.1
  revert h3; decide
theorem g_ne_m (h : DiskAt w Z d s) : d.g ≠ d.m := by
  intro e
  obtain ⟨f, ⟨es, clock, h1, _⟩, _⟩ := h.map
  have h2 := h.disk
  rw [e, h1] at h2
  cases h2
theorem h_ne_m (h : DiskAt w Z d s) : d.h ≠ d.m := by
  intro e
  obtain ⟨cur, h2, _⟩ := h.row
  obtain ⟨f, ⟨es, clock, h1, _⟩, _⟩ := h.map
  rw [e, h1] at h2
  cases h2
theorem imp (h : DiskAt w Z d s) (hb : ∀ k, d.has k → w'.heap[k]? = w.heap[k]?) (ho : ∀ k, d.has k → ¬ Z' k) (hi : ∀ A c l, OwnsZ w Z A c l → OwnsZ w' Z' A c l) : DiskAt w' Z' d s := by
  refine ⟨h.bound, ho, h.left, (hb _ (.inl rfl)).trans h.disk, ?_, ?_⟩
  · obtain ⟨cur, h1, h2, h3⟩ := h.row
    refine ⟨cur, (hb _ (.inr (.inl rfl))).trans h1, h2, fun i hi' => ?_⟩
    obtain ⟨h4, A, c, h5, h6, h7⟩ := h3 i hi'
    exact ⟨h4, A, c, h5, h6, hi _ _ _ h7⟩
  · obtain ⟨f, ⟨es, clock, h1, h2⟩, h3⟩ := h.map
    exact ⟨f, ⟨es, clock, (hb _ (.inr (.inr rfl))).trans h1, h2⟩, fun i hi' => (h3 i hi').imp hi⟩
theorem keep (h : DiskAt w Z d s) (ht : Turned Z w w') : DiskAt w' Z d s := h.imp (fun k hk => ht.block k (h.lt k hk) (h.off k hk)) h.off (fun _ _ _ h => h.keep ht)
theorem mono (h : DiskAt w Z d s) (hz : ∀ k, Z' k → Z k) : DiskAt w Z' d s := h.imp (fun _ _ => rfl) (fun k hk e => h.off k hk (hz k e)) (fun _ _ _ h => h.mono hz)
theorem shun (h : DiskAt w Z d s) : DiskAt w (fun k => Z k ∨ w.heap.size ≤ k) d s := h.imp (fun _ _ => rfl) (fun k hk e => e.elim (h.off k hk) (fun e => by have := h.lt k hk; omega)) (fun _ _ _ h => h.shun)
theorem below (h : DiskAt w Z d s) (hb : Below w.heap.size w w') : DiskAt w' Z d s := h.keep (Turned.ofBelow _ hb)
theorem drewN (h : DiskAt w Z d s) (n : Nat) : DiskAt (w.drewN n) Z d s := h.below (below_drewN (Below.refl _ _) n)
theorem drew (h : DiskAt w Z d s) : DiskAt w.drew Z d s := h.below (Below.refl _ _).drew
/-- what is beyond the last sector is nobody's business -/
theorem congr (h : DiskAt w Z d s) (hn : s'.n = s.n) (hd : ∀ i, i < s.n → s'.dur i = s.dur i) (hc : ∀ i, i < s.n → s'.cache i = s.cache i) (ha : s'.armed = s.armed) (hl : s'.left = s.left) (ho : s'.down = s.down) : DiskAt w Z d s' := by
  obtain ⟨n', dur', cache', armed', left', down'⟩ := s'
  simp only at hn hd hc ha hl ho
  subst hn ha hl ho
  refine ⟨h.bound, h.off, h.left, h.disk, ?_, ?_⟩
  · obtain ⟨cur, h1, h2, h3⟩ := h.row
    refine ⟨cur, h1, h2, fun i hi' => ?_⟩
    show (dur' i).1.length ≤ 64 ∧ ∃ A c, cur[i * 2]? = some (.slice A (dur' i).1.length c) ∧ cur[i * 2 + 1]? = some (.bool (dur' i).2) ∧ OwnsZ w Z A c (dur' i).1
    rw [hd i hi']
    exact h3 i hi'
  · obtain ⟨f, h1, h2⟩ := h.map
    refine ⟨f, h1, fun i hi' => ?_⟩
    show ElemAt w Z (f i) (cache' i)
    rw [hc i hi']
    exact h2 i hi'
theorem cells (h : DiskAt w Z d s) : w.cell? ⟨d.g, 0, none⟩ = some (.slice (some ⟨d.h, 0, none⟩) s.n s.n) ∧ w.cell? ⟨d.g, 1, none⟩ = some (.map (some d.m)) ∧ w.cell? ⟨d.g, 2, none⟩ = some (.bool s.armed) ∧
    w.cell? ⟨d.g, 3, none⟩ = some (.int .i64 s.left) ∧ w.cell? ⟨d.g, 4, none⟩ = some (.bool s.down) := by
  simp [World.cell?, h.disk]
theorem frozen (h : DiskAt w Z d s) (k : Nat) : w.frozen? ⟨d.g, k, none⟩ = false := by
  simp [World.frozen?, h.disk]
theorem frozenH (h : DiskAt w Z d s) (k : Nat) : w.frozen? ⟨d.h, k, none⟩ = false := by
  obtain ⟨cur, h1, _⟩ := h.row
  simp [World.frozen?, h1]
theorem sec (h : DiskAt w Z d s) {i : Nat} (hi : i < s.n) : (s.dur i).1.length ≤ 64 ∧ ∃ A c, w.cell? ⟨d.h, i * 2, none⟩ = some (.slice A (s.dur i).1.length c) ∧ w.cell? ⟨d.h, i * 2 + 1, none⟩ = some (.bool (s.dur i).2) ∧ OwnsZ w Z A c (s.dur i).1 := by
  obtain ⟨cur, h1, h2, h3⟩ := h.row
  obtain ⟨h4, A, c, h5, h6, h7⟩ := h3 i hi
  exact ⟨h4, A, c, by simp [World.cell?, h1, h5], by simp [World.cell?, h1, h6], h7⟩
/-- the head is written -/
theorem head (h : DiskAt w Z d s) (ht : Turned (fun k => k = d.g) w w') (hn : s'.n = s.n) (hd : s'.dur = s.dur) (hc : s'.cache = s.cache) (hl : InInt s'.left ∧ (s'.armed = true → 0 ≤ s'.left))
    (he : w'.heap[d.g]? = some (.cells #[.slice (some ⟨d.h, 0, none⟩) s.n s.n, .map (some d.m), .bool s'.armed, .int .i64 s'.left, .bool s'.down] 66 (0, 0))) : DiskAt w' Z d s' := by
  have ho : ∀ j, j < w.heap.size → j ≠ d.g → w'.heap[j]? = w.heap[j]? := fun j hj hne => ht.block j hj hne
  have hz : ∀ A c l, OwnsZ w Z A c l → OwnsZ w' Z A c l := fun A c l hA => by
    refine (((hA.shunTag h.disk ?_).keep (w' := w') (ht.mono (fun _ h => .inr h))).mono (fun _ h => .inl h))
    intro cur e
    have h3 := (Obj.cells.inj e).2.1
    revert h3; decide
  refine ⟨by rw [hn]; exact h.bound, h.off, hl, by rw [hn]; exact he, ?_, ?_⟩
  · obtain ⟨cur, h1, h2, h3⟩ := h.row
    rw [hn, hd]
    refine ⟨cur, (ho _ h.hlt h.g_ne_h.symm).trans h1, h2, fun i hi' => ?_⟩
    obtain ⟨h4, A, c, h5, h6, h7⟩ := h3 i hi'
    exact ⟨h4, A, c, h5, h6, hz _ _ _ h7⟩
  · obtain ⟨f, ⟨es, clock, h1, h2⟩, h3⟩ := h.map
    rw [hn, hc]
    exact ⟨f, ⟨es, clock, (ho _ (Array.getElem?_eq_some_iff.1 h1).1 h.g_ne_m.symm).trans h1, h2⟩, fun i hi' => (h3 i hi').imp hz⟩
theorem turnedG (ht : Turned (fun k => k = d.g) w w') : Turned d.has w w' := ht.mono (fun _ h => .inl h)
end DiskAt
end Go.Proofs.Ytdgijnolpjaheaa
