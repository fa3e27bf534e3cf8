/- Two disks side by side; what a crash makes of each sector. -/
import Derived.Test.YtbfbnpbonoapnaaLawE
namespace Go.Proofs.Ytbfbnpbonoapnaa
open Go.RowKit

/-- Two disks that the call has made since the world w0. -/
structure D2 (w0 w : World) (d c : Dk) (s t : Sx.St) : Prop where
  da : DiskAt w (fun k => k < w0.heap.size ∨ c.has k) d s
  ca : DiskAt w (fun k => k < w0.heap.size ∨ d.has k) c t
  bel : Below w0.heap.size w0 w
namespace D2
variable {w0 w w' : World} {d c : Dk} {s s' t : Sx.St}
theorem symm (h : D2 w0 w d c s t) : D2 w0 w c d t s := ⟨h.ca, h.da, h.bel⟩
theorem ge (h : D2 w0 w d c s t) : ∀ k, d.has k → w0.heap.size ≤ k := fun k hk => by
  by_cases e : w0.heap.size ≤ k
  · exact e
  · exact absurd (Or.inl (by omega)) (h.da.off k hk)
theorem next (h : D2 w0 w d c s t) (hd : DiskAt w' (fun k => k < w0.heap.size ∨ c.has k) d s') (ht : Turned d.has w w') : D2 w0 w' d c s' t :=
  ⟨hd, h.ca.keep (ht.mono (fun _ h => .inr h)), h.bel.trans (ht.below h.bel.size h.ge)⟩
theorem below (h : D2 w0 w d c s t) (hb : Below w.heap.size w w') : D2 w0 w' d c s t := ⟨h.da.below hb, h.ca.below hb, h.bel.trans (hb.mono h.bel.size)⟩
theorem drewN (h : D2 w0 w d c s t) (n : Nat) : D2 w0 (w.drewN n) d c s t := h.below (below_drewN (Below.refl _ _) n)
theorem zlt (h : D2 w0 w d c s t) : ∀ k, (k < w0.heap.size ∨ c.has k) → k < w.heap.size := by
  rintro k (hk | hk)
  · have := h.bel.size; omega
  · exact h.ca.lt k hk
end D2
theorem new_d2 (n : Nat) (hn : 1 ≤ n ∧ n ≤ 16384) (w0 w : World) (d : Dk) (s : Sx.St) (h : DS w0 w d s) :
    Calls Try.prog 10 #[.int .i64 (n : Int)] w fun e w' => ∃ c, e = .returned (.tuple #[.pointer (some ⟨c.g, 0, none⟩), .int .i64 0]) ∧ D2 w0 w' d c s (Sx.new n) := by
  refine (new_any n hn w).mono ?_
  rintro e w' ⟨c, he, hc, hb⟩
  refine ⟨c, he, ⟨?_, hc.mono ?_, h.bel.trans (hb.mono h.bel.size)⟩⟩
  · refine (h.at_.shun.keep (Turned.ofBelow _ hb)).mono ?_
    rintro k (hk | hk)
    · exact .inl hk
    · refine .inr ?_
      by_cases e : w.heap.size ≤ k
      · exact e
      · exact absurd (show k < w.heap.size by omega) (hc.off k hk)
  · rintro k (hk | hk)
    · have := h.bel.size; show k < w.heap.size; omega
    · exact h.at_.lt k hk
theorem run_d2 (w0 : World) (d c : Dk) (s t : Sx.St) (o : Sx.Op) (ap al : Option Addr) (cp cl : Nat) (w : World) (h : D2 w0 w d c s t) (hp : IsBytes w w0.heap.size ap o.data) (hl : IsInts w w0.heap.size al o.lst) (hcp : ap = none → cp = 0) (hi : InInt o.i) :
    Calls Try.prog 16 #[.pointer (some ⟨d.g, 0, none⟩), .agg #[.int .i64 o.kind, .int .i64 o.i, .int .i64 o.look, .slice ap o.data.length cp, .slice al o.lst.length cl]] w fun e w' =>
      e = .returned (.int .i64 (Sx.runE s o)) ∧ D2 w0 w' d c (Sx.runS s o) t ∧ Turned d.has w w' := by
  refine (run_any _ d s o ap al cp cl hcp hi w h.zlt h.da (fun w' ht => ?_) (fun w' ht => ?_)).mono ?_
  · have hb := ht.below h.bel.size h.ge
    exact (hp.below hb).more (Nat.le_trans h.bel.size hb.size)
  · have hb := ht.below h.bel.size h.ge
    exact (hl.below hb).more (Nat.le_trans h.bel.size hb.size)
  · rintro e w' ⟨he, hd, ht⟩
    exact ⟨he, h.next hd ht, ht⟩
theorem shown_d2 (w0 : World) (d c : Dk) (s t : Sx.St) (w : World) (h : D2 w0 w d c s t) :
    Calls Try.prog 17 #[.pointer (some ⟨d.g, 0, none⟩)] w fun e w' => ∃ A c', e = .returned (.slice A (min s.n 64) c') ∧ RowsAt w' (fun k => k < w.heap.size) (.slice A (min s.n 64) c') (Sx.shows s) ∧ D2 w0 w' d c s t ∧ Below w.heap.size w w' :=
  (shown_any _ d s w h.da).mono fun _ _ ⟨A, c, he, hr, hb⟩ => ⟨A, c, he, hr, h.below hb, hb⟩
theorem crash_d2 (w0 : World) (d c : Dk) (s t : Sx.St) (A : Option Addr) (cp : Nat) (l : List Int) (n : Nat) (hn : l.length = n) (w : World) (h : D2 w0 w d c s t) (hl : IsInts w w0.heap.size A l) :
    Calls Try.prog 22 #[.pointer (some ⟨d.g, 0, none⟩), .slice A n cp] w fun e w' => e = .returned (.tuple #[]) ∧ D2 w0 w' d c (Sx.crash s l) t ∧ Turned d.has w w' := by
  refine (crash_any _ d s A cp l n hn w h.da (fun w' ht => ?_)).mono fun _ _ ⟨he, hd, ht⟩ => ⟨he, h.next hd ht, ht⟩
  have hb := ht.below h.bel.size h.ge
  exact (hl.below hb).more (Nat.le_trans h.bel.size hb.size)
theorem dirty_d2 (w0 : World) (d c : Dk) (s t : Sx.St) (w : World) (h : D2 w0 w d c s t) :
    Calls Try.prog 21 #[.pointer (some ⟨d.g, 0, none⟩)] w fun e w' => ∃ A c', e = .returned (.slice A (Sx.dirty s).length c') ∧ OwnsI 3 w' w.heap.size A c' ((Sx.dirty s).map fun (i : Nat) => (i : Int)) ∧ D2 w0 w' d c s t ∧ Below w.heap.size w w' :=
  (dirty_any _ d s w h.da).mono fun _ _ ⟨A, c, he, ho, hb⟩ => ⟨A, c, he, ho, h.below hb, hb⟩
/-- numbers that were told stay while a disk's calls go on -/
theorem IsInts.onD {w w' : World} {B : Nat} {A : Option Addr} {l : List Int} {d : Dk} (h : IsInts w w.heap.size A l) (hA : ∀ a, A = some a → B ≤ a.block) (hd : ∀ k, d.has k → k < B) (ht : Turned d.has w w') : IsInts w' w'.heap.size A l := isInts_turned h hd hA ht

namespace Sx
theorem fateAt_nil (s : St) (i : Nat) : fateAt s [] i = 0 := by simp [fateAt]
theorem seen_crash (s : St) (l : List Int) (i : Nat) : seen ((crash s l).cache i) ((crash s l).dur i) = seen none (settle1 (s.cache i) (s.dur i) (fateAt s l i)) := rfl
theorem crash_not (s : St) (l : List Int) (i : Nat) (hi : i < s.n) (hc : s.cache i = none) : showOf (crash s l) i = showOf s i := by
  rw [showOf_in (crash s l) i hi, showOf_in s i hi, seen_crash, hc]; rfl
theorem crash_lost (s : St) (l : List Int) (i : Nat) (hi : i < s.n) (hf : fateAt s l i = 0) : showOf (crash s l) i = showOf (crash s []) i := by
  rw [showOf_in (crash s l) i hi, showOf_in (crash s []) i hi, seen_crash, seen_crash, hf, fateAt_nil]
theorem crash_kept (s : St) (l : List Int) (i : Nat) (hi : i < s.n) (hf : fateAt s l i = 1) : showOf (crash s l) i = showOf s i := by
  rw [showOf_in (crash s l) i hi, showOf_in s i hi, seen_crash, hf, seen_settle1]
theorem crash_torn (s : St) (l : List Int) (i : Nat) (hi : i < s.n) (hc : (s.cache i).isSome = true) (h0 : fateAt s l i ≠ 0) (h1 : fateAt s l i ≠ 1) : showOf (crash s l) i = rowOf 65 := by
  rw [showOf_in (crash s l) i hi, seen_crash]
  rcases h : s.cache i with _ | b
  · rw [h] at hc; cases hc
  · simp [settle1, h0, h1, seen]
theorem mem_dirty {s : St} {i : Nat} (hi : i < s.n) : i ∈ dirty s ↔ (s.cache i).isSome = true := by
  unfold dirty
  rw [mem_dirtyTo]
  exact ⟨fun h => h.2, fun h => ⟨hi, h⟩⟩
theorem rk_not {s : St} {i : Nat} (hc : ¬ (s.cache i).isSome = true) : rk s (i + 1) = rk s i := by
  unfold rk
  rw [dirtyTo_succ, if_neg hc]; simp
theorem rk_is {s : St} {i : Nat} (hc : (s.cache i).isSome = true) : rk s (i + 1) = rk s i + 1 := by
  unfold rk
  rw [dirtyTo_succ, if_pos hc]; simp
theorem rk_zero (s : St) : rk s 0 = 0 := rfl
theorem rk_le (s : St) (i : Nat) : rk s i ≤ i := dirtyTo_length _ _
theorem fateAt_lt (s : St) (l : List Int) (i : Nat) (h : rk s i < l.length) : fateAt s l i = l[rk s i] := by
  unfold fateAt
  rw [List.getD_eq_getElem?_getD, List.getElem?_eq_getElem h]; rfl
theorem fateAt_ge (s : St) (l : List Int) (i : Nat) (h : l.length ≤ rk s i) : fateAt s l i = 0 := by
  unfold fateAt
  rw [List.getD_eq_getElem?_getD, List.getElem?_eq_none h]; rfl
theorem mem_map_int {l : List Nat} {i : Nat} : decide ((i : Int) ∈ l.map fun (x : Nat) => (x : Int)) = decide (i ∈ l) := by
  refine decide_eq_decide.2 ?_
  rw [List.mem_map]
  constructor
  · rintro ⟨x, hx, e⟩
    obtain rfl : x = i := by omega
    exact hx
  · intro h
    exact ⟨i, h, rfl⟩
end Sx
theorem IsRows.showAt {w : World} {A : Option Addr} {s : Sx.St} (h : IsRows w A (Sx.shows s)) (i : Nat) (hi : i < min s.n 64) :
    ∃ b off A' c', A = some ⟨b, off, none⟩ ∧ w.cell? ⟨b, off + i, none⟩ = some (.slice A' (Sx.showOf s i).length c') ∧ IsBytes w w.heap.size A' (Sx.showOf s i) ∧ (Sx.showOf s i).length ≤ 100 := by
  have hl : i < (Sx.shows s).length := by rw [Sx.shows_length]; exact hi
  obtain ⟨b, off, hA, hc⟩ := h i hl
  obtain ⟨h1, A', c', h2, h3⟩ := hc i hl
  rw [Sx.shows_get] at h1 h2 h3
  exact ⟨b, off, A', c', hA, h2, h3, h1⟩
end Go.Proofs.Ytbfbnpbonoapnaa
