/- The disk and the document's disk, side by side. -/
import Derived.Test.YtbfbnpbonoapnaaRefCr
import Derived.Test.YtbfbnpbonoapnaaLawF
namespace Go.Proofs.Ytbfbnpbonoapnaa
open Go.RowKit

namespace Sx
structure Rel (s : St) (x : Xs) : Prop where
  n : s.n = x.n
  cache : s.cache = x.cache
  dur : ∀ i, s.dur i = (x.lasts i).getD ([], false)
  down : s.down = x.off
  armed : s.armed = decide (0 ≤ x.left)
  left : s.armed = true → s.left = x.left
theorem rel_new (n : Nat) : Rel (new n) (newX n) := ⟨rfl, rfl, fun _ => rfl, rfl, by simp [new, newX], fun h => by cases h⟩
theorem Rel.dead {s : St} {x : Xs} (h : Rel s x) : s.dead = decide (x.left = 0) := by
  unfold St.dead
  cases ha : s.armed
  · have h1 := h.armed
    rw [ha] at h1
    have h2 : ¬ 0 ≤ x.left := by simpa using h1.symm
    simp; omega
  · rw [h.left ha, Bool.true_and]
theorem Rel.spent {s : St} {x : Xs} (h : Rel s x) (hd : x.left ≠ 0) : Rel s.spent (doneS x) := by
  have h1 := h.armed
  cases ha : s.armed
  · rw [ha] at h1
    have h2 : ¬ 0 ≤ x.left := by simpa using h1.symm
    have e1 : doneS x = x := by unfold doneS; rw [if_neg hd, if_neg (by omega)]
    have e2 : s.spent = s := by
      unfold St.spent
      rw [ha]
      obtain ⟨n, du, ca, ar, le, dn⟩ := s
      simp only at ha
      subst ha
      rfl
    rw [e1, e2]
    exact h
  · rw [ha] at h1
    have h2 : 0 ≤ x.left := by simpa using h1.symm
    have e1 : doneS x = { x with left := x.left - 1 } := by unfold doneS; rw [if_neg hd, if_pos (by omega)]
    rw [e1]
    refine ⟨h.n, h.cache, h.dur, h.down, ?_, fun _ => ?_⟩
    · show s.armed = decide (0 ≤ x.left - 1)
      rw [ha]
      exact (decide_eq_true (by omega)).symm
    · show (if s.armed then s.left - 1 else s.left) = x.left - 1
      rw [if_pos ha, h.left ha]
theorem Rel.off {s : St} {x : Xs} (h : Rel s x) : Rel s.off { x with off := true } := ⟨h.n, h.cache, h.dur, rfl, h.armed, h.left⟩
theorem rel_write {s : St} {x : Xs} (h : Rel s x) (i : Int) (b : List Nat) : wrE s i b = wrXE x i b ∧ Rel (wrS s i b) (wrXS x i b) := by
  have hd := h.dead
  unfold wrE wrXE wrS wrXS spE
  rw [h.down, h.n]
  cases ho : x.off
  · simp only [Bool.false_eq_true, if_false]
    by_cases hi : 0 ≤ i ∧ i < x.n
    · rw [if_pos hi, if_pos hi, if_pos hi, if_pos hi]
      by_cases hl : 64 < b.length
      · rw [if_pos hl, if_pos hl, if_pos hl, if_pos hl]
        exact ⟨rfl, h⟩
      · rw [if_neg hl, if_neg hl, if_neg hl, if_neg hl]
        by_cases h0 : x.left = 0
        · rw [hd, if_pos h0, if_pos h0, if_pos (by simp [h0]), if_pos (by simp [h0])]
          exact ⟨rfl, h.off⟩
        · rw [hd, if_neg h0, if_neg h0, if_neg (by simp [h0]), if_neg (by simp [h0])]
          refine ⟨rfl, ?_⟩
          have hs := h.spent h0
          refine ⟨hs.n, ?_, hs.dur, hs.down, hs.armed, hs.left⟩
          show upd s.cache i.toNat (some b) = upd x.cache i.toNat (some b)
          rw [h.cache]
    · rw [if_neg hi, if_neg hi, if_neg hi, if_neg hi]
      exact ⟨rfl, h⟩
  · simp only [if_true]
    exact ⟨trivial, h⟩
theorem settle_rel (c : Option (List Nat)) (u : Option (List Nat × Bool)) (f : Int) : settle1 c (u.getD ([], false)) f = (settleX c u f).getD ([], false) := by
  rcases c with _ | b
  · rfl
  · unfold settle1 settleX
    simp only
    split
    · rfl
    · split <;> rfl
theorem rel_flush {s : St} {x : Xs} (h : Rel s x) : spE s = flXE x ∧ Rel (flS s) (flXS x) := by
  have hd := h.dead
  unfold spE flXE flS flXS
  rw [h.down]
  cases ho : x.off
  · simp only [Bool.false_eq_true, if_false]
    by_cases h0 : x.left = 0
    · rw [hd, if_pos h0, if_pos h0, if_pos (by simp [h0]), if_pos (by simp [h0])]
      exact ⟨rfl, h.off⟩
    · rw [hd, if_neg h0, if_neg h0, if_neg (by simp [h0]), if_neg (by simp [h0])]
      refine ⟨rfl, ?_⟩
      have hs := h.spent h0
      refine ⟨hs.n, rfl, fun i => ?_, hs.down, hs.armed, hs.left⟩
      show settle1 (s.cache i) (s.dur i) 1 = (settleX (x.cache i) (x.lasts i) 1).getD ([], false)
      rw [h.cache, h.dur i, settle_rel]
  · simp only [if_true]
    cases hdd : s.dead
    · simp only [Bool.false_eq_true, if_false]
      exact ⟨trivial, h⟩
    · simp only [if_true]
      refine ⟨trivial, ?_⟩
      have h1 := h.off
      rw [← ho] at h1
      exact h1
theorem rel_arm {s : St} {x : Xs} (h : Rel s x) (n : Int) : Rel (arm s n) (armX x n) := by
  refine ⟨h.n, h.cache, h.dur, h.down, ?_, fun ha => ?_⟩
  · show decide (0 ≤ n) = decide (0 ≤ if n < 0 then -1 else n)
    split
    · rw [decide_eq_false (by omega), decide_eq_false (by omega)]
    · rfl
  · have ha : 0 ≤ n := by simpa [arm] using ha
    show n = if n < 0 then -1 else n
    rw [if_neg (by omega)]
theorem rel_crash {s : St} {x : Xs} (h : Rel s x) (l : List Int) : Rel (crash s l) (crashX x l) := by
  refine ⟨h.n, rfl, fun i => ?_, rfl, by simp [crash, crashX], fun ha => by cases ha⟩
  show settle1 (s.cache i) (s.dur i) (fateAt s l i) = (settleX (x.cache i) (x.lasts i) (fateC x.cache l i)).getD ([], false)
  have e : fateAt s l i = fateC x.cache l i := by unfold fateAt fateC rk; rw [h.cache]
  rw [e, h.cache, h.dur i, settle_rel]
theorem rel_read {s : St} {x : Xs} (h : Rel s x) (i : Int) : rdB s i = (rdX x i).1 ∧ rdE s i = (rdX x i).2 := by
  unfold rdB rdE rdX
  rw [h.n]
  by_cases hi : 0 ≤ i ∧ i < x.n
  · rw [if_pos hi, if_pos hi, if_pos hi, h.cache, h.dur]
    rcases x.cache i.toNat with _ | b
    · rcases x.lasts i.toNat with _ | u
      · exact ⟨rfl, rfl⟩
      · simp only [Option.getD_some]
        split <;> exact ⟨rfl, rfl⟩
    · exact ⟨rfl, rfl⟩
  · rw [if_neg hi, if_neg hi, if_neg hi]
    exact ⟨rfl, rfl⟩
theorem rel_dirty {s : St} {x : Xs} (h : Rel s x) : dirty s = dirtyX x := by
  unfold dirty dirtyX
  rw [h.cache, h.n]
end Sx

/-- Both disks, apart from one another, and from the blocks of Z. -/
structure DX (w : World) (Z : Nat → Prop) (d : Dk) (g : Nat) (s : Sx.St) (x : Sx.Xs) : Prop where
  da : DiskAt w (fun k => Z k ∨ k = g) d s
  xa : RefAt w (fun k => Z k ∨ d.has k) g x
  z : ∀ k, Z k → k < w.heap.size
  rel : Sx.Rel s x
/-- what their calls may turn -/
def own2 (d : Dk) (g : Nat) (k : Nat) : Prop := d.has k ∨ k = g
namespace DX
variable {w w' : World} {Z Z' : Nat → Prop} {d : Dk} {g : Nat} {s s' : Sx.St} {x x' : Sx.Xs}
theorem below (h : DX w Z d g s x) (hb : Below w.heap.size w w') : DX w' Z d g s x := ⟨h.da.below hb, h.xa.below hb, fun k hk => by have := h.z k hk; have := hb.size; omega, h.rel⟩
theorem drewN (h : DX w Z d g s x) (n : Nat) : DX (w.drewN n) Z d g s x := h.below (below_drewN (Below.refl _ _) n)
theorem drew (h : DX w Z d g s x) : DX w.drew Z d g s x := h.below (Below.refl _ _).drew
theorem zd (h : DX w Z d g s x) : ∀ k, (Z k ∨ k = g) → k < w.heap.size := by
  rintro k (hk | rfl)
  · exact h.z k hk
  · exact h.xa.lt
theorem zx (h : DX w Z d g s x) : ∀ k, (Z k ∨ d.has k) → k < w.heap.size := by
  rintro k (hk | hk)
  · exact h.z k hk
  · exact h.da.lt k hk
theorem mono (h : DX w Z d g s x) (hz : ∀ k, Z' k → Z k) : DX w Z' d g s x :=
  ⟨h.da.mono (fun k hk => hk.imp (hz k) id), h.xa.mono (fun k hk => hk.imp (hz k) id), fun k hk => h.z k (hz k hk), h.rel⟩
/-- a block that is new is none of theirs -/
theorem shunB (h : DX w Z d g s x) (hb : Below w.heap.size w w') (b : Nat) (h1 : w.heap.size ≤ b) (h2 : b < w'.heap.size) : DX w' (fun k => Z k ∨ k = b) d g s x := by
  refine ⟨(h.da.shun.below hb).mono ?_, (h.xa.shun.below hb).mono ?_, ?_, h.rel⟩
  · rintro k ((hk | rfl) | rfl)
    · exact .inl (.inl hk)
    · exact .inr h1
    · exact .inl (.inr rfl)
  · rintro k ((hk | rfl) | hk)
    · exact .inl (.inl hk)
    · exact .inr h1
    · exact .inl (.inr hk)
  · rintro k (hk | rfl)
    · have := h.z k hk; have := hb.size; omega
    · exact h2
theorem keep (h : DX w Z d g s x) (ht : Turned Z w w') : DX w' Z d g s x :=
  ⟨h.da.keep (ht.mono (fun _ h => .inl h)), h.xa.keep (ht.mono (fun _ h => .inl h)), fun k hk => by have := h.z k hk; have := ht.size; omega, h.rel⟩
/-- behind a call of the disk, and the same one of the document's -/
theorem step {w1 w2 : World} (h : DX w Z d g s x) (hd : DiskAt w1 (fun k => Z k ∨ k = g) d s') (ht : Turned d.has w w1) (hx : RefAt w2 (fun k => Z k ∨ d.has k) g x') (hg : Turned (fun k => k = g) w1 w2) (hr : Sx.Rel s' x') : DX w2 Z d g s' x' ∧ Turned (own2 d g) w w2 :=
  ⟨⟨hd.keep (hg.mono (fun _ h => .inr h)), hx, fun k hk => by have := h.z k hk; have := ht.size; have := hg.size; omega, hr⟩, (ht.mono (fun _ h => .inl h)).trans (hg.mono (fun _ h => .inr h))⟩
theorem xafter {w1 : World} (h : DX w Z d g s x) (ht : Turned d.has w w1) : RefAt w1 (fun k => Z k ∨ d.has k) g x := h.xa.keep (ht.mono (fun _ h => .inr h))
end DX
end Go.Proofs.Ytbfbnpbonoapnaa
