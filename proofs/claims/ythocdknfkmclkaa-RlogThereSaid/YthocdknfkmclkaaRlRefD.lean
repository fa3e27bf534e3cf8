/- The walk through the document's Append. -/
import Derived.Test.YthocdknfkmclkaaRlRefC
import Derived.Test.YthocdknfkmclkaaKitLog
import Derived.Deep.RegionHeld3
namespace Go.Proofs.Ythocdknfkmclkaa
open Go.RowKit

/-- the result's box is written last -/
theorem refApp_end {w w3 : World} {N N' c3 : Nat} {A3 : Option Addr} {L : List Rl.En} (hN : w.heap.size + 2 ≤ N) (ho : OwnE w3 N N' A3 c3 L) (hN' : N' ≤ w3.heap.size) (hb : Below w.heap.size w w3) (u1 u2 u3 : Value) :
    OwnE (((w3.setCell ⟨w.heap.size + 1, 0, none⟩ u1).setCell ⟨w.heap.size + 1, 1, none⟩ u2).setCell ⟨w.heap.size + 1, 2, none⟩ u3) w.heap.size (((w3.setCell ⟨w.heap.size + 1, 0, none⟩ u1).setCell ⟨w.heap.size + 1, 1, none⟩ u2).setCell ⟨w.heap.size + 1, 2, none⟩ u3).heap.size A3 c3 L ∧
    Below w.heap.size w (((w3.setCell ⟨w.heap.size + 1, 0, none⟩ u1).setCell ⟨w.heap.size + 1, 1, none⟩ u2).setCell ⟨w.heap.size + 1, 2, none⟩ u3) := by
  have T := Turned.three w3 (w.heap.size + 1) 0 1 2 u1 u2 u3
  refine ⟨(ho.keep T (fun k hk hB => ?_)).wide (by omega) (Nat.le_trans hN' T.size), hb.trans (T.below hb.size (fun k hk => ?_))⟩
  · have := hB.1
    have hk : k = w.heap.size + 1 := hk
    omega
  · have hk : k = w.heap.size + 1 := hk
    omega

theorem three_cells (w : World) (b : Nat) (u1 u2 u3 v1 v2 v3 : Value) (h0 : w.cell? ⟨b, 0, none⟩ = some v1) (h1 : w.cell? ⟨b, 1, none⟩ = some v2) (h2 : w.cell? ⟨b, 2, none⟩ = some v3) (o : Obj) :
    ((((w.setCell ⟨b, 0, none⟩ u1).setCell ⟨b, 1, none⟩ u2).setCell ⟨b, 2, none⟩ u3).alloc o).cell? ⟨b, 0, none⟩ = some u1 ∧ ((((w.setCell ⟨b, 0, none⟩ u1).setCell ⟨b, 1, none⟩ u2).setCell ⟨b, 2, none⟩ u3).alloc o).cell? ⟨b, 1, none⟩ = some u2 ∧ ((((w.setCell ⟨b, 0, none⟩ u1).setCell ⟨b, 1, none⟩ u2).setCell ⟨b, 2, none⟩ u3).alloc o).cell? ⟨b, 2, none⟩ = some u3 := by
  have hb : b < (((w.setCell ⟨b, 0, none⟩ u1).setCell ⟨b, 1, none⟩ u2).setCell ⟨b, 2, none⟩ u3).heap.size := by
    have := World.block_lt_of_cell? _ _ h0
    simpa [World.setCell] using this
  have n1 : ∀ (i j : Nat), i ≠ j → (⟨b, i, none⟩ : Addr) ≠ ⟨b, j, none⟩ := fun i j h e => by injection e with _ e; exact h e
  have k1 : (w.setCell ⟨b, 0, none⟩ u1).cell? ⟨b, 0, none⟩ = some u1 := World.cell?_setCell_same _ _ _ h0
  have k2 : ((w.setCell ⟨b, 0, none⟩ u1).setCell ⟨b, 1, none⟩ u2).cell? ⟨b, 1, none⟩ = some u2 := World.cell?_setCell_same _ _ _ ((World.cell?_setCell_other _ _ _ _ (n1 0 1 (by decide))).trans h1)
  have k3 : (((w.setCell ⟨b, 0, none⟩ u1).setCell ⟨b, 1, none⟩ u2).setCell ⟨b, 2, none⟩ u3).cell? ⟨b, 2, none⟩ = some u3 := World.cell?_setCell_same _ _ _ ((World.cell?_setCell_other _ _ _ _ (n1 1 2 (by decide))).trans ((World.cell?_setCell_other _ _ _ _ (n1 0 2 (by decide))).trans h2))
  have hal := fun p hp => ((Below.refl (((w.setCell ⟨b, 0, none⟩ u1).setCell ⟨b, 1, none⟩ u2).setCell ⟨b, 2, none⟩ u3).heap.size _).alloc (Nat.le_refl _) o).cell (p := p) hp
  refine ⟨(hal ⟨b, 0, none⟩ hb).trans ?_, (hal ⟨b, 1, none⟩ hb).trans ?_, (hal ⟨b, 2, none⟩ hb).trans k3⟩
  · rw [World.cell?_setCell_other _ _ _ _ (n1 2 0 (by decide)), World.cell?_setCell_other _ _ _ _ (n1 1 0 (by decide)), k1]
  · rw [World.cell?_setCell_other _ _ _ _ (n1 2 1 (by decide)), k2]

set_option maxHeartbeats 3200000 in
set_option maxRecDepth 100000 in
/-- behind an index that the log has not nothing is put -/
theorem refApp_no (B : Nat) (g : Rl.Lg) (A A' : Option Addr) (c c' : Nat) (i : Int) (m : Nat) (hg : Rl.Ok g) (hf : Rl.Few g.es) (hn : g.has i = false) (w : World) (h : LgIs w B g A c) (hB : B ≤ w.heap.size) :
    Calls Try.prog 26 #[.agg #[.int .i64 g.base, .int .i64 g.term, .slice A g.es.length c], .int .i64 i, .slice A' m c'] w fun e w' => ∃ A2 c2, e = .returned (.tuple #[.agg #[.int .i64 g.base, .int .i64 g.term, .slice A2 g.es.length c2], .int .i64 0]) ∧ OwnE w' w.heap.size w'.heap.size A2 c2 g.es ∧ Below w.heap.size w w' := by
  obtain ⟨w1, hw1⟩ : ∃ w1, w1 = (w.alloc (.cells #[.int .i64 g.base, .int .i64 g.term, .slice A g.es.length c] 24)).alloc (.cells #[.int .i64 0, .int .i64 0, .slice none 0 0] 24) := ⟨_, rfl⟩
  have hb1 : Below w.heap.size w w1 := by rw [hw1]; exact ((Below.refl _ w).alloc (Nat.le_refl _) _).alloc (by simp) _
  have hs1 : w1.heap.size = w.heap.size + 2 := by rw [hw1]; simp
  have HC := hid (refLast_any w.heap.size g A c hg w1 ((h.more hB).below hb1) hb1.size)
  have hroom := h.room
  have hes := h.es.more hB
  have HCL : Hid (∀ w', Below w.heap.size w w' → Calls Try.prog 11 #[.agg #[.int .i64 g.base, .int .i64 g.term, .slice A g.es.length c]] w' fun e w'' => ∃ A' c', e = .returned (.agg #[.int .i64 g.base, .int .i64 g.term, .slice A' g.es.length c']) ∧ OwnE w'' w'.heap.size w''.heap.size A' c' g.es ∧ Below w'.heap.size w' w'') := hid (fun w' hb => copyLog_any g A c _ rfl (by have := hg.2.2; omega) hf w' ((hes.below hb).more hb.size))
  have HQ : Hid (∀ w2, Below (w.heap.size + 2) w1 w2 → (w2.cell? ⟨w.heap.size, 0, none⟩ = some (.int .i64 g.base) ∧ w2.cell? ⟨w.heap.size, 1, none⟩ = some (.int .i64 g.term) ∧ w2.cell? ⟨w.heap.size, 2, none⟩ = some (.slice A g.es.length c)) ∧ (w2.cell? ⟨w.heap.size + 1, 0, none⟩ = some (.int .i64 0) ∧ w2.cell? ⟨w.heap.size + 1, 1, none⟩ = some (.int .i64 0) ∧ w2.cell? ⟨w.heap.size + 1, 2, none⟩ = some (.slice none 0 0)) ∧ (∀ k, w2.frozen? ⟨w.heap.size, k, none⟩ = false) ∧ ∀ k, w2.frozen? ⟨w.heap.size + 1, k, none⟩ = false) := hid (fun w2 hb2 => by
    refine ⟨⟨?_, ?_, ?_⟩, ⟨?_, ?_, ?_⟩, fun k => ?_, fun k => ?_⟩
    · rw [hb2.cell (by show w.heap.size < _; omega), hw1]; simp
    · rw [hb2.cell (by show w.heap.size < _; omega), hw1]; simp
    · rw [hb2.cell (by show w.heap.size < _; omega), hw1]; simp
    · rw [hb2.cell (by show w.heap.size + 1 < _; omega), hw1]; simp [World.cell?_alloc_at]
    · rw [hb2.cell (by show w.heap.size + 1 < _; omega), hw1]; simp [World.cell?_alloc_at]
    · rw [hb2.cell (by show w.heap.size + 1 < _; omega), hw1]; simp [World.cell?_alloc_at]
    · rw [hb2.frozen (by show w.heap.size < _; omega), hw1]; simp
    · rw [hb2.frozen (by show w.heap.size + 1 < _; omega), hw1]; simp [World.frozen?_alloc_at])
  have H1 := hid (And.intro hb1 hs1)
  have hn2 := Rl.Lg.has_not.1 hn
  obtain ⟨la, hla⟩ : ∃ la, la = g.last := ⟨_, rfl⟩
  obtain ⟨lt, hlt⟩ : ∃ lt, lt = g.lastT := ⟨_, rfl⟩
  have hla2 : la = g.base + (g.es.length : Nat) := by rw [hla]; rfl
  rw [← hla, ← hlt] at HC
  obtain ⟨⟨g0, g1⟩, _, gl⟩ := hg
  have hcase : i < g.base ∨ ¬ i < g.base ∧ la < i := by omega
  rw [hw1] at HC
  have HW := hid hw1
  clear h hb1 hs1 hes hw1 hn hn2 hf hla hlt hla2
  rcases hcase with h1 | ⟨h1, h2⟩ <;>
  (go_enter Try.func26, Try.ntmps26
   go_wp2_with fail
   refine HC.out.mono ?_
   rintro e w2 ⟨rfl, hb2⟩
   rw [← HW.out] at hb2
   rw [H1.out.2] at hb2
   have HB2 := hid hb2
   have HB2' := hid (H1.out.1.trans (hb2.mono (by omega)))
   obtain ⟨⟨q0, q1, q2⟩, _, f0, _⟩ := HQ.out w2 hb2
   have hs2 : w.heap.size + 2 ≤ w2.heap.size := by have := hb2.size; have := H1.out.2; omega
   clear hb2
   go_wp2_with fail
   refine (HCL.out w2 HB2'.out).mono ?_
   rintro e w3 ⟨A3, c3, rfl, ho3, hb3⟩
   have hbq := HB2.out.trans (hb3.mono hs2)
   obtain ⟨⟨p0, p1, p2⟩, ⟨r0, r1, r2⟩, f1, f3⟩ := HQ.out w3 hbq
   have hs3 := hb3.size
   have H3 := hid (And.intro ho3 (And.intro hbq (HB2'.out.trans (hb3.mono HB2'.out.size))))
   have hN0 : w.heap.size < w3.heap.size := by omega
   have hN1 : w.heap.size + 1 < w3.heap.size := by omega
   clear hb3 ho3 hbq HC HCL q0 q1 q2 f0
   go_wp2_with fail
   obtain ⟨e0, e1, e2⟩ := three_cells w3 (w.heap.size + 1) (.int .i64 g.base) (.int .i64 g.term) (.slice A3 g.es.length c3) _ _ _ r0 r1 r2 (.cells #[.int .i64 g.base, .int .i64 g.term, .slice A3 g.es.length c3] 24)
   refine bodyPost_ret (by simp [results, Try.results26, go_sem, e0, e1, e2]; try rfl) rfl ?_
   have hE := refApp_end hs2 H3.out.1 (Nat.le_refl _) H3.out.2.2 (.int .i64 g.base) (.int .i64 g.term) (.slice A3 g.es.length c3)
   exact ⟨A3, c3, rfl, (hE.1.below ((Below.refl _ _).alloc (Nat.le_refl _) _)).wide (Nat.le_refl _) (by rw [World.size_alloc]; omega), hE.2.alloc hE.2.size _⟩)
end Go.Proofs.Ythocdknfkmclkaa
