/- The walks through the functions that hold logs against one another, and copy them. -/
import Derived.Test.YthocdknfkmclkaaRlA
import Derived.Test.YthocdknfkmclkaaKitEnEq
import Derived.Test.YthocdknfkmclkaaKitEnCopy
namespace Go.Proofs.Ythocdknfkmclkaa
open Go.RowKit

set_option maxHeartbeats 800000 in
set_option maxRecDepth 100000 in
theorem log_same (p q : Rl.Lg) (A A' : Option Addr) (c c' : Nat) (hl : p.es.length ≤ 100000) (w : World) (h : IsEnts w w.heap.size A p.es) (h' : IsEnts w w.heap.size A' q.es) :
    Calls Try.prog 22 #[.agg #[.int .i64 p.base, .int .i64 p.term, .slice A p.es.length c], .agg #[.int .i64 q.base, .int .i64 q.term, .slice A' q.es.length c']] w fun e w' => e = .returned (.bool (decide (p = q))) ∧ Below w.heap.size w w' := by
  obtain ⟨w1, hw1⟩ : ∃ w1, w1 = (w.alloc (.cells #[.int .i64 p.base, .int .i64 p.term, .slice A p.es.length c] 24)).alloc (.cells #[.int .i64 q.base, .int .i64 q.term, .slice A' q.es.length c'] 24) := ⟨_, rfl⟩
  have hb1 : Below w.heap.size w w1 := by rw [hw1]; exact ((Below.refl _ w).alloc (Nat.le_refl _) _).alloc (by simp) _
  have HS := hid (ents_same A A' c c' p.es.length q.es.length p.es q.es rfl rfl hl w1 ((h.below hb1).more hb1.size) ((h'.below hb1).more hb1.size))
  have HB := hid hb1
  have HZ := hid hb1.size
  rw [hw1] at HS HB HZ
  clear hb1 hw1 h h'
  by_cases ha : p.base = q.base
  · by_cases hb : p.term = q.term
    · have HE : Hid (decide (p = q) = decide (p.es = q.es)) := hid (by
        rw [decide_eq_decide]
        cases p; cases q
        simp at ha hb
        simp [ha, hb])
      rw [ha, hb] at HS HB HZ
      rw [HE.out]
      generalize decide (p.es = q.es) = bb at HS ⊢
      clear HE
      cases bb <;>
      (go_enter Try.func22, Try.ntmps22
       go_wp2_with fail
       refine HS.out.mono ?_
       rintro e w2 ⟨rfl, hb2⟩
       have HW : Hid (Below w.heap.size w w2) := hid (HB.out.trans (hb2.mono HZ.out))
       clear hb2
       go_wp2_with fail
       go_ret
       exact ⟨rfl, HW.out⟩)
    · have HE : Hid (decide (p = q) = false) := hid (decide_eq_false (by rintro rfl; exact hb rfl))
      rw [ha] at HB
      rw [HE.out]
      go_enter Try.func22, Try.ntmps22
      go_wp2_with fail
      go_ret
      exact ⟨rfl, HB.out⟩
  · have HE : Hid (decide (p = q) = false) := hid (decide_eq_false (by rintro rfl; exact ha rfl))
    rw [HE.out]
    go_enter Try.func22, Try.ntmps22
    go_wp2_with fail
    go_ret
    exact ⟨rfl, HB.out⟩

set_option maxHeartbeats 800000 in
set_option maxRecDepth 100000 in
theorem copyLog_any (g : Rl.Lg) (A : Option Addr) (c n : Nat) (hn : g.es.length = n) (hl : n ≤ 90000) (hf : Rl.Few g.es) (w : World) (h : IsEnts w w.heap.size A g.es) :
    Calls Try.prog 11 #[.agg #[.int .i64 g.base, .int .i64 g.term, .slice A n c]] w fun e w' =>
      ∃ A' c', e = .returned (.agg #[.int .i64 g.base, .int .i64 g.term, .slice A' n c']) ∧ OwnE w' w.heap.size w'.heap.size A' c' g.es ∧ Below w.heap.size w w' := by
  obtain ⟨w1, hw1⟩ : ∃ w1, w1 = (w.alloc (.cells #[.int .i64 g.base, .int .i64 g.term, .slice A n c] 24)).alloc (.cells #[.int .i64 0, .int .i64 0, .slice none 0 0] 24) := ⟨_, rfl⟩
  have hb1 : Below w.heap.size w w1 := by rw [hw1]; exact ((Below.refl _ w).alloc (Nat.le_refl _) _).alloc (by simp) _
  have hs1 : w1.heap.size = w.heap.size + 2 := by rw [hw1]; simp
  have HC := hid (copyE_any w.heap.size A c n g.es hn hl hf w1 (h.below hb1) hb1.size)
  have H1 := hid (And.intro hb1 hs1)
  rw [hw1] at HC H1
  have HW := hid hw1
  clear hb1 hs1 hw1 h
  go_enter Try.func11, Try.ntmps11
  go_wp2_with fail
  refine HC.out.mono ?_
  rintro e w2 ⟨A2, c2, rfl, ho2, hb2⟩
  have hs2 := hb2.size
  have q0 : w2.cell? ⟨w.heap.size, 0, none⟩ = some (.int .i64 g.base) := by rw [hb2.cell (by simp; omega)]; simp
  have q1 : w2.cell? ⟨w.heap.size, 1, none⟩ = some (.int .i64 g.term) := by rw [hb2.cell (by simp; omega)]; simp
  have q2 : w2.cell? ⟨w.heap.size, 2, none⟩ = some (.slice A n c) := by rw [hb2.cell (by simp; omega)]; simp
  have f2 : w2.frozen? ⟨w.heap.size, 2, none⟩ = false := by rw [hb2.frozen (by simp; omega)]; simp
  have r0 : w2.cell? ⟨w.heap.size + 1, 0, none⟩ = some (.int .i64 0) := by rw [hb2.cell (by simp)]; simp [World.cell?_alloc_at]
  have r1 : w2.cell? ⟨w.heap.size + 1, 1, none⟩ = some (.int .i64 0) := by rw [hb2.cell (by simp)]; simp [World.cell?_alloc_at]
  have r2 : w2.cell? ⟨w.heap.size + 1, 2, none⟩ = some (.slice none 0 0) := by rw [hb2.cell (by simp)]; simp [World.cell?_alloc_at]
  have f3 : ∀ k, w2.frozen? ⟨w.heap.size + 1, k, none⟩ = false := fun k => by rw [hb2.frozen (by simp)]; simp [World.frozen?_alloc_at]
  have HB : Hid (Below w.heap.size w w2) := hid (H1.out.1.trans (hb2.mono (by simp; omega)))
  have HO := hid ho2
  have hs3 : w.heap.size + 2 ≤ w2.heap.size := by simpa using hs2
  clear hb2 ho2 HC H1 hs2
  go_wp2_with fail
  refine bodyPost_ret (by simp [results, Try.results11, go_sem, r0, r1, r2]; try rfl) rfl ?_
  have T : Turned (fun k => k < w.heap.size + 2) w2 ((((w2.setCell ⟨w.heap.size, 2, none⟩ (.slice A2 n c2)).setCell ⟨w.heap.size + 1, 0, none⟩ (.int .i64 g.base)).setCell ⟨w.heap.size + 1, 1, none⟩ (.int .i64 g.term)).setCell ⟨w.heap.size + 1, 2, none⟩ (.slice A2 n c2)) := by
    (repeat' first | exact Turned.refl _ _ | refine Turned.setCell ?_ _ _ _ (fun _ => by omega))
  refine ⟨A2, c2, rfl, (HO.out.keep T (fun k hk hB => ?_)).wide ?_ T.size, HB.out.trans ?_⟩
  · have := hB.1; simp at this; omega
  · simp; omega
  · go_grown
end Go.Proofs.Ythocdknfkmclkaa
