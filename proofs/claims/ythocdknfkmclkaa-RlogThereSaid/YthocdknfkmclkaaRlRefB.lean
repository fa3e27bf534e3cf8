/- The walks through the document's Term and Cut. -/
import Derived.Test.YthocdknfkmclkaaRlRefA
import Derived.Test.YthocdknfkmclkaaRlB
import Derived.Test.YthocdknfkmclkaaKitEnCopy
namespace Go.Proofs.Ythocdknfkmclkaa
open Go.RowKit

set_option maxHeartbeats 800000 in
set_option maxRecDepth 100000 in
theorem refTerm_no (B : Nat) (g : Rl.Lg) (A : Option Addr) (c : Nat) (i : Int) (hg : Rl.Ok g) (hn : g.has i = false) (w : World) (h : LgIs w B g A c) (hB : B ≤ w.heap.size) :
    Calls Try.prog 15 #[.agg #[.int .i64 g.base, .int .i64 g.term, .slice A g.es.length c], .int .i64 i] w fun e w' => e = .returned (.tuple #[.int .i64 0, .bool false]) ∧ Below w.heap.size w w' := by
  have hb1 : Below w.heap.size w (w.alloc (.cells #[.int .i64 g.base, .int .i64 g.term, .slice A g.es.length c] 24)) := (Below.refl _ w).alloc (Nat.le_refl _) _
  have HC := hid (refLast_any w.heap.size g A c hg _ ((h.more hB).below hb1) hb1.size)
  have HB := hid hb1
  have hn2 := Rl.Lg.has_not.1 hn
  obtain ⟨la, hla⟩ : ∃ la, la = g.last := ⟨_, rfl⟩
  obtain ⟨lt, hlt⟩ : ∃ lt, lt = g.lastT := ⟨_, rfl⟩
  have hla2 : la = g.base + (g.es.length : Nat) := by rw [hla]; rfl
  rw [← hla, ← hlt] at HC
  by_cases h1 : i < g.base
  · clear h hb1 hn hn2 hla hlt hla2
    go_enter Try.func15, Try.ntmps15
    go_wp2_with fail
    refine HC.out.mono ?_
    rintro e w2 ⟨rfl, hb2⟩
    have HB2 := hid (HB.out.trans (hb2.mono HB.out.size))
    have q0 : w2.cell? ⟨w.heap.size, 0, none⟩ = some (.int .i64 g.base) := by rw [hb2.cell (by simp)]; simp
    clear hb2
    go_wp2_with fail
    go_ret2
    exact ⟨rfl, HB2.out⟩
  · have h2 : la < i := by omega
    clear h hb1 hn hn2 hla hlt hla2
    go_enter Try.func15, Try.ntmps15
    go_wp2_with fail
    refine HC.out.mono ?_
    rintro e w2 ⟨rfl, hb2⟩
    have HB2 := hid (HB.out.trans (hb2.mono HB.out.size))
    have q0 : w2.cell? ⟨w.heap.size, 0, none⟩ = some (.int .i64 g.base) := by rw [hb2.cell (by simp)]; simp
    clear hb2
    go_wp2_with fail
    go_ret2
    exact ⟨rfl, HB2.out⟩

set_option maxHeartbeats 800000 in
set_option maxRecDepth 100000 in
theorem refTerm_yes (B : Nat) (g : Rl.Lg) (A : Option Addr) (c : Nat) (i : Int) (p : Nat) (hi : i = g.base + (p : Int)) (hp : p ≤ g.es.length) (hg : Rl.Ok g) (w : World) (h : LgIs w B g A c) (hB : B ≤ w.heap.size) :
    Calls Try.prog 15 #[.agg #[.int .i64 g.base, .int .i64 g.term, .slice A g.es.length c], .int .i64 i] w fun e w' => e = .returned (.tuple #[.int .i64 (g.at_ p), .bool true]) ∧ Below w.heap.size w w' := by
  have hb1 : Below w.heap.size w (w.alloc (.cells #[.int .i64 g.base, .int .i64 g.term, .slice A g.es.length c] 24)) := (Below.refl _ w).alloc (Nat.le_refl _) _
  have HC := hid (refLast_any w.heap.size g A c hg _ ((h.more hB).below hb1) hb1.size)
  have HB := hid hb1
  obtain ⟨la, hla⟩ : ∃ la, la = g.last := ⟨_, rfl⟩
  obtain ⟨lt, hlt⟩ : ∃ lt, lt = g.lastT := ⟨_, rfl⟩
  have hla2 : la = g.base + (g.es.length : Nat) := by rw [hla]; rfl
  rw [← hla, ← hlt] at HC
  have hil : ¬ la < i := by omega
  have hib : ¬ i < g.base := by omega
  clear hla hlt hla2
  obtain ⟨⟨g0, g1⟩, _, gl⟩ := hg
  rcases p with _ | p
  · obtain rfl : i = g.base := by omega
    clear h hb1 hi
    go_enter Try.func15, Try.ntmps15
    go_wp2_with fail
    refine HC.out.mono ?_
    rintro e w2 ⟨rfl, hb2⟩
    have HB2 := hid (HB.out.trans (hb2.mono HB.out.size))
    have q0 : w2.cell? ⟨w.heap.size, 0, none⟩ = some (.int .i64 g.base) := by rw [hb2.cell (by simp)]; simp
    have q1 : w2.cell? ⟨w.heap.size, 1, none⟩ = some (.int .i64 g.term) := by rw [hb2.cell (by simp)]; simp
    clear hb2
    go_wp2_with fail
    go_ret2
    exact ⟨rfl, HB2.out⟩
  · obtain ⟨b, off, rfl, hbB, hc⟩ := h.term_cell p (by omega)
    have hcW : Hid (∀ w', Below w.heap.size w w' → w'.cell? ⟨b, off + p * 3, none⟩ = some (.int .i64 (g.at_ (p + 1)))) := hid (fun w' hb => (hb.cell (by show b < _; omega)).trans hc)
    have hne : ¬ i = g.base := by omega
    have hsub : i - g.base = (p : Int) + 1 := by omega
    have hb2' : i ≤ 1099511727776 := by omega
    have hp0 : (p : Int) < (g.es.length : Int) := by omega
    obtain ⟨x, hx⟩ : ∃ x, x = g.at_ (p + 1) := ⟨_, rfl⟩
    rw [← hx] at hcW ⊢
    clear h hb1 hi hc hx
    go_enter Try.func15, Try.ntmps15
    go_wp2_with fail
    refine HC.out.mono ?_
    rintro e w2 ⟨rfl, hb2⟩
    have HB2 := hid (HB.out.trans (hb2.mono HB.out.size))
    have q0 : w2.cell? ⟨w.heap.size, 0, none⟩ = some (.int .i64 g.base) := by rw [hb2.cell (by simp)]; simp
    have q2 : w2.cell? ⟨w.heap.size, 2, none⟩ = some (.slice (some ⟨b, off, none⟩) g.es.length c) := by rw [hb2.cell (by simp)]; simp
    have q3 := hcW.out w2 HB2.out
    clear hb2
    go_wp2_with fail
    go_ret2
    exact ⟨rfl, HB2.out⟩
theorem refTerm_any (B : Nat) (g : Rl.Lg) (A : Option Addr) (c : Nat) (i : Int) (hg : Rl.Ok g) (w : World) (h : LgIs w B g A c) (hB : B ≤ w.heap.size) :
    Calls Try.prog 15 #[.agg #[.int .i64 g.base, .int .i64 g.term, .slice A g.es.length c], .int .i64 i] w fun e w' => e = .returned (.tuple #[.int .i64 (g.termV i), .bool (g.has i)]) ∧ Below w.heap.size w w' := by
  unfold Rl.Lg.termV
  rcases hh : g.has i with _ | _
  · exact refTerm_no B g A c i hg hh w h hB
  · obtain ⟨p, h1, h2, h3⟩ := Rl.Lg.has_at hh
    rw [h3]
    exact refTerm_yes B g A c i p h1 h2 hg w h hB

set_option maxHeartbeats 800000 in
set_option maxRecDepth 100000 in
theorem refCut_no (B : Nat) (g : Rl.Lg) (A : Option Addr) (c : Nat) (i : Int) (hg : Rl.Ok g) (hn : g.has i = false) (w : World) (h : LgIs w B g A c) (hB : B ≤ w.heap.size) :
    Calls Try.prog 28 #[.agg #[.int .i64 g.base, .int .i64 g.term, .slice A g.es.length c], .int .i64 i] w fun e w' => e = .returned (.tuple #[.agg #[.int .i64 0, .int .i64 0, .slice none 0 0], .int .i64 3]) ∧ Below w.heap.size w w' := by
  obtain ⟨w1, hw1⟩ : ∃ w1, w1 = (w.alloc (.cells #[.int .i64 g.base, .int .i64 g.term, .slice A g.es.length c] 24)).alloc (.cells #[.int .i64 0, .int .i64 0, .slice none 0 0] 24) := ⟨_, rfl⟩
  have hb1 : Below w.heap.size w w1 := by rw [hw1]; exact ((Below.refl _ w).alloc (Nat.le_refl _) _).alloc (by simp) _
  have HC := hid (refTerm_no w.heap.size g A c i hg hn w1 ((h.more hB).below hb1) hb1.size)
  have HB := hid hb1
  have HZ := hid hb1.size
  rw [hw1] at HC HB HZ
  clear h hb1 hn hw1
  go_enter Try.func28, Try.ntmps28
  go_wp2_with fail
  refine HC.out.mono ?_
  rintro e w2 ⟨rfl, hb2⟩
  have HB2 := hid (HB.out.trans (hb2.mono HZ.out))
  have r0 : w2.cell? ⟨w.heap.size + 1, 0, none⟩ = some (.int .i64 0) := by rw [hb2.cell (by simp)]; simp [World.cell?_alloc_at]
  have r1 : w2.cell? ⟨w.heap.size + 1, 1, none⟩ = some (.int .i64 0) := by rw [hb2.cell (by simp)]; simp [World.cell?_alloc_at]
  have r2 : w2.cell? ⟨w.heap.size + 1, 2, none⟩ = some (.slice none 0 0) := by rw [hb2.cell (by simp)]; simp [World.cell?_alloc_at]
  have f3 : ∀ k, w2.frozen? ⟨w.heap.size + 1, k, none⟩ = false := fun k => by rw [hb2.frozen (by simp)]; simp [World.frozen?_alloc_at]
  have hs3 : w.heap.size + 2 ≤ w2.heap.size := by simpa using hb2.size
  clear hb2
  go_wp2_with fail
  refine bodyPost_ret (by simp [results, Try.results28, go_sem, r0, r1, r2]; try rfl) rfl ?_
  refine ⟨rfl, HB2.out.trans ?_⟩
  go_grown

set_option maxHeartbeats 800000 in
set_option maxRecDepth 100000 in
theorem refCut_yes (B : Nat) (g : Rl.Lg) (A : Option Addr) (c : Nat) (i : Int) (p : Nat) (hi : i = g.base + (p : Int)) (hp : p ≤ g.es.length) (hg : Rl.Ok g) (hf : Rl.Few g.es) (w : World) (h : LgIs w B g A c) (hB : B ≤ w.heap.size) :
    Calls Try.prog 28 #[.agg #[.int .i64 g.base, .int .i64 g.term, .slice A g.es.length c], .int .i64 i] w fun e w' => ∃ A' c', e = .returned (.tuple #[.agg #[.int .i64 i, .int .i64 (g.at_ p), .slice A' (g.es.length - p) c'], .int .i64 0]) ∧ OwnE w' w.heap.size w'.heap.size A' c' (g.es.drop p) ∧ Below w.heap.size w w' := by
  obtain ⟨w1, hw1⟩ : ∃ w1, w1 = (w.alloc (.cells #[.int .i64 g.base, .int .i64 g.term, .slice A g.es.length c] 24)).alloc (.cells #[.int .i64 0, .int .i64 0, .slice none 0 0] 24) := ⟨_, rfl⟩
  have hb1 : Below w.heap.size w w1 := by rw [hw1]; exact ((Below.refl _ w).alloc (Nat.le_refl _) _).alloc (by simp) _
  have HC := hid (refTerm_yes w.heap.size g A c i p hi hp hg w1 ((h.more hB).below hb1) hb1.size)
  have HB := hid hb1
  have HZ := hid hb1.size
  rw [hw1] at HC HB HZ
  obtain ⟨⟨g0, g1⟩, _, gl⟩ := hg
  have hroom := h.room.1
  have hsl := (h.es.sl (i := p) h.room.1).more hB
  obtain ⟨A1, hA1⟩ : ∃ A1, (if c = p then A else A.map (fun x => x.add (p * 3))) = A1 := ⟨_, rfl⟩
  rw [hA1] at hsl
  have HO : Hid (∀ w' c', Below w.heap.size w w' → Calls Try.prog 24 #[.slice A1 (g.es.length - p) c'] w' fun e w'' => ∃ A' c', e = .returned (.slice A' (g.es.length - p) c') ∧ OwnE w'' w'.heap.size w''.heap.size A' c' (g.es.drop p) ∧ Below w'.heap.size w' w'') := hid (fun w' c' hb => copyE_any w.heap.size _ c' _ _ List.length_drop (by omega) (fun e he => hf e (List.mem_of_mem_drop he)) w' (hsl.below hb) hb.size)
  have hsub : i - g.base = (p : Int) := by omega
  have hi2 : i ≤ 1099511727776 := by omega
  have hi3 : 0 ≤ i := by omega
  have hpl : (p : Int) ≤ (g.es.length : Int) := by omega
  clear h hb1 hi hsl hf hw1
  go_enter Try.func28, Try.ntmps28
  go_wp2_with fail
  refine HC.out.mono ?_
  rintro e w2 ⟨rfl, hb2⟩
  have HB2 := hid (HB.out.trans (hb2.mono HZ.out))
  have q0 : w2.cell? ⟨w.heap.size, 0, none⟩ = some (.int .i64 g.base) := by rw [hb2.cell (by simp; omega)]; simp
  have q2 : w2.cell? ⟨w.heap.size, 2, none⟩ = some (.slice A g.es.length c) := by rw [hb2.cell (by simp; omega)]; simp
  have HR : Hid (∀ w3, Below w2.heap.size w2 w3 → (w3.cell? ⟨w.heap.size + 1, 0, none⟩ = some (.int .i64 0) ∧ w3.cell? ⟨w.heap.size + 1, 1, none⟩ = some (.int .i64 0) ∧ w3.cell? ⟨w.heap.size + 1, 2, none⟩ = some (.slice none 0 0)) ∧ ∀ k, w3.frozen? ⟨w.heap.size + 1, k, none⟩ = false) := hid (fun w3 hb3 => by
    have hs3 : w.heap.size + 2 ≤ w2.heap.size := by simpa using hb2.size
    refine ⟨⟨?_, ?_, ?_⟩, fun k => ?_⟩
    · rw [hb3.cell (by show w.heap.size + 1 < _; omega), hb2.cell (by simp)]; simp [World.cell?_alloc_at]
    · rw [hb3.cell (by show w.heap.size + 1 < _; omega), hb2.cell (by simp)]; simp [World.cell?_alloc_at]
    · rw [hb3.cell (by show w.heap.size + 1 < _; omega), hb2.cell (by simp)]; simp [World.cell?_alloc_at]
    · rw [hb3.frozen (by show w.heap.size + 1 < _; omega), hb2.frozen (by simp)]; simp [World.frozen?_alloc_at])
  have hs2 : w.heap.size + 2 ≤ w2.heap.size := by simpa using hb2.size
  clear hb2
  go_wp2_with fail
  refine (HO.out w2 _ HB2.out).mono ?_
  rintro e w3 ⟨A3, c3, rfl, ho3, hb3⟩
  obtain ⟨⟨r0, r1, r2⟩, f3⟩ := HR.out w3 hb3
  have hs3 := hb3.size
  have H3 := hid (And.intro ho3 (HB2.out.trans (hb3.mono HB2.out.size)))
  clear hb3 ho3 HR HO HC
  go_wp2_with fail
  refine bodyPost_ret (by simp [results, Try.results28, go_sem, r0, r1, r2]; try rfl) rfl ?_
  have T : Turned (fun k => k < w.heap.size + 2) w3 (((w3.setCell ⟨w.heap.size + 1, 0, none⟩ (.int .i64 i)).setCell ⟨w.heap.size + 1, 1, none⟩ (.int .i64 (g.at_ p))).setCell ⟨w.heap.size + 1, 2, none⟩ (.slice A3 (g.es.length - p) c3)) := by
    (repeat' first | exact Turned.refl _ _ | refine Turned.setCell ?_ _ _ _ (fun _ => by omega))
  refine ⟨A3, c3, rfl, (H3.out.1.keep T (fun k hk hB => ?_)).wide (by omega) T.size, H3.out.2.trans ?_⟩
  · have := hB.1; omega
  · go_grown
/-- Cut tells the log behind an index, in new memory -/
theorem refCut_any (B : Nat) (g : Rl.Lg) (A : Option Addr) (c : Nat) (i : Int) (hg : Rl.Ok g) (hf : Rl.Few g.es) (w : World) (h : LgIs w B g A c) (hB : B ≤ w.heap.size) :
    Calls Try.prog 28 #[.agg #[.int .i64 g.base, .int .i64 g.term, .slice A g.es.length c], .int .i64 i] w fun e w' => ∃ A' c', e = .returned (.tuple #[.agg #[.int .i64 (g.cut i).base, .int .i64 (g.cut i).term, .slice A' (g.cut i).es.length c'], .int .i64 (g.cutE i)]) ∧ OwnE w' w.heap.size w'.heap.size A' c' (g.cut i).es ∧ Below w.heap.size w w' := by
  unfold Rl.Lg.cut Rl.Lg.cutE
  rcases hh : g.has i with _ | _
  · exact (refCut_no B g A c i hg hh w h hB).mono fun e w' ⟨h1, h2⟩ => ⟨none, 0, h1, OwnE.nil _ _ _, h2⟩
  · obtain ⟨p, h1, h2, h3⟩ := Rl.Lg.has_at hh
    rw [h3]
    simp only [if_true, List.length_drop]
    exact refCut_yes B g A c i p h1 h2 hg hf w h hB
end Go.Proofs.Ythocdknfkmclkaa
