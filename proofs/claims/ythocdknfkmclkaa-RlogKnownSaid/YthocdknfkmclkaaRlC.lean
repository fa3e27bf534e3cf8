/- The walks through package rlog's Slice and Cut. -/
import Derived.Test.YthocdknfkmclkaaRlB
import Derived.Test.YthocdknfkmclkaaRlOwn
namespace Go.Proofs.Ythocdknfkmclkaa
open Go.RowKit

theorem ret_own {A : Option Addr} {n m c : Nat} (h : n = m) : Ending.returned (.slice A n c) = .returned (.slice A m c) := by rw [h]
set_option maxHeartbeats 800000 in
set_option maxRecDepth 100000 in
theorem slice_no (B : Nat) (g : Rl.Lg) (A : Option Addr) (c : Nat) (i m : Int) (hg : Rl.Ok g) (hn : m < 1 ∨ i = g.base ∨ g.has i = false) (w : World) (h : LgIs w B g A c) (hB : B ≤ w.heap.size) :
    Calls Try.prog 16 #[.agg #[.int .i64 g.base, .int .i64 g.term, .slice A g.es.length c], .int .i64 i, .int .i64 m] w fun e w' => e = .returned (.slice none 0 0) ∧ Below w.heap.size w w' := by
  have hb1 : Below w.heap.size w (w.alloc (.cells #[.int .i64 g.base, .int .i64 g.term, .slice A g.es.length c] 24)) := (Below.refl _ w).alloc (Nat.le_refl _) _
  have HC := hid (has_any w.heap.size g A c i hg _ ((h.more hB).below hb1) hb1.size)
  have HB := hid hb1
  have HN := hid hn
  clear h hb1 hn
  by_cases h1 : m < 1
  · go_enter Try.func16, Try.ntmps16
    go_wp2_with fail
    go_ret
    exact ⟨rfl, HB.out⟩
  · by_cases h2 : i = g.base
    · subst h2
      go_enter Try.func16, Try.ntmps16
      go_wp2_with fail
      go_ret
      exact ⟨rfl, HB.out⟩
    · have h3 : g.has i = false := by
        rcases HN.out with e | e | e
        · exact absurd e h1
        · exact absurd e h2
        · exact e
      rw [h3] at HC
      clear h3
      go_enter Try.func16, Try.ntmps16
      go_wp2_with fail
      refine HC.out.mono ?_
      rintro e w2 ⟨rfl, hb2⟩
      have HB2 := hid (HB.out.trans (hb2.mono HB.out.size))
      clear hb2
      go_wp2_with fail
      go_ret
      exact ⟨rfl, HB2.out⟩

set_option maxHeartbeats 800000 in
set_option maxRecDepth 100000 in
theorem slice_yes (B : Nat) (g : Rl.Lg) (A : Option Addr) (c : Nat) (i m : Int) (j q : Nat) (hi : i = g.base + (j : Int) + 1) (hj : j < g.es.length) (hm : 1 ≤ m) (hq : q = min m.toNat (g.es.length - j)) (hg : Rl.Ok g) (hf : Rl.Few g.es) (w : World) (h : LgIs w B g A c) (hB : B ≤ w.heap.size) :
    Calls Try.prog 16 #[.agg #[.int .i64 g.base, .int .i64 g.term, .slice A g.es.length c], .int .i64 i, .int .i64 m] w fun e w' => ∃ A' c', e = .returned (.slice A' q c') ∧ OwnE w' w.heap.size w'.heap.size A' c' ((g.es.drop j).take m.toNat) ∧ Below w.heap.size w w' := by
  have hb1 : Below w.heap.size w (w.alloc (.cells #[.int .i64 g.base, .int .i64 g.term, .slice A g.es.length c] 24)) := (Below.refl _ w).alloc (Nat.le_refl _) _
  have hh : g.has i = true := by rw [hi]; exact Rl.Lg.has_iff.2 (by omega)
  have HC := hid (has_any w.heap.size g A c i hg _ ((h.more hB).below hb1) hb1.size)
  rw [hh] at HC
  obtain ⟨⟨g0, g1⟩, _, gl⟩ := hg
  have hlen : ((g.es.drop j).take m.toNat).length = q := by rw [List.length_take, List.length_drop, hq]
  have hsl := (h.es.sl (i := j) h.room.1).take m.toNat
  have hroom := h.room.1
  obtain ⟨b, off, rfl, hbB, _⟩ := h.es.cells j hj
  rw [if_neg (by omega)] at hsl
  have hadd : (Option.map (fun x => Addr.add x (j * 3)) (some (⟨b, off, none⟩ : Addr))) = some ⟨b, off + j * 3, none⟩ := by simp [add_off]
  rw [hadd] at hsl
  have HO : Hid (∀ n, n = q → ∀ w' c', Below w.heap.size w w' → Calls Try.prog 31 #[.slice (some ⟨b, off + j * 3, none⟩) n c'] w' fun e w'' => ∃ A' c', e = .returned (.slice A' q c') ∧ OwnE w'' w'.heap.size w''.heap.size A' c' ((g.es.drop j).take m.toNat) ∧ Below w'.heap.size w' w'') := hid (fun n hnq w' c' hb => by rw [hnq]; exact own_any w.heap.size _ c' q _ hlen (by omega) (fun e he => hf e (List.mem_of_mem_drop (List.mem_of_mem_take he))) w' ((hsl.more hB).below hb) hb.size)
  have HB := hid hb1
  have hne : ¬ i = g.base := by omega
  have hm1 : ¬ m < 1 := by omega
  have hsub : i - g.base = (j : Int) + 1 := by omega
  have hi2 : i ≤ 1099511727776 := by omega
  have hjc : ¬ c = j := by omega
  have hjl : (j : Int) ≤ (g.es.length : Int) := by omega
  have hqL : q ≤ g.es.length - j := by omega
  have hmn : min m (((g.es.length - j : Nat)) : Int) = (q : Int) := by omega
  have HQ := hid hq
  clear h hb1 hh hi hsl hadd hlen hf hq hm hmn
  go_enter Try.func16, Try.ntmps16
  go_wp2_with fail
  refine HC.out.mono ?_
  rintro e w2 ⟨rfl, hb2⟩
  have HB2 := hid (HB.out.trans (hb2.mono HB.out.size))
  have q0 : w2.cell? ⟨w.heap.size, 0, none⟩ = some (.int .i64 g.base) := by rw [hb2.cell (by simp)]; simp
  have q2 : w2.cell? ⟨w.heap.size, 2, none⟩ = some (.slice (some ⟨b, off, none⟩) g.es.length c) := by rw [hb2.cell (by simp)]; simp
  clear hb2
  go_wp2_with fail
  all_goals
    (refine (HO.out _ (by have := HQ.out; omega) w2 _ HB2.out).mono ?_
     rintro e w3 ⟨A3, c3, rfl, ho3, hb3⟩
     have H3 := hid (And.intro (ho3.wide HB2.out.size (Nat.le_refl _)) (HB2.out.trans (hb3.mono HB2.out.size)))
     clear hb3 ho3
     go_wp2_with fail
     go_ret
     exact ⟨A3, c3, rfl, H3.out.1, H3.out.2⟩)
/-- Slice tells the entries, in new memory -/
theorem slice_any (B : Nat) (g : Rl.Lg) (A : Option Addr) (c : Nat) (i m : Int) (hg : Rl.Ok g) (hf : Rl.Few g.es) (w : World) (h : LgIs w B g A c) (hB : B ≤ w.heap.size) :
    Calls Try.prog 16 #[.agg #[.int .i64 g.base, .int .i64 g.term, .slice A g.es.length c], .int .i64 i, .int .i64 m] w fun e w' => ∃ A' c', e = .returned (.slice A' (g.slice i m).length c') ∧ OwnE w' w.heap.size w'.heap.size A' c' (g.slice i m) ∧ Below w.heap.size w w' := by
  by_cases hn : m < 1 ∨ i = g.base ∨ g.has i = false
  · have e : g.slice i m = [] := by
      unfold Rl.Lg.slice
      rcases hn with e | e | e
      · rw [show m.toNat = 0 by omega]; simp
      · rw [if_neg (by intro h; exact h.2 e)]
      · rw [if_neg (by rw [e]; simp)]
    rw [e]
    exact (slice_no B g A c i m hg hn w h hB).mono fun e w' ⟨h1, h2⟩ => ⟨none, 0, h1, OwnE.nil _ _ _, h2⟩
  · have hn' : ¬ m < 1 ∧ i ≠ g.base ∧ g.has i = true := ⟨fun e => hn (.inl e), fun e => hn (.inr (.inl e)), by
      rcases e : g.has i with _ | _
      · exact absurd (.inr (.inr e)) hn
      · rfl⟩
    obtain ⟨p, h1, h2, h3⟩ := Rl.Lg.has_at hn'.2.2
    obtain ⟨j, rfl⟩ : ∃ j, p = j + 1 := ⟨p - 1, by omega⟩
    have e : g.slice i m = (g.es.drop j).take m.toNat := by
      unfold Rl.Lg.slice
      rw [if_pos ⟨hn'.2.2, hn'.2.1⟩, h3]; rfl
    have el : (g.slice i m).length = min m.toNat (g.es.length - j) := by rw [e, List.length_take, List.length_drop]
    rw [el, e]
    exact slice_yes B g A c i m j _ (by omega) (by omega) (by omega) rfl hg hf w h hB

set_option maxHeartbeats 800000 in
set_option maxRecDepth 100000 in
theorem cut_no (B : Nat) (g : Rl.Lg) (A : Option Addr) (c : Nat) (i : Int) (hg : Rl.Ok g) (hn : g.has i = false) (w : World) (h : LgIs w B g A c) (hB : B ≤ w.heap.size) :
    Calls Try.prog 27 #[.agg #[.int .i64 g.base, .int .i64 g.term, .slice A g.es.length c], .int .i64 i] w fun e w' => e = .returned (.tuple #[.agg #[.int .i64 0, .int .i64 0, .slice none 0 0], .int .i64 3]) ∧ Below w.heap.size w w' := by
  obtain ⟨w1, hw1⟩ : ∃ w1, w1 = (w.alloc (.cells #[.int .i64 g.base, .int .i64 g.term, .slice A g.es.length c] 24)).alloc (.cells #[.int .i64 0, .int .i64 0, .slice none 0 0] 24) := ⟨_, rfl⟩
  have hb1 : Below w.heap.size w w1 := by rw [hw1]; exact ((Below.refl _ w).alloc (Nat.le_refl _) _).alloc (by simp) _
  have HC := hid (term_no w.heap.size g A c i hg hn w1 ((h.more hB).below hb1) hb1.size)
  have HB := hid hb1
  have HZ := hid hb1.size
  rw [hw1] at HC HB HZ
  clear h hb1 hn hw1
  go_enter Try.func27, Try.ntmps27
  go_wp2_with fail
  refine HC.out.mono ?_
  rintro e w2 ⟨rfl, hb2⟩
  have HB2 := hid (HB.out.trans (hb2.mono HZ.out))
  have r0 : w2.cell? ⟨w.heap.size + 1, 0, none⟩ = some (.int .i64 0) := by rw [hb2.cell (by simp)]; simp [World.cell?_alloc_at]
  have r1 : w2.cell? ⟨w.heap.size + 1, 1, none⟩ = some (.int .i64 0) := by rw [hb2.cell (by simp)]; simp [World.cell?_alloc_at]
  have r2 : w2.cell? ⟨w.heap.size + 1, 2, none⟩ = some (.slice none 0 0) := by rw [hb2.cell (by simp)]; simp [World.cell?_alloc_at]
  have f3 : ∀ k, w2.frozen? ⟨w.heap.size + 1, k, none⟩ = false := fun k => by rw [hb2.frozen (by simp)]; simp [World.frozen?_alloc_at]
  have hs3 : w.heap.size + 2 ≤ w2.heap.size := by simpa using hb2.size
  clear hb2
  go_wp2_with fail
  refine bodyPost_ret (by simp [results, Try.results27, go_sem, r0, r1, r2]; try rfl) rfl ?_
  refine ⟨rfl, HB2.out.trans ?_⟩
  go_grown

set_option maxHeartbeats 800000 in
set_option maxRecDepth 100000 in
theorem cut_yes (B : Nat) (g : Rl.Lg) (A : Option Addr) (c : Nat) (i : Int) (p : Nat) (hi : i = g.base + (p : Int)) (hp : p ≤ g.es.length) (hg : Rl.Ok g) (hf : Rl.Few g.es) (w : World) (h : LgIs w B g A c) (hB : B ≤ w.heap.size) :
    Calls Try.prog 27 #[.agg #[.int .i64 g.base, .int .i64 g.term, .slice A g.es.length c], .int .i64 i] w fun e w' => ∃ A' c', e = .returned (.tuple #[.agg #[.int .i64 i, .int .i64 (g.at_ p), .slice A' (g.es.length - p) c'], .int .i64 0]) ∧ OwnE w' w.heap.size w'.heap.size A' c' (g.es.drop p) ∧ Below w.heap.size w w' := by
  obtain ⟨w1, hw1⟩ : ∃ w1, w1 = (w.alloc (.cells #[.int .i64 g.base, .int .i64 g.term, .slice A g.es.length c] 24)).alloc (.cells #[.int .i64 0, .int .i64 0, .slice none 0 0] 24) := ⟨_, rfl⟩
  have hb1 : Below w.heap.size w w1 := by rw [hw1]; exact ((Below.refl _ w).alloc (Nat.le_refl _) _).alloc (by simp) _
  have HC := hid (term_yes w.heap.size g A c i p hi hp hg w1 ((h.more hB).below hb1) hb1.size)
  have HB := hid hb1
  have HZ := hid hb1.size
  rw [hw1] at HC HB HZ
  obtain ⟨⟨g0, g1⟩, _, gl⟩ := hg
  have hroom := h.room.1
  have hsl := (h.es.sl (i := p) h.room.1).more hB
  obtain ⟨A1, hA1⟩ : ∃ A1, (if c = p then A else A.map (fun x => x.add (p * 3))) = A1 := ⟨_, rfl⟩
  rw [hA1] at hsl
  have HO : Hid (∀ w' c', Below w.heap.size w w' → Calls Try.prog 31 #[.slice A1 (g.es.length - p) c'] w' fun e w'' => ∃ A' c', e = .returned (.slice A' (g.es.length - p) c') ∧ OwnE w'' w'.heap.size w''.heap.size A' c' (g.es.drop p) ∧ Below w'.heap.size w' w'') := hid (fun w' c' hb => own_any w.heap.size _ c' _ _ List.length_drop (by omega) (fun e he => hf e (List.mem_of_mem_drop he)) w' (hsl.below hb) hb.size)
  have hsub : i - g.base = (p : Int) := by omega
  have hi2 : i ≤ 1099511727776 := by omega
  have hi3 : 0 ≤ i := by omega
  have hpl : (p : Int) ≤ (g.es.length : Int) := by omega
  clear h hb1 hi hsl hf hw1
  go_enter Try.func27, Try.ntmps27
  go_wp2_with fail
  refine HC.out.mono ?_
  rintro e w2 ⟨rfl, hb2⟩
  have HB2 := hid (HB.out.trans (hb2.mono HZ.out))
  have q0 : w2.cell? ⟨w.heap.size, 0, none⟩ = some (.int .i64 g.base) := by rw [hb2.cell (by simp; omega)]; simp
  have q2 : w2.cell? ⟨w.heap.size, 2, none⟩ = some (.slice A g.es.length c) := by rw [hb2.cell (by simp; omega)]; simp
  have HR : Hid (∀ w3, Below w2.heap.size w2 w3 → (w3.cell? ⟨w.heap.size + 1, 0, none⟩ = some (.int .i64 0) ∧ w3.cell? ⟨w.heap.size + 1, 1, none⟩ = some (.int .i64 0) ∧ w3.cell? ⟨w.heap.size + 1, 2, none⟩ = some (.slice none 0 0)) ∧ ∀ k, w3.frozen? ⟨w.heap.size + 1, k, none⟩ = false) := hid (fun w3 hb3 => by
    have hs3 : w.heap.size + 2 ≤ w2.heap.size := by simpa using hb2.size
    refine ⟨⟨?_, ?_, ?_⟩, fun k => ?_⟩
    · rw [hb3.cell (by show w.heap.size + 1 < _; omega), hb2.cell (by simp)]; simp [World.cell?_alloc_at]
    · rw [hb3.cell (by show w.heap.size + 1 < _; omega), hb2.cell (by simp)]; simp [World.cell?_alloc_at]
    · rw [hb3.cell (by show w.heap.size + 1 < _; omega), hb2.cell (by simp)]; simp [World.cell?_alloc_at]
    · rw [hb3.frozen (by show w.heap.size + 1 < _; omega), hb2.frozen (by simp)]; simp [World.frozen?_alloc_at])
  have hs2 : w.heap.size + 2 ≤ w2.heap.size := by simpa using hb2.size
  clear hb2
  go_wp2_with fail
  refine (HO.out w2 _ HB2.out).mono ?_
  rintro e w3 ⟨A3, c3, rfl, ho3, hb3⟩
  obtain ⟨⟨r0, r1, r2⟩, f3⟩ := HR.out w3 hb3
  have hs3 := hb3.size
  have H3 := hid (And.intro ho3 (HB2.out.trans (hb3.mono HB2.out.size)))
  clear hb3 ho3 HR HO HC
  go_wp2_with fail
  refine bodyPost_ret (by simp [results, Try.results27, go_sem, r0, r1, r2]; try rfl) rfl ?_
  have T : Turned (fun k => k < w.heap.size + 2) w3 (((w3.setCell ⟨w.heap.size + 1, 0, none⟩ (.int .i64 i)).setCell ⟨w.heap.size + 1, 1, none⟩ (.int .i64 (g.at_ p))).setCell ⟨w.heap.size + 1, 2, none⟩ (.slice A3 (g.es.length - p) c3)) := by
    (repeat' first | exact Turned.refl _ _ | refine Turned.setCell ?_ _ _ _ (fun _ => by omega))
  refine ⟨A3, c3, rfl, (H3.out.1.keep T (fun k hk hB => ?_)).wide (by omega) T.size, H3.out.2.trans ?_⟩
  · have := hB.1; omega
  · go_grown
/-- Cut tells the log behind an index, in new memory -/
theorem cut_any (B : Nat) (g : Rl.Lg) (A : Option Addr) (c : Nat) (i : Int) (hg : Rl.Ok g) (hf : Rl.Few g.es) (w : World) (h : LgIs w B g A c) (hB : B ≤ w.heap.size) :
    Calls Try.prog 27 #[.agg #[.int .i64 g.base, .int .i64 g.term, .slice A g.es.length c], .int .i64 i] w fun e w' => ∃ A' c', e = .returned (.tuple #[.agg #[.int .i64 (g.cut i).base, .int .i64 (g.cut i).term, .slice A' (g.cut i).es.length c'], .int .i64 (g.cutE i)]) ∧ OwnE w' w.heap.size w'.heap.size A' c' (g.cut i).es ∧ Below w.heap.size w w' := by
  unfold Rl.Lg.cut Rl.Lg.cutE
  rcases hh : g.has i with _ | _
  · exact (cut_no B g A c i hg hh w h hB).mono fun e w' ⟨h1, h2⟩ => ⟨none, 0, h1, OwnE.nil _ _ _, h2⟩
  · obtain ⟨p, h1, h2, h3⟩ := Rl.Lg.has_at hh
    rw [h3]
    simp only [if_true, List.length_drop]
    exact cut_yes B g A c i p h1 h2 hg hf w h hB
end Go.Proofs.Ythocdknfkmclkaa
