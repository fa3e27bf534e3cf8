/- The walks through package rlog's questions: has, Term; how many entries are alike. -/
import Derived.Test.YthocdknfkmclkaaRlA
namespace Go.Proofs.Ythocdknfkmclkaa
open Go.RowKit

set_option maxHeartbeats 800000 in
set_option maxRecDepth 100000 in
theorem has_any (B : Nat) (g : Rl.Lg) (A : Option Addr) (c : Nat) (i : Int) (hg : Rl.Ok g) (w : World) (h : LgIs w B g A c) (hB : B ≤ w.heap.size) :
    Calls Try.prog 30 #[.agg #[.int .i64 g.base, .int .i64 g.term, .slice A g.es.length c], .int .i64 i] w fun e w' => e = .returned (.bool (g.has i)) ∧ Below w.heap.size w w' := by
  have hb1 : Below w.heap.size w (w.alloc (.cells #[.int .i64 g.base, .int .i64 g.term, .slice A g.es.length c] 24)) := (Below.refl _ w).alloc (Nat.le_refl _) _
  have HC := hid (last_any w.heap.size g A c hg _ ((h.more hB).below hb1) hb1.size)
  have HB := hid hb1
  clear h hb1
  obtain ⟨la, hla⟩ : ∃ la, la = g.last := ⟨_, rfl⟩
  obtain ⟨lt, hlt⟩ : ∃ lt, lt = g.lastT := ⟨_, rfl⟩
  have HE : Hid (g.has i = (decide (g.base ≤ i) && decide (i ≤ la))) := hid (by unfold Rl.Lg.has; rw [hla])
  rw [← hla, ← hlt] at HC
  rw [HE.out]
  clear hla hlt HE
  by_cases h1 : g.base ≤ i
  · by_cases h2 : i ≤ la
    · go_enter Try.func30, Try.ntmps30
      go_wp2_with fail
      refine HC.out.mono ?_
      rintro e w2 ⟨rfl, hb2⟩
      have HB2 := hid (HB.out.trans (hb2.mono HB.out.size))
      have q0 : w2.cell? ⟨w.heap.size, 0, none⟩ = some (.int .i64 g.base) := by rw [hb2.cell (by simp)]; simp
      clear hb2
      go_wp2_with fail
      go_ret
      exact ⟨ret_b (by simp [*]), HB2.out⟩
    · go_enter Try.func30, Try.ntmps30
      go_wp2_with fail
      refine HC.out.mono ?_
      rintro e w2 ⟨rfl, hb2⟩
      have HB2 := hid (HB.out.trans (hb2.mono HB.out.size))
      have q0 : w2.cell? ⟨w.heap.size, 0, none⟩ = some (.int .i64 g.base) := by rw [hb2.cell (by simp)]; simp
      clear hb2
      go_wp2_with fail
      go_ret
      exact ⟨ret_b (by simp [*]), HB2.out⟩
  · go_enter Try.func30, Try.ntmps30
    go_wp2_with fail
    refine HC.out.mono ?_
    rintro e w2 ⟨rfl, hb2⟩
    have HB2 := hid (HB.out.trans (hb2.mono HB.out.size))
    have q0 : w2.cell? ⟨w.heap.size, 0, none⟩ = some (.int .i64 g.base) := by rw [hb2.cell (by simp)]; simp
    clear hb2
    go_wp2_with fail
    go_ret
    exact ⟨ret_b (by simp; omega), HB2.out⟩

/-- the entry at a place of a log, where the walk finds its term -/
theorem LgIs.term_cell {w : World} {B : Nat} {g : Rl.Lg} {A : Option Addr} {c : Nat} (h : LgIs w B g A c) (p : Nat) (hp : p < g.es.length) : ∃ b off, A = some ⟨b, off, none⟩ ∧ b < B ∧ w.cell? ⟨b, off + p * 3, none⟩ = some (.int .i64 (g.at_ (p + 1))) := by
  obtain ⟨b, off, rfl, hb, hc⟩ := h.es.cells p hp
  obtain ⟨_, _, d0, _⟩ := hc p hp
  exact ⟨b, off, rfl, hb, by rw [g.at_succ p hp]; exact d0⟩

set_option maxHeartbeats 800000 in
set_option maxRecDepth 100000 in
theorem term_no (B : Nat) (g : Rl.Lg) (A : Option Addr) (c : Nat) (i : Int) (hg : Rl.Ok g) (hn : g.has i = false) (w : World) (h : LgIs w B g A c) (hB : B ≤ w.heap.size) :
    Calls Try.prog 14 #[.agg #[.int .i64 g.base, .int .i64 g.term, .slice A g.es.length c], .int .i64 i] w fun e w' => e = .returned (.tuple #[.int .i64 0, .bool false]) ∧ Below w.heap.size w w' := by
  have hb1 : Below w.heap.size w (w.alloc (.cells #[.int .i64 g.base, .int .i64 g.term, .slice A g.es.length c] 24)) := (Below.refl _ w).alloc (Nat.le_refl _) _
  have HC := hid (has_any w.heap.size g A c i hg _ ((h.more hB).below hb1) hb1.size)
  have HB := hid hb1
  rw [hn] at HC
  clear h hb1 hn
  go_enter Try.func14, Try.ntmps14
  go_wp2_with fail
  refine HC.out.mono ?_
  rintro e w2 ⟨rfl, hb2⟩
  have HB2 := hid (HB.out.trans (hb2.mono HB.out.size))
  clear hb2
  go_wp2_with fail
  go_ret2
  exact ⟨rfl, HB2.out⟩

set_option maxHeartbeats 800000 in
set_option maxRecDepth 100000 in
theorem term_yes (B : Nat) (g : Rl.Lg) (A : Option Addr) (c : Nat) (i : Int) (p : Nat) (hi : i = g.base + (p : Int)) (hp : p ≤ g.es.length) (hg : Rl.Ok g) (w : World) (h : LgIs w B g A c) (hB : B ≤ w.heap.size) :
    Calls Try.prog 14 #[.agg #[.int .i64 g.base, .int .i64 g.term, .slice A g.es.length c], .int .i64 i] w fun e w' => e = .returned (.tuple #[.int .i64 (g.at_ p), .bool true]) ∧ Below w.heap.size w w' := by
  have hb1 : Below w.heap.size w (w.alloc (.cells #[.int .i64 g.base, .int .i64 g.term, .slice A g.es.length c] 24)) := (Below.refl _ w).alloc (Nat.le_refl _) _
  have hh : g.has i = true := by rw [hi]; exact Rl.Lg.has_of hp
  have HC := hid (has_any w.heap.size g A c i hg _ ((h.more hB).below hb1) hb1.size)
  have HB := hid hb1
  rw [hh] at HC
  obtain ⟨⟨g0, g1⟩, _, gl⟩ := hg
  rcases p with _ | p
  · obtain rfl : i = g.base := by omega
    clear h hb1 hh hi
    go_enter Try.func14, Try.ntmps14
    go_wp2_with fail
    refine HC.out.mono ?_
    rintro e w2 ⟨rfl, hb2⟩
    have HB2 := hid (HB.out.trans (hb2.mono HB.out.size))
    have q0 : w2.cell? ⟨w.heap.size, 0, none⟩ = some (.int .i64 g.base) := by rw [hb2.cell (by simp)]; simp
    have q1 : w2.cell? ⟨w.heap.size, 1, none⟩ = some (.int .i64 g.term) := by rw [hb2.cell (by simp)]; simp
    clear hb2
    go_wp2_with fail
    go_ret2
    exact ⟨rfl, HB2.out⟩
  · obtain ⟨b, off, rfl, hbB, hc⟩ := h.term_cell p (by omega)
    have hcW : Hid (∀ w', Below w.heap.size w w' → w'.cell? ⟨b, off + p * 3, none⟩ = some (.int .i64 (g.at_ (p + 1)))) := hid (fun w' hb => (hb.cell (by show b < _; omega)).trans hc)
    have hne : ¬ i = g.base := by omega
    have hsub : i - g.base = (p : Int) + 1 := by omega
    have hb2' : i ≤ 1099511727776 := by omega
    have hp0 : (p : Int) < (g.es.length : Int) := by omega
    obtain ⟨x, hx⟩ : ∃ x, x = g.at_ (p + 1) := ⟨_, rfl⟩
    rw [← hx] at hcW ⊢
    clear h hb1 hh hi hc hx
    go_enter Try.func14, Try.ntmps14
    go_wp2_with fail
    refine HC.out.mono ?_
    rintro e w2 ⟨rfl, hb2⟩
    have HB2 := hid (HB.out.trans (hb2.mono HB.out.size))
    have q0 : w2.cell? ⟨w.heap.size, 0, none⟩ = some (.int .i64 g.base) := by rw [hb2.cell (by simp)]; simp
    have q2 : w2.cell? ⟨w.heap.size, 2, none⟩ = some (.slice (some ⟨b, off, none⟩) g.es.length c) := by rw [hb2.cell (by simp)]; simp
    have q3 := hcW.out w2 HB2.out
    clear hb2
    go_wp2_with fail
    go_ret2
    exact ⟨rfl, HB2.out⟩
theorem term_any (B : Nat) (g : Rl.Lg) (A : Option Addr) (c : Nat) (i : Int) (hg : Rl.Ok g) (w : World) (h : LgIs w B g A c) (hB : B ≤ w.heap.size) :
    Calls Try.prog 14 #[.agg #[.int .i64 g.base, .int .i64 g.term, .slice A g.es.length c], .int .i64 i] w fun e w' => e = .returned (.tuple #[.int .i64 (g.termV i), .bool (g.has i)]) ∧ Below w.heap.size w w' := by
  unfold Rl.Lg.termV
  rcases hh : g.has i with _ | _
  · exact term_no B g A c i hg hh w h hB
  · obtain ⟨p, h1, h2, h3⟩ := Rl.Lg.has_at hh
    rw [h3]
    exact term_yes B g A c i p h1 h2 hg w h hB

set_option maxHeartbeats 800000 in
set_option maxRecDepth 100000 in
theorem alike_any (B : Nat) (A A' : Option Addr) (c c' n m : Nat) (L M : List Rl.En) (hn : L.length = n) (hm : M.length = m) (hl : n ≤ 100000) (hl' : m ≤ 100000) (w : World) (h : IsEnts w B A L) (h' : IsEnts w B A' M) :
    Calls Try.prog 35 #[.slice A n c, .slice A' m c'] w fun e w' => e = .returned (.int .i64 (Rl.alike L M : Nat)) ∧ ∃ j, w' = w.drewN j := by
  subst hn
  subst hm
  by_cases hle : L.length ≤ M.length
  · have hle0 : (L.length : Int) ≤ (M.length : Int) := by omega
    go_enter Try.func35, Try.ntmps35
    go_wp2_with fail
    go_loopw [13] (fun i wr => ∃ k j : Nat, k ≤ L.length ∧ i = .int .i64 k ∧ wr = w.drewN j ∧ Hid (∀ j (hj : j < k) (h1 : j < L.length) (h2 : j < M.length), L[j].t = M[j].t)) (fun i _ => L.length - (RowKit.intOf i).toNat)
    case atStart => exact ⟨0, 0, by omega, rfl, rfl, hid (fun j hj => by omega)⟩
    case round =>
      obtain ⟨k, j, hk, rfl, rfl, hS⟩ := hrel
      by_cases hlt : k < L.length
      · have hkL : k < L.length := by omega
        have hkM : k < M.length := by omega
        obtain ⟨b, off, rfl, _, hc⟩ := (h.drewN j).cells k hkL
        obtain ⟨b', off', rfl, _, hc'⟩ := (h'.drewN j).cells k hkM
        obtain ⟨_, _, d0, _⟩ := hc k hkL
        obtain ⟨_, _, e0, _⟩ := hc' k hkM
        have hk1 : (k : Int) < (L.length : Int) := by omega
        have hk2 : (k : Int) < (M.length : Int) := by omega
        obtain ⟨w9, hw9⟩ : ∃ w9, w9 = w.drewN j := ⟨_, rfl⟩
        rw [← hw9] at d0 e0 ⊢
        have H9 := hid hw9
        clear hw9 hc hc' h h'
        by_cases he : L[k].t = M[k].t
        · have HS : Hid (∀ j (hj : j < k + 1) (h1 : j < L.length) (h2 : j < M.length), L[j].t = M[j].t) := hid (fun j hj h1 h2 => by
            by_cases e : j = k
            · subst e; exact he
            · exact hS.out j (by omega) h1 h2)
          rw [he] at d0
          obtain ⟨x, hx⟩ : ∃ x, x = M[k].t := ⟨_, rfl⟩
          rw [← hx] at d0 e0
          clear he hx
          go_wp2_with fail
          go_quiet (fail)
          go_wp2_with fail
          go_roundw
          case rel => exact ⟨k + 1, _, by omega, by go_num, by rw [H9.out, World.drewN_drewN], HS⟩
          case measure => simp [RowKit.intOf]; omega
        · have HR : Hid (Rl.alike L M = k) := hid (Rl.alike_eq L M k (by omega) (by omega) (fun j hj => hS.out j hj _ _) (fun _ _ => he))
          obtain ⟨x, hx⟩ : ∃ x, x = M[k].t := ⟨_, rfl⟩
          obtain ⟨y, hy⟩ : ∃ y, y = L[k].t := ⟨_, rfl⟩
          rw [← hx, ← hy] at he
          rw [← hx] at e0
          rw [← hy] at d0
          have hbe : (y != x) = true := by rw [bne_iff_ne]; exact he
          clear hx hy he
          go_wp2_with fail
          go_quiet (fail)
          go_wp2_with fail
          go_ret
          exact ⟨ret_int (by rw [HR.out]), _, by rw [H9.out, World.drewN_drewN]⟩
      · obtain rfl : k = L.length := by omega
        have HR : Hid (Rl.alike L M = L.length) := hid (Rl.alike_eq L M L.length (by omega) (by omega) (fun j hj => hS.out j hj _ _) (fun h3 h4 => by omega))
        clear hS
        go_wp2_with fail
        go_ret
        exact ⟨ret_int (by rw [HR.out]), _, rfl⟩
  · have hle0 : ¬ (L.length : Int) ≤ (M.length : Int) := by omega
    go_enter Try.func35, Try.ntmps35
    go_wp2_with fail
    go_loopw [13] (fun i wr => ∃ k j : Nat, k ≤ M.length ∧ i = .int .i64 k ∧ wr = w.drewN j ∧ Hid (∀ j (hj : j < k) (h1 : j < L.length) (h2 : j < M.length), L[j].t = M[j].t)) (fun i _ => M.length - (RowKit.intOf i).toNat)
    case atStart => exact ⟨0, 0, by omega, rfl, rfl, hid (fun j hj => by omega)⟩
    case round =>
      obtain ⟨k, j, hk, rfl, rfl, hS⟩ := hrel
      by_cases hlt : k < M.length
      · have hkL : k < L.length := by omega
        have hkM : k < M.length := by omega
        obtain ⟨b, off, rfl, _, hc⟩ := (h.drewN j).cells k hkL
        obtain ⟨b', off', rfl, _, hc'⟩ := (h'.drewN j).cells k hkM
        obtain ⟨_, _, d0, _⟩ := hc k hkL
        obtain ⟨_, _, e0, _⟩ := hc' k hkM
        have hk1 : (k : Int) < (L.length : Int) := by omega
        have hk2 : (k : Int) < (M.length : Int) := by omega
        obtain ⟨w9, hw9⟩ : ∃ w9, w9 = w.drewN j := ⟨_, rfl⟩
        rw [← hw9] at d0 e0 ⊢
        have H9 := hid hw9
        clear hw9 hc hc' h h'
        by_cases he : L[k].t = M[k].t
        · have HS : Hid (∀ j (hj : j < k + 1) (h1 : j < L.length) (h2 : j < M.length), L[j].t = M[j].t) := hid (fun j hj h1 h2 => by
            by_cases e : j = k
            · subst e; exact he
            · exact hS.out j (by omega) h1 h2)
          rw [he] at d0
          obtain ⟨x, hx⟩ : ∃ x, x = M[k].t := ⟨_, rfl⟩
          rw [← hx] at d0 e0
          clear he hx
          go_wp2_with fail
          go_quiet (fail)
          go_wp2_with fail
          go_roundw
          case rel => exact ⟨k + 1, _, by omega, by go_num, by rw [H9.out, World.drewN_drewN], HS⟩
          case measure => simp [RowKit.intOf]; omega
        · have HR : Hid (Rl.alike L M = k) := hid (Rl.alike_eq L M k (by omega) (by omega) (fun j hj => hS.out j hj _ _) (fun _ _ => he))
          obtain ⟨x, hx⟩ : ∃ x, x = M[k].t := ⟨_, rfl⟩
          obtain ⟨y, hy⟩ : ∃ y, y = L[k].t := ⟨_, rfl⟩
          rw [← hx, ← hy] at he
          rw [← hx] at e0
          rw [← hy] at d0
          have hbe : (y != x) = true := by rw [bne_iff_ne]; exact he
          clear hx hy he
          go_wp2_with fail
          go_quiet (fail)
          go_wp2_with fail
          go_ret
          exact ⟨ret_int (by rw [HR.out]), _, by rw [H9.out, World.drewN_drewN]⟩
      · obtain rfl : k = M.length := by omega
        have HR : Hid (Rl.alike L M = M.length) := hid (Rl.alike_eq L M M.length (by omega) (by omega) (fun j hj => hS.out j hj _ _) (fun h3 h4 => by omega))
        clear hS
        go_wp2_with fail
        go_ret
        exact ⟨ret_int (by rw [HR.out]), _, rfl⟩
end Go.Proofs.Ythocdknfkmclkaa
