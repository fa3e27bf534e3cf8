/- The walk through package rlog's Append. -/
import Derived.Test.YthocdknfkmclkaaRlC
import Derived.Test.YthocdknfkmclkaaEntsMore
import Derived.Deep.RegionHeld3
import Derived.Deep.RegionLaw
namespace Go.Proofs.Ythocdknfkmclkaa
open Go.RowKit

/-- the boxes are written last -/
theorem app_end {w w3 : World} {N c3 : Nat} {A3 : Option Addr} {L : List Rl.En} (hN : w.heap.size + 2 ≤ N) (ho : OwnE w3 N w3.heap.size A3 c3 L) (hb : Below w.heap.size w w3) (u0 u1 u2 u3 : Value) :
    OwnE ((((w3.setCell ⟨w.heap.size, 2, none⟩ u0).setCell ⟨w.heap.size + 1, 0, none⟩ u1).setCell ⟨w.heap.size + 1, 1, none⟩ u2).setCell ⟨w.heap.size + 1, 2, none⟩ u3) w.heap.size ((((w3.setCell ⟨w.heap.size, 2, none⟩ u0).setCell ⟨w.heap.size + 1, 0, none⟩ u1).setCell ⟨w.heap.size + 1, 1, none⟩ u2).setCell ⟨w.heap.size + 1, 2, none⟩ u3).heap.size A3 c3 L ∧
    Below w.heap.size w ((((w3.setCell ⟨w.heap.size, 2, none⟩ u0).setCell ⟨w.heap.size + 1, 0, none⟩ u1).setCell ⟨w.heap.size + 1, 1, none⟩ u2).setCell ⟨w.heap.size + 1, 2, none⟩ u3) := by
  have T : Turned (fun k => k = w.heap.size ∨ k = w.heap.size + 1) w3 ((((w3.setCell ⟨w.heap.size, 2, none⟩ u0).setCell ⟨w.heap.size + 1, 0, none⟩ u1).setCell ⟨w.heap.size + 1, 1, none⟩ u2).setCell ⟨w.heap.size + 1, 2, none⟩ u3) :=
    ((((Turned.refl _ w3).setCell _ _ _ (fun _ => .inl rfl)).setCell _ _ _ (fun _ => .inr rfl)).setCell _ _ _ (fun _ => .inr rfl)).setCell _ _ _ (fun _ => .inr rfl)
  refine ⟨(ho.keep T (fun k hk hB => ?_)).wide (by omega) T.size, hb.trans (T.below hb.size (fun k hk => by omega))⟩
  have := hB.1
  omega

set_option maxHeartbeats 1600000 in
set_option maxRecDepth 100000 in
/-- what an Append tells whose entries the log holds, or whose index it has not -/
theorem app_same (B : Nat) (g : Rl.Lg) (A A' : Option Addr) (c c' : Nat) (i : Int) (m : Nat) (M : List Rl.En) (hm : M.length = m) (hm' : m ≤ 30000) (hg : Rl.Ok g) (hf : Rl.Few g.es) (hn : g.has i = false ∨ (g.has i = true ∧ ¬ g.there (g.pl i) M < m)) (w : World) (h : LgIs w B g A c) (h' : IsEnts w B A' M) (hB : B ≤ w.heap.size) :
    Calls Try.prog 25 #[.agg #[.int .i64 g.base, .int .i64 g.term, .slice A g.es.length c], .int .i64 i, .slice A' m c'] w fun e w' => ∃ A2 c2, e = .returned (.tuple #[.agg #[.int .i64 g.base, .int .i64 g.term, .slice A2 g.es.length c2], .int .i64 0]) ∧ OwnE w' w.heap.size w'.heap.size A2 c2 g.es ∧ Below w.heap.size w w' := by
  obtain ⟨w1, hw1⟩ : ∃ w1, w1 = (w.alloc (.cells #[.int .i64 g.base, .int .i64 g.term, .slice A g.es.length c] 24)).alloc (.cells #[.int .i64 0, .int .i64 0, .slice none 0 0] 24) := ⟨_, rfl⟩
  have hb1 : Below w.heap.size w w1 := by rw [hw1]; exact ((Below.refl _ w).alloc (Nat.le_refl _) _).alloc (by simp) _
  have hs1 : w1.heap.size = w.heap.size + 2 := by rw [hw1]; simp
  have HC := hid (has_any w.heap.size g A c i hg w1 ((h.more hB).below hb1) hb1.size)
  have hroom := h.room.1
  have hes := h.es.more hB
  have hes' := h'.more hB
  have HO : Hid (∀ w', Below w.heap.size w w' → Calls Try.prog 31 #[.slice A g.es.length c] w' fun e w'' => ∃ A' c', e = .returned (.slice A' g.es.length c') ∧ OwnE w'' w'.heap.size w''.heap.size A' c' g.es ∧ Below w'.heap.size w' w'') := hid (fun w' hb => own_any w.heap.size A c _ _ rfl (by have := hg.2.2; omega) hf w' (hes.below hb) hb.size)
  -- the boxes, as long as nothing writes them
  have HQ : Hid (∀ w2, Below (w.heap.size + 2) w1 w2 → (w2.cell? ⟨w.heap.size, 0, none⟩ = some (.int .i64 g.base) ∧ w2.cell? ⟨w.heap.size, 1, none⟩ = some (.int .i64 g.term) ∧ w2.cell? ⟨w.heap.size, 2, none⟩ = some (.slice A g.es.length c)) ∧ (w2.cell? ⟨w.heap.size + 1, 0, none⟩ = some (.int .i64 0) ∧ w2.cell? ⟨w.heap.size + 1, 1, none⟩ = some (.int .i64 0) ∧ w2.cell? ⟨w.heap.size + 1, 2, none⟩ = some (.slice none 0 0)) ∧ (∀ k, w2.frozen? ⟨w.heap.size, k, none⟩ = false) ∧ ∀ k, w2.frozen? ⟨w.heap.size + 1, k, none⟩ = false) := hid (fun w2 hb2 => by
    refine ⟨⟨?_, ?_, ?_⟩, ⟨?_, ?_, ?_⟩, fun k => ?_, fun k => ?_⟩
    · rw [hb2.cell (by show w.heap.size < _; omega), hw1]; simp
    · rw [hb2.cell (by show w.heap.size < _; omega), hw1]; simp
    · rw [hb2.cell (by show w.heap.size < _; omega), hw1]; simp
    · rw [hb2.cell (by show w.heap.size + 1 < _; omega), hw1]; simp [World.cell?_alloc_at]
    · rw [hb2.cell (by show w.heap.size + 1 < _; omega), hw1]; simp [World.cell?_alloc_at]
    · rw [hb2.cell (by show w.heap.size + 1 < _; omega), hw1]; simp [World.cell?_alloc_at]
    · rw [hb2.frozen (by show w.heap.size < _; omega), hw1]; simp
    · rw [hb2.frozen (by show w.heap.size + 1 < _; omega), hw1]; simp [World.frozen?_alloc_at])
  have H1 := hid (And.intro hb1 hs1)
  obtain ⟨⟨g0, g1⟩, _, gl⟩ := hg
  rcases hn with hn | ⟨hn, hlt⟩
  · rw [hn] at HC
    rw [hw1] at HC
    have HW := hid hw1
    clear h h' hb1 hs1 hes hes' hw1 hn hf
    go_enter Try.func25, Try.ntmps25
    go_wp2_with fail
    refine HC.out.mono ?_
    rintro e w2 ⟨rfl, hb2⟩
    rw [← HW.out] at hb2
    rw [H1.out.2] at hb2
    have HB2 := hid hb2
    have HB2' := hid (H1.out.1.trans (hb2.mono (by omega)))
    obtain ⟨⟨q0, q1, q2⟩, _, f0, _⟩ := HQ.out w2 hb2
    have hs2 : w.heap.size + 2 ≤ w2.heap.size := by have := hb2.size; have := H1.out.2; omega
    clear hb2
    go_wp2_with fail
    refine (HO.out w2 HB2'.out).mono ?_
    rintro e w3 ⟨A3, c3, rfl, ho3, hb3⟩
    obtain ⟨⟨p0, p1, p2⟩, ⟨r0, r1, r2⟩, f1, f3⟩ := HQ.out w3 (HB2.out.trans (hb3.mono hs2))
    have hs3 := hb3.size
    have H3 := hid (app_end hs2 ho3 (HB2'.out.trans (hb3.mono HB2'.out.size)))
    clear hb3 ho3 HO HC q0 q1 q2 f0
    go_wp2_with fail
    refine bodyPost_ret (by simp [results, Try.results25, go_sem, r0, r1, r2]; try rfl) rfl ?_
    exact ⟨A3, c3, rfl, H3.out _ _ _ _⟩
  · obtain ⟨p, hip, hp, hpl⟩ := Rl.Lg.has_at hn
    rw [hpl] at hlt
    rw [hn] at HC
    rw [hw1] at HC
    have HW := hid hw1
    have hsl := hes.sl (i := p) hroom
    obtain ⟨A1, hA1⟩ : ∃ A1, (if c = p then A else A.map (fun x => x.add (p * 3))) = A1 := ⟨_, rfl⟩
    rw [hA1] at hsl
    have HK : Hid (∀ w', Below w.heap.size w w' → ∀ c9, Calls Try.prog 35 #[.slice A1 (g.es.length - p) c9, .slice A' m c'] w' fun e w'' => e = .returned (.int .i64 (g.there p M : Nat)) ∧ ∃ j, w'' = w'.drewN j) := hid (fun w' hb c9 => alike_any w.heap.size A1 A' c9 c' _ m _ M List.length_drop hm (by omega) (by omega) w' (hsl.below hb) (hes'.below hb))
    obtain ⟨n, hnn⟩ : ∃ n, n = g.there p M := ⟨_, rfl⟩
    rw [← hnn] at HK hlt
    have hn0 : ¬ (n : Int) < (m : Int) := by omega
    have hsub : i - g.base = (p : Int) := by omega
    have hi2 : i ≤ 1099511727776 := by omega
    have hi3 : 0 ≤ i := by omega
    have hpl' : (p : Int) ≤ (g.es.length : Int) := by omega
    clear h h' hb1 hs1 hes hes' hw1 hn hf hsl hip hpl hnn hlt
    go_enter Try.func25, Try.ntmps25
    go_wp2_with fail
    refine HC.out.mono ?_
    rintro e w2 ⟨rfl, hb2⟩
    rw [← HW.out] at hb2
    rw [H1.out.2] at hb2
    have HB2 := hid hb2
    have HB2' := hid (H1.out.1.trans (hb2.mono (by omega)))
    obtain ⟨⟨q0, q1, q2⟩, _, f0, _⟩ := HQ.out w2 hb2
    have hs2 : w.heap.size + 2 ≤ w2.heap.size := by have := hb2.size; have := H1.out.2; omega
    clear hb2
    go_wp2_with fail
    refine (HK.out w2 HB2'.out _).mono ?_
    rintro e w5 ⟨rfl, j5, hw5⟩
    have hb5 : Below w2.heap.size w2 w5 := by rw [hw5]; exact below_drewN (Below.refl _ _) j5
    have HB5 := hid (HB2.out.trans (hb5.mono hs2))
    have HB5' := hid (HB2'.out.trans (hb5.mono HB2'.out.size))
    obtain ⟨⟨o0, o1, o2⟩, _, f5, _⟩ := HQ.out w5 HB5.out
    have hs5 : w.heap.size + 2 ≤ w5.heap.size := Nat.le_trans hs2 hb5.size
    clear hw5 hb5 q0 q1 q2 f0 HK
    go_wp2_with fail
    refine (HO.out w5 HB5'.out).mono ?_
    rintro e w3 ⟨A3, c3, rfl, ho3, hb3⟩
    obtain ⟨⟨p0, p1, p2⟩, ⟨r0, r1, r2⟩, f1, f3⟩ := HQ.out w3 (HB5.out.trans (hb3.mono hs5))
    have hs3 := hb3.size
    have H3 := hid (app_end hs5 ho3 (HB5'.out.trans (hb3.mono HB5'.out.size)))
    clear hb3 ho3 HO HC o0 o1 o2 f5
    go_wp2_with fail
    refine bodyPost_ret (by simp [results, Try.results25, go_sem, r0, r1, r2]; try rfl) rfl ?_
    exact ⟨A3, c3, rfl, H3.out _ _ _ _⟩
end Go.Proofs.Ythocdknfkmclkaa
