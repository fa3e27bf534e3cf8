/- What each statement of layer 10 asks: two of three are enough, one is not. -/
import Derived.Test.YtblhfbijffaacaaQuD
import Derived.Test.YtblhfbijffaacaaQuH
namespace Go.Proofs.Ytblhfbijffaacaa
open Go.RowKit

theorem check_N (n0 n1 n2 : Nat) (B : Nat) (c : Qu.Cf) (e0 : c.old.length = n0) (e1 : c.new.length = n1) (e2 : c.lrn.length = n2) (hs : Short c) (a0 a1 a2 : Option Addr) (k0 k1 k2 : Nat) (w : World) (h : CIs w B c a0 a1 a2 k0 k1 k2) (hB : B ≤ w.heap.size) (r : Int) (hr : Qu.err c = r) :
    Calls Try.prog 15 #[.agg #[.slice a0 n0 k0, .slice a1 n1 k1, .slice a2 n2 k2]] w fun e w' => e = .returned (.int .i64 r) ∧ Below w.heap.size w w' := by
  subst e0; subst e1; subst e2; subst hr
  exact check_any B c hs a0 a1 a2 k0 k1 k2 w h hB
theorem won_N (n0 n1 n2 ny : Nat) (B : Nat) (c : Qu.Cf) (e0 : c.old.length = n0) (e1 : c.new.length = n1) (e2 : c.lrn.length = n2) (hs : Short c) (a0 a1 a2 ay : Option Addr) (k0 k1 k2 ky : Nat) (yes : List Int) (ey : yes.length = ny) (hy : ny ≤ 2000) (w : World) (h : CIs w B c a0 a1 a2 k0 k1 k2) (hY : IsInts w B ay yes) (hB : B ≤ w.heap.size) (r : Bool) (hr : Qu.won c yes = r) :
    Calls Try.prog 17 #[.agg #[.slice a0 n0 k0, .slice a1 n1 k1, .slice a2 n2 k2], .slice ay ny ky] w fun e w' => e = .returned (.bool r) ∧ Below w.heap.size w w' := by
  subst e0; subst e1; subst e2; subst ey; subst hr
  exact won_any B c hs a0 a1 a2 ay k0 k1 k2 ky yes hy w h hY hB
theorem agreed_N (n0 n1 n2 nn nr : Nat) (B : Nat) (c : Qu.Cf) (e0 : c.old.length = n0) (e1 : c.new.length = n1) (e2 : c.lrn.length = n2) (hs : Short c) (a0 a1 a2 an ar : Option Addr) (k0 k1 k2 kn kr : Nat) (nodes reached : List Int) (en : nodes.length = nn) (er : reached.length = nr) (hn : nn ≤ 2000) (hrr : nr ≤ 2000) (w : World) (h : CIs w B c a0 a1 a2 k0 k1 k2) (hN : IsInts w B an nodes) (hR : IsInts w B ar reached) (hB : B ≤ w.heap.size) (r : Int) (hr : Qu.Agr c (nodes.zip reached) r) :
    Calls Try.prog 25 #[.agg #[.slice a0 n0 k0, .slice a1 n1 k1, .slice a2 n2 k2], .slice an nn kn, .slice ar nr kr] w fun e w' => e = .returned (.int .i64 r) ∧ Below w.heap.size w w' := by
  subst e0; subst e1; subst e2; subst en; subst er
  refine (agreed_any B c hs a0 a1 a2 an ar k0 k1 k2 kn kr nodes reached hn hrr w h hN hR hB).mono ?_
  rintro e w' ⟨r', rfl, h', hb⟩
  exact ⟨by rw [h'.unique hr], hb⟩
def Qu.three : Qu.Cf := ⟨[1, 2, 3], [], []⟩
theorem three_short : Short Qu.three := by unfold Short Qu.three; simp
theorem three_err : Qu.err Qu.three = 0 := by decide
theorem three_won : Qu.won Qu.three [1, 3] = true := by decide
theorem three_not : Qu.won Qu.three [3] = false := by decide
theorem three_agr : Qu.Agr Qu.three ([1, 2, 3].zip [7, 5, 9]) 7 := by
  refine ⟨by omega, fun _ => ⟨by decide, (1, 7), by simp, rfl⟩, fun p hp h0 hq => ?_⟩
  simp at hp
  rcases hp with rfl | rfl | rfl
  · simp
  · simp
  · revert hq; decide
theorem small3 : ∀ x ∈ ([1, 2, 3] : List Int), InInt x := by intro x hx; simp at hx; unfold InInt; omega
theorem small13 : ∀ x ∈ ([1, 3] : List Int), InInt x := by intro x hx; simp at hx; unfold InInt; omega
theorem small_3 : ∀ x ∈ ([3] : List Int), InInt x := by intro x hx; simp at hx; unfold InInt; omega
theorem small759 : ∀ x ∈ ([7, 5, 9] : List Int), InInt x := by intro x hx; simp at hx; unfold InInt; omega

set_option maxRecDepth 100000 in
set_option maxHeartbeats 1000000 in
theorem works_any (w : World) : Calls Try.prog 10 #[] w fun e w' => e = .returned (.bool true) ∧ Below w.heap.size w w' := by
  go_enter Try.func10, Try.ntmps10
  go_wp2_with fail
  have q0 : IsInts ((w.alloc (.cells #[.int .i64 1, .int .i64 2, .int .i64 3] 3)).alloc (.cells #[.slice (some ⟨w.heap.size, 0, none⟩) 3 3, .slice none 0 0, .slice none 0 0] 24)) (w.heap.size + 1) (some ⟨w.heap.size, 0, none⟩) [1, 2, 3] :=
    (isInts_new w [1, 2, 3] small3 3 (0, 0)).keep fun p hp => Below.cell (B := w.heap.size + 1) ((Below.refl _ _).alloc (by simp) _) hp
  have hbel : Below w.heap.size w ((w.alloc (.cells #[.int .i64 1, .int .i64 2, .int .i64 3] 3)).alloc (.cells #[.slice (some ⟨w.heap.size, 0, none⟩) 3 3, .slice none 0 0, .slice none 0 0] 24)) := ((Below.refl _ _).alloc (Nat.le_refl _) _).alloc (by simp) _
  have hrow : ((w.alloc (.cells #[.int .i64 1, .int .i64 2, .int .i64 3] 3)).alloc (.cells #[.slice (some ⟨w.heap.size, 0, none⟩) 3 3, .slice none 0 0, .slice none 0 0] 24)).heap[w.heap.size + 1]? = some (.cells #[.slice (some ⟨w.heap.size, 0, none⟩) 3 3, .slice none 0 0, .slice none 0 0] 24 (0, 0)) := by
    have := heap_alloc_new (w.alloc (.cells #[.int .i64 1, .int .i64 2, .int .i64 3] 3)) (.cells #[.slice (some ⟨w.heap.size, 0, none⟩) 3 3, .slice none 0 0, .slice none 0 0] 24)
    rwa [World.size_alloc] at this
  have hsz : ((w.alloc (.cells #[.int .i64 1, .int .i64 2, .int .i64 3] 3)).alloc (.cells #[.slice (some ⟨w.heap.size, 0, none⟩) 3 3, .slice none 0 0, .slice none 0 0] 24)).heap.size = w.heap.size + 2 := by simp
  generalize ((w.alloc (.cells #[.int .i64 1, .int .i64 2, .int .i64 3] 3)).alloc (.cells #[.slice (some ⟨w.heap.size, 0, none⟩) 3 3, .slice none 0 0, .slice none 0 0] 24)) = w2 at *
  have HC : Hid (∀ w', Below w2.heap.size w2 w' → CIs w' (w.heap.size + 1) Qu.three (some ⟨w.heap.size, 0, none⟩) none none 3 0 0 ∧ Below w.heap.size w w' ∧ (w'.cell? ⟨w.heap.size + 1, 0, none⟩ = some (.slice (some ⟨w.heap.size, 0, none⟩) 3 3) ∧ w'.cell? ⟨w.heap.size + 1, 1, none⟩ = some (.slice none 0 0) ∧ w'.cell? ⟨w.heap.size + 1, 2, none⟩ = some (.slice none 0 0)) ∧ w.heap.size + 2 ≤ w'.heap.size) := hid fun w' hb => by
    refine ⟨⟨q0.below (hb.mono (by omega)), IsInts.nil, IsInts.nil, (fun h => by cases h), fun _ => rfl, fun _ => rfl, ⟨by simp [Qu.three], by unfold maxLen; omega⟩, ⟨by simp [Qu.three], by unfold maxLen; omega⟩, ⟨by simp [Qu.three], by unfold maxLen; omega⟩⟩, bthen hbel hb (by omega), ?_, by have := hb.size; omega⟩
    exact ⟨(hb.cell (p := ⟨w.heap.size + 1, 0, none⟩) (by show w.heap.size + 1 < _; omega)).trans (cell_of_row w2 (w.heap.size + 1) 0 _ _ _ hrow), (hb.cell (p := ⟨w.heap.size + 1, 1, none⟩) (by show w.heap.size + 1 < _; omega)).trans (cell_of_row w2 (w.heap.size + 1) 1 _ _ _ hrow), (hb.cell (p := ⟨w.heap.size + 1, 2, none⟩) (by show w.heap.size + 1 < _; omega)).trans (cell_of_row w2 (w.heap.size + 1) 2 _ _ _ hrow)⟩
  clear q0 hbel hrow hsz
  have h2 := HC.out w2 (Below.refl _ _)
  refine (check_N 3 0 0 (w.heap.size + 1) Qu.three rfl rfl rfl three_short _ _ _ _ _ _ w2 h2.1 (by have := h2.2.2.2; omega) 0 three_err).mono ?_
  rintro e w3 ⟨rfl, hb3⟩
  have H3 := hid hb3
  obtain ⟨c0, c1, c2⟩ := (HC.out w3 hb3).2.2.1
  clear h2 hb3
  go_wp2_with fail
  have hb4 : Below w2.heap.size w2 (w3.alloc (.cells #[.int .i64 1, .int .i64 3] 3)) := H3.out.alloc H3.out.size _
  have h4 := HC.out _ hb4
  refine (won_N 3 0 0 2 (w3.heap.size + 1) Qu.three rfl rfl rfl three_short _ _ _ _ _ _ _ _ [1, 3] rfl (by omega) _ (h4.1.more (by have := (HC.out w3 H3.out).2.2.2; omega)) (isInts_new w3 [1, 3] small13 3 (0, 0)) (by simp) true three_won).mono ?_
  rintro e w5 ⟨rfl, hb5⟩
  have H5 := hid (bthen hb4 hb5 hb4.size)
  obtain ⟨d0, d1, d2⟩ := (HC.out w5 H5.out).2.2.1
  clear h4 hb4 hb5 c0 c1 c2
  go_wp2_with fail
  have hb6 : Below w2.heap.size w2 (w5.alloc (.cells #[.int .i64 3] 3)) := H5.out.alloc H5.out.size _
  have h6 := HC.out _ hb6
  refine (won_N 3 0 0 1 (w5.heap.size + 1) Qu.three rfl rfl rfl three_short _ _ _ _ _ _ _ _ [3] rfl (by omega) _ (h6.1.more (by have := (HC.out w5 H5.out).2.2.2; omega)) (isInts_new w5 [3] small_3 3 (0, 0)) (by simp) false three_not).mono ?_
  rintro e w7 ⟨rfl, hb7⟩
  have H7 := hid (bthen hb6 hb7 hb6.size)
  obtain ⟨f0, f1, f2⟩ := (HC.out w7 H7.out).2.2.1
  clear h6 hb6 hb7 d0 d1 d2
  go_wp2_with fail
  have hb8 : Below w2.heap.size w2 ((w7.alloc (.cells #[.int .i64 1, .int .i64 2, .int .i64 3] 3)).alloc (.cells #[.int .i64 7, .int .i64 5, .int .i64 9] 3)) := (H7.out.alloc H7.out.size _).alloc (by have := H7.out.size; simp; omega) _
  have h8 := HC.out _ hb8
  have i1 : IsInts ((w7.alloc (.cells #[.int .i64 1, .int .i64 2, .int .i64 3] 3)).alloc (.cells #[.int .i64 7, .int .i64 5, .int .i64 9] 3)) (w7.heap.size + 2) (some ⟨w7.heap.size, 0, none⟩) [1, 2, 3] :=
    IsInts.more (B := w7.heap.size + 1) ((isInts_new w7 [1, 2, 3] small3 3 (0, 0)).keep fun p hp => Below.cell (B := w7.heap.size + 1) ((Below.refl _ _).alloc (by simp) _) hp) (by omega)
  have i2 := isInts_new (w7.alloc (.cells #[.int .i64 1, .int .i64 2, .int .i64 3] 3)) [7, 5, 9] small759 3 (0, 0)
  rw [World.size_alloc] at i2
  refine (agreed_N 3 0 0 3 3 (w7.heap.size + 2) Qu.three rfl rfl rfl three_short _ _ _ _ _ _ _ _ _ _ [1, 2, 3] [7, 5, 9] rfl rfl (by omega) (by omega) _ (h8.1.more (by have := (HC.out w7 H7.out).2.2.2; omega)) i1 i2 (by simp) 7 three_agr).mono ?_
  rintro e w9 ⟨rfl, hb9⟩
  have H9 := hid (HC.out w9 (bthen hb8 hb9 hb8.size)).2.1
  clear h8 hb8 hb9 i1 i2 f0 f1 f2
  go_wp2
  go_ret
  exact ⟨rfl, H9.out⟩
end Go.Proofs.Ytblhfbijffaacaa
