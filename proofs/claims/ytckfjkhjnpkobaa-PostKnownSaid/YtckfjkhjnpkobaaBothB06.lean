/- The walk through both: losing, taking, sending, no call. -/
import Derived.Test.YtckfjkhjnpkobaaBoth06
import Derived.Test.YtckfjkhjnpkobaaSpoilB
namespace Go.Proofs.Ytckfjkhjnpkobaa
open Go.RowKit

set_option maxHeartbeats 800000 in
set_option maxRecDepth 100000 in
theorem both_none (Z : Nat → Prop) (g h : Nat) (s : Po.St) (k a b : Int) (k0 : k ≠ 0) (k1 : k ≠ 1) (k2 : k ≠ 2) (k3 : k ≠ 3) (k4 : k ≠ 4) (k5 : k ≠ 5) (k6 : k ≠ 6) (v : Value) (w : World) (hT : TwoS w Z g h s s) :
    Calls Try.prog 11 #[.pointer (some ⟨g, 0, none⟩), .pointer (some ⟨h, 0, none⟩), .agg #[.int .i64 k, .int .i64 a, .int .i64 b, v]] w (BothTo w Z g h s) := by
  have hb : Below w.heap.size w (w.alloc (.cells #[.int .i64 k, .int .i64 a, .int .i64 b, v] 36)) := (Below.refl _ w).alloc (Nat.le_refl _) _
  have H1 := hid (And.intro (hT.below hb) (Turned.ofBelow (fun k => ¬ Z k) hb))
  clear hT hb
  go_enter Try.func11, Try.ntmps11
  go_wp2_with fail
  go_ret
  exact ⟨rfl, H1.out.1, H1.out.2⟩

/-- what the document's Take tells -/
theorem refTake_any (F : Nat → Prop) (g : Nat) (s : Po.St) (i : Int) (w : World) (h : RefAt w F g s) :
    Calls Try.prog 29 #[.pointer (some ⟨g, 0, none⟩), .int .i64 i] w fun e w' => ∃ A c, e = .returned (.tuple #[.agg #[.int .i64 (Po.takeP s i).a, .int .i64 (Po.takeP s i).b, .slice A (Po.takeP s i).d.length c], .int .i64 (Po.takeE s i)]) ∧
      (∃ F', RefAt w' F' g (Po.takeS s i) ∧ Step F F' w w') ∧ OwnsB 5 w' 0 A c (Po.takeP s i).d := by
  by_cases ht : Po.has s i = true
  · obtain ⟨n, rfl⟩ := Int.eq_ofNat_of_zero_le (Po.has_iff.1 ht).1
    have e1 : Po.takeS s n = Po.del s n := by unfold Po.takeS; rw [ht, Int.toNat_natCast]; rfl
    have e2 : Po.takeP s n = (Po.pkt s n).1 := by unfold Po.takeP; rw [ht]; rfl
    have e3 : Po.takeE s n = 0 := by unfold Po.takeE; rw [ht]; rfl
    rw [e1, e2, e3]
    refine (refTake_yes F g s n w h ht).mono ?_
    rintro e w' ⟨A, c, he, hF, hO, _⟩
    exact ⟨A, c, he, hF, hO⟩
  · have ht : Po.has s i = false := by simpa using ht
    have e1 : Po.takeS s i = s := by unfold Po.takeS; rw [ht]; rfl
    have e2 : Po.takeP s i = ⟨0, 0, []⟩ := by unfold Po.takeP; rw [ht]; rfl
    have e3 : Po.takeE s i = 6 := by unfold Po.takeE; rw [ht]; rfl
    rw [e1, e2, e3]
    refine (refTake_no F g s i w h ht).mono ?_
    rintro e w' ⟨he, hb⟩
    exact ⟨none, 0, he, ⟨F, h.below hb, Step.ofBelow F hb⟩, OwnsB.nil _ _ _⟩
/-- the program's, with what becomes of its blocks -/
theorem take_any (F : Nat → Prop) (g : Nat) (s : Po.St) (i : Int) (w : World) (h : PostAt w F g s) :
    Calls Try.prog 17 #[.pointer (some ⟨g, 0, none⟩), .int .i64 i] w fun e w' => ∃ A c, e = .returned (.tuple #[.agg #[.int .i64 (Po.takeP s i).a, .int .i64 (Po.takeP s i).b, .slice A (Po.takeP s i).d.length c], .int .i64 (Po.takeE s i)]) ∧
      ∃ F', PostAt w' F' g (Po.takeS s i) ∧ Turned F w w' ∧ (∀ k, F' k → F k) ∧ OwnsB 5 w' 0 A c (Po.takeP s i).d ∧ ∀ k, blk A = some k → F k ∧ ¬ F' k := by
  by_cases ht : Po.has s i = true
  · obtain ⟨n, rfl⟩ := Int.eq_ofNat_of_zero_le (Po.has_iff.1 ht).1
    have e1 : Po.takeS s n = Po.del s n := by unfold Po.takeS; rw [ht, Int.toNat_natCast]; rfl
    have e2 : Po.takeP s n = (Po.pkt s n).1 := by unfold Po.takeP; rw [ht]; rfl
    have e3 : Po.takeE s n = 0 := by unfold Po.takeE; rw [ht]; rfl
    rw [e1, e2, e3]
    exact take_yes F g s n w h ht
  · have ht : Po.has s i = false := by simpa using ht
    have e1 : Po.takeS s i = s := by unfold Po.takeS; rw [ht]; rfl
    have e2 : Po.takeP s i = ⟨0, 0, []⟩ := by unfold Po.takeP; rw [ht]; rfl
    have e3 : Po.takeE s i = 6 := by unfold Po.takeE; rw [ht]; rfl
    rw [e1, e2, e3]
    refine (take_no F g s i w h ht).mono ?_
    rintro e w' ⟨he, hb⟩
    exact ⟨none, 0, he, F, h.below hb, Turned.ofBelow F hb, fun _ h => h, OwnsB.nil _ _ _, fun k e => by cases e⟩

set_option maxHeartbeats 1600000 in
set_option maxRecDepth 100000 in
theorem both_lose (Z : Nat → Prop) (g h : Nat) (s : Po.St) (a b : Int) (v : Value) (w : World) (hT : TwoS w Z g h s s) (hZ : ∀ k, Z k → k < w.heap.size) :
    Calls Try.prog 11 #[.pointer (some ⟨g, 0, none⟩), .pointer (some ⟨h, 0, none⟩), .agg #[.int .i64 2, .int .i64 a, .int .i64 b, v]] w (BothTo w Z g h (Po.takeS s a)) := by
  obtain ⟨w1, hw1⟩ : ∃ w1, w1 = w.alloc (.cells #[.int .i64 2, .int .i64 a, .int .i64 b, v] 36) := ⟨_, rfl⟩
  have hb1 : Below w.heap.size w w1 := by rw [hw1]; exact (Below.refl _ w).alloc (Nat.le_refl _) _
  have hs1 : w1.heap.size = w.heap.size + 1 := by rw [hw1]; simp
  have x1 : w1.cell? ⟨w.heap.size, 1, none⟩ = some (.int .i64 a) := by rw [hw1]; simp
  obtain ⟨F, G, hP, hR, h1, h2, h3⟩ := hT
  have HC := hid (refTake_any G h s a w1 (hR.below hb1))
  have HP := hid (And.intro (hP.below hb1) (And.intro h1 (And.intro h2 (And.intro h3 (And.intro hP.lt (And.intro hR.lt (And.intro hb1 hs1)))))))
  have HX := hid x1
  have HW := hid hw1
  have HZ := hid hZ
  have hE : (Po.takeE s a == Po.takeE s a) = true := by simp
  clear hP hR h1 h2 h3 hb1 hs1 hw1 hZ
  rw [HW.out] at x1
  go_enter Try.func11, Try.ntmps11
  go_wp2_with fail
  rw [← HW.out]
  refine HC.out.mono ?_
  rintro e w2 ⟨A2, c2, rfl, ⟨G', hR2, hS2⟩, hO2⟩
  obtain ⟨hP1, h1, h2, h3, hPl, hRl, hb1, hs1⟩ := HP.out
  obtain ⟨w3, hw3⟩ : ∃ w3, w3 = w2.alloc (.cells #[.int .i64 (Po.takeP s a).a, .int .i64 (Po.takeP s a).b, .slice A2 (Po.takeP s a).d.length c2] 42) := ⟨_, rfl⟩
  have hb3 : Below w2.heap.size w2 w3 := by rw [hw3]; exact (Below.refl _ w2).alloc (Nat.le_refl _) _
  have hP2 := (hP1.keep hS2.turned (fun k hk e => h1 k hk e)).below hb3
  have t3 : Turned G w1 w3 := hS2.turned.then_ (S' := G) (Turned.ofBelow G hb3) (fun _ _ h => h)
  have y1 : w3.cell? ⟨w.heap.size, 1, none⟩ = some (.int .i64 a) := (t3.cell (p := ⟨w.heap.size, 1, none⟩) (by show w.heap.size < _; omega) (fun e => by have := hRl w.heap.size e; omega)).trans HX.out
  have HL := hid (lose_any F g s a w3 hP2)
  have H3 := hid (And.intro (hR2.below hb3) (And.intro hS2 (And.intro hb3 t3)))
  have HW3 := hid hw3
  rw [hw3] at HL y1
  clear hR2 hS2 hb3 t3 hw3 hO2 hP2 hP1 h1 h2 h3 hPl hRl hb1 hs1 HC x1
  go_wp2_with fail
  refine HL.out.mono ?_
  rintro e w4 ⟨rfl, F', hP4, hS4⟩
  rw [← HW3.out] at hS4
  obtain ⟨hP1, h1, h2, h3, hPl, hRl, hb1, hs1⟩ := HP.out
  obtain ⟨hR3, hS2, hb3, t3⟩ := H3.out
  have hG' : ∀ k, G' k → ¬ F k := fun k hk e => (hS2.new k hk).elim (h1 k e) (fun e2 => by have := hPl k e; omega)
  have HF : Hid (TwoS w4 Z g h (Po.takeS s a) (Po.takeS s a) ∧ Turned (fun k => ¬ Z k) w w4) := hid ⟨⟨F', G', hP4, hR3.keep hS4.turned (fun k hk e => hG' k hk e), fun k hk e => (hS4.new k hk).elim (hG' k e) (fun e2 => by have := hR3.lt k e; omega),
    fun k hk => (hS4.new k hk).elim (h2 k) (fun e hz => by have := HZ.out k hz; have := t3.size; omega), fun k hk => (hS2.new k hk).elim (h3 k) (fun e hz => by have := HZ.out k hz; omega)⟩,
    ((Turned.ofBelow _ hb1).trans (t3.mono h3)).trans (hS4.turned.mono h2)⟩
  clear hP1 h1 h2 h3 hPl hRl hb1 hs1 hR3 hS2 hb3 t3 hG' hP4 hS4 y1 HL H3 HP
  go_wp2_with fail
  go_ret
  exact ⟨by simp, HF.out.1, HF.out.2⟩

set_option maxHeartbeats 1600000 in
set_option maxRecDepth 100000 in
theorem both_take (Z : Nat → Prop) (g h : Nat) (s : Po.St) (a b : Int) (v : Value) (w : World) (hT : TwoS w Z g h s s) (hZ : ∀ k, Z k → k < w.heap.size) (hd : (Po.takeP s a).d.length ≤ 1024) :
    Calls Try.prog 11 #[.pointer (some ⟨g, 0, none⟩), .pointer (some ⟨h, 0, none⟩), .agg #[.int .i64 1, .int .i64 a, .int .i64 b, v]] w (BothTo w Z g h (Po.takeS s a)) := by
  obtain ⟨w1, hw1⟩ : ∃ w1, w1 = w.alloc (.cells #[.int .i64 1, .int .i64 a, .int .i64 b, v] 36) := ⟨_, rfl⟩
  have hb1 : Below w.heap.size w w1 := by rw [hw1]; exact (Below.refl _ w).alloc (Nat.le_refl _) _
  have hs1 : w1.heap.size = w.heap.size + 1 := by rw [hw1]; simp
  have x1 : w1.cell? ⟨w.heap.size, 1, none⟩ = some (.int .i64 a) := by rw [hw1]; simp
  obtain ⟨F, G, hP, hR, h1, h2, h3⟩ := hT
  have HC := hid (take_any F g s a w1 (hP.below hb1))
  have HP := hid (And.intro (hR.below hb1) (And.intro h1 (And.intro h2 (And.intro h3 (And.intro hP.lt (And.intro hR.lt (And.intro hb1 hs1)))))))
  have HX := hid x1
  have HW := hid hw1
  have HZ := hid hZ
  have HD := hid hd
  have hE : (Po.takeE s a == Po.takeE s a) = true := by simp
  have hE2 : (Po.takeE s a != Po.takeE s a) = false := by simp
  clear hP hR h1 h2 h3 hb1 hs1 hw1 hZ hd
  rw [HW.out] at x1
  generalize hr : Po.takeE s a = r at HC hE hE2
  generalize hp : Po.takeP s a = p at HC HD
  have HRP := hid (And.intro hr hp)
  clear hr hp
  go_enter Try.func11, Try.ntmps11
  go_wp2_with fail
  rw [← HW.out]
  refine HC.out.mono ?_
  rintro e w2 ⟨A2, c2, rfl, F', hP2, hT2, hF2, hO2, hB2⟩
  obtain ⟨hR1, h1, h2, h3, hPl, hRl, hb1, hs1⟩ := HP.out
  obtain ⟨w3, hw3⟩ : ∃ w3, w3 = w2.alloc (.cells #[.int .i64 p.a, .int .i64 p.b, .slice A2 p.d.length c2] 42) := ⟨_, rfl⟩
  have hb3 : Below w2.heap.size w2 w3 := by rw [hw3]; exact (Below.refl _ w2).alloc (Nat.le_refl _) _
  have hs3 : w3.heap.size = w2.heap.size + 1 := by rw [hw3]; simp
  have hR3 := (hR1.keep hT2 (fun k hk e => h1 k e hk)).below hb3
  have t3 : Turned F w1 w3 := hT2.then_ (S' := F) (Turned.ofBelow F hb3) (fun _ _ h => h)
  have y1 : w3.cell? ⟨w.heap.size, 1, none⟩ = some (.int .i64 a) := (t3.cell (p := ⟨w.heap.size, 1, none⟩) (by show w.heap.size < _; omega) (fun e => by have := hPl w.heap.size e; omega)).trans HX.out
  have a0 : w3.cell? ⟨w2.heap.size, 0, none⟩ = some (.int .i64 p.a) := by rw [hw3]; simp
  have a1 : w3.cell? ⟨w2.heap.size, 1, none⟩ = some (.int .i64 p.b) := by rw [hw3]; simp
  have a2 : w3.cell? ⟨w2.heap.size, 2, none⟩ = some (.slice A2 p.d.length c2) := by rw [hw3]; simp
  have HRT := hid (refTake_any G h s a w3 hR3)
  rw [HRP.out.1, HRP.out.2] at HRT
  have H3 := hid (And.intro (hP2.below hb3) (And.intro t3 (And.intro hF2 (And.intro (hO2.below hb3) (And.intro hB2 (And.intro hs3 hT2.size))))))
  have HA := hid (And.intro a0 (And.intro a1 a2))
  have HW3 := hid hw3
  rw [hw3] at HRT y1
  clear hP2 hT2 hF2 hO2 hB2 hb3 hR3 t3 hw3 hs3 hR1 h1 h2 h3 hPl hRl hb1 hs1 HC x1 a0 a1 a2
  go_wp2_with fail
  refine HRT.out.mono ?_
  rintro e w4 ⟨A4, c4, rfl, ⟨G', hR4, hS4⟩, hO4⟩
  rw [← HW3.out] at hS4
  obtain ⟨hR1, h1, h2, h3, hPl, hRl, hb1, hs1⟩ := HP.out
  obtain ⟨hP3, t3, hF2, hO3, hB2, hs3, hsz2⟩ := H3.out
  obtain ⟨w5, hw5⟩ : ∃ w5, w5 = w4.alloc (.cells #[.int .i64 p.a, .int .i64 p.b, .slice A4 p.d.length c4] 42) := ⟨_, rfl⟩
  have hb5 : Below w4.heap.size w4 w5 := by rw [hw5]; exact (Below.refl _ w4).alloc (Nat.le_refl _) _
  have hnG : ¬ G w2.heap.size := fun e => by have := hRl _ e; omega
  have hl2 : w2.heap.size < w3.heap.size := by omega
  have t5 : Turned G w3 w5 := hS4.turned.then_ (S' := G) (Turned.ofBelow G hb5) (fun _ _ h => h)
  have b0 := (t5.cell (p := ⟨w2.heap.size, 0, none⟩) hl2 hnG).trans HA.out.1
  have b1 := (t5.cell (p := ⟨w2.heap.size, 1, none⟩) hl2 hnG).trans HA.out.2.1
  have b2 := (t5.cell (p := ⟨w2.heap.size, 2, none⟩) hl2 hnG).trans HA.out.2.2
  have hO5 : OwnsB 5 w5 0 A2 c2 p.d := hO3.turned t5 (fun k hk e => h1 k (hB2 k hk).1 e)
  have HSm := hid (pk_same p p A2 A4 c2 c4 (Nat.le_trans HD.out (by unfold maxLen; decide)) (Nat.le_trans HD.out (by unfold maxLen; decide)) w5 hO5.reads (hO4.below hb5).reads)
  rw [decide_eq_true rfl] at HSm
  have hG' : ∀ k, G' k → ¬ F k := fun k hk e => (hS4.new k hk).elim (h1 k e) (fun e2 => by have := hPl k e; omega)
  have H5 : Hid (TwoS w5 Z g h (Po.takeS s a) (Po.takeS s a) ∧ Turned (fun k => ¬ Z k) w w5 ∧ OwnsB 5 w5 0 A2 c2 p.d ∧ ∃ F1 G1, PostAt w5 F1 g (Po.takeS s a) ∧ RefAt w5 G1 h (Po.takeS s a) ∧ (∀ k, F1 k → ¬ G1 k) ∧ (∀ k, F1 k → ¬ Z k) ∧ (∀ k, G1 k → ¬ Z k) ∧ ∀ k, blk A2 = some k → ¬ F1 k ∧ ¬ G1 k ∧ ¬ Z k) := hid (by
    have hP5 := hP3.keep t5 (fun k hk e => h1 k (hF2 k hk) e)
    have hR5 := hR4.below hb5
    have k1 : ∀ k, F' k → ¬ G' k := fun k hk e => hG' k e (hF2 k hk)
    have k2 : ∀ k, F' k → ¬ Z k := fun k hk => h2 k (hF2 k hk)
    have k3 : ∀ k, G' k → ¬ Z k := fun k hk => (hS4.new k hk).elim (h3 k) (fun e hz => by have := HZ.out k hz; omega)
    exact ⟨⟨F', G', hP5, hR5, k1, k2, k3⟩, ((Turned.ofBelow _ hb1).trans (t3.mono h2)).trans (t5.mono h3), hO5, F', G', hP5, hR5, k1, k2, k3, fun k hk => ⟨(hB2 k hk).2, fun e => hG' k e (hB2 k hk).1, h2 k (hB2 k hk).1⟩⟩)
  have HB := hid (And.intro b0 (And.intro b1 b2))
  have hl5 : w2.heap.size < w5.heap.size := Nat.lt_of_lt_of_le hl2 t5.size
  have HL5 := hid hl5
  have HW5 := hid hw5
  rw [hw5] at HSm b0 b1 b2 hl5
  clear hR4 hS4 hO4 hb5 hnG hl2 t5 hO5 hG' hw5 hR1 h1 h2 h3 hPl hRl hb1 hs1 hP3 t3 hF2 hO3 hB2 hs3 hsz2 HRT HA H3 HP y1
  go_wp2_with fail
  refine HSm.out.mono ?_
  rintro e w6 ⟨rfl, hb6⟩
  rw [← HW5.out] at hb6
  have c2' := (hb6.cell (p := ⟨w2.heap.size, 2, none⟩) HL5.out).trans HB.out.2.2
  have HSp := hid (spoil_N 0 A2 c2 p.d p.d.length rfl (Nat.le_trans HD.out (by unfold maxLen; decide)) w6 (H5.out.2.2.1.below hb6))
  have H6 := hid hb6
  clear hb6 b0 b1 b2 hl5 HSm
  go_wp2_with fail
  refine HSp.out.mono ?_
  rintro e w7 ⟨rfl, hg7⟩
  have T7 : Turned (fun k => blk A2 = some k) w6 w7 := Turned.ofGrown hg7 (fun k hk => hk)
  obtain ⟨_, hTu, _, F1, G1, hP5, hR5, k1, k2, k3, k4⟩ := H5.out
  have HF : Hid (TwoS w7 Z g h (Po.takeS s a) (Po.takeS s a) ∧ Turned (fun k => ¬ Z k) w w7) := hid ⟨⟨F1, G1, (hP5.below H6.out).keep T7 (fun k hk e => (k4 k e).1 hk), (hR5.below H6.out).keep T7 (fun k hk e => (k4 k e).2.1 hk), k1, k2, k3⟩,
    (hTu.trans (Turned.ofBelow _ H6.out)).trans (T7.mono (fun k hk => (k4 k hk).2.2))⟩
  clear T7 hg7 hTu hP5 hR5 k1 k2 k3 k4 c2'
  go_wp2_with fail
  go_ret
  exact ⟨rfl, HF.out.1, HF.out.2⟩
end Go.Proofs.Ytckfjkhjnpkobaa
