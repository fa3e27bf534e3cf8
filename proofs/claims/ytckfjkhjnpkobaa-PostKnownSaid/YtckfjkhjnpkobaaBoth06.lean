/- The walk through both: one call is done with both posts. -/
import Derived.Test.YtckfjkhjnpkobaaRefTurn
import Derived.Test.YtckfjkhjnpkobaaWorks06
import Derived.Deep.RegionHeld3
import Derived.StillTailTactics
namespace Go.Proofs.Ytckfjkhjnpkobaa
open Go.RowKit

/-- both posts, apart from one another and from the blocks of Z -/
def TwoS (w : World) (Z : Nat → Prop) (g h : Nat) (s1 s2 : Po.St) : Prop :=
  ∃ F G, PostAt w F g s1 ∧ RefAt w G h s2 ∧ (∀ k, F k → ¬ G k) ∧ (∀ k, F k → ¬ Z k) ∧ (∀ k, G k → ¬ Z k)
theorem TwoS.below {w w' : World} {Z : Nat → Prop} {g h : Nat} {s1 s2 : Po.St} (hT : TwoS w Z g h s1 s2) (hb : Below w.heap.size w w') : TwoS w' Z g h s1 s2 := by
  obtain ⟨F, G, hP, hR, h1, h2, h3⟩ := hT
  exact ⟨F, G, hP.below hb, hR.below hb, h1, h2, h3⟩
theorem TwoS.mono {w : World} {Z Z' : Nat → Prop} {g h : Nat} {s1 s2 : Po.St} (hT : TwoS w Z g h s1 s2) (hz : ∀ k, Z' k → Z k) : TwoS w Z' g h s1 s2 := by
  obtain ⟨F, G, hP, hR, h1, h2, h3⟩ := hT
  exact ⟨F, G, hP, hR, h1, fun k hk e => h2 k hk (hz k e), fun k hk e => h3 k hk (hz k e)⟩
/-- what is made behind them lies apart from them -/
theorem TwoS.shun {w : World} {Z : Nat → Prop} {g h : Nat} {s1 s2 : Po.St} (hT : TwoS w Z g h s1 s2) : TwoS w (fun k => Z k ∨ w.heap.size ≤ k) g h s1 s2 := by
  obtain ⟨F, G, hP, hR, h1, h2, h3⟩ := hT
  exact ⟨F, G, hP, hR, h1, fun k hk e => e.elim (h2 k hk) (fun e => by have := hP.lt k hk; omega), fun k hk e => e.elim (h3 k hk) (fun e => by have := hR.lt k hk; omega)⟩
theorem two_p {w : World} {Z : Nat → Prop} {g h : Nat} {s1 s1' s2 : Po.St} {f : FuncId} {args : Array Value} {r : Int} (hT : TwoS w Z g h s1 s2) (hZ : ∀ k, Z k → k < w.heap.size)
    (hc : ∀ F, PostAt w F g s1 → (∀ k, F k → ¬ Z k) → Calls Try.prog f args w fun e w' => e = .returned (.int .i64 r) ∧ ∃ F', PostAt w' F' g s1' ∧ Step F F' w w') :
    Calls Try.prog f args w fun e w' => e = .returned (.int .i64 r) ∧ TwoS w' Z g h s1' s2 ∧ Turned (fun k => ¬ Z k) w w' := by
  obtain ⟨F, G, hP, hR, h1, h2, h3⟩ := hT
  refine (hc F hP h2).mono ?_
  rintro e w' ⟨he, F', hP', hS⟩
  exact ⟨he, ⟨F', G, hP', hR.keep hS.turned (fun k hk e => h1 k e hk), fun k hk => (hS.new k hk).elim (h1 k) (fun e hg => by have := hR.lt k hg; omega), fun k hk => (hS.new k hk).elim (h2 k) (fun e hz => by have := hZ k hz; omega), h3⟩, hS.turned.mono h2⟩
theorem two_r {w : World} {Z : Nat → Prop} {g h : Nat} {s1 s2 s2' : Po.St} {f : FuncId} {args : Array Value} {r : Int} (hT : TwoS w Z g h s1 s2) (hZ : ∀ k, Z k → k < w.heap.size)
    (hc : ∀ F, RefAt w F h s2 → (∀ k, F k → ¬ Z k) → Calls Try.prog f args w fun e w' => e = .returned (.int .i64 r) ∧ ∃ F', RefAt w' F' h s2' ∧ Step F F' w w') :
    Calls Try.prog f args w fun e w' => e = .returned (.int .i64 r) ∧ TwoS w' Z g h s1 s2' ∧ Turned (fun k => ¬ Z k) w w' := by
  obtain ⟨F, G, hP, hR, h1, h2, h3⟩ := hT
  refine (hc G hR h3).mono ?_
  rintro e w' ⟨he, G', hR', hS⟩
  exact ⟨he, ⟨F, G', hP.keep hS.turned (fun k hk e => h1 k hk e), hR', fun k hk hg => (hS.new k hg).elim (h1 k hk) (fun e => by have := hP.lt k hk; omega), h2, fun k hk => (hS.new k hk).elim (h3 k) (fun e hz => by have := hZ k hz; omega)⟩, hS.turned.mono h3⟩

/-- what a call's walk has to show -/
def BothTo (w : World) (Z : Nat → Prop) (g h : Nat) (s : Po.St) (e : Ending) (w' : World) : Prop :=
  e = .returned (.bool true) ∧ TwoS w' Z g h s s ∧ Turned (fun k => ¬ Z k) w w'

set_option maxHeartbeats 1600000 in
set_option maxRecDepth 100000 in
theorem both_double (Z : Nat → Prop) (g h : Nat) (s : Po.St) (a b : Int) (v : Value) (w : World) (hT : TwoS w Z g h s s) (hZ : ∀ k, Z k → k < w.heap.size) :
    Calls Try.prog 11 #[.pointer (some ⟨g, 0, none⟩), .pointer (some ⟨h, 0, none⟩), .agg #[.int .i64 3, .int .i64 a, .int .i64 b, v]] w (BothTo w Z g h (Po.dblS s a)) := by
  obtain ⟨w1, hw1⟩ : ∃ w1, w1 = w.alloc (.cells #[.int .i64 3, .int .i64 a, .int .i64 b, v] 36) := ⟨_, rfl⟩
  have hb1 : Below w.heap.size w w1 := by rw [hw1]; exact (Below.refl _ w).alloc (Nat.le_refl _) _
  have hs1 : w1.heap.size = w.heap.size + 1 := by rw [hw1]; simp
  have x1 : w1.cell? ⟨w.heap.size, 1, none⟩ = some (.int .i64 a) := by rw [hw1]; simp
  have hT1 : TwoS w1 (fun k => Z k ∨ k = w.heap.size) g h s s := (hT.shun.below hb1).mono (fun k hk => hk.imp id (fun e => by omega))
  have hZ1 : ∀ k, (Z k ∨ k = w.heap.size) → k < w1.heap.size := fun k hk => by
    rcases hk with hk | hk
    · have := hZ k hk; omega
    · omega
  have HC := hid (two_p (hT1.below (Below.refl _ w1).drew) hZ1 (fun F hP _ => double_any F g s a w1.drew hP))
  have HR : Hid (∀ w2, TwoS w2 (fun k => Z k ∨ k = w.heap.size) g h (Po.dblS s a) s → w1.heap.size ≤ w2.heap.size → _) := hid (fun w2 hT2 hsz => two_r hT2 (fun k hk => Nat.lt_of_lt_of_le (hZ1 k hk) hsz) (fun F hP _ => refDouble_any F h s a w2 hP))
  have HK : Hid (∀ w', Turned (fun k => ¬ (Z k ∨ k = w.heap.size)) w1 w' → w'.cell? ⟨w.heap.size, 1, none⟩ = some (.int .i64 a)) := hid (fun w' ht => (ht.cell (p := ⟨w.heap.size, 1, none⟩) (by show w.heap.size < _; omega) (fun e => e (.inr rfl))).trans x1)
  have H1 := hid hb1
  have HW := hid hw1
  have hE : (Po.dblE s a == Po.dblE s a) = true := by simp
  clear hT hT1 hZ1 hb1 hs1 hw1 hZ x1
  go_enter Try.func11, Try.ntmps11
  go_wp2_with fail
  rw [← HW.out]
  go_region_held3 (fun w' => w'.cell? ⟨w.heap.size, 1, none⟩ = some (.int .i64 a))
    (first | exact HK.out _ (Turned.refl _ w1).drew | exact HK.out _ t2 | exact HK.out _ t3 | fail)
    (first
      | (go_at_call 32; refine (HR.out _ h2 t2.size).mono ?_; rintro e w3 ⟨rfl, h3, t3'⟩; have t3 := t2.trans t3'; clear t3')
      | (go_at_call 31; refine HC.out.mono ?_; rintro e w2 ⟨rfl, h2, t2'⟩; have t2 := (Turned.refl (fun k => ¬ (Z k ∨ k = w.heap.size)) w1).drew.trans t2'; clear t2'))
  have HF : Hid (TwoS w3 Z g h (Po.dblS s a) (Po.dblS s a) ∧ Turned (fun k => ¬ Z k) w w3) := hid ⟨h3.mono (fun _ h => .inl h), (Turned.ofBelow _ H1.out).trans (t3.mono (fun k hk e => hk (.inl e)))⟩
  clear h2 h3 t2 t3 HC HR HK H1
  go_wp2_with fail
  go_ret
  exact ⟨by simp, HF.out.1, HF.out.2⟩

set_option maxHeartbeats 1600000 in
set_option maxRecDepth 100000 in
theorem both_turn (Z : Nat → Prop) (g h : Nat) (s : Po.St) (a b : Int) (hib : InInt b) (v : Value) (w : World) (hT : TwoS w Z g h s s) (hZ : ∀ k, Z k → k < w.heap.size) :
    Calls Try.prog 11 #[.pointer (some ⟨g, 0, none⟩), .pointer (some ⟨h, 0, none⟩), .agg #[.int .i64 4, .int .i64 a, .int .i64 b, v]] w (BothTo w Z g h (Po.turnS s a b)) := by
  obtain ⟨w1, hw1⟩ : ∃ w1, w1 = w.alloc (.cells #[.int .i64 4, .int .i64 a, .int .i64 b, v] 36) := ⟨_, rfl⟩
  have hb1 : Below w.heap.size w w1 := by rw [hw1]; exact (Below.refl _ w).alloc (Nat.le_refl _) _
  have hs1 : w1.heap.size = w.heap.size + 1 := by rw [hw1]; simp
  have x1 : w1.cell? ⟨w.heap.size, 1, none⟩ = some (.int .i64 a) := by rw [hw1]; simp
  have x2 : w1.cell? ⟨w.heap.size, 2, none⟩ = some (.int .i64 b) := by rw [hw1]; simp
  have hT1 : TwoS w1 (fun k => Z k ∨ k = w.heap.size) g h s s := (hT.shun.below hb1).mono (fun k hk => hk.imp id (fun e => by omega))
  have hZ1 : ∀ k, (Z k ∨ k = w.heap.size) → k < w1.heap.size := fun k hk => by
    rcases hk with hk | hk
    · have := hZ k hk; omega
    · omega
  have HC := hid (two_p (hT1.below (Below.refl _ w1).drew) hZ1 (fun F hP _ => turn_any F g s a b hib w1.drew hP))
  have HR : Hid (∀ w2, TwoS w2 (fun k => Z k ∨ k = w.heap.size) g h (Po.turnS s a b) s → w1.heap.size ≤ w2.heap.size → _) := hid (fun w2 hT2 hsz => two_r hT2 (fun k hk => Nat.lt_of_lt_of_le (hZ1 k hk) hsz) (fun F hP _ => refTurn_any F h s a b hib w2 hP))
  have HK : Hid (∀ w', Turned (fun k => ¬ (Z k ∨ k = w.heap.size)) w1 w' → w'.cell? ⟨w.heap.size, 1, none⟩ = some (.int .i64 a) ∧ w'.cell? ⟨w.heap.size, 2, none⟩ = some (.int .i64 b)) := hid (fun w' ht => ⟨(ht.cell (p := ⟨w.heap.size, 1, none⟩) (by show w.heap.size < _; omega) (fun e => e (.inr rfl))).trans x1, (ht.cell (p := ⟨w.heap.size, 2, none⟩) (by show w.heap.size < _; omega) (fun e => e (.inr rfl))).trans x2⟩)
  have H1 := hid hb1
  have HW := hid hw1
  have hE : (Po.turnE s a b == Po.turnE s a b) = true := by simp
  clear hT hT1 hZ1 hb1 hs1 hw1 hZ x1 x2
  go_enter Try.func11, Try.ntmps11
  go_wp2_with fail
  rw [← HW.out]
  go_region_held3 (fun w' => w'.cell? ⟨w.heap.size, 1, none⟩ = some (.int .i64 a) ∧ w'.cell? ⟨w.heap.size, 2, none⟩ = some (.int .i64 b))
    (first | exact HK.out _ (Turned.refl _ w1).drew | exact HK.out _ t2 | exact HK.out _ t3 | fail)
    (first
      | (go_at_call 33; refine (HR.out _ h2 t2.size).mono ?_; rintro e w3 ⟨rfl, h3, t3'⟩; have t3 := t2.trans t3'; clear t3')
      | (go_at_call 24; refine HC.out.mono ?_; rintro e w2 ⟨rfl, h2, t2'⟩; have t2 := (Turned.refl (fun k => ¬ (Z k ∨ k = w.heap.size)) w1).drew.trans t2'; clear t2'))
  have HF : Hid (TwoS w3 Z g h (Po.turnS s a b) (Po.turnS s a b) ∧ Turned (fun k => ¬ Z k) w w3) := hid ⟨h3.mono (fun _ h => .inl h), (Turned.ofBelow _ H1.out).trans (t3.mono (fun k hk e => hk (.inl e)))⟩
  clear h2 h3 t2 t3 HC HR HK H1
  go_wp2_with fail
  go_ret
  exact ⟨by simp, HF.out.1, HF.out.2⟩

set_option maxHeartbeats 1600000 in
set_option maxRecDepth 100000 in
theorem both_cut (Z : Nat → Prop) (g h : Nat) (s : Po.St) (a b : Int) (v : Value) (w : World) (hT : TwoS w Z g h s s) (hZ : ∀ k, Z k → k < w.heap.size) :
    Calls Try.prog 11 #[.pointer (some ⟨g, 0, none⟩), .pointer (some ⟨h, 0, none⟩), .agg #[.int .i64 5, .int .i64 a, .int .i64 b, v]] w (BothTo w Z g h (Po.cutS s a b)) := by
  obtain ⟨w1, hw1⟩ : ∃ w1, w1 = w.alloc (.cells #[.int .i64 5, .int .i64 a, .int .i64 b, v] 36) := ⟨_, rfl⟩
  have hb1 : Below w.heap.size w w1 := by rw [hw1]; exact (Below.refl _ w).alloc (Nat.le_refl _) _
  have hs1 : w1.heap.size = w.heap.size + 1 := by rw [hw1]; simp
  have x1 : w1.cell? ⟨w.heap.size, 1, none⟩ = some (.int .i64 a) := by rw [hw1]; simp
  have x2 : w1.cell? ⟨w.heap.size, 2, none⟩ = some (.int .i64 b) := by rw [hw1]; simp
  have hT1 : TwoS w1 (fun k => Z k ∨ k = w.heap.size) g h s s := (hT.shun.below hb1).mono (fun k hk => hk.imp id (fun e => by omega))
  have hZ1 : ∀ k, (Z k ∨ k = w.heap.size) → k < w1.heap.size := fun k hk => by
    rcases hk with hk | hk
    · have := hZ k hk; omega
    · omega
  have HC := hid (two_p (hT1.below (Below.refl _ w1).drew) hZ1 (fun F hP _ => cut_any F g s a b w1.drew hP))
  have HR : Hid (∀ w2, TwoS w2 (fun k => Z k ∨ k = w.heap.size) g h (Po.cutS s a b) s → w1.heap.size ≤ w2.heap.size → _) := hid (fun w2 hT2 hsz => two_r hT2 (fun k hk => Nat.lt_of_lt_of_le (hZ1 k hk) hsz) (fun F hP _ => refCut_any F h s a b w2 hP))
  have HK : Hid (∀ w', Turned (fun k => ¬ (Z k ∨ k = w.heap.size)) w1 w' → w'.cell? ⟨w.heap.size, 1, none⟩ = some (.int .i64 a) ∧ w'.cell? ⟨w.heap.size, 2, none⟩ = some (.int .i64 b)) := hid (fun w' ht => ⟨(ht.cell (p := ⟨w.heap.size, 1, none⟩) (by show w.heap.size < _; omega) (fun e => e (.inr rfl))).trans x1, (ht.cell (p := ⟨w.heap.size, 2, none⟩) (by show w.heap.size < _; omega) (fun e => e (.inr rfl))).trans x2⟩)
  have H1 := hid hb1
  have HW := hid hw1
  have hE : (Po.cutE s a b == Po.cutE s a b) = true := by simp
  clear hT hT1 hZ1 hb1 hs1 hw1 hZ x1 x2
  go_enter Try.func11, Try.ntmps11
  go_wp2_with fail
  rw [← HW.out]
  go_region_held3 (fun w' => w'.cell? ⟨w.heap.size, 1, none⟩ = some (.int .i64 a) ∧ w'.cell? ⟨w.heap.size, 2, none⟩ = some (.int .i64 b))
    (first | exact HK.out _ (Turned.refl _ w1).drew | exact HK.out _ t2 | exact HK.out _ t3 | fail)
    (first
      | (go_at_call 34; refine (HR.out _ h2 t2.size).mono ?_; rintro e w3 ⟨rfl, h3, t3'⟩; have t3 := t2.trans t3'; clear t3')
      | (go_at_call 21; refine HC.out.mono ?_; rintro e w2 ⟨rfl, h2, t2'⟩; have t2 := (Turned.refl (fun k => ¬ (Z k ∨ k = w.heap.size)) w1).drew.trans t2'; clear t2'))
  have HF : Hid (TwoS w3 Z g h (Po.cutS s a b) (Po.cutS s a b) ∧ Turned (fun k => ¬ Z k) w w3) := hid ⟨h3.mono (fun _ h => .inl h), (Turned.ofBelow _ H1.out).trans (t3.mono (fun k hk e => hk (.inl e)))⟩
  clear h2 h3 t2 t3 HC HR HK H1
  go_wp2_with fail
  go_ret
  exact ⟨by simp, HF.out.1, HF.out.2⟩

set_option maxHeartbeats 1600000 in
set_option maxRecDepth 100000 in
theorem both_join (Z : Nat → Prop) (g h : Nat) (s : Po.St) (a b : Int) (v : Value) (w : World) (hT : TwoS w Z g h s s) (hZ : ∀ k, Z k → k < w.heap.size) :
    Calls Try.prog 11 #[.pointer (some ⟨g, 0, none⟩), .pointer (some ⟨h, 0, none⟩), .agg #[.int .i64 6, .int .i64 a, .int .i64 b, v]] w (BothTo w Z g h (Po.joinS s a b)) := by
  obtain ⟨w1, hw1⟩ : ∃ w1, w1 = w.alloc (.cells #[.int .i64 6, .int .i64 a, .int .i64 b, v] 36) := ⟨_, rfl⟩
  have hb1 : Below w.heap.size w w1 := by rw [hw1]; exact (Below.refl _ w).alloc (Nat.le_refl _) _
  have hs1 : w1.heap.size = w.heap.size + 1 := by rw [hw1]; simp
  have x1 : w1.cell? ⟨w.heap.size, 1, none⟩ = some (.int .i64 a) := by rw [hw1]; simp
  have x2 : w1.cell? ⟨w.heap.size, 2, none⟩ = some (.int .i64 b) := by rw [hw1]; simp
  have hT1 : TwoS w1 (fun k => Z k ∨ k = w.heap.size) g h s s := (hT.shun.below hb1).mono (fun k hk => hk.imp id (fun e => by omega))
  have hZ1 : ∀ k, (Z k ∨ k = w.heap.size) → k < w1.heap.size := fun k hk => by
    rcases hk with hk | hk
    · have := hZ k hk; omega
    · omega
  have HC := hid (two_p (hT1.below (Below.refl _ w1).drew) hZ1 (fun F hP _ => join_any F g s a b w1.drew hP))
  have HR : Hid (∀ w2, TwoS w2 (fun k => Z k ∨ k = w.heap.size) g h (Po.joinS s a b) s → w1.heap.size ≤ w2.heap.size → _) := hid (fun w2 hT2 hsz => two_r hT2 (fun k hk => Nat.lt_of_lt_of_le (hZ1 k hk) hsz) (fun F hP _ => refJoin_any F h s a b w2 hP))
  have HK : Hid (∀ w', Turned (fun k => ¬ (Z k ∨ k = w.heap.size)) w1 w' → w'.cell? ⟨w.heap.size, 1, none⟩ = some (.int .i64 a) ∧ w'.cell? ⟨w.heap.size, 2, none⟩ = some (.int .i64 b)) := hid (fun w' ht => ⟨(ht.cell (p := ⟨w.heap.size, 1, none⟩) (by show w.heap.size < _; omega) (fun e => e (.inr rfl))).trans x1, (ht.cell (p := ⟨w.heap.size, 2, none⟩) (by show w.heap.size < _; omega) (fun e => e (.inr rfl))).trans x2⟩)
  have H1 := hid hb1
  have HW := hid hw1
  have hE : (Po.joinE s a b == Po.joinE s a b) = true := by simp
  clear hT hT1 hZ1 hb1 hs1 hw1 hZ x1 x2
  go_enter Try.func11, Try.ntmps11
  go_wp2_with fail
  rw [← HW.out]
  go_region_held3 (fun w' => w'.cell? ⟨w.heap.size, 1, none⟩ = some (.int .i64 a) ∧ w'.cell? ⟨w.heap.size, 2, none⟩ = some (.int .i64 b))
    (first | exact HK.out _ (Turned.refl _ w1).drew | exact HK.out _ t2 | exact HK.out _ t3 | fail)
    (first
      | (go_at_call 35; refine (HR.out _ h2 t2.size).mono ?_; rintro e w3 ⟨rfl, h3, t3'⟩; have t3 := t2.trans t3'; clear t3')
      | (go_at_call 22; refine HC.out.mono ?_; rintro e w2 ⟨rfl, h2, t2'⟩; have t2 := (Turned.refl (fun k => ¬ (Z k ∨ k = w.heap.size)) w1).drew.trans t2'; clear t2'))
  have HF : Hid (TwoS w3 Z g h (Po.joinS s a b) (Po.joinS s a b) ∧ Turned (fun k => ¬ Z k) w w3) := hid ⟨h3.mono (fun _ h => .inl h), (Turned.ofBelow _ H1.out).trans (t3.mono (fun k hk e => hk (.inl e)))⟩
  clear h2 h3 t2 t3 HC HR HK H1
  go_wp2_with fail
  go_ret
  exact ⟨by simp, HF.out.1, HF.out.2⟩
end Go.Proofs.Ytckfjkhjnpkobaa
