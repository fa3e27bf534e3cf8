/- Whatever members are, a node comes, goes, and what follows is told, as the document says, in new memory; what is handed in stays. Conditions: none. -/
import Derived.Test.YtfkjahpcpmcefaaConfStepsPartAC
import Derived.Deep.CutRange
import Derived.Test.YtfkjahpcpmcefaaConfStepsPartAA
import Derived.Deep.Slices
import Derived.Deep.Fields
import Derived.ChangeSame
import Derived.WalkLawsBesides
import Derived.ProofKit
import Derived.OpenShut
import Derived.Test.YtfkjahpcpmcefaaRows
import Derived.WalkKit
import Derived.ShutString
import Derived.ChangeOld
import Derived.Below
import Derived.SizedLaws
namespace Go.Proofs.Ytfkjahpcpmcefaa.Co
open Go Go.RowKit
open Qu (Cf)
set_option maxRecDepth 100000
set_option linter.unusedVariables false
theorem bigC_any (A0 A1 A2 : Option Addr) (n0 n1 n2 k0 k1 k2 n : Nat) (hn : n ≤ 1000000) (w : World) :
    Calls Try.prog 6 #[.agg #[.slice A0 n0 k0, .slice A1 n1 k1, .slice A2 n2 k2], .int .i64 (n : Int)] w fun e w' => e = .returned (.bool (decide (n < n0) || decide (n < n1) || decide (n < n2))) ∧ Below w.heap.size w w' := by
  have hb : Below w.heap.size w (w.alloc (.cells #[.slice A0 n0 k0, .slice A1 n1 k1, .slice A2 n2 k2] 24)) := (Below.refl _ w).alloc (Nat.le_refl _) _
  have HB := hid hb
  clear hb
  by_cases h0 : n < n0
  · have h0' : (n : Int) < (n0 : Int) := by omega
    have HE : Hid ((decide (n < n0) || decide (n < n1) || decide (n < n2)) = true) := hid (by simp [h0])
    rw [HE.out]
    clear h0
    go_enter Try.func6, Try.ntmps6
    go_wp2_with fail
    go_ret
    exact ⟨rfl, HB.out⟩
  · have h0' : ¬ (n : Int) < (n0 : Int) := by omega
    by_cases h1 : n < n1
    · have h1' : (n : Int) < (n1 : Int) := by omega
      have HE : Hid ((decide (n < n0) || decide (n < n1) || decide (n < n2)) = true) := hid (by simp [h1])
      rw [HE.out]
      clear h0 h1
      go_enter Try.func6, Try.ntmps6
      go_wp2_with fail
      go_ret
      exact ⟨rfl, HB.out⟩
    · have h1' : ¬ (n : Int) < (n1 : Int) := by omega
      by_cases h2 : n < n2
      · have h2' : (n : Int) < (n2 : Int) := by omega
        have HE : Hid ((decide (n < n0) || decide (n < n1) || decide (n < n2)) = true) := hid (by simp [h2])
        rw [HE.out]
        clear h0 h1 h2
        go_enter Try.func6, Try.ntmps6
        go_wp2_with fail
        go_ret
        exact ⟨rfl, HB.out⟩
      · have h2' : ¬ (n : Int) < (n2 : Int) := by omega
        have HE : Hid ((decide (n < n0) || decide (n < n1) || decide (n < n2)) = false) := hid (by simp [h0, h1, h2])
        rw [HE.out]
        clear h0 h1 h2
        go_enter Try.func6, Try.ntmps6
        go_wp2_with fail
        go_ret
        exact ⟨rfl, HB.out⟩
theorem lent_M (B : Nat) (A : Option Addr) (c n : Nat) (l : List Int) (hn : n = l.length) (hl : n ≤ 100000) (w : World) (h : IsInts w B A l) (hB : B ≤ w.heap.size) :
    Calls Try.prog 9 #[.slice A n c] w fun e w' => ∃ g c', e = .returned (.slice (some ⟨g, 0, none⟩) (n + 5) c') ∧ OwnsI 3 w' w.heap.size (some ⟨g, 0, none⟩) c' (I.lent l) ∧ Below w.heap.size w w' := by
  subst hn; exact I.lent_any B A c l (by omega) w h hB
theorem kept_M (B B' g : Nat) (A' : Option Addr) (c c' n : Nat) (l : List Int) (hn : n = l.length) (hl : n ≤ 100000) (hcap : n + 5 ≤ c) (w : World) (h : IsInts w B (some ⟨g, 0, none⟩) (I.lent l)) (h' : IsInts w B' A' l) :
    Calls Try.prog 18 #[.slice (some ⟨g, 0, none⟩) (n + 5) c, .slice A' n c'] w fun e w' => e = .returned (.bool true) ∧ Below w.heap.size w w' := by
  subst hn; exact (I.kept_any B B' g A' c c' l (by omega) hcap w h h').mono fun e w' ⟨he, j, hj⟩ => ⟨he, by rw [hj]; exact below_drewN (Below.refl _ _) j⟩
theorem lent_head {w : World} {B : Nat} {A : Option Addr} {l : List Int} (h : IsInts w B A (I.lent l)) : IsInts w B A l := by
  have := h.take l.length
  rwa [I.take_lent] at this
def nxP (lo : Nat) (x : Cf) (b : Bool) : Gp := ⟨fun w v => ∃ (m : M3) (B N : Nat), v = .tuple #[.agg #[.slice m.a0 m.n0 m.k0, .slice m.a1 m.n1 m.k1, .slice m.a2 m.n2 m.k2], .bool b] ∧ lo ≤ B ∧ N ≤ w.heap.size ∧ OwnC w B N x m, fun w w' v ⟨m, B, N, h0, h1, h2, h3⟩ hb => ⟨m, B, N, h0, h1, Nat.le_trans h2 hb.size, h3.below hb⟩⟩
def mP (lo : Nat) (x : Cf) : Gp := ⟨fun w v => ∃ (m : M3) (B N : Nat), v = .agg #[.slice m.a0 m.n0 m.k0, .slice m.a1 m.n1 m.k1, .slice m.a2 m.n2 m.k2] ∧ lo ≤ B ∧ N ≤ w.heap.size ∧ OwnC w B N x m, fun w w' v ⟨m, B, N, h0, h1, h2, h3⟩ hb => ⟨m, B, N, h0, h1, Nat.le_trans h2 hb.size, h3.below hb⟩⟩
def zero3 : Array Value := #[.slice none 0 0, .slice none 0 0, .slice none 0 0]
def H7 (mx : M3) (gy n cy cap : Nat) (A : Option Addr) (lo : Nat) (x : Cf) (b : Bool) : Nat → Gp
  | 0 => Gp.is (.agg #[.slice mx.a0 mx.n0 mx.k0, .slice mx.a1 mx.n1 mx.k1, .slice mx.a2 mx.n2 mx.k2])
  | 1 => Gp.is (.slice (some ⟨gy, 0, none⟩) (n + 5) cy)
  | 2 => Gp.is (.slice A n cap)
  | 3 => Gp.is (.int .i64 n)
  | 4 => Gp.is (.slice (some ⟨gy, 0, none⟩) n cy)
  | 5 => nxP lo x b
  | 6 => nxP lo x b
  | 7 => mP lo x
  | 8 => Gp.is (.bool b)
  | 9 => Gp.box lo zero3 24
  | _ => Gp.any
def H72 (b : Bool) : Nat → Value → Prop
  | 5 => fun v => ∃ x, v = .tuple #[x, .bool b]
  | 6 => fun v => ∃ x, v = .tuple #[x, .bool b]
  | 8 => fun v => v = .bool b
  | _ => fun _ => True
def K7 (w0 : World) (x : Cf) (v : Value) (w : World) : Prop := ∃ (q : Nat) (m : M3) (B N : Nat), v = .pointer (some ⟨q, 0, none⟩) ∧ w0.heap.size ≤ q ∧ Bx w q 24 m ∧ w0.heap.size ≤ B ∧ N ≤ w.heap.size ∧ OwnC w B N x m ∧ Below w0.heap.size w0 w
theorem H7_le {mx : M3} {gy n cy cap : Nat} {A : Option Addr} {lo : Nat} {x : Cf} {b : Bool} : ∀ j w v, (H7 mx gy n cy cap A lo x b j).p w v → H72 b j v
  | 5, w, v, ⟨m, _, _, h, _⟩ => ⟨_, h⟩
  | 6, w, v, ⟨m, _, _, h, _⟩ => ⟨_, h⟩
  | 8, w, v, h => h
  | 0, _, _, _ | 1, _, _, _ | 2, _, _, _ | 3, _, _, _ | 4, _, _, _ | 7, _, _, _ | 9, _, _, _ | _ + 10, _, _, _ => trivial
def G7 (mx : M3) (gy n cy cap : Nat) (A : Option Addr) (x : Cf) (b : Bool) (w0 : World) : Gs := ⟨H7 mx gy n cy cap A w0.heap.size x b, H72 b, K7 w0 x, H7_le⟩
theorem run_boxC {ρ : Operand → Value} {ty : TypeId} {w : World} : (execOp ρ (sop (.alloc 24) ty)).run Try.prog w = .ok (.value (.pointer (some ⟨w.heap.size, 0, none⟩))) (w.alloc (.cells zero3 24)) := by
  unfold execOp sop zero3; simp only []; go_simp
theorem run_lenI {ρ : Operand → Value} {ty : TypeId} {w : World} {x : Operand} {A : Option Addr} {n c : Nat} (h : ρ x = .slice A n c) : (execOp ρ (sop (.call { callee := .builtin .len, args := #[x], argTypes := #[22] }) ty)).run Try.prog w = .ok (.value (.int .i64 n)) w := by
  unfold execOp sop; simp only []; go_simp
theorem run_upto {ρ : Operand → Value} {ty : TypeId} {w : World} {x y : Operand} {A : Option Addr} {m n c : Nat} (h : ρ x = .slice A m c) (h2 : ρ y = .int .i64 n) (hn : n ≤ c) (hc : c ≤ 9223372036854775807) : (execOp ρ (sop (.slice 22 x none (some y) none) ty)).run Try.prog w = .ok (.value (.slice A n c)) w := by
  have h3 : (n : Int) ≤ (c : Int) := by omega
  have h4 : (0 : Int) ≤ (n : Int) := by omega
  have h5 : (c : Int) ≤ 9223372036854775807 := by omega
  unfold execOp sop; simp only [h]; go_simp
theorem store7 {w0 W : World} {x : Cf} {v7 v9 : Value} (hb : Below w0.heap.size w0 W) (h7 : (mP w0.heap.size x).p W v7) (h9 : (Gp.box w0.heap.size zero3 24).p W v9) :
    ∃ w', (Instr.storeAt 24 v9 v7).run Try.prog W = .ok () w' ∧ K7 w0 x v9 w' := by
  obtain ⟨m, B, N, rfl, h1, h2, h3⟩ := h7
  obtain ⟨q, hlo, rfl, hq⟩ := h9
  have hx : Bx W q 24 mNil := hq
  have ht := Bx.tur W q m
  have hne : ∀ A k cl, OwnsI 3 W B A k cl → ∀ j, blk A = some j → j ≠ q := fun A k cl ho j hj e => by
    have : ∃ cur, W.heap[j]? = some (.cells cur 3 (0, 0)) := by
      rcases ho.row.2 with ⟨h0, _⟩ | ⟨g', cap, cur, hv, _, hh, _⟩
      · injection h0 with h0; rw [h0] at hj; cases hj
      · have hA : A = some ⟨g', 0, none⟩ := by injection hv
        rw [hA] at hj
        obtain rfl : g' = j := by injection hj
        exact ⟨cur, hh⟩
    obtain ⟨cur, hc⟩ := this
    rw [e, hq] at hc
    injection hc with hc
    injection hc with _ ht _
    exact absurd ht (by decide)
  have ho : OwnC (W.setRow q #[.slice m.a0 m.n0 m.k0, .slice m.a1 m.n1 m.k1, .slice m.a2 m.n2 m.k2]) B N x m :=
    ⟨ownsI_turn h3.o ht (hne _ _ _ h3.o), ownsI_turn h3.n ht (hne _ _ _ h3.n), ownsI_turn h3.l ht (hne _ _ _ h3.l), h3.e0, h3.e1, h3.e2, h3.b0, h3.b1, h3.b2, h3.d1, h3.d2, h3.d3⟩
  exact ⟨_, hx.st (m' := m), q, m, B, N, rfl, hlo, hx.set m, h1, Nat.le_trans h2 ht.size, ho, hb.trans (ht.below hb.size (fun k hk => by rw [hk]; exact hlo))⟩
end Go.Proofs.Ytfkjahpcpmcefaa.Co
namespace Go.Proofs.Ytfkjahpcpmcefaa.Co
open Go Go.RowKit
open Qu (Cf)
set_option maxRecDepth 100000
set_option linter.unusedVariables false
attribute [local go_sem ↓] Im.loadAt_conf3 Im.storeAt_conf3 loadAt_mem storeAt_mem
def bigM (m : M3) : Bool := decide (300 < m.n0) || decide (300 < m.n1) || decide (300 < m.n2)
theorem bigM_any (m : M3) (w : World) : Calls Try.prog 6 #[.agg #[.slice m.a0 m.n0 m.k0, .slice m.a1 m.n1 m.k1, .slice m.a2 m.n2 m.k2], .int .i64 300] w fun e w' => e = .returned (.bool (bigM m)) ∧ Below w.heap.size w w' := bigC_any m.a0 m.a1 m.a2 m.n0 m.n1 m.n2 m.k0 m.k1 m.k2 300 (by decide) w
theorem bigM_no {m : M3} (h : bigM m = false) : m.n0 ≤ 300 ∧ m.n1 ≤ 300 ∧ m.n2 ≤ 300 := by
  unfold bigM at h
  simp only [Bool.or_eq_false_iff, decide_eq_false_iff_not] at h
  omega
theorem box_keep {w5 v5 : World} {B : Nat} {x : Cf} {m : M3} (ho : OwnC w5 B w5.heap.size x m) (h : v5 = w5.alloc (.cells #[.slice m.a0 m.n0 m.k0, .slice m.a1 m.n1 m.k1, .slice m.a2 m.n2 m.k2] 24)) : ∀ W, Below v5.heap.size v5 W → Bx W w5.heap.size 24 m ∧ OwnC W B w5.heap.size x m ∧ Below w5.heap.size w5 W ∧ w5.heap.size + 1 ≤ W.heap.size := fun W hb => by
  obtain ⟨q1, q2, q3, _⟩ := box_new h
  exact ⟨q1.below hb q1.lt, (ho.below q2).below hb, q2.trans (hb.mono q2.size), by have := hb.size; omega⟩
theorem short_add {c : Cf} (h : Short c) (n : Int) : Short (add c n).1 := by
  rw [add_is]
  dsimp only
  split
  · exact ⟨h.1, by simp, by simp⟩
  · exact ⟨by simp [nil], by simp [nil], by simp [nil]⟩
theorem short_drop {c : Cf} (h : Short c) (n : Int) : Short (drop c n).1 := by
  rw [drop_is]
  dsimp only
  split
  · exact ⟨h.1, Nat.le_trans (List.length_filter_le _ _) h.1, by simp⟩
  · exact ⟨by simp [nil], by simp [nil], by simp [nil]⟩
theorem short_next {c : Cf} (h : Short c) (h3 : c.old.length ≤ 3000 ∧ c.lrn.length ≤ 3000) (f : List Int) : Short (next c f).1 := by
  unfold next
  split
  · exact h
  · split
    · exact ⟨h.2.1, by simp, by simp⟩
    · split
      · refine ⟨h.1, ?_, by simp⟩
        have := (Qu.uni_is (c.old ++ c.lrn)).length_le
        rw [List.length_append] at this
        show (Qu.uni (c.old ++ c.lrn)).length ≤ 20000
        omega
      · exact h
set_option maxHeartbeats 12800000 in
theorem steps_any (B : Nat) (c : Cf) (m : M3) (node : Int) (hnode : InInt node) (A : Option Addr) (n cap : Nat) (f : List Int) (hn : n = f.length) (w : World) (h : InC w B c m) (h' : IsInts w B A f) (hB : B ≤ w.heap.size) :
    Calls Try.prog 3 #[.agg #[.slice m.a0 m.n0 m.k0, .slice m.a1 m.n1 m.k1, .slice m.a2 m.n2 m.k2], .int .i64 node, .slice A n cap] w fun e w' => e = .returned (.bool true) ∧ Below w.heap.size w w' := by
  obtain ⟨w1, hw1⟩ : ∃ w1, w1 = w.alloc (.cells #[.slice m.a0 m.n0 m.k0, .slice m.a1 m.n1 m.k1, .slice m.a2 m.n2 m.k2] 24) := ⟨_, rfl⟩
  have hb1 : Below w.heap.size w w1 := by rw [hw1]; exact below_new w _
  have hs1 : w1.heap.size = w.heap.size + 1 := by rw [hw1]; simp
  have hx1 : Bx w1 w.heap.size 24 m := by rw [hw1]; exact Bx.new _ _ _
  have hld := (Bx.new w 24 m).ld
  have HK1 : Hid (∀ W, Below w1.heap.size w1 W → Bx W w.heap.size 24 m ∧ InC W B c m ∧ IsInts W B A f ∧ Below w.heap.size w W ∧ B ≤ W.heap.size) := hid (fun W hb => by
    have hl := hb1.trans (hb.mono hb1.size)
    exact ⟨hx1.below hb hx1.lt, h.below (hl.mono hB), h'.below (hl.mono hB), hl, by have := hl.size; omega⟩)
  have HE := hid (And.intro h.e0 (And.intro h.e1 (And.intro h.e2 hn)))
  clear h h' hb1 hs1 hx1 hB hn
  obtain ⟨bg, hbg⟩ : ∃ bg, bg = bigM m := ⟨_, rfl⟩
  have HG := hid (bigM_any m w1)
  rw [← hbg] at HG
  have HBG := hid hbg
  clear hbg
  cases bg
  · by_cases hn3 : 300 < n
    · have hn3' : (300 : Int) < (n : Int) := by omega
      clear hn3
      go_enter Try.func3, Try.ntmps3
      go_wp2_with fail
      rw [← hw1]
      clear hw1 hld
      refine HG.out.mono ?_
      rintro e w2 ⟨rfl, hb2⟩
      have HL := hid (HK1.out w2 hb2).2.2.2.1
      clear hb2
      go_wp2_with fail
      refine (works_any w2).mono ?_
      rintro e w3 ⟨rfl, hb3⟩
      have HB3 := hid (HL.out.trans (hb3.mono HL.out.size))
      clear hb3
      go_wp2_with fail
      go_ret
      exact ⟨rfl, HB3.out⟩
    · have hn3' : ¬ (300 : Int) < (n : Int) := by omega
      have hn300 : n ≤ 300 := by omega
      clear hn3
      have hbn := bigM_no HBG.out.symm
      have hsh : Short c := ⟨by have := HE.out.1; omega, by have := HE.out.2.1; omega, by have := HE.out.2.2.1; omega⟩
      have h300 : c.old.length ≤ 3000 ∧ c.lrn.length ≤ 3000 := ⟨by have := HE.out.1; omega, by have := HE.out.2.2.1; omega⟩
      have HS := hid (And.intro hsh h300)
      clear hbn hsh h300
      go_enter Try.func3, Try.ntmps3
      go_wp2_with fail
      rw [← hw1]
      clear hw1 hld
      refine HG.out.mono ?_
      rintro e w2 ⟨rfl, hb2⟩
      have hld2 := (HK1.out w2 hb2).1.ld
      have H2 := hid hb2
      clear hb2 HG
      go_wp2_with fail
      refine (copyConf_M B c HS.out.1 m w2 (HK1.out w2 H2.out).2.1 (HK1.out w2 H2.out).2.2.2.2).mono ?_
      rintro e w3 ⟨mx, rfl, hox, hb3⟩
      obtain ⟨v3, hv3⟩ : ∃ v3, v3 = w3.alloc (.cells #[.slice mx.a0 mx.n0 mx.k0, .slice mx.a1 mx.n1 mx.k1, .slice mx.a2 mx.n2 mx.k2] 24) := ⟨_, rfl⟩
      have hst3 := (box_new hv3).2.2.2
      have HK3 : Hid (∀ W, Below v3.heap.size v3 W → Bx W w3.heap.size 24 mx ∧ InC W w3.heap.size c mx ∧ Below w1.heap.size w1 W ∧ w3.heap.size + 1 ≤ W.heap.size) := hid (fun W hb => by
        have q := box_keep hox hv3 W hb
        exact ⟨q.1, q.2.1.inC, H2.out.trans ((hb3.mono H2.out.size).trans (q.2.2.1.mono (by have := H2.out.size; have := hb3.size; omega))), q.2.2.2⟩)
      clear hox hb3 hv3 hld2
      go_wp2_with fail
      have hq1 := HK1.out v3 (HK3.out v3 (Below.refl _ _)).2.2.1
      refine (lent_M B A cap n f HE.out.2.2.2 (by omega) v3 hq1.2.2.1 hq1.2.2.2.2).mono ?_
      rintro e w4 ⟨gy, cy, rfl, hoy, hb4⟩
      have hcy := (ownsI_cap hoy).2
      rw [I.lent_length, ← HE.out.2.2.2] at hcy
      have HK4 : Hid (∀ W, Below w4.heap.size w4 W → IsInts W w4.heap.size (some ⟨gy, 0, none⟩) (I.lent f) ∧ Below v3.heap.size v3 W) := hid (fun W hb => ⟨hoy.reads.below hb, hb4.trans (hb.mono hb4.size)⟩)
      have HCY := hid hcy
      have hld4 := (HK3.out w4 hb4).1.ld
      have hpa := add_any w3.heap.size c HS.out.1 mx node hnode w4 (HK3.out w4 hb4).2.1 (by have := (HK3.out w4 hb4).2.2.2; omega)
      obtain ⟨ra, hra⟩ : ∃ ra, ra = add c node := ⟨_, rfl⟩
      have HRA0 := hid hra
      clear hra
      rw [← HRA0.out] at hpa
      have HPA := hid hpa
      clear hoy hcy hb4 hq1 hpa hst3
      go_wp2_with fail
      refine HPA.out.mono ?_
      rintro e w5 ⟨ma, rfl, hoa, hb5⟩
      obtain ⟨v5, hv5⟩ : ∃ v5, v5 = w5.alloc (.cells #[.slice ma.a0 ma.n0 ma.k0, .slice ma.a1 ma.n1 ma.k1, .slice ma.a2 ma.n2 ma.k2] 24) := ⟨_, rfl⟩
      have hst5 := (box_new hv5).2.2.2
      have HK5 : Hid (∀ W, Below v5.heap.size v5 W → Bx W w5.heap.size 24 ma ∧ OwnC W w4.heap.size w5.heap.size ra.1 ma ∧ Below w4.heap.size w4 W ∧ w5.heap.size + 1 ≤ W.heap.size) := hid (fun W hb => by
        have q := box_keep hoa hv5 W hb
        exact ⟨q.1, q.2.1, hb5.trans (q.2.2.1.mono hb5.size), q.2.2.2⟩)
      have hs5 : v5.heap.size = w5.heap.size + 1 := by rw [hv5]; simp
      have h45 := hb5.size
      have HZ5 := hid (And.intro hs5 h45)
      have hq3 := HK3.out v5 (HK4.out v5 (HK5.out v5 (Below.refl _ _)).2.2.1).2
      have hld5 := hq3.1.ld
      have hpb := drop_any w3.heap.size c HS.out.1 mx node hnode v5 hq3.2.1 (by have := hq3.2.2.2; omega)
      obtain ⟨rb, hrb⟩ : ∃ rb, rb = drop c node := ⟨_, rfl⟩
      have HRB0 := hid hrb
      clear hrb
      rw [← HRB0.out] at hpb
      have HPB := hid hpb
      clear hoa hb5 hv5 hs5 h45 hq3 hpb hld4 HPA
      go_wp2_with fail
      refine HPB.out.mono ?_
      rintro e w6 ⟨mb, rfl, hob, hb6⟩
      obtain ⟨v6, hv6⟩ : ∃ v6, v6 = w6.alloc (.cells #[.slice mb.a0 mb.n0 mb.k0, .slice mb.a1 mb.n1 mb.k1, .slice mb.a2 mb.n2 mb.k2] 24) := ⟨_, rfl⟩
      have hst6 := (box_new hv6).2.2.2
      have HK6 : Hid (∀ W, Below v6.heap.size v6 W → Bx W w6.heap.size 24 mb ∧ OwnC W v5.heap.size w6.heap.size rb.1 mb ∧ Below v5.heap.size v5 W ∧ w6.heap.size + 1 ≤ W.heap.size) := hid (fun W hb => by
        have q := box_keep hob hv6 W hb
        exact ⟨q.1, q.2.1, hb6.trans (q.2.2.1.mono hb6.size), q.2.2.2⟩)
      have hs6 : v6.heap.size = w6.heap.size + 1 := by rw [hv6]; simp
      have h56 := hb6.size
      have HZ6 := hid (And.intro hs6 h56)
      clear hob hb6 hv6 hs6 h56 hld5 hst5 HPB
      obtain ⟨rd, hrd⟩ : ∃ rd, rd = next c f := ⟨_, rfl⟩
      have HRD0 := hid hrd
      clear hrd
      have HLO : Hid (∀ W, Below v6.heap.size v6 W → (Below w4.heap.size w4 W ∧ Below w1.heap.size w1 W) ∧ Bx W w3.heap.size 24 mx ∧ InC W w3.heap.size c mx ∧ w3.heap.size + 1 ≤ W.heap.size) := hid (fun W hb => by
        have q5 := HK5.out W (HK6.out W hb).2.2.1
        have q3 := HK3.out W (HK4.out W q5.2.2.1).2
        exact ⟨⟨q5.2.2.1, q3.2.2.1⟩, q3.1, q3.2.1, q3.2.2.2⟩)
      have HPD : Hid (∀ W, Below v6.heap.size v6 W → Calls Try.prog 12 #[.agg #[.slice mx.a0 mx.n0 mx.k0, .slice mx.a1 mx.n1 mx.k1, .slice mx.a2 mx.n2 mx.k2], .slice (some ⟨gy, 0, none⟩) n cy] W (GotB W rd.1 rd.2)) := hid (fun W hb => by
        have q := HLO.out W hb
        have q4 := (HK4.out W q.1.1).1
        rw [HRD0.out]
        exact next_any w3.heap.size w4.heap.size c HS.out.1 mx (some ⟨gy, 0, none⟩) n cy f HE.out.2.2.2 (by omega) W q.2.2.1 (lent_head q4) (by have := q.2.2.2; omega) q.1.1.size)
      go_wp2_with fail
      refine wp_region_store (w0 := v6) 10 11 13 9 _ _ _ (G7 mx gy n cy cap A rd.1 rd.2 v6) [46, 47, 48, 49, 50, 51, 45, 52, 53, 13] _ (by kernel_rfl) rfl rfl (by kernel_rfl) (by kernel_rfl) (by decide) (by decide) (by kernel_rfl) (by kernel_rfl) (by kernel_rfl) ?arms ?late rfl ?store ?he
      case arms =>
        exact ⟨(.inr ⟨rfl, fun a W hb hkp hw => goes_load (v1 := .pointer (some ⟨w3.heap.size, 0, none⟩)) (hkp 7 (by decide)) (HLO.out W hb).2.1.ld rfl⟩),
          (.inr ⟨rfl, fun a W hb hkp hw => goes_move (hkp 8 (by decide)) rfl⟩),
          (.inr ⟨rfl, fun a W hb hkp hw => goes_move (hkp 2 (by decide)) rfl⟩),
          (.inr ⟨rfl, fun a W hb hkp hw => goes_val (run_lenI (hw 2 48 (by kernel_rfl))) rfl⟩),
          (.inr ⟨rfl, fun a W hb hkp hw => goes_val (run_upto (hw 1 47 (by kernel_rfl)) (hw 3 49 (by kernel_rfl)) (by have := HCY.out; omega) (by have := HCY.out; unfold maxLen at this; omega)) rfl⟩),
          (.inr ⟨rfl, fun a W hb hkp hw => goes_call2 (hw 0 46 (by kernel_rfl)) (hw 4 50 (by kernel_rfl)) (by go_simp) ((HPD.out W hb).mono (by rintro e w' ⟨md, rfl, ho, hb'⟩; exact ⟨_, rfl, ⟨md, W.heap.size, w'.heap.size, rfl, hb.size, Nat.le_refl _, ho⟩, hb'⟩))⟩),
          (.inr ⟨rfl, fun a W hb hkp hw => goes_move rfl (hw 5 51 (by kernel_rfl))⟩),
          (.inr ⟨rfl, fun a W hb hkp hw => by
            obtain ⟨md, B', N', e1, h1⟩ := hw 6 45 (by kernel_rfl)
            exact goes_ext e1 rfl ⟨md, B', N', rfl, h1⟩⟩),
          (.inr ⟨rfl, fun a W hb hkp hw => by
            obtain ⟨md, B', N', e1, h1⟩ := hw 6 45 (by kernel_rfl)
            exact goes_ext e1 rfl rfl⟩),
          (.inr ⟨rfl, fun a W hb hkp hw => goes_new run_boxC ⟨W.heap.size, hb.size, rfl, heap_alloc_new _ _⟩⟩),
          .inl rfl, trivial⟩
      case late =>
        exact ⟨.inr (.inl (by kernel_rfl)), .inr (.inl (by kernel_rfl)), .inr (.inl (by kernel_rfl)), .inr (.inl (by kernel_rfl)), .inr (.inl (by kernel_rfl)), .inr (.inl (by kernel_rfl)), .inr (.inl (by kernel_rfl)), .inr (.inl (by kernel_rfl)),
          .inr (.inr ⟨rfl, fun a W h => by
            obtain ⟨x, e1⟩ : ∃ x, a.eval (.tmp 45) = .tuple #[x, .bool rd.2] := h 6 45 (by kernel_rfl)
            exact ⟨_, run_ext e1 rfl, rfl⟩⟩),
          .inr (.inl (by kernel_rfl)), .inl rfl, trivial⟩
      case store =>
        intro a W hb hkp hw
        exact store7 hb (hw 7 52 (by kernel_rfl)) (hw 9 13 (by kernel_rfl))
      case he =>
        intro u w7 hH hK
        have e53 : u 53 = .bool rd.2 := hH 8 53 (by decide) (by kernel_rfl)
        obtain ⟨q7, md, B7, N7, e13, hq7, hx7, hB7, hN7, ho7, hb7⟩ : K7 v6 rd.1 (u 13) w7 := hK
        clear hH
        have H7 := hid (And.intro hq7 (And.intro hx7 (And.intro hB7 (And.intro hN7 (And.intro ho7 hb7)))))
        simp only [putAll, List.foldl_cons, List.foldl_nil, e53, e13]
        clear e53 e13 hq7 hx7 hB7 hN7 ho7 hb7
        have HC1 : Hid (∀ W, Below w7.heap.size w7 W → (Bx W w.heap.size 24 m ∧ InC W B c m ∧ IsInts W B A f ∧ Below w.heap.size w W ∧ B ≤ W.heap.size) ∧ Below v6.heap.size v6 W) := hid (fun W hb => by
          have q := H7.out.2.2.2.2.2.trans (hb.mono H7.out.2.2.2.2.2.size)
          exact ⟨HK1.out W (HLO.out W q).1.2, q⟩)
        have hld7 := (HC1.out w7 (Below.refl _ _)).1.1.ld
        have hra := refAdd_any B c HS.out.1 m node hnode w7 (HC1.out w7 (Below.refl _ _)).1.2.1 (HC1.out w7 (Below.refl _ _)).1.2.2.2.2
        rw [← HRA0.out] at hra
        have HRA := hid hra
        clear hra hst6
        go_wp2_with fail
        refine HRA.out.mono ?_
        rintro e w8 ⟨na, rfl, hna, hb8⟩
        obtain ⟨v8, hv8⟩ : ∃ v8, v8 = w8.alloc (.cells #[.slice na.a0 na.n0 na.k0, .slice na.a1 na.n1 na.k1, .slice na.a2 na.n2 na.k2] 24) := ⟨_, rfl⟩
        have hst8 := (box_new hv8).2.2.2
        have HK8 : Hid (∀ W, Below v8.heap.size v8 W → Bx W w8.heap.size 24 na ∧ InC W w8.heap.size ra.1 na ∧ Below w7.heap.size w7 W ∧ w8.heap.size + 1 ≤ W.heap.size) := hid (fun W hb => by
          have q := box_keep hna hv8 W hb
          exact ⟨q.1, q.2.1.inC, hb8.trans (q.2.2.1.mono hb8.size), q.2.2.2⟩)
        have hc8 := HC1.out v8 (HK8.out v8 (Below.refl _ _)).2.2.1
        have hld8 := hc8.1.1.ld
        have hrb := refDrop_any B c HS.out.1 m node hnode v8 hc8.1.2.1 hc8.1.2.2.2.2
        rw [← HRB0.out] at hrb
        have HRB := hid hrb
        clear hna hb8 hv8 hc8 hrb hld7 HRA
        go_wp2_with fail
        refine HRB.out.mono ?_
        rintro e w9 ⟨nb, rfl, hnb, hb9⟩
        obtain ⟨v9, hv9⟩ : ∃ v9, v9 = w9.alloc (.cells #[.slice nb.a0 nb.n0 nb.k0, .slice nb.a1 nb.n1 nb.k1, .slice nb.a2 nb.n2 nb.k2] 24) := ⟨_, rfl⟩
        have hst9 := (box_new hv9).2.2.2
        have HK9 : Hid (∀ W, Below v9.heap.size v9 W → Bx W w9.heap.size 24 nb ∧ InC W w9.heap.size rb.1 nb ∧ Below v8.heap.size v8 W ∧ w9.heap.size + 1 ≤ W.heap.size) := hid (fun W hb => by
          have q := box_keep hnb hv9 W hb
          exact ⟨q.1, q.2.1.inC, hb9.trans (q.2.2.1.mono hb9.size), q.2.2.2⟩)
        have hc9 := HC1.out v9 (HK8.out v9 (HK9.out v9 (Below.refl _ _)).2.2.1).2.2.1
        have hld9 := hc9.1.1.ld
        have hrd := refNext_any B B c HS.out.1 HS.out.2 m A n cap f HE.out.2.2.2 (by omega) v9 hc9.1.2.1 hc9.1.2.2.1 hc9.1.2.2.2.2 hc9.1.2.2.2.2
        rw [← HRD0.out] at hrd
        have HRD := hid hrd
        clear hnb hb9 hv9 hc9 hrd hld8 hst8 HRB
        go_wp2_with fail
        refine HRD.out.mono ?_
        rintro e wx ⟨nd, rfl, hnd, hbx⟩
        obtain ⟨vx, hvx⟩ : ∃ vx, vx = wx.alloc (.cells #[.slice nd.a0 nd.n0 nd.k0, .slice nd.a1 nd.n1 nd.k1, .slice nd.a2 nd.n2 nd.k2] 24) := ⟨_, rfl⟩
        have hstx := (box_new hvx).2.2.2
        have HKX : Hid (∀ W, Below vx.heap.size vx W → Bx W wx.heap.size 24 nd ∧ InC W wx.heap.size rd.1 nd ∧ Below v9.heap.size v9 W ∧ wx.heap.size + 1 ≤ W.heap.size) := hid (fun W hb => by
          have q := box_keep hnd hvx W hb
          exact ⟨q.1, q.2.1.inC, hbx.trans (q.2.2.1.mono hbx.size), q.2.2.2⟩)
        have HALL : Hid (∀ W, Below vx.heap.size vx W → (Bx W w5.heap.size 24 ma ∧ OwnC W w4.heap.size w5.heap.size ra.1 ma ∧ w5.heap.size + 1 ≤ W.heap.size) ∧ (Bx W w6.heap.size 24 mb ∧ OwnC W v5.heap.size w6.heap.size rb.1 mb ∧ w6.heap.size + 1 ≤ W.heap.size) ∧ (Bx W q7 24 md ∧ OwnC W B7 N7 rd.1 md ∧ N7 ≤ W.heap.size) ∧ (Bx W w8.heap.size 24 na ∧ InC W w8.heap.size ra.1 na ∧ w8.heap.size + 1 ≤ W.heap.size) ∧ (Bx W w9.heap.size 24 nb ∧ InC W w9.heap.size rb.1 nb ∧ w9.heap.size + 1 ≤ W.heap.size) ∧ (Bx W wx.heap.size 24 nd ∧ InC W wx.heap.size rd.1 nd ∧ wx.heap.size + 1 ≤ W.heap.size) ∧ Below v6.heap.size v6 W) := hid (fun W hb => by
          have qx := HKX.out W hb
          have q9 := HK9.out W qx.2.2.1
          have q8 := HK8.out W q9.2.2.1
          have qc := (HC1.out W q8.2.2.1).2
          have q6 := HK6.out W qc
          have q5 := HK5.out W q6.2.2.1
          exact ⟨⟨q5.1, q5.2.1, q5.2.2.2⟩, ⟨q6.1, q6.2.1, q6.2.2.2⟩, ⟨H7.out.2.1.below q8.2.2.1 H7.out.2.1.lt, H7.out.2.2.2.2.1.below q8.2.2.1, by have := q8.2.2.1.size; have := H7.out.2.2.2.1; omega⟩, ⟨q8.1, q8.2.1, q8.2.2.2⟩, ⟨q9.1, q9.2.1, q9.2.2.2⟩, ⟨qx.1, qx.2.1, qx.2.2.2⟩, qc⟩)
        have HSH : Hid (Short ra.1 ∧ Short rb.1 ∧ Short rd.1) := hid ⟨by rw [HRA0.out]; exact short_add HS.out.1 node, by rw [HRB0.out]; exact short_drop HS.out.1 node, by rw [HRD0.out]; exact short_next HS.out.1 HS.out.2 f⟩
        have e1 : (ra.2 != ra.2) = false := by simp
        have e2 : (rb.2 != rb.2) = false := by simp
        have e3 : (rd.2 != rd.2) = false := by cases rd.2 <;> rfl
        have hx0 := HALL.out vx (Below.refl _ _)
        have la := hx0.1.1.ld
        have lna := hx0.2.2.2.1.1.ld
        have HSA := hid (sameConf_M w5.heap.size w8.heap.size ra.1 HSH.out.1 ma na vx hx0.1.2.1.inC hx0.2.2.2.1.2.1 (by have := hx0.1.2.2; omega) (by have := hx0.2.2.2.1.2.2; omega))
        clear hnd hbx hvx hld9 hst9 HRD hx0
        go_wp2_with fail
        refine HSA.out.mono ?_
        rintro e y1 ⟨rfl, hy1⟩
        have hx1 := HALL.out y1 hy1
        have lb := hx1.2.1.1.ld
        have lnb := hx1.2.2.2.2.1.1.ld
        have HSB := hid (sameConf_M w6.heap.size w9.heap.size rb.1 HSH.out.2.1 mb nb y1 hx1.2.1.2.1.inC hx1.2.2.2.2.1.2.1 (by have := hx1.2.1.2.2; omega) (by have := hx1.2.2.2.2.1.2.2; omega))
        have HY1 := hid hy1
        clear hx1 hy1 la lna HSA hstx
        go_wp2_with fail
        refine HSB.out.mono ?_
        rintro e y2 ⟨rfl, hy2⟩
        have hy2 := HY1.out.trans (hy2.mono HY1.out.size)
        have hx2 := HALL.out y2 hy2
        have lc := hx2.2.2.1.1.ld
        have lnc := hx2.2.2.2.2.2.1.1.ld
        have HSC := hid (sameConf_M N7 wx.heap.size rd.1 HSH.out.2.2 md nd y2 hx2.2.2.1.2.1.inC hx2.2.2.2.2.2.1.2.1 hx2.2.2.1.2.2 (by have := hx2.2.2.2.2.2.1.2.2; omega))
        have HY2 := hid hy2
        clear hx2 hy2 lb lnb HSB HY1
        go_wp2_with fail
        refine HSC.out.mono ?_
        rintro e y3 ⟨rfl, hy3⟩
        have hy3 := HY2.out.trans (hy3.mono HY2.out.size)
        have HX3 := hid (HALL.out y3 hy3)
        have la := HX3.out.1.1.ld
        clear hy3 lc lnc HSC HY2 e1 e2 e3
        go_wp2_with fail
        refine (spoil_any (fun k => w4.heap.size ≤ k ∧ k < w5.heap.size) _ _ ra.1 ma y3 HX3.out.1.2.1 (fun k h1 h2 => ⟨h1, h2⟩)).mono ?_
        rintro e y4 ⟨rfl, ht4⟩
        have z5 := HZ5.out.1
        have z5' := HZ5.out.2
        have z6 := HZ6.out.1
        have z6' := HZ6.out.2
        have hL4 : Below w4.heap.size w4 y4 := by
          have q := (HLO.out y3 HX3.out.2.2.2.2.2.2).1.1
          exact q.trans (ht4.below q.size (fun k hk => hk.1))
        have hxb4 := HX3.out.2.1.1.turned ht4 (fun hk => by omega)
        have hob4 := HX3.out.2.1.2.1.turned ht4 (fun k hk => by omega)
        have hxd4 := HX3.out.2.2.1.1.turned ht4 (fun hk => by have := H7.out.1; omega)
        have hod4 := HX3.out.2.2.1.2.1.turned ht4 (fun k hk => by have := H7.out.2.2.1; omega)
        have lb := hxb4.ld
        have HY4 := hid (And.intro hL4 (And.intro hob4 (And.intro hxd4 hod4)))
        have HZZ := hid (And.intro z5 (And.intro z5' (And.intro z6 z6')))
        clear ht4 hL4 hxb4 hob4 hxd4 hod4 la z5 z5' z6 z6'
        go_wp2_with fail
        refine (spoil_any (fun k => v5.heap.size ≤ k ∧ k < w6.heap.size) _ _ rb.1 mb y4 HY4.out.2.1 (fun k h1 h2 => ⟨h1, h2⟩)).mono ?_
        rintro e y5 ⟨rfl, ht5⟩
        have hz := HZZ.out
        have hL5 : Below w4.heap.size w4 y5 := HY4.out.1.trans (ht5.below HY4.out.1.size (fun k hk => by omega))
        have hxd5 := HY4.out.2.2.1.turned ht5 (fun hk => by have := H7.out.1; omega)
        have hod5 := HY4.out.2.2.2.turned ht5 (fun k hk => by have := H7.out.2.2.1; omega)
        have ld5 := hxd5.ld
        have HY5 := hid (And.intro hL5 hod5)
        clear ht5 hL5 hxd5 hod5 lb hz HY4
        go_wp2_with fail
        refine (spoil_any (fun k => v6.heap.size ≤ k) _ _ rd.1 md y5 HY5.out.2 (fun k h1 h2 => Nat.le_trans H7.out.2.2.1 h1)).mono ?_
        rintro e y6 ⟨rfl, ht6⟩
        have hL6 : Below w4.heap.size w4 y6 := HY5.out.1.trans (ht6.below HY5.out.1.size (fun k hk => by have := HZZ.out; omega))
        have HEND : Hid (∀ W, Below w4.heap.size w4 W → (Bx W w3.heap.size 24 mx ∧ InC W w3.heap.size c mx ∧ w3.heap.size ≤ W.heap.size) ∧ (Bx W w.heap.size 24 m ∧ InC W B c m ∧ IsInts W B A f ∧ Below w.heap.size w W ∧ B ≤ W.heap.size) ∧ IsInts W w4.heap.size (some ⟨gy, 0, none⟩) (I.lent f)) := hid (fun W hb => by
          have q4 := HK4.out W hb
          have q3 := HK3.out W q4.2
          exact ⟨⟨q3.1, q3.2.1, by have := q3.2.2.2; omega⟩, HK1.out W q3.2.2.1, q4.1⟩)
        have h6 := HEND.out y6 hL6
        have lx := h6.1.1.ld
        have lcc := h6.2.1.1.ld
        have HSX := hid (sameConf_M w3.heap.size B c HS.out.1 mx m y6 h6.1.2.1 h6.2.1.2.1 h6.1.2.2 h6.2.1.2.2.2.2)
        have HL6 := hid hL6
        clear ht6 hL6 h6 ld5 HY5
        go_wp2_with fail
        refine HSX.out.mono ?_
        rintro e y7 ⟨rfl, hy7⟩
        have hL7 := HL6.out.trans (hy7.mono HL6.out.size)
        have h7 := HEND.out y7 hL7
        have HKP := hid (kept_M w4.heap.size B gy A cy cap n f HE.out.2.2.2 (by omega) HCY.out.1 y7 h7.2.2 h7.2.1.2.2.1)
        have HL7 := hid hL7
        clear hy7 hL7 h7 lx lcc HSX
        go_wp2_with fail
        refine HKP.out.mono ?_
        rintro e y8 ⟨rfl, hy8⟩
        have hL8 := HL7.out.trans (hy8.mono HL7.out.size)
        have HL8 := hid hL8
        clear hy8 hL8 HKP
        go_wp2_with fail
        refine (works_any y8).mono ?_
        rintro e y9 ⟨rfl, hy9⟩
        have HL9 := hid (HEND.out y9 (HL8.out.trans (hy9.mono HL8.out.size))).2.1.2.2.2.1
        clear hy9
        go_wp2_with fail
        go_ret
        exact ⟨rfl, HL9.out⟩
  · go_enter Try.func3, Try.ntmps3
    go_wp2_with fail
    rw [← hw1]
    clear hw1 hld
    refine HG.out.mono ?_
    rintro e w2 ⟨rfl, hb2⟩
    have HL := hid (HK1.out w2 hb2).2.2.2.1
    clear hb2
    go_wp2_with fail
    refine (works_any w2).mono ?_
    rintro e w3 ⟨rfl, hb3⟩
    have HB3 := hid (HL.out.trans (hb3.mono HL.out.size))
    clear hb3
    go_wp2_with fail
    go_ret
    exact ⟨rfl, HB3.out⟩
end Go.Proofs.Ytfkjahpcpmcefaa.Co
namespace Go.Proofs.Ytfkjahpcpmcefaa
open Go.RowKit Go.ChangeShapes Go.WideShapes Go.Deep
set_option maxRecDepth 100000
theorem intsIn_of_trod {H : Type} {enc : TypeId × Value → H} {W : World} {fuel : Nat} {cs : List Value} {x : DataW H × List MemPlace} (h : DataW.trod enc Try.prog W 0 (fun _ => true) true fuel 22 cs = some x) :
    ∃ (a : Option Addr) (c : Nat) (l : List Int), cs = [.slice a l.length c] ∧ IsInts W W.heap.size a l ∧ (l.length ≤ c ∧ c ≤ maxLen) ∧ (a = none → c = 0) := by
  rcases open_ints Try.underlying22 Try.underlying3 (by kernel_rfl) h with ⟨hcs, _⟩ | ⟨x, l, c, zs, hcs, _, hl, hm, hz, hx, hcell, hwz⟩
  · exact ⟨none, 0, [], hcs, IsInts.nil, ⟨Nat.le_refl _, Nat.zero_le _⟩, fun _ => rfl⟩
  · simp only [if_true] at hz
    obtain ⟨m, h1, h2⟩ := isInts_of_ints hl hz hcell hwz
    subst h2
    exact ⟨some x, c, m, hcs, h1, ⟨hl, hm⟩, fun h => by cases h⟩
theorem one_cell3 {cs : List Value} (h : cs.length = 3) (j : Nat) (hj : j < 3) : (cs.drop j).take 1 = [cs[j]'(by omega)] := by
  rw [List.drop_eq_getElem_cons (by omega)]
  rfl
theorem cellsOf_conf : Try.prog.cellsOf 24 = 3 := by kernel_rfl
theorem conf_of_trod {H : Type} {enc : TypeId × Value → H} {W : World} {fuel : Nat} {cs : List Value} {x : DataW H × List MemPlace} (hcl : cs.length = 3) (h : DataW.trod enc Try.prog W 0 (fun _ => true) true fuel 24 cs = some x) :
    ∃ (c : Qu.Cf) (a0 a1 a2 : Option Addr) (k0 k1 k2 : Nat), cs = [.slice a0 c.old.length k0, .slice a1 c.new.length k1, .slice a2 c.lrn.length k2] ∧ CIs W W.heap.size c a0 a1 a2 k0 k1 k2 := by
  obtain ⟨ys, n, _, _, _, hyl, hf⟩ := DataW.trod_struct Try.underlying24 h
  have hyl3 : ys.length = 3 := hyl
  have e0 : DataW.trod enc Try.prog W 0 (fun _ => true) true n 22 ((cs.drop 0).take (Try.prog.cellsOf 22)) = ys[0]? := hf 0 _ rfl
  have e1 : DataW.trod enc Try.prog W 0 (fun _ => true) true n 22 ((cs.drop 1).take (Try.prog.cellsOf 22)) = ys[1]? := hf 1 _ rfl
  have e2 : DataW.trod enc Try.prog W 0 (fun _ => true) true n 22 ((cs.drop 2).take (Try.prog.cellsOf 22)) = ys[2]? := hf 2 _ rfl
  have c3 : Try.prog.cellsOf 22 = 1 := by kernel_rfl
  rw [c3] at e0 e1 e2
  rw [one_cell3 hcl 0 (by omega), List.getElem?_eq_getElem (by omega)] at e0
  rw [one_cell3 hcl 1 (by omega), List.getElem?_eq_getElem (by omega)] at e1
  rw [one_cell3 hcl 2 (by omega), List.getElem?_eq_getElem (by omega)] at e2
  obtain ⟨a0, k0, l0, p1, p2, p3, p4⟩ := intsIn_of_trod e0
  obtain ⟨a1, k1, l1, q1, q2, q3, q4⟩ := intsIn_of_trod e1
  obtain ⟨a2, k2, l2, r1, r2, r3, r4⟩ := intsIn_of_trod e2
  have p1 := (List.cons.inj p1).1
  have q1 := (List.cons.inj q1).1
  have r1 := (List.cons.inj r1).1
  refine ⟨⟨l0, l1, l2⟩, a0, a1, a2, k0, k1, k2, ?_, ⟨p2, q2, r2, p4, q4, r4, p3, q3, r3⟩⟩
  match cs, hcl with
  | [x0, x1, x2], _ =>
    simp at p1 q1 r1
    rw [p1, q1, r1]
theorem conf_open {H : Type} {enc : TypeId × Value → H} {W : World} {cs : Array Value} {d : DataW H} {p : List MemPlace} (hsz : cs.size = Try.prog.cellsOf 24) (h : DataW.Trod enc Try.prog W 0 (fun _ => true) true 24 (.agg cs) d p) :
    ∃ (c : Qu.Cf) (a0 a1 a2 : Option Addr) (k0 k1 k2 : Nat), cs = #[.slice a0 c.old.length k0, .slice a1 c.new.length k1, .slice a2 c.lrn.length k2] ∧ CIs W W.heap.size c a0 a1 a2 k0 k1 k2 := by
  obtain ⟨fuel, hf⟩ := h
  rw [cellsOf_conf] at hsz
  obtain ⟨c, a0, a1, a2, k0, k1, k2, e, hc⟩ := conf_of_trod (cs := cs.toList) (by simpa using hsz) hf
  refine ⟨c, a0, a1, a2, k0, k1, k2, ?_, hc⟩
  rw [← Array.toArray_toList (xs := cs), e]
end Go.Proofs.Ytfkjahpcpmcefaa
namespace Go.Proofs.Ytfkjahpcpmcefaa.confSteps
open Go.ChangeShapes Go.WideShapes Go.ChangeAt Go.RowKit
open Go.ChangeMaps (open_string shut_string)
set_option linter.unusedVariables false
theorem own : ownKnob Try.prog.godebug = none := by kernel_rfl
theorem laidOut : laidOutB Try.prog = true := by kernel_rfl
theorem bytesOfI : Try.prog.bytesOf 3 = 8 := by kernel_rfl
theorem walk (c0 : Qu.Cf) (a00 a01 a02 : Option Addr) (k00 k01 k02 : Nat) (a1 : Int) (a2 : Option Addr) (cap2 : Nat) (l2 : List Int) (w : World) (k0 : CIs w w.heap.size c0 a00 a01 a02 k00 k01 k02) (b1 : -9223372036854775808 ≤ a1 ∧ a1 ≤ 9223372036854775807) (k2 : IsInts w w.heap.size a2 l2) (n2 : l2.length ≤ cap2) (r2 : cap2 * 8 ≤ 140737488351232) (z2 : a2 = none → cap2 = 0) :
    Calls Try.prog 3 #[.agg #[.slice a00 c0.old.length k00, .slice a01 c0.new.length k01, .slice a02 c0.lrn.length k02], .int .i64 a1, .slice a2 l2.length cap2] w fun e w' => e = .returned (.bool true) ∧ Below w.heap.size w w' :=
  Co.steps_any w.heap.size c0 ⟨a00, c0.old.length, k00, a01, c0.new.length, k01, a02, c0.lrn.length, k02⟩ a1 ⟨b1.1, b1.2⟩ a2 l2.length cap2 l2 rfl w ⟨k0, rfl, rfl, rfl⟩ k2 (Nat.le_refl _)
set_option maxRecDepth 100000 in
theorem lifted (os : Os) (started : os.Started) (H : Type) (enc : TypeId × Value → H) :
    ReturnsInHanded {} Try.checked os 3 .any (Rows.confStepsSpec.pre6 enc Try.prog Try.f3 Rows.confStepsRow.domain false) (Rows.confStepsSpec.post enc Try.prog Try.f3 false true false false) := by
  refine returnsInHanded_of_change_sized (C := Try.checked) own started (by kernel_rfl) Try.func3
    (ChangeSpec.witness6 (enc := enc) (C := Try.checked) false ⟨#[], #[.agg #[.slice none 0 0, .slice none 0 0, .slice none 0 0], .int .i64 0, .slice none 0 0], []⟩ 8 (by kernel_rfl) (by kernel_rfl) (by kernel_rfl) (by kernel_rfl)) ?_
  intro W base args ds gs before hval0 hW hcnd hsz0 _
  have hsz : (DataW.weightsEach Try.prog (Try.f3.params.toList ++ Rows.confStepsSpec.plain.varTypes Try.prog) (ds ++ gs)).all (· ≤ reachBytes) = true := hsz0
  clear hsz0
  have hval : ∀ (j : Nat) t v, Try.f3.params[j]? = some t → args[j]? = some v → Value.okWide Try.prog W .any base t v := hval0
  have hW' := hW
  obtain ⟨p, q, hA0, hV, rfl, hfz, hnd⟩ := hW
  have hA : DataW.TrodAll enc Try.prog W 0 (fun _ => true) true Try.f3.params.toList args.toList ds p := hA0
  rw [Try.params3] at hA hval hsz
  obtain ⟨v0, vs0, d0, ds0, p0, q0, hargs, rfl, rfl, g0, t0⟩ := trodAll_cons hA
  obtain ⟨v1, vs1, d1, ds1, p1, q1, rfl, rfl, rfl, g1, t1⟩ := trodAll_cons t0
  obtain ⟨v2, vs2, d2, ds2, p2, q2, rfl, rfl, rfl, g2, t2⟩ := trodAll_cons t1
  obtain ⟨rfl, rfl, rfl⟩ := trodAll_nil t2
  obtain rfl : args = #[v0, v1, v2] := by cases args; simp_all
  obtain ⟨rfl, rfl⟩ := trodVars_none hV
  obtain ⟨cs0, rfl, sz0⟩ := okWide_struct Try.underlying24 (hval 0 24 v0 rfl rfl)
  have m0 := g0
  have lt0 : ∀ x ∈ p0, x.block < W.heap.size := by obtain ⟨m, hm⟩ := m0; exact DataW.trod_lt m _ _ _ hm
  obtain ⟨c0, a00, a01, a02, k00, k01, k02, rfl, k0⟩ := conf_open sz0 g0
  obtain ⟨a1, rfl, rfl, rfl, w1⟩ := open_int Try.underlying3 (hval 1 3 v1 rfl rfl) g1
  have b1 := bounds_i64 w1
  obtain ⟨a2, len2, cap2, rfl⟩ := okWide_slice Try.underlying22 (hval 2 22 v2 rfl rfl)
  have m2 := g2
  have lt2 : ∀ x ∈ p2, x.block < W.heap.size := by obtain ⟨m, hm⟩ := m2; exact DataW.trod_lt m _ _ _ hm
  obtain ⟨l2, k2, rfl, n2, r2, z2⟩ : ∃ l, IsInts W W.heap.size a2 l ∧ len2 = l.length ∧ l.length ≤ cap2 ∧ cap2 * 8 ≤ 140737488351232 ∧ (a2 = none → cap2 = 0) := by
    obtain ⟨fuel, hf⟩ := g2
    rcases open_ints Try.underlying22 Try.underlying3 (by kernel_rfl) hf with ⟨hcs, _⟩ | ⟨x, l, c, zs, hcs, _, hl, hm, hz, hx, hcell, hwz⟩
    · simp [Value.cells] at hcs
      obtain ⟨rfl, rfl, rfl⟩ := hcs
      exact ⟨[], IsInts.nil, rfl, by simp, by omega, fun _ => rfl⟩
    · simp [Value.cells] at hcs
      obtain ⟨rfl, rfl, rfl⟩ := hcs
      simp only [Prod.mk.injEq] at hx
      obtain ⟨rfl, rfl⟩ := hx
      simp only [if_true] at hz
      have hr := sized_slice hsz (j := 2) (t := 22) (e := 3) rfl rfl Try.underlying22
      rw [bytesOfI] at hr
      simp only [lits, List.length_map, List.length_take, List.length_drop, reachBytes] at hr
      obtain ⟨l, h1, h2⟩ := isInts_of_ints hl hz hcell hwz
      exact ⟨l, h1, h2, by omega, by omega, fun h => by cases h⟩
  clear hA0 hval0
  refine (walk c0 a00 a01 a02 k00 k01 k02 a1 a2 cap2 l2 W k0 b1 k2 n2 r2 z2).mono fun e W' ⟨he, bel⟩ => ?_
  subst he
  exact ⟨_, rfl, _, _, _, [], _, [], hW', trodAll_mk1 (shut_bool Try.underlying4 _), (trodAll_cons_mk (Below.trod laidOut (by kernel_rfl) (of_decide_eq_true (by kernel_rfl)) m0 bel lt0) (trodAll_cons_mk (shut_int Try.underlying3 w1) (trodAll_cons_mk (Below.trod laidOut (by kernel_rfl) (of_decide_eq_true (by kernel_rfl)) m2 bel lt2) trodAll_mk0))), rfl, bel.frame _, fun h => by cases h⟩
theorem over : Rows.confStepsRow.holds Try.pinned (OpenSpec.ofChange Rows.confStepsSpec) :=
  OpenClaim.holds_of_wide 3 Try.f3 rfl rfl rfl rfl rfl rfl rfl ⟨rfl, rfl, rfl, rfl, rfl⟩ rfl rfl rfl rfl rfl (by kernel_rfl) Try.func3 (by kernel_rfl)
    (of_decide_eq_true (by kernel_rfl)) (by unfold Func.isWrapper; first | (rw [if_pos (by decide +kernel)]; kernel_rfl) | (rw [if_neg (by decide +kernel)]; exact ⟨rfl, rfl⟩))
    (fun os started H enc _ => lifted os started H enc)
theorem proved : Rows.ConfStepsSaid := over
end Go.Proofs.Ytfkjahpcpmcefaa.confSteps
