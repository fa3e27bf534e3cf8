/- The chapter's examples, all nodes and steps of some members, are as the document says. Conditions: none. -/
import Derived.Test.YtfkjahpcpmcefaaGreatConfKnownPartAG
import Derived.Deep.CutRange
import Derived.Test.YtfkjahpcpmcefaaGreatRows
import Derived.WalkKit
import Derived.WalkLawsBesides
import Derived.ProofKit
import Derived.OpenShut
import Derived.ShutString
import Derived.ChangeOld
import Derived.Below
import Derived.SizedLaws
namespace Go.Proofs.YtfkjahpcpmcefaaGreat.Co
open Go Go.RowKit
open Qu (Cf)
set_option maxRecDepth 100000
set_option linter.unusedVariables false
attribute [local go_sem ↓] Im.loadAt_conf3 Im.storeAt_conf3 loadAt_mem storeAt_mem
def all7 : List Int := [1, 2, 3, 4, 5, 6, 7]
theorem all7_has {n : Int} (h : 1 ≤ n ∧ n ≤ 7) : n ∈ all7 := by
  obtain ⟨h1, h2⟩ := h
  simp [all7]
  omega
theorem row_one {W : World} {b : Nat} {n : Int} {t : TypeId} (h : W.heap[b]? = some (.cells #[.int .i64 n] t (0, 0))) (hn : InInt n) : IsInts W W.heap.size (some ⟨b, 0, none⟩) [n] := by
  refine ⟨fun z hz => by simp at hz; subst hz; exact hn, fun k hk => ⟨b, 0, rfl, (Array.getElem?_eq_some_iff.1 h).1, fun i hi => ?_⟩⟩
  have hi1 : i < 1 := hi
  obtain rfl : i = 0 := by omega
  exact cell_of_row W b 0 _ _ _ h
theorem add_not_drop {c : Cf} {n : Int} (h : (add c n).2 = 0) : (drop c n).2 ≠ 0 := fun hd => (add_yes h).2.2.2.2.2 (drop_yes hd).2.2.2.2.2.1
set_option maxHeartbeats 12800000 in
theorem comes_any (B : Nat) (c : Cf) (m : M3) (n : Int) (hn : InInt n) (w : World) (h : InC w B c m) (hB : B ≤ w.heap.size) :
    Calls Tryz.prog 7 #[.agg #[.slice m.a0 m.n0 m.k0, .slice m.a1 m.n1 m.k1, .slice m.a2 m.n2 m.k2], .int .i64 n] w fun e w' => e = .returned (.bool true) ∧ Below w.heap.size w w' := by
  obtain ⟨w1, hw1⟩ : ∃ w1, w1 = w.alloc (.cells #[.slice m.a0 m.n0 m.k0, .slice m.a1 m.n1 m.k1, .slice m.a2 m.n2 m.k2] 24) := ⟨_, rfl⟩
  have hb1 : Below w.heap.size w w1 := by rw [hw1]; exact below_new w _
  have hx1 : Bx w1 w.heap.size 24 m := by rw [hw1]; exact Bx.new _ _ _
  have hld := (Bx.new w 24 m).ld
  have HKM : Hid (∀ W, Below w.heap.size w W → InC W B c m ∧ B ≤ W.heap.size) := hid (fun W hq => ⟨h.below (hq.mono hB), by have := hq.size; omega⟩)
  have HK1 : Hid (∀ W, Below w1.heap.size w1 W → Bx W w.heap.size 24 m ∧ InC W B c m ∧ Below w.heap.size w W ∧ B ≤ W.heap.size) := hid (fun W hq => by
    have hl := hb1.trans (hq.mono hb1.size)
    exact ⟨hx1.below hq hx1.lt, (HKM.out W hl).1, hl, (HKM.out W hl).2⟩)
  have HL : Hid (m.n0 = c.old.length ∧ m.n1 = c.new.length ∧ m.n2 = c.lrn.length) := hid ⟨h.e0, h.e1, h.e2⟩
  clear h hb1 hx1 hB
  obtain ⟨bg, hbg⟩ : ∃ bg, bg = bigM m := ⟨_, rfl⟩
  have HG := hid (bigM_any m w1)
  rw [← hbg] at HG
  have HBG := hid hbg
  clear hbg
  cases bg
  case true =>
    go_enter Tryz.func7, Tryz.ntmps7
    go_wp2_with fail
    rw [← hw1]
    clear hw1 hld
    refine HG.out.mono ?_
    rintro e w2 ⟨rfl, hb2⟩
    have HLL := hid (HK1.out w2 hb2).2.2.1
    clear hb2
    go_wp2_with fail
    refine (works_any w2).mono ?_
    rintro e w3 ⟨rfl, hb3⟩
    have HB3 := hid (HLL.out.trans (hb3.mono HLL.out.size))
    clear hb3
    go_wp2_with fail
    go_ret
    exact ⟨rfl, HB3.out⟩
  have hbn := bigM_no HBG.out.symm
  have hn0 := hbn.1
  have hsh : Short c := ⟨by have := HL.out.1; omega, by have := HL.out.2.1; omega, by have := HL.out.2.2; omega⟩
  have HS := hid hsh
  have HA := hid (fun W hq => add_any B c hsh m n hn W (HK1.out W hq).2.1 (HK1.out W hq).2.2.2)
  have HD := hid (fun W (hi : InC W B c m) (hq : B ≤ W.heap.size) => drop_any B c hsh m n hn W hi hq)
  clear hbn hsh
  by_cases hA : (add c n).2 = 0
  · have HCM := hid (comes hA)
    obtain ⟨y1, y2, y3, y4, y5, y6⟩ := add_yes hA
    have HNN := hid y3
    have hD := add_not_drop hA
    rw [hA, y1] at HA
    obtain ⟨xa, hxa⟩ : ∃ xa : Cf, xa = ⟨c.old, [], [n]⟩ := ⟨_, rfl⟩
    obtain ⟨U, hU⟩ : ∃ U, U = Qu.uni (c.old ++ [n]) := ⟨_, rfl⟩
    rw [← hU] at HCM
    have hlU : U.length ≤ 301 := by have := HCM.out.len; have := HL.out.1; omega
    have HSA : Hid (Short xa) := hid (by rw [hxa]; exact ⟨HS.out.1, by simp, by simp⟩)
    have HSB : Hid (Short ⟨c.old, U, []⟩) := hid ⟨HS.out.1, by show U.length ≤ 20000; omega, by simp⟩
    have HSD : Hid (Short ⟨U, [], []⟩) := hid ⟨by show U.length ≤ 20000; omega, by simp, by simp⟩
    have HSE : Hid (Short ⟨U, c.old, []⟩) := hid ⟨by show U.length ≤ 20000; omega, HS.out.1, by simp⟩
    have hCb : ∀ far, n ∈ far → next xa far = (⟨c.old, U, []⟩, true) := by rw [hxa]; exact HCM.out.b
    have HCB := hid hCb
    rw [← hxa] at HA
    obtain ⟨rd, hrd⟩ : ∃ rd, rd = drop c n := ⟨_, rfl⟩
    rw [← hrd] at HD hD
    have hz : (rd.2 == 0) = false := by rw [beq_eq_false_iff_ne]; exact hD
    clear hA y1 y2 y3 y4 y5 y6 hD hxa hU hlU hCb hrd
    go_enter Tryz.func7, Tryz.ntmps7
    go_wp2_with fail
    rw [← hw1]
    clear hw1 hld
    refine HG.out.mono ?_
    rintro e w2 ⟨rfl, hb2⟩
    obtain ⟨w3, hw3⟩ : ∃ w3, w3 = w2.alloc (.cells #[.int .i64 1, .int .i64 2, .int .i64 3, .int .i64 4, .int .i64 5, .int .i64 6, .int .i64 7] 3) := ⟨_, rfl⟩
    have hb3 : Below w2.heap.size w2 w3 := by rw [hw3]; exact below_new _ _
    have hal : IsInts w3 (w2.heap.size + 1) (some ⟨w2.heap.size, 0, none⟩) all7 := by rw [hw3]; exact lit_in w2 all7 (by decide) (by decide)
    have hs3 : w3.heap.size = w2.heap.size + 1 := by rw [hw3]; simp
    have hb13 := hb2.trans (hb3.mono hb2.size)
    have hld3 := (HK1.out w3 hb13).1.ld
    rw [hw3] at hld3
    have HADD := hid (HA.out w3 hb13)
    have HW3 := hid hw3
    have HL3 := hid (And.intro hal (And.intro hs3 hb13))
    clear hb2 hb3 hw3 hal hs3 hb13 HG HA
    go_wp2_with fail
    rw [← HW3.out]
    refine HADD.out.mono ?_
    rintro e w4 ⟨ma, rfl, hoa, hb4⟩
    obtain ⟨v4, hv4⟩ : ∃ v4, v4 = w4.alloc (.cells #[.slice ma.a0 ma.n0 ma.k0, .slice ma.a1 ma.n1 ma.k1, .slice ma.a2 ma.n2 ma.k2] 24) := ⟨_, rfl⟩
    have hst4 := (box_new hv4).2.2.2
    have HK4 : Hid (∀ W, Below v4.heap.size v4 W → Bx W w4.heap.size 24 ma ∧ InC W w4.heap.size xa ma ∧ w4.heap.size + 1 ≤ W.heap.size ∧ Bx W w.heap.size 24 m ∧ InC W B c m ∧ IsInts W (w2.heap.size + 1) (some ⟨w2.heap.size, 0, none⟩) all7 ∧ Below w.heap.size w W ∧ B ≤ W.heap.size ∧ w2.heap.size + 1 ≤ W.heap.size) := hid (fun W hb => by
      have q := box_keep hoa hv4 W hb
      have q3 := hb4.trans (q.2.2.1.mono hb4.size)
      have q1 := HK1.out W (HL3.out.2.2.trans (q3.mono HL3.out.2.2.size))
      exact ⟨q.1, q.2.1.inC, q.2.2.2, q1.1, q1.2.1, HL3.out.1.below (q3.mono (by have := HL3.out.2.1; omega)), q1.2.2.1, q1.2.2.2, by have := HL3.out.2.1; have := q3.size; omega⟩)
    have HLO4 : Hid (w.heap.size < w4.heap.size ∧ w4.heap.size < v4.heap.size) := hid ⟨by have := (HK1.out w3 HL3.out.2.2).1.lt; have := hb4.size; omega, (HK4.out v4 (Below.refl _ _)).1.lt⟩
    clear hoa hb4 hv4 hld3 HADD
    have hq5 := HK4.out v4 (Below.refl _ _)
    have hl5 := hq5.1.ld
    have hn5 := next_any w4.heap.size (w2.heap.size + 1) xa HSA.out ma (some ⟨w2.heap.size, 0, none⟩) 7 7 all7 rfl (by decide) v4 hq5.2.1 hq5.2.2.2.2.2.1 (by have := hq5.2.2.1; omega) hq5.2.2.2.2.2.2.2.2
    rw [HCB.out all7 (all7_has HNN.out)] at hn5
    have HN5 := hid hn5
    clear hq5 hn5
    go_wp2_with fail
    refine HN5.out.mono ?_
    rintro e w5 ⟨m5, rfl, ho5, hb5⟩
    obtain ⟨v5, hv5⟩ : ∃ v5, v5 = w5.alloc (.cells #[.slice m5.a0 m5.n0 m5.k0, .slice m5.a1 m5.n1 m5.k1, .slice m5.a2 m5.n2 m5.k2] 24) := ⟨_, rfl⟩
    have hst5 := (box_new hv5).2.2.2
    have HK5 : Hid (∀ W, Below v5.heap.size v5 W → Bx W w5.heap.size 24 m5 ∧ InC W w5.heap.size ⟨c.old, U, []⟩ m5 ∧ w5.heap.size + 1 ≤ W.heap.size ∧ Below v4.heap.size v4 W) := hid (fun W hb => by
      have q := box_keep ho5 hv5 W hb
      exact ⟨q.1, q.2.1.inC, q.2.2.2, hb5.trans (q.2.2.1.mono hb5.size)⟩)
    clear ho5 hb5 hv5 hl5 HN5
    have hq6 := HK5.out v5 (Below.refl _ _)
    have hl6 := hq6.1.ld
    have hn6 := next_any w5.heap.size 0 ⟨c.old, U, []⟩ HSB.out m5 none 0 0 [] rfl (by decide) v5 hq6.2.1 IsInts.nil (by have := hq6.2.2.1; omega) (Nat.zero_le _)
    rw [HCM.out.d []] at hn6
    have HN6 := hid hn6
    clear hq6 hn6
    go_wp2_with fail
    refine HN6.out.mono ?_
    rintro e w6 ⟨m6, rfl, ho6, hb6⟩
    obtain ⟨v6, hv6⟩ : ∃ v6, v6 = w6.alloc (.cells #[.slice m6.a0 m6.n0 m6.k0, .slice m6.a1 m6.n1 m6.k1, .slice m6.a2 m6.n2 m6.k2] 24) := ⟨_, rfl⟩
    have hst6 := (box_new hv6).2.2.2
    have HK6 : Hid (∀ W, Below v6.heap.size v6 W → Bx W w6.heap.size 24 m6 ∧ InC W w6.heap.size ⟨U, [], []⟩ m6 ∧ w6.heap.size + 1 ≤ W.heap.size ∧ Below v5.heap.size v5 W) := hid (fun W hb => by
      have q := box_keep ho6 hv6 W hb
      exact ⟨q.1, q.2.1.inC, q.2.2.2, hb6.trans (q.2.2.1.mono hb6.size)⟩)
    clear ho6 hb6 hv6 hl6 HN6
    have hq7 := HK6.out v6 (Below.refl _ _)
    have hl7 := hq7.1.ld
    have hn7 := next_any w6.heap.size (w2.heap.size + 1) ⟨U, [], []⟩ HSD.out m6 (some ⟨w2.heap.size, 0, none⟩) 7 7 all7 rfl (by decide) v6 hq7.2.1 (HK4.out v6 (HK5.out v6 (HK6.out v6 (Below.refl _ _)).2.2.2).2.2.2).2.2.2.2.2.1 (by have := hq7.2.2.1; omega) (HK4.out v6 (HK5.out v6 (HK6.out v6 (Below.refl _ _)).2.2.2).2.2.2).2.2.2.2.2.2.2.2
    rw [HCM.out.no all7] at hn7
    have HN7 := hid hn7
    clear hq7 hn7
    go_wp2_with fail
    refine HN7.out.mono ?_
    rintro e w7 ⟨m7, rfl, ho7, hb7⟩
    obtain ⟨v7, hv7⟩ : ∃ v7, v7 = w7.alloc (.cells #[.slice m7.a0 m7.n0 m7.k0, .slice m7.a1 m7.n1 m7.k1, .slice m7.a2 m7.n2 m7.k2] 24) := ⟨_, rfl⟩
    have hst7 := (box_new hv7).2.2.2
    have HK7 : Hid (∀ W, Below v7.heap.size v7 W → Bx W w7.heap.size 24 m7 ∧ InC W w7.heap.size ⟨U, [], []⟩ m7 ∧ w7.heap.size + 1 ≤ W.heap.size ∧ Below v6.heap.size v6 W) := hid (fun W hb => by
      have q := box_keep ho7 hv7 W hb
      exact ⟨q.1, q.2.1.inC, q.2.2.2, hb7.trans (q.2.2.1.mono hb7.size)⟩)
    clear ho7 hb7 hv7 hl7 HN7
    have HV : Hid (∀ W, Below v7.heap.size v7 W → Below v6.heap.size v6 W ∧ Below v4.heap.size v4 W) := hid (fun W hb => by
      have q := (HK7.out W hb).2.2.2
      exact ⟨q, (HK5.out W (HK6.out W q).2.2.2).2.2.2⟩)
    have hq9 := (HK6.out v7 (HV.out v7 (Below.refl _ _)).1).2.1
    have e0 : m6.n0 = U.length := hq9.e0
    have e1 : m6.n1 = 0 := hq9.e1
    have e2 : m6.n2 = 0 := hq9.e2
    have HQ : Hid (m6.n1 = 0 ∧ m6.n2 = 0 ∧ m.n0 ≤ 1000 ∧ ((m6.n0 : Nat) : Int) = ((m.n0 + 1 : Nat) : Int) ∧ (∀ z : Nat, z = (both U [n]).length → (z : Int) = 1) ∧ (∀ z : Nat, z = (both U c.old).length → (z : Int) = ((m.n0 : Nat) : Int))) := hid ⟨e1, e2, by omega, by have := HCM.out.len; have := HL.out.1; omega, fun z hz => by rw [hz, HCM.out.one]; rfl, fun z hz => by rw [hz, HCM.out.all, HL.out.1]⟩
    have HF0 : Hid (m6.n0 ≤ 1000) := hid (by have := HCM.out.len; have := HL.out.1; omega)
    have FX : Hid (∀ W, Below v7.heap.size v7 W → Bx W w6.heap.size 24 m6 ∧ Bx W w.heap.size 24 m) := hid (fun W hb => ⟨(HK6.out W (HV.out W hb).1).1, (HK4.out W (HV.out W hb).2).2.2.2.1⟩)
    have CB1 : Hid (∀ W, Below v7.heap.size v7 W → ∀ b3, W.heap[b3]? = some (.cells #[.int .i64 n] 3 (0, 0)) → Calls Tryz.prog 25 #[.slice m6.a0 m6.n0 m6.k0, .slice (some ⟨b3, 0, none⟩) 1 1] W fun e w' => ∃ A2 c2 q, e = .returned (.slice A2 q c2) ∧ q = (both U [n]).length ∧ OwnsI 3 w' W.heap.size A2 c2 (both U [n]) ∧ Below W.heap.size W w') := hid (fun W hb b3 h3 => by
      obtain ⟨i1, i2⟩ := (show InC W w6.heap.size ⟨U, [], []⟩ m6 ∧ w6.heap.size ≤ W.heap.size from ⟨(HK6.out W (HV.out W hb).1).2.1, by have := (HK6.out W (HV.out W hb).1).2.2.1; omega⟩)
      exact bothL_any _ W.heap.size m6.a0 (some ⟨b3, 0, none⟩) m6.k0 1 m6.n0 1 U [n] i1.e0 rfl (by have := HF0.out; omega) (by have := HF0.out; omega) (by omega) W i1.o (row_one h3 hn) i2 (Nat.le_refl _))
    have CB2 : Hid (∀ W, Below v7.heap.size v7 W → Calls Tryz.prog 25 #[.slice m6.a0 m6.n0 m6.k0, .slice m.a0 m.n0 m.k0] W fun e w' => ∃ A2 c2 q, e = .returned (.slice A2 q c2) ∧ q = (both U c.old).length ∧ OwnsI 3 w' W.heap.size A2 c2 (both U c.old) ∧ Below W.heap.size W w') := hid (fun W hb => by
      obtain ⟨i1, i2⟩ := (show InC W w6.heap.size ⟨U, [], []⟩ m6 ∧ w6.heap.size ≤ W.heap.size from ⟨(HK6.out W (HV.out W hb).1).2.1, by have := (HK6.out W (HV.out W hb).1).2.2.1; omega⟩)
      obtain ⟨j1, j2⟩ := HKM.out W (HK4.out W (HV.out W hb).2).2.2.2.2.2.2.1
      exact bothL_any _ B m6.a0 m.a0 m6.k0 m.k0 m6.n0 m.n0 U c.old i1.e0 HL.out.1 (by have := Nat.mul_le_mul (show m6.n0 ≤ 1000 by have := HF0.out; omega) (show m.n0 ≤ 300 from hn0); omega) (by have := HF0.out; omega) (by omega) W i1.o j1.o i2 j2)
    clear hq9 e0 e1 e2 hst4 hst5 hst6
    go_wp2_with fail
    go_cut [99] from 48 to 99 (fun s W => s = .bool false ∧ Hid (Below v7.heap.size v7 W))
    case first =>
      rename_i J9 K9 h1 h2
      refine wp_region_all (w0 := v7) 52 (H9 w6.heap.size w.heap.size m6 m n U c) [48, 49, 50, 51, 52, 53, 54, 55, 56, 57, 58, 59, 60, 61, 62, 63, 64, 65, 66, 67, 68, 69, 70, 71, 72, 73, 74, 75, 76, 77, 78, 79, 80, 81, 82, 83, 84, 85, 86, 87, 88, 89, 90, 91, 92, 93, 94, 95, 96, 97, 98, 99] (by kernel_rfl) (by kernel_rfl) rfl (by kernel_rfl) (by kernel_rfl) ?arms ?he
      case arms =>
        obtain ⟨i0, hi0, hz0, hz1, hz2⟩ := info_parts I.info_int
        exact ⟨
          ⟨.inl rfl, fun q W hb hkp hw => goes_move (hkp 9 (by decide)) rfl⟩,
          ⟨.inl rfl, fun q W hb hkp hw => goes_val (run_notV (hw 0 48 (by kernel_rfl))) rfl⟩,
          ⟨.inl rfl, fun q W hb hkp hw => goes_move rfl (hw 1 49 (by kernel_rfl))⟩,
          ⟨.inr ⟨2, 50, false, rfl, by kernel_rfl, fun _ _ h => h⟩, fun q W hb hkp hw => goes_move (hkp 11 (by decide)) rfl⟩,
          ⟨.inr ⟨2, 50, false, rfl, by kernel_rfl, fun _ _ h => h⟩, fun q W hb hkp hw => goes_val (run_notV (hw 3 51 (by kernel_rfl))) rfl⟩,
          ⟨.inl rfl, fun q W hb hkp hw => goes_val (run_pick (hw 2 50 (by kernel_rfl)) (show _ = .bool false from hw 4 52 (by kernel_rfl))) rfl⟩,
          ⟨.inl rfl, fun q W hb hkp hw => goes_move rfl (hw 5 53 (by kernel_rfl))⟩,
          ⟨.inr ⟨6, 54, false, rfl, by kernel_rfl, fun _ _ h => h⟩, fun q W hb hkp hw => goes_move (hkp 13 (by decide)) rfl⟩,
          ⟨.inl rfl, fun q W hb hkp hw => goes_val (run_pick (hw 6 54 (by kernel_rfl)) (show _ = .bool false from hw 7 55 (by kernel_rfl))) rfl⟩,
          ⟨.inl rfl, fun q W hb hkp hw => goes_move rfl (hw 8 56 (by kernel_rfl))⟩,
          ⟨.inr ⟨9, 57, false, rfl, by kernel_rfl, fun _ _ h => h⟩, fun q W hb hkp hw => goes_fad (hkp 10 (by decide)) (show (Instr.fieldAt _ _ _).run _ W = .ok (.pointer (some ⟨w6.heap.size, 1, none⟩)) W by clear hkp hw hb; go_simp) rfl⟩,
          ⟨.inr ⟨9, 57, false, rfl, by kernel_rfl, fun _ _ h => h⟩, fun q W hb hkp hw => goes_load (v1 := .pointer (some ⟨w6.heap.size, 1, none⟩)) (hw 10 58 (by kernel_rfl)) (show (Instr.loadAt _ _).run _ W = .ok (.slice m6.a1 m6.n1 m6.k1) W by have hc := ((FX.out W hb).1).c1; clear hkp hw hb; go_simp) rfl⟩,
          ⟨.inr ⟨9, 57, false, rfl, by kernel_rfl, fun _ _ h => h⟩, fun q W hb hkp hw => goes_val (run_lenI (hw 11 59 (by kernel_rfl))) rfl⟩,
          ⟨.inr ⟨9, 57, false, rfl, by kernel_rfl, fun _ _ h => h⟩, fun q W hb hkp hw => goes_val (run_gt0 (hw 12 60 (by kernel_rfl)) rfl HQ.out.1) rfl⟩,
          ⟨.inl rfl, fun q W hb hkp hw => goes_val (run_pick (hw 9 57 (by kernel_rfl)) (show _ = .bool false from hw 13 61 (by kernel_rfl))) rfl⟩,
          ⟨.inl rfl, fun q W hb hkp hw => goes_move rfl (hw 14 62 (by kernel_rfl))⟩,
          ⟨.inr ⟨15, 63, false, rfl, by kernel_rfl, fun _ _ h => h⟩, fun q W hb hkp hw => goes_fad (hkp 10 (by decide)) (show (Instr.fieldAt _ _ _).run _ W = .ok (.pointer (some ⟨w6.heap.size, 2, none⟩)) W by clear hkp hw hb; go_simp) rfl⟩,
          ⟨.inr ⟨15, 63, false, rfl, by kernel_rfl, fun _ _ h => h⟩, fun q W hb hkp hw => goes_load (v1 := .pointer (some ⟨w6.heap.size, 2, none⟩)) (hw 16 64 (by kernel_rfl)) (show (Instr.loadAt _ _).run _ W = .ok (.slice m6.a2 m6.n2 m6.k2) W by have hc := ((FX.out W hb).1).c2; clear hkp hw hb; go_simp) rfl⟩,
          ⟨.inr ⟨15, 63, false, rfl, by kernel_rfl, fun _ _ h => h⟩, fun q W hb hkp hw => goes_val (run_lenI (hw 17 65 (by kernel_rfl))) rfl⟩,
          ⟨.inr ⟨15, 63, false, rfl, by kernel_rfl, fun _ _ h => h⟩, fun q W hb hkp hw => goes_val (run_gt0 (hw 18 66 (by kernel_rfl)) rfl HQ.out.2.1) rfl⟩,
          ⟨.inl rfl, fun q W hb hkp hw => goes_val (run_pick (hw 15 63 (by kernel_rfl)) (show _ = .bool false from hw 19 67 (by kernel_rfl))) rfl⟩,
          ⟨.inl rfl, fun q W hb hkp hw => goes_move rfl (hw 20 68 (by kernel_rfl))⟩,
          ⟨.inr ⟨21, 69, false, rfl, by kernel_rfl, fun _ _ h => h⟩, fun q W hb hkp hw => goes_fad (hkp 10 (by decide)) (show (Instr.fieldAt _ _ _).run _ W = .ok (.pointer (some ⟨w6.heap.size, 0, none⟩)) W by clear hkp hw hb; go_simp) rfl⟩,
          ⟨.inr ⟨21, 69, false, rfl, by kernel_rfl, fun _ _ h => h⟩, fun q W hb hkp hw => goes_load (v1 := .pointer (some ⟨w6.heap.size, 0, none⟩)) (hw 22 70 (by kernel_rfl)) (show (Instr.loadAt _ _).run _ W = .ok (.slice m6.a0 m6.n0 m6.k0) W by have hc := ((FX.out W hb).1).c0; clear hkp hw hb; go_simp) rfl⟩,
          ⟨.inr ⟨21, 69, false, rfl, by kernel_rfl, fun _ _ h => h⟩, fun q W hb hkp hw => goes_val (run_lenI (hw 23 71 (by kernel_rfl))) rfl⟩,
          ⟨.inr ⟨21, 69, false, rfl, by kernel_rfl, fun _ _ h => h⟩, fun q W hb hkp hw => goes_fad (hkp 2 (by decide)) (show (Instr.fieldAt _ _ _).run _ W = .ok (.pointer (some ⟨w.heap.size, 0, none⟩)) W by clear hkp hw hb; go_simp) rfl⟩,
          ⟨.inr ⟨21, 69, false, rfl, by kernel_rfl, fun _ _ h => h⟩, fun q W hb hkp hw => goes_load (v1 := .pointer (some ⟨w.heap.size, 0, none⟩)) (hw 25 73 (by kernel_rfl)) (show (Instr.loadAt _ _).run _ W = .ok (.slice m.a0 m.n0 m.k0) W by have hc := ((FX.out W hb).2).c0; clear hkp hw hb; go_simp) rfl⟩,
          ⟨.inr ⟨21, 69, false, rfl, by kernel_rfl, fun _ _ h => h⟩, fun q W hb hkp hw => goes_val (run_lenI (hw 26 74 (by kernel_rfl))) rfl⟩,
          ⟨.inr ⟨21, 69, false, rfl, by kernel_rfl, fun _ _ h => h⟩, fun q W hb hkp hw => goes_val (run_add1 (hw 27 75 (by kernel_rfl)) rfl HQ.out.2.2.1) rfl⟩,
          ⟨.inr ⟨21, 69, false, rfl, by kernel_rfl, fun _ _ h => h⟩, fun q W hb hkp hw => goes_val (run_neF (hw 24 72 (by kernel_rfl)) (hw 28 76 (by kernel_rfl)) HQ.out.2.2.2.1) rfl⟩,
          ⟨.inl rfl, fun q W hb hkp hw => goes_val (run_pick (hw 21 69 (by kernel_rfl)) (show _ = .bool false from hw 29 77 (by kernel_rfl))) rfl⟩,
          ⟨.inl rfl, fun q W hb hkp hw => goes_move rfl (hw 30 78 (by kernel_rfl))⟩,
          ⟨.inr ⟨31, 79, false, rfl, by kernel_rfl, fun _ _ h => h⟩, fun q W hb hkp hw => goes_fad (hkp 10 (by decide)) (show (Instr.fieldAt _ _ _).run _ W = .ok (.pointer (some ⟨w6.heap.size, 0, none⟩)) W by clear hkp hw hb; go_simp) rfl⟩,
          ⟨.inr ⟨31, 79, false, rfl, by kernel_rfl, fun _ _ h => h⟩, fun q W hb hkp hw => goes_load (v1 := .pointer (some ⟨w6.heap.size, 0, none⟩)) (hw 32 80 (by kernel_rfl)) (show (Instr.loadAt _ _).run _ W = .ok (.slice m6.a0 m6.n0 m6.k0) W by have hc := ((FX.out W hb).1).c0; clear hkp hw hb; go_simp) rfl⟩,
          ⟨.inr ⟨31, 79, false, rfl, by kernel_rfl, fun _ _ h => h⟩, fun q W hb hkp hw => goes_move (hkp 1 (by decide)) rfl⟩,
          ⟨.inr ⟨31, 79, false, rfl, by kernel_rfl, fun _ _ h => h⟩, fun q W hb hkp hw => by (have e3 : q.eval (.tmp 82) = .int .i64 n := hw 34 82 (by kernel_rfl); exact goes_slice #[.int .i64 n] 1 hz1 Tryz.underlying22 hi0 hz0 (by decide) (by decide) [(0, .int .i64 n)] (by simp [e3]) (by kernel_rfl) ⟨W.heap.size, Nat.zero_le _, rfl, heap_alloc_new _ _⟩)⟩,
          ⟨.inr ⟨31, 79, false, rfl, by kernel_rfl, fun _ _ h => h⟩, fun q W hb hkp hw => by (obtain ⟨b3, _, e3, h3⟩ := hw 35 83 (by kernel_rfl); exact goes_call2 (hw 33 81 (by kernel_rfl)) e3 (by go_simp) ((CB1.out W hb b3 h3).mono (by rintro e w' ⟨A2, c2, z, rfl, hz, ho, hb'⟩; exact ⟨_, rfl, ⟨A2, z, c2, rfl, hz, ho.reads⟩, hb'⟩)))⟩,
          ⟨.inr ⟨31, 79, false, rfl, by kernel_rfl, fun _ _ h => h⟩, fun q W hb hkp hw => by (obtain ⟨A3, z3, c3, e3, hz3, hi3⟩ := hw 36 84 (by kernel_rfl); exact goes_val (run_lenI e3) ⟨z3, rfl, hz3⟩)⟩,
          ⟨.inr ⟨31, 79, false, rfl, by kernel_rfl, fun _ _ h => h⟩, fun q W hb hkp hw => by (obtain ⟨z3, e3, hz3⟩ := hw 37 85 (by kernel_rfl); exact goes_val (run_neF e3 (show _ = Value.int .i64 1 from rfl) (HQ.out.2.2.2.2.1 z3 hz3)) rfl)⟩,
          ⟨.inl rfl, fun q W hb hkp hw => goes_val (run_pick (hw 31 79 (by kernel_rfl)) (show _ = .bool false from hw 38 86 (by kernel_rfl))) rfl⟩,
          ⟨.inl rfl, fun q W hb hkp hw => goes_move rfl (hw 39 87 (by kernel_rfl))⟩,
          ⟨.inr ⟨40, 88, false, rfl, by kernel_rfl, fun _ _ h => h⟩, fun q W hb hkp hw => goes_fad (hkp 10 (by decide)) (show (Instr.fieldAt _ _ _).run _ W = .ok (.pointer (some ⟨w6.heap.size, 0, none⟩)) W by clear hkp hw hb; go_simp) rfl⟩,
          ⟨.inr ⟨40, 88, false, rfl, by kernel_rfl, fun _ _ h => h⟩, fun q W hb hkp hw => goes_load (v1 := .pointer (some ⟨w6.heap.size, 0, none⟩)) (hw 41 89 (by kernel_rfl)) (show (Instr.loadAt _ _).run _ W = .ok (.slice m6.a0 m6.n0 m6.k0) W by have hc := ((FX.out W hb).1).c0; clear hkp hw hb; go_simp) rfl⟩,
          ⟨.inr ⟨40, 88, false, rfl, by kernel_rfl, fun _ _ h => h⟩, fun q W hb hkp hw => goes_fad (hkp 2 (by decide)) (show (Instr.fieldAt _ _ _).run _ W = .ok (.pointer (some ⟨w.heap.size, 0, none⟩)) W by clear hkp hw hb; go_simp) rfl⟩,
          ⟨.inr ⟨40, 88, false, rfl, by kernel_rfl, fun _ _ h => h⟩, fun q W hb hkp hw => goes_load (v1 := .pointer (some ⟨w.heap.size, 0, none⟩)) (hw 43 91 (by kernel_rfl)) (show (Instr.loadAt _ _).run _ W = .ok (.slice m.a0 m.n0 m.k0) W by have hc := ((FX.out W hb).2).c0; clear hkp hw hb; go_simp) rfl⟩,
          ⟨.inr ⟨40, 88, false, rfl, by kernel_rfl, fun _ _ h => h⟩, fun q W hb hkp hw => goes_call2 (hw 42 90 (by kernel_rfl)) (hw 44 92 (by kernel_rfl)) (by go_simp) ((CB2.out W hb).mono (by rintro e w' ⟨A2, c2, z, rfl, hz, ho, hb'⟩; exact ⟨_, rfl, ⟨A2, z, c2, rfl, hz, ho.reads⟩, hb'⟩))⟩,
          ⟨.inr ⟨40, 88, false, rfl, by kernel_rfl, fun _ _ h => h⟩, fun q W hb hkp hw => by (obtain ⟨A3, z3, c3, e3, hz3, hi3⟩ := hw 45 93 (by kernel_rfl); exact goes_val (run_lenI e3) ⟨z3, rfl, hz3⟩)⟩,
          ⟨.inr ⟨40, 88, false, rfl, by kernel_rfl, fun _ _ h => h⟩, fun q W hb hkp hw => goes_fad (hkp 2 (by decide)) (show (Instr.fieldAt _ _ _).run _ W = .ok (.pointer (some ⟨w.heap.size, 0, none⟩)) W by clear hkp hw hb; go_simp) rfl⟩,
          ⟨.inr ⟨40, 88, false, rfl, by kernel_rfl, fun _ _ h => h⟩, fun q W hb hkp hw => goes_load (v1 := .pointer (some ⟨w.heap.size, 0, none⟩)) (hw 47 95 (by kernel_rfl)) (show (Instr.loadAt _ _).run _ W = .ok (.slice m.a0 m.n0 m.k0) W by have hc := ((FX.out W hb).2).c0; clear hkp hw hb; go_simp) rfl⟩,
          ⟨.inr ⟨40, 88, false, rfl, by kernel_rfl, fun _ _ h => h⟩, fun q W hb hkp hw => goes_val (run_lenI (hw 48 96 (by kernel_rfl))) rfl⟩,
          ⟨.inr ⟨40, 88, false, rfl, by kernel_rfl, fun _ _ h => h⟩, fun q W hb hkp hw => by (obtain ⟨z3, e3, hz3⟩ := hw 46 94 (by kernel_rfl); exact goes_val (run_neF e3 (hw 49 97 (by kernel_rfl)) (HQ.out.2.2.2.2.2 z3 hz3)) rfl)⟩,
          ⟨.inl rfl, fun q W hb hkp hw => goes_val (run_pick (hw 40 88 (by kernel_rfl)) (show _ = .bool false from hw 50 98 (by kernel_rfl))) rfl⟩, trivial⟩
      case he =>
        intro u wq hH hq
        have eF : u 99 = .bool false := hH 51 99 (by decide) (by kernel_rfl)
        have G9 := hid hq
        exact h2 _ _ (Met.intro (h1 _ _ ⟨u 48, u 49, u 50, u 51, u 52, u 53, u 54, u 55, u 56, u 57, u 58, u 59, u 60, u 61, u 62, u 63, u 64, u 65, u 66, u 67, u 68, u 69, u 70, u 71, u 72, u 73, u 74, u 75, u 76, u 77, u 78, u 79, u 80, u 81, u 82, u 83, u 84, u 85, u 86, u 87, u 88, u 89, u 90, u 91, u 92, u 93, u 94, u 95, u 96, u 97, u 98, u 99, ⟨eF, G9⟩, by kernel_rfl⟩))
    case rest =>
      obtain ⟨rfl, G9⟩ := hcut
      rename_i w9
      have hq10 := HK6.out _ (HV.out _ G9.out).1
      have hl10 := hq10.1.ld
      have hn10 := drop_any w6.heap.size ⟨U, [], []⟩ HSD.out m6 n hn _ hq10.2.1 (by have := hq10.2.2.1; omega)
      rw [HCM.out.f] at hn10
      have HN10 := hid hn10
      clear hq10 hn10 FX CB1 CB2
      go_wp2_with fail
      refine HN10.out.mono ?_
      rintro e w10 ⟨m10, rfl, ho10, hb10⟩
      obtain ⟨v10, hv10⟩ : ∃ v10, v10 = w10.alloc (.cells #[.slice m10.a0 m10.n0 m10.k0, .slice m10.a1 m10.n1 m10.k1, .slice m10.a2 m10.n2 m10.k2] 24) := ⟨_, rfl⟩
      have hst10 := (box_new hv10).2.2.2
      have HK10 : Hid (∀ W, Below v10.heap.size v10 W → Bx W w10.heap.size 24 m10 ∧ InC W w10.heap.size ⟨U, c.old, []⟩ m10 ∧ w10.heap.size + 1 ≤ W.heap.size ∧ Below v7.heap.size v7 W) := hid (fun W hb => by
        have q := box_keep ho10 hv10 W hb
        exact ⟨q.1, q.2.1.inC, q.2.2.2, G9.out.trans ((hb10.trans (q.2.2.1.mono hb10.size)).mono G9.out.size)⟩)
      clear ho10 hb10 hv10 hl10 HN10
      have hq11 := HK10.out v10 (Below.refl _ _)
      have hl11 := hq11.1.ld
      have hn11 := next_any w10.heap.size 0 ⟨U, c.old, []⟩ HSE.out m10 none 0 0 [] rfl (by decide) v10 hq11.2.1 IsInts.nil (by have := hq11.2.2.1; omega) (Nat.zero_le _)
      rw [HCM.out.h []] at hn11
      have HN11 := hid hn11
      clear hq11 hn11
      go_wp2_with fail
      refine HN11.out.mono ?_
      rintro e w11 ⟨m11, rfl, ho11, hb11⟩
      obtain ⟨v11, hv11⟩ : ∃ v11, v11 = w11.alloc (.cells #[.slice m11.a0 m11.n0 m11.k0, .slice m11.a1 m11.n1 m11.k1, .slice m11.a2 m11.n2 m11.k2] 24) := ⟨_, rfl⟩
      have hst11 := (box_new hv11).2.2.2
      have HK11 : Hid (∀ W, Below v11.heap.size v11 W → Bx W w11.heap.size 24 m11 ∧ InC W w11.heap.size c m11 ∧ w11.heap.size + 1 ≤ W.heap.size ∧ Below v10.heap.size v10 W) := hid (fun W hb => by
        have q := box_keep ho11 hv11 W hb
        exact ⟨q.1, q.2.1.inC, q.2.2.2, hb11.trans (q.2.2.1.mono hb11.size)⟩)
      clear ho11 hb11 hv11 hl11 HN11
      have hq12 := HK11.out v11 (Below.refl _ _)
      have hqm := HK4.out v11 (HV.out v11 (HK10.out v11 hq12.2.2.2).2.2.2).2
      have hl12 := hq12.1.ld
      have hlm := hqm.2.2.2.1.ld
      have HN12 := hid (sameConf_M w11.heap.size B c HS.out m11 m v11 hq12.2.1 hqm.2.2.2.2.1 (by have := hq12.2.2.1; omega) hqm.2.2.2.2.2.2.2.1)
      clear hq12 hqm hst10
      go_wp2_with fail
      refine HN12.out.mono ?_
      rintro e w12 ⟨rfl, hb12⟩
      have HB12 := hid (HV.out w12 (HK10.out w12 (HK11.out w12 hb12).2.2.2).2.2.2).2
      clear hb12 hl12 hlm HN12 hst11
      have hr0 := HK4.out w12 HB12.out
      have hldm := hr0.2.2.2.1.ld
      have HDD := hid (HD.out w12 hr0.2.2.2.2.1 hr0.2.2.2.2.2.2.2.1)
      have HR0 := hid (And.intro hr0.1 (And.intro hr0.2.2.2.1 hr0.2.2.2.2.2.2.1))
      clear hr0
      go_wp2_with fail
      refine HDD.out.mono ?_
      rintro e w20 ⟨mr, rfl, hor, hb20⟩
      have hbx := HR0.out.1.below hb20 HR0.out.1.lt
      obtain ⟨w21, hw21⟩ : ∃ w21, w21 = w20.setRow w4.heap.size #[.slice mr.a0 mr.n0 mr.k0, .slice mr.a1 mr.n1 mr.k1, .slice mr.a2 mr.n2 mr.k2] := ⟨_, rfl⟩
      have hst20 : (Im.stX 24 (.pointer (some ⟨w4.heap.size, 0, none⟩)) (.agg #[.slice mr.a0 mr.n0 mr.k0, .slice mr.a1 mr.n1 mr.k1, .slice mr.a2 mr.n2 mr.k2])).run Tryz.prog w20 = .ok () w21 := by rw [hw21]; exact hbx.st (m' := mr)
      have ht21 : Turned (fun k => k = w4.heap.size) w20 w21 := by rw [hw21]; exact Bx.tur w20 _ mr
      have hl20 := HR0.out.2.2.trans (hb20.mono HR0.out.2.2.size)
      have HLW := hid (hl20.trans (ht21.below hl20.size (fun k hk => by rw [hk]; exact Nat.le_of_lt HLO4.out.1)))
      clear hbx hw21 ht21 hl20 hor hb20
      go_wp2_with fail
      refine (works_any w21).mono ?_
      rintro e wz ⟨rfl, hbz⟩
      have HBZ := hid (HLW.out.trans (hbz.mono HLW.out.size))
      clear hbz
      go_wp2_with fail
      go_ret
      exact ⟨rfl, HBZ.out⟩
  · obtain ⟨ra, hra⟩ : ∃ ra, ra = add c n := ⟨_, rfl⟩
    rw [← hra] at HA hA
    obtain ⟨xa, ea⟩ := ra
    have hza : (ea == 0) = false := by rw [beq_eq_false_iff_ne]; exact hA
    clear hA hra
    by_cases hD : (drop c n).2 = 0
    · have HG1 := hid (goes1 hD)
      have y1 := (drop_yes hD).1
      rw [hD, y1] at HD
      obtain ⟨F, hF⟩ : ∃ F, F = c.old.filter (fun x => decide (x ≠ n)) := ⟨_, rfl⟩
      rw [← hF] at HG1 HD
      have HSF : Hid (Short ⟨c.old, F, []⟩) := hid ⟨HS.out.1, by show F.length ≤ 20000; have := HG1.out.len; have := HL.out.1; omega, by simp⟩
      clear hD y1 hF
      go_enter Tryz.func7, Tryz.ntmps7
      go_wp2_with fail
      rw [← hw1]
      clear hw1 hld
      refine HG.out.mono ?_
      rintro e w2 ⟨rfl, hb2⟩
      obtain ⟨w3, hw3⟩ : ∃ w3, w3 = w2.alloc (.cells #[.int .i64 1, .int .i64 2, .int .i64 3, .int .i64 4, .int .i64 5, .int .i64 6, .int .i64 7] 3) := ⟨_, rfl⟩
      have hb3 : Below w2.heap.size w2 w3 := by rw [hw3]; exact below_new _ _
      have hal : IsInts w3 (w2.heap.size + 1) (some ⟨w2.heap.size, 0, none⟩) all7 := by rw [hw3]; exact lit_in w2 all7 (by decide) (by decide)
      have hs3 : w3.heap.size = w2.heap.size + 1 := by rw [hw3]; simp
      have hb13 := hb2.trans (hb3.mono hb2.size)
      have hld3 := (HK1.out w3 hb13).1.ld
      rw [hw3] at hld3
      have HADD := hid (HA.out w3 hb13)
      have HW3 := hid hw3
      have HL3 := hid (And.intro hal (And.intro hs3 hb13))
      clear hb2 hb3 hw3 hal hs3 hb13 HG HA
      go_wp2_with fail
      rw [← HW3.out]
      refine HADD.out.mono ?_
      rintro e w4 ⟨ma, rfl, hoa, hb4⟩
      obtain ⟨v4, hv4⟩ : ∃ v4, v4 = w4.alloc (.cells #[.slice ma.a0 ma.n0 ma.k0, .slice ma.a1 ma.n1 ma.k1, .slice ma.a2 ma.n2 ma.k2] 24) := ⟨_, rfl⟩
      have hst4 := (box_new hv4).2.2.2
      have HK4 : Hid (∀ W, Below v4.heap.size v4 W → Bx W w4.heap.size 24 ma ∧ InC W w4.heap.size xa ma ∧ w4.heap.size + 1 ≤ W.heap.size ∧ Bx W w.heap.size 24 m ∧ InC W B c m ∧ IsInts W (w2.heap.size + 1) (some ⟨w2.heap.size, 0, none⟩) all7 ∧ Below w.heap.size w W ∧ B ≤ W.heap.size ∧ w2.heap.size + 1 ≤ W.heap.size) := hid (fun W hb => by
        have q := box_keep hoa hv4 W hb
        have q3 := hb4.trans (q.2.2.1.mono hb4.size)
        have q1 := HK1.out W (HL3.out.2.2.trans (q3.mono HL3.out.2.2.size))
        exact ⟨q.1, q.2.1.inC, q.2.2.2, q1.1, q1.2.1, HL3.out.1.below (q3.mono (by have := HL3.out.2.1; omega)), q1.2.2.1, q1.2.2.2, by have := HL3.out.2.1; have := q3.size; omega⟩)
      have HLO4 : Hid (w.heap.size < w4.heap.size ∧ w4.heap.size < v4.heap.size) := hid ⟨by have := (HK1.out w3 HL3.out.2.2).1.lt; have := hb4.size; omega, (HK4.out v4 (Below.refl _ _)).1.lt⟩
      clear hoa hb4 hv4 hld3 HADD
      have hr0 := HK4.out v4 (Below.refl _ _)
      have hldm := hr0.2.2.2.1.ld
      have HDD := hid (HD.out v4 hr0.2.2.2.2.1 hr0.2.2.2.2.2.2.2.1)
      have HR0 := hid (And.intro hr0.1 (And.intro hr0.2.2.2.1 hr0.2.2.2.2.2.2.1))
      clear hr0
      go_wp2_with fail
      refine HDD.out.mono ?_
      rintro e w20 ⟨mr, rfl, hor, hb20⟩
      have hbx := HR0.out.1.below hb20 HR0.out.1.lt
      obtain ⟨w21, hw21⟩ : ∃ w21, w21 = w20.setRow w4.heap.size #[.slice mr.a0 mr.n0 mr.k0, .slice mr.a1 mr.n1 mr.k1, .slice mr.a2 mr.n2 mr.k2] := ⟨_, rfl⟩
      have hst20 : (Im.stX 24 (.pointer (some ⟨w4.heap.size, 0, none⟩)) (.agg #[.slice mr.a0 mr.n0 mr.k0, .slice mr.a1 mr.n1 mr.k1, .slice mr.a2 mr.n2 mr.k2])).run Tryz.prog w20 = .ok () w21 := by rw [hw21]; exact hbx.st (m' := mr)
      have ht21 : Turned (fun k => k = w4.heap.size) w20 w21 := by rw [hw21]; exact Bx.tur w20 _ mr
      have hl20 := HR0.out.2.2.trans (hb20.mono HR0.out.2.2.size)
      have HLW := hid (hl20.trans (ht21.below hl20.size (fun k hk => by rw [hk]; exact Nat.le_of_lt HLO4.out.1)))
      have hx21 : Bx w21 w4.heap.size 24 mr := by rw [hw21]; exact hbx.set mr
      have hm21 := (HR0.out.2.1.below hb20 HR0.out.2.1.lt).turned ht21 (fun e => by have := HLO4.out.1; omega)
      have hor21 := hor.turned ht21 (fun k hk => by have := HR0.out.1.lt; omega)
      have hsz21 := ht21.size
      have hl21 := hx21.ld
      have hn22 := next_any w20.heap.size 0 ⟨c.old, F, []⟩ HSF.out mr none 0 0 [] rfl (by decide) w21 hor21.inC IsInts.nil hsz21 (Nat.zero_le _)
      rw [HG1.out.d []] at hn22
      have HN22 := hid hn22
      have HM21 := hid hm21
      clear hbx hw21 ht21 hl20 hor hb20 hm21 hor21 hsz21 hx21 hn22
      go_wp2_with fail
      refine HN22.out.mono ?_
      rintro e w22 ⟨m22, rfl, ho22, hb22⟩
      obtain ⟨v22, hv22⟩ : ∃ v22, v22 = w22.alloc (.cells #[.slice m22.a0 m22.n0 m22.k0, .slice m22.a1 m22.n1 m22.k1, .slice m22.a2 m22.n2 m22.k2] 24) := ⟨_, rfl⟩
      have hst22 := (box_new hv22).2.2.2
      have HK22 : Hid (∀ W, Below v22.heap.size v22 W → Bx W w22.heap.size 24 m22 ∧ InC W w22.heap.size ⟨F, [], []⟩ m22 ∧ w22.heap.size + 1 ≤ W.heap.size ∧ Bx W w.heap.size 24 m ∧ Below w.heap.size w W) := hid (fun W hb => by
        have q := box_keep ho22 hv22 W hb
        have q2 := hb22.trans (q.2.2.1.mono hb22.size)
        exact ⟨q.1, q.2.1.inC, q.2.2.2, HM21.out.below q2 HM21.out.lt, HLW.out.trans (q2.mono HLW.out.size)⟩)
      have hq22 := (HK22.out v22 (Below.refl _ _)).2.1
      have e0 : m22.n0 = F.length := hq22.e0
      have e1 : m22.n1 = 0 := hq22.e1
      have e2 : m22.n2 = 0 := hq22.e2
      have HQ : Hid (m22.n1 = 0 ∧ m22.n2 = 0 ∧ (1 ≤ m.n0 ∧ m.n0 ≤ 1000) ∧ ((m22.n0 : Nat) : Int) = ((m.n0 - 1 : Nat) : Int) ∧ (∀ z : Nat, z = (both F [n]).length → (z : Int) = 0) ∧ (∀ z : Nat, z = (both F c.old).length → (z : Int) = ((m22.n0 : Nat) : Int))) := hid ⟨e1, e2, ⟨by have := HG1.out.len; have := HL.out.1; omega, by omega⟩, by have := HG1.out.len; have := HL.out.1; omega, fun z hz => by rw [hz, HG1.out.one]; rfl, fun z hz => by rw [hz, HG1.out.all, e0]⟩
      have HF0 : Hid (m22.n0 ≤ 1000) := hid (by have := HG1.out.len; have := HL.out.1; omega)
      have FX : Hid (∀ W, Below v22.heap.size v22 W → Bx W w22.heap.size 24 m22 ∧ Bx W w.heap.size 24 m) := hid (fun W hb => ⟨(HK22.out W hb).1, (HK22.out W hb).2.2.2.1⟩)
      have CB1 : Hid (∀ W, Below v22.heap.size v22 W → ∀ b3, W.heap[b3]? = some (.cells #[.int .i64 n] 3 (0, 0)) → Calls Tryz.prog 25 #[.slice m22.a0 m22.n0 m22.k0, .slice (some ⟨b3, 0, none⟩) 1 1] W fun e w' => ∃ A2 c2 q, e = .returned (.slice A2 q c2) ∧ q = (both F [n]).length ∧ OwnsI 3 w' W.heap.size A2 c2 (both F [n]) ∧ Below W.heap.size W w') := hid (fun W hb b3 h3 => by
        obtain ⟨i1, i2⟩ := (show InC W w22.heap.size ⟨F, [], []⟩ m22 ∧ w22.heap.size ≤ W.heap.size from ⟨(HK22.out W hb).2.1, by have := (HK22.out W hb).2.2.1; omega⟩)
        exact bothL_any _ W.heap.size m22.a0 (some ⟨b3, 0, none⟩) m22.k0 1 m22.n0 1 F [n] i1.e0 rfl (by have := HF0.out; omega) (by have := HF0.out; omega) (by omega) W i1.o (row_one h3 hn) i2 (Nat.le_refl _))
      have CB2 : Hid (∀ W, Below v22.heap.size v22 W → Calls Tryz.prog 25 #[.slice m22.a0 m22.n0 m22.k0, .slice m.a0 m.n0 m.k0] W fun e w' => ∃ A2 c2 q, e = .returned (.slice A2 q c2) ∧ q = (both F c.old).length ∧ OwnsI 3 w' W.heap.size A2 c2 (both F c.old) ∧ Below W.heap.size W w') := hid (fun W hb => by
        obtain ⟨i1, i2⟩ := (show InC W w22.heap.size ⟨F, [], []⟩ m22 ∧ w22.heap.size ≤ W.heap.size from ⟨(HK22.out W hb).2.1, by have := (HK22.out W hb).2.2.1; omega⟩)
        obtain ⟨j1, j2⟩ := HKM.out W (HK22.out W hb).2.2.2.2
        exact bothL_any _ B m22.a0 m.a0 m22.k0 m.k0 m22.n0 m.n0 F c.old i1.e0 HL.out.1 (by have := Nat.mul_le_mul (show m22.n0 ≤ 1000 by have := HF0.out; omega) (show m.n0 ≤ 300 from hn0); omega) (by have := HF0.out; omega) (by omega) W i1.o j1.o i2 j2)
      clear ho22 hb22 hv22 hq22 e0 e1 e2 HN22 hl21
      go_wp2_with fail
      go_cut [180] from 136 to 180 (fun s W => s = .bool false ∧ Hid (Below v22.heap.size v22 W))
      case first =>
        rename_i J9 K9 h1 h2
        refine wp_region_all (w0 := v22) 45 (H18 w22.heap.size w.heap.size m22 m n F c) [136, 137, 138, 139, 140, 141, 142, 143, 144, 145, 146, 147, 148, 149, 150, 151, 152, 153, 154, 155, 156, 157, 158, 159, 160, 161, 162, 163, 164, 165, 166, 167, 168, 169, 170, 171, 172, 173, 174, 175, 176, 177, 178, 179, 180] (by kernel_rfl) (by kernel_rfl) rfl (by kernel_rfl) (by kernel_rfl) ?arms ?he
        case arms =>
          obtain ⟨i0, hi0, hz0, hz1, hz2⟩ := info_parts I.info_int
          exact ⟨
            ⟨.inl rfl, fun q W hb hkp hw => goes_move (hkp 18 (by decide)) rfl⟩,
            ⟨.inl rfl, fun q W hb hkp hw => goes_val (run_notV (hw 0 136 (by kernel_rfl))) rfl⟩,
            ⟨.inl rfl, fun q W hb hkp hw => goes_move rfl (hw 1 137 (by kernel_rfl))⟩,
            ⟨.inr ⟨2, 138, false, rfl, by kernel_rfl, fun _ _ h => h⟩, fun q W hb hkp hw => goes_fad (hkp 17 (by decide)) (show (Instr.fieldAt _ _ _).run _ W = .ok (.pointer (some ⟨w22.heap.size, 1, none⟩)) W by clear hkp hw hb; go_simp) rfl⟩,
            ⟨.inr ⟨2, 138, false, rfl, by kernel_rfl, fun _ _ h => h⟩, fun q W hb hkp hw => goes_load (v1 := .pointer (some ⟨w22.heap.size, 1, none⟩)) (hw 3 139 (by kernel_rfl)) (show (Instr.loadAt _ _).run _ W = .ok (.slice m22.a1 m22.n1 m22.k1) W by have hc := ((FX.out W hb).1).c1; clear hkp hw hb; go_simp) rfl⟩,
            ⟨.inr ⟨2, 138, false, rfl, by kernel_rfl, fun _ _ h => h⟩, fun q W hb hkp hw => goes_val (run_lenI (hw 4 140 (by kernel_rfl))) rfl⟩,
            ⟨.inr ⟨2, 138, false, rfl, by kernel_rfl, fun _ _ h => h⟩, fun q W hb hkp hw => goes_val (run_gt0 (hw 5 141 (by kernel_rfl)) rfl HQ.out.1) rfl⟩,
            ⟨.inl rfl, fun q W hb hkp hw => goes_val (run_pick (hw 2 138 (by kernel_rfl)) (show _ = .bool false from hw 6 142 (by kernel_rfl))) rfl⟩,
            ⟨.inl rfl, fun q W hb hkp hw => goes_move rfl (hw 7 143 (by kernel_rfl))⟩,
            ⟨.inr ⟨8, 144, false, rfl, by kernel_rfl, fun _ _ h => h⟩, fun q W hb hkp hw => goes_fad (hkp 17 (by decide)) (show (Instr.fieldAt _ _ _).run _ W = .ok (.pointer (some ⟨w22.heap.size, 2, none⟩)) W by clear hkp hw hb; go_simp) rfl⟩,
            ⟨.inr ⟨8, 144, false, rfl, by kernel_rfl, fun _ _ h => h⟩, fun q W hb hkp hw => goes_load (v1 := .pointer (some ⟨w22.heap.size, 2, none⟩)) (hw 9 145 (by kernel_rfl)) (show (Instr.loadAt _ _).run _ W = .ok (.slice m22.a2 m22.n2 m22.k2) W by have hc := ((FX.out W hb).1).c2; clear hkp hw hb; go_simp) rfl⟩,
            ⟨.inr ⟨8, 144, false, rfl, by kernel_rfl, fun _ _ h => h⟩, fun q W hb hkp hw => goes_val (run_lenI (hw 10 146 (by kernel_rfl))) rfl⟩,
            ⟨.inr ⟨8, 144, false, rfl, by kernel_rfl, fun _ _ h => h⟩, fun q W hb hkp hw => goes_val (run_gt0 (hw 11 147 (by kernel_rfl)) rfl HQ.out.2.1) rfl⟩,
            ⟨.inl rfl, fun q W hb hkp hw => goes_val (run_pick (hw 8 144 (by kernel_rfl)) (show _ = .bool false from hw 12 148 (by kernel_rfl))) rfl⟩,
            ⟨.inl rfl, fun q W hb hkp hw => goes_move rfl (hw 13 149 (by kernel_rfl))⟩,
            ⟨.inr ⟨14, 150, false, rfl, by kernel_rfl, fun _ _ h => h⟩, fun q W hb hkp hw => goes_fad (hkp 17 (by decide)) (show (Instr.fieldAt _ _ _).run _ W = .ok (.pointer (some ⟨w22.heap.size, 0, none⟩)) W by clear hkp hw hb; go_simp) rfl⟩,
            ⟨.inr ⟨14, 150, false, rfl, by kernel_rfl, fun _ _ h => h⟩, fun q W hb hkp hw => goes_load (v1 := .pointer (some ⟨w22.heap.size, 0, none⟩)) (hw 15 151 (by kernel_rfl)) (show (Instr.loadAt _ _).run _ W = .ok (.slice m22.a0 m22.n0 m22.k0) W by have hc := ((FX.out W hb).1).c0; clear hkp hw hb; go_simp) rfl⟩,
            ⟨.inr ⟨14, 150, false, rfl, by kernel_rfl, fun _ _ h => h⟩, fun q W hb hkp hw => goes_val (run_lenI (hw 16 152 (by kernel_rfl))) rfl⟩,
            ⟨.inr ⟨14, 150, false, rfl, by kernel_rfl, fun _ _ h => h⟩, fun q W hb hkp hw => goes_fad (hkp 2 (by decide)) (show (Instr.fieldAt _ _ _).run _ W = .ok (.pointer (some ⟨w.heap.size, 0, none⟩)) W by clear hkp hw hb; go_simp) rfl⟩,
            ⟨.inr ⟨14, 150, false, rfl, by kernel_rfl, fun _ _ h => h⟩, fun q W hb hkp hw => goes_load (v1 := .pointer (some ⟨w.heap.size, 0, none⟩)) (hw 18 154 (by kernel_rfl)) (show (Instr.loadAt _ _).run _ W = .ok (.slice m.a0 m.n0 m.k0) W by have hc := ((FX.out W hb).2).c0; clear hkp hw hb; go_simp) rfl⟩,
            ⟨.inr ⟨14, 150, false, rfl, by kernel_rfl, fun _ _ h => h⟩, fun q W hb hkp hw => goes_val (run_lenI (hw 19 155 (by kernel_rfl))) rfl⟩,
            ⟨.inr ⟨14, 150, false, rfl, by kernel_rfl, fun _ _ h => h⟩, fun q W hb hkp hw => goes_val (run_sub1 (hw 20 156 (by kernel_rfl)) rfl HQ.out.2.2.1) rfl⟩,
            ⟨.inr ⟨14, 150, false, rfl, by kernel_rfl, fun _ _ h => h⟩, fun q W hb hkp hw => goes_val (run_neF (hw 17 153 (by kernel_rfl)) (hw 21 157 (by kernel_rfl)) HQ.out.2.2.2.1) rfl⟩,
            ⟨.inl rfl, fun q W hb hkp hw => goes_val (run_pick (hw 14 150 (by kernel_rfl)) (show _ = .bool false from hw 22 158 (by kernel_rfl))) rfl⟩,
            ⟨.inl rfl, fun q W hb hkp hw => goes_move rfl (hw 23 159 (by kernel_rfl))⟩,
            ⟨.inr ⟨24, 160, false, rfl, by kernel_rfl, fun _ _ h => h⟩, fun q W hb hkp hw => goes_fad (hkp 17 (by decide)) (show (Instr.fieldAt _ _ _).run _ W = .ok (.pointer (some ⟨w22.heap.size, 0, none⟩)) W by clear hkp hw hb; go_simp) rfl⟩,
            ⟨.inr ⟨24, 160, false, rfl, by kernel_rfl, fun _ _ h => h⟩, fun q W hb hkp hw => goes_load (v1 := .pointer (some ⟨w22.heap.size, 0, none⟩)) (hw 25 161 (by kernel_rfl)) (show (Instr.loadAt _ _).run _ W = .ok (.slice m22.a0 m22.n0 m22.k0) W by have hc := ((FX.out W hb).1).c0; clear hkp hw hb; go_simp) rfl⟩,
            ⟨.inr ⟨24, 160, false, rfl, by kernel_rfl, fun _ _ h => h⟩, fun q W hb hkp hw => goes_move (hkp 1 (by decide)) rfl⟩,
            ⟨.inr ⟨24, 160, false, rfl, by kernel_rfl, fun _ _ h => h⟩, fun q W hb hkp hw => by (have e3 : q.eval (.tmp 163) = .int .i64 n := hw 27 163 (by kernel_rfl); exact goes_slice #[.int .i64 n] 1 hz1 Tryz.underlying22 hi0 hz0 (by decide) (by decide) [(0, .int .i64 n)] (by simp [e3]) (by kernel_rfl) ⟨W.heap.size, Nat.zero_le _, rfl, heap_alloc_new _ _⟩)⟩,
            ⟨.inr ⟨24, 160, false, rfl, by kernel_rfl, fun _ _ h => h⟩, fun q W hb hkp hw => by (obtain ⟨b3, _, e3, h3⟩ := hw 28 164 (by kernel_rfl); exact goes_call2 (hw 26 162 (by kernel_rfl)) e3 (by go_simp) ((CB1.out W hb b3 h3).mono (by rintro e w' ⟨A2, c2, z, rfl, hz, ho, hb'⟩; exact ⟨_, rfl, ⟨A2, z, c2, rfl, hz, ho.reads⟩, hb'⟩)))⟩,
            ⟨.inr ⟨24, 160, false, rfl, by kernel_rfl, fun _ _ h => h⟩, fun q W hb hkp hw => by (obtain ⟨A3, z3, c3, e3, hz3, hi3⟩ := hw 29 165 (by kernel_rfl); exact goes_val (run_lenI e3) ⟨z3, rfl, hz3⟩)⟩,
            ⟨.inr ⟨24, 160, false, rfl, by kernel_rfl, fun _ _ h => h⟩, fun q W hb hkp hw => by (obtain ⟨z3, e3, hz3⟩ := hw 30 166 (by kernel_rfl); exact goes_val (run_neF e3 (show _ = Value.int .i64 0 from rfl) (HQ.out.2.2.2.2.1 z3 hz3)) rfl)⟩,
            ⟨.inl rfl, fun q W hb hkp hw => goes_val (run_pick (hw 24 160 (by kernel_rfl)) (show _ = .bool false from hw 31 167 (by kernel_rfl))) rfl⟩,
            ⟨.inl rfl, fun q W hb hkp hw => goes_move rfl (hw 32 168 (by kernel_rfl))⟩,
            ⟨.inr ⟨33, 169, false, rfl, by kernel_rfl, fun _ _ h => h⟩, fun q W hb hkp hw => goes_fad (hkp 17 (by decide)) (show (Instr.fieldAt _ _ _).run _ W = .ok (.pointer (some ⟨w22.heap.size, 0, none⟩)) W by clear hkp hw hb; go_simp) rfl⟩,
            ⟨.inr ⟨33, 169, false, rfl, by kernel_rfl, fun _ _ h => h⟩, fun q W hb hkp hw => goes_load (v1 := .pointer (some ⟨w22.heap.size, 0, none⟩)) (hw 34 170 (by kernel_rfl)) (show (Instr.loadAt _ _).run _ W = .ok (.slice m22.a0 m22.n0 m22.k0) W by have hc := ((FX.out W hb).1).c0; clear hkp hw hb; go_simp) rfl⟩,
            ⟨.inr ⟨33, 169, false, rfl, by kernel_rfl, fun _ _ h => h⟩, fun q W hb hkp hw => goes_fad (hkp 2 (by decide)) (show (Instr.fieldAt _ _ _).run _ W = .ok (.pointer (some ⟨w.heap.size, 0, none⟩)) W by clear hkp hw hb; go_simp) rfl⟩,
            ⟨.inr ⟨33, 169, false, rfl, by kernel_rfl, fun _ _ h => h⟩, fun q W hb hkp hw => goes_load (v1 := .pointer (some ⟨w.heap.size, 0, none⟩)) (hw 36 172 (by kernel_rfl)) (show (Instr.loadAt _ _).run _ W = .ok (.slice m.a0 m.n0 m.k0) W by have hc := ((FX.out W hb).2).c0; clear hkp hw hb; go_simp) rfl⟩,
            ⟨.inr ⟨33, 169, false, rfl, by kernel_rfl, fun _ _ h => h⟩, fun q W hb hkp hw => goes_call2 (hw 35 171 (by kernel_rfl)) (hw 37 173 (by kernel_rfl)) (by go_simp) ((CB2.out W hb).mono (by rintro e w' ⟨A2, c2, z, rfl, hz, ho, hb'⟩; exact ⟨_, rfl, ⟨A2, z, c2, rfl, hz, ho.reads⟩, hb'⟩))⟩,
            ⟨.inr ⟨33, 169, false, rfl, by kernel_rfl, fun _ _ h => h⟩, fun q W hb hkp hw => by (obtain ⟨A3, z3, c3, e3, hz3, hi3⟩ := hw 38 174 (by kernel_rfl); exact goes_val (run_lenI e3) ⟨z3, rfl, hz3⟩)⟩,
            ⟨.inr ⟨33, 169, false, rfl, by kernel_rfl, fun _ _ h => h⟩, fun q W hb hkp hw => goes_fad (hkp 17 (by decide)) (show (Instr.fieldAt _ _ _).run _ W = .ok (.pointer (some ⟨w22.heap.size, 0, none⟩)) W by clear hkp hw hb; go_simp) rfl⟩,
            ⟨.inr ⟨33, 169, false, rfl, by kernel_rfl, fun _ _ h => h⟩, fun q W hb hkp hw => goes_load (v1 := .pointer (some ⟨w22.heap.size, 0, none⟩)) (hw 40 176 (by kernel_rfl)) (show (Instr.loadAt _ _).run _ W = .ok (.slice m22.a0 m22.n0 m22.k0) W by have hc := ((FX.out W hb).1).c0; clear hkp hw hb; go_simp) rfl⟩,
            ⟨.inr ⟨33, 169, false, rfl, by kernel_rfl, fun _ _ h => h⟩, fun q W hb hkp hw => goes_val (run_lenI (hw 41 177 (by kernel_rfl))) rfl⟩,
            ⟨.inr ⟨33, 169, false, rfl, by kernel_rfl, fun _ _ h => h⟩, fun q W hb hkp hw => by (obtain ⟨z3, e3, hz3⟩ := hw 39 175 (by kernel_rfl); exact goes_val (run_neF e3 (hw 42 178 (by kernel_rfl)) (HQ.out.2.2.2.2.2 z3 hz3)) rfl)⟩,
            ⟨.inl rfl, fun q W hb hkp hw => goes_val (run_pick (hw 33 169 (by kernel_rfl)) (show _ = .bool false from hw 43 179 (by kernel_rfl))) rfl⟩, trivial⟩
        case he =>
          intro u wq hH hq
          have eF : u 180 = .bool false := hH 44 180 (by decide) (by kernel_rfl)
          have G9 := hid hq
          exact h2 _ _ (Met.intro (h1 _ _ ⟨u 136, u 137, u 138, u 139, u 140, u 141, u 142, u 143, u 144, u 145, u 146, u 147, u 148, u 149, u 150, u 151, u 152, u 153, u 154, u 155, u 156, u 157, u 158, u 159, u 160, u 161, u 162, u 163, u 164, u 165, u 166, u 167, u 168, u 169, u 170, u 171, u 172, u 173, u 174, u 175, u 176, u 177, u 178, u 179, u 180, ⟨eF, G9⟩, by kernel_rfl⟩))
      case rest =>
        obtain ⟨rfl, G9⟩ := hcut
        have HLW := hid (HK22.out _ G9.out).2.2.2.2
        clear G9
        go_wp2_with fail
        refine (works_any _).mono ?_
        rintro e wz ⟨rfl, hbz⟩
        have HBZ := hid (HLW.out.trans (hbz.mono HLW.out.size))
        clear hbz
        go_wp2_with fail
        go_ret
        exact ⟨rfl, HBZ.out⟩
    · obtain ⟨rd, hrd⟩ : ∃ rd, rd = drop c n := ⟨_, rfl⟩
      rw [← hrd] at HD hD
      have hz : (rd.2 == 0) = false := by rw [beq_eq_false_iff_ne]; exact hD
      clear hD hrd
      go_enter Tryz.func7, Tryz.ntmps7
      go_wp2_with fail
      rw [← hw1]
      clear hw1 hld
      refine HG.out.mono ?_
      rintro e w2 ⟨rfl, hb2⟩
      obtain ⟨w3, hw3⟩ : ∃ w3, w3 = w2.alloc (.cells #[.int .i64 1, .int .i64 2, .int .i64 3, .int .i64 4, .int .i64 5, .int .i64 6, .int .i64 7] 3) := ⟨_, rfl⟩
      have hb3 : Below w2.heap.size w2 w3 := by rw [hw3]; exact below_new _ _
      have hal : IsInts w3 (w2.heap.size + 1) (some ⟨w2.heap.size, 0, none⟩) all7 := by rw [hw3]; exact lit_in w2 all7 (by decide) (by decide)
      have hs3 : w3.heap.size = w2.heap.size + 1 := by rw [hw3]; simp
      have hb13 := hb2.trans (hb3.mono hb2.size)
      have hld3 := (HK1.out w3 hb13).1.ld
      rw [hw3] at hld3
      have HADD := hid (HA.out w3 hb13)
      have HW3 := hid hw3
      have HL3 := hid (And.intro hal (And.intro hs3 hb13))
      clear hb2 hb3 hw3 hal hs3 hb13 HG HA
      go_wp2_with fail
      rw [← HW3.out]
      refine HADD.out.mono ?_
      rintro e w4 ⟨ma, rfl, hoa, hb4⟩
      obtain ⟨v4, hv4⟩ : ∃ v4, v4 = w4.alloc (.cells #[.slice ma.a0 ma.n0 ma.k0, .slice ma.a1 ma.n1 ma.k1, .slice ma.a2 ma.n2 ma.k2] 24) := ⟨_, rfl⟩
      have hst4 := (box_new hv4).2.2.2
      have HK4 : Hid (∀ W, Below v4.heap.size v4 W → Bx W w4.heap.size 24 ma ∧ InC W w4.heap.size xa ma ∧ w4.heap.size + 1 ≤ W.heap.size ∧ Bx W w.heap.size 24 m ∧ InC W B c m ∧ IsInts W (w2.heap.size + 1) (some ⟨w2.heap.size, 0, none⟩) all7 ∧ Below w.heap.size w W ∧ B ≤ W.heap.size ∧ w2.heap.size + 1 ≤ W.heap.size) := hid (fun W hb => by
        have q := box_keep hoa hv4 W hb
        have q3 := hb4.trans (q.2.2.1.mono hb4.size)
        have q1 := HK1.out W (HL3.out.2.2.trans (q3.mono HL3.out.2.2.size))
        exact ⟨q.1, q.2.1.inC, q.2.2.2, q1.1, q1.2.1, HL3.out.1.below (q3.mono (by have := HL3.out.2.1; omega)), q1.2.2.1, q1.2.2.2, by have := HL3.out.2.1; have := q3.size; omega⟩)
      have HLO4 : Hid (w.heap.size < w4.heap.size ∧ w4.heap.size < v4.heap.size) := hid ⟨by have := (HK1.out w3 HL3.out.2.2).1.lt; have := hb4.size; omega, (HK4.out v4 (Below.refl _ _)).1.lt⟩
      clear hoa hb4 hv4 hld3 HADD
      have hr0 := HK4.out v4 (Below.refl _ _)
      have hldm := hr0.2.2.2.1.ld
      have HDD := hid (HD.out v4 hr0.2.2.2.2.1 hr0.2.2.2.2.2.2.2.1)
      have HR0 := hid (And.intro hr0.1 (And.intro hr0.2.2.2.1 hr0.2.2.2.2.2.2.1))
      clear hr0
      go_wp2_with fail
      refine HDD.out.mono ?_
      rintro e w20 ⟨mr, rfl, hor, hb20⟩
      have hbx := HR0.out.1.below hb20 HR0.out.1.lt
      obtain ⟨w21, hw21⟩ : ∃ w21, w21 = w20.setRow w4.heap.size #[.slice mr.a0 mr.n0 mr.k0, .slice mr.a1 mr.n1 mr.k1, .slice mr.a2 mr.n2 mr.k2] := ⟨_, rfl⟩
      have hst20 : (Im.stX 24 (.pointer (some ⟨w4.heap.size, 0, none⟩)) (.agg #[.slice mr.a0 mr.n0 mr.k0, .slice mr.a1 mr.n1 mr.k1, .slice mr.a2 mr.n2 mr.k2])).run Tryz.prog w20 = .ok () w21 := by rw [hw21]; exact hbx.st (m' := mr)
      have ht21 : Turned (fun k => k = w4.heap.size) w20 w21 := by rw [hw21]; exact Bx.tur w20 _ mr
      have hl20 := HR0.out.2.2.trans (hb20.mono HR0.out.2.2.size)
      have HLW := hid (hl20.trans (ht21.below hl20.size (fun k hk => by rw [hk]; exact Nat.le_of_lt HLO4.out.1)))
      clear hbx hw21 ht21 hl20 hor hb20
      go_wp2_with fail
      refine (works_any w21).mono ?_
      rintro e wz ⟨rfl, hbz⟩
      have HBZ := hid (HLW.out.trans (hbz.mono HLW.out.size))
      clear hbz
      go_wp2_with fail
      go_ret
      exact ⟨rfl, HBZ.out⟩
end Go.Proofs.YtfkjahpcpmcefaaGreat.Co
namespace Go.Proofs.YtfkjahpcpmcefaaGreat.Co
open Go Go.RowKit
open Qu (Cf)
open Rl (En Lg)
open Im (Ad Hd Pt IsPt)
set_option maxRecDepth 100000
set_option linter.unusedVariables false
def allocs (w : World) : List Obj → World
  | [] => w
  | o :: l => allocs (w.alloc o) l
theorem allocs_is : ∀ (l : List Obj) (w : World), (allocs w l).heap.size = w.heap.size + l.length ∧ Below w.heap.size w (allocs w l) ∧ ∀ i o, l[i]? = some o → (allocs w l).heap[w.heap.size + i]? = some o
  | [], w => ⟨rfl, Below.refl _ _, fun i o h => by simp at h⟩
  | o :: l, w => by
    obtain ⟨h1, h2, h3⟩ := allocs_is l (w.alloc o)
    have hs : (w.alloc o).heap.size = w.heap.size + 1 := by simp
    refine ⟨by show (allocs (w.alloc o) l).heap.size = _; rw [h1, hs, List.length_cons]; omega, (below_new w o).trans (h2.mono (by omega)), fun i o' h => ?_⟩
    show (allocs (w.alloc o) l).heap[w.heap.size + i]? = some o'
    match i with
    | 0 =>
      rw [List.getElem?_cons_zero] at h
      rw [← Option.some.inj h]
      exact (h2.block _ (by omega)).trans (heap_alloc_new w o)
    | i + 1 =>
      rw [List.getElem?_cons_succ] at h
      have := h3 i o' h
      rw [hs, show w.heap.size + 1 + i = w.heap.size + (i + 1) by omega] at this
      exact this
def Pa (W : World) (A : Option Addr) (k : Nat) (l : List Int) : Prop := IsInts W W.heap.size A l ∧ (A = none → k = 0) ∧ l.length ≤ k ∧ k ≤ maxLen
theorem pa_nil (W : World) : Pa W none 0 [] := ⟨IsInts.nil, fun _ => rfl, Nat.le_refl _, Nat.zero_le _⟩
theorem kn_lit {W : World} {b : Nat} {t : TypeId} (l : List Int) (h : W.heap[b]? = some (.cells (ints l).toArray t (0, 0))) (hl : (l.all fun x => decide (-9223372036854775808 ≤ x ∧ x ≤ 9223372036854775807)) = true) : IsInts W W.heap.size (some ⟨b, 0, none⟩) l :=
  ⟨small_of l hl, fun k hk => ⟨b, 0, rfl, (Array.getElem?_eq_some_iff.1 h).1, fun i hi => by rw [Nat.zero_add, cell_of_row W b i _ _ _ h, List.getElem?_toArray, ints_get l i hi]⟩⟩
theorem pa_lit {W : World} {b : Nat} {t : TypeId} {l : List Int} (h : W.heap[b]? = some (.cells (ints l).toArray t (0, 0))) (hl : (l.all fun x => decide (-9223372036854775808 ≤ x ∧ x ≤ 9223372036854775807)) = true) (hm : l.length ≤ 1000) : Pa W (some ⟨b, 0, none⟩) l.length l :=
  ⟨kn_lit l h hl, (fun e => by cases e), Nat.le_refl _, by unfold maxLen; omega⟩
theorem pa_conf {W : World} (c : Cf) {A0 A1 A2 : Option Addr} {k0 k1 k2 : Nat} (p0 : Pa W A0 k0 c.old) (p1 : Pa W A1 k1 c.new) (p2 : Pa W A2 k2 c.lrn) : InC W W.heap.size c ⟨A0, c.old.length, k0, A1, c.new.length, k1, A2, c.lrn.length, k2⟩ :=
  ⟨⟨p0.1, p1.1, p2.1, p0.2.1, p1.2.1, p2.2.1, p0.2.2, p1.2.2, p2.2.2⟩, rfl, rfl, rfl⟩
def objs (s : Nat) (m : M3) : List Obj := [
  .cells #[.int .i64 3] 3,
  .cells #[.int .i64 1] 3,
  .cells #[.int .i64 2] 3,
  .cells #[.int .i64 1, .int .i64 2, .int .i64 3] 3,
  .cells #[.int .i64 1, .int .i64 2] 3,
  .cells #[.int .i64 1, .int .i64 2] 3,
  .cells #[.int .i64 3] 3,
  .cells #[.int .i64 4] 3,
  .cells #[.int .i64 2, .int .i64 1] 3,
  .cells #[.int .i64 1, .int .i64 2, .int .i64 3, .int .i64 4, .int .i64 5, .int .i64 6, .int .i64 7] 3,
  .cells #[.int .i64 1, .int .i64 5] 3,
  .cells #[.int .i64 2, .int .i64 6] 3,
  .cells #[.slice none 0 0, .slice none 0 0, .slice none 0 0, .slice m.a0 m.n0 m.k0, .slice m.a1 m.n1 m.k1, .slice m.a2 m.n2 m.k2, .slice (some ⟨s, 0, none⟩) 1 1, .slice none 0 0, .slice none 0 0, .slice (some ⟨s + 1, 0, none⟩) 1 1, .slice none 0 0, .slice (some ⟨s + 2, 0, none⟩) 1 1, .slice (some ⟨s + 3, 0, none⟩) 3 3, .slice (some ⟨s + 4, 0, none⟩) 2 2, .slice none 0 0, .slice (some ⟨s + 5, 0, none⟩) 2 2, .slice (some ⟨s + 6, 0, none⟩) 1 1, .slice (some ⟨s + 7, 0, none⟩) 1 1, .slice (some ⟨s + 8, 0, none⟩) 2 2, .slice none 0 0, .slice none 0 0, .slice (some ⟨s + 9, 0, none⟩) 7 7, .slice none 0 0, .slice none 0 0, .slice (some ⟨s + 10, 0, none⟩) 2 2, .slice none 0 0, .slice (some ⟨s + 11, 0, none⟩) 2 2] 24,
  .cells #[.int .i64 (-9223372036854775808), .int .i64 (-1), .int .i64 0, .int .i64 1, .int .i64 2, .int .i64 3, .int .i64 4, .int .i64 5, .int .i64 6, .int .i64 7, .int .i64 8, .int .i64 9223372036854775807] 3,
  .cells #[.int .i64 2] 3,
  .cells #[.int .i64 2, .int .i64 6] 3,
  .cells #[.int .i64 1, .int .i64 2, .int .i64 3, .int .i64 4, .int .i64 5, .int .i64 6, .int .i64 7] 3,
  .cells #[.int .i64 0, .int .i64 9] 3,
  .cells #[.slice none 0 0, .slice (some ⟨s + 14, 0, none⟩) 1 1, .slice (some ⟨s + 15, 0, none⟩) 2 2, .slice (some ⟨s + 16, 0, none⟩) 7 7, .slice (some ⟨s + 17, 0, none⟩) 2 2] 22]
theorem confs_at (w1 : World) (m : M3) (h1 : InC w1 w1.heap.size c3 m) (w2 : World) (hw2 : w2 = allocs w1 (objs w1.heap.size m)) :
    ∀ i, i < 9 → ∃ (c : Cf) (A0 : Option Addr) (k0 : Nat) (A1 : Option Addr) (k1 : Nat) (A2 : Option Addr) (k2 : Nat), (c.old.length ≤ 7 ∧ c.new.length ≤ 7 ∧ c.lrn.length ≤ 7) ∧ ∀ W, Below w2.heap.size w2 W →
      InC W W.heap.size c ⟨A0, c.old.length, k0, A1, c.new.length, k1, A2, c.lrn.length, k2⟩ ∧ (Im.ldX 24 (.pointer (some ⟨w1.heap.size + 12, i * 3, none⟩))).run Tryz.prog W = .ok (.agg #[.slice A0 c.old.length k0, .slice A1 c.new.length k1, .slice A2 c.lrn.length k2]) W := by
  obtain ⟨A0, n0, k0, A1, n1, k1, A2, n2, k2⟩ := m
  obtain rfl : n0 = c3.old.length := h1.e0
  obtain rfl : n1 = c3.new.length := h1.e1
  obtain rfl : n2 = c3.lrn.length := h1.e2
  obtain ⟨z, hb, hi⟩ := allocs_is (objs w1.heap.size ⟨A0, c3.old.length, k0, A1, c3.new.length, k1, A2, c3.lrn.length, k2⟩) w1
  rw [← hw2] at z hb hi
  have hz : w2.heap.size = w1.heap.size + 19 := z
  have rw_ : ∀ W, Below w2.heap.size w2 W → ∀ i o, (objs w1.heap.size ⟨A0, c3.old.length, k0, A1, c3.new.length, k1, A2, c3.lrn.length, k2⟩)[i]? = some o → W.heap[w1.heap.size + i]? = some o := fun W hW i o h => by
    have h0 := hi i o h
    exact (hW.block _ (Array.getElem?_eq_some_iff.1 h0).1).trans h0
  have cr := fun W hW => rw_ W hW 12 _ rfl
  intro i hi
  match i, hi with
  | 0, _ => exact ⟨⟨[], [], []⟩, none, 0, none, 0, none, 0, ⟨by decide, by decide, by decide⟩, fun W hW => ⟨pa_conf ⟨[], [], []⟩ (pa_nil W) (pa_nil W) (pa_nil W), Im.ldConfH (k := 0 * 3) (cr W hW) rfl rfl rfl⟩⟩
  | 1, _ => exact ⟨c3, A0, k0, A1, k1, A2, k2, ⟨by decide, by decide, by decide⟩, fun W hW => ⟨(h1.below (hb.trans (hW.mono hb.size))).more (hb.trans (hW.mono hb.size)).size, Im.ldConfH (k := 1 * 3) (cr W hW) rfl rfl rfl⟩⟩
  | 2, _ => exact ⟨⟨[3], [], []⟩, some ⟨w1.heap.size, 0, none⟩, 1, none, 0, none, 0, ⟨by decide, by decide, by decide⟩, fun W hW => ⟨pa_conf ⟨[3], [], []⟩ (pa_lit (l := [3]) (rw_ W hW 0 _ rfl) (by decide) (by decide)) (pa_nil W) (pa_nil W), Im.ldConfH (k := 2 * 3) (cr W hW) rfl rfl rfl⟩⟩
  | 3, _ => exact ⟨⟨[1], [], [2]⟩, some ⟨w1.heap.size + 1, 0, none⟩, 1, none, 0, some ⟨w1.heap.size + 2, 0, none⟩, 1, ⟨by decide, by decide, by decide⟩, fun W hW => ⟨pa_conf ⟨[1], [], [2]⟩ (pa_lit (l := [1]) (rw_ W hW 1 _ rfl) (by decide) (by decide)) (pa_nil W) (pa_lit (l := [2]) (rw_ W hW 2 _ rfl) (by decide) (by decide)), Im.ldConfH (k := 3 * 3) (cr W hW) rfl rfl rfl⟩⟩
  | 4, _ => exact ⟨⟨[1, 2, 3], [1, 2], []⟩, some ⟨w1.heap.size + 3, 0, none⟩, 3, some ⟨w1.heap.size + 4, 0, none⟩, 2, none, 0, ⟨by decide, by decide, by decide⟩, fun W hW => ⟨pa_conf ⟨[1, 2, 3], [1, 2], []⟩ (pa_lit (l := [1, 2, 3]) (rw_ W hW 3 _ rfl) (by decide) (by decide)) (pa_lit (l := [1, 2]) (rw_ W hW 4 _ rfl) (by decide) (by decide)) (pa_nil W), Im.ldConfH (k := 4 * 3) (cr W hW) rfl rfl rfl⟩⟩
  | 5, _ => exact ⟨⟨[1, 2], [3], [4]⟩, some ⟨w1.heap.size + 5, 0, none⟩, 2, some ⟨w1.heap.size + 6, 0, none⟩, 1, some ⟨w1.heap.size + 7, 0, none⟩, 1, ⟨by decide, by decide, by decide⟩, fun W hW => ⟨pa_conf ⟨[1, 2], [3], [4]⟩ (pa_lit (l := [1, 2]) (rw_ W hW 5 _ rfl) (by decide) (by decide)) (pa_lit (l := [3]) (rw_ W hW 6 _ rfl) (by decide) (by decide)) (pa_lit (l := [4]) (rw_ W hW 7 _ rfl) (by decide) (by decide)), Im.ldConfH (k := 5 * 3) (cr W hW) rfl rfl rfl⟩⟩
  | 6, _ => exact ⟨⟨[2, 1], [], []⟩, some ⟨w1.heap.size + 8, 0, none⟩, 2, none, 0, none, 0, ⟨by decide, by decide, by decide⟩, fun W hW => ⟨pa_conf ⟨[2, 1], [], []⟩ (pa_lit (l := [2, 1]) (rw_ W hW 8 _ rfl) (by decide) (by decide)) (pa_nil W) (pa_nil W), Im.ldConfH (k := 6 * 3) (cr W hW) rfl rfl rfl⟩⟩
  | 7, _ => exact ⟨⟨[1, 2, 3, 4, 5, 6, 7], [], []⟩, some ⟨w1.heap.size + 9, 0, none⟩, 7, none, 0, none, 0, ⟨by decide, by decide, by decide⟩, fun W hW => ⟨pa_conf ⟨[1, 2, 3, 4, 5, 6, 7], [], []⟩ (pa_lit (l := [1, 2, 3, 4, 5, 6, 7]) (rw_ W hW 9 _ rfl) (by decide) (by decide)) (pa_nil W) (pa_nil W), Im.ldConfH (k := 7 * 3) (cr W hW) rfl rfl rfl⟩⟩
  | 8, _ => exact ⟨⟨[1, 5], [], [2, 6]⟩, some ⟨w1.heap.size + 10, 0, none⟩, 2, none, 0, some ⟨w1.heap.size + 11, 0, none⟩, 2, ⟨by decide, by decide, by decide⟩, fun W hW => ⟨pa_conf ⟨[1, 5], [], [2, 6]⟩ (pa_lit (l := [1, 5]) (rw_ W hW 10 _ rfl) (by decide) (by decide)) (pa_nil W) (pa_lit (l := [2, 6]) (rw_ W hW 11 _ rfl) (by decide) (by decide)), Im.ldConfH (k := 8 * 3) (cr W hW) rfl rfl rfl⟩⟩
theorem nodes_at (w1 : World) (m : M3) (w2 : World) (hw2 : w2 = allocs w1 (objs w1.heap.size m)) : ∀ i, i < 12 → ∃ x, InInt x ∧ ∀ W, Below w2.heap.size w2 W → W.cell? ⟨w1.heap.size + 13, i, none⟩ = some (.int .i64 x) := by
  obtain ⟨z, hb, hq⟩ := allocs_is (objs w1.heap.size m) w1
  rw [← hw2] at z hb hq
  have h0 : w2.heap[w1.heap.size + 13]? = some (.cells (ints [-9223372036854775808, -1, 0, 1, 2, 3, 4, 5, 6, 7, 8, 9223372036854775807]).toArray 3 (0, 0)) := hq 13 _ rfl
  intro i hi
  refine ⟨([-9223372036854775808, -1, 0, 1, 2, 3, 4, 5, 6, 7, 8, 9223372036854775807] : List Int)[i]'hi, small_of [-9223372036854775808, -1, 0, 1, 2, 3, 4, 5, 6, 7, 8, 9223372036854775807] (by decide) _ (List.getElem_mem _), fun W hW => ?_⟩
  rw [cell_of_row W _ i _ _ _ ((hW.block _ (Array.getElem?_eq_some_iff.1 h0).1).trans h0), List.getElem?_toArray, ints_get [-9223372036854775808, -1, 0, 1, 2, 3, 4, 5, 6, 7, 8, 9223372036854775807] i hi]
theorem fars_at (w1 : World) (m : M3) (w2 : World) (hw2 : w2 = allocs w1 (objs w1.heap.size m)) : ∀ i, i < 5 → ∃ (A : Option Addr) (n cap : Nat) (f : List Int), n = f.length ∧ ∀ W, Below w2.heap.size w2 W → IsInts W W.heap.size A f ∧ W.cell? ⟨w1.heap.size + 18, i, none⟩ = some (.slice A n cap) := by
  obtain ⟨z, hb, hi⟩ := allocs_is (objs w1.heap.size m) w1
  rw [← hw2] at z hb hi
  have rw_ : ∀ W, Below w2.heap.size w2 W → ∀ i o, (objs w1.heap.size m)[i]? = some o → W.heap[w1.heap.size + i]? = some o := fun W hW i o h => by
    have h0 := hi i o h
    exact (hW.block _ (Array.getElem?_eq_some_iff.1 h0).1).trans h0
  have cr := fun W hW i => cell_of_row W (w1.heap.size + 18) i _ _ _ (rw_ W hW 18 _ rfl)
  intro i hi
  match i, hi with
  | 0, _ => exact ⟨none, 0, 0, [], rfl, fun W hW => ⟨IsInts.nil, cr W hW 0⟩⟩
  | 1, _ => exact ⟨some ⟨w1.heap.size + 14, 0, none⟩, 1, 1, [2], rfl, fun W hW => ⟨kn_lit [2] (rw_ W hW 14 _ rfl) (by decide), cr W hW 1⟩⟩
  | 2, _ => exact ⟨some ⟨w1.heap.size + 15, 0, none⟩, 2, 2, [2, 6], rfl, fun W hW => ⟨kn_lit [2, 6] (rw_ W hW 15 _ rfl) (by decide), cr W hW 2⟩⟩
  | 3, _ => exact ⟨some ⟨w1.heap.size + 16, 0, none⟩, 7, 7, [1, 2, 3, 4, 5, 6, 7], rfl, fun W hW => ⟨kn_lit [1, 2, 3, 4, 5, 6, 7] (rw_ W hW 16 _ rfl) (by decide), cr W hW 3⟩⟩
  | 4, _ => exact ⟨some ⟨w1.heap.size + 17, 0, none⟩, 2, 2, [0, 9], rfl, fun W hW => ⟨kn_lit [0, 9] (rw_ W hW 17 _ rfl) (by decide), cr W hW 4⟩⟩
def knE : List En := [⟨0, 2, [9]⟩, ⟨0, 1, []⟩]
theorem kn_quiet : ∀ e ∈ knE, Quiet e ∧ e.d.length ≤ 65536 := by
  intro e he
  simp only [knE, List.mem_cons, List.not_mem_nil, or_false] at he
  rcases he with rfl | rfl
  · exact ⟨.inr (by decide +kernel), by decide⟩
  · exact ⟨.inl (by decide), by decide⟩
def knH (i : Int) (c : Cf) (es : List En) : Hd := ⟨0, 0, 0, ⟨⟨i, 0, es⟩, c, []⟩⟩
theorem kn_ok (i : Int) (hi : 0 ≤ i ∧ i < 100) (c : Cf) (hc : c.old.length ≤ 7 ∧ c.new.length ≤ 7 ∧ c.lrn.length ≤ 7) (es : List En) (h : es = knE ∨ es = []) : OfOk (knH i c es) := by
  have hcf : Im.bigCf c 2000 = false := by
    unfold Im.bigCf
    rw [decide_eq_false (by omega), decide_eq_false (by omega), decide_eq_false (by omega)]; rfl
  refine ⟨?_, ?_, ⟨by show (0 : Int) ≤ i; omega, by show i ≤ 1099511627776; omega⟩, ⟨by show (0 : Int) ≤ 0; omega, by show (0 : Int) ≤ 1099511627776; omega⟩, ⟨?_, ⟨by show c.old.length ≤ 20000; omega, by show c.new.length ≤ 20000; omega, by show c.lrn.length ≤ 20000; omega⟩, by simp [knH]⟩⟩
  · show (big es 2000 65536 || Im.bigCf c 2000 || decide (65536 < ([] : List Nat).length)) = false
    rw [hcf]
    rcases h with rfl | rfl <;> decide +kernel
  · rcases h with rfl | rfl
    · exact kn_quiet
    · exact fun e he => by cases he
  · rcases h with rfl | rfl
    · show 2 ≤ 1000; omega
    · show 0 ≤ 1000; omega
def knA (A : Option Addr) (k : Nat) (A0 : Option Addr) (k0 : Nat) (A1 : Option Addr) (k1 : Nat) (A2 : Option Addr) (k2 : Nat) : Ad := ⟨A, k, A0, k0, A1, k1, A2, k2, none, 0⟩
theorem kn_pt0 (W : World) (i : Int) (hi : 0 ≤ i ∧ i < 100) (c : Cf) {A0 A1 A2 : Option Addr} {k0 k1 k2 : Nat} (h : InC W W.heap.size c ⟨A0, c.old.length, k0, A1, c.new.length, k1, A2, c.lrn.length, k2⟩) : IsPt W W.heap.size (knH i c []).p (knA none 0 A0 k0 A1 k1 A2 k2) :=
  ⟨IsEnts.nil, h.cis.o, h.cis.n, h.cis.l, IsBytes.nil, ⟨⟨Nat.le_refl _, Nat.zero_le _⟩, fun _ => rfl⟩, ⟨h.cis.co, h.cis.zo⟩, ⟨h.cis.cn, h.cis.zn⟩, ⟨h.cis.cl, h.cis.zl⟩, ⟨⟨Nat.le_refl _, Nat.zero_le _⟩, fun _ => rfl⟩, ⟨by show -9223372036854775808 ≤ i; omega, by show i ≤ 9223372036854775807; omega⟩, ⟨by show (-9223372036854775808 : Int) ≤ 0; omega, by show (0 : Int) ≤ 9223372036854775807; omega⟩⟩
theorem kn_es (W : World) (b1 b2 : Nat) (r1 : W.heap[b1]? = some (.cells #[.int .u8 9] 5 (0, 0))) (r2 : W.heap[b2]? = some (.cells #[.int .i64 0, .int .i64 2, .slice (some ⟨b1, 0, none⟩) 1 1, .int .i64 0, .int .i64 1, .slice none 0 0] 33 (0, 0))) : IsEnts W W.heap.size (some ⟨b2, 0, none⟩) knE := by
  have c := fun i => cell_of_row W b2 i _ _ _ r2
  refine ⟨fun e he => ?_, fun k hk => ⟨b2, 0, rfl, (Array.getElem?_eq_some_iff.1 r2).1, fun i hi => ?_⟩⟩
  · simp only [knE, List.mem_cons, List.not_mem_nil, or_false] at he
    rcases he with rfl | rfl <;> exact ⟨⟨by decide, by decide⟩, ⟨by decide, by decide⟩⟩
  · match i, hi with
    | 0, _ =>
      refine ⟨some ⟨b1, 0, none⟩, 1, c 0, c 1, c 2, ⟨fun x hx => ?_, fun k hk => ⟨b1, 0, rfl, (Array.getElem?_eq_some_iff.1 r1).1, fun j hj => ?_⟩⟩, ⟨Nat.le_refl _, by decide⟩, fun e => by cases e⟩
      · simp only [knE, List.getElem_cons_zero, List.mem_cons, List.not_mem_nil, or_false] at hx
        omega
      · have h1 : j < 1 := hj
        obtain rfl : j = 0 := by omega
        exact cell_of_row W b1 0 _ _ _ r1
    | 1, _ => exact ⟨none, 0, c 3, c 4, c 5, IsBytes.nil, ⟨Nat.le_refl _, Nat.zero_le _⟩, fun _ => rfl⟩
theorem kn_pt (W : World) (i : Int) (hi : 0 ≤ i ∧ i < 100) (c : Cf) {A0 A1 A2 : Option Addr} {k0 k1 k2 : Nat} (h : InC W W.heap.size c ⟨A0, c.old.length, k0, A1, c.new.length, k1, A2, c.lrn.length, k2⟩) (b2 : Nat) (he : IsEnts W W.heap.size (some ⟨b2, 0, none⟩) knE) : IsPt W W.heap.size (knH i c knE).p (knA (some ⟨b2, 0, none⟩) 2 A0 k0 A1 k1 A2 k2) :=
  ⟨he, h.cis.o, h.cis.n, h.cis.l, IsBytes.nil, ⟨⟨Nat.le_refl _, show 2 ≤ maxLen by decide⟩, fun e => by cases e⟩, ⟨h.cis.co, h.cis.zo⟩, ⟨h.cis.cn, h.cis.zn⟩, ⟨h.cis.cl, h.cis.zl⟩, ⟨⟨Nat.le_refl _, Nat.zero_le _⟩, fun _ => rfl⟩, ⟨by show -9223372036854775808 ≤ i; omega, by show i ≤ 9223372036854775807; omega⟩, ⟨by show (-9223372036854775808 : Int) ≤ 0; omega, by show (0 : Int) ≤ 9223372036854775807; omega⟩⟩
end Go.Proofs.YtfkjahpcpmcefaaGreat.Co
namespace Go.Proofs.YtfkjahpcpmcefaaGreat.confKnown
open Go.ChangeShapes Go.WideShapes Go.ChangeAt Go.RowKit
open Go.ChangeMaps (open_string shut_string)
set_option linter.unusedVariables false
theorem own : ownKnob Tryz.prog.godebug = none := by kernel_rfl
theorem laidOut : laidOutB Tryz.prog = true := by kernel_rfl
attribute [local go_sem ↓] Im.loadAt_conf3 Im.storeAt_conf3 Im.loadAt_hard Im.storeAt_hard Im.loadAt_log1 Im.storeAt_log1
open Co
open Rl (En Lg)
open Im (Ad Hd Pt IsPt)
def H13 (gc gn gf i j k : Nat) (x : Int) (c : Qu.Cf) (A0 A1 A2 : Option Addr) (k0 k1 k2 : Nat) (Af : Option Addr) (nf kf : Nat) : Nat → Gp
  | 0 => Gp.is (.slice (some ⟨gc, 0, none⟩) 9 9)
  | 1 => Gp.is (.int .i64 (i : Int))
  | 2 => Gp.is (.pointer (some ⟨gc, i * 3, none⟩))
  | 3 => Gp.is (.agg #[.slice A0 c.old.length k0, .slice A1 c.new.length k1, .slice A2 c.lrn.length k2])
  | 4 => Gp.is (.slice (some ⟨gn, 0, none⟩) 12 12)
  | 5 => Gp.is (.int .i64 (j : Int))
  | 6 => Gp.is (.pointer (some ⟨gn, j, none⟩))
  | 7 => Gp.is (.int .i64 x)
  | 8 => Gp.is (.slice (some ⟨gf, 0, none⟩) 5 5)
  | 9 => Gp.is (.int .i64 (k : Int))
  | 10 => Gp.is (.pointer (some ⟨gf, k, none⟩))
  | 11 => Gp.is (.slice Af nf kf)
  | 12 => Gp.is (.bool true)
  | 13 => Gp.is (.bool false)
  | 14 => Gp.is (.bool false)
  | 15 => Gp.is (.slice (some ⟨gc, 0, none⟩) 9 9)
  | 16 => Gp.is (.int .i64 (i : Int))
  | 17 => Gp.is (.pointer (some ⟨gc, i * 3, none⟩))
  | 18 => Gp.is (.agg #[.slice A0 c.old.length k0, .slice A1 c.new.length k1, .slice A2 c.lrn.length k2])
  | 19 => Gp.is (.int .i64 (j : Int))
  | 20 => Gp.is (.slice (some ⟨gn, 0, none⟩) 12 12)
  | 21 => Gp.is (.int .i64 (j : Int))
  | 22 => Gp.is (.pointer (some ⟨gn, j, none⟩))
  | 23 => Gp.is (.int .i64 x)
  | 24 => Gp.is (.slice (some ⟨gf, 0, none⟩) 5 5)
  | 25 => Gp.is (.int .i64 (k : Int))
  | 26 => Gp.is (.pointer (some ⟨gf, k, none⟩))
  | 27 => Gp.is (.slice Af nf kf)
  | 28 => Gp.row 0 4 #[.int .i64 1, .int .i64 2, .int .i64 3, .int .i64 5] 3
  | 29 => Gp.row 0 5 #[.int .i64 1, .int .i64 2, .int .i64 4, .int .i64 6, .int .i64 3] 3
  | 30 => Gp.is (.bool true)
  | 31 => Gp.is (.bool false)
  | 32 => Gp.is (.bool false)
  | _ => Gp.any
def H15 (gc gn i j : Nat) (x : Int) (c : Qu.Cf) (A0 A1 A2 : Option Addr) (k0 k1 k2 : Nat) : Nat → Gp
  | 0 => Gp.is (.slice (some ⟨gc, 0, none⟩) 9 9)
  | 1 => Gp.is (.int .i64 (i : Int))
  | 2 => Gp.is (.pointer (some ⟨gc, i * 3, none⟩))
  | 3 => Gp.is (.agg #[.slice A0 c.old.length k0, .slice A1 c.new.length k1, .slice A2 c.lrn.length k2])
  | 4 => Gp.is (.slice (some ⟨gn, 0, none⟩) 12 12)
  | 5 => Gp.is (.int .i64 (j : Int))
  | 6 => Gp.is (.pointer (some ⟨gn, j, none⟩))
  | 7 => Gp.is (.int .i64 x)
  | 8 => Gp.is (.bool true)
  | 9 => Gp.is (.bool false)
  | _ => Gp.any
set_option maxRecDepth 100000 in
set_option maxHeartbeats 51200000 in
theorem walk (w : World) : Calls Tryz.prog 3 #[] w fun e w' => e = .returned (.bool true) ∧ Below w.heap.size w w' := by
  go_enter Tryz.func3, Tryz.ntmps3
  go_wp2_with fail
  refine (three_any w).mono ?_
  rintro e w1 ⟨m1, rfl, ho1, hb1⟩
  obtain ⟨w2, hw2⟩ : ∃ w2, w2 = allocs w1 (objs w1.heap.size m1) := ⟨_, rfl⟩
  have HW2 : Hid (((((((((((((((((((w1.alloc (.cells #[.int .i64 3] 3)).alloc (.cells #[.int .i64 1] 3)).alloc (.cells #[.int .i64 2] 3)).alloc (.cells #[.int .i64 1, .int .i64 2, .int .i64 3] 3)).alloc (.cells #[.int .i64 1, .int .i64 2] 3)).alloc (.cells #[.int .i64 1, .int .i64 2] 3)).alloc (.cells #[.int .i64 3] 3)).alloc (.cells #[.int .i64 4] 3)).alloc (.cells #[.int .i64 2, .int .i64 1] 3)).alloc (.cells #[.int .i64 1, .int .i64 2, .int .i64 3, .int .i64 4, .int .i64 5, .int .i64 6, .int .i64 7] 3)).alloc (.cells #[.int .i64 1, .int .i64 5] 3)).alloc (.cells #[.int .i64 2, .int .i64 6] 3)).alloc (.cells #[.slice none 0 0, .slice none 0 0, .slice none 0 0, .slice m1.a0 m1.n0 m1.k0, .slice m1.a1 m1.n1 m1.k1, .slice m1.a2 m1.n2 m1.k2, .slice (some ⟨w1.heap.size, 0, none⟩) 1 1, .slice none 0 0, .slice none 0 0, .slice (some ⟨w1.heap.size + 1, 0, none⟩) 1 1, .slice none 0 0, .slice (some ⟨w1.heap.size + 1 + 1, 0, none⟩) 1 1, .slice (some ⟨w1.heap.size + 1 + 1 + 1, 0, none⟩) 3 3, .slice (some ⟨w1.heap.size + 1 + 1 + 1 + 1, 0, none⟩) 2 2, .slice none 0 0, .slice (some ⟨w1.heap.size + 1 + 1 + 1 + 1 + 1, 0, none⟩) 2 2, .slice (some ⟨w1.heap.size + 1 + 1 + 1 + 1 + 1 + 1, 0, none⟩) 1 1, .slice (some ⟨w1.heap.size + 1 + 1 + 1 + 1 + 1 + 1 + 1, 0, none⟩) 1 1, .slice (some ⟨w1.heap.size + 1 + 1 + 1 + 1 + 1 + 1 + 1 + 1, 0, none⟩) 2 2, .slice none 0 0, .slice none 0 0, .slice (some ⟨w1.heap.size + 1 + 1 + 1 + 1 + 1 + 1 + 1 + 1 + 1, 0, none⟩) 7 7, .slice none 0 0, .slice none 0 0, .slice (some ⟨w1.heap.size + 1 + 1 + 1 + 1 + 1 + 1 + 1 + 1 + 1 + 1, 0, none⟩) 2 2, .slice none 0 0, .slice (some ⟨w1.heap.size + 1 + 1 + 1 + 1 + 1 + 1 + 1 + 1 + 1 + 1 + 1, 0, none⟩) 2 2] 24)).alloc (.cells #[.int .i64 (-9223372036854775808), .int .i64 (-1), .int .i64 0, .int .i64 1, .int .i64 2, .int .i64 3, .int .i64 4, .int .i64 5, .int .i64 6, .int .i64 7, .int .i64 8, .int .i64 9223372036854775807] 3)).alloc (.cells #[.int .i64 2] 3)).alloc (.cells #[.int .i64 2, .int .i64 6] 3)).alloc (.cells #[.int .i64 1, .int .i64 2, .int .i64 3, .int .i64 4, .int .i64 5, .int .i64 6, .int .i64 7] 3)).alloc (.cells #[.int .i64 0, .int .i64 9] 3)).alloc (.cells #[.slice none 0 0, .slice (some ⟨w1.heap.size + 1 + 1 + 1 + 1 + 1 + 1 + 1 + 1 + 1 + 1 + 1 + 1 + 1 + 1, 0, none⟩) 1 1, .slice (some ⟨w1.heap.size + 1 + 1 + 1 + 1 + 1 + 1 + 1 + 1 + 1 + 1 + 1 + 1 + 1 + 1 + 1, 0, none⟩) 2 2, .slice (some ⟨w1.heap.size + 1 + 1 + 1 + 1 + 1 + 1 + 1 + 1 + 1 + 1 + 1 + 1 + 1 + 1 + 1 + 1, 0, none⟩) 7 7, .slice (some ⟨w1.heap.size + 1 + 1 + 1 + 1 + 1 + 1 + 1 + 1 + 1 + 1 + 1 + 1 + 1 + 1 + 1 + 1 + 1, 0, none⟩) 2 2] 22) = w2) := hid (by rw [hw2]; rfl)
  have hb12 : Below w1.heap.size w1 w2 := by rw [hw2]; exact (allocs_is _ _).2.1
  have HC := hid (confs_at w1 m1 ho1.inC w2 hw2)
  have HN := hid (nodes_at w1 m1 w2 hw2)
  have HF := hid (fars_at w1 m1 w2 hw2)
  have B2 : Hid (Below w.heap.size w w2) := hid (hb1.trans (hb12.mono hb1.size))
  obtain ⟨gc, hgc⟩ : ∃ b, b = w1.heap.size + 12 := ⟨_, rfl⟩
  obtain ⟨gn, hgn⟩ : ∃ b, b = w1.heap.size + 13 := ⟨_, rfl⟩
  obtain ⟨gf, hgf⟩ : ∃ b, b = w1.heap.size + 18 := ⟨_, rfl⟩
  rw [← hgc] at HC
  rw [← hgn] at HN
  rw [← hgf] at HF
  have HG : Hid (w1.heap.size + 1 + 1 + 1 + 1 + 1 + 1 + 1 + 1 + 1 + 1 + 1 + 1 = gc ∧ w1.heap.size + 1 + 1 + 1 + 1 + 1 + 1 + 1 + 1 + 1 + 1 + 1 + 1 + 1 = gn ∧ w1.heap.size + 1 + 1 + 1 + 1 + 1 + 1 + 1 + 1 + 1 + 1 + 1 + 1 + 1 + 1 + 1 + 1 + 1 + 1 = gf) := hid ⟨hgc.symm, hgn.symm, hgf.symm⟩
  obtain ⟨s2, hs2⟩ : ∃ s, s = w2.heap.size := ⟨_, rfl⟩
  have LB : Hid (∀ W, Below s2 w2 W → s2 ≤ W.heap.size) := hid (fun W hb => by have := hb.size; rw [hs2]; exact this)
  have HZ : Hid (w.heap.size ≤ s2) := hid (by rw [hs2]; exact B2.out.size)
  rw [← hs2] at HC HN HF
  clear hw2 ho1 hb1 hb12 hgc hgn hgf hs2
  go_upto_region 4 with fail
  rw [HW2.out, HG.out.2.2, HG.out.2.1, HG.out.1]
  clear HW2 HG
  go_wp2_with fail
  go_loopw [4] (fun v wr => ∃ i : Nat, i ≤ 9 ∧ v = .int .i64 (i : Int) ∧ Hid (Below s2 w2 wr)) (fun v _ => 9 - (RowKit.intOf v).toNat)
  case atStart => exact ⟨0, by omega, by simp, hid (Below.refl _ _)⟩
  case round =>
    obtain ⟨i, hi, rfl, GI⟩ := hrel
    by_cases hil : i < 9
    · have hi0 : (i : Int) < 9 := by omega
      obtain ⟨c, A0, k0, A1, k1, A2, k2, hcl, hci⟩ := HC.out i hil
      have HCI := hid hci
      have HCL := hid hcl
      clear hci hcl
      go_wp2_with fail
      go_loopw [5] (fun v wr => ∃ j : Nat, j ≤ 12 ∧ v = .int .i64 (j : Int) ∧ Hid (Below s2 w2 wr)) (fun v _ => 12 - (RowKit.intOf v).toNat)
      case atStart => exact ⟨0, by omega, by simp, GI⟩
      case round =>
        clear GI
        obtain ⟨j, hj, rfl, GJ⟩ := hrel
        by_cases hjl : j < 12
        · have hj0 : (j : Int) < 12 := by omega
          obtain ⟨x, hx, hxc⟩ := HN.out j hjl
          have HX := hid (And.intro hx hxc)
          clear hx hxc
          go_wp2_with fail
          go_loopw [6] (fun v wr => ∃ k : Nat, k ≤ 5 ∧ v = .int .i64 (k : Int) ∧ Hid (Below s2 w2 wr)) (fun v _ => 5 - (RowKit.intOf v).toNat)
          case atStart => exact ⟨0, by omega, by simp, GJ⟩
          case round =>
            clear GJ
            obtain ⟨k, hk, rfl, G0⟩ := hrel
            obtain ⟨v0, hv0⟩ : ∃ v, v = wr := ⟨_, rfl⟩
            rw [← hv0] at G0 ⊢
            clear hv0
            by_cases hkl : k < 5
            · have hk0 : (k : Int) < 5 := by omega
              obtain ⟨Af, nf, kf, f, hnf, hF⟩ := HF.out k hkl
              have HNF := hid hnf
              have FW : Hid (∀ W, Below v0.heap.size v0 W → (Im.ldX 24 (.pointer (some ⟨gc, i * 3, none⟩))).run Tryz.prog W = .ok (.agg #[.slice A0 c.old.length k0, .slice A1 c.new.length k1, .slice A2 c.lrn.length k2]) W ∧ W.cell? ⟨gn, j, none⟩ = some (.int .i64 x) ∧ InC W W.heap.size c ⟨A0, c.old.length, k0, A1, c.new.length, k1, A2, c.lrn.length, k2⟩ ∧ W.cell? ⟨gf, k, none⟩ = some (.slice Af nf kf) ∧ IsInts W W.heap.size Af f) := hid (fun W hW0 => by
                have hW := G0.out.trans (hW0.mono (LB.out _ G0.out))
                exact ⟨(HCI.out W hW).2, HX.out.2 W hW, (HCI.out W hW).1, (hF W hW).2, (hF W hW).1⟩)
              clear hnf hF
              go_wp2_with fail
              go_cut [86] from 54 to 86 (fun s W => s = .bool false ∧ Hid (Below s2 w2 W))
              case first =>
                rename_i J9 K9 h1 h2
                refine wp_region_all (w0 := v0) 33 (H13 gc gn gf i j k x c A0 A1 A2 k0 k1 k2 Af nf kf) [54, 55, 56, 57, 58, 59, 60, 61, 62, 63, 64, 65, 66, 67, 68, 69, 70, 71, 72, 73, 74, 75, 76, 77, 78, 79, 80, 81, 82, 83, 84, 85, 86] (by kernel_rfl) (by kernel_rfl) rfl (by kernel_rfl) (by kernel_rfl) ?arms ?he
                case arms =>
                  obtain ⟨i0, hi0, hz0, hz1, hz2⟩ := info_parts I.info_int
                  exact ⟨
                    ⟨.inl rfl, fun a W hb hkp hw => goes_move (hkp 1 (by decide)) rfl⟩,
                    ⟨.inl rfl, fun a W hb hkp hw => goes_move (hkp 4 (by decide)) rfl⟩,
                    ⟨.inl rfl, fun a W hb hkp hw => goes_index (v1 := .slice (some ⟨gc, 0, none⟩) 9 9) (v2 := .int .i64 (i : Int)) (hw 0 54 (by kernel_rfl)) (hw 1 55 (by kernel_rfl)) (show (Instr.indexAt _ _ _).run _ W = .ok (.pointer (some ⟨gc, i * 3, none⟩)) W by clear hkp hw hb; go_simp) rfl⟩,
                    ⟨.inl rfl, fun a W hb hkp hw => goes_load (v1 := .pointer (some ⟨gc, i * 3, none⟩)) (hw 2 56 (by kernel_rfl)) (show (Instr.loadAt _ _).run _ W = .ok (.agg #[.slice A0 c.old.length k0, .slice A1 c.new.length k1, .slice A2 c.lrn.length k2]) W by exact (FW.out W hb).1) rfl⟩,
                    ⟨.inl rfl, fun a W hb hkp hw => goes_move (hkp 2 (by decide)) rfl⟩,
                    ⟨.inl rfl, fun a W hb hkp hw => goes_move (hkp 5 (by decide)) rfl⟩,
                    ⟨.inl rfl, fun a W hb hkp hw => goes_index (v1 := .slice (some ⟨gn, 0, none⟩) 12 12) (v2 := .int .i64 (j : Int)) (hw 4 58 (by kernel_rfl)) (hw 5 59 (by kernel_rfl)) (show (Instr.indexAt _ _ _).run _ W = .ok (.pointer (some ⟨gn, j, none⟩)) W by clear hkp hw hb; go_simp) rfl⟩,
                    ⟨.inl rfl, fun a W hb hkp hw => goes_load (v1 := .pointer (some ⟨gn, j, none⟩)) (hw 6 60 (by kernel_rfl)) (show (Instr.loadAt _ _).run _ W = .ok (.int .i64 x) W by (have hc := (FW.out W hb).2.1; clear hkp hw hb; go_simp)) rfl⟩,
                    ⟨.inl rfl, fun a W hb hkp hw => goes_move (hkp 3 (by decide)) rfl⟩,
                    ⟨.inl rfl, fun a W hb hkp hw => goes_move (hkp 6 (by decide)) rfl⟩,
                    ⟨.inl rfl, fun a W hb hkp hw => goes_index (v1 := .slice (some ⟨gf, 0, none⟩) 5 5) (v2 := .int .i64 (k : Int)) (hw 8 62 (by kernel_rfl)) (hw 9 63 (by kernel_rfl)) (show (Instr.indexAt _ _ _).run _ W = .ok (.pointer (some ⟨gf, k, none⟩)) W by clear hkp hw hb; go_simp) rfl⟩,
                    ⟨.inl rfl, fun a W hb hkp hw => goes_load (v1 := .pointer (some ⟨gf, k, none⟩)) (hw 10 64 (by kernel_rfl)) (show (Instr.loadAt _ _).run _ W = .ok (.slice Af nf kf) W by (have hc := (FW.out W hb).2.2.2.1; clear hkp hw hb; go_simp)) rfl⟩,
                    ⟨.inl rfl, fun a W hb hkp hw => by (have q0 : a.eval (.tmp 57) = .agg #[.slice A0 c.old.length k0, .slice A1 c.new.length k1, .slice A2 c.lrn.length k2] := hw 3 57 (by kernel_rfl); have q1 : a.eval (.tmp 61) = .int .i64 x := hw 7 61 (by kernel_rfl); have q2 : a.eval (.tmp 65) = .slice Af nf kf := hw 11 65 (by kernel_rfl); exact goes_callN #[.agg #[.slice A0 c.old.length k0, .slice A1 c.new.length k1, .slice A2 c.lrn.length k2], .int .i64 x, .slice Af nf kf] (by simp [q0, q1, q2]) (by go_simp) ((steps_any W.heap.size c ⟨A0, c.old.length, k0, A1, c.new.length, k1, A2, c.lrn.length, k2⟩ x HX.out.1 Af nf kf f HNF.out W (FW.out W hb).2.2.1 (FW.out W hb).2.2.2.2 (Nat.le_refl _)).mono fun e w9 h => ⟨_, h.1, rfl, h.2⟩))⟩,
                    ⟨.inl rfl, fun a W hb hkp hw => goes_val (run_notV (hw 12 66 (by kernel_rfl))) rfl⟩,
                    ⟨.inl rfl, fun a W hb hkp hw => goes_move rfl (hw 13 67 (by kernel_rfl))⟩,
                    ⟨.inr ⟨14, 68, false, rfl, by kernel_rfl, fun _ _ h => h⟩, fun a W hb hkp hw => goes_move (hkp 1 (by decide)) rfl⟩,
                    ⟨.inr ⟨14, 68, false, rfl, by kernel_rfl, fun _ _ h => h⟩, fun a W hb hkp hw => goes_move (hkp 4 (by decide)) rfl⟩,
                    ⟨.inr ⟨14, 68, false, rfl, by kernel_rfl, fun _ _ h => h⟩, fun a W hb hkp hw => goes_index (v1 := .slice (some ⟨gc, 0, none⟩) 9 9) (v2 := .int .i64 (i : Int)) (hw 15 69 (by kernel_rfl)) (hw 16 70 (by kernel_rfl)) (show (Instr.indexAt _ _ _).run _ W = .ok (.pointer (some ⟨gc, i * 3, none⟩)) W by clear hkp hw hb; go_simp) rfl⟩,
                    ⟨.inr ⟨14, 68, false, rfl, by kernel_rfl, fun _ _ h => h⟩, fun a W hb hkp hw => goes_load (v1 := .pointer (some ⟨gc, i * 3, none⟩)) (hw 17 71 (by kernel_rfl)) (show (Instr.loadAt _ _).run _ W = .ok (.agg #[.slice A0 c.old.length k0, .slice A1 c.new.length k1, .slice A2 c.lrn.length k2]) W by exact (FW.out W hb).1) rfl⟩,
                    ⟨.inr ⟨14, 68, false, rfl, by kernel_rfl, fun _ _ h => h⟩, fun a W hb hkp hw => goes_move (hkp 5 (by decide)) rfl⟩,
                    ⟨.inr ⟨14, 68, false, rfl, by kernel_rfl, fun _ _ h => h⟩, fun a W hb hkp hw => goes_move (hkp 2 (by decide)) rfl⟩,
                    ⟨.inr ⟨14, 68, false, rfl, by kernel_rfl, fun _ _ h => h⟩, fun a W hb hkp hw => goes_move (hkp 5 (by decide)) rfl⟩,
                    ⟨.inr ⟨14, 68, false, rfl, by kernel_rfl, fun _ _ h => h⟩, fun a W hb hkp hw => goes_index (v1 := .slice (some ⟨gn, 0, none⟩) 12 12) (v2 := .int .i64 (j : Int)) (hw 20 74 (by kernel_rfl)) (hw 21 75 (by kernel_rfl)) (show (Instr.indexAt _ _ _).run _ W = .ok (.pointer (some ⟨gn, j, none⟩)) W by clear hkp hw hb; go_simp) rfl⟩,
                    ⟨.inr ⟨14, 68, false, rfl, by kernel_rfl, fun _ _ h => h⟩, fun a W hb hkp hw => goes_load (v1 := .pointer (some ⟨gn, j, none⟩)) (hw 22 76 (by kernel_rfl)) (show (Instr.loadAt _ _).run _ W = .ok (.int .i64 x) W by (have hc := (FW.out W hb).2.1; clear hkp hw hb; go_simp)) rfl⟩,
                    ⟨.inr ⟨14, 68, false, rfl, by kernel_rfl, fun _ _ h => h⟩, fun a W hb hkp hw => goes_move (hkp 3 (by decide)) rfl⟩,
                    ⟨.inr ⟨14, 68, false, rfl, by kernel_rfl, fun _ _ h => h⟩, fun a W hb hkp hw => goes_move (hkp 6 (by decide)) rfl⟩,
                    ⟨.inr ⟨14, 68, false, rfl, by kernel_rfl, fun _ _ h => h⟩, fun a W hb hkp hw => goes_index (v1 := .slice (some ⟨gf, 0, none⟩) 5 5) (v2 := .int .i64 (k : Int)) (hw 24 78 (by kernel_rfl)) (hw 25 79 (by kernel_rfl)) (show (Instr.indexAt _ _ _).run _ W = .ok (.pointer (some ⟨gf, k, none⟩)) W by clear hkp hw hb; go_simp) rfl⟩,
                    ⟨.inr ⟨14, 68, false, rfl, by kernel_rfl, fun _ _ h => h⟩, fun a W hb hkp hw => goes_load (v1 := .pointer (some ⟨gf, k, none⟩)) (hw 26 80 (by kernel_rfl)) (show (Instr.loadAt _ _).run _ W = .ok (.slice Af nf kf) W by (have hc := (FW.out W hb).2.2.2.1; clear hkp hw hb; go_simp)) rfl⟩,
                    ⟨.inr ⟨14, 68, false, rfl, by kernel_rfl, fun _ _ h => h⟩, fun a W hb hkp hw => goes_slice #[.int .i64 1, .int .i64 2, .int .i64 3, .int .i64 5] 1 hz1 Tryz.underlying22 hi0 hz0 (by decide) (by decide) [(0, .int .i64 1), (1, .int .i64 2), (2, .int .i64 3), (3, .int .i64 5)] (by simp [ev_const0]) (by kernel_rfl) ⟨W.heap.size, Nat.zero_le _, rfl, heap_alloc_new _ _⟩⟩,
                    ⟨.inr ⟨14, 68, false, rfl, by kernel_rfl, fun _ _ h => h⟩, fun a W hb hkp hw => goes_slice #[.int .i64 1, .int .i64 2, .int .i64 4, .int .i64 6, .int .i64 3] 1 hz1 Tryz.underlying22 hi0 hz0 (by decide) (by decide) [(0, .int .i64 1), (1, .int .i64 2), (2, .int .i64 4), (3, .int .i64 6), (4, .int .i64 3)] (by simp [ev_const0]) (by kernel_rfl) ⟨W.heap.size, Nat.zero_le _, rfl, heap_alloc_new _ _⟩⟩,
                    ⟨.inr ⟨14, 68, false, rfl, by kernel_rfl, fun _ _ h => h⟩, fun a W hb hkp hw => by (have q0 : a.eval (.tmp 72) = .agg #[.slice A0 c.old.length k0, .slice A1 c.new.length k1, .slice A2 c.lrn.length k2] := hw 18 72 (by kernel_rfl); have q1 : a.eval (.tmp 73) = .int .i64 (j : Int) := hw 19 73 (by kernel_rfl); have q2 : a.eval (.tmp 77) = .int .i64 x := hw 23 77 (by kernel_rfl); have q3 : a.eval (.tmp 81) = .slice Af nf kf := hw 27 81 (by kernel_rfl); obtain ⟨b1, _, e4, r1⟩ := hw 28 82 (by kernel_rfl); obtain ⟨b2, _, e5, r2⟩ := hw 29 83 (by kernel_rfl); exact goes_callN #[.agg #[.slice A0 c.old.length k0, .slice A1 c.new.length k1, .slice A2 c.lrn.length k2], .int .i64 (j : Int), .int .i64 x, .slice Af nf kf, .slice (some ⟨b1, 0, none⟩) 4 4, .slice (some ⟨b2, 0, none⟩) 5 5] (by simp [q0, q1, q2, q3, e4, e5]) (by go_simp) ((safe_any W.heap.size c ⟨A0, c.old.length, k0, A1, c.new.length, k1, A2, c.lrn.length, k2⟩ (j : Int) x HX.out.1 Af nf kf f HNF.out (some ⟨b1, 0, none⟩) 4 4 [1, 2, 3, 5] rfl (some ⟨b2, 0, none⟩) 5 5 [1, 2, 4, 6, 3] rfl W (FW.out W hb).2.2.1 (FW.out W hb).2.2.2.2 (kn_lit [1, 2, 3, 5] r1 (by decide)) (kn_lit [1, 2, 4, 6, 3] r2 (by decide)) (Nat.le_refl _)).mono fun e w9 h => ⟨_, h.1, rfl, h.2⟩))⟩,
                    ⟨.inr ⟨14, 68, false, rfl, by kernel_rfl, fun _ _ h => h⟩, fun a W hb hkp hw => goes_val (run_notV (hw 30 84 (by kernel_rfl))) rfl⟩,
                    ⟨.inl rfl, fun a W hb hkp hw => goes_val (run_pick (hw 14 68 (by kernel_rfl)) (show _ = _ from hw 31 85 (by kernel_rfl))) rfl⟩, trivial⟩
                case he =>
                  intro u v9 hH hB
                  have e9 : u 86 = .bool false := hH 32 86 (by decide) (by kernel_rfl)
                  have G9 := hid (G0.out.trans (hB.mono (LB.out _ G0.out)))
                  exact h2 _ _ (Met.intro (h1 _ _ ⟨u 54, u 55, u 56, u 57, u 58, u 59, u 60, u 61, u 62, u 63, u 64, u 65, u 66, u 67, u 68, u 69, u 70, u 71, u 72, u 73, u 74, u 75, u 76, u 77, u 78, u 79, u 80, u 81, u 82, u 83, u 84, u 85, u 86, ⟨e9, G9⟩, by kernel_rfl⟩))
              case rest =>
                obtain ⟨rfl, G9⟩ := hcut
                clear G0 FW
                go_wp2_with fail
                go_roundw
                case rel => exact ⟨k + 1, by omega, by go_num, G9⟩
                case measure => simp [RowKit.intOf]; omega
            · have hk0 : ¬ (k : Int) < 5 := by omega
              have FW : Hid (∀ W, Below v0.heap.size v0 W → (Im.ldX 24 (.pointer (some ⟨gc, i * 3, none⟩))).run Tryz.prog W = .ok (.agg #[.slice A0 c.old.length k0, .slice A1 c.new.length k1, .slice A2 c.lrn.length k2]) W ∧ W.cell? ⟨gn, j, none⟩ = some (.int .i64 x) ∧ InC W W.heap.size c ⟨A0, c.old.length, k0, A1, c.new.length, k1, A2, c.lrn.length, k2⟩) := hid (fun W hW0 => by
                have hW := G0.out.trans (hW0.mono (LB.out _ G0.out))
                exact ⟨(HCI.out W hW).2, HX.out.2 W hW, (HCI.out W hW).1⟩)
              go_wp2_with fail
              go_cut [96] from 87 to 96 (fun s W => s = .bool false ∧ Hid (Below s2 w2 W))
              case first =>
                rename_i J9 K9 h1 h2
                refine wp_region_all (w0 := v0) 10 (H15 gc gn i j x c A0 A1 A2 k0 k1 k2) [87, 88, 89, 90, 91, 92, 93, 94, 95, 96] (by kernel_rfl) (by kernel_rfl) rfl (by kernel_rfl) (by kernel_rfl) ?arms ?he
                case arms =>
                  obtain ⟨i0, hi0, hz0, hz1, hz2⟩ := info_parts I.info_int
                  exact ⟨
                    ⟨.inl rfl, fun a W hb hkp hw => goes_move (hkp 1 (by decide)) rfl⟩,
                    ⟨.inl rfl, fun a W hb hkp hw => goes_move (hkp 4 (by decide)) rfl⟩,
                    ⟨.inl rfl, fun a W hb hkp hw => goes_index (v1 := .slice (some ⟨gc, 0, none⟩) 9 9) (v2 := .int .i64 (i : Int)) (hw 0 87 (by kernel_rfl)) (hw 1 88 (by kernel_rfl)) (show (Instr.indexAt _ _ _).run _ W = .ok (.pointer (some ⟨gc, i * 3, none⟩)) W by clear hkp hw hb; go_simp) rfl⟩,
                    ⟨.inl rfl, fun a W hb hkp hw => goes_load (v1 := .pointer (some ⟨gc, i * 3, none⟩)) (hw 2 89 (by kernel_rfl)) (show (Instr.loadAt _ _).run _ W = .ok (.agg #[.slice A0 c.old.length k0, .slice A1 c.new.length k1, .slice A2 c.lrn.length k2]) W by exact (FW.out W hb).1) rfl⟩,
                    ⟨.inl rfl, fun a W hb hkp hw => goes_move (hkp 2 (by decide)) rfl⟩,
                    ⟨.inl rfl, fun a W hb hkp hw => goes_move (hkp 5 (by decide)) rfl⟩,
                    ⟨.inl rfl, fun a W hb hkp hw => goes_index (v1 := .slice (some ⟨gn, 0, none⟩) 12 12) (v2 := .int .i64 (j : Int)) (hw 4 91 (by kernel_rfl)) (hw 5 92 (by kernel_rfl)) (show (Instr.indexAt _ _ _).run _ W = .ok (.pointer (some ⟨gn, j, none⟩)) W by clear hkp hw hb; go_simp) rfl⟩,
                    ⟨.inl rfl, fun a W hb hkp hw => goes_load (v1 := .pointer (some ⟨gn, j, none⟩)) (hw 6 93 (by kernel_rfl)) (show (Instr.loadAt _ _).run _ W = .ok (.int .i64 x) W by (have hc := (FW.out W hb).2.1; clear hkp hw hb; go_simp)) rfl⟩,
                    ⟨.inl rfl, fun a W hb hkp hw => by (have q0 : a.eval (.tmp 90) = .agg #[.slice A0 c.old.length k0, .slice A1 c.new.length k1, .slice A2 c.lrn.length k2] := hw 3 90 (by kernel_rfl); have q1 : a.eval (.tmp 94) = .int .i64 x := hw 7 94 (by kernel_rfl); exact goes_callN #[.agg #[.slice A0 c.old.length k0, .slice A1 c.new.length k1, .slice A2 c.lrn.length k2], .int .i64 x] (by simp [q0, q1]) (by go_simp) ((comes_any W.heap.size c ⟨A0, c.old.length, k0, A1, c.new.length, k1, A2, c.lrn.length, k2⟩ x HX.out.1 W (FW.out W hb).2.2 (Nat.le_refl _)).mono fun e w9 h => ⟨_, h.1, rfl, h.2⟩))⟩,
                    ⟨.inl rfl, fun a W hb hkp hw => goes_val (run_notV (hw 8 95 (by kernel_rfl))) rfl⟩, trivial⟩
                case he =>
                  intro u v9 hH hB
                  have e9 : u 96 = .bool false := hH 9 96 (by decide) (by kernel_rfl)
                  have G9 := hid (G0.out.trans (hB.mono (LB.out _ G0.out)))
                  exact h2 _ _ (Met.intro (h1 _ _ ⟨u 87, u 88, u 89, u 90, u 91, u 92, u 93, u 94, u 95, u 96, ⟨e9, G9⟩, by kernel_rfl⟩))
              case rest =>
                obtain ⟨rfl, G9⟩ := hcut
                clear G0 FW
                go_wp2_with fail
                go_roundw
                case rel => exact ⟨j + 1, by omega, by go_num, G9⟩
                case measure => simp [RowKit.intOf]; omega
        · have hj0 : ¬ (j : Int) < 12 := by omega
          have G0 := GJ
          clear GJ
          obtain ⟨v0, hv0⟩ : ∃ v, v = wr := ⟨_, rfl⟩
          rw [← hv0] at G0 ⊢
          clear hv0
          have hq := HCI.out v0 G0.out
          have ldc := hq.2
          obtain ⟨p1, hp1⟩ : ∃ p, p = v0.alloc (.cells #[.int .u8 9] 5) := ⟨_, rfl⟩
          obtain ⟨p2, hp2⟩ : ∃ p, p = p1.alloc (.cells #[.int .i64 0, .int .i64 2, .slice (some ⟨v0.heap.size, 0, none⟩) 1 1, .int .i64 0, .int .i64 1, .slice none 0 0] 33) := ⟨_, rfl⟩
          have z1 : p1.heap.size = v0.heap.size + 1 := by rw [hp1]; simp
          have z2 : p2.heap.size = v0.heap.size + 2 := by rw [hp2, World.size_alloc, z1]
          have hb1 : Below v0.heap.size v0 p1 := by rw [hp1]; exact below_new _ _
          have hb2 : Below p1.heap.size p1 p2 := by rw [hp2]; exact below_new _ _
          have r1 : p1.heap[v0.heap.size]? = some (.cells #[.int .u8 9] 5 (0, 0)) := by rw [hp1]; exact heap_alloc_new _ _
          have r2 : p2.heap[v0.heap.size + 1]? = some (.cells #[.int .i64 0, .int .i64 2, .slice (some ⟨v0.heap.size, 0, none⟩) 1 1, .int .i64 0, .int .i64 1, .slice none 0 0] 33 (0, 0)) := by rw [hp2, ← z1]; exact heap_alloc_new _ _
          obtain ⟨p3, hp3⟩ : ∃ p, p = p2.alloc (.cells #[.int .i64 0, .int .i64 0, .int .i64 0, .int .i64 (i : Int), .int .i64 0, .slice (some ⟨v0.heap.size + 1, 0, none⟩) 2 2, .slice A0 c.old.length k0, .slice A1 c.new.length k1, .slice A2 c.lrn.length k2, .slice none 0 0] 38) := ⟨_, rfl⟩
          have hb3 : Below p2.heap.size p2 p3 := by rw [hp3]; exact below_new _ _
          have r3 : p3.heap[v0.heap.size + 2]? = some (.cells #[.int .i64 0, .int .i64 0, .int .i64 0, .int .i64 (i : Int), .int .i64 0, .slice (some ⟨v0.heap.size + 1, 0, none⟩) 2 2, .slice A0 c.old.length k0, .slice A1 c.new.length k1, .slice A2 c.lrn.length k2, .slice none 0 0] 38 (0, 0)) := by rw [hp3, ← z2]; exact heap_alloc_new _ _
          have st3 := Im.stNew p2 38 10 Im.info_hard #[.int .i64 0, .int .i64 0, .int .i64 0, .int .i64 0, .int .i64 0, .slice none 0 0, .slice none 0 0, .slice none 0 0, .slice none 0 0, .slice none 0 0] #[.int .i64 0, .int .i64 0, .int .i64 0, .int .i64 (i : Int), .int .i64 0, .slice (some ⟨v0.heap.size + 1, 0, none⟩) 2 2, .slice A0 c.old.length k0, .slice A1 c.new.length k1, .slice A2 c.lrn.length k2, .slice none 0 0] rfl rfl (by simp [Value.oneCell'])
          rw [← hp3, z2, hp2, hp1] at st3
          have hb12 := hb1.trans (hb2.mono hb1.size)
          have hb13 := hb12.trans (hb3.mono hb12.size)
          have G3 : Hid (Below s2 w2 p3) := hid (G0.out.trans (hb13.mono (LB.out _ G0.out)))
          have ld3 := Im.ldRow Im.info_hard Tryz.underlying38 rfl r3 rfl
          have HO1 : Hid (Calls Tryz.prog 8 #[.agg #[.int .i64 0, .int .i64 0, .int .i64 0, .int .i64 (i : Int), .int .i64 0, .slice (some ⟨v0.heap.size + 1, 0, none⟩) 2 2, .slice A0 c.old.length k0, .slice A1 c.new.length k1, .slice A2 c.lrn.length k2, .slice none 0 0]] p3 fun e w' => e = .returned (.bool true) ∧ Below p3.heap.size p3 w') := hid (by
            have y1 := ((hb2.trans (hb3.mono hb2.size)).block _ (by omega)).trans r1
            have y2 := (hb3.block _ (by omega)).trans r2
            exact confOf_any (knH i c knE) (knA (some ⟨v0.heap.size + 1, 0, none⟩) 2 A0 k0 A1 k1 A2 k2) (kn_ok i (by omega) c HCL.out knE (.inl rfl)) p3 (kn_pt p3 i (by omega) c (HCI.out p3 G3.out).1 _ (kn_es p3 _ _ y1 y2)))
          have HO2 : Hid (∀ W, Below s2 w2 W → Calls Tryz.prog 8 #[.agg #[.int .i64 0, .int .i64 0, .int .i64 0, .int .i64 0, .int .i64 0, .slice none 0 0, .slice A0 c.old.length k0, .slice A1 c.new.length k1, .slice A2 c.lrn.length k2, .slice none 0 0]] W fun e w' => e = .returned (.bool true) ∧ Below W.heap.size W w') := hid (fun W hW => confOf_any (knH 0 c []) (knA none 0 A0 k0 A1 k1 A2 k2) (kn_ok 0 (by omega) c HCL.out [] (.inr rfl)) W (kn_pt0 W 0 (by omega) c (HCI.out W hW).1))
          clear hq hp1 hp2 hp3 z1 z2 hb1 hb2 hb3 hb12 hb13 r1 r2 r3 G0
          go_wp2_with fail
          refine HO1.out.mono ?_
          rintro e y1 ⟨rfl, hy1⟩
          have G4 : Hid (Below s2 w2 y1) := hid (G3.out.trans (hy1.mono (LB.out _ G3.out)))
          have ldd := (HCI.out y1 G4.out).2
          clear hy1 ld3 st3 ldc
          go_wp2_with fail
          refine (HO2.out y1 G4.out).mono ?_
          rintro e y2 ⟨rfl, hy2⟩
          have G5 : Hid (Below s2 w2 y2) := hid (G4.out.trans (hy2.mono (LB.out _ G4.out)))
          clear hy2 ldd HO1 HO2 G3
          go_wp2_with fail
          go_roundw
          case rel => exact ⟨i + 1, by omega, by go_num, G5⟩
          case measure => simp [RowKit.intOf]; omega
    · have hi0 : ¬ (i : Int) < 9 := by omega
      have HB9 : Hid (Below w.heap.size w wr) := hid (B2.out.trans (GI.out.mono HZ.out))
      clear GI HC HN HF
      go_wp2_with fail
      refine (works_any wr).mono ?_
      rintro e w9 ⟨rfl, hb9⟩
      have HB := hid (HB9.out.trans (hb9.mono HB9.out.size))
      clear hb9
      go_wp2_with fail
      go_ret
      exact ⟨rfl, HB.out⟩
set_option maxRecDepth 100000 in
theorem lifted (os : Os) (started : os.Started) (H : Type) (enc : TypeId × Value → H) :
    ReturnsInHanded {} Tryz.checked os 3 .any (Rows.confKnownSpec.pre6 enc Tryz.prog Tryz.f3 Rows.confKnownRow.domain false) (Rows.confKnownSpec.post enc Tryz.prog Tryz.f3 false true false false) := by
  refine returnsInHanded_of_change_sized (C := Tryz.checked) own started (by kernel_rfl) Tryz.func3
    (ChangeSpec.witness6 (enc := enc) (C := Tryz.checked) false ⟨#[], #[], []⟩ 8 (by kernel_rfl) (by kernel_rfl) (by kernel_rfl) (by kernel_rfl)) ?_
  intro W base args ds gs before hval0 hW hcnd hsz0 _
  have hsz : (DataW.weightsEach Tryz.prog (Tryz.f3.params.toList ++ Rows.confKnownSpec.plain.varTypes Tryz.prog) (ds ++ gs)).all (· ≤ reachBytes) = true := hsz0
  clear hsz0
  have hval : ∀ (j : Nat) t v, Tryz.f3.params[j]? = some t → args[j]? = some v → Value.okWide Tryz.prog W .any base t v := hval0
  have hW' := hW
  obtain ⟨p, q, hA0, hV, rfl, hfz, hnd⟩ := hW
  have hA : DataW.TrodAll enc Tryz.prog W 0 (fun _ => true) true Tryz.f3.params.toList args.toList ds p := hA0
  rw [Tryz.params3] at hA hval hsz
  obtain ⟨rfl, rfl, rfl⟩ := trodAll_none hA
  obtain ⟨rfl, rfl⟩ := trodVars_none hV
  clear hA0 hval0
  refine (walk  W ).mono fun e W' ⟨he, bel⟩ => ?_
  subst he
  exact ⟨_, rfl, _, _, _, [], _, [], hW', trodAll_mk1 (shut_bool Tryz.underlying4 _), trodAll_mk0, rfl, bel.frame _, fun h => by cases h⟩
theorem over : Rows.confKnownRow.holds Tryz.pinned (OpenSpec.ofChange Rows.confKnownSpec) :=
  OpenClaim.holds_of_wide 3 Tryz.f3 rfl rfl rfl rfl rfl rfl rfl ⟨rfl, rfl, rfl, rfl, rfl⟩ rfl rfl rfl rfl rfl (by kernel_rfl) Tryz.func3 (by kernel_rfl)
    (of_decide_eq_true (by kernel_rfl)) (by unfold Func.isWrapper; first | (rw [if_pos (by decide +kernel)]; kernel_rfl) | (rw [if_neg (by decide +kernel)]; exact ⟨rfl, rfl⟩))
    (fun os started H enc _ => lifted os started H enc)
theorem proved : Rows.ConfKnownSaid := over
end Go.Proofs.YtfkjahpcpmcefaaGreat.confKnown
