/- The walk through what a journal makes of a sector's bytes. -/
import Derived.Test.YtomnbaeokmpobaaJoB
namespace Go.Proofs.Ytomnbaeokmpobaa
open Go.RowKit

namespace J
theorem prefix_at (B : Nat) (A : Option Addr) (c : Nat) (l : List Nat) (n : Nat) (hn : l.length = n) (hc : n ≤ c) (hc2 : c ≤ maxLen) (hz : A = none → c = 0) (w : World) (h : IsBytes w B A l) (e m : Int) (k : Nat) (A' : Option Addr) (c' : Nat) (h' : IsBytes w w.heap.size A' (Jo.head e m k)) :
    Calls Try.prog 37 #[.slice A n c, .slice A' 24 c'] w fun e' w' => e' = .returned (.bool (decide (Jo.head e m k <+: l))) ∧ w' = w :=
  prefix_any B w.heap.size A A' c c' l (Jo.head e m k) n 24 hn (Jo.head_length _ _ _) hc hc2 hz w h h'

set_option maxRecDepth 100000 in
set_option maxHeartbeats 800000 in
theorem expected_any (A : Option Addr) (c : Nat) (l : List Nat) (N : Nat) (hN : l.length = N) (hc : N ≤ c) (hc2 : c ≤ maxLen) (hz : A = none → c = 0) (hl : N ≤ 100000) (e m : Int) (he : InInt e) (hm : InInt m) (i : Nat) (hi : i ≤ 1000000) (w : World) (h : IsBytes w w.heap.size A l) :
    Calls Try.prog 24 #[.slice A N c, .int .i64 e, .int .i64 m, .int .i64 (i : Int)] w fun e' w' => ∃ A' c' n', e' = .returned (.tuple #[.slice A' n' c', .bool (Jo.due l e m i).2.1, .bool (Jo.due l e m i).2.2]) ∧ n' = (Jo.due l e m i).1.length ∧
      IsBytes w' w'.heap.size A' (Jo.due l e m i).1 ∧ (A' = none → c' = 0) ∧ Below w.heap.size w w' := by
  have HM0 := hid (fun w' => mark_any i false hi w')
  have HM1 := hid (fun w' => mark_any i true hi w')
  have hib : ∀ b : Bool, InInt ((Jo.mark i b : Nat) : Int) := fun b => by unfold InInt Jo.mark; cases b <;> simp <;> omega
  have HH0 := hid (fun w' => head_any e m (Jo.mark i false : Nat) he hm (hib _) w')
  have HH1 := hid (fun w' => head_any e m (Jo.mark i true : Nat) he hm (hib _) w')
  have HX := hid (And.intro hN (And.intro hc (And.intro hc2 hz)))
  have HB := hid h
  clear h hz hib he hm hc2
  by_cases h1 : Jo.head e m (Jo.mark i false : Nat) <+: l
  · have hlen : 24 ≤ N := by have := h1.length_le; rw [Jo.head_length] at this; omega
    have HD : Hid (Jo.due l e m i = (l.drop 24, false, decide ((l.drop 24).length = 40))) := hid (by unfold Jo.due; rw [if_pos h1])
    have HP : Hid (decide (Jo.head e m (Jo.mark i false : Nat) <+: l) = true) := hid (decide_eq_true h1)
    rw [HD.out]
    clear h1 HH1 HM1
    obtain ⟨b, off, rfl, _, _⟩ := HB.out.cells 0 (by omega)
    have hd := HB.out.from 24
    by_cases hc24 : c = 24
    · subst hc24
      obtain rfl : N = 24 := by omega
      have hdn : l.drop 24 = [] := List.drop_of_length_le (by omega)
      have HDN := hid hdn
      clear hd hdn
      go_enter Try.func24, Try.ntmps24
      go_wp2_with fail
      refine (HM0.out w).mono ?_
      rintro e1 w1 ⟨rfl, rfl⟩
      go_wp2_with fail
      refine (HH0.out _).mono ?_
      rintro e2 w2 ⟨A2, c2, rfl, hown, hb⟩
      have Hb := hid hb
      have HP2 := hid (prefix_at _ (some ⟨b, off, none⟩) 24 l 24 HX.out.1 HX.out.2.1 HX.out.2.2.1 (fun h => by cases h) w2 (HB.out.below hb) e m (Jo.mark i false) A2 c2 hown.reads)
      rw [HP.out] at HP2
      clear hb hown
      go_wp2_with fail
      refine HP2.out.mono ?_
      rintro e3 w3 ⟨rfl, rfl⟩
      go_wp2
      go_ret3
      refine ⟨some ⟨b, off, none⟩, 0, 0, ?_, ?_, ?_, ?_, Hb.out⟩
      · rw [HDN.out]; rfl
      · rw [HDN.out]; rfl
      · rw [HDN.out]; exact IsBytes.nil
      · intro h; cases h
    · go_enter Try.func24, Try.ntmps24
      go_wp2_with fail
      refine (HM0.out w).mono ?_
      rintro e1 w1 ⟨rfl, rfl⟩
      go_wp2_with fail
      refine (HH0.out _).mono ?_
      rintro e2 w2 ⟨A2, c2, rfl, hown, hb⟩
      have Hb := hid (And.intro hb (hd.below hb))
      have HP2 := hid (prefix_at _ (some ⟨b, off, none⟩) c l N HX.out.1 HX.out.2.1 HX.out.2.2.1 (fun h => by cases h) w2 (HB.out.below hb) e m (Jo.mark i false) A2 c2 hown.reads)
      rw [HP.out] at HP2
      clear hb hown hd
      go_wp2_with fail
      refine HP2.out.mono ?_
      rintro e3 w3 ⟨rfl, rfl⟩
      go_wp2
      go_ret3
      refine ⟨some ⟨b, off + 24, none⟩, c - 24, N - 24, ?_, ?_, Hb.out.2.more Hb.out.1.size, (fun h => by cases h), Hb.out.1⟩
      · have e40 : (((N - 24 : Nat) : Int) == 40) = decide ((l.drop 24).length = 40) := by
          rw [List.length_drop, HX.out.1, Bool.eq_iff_iff]
          simp only [beq_iff_eq, decide_eq_true_eq]
          omega
        rw [← e40]; rfl
      · rw [List.length_drop, HX.out.1]
  · have HP : Hid (decide (Jo.head e m (Jo.mark i false : Nat) <+: l) = false) := hid (decide_eq_false h1)
    by_cases h2 : Jo.head e m (Jo.mark i true : Nat) <+: l
    · have hlen : 24 ≤ N := by have := h2.length_le; rw [Jo.head_length] at this; omega
      have HD : Hid (Jo.due l e m i = (l.drop 24, true, decide (0 < (l.drop 24).length ∨ i = 0))) := hid (by unfold Jo.due; rw [if_neg h1, if_pos h2])
      have HPb : Hid (decide (Jo.head e m (Jo.mark i true : Nat) <+: l) = true) := hid (decide_eq_true h2)
      rw [HD.out]
      clear h1 h2
      obtain ⟨b, off, rfl, _, _⟩ := HB.out.cells 0 (by omega)
      have hd := HB.out.from 24
      by_cases hc24 : c = 24
      · subst hc24
        obtain rfl : N = 24 := by omega
        have hdn : l.drop 24 = [] := List.drop_of_length_le (by omega)
        have HDN := hid hdn
        clear hd hdn
        go_enter Try.func24, Try.ntmps24
        go_wp2_with fail
        refine (HM0.out w).mono ?_
        rintro e1 w1 ⟨rfl, rfl⟩
        go_wp2_with fail
        refine (HH0.out _).mono ?_
        rintro e2 w2 ⟨A2, c2, rfl, hown, hb⟩
        have Hb := hid hb
        have HP2 := hid (prefix_at _ (some ⟨b, off, none⟩) 24 l 24 HX.out.1 HX.out.2.1 HX.out.2.2.1 (fun h => by cases h) w2 (HB.out.below hb) e m (Jo.mark i false) A2 c2 hown.reads)
        rw [HP.out] at HP2
        clear hb hown
        go_wp2_with fail
        refine HP2.out.mono ?_
        rintro e3 w3 ⟨rfl, rfl⟩
        go_wp2_with fail
        refine (HM1.out _).mono ?_
        rintro e1 w1 ⟨rfl, rfl⟩
        go_wp2_with fail
        refine (HH1.out _).mono ?_
        rintro e2 w4 ⟨A4, c4, rfl, hown, hb⟩
        have Hb4 := hid (Hb.out.trans (hb.mono Hb.out.size))
        have HP4 := hid (prefix_at _ (some ⟨b, off, none⟩) 24 l 24 HX.out.1 HX.out.2.1 HX.out.2.2.1 (fun h => by cases h) w4 (HB.out.below Hb4.out) e m (Jo.mark i true) A4 c4 hown.reads)
        rw [HPb.out] at HP4
        clear hb hown
        go_wp2_with fail
        refine HP4.out.mono ?_
        rintro e3 w3 ⟨rfl, rfl⟩
        go_wp2
        go_ret3
        refine ⟨some ⟨b, off, none⟩, 0, 0, ?_, ?_, ?_, ?_, Hb4.out⟩
        · rw [HDN.out]; simp; rw [Bool.eq_iff_iff]; simp
        · rw [HDN.out]; rfl
        · rw [HDN.out]; exact IsBytes.nil
        · intro h; cases h
      · by_cases h40 : 0 < N - 24
        · have h41 : (0 : Int) < (N : Int) - 24 := by omega
          go_enter Try.func24, Try.ntmps24
          go_wp2_with fail
          refine (HM0.out w).mono ?_
          rintro e1 w1 ⟨rfl, rfl⟩
          go_wp2_with fail
          refine (HH0.out _).mono ?_
          rintro e2 w2 ⟨A2, c2, rfl, hown, hb⟩
          have Hb := hid (And.intro hb (hd.below hb))
          have HP2 := hid (prefix_at _ (some ⟨b, off, none⟩) c l N HX.out.1 HX.out.2.1 HX.out.2.2.1 (fun h => by cases h) w2 (HB.out.below hb) e m (Jo.mark i false) A2 c2 hown.reads)
          rw [HP.out] at HP2
          clear hb hown hd
          go_wp2_with fail
          refine HP2.out.mono ?_
          rintro e3 w3 ⟨rfl, rfl⟩
          go_wp2_with fail
          refine (HM1.out _).mono ?_
          rintro e1 w1 ⟨rfl, rfl⟩
          go_wp2_with fail
          refine (HH1.out _).mono ?_
          rintro e2 w4 ⟨A4, c4, rfl, hown, hb⟩
          have Hb4 := hid (And.intro (Hb.out.1.trans (hb.mono Hb.out.1.size)) (((Hb.out.2.more Hb.out.1.size).below hb).more hb.size))
          have HP4 := hid (prefix_at _ (some ⟨b, off, none⟩) c l N HX.out.1 HX.out.2.1 HX.out.2.2.1 (fun h => by cases h) w4 (HB.out.below Hb4.out.1) e m (Jo.mark i true) A4 c4 hown.reads)
          rw [HPb.out] at HP4
          clear hb hown
          go_wp2_with fail
          refine HP4.out.mono ?_
          rintro e3 w3 ⟨rfl, rfl⟩
          go_wp2
          go_ret3
          have hX := HX.out.1
          refine ⟨some ⟨b, off + 24, none⟩, c - 24, N - 24, ?_, ?_, Hb4.out.2, (fun h => by cases h), Hb4.out.1⟩
          · rw [decide_eq_true (Or.inl (by rw [List.length_drop, hX]; exact h40))]
            rfl
          · rw [List.length_drop, hX]
        · obtain rfl : N = 24 := by omega
          go_enter Try.func24, Try.ntmps24
          go_wp2_with fail
          refine (HM0.out w).mono ?_
          rintro e1 w1 ⟨rfl, rfl⟩
          go_wp2_with fail
          refine (HH0.out _).mono ?_
          rintro e2 w2 ⟨A2, c2, rfl, hown, hb⟩
          have Hb := hid (And.intro hb (hd.below hb))
          have HP2 := hid (prefix_at _ (some ⟨b, off, none⟩) c l 24 HX.out.1 HX.out.2.1 HX.out.2.2.1 (fun h => by cases h) w2 (HB.out.below hb) e m (Jo.mark i false) A2 c2 hown.reads)
          rw [HP.out] at HP2
          clear hb hown hd
          go_wp2_with fail
          refine HP2.out.mono ?_
          rintro e3 w3 ⟨rfl, rfl⟩
          go_wp2_with fail
          refine (HM1.out _).mono ?_
          rintro e1 w1 ⟨rfl, rfl⟩
          go_wp2_with fail
          refine (HH1.out _).mono ?_
          rintro e2 w4 ⟨A4, c4, rfl, hown, hb⟩
          have Hb4 := hid (And.intro (Hb.out.1.trans (hb.mono Hb.out.1.size)) (((Hb.out.2.more Hb.out.1.size).below hb).more hb.size))
          have HP4 := hid (prefix_at _ (some ⟨b, off, none⟩) c l 24 HX.out.1 HX.out.2.1 HX.out.2.2.1 (fun h => by cases h) w4 (HB.out.below Hb4.out.1) e m (Jo.mark i true) A4 c4 hown.reads)
          rw [HPb.out] at HP4
          clear hb hown
          go_wp2_with fail
          refine HP4.out.mono ?_
          rintro e3 w3 ⟨rfl, rfl⟩
          go_wp2
          go_ret3
          have hX := HX.out.1
          have hdn : l.drop 24 = [] := List.drop_of_length_le (by omega)
          refine ⟨some ⟨b, off + 24, none⟩, c - 24, 0, ?_, ?_, ?_, ?_, Hb4.out.1⟩
          · rw [hdn]; simp; rw [Bool.eq_iff_iff]; simp
          · rw [hdn]; rfl
          · rw [hdn]; exact IsBytes.nil
          · intro h; cases h
    · have HD : Hid (Jo.due l e m i = ([], false, false)) := hid (by unfold Jo.due; rw [if_neg h1, if_neg h2])
      have HPb : Hid (decide (Jo.head e m (Jo.mark i true : Nat) <+: l) = false) := hid (decide_eq_false h2)
      rw [HD.out]
      clear h1 h2
      go_enter Try.func24, Try.ntmps24
      go_wp2_with fail
      refine (HM0.out w).mono ?_
      rintro e1 w1 ⟨rfl, rfl⟩
      go_wp2_with fail
      refine (HH0.out _).mono ?_
      rintro e2 w2 ⟨A2, c2, rfl, hown, hb⟩
      have Hb := hid hb
      have HP2 := hid (prefix_at _ A c l N HX.out.1 HX.out.2.1 HX.out.2.2.1 HX.out.2.2.2 w2 (HB.out.below hb) e m (Jo.mark i false) A2 c2 hown.reads)
      rw [HP.out] at HP2
      clear hb hown
      go_wp2_with fail
      refine HP2.out.mono ?_
      rintro e3 w3 ⟨rfl, rfl⟩
      go_wp2_with fail
      refine (HM1.out _).mono ?_
      rintro e1 w1 ⟨rfl, rfl⟩
      go_wp2_with fail
      refine (HH1.out _).mono ?_
      rintro e2 w4 ⟨A4, c4, rfl, hown, hb⟩
      have Hb4 := hid (Hb.out.trans (hb.mono Hb.out.size))
      have HP4 := hid (prefix_at _ A c l N HX.out.1 HX.out.2.1 HX.out.2.2.1 HX.out.2.2.2 w4 (HB.out.below Hb4.out) e m (Jo.mark i true) A4 c4 hown.reads)
      rw [HPb.out] at HP4
      clear hb hown
      go_wp2_with fail
      refine HP4.out.mono ?_
      rintro e3 w3 ⟨rfl, rfl⟩
      go_wp2
      go_ret3
      exact ⟨none, 0, 0, rfl, rfl, IsBytes.nil, fun _ => rfl, Hb4.out⟩
end J
end Go.Proofs.Ytomnbaeokmpobaa
