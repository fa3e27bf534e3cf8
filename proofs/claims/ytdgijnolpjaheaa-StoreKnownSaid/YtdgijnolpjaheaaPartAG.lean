/- Texts of the proof, one behind the other: CkE. -/
import Derived.Test.YtdgijnolpjaheaaPartAE
import Derived.Test.YtdgijnolpjaheaaPartAF
namespace Go.Proofs.Ytdgijnolpjaheaa
open Go.RowKit

namespace C
theorem packRead_N (A : Option Addr) (c : Nat) (l : List Nat) (N : Nat) (hN : l.length = N) (hl : N ≤ 100000) (w : World) (h : IsBytes w w.heap.size A l) (hn : A = none → c = 0) :
    Calls Try.prog 69 #[.slice A N c] w fun e w' => ∃ g, e = .returned (.pointer (some ⟨g, 0, none⟩)) ∧ w.heap.size ≤ g ∧ Rdr w' g ⟨l, false⟩ ∧ Below w.heap.size w w' := by
  subst hN
  exact packRead_any w.heap.size A c l (by omega) w h (Nat.le_refl _) hn
/-- a number is read: new blocks alone have turned since w -/
theorem num_at (w w1 : World) (g : Nat) (s : Pk.St) (o : Int) (t : Pk.St) (hst : Pk.rdInt s = (o, t)) (hg : w.heap.size ≤ g) (hb : Below w.heap.size w w1) (h : Rdr w1 g s) :
    Calls Try.prog 70 #[.pointer (some ⟨g, 0, none⟩)] w1 fun e w' => e = .returned (.int .i64 o) ∧ Hid (Rdr w' g t ∧ Below w.heap.size w w') := by
  have h1 := int_rdr g s w1 h
  rw [hst] at h1
  refine h1.mono ?_
  rintro e w' ⟨h2, h3, h4⟩
  exact ⟨h2, h3, hb.trans (below_grown h4 hb.size (fun k e => by injection e with e; omega))⟩
theorem bad_at (w1 : World) (g : Nat) (s : Pk.St) (b : Bool) (hb : s.bad = b) (h : Rdr w1 g s) :
    Calls Try.prog 71 #[.pointer (some ⟨g, 0, none⟩)] w1 fun e w' => e = .returned (.bool b) ∧ w' = w1 := by
  have h1 := bad_rdr g s w1 h
  rw [hb] at h1
  exact h1.mono fun _ _ ⟨h2, h3⟩ => ⟨h2, h3.symm⟩
/-- what pieceOf tells -/
def Told (w : World) (x : List Nat × Bool × Bool) (e' : Ending) (w' : World) : Prop :=
  ∃ A' c' n', e' = .returned (.tuple #[.slice A' n' c', .bool x.2.1, .bool x.2.2]) ∧ n' = x.1.length ∧ IsBytes w' w'.heap.size A' x.1 ∧ (A' = none → c' = 0) ∧ Below w.heap.size w w'
set_option maxRecDepth 100000 in
set_option maxHeartbeats 2000000 in
theorem piece_any (A : Option Addr) (c : Nat) (l : List Nat) (N : Nat) (hN : l.length = N) (hc : N ≤ c) (hc2 : c ≤ maxLen) (hz : A = none → c = 0) (hl : N ≤ 100000) (e : Int) (he : InInt e) (i : Nat) (hi : i ≤ 1000000) (w : World) (h : IsBytes w w.heap.size A l) :
    Calls Try.prog 56 #[.slice A N c, .int .i64 e, .int .i64 (i : Int)] w (Told w (Ck.due l e i)) := by
  unfold maxLen at hc2
  have HM0 := hid (fun w' => mark_any i false hi w')
  have HM1 := hid (fun w' => mark_any i true hi w')
  have hsm := h.small
  obtain ⟨o, s1, h1⟩ : ∃ o s1, Pk.rdInt ⟨l, false⟩ = (o, s1) := ⟨_, _, rfl⟩
  obtain ⟨z, s2, h2⟩ : ∃ z s2, Pk.rdInt s1 = (z, s2) := ⟨_, _, rfl⟩
  obtain ⟨m, s3, h3⟩ : ∃ m s3, Pk.rdInt s2 = (m, s3) := ⟨_, _, rfl⟩
  have r1 : Ck.rd1 l = (o, s1) := h1
  have r2 : Ck.rd2 l = (z, s2) := by unfold Ck.rd2; rw [r1]; exact h2
  have r3 : Ck.rd3 l = (m, s3) := by unfold Ck.rd3; rw [r2]; exact h3
  have D0 := Ck.due_none l hsm e he i hi
  have D1 := Ck.due_mid l hsm e he i hi
  have D2 := Ck.due_last l hsm e he i hi
  have DB := Ck.rd_bad l
  rw [r1, r2, r3] at D0 D1 D2
  rw [r3] at DB
  have HX := hid (And.intro (And.intro h1 (And.intro h2 h3)) (And.intro hN (And.intro hz h)))
  obtain ⟨x, hx⟩ : ∃ x, x = Ck.due l e i := ⟨_, rfl⟩
  rw [← hx] at D0 D1 D2
  rw [← hx]
  clear h1 h2 h3 r1 r2 r3 hN hz h he hx hsm
  by_cases hbd : s3.bad = true
  · have HB := hid hbd
    have HD := hid (D0 (.inl hbd))
    clear D0 D1 D2 DB hbd
    go_enter Try.func56, Try.ntmps56
    go_wp2_with fail
    refine (packRead_N A c l N HX.out.2.1 hl w HX.out.2.2.2 HX.out.2.2.1).mono ?_
    rintro e1 w1 ⟨g, rfl, hg, hR1, hb1⟩
    have H1 := hid (And.intro hg (And.intro hR1 hb1))
    clear hg hR1 hb1
    go_wp2_with fail
    refine (num_at w w1 g _ o s1 HX.out.1.1 H1.out.1 H1.out.2.2 H1.out.2.1).mono ?_
    rintro e2 w2 ⟨rfl, H2⟩
    go_wp2_with fail
    refine (num_at w w2 g _ z s2 HX.out.1.2.1 H1.out.1 H2.out.2 H2.out.1).mono ?_
    rintro e3 w3 ⟨rfl, H3⟩
    go_wp2_with fail
    refine (num_at w w3 g _ m s3 HX.out.1.2.2 H1.out.1 H3.out.2 H3.out.1).mono ?_
    rintro e4 w4 ⟨rfl, H4⟩
    go_wp2_with fail
    refine (bad_at w4 g s3 true HB.out H4.out.1).mono ?_
    rintro e5 w5 ⟨rfl, rfl⟩
    go_wp2
    go_ret3
    exact ⟨none, 0, 0, by rw [HD.out]; rfl, by rw [HD.out]; rfl, by rw [HD.out]; exact IsBytes.nil, fun _ => rfl, H4.out.2⟩
  · have hbf : s3.bad = false := by simpa using hbd
    have HB := hid hbf
    clear hbd
    by_cases ho : o = e
    · by_cases hz0 : z = 0
      · have hlen := DB hbf
        have HN := HX.out.2.1
        rw [HN] at hlen
        clear HN DB
        have hob : (o != e) = false := by rw [ho]; exact bne_self_eq_false e
        have hzb : (z != 0) = false := by rw [hz0]; rfl
        have hcell : ∃ a, A = some a := by
          rcases A with _ | a
          · have := HX.out.2.2.1 rfl; omega
          · exact ⟨a, rfl⟩
        obtain ⟨a, rfl⟩ := hcell
        obtain ⟨b, off, hab, _, _⟩ := HX.out.2.2.2.cells 0 (by rw [HX.out.2.1]; omega)
        injection hab with hab
        subst hab
        by_cases hm0 : m = (Jo.mark i false : Nat)
        · have HD := hid (D1 hbf ho hz0 hm0)
          have HM := hid hm0
          have hmb : (m == ((Jo.mark i false : Nat) : Int)) = true := by rw [beq_iff_eq]; exact hm0
          clear D0 D1 D2 hbf hm0 ho hz0
          by_cases hc24 : c = 24
          · have hN24 : N = 24 := by omega
            have HC := hid (And.intro hc24 hN24)
            have hc24' : c ≤ 24 := by omega
            clear hc24 hN24
            go_enter Try.func56, Try.ntmps56
            go_wp2_with fail
            refine (packRead_N (some ⟨b, off, none⟩) c l N HX.out.2.1 hl w HX.out.2.2.2 HX.out.2.2.1).mono ?_
            rintro e1 w1 ⟨g, rfl, hg, hR1, hb1⟩
            have H1 := hid (And.intro hg (And.intro hR1 hb1))
            clear hg hR1 hb1
            go_wp2_with fail
            refine (num_at w w1 g _ o s1 HX.out.1.1 H1.out.1 H1.out.2.2 H1.out.2.1).mono ?_
            rintro e2 w2 ⟨rfl, H2⟩
            go_wp2_with fail
            refine (num_at w w2 g _ z s2 HX.out.1.2.1 H1.out.1 H2.out.2 H2.out.1).mono ?_
            rintro e3 w3 ⟨rfl, H3⟩
            go_wp2_with fail
            refine (num_at w w3 g _ m s3 HX.out.1.2.2 H1.out.1 H3.out.2 H3.out.1).mono ?_
            rintro e4 w4 ⟨rfl, H4⟩
            go_wp2_with fail
            refine (bad_at w4 g s3 false HB.out H4.out.1).mono ?_
            rintro e5 w5 ⟨rfl, rfl⟩
            go_wp2_with fail
            refine (HM0.out _).mono ?_
            rintro e6 w6 ⟨rfl, rfl⟩
            go_wp2
            go_ret3
            have hX := HX.out.2.1
            have e40 : (((N - 24 : Nat) : Int) == 40) = decide ((l.drop 24).length = 40) := by
              rw [List.length_drop, hX, Bool.eq_iff_iff]
              simp only [beq_iff_eq, decide_eq_true_eq]
              omega
            refine ⟨some ⟨b, off, none⟩, 0, N - 24, ?_, ?_, ?_, (fun h => by cases h), H4.out.2⟩
            · rw [HD.out]; show Ending.returned _ = Ending.returned (.tuple #[_, _, .bool (decide ((l.drop 24).length = 40))]); rw [← e40]; try rfl
            · rw [HD.out]; show _ = (l.drop 24).length; rw [List.length_drop, hX]
            · rw [HD.out]; show IsBytes _ _ _ (l.drop 24); rw [List.drop_of_length_le (by have := HC.out.2; omega)]; exact IsBytes.nil
          · have hc24' : 24 < c := by omega
            clear hc24
            go_enter Try.func56, Try.ntmps56
            go_wp2_with fail
            refine (packRead_N (some ⟨b, off, none⟩) c l N HX.out.2.1 hl w HX.out.2.2.2 HX.out.2.2.1).mono ?_
            rintro e1 w1 ⟨g, rfl, hg, hR1, hb1⟩
            have H1 := hid (And.intro hg (And.intro hR1 hb1))
            clear hg hR1 hb1
            go_wp2_with fail
            refine (num_at w w1 g _ o s1 HX.out.1.1 H1.out.1 H1.out.2.2 H1.out.2.1).mono ?_
            rintro e2 w2 ⟨rfl, H2⟩
            go_wp2_with fail
            refine (num_at w w2 g _ z s2 HX.out.1.2.1 H1.out.1 H2.out.2 H2.out.1).mono ?_
            rintro e3 w3 ⟨rfl, H3⟩
            go_wp2_with fail
            refine (num_at w w3 g _ m s3 HX.out.1.2.2 H1.out.1 H3.out.2 H3.out.1).mono ?_
            rintro e4 w4 ⟨rfl, H4⟩
            go_wp2_with fail
            refine (bad_at w4 g s3 false HB.out H4.out.1).mono ?_
            rintro e5 w5 ⟨rfl, rfl⟩
            go_wp2_with fail
            refine (HM0.out _).mono ?_
            rintro e6 w6 ⟨rfl, rfl⟩
            go_wp2
            go_ret3
            have hX := HX.out.2.1
            have e40 : (((N - 24 : Nat) : Int) == 40) = decide ((l.drop 24).length = 40) := by
              rw [List.length_drop, hX, Bool.eq_iff_iff]
              simp only [beq_iff_eq, decide_eq_true_eq]
              omega
            refine ⟨some ⟨b, off + 24, none⟩, c - 24, N - 24, ?_, ?_, ?_, (fun h => by cases h), H4.out.2⟩
            · rw [HD.out]; show Ending.returned _ = Ending.returned (.tuple #[_, _, .bool (decide ((l.drop 24).length = 40))]); rw [← e40]; try rfl
            · rw [HD.out]; show _ = (l.drop 24).length; rw [List.length_drop, hX]
            · rw [HD.out]; exact ((HX.out.2.2.2.from 24).below H4.out.2).more H4.out.2.size
        · by_cases hm1 : m = (Jo.mark i true : Nat)
          · have HD := hid (D2 hbf ho hz0 hm1)
            have hmb : (m == ((Jo.mark i false : Nat) : Int)) = false := by rw [beq_eq_false_iff_ne]; exact hm0
            have hmc : (m == ((Jo.mark i true : Nat) : Int)) = true := by rw [beq_iff_eq]; exact hm1
            clear D0 D1 D2 hbf hm0 hm1 ho hz0
            by_cases hc24 : c = 24
            · have hN24 : N = 24 := by omega
              have HC := hid (And.intro hc24 hN24)
              have hc24' : c ≤ 24 := by omega
              clear hc24 hN24
              go_enter Try.func56, Try.ntmps56
              go_wp2_with fail
              refine (packRead_N (some ⟨b, off, none⟩) c l N HX.out.2.1 hl w HX.out.2.2.2 HX.out.2.2.1).mono ?_
              rintro e1 w1 ⟨g, rfl, hg, hR1, hb1⟩
              have H1 := hid (And.intro hg (And.intro hR1 hb1))
              clear hg hR1 hb1
              go_wp2_with fail
              refine (num_at w w1 g _ o s1 HX.out.1.1 H1.out.1 H1.out.2.2 H1.out.2.1).mono ?_
              rintro e2 w2 ⟨rfl, H2⟩
              go_wp2_with fail
              refine (num_at w w2 g _ z s2 HX.out.1.2.1 H1.out.1 H2.out.2 H2.out.1).mono ?_
              rintro e3 w3 ⟨rfl, H3⟩
              go_wp2_with fail
              refine (num_at w w3 g _ m s3 HX.out.1.2.2 H1.out.1 H3.out.2 H3.out.1).mono ?_
              rintro e4 w4 ⟨rfl, H4⟩
              go_wp2_with fail
              refine (bad_at w4 g s3 false HB.out H4.out.1).mono ?_
              rintro e5 w5 ⟨rfl, rfl⟩
              go_wp2_with fail
              refine (HM0.out _).mono ?_
              rintro e6 w6 ⟨rfl, rfl⟩
              go_wp2_with fail
              refine (HM1.out _).mono ?_
              rintro e7 w7 ⟨rfl, rfl⟩
              go_wp2
              go_ret3
              have hX := HX.out.2.1
              have hf : Ck.fits (l.drop 24) i = true := rfl
              refine ⟨some ⟨b, off, none⟩, 0, N - 24, ?_, ?_, ?_, (fun h => by cases h), H4.out.2⟩
              · rw [HD.out]; show Ending.returned _ = Ending.returned (.tuple #[_, _, .bool (Ck.fits (l.drop 24) i)]); rw [hf]; try rfl
              · rw [HD.out]; show _ = (l.drop 24).length; rw [List.length_drop, hX]
              · rw [HD.out]; show IsBytes _ _ _ (l.drop 24); rw [List.drop_of_length_le (by have := HC.out.2; omega)]; exact IsBytes.nil
            · have hc24' : 24 < c := by omega
              clear hc24
              go_enter Try.func56, Try.ntmps56
              go_wp2_with fail
              refine (packRead_N (some ⟨b, off, none⟩) c l N HX.out.2.1 hl w HX.out.2.2.2 HX.out.2.2.1).mono ?_
              rintro e1 w1 ⟨g, rfl, hg, hR1, hb1⟩
              have H1 := hid (And.intro hg (And.intro hR1 hb1))
              clear hg hR1 hb1
              go_wp2_with fail
              refine (num_at w w1 g _ o s1 HX.out.1.1 H1.out.1 H1.out.2.2 H1.out.2.1).mono ?_
              rintro e2 w2 ⟨rfl, H2⟩
              go_wp2_with fail
              refine (num_at w w2 g _ z s2 HX.out.1.2.1 H1.out.1 H2.out.2 H2.out.1).mono ?_
              rintro e3 w3 ⟨rfl, H3⟩
              go_wp2_with fail
              refine (num_at w w3 g _ m s3 HX.out.1.2.2 H1.out.1 H3.out.2 H3.out.1).mono ?_
              rintro e4 w4 ⟨rfl, H4⟩
              go_wp2_with fail
              refine (bad_at w4 g s3 false HB.out H4.out.1).mono ?_
              rintro e5 w5 ⟨rfl, rfl⟩
              go_wp2_with fail
              refine (HM0.out _).mono ?_
              rintro e6 w6 ⟨rfl, rfl⟩
              go_wp2_with fail
              refine (HM1.out _).mono ?_
              rintro e7 w7 ⟨rfl, rfl⟩
              go_wp2
              go_ret3
              have hX := HX.out.2.1
              have hf : Ck.fits (l.drop 24) i = true := rfl
              refine ⟨some ⟨b, off + 24, none⟩, c - 24, N - 24, ?_, ?_, ?_, (fun h => by cases h), H4.out.2⟩
              · rw [HD.out]; show Ending.returned _ = Ending.returned (.tuple #[_, _, .bool (Ck.fits (l.drop 24) i)]); rw [hf]; try rfl
              · rw [HD.out]; show _ = (l.drop 24).length; rw [List.length_drop, hX]
              · rw [HD.out]; exact ((HX.out.2.2.2.from 24).below H4.out.2).more H4.out.2.size
          · have HD := hid (D0 (.inr (.inr (.inr ⟨hm0, hm1⟩))))
            have hmb : (m == ((Jo.mark i false : Nat) : Int)) = false := by rw [beq_eq_false_iff_ne]; exact hm0
            have hmc : (m == ((Jo.mark i true : Nat) : Int)) = false := by rw [beq_eq_false_iff_ne]; exact hm1
            clear D0 D1 D2 hbf hm0 hm1 ho hz0
            by_cases hc24 : c = 24
            · have hN24 : N = 24 := by omega
              have HC := hid (And.intro hc24 hN24)
              have hc24' : c ≤ 24 := by omega
              clear hc24 hN24
              go_enter Try.func56, Try.ntmps56
              go_wp2_with fail
              refine (packRead_N (some ⟨b, off, none⟩) c l N HX.out.2.1 hl w HX.out.2.2.2 HX.out.2.2.1).mono ?_
              rintro e1 w1 ⟨g, rfl, hg, hR1, hb1⟩
              have H1 := hid (And.intro hg (And.intro hR1 hb1))
              clear hg hR1 hb1
              go_wp2_with fail
              refine (num_at w w1 g _ o s1 HX.out.1.1 H1.out.1 H1.out.2.2 H1.out.2.1).mono ?_
              rintro e2 w2 ⟨rfl, H2⟩
              go_wp2_with fail
              refine (num_at w w2 g _ z s2 HX.out.1.2.1 H1.out.1 H2.out.2 H2.out.1).mono ?_
              rintro e3 w3 ⟨rfl, H3⟩
              go_wp2_with fail
              refine (num_at w w3 g _ m s3 HX.out.1.2.2 H1.out.1 H3.out.2 H3.out.1).mono ?_
              rintro e4 w4 ⟨rfl, H4⟩
              go_wp2_with fail
              refine (bad_at w4 g s3 false HB.out H4.out.1).mono ?_
              rintro e5 w5 ⟨rfl, rfl⟩
              go_wp2_with fail
              refine (HM0.out _).mono ?_
              rintro e6 w6 ⟨rfl, rfl⟩
              go_wp2_with fail
              refine (HM1.out _).mono ?_
              rintro e7 w7 ⟨rfl, rfl⟩
              go_wp2
              go_ret3
              exact ⟨none, 0, 0, by rw [HD.out]; rfl, by rw [HD.out]; rfl, by rw [HD.out]; exact IsBytes.nil, fun _ => rfl, H4.out.2⟩
            · have hc24' : 24 < c := by omega
              clear hc24
              go_enter Try.func56, Try.ntmps56
              go_wp2_with fail
              refine (packRead_N (some ⟨b, off, none⟩) c l N HX.out.2.1 hl w HX.out.2.2.2 HX.out.2.2.1).mono ?_
              rintro e1 w1 ⟨g, rfl, hg, hR1, hb1⟩
              have H1 := hid (And.intro hg (And.intro hR1 hb1))
              clear hg hR1 hb1
              go_wp2_with fail
              refine (num_at w w1 g _ o s1 HX.out.1.1 H1.out.1 H1.out.2.2 H1.out.2.1).mono ?_
              rintro e2 w2 ⟨rfl, H2⟩
              go_wp2_with fail
              refine (num_at w w2 g _ z s2 HX.out.1.2.1 H1.out.1 H2.out.2 H2.out.1).mono ?_
              rintro e3 w3 ⟨rfl, H3⟩
              go_wp2_with fail
              refine (num_at w w3 g _ m s3 HX.out.1.2.2 H1.out.1 H3.out.2 H3.out.1).mono ?_
              rintro e4 w4 ⟨rfl, H4⟩
              go_wp2_with fail
              refine (bad_at w4 g s3 false HB.out H4.out.1).mono ?_
              rintro e5 w5 ⟨rfl, rfl⟩
              go_wp2_with fail
              refine (HM0.out _).mono ?_
              rintro e6 w6 ⟨rfl, rfl⟩
              go_wp2_with fail
              refine (HM1.out _).mono ?_
              rintro e7 w7 ⟨rfl, rfl⟩
              go_wp2
              go_ret3
              exact ⟨none, 0, 0, by rw [HD.out]; rfl, by rw [HD.out]; rfl, by rw [HD.out]; exact IsBytes.nil, fun _ => rfl, H4.out.2⟩
      · have hob : (o != e) = false := by rw [ho]; exact bne_self_eq_false e
        have hzb : (z != 0) = true := by rw [bne_iff_ne]; exact hz0
        have HD := hid (D0 (.inr (.inr (.inl hz0))))
        clear D0 D1 D2 DB hbf hz0 ho
        go_enter Try.func56, Try.ntmps56
        go_wp2_with fail
        refine (packRead_N A c l N HX.out.2.1 hl w HX.out.2.2.2 HX.out.2.2.1).mono ?_
        rintro e1 w1 ⟨g, rfl, hg, hR1, hb1⟩
        have H1 := hid (And.intro hg (And.intro hR1 hb1))
        clear hg hR1 hb1
        go_wp2_with fail
        refine (num_at w w1 g _ o s1 HX.out.1.1 H1.out.1 H1.out.2.2 H1.out.2.1).mono ?_
        rintro e2 w2 ⟨rfl, H2⟩
        go_wp2_with fail
        refine (num_at w w2 g _ z s2 HX.out.1.2.1 H1.out.1 H2.out.2 H2.out.1).mono ?_
        rintro e3 w3 ⟨rfl, H3⟩
        go_wp2_with fail
        refine (num_at w w3 g _ m s3 HX.out.1.2.2 H1.out.1 H3.out.2 H3.out.1).mono ?_
        rintro e4 w4 ⟨rfl, H4⟩
        go_wp2_with fail
        refine (bad_at w4 g s3 false HB.out H4.out.1).mono ?_
        rintro e5 w5 ⟨rfl, rfl⟩
        go_wp2
        go_ret3
        exact ⟨none, 0, 0, by rw [HD.out]; rfl, by rw [HD.out]; rfl, by rw [HD.out]; exact IsBytes.nil, fun _ => rfl, H4.out.2⟩
    · have hob : (o != e) = true := by rw [bne_iff_ne]; exact ho
      have HD := hid (D0 (.inr (.inl ho)))
      clear D0 D1 D2 DB hbf ho
      go_enter Try.func56, Try.ntmps56
      go_wp2_with fail
      refine (packRead_N A c l N HX.out.2.1 hl w HX.out.2.2.2 HX.out.2.2.1).mono ?_
      rintro e1 w1 ⟨g, rfl, hg, hR1, hb1⟩
      have H1 := hid (And.intro hg (And.intro hR1 hb1))
      clear hg hR1 hb1
      go_wp2_with fail
      refine (num_at w w1 g _ o s1 HX.out.1.1 H1.out.1 H1.out.2.2 H1.out.2.1).mono ?_
      rintro e2 w2 ⟨rfl, H2⟩
      go_wp2_with fail
      refine (num_at w w2 g _ z s2 HX.out.1.2.1 H1.out.1 H2.out.2 H2.out.1).mono ?_
      rintro e3 w3 ⟨rfl, H3⟩
      go_wp2_with fail
      refine (num_at w w3 g _ m s3 HX.out.1.2.2 H1.out.1 H3.out.2 H3.out.1).mono ?_
      rintro e4 w4 ⟨rfl, H4⟩
      go_wp2_with fail
      refine (bad_at w4 g s3 false HB.out H4.out.1).mono ?_
      rintro e5 w5 ⟨rfl, rfl⟩
      go_wp2
      go_ret3
      exact ⟨none, 0, 0, by rw [HD.out]; rfl, by rw [HD.out]; rfl, by rw [HD.out]; exact IsBytes.nil, fun _ => rfl, H4.out.2⟩
end C
end Go.Proofs.Ytdgijnolpjaheaa
