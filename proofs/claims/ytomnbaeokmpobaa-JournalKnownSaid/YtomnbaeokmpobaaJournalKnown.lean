/- The examples of the chapter, records at their ends, places that may not be. Conditions: none. -/
import Derived.Test.YtomnbaeokmpobaaRows
import Derived.Test.YtomnbaeokmpobaaJoKn
import Derived.Deep.RegionHeld3
import Derived.WalkKit
import Derived.WalkLawsBesides
import Derived.ProofKit
import Derived.OpenShut
import Derived.ShutString
import Derived.ChangeOld
import Derived.Below
import Derived.SizedLaws
namespace Go.Proofs.Ytomnbaeokmpobaa.journalKnown
open Go.ChangeShapes Go.WideShapes Go.ChangeAt Go.RowKit
open Go.ChangeMaps (open_string shut_string)
set_option linter.unusedVariables false

theorem own : ownKnob Try.prog.godebug = none := by kernel_rfl
theorem laidOut : laidOutB Try.prog = true := by kernel_rfl

set_option maxRecDepth 100000 in
set_option maxHeartbeats 8000000 in
theorem walk (w : World) : Calls Try.prog 5 #[] w fun e w' => e = .returned (.bool true) ∧ Below w.heap.size w w' := by
  have HN := hid (new_any 8 (by omega) w)
  go_enter Try.func5, Try.ntmps5
  go_wp2_with fail
  refine HN.out.mono ?_
  rintro e w1 ⟨d, rfl, hD, hb⟩
  have H1 : Hid (DM w w1 d (Sx.new 8)) := hid ⟨hD, hb⟩
  clear hD hb HN
  go_wp2_with fail
  obtain ⟨w2, hw2⟩ : ∃ w2, w2 = ((((((((((((w1.alloc (.cells #[.int .i64 4, .int .i64 5, .int .i64 7] 3)).alloc (.cells #[.int .i64 0, .int .i64 8, .int .i64 0] 3)).alloc (.cells #[.int .i64 (-1), .int .i64 2, .int .i64 7] 3)).alloc (.cells #[.int .i64 0, .int .i64 0, .int .i64 7] 3)).alloc (.cells #[.int .i64 9, .int .i64 1, .int .i64 7] 3)).alloc (.cells #[.int .i64 8, .int .i64 1, .int .i64 7] 3)).alloc (.cells #[.int .i64 0, .int .i64 8, .int .i64 1099511627776] 3)).alloc (.cells #[.int .i64 0, .int .i64 8, .int .i64 1099511627777] 3)).alloc (.cells #[.int .i64 7, .int .i64 1, .int .i64 1] 3)).alloc (.cells #[.int .i64 9223372036854775807, .int .i64 9223372036854775807, .int .i64 1] 3)).alloc (.cells #[.int .i64 0, .int .i64 9223372036854775807, .int .i64 1] 3)).alloc (.cells #[.int .i64 (-9223372036854775808), .int .i64 1, .int .i64 1] 3)).alloc (.cells #[.slice (some ⟨w1.heap.size, 0, none⟩) 3 3, .slice (some ⟨w1.heap.size + 1, 0, none⟩) 3 3, .slice (some ⟨w1.heap.size + 1 + 1, 0, none⟩) 3 3, .slice (some ⟨w1.heap.size + 1 + 1 + 1, 0, none⟩) 3 3, .slice (some ⟨w1.heap.size + 1 + 1 + 1 + 1, 0, none⟩) 3 3, .slice (some ⟨w1.heap.size + 1 + 1 + 1 + 1 + 1, 0, none⟩) 3 3, .slice (some ⟨w1.heap.size + 1 + 1 + 1 + 1 + 1 + 1, 0, none⟩) 3 3, .slice (some ⟨w1.heap.size + 1 + 1 + 1 + 1 + 1 + 1 + 1, 0, none⟩) 3 3, .slice (some ⟨w1.heap.size + 1 + 1 + 1 + 1 + 1 + 1 + 1 + 1, 0, none⟩) 3 3, .slice (some ⟨w1.heap.size + 1 + 1 + 1 + 1 + 1 + 1 + 1 + 1 + 1, 0, none⟩) 3 3, .slice (some ⟨w1.heap.size + 1 + 1 + 1 + 1 + 1 + 1 + 1 + 1 + 1 + 1, 0, none⟩) 3 3, .slice (some ⟨w1.heap.size + 1 + 1 + 1 + 1 + 1 + 1 + 1 + 1 + 1 + 1 + 1, 0, none⟩) 3 3] 28) := ⟨_, rfl⟩
  rw [← hw2]
  have HP := hid (places_at w1 w2 hw2)
  clear hw2
  have H2 : Hid (DM w w2 d (Sx.new 8)) := hid (H1.out.below HP.out.1)
  go_loopw [4] (fun i wr => ∃ k : Nat, k ≤ 12 ∧ i = .int .i64 (k : Int) ∧ Hid (DM w wr d (Sx.new 8) ∧ Below w2.heap.size w2 wr)) (fun i _ => 12 - (RowKit.intOf i).toNat)
  case atStart => exact ⟨0, by omega, by simp, hid ⟨H2.out, Below.refl _ _⟩⟩
  case round =>
    obtain ⟨k, hk, rfl, HI⟩ := hrel
    by_cases hlt : k < 12
    · have hlt0 : (k : Int) < 12 := by omega
      obtain ⟨c3, c0, c1, c2⟩ := HP.out.2.2 k hlt
      have hsz := HP.out.2.1
      have hlt1 : w1.heap.size + k < w2.heap.size := by omega
      have hlt2 : w1.heap.size + 1 + 1 + 1 + 1 + 1 + 1 + 1 + 1 + 1 + 1 + 1 + 1 < w2.heap.size := by omega
      have HB : Hid (∀ w' : World, Below w2.heap.size w2 w' → w'.cell? ⟨w1.heap.size + 1 + 1 + 1 + 1 + 1 + 1 + 1 + 1 + 1 + 1 + 1 + 1, k, none⟩ = some (.slice (some ⟨w1.heap.size + k, 0, none⟩) 3 3) ∧
          w'.cell? ⟨w1.heap.size + k, 0, none⟩ = some (.int .i64 (Jo.place k).1) ∧ w'.cell? ⟨w1.heap.size + k, 1, none⟩ = some (.int .i64 (Jo.place k).2.1) ∧ w'.cell? ⟨w1.heap.size + k, 2, none⟩ = some (.int .i64 (Jo.place k).2.2)) :=
        hid (fun w' hb => ⟨(hb.cell (p := ⟨_, k, none⟩) hlt2).trans c3, (hb.cell (p := ⟨_, 0, none⟩) hlt1).trans c0, (hb.cell (p := ⟨_, 1, none⟩) hlt1).trans c1, (hb.cell (p := ⟨_, 2, none⟩) hlt1).trans c2⟩)
      have HR := hid (Jo.place_in k hlt)
      clear c0 c1 c2 c3 hsz hlt1 hlt2
      obtain ⟨f, hf⟩ : ∃ f, (Jo.place k).1 = f := ⟨_, rfl⟩
      obtain ⟨n, hn⟩ : ∃ n, (Jo.place k).2.1 = n := ⟨_, rfl⟩
      obtain ⟨e, he⟩ : ∃ e, (Jo.place k).2.2 = e := ⟨_, rfl⟩
      rw [hf, hn, he] at HB HR
      clear hf hn he
      obtain ⟨d0, d1, d2, d3⟩ := HB.out wr HI.out.2
      by_cases h6 : k = 6
      · have HH := hid h6
        clear h6
        have hwr : Jo.Right 8 f n e := HR.out.2.2 (by have := HH.out; omega)
        obtain ⟨f, rfl⟩ := Int.eq_ofNat_of_zero_le hwr.1
        obtain ⟨n, rfl⟩ := Int.eq_ofNat_of_zero_le (show 0 ≤ n by have := hwr.2.1; omega)
        have HW := hid hwr
        clear hwr
        go_wp2_with fail
        have HD : Hid (DM w wr.drew d (Sx.new 8) ∧ Below w2.heap.size w2 wr.drew) := hid ⟨HI.out.1.below (Below.refl _ wr).drew, HI.out.2.drew⟩
        have HC := hid (J.new_any _ d (Sx.new 8) f n e HR.out.1 HW.out wr.drew HD.out.1.at_)
        clear d0 d1 d2 d3
        go_region_held3 (fun w' => w'.cell? ⟨w1.heap.size + 1 + 1 + 1 + 1 + 1 + 1 + 1 + 1 + 1 + 1 + 1 + 1, k, none⟩ = some (.slice (some ⟨w1.heap.size + k, 0, none⟩) 3 3) ∧ w'.cell? ⟨w1.heap.size + k, 0, none⟩ = some (.int .i64 (f : Int)) ∧ w'.cell? ⟨w1.heap.size + k, 1, none⟩ = some (.int .i64 (n : Int)) ∧ w'.cell? ⟨w1.heap.size + k, 2, none⟩ = some (.int .i64 e))
          (first | exact HB.out _ HD.out.2 | exact HB.out _ H4.out.2 | fail)
          (first
            | (go_at_call 13; refine HC.out.mono ?_; rintro e3 w4 ⟨rfl, _, _, hb4⟩; have H4 : Hid (DM w w4 d (Sx.new 8) ∧ Below w2.heap.size w2 w4) := hid ⟨HD.out.1.below hb4, HD.out.2.trans (hb4.mono HD.out.2.size)⟩))
        clear HD HC
        obtain ⟨d0, d1, d2, d3⟩ := HB.out w4 H4.out.2
        go_wp2_with fail
        have HD : Hid (DM w w4.drew d (Sx.new 8) ∧ Below w2.heap.size w2 w4.drew) := hid ⟨H4.out.1.below (Below.refl _ w4).drew, H4.out.2.drew⟩
        have HC := hid (J.scan_fresh w d (Sx.new 8) e f n w4.drew HD.out.1 (Jo.fresh_new 8 e) (by have := HW.out.2.1; omega) (by have := HW.out.2.2.1; show f + n ≤ 8; omega) HW.out.2.2.2)
        clear d0 d1 d2 d3
        go_region_held3 (fun w' => w'.cell? ⟨w1.heap.size + 1 + 1 + 1 + 1 + 1 + 1 + 1 + 1 + 1 + 1 + 1 + 1, k, none⟩ = some (.slice (some ⟨w1.heap.size + k, 0, none⟩) 3 3) ∧ w'.cell? ⟨w1.heap.size + k, 0, none⟩ = some (.int .i64 (f : Int)) ∧ w'.cell? ⟨w1.heap.size + k, 1, none⟩ = some (.int .i64 (n : Int)) ∧ w'.cell? ⟨w1.heap.size + k, 2, none⟩ = some (.int .i64 e))
          (first | exact HB.out _ HD.out.2 | exact HB.out _ H6.out.2 | fail)
          (first
            | (go_at_call 10; refine HC.out.mono ?_; rintro e3 w6 ⟨A6, c6, rfl, hb6⟩; have H6 : Hid (DM w w6 d (Sx.new 8) ∧ Below w2.heap.size w2 w6) := hid ⟨HD.out.1.below hb6.out, HD.out.2.trans (hb6.out.mono HD.out.2.size)⟩))
        clear HD HC
        have hk6 : (k : Int) = 6 := by (have := HH.out; omega)
        have hk8 : ¬ (k : Int) = 8 := by (have := HH.out; omega)
        go_wp2
        go_roundw
        case rel => exact ⟨k + 1, by omega, by go_num, H6⟩
        case measure => simp [RowKit.intOf]; omega
      · by_cases h8 : k = 8
        · have HH := hid h8
          clear h8 h6
          have hwr : Jo.Right 8 f n e := HR.out.2.2 (by have := HH.out; omega)
          obtain ⟨f, rfl⟩ := Int.eq_ofNat_of_zero_le hwr.1
          obtain ⟨n, rfl⟩ := Int.eq_ofNat_of_zero_le (show 0 ≤ n by have := hwr.2.1; omega)
          have HW := hid hwr
          clear hwr
          go_wp2_with fail
          have HD : Hid (DM w wr.drew d (Sx.new 8) ∧ Below w2.heap.size w2 wr.drew) := hid ⟨HI.out.1.below (Below.refl _ wr).drew, HI.out.2.drew⟩
          have HC := hid (J.new_any _ d (Sx.new 8) f n e HR.out.1 HW.out wr.drew HD.out.1.at_)
          clear d0 d1 d2 d3
          go_region_held3 (fun w' => w'.cell? ⟨w1.heap.size + 1 + 1 + 1 + 1 + 1 + 1 + 1 + 1 + 1 + 1 + 1 + 1, k, none⟩ = some (.slice (some ⟨w1.heap.size + k, 0, none⟩) 3 3) ∧ w'.cell? ⟨w1.heap.size + k, 0, none⟩ = some (.int .i64 (f : Int)) ∧ w'.cell? ⟨w1.heap.size + k, 1, none⟩ = some (.int .i64 (n : Int)) ∧ w'.cell? ⟨w1.heap.size + k, 2, none⟩ = some (.int .i64 e))
            (first | exact HB.out _ HD.out.2 | exact HB.out _ H4.out.2 | fail)
            (first
              | (go_at_call 13; refine HC.out.mono ?_; rintro e3 w4 ⟨rfl, _, _, hb4⟩; have H4 : Hid (DM w w4 d (Sx.new 8) ∧ Below w2.heap.size w2 w4) := hid ⟨HD.out.1.below hb4, HD.out.2.trans (hb4.mono HD.out.2.size)⟩))
          clear HD HC
          obtain ⟨d0, d1, d2, d3⟩ := HB.out w4 H4.out.2
          go_wp2_with fail
          have HD : Hid (DM w w4.drew d (Sx.new 8) ∧ Below w2.heap.size w2 w4.drew) := hid ⟨H4.out.1.below (Below.refl _ w4).drew, H4.out.2.drew⟩
          have HC := hid (J.scan_fresh w d (Sx.new 8) e f n w4.drew HD.out.1 (Jo.fresh_new 8 e) (by have := HW.out.2.1; omega) (by have := HW.out.2.2.1; show f + n ≤ 8; omega) HW.out.2.2.2)
          clear d0 d1 d2 d3
          go_region_held3 (fun w' => w'.cell? ⟨w1.heap.size + 1 + 1 + 1 + 1 + 1 + 1 + 1 + 1 + 1 + 1 + 1 + 1, k, none⟩ = some (.slice (some ⟨w1.heap.size + k, 0, none⟩) 3 3) ∧ w'.cell? ⟨w1.heap.size + k, 0, none⟩ = some (.int .i64 (f : Int)) ∧ w'.cell? ⟨w1.heap.size + k, 1, none⟩ = some (.int .i64 (n : Int)) ∧ w'.cell? ⟨w1.heap.size + k, 2, none⟩ = some (.int .i64 e))
            (first | exact HB.out _ HD.out.2 | exact HB.out _ H6.out.2 | fail)
            (first
              | (go_at_call 10; refine HC.out.mono ?_; rintro e3 w6 ⟨A6, c6, rfl, hb6⟩; have H6 : Hid (DM w w6 d (Sx.new 8) ∧ Below w2.heap.size w2 w6) := hid ⟨HD.out.1.below hb6.out, HD.out.2.trans (hb6.out.mono HD.out.2.size)⟩))
          clear HD HC
          have hk6 : ¬ (k : Int) = 6 := by (have := HH.out; omega)
          have hk8 : (k : Int) = 8 := by (have := HH.out; omega)
          go_wp2
          go_roundw
          case rel => exact ⟨k + 1, by omega, by go_num, H6⟩
          case measure => simp [RowKit.intOf]; omega
        · have hwr : ¬ Jo.Right 8 f n e := fun h => by have := HR.out.2.1 h; omega
          have HW := hid hwr
          clear hwr
          go_wp2_with fail
          have HD : Hid (DM w wr.drew d (Sx.new 8) ∧ Below w2.heap.size w2 wr.drew) := hid ⟨HI.out.1.below (Below.refl _ wr).drew, HI.out.2.drew⟩
          have HC := hid (J.new_wrong _ d (Sx.new 8) f n e HR.out.1 HW.out wr.drew HD.out.1.at_)
          clear d0 d1 d2 d3
          go_region_held3 (fun w' => w'.cell? ⟨w1.heap.size + 1 + 1 + 1 + 1 + 1 + 1 + 1 + 1 + 1 + 1 + 1 + 1, k, none⟩ = some (.slice (some ⟨w1.heap.size + k, 0, none⟩) 3 3) ∧ w'.cell? ⟨w1.heap.size + k, 0, none⟩ = some (.int .i64 f) ∧ w'.cell? ⟨w1.heap.size + k, 1, none⟩ = some (.int .i64 n) ∧ w'.cell? ⟨w1.heap.size + k, 2, none⟩ = some (.int .i64 e))
            (first | exact HB.out _ HD.out.2 | exact HB.out _ H4.out.2 | fail)
            (first
              | (go_at_call 13; refine HC.out.mono ?_; rintro e3 w4 ⟨rfl, hw4⟩; have H4 : Hid (DM w w4 d (Sx.new 8) ∧ Below w2.heap.size w2 w4) := hid (by rw [hw4]; exact HD.out); clear hw4))
          clear HD HC
          obtain ⟨d0, d1, d2, d3⟩ := HB.out w4 H4.out.2
          go_wp2_with fail
          have HD : Hid (DM w w4.drew d (Sx.new 8) ∧ Below w2.heap.size w2 w4.drew) := hid ⟨H4.out.1.below (Below.refl _ w4).drew, H4.out.2.drew⟩
          have HC := hid (J.scan_wrong _ d (Sx.new 8) f n e HR.out.1 HW.out w4.drew HD.out.1.at_)
          clear d0 d1 d2 d3
          go_region_held3 (fun w' => w'.cell? ⟨w1.heap.size + 1 + 1 + 1 + 1 + 1 + 1 + 1 + 1 + 1 + 1 + 1 + 1, k, none⟩ = some (.slice (some ⟨w1.heap.size + k, 0, none⟩) 3 3) ∧ w'.cell? ⟨w1.heap.size + k, 0, none⟩ = some (.int .i64 f) ∧ w'.cell? ⟨w1.heap.size + k, 1, none⟩ = some (.int .i64 n) ∧ w'.cell? ⟨w1.heap.size + k, 2, none⟩ = some (.int .i64 e))
            (first | exact HB.out _ HD.out.2 | exact HB.out _ H6.out.2 | fail)
            (first
              | (go_at_call 10; refine HC.out.mono ?_; rintro e3 w6 ⟨rfl, hw6⟩; have H6 : Hid (DM w w6 d (Sx.new 8) ∧ Below w2.heap.size w2 w6) := hid (by rw [hw6]; exact HD.out); clear hw6))
          clear HD HC
          have hk6 : ((k : Int) == 6) = false := beq_eq_false_iff_ne.2 (by omega)
          have hk8 : ((k : Int) == 8) = false := beq_eq_false_iff_ne.2 (by omega)
          go_wp2
          go_roundw
          case rel => exact ⟨k + 1, by omega, by go_num, H6⟩
          case measure => simp [RowKit.intOf]; omega
    · have hlt0 : ¬ (k : Int) < 12 := by omega
      have H0 := hid HI.out.1
      clear HI HP H1 H2
      go_wp2_with fail
      refine (J.new_JG w d _ 2 5 7 wr H0.out (Jo.fresh_new 8 7) (by omega) (by decide) (by omega)).mono ?_
      rintro e w3 ⟨rfl, h3⟩
      have H3 := hid h3.out.1
      obtain ⟨g, hg⟩ : ∃ g, wr.heap.size = g := ⟨_, rfl⟩
      rw [hg] at H3 ⊢
      clear h3 H0 hg
      have hm1 := make121
      have hm2 := make32769
      have hm3 := make120
      go_wp2_with fail
      refine (J.append_lit w d _ g 7 2 5 [] w3 H3.out ⟨rfl, rfl⟩ [1, 2] 2 rfl #[.int .u8 1, .int .u8 2] rfl (by decide) (by omega) (by decide)).mono ?_
      rintro e w4 ⟨rfl, h4⟩
      have ⟨s4, h40, h41, h42, h43, h44⟩ := h4.out
      have H4 := hid h40
      have HS4 := hid (And.intro h41 (And.intro h42 h43))
      clear h4 h40 h41 h42 h43 h44 H3
      go_wp2_with fail
      refine (J.append_nil w d s4 g 7 2 5 [[1, 2]] w4 H4.out ⟨HS4.out.1, HS4.out.2.1⟩ (by decide)).mono ?_
      rintro e w5 ⟨rfl, h5⟩
      have ⟨s5, h50, h51, h52, h53, h54⟩ := h5.out
      have H5 : Hid (JG w w5 d s5 g 7 2 5 [[1, 2], []]) := hid h50
      have HS5 := hid (And.intro h51 (And.intro h52 (h53.trans HS4.out.2.2)))
      clear h5 h50 h51 h52 h53 h54 H4 HS4
      go_wp2_with fail
      refine (J.append_no w d s5 g 7 2 5 [[1, 2], []] _ (H5.out.below (below_made w5 _)) _ 121 121 (by omega) (by decide)).mono ?_
      rintro e w6 ⟨rfl, h6⟩
      have H6 := hid h6.out.1
      clear h6 H5
      go_wp2_with fail
      refine (J.append_long g _ 32769 32769 (by omega) _).mono ?_
      rintro e w7 ⟨rfl, h7⟩
      have H7 := hid ((H6.out.below (below_made w6 _)).below h7)
      clear h7 H6
      go_wp2_with fail
      refine (J.append_lit w d s5 g 7 2 5 [[1, 2], []] w7 H7.out ⟨HS5.out.1, HS5.out.2.1⟩ (zeros 120) 120 (zeros_length 120) (zeroRow 120) rfl (zeros_small 120) (by omega) (by decide)).mono ?_
      rintro e w8 ⟨rfl, h8⟩
      have ⟨s8, h80, h81, h82, h83, h84⟩ := h8.out
      have H8 : Hid (JG w w8 d s8 g 7 2 5 [[1, 2], [], zeros 120]) := hid h80
      have HS8 := hid (h83.trans HS5.out.2.2)
      clear h8 h80 h81 h82 h83 h84 H7 HS5 hm1 hm2 hm3
      go_wp2_with fail
      refine (J.append_no w d s8 g 7 2 5 [[1, 2], [], zeros 120] w8 H8.out _ 0 0 (by omega) (by rw [total3]; decide)).mono ?_
      rintro e w9 ⟨rfl, h9⟩
      have H9 := hid h9.out.1
      clear h9 H8
      go_wp2_with fail
      refine (J.room_JG w d s8 g 7 2 5 [[1, 2], [], zeros 120] w9 H9.out 0 (by rw [total3])).mono ?_
      rintro e w10 ⟨rfl, rfl⟩
      go_wp2_with fail
      refine (J.count_JG w d s8 g 7 2 5 [[1, 2], [], zeros 120] w10 H9.out 3 rfl).mono ?_
      rintro e w11 ⟨rfl, rfl⟩
      go_wp2_with fail
      refine (read_first w d s8 g 5 [[], zeros 120] w11 H9.out).mono ?_
      rintro e w12 ⟨b, c, rfl, hcs, hb12⟩
      have HC := hid hcs
      have H12 := hid (H9.out.below hb12)
      clear hcs hb12 H9
      go_wp2_with fail
      refine (scan_is w d s8 7 2 5 w12 H12.out.disk ⟨by omega, by omega, by rw [HS8.out]; decide, by omega, by omega⟩ [[1, 2], [], zeros 120] H12.out.good.scan 3 rfl).mono ?_
      rintro e w13 ⟨A13, c13, rfl, hb13⟩
      have H13 := hid (And.intro (H12.out.below hb13) hb13)
      clear hb13
      go_wp2_with fail
      refine (scan_is w d s8 7 2 4 w13 H13.out.1.disk ⟨by omega, by omega, by rw [HS8.out]; decide, by omega, by omega⟩ [[1, 2], []] (Jo.scan_short (L := [[1, 2], []]) H13.out.1.good 4 (by decide) (by rw [zeros_length]; decide)) 2 rfl).mono ?_
      rintro e w14 ⟨A14, c14, rfl, hb14⟩
      have H14 := hid (And.intro (H13.out.1.below hb14) (H13.out.2.trans (hb14.mono H13.out.2.size)))
      clear hb14 H13
      go_wp2_with fail
      refine (scan_is w d s8 7 3 4 w14 H14.out.1.disk ⟨by omega, by omega, by rw [HS8.out]; decide, by omega, by omega⟩ [] (Jo.scan_second (f := 2) H14.out.1.good second_not) 0 rfl).mono ?_
      rintro e w15 ⟨A15, c15, rfl, hb15⟩
      have hb125 := H14.out.2.trans (hb15.mono H14.out.2.size)
      obtain ⟨q7, q15, q23, q24, q25⟩ := HC.out
      have hbl : b < w12.heap.size := World.block_lt_of_cell? _ _ q7
      have p7 := (hb125.cell (p := ⟨b, 7, none⟩) hbl).trans q7
      have p15 := (hb125.cell (p := ⟨b, 15, none⟩) hbl).trans q15
      have p23 := (hb125.cell (p := ⟨b, 23, none⟩) hbl).trans q23
      have p24 := (hb125.cell (p := ⟨b, 24, none⟩) hbl).trans q24
      have p25 := (hb125.cell (p := ⟨b, 25, none⟩) hbl).trans q25
      have H15 := hid (H14.out.1.disk.below hb15)
      clear q7 q15 q23 q24 q25 hb125 hb15 hbl H14 HC
      go_wp2_with fail
      refine (new_any 900 (by omega) w15).mono ?_
      rintro e w16 ⟨d2, rfl, hD2, hb16⟩
      have H16 : Hid (DM w15 w16 d2 (Sx.new 900)) := hid ⟨hD2, hb16⟩
      clear hD2 hb16 p7 p15 p23 p24 p25
      go_wp2_with fail
      refine (J.new_JG w15 d2 _ 0 900 1 w16 H16.out (Jo.fresh_new 900 1) (by omega) (by decide) (by omega)).mono ?_
      rintro e w17 ⟨rfl, h17⟩
      have H17 := hid h17.out.1
      obtain ⟨g2, hg2⟩ : ∃ g, w16.heap.size = g := ⟨_, rfl⟩
      rw [hg2] at H17 ⊢
      clear h17 H16 hg2
      have hm1 := make32768
      go_wp2_with fail
      refine (J.append_lit w15 d2 _ g2 1 0 900 [] w17 H17.out ⟨rfl, rfl⟩ (zeros 32768) 32768 (zeros_length _) (zeroRow 32768) rfl (zeros_small _) (by omega) (by decide)).mono ?_
      rintro e w18 ⟨rfl, h18⟩
      have ⟨s18, h180, _⟩ := h18.out
      have H18 : Hid (JG w15 w18 d2 s18 g2 1 0 900 [zeros 32768]) := hid h180
      clear h18 h180 H17 hm1
      go_wp2_with fail
      refine (J.room_JG w15 d2 s18 g2 1 0 900 [zeros 32768] w18 H18.out 80 (by rw [total900])).mono ?_
      rintro e w19 ⟨rfl, rfl⟩
      go_wp2_with fail
      refine (scan_one w15 d2 s18 g2 w19 H18.out).mono ?_
      rintro e w20 ⟨b2, o2, c20, A20, c21, rfl, hcell, hb20⟩
      have H20 := hid (H18.out.disk.below hb20)
      clear hb20 H18
      go_wp2_with fail
      refine (known_any w20).mono ?_
      rintro e w21 ⟨rfl, hb21⟩
      have H21 := hid (H15.out.bel.trans ((H20.out.bel.trans (hb21.mono H20.out.bel.size)).mono H15.out.bel.size))
      clear hb21
      go_wp2
      go_ret
      exact ⟨rfl, H21.out⟩

set_option maxRecDepth 100000 in
theorem lifted (os : Os) (started : os.Started) (H : Type) (enc : TypeId × Value → H) :
    ReturnsInHanded {} Try.checked os 5 .any (Rows.journalKnownSpec.pre6 enc Try.prog Try.f5 Rows.journalKnownRow.domain false) (Rows.journalKnownSpec.post enc Try.prog Try.f5 false true false false) := by
  refine returnsInHanded_of_change_sized (C := Try.checked) own started (by kernel_rfl) Try.func5
    (ChangeSpec.witness6 (enc := enc) (C := Try.checked) false ⟨#[], #[], []⟩ 8 (by kernel_rfl) (by kernel_rfl) (by kernel_rfl) (by kernel_rfl)) ?_
  intro W base args ds gs before hval0 hW hcnd hsz0 _
  have hsz : (DataW.weightsEach Try.prog (Try.f5.params.toList ++ Rows.journalKnownSpec.plain.varTypes Try.prog) (ds ++ gs)).all (· ≤ reachBytes) = true := hsz0
  clear hsz0
  have hval : ∀ (j : Nat) t v, Try.f5.params[j]? = some t → args[j]? = some v → Value.okWide Try.prog W .any base t v := hval0
  have hW' := hW
  obtain ⟨p, q, hA0, hV, rfl, hfz, hnd⟩ := hW
  have hA : DataW.TrodAll enc Try.prog W 0 (fun _ => true) true Try.f5.params.toList args.toList ds p := hA0
  rw [Try.params5] at hA hval hsz
  obtain ⟨rfl, rfl, rfl⟩ := trodAll_none hA
  obtain ⟨rfl, rfl⟩ := trodVars_none hV
  clear hA0 hval0
  refine (walk  W ).mono fun e W' ⟨he, bel⟩ => ?_
  subst he
  exact ⟨_, rfl, _, _, _, [], _, [], hW', trodAll_mk1 (shut_bool Try.underlying4 _), trodAll_mk0, rfl, bel.frame _, fun h => by cases h⟩

theorem over : Rows.journalKnownRow.holds Try.pinned (OpenSpec.ofChange Rows.journalKnownSpec) :=
  OpenClaim.holds_of_wide 5 Try.f5 rfl rfl rfl rfl rfl rfl rfl ⟨rfl, rfl, rfl, rfl, rfl⟩ rfl rfl rfl rfl rfl (by kernel_rfl) Try.func5 (by kernel_rfl)
    (of_decide_eq_true (by kernel_rfl)) (by unfold Func.isWrapper; first | (rw [if_pos (by decide +kernel)]; kernel_rfl) | (rw [if_neg (by decide +kernel)]; exact ⟨rfl, rfl⟩))
    (fun os started H enc _ => lifted os started H enc)

theorem proved : Rows.JournalKnownSaid := over
end Go.Proofs.Ytomnbaeokmpobaa.journalKnown
