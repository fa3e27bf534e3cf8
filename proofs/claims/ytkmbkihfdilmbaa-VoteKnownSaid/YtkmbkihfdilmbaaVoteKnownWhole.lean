/- The chapter's examples, numbers about their ends, are as the document says. Conditions: none. -/
import Derived.Test.YtkmbkihfdilmbaaRows
import Derived.Test.YtkmbkihfdilmbaaVoteKnownPartAD
import Derived.Deep.CutRange
import Derived.WalkKit
import Derived.WalkLawsBesides
import Derived.ProofKit
import Derived.OpenShut
import Derived.ShutString
import Derived.ChangeOld
import Derived.Below
import Derived.SizedLaws
namespace Go.Proofs.Ytkmbkihfdilmbaa.voteKnown
open Go.ChangeShapes Go.WideShapes Go.ChangeAt Go.RowKit
open Go.ChangeMaps (open_string shut_string)
set_option linter.unusedVariables false
theorem own : ownKnob Try.prog.godebug = none := by kernel_rfl
theorem laidOut : laidOutB Try.prog = true := by kernel_rfl
theorem info_intV : (Try.prog.info? 3).map (fun i => (i.zero, i.size, i.bytes)) = some (some (.int .i64 0), 1, 8) := by kernel_rfl
attribute [local go_sem ↓] Vo.loadAt_msgV Vo.storeAt_msgV Im.loadAt_log1 Im.storeAt_log1 Im.loadAt_conf3 Im.storeAt_conf3
open Vo Im
open Rl (Lg)
def H12 (gn gl i k j : Nat) (x y : Int) (g : Rl.Lg) (A : Option Addr) (n c : Nat) : Nat → Gp
  | 0 => Gp.is (.slice (some ⟨gn, 0, none⟩) 14 14)
  | 1 => Gp.is (.int .i64 (i : Int))
  | 2 => Gp.is (.pointer (some ⟨gn, i, none⟩))
  | 3 => Gp.is (.int .i64 x)
  | 4 => Gp.is (.slice (some ⟨gn, 0, none⟩) 14 14)
  | 5 => Gp.is (.int .i64 (k : Int))
  | 6 => Gp.is (.pointer (some ⟨gn, k, none⟩))
  | 7 => Gp.is (.int .i64 y)
  | 8 => Gp.is (.slice (some ⟨gl, 0, none⟩) 3 3)
  | 9 => Gp.is (.int .i64 (j : Int))
  | 10 => Gp.is (.pointer (some ⟨gl, j * 3, none⟩))
  | 11 => Gp.is (.agg #[.int .i64 g.base, .int .i64 g.term, .slice A n c])
  | 12 => Gp.is (.slice (some ⟨gn, 0, none⟩) 14 14)
  | 13 => Gp.is (.int .i64 (i : Int))
  | 14 => Gp.is (.pointer (some ⟨gn, i, none⟩))
  | 15 => Gp.is (.int .i64 x)
  | 16 => Gp.is (.slice (some ⟨gn, 0, none⟩) 14 14)
  | 17 => Gp.is (.int .i64 (k : Int))
  | 18 => Gp.is (.pointer (some ⟨gn, k, none⟩))
  | 19 => Gp.is (.int .i64 y)
  | 20 => Gp.is (mv 2 5 x y)
  | 21 => Gp.is (.bool true)
  | 22 => Gp.is (.bool false)
  | 23 => Gp.is (.bool false)
  | 24 => Gp.is (.slice (some ⟨gn, 0, none⟩) 14 14)
  | 25 => Gp.is (.int .i64 (i : Int))
  | 26 => Gp.is (.pointer (some ⟨gn, i, none⟩))
  | 27 => Gp.is (.int .i64 x)
  | 28 => Gp.is (.slice (some ⟨gn, 0, none⟩) 14 14)
  | 29 => Gp.is (.int .i64 (i : Int))
  | 30 => Gp.is (.pointer (some ⟨gn, i, none⟩))
  | 31 => Gp.is (.int .i64 x)
  | 32 => Gp.is (.slice (some ⟨gl, 0, none⟩) 3 3)
  | 33 => Gp.is (.int .i64 (j : Int))
  | 34 => Gp.is (.pointer (some ⟨gl, j * 3, none⟩))
  | 35 => Gp.is (.agg #[.int .i64 g.base, .int .i64 g.term, .slice A n c])
  | 36 => Gp.is (.slice (some ⟨gn, 0, none⟩) 14 14)
  | 37 => Gp.is (.int .i64 (k : Int))
  | 38 => Gp.is (.pointer (some ⟨gn, k, none⟩))
  | 39 => Gp.is (.int .i64 y)
  | 40 => Gp.is (mv y 5 7 3)
  | 41 => Gp.is (.bool true)
  | 42 => Gp.is (.bool false)
  | 43 => Gp.is (.bool false)
  | 44 => Gp.is (.bool false)
  | 45 => Gp.is (.slice (some ⟨gn, 0, none⟩) 14 14)
  | 46 => Gp.is (.int .i64 (k : Int))
  | 47 => Gp.is (.pointer (some ⟨gn, k, none⟩))
  | 48 => Gp.is (.int .i64 y)
  | 49 => Gp.is (.slice (some ⟨gn, 0, none⟩) 14 14)
  | 50 => Gp.is (.int .i64 (i : Int))
  | 51 => Gp.is (.pointer (some ⟨gn, i, none⟩))
  | 52 => Gp.is (.int .i64 x)
  | 53 => Gp.is (.slice (some ⟨gl, 0, none⟩) 3 3)
  | 54 => Gp.is (.int .i64 (j : Int))
  | 55 => Gp.is (.pointer (some ⟨gl, j * 3, none⟩))
  | 56 => Gp.is (.agg #[.int .i64 g.base, .int .i64 g.term, .slice A n c])
  | 57 => Gp.is (.slice (some ⟨gn, 0, none⟩) 14 14)
  | 58 => Gp.is (.int .i64 (i : Int))
  | 59 => Gp.is (.pointer (some ⟨gn, i, none⟩))
  | 60 => Gp.is (.int .i64 x)
  | 61 => Gp.is (.slice (some ⟨gn, 0, none⟩) 14 14)
  | 62 => Gp.is (.int .i64 (k : Int))
  | 63 => Gp.is (.pointer (some ⟨gn, k, none⟩))
  | 64 => Gp.is (.int .i64 y)
  | 65 => Gp.is (mv 2 x y 3)
  | 66 => Gp.is (.slice (some ⟨gn, 0, none⟩) 14 14)
  | 67 => Gp.is (.int .i64 (k : Int))
  | 68 => Gp.is (.pointer (some ⟨gn, k, none⟩))
  | 69 => Gp.is (.int .i64 y)
  | 70 => Gp.is (.slice (some ⟨gn, 0, none⟩) 14 14)
  | 71 => Gp.is (.int .i64 (i : Int))
  | 72 => Gp.is (.pointer (some ⟨gn, i, none⟩))
  | 73 => Gp.is (.int .i64 x)
  | 74 => Gp.is (mv y x 9 9)
  | 75 => Gp.is (.bool true)
  | 76 => Gp.is (.bool false)
  | 77 => Gp.is (.bool false)
  | 78 => Gp.is (.bool false)
  | 79 => Gp.is (.slice (some ⟨gl, 0, none⟩) 3 3)
  | 80 => Gp.is (.int .i64 (j : Int))
  | 81 => Gp.is (.pointer (some ⟨gl, j * 3, none⟩))
  | 82 => Gp.is (.agg #[.int .i64 g.base, .int .i64 g.term, .slice A n c])
  | 83 => Gp.is (.slice (some ⟨gn, 0, none⟩) 14 14)
  | 84 => Gp.is (.int .i64 (i : Int))
  | 85 => Gp.is (.pointer (some ⟨gn, i, none⟩))
  | 86 => Gp.is (.int .i64 x)
  | 87 => Gp.is (.slice (some ⟨gn, 0, none⟩) 14 14)
  | 88 => Gp.is (.int .i64 (k : Int))
  | 89 => Gp.is (.pointer (some ⟨gn, k, none⟩))
  | 90 => Gp.is (.int .i64 y)
  | 91 => Gp.is (mv 2 5 x y)
  | 92 => Gp.is (.slice (some ⟨gn, 0, none⟩) 14 14)
  | 93 => Gp.is (.int .i64 (k : Int))
  | 94 => Gp.is (.pointer (some ⟨gn, k, none⟩))
  | 95 => Gp.is (.int .i64 y)
  | 96 => Gp.is (.slice (some ⟨gn, 0, none⟩) 14 14)
  | 97 => Gp.is (.int .i64 (i : Int))
  | 98 => Gp.is (.pointer (some ⟨gn, i, none⟩))
  | 99 => Gp.is (.int .i64 x)
  | 100 => Gp.is (.bool true)
  | 101 => Gp.is (.bool false)
  | 102 => Gp.is (.bool false)
  | _ => Gp.any
def H14 (gn i : Nat) (x : Int) : Nat → Gp
  | 0 => Gp.is (.slice (some ⟨gn, 0, none⟩) 14 14)
  | 1 => Gp.is (.int .i64 (i : Int))
  | 2 => Gp.is (.pointer (some ⟨gn, i, none⟩))
  | 3 => Gp.is (.int .i64 x)
  | 4 => Gp.is (.slice (some ⟨gn, 0, none⟩) 14 14)
  | 5 => Gp.is (.int .i64 (i : Int))
  | 6 => Gp.is (.pointer (some ⟨gn, i, none⟩))
  | 7 => Gp.is (.int .i64 x)
  | 8 => Gp.is (.slice (some ⟨gn, 0, none⟩) 14 14)
  | 9 => Gp.is (.int .i64 (i : Int))
  | 10 => Gp.is (.pointer (some ⟨gn, i, none⟩))
  | 11 => Gp.is (.int .i64 x)
  | 12 => Gp.seven
  | 13 => Gp.row 0 3 #[.int .i64 1, .int .i64 2, .int .i64 3] 3
  | 14 => Gp.row 0 2 #[.int .i64 3, .int .i64 5] 3
  | 15 => Gp.row 0 1 #[.int .i64 7] 3
  | 16 => Gp.exC
  | 17 => Gp.is (.bool true)
  | 18 => Gp.is (.bool false)
  | 19 => Gp.is (.bool false)
  | 20 => Gp.is (.slice (some ⟨gn, 0, none⟩) 14 14)
  | 21 => Gp.is (.int .i64 (i : Int))
  | 22 => Gp.is (.pointer (some ⟨gn, i, none⟩))
  | 23 => Gp.is (.int .i64 x)
  | 24 => Gp.is (.agg #[.int .i64 0, .int .i64 0, .slice none 0 0])
  | 25 => Gp.is (.agg #[.slice none 0 0, .slice none 0 0, .slice none 0 0])
  | 26 => Gp.is (.bool true)
  | 27 => Gp.is (.bool false)
  | 28 => Gp.is (.bool false)
  | _ => Gp.any
def H18' : Nat → Gp
  | 0 => Gp.seven
  | 1 => Gp.is (.agg #[.int .i64 2, .int .i64 2, .int .i64 1, .int .i64 0, .int .i64 5, .int .i64 7, .int .i64 3, .int .i64 0, .int .i64 0, .int .i64 0, .int .i64 0, .int .i64 0, .int .i64 0, .int .i64 0, .bool false, .slice none 0 0, .slice none 0 0])
  | 2 => Gp.is (.bool false)
  | 3 => Gp.is (.bool true)
  | 4 => Gp.is (.bool true)
  | 5 => Gp.seven
  | 6 => Gp.is (mv 2 5 7 3)
  | 7 => Gp.is (.bool true)
  | 8 => Gp.is (.bool true)
  | 9 => Gp.is (.bool true)
  | 10 => Gp.seven
  | 11 => Gp.is (mv 2 5 7 3)
  | 12 => Gp.is (.bool false)
  | 13 => Gp.is (.bool true)
  | 14 => Gp.is (.bool true)
  | 15 => Gp.is (.bool true)
  | 16 => Gp.seven
  | 17 => Gp.is (mv 2 5 1 4)
  | 18 => Gp.is (.bool true)
  | 19 => Gp.is (.bool true)
  | 20 => Gp.is (.bool true)
  | 21 => Gp.seven
  | 22 => Gp.is (mv 2 5 9 2)
  | 23 => Gp.is (.bool false)
  | 24 => Gp.is (.bool true)
  | 25 => Gp.is (.bool true)
  | 26 => Gp.is (.bool true)
  | 27 => Gp.is (.int .i64 0)
  | 28 => Gp.is (.bool true)
  | 29 => Gp.is (.bool true)
  | 30 => Gp.is (.bool true)
  | 31 => Gp.is (.bool true)
  | 32 => Gp.is (.bool true)
  | 33 => Gp.is (.bool true)
  | _ => Gp.any
theorem pick01 (w : World) : Calls Try.prog 14 #[.int .i64 0, .int .i64 1] w fun e w' => e = .returned (.int .i64 0) ∧ Below w.heap.size w w' :=
  (pick_some 0 1 (by decide) (by decide) w).mono fun e w' h => ⟨h.1, h.2 ▸ Below.refl _ _⟩
set_option maxRecDepth 100000 in
set_option maxHeartbeats 51200000 in
theorem walk (w : World) : Calls Try.prog 3 #[] w fun e w' => e = .returned (.bool true) ∧ Below w.heap.size w w' := by
  obtain ⟨w1, hw1⟩ : ∃ w1, w1 = w.alloc (.cells #[.int .i64 (-9223372036854775808), .int .i64 (-1), .int .i64 0, .int .i64 1, .int .i64 2, .int .i64 3, .int .i64 4, .int .i64 5, .int .i64 6, .int .i64 7, .int .i64 8, .int .i64 9, .int .i64 10, .int .i64 9223372036854775807] 3) := ⟨_, rfl⟩
  have hb1 : Below w.heap.size w w1 := by rw [hw1]; exact (Below.refl _ _).alloc (Nat.le_refl _) _
  have hr1 : Rw w1 w.heap.size (ints nL).toArray 3 := by rw [hw1]; exact heap_alloc_new w _
  have B1 := hid hb1
  have R1 := hid hr1
  obtain ⟨gn, hgn⟩ : ∃ b, b = w.heap.size := ⟨_, rfl⟩
  rw [← hgn] at R1
  have HGN := hid hgn
  have HW1 := hid hw1
  clear hb1 hr1 hgn hw1
  go_enter Try.func3, Try.ntmps3
  go_upto_region 2 with fail
  rw [← HW1.out, ← HGN.out]
  go_wp2_with fail
  refine (seven_any w1).mono ?_
  rintro e w2 ⟨A2, rfl, hl2, hb2⟩
  obtain ⟨w3, hw3⟩ : ∃ w3, w3 = w2.alloc (.cells #[.int .i64 5, .int .i64 2, .slice A2 2 2, .int .i64 0, .int .i64 0, .slice none 0 0, .int .i64 7, .int .i64 3, .slice none 0 0] 25) := ⟨_, rfl⟩
  obtain ⟨gl, hgl⟩ : ∃ b, b = w2.heap.size := ⟨_, rfl⟩
  have hb23 : Below w2.heap.size w2 w3 := by rw [hw3]; exact (Below.refl _ _).alloc (Nat.le_refl _) _
  have hr3 : Rw w3 gl #[.int .i64 5, .int .i64 2, .slice A2 2 2, .int .i64 0, .int .i64 0, .slice none 0 0, .int .i64 7, .int .i64 3, .slice none 0 0] 25 := by rw [hw3, hgl]; exact heap_alloc_new w2 _
  have HJ := hid (logs_at w2 A2 hl2 w3 hb23 gl hr3)
  have hb13 := hb2.trans (hb23.mono hb2.size)
  have HN := hid (n_at w3 gn (R1.out.keep hb13))
  have B3 := hid (B1.out.trans (hb13.mono B1.out.size))
  have HGL := hid hgl
  have HW3 := hid hw3
  have LB : Hid (∀ W, Below w3.heap.size w3 W → w3.heap.size ≤ W.heap.size) := hid (fun W hb => hb.size)
  obtain ⟨s3, hs3⟩ : ∃ s, s = w3.heap.size := ⟨_, rfl⟩
  rw [← hs3] at HJ HN LB
  have HS3 := hid hs3
  clear hl2 hb2 hw3 hgl hb23 hr3 hb13 hs3 HW1 R1 HGN
  go_upto_region 3 with fail
  rw [← HW3.out, ← HGL.out]
  clear HW3 HGL
  go_wp2_with fail
  go_loopw [3] (fun v wr => ∃ i : Nat, i ≤ 14 ∧ v = .int .i64 (i : Int) ∧ Hid (Below s3 w3 wr)) (fun v _ => 14 - (RowKit.intOf v).toNat)
  case atStart => exact ⟨0, by omega, by simp, hid (Below.refl _ _)⟩
  case round =>
    obtain ⟨i, hi, rfl, GI⟩ := hrel
    by_cases hil : i < 14
    · have hi0 : (i : Int) < 14 := by omega
      obtain ⟨x, hx, hxc⟩ := HN.out i hil
      have HX := hid (And.intro hx hxc)
      clear hx hxc
      go_wp2_with fail
      go_loopw [4] (fun v wr => ∃ k : Nat, k ≤ 14 ∧ v = .int .i64 (k : Int) ∧ Hid (Below s3 w3 wr)) (fun v _ => 14 - (RowKit.intOf v).toNat)
      case atStart => exact ⟨0, by omega, by simp, GI⟩
      case round =>
        clear GI
        obtain ⟨k, hk, rfl, GK⟩ := hrel
        by_cases hkl : k < 14
        · have hk0 : (k : Int) < 14 := by omega
          obtain ⟨y, hy, hyc⟩ := HN.out k hkl
          have HY := hid (And.intro hy hyc)
          clear hy hyc
          go_wp2_with fail
          go_loopw [5] (fun v wr => ∃ j : Nat, j ≤ 3 ∧ v = .int .i64 (j : Int) ∧ Hid (Below s3 w3 wr)) (fun v _ => 3 - (RowKit.intOf v).toNat)
          case atStart => exact ⟨0, by omega, by simp, GK⟩
          case round =>
            clear GK
            obtain ⟨j, hj, rfl, G0⟩ := hrel
            obtain ⟨v0, hv0⟩ : ∃ v, v = wr := ⟨_, rfl⟩
            rw [← hv0] at G0 ⊢
            clear hv0
            by_cases hjl : j < 3
            · have hj0 : (j : Int) < 3 := by omega
              obtain ⟨g, A, n, c, hg, hA⟩ := HJ.out j hjl
              have HLG := hid hg
              have FW : Hid (∀ W, Below v0.heap.size v0 W → W.cell? ⟨gn, i, none⟩ = some (.int .i64 x) ∧ W.cell? ⟨gn, k, none⟩ = some (.int .i64 y) ∧ (ldX 25 (.pointer (some ⟨gl, j * 3, none⟩))).run Try.prog W = .ok (.agg #[.int .i64 g.base, .int .i64 g.term, .slice A n c]) W ∧ LgIs W W.heap.size g A c) := hid (fun W hW0 => by
                have hW := G0.out.trans (hW0.mono (LB.out _ G0.out))
                exact ⟨HX.out.2 W hW, HY.out.2 W hW, (hA W hW).2, (hA W hW).1⟩)
              have HXY := hid (And.intro HX.out.1 HY.out.1)
              clear hg hA
              go_wp2_with fail
              go_cut [132] from 30 to 132 (fun s W => s = .bool false ∧ Hid (Below s3 w3 W))
              case first =>
                rename_i J9 K9 h1 h2
                refine wp_region_all (w0 := v0) 103 (H12 gn gl i k j x y g A n c) [30, 31, 32, 33, 34, 35, 36, 37, 38, 39, 40, 41, 42, 43, 44, 45, 46, 47, 48, 49, 50, 51, 52, 53, 54, 55, 56, 57, 58, 59, 60, 61, 62, 63, 64, 65, 66, 67, 68, 69, 70, 71, 72, 73, 74, 75, 76, 77, 78, 79, 80, 81, 82, 83, 84, 85, 86, 87, 88, 89, 90, 91, 92, 93, 94, 95, 96, 97, 98, 99, 100, 101, 102, 103, 104, 105, 106, 107, 108, 109, 110, 111, 112, 113, 114, 115, 116, 117, 118, 119, 120, 121, 122, 123, 124, 125, 126, 127, 128, 129, 130, 131, 132] (by kernel_rfl) (by kernel_rfl) rfl (by kernel_rfl) (by kernel_rfl) ?arms ?he
                case arms =>
                  exact ⟨
                    ⟨.inl rfl, fun a W hb hkp hw => goes_move (hkp 1 (by decide)) rfl⟩,
                    ⟨.inl rfl, fun a W hb hkp hw => goes_move (hkp 3 (by decide)) rfl⟩,
                    ⟨.inl rfl, fun a W hb hkp hw => goes_index (v1 := .slice (some ⟨gn, 0, none⟩) 14 14) (v2 := .int .i64 (i : Int)) (hw 0 30 (by kernel_rfl)) (hw 1 31 (by kernel_rfl)) (show (Instr.indexAt _ _ _).run _ W = .ok (.pointer (some ⟨gn, i, none⟩)) W by clear hkp hw hb; go_simp) rfl⟩,
                    ⟨.inl rfl, fun a W hb hkp hw => goes_load (v1 := .pointer (some ⟨gn, i, none⟩)) (hw 2 32 (by kernel_rfl)) (show (Instr.loadAt _ _).run _ W = .ok (.int .i64 x) W by (have hc := (FW.out W hb).1; clear hkp hw hb; go_simp)) rfl⟩,
                    ⟨.inl rfl, fun a W hb hkp hw => goes_move (hkp 1 (by decide)) rfl⟩,
                    ⟨.inl rfl, fun a W hb hkp hw => goes_move (hkp 4 (by decide)) rfl⟩,
                    ⟨.inl rfl, fun a W hb hkp hw => goes_index (v1 := .slice (some ⟨gn, 0, none⟩) 14 14) (v2 := .int .i64 (k : Int)) (hw 4 34 (by kernel_rfl)) (hw 5 35 (by kernel_rfl)) (show (Instr.indexAt _ _ _).run _ W = .ok (.pointer (some ⟨gn, k, none⟩)) W by clear hkp hw hb; go_simp) rfl⟩,
                    ⟨.inl rfl, fun a W hb hkp hw => goes_load (v1 := .pointer (some ⟨gn, k, none⟩)) (hw 6 36 (by kernel_rfl)) (show (Instr.loadAt _ _).run _ W = .ok (.int .i64 y) W by (have hc := (FW.out W hb).2.1; clear hkp hw hb; go_simp)) rfl⟩,
                    ⟨.inl rfl, fun a W hb hkp hw => goes_move (hkp 2 (by decide)) rfl⟩,
                    ⟨.inl rfl, fun a W hb hkp hw => goes_move (hkp 5 (by decide)) rfl⟩,
                    ⟨.inl rfl, fun a W hb hkp hw => goes_index (v1 := .slice (some ⟨gl, 0, none⟩) 3 3) (v2 := .int .i64 (j : Int)) (hw 8 38 (by kernel_rfl)) (hw 9 39 (by kernel_rfl)) (show (Instr.indexAt _ _ _).run _ W = .ok (.pointer (some ⟨gl, j * 3, none⟩)) W by clear hkp hw hb; go_simp) rfl⟩,
                    ⟨.inl rfl, fun a W hb hkp hw => goes_load (v1 := .pointer (some ⟨gl, j * 3, none⟩)) (hw 10 40 (by kernel_rfl)) (show (Instr.loadAt _ _).run _ W = .ok (.agg #[.int .i64 g.base, .int .i64 g.term, .slice A n c]) W by exact (FW.out W hb).2.2.1) rfl⟩,
                    ⟨.inl rfl, fun a W hb hkp hw => goes_move (hkp 1 (by decide)) rfl⟩,
                    ⟨.inl rfl, fun a W hb hkp hw => goes_move (hkp 3 (by decide)) rfl⟩,
                    ⟨.inl rfl, fun a W hb hkp hw => goes_index (v1 := .slice (some ⟨gn, 0, none⟩) 14 14) (v2 := .int .i64 (i : Int)) (hw 12 42 (by kernel_rfl)) (hw 13 43 (by kernel_rfl)) (show (Instr.indexAt _ _ _).run _ W = .ok (.pointer (some ⟨gn, i, none⟩)) W by clear hkp hw hb; go_simp) rfl⟩,
                    ⟨.inl rfl, fun a W hb hkp hw => goes_load (v1 := .pointer (some ⟨gn, i, none⟩)) (hw 14 44 (by kernel_rfl)) (show (Instr.loadAt _ _).run _ W = .ok (.int .i64 x) W by (have hc := (FW.out W hb).1; clear hkp hw hb; go_simp)) rfl⟩,
                    ⟨.inl rfl, fun a W hb hkp hw => goes_move (hkp 1 (by decide)) rfl⟩,
                    ⟨.inl rfl, fun a W hb hkp hw => goes_move (hkp 4 (by decide)) rfl⟩,
                    ⟨.inl rfl, fun a W hb hkp hw => goes_index (v1 := .slice (some ⟨gn, 0, none⟩) 14 14) (v2 := .int .i64 (k : Int)) (hw 16 46 (by kernel_rfl)) (hw 17 47 (by kernel_rfl)) (show (Instr.indexAt _ _ _).run _ W = .ok (.pointer (some ⟨gn, k, none⟩)) W by clear hkp hw hb; go_simp) rfl⟩,
                    ⟨.inl rfl, fun a W hb hkp hw => goes_load (v1 := .pointer (some ⟨gn, k, none⟩)) (hw 18 48 (by kernel_rfl)) (show (Instr.loadAt _ _).run _ W = .ok (.int .i64 y) W by (have hc := (FW.out W hb).2.1; clear hkp hw hb; go_simp)) rfl⟩,
                    ⟨.inl rfl, fun a W hb hkp hw => by (have q2 : a.eval (.tmp 45) = .int .i64 x := hw 15 45 (by kernel_rfl); have q3 : a.eval (.tmp 49) = .int .i64 y := hw 19 49 (by kernel_rfl); exact goes_callN #[.int .i64 2, .int .i64 5, .int .i64 x, .int .i64 y] (by simp [ev_const0, q2, q3]) (by go_simp) ((askedK 2 5 x y W).mono fun e w9 h => ⟨_, h.1, rfl, h.2⟩))⟩,
                    ⟨.inl rfl, fun a W hb hkp hw => by (have q0 : a.eval (.tmp 33) = .int .i64 x := hw 3 33 (by kernel_rfl); have q2 : a.eval (.tmp 37) = .int .i64 y := hw 7 37 (by kernel_rfl); have q3 : a.eval (.tmp 41) = .agg #[.int .i64 g.base, .int .i64 g.term, .slice A n c] := hw 11 41 (by kernel_rfl); have q4 : a.eval (.tmp 50) = mv 2 5 x y := hw 20 50 (by kernel_rfl); exact goes_callN #[.int .i64 x, .int .i64 5, .int .i64 y, .agg #[.int .i64 g.base, .int .i64 g.term, .slice A n c], mv 2 5 x y] (by simp [ev_const0, q0, q2, q3, q4]) (by go_simp) ((tellsK x 5 y 2 5 x y HXY.out.1 g A n c HLG.out W (FW.out W hb).2.2.2).mono fun e w9 h => ⟨_, h.1, rfl, h.2⟩))⟩,
                    ⟨.inl rfl, fun a W hb hkp hw => goes_val (run_notV (hw 21 51 (by kernel_rfl))) rfl⟩,
                    ⟨.inl rfl, fun a W hb hkp hw => goes_move rfl (hw 22 52 (by kernel_rfl))⟩,
                    ⟨.inr ⟨23, 53, false, rfl, by kernel_rfl, fun _ _ h => h⟩, fun a W hb hkp hw => goes_move (hkp 1 (by decide)) rfl⟩,
                    ⟨.inr ⟨23, 53, false, rfl, by kernel_rfl, fun _ _ h => h⟩, fun a W hb hkp hw => goes_move (hkp 3 (by decide)) rfl⟩,
                    ⟨.inr ⟨23, 53, false, rfl, by kernel_rfl, fun _ _ h => h⟩, fun a W hb hkp hw => goes_index (v1 := .slice (some ⟨gn, 0, none⟩) 14 14) (v2 := .int .i64 (i : Int)) (hw 24 54 (by kernel_rfl)) (hw 25 55 (by kernel_rfl)) (show (Instr.indexAt _ _ _).run _ W = .ok (.pointer (some ⟨gn, i, none⟩)) W by clear hkp hw hb; go_simp) rfl⟩,
                    ⟨.inr ⟨23, 53, false, rfl, by kernel_rfl, fun _ _ h => h⟩, fun a W hb hkp hw => goes_load (v1 := .pointer (some ⟨gn, i, none⟩)) (hw 26 56 (by kernel_rfl)) (show (Instr.loadAt _ _).run _ W = .ok (.int .i64 x) W by (have hc := (FW.out W hb).1; clear hkp hw hb; go_simp)) rfl⟩,
                    ⟨.inr ⟨23, 53, false, rfl, by kernel_rfl, fun _ _ h => h⟩, fun a W hb hkp hw => goes_move (hkp 1 (by decide)) rfl⟩,
                    ⟨.inr ⟨23, 53, false, rfl, by kernel_rfl, fun _ _ h => h⟩, fun a W hb hkp hw => goes_move (hkp 3 (by decide)) rfl⟩,
                    ⟨.inr ⟨23, 53, false, rfl, by kernel_rfl, fun _ _ h => h⟩, fun a W hb hkp hw => goes_index (v1 := .slice (some ⟨gn, 0, none⟩) 14 14) (v2 := .int .i64 (i : Int)) (hw 28 58 (by kernel_rfl)) (hw 29 59 (by kernel_rfl)) (show (Instr.indexAt _ _ _).run _ W = .ok (.pointer (some ⟨gn, i, none⟩)) W by clear hkp hw hb; go_simp) rfl⟩,
                    ⟨.inr ⟨23, 53, false, rfl, by kernel_rfl, fun _ _ h => h⟩, fun a W hb hkp hw => goes_load (v1 := .pointer (some ⟨gn, i, none⟩)) (hw 30 60 (by kernel_rfl)) (show (Instr.loadAt _ _).run _ W = .ok (.int .i64 x) W by (have hc := (FW.out W hb).1; clear hkp hw hb; go_simp)) rfl⟩,
                    ⟨.inr ⟨23, 53, false, rfl, by kernel_rfl, fun _ _ h => h⟩, fun a W hb hkp hw => goes_move (hkp 2 (by decide)) rfl⟩,
                    ⟨.inr ⟨23, 53, false, rfl, by kernel_rfl, fun _ _ h => h⟩, fun a W hb hkp hw => goes_move (hkp 5 (by decide)) rfl⟩,
                    ⟨.inr ⟨23, 53, false, rfl, by kernel_rfl, fun _ _ h => h⟩, fun a W hb hkp hw => goes_index (v1 := .slice (some ⟨gl, 0, none⟩) 3 3) (v2 := .int .i64 (j : Int)) (hw 32 62 (by kernel_rfl)) (hw 33 63 (by kernel_rfl)) (show (Instr.indexAt _ _ _).run _ W = .ok (.pointer (some ⟨gl, j * 3, none⟩)) W by clear hkp hw hb; go_simp) rfl⟩,
                    ⟨.inr ⟨23, 53, false, rfl, by kernel_rfl, fun _ _ h => h⟩, fun a W hb hkp hw => goes_load (v1 := .pointer (some ⟨gl, j * 3, none⟩)) (hw 34 64 (by kernel_rfl)) (show (Instr.loadAt _ _).run _ W = .ok (.agg #[.int .i64 g.base, .int .i64 g.term, .slice A n c]) W by exact (FW.out W hb).2.2.1) rfl⟩,
                    ⟨.inr ⟨23, 53, false, rfl, by kernel_rfl, fun _ _ h => h⟩, fun a W hb hkp hw => goes_move (hkp 1 (by decide)) rfl⟩,
                    ⟨.inr ⟨23, 53, false, rfl, by kernel_rfl, fun _ _ h => h⟩, fun a W hb hkp hw => goes_move (hkp 4 (by decide)) rfl⟩,
                    ⟨.inr ⟨23, 53, false, rfl, by kernel_rfl, fun _ _ h => h⟩, fun a W hb hkp hw => goes_index (v1 := .slice (some ⟨gn, 0, none⟩) 14 14) (v2 := .int .i64 (k : Int)) (hw 36 66 (by kernel_rfl)) (hw 37 67 (by kernel_rfl)) (show (Instr.indexAt _ _ _).run _ W = .ok (.pointer (some ⟨gn, k, none⟩)) W by clear hkp hw hb; go_simp) rfl⟩,
                    ⟨.inr ⟨23, 53, false, rfl, by kernel_rfl, fun _ _ h => h⟩, fun a W hb hkp hw => goes_load (v1 := .pointer (some ⟨gn, k, none⟩)) (hw 38 68 (by kernel_rfl)) (show (Instr.loadAt _ _).run _ W = .ok (.int .i64 y) W by (have hc := (FW.out W hb).2.1; clear hkp hw hb; go_simp)) rfl⟩,
                    ⟨.inr ⟨23, 53, false, rfl, by kernel_rfl, fun _ _ h => h⟩, fun a W hb hkp hw => by (have q0 : a.eval (.tmp 69) = .int .i64 y := hw 39 69 (by kernel_rfl); exact goes_callN #[.int .i64 y, .int .i64 5, .int .i64 7, .int .i64 3] (by simp [ev_const0, q0]) (by go_simp) ((askedK y 5 7 3 W).mono fun e w9 h => ⟨_, h.1, rfl, h.2⟩))⟩,
                    ⟨.inr ⟨23, 53, false, rfl, by kernel_rfl, fun _ _ h => h⟩, fun a W hb hkp hw => by (have q0 : a.eval (.tmp 57) = .int .i64 x := hw 27 57 (by kernel_rfl); have q1 : a.eval (.tmp 61) = .int .i64 x := hw 31 61 (by kernel_rfl); have q3 : a.eval (.tmp 65) = .agg #[.int .i64 g.base, .int .i64 g.term, .slice A n c] := hw 35 65 (by kernel_rfl); have q4 : a.eval (.tmp 70) = mv y 5 7 3 := hw 40 70 (by kernel_rfl); exact goes_callN #[.int .i64 x, .int .i64 x, .int .i64 0, .agg #[.int .i64 g.base, .int .i64 g.term, .slice A n c], mv y 5 7 3] (by simp [ev_const0, q0, q1, q3, q4]) (by go_simp) ((tellsK x x 0 y 5 7 3 HXY.out.1 g A n c HLG.out W (FW.out W hb).2.2.2).mono fun e w9 h => ⟨_, h.1, rfl, h.2⟩))⟩,
                    ⟨.inr ⟨23, 53, false, rfl, by kernel_rfl, fun _ _ h => h⟩, fun a W hb hkp hw => goes_val (run_notV (hw 41 71 (by kernel_rfl))) rfl⟩,
                    ⟨.inl rfl, fun a W hb hkp hw => goes_val (run_pick (hw 23 53 (by kernel_rfl)) (show _ = _ from hw 42 72 (by kernel_rfl))) rfl⟩,
                    ⟨.inl rfl, fun a W hb hkp hw => goes_move rfl (hw 43 73 (by kernel_rfl))⟩,
                    ⟨.inr ⟨44, 74, false, rfl, by kernel_rfl, fun _ _ h => h⟩, fun a W hb hkp hw => goes_move (hkp 1 (by decide)) rfl⟩,
                    ⟨.inr ⟨44, 74, false, rfl, by kernel_rfl, fun _ _ h => h⟩, fun a W hb hkp hw => goes_move (hkp 4 (by decide)) rfl⟩,
                    ⟨.inr ⟨44, 74, false, rfl, by kernel_rfl, fun _ _ h => h⟩, fun a W hb hkp hw => goes_index (v1 := .slice (some ⟨gn, 0, none⟩) 14 14) (v2 := .int .i64 (k : Int)) (hw 45 75 (by kernel_rfl)) (hw 46 76 (by kernel_rfl)) (show (Instr.indexAt _ _ _).run _ W = .ok (.pointer (some ⟨gn, k, none⟩)) W by clear hkp hw hb; go_simp) rfl⟩,
                    ⟨.inr ⟨44, 74, false, rfl, by kernel_rfl, fun _ _ h => h⟩, fun a W hb hkp hw => goes_load (v1 := .pointer (some ⟨gn, k, none⟩)) (hw 47 77 (by kernel_rfl)) (show (Instr.loadAt _ _).run _ W = .ok (.int .i64 y) W by (have hc := (FW.out W hb).2.1; clear hkp hw hb; go_simp)) rfl⟩,
                    ⟨.inr ⟨44, 74, false, rfl, by kernel_rfl, fun _ _ h => h⟩, fun a W hb hkp hw => goes_move (hkp 1 (by decide)) rfl⟩,
                    ⟨.inr ⟨44, 74, false, rfl, by kernel_rfl, fun _ _ h => h⟩, fun a W hb hkp hw => goes_move (hkp 3 (by decide)) rfl⟩,
                    ⟨.inr ⟨44, 74, false, rfl, by kernel_rfl, fun _ _ h => h⟩, fun a W hb hkp hw => goes_index (v1 := .slice (some ⟨gn, 0, none⟩) 14 14) (v2 := .int .i64 (i : Int)) (hw 49 79 (by kernel_rfl)) (hw 50 80 (by kernel_rfl)) (show (Instr.indexAt _ _ _).run _ W = .ok (.pointer (some ⟨gn, i, none⟩)) W by clear hkp hw hb; go_simp) rfl⟩,
                    ⟨.inr ⟨44, 74, false, rfl, by kernel_rfl, fun _ _ h => h⟩, fun a W hb hkp hw => goes_load (v1 := .pointer (some ⟨gn, i, none⟩)) (hw 51 81 (by kernel_rfl)) (show (Instr.loadAt _ _).run _ W = .ok (.int .i64 x) W by (have hc := (FW.out W hb).1; clear hkp hw hb; go_simp)) rfl⟩,
                    ⟨.inr ⟨44, 74, false, rfl, by kernel_rfl, fun _ _ h => h⟩, fun a W hb hkp hw => goes_move (hkp 2 (by decide)) rfl⟩,
                    ⟨.inr ⟨44, 74, false, rfl, by kernel_rfl, fun _ _ h => h⟩, fun a W hb hkp hw => goes_move (hkp 5 (by decide)) rfl⟩,
                    ⟨.inr ⟨44, 74, false, rfl, by kernel_rfl, fun _ _ h => h⟩, fun a W hb hkp hw => goes_index (v1 := .slice (some ⟨gl, 0, none⟩) 3 3) (v2 := .int .i64 (j : Int)) (hw 53 83 (by kernel_rfl)) (hw 54 84 (by kernel_rfl)) (show (Instr.indexAt _ _ _).run _ W = .ok (.pointer (some ⟨gl, j * 3, none⟩)) W by clear hkp hw hb; go_simp) rfl⟩,
                    ⟨.inr ⟨44, 74, false, rfl, by kernel_rfl, fun _ _ h => h⟩, fun a W hb hkp hw => goes_load (v1 := .pointer (some ⟨gl, j * 3, none⟩)) (hw 55 85 (by kernel_rfl)) (show (Instr.loadAt _ _).run _ W = .ok (.agg #[.int .i64 g.base, .int .i64 g.term, .slice A n c]) W by exact (FW.out W hb).2.2.1) rfl⟩,
                    ⟨.inr ⟨44, 74, false, rfl, by kernel_rfl, fun _ _ h => h⟩, fun a W hb hkp hw => goes_move (hkp 1 (by decide)) rfl⟩,
                    ⟨.inr ⟨44, 74, false, rfl, by kernel_rfl, fun _ _ h => h⟩, fun a W hb hkp hw => goes_move (hkp 3 (by decide)) rfl⟩,
                    ⟨.inr ⟨44, 74, false, rfl, by kernel_rfl, fun _ _ h => h⟩, fun a W hb hkp hw => goes_index (v1 := .slice (some ⟨gn, 0, none⟩) 14 14) (v2 := .int .i64 (i : Int)) (hw 57 87 (by kernel_rfl)) (hw 58 88 (by kernel_rfl)) (show (Instr.indexAt _ _ _).run _ W = .ok (.pointer (some ⟨gn, i, none⟩)) W by clear hkp hw hb; go_simp) rfl⟩,
                    ⟨.inr ⟨44, 74, false, rfl, by kernel_rfl, fun _ _ h => h⟩, fun a W hb hkp hw => goes_load (v1 := .pointer (some ⟨gn, i, none⟩)) (hw 59 89 (by kernel_rfl)) (show (Instr.loadAt _ _).run _ W = .ok (.int .i64 x) W by (have hc := (FW.out W hb).1; clear hkp hw hb; go_simp)) rfl⟩,
                    ⟨.inr ⟨44, 74, false, rfl, by kernel_rfl, fun _ _ h => h⟩, fun a W hb hkp hw => goes_move (hkp 1 (by decide)) rfl⟩,
                    ⟨.inr ⟨44, 74, false, rfl, by kernel_rfl, fun _ _ h => h⟩, fun a W hb hkp hw => goes_move (hkp 4 (by decide)) rfl⟩,
                    ⟨.inr ⟨44, 74, false, rfl, by kernel_rfl, fun _ _ h => h⟩, fun a W hb hkp hw => goes_index (v1 := .slice (some ⟨gn, 0, none⟩) 14 14) (v2 := .int .i64 (k : Int)) (hw 61 91 (by kernel_rfl)) (hw 62 92 (by kernel_rfl)) (show (Instr.indexAt _ _ _).run _ W = .ok (.pointer (some ⟨gn, k, none⟩)) W by clear hkp hw hb; go_simp) rfl⟩,
                    ⟨.inr ⟨44, 74, false, rfl, by kernel_rfl, fun _ _ h => h⟩, fun a W hb hkp hw => goes_load (v1 := .pointer (some ⟨gn, k, none⟩)) (hw 63 93 (by kernel_rfl)) (show (Instr.loadAt _ _).run _ W = .ok (.int .i64 y) W by (have hc := (FW.out W hb).2.1; clear hkp hw hb; go_simp)) rfl⟩,
                    ⟨.inr ⟨44, 74, false, rfl, by kernel_rfl, fun _ _ h => h⟩, fun a W hb hkp hw => by (have q1 : a.eval (.tmp 90) = .int .i64 x := hw 60 90 (by kernel_rfl); have q2 : a.eval (.tmp 94) = .int .i64 y := hw 64 94 (by kernel_rfl); exact goes_callN #[.int .i64 2, .int .i64 x, .int .i64 y, .int .i64 3] (by simp [ev_const0, q1, q2]) (by go_simp) ((askedK 2 x y 3 W).mono fun e w9 h => ⟨_, h.1, rfl, h.2⟩))⟩,
                    ⟨.inr ⟨44, 74, false, rfl, by kernel_rfl, fun _ _ h => h⟩, fun a W hb hkp hw => goes_move (hkp 1 (by decide)) rfl⟩,
                    ⟨.inr ⟨44, 74, false, rfl, by kernel_rfl, fun _ _ h => h⟩, fun a W hb hkp hw => goes_move (hkp 4 (by decide)) rfl⟩,
                    ⟨.inr ⟨44, 74, false, rfl, by kernel_rfl, fun _ _ h => h⟩, fun a W hb hkp hw => goes_index (v1 := .slice (some ⟨gn, 0, none⟩) 14 14) (v2 := .int .i64 (k : Int)) (hw 66 96 (by kernel_rfl)) (hw 67 97 (by kernel_rfl)) (show (Instr.indexAt _ _ _).run _ W = .ok (.pointer (some ⟨gn, k, none⟩)) W by clear hkp hw hb; go_simp) rfl⟩,
                    ⟨.inr ⟨44, 74, false, rfl, by kernel_rfl, fun _ _ h => h⟩, fun a W hb hkp hw => goes_load (v1 := .pointer (some ⟨gn, k, none⟩)) (hw 68 98 (by kernel_rfl)) (show (Instr.loadAt _ _).run _ W = .ok (.int .i64 y) W by (have hc := (FW.out W hb).2.1; clear hkp hw hb; go_simp)) rfl⟩,
                    ⟨.inr ⟨44, 74, false, rfl, by kernel_rfl, fun _ _ h => h⟩, fun a W hb hkp hw => goes_move (hkp 1 (by decide)) rfl⟩,
                    ⟨.inr ⟨44, 74, false, rfl, by kernel_rfl, fun _ _ h => h⟩, fun a W hb hkp hw => goes_move (hkp 3 (by decide)) rfl⟩,
                    ⟨.inr ⟨44, 74, false, rfl, by kernel_rfl, fun _ _ h => h⟩, fun a W hb hkp hw => goes_index (v1 := .slice (some ⟨gn, 0, none⟩) 14 14) (v2 := .int .i64 (i : Int)) (hw 70 100 (by kernel_rfl)) (hw 71 101 (by kernel_rfl)) (show (Instr.indexAt _ _ _).run _ W = .ok (.pointer (some ⟨gn, i, none⟩)) W by clear hkp hw hb; go_simp) rfl⟩,
                    ⟨.inr ⟨44, 74, false, rfl, by kernel_rfl, fun _ _ h => h⟩, fun a W hb hkp hw => goes_load (v1 := .pointer (some ⟨gn, i, none⟩)) (hw 72 102 (by kernel_rfl)) (show (Instr.loadAt _ _).run _ W = .ok (.int .i64 x) W by (have hc := (FW.out W hb).1; clear hkp hw hb; go_simp)) rfl⟩,
                    ⟨.inr ⟨44, 74, false, rfl, by kernel_rfl, fun _ _ h => h⟩, fun a W hb hkp hw => by (have q0 : a.eval (.tmp 99) = .int .i64 y := hw 69 99 (by kernel_rfl); have q1 : a.eval (.tmp 103) = .int .i64 x := hw 73 103 (by kernel_rfl); exact goes_callN #[.int .i64 y, .int .i64 x, .int .i64 9, .int .i64 9] (by simp [ev_const0, q0, q1]) (by go_simp) ((askedK y x 9 9 W).mono fun e w9 h => ⟨_, h.1, rfl, h.2⟩))⟩,
                    ⟨.inr ⟨44, 74, false, rfl, by kernel_rfl, fun _ _ h => h⟩, fun a W hb hkp hw => by (have q0 : a.eval (.tmp 78) = .int .i64 y := hw 48 78 (by kernel_rfl); have q1 : a.eval (.tmp 82) = .int .i64 x := hw 52 82 (by kernel_rfl); have q2 : a.eval (.tmp 86) = .agg #[.int .i64 g.base, .int .i64 g.term, .slice A n c] := hw 56 86 (by kernel_rfl); have q3 : a.eval (.tmp 95) = mv 2 x y 3 := hw 65 95 (by kernel_rfl); have q4 : a.eval (.tmp 104) = mv y x 9 9 := hw 74 104 (by kernel_rfl); exact goes_callN #[.int .i64 y, .int .i64 x, .agg #[.int .i64 g.base, .int .i64 g.term, .slice A n c], mv 2 x y 3, mv y x 9 9] (by simp [q0, q1, q2, q3, q4]) (by go_simp) ((onceK y x 2 x y 3 y x 9 9 HXY.out.2 g A n c HLG.out W (FW.out W hb).2.2.2).mono fun e w9 h => ⟨_, h.1, rfl, h.2⟩))⟩,
                    ⟨.inr ⟨44, 74, false, rfl, by kernel_rfl, fun _ _ h => h⟩, fun a W hb hkp hw => goes_val (run_notV (hw 75 105 (by kernel_rfl))) rfl⟩,
                    ⟨.inl rfl, fun a W hb hkp hw => goes_val (run_pick (hw 44 74 (by kernel_rfl)) (show _ = _ from hw 76 106 (by kernel_rfl))) rfl⟩,
                    ⟨.inl rfl, fun a W hb hkp hw => goes_move rfl (hw 77 107 (by kernel_rfl))⟩,
                    ⟨.inr ⟨78, 108, false, rfl, by kernel_rfl, fun _ _ h => h⟩, fun a W hb hkp hw => goes_move (hkp 2 (by decide)) rfl⟩,
                    ⟨.inr ⟨78, 108, false, rfl, by kernel_rfl, fun _ _ h => h⟩, fun a W hb hkp hw => goes_move (hkp 5 (by decide)) rfl⟩,
                    ⟨.inr ⟨78, 108, false, rfl, by kernel_rfl, fun _ _ h => h⟩, fun a W hb hkp hw => goes_index (v1 := .slice (some ⟨gl, 0, none⟩) 3 3) (v2 := .int .i64 (j : Int)) (hw 79 109 (by kernel_rfl)) (hw 80 110 (by kernel_rfl)) (show (Instr.indexAt _ _ _).run _ W = .ok (.pointer (some ⟨gl, j * 3, none⟩)) W by clear hkp hw hb; go_simp) rfl⟩,
                    ⟨.inr ⟨78, 108, false, rfl, by kernel_rfl, fun _ _ h => h⟩, fun a W hb hkp hw => goes_load (v1 := .pointer (some ⟨gl, j * 3, none⟩)) (hw 81 111 (by kernel_rfl)) (show (Instr.loadAt _ _).run _ W = .ok (.agg #[.int .i64 g.base, .int .i64 g.term, .slice A n c]) W by exact (FW.out W hb).2.2.1) rfl⟩,
                    ⟨.inr ⟨78, 108, false, rfl, by kernel_rfl, fun _ _ h => h⟩, fun a W hb hkp hw => goes_move (hkp 1 (by decide)) rfl⟩,
                    ⟨.inr ⟨78, 108, false, rfl, by kernel_rfl, fun _ _ h => h⟩, fun a W hb hkp hw => goes_move (hkp 3 (by decide)) rfl⟩,
                    ⟨.inr ⟨78, 108, false, rfl, by kernel_rfl, fun _ _ h => h⟩, fun a W hb hkp hw => goes_index (v1 := .slice (some ⟨gn, 0, none⟩) 14 14) (v2 := .int .i64 (i : Int)) (hw 83 113 (by kernel_rfl)) (hw 84 114 (by kernel_rfl)) (show (Instr.indexAt _ _ _).run _ W = .ok (.pointer (some ⟨gn, i, none⟩)) W by clear hkp hw hb; go_simp) rfl⟩,
                    ⟨.inr ⟨78, 108, false, rfl, by kernel_rfl, fun _ _ h => h⟩, fun a W hb hkp hw => goes_load (v1 := .pointer (some ⟨gn, i, none⟩)) (hw 85 115 (by kernel_rfl)) (show (Instr.loadAt _ _).run _ W = .ok (.int .i64 x) W by (have hc := (FW.out W hb).1; clear hkp hw hb; go_simp)) rfl⟩,
                    ⟨.inr ⟨78, 108, false, rfl, by kernel_rfl, fun _ _ h => h⟩, fun a W hb hkp hw => goes_move (hkp 1 (by decide)) rfl⟩,
                    ⟨.inr ⟨78, 108, false, rfl, by kernel_rfl, fun _ _ h => h⟩, fun a W hb hkp hw => goes_move (hkp 4 (by decide)) rfl⟩,
                    ⟨.inr ⟨78, 108, false, rfl, by kernel_rfl, fun _ _ h => h⟩, fun a W hb hkp hw => goes_index (v1 := .slice (some ⟨gn, 0, none⟩) 14 14) (v2 := .int .i64 (k : Int)) (hw 87 117 (by kernel_rfl)) (hw 88 118 (by kernel_rfl)) (show (Instr.indexAt _ _ _).run _ W = .ok (.pointer (some ⟨gn, k, none⟩)) W by clear hkp hw hb; go_simp) rfl⟩,
                    ⟨.inr ⟨78, 108, false, rfl, by kernel_rfl, fun _ _ h => h⟩, fun a W hb hkp hw => goes_load (v1 := .pointer (some ⟨gn, k, none⟩)) (hw 89 119 (by kernel_rfl)) (show (Instr.loadAt _ _).run _ W = .ok (.int .i64 y) W by (have hc := (FW.out W hb).2.1; clear hkp hw hb; go_simp)) rfl⟩,
                    ⟨.inr ⟨78, 108, false, rfl, by kernel_rfl, fun _ _ h => h⟩, fun a W hb hkp hw => by (have q2 : a.eval (.tmp 116) = .int .i64 x := hw 86 116 (by kernel_rfl); have q3 : a.eval (.tmp 120) = .int .i64 y := hw 90 120 (by kernel_rfl); exact goes_callN #[.int .i64 2, .int .i64 5, .int .i64 x, .int .i64 y] (by simp [ev_const0, q2, q3]) (by go_simp) ((askedK 2 5 x y W).mono fun e w9 h => ⟨_, h.1, rfl, h.2⟩))⟩,
                    ⟨.inr ⟨78, 108, false, rfl, by kernel_rfl, fun _ _ h => h⟩, fun a W hb hkp hw => goes_move (hkp 1 (by decide)) rfl⟩,
                    ⟨.inr ⟨78, 108, false, rfl, by kernel_rfl, fun _ _ h => h⟩, fun a W hb hkp hw => goes_move (hkp 4 (by decide)) rfl⟩,
                    ⟨.inr ⟨78, 108, false, rfl, by kernel_rfl, fun _ _ h => h⟩, fun a W hb hkp hw => goes_index (v1 := .slice (some ⟨gn, 0, none⟩) 14 14) (v2 := .int .i64 (k : Int)) (hw 92 122 (by kernel_rfl)) (hw 93 123 (by kernel_rfl)) (show (Instr.indexAt _ _ _).run _ W = .ok (.pointer (some ⟨gn, k, none⟩)) W by clear hkp hw hb; go_simp) rfl⟩,
                    ⟨.inr ⟨78, 108, false, rfl, by kernel_rfl, fun _ _ h => h⟩, fun a W hb hkp hw => goes_load (v1 := .pointer (some ⟨gn, k, none⟩)) (hw 94 124 (by kernel_rfl)) (show (Instr.loadAt _ _).run _ W = .ok (.int .i64 y) W by (have hc := (FW.out W hb).2.1; clear hkp hw hb; go_simp)) rfl⟩,
                    ⟨.inr ⟨78, 108, false, rfl, by kernel_rfl, fun _ _ h => h⟩, fun a W hb hkp hw => goes_move (hkp 1 (by decide)) rfl⟩,
                    ⟨.inr ⟨78, 108, false, rfl, by kernel_rfl, fun _ _ h => h⟩, fun a W hb hkp hw => goes_move (hkp 3 (by decide)) rfl⟩,
                    ⟨.inr ⟨78, 108, false, rfl, by kernel_rfl, fun _ _ h => h⟩, fun a W hb hkp hw => goes_index (v1 := .slice (some ⟨gn, 0, none⟩) 14 14) (v2 := .int .i64 (i : Int)) (hw 96 126 (by kernel_rfl)) (hw 97 127 (by kernel_rfl)) (show (Instr.indexAt _ _ _).run _ W = .ok (.pointer (some ⟨gn, i, none⟩)) W by clear hkp hw hb; go_simp) rfl⟩,
                    ⟨.inr ⟨78, 108, false, rfl, by kernel_rfl, fun _ _ h => h⟩, fun a W hb hkp hw => goes_load (v1 := .pointer (some ⟨gn, i, none⟩)) (hw 98 128 (by kernel_rfl)) (show (Instr.loadAt _ _).run _ W = .ok (.int .i64 x) W by (have hc := (FW.out W hb).1; clear hkp hw hb; go_simp)) rfl⟩,
                    ⟨.inr ⟨78, 108, false, rfl, by kernel_rfl, fun _ _ h => h⟩, fun a W hb hkp hw => by (have q2 : a.eval (.tmp 112) = .agg #[.int .i64 g.base, .int .i64 g.term, .slice A n c] := hw 82 112 (by kernel_rfl); have q3 : a.eval (.tmp 121) = mv 2 5 x y := hw 91 121 (by kernel_rfl); have q4 : a.eval (.tmp 125) = .int .i64 y := hw 95 125 (by kernel_rfl); have q5 : a.eval (.tmp 129) = .int .i64 x := hw 99 129 (by kernel_rfl); exact goes_callN #[.int .i64 5, .int .i64 2, .agg #[.int .i64 g.base, .int .i64 g.term, .slice A n c], mv 2 5 x y, .int .i64 y, .int .i64 x] (by simp [ev_const0, q2, q3, q4, q5]) (by go_simp) ((wholeK 5 2 2 5 x y y x g A n c HLG.out W (FW.out W hb).2.2.2).mono fun e w9 h => ⟨_, h.1, rfl, h.2⟩))⟩,
                    ⟨.inr ⟨78, 108, false, rfl, by kernel_rfl, fun _ _ h => h⟩, fun a W hb hkp hw => goes_val (run_notV (hw 100 130 (by kernel_rfl))) rfl⟩,
                    ⟨.inl rfl, fun a W hb hkp hw => goes_val (run_pick (hw 78 108 (by kernel_rfl)) (show _ = _ from hw 101 131 (by kernel_rfl))) rfl⟩, trivial⟩
                case he =>
                  intro u v9 hH hB
                  have e132 : u 132 = .bool false := hH 102 132 (by decide) (by kernel_rfl)
                  have G9 := hid (G0.out.trans (hB.mono (LB.out _ G0.out)))
                  exact h2 _ _ (Met.intro (h1 _ _ ⟨u 30, u 31, u 32, u 33, u 34, u 35, u 36, u 37, u 38, u 39, u 40, u 41, u 42, u 43, u 44, u 45, u 46, u 47, u 48, u 49, u 50, u 51, u 52, u 53, u 54, u 55, u 56, u 57, u 58, u 59, u 60, u 61, u 62, u 63, u 64, u 65, u 66, u 67, u 68, u 69, u 70, u 71, u 72, u 73, u 74, u 75, u 76, u 77, u 78, u 79, u 80, u 81, u 82, u 83, u 84, u 85, u 86, u 87, u 88, u 89, u 90, u 91, u 92, u 93, u 94, u 95, u 96, u 97, u 98, u 99, u 100, u 101, u 102, u 103, u 104, u 105, u 106, u 107, u 108, u 109, u 110, u 111, u 112, u 113, u 114, u 115, u 116, u 117, u 118, u 119, u 120, u 121, u 122, u 123, u 124, u 125, u 126, u 127, u 128, u 129, u 130, u 131, u 132, ⟨e132, G9⟩, by kernel_rfl⟩))
              case rest =>
                obtain ⟨rfl, G9⟩ := hcut
                clear G0 FW HLG HXY
                go_wp2_with fail
                go_roundw
                case rel => exact ⟨j + 1, by omega, by go_num, G9⟩
                case measure => simp [RowKit.intOf]; omega
            · have hj0 : ¬ (j : Int) < 3 := by omega
              go_wp2_with fail
              go_roundw
              case rel => exact ⟨k + 1, by omega, by go_num, G0⟩
              case measure => simp [RowKit.intOf]; omega
        · have hk0 : ¬ (k : Int) < 14 := by omega
          obtain ⟨w5, hw5⟩ : ∃ v, v = wr := ⟨_, rfl⟩
          rw [← hw5] at GK ⊢
          clear hw5
          have FW : Hid (∀ W, Below w5.heap.size w5 W → W.cell? ⟨gn, i, none⟩ = some (.int .i64 x)) := hid (fun W hb => HX.out.2 W (GK.out.trans (hb.mono (LB.out _ GK.out))))
          go_wp2_with fail
          go_cut [161] from 133 to 161 (fun s W => s = .bool false ∧ Hid (Below s3 w3 W))
          case first =>
            rename_i J9 K9 h1 h2
            refine wp_region_all (w0 := w5) 29 (H14 gn i x) [133, 134, 135, 136, 137, 138, 139, 140, 141, 142, 143, 144, 145, 146, 147, 148, 149, 150, 151, 152, 153, 154, 155, 156, 157, 158, 159, 160, 161] (by kernel_rfl) (by kernel_rfl) rfl (by kernel_rfl) (by kernel_rfl) ?arms ?he
            case arms =>
              obtain ⟨i0, hi0, hz0, hz1, hz2⟩ := info_parts info_intV
              exact ⟨
                ⟨.inl rfl, fun a W hb hkp hw => goes_move (hkp 1 (by decide)) rfl⟩,
                ⟨.inl rfl, fun a W hb hkp hw => goes_move (hkp 3 (by decide)) rfl⟩,
                ⟨.inl rfl, fun a W hb hkp hw => goes_index (v1 := .slice (some ⟨gn, 0, none⟩) 14 14) (v2 := .int .i64 (i : Int)) (hw 0 133 (by kernel_rfl)) (hw 1 134 (by kernel_rfl)) (show (Instr.indexAt _ _ _).run _ W = .ok (.pointer (some ⟨gn, i, none⟩)) W by clear hkp hw hb; go_simp) rfl⟩,
                ⟨.inl rfl, fun a W hb hkp hw => goes_load (v1 := .pointer (some ⟨gn, i, none⟩)) (hw 2 135 (by kernel_rfl)) (show (Instr.loadAt _ _).run _ W = .ok (.int .i64 x) W by (have hc := FW.out W hb; clear hkp hw hb; go_simp)) rfl⟩,
                ⟨.inl rfl, fun a W hb hkp hw => goes_move (hkp 1 (by decide)) rfl⟩,
                ⟨.inl rfl, fun a W hb hkp hw => goes_move (hkp 3 (by decide)) rfl⟩,
                ⟨.inl rfl, fun a W hb hkp hw => goes_index (v1 := .slice (some ⟨gn, 0, none⟩) 14 14) (v2 := .int .i64 (i : Int)) (hw 4 137 (by kernel_rfl)) (hw 5 138 (by kernel_rfl)) (show (Instr.indexAt _ _ _).run _ W = .ok (.pointer (some ⟨gn, i, none⟩)) W by clear hkp hw hb; go_simp) rfl⟩,
                ⟨.inl rfl, fun a W hb hkp hw => goes_load (v1 := .pointer (some ⟨gn, i, none⟩)) (hw 6 139 (by kernel_rfl)) (show (Instr.loadAt _ _).run _ W = .ok (.int .i64 x) W by (have hc := FW.out W hb; clear hkp hw hb; go_simp)) rfl⟩,
                ⟨.inl rfl, fun a W hb hkp hw => goes_move (hkp 1 (by decide)) rfl⟩,
                ⟨.inl rfl, fun a W hb hkp hw => goes_move (hkp 3 (by decide)) rfl⟩,
                ⟨.inl rfl, fun a W hb hkp hw => goes_index (v1 := .slice (some ⟨gn, 0, none⟩) 14 14) (v2 := .int .i64 (i : Int)) (hw 8 141 (by kernel_rfl)) (hw 9 142 (by kernel_rfl)) (show (Instr.indexAt _ _ _).run _ W = .ok (.pointer (some ⟨gn, i, none⟩)) W by clear hkp hw hb; go_simp) rfl⟩,
                ⟨.inl rfl, fun a W hb hkp hw => goes_load (v1 := .pointer (some ⟨gn, i, none⟩)) (hw 10 143 (by kernel_rfl)) (show (Instr.loadAt _ _).run _ W = .ok (.int .i64 x) W by (have hc := FW.out W hb; clear hkp hw hb; go_simp)) rfl⟩,
                ⟨.inl rfl, fun a W hb hkp hw => goes_callN #[] (by simp) (by go_simp) ((seven_any W).mono (by rintro e w9 ⟨A, rfl, hl, hb2⟩; exact ⟨_, rfl, ⟨A, rfl, hl⟩, hb2⟩))⟩,
                ⟨.inl rfl, fun a W hb hkp hw => goes_slice #[.int .i64 1, .int .i64 2, .int .i64 3] 1 hz1 Try.underlying22 hi0 hz0 (by decide) (by decide) [(0, .int .i64 1), (1, .int .i64 2), (2, .int .i64 3)] (by simp [ev_const0]) (by kernel_rfl) ⟨W.heap.size, Nat.zero_le _, rfl, heap_alloc_new _ _⟩⟩,
                ⟨.inl rfl, fun a W hb hkp hw => goes_slice #[.int .i64 3, .int .i64 5] 1 hz1 Try.underlying22 hi0 hz0 (by decide) (by decide) [(0, .int .i64 3), (1, .int .i64 5)] (by simp [ev_const0]) (by kernel_rfl) ⟨W.heap.size, Nat.zero_le _, rfl, heap_alloc_new _ _⟩⟩,
                ⟨.inl rfl, fun a W hb hkp hw => goes_slice #[.int .i64 7] 1 hz1 Try.underlying22 hi0 hz0 (by decide) (by decide) [(0, .int .i64 7)] (by simp [ev_const0]) (by kernel_rfl) ⟨W.heap.size, Nat.zero_le _, rfl, heap_alloc_new _ _⟩⟩,
                ⟨.inl rfl, fun a W hb hkp hw => by (obtain ⟨b1, _, e1, r1⟩ := hw 13 146 (by kernel_rfl); obtain ⟨b2, _, e2, r2⟩ := hw 14 147 (by kernel_rfl); obtain ⟨b3, _, e3, r3⟩ := hw 15 148 (by kernel_rfl); exact goes_build #[.slice (some ⟨b1, 0, none⟩) 3 3, .slice (some ⟨b2, 0, none⟩) 2 2, .slice (some ⟨b3, 0, none⟩) 1 1] [(0, .slice (some ⟨b1, 0, none⟩) 3 3), (1, .slice (some ⟨b2, 0, none⟩) 2 2), (2, .slice (some ⟨b3, 0, none⟩) 1 1)] (by simp [e1, e2, e3]) (by kernel_rfl) ⟨b1, b2, b3, rfl, r1, r2, r3⟩)⟩,
                ⟨.inl rfl, fun a W hb hkp hw => by (obtain ⟨A, e4, hl⟩ := hw 12 145 (by kernel_rfl); obtain ⟨b1, b2, b3, e5, r1, r2, r3⟩ := hw 16 149 (by kernel_rfl); have q0 : a.eval (.tmp 136) = .int .i64 x := hw 3 136 (by kernel_rfl); have q1 : a.eval (.tmp 140) = .int .i64 x := hw 7 140 (by kernel_rfl); have q2 : a.eval (.tmp 144) = .int .i64 x := hw 11 144 (by kernel_rfl); exact goes_callN #[.int .i64 x, .int .i64 x, .int .i64 x, .agg #[.int .i64 5, .int .i64 2, .slice A 2 2], exV b1 b2 b3] (by simp [q0, q1, q2, e4, e5]) (by go_simp) ((asksK x x x A b1 b2 b3 W hl r1 r2 r3).mono fun e w9 h => ⟨_, h.1, rfl, h.2⟩))⟩,
                ⟨.inl rfl, fun a W hb hkp hw => goes_val (run_notV (hw 17 150 (by kernel_rfl))) rfl⟩,
                ⟨.inl rfl, fun a W hb hkp hw => goes_move rfl (hw 18 151 (by kernel_rfl))⟩,
                ⟨.inr ⟨19, 152, false, rfl, by kernel_rfl, fun _ _ h => h⟩, fun a W hb hkp hw => goes_move (hkp 1 (by decide)) rfl⟩,
                ⟨.inr ⟨19, 152, false, rfl, by kernel_rfl, fun _ _ h => h⟩, fun a W hb hkp hw => goes_move (hkp 3 (by decide)) rfl⟩,
                ⟨.inr ⟨19, 152, false, rfl, by kernel_rfl, fun _ _ h => h⟩, fun a W hb hkp hw => goes_index (v1 := .slice (some ⟨gn, 0, none⟩) 14 14) (v2 := .int .i64 (i : Int)) (hw 20 153 (by kernel_rfl)) (hw 21 154 (by kernel_rfl)) (show (Instr.indexAt _ _ _).run _ W = .ok (.pointer (some ⟨gn, i, none⟩)) W by clear hkp hw hb; go_simp) rfl⟩,
                ⟨.inr ⟨19, 152, false, rfl, by kernel_rfl, fun _ _ h => h⟩, fun a W hb hkp hw => goes_load (v1 := .pointer (some ⟨gn, i, none⟩)) (hw 22 155 (by kernel_rfl)) (show (Instr.loadAt _ _).run _ W = .ok (.int .i64 x) W by (have hc := FW.out W hb; clear hkp hw hb; go_simp)) rfl⟩,
                ⟨.inr ⟨19, 152, false, rfl, by kernel_rfl, fun _ _ h => h⟩, fun a W hb hkp hw => goes_build #[.int .i64 0, .int .i64 0, .slice none 0 0] [] (by simp) (by kernel_rfl) rfl⟩,
                ⟨.inr ⟨19, 152, false, rfl, by kernel_rfl, fun _ _ h => h⟩, fun a W hb hkp hw => goes_build #[.slice none 0 0, .slice none 0 0, .slice none 0 0] [] (by simp) (by kernel_rfl) rfl⟩,
                ⟨.inr ⟨19, 152, false, rfl, by kernel_rfl, fun _ _ h => h⟩, fun a W hb hkp hw => by (have q0 : a.eval (.tmp 156) = .int .i64 x := hw 23 156 (by kernel_rfl); have q3 : a.eval (.tmp 157) = .agg #[.int .i64 0, .int .i64 0, .slice none 0 0] := hw 24 157 (by kernel_rfl); have q4 : a.eval (.tmp 158) = .agg #[.slice none 0 0, .slice none 0 0, .slice none 0 0] := hw 25 158 (by kernel_rfl); exact goes_callN #[.int .i64 x, .int .i64 0, .int .i64 0, .agg #[.int .i64 0, .int .i64 0, .slice none 0 0], .agg #[.slice none 0 0, .slice none 0 0, .slice none 0 0]] (by simp [ev_const0, q0, q3, q4]) (by go_simp) ((asks0K x 0 0 W).mono fun e w9 h => ⟨_, h.1, rfl, h.2⟩))⟩,
                ⟨.inr ⟨19, 152, false, rfl, by kernel_rfl, fun _ _ h => h⟩, fun a W hb hkp hw => goes_val (run_notV (hw 26 159 (by kernel_rfl))) rfl⟩,
                ⟨.inl rfl, fun a W hb hkp hw => goes_val (run_pick (hw 19 152 (by kernel_rfl)) (show _ = _ from hw 27 160 (by kernel_rfl))) rfl⟩, trivial⟩
            case he =>
              intro u w9 hH hB
              have e161 : u 161 = .bool false := hH 28 161 (by decide) (by kernel_rfl)
              have G9 := hid (GK.out.trans (hB.mono (LB.out _ GK.out)))
              exact h2 _ _ (Met.intro (h1 _ _ ⟨u 133, u 134, u 135, u 136, u 137, u 138, u 139, u 140, u 141, u 142, u 143, u 144, u 145, u 146, u 147, u 148, u 149, u 150, u 151, u 152, u 153, u 154, u 155, u 156, u 157, u 158, u 159, u 160, u 161, ⟨e161, G9⟩, by kernel_rfl⟩))
          case rest =>
            obtain ⟨rfl, G9⟩ := hcut
            clear GK FW
            go_wp2_with fail
            go_roundw
            case rel => exact ⟨i + 1, by omega, by go_num, G9⟩
            case measure => simp [RowKit.intOf]; omega
    · have hi0 : ¬ (i : Int) < 14 := by omega
      have B5 : Hid (Below w.heap.size w wr) := hid (B3.out.trans (GI.out.mono (by rw [HS3.out]; exact B3.out.size)))
      obtain ⟨w4, hw4⟩ : ∃ v, v = wr := ⟨_, rfl⟩
      rw [← hw4] at B5 ⊢
      clear hw4 GI hi hil HJ HN LB HS3
      go_wp2_with fail
      refine (asked7_any 2 5 7 3 w4).mono ?_
      rintro e w5 ⟨rfl, hb5⟩
      have B6 := hid (B5.out.trans (hb5.mono B5.out.size))
      obtain ⟨bm, hbm⟩ : ∃ b, b = w5.heap.size := ⟨_, rfl⟩
      have hst := Im.stNew w5 31 17 info_msgV #[.int .i64 0, .int .i64 0, .int .i64 0, .int .i64 0, .int .i64 0, .int .i64 0, .int .i64 0, .int .i64 0, .int .i64 0, .int .i64 0, .int .i64 0, .int .i64 0, .int .i64 0, .int .i64 0, .bool false, .slice none 0 0, .slice none 0 0] #[.int .i64 1, .int .i64 2, .int .i64 1, .int .i64 0, .int .i64 5, .int .i64 7, .int .i64 3, .int .i64 0, .int .i64 0, .int .i64 0, .int .i64 0, .int .i64 0, .int .i64 0, .int .i64 0, .bool false, .slice none 0 0, .slice none 0 0] rfl rfl (by simp [Value.oneCell'])
      obtain ⟨w6, hw6⟩ : ∃ w6, w6 = w5.alloc (.cells #[.int .i64 1, .int .i64 2, .int .i64 1, .int .i64 0, .int .i64 5, .int .i64 7, .int .i64 3, .int .i64 0, .int .i64 0, .int .i64 0, .int .i64 0, .int .i64 0, .int .i64 0, .int .i64 0, .bool false, .slice none 0 0, .slice none 0 0] 31) := ⟨_, rfl⟩
      rw [← hw6] at hst
      have r6 : Rw w6 bm #[.int .i64 1, .int .i64 2, .int .i64 1, .int .i64 0, .int .i64 5, .int .i64 7, .int .i64 3, .int .i64 0, .int .i64 0, .int .i64 0, .int .i64 0, .int .i64 0, .int .i64 0, .int .i64 0, .bool false, .slice none 0 0, .slice none 0 0] 31 := by rw [hw6, hbm]; exact heap_alloc_new w5 _
      have B7 : Hid (Below w.heap.size w w6) := hid (by rw [hw6]; exact B6.out.alloc B6.out.size _)
      have LBM : Hid (w.heap.size ≤ bm) := hid (by rw [hbm]; exact B6.out.size)
      have R6 := hid r6
      have HBM := hid hbm
      clear hb5 hw6 hbm r6 B5
      go_upto_region 17 with fail
      rw [← HBM.out]
      clear hst HBM
      have f0 := row_cell R6.out 0
      have f1 := row_free R6.out 0
      obtain ⟨w7, hw7⟩ : ∃ v, v = w6.setCell ⟨bm, 0, none⟩ (.int .i64 2) := ⟨_, rfl⟩
      have B8 : Hid (Below w.heap.size w w7) := hid (by rw [hw7]; exact B7.out.setCell LBM.out _)
      have R7 : Hid (Rw w7 bm #[.int .i64 2, .int .i64 2, .int .i64 1, .int .i64 0, .int .i64 5, .int .i64 7, .int .i64 3, .int .i64 0, .int .i64 0, .int .i64 0, .int .i64 0, .int .i64 0, .int .i64 0, .int .i64 0, .bool false, .slice none 0 0, .slice none 0 0] 31) := hid (by rw [hw7]; exact R6.out.put 0 _)
      have HW7 := hid hw7
      clear hw7 B6 B7 LBM R6
      go_upto_region 18 with fail
      rw [← HW7.out]
      clear HW7 f0 f1
      have FW : Hid (∀ W, Below w7.heap.size w7 W → (ldX 31 (.pointer (some ⟨bm, 0, none⟩))).run Try.prog W = .ok (.agg #[.int .i64 2, .int .i64 2, .int .i64 1, .int .i64 0, .int .i64 5, .int .i64 7, .int .i64 3, .int .i64 0, .int .i64 0, .int .i64 0, .int .i64 0, .int .i64 0, .int .i64 0, .int .i64 0, .bool false, .slice none 0 0, .slice none 0 0]) W) := hid (fun W hb => (R7.out.keep hb).ldM rfl)
      go_cut [0] from 164 to 196 (fun s W => s = .bool true ∧ Hid (Below w.heap.size w W))
      case first =>
        rename_i J9 K9 h1 h2
        refine wp_region_all (w0 := w7) 34 H18' [164, 165, 166, 167, 168, 169, 170, 171, 172, 173, 174, 175, 176, 177, 178, 179, 180, 181, 182, 183, 184, 185, 186, 187, 188, 189, 190, 191, 192, 193, 194, 195, 196, 0] (by kernel_rfl) (by kernel_rfl) rfl (by kernel_rfl) (by kernel_rfl) ?arms ?he
        case arms =>
          exact ⟨
            ⟨.inl rfl, fun a W hb hkp hw => goes_callN #[] (by simp) (by go_simp) ((seven_any W).mono (by rintro e w9 ⟨A, rfl, hl, hb2⟩; exact ⟨_, rfl, ⟨A, rfl, hl⟩, hb2⟩))⟩,
            ⟨.inl rfl, fun a W hb hkp hw => goes_load (v1 := .pointer (some ⟨bm, 0, none⟩)) (hkp 6 (by decide)) (show (Instr.loadAt _ _).run _ W = .ok (.agg #[.int .i64 2, .int .i64 2, .int .i64 1, .int .i64 0, .int .i64 5, .int .i64 7, .int .i64 3, .int .i64 0, .int .i64 0, .int .i64 0, .int .i64 0, .int .i64 0, .int .i64 0, .int .i64 0, .bool false, .slice none 0 0, .slice none 0 0]) W by exact FW.out W hb) rfl⟩,
            ⟨.inl rfl, fun a W hb hkp hw => by (obtain ⟨A, e4, hl⟩ := hw 0 164 (by kernel_rfl); have q0 : a.eval (.tmp 165) = .agg #[.int .i64 2, .int .i64 2, .int .i64 1, .int .i64 0, .int .i64 5, .int .i64 7, .int .i64 3, .int .i64 0, .int .i64 0, .int .i64 0, .int .i64 0, .int .i64 0, .int .i64 0, .int .i64 0, .bool false, .slice none 0 0, .slice none 0 0] := hw 1 165 (by kernel_rfl); exact goes_callN #[.int .i64 5, .int .i64 0, .agg #[.int .i64 5, .int .i64 2, .slice A 2 2], .agg #[.int .i64 2, .int .i64 2, .int .i64 1, .int .i64 0, .int .i64 5, .int .i64 7, .int .i64 3, .int .i64 0, .int .i64 0, .int .i64 0, .int .i64 0, .int .i64 0, .int .i64 0, .int .i64 0, .bool false, .slice none 0 0, .slice none 0 0]] (by simp [ev_const0, e4, q0]) (by go_simp) ((grants2K A W hl).mono fun e w9 h => ⟨_, h.1, rfl, h.2⟩))⟩,
            ⟨.inl rfl, fun a W hb hkp hw => goes_val (run_notV (hw 2 166 (by kernel_rfl))) rfl⟩,
            ⟨.inl rfl, fun a W hb hkp hw => goes_move rfl (hw 3 167 (by kernel_rfl))⟩,
            ⟨.inr ⟨4, 168, true, rfl, by kernel_rfl, fun _ _ h => h⟩, fun a W hb hkp hw => goes_callN #[] (by simp) (by go_simp) ((seven_any W).mono (by rintro e w9 ⟨A, rfl, hl, hb2⟩; exact ⟨_, rfl, ⟨A, rfl, hl⟩, hb2⟩))⟩,
            ⟨.inr ⟨4, 168, true, rfl, by kernel_rfl, fun _ _ h => h⟩, fun a W hb hkp hw => by (exact goes_callN #[.int .i64 2, .int .i64 5, .int .i64 7, .int .i64 3] (by simp [ev_const0]) (by go_simp) ((askedK 2 5 7 3 W).mono fun e w9 h => ⟨_, h.1, rfl, h.2⟩))⟩,
            ⟨.inr ⟨4, 168, true, rfl, by kernel_rfl, fun _ _ h => h⟩, fun a W hb hkp hw => by (obtain ⟨A, e4, hl⟩ := hw 5 169 (by kernel_rfl); have q0 : a.eval (.tmp 170) = mv 2 5 7 3 := hw 6 170 (by kernel_rfl); exact goes_callN #[.int .i64 5, .int .i64 2, .agg #[.int .i64 5, .int .i64 2, .slice A 2 2], mv 2 5 7 3] (by simp [ev_const0, e4, q0]) (by go_simp) ((grantsK 2 5 7 3 5 2 true (by decide) A W hl).mono fun e w9 h => ⟨_, h.1, rfl, h.2⟩))⟩,
            ⟨.inl rfl, fun a W hb hkp hw => goes_val (run_pick (hw 4 168 (by kernel_rfl)) (show _ = _ from hw 7 171 (by kernel_rfl))) rfl⟩,
            ⟨.inl rfl, fun a W hb hkp hw => goes_move rfl (hw 8 172 (by kernel_rfl))⟩,
            ⟨.inr ⟨9, 173, true, rfl, by kernel_rfl, fun _ _ h => h⟩, fun a W hb hkp hw => goes_callN #[] (by simp) (by go_simp) ((seven_any W).mono (by rintro e w9 ⟨A, rfl, hl, hb2⟩; exact ⟨_, rfl, ⟨A, rfl, hl⟩, hb2⟩))⟩,
            ⟨.inr ⟨9, 173, true, rfl, by kernel_rfl, fun _ _ h => h⟩, fun a W hb hkp hw => by (exact goes_callN #[.int .i64 2, .int .i64 5, .int .i64 7, .int .i64 3] (by simp [ev_const0]) (by go_simp) ((askedK 2 5 7 3 W).mono fun e w9 h => ⟨_, h.1, rfl, h.2⟩))⟩,
            ⟨.inr ⟨9, 173, true, rfl, by kernel_rfl, fun _ _ h => h⟩, fun a W hb hkp hw => by (obtain ⟨A, e4, hl⟩ := hw 10 174 (by kernel_rfl); have q0 : a.eval (.tmp 175) = mv 2 5 7 3 := hw 11 175 (by kernel_rfl); exact goes_callN #[.int .i64 5, .int .i64 1, .agg #[.int .i64 5, .int .i64 2, .slice A 2 2], mv 2 5 7 3] (by simp [ev_const0, e4, q0]) (by go_simp) ((grantsK 2 5 7 3 5 1 false (by decide) A W hl).mono fun e w9 h => ⟨_, h.1, rfl, h.2⟩))⟩,
            ⟨.inr ⟨9, 173, true, rfl, by kernel_rfl, fun _ _ h => h⟩, fun a W hb hkp hw => goes_val (run_notV (hw 12 176 (by kernel_rfl))) rfl⟩,
            ⟨.inl rfl, fun a W hb hkp hw => goes_val (run_pick (hw 9 173 (by kernel_rfl)) (show _ = _ from hw 13 177 (by kernel_rfl))) rfl⟩,
            ⟨.inl rfl, fun a W hb hkp hw => goes_move rfl (hw 14 178 (by kernel_rfl))⟩,
            ⟨.inr ⟨15, 179, true, rfl, by kernel_rfl, fun _ _ h => h⟩, fun a W hb hkp hw => goes_callN #[] (by simp) (by go_simp) ((seven_any W).mono (by rintro e w9 ⟨A, rfl, hl, hb2⟩; exact ⟨_, rfl, ⟨A, rfl, hl⟩, hb2⟩))⟩,
            ⟨.inr ⟨15, 179, true, rfl, by kernel_rfl, fun _ _ h => h⟩, fun a W hb hkp hw => by (exact goes_callN #[.int .i64 2, .int .i64 5, .int .i64 1, .int .i64 4] (by simp [ev_const0]) (by go_simp) ((askedK 2 5 1 4 W).mono fun e w9 h => ⟨_, h.1, rfl, h.2⟩))⟩,
            ⟨.inr ⟨15, 179, true, rfl, by kernel_rfl, fun _ _ h => h⟩, fun a W hb hkp hw => by (obtain ⟨A, e4, hl⟩ := hw 16 180 (by kernel_rfl); have q0 : a.eval (.tmp 181) = mv 2 5 1 4 := hw 17 181 (by kernel_rfl); exact goes_callN #[.int .i64 5, .int .i64 0, .agg #[.int .i64 5, .int .i64 2, .slice A 2 2], mv 2 5 1 4] (by simp [ev_const0, e4, q0]) (by go_simp) ((grantsK 2 5 1 4 5 0 true (by decide) A W hl).mono fun e w9 h => ⟨_, h.1, rfl, h.2⟩))⟩,
            ⟨.inl rfl, fun a W hb hkp hw => goes_val (run_pick (hw 15 179 (by kernel_rfl)) (show _ = _ from hw 18 182 (by kernel_rfl))) rfl⟩,
            ⟨.inl rfl, fun a W hb hkp hw => goes_move rfl (hw 19 183 (by kernel_rfl))⟩,
            ⟨.inr ⟨20, 184, true, rfl, by kernel_rfl, fun _ _ h => h⟩, fun a W hb hkp hw => goes_callN #[] (by simp) (by go_simp) ((seven_any W).mono (by rintro e w9 ⟨A, rfl, hl, hb2⟩; exact ⟨_, rfl, ⟨A, rfl, hl⟩, hb2⟩))⟩,
            ⟨.inr ⟨20, 184, true, rfl, by kernel_rfl, fun _ _ h => h⟩, fun a W hb hkp hw => by (exact goes_callN #[.int .i64 2, .int .i64 5, .int .i64 9, .int .i64 2] (by simp [ev_const0]) (by go_simp) ((askedK 2 5 9 2 W).mono fun e w9 h => ⟨_, h.1, rfl, h.2⟩))⟩,
            ⟨.inr ⟨20, 184, true, rfl, by kernel_rfl, fun _ _ h => h⟩, fun a W hb hkp hw => by (obtain ⟨A, e4, hl⟩ := hw 21 185 (by kernel_rfl); have q0 : a.eval (.tmp 186) = mv 2 5 9 2 := hw 22 186 (by kernel_rfl); exact goes_callN #[.int .i64 5, .int .i64 0, .agg #[.int .i64 5, .int .i64 2, .slice A 2 2], mv 2 5 9 2] (by simp [ev_const0, e4, q0]) (by go_simp) ((grantsK 2 5 9 2 5 0 false (by decide) A W hl).mono fun e w9 h => ⟨_, h.1, rfl, h.2⟩))⟩,
            ⟨.inr ⟨20, 184, true, rfl, by kernel_rfl, fun _ _ h => h⟩, fun a W hb hkp hw => goes_val (run_notV (hw 23 187 (by kernel_rfl))) rfl⟩,
            ⟨.inl rfl, fun a W hb hkp hw => goes_val (run_pick (hw 20 184 (by kernel_rfl)) (show _ = _ from hw 24 188 (by kernel_rfl))) rfl⟩,
            ⟨.inl rfl, fun a W hb hkp hw => goes_move rfl (hw 25 189 (by kernel_rfl))⟩,
            ⟨.inr ⟨26, 190, true, rfl, by kernel_rfl, fun _ _ h => h⟩, fun a W hb hkp hw => by (exact goes_callN #[.int .i64 0, .int .i64 1] (by simp [ev_const0]) (by go_simp) ((pick01 W).mono fun e w9 h => ⟨_, h.1, rfl, h.2⟩))⟩,
            ⟨.inr ⟨26, 190, true, rfl, by kernel_rfl, fun _ _ h => h⟩, fun a W hb hkp hw => goes_val (run_bin (hw 27 191 (by kernel_rfl)) (show _ = .int .i64 0 from rfl) (by go_simp)) rfl⟩,
            ⟨.inl rfl, fun a W hb hkp hw => goes_val (run_pick (hw 26 190 (by kernel_rfl)) (show _ = _ from hw 28 192 (by kernel_rfl))) rfl⟩,
            ⟨.inl rfl, fun a W hb hkp hw => goes_move rfl (hw 29 193 (by kernel_rfl))⟩,
            ⟨.inr ⟨30, 194, true, rfl, by kernel_rfl, fun _ _ h => h⟩, fun a W hb hkp hw => by (exact goes_callN #[] (by simp []) (by go_simp) ((works_any W).mono fun e w9 h => ⟨_, h.1, rfl, h.2⟩))⟩,
            ⟨.inl rfl, fun a W hb hkp hw => goes_val (run_pick (hw 30 194 (by kernel_rfl)) (show _ = _ from hw 31 195 (by kernel_rfl))) rfl⟩,
            ⟨.inl rfl, fun a W hb hkp hw => goes_assign rfl (hw 32 196 (by kernel_rfl))⟩, trivial⟩
        case he =>
          intro u w9 hH hB
          have e0 : u 0 = .bool true := hH 33 0 (by decide) (by kernel_rfl)
          have B9 := hid (B8.out.trans (hB.mono B8.out.size))
          exact h2 _ _ (Met.intro (h1 _ _ ⟨u 0, u 164, u 165, u 166, u 167, u 168, u 169, u 170, u 171, u 172, u 173, u 174, u 175, u 176, u 177, u 178, u 179, u 180, u 181, u 182, u 183, u 184, u 185, u 186, u 187, u 188, u 189, u 190, u 191, u 192, u 193, u 194, u 195, u 196, ⟨e0, B9⟩, by kernel_rfl⟩))
      case rest =>
        obtain ⟨rfl, B9⟩ := hcut
        clear B8 FW R7
        go_wp2_with fail
        go_ret
        exact ⟨rfl, B9.out⟩
set_option maxRecDepth 100000 in
theorem lifted (os : Os) (started : os.Started) (H : Type) (enc : TypeId × Value → H) :
    ReturnsInHanded {} Try.checked os 3 .any (Rows.voteKnownSpec.pre6 enc Try.prog Try.f3 Rows.voteKnownRow.domain false) (Rows.voteKnownSpec.post enc Try.prog Try.f3 false true false false) := by
  refine returnsInHanded_of_change_sized (C := Try.checked) own started (by kernel_rfl) Try.func3
    (ChangeSpec.witness6 (enc := enc) (C := Try.checked) false ⟨#[], #[], []⟩ 8 (by kernel_rfl) (by kernel_rfl) (by kernel_rfl) (by kernel_rfl)) ?_
  intro W base args ds gs before hval0 hW hcnd hsz0 _
  have hsz : (DataW.weightsEach Try.prog (Try.f3.params.toList ++ Rows.voteKnownSpec.plain.varTypes Try.prog) (ds ++ gs)).all (· ≤ reachBytes) = true := hsz0
  clear hsz0
  have hval : ∀ (j : Nat) t v, Try.f3.params[j]? = some t → args[j]? = some v → Value.okWide Try.prog W .any base t v := hval0
  have hW' := hW
  obtain ⟨p, q, hA0, hV, rfl, hfz, hnd⟩ := hW
  have hA : DataW.TrodAll enc Try.prog W 0 (fun _ => true) true Try.f3.params.toList args.toList ds p := hA0
  rw [Try.params3] at hA hval hsz
  obtain ⟨rfl, rfl, rfl⟩ := trodAll_none hA
  obtain ⟨rfl, rfl⟩ := trodVars_none hV
  clear hA0 hval0
  refine (walk  W ).mono fun e W' ⟨he, bel⟩ => ?_
  subst he
  exact ⟨_, rfl, _, _, _, [], _, [], hW', trodAll_mk1 (shut_bool Try.underlying4 _), trodAll_mk0, rfl, bel.frame _, fun h => by cases h⟩
theorem over : Rows.voteKnownRow.holds Try.pinned (OpenSpec.ofChange Rows.voteKnownSpec) :=
  OpenClaim.holds_of_wide 3 Try.f3 rfl rfl rfl rfl rfl rfl rfl ⟨rfl, rfl, rfl, rfl, rfl⟩ rfl rfl rfl rfl rfl (by kernel_rfl) Try.func3 (by kernel_rfl)
    (of_decide_eq_true (by kernel_rfl)) (by unfold Func.isWrapper; first | (rw [if_pos (by decide +kernel)]; kernel_rfl) | (rw [if_neg (by decide +kernel)]; exact ⟨rfl, rfl⟩))
    (fun os started H enc _ => lifted os started H enc)
theorem proved : Rows.VoteKnownSaid := over
end Go.Proofs.Ytkmbkihfdilmbaa.voteKnown
