/- Behind an arming for n operations just n are done, the next one is not, and the power is off; from then on nothing is done; a call that is refused changes nothing. Conditions: none. -/
import Derived.Test.YtbfbnpbonoapnaaRows
import Derived.Test.YtbfbnpbonoapnaaLawE
import Derived.WalkKit
import Derived.WalkLawsBesides
import Derived.ProofKit
import Derived.OpenShut
import Derived.ShutString
import Derived.ChangeOld
import Derived.Below
import Derived.SizedLaws
namespace Go.Proofs.Ytbfbnpbonoapnaa.sectorFails
open Go.ChangeShapes Go.WideShapes Go.ChangeAt Go.RowKit
open Go.ChangeMaps (open_string shut_string)
set_option linter.unusedVariables false

theorem own : ownKnob Try.prog.godebug = none := by kernel_rfl
theorem laidOut : laidOutB Try.prog = true := by kernel_rfl

/-- what holds at each round -/
def Side (d : Dk) (n : Nat) (w0 w : World) : Prop := ∃ s, DS w0 w d s ∧ Sx.Inv s n ∧ s.n = 16

set_option maxHeartbeats 3200000 in
set_option maxRecDepth 100000 in
theorem core (a0 : Option Addr) (cap0 : Nat) (l0 : List Sx.Op) (a1 : Int) (w : World)
    (k0 : IsOps w w.heap.size a0 l0) (b1 : -9223372036854775808 ≤ a1 ∧ a1 ≤ 9223372036854775807) :
    Calls Try.prog 6 #[.slice a0 l0.length cap0, .int .i64 a1] w fun e w' => e = .returned (.bool true) ∧ Below w.heap.size w w' := by
  go_enter Try.func6, Try.ntmps6
  go_wp2_with fail
  refine (works_any w).mono ?_
  rintro e w1 ⟨rfl, hb1⟩
  have HL := hid (long_any w.heap.size a0 cap0 l0 w1 (k0.below hb1))
  have HB1 := hid hb1
  clear hb1
  go_wp2_with fail
  refine HL.out.mono ?_
  rintro e w2 ⟨rfl, n2, hw2⟩
  have hb2 : Below w.heap.size w w2 := by rw [hw2]; exact below_drewN HB1.out n2
  have HB2 := hid hb2
  clear hb2 hw2 HL HB1
  cases hlg : Sx.long l0
  · obtain ⟨hlen, _⟩ := Sx.long_iff.1 hlg
    have HLG := hid hlen
    have HN := hid (new_ds 16 (by omega) w w2 HB2.out)
    clear hlg hlen
    go_wp2_with fail
    refine HN.out.mono ?_
    rintro e w3 ⟨d, rfl, hD⟩
    have HD := hid hD
    clear hD HN HB2
    go_wp2_with fail
    refine (pick_lt a1 100 (by omega) (by omega) w3).mono ?_
    rintro e w4 ⟨⟨p, rfl, hp⟩, rfl⟩
    have HA := hid (arm_dsT w d _ (p : Int) ⟨by omega, by omega⟩ w3 HD.out)
    go_wp2_with fail
    refine HA.out.mono ?_
    rintro e w5 ⟨rfl, hD5, _⟩
    have HS : Hid (Side d p w w5) := hid ⟨_, hD5, Sx.inv_new 16 p, rfl⟩
    have hlen := HLG.out
    have hp' : p ≤ 100 := by omega
    clear hD5 HA HD hp HLG b1
    go_wp2_with fail
    go_loopw [7, 8] (fun lv iv wr => ∃ k n : Nat, k ≤ l0.length ∧ n ≤ 100 ∧ iv = .int .i64 k ∧ lv = .int .i64 n ∧ Hid (Side d n w wr)) (fun _ i _ => l0.length - (RowKit.intOf i).toNat)
    case atStart => exact ⟨0, p, by omega, hp', rfl, rfl, HS⟩
    case round =>
      clear HS
      obtain ⟨k, n, hk, hn, rfl, rfl, hS⟩ := hrel
      by_cases hlt : k < l0.length
      · obtain ⟨s, hD, hI, hsn⟩ := hS.out
        obtain ⟨b, off, rfl, _, hc⟩ := (k0.below hD.bel).cells k hlt
        obtain ⟨ap, cp, al, cl, c0, c1, c2, c3, c4, hp, hl, _, _, hcp, _, _, hi, _⟩ := hc k hlt
        have hk0' : (k : Int) < (l0.length : Int) := by omega
        by_cases hkd : l0[k].kind = 0 ∨ l0[k].kind = 1
        · have HR := hid (Sx.inv_run hI l0[k] hkd)
          have HD := hid (And.intro hD hsn)
          have HSh := hid (shown_ds w d s wr hD)
          have HOp := hid (And.intro hp (And.intro hl (And.intro hcp hi)))
          have hB : Hid (Below w.heap.size w wr) := hid hD.bel
          clear hc hp hl hi k0 hD hI hsn hS hcp
          rcases hkd with hkd | hkd
          · have hb1 : (l0[k].kind != 0) = false := by simp [hkd]
            clear hkd
            go_wp2_with fail
            refine HSh.out.mono ?_
            rintro e w6 ⟨A6, c6, rfl, hr6, hD6, hb6⟩
            have HDy := hid (dirty_ds w d s w6 hD6)
            have H6 := hid (And.intro hr6 (And.intro hD6 hb6))
            clear hr6 hD6 hb6 HSh
            go_wp2_with fail
            refine HDy.out.mono ?_
            rintro e w7 ⟨A7, c7, rfl, hI7, hD7, hb7⟩
            have hlt7 : ∀ k, d.has k → k < w6.heap.size := H6.out.2.1.at_.lt
            have hge7 : ∀ a, A7 = some a → w6.heap.size ≤ a.block := fun a ha => (hI7.blkLt a.block (by rw [ha]; rfl)).1
            have HI7 := hid (fun w' (ht : Turned d.has w7 w') => isInts_turned (B := w6.heap.size) hI7.reads hlt7 hge7 ht)
            have hw7 : Below wr.heap.size wr w7 := H6.out.2.2.trans (hb7.mono H6.out.2.2.size)
            have H7 := hid (And.intro hD7 (H6.out.1.below hb7))
            have hop7 := (IsBytes.below HOp.out.1 (hw7.mono hB.out.size))
            have hol7 := (IsInts.below HOp.out.2.1 (hw7.mono hB.out.size))
            have d0 := (hw7.cell (World.block_lt_of_cell? _ _ c0)).trans c0
            have d1 := (hw7.cell (World.block_lt_of_cell? _ _ c1)).trans c1
            have d2 := (hw7.cell (World.block_lt_of_cell? _ _ c2)).trans c2
            have d3 := (hw7.cell (World.block_lt_of_cell? _ _ c3)).trans c3
            have d4 := (hw7.cell (World.block_lt_of_cell? _ _ c4)).trans c4
            have HC := hid (run_ds w d s l0[k] ap al cp cl w7 hD7 hop7 hol7 HOp.out.2.2.1 HOp.out.2.2.2)
            have hlw := HD.out.1.at_.lt
            have HLW := hid hlw
            clear hI7 hD7 hb7 hlt7 hge7 hw7 H6 HDy c0 c1 c2 c3 c4 hop7 hol7 hlw
            go_wp2_with fail
            refine HC.out.mono ?_
            rintro e w8 ⟨rfl, hD8, ht8⟩
            have hrow8 := H7.out.2.onD HLW.out ht8
            have hI8 := HI7.out w8 ht8
            have hsn : (Sx.runS s l0[k]).n = 16 := by rw [Sx.runS_n]; exact HD.out.2
            have H8 := hid (And.intro hD8 (And.intro hrow8 (And.intro hI8 hsn)))
            clear hD8 hrow8 hI8 ht8 HC HI7 d0 d1 d2 d3 d4 hsn
            rcases HR.out with ⟨e1, e2, m, hm, hI2⟩ | ⟨e1, e2, hn0, hI2, hsh, hdy⟩ | ⟨e1, e10, e2, hI2, hsh, hdy⟩
            · rw [e1]
              subst hm
              have hDw := down_ds w d _ w8 H8.out.1
              rw [e2] at hDw
              have HDw := hid hDw
              have HI2 := hid hI2
              clear e1 e2 hI2 hDw
              go_wp2_with fail
              refine HDw.out.mono ?_
              rintro e w9 ⟨rfl, rfl⟩
              go_wp2_with fail
              first
              | (refine ⟨⟨k + 1, m, by omega, by omega, by go_num, by go_num, hid ⟨_, H8.out.1, HI2.out, H8.out.2.2.2⟩⟩, by simp [RowKit.intOf]; omega⟩)
              | (go_roundw
                 case rel => exact ⟨k + 1, m, by omega, by omega, by go_num, by go_num, hid ⟨_, H8.out.1, HI2.out, H8.out.2.2.2⟩⟩
                 case measure => simp [RowKit.intOf]; omega)
            · rw [e1]
              subst hn0
              have hDw := down_ds w d _ w8 H8.out.1
              rw [e2] at hDw
              have HDw := hid hDw
              have HI2 := hid (And.intro hI2 (And.intro hsh hdy))
              clear e1 e2 hI2 hDw hsh hdy
              go_wp2_with fail
              refine HDw.out.mono ?_
              rintro e w9 ⟨rfl, rfl⟩
              go_wp2_with fail
              refine (shown_ds w d _ _ H8.out.1).mono ?_
              rintro e w9 ⟨A9, c9, rfl, hr9, hD9, hb9⟩
              have H9 := hid (And.intro (H8.out.2.1.below hb9) (And.intro hr9 (And.intro hD9 (H8.out.2.2.1.on hb9))))
              clear hr9 hD9 hb9
              go_wp2_with fail
              refine (same_shown H9.out.1 H9.out.2.1 rfl rfl HI2.out.2.1).mono ?_
              rintro e w10 ⟨rfl, n10, hw10⟩
              have hb10 : Below w9.heap.size w9 w10 := by rw [hw10]; exact below_drewN (Below.refl _ _) n10
              have H10 := hid (And.intro (H9.out.2.2.1.below hb10) (H9.out.2.2.2.on hb10))
              have HDy := hid (dirty_ds w d _ w10 H10.out.1)
              clear hb10 hw10 H9
              go_wp2_with fail
              refine HDy.out.mono ?_
              rintro e w11 ⟨A11, c11, rfl, hI11, hD11, hb11⟩
              have H11 := hid (And.intro hD11 (And.intro hI11.reads (H10.out.2.on hb11)))
              have hln : (Sx.dirty s).length ≤ 100000 := by
                have h1 : (Sx.dirty s).length ≤ s.n := Sx.dirtyTo_length s.cache s.n
                have h2 := HD.out.2
                omega
              have HS := hid (sameI_T (c := c7) (c' := c11) (n := (Sx.dirty s).length) (m := (Sx.dirty (Sx.runS s l0[k])).length) (by simp) (by simp) hln (by rw [HI2.out.2.2]) H11.out.2.2 H11.out.2.1)
              clear hI11 hD11 hb11 H10 HDy hln
              go_wp2_with fail
              refine HS.out.mono ?_
              rintro e w12 ⟨rfl, n12, hw12⟩
              have hD12 : DS w w12 d (Sx.runS s l0[k]) := by rw [hw12]; exact H11.out.1.drewN n12
              have H12 := hid hD12
              clear hw12 hD12 H11
              go_wp2_with fail
              first
              | (refine ⟨⟨k + 1, 0, by omega, by omega, by go_num, rfl, hid ⟨_, H12.out, HI2.out.1, H8.out.2.2.2⟩⟩, by simp [RowKit.intOf]; omega⟩)
              | (go_roundw
                 case rel => exact ⟨k + 1, 0, by omega, by omega, by go_num, rfl, hid ⟨_, H12.out, HI2.out.1, H8.out.2.2.2⟩⟩
                 case measure => simp [RowKit.intOf]; omega)
            · obtain ⟨v, hv⟩ : ∃ v, v = Sx.runE s l0[k] := ⟨_, rfl⟩
              rw [← hv] at e1 e10 ⊢
              have f1 : (v == 10) = false := by simp [e10]
              have f2 : (v == 0) = false := by simp [e1]
              have f3 : (v != 0) = true := by simp [e1]
              have hDw := down_ds w d _ w8 H8.out.1
              rw [e2] at hDw
              have HDw := hid hDw
              have HI2 := hid (And.intro hI2 (And.intro hsh hdy))
              clear e2 hI2 hDw hsh hdy hv HR
              go_wp2_with fail
              refine HDw.out.mono ?_
              rintro e w9 ⟨rfl, rfl⟩
              go_wp2_with fail
              refine (shown_ds w d _ _ H8.out.1).mono ?_
              rintro e w9 ⟨A9, c9, rfl, hr9, hD9, hb9⟩
              have H9 := hid (And.intro (H8.out.2.1.below hb9) (And.intro hr9 (And.intro hD9 (H8.out.2.2.1.on hb9))))
              clear hr9 hD9 hb9
              go_wp2_with fail
              refine (same_shown H9.out.1 H9.out.2.1 rfl rfl HI2.out.2.1).mono ?_
              rintro e w10 ⟨rfl, n10, hw10⟩
              have hb10 : Below w9.heap.size w9 w10 := by rw [hw10]; exact below_drewN (Below.refl _ _) n10
              have H10 := hid (And.intro (H9.out.2.2.1.below hb10) (H9.out.2.2.2.on hb10))
              have HDy := hid (dirty_ds w d _ w10 H10.out.1)
              clear hb10 hw10 H9
              go_wp2_with fail
              refine HDy.out.mono ?_
              rintro e w11 ⟨A11, c11, rfl, hI11, hD11, hb11⟩
              have H11 := hid (And.intro hD11 (And.intro hI11.reads (H10.out.2.on hb11)))
              have hln : (Sx.dirty s).length ≤ 100000 := by
                have h1 : (Sx.dirty s).length ≤ s.n := Sx.dirtyTo_length s.cache s.n
                have h2 := HD.out.2
                omega
              have HS := hid (sameI_T (c := c7) (c' := c11) (n := (Sx.dirty s).length) (m := (Sx.dirty (Sx.runS s l0[k])).length) (by simp) (by simp) hln (by rw [HI2.out.2.2]) H11.out.2.2 H11.out.2.1)
              clear hI11 hD11 hb11 H10 HDy hln
              go_wp2_with fail
              refine HS.out.mono ?_
              rintro e w12 ⟨rfl, n12, hw12⟩
              have hD12 : DS w w12 d (Sx.runS s l0[k]) := by rw [hw12]; exact H11.out.1.drewN n12
              have H12 := hid hD12
              clear hw12 hD12 H11
              go_wp2_with fail
              first
              | (refine ⟨⟨k + 1, n, by omega, by omega, by go_num, rfl, hid ⟨_, H12.out, HI2.out.1, H8.out.2.2.2⟩⟩, by simp [RowKit.intOf]; omega⟩)
              | (go_roundw
                 case rel => exact ⟨k + 1, n, by omega, by omega, by go_num, rfl, hid ⟨_, H12.out, HI2.out.1, H8.out.2.2.2⟩⟩
                 case measure => simp [RowKit.intOf]; omega)
          · have hb1 : (l0[k].kind != 0) = true := by simp [hkd]
            have hb2 : (l0[k].kind != 1) = false := by simp [hkd]
            clear hkd
            go_wp2_with fail
            refine HSh.out.mono ?_
            rintro e w6 ⟨A6, c6, rfl, hr6, hD6, hb6⟩
            have HDy := hid (dirty_ds w d s w6 hD6)
            have H6 := hid (And.intro hr6 (And.intro hD6 hb6))
            clear hr6 hD6 hb6 HSh
            go_wp2_with fail
            refine HDy.out.mono ?_
            rintro e w7 ⟨A7, c7, rfl, hI7, hD7, hb7⟩
            have hlt7 : ∀ k, d.has k → k < w6.heap.size := H6.out.2.1.at_.lt
            have hge7 : ∀ a, A7 = some a → w6.heap.size ≤ a.block := fun a ha => (hI7.blkLt a.block (by rw [ha]; rfl)).1
            have HI7 := hid (fun w' (ht : Turned d.has w7 w') => isInts_turned (B := w6.heap.size) hI7.reads hlt7 hge7 ht)
            have hw7 : Below wr.heap.size wr w7 := H6.out.2.2.trans (hb7.mono H6.out.2.2.size)
            have H7 := hid (And.intro hD7 (H6.out.1.below hb7))
            have hop7 := (IsBytes.below HOp.out.1 (hw7.mono hB.out.size))
            have hol7 := (IsInts.below HOp.out.2.1 (hw7.mono hB.out.size))
            have d0 := (hw7.cell (World.block_lt_of_cell? _ _ c0)).trans c0
            have d1 := (hw7.cell (World.block_lt_of_cell? _ _ c1)).trans c1
            have d2 := (hw7.cell (World.block_lt_of_cell? _ _ c2)).trans c2
            have d3 := (hw7.cell (World.block_lt_of_cell? _ _ c3)).trans c3
            have d4 := (hw7.cell (World.block_lt_of_cell? _ _ c4)).trans c4
            have HC := hid (run_ds w d s l0[k] ap al cp cl w7 hD7 hop7 hol7 HOp.out.2.2.1 HOp.out.2.2.2)
            have hlw := HD.out.1.at_.lt
            have HLW := hid hlw
            clear hI7 hD7 hb7 hlt7 hge7 hw7 H6 HDy c0 c1 c2 c3 c4 hop7 hol7 hlw
            go_wp2_with fail
            refine HC.out.mono ?_
            rintro e w8 ⟨rfl, hD8, ht8⟩
            have hrow8 := H7.out.2.onD HLW.out ht8
            have hI8 := HI7.out w8 ht8
            have hsn : (Sx.runS s l0[k]).n = 16 := by rw [Sx.runS_n]; exact HD.out.2
            have H8 := hid (And.intro hD8 (And.intro hrow8 (And.intro hI8 hsn)))
            clear hD8 hrow8 hI8 ht8 HC HI7 d0 d1 d2 d3 d4 hsn
            rcases HR.out with ⟨e1, e2, m, hm, hI2⟩ | ⟨e1, e2, hn0, hI2, hsh, hdy⟩ | ⟨e1, e10, e2, hI2, hsh, hdy⟩
            · rw [e1]
              subst hm
              have hDw := down_ds w d _ w8 H8.out.1
              rw [e2] at hDw
              have HDw := hid hDw
              have HI2 := hid hI2
              clear e1 e2 hI2 hDw
              go_wp2_with fail
              refine HDw.out.mono ?_
              rintro e w9 ⟨rfl, rfl⟩
              go_wp2_with fail
              first
              | (refine ⟨⟨k + 1, m, by omega, by omega, by go_num, by go_num, hid ⟨_, H8.out.1, HI2.out, H8.out.2.2.2⟩⟩, by simp [RowKit.intOf]; omega⟩)
              | (go_roundw
                 case rel => exact ⟨k + 1, m, by omega, by omega, by go_num, by go_num, hid ⟨_, H8.out.1, HI2.out, H8.out.2.2.2⟩⟩
                 case measure => simp [RowKit.intOf]; omega)
            · rw [e1]
              subst hn0
              have hDw := down_ds w d _ w8 H8.out.1
              rw [e2] at hDw
              have HDw := hid hDw
              have HI2 := hid (And.intro hI2 (And.intro hsh hdy))
              clear e1 e2 hI2 hDw hsh hdy
              go_wp2_with fail
              refine HDw.out.mono ?_
              rintro e w9 ⟨rfl, rfl⟩
              go_wp2_with fail
              refine (shown_ds w d _ _ H8.out.1).mono ?_
              rintro e w9 ⟨A9, c9, rfl, hr9, hD9, hb9⟩
              have H9 := hid (And.intro (H8.out.2.1.below hb9) (And.intro hr9 (And.intro hD9 (H8.out.2.2.1.on hb9))))
              clear hr9 hD9 hb9
              go_wp2_with fail
              refine (same_shown H9.out.1 H9.out.2.1 rfl rfl HI2.out.2.1).mono ?_
              rintro e w10 ⟨rfl, n10, hw10⟩
              have hb10 : Below w9.heap.size w9 w10 := by rw [hw10]; exact below_drewN (Below.refl _ _) n10
              have H10 := hid (And.intro (H9.out.2.2.1.below hb10) (H9.out.2.2.2.on hb10))
              have HDy := hid (dirty_ds w d _ w10 H10.out.1)
              clear hb10 hw10 H9
              go_wp2_with fail
              refine HDy.out.mono ?_
              rintro e w11 ⟨A11, c11, rfl, hI11, hD11, hb11⟩
              have H11 := hid (And.intro hD11 (And.intro hI11.reads (H10.out.2.on hb11)))
              have hln : (Sx.dirty s).length ≤ 100000 := by
                have h1 : (Sx.dirty s).length ≤ s.n := Sx.dirtyTo_length s.cache s.n
                have h2 := HD.out.2
                omega
              have HS := hid (sameI_T (c := c7) (c' := c11) (n := (Sx.dirty s).length) (m := (Sx.dirty (Sx.runS s l0[k])).length) (by simp) (by simp) hln (by rw [HI2.out.2.2]) H11.out.2.2 H11.out.2.1)
              clear hI11 hD11 hb11 H10 HDy hln
              go_wp2_with fail
              refine HS.out.mono ?_
              rintro e w12 ⟨rfl, n12, hw12⟩
              have hD12 : DS w w12 d (Sx.runS s l0[k]) := by rw [hw12]; exact H11.out.1.drewN n12
              have H12 := hid hD12
              clear hw12 hD12 H11
              go_wp2_with fail
              first
              | (refine ⟨⟨k + 1, 0, by omega, by omega, by go_num, rfl, hid ⟨_, H12.out, HI2.out.1, H8.out.2.2.2⟩⟩, by simp [RowKit.intOf]; omega⟩)
              | (go_roundw
                 case rel => exact ⟨k + 1, 0, by omega, by omega, by go_num, rfl, hid ⟨_, H12.out, HI2.out.1, H8.out.2.2.2⟩⟩
                 case measure => simp [RowKit.intOf]; omega)
            · obtain ⟨v, hv⟩ : ∃ v, v = Sx.runE s l0[k] := ⟨_, rfl⟩
              rw [← hv] at e1 e10 ⊢
              have f1 : (v == 10) = false := by simp [e10]
              have f2 : (v == 0) = false := by simp [e1]
              have f3 : (v != 0) = true := by simp [e1]
              have hDw := down_ds w d _ w8 H8.out.1
              rw [e2] at hDw
              have HDw := hid hDw
              have HI2 := hid (And.intro hI2 (And.intro hsh hdy))
              clear e2 hI2 hDw hsh hdy hv HR
              go_wp2_with fail
              refine HDw.out.mono ?_
              rintro e w9 ⟨rfl, rfl⟩
              go_wp2_with fail
              refine (shown_ds w d _ _ H8.out.1).mono ?_
              rintro e w9 ⟨A9, c9, rfl, hr9, hD9, hb9⟩
              have H9 := hid (And.intro (H8.out.2.1.below hb9) (And.intro hr9 (And.intro hD9 (H8.out.2.2.1.on hb9))))
              clear hr9 hD9 hb9
              go_wp2_with fail
              refine (same_shown H9.out.1 H9.out.2.1 rfl rfl HI2.out.2.1).mono ?_
              rintro e w10 ⟨rfl, n10, hw10⟩
              have hb10 : Below w9.heap.size w9 w10 := by rw [hw10]; exact below_drewN (Below.refl _ _) n10
              have H10 := hid (And.intro (H9.out.2.2.1.below hb10) (H9.out.2.2.2.on hb10))
              have HDy := hid (dirty_ds w d _ w10 H10.out.1)
              clear hb10 hw10 H9
              go_wp2_with fail
              refine HDy.out.mono ?_
              rintro e w11 ⟨A11, c11, rfl, hI11, hD11, hb11⟩
              have H11 := hid (And.intro hD11 (And.intro hI11.reads (H10.out.2.on hb11)))
              have hln : (Sx.dirty s).length ≤ 100000 := by
                have h1 : (Sx.dirty s).length ≤ s.n := Sx.dirtyTo_length s.cache s.n
                have h2 := HD.out.2
                omega
              have HS := hid (sameI_T (c := c7) (c' := c11) (n := (Sx.dirty s).length) (m := (Sx.dirty (Sx.runS s l0[k])).length) (by simp) (by simp) hln (by rw [HI2.out.2.2]) H11.out.2.2 H11.out.2.1)
              clear hI11 hD11 hb11 H10 HDy hln
              go_wp2_with fail
              refine HS.out.mono ?_
              rintro e w12 ⟨rfl, n12, hw12⟩
              have hD12 : DS w w12 d (Sx.runS s l0[k]) := by rw [hw12]; exact H11.out.1.drewN n12
              have H12 := hid hD12
              clear hw12 hD12 H11
              go_wp2_with fail
              first
              | (refine ⟨⟨k + 1, n, by omega, by omega, by go_num, rfl, hid ⟨_, H12.out, HI2.out.1, H8.out.2.2.2⟩⟩, by simp [RowKit.intOf]; omega⟩)
              | (go_roundw
                 case rel => exact ⟨k + 1, n, by omega, by omega, by go_num, rfl, hid ⟨_, H12.out, HI2.out.1, H8.out.2.2.2⟩⟩
                 case measure => simp [RowKit.intOf]; omega)
        · have h1 : ¬ l0[k].kind = 0 := fun e => hkd (.inl e)
          have h2 : ¬ l0[k].kind = 1 := fun e => hkd (.inr e)
          have hb1 : (l0[k].kind != 0) = true := by simp [h1]
          have hb2 : (l0[k].kind != 1) = true := by simp [h2]
          clear hc hp hl hi k0 hD hI hsn hkd
          go_wp2_with fail
          go_roundw
          case rel => exact ⟨k + 1, n, by omega, hn, by go_num, rfl, hS⟩
          case measure => simp [RowKit.intOf]; omega
      · obtain rfl : k = l0.length := by omega
        clear k0 hlt hk
        go_wp2_with fail
        go_ret
        obtain ⟨s, hD, _⟩ := hS.out
        exact ⟨rfl, hD.bel⟩
  · go_wp2_with fail
    go_ret
    exact ⟨rfl, HB2.out⟩
theorem walk (a0 : Option Addr) (cap0 : Nat) (l0 : List Sx.Op) (a1 : Int) (w : World)
    (k0 : IsOps w w.heap.size a0 l0) (n0 : l0.length ≤ cap0) (r0 : cap0 ≤ maxLen) (z0 : a0 = none → cap0 = 0) (b1 : -9223372036854775808 ≤ a1 ∧ a1 ≤ 9223372036854775807) :
    Calls Try.prog 6 #[.slice a0 l0.length cap0, .int .i64 a1] w fun e w' => e = .returned (.bool true) ∧ Below w.heap.size w w' :=
  core a0 cap0 l0 a1 w k0 b1

set_option maxRecDepth 100000 in
theorem lifted (os : Os) (started : os.Started) (H : Type) (enc : TypeId × Value → H) :
    ReturnsInHanded {} Try.checked os 6 .any (Rows.sectorFailsSpec.pre6 enc Try.prog Try.f6 Rows.sectorFailsRow.domain false) (Rows.sectorFailsSpec.post enc Try.prog Try.f6 false true false false) := by
  refine returnsInHanded_of_change_sized (C := Try.checked) own started (by kernel_rfl) Try.func6
    (ChangeSpec.witness6 (enc := enc) (C := Try.checked) false ⟨#[], #[.slice none 0 0, .int .i64 0], []⟩ 8 (by kernel_rfl) (by kernel_rfl) (by kernel_rfl) (by kernel_rfl)) ?_
  intro W base args ds gs before hval0 hW hcnd hsz0 _
  have hsz : (DataW.weightsEach Try.prog (Try.f6.params.toList ++ Rows.sectorFailsSpec.plain.varTypes Try.prog) (ds ++ gs)).all (· ≤ reachBytes) = true := hsz0
  clear hsz0
  have hval : ∀ (j : Nat) t v, Try.f6.params[j]? = some t → args[j]? = some v → Value.okWide Try.prog W .any base t v := hval0
  have hW' := hW
  obtain ⟨p, q, hA0, hV, rfl, hfz, hnd⟩ := hW
  have hA : DataW.TrodAll enc Try.prog W 0 (fun _ => true) true Try.f6.params.toList args.toList ds p := hA0
  rw [Try.params6] at hA hval hsz
  obtain ⟨v0, vs0, d0, ds0, p0, q0, hargs, rfl, rfl, g0, t0⟩ := trodAll_cons hA
  obtain ⟨v1, vs1, d1, ds1, p1, q1, rfl, rfl, rfl, g1, t1⟩ := trodAll_cons t0
  obtain ⟨rfl, rfl, rfl⟩ := trodAll_nil t1
  obtain rfl : args = #[v0, v1] := by cases args; simp_all
  obtain ⟨rfl, rfl⟩ := trodVars_none hV
  obtain ⟨a0, len0, cap0, rfl⟩ := okWide_slice Try.underlying22 (hval 0 22 v0 rfl rfl)
  have m0 := g0
  have lt0 : ∀ x ∈ p0, x.block < W.heap.size := by obtain ⟨m, hm⟩ := m0; exact DataW.trod_lt m _ _ _ hm
  obtain ⟨l0, k0, rfl, n0, r0, z0⟩ : ∃ l, IsOps W W.heap.size a0 l ∧ len0 = l.length ∧ l.length ≤ cap0 ∧ cap0 ≤ maxLen ∧ (a0 = none → cap0 = 0) := by
    obtain ⟨fuel, hf⟩ := g0
    obtain ⟨a, c, ts, hcs, h1, h2, h3⟩ := ops_of_trod hf
    simp [Value.cells] at hcs
    obtain ⟨rfl, rfl, rfl⟩ := hcs
    exact ⟨ts, h1, rfl, h2.1, h2.2, h3⟩
  obtain ⟨a1, rfl, rfl, rfl, w1⟩ := open_int Try.underlying3 (hval 1 3 v1 rfl rfl) g1
  have b1 := bounds_i64 w1
  clear hA0 hval0
  refine (walk a0 cap0 l0 a1 W k0 n0 r0 z0 b1).mono fun e W' ⟨he, bel⟩ => ?_
  subst he
  exact ⟨_, rfl, _, _, _, [], _, [], hW', trodAll_mk1 (shut_bool Try.underlying4 _), (trodAll_cons_mk (Below.trod laidOut (by kernel_rfl) (of_decide_eq_true (by kernel_rfl)) m0 bel lt0) (trodAll_cons_mk (shut_int Try.underlying3 w1) trodAll_mk0)), rfl, bel.frame _, fun h => by cases h⟩

theorem over : Rows.sectorFailsRow.holds Try.pinned (OpenSpec.ofChange Rows.sectorFailsSpec) :=
  OpenClaim.holds_of_wide 6 Try.f6 rfl rfl rfl rfl rfl rfl rfl ⟨rfl, rfl, rfl, rfl, rfl⟩ rfl rfl rfl rfl rfl (by kernel_rfl) Try.func6 (by kernel_rfl)
    (of_decide_eq_true (by kernel_rfl)) (by unfold Func.isWrapper; first | (rw [if_pos (by decide +kernel)]; kernel_rfl) | (rw [if_neg (by decide +kernel)]; exact ⟨rfl, rfl⟩))
    (fun os started H enc _ => lifted os started H enc)

theorem proved : Rows.SectorFailsSaid := over
end Go.Proofs.Ytbfbnpbonoapnaa.sectorFails
