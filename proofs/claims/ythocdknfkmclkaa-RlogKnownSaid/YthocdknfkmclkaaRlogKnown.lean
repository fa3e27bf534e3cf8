/- The chapter's examples. Conditions: none. -/
import Derived.Test.YthocdknfkmclkaaRows
import Derived.Test.YthocdknfkmclkaaRlKnA
import Derived.Deep.RegionHeld3
import Derived.Deep.CutRange
import Derived.WalkKit
import Derived.WalkLawsBesides
import Derived.ProofKit
import Derived.OpenShut
import Derived.ShutString
import Derived.ChangeOld
import Derived.Below
import Derived.SizedLaws
namespace Go.Proofs.Ythocdknfkmclkaa.rlogKnown
open Go.ChangeShapes Go.WideShapes Go.ChangeAt Go.RowKit
open Go.ChangeMaps (open_string shut_string)
set_option linter.unusedVariables false

theorem own : ownKnob Try.prog.godebug = none := by kernel_rfl
theorem laidOut : laidOutB Try.prog = true := by kernel_rfl

def ats : List Int := [4, 5, 7, 8, 3, -9223372036854775808, 9223372036854775807]
def wts : List Int := [2, 2, 3, -1, -1, -1, -1]
theorem ats_ok : ∀ k, k < 7 → (lg3.has (ats.getD k 0) = true ∧ 0 ≤ wts.getD k 0 ∧ lg3.termV (ats.getD k 0) = wts.getD k 0) ∨ (lg3.has (ats.getD k 0) = false ∧ ¬ 0 ≤ wts.getD k 0 ∧ lg3.termV (ats.getD k 0) = 0) := by decide
theorem ats_cell (w w' : World) (l : List Int) (hl : l.length = 7) (t : TypeId) (b : Nat) (h : w.heap[b]? = some (.cells (ints l).toArray t (0, 0))) (hb : Below w.heap.size w w') (k : Nat) (hk : k < 7) : w'.cell? ⟨b, k, none⟩ = some (.int .i64 (l.getD k 0)) := by
  have hlt := (Array.getElem?_eq_some_iff.1 h).1
  rw [hb.cell hlt, cell_of_row _ b k (ints l).toArray t (0, 0) h, List.getElem?_toArray, ints_get l k (by omega), List.getD_eq_getElem?_getD, List.getElem?_eq_getElem (by omega)]
  rfl
theorem slice61 : ∃ e : Rl.En, lg3.slice 6 1 = [e] ∧ e.t = 3 := ⟨⟨3, 1, [1]⟩, by decide, rfl⟩
theorem leaf_cells {w W w' : World} {b n c : Nat} {u0 u1 : Value} {A : Option Addr} {L : List Rl.En} (h : Leaf w W b u0 u1 A n c L) (hb : Below W.heap.size W w') : w'.cell? ⟨b, 0, none⟩ = some u0 ∧ w'.cell? ⟨b, 1, none⟩ = some u1 ∧ w'.cell? ⟨b, 2, none⟩ = some (.slice A n c) :=
  ⟨(hb.cell (p := ⟨b, 0, none⟩) h.2.2.2).trans h.1.1, (hb.cell (p := ⟨b, 1, none⟩) h.2.2.2).trans h.1.2.1, (hb.cell (p := ⟨b, 2, none⟩) h.2.2.2).trans h.1.2.2⟩
theorem k_same {w w' : World} {b c1 c2 : Nat} {A1 A2 : Option Addr} (h : Leaf w w' b (.int .i64 4) (.int .i64 2) A1 3 c1 (lg3.es.drop (3 - 3))) (w'' : World) (hb : Below w'.heap.size w' w'') (h2 : L3 w'' A2 c2) :
    Calls Try.prog 22 #[.agg #[.int .i64 4, .int .i64 2, .slice A1 3 c1], .agg #[.int .i64 4, .int .i64 2, .slice A2 3 c2]] w'' fun e w3 => e = .returned (.bool true) ∧ Below w''.heap.size w'' w3 := by
  have hE : IsEnts w' w'.heap.size A1 lg3.es := h.2.1
  have h0 := log_same lg3 lg3 A1 A2 c1 c2 (by rw [lg3_len]; omega) w'' ((hE.below hb).more hb.size) h2.es
  rw [lg3_len] at h0
  exact h0.mono fun e w3 ⟨h1, h3⟩ => ⟨by rw [h1]; simp, h3⟩
set_option maxHeartbeats 16000000 in
set_option maxRecDepth 100000 in
theorem walk (w : World) : Calls Try.prog 8 #[] w fun e w' => e = .returned (.bool true) ∧ Below w.heap.size w w' := by
  have HT := hid (terms_lit 2 3 3 (by omega) (by omega) (by omega) w _ (Below.refl _ _))
  have HB1 := hid (show Below w.heap.size w (w.alloc (.cells #[.int .i64 2, .int .i64 3, .int .i64 3] 3)) from (Below.refl _ w).alloc (Nat.le_refl _) _)
  go_enter Try.func8, Try.ntmps8
  go_wp2_with fail
  refine HT.out.mono ?_
  rintro e w2 ⟨A2, c2, rfl, ho2, hb2⟩
  have HO2 := hid ho2
  have HR2 := hid (room3 ho2)
  have HB2 := hid (HB1.out.trans (hb2.mono HB1.out.size))
  clear ho2 hb2 HT HB1
  go_wp2_with fail
  obtain ⟨w3, hw3⟩ : ∃ w3, w3 = w2.alloc (.cells #[.int .i64 4, .int .i64 2, .slice A2 3 c2] 24) := ⟨_, rfl⟩
  rw [← hw3]
  have hb3 : Below w2.heap.size w2 w3 := by rw [hw3]; exact (Below.refl _ w2).alloc (Nat.le_refl _) _
  have HBW := hid (HB2.out.trans (hb3.mono HB2.out.size))
  have HK : Hid (∀ w', Below w3.heap.size w3 w' → w'.cell? ⟨w2.heap.size, 0, none⟩ = some (.int .i64 4) ∧ w'.cell? ⟨w2.heap.size, 1, none⟩ = some (.int .i64 2) ∧ w'.cell? ⟨w2.heap.size, 2, none⟩ = some (.slice A2 3 c2)) := hid (fun w' hb => by
    have h := (box_new w2 w3 (.int .i64 4) (.int .i64 2) (.slice A2 3 c2) 24 (by rw [hw3]; exact Below.refl _ _)).below hb
    exact h)
  have HL : Hid (∀ w', Below w3.heap.size w3 w' → L3 w' A2 c2) := hid (fun w' hb => ⟨((HO2.out.below hb3).below (hb.mono hb3.size)).reads.more (Nat.le_trans hb3.size hb.size), HR2.out, HO2.out.none_⟩)
  have hs23 : w2.heap.size < w3.heap.size := by rw [hw3]; simp
  clear hw3 hb3 HB2
  refine (k_last (HL.out w3 (Below.refl _ _))).mono ?_
  rintro e w4 ⟨rfl, hb4⟩
  have h4 := hid hb4
  have l4 : w2.heap.size < w4.heap.size := Nat.lt_of_lt_of_le hs23 hb4.size
  clear hb4
  go_wp2_with fail
  obtain ⟨w5, hw5⟩ : ∃ w5, w5 = (w4.alloc (.cells #[.int .i64 4, .int .i64 5, .int .i64 7, .int .i64 8, .int .i64 3, .int .i64 (-9223372036854775808), .int .i64 9223372036854775807] 3)).alloc (.cells #[.int .i64 2, .int .i64 2, .int .i64 3, .int .i64 (-1), .int .i64 (-1), .int .i64 (-1), .int .i64 (-1)] 3) := ⟨_, rfl⟩
  have hb5 : Below w4.heap.size w4 w5 := by rw [hw5]; exact ((Below.refl _ w4).alloc (Nat.le_refl _) _).alloc (by simp) _
  have h5 := hid (h4.out.trans (hb5.mono h4.out.size))
  have HV := hid (fun w' (hb : Below w5.heap.size w5 w') k (hk : k < 7) => And.intro (ats_cell w5 w' ats rfl 3 w4.heap.size (by rw [hw5]; exact heapB _ _ _) hb k hk) (ats_cell w5 w' wts rfl 3 (w4.heap.size + 1) (by rw [hw5]; exact heapC _ _ _) hb k hk))
  have HU := hid (fun w' (hb : Below w5.heap.size w5 w') => h5.out.trans (hb.mono h5.out.size))
  have HW5 := hid hw5
  clear hb5 hw5 hs23 l4
  rw [← HW5.out]
  go_loopw [6] (fun v wr => ∃ k : Nat, k ≤ 7 ∧ v = .int .i64 k ∧ Hid (Below w5.heap.size w5 wr)) (fun v _ => 7 - (RowKit.intOf v).toNat)
  case atStart => exact ⟨0, by omega, rfl, hid (Below.refl _ _)⟩
  case round =>
    obtain ⟨k, hk, rfl, hS⟩ := hrel
    by_cases hlt : k < 7
    · have hk0 : (k : Int) < 7 := by omega
      have hok := ats_ok k hlt
      have HV1 := hid (fun w' hb => HV.out w' hb k hlt)
      generalize ats.getD k 0 = x at hok HV1
      generalize wts.getD k 0 = y at hok HV1
      have HT := hid (fun w' (hb : Below w5.heap.size w5 w') => k_term (HL.out w' (HU.out w' hb)) x)
      generalize lg3.termV x = tv at hok HT
      generalize lg3.has x = tb at hok HT
      have HXB : Hid (∀ w', Below w5.heap.size w5 w' → w'.cell? ⟨w2.heap.size, 0, none⟩ = some (.int .i64 4) ∧ w'.cell? ⟨w2.heap.size, 1, none⟩ = some (.int .i64 2) ∧ w'.cell? ⟨w2.heap.size, 2, none⟩ = some (.slice A2 3 c2) ∧ w'.cell? ⟨w4.heap.size, k, none⟩ = some (.int .i64 x)) := hid (fun w' hb => by
        obtain ⟨a, b, c⟩ := HK.out w' (HU.out w' hb)
        exact ⟨a, b, c, (HV1.out w' hb).1⟩)
      obtain ⟨x0, x1, x2, x3⟩ := HXB.out wr hS.out
      have HOK := hid hok
      have hB : Hid (Below w5.heap.size w5 wr.drew) := hid (Below.drew hS.out)
      clear hok
      go_wp2_with fail
      go_region_held3 (fun w' => w'.cell? ⟨w2.heap.size, 0, none⟩ = some (.int .i64 4) ∧ w'.cell? ⟨w2.heap.size, 1, none⟩ = some (.int .i64 2) ∧ w'.cell? ⟨w2.heap.size, 2, none⟩ = some (.slice A2 3 c2) ∧ w'.cell? ⟨w4.heap.size, k, none⟩ = some (.int .i64 x))
        (first | exact HXB.out _ hB.out | fail)
        (first
          | (go_at_call 14; (with_reducible refine (HT.out _ hB.out).mono ?_); rintro e10 w10 ⟨rfl, hBn⟩; have hB := hid (hB.out.trans (hBn.mono hB.out.size)); clear hBn))
      clear x0 x1 x2 x3
      have y0 := (HV1.out w10 hB.out).2
      rcases HOK.out with ⟨rfl, hy, rfl⟩ | ⟨rfl, hy, rfl⟩
      · go_wp2_with fail
        go_roundw
        case rel => exact ⟨k + 1, by omega, by go_num, hB⟩
        case measure => simp [RowKit.intOf]; omega
      · go_wp2_with fail
        go_roundw
        case rel => exact ⟨k + 1, by omega, by go_num, hB⟩
        case measure => simp [RowKit.intOf]; omega
    · obtain rfl : k = 7 := by omega
      go_upto_region 11 with fail

      have HK5 : Hid (∀ w', Below w5.heap.size w5 w' → w'.cell? ⟨w2.heap.size, 0, none⟩ = some (.int .i64 4) ∧ w'.cell? ⟨w2.heap.size, 1, none⟩ = some (.int .i64 2) ∧ w'.cell? ⟨w2.heap.size, 2, none⟩ = some (.slice A2 3 c2)) := hid (fun w' hb => HK.out w' (HU.out w' hb))
      have HL5 := hid (fun w' (hb : Below w5.heap.size w5 w') => HL.out w' (HU.out w' hb))
      obtain ⟨x0, x1, x2⟩ := HK5.out wr hS.out
      have hB : Hid (Below w5.heap.size w5 wr.drew) := hid (Below.drew hS.out)
      have HS1 := hid (fun w' (hb : Below w5.heap.size w5 w') => k_slice (HL5.out w' hb) 6 1 1 (by decide))
      have HS2 := hid (fun w' (hb : Below w5.heap.size w5 w') => k_slice (HL5.out w' hb) 4 9 0 (by decide))
      have HS3 := hid (fun w' (hb : Below w5.heap.size w5 w') => k_slice (HL5.out w' hb) 8 1 0 (by decide))
      have HS4 := hid (fun w' (hb : Below w5.heap.size w5 w') => k_slice (HL5.out w' hb) 5 9223372036854775807 3 (by decide))
      have HS5 := hid (fun w' (hb : Below w5.heap.size w5 w') => k_slice (HL5.out w' hb) 5 0 0 (by decide))
      go_region_held3 (fun w' => w'.cell? ⟨w2.heap.size, 0, none⟩ = some (.int .i64 4) ∧ w'.cell? ⟨w2.heap.size, 1, none⟩ = some (.int .i64 2) ∧ w'.cell? ⟨w2.heap.size, 2, none⟩ = some (.slice A2 3 c2))
        (first | exact HK5.out _ hB.out | fail)
        (first
          | (go_at_call 16; (with_reducible refine (HS1.out _ hB.out).mono ?_); rintro e10 w10 ⟨Aa, ca, rfl, hEa', hBn⟩; have hEa := hid hEa'; have hB := hid (hB.out.trans (hBn.mono hB.out.size)); clear hBn hEa')
          | (go_at_call 16; (with_reducible refine (HS2.out _ hB.out).mono ?_); rintro e10 w10 ⟨Ab, cb, rfl, _, hBn⟩; have hEa := hid ((hEa.out.below hBn).more hBn.size); have hB := hid (hB.out.trans (hBn.mono hB.out.size)); clear hBn)
          | (go_at_call 16; (with_reducible refine (HS3.out _ hB.out).mono ?_); rintro e10 w10 ⟨Ac, cc, rfl, _, hBn⟩; have hEa := hid ((hEa.out.below hBn).more hBn.size); have hB := hid (hB.out.trans (hBn.mono hB.out.size)); clear hBn))
      clear x0 x1 x2
      have hcl : ∃ b off, Aa = some ⟨b, off, none⟩ ∧ w10.cell? ⟨b, off, none⟩ = some (.int .i64 3) := by
        obtain ⟨e6, he6, ht6⟩ := slice61
        have h := hEa.out
        rw [he6] at h
        obtain ⟨b, off, h1, _, hc⟩ := h.cells 0 (by simp)
        obtain ⟨_, _, d0, _⟩ := hc 0 (by simp)
        refine ⟨b, off, h1, ?_⟩
        simp at d0
        rw [d0, ht6]
      obtain ⟨ba, oa, rfl, da⟩ := hcl
      obtain ⟨x0, x1, x2⟩ := HK5.out w10 hB.out
      go_wp2_with fail
      refine (HS4.out w10 hB.out).mono ?_
      rintro e w11 ⟨Ad, cd, rfl, _, hb11⟩
      have h11 := hid (hB.out.trans (hb11.mono hB.out.size))
      clear hb11 x0 x1 x2 da
      obtain ⟨x0, x1, x2⟩ := HK5.out w11 h11.out
      go_wp2_with fail
      refine (HS5.out w11 h11.out).mono ?_
      rintro e w12 ⟨Ae, ce, rfl, _, hb12⟩
      have h12 := hid (h11.out.trans (hb12.mono h11.out.size))
      clear hb12 x0 x1 x2
      obtain ⟨x0, x1, x2⟩ := HK5.out w12 h12.out
      go_wp2_with fail
      refine (k_newer (HL5.out w12 h12.out) 7 3 true (by decide)).mono ?_
      rintro e w13 ⟨rfl, hb13⟩
      have h13 := hid (h12.out.trans (hb13.mono h12.out.size))
      clear hb13 x0 x1 x2
      obtain ⟨x0, x1, x2⟩ := HK5.out w13 h13.out
      go_wp2_with fail
      refine (k_newer (HL5.out w13 h13.out) 6 3 false (by decide)).mono ?_
      rintro e w14 ⟨rfl, hb14⟩
      have h14 := hid (h13.out.trans (hb14.mono h13.out.size))
      clear hb14 x0 x1 x2
      obtain ⟨x0, x1, x2⟩ := HK5.out w14 h14.out
      go_wp2_with fail
      refine (k_newer (HL5.out w14 h14.out) 1 4 true (by decide)).mono ?_
      rintro e w15 ⟨rfl, hb15⟩
      have h15 := hid (h14.out.trans (hb15.mono h14.out.size))
      clear hb15 x0 x1 x2
      obtain ⟨x0, x1, x2⟩ := HK5.out w15 h15.out
      go_wp2_with fail
      refine (k_newer (HL5.out w15 h15.out) 9 2 false (by decide)).mono ?_
      rintro e w16 ⟨rfl, hb16⟩
      have h16 := hid (h15.out.trans (hb16.mono h15.out.size))
      clear hb16 x0 x1 x2
      obtain ⟨x0, x1, x2⟩ := HK5.out w16 h16.out
      go_upto_region 16 with fail
      clear x0 x1 x2
      have HTr : Hid (∀ w' N, Below w16.heap.size w16 w' → w'.heap[N]? = some (.cells #[.int .i64 3, .int .i64 3] 3 (0, 0)) → Calls Try.prog 29 #[.slice (some ⟨N, 0, none⟩) 2 2] w' fun e w'' => ∃ A' c', e = .returned (.slice A' 2 c') ∧ IsEnts w'' w''.heap.size A' (tms [3, 3]) ∧ (2 ≤ c' ∧ c' ≤ maxLen) ∧ Below w'.heap.size w' w'' ∧ Below w16.heap.size w16 w'') := hid (fun w' N hb hi => (k_terms w' [3, 3] (by decide) 2 rfl (by omega) N hi).mono fun e w'' ⟨A', c', h1, h2, h3, h4⟩ => ⟨A', c', h1, h2, h3, h4, hb.trans (h4.mono hb.size)⟩)
      have HAr : Hid (∀ w5', Below w16.heap.size w16 w5' → ∀ A5 c5, IsEnts w5' w5'.heap.size A5 (tms [3, 3]) → (2 ≤ c5 ∧ c5 ≤ maxLen) → Calls Try.prog 25 #[.agg #[.int .i64 4, .int .i64 2, .slice A2 3 c2], .int .i64 5, .slice A5 2 c5] w5' fun e w' => ∃ A6 c6, e = .returned (.tuple #[.agg #[.int .i64 4, .int .i64 2, .slice A6 3 c6], .int .i64 0]) ∧ OwnE w' w5'.heap.size w'.heap.size A6 c6 (lg3.appE 5 (tms [3, 3])) ∧ Below w5'.heap.size w5' w') := hid (fun w5' h5' A5 c5 hE hc => k_app (HL5.out w5' (h16.out.trans (h5'.mono h16.out.size))) 5 [3, 3] 2 3 0 A5 c5 rfl (by omega) (by decide) hE hc)
      have HKr : Hid (∀ w', Below w16.heap.size w16 w' → w'.cell? ⟨w2.heap.size, 0, none⟩ = some (.int .i64 4) ∧ w'.cell? ⟨w2.heap.size, 1, none⟩ = some (.int .i64 2) ∧ w'.cell? ⟨w2.heap.size, 2, none⟩ = some (.slice A2 3 c2)) := hid (fun w' hb => HK5.out w' (h16.out.trans (hb.mono h16.out.size)))
      have hlt2 : w2.heap.size < w16.heap.size := World.block_lt_of_cell? _ _ (HK5.out w16 h16.out).1
      have HKs : Hid (∀ w' b u v x, Below w16.heap.size w16 w' → w16.heap.size ≤ b → (((w'.setCell ⟨b, 0, none⟩ u).setCell ⟨b, 1, none⟩ v).setCell ⟨b, 2, none⟩ x).cell? ⟨w2.heap.size, 0, none⟩ = some (.int .i64 4) ∧ (((w'.setCell ⟨b, 0, none⟩ u).setCell ⟨b, 1, none⟩ v).setCell ⟨b, 2, none⟩ x).cell? ⟨w2.heap.size, 1, none⟩ = some (.int .i64 2) ∧ (((w'.setCell ⟨b, 0, none⟩ u).setCell ⟨b, 1, none⟩ v).setCell ⟨b, 2, none⟩ x).cell? ⟨w2.heap.size, 2, none⟩ = some (.slice A2 3 c2)) := hid (fun w' b u v x hb hl => HKr.out _ (hb.trans ((Turned.three w' b 0 1 2 u v x).below hb.size (fun k hk => by have hk : k = b := hk; omega))))
      have HB0 := hid (Below.refl w16.heap.size w16)
      clear hlt2
      go_cut [12, 13] from 141 to 147 (fun pp vv wx => vv = .int .i64 0 ∧ Hid (Below w16.heap.size w16 wx ∧ ∃ b, pp = .pointer (some ⟨b, 0, none⟩) ∧ Holds wx b 3))
      case first =>
        obtain ⟨x0, x1, x2⟩ := HKr.out w16 HB0.out
        go_region_held3 (fun w' => w'.cell? ⟨w2.heap.size, 0, none⟩ = some (.int .i64 4) ∧ w'.cell? ⟨w2.heap.size, 1, none⟩ = some (.int .i64 2) ∧ w'.cell? ⟨w2.heap.size, 2, none⟩ = some (.slice A2 3 c2))
          (first | (refine HKr.out _ ?_; go_grown; done) | exact HKr.out _ hb6.out | exact HKr.out _ hb5.out | exact HKr.out _ (hb5.out.alloc hb5.out.size _) | exact HKr.out _ (hb6.out.alloc hb6.out.size _) | exact HKs.out _ _ _ _ _ hb6.out (Nat.le_refl _) | exact HKs.out _ _ _ _ _ hb6.out (Nat.le_succ _) | exact HKs.out _ _ _ _ _ hb6.out hb5.out.size | fail)
          (first
            | (go_at_call 29; (with_reducible refine (HTr.out _ _ ?hx1 ?hx2).mono ?_); (case hx1 => go_grown); (case hx2 => first | exact heapA _ _ | exact heapB _ _ _ | exact heapC _ _ _); rintro e w5' ⟨A5, c5, rfl, hE5', hc5', hb5', hb5''⟩; have hE5 := hid hE5'; have hc5 := hid hc5'; have hb5 := hid hb5''; (try (have bx := box_facts hb5' w16.heap.size (u0 := .int .i64 0) (u1 := .int .i64 0) (u2 := .slice none 0 0) (t := 24) (by first | exact heapB _ _ _ | exact heapC _ _ _); obtain ⟨⟨xa0, xa1, xa2⟩, xaf, xal⟩ := bx)); (try (have bx := box_facts hb5' (w16.heap.size + 1) (u0 := .int .i64 0) (u1 := .int .i64 0) (u2 := .slice none 0 0) (t := 24) (by first | exact heapB _ _ _ | exact heapC _ _ _); obtain ⟨⟨xa0, xa1, xa2⟩, xaf, xal⟩ := bx)); clear hE5' hc5' hb5' hb5'')
            | (go_at_call 25; (with_reducible refine (HAr.out w5' hb5.out A5 c5 hE5.out hc5.out).mono ?_); rintro e w6' ⟨A6, c6, rfl, ho6', hb6'⟩; have ho6 := hid ho6'; have hb6 := hid (hb5.out.trans (hb6'.mono hb5.out.size)); (try (have xb0 := (hb6'.cell (p := ⟨w16.heap.size, 0, none⟩) xal).trans xa0; have xb1 := (hb6'.cell (p := ⟨w16.heap.size, 1, none⟩) xal).trans xa1; have xb2 := (hb6'.cell (p := ⟨w16.heap.size, 2, none⟩) xal).trans xa2; have xbf := fun k => (hb6'.frozen (p := ⟨w16.heap.size, k, none⟩) xal).trans (xaf k))); (try (have xb0 := (hb6'.cell (p := ⟨w16.heap.size + 1, 0, none⟩) xal).trans xa0; have xb1 := (hb6'.cell (p := ⟨w16.heap.size + 1, 1, none⟩) xal).trans xa1; have xb2 := (hb6'.cell (p := ⟨w16.heap.size + 1, 2, none⟩) xal).trans xa2; have xbf := fun k => (hb6'.frozen (p := ⟨w16.heap.size + 1, k, none⟩) xal).trans (xaf k))); clear ho6' hb6')
            | (go_at_call 25; (with_reducible refine (HAr.out (w5'.alloc (.cells #[.int .i64 0, .int .i64 0, .slice none 0 0] 24)) (hb5.out.alloc hb5.out.size _) A5 c5 ((hE5.out.below ((Below.refl _ w5').alloc (Nat.le_refl _) _)).more (by simp)) hc5.out).mono ?_); rintro e w6' ⟨A6, c6, rfl, ho6', hb6'⟩; have ho6 := hid ho6'; have hb6 := hid ((hb5.out.alloc hb5.out.size _).trans (hb6'.mono (hb5.out.alloc hb5.out.size (.cells #[.int .i64 0, .int .i64 0, .slice none 0 0] 24)).size)); (have bx := box_facts hb6' w5'.heap.size (u0 := .int .i64 0) (u1 := .int .i64 0) (u2 := .slice none 0 0) (t := 24) (heapA _ _); obtain ⟨⟨xb0, xb1, xb2⟩, xbf, xbl⟩ := bx); clear ho6' hb6'))
        all_goals
          (first
            | (have HL0 := (leaf_set (n := 3) (b := w5'.heap.size) (u0 := .int .i64 4) (u1 := .int .i64 2) HB0.out hb6.out ho6.out hb5.out.size (by simp) xb0 xb1 xb2).holds
               generalize ((w6'.setCell ⟨w5'.heap.size, 0, none⟩ (.int .i64 4)).setCell ⟨w5'.heap.size, 1, none⟩ (.int .i64 2)).setCell ⟨w5'.heap.size, 2, none⟩ (.slice A6 3 c6) = W at HL0 ⊢)
            | (have HL0 := (leaf_set (n := 3) (b := w16.heap.size) (u0 := .int .i64 4) (u1 := .int .i64 2) HB0.out hb6.out ho6.out (Nat.le_refl _) xal xb0 xb1 xb2).holds
               generalize ((w6'.setCell ⟨w16.heap.size, 0, none⟩ (.int .i64 4)).setCell ⟨w16.heap.size, 1, none⟩ (.int .i64 2)).setCell ⟨w16.heap.size, 2, none⟩ (.slice A6 3 c6) = W at HL0 ⊢)
            | (have HL0 := (leaf_set (n := 3) (b := w16.heap.size + 1) (u0 := .int .i64 4) (u1 := .int .i64 2) HB0.out hb6.out ho6.out (Nat.le_succ _) xal xb0 xb1 xb2).holds
               generalize ((w6'.setCell ⟨w16.heap.size + 1, 0, none⟩ (.int .i64 4)).setCell ⟨w16.heap.size + 1, 1, none⟩ (.int .i64 2)).setCell ⟨w16.heap.size + 1, 2, none⟩ (.slice A6 3 c6) = W at HL0 ⊢)
            | (have HL0 := (leaf_alloc (n := 3) HB0.out hb6.out ho6.out (.int .i64 4) (.int .i64 2) 24).holds
               generalize w6'.alloc (.cells #[.int .i64 4, .int .i64 2, .slice A6 3 c6] 24) = W at HL0 ⊢))
        all_goals
          (have HLx := hid HL0
           clear HL0
           go_wp2_with fail
           go_meet
           exact ⟨rfl, hid ⟨HLx.out.2, _, rfl, HLx.out.1⟩⟩)
      case rest =>
      obtain ⟨rfl, HP⟩ := hcut
      obtain ⟨v16, hN16⟩ : ∃ v16, v16 = wc := ⟨_, rfl⟩
      rw [← hN16] at HP ⊢
      clear hN16
      have hN16 := hid (h16.out.trans (HP.out.1.mono h16.out.size))
      obtain ⟨b16, hp16, ho16⟩ := HP.out.2
      subst hp16
      have HO16 := hid ho16
      clear ho16 HP HTr HAr HKr HKs HB0
      go_upto_region 17 with fail
      have HTr : Hid (∀ w' N, Below v16.heap.size v16 w' → w'.heap[N]? = some (.cells #[.int .i64 3] 3 (0, 0)) → Calls Try.prog 29 #[.slice (some ⟨N, 0, none⟩) 1 1] w' fun e w'' => ∃ A' c', e = .returned (.slice A' 1 c') ∧ IsEnts w'' w''.heap.size A' (tms [3]) ∧ (1 ≤ c' ∧ c' ≤ maxLen) ∧ Below w'.heap.size w' w'' ∧ Below v16.heap.size v16 w'') := hid (fun w' N hb hi => (k_terms w' [3] (by decide) 1 rfl (by omega) N hi).mono fun e w'' ⟨A', c', h1, h2, h3, h4⟩ => ⟨A', c', h1, h2, h3, h4, hb.trans (h4.mono hb.size)⟩)
      have HAr : Hid (∀ w5', Below v16.heap.size v16 w5' → ∀ A5 c5, IsEnts w5' w5'.heap.size A5 (tms [3]) → (1 ≤ c5 ∧ c5 ≤ maxLen) → Calls Try.prog 25 #[.agg #[.int .i64 4, .int .i64 2, .slice A2 3 c2], .int .i64 5, .slice A5 1 c5] w5' fun e w' => ∃ A6 c6, e = .returned (.tuple #[.agg #[.int .i64 4, .int .i64 2, .slice A6 3 c6], .int .i64 0]) ∧ OwnE w' w5'.heap.size w'.heap.size A6 c6 (lg3.appE 5 (tms [3])) ∧ Below w5'.heap.size w5' w') := hid (fun w5' h5' A5 c5 hE hc => k_app (HL5.out w5' (hN16.out.trans (h5'.mono hN16.out.size))) 5 [3] 1 3 0 A5 c5 rfl (by omega) (by decide) hE hc)
      have HKr : Hid (∀ w', Below v16.heap.size v16 w' → w'.cell? ⟨w2.heap.size, 0, none⟩ = some (.int .i64 4) ∧ w'.cell? ⟨w2.heap.size, 1, none⟩ = some (.int .i64 2) ∧ w'.cell? ⟨w2.heap.size, 2, none⟩ = some (.slice A2 3 c2)) := hid (fun w' hb => HK5.out w' (hN16.out.trans (hb.mono hN16.out.size)))
      have hlt2 : w2.heap.size < v16.heap.size := World.block_lt_of_cell? _ _ (HK5.out v16 hN16.out).1
      have HKs : Hid (∀ w' b u v x, Below v16.heap.size v16 w' → v16.heap.size ≤ b → (((w'.setCell ⟨b, 0, none⟩ u).setCell ⟨b, 1, none⟩ v).setCell ⟨b, 2, none⟩ x).cell? ⟨w2.heap.size, 0, none⟩ = some (.int .i64 4) ∧ (((w'.setCell ⟨b, 0, none⟩ u).setCell ⟨b, 1, none⟩ v).setCell ⟨b, 2, none⟩ x).cell? ⟨w2.heap.size, 1, none⟩ = some (.int .i64 2) ∧ (((w'.setCell ⟨b, 0, none⟩ u).setCell ⟨b, 1, none⟩ v).setCell ⟨b, 2, none⟩ x).cell? ⟨w2.heap.size, 2, none⟩ = some (.slice A2 3 c2)) := hid (fun w' b u v x hb hl => HKr.out _ (hb.trans ((Turned.three w' b 0 1 2 u v x).below hb.size (fun k hk => by have hk : k = b := hk; omega))))
      have HB0 := hid (Below.refl v16.heap.size v16)
      clear hlt2
      go_cut [14, 15] from 148 to 154 (fun pp vv wx => vv = .int .i64 0 ∧ Hid (Below v16.heap.size v16 wx ∧ ∃ b, pp = .pointer (some ⟨b, 0, none⟩) ∧ Holds wx b 3))
      case first =>
        obtain ⟨x0, x1, x2⟩ := HKr.out v16 HB0.out
        go_region_held3 (fun w' => w'.cell? ⟨w2.heap.size, 0, none⟩ = some (.int .i64 4) ∧ w'.cell? ⟨w2.heap.size, 1, none⟩ = some (.int .i64 2) ∧ w'.cell? ⟨w2.heap.size, 2, none⟩ = some (.slice A2 3 c2))
          (first | (refine HKr.out _ ?_; go_grown; done) | exact HKr.out _ hb6.out | exact HKr.out _ hb5.out | exact HKr.out _ (hb5.out.alloc hb5.out.size _) | exact HKr.out _ (hb6.out.alloc hb6.out.size _) | exact HKs.out _ _ _ _ _ hb6.out (Nat.le_refl _) | exact HKs.out _ _ _ _ _ hb6.out (Nat.le_succ _) | exact HKs.out _ _ _ _ _ hb6.out hb5.out.size | fail)
          (first
            | (go_at_call 29; (with_reducible refine (HTr.out _ _ ?hx1 ?hx2).mono ?_); (case hx1 => go_grown); (case hx2 => first | exact heapA _ _ | exact heapB _ _ _ | exact heapC _ _ _); rintro e w5' ⟨A5, c5, rfl, hE5', hc5', hb5', hb5''⟩; have hE5 := hid hE5'; have hc5 := hid hc5'; have hb5 := hid hb5''; (try (have bx := box_facts hb5' v16.heap.size (u0 := .int .i64 0) (u1 := .int .i64 0) (u2 := .slice none 0 0) (t := 24) (by first | exact heapB _ _ _ | exact heapC _ _ _); obtain ⟨⟨xa0, xa1, xa2⟩, xaf, xal⟩ := bx)); (try (have bx := box_facts hb5' (v16.heap.size + 1) (u0 := .int .i64 0) (u1 := .int .i64 0) (u2 := .slice none 0 0) (t := 24) (by first | exact heapB _ _ _ | exact heapC _ _ _); obtain ⟨⟨xa0, xa1, xa2⟩, xaf, xal⟩ := bx)); clear hE5' hc5' hb5' hb5'')
            | (go_at_call 25; (with_reducible refine (HAr.out w5' hb5.out A5 c5 hE5.out hc5.out).mono ?_); rintro e w6' ⟨A6, c6, rfl, ho6', hb6'⟩; have ho6 := hid ho6'; have hb6 := hid (hb5.out.trans (hb6'.mono hb5.out.size)); (try (have xb0 := (hb6'.cell (p := ⟨v16.heap.size, 0, none⟩) xal).trans xa0; have xb1 := (hb6'.cell (p := ⟨v16.heap.size, 1, none⟩) xal).trans xa1; have xb2 := (hb6'.cell (p := ⟨v16.heap.size, 2, none⟩) xal).trans xa2; have xbf := fun k => (hb6'.frozen (p := ⟨v16.heap.size, k, none⟩) xal).trans (xaf k))); (try (have xb0 := (hb6'.cell (p := ⟨v16.heap.size + 1, 0, none⟩) xal).trans xa0; have xb1 := (hb6'.cell (p := ⟨v16.heap.size + 1, 1, none⟩) xal).trans xa1; have xb2 := (hb6'.cell (p := ⟨v16.heap.size + 1, 2, none⟩) xal).trans xa2; have xbf := fun k => (hb6'.frozen (p := ⟨v16.heap.size + 1, k, none⟩) xal).trans (xaf k))); clear ho6' hb6')
            | (go_at_call 25; (with_reducible refine (HAr.out (w5'.alloc (.cells #[.int .i64 0, .int .i64 0, .slice none 0 0] 24)) (hb5.out.alloc hb5.out.size _) A5 c5 ((hE5.out.below ((Below.refl _ w5').alloc (Nat.le_refl _) _)).more (by simp)) hc5.out).mono ?_); rintro e w6' ⟨A6, c6, rfl, ho6', hb6'⟩; have ho6 := hid ho6'; have hb6 := hid ((hb5.out.alloc hb5.out.size _).trans (hb6'.mono (hb5.out.alloc hb5.out.size (.cells #[.int .i64 0, .int .i64 0, .slice none 0 0] 24)).size)); (have bx := box_facts hb6' w5'.heap.size (u0 := .int .i64 0) (u1 := .int .i64 0) (u2 := .slice none 0 0) (t := 24) (heapA _ _); obtain ⟨⟨xb0, xb1, xb2⟩, xbf, xbl⟩ := bx); clear ho6' hb6'))
        all_goals
          (first
            | (have HL0 := (leaf_set (n := 3) (b := w5'.heap.size) (u0 := .int .i64 4) (u1 := .int .i64 2) HB0.out hb6.out ho6.out hb5.out.size (by simp) xb0 xb1 xb2).holds
               generalize ((w6'.setCell ⟨w5'.heap.size, 0, none⟩ (.int .i64 4)).setCell ⟨w5'.heap.size, 1, none⟩ (.int .i64 2)).setCell ⟨w5'.heap.size, 2, none⟩ (.slice A6 3 c6) = W at HL0 ⊢)
            | (have HL0 := (leaf_set (n := 3) (b := v16.heap.size) (u0 := .int .i64 4) (u1 := .int .i64 2) HB0.out hb6.out ho6.out (Nat.le_refl _) xal xb0 xb1 xb2).holds
               generalize ((w6'.setCell ⟨v16.heap.size, 0, none⟩ (.int .i64 4)).setCell ⟨v16.heap.size, 1, none⟩ (.int .i64 2)).setCell ⟨v16.heap.size, 2, none⟩ (.slice A6 3 c6) = W at HL0 ⊢)
            | (have HL0 := (leaf_set (n := 3) (b := v16.heap.size + 1) (u0 := .int .i64 4) (u1 := .int .i64 2) HB0.out hb6.out ho6.out (Nat.le_succ _) xal xb0 xb1 xb2).holds
               generalize ((w6'.setCell ⟨v16.heap.size + 1, 0, none⟩ (.int .i64 4)).setCell ⟨v16.heap.size + 1, 1, none⟩ (.int .i64 2)).setCell ⟨v16.heap.size + 1, 2, none⟩ (.slice A6 3 c6) = W at HL0 ⊢)
            | (have HL0 := (leaf_alloc (n := 3) HB0.out hb6.out ho6.out (.int .i64 4) (.int .i64 2) 24).holds
               generalize w6'.alloc (.cells #[.int .i64 4, .int .i64 2, .slice A6 3 c6] 24) = W at HL0 ⊢))
        all_goals
          (have HLx := hid HL0
           clear HL0
           go_wp2_with fail
           go_meet
           exact ⟨rfl, hid ⟨HLx.out.2, _, rfl, HLx.out.1⟩⟩)
      case rest =>
      obtain ⟨rfl, HP⟩ := hcut
      obtain ⟨v17, hN17⟩ : ∃ v17, v17 = wc := ⟨_, rfl⟩
      rw [← hN17] at HP ⊢
      clear hN17
      have hN17 := hid (hN16.out.trans (HP.out.1.mono hN16.out.size))
      obtain ⟨b17, hp17, ho17⟩ := HP.out.2
      subst hp17
      have HO17 := hid ho17
      have HS17 := hid HP.out.1
      clear ho17 HP HTr HAr HKr HKs HB0
      go_upto_region 18 with fail
      have HTr : Hid (∀ w' N, Below v17.heap.size v17 w' → w'.heap[N]? = some (.cells #[.int .i64 5] 3 (0, 0)) → Calls Try.prog 29 #[.slice (some ⟨N, 0, none⟩) 1 1] w' fun e w'' => ∃ A' c', e = .returned (.slice A' 1 c') ∧ IsEnts w'' w''.heap.size A' (tms [5]) ∧ (1 ≤ c' ∧ c' ≤ maxLen) ∧ Below w'.heap.size w' w'' ∧ Below v17.heap.size v17 w'') := hid (fun w' N hb hi => (k_terms w' [5] (by decide) 1 rfl (by omega) N hi).mono fun e w'' ⟨A', c', h1, h2, h3, h4⟩ => ⟨A', c', h1, h2, h3, h4, hb.trans (h4.mono hb.size)⟩)
      have HAr : Hid (∀ w5', Below v17.heap.size v17 w5' → ∀ A5 c5, IsEnts w5' w5'.heap.size A5 (tms [5]) → (1 ≤ c5 ∧ c5 ≤ maxLen) → Calls Try.prog 25 #[.agg #[.int .i64 4, .int .i64 2, .slice A2 3 c2], .int .i64 8, .slice A5 1 c5] w5' fun e w' => ∃ A6 c6, e = .returned (.tuple #[.agg #[.int .i64 4, .int .i64 2, .slice A6 3 c6], .int .i64 0]) ∧ OwnE w' w5'.heap.size w'.heap.size A6 c6 (lg3.appE 8 (tms [5])) ∧ Below w5'.heap.size w5' w') := hid (fun w5' h5' A5 c5 hE hc => k_app (HL5.out w5' (hN17.out.trans (h5'.mono hN17.out.size))) 8 [5] 1 3 0 A5 c5 rfl (by omega) (by decide) hE hc)
      have HKr : Hid (∀ w', Below v17.heap.size v17 w' → w'.cell? ⟨w2.heap.size, 0, none⟩ = some (.int .i64 4) ∧ w'.cell? ⟨w2.heap.size, 1, none⟩ = some (.int .i64 2) ∧ w'.cell? ⟨w2.heap.size, 2, none⟩ = some (.slice A2 3 c2)) := hid (fun w' hb => HK5.out w' (hN17.out.trans (hb.mono hN17.out.size)))
      have hlt2 : w2.heap.size < v17.heap.size := World.block_lt_of_cell? _ _ (HK5.out v17 hN17.out).1
      have HKs : Hid (∀ w' b u v x, Below v17.heap.size v17 w' → v17.heap.size ≤ b → (((w'.setCell ⟨b, 0, none⟩ u).setCell ⟨b, 1, none⟩ v).setCell ⟨b, 2, none⟩ x).cell? ⟨w2.heap.size, 0, none⟩ = some (.int .i64 4) ∧ (((w'.setCell ⟨b, 0, none⟩ u).setCell ⟨b, 1, none⟩ v).setCell ⟨b, 2, none⟩ x).cell? ⟨w2.heap.size, 1, none⟩ = some (.int .i64 2) ∧ (((w'.setCell ⟨b, 0, none⟩ u).setCell ⟨b, 1, none⟩ v).setCell ⟨b, 2, none⟩ x).cell? ⟨w2.heap.size, 2, none⟩ = some (.slice A2 3 c2)) := hid (fun w' b u v x hb hl => HKr.out _ (hb.trans ((Turned.three w' b 0 1 2 u v x).below hb.size (fun k hk => by have hk : k = b := hk; omega))))
      have HB0 := hid (Below.refl v17.heap.size v17)
      clear hlt2
      go_cut [16, 17] from 155 to 161 (fun pp vv wx => vv = .int .i64 0 ∧ Hid (Below v17.heap.size v17 wx ∧ ∃ b, pp = .pointer (some ⟨b, 0, none⟩) ∧ Holds wx b 3))
      case first =>
        obtain ⟨x0, x1, x2⟩ := HKr.out v17 HB0.out
        go_region_held3 (fun w' => w'.cell? ⟨w2.heap.size, 0, none⟩ = some (.int .i64 4) ∧ w'.cell? ⟨w2.heap.size, 1, none⟩ = some (.int .i64 2) ∧ w'.cell? ⟨w2.heap.size, 2, none⟩ = some (.slice A2 3 c2))
          (first | (refine HKr.out _ ?_; go_grown; done) | exact HKr.out _ hb6.out | exact HKr.out _ hb5.out | exact HKr.out _ (hb5.out.alloc hb5.out.size _) | exact HKr.out _ (hb6.out.alloc hb6.out.size _) | exact HKs.out _ _ _ _ _ hb6.out (Nat.le_refl _) | exact HKs.out _ _ _ _ _ hb6.out (Nat.le_succ _) | exact HKs.out _ _ _ _ _ hb6.out hb5.out.size | fail)
          (first
            | (go_at_call 29; (with_reducible refine (HTr.out _ _ ?hx1 ?hx2).mono ?_); (case hx1 => go_grown); (case hx2 => first | exact heapA _ _ | exact heapB _ _ _ | exact heapC _ _ _); rintro e w5' ⟨A5, c5, rfl, hE5', hc5', hb5', hb5''⟩; have hE5 := hid hE5'; have hc5 := hid hc5'; have hb5 := hid hb5''; (try (have bx := box_facts hb5' v17.heap.size (u0 := .int .i64 0) (u1 := .int .i64 0) (u2 := .slice none 0 0) (t := 24) (by first | exact heapB _ _ _ | exact heapC _ _ _); obtain ⟨⟨xa0, xa1, xa2⟩, xaf, xal⟩ := bx)); (try (have bx := box_facts hb5' (v17.heap.size + 1) (u0 := .int .i64 0) (u1 := .int .i64 0) (u2 := .slice none 0 0) (t := 24) (by first | exact heapB _ _ _ | exact heapC _ _ _); obtain ⟨⟨xa0, xa1, xa2⟩, xaf, xal⟩ := bx)); clear hE5' hc5' hb5' hb5'')
            | (go_at_call 25; (with_reducible refine (HAr.out w5' hb5.out A5 c5 hE5.out hc5.out).mono ?_); rintro e w6' ⟨A6, c6, rfl, ho6', hb6'⟩; have ho6 := hid ho6'; have hb6 := hid (hb5.out.trans (hb6'.mono hb5.out.size)); (try (have xb0 := (hb6'.cell (p := ⟨v17.heap.size, 0, none⟩) xal).trans xa0; have xb1 := (hb6'.cell (p := ⟨v17.heap.size, 1, none⟩) xal).trans xa1; have xb2 := (hb6'.cell (p := ⟨v17.heap.size, 2, none⟩) xal).trans xa2; have xbf := fun k => (hb6'.frozen (p := ⟨v17.heap.size, k, none⟩) xal).trans (xaf k))); (try (have xb0 := (hb6'.cell (p := ⟨v17.heap.size + 1, 0, none⟩) xal).trans xa0; have xb1 := (hb6'.cell (p := ⟨v17.heap.size + 1, 1, none⟩) xal).trans xa1; have xb2 := (hb6'.cell (p := ⟨v17.heap.size + 1, 2, none⟩) xal).trans xa2; have xbf := fun k => (hb6'.frozen (p := ⟨v17.heap.size + 1, k, none⟩) xal).trans (xaf k))); clear ho6' hb6')
            | (go_at_call 25; (with_reducible refine (HAr.out (w5'.alloc (.cells #[.int .i64 0, .int .i64 0, .slice none 0 0] 24)) (hb5.out.alloc hb5.out.size _) A5 c5 ((hE5.out.below ((Below.refl _ w5').alloc (Nat.le_refl _) _)).more (by simp)) hc5.out).mono ?_); rintro e w6' ⟨A6, c6, rfl, ho6', hb6'⟩; have ho6 := hid ho6'; have hb6 := hid ((hb5.out.alloc hb5.out.size _).trans (hb6'.mono (hb5.out.alloc hb5.out.size (.cells #[.int .i64 0, .int .i64 0, .slice none 0 0] 24)).size)); (have bx := box_facts hb6' w5'.heap.size (u0 := .int .i64 0) (u1 := .int .i64 0) (u2 := .slice none 0 0) (t := 24) (heapA _ _); obtain ⟨⟨xb0, xb1, xb2⟩, xbf, xbl⟩ := bx); clear ho6' hb6'))
        all_goals
          (first
            | (have HL0 := (leaf_set (n := 3) (b := w5'.heap.size) (u0 := .int .i64 4) (u1 := .int .i64 2) HB0.out hb6.out ho6.out hb5.out.size (by simp) xb0 xb1 xb2).holds
               generalize ((w6'.setCell ⟨w5'.heap.size, 0, none⟩ (.int .i64 4)).setCell ⟨w5'.heap.size, 1, none⟩ (.int .i64 2)).setCell ⟨w5'.heap.size, 2, none⟩ (.slice A6 3 c6) = W at HL0 ⊢)
            | (have HL0 := (leaf_set (n := 3) (b := v17.heap.size) (u0 := .int .i64 4) (u1 := .int .i64 2) HB0.out hb6.out ho6.out (Nat.le_refl _) xal xb0 xb1 xb2).holds
               generalize ((w6'.setCell ⟨v17.heap.size, 0, none⟩ (.int .i64 4)).setCell ⟨v17.heap.size, 1, none⟩ (.int .i64 2)).setCell ⟨v17.heap.size, 2, none⟩ (.slice A6 3 c6) = W at HL0 ⊢)
            | (have HL0 := (leaf_set (n := 3) (b := v17.heap.size + 1) (u0 := .int .i64 4) (u1 := .int .i64 2) HB0.out hb6.out ho6.out (Nat.le_succ _) xal xb0 xb1 xb2).holds
               generalize ((w6'.setCell ⟨v17.heap.size + 1, 0, none⟩ (.int .i64 4)).setCell ⟨v17.heap.size + 1, 1, none⟩ (.int .i64 2)).setCell ⟨v17.heap.size + 1, 2, none⟩ (.slice A6 3 c6) = W at HL0 ⊢)
            | (have HL0 := (leaf_alloc (n := 3) HB0.out hb6.out ho6.out (.int .i64 4) (.int .i64 2) 24).holds
               generalize w6'.alloc (.cells #[.int .i64 4, .int .i64 2, .slice A6 3 c6] 24) = W at HL0 ⊢))
        all_goals
          (have HLx := hid HL0
           clear HL0
           go_wp2_with fail
           go_meet
           exact ⟨rfl, hid ⟨HLx.out.2, _, rfl, HLx.out.1⟩⟩)
      case rest =>
      obtain ⟨rfl, HP⟩ := hcut
      obtain ⟨v18, hN18⟩ : ∃ v18, v18 = wc := ⟨_, rfl⟩
      rw [← hN18] at HP ⊢
      clear hN18
      have hN18 := hid (hN17.out.trans (HP.out.1.mono hN17.out.size))
      obtain ⟨b18, hp18, ho18⟩ := HP.out.2
      subst hp18
      have HO18 := hid ho18
      have HS18 := hid HP.out.1
      clear ho18 HP HTr HAr HKr HKs HB0
      go_upto_region 19 with fail
      have HTr : Hid (∀ w' N, Below v18.heap.size v18 w' → w'.heap[N]? = some (.cells #[.int .i64 5] 3 (0, 0)) → Calls Try.prog 29 #[.slice (some ⟨N, 0, none⟩) 1 1] w' fun e w'' => ∃ A' c', e = .returned (.slice A' 1 c') ∧ IsEnts w'' w''.heap.size A' (tms [5]) ∧ (1 ≤ c' ∧ c' ≤ maxLen) ∧ Below w'.heap.size w' w'' ∧ Below v18.heap.size v18 w'') := hid (fun w' N hb hi => (k_terms w' [5] (by decide) 1 rfl (by omega) N hi).mono fun e w'' ⟨A', c', h1, h2, h3, h4⟩ => ⟨A', c', h1, h2, h3, h4, hb.trans (h4.mono hb.size)⟩)
      have HAr : Hid (∀ w5', Below v18.heap.size v18 w5' → ∀ A5 c5, IsEnts w5' w5'.heap.size A5 (tms [5]) → (1 ≤ c5 ∧ c5 ≤ maxLen) → Calls Try.prog 25 #[.agg #[.int .i64 4, .int .i64 2, .slice A2 3 c2], .int .i64 3, .slice A5 1 c5] w5' fun e w' => ∃ A6 c6, e = .returned (.tuple #[.agg #[.int .i64 4, .int .i64 2, .slice A6 3 c6], .int .i64 0]) ∧ OwnE w' w5'.heap.size w'.heap.size A6 c6 (lg3.appE 3 (tms [5])) ∧ Below w5'.heap.size w5' w') := hid (fun w5' h5' A5 c5 hE hc => k_app (HL5.out w5' (hN18.out.trans (h5'.mono hN18.out.size))) 3 [5] 1 3 0 A5 c5 rfl (by omega) (by decide) hE hc)
      have HKr : Hid (∀ w', Below v18.heap.size v18 w' → w'.cell? ⟨w2.heap.size, 0, none⟩ = some (.int .i64 4) ∧ w'.cell? ⟨w2.heap.size, 1, none⟩ = some (.int .i64 2) ∧ w'.cell? ⟨w2.heap.size, 2, none⟩ = some (.slice A2 3 c2)) := hid (fun w' hb => HK5.out w' (hN18.out.trans (hb.mono hN18.out.size)))
      have hlt2 : w2.heap.size < v18.heap.size := World.block_lt_of_cell? _ _ (HK5.out v18 hN18.out).1
      have HKs : Hid (∀ w' b u v x, Below v18.heap.size v18 w' → v18.heap.size ≤ b → (((w'.setCell ⟨b, 0, none⟩ u).setCell ⟨b, 1, none⟩ v).setCell ⟨b, 2, none⟩ x).cell? ⟨w2.heap.size, 0, none⟩ = some (.int .i64 4) ∧ (((w'.setCell ⟨b, 0, none⟩ u).setCell ⟨b, 1, none⟩ v).setCell ⟨b, 2, none⟩ x).cell? ⟨w2.heap.size, 1, none⟩ = some (.int .i64 2) ∧ (((w'.setCell ⟨b, 0, none⟩ u).setCell ⟨b, 1, none⟩ v).setCell ⟨b, 2, none⟩ x).cell? ⟨w2.heap.size, 2, none⟩ = some (.slice A2 3 c2)) := hid (fun w' b u v x hb hl => HKr.out _ (hb.trans ((Turned.three w' b 0 1 2 u v x).below hb.size (fun k hk => by have hk : k = b := hk; omega))))
      have HB0 := hid (Below.refl v18.heap.size v18)
      clear hlt2
      go_cut [18, 19] from 162 to 168 (fun pp vv wx => vv = .int .i64 0 ∧ Hid (Below v18.heap.size v18 wx ∧ ∃ b, pp = .pointer (some ⟨b, 0, none⟩) ∧ Holds wx b 3))
      case first =>
        obtain ⟨x0, x1, x2⟩ := HKr.out v18 HB0.out
        go_region_held3 (fun w' => w'.cell? ⟨w2.heap.size, 0, none⟩ = some (.int .i64 4) ∧ w'.cell? ⟨w2.heap.size, 1, none⟩ = some (.int .i64 2) ∧ w'.cell? ⟨w2.heap.size, 2, none⟩ = some (.slice A2 3 c2))
          (first | (refine HKr.out _ ?_; go_grown; done) | exact HKr.out _ hb6.out | exact HKr.out _ hb5.out | exact HKr.out _ (hb5.out.alloc hb5.out.size _) | exact HKr.out _ (hb6.out.alloc hb6.out.size _) | exact HKs.out _ _ _ _ _ hb6.out (Nat.le_refl _) | exact HKs.out _ _ _ _ _ hb6.out (Nat.le_succ _) | exact HKs.out _ _ _ _ _ hb6.out hb5.out.size | fail)
          (first
            | (go_at_call 29; (with_reducible refine (HTr.out _ _ ?hx1 ?hx2).mono ?_); (case hx1 => go_grown); (case hx2 => first | exact heapA _ _ | exact heapB _ _ _ | exact heapC _ _ _); rintro e w5' ⟨A5, c5, rfl, hE5', hc5', hb5', hb5''⟩; have hE5 := hid hE5'; have hc5 := hid hc5'; have hb5 := hid hb5''; (try (have bx := box_facts hb5' v18.heap.size (u0 := .int .i64 0) (u1 := .int .i64 0) (u2 := .slice none 0 0) (t := 24) (by first | exact heapB _ _ _ | exact heapC _ _ _); obtain ⟨⟨xa0, xa1, xa2⟩, xaf, xal⟩ := bx)); (try (have bx := box_facts hb5' (v18.heap.size + 1) (u0 := .int .i64 0) (u1 := .int .i64 0) (u2 := .slice none 0 0) (t := 24) (by first | exact heapB _ _ _ | exact heapC _ _ _); obtain ⟨⟨xa0, xa1, xa2⟩, xaf, xal⟩ := bx)); clear hE5' hc5' hb5' hb5'')
            | (go_at_call 25; (with_reducible refine (HAr.out w5' hb5.out A5 c5 hE5.out hc5.out).mono ?_); rintro e w6' ⟨A6, c6, rfl, ho6', hb6'⟩; have ho6 := hid ho6'; have hb6 := hid (hb5.out.trans (hb6'.mono hb5.out.size)); (try (have xb0 := (hb6'.cell (p := ⟨v18.heap.size, 0, none⟩) xal).trans xa0; have xb1 := (hb6'.cell (p := ⟨v18.heap.size, 1, none⟩) xal).trans xa1; have xb2 := (hb6'.cell (p := ⟨v18.heap.size, 2, none⟩) xal).trans xa2; have xbf := fun k => (hb6'.frozen (p := ⟨v18.heap.size, k, none⟩) xal).trans (xaf k))); (try (have xb0 := (hb6'.cell (p := ⟨v18.heap.size + 1, 0, none⟩) xal).trans xa0; have xb1 := (hb6'.cell (p := ⟨v18.heap.size + 1, 1, none⟩) xal).trans xa1; have xb2 := (hb6'.cell (p := ⟨v18.heap.size + 1, 2, none⟩) xal).trans xa2; have xbf := fun k => (hb6'.frozen (p := ⟨v18.heap.size + 1, k, none⟩) xal).trans (xaf k))); clear ho6' hb6')
            | (go_at_call 25; (with_reducible refine (HAr.out (w5'.alloc (.cells #[.int .i64 0, .int .i64 0, .slice none 0 0] 24)) (hb5.out.alloc hb5.out.size _) A5 c5 ((hE5.out.below ((Below.refl _ w5').alloc (Nat.le_refl _) _)).more (by simp)) hc5.out).mono ?_); rintro e w6' ⟨A6, c6, rfl, ho6', hb6'⟩; have ho6 := hid ho6'; have hb6 := hid ((hb5.out.alloc hb5.out.size _).trans (hb6'.mono (hb5.out.alloc hb5.out.size (.cells #[.int .i64 0, .int .i64 0, .slice none 0 0] 24)).size)); (have bx := box_facts hb6' w5'.heap.size (u0 := .int .i64 0) (u1 := .int .i64 0) (u2 := .slice none 0 0) (t := 24) (heapA _ _); obtain ⟨⟨xb0, xb1, xb2⟩, xbf, xbl⟩ := bx); clear ho6' hb6'))
        all_goals
          (first
            | (have HL0 := (leaf_set (n := 3) (b := w5'.heap.size) (u0 := .int .i64 4) (u1 := .int .i64 2) HB0.out hb6.out ho6.out hb5.out.size (by simp) xb0 xb1 xb2).holds
               generalize ((w6'.setCell ⟨w5'.heap.size, 0, none⟩ (.int .i64 4)).setCell ⟨w5'.heap.size, 1, none⟩ (.int .i64 2)).setCell ⟨w5'.heap.size, 2, none⟩ (.slice A6 3 c6) = W at HL0 ⊢)
            | (have HL0 := (leaf_set (n := 3) (b := v18.heap.size) (u0 := .int .i64 4) (u1 := .int .i64 2) HB0.out hb6.out ho6.out (Nat.le_refl _) xal xb0 xb1 xb2).holds
               generalize ((w6'.setCell ⟨v18.heap.size, 0, none⟩ (.int .i64 4)).setCell ⟨v18.heap.size, 1, none⟩ (.int .i64 2)).setCell ⟨v18.heap.size, 2, none⟩ (.slice A6 3 c6) = W at HL0 ⊢)
            | (have HL0 := (leaf_set (n := 3) (b := v18.heap.size + 1) (u0 := .int .i64 4) (u1 := .int .i64 2) HB0.out hb6.out ho6.out (Nat.le_succ _) xal xb0 xb1 xb2).holds
               generalize ((w6'.setCell ⟨v18.heap.size + 1, 0, none⟩ (.int .i64 4)).setCell ⟨v18.heap.size + 1, 1, none⟩ (.int .i64 2)).setCell ⟨v18.heap.size + 1, 2, none⟩ (.slice A6 3 c6) = W at HL0 ⊢)
            | (have HL0 := (leaf_alloc (n := 3) HB0.out hb6.out ho6.out (.int .i64 4) (.int .i64 2) 24).holds
               generalize w6'.alloc (.cells #[.int .i64 4, .int .i64 2, .slice A6 3 c6] 24) = W at HL0 ⊢))
        all_goals
          (have HLx := hid HL0
           clear HL0
           go_wp2_with fail
           go_meet
           exact ⟨rfl, hid ⟨HLx.out.2, _, rfl, HLx.out.1⟩⟩)
      case rest =>
      obtain ⟨rfl, HP⟩ := hcut
      obtain ⟨v19, hN19⟩ : ∃ v19, v19 = wc := ⟨_, rfl⟩
      rw [← hN19] at HP ⊢
      clear hN19
      have hN19 := hid (hN18.out.trans (HP.out.1.mono hN18.out.size))
      obtain ⟨b19, hp19, ho19⟩ := HP.out.2
      subst hp19
      have HO19 := hid ho19
      have HS19 := hid HP.out.1
      clear ho19 HP HTr HAr HKr HKs HB0
      go_upto_region 20 with fail
      have HTr : Hid (∀ w' N, Below v19.heap.size v19 w' → w'.heap[N]? = some (.cells #[.int .i64 5] 3 (0, 0)) → Calls Try.prog 29 #[.slice (some ⟨N, 0, none⟩) 1 1] w' fun e w'' => ∃ A' c', e = .returned (.slice A' 1 c') ∧ IsEnts w'' w''.heap.size A' (tms [5]) ∧ (1 ≤ c' ∧ c' ≤ maxLen) ∧ Below w'.heap.size w' w'' ∧ Below v19.heap.size v19 w'') := hid (fun w' N hb hi => (k_terms w' [5] (by decide) 1 rfl (by omega) N hi).mono fun e w'' ⟨A', c', h1, h2, h3, h4⟩ => ⟨A', c', h1, h2, h3, h4, hb.trans (h4.mono hb.size)⟩)
      have HAr : Hid (∀ w5', Below v19.heap.size v19 w5' → ∀ A5 c5, IsEnts w5' w5'.heap.size A5 (tms [5]) → (1 ≤ c5 ∧ c5 ≤ maxLen) → Calls Try.prog 25 #[.agg #[.int .i64 4, .int .i64 2, .slice A2 3 c2], .int .i64 7, .slice A5 1 c5] w5' fun e w' => ∃ A6 c6, e = .returned (.tuple #[.agg #[.int .i64 4, .int .i64 2, .slice A6 4 c6], .int .i64 8]) ∧ OwnE w' w5'.heap.size w'.heap.size A6 c6 (lg3.appE 7 (tms [5])) ∧ Below w5'.heap.size w5' w') := hid (fun w5' h5' A5 c5 hE hc => k_app (HL5.out w5' (hN19.out.trans (h5'.mono hN19.out.size))) 7 [5] 1 4 8 A5 c5 rfl (by omega) (by decide) hE hc)
      have HKr : Hid (∀ w', Below v19.heap.size v19 w' → w'.cell? ⟨w2.heap.size, 0, none⟩ = some (.int .i64 4) ∧ w'.cell? ⟨w2.heap.size, 1, none⟩ = some (.int .i64 2) ∧ w'.cell? ⟨w2.heap.size, 2, none⟩ = some (.slice A2 3 c2)) := hid (fun w' hb => HK5.out w' (hN19.out.trans (hb.mono hN19.out.size)))
      have hlt2 : w2.heap.size < v19.heap.size := World.block_lt_of_cell? _ _ (HK5.out v19 hN19.out).1
      have HKs : Hid (∀ w' b u v x, Below v19.heap.size v19 w' → v19.heap.size ≤ b → (((w'.setCell ⟨b, 0, none⟩ u).setCell ⟨b, 1, none⟩ v).setCell ⟨b, 2, none⟩ x).cell? ⟨w2.heap.size, 0, none⟩ = some (.int .i64 4) ∧ (((w'.setCell ⟨b, 0, none⟩ u).setCell ⟨b, 1, none⟩ v).setCell ⟨b, 2, none⟩ x).cell? ⟨w2.heap.size, 1, none⟩ = some (.int .i64 2) ∧ (((w'.setCell ⟨b, 0, none⟩ u).setCell ⟨b, 1, none⟩ v).setCell ⟨b, 2, none⟩ x).cell? ⟨w2.heap.size, 2, none⟩ = some (.slice A2 3 c2)) := hid (fun w' b u v x hb hl => HKr.out _ (hb.trans ((Turned.three w' b 0 1 2 u v x).below hb.size (fun k hk => by have hk : k = b := hk; omega))))
      have HB0 := hid (Below.refl v19.heap.size v19)
      clear hlt2
      go_cut [20, 21] from 169 to 175 (fun pp vv wx => vv = .int .i64 8 ∧ Hid (Below v19.heap.size v19 wx ∧ ∃ b, pp = .pointer (some ⟨b, 0, none⟩) ∧ Holds wx b 4))
      case first =>
        obtain ⟨x0, x1, x2⟩ := HKr.out v19 HB0.out
        go_region_held3 (fun w' => w'.cell? ⟨w2.heap.size, 0, none⟩ = some (.int .i64 4) ∧ w'.cell? ⟨w2.heap.size, 1, none⟩ = some (.int .i64 2) ∧ w'.cell? ⟨w2.heap.size, 2, none⟩ = some (.slice A2 3 c2))
          (first | (refine HKr.out _ ?_; go_grown; done) | exact HKr.out _ hb6.out | exact HKr.out _ hb5.out | exact HKr.out _ (hb5.out.alloc hb5.out.size _) | exact HKr.out _ (hb6.out.alloc hb6.out.size _) | exact HKs.out _ _ _ _ _ hb6.out (Nat.le_refl _) | exact HKs.out _ _ _ _ _ hb6.out (Nat.le_succ _) | exact HKs.out _ _ _ _ _ hb6.out hb5.out.size | fail)
          (first
            | (go_at_call 29; (with_reducible refine (HTr.out _ _ ?hx1 ?hx2).mono ?_); (case hx1 => go_grown); (case hx2 => first | exact heapA _ _ | exact heapB _ _ _ | exact heapC _ _ _); rintro e w5' ⟨A5, c5, rfl, hE5', hc5', hb5', hb5''⟩; have hE5 := hid hE5'; have hc5 := hid hc5'; have hb5 := hid hb5''; (try (have bx := box_facts hb5' v19.heap.size (u0 := .int .i64 0) (u1 := .int .i64 0) (u2 := .slice none 0 0) (t := 24) (by first | exact heapB _ _ _ | exact heapC _ _ _); obtain ⟨⟨xa0, xa1, xa2⟩, xaf, xal⟩ := bx)); (try (have bx := box_facts hb5' (v19.heap.size + 1) (u0 := .int .i64 0) (u1 := .int .i64 0) (u2 := .slice none 0 0) (t := 24) (by first | exact heapB _ _ _ | exact heapC _ _ _); obtain ⟨⟨xa0, xa1, xa2⟩, xaf, xal⟩ := bx)); clear hE5' hc5' hb5' hb5'')
            | (go_at_call 25; (with_reducible refine (HAr.out w5' hb5.out A5 c5 hE5.out hc5.out).mono ?_); rintro e w6' ⟨A6, c6, rfl, ho6', hb6'⟩; have ho6 := hid ho6'; have hb6 := hid (hb5.out.trans (hb6'.mono hb5.out.size)); (try (have xb0 := (hb6'.cell (p := ⟨v19.heap.size, 0, none⟩) xal).trans xa0; have xb1 := (hb6'.cell (p := ⟨v19.heap.size, 1, none⟩) xal).trans xa1; have xb2 := (hb6'.cell (p := ⟨v19.heap.size, 2, none⟩) xal).trans xa2; have xbf := fun k => (hb6'.frozen (p := ⟨v19.heap.size, k, none⟩) xal).trans (xaf k))); (try (have xb0 := (hb6'.cell (p := ⟨v19.heap.size + 1, 0, none⟩) xal).trans xa0; have xb1 := (hb6'.cell (p := ⟨v19.heap.size + 1, 1, none⟩) xal).trans xa1; have xb2 := (hb6'.cell (p := ⟨v19.heap.size + 1, 2, none⟩) xal).trans xa2; have xbf := fun k => (hb6'.frozen (p := ⟨v19.heap.size + 1, k, none⟩) xal).trans (xaf k))); clear ho6' hb6')
            | (go_at_call 25; (with_reducible refine (HAr.out (w5'.alloc (.cells #[.int .i64 0, .int .i64 0, .slice none 0 0] 24)) (hb5.out.alloc hb5.out.size _) A5 c5 ((hE5.out.below ((Below.refl _ w5').alloc (Nat.le_refl _) _)).more (by simp)) hc5.out).mono ?_); rintro e w6' ⟨A6, c6, rfl, ho6', hb6'⟩; have ho6 := hid ho6'; have hb6 := hid ((hb5.out.alloc hb5.out.size _).trans (hb6'.mono (hb5.out.alloc hb5.out.size (.cells #[.int .i64 0, .int .i64 0, .slice none 0 0] 24)).size)); (have bx := box_facts hb6' w5'.heap.size (u0 := .int .i64 0) (u1 := .int .i64 0) (u2 := .slice none 0 0) (t := 24) (heapA _ _); obtain ⟨⟨xb0, xb1, xb2⟩, xbf, xbl⟩ := bx); clear ho6' hb6'))
        all_goals
          (first
            | (have HL0 := (leaf_set (n := 4) (b := w5'.heap.size) (u0 := .int .i64 4) (u1 := .int .i64 2) HB0.out hb6.out ho6.out hb5.out.size (by simp) xb0 xb1 xb2).holds
               generalize ((w6'.setCell ⟨w5'.heap.size, 0, none⟩ (.int .i64 4)).setCell ⟨w5'.heap.size, 1, none⟩ (.int .i64 2)).setCell ⟨w5'.heap.size, 2, none⟩ (.slice A6 4 c6) = W at HL0 ⊢)
            | (have HL0 := (leaf_set (n := 4) (b := v19.heap.size) (u0 := .int .i64 4) (u1 := .int .i64 2) HB0.out hb6.out ho6.out (Nat.le_refl _) xal xb0 xb1 xb2).holds
               generalize ((w6'.setCell ⟨v19.heap.size, 0, none⟩ (.int .i64 4)).setCell ⟨v19.heap.size, 1, none⟩ (.int .i64 2)).setCell ⟨v19.heap.size, 2, none⟩ (.slice A6 4 c6) = W at HL0 ⊢)
            | (have HL0 := (leaf_set (n := 4) (b := v19.heap.size + 1) (u0 := .int .i64 4) (u1 := .int .i64 2) HB0.out hb6.out ho6.out (Nat.le_succ _) xal xb0 xb1 xb2).holds
               generalize ((w6'.setCell ⟨v19.heap.size + 1, 0, none⟩ (.int .i64 4)).setCell ⟨v19.heap.size + 1, 1, none⟩ (.int .i64 2)).setCell ⟨v19.heap.size + 1, 2, none⟩ (.slice A6 4 c6) = W at HL0 ⊢)
            | (have HL0 := (leaf_alloc (n := 4) HB0.out hb6.out ho6.out (.int .i64 4) (.int .i64 2) 24).holds
               generalize w6'.alloc (.cells #[.int .i64 4, .int .i64 2, .slice A6 4 c6] 24) = W at HL0 ⊢))
        all_goals
          (have HLx := hid HL0
           clear HL0
           go_wp2_with fail
           go_meet
           exact ⟨rfl, hid ⟨HLx.out.2, _, rfl, HLx.out.1⟩⟩)
      case rest =>
      obtain ⟨rfl, HP⟩ := hcut
      obtain ⟨v20, hN20⟩ : ∃ v20, v20 = wc := ⟨_, rfl⟩
      rw [← hN20] at HP ⊢
      clear hN20
      have hN20 := hid (hN19.out.trans (HP.out.1.mono hN19.out.size))
      obtain ⟨b20, hp20, ho20⟩ := HP.out.2
      subst hp20
      have HO20 := hid ho20
      have HS20 := hid HP.out.1
      clear ho20 HP HTr HAr HKr HKs HB0

      go_upto_region 21 with fail
      have HCr : Hid (∀ w', Below v20.heap.size v20 w' → Calls Try.prog 27 #[.agg #[.int .i64 4, .int .i64 2, .slice A2 3 c2], .int .i64 6] w' fun e w'' => ∃ A' c', e = .returned (.tuple #[.agg #[.int .i64 6, .int .i64 3, .slice A' 1 c'], .int .i64 0]) ∧ OwnE w'' w'.heap.size w''.heap.size A' c' (lg3.es.drop (3 - 1)) ∧ Below w'.heap.size w' w'' ∧ Below v20.heap.size v20 w'') := hid (fun w' hb => (k_cut (HL5.out w' (hN20.out.trans (hb.mono hN20.out.size))) 6 6 3 1 0 (by decide)).mono fun e w'' ⟨A', c', h1, h2, h3⟩ => ⟨A', c', h1, h2, h3, hb.trans (h3.mono hb.size)⟩)
      have HKr : Hid (∀ w', Below v20.heap.size v20 w' → w'.cell? ⟨w2.heap.size, 0, none⟩ = some (.int .i64 4) ∧ w'.cell? ⟨w2.heap.size, 1, none⟩ = some (.int .i64 2) ∧ w'.cell? ⟨w2.heap.size, 2, none⟩ = some (.slice A2 3 c2)) := hid (fun w' hb => HK5.out w' (hN20.out.trans (hb.mono hN20.out.size)))
      have HB0 := hid (Below.refl v20.heap.size v20)
      go_cut [22, 23] from 176 to 180 (fun pp vv wx => vv = .int .i64 0 ∧ Hid (Below v20.heap.size v20 wx ∧ ∃ b, pp = .pointer (some ⟨b, 0, none⟩) ∧ ∃ A c, Leaf v20 wx b (.int .i64 6) (.int .i64 3) A 1 c (lg3.es.drop (3 - 1))))
      case first =>
        obtain ⟨x0, x1, x2⟩ := HKr.out v20 HB0.out
        go_wp2_with fail
        refine (HCr.out v20 HB0.out).mono ?_
        rintro e w6' ⟨A6, c6, rfl, ho6', hb6', hb6''⟩
        have HLx := hid (leaf_alloc (n := 1) HB0.out hb6'' ho6' (.int .i64 6) (.int .i64 3) 24)
        clear ho6' hb6' hb6'' x0 x1 x2
        go_wp2_with fail
        go_meet
        exact ⟨rfl, hid ⟨HLx.out.2.2.1, _, rfl, _, _, HLx.out⟩⟩
      case rest =>
      obtain ⟨rfl, HP⟩ := hcut
      obtain ⟨v21, hN21⟩ : ∃ v21, v21 = wc := ⟨_, rfl⟩
      rw [← hN21] at HP ⊢
      clear hN21
      have hN21 := hid (hN20.out.trans (HP.out.1.mono hN20.out.size))
      obtain ⟨b21, hp21, A21, c21, ho21⟩ := HP.out.2
      subst hp21
      have HO21 := hid ho21
      have HS21 := hid HP.out.1
      clear ho21 HP HCr HKr HB0
      go_upto_region 22 with fail
      have HCr : Hid (∀ w', Below v21.heap.size v21 w' → Calls Try.prog 27 #[.agg #[.int .i64 4, .int .i64 2, .slice A2 3 c2], .int .i64 8] w' fun e w'' => ∃ A' c', e = .returned (.tuple #[.agg #[.int .i64 0, .int .i64 0, .slice A' 0 c'], .int .i64 3]) ∧ OwnE w'' w'.heap.size w''.heap.size A' c' (lg3.es.drop (3 - 0)) ∧ Below w'.heap.size w' w'' ∧ Below v21.heap.size v21 w'') := hid (fun w' hb => (k_cut (HL5.out w' (hN21.out.trans (hb.mono hN21.out.size))) 8 0 0 0 3 (by decide)).mono fun e w'' ⟨A', c', h1, h2, h3⟩ => ⟨A', c', h1, h2, h3, hb.trans (h3.mono hb.size)⟩)
      have HKr : Hid (∀ w', Below v21.heap.size v21 w' → w'.cell? ⟨w2.heap.size, 0, none⟩ = some (.int .i64 4) ∧ w'.cell? ⟨w2.heap.size, 1, none⟩ = some (.int .i64 2) ∧ w'.cell? ⟨w2.heap.size, 2, none⟩ = some (.slice A2 3 c2)) := hid (fun w' hb => HK5.out w' (hN21.out.trans (hb.mono hN21.out.size)))
      have HB0 := hid (Below.refl v21.heap.size v21)
      go_cut [24, 25] from 181 to 185 (fun pp vv wx => vv = .int .i64 3 ∧ Hid (Below v21.heap.size v21 wx ∧ ∃ b, pp = .pointer (some ⟨b, 0, none⟩) ∧ ∃ A c, Leaf v21 wx b (.int .i64 0) (.int .i64 0) A 0 c (lg3.es.drop (3 - 0))))
      case first =>
        obtain ⟨x0, x1, x2⟩ := HKr.out v21 HB0.out
        go_wp2_with fail
        refine (HCr.out v21 HB0.out).mono ?_
        rintro e w6' ⟨A6, c6, rfl, ho6', hb6', hb6''⟩
        have HLx := hid (leaf_alloc (n := 0) HB0.out hb6'' ho6' (.int .i64 0) (.int .i64 0) 24)
        clear ho6' hb6' hb6'' x0 x1 x2
        go_wp2_with fail
        go_meet
        exact ⟨rfl, hid ⟨HLx.out.2.2.1, _, rfl, _, _, HLx.out⟩⟩
      case rest =>
      obtain ⟨rfl, HP⟩ := hcut
      obtain ⟨v22, hN22⟩ : ∃ v22, v22 = wc := ⟨_, rfl⟩
      rw [← hN22] at HP ⊢
      clear hN22
      have hN22 := hid (hN21.out.trans (HP.out.1.mono hN21.out.size))
      obtain ⟨b22, hp22, A22, c22, ho22⟩ := HP.out.2
      subst hp22
      have HO22 := hid ho22
      have HS22 := hid HP.out.1
      clear ho22 HP HCr HKr HB0
      go_upto_region 23 with fail
      have HCr : Hid (∀ w', Below v22.heap.size v22 w' → Calls Try.prog 27 #[.agg #[.int .i64 4, .int .i64 2, .slice A2 3 c2], .int .i64 4] w' fun e w'' => ∃ A' c', e = .returned (.tuple #[.agg #[.int .i64 4, .int .i64 2, .slice A' 3 c'], .int .i64 0]) ∧ OwnE w'' w'.heap.size w''.heap.size A' c' (lg3.es.drop (3 - 3)) ∧ Below w'.heap.size w' w'' ∧ Below v22.heap.size v22 w'') := hid (fun w' hb => (k_cut (HL5.out w' (hN22.out.trans (hb.mono hN22.out.size))) 4 4 2 3 0 (by decide)).mono fun e w'' ⟨A', c', h1, h2, h3⟩ => ⟨A', c', h1, h2, h3, hb.trans (h3.mono hb.size)⟩)
      have HKr : Hid (∀ w', Below v22.heap.size v22 w' → w'.cell? ⟨w2.heap.size, 0, none⟩ = some (.int .i64 4) ∧ w'.cell? ⟨w2.heap.size, 1, none⟩ = some (.int .i64 2) ∧ w'.cell? ⟨w2.heap.size, 2, none⟩ = some (.slice A2 3 c2)) := hid (fun w' hb => HK5.out w' (hN22.out.trans (hb.mono hN22.out.size)))
      have HB0 := hid (Below.refl v22.heap.size v22)
      go_cut [26, 27] from 186 to 190 (fun pp vv wx => vv = .int .i64 0 ∧ Hid (Below v22.heap.size v22 wx ∧ ∃ b, pp = .pointer (some ⟨b, 0, none⟩) ∧ ∃ A c, Leaf v22 wx b (.int .i64 4) (.int .i64 2) A 3 c (lg3.es.drop (3 - 3))))
      case first =>
        obtain ⟨x0, x1, x2⟩ := HKr.out v22 HB0.out
        go_wp2_with fail
        refine (HCr.out v22 HB0.out).mono ?_
        rintro e w6' ⟨A6, c6, rfl, ho6', hb6', hb6''⟩
        have HLx := hid (leaf_alloc (n := 3) HB0.out hb6'' ho6' (.int .i64 4) (.int .i64 2) 24)
        clear ho6' hb6' hb6'' x0 x1 x2
        go_wp2_with fail
        go_meet
        exact ⟨rfl, hid ⟨HLx.out.2.2.1, _, rfl, _, _, HLx.out⟩⟩
      case rest =>
      obtain ⟨rfl, HP⟩ := hcut
      obtain ⟨v23, hN23⟩ : ∃ v23, v23 = wc := ⟨_, rfl⟩
      rw [← hN23] at HP ⊢
      clear hN23
      have hN23 := hid (hN22.out.trans (HP.out.1.mono hN22.out.size))
      obtain ⟨b23, hp23, A23, c23, ho23⟩ := HP.out.2
      subst hp23
      have HO23 := hid ho23
      have HS23 := hid HP.out.1
      clear ho23 HP HCr HKr HB0
      go_upto_region 24 with fail
      have q21 := hid (HS22.out.trans (HS23.out.mono HS22.out.size))
      have q20 := hid (HS21.out.trans (q21.out.mono HS21.out.size))
      have q19 := hid (HS20.out.trans (q20.out.mono HS20.out.size))
      have q18 := hid (HS19.out.trans (q19.out.mono HS19.out.size))
      have q17 := hid (HS18.out.trans (q18.out.mono HS18.out.size))
      obtain ⟨l17, A17, c17, d17⟩ := HO17.out.below q17.out
      obtain ⟨l20, A20, c20, d20⟩ := HO20.out.below q20.out
      have HF : Hid (∀ w', Below v23.heap.size v23 w' → (w'.cell? ⟨w2.heap.size, 0, none⟩ = some (.int .i64 4) ∧ w'.cell? ⟨w2.heap.size, 1, none⟩ = some (.int .i64 2) ∧ w'.cell? ⟨w2.heap.size, 2, none⟩ = some (.slice A2 3 c2)) ∧ (w'.cell? ⟨b21, 0, none⟩ = some (.int .i64 6) ∧ w'.cell? ⟨b21, 1, none⟩ = some (.int .i64 3) ∧ w'.cell? ⟨b21, 2, none⟩ = some (.slice A21 1 c21)) ∧ (w'.cell? ⟨b23, 0, none⟩ = some (.int .i64 4) ∧ w'.cell? ⟨b23, 1, none⟩ = some (.int .i64 2) ∧ w'.cell? ⟨b23, 2, none⟩ = some (.slice A23 3 c23)) ∧ w'.cell? ⟨b17, 2, none⟩ = some (.slice A17 3 c17) ∧ w'.cell? ⟨b20, 2, none⟩ = some (.slice A20 4 c20)) := hid (fun w' hb =>
        ⟨HK5.out w' (hN23.out.trans (hb.mono hN23.out.size)), leaf_cells HO21.out (q21.out.trans (hb.mono q21.out.size)), leaf_cells HO23.out hb, (hb.cell (p := ⟨b17, 2, none⟩) l17).trans d17, (hb.cell (p := ⟨b20, 2, none⟩) l20).trans d20⟩)
      have HSM := hid (fun w' (hb : Below v23.heap.size v23 w') => k_same HO23.out w' hb (HL5.out w' (hN23.out.trans (hb.mono hN23.out.size))))
      clear l17 d17 l20 d20
      have hB := hid (Below.refl v23.heap.size v23)
      obtain ⟨⟨x0, x1, x2⟩, ⟨y0, y1, y2⟩, ⟨z0, z1, z2⟩, e0, m0⟩ := HF.out v23 hB.out
      go_wp2_with fail
      refine (HSM.out v23 hB.out).mono ?_
      rintro e w24 ⟨rfl, hb24⟩
      have H24 := hid (hB.out.trans (hb24.mono hB.out.size))
      clear hb24 x0 x1 x2 y0 y1 y2 z0 z1 z2 e0 m0
      go_wp2_with fail
      refine (known_any w24).mono ?_
      rintro e w25 ⟨rfl, hb25⟩
      have H25 := hid (H24.out.trans (hb25.mono H24.out.size))
      clear hb25
      go_wp2_with fail
      go_ret
      exact ⟨rfl, HBW.out.trans ((h5.out.trans ((hN23.out.trans (H25.out.mono hN23.out.size)).mono h5.out.size)).mono HBW.out.size)⟩

set_option maxRecDepth 100000 in
theorem lifted (os : Os) (started : os.Started) (H : Type) (enc : TypeId × Value → H) :
    ReturnsInHanded {} Try.checked os 8 .any (Rows.rlogKnownSpec.pre6 enc Try.prog Try.f8 Rows.rlogKnownRow.domain false) (Rows.rlogKnownSpec.post enc Try.prog Try.f8 false true false false) := by
  refine returnsInHanded_of_change_sized (C := Try.checked) own started (by kernel_rfl) Try.func8
    (ChangeSpec.witness6 (enc := enc) (C := Try.checked) false ⟨#[], #[], []⟩ 8 (by kernel_rfl) (by kernel_rfl) (by kernel_rfl) (by kernel_rfl)) ?_
  intro W base args ds gs before hval0 hW hcnd hsz0 _
  have hsz : (DataW.weightsEach Try.prog (Try.f8.params.toList ++ Rows.rlogKnownSpec.plain.varTypes Try.prog) (ds ++ gs)).all (· ≤ reachBytes) = true := hsz0
  clear hsz0
  have hval : ∀ (j : Nat) t v, Try.f8.params[j]? = some t → args[j]? = some v → Value.okWide Try.prog W .any base t v := hval0
  have hW' := hW
  obtain ⟨p, q, hA0, hV, rfl, hfz, hnd⟩ := hW
  have hA : DataW.TrodAll enc Try.prog W 0 (fun _ => true) true Try.f8.params.toList args.toList ds p := hA0
  rw [Try.params8] at hA hval hsz
  obtain ⟨rfl, rfl, rfl⟩ := trodAll_none hA
  obtain ⟨rfl, rfl⟩ := trodVars_none hV
  clear hA0 hval0
  refine (walk  W ).mono fun e W' ⟨he, bel⟩ => ?_
  subst he
  exact ⟨_, rfl, _, _, _, [], _, [], hW', trodAll_mk1 (shut_bool Try.underlying4 _), trodAll_mk0, rfl, bel.frame _, fun h => by cases h⟩

theorem over : Rows.rlogKnownRow.holds Try.pinned (OpenSpec.ofChange Rows.rlogKnownSpec) :=
  OpenClaim.holds_of_wide 8 Try.f8 rfl rfl rfl rfl rfl rfl rfl ⟨rfl, rfl, rfl, rfl, rfl⟩ rfl rfl rfl rfl rfl (by kernel_rfl) Try.func8 (by kernel_rfl)
    (of_decide_eq_true (by kernel_rfl)) (by unfold Func.isWrapper; first | (rw [if_pos (by decide +kernel)]; kernel_rfl) | (rw [if_neg (by decide +kernel)]; exact ⟨rfl, rfl⟩))
    (fun os started H enc _ => lifted os started H enc)

theorem proved : Rows.RlogKnownSaid := over
end Go.Proofs.Ythocdknfkmclkaa.rlogKnown
