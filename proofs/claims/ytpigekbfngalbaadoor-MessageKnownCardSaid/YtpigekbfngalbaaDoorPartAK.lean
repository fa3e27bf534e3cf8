/- Texts of the proof, one behind the other: RefRd, RefReader2, RefRdInt, RefReader, RefReader3, RefRdNew, MsRefG, MsKnA. -/
import Derived.Test.YtpigekbfngalbaaDoorPartAF
import Derived.Test.YtpigekbfngalbaaDoorPartAJ
import Derived.IntWalk
import Derived.StillTailTactics
namespace Go.Proofs.YtpigekbfngalbaaDoor
open Go.RowKit
set_option maxRecDepth 100000

/-- what is left of bytes, read up to a place -/
def leftOf (B : List Nat) (at' : Nat) (bad : Bool) : List Nat := if bad = true then [] else B.drop at'
/-- the document's reader at block g: its bytes lie behind it, ahead of top -/
structure RefR (w : World) (g top : Nat) (B : List Nat) (at' : Nat) (bad : Bool) : Prop where
  at_ : ∃ A c, w.heap[g]? = some (.cells #[.slice A B.length c, .int .i64 (at' : Int), .bool bad] 70 (0, 0)) ∧ OwnsB 5 w (g + 1) A c B ∧ (∀ k, blk A = some k → k < top)
  le : at' ≤ B.length
  short : B.length ≤ 1000000
  top_ : g < top ∧ top ≤ w.heap.size

namespace RefR
variable {w w' : World} {g top : Nat} {B : List Nat} {at' : Nat} {bad : Bool}
theorem other {row : Option Nat} (h : RefR w g top B at' bad) (hG : w.grownBy w' row) (hr : ∀ k, row = some k → k < g ∨ top ≤ k) : RefR w' g top B at' bad := by
  obtain ⟨A, c, h1, h2, h3⟩ := h.at_
  refine ⟨⟨A, c, ?_, ⟨h2.small, h2.row.kept hG ?_⟩, h3⟩, h.le, h.short, h.top_.1, Nat.le_trans h.top_.2 hG.size⟩
  · rw [hG.block g (by have := h.top_; omega) (fun e => by have := hr g e.symm; have := h.top_; omega)]
    exact h1
  · rw [ownBlock_slice]
    rcases hb : blk A with _ | k
    · exact .inl rfl
    · refine .inr (fun e => ?_)
      have h4 := hr k e.symm
      have h5 := h3 k hb
      have h6 := h2.blkLt k hb
      omega
theorem below (h : RefR w g top B at' bad) (hb : Below w.heap.size w w') : RefR w' g top B at' bad := h.other (grown_below hb none) (fun k e => by cases e)
theorem belowB {b0 : Nat} (h : RefR w g top B at' bad) (hb : Below b0 w w') (h0 : top ≤ b0) : RefR w' g top B at' bad := by
  obtain ⟨A, c, h1, h2, h3⟩ := h.at_
  refine ⟨⟨A, c, (hb.block g (by have := h.top_; omega)).trans h1, ⟨h2.small, h2.row.1, ?_⟩, h3⟩, h.le, h.short, h.top_.1, Nat.le_trans h.top_.2 hb.size⟩
  rcases h2.row.2 with hn | ⟨g', cap, cur, hv, hb', hh, rest⟩
  · exact .inl hn
  · refine .inr ⟨g', cap, cur, hv, hb', (hb.block g' ?_).trans hh, rest⟩
    have : blk A = some g' := by
      injection hv with hv
      rw [hv]; rfl
    have := h3 g' this
    omega
theorem drewN (h : RefR w g top B at' bad) (n : Nat) : RefR (w.drewN n) g top B at' bad := h.below (below_drewN (Below.refl _ _) n)
theorem cells (h : RefR w g top B at' bad) : ∃ A c, w.cell? ⟨g, 0, none⟩ = some (.slice A B.length c) ∧ w.cell? ⟨g, 1, none⟩ = some (.int .i64 (at' : Int)) ∧ w.cell? ⟨g, 2, none⟩ = some (.bool bad) ∧ IsBytes w top A B ∧ B.length ≤ c := by
  obtain ⟨A, c, h1, h2, h3⟩ := h.at_
  exact ⟨A, c, row_cell h1 0, row_cell h1 1, row_cell h1 2, h2.readsB h3, h2.cap⟩
theorem free (h : RefR w g top B at' bad) (i : Nat) : w.frozen? ⟨g, i, none⟩ = false := by
  obtain ⟨A, c, h1, h2, h3⟩ := h.at_
  exact row_free h1 i
theorem setBad (h : RefR w g top B at' bad) (b : Bool) : RefR (w.setCell ⟨g, 2, none⟩ (.bool b)) g top B at' b ∧ w.grownBy (w.setCell ⟨g, 2, none⟩ (.bool b)) (some g) := by
  obtain ⟨A, c, h1, h2, h3⟩ := h.at_
  have hG := grown_setCell w g 2 (.bool b)
  exact ⟨⟨⟨A, c, row_set h1 2 _, h2.grown hG (fun k hk => by injection hk with hk; omega), h3⟩, h.le, h.short, h.top_.1, Nat.le_trans h.top_.2 hG.size⟩, hG⟩
theorem setAt (h : RefR w g top B at' bad) (a2 : Nat) (ha : a2 ≤ B.length) : RefR (w.setCell ⟨g, 1, none⟩ (.int .i64 (a2 : Int))) g top B a2 bad ∧ w.grownBy (w.setCell ⟨g, 1, none⟩ (.int .i64 (a2 : Int))) (some g) := by
  obtain ⟨A, c, h1, h2, h3⟩ := h.at_
  have hG := grown_setCell w g 1 (.int .i64 (a2 : Int))
  exact ⟨⟨⟨A, c, row_set h1 1 _, h2.grown hG (fun k hk => by injection hk with hk; omega), h3⟩, ha, h.short, h.top_.1, Nat.le_trans h.top_.2 hG.size⟩, hG⟩
end RefR

set_option maxRecDepth 100000 in
set_option maxHeartbeats 400000 in
theorem refLeft_any (g top : Nat) (B : List Nat) (at' : Nat) (bad : Bool) (w : World) (h : RefR w g top B at' bad) :
    Calls Tryd.prog 78 #[.pointer (some ⟨g, 0, none⟩)] w fun e w' => e = .returned (.int .i64 ((leftOf B at' bad).length : Nat)) ∧ ∃ n, w' = w.drewN n := by
  obtain ⟨A, c, hc0, hc1, hc2, _, hc⟩ := h.cells
  have hle := h.le
  have hsh := h.short
  clear h
  cases bad
  · go_enter Tryd.func78, Tryd.ntmps78
    go_wp2
    go_quiet (fail)
    go_wp2
    go_ret
    exact ⟨ret_int (by simp [leftOf]; omega), _, rfl⟩
  · go_enter Tryd.func78, Tryd.ntmps78
    go_wp2
    go_ret
    exact ⟨ret_int (by simp [leftOf]), 0, rfl⟩

end Go.Proofs.YtpigekbfngalbaaDoor
namespace Go.Proofs.YtpigekbfngalbaaDoor
open Go.RowKit
set_option maxRecDepth 100000

theorem u64_wrap' (v : Int) : IntKind.u64.wrap v = v % 18446744073709551616 := by simp [IntKind.wrap, IntKind.signed, IntKind.bits]
theorem leftOf_get (B : List Nat) (at' k : Nat) (h : at' + k < B.length) : (B.drop at').take (k + 1) = (B.drop at').take k ++ [B[at' + k]] := by
  rw [List.take_succ_eq_append_getElem (by rw [List.length_drop]; omega), List.getElem_drop]

set_option maxRecDepth 100000 in
set_option maxHeartbeats 800000 in
theorem refRInt_short (g top : Nat) (B : List Nat) (at' : Nat) (bad : Bool) (w : World) (h : RefR w g top B at' bad) (hl : (leftOf B at' bad).length < 8) :
    Calls Tryd.prog 53 #[.pointer (some ⟨g, 0, none⟩)] w fun e w' => e = .returned (.int .i64 0) ∧ RefR w' g top B at' true ∧ w.grownBy w' (some g) := by
  have HL := hid (refLeft_any g top B at' bad w h)
  have HE := hid hl
  have H := hid h
  obtain ⟨A, c, hc0, hc1, hc2, _, hc⟩ := h.cells
  have hf2 := h.free 2
  clear h
  go_enter Tryd.func53, Tryd.ntmps53
  go_wp2_with fail
  refine HL.out.mono ?_
  rintro e w1 ⟨rfl, n, rfl⟩
  have HB := hid ((H.out.drewN n).setBad true)
  go_wp2_with fail
  go_ret
  exact ⟨rfl, HB.out.1, (grown_drewN (grown_refl _ _) n).trans HB.out.2⟩

set_option maxRecDepth 100000 in
set_option maxHeartbeats 1600000 in
theorem refRInt_long (g top : Nat) (B : List Nat) (at' : Nat) (w : World) (h : RefR w g top B at' false) (hl : at' + 8 ≤ B.length) :
    Calls Tryd.prog 53 #[.pointer (some ⟨g, 0, none⟩)] w fun e w' => e = .returned (.int .i64 (Pk.sgn (Pk.num ((B.drop at').take 8)))) ∧ RefR w' g top B (at' + 8) false ∧ w.grownBy w' (some g) := by
  have HL := hid (refLeft_any g top B at' false w h)
  have hll : (leftOf B at' false).length = B.length - at' := by simp [leftOf]
  rw [hll] at HL
  have H := hid h
  have hle := h.le
  have hsh := h.short
  clear h hll
  go_enter Tryd.func53, Tryd.ntmps53
  go_wp2_with fail
  refine HL.out.mono ?_
  rintro e w1 ⟨rfl, n1, rfl⟩
  go_wp2_with fail
  go_loopw [3, 4] (fun v i wr => ∃ k n m : Nat, k ≤ 8 ∧ i = .int .i64 k ∧ v = .int .u64 (n : Int) ∧ wr = w.drewN m ∧ Hid (n = Pk.num ((B.drop at').take k))) (fun _ i _ => 8 - (RowKit.intOf i).toNat)
  case atStart => exact ⟨0, 0, n1, by omega, rfl, rfl, rfl, hid rfl⟩
  case round =>
    obtain ⟨k, n, m, hk, rfl, rfl, rfl, hs⟩ := hrel
    by_cases hlt : k < 8
    · obtain ⟨A, c, hc0, hc1, hc2, hb, hc⟩ := H.out.cells
      obtain ⟨b, off, rfl, _, hcell⟩ := hb.cells (at' + k) (by omega)
      have hck := hcell (at' + k) (by omega)
      have hb8 := hb.small B[at' + k] (List.getElem_mem _)
      have hn7 : n < 72057594037927936 := by
        rw [hs.out]
        have h1 := Pk.num_lt ((B.drop at').take k) (fun x hx => hb.small x (List.mem_of_mem_drop (List.mem_of_mem_take hx)))
        have h2 : ((B.drop at').take k).length ≤ 7 := by rw [List.length_take]; omega
        have h3 : 256 ^ ((B.drop at').take k).length ≤ 256 ^ 7 := Nat.pow_le_pow_right (by decide) h2
        have h4 : 256 ^ 7 = 72057594037927936 := by decide
        omega
      have hkl : at' + k < B.length := by omega
      have e1 : IntKind.i64.wrap ((at' : Int) + (k : Int)) = (at' : Int) + (k : Int) := IntWalk.i64_in _ (by omega)
      have e2 : IntKind.u64.wrap ((n : Int) * 256) = (n : Int) * 256 := by rw [u64_wrap']; omega
      have e3 : IntKind.u64.wrap ((n : Int) * 256 + (B[at' + k] : Int)) = (n : Int) * 256 + (B[at' + k] : Int) := by rw [u64_wrap']; omega
      have e4 : ((at' : Int) + (k : Int)).toNat = at' + k := by omega
      have e5 : 0 ≤ (at' : Int) + (k : Int) := by omega
      clear hcell hb
      go_wp2
      go_quiet (fail)
      clear e1 e2 e3 e4 e5
      go_wp2
      go_roundw
      case rel => exact ⟨k + 1, n * 256 + B[at' + k], _, by omega, by go_num, by go_num, rfl, by
        show _ = _
        rw [leftOf_get B at' k hkl, Pk.num_snoc, ← hs.out]⟩
      case measure => simp [RowKit.intOf] <;> omega
    · obtain rfl : k = 8 := by omega
      have hw := H.out.drewN m
      obtain ⟨A, c, hc0, hc1, hc2, hb, hc⟩ := hw.cells
      have hf1 := hw.free 1
      have HA : Hid (RefR ((w.drewN m).setCell ⟨g, 1, none⟩ (.int .i64 ((at' : Int) + 8))) g top B (at' + 8) false ∧ (w.drewN m).grownBy ((w.drewN m).setCell ⟨g, 1, none⟩ (.int .i64 ((at' : Int) + 8))) (some g)) := hw.setAt (at' + 8) hl
      have hn : n < 18446744073709551616 := by
        rw [hs.out]
        exact Pk.take_num_lt _ (fun x hx => hb.small x (List.mem_of_mem_drop hx))
      have hv : wrap64 (n : Int) = Pk.sgn (Pk.num ((B.drop at').take 8)) := by rw [wrap64_sgn n hn, hs.out]
      have HV := hid hv
      clear hw hb hn hv
      go_wp2
      go_ret
      exact ⟨ret_int HV.out, HA.out.1, (grown_drewN (grown_refl _ _) m).trans HA.out.2⟩
end Go.Proofs.YtpigekbfngalbaaDoor
namespace Go.Proofs.YtpigekbfngalbaaDoor
open Go.RowKit
set_option maxRecDepth 100000

/-- the document's reader as a reader -/
def stOf (B : List Nat) (at' : Nat) (bad : Bool) : Pk.St := ⟨leftOf B at' bad, bad⟩

theorem stOf_short (B : List Nat) (at' : Nat) (bad : Bool) (hl : (leftOf B at' bad).length < 8) : Pk.rdInt (stOf B at' bad) = (0, Pk.gone) := by
  unfold Pk.rdInt stOf; rw [if_pos hl]
theorem stOf_long (B : List Nat) (at' : Nat) (hl : at' + 8 ≤ B.length) : Pk.rdInt (stOf B at' false) = (Pk.sgn (Pk.num ((B.drop at').take 8)), stOf B (at' + 8) false) := by
  unfold Pk.rdInt stOf leftOf
  rw [if_neg (by simp; omega)]
  simp
theorem stOf_cases (B : List Nat) (at' : Nat) (bad : Bool) : (leftOf B at' bad).length < 8 ∨ (bad = false ∧ at' + 8 ≤ B.length) := by
  cases bad
  · by_cases h : at' + 8 ≤ B.length
    · exact .inr ⟨rfl, h⟩
    · left; simp [leftOf]; omega
  · left; simp [leftOf]
theorem stOf_bad (B : List Nat) (at' : Nat) : stOf B at' true = Pk.gone := rfl

set_option maxRecDepth 100000 in
set_option maxHeartbeats 400000 in
theorem refRInt_any (g top : Nat) (B : List Nat) (at' : Nat) (bad : Bool) (w : World) (h : RefR w g top B at' bad) :
    Calls Tryd.prog 53 #[.pointer (some ⟨g, 0, none⟩)] w fun e w' => ∃ a2 b2, e = .returned (.int .i64 (Pk.rdInt (stOf B at' bad)).1) ∧ RefR w' g top B a2 b2 ∧ stOf B a2 b2 = (Pk.rdInt (stOf B at' bad)).2 ∧ w.grownBy w' (some g) := by
  rcases stOf_cases B at' bad with hl | ⟨rfl, hl⟩
  · refine (refRInt_short g top B at' bad w h hl).mono fun e w' ⟨he, hR, hG⟩ => ⟨at', true, ?_, hR, ?_, hG⟩
    · rw [stOf_short B at' bad hl]; exact he
    · rw [stOf_short B at' bad hl]; rfl
  · refine (refRInt_long g top B at' w h hl).mono fun e w' ⟨he, hR, hG⟩ => ⟨at' + 8, false, ?_, hR, ?_, hG⟩
    · rw [stOf_long B at' hl]; exact he
    · rw [stOf_long B at' hl]

end Go.Proofs.YtpigekbfngalbaaDoor
namespace Go.Proofs.YtpigekbfngalbaaDoor
open Go.RowKit

set_option maxHeartbeats 400000 in
theorem refEnd_any (g top : Nat) (B : List Nat) (at' : Nat) (bad : Bool) (w : World) (h : RefR w g top B at' bad) :
    Calls Tryd.prog 81 #[.pointer (some ⟨g, 0, none⟩)] w fun e w' => e = .returned (.int .i64 (endOf ⟨leftOf B at' bad, bad⟩)) ∧ ∃ n, w' = w.drewN n := by
  obtain ⟨A, c, hc0, hc1, hc2, _, hc⟩ := h.cells
  have HL := hid (refLeft_any g top B at' bad w h)
  clear h
  cases bad
  · by_cases hl : 0 < (leftOf B at' false).length
    · have HE := hid hl
      go_enter Tryd.func81, Tryd.ntmps81
      go_wp2_with fail
      refine HL.out.mono ?_
      rintro e w1 ⟨rfl, n, rfl⟩
      go_wp2_with fail
      go_ret
      exact ⟨ret_int (by simp [endOf, HE.out]), n, rfl⟩
    · have hl' : (leftOf B at' false).length = 0 := by omega
      have HE := hid hl'
      clear hl'
      go_enter Tryd.func81, Tryd.ntmps81
      go_wp2_with fail
      refine HL.out.mono ?_
      rintro e w1 ⟨rfl, n, rfl⟩
      go_wp2_with fail
      go_ret
      exact ⟨ret_int (by simp [endOf, HE.out]), n, rfl⟩
  · go_enter Tryd.func81, Tryd.ntmps81
    go_wp2_with fail
    go_ret
    exact ⟨ret_int (by simp [endOf]), 0, rfl⟩
end Go.Proofs.YtpigekbfngalbaaDoor
namespace Go.Proofs.YtpigekbfngalbaaDoor
open Go.RowKit

theorem drop_take_snoc (B : List Nat) (p k : Nat) (h : p + k < B.length) : (B.drop p).take k ++ [B[p + k]] = (B.drop p).take (k + 1) := (leftOf_get B p k h).symm

set_option maxRecDepth 100000 in
set_option maxHeartbeats 1600000 in
theorem refRBlob_any (g top : Nat) (B : List Nat) (at' : Nat) (bad : Bool) (w : World) (h : RefR w g top B at' bad) :
    Calls Tryd.prog 79 #[.pointer (some ⟨g, 0, none⟩)] w fun e w' => ∃ a2 b2 A' c', e = .returned (.slice A' (Pk.rdBlob (stOf B at' bad)).1.length c') ∧ OwnsB 5 w' w.heap.size A' c' (Pk.rdBlob (stOf B at' bad)).1 ∧
      RefR w' g top B a2 b2 ∧ stOf B a2 b2 = (Pk.rdBlob (stOf B at' bad)).2 ∧ w.grownBy w' (some g) := by
  obtain ⟨i0, hi, hz0, hz1, hz2⟩ := info_parts info_u8
  have hgt := h.top_
  rcases stOf_cases B at' bad with hl | ⟨rfl, hl⟩
  · have HE : Hid (Pk.rdBlob (stOf B at' bad) = ([], Pk.gone)) := by
      show _ = _
      unfold Pk.rdBlob; rw [stOf_short B at' bad hl]; rfl
    have HI := hid (refRInt_short g top B at' bad w h hl)
    clear h hl
    go_enter Tryd.func79, Tryd.ntmps79
    go_wp2_with fail
    refine HI.out.mono ?_
    rintro e w1 ⟨rfl, hR, hG⟩
    obtain ⟨A, c, hc0, hc1, hc2, _, hc⟩ := hR.cells
    have hf2 := hR.free 2
    have HB := hid (hR.setBad true)
    clear hR
    go_wp2_with fail
    go_ret
    rw [HE.out]
    exact ⟨at', true, none, 0, rfl, OwnsB.nil _ _ _, HB.out.1, rfl, hG.trans HB.out.2⟩
  · have HI := hid (refRInt_long g top B at' w h hl)
    have HBL : Hid (Pk.rdInt (stOf B at' false) = (Pk.sgn (Pk.num ((B.drop at').take 8)), stOf B (at' + 8) false)) := stOf_long B at' hl
    have hsm := h.cells
    obtain ⟨_, _, _, _, _, hbs, _⟩ := hsm
    have hvin := Pk.sgn_in _ (Pk.take_num_lt (B.drop at') (fun x hx => hbs.small x (List.mem_of_mem_drop hx)))
    have hsmall := hbs.small
    have HSM := hid hsmall
    have hsh := h.short
    clear h hbs hsmall
    obtain ⟨v, hv⟩ : ∃ v, v = Pk.sgn (Pk.num ((B.drop at').take 8)) := ⟨_, rfl⟩
    rw [← hv] at HI HBL hvin
    clear hv
    have hv1 := hvin.1
    have hv2 := hvin.2
    have hll : (leftOf B (at' + 8) false).length = B.length - (at' + 8) := by simp [leftOf]
    have HLL := hid hll
    clear hvin hll
    by_cases hneg : v < 0
    · have HE : Hid (Pk.rdBlob (stOf B at' false) = ([], Pk.gone)) := by
        show _ = _
        unfold Pk.rdBlob; rw [HBL.out, if_pos (Or.inr (Or.inl hneg))]
      go_enter Tryd.func79, Tryd.ntmps79
      go_wp2_with fail
      refine HI.out.mono ?_
      rintro e w1 ⟨rfl, hR, hG⟩
      obtain ⟨A, c, hc0, hc1, hc2, _, hc⟩ := hR.cells
      have hf2 := hR.free 2
      have HB := hid (hR.setBad true)
      clear hR
      go_wp2_with fail
      go_ret
      rw [HE.out]
      exact ⟨_, true, none, 0, rfl, OwnsB.nil _ _ _, HB.out.1, rfl, hG.trans HB.out.2⟩
    · obtain ⟨m, rfl⟩ : ∃ m : Nat, v = (m : Int) := ⟨v.toNat, by omega⟩
      by_cases hbig : B.length - (at' + 8) < m
      · have HE : Hid (Pk.rdBlob (stOf B at' false) = ([], Pk.gone)) := by
          show _ = _
          unfold Pk.rdBlob; rw [HBL.out, if_pos (Or.inr (Or.inr (by show (((leftOf B (at' + 8) false).length : Nat) : Int) < _; rw [HLL.out]; omega)))]
        go_enter Tryd.func79, Tryd.ntmps79
        go_wp2_with fail
        refine HI.out.mono ?_
        rintro e w1 ⟨rfl, hR, hG⟩
        obtain ⟨A, c, hc0, hc1, hc2, _, hc⟩ := hR.cells
        have HL := hid (refLeft_any g top B (at' + 8) false w1 hR)
        have HR := hid hR
        clear hR
        go_wp2_with fail
        refine HL.out.mono ?_
        rintro e w2 ⟨rfl, n, rfl⟩
        rw [HLL.out]
        have hf2 := (HR.out.drewN n).free 2
        have HB := hid ((HR.out.drewN n).setBad true)
        go_wp2_with fail
        go_ret
        rw [HE.out]
        exact ⟨_, true, none, 0, rfl, OwnsB.nil _ _ _, HB.out.1, rfl, (grown_drewN hG n).trans HB.out.2⟩
      · have HE : Hid (Pk.rdBlob (stOf B at' false) = ((B.drop (at' + 8)).take m, stOf B (at' + 8 + m) false)) := by
          show _ = _
          unfold Pk.rdBlob; rw [HBL.out, if_neg (by
            rintro (h | h | h)
            · simp [stOf] at h
            · omega
            · have h2 : (((leftOf B (at' + 8) false).length : Nat) : Int) < (m : Int) := h
              rw [HLL.out] at h2; omega)]
          simp [stOf, leftOf]
        go_enter Tryd.func79, Tryd.ntmps79
        go_wp2_with fail
        refine HI.out.mono ?_
        rintro e w1 ⟨rfl, hR, hG⟩
        obtain ⟨A, c, hc0, hc1, hc2, _, hc⟩ := hR.cells
        have HL := hid (refLeft_any g top B (at' + 8) false w1 hR)
        have HR := hid hR
        have hsz1 := hG.size
        have HG := hid hG
        clear hR hG
        go_wp2_with fail
        refine HL.out.mono ?_
        rintro e w2 ⟨rfl, n, rfl⟩
        rw [HLL.out]
        go_wp2_with fail
        go_loopw [4, 5] (fun b i wr => ∃ k : Nat, ∃ A5 : Option Addr, ∃ c5 : Nat, k ≤ m ∧ i = .int .i64 k ∧ b = .slice A5 k c5 ∧ OwnsB 5 wr w.heap.size A5 c5 ((B.drop (at' + 8)).take k) ∧ RefR wr g top B (at' + 8) false ∧ w.grownBy wr (some g)) (fun _ i _ => m - (RowKit.intOf i).toNat)
        case atStart => exact ⟨0, none, 0, by omega, rfl, rfl, OwnsB.nil _ _ _, HR.out.drewN n, grown_drewN HG.out n⟩
        case round =>
          clear hc0 hc1 hc2 HR HG HI HL hc
          obtain ⟨k, A5, c5, hk, rfl, rfl, hown, hR, hG⟩ := hrel
          have hlk : ((B.drop (at' + 8)).take k).length = k := by rw [List.length_take, List.length_drop]; omega
          have HLK := hid hlk
          clear hlk
          by_cases hlt : k < m
          · obtain ⟨A, c, hc0, hc1, hc2, hb, hc⟩ := hR.cells
            obtain ⟨b, off, rfl, hbt, hcell⟩ := hb.cells (at' + 8 + k) (by omega)
            have hck := hcell (at' + 8 + k) (by omega)
            have hb8 := hb.small B[at' + 8 + k] (List.getElem_mem _)
            have e1 : IntKind.i64.wrap ((at' : Int) + 8 + (k : Int)) = (at' : Int) + 8 + (k : Int) := IntWalk.i64_in _ (by omega)
            have e4 : ((at' : Int) + 8 + (k : Int)).toNat = at' + 8 + k := by omega
            have e5 : 0 ≤ (at' : Int) + 8 + (k : Int) := by omega
            have e6 : at' + 8 + k < B.length := by omega
            have e7 : (at' : Int) + 8 + (k : Int) < (B.length : Int) := by omega
            have HD := hid (drop_take_snoc B (at' + 8) k e6)
            have HR := hid hR
            have HG := hid hG
            have hsz := hG.size
            have hgw : g < w.heap.size := by omega
            have hbw : b < w.heap.size := by omega
            have hk5 : k + 1 ≤ 140737488355328 := by omega
            clear hcell hb hR hG
            go_wp2
            go_region_held3 (fun w' => w'.cell? ⟨g, 0, none⟩ = some (.slice (some ⟨b, off, none⟩) B.length c) ∧ w'.cell? ⟨g, 1, none⟩ = some (.int .i64 ((at' : Int) + 8)) ∧ w'.cell? ⟨b, off + (at' + 8 + k), none⟩ = some (.int .u8 (B[at' + 8 + k] : Nat)))
              (first
                | go_keep
                | (go_split_ands
                   refine ⟨?_, ?_, ?_⟩
                   · (rw [hbel.cell (by simp; omega)]; assumption)
                   · (rw [hbel.cell (by simp; omega)]; assumption)
                   · (rw [hbel.cell (by simp; omega)]; assumption)))
              ((refine step_append_byteN (by rfl) _ _ 23 (by rfl) w.heap.size 5 i0 Tryd.underlying23 hi hz0 hz1 hz2 A5 c5 ((B.drop (at' + 8)).take k) k HLK.out (by rfl) ((hown.alloc _).drew) ⟨wr.heap.size, 0, none⟩ 1 B[at' + 8 + k] _ (by rfl) hb8 (by rfl) (by simp) ((B.drop (at' + 8)).take (k + 1)) HD.out hk5 (by simp; omega) ?_; intro A6 c6 w6 hown6 hbel hgr6 hat6))
            have hb6 : Below w.heap.size wr w6 := (((Below.refl _ wr).alloc hsz _).drew).trans hbel
            have hlt5 := hown.blkLt
            have HO : Hid (OwnsB 5 w6 w.heap.size A6 c6 ((B.drop (at' + 8)).take (k + 1)) ∧ RefR w6 g top B (at' + 8) false ∧ w.grownBy w6 (some g)) :=
              ⟨hown6, ((HR.out.other (grown_drew (World.grownBy_alloc wr _ none)) (fun k e => by cases e)).other hgr6 (fun k e => by have := hlt5 k e; omega)), grown_then HG.out hb6⟩
            clear hown hown6 hbel hgr6 hat6 hb6 hlt5 hc0 hc1 hc2 hck e1 e4 e5 e7
            go_wp2
            go_roundw
            case rel => exact ⟨k + 1, A6, c6, by omega, by go_num, rfl, HO.out.1, HO.out.2.1, HO.out.2.2⟩
            case measure => simp [RowKit.intOf] <;> omega
          · obtain rfl : k = m := by omega
            obtain ⟨A, c, hc0, hc1, hc2, hb, hc⟩ := hR.cells
            have hf1 := hR.free 1
            have HA : Hid (RefR (wr.setCell ⟨g, 1, none⟩ (.int .i64 ((at' : Int) + 8 + (k : Int)))) g top B (at' + 8 + k) false ∧ wr.grownBy (wr.setCell ⟨g, 1, none⟩ (.int .i64 ((at' : Int) + 8 + (k : Int)))) (some g)) := hR.setAt (at' + 8 + k) (by omega)
            have HO := hid (hown.grown HA.out.2 (fun j hj => by injection hj with hj; omega))
            have HG := hid hG
            clear hown hb hR hG
            go_wp2
            go_ret
            rw [HE.out]
            exact ⟨_, _, A5, c5, ret_len HLK.out.symm, HO.out, HA.out.1, rfl, HG.out.trans HA.out.2⟩
end Go.Proofs.YtpigekbfngalbaaDoor
namespace Go.Proofs.YtpigekbfngalbaaDoor
open Go.RowKit
set_option maxRecDepth 100000

theorem frozen_alloc_lt (w : World) (o : Obj) (p : Addr) (h : p.block < w.heap.size) : (w.alloc o).frozen? p = w.frozen? p := ((Below.refl w.heap.size w).alloc (Nat.le_refl _) o).frozen h
set_option maxRecDepth 100000 in
set_option maxHeartbeats 1600000 in
theorem refReader_any (B0 : Nat) (A : Option Addr) (c : Nat) (l : List Nat) (hl : l.length ≤ 1000000) (w : World) (h : IsBytes w B0 A l) (hB : B0 ≤ w.heap.size) :
    Calls Tryd.prog 52 #[.slice A l.length c] w fun e w' => e = .returned (.pointer (some ⟨w.heap.size, 0, none⟩)) ∧ RefR w' w.heap.size w'.heap.size l 0 false ∧ Below w.heap.size w w' := by
  obtain ⟨i0, hi, hz0, hz1, hz2⟩ := info_parts info_u8
  go_enter Tryd.func52, Tryd.ntmps52
  go_wp2
  go_loopw [4] (fun i wr => ∃ k : Nat, ∃ A5 : Option Addr, ∃ c5 : Nat, k ≤ l.length ∧ i = .int .i64 k ∧ Hid (wr.heap[w.heap.size]? = some (.cells #[.slice A5 k c5, .int .i64 0, .bool false] 70 (0, 0))) ∧ OwnsB 5 wr (w.heap.size + 1) A5 c5 (l.take k) ∧ Below w.heap.size w wr ∧ w.heap.size < wr.heap.size) (fun i _ => l.length - (RowKit.intOf i).toNat)
  case atStart => exact ⟨0, none, 0, by omega, rfl, heap_alloc_new w _, OwnsB.nil _ _ _, (Below.refl _ _).alloc (Nat.le_refl _) _, by simp⟩
  case round =>
    obtain ⟨k, A5, c5, hk, rfl, hh, hown, hbel, hsz⟩ := hrel
    have hlk : (l.take k).length = k := by rw [List.length_take]; omega
    have HLK := hid hlk
    clear hlk
    by_cases hlt : k < l.length
    · have hc0 : wr.cell? ⟨w.heap.size, 0, none⟩ = some (.slice A5 k c5) := row_cell hh.out 0
      have hf0 : wr.frozen? ⟨w.heap.size, 0, none⟩ = false := row_free hh.out 0
      obtain ⟨b, off, rfl, hb, hcell⟩ := (h.below (hbel.mono hB)).cells k hlt
      have hck := hcell k hlt
      have hb8 := h.small l[k] (List.getElem_mem _)
      have hk0 : (k : Int) < (l.length : Int) := by omega
      have hk00 : 0 ≤ (k : Int) := by omega
      have hk5 : k + 1 ≤ 140737488355328 := by omega
      have HD : Hid (l.take k ++ [l[k]] = l.take (k + 1)) := (List.take_succ_eq_append_getElem hlt).symm
      clear hcell
      go_wp2
      have hcA : Hid (∀ o, (wr.alloc o).drew.cell? ⟨w.heap.size, 0, none⟩ = some (.slice A5 k c5)) := fun o => (World.cell?_alloc_lt wr o ⟨w.heap.size, 0, none⟩ hsz).trans hc0
      have hfA : Hid (∀ o, (wr.alloc o).drew.frozen? ⟨w.heap.size, 0, none⟩ = false) := fun o => (frozen_alloc_lt wr o ⟨w.heap.size, 0, none⟩ hsz).trans hf0
      have HHA : Hid (∀ o, (wr.alloc o).drew.heap[w.heap.size]? = some (.cells #[.slice A5 k c5, .int .i64 0, .bool false] 70 (0, 0))) := fun o => (Below.heap_alloc wr o _ hsz).trans hh.out
      go_region_law ((refine step_append_byteN (by rfl) _ _ 23 (by rfl) (w.heap.size + 1) 5 i0 Tryd.underlying23 hi hz0 hz1 hz2 A5 c5 (l.take k) k HLK.out (by rfl) ((hown.alloc _).drew) ⟨wr.heap.size, 0, none⟩ 1 l[k] _ (by rfl) hb8 (by rfl) (by simp) (l.take (k + 1)) HD.out hk5 (by simp; omega) ?_; intro A6 c6 w6 hown6 hbel6 hgr6 hat6; have hc6 := (hbel6.cell (p := ⟨w.heap.size, 0, none⟩) (by simp)).trans (hcA.out _); have hf6 := (hbel6.frozen (p := ⟨w.heap.size, 0, none⟩) (by simp)).trans (hfA.out _)))
      all_goals
        have hh6 : w6.heap[w.heap.size]? = some (.cells #[.slice A5 k c5, .int .i64 0, .bool false] 70 (0, 0)) := (hbel6.block w.heap.size (by omega)).trans (HHA.out _)
        have HO : Hid ((w6.setCell ⟨w.heap.size, 0, none⟩ (.slice A6 (k + 1) c6)).heap[w.heap.size]? = some (.cells #[.slice A6 (k + 1) c6, .int .i64 0, .bool false] 70 (0, 0))) := row_set hh6 0 _
        have hb6 : Below w.heap.size w w6 := (((hbel.alloc hbel.size _).drew).trans (hbel6.mono (by omega)))
        have hsz6 : w.heap.size < w6.heap.size := row_lt hh6
        have HP : Hid (OwnsB 5 (w6.setCell ⟨w.heap.size, 0, none⟩ (.slice A6 (k + 1) c6)) (w.heap.size + 1) A6 c6 (l.take (k + 1)) ∧ Below w.heap.size w (w6.setCell ⟨w.heap.size, 0, none⟩ (.slice A6 (k + 1) c6)) ∧ w.heap.size < (w6.setCell ⟨w.heap.size, 0, none⟩ (.slice A6 (k + 1) c6)).heap.size) :=
          ⟨hown6.grown (grown_setCell w6 w.heap.size 0 _) (fun k hk => by injection hk with hk; omega), hb6.setCell (Nat.le_refl _) _, by simp [World.setCell]; exact hsz6⟩
        clear hown hown6 hbel6 hgr6 hat6 hc6 hf6 hh6 hb6 hbel hc0 hf0 hck HHA hcA hfA
        go_wp2
        go_roundw
        case rel => exact ⟨k + 1, A6, c6, by omega, by go_num, HO.out, HP.out.1, HP.out.2.1, HP.out.2.2⟩
        case measure => simp [RowKit.intOf] <;> omega
    · obtain rfl : k = l.length := by omega
      have HO : Hid (RefR wr w.heap.size wr.heap.size l 0 false) := by
        rw [List.take_length] at hown
        exact ⟨⟨A5, c5, hh.out, hown, fun k hk => (hown.blkLt k hk).2⟩, Nat.zero_le _, hl, hsz, Nat.le_refl _⟩
      clear hown hlt hk
      go_wp2
      go_ret
      exact ⟨rfl, HO.out, hbel⟩
end Go.Proofs.YtpigekbfngalbaaDoor
namespace Go.Proofs.YtpigekbfngalbaaDoor.Ms
open Go.RowKit
set_option maxRecDepth 100000
set_option linter.unusedVariables false
attribute [local go_sem ↓] loadAt_msg storeAt_msg

theorem allR_cases (r : Nat) (hr : r ∈ allR) : (r = 103 ∧ rix r = 0 ∧ ix r = 3) ∨ (r = 116 ∧ rix r = 1 ∧ ix r = 4) ∨ (r = 105 ∧ rix r = 2 ∧ ix r = 5) ∨ (r = 112 ∧ rix r = 3 ∧ ix r = 6) ∨ (r = 99 ∧ rix r = 4 ∧ ix r = 7) ∨ (r = 114 ∧ rix r = 5 ∧ ix r = 8) ∨
    (r = 115 ∧ rix r = 6 ∧ ix r = 13) ∨ (r = 120 ∧ rix r = 7 ∧ ix r = 9) ∨ (r = 97 ∧ rix r = 8 ∧ ix r = 10) ∨ (r = 98 ∧ rix r = 9 ∧ ix r = 11) ∨ (r = 118 ∧ rix r = 10 ∧ ix r = 12) := by
  revert r; decide
theorem allR_nums : ∀ r ∈ allR, r ∈ nums := by decide
set_option maxHeartbeats 6400000 in
theorem with_any (m : M) (A : Option Addr) (c : Nat) (A' : Option Addr) (c' : Nat) (r : Nat) (hr : r ∈ allR) (k : Int) (hk : rix r = k) (v : Int) (w : World) :
    Calls Tryd.prog 80 #[.agg #[.int .i64 m.K, .int .i64 m.F, .int .i64 m.T, .int .i64 m.g, .int .i64 m.t, .int .i64 m.i, .int .i64 m.p, .int .i64 m.c, .int .i64 m.r, .int .i64 m.x, .int .i64 m.a, .int .i64 m.b, .int .i64 m.v, .int .i64 m.s, .bool m.ok, .slice A m.es.length c, .slice A' m.d.length c'], .int .i64 k, .int .i64 v] w fun e w' => ∃ m', m' = m.set r v ∧ e = .returned (.agg #[.int .i64 m'.K, .int .i64 m'.F, .int .i64 m'.T, .int .i64 m'.g, .int .i64 m'.t, .int .i64 m'.i, .int .i64 m'.p, .int .i64 m'.c, .int .i64 m'.r, .int .i64 m'.x, .int .i64 m'.a, .int .i64 m'.b, .int .i64 m'.v, .int .i64 m'.s, .bool m'.ok, .slice A m'.es.length c, .slice A' m'.d.length c']) ∧ Below w.heap.size w w' := by
  obtain ⟨m', hm'⟩ : ∃ m', m' = m.set r v := ⟨_, rfl⟩
  have hes := set_es m r v
  obtain ⟨i, hi⟩ : ∃ i, i = ix r := ⟨_, rfl⟩
  have hset := set_cells m A c A' c' r (allR_nums r hr) v
  have hcs := allR_cases r hr
  rw [hk, ← hi] at hcs
  rw [← hi] at hset
  rw [← hm'] at hset hes
  obtain ⟨w2, hw2⟩ : ∃ w2, w2 = (w.alloc (.cells ((#[.int .i64 m.K, .int .i64 m.F, .int .i64 m.T, .int .i64 m.g, .int .i64 m.t, .int .i64 m.i, .int .i64 m.p, .int .i64 m.c, .int .i64 m.r, .int .i64 m.x, .int .i64 m.a, .int .i64 m.b, .int .i64 m.v, .int .i64 m.s, .bool m.ok, .slice A m.es.length c, .slice A' m.d.length c'] : Array Value).setIfInBounds i (.int .i64 v)) 25)).alloc (.cells #[.int .i64 0, .int .i64 0, .int .i64 0, .int .i64 0, .int .i64 0, .int .i64 0, .int .i64 0, .int .i64 0, .int .i64 0, .int .i64 0, .int .i64 0, .int .i64 0, .int .i64 0, .int .i64 0, .bool false, .slice none 0 0, .slice none 0 0] 25) := ⟨_, rfl⟩
  have h0 : (w.alloc (.cells ((#[.int .i64 m.K, .int .i64 m.F, .int .i64 m.T, .int .i64 m.g, .int .i64 m.t, .int .i64 m.i, .int .i64 m.p, .int .i64 m.c, .int .i64 m.r, .int .i64 m.x, .int .i64 m.a, .int .i64 m.b, .int .i64 m.v, .int .i64 m.s, .bool m.ok, .slice A m.es.length c, .slice A' m.d.length c'] : Array Value).setIfInBounds i (.int .i64 v)) 25)).heap.size = w.heap.size + 1 := by simp
  have hb2 : Below w.heap.size w w2 := by rw [hw2]; exact ((Below.refl _ w).alloc (Nat.le_refl _) _).alloc (by simp) _
  have hz2 : w2.heap[w.heap.size + 1]? = some (.cells #[.int .i64 0, .int .i64 0, .int .i64 0, .int .i64 0, .int .i64 0, .int .i64 0, .int .i64 0, .int .i64 0, .int .i64 0, .int .i64 0, .int .i64 0, .int .i64 0, .int .i64 0, .int .i64 0, .bool false, .slice none 0 0, .slice none 0 0] 25 (0, 0)) := by
    rw [hw2, ← h0]; exact heap_alloc_new _ _
  have hx2 : Bx w2 w.heap.size m' A c A' c' := ⟨by
    rw [hw2, ← hset]
    exact ((Below.refl _ (w.alloc (.cells ((#[.int .i64 m.K, .int .i64 m.F, .int .i64 m.T, .int .i64 m.g, .int .i64 m.t, .int .i64 m.i, .int .i64 m.p, .int .i64 m.c, .int .i64 m.r, .int .i64 m.x, .int .i64 m.a, .int .i64 m.b, .int .i64 m.v, .int .i64 m.s, .bool m.ok, .slice A m.es.length c, .slice A' m.d.length c'] : Array Value).setIfInBounds i (.int .i64 v)) 25))).alloc (Nat.le_refl _) _).block _ (by omega) |>.trans (heap_alloc_new w _)⟩
  have hst := st_row w2 (w.heap.size + 1) _ (#[.int .i64 m'.K, .int .i64 m'.F, .int .i64 m'.T, .int .i64 m'.g, .int .i64 m'.t, .int .i64 m'.i, .int .i64 m'.p, .int .i64 m'.c, .int .i64 m'.r, .int .i64 m'.x, .int .i64 m'.a, .int .i64 m'.b, .int .i64 m'.v, .int .i64 m'.s, .bool m'.ok, .slice A m'.es.length c, .slice A' m'.d.length c']) hz2 rfl rfl (msg_one m' A c A' c')
  have hld := hx2.load
  obtain ⟨w3, hw3⟩ : ∃ w3, w3 = w2.setRow (w.heap.size + 1) (#[.int .i64 m'.K, .int .i64 m'.F, .int .i64 m'.T, .int .i64 m'.g, .int .i64 m'.t, .int .i64 m'.i, .int .i64 m'.p, .int .i64 m'.c, .int .i64 m'.r, .int .i64 m'.x, .int .i64 m'.a, .int .i64 m'.b, .int .i64 m'.v, .int .i64 m'.s, .bool m'.ok, .slice A m'.es.length c, .slice A' m'.d.length c']) := ⟨_, rfl⟩
  have ht3 : Turned (fun k => k = w.heap.size + 1) w2 w3 := by rw [hw3]; exact set_turned _ _ _
  have hb3 : Below w.heap.size w w3 := hb2.trans ⟨ht3.os, ht3.tape, ht3.output, ht3.size, fun k hk => ht3.block k (Nat.lt_of_lt_of_le hk hb2.size) (by omega)⟩
  have hr3 : w3.heap[w.heap.size + 1]? = some (.cells (#[.int .i64 m'.K, .int .i64 m'.F, .int .i64 m'.T, .int .i64 m'.g, .int .i64 m'.t, .int .i64 m'.i, .int .i64 m'.p, .int .i64 m'.c, .int .i64 m'.r, .int .i64 m'.x, .int .i64 m'.a, .int .i64 m'.b, .int .i64 m'.v, .int .i64 m'.s, .bool m'.ok, .slice A m'.es.length c, .slice A' m'.d.length c']) 25 (0, 0)) := by rw [hw3]; exact setRow_heap _ _ _ _ _ _ hz2
  have HR := hid (And.intro hr3 (And.intro hm' hb3))
  rw [← hw3] at hst
  rw [hw2] at hst hld
  clear hes hset hx2 hz2 hb2 hw2 h0 ht3 hb3 hr3 hm' hw3 hi hk hr
  rcases hcs with ⟨_, rfl, rfl⟩ | ⟨_, rfl, rfl⟩ | ⟨_, rfl, rfl⟩ | ⟨_, rfl, rfl⟩ | ⟨_, rfl, rfl⟩ | ⟨_, rfl, rfl⟩ | ⟨_, rfl, rfl⟩ | ⟨_, rfl, rfl⟩ | ⟨_, rfl, rfl⟩ | ⟨_, rfl, rfl⟩ | ⟨_, rfl, rfl⟩
  all_goals
    simp only [List.setIfInBounds_toArray, List.set_cons_zero, List.set_cons_succ] at hld hst
    go_enter Tryd.func80, Tryd.ntmps80
    go_wp2_with fail
    refine bodyPost_ret (results_cell_row rfl _ _ (w.heap.size + 1) _ _ _ _ rfl HR.out.1 Tryd.underlying25 rfl (by rw [info_msg]; rfl)) rfl ?_
    exact ⟨m', HR.out.2.1, rfl, HR.out.2.2⟩
end Go.Proofs.YtpigekbfngalbaaDoor.Ms
namespace Go.Proofs.YtpigekbfngalbaaDoor.Ms
open Go.RowKit
set_option maxRecDepth 100000
set_option linter.unusedVariables false
attribute [local go_sem ↓] loadAt_msg storeAt_msg

/-- the fields by the statement's numbers -/
def letF : List Nat := [103, 116, 105, 112, 99, 114, 115, 120, 97, 98, 118, 111, 101, 100]
def setF : List Nat := [103, 116, 105, 112, 99, 114, 115, 120, 97, 98, 118, 70, 84, 75]
theorem setF_cases (f : Nat) (hf : f < setF.length) : (f = 0 ∧ setF[f] = 103 ∧ ix setF[f] = 3) ∨ (f = 1 ∧ setF[f] = 116 ∧ ix setF[f] = 4) ∨ (f = 2 ∧ setF[f] = 105 ∧ ix setF[f] = 5) ∨ (f = 3 ∧ setF[f] = 112 ∧ ix setF[f] = 6) ∨ (f = 4 ∧ setF[f] = 99 ∧ ix setF[f] = 7) ∨ (f = 5 ∧ setF[f] = 114 ∧ ix setF[f] = 8) ∨
    (f = 6 ∧ setF[f] = 115 ∧ ix setF[f] = 13) ∨ (f = 7 ∧ setF[f] = 120 ∧ ix setF[f] = 9) ∨ (f = 8 ∧ setF[f] = 97 ∧ ix setF[f] = 10) ∨ (f = 9 ∧ setF[f] = 98 ∧ ix setF[f] = 11) ∨ (f = 10 ∧ setF[f] = 118 ∧ ix setF[f] = 12) ∨ (f = 11 ∧ setF[f] = 70 ∧ ix setF[f] = 1) ∨ (f = 12 ∧ setF[f] = 84 ∧ ix setF[f] = 2) ∨ (f = 13 ∧ setF[f] = 75 ∧ ix setF[f] = 0) := by
  have key : ∀ f, (h : f < 14) → (f = 0 ∧ setF[f] = 103 ∧ ix setF[f] = 3) ∨ (f = 1 ∧ setF[f] = 116 ∧ ix setF[f] = 4) ∨ (f = 2 ∧ setF[f] = 105 ∧ ix setF[f] = 5) ∨ (f = 3 ∧ setF[f] = 112 ∧ ix setF[f] = 6) ∨ (f = 4 ∧ setF[f] = 99 ∧ ix setF[f] = 7) ∨ (f = 5 ∧ setF[f] = 114 ∧ ix setF[f] = 8) ∨
    (f = 6 ∧ setF[f] = 115 ∧ ix setF[f] = 13) ∨ (f = 7 ∧ setF[f] = 120 ∧ ix setF[f] = 9) ∨ (f = 8 ∧ setF[f] = 97 ∧ ix setF[f] = 10) ∨ (f = 9 ∧ setF[f] = 98 ∧ ix setF[f] = 11) ∨ (f = 10 ∧ setF[f] = 118 ∧ ix setF[f] = 12) ∨ (f = 11 ∧ setF[f] = 70 ∧ ix setF[f] = 1) ∨ (f = 12 ∧ setF[f] = 84 ∧ ix setF[f] = 2) ∨ (f = 13 ∧ setF[f] = 75 ∧ ix setF[f] = 0) := by decide
  exact key f hf
theorem setF_nums (f : Nat) (hf : f < setF.length) : setF[f] ∈ nums := by
  have key : ∀ f, (h : f < 14) → setF[f] ∈ nums := by decide
  exact key f hf
set_option maxHeartbeats 6400000 in
theorem kset_any (m : M) (A : Option Addr) (c : Nat) (A' : Option Addr) (c' : Nat) (f : Nat) (hf : f < setF.length) (v : Int) (w : World) :
    Calls Tryd.prog 29 #[.agg #[.int .i64 m.K, .int .i64 m.F, .int .i64 m.T, .int .i64 m.g, .int .i64 m.t, .int .i64 m.i, .int .i64 m.p, .int .i64 m.c, .int .i64 m.r, .int .i64 m.x, .int .i64 m.a, .int .i64 m.b, .int .i64 m.v, .int .i64 m.s, .bool m.ok, .slice A m.es.length c, .slice A' m.d.length c'], .int .i64 (f : Int), .int .i64 v] w fun e w' => ∃ m', m' = m.set setF[f] v ∧ e = .returned (.agg #[.int .i64 m'.K, .int .i64 m'.F, .int .i64 m'.T, .int .i64 m'.g, .int .i64 m'.t, .int .i64 m'.i, .int .i64 m'.p, .int .i64 m'.c, .int .i64 m'.r, .int .i64 m'.x, .int .i64 m'.a, .int .i64 m'.b, .int .i64 m'.v, .int .i64 m'.s, .bool m'.ok, .slice A m'.es.length c, .slice A' m'.d.length c']) ∧ Below w.heap.size w w' := by
  obtain ⟨r, hr⟩ : ∃ r, r = setF[f] := ⟨_, rfl⟩
  have hrn := setF_nums f hf
  have hcs := setF_cases f hf
  rw [← hr] at hrn hcs
  rw [← hr]
  clear hr hf
  obtain ⟨m', hm'⟩ : ∃ m', m' = m.set r v := ⟨_, rfl⟩
  obtain ⟨i, hi⟩ : ∃ i, i = ix r := ⟨_, rfl⟩
  have hset := set_cells m A c A' c' r hrn v
  rw [← hi] at hset hcs
  rw [← hm'] at hset
  obtain ⟨w2, hw2⟩ : ∃ w2, w2 = (w.alloc (.cells ((#[.int .i64 m.K, .int .i64 m.F, .int .i64 m.T, .int .i64 m.g, .int .i64 m.t, .int .i64 m.i, .int .i64 m.p, .int .i64 m.c, .int .i64 m.r, .int .i64 m.x, .int .i64 m.a, .int .i64 m.b, .int .i64 m.v, .int .i64 m.s, .bool m.ok, .slice A m.es.length c, .slice A' m.d.length c'] : Array Value).setIfInBounds i (.int .i64 v)) 25)).alloc (.cells #[.int .i64 0, .int .i64 0, .int .i64 0, .int .i64 0, .int .i64 0, .int .i64 0, .int .i64 0, .int .i64 0, .int .i64 0, .int .i64 0, .int .i64 0, .int .i64 0, .int .i64 0, .int .i64 0, .bool false, .slice none 0 0, .slice none 0 0] 25) := ⟨_, rfl⟩
  have h0 : (w.alloc (.cells ((#[.int .i64 m.K, .int .i64 m.F, .int .i64 m.T, .int .i64 m.g, .int .i64 m.t, .int .i64 m.i, .int .i64 m.p, .int .i64 m.c, .int .i64 m.r, .int .i64 m.x, .int .i64 m.a, .int .i64 m.b, .int .i64 m.v, .int .i64 m.s, .bool m.ok, .slice A m.es.length c, .slice A' m.d.length c'] : Array Value).setIfInBounds i (.int .i64 v)) 25)).heap.size = w.heap.size + 1 := by simp
  have hb2 : Below w.heap.size w w2 := by rw [hw2]; exact ((Below.refl _ w).alloc (Nat.le_refl _) _).alloc (by simp) _
  have hz2 : w2.heap[w.heap.size + 1]? = some (.cells #[.int .i64 0, .int .i64 0, .int .i64 0, .int .i64 0, .int .i64 0, .int .i64 0, .int .i64 0, .int .i64 0, .int .i64 0, .int .i64 0, .int .i64 0, .int .i64 0, .int .i64 0, .int .i64 0, .bool false, .slice none 0 0, .slice none 0 0] 25 (0, 0)) := by
    rw [hw2, ← h0]; exact heap_alloc_new _ _
  have hx2 : Bx w2 w.heap.size m' A c A' c' := ⟨by
    rw [hw2, ← hset]
    exact ((Below.refl _ (w.alloc (.cells ((#[.int .i64 m.K, .int .i64 m.F, .int .i64 m.T, .int .i64 m.g, .int .i64 m.t, .int .i64 m.i, .int .i64 m.p, .int .i64 m.c, .int .i64 m.r, .int .i64 m.x, .int .i64 m.a, .int .i64 m.b, .int .i64 m.v, .int .i64 m.s, .bool m.ok, .slice A m.es.length c, .slice A' m.d.length c'] : Array Value).setIfInBounds i (.int .i64 v)) 25))).alloc (Nat.le_refl _) _).block _ (by omega) |>.trans (heap_alloc_new w _)⟩
  have hst := st_row w2 (w.heap.size + 1) _ (#[.int .i64 m'.K, .int .i64 m'.F, .int .i64 m'.T, .int .i64 m'.g, .int .i64 m'.t, .int .i64 m'.i, .int .i64 m'.p, .int .i64 m'.c, .int .i64 m'.r, .int .i64 m'.x, .int .i64 m'.a, .int .i64 m'.b, .int .i64 m'.v, .int .i64 m'.s, .bool m'.ok, .slice A m'.es.length c, .slice A' m'.d.length c']) hz2 rfl rfl (msg_one m' A c A' c')
  have hld := hx2.load
  obtain ⟨w3, hw3⟩ : ∃ w3, w3 = w2.setRow (w.heap.size + 1) (#[.int .i64 m'.K, .int .i64 m'.F, .int .i64 m'.T, .int .i64 m'.g, .int .i64 m'.t, .int .i64 m'.i, .int .i64 m'.p, .int .i64 m'.c, .int .i64 m'.r, .int .i64 m'.x, .int .i64 m'.a, .int .i64 m'.b, .int .i64 m'.v, .int .i64 m'.s, .bool m'.ok, .slice A m'.es.length c, .slice A' m'.d.length c']) := ⟨_, rfl⟩
  have ht3 : Turned (fun k => k = w.heap.size + 1) w2 w3 := by rw [hw3]; exact set_turned _ _ _
  have hb3 : Below w.heap.size w w3 := hb2.trans ⟨ht3.os, ht3.tape, ht3.output, ht3.size, fun k hk => ht3.block k (Nat.lt_of_lt_of_le hk hb2.size) (by omega)⟩
  have hr3 : w3.heap[w.heap.size + 1]? = some (.cells (#[.int .i64 m'.K, .int .i64 m'.F, .int .i64 m'.T, .int .i64 m'.g, .int .i64 m'.t, .int .i64 m'.i, .int .i64 m'.p, .int .i64 m'.c, .int .i64 m'.r, .int .i64 m'.x, .int .i64 m'.a, .int .i64 m'.b, .int .i64 m'.v, .int .i64 m'.s, .bool m'.ok, .slice A m'.es.length c, .slice A' m'.d.length c']) 25 (0, 0)) := by rw [hw3]; exact setRow_heap _ _ _ _ _ _ hz2
  have HR := hid (And.intro hr3 (And.intro hm' hb3))
  rw [← hw3] at hst
  rw [hw2] at hst hld
  clear hset hx2 hz2 hb2 hw2 h0 ht3 hb3 hr3 hm' hw3 hi hrn
  rcases hcs with ⟨rfl, _, rfl⟩ | ⟨rfl, _, rfl⟩ | ⟨rfl, _, rfl⟩ | ⟨rfl, _, rfl⟩ | ⟨rfl, _, rfl⟩ | ⟨rfl, _, rfl⟩ | ⟨rfl, _, rfl⟩ | ⟨rfl, _, rfl⟩ | ⟨rfl, _, rfl⟩ | ⟨rfl, _, rfl⟩ | ⟨rfl, _, rfl⟩ | ⟨rfl, _, rfl⟩ | ⟨rfl, _, rfl⟩ | ⟨rfl, _, rfl⟩
  all_goals
    simp only [List.setIfInBounds_toArray, List.set_cons_zero, List.set_cons_succ] at hld hst
    go_enter Tryd.func29, Tryd.ntmps29
    go_wp2_with fail
    refine bodyPost_ret (results_cell_row rfl _ _ (w.heap.size + 1) _ _ _ _ rfl HR.out.1 Tryd.underlying25 rfl (by rw [info_msg]; rfl)) rfl ?_
    exact ⟨m', HR.out.2.1, rfl, HR.out.2.2⟩
end Go.Proofs.YtpigekbfngalbaaDoor.Ms
