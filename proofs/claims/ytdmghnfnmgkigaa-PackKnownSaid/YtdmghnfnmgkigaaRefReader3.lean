/- The walks through the document's answer for the reader of package pack: bytes, a list, a reader that is made. -/
import Derived.Test.YtdmghnfnmgkigaaRefReader2
namespace Go.Proofs.Ytdmghnfnmgkigaa
open Go.RowKit

/-- the document's reader as a reader -/
def stOf (B : List Nat) (at' : Nat) (bad : Bool) : Pk.St := ⟨leftOf B at' bad, bad⟩

theorem stOf_short (B : List Nat) (at' : Nat) (bad : Bool) (hl : (leftOf B at' bad).length < 8) : Pk.rdInt (stOf B at' bad) = (0, Pk.gone) := by
  unfold Pk.rdInt stOf; rw [if_pos hl]
theorem stOf_long (B : List Nat) (at' : Nat) (hl : at' + 8 ≤ B.length) : Pk.rdInt (stOf B at' false) = (Pk.sgn (Pk.num ((B.drop at').take 8)), stOf B (at' + 8) false) := by
  unfold Pk.rdInt stOf leftOf
  rw [if_neg (by simp; omega)]
  simp
theorem stOf_cases (B : List Nat) (at' : Nat) (bad : Bool) : (leftOf B at' bad).length < 8 ∨ (bad = false ∧ at' + 8 ≤ B.length) := by
  cases bad
  · by_cases h : at' + 8 ≤ B.length
    · exact .inr ⟨rfl, h⟩
    · left; simp [leftOf]; omega
  · left; simp [leftOf]
theorem stOf_bad (B : List Nat) (at' : Nat) : stOf B at' true = Pk.gone := rfl

set_option maxHeartbeats 400000 in
theorem refRInt_any (g top : Nat) (B : List Nat) (at' : Nat) (bad : Bool) (w : World) (h : RefR w g top B at' bad) :
    Calls Try.prog 42 #[.pointer (some ⟨g, 0, none⟩)] w fun e w' => ∃ a2 b2, e = .returned (.int .i64 (Pk.rdInt (stOf B at' bad)).1) ∧ RefR w' g top B a2 b2 ∧ stOf B a2 b2 = (Pk.rdInt (stOf B at' bad)).2 ∧ w.grownBy w' (some g) := by
  rcases stOf_cases B at' bad with hl | ⟨rfl, hl⟩
  · refine (refRInt_short g top B at' bad w h hl).mono fun e w' ⟨he, hR, hG⟩ => ⟨at', true, ?_, hR, ?_, hG⟩
    · rw [stOf_short B at' bad hl]; exact he
    · rw [stOf_short B at' bad hl]; rfl
  · refine (refRInt_long g top B at' w h hl).mono fun e w' ⟨he, hR, hG⟩ => ⟨at' + 8, false, ?_, hR, ?_, hG⟩
    · rw [stOf_long B at' hl]; exact he
    · rw [stOf_long B at' hl]

theorem drop_take_snoc (B : List Nat) (p k : Nat) (h : p + k < B.length) : (B.drop p).take k ++ [B[p + k]] = (B.drop p).take (k + 1) := (leftOf_get B p k h).symm

set_option maxHeartbeats 1600000 in
theorem refRBlob_any (g top : Nat) (B : List Nat) (at' : Nat) (bad : Bool) (w : World) (h : RefR w g top B at' bad) :
    Calls Try.prog 43 #[.pointer (some ⟨g, 0, none⟩)] w fun e w' => ∃ a2 b2 A' c', e = .returned (.slice A' (Pk.rdBlob (stOf B at' bad)).1.length c') ∧ OwnsB 5 w' w.heap.size A' c' (Pk.rdBlob (stOf B at' bad)).1 ∧
      RefR w' g top B a2 b2 ∧ stOf B a2 b2 = (Pk.rdBlob (stOf B at' bad)).2 ∧ w.grownBy w' (some g) := by
  obtain ⟨i0, hi, hz0, hz1, hz2⟩ := info_parts info_u8
  have hgt := h.top_
  rcases stOf_cases B at' bad with hl | ⟨rfl, hl⟩
  · have HE : Hid (Pk.rdBlob (stOf B at' bad) = ([], Pk.gone)) := by
      show _ = _
      unfold Pk.rdBlob; rw [stOf_short B at' bad hl]; rfl
    have HI := hid (refRInt_short g top B at' bad w h hl)
    clear h hl
    go_enter Try.func43, Try.ntmps43
    go_wp2_with fail
    refine HI.out.mono ?_
    rintro e w1 ⟨rfl, hR, hG⟩
    obtain ⟨A, c, hc0, hc1, hc2, _, hc⟩ := hR.cells
    have hf2 := hR.free 2
    have HB := hid (hR.setBad true)
    clear hR
    go_wp2_with fail
    go_ret
    rw [HE.out]
    exact ⟨at', true, none, 0, rfl, OwnsB.nil _ _ _, HB.out.1, rfl, hG.trans HB.out.2⟩
  · have HI := hid (refRInt_long g top B at' w h hl)
    have HBL : Hid (Pk.rdInt (stOf B at' false) = (Pk.sgn (Pk.num ((B.drop at').take 8)), stOf B (at' + 8) false)) := stOf_long B at' hl
    have hsm := h.cells
    obtain ⟨_, _, _, _, _, hbs, _⟩ := hsm
    have hvin := Pk.sgn_in _ (Pk.take_num_lt (B.drop at') (fun x hx => hbs.small x (List.mem_of_mem_drop hx)))
    have hsmall := hbs.small
    have HSM := hid hsmall
    have hsh := h.short
    clear h hbs hsmall
    obtain ⟨v, hv⟩ : ∃ v, v = Pk.sgn (Pk.num ((B.drop at').take 8)) := ⟨_, rfl⟩
    rw [← hv] at HI HBL hvin
    clear hv
    have hv1 := hvin.1
    have hv2 := hvin.2
    have hll : (leftOf B (at' + 8) false).length = B.length - (at' + 8) := by simp [leftOf]
    have HLL := hid hll
    clear hvin hll
    by_cases hneg : v < 0
    · have HE : Hid (Pk.rdBlob (stOf B at' false) = ([], Pk.gone)) := by
        show _ = _
        unfold Pk.rdBlob; rw [HBL.out, if_pos (Or.inr (Or.inl hneg))]
      go_enter Try.func43, Try.ntmps43
      go_wp2_with fail
      refine HI.out.mono ?_
      rintro e w1 ⟨rfl, hR, hG⟩
      obtain ⟨A, c, hc0, hc1, hc2, _, hc⟩ := hR.cells
      have hf2 := hR.free 2
      have HB := hid (hR.setBad true)
      clear hR
      go_wp2_with fail
      go_ret
      rw [HE.out]
      exact ⟨_, true, none, 0, rfl, OwnsB.nil _ _ _, HB.out.1, rfl, hG.trans HB.out.2⟩
    · obtain ⟨m, rfl⟩ : ∃ m : Nat, v = (m : Int) := ⟨v.toNat, by omega⟩
      by_cases hbig : B.length - (at' + 8) < m
      · have HE : Hid (Pk.rdBlob (stOf B at' false) = ([], Pk.gone)) := by
          show _ = _
          unfold Pk.rdBlob; rw [HBL.out, if_pos (Or.inr (Or.inr (by show (((leftOf B (at' + 8) false).length : Nat) : Int) < _; rw [HLL.out]; omega)))]
        go_enter Try.func43, Try.ntmps43
        go_wp2_with fail
        refine HI.out.mono ?_
        rintro e w1 ⟨rfl, hR, hG⟩
        obtain ⟨A, c, hc0, hc1, hc2, _, hc⟩ := hR.cells
        have HL := hid (refLeft_any g top B (at' + 8) false w1 hR)
        have HR := hid hR
        clear hR
        go_wp2_with fail
        refine HL.out.mono ?_
        rintro e w2 ⟨rfl, n, rfl⟩
        rw [HLL.out]
        have hf2 := (HR.out.drewN n).free 2
        have HB := hid ((HR.out.drewN n).setBad true)
        go_wp2_with fail
        go_ret
        rw [HE.out]
        exact ⟨_, true, none, 0, rfl, OwnsB.nil _ _ _, HB.out.1, rfl, (grown_drewN hG n).trans HB.out.2⟩
      · have HE : Hid (Pk.rdBlob (stOf B at' false) = ((B.drop (at' + 8)).take m, stOf B (at' + 8 + m) false)) := by
          show _ = _
          unfold Pk.rdBlob; rw [HBL.out, if_neg (by
            rintro (h | h | h)
            · simp [stOf] at h
            · omega
            · have h2 : (((leftOf B (at' + 8) false).length : Nat) : Int) < (m : Int) := h
              rw [HLL.out] at h2; omega)]
          simp [stOf, leftOf]
        go_enter Try.func43, Try.ntmps43
        go_wp2_with fail
        refine HI.out.mono ?_
        rintro e w1 ⟨rfl, hR, hG⟩
        obtain ⟨A, c, hc0, hc1, hc2, _, hc⟩ := hR.cells
        have HL := hid (refLeft_any g top B (at' + 8) false w1 hR)
        have HR := hid hR
        have hsz1 := hG.size
        have HG := hid hG
        clear hR hG
        go_wp2_with fail
        refine HL.out.mono ?_
        rintro e w2 ⟨rfl, n, rfl⟩
        rw [HLL.out]
        go_wp2_with fail
        go_loopw [4, 5] (fun b i wr => ∃ k : Nat, ∃ A5 : Option Addr, ∃ c5 : Nat, k ≤ m ∧ i = .int .i64 k ∧ b = .slice A5 k c5 ∧ OwnsB 5 wr w.heap.size A5 c5 ((B.drop (at' + 8)).take k) ∧ RefR wr g top B (at' + 8) false ∧ w.grownBy wr (some g)) (fun _ i _ => m - (intOf i).toNat)
        case atStart => exact ⟨0, none, 0, by omega, rfl, rfl, OwnsB.nil _ _ _, HR.out.drewN n, grown_drewN HG.out n⟩
        case round =>
          clear hc0 hc1 hc2 HR HG HI HL hc
          obtain ⟨k, A5, c5, hk, rfl, rfl, hown, hR, hG⟩ := hrel
          have hlk : ((B.drop (at' + 8)).take k).length = k := by rw [List.length_take, List.length_drop]; omega
          have HLK := hid hlk
          clear hlk
          by_cases hlt : k < m
          · obtain ⟨A, c, hc0, hc1, hc2, hb, hc⟩ := hR.cells
            obtain ⟨b, off, rfl, hbt, hcell⟩ := hb.cells (at' + 8 + k) (by omega)
            have hck := hcell (at' + 8 + k) (by omega)
            have hb8 := hb.small B[at' + 8 + k] (List.getElem_mem _)
            have e1 : IntKind.i64.wrap ((at' : Int) + 8 + (k : Int)) = (at' : Int) + 8 + (k : Int) := IntWalk.i64_in _ (by omega)
            have e4 : ((at' : Int) + 8 + (k : Int)).toNat = at' + 8 + k := by omega
            have e5 : 0 ≤ (at' : Int) + 8 + (k : Int) := by omega
            have e6 : at' + 8 + k < B.length := by omega
            have e7 : (at' : Int) + 8 + (k : Int) < (B.length : Int) := by omega
            have HD := hid (drop_take_snoc B (at' + 8) k e6)
            have HR := hid hR
            have HG := hid hG
            have hsz := hG.size
            have hgw : g < w.heap.size := by omega
            have hbw : b < w.heap.size := by omega
            have hk5 : k + 1 ≤ 140737488355328 := by omega
            clear hcell hb hR hG
            go_wp2
            go_region_held3 (fun w' => w'.cell? ⟨g, 0, none⟩ = some (.slice (some ⟨b, off, none⟩) B.length c) ∧ w'.cell? ⟨g, 1, none⟩ = some (.int .i64 ((at' : Int) + 8)) ∧ w'.cell? ⟨b, off + (at' + 8 + k), none⟩ = some (.int .u8 (B[at' + 8 + k] : Nat)))
              (first
                | go_keep
                | (go_split_ands
                   refine ⟨?_, ?_, ?_⟩
                   · (rw [hbel.cell (by simp; omega)]; assumption)
                   · (rw [hbel.cell (by simp; omega)]; assumption)
                   · (rw [hbel.cell (by simp; omega)]; assumption)))
              ((refine step_append_byteN (by rfl) _ _ 22 (by rfl) w.heap.size 5 i0 Try.underlying22 hi hz0 hz1 hz2 A5 c5 ((B.drop (at' + 8)).take k) k HLK.out (by rfl) ((hown.alloc _).drew) ⟨wr.heap.size, 0, none⟩ 1 B[at' + 8 + k] _ (by rfl) hb8 (by rfl) (by simp) ((B.drop (at' + 8)).take (k + 1)) HD.out hk5 (by simp; omega) ?_; intro A6 c6 w6 hown6 hbel hgr6 hat6))
            have hb6 : Below w.heap.size wr w6 := (((Below.refl _ wr).alloc hsz _).drew).trans hbel
            have hlt5 := hown.blkLt
            have HO : Hid (OwnsB 5 w6 w.heap.size A6 c6 ((B.drop (at' + 8)).take (k + 1)) ∧ RefR w6 g top B (at' + 8) false ∧ w.grownBy w6 (some g)) :=
              ⟨hown6, ((HR.out.other (grown_drew (World.grownBy_alloc wr _ none)) (fun k e => by cases e)).other hgr6 (fun k e => by have := hlt5 k e; omega)), grown_then HG.out hb6⟩
            clear hown hown6 hbel hgr6 hat6 hb6 hlt5 hc0 hc1 hc2 hck e1 e4 e5 e7
            go_wp2
            go_roundw
            case rel => exact ⟨k + 1, A6, c6, by omega, by go_num, rfl, HO.out.1, HO.out.2.1, HO.out.2.2⟩
            case measure => simp [intOf] <;> omega
          · obtain rfl : k = m := by omega
            obtain ⟨A, c, hc0, hc1, hc2, hb, hc⟩ := hR.cells
            have hf1 := hR.free 1
            have HA : Hid (RefR (wr.setCell ⟨g, 1, none⟩ (.int .i64 ((at' : Int) + 8 + (k : Int)))) g top B (at' + 8 + k) false ∧ wr.grownBy (wr.setCell ⟨g, 1, none⟩ (.int .i64 ((at' : Int) + 8 + (k : Int)))) (some g)) := hR.setAt (at' + 8 + k) (by omega)
            have HO := hid (hown.grown HA.out.2 (fun j hj => by injection hj with hj; omega))
            have HG := hid hG
            clear hown hb hR hG
            go_wp2
            go_ret
            rw [HE.out]
            exact ⟨_, _, A5, c5, ret_len HLK.out.symm, HO.out, HA.out.1, rfl, HG.out.trans HA.out.2⟩
end Go.Proofs.Ytdmghnfnmgkigaa
