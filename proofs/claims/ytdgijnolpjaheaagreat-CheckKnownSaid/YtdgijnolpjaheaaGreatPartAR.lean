/- Texts of the proof, one behind the other: RefRd, RefReader2, RefRdInt, RefRdNew. -/
import Derived.Test.YtdgijnolpjaheaaGreatPartAH
import Derived.Test.YtdgijnolpjaheaaGreatPartAQ
import Derived.IntWalk
namespace Go.Proofs.YtdgijnolpjaheaaGreat
open Go.RowKit

/-- what is left of bytes, read up to a place -/
def leftOf (B : List Nat) (at' : Nat) (bad : Bool) : List Nat := if bad = true then [] else B.drop at'
/-- the document's reader at block g: its bytes lie behind it, ahead of top -/
structure RefR (w : World) (g top : Nat) (B : List Nat) (at' : Nat) (bad : Bool) : Prop where
  at_ : ∃ A c, w.heap[g]? = some (.cells #[.slice A B.length c, .int .i64 (at' : Int), .bool bad] 107 (0, 0)) ∧ OwnsB 5 w (g + 1) A c B ∧ (∀ k, blk A = some k → k < top)
  le : at' ≤ B.length
  short : B.length ≤ 16384
  top_ : g < top ∧ top ≤ w.heap.size

namespace RefR
variable {w w' : World} {g top : Nat} {B : List Nat} {at' : Nat} {bad : Bool}
theorem other {row : Option Nat} (h : RefR w g top B at' bad) (hG : w.grownBy w' row) (hr : ∀ k, row = some k → k < g ∨ top ≤ k) : RefR w' g top B at' bad := by
  obtain ⟨A, c, h1, h2, h3⟩ := h.at_
  refine ⟨⟨A, c, ?_, ⟨h2.small, h2.row.kept hG ?_⟩, h3⟩, h.le, h.short, h.top_.1, Nat.le_trans h.top_.2 hG.size⟩
  · rw [hG.block g (by have := h.top_; omega) (fun e => by have := hr g e.symm; have := h.top_; omega)]
    exact h1
  · rw [ownBlock_slice]
    rcases hb : blk A with _ | k
    · exact .inl rfl
    · refine .inr (fun e => ?_)
      have h4 := hr k e.symm
      have h5 := h3 k hb
      have h6 := h2.blkLt k hb
      omega
theorem below (h : RefR w g top B at' bad) (hb : Below w.heap.size w w') : RefR w' g top B at' bad := h.other (grown_below hb none) (fun k e => by cases e)
theorem belowB {b0 : Nat} (h : RefR w g top B at' bad) (hb : Below b0 w w') (h0 : top ≤ b0) : RefR w' g top B at' bad := by
  obtain ⟨A, c, h1, h2, h3⟩ := h.at_
  refine ⟨⟨A, c, (hb.block g (by have := h.top_; omega)).trans h1, ⟨h2.small, h2.row.1, ?_⟩, h3⟩, h.le, h.short, h.top_.1, Nat.le_trans h.top_.2 hb.size⟩
  rcases h2.row.2 with hn | ⟨g', cap, cur, hv, hb', hh, rest⟩
  · exact .inl hn
  · refine .inr ⟨g', cap, cur, hv, hb', (hb.block g' ?_).trans hh, rest⟩
    have : blk A = some g' := by
      injection hv with hv
      rw [hv]; rfl
    have := h3 g' this
    omega
theorem drewN (h : RefR w g top B at' bad) (n : Nat) : RefR (w.drewN n) g top B at' bad := h.below (below_drewN (Below.refl _ _) n)
theorem cells (h : RefR w g top B at' bad) : ∃ A c, w.cell? ⟨g, 0, none⟩ = some (.slice A B.length c) ∧ w.cell? ⟨g, 1, none⟩ = some (.int .i64 (at' : Int)) ∧ w.cell? ⟨g, 2, none⟩ = some (.bool bad) ∧ IsBytes w top A B ∧ B.length ≤ c := by
  obtain ⟨A, c, h1, h2, h3⟩ := h.at_
  exact ⟨A, c, row_cell h1 0, row_cell h1 1, row_cell h1 2, h2.readsB h3, h2.cap⟩
theorem free (h : RefR w g top B at' bad) (i : Nat) : w.frozen? ⟨g, i, none⟩ = false := by
  obtain ⟨A, c, h1, h2, h3⟩ := h.at_
  exact row_free h1 i
theorem setBad (h : RefR w g top B at' bad) (b : Bool) : RefR (w.setCell ⟨g, 2, none⟩ (.bool b)) g top B at' b ∧ w.grownBy (w.setCell ⟨g, 2, none⟩ (.bool b)) (some g) := by
  obtain ⟨A, c, h1, h2, h3⟩ := h.at_
  have hG := grown_setCell w g 2 (.bool b)
  exact ⟨⟨⟨A, c, row_set h1 2 _, h2.grown hG (fun k hk => by injection hk with hk; omega), h3⟩, h.le, h.short, h.top_.1, Nat.le_trans h.top_.2 hG.size⟩, hG⟩
theorem setAt (h : RefR w g top B at' bad) (a2 : Nat) (ha : a2 ≤ B.length) : RefR (w.setCell ⟨g, 1, none⟩ (.int .i64 (a2 : Int))) g top B a2 bad ∧ w.grownBy (w.setCell ⟨g, 1, none⟩ (.int .i64 (a2 : Int))) (some g) := by
  obtain ⟨A, c, h1, h2, h3⟩ := h.at_
  have hG := grown_setCell w g 1 (.int .i64 (a2 : Int))
  exact ⟨⟨⟨A, c, row_set h1 1 _, h2.grown hG (fun k hk => by injection hk with hk; omega), h3⟩, ha, h.short, h.top_.1, Nat.le_trans h.top_.2 hG.size⟩, hG⟩
end RefR

set_option maxRecDepth 100000 in
set_option maxHeartbeats 400000 in
theorem refLeft_any (g top : Nat) (B : List Nat) (at' : Nat) (bad : Bool) (w : World) (h : RefR w g top B at' bad) :
    Calls Tryz.prog 81 #[.pointer (some ⟨g, 0, none⟩)] w fun e w' => e = .returned (.int .i64 ((leftOf B at' bad).length : Nat)) ∧ ∃ n, w' = w.drewN n := by
  obtain ⟨A, c, hc0, hc1, hc2, _, hc⟩ := h.cells
  have hle := h.le
  have hsh := h.short
  clear h
  cases bad
  · go_enter Tryz.func81, Tryz.ntmps81
    go_wp2
    go_quiet (fail)
    go_wp2
    go_ret
    exact ⟨ret_int (by simp [leftOf]; omega), _, rfl⟩
  · go_enter Tryz.func81, Tryz.ntmps81
    go_wp2
    go_ret
    exact ⟨ret_int (by simp [leftOf]), 0, rfl⟩

end Go.Proofs.YtdgijnolpjaheaaGreat
namespace Go.Proofs.YtdgijnolpjaheaaGreat
open Go.RowKit

theorem u64_wrap' (v : Int) : IntKind.u64.wrap v = v % 18446744073709551616 := by simp [IntKind.wrap, IntKind.signed, IntKind.bits]
theorem leftOf_get (B : List Nat) (at' k : Nat) (h : at' + k < B.length) : (B.drop at').take (k + 1) = (B.drop at').take k ++ [B[at' + k]] := by
  rw [List.take_succ_eq_append_getElem (by rw [List.length_drop]; omega), List.getElem_drop]

set_option maxRecDepth 100000 in
set_option maxHeartbeats 800000 in
theorem refRInt_short (g top : Nat) (B : List Nat) (at' : Nat) (bad : Bool) (w : World) (h : RefR w g top B at' bad) (hl : (leftOf B at' bad).length < 8) :
    Calls Tryz.prog 71 #[.pointer (some ⟨g, 0, none⟩)] w fun e w' => e = .returned (.int .i64 0) ∧ RefR w' g top B at' true ∧ w.grownBy w' (some g) := by
  have HL := hid (refLeft_any g top B at' bad w h)
  have HE := hid hl
  have H := hid h
  obtain ⟨A, c, hc0, hc1, hc2, _, hc⟩ := h.cells
  have hf2 := h.free 2
  clear h
  go_enter Tryz.func71, Tryz.ntmps71
  go_wp2_with fail
  refine HL.out.mono ?_
  rintro e w1 ⟨rfl, n, rfl⟩
  have HB := hid ((H.out.drewN n).setBad true)
  go_wp2_with fail
  go_ret
  exact ⟨rfl, HB.out.1, (grown_drewN (grown_refl _ _) n).trans HB.out.2⟩

set_option maxRecDepth 100000 in
set_option maxHeartbeats 1600000 in
theorem refRInt_long (g top : Nat) (B : List Nat) (at' : Nat) (w : World) (h : RefR w g top B at' false) (hl : at' + 8 ≤ B.length) :
    Calls Tryz.prog 71 #[.pointer (some ⟨g, 0, none⟩)] w fun e w' => e = .returned (.int .i64 (Pk.sgn (Pk.num ((B.drop at').take 8)))) ∧ RefR w' g top B (at' + 8) false ∧ w.grownBy w' (some g) := by
  have HL := hid (refLeft_any g top B at' false w h)
  have hll : (leftOf B at' false).length = B.length - at' := by simp [leftOf]
  rw [hll] at HL
  have H := hid h
  have hle := h.le
  have hsh := h.short
  clear h hll
  go_enter Tryz.func71, Tryz.ntmps71
  go_wp2_with fail
  refine HL.out.mono ?_
  rintro e w1 ⟨rfl, n1, rfl⟩
  go_wp2_with fail
  go_loopw [3, 4] (fun v i wr => ∃ k n m : Nat, k ≤ 8 ∧ i = .int .i64 k ∧ v = .int .u64 (n : Int) ∧ wr = w.drewN m ∧ Hid (n = Pk.num ((B.drop at').take k))) (fun _ i _ => 8 - (RowKit.intOf i).toNat)
  case atStart => exact ⟨0, 0, n1, by omega, rfl, rfl, rfl, hid rfl⟩
  case round =>
    obtain ⟨k, n, m, hk, rfl, rfl, rfl, hs⟩ := hrel
    by_cases hlt : k < 8
    · obtain ⟨A, c, hc0, hc1, hc2, hb, hc⟩ := H.out.cells
      obtain ⟨b, off, rfl, _, hcell⟩ := hb.cells (at' + k) (by omega)
      have hck := hcell (at' + k) (by omega)
      have hb8 := hb.small B[at' + k] (List.getElem_mem _)
      have hn7 : n < 72057594037927936 := by
        rw [hs.out]
        have h1 := Pk.num_lt ((B.drop at').take k) (fun x hx => hb.small x (List.mem_of_mem_drop (List.mem_of_mem_take hx)))
        have h2 : ((B.drop at').take k).length ≤ 7 := by rw [List.length_take]; omega
        have h3 : 256 ^ ((B.drop at').take k).length ≤ 256 ^ 7 := Nat.pow_le_pow_right (by decide) h2
        have h4 : 256 ^ 7 = 72057594037927936 := by decide
        omega
      have hkl : at' + k < B.length := by omega
      have e1 : IntKind.i64.wrap ((at' : Int) + (k : Int)) = (at' : Int) + (k : Int) := IntWalk.i64_in _ (by omega)
      have e2 : IntKind.u64.wrap ((n : Int) * 256) = (n : Int) * 256 := by rw [u64_wrap']; omega
      have e3 : IntKind.u64.wrap ((n : Int) * 256 + (B[at' + k] : Int)) = (n : Int) * 256 + (B[at' + k] : Int) := by rw [u64_wrap']; omega
      have e4 : ((at' : Int) + (k : Int)).toNat = at' + k := by omega
      have e5 : 0 ≤ (at' : Int) + (k : Int) := by omega
      clear hcell hb
      go_wp2
      go_quiet (fail)
      clear e1 e2 e3 e4 e5
      go_wp2
      go_roundw
      case rel => exact ⟨k + 1, n * 256 + B[at' + k], _, by omega, by go_num, by go_num, rfl, by
        show _ = _
        rw [leftOf_get B at' k hkl, Pk.num_snoc, ← hs.out]⟩
      case measure => simp [RowKit.intOf] <;> omega
    · obtain rfl : k = 8 := by omega
      have hw := H.out.drewN m
      obtain ⟨A, c, hc0, hc1, hc2, hb, hc⟩ := hw.cells
      have hf1 := hw.free 1
      have HA : Hid (RefR ((w.drewN m).setCell ⟨g, 1, none⟩ (.int .i64 ((at' : Int) + 8))) g top B (at' + 8) false ∧ (w.drewN m).grownBy ((w.drewN m).setCell ⟨g, 1, none⟩ (.int .i64 ((at' : Int) + 8))) (some g)) := hw.setAt (at' + 8) hl
      have hn : n < 18446744073709551616 := by
        rw [hs.out]
        exact Pk.take_num_lt _ (fun x hx => hb.small x (List.mem_of_mem_drop hx))
      have hv : wrap64 (n : Int) = Pk.sgn (Pk.num ((B.drop at').take 8)) := by rw [wrap64_sgn n hn, hs.out]
      have HV := hid hv
      clear hw hb hn hv
      go_wp2
      go_ret
      exact ⟨ret_int HV.out, HA.out.1, (grown_drewN (grown_refl _ _) m).trans HA.out.2⟩
end Go.Proofs.YtdgijnolpjaheaaGreat
namespace Go.Proofs.YtdgijnolpjaheaaGreat
open Go.RowKit

/-- the document's reader as a reader -/
def stOf (B : List Nat) (at' : Nat) (bad : Bool) : Pk.St := ⟨leftOf B at' bad, bad⟩

theorem stOf_short (B : List Nat) (at' : Nat) (bad : Bool) (hl : (leftOf B at' bad).length < 8) : Pk.rdInt (stOf B at' bad) = (0, Pk.gone) := by
  unfold Pk.rdInt stOf; rw [if_pos hl]
theorem stOf_long (B : List Nat) (at' : Nat) (hl : at' + 8 ≤ B.length) : Pk.rdInt (stOf B at' false) = (Pk.sgn (Pk.num ((B.drop at').take 8)), stOf B (at' + 8) false) := by
  unfold Pk.rdInt stOf leftOf
  rw [if_neg (by simp; omega)]
  simp
theorem stOf_cases (B : List Nat) (at' : Nat) (bad : Bool) : (leftOf B at' bad).length < 8 ∨ (bad = false ∧ at' + 8 ≤ B.length) := by
  cases bad
  · by_cases h : at' + 8 ≤ B.length
    · exact .inr ⟨rfl, h⟩
    · left; simp [leftOf]; omega
  · left; simp [leftOf]
theorem stOf_bad (B : List Nat) (at' : Nat) : stOf B at' true = Pk.gone := rfl

set_option maxRecDepth 100000 in
set_option maxHeartbeats 400000 in
theorem refRInt_any (g top : Nat) (B : List Nat) (at' : Nat) (bad : Bool) (w : World) (h : RefR w g top B at' bad) :
    Calls Tryz.prog 71 #[.pointer (some ⟨g, 0, none⟩)] w fun e w' => ∃ a2 b2, e = .returned (.int .i64 (Pk.rdInt (stOf B at' bad)).1) ∧ RefR w' g top B a2 b2 ∧ stOf B a2 b2 = (Pk.rdInt (stOf B at' bad)).2 ∧ w.grownBy w' (some g) := by
  rcases stOf_cases B at' bad with hl | ⟨rfl, hl⟩
  · refine (refRInt_short g top B at' bad w h hl).mono fun e w' ⟨he, hR, hG⟩ => ⟨at', true, ?_, hR, ?_, hG⟩
    · rw [stOf_short B at' bad hl]; exact he
    · rw [stOf_short B at' bad hl]; rfl
  · refine (refRInt_long g top B at' w h hl).mono fun e w' ⟨he, hR, hG⟩ => ⟨at' + 8, false, ?_, hR, ?_, hG⟩
    · rw [stOf_long B at' hl]; exact he
    · rw [stOf_long B at' hl]

end Go.Proofs.YtdgijnolpjaheaaGreat
namespace Go.Proofs.YtdgijnolpjaheaaGreat
open Go.RowKit

theorem frozen_alloc_lt (w : World) (o : Obj) (p : Addr) (h : p.block < w.heap.size) : (w.alloc o).frozen? p = w.frozen? p := ((Below.refl w.heap.size w).alloc (Nat.le_refl _) o).frozen h
set_option maxRecDepth 100000 in
set_option maxHeartbeats 1600000 in
theorem refReader_any (B0 : Nat) (A : Option Addr) (c : Nat) (l : List Nat) (hl : l.length ≤ 16384) (w : World) (h : IsBytes w B0 A l) (hB : B0 ≤ w.heap.size) :
    Calls Tryz.prog 70 #[.slice A l.length c] w fun e w' => e = .returned (.pointer (some ⟨w.heap.size, 0, none⟩)) ∧ RefR w' w.heap.size w'.heap.size l 0 false ∧ Below w.heap.size w w' := by
  obtain ⟨i0, hi, hz0, hz1, hz2⟩ := info_parts info_u8
  go_enter Tryz.func70, Tryz.ntmps70
  go_wp2
  go_loopw [4] (fun i wr => ∃ k : Nat, ∃ A5 : Option Addr, ∃ c5 : Nat, k ≤ l.length ∧ i = .int .i64 k ∧ Hid (wr.heap[w.heap.size]? = some (.cells #[.slice A5 k c5, .int .i64 0, .bool false] 107 (0, 0))) ∧ OwnsB 5 wr (w.heap.size + 1) A5 c5 (l.take k) ∧ Below w.heap.size w wr ∧ w.heap.size < wr.heap.size) (fun i _ => l.length - (RowKit.intOf i).toNat)
  case atStart => exact ⟨0, none, 0, by omega, rfl, heap_alloc_new w _, OwnsB.nil _ _ _, (Below.refl _ _).alloc (Nat.le_refl _) _, by simp⟩
  case round =>
    obtain ⟨k, A5, c5, hk, rfl, hh, hown, hbel, hsz⟩ := hrel
    have hlk : (l.take k).length = k := by rw [List.length_take]; omega
    have HLK := hid hlk
    clear hlk
    by_cases hlt : k < l.length
    · have hc0 : wr.cell? ⟨w.heap.size, 0, none⟩ = some (.slice A5 k c5) := row_cell hh.out 0
      have hf0 : wr.frozen? ⟨w.heap.size, 0, none⟩ = false := row_free hh.out 0
      obtain ⟨b, off, rfl, hb, hcell⟩ := (h.below (hbel.mono hB)).cells k hlt
      have hck := hcell k hlt
      have hb8 := h.small l[k] (List.getElem_mem _)
      have hk0 : (k : Int) < (l.length : Int) := by omega
      have hk00 : 0 ≤ (k : Int) := by omega
      have hk5 : k + 1 ≤ 140737488355328 := by omega
      have HD : Hid (l.take k ++ [l[k]] = l.take (k + 1)) := (List.take_succ_eq_append_getElem hlt).symm
      clear hcell
      go_wp2
      have hcA : Hid (∀ o, (wr.alloc o).drew.cell? ⟨w.heap.size, 0, none⟩ = some (.slice A5 k c5)) := fun o => (World.cell?_alloc_lt wr o ⟨w.heap.size, 0, none⟩ hsz).trans hc0
      have hfA : Hid (∀ o, (wr.alloc o).drew.frozen? ⟨w.heap.size, 0, none⟩ = false) := fun o => (frozen_alloc_lt wr o ⟨w.heap.size, 0, none⟩ hsz).trans hf0
      have HHA : Hid (∀ o, (wr.alloc o).drew.heap[w.heap.size]? = some (.cells #[.slice A5 k c5, .int .i64 0, .bool false] 107 (0, 0))) := fun o => (Below.heap_alloc wr o _ hsz).trans hh.out
      go_region_law ((refine step_append_byteN (by rfl) _ _ 23 (by rfl) (w.heap.size + 1) 5 i0 Tryz.underlying23 hi hz0 hz1 hz2 A5 c5 (l.take k) k HLK.out (by rfl) ((hown.alloc _).drew) ⟨wr.heap.size, 0, none⟩ 1 l[k] _ (by rfl) hb8 (by rfl) (by simp) (l.take (k + 1)) HD.out hk5 (by simp; omega) ?_; intro A6 c6 w6 hown6 hbel6 hgr6 hat6; have hc6 := (hbel6.cell (p := ⟨w.heap.size, 0, none⟩) (by simp)).trans (hcA.out _); have hf6 := (hbel6.frozen (p := ⟨w.heap.size, 0, none⟩) (by simp)).trans (hfA.out _)))
      all_goals
        have hh6 : w6.heap[w.heap.size]? = some (.cells #[.slice A5 k c5, .int .i64 0, .bool false] 107 (0, 0)) := (hbel6.block w.heap.size (by omega)).trans (HHA.out _)
        have HO : Hid ((w6.setCell ⟨w.heap.size, 0, none⟩ (.slice A6 (k + 1) c6)).heap[w.heap.size]? = some (.cells #[.slice A6 (k + 1) c6, .int .i64 0, .bool false] 107 (0, 0))) := row_set hh6 0 _
        have hb6 : Below w.heap.size w w6 := (((hbel.alloc hbel.size _).drew).trans (hbel6.mono (by omega)))
        have hsz6 : w.heap.size < w6.heap.size := row_lt hh6
        have HP : Hid (OwnsB 5 (w6.setCell ⟨w.heap.size, 0, none⟩ (.slice A6 (k + 1) c6)) (w.heap.size + 1) A6 c6 (l.take (k + 1)) ∧ Below w.heap.size w (w6.setCell ⟨w.heap.size, 0, none⟩ (.slice A6 (k + 1) c6)) ∧ w.heap.size < (w6.setCell ⟨w.heap.size, 0, none⟩ (.slice A6 (k + 1) c6)).heap.size) :=
          ⟨hown6.grown (grown_setCell w6 w.heap.size 0 _) (fun k hk => by injection hk with hk; omega), hb6.setCell (Nat.le_refl _) _, by simp [World.setCell]; exact hsz6⟩
        clear hown hown6 hbel6 hgr6 hat6 hc6 hf6 hh6 hb6 hbel hc0 hf0 hck HHA hcA hfA
        go_wp2
        go_roundw
        case rel => exact ⟨k + 1, A6, c6, by omega, by go_num, HO.out, HP.out.1, HP.out.2.1, HP.out.2.2⟩
        case measure => simp [RowKit.intOf] <;> omega
    · obtain rfl : k = l.length := by omega
      have HO : Hid (RefR wr w.heap.size wr.heap.size l 0 false) := by
        rw [List.take_length] at hown
        exact ⟨⟨A5, c5, hh.out, hown, fun k hk => (hown.blkLt k hk).2⟩, Nat.zero_le _, hl, hsz, Nat.le_refl _⟩
      clear hown hlt hk
      go_wp2
      go_ret
      exact ⟨rfl, HO.out, hbel⟩
end Go.Proofs.YtdgijnolpjaheaaGreat
