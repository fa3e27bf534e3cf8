/- Texts of the proof, one behind the other: RefReader3, RefRdNew, MsRefG, MsRefH. -/
import Derived.Test.YtpigekbfngalbaaDoorPartAN
import Derived.StillTailTactics
namespace Go.Proofs.YtpigekbfngalbaaDoor
open Go.RowKit

theorem drop_take_snoc (B : List Nat) (p k : Nat) (h : p + k < B.length) : (B.drop p).take k ++ [B[p + k]] = (B.drop p).take (k + 1) := (leftOf_get B p k h).symm

set_option maxRecDepth 100000 in
set_option maxHeartbeats 1600000 in
theorem refRBlob_any (g top : Nat) (B : List Nat) (at' : Nat) (bad : Bool) (w : World) (h : RefR w g top B at' bad) :
    Calls Tryd.prog 79 #[.pointer (some ⟨g, 0, none⟩)] w fun e w' => ∃ a2 b2 A' c', e = .returned (.slice A' (Pk.rdBlob (stOf B at' bad)).1.length c') ∧ OwnsB 5 w' w.heap.size A' c' (Pk.rdBlob (stOf B at' bad)).1 ∧
      RefR w' g top B a2 b2 ∧ stOf B a2 b2 = (Pk.rdBlob (stOf B at' bad)).2 ∧ w.grownBy w' (some g) := by
  obtain ⟨i0, hi, hz0, hz1, hz2⟩ := info_parts info_u8
  have hgt := h.top_
  rcases stOf_cases B at' bad with hl | ⟨rfl, hl⟩
  · have HE : Hid (Pk.rdBlob (stOf B at' bad) = ([], Pk.gone)) := by
      show _ = _
      unfold Pk.rdBlob; rw [stOf_short B at' bad hl]; rfl
    have HI := hid (refRInt_short g top B at' bad w h hl)
    clear h hl
    go_enter Tryd.func79, Tryd.ntmps79
    go_wp2_with fail
    refine HI.out.mono ?_
    rintro e w1 ⟨rfl, hR, hG⟩
    obtain ⟨A, c, hc0, hc1, hc2, _, hc⟩ := hR.cells
    have hf2 := hR.free 2
    have HB := hid (hR.setBad true)
    clear hR
    go_wp2_with fail
    go_ret
    rw [HE.out]
    exact ⟨at', true, none, 0, rfl, OwnsB.nil _ _ _, HB.out.1, rfl, hG.trans HB.out.2⟩
  · have HI := hid (refRInt_long g top B at' w h hl)
    have HBL : Hid (Pk.rdInt (stOf B at' false) = (Pk.sgn (Pk.num ((B.drop at').take 8)), stOf B (at' + 8) false)) := stOf_long B at' hl
    have hsm := h.cells
    obtain ⟨_, _, _, _, _, hbs, _⟩ := hsm
    have hvin := Pk.sgn_in _ (Pk.take_num_lt (B.drop at') (fun x hx => hbs.small x (List.mem_of_mem_drop hx)))
    have hsmall := hbs.small
    have HSM := hid hsmall
    have hsh := h.short
    clear h hbs hsmall
    obtain ⟨v, hv⟩ : ∃ v, v = Pk.sgn (Pk.num ((B.drop at').take 8)) := ⟨_, rfl⟩
    rw [← hv] at HI HBL hvin
    clear hv
    have hv1 := hvin.1
    have hv2 := hvin.2
    have hll : (leftOf B (at' + 8) false).length = B.length - (at' + 8) := by simp [leftOf]
    have HLL := hid hll
    clear hvin hll
    by_cases hneg : v < 0
    · have HE : Hid (Pk.rdBlob (stOf B at' false) = ([], Pk.gone)) := by
        show _ = _
        unfold Pk.rdBlob; rw [HBL.out, if_pos (Or.inr (Or.inl hneg))]
      go_enter Tryd.func79, Tryd.ntmps79
      go_wp2_with fail
      refine HI.out.mono ?_
      rintro e w1 ⟨rfl, hR, hG⟩
      obtain ⟨A, c, hc0, hc1, hc2, _, hc⟩ := hR.cells
      have hf2 := hR.free 2
      have HB := hid (hR.setBad true)
      clear hR
      go_wp2_with fail
      go_ret
      rw [HE.out]
      exact ⟨_, true, none, 0, rfl, OwnsB.nil _ _ _, HB.out.1, rfl, hG.trans HB.out.2⟩
    · obtain ⟨m, rfl⟩ : ∃ m : Nat, v = (m : Int) := ⟨v.toNat, by omega⟩
      by_cases hbig : B.length - (at' + 8) < m
      · have HE : Hid (Pk.rdBlob (stOf B at' false) = ([], Pk.gone)) := by
          show _ = _
          unfold Pk.rdBlob; rw [HBL.out, if_pos (Or.inr (Or.inr (by show (((leftOf B (at' + 8) false).length : Nat) : Int) < _; rw [HLL.out]; omega)))]
        go_enter Tryd.func79, Tryd.ntmps79
        go_wp2_with fail
        refine HI.out.mono ?_
        rintro e w1 ⟨rfl, hR, hG⟩
        obtain ⟨A, c, hc0, hc1, hc2, _, hc⟩ := hR.cells
        have HL := hid (refLeft_any g top B (at' + 8) false w1 hR)
        have HR := hid hR
        clear hR
        go_wp2_with fail
        refine HL.out.mono ?_
        rintro e w2 ⟨rfl, n, rfl⟩
        rw [HLL.out]
        have hf2 := (HR.out.drewN n).free 2
        have HB := hid ((HR.out.drewN n).setBad true)
        go_wp2_with fail
        go_ret
        rw [HE.out]
        exact ⟨_, true, none, 0, rfl, OwnsB.nil _ _ _, HB.out.1, rfl, (grown_drewN hG n).trans HB.out.2⟩
      · have HE : Hid (Pk.rdBlob (stOf B at' false) = ((B.drop (at' + 8)).take m, stOf B (at' + 8 + m) false)) := by
          show _ = _
          unfold Pk.rdBlob; rw [HBL.out, if_neg (by
            rintro (h | h | h)
            · simp [stOf] at h
            · omega
            · have h2 : (((leftOf B (at' + 8) false).length : Nat) : Int) < (m : Int) := h
              rw [HLL.out] at h2; omega)]
          simp [stOf, leftOf]
        go_enter Tryd.func79, Tryd.ntmps79
        go_wp2_with fail
        refine HI.out.mono ?_
        rintro e w1 ⟨rfl, hR, hG⟩
        obtain ⟨A, c, hc0, hc1, hc2, _, hc⟩ := hR.cells
        have HL := hid (refLeft_any g top B (at' + 8) false w1 hR)
        have HR := hid hR
        have hsz1 := hG.size
        have HG := hid hG
        clear hR hG
        go_wp2_with fail
        refine HL.out.mono ?_
        rintro e w2 ⟨rfl, n, rfl⟩
        rw [HLL.out]
        go_wp2_with fail
        go_loopw [4, 5] (fun b i wr => ∃ k : Nat, ∃ A5 : Option Addr, ∃ c5 : Nat, k ≤ m ∧ i = .int .i64 k ∧ b = .slice A5 k c5 ∧ OwnsB 5 wr w.heap.size A5 c5 ((B.drop (at' + 8)).take k) ∧ RefR wr g top B (at' + 8) false ∧ w.grownBy wr (some g)) (fun _ i _ => m - (RowKit.intOf i).toNat)
        case atStart => exact ⟨0, none, 0, by omega, rfl, rfl, OwnsB.nil _ _ _, HR.out.drewN n, grown_drewN HG.out n⟩
        case round =>
          clear hc0 hc1 hc2 HR HG HI HL hc
          obtain ⟨k, A5, c5, hk, rfl, rfl, hown, hR, hG⟩ := hrel
          have hlk : ((B.drop (at' + 8)).take k).length = k := by rw [List.length_take, List.length_drop]; omega
          have HLK := hid hlk
          clear hlk
          by_cases hlt : k < m
          · obtain ⟨A, c, hc0, hc1, hc2, hb, hc⟩ := hR.cells
            obtain ⟨b, off, rfl, hbt, hcell⟩ := hb.cells (at' + 8 + k) (by omega)
            have hck := hcell (at' + 8 + k) (by omega)
            have hb8 := hb.small B[at' + 8 + k] (List.getElem_mem _)
            have e1 : IntKind.i64.wrap ((at' : Int) + 8 + (k : Int)) = (at' : Int) + 8 + (k : Int) := IntWalk.i64_in _ (by omega)
            have e4 : ((at' : Int) + 8 + (k : Int)).toNat = at' + 8 + k := by omega
            have e5 : 0 ≤ (at' : Int) + 8 + (k : Int) := by omega
            have e6 : at' + 8 + k < B.length := by omega
            have e7 : (at' : Int) + 8 + (k : Int) < (B.length : Int) := by omega
            have HD := hid (drop_take_snoc B (at' + 8) k e6)
            have HR := hid hR
            have HG := hid hG
            have hsz := hG.size
            have hgw : g < w.heap.size := by omega
            have hbw : b < w.heap.size := by omega
            have hk5 : k + 1 ≤ 140737488355328 := by omega
            clear hcell hb hR hG
            go_wp2
            go_region_held3 (fun w' => w'.cell? ⟨g, 0, none⟩ = some (.slice (some ⟨b, off, none⟩) B.length c) ∧ w'.cell? ⟨g, 1, none⟩ = some (.int .i64 ((at' : Int) + 8)) ∧ w'.cell? ⟨b, off + (at' + 8 + k), none⟩ = some (.int .u8 (B[at' + 8 + k] : Nat)))
              (first
                | go_keep
                | (go_split_ands
                   refine ⟨?_, ?_, ?_⟩
                   · (rw [hbel.cell (by simp; omega)]; assumption)
                   · (rw [hbel.cell (by simp; omega)]; assumption)
                   · (rw [hbel.cell (by simp; omega)]; assumption)))
              ((refine step_append_byteN (by rfl) _ _ 23 (by rfl) w.heap.size 5 i0 Tryd.underlying23 hi hz0 hz1 hz2 A5 c5 ((B.drop (at' + 8)).take k) k HLK.out (by rfl) ((hown.alloc _).drew) ⟨wr.heap.size, 0, none⟩ 1 B[at' + 8 + k] _ (by rfl) hb8 (by rfl) (by simp) ((B.drop (at' + 8)).take (k + 1)) HD.out hk5 (by simp; omega) ?_; intro A6 c6 w6 hown6 hbel hgr6 hat6))
            have hb6 : Below w.heap.size wr w6 := (((Below.refl _ wr).alloc hsz _).drew).trans hbel
            have hlt5 := hown.blkLt
            have HO : Hid (OwnsB 5 w6 w.heap.size A6 c6 ((B.drop (at' + 8)).take (k + 1)) ∧ RefR w6 g top B (at' + 8) false ∧ w.grownBy w6 (some g)) :=
              ⟨hown6, ((HR.out.other (grown_drew (World.grownBy_alloc wr _ none)) (fun k e => by cases e)).other hgr6 (fun k e => by have := hlt5 k e; omega)), grown_then HG.out hb6⟩
            clear hown hown6 hbel hgr6 hat6 hb6 hlt5 hc0 hc1 hc2 hck e1 e4 e5 e7
            go_wp2
            go_roundw
            case rel => exact ⟨k + 1, A6, c6, by omega, by go_num, rfl, HO.out.1, HO.out.2.1, HO.out.2.2⟩
            case measure => simp [RowKit.intOf] <;> omega
          · obtain rfl : k = m := by omega
            obtain ⟨A, c, hc0, hc1, hc2, hb, hc⟩ := hR.cells
            have hf1 := hR.free 1
            have HA : Hid (RefR (wr.setCell ⟨g, 1, none⟩ (.int .i64 ((at' : Int) + 8 + (k : Int)))) g top B (at' + 8 + k) false ∧ wr.grownBy (wr.setCell ⟨g, 1, none⟩ (.int .i64 ((at' : Int) + 8 + (k : Int)))) (some g)) := hR.setAt (at' + 8 + k) (by omega)
            have HO := hid (hown.grown HA.out.2 (fun j hj => by injection hj with hj; omega))
            have HG := hid hG
            clear hown hb hR hG
            go_wp2
            go_ret
            rw [HE.out]
            exact ⟨_, _, A5, c5, ret_len HLK.out.symm, HO.out, HA.out.1, rfl, HG.out.trans HA.out.2⟩
end Go.Proofs.YtpigekbfngalbaaDoor
namespace Go.Proofs.YtpigekbfngalbaaDoor
open Go.RowKit
set_option maxRecDepth 100000

theorem frozen_alloc_lt (w : World) (o : Obj) (p : Addr) (h : p.block < w.heap.size) : (w.alloc o).frozen? p = w.frozen? p := ((Below.refl w.heap.size w).alloc (Nat.le_refl _) o).frozen h
set_option maxRecDepth 100000 in
set_option maxHeartbeats 1600000 in
theorem refReader_any (B0 : Nat) (A : Option Addr) (c : Nat) (l : List Nat) (hl : l.length ≤ 1000000) (w : World) (h : IsBytes w B0 A l) (hB : B0 ≤ w.heap.size) :
    Calls Tryd.prog 52 #[.slice A l.length c] w fun e w' => e = .returned (.pointer (some ⟨w.heap.size, 0, none⟩)) ∧ RefR w' w.heap.size w'.heap.size l 0 false ∧ Below w.heap.size w w' := by
  obtain ⟨i0, hi, hz0, hz1, hz2⟩ := info_parts info_u8
  go_enter Tryd.func52, Tryd.ntmps52
  go_wp2
  go_loopw [4] (fun i wr => ∃ k : Nat, ∃ A5 : Option Addr, ∃ c5 : Nat, k ≤ l.length ∧ i = .int .i64 k ∧ Hid (wr.heap[w.heap.size]? = some (.cells #[.slice A5 k c5, .int .i64 0, .bool false] 70 (0, 0))) ∧ OwnsB 5 wr (w.heap.size + 1) A5 c5 (l.take k) ∧ Below w.heap.size w wr ∧ w.heap.size < wr.heap.size) (fun i _ => l.length - (RowKit.intOf i).toNat)
  case atStart => exact ⟨0, none, 0, by omega, rfl, heap_alloc_new w _, OwnsB.nil _ _ _, (Below.refl _ _).alloc (Nat.le_refl _) _, by simp⟩
  case round =>
    obtain ⟨k, A5, c5, hk, rfl, hh, hown, hbel, hsz⟩ := hrel
    have hlk : (l.take k).length = k := by rw [List.length_take]; omega
    have HLK := hid hlk
    clear hlk
    by_cases hlt : k < l.length
    · have hc0 : wr.cell? ⟨w.heap.size, 0, none⟩ = some (.slice A5 k c5) := row_cell hh.out 0
      have hf0 : wr.frozen? ⟨w.heap.size, 0, none⟩ = false := row_free hh.out 0
      obtain ⟨b, off, rfl, hb, hcell⟩ := (h.below (hbel.mono hB)).cells k hlt
      have hck := hcell k hlt
      have hb8 := h.small l[k] (List.getElem_mem _)
      have hk0 : (k : Int) < (l.length : Int) := by omega
      have hk00 : 0 ≤ (k : Int) := by omega
      have hk5 : k + 1 ≤ 140737488355328 := by omega
      have HD : Hid (l.take k ++ [l[k]] = l.take (k + 1)) := (List.take_succ_eq_append_getElem hlt).symm
      clear hcell
      go_wp2
      have hcA : Hid (∀ o, (wr.alloc o).drew.cell? ⟨w.heap.size, 0, none⟩ = some (.slice A5 k c5)) := fun o => (World.cell?_alloc_lt wr o ⟨w.heap.size, 0, none⟩ hsz).trans hc0
      have hfA : Hid (∀ o, (wr.alloc o).drew.frozen? ⟨w.heap.size, 0, none⟩ = false) := fun o => (frozen_alloc_lt wr o ⟨w.heap.size, 0, none⟩ hsz).trans hf0
      have HHA : Hid (∀ o, (wr.alloc o).drew.heap[w.heap.size]? = some (.cells #[.slice A5 k c5, .int .i64 0, .bool false] 70 (0, 0))) := fun o => (Below.heap_alloc wr o _ hsz).trans hh.out
      go_region_law ((refine step_append_byteN (by rfl) _ _ 23 (by rfl) (w.heap.size + 1) 5 i0 Tryd.underlying23 hi hz0 hz1 hz2 A5 c5 (l.take k) k HLK.out (by rfl) ((hown.alloc _).drew) ⟨wr.heap.size, 0, none⟩ 1 l[k] _ (by rfl) hb8 (by rfl) (by simp) (l.take (k + 1)) HD.out hk5 (by simp; omega) ?_; intro A6 c6 w6 hown6 hbel6 hgr6 hat6; have hc6 := (hbel6.cell (p := ⟨w.heap.size, 0, none⟩) (by simp)).trans (hcA.out _); have hf6 := (hbel6.frozen (p := ⟨w.heap.size, 0, none⟩) (by simp)).trans (hfA.out _)))
      all_goals
        have hh6 : w6.heap[w.heap.size]? = some (.cells #[.slice A5 k c5, .int .i64 0, .bool false] 70 (0, 0)) := (hbel6.block w.heap.size (by omega)).trans (HHA.out _)
        have HO : Hid ((w6.setCell ⟨w.heap.size, 0, none⟩ (.slice A6 (k + 1) c6)).heap[w.heap.size]? = some (.cells #[.slice A6 (k + 1) c6, .int .i64 0, .bool false] 70 (0, 0))) := row_set hh6 0 _
        have hb6 : Below w.heap.size w w6 := (((hbel.alloc hbel.size _).drew).trans (hbel6.mono (by omega)))
        have hsz6 : w.heap.size < w6.heap.size := row_lt hh6
        have HP : Hid (OwnsB 5 (w6.setCell ⟨w.heap.size, 0, none⟩ (.slice A6 (k + 1) c6)) (w.heap.size + 1) A6 c6 (l.take (k + 1)) ∧ Below w.heap.size w (w6.setCell ⟨w.heap.size, 0, none⟩ (.slice A6 (k + 1) c6)) ∧ w.heap.size < (w6.setCell ⟨w.heap.size, 0, none⟩ (.slice A6 (k + 1) c6)).heap.size) :=
          ⟨hown6.grown (grown_setCell w6 w.heap.size 0 _) (fun k hk => by injection hk with hk; omega), hb6.setCell (Nat.le_refl _) _, by simp [World.setCell]; exact hsz6⟩
        clear hown hown6 hbel6 hgr6 hat6 hc6 hf6 hh6 hb6 hbel hc0 hf0 hck HHA hcA hfA
        go_wp2
        go_roundw
        case rel => exact ⟨k + 1, A6, c6, by omega, by go_num, HO.out, HP.out.1, HP.out.2.1, HP.out.2.2⟩
        case measure => simp [RowKit.intOf] <;> omega
    · obtain rfl : k = l.length := by omega
      have HO : Hid (RefR wr w.heap.size wr.heap.size l 0 false) := by
        rw [List.take_length] at hown
        exact ⟨⟨A5, c5, hh.out, hown, fun k hk => (hown.blkLt k hk).2⟩, Nat.zero_le _, hl, hsz, Nat.le_refl _⟩
      clear hown hlt hk
      go_wp2
      go_ret
      exact ⟨rfl, HO.out, hbel⟩
end Go.Proofs.YtpigekbfngalbaaDoor
namespace Go.Proofs.YtpigekbfngalbaaDoor.Ms
open Go.RowKit
set_option maxRecDepth 100000
set_option linter.unusedVariables false
attribute [local go_sem ↓] loadAt_msg storeAt_msg

theorem allR_cases (r : Nat) (hr : r ∈ allR) : (r = 103 ∧ rix r = 0 ∧ ix r = 3) ∨ (r = 116 ∧ rix r = 1 ∧ ix r = 4) ∨ (r = 105 ∧ rix r = 2 ∧ ix r = 5) ∨ (r = 112 ∧ rix r = 3 ∧ ix r = 6) ∨ (r = 99 ∧ rix r = 4 ∧ ix r = 7) ∨ (r = 114 ∧ rix r = 5 ∧ ix r = 8) ∨
    (r = 115 ∧ rix r = 6 ∧ ix r = 13) ∨ (r = 120 ∧ rix r = 7 ∧ ix r = 9) ∨ (r = 97 ∧ rix r = 8 ∧ ix r = 10) ∨ (r = 98 ∧ rix r = 9 ∧ ix r = 11) ∨ (r = 118 ∧ rix r = 10 ∧ ix r = 12) := by
  revert r; decide
theorem allR_nums : ∀ r ∈ allR, r ∈ nums := by decide
set_option maxHeartbeats 6400000 in
theorem with_any (m : M) (A : Option Addr) (c : Nat) (A' : Option Addr) (c' : Nat) (r : Nat) (hr : r ∈ allR) (k : Int) (hk : rix r = k) (v : Int) (w : World) :
    Calls Tryd.prog 80 #[.agg #[.int .i64 m.K, .int .i64 m.F, .int .i64 m.T, .int .i64 m.g, .int .i64 m.t, .int .i64 m.i, .int .i64 m.p, .int .i64 m.c, .int .i64 m.r, .int .i64 m.x, .int .i64 m.a, .int .i64 m.b, .int .i64 m.v, .int .i64 m.s, .bool m.ok, .slice A m.es.length c, .slice A' m.d.length c'], .int .i64 k, .int .i64 v] w fun e w' => ∃ m', m' = m.set r v ∧ e = .returned (.agg #[.int .i64 m'.K, .int .i64 m'.F, .int .i64 m'.T, .int .i64 m'.g, .int .i64 m'.t, .int .i64 m'.i, .int .i64 m'.p, .int .i64 m'.c, .int .i64 m'.r, .int .i64 m'.x, .int .i64 m'.a, .int .i64 m'.b, .int .i64 m'.v, .int .i64 m'.s, .bool m'.ok, .slice A m'.es.length c, .slice A' m'.d.length c']) ∧ Below w.heap.size w w' := by
  obtain ⟨m', hm'⟩ : ∃ m', m' = m.set r v := ⟨_, rfl⟩
  have hes := set_es m r v
  obtain ⟨i, hi⟩ : ∃ i, i = ix r := ⟨_, rfl⟩
  have hset := set_cells m A c A' c' r (allR_nums r hr) v
  have hcs := allR_cases r hr
  rw [hk, ← hi] at hcs
  rw [← hi] at hset
  rw [← hm'] at hset hes
  obtain ⟨w2, hw2⟩ : ∃ w2, w2 = (w.alloc (.cells ((#[.int .i64 m.K, .int .i64 m.F, .int .i64 m.T, .int .i64 m.g, .int .i64 m.t, .int .i64 m.i, .int .i64 m.p, .int .i64 m.c, .int .i64 m.r, .int .i64 m.x, .int .i64 m.a, .int .i64 m.b, .int .i64 m.v, .int .i64 m.s, .bool m.ok, .slice A m.es.length c, .slice A' m.d.length c'] : Array Value).setIfInBounds i (.int .i64 v)) 25)).alloc (.cells #[.int .i64 0, .int .i64 0, .int .i64 0, .int .i64 0, .int .i64 0, .int .i64 0, .int .i64 0, .int .i64 0, .int .i64 0, .int .i64 0, .int .i64 0, .int .i64 0, .int .i64 0, .int .i64 0, .bool false, .slice none 0 0, .slice none 0 0] 25) := ⟨_, rfl⟩
  have h0 : (w.alloc (.cells ((#[.int .i64 m.K, .int .i64 m.F, .int .i64 m.T, .int .i64 m.g, .int .i64 m.t, .int .i64 m.i, .int .i64 m.p, .int .i64 m.c, .int .i64 m.r, .int .i64 m.x, .int .i64 m.a, .int .i64 m.b, .int .i64 m.v, .int .i64 m.s, .bool m.ok, .slice A m.es.length c, .slice A' m.d.length c'] : Array Value).setIfInBounds i (.int .i64 v)) 25)).heap.size = w.heap.size + 1 := by simp
  have hb2 : Below w.heap.size w w2 := by rw [hw2]; exact ((Below.refl _ w).alloc (Nat.le_refl _) _).alloc (by simp) _
  have hz2 : w2.heap[w.heap.size + 1]? = some (.cells #[.int .i64 0, .int .i64 0, .int .i64 0, .int .i64 0, .int .i64 0, .int .i64 0, .int .i64 0, .int .i64 0, .int .i64 0, .int .i64 0, .int .i64 0, .int .i64 0, .int .i64 0, .int .i64 0, .bool false, .slice none 0 0, .slice none 0 0] 25 (0, 0)) := by
    rw [hw2, ← h0]; exact heap_alloc_new _ _
  have hx2 : Bx w2 w.heap.size m' A c A' c' := ⟨by
    rw [hw2, ← hset]
    exact ((Below.refl _ (w.alloc (.cells ((#[.int .i64 m.K, .int .i64 m.F, .int .i64 m.T, .int .i64 m.g, .int .i64 m.t, .int .i64 m.i, .int .i64 m.p, .int .i64 m.c, .int .i64 m.r, .int .i64 m.x, .int .i64 m.a, .int .i64 m.b, .int .i64 m.v, .int .i64 m.s, .bool m.ok, .slice A m.es.length c, .slice A' m.d.length c'] : Array Value).setIfInBounds i (.int .i64 v)) 25))).alloc (Nat.le_refl _) _).block _ (by omega) |>.trans (heap_alloc_new w _)⟩
  have hst := st_row w2 (w.heap.size + 1) _ (#[.int .i64 m'.K, .int .i64 m'.F, .int .i64 m'.T, .int .i64 m'.g, .int .i64 m'.t, .int .i64 m'.i, .int .i64 m'.p, .int .i64 m'.c, .int .i64 m'.r, .int .i64 m'.x, .int .i64 m'.a, .int .i64 m'.b, .int .i64 m'.v, .int .i64 m'.s, .bool m'.ok, .slice A m'.es.length c, .slice A' m'.d.length c']) hz2 rfl rfl (msg_one m' A c A' c')
  have hld := hx2.load
  obtain ⟨w3, hw3⟩ : ∃ w3, w3 = w2.setRow (w.heap.size + 1) (#[.int .i64 m'.K, .int .i64 m'.F, .int .i64 m'.T, .int .i64 m'.g, .int .i64 m'.t, .int .i64 m'.i, .int .i64 m'.p, .int .i64 m'.c, .int .i64 m'.r, .int .i64 m'.x, .int .i64 m'.a, .int .i64 m'.b, .int .i64 m'.v, .int .i64 m'.s, .bool m'.ok, .slice A m'.es.length c, .slice A' m'.d.length c']) := ⟨_, rfl⟩
  have ht3 : Turned (fun k => k = w.heap.size + 1) w2 w3 := by rw [hw3]; exact set_turned _ _ _
  have hb3 : Below w.heap.size w w3 := hb2.trans ⟨ht3.os, ht3.tape, ht3.output, ht3.size, fun k hk => ht3.block k (Nat.lt_of_lt_of_le hk hb2.size) (by omega)⟩
  have hr3 : w3.heap[w.heap.size + 1]? = some (.cells (#[.int .i64 m'.K, .int .i64 m'.F, .int .i64 m'.T, .int .i64 m'.g, .int .i64 m'.t, .int .i64 m'.i, .int .i64 m'.p, .int .i64 m'.c, .int .i64 m'.r, .int .i64 m'.x, .int .i64 m'.a, .int .i64 m'.b, .int .i64 m'.v, .int .i64 m'.s, .bool m'.ok, .slice A m'.es.length c, .slice A' m'.d.length c']) 25 (0, 0)) := by rw [hw3]; exact setRow_heap _ _ _ _ _ _ hz2
  have HR := hid (And.intro hr3 (And.intro hm' hb3))
  rw [← hw3] at hst
  rw [hw2] at hst hld
  clear hes hset hx2 hz2 hb2 hw2 h0 ht3 hb3 hr3 hm' hw3 hi hk hr
  rcases hcs with ⟨_, rfl, rfl⟩ | ⟨_, rfl, rfl⟩ | ⟨_, rfl, rfl⟩ | ⟨_, rfl, rfl⟩ | ⟨_, rfl, rfl⟩ | ⟨_, rfl, rfl⟩ | ⟨_, rfl, rfl⟩ | ⟨_, rfl, rfl⟩ | ⟨_, rfl, rfl⟩ | ⟨_, rfl, rfl⟩ | ⟨_, rfl, rfl⟩
  all_goals
    simp only [List.setIfInBounds_toArray, List.set_cons_zero, List.set_cons_succ] at hld hst
    go_enter Tryd.func80, Tryd.ntmps80
    go_wp2_with fail
    refine bodyPost_ret (results_cell_row rfl _ _ (w.heap.size + 1) _ _ _ _ rfl HR.out.1 Tryd.underlying25 rfl (by rw [info_msg]; rfl)) rfl ?_
    exact ⟨m', HR.out.2.1, rfl, HR.out.2.2⟩
end Go.Proofs.YtpigekbfngalbaaDoor.Ms
namespace Go.Proofs.YtpigekbfngalbaaDoor.Ms
open Go.RowKit
open Pk (St rdInt rdBlob)
set_option maxRecDepth 100000
set_option linter.unusedVariables false

/-! In plain words: a reader that is bad stays so. -/
theorem rdF_gone (m : M) (r : Nat) : ∃ m', rdF m Pk.gone r = some (m', Pk.gone) := by
  unfold rdF
  split
  · exact ⟨_, by rw [if_pos (Or.inl (show (rdInt Pk.gone).1 = 0 from rfl))]; rfl⟩
  · split
    · exact ⟨_, by rw [if_neg (show ¬ ((rdInt Pk.gone).1 < 0 ∨ ((((rdInt Pk.gone).2.rest.length / 24 : Nat) : Int) < (rdInt Pk.gone).1)) from by decide)]; rfl⟩
    · split
      · exact ⟨_, rfl⟩
      · exact ⟨_, rfl⟩
theorem rdEs_gone (n : Nat) : (rdEs n Pk.gone).2 = Pk.gone := by
  induction n with
  | zero => rfl
  | succ n ih => exact ih
/-- what is read up to a place has failed -/
def Bd (L : List Nat) (m0 : M) (s0 : St) : Prop := rdFs L m0 s0 = none ∨ ∃ m', rdFs L m0 s0 = some (m', Pk.gone)
theorem bd_next {L : List Nat} {j : Nat} (hj : j < L.length) {m0 : M} {s0 : St} (h : Bd (L.take j) m0 s0) : Bd (L.take (j + 1)) m0 s0 := by
  rw [List.take_succ_eq_append_getElem hj]
  rcases h with h | ⟨m', h⟩
  · exact .inl (rdFs_none _ _ _ _ h)
  · obtain ⟨m2, h2⟩ := rdF_gone m' L[j]
    exact .inr ⟨m2, by rw [rdFs_snoc, h]; exact h2⟩
theorem bd_of {L : List Nat} {j : Nat} (hj : j < L.length) {m0 m : M} {s0 s : St} (h : rdFs (L.take j) m0 s0 = some (m, s)) (hb : rdF m s L[j] = none ∨ ∃ m', rdF m s L[j] = some (m', Pk.gone)) : Bd (L.take (j + 1)) m0 s0 := by
  unfold Bd
  rw [rdFs_at hj h]
  exact hb
/-- what has come of reading: it goes well, or has failed -/
def Pr (L : List Nat) (m0 : M) (s0 : St) (m : M) (s : St) : Prop := rdFs L m0 s0 = some (m, s) ∨ (s = Pk.gone ∧ Bd L m0 s0)
theorem pr_next {L : List Nat} {j : Nat} (hj : j < L.length) {m0 m m' : M} {s0 s s' : St} (h : Pr (L.take j) m0 s0 m s) (hf : rdF m s L[j] = some (m', s')) (hg : s = Pk.gone → s' = Pk.gone) : Pr (L.take (j + 1)) m0 s0 m' s' := by
  rcases h with h | ⟨h1, h2⟩
  · exact .inl (by rw [rdFs_at hj h]; exact hf)
  · exact .inr ⟨hg h1, bd_next hj h2⟩
/-- it ends with a failure -/
def Ends (L : List Nat) (m0 : M) (s0 : St) : Prop := rdFs L m0 s0 = none ∨ ∃ m s, rdFs L m0 s0 = some (m, s) ∧ over s = false
theorem pr_stop {L : List Nat} {j : Nat} (hj : j < L.length) {m0 m : M} {s0 s : St} (h : Pr (L.take j) m0 s0 m s) (hn : s ≠ Pk.gone → rdF m s L[j] = none) (hg : s = Pk.gone → False) : Ends L m0 s0 := by
  rcases h with h | ⟨h1, h2⟩
  · exact .inl (rdFs_stop hj h (hn (fun e => hg e)))
  · exact absurd h1 hg
theorem bd_all (L : List Nat) (m0 : M) (s0 : St) (h : Bd L m0 s0) : Ends L m0 s0 := by
  rcases h with h | ⟨m', h⟩
  · exact .inl h
  · exact .inr ⟨m', Pk.gone, h, rfl⟩
theorem pr_end {L : List Nat} {m0 m : M} {s0 s : St} (h : Pr L m0 s0 m s) : (over s = true → rdFs L m0 s0 = some (m, s)) ∧ (over s = false → Ends L m0 s0) := by
  rcases h with h | ⟨h1, h2⟩
  · exact ⟨fun _ => h, fun ho => .inr ⟨m, s, h, ho⟩⟩
  · exact ⟨fun ho => (by rw [h1] at ho; cases ho), fun _ => bd_all L m0 s0 h2⟩
theorem rdInt_eats8 (s : St) (h : (rdInt s).2.bad = false) : 8 + (rdInt s).2.rest.length ≤ s.rest.length := by
  unfold rdInt at h ⊢
  split at h
  · cases h
  · rename_i hl
    rw [if_neg hl]
    show 8 + (s.rest.drop 8).length ≤ _
    rw [List.length_drop]; omega
theorem rdInt_well (s : St) (h : (rdInt s).2.bad = false) : s.bad = false := by
  unfold rdInt at h
  split at h
  · cases h
  · exact h
theorem rdBlob_well (s : St) (h : (rdBlob s).2.bad = false) : (rdInt s).2.bad = false ∧ (rdBlob s).2.rest.length ≤ (rdInt s).2.rest.length := by
  unfold rdBlob at h ⊢
  split at h
  · cases h
  · rename_i hl
    rw [if_neg hl]
    refine ⟨?_, by show ((rdInt s).2.rest.drop _).length ≤ _; rw [List.length_drop]; omega⟩
    rcases hh : (rdInt s).2.bad with _ | _
    · rfl
    · exact absurd (Or.inl hh) hl
theorem rdE_eats24 (s : St) (h : (rdE s).2.bad = false) : 24 + (rdE s).2.rest.length ≤ s.rest.length := by
  obtain ⟨h1, h2⟩ := rdBlob_well _ h
  have h3 := rdInt_eats8 _ h1
  have h4 := rdInt_well _ h1
  have h5 := rdInt_eats8 _ h4
  have h6 := rdInt_well _ h4
  have h7 := rdInt_eats8 _ h6
  show 24 + (rdBlob (rdInt (rdInt s).2).2).2.rest.length ≤ _
  omega
theorem stOf_gone {B : List Nat} {a : Nat} {b : Bool} : stOf B a b = Pk.gone ↔ b = true := by
  constructor
  · intro h; have := congrArg St.bad h; exact this
  · rintro rfl; exact stOf_bad B a

/-! In memory. -/
/-- the document's reader at gr, ahead of w0; from there on: the message's box, the box of what is answered, the fields that it has; behind these, below E, what the message leads to -/
structure RdR (w0 W : World) (gr top E : Nat) (L : List Nat) (H : List Int) (m : M) (a : Nat) (b : Bool) (A : Option Addr) (c : Nat) (A' : Option Addr) (c' : Nat) : Prop where
  grn : w0.grownBy W (some gr)
  box : Bx W w0.heap.size m A c A' c'
  zero : Zero W (w0.heap.size + 1)
  has : W.heap[w0.heap.size + 2]? = some (.cells (ints H).toArray 3 (0, 0))
  rdr : RefR W gr top L a b
  lt : gr < w0.heap.size ∧ top ≤ w0.heap.size ∧ w0.heap.size + 3 ≤ E ∧ E ≤ W.heap.size
  es : OwnE W (w0.heap.size + 3) E A c m.es
  d : OwnsB 5 W (w0.heap.size + 3) A' c' m.d
  dE : ∀ k, blk A' = some k → k < E
  num : ∀ r ∈ nums, InInt (m.num r)
  few : m.es.length ≤ 50000
  thin : m.d.length ≤ 1000000
namespace RdR
variable {w0 W W' : World} {gr top E : Nat} {L : List Nat} {H : List Int} {m : M} {a : Nat} {b : Bool} {A A' : Option Addr} {c c' : Nat}
/-- only the reader, and what lies from E on, has turned -/
theorem turned (h : RdR w0 W gr top E L H m a b A c A' c') {S : Nat → Prop} (ht : Turned S W W') (hS : ∀ k, S k → k = gr ∨ E ≤ k) {a2 : Nat} {b2 : Bool} (hr : RefR W' gr top L a2 b2) : RdR w0 W' gr top E L H m a2 b2 A c A' c' := by
  have hl := h.lt
  have hn : ∀ k, w0.heap.size ≤ k → k < E → ¬ S k := fun k h1 h2 e => by rcases hS k e with e | e <;> omega
  refine ⟨⟨ht.os.trans h.grn.os, ht.tape.trans h.grn.tape, ht.output.trans h.grn.output, Nat.le_trans h.grn.size ht.size, fun k hk hne => (ht.block k (by omega) (fun e => ?_)).trans (h.grn.block k hk hne)⟩, ⟨(ht.block _ (row_lt h.box.row) (hn _ (by omega) (by omega))).trans h.box.row⟩, (ht.block _ (row_lt h.zero) (hn _ (by omega) (by omega))).trans h.zero, (ht.block _ (row_lt h.has) (hn _ (by omega) (by omega))).trans h.has, hr, ⟨hl.1, hl.2.1, hl.2.2.1, Nat.le_trans hl.2.2.2 ht.size⟩, ?_, ?_, h.dE, h.num, h.few, h.thin⟩
  · rcases hS k e with e | e
    · exact hne (by rw [e])
    · omega
  · exact h.es.keep ht (fun k hk hB => hn k (by have := hB.1; omega) hB.2 hk)
  · exact h.d.turned ht (fun k hk e => hn k (by have := (h.d.blkLt k hk).1; omega) (h.dE k hk) e)
theorem read (h : RdR w0 W gr top E L H m a b A c A' c') {a2 : Nat} {b2 : Bool} (hr : RefR W' gr top L a2 b2) (hg : W.grownBy W' (some gr)) : RdR w0 W' gr top E L H m a2 b2 A c A' c' :=
  h.turned (Turned.ofGrown (S := fun k => k = gr) hg (fun k hk => (Option.some.inj hk).symm)) (fun k e => .inl e) hr
/-- what lies from E on has turned -/
theorem far (h : RdR w0 W gr top E L H m a b A c A' c') {S : Nat → Prop} (ht : Turned S W W') (hS : ∀ k, S k → E ≤ k) : RdR w0 W' gr top E L H m a b A c A' c' := by
  have hl := h.lt
  refine h.turned ht (fun k e => .inr (hS k e)) ?_
  obtain ⟨A1, c1, h1, h2, h3⟩ := h.rdr.at_
  have hgr := row_lt h1
  refine ⟨⟨A1, c1, (ht.block gr hgr (fun e => by have := hS _ e; omega)).trans h1, h2.turned ht (fun k hk e => by have := hS _ e; have := h3 k hk; omega), h3⟩, h.rdr.le, h.rdr.short, h.rdr.top_.1, Nat.le_trans h.rdr.top_.2 ht.size⟩
theorem drewN (h : RdR w0 W gr top E L H m a b A c A' c') (n : Nat) : RdR w0 (W.drewN n) gr top E L H m a b A c A' c' := h.far (S := fun _ => False) (Turned.ofBelow _ (below_drewN (Below.refl _ W) n)) (fun _ e => e.elim)
theorem drew (h : RdR w0 W gr top E L H m a b A c A' c') : RdR w0 W.drew gr top E L H m a b A c A' c' := h.drewN 1
theorem alloc (h : RdR w0 W gr top E L H m a b A c A' c') (o : Obj) : RdR w0 (W.alloc o) gr top E L H m a b A c A' c' := h.far (S := fun _ => False) (Turned.ofBelow _ ((Below.refl _ W).alloc (Nat.le_refl _) o)) (fun _ e => e.elim)
theorem below (h : RdR w0 W gr top E L H m a b A c A' c') (hb : Below W.heap.size W W') : RdR w0 W' gr top E L H m a b A c A' c' := h.far (S := fun _ => False) (Turned.ofBelow _ hb) (fun _ e => e.elim)
/-- the message's box is written; what it leads to lies below E' -/
theorem put (h : RdR w0 W gr top E L H m a b A c A' c') (ht : Turned (fun k => k = w0.heap.size) W W') {E' : Nat} (hE : E ≤ E' ∧ E' ≤ W.heap.size) {m' : M} {A2 A3 : Option Addr} {c2 c3 : Nat} (hx : Bx W' w0.heap.size m' A2 c2 A3 c3) (he : OwnE W (w0.heap.size + 3) E' A2 c2 m'.es) (hd : OwnsB 5 W (w0.heap.size + 3) A3 c3 m'.d) (hdE : ∀ k, blk A3 = some k → k < E')
    (hn : ∀ r ∈ nums, InInt (m'.num r)) (hf : m'.es.length ≤ 50000) (hth : m'.d.length ≤ 1000000) : RdR w0 W' gr top E' L H m' a b A2 c2 A3 c3 := by
  have hl := h.lt
  have hg : W.grownBy W' (some w0.heap.size) := ⟨ht.os, ht.tape, ht.output, ht.size, fun k hk hne => ht.block k hk (fun e => hne (by rw [e]))⟩
  refine ⟨⟨ht.os.trans h.grn.os, ht.tape.trans h.grn.tape, ht.output.trans h.grn.output, Nat.le_trans h.grn.size ht.size, fun k hk hne => (ht.block k (by omega) (by omega)).trans (h.grn.block k hk hne)⟩, hx, (ht.block _ (row_lt h.zero) (by omega)).trans h.zero, (ht.block _ (row_lt h.has) (by omega)).trans h.has, h.rdr.other hg (fun k hk => by injection hk with hk; omega), ⟨hl.1, hl.2.1, by omega, Nat.le_trans hE.2 ht.size⟩, ?_, ?_, hdE, hn, hf, hth⟩
  · exact he.keep ht (fun k hk hB => by have := hB.1; omega)
  · exact hd.turned ht (fun k hk e => by have := (hd.blkLt k hk).1; omega)
theorem cellH (h : RdR w0 W gr top E L H m a b A c A' c') (i : Nat) (hi : i < H.length) : W.cell? ⟨w0.heap.size + 2, i, none⟩ = some (.int .i64 H[i]) := by
  have := cell_of_row W (w0.heap.size + 2) i _ _ (0, 0) h.has
  rw [this]
  simp [ints, hi]
theorem int (h : RdR w0 W gr top E L H m a b A c A' c') :
    Calls Tryd.prog 53 #[.pointer (some ⟨gr, 0, none⟩)] W fun e w' => ∃ a2 b2, e = .returned (.int .i64 (rdInt (stOf L a b)).1) ∧ RdR w0 w' gr top E L H m a2 b2 A c A' c' ∧ stOf L a2 b2 = (rdInt (stOf L a b)).2 ∧ W.grownBy w' (some gr) :=
  (refRInt_any gr top L a b W h.rdr).mono fun e w' ⟨a2, b2, he, hr, hs, hg⟩ => ⟨a2, b2, he, h.read hr hg, hs, hg⟩
theorem blob (h : RdR w0 W gr top E L H m a b A c A' c') :
    Calls Tryd.prog 79 #[.pointer (some ⟨gr, 0, none⟩)] W fun e w' => ∃ a2 b2 A2 c2, e = .returned (.slice A2 (rdBlob (stOf L a b)).1.length c2) ∧ OwnsB 5 w' W.heap.size A2 c2 (rdBlob (stOf L a b)).1 ∧ RdR w0 w' gr top E L H m a2 b2 A c A' c' ∧ stOf L a2 b2 = (rdBlob (stOf L a b)).2 ∧ W.grownBy w' (some gr) :=
  (refRBlob_any gr top L a b W h.rdr).mono fun e w' ⟨a2, b2, A2, c2, he, ho, hr, hs, hg⟩ => ⟨a2, b2, A2, c2, he, ho, h.read hr hg, hs, hg⟩
theorem small (h : RdR w0 W gr top E L H m a b A c A' c') : (stOf L a b).small ∧ (stOf L a b).rest.length ≤ 1000000 := by
  obtain ⟨A1, c1, h1, h2, h3⟩ := h.rdr.at_
  unfold stOf leftOf
  cases b
  · refine ⟨fun x hx => h2.small x (List.mem_of_mem_drop hx), ?_⟩
    show (L.drop a).length ≤ _
    have := h.rdr.short
    rw [List.length_drop]; omega
  · exact ⟨fun x hx => (by cases hx), Nat.zero_le _⟩
/-- the box is set to a message that leads to what it led to -/
theorem setM (h : RdR w0 W gr top E L H m a b A c A' c') (m' : M) (he : m'.es = m.es) (hd : m'.d = m.d) (hn : ∀ r ∈ nums, InInt (m'.num r)) :
    ∃ W', (stMsg (.pointer (some ⟨w0.heap.size, 0, none⟩)) (.agg #[.int .i64 m'.K, .int .i64 m'.F, .int .i64 m'.T, .int .i64 m'.g, .int .i64 m'.t, .int .i64 m'.i, .int .i64 m'.p, .int .i64 m'.c, .int .i64 m'.r, .int .i64 m'.x, .int .i64 m'.a, .int .i64 m'.b, .int .i64 m'.v, .int .i64 m'.s, .bool m'.ok, .slice A m'.es.length c, .slice A' m'.d.length c'])).run Tryd.prog W = .ok () W' ∧ RdR w0 W' gr top E L H m' a b A c A' c' :=
  ⟨_, st_row W w0.heap.size _ (#[.int .i64 m'.K, .int .i64 m'.F, .int .i64 m'.T, .int .i64 m'.g, .int .i64 m'.t, .int .i64 m'.i, .int .i64 m'.p, .int .i64 m'.c, .int .i64 m'.r, .int .i64 m'.x, .int .i64 m'.a, .int .i64 m'.b, .int .i64 m'.v, .int .i64 m'.s, .bool m'.ok, .slice A m'.es.length c, .slice A' m'.d.length c']) h.box.row rfl rfl (msg_one m' A c A' c'), h.put (set_turned W w0.heap.size #[.int .i64 m'.K, .int .i64 m'.F, .int .i64 m'.T, .int .i64 m'.g, .int .i64 m'.t, .int .i64 m'.i, .int .i64 m'.p, .int .i64 m'.c, .int .i64 m'.r, .int .i64 m'.x, .int .i64 m'.a, .int .i64 m'.b, .int .i64 m'.v, .int .i64 m'.s, .bool m'.ok, .slice A m'.es.length c, .slice A' m'.d.length c']) ⟨Nat.le_refl _, h.lt.2.2.2⟩ ⟨setRow_heap _ _ _ _ _ _ h.box.row⟩ (by rw [he]; exact h.es) (by rw [hd]; exact h.d) h.dE hn (by rw [he]; exact h.few) (by rw [hd]; exact h.thin)⟩
/-- entries have been put behind, and the box tells so -/
theorem app (h : RdR w0 W gr top E L H m a b A c none 0) (hb : Below (w0.heap.size + 3) W W') {A2 : Option Addr} {c2 q : Nat} {K : List Rl.En} (he : OwnE W' (w0.heap.size + 3) W'.heap.size A2 c2 K) (hq : K.length = q) (hf : q ≤ 50000) :
    RdR w0 (W'.setCell ⟨w0.heap.size, 15, none⟩ (.slice A2 q c2)) gr top W'.heap.size L H { m with es := K } a b A2 c2 none 0 := by
  subst hq
  have hl := h.lt
  have hd : m.d = [] := h.d.reads.of_none
  have hx : Bx W' w0.heap.size m A c none 0 := h.box.below hb (by omega)
  have ht : Turned (fun k => k = w0.heap.size) W' (W'.setCell ⟨w0.heap.size, 15, none⟩ (.slice A2 K.length c2)) := Turned.ofGrown (grown_setCell _ _ _ _) (fun k hk => (Option.some.inj hk).symm)
  have hg := grown_setCell W' w0.heap.size 15 (.slice A2 K.length c2)
  have hz : Zero W' (w0.heap.size + 1) := (hb.block _ (by omega)).trans h.zero
  have hh : W'.heap[w0.heap.size + 2]? = some (.cells (ints H).toArray 3 (0, 0)) := (hb.block _ (by omega)).trans h.has
  refine ⟨⟨ht.os.trans (hb.os.trans h.grn.os), ht.tape.trans (hb.tape.trans h.grn.tape), ht.output.trans (hb.output.trans h.grn.output), Nat.le_trans h.grn.size (Nat.le_trans hb.size ht.size), fun k hk hne => (ht.block k (Nat.lt_of_lt_of_le hk (Nat.le_trans h.grn.size hb.size)) (by omega)).trans ((hb.block k (by omega)).trans (h.grn.block k hk hne))⟩, ⟨by rw [row_set hx.row]; rfl⟩, (ht.block _ (row_lt hz) (by omega)).trans hz, (ht.block _ (row_lt hh) (by omega)).trans hh, (h.rdr.belowB hb (by omega)).other hg (fun k hk => by injection hk with hk; omega), ⟨hl.1, hl.2.1, Nat.le_trans hl.2.2.1 (Nat.le_trans hl.2.2.2 hb.size), ht.size⟩, ?_, ?_, (fun k hk => by cases hk), h.num, hf, h.thin⟩
  · exact he.keep ht (fun k hk hB => by have := hB.1; omega)
  · show OwnsB _ _ _ _ _ m.d
    rw [hd]; exact OwnsB.nil _ _ _
theorem badCell (h : RdR w0 W gr top E L H m a b A c A' c') : W.cell? ⟨gr, 2, none⟩ = some (.bool b) := by
  obtain ⟨_, _, _, _, h2, _⟩ := h.rdr.cells
  exact h2
end RdR
theorem stOf_ok (B : List Nat) (a : Nat) (b : Bool) : (stOf B a b).ok := by
  intro h
  have h' : b = true := h
  subst h'; rfl
/-- an entry's box behind all that -/
def Eb (W : World) (g : Nat) (t k : Int) (x : Value) : Prop := W.heap[g]? = some (.cells #[.int .i64 t, .int .i64 k, x] 61 (0, 0))
set_option maxHeartbeats 1600000 in
theorem has_new (K : Int) (h : 1 ≤ K ∧ K ≤ 11) (n : Nat) (hn : (hasL K).length = n) (w : World) :
    Calls Tryd.prog 37 #[.int .i64 K] w fun e w' => e = .returned (.slice (some ⟨w.heap.size, 0, none⟩) n n) ∧ w' = w.alloc (.cells (ints (hasL K)).toArray 3) := by
  have hc : K = 1 ∨ K = 2 ∨ K = 3 ∨ K = 4 ∨ K = 5 ∨ K = 6 ∨ K = 7 ∨ K = 8 ∨ K = 9 ∨ K = 10 ∨ K = 11 := by omega
  subst hn
  clear h
  rcases hc with rfl | rfl | rfl | rfl | rfl | rfl | rfl | rfl | rfl | rfl | rfl <;>
  · go_enter Tryd.func37, Tryd.ntmps37
    go_wp2
    go_ret
    exact ⟨rfl, rfl⟩
end Go.Proofs.YtpigekbfngalbaaDoor.Ms
