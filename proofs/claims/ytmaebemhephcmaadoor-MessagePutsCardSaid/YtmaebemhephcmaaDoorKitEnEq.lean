/- The walks through the functions that hold entries against one another. -/
import Derived.Test.YtmaebemhephcmaaDoorEnts
import Derived.Test.YtmaebemhephcmaaDoorKitEq
import Derived.StillTailTactics
import Derived.Deep.QuietTactic
import Derived.BigQuiet
namespace Go.Proofs.YtmaebemhephcmaaDoor
open Go.RowKit

set_option maxHeartbeats 800000 in
set_option maxRecDepth 100000 in
theorem ent_same (p q : Rl.En) (A A' : Option Addr) (c c' : Nat) (hp : p.d.length ≤ maxLen) (hq : q.d.length ≤ maxLen) (w : World) (h : IsBytes w w.heap.size A p.d) (h' : IsBytes w w.heap.size A' q.d) :
    Calls Tryd.prog 71 #[.agg #[.int .i64 p.t, .int .i64 p.k, .slice A p.d.length c], .agg #[.int .i64 q.t, .int .i64 q.k, .slice A' q.d.length c']] w fun e w' => e = .returned (.bool (decide (p = q))) ∧ Below w.heap.size w w' := by
  obtain ⟨w1, hw1⟩ : ∃ w1, w1 = (w.alloc (.cells #[.int .i64 p.t, .int .i64 p.k, .slice A p.d.length c] 61)).alloc (.cells #[.int .i64 q.t, .int .i64 q.k, .slice A' q.d.length c'] 61) := ⟨_, rfl⟩
  have hb1 : Below w.heap.size w w1 := by rw [hw1]; exact ((Below.refl _ w).alloc (Nat.le_refl _) _).alloc (by simp) _
  have HS := hid (same_any w1.heap.size w1.heap.size A A' c c' p.d q.d hp hq w1 ((h.below hb1).more hb1.size) ((h'.below hb1).more hb1.size))
  have HB := hid hb1
  rw [hw1] at HS HB
  clear hb1 hw1 h h'
  by_cases ha : p.t = q.t
  · by_cases hb : p.k = q.k
    · by_cases hd : p.d = q.d
      · have HE : Hid (decide (p = q) = true) := hid (decide_eq_true (by cases p; cases q; simp at ha hb hd; simp [ha, hb, hd]))
        rw [decide_eq_true hd] at HS
        clear hd
        rw [ha, hb] at HS HB
        rw [HE.out]
        go_enter Tryd.func71, Tryd.ntmps71
        go_wp2_with fail
        refine HS.out.mono ?_
        rintro e w2 ⟨rfl, n, hw2⟩
        have HW : Hid (Below w.heap.size w w2) := by rw [hw2]; exact below_drewN HB.out n
        clear hw2
        go_wp2_with fail
        go_ret
        exact ⟨rfl, HW.out⟩
      · have HE : Hid (decide (p = q) = false) := hid (decide_eq_false (by rintro rfl; exact hd rfl))
        rw [decide_eq_false hd] at HS
        clear hd
        rw [ha, hb] at HS HB
        rw [HE.out]
        go_enter Tryd.func71, Tryd.ntmps71
        go_wp2_with fail
        refine HS.out.mono ?_
        rintro e w2 ⟨rfl, n, hw2⟩
        have HW : Hid (Below w.heap.size w w2) := by rw [hw2]; exact below_drewN HB.out n
        clear hw2
        go_wp2_with fail
        go_ret
        exact ⟨rfl, HW.out⟩
    · have HE : Hid (decide (p = q) = false) := hid (decide_eq_false (by rintro rfl; exact hb rfl))
      rw [ha] at HB
      rw [HE.out]
      go_enter Tryd.func71, Tryd.ntmps71
      go_wp2_with fail
      go_ret
      exact ⟨rfl, HB.out⟩
  · have HE : Hid (decide (p = q) = false) := hid (decide_eq_false (by rintro rfl; exact ha rfl))
    rw [HE.out]
    go_enter Tryd.func71, Tryd.ntmps71
    go_wp2_with fail
    go_ret
    exact ⟨rfl, HB.out⟩

set_option maxHeartbeats 800000 in
set_option maxRecDepth 100000 in
theorem ents_same (A A' : Option Addr) (c c' n m : Nat) (L M : List Rl.En) (hn : L.length = n) (hm : M.length = m) (hL : n ≤ 100000) (w : World) (h : IsEnts w w.heap.size A L) (h' : IsEnts w w.heap.size A' M) :
    Calls Tryd.prog 48 #[.slice A n c, .slice A' m c'] w fun e w' => e = .returned (.bool (decide (L = M))) ∧ Below w.heap.size w w' := by
  subst hn
  subst hm
  by_cases hl : L.length = M.length
  · have hl0 : (L.length : Int) = (M.length : Int) := by omega
    have HH := hid (And.intro h h')
    clear h h'
    go_enter Tryd.func48, Tryd.ntmps48
    go_wp2_with fail
    go_loopw [5] (fun i wr => ∃ k : Nat, k ≤ L.length ∧ i = .int .i64 k ∧ Hid (L.take k = M.take k ∧ Below w.heap.size w wr)) (fun i _ => L.length - (intOf i).toNat)
    case atStart => exact ⟨0, by omega, rfl, hid ⟨by simp, Below.refl _ _⟩⟩
    case round =>
      obtain ⟨k, hk, rfl, hS⟩ := hrel
      have HL := hid hl
      by_cases hlt : k < L.length
      · have hr := HH.out.1.below hS.out.2
        have hr' := HH.out.2.below hS.out.2
        obtain ⟨b, off, rfl, hbl, hc⟩ := hr.cells k hlt
        have hkM : k < M.length := by omega
        obtain ⟨b', off', rfl, hbl', hc'⟩ := hr'.cells k hkM
        obtain ⟨A1, c1, d0, d1, d2, hB1', hm1', _⟩ := hc k hlt
        have hB1 := hB1'.more hS.out.2.size
        have hm1 := Nat.le_trans hm1'.1 hm1'.2
        obtain ⟨A2, c2, e0, e1, e2, hB2', hm2', _⟩ := hc' k hkM
        have hB2 := hB2'.more hS.out.2.size
        have hm2 := Nat.le_trans hm2'.1 hm2'.2
        clear hB1' hB2' hm1' hm2'
        have hk0 : (k : Int) < (L.length : Int) := by omega
        have hk1 : (k : Int) < (M.length : Int) := by omega
        have HC := hid (ent_same L[k] M[k] A1 A2 c1 c2 hm1 hm2 wr.drew (hB1.drewN 1) (hB2.drewN 1))
        have d0W : wr.drew.cell? ⟨b, off + k * 3, none⟩ = some (.int .i64 L[k].t) := d0
        have d1W : wr.drew.cell? ⟨b, off + k * 3 + 1, none⟩ = some (.int .i64 L[k].k) := d1
        have d2W : wr.drew.cell? ⟨b, off + k * 3 + 2, none⟩ = some (.slice A1 L[k].d.length c1) := d2
        have e0W : wr.drew.cell? ⟨b', off' + k * 3, none⟩ = some (.int .i64 M[k].t) := e0
        have e1W : wr.drew.cell? ⟨b', off' + k * 3 + 1, none⟩ = some (.int .i64 M[k].k) := e1
        have e2W : wr.drew.cell? ⟨b', off' + k * 3 + 2, none⟩ = some (.slice A2 M[k].d.length c2) := e2
        by_cases he : L[k] = M[k]
        · rw [decide_eq_true he] at HC
          have hS' : L.take (k + 1) = M.take (k + 1) := by
            rw [List.take_succ_eq_append_getElem hlt, List.take_succ_eq_append_getElem hkM, hS.out.1, he]
          have HS := hid hS'
          clear hc hc' hr hr' hB1 hB2 hS' he hl
          go_wp2_with fail
          go_still_tail 8, (by kernel_rfl)
          go_wp2_with fail
          refine HC.out.mono ?_
          rintro e w2 ⟨rfl, hb2⟩
          have HB2 : Hid (L.take (k + 1) = M.take (k + 1) ∧ Below w.heap.size w w2) := hid ⟨HS.out, hS.out.2.trans (((Below.refl _ wr).drew.trans hb2).mono hS.out.2.size)⟩
          clear hb2 d0W d1W d2W e0W e1W e2W d0 d1 d2 e0 e1 e2
          go_wp2_with fail
          go_roundw
          case rel => exact ⟨k + 1, by omega, by go_num, HB2⟩
          case measure => simp [RowKit.intOf]; omega
        · rw [decide_eq_false he] at HC
          have hne : decide (L = M) = false := decide_eq_false (fun e => by subst e; exact he rfl)
          have HE := hid hne
          clear hc hc' hr hr' hB1 hB2 he hne hl
          go_wp2_with fail
          go_still_tail 8, (by kernel_rfl)
          go_wp2_with fail
          refine HC.out.mono ?_
          rintro e w2 ⟨rfl, hb2⟩
          have HB2 : Hid (Below w.heap.size w w2) := hid (hS.out.2.trans (((Below.refl _ wr).drew.trans hb2).mono hS.out.2.size))
          clear hb2 d0W d1W d2W e0W e1W e2W d0 d1 d2 e0 e1 e2
          go_wp2_with fail
          go_ret
          rw [HE.out]
          exact ⟨rfl, HB2.out⟩
      · obtain rfl : k = L.length := by omega
        have hE : decide (L = M) = true := decide_eq_true (by
          have := hS.out.1
          rw [List.take_length, hl, List.take_length] at this
          exact this)
        have HE := hid hE
        have hk0 : ¬ (L.length : Int) < (L.length : Int) := by omega
        clear hE hlt
        go_wp2_with fail
        go_ret
        rw [HE.out]
        exact ⟨rfl, hS.out.2⟩
  · have hE : decide (L = M) = false := decide_eq_false (fun e => hl (by rw [e]))
    rw [hE]
    have hl0 : ¬ (L.length : Int) = (M.length : Int) := by omega
    clear h h' hE hl
    go_enter Tryd.func48, Tryd.ntmps48
    go_wp2
    go_ret
    exact ⟨rfl, Below.refl _ _⟩
end Go.Proofs.YtmaebemhephcmaaDoor
