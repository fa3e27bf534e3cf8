/- Texts of the proof, one behind the other: RqI, RqD, RqA, KitInts, RqB, CfR, CfS, CfT, CfW, RegInv, RegCalls, RegGrow, RegArms, RegStore. -/
import Derived.Test.YtfkjahpcpmcefaaConfStepsPartAA
import Derived.StillTailTactics
import Derived.BigQuiet
import Derived.Deep.RegionHeld3
import Derived.Test.YtfkjahpcpmcefaaConfStepsPartAB
import Derived.Great.BuildSlice
import Derived.StillTail
import Derived.Below
import Derived.WalkKit
namespace Go.Proofs.Ytfkjahpcpmcefaa
open Go.RowKit
set_option maxRecDepth 100000
set_option maxHeartbeats 400000 in
theorem in_any (B : Nat) (A : Option Addr) (c : Nat) (l : List Int) (hl : l.length ≤ 100000) (x : Int) (w : World) (h : IsInts w B A l) :
    Calls Try.prog 33 #[.slice A l.length c, .int .i64 x] w fun e w' => e = .returned (.bool (decide (x ∈ l))) ∧ w' = w := by
  go_enter Try.func33, Try.ntmps33
  go_wp2
  go_loopw [5] (fun i wr => ∃ k : Nat, k ≤ l.length ∧ i = .int .i64 k ∧ wr = w ∧ Hid (x ∉ l.take k)) (fun i _ => l.length - (RowKit.intOf i).toNat)
  case atStart => exact ⟨0, by omega, rfl, rfl, hid (by simp)⟩
  case round =>
    obtain ⟨k, hk, rfl, rfl, hs⟩ := hrel
    by_cases hlt : k < l.length
    · obtain ⟨b, off, rfl, _, hc⟩ := h.cells k hlt
      have hck := hc k hlt
      clear hc h
      by_cases he : l[k] = x
      · have hbe : (l[k] == x) = true := by rw [beq_iff_eq]; exact he
        have HE := hid he
        clear he
        go_wp2
        go_ret
        exact ⟨by rw [decide_eq_true (show x ∈ l by rw [← HE.out]; exact List.getElem_mem hlt)]; rfl, rfl⟩
      · have hbe : (l[k] == x) = false := by rw [beq_eq_false_iff_ne]; exact he
        have HE := hid he
        clear he
        go_wp2
        go_roundw
        case rel =>
          refine ⟨k + 1, by omega, by go_num, trivial, hid ?_⟩
          rw [List.take_succ_eq_append_getElem hlt, List.mem_append, List.mem_singleton]
          rintro (h1 | h1)
          · exact hs.out h1
          · exact HE.out h1.symm
        case measure => simp [RowKit.intOf]; omega
    · obtain rfl : k = l.length := by omega
      have := hs.out
      rw [List.take_length] at this
      have HF := hid this
      clear this
      go_wp2
      go_ret
      exact ⟨by rw [decide_eq_false HF.out]; rfl, rfl⟩
set_option maxHeartbeats 1000000 in
theorem rising_any (B : Nat) (A : Option Addr) (c : Nat) (l : List Int) (hl : l.length ≤ 100000) (w : World) (h : IsInts w B A l) :
    Calls Try.prog 57 #[.slice A l.length c] w fun e w' => e = .returned (.bool (Qu.node l)) ∧ ∃ n, w' = w.drewN n := by
  go_enter Try.func57, Try.ntmps57
  go_wp2
  go_loopw [3] (fun i wr => ∃ k n : Nat, k ≤ l.length ∧ i = .int .i64 k ∧ wr = w.drewN n ∧ Hid (Qu.node (l.take k) = true)) (fun i _ => l.length - (RowKit.intOf i).toNat)
  case atStart => exact ⟨0, 0, by omega, rfl, rfl, hid (by simp [Qu.node])⟩
  case round =>
    obtain ⟨k, n, hk, rfl, rfl, hs⟩ := hrel
    by_cases hlt : k < l.length
    · obtain ⟨b, off, rfl, _, hc⟩ := h.cells k hlt
      have hck := hc k hlt
      have HST := hid (Qu.node_step_last hlt hs.out)
      have HL0 := hid (Qu.last_zero l)
      have HLP := hid (Qu.last_pred l k hlt)
      have HLN := hid (Qu.last_nonneg (by omega) hs.out)
      have HC := hid hc
      clear hc
      generalize hz : l[k] = z at *
      clear hz
      by_cases h1 : 1 ≤ z
      · by_cases h2 : z ≤ 7
        · have h1' : ¬ z < 1 := by omega
          have h2' : ¬ 7 < z := by omega
          by_cases hk0 : 0 < k
          · have hkp : (0 : Int) < (k : Int) := by omega
            have hck1 := HC.out (k - 1) (by omega)
            have hix : ((k : Int) - 1).toNat = k - 1 := by omega
            have hi0 : (0 : Int) ≤ (k : Int) - 1 := by omega
            have hi1 : (k : Int) - 1 < (l.length : Int) := by omega
            have hwr : IntKind.i64.wrap ((k : Int) - 1) = (k : Int) - 1 := IntWalk.i64_in _ ⟨by omega, by omega⟩
            have hy := HLP.out hk0
            have HY := hid hy
            generalize l[k - 1] = y at *
            clear hy
            by_cases h3 : y < z
            · have h3' : ¬ z ≤ y := by omega
              go_wp2
              go_quiet (fail)
              go_wp2
              go_roundw
              case rel => exact ⟨k + 1, _, by omega, by go_num, rfl, hid (by rw [HST.out]; exact decide_eq_true ⟨by rw [HY.out]; exact h3, h1, h2⟩)⟩
              case measure => simp [RowKit.intOf]; omega
            · have h3' : z ≤ y := by omega
              go_wp2
              go_quiet (fail)
              go_wp2
              go_ret
              refine ⟨?_, _, World.drewN_drewN _ _ _⟩
              rw [Qu.node_false (l := l) (k := k + 1) (by rw [HST.out]; exact decide_eq_false (by rintro ⟨h, _⟩; rw [HY.out] at h; omega))]; rfl
          · obtain rfl : k = 0 := by omega
            rw [Nat.add_zero] at hck
            go_wp2
            go_quiet (fail)
            go_wp2
            go_roundw
            case rel => exact ⟨0 + 1, _, by omega, by go_num, rfl, hid (by rw [HST.out]; exact decide_eq_true ⟨by rw [HL0.out]; omega, h1, h2⟩)⟩
            case measure => simp [RowKit.intOf]; omega
        · have h1' : ¬ z < 1 := by omega
          have h2' : 7 < z := by omega
          go_wp2
          go_ret
          refine ⟨?_, _, rfl⟩
          rw [Qu.node_false (l := l) (k := k + 1) (by rw [HST.out]; exact decide_eq_false (by rintro ⟨_, _, h⟩; omega))]; rfl
      · have h1' : z < 1 := by omega
        go_wp2
        go_ret
        refine ⟨?_, _, rfl⟩
        rw [Qu.node_false (l := l) (k := k + 1) (by rw [HST.out]; exact decide_eq_false (by rintro ⟨_, h, _⟩; omega))]; rfl
    · obtain rfl : k = l.length := by omega
      have := hs.out
      rw [List.take_length] at this
      have HF := hid this
      clear this
      go_wp2
      go_ret
      exact ⟨by rw [HF.out]; rfl, _, rfl⟩
end Go.Proofs.Ytfkjahpcpmcefaa
namespace Go.Proofs.Ytfkjahpcpmcefaa
open Go.RowKit
theorem Qu.refErr_29 {c : Qu.Cf} (h : c.old = [] ∨ Qu.node c.old = false ∨ Qu.node c.new = false ∨ Qu.node c.lrn = false) : Qu.err c = 29 := by
  unfold Qu.err Qu.ok
  rcases h with h | h | h | h <;> rw [h] <;> simp
theorem Qu.refErr_0 {c : Qu.Cf} (h0 : c.old ≠ []) (h1 : Qu.node c.old = true) (h2 : Qu.node c.new = true) (h3 : Qu.node c.lrn = true) (h : ∀ x ∈ c.lrn, ¬ (x ∈ c.old ∨ x ∈ c.new)) : Qu.err c = 0 := by
  rw [Qu.err_ok]
  unfold Qu.ok
  rw [h1, h2, h3, decide_eq_true h]
  have h4 : c.old.isEmpty = false := by rw [← Bool.not_eq_true, List.isEmpty_iff]; exact h0
  rw [h4]; rfl
theorem Qu.refErr_in {c : Qu.Cf} {x : Int} (hx : x ∈ c.lrn) (h : x ∈ c.old ∨ x ∈ c.new) : Qu.err c = 29 := by
  unfold Qu.err
  have : Qu.ok c = false := by
    unfold Qu.ok
    rw [decide_eq_false (fun hh => hh x hx h)]; simp
  rw [this]; rfl
theorem inQ_any (B : Nat) (A : Option Addr) (c : Nat) (l : List Int) (hl : l.length ≤ 100000) (x : Int) (p : Bool) (hp : decide (x ∈ l) = p) (w : World) (h : IsInts w B A l) :
    ∀ j, Calls Try.prog 33 #[.slice A l.length c, .int .i64 x] (w.drewN j) fun e w' => e = .returned (.bool p) ∧ ∃ n, w' = (w.drewN j).drewN n := fun j =>
  (in_any B A c l hl x (w.drewN j) (h.drewN j)).mono fun e w' ⟨he, hw⟩ => ⟨by rw [← hp]; exact he, 0, hw⟩
set_option maxRecDepth 100000 in
set_option maxHeartbeats 1000000 in
theorem refCheck_any (B : Nat) (c : Qu.Cf) (hs0 : Short c) (a0 a1 a2 : Option Addr) (k0 k1 k2 : Nat) (w : World) (h0 : CIs w B c a0 a1 a2 k0 k1 k2) (hB : B ≤ w.heap.size) :
    Calls Try.prog 34 #[.agg #[.slice a0 c.old.length k0, .slice a1 c.new.length k1, .slice a2 c.lrn.length k2]] w fun e w' => e = .returned (.int .i64 (Qu.err c)) ∧ Below w.heap.size w w' := by
  obtain ⟨wb, hwb⟩ : ∃ wb, wb = w.alloc (.cells #[.slice a0 c.old.length k0, .slice a1 c.new.length k1, .slice a2 c.lrn.length k2] 24) := ⟨_, rfl⟩
  have hbel : Below w.heap.size w wb := by rw [hwb]; exact (Below.refl _ _).alloc (Nat.le_refl _) _
  have hsz : wb.heap.size = w.heap.size + 1 := by rw [hwb]; simp
  have hrow : wb.heap[w.heap.size]? = some (.cells #[.slice a0 c.old.length k0, .slice a1 c.new.length k1, .slice a2 c.lrn.length k2] 24 (0, 0)) := by rw [hwb]; exact heap_alloc_new w _
  have c0 : wb.cell? ⟨w.heap.size, 0, none⟩ = some (.slice a0 c.old.length k0) := cell_of_row wb w.heap.size 0 _ _ _ hrow
  have c1 : wb.cell? ⟨w.heap.size, 1, none⟩ = some (.slice a1 c.new.length k1) := cell_of_row wb w.heap.size 1 _ _ _ hrow
  have c2 : wb.cell? ⟨w.heap.size, 2, none⟩ = some (.slice a2 c.lrn.length k2) := cell_of_row wb w.heap.size 2 _ _ _ hrow
  have hI := h0.below (hbel.mono hB)
  have HB := hid hbel
  have HI := hid hI
  have hs := hid hs0
  have HO := hid (fun j => rising_any B a0 k0 c.old (by have := hs0.1; omega) (wb.drewN j) (hI.o.drewN j))
  have HN := hid (fun j => rising_any B a1 k1 c.new (by have := hs0.2.1; omega) (wb.drewN j) (hI.n.drewN j))
  have HL := hid (fun j => rising_any B a2 k2 c.lrn (by have := hs0.2.2; omega) (wb.drewN j) (hI.l.drewN j))
  have hll := hs0.2.2
  clear hbel hI h0 hs0 hsz hrow hB
  by_cases hz : c.old = []
  · have HE := hid (Qu.refErr_29 (c := c) (.inl hz))
    have hl : c.old.length = 0 := by rw [hz]; rfl
    rw [HE.out]
    clear hz HO HN HL
    rw [hl] at c0
    rw [hl] at hwb ⊢
    clear hl
    go_enter Try.func34, Try.ntmps34
    go_wp2
    rw [← hwb]; clear hwb
    go_ret
    exact ⟨rfl, HB.out⟩
  have hzl : 0 < c.old.length := List.length_pos_iff.2 hz
  have hzb : ((c.old.length : Int) == 0) = false := by rw [beq_eq_false_iff_ne]; omega
  have HZ := hid hz
  clear hz
  cases ho : Qu.node c.old
  · have HE := hid (Qu.refErr_29 (c := c) (.inr (.inl ho)))
    rw [ho] at HO
    rw [HE.out]
    clear ho HN HL
    go_enter Try.func34, Try.ntmps34
    go_wp2_with fail
    rw [← hwb]; clear hwb
    refine (HO.out 0).mono ?_
    rintro e w1 ⟨rfl, n, rfl⟩
    go_wp2
    go_ret
    exact ⟨rfl, below_drewN HB.out _⟩
  cases hn : Qu.node c.new
  · have HE := hid (Qu.refErr_29 (c := c) (.inr (.inr (.inl hn))))
    rw [ho] at HO
    rw [hn] at HN
    rw [HE.out]
    clear ho hn HL
    go_enter Try.func34, Try.ntmps34
    go_wp2_with fail
    rw [← hwb]; clear hwb
    refine (HO.out 0).mono ?_
    rintro e w1 ⟨rfl, n, rfl⟩
    go_wp2_with fail
    refine (HN.out _).mono ?_
    rintro e w1 ⟨rfl, n2, rfl⟩
    go_wp2
    go_ret
    exact ⟨rfl, below_drewN HB.out _⟩
  cases hl : Qu.node c.lrn
  · have HE := hid (Qu.refErr_29 (c := c) (.inr (.inr (.inr hl))))
    rw [ho] at HO
    rw [hn] at HN
    rw [hl] at HL
    rw [HE.out]
    clear ho hn hl
    go_enter Try.func34, Try.ntmps34
    go_wp2_with fail
    rw [← hwb]; clear hwb
    refine (HO.out 0).mono ?_
    rintro e w1 ⟨rfl, n, rfl⟩
    go_wp2_with fail
    refine (HN.out _).mono ?_
    rintro e w1 ⟨rfl, n2, rfl⟩
    go_wp2_with fail
    refine (HL.out (n + n2)).mono ?_
    rintro e w1 ⟨rfl, n3, rfl⟩
    go_wp2
    go_ret
    exact ⟨rfl, below_drewN HB.out _⟩
  · have HE0 := hid (fun h => Qu.refErr_0 (c := c) HZ.out ho hn hl h)
    have HE1 := hid (fun x hx h => Qu.refErr_in (c := c) (x := x) hx h)
    rw [ho] at HO
    rw [hn] at HN
    rw [hl] at HL
    clear ho hn hl
    go_enter Try.func34, Try.ntmps34
    go_wp2_with fail
    rw [← hwb]; clear hwb
    refine (HO.out 0).mono ?_
    rintro e w1 ⟨rfl, n, rfl⟩
    go_wp2_with fail
    refine (HN.out _).mono ?_
    rintro e w1 ⟨rfl, n2, rfl⟩
    go_wp2_with fail
    refine (HL.out (n + n2)).mono ?_
    rintro e w1 ⟨rfl, n3, rfl⟩
    go_wp2_with fail
    go_loopw [3] (fun i wr => ∃ k m : Nat, k ≤ c.lrn.length ∧ i = .int .i64 k ∧ wr = wb.drewN m ∧ Hid (∀ x ∈ c.lrn.take k, ¬ (x ∈ c.old ∨ x ∈ c.new))) (fun i _ => c.lrn.length - (RowKit.intOf i).toNat)
    case atStart => exact ⟨0, n + n2 + n3, by omega, rfl, rfl, hid (by simp)⟩
    case round =>
      obtain ⟨k, m, hk, rfl, rfl, HR⟩ := hrel
      by_cases hlt : k < c.lrn.length
      · obtain ⟨b, off, rfl, hb, hcell⟩ := HI.out.l.cells k hlt
        have hck := hcell k hlt
        have hmem : c.lrn[k] ∈ c.lrn := List.getElem_mem hlt
        have HT := hid (List.take_succ_eq_append_getElem hlt)
        have HM := hid hmem
        obtain ⟨p, hp⟩ : ∃ p, decide (c.lrn[k] ∈ c.old) = p := ⟨_, rfl⟩
        obtain ⟨q, hq⟩ : ∃ q, decide (c.lrn[k] ∈ c.new) = q := ⟨_, rfl⟩
        have HIO := hid (inQ_any B a0 k0 c.old (by have := hs.out.1; omega) c.lrn[k] p hp (wb.drewN m) (HI.out.o.drewN m))
        have HIN := hid (inQ_any B a1 k1 c.new (by have := hs.out.2.1; omega) c.lrn[k] q hq (wb.drewN m) (HI.out.n.drewN m))
        have HBD := hid (below_drewN HB.out m)
        have HP := hid hp
        have HQ := hid hq
        clear hcell hmem hp hq
        generalize c.lrn[k] = x at *
        have c0m : (wb.drewN m).cell? ⟨w.heap.size, 0, none⟩ = some (.slice a0 c.old.length k0) := c0
        have c1m : (wb.drewN m).cell? ⟨w.heap.size, 1, none⟩ = some (.slice a1 c.new.length k1) := c1
        have c2m : (wb.drewN m).cell? ⟨w.heap.size, 2, none⟩ = some (.slice (some ⟨b, off, none⟩) c.lrn.length k2) := c2
        have hckm : (wb.drewN m).cell? ⟨b, off + k, none⟩ = some (.int .i64 x) := hck
        have hrd : ∀ j, (wb.drewN m).drewN j = wb.drewN (m + j) := fun j => World.drewN_drewN _ _ _
        have HRD := hid hrd
        clear c0 c1 c2 hck hrd
        generalize wb.drewN m = w9 at *
        cases p
        · cases q
          · go_wp2
            go_quiet (first
              | (go_at_call 33; with_reducible exact Calls.quiet_of (HIO.out _))
              | (go_at_call 33; with_reducible exact Calls.quiet_of (HIN.out _)))
            go_wp2
            go_roundw
            case rel =>
              refine ⟨k + 1, _, by omega, by go_num, HRD.out _, hid fun y hy => ?_⟩
              rw [HT.out] at hy
              rcases List.mem_append.1 hy with hy | hy
              · exact HR.out y hy
              · simp at hy
                subst hy
                rintro (h | h)
                · exact absurd h (of_decide_eq_false HP.out)
                · exact absurd h (of_decide_eq_false HQ.out)
            case measure => simp [RowKit.intOf]; omega
          · go_wp2
            go_quiet (first
              | (go_at_call 33; with_reducible exact Calls.quiet_of (HIO.out _))
              | (go_at_call 33; with_reducible exact Calls.quiet_of (HIN.out _)))
            go_wp2
            go_ret
            exact ⟨by rw [HE1.out x HM.out (.inr (of_decide_eq_true HQ.out))]; rfl, below_drewN HBD.out _⟩
        · go_wp2
          go_quiet (first
            | (go_at_call 33; with_reducible exact Calls.quiet_of (HIO.out _))
            | (go_at_call 33; with_reducible exact Calls.quiet_of (HIN.out _)))
          go_wp2
          go_ret
          exact ⟨by rw [HE1.out x HM.out (.inl (of_decide_eq_true HP.out))]; rfl, below_drewN HBD.out _⟩
      · obtain rfl : k = c.lrn.length := by omega
        have hr := HR.out
        rw [List.take_length] at hr
        have HE := hid (HE0.out hr)
        clear hr
        go_wp2
        go_ret
        exact ⟨by rw [HE.out]; rfl, below_drewN HB.out _⟩
end Go.Proofs.Ytfkjahpcpmcefaa
namespace Go.Proofs.Ytfkjahpcpmcefaa
open Go.RowKit
end Go.Proofs.Ytfkjahpcpmcefaa
namespace Go.Proofs.Ytfkjahpcpmcefaa.I
open Go.RowKit
def lent (l : List Int) : List Int := l ++ List.replicate 5 (-77)
theorem lent_length (l : List Int) : (lent l).length = l.length + 5 := by simp [lent]
def lentTo (l : List Int) (k : Nat) : List Int := (lent l).take k ++ List.replicate (l.length + 5 - k) 0
theorem lentTo_length (l : List Int) (k : Nat) (h : k ≤ l.length + 5) : (lentTo l k).length = l.length + 5 := by
  unfold lentTo; rw [List.length_append, List.length_take, lent_length, List.length_replicate]; omega
theorem lentTo_end (l : List Int) : lentTo l (l.length + 5) = lent l := by
  unfold lentTo
  rw [List.take_of_length_le (by rw [lent_length]; omega)]; simp
theorem lentTo_set (l : List Int) (k : Nat) (h : k < l.length + 5) (x : Int) (hx : (lent l)[k]? = some x) : (lentTo l k).set k x = lentTo l (k + 1) := by
  unfold lentTo
  have hl : k < (lent l).length := by rw [lent_length]; exact h
  have hk : ((lent l).take k).length = k := by rw [List.length_take]; omega
  rw [List.set_append_right _ _ (by omega), hk, Nat.sub_self, show l.length + 5 - k = (l.length + 5 - (k + 1)) + 1 from by omega, List.replicate_succ, List.set_cons_zero,
    List.take_succ_eq_append_getElem hl, List.append_assoc]
  have : (lent l)[k] = x := by rw [List.getElem?_eq_getElem hl] at hx; injection hx
  rw [this]; rfl
theorem lent_mark (l : List Int) (k : Nat) (h1 : l.length ≤ k) (h2 : k < l.length + 5) : (lent l)[k]? = some (-77) := by
  unfold lent
  rw [List.getElem?_append_right h1, List.getElem?_replicate, if_pos (by omega)]
theorem lent_item (l : List Int) (k : Nat) (h : k < l.length) : (lent l)[k]? = some l[k] := by
  unfold lent
  rw [List.getElem?_append_left h, List.getElem?_eq_getElem h]
set_option maxRecDepth 100000 in
set_option maxHeartbeats 400000 in
theorem lent_any (B : Nat) (A : Option Addr) (c : Nat) (l : List Int) (hl : l.length ≤ 17592186044000) (w : World) (h : IsInts w B A l) (hB : B ≤ w.heap.size) :
    Calls Try.prog 9 #[.slice A l.length c] w fun e w' => ∃ g c', e = .returned (.slice (some ⟨g, 0, none⟩) (l.length + 5) c') ∧ OwnsI 3 w' w.heap.size (some ⟨g, 0, none⟩) c' (lent l) ∧ Below w.heap.size w w' := by
  obtain ⟨i0, hi, hz0, hz1, hz2⟩ := info_parts info_int
  go_enter Try.func9, Try.ntmps9
  go_wp2_with (at_make; refine wpList_make_full _ rfl _ _ 22 rfl w.heap.size 3 i0 (.int .i64 0) 1 Try.underlying22 hi hz0 hz1 .i64 .i64 (l.length + 5) (l.length + 5) (l.length + 5) rfl rfl (by omega) (by omega) ?c1 ?c2 (Nat.le_refl _) ?_)
  case c1 => rw [hz2]; omega
  case c2 => unfold maxLen; omega
  intro w1 hown hgrow
  have hrow : OwnsI 3 w1 w.heap.size (some ⟨w.heap.size, 0, none⟩) (l.length + 5) (lentTo l 0) := by
    refine ⟨?_, ?_⟩
    · intro x hx
      have : lentTo l 0 = List.replicate (l.length + 5) 0 := by simp [lentTo]
      rw [this] at hx
      have := (List.mem_replicate.1 hx).2; subst this; unfold InInt; omega
    · rw [lentTo_length l 0 (by omega)]
      have e : (madeCells #[Value.int .i64 0] (l.length + 5)).toList = ints (lentTo l 0) := by
        rw [toList_madeCells_one]
        simp [lentTo, ints]
      rw [e] at hown
      exact hown
  have hbel : Below w.heap.size w w1 := (Below.refl _ _).grown hgrow (Nat.le_refl _) (fun g hg => by cases hg)
  clear hown hgrow
  go_wp2
  go_loopw [4] (fun i wr => ∃ k : Nat, k ≤ l.length + 5 ∧ i = .int .i64 k ∧ OwnsI 3 wr w.heap.size (some ⟨w.heap.size, 0, none⟩) (l.length + 5) (lentTo l k) ∧ Below w.heap.size w wr) (fun i _ => l.length + 5 - (RowKit.intOf i).toNat)
  case atStart => exact ⟨0, by omega, rfl, hrow, hbel⟩
  case round =>
    clear hrow hbel
    obtain ⟨k, hk, rfl, hown, hbel⟩ := hrel
    by_cases hlt : k < l.length + 5
    · have hkl : k < (lentTo l k).length := by rw [lentTo_length l k hk]; exact hlt
      obtain ⟨g, hg, _, _, hcg, hfg⟩ := hown.at_ hkl
      obtain rfl : w.heap.size = g := by injection hg with hg; injection hg
      clear hg
      by_cases hin : k < l.length
      · have h1 := (h.below (hbel.mono hB))
        obtain ⟨b, off, rfl, hb, hc⟩ := h1.cells k hin
        have hck := hc k hin
        clear hc
        have hs1 := hown.set_ k (-77) (by unfold InInt; omega)
        have hs2 := hs1.set_ k l[k] (h.small _ (List.getElem_mem hin))
        rw [List.set_set, lentTo_set l k hlt _ (lent_item l k hin)] at hs2
        have hb2 : Below w.heap.size w ((wr.setCell ⟨w.heap.size, k, none⟩ (.int .i64 (-77))).setCell ⟨w.heap.size, k, none⟩ (.int .i64 l[k])) := (hbel.setCell (Nat.le_refl _) _).setCell (Nat.le_refl _) _
        have HS := hid (And.intro hs2 hb2)
        clear hs1 hs2 hb2 hown hbel
        go_wp2
        go_roundw
        case rel => exact ⟨k + 1, by omega, by go_num, HS.out.1, HS.out.2⟩
        case measure => simp [RowKit.intOf]; omega
      · have hs1 := hown.set_ k (-77) (by unfold InInt; omega)
        rw [lentTo_set l k hlt _ (lent_mark l k (by omega) hlt)] at hs1
        have hb1 : Below w.heap.size w (wr.setCell ⟨w.heap.size, k, none⟩ (.int .i64 (-77))) := hbel.setCell (Nat.le_refl _) _
        have HS := hid (And.intro hs1 hb1)
        clear hs1 hb1 hown hbel
        go_wp2
        go_roundw
        case rel => exact ⟨k + 1, by omega, by go_num, HS.out.1, HS.out.2⟩
        case measure => simp [RowKit.intOf]; omega
    · obtain rfl : k = l.length + 5 := by omega
      rw [lentTo_end] at hown
      go_wp2
      go_ret
      exact ⟨w.heap.size, l.length + 5, rfl, hown, hbel⟩
theorem take_lent (l : List Int) : (lent l).take l.length = l := by
  unfold lent; rw [List.take_left']; rfl
theorem lent_get (l : List Int) (k : Nat) (h1 : l.length ≤ k) (h2 : k < (lent l).length) : (lent l)[k] = (-77) := by
  have := lent_mark l k h1 (by rw [lent_length] at h2; exact h2)
  rw [List.getElem?_eq_getElem h2] at this
  injection this
set_option maxHeartbeats 400000 in
theorem kept_any (B B' g : Nat) (A' : Option Addr) (c c' : Nat) (l : List Int) (hl : l.length ≤ 17592186044000) (hcap : l.length + 5 ≤ c) (w : World) (h : IsInts w B (some ⟨g, 0, none⟩) (lent l)) (h' : IsInts w B' A' l) :
    Calls Try.prog 18 #[.slice (some ⟨g, 0, none⟩) (l.length + 5) c, .slice A' l.length c'] w fun e w' => e = .returned (.bool true) ∧ ∃ n, w' = w.drewN n := by
  have hb : ((l.length : Int) + 5 != (l.length : Int) + 5) = false := by simp
  have h0 : IsInts w B (some ⟨g, 0, none⟩) l := by have := h.take l.length; rw [take_lent] at this; exact this
  go_enter Try.func18, Try.ntmps18
  go_wp2_with fail
  refine (same_any B B' _ _ _ _ l l (by unfold maxLen; omega) (by unfold maxLen; omega) _ h0 h').mono ?_
  rintro e w' ⟨rfl, n, rfl⟩
  have hd : (!decide (l = l)) = false := by simp
  go_wp2
  go_loopw [5] (fun i wr => ∃ k n : Nat, l.length ≤ k ∧ k ≤ l.length + 5 ∧ i = .int .i64 k ∧ wr = w.drewN n) (fun i _ => l.length + 5 - (RowKit.intOf i).toNat)
  case atStart => exact ⟨l.length, n, by omega, by omega, rfl, rfl⟩
  case round =>
    obtain ⟨k, n, hk1, hk, rfl, rfl⟩ := hrel
    by_cases hlt : k < l.length + 5
    · have hkl : k < (lent l).length := by rw [lent_length]; exact hlt
      obtain ⟨b, off, hg, _, hc⟩ := h.cells k hkl
      obtain ⟨rfl, rfl⟩ : g = b ∧ 0 = off := by injection hg with hg; injection hg with h1 h2; exact ⟨h1, h2⟩
      have hck := hc k hkl
      rw [lent_get l k hk1 hkl, Nat.zero_add] at hck
      clear hc hg
      go_wp2
      go_roundw
      case rel => exact ⟨k + 1, _, by omega, by omega, by go_num, rfl⟩
      case measure => simp [RowKit.intOf]; omega
    · obtain rfl : k = l.length + 5 := by omega
      go_wp2
      go_ret
      exact ⟨rfl, _, rfl⟩
end Go.Proofs.Ytfkjahpcpmcefaa.I
namespace Go.Proofs.Ytfkjahpcpmcefaa
open Go.RowKit
namespace Qu
def wstep (n : Int) (s : Bool × List Int) (x : Int) : Bool × List Int := if s.1 = false ∧ n < x then (true, s.2 ++ [n, x]) else (s.1, s.2 ++ [x])
def wto (l : List Int) (n : Int) (k : Nat) : Bool × List Int := (l.take k).foldl (wstep n) (decide (n ∈ l), [])
def wend (n : Int) (s : Bool × List Int) : List Int := if s.1 then s.2 else s.2 ++ [n]
theorem wto_succ (l : List Int) (n : Int) (k : Nat) (h : k < l.length) : wto l n (k + 1) = wstep n (wto l n k) l[k] := by
  unfold wto; rw [List.take_succ_eq_append_getElem h, List.foldl_append]; rfl
theorem wto_len (l : List Int) (n : Int) : ∀ k, k ≤ l.length → (wto l n k).2.length ≤ k + (if (wto l n k).1 then 1 else 0)
  | 0, _ => by simp [wto]
  | k + 1, h => by
    have ih := wto_len l n k (by omega)
    rw [wto_succ l n k (by omega)]
    unfold wstep
    split
    · rename_i h1
      rw [h1.1] at ih
      simp at ih ⊢; omega
    · simp only [List.length_append, List.length_cons, List.length_nil]; omega
theorem wto_in {l : List Int} {n : Int} (hn : n ∈ l) : ∀ k, k ≤ l.length → wto l n k = (true, l.take k)
  | 0, _ => by simp [wto, hn]
  | k + 1, h => by
    rw [wto_succ l n k (by omega), wto_in hn k (by omega), List.take_succ_eq_append_getElem (by omega)]
    simp [wstep]
theorem wto_out {l : List Int} {n : Int} (hs : l.Pairwise (· < ·)) (hn : n ∉ l) : ∀ k, k ≤ l.length →
    (wto l n k).2.Pairwise (· < ·) ∧ (∀ y, y ∈ (wto l n k).2 ↔ y ∈ l.take k ∨ ((wto l n k).1 = true ∧ y = n)) ∧ ((wto l n k).1 = true ↔ ∃ y ∈ l.take k, n < y)
  | 0, _ => by simp [wto, hn]
  | k + 1, h => by
    obtain ⟨h1, h2, h3⟩ := wto_out hs hn k (by omega)
    have hlt : ∀ y ∈ l.take k, y < l[k] := fun y hy => by
      obtain ⟨i, hi, rfl⟩ := List.getElem_of_mem hy
      rw [List.length_take] at hi
      rw [List.getElem_take]
      exact (List.pairwise_iff_getElem.1 hs) i k (by omega) (by omega) (by omega)
    have hne : l[k] ≠ n := fun e => hn (e ▸ List.getElem_mem (by omega))
    rw [wto_succ l n k (by omega), List.take_succ_eq_append_getElem (by omega)]
    unfold wstep
    by_cases hc : (wto l n k).1 = false ∧ n < l[k]
    · rw [if_pos hc]
      have hall : ∀ y ∈ l.take k, y < n := fun y hy => by
        by_cases h4 : n < y
        · have := h3.2 ⟨y, hy, h4⟩; rw [hc.1] at this; cases this
        · have : y ≠ n := fun e => hn (e ▸ List.mem_of_mem_take hy)
          omega
      have hmem : ∀ y ∈ (wto l n k).2, y ∈ l.take k := fun y hy => by
        rcases (h2 y).1 hy with h4 | h4
        · exact h4
        · rw [hc.1] at h4; cases h4.1
      refine ⟨?_, fun y => ?_, ?_⟩
      · rw [List.pairwise_append]
        refine ⟨h1, by simp [hc.2], fun a ha b hb => ?_⟩
        have := hall a (hmem a ha)
        simp at hb
        rcases hb with rfl | rfl
        · exact this
        · omega
      · rw [List.mem_append, List.mem_append, h2 y, hc.1]
        simp
        constructor
        · rintro (h4 | h4 | h4)
          · exact .inl (.inl h4)
          · exact .inr h4
          · exact .inl (.inr h4)
        · rintro ((h4 | h4) | h4)
          · exact .inl h4
          · exact .inr (.inr h4)
          · exact .inr (.inl h4)
      · simp only [true_iff]
        exact ⟨l[k], List.mem_append_right _ (List.mem_singleton_self _), hc.2⟩
    · rw [if_neg hc]
      refine ⟨?_, fun y => ?_, ?_⟩
      · rw [List.pairwise_append]
        refine ⟨h1, by simp, fun a ha b hb => ?_⟩
        simp at hb
        subst hb
        rcases (h2 a).1 ha with h4 | h4
        · exact hlt a h4
        · obtain ⟨y, hy, h5⟩ := h3.1 h4.1
          have := hlt y hy
          omega
      · rw [List.mem_append, List.mem_append, h2 y]
        constructor
        · rintro ((h4 | h4) | h4)
          · exact .inl (.inl h4)
          · exact .inr h4
          · exact .inl (.inr h4)
        · rintro ((h4 | h4) | h4)
          · exact .inl (.inl h4)
          · exact .inr h4
          · exact .inl (.inr h4)
      · rw [h3]
        constructor
        · rintro ⟨y, hy, h4⟩; exact ⟨y, List.mem_append_left _ hy, h4⟩
        · rintro ⟨y, hy, h4⟩
          rcases List.mem_append.1 hy with hy | hy
          · exact ⟨y, hy, h4⟩
          · simp at hy
            subst hy
            by_cases h5 : (wto l n k).1 = false
            · exact absurd ⟨h5, h4⟩ hc
            · exact h3.1 (by simpa using h5)
theorem with_is (L : List Int) (n : Int) : wend n (wto (uni L) n (uni L).length) = uni (L ++ [n]) := by
  have hu := uni_is L
  refine Uni.unique (l := L ++ [n]) ?_ (uni_is _)
  unfold wend
  by_cases hn : n ∈ uni L
  · rw [wto_in hn _ (Nat.le_refl _)]
    simp only [if_true, List.take_length]
    refine ⟨hu.1, fun y => ?_⟩
    rw [List.mem_append, hu.2 y]
    constructor
    · exact .inl
    · rintro (h | h)
      · exact h
      · simp at h; subst h; exact (hu.2 _).1 hn
  · obtain ⟨h1, h2, h3⟩ := wto_out hu.1 hn _ (Nat.le_refl _)
    rw [List.take_length] at h2 h3
    cases hb : (wto (uni L) n (uni L).length).1
    · rw [hb] at h2 h3
      simp only [Bool.false_eq_true, if_false]
      refine ⟨?_, fun y => ?_⟩
      · rw [List.pairwise_append]
        refine ⟨h1, by simp, fun a ha b hb' => ?_⟩
        simp at hb'
        subst hb'
        rcases (h2 a).1 ha with h4 | h4
        · by_cases h5 : b < a
          · have := h3.2 ⟨a, h4, h5⟩; cases this
          · have : a ≠ b := fun e => hn (e ▸ h4)
            omega
        · cases h4.1
      · rw [List.mem_append, List.mem_append, h2 y, hu.2 y]
        simp
    · rw [hb] at h2
      simp only [if_true]
      refine ⟨h1, fun y => ?_⟩
      rw [h2 y, List.mem_append, hu.2 y]
      simp
end Qu
set_option maxRecDepth 100000 in
set_option maxHeartbeats 1000000 in
theorem with_any (B : Nat) (A : Option Addr) (c : Nat) (l : List Int) (hl0 : l.length ≤ 10000) (n : Int) (hn0 : InInt n) (w : World) (h0 : IsInts w B A l) (hB : B ≤ w.heap.size) :
    Calls Try.prog 36 #[.slice A l.length c, .int .i64 n] w fun e w' => ∃ A' c', e = .returned (.slice A' (Qu.wend n (Qu.wto l n l.length)).length c') ∧ OwnsI 3 w' w.heap.size A' c' (Qu.wend n (Qu.wto l n l.length)) ∧ Below w.heap.size w w' := by
  obtain ⟨i0, hi, hz0, hz1, hz2⟩ := info_parts I.info_int
  have h := hid h0
  have hn := hid hn0
  have HI := hid (in_any B A c l (by omega) n w h0)
  have hl := hl0
  clear h0 hn0 hl0
  go_enter Try.func36, Try.ntmps36
  go_wp2_with fail
  refine HI.out.mono ?_
  rintro e w1 ⟨rfl, rfl⟩
  go_wp2_with fail
  go_loopw [5, 6, 7] (fun v b i wr => ∃ (k m : Nat) (ld : Bool) (A2 : Option Addr) (c2 : Nat) (out : List Int), k ≤ l.length ∧ v = .slice A2 m c2 ∧ b = .bool ld ∧ i = .int .i64 k ∧ Hid (out.length = m ∧ (ld, out) = Qu.wto l n k ∧ OwnsI 3 wr w1.heap.size A2 c2 out ∧ Below w1.heap.size w1 wr)) (fun _ _ i _ => l.length - (RowKit.intOf i).toNat)
  case atStart => exact ⟨0, 0, decide (n ∈ l), none, 0, [], by omega, rfl, rfl, rfl, hid ⟨rfl, by simp [Qu.wto], OwnsI.nil _ _ _, Below.refl _ _⟩⟩
  case round =>
    obtain ⟨k, m, ld, A2, c2, out, hk, rfl, rfl, rfl, HR⟩ := hrel
    have hlen : m ≤ k + 1 := by
      have h1 := Qu.wto_len l n k hk
      rw [← HR.out.2.1] at h1
      have := HR.out.1
      simp only at h1
      split at h1 <;> omega
    by_cases hlt : k < l.length
    · obtain ⟨b, off, rfl, hb, hcell⟩ := h.out.cells k hlt
      have hck : wr.cell? ⟨b, off + k, none⟩ = some (.int .i64 l[k]) := (HR.out.2.2.2.cell (p := ⟨b, off + k, none⟩) (by show b < _; omega)).trans (hcell k hlt)
      have hxin := h.out.small _ (List.getElem_mem hlt)
      have HX := hid hxin
      have HST := hid (Qu.wto_succ l n k hlt)
      have hblt : b < wr.heap.size := World.block_lt_of_cell? _ _ hck
      clear hcell hxin
      generalize l[k] = x at *
      by_cases hc : ld = false ∧ n < x
      · obtain ⟨rfl, hnx⟩ := hc
        have hown := HR.out.2.2.1
        have hbase := HR.out.2.2.2.size
        have hln := HR.out.1
        have HB := hid (And.intro hck hblt)
        have HN := hid hnx
        go_wp2_with (at_builtin; refine wpList_append_intN rfl _ _ 22 rfl w1.heap.size 3 i0 Try.underlying22 hi hz0 hz1 hz2 A2 c2 out m hln rfl (hown.alloc _) ⟨wr.heap.size, 0, none⟩ 1 n hn.out rfl (by simp) (out ++ [n]) rfl (by omega) (by simp; omega) ?_)
        intro A3 c3 w3 hown3 hbel3
        have hbel3' : Below w1.heap.size w1 w3 := (HR.out.2.2.2.alloc HR.out.2.2.2.size _).trans hbel3
        have hck3 : w3.cell? ⟨b, off + k, none⟩ = some (.int .i64 x) := by
          have h1 := (hbel3'.cell (p := ⟨b, off + k, none⟩) (by show b < w1.heap.size; omega))
          have h2 := (HR.out.2.2.2.cell (p := ⟨b, off + k, none⟩) (by show b < w1.heap.size; omega))
          rw [h1, ← h2]; exact HB.out.1
        have hbase3 := hbel3'.size
        have HB3 := hid hbel3'
        clear hown hbel3 hbase hbel3' hck
        go_wp2_with (at_builtin; refine wpList_append_intN rfl _ _ 22 rfl w1.heap.size 3 i0 Try.underlying22 hi hz0 hz1 hz2 A3 c3 (out ++ [n]) (m + 1) (by rw [List.length_append, hln]; rfl) rfl (hown3.alloc _) ⟨w3.heap.size, 0, none⟩ 1 x HX.out rfl (by simp) (out ++ [n, x]) (by simp) (by omega) (by simp; omega) ?_)
        intro A4 c4 w4 hown4 hbel4
        have H4 := hid (And.intro hown4 ((HB3.out.alloc HB3.out.size _).trans hbel4))
        have HLN := hid hln
        clear hown3 hown4 hbel4 hck3 hln
        go_wp2
        go_roundw
        case rel =>
          refine ⟨k + 1, m + 1 + 1, true, A4, c4, out ++ [n, x], by omega, rfl, rfl, by go_num, hid ⟨by simp [HLN.out], ?_, H4.out.1, H4.out.2⟩⟩
          rw [HST.out, ← HR.out.2.1]
          simp [Qu.wstep, HN.out]
        case measure => simp [RowKit.intOf]; omega
      · have hown := HR.out.2.2.1
        have hbase := HR.out.2.2.2.size
        have hln := HR.out.1
        have HC := hid hc
        have hst : (ld, out ++ [x]) = Qu.wto l n (k + 1) := by
          rw [HST.out, ← HR.out.2.1]
          unfold Qu.wstep
          rw [if_neg hc]
        have HS := hid hst
        clear hst HST
        rcases Bool.eq_false_or_eq_true ld with rfl | rfl
        · clear hc HC
          go_wp2_with (at_builtin; refine wpList_append_intN rfl _ _ 22 rfl w1.heap.size 3 i0 Try.underlying22 hi hz0 hz1 hz2 A2 c2 out m hln rfl (hown.alloc _) ⟨wr.heap.size, 0, none⟩ 1 x HX.out rfl (by simp) (out ++ [x]) rfl (by omega) (by simp; omega) ?_)
          intro A3 c3 w3 hown3 hbel3
          have H4 := hid (And.intro hown3 ((HR.out.2.2.2.alloc HR.out.2.2.2.size _).trans hbel3))
          have HLN := hid hln
          clear hown hown3 hbel3 hck hln
          go_wp2
          go_roundw
          case rel => exact ⟨k + 1, m + 1, true, A3, c3, out ++ [x], by omega, rfl, rfl, by go_num, hid ⟨by simp [HLN.out], HS.out, H4.out.1, H4.out.2⟩⟩
          case measure => simp [RowKit.intOf]; omega
        · have hnx : ¬ n < x := fun e => hc ⟨rfl, e⟩
          clear hc HC
          go_wp2_with (at_builtin; refine wpList_append_intN rfl _ _ 22 rfl w1.heap.size 3 i0 Try.underlying22 hi hz0 hz1 hz2 A2 c2 out m hln rfl (hown.alloc _) ⟨wr.heap.size, 0, none⟩ 1 x HX.out rfl (by simp) (out ++ [x]) rfl (by omega) (by simp; omega) ?_)
          intro A3 c3 w3 hown3 hbel3
          have H4 := hid (And.intro hown3 ((HR.out.2.2.2.alloc HR.out.2.2.2.size _).trans hbel3))
          have HLN := hid hln
          clear hown hown3 hbel3 hck hln
          go_wp2
          go_roundw
          case rel => exact ⟨k + 1, m + 1, false, A3, c3, out ++ [x], by omega, rfl, rfl, by go_num, hid ⟨by simp [HLN.out], HS.out, H4.out.1, H4.out.2⟩⟩
          case measure => simp [RowKit.intOf]; omega
    · obtain rfl : k = l.length := by omega
      have hown := HR.out.2.2.1
      have hbase := HR.out.2.2.2.size
      have hln := HR.out.1
      have HE := hid HR.out.2.1
      rcases Bool.eq_false_or_eq_true ld with rfl | rfl
      · have hw : Qu.wend n (Qu.wto l n l.length) = out := by rw [← HE.out]; rfl
        have HW := hid hw
        clear hw
        have HLN := hid hln
        clear hln
        have HO := hid hown
        clear hown
        go_wp2
        go_ret
        rw [HW.out]
        exact ⟨A2, c2, ret_len HLN.out.symm, HO.out, HR.out.2.2.2⟩
      · have hw : Qu.wend n (Qu.wto l n l.length) = out ++ [n] := by rw [← HE.out]; rfl
        have HW := hid hw
        clear hw
        go_wp2_with (at_builtin; refine wpList_append_intN rfl _ _ 22 rfl w1.heap.size 3 i0 Try.underlying22 hi hz0 hz1 hz2 A2 c2 out m hln rfl (hown.alloc _) ⟨wr.heap.size, 0, none⟩ 1 n hn.out rfl (by simp) (out ++ [n]) rfl (by omega) (by simp; omega) ?_)
        intro A3 c3 w3 hown3 hbel3
        have H4 := hid (And.intro hown3 ((HR.out.2.2.2.alloc HR.out.2.2.2.size _).trans hbel3))
        have HLN := hid hln
        clear hown hown3 hbel3 hln
        go_wp2
        go_ret
        rw [HW.out]
        exact ⟨A3, c3, ret_len (by simp [HLN.out]), H4.out.1, H4.out.2⟩
end Go.Proofs.Ytfkjahpcpmcefaa
namespace Go.Proofs.Ytfkjahpcpmcefaa.Co
open Go Go.RowKit
open Qu (Cf)
set_option maxRecDepth 100000
set_option linter.unusedVariables false
attribute [local go_sem ↓] Im.loadAt_conf3 Im.storeAt_conf3 loadAt_mem storeAt_mem
theorem refCheck_M (B : Nat) (c : Cf) (hs : Short c) (m : M3) (w : World) (h : InC w B c m) (hB : B ≤ w.heap.size) :
    Calls Try.prog 34 #[.agg #[.slice m.a0 m.n0 m.k0, .slice m.a1 m.n1 m.k1, .slice m.a2 m.n2 m.k2]] w fun e w' => e = .returned (.int .i64 (Qu.err c)) ∧ Below w.heap.size w w' := by
  rw [h.val]; exact refCheck_any B c hs _ _ _ _ _ _ w h.cis hB
theorem copyConf_M (B : Nat) (c : Cf) (hs : Short c) (m : M3) (w : World) (h : InC w B c m) (hB : B ≤ w.heap.size) :
    Calls Try.prog 8 #[.agg #[.slice m.a0 m.n0 m.k0, .slice m.a1 m.n1 m.k1, .slice m.a2 m.n2 m.k2]] w (Got w c) := by
  rw [h.val]
  refine (copyConf_sep B c hs _ _ _ _ _ _ w h.cis hB).mono fun e w' ⟨A0, A1, A2, p0, p1, p2, he, ⟨m1, m2, ⟨g1, g2, g3⟩, ⟨o0, b0⟩, ⟨o1, b1⟩, o2⟩, hc, hb⟩ => ?_
  refine ⟨⟨A0, c.old.length, p0, A1, c.new.length, p1, A2, c.lrn.length, p2⟩, he, own3 o0 rfl (o1.weaken g1) rfl (o2.weaken (Nat.le_trans g1 g2)) rfl (fun k hk e => ?_) (fun k hk e => ?_) (fun k hk e => ?_), hb⟩
  · have := b0 k hk; have := (o1.blkLt k e).1; omega
  · have := b0 k hk; have := (o2.blkLt k e).1; omega
  · have := b1 k hk; have := (o2.blkLt k e).1; omega
theorem sameConf_M (B B' : Nat) (c : Cf) (hs : Short c) (m m' : M3) (w : World) (h : InC w B c m) (h' : InC w B' c m') (hB : B ≤ w.heap.size) (hB' : B' ≤ w.heap.size) :
    Calls Try.prog 16 #[.agg #[.slice m.a0 m.n0 m.k0, .slice m.a1 m.n1 m.k1, .slice m.a2 m.n2 m.k2], .agg #[.slice m'.a0 m'.n0 m'.k0, .slice m'.a1 m'.n1 m'.k1, .slice m'.a2 m'.n2 m'.k2]] w fun e w' => e = .returned (.bool true) ∧ Below w.heap.size w w' := by
  rw [h.val, h'.val]; exact sameConf_any B B' c c hs hs _ _ _ _ _ _ _ _ _ _ _ _ w h.cis h'.cis hB hB' rfl
theorem in_M (B : Nat) (A : Option Addr) (c n : Nat) (l : List Int) (hn : n = l.length) (hl : n ≤ 100000) (x : Int) (w : World) (h : IsInts w B A l) :
    Calls Try.prog 33 #[.slice A n c, .int .i64 x] w fun e w' => e = .returned (.bool (decide (x ∈ l))) ∧ w' = w := by
  subst hn; exact in_any B A c l hl x w h
theorem copy_M (B : Nat) (A : Option Addr) (c n : Nat) (l : List Int) (hn : n = l.length) (hl : n ≤ 100000) (w : World) (h : IsInts w B A l) (hB : B ≤ w.heap.size) :
    Calls Try.prog 25 #[.slice A n c] w fun e w' => ∃ A' p, e = .returned (.slice A' n p) ∧ OwnsI 3 w' w.heap.size A' p l ∧ Below w.heap.size w w' := by
  subst hn; exact I.copy_any B A c l (by omega) w h hB
theorem forbids_any (B : Nat) (c : Cf) (hs : Short c) (m : M3) (n : Int) (hn : InInt n) (w : World) (h : InC w B c m) (hB : B ≤ w.heap.size) :
    Calls Try.prog 32 #[.agg #[.slice m.a0 m.n0 m.k0, .slice m.a1 m.n1 m.k1, .slice m.a2 m.n2 m.k2], .int .i64 n] w fun e w' => e = .returned (.int .i64 (forb c n)) ∧ Below w.heap.size w w' := by
  obtain ⟨w1, hw1⟩ : ∃ w1, w1 = w.alloc (.cells #[.slice m.a0 m.n0 m.k0, .slice m.a1 m.n1 m.k1, .slice m.a2 m.n2 m.k2] 24) := ⟨_, rfl⟩
  have hb1 : Below w.heap.size w w1 := by rw [hw1]; exact below_new w _
  have hs1 : w1.heap.size = w.heap.size + 1 := by rw [hw1]; simp
  have hx1 : Bx w1 w.heap.size 24 m := by rw [hw1]; exact Bx.new _ _ _
  have hld := (Bx.new w 24 m).ld
  have HI := hid (refCheck_M B c hs m w1 (h.below (hb1.mono hB)) (by omega))
  have HX := hid (And.intro hx1 hs1)
  have HB := hid hb1
  have HG := hid h.chg
  clear h hb1 hs1 hx1
  cases ho : Qu.ok c
  · have HF : Hid (forb c n = 29) := hid (by unfold forb; rw [if_pos ho])
    rw [err_f ho] at HI
    rw [HF.out]
    clear ho
    go_enter Try.func32, Try.ntmps32
    go_wp2_with fail
    rw [← hw1]
    clear hw1
    refine HI.out.mono ?_
    rintro e w2 ⟨rfl, hb2⟩
    have H2 := hid hb2
    clear hb2
    go_wp2_with fail
    go_ret
    exact ⟨rfl, HB.out.trans (H2.out.mono HB.out.size)⟩
  have ho' : ¬ Qu.ok c = false := by rw [ho]; decide
  have HO := hid ho'
  rw [err_t ho] at HI
  clear ho ho'
  by_cases hq : n < 1 ∨ 7 < n
  · have HF : Hid (forb c n = 28) := hid (by unfold forb; rw [if_neg HO.out, if_pos hq])
    rw [HF.out]
    by_cases h1 : n < 1
    · clear hq
      go_enter Try.func32, Try.ntmps32
      go_wp2_with fail
      rw [← hw1]
      clear hw1
      refine HI.out.mono ?_
      rintro e w2 ⟨rfl, hb2⟩
      have H2 := hid hb2
      clear hb2
      go_wp2_with fail
      go_ret
      exact ⟨rfl, HB.out.trans (H2.out.mono HB.out.size)⟩
    · have h7 : 7 < n := by omega
      clear hq
      go_enter Try.func32, Try.ntmps32
      go_wp2_with fail
      rw [← hw1]
      clear hw1
      refine HI.out.mono ?_
      rintro e w2 ⟨rfl, hb2⟩
      have H2 := hid hb2
      clear hb2
      go_wp2_with fail
      go_ret
      exact ⟨rfl, HB.out.trans (H2.out.mono HB.out.size)⟩
  · have h1 : ¬ n < 1 := by omega
    have h7 : ¬ 7 < n := by omega
    have HQ := hid hq
    clear hq
    go_enter Try.func32, Try.ntmps32
    go_wp2_with fail
    rw [← hw1]
    clear hw1
    refine HI.out.mono ?_
    rintro e w2 ⟨rfl, hb2⟩
    have hx2 := HX.out.1.below hb2 (by rw [HX.out.2]; omega)
    have hld2 := hx2.ld
    have H2 := hid (HB.out.trans (hb2.mono HB.out.size))
    clear hb2 hld
    go_wp2_with fail
    refine (refChanging_any m w2).mono ?_
    rintro e w3 ⟨rfl, hb3⟩
    have H3 := hid (H2.out.trans (hb3.mono H2.out.size))
    clear hb3
    rw [HG.out]
    cases hc : chg c
    · have HF : Hid (forb c n = 0) := hid (by unfold forb; rw [if_neg HO.out, if_neg HQ.out, if_neg (by rw [hc]; decide)])
      clear hc
      go_wp2_with fail
      go_ret
      exact ⟨ret_int HF.out.symm, H3.out⟩
    · have HF : Hid (forb c n = 11) := hid (by unfold forb; rw [if_neg HO.out, if_neg HQ.out, if_pos hc])
      clear hc
      go_wp2_with fail
      go_ret
      exact ⟨ret_int HF.out.symm, H3.out⟩
theorem st_nil {w : World} {b : Nat} (h : Bx w b 24 mNil) : (Im.stX 24 (.pointer (some ⟨b, 0, none⟩)) (.agg #[.slice none 0 0, .slice none 0 0, .slice none 0 0])).run Try.prog w = .ok () w := Im.stSame Im.info_conf33 h rfl (by simp [Value.oneCell'])
set_option maxHeartbeats 3200000 in
theorem refAdd_any (B : Nat) (c : Cf) (hs : Short c) (m : M3) (n : Int) (hn : InInt n) (w : World) (h : InC w B c m) (hB : B ≤ w.heap.size) :
    Calls Try.prog 13 #[.agg #[.slice m.a0 m.n0 m.k0, .slice m.a1 m.n1 m.k1, .slice m.a2 m.n2 m.k2], .int .i64 n] w (GotE w (add c n).1 (add c n).2) := by
  obtain ⟨w2, hw2⟩ : ∃ w2, w2 = (w.alloc (.cells #[.slice m.a0 m.n0 m.k0, .slice m.a1 m.n1 m.k1, .slice m.a2 m.n2 m.k2] 24)).alloc (.cells #[.slice none 0 0, .slice none 0 0, .slice none 0 0] 24) := ⟨_, rfl⟩
  have hq := box2 w 24 m
  have hld := hq.2.2.1.ld
  rw [← hw2] at hq
  have HQ := hid hq
  have HI : Hid (∀ W, Below w.heap.size w W → InC W B c m ∧ B ≤ W.heap.size) := hid (fun W hb => ⟨h.below (hb.mono hB), by have := hb.size; omega⟩)
  have HFX := hid (forbids_any B c hs m n hn w2 (h.below (hq.1.mono hB)) (by have := hq.2.1; omega))
  have HL : Hid (m.n0 = c.old.length ∧ m.n0 ≤ 20000) := hid ⟨h.e0, by have := h.e0; have := hs.1; omega⟩
  clear h hq
  obtain ⟨f0, hf0⟩ : ∃ f0, f0 = forb c n := ⟨_, rfl⟩
  rw [← hf0] at HFX
  have HF0 := hid hf0
  clear hf0
  by_cases hz : f0 = 0
  · subst hz
    by_cases hi : n ∈ c.old
    · have HA : Hid (add c n = (nil, 7)) := hid (by unfold add; rw [if_neg (by rw [← HF0.out]; simp), if_pos hi])
      have HIN := hid (fun W hw => in_M B m.a0 m.k0 m.n0 c.old HL.out.1 (by have := HL.out.2; omega) n W (HI.out W hw).1.o)
      rw [decide_eq_true hi] at HIN
      clear hi
      rw [HA.out]
      go_enter Try.func13, Try.ntmps13
      go_wp2_with fail
      rw [← hw2]
      clear hw2 hld
      refine HFX.out.mono ?_
      rintro e w3 ⟨rfl, hb3⟩
      have hx3 := HQ.out.2.2.1.below hb3 HQ.out.2.2.1.lt
      have hz3 := HQ.out.2.2.2.below hb3 HQ.out.2.2.2.lt
      have hlow := HQ.out.1.trans (hb3.mono HQ.out.1.size)
      have hc0 := hx3.c0
      have H3 := hid (And.intro hlow hz3)
      clear hb3 hx3 hz3 hlow
      go_wp2_with fail
      refine (HIN.out w3 H3.out.1).mono ?_
      rintro e w4 ⟨rfl, rfl⟩
      have hst := st_nil H3.out.2
      go_wp2_with fail
      refine bodyPost_ret (Im.results_two rfl Im.info_conf33 Try.underlying24 rfl _ _ (w.heap.size + 1) _ _ _ rfl H3.out.2 rfl) rfl ?_
      exact ⟨mNil, rfl, ownNil _ _ _, H3.out.1⟩
    · have HA : Hid (add c n = (⟨c.old, [], [n]⟩, 0)) := hid (by unfold add; rw [if_neg (by rw [← HF0.out]; simp), if_neg hi])
      have HIN := hid (fun W hw => in_M B m.a0 m.k0 m.n0 c.old HL.out.1 (by have := HL.out.2; omega) n W (HI.out W hw).1.o)
      have HC := hid (fun W hw => copy_M B m.a0 m.k0 m.n0 c.old HL.out.1 (by have := HL.out.2; omega) W (HI.out W hw).1.o (HI.out W hw).2)
      rw [decide_eq_false hi] at HIN
      clear hi
      rw [HA.out]
      go_enter Try.func13, Try.ntmps13
      go_wp2_with fail
      rw [← hw2]
      clear hw2 hld
      refine HFX.out.mono ?_
      rintro e w3 ⟨rfl, hb3⟩
      have hx3 := HQ.out.2.2.1.below hb3 HQ.out.2.2.1.lt
      have hz3 := HQ.out.2.2.2.below hb3 HQ.out.2.2.2.lt
      have hlow := HQ.out.1.trans (hb3.mono HQ.out.1.size)
      have hc0 := hx3.c0
      have hsz : w.heap.size + 2 ≤ w3.heap.size := by have := hb3.size; have := HQ.out.2.1; omega
      have H3 := hid (And.intro hlow (And.intro hz3 hsz))
      clear hb3 hx3 hz3 hlow hsz
      go_wp2_with fail
      refine (HIN.out w3 H3.out.1).mono ?_
      rintro e w9 ⟨rfl, rfl⟩
      go_wp2_with fail
      refine (HC.out _ H3.out.1).mono ?_
      rintro e w4 ⟨A, c1, rfl, ho, hb4⟩
      obtain ⟨w5, hw5⟩ : ∃ w5, w5 = w4.alloc (.cells #[.int .i64 n] 3) := ⟨_, rfl⟩
      have hb5 : Below w4.heap.size w4 w5 := by rw [hw5]; exact below_new w4 _
      have ho5 := ownsI_one w4 n hn
      rw [← hw5] at ho5
      have hz4 := hb4.size
      have hbx := (H3.out.2.1.below hb4 H3.out.2.1.lt).below hb5 (by have := H3.out.2.1.lt; omega)
      have hst := hbx.st (m' := ⟨A, m.n0, c1, none, 0, 0, some ⟨w4.heap.size, 0, none⟩, 1, 1⟩)
      have hd : ∀ k, blk A = some k → blk (some ⟨w4.heap.size, 0, none⟩) ≠ some k := fun k hk e => by
        have := (ho.blkLt k hk).2
        have e2 : w4.heap.size = k := by injection e
        omega
      have H5 := hid (And.intro (hbx.set ⟨A, m.n0, c1, none, 0, 0, some ⟨w4.heap.size, 0, none⟩, 1, 1⟩) (got_box (own2l (ho.below hb5) HL.out.1 (ho5.weaken hz4) (show 1 = [n].length from rfl) hd) (H3.out.1.trans ((hb4.mono H3.out.1.size).trans (hb5.mono (by have := H3.out.1.size; omega)))) (b := w.heap.size + 1) ⟨by omega, by have := H3.out.2.2; omega⟩))
      have HW := hid hw5
      rw [hw5] at hst
      clear ho hb4 hbx hb5 ho5 hd hw5 hz4
      go_wp2_with fail
      rw [← HW.out]
      refine bodyPost_ret (Im.results_two rfl Im.info_conf33 Try.underlying24 rfl _ _ (w.heap.size + 1) _ _ _ rfl H5.out.1 rfl) rfl ?_
      exact ⟨_, rfl, H5.out.2.1, H5.out.2.2⟩
  · have HA : Hid (add c n = (nil, f0)) := hid (by unfold add; rw [if_pos (by rw [← HF0.out]; exact hz), ← HF0.out])
    have hz' : (f0 != 0) = true := by rw [bne_iff_ne]; exact hz
    clear hz
    rw [HA.out]
    go_enter Try.func13, Try.ntmps13
    go_wp2_with fail
    rw [← hw2]
    clear hw2 hld
    refine HFX.out.mono ?_
    rintro e w3 ⟨rfl, hb3⟩
    have hz3 := HQ.out.2.2.2.below hb3 HQ.out.2.2.2.lt
    have hlow := HQ.out.1.trans (hb3.mono HQ.out.1.size)
    have hst := st_nil hz3
    have H3 := hid (And.intro hlow hz3)
    clear hb3 hz3 hlow
    go_wp2_with fail
    refine bodyPost_ret (Im.results_two rfl Im.info_conf33 Try.underlying24 rfl _ _ (w.heap.size + 1) _ _ _ rfl H3.out.2 rfl) rfl ?_
    exact ⟨mNil, rfl, ownNil _ _ _, H3.out.1⟩
end Go.Proofs.Ytfkjahpcpmcefaa.Co
namespace Go.Proofs.Ytfkjahpcpmcefaa.Co
open Go Go.RowKit
open Qu (Cf)
set_option maxRecDepth 100000
set_option linter.unusedVariables false
attribute [local go_sem ↓] Im.loadAt_conf3 Im.storeAt_conf3 loadAt_mem storeAt_mem
def lft (l : List Int) (n : Int) (k : Nat) : List Int := (l.take k).filter (fun x => decide (x ≠ n))
theorem lft_skip {l : List Int} {n : Int} {k : Nat} (h : k < l.length) (he : l[k] = n) : lft l n (k + 1) = lft l n k := by
  unfold lft; rw [List.take_succ_eq_append_getElem h, List.filter_append]; simp [he]
theorem lft_keep {l : List Int} {n : Int} {k : Nat} (h : k < l.length) (he : l[k] ≠ n) : lft l n (k + 1) = lft l n k ++ [l[k]] := by
  unfold lft; rw [List.take_succ_eq_append_getElem h, List.filter_append]; simp [he]
set_option maxHeartbeats 3200000 in
theorem refDrop_any (B : Nat) (c : Cf) (hs : Short c) (m : M3) (n : Int) (hn : InInt n) (w : World) (h : InC w B c m) (hB : B ≤ w.heap.size) :
    Calls Try.prog 14 #[.agg #[.slice m.a0 m.n0 m.k0, .slice m.a1 m.n1 m.k1, .slice m.a2 m.n2 m.k2], .int .i64 n] w (GotE w (drop c n).1 (drop c n).2) := by
  obtain ⟨i0, hi, hz0, hz1, hz2⟩ := info_parts I.info_int
  obtain ⟨w2, hw2⟩ : ∃ w2, w2 = (w.alloc (.cells #[.slice m.a0 m.n0 m.k0, .slice m.a1 m.n1 m.k1, .slice m.a2 m.n2 m.k2] 24)).alloc (.cells #[.slice none 0 0, .slice none 0 0, .slice none 0 0] 24) := ⟨_, rfl⟩
  have hq := box2 w 24 m
  have hld := hq.2.2.1.ld
  rw [← hw2] at hq
  have HQ := hid hq
  have HI : Hid (∀ W, Below w.heap.size w W → InC W B c m ∧ B ≤ W.heap.size) := hid (fun W hb => ⟨h.below (hb.mono hB), by have := hb.size; omega⟩)
  have HFX := hid (forbids_any B c hs m n hn w2 (h.below (hq.1.mono hB)) (by have := hq.2.1; omega))
  have HL : Hid (m.n0 = c.old.length ∧ m.n0 ≤ 20000) := hid ⟨h.e0, by have := h.e0; have := hs.1; omega⟩
  have hle : m.n0 ≤ 20000 := HL.out.2
  clear h hq
  obtain ⟨f0, hf0⟩ : ∃ f0, f0 = forb c n := ⟨_, rfl⟩
  rw [← hf0] at HFX
  have HF0 := hid hf0
  clear hf0
  by_cases hz : f0 = 0
  · subst hz
    by_cases hin : n ∈ c.old
    · have HIN := hid (fun W hw => in_M B m.a0 m.k0 m.n0 c.old HL.out.1 (by have := HL.out.2; omega) n W (HI.out W hw).1.o)
      have HC := hid (fun W hw => copy_M B m.a0 m.k0 m.n0 c.old HL.out.1 (by have := HL.out.2; omega) W (HI.out W hw).1.o (HI.out W hw).2)
      rw [decide_eq_true hin] at HIN
      have HNI := hid hin
      clear hin
      by_cases h1 : m.n0 = 1
      · have HA : Hid (drop c n = (nil, 29)) := hid (by unfold drop; rw [if_neg (by rw [← HF0.out]; simp), if_neg (by simpa using HNI.out), if_pos (by rw [← HL.out.1]; exact h1)])
        have h1' : ((m.n0 : Int) == 1) = true := by rw [beq_iff_eq]; omega
        clear h1
        rw [HA.out]
        go_enter Try.func14, Try.ntmps14
        go_wp2_with fail
        rw [← hw2]
        clear hw2 hld
        refine HFX.out.mono ?_
        rintro e w3 ⟨rfl, hb3⟩
        have hx3 := HQ.out.2.2.1.below hb3 HQ.out.2.2.1.lt
        have hz3 := HQ.out.2.2.2.below hb3 HQ.out.2.2.2.lt
        have hlow := HQ.out.1.trans (hb3.mono HQ.out.1.size)
        have hc0 := hx3.c0
        have H3 := hid (And.intro hlow hz3)
        clear hb3 hx3 hz3 hlow
        go_wp2_with fail
        refine (HIN.out w3 H3.out.1).mono ?_
        rintro e w4 ⟨rfl, rfl⟩
        have hst := st_nil H3.out.2
        go_wp2_with fail
        refine bodyPost_ret (Im.results_two rfl Im.info_conf33 Try.underlying24 rfl _ _ (w.heap.size + 1) _ _ _ rfl H3.out.2 rfl) rfl ?_
        exact ⟨mNil, rfl, ownNil _ _ _, H3.out.1⟩
      · have HA : Hid (drop c n = (⟨c.old, c.old.filter (fun x => decide (x ≠ n)), []⟩, 0)) := hid (by unfold drop; rw [if_neg (by rw [← HF0.out]; simp), if_neg (by simpa using HNI.out), if_neg (by rw [← HL.out.1]; exact h1)])
        have h1' : ((m.n0 : Int) == 1) = false := by rw [beq_eq_false_iff_ne]; omega
        clear h1
        rw [HA.out]
        go_enter Try.func14, Try.ntmps14
        go_wp2_with fail
        rw [← hw2]
        clear hw2 hld
        refine HFX.out.mono ?_
        rintro e w3 ⟨rfl, hb3⟩
        have hx3 := HQ.out.2.2.1.below hb3 HQ.out.2.2.1.lt
        have hz3 := HQ.out.2.2.2.below hb3 HQ.out.2.2.2.lt
        have hlow := HQ.out.1.trans (hb3.mono HQ.out.1.size)
        have hc0 := hx3.c0
        have hsz : w.heap.size + 2 ≤ w3.heap.size := by have := hb3.size; have := HQ.out.2.1; omega
        have H3 := hid (And.intro hlow (And.intro hz3 (And.intro hsz hx3)))
        clear hb3 hx3 hz3 hlow hsz
        go_wp2_with fail
        refine (HIN.out w3 H3.out.1).mono ?_
        rintro e w9 ⟨rfl, rfl⟩
        go_wp2_with fail
        go_loopw [7, 8] (fun v i wr => ∃ (k q : Nat) (A2 : Option Addr) (c2 : Nat), (k ≤ m.n0 ∧ q ≤ k) ∧ v = .slice A2 q c2 ∧ i = .int .i64 k ∧ Hid (q = (lft c.old n k).length ∧ OwnsI 3 wr w9.heap.size A2 c2 (lft c.old n k) ∧ Below w9.heap.size w9 wr)) (fun _ i _ => m.n0 - (RowKit.intOf i).toNat)
        case atStart => exact ⟨0, 0, none, 0, ⟨by omega, by omega⟩, rfl, rfl, hid ⟨rfl, OwnsI.nil _ _ _, Below.refl _ _⟩⟩
        case round =>
          clear h1'
          obtain ⟨k, q, A2, c2, ⟨hk, hqk⟩, rfl, rfl, HR⟩ := hrel
          have hxr := H3.out.2.2.2.below HR.out.2.2 H3.out.2.2.2.lt
          have hcr := hxr.c0
          have hlr := H3.out.1.trans (HR.out.2.2.mono H3.out.1.size)
          have HXR := hid hlr
          clear hxr hlr
          by_cases hlt : k < m.n0
          · have hko : k < c.old.length := by rw [← HL.out.1]; exact hlt
            obtain ⟨b, off, hA0, hb, hcell⟩ := (HI.out wr HXR.out).1.o.cells k hko
            have hck := hcell k hko
            have hxin := (HI.out wr HXR.out).1.o.small _ (List.getElem_mem hko)
            obtain ⟨x, hx⟩ : ∃ x, x = c.old[k] := ⟨_, rfl⟩
            rw [← hx] at hck hxin
            rw [hA0] at hcr
            have HXX := hid hx
            have HHA := hid hA0
            have HXI := hid hxin
            have hblt : b < wr.heap.size := World.block_lt_of_cell? _ _ hck
            clear hcell hx hA0 hxin
            by_cases he : x = n
            · have he' : (x != n) = false := by rw [he]; simp
              have HS := hid (lft_skip (n := n) hko (by rw [← HXX.out]; exact he))
              clear he
              go_wp2_with fail
              go_roundw
              case rel => exact ⟨k + 1, q, A2, c2, ⟨by omega, by omega⟩, rfl, by go_num, hid ⟨by rw [HS.out]; exact HR.out.1, by rw [HS.out]; exact HR.out.2.1, HR.out.2.2⟩⟩
              case measure => simp [RowKit.intOf]; omega
            · have he' : (x != n) = true := by rw [bne_iff_ne]; exact he
              have HS := hid (lft_keep (n := n) hko (by rw [← HXX.out]; exact he))
              clear he
              have hown := HR.out.2.1
              have hbase := HR.out.2.2.size
              have hln : (lft c.old n k).length = q := HR.out.1.symm
              go_wp2_with (at_builtin; refine wpList_append_intN rfl _ _ 22 rfl w9.heap.size 3 i0 Try.underlying22 hi hz0 hz1 hz2 A2 c2 (lft c.old n k) q hln rfl (hown.alloc _) ⟨wr.heap.size, 0, none⟩ 1 x HXI.out rfl (by simp) (lft c.old n k ++ [x]) rfl (by omega) (by simp; omega) ?_)
              intro A3 c3 w5 hown5 hbel5
              have H5 := hid (And.intro hown5 ((HR.out.2.2.alloc HR.out.2.2.size _).trans hbel5))
              have HLN := hid hln
              clear hown hown5 hbel5 hck hln hcr
              go_wp2
              go_roundw
              case rel => exact ⟨k + 1, q + 1, A3, c3, ⟨by omega, by omega⟩, rfl, by go_num, hid ⟨by rw [HS.out, List.length_append, HLN.out]; rfl, by rw [HS.out, ← HXX.out]; exact H5.out.1, H5.out.2⟩⟩
              case measure => simp [RowKit.intOf]; omega
          · obtain rfl : k = m.n0 := by omega
            have hend : lft c.old n m.n0 = c.old.filter (fun x => decide (x ≠ n)) := by unfold lft; rw [HL.out.1, List.take_length]
            rw [hend] at HR
            go_wp2_with fail
            refine (HC.out wr HXR.out).mono ?_
            rintro e w4 ⟨A, c1, rfl, ho, hb4⟩
            have hb94 := HR.out.2.2.trans (hb4.mono HR.out.2.2.size)
            have hbx := H3.out.2.1.below hb94 H3.out.2.1.lt
            have hst := hbx.st (m' := ⟨A, m.n0, c1, A2, q, c2, none, 0, 0⟩)
            have hd : ∀ k, blk A = some k → blk A2 ≠ some k := fun k hk e => by
              have := (ho.blkLt k hk).1
              have := (HR.out.2.1.blkLt k e).2
              omega
            have H5 := hid (And.intro (hbx.set ⟨A, m.n0, c1, A2, q, c2, none, 0, 0⟩) (got_box (own2 (ho.weaken HR.out.2.2.size) HL.out.1 (HR.out.2.1.below hb4) HR.out.1 hd) (H3.out.1.trans (hb94.mono H3.out.1.size)) (b := w.heap.size + 1) ⟨by omega, by have := H3.out.2.2.1; omega⟩))
            clear ho hb4 hbx hd hb94 hcr
            go_wp2_with fail
            refine bodyPost_ret (Im.results_two rfl Im.info_conf33 Try.underlying24 rfl _ _ (w.heap.size + 1) _ _ _ rfl H5.out.1 rfl) rfl ?_
            exact ⟨_, rfl, H5.out.2.1, H5.out.2.2⟩
    · have HIN := hid (fun W hw => in_M B m.a0 m.k0 m.n0 c.old HL.out.1 (by have := HL.out.2; omega) n W (HI.out W hw).1.o)
      rw [decide_eq_false hin] at HIN
      have HA : Hid (drop c n = (nil, 6)) := hid (by unfold drop; rw [if_neg (by rw [← HF0.out]; simp), if_pos hin])
      clear hin
      rw [HA.out]
      go_enter Try.func14, Try.ntmps14
      go_wp2_with fail
      rw [← hw2]
      clear hw2 hld
      refine HFX.out.mono ?_
      rintro e w3 ⟨rfl, hb3⟩
      have hx3 := HQ.out.2.2.1.below hb3 HQ.out.2.2.1.lt
      have hz3 := HQ.out.2.2.2.below hb3 HQ.out.2.2.2.lt
      have hlow := HQ.out.1.trans (hb3.mono HQ.out.1.size)
      have hc0 := hx3.c0
      have H3 := hid (And.intro hlow hz3)
      clear hb3 hx3 hz3 hlow
      go_wp2_with fail
      refine (HIN.out w3 H3.out.1).mono ?_
      rintro e w4 ⟨rfl, rfl⟩
      have hst := st_nil H3.out.2
      go_wp2_with fail
      refine bodyPost_ret (Im.results_two rfl Im.info_conf33 Try.underlying24 rfl _ _ (w.heap.size + 1) _ _ _ rfl H3.out.2 rfl) rfl ?_
      exact ⟨mNil, rfl, ownNil _ _ _, H3.out.1⟩
  · have HA : Hid (drop c n = (nil, f0)) := hid (by unfold drop; rw [if_pos (by rw [← HF0.out]; exact hz), ← HF0.out])
    have hz' : (f0 != 0) = true := by rw [bne_iff_ne]; exact hz
    clear hz
    rw [HA.out]
    go_enter Try.func14, Try.ntmps14
    go_wp2_with fail
    rw [← hw2]
    clear hw2 hld
    refine HFX.out.mono ?_
    rintro e w3 ⟨rfl, hb3⟩
    have hz3 := HQ.out.2.2.2.below hb3 HQ.out.2.2.2.lt
    have hlow := HQ.out.1.trans (hb3.mono HQ.out.1.size)
    have hst := st_nil hz3
    have H3 := hid (And.intro hlow hz3)
    clear hb3 hz3 hlow
    go_wp2_with fail
    refine bodyPost_ret (Im.results_two rfl Im.info_conf33 Try.underlying24 rfl _ _ (w.heap.size + 1) _ _ _ rfl H3.out.2 rfl) rfl ?_
    exact ⟨mNil, rfl, ownNil _ _ _, H3.out.1⟩
end Go.Proofs.Ytfkjahpcpmcefaa.Co
namespace Go.Proofs.Ytfkjahpcpmcefaa.Co
open Go Go.RowKit
open Qu (Cf)
set_option maxRecDepth 100000
set_option linter.unusedVariables false
attribute [local go_sem ↓] Im.loadAt_conf3 Im.storeAt_conf3 loadAt_mem storeAt_mem
theorem uni_self {l : List Int} (h : l.Pairwise (· < ·)) : Qu.uni l = l := Qu.uni_eq (Qu.uni_is l).1 h (fun x => Qu.uni_mem)
def ups (c : Cf) (k : Nat) : List Int := Qu.uni (c.old ++ c.lrn.take k)
theorem ups_le (c : Cf) (k : Nat) : (ups c k).length ≤ c.old.length + c.lrn.length := by
  have := (Qu.uni_is (c.old ++ c.lrn.take k)).length_le
  rw [List.length_append, List.length_take] at this
  unfold ups
  omega
theorem ups_succ {c : Cf} {k : Nat} (h : k < c.lrn.length) : ups c (k + 1) = Qu.wend c.lrn[k] (Qu.wto (ups c k) c.lrn[k] (ups c k).length) := by
  unfold ups
  rw [Qu.with_is, List.append_assoc, ← List.take_succ_eq_append_getElem h]
theorem with_M (B : Nat) (A : Option Addr) (k n : Nat) (l r : List Int) (hn : n = l.length) (hl : n ≤ 10000) (x : Int) (hx : InInt x) (hr : r = Qu.wend x (Qu.wto l x l.length)) (w : World) (h : IsInts w B A l) (hB : B ≤ w.heap.size) :
    Calls Try.prog 36 #[.slice A n k, .int .i64 x] w fun e w' => ∃ A' k' n', e = .returned (.slice A' n' k') ∧ n' = r.length ∧ OwnsI 3 w' w.heap.size A' k' r ∧ Below w.heap.size w w' := by
  subst hn hr
  exact (with_any B A k l hl x hx w h hB).mono fun e w' ⟨A', k', he, ho, hb⟩ => ⟨A', k', _, he, rfl, ho, hb⟩
set_option maxHeartbeats 3200000 in
theorem refNext_any (B B' : Nat) (c : Cf) (hs : Short c) (hs3 : c.old.length ≤ 3000 ∧ c.lrn.length ≤ 3000) (m : M3) (A' : Option Addr) (n' k' : Nat) (f : List Int) (hn' : n' = f.length) (hl' : n' ≤ 100000) (w : World) (h : InC w B c m) (h' : IsInts w B' A' f) (hB : B ≤ w.heap.size) (hB' : B' ≤ w.heap.size) :
    Calls Try.prog 15 #[.agg #[.slice m.a0 m.n0 m.k0, .slice m.a1 m.n1 m.k1, .slice m.a2 m.n2 m.k2], .slice A' n' k'] w (GotB w (next c f).1 (next c f).2) := by
  obtain ⟨w2, hw2⟩ : ∃ w2, w2 = (w.alloc (.cells #[.slice m.a0 m.n0 m.k0, .slice m.a1 m.n1 m.k1, .slice m.a2 m.n2 m.k2] 24)).alloc (.cells #[.slice none 0 0, .slice none 0 0, .slice none 0 0] 24) := ⟨_, rfl⟩
  have hq := box2 w 24 m
  have hld := hq.2.2.1.ld
  rw [← hw2] at hq
  have HQ := hid hq
  have HI : Hid (∀ W, Below w.heap.size w W → InC W B c m ∧ B ≤ W.heap.size) := hid (fun W hb => ⟨h.below (hb.mono hB), by have := hb.size; omega⟩)
  have HF : Hid (∀ W, Below w.heap.size w W → IsInts W B' A' f) := hid (fun W hb => h'.below (hb.mono hB'))
  have HCK := hid (refCheck_M B c hs m w2 (h.below (hq.1.mono hB)) (by have := hq.2.1; omega))
  have HG := hid h.chg
  have HL : Hid (m.n0 = c.old.length ∧ m.n0 ≤ 20000 ∧ m.n1 = c.new.length ∧ m.n1 ≤ 20000 ∧ m.n2 = c.lrn.length ∧ m.n2 ≤ 3000) := hid ⟨h.e0, by have := h.e0; have := hs.1; omega, h.e1, by have := h.e1; have := hs.2.1; omega, h.e2, by have := h.e2; omega⟩
  have HFN := hid (And.intro hn' hl')
  have HS := hid (And.intro hs hs3)
  have HK : Hid (∀ W, Below w2.heap.size w2 W → (Bx W w.heap.size 24 m ∧ Bx W (w.heap.size + 1) 24 mNil) ∧ Below w.heap.size w W ∧ w.heap.size + 2 ≤ W.heap.size) := hid (fun W hb => ⟨⟨hq.2.2.1.below hb hq.2.2.1.lt, hq.2.2.2.below hb hq.2.2.2.lt⟩, hq.1.trans (hb.mono hq.1.size), by have := hb.size; have := hq.2.1; omega⟩)
  clear h h' hq hn' hl' hs hs3 hB hB'
  cases ho : Qu.ok c
  · have HN := hid (next_bad (.inl ho) f)
    rw [err_f ho] at HCK
    clear ho
    rw [HN.out]
    go_enter Try.func15, Try.ntmps15
    go_wp2_with fail
    rw [← hw2]
    clear hw2 hld
    refine HCK.out.mono ?_
    rintro e w3 ⟨rfl, hb3⟩
    have hld3 := (HK.out w3 hb3).1.1.ld
    have H3 := hid hb3
    clear hb3
    go_wp2_with fail
    refine (copyConf_M B c HS.out.1 m w3 (HI.out w3 (HK.out w3 H3.out).2.1).1 (HI.out w3 (HK.out w3 H3.out).2.1).2).mono ?_
    rintro e w4 ⟨m', rfl, ho4, hb4⟩
    have hb24 := H3.out.trans (hb4.mono H3.out.size)
    have hst := (HK.out w4 hb24).1.2.st (m' := m')
    have H4 := hid (And.intro ((HK.out w4 hb24).1.2.set m') (got_box (w2 := w3) (b := w.heap.size + 1) ho4 (HK.out w4 hb24).2.1 ⟨by omega, by have := (HK.out w3 H3.out).2.2; omega⟩))
    clear hb4 ho4 hb24
    go_wp2_with fail
    refine bodyPost_ret (Im.results_two rfl Im.info_conf33 Try.underlying24 rfl _ _ (w.heap.size + 1) _ _ _ rfl H4.out.1 rfl) rfl ?_
    exact ⟨m', rfl, H4.out.2.1, H4.out.2.2⟩
  have HO := hid ho
  rw [err_t ho] at HCK
  clear ho
  cases hc : Co.chg c
  · have HN := hid (next_bad (.inr hc) f)
    rw [hc] at HG
    clear hc
    rw [HN.out]
    go_enter Try.func15, Try.ntmps15
    go_wp2_with fail
    rw [← hw2]
    clear hw2 hld
    refine HCK.out.mono ?_
    rintro e w3 ⟨rfl, hb3⟩
    have hld3 := (HK.out w3 hb3).1.1.ld
    have H3 := hid hb3
    clear hb3
    go_wp2_with fail
    refine (refChanging_any m w3).mono ?_
    rintro e w5 ⟨rfl, hb5⟩
    rw [HG.out]
    have hb25 := H3.out.trans (hb5.mono H3.out.size)
    have hld5 := (HK.out w5 hb25).1.1.ld
    have H5 := hid hb25
    clear hb5 hb25 hld3
    go_wp2_with fail
    refine (copyConf_M B c HS.out.1 m w5 (HI.out w5 (HK.out w5 H5.out).2.1).1 (HI.out w5 (HK.out w5 H5.out).2.1).2).mono ?_
    rintro e w4 ⟨m', rfl, ho4, hb4⟩
    have hb24 := H5.out.trans (hb4.mono H5.out.size)
    have hst := (HK.out w4 hb24).1.2.st (m' := m')
    have H4 := hid (And.intro ((HK.out w4 hb24).1.2.set m') (got_box (w2 := w5) (b := w.heap.size + 1) ho4 (HK.out w4 hb24).2.1 ⟨by omega, by have := (HK.out w5 H5.out).2.2; omega⟩))
    clear hb4 ho4 hb24
    go_wp2_with fail
    refine bodyPost_ret (Im.results_two rfl Im.info_conf33 Try.underlying24 rfl _ _ (w.heap.size + 1) _ _ _ rfl H4.out.1 rfl) rfl ?_
    exact ⟨m', rfl, H4.out.2.1, H4.out.2.2⟩
  have hgo : ¬ (Qu.ok c = false ∨ Co.chg c = false) := by rw [HO.out, hc]; decide
  have HGO := hid hgo
  rw [hc] at HG
  clear hc hgo
  by_cases hn : c.new = []
  · have hz : m.n1 = 0 := by rw [HL.out.2.2.1, hn]; rfl
    have hz' : decide (0 < m.n1) = false := by rw [hz]; decide
    have HNN := hid hn
    clear hn hz
    go_enter Try.func15, Try.ntmps15
    go_wp2_with fail
    rw [← hw2]
    clear hw2 hld
    refine HCK.out.mono ?_
    rintro e w3 ⟨rfl, hb3⟩
    have hld3 := (HK.out w3 hb3).1.1.ld
    have H3 := hid hb3
    clear hb3
    go_wp2_with fail
    refine (refChanging_any m w3).mono ?_
    rintro e w5 ⟨rfl, hb5⟩
    rw [HG.out]
    have hb25 := H3.out.trans (hb5.mono H3.out.size)
    have hc1 := (HK.out w5 hb25).1.1.c1
    have hc0 := (HK.out w5 hb25).1.1.c0
    have H5 := hid hb25
    clear hb5 hb25 hld3
    go_wp2_with fail
    refine (copy_M B m.a0 m.k0 m.n0 c.old HL.out.1 (by have := HL.out.2.1; omega) w5 (HI.out w5 (HK.out w5 H5.out).2.1).1.o (HI.out w5 (HK.out w5 H5.out).2.1).2).mono ?_
    rintro e w6 ⟨Aa, ka, rfl, ho6, hb6⟩
    have hold : c.old = ups c 0 := by
      unfold ups
      rw [List.take_zero, List.append_nil, uni_self]
      exact rises (ok_parts HO.out).2.1
    have H6 := hid (And.intro ho6 (And.intro (H5.out.trans (hb6.mono H5.out.size)) (And.intro hold hb6.size)))
    clear hc1 hc0 ho6 hb6 hold
    go_wp2_with fail
    go_loopw [6, 7] (fun v i wr => ∃ (k q : Nat) (A2 : Option Addr) (c2 : Nat), k ≤ m.n2 ∧ v = .slice A2 q c2 ∧ i = .int .i64 k ∧ Hid (q = (ups c k).length ∧ OwnsI 3 wr w5.heap.size A2 c2 (ups c k) ∧ Below w2.heap.size w2 wr ∧ w5.heap.size ≤ wr.heap.size ∧ ∀ x ∈ c.lrn.take k, x ∈ f)) (fun _ i _ => m.n2 - (RowKit.intOf i).toNat)
    case atStart =>
      exact ⟨0, m.n0, Aa, ka, by omega, rfl, rfl, hid ⟨by rw [← H6.out.2.2.1]; exact HL.out.1, by rw [← H6.out.2.2.1]; exact H6.out.1, H6.out.2.1, H6.out.2.2.2, by simp⟩⟩
    case round =>
      clear hz'
      have hn2 : m.n2 ≤ 3000 := HL.out.2.2.2.2.2
      obtain ⟨k, q, A2, c2, hk, rfl, rfl, HR⟩ := hrel
      have hcr := (HK.out wr HR.out.2.2.1).1.1.c2
      have hlow := (HK.out wr HR.out.2.2.1).2.1
      have HLOW := hid hlow
      clear hlow
      by_cases hlt : k < m.n2
      · have hko : k < c.lrn.length := by rw [← HL.out.2.2.2.2.1]; exact hlt
        obtain ⟨b, off, hA0, hb, hcell⟩ := (HI.out wr HLOW.out).1.l.cells k hko
        have hck := hcell k hko
        have hxin := (HI.out wr HLOW.out).1.l.small _ (List.getElem_mem hko)
        obtain ⟨x, hx⟩ : ∃ x, x = c.lrn[k] := ⟨_, rfl⟩
        have hsu := ups_succ hko
        rw [← hx] at hck hxin hsu
        rw [hA0] at hcr
        have HXX := hid hx
        have HXI := hid hxin
        have HSU := hid hsu
        have hblt : b < wr.heap.size := World.block_lt_of_cell? _ _ hck
        have HIN := hid (in_M B' A' k' n' f HFN.out.1 HFN.out.2 x wr (HF.out wr HLOW.out))
        clear hcell hx hA0 hxin hsu
        by_cases hf : x ∈ f
        · rw [decide_eq_true hf] at HIN
          have HFI := hid hf
          have hqm : q ≤ 10000 := by have := HR.out.1; have := ups_le c k; have := HS.out.2.1; have := HS.out.2.2; omega
          have HWM := hid (fun r hr => with_M wr.heap.size A2 c2 q (ups c k) r HR.out.1 hqm x HXI.out hr wr HR.out.2.1.reads (Nat.le_refl _))
          clear hf hqm
          go_wp2_with fail
          refine HIN.out.mono ?_
          rintro e w7 ⟨rfl, hw7⟩
          rw [hw7]
          clear hw7
          go_wp2_with fail
          refine (HWM.out (ups c (k + 1)) HSU.out).mono ?_
          rintro e w8 ⟨A3, c3, n3, rfl, hn3, ho8, hb8⟩
          have hb28 := HR.out.2.2.1.trans (hb8.mono HR.out.2.2.1.size)
          have H8 := hid (And.intro hn3 (And.intro (ho8.weaken HR.out.2.2.2.1) (And.intro hb28 (Nat.le_trans HR.out.2.2.2.1 hb8.size))))
          clear hn3 ho8 hb8 hb28
          go_wp2_with fail
          go_roundw
          case rel =>
            refine ⟨k + 1, n3, A3, c3, by omega, rfl, by go_num, hid ⟨H8.out.1, H8.out.2.1, H8.out.2.2.1, H8.out.2.2.2, fun y hy => ?_⟩⟩
            rw [List.take_succ_eq_append_getElem hko, List.mem_append, List.mem_singleton] at hy
            rcases hy with hy | hy
            · exact HR.out.2.2.2.2 y hy
            · rw [hy, ← HXX.out]; exact HFI.out
          case measure => simp [RowKit.intOf]; omega
        · rw [decide_eq_false hf] at HIN
          have HN := hid (next_wait HGO.out HNN.out (f := f) (fun hall => hf (by rw [HXX.out]; exact hall _ (List.getElem_mem hko))))
          rw [HN.out]
          clear hf
          go_wp2_with fail
          refine HIN.out.mono ?_
          rintro e w7 ⟨rfl, hw7⟩
          rw [hw7]
          clear hw7
          have hldr := (HK.out wr HR.out.2.2.1).1.1.ld
          go_wp2_with fail
          refine (copyConf_M B c HS.out.1 m wr (HI.out wr HLOW.out).1 (HI.out wr HLOW.out).2).mono ?_
          rintro e w4 ⟨m', rfl, ho4, hb4⟩
          have hb24 := HR.out.2.2.1.trans (hb4.mono HR.out.2.2.1.size)
          have hst := (HK.out w4 hb24).1.2.st (m' := m')
          have H4 := hid (And.intro ((HK.out w4 hb24).1.2.set m') (got_box (w2 := wr) (b := w.heap.size + 1) ho4 (HK.out w4 hb24).2.1 ⟨by omega, by have := (HK.out wr HR.out.2.2.1).2.2; omega⟩))
          clear hb4 ho4 hb24 hldr
          go_wp2_with fail
          refine bodyPost_ret (Im.results_two rfl Im.info_conf33 Try.underlying24 rfl _ _ (w.heap.size + 1) _ _ _ rfl H4.out.1 rfl) rfl ?_
          exact ⟨m', rfl, H4.out.2.1, H4.out.2.2⟩
      · obtain rfl : k = m.n2 := by omega
        have hall : ∀ x ∈ c.lrn, x ∈ f := by
          have := HR.out.2.2.2.2
          rwa [HL.out.2.2.2.2.1, List.take_length] at this
        have hN := next_both HGO.out HNN.out hall
        have hu : Qu.uni (c.old ++ c.new ++ c.lrn) = ups c m.n2 := by
          unfold ups
          rw [HL.out.2.2.2.2.1, List.take_length, HNN.out, List.append_nil]
        rw [hu] at hN
        have HN := hid hN
        have hc0 := (HK.out wr HR.out.2.2.1).1.1.c0
        clear hall hN hu
        go_wp2_with fail
        refine (copy_M B m.a0 m.k0 m.n0 c.old HL.out.1 (by have := HL.out.2.1; omega) wr (HI.out wr HLOW.out).1.o (HI.out wr HLOW.out).2).mono ?_
        rintro e w4 ⟨A, c1, rfl, ho4, hb4⟩
        have hb24 := HR.out.2.2.1.trans (hb4.mono HR.out.2.2.1.size)
        have hst := (HK.out w4 hb24).1.2.st (m' := ⟨A, m.n0, c1, A2, q, c2, none, 0, 0⟩)
        have hd : ∀ k, blk A = some k → blk A2 ≠ some k := fun k hk e => by
          have := (ho4.blkLt k hk).1
          have := (HR.out.2.1.blkLt k e).2
          omega
        have H4 := hid (And.intro ((HK.out w4 hb24).1.2.set ⟨A, m.n0, c1, A2, q, c2, none, 0, 0⟩) (got_box (w2 := w5) (b := w.heap.size + 1) (own2 (ho4.weaken HR.out.2.2.2.1) HL.out.1 (HR.out.2.1.below hb4) HR.out.1 hd) (HK.out w4 hb24).2.1 ⟨by omega, by have := (HK.out w5 H5.out).2.2; omega⟩))
        clear hb4 ho4 hb24 hc0 hcr hd
        go_wp2_with fail
        refine bodyPost_ret (Im.results_two rfl Im.info_conf33 Try.underlying24 rfl _ _ (w.heap.size + 1) _ _ _ rfl H4.out.1 rfl) rfl ?_
        rw [HN.out]
        exact ⟨_, rfl, H4.out.2.1, H4.out.2.2⟩
  · have HN := hid (next_alone HGO.out hn f)
    have hz : 0 < m.n1 := by rw [HL.out.2.2.1]; exact List.length_pos_iff.2 hn
    have hz' : (0 : Int) < (m.n1 : Int) := by omega
    clear hn hz
    rw [HN.out]
    go_enter Try.func15, Try.ntmps15
    go_wp2_with fail
    rw [← hw2]
    clear hw2 hld
    refine HCK.out.mono ?_
    rintro e w3 ⟨rfl, hb3⟩
    have hld3 := (HK.out w3 hb3).1.1.ld
    have H3 := hid hb3
    clear hb3
    go_wp2_with fail
    refine (refChanging_any m w3).mono ?_
    rintro e w5 ⟨rfl, hb5⟩
    rw [HG.out]
    have hb25 := H3.out.trans (hb5.mono H3.out.size)
    have hc1 := (HK.out w5 hb25).1.1.c1
    have H5 := hid hb25
    clear hb5 hb25 hld3
    go_wp2_with fail
    refine (copy_M B m.a1 m.k1 m.n1 c.new HL.out.2.2.1 (by have := HL.out.2.2.2.1; omega) w5 (HI.out w5 (HK.out w5 H5.out).2.1).1.n (HI.out w5 (HK.out w5 H5.out).2.1).2).mono ?_
    rintro e w4 ⟨A, c1, rfl, ho4, hb4⟩
    have hb24 := H5.out.trans (hb4.mono H5.out.size)
    have hst := (HK.out w4 hb24).1.2.st (m' := ⟨A, m.n1, c1, none, 0, 0, none, 0, 0⟩)
    have H4 := hid (And.intro ((HK.out w4 hb24).1.2.set ⟨A, m.n1, c1, none, 0, 0, none, 0, 0⟩) (got_box (w2 := w5) (b := w.heap.size + 1) (own1 ho4 HL.out.2.2.1) (HK.out w4 hb24).2.1 ⟨by omega, by have := (HK.out w5 H5.out).2.2; omega⟩))
    clear hb4 ho4 hb24 hc1
    go_wp2_with fail
    refine bodyPost_ret (Im.results_two rfl Im.info_conf33 Try.underlying24 rfl _ _ (w.heap.size + 1) _ _ _ rfl H4.out.1 rfl) rfl ?_
    exact ⟨_, rfl, H4.out.2.1, H4.out.2.2⟩
end Go.Proofs.Ytfkjahpcpmcefaa.Co
namespace Go.Proofs.Ytfkjahpcpmcefaa.Co
open Go Go.RowKit
open Qu (Cf)
set_option maxRecDepth 100000
set_option linter.unusedVariables false
attribute [local go_sem ↓] Im.loadAt_conf3 Im.storeAt_conf3 loadAt_mem storeAt_mem
theorem ownsI_lit (w : World) (l : List Int) (hl : ∀ x ∈ l, InInt x) (hm : l.length ≤ maxLen) : OwnsI 3 (w.alloc (.cells (ints l).toArray 3)) w.heap.size (some ⟨w.heap.size, 0, none⟩) l.length l := by
  refine ⟨hl, by simp [ints], .inr ⟨w.heap.size, l.length, _, rfl, Nat.le_refl _, heap_alloc_new w _, Nat.le_refl _, hm, by simp [ints], by rw [List.toList_toArray, Nat.mul_one, List.take_of_length_le (by simp [ints])]⟩⟩
theorem small_of (l : List Int) (h : (l.all fun x => decide (-9223372036854775808 ≤ x ∧ x ≤ 9223372036854775807)) = true) : ∀ x ∈ l, InInt x := fun x hx => by
  have := List.all_eq_true.1 h x hx
  have := of_decide_eq_true this
  exact ⟨by omega, by omega⟩
theorem lit_in (w : World) (l : List Int) (h : (l.all fun x => decide (-9223372036854775808 ≤ x ∧ x ≤ 9223372036854775807)) = true) (hm : l.length ≤ 1000) : IsInts (w.alloc (.cells (ints l).toArray 3)) (w.heap.size + 1) (some ⟨w.heap.size, 0, none⟩) l := by
  have := (ownsI_lit w l (small_of l h) (by unfold maxLen; omega)).reads
  rwa [World.size_alloc] at this
def c3 : Cf := ⟨[1, 2, 3], [], []⟩
def c34 : Cf := ⟨[1, 2, 3], [], [4]⟩
def c3t4 : Cf := ⟨[1, 2, 3], [1, 2, 3, 4], []⟩
def c4 : Cf := ⟨[1, 2, 3, 4], [], []⟩
theorem k_add : add c3 4 = (c34, 0) := by kernel_rfl
theorem k_no : next c34 [1, 2] = (c34, false) := by kernel_rfl
theorem k_b : next c34 [4] = (c3t4, true) := by kernel_rfl
theorem k_c : next c3t4 [] = (c4, true) := by kernel_rfl
theorem short_c3 : Short c3 := ⟨by decide, by decide, by decide⟩
theorem short_c34 : Short c34 := ⟨by decide, by decide, by decide⟩
theorem short_c3t4 : Short c3t4 := ⟨by decide, by decide, by decide⟩
theorem short_c4 : Short c4 := ⟨by decide, by decide, by decide⟩
theorem three_any (w : World) : Calls Try.prog 24 #[] w (Got w c3) := by
  obtain ⟨w1, hw1⟩ : ∃ w1, w1 = w.alloc (.cells #[.slice none 0 0, .slice none 0 0, .slice none 0 0] 24) := ⟨_, rfl⟩
  obtain ⟨w2, hw2⟩ : ∃ w2, w2 = w1.alloc (.cells #[.int .i64 1, .int .i64 2, .int .i64 3] 3) := ⟨_, rfl⟩
  have hb1 : Below w.heap.size w w1 := by rw [hw1]; exact below_new w _
  have hs1 : w1.heap.size = w.heap.size + 1 := by rw [hw1]; simp
  have hx1 : Bx w1 w.heap.size 24 mNil := by rw [hw1]; exact heap_alloc_new w _
  have hb2 : Below w1.heap.size w1 w2 := by rw [hw2]; exact below_new w1 _
  have ho : OwnsI 3 w2 w1.heap.size (some ⟨w1.heap.size, 0, none⟩) 3 [1, 2, 3] := by rw [hw2]; exact ownsI_lit w1 [1, 2, 3] (small_of _ (by decide)) (by decide)
  have hx2 := hx1.below hb2 hx1.lt
  have ho' : OwnsI 3 w2 w1.heap.size (some ⟨w.heap.size + 1, 0, none⟩) 3 [1, 2, 3] := by rw [hs1] at ho ⊢; exact ho
  have hst := hx2.st (m' := ⟨some ⟨w.heap.size + 1, 0, none⟩, 3, 3, none, 0, 0, none, 0, 0⟩)
  have H := hid (And.intro (hx2.set ⟨some ⟨w.heap.size + 1, 0, none⟩, 3, 3, none, 0, 0, none, 0, 0⟩) (got_box (w2 := w1) (b := w.heap.size) (own1 (n := 3) ho' rfl) (hb1.trans (hb2.mono hb1.size)) ⟨Nat.le_refl _, by omega⟩))
  have HW := hid hw2
  rw [hw2, hw1] at hst
  clear hb1 hs1 hx1 hb2 ho ho' hx2
  go_enter Try.func24, Try.ntmps24
  go_wp2_with fail
  rw [← hw1, ← HW.out]
  refine bodyPost_ret (results_cell_row rfl _ _ w.heap.size _ _ _ _ rfl H.out.1 Try.underlying24 rfl (by rw [Im.info_conf33]; rfl)) rfl ?_
  exact ⟨_, rfl, H.out.2.1, H.out.2.2⟩
theorem box_new {w v : World} {m : M3} (h : v = w.alloc (.cells #[.slice m.a0 m.n0 m.k0, .slice m.a1 m.n1 m.k1, .slice m.a2 m.n2 m.k2] 24)) : Bx v w.heap.size 24 m ∧ Below w.heap.size w v ∧ v.heap.size = w.heap.size + 1 ∧
    (Im.stX 24 (.pointer (some ⟨w.heap.size, 0, none⟩)) (.agg #[.slice m.a0 m.n0 m.k0, .slice m.a1 m.n1 m.k1, .slice m.a2 m.n2 m.k2])).run Try.prog (w.alloc (.cells #[.slice none 0 0, .slice none 0 0, .slice none 0 0] 24)) = .ok () v := by
  subst h
  exact ⟨Bx.new _ _ _, below_new _ _, by simp, Im.stNew w _ 3 Im.info_conf33 _ _ rfl rfl (by simp [Value.oneCell'])⟩
set_option maxHeartbeats 6400000 in
theorem works_any (w : World) : Calls Try.prog 7 #[] w fun e w' => e = .returned (.bool true) ∧ Below w.heap.size w w' := by
  have H0 := hid (three_any w)
  go_enter Try.func7, Try.ntmps7
  go_wp2_with fail
  refine H0.out.mono ?_
  rintro e w1 ⟨m1, rfl, ho1, hb1⟩
  have HA := add_any w1.heap.size c3 short_c3 m1 4 (by exact ⟨by decide, by decide⟩) w1 ho1.inC (Nat.le_refl _)
  rw [k_add] at HA
  have HA := hid HA
  have B1 := hid hb1
  clear ho1 hb1 H0
  go_wp2_with fail
  refine HA.out.mono ?_
  rintro e w2 ⟨ma, rfl, hoa, hb2⟩
  obtain ⟨v2, hv2⟩ : ∃ v2, v2 = w2.alloc (.cells #[.slice ma.a0 ma.n0 ma.k0, .slice ma.a1 ma.n1 ma.k1, .slice ma.a2 ma.n2 ma.k2] 24) := ⟨_, rfl⟩
  obtain ⟨hx2, hbv2, hs2, hst2⟩ := box_new hv2
  obtain ⟨u2, hu2⟩ : ∃ u2, u2 = v2.alloc (.cells #[.int .i64 1, .int .i64 2] 3) := ⟨_, rfl⟩
  have hbu2 : Below v2.heap.size v2 u2 := by rw [hu2]; exact below_new _ _
  have hil : IsInts u2 (v2.heap.size + 1) (some ⟨v2.heap.size, 0, none⟩) [1, 2] := by rw [hu2]; exact lit_in v2 [1, 2] (by decide) (by decide)
  have hsu : u2.heap.size = v2.heap.size + 1 := by rw [hu2]; simp
  have hia := ((hoa.below hbv2).below hbu2).inC
  have HN := next_any w2.heap.size (v2.heap.size + 1) c34 short_c34 ma (some ⟨v2.heap.size, 0, none⟩) 2 2 [1, 2] rfl (by decide) u2 hia hil (by omega) (by omega)
  rw [k_no] at HN
  have HN := hid HN
  have hk : ∀ W, Below v2.heap.size v2 W → Bx W w2.heap.size 24 ma ∧ InC W w2.heap.size c34 ma ∧ Below w.heap.size w W ∧ w2.heap.size + 1 ≤ W.heap.size := fun W hb =>
    ⟨hx2.below hb hx2.lt, ((hoa.below hbv2).below hb).inC, (B1.out.trans ((hb2.mono B1.out.size).trans (hbv2.mono (by have := B1.out.size; have := hb2.size; omega)))).trans (hb.mono (by have := B1.out.size; have := hb2.size; omega)), by have := hb.size; omega⟩
  have HK := hid hk
  have BU := hid (And.intro hbu2 hsu)
  have hld2 := hx2.ld
  have HU2 := hid hu2
  clear hv2 hoa hb2 hx2 hbv2 hs2 hbu2 hil hsu hia HA hu2 hk
  go_wp2_with fail
  rw [← HU2.out]
  refine HN.out.mono ?_
  rintro e w3 ⟨mx, rfl, hox, hb3⟩
  have hb23 := BU.out.1.trans (hb3.mono BU.out.1.size)
  obtain ⟨v3, hv3⟩ : ∃ v3, v3 = w3.alloc (.cells #[.slice mx.a0 mx.n0 mx.k0, .slice mx.a1 mx.n1 mx.k1, .slice mx.a2 mx.n2 mx.k2] 24) := ⟨_, rfl⟩
  obtain ⟨hx3, hbv3, hs3, hst3⟩ := box_new hv3
  obtain ⟨u3, hu3⟩ : ∃ u3, u3 = v3.alloc (.cells #[.int .i64 4] 3) := ⟨_, rfl⟩
  have hbu3 : Below v3.heap.size v3 u3 := by rw [hu3]; exact below_new _ _
  have hil : IsInts u3 (v3.heap.size + 1) (some ⟨v3.heap.size, 0, none⟩) [4] := by rw [hu3]; exact lit_in v3 [4] (by decide) (by decide)
  have hsu : u3.heap.size = v3.heap.size + 1 := by rw [hu3]; simp
  have hb2v3 := hb23.trans (hbv3.mono hb23.size)
  have hb2u3 := hb2v3.trans (hbu3.mono hb2v3.size)
  have HN3 := next_any w2.heap.size (v3.heap.size + 1) c34 short_c34 ma (some ⟨v3.heap.size, 0, none⟩) 1 1 [4] rfl (by decide) u3 (HK.out u3 hb2u3).2.1 hil (by have := (HK.out u3 hb2u3).2.2.2; omega) (by omega)
  rw [k_b] at HN3
  have HN3 := hid HN3
  have hld3 := (HK.out v3 hb2v3).1.ld
  have BU3 := hid hb2u3
  have HU3 := hid hu3
  clear hv3 hox hb3 hx3 hbv3 hs3 hbu3 hil hsu hu3 hb23 hb2v3 hb2u3 HN hld2 hst2
  go_wp2_with fail
  rw [← HU3.out]
  refine HN3.out.mono ?_
  rintro e w4 ⟨mb, rfl, hob, hb4⟩
  obtain ⟨v4, hv4⟩ : ∃ v4, v4 = w4.alloc (.cells #[.slice mb.a0 mb.n0 mb.k0, .slice mb.a1 mb.n1 mb.k1, .slice mb.a2 mb.n2 mb.k2] 24) := ⟨_, rfl⟩
  obtain ⟨hx4, hbv4, hs4, hst4⟩ := box_new hv4
  have hb24 := BU3.out.trans (hb4.mono BU3.out.size)
  have hb2v4 := hb24.trans (hbv4.mono hb24.size)
  have hk4 : ∀ W, Below v4.heap.size v4 W → Bx W w4.heap.size 24 mb ∧ InC W w4.heap.size c3t4 mb ∧ Below v2.heap.size v2 W ∧ w4.heap.size + 1 ≤ W.heap.size := fun W hb =>
    ⟨hx4.below hb hx4.lt, ((hob.below hbv4).below hb).inC, hb2v4.trans (hb.mono hb2v4.size), by have := hb.size; omega⟩
  have HN4 := next_any w4.heap.size 0 c3t4 short_c3t4 mb none 0 0 [] rfl (by decide) v4 (hk4 v4 (Below.refl _ _)).2.1 IsInts.nil (by omega) (by omega)
  rw [k_c] at HN4
  have HN4 := hid HN4
  have HK4 := hid hk4
  have hld4 := hx4.ld
  clear hv4 hob hb4 hx4 hbv4 hs4 hb24 hb2v4 hk4 HN3 hld3 hst3
  go_wp2_with fail
  refine HN4.out.mono ?_
  rintro e w5 ⟨mc, rfl, hoc, hb5⟩
  obtain ⟨v5, hv5⟩ : ∃ v5, v5 = w5.alloc (.cells #[.slice mc.a0 mc.n0 mc.k0, .slice mc.a1 mc.n1 mc.k1, .slice mc.a2 mc.n2 mc.k2] 24) := ⟨_, rfl⟩
  obtain ⟨hx5, hbv5, hs5, hst5⟩ := box_new hv5
  have hb4v5 := hb5.trans (hbv5.mono hb5.size)
  have hk5 : ∀ W, Below v5.heap.size v5 W → Bx W w5.heap.size 24 mc ∧ InC W w5.heap.size c4 mc ∧ Below v4.heap.size v4 W ∧ w5.heap.size + 1 ≤ W.heap.size := fun W hb =>
    ⟨hx5.below hb hx5.lt, ((hoc.below hbv5).below hb).inC, hb4v5.trans (hb.mono hb4v5.size), by have := hb.size; omega⟩
  obtain ⟨a5, ha5⟩ : ∃ a5, a5 = v5.alloc (.cells #[.int .i64 1, .int .i64 2, .int .i64 3] 3) := ⟨_, rfl⟩
  have hba : Below v5.heap.size v5 a5 := by rw [ha5]; exact below_new _ _
  have hia : IsInts a5 (v5.heap.size + 1) (some ⟨v5.heap.size, 0, none⟩) [1, 2, 3] := by rw [ha5]; exact lit_in v5 [1, 2, 3] (by decide) (by decide)
  have hsa : a5.heap.size = v5.heap.size + 1 := by rw [ha5]; simp
  obtain ⟨d5, hd5⟩ : ∃ d5, d5 = a5.alloc (.cells #[.int .i64 1, .int .i64 2, .int .i64 3, .int .i64 4] 3) := ⟨_, rfl⟩
  have hbd : Below a5.heap.size a5 d5 := by rw [hd5]; exact below_new _ _
  have hid5 : IsInts d5 (a5.heap.size + 1) (some ⟨v5.heap.size + 1, 0, none⟩) [1, 2, 3, 4] := by
    have := lit_in a5 [1, 2, 3, 4] (by decide) (by decide)
    rw [hd5]
    rw [hsa] at this ⊢
    exact this
  have hsd : d5.heap.size = a5.heap.size + 1 := by rw [hd5]; simp
  have hb5d := hba.trans (hbd.mono hba.size)
  have hin : InC d5 (a5.heap.size + 1) c3t4 ⟨some ⟨v5.heap.size, 0, none⟩, 3, 3, some ⟨v5.heap.size + 1, 0, none⟩, 4, 4, none, 0, 0⟩ :=
    ⟨⟨(hia.below (hbd.mono (by omega))).more (by omega), hid5, IsInts.nil, (fun e => by cases e), (fun e => by cases e), (fun _ => rfl), (show 3 ≤ 3 ∧ 3 ≤ maxLen by decide), (show 4 ≤ 4 ∧ 4 ≤ maxLen by decide), (show 0 ≤ 0 ∧ 0 ≤ maxLen by decide)⟩, rfl, rfl, rfl⟩
  have HS1 := hid (sameConf_M w4.heap.size (a5.heap.size + 1) c3t4 short_c3t4 mb _ d5 (HK4.out d5 (hk5 d5 hb5d).2.2.1).2.1 hin (by have := (HK4.out d5 (hk5 d5 hb5d).2.2.1).2.2.2; omega) (by omega))
  have hld5 := (HK4.out v5 (hk5 v5 (Below.refl _ _)).2.2.1).1.ld
  have HK5 := hid hk5
  have HU5 := hid (And.intro ha5 hd5)
  have HBD := hid hb5d
  clear hv5 hoc hb5 hx5 hbv5 hs5 hb4v5 hk5 ha5 hd5 hba hia hsa hbd hid5 hsd hin hb5d HN4 hld4 hst4
  go_wp2_with fail
  rw [← HU5.out.1, ← HU5.out.2]
  refine HS1.out.mono ?_
  rintro e w6 ⟨rfl, hb6⟩
  have hb56 := HBD.out.trans (hb6.mono HBD.out.size)
  obtain ⟨a6, ha6⟩ : ∃ a6, a6 = w6.alloc (.cells #[.int .i64 1, .int .i64 2, .int .i64 3, .int .i64 4] 3) := ⟨_, rfl⟩
  have hba : Below w6.heap.size w6 a6 := by rw [ha6]; exact below_new _ _
  have hia : IsInts a6 (w6.heap.size + 1) (some ⟨w6.heap.size, 0, none⟩) [1, 2, 3, 4] := by rw [ha6]; exact lit_in w6 [1, 2, 3, 4] (by decide) (by decide)
  have hsa : a6.heap.size = w6.heap.size + 1 := by rw [ha6]; simp
  have hb5a := hb56.trans (hba.mono hb56.size)
  have hin : InC a6 (w6.heap.size + 1) c4 ⟨some ⟨w6.heap.size, 0, none⟩, 4, 4, none, 0, 0, none, 0, 0⟩ :=
    ⟨⟨hia, IsInts.nil, IsInts.nil, (fun e => by cases e), (fun _ => rfl), (fun _ => rfl), (show 4 ≤ 4 ∧ 4 ≤ maxLen by decide), (show 0 ≤ 0 ∧ 0 ≤ maxLen by decide), (show 0 ≤ 0 ∧ 0 ≤ maxLen by decide)⟩, rfl, rfl, rfl⟩
  have HS2 := hid (sameConf_M w5.heap.size (w6.heap.size + 1) c4 short_c4 mc _ a6 (HK5.out a6 hb5a).2.1 hin (by have := (HK5.out a6 hb5a).2.2.2; omega) (by omega))
  have hld6 := (HK5.out w6 hb56).1.ld
  have HU6 := hid ha6
  have HBA := hid hb5a
  clear ha6 hba hia hsa hin hb5a hb6 hb56 HS1 hld5 hst5
  go_wp2_with fail
  rw [← HU6.out]
  refine HS2.out.mono ?_
  rintro e w7 ⟨rfl, hb7⟩
  have hb57 := HBA.out.trans (hb7.mono HBA.out.size)
  have HE := hid ((HK.out w7 (HK4.out w7 (HK5.out w7 hb57).2.2.1).2.2.1).2.2.1)
  clear hb7 hb57 HS2 hld6
  go_wp2_with fail
  go_ret
  exact ⟨rfl, HE.out⟩
end Go.Proofs.Ytfkjahpcpmcefaa.Co
namespace Go.Proofs.Ytfkjahpcpmcefaa
open Go
def unl (listed : Array Bool) : Nat := listed.toList.count false
theorem unl_set {listed : Array Bool} {i : Nat} (h : listed.getD i true = false) : unl (listed.setIfInBounds i true) + 1 = unl listed := by
  have hi : i < listed.size := by
    rcases Nat.lt_or_ge i listed.size with h' | h'
    · exact h'
    · rw [Array.getD_eq_getD_getElem?, Array.getElem?_eq_none h'] at h; cases h
  have hv : listed.toList[i] = false := by
    rw [Array.getD_eq_getD_getElem?, Array.getElem?_eq_getElem hi] at h
    exact h
  unfold unl
  rw [Array.toList_setIfInBounds, List.count_set (by simpa using hi)]
  have hm : 0 < listed.toList.count false := List.count_pos_iff.2 (hv ▸ List.getElem_mem _)
  have hv2 : (listed.toList[i]'(by simpa using hi) == false) = true := by rw [hv]; rfl
  rw [if_pos hv2, if_neg (by decide)]
  omega
theorem all_listed {ops : Array Oper} {listed : Array Bool} (hsz : listed.size = ops.size) (hacyc : ∀ (i : Nat) (o : Oper), ops[i]? = some o → ∀ e ∈ o.after, Region.binds .any e = true → e.on < i) (hr : Region.ready .any ops listed = []) :
    ∀ i, i < ops.size → listed.getD i false = true := by
  intro i
  induction i using Nat.strongRecOn with
  | ind i ih =>
    intro hi
    have hi' : i < listed.size := by omega
    cases hl : listed[i]
    · exfalso
      have hm : i ∈ Region.ready .any ops listed := mem_ready.2 ⟨by rw [Array.getD_eq_getD_getElem?, Array.getElem?_eq_getElem hi', hl]; rfl, ops[i], Array.getElem?_eq_getElem hi, fun e he hb => ih e.on (hacyc i _ (Array.getElem?_eq_getElem hi) e he hb) (by have := hacyc i _ (Array.getElem?_eq_getElem hi) e he hb; omega)⟩
      rw [hr] at hm
      cases hm
    · rw [Array.getD_eq_getD_getElem?, Array.getElem?_eq_getElem hi', hl]; rfl
def sop (op : Op) (ty : TypeId) : Oper := ⟨none, op, ty, "", #[], none⟩
theorem exec_sop (ρ : Operand → Value) (o : Oper) : execOp ρ o = execOp ρ (sop o.op o.type) := rfl
def Goes (P : Program) (a : Act) (w : World) (op : Op) (ty : TypeId) (R : Value → World → Prop) : Prop :=
  (∃ v w', (execOp a.eval (sop op ty)).run P w = .ok (.value v) w' ∧ R v w') ∨
  (∃ f args, (execOp a.eval (sop op ty)).run P w = .ok (.enter f args) w ∧ Calls P f args w fun e w' => ∃ v, e = .returned v ∧ R v w')
theorem Goes.wpOp {P : Program} {ops : Array Oper} {Q : Exit → Act → World → Prop} {K : Act → World → Prop} {a : Act} {w : World} {i : Nat} {o : Oper} {R : Value → World → Prop} (hi : ops[i]? = some o) (hg : o.guard = none) (h : Goes P a w o.op o.type R)
    (hk : ∀ v w', R v w' → K (a.put o.dst v) w') : wpOp P ops Q i K a w := by
  unfold Go.wpOp
  simp only [hi]
  have hw : Region.wanted o (yielded ops a.tmps) = true := by simp [Region.wanted, hg]
  rw [if_pos hw]
  left
  unfold Oper.wp
  rw [exec_sop]
  rcases h with ⟨v, w', hr, hR⟩ | ⟨f, args, hr, hC⟩
  · rw [hr, Oper.upon_value]
    exact hk v w' hR
  · rw [hr, Oper.upon_enter]
    refine hC.mono ?_
    rintro e w' ⟨v, rfl, hR⟩
    exact hk v w' hR
theorem x_move {P : Program} (ρ : Operand → Value) (x : Operand) (ty : TypeId) (w : World) : (execOp ρ (sop (.move x) ty)).run P w = .ok (.value (ρ x)) w := by simp [execOp, sop]
theorem x_load {P : Program} (ρ : Operand → Value) (t : TypeId) (x : Operand) (ty : TypeId) (v : Value) (w : World) (h : (Instr.loadAt t (ρ x)).run P w = .ok v w) : (execOp ρ (sop (.load t x) ty)).run P w = .ok (.value v) w := by simp [execOp, sop, h]
def AllFrom {α : Type} (p : Nat → α → Prop) : Nat → List α → Prop
  | _, [] => True
  | n, x :: xs => p n x ∧ AllFrom p (n + 1) xs
theorem AllFrom.get {α : Type} {p : Nat → α → Prop} : ∀ {n : Nat} {l : List α}, AllFrom p n l → ∀ (i : Nat) (x : α), l[i]? = some x → p (n + i) x
  | _, [], _, i, x, h => by simp at h
  | n, y :: ys, ⟨h0, h1⟩, i, x, h => by
    rcases i with _ | i
    · simp at h; subst h; exact h0
    · simp at h
      have := AllFrom.get h1 i x h
      rwa [show n + 1 + i = n + (i + 1) by omega] at this
end Go.Proofs.Ytfkjahpcpmcefaa
namespace Go.Proofs.Ytfkjahpcpmcefaa
open Go
set_option maxRecDepth 100000
structure Rc (δ : Type) where
  ops : Array Oper
  nt : Nat
  step : Nat → Option Nat
  val : δ → Nat → Value
  inv : δ → Nat → World → Prop
structure Jc {δ : Type} (C : Rc δ) (a0 : Act) (X : δ) (p : Nat) (listed : Array Bool) (a : Act) (w : World) : Prop where
  size : a.tmps.size = C.nt
  defers : a.defers = a0.defers
  keep : ∀ s : Nat, (∀ (j : Nat) (o : Oper), C.ops[j]? = some o → o.dst ≠ some s) → a.eval (.tmp s) = a0.eval (.tmp s)
  lsize : listed.size = C.ops.size
  clos : ∀ (j : Nat) (o : Oper), C.ops[j]? = some o → listed.getD j false = true → ∀ e ∈ o.after, Region.binds .any e = true → listed.getD e.on false = true
  slots : ∀ (j : Nat) (o : Oper) (d : Nat), C.ops[j]? = some o → o.dst = some d → listed.getD j false = true → a.eval (.tmp d) = C.val X j
  call : ∀ j, j < C.ops.size → ∀ k, C.step j = some k → (listed.getD j false = true ↔ k < p)
  inv : C.inv X p w
structure Rc.Ok {δ : Type} (C : Rc δ) : Prop where
  nt : ∀ (j : Nat) (o : Oper) (d : Nat), C.ops[j]? = some o → o.dst = some d → d < C.nt
  once : ∀ (i j : Nat) (o o' : Oper) (d : Nat), C.ops[i]? = some o → C.ops[j]? = some o' → o.dst = some d → o'.dst = some d → i = j
  uniq : ∀ i j k, i < C.ops.size → j < C.ops.size → C.step i = some k → C.step j = some k → i = j
theorem evput_ne (a : Act) {d : Option Tmp} {t : Nat} (v : Value) (h : d ≠ some t) : (a.put d v).eval (.tmp t) = a.eval (.tmp t) := by
  rcases d with _ | d
  · rfl
  · have : d ≠ t := fun e => h (by rw [e])
    simp [Act.put, Act.eval, Array.getElem?_setIfInBounds_ne this]
theorem evput_self (a : Act) {d : Nat} (v : Value) (h : d < a.tmps.size) : (a.put (some d) v).eval (.tmp d) = v := by
  simp [Act.put, Act.eval, h]
theorem listed_set (l : Array Bool) (j m : Nat) (hj : j < l.size) : (l.setIfInBounds j true).getD m false = if m = j then true else l.getD m false := by
  rw [Array.getD_eq_getD_getElem?, Array.getD_eq_getD_getElem?]
  by_cases e : m = j
  · subst e
    rw [if_pos rfl, Array.getElem?_setIfInBounds_self_of_lt hj]; rfl
  · rw [if_neg e, Array.getElem?_setIfInBounds_ne (by omega)]
theorem listed_no {l : Array Bool} {j : Nat} (h : l.getD j true = false) : l.getD j false = false := by
  rw [Array.getD_eq_getD_getElem?] at h ⊢
  rcases hl : l[j]? with _ | b
  · rfl
  · rw [hl] at h; exact h
section
variable {δ : Type} {C : Rc δ} {a0 a : Act} {X X' : δ} {p p' : Nat} {listed : Array Bool} {w w' : World}
theorem Jc.put (hC : C.Ok) (h : Jc C a0 X p listed a w) (j : Nat) (o : Oper) (hj : C.ops[j]? = some o) (ha : ∀ e ∈ o.after, Region.binds .any e = true → listed.getD e.on false = true) (v : Value) (hinv : C.inv X' p' w')
    (hk : ∀ (m : Nat), m < C.ops.size → listed.getD m false = true → C.val X' m = C.val X m) (hu : listed.getD j true = false) (hv : ∀ d, o.dst = some d → v = C.val X' j)
    (hc : ∀ m, m < C.ops.size → ∀ k, C.step m = some k → ((if m = j then true else listed.getD m false) = true ↔ k < p')) :
    Jc C a0 X' p' (listed.setIfInBounds j true) (a.put o.dst v) w' := by
  have hjs : j < C.ops.size := (Array.getElem?_eq_some_iff.1 hj).1
  have hjl : j < listed.size := by rw [h.lsize]; exact hjs
  refine ⟨?_, ?_, fun s hs => ?_, by simp [h.lsize], fun m om hm hl e he hb => ?_, fun m om d hm hd hl => ?_, fun m hm k hmk => ?_, hinv⟩
  · rcases hd : o.dst with _ | d
    · exact h.size
    · simp [Act.put, h.size]
  · rcases hd : o.dst with _ | d
    · exact h.defers
    · exact h.defers
  · rw [evput_ne a v (hs j o hj)]; exact h.keep s hs
  · rw [listed_set _ _ _ hjl] at hl ⊢
    by_cases e1 : e.on = j
    · rw [if_pos e1]
    · rw [if_neg e1]
      by_cases e2 : m = j
      · subst e2
        rw [hj] at hm
        obtain rfl := Option.some.inj hm
        exact ha e he hb
      · rw [if_neg e2] at hl
        exact h.clos m om hm hl e he hb
  · rw [listed_set _ _ _ hjl] at hl
    by_cases e2 : m = j
    · subst e2
      rw [hj] at hm
      obtain rfl := Option.some.inj hm
      rw [hd, evput_self a v (by rw [h.size]; exact hC.nt m o d hj hd)]
      exact hv d hd
    · rw [if_neg e2] at hl
      rw [evput_ne a v (fun e => e2 (hC.once m j om o d hm hj hd e)), hk m (Array.getElem?_eq_some_iff.1 hm).1 hl]
      exact h.slots m om d hm hd hl
  · rw [listed_set _ _ _ hjl]; exact hc m hm k hmk
theorem Jc.next (h : Jc C a0 X p listed a w) {j k : Nat} (hj : j < C.ops.size) (hk : C.step j = some k) (hu : listed.getD j true = false) (hb : k = 0 ∨ ∃ i, i < C.ops.size ∧ C.step i = some (k - 1) ∧ listed.getD i false = true) : k = p := by
  have h1 : p ≤ k := by
    rcases Nat.lt_or_ge k p with h' | h'
    · have := (h.call j hj k hk).2 h'
      rw [listed_no hu] at this; cases this
    · exact h'
  rcases hb with h0 | ⟨i, hi, hik, hil⟩
  · omega
  · have := (h.call i hi _ hik).1 hil
    omega
theorem Jc.ahead (h : Jc C a0 X p listed a w) {j m k : Nat} {om : Oper} (hm : C.ops[m]? = some om) (hk : C.step m = some k) (hu : listed.getD j true = false) (hw : ∃ e ∈ om.after, Region.binds .any e = true ∧ e.on = j) : p ≤ k := by
  rcases Nat.lt_or_ge k p with h' | h'
  · have hl := (h.call m (Array.getElem?_eq_some_iff.1 hm).1 k hk).2 h'
    obtain ⟨e, he, hb, rfl⟩ := hw
    have := h.clos m om hm hl e he hb
    rw [listed_no hu] at this; cases this
  · exact h'
end
theorem Jc.kept {δ : Type} {C : Rc δ} {a0 a : Act} {X : δ} {p : Nat} {listed : Array Bool} {w : World} (h : Jc C a0 X p listed a w) (s : Nat) (hb : (C.ops.all fun o => decide (o.dst ≠ some s)) = true) : a.eval (.tmp s) = a0.eval (.tmp s) :=
  h.keep s (fun j o hj => by
    have := (Array.all_eq_true_iff_forall_mem.1 hb) o (Array.mem_of_getElem? hj)
    simpa using this)
theorem run_store {P : Program} {ρ : Operand → Value} {t : TypeId} {x y : Operand} {ty : TypeId} {v0 v : Value} {w w' : World} (h0 : ρ x = v0) (h1 : ρ y = v) (h : (Instr.storeAt t v0 v).run P w = .ok () w') : (execOp ρ (sop (.store t x y) ty)).run P w = .ok .skip w' := by subst h0; subst h1; simp [execOp, sop, h]
section
variable {δ : Type} {P : Program} {C : Rc δ} {a0 a : Act} {X : δ} {p : Nat} {listed : Array Bool} {w : World} {Q : Exit → Act → World → Prop}
def acyc (ops : Array Oper) : Bool := (List.range ops.size).all fun i => match ops[i]? with
  | some o => o.after.all fun e => !Region.binds .any e || decide (e.on < i)
  | none => true
theorem acyc_spec {ops : Array Oper} (h : acyc ops = true) (i : Nat) (o : Oper) (hi : ops[i]? = some o) (e : _) (he : e ∈ o.after) (hb : Region.binds .any e = true) : e.on < i := by
  have hlt : i < ops.size := (Array.getElem?_eq_some_iff.1 hi).1
  have := List.all_eq_true.1 h i (List.mem_range.2 hlt)
  rw [hi] at this
  have h2 := (Array.all_eq_true_iff_forall_mem.1 this) e he
  rw [hb] at h2
  simpa using h2
end
end Go.Proofs.Ytfkjahpcpmcefaa
namespace Go.Proofs.Ytfkjahpcpmcefaa
open Go Go.RowKit
set_option maxRecDepth 100000
set_option linter.unusedVariables false
structure Gp where
  p : World → Value → Prop
  mono : ∀ w w' v, p w v → Below w.heap.size w w' → p w' v
def Gp.any : Gp := ⟨fun _ _ => True, fun _ _ _ _ _ => trivial⟩
def Gp.is (v0 : Value) : Gp := ⟨fun _ v => v = v0, fun _ _ _ h _ => h⟩
def Gp.row (lo : Nat) (n : Nat) (cs : Array Value) (t : TypeId) : Gp := ⟨fun w v => ∃ b, lo ≤ b ∧ v = .slice (some ⟨b, 0, none⟩) n n ∧ w.heap[b]? = some (.cells cs t (0, 0)), fun w w' v ⟨b, h0, h1, h2⟩ hb => ⟨b, h0, h1, (hb.block b (Array.getElem?_eq_some_iff.1 h2).1).trans h2⟩⟩
def Gp.box (lo : Nat) (cs : Array Value) (t : TypeId) : Gp := ⟨fun w v => ∃ b, lo ≤ b ∧ v = .pointer (some ⟨b, 0, none⟩) ∧ w.heap[b]? = some (.cells cs t (0, 0)), fun w w' v ⟨b, h0, h1, h2⟩ hb => ⟨b, h0, h1, (hb.block b (Array.getElem?_eq_some_iff.1 h2).1).trans h2⟩⟩
def dstsN (ops : Array Oper) (n : Nat) : List Nat := (ops.toList.take n).filterMap (·.dst)
def putAll (u : Nat → Value) (ds : List Nat) (a : Act) : Act := ds.foldl (fun a d => a.put (some d) (u d)) a
theorem putAll_size (u : Nat → Value) : ∀ (ds : List Nat) (a : Act), (putAll u ds a).tmps.size = a.tmps.size := by
  intro ds
  induction ds with
  | nil => intro a; rfl
  | cons d ds ih => intro a; show (putAll u ds (a.put (some d) (u d))).tmps.size = _; rw [ih]; simp [Act.put]
theorem putAll_defers (u : Nat → Value) : ∀ (ds : List Nat) (a : Act), (putAll u ds a).defers = a.defers := by
  intro ds
  induction ds with
  | nil => intro a; rfl
  | cons d ds ih => intro a; show (putAll u ds (a.put (some d) (u d))).defers = _; rw [ih]; rfl
theorem putAll_get (u : Nat → Value) : ∀ (ds : List Nat) (a : Act) (i : Nat), i < a.tmps.size → (putAll u ds a).tmps[i]? = if i ∈ ds then some (u i) else a.tmps[i]? := by
  intro ds
  induction ds with
  | nil => intro a i _; simp [putAll]
  | cons d ds ih =>
    intro a i hi
    show (putAll u ds (a.put (some d) (u d))).tmps[i]? = _
    rw [ih _ _ (by simp [Act.put]; exact hi)]
    by_cases h : i ∈ ds
    · rw [if_pos h, if_pos (List.mem_cons_of_mem _ h)]
    · rw [if_neg h]
      by_cases e : i = d
      · subst e
        rw [if_pos List.mem_cons_self]
        simp [Act.put, hi]
      · rw [if_neg (by simp [e, h])]
        simp [Act.put, Array.getElem?_setIfInBounds_ne (Ne.symm e)]
theorem act_putAll {a a0 : Act} {ds : List Nat} (hsz : a.tmps.size = a0.tmps.size) (hdf : a.defers = a0.defers) (hk : ∀ s, s ∉ ds → a.eval (.tmp s) = a0.eval (.tmp s)) : a = putAll (fun d => a.eval (.tmp d)) ds a0 := by
  obtain ⟨t, df⟩ := a
  obtain ⟨t0, df0⟩ := a0
  have h1 : t = (putAll (fun d => (⟨t, df⟩ : Act).eval (.tmp d)) ds ⟨t0, df0⟩).tmps := by
    apply Array.ext_getElem?
    intro i
    by_cases hi : i < t0.size
    · rw [putAll_get _ _ _ _ hi]
      have hi' : i < t.size := by have : t.size = t0.size := hsz; omega
      by_cases h : i ∈ ds
      · rw [if_pos h]
        simp [Act.eval, hi']
      · rw [if_neg h]
        have := hk i h
        simp only [Act.eval, Array.getD_eq_getD_getElem?] at this
        rw [Array.getElem?_eq_getElem hi', Array.getElem?_eq_getElem hi] at this ⊢
        exact congrArg some this
    · rw [Array.getElem?_eq_none (by have : t.size = t0.size := hsz; omega), Array.getElem?_eq_none (by rw [putAll_size]; show t0.size ≤ i; omega)]
  have h2 : df = (putAll (fun d => (⟨t, df⟩ : Act).eval (.tmp d)) ds ⟨t0, df0⟩).defers := by rw [putAll_defers]; exact hdf
  rcases hp : putAll (fun d => (⟨t, df⟩ : Act).eval (.tmp d)) ds ⟨t0, df0⟩ with ⟨t1, d1⟩
  rw [hp] at h1 h2
  rw [h1, h2]
def listedN (n m : Nat) : Array Bool := (List.replicate n true ++ List.replicate m false).toArray
def reachB (ops : Array Oper) : Nat → Nat → Nat → Bool
  | 0, _, _ => false
  | f + 1, i, j => match ops[i]? with
    | some o => o.after.any fun e => Region.binds .any e && (decide (e.on = j) || reachB ops f e.on j)
    | none => false
def sinkG (ops : Array Oper) (n : Nat) : Bool := (List.range ops.size).all fun i => decide (i < n) || (List.range n).all fun j => reachB ops ops.size i j
def edgeB (ops : Array Oper) (o : Oper) (i d : Nat) : Bool := (o.after.any fun e => Region.binds .any e && decide (e.on = i)) && decide (ops[i]?.bind (·.dst) = some d)
structure Jg (H : Nat → Gp) (ops : Array Oper) (n : Nat) (a0 : Act) (w0 : World) (listed : Array Bool) (a : Act) (w : World) : Prop where
  size : a.tmps.size = a0.tmps.size
  defers : a.defers = a0.defers
  keep : ∀ s, s ∉ dstsN ops n → a.eval (.tmp s) = a0.eval (.tmp s)
  lsize : listed.size = ops.size
  slots : ∀ j o d, ops[j]? = some o → o.dst = some d → listed.getD j false = true → (H j).p w (a.eval (.tmp d))
  clos : ∀ j o, ops[j]? = some o → listed.getD j false = true → ∀ e ∈ o.after, Region.binds .any e = true → listed.getD e.on false = true
  bel : Below w0.heap.size w0 w
  tail : ∀ j, n ≤ j → listed.getD j false = false
theorem mem_dsts {ops : Array Oper} {n j d : Nat} {o : Oper} (hj : ops[j]? = some o) (hd : o.dst = some d) (hn : j < n) : d ∈ dstsN ops n := by
  refine List.mem_filterMap.2 ⟨o, ?_, hd⟩
  have : (ops.toList.take n)[j]? = some o := by rw [List.getElem?_take, if_pos hn, Array.getElem?_toList]; exact hj
  exact List.mem_of_getElem? this
theorem dst_once {l : List Oper} (h : (l.filterMap (·.dst)).Nodup) : ∀ {i j : Nat} {o o' : Oper} {d : Nat}, l[i]? = some o → l[j]? = some o' → o.dst = some d → o'.dst = some d → i = j := by
  induction l with
  | nil => intro i j o o' d h1; simp at h1
  | cons x l ih =>
    intro i j o o' d h1 h2 h3 h4
    have hm : ∀ {k : Nat} {y : Oper}, l[k]? = some y → y.dst = some d → d ∈ l.filterMap (·.dst) := fun hk hy => List.mem_filterMap.2 ⟨_, List.mem_of_getElem? hk, hy⟩
    have hl : (l.filterMap (·.dst)).Nodup := by
      rcases hx : x.dst with _ | dx
      · rw [List.filterMap_cons_none hx] at h; exact h
      · rw [List.filterMap_cons_some hx] at h; exact (List.nodup_cons.1 h).2
    rcases i with _ | i
    · rcases j with _ | j
      · rfl
      · simp at h1 h2
        subst h1
        rw [List.filterMap_cons_some h3] at h
        exact absurd (hm h2 h4) (List.nodup_cons.1 h).1
    · rcases j with _ | j
      · simp at h1 h2
        subst h2
        rw [List.filterMap_cons_some h4] at h
        exact absurd (hm h1 h3) (List.nodup_cons.1 h).1
      · simp at h1 h2
        rw [ih hl h1 h2 h3 h4]
theorem once_of {ops : Array Oper} {n i j d : Nat} {o o' : Oper} (h : (dstsN ops n).Nodup) (hi : ops[i]? = some o) (hj : ops[j]? = some o') (hin : i < n) (hjn : j < n) (h1 : o.dst = some d) (h2 : o'.dst = some d) : i = j := by
  have t : ∀ {k : Nat} {y : Oper}, ops[k]? = some y → k < n → (ops.toList.take n)[k]? = some y := fun hk hn => by rw [List.getElem?_take, if_pos hn, Array.getElem?_toList]; exact hk
  exact dst_once h (t hi hin) (t hj hjn) h1 h2
section
variable {P : Program} {H : Nat → Gp} {ops : Array Oper} {n : Nat} {a0 : Act} {w0 : World} {Q : Exit → Act → World → Prop}
theorem Jg.step (hn : (dstsN ops n).Nodup) (hb : ∀ d ∈ dstsN ops n, d < a0.tmps.size) {listed : Array Bool} {a : Act} {w w' : World} {v : Value} (h : Jg H ops n a0 w0 listed a w) {i : Nat} {o : Oper} (hi : ops[i]? = some o) (hin : i < n) {d : Nat} (hd : o.dst = some d) (ha : ∀ e ∈ o.after, Region.binds .any e = true → listed.getD e.on false = true)
    (hv : (H i).p w' v) (hw : Below w.heap.size w w') : Jg H ops n a0 w0 (listed.setIfInBounds i true) (a.put o.dst v) w' := by
  have his : i < listed.size := by rw [h.lsize]; exact (Array.getElem?_eq_some_iff.1 hi).1
  have hdm := mem_dsts hi hd hin
  refine ⟨by rw [hd]; simp [Act.put, h.size], by rw [hd]; exact h.defers, fun s hs => ?_, by simp [h.lsize], fun m om dm hm hdm' hl => ?_, fun m om hm hl e he hb => ?_, h.bel.trans (hw.mono h.bel.size), fun m hm => ?_⟩
  · rw [evput_ne a v (by rw [hd]; intro e; injection e with e; subst e; exact hs hdm)]
    exact h.keep s hs
  · rw [listed_set _ _ _ his] at hl
    by_cases e : m = i
    · subst e
      rw [hi] at hm
      obtain rfl := Option.some.inj hm
      rw [hd] at hdm'
      obtain rfl := Option.some.inj hdm'
      rw [hd, evput_self a v (by rw [h.size]; exact hb _ hdm)]
      exact hv
    · rw [if_neg e] at hl
      have hmn : m < n := by
        rcases Nat.lt_or_ge m n with h' | h'
        · exact h'
        · rw [h.tail m h'] at hl; cases hl
      rw [evput_ne a v (fun e' => e (once_of hn hm hi hmn hin hdm' (by rw [e'])))]
      exact (H m).mono _ _ _ (h.slots m om dm hm hdm' hl) hw
  · rw [listed_set _ _ _ his] at hl ⊢
    by_cases e1 : e.on = i
    · rw [if_pos e1]
    · rw [if_neg e1]
      by_cases e2 : m = i
      · subst e2
        rw [hi] at hm
        obtain rfl := Option.some.inj hm
        exact ha e he hb
      · rw [if_neg e2] at hl
        exact h.clos m om hm hl e he hb
  · rw [listed_set _ _ _ his, if_neg (by omega)]; exact h.tail m hm
theorem reach_listed {listed : Array Bool} (hc : ∀ j o, ops[j]? = some o → listed.getD j false = true → ∀ e ∈ o.after, Region.binds .any e = true → listed.getD e.on false = true) {j : Nat} : ∀ (f i : Nat) (o : Oper), ops[i]? = some o → (∀ e ∈ o.after, Region.binds .any e = true → listed.getD e.on false = true) → reachB ops f i j = true → listed.getD j false = true := by
  intro f
  induction f with
  | zero => intro i o _ _ h; cases h
  | succ f ih =>
    intro i o hi ha h
    unfold reachB at h
    rw [hi] at h
    obtain ⟨k, hk, h3⟩ := Array.any_eq_true.1 h
    rw [Bool.and_eq_true, Bool.or_eq_true, decide_eq_true_eq] at h3
    have hl := ha _ (Array.getElem_mem hk) h3.1
    rcases h3.2 with h4 | h4
    · rw [← h4]; exact hl
    · rcases ho : ops[(o.after[k]).on]? with _ | o2
      · cases f with
        | zero => cases h4
        | succ f => unfold reachB at h4; rw [ho] at h4; cases h4
      · exact ih _ o2 ho (fun e he hb => hc _ o2 ho hl e he hb) h4
theorem sinkG_spec (h : sinkG ops n = true) {i : Nat} {o : Oper} (hi : ops[i]? = some o) (hn : n ≤ i) {j : Nat} (hj : j < n) : reachB ops ops.size i j = true := by
  have h1 := List.all_eq_true.1 h i (List.mem_range.2 (Array.getElem?_eq_some_iff.1 hi).1)
  simp only [Bool.or_eq_true, decide_eq_true_eq] at h1
  rcases h1 with h1 | h1
  · omega
  · exact List.all_eq_true.1 h1 j (List.mem_range.2 hj)
theorem listed_is {listed : Array Bool} (hsz : listed.size = ops.size) (hn : n ≤ ops.size) (h1 : ∀ j, j < n → listed.getD j false = true) (h2 : ∀ j, n ≤ j → listed.getD j false = false) : listed = listedN n (ops.size - n) := by
  apply Array.ext_getElem?
  intro i
  rw [show (listedN n (ops.size - n))[i]? = (List.replicate n true ++ List.replicate (ops.size - n) false)[i]? from List.getElem?_toArray]
  by_cases hi : i < n
  · rw [List.getElem?_append_left (by simpa using hi), List.getElem?_replicate, if_pos hi]
    have := h1 i hi
    have hl : i < listed.size := by omega
    rw [Array.getD_eq_getD_getElem?, Array.getElem?_eq_getElem hl] at this
    rw [Array.getElem?_eq_getElem hl]
    exact congrArg some this
  · rw [List.getElem?_append_right (by simp; omega), List.length_replicate, List.getElem?_replicate]
    have := h2 i (by omega)
    by_cases hl : i < listed.size
    · rw [Array.getD_eq_getD_getElem?, Array.getElem?_eq_getElem hl] at this
      rw [Array.getElem?_eq_getElem hl, if_pos (by omega)]
      exact congrArg some this
    · rw [Array.getElem?_eq_none (by omega), if_neg (by omega)]
theorem unl_N (n m : Nat) : unl (listedN n m) = m := by
  unfold unl listedN
  rw [List.count_append, List.count_replicate, List.count_replicate]
  simp
end
end Go.Proofs.Ytfkjahpcpmcefaa
namespace Go.Proofs.Ytfkjahpcpmcefaa
open Go Go.RowKit
set_option maxRecDepth 100000
set_option linter.unusedVariables false
section
variable {P : Program} {a : Act} {w w' : World} {ty : TypeId} {R : Value → World → Prop} {op : Op} {v : Value}
theorem goes_val (h : (execOp a.eval (sop op ty)).run P w = .ok (.value v) w) (hR : R v w) : Goes P a w op ty (fun v w' => R v w' ∧ Below w.heap.size w w') := .inl ⟨v, w, h, hR, Below.refl _ _⟩
theorem goes_new {o : Obj} (h : (execOp a.eval (sop op ty)).run P w = .ok (.value v) (w.alloc o)) (hR : R v (w.alloc o)) : Goes P a w op ty (fun v w' => R v w' ∧ Below w.heap.size w w') := .inl ⟨v, _, h, hR, (Below.refl _ w).alloc (Nat.le_refl _) _⟩
theorem goes_move {x : Operand} (h : a.eval x = v) (hR : R v w) : Goes P a w (.move x) ty (fun v w' => R v w' ∧ Below w.heap.size w w') := by
  subst h; exact goes_val (x_move _ _ _ _) hR
theorem goes_load {t : TypeId} {x : Operand} {v1 : Value} (h1 : a.eval x = v1) (h : (Instr.loadAt t v1).run P w = .ok v w) (hR : R v w) : Goes P a w (.load t x) ty (fun v w' => R v w' ∧ Below w.heap.size w w') := by
  subst h1; exact goes_val (x_load _ _ _ _ _ _ h) hR
theorem run_ext {ρ : Operand → Value} {x : Operand} {i : Nat} {ty : TypeId} {w : World} {cs : Array Value} {v : Value} (h : ρ x = .tuple cs) (hv : cs[i]? = some v) : (execOp ρ (sop (.extract x i) ty)).run P w = .ok (.value v) w := by
  unfold execOp sop; simp only [h]; go_simp
theorem goes_ext {x : Operand} {i : Nat} {cs : Array Value} (h : a.eval x = .tuple cs) (hv : cs[i]? = some v) (hR : R v w) : Goes P a w (.extract x i) ty (fun v w' => R v w' ∧ Below w.heap.size w w') := goes_val (run_ext h hv) hR
theorem run_call2 {f : FuncId} {x y : Operand} {t u : TypeId} {v v2 : Value} (h : a.eval x = v) (h2 : a.eval y = v2) (hcf : (callFunc f #[v, v2]).run P w = .ok (.enter f #[v, v2]) w) : (execOp a.eval (sop (.call { callee := .value (.func f), args := #[x, y], argTypes := #[t, u] }) ty)).run P w = .ok (.enter f #[v, v2]) w := by
  generalize hρ : a.eval = ρ at h h2 ⊢
  have hf : ρ (.func f) = .func (.func f) #[] #[] := by rw [← hρ]; rfl
  clear hρ
  unfold execOp sop
  simp [resolve, invoke, h, h2, hf, Deferred.ofValue, hcf]
theorem goes_call2 {f : FuncId} {x y : Operand} {t u : TypeId} {v1 v2 : Value} (h1 : a.eval x = v1) (h2 : a.eval y = v2) (hcf : (callFunc f #[v1, v2]).run P w = .ok (.enter f #[v1, v2]) w) (h : Calls P f #[v1, v2] w fun e w' => ∃ v, e = .returned v ∧ R v w' ∧ Below w.heap.size w w') : Goes P a w (.call { callee := .value (.func f), args := #[x, y], argTypes := #[t, u] }) ty (fun v w' => R v w' ∧ Below w.heap.size w w') := .inr ⟨f, #[v1, v2], run_call2 h1 h2 hcf, h⟩
end
end Go.Proofs.Ytfkjahpcpmcefaa
namespace Go.Proofs.Ytfkjahpcpmcefaa
open Go Go.RowKit
set_option maxRecDepth 100000
set_option linter.unusedVariables false
structure Gs where
  H : Nat → Gp
  H2 : Nat → Value → Prop
  K : Value → World → Prop
  le : ∀ j w v, (H j).p w v → H2 j v
def onceS (ops : Array Oper) (s m nt : Nat) : Bool := (dstsN ops m).all (fun d => decide (d < nt)) && decide (dstsN ops m).Nodup && ((List.range m).all fun j => match ops[j]? with
  | some o => if j = s then o.dst.isNone else o.dst.isSome
  | none => true)
def ArmS (P : Program) (C : Gs) (ops : Array Oper) (ds : List Nat) (s : Nat) (a0 : Act) (w0 : World) (j : Nat) (o : Oper) : Prop :=
  j = s ∨ (o.guard = none ∧ ∀ (a : Act) (w : World), Below w0.heap.size w0 w → (∀ s, s ∉ ds → a.eval (.tmp s) = a0.eval (.tmp s)) → (∀ i d, edgeB ops o i d = true → (C.H i).p w (a.eval (.tmp d))) →
    Goes P a w o.op o.type (fun v w' => (C.H j).p w' v ∧ Below w.heap.size w w'))
def ArmL (P : Program) (C : Gs) (ops : Array Oper) (s j : Nat) (o : Oper) : Prop :=
  j = s ∨ reachB ops ops.size s j = true ∨ (o.guard = none ∧ ∀ (a : Act) (w : World), (∀ i d, edgeB ops o i d = true → C.H2 i (a.eval (.tmp d))) → ∃ v, (execOp a.eval (sop o.op o.type)).run P w = .ok (.value v) w ∧ C.H2 j v)
structure Js (C : Gs) (ops : Array Oper) (s m db : Nat) (a0 : Act) (w0 : World) (listed : Array Bool) (a : Act) (w : World) : Prop where
  size : a.tmps.size = a0.tmps.size
  defers : a.defers = a0.defers
  keep : ∀ s, s ∉ dstsN ops m → a.eval (.tmp s) = a0.eval (.tmp s)
  lsize : listed.size = ops.size
  pre : listed.getD s false = false → (∀ j o d, ops[j]? = some o → o.dst = some d → listed.getD j false = true → (C.H j).p w (a.eval (.tmp d))) ∧ Below w0.heap.size w0 w
  post : listed.getD s false = true → (∀ j o d, ops[j]? = some o → o.dst = some d → listed.getD j false = true → C.H2 j (a.eval (.tmp d))) ∧ C.K (a.eval (.tmp db)) w
  clos : ∀ j o, ops[j]? = some o → listed.getD j false = true → ∀ e ∈ o.after, Region.binds .any e = true → listed.getD e.on false = true
  tail : ∀ j, m ≤ j → listed.getD j false = false
section
variable {P : Program} {C : Gs} {ops : Array Oper} {s m db : Nat} {a0 : Act} {w0 : World} {Q : Exit → Act → World → Prop}
theorem Js.step (hn : (dstsN ops m).Nodup) (hb : ∀ d ∈ dstsN ops m, d < a0.tmps.size) {jb : Nat} {ob : Oper} (hjb : ops[jb]? = some ob) (hdb : ob.dst = some db) (hjbm : jb < m) (hjbs : reachB ops ops.size s jb = true) {so : Oper} (hs : ops[s]? = some so)
    {listed : Array Bool} {a : Act} {w w' : World} {v : Value} (h : Js C ops s m db a0 w0 listed a w) {i : Nat} {o : Oper} (hi : ops[i]? = some o) (hin : i < m) (his : i ≠ s) {d : Nat} (hd : o.dst = some d) (ha : ∀ e ∈ o.after, Region.binds .any e = true → listed.getD e.on false = true) (hu : listed.getD i true = false)
    (hpre : listed.getD s false = false → (C.H i).p w' v ∧ Below w.heap.size w w') (hpost : listed.getD s false = true → C.H2 i v ∧ w' = w) : Js C ops s m db a0 w0 (listed.setIfInBounds i true) (a.put o.dst v) w' := by
  have hil : i < listed.size := by rw [h.lsize]; exact (Array.getElem?_eq_some_iff.1 hi).1
  have hdm := mem_dsts hi hd hin
  have hsl : (listed.setIfInBounds i true).getD s false = listed.getD s false := by rw [listed_set _ _ _ hil, if_neg (Ne.symm his)]
  have old : ∀ m' om dm, ops[m']? = some om → om.dst = some dm → (listed.setIfInBounds i true).getD m' false = true → m' ≠ i → listed.getD m' false = true ∧ (a.put o.dst v).eval (.tmp dm) = a.eval (.tmp dm) := fun m' om dm hm hdm' hl e => by
    rw [listed_set _ _ _ hil, if_neg e] at hl
    have hmn : m' < m := by
      rcases Nat.lt_or_ge m' m with h' | h'
      · exact h'
      · rw [h.tail m' h'] at hl; cases hl
    exact ⟨hl, evput_ne a v (fun e' => e (once_of hn hm hi hmn hin hdm' (by rw [e'])))⟩
  have new : (a.put o.dst v).eval (.tmp d) = v := by rw [hd]; exact evput_self a v (by rw [h.size]; exact hb _ hdm)
  refine ⟨by rw [hd]; simp [Act.put, h.size], by rw [hd]; exact h.defers, fun s' hs' => ?_, by simp [h.lsize], fun hf => ?_, fun hf => ?_, fun m' om hm hl e he hb => ?_, fun m' hm => ?_⟩
  · rw [evput_ne a v (by rw [hd]; intro e; injection e with e; subst e; exact hs' hdm)]
    exact h.keep s' hs'
  · rw [hsl] at hf
    obtain ⟨p1, p2⟩ := h.pre hf
    obtain ⟨q1, q2⟩ := hpre hf
    refine ⟨fun m' om dm hm hdm' hl => ?_, p2.trans (q2.mono p2.size)⟩
    by_cases e : m' = i
    · subst e
      rw [hi] at hm
      obtain rfl := Option.some.inj hm
      rw [hd] at hdm'
      obtain rfl := Option.some.inj hdm'
      rw [new]; exact q1
    · obtain ⟨r1, r2⟩ := old m' om dm hm hdm' hl e
      rw [r2]
      exact (C.H m').mono _ _ _ (p1 m' om dm hm hdm' r1) q2
  · rw [hsl] at hf
    obtain ⟨p1, p2⟩ := h.post hf
    obtain ⟨q1, rfl⟩ := hpost hf
    refine ⟨fun m' om dm hm hdm' hl => ?_, ?_⟩
    · by_cases e : m' = i
      · subst e
        rw [hi] at hm
        obtain rfl := Option.some.inj hm
        rw [hd] at hdm'
        obtain rfl := Option.some.inj hdm'
        rw [new]; exact q1
      · obtain ⟨r1, r2⟩ := old m' om dm hm hdm' hl e
        rw [r2]
        exact p1 m' om dm hm hdm' r1
    · have hjl : listed.getD jb false = true := reach_listed h.clos _ s so hs (fun e he hb => h.clos s so hs hf e he hb) hjbs
      have hne : jb ≠ i := fun e => by
        subst e
        rw [listed_no hu] at hjl; cases hjl
      rw [evput_ne a v (fun e' => hne (once_of hn hjb hi hjbm hin hdb (by rw [e'])))]
      exact p2
  · rw [listed_set _ _ _ hil] at hl ⊢
    by_cases e1 : e.on = i
    · rw [if_pos e1]
    · rw [if_neg e1]
      by_cases e2 : m' = i
      · subst e2
        rw [hi] at hm
        obtain rfl := Option.some.inj hm
        exact ha e he hb
      · rw [if_neg e2] at hl
        exact h.clos m' om hm hl e he hb
  · rw [listed_set _ _ _ hil, if_neg (by omega)]; exact h.tail m' hm
theorem Js.stored {listed : Array Bool} {a : Act} {w w' : World} (h : Js C ops s m db a0 w0 listed a w) {o : Oper} (hs : ops[s]? = some o) (hsm : s < m) (hd : o.dst = none) (hu : listed.getD s true = false) (ha : ∀ e ∈ o.after, Region.binds .any e = true → listed.getD e.on false = true)
    (hK : C.K (a.eval (.tmp db)) w') : Js C ops s m db a0 w0 (listed.setIfInBounds s true) (a.put o.dst undef) w' := by
  have hil : s < listed.size := by rw [h.lsize]; exact (Array.getElem?_eq_some_iff.1 hs).1
  have e0 : ∀ t : Nat, (a.put o.dst undef).eval (.tmp t) = a.eval (.tmp t) := fun t => by rw [hd]; rfl
  refine ⟨by rw [hd]; exact h.size, by rw [hd]; exact h.defers, fun s' hs' => by rw [e0]; exact h.keep s' hs', by simp [h.lsize], fun hf => ?_, fun _ => ?_, fun m' om hm hl e he hb => ?_, fun m' hm => ?_⟩
  · rw [listed_set _ _ _ hil, if_pos rfl] at hf; cases hf
  · refine ⟨fun m' om dm hm hdm' hl => ?_, by rw [e0]; exact hK⟩
    rw [listed_set _ _ _ hil] at hl
    by_cases e : m' = s
    · subst e
      rw [hs] at hm
      obtain rfl := Option.some.inj hm
      rw [hd] at hdm'; cases hdm'
    · rw [if_neg e] at hl
      rw [e0]
      exact C.le _ _ _ ((h.pre (listed_no hu)).1 m' om dm hm hdm' hl)
  · rw [listed_set _ _ _ hil] at hl ⊢
    by_cases e1 : e.on = s
    · rw [if_pos e1]
    · rw [if_neg e1]
      by_cases e2 : m' = s
      · subst e2
        rw [hs] at hm
        obtain rfl := Option.some.inj hm
        exact ha e he hb
      · rw [if_neg e2] at hl
        exact h.clos m' om hm hl e he hb
  · rw [listed_set _ _ _ hil, if_neg (by omega)]; exact h.tail m' hm
theorem wpAny_store (hac : acyc ops = true) (hsink : sinkG ops m = true) (hns : m ≤ ops.size) (hsm : s < m) (hn : (dstsN ops m).Nodup) (hb : ∀ d ∈ dstsN ops m, d < a0.tmps.size) (hd : ∀ j o, ops[j]? = some o → j < m → if j = s then o.dst = none else ∃ d, o.dst = some d)
    {jb : Nat} {ob : Oper} (hjb : ops[jb]? = some ob) (hdb : ob.dst = some db) (hjbm : jb < m) (hjbs : reachB ops ops.size s jb = true) {so : Oper} (hs : ops[s]? = some so) (hsg : so.guard = none)
    (arms : ∀ j o, ops[j]? = some o → j < m → ArmS P C ops (dstsN ops m) s a0 w0 j o) (late : ∀ j o, ops[j]? = some o → j < m → ArmL P C ops s j o)
    (store : ∀ (a : Act) (w : World), Below w0.heap.size w0 w → (∀ s, s ∉ dstsN ops m → a.eval (.tmp s) = a0.eval (.tmp s)) → (∀ j o d, ops[j]? = some o → o.dst = some d → reachB ops ops.size s j = true → (C.H j).p w (a.eval (.tmp d))) →
      ∃ w', (execOp a.eval (sop so.op so.type)).run P w = .ok .skip w' ∧ C.K (a.eval (.tmp db)) w')
    (he : ∀ a w, Js C ops s m db a0 w0 (listedN m (ops.size - m)) a w → wpAny P .any ops Q (ops.size - m) (listedN m (ops.size - m)) a w) :
    ∀ fuel listed a w, Js C ops s m db a0 w0 listed a w → unl listed = fuel → wpAny P .any ops Q fuel listed a w := by
  intro fuel
  induction fuel with
  | zero =>
    intro listed a w h hu
    have hall : ∀ j, j < m → listed.getD j false = true := fun j hj => by
      have hjl : j < listed.size := by rw [h.lsize]; omega
      rcases hb' : listed.getD j false with _ | _
      · exfalso
        have hm : false ∈ listed.toList := by
          rw [Array.getD_eq_getD_getElem?, Array.getElem?_eq_getElem hjl] at hb'
          have hb'' : listed[j] = false := hb'
          rw [← hb'']
          exact Array.mem_toList_iff.2 (Array.getElem_mem hjl)
        have := List.count_pos_iff.2 hm
        unfold unl at hu
        omega
      · rfl
    have e := listed_is h.lsize hns hall h.tail
    have hz : ops.size - m = 0 := by rw [e, unl_N] at hu; exact hu
    have := he a w (e ▸ h)
    rw [hz] at this
    rw [e, hz]
    exact this
  | succ fuel ih =>
    intro listed a w h hu
    by_cases hall : ∀ j, j < m → listed.getD j false = true
    · have e := listed_is h.lsize hns hall h.tail
      have hz : fuel + 1 = ops.size - m := by rw [e, unl_N] at hu; exact hu.symm
      rw [hz, e]
      exact he a w (e ▸ h)
    · refine ⟨fun hr => absurd (fun j hj => all_listed h.lsize (fun i o hi e he hb => acyc_spec hac i o hi e he hb) hr j (by omega)) hall, fun i hi => ?_⟩
      obtain ⟨h0, o, ho, ha⟩ := mem_ready.1 hi
      have hin : i < m := by
        rcases Nat.lt_or_ge i m with h' | h'
        · exact h'
        · refine absurd (fun j hj => ?_) hall
          exact reach_listed h.clos _ i o ho ha (sinkG_spec hsink ho h' hj)
      have hfu : ∀ {a' : Act} {w' : World}, Js C ops s m db a0 w0 (listed.setIfInBounds i true) a' w' → wpAny P .any ops Q fuel (listed.setIfInBounds i true) a' w' := fun hj => ih _ _ _ hj (by have := unl_set h0; omega)
      have hdd := hd i o ho hin
      by_cases his : i = s
      · subst his
        rw [hs] at ho
        obtain rfl := Option.some.inj ho
        rw [if_pos rfl] at hdd
        obtain ⟨p1, p2⟩ := h.pre (listed_no h0)
        obtain ⟨w', hrun, hK⟩ := store a w p2 h.keep (fun j oj dj hj hdj hr => p1 j oj dj hj hdj (reach_listed h.clos _ i _ hs ha hr))
        unfold Go.wpOp
        simp only [hs]
        have hw : Region.wanted so (yielded ops a.tmps) = true := by simp [Region.wanted, hsg]
        rw [if_pos hw]
        left
        unfold Oper.wp
        rw [exec_sop, hrun, Oper.upon_skip]
        exact hfu (h.stored hs hin hdd h0 ha hK)
      · rw [if_neg his] at hdd
        obtain ⟨d, hdst⟩ := hdd
        have edges : ∀ k dk, edgeB ops o k dk = true → ∃ ok, ops[k]? = some ok ∧ ok.dst = some dk ∧ listed.getD k false = true := fun k dk hk => by
          unfold edgeB at hk
          rw [Bool.and_eq_true, decide_eq_true_eq] at hk
          obtain ⟨q, hq, h3⟩ := Array.any_eq_true.1 hk.1
          rw [Bool.and_eq_true, decide_eq_true_eq] at h3
          obtain ⟨ok, hok, hdk⟩ := Option.bind_eq_some_iff.1 hk.2
          exact ⟨ok, hok, hdk, h3.2 ▸ ha _ (Array.getElem_mem hq) h3.1⟩
        rcases hsl : listed.getD s false with _ | _
        · obtain ⟨p1, p2⟩ := h.pre hsl
          rcases arms i o ho hin with hx | ⟨hg, harm⟩
          · exact absurd hx his
          · refine Goes.wpOp ho hg (harm a w p2 h.keep (fun k dk hk => ?_)) (fun v w' hv => ?_)
            · obtain ⟨ok, h1, h2, h3⟩ := edges k dk hk
              exact p1 k ok dk h1 h2 h3
            · exact hfu (h.step hn hb hjb hdb hjbm hjbs hs ho hin his hdst ha h0 (fun _ => hv) (fun hf => by rw [hsl] at hf; cases hf))
        · obtain ⟨p1, p2⟩ := h.post hsl
          rcases late i o ho hin with hx | hx | ⟨hg, harm⟩
          · exact absurd hx his
          · have := reach_listed h.clos _ s so hs (fun e he hb => h.clos s so hs hsl e he hb) hx
            rw [listed_no h0] at this; cases this
          · obtain ⟨v, hrun, hv⟩ := harm a w (fun k dk hk => by
              obtain ⟨ok, h1, h2, h3⟩ := edges k dk hk
              exact p1 k ok dk h1 h2 h3)
            refine Goes.wpOp (R := fun v' w' => v' = v ∧ w' = w) ho hg (.inl ⟨v, w, hrun, rfl, rfl⟩) ?_
            rintro v' w' ⟨rfl, rfl⟩
            exact hfu (h.step hn hb hjb hdb hjbm hjbs hs ho hin his hdst ha h0 (fun hf => by rw [hsl] at hf; cases hf) (fun _ => ⟨hv, rfl⟩))
theorem wp_region_store {id : Nat} (s m db jb : Nat) (st : TypeId) (sx sy : Operand) (C : Gs) (ds : List Nat) (tl : List Oper) (hds : dstsN ops m = ds) (htl : ops.toList.drop m = tl) (hm : P.follows .mixedOrders = true) (hac : acyc ops = true) (hsink : sinkG ops m = true) (hns : m ≤ ops.size) (hsm : s < m) (hon : onceS ops s m a0.tmps.size = true) (hseq : Region.seqB .any ops (ops.size - m) m (listedN m (ops.size - m)) = true)
    (hjb : (decide (jb < m) && decide (ops[jb]?.bind (·.dst) = some db) && reachB ops ops.size s jb && decide (ops[s]?.map (·.guard) = some none)) = true)
    (arms : AllFrom (ArmS P C ops ds s a0 w0) 0 (ops.toList.take m)) (late : AllFrom (ArmL P C ops s) 0 (ops.toList.take m))
    (hop : ops[s]?.map (·.op) = some (.store st sx sy))
    (store : ∀ (a : Act) (w : World), Below w0.heap.size w0 w → (∀ s, s ∉ ds → a.eval (.tmp s) = a0.eval (.tmp s)) → (∀ j d, (decide (ops[j]?.bind (·.dst) = some d) && reachB ops ops.size s j) = true → (C.H j).p w (a.eval (.tmp d))) →
      ∃ w', (Instr.storeAt st (a.eval sx) (a.eval sy)).run P w = .ok () w' ∧ C.K (a.eval (.tmp db)) w')
    (he : ∀ (u : Nat → Value) w, (∀ j d, j < m → ops[j]?.bind (·.dst) = some d → C.H2 j (u d)) → C.K (u db) w → wpList P ops Q tl (putAll u ds a0) w) : (Code.region id ops true).wp P Q a0 w0 := by
  subst hds htl
  unfold onceS at hon
  rw [Bool.and_eq_true, Bool.and_eq_true, decide_eq_true_eq] at hon
  obtain ⟨⟨hon1, hon2⟩, hon3⟩ := hon
  simp only [Bool.and_eq_true, decide_eq_true_eq] at hjb
  obtain ⟨⟨⟨hj1, hj2⟩, hj3⟩, hj4⟩ := hjb
  obtain ⟨ob, hob, hobd⟩ := Option.bind_eq_some_iff.1 hj2
  obtain ⟨so, hso, hsg⟩ := Option.map_eq_some_iff.1 hj4
  have hopo : so.op = .store st sx sy := by rw [hso] at hop; exact Option.some.inj hop
  have hb : ∀ d ∈ dstsN ops m, d < a0.tmps.size := fun d hd => by simpa using List.all_eq_true.1 hon1 d hd
  have hdd : ∀ j o, ops[j]? = some o → j < m → if j = s then o.dst = none else ∃ d, o.dst = some d := fun j o hj hn => by
    have := List.all_eq_true.1 hon3 j (List.mem_range.2 hn)
    rw [hj] at this
    by_cases e : j = s
    · rw [if_pos e]
      simpa [e] using this
    · rw [if_neg e]
      simp only [if_neg e] at this
      exact Option.isSome_iff_exists.1 this
  have hl : ∀ j, (Array.replicate ops.size false).getD j false = false := fun j => by
    rw [Array.getD_eq_getD_getElem?, Array.getElem?_replicate]
    split <;> rfl
  have at_ : ∀ {p : Nat → Oper → Prop}, AllFrom p 0 (ops.toList.take m) → ∀ j o, ops[j]? = some o → j < m → p j o := fun h j o hj hn => by
    have := AllFrom.get h j o (by rw [List.getElem?_take, if_pos hn, Array.getElem?_toList]; exact hj)
    rwa [Nat.zero_add] at this
  refine wp_region_any hm (wpAny_store (C := C) (w0 := w0) (db := db) hac hsink hns hsm hon2 hb hdd hob hobd hj1 hj3 hso hsg (at_ arms) (at_ late) (fun a w h1 h2 h3 => by
    obtain ⟨w', q1, q2⟩ := store a w h1 h2 (fun j d hr => by
      rw [Bool.and_eq_true, decide_eq_true_eq] at hr
      obtain ⟨o, ho, hd⟩ := Option.bind_eq_some_iff.1 hr.1
      exact h3 j o d ho hd hr.2)
    exact ⟨w', by rw [hopo]; exact run_store rfl rfl q1, q2⟩) (fun a w h => ?_) ops.size _ a0 _
    ⟨rfl, rfl, fun _ _ => rfl, by simp, fun _ => ⟨fun j o d hj hd h => ?_, (Below.refl _ w0).drew⟩, fun h => ?_, fun j o hj h => ?_, fun j _ => hl j⟩ ?_)
  · have hlen : (ops.toList.drop m).length = ops.size - m := by simp
    rw [← hlen]
    refine wpAny_of_seq (ops.toList.drop m) m _ a w (fun j => by rw [List.getElem?_drop, Array.getElem?_toList]) (by rw [hlen]; exact hseq) ?_
    have hlt : ∀ j, j < m → (listedN m (ops.size - m)).getD j false = true := fun j hj => by
      unfold listedN
      rw [Array.getD_eq_getD_getElem?, List.getElem?_toArray, List.getElem?_append_left (by simpa using hj), List.getElem?_replicate, if_pos hj]
      rfl
    obtain ⟨p1, p2⟩ := h.post (hlt s hsm)
    have e := act_putAll h.size h.defers h.keep
    rw [e]
    refine he _ w (fun j d hj hjd => ?_) p2
    obtain ⟨o, ho, hod⟩ := Option.bind_eq_some_iff.1 hjd
    exact p1 j o d ho hod (hlt j hj)
  · rw [hl] at h; cases h
  · rw [hl] at h; cases h
  · rw [hl] at h; cases h
  · unfold unl
    rw [Array.toList_replicate, List.count_replicate]
    simp
end
end Go.Proofs.Ytfkjahpcpmcefaa
