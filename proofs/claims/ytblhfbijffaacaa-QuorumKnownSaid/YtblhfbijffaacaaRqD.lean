/- The document's answer of layer 10: Check. -/
import Derived.Test.YtblhfbijffaacaaRqA
import Derived.Deep.RegionHeld3
namespace Go.Proofs.Ytblhfbijffaacaa
open Go.RowKit

theorem Qu.refErr_29 {c : Qu.Cf} (h : c.old = [] ∨ Qu.node c.old = false ∨ Qu.node c.new = false ∨ Qu.node c.lrn = false) : Qu.err c = 29 := by
  unfold Qu.err Qu.ok
  rcases h with h | h | h | h <;> rw [h] <;> simp
theorem Qu.refErr_0 {c : Qu.Cf} (h0 : c.old ≠ []) (h1 : Qu.node c.old = true) (h2 : Qu.node c.new = true) (h3 : Qu.node c.lrn = true) (h : ∀ x ∈ c.lrn, ¬ (x ∈ c.old ∨ x ∈ c.new)) : Qu.err c = 0 := by
  rw [Qu.err_ok]
  unfold Qu.ok
  rw [h1, h2, h3, decide_eq_true h]
  have h4 : c.old.isEmpty = false := by rw [← Bool.not_eq_true, List.isEmpty_iff]; exact h0
  rw [h4]; rfl
theorem Qu.refErr_in {c : Qu.Cf} {x : Int} (hx : x ∈ c.lrn) (h : x ∈ c.old ∨ x ∈ c.new) : Qu.err c = 29 := by
  unfold Qu.err
  have : Qu.ok c = false := by
    unfold Qu.ok
    rw [decide_eq_false (fun hh => hh x hx h)]; simp
  rw [this]; rfl
theorem inQ_any (B : Nat) (A : Option Addr) (c : Nat) (l : List Int) (hl : l.length ≤ 100000) (x : Int) (p : Bool) (hp : decide (x ∈ l) = p) (w : World) (h : IsInts w B A l) :
    ∀ j, Calls Try.prog 35 #[.slice A l.length c, .int .i64 x] (w.drewN j) fun e w' => e = .returned (.bool p) ∧ ∃ n, w' = (w.drewN j).drewN n := fun j =>
  (in_any B A c l hl x (w.drewN j) (h.drewN j)).mono fun e w' ⟨he, hw⟩ => ⟨by rw [← hp]; exact he, 0, hw⟩

set_option maxRecDepth 100000 in
set_option maxHeartbeats 1000000 in
theorem refCheck_any (B : Nat) (c : Qu.Cf) (hs0 : Short c) (a0 a1 a2 : Option Addr) (k0 k1 k2 : Nat) (w : World) (h0 : CIs w B c a0 a1 a2 k0 k1 k2) (hB : B ≤ w.heap.size) :
    Calls Try.prog 16 #[.agg #[.slice a0 c.old.length k0, .slice a1 c.new.length k1, .slice a2 c.lrn.length k2]] w fun e w' => e = .returned (.int .i64 (Qu.err c)) ∧ Below w.heap.size w w' := by
  obtain ⟨wb, hwb⟩ : ∃ wb, wb = w.alloc (.cells #[.slice a0 c.old.length k0, .slice a1 c.new.length k1, .slice a2 c.lrn.length k2] 24) := ⟨_, rfl⟩
  have hbel : Below w.heap.size w wb := by rw [hwb]; exact (Below.refl _ _).alloc (Nat.le_refl _) _
  have hsz : wb.heap.size = w.heap.size + 1 := by rw [hwb]; simp
  have hrow : wb.heap[w.heap.size]? = some (.cells #[.slice a0 c.old.length k0, .slice a1 c.new.length k1, .slice a2 c.lrn.length k2] 24 (0, 0)) := by rw [hwb]; exact heap_alloc_new w _
  have c0 : wb.cell? ⟨w.heap.size, 0, none⟩ = some (.slice a0 c.old.length k0) := cell_of_row wb w.heap.size 0 _ _ _ hrow
  have c1 : wb.cell? ⟨w.heap.size, 1, none⟩ = some (.slice a1 c.new.length k1) := cell_of_row wb w.heap.size 1 _ _ _ hrow
  have c2 : wb.cell? ⟨w.heap.size, 2, none⟩ = some (.slice a2 c.lrn.length k2) := cell_of_row wb w.heap.size 2 _ _ _ hrow
  have hI := h0.below (hbel.mono hB)
  have HB := hid hbel
  have HI := hid hI
  have hs := hid hs0
  have HO := hid (fun j => rising_any B a0 k0 c.old (by have := hs0.1; omega) (wb.drewN j) (hI.o.drewN j))
  have HN := hid (fun j => rising_any B a1 k1 c.new (by have := hs0.2.1; omega) (wb.drewN j) (hI.n.drewN j))
  have HL := hid (fun j => rising_any B a2 k2 c.lrn (by have := hs0.2.2; omega) (wb.drewN j) (hI.l.drewN j))
  have hll := hs0.2.2
  clear hbel hI h0 hs0 hsz hrow hB
  by_cases hz : c.old = []
  · have HE := hid (Qu.refErr_29 (c := c) (.inl hz))
    have hl : c.old.length = 0 := by rw [hz]; rfl
    rw [HE.out]
    clear hz HO HN HL
    rw [hl] at c0
    rw [hl] at hwb ⊢
    clear hl
    go_enter Try.func16, Try.ntmps16
    go_wp2
    rw [← hwb]; clear hwb
    go_ret
    exact ⟨rfl, HB.out⟩
  have hzl : 0 < c.old.length := List.length_pos_iff.2 hz
  have hzb : ((c.old.length : Int) == 0) = false := by rw [beq_eq_false_iff_ne]; omega
  have HZ := hid hz
  clear hz
  cases ho : Qu.node c.old
  · have HE := hid (Qu.refErr_29 (c := c) (.inr (.inl ho)))
    rw [ho] at HO
    rw [HE.out]
    clear ho HN HL
    go_enter Try.func16, Try.ntmps16
    go_wp2_with fail
    rw [← hwb]; clear hwb
    refine (HO.out 0).mono ?_
    rintro e w1 ⟨rfl, n, rfl⟩
    go_wp2
    go_ret
    exact ⟨rfl, below_drewN HB.out _⟩
  cases hn : Qu.node c.new
  · have HE := hid (Qu.refErr_29 (c := c) (.inr (.inr (.inl hn))))
    rw [ho] at HO
    rw [hn] at HN
    rw [HE.out]
    clear ho hn HL
    go_enter Try.func16, Try.ntmps16
    go_wp2_with fail
    rw [← hwb]; clear hwb
    refine (HO.out 0).mono ?_
    rintro e w1 ⟨rfl, n, rfl⟩
    go_wp2_with fail
    refine (HN.out _).mono ?_
    rintro e w1 ⟨rfl, n2, rfl⟩
    go_wp2
    go_ret
    exact ⟨rfl, below_drewN HB.out _⟩
  cases hl : Qu.node c.lrn
  · have HE := hid (Qu.refErr_29 (c := c) (.inr (.inr (.inr hl))))
    rw [ho] at HO
    rw [hn] at HN
    rw [hl] at HL
    rw [HE.out]
    clear ho hn hl
    go_enter Try.func16, Try.ntmps16
    go_wp2_with fail
    rw [← hwb]; clear hwb
    refine (HO.out 0).mono ?_
    rintro e w1 ⟨rfl, n, rfl⟩
    go_wp2_with fail
    refine (HN.out _).mono ?_
    rintro e w1 ⟨rfl, n2, rfl⟩
    go_wp2_with fail
    refine (HL.out (n + n2)).mono ?_
    rintro e w1 ⟨rfl, n3, rfl⟩
    go_wp2
    go_ret
    exact ⟨rfl, below_drewN HB.out _⟩
  · have HE0 := hid (fun h => Qu.refErr_0 (c := c) HZ.out ho hn hl h)
    have HE1 := hid (fun x hx h => Qu.refErr_in (c := c) (x := x) hx h)
    rw [ho] at HO
    rw [hn] at HN
    rw [hl] at HL
    clear ho hn hl
    go_enter Try.func16, Try.ntmps16
    go_wp2_with fail
    rw [← hwb]; clear hwb
    refine (HO.out 0).mono ?_
    rintro e w1 ⟨rfl, n, rfl⟩
    go_wp2_with fail
    refine (HN.out _).mono ?_
    rintro e w1 ⟨rfl, n2, rfl⟩
    go_wp2_with fail
    refine (HL.out (n + n2)).mono ?_
    rintro e w1 ⟨rfl, n3, rfl⟩
    go_wp2_with fail
    go_loopw [3] (fun i wr => ∃ k m : Nat, k ≤ c.lrn.length ∧ i = .int .i64 k ∧ wr = wb.drewN m ∧ Hid (∀ x ∈ c.lrn.take k, ¬ (x ∈ c.old ∨ x ∈ c.new))) (fun i _ => c.lrn.length - (intOf i).toNat)
    case atStart => exact ⟨0, n + n2 + n3, by omega, rfl, rfl, hid (by simp)⟩
    case round =>
      obtain ⟨k, m, hk, rfl, rfl, HR⟩ := hrel
      by_cases hlt : k < c.lrn.length
      · obtain ⟨b, off, rfl, hb, hcell⟩ := HI.out.l.cells k hlt
        have hck := hcell k hlt
        have hmem : c.lrn[k] ∈ c.lrn := List.getElem_mem hlt
        have HT := hid (List.take_succ_eq_append_getElem hlt)
        have HM := hid hmem
        obtain ⟨p, hp⟩ : ∃ p, decide (c.lrn[k] ∈ c.old) = p := ⟨_, rfl⟩
        obtain ⟨q, hq⟩ : ∃ q, decide (c.lrn[k] ∈ c.new) = q := ⟨_, rfl⟩
        have HIO := hid (inQ_any B a0 k0 c.old (by have := hs.out.1; omega) c.lrn[k] p hp (wb.drewN m) (HI.out.o.drewN m))
        have HIN := hid (inQ_any B a1 k1 c.new (by have := hs.out.2.1; omega) c.lrn[k] q hq (wb.drewN m) (HI.out.n.drewN m))
        have HBD := hid (below_drewN HB.out m)
        have HP := hid hp
        have HQ := hid hq
        clear hcell hmem hp hq
        generalize c.lrn[k] = x at *
        have c0m : (wb.drewN m).cell? ⟨w.heap.size, 0, none⟩ = some (.slice a0 c.old.length k0) := c0
        have c1m : (wb.drewN m).cell? ⟨w.heap.size, 1, none⟩ = some (.slice a1 c.new.length k1) := c1
        have c2m : (wb.drewN m).cell? ⟨w.heap.size, 2, none⟩ = some (.slice (some ⟨b, off, none⟩) c.lrn.length k2) := c2
        have hckm : (wb.drewN m).cell? ⟨b, off + k, none⟩ = some (.int .i64 x) := hck
        have hrd : ∀ j, (wb.drewN m).drewN j = wb.drewN (m + j) := fun j => World.drewN_drewN _ _ _
        have HRD := hid hrd
        clear c0 c1 c2 hck hrd
        generalize wb.drewN m = w9 at *
        cases p
        · cases q
          · go_wp2
            go_quiet (first
              | (go_at_call 35; with_reducible exact Calls.quiet_of (HIO.out _))
              | (go_at_call 35; with_reducible exact Calls.quiet_of (HIN.out _)))
            go_wp2
            go_roundw
            case rel =>
              refine ⟨k + 1, _, by omega, by go_num, HRD.out _, hid fun y hy => ?_⟩
              rw [HT.out] at hy
              rcases List.mem_append.1 hy with hy | hy
              · exact HR.out y hy
              · simp at hy
                subst hy
                rintro (h | h)
                · exact absurd h (of_decide_eq_false HP.out)
                · exact absurd h (of_decide_eq_false HQ.out)
            case measure => simp [intOf]; omega
          · go_wp2
            go_quiet (first
              | (go_at_call 35; with_reducible exact Calls.quiet_of (HIO.out _))
              | (go_at_call 35; with_reducible exact Calls.quiet_of (HIN.out _)))
            go_wp2
            go_ret
            exact ⟨by rw [HE1.out x HM.out (.inr (of_decide_eq_true HQ.out))]; rfl, below_drewN HBD.out _⟩
        · go_wp2
          go_quiet (first
            | (go_at_call 35; with_reducible exact Calls.quiet_of (HIO.out _))
            | (go_at_call 35; with_reducible exact Calls.quiet_of (HIN.out _)))
          go_wp2
          go_ret
          exact ⟨by rw [HE1.out x HM.out (.inl (of_decide_eq_true HP.out))]; rfl, below_drewN HBD.out _⟩
      · obtain rfl : k = c.lrn.length := by omega
        have hr := HR.out
        rw [List.take_length] at hr
        have HE := hid (HE0.out hr)
        clear hr
        go_wp2
        go_ret
        exact ⟨by rw [HE.out]; rfl, below_drewN HB.out _⟩
end Go.Proofs.Ytblhfbijffaacaa
