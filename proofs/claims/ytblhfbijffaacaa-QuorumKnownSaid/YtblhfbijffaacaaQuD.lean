/- The walk through quorum's Check. -/
import Derived.Test.YtblhfbijffaacaaQuB
import Derived.Test.YtblhfbijffaacaaQuC
import Derived.Deep.RegionHeld3
namespace Go.Proofs.Ytblhfbijffaacaa
open Go.RowKit

theorem any_dec (l m : List Int) : (l.any fun x => decide (x ∈ m)) = !decide (∀ x ∈ l, ¬ x ∈ m) := by
  rw [Bool.eq_iff_iff, List.any_eq_true]
  simp
theorem Qu.err_of {c : Qu.Cf} (h0 : c.old ≠ []) (h1 : Qu.node c.old = true) (h2 : Qu.node c.new = true) (h3 : Qu.node c.lrn = true) : Qu.err c = if c.lrn.any (fun x => decide (x ∈ Qu.uni (c.old ++ c.new))) then 29 else 0 := by
  unfold Qu.err Qu.ok
  rw [h1, h2, h3, any_dec]
  have h4 : c.old.isEmpty = false := by rw [← Bool.not_eq_true, List.isEmpty_iff]; exact h0
  rw [h4]
  have h5 : decide (∀ x ∈ c.lrn, ¬ x ∈ Qu.uni (c.old ++ c.new)) = decide (∀ x ∈ c.lrn, ¬ (x ∈ c.old ∨ x ∈ c.new)) :=
    decide_eq_decide.2 ⟨fun h x hx hm => h x hx (Qu.uni_mem.2 (List.mem_append.2 hm)), fun h x hx hm => h x hx (List.mem_append.1 (Qu.uni_mem.1 hm))⟩
  rw [h5]
  cases decide (∀ x ∈ c.lrn, ¬ (x ∈ c.old ∨ x ∈ c.new)) <;> rfl
theorem Qu.err_29 {c : Qu.Cf} (h : c.old = [] ∨ Qu.node c.old = false ∨ Qu.node c.new = false ∨ Qu.node c.lrn = false) : Qu.err c = 29 := by
  unfold Qu.err Qu.ok
  rcases h with h | h | h | h <;> rw [h] <;> simp

/-- three cells of a box -/
structure Box3 (w : World) (b : Nat) (v0 v1 v2 : Value) : Prop where
  c0 : w.cell? ⟨b, 0, none⟩ = some v0
  c1 : w.cell? ⟨b, 1, none⟩ = some v1
  c2 : w.cell? ⟨b, 2, none⟩ = some v2
theorem Box3.below {w w' : World} {B b : Nat} {v0 v1 v2 : Value} (h : Box3 w b v0 v1 v2) (hb : Below B w w') (hlt : b < B) : Box3 w' b v0 v1 v2 :=
  ⟨(hb.cell (p := ⟨b, 0, none⟩) hlt).trans h.c0, (hb.cell (p := ⟨b, 1, none⟩) hlt).trans h.c1, (hb.cell (p := ⟨b, 2, none⟩) hlt).trans h.c2⟩

set_option maxRecDepth 100000 in
set_option maxHeartbeats 1000000 in
theorem check_any (B : Nat) (c : Qu.Cf) (hs0 : Short c) (a0 a1 a2 : Option Addr) (k0 k1 k2 : Nat) (w : World) (h0 : CIs w B c a0 a1 a2 k0 k1 k2) (hB : B ≤ w.heap.size) :
    Calls Try.prog 15 #[.agg #[.slice a0 c.old.length k0, .slice a1 c.new.length k1, .slice a2 c.lrn.length k2]] w fun e w' => e = .returned (.int .i64 (Qu.err c)) ∧ Below w.heap.size w w' := by
  obtain ⟨wb, hwb⟩ : ∃ wb, wb = w.alloc (.cells #[.slice a0 c.old.length k0, .slice a1 c.new.length k1, .slice a2 c.lrn.length k2] 24) := ⟨_, rfl⟩
  have hbel : Below w.heap.size w wb := by rw [hwb]; exact (Below.refl _ _).alloc (Nat.le_refl _) _
  have hsz : wb.heap.size = w.heap.size + 1 := by rw [hwb]; simp
  have hrow : wb.heap[w.heap.size]? = some (.cells #[.slice a0 c.old.length k0, .slice a1 c.new.length k1, .slice a2 c.lrn.length k2] 24 (0, 0)) := by rw [hwb]; exact heap_alloc_new w _
  have c0 : wb.cell? ⟨w.heap.size, 0, none⟩ = some (.slice a0 c.old.length k0) := cell_of_row wb w.heap.size 0 _ _ _ hrow
  have c1 : wb.cell? ⟨w.heap.size, 1, none⟩ = some (.slice a1 c.new.length k1) := cell_of_row wb w.heap.size 1 _ _ _ hrow
  have c2 : wb.cell? ⟨w.heap.size, 2, none⟩ = some (.slice a2 c.lrn.length k2) := cell_of_row wb w.heap.size 2 _ _ _ hrow
  have hI := h0.below (hbel.mono hB)
  have HB := hid hbel
  have HI := hid hI
  have hs := hid hs0
  have HO := hid (ordered_any B a0 k0 c.old (by have := hs0.1; omega) wb hI.o)
  have HN := hid (ordered_any B a1 k1 c.new (by have := hs0.2.1; omega) wb hI.n)
  have HL := hid (ordered_any B a2 k2 c.lrn (by have := hs0.2.2; omega) wb hI.l)
  have HV := hid (voters_any B c hs0 a0 a1 a2 k0 k1 k2 wb.drew (hI.drewN 1) (by show B ≤ wb.heap.size; omega))
  have HF := hid (And.intro hB hsz)

  clear hbel hI h0 hs0 hsz hrow hB
  by_cases hz : c.old = []
  · have HE := hid (Qu.err_29 (c := c) (.inl hz))
    have hl : c.old.length = 0 := by rw [hz]; rfl
    rw [HE.out]
    clear hz HO HN HL HV
    rw [hl] at c0
    rw [hl] at hwb ⊢
    clear hl
    go_enter Try.func15, Try.ntmps15
    go_wp2
    rw [← hwb]; clear hwb
    go_ret
    exact ⟨rfl, HB.out⟩
  have hzl : 0 < c.old.length := List.length_pos_iff.2 hz
  have hzb : ((c.old.length : Int) == 0) = false := by rw [beq_eq_false_iff_ne]; omega
  have HZ := hid hz
  clear hz
  cases ho : Qu.node c.old
  · have HE := hid (Qu.err_29 (c := c) (.inr (.inl ho)))
    rw [ho] at HO
    rw [HE.out]
    clear ho HN HL HV
    go_enter Try.func15, Try.ntmps15
    go_wp2_with fail
    rw [← hwb]; clear hwb
    refine HO.out.mono ?_
    rintro e w1 ⟨rfl, rfl⟩
    go_wp2
    go_ret
    exact ⟨rfl, HB.out⟩
  cases hn : Qu.node c.new
  · have HE := hid (Qu.err_29 (c := c) (.inr (.inr (.inl hn))))
    rw [ho] at HO
    rw [hn] at HN
    rw [HE.out]
    clear ho hn HL HV
    go_enter Try.func15, Try.ntmps15
    go_wp2_with fail
    rw [← hwb]; clear hwb
    refine HO.out.mono ?_
    rintro e w1 ⟨rfl, rfl⟩
    go_wp2_with fail
    refine HN.out.mono ?_
    rintro e w1 ⟨rfl, rfl⟩
    go_wp2
    go_ret
    exact ⟨rfl, HB.out⟩
  cases hl : Qu.node c.lrn
  · have HE := hid (Qu.err_29 (c := c) (.inr (.inr (.inr hl))))
    rw [ho] at HO
    rw [hn] at HN
    rw [hl] at HL
    rw [HE.out]
    clear ho hn hl HV
    go_enter Try.func15, Try.ntmps15
    go_wp2_with fail
    rw [← hwb]; clear hwb
    refine HO.out.mono ?_
    rintro e w1 ⟨rfl, rfl⟩
    go_wp2_with fail
    refine HN.out.mono ?_
    rintro e w1 ⟨rfl, rfl⟩
    go_wp2_with fail
    refine HL.out.mono ?_
    rintro e w1 ⟨rfl, rfl⟩
    go_wp2
    go_ret
    exact ⟨rfl, HB.out⟩
  · have HE := hid (Qu.err_of HZ.out ho hn hl)
    rw [ho] at HO
    rw [hn] at HN
    rw [hl] at HL
    rw [HE.out]
    clear ho hn hl
    have hul : (Qu.uni (c.old ++ c.new)).length ≤ 600 := by
      have := (Qu.uni_is (c.old ++ c.new)).length_le
      rw [List.length_append] at this
      have := hs.out.1; have := hs.out.2.1; omega
    obtain ⟨U, hU⟩ : ∃ U, U = Qu.uni (c.old ++ c.new) := ⟨_, rfl⟩
    rw [← hU] at HV hul ⊢
    have HU := hid hU
    clear hU HE
    obtain ⟨ov, hov⟩ : ∃ ov, ov = c.lrn.any fun x => decide (x ∈ U) := ⟨_, rfl⟩
    rw [← hov]
    have HOV := hid hov
    clear hov
    have hbox : Box3 wb.drew w.heap.size (.slice a0 c.old.length k0) (.slice a1 c.new.length k1) (.slice a2 c.lrn.length k2) := ⟨c0, c1, c2⟩
    have HX : Hid (∀ w3 A cp, OwnsI 3 w3 wb.drew.heap.size A cp U → Below wb.drew.heap.size wb.drew w3 → Hid (Box3 w3 w.heap.size (.slice a0 c.old.length k0) (.slice a1 c.new.length k1) (.slice a2 c.lrn.length k2)) ∧
        Hid (Calls Try.prog 33 #[.slice a2 c.lrn.length k2, .slice A U.length cp] w3 fun e w' => e = .returned (.bool ov) ∧ Hid (Box3 w' w.heap.size (.slice a0 c.old.length k0) (.slice a1 c.new.length k1) (.slice a2 c.lrn.length k2)) ∧ Hid (Below w.heap.size w w'))) := hid fun w3 A cp hown3 hbel3 => by
      have h1 := HF.out.1
      have h2 := HF.out.2
      have h3 : wb.drew.heap.size = wb.heap.size := rfl
      have h4 := hbel3.size
      have hK3 := hbox.below hbel3 (by omega)
      have hB3 : Below B wb.drew w3 := hbel3.mono (by omega)
      have h5 : B ≤ w3.heap.size := by omega
      refine ⟨hid hK3, hid ((overlap_any w3.heap.size a2 A k2 cp c.lrn U (by have := hs.out.2.2; omega) (by omega) w3 ((HI.out.l.drew.below hB3).more h5) hown3.reads (Nat.le_refl _)).mono ?_)⟩
      rintro e4 w4 ⟨he, hb4⟩
      exact ⟨by rw [he, HOV.out], hid (hK3.below hb4 (by omega)), hid (bthen (bthen (Below.drew HB.out) hbel3 (by omega)) hb4 (by omega))⟩
    have c0d : wb.drew.cell? ⟨w.heap.size, 0, none⟩ = some (.slice a0 c.old.length k0) := c0
    have c1d : wb.drew.cell? ⟨w.heap.size, 1, none⟩ = some (.slice a1 c.new.length k1) := c1
    have c2d : wb.drew.cell? ⟨w.heap.size, 2, none⟩ = some (.slice a2 c.lrn.length k2) := c2
    go_enter Try.func15, Try.ntmps15
    go_wp2_with fail
    rw [← hwb]; clear hwb
    refine HO.out.mono ?_
    rintro e w1 ⟨rfl, rfl⟩
    go_wp2_with fail
    refine HN.out.mono ?_
    rintro e w1 ⟨rfl, rfl⟩
    go_wp2_with fail
    refine HL.out.mono ?_
    rintro e w1 ⟨rfl, rfl⟩
    go_wp2_with fail
    go_region_held3 (fun w' => w'.cell? ⟨w.heap.size, 0, none⟩ = some (.slice a0 c.old.length k0) ∧ w'.cell? ⟨w.heap.size, 1, none⟩ = some (.slice a1 c.new.length k1) ∧ w'.cell? ⟨w.heap.size, 2, none⟩ = some (.slice a2 c.lrn.length k2))
      (first | exact ⟨c0d, c1d, c2d⟩ | exact ⟨HK3.out.c0, HK3.out.c1, HK3.out.c2⟩ | exact ⟨HK4.out.c0, HK4.out.c1, HK4.out.c2⟩ | fail)
      (first
        | (go_at_call 13; refine HV.out.mono ?_; rintro e3 w3 ⟨A, cp, rfl, hown3, hbel3⟩; obtain ⟨HK3, HO3⟩ := HX.out w3 A cp hown3 hbel3; clear hown3 hbel3)
        | (go_at_call 33; refine HO3.out.mono ?_; rintro e4 w4 ⟨rfl, HK4, HB4⟩))
    cases ov
    · go_wp2
      go_ret
      exact ⟨rfl, HB4.out⟩
    · go_wp2
      go_ret
      exact ⟨rfl, HB4.out⟩
end Go.Proofs.Ytblhfbijffaacaa
