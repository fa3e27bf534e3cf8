/- The document's answer of layer 10: all, Voters, Members, Check. -/
import Derived.Test.YtblhfbijffaacaaRqB
namespace Go.Proofs.Ytblhfbijffaacaa
open Go.RowKit

theorem withU_any (B : Nat) (A : Option Addr) (c m : Nat) (L : List Int) (hm : (Qu.uni L).length = m) (hl : L.length ≤ 5000) (n : Int) (hn : InInt n) (w : World) (h : IsInts w B A (Qu.uni L)) (hB : B ≤ w.heap.size) :
    Calls Try.prog 53 #[.slice A m c, .int .i64 n] w fun e w' => ∃ A' c' m', e = .returned (.slice A' m' c') ∧ Hid ((Qu.uni (L ++ [n])).length = m' ∧ IsInts w' w'.heap.size A' (Qu.uni (L ++ [n])) ∧ Below w.heap.size w w') := by
  subst hm
  have hle := (Qu.uni_is L).length_le
  have := with_any B A c (Qu.uni L) (by omega) n hn w h hB
  rw [Qu.with_is] at this
  refine this.mono ?_
  rintro e w' ⟨A', c', rfl, ho, hb⟩
  exact ⟨A', c', _, rfl, hid ⟨rfl, ho.reads, hb⟩⟩

set_option maxRecDepth 100000 in
set_option maxHeartbeats 1000000 in
theorem all_any (B B' : Nat) (A A' : Option Addr) (c c' m : Nat) (L l : List Int) (hL : L.length ≤ 2000) (hl : l.length ≤ 2000) (w : World) (h0 : IsInts w B A (Qu.uni L)) (hm0 : (Qu.uni L).length = m) (h0' : IsInts w B' A' l) (hB : B ≤ w.heap.size) (hB' : B' ≤ w.heap.size) :
    Calls Try.prog 39 #[.slice A m c, .slice A' l.length c'] w fun e w' => ∃ A' c' m', e = .returned (.slice A' m' c') ∧ Hid ((Qu.uni (L ++ l)).length = m' ∧ IsInts w' w'.heap.size A' (Qu.uni (L ++ l)) ∧ Below w.heap.size w w') := by
  have h := hid h0
  have h' := hid h0'
  have hm := hid hm0
  clear h0 h0' hm0
  go_enter Try.func39, Try.ntmps39
  go_wp2_with fail
  go_loopw [0, 5] (fun v i wr => ∃ (k m2 : Nat) (A2 : Option Addr) (c2 : Nat), k ≤ l.length ∧ v = .slice A2 m2 c2 ∧ i = .int .i64 k ∧ Hid ((Qu.uni (L ++ l.take k)).length = m2 ∧ IsInts wr wr.heap.size A2 (Qu.uni (L ++ l.take k)) ∧ Below w.heap.size w wr)) (fun _ i _ => l.length - (intOf i).toNat)
  case atStart => exact ⟨0, m, A, c, by omega, rfl, rfl, hid ⟨by simpa using hm.out, by simpa using h.out.more hB, Below.refl _ _⟩⟩
  case round =>
    obtain ⟨k, m2, A2, c2, hk, rfl, rfl, HR⟩ := hrel
    by_cases hlt : k < l.length
    · obtain ⟨b, off, rfl, hb, hcell⟩ := h'.out.cells k hlt
      have hck : wr.cell? ⟨b, off + k, none⟩ = some (.int .i64 l[k]) := (HR.out.2.2.cell (p := ⟨b, off + k, none⟩) (by show b < _; omega)).trans (hcell k hlt)
      have HC := withU_any wr.heap.size A2 c2 m2 (L ++ l.take k) HR.out.1 (by rw [List.length_append, List.length_take]; omega) l[k] (h'.out.small _ (List.getElem_mem hlt)) wr HR.out.2.1 (Nat.le_refl _)
      rw [List.append_assoc, ← List.take_succ_eq_append_getElem hlt] at HC
      have HCC := hid HC
      clear HC hcell
      go_wp2_with fail
      refine HCC.out.mono ?_
      rintro e w1 ⟨A3, c3, m3, rfl, H3⟩
      clear HCC
      go_wp2
      go_roundw
      case rel => exact ⟨k + 1, m3, A3, c3, by omega, rfl, by go_num, hid ⟨H3.out.1, H3.out.2.1, bthen HR.out.2.2 H3.out.2.2 HR.out.2.2.size⟩⟩
      case measure => simp [intOf]; omega
    · obtain rfl : k = l.length := by omega
      have H1 := HR.out
      rw [List.take_length] at H1
      have H2 := hid H1
      clear H1 HR
      go_wp2
      go_ret
      exact ⟨A2, c2, m2, rfl, H2⟩
theorem Qu.uni_nil : Qu.uni [] = [] := rfl

set_option maxRecDepth 100000 in
set_option maxHeartbeats 1000000 in
theorem refVoters_any (B : Nat) (c : Qu.Cf) (hs : Short c) (a0 a1 a2 : Option Addr) (k0 k1 k2 : Nat) (w : World) (h : CIs w B c a0 a1 a2 k0 k1 k2) (hB : B ≤ w.heap.size) :
    Calls Try.prog 20 #[.agg #[.slice a0 c.old.length k0, .slice a1 c.new.length k1, .slice a2 c.lrn.length k2]] w fun e w' => ∃ A' c' m', e = .returned (.slice A' m' c') ∧ Hid ((Qu.uni (c.old ++ c.new)).length = m' ∧ IsInts w' w'.heap.size A' (Qu.uni (c.old ++ c.new)) ∧ Below w.heap.size w w') := by
  obtain ⟨wb, hwb⟩ : ∃ wb, wb = w.alloc (.cells #[.slice a0 c.old.length k0, .slice a1 c.new.length k1, .slice a2 c.lrn.length k2] 24) := ⟨_, rfl⟩
  have hbel : Below w.heap.size w wb := by rw [hwb]; exact (Below.refl _ _).alloc (Nat.le_refl _) _
  have hsz : wb.heap.size = w.heap.size + 1 := by rw [hwb]; simp
  have hrow : wb.heap[w.heap.size]? = some (.cells #[.slice a0 c.old.length k0, .slice a1 c.new.length k1, .slice a2 c.lrn.length k2] 24 (0, 0)) := by rw [hwb]; exact heap_alloc_new w _
  have c0 : wb.cell? ⟨w.heap.size, 0, none⟩ = some (.slice a0 c.old.length k0) := cell_of_row wb w.heap.size 0 _ _ _ hrow
  have c1 : wb.cell? ⟨w.heap.size, 1, none⟩ = some (.slice a1 c.new.length k1) := cell_of_row wb w.heap.size 1 _ _ _ hrow
  have c0d : wb.drew.cell? ⟨w.heap.size, 0, none⟩ = some (.slice a0 c.old.length k0) := c0
  have c1d : wb.drew.cell? ⟨w.heap.size, 1, none⟩ = some (.slice a1 c.new.length k1) := c1
  have hI := h.below (hbel.mono hB)
  have HB := hid hbel
  have HI := hid hI
  have HF := hid (And.intro hB hsz)
  have H1 := hid (all_any 0 B none a0 0 k0 0 [] c.old (by simp) (by have := hs.1; omega) wb.drew IsInts.nil rfl (hI.o.drew) (Nat.zero_le _) (by show B ≤ wb.heap.size; omega))
  have HX : Hid (∀ w3 A cp m, Hid ((Qu.uni ([] ++ c.old)).length = m ∧ IsInts w3 w3.heap.size A (Qu.uni ([] ++ c.old)) ∧ Below wb.drew.heap.size wb.drew w3) → Hid (w3.cell? ⟨w.heap.size, 0, none⟩ = some (.slice a0 c.old.length k0) ∧ w3.cell? ⟨w.heap.size, 1, none⟩ = some (.slice a1 c.new.length k1)) ∧
      Hid (Calls Try.prog 39 #[.slice A m cp, .slice a1 c.new.length k1] w3 fun e w' => ∃ A' c' m', e = .returned (.slice A' m' c') ∧ Hid (w'.cell? ⟨w.heap.size, 0, none⟩ = some (.slice a0 c.old.length k0) ∧ w'.cell? ⟨w.heap.size, 1, none⟩ = some (.slice a1 c.new.length k1)) ∧ Hid ((Qu.uni (c.old ++ c.new)).length = m' ∧ IsInts w' w'.heap.size A' (Qu.uni (c.old ++ c.new)) ∧ Below w.heap.size w w'))) := hid fun w3 A cp m h3 => by
    obtain ⟨h31, h32, h33⟩ := h3.out
    rw [List.nil_append] at h31 h32
    have h1 := HF.out.1
    have h2 := HF.out.2
    have h4 : wb.drew.heap.size = wb.heap.size := rfl
    have h5 := h33.size
    have hK : w3.cell? ⟨w.heap.size, 0, none⟩ = some (.slice a0 c.old.length k0) ∧ w3.cell? ⟨w.heap.size, 1, none⟩ = some (.slice a1 c.new.length k1) :=
      ⟨(h33.cell (p := ⟨w.heap.size, 0, none⟩) (by show w.heap.size < _; omega)).trans c0d, (h33.cell (p := ⟨w.heap.size, 1, none⟩) (by show w.heap.size < _; omega)).trans c1d⟩
    refine ⟨hid hK, hid ((all_any w3.heap.size B A a1 cp k1 m c.old c.new (by have := hs.1; omega) (by have := hs.2.1; omega) w3 h32 h31 (HI.out.n.drew.below (h33.mono (by omega))) (Nat.le_refl _) (by omega)).mono ?_)⟩
    rintro e w4 ⟨A4, c4, m4, he, h6⟩
    refine ⟨A4, c4, m4, he, hid ⟨(h6.out.2.2.cell (World.block_lt_of_cell? _ _ hK.1)).trans hK.1, (h6.out.2.2.cell (World.block_lt_of_cell? _ _ hK.2)).trans hK.2⟩, hid ⟨h6.out.1, h6.out.2.1, bthen (bthen (Below.drew HB.out) h33 (by omega)) h6.out.2.2 (by omega)⟩⟩
  clear hbel hI h hsz hrow hB
  go_enter Try.func20, Try.ntmps20
  go_wp2_with fail
  rw [← hwb]; clear hwb
  go_region_held3 (fun w' => w'.cell? ⟨w.heap.size, 0, none⟩ = some (.slice a0 c.old.length k0) ∧ w'.cell? ⟨w.heap.size, 1, none⟩ = some (.slice a1 c.new.length k1))
    (first | exact ⟨c0d, c1d⟩ | exact ⟨HK4.out.1, HK4.out.2⟩ | exact ⟨HK3.out.1, HK3.out.2⟩ | fail)
    (first
      | (go_at_call 39; refine HO3.out.mono ?_; rintro e4 w4 ⟨A4, p4, m4, rfl, HK4, HR⟩)
      | (go_at_call 39; refine H1.out.mono ?_; rintro e3 w3 ⟨A3, p3, m3, rfl, H3⟩; obtain ⟨HK3, HO3⟩ := HX.out w3 A3 p3 m3 H3))
  go_wp2
  go_ret
  exact ⟨A4, p4, m4, rfl, HR⟩

set_option maxRecDepth 100000 in
set_option maxHeartbeats 1000000 in
theorem refMembers_any (B : Nat) (c : Qu.Cf) (hs : Short c) (a0 a1 a2 : Option Addr) (k0 k1 k2 : Nat) (w : World) (h : CIs w B c a0 a1 a2 k0 k1 k2) (hB : B ≤ w.heap.size) :
    Calls Try.prog 21 #[.agg #[.slice a0 c.old.length k0, .slice a1 c.new.length k1, .slice a2 c.lrn.length k2]] w fun e w' => ∃ A' c' m', e = .returned (.slice A' m' c') ∧ Hid ((Qu.uni (c.old ++ c.new ++ c.lrn)).length = m' ∧ IsInts w' w'.heap.size A' (Qu.uni (c.old ++ c.new ++ c.lrn)) ∧ Below w.heap.size w w') := by
  obtain ⟨wb, hwb⟩ : ∃ wb, wb = w.alloc (.cells #[.slice a0 c.old.length k0, .slice a1 c.new.length k1, .slice a2 c.lrn.length k2] 24) := ⟨_, rfl⟩
  have hbel : Below w.heap.size w wb := by rw [hwb]; exact (Below.refl _ _).alloc (Nat.le_refl _) _
  have hsz : wb.heap.size = w.heap.size + 1 := by rw [hwb]; simp
  have hrow : wb.heap[w.heap.size]? = some (.cells #[.slice a0 c.old.length k0, .slice a1 c.new.length k1, .slice a2 c.lrn.length k2] 24 (0, 0)) := by rw [hwb]; exact heap_alloc_new w _
  have c0 : wb.cell? ⟨w.heap.size, 0, none⟩ = some (.slice a0 c.old.length k0) := cell_of_row wb w.heap.size 0 _ _ _ hrow
  have c1 : wb.cell? ⟨w.heap.size, 1, none⟩ = some (.slice a1 c.new.length k1) := cell_of_row wb w.heap.size 1 _ _ _ hrow
  have c2 : wb.cell? ⟨w.heap.size, 2, none⟩ = some (.slice a2 c.lrn.length k2) := cell_of_row wb w.heap.size 2 _ _ _ hrow
  have c0d : wb.drew.cell? ⟨w.heap.size, 0, none⟩ = some (.slice a0 c.old.length k0) := c0
  have c1d : wb.drew.cell? ⟨w.heap.size, 1, none⟩ = some (.slice a1 c.new.length k1) := c1
  have c2d : wb.drew.cell? ⟨w.heap.size, 2, none⟩ = some (.slice a2 c.lrn.length k2) := c2
  have hI := h.below (hbel.mono hB)
  have HB := hid hbel
  have HI := hid hI
  have HF := hid (And.intro hB hsz)
  have H1 := hid (refVoters_any B c hs a0 a1 a2 k0 k1 k2 wb.drew (hI.drewN 1) (by show B ≤ wb.heap.size; omega))
  have HX : Hid (∀ w3 A cp m, Hid ((Qu.uni (c.old ++ c.new)).length = m ∧ IsInts w3 w3.heap.size A (Qu.uni (c.old ++ c.new)) ∧ Below wb.drew.heap.size wb.drew w3) → Hid (w3.cell? ⟨w.heap.size, 0, none⟩ = some (.slice a0 c.old.length k0) ∧ w3.cell? ⟨w.heap.size, 1, none⟩ = some (.slice a1 c.new.length k1) ∧ w3.cell? ⟨w.heap.size, 2, none⟩ = some (.slice a2 c.lrn.length k2)) ∧
      Hid (Calls Try.prog 39 #[.slice A m cp, .slice a2 c.lrn.length k2] w3 fun e w' => ∃ A' c' m', e = .returned (.slice A' m' c') ∧ Hid (w'.cell? ⟨w.heap.size, 0, none⟩ = some (.slice a0 c.old.length k0) ∧ w'.cell? ⟨w.heap.size, 1, none⟩ = some (.slice a1 c.new.length k1) ∧ w'.cell? ⟨w.heap.size, 2, none⟩ = some (.slice a2 c.lrn.length k2)) ∧ Hid ((Qu.uni (c.old ++ c.new ++ c.lrn)).length = m' ∧ IsInts w' w'.heap.size A' (Qu.uni (c.old ++ c.new ++ c.lrn)) ∧ Below w.heap.size w w'))) := hid fun w3 A cp m h3 => by
    obtain ⟨h31, h32, h33⟩ := h3.out
    have h1 := HF.out.1
    have h2 := HF.out.2
    have h4 : wb.drew.heap.size = wb.heap.size := rfl
    have h5 := h33.size
    have hK : w3.cell? ⟨w.heap.size, 0, none⟩ = some (.slice a0 c.old.length k0) ∧ w3.cell? ⟨w.heap.size, 1, none⟩ = some (.slice a1 c.new.length k1) ∧ w3.cell? ⟨w.heap.size, 2, none⟩ = some (.slice a2 c.lrn.length k2) :=
      ⟨(h33.cell (p := ⟨w.heap.size, 0, none⟩) (by show w.heap.size < _; omega)).trans c0d, (h33.cell (p := ⟨w.heap.size, 1, none⟩) (by show w.heap.size < _; omega)).trans c1d, (h33.cell (p := ⟨w.heap.size, 2, none⟩) (by show w.heap.size < _; omega)).trans c2d⟩
    refine ⟨hid hK, hid ((all_any w3.heap.size B A a2 cp k2 m (c.old ++ c.new) c.lrn (by rw [List.length_append]; have := hs.1; have := hs.2.1; omega) (by have := hs.2.2; omega) w3 h32 h31 (HI.out.l.drew.below (h33.mono (by omega))) (Nat.le_refl _) (by omega)).mono ?_)⟩
    rintro e w4 ⟨A4, c4, m4, he, h6⟩
    refine ⟨A4, c4, m4, he, hid ⟨(h6.out.2.2.cell (World.block_lt_of_cell? _ _ hK.1)).trans hK.1, (h6.out.2.2.cell (World.block_lt_of_cell? _ _ hK.2.1)).trans hK.2.1, (h6.out.2.2.cell (World.block_lt_of_cell? _ _ hK.2.2)).trans hK.2.2⟩, hid ⟨h6.out.1, h6.out.2.1, bthen (bthen (Below.drew HB.out) h33 (by omega)) h6.out.2.2 (by omega)⟩⟩
  clear hbel hI h hsz hrow hB
  go_enter Try.func21, Try.ntmps21
  go_wp2_with fail
  rw [← hwb]; clear hwb
  go_region_held3 (fun w' => w'.cell? ⟨w.heap.size, 0, none⟩ = some (.slice a0 c.old.length k0) ∧ w'.cell? ⟨w.heap.size, 1, none⟩ = some (.slice a1 c.new.length k1) ∧ w'.cell? ⟨w.heap.size, 2, none⟩ = some (.slice a2 c.lrn.length k2))
    (first | exact ⟨c0d, c1d, c2d⟩ | exact ⟨HK4.out.1, HK4.out.2⟩ | exact ⟨HK3.out.1, HK3.out.2⟩ | fail)
    (first
      | (go_at_call 39; refine HO3.out.mono ?_; rintro e4 w4 ⟨A4, p4, m4, rfl, HK4, HR⟩)
      | (go_at_call 20; refine H1.out.mono ?_; rintro e3 w3 ⟨A3, p3, m3, rfl, H3⟩; obtain ⟨HK3, HO3⟩ := HX.out w3 A3 p3 m3 H3))
  go_wp2
  go_ret
  exact ⟨A4, p4, m4, rfl, HR⟩
end Go.Proofs.Ytblhfbijffaacaa
