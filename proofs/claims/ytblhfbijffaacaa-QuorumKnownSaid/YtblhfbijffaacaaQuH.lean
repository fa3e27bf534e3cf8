/- The walks through sort.Search and quorum's Agreed. -/
import Derived.Test.YtblhfbijffaacaaQuG
namespace Go.Proofs.Ytblhfbijffaacaa
open Go.RowKit Go.Maps

set_option maxHeartbeats 1000000 in
theorem search_any (g : FuncId) (cb : Array Value) (n : Nat) (p : Nat → Bool) (w0 : World) (eg : ∀ args w, (callFunc g args).run Try.prog w = .ok (.enter g args) w) (hsz : n ≤ 100000)
    (hf0 : ∀ i : Nat, i < n → ∀ w, Below w0.heap.size w0 w → Calls Try.prog g (#[.int .i64 (i : Int)] ++ cb) w fun e w' => e = .returned (.bool (p i)) ∧ Below w.heap.size w w')
    (hmono0 : ∀ a b, a ≤ b → b < n → p a = true → p b = true) :
    Calls Try.prog 43 #[.int .i64 (n : Int), .func (.func g) #[] cb] w0 fun e w' => ∃ m : Nat, e = .returned (.int .i64 (m : Int)) ∧ Hid (m ≤ n ∧ (∀ t, t < m → p t = false) ∧ ∀ t, m ≤ t → t < n → p t = true) ∧ Below w0.heap.size w0 w' := by
  have hf := hid hf0
  have hmono := hid hmono0
  clear hf0 hmono0
  go_enter Try.func43, Try.ntmps43
  go_wp2_with fail
  go_loopw [5, 6] (fun a b wr => ∃ lo hi : Nat, a = .int .i64 (lo : Int) ∧ b = .int .i64 (hi : Int) ∧ lo ≤ hi ∧ hi ≤ n ∧ Hid ((∀ t, t < lo → p t = false) ∧ (∀ t, hi ≤ t → t < n → p t = true)) ∧ Hid (Below w0.heap.size w0 wr)) (fun a b _ => (intOf b).toNat - (intOf a).toNat)
  case atStart => exact ⟨0, n, rfl, rfl, by omega, by omega, hid ⟨fun t h => absurd h (by omega), fun t h1 h2 => absurd h2 (by omega)⟩, hid (Below.refl _ _)⟩
  case round =>
    obtain ⟨lo, hi, rfl, rfl, hlh, hin, HI, HB⟩ := hrel
    by_cases hlt : lo < hi
    · have hc := hf.out ((lo + hi) / 2) (by omega) wr HB.out
      rw [show (((lo + hi) / 2 : Nat) : Int) = ((lo : Int) + (hi : Int)) / 2 by omega] at hc
      cases hp : p ((lo + hi) / 2) <;> rw [hp] at hc
      · have HP := hid hp
        clear hp
        go_wp2_with (go_at_fn g; refine hc.mono ?_; rintro e w' ⟨rfl, hb⟩)
        have HB2 := hid (bthen HB.out hb HB.out.size)
        clear hb
        go_roundw
        case rel =>
          refine ⟨(lo + hi) / 2 + 1, hi, by rw [show ((lo : Int) + (hi : Int)) / 2 + 1 = (((lo + hi) / 2 + 1 : Nat) : Int) by omega], rfl, by omega, hin, hid ⟨fun t ht => ?_, HI.out.2⟩, HB2⟩
          cases h : p t with
          | false => rfl
          | true => have := hmono.out t ((lo + hi) / 2) (by omega) (by omega) h; rw [HP.out] at this; cases this
        case measure => simp [intOf]; omega
      · have HP := hid hp
        clear hp
        go_wp2_with (go_at_fn g; refine hc.mono ?_; rintro e w' ⟨rfl, hb⟩)
        have HB2 := hid (bthen HB.out hb HB.out.size)
        clear hb
        go_roundw
        case rel =>
          refine ⟨lo, (lo + hi) / 2, rfl, by rw [show ((lo : Int) + (hi : Int)) / 2 = (((lo + hi) / 2 : Nat) : Int) by omega], by omega, by omega, hid ⟨HI.out.1, fun t h1 h2 => hmono.out ((lo + hi) / 2) t h1 h2 HP.out⟩, HB2⟩
        case measure => simp [intOf]; omega
    · obtain rfl : lo = hi := by omega
      go_wp2
      go_ret
      exact ⟨lo, rfl, hid ⟨hin, HI.out⟩, HB.out⟩

set_option maxRecDepth 100000 in
set_option maxHeartbeats 1000000 in
theorem agreed11_any (bm b bn bi B : Nat) (f : Int → Int) (A : Option Addr) (c : Nat) (L : List Int) (i : Nat) (hi : i < L.length) (x : Int) (hx : InInt x) (w : World)
    (hm : w.cell? ⟨bm, 0, none⟩ = some (.map (some b))) (hM : MapAt w b 2000 f) (hn : w.cell? ⟨bn, 0, none⟩ = some (.slice A L.length c)) (hL : IsInts w B A L) (hbi : w.cell? ⟨bi, 0, none⟩ = some (.int .i64 (i : Int))) :
    Calls Try.prog 45 #[.int .i64 x, .pointer (some ⟨bm, 0, none⟩), .pointer (some ⟨bn, 0, none⟩), .pointer (some ⟨bi, 0, none⟩)] w fun e w' => e = .returned (.bool (decide (L[i] ≤ f x))) ∧ Below w.heap.size w w' := by
  obtain ⟨ba, off, rfl, _, hcell⟩ := hL.cells i hi
  have hck := hcell i hi
  have hlook := fun j : Nat => (hM.keep (w' := w.drewN j) rfl).look hx
  have hi0 : (i : Int) < (L.length : Int) := by omega
  clear hcell hL hM
  generalize L[i] = v at *
  generalize f x = y at *
  go_enter Try.func45, Try.ntmps45
  go_wp2
  go_quiet (fail)
  go_wp2
  go_ret
  exact ⟨rfl, below_drewN (Below.refl _ _) _⟩

set_option maxRecDepth 100000 in
set_option maxHeartbeats 1000000 in
theorem agreed1_any (bc bm b bn B : Nat) (f : Int → Int) (cf : Qu.Cf) (hs : Short cf) (a0 a1 a2 : Option Addr) (k0 k1 k2 : Nat) (A : Option Addr) (c : Nat) (L : List Int) (i : Nat) (hi : i < L.length) (w : World)
    (h0 : w.cell? ⟨bc, 0, none⟩ = some (.slice a0 cf.old.length k0)) (h1 : w.cell? ⟨bc, 1, none⟩ = some (.slice a1 cf.new.length k1)) (h2 : w.cell? ⟨bc, 2, none⟩ = some (.slice a2 cf.lrn.length k2)) (hC : CIs w B cf a0 a1 a2 k0 k1 k2) (hB : B ≤ w.heap.size)
    (hm : w.cell? ⟨bm, 0, none⟩ = some (.map (some b))) (hM : MapAt w b 2000 f) (hn : w.cell? ⟨bn, 0, none⟩ = some (.slice A L.length c)) (hL : IsInts w w.heap.size A L) :
    Calls Try.prog 44 #[.int .i64 (i : Int), .pointer (some ⟨bc, 0, none⟩), .pointer (some ⟨bm, 0, none⟩), .pointer (some ⟨bn, 0, none⟩)] w fun e w' => e = .returned (.bool (!Qu.quo cf (fun x => decide (L[i] ≤ f x)))) ∧ Below w.heap.size w w' := by
  have hb : Below w.heap.size w (w.alloc (.cells #[.int .i64 (i : Int)] 3)) := (Below.refl _ _).alloc (Nat.le_refl _) _
  have hci : (w.alloc (.cells #[.int .i64 (i : Int)] 3)).cell? ⟨w.heap.size, 0, none⟩ = some (.int .i64 (i : Int)) := cell_of_row _ w.heap.size 0 _ _ _ (heap_alloc_new w _)
  have ht : Tells 45 #[.pointer (some ⟨bm, 0, none⟩), .pointer (some ⟨bn, 0, none⟩), .pointer (some ⟨w.heap.size, 0, none⟩)] (fun x => decide (L[i] ≤ f x)) (w.alloc (.cells #[.int .i64 (i : Int)] 3)) := fun x hx w2 hb2 => by
    have hb3 : Below w.heap.size w w2 := hb.trans (hb2.mono (by simp))
    exact agreed11_any bm b bn w.heap.size w.heap.size f A c L i hi x hx w2 ((hb3.cell (World.block_lt_of_cell? _ _ hm)).trans hm) (hM.below hb3 hM.lt) ((hb3.cell (World.block_lt_of_cell? _ _ hn)).trans hn) (hL.below hb3) ((hb2.cell (by simp)).trans hci)
  have HQ := hid (quorum_any _ _ _ _ ht (enters_of Try.func45 (by kernel_rfl) rfl) B cf hs a0 a1 a2 k0 k1 k2 _ (Below.refl _ _) (hC.below (hb.mono hB)) (by simp; omega))
  have HB := hid hb
  generalize Qu.quo cf (fun x => decide (L[i] ≤ f x)) = q at *
  have e0 : (w.alloc (.cells #[.int .i64 (i : Int)] 3)).cell? ⟨bc, 0, none⟩ = some (.slice a0 cf.old.length k0) := (hb.cell (World.block_lt_of_cell? _ _ h0)).trans h0
  have e1 : (w.alloc (.cells #[.int .i64 (i : Int)] 3)).cell? ⟨bc, 1, none⟩ = some (.slice a1 cf.new.length k1) := (hb.cell (World.block_lt_of_cell? _ _ h1)).trans h1
  have e2 : (w.alloc (.cells #[.int .i64 (i : Int)] 3)).cell? ⟨bc, 2, none⟩ = some (.slice a2 cf.lrn.length k2) := (hb.cell (World.block_lt_of_cell? _ _ h2)).trans h2
  clear ht hL hM hC hb hm hn hci h0 h1 h2
  go_enter Try.func44, Try.ntmps44
  go_wp2_with fail
  refine HQ.out.mono ?_
  rintro e w3 ⟨rfl, hb3⟩
  have HB3 := hid (HB.out.trans (hb3.mono (by simp)))
  clear hb3
  go_wp2
  go_ret
  exact ⟨rfl, HB3.out⟩

set_option maxRecDepth 100000 in
set_option maxHeartbeats 1000000 in
theorem agreed_any (B : Nat) (c : Qu.Cf) (hs0 : Short c) (a0 a1 a2 an ar : Option Addr) (k0 k1 k2 kn kr : Nat) (nodes reached : List Int) (hn0 : nodes.length ≤ 2000) (hr0 : reached.length ≤ 2000) (w : World) (h0 : CIs w B c a0 a1 a2 k0 k1 k2) (hN0 : IsInts w B an nodes) (hR0 : IsInts w B ar reached) (hB : B ≤ w.heap.size) :
    Calls Try.prog 25 #[.agg #[.slice a0 c.old.length k0, .slice a1 c.new.length k1, .slice a2 c.lrn.length k2], .slice an nodes.length kn, .slice ar reached.length kr] w fun e w' => ∃ r : Int, e = .returned (.int .i64 r) ∧ Qu.Agr c (nodes.zip reached) r ∧ Below w.heap.size w w' := by
  obtain ⟨wb, hwb⟩ : ∃ wb, wb = w.alloc (.cells #[.slice a0 c.old.length k0, .slice a1 c.new.length k1, .slice a2 c.lrn.length k2] 24) := ⟨_, rfl⟩
  have hbel : Below w.heap.size w wb := by rw [hwb]; exact (Below.refl _ _).alloc (Nat.le_refl _) _
  have hsz : wb.heap.size = w.heap.size + 1 := by rw [hwb]; simp
  have hrow : wb.heap[w.heap.size]? = some (.cells #[.slice a0 c.old.length k0, .slice a1 c.new.length k1, .slice a2 c.lrn.length k2] 24 (0, 0)) := by rw [hwb]; exact heap_alloc_new w _
  have c0 := hid (cell_of_row wb w.heap.size 0 _ _ _ hrow)
  have c1 := hid (cell_of_row wb w.heap.size 1 _ _ _ hrow)
  have c2 := hid (cell_of_row wb w.heap.size 2 _ _ _ hrow)
  have HB := hid hbel
  have HI := hid (h0.below (hbel.mono hB))
  have HGR := hid (greatestOf_any B an ar kn kr nodes reached hn0 hr0 wb (hN0.below (hbel.mono hB)) (hR0.below (hbel.mono hB)) (by omega))
  have hgi : ∀ x, InInt (Qu.great (nodes.zip reached) x) := fun x => by
    by_cases hg : 0 < Qu.great (nodes.zip reached) x
    · obtain ⟨p, hp, _, e⟩ := Qu.great_mem hg
      rw [← e]
      exact hR0.small _ (List.of_mem_zip hp).2
    · have := Qu.great_nonneg (nodes.zip reached) x
      rw [show Qu.great (nodes.zip reached) x = 0 by omega]
      exact ⟨by omega, by omega⟩
  have HGI := hid hgi
  have hs := hid hs0
  have HF := hid (And.intro hB hsz)
  obtain ⟨ps, hps⟩ : ∃ ps, ps = nodes.zip reached := ⟨_, rfl⟩
  rw [← hps] at HGR HGI ⊢
  clear hbel h0 hN0 hR0 hs0 hsz hrow hgi hps
  go_enter Try.func25, Try.ntmps25
  go_wp2_with fail
  rw [← hwb]; clear hwb
  refine HGR.out.mono ?_
  rintro e w1 ⟨rfl, hM, hb1⟩
  have HM := hid hM
  have HB1 := hid hb1
  clear hM hb1 HGR
  go_wp2_with fail
  obtain ⟨w2, hw2⟩ : ∃ w2, w2 = w1.alloc (.cells #[.map (some wb.heap.size)] 52) := ⟨_, rfl⟩
  have hb2 : Below w1.heap.size w1 w2 := by rw [hw2]; exact (Below.refl _ _).alloc (Nat.le_refl _) _
  have hsz2 : w2.heap.size = w1.heap.size + 1 := by rw [hw2]; simp
  have cm2 : w2.cell? ⟨w1.heap.size, 0, none⟩ = some (.map (some wb.heap.size)) := by rw [hw2]; exact cell_of_row _ w1.heap.size 0 _ _ _ (heap_alloc_new w1 _)
  rw [← hw2]; clear hw2
  refine (values_call (some wb.heap.size) w2).mono ?_
  rintro e w3 ⟨rfl, rfl⟩
  have hM2 : MapAt w2 wb.heap.size 2000 (Qu.great ps) := HM.out.below hb2 HM.out.lt
  have HS := hid (sortedGreat_call wb.heap.size (Qu.great ps) HGI.out w2 hM2)
  have HM2 := hid hM2
  have HB2 := hid (And.intro hb2 hsz2)
  have CM2 := hid cm2
  clear hb2 hsz2 cm2 hM2 HM
  go_wp2_with fail
  refine HS.out.mono ?_
  rintro e w4 ⟨A, cA, L, rfl, HL⟩
  clear HS
  have hLlen : L.length ≤ 2000 := HL.out.2.2.1
  go_wp2_with fail
  obtain ⟨w5, hw5⟩ : ∃ w5, w5 = w4.alloc (.cells #[.slice A L.length cA] 22) := ⟨_, rfl⟩
  have hb5 : Below w4.heap.size w4 w5 := by rw [hw5]; exact (Below.refl _ _).alloc (Nat.le_refl _) _
  have hsz5 : w5.heap.size = w4.heap.size + 1 := by rw [hw5]; simp
  have cn5 : w5.cell? ⟨w4.heap.size, 0, none⟩ = some (.slice A L.length cA) := by rw [hw5]; exact cell_of_row _ w4.heap.size 0 _ _ _ (heap_alloc_new w4 _)
  rw [← hw5]; clear hw5
  -- what stands in w5
  have hbL := HL.out.2.2.2.2
  have s1 := HB1.out.size
  have s2 := HB2.out.2
  have s4 := hbL.size
  have hF := HF.out
  have hb25 : Below w2.heap.size w2 w5 := bthen hbL hb5 s4
  have hb15 : Below w1.heap.size w1 w5 := bthen HB2.out.1 hb25 (by omega)
  have hbb5 : Below wb.heap.size wb w5 := bthen HB1.out hb15 s1
  have e0 : w5.cell? ⟨w.heap.size, 0, none⟩ = some (.slice a0 c.old.length k0) := (hbb5.cell (World.block_lt_of_cell? _ _ c0.out)).trans c0.out
  have e1 : w5.cell? ⟨w.heap.size, 1, none⟩ = some (.slice a1 c.new.length k1) := (hbb5.cell (World.block_lt_of_cell? _ _ c1.out)).trans c1.out
  have e2 : w5.cell? ⟨w.heap.size, 2, none⟩ = some (.slice a2 c.lrn.length k2) := (hbb5.cell (World.block_lt_of_cell? _ _ c2.out)).trans c2.out
  have em : w5.cell? ⟨w1.heap.size, 0, none⟩ = some (.map (some wb.heap.size)) := (hb25.cell (World.block_lt_of_cell? _ _ CM2.out)).trans CM2.out
  have hM5 : MapAt w5 wb.heap.size 2000 (Qu.great ps) := HM2.out.below hb25 HM2.out.lt
  have hL5 : IsInts w5 w5.heap.size A L := (HL.out.2.2.2.1.reads.below hb5).more (by omega)
  have hC5 : CIs w5 B c a0 a1 a2 k0 k1 k2 := HI.out.below (hbb5.mono (by omega))
  have hB5 : B ≤ w5.heap.size := by omega
  have HSR := hid (search_any 44 #[.pointer (some ⟨w.heap.size, 0, none⟩), .pointer (some ⟨w1.heap.size, 0, none⟩), .pointer (some ⟨w4.heap.size, 0, none⟩)] L.length (fun i => !Qu.quo c (fun x => decide (L[i]! ≤ Qu.great ps x))) w5
    (enters_of Try.func44 (by kernel_rfl) rfl) (by omega)
    (fun i hi w6 hb6 => by
      have := agreed1_any w.heap.size w1.heap.size wb.heap.size w4.heap.size B (Qu.great ps) c hs.out a0 a1 a2 k0 k1 k2 A cA L i hi w6 ((hb6.cell (World.block_lt_of_cell? _ _ e0)).trans e0) ((hb6.cell (World.block_lt_of_cell? _ _ e1)).trans e1) ((hb6.cell (World.block_lt_of_cell? _ _ e2)).trans e2) (hC5.below (hb6.mono hB5)) (Nat.le_trans hB5 hb6.size)
        ((hb6.cell (World.block_lt_of_cell? _ _ em)).trans em) (hM5.below hb6 hM5.lt) ((hb6.cell (World.block_lt_of_cell? _ _ cn5)).trans cn5) ((hL5.below hb6).more hb6.size)
      rw [getElem!_pos L i hi]
      exact this)
    (fun i j hij hj hp => by
      rw [Bool.not_eq_true'] at hp ⊢
      rw [← Bool.not_eq_true] at hp ⊢
      intro hq
      refine hp (Qu.quo_mono (fun x hx => ?_) hq)
      have hx := of_decide_eq_true hx
      refine decide_eq_true ?_
      rw [getElem!_pos L i (by omega)]
      rw [getElem!_pos L j hj] at hx
      rcases Nat.lt_or_eq_of_le hij with h | h
      · have := (List.pairwise_iff_getElem.1 HL.out.1) i j (by omega) hj h
        omega
      · subst h; exact hx))
  have CN5 := hid cn5
  have HL5 := hid hL5
  have HBF := hid (bthen HB.out hbb5 HB.out.size)
  clear hbL s1 s2 s4 hF hb25 hb15 hbb5 e0 e1 e2 em hM5 hL5 hC5 hB5 hb5 hsz5
  go_wp2_with fail
  refine HSR.out.mono ?_
  rintro e w6 ⟨m, rfl, HP, hb6⟩
  have hm := HP.out.1
  have HB6 := hid hb6
  have hag := Qu.agr_of (c := c) (ps := ps) (L := L) (n := m) HL.out.1 HL.out.2.1
    (fun i h hi => by
      have := HP.out.2.1 i hi
      rw [getElem!_pos L i h] at this
      simpa using this)
    (fun i h hi => by
      have := HP.out.2.2 i hi h
      rw [getElem!_pos L i h] at this
      simpa using this) hm
  by_cases h0 : 0 < m
  · rw [dif_pos h0] at hag
    have HAG := hid hag
    have hmb : ((m : Int) == 0) = false := by rw [beq_eq_false_iff_ne]; omega
    obtain ⟨b, off, rfl, hb, hcell⟩ := HL5.out.cells (m - 1) (by omega)
    have hck : w6.cell? ⟨b, off + (m - 1), none⟩ = some (.int .i64 L[m - 1]) := (hb6.cell (p := ⟨b, off + (m - 1), none⟩) hb).trans (hcell (m - 1) (by omega))
    have hcn : w6.cell? ⟨w4.heap.size, 0, none⟩ = some (.slice (some ⟨b, off, none⟩) L.length cA) := (hb6.cell (World.block_lt_of_cell? _ _ CN5.out)).trans CN5.out
    have hix : ((m : Int) - 1).toNat = m - 1 := by omega
    have hi0 : (0 : Int) ≤ (m : Int) - 1 := by omega
    have hi1 : (m : Int) - 1 < (L.length : Int) := by omega
    clear hcell hag hb6
    generalize L[m - 1] = v at *
    go_wp2
    go_ret
    exact ⟨v, rfl, HAG.out, bthen HBF.out HB6.out HBF.out.size⟩
  · rw [dif_neg h0] at hag
    have HAG := hid hag
    obtain rfl : m = 0 := by omega
    clear hag hb6
    go_wp2
    go_ret
    exact ⟨0, rfl, HAG.out, bthen HBF.out HB6.out HBF.out.size⟩
end Go.Proofs.Ytblhfbijffaacaa
