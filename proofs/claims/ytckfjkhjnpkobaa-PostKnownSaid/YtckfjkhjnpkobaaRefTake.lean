/- The walks through the document's post: taking. -/
import Derived.Test.YtckfjkhjnpkobaaRefCut
import Derived.Handy
namespace Go.Proofs.Ytckfjkhjnpkobaa
open Go.RowKit

/-- the two lists that a taking makes, so far -/
structure TakeTo (w wr : World) (L : List (Pl × Bool)) (n k m : Nat) (B1 : Option Addr) (d1 : Nat) (B2 : Option Addr) (d2 : Nat) : Prop where
  len : ((L.take k).eraseIdx n).length = m
  bel : Below w.heap.size w wr
  r1 : RowIn cellsP 3 42 wr (fun j => w.heap.size ≤ j) B1 d1 ((L.take k).eraseIdx n)
  r2 : RowIn cellsB 1 4 wr (fun j => w.heap.size ≤ j) B2 d2 ((L.take k).eraseIdx n)
theorem RefIs.taken {w2 wr : World} {F : Nat → Prop} {g : Nat} {L : List (Pl × Bool)} {A1 A2 A3 A4 B1 B2 : Option Addr} {c1 c2 c3 c4 d1 d2 m : Nat} {C : List (Int × Int)} (h : RefIs w2 F g L A1 c1 A2 c2 C A3 c3 A4 c4) (hb : Below w2.heap.size w2 wr) (i : Nat) (hi : i < L.length) (hm : (L.eraseIdx i).length = m)
    (r1 : RowIn cellsP 3 42 wr (fun j => w2.heap.size ≤ j) B1 d1 (L.eraseIdx i)) (r2 : RowIn cellsB 1 4 wr (fun j => w2.heap.size ≤ j) B2 d2 (L.eraseIdx i)) :
    ∃ F', RefIs ((wr.setCell ⟨g, 0, none⟩ (.slice B1 m d1)).setCell ⟨g, 1, none⟩ (.slice B2 m d2)) F' g (L.eraseIdx i) B1 d1 B2 d2 C A3 c3 A4 c4 ∧ Step F F' w2 ((wr.setCell ⟨g, 0, none⟩ (.slice B1 m d1)).setCell ⟨g, 1, none⟩ (.slice B2 m d2)) ∧
      OwnsB 5 ((wr.setCell ⟨g, 0, none⟩ (.slice B1 m d1)).setCell ⟨g, 1, none⟩ (.slice B2 m d2)) 0 L[i].1.A L[i].1.c L[i].1.p.d ∧ ∀ k, blk L[i].1.A = some k → F k := by
  subst hm
  have hr := h.below hb
  have hl := List.length_eraseIdx_le L i
  have hl2 := h.len
  have ht : Turned (fun k => k = g) wr ((wr.setCell ⟨g, 0, none⟩ (.slice B1 (L.eraseIdx i).length d1)).setCell ⟨g, 1, none⟩ (.slice B2 (L.eraseIdx i).length d2)) := Turned.two _ _ _ _ _ _
  refine ⟨fun k => F k ∨ blk B1 = some k ∨ blk B2 = some k, ?_, ⟨(Turned.ofBelow F hb).then_ ht (fun k _ e => by rw [e]; exact h.has), ?_⟩, (hr.byt.own _ (List.getElem_mem hi)).1.turned ht (fun k hk e => hr.neB _ (List.getElem_mem hi) (by rw [hk, e])), (h.byt.own _ (List.getElem_mem hi)).2.2⟩
  · refine RefIs.rebuilt ?_ (.inl h.has) _ (by simp [World.setCell, Array.getElem?_modify, hr.obj]) rfl ?_ ?_ ?_ ?_ h.ab ?_ (by omega) h.cuts
    · rintro k (hk | hk | hk)
      · exact Nat.lt_of_lt_of_le (hr.lt k hk) ht.size
      · exact Nat.lt_of_lt_of_le (r1.lt k hk) ht.size
      · exact Nat.lt_of_lt_of_le (r2.lt k hk) ht.size
    · exact (r1.keep ht (fun k hk e => r1.ne hr.obj (by decide) (by rw [hk, e]))).mono (fun k hk => .inr (.inl hk))
    · exact (r2.keep ht (fun k hk e => r2.ne hr.obj (by decide) (by rw [hk, e]))).mono (fun k hk => .inr (.inr hk))
    · exact (hr.ra.keep ht (fun k hk e => hr.ne3 (by rw [hk, e]))).mono (fun k hk => .inl (hr.ra.blk k hk))
    · exact (hr.rb.keep ht (fun k hk e => hr.ne4 (by rw [hk, e]))).mono (fun k hk => .inl (hr.rb.blk k hk))
    · exact ((hr.byt.erase i).keep ht (fun r hr' k hk e => hr.neB r (List.mem_of_mem_eraseIdx hr') (by rw [hk, e]))).mono (fun r hr' k hk => .inl ((hr.byt.own r (List.mem_of_mem_eraseIdx hr')).2.2 k hk))
  · rintro k (hk | hk | hk)
    · exact .inl hk
    · exact .inr (r1.blk k hk)
    · exact .inr (r2.blk k hk)

set_option maxHeartbeats 1600000 in
set_option maxRecDepth 100000 in
theorem refTake_no (F : Nat → Prop) (g : Nat) (s : Po.St) (i : Int) (w : World) (h : RefAt w F g s) (hi : Po.has s i = false) :
    Calls Try.prog 29 #[.pointer (some ⟨g, 0, none⟩), .int .i64 i] w fun e w' => e = .returned (.tuple #[.agg #[.int .i64 0, .int .i64 0, .slice none 0 0], .int .i64 6]) ∧ Below w.heap.size w w' := by
  obtain ⟨w1, hw1⟩ : ∃ w1, w1 = w.alloc (.cells #[.int .i64 0, .int .i64 0, .slice none 0 0] 42) := ⟨_, rfl⟩
  have hb1 : Below w.heap.size w w1 := by rw [hw1]; exact (Below.refl _ w).alloc (Nat.le_refl _) _
  have HH := hid (refThere_any F g s i w1 (h.below hb1))
  rw [hi, hw1] at HH
  clear h hi hb1 hw1
  go_enter Try.func29, Try.ntmps29
  go_wp2_with fail
  refine HH.out.mono ?_
  rintro e w2 ⟨rfl, rfl⟩
  go_wp2_with fail
  refine bodyPost_ret (by simp [results, Try.results29, go_sem]; try rfl) rfl ?_
  exact ⟨rfl, by go_grown⟩

set_option maxHeartbeats 3200000 in
set_option maxRecDepth 100000 in
theorem refTake_yes (F : Nat → Prop) (g : Nat) (s : Po.St) (n : Nat) (w : World) (h : RefAt w F g s) (hi : Po.has s n = true) :
    Calls Try.prog 29 #[.pointer (some ⟨g, 0, none⟩), .int .i64 (n : Int)] w fun e w' => ∃ A c, e = .returned (.tuple #[.agg #[.int .i64 (Po.pkt s n).1.a, .int .i64 (Po.pkt s n).1.b, .slice A (Po.pkt s n).1.d.length c], .int .i64 0]) ∧
      (∃ F', RefAt w' F' g (Po.del s n) ∧ Step F F' w w') ∧ OwnsB 5 w' 0 A c (Po.pkt s n).1.d ∧ ∀ k, blk A = some k → F k := by
  obtain ⟨i0, hi0, hz0, hz1, hz2⟩ := info_parts info_packet
  obtain ⟨j0, hj, hy0, hy1, hy2⟩ := info_parts info_bool
  obtain ⟨w1, hw1⟩ : ∃ w1, w1 = w.alloc (.cells #[.int .i64 0, .int .i64 0, .slice none 0 0] 42) := ⟨_, rfl⟩
  have hb1 : Below w.heap.size w w1 := by rw [hw1]; exact (Below.refl _ w).alloc (Nat.le_refl _) _
  have hs1 : w1.heap.size = w.heap.size + 1 := by rw [hw1]; simp
  have HH := hid (refThere_any F g s n w1 (h.below hb1))
  rw [hi] at HH
  obtain ⟨h0, h1⟩ := Po.has_iff.1 hi
  obtain ⟨L, A1, c1, A2, c2, C, A3, c3, A4, c4, hI, hs, hc⟩ := h
  have hl : s.l.length = L.length := by rw [hs, List.length_map]
  have hn : n < L.length := by omega
  have hL := hI.len
  have hpk := pkt_at hs n hn
  rw [hpk]
  have hdl : (Po.del s n).l = (L.eraseIdx n).map strip := by show s.l.eraseIdx n = _; rw [hs, List.eraseIdx_eq_take_drop_succ, List.eraseIdx_eq_take_drop_succ, List.map_append, List.map_take, List.map_drop]
  obtain ⟨w2, hw2⟩ : ∃ w2, w2 = w1.alloc (.cells #[.int .i64 L[n].1.p.a, .int .i64 L[n].1.p.b, .slice L[n].1.A L[n].1.p.d.length L[n].1.c] 42) := ⟨_, rfl⟩
  have hb2 : Below w.heap.size w w2 := by rw [hw2]; exact hb1.alloc hb1.size _
  have hs2 : w2.heap.size = w.heap.size + 2 := by rw [hw2]; simp [hs1]
  have hI1 := hI.below hb1
  obtain ⟨b, b', hA1, hA2, _, _, d0, d1, d2, d3, _, _, _, _⟩ := hI1.item n hn
  obtain ⟨g0, g1, _, _⟩ := hI1.cells
  have p0 : w2.cell? ⟨w.heap.size + 1, 0, none⟩ = some (.int .i64 L[n].1.p.a) := by rw [hw2]; simp [World.cell?_alloc_at, hs1]
  have p1 : w2.cell? ⟨w.heap.size + 1, 1, none⟩ = some (.int .i64 L[n].1.p.b) := by rw [hw2]; simp [World.cell?_alloc_at, hs1]
  have p2 : w2.cell? ⟨w.heap.size + 1, 2, none⟩ = some (.slice L[n].1.A L[n].1.p.d.length L[n].1.c) := by rw [hw2]; simp [World.cell?_alloc_at, hs1]
  have r0 : w2.cell? ⟨w.heap.size, 0, none⟩ = some (.int .i64 0) := by rw [hw2, World.cell?_alloc_past _ _ _ (by omega), hw1]; simp
  have r1 : w2.cell? ⟨w.heap.size, 1, none⟩ = some (.int .i64 0) := by rw [hw2, World.cell?_alloc_past _ _ _ (by omega), hw1]; simp
  have r2 : w2.cell? ⟨w.heap.size, 2, none⟩ = some (.slice none 0 0) := by rw [hw2, World.cell?_alloc_past _ _ _ (by omega), hw1]; simp
  have rf : ∀ k, w2.frozen? ⟨w.heap.size, k, none⟩ = false := fun k => by rw [hw2, World.frozen?_alloc_past _ _ _ (by omega), hw1]; simp
  have HB := hid (And.intro p0 (And.intro p1 (And.intro p2 (And.intro r0 (And.intro r1 (And.intro r2 rf))))))
  have HI := hid (And.intro (hI.below hb2) (And.intro hb2 (And.intro hdl (And.intro hc (And.intro hI.lt hs2)))))
  have hk00 : (n : Int) < (L.length : Int) := by omega
  have HN := hid hn
  have HW1 := hid hw1
  have HW2 := hid hw2
  rw [hA1] at g0
  clear hI hs hc hpk h1 hl hi hdl hb1 hb2 h0 hw1 hw2 p0 p1 p2 r0 r1 r2 rf hI1
  go_enter Try.func29, Try.ntmps29
  go_wp2_with fail
  rw [← HW1.out]
  refine HH.out.mono ?_
  rintro e w9 ⟨rfl, hw9⟩
  subst hw9
  go_wp2_with fail
  rw [← HW2.out]
  clear g0 g1 d0 d1 d2 d3
  go_loopw [7, 8, 9] (fun x y i wr => ∃ k m B1 d1 B2 d2, k ≤ L.length ∧ m ≤ k ∧ x = .slice B1 m d1 ∧ y = .slice B2 m d2 ∧ i = .int .i64 (k : Nat) ∧ Hid (TakeTo w2 wr L n k m B1 d1 B2 d2)) (fun _ _ i _ => L.length - (RowKit.intOf i).toNat)
  case atStart => exact ⟨0, 0, none, 0, none, 0, by omega, by omega, rfl, rfl, rfl, hid ⟨by simp, Below.refl _ _, RowIn.nil (f := cellsP) (fun _ => rfl) _ _ _, RowIn.nil (f := cellsB) (fun _ => rfl) _ _ _⟩⟩
  case round =>
    obtain ⟨k, m, B1, d1, B2, d2, hk, hmk, rfl, rfl, rfl, hS⟩ := hrel
    have hIr := HI.out.1.below hS.out.bel
    obtain ⟨g0, g1, _, _⟩ := hIr.cells
    by_cases hlt : k < L.length
    · have hk0 : (k : Int) < (L.length : Int) := by omega
      by_cases hkn : k = n
      · subst hkn
        have HS : Hid (TakeTo w2 wr L k (k + 1) m B1 d1 B2 d2) := hid (by
          have e := (erase_step L k k hlt).1 rfl
          exact ⟨by rw [e]; exact hS.out.len, hS.out.bel, by rw [e]; exact hS.out.r1, by rw [e]; exact hS.out.r2⟩)
        clear hIr hS
        go_wp2_with fail
        go_roundw
        case rel => exact ⟨k + 1, m, B1, d1, B2, d2, by omega, by omega, by go_num, by go_num, by go_num, HS⟩
        case measure => simp [RowKit.intOf]; omega
      · obtain ⟨e3, e4, hE3, hE4, hFe, hFe', d0, d1', d2', d3, _, _, _, _⟩ := hIr.item k hlt
        have hkn0 : ((k : Int) == (n : Int)) = false := by simp; omega
        have hkn1 : ((k : Int) != (n : Int)) = true := by simp; omega
        have hkn2 : ¬ (k : Int) = (n : Int) := by omega
        have HR1 := hid (hS.out.r1.below ((Below.refl _ wr).alloc (Nat.le_refl _) (.cells #[.int .i64 L[k].1.p.a, .int .i64 L[k].1.p.b, .slice L[k].1.A L[k].1.p.d.length L[k].1.c] 42)))
        have HSL := hid hS.out.len
        have HFE := hid (HI.out.1.lt e4 hFe')
        rw [hE3] at g0
        rw [hE4] at g1
        go_wp2_with (at_builtin; refine wpList_append_row (by rfl) _ _ 28 (by rfl) i0 _ Try.underlying28 hi0 hz0 hz1 hz2 (by rfl) (by decide) HR1.out m HSL.out (by rfl) L[k] ⟨wr.heap.size, 0, none⟩ 1 (by rfl) (fun k _ => cells_new wr _ _ k) (cellsP_one _) (by omega) (by omega) ?_)
        intro A6 c6 w6 hrow6 hgr6 hat6
        have hb6 : Below w2.heap.size wr w6 := (((Below.refl _ wr).alloc hS.out.bel.size _).grown hgr6 (by have := hS.out.bel.size; simp; omega) (fun j hj => hS.out.r1.blk j hj))
        have T6 : Turned (fun j => blk B1 = some j) wr w6 := ((Turned.refl (fun j => blk B1 = some j) wr).alloc _).trans (Turned.ofGrown hgr6 (fun k hk => hk))
        have hIs := HI.out.1.below (hS.out.bel.trans hb6)
        obtain ⟨_, g16, _, _⟩ := hIs.cells
        rw [hE4] at g16
        have d36 : w6.cell? ⟨e4, k, none⟩ = some (.bool L[k].2) := (hb6.cell (p := ⟨e4, k, none⟩) HFE.out).trans d3
        have hr26 := hS.out.r2.keep T6 (fun j hj e => by
          obtain ⟨cur, hc⟩ := hS.out.r1.tag e
          exact hS.out.r2.ne hc (by decide) hj)
        have hr16 := hrow6.mono (F' := fun j => w2.heap.size ≤ j) (fun j hj => (hrow6.blk j hj).elim (fun e => by have e2 : w2.heap.size ≤ j := (by first | exact e | (have := hs2; omega)); exact e2) (fun e => by have := hS.out.bel.size; omega))
        have HR2 := hid (hr26.below ((Below.refl _ w6).alloc (Nat.le_refl _) (.cells #[.bool L[k].2] 4)))
        have H6 := hid (And.intro hr16 (And.intro hr26 (hS.out.bel.trans hb6)))
        have hsz6 : Hid (w2.heap.size ≤ w6.heap.size) := hid (Nat.le_trans hS.out.bel.size T6.size)
        clear hrow6 hgr6 hat6 hb6 T6 hIs hIr hr26 hr16 HR1 g0 g1 d0 d1' d2' d3
        go_wp2_with (at_builtin; refine wpList_append_row (by rfl) _ _ 29 (by rfl) j0 _ Try.underlying29 hj hy0 hy1 hy2 (by rfl) (by decide) HR2.out m HSL.out (by rfl) L[k] ⟨w6.heap.size, 0, none⟩ 1 (by rfl) (fun k _ => cells_new w6 _ _ k) (cellsB_one _) (by omega) (by omega) ?_)
        intro A9 c9 w9' hrow9 hgr9 hat9
        have HS : Hid (TakeTo w2 w9' L n (k + 1) (m + 1) A6 c6 A9 c9) := hid (by
          have e := (erase_step L n k hlt).2 hkn
          have hbb : Below w2.heap.size w6 w9' := (((Below.refl _ w6).alloc hsz6.out _).grown hgr9 (by have := hsz6.out; simp; omega) (fun j hj => H6.out.2.1.blk j hj))
          have T9 : Turned (fun j => blk B2 = some j) w6 w9' := ((Turned.refl (fun j => blk B2 = some j) w6).alloc _).trans (Turned.ofGrown hgr9 (fun k hk => hk))
          refine ⟨by rw [e, List.length_append, HSL.out]; rfl, H6.out.2.2.trans hbb, ?_, ?_⟩
          · rw [e]
            exact H6.out.1.keep T9 (fun j hj e => by
              obtain ⟨cur, hc⟩ := H6.out.2.1.tag e
              exact H6.out.1.ne hc (by decide) hj)
          · rw [e]
            exact hrow9.mono (fun j hj => (hrow9.blk j hj).elim (fun e => by have e2 : w2.heap.size ≤ j := (by first | exact e | (have := hs2; omega)); exact e2) (fun e => by have := hsz6.out; omega)))
        clear hrow9 hgr9 hat9 H6 HR2 HSL hsz6 hS g16 d36 hkn0 hkn1 hkn2 hkn
        go_wp2_with fail
        go_roundw
        case rel => exact ⟨k + 1, m + 1, A6, c6, A9, c9, by omega, by omega, by go_num, by go_num, by go_num, HS⟩
        case measure => simp [RowKit.intOf]; omega
    · obtain rfl : k = L.length := by omega
      have hkk : ¬ (L.length : Int) < (L.length : Int) := by omega
      have HJ := hid (And.intro hS.out.len (And.intro hS.out.r1 hS.out.r2))
      rw [List.take_length] at HJ
      have HF := hid (RefIs.taken HI.out.1 hS.out.bel n HN.out HJ.out.1 HJ.out.2.1 HJ.out.2.2)
      have hbw := hS.out.bel
      have gf0 := hIr.frozen 0
      have gf1 := hIr.frozen 1
      obtain ⟨q0, q1, q2, s0, s1, s2, sf⟩ := HB.out
      have hs2 := HI.out.2.2.2.2.2
      have hgl := HI.out.2.2.2.2.1 g HI.out.1.has
      have q0' := (hbw.cell (p := ⟨w.heap.size + 1, 0, none⟩) (by show w.heap.size + 1 < _; omega)).trans q0
      have q1' := (hbw.cell (p := ⟨w.heap.size + 1, 1, none⟩) (by show w.heap.size + 1 < _; omega)).trans q1
      have q2' := (hbw.cell (p := ⟨w.heap.size + 1, 2, none⟩) (by show w.heap.size + 1 < _; omega)).trans q2
      have s0' := (hbw.cell (p := ⟨w.heap.size, 0, none⟩) (by show w.heap.size < _; omega)).trans s0
      have s1' := (hbw.cell (p := ⟨w.heap.size, 1, none⟩) (by show w.heap.size < _; omega)).trans s1
      have s2' := (hbw.cell (p := ⟨w.heap.size, 2, none⟩) (by show w.heap.size < _; omega)).trans s2
      have sf' : ∀ k, wr.frozen? ⟨w.heap.size, k, none⟩ = false := fun k => (hbw.frozen (p := ⟨w.heap.size, k, none⟩) (by show w.heap.size < _; omega)).trans (sf k)
      have hgn : g ≠ w.heap.size := by omega
      have hgn2 : g ≠ w.heap.size + 1 := by omega
      clear HJ hIr hS hlt hbw q0 q1 q2 s0 s1 s2 sf hs2
      go_wp2_with fail
      refine bodyPost_ret (by simp [results, Try.results29, go_sem, s0', s1', s2']; try rfl) rfl ?_
      obtain ⟨F', hP, hT, hO, hB⟩ := HF.out
      have h3 := Turned.three ((wr.setCell ⟨g, 0, none⟩ (.slice B1 m d1)).setCell ⟨g, 1, none⟩ (.slice B2 m d2)) w.heap.size 0 1 2 (.int .i64 L[n].1.p.a) (.int .i64 L[n].1.p.b) (.slice L[n].1.A L[n].1.p.d.length L[n].1.c)
      have hb2 := HI.out.2.1
      have hsz := HI.out.2.2.2.2.2
      have hnew : ∀ k, F' k → k = w.heap.size → False := fun k hk e => by
        rcases hT.new k hk with h | h
        · have := HI.out.2.2.2.2.1 k h; omega
        · omega
      refine ⟨L[n].1.A, L[n].1.c, rfl, ⟨F', ⟨L.eraseIdx n, B1, d1, B2, d2, C, A3, c3, A4, c4, hP.keep h3 (fun k hk e => hnew k hk e), HI.out.2.2.1, HI.out.2.2.2.1⟩, ⟨((Turned.ofBelow F hb2).then_ hT.turned (fun k _ e => e)).then_ h3 (fun k hk e => by omega), fun k hk => (hT.new k hk).imp id (fun e => by omega)⟩⟩, hO.turned h3 (fun k hk e => by have := HI.out.2.2.2.2.1 k (hB k hk); omega), hB⟩
end Go.Proofs.Ytckfjkhjnpkobaa
