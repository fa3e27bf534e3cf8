/- The walks through the document's post: cutting, joining. -/
import Derived.Test.YtckfjkhjnpkobaaRefSend
namespace Go.Proofs.Ytckfjkhjnpkobaa
open Go.RowKit

theorem RefIs.mid3 {w1 w6 : World} {F : Nat → Prop} {g : Nat} {L : List (Pl × Bool)} {A1 A2 A3 A4 A6 : Option Addr} {c1 c2 c3 c4 c6 n : Nat} {C : List (Int × Int)} (h : RefIs w1 F g L A1 c1 A2 c2 C A3 c3 A4 c4) (T1 : Turned (fun k => blk A3 = some k) w1 w6) :
    (w6.setCell ⟨g, 2, none⟩ (.slice A6 n c6)).cell? ⟨g, 3, none⟩ = some (.slice A4 C.length c4) ∧ (w6.setCell ⟨g, 2, none⟩ (.slice A6 n c6)).frozen? ⟨g, 3, none⟩ = false ∧ RowIn cells2 1 3 (w6.setCell ⟨g, 2, none⟩ (.slice A6 n c6)) F A4 c4 C ∧ g < (w6.setCell ⟨g, 2, none⟩ (.slice A6 n c6)).heap.size := by
  have ob6 : w6.heap[g]? = some (.cells #[.slice A1 L.length c1, .slice A2 L.length c2, .slice A3 C.length c3, .slice A4 C.length c4] 32 (0, 0)) := (T1.block g (h.lt g h.has) h.ne3).trans h.obj
  have ob7 : (w6.setCell ⟨g, 2, none⟩ (.slice A6 n c6)).heap[g]? = some (.cells #[.slice A1 L.length c1, .slice A2 L.length c2, .slice A6 n c6, .slice A4 C.length c4] 32 (0, 0)) := by simp [World.setCell, Array.getElem?_modify, ob6]
  have ht := h.rb.keep T1 (fun k hk e => h.ab k e hk)
  refine ⟨by simp [World.cell?, ob7], by simp [World.frozen?, ob7], ht.keep (Turned.one w6 g 2 _) (fun k hk e => h.ne4 (by rw [hk, e])), (Array.getElem?_eq_some_iff.1 ob7).1⟩

set_option maxHeartbeats 1600000 in
set_option maxRecDepth 100000 in
theorem refCut_any (F : Nat → Prop) (g : Nat) (s : Po.St) (a b : Int) (w : World) (h : RefAt w F g s) :
    Calls Try.prog 34 #[.pointer (some ⟨g, 0, none⟩), .int .i64 a, .int .i64 b] w fun e w' =>
      e = .returned (.int .i64 (Po.cutE s a b)) ∧ ∃ F', RefAt w' F' g (Po.cutS s a b) ∧ Step F F' w w' := by
  obtain ⟨j0, hj, hy0, hy1, hy2⟩ := info_parts info_int
  have HC := hid (cutting_any F g s a b w h)
  have HP := hid h
  by_cases hab : a = b
  · have e1 : Hid (Po.cutE s a b = 3 ∧ Po.cutS s a b = s) := hid (by unfold Po.cutE Po.cutS; rw [if_pos hab, if_pos hab]; exact ⟨rfl, rfl⟩)
    clear h
    subst hab
    go_enter Try.func34, Try.ntmps34
    go_wp2_with fail
    go_ret
    exact ⟨ret_int e1.out.1.symm, F, by rw [e1.out.2]; exact HP.out, Step.refl F _⟩
  · obtain ⟨r, hr⟩ : ∃ r, r = Po.ixOf (Po.norm a b) s.c := ⟨_, rfl⟩
    obtain ⟨hy, hn⟩ := ix_cut s a b
    rw [← hr] at HC hy hn
    rcases ht : Po.isCut s a b with _ | _
    · have hr2 := hn ht
      subst hr2
      clear hy hn hr
      obtain ⟨L, A1, c1, A2, c2, C, A3, c3, A4, c4, hI, hs, hc⟩ := h
      obtain ⟨_, _, g2, g3⟩ := hI.cells
      have hcl : s.c.length = C.length := by rw [hc]; unfold normed; rw [List.length_map]
      by_cases h64 : C.length = 64
      · have e1 : Hid (Po.cutE s a b = 17 ∧ Po.cutS s a b = s) := hid (by unfold Po.cutE Po.cutS; rw [if_neg hab, if_neg hab, ht, hcl, h64]; exact ⟨rfl, rfl⟩)
        rw [h64] at g2
        clear hI hs hc hcl ht
        go_enter Try.func34, Try.ntmps34
        go_wp2_with fail
        refine HC.out.mono ?_
        rintro e w2 ⟨rfl, hw2⟩
        subst hw2
        go_wp2_with fail
        go_ret
        exact ⟨ret_int e1.out.1.symm, F, by rw [e1.out.2]; exact HP.out, Step.refl F _⟩
      · have e1 : Hid (Po.cutE s a b = 0 ∧ Po.cutS s a b = { s with c := s.c ++ [Po.norm a b] }) := hid (by unfold Po.cutE Po.cutS; rw [if_neg hab, if_neg hab, ht, hcl, if_neg h64, if_neg h64]; exact ⟨rfl, rfl⟩)
        have hl := hI.cuts
        have hl0 : ¬ (64 : Int) ≤ (C.length : Int) := by omega
        have gf := hI.frozen 2
        have hgl := hI.lt g hI.has
        have hgn := Nat.ne_of_lt hgl
        have hr1 : RowIn cells1 1 3 (w.alloc (.cells #[.int .i64 a] 3)) F A3 c3 C := hI.ra.below ((Below.refl _ w).alloc (Nat.le_refl _) _)
        have HRW := hid hr1
        have HI := hid (And.intro hI (And.intro hs hc))
        have h65 : Hid (C.length < 64) := hid (by omega)
        clear hI hs hc hcl ht hr1
        go_enter Try.func34, Try.ntmps34
        go_wp2_with fail
        refine HC.out.mono ?_
        rintro e w2 ⟨rfl, hw2⟩
        subst hw2
        go_wp2_with (at_builtin; refine wpList_append_row (by rfl) _ _ 30 (by rfl) j0 _ Try.underlying30 hj hy0 hy1 hy2 (by rfl) (by decide) HRW.out C.length rfl (by rfl) (a, b) ⟨w2.heap.size, 0, none⟩ 1 (by rfl) (fun k _ => cells_new w2 _ _ k) (cells1_one _) (by omega) (by omega) ?_)
        intro A6 c6 w6 hrow6 hgr6 hat6
        have T1 := ((Turned.refl (fun k => blk A3 = some k) w2).alloc _).trans (Turned.ofGrown hgr6 (fun k hk => hk))
        have hc6 := (T1.cell (p := ⟨g, 2, none⟩) hgl HI.out.1.ne3).trans g2
        have hf6 := (World.frozen?_of_block (a := ⟨g, 2, none⟩) (T1.block g hgl HI.out.1.ne3)).trans gf
        obtain ⟨w7, hw7⟩ : ∃ w7, w7 = w6.setCell ⟨g, 2, none⟩ (.slice A6 (C.length + 1) c6) := ⟨_, rfl⟩
        have HM : Hid (w7.cell? ⟨g, 3, none⟩ = some (.slice A4 C.length c4) ∧ w7.frozen? ⟨g, 3, none⟩ = false ∧ RowIn cells2 1 3 w7 F A4 c4 C ∧ g < w7.heap.size) := hid (by rw [hw7]; exact HI.out.1.mid3 T1)
        have H6 := hid (And.intro T1 (And.intro hrow6 hat6))
        have HW7 := hid hw7
        have g37 := HM.out.1
        have gf7 := HM.out.2.1
        have hg7 := HM.out.2.2.2
        have hg7n := Nat.ne_of_lt hg7
        have HRW7 := hid (RowIn.below HM.out.2.2.1 ((Below.refl _ w7).alloc (Nat.le_refl _) (.cells #[.int .i64 b] 3)))
        rw [hw7] at HRW7 g37 gf7 hg7 hg7n
        clear T1 hrow6 hat6 hgr6 hw7
        go_wp2_with (at_builtin; refine wpList_append_row (by rfl) _ _ 30 (by rfl) j0 _ Try.underlying30 hj hy0 hy1 hy2 (by rfl) (by decide) HRW7.out C.length rfl (by rfl) (a, b) ⟨(w6.setCell ⟨g, 2, none⟩ (.slice A6 (C.length + 1) c6)).heap.size, 0, none⟩ 1 (by simp [Act.eval]) (fun k _ => cells_new (w6.setCell ⟨g, 2, none⟩ (.slice A6 (C.length + 1) c6)) _ _ k) (cells2_one _) (by omega) (by omega) ?_)
        intro A9 c9 w9 hrow9 hgr9 hat9
        rw [← HW7.out] at hgr9 hg7
        have T9 := ((Turned.refl (fun k => blk A4 = some k) w7).alloc _).trans (Turned.ofGrown hgr9 (fun k hk => hk))
        have hc9 := (T9.cell (p := ⟨g, 3, none⟩) hg7 HI.out.1.ne4).trans HM.out.1
        have hf9 := (World.frozen?_of_block (a := ⟨g, 3, none⟩) (T9.block g hg7 HI.out.1.ne4)).trans HM.out.2.1
        have H9 := hid (And.intro T9 (And.intro hrow9 hat9))
        clear T9 hrow9 hat9 hgr9 HRW7 HRW
        go_wp2_with fail
        go_ret
        obtain ⟨F', hP, hT, hN⟩ := RefIs.cutMore (N := w2.heap.size) HI.out.1 h65.out (a, b) HI.out.1.lt H6.out.1 H6.out.2.1 H6.out.2.2 (by simp) H6.out.1.size (by rw [← HW7.out]; exact H9.out.1) H9.out.2.1 H9.out.2.2 (by first | (simp; done) | (simp; omega) | omega)
        refine ⟨ret_int e1.out.1.symm, F', ?_, ⟨hT, hN⟩⟩
        rw [e1.out.2]
        refine ⟨L, A1, c1, A2, c2, C ++ [(a, b)], A6, c6, A9, c9, hP, HI.out.2.1, ?_⟩
        show s.c ++ [Po.norm a b] = _
        rw [HI.out.2.2]
        unfold normed
        rw [List.map_append]
        rfl
    · have hr2 := hy ht
      have e1 : Hid (Po.cutE s a b = 7 ∧ Po.cutS s a b = s) := hid (by unfold Po.cutE Po.cutS; rw [if_neg hab, if_neg hab, ht]; exact ⟨rfl, rfl⟩)
      clear h hy hn hr ht
      go_enter Try.func34, Try.ntmps34
      go_wp2_with fail
      refine HC.out.mono ?_
      rintro e w2 ⟨rfl, hw2⟩
      subst hw2
      go_wp2_with fail
      go_ret
      exact ⟨ret_int e1.out.1.symm, F, by rw [e1.out.2]; exact HP.out, Step.refl F _⟩

theorem erase_step {α : Type} (L : List α) (n k : Nat) (hk : k < L.length) : (k = n → (L.take (k + 1)).eraseIdx n = (L.take k).eraseIdx n) ∧ (k ≠ n → (L.take (k + 1)).eraseIdx n = (L.take k).eraseIdx n ++ [L[k]]) := by
  have hl : (L.take k).length = k := by rw [List.length_take]; omega
  rw [List.take_succ_eq_append_getElem hk]
  refine ⟨fun e => ?_, fun e => ?_⟩
  · subst e
    rw [List.eraseIdx_append_of_length_le (by omega), hl, Nat.sub_self, List.eraseIdx_of_length_le (l := L.take k) (by omega)]
    simp
  · by_cases h : n < k
    · rw [List.eraseIdx_append_of_lt_length (by omega)]
    · rw [List.eraseIdx_append_of_length_le (by omega), hl, List.eraseIdx_of_length_le (l := [L[k]]) (by simp; omega), List.eraseIdx_of_length_le (l := L.take k) (by omega)]
theorem erase_le {α : Type} (L : List α) (n k : Nat) : ((L.take k).eraseIdx n).length ≤ k := by
  have := List.length_eraseIdx_le (L.take k) n
  rw [List.length_take] at this
  omega
/-- the two lists that a joining makes, so far -/
structure JoinTo (w wr : World) (C : List (Int × Int)) (n k m : Nat) (B1 : Option Addr) (d1 : Nat) (B2 : Option Addr) (d2 : Nat) : Prop where
  len : ((C.take k).eraseIdx n).length = m
  bel : Below w.heap.size w wr
  r1 : RowIn cells1 1 3 wr (fun j => w.heap.size ≤ j) B1 d1 ((C.take k).eraseIdx n)
  r2 : RowIn cells2 1 3 wr (fun j => w.heap.size ≤ j) B2 d2 ((C.take k).eraseIdx n)
  ab : ∀ j, blk B1 = some j → blk B2 ≠ some j

theorem RefIs.cutLess {w2 wr : World} {F : Nat → Prop} {g : Nat} {L : List (Pl × Bool)} {A1 A2 A3 A4 B1 B2 : Option Addr} {c1 c2 c3 c4 d1 d2 m : Nat} {C C' : List (Int × Int)} (h : RefIs w2 F g L A1 c1 A2 c2 C A3 c3 A4 c4) (hb : Below w2.heap.size w2 wr) (hm : C'.length = m) (hl : C'.length ≤ 64)
    (r1 : RowIn cells1 1 3 wr (fun j => w2.heap.size ≤ j) B1 d1 C') (r2 : RowIn cells2 1 3 wr (fun j => w2.heap.size ≤ j) B2 d2 C') (ab : ∀ j, blk B1 = some j → blk B2 ≠ some j) :
    ∃ F', RefIs ((wr.setCell ⟨g, 2, none⟩ (.slice B1 m d1)).setCell ⟨g, 3, none⟩ (.slice B2 m d2)) F' g L A1 c1 A2 c2 C' B1 d1 B2 d2 ∧ Step F F' w2 ((wr.setCell ⟨g, 2, none⟩ (.slice B1 m d1)).setCell ⟨g, 3, none⟩ (.slice B2 m d2)) := by
  subst hm
  have hr := h.below hb
  have ht : Turned (fun k => k = g) wr ((wr.setCell ⟨g, 2, none⟩ (.slice B1 C'.length d1)).setCell ⟨g, 3, none⟩ (.slice B2 C'.length d2)) := Turned.two _ _ _ _ _ _
  refine ⟨fun k => F k ∨ blk B1 = some k ∨ blk B2 = some k, ?_, ⟨(Turned.ofBelow F hb).then_ ht (fun k _ e => by rw [e]; exact h.has), ?_⟩⟩
  · refine RefIs.rebuilt ?_ (.inl h.has) _ (by simp [World.setCell, Array.getElem?_modify, hr.obj]) rfl ?_ ?_ ?_ ?_ ab ?_ h.len hl
    · rintro k (hk | hk | hk)
      · exact Nat.lt_of_lt_of_le (hr.lt k hk) ht.size
      · exact Nat.lt_of_lt_of_le (r1.lt k hk) ht.size
      · exact Nat.lt_of_lt_of_le (r2.lt k hk) ht.size
    · exact (hr.row.keep ht (fun k hk e => hr.ne1 (by rw [hk, e]))).mono (fun k hk => .inl (hr.row.blk k hk))
    · exact (hr.tur.keep ht (fun k hk e => hr.ne2 (by rw [hk, e]))).mono (fun k hk => .inl (hr.tur.blk k hk))
    · exact (r1.keep ht (fun k hk e => r1.ne hr.obj (by decide) (by rw [hk, e]))).mono (fun k hk => .inr (.inl hk))
    · exact (r2.keep ht (fun k hk e => r2.ne hr.obj (by decide) (by rw [hk, e]))).mono (fun k hk => .inr (.inr hk))
    · exact (hr.byt.keep ht (fun r hr' k hk e => hr.neB r hr' (by rw [hk, e]))).mono (fun r hr' k hk => .inl ((hr.byt.own r hr').2.2 k hk))
  · rintro k (hk | hk | hk)
    · exact .inl hk
    · exact .inr (r1.blk k hk)
    · exact .inr (r2.blk k hk)

set_option maxHeartbeats 1600000 in
set_option maxRecDepth 100000 in
theorem refJoin_any (F : Nat → Prop) (g : Nat) (s : Po.St) (a b : Int) (w : World) (h : RefAt w F g s) :
    Calls Try.prog 35 #[.pointer (some ⟨g, 0, none⟩), .int .i64 a, .int .i64 b] w fun e w' =>
      e = .returned (.int .i64 (Po.joinE s a b)) ∧ ∃ F', RefAt w' F' g (Po.joinS s a b) ∧ Step F F' w w' := by
  obtain ⟨j0, hj, hy0, hy1, hy2⟩ := info_parts info_int
  have HC := hid (cutting_any F g s a b w h)
  have HP := hid h
  obtain ⟨r, hr⟩ : ∃ r, r = Po.ixOf (Po.norm a b) s.c := ⟨_, rfl⟩
  rcases ht : Po.isCut s a b with _ | _
  · have e1 : Hid (Po.joinE s a b = 6 ∧ Po.joinS s a b = s) := hid (by unfold Po.joinE Po.joinS; rw [ht]; exact ⟨rfl, rfl⟩)
    rw [(ix_cut s a b).2 ht] at HC
    clear h ht hr
    go_enter Try.func35, Try.ntmps35
    go_wp2_with fail
    refine HC.out.mono ?_
    rintro e w2 ⟨rfl, hw2⟩
    subst hw2
    go_wp2_with fail
    go_ret
    exact ⟨ret_int e1.out.1.symm, F, by rw [e1.out.2]; exact HP.out, Step.refl F _⟩
  · have hin := (show Po.norm a b ∈ s.c by unfold Po.isCut at ht; simpa using ht)
    have e1 : Hid (Po.joinE s a b = 0 ∧ Po.joinS s a b = { s with c := s.c.eraseIdx (s.c.idxOf (Po.norm a b)) }) := hid (by unfold Po.joinE Po.joinS; rw [ht]; exact ⟨rfl, rfl⟩)
    have hlt : s.c.idxOf (Po.norm a b) < s.c.length := List.idxOf_lt_length_iff.2 hin
    rw [Po.ixOf_in hin] at HC
    generalize s.c.idxOf (Po.norm a b) = n at hlt e1 HC
    obtain ⟨L, A1, c1, A2, c2, C, A3, c3, A4, c4, hI, hs, hc⟩ := h
    obtain ⟨_, _, g2, g3⟩ := hI.cells
    have hcl : s.c.length = C.length := by rw [hc]; unfold normed; rw [List.length_map]
    rw [hcl] at hlt
    have hl := hI.cuts
    have hn0 : (0 : Int) ≤ (n : Int) := by omega
    have HI := hid (And.intro hI (And.intro hs hc))
    have HN := hid hlt
    clear hI hs hc hcl ht hr hin hlt
    go_enter Try.func35, Try.ntmps35
    go_wp2_with fail
    refine HC.out.mono ?_
    rintro e w2 ⟨rfl, hw2⟩
    subst hw2
    go_wp2_with fail
    go_loopw [8, 9, 10] (fun x y i wr => ∃ k m B1 d1 B2 d2, k ≤ C.length ∧ m ≤ k ∧ x = .slice B1 m d1 ∧ y = .slice B2 m d2 ∧ i = .int .i64 (k : Nat) ∧ Hid (JoinTo w2 wr C n k m B1 d1 B2 d2)) (fun _ _ i _ => C.length - (RowKit.intOf i).toNat)
    case atStart => exact ⟨0, 0, none, 0, none, 0, by omega, by omega, rfl, rfl, rfl, hid ⟨by simp, Below.refl _ _, RowIn.nil (f := cells1) (fun _ => rfl) _ _ _, RowIn.nil (f := cells2) (fun _ => rfl) _ _ _, fun _ h => by cases h⟩⟩
    case round =>
      clear g2 g3
      obtain ⟨k, m, B1, d1, B2, d2, hk, hmk, rfl, rfl, rfl, hS⟩ := hrel
      have hIr := HI.out.1.below hS.out.bel
      obtain ⟨_, _, g2, g3⟩ := hIr.cells
      by_cases hlt : k < C.length
      · have hk0 : (k : Int) < (C.length : Int) := by omega
        by_cases hkn : k = n
        · subst hkn
          have HS : Hid (JoinTo w2 wr C k (k + 1) m B1 d1 B2 d2) := hid (by
            have e := (erase_step C k k hlt).1 rfl
            exact ⟨by rw [e]; exact hS.out.len, hS.out.bel, by rw [e]; exact hS.out.r1, by rw [e]; exact hS.out.r2, hS.out.ab⟩)
          clear hIr hS
          go_wp2_with fail
          go_roundw
          case rel => exact ⟨k + 1, m, B1, d1, B2, d2, by omega, by omega, by go_num, by go_num, by go_num, HS⟩
          case measure => simp [RowKit.intOf]; omega
        · obtain ⟨b3, rfl, _, _, hc3, _⟩ := hIr.ra.get k hlt
          obtain ⟨b4, rfl, _, _, hc4, _⟩ := hIr.rb.get k hlt
          have d3 := hc3 0 (by omega)
          have d4 := hc4 0 (by omega)
          rw [Nat.mul_one, Nat.add_zero] at d3 d4
          have d3' : wr.cell? ⟨b3, k, none⟩ = some (.int .i64 C[k].1) := d3
          have d4' : wr.cell? ⟨b4, k, none⟩ = some (.int .i64 C[k].2) := d4
          have hkn0 : ((k : Int) == (n : Int)) = false := by simp; omega
          have hkn1 : ((k : Int) != (n : Int)) = true := by simp; omega
          have hkn2 : ¬ (k : Int) = (n : Int) := by omega
          have HR1 := hid (hS.out.r1.below ((Below.refl _ wr).alloc (Nat.le_refl _) (.cells #[.int .i64 C[k].1] 3)))
          have HSL := hid hS.out.len
          clear hc3 hc4 d3 d4
          go_wp2_with (at_builtin; refine wpList_append_row (by rfl) _ _ 30 (by rfl) j0 _ Try.underlying30 hj hy0 hy1 hy2 (by rfl) (by decide) HR1.out m HSL.out (by rfl) C[k] ⟨wr.heap.size, 0, none⟩ 1 (by rfl) (fun k _ => cells_new wr _ _ k) (cells1_one _) (by omega) (by omega) ?_)
          intro A6 c6 w6 hrow6 hgr6 hat6
          have hb6 : Below w2.heap.size wr w6 := (((Below.refl _ wr).alloc hS.out.bel.size _).grown hgr6 (by have := hS.out.bel.size; simp; omega) (fun j hj => hS.out.r1.blk j hj))
          have T6 : Turned (fun j => blk B1 = some j) wr w6 := ((Turned.refl (fun j => blk B1 = some j) wr).alloc _).trans (Turned.ofGrown hgr6 (fun k hk => hk))
          have hIs := HI.out.1.below (hS.out.bel.trans hb6)
          obtain ⟨_, _, g26, g36⟩ := hIs.cells
          have d46 : w6.cell? ⟨b4, k, none⟩ = some (.int .i64 C[k].2) := (T6.cell (p := ⟨b4, k, none⟩) (hIr.rb.lt b4 rfl) (fun e => by
            have h1 := hS.out.r1.blk b4 e
            have h2 := HI.out.1.lt b4 (HI.out.1.rb.blk b4 rfl)
            omega)).trans d4'
          have hr26 := hS.out.r2.keep T6 (fun j hj e => hS.out.ab j e hj)
          have hab6 : ∀ j, blk A6 = some j → blk B2 ≠ some j := fun j hj e => by
            rcases hat6 with hat6 | hat6
            · exact hS.out.ab j (by rw [← hat6]; exact hj) e
            · rw [hat6] at hj
              have hj : wr.heap.size + 1 = j := by injection hj
              have := hS.out.r2.lt j e
              omega
          have hr16 := hrow6.mono (F' := fun j => w2.heap.size ≤ j) (fun j hj => (hrow6.blk j hj).elim id (fun e => by have := hS.out.bel.size; omega))
          have HR2 := hid (hr26.below ((Below.refl _ w6).alloc (Nat.le_refl _) (.cells #[.int .i64 C[k].2] 3)))
          have H6 := hid (And.intro hr16 (And.intro hr26 (And.intro hab6 (hS.out.bel.trans hb6))))
          have hsz6 : Hid (w2.heap.size ≤ w6.heap.size) := hid (Nat.le_trans hS.out.bel.size T6.size)
          clear hrow6 hgr6 hat6 hb6 T6 hIs hIr hr26 hab6 hr16 HR1 g2 g3 d3' d4'
          go_wp2_with (at_builtin; refine wpList_append_row (by rfl) _ _ 30 (by rfl) j0 _ Try.underlying30 hj hy0 hy1 hy2 (by rfl) (by decide) HR2.out m HSL.out (by rfl) C[k] ⟨w6.heap.size, 0, none⟩ 1 (by rfl) (fun k _ => cells_new w6 _ _ k) (cells2_one _) (by omega) (by omega) ?_)
          intro A9 c9 w9 hrow9 hgr9 hat9
          have HS : Hid (JoinTo w2 w9 C n (k + 1) (m + 1) A6 c6 A9 c9) := hid (by
            have e := (erase_step C n k hlt).2 hkn
            have hbb : Below w2.heap.size w6 w9 := (((Below.refl _ w6).alloc hsz6.out _).grown hgr9 (by have := hsz6.out; simp; omega) (fun j hj => H6.out.2.1.blk j hj))
            have T9 : Turned (fun j => blk B2 = some j) w6 w9 := ((Turned.refl (fun j => blk B2 = some j) w6).alloc _).trans (Turned.ofGrown hgr9 (fun k hk => hk))
            refine ⟨by rw [e, List.length_append, HSL.out]; rfl, H6.out.2.2.2.trans hbb, ?_, ?_, fun j hj e9 => ?_⟩
            · rw [e]
              exact H6.out.1.keep T9 (fun j hj e => H6.out.2.2.1 j hj e)
            · rw [e]
              exact hrow9.mono (fun j hj => (hrow9.blk j hj).elim id (fun e => by have := hsz6.out; omega))
            · rcases hat9 with hat9 | hat9
              · exact H6.out.2.2.1 j hj (by rw [← hat9]; exact e9)
              · rw [hat9] at e9
                have e9 : w6.heap.size + 1 = j := by injection e9
                have := H6.out.1.lt j hj
                omega)
          clear hrow9 hgr9 hat9 H6 HR2 HSL hsz6 hS g26 g36 d46 hkn0 hkn1 hkn2 hkn
          go_wp2_with fail
          go_roundw
          case rel => exact ⟨k + 1, m + 1, A6, c6, A9, c9, by omega, by omega, by go_num, by go_num, by go_num, HS⟩
          case measure => simp [RowKit.intOf]; omega
      · obtain rfl : k = C.length := by omega
        have hkk : ¬ (C.length : Int) < (C.length : Int) := by omega
        have HJ := hid (And.intro hS.out.len (And.intro hS.out.r1 hS.out.r2))
        rw [List.take_length] at HJ
        have hle : (C.eraseIdx n).length ≤ 64 := Nat.le_trans (List.length_eraseIdx_le C n) hl
        have HF := hid (RefIs.cutLess HI.out.1 hS.out.bel HJ.out.1 hle HJ.out.2.1 HJ.out.2.2 hS.out.ab)
        have gf2 := hIr.frozen 2
        have gf3 := hIr.frozen 3
        clear HJ hIr hS hlt hle
        go_wp2_with fail
        go_ret
        obtain ⟨F', hP, hT⟩ := HF.out
        refine ⟨ret_int e1.out.1.symm, F', ?_, hT⟩
        rw [e1.out.2]
        refine ⟨L, A1, c1, A2, c2, C.eraseIdx n, B1, d1, B2, d2, hP, HI.out.2.1, ?_⟩
        show s.c.eraseIdx n = _
        rw [HI.out.2.2]
        unfold normed
        rw [List.eraseIdx_eq_take_drop_succ, List.eraseIdx_eq_take_drop_succ, List.map_append, List.map_take, List.map_drop]
end Go.Proofs.Ytckfjkhjnpkobaa
