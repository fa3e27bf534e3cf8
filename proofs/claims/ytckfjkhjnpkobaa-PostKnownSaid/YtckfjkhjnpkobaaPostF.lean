/- The walks through the post's cutting and joining of ways. -/
import Derived.Test.YtckfjkhjnpkobaaPostE
namespace Go.Proofs.Ytckfjkhjnpkobaa
open Go.RowKit

theorem cellsL_one (y : Int × Int) : ∀ u ∈ cellsL y, u.oneCell' = true := by
  intro u hu
  simp [cellsL] at hu
  rcases hu with rfl | rfl <;> rfl
/-- one way more is cut -/
theorem PostIs.cutMore {w3 w6 : World} {F : Nat → Prop} {g N M : Nat} {L : List (Pl × Bool)} {A : Option Addr} {c : Nat} {C : List (Int × Int)} {A' : Option Addr} {c' : Nat} (h : PostIs w3 F g L A c C A' c') (hlen : C.length ≠ 64) (q : Int × Int)
    {G : Nat → Prop} {A6 : Option Addr} {c6 : Nat} (hrow : RowIn cellsL 2 66 w6 G A6 c6 (C ++ [q])) (hgr : Turned (fun k => blk A' = some k) w3 w6) (hat : blk A6 = blk A' ∨ blk A6 = some M) (hM : N ≤ M) :
    ∃ F', PostIs (w6.setCell ⟨g, 1, none⟩ (.slice A6 (C.length + 1) c6)) F' g L A c (C ++ [q]) A6 c6 ∧ Turned F w3 (w6.setCell ⟨g, 1, none⟩ (.slice A6 (C.length + 1) c6)) ∧ ∀ k, F' k → F k ∨ N ≤ k := by
  have e : C.length + 1 = (C ++ [q]).length := by simp
  have hl := h.cuts
  refine ⟨fun k => F k ∨ blk A6 = some k, ?_, ?_, ?_⟩
  · rw [e]
    refine h.setCut (S := fun k => blk A' = some k) hgr h.cut_ne (fun k hk e => h.row_cut hk e) (fun r hr k hk e => h.byt_cut e r hr hk) (fun k hk => .inl hk) ?_ (hrow.mono (fun k hk => .inr hk)) (by simp; omega)
    rintro k (hk | hk)
    · exact Nat.lt_of_lt_of_le (h.lt k hk) hgr.size
    · exact hrow.lt k hk
  · exact (hgr.mono (fun k hk => h.cut.blk k hk)).setCell g 1 _ (fun _ => h.has)
  · rintro k (hk | hk)
    · exact .inl hk
    · rcases hat with hat | hat
      · exact .inl (h.cut.blk k (by rw [← hat]; exact hk))
      · rw [hat] at hk; injection hk with hk; exact .inr (by omega)
/-- one way is joined again -/
theorem PostIs.cutLess {w1 w2 : World} {F : Nat → Prop} {g : Nat} {L : List (Pl × Bool)} {A : Option Addr} {c : Nat} {C : List (Int × Int)} {A' : Option Addr} {c' : Nat} (h : PostIs w1 F g L A c C A' c') (i : Nat) (hi : i < C.length)
    (hrow : RowIn cellsL 2 66 w2 F A' c' (C.eraseIdx i)) (ht : Turned (fun k => blk A' = some k) w1 w2) :
    PostIs (w2.setCell ⟨g, 1, none⟩ (.slice A' (C.length - 1) c')) F g L A c (C.eraseIdx i) A' c' ∧ Turned F w1 (w2.setCell ⟨g, 1, none⟩ (.slice A' (C.length - 1) c')) := by
  have e : C.length - 1 = (C.eraseIdx i).length := by rw [List.length_eraseIdx_of_lt hi]
  have hl := h.cuts
  refine ⟨?_, (ht.mono (fun k hk => h.cut.blk k hk)).setCell g 1 _ (fun _ => h.has)⟩
  rw [e]
  exact h.setCut (S := fun k => blk A' = some k) ht h.cut_ne (fun k hk e => h.row_cut hk e) (fun r hr k hk e => h.byt_cut e r hr hk) (fun k hk => hk) (fun k hk => Nat.lt_of_lt_of_le (h.lt k hk) ht.size) hrow (by omega)

set_option maxHeartbeats 1600000 in
set_option maxRecDepth 100000 in
theorem cut_any (F : Nat → Prop) (g : Nat) (s : Po.St) (a b : Int) (w : World) (h : PostAt w F g s) :
    Calls Try.prog 21 #[.pointer (some ⟨g, 0, none⟩), .int .i64 a, .int .i64 b] w fun e w' =>
      e = .returned (.int .i64 (Po.cutE s a b)) ∧ ∃ F', PostAt w' F' g (Po.cutS s a b) ∧ Step F F' w w' := by
  obtain ⟨i0, hi, hz0, hz1, hz2⟩ := info_parts info_link
  have HB := hid (between_any a b w)
  obtain ⟨L, A, c, A', c', hI, hs⟩ := h
  have hcl := hI.cuts
  obtain ⟨t, ht⟩ : ∃ t, t = Po.isCut s a b := ⟨_, rfl⟩
  have HT := hid ht
  have HI := hid (And.intro hI hs)
  clear hI hs ht
  go_enter Try.func21, Try.ntmps21
  go_wp2_with fail
  refine HB.out.mono ?_
  rintro e w2 ⟨rfl, hb2⟩
  obtain ⟨w3, hw3⟩ : ∃ w3, w3 = w2.alloc (.cells #[.int .i64 (Po.norm a b).1, .int .i64 (Po.norm a b).2] 66) := ⟨_, rfl⟩
  have hb3 : Below w.heap.size w w3 := by rw [hw3]; exact hb2.alloc hb2.size _
  have hI3 := HI.out.1.below hb3
  have x0 : w3.cell? ⟨w2.heap.size, 0, none⟩ = some (.int .i64 (Po.norm a b).1) := by rw [hw3]; simp
  have x1 : w3.cell? ⟨w2.heap.size, 1, none⟩ = some (.int .i64 (Po.norm a b).2) := by rw [hw3]; simp
  have hs3 : w3.heap.size = w2.heap.size + 1 := by rw [hw3]; simp
  have g1 := hI3.cell1
  have gf := hI3.frozen 1
  have hgl := hI3.lt g hI3.has
  have hgw := HI.out.1.lt g HI.out.1.has
  have hsz2 := hb2.size
  have H3 := hid (And.intro hI3 hb3)
  have HW3 := hid hw3
  clear hI3 hb3 hb2 hw3
  by_cases hab : a = b
  · have e1 : Hid (Po.cutE s a b = 3 ∧ Po.cutS s a b = s) := hid (by unfold Po.cutE Po.cutS; rw [if_pos hab, if_pos hab]; exact ⟨rfl, rfl⟩)
    subst hab
    go_wp2_with fail
    rw [← HW3.out]
    go_ret
    exact ⟨ret_int e1.out.1.symm, F, by rw [e1.out.2]; exact ⟨L, A, c, A', c', H3.out.1, HI.out.2⟩, Step.ofBelow F H3.out.2⟩
  · go_wp2_with fail
    rw [← HW3.out]
    have hsz : w2.heap.size < w3.heap.size := by omega
    have HK : Hid (∀ w', Below w3.heap.size w3 w' → w'.cell? ⟨g, 1, none⟩ = some (.slice A' s.c.length c') ∧ w'.cell? ⟨w2.heap.size, 0, none⟩ = some (.int .i64 (Po.norm a b).1) ∧ w'.cell? ⟨w2.heap.size, 1, none⟩ = some (.int .i64 (Po.norm a b).2)) := hid (fun w' hb => ⟨(hb.cell (p := ⟨g, 1, none⟩) hgl).trans g1, (hb.cell (p := ⟨w2.heap.size, 0, none⟩) hsz).trans x0, (hb.cell (p := ⟨w2.heap.size, 1, none⟩) hsz).trans x1⟩)
    have g1W : w3.drew.cell? ⟨g, 1, none⟩ = some (.slice A' s.c.length c') := g1
    have x0W : w3.drew.cell? ⟨w2.heap.size, 0, none⟩ = some (.int .i64 (Po.norm a b).1) := x0
    have x1W : w3.drew.cell? ⟨w2.heap.size, 1, none⟩ = some (.int .i64 (Po.norm a b).2) := x1
    go_region_held3 (fun w' => w'.cell? ⟨g, 1, none⟩ = some (.slice A' s.c.length c') ∧ w'.cell? ⟨w2.heap.size, 0, none⟩ = some (.int .i64 (Po.norm a b).1) ∧ w'.cell? ⟨w2.heap.size, 1, none⟩ = some (.int .i64 (Po.norm a b).2))
      (first | exact ⟨g1W, x0W, x1W⟩ | exact HK.out _ hb4)
      (first
        | (go_at_call 37; refine (contains_B F A' c' s.c.length s.c hcl rfl _ _ (Po.norm a b) rfl rfl t HT.out.symm _ (H3.out.1.cut.below ((Below.refl _ w3).drew))).mono ?_; rintro e w4 ⟨rfl, hb4'⟩; have hb4 := (Below.refl _ w3).drew.trans hb4'; clear hb4'))
    obtain ⟨g4, y0, y1⟩ := HK.out _ hb4
    have gf4 := (hb4.frozen (p := ⟨g, 1, none⟩) hgl).trans gf
    have hg4 : g < w4.heap.size := Nat.lt_of_lt_of_le hgl hb4.size
    have H4 : Hid (PostIs w4 F g L A c s.c A' c' ∧ Below w.heap.size w w4) := hid ⟨H3.out.1.below hb4, H3.out.2.trans (hb4.mono H3.out.2.size)⟩
    clear hb4 g1 gf x0 x1 g1W x0W x1W HK
    cases t
    · by_cases h64 : s.c.length = 64
      · have e1 : Hid (Po.cutE s a b = 17 ∧ Po.cutS s a b = s) := hid (by unfold Po.cutE Po.cutS; rw [if_neg hab, if_neg hab, ← HT.out, h64]; exact ⟨rfl, rfl⟩)
        rw [h64] at g4
        go_wp2_with fail
        go_ret
        exact ⟨ret_int e1.out.1.symm, F, by rw [e1.out.2]; exact ⟨L, A, c, A', c', H4.out.1, HI.out.2⟩, Step.ofBelow F H4.out.2⟩
      · have e1 : Hid (Po.cutE s a b = 0 ∧ Po.cutS s a b = { s with c := s.c ++ [Po.norm a b] }) := hid (by unfold Po.cutE Po.cutS; rw [if_neg hab, if_neg hab, ← HT.out, if_neg h64]; simp [h64])
        have h640 : (s.c.length : Int) ≠ 64 := by omega
        have HL := hid h64
        clear h64
        go_wp2_with fail
        have hrow : RowIn cellsL 2 66 (w4.drew.alloc (.cells #[.int .i64 (Po.norm a b).1, .int .i64 (Po.norm a b).2] 66)) F A' c' s.c :=
          H4.out.1.cut.below (((Below.refl _ w4).drew).alloc (Nat.le_refl _) _)
        have HRW := hid hrow
        clear hrow
        have hg4n : g ≠ w4.heap.size := by omega
        go_region_law ((refine step_append_row (by rfl) _ _ 54 (by rfl) i0 _ Try.underlying54 hi hz0 hz1 hz2 (by rfl) (by decide) HRW.out s.c.length rfl (by rfl) (Po.norm a b) ⟨w4.heap.size, 0, none⟩ 1 (by rfl) (fun k _ => cells_new w4.drew _ _ k) (cellsL_one _) (by omega) (by omega) ?_; intro A6 c6 w6 hrow6 hgr6 hat6; have hT6 := ((Turned.refl (fun k => blk A' = some k) w4).drew.alloc _).trans (Turned.ofGrown hgr6 (fun k hk => hk)); have hc6 := (hT6.cell (p := ⟨g, 1, none⟩) hg4 H4.out.1.cut_ne).trans g4; have hf6 := (World.frozen?_of_block (a := ⟨g, 1, none⟩) (hT6.block g hg4 H4.out.1.cut_ne)).trans (H4.out.1.frozen 1); have HT6 := hid hT6; clear hT6; have H6 := hid (And.intro hrow6 (And.intro hgr6 hat6)); clear hrow6 hgr6 hat6))
        all_goals
          (go_wp2_with fail
           go_ret
           obtain ⟨F', hP, hT, hN⟩ := PostIs.cutMore (N := w.heap.size) H4.out.1 HL.out (Po.norm a b) H6.out.1 HT6.out H6.out.2.2 (by have := H4.out.2.size; simp; omega)
           refine ⟨ret_int e1.out.1.symm, F', by rw [e1.out.2]; exact ⟨L, A, c, A6, c6, hP, HI.out.2⟩, ⟨(Turned.ofBelow F H4.out.2).then_ hT (fun k _ e => e), fun k hk => hN k hk⟩⟩)
    · have e1 : Hid (Po.cutE s a b = 7 ∧ Po.cutS s a b = s) := hid (by unfold Po.cutE Po.cutS; rw [if_neg hab, if_neg hab, ← HT.out]; exact ⟨rfl, rfl⟩)
      go_wp2_with fail
      go_ret
      exact ⟨ret_int e1.out.1.symm, F, by rw [e1.out.2]; exact ⟨L, A, c, A', c', H4.out.1, HI.out.2⟩, Step.ofBelow F H4.out.2⟩

theorem index_B (F : Nat → Prop) (A : Option Addr) (c n : Nat) (C : List (Int × Int)) (hl : C.length ≤ 64) (hn : C.length = n) (a b : Int) (x : Int × Int) (ha : x.1 = a) (hb : x.2 = b) (r : Int) (hr : Po.ixOf x C = r) (w : World) (h : RowIn cellsL 2 66 w F A c C) :
    Calls Try.prog 44 #[.slice A n c, .agg #[.int .i64 a, .int .i64 b]] w fun e w' => e = .returned (.int .i64 r) ∧ Below w.heap.size w w' := by
  subst hn ha hb hr
  exact index_any F A c C hl x w h

set_option maxHeartbeats 1600000 in
set_option maxRecDepth 100000 in
theorem join_any (F : Nat → Prop) (g : Nat) (s : Po.St) (a b : Int) (w : World) (h : PostAt w F g s) :
    Calls Try.prog 22 #[.pointer (some ⟨g, 0, none⟩), .int .i64 a, .int .i64 b] w fun e w' =>
      e = .returned (.int .i64 (Po.joinE s a b)) ∧ ∃ F', PostAt w' F' g (Po.joinS s a b) ∧ Step F F' w w' := by
  obtain ⟨L, A, c, A', c', hI, hs⟩ := h
  have hcl := hI.cuts
  have hgl := hI.lt g hI.has
  have g1 := hI.cell1
  obtain ⟨r, hr⟩ : ∃ r, r = Po.ixOf (Po.norm a b) s.c := ⟨_, rfl⟩
  have HR := hid hr
  have HI := hid (And.intro hI hs)
  clear hI hs hr
  have HK : Hid (∀ w', Below w.heap.size w w' → w'.cell? ⟨g, 1, none⟩ = some (.slice A' s.c.length c')) := hid (fun w' hb => (hb.cell (p := ⟨g, 1, none⟩) hgl).trans g1)
  have g1W : w.drew.cell? ⟨g, 1, none⟩ = some (.slice A' s.c.length c') := g1
  go_enter Try.func22, Try.ntmps22
  go_wp2_with fail
  go_region_held3 (fun w' => w'.cell? ⟨g, 1, none⟩ = some (.slice A' s.c.length c'))
    (first | exact g1W | exact HK.out _ hb2 | exact HK.out _ hb4)
    (first
      | (go_at_call 44; refine (index_B F A' c' s.c.length s.c hcl rfl _ _ (Po.norm a b) rfl rfl r HR.out.symm _ (HI.out.1.cut.below hb2)).mono ?_; rintro e w4 ⟨rfl, hb4'⟩; have hb4 := hb2.trans (hb4'.mono hb2.size); clear hb4')
      | (go_at_call 38; refine (between_any a b _).mono ?_; rintro e w2 ⟨rfl, hb2'⟩; have hb2 := (Below.refl _ w).drew.trans hb2'; clear hb2'))
  have g4 := HK.out _ hb4
  have hI4 := HI.out.1.below hb4
  have gf4 := hI4.frozen 1
  by_cases hin : Po.norm a b ∈ s.c
  · have hlt : s.c.idxOf (Po.norm a b) < s.c.length := List.idxOf_lt_length_iff.2 hin
    have e1 : Hid (Po.joinE s a b = 0 ∧ Po.joinS s a b = { s with c := s.c.eraseIdx (s.c.idxOf (Po.norm a b)) }) := hid (by unfold Po.joinE Po.joinS Po.isCut; rw [decide_eq_true hin]; exact ⟨rfl, rfl⟩)
    have hr := HR.out
    rw [Po.ixOf_in hin] at hr
    generalize s.c.idxOf (Po.norm a b) = j at hlt e1 hr
    subst hr
    have HD := hid (del_link cellsL_one w4 hI4.cut j hlt)
    have H4 : Hid (PostIs w4 F g L A c s.c A' c' ∧ Below w.heap.size w w4) := hid ⟨hI4, hb4⟩
    have hj0 : (0 : Int) ≤ (j : Int) := by omega
    have hg4 : g < w4.heap.size := Nat.lt_of_lt_of_le hgl hb4.size
    have hwr : IntKind.i64.wrap ((j : Int) + 1) = (j : Int) + 1 := by rw [IntKind.wrap_i64]; omega
    clear hI4 hb4 hin HK g1W g1
    go_wp2_with fail
    refine HD.out.mono ?_
    rintro e w5 ⟨rfl, hrow5, ht5⟩
    have g5 := (ht5.cell (p := ⟨g, 1, none⟩) hg4 H4.out.1.cut_ne).trans g4
    have gf5 := (World.frozen?_of_block (a := ⟨g, 1, none⟩) (ht5.block g hg4 H4.out.1.cut_ne)).trans gf4
    have H5 := hid (PostIs.cutLess H4.out.1 j hlt hrow5 ht5)
    clear hrow5 ht5 g4 gf4 HD
    go_wp2_with fail
    go_ret
    exact ⟨ret_int e1.out.1.symm, F, by rw [e1.out.2]; exact ⟨L, A, c, A', c', H5.out.1, HI.out.2⟩, ⟨(Turned.ofBelow F H4.out.2).then_ H5.out.2 (fun k _ e => e), fun k hk => .inl hk⟩⟩
  · have e1 : Hid (Po.joinE s a b = 6 ∧ Po.joinS s a b = s) := hid (by unfold Po.joinE Po.joinS Po.isCut; rw [decide_eq_false hin]; exact ⟨rfl, rfl⟩)
    have hr := HR.out
    rw [Po.ixOf_out hin] at hr
    subst hr
    have H4 : Hid (PostIs w4 F g L A c s.c A' c' ∧ Below w.heap.size w w4) := hid ⟨hI4, hb4⟩
    clear hI4 hb4 hin HK g1W g1
    go_wp2_with fail
    go_ret
    exact ⟨ret_int e1.out.1.symm, F, by rw [e1.out.2]; exact ⟨L, A, c, A', c', H4.out.1, HI.out.2⟩, Step.ofBelow F H4.out.2⟩
end Go.Proofs.Ytckfjkhjnpkobaa
