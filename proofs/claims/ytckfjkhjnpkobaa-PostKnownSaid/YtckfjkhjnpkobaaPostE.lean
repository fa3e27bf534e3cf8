/- The walks through the post's taking, losing. -/
import Derived.Test.YtckfjkhjnpkobaaPostD
namespace Go.Proofs.Ytckfjkhjnpkobaa
open Go.RowKit

/-- one of them is taken out -/
theorem PostIs.taken {w w1 w2 : World} {F : Nat → Prop} {g : Nat} {L : List (Pl × Bool)} {A : Option Addr} {c : Nat} {C : List (Int × Int)} {A' : Option Addr} {c' : Nat} (h : PostIs w1 F g L A c C A' c') (i : Nat) (hi : i < L.length)
    (hrow : RowIn cellsT 4 62 w2 F A c (L.eraseIdx i)) (ht : Turned (fun k => blk A = some k) w1 w2) (hw : Turned F w w1) :
    ∃ F' : Nat → Prop, PostIs (w2.setCell ⟨g, 0, none⟩ (.slice A (L.length - 1) c)) F' g (L.eraseIdx i) A c C A' c' ∧ Turned F w (w2.setCell ⟨g, 0, none⟩ (.slice A (L.length - 1) c)) ∧ (∀ k, F' k → F k) ∧ (∀ k, blk L[i].1.A = some k → F k ∧ ¬ F' k) ∧ OwnsB 5 (w2.setCell ⟨g, 0, none⟩ (.slice A (L.length - 1) c)) 0 L[i].1.A L[i].1.c L[i].1.p.d := by
  have e : L.length - 1 = (L.eraseIdx i).length := by rw [List.length_eraseIdx_of_lt hi]
  have hl := h.len
  refine ⟨fun k => F k ∧ blk L[i].1.A ≠ some k, ?_, ?_, fun k hk => hk.1, fun k hk => ⟨(h.byt.own _ (List.getElem_mem hi)).2.2 k hk, fun e => e.2 hk⟩,
    ((h.byt.own _ (List.getElem_mem hi)).1.turned ht (fun k hk e => h.byt_row e _ (List.getElem_mem hi) hk)).turned (Turned.one w2 g 0 _) (fun k hk e => h.byt_ne _ (List.getElem_mem hi) (by rw [hk, e]))⟩
  · rw [e]
    refine h.setList (S := fun k => blk A = some k) ht h.row_ne (fun k hk e => h.row_cut e hk) ⟨⟨h.has, fun e => h.byt_ne _ (List.getElem_mem hi) e⟩, fun k hk => ⟨h.cut.blk k hk, fun e => h.byt_cut hk _ (List.getElem_mem hi) e⟩⟩ (fun k hk => Nat.lt_of_lt_of_le (h.lt k hk.1) ht.size) (hrow.mono (fun k hk => ⟨hrow.blk k hk, fun e => h.byt_row hk _ (List.getElem_mem hi) e⟩)) ?_ (by omega)
    exact (((h.byt.erase i).keep ht (fun q hq k hk e => h.byt_row e q (List.mem_of_mem_eraseIdx hq) hk)).mono (fun q hq k hk => ⟨(h.byt.own q (List.mem_of_mem_eraseIdx hq)).2.2 k hk, fun e => h.byt.erase_ne i hi e q hq hk⟩))
  · exact (hw.then_ (ht.mono (fun k hk => h.row.blk k hk)) (fun k _ e => e)).setCell g 0 _ (fun _ => h.has)

set_option maxHeartbeats 1600000 in
set_option maxRecDepth 100000 in
theorem take_no (F : Nat → Prop) (g : Nat) (s : Po.St) (i : Int) (w : World) (h : PostAt w F g s) (hi : Po.has s i = false) :
    Calls Try.prog 17 #[.pointer (some ⟨g, 0, none⟩), .int .i64 i] w fun e w' => e = .returned (.tuple #[.agg #[.int .i64 0, .int .i64 0, .slice none 0 0], .int .i64 6]) ∧ Below w.heap.size w w' := by
  obtain ⟨w1, hw1⟩ : ∃ w1, w1 = w.alloc (.cells #[.int .i64 0, .int .i64 0, .slice none 0 0] 42) := ⟨_, rfl⟩
  have hb1 : Below w.heap.size w w1 := by rw [hw1]; exact (Below.refl _ w).alloc (Nat.le_refl _) _
  have HH := hid (has_any F g s i w1 (h.below hb1))
  rw [hi, hw1] at HH
  clear h hi hb1 hw1
  go_enter Try.func17, Try.ntmps17
  go_wp2_with fail
  refine HH.out.mono ?_
  rintro e w2 ⟨rfl, rfl⟩
  go_wp2_with fail
  refine bodyPost_ret (by simp [results, Try.results17, go_sem]; try rfl) rfl ?_
  exact ⟨rfl, by go_grown⟩

set_option maxHeartbeats 1600000 in
set_option maxRecDepth 100000 in
theorem take_yes (F : Nat → Prop) (g : Nat) (s : Po.St) (i : Nat) (w : World) (h : PostAt w F g s) (hi : Po.has s i = true) :
    Calls Try.prog 17 #[.pointer (some ⟨g, 0, none⟩), .int .i64 (i : Int)] w fun e w' => ∃ A c, e = .returned (.tuple #[.agg #[.int .i64 (Po.pkt s i).1.a, .int .i64 (Po.pkt s i).1.b, .slice A (Po.pkt s i).1.d.length c], .int .i64 0]) ∧
      ∃ F', PostAt w' F' g (Po.del s i) ∧ Turned F w w' ∧ (∀ k, F' k → F k) ∧ OwnsB 5 w' 0 A c (Po.pkt s i).1.d ∧ ∀ k, blk A = some k → F k ∧ ¬ F' k := by
  obtain ⟨w1, hw1⟩ : ∃ w1, w1 = w.alloc (.cells #[.int .i64 0, .int .i64 0, .slice none 0 0] 42) := ⟨_, rfl⟩
  have hb1 : Below w.heap.size w w1 := by rw [hw1]; exact (Below.refl _ w).alloc (Nat.le_refl _) _
  have hs1 : w1.heap.size = w.heap.size + 1 := by rw [hw1]; simp
  have HH := hid (has_any F g s i w1 (h.below hb1))
  rw [hi] at HH
  obtain ⟨h0, h1⟩ := Po.has_iff.1 hi
  obtain ⟨L, A, c, A', c', hI, hs⟩ := h
  have hl : s.l.length = L.length := by rw [hs, List.length_map]
  have hn : i < L.length := by omega
  have hpk := pkt_at hs i hn
  rw [hpk]
  have hdl : (Po.del s i).l = (L.eraseIdx i).map strip := by show s.l.eraseIdx i = _; rw [hs, List.eraseIdx_eq_take_drop_succ, List.eraseIdx_eq_take_drop_succ, List.map_append, List.map_take, List.map_drop]
  -- behind the two boxes
  obtain ⟨w2, hw2⟩ : ∃ w2, w2 = w1.alloc (.cells #[.int .i64 L[i].1.p.a, .int .i64 L[i].1.p.b, .slice L[i].1.A L[i].1.p.d.length L[i].1.c] 42) := ⟨_, rfl⟩
  have hb2 : Below w.heap.size w w2 := by rw [hw2]; exact hb1.alloc hb1.size _
  have hs2 : w2.heap.size = w.heap.size + 2 := by rw [hw2]; simp [hs1]
  have hI2 := hI.below hb2
  have hgl := hI.lt g hI.has
  obtain ⟨b, rfl, hbg, hbs, hFb, d0, d1, d2, d3, hbf, hO, hd⟩ := (hI.below hb1).item i hn
  have hbs0 : b < w.heap.size := hI.lt b hFb
  have g0 := (hI.below hb1).cell0
  have g2 := hI2.cell0
  have gf := hI2.frozen 0
  have HD := hid (del_transit cellsT_one w2 hI2.row i hn)
  have hTW : Turned F w w2 := Turned.ofBelow F hb2
  have HI := hid (And.intro hI2 (And.intro hTW (And.intro hdl (And.intro hs2 hI.lt))))
  have hk0 : (i : Int) < (L.length : Int) := by omega
  have hwr : IntKind.i64.wrap ((i : Int) + 1) = (i : Int) + 1 := by have := hI.len; rw [IntKind.wrap_i64]; omega
  have p0 : w2.cell? ⟨w.heap.size + 1, 0, none⟩ = some (.int .i64 L[i].1.p.a) := by rw [hw2]; simp [World.cell?_alloc_at, hs1]
  have p1 : w2.cell? ⟨w.heap.size + 1, 1, none⟩ = some (.int .i64 L[i].1.p.b) := by rw [hw2]; simp [World.cell?_alloc_at, hs1]
  have p2 : w2.cell? ⟨w.heap.size + 1, 2, none⟩ = some (.slice L[i].1.A L[i].1.p.d.length L[i].1.c) := by rw [hw2]; simp [World.cell?_alloc_at, hs1]
  have r0 : w2.cell? ⟨w.heap.size, 0, none⟩ = some (.int .i64 0) := by rw [hw2, World.cell?_alloc_past _ _ _ (by omega), hw1]; simp
  have r1 : w2.cell? ⟨w.heap.size, 1, none⟩ = some (.int .i64 0) := by rw [hw2, World.cell?_alloc_past _ _ _ (by omega), hw1]; simp
  have r2 : w2.cell? ⟨w.heap.size, 2, none⟩ = some (.slice none 0 0) := by rw [hw2, World.cell?_alloc_past _ _ _ (by omega), hw1]; simp
  have rf : ∀ k, w2.frozen? ⟨w.heap.size, k, none⟩ = false := fun k => by rw [hw2, World.frozen?_alloc_past _ _ _ (by omega), hw1]; simp
  have HW1 := hid hw1
  have HW2 := hid hw2
  clear hI hI2 hs hpk h1 hl hO hi hdl hTW hb1 hb2 h0 hw1 hw2
  go_enter Try.func17, Try.ntmps17
  go_wp2_with fail
  rw [← HW1.out]
  refine HH.out.mono ?_
  rintro e w9 ⟨rfl, hw9⟩
  subst hw9
  go_wp2_with fail
  rw [← HW2.out]
  refine HD.out.mono ?_
  rintro e w5 ⟨rfl, hrow5, ht5⟩
  have g5 := (ht5.cell (p := ⟨g, 0, none⟩) (by show g < _; omega) HI.out.1.row_ne).trans g2
  have gf5 := (World.frozen?_of_block (a := ⟨g, 0, none⟩) (ht5.block g (by omega) HI.out.1.row_ne)).trans gf
  have hne1 : ¬ blk (some ⟨b, 0, none⟩) = some w.heap.size := fun e => by injection e with e; have e : b = w.heap.size := e; omega
  have hne2 : ¬ blk (some ⟨b, 0, none⟩) = some (w.heap.size + 1) := fun e => by injection e with e; have e : b = w.heap.size + 1 := e; omega
  have p0' := (ht5.cell (p := ⟨w.heap.size + 1, 0, none⟩) (by show w.heap.size + 1 < _; omega) hne2).trans p0
  have p1' := (ht5.cell (p := ⟨w.heap.size + 1, 1, none⟩) (by show w.heap.size + 1 < _; omega) hne2).trans p1
  have p2' := (ht5.cell (p := ⟨w.heap.size + 1, 2, none⟩) (by show w.heap.size + 1 < _; omega) hne2).trans p2
  have r0' := (ht5.cell (p := ⟨w.heap.size, 0, none⟩) (by show w.heap.size < _; omega) hne1).trans r0
  have r1' := (ht5.cell (p := ⟨w.heap.size, 1, none⟩) (by show w.heap.size < _; omega) hne1).trans r1
  have r2' := (ht5.cell (p := ⟨w.heap.size, 2, none⟩) (by show w.heap.size < _; omega) hne1).trans r2
  have rf' : ∀ k, w5.frozen? ⟨w.heap.size, k, none⟩ = false := fun k => (World.frozen?_of_block (a := ⟨w.heap.size, k, none⟩) (ht5.block w.heap.size (by omega) hne1)).trans (rf k)
  have H5 := hid (PostIs.taken HI.out.1 i hn hrow5 ht5 HI.out.2.1)
  have hgn : g ≠ w.heap.size := by omega
  have hgn2 : g ≠ w.heap.size + 1 := by omega
  clear hrow5 ht5 hne1 hne2 d0 d1 d2 d3 g0 g2 gf p0 p1 p2 r0 r1 r2 rf HD hbf
  go_wp2_with fail
  refine bodyPost_ret (by simp [results, Try.results17, go_sem, r0', r1', r2']; try rfl) rfl ?_
  obtain ⟨F', hP, hT, hF, hB, hO⟩ := H5.out
  have h3 := Turned.three (w5.setCell ⟨g, 0, none⟩ (.slice (some ⟨b, 0, none⟩) (L.length - 1) c)) w.heap.size 0 1 2 (.int .i64 L[i].1.p.a) (.int .i64 L[i].1.p.b) (.slice L[i].1.A L[i].1.p.d.length L[i].1.c)
  refine ⟨L[i].1.A, L[i].1.c, rfl, F', ⟨L.eraseIdx i, some ⟨b, 0, none⟩, c, A', c', hP.keep h3 (fun k hk e => by have := HI.out.2.2.2.2 k (hF k hk); omega), HI.out.2.2.1⟩, hT.then_ h3 (fun k hk e => by omega), hF, hO.turned h3 (fun k hk e => by have := HI.out.2.2.2.2 k (hB k hk).1; omega), hB⟩

set_option maxHeartbeats 800000 in
set_option maxRecDepth 100000 in
theorem lose_any (F : Nat → Prop) (g : Nat) (s : Po.St) (i : Int) (w : World) (h : PostAt w F g s) :
    Calls Try.prog 30 #[.pointer (some ⟨g, 0, none⟩), .int .i64 i] w fun e w' =>
      e = .returned (.int .i64 (Po.takeE s i)) ∧ ∃ F', PostAt w' F' g (Po.takeS s i) ∧ Step F F' w w' := by
  have HP := hid h
  obtain ⟨t, ht⟩ : ∃ t, t = Po.has s i := ⟨_, rfl⟩
  cases t
  · have e1 : Hid (Po.takeE s i = 6 ∧ Po.takeS s i = s) := hid (by unfold Po.takeE Po.takeS; rw [← ht]; exact ⟨rfl, rfl⟩)
    have HT := hid (take_no F g s i w h ht.symm)
    clear h ht
    go_enter Try.func30, Try.ntmps30
    go_wp2_with fail
    refine HT.out.mono ?_
    rintro e w2 ⟨rfl, hb2⟩
    have H2 := hid hb2
    clear hb2
    go_wp2_with fail
    go_ret
    have hb : Below w.heap.size w (w2.alloc (.cells #[.int .i64 0, .int .i64 0, .slice none 0 0] 42)) := H2.out.alloc H2.out.size _
    exact ⟨ret_int e1.out.1.symm, F, by rw [e1.out.2]; exact HP.out.below hb, Step.ofBelow F hb⟩
  · obtain ⟨h0, h1⟩ := Po.has_iff.1 ht.symm
    obtain ⟨n, rfl⟩ := Int.eq_ofNat_of_zero_le h0
    have e1 : Hid (Po.takeE s n = 0 ∧ Po.takeS s n = Po.del s n) := hid (by unfold Po.takeE Po.takeS; rw [← ht, Int.toNat_natCast]; exact ⟨rfl, rfl⟩)
    have HT := hid (take_yes F g s n w h ht.symm)
    clear h ht h0 h1
    go_enter Try.func30, Try.ntmps30
    go_wp2_with fail
    refine HT.out.mono ?_
    rintro e w2 ⟨A, c, rfl, F', hP, hT, hF, _, _⟩
    have H2 := hid (And.intro hP (And.intro hT hF))
    clear hP hT hF HT
    go_wp2_with fail
    go_ret
    refine ⟨ret_int e1.out.1.symm, F', by rw [e1.out.2]; exact H2.out.1.below ((Below.refl _ _).alloc (Nat.le_refl _) _), H2.out.2.1.alloc _, fun k hk => .inl (H2.out.2.2 k hk)⟩
end Go.Proofs.Ytckfjkhjnpkobaa
