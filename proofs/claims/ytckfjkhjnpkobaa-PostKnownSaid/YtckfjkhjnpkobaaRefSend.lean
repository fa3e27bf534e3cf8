/- The walks through the document's post: sending, doubling, cutting. -/
import Derived.Test.YtckfjkhjnpkobaaRefLay
namespace Go.Proofs.Ytckfjkhjnpkobaa
open Go.RowKit

theorem ix_cut (s : Po.St) (a b : Int) : (Po.isCut s a b = true → 0 ≤ Po.ixOf (Po.norm a b) s.c) ∧ (Po.isCut s a b = false → Po.ixOf (Po.norm a b) s.c = -1) := by
  unfold Po.isCut
  refine ⟨fun h => ?_, fun h => ?_⟩
  · rw [Po.ixOf_in (by simpa using h)]; omega
  · exact Po.ixOf_out (by simpa using h)

set_option maxHeartbeats 800000 in
set_option maxRecDepth 100000 in
theorem refSend_any (F : Nat → Prop) (g : Nat) (s : Po.St) (A0 : Option Addr) (c0 : Nat) (x : Po.Pk) (hd : x.d.length ≤ 1024) (w : World) (h : RefAt w F g s) (hx : IsBytes w w.heap.size A0 x.d) :
    Calls Try.prog 26 #[.pointer (some ⟨g, 0, none⟩), .agg #[.int .i64 x.a, .int .i64 x.b, .slice A0 x.d.length c0]] w fun e w' =>
      e = .returned (.int .i64 (Po.sendE s x)) ∧ ∃ F', RefAt w' F' g (Po.sendS s x) ∧ Step F F' w w' := by
  obtain ⟨w1, hw1⟩ : ∃ w1, w1 = w.alloc (.cells #[.int .i64 x.a, .int .i64 x.b, .slice A0 x.d.length c0] 42) := ⟨_, rfl⟩
  have hb1 : Below w.heap.size w w1 := by rw [hw1]; exact (Below.refl _ w).alloc (Nat.le_refl _) _
  have h1 := h.below hb1
  have HC := hid (cutting_any F g s x.a x.b w1 h1)
  have HA := hid (refLay_any F g s A0 c0 x false hd w1 h1 ((hx.below hb1).more hb1.size))
  obtain ⟨r, hr⟩ : ∃ r, r = Po.ixOf (Po.norm x.a x.b) s.c := ⟨_, rfl⟩
  obtain ⟨hy, hn⟩ := ix_cut s x.a x.b
  rw [← hr] at HC hy hn
  have H1 := hid (And.intro h1 hb1)
  rw [hw1] at HC HA H1
  clear h hx hb1 h1 hw1 hr
  rcases ht : Po.isCut s x.a x.b with _ | _
  · have e1 : Hid (Po.sendE s x = Po.layE s ∧ Po.sendS s x = Po.layS s x false) := hid (by unfold Po.sendE Po.sendS; rw [ht]; exact ⟨rfl, rfl⟩)
    have hr := hn ht
    subst hr
    clear hy hn ht
    go_enter Try.func26, Try.ntmps26
    go_wp2_with fail
    refine HC.out.mono ?_
    rintro e w2 ⟨rfl, hw2⟩
    subst hw2
    go_wp2_with fail
    refine HA.out.mono ?_
    rintro e w5 ⟨rfl, F', hp5, hs5⟩
    have H5 := hid (And.intro hp5 hs5)
    clear hp5 hs5
    go_wp2_with fail
    go_ret
    exact ⟨ret_int e1.out.1.symm, F', by rw [e1.out.2]; exact H5.out.1, (Step.ofBelow F H1.out.2).trans H5.out.2⟩
  · have e1 : Hid (Po.sendE s x = 0 ∧ Po.sendS s x = s) := hid (by unfold Po.sendE Po.sendS; rw [ht]; exact ⟨rfl, rfl⟩)
    have hr := hy ht
    clear hy hn ht
    go_enter Try.func26, Try.ntmps26
    go_wp2_with fail
    refine HC.out.mono ?_
    rintro e w2 ⟨rfl, hw2⟩
    subst hw2
    go_wp2_with fail
    go_ret
    exact ⟨ret_int e1.out.1.symm, F, by rw [e1.out.2]; exact H1.out.1, Step.ofBelow F H1.out.2⟩

/-- one of the packets under way, in the document's memory -/
theorem RefIs.item {w : World} {F : Nat → Prop} {g : Nat} {L : List (Pl × Bool)} {A1 A2 A3 A4 : Option Addr} {c1 c2 c3 c4 : Nat} {C : List (Int × Int)} (h : RefIs w F g L A1 c1 A2 c2 C A3 c3 A4 c4) (i : Nat) (hi : i < L.length) :
    ∃ b b', A1 = some ⟨b, 0, none⟩ ∧ A2 = some ⟨b', 0, none⟩ ∧ F b ∧ F b' ∧ w.cell? ⟨b, i * 3, none⟩ = some (.int .i64 L[i].1.p.a) ∧ w.cell? ⟨b, i * 3 + 1, none⟩ = some (.int .i64 L[i].1.p.b) ∧ w.cell? ⟨b, i * 3 + 2, none⟩ = some (.slice L[i].1.A L[i].1.p.d.length L[i].1.c) ∧ w.cell? ⟨b', i, none⟩ = some (.bool L[i].2) ∧
      (∀ k, w.frozen? ⟨b, k, none⟩ = false) ∧ (∀ k, w.frozen? ⟨b', k, none⟩ = false) ∧ OwnsB 5 w 0 L[i].1.A L[i].1.c L[i].1.p.d ∧ L[i].1.p.d.length ≤ 1024 := by
  obtain ⟨b, rfl, hb, hF, hc, hf⟩ := h.row.get i hi
  obtain ⟨b', rfl, hb', hF', hc', hf'⟩ := h.tur.get i hi
  have ho := h.byt.own L[i] (List.getElem_mem hi)
  have e := hc' 0 (by omega)
  rw [Nat.mul_one, Nat.add_zero] at e
  exact ⟨b, b', rfl, rfl, hF, hF', hc 0 (by omega), hc 1 (by omega), hc 2 (by omega), e, hf, hf', ho.1, ho.2.1⟩

set_option maxHeartbeats 800000 in
set_option maxRecDepth 100000 in
theorem refDouble_any (F : Nat → Prop) (g : Nat) (s : Po.St) (i : Int) (w : World) (h : RefAt w F g s) :
    Calls Try.prog 32 #[.pointer (some ⟨g, 0, none⟩), .int .i64 i] w fun e w' =>
      e = .returned (.int .i64 (Po.dblE s i)) ∧ ∃ F', RefAt w' F' g (Po.dblS s i) ∧ Step F F' w w' := by
  have HH := hid (refThere_any F g s i w h)
  have HP := hid h
  obtain ⟨t, ht⟩ : ∃ t, t = Po.has s i := ⟨_, rfl⟩
  rw [← ht] at HH
  cases t
  · have e1 : Hid (Po.dblE s i = 6 ∧ Po.dblS s i = s) := hid (by unfold Po.dblE Po.dblS; rw [← ht]; exact ⟨rfl, rfl⟩)
    clear h ht
    go_enter Try.func32, Try.ntmps32
    go_wp2_with fail
    refine HH.out.mono ?_
    rintro e w2 ⟨rfl, hw2⟩
    subst hw2
    go_wp2_with fail
    go_ret
    exact ⟨ret_int e1.out.1.symm, F, by rw [e1.out.2]; exact HP.out, Step.refl F _⟩
  · obtain ⟨h0, h1⟩ := Po.has_iff.1 ht.symm
    obtain ⟨n, rfl⟩ := Int.eq_ofNat_of_zero_le h0
    obtain ⟨L, A1, c1, A2, c2, C, A3, c3, A4, c4, hI, hs, hc⟩ := h
    have hl : s.l.length = L.length := by rw [hs, List.length_map]
    have hn : n < L.length := by omega
    obtain ⟨b, b', rfl, rfl, hFb, hFb', d0, d1, d2, d3, _, _, hO, hd⟩ := hI.item n hn
    obtain ⟨g0, g1, _, _⟩ := hI.cells
    have hpk := pkt_at hs n hn
    have e1 : Hid (Po.dblE s n = Po.layE s ∧ Po.dblS s n = Po.layS s L[n].1.p L[n].2) := hid (by unfold Po.dblE Po.dblS; rw [← ht, hpk]; exact ⟨rfl, rfl⟩)
    have HA := hid (refLay_any F g s L[n].1.A L[n].1.c L[n].1.p L[n].2 hd w.drew (HP.out.below (Below.refl _ w).drew) (hO.reads.drewN 1))
    have hk0 : (n : Int) < (L.length : Int) := by omega
    clear hI hs hpk ht h1 hl hO hc
    go_enter Try.func32, Try.ntmps32
    go_wp2_with fail
    refine HH.out.mono ?_
    rintro e w2 ⟨rfl, hw2⟩
    subst hw2
    go_wp2_with fail
    go_still_tail 15, (by kernel_rfl)
    go_wp2_with fail
    refine HA.out.mono ?_
    rintro e w5 ⟨rfl, F', hp5, hs5⟩
    have H5 := hid (And.intro hp5 hs5)
    clear hp5 hs5
    go_wp2_with fail
    go_ret
    exact ⟨ret_int e1.out.1.symm, F', by rw [e1.out.2]; exact H5.out.1, (Step.ofBelow F (Below.refl _ _).drew).trans H5.out.2⟩

theorem info_int : (Try.prog.info? 3).map (fun i => (i.zero, i.size, i.bytes)) = some (some (.int .i64 0), 1, 8) := by kernel_rfl
theorem cells1_one (y : Int × Int) : ∀ u ∈ cells1 y, u.oneCell' = true := by
  intro u hu; simp [cells1] at hu; subst hu; rfl
theorem cells2_one (y : Int × Int) : ∀ u ∈ cells2 y, u.oneCell' = true := by
  intro u hu; simp [cells2] at hu; subst hu; rfl
/-- both numbers of a way more are laid: what stands then -/
theorem RefIs.cutMore {w1 w6 w9 : World} {F G6 G9 : Nat → Prop} {g N M M' : Nat} {L : List (Pl × Bool)} {A1 A2 A3 A4 A6 A9 : Option Addr} {c1 c2 c3 c4 c6 c9 : Nat} {C : List (Int × Int)} (h : RefIs w1 F g L A1 c1 A2 c2 C A3 c3 A4 c4) (hlen : C.length < 64) (q : Int × Int) (hN : ∀ k, F k → k < N)
    (T1 : Turned (fun k => blk A3 = some k) w1 w6) (hrow : RowIn cells1 1 3 w6 G6 A6 c6 (C ++ [q])) (hat : blk A6 = blk A3 ∨ blk A6 = some M) (hM : N ≤ M) (hN6 : N ≤ w6.heap.size)
    (T2 : Turned (fun k => blk A4 = some k) (w6.setCell ⟨g, 2, none⟩ (.slice A6 (C.length + 1) c6)) w9) (hrow9 : RowIn cells2 1 3 w9 G9 A9 c9 (C ++ [q])) (hat9 : blk A9 = blk A4 ∨ blk A9 = some M') (hM' : w6.heap.size ≤ M') :
    ∃ F', RefIs (w9.setCell ⟨g, 3, none⟩ (.slice A9 (C.length + 1) c9)) F' g L A1 c1 A2 c2 (C ++ [q]) A6 c6 A9 c9 ∧ Turned F w1 (w9.setCell ⟨g, 3, none⟩ (.slice A9 (C.length + 1) c9)) ∧ ∀ k, F' k → F k ∨ N ≤ k := by
  have e : C.length + 1 = (C ++ [q]).length := by simp
  have hg6 : g < w6.heap.size := Nat.lt_of_lt_of_le (h.lt g h.has) T1.size
  have ob6 : w6.heap[g]? = some (.cells #[.slice A1 L.length c1, .slice A2 L.length c2, .slice A3 C.length c3, .slice A4 C.length c4] 32 (0, 0)) := (T1.block g (h.lt g h.has) h.ne3).trans h.obj
  have t0 := Turned.one w6 g 2 (.slice A6 (C.length + 1) c6)
  have ob7 : (w6.setCell ⟨g, 2, none⟩ (.slice A6 (C.length + 1) c6)).heap[g]? = some (.cells #[.slice A1 L.length c1, .slice A2 L.length c2, .slice A6 (C.length + 1) c6, .slice A4 C.length c4] 32 (0, 0)) := by simp [World.setCell, Array.getElem?_modify, ob6]
  have ob9 := (T2.block g (Nat.lt_of_lt_of_le hg6 t0.size) h.ne4).trans ob7
  have t1 := Turned.one w9 g 3 (.slice A9 (C.length + 1) c9)
  have TA : Turned (fun k => blk A3 = some k ∨ k = g ∨ blk A4 = some k) w1 (w9.setCell ⟨g, 3, none⟩ (.slice A9 (C.length + 1) c9)) :=
    (((T1.mono (fun _ h => .inl h)).then_ t0 (fun _ _ h => .inr (.inl h))).then_ T2 (fun _ _ h => .inr (.inr h))).then_ t1 (fun _ _ h => .inr (.inl h))
  have TB : Turned (fun k => k = g ∨ blk A4 = some k) w6 (w9.setCell ⟨g, 3, none⟩ (.slice A9 (C.length + 1) c9)) :=
    ((t0.mono (fun _ h => .inl h)).then_ T2 (fun _ _ h => .inr h)).then_ t1 (fun _ _ h => .inl h)
  -- the new row of first numbers is not that of the second ones
  have h64 : ∀ k, blk A6 = some k → blk A4 ≠ some k := fun k hk e4 => by
    rcases hat with hat | hat
    · exact h.ab k (by rw [← hat]; exact hk) e4
    · rw [hat] at hk
      have hk : M = k := by injection hk
      have := hN k (h.rb.blk k e4)
      omega
  have d1 : ∀ {e : TypeId} {k : Nat}, (∃ cur, w1.heap[k]? = some (.cells cur e (0, 0))) → (blk A3 = some k ∨ k = g ∨ blk A4 = some k) → e = 3 ∨ e = 32 := by
    rintro e k ⟨cur, hc⟩ (h1 | h1 | h1)
    · obtain ⟨cur', hc'⟩ := h.ra.tag h1
      rw [hc] at hc'
      exact .inl (Obj.cells.inj (Option.some.inj hc')).2.1
    · subst h1
      rw [h.obj] at hc
      exact .inr ((Obj.cells.inj (Option.some.inj hc)).2.1).symm
    · obtain ⟨cur', hc'⟩ := h.rb.tag h1
      rw [hc] at hc'
      exact .inl (Obj.cells.inj (Option.some.inj hc')).2.1
  refine ⟨fun k => F k ∨ blk A6 = some k ∨ blk A9 = some k, ?_, TA.mono (fun k hk => ?_), ?_⟩
  · refine RefIs.rebuilt ?_ (.inl h.has) _ (by simp [World.setCell, Array.getElem?_modify, ob9]; rfl) (by rw [← e]) ?_ ?_ ?_ ?_ ?_ ?_ h.len (by simp; omega)
    · rintro k (hk | hk | hk)
      · exact Nat.lt_of_lt_of_le (h.lt k hk) TA.size
      · exact Nat.lt_of_lt_of_le (hrow.lt k hk) TB.size
      · exact Nat.lt_of_lt_of_le (hrow9.lt k hk) t1.size
    · refine (h.row.keep TA (fun k hk e => ?_)).mono (fun k hk => .inl (h.row.blk k hk))
      rcases d1 (h.row.tag hk) e with e | e <;> exact absurd e (by decide)
    · refine (h.tur.keep TA (fun k hk e => ?_)).mono (fun k hk => .inl (h.tur.blk k hk))
      rcases d1 (h.tur.tag hk) e with e | e <;> exact absurd e (by decide)
    · refine (hrow.keep TB (fun k hk e => ?_)).mono (fun k hk => .inr (.inl hk))
      rcases e with e | e
      · exact hrow.ne ob6 (by decide) (by rw [hk, e])
      · exact h64 k hk e
    · exact (hrow9.keep t1 (fun k hk e => hrow9.ne ob9 (by decide) (by rw [hk, e]))).mono (fun k hk => .inr (.inr hk))
    · intro k hk e9
      rcases hat9 with hat9 | hat9
      · exact h64 k hk (by rw [← hat9]; exact e9)
      · rw [hat9] at e9
        have e9 : M' = k := by injection e9
        have := hrow.lt k hk
        omega
    · refine (h.byt.keep TA (fun r hr k hk e => ?_)).mono (fun r hr k hk => .inl ((h.byt.own r hr).2.2 k hk))
      rcases e with e | e | e
      · obtain ⟨cur, hc⟩ := h.ra.tag e; exact (h.byt.own r hr).1.ne hc (by decide) hk
      · exact h.neB r hr (by rw [hk, e])
      · obtain ⟨cur, hc⟩ := h.rb.tag e; exact (h.byt.own r hr).1.ne hc (by decide) hk
  · rcases hk with hk | hk | hk
    · exact h.ra.blk k hk
    · rw [hk]; exact h.has
    · exact h.rb.blk k hk
  · have hT := T1.size
    have hlt := fun k hk => hN k hk
    rintro k (hk | hk | hk)
    · exact .inl hk
    · rcases hat with hat | hat
      · exact .inl (h.ra.blk k (by rw [← hat]; exact hk))
      · rw [hat] at hk; have hk : M = k := by injection hk
        exact .inr (by omega)
    · rcases hat9 with hat | hat
      · exact .inl (h.rb.blk k (by rw [← hat]; exact hk))
      · rw [hat] at hk; have hk : M' = k := by injection hk
        exact .inr (by omega)
end Go.Proofs.Ytckfjkhjnpkobaa
