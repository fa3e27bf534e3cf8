/- The walks through the laying of a packet into the document's post, its sending, its doubling. -/
import Derived.Test.YtckfjkhjnpkobaaRefPost
namespace Go.Proofs.Ytckfjkhjnpkobaa
open Go.RowKit

theorem info_bool : (Try.prog.info? 4).map (fun i => (i.zero, i.size, i.bytes)) = some (some (.bool false), 1, 1) := by kernel_rfl
theorem cellsB_one (y : Pl × Bool) : ∀ u ∈ cellsB y, u.oneCell' = true := by
  intro u hu
  simp [cellsB] at hu
  subst hu; rfl

/-- one packet more -/
theorem RefIs.added {w1 w6 w9 : World} {F G6 G9 : Nat → Prop} {g N M M' : Nat} {L : List (Pl × Bool)} {A1 A2 A3 A4 A6 A9 : Option Addr} {c1 c2 c3 c4 c6 c9 : Nat} {C : List (Int × Int)} (h : RefIs w1 F g L A1 c1 A2 c2 C A3 c3 A4 c4) (hlen : L.length ≠ 256) (q : Pl × Bool)
    (hq : OwnsB 5 w6 N q.1.A q.1.c q.1.p.d) (hd : q.1.p.d.length ≤ 1024) (hN : ∀ k, F k → k < N) (T1 : Turned (fun k => blk A1 = some k) w1 w6) (hrow : RowIn cellsP 3 42 w6 G6 A6 c6 (L ++ [q])) (hat : blk A6 = blk A1 ∨ blk A6 = some M) (hM : N ≤ M)
    (T2 : Turned (fun k => blk A2 = some k) (w6.setCell ⟨g, 0, none⟩ (.slice A6 (L.length + 1) c6)) w9) (hrow9 : RowIn cellsB 1 4 w9 G9 A9 c9 (L ++ [q])) (hat9 : blk A9 = blk A2 ∨ blk A9 = some M') (hM' : N ≤ M') :
    ∃ F', RefIs (w9.setCell ⟨g, 1, none⟩ (.slice A9 (L.length + 1) c9)) F' g (L ++ [q]) A6 c6 A9 c9 C A3 c3 A4 c4 ∧ Turned F w1 (w9.setCell ⟨g, 1, none⟩ (.slice A9 (L.length + 1) c9)) ∧ ∀ k, F' k → F k ∨ N ≤ k := by
  have e : L.length + 1 = (L ++ [q]).length := by simp
  have hl := h.len
  have hg6 : g < w6.heap.size := Nat.lt_of_lt_of_le (h.lt g h.has) T1.size
  have ob6 : w6.heap[g]? = some (.cells #[.slice A1 L.length c1, .slice A2 L.length c2, .slice A3 C.length c3, .slice A4 C.length c4] 32 (0, 0)) := (T1.block g (h.lt g h.has) h.ne1).trans h.obj
  have t0 := Turned.one w6 g 0 (.slice A6 (L.length + 1) c6)
  have ob7 : (w6.setCell ⟨g, 0, none⟩ (.slice A6 (L.length + 1) c6)).heap[g]? = some (.cells #[.slice A6 (L.length + 1) c6, .slice A2 L.length c2, .slice A3 C.length c3, .slice A4 C.length c4] 32 (0, 0)) := by simp [World.setCell, Array.getElem?_modify, ob6]
  have ob9 := (T2.block g (Nat.lt_of_lt_of_le hg6 t0.size) h.ne2).trans ob7
  have t1 := Turned.one w9 g 1 (.slice A9 (L.length + 1) c9)
  -- all that turned
  have TA : Turned (fun k => blk A1 = some k ∨ k = g ∨ blk A2 = some k) w1 (w9.setCell ⟨g, 1, none⟩ (.slice A9 (L.length + 1) c9)) :=
    (((T1.mono (fun _ h => .inl h)).then_ t0 (fun _ _ h => .inr (.inl h))).then_ T2 (fun _ _ h => .inr (.inr h))).then_ t1 (fun _ _ h => .inr (.inl h))
  have TB : Turned (fun k => k = g ∨ blk A2 = some k) w6 (w9.setCell ⟨g, 1, none⟩ (.slice A9 (L.length + 1) c9)) :=
    ((t0.mono (fun _ h => .inl h)).then_ T2 (fun _ _ h => .inr h)).then_ t1 (fun _ _ h => .inl h)
  have d1 : ∀ {A : Option Addr} {e : TypeId} {k : Nat}, (∃ cur, w1.heap[k]? = some (.cells cur e (0, 0))) → (blk A1 = some k → e = 42) ∧ (k = g → e = 32) ∧ (blk A2 = some k → e = 4) := by
    rintro A e k ⟨cur, hc⟩
    refine ⟨fun h1 => ?_, fun h1 => ?_, fun h1 => ?_⟩
    · obtain ⟨cur', hc'⟩ := h.row.tag h1
      rw [hc] at hc'
      exact (Obj.cells.inj (Option.some.inj hc')).2.1
    · subst h1
      rw [h.obj] at hc
      exact ((Obj.cells.inj (Option.some.inj hc)).2.1).symm
    · obtain ⟨cur', hc'⟩ := h.tur.tag h1
      rw [hc] at hc'
      exact (Obj.cells.inj (Option.some.inj hc')).2.1
  have q6 : OwnsB 5 (w9.setCell ⟨g, 1, none⟩ (.slice A9 (L.length + 1) c9)) N q.1.A q.1.c q.1.p.d := hq.turned TB (fun k hk e => by
    have h1 := (hq.blkLt k hk).1
    rcases e with e | e
    · have := hN g h.has; omega
    · have := hN k (h.tur.blk k e); omega)
  refine ⟨fun k => F k ∨ blk A6 = some k ∨ blk A9 = some k ∨ blk q.1.A = some k, ?_, TA.mono (fun k hk => ?_), ?_⟩
  · refine RefIs.rebuilt ?_ (.inl h.has) _ (by simp [World.setCell, Array.getElem?_modify, ob9]; rfl) (by rw [← e]) ?_ ?_ ?_ ?_ h.ab ?_ (by simp; omega) h.cuts
    · rintro k (hk | hk | hk | hk)
      · exact Nat.lt_of_lt_of_le (h.lt k hk) TA.size
      · exact Nat.lt_of_lt_of_le (hrow.lt k hk) TB.size
      · exact Nat.lt_of_lt_of_le (hrow9.lt k hk) t1.size
      · exact (q6.blkLt k hk).2
    · refine (hrow.keep TB (fun k hk e => ?_)).mono (fun k hk => .inr (.inl hk))
      rcases e with e | e
      · exact hrow.ne ob6 (by decide) (by rw [hk, e])
      · have h2 := h.tur.keep T1 (fun k hk e => by obtain ⟨cur, hc⟩ := h.row.tag e; exact h.tur.ne hc (by decide) hk)
        obtain ⟨cur, hc⟩ := h2.tag e
        exact hrow.ne hc (by decide) hk
    · exact (hrow9.keep t1 (fun k hk e => hrow9.ne ob9 (by decide) (by rw [hk, e]))).mono (fun k hk => .inr (.inr (.inl hk)))
    · refine (h.ra.keep TA (fun k hk e => ?_)).mono (fun k hk => .inl (h.ra.blk k hk))
      have := d1 (A := A3) (h.ra.tag hk)
      rcases e with e | e | e
      · exact absurd (this.1 e) (by decide)
      · exact absurd (this.2.1 e) (by decide)
      · exact absurd (this.2.2 e) (by decide)
    · refine (h.rb.keep TA (fun k hk e => ?_)).mono (fun k hk => .inl (h.rb.blk k hk))
      have := d1 (A := A4) (h.rb.tag hk)
      rcases e with e | e | e
      · exact absurd (this.1 e) (by decide)
      · exact absurd (this.2.1 e) (by decide)
      · exact absurd (this.2.2 e) (by decide)
    · refine ((h.byt.keep TA (fun r hr k hk e => ?_)).mono (fun r hr k hk => .inl ((h.byt.own r hr).2.2 k hk))).snoc q (q6.weaken (Nat.zero_le _)) hd (fun k hk => .inr (.inr (.inr hk))) (fun k hk r hr e => ?_)
      · rcases e with e | e | e
        · obtain ⟨cur, hc⟩ := h.row.tag e; exact (h.byt.own r hr).1.ne hc (by decide) hk
        · exact h.neB r hr (by rw [hk, e])
        · obtain ⟨cur, hc⟩ := h.tur.tag e; exact (h.byt.own r hr).1.ne hc (by decide) hk
      · have h1 := (q6.blkLt k hk).1
        have h2 := hN k ((h.byt.own r hr).2.2 k e)
        omega
  · rcases hk with hk | hk | hk
    · exact h.row.blk k hk
    · rw [hk]; exact h.has
    · exact h.tur.blk k hk
  · rintro k (hk | hk | hk | hk)
    · exact .inl hk
    · rcases hat with hat | hat
      · exact .inl (h.row.blk k (by rw [← hat]; exact hk))
      · rw [hat] at hk; injection hk with hk; exact .inr (by omega)
    · rcases hat9 with hat | hat
      · exact .inl (h.tur.blk k (by rw [← hat]; exact hk))
      · rw [hat] at hk; injection hk with hk; exact .inr (by omega)
    · exact .inr (q6.blkLt k hk).1

theorem RefIs.mid {w1 w6 : World} {F : Nat → Prop} {g : Nat} {L : List (Pl × Bool)} {A1 A2 A3 A4 A6 : Option Addr} {c1 c2 c3 c4 c6 n : Nat} {C : List (Int × Int)} (h : RefIs w1 F g L A1 c1 A2 c2 C A3 c3 A4 c4) (T1 : Turned (fun k => blk A1 = some k) w1 w6) :
    (w6.setCell ⟨g, 0, none⟩ (.slice A6 n c6)).cell? ⟨g, 1, none⟩ = some (.slice A2 L.length c2) ∧ (w6.setCell ⟨g, 0, none⟩ (.slice A6 n c6)).frozen? ⟨g, 1, none⟩ = false ∧ RowIn cellsB 1 4 (w6.setCell ⟨g, 0, none⟩ (.slice A6 n c6)) F A2 c2 L ∧ g < (w6.setCell ⟨g, 0, none⟩ (.slice A6 n c6)).heap.size := by
  have ob6 : w6.heap[g]? = some (.cells #[.slice A1 L.length c1, .slice A2 L.length c2, .slice A3 C.length c3, .slice A4 C.length c4] 32 (0, 0)) := (T1.block g (h.lt g h.has) h.ne1).trans h.obj
  have ob7 : (w6.setCell ⟨g, 0, none⟩ (.slice A6 n c6)).heap[g]? = some (.cells #[.slice A6 n c6, .slice A2 L.length c2, .slice A3 C.length c3, .slice A4 C.length c4] 32 (0, 0)) := by simp [World.setCell, Array.getElem?_modify, ob6]
  have ht := h.tur.keep T1 (fun k hk e => by obtain ⟨cur, hc⟩ := h.row.tag e; exact h.tur.ne hc (by decide) hk)
  refine ⟨by simp [World.cell?, ob7], by simp [World.frozen?, ob7], ht.keep (Turned.one w6 g 0 _) (fun k hk e => h.ne2 (by rw [hk, e])), (Array.getElem?_eq_some_iff.1 ob7).1⟩
/-- a load that a region must not take first -/
def loadL : Op := Op.load 28 (Operand.tmp 16)
set_option maxHeartbeats 1600000 in
set_option maxRecDepth 100000 in
theorem refLay_any (F : Nat → Prop) (g : Nat) (s : Po.St) (A0 : Option Addr) (c0 : Nat) (x : Po.Pk) (t : Bool) (hd : x.d.length ≤ 1024) (w : World) (h : RefAt w F g s) (hx : IsBytes w w.heap.size A0 x.d) :
    Calls Try.prog 47 #[.pointer (some ⟨g, 0, none⟩), .agg #[.int .i64 x.a, .int .i64 x.b, .slice A0 x.d.length c0], .bool t] w fun e w' =>
      e = .returned (.int .i64 (Po.layE s)) ∧ ∃ F', RefAt w' F' g (Po.layS s x t) ∧ Step F F' w w' := by
  obtain ⟨i0, hi, hz0, hz1, hz2⟩ := info_parts info_packet
  obtain ⟨j0, hj, hy0, hy1, hy2⟩ := info_parts info_bool
  obtain ⟨L, A1, c1, A2, c2, C, A3, c3, A4, c4, hI, hs, hc⟩ := h
  have hl : s.l.length = L.length := by rw [hs, List.length_map]
  have hgl := hI.lt g hI.has
  obtain ⟨w1, hw1⟩ : ∃ w1, w1 = w.alloc (.cells #[.int .i64 x.a, .int .i64 x.b, .slice A0 x.d.length c0] 42) := ⟨_, rfl⟩
  have hb1 : Below w.heap.size w w1 := by rw [hw1]; exact (Below.refl _ w).alloc (Nat.le_refl _) _
  have hs1 : w1.heap.size = w.heap.size + 1 := by rw [hw1]; simp
  have hI1 := hI.below hb1
  obtain ⟨g0, g1, g2, g3⟩ := hI1.cells
  have HE : Hid (Po.layE s = if L.length = 256 then 8 else 0) := hid (by unfold Po.layE; rw [hl])
  have HS : Hid (Po.layS s x t = if L.length = 256 then s else Po.lay s x t) := hid (by unfold Po.layS; rw [hl])
  by_cases hf : L.length = 256
  · have e1 := HE.out
    have e2 := HS.out
    rw [if_pos hf] at e1 e2
    have HR : Hid (Po.layE s = 8 ∧ RefAt w1 F g (Po.layS s x t) ∧ Below w.heap.size w w1) := by
      rw [e2]
      exact ⟨e1, ⟨L, A1, c1, A2, c2, C, A3, c3, A4, c4, hI1, hs, hc⟩, hb1⟩
    rw [hf] at g0
    rw [hw1] at g0 HR
    clear HE HS e1 e2 hI hI1 hs hc hl hb1 hs1 hf hw1 hx g1 g2 g3
    go_enter Try.func47, Try.ntmps47
    go_wp2_with fail
    go_ret
    exact ⟨ret_int HR.out.1.symm, F, HR.out.2.1, Step.ofBelow F HR.out.2.2⟩
  · have e1 := HE.out
    have e2 := HS.out
    rw [if_neg hf] at e1 e2
    have x0 : w1.cell? ⟨w.heap.size, 0, none⟩ = some (.int .i64 x.a) := by rw [hw1]; simp
    have x1 : w1.cell? ⟨w.heap.size, 1, none⟩ = some (.int .i64 x.b) := by rw [hw1]; simp
    have x2 : w1.cell? ⟨w.heap.size, 2, none⟩ = some (.slice A0 x.d.length c0) := by rw [hw1]; simp
    have HC := hid (copy_any w.heap.size A0 c0 x.d (by omega) w1.drew ((hx.below hb1).drewN 1) hb1.size)
    have hgs : g < w1.heap.size := by omega
    have hsz : w.heap.size < w1.heap.size := by omega
    have HI := hid (And.intro hI1 (And.intro hb1 (And.intro hI.lt (And.intro hf (And.intro hs (And.intro hc (And.intro e1 e2)))))))
    have hf0 : (L.length : Int) ≠ 256 := by omega
    have HW := hid hw1
    clear HE HS e1 e2 hI hI1 hs hc hl hb1 hf hw1 hx g1 g2 g3
    have g0w := g0
    rw [HW.out] at g0w
    go_enter Try.func47, Try.ntmps47
    go_wp2_with fail
    rw [← HW.out]
    clear g0w
    have HK : Hid (∀ w', Below w1.heap.size w1 w' → w'.cell? ⟨g, 0, none⟩ = some (.slice A1 L.length c1) ∧ w'.cell? ⟨w.heap.size, 0, none⟩ = some (.int .i64 x.a) ∧ w'.cell? ⟨w.heap.size, 1, none⟩ = some (.int .i64 x.b) ∧ w'.cell? ⟨w.heap.size, 2, none⟩ = some (.slice A0 x.d.length c0)) := hid (fun w' hb => ⟨(hb.cell (p := ⟨g, 0, none⟩) hgs).trans g0, (hb.cell (p := ⟨w.heap.size, 0, none⟩) hsz).trans x0, (hb.cell (p := ⟨w.heap.size, 1, none⟩) hsz).trans x1, (hb.cell (p := ⟨w.heap.size, 2, none⟩) hsz).trans x2⟩)
    -- what does not lie in the packets' row stays when that row is written
    have HT : Hid (∀ w', Turned (fun k => blk A1 = some k) w1 w' → (w'.cell? ⟨g, 0, none⟩ = some (.slice A1 L.length c1) ∧ w'.cell? ⟨w.heap.size, 0, none⟩ = some (.int .i64 x.a) ∧ w'.cell? ⟨w.heap.size, 1, none⟩ = some (.int .i64 x.b) ∧ w'.cell? ⟨w.heap.size, 2, none⟩ = some (.slice A0 x.d.length c0)) ∧ w'.frozen? ⟨g, 0, none⟩ = false) := hid (fun w' ht => by
      have hne : ¬ blk A1 = some w.heap.size := fun e => by have := HI.out.2.2.1 _ (HI.out.1.row.blk _ e); omega
      exact ⟨⟨(ht.cell (p := ⟨g, 0, none⟩) hgs HI.out.1.ne1).trans g0, (ht.cell (p := ⟨w.heap.size, 0, none⟩) hsz hne).trans x0, (ht.cell (p := ⟨w.heap.size, 1, none⟩) hsz hne).trans x1, (ht.cell (p := ⟨w.heap.size, 2, none⟩) hsz hne).trans x2⟩, (World.frozen?_of_block (a := ⟨g, 0, none⟩) (ht.block g hgs HI.out.1.ne1)).trans (HI.out.1.frozen 0)⟩)
    have HT2 : Hid (∀ (w6 : World) (v : Value), (w6.cell? ⟨w.heap.size, 0, none⟩ = some (.int .i64 x.a) ∧ w6.cell? ⟨w.heap.size, 1, none⟩ = some (.int .i64 x.b) ∧ w6.cell? ⟨w.heap.size, 2, none⟩ = some (.slice A0 x.d.length c0)) → (w6.setCell ⟨g, 0, none⟩ v).cell? ⟨w.heap.size, 0, none⟩ = some (.int .i64 x.a) ∧ (w6.setCell ⟨g, 0, none⟩ v).cell? ⟨w.heap.size, 1, none⟩ = some (.int .i64 x.b) ∧ (w6.setCell ⟨g, 0, none⟩ v).cell? ⟨w.heap.size, 2, none⟩ = some (.slice A0 x.d.length c0)) := hid (fun w6 v h => by
      have hk : ∀ k, (w6.setCell ⟨g, 0, none⟩ v).cell? ⟨w.heap.size, k, none⟩ = w6.cell? ⟨w.heap.size, k, none⟩ := fun k => World.cell?_of_block (Below.heap_setCell w6 ⟨g, 0, none⟩ v w.heap.size (by show w.heap.size ≠ g; omega))
      rw [hk, hk, hk]; exact h)
    have g0W : w1.drew.cell? ⟨g, 0, none⟩ = some (.slice A1 L.length c1) := g0
    have hopL : loadL = Op.load 28 (Operand.tmp 16) := rfl
    rw [← hopL]
    go_region_held3 (fun w' => w'.cell? ⟨w.heap.size, 0, none⟩ = some (.int .i64 x.a) ∧ w'.cell? ⟨w.heap.size, 1, none⟩ = some (.int .i64 x.b) ∧ w'.cell? ⟨w.heap.size, 2, none⟩ = some (.slice A0 x.d.length c0))
      (first | exact (HK.out _ (Below.refl _ w1).drew).2 | exact (HK.out _ hb2).2 | exact (HK.out _ (hb2.alloc hb2.size _)).2 | exact hc6.1.2 | exact hc7 _ | fail)
      (first
        | (refine step_append_row (by rfl) _ _ 28 (by rfl) i0 _ Try.underlying28 hi hz0 hz1 hz2 (by rfl) (by decide) (RowIn.below HI.out.1.row (hb2.alloc hb2.size _)) L.length rfl (by rfl) (⟨x, B2, d2⟩, t) ⟨w2.heap.size, 0, none⟩ 1 (by rfl) (fun k _ => cells_new w2 _ _ k) (cellsP_one _) (by have := HI.out.1.len; omega) (by have := HI.out.1.len; omega) ?_; intro A6 c6 w6 hrow6 hgr6 hat6; have T1 : Turned (fun k => blk A1 = some k) w1 w6 := (Turned.ofBelow (fun k => blk A1 = some k) (hb2.alloc hb2.size _)).trans (Turned.ofGrown hgr6 (fun k hk => hk)); have hc6 := HT.out _ T1; have hf6 := hc6.2; have hg06 := hc6.1.1; have hc7 := fun v => HT2.out w6 v hc6.1.2)
        | (go_at_call 50; refine HC.out.mono ?_; rintro e w2 ⟨B2, d2, rfl, ho2, hb2'⟩; have hb2 := (Below.refl _ w1).drew.trans hb2'; have g02 := (HK.out _ hb2).1; have hg2 := Nat.lt_of_lt_of_le hgs hb2.size; have hg2n := Nat.ne_of_lt hg2; clear hb2'))
    all_goals
      (obtain ⟨w7, hw7⟩ : ∃ w7, w7 = w6.setCell ⟨g, 0, none⟩ (.slice A6 (L.length + 1) c6) := ⟨_, rfl⟩
       rw [← hw7]
       have HM : Hid ((w7.cell? ⟨g, 1, none⟩ = some (.slice A2 L.length c2) ∧ w7.frozen? ⟨g, 1, none⟩ = false ∧ RowIn cellsB 1 4 w7 F A2 c2 L ∧ g < w7.heap.size)) := hid (by rw [hw7]; exact HI.out.1.mid T1)
       have hq6 : OwnsB 5 w6 (w.heap.size + 1) B2 d2 x.d := ((ho2.weaken (by show w.heap.size + 1 ≤ w1.heap.size; omega)).below ((Below.refl _ w2).alloc (Nat.le_refl _) (.cells #[.int .i64 x.a, .int .i64 x.b, .slice B2 x.d.length d2] 42))).grown hgr6 (fun k hk => by have := HI.out.2.2.1 k (HI.out.1.row.blk k hk); omega)
       have H6 := hid (And.intro hq6 (And.intro T1 (And.intro hrow6 (And.intro hat6 (And.intro hb2.size hs1)))))
       have HW7 := hid hw7
       have g17 := HM.out.1
       clear hw7 hq6 T1 hrow6 hat6 hgr6 ho2 hc6 hf6 hg06 hc7 g02 hg2 hg2n hb2 HK HT HT2 g0 g0W x0 x1 x2 hopL HC
       have HRW := hid (RowIn.below HM.out.2.2.1 ((Below.refl _ w7).alloc (Nat.le_refl _) (.cells #[.bool t] 4)))
       have hg7 := HM.out.2.2.2
       have hg7n := Nat.ne_of_lt hg7
       go_wp2_with (at_builtin; refine wpList_append_row (by rfl) _ _ 29 (by rfl) j0 _ Try.underlying29 hj hy0 hy1 hy2 (by rfl) (by decide) HRW.out L.length rfl (by rfl) (⟨x, B2, d2⟩, t) ⟨w7.heap.size, 0, none⟩ 1 (by rfl) (fun k _ => cells_new w7 _ _ k) (cellsB_one _) (by have := HI.out.1.len; omega) (by have := HI.out.1.len; omega) ?_)
       intro A9 c9 w9 hrow9 hgr9 hat9
       have hT9 := ((Turned.refl (fun k => blk A2 = some k) w7).alloc _).trans (Turned.ofGrown hgr9 (fun k hk => hk))
       have hc9 := (hT9.cell (p := ⟨g, 1, none⟩) hg7 HI.out.1.ne2).trans g17
       have hf9 := (World.frozen?_of_block (a := ⟨g, 1, none⟩) (hT9.block g hg7 HI.out.1.ne2)).trans HM.out.2.1
       have HT9 := hid hT9
       clear hT9
       have H9 := hid (And.intro hrow9 hat9)
       clear hrow9 hgr9 hat9
       all_goals
         (go_wp2_with fail
          go_ret
          obtain ⟨hq6, T1, hrow6, hat6, hsz2, hsz1⟩ := H6.out
          obtain ⟨F', hP, hT, hN⟩ := RefIs.added (N := w.heap.size + 1) HI.out.1 HI.out.2.2.2.1 (⟨x, B2, d2⟩, t) hq6 hd (fun k hk => by have := HI.out.2.2.1 k hk; omega) T1 hrow6 hat6 (by simp; omega) (by rw [← HW7.out]; exact HT9.out) H9.out.1 H9.out.2 (by
            have e := T1.size
            have e2 : w6.heap.size ≤ w7.heap.size := by rw [HW7.out]; exact (Turned.one w6 g 0 _).size
            simp; omega)
          refine ⟨ret_int HI.out.2.2.2.2.2.2.1.symm, F', ⟨_, _, _, _, _, _, _, _, _, _, hP, ?_, ?_⟩, ⟨(Turned.ofBelow F HI.out.2.1).then_ hT (fun k _ e => e), fun k hk => (hN k hk).imp id (fun e => by omega)⟩⟩
          · rw [HI.out.2.2.2.2.2.2.2]
            show s.l ++ [(x, t)] = _
            rw [HI.out.2.2.2.2.1, List.map_append]
            rfl
          · rw [HI.out.2.2.2.2.2.2.2]
            exact HI.out.2.2.2.2.2.1))
end Go.Proofs.Ytckfjkhjnpkobaa
