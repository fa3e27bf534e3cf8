/- The walks through the post's adding of a packet, and its sending. -/
import Derived.Test.YtckfjkhjnpkobaaPostB
import Derived.Deep.RegionLaw
namespace Go.Proofs.Ytckfjkhjnpkobaa
open Go.RowKit

theorem cells_new (w : World) (l : List Value) (t : TypeId) (k : Nat) : (w.alloc (.cells l.toArray t)).cell? ((⟨w.heap.size, 0, none⟩ : Addr).add k) = l[k]? := by
  rw [add_off, Nat.zero_add, cell_of_row _ w.heap.size k l.toArray t (0, 0) (heap_alloc_new w _)]
  exact List.getElem?_toArray ..
theorem cellsT_one (y : Pl × Bool) : ∀ u ∈ cellsT y, u.oneCell' = true := by
  intro u hu
  simp [cellsT] at hu
  rcases hu with rfl | rfl | rfl | rfl <;> rfl
theorem PostIs.added {w3 w6 : World} {F : Nat → Prop} {g N M : Nat} {L : List (Pl × Bool)} {A : Option Addr} {c : Nat} {C : List (Int × Int)} {A' : Option Addr} {c' : Nat} (h : PostIs w3 F g L A c C A' c') (hlen : L.length ≠ 256) (q : Pl × Bool)
    (hq : OwnsB 5 w3 N q.1.A q.1.c q.1.p.d) (hd : q.1.p.d.length ≤ 1024) (hN : ∀ k, F k → k < N) {G : Nat → Prop} {A6 : Option Addr} {c6 : Nat} (hrow : RowIn cellsT 4 62 w6 G A6 c6 (L ++ [q])) (hgr : Turned (fun k => blk A = some k) w3 w6) (hat : blk A6 = blk A ∨ blk A6 = some M) (hM : N ≤ M) :
    ∃ F', PostIs (w6.setCell ⟨g, 0, none⟩ (.slice A6 (L.length + 1) c6)) F' g (L ++ [q]) A6 c6 C A' c' ∧ Turned F w3 (w6.setCell ⟨g, 0, none⟩ (.slice A6 (L.length + 1) c6)) ∧ ∀ k, F' k → F k ∨ N ≤ k := by
  have e : L.length + 1 = (L ++ [q]).length := by simp
  have hl := h.len
  refine ⟨fun k => F k ∨ blk A6 = some k ∨ blk q.1.A = some k, ?_, ?_, ?_⟩
  · rw [e]
    have hq6 : OwnsB 5 w6 N q.1.A q.1.c q.1.p.d := hq.turned hgr (fun k hk e => by have h1 := (hq.blkLt k hk).1; have h2 := hN k (h.row.blk k e); omega)
    refine h.setList (S := fun k => blk A = some k) hgr h.row_ne (fun k hk e => h.row_cut e hk) ⟨.inl h.has, fun k hk => .inl (h.cut.blk k hk)⟩ ?_ (hrow.mono (fun k hk => .inr (.inl hk))) ?_ (by simp; omega)
    · rintro k (hk | hk | hk)
      · exact Nat.lt_of_lt_of_le (h.lt k hk) hgr.size
      · exact hrow.lt k hk
      · exact (hq6.blkLt k hk).2
    · refine ((h.byt.keep hgr (fun r hr k hk e => h.byt_row e r hr hk)).mono (fun r hr k hk => .inl ((h.byt.own r hr).2.2 k hk))).snoc q (hq6.weaken (Nat.zero_le _)) hd (fun k hk => .inr (.inr hk)) (fun k hk r hr e => ?_)
      have h1 := (hq.blkLt k hk).1
      have h2 := hN k ((h.byt.own r hr).2.2 k e)
      omega
  · exact (hgr.mono (fun k hk => h.row.blk k hk)).setCell g 0 _ (fun _ => h.has)
  · rintro k (hk | hk | hk)
    · exact .inl hk
    · rcases hat with hat | hat
      · exact .inl (h.row.blk k (by rw [← hat]; exact hk))
      · rw [hat] at hk; injection hk with hk; exact .inr (by omega)
    · exact .inr (hq.blkLt k hk).1

set_option maxHeartbeats 1600000 in
set_option maxRecDepth 100000 in
theorem add_any (F : Nat → Prop) (g : Nat) (s : Po.St) (A0 : Option Addr) (c0 : Nat) (x : Po.Pk) (t : Bool) (hd : x.d.length ≤ 1024) (w : World) (h : PostAt w F g s) (hx : IsBytes w w.heap.size A0 x.d) (hn : A0 = none → c0 = 0) :
    Calls Try.prog 39 #[.pointer (some ⟨g, 0, none⟩), .agg #[.int .i64 x.a, .int .i64 x.b, .slice A0 x.d.length c0, .bool t]] w fun e w' =>
      e = .returned (.int .i64 (Po.layE s)) ∧ ∃ F', PostAt w' F' g (Po.layS s x t) ∧ Step F F' w w' := by
  obtain ⟨i0, hi, hz0, hz1, hz2⟩ := info_parts info_transit
  obtain ⟨L, A, c, A', c', h1, h2⟩ := h
  have hl : s.l.length = L.length := by rw [h2, List.length_map]
  have hgl := h1.lt g h1.has
  obtain ⟨w1, hw1⟩ : ∃ w1, w1 = w.alloc (.cells #[.int .i64 x.a, .int .i64 x.b, .slice A0 x.d.length c0, .bool t] 62) := ⟨_, rfl⟩
  have hb1 : Below w.heap.size w w1 := by rw [hw1]; exact (Below.refl _ w).alloc (Nat.le_refl _) _
  have hs1 : w1.heap.size = w.heap.size + 1 := by rw [hw1]; simp
  have g0 := (h1.below hb1).cell0
  have HE : Hid (Po.layE s = if L.length = 256 then 8 else 0) := hid (by unfold Po.layE; rw [hl])
  have HS : Hid (Po.layS s x t = if L.length = 256 then s else Po.lay s x t) := hid (by unfold Po.layS; rw [hl])
  by_cases hf : L.length = 256
  · have e1 := HE.out
    have e2 := HS.out
    rw [if_pos hf] at e1 e2
    have HR : Hid (Po.layE s = 8 ∧ PostAt w1 F g (Po.layS s x t) ∧ Below w.heap.size w w1) := by
      rw [e2]
      exact ⟨e1, ⟨L, A, c, A', c', h1.below hb1, h2⟩, hb1⟩
    rw [hf] at g0
    rw [hw1] at g0 HR
    clear HE HS e1 e2 h1 h2 hl hb1 hs1 hf hw1 hx
    go_enter Try.func39, Try.ntmps39
    go_wp2_with fail
    go_ret
    exact ⟨ret_int HR.out.1.symm, F, HR.out.2.1, Step.ofBelow F HR.out.2.2⟩
  · have e1 := HE.out
    have e2 := HS.out
    rw [if_neg hf] at e1 e2
    have HO := hid (own_any w.heap.size A0 c0 x.a x.b x.d hd w1 (hx.below hb1) hb1.size hn)
    have HR : Hid (PostIs w1 F g L A c s.c A' c' ∧ Below w.heap.size w w1 ∧ w1.heap.size = w.heap.size + 1 ∧ (∀ k, F k → k < w.heap.size) ∧ L.length ≠ 256 ∧ w1.frozen? ⟨w.heap.size, 0, none⟩ = false) := hid ⟨h1.below hb1, hb1, hs1, h1.lt, hf, by rw [hw1]; simp⟩
    have HF := hid (And.intro h2 (And.intro e1 e2))
    have hf0 : (L.length : Int) ≠ 256 := by omega
    rw [hw1] at g0 HR HO
    have HW := hid hw1
    clear HE HS e1 e2 h1 h2 hl hb1 hs1 hf hw1 hx
    go_enter Try.func39, Try.ntmps39
    go_wp2_with fail
    refine HO.out.mono ?_
    rintro e w2 ⟨A2, c2, rfl, ho2, hb2⟩
    have b0 : w2.cell? ⟨w.heap.size, 0, none⟩ = some (.int .i64 x.a) := by rw [hb2.cell (by simp)]; simp
    have b1 : w2.cell? ⟨w.heap.size, 1, none⟩ = some (.int .i64 x.b) := by rw [hb2.cell (by simp)]; simp
    have b2 : w2.cell? ⟨w.heap.size, 2, none⟩ = some (.slice A0 x.d.length c0) := by rw [hb2.cell (by simp)]; simp
    have b3 : w2.cell? ⟨w.heap.size, 3, none⟩ = some (.bool t) := by rw [hb2.cell (by simp)]; simp
    have bf : ∀ k, w2.frozen? ⟨w.heap.size, k, none⟩ = false := fun k => by rw [hb2.frozen (by simp)]; simp
    obtain ⟨w3, hw3⟩ : ∃ w3, w3 = ((w2.setCell ⟨w.heap.size, 0, none⟩ (.int .i64 x.a)).setCell ⟨w.heap.size, 1, none⟩ (.int .i64 x.b)).setCell ⟨w.heap.size, 2, none⟩ (.slice A2 x.d.length c2) := ⟨_, rfl⟩
    have ht3 : Turned (fun k => k = w.heap.size) w2 w3 := by rw [hw3]; exact Turned.three _ _ _ _ _ _ _ _
    have hp3 : PostIs w3 F g L A c s.c A' c' := (HR.out.1.below hb2).keep ht3 (fun k hk e => by have := HR.out.2.2.2.1 k hk; omega)
    have ho3 : OwnsB 5 w3 (w.heap.size + 1) A2 c2 x.d := (ho2.turned ht3 (fun k hk e => by have := (ho2.blkLt k hk).1; simp at this; omega)).weaken (by simp)
    have hT3 : Turned F w w3 := (Turned.ofBelow F (HR.out.2.1.trans (hb2.mono (by simp)))).then_ ht3 (fun k hk e => by omega)
    have b3' : w3.cell? ⟨w.heap.size, 3, none⟩ = some (.bool t) := by rw [hw3]; simp [go_sem, b3]
    have b0' : w3.cell? ⟨w.heap.size, 0, none⟩ = some (.int .i64 x.a) := by rw [hw3]; simp [go_sem, b0]
    have b1' : w3.cell? ⟨w.heap.size, 1, none⟩ = some (.int .i64 x.b) := by rw [hw3]; simp [go_sem, b1]
    have b2' : w3.cell? ⟨w.heap.size, 2, none⟩ = some (.slice A2 x.d.length c2) := by rw [hw3]; simp [go_sem, b2]
    have g3 := hp3.cell0
    have H3 := hid (And.intro hp3 (And.intro ho3 hT3))
    clear ht3 hp3 ho3 hT3 hb2 ho2 HO
    go_wp2_with fail
    rw [← hw3]
    clear hw3 b0 b1 b2 b3 bf
    have hrow : RowIn cellsT 4 62 (w3.drew.alloc (.cells #[.int .i64 x.a, .int .i64 x.b, .slice A2 x.d.length c2, .bool t] 62)) F A c L :=
      H3.out.1.row.below (((Below.refl _ w3).drew).alloc (Nat.le_refl _) _)
    have HRW := hid hrow
    have hg3 : g < w3.heap.size := H3.out.1.lt g H3.out.1.has
    have hg3n : g ≠ w3.heap.size := by omega
    clear hrow
    go_region_law ((refine step_append_row (by rfl) _ _ 53 (by rfl) i0 _ Try.underlying53 hi hz0 hz1 hz2 (by rfl) (by decide) HRW.out L.length rfl (by rfl) (⟨x, A2, c2⟩, t) ⟨w3.heap.size, 0, none⟩ 1 (by rfl) (fun k _ => cells_new w3.drew _ _ k) (cellsT_one _) (by have := H3.out.1.len; omega) (by have := H3.out.1.len; omega) ?_; intro A6 c6 w6 hrow6 hgr6 hat6; have hT6 := ((Turned.refl (fun k => blk A = some k) w3).drew.alloc _).trans (Turned.ofGrown hgr6 (fun k hk => hk)); have hc6 := (hT6.cell (p := ⟨g, 0, none⟩) hg3 H3.out.1.row_ne).trans g3; have hf6 := (World.frozen?_of_block (a := ⟨g, 0, none⟩) (hT6.block g hg3 H3.out.1.row_ne)).trans (H3.out.1.frozen 0); have HT6 := hid hT6; clear hT6; have H6 := hid (And.intro hrow6 (And.intro hgr6 hat6)); clear hrow6 hgr6 hat6))
    all_goals
      (go_wp2_with fail
       go_ret
       obtain ⟨F', hP, hT, hN⟩ := PostIs.added (N := w.heap.size + 1) H3.out.1 HR.out.2.2.2.2.1 (⟨x, A2, c2⟩, t) H3.out.2.1 hd (fun k hk => by have := HR.out.2.2.2.1 k hk; omega) H6.out.1 HT6.out H6.out.2.2 (by have := H3.out.2.2.size; simp; omega)
       refine ⟨ret_int HF.out.2.1.symm, F', ⟨L ++ [(⟨x, A2, c2⟩, t)], A6, c6, A', c', ?_, ?_⟩, ⟨H3.out.2.2.then_ hT (fun k _ e => e), fun k hk => (hN k hk).imp id (fun e => by omega)⟩⟩
       · rw [HF.out.2.2]; exact hP
       · rw [HF.out.2.2]; show s.l ++ [(x, t)] = _; rw [HF.out.1, List.map_append]; rfl)
end Go.Proofs.Ytckfjkhjnpkobaa
