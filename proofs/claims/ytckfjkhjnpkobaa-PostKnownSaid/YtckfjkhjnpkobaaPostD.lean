/- The walks through the post's sending and doubling. -/
import Derived.Test.YtckfjkhjnpkobaaPostC
import Derived.Deep.RegionHeld3
namespace Go.Proofs.Ytckfjkhjnpkobaa
open Go.RowKit

theorem contains_B (F : Nat → Prop) (A : Option Addr) (c n : Nat) (C : List (Int × Int)) (hl : C.length ≤ 64) (hn : C.length = n) (a b : Int) (x : Int × Int) (ha : x.1 = a) (hb : x.2 = b) (t : Bool) (ht : decide (x ∈ C) = t) (w : World) (h : RowIn cellsL 2 66 w F A c C) :
    Calls Try.prog 37 #[.slice A n c, .agg #[.int .i64 a, .int .i64 b]] w fun e w' => e = .returned (.bool t) ∧ Below w.heap.size w w' := by
  subst hn ha hb ht
  exact contains_any F A c C hl x w h

set_option maxHeartbeats 1600000 in
set_option maxRecDepth 100000 in
theorem send_any (F : Nat → Prop) (g : Nat) (s : Po.St) (A0 : Option Addr) (c0 : Nat) (x : Po.Pk) (hd : x.d.length ≤ 1024) (w : World) (h : PostAt w F g s) (hx : ∀ w', Turned F w w' → IsBytes w' w'.heap.size A0 x.d) (hn : A0 = none → c0 = 0) :
    Calls Try.prog 16 #[.pointer (some ⟨g, 0, none⟩), .agg #[.int .i64 x.a, .int .i64 x.b, .slice A0 x.d.length c0]] w fun e w' =>
      e = .returned (.int .i64 (Po.sendE s x)) ∧ ∃ F', PostAt w' F' g (Po.sendS s x) ∧ Step F F' w w' := by
  obtain ⟨w1, hw1⟩ : ∃ w1, w1 = w.alloc (.cells #[.int .i64 x.a, .int .i64 x.b, .slice A0 x.d.length c0] 42) := ⟨_, rfl⟩
  have hb1 : Below w.heap.size w w1 := by rw [hw1]; exact (Below.refl _ w).alloc (Nat.le_refl _) _
  have hs1 : w1.heap.size = w.heap.size + 1 := by rw [hw1]; simp
  have x0 : w1.cell? ⟨w.heap.size, 0, none⟩ = some (.int .i64 x.a) := by rw [hw1]; simp
  have x1 : w1.cell? ⟨w.heap.size, 1, none⟩ = some (.int .i64 x.b) := by rw [hw1]; simp
  have x2 : w1.cell? ⟨w.heap.size, 2, none⟩ = some (.slice A0 x.d.length c0) := by rw [hw1]; simp
  have hgl := h.lt g h.has
  have hp1 := h.below hb1
  obtain ⟨L, A, c, A', c', h1, h2⟩ := hp1
  have g1 := h1.cell1
  have HC := hid h1.cut
  have HP : Hid (PostAt w1 F g s ∧ s.c.length ≤ 64) := hid ⟨⟨L, A, c, A', c', h1, h2⟩, h1.cuts⟩
  have HX := hid hx
  have HB := hid (And.intro hb1 hs1)
  clear h hx h1 h2
  obtain ⟨t, ht⟩ : ∃ t, t = Po.isCut s x.a x.b := ⟨_, rfl⟩
  have HT := hid ht
  clear ht
  go_enter Try.func16, Try.ntmps16
  go_wp2_with fail
  rw [← hw1]
  have hgs : g < w1.heap.size := by omega
  have hsz : w.heap.size < w1.heap.size := by omega
  clear hw1 hb1
  have HK : Hid (∀ w', Below w1.heap.size w1 w' → w'.cell? ⟨g, 1, none⟩ = some (.slice A' s.c.length c') ∧ w'.cell? ⟨w.heap.size, 0, none⟩ = some (.int .i64 x.a) ∧ w'.cell? ⟨w.heap.size, 1, none⟩ = some (.int .i64 x.b)) := hid (fun w' hb => ⟨(hb.cell (p := ⟨g, 1, none⟩) hgs).trans g1, (hb.cell (p := ⟨w.heap.size, 0, none⟩) hsz).trans x0, (hb.cell (p := ⟨w.heap.size, 1, none⟩) hsz).trans x1⟩)
  have g1W : w1.drew.cell? ⟨g, 1, none⟩ = some (.slice A' s.c.length c') := g1
  have x0W : w1.drew.cell? ⟨w.heap.size, 0, none⟩ = some (.int .i64 x.a) := x0
  have x1W : w1.drew.cell? ⟨w.heap.size, 1, none⟩ = some (.int .i64 x.b) := x1
  go_region_held3 (fun w' => w'.cell? ⟨g, 1, none⟩ = some (.slice A' s.c.length c') ∧ w'.cell? ⟨w.heap.size, 0, none⟩ = some (.int .i64 x.a) ∧ w'.cell? ⟨w.heap.size, 1, none⟩ = some (.int .i64 x.b))
    (first | exact ⟨g1W, x0W, x1W⟩ | exact HK.out _ hb2 | exact HK.out _ hb4)
    (first
      | (go_at_call 37; refine (contains_B F A' c' s.c.length s.c HP.out.2 rfl _ _ (Po.norm x.a x.b) rfl rfl t HT.out.symm _ (HC.out.below hb2)).mono ?_; rintro e w4 ⟨rfl, hb4'⟩; have hb4 := hb2.trans (hb4'.mono hb2.size); clear hb4')
      | (go_at_call 38; refine (between_any x.a x.b _).mono ?_; rintro e w2 ⟨rfl, hb2'⟩; have hb2 := (Below.refl _ w1).drew.trans hb2'; clear hb2'))
  have hB4 : Below w.heap.size w w4 := HB.out.1.trans (hb4.mono HB.out.1.size)
  have hp4 := HP.out.1.below hb4
  have z0 := (hb4.cell (p := ⟨w.heap.size, 0, none⟩) hsz).trans x0
  have z1 := (hb4.cell (p := ⟨w.heap.size, 1, none⟩) hsz).trans x1
  have z2 := (hb4.cell (p := ⟨w.heap.size, 2, none⟩) hsz).trans x2
  have HA := hid (add_any F g s A0 c0 x false hd w4 hp4 (HX.out w4 (Turned.ofBelow F hB4)) hn)
  have H4 := hid (And.intro hp4 hB4)
  clear hb4 hb2 hp4 hB4 HK g1 x0 x1 x2 g1W x0W x1W
  cases t
  · have e1 : Hid (Po.sendE s x = Po.layE s ∧ Po.sendS s x = Po.layS s x false) := hid (by unfold Po.sendE Po.sendS; rw [← HT.out]; exact ⟨rfl, rfl⟩)
    go_wp2_with fail
    refine HA.out.mono ?_
    rintro e w5 ⟨rfl, F', hp5, hs5⟩
    have H5 := hid (And.intro hp5 hs5)
    clear hp5 hs5
    go_wp2_with fail
    go_ret
    exact ⟨ret_int e1.out.1.symm, F', by rw [e1.out.2]; exact H5.out.1, (Step.ofBelow F H4.out.2).trans H5.out.2⟩
  · have e1 : Hid (Po.sendE s x = 0 ∧ Po.sendS s x = s) := hid (by unfold Po.sendE Po.sendS; rw [← HT.out]; exact ⟨rfl, rfl⟩)
    go_wp2_with fail
    go_ret
    exact ⟨ret_int e1.out.1.symm, F, by rw [e1.out.2]; exact H4.out.1, Step.ofBelow F H4.out.2⟩

/-- one of the packets under way, in memory -/
theorem PostIs.item {w : World} {F : Nat → Prop} {g : Nat} {L : List (Pl × Bool)} {A : Option Addr} {c : Nat} {C : List (Int × Int)} {A' : Option Addr} {c' : Nat} (h : PostIs w F g L A c C A' c') (i : Nat) (hi : i < L.length) :
    ∃ b, A = some ⟨b, 0, none⟩ ∧ b ≠ g ∧ b < w.heap.size ∧ F b ∧ w.cell? ⟨b, i * 4, none⟩ = some (.int .i64 L[i].1.p.a) ∧ w.cell? ⟨b, i * 4 + 1, none⟩ = some (.int .i64 L[i].1.p.b) ∧ w.cell? ⟨b, i * 4 + 2, none⟩ = some (.slice L[i].1.A L[i].1.p.d.length L[i].1.c) ∧ w.cell? ⟨b, i * 4 + 3, none⟩ = some (.bool L[i].2) ∧
      (∀ k, w.frozen? ⟨b, k, none⟩ = false) ∧ OwnsB 5 w 0 L[i].1.A L[i].1.c L[i].1.p.d ∧ L[i].1.p.d.length ≤ 1024 := by
  obtain ⟨b, rfl, hb, hF, hc, hf⟩ := h.row.get i hi
  have ho := h.byt.own L[i] (List.getElem_mem hi)
  exact ⟨b, rfl, fun e => h.row_ne (by rw [e]; rfl), hb, hF, hc 0 (by omega), hc 1 (by omega), hc 2 (by omega), hc 3 (by omega), hf, ho.1, ho.2.1⟩
theorem pkt_at {s : Po.St} {L : List (Pl × Bool)} (h : s.l = L.map strip) (i : Nat) (hi : i < L.length) : Po.pkt s (i : Int) = strip L[i] := by
  unfold Po.pkt
  rw [h, Int.toNat_natCast, List.getElem?_map, List.getElem?_eq_getElem hi]
  rfl

set_option maxHeartbeats 800000 in
set_option maxRecDepth 100000 in
theorem double_any (F : Nat → Prop) (g : Nat) (s : Po.St) (i : Int) (w : World) (h : PostAt w F g s) :
    Calls Try.prog 31 #[.pointer (some ⟨g, 0, none⟩), .int .i64 i] w fun e w' =>
      e = .returned (.int .i64 (Po.dblE s i)) ∧ ∃ F', PostAt w' F' g (Po.dblS s i) ∧ Step F F' w w' := by
  have HH := hid (has_any F g s i w h)
  have HP := hid h
  obtain ⟨t, ht⟩ : ∃ t, t = Po.has s i := ⟨_, rfl⟩
  rw [← ht] at HH
  have HT := hid ht
  cases t
  · have e1 : Hid (Po.dblE s i = 6 ∧ Po.dblS s i = s) := hid (by unfold Po.dblE Po.dblS; rw [← ht]; exact ⟨rfl, rfl⟩)
    clear h ht
    go_enter Try.func31, Try.ntmps31
    go_wp2_with fail
    refine HH.out.mono ?_
    rintro e w2 ⟨rfl, rfl⟩
    go_wp2_with fail
    go_ret
    exact ⟨ret_int e1.out.1.symm, F, by rw [e1.out.2]; exact HP.out, Step.refl F _⟩
  · obtain ⟨h0, h1⟩ := Po.has_iff.1 ht.symm
    obtain ⟨n, rfl⟩ := Int.eq_ofNat_of_zero_le h0
    obtain ⟨L, A, c, A', c', hI, hs⟩ := h
    have hl : s.l.length = L.length := by rw [hs, List.length_map]
    have hn : n < L.length := by omega
    obtain ⟨b, rfl, hbg, hbs, hFb, d0, d1, d2, d3, _, hO, hd⟩ := hI.item n hn
    have g0 := hI.cell0
    have hpk := pkt_at hs n hn
    have e1 : Hid (Po.dblE s n = Po.layE s ∧ Po.dblS s n = Po.layS s L[n].1.p L[n].2) := hid (by unfold Po.dblE Po.dblS; rw [← ht, hpk]; exact ⟨rfl, rfl⟩)
    have HA := hid (add_any F g s L[n].1.A L[n].1.c L[n].1.p L[n].2 hd w HP.out hO.reads hO.none_)
    have hk0 : (n : Int) < (L.length : Int) := by omega
    clear hI hs hpk ht HT h1 hl hO
    go_enter Try.func31, Try.ntmps31
    go_wp2_with fail
    refine HH.out.mono ?_
    rintro e w2 ⟨rfl, rfl⟩
    go_wp2_with fail
    refine HA.out.mono ?_
    rintro e w5 ⟨rfl, F', hp5, hs5⟩
    have H5 := hid (And.intro hp5 hs5)
    clear hp5 hs5
    go_wp2_with fail
    go_ret
    exact ⟨ret_int e1.out.1.symm, F', by rw [e1.out.2]; exact H5.out.1, H5.out.2⟩
end Go.Proofs.Ytckfjkhjnpkobaa
