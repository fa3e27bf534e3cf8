/- Texts of the proof, one behind the other: CfB, CfC, CfE, CfF, CfG, RqI, RqD, RqA, KitInts, RqB, CfR, CfS, CfT. -/
import Derived.Test.YtfkjahpcpmcefaaGreatConfKnownPartAB
import Derived.Deep.RegionHeld3
import Derived.WalkMore
import Derived.Test.YtfkjahpcpmcefaaGreatConfKnownPartAA
import Derived.StillTailTactics
import Derived.BigQuiet
namespace Go.Proofs.YtfkjahpcpmcefaaGreat.Co
open Go Go.RowKit
open Qu (Cf)
set_option maxRecDepth 100000
set_option linter.unusedVariables false
attribute [local go_sem ↓] Im.loadAt_conf3 Im.storeAt_conf3 loadAt_mem storeAt_mem
theorem clone_M (B : Nat) (A : Option Addr) (c n : Nat) (l : List Int) (hn : n = l.length) (hl : n ≤ 60000) (hz : A = none → c = 0) (w : World) (h : IsInts w B A l) (hB : B ≤ w.heap.size) :
    Calls Tryz.prog 64 #[.slice A n c] w fun e w' => ∃ A' c', e = .returned (.slice A' n c') ∧ OwnsI 3 w' w.heap.size A' c' l ∧ Below w.heap.size w w' := by
  subst hn; exact I.iclone_any B A c l (by omega) w h hB hz
theorem box2 (w : World) (t : TypeId) (m : M3) : Below w.heap.size w ((w.alloc (.cells #[.slice m.a0 m.n0 m.k0, .slice m.a1 m.n1 m.k1, .slice m.a2 m.n2 m.k2] t)).alloc (.cells #[.slice none 0 0, .slice none 0 0, .slice none 0 0] 24)) ∧ ((w.alloc (.cells #[.slice m.a0 m.n0 m.k0, .slice m.a1 m.n1 m.k1, .slice m.a2 m.n2 m.k2] t)).alloc (.cells #[.slice none 0 0, .slice none 0 0, .slice none 0 0] 24)).heap.size = w.heap.size + 2 ∧
    Bx ((w.alloc (.cells #[.slice m.a0 m.n0 m.k0, .slice m.a1 m.n1 m.k1, .slice m.a2 m.n2 m.k2] t)).alloc (.cells #[.slice none 0 0, .slice none 0 0, .slice none 0 0] 24)) w.heap.size t m ∧ Bx ((w.alloc (.cells #[.slice m.a0 m.n0 m.k0, .slice m.a1 m.n1 m.k1, .slice m.a2 m.n2 m.k2] t)).alloc (.cells #[.slice none 0 0, .slice none 0 0, .slice none 0 0] 24)) (w.heap.size + 1) 24 mNil := by
  refine ⟨((Below.refl _ _).alloc (Nat.le_refl _) _).alloc (by simp) _, by simp, ?_, ?_⟩
  · unfold Bx; rw [Below.heap_alloc _ _ _ (by simp)]; exact heap_alloc_new w _
  · have := heap_alloc_new (w.alloc (.cells #[.slice m.a0 m.n0 m.k0, .slice m.a1 m.n1 m.k1, .slice m.a2 m.n2 m.k2] t)) (.cells #[.slice none 0 0, .slice none 0 0, .slice none 0 0] 24)
    rw [World.size_alloc] at this
    exact this
theorem own1 {w : World} {B c n : Nat} {A : Option Addr} {l : List Int} (h : OwnsI 3 w B A c l) (hn : n = l.length) : OwnC w B w.heap.size ⟨l, [], []⟩ ⟨A, n, c, none, 0, 0, none, 0, 0⟩ :=
  ⟨h, OwnsI.nil _ _ _, OwnsI.nil _ _ _, hn, rfl, rfl, fun k e => (h.blkLt k e).2, (fun k e => by cases e), (fun k e => by cases e), (fun k _ e => by cases e), (fun k _ e => by cases e), (fun k e => by cases e)⟩
theorem own2 {w : World} {B c n c1 n1 : Nat} {A A1 : Option Addr} {l l1 : List Int} (h : OwnsI 3 w B A c l) (hn : n = l.length) (h1 : OwnsI 3 w B A1 c1 l1) (hn1 : n1 = l1.length) (hd : ∀ k, blk A = some k → blk A1 ≠ some k) : OwnC w B w.heap.size ⟨l, l1, []⟩ ⟨A, n, c, A1, n1, c1, none, 0, 0⟩ :=
  ⟨h, h1, OwnsI.nil _ _ _, hn, hn1, rfl, fun k e => (h.blkLt k e).2, fun k e => (h1.blkLt k e).2, (fun k e => by cases e), hd, (fun k _ e => by cases e), (fun k _ e => by cases e)⟩
theorem own2l {w : World} {B c n c1 n1 : Nat} {A A1 : Option Addr} {l l1 : List Int} (h : OwnsI 3 w B A c l) (hn : n = l.length) (h1 : OwnsI 3 w B A1 c1 l1) (hn1 : n1 = l1.length) (hd : ∀ k, blk A = some k → blk A1 ≠ some k) : OwnC w B w.heap.size ⟨l, [], l1⟩ ⟨A, n, c, none, 0, 0, A1, n1, c1⟩ :=
  ⟨h, OwnsI.nil _ _ _, h1, hn, rfl, hn1, fun k e => (h.blkLt k e).2, (fun k e => by cases e), fun k e => (h1.blkLt k e).2, (fun k _ e => by cases e), hd, (fun k e => by cases e)⟩
theorem own3 {w : World} {B c n c1 n1 c2 n2 : Nat} {A A1 A2 : Option Addr} {l l1 l2 : List Int} (h : OwnsI 3 w B A c l) (hn : n = l.length) (h1 : OwnsI 3 w B A1 c1 l1) (hn1 : n1 = l1.length) (h2 : OwnsI 3 w B A2 c2 l2) (hn2 : n2 = l2.length) (hd : ∀ k, blk A = some k → blk A1 ≠ some k) (hd2 : ∀ k, blk A = some k → blk A2 ≠ some k) (hd3 : ∀ k, blk A1 = some k → blk A2 ≠ some k) : OwnC w B w.heap.size ⟨l, l1, l2⟩ ⟨A, n, c, A1, n1, c1, A2, n2, c2⟩ :=
  ⟨h, h1, h2, hn, hn1, hn2, fun k e => (h.blkLt k e).2, fun k e => (h1.blkLt k e).2, fun k e => (h2.blkLt k e).2, hd, hd2, hd3⟩
def Got (w : World) (x : Cf) (e : Ending) (w' : World) : Prop := ∃ m : M3, e = .returned (.agg #[.slice m.a0 m.n0 m.k0, .slice m.a1 m.n1 m.k1, .slice m.a2 m.n2 m.k2]) ∧ OwnC w' w.heap.size w'.heap.size x m ∧ Below w.heap.size w w'
theorem got_box {w w2 w3 : World} {x : Cf} {m : M3} {b : Nat} (h : OwnC w3 w2.heap.size w3.heap.size x m) (hb : Below w.heap.size w w3) (hs : w.heap.size ≤ b ∧ b < w2.heap.size) : OwnC (w3.setRow b #[.slice m.a0 m.n0 m.k0, .slice m.a1 m.n1 m.k1, .slice m.a2 m.n2 m.k2]) w.heap.size (w3.setRow b #[.slice m.a0 m.n0 m.k0, .slice m.a1 m.n1 m.k1, .slice m.a2 m.n2 m.k2]).heap.size x m ∧ Below w.heap.size w (w3.setRow b #[.slice m.a0 m.n0 m.k0, .slice m.a1 m.n1 m.k1, .slice m.a2 m.n2 m.k2]) :=
  ⟨(h.turned (Bx.tur w3 b m) (fun k hk => by omega)).wide (by omega) (Bx.tur w3 b m).size, hb.trans ((Bx.tur w3 b m).below hb.size (fun k hk => by omega))⟩
set_option maxHeartbeats 1600000 in
theorem newAlone_any (B : Nat) (c : Cf) (hs : Short c) (m : M3) (w : World) (h : InC w B c m) (hB : B ≤ w.heap.size) :
    Calls Tryz.prog 69 #[.agg #[.slice m.a0 m.n0 m.k0, .slice m.a1 m.n1 m.k1, .slice m.a2 m.n2 m.k2]] w (Got w ⟨c.new, [], []⟩) := by
  obtain ⟨w2, hw2⟩ : ∃ w2, w2 = (w.alloc (.cells #[.slice m.a0 m.n0 m.k0, .slice m.a1 m.n1 m.k1, .slice m.a2 m.n2 m.k2] 61)).alloc (.cells #[.slice none 0 0, .slice none 0 0, .slice none 0 0] 24) := ⟨_, rfl⟩
  have hq := box2 w 61 m
  have hld := hq.2.2.1.c1
  rw [← hw2] at hq
  have HQ := hid hq
  have HC := hid (clone_M B m.a1 m.k1 m.n1 c.new h.e1 (by have := h.e1; have := hs.2.1; omega) h.cis.zn w2 ((h.below (hq.1.mono hB)).n) (by have := hq.2.1; omega))
  have HE := hid h.e1
  clear h hq
  go_enter Tryz.func69, Tryz.ntmps69
  go_wp2_with fail
  rw [← hw2]
  clear hw2 hld
  refine HC.out.mono ?_
  rintro e w3 ⟨A, c1, rfl, ho, hb3⟩
  have hbx := HQ.out.2.2.2.below hb3 (by have := HQ.out.2.1; omega)
  have hst := hbx.st (m' := ⟨A, m.n1, c1, none, 0, 0, none, 0, 0⟩)
  have H3 := hid (And.intro (hbx.set ⟨A, m.n1, c1, none, 0, 0, none, 0, 0⟩) (got_box (own1 ho HE.out) (HQ.out.1.trans (hb3.mono HQ.out.1.size)) (b := w.heap.size + 1) ⟨by omega, by have := HQ.out.2.1; omega⟩))
  clear ho hb3 hbx
  go_wp2_with fail
  refine bodyPost_ret (results_cell_row rfl _ _ (w.heap.size + 1) _ _ _ _ rfl H3.out.1 Tryz.underlying24 rfl (by rw [Im.info_conf33]; rfl)) rfl ?_
  exact ⟨_, rfl, H3.out.2.1, H3.out.2.2⟩
theorem ownsI_one (w : World) (n : Int) (hn : InInt n) : OwnsI 3 (w.alloc (.cells #[.int .i64 n] 3)) w.heap.size (some ⟨w.heap.size, 0, none⟩) 1 [n] := by
  refine ⟨by simpa using hn, by simp [ints], .inr ⟨w.heap.size, 1, _, rfl, Nat.le_refl _, heap_alloc_new w _, by simp, by unfold maxLen; omega, by simp, by simp [ints]⟩⟩
set_option maxHeartbeats 1600000 in
theorem learning_any (B : Nat) (c : Cf) (hs : Short c) (m : M3) (n : Int) (hn : InInt n) (w : World) (h : InC w B c m) (hB : B ≤ w.heap.size) :
    Calls Tryz.prog 35 #[.agg #[.slice m.a0 m.n0 m.k0, .slice m.a1 m.n1 m.k1, .slice m.a2 m.n2 m.k2], .int .i64 n] w (Got w ⟨c.old, [], [n]⟩) := by
  obtain ⟨w2, hw2⟩ : ∃ w2, w2 = (w.alloc (.cells #[.slice m.a0 m.n0 m.k0, .slice m.a1 m.n1 m.k1, .slice m.a2 m.n2 m.k2] 61)).alloc (.cells #[.slice none 0 0, .slice none 0 0, .slice none 0 0] 24) := ⟨_, rfl⟩
  have hq := box2 w 61 m
  have hld := hq.2.2.1.c0
  rw [← hw2] at hq
  have HQ := hid hq
  have HC := hid (clone_M B m.a0 m.k0 m.n0 c.old h.e0 (by have := h.e0; have := hs.1; omega) h.cis.zo w2 ((h.below (hq.1.mono hB)).o) (by have := hq.2.1; omega))
  have HE := hid h.e0
  clear h hq
  go_enter Tryz.func35, Tryz.ntmps35
  go_wp2_with fail
  rw [← hw2]
  clear hw2 hld
  refine HC.out.mono ?_
  rintro e w3 ⟨A, c1, rfl, ho, hb3⟩
  obtain ⟨w4, hw4⟩ : ∃ w4, w4 = w3.alloc (.cells #[.int .i64 n] 3) := ⟨_, rfl⟩
  have hb4 : Below w3.heap.size w3 w4 := by rw [hw4]; exact below_new w3 _
  have ho4 := ownsI_one w3 n hn
  rw [← hw4] at ho4
  have hz3 := hb3.size
  have hbx := (HQ.out.2.2.2.below hb3 (by have := HQ.out.2.1; omega)).below hb4 (by have := HQ.out.2.1; omega)
  have hst := hbx.st (m' := ⟨A, m.n0, c1, none, 0, 0, some ⟨w3.heap.size, 0, none⟩, 1, 1⟩)
  have hd : ∀ k, blk A = some k → blk (some ⟨w3.heap.size, 0, none⟩) ≠ some k := fun k hk e => by
    have := (ho.blkLt k hk).2
    have e2 : w3.heap.size = k := by injection e
    omega
  have H3 := hid (And.intro (hbx.set ⟨A, m.n0, c1, none, 0, 0, some ⟨w3.heap.size, 0, none⟩, 1, 1⟩) (got_box (own2l (ho.below hb4) HE.out (ho4.weaken hz3) (show 1 = [n].length from rfl) hd) (HQ.out.1.trans ((hb3.mono HQ.out.1.size).trans (hb4.mono (by have := HQ.out.1.size; omega)))) (b := w.heap.size + 1) ⟨by omega, by have := HQ.out.2.1; omega⟩))
  have HW := hid hw4
  rw [hw4] at hst
  clear ho hb3 hbx hb4 ho4 hd hw4 hz3
  go_wp2_with fail
  rw [← HW.out]
  refine bodyPost_ret (results_cell_row rfl _ _ (w.heap.size + 1) _ _ _ _ rfl H3.out.1 Tryz.underlying24 rfl (by rw [Im.info_conf33]; rfl)) rfl ?_
  exact ⟨_, rfl, H3.out.2.1, H3.out.2.2⟩
end Go.Proofs.YtfkjahpcpmcefaaGreat.Co
namespace Go.Proofs.YtfkjahpcpmcefaaGreat.Co
open Go Go.RowKit
open Qu (Cf)
set_option maxRecDepth 100000
set_option linter.unusedVariables false
attribute [local go_sem ↓] Im.loadAt_conf3 Im.storeAt_conf3 loadAt_mem storeAt_mem
theorem leaving1_any (b : Nat) (n x : Int) (w : World) (hb : w.cell? ⟨b, 0, none⟩ = some (.int .i64 n)) :
    Calls Tryz.prog 66 #[.int .i64 x, .pointer (some ⟨b, 0, none⟩)] w fun e w' => e = .returned (.bool (x == n)) ∧ w' = w := by
  go_enter Tryz.func66, Tryz.ntmps66
  go_wp2_with fail
  go_ret
  exact ⟨rfl, rfl⟩
theorem filter_ne (l : List Int) (n : Int) : l.filter (fun x => !(x == n)) = l.filter (fun x => decide (x ≠ n)) := by
  congr 1
  funext x
  by_cases h : x = n
  · simp [h]
  · simp [h]
set_option maxHeartbeats 3200000 in
theorem leaving_any (B : Nat) (c : Cf) (hs : Short c) (m : M3) (n : Int) (w : World) (h : InC w B c m) (hB : B ≤ w.heap.size) :
    Calls Tryz.prog 37 #[.agg #[.slice m.a0 m.n0 m.k0, .slice m.a1 m.n1 m.k1, .slice m.a2 m.n2 m.k2], .int .i64 n] w (Got w ⟨c.old, c.old.filter (fun x => decide (x ≠ n)), []⟩) := by
  have hmf : ∀ (fn : Fn) (first cap : Array Value) (w : World), (Instr.makeFunc fn first cap).run Tryz.prog w = .ok (.func fn first cap) w := fun _ _ _ _ => rfl
  obtain ⟨w3, hw3⟩ : ∃ w3, w3 = ((w.alloc (.cells #[.slice m.a0 m.n0 m.k0, .slice m.a1 m.n1 m.k1, .slice m.a2 m.n2 m.k2] 61)).alloc (.cells #[.int .i64 n] 3)).alloc (.cells #[.slice none 0 0, .slice none 0 0, .slice none 0 0] 24) := ⟨_, rfl⟩
  have hb3 : Below w.heap.size w w3 := by rw [hw3]; exact (((Below.refl _ _).alloc (Nat.le_refl _) _).alloc (by simp) _).alloc (by simp; omega) _
  have hs3 : w3.heap.size = w.heap.size + 3 := by rw [hw3]; simp
  have hx3 : Bx w3 w.heap.size 61 m := by
    unfold Bx; rw [hw3, Below.heap_alloc _ _ _ (by simp; omega), Below.heap_alloc _ _ _ (by simp)]; exact heap_alloc_new w _
  have hn3 : w3.cell? ⟨w.heap.size + 1, 0, none⟩ = some (.int .i64 n) := by
    have q := heap_alloc_new (w.alloc (.cells #[.slice m.a0 m.n0 m.k0, .slice m.a1 m.n1 m.k1, .slice m.a2 m.n2 m.k2] 61)) (.cells #[.int .i64 n] 3)
    rw [World.size_alloc] at q
    have q3 : w3.heap[w.heap.size + 1]? = some (.cells #[.int .i64 n] 3 (0, 0)) := by rw [hw3, Below.heap_alloc _ _ _ (by simp)]; exact q
    exact cell_of_row w3 (w.heap.size + 1) 0 _ _ _ q3
  have hz3 : Bx w3 (w.heap.size + 2) 24 mNil := by
    have q := heap_alloc_new ((w.alloc (.cells #[.slice m.a0 m.n0 m.k0, .slice m.a1 m.n1 m.k1, .slice m.a2 m.n2 m.k2] 61)).alloc (.cells #[.int .i64 n] 3)) (.cells #[.slice none 0 0, .slice none 0 0, .slice none 0 0] 24)
    rw [World.size_alloc, World.size_alloc] at q
    rw [hw3]; exact q
  have hld := hx3.c0
  rw [hw3] at hld
  have ht : Tells 66 #[.pointer (some ⟨w.heap.size + 1, 0, none⟩)] (fun x => x == n) w3 := fun x _ W hb =>
    (leaving1_any (w.heap.size + 1) n x W ((hb.cell (by show w.heap.size + 1 < _; omega)).trans hn3)).mono fun e w' ⟨he, hw⟩ => ⟨he, by rw [hw]; exact Below.refl _ _⟩
  have eg := enters_of (P := Tryz.prog) Tryz.func66 (by kernel_rfl) rfl
  have HC := hid (fun W (hb : Below w3.heap.size w3 W) => clone_M B m.a0 m.k0 m.n0 c.old h.e0 (by have := h.e0; have := hs.1; omega) h.cis.zo W ((h.below ((hb3.trans (hb.mono (by omega))).mono hB)).o) (by have := hb3.size; have := hb.size; omega))
  have HT := hid (And.intro ht eg)
  have HQ := hid (And.intro hb3 (And.intro hs3 (And.intro hx3 hz3)))
  have HE := hid h.e0
  have HL : Hid (m.n0 ≤ 100000) := hid (by have := h.e0; have := hs.1; omega)
  clear h hb3 hs3 hx3 hz3 hn3 ht eg
  go_enter Tryz.func37, Tryz.ntmps37
  go_wp2_with fail
  rw [← hw3]
  clear hw3 hld
  refine (HC.out w3 (Below.refl _ _)).mono ?_
  rintro e w4 ⟨A, c1, rfl, ho4, hb4⟩
  have H4 := hid (And.intro ho4 hb4)
  clear ho4 hb4
  go_wp2_with fail
  refine (deleteFunc_any _ _ _ w3 HT.out.1 HT.out.2 A c1 m.n0 c.old HE.out HL.out w4 H4.out.2 H4.out.1).mono ?_
  rintro e w5 ⟨n', rfl, HN', ho5, ht5⟩
  rw [filter_ne] at HN' ho5
  have hb5 : Below w3.heap.size w3 w5 := H4.out.2.trans (ht5.below H4.out.2.size (fun k hk => (H4.out.1.blkLt k hk).1))
  have hld5 := (HQ.out.2.2.1.below hb5 (by have := HQ.out.2.1; omega)).c0
  have H5 := hid (And.intro ho5 hb5)
  clear ho5 hb5 ht5
  go_wp2_with fail
  refine (HC.out w5 H5.out.2).mono ?_
  rintro e w6 ⟨A2, c2, rfl, ho6, hb6⟩
  have hb36 := H5.out.2.trans (hb6.mono H5.out.2.size)
  have hbx := HQ.out.2.2.2.below hb36 (by have := HQ.out.2.1; omega)
  have hst := hbx.st (m' := ⟨A2, m.n0, c2, A, n', c1, none, 0, 0⟩)
  have hd : ∀ k, blk A2 = some k → blk A ≠ some k := fun k hk e => by
    have := (ho6.blkLt k hk).1
    have := (H5.out.1.blkLt k e).2
    omega
  have H6 := hid (And.intro (hbx.set ⟨A2, m.n0, c2, A, n', c1, none, 0, 0⟩) (got_box (own2 (ho6.weaken H5.out.2.size) HE.out (H5.out.1.below hb6) HN'.out hd) (HQ.out.1.trans (hb36.mono HQ.out.1.size)) (b := w.heap.size + 2) ⟨by omega, by have := HQ.out.2.1; omega⟩))
  clear ho6 hb6 hb36 hbx hd hld5
  go_wp2_with fail
  refine bodyPost_ret (results_cell_row rfl _ _ (w.heap.size + 2) _ _ _ _ rfl H6.out.1 Tryz.underlying24 rfl (by rw [Im.info_conf33]; rfl)) rfl ?_
  exact ⟨_, rfl, H6.out.2.1, H6.out.2.2⟩
theorem within1_any (b B : Nat) (A : Option Addr) (k n : Nat) (l : List Int) (hn : n = l.length) (hl : n ≤ 100000) (x : Int) (w : World) (hb : w.cell? ⟨b, 0, none⟩ = some (.slice A n k)) (h : IsInts w B A l) :
    Calls Tryz.prog 88 #[.int .i64 x, .pointer (some ⟨b, 0, none⟩)] w fun e w' => e = .returned (.bool (!decide (x ∈ l))) ∧ w' = w := by
  subst hn
  have hc := hid (contains_any B A k l hl x w h)
  clear h
  go_enter Tryz.func88, Tryz.ntmps88
  go_wp2_with fail
  refine hc.out.mono ?_
  rintro e w' ⟨rfl, rfl⟩
  go_wp2
  go_ret
  exact ⟨rfl, rfl⟩
theorem not_any (l f : List Int) : (!(l.any fun x => !decide (x ∈ f))) = decide (∀ x ∈ l, x ∈ f) := by
  rw [Bool.eq_iff_iff]
  simp
set_option maxHeartbeats 1600000 in
theorem within_any (B B' : Nat) (A A' : Option Addr) (k n k' n' : Nat) (l f : List Int) (hn : n = l.length) (hn' : n' = f.length) (hl : n ≤ 100000) (hl' : n' ≤ 100000) (w : World) (h : IsInts w B A l) (h' : IsInts w B' A' f) (hB : B ≤ w.heap.size) (hB' : B' ≤ w.heap.size) :
    Calls Tryz.prog 70 #[.slice A n k, .slice A' n' k'] w fun e w' => e = .returned (.bool (decide (∀ x ∈ l, x ∈ f))) ∧ Below w.heap.size w w' := by
  have hmf : ∀ (fn : Fn) (first cap : Array Value) (w : World), (Instr.makeFunc fn first cap).run Tryz.prog w = .ok (.func fn first cap) w := fun _ _ _ _ => rfl
  obtain ⟨w1, hw1⟩ : ∃ w1, w1 = w.alloc (.cells #[.slice A' n' k'] 22) := ⟨_, rfl⟩
  have hb1 : Below w.heap.size w w1 := by rw [hw1]; exact below_new w _
  have hs1 : w1.heap.size = w.heap.size + 1 := by rw [hw1]; simp
  have hcell : w1.cell? ⟨w.heap.size, 0, none⟩ = some (.slice A' n' k') := by rw [hw1]; exact cell_of_row _ w.heap.size 0 _ _ _ (heap_alloc_new w _)
  have ht : Tells 88 #[.pointer (some ⟨w.heap.size, 0, none⟩)] (fun x => !decide (x ∈ f)) w1 := fun x _ W hb =>
    (within1_any w.heap.size B' A' k' n' f hn' hl' x W ((hb.cell (by show w.heap.size < _; omega)).trans hcell) ((h'.below (hb1.mono hB')).below (hb.mono (by omega)))).mono fun e w' ⟨he, hw⟩ => ⟨he, by rw [hw]; exact Below.refl _ _⟩
  have hc := containsFunc_any _ _ _ _ ht (enters_of (P := Tryz.prog) Tryz.func88 (by kernel_rfl) rfl) B A k l (by omega) w1 (Below.refl _ _) (h.below (hb1.mono hB)) (by omega)
  rw [← hn] at hc
  have HC := hid hc
  have HB := hid hb1
  clear h h' hb1 hs1 hcell ht hc hn hn'
  go_enter Tryz.func70, Tryz.ntmps70
  go_wp2_with fail
  rw [← hw1]
  clear hw1
  refine HC.out.mono ?_
  rintro e w2 ⟨rfl, hb2⟩
  have H2 := hid hb2
  clear hb2
  go_wp2
  go_ret
  exact ⟨by rw [← not_any]; rfl, HB.out.trans (H2.out.mono HB.out.size)⟩
set_option maxHeartbeats 3200000 in
theorem same_any (B : Nat) (c : Cf) (hs : Short c) (m : M3) (w : World) (h : InC w B c m) (hB : B ≤ w.heap.size) :
    Calls Tryz.prog 57 #[.agg #[.slice m.a0 m.n0 m.k0, .slice m.a1 m.n1 m.k1, .slice m.a2 m.n2 m.k2]] w (Got w c) := by
  obtain ⟨w2, hw2⟩ : ∃ w2, w2 = (w.alloc (.cells #[.slice m.a0 m.n0 m.k0, .slice m.a1 m.n1 m.k1, .slice m.a2 m.n2 m.k2] 61)).alloc (.cells #[.slice none 0 0, .slice none 0 0, .slice none 0 0] 24) := ⟨_, rfl⟩
  have hq := box2 w 61 m
  rw [← hw2] at hq
  obtain ⟨hb2, hs2, hx2, hz2⟩ := hq
  have CP : ∀ (A : Option Addr) (k n : Nat) (l : List Int), n = l.length → l.length ≤ 20000 → (A = none → k = 0) → IsInts w2.drew B A l → ∀ W, Below w2.drew.heap.size w2.drew W → Calls Tryz.prog 64 #[.slice A n k] W fun e w'' => ∃ A' p, e = .returned (.slice A' n p) ∧ Hid (OwnsI 3 w'' W.heap.size A' p l) ∧ Hid (Below w2.drew.heap.size w2.drew w'') ∧ Hid (Below W.heap.size W w'') := fun A k n l hn hl hz hi W hb =>
    (clone_M B A k n l hn (by omega) hz W (hi.below (hb.mono (by show B ≤ w2.heap.size; omega))) (by have := hb.size; have : w2.drew.heap.size = w2.heap.size := rfl; omega)).mono fun e w'' ⟨A', p, he, ho, hb2⟩ => ⟨A', p, he, hid ho, hid (bthen hb hb2 hb.size), hid hb2⟩
  have hI := (h.below (hb2.mono hB)).drew
  have HC0 := hid (CP m.a0 m.k0 m.n0 c.old h.e0 hs.1 h.cis.zo hI.o w2.drew (Below.refl _ _))
  have HC1 := hid (CP m.a1 m.k1 m.n1 c.new h.e1 hs.2.1 h.cis.zn hI.n)
  have HC2 := hid (CP m.a2 m.k2 m.n2 c.lrn h.e2 hs.2.2 h.cis.zl hI.l)
  have HX : Hid (∀ W, Below w2.drew.heap.size w2.drew W → Bx W w.heap.size 61 m ∧ Bx W (w.heap.size + 1) 24 mNil) := hid (fun W hb => ⟨Bx.below (w := w2.drew) hx2 hb (by show _ < w2.heap.size; omega), Bx.below (w := w2.drew) hz2 hb (by show _ < w2.heap.size; omega)⟩)
  have HY : Hid (∀ W v, Below w2.drew.heap.size w2.drew W → Bx (W.setRow (w.heap.size + 1) v) w.heap.size 61 m) := hid (fun W v hb => by
    have h1 := (HX.out W hb).1
    exact h1.keep (setRow_other W (w.heap.size + 1) w.heap.size v (by omega)))
  have c0 := (HX.out w2.drew (Below.refl _ _)).1.c0
  have c1 := (HX.out w2.drew (Below.refl _ _)).1.c1
  have c2 := (HX.out w2.drew (Below.refl _ _)).1.c2
  have HE := hid (And.intro h.e0 (And.intro h.e1 h.e2))
  have HQ := hid (And.intro hb2 hs2)
  clear h hb2 hs2 hx2 hz2 hI CP
  go_enter Tryz.func57, Tryz.ntmps57
  go_wp2_with fail
  rw [← hw2]
  clear hw2
  go_region_held3 (fun w' => w'.cell? ⟨w.heap.size, 0, none⟩ = some (.slice m.a0 m.n0 m.k0) ∧ w'.cell? ⟨w.heap.size, 1, none⟩ = some (.slice m.a1 m.n1 m.k1) ∧ w'.cell? ⟨w.heap.size, 2, none⟩ = some (.slice m.a2 m.n2 m.k2))
    (first | exact ⟨c0, c1, c2⟩ | exact ⟨(HY.out _ _ hb3.out).c0, (HY.out _ _ hb3.out).c1, (HY.out _ _ hb3.out).c2⟩ | exact ⟨(HX.out _ hb3.out).1.c0, (HX.out _ hb3.out).1.c1, (HX.out _ hb3.out).1.c2⟩ | exact ⟨(HX.out _ hb2.out).1.c0, (HX.out _ hb2.out).1.c1, (HX.out _ hb2.out).1.c2⟩ | exact ⟨(HX.out _ hb1.out).1.c0, (HX.out _ hb1.out).1.c1, (HX.out _ hb1.out).1.c2⟩ | fail)
    (first
      | (go_at_call 64; refine HY2.out.mono ?_; rintro e3 w3 ⟨A2, p2, rfl, ho2, hb3, hbb3⟩; have hst := (HX.out w3 hb3.out).2.st (m' := ⟨A0, m.n0, p0, A1, m.n1, p1, A2, m.n2, p2⟩))
      | (go_at_call 64; refine HY1.out.mono ?_; rintro e2 wb ⟨A1, p1, rfl, ho1, hb2, hbb2⟩; have HY2 := hid (HC2.out wb hb2.out))
      | (go_at_call 64; refine HC0.out.mono ?_; rintro e1 wa ⟨A0, p0, rfl, ho0, hb1, hbb1⟩; have HY1 := hid (HC1.out wa hb1.out)))
  obtain ⟨v4, hv4⟩ : ∃ v4, v4 = w3.setRow (w.heap.size + 1) #[.slice A0 m.n0 p0, .slice A1 m.n1 p1, .slice A2 m.n2 p2] := ⟨_, rfl⟩
  have H4 : Hid (Bx v4 (w.heap.size + 1) 24 ⟨A0, m.n0, p0, A1, m.n1, p1, A2, m.n2, p2⟩ ∧ OwnC v4 w.heap.size v4.heap.size c ⟨A0, m.n0, p0, A1, m.n1, p1, A2, m.n2, p2⟩ ∧ Below w.heap.size w v4) := hid (by
    have z0 : w2.drew.heap.size = w2.heap.size := rfl
    have z1 := hb1.out.size
    have z2 := hbb2.out.size
    have z3 := hbb3.out.size
    have o0 := (ho0.out.below hbb2.out).below hbb3.out
    have o1 := ho1.out.below hbb3.out
    have o2 := ho2.out
    have q0 := ho0.out.blkLt
    have q1 := ho1.out.blkLt
    have q2 := ho2.out.blkLt
    have hc3 : OwnC w3 w2.heap.size w3.heap.size c ⟨A0, m.n0, p0, A1, m.n1, p1, A2, m.n2, p2⟩ :=
      own3 (o0.weaken (by omega)) HE.out.1 (o1.weaken (by omega)) HE.out.2.1 (o2.weaken (by omega)) HE.out.2.2 (fun k hk e => by have := q0 k hk; have := q1 k e; omega) (fun k hk e => by have := q0 k hk; have := q2 k e; omega) (fun k hk e => by have := q1 k hk; have := q2 k e; omega)
    have hl : Below w.heap.size w w3 := (Below.drew HQ.out.1).trans (hb3.out.mono (by have := HQ.out.1.size; omega))
    have hg := got_box hc3 hl (b := w.heap.size + 1) ⟨by omega, by have := HQ.out.2; omega⟩
    rw [hv4]
    exact ⟨((HX.out w3 hb3.out).2).set ⟨A0, m.n0, p0, A1, m.n1, p1, A2, m.n2, p2⟩, hg.1, hg.2⟩)
  rw [← hv4]
  clear hv4 hst
  go_wp2
  refine bodyPost_ret (results_cell_row rfl _ _ (w.heap.size + 1) _ _ _ _ rfl H4.out.1 Tryz.underlying24 rfl (by rw [Im.info_conf33]; rfl)) rfl ?_
  exact ⟨_, rfl, H4.out.2.1, H4.out.2.2⟩
theorem members_M (B : Nat) (c : Cf) (hs : Short c) (m : M3) (w : World) (h : InC w B c m) (hB : B ≤ w.heap.size) (u : Nat) (hu : u = (Qu.uni (c.old ++ c.new ++ c.lrn)).length) :
    Calls Tryz.prog 89 #[.agg #[.slice m.a0 m.n0 m.k0, .slice m.a1 m.n1 m.k1, .slice m.a2 m.n2 m.k2]] w fun e w' => ∃ A c', e = .returned (.slice A u c') ∧ OwnsI 3 w' w.heap.size A c' (Qu.uni (c.old ++ c.new ++ c.lrn)) ∧ Below w.heap.size w w' := by
  subst hu; rw [h.val]; exact members_any B c hs _ _ _ _ _ _ w h.cis hB
set_option maxHeartbeats 3200000 in
theorem both_any (B : Nat) (c : Cf) (hs : Short c) (m : M3) (w : World) (h : InC w B c m) (hB : B ≤ w.heap.size) :
    Calls Tryz.prog 71 #[.agg #[.slice m.a0 m.n0 m.k0, .slice m.a1 m.n1 m.k1, .slice m.a2 m.n2 m.k2]] w (Got w ⟨c.old, Qu.uni (c.old ++ c.new ++ c.lrn), []⟩) := by
  obtain ⟨w2, hw2⟩ : ∃ w2, w2 = (w.alloc (.cells #[.slice m.a0 m.n0 m.k0, .slice m.a1 m.n1 m.k1, .slice m.a2 m.n2 m.k2] 61)).alloc (.cells #[.slice none 0 0, .slice none 0 0, .slice none 0 0] 24) := ⟨_, rfl⟩
  have hq := box2 w 61 m
  rw [← hw2] at hq
  obtain ⟨hb2, hs2, hx2, hz2⟩ := hq
  obtain ⟨u, hu⟩ : ∃ u, u = (Qu.uni (c.old ++ c.new ++ c.lrn)).length := ⟨_, rfl⟩
  have hI := (h.below (hb2.mono hB)).drew
  have HC0 : Hid (Calls Tryz.prog 64 #[.slice m.a0 m.n0 m.k0] w2.drew fun e w'' => ∃ A' p, e = .returned (.slice A' m.n0 p) ∧ Hid (OwnsI 3 w'' w2.drew.heap.size A' p c.old) ∧ Hid (Below w2.drew.heap.size w2.drew w'')) := hid
    ((clone_M B m.a0 m.k0 m.n0 c.old h.e0 (by have := h.e0; have := hs.1; omega) h.cis.zo w2.drew hI.o (by show B ≤ w2.heap.size; omega)).mono fun e w'' ⟨A', p, he, ho, hb2⟩ => ⟨A', p, he, hid ho, hid hb2⟩)
  have HC1 := hid (fun W (hb : Below w2.drew.heap.size w2.drew W) => (members_M B c hs m W (hI.below (hb.mono (by show B ≤ w2.heap.size; omega))) (by have := hb.size; have : w2.drew.heap.size = w2.heap.size := rfl; omega) u hu).mono (R' := fun e w'' => ∃ A' p, e = .returned (.slice A' u p) ∧ Hid (OwnsI 3 w'' W.heap.size A' p (Qu.uni (c.old ++ c.new ++ c.lrn))) ∧ Hid (Below w2.drew.heap.size w2.drew w'') ∧ Hid (Below W.heap.size W w'')) (fun e w'' ⟨A', p, he, ho, hb2⟩ => ⟨A', p, he, hid ho, hid (bthen hb hb2 hb.size), hid hb2⟩))
  have HX : Hid (∀ W, Below w2.drew.heap.size w2.drew W → Bx W w.heap.size 61 m ∧ Bx W (w.heap.size + 1) 24 mNil) := hid (fun W hb => ⟨Bx.below (w := w2.drew) hx2 hb (by show _ < w2.heap.size; omega), Bx.below (w := w2.drew) hz2 hb (by show _ < w2.heap.size; omega)⟩)
  have HY : Hid (∀ W v, Below w2.drew.heap.size w2.drew W → Bx (W.setRow (w.heap.size + 1) v) w.heap.size 61 m) := hid (fun W v hb => by
    have h1 := (HX.out W hb).1
    exact h1.keep (setRow_other W (w.heap.size + 1) w.heap.size v (by omega)))
  have c0 := (HX.out w2.drew (Below.refl _ _)).1.c0
  have ld := (HX.out w2.drew (Below.refl _ _)).1.ldM
  have HE := hid (And.intro h.e0 hu)
  have HQ := hid (And.intro hb2 hs2)
  clear h hb2 hs2 hx2 hz2 hI hu
  go_enter Tryz.func71, Tryz.ntmps71
  go_wp2_with fail
  rw [← hw2]
  clear hw2
  go_region_held3 (fun w' => w'.cell? ⟨w.heap.size, 0, none⟩ = some (.slice m.a0 m.n0 m.k0) ∧ (Im.ldX 61 (.pointer (some ⟨w.heap.size, 0, none⟩))).run Tryz.prog w' = .ok (.agg #[.slice m.a0 m.n0 m.k0, .slice m.a1 m.n1 m.k1, .slice m.a2 m.n2 m.k2]) w')
    (first | exact ⟨c0, ld⟩ | exact ⟨(HY.out _ _ hb3.out).c0, (HY.out _ _ hb3.out).ldM⟩ | exact ⟨(HX.out _ hb3.out).1.c0, (HX.out _ hb3.out).1.ldM⟩ | exact ⟨(HX.out _ hb1.out).1.c0, (HX.out _ hb1.out).1.ldM⟩ | fail)
    (first
      | (go_at_call 89; refine HY1.out.mono ?_; rintro e3 w3 ⟨A1, p1, rfl, ho1, hb3, hbb3⟩; have hst := (HX.out w3 hb3.out).2.st (m' := ⟨A0, m.n0, p0, A1, u, p1, none, 0, 0⟩))
      | (go_at_call 64; refine HC0.out.mono ?_; rintro e1 wa ⟨A0, p0, rfl, ho0, hb1⟩; have HY1 := hid (HC1.out wa hb1.out)))
  obtain ⟨v4, hv4⟩ : ∃ v4, v4 = w3.setRow (w.heap.size + 1) #[.slice A0 m.n0 p0, .slice A1 u p1, .slice none 0 0] := ⟨_, rfl⟩
  have H4 : Hid (Bx v4 (w.heap.size + 1) 24 ⟨A0, m.n0, p0, A1, u, p1, none, 0, 0⟩ ∧ OwnC v4 w.heap.size v4.heap.size ⟨c.old, Qu.uni (c.old ++ c.new ++ c.lrn), []⟩ ⟨A0, m.n0, p0, A1, u, p1, none, 0, 0⟩ ∧ Below w.heap.size w v4) := hid (by
    have z0 : w2.drew.heap.size = w2.heap.size := rfl
    have z1 := hb1.out.size
    have z3 := hbb3.out.size
    have o0 := ho0.out.below hbb3.out
    have o1 := ho1.out
    have q0 := ho0.out.blkLt
    have q1 := ho1.out.blkLt
    have hc3 : OwnC w3 w2.heap.size w3.heap.size ⟨c.old, Qu.uni (c.old ++ c.new ++ c.lrn), []⟩ ⟨A0, m.n0, p0, A1, u, p1, none, 0, 0⟩ :=
      own2 (o0.weaken (by omega)) HE.out.1 (o1.weaken (by omega)) HE.out.2 (fun k hk e => by have := q0 k hk; have := q1 k e; omega)
    have hl : Below w.heap.size w w3 := (Below.drew HQ.out.1).trans (hb3.out.mono (by have := HQ.out.1.size; omega))
    have hg := got_box hc3 hl (b := w.heap.size + 1) ⟨by omega, by have := HQ.out.2; omega⟩
    rw [hv4]
    exact ⟨((HX.out w3 hb3.out).2).set ⟨A0, m.n0, p0, A1, u, p1, none, 0, 0⟩, hg.1, hg.2⟩)
  rw [← hv4]
  clear hv4 hst
  go_wp2
  refine bodyPost_ret (results_cell_row rfl _ _ (w.heap.size + 1) _ _ _ _ rfl H4.out.1 Tryz.underlying24 rfl (by rw [Im.info_conf33]; rfl)) rfl ?_
  exact ⟨_, rfl, H4.out.2.1, H4.out.2.2⟩
end Go.Proofs.YtfkjahpcpmcefaaGreat.Co
namespace Go.Proofs.YtfkjahpcpmcefaaGreat.Co
open Go Go.RowKit
open Qu (Cf)
set_option maxRecDepth 100000
set_option linter.unusedVariables false
attribute [local go_sem ↓] Im.loadAt_conf3 Im.storeAt_conf3 loadAt_mem storeAt_mem
def Leads (F : FuncId) (c x : Cf) : Prop := (F = 57 ∧ x = c) ∨ (F = 69 ∧ x = ⟨c.new, [], []⟩) ∨ (F = 71 ∧ x = ⟨c.old, Qu.uni (c.old ++ c.new ++ c.lrn), []⟩)
theorem next_bad {c : Cf} (h : Qu.ok c = false ∨ Co.chg c = false) (f : List Int) : next c f = (c, false) := by unfold next; rw [if_pos h]
theorem next_alone {c : Cf} (h : ¬ (Qu.ok c = false ∨ Co.chg c = false)) (hn : c.new ≠ []) (f : List Int) : next c f = (⟨c.new, [], []⟩, true) := by unfold next; rw [if_neg h, if_pos hn]
theorem next_both {c : Cf} (h : ¬ (Qu.ok c = false ∨ Co.chg c = false)) (hn : c.new = []) {f : List Int} (hf : ∀ x ∈ c.lrn, x ∈ f) : next c f = (⟨c.old, Qu.uni (c.old ++ c.new ++ c.lrn), []⟩, true) := by
  unfold next; rw [if_neg h, if_neg (by simpa using hn), if_pos hf, hn, List.append_nil]
theorem next_wait {c : Cf} (h : ¬ (Qu.ok c = false ∨ Co.chg c = false)) (hn : c.new = []) {f : List Int} (hf : ¬ ∀ x ∈ c.lrn, x ∈ f) : next c f = (c, false) := by
  unfold next; rw [if_neg h, if_neg (by simpa using hn), if_neg hf]
def StepIs (c : Cf) (f : List Int) (m : M3) (w : World) (e : Ending) (w' : World) : Prop := ∃ (F : FuncId) (b : Bool), e = .returned (.tuple #[.func (.func F) #[.agg #[.slice m.a0 m.n0 m.k0, .slice m.a1 m.n1 m.k1, .slice m.a2 m.n2 m.k2]] #[], .bool b]) ∧ Hid (Leads F c (next c f).1 ∧ b = (next c f).2) ∧ Below w.heap.size w w'
set_option maxHeartbeats 3200000 in
theorem step_any (B B' : Nat) (c : Cf) (hs : Short c) (m : M3) (A' : Option Addr) (n' k' : Nat) (f : List Int) (hn' : n' = f.length) (hl' : n' ≤ 100000) (w : World) (h : InC w B c m) (h' : IsInts w B' A' f) (hB : B ≤ w.heap.size) (hB' : B' ≤ w.heap.size) :
    Calls Tryz.prog 38 #[.agg #[.slice m.a0 m.n0 m.k0, .slice m.a1 m.n1 m.k1, .slice m.a2 m.n2 m.k2], .slice A' n' k'] w (StepIs c f m w) := by
  have hmf : ∀ (fn : Fn) (first cap : Array Value) (w : World), (Instr.makeFunc fn first cap).run Tryz.prog w = .ok (.func fn first cap) w := fun _ _ _ _ => rfl
  obtain ⟨w1, hw1⟩ : ∃ w1, w1 = w.alloc (.cells #[.slice m.a0 m.n0 m.k0, .slice m.a1 m.n1 m.k1, .slice m.a2 m.n2 m.k2] 61) := ⟨_, rfl⟩
  have hb1 : Below w.heap.size w w1 := by rw [hw1]; exact below_new w _
  have hs1 : w1.heap.size = w.heap.size + 1 := by rw [hw1]; simp
  have hx1 : Bx w1 w.heap.size 61 m := by rw [hw1]; exact Bx.new _ _ _
  have hld := (Bx.new w 61 m).ldM
  have HI := hid (invalid_any B c hs m w1 (h.below (hb1.mono hB)) (by omega))
  have HX := hid (And.intro hx1 (And.intro hs1 hb1))
  have HG := hid h.chg
  have H0 := hid (And.intro h (And.intro h' (And.intro hB hB')))
  have HN := hid (And.intro hn' (And.intro hl' hs))
  have HK : Hid (∀ W, Below w1.heap.size w1 W → Bx W w.heap.size 61 m ∧ Below w.heap.size w W) := hid (fun W hb => ⟨HX.out.1.below hb (by rw [HX.out.2.1]; omega), HX.out.2.2.trans (hb.mono HX.out.2.2.size)⟩)
  clear h h' hb1 hs1 hx1 hn' hl' hs hB hB'
  cases ho : Qu.ok c
  · have HF := hid (next_bad (.inl ho) f)
    rw [ho] at HI
    clear ho
    go_enter Tryz.func38, Tryz.ntmps38
    go_wp2_with fail
    rw [← hw1]
    clear hw1
    refine HI.out.mono ?_
    rintro e w2 ⟨rfl, hb2⟩
    have H2 := hid (HK.out w2 hb2)
    have hld2 := H2.out.1.ldM
    clear hb2 hld
    go_wp2_with fail
    go_ret2
    exact ⟨_, false, rfl, hid (by rw [HF.out]; exact ⟨.inl ⟨rfl, rfl⟩, rfl⟩), H2.out.2⟩
  have HO := hid ho
  rw [ho] at HI
  clear ho
  cases hc : Co.chg c
  · have HF := hid (next_bad (.inr hc) f)
    rw [hc] at HG
    clear hc
    go_enter Tryz.func38, Tryz.ntmps38
    go_wp2_with fail
    rw [← hw1]
    clear hw1
    refine HI.out.mono ?_
    rintro e w2 ⟨rfl, hb2⟩
    have hld2 := (HK.out w2 hb2).1.ldM
    have H2 := hid hb2
    clear hb2 hld
    go_wp2_with fail
    refine (changing_any m w2).mono ?_
    rintro e w3 ⟨rfl, hb3⟩
    rw [HG.out]
    have H3 := hid (HK.out w3 (H2.out.trans (hb3.mono H2.out.size)))
    have hld3 := H3.out.1.ldM
    clear hb3 hld2
    go_wp2_with fail
    go_ret2
    exact ⟨_, false, rfl, hid (by rw [HF.out]; exact ⟨.inl ⟨rfl, rfl⟩, rfl⟩), H3.out.2⟩
  have hgo : ¬ (Qu.ok c = false ∨ Co.chg c = false) := by rw [HO.out, hc]; decide
  have HGO := hid hgo
  rw [hc] at HG
  clear hc hgo
  by_cases hn : c.new = []
  · have hz : m.n1 = 0 := by rw [H0.out.1.e1, hn]; rfl
    have hz' : decide (0 < m.n1) = false := by rw [hz]; decide
    have HNN := hid hn
    clear hn hz
    by_cases hf : ∀ x ∈ c.lrn, x ∈ f
    · have HF := hid (next_both HGO.out HNN.out hf)
      have HWI := hid (fun W hb => within_any B B' m.a2 A' m.k2 m.n2 k' n' c.lrn f H0.out.1.e2 HN.out.1 (by have := H0.out.1.e2; have := HN.out.2.2.2.2; omega) HN.out.2.1 W (H0.out.1.below (Below.mono hb H0.out.2.2.1)).l (H0.out.2.1.below (Below.mono hb H0.out.2.2.2)) (by have := Below.size (w := w) (w' := W) hb; have := H0.out.2.2.1; omega) (by have := Below.size (w := w) (w' := W) hb; have := H0.out.2.2.2; omega))
      rw [decide_eq_true hf] at HWI
      clear hf
      go_enter Tryz.func38, Tryz.ntmps38
      go_wp2_with fail
      rw [← hw1]
      clear hw1
      refine HI.out.mono ?_
      rintro e w2 ⟨rfl, hb2⟩
      have hld2 := (HK.out w2 hb2).1.ldM
      have H2 := hid hb2
      clear hb2 hld
      go_wp2_with fail
      refine (changing_any m w2).mono ?_
      rintro e w3 ⟨rfl, hb3⟩
      rw [HG.out]
      have H3 := hid (H2.out.trans (hb3.mono H2.out.size))
      have hc1 := (HK.out w3 H3.out).1.c1
      have hc2 := (HK.out w3 H3.out).1.c2
      clear hb3 hld2
      go_wp2_with fail
      refine (HWI.out w3 (HK.out w3 H3.out).2).mono ?_
      rintro e w4 ⟨rfl, hb4⟩
      have H4 := hid (H3.out.trans (hb4.mono H3.out.size))
      have hld4 := (HK.out w4 H4.out).1.ldM
      clear hb4 hc1 hc2
      go_wp2_with fail
      go_ret2
      exact ⟨_, true, rfl, hid (by rw [HF.out]; exact ⟨.inr (.inr ⟨rfl, rfl⟩), rfl⟩), (HK.out w4 H4.out).2⟩
    · have HF := hid (next_wait HGO.out HNN.out hf)
      have HWI := hid (fun W hb => within_any B B' m.a2 A' m.k2 m.n2 k' n' c.lrn f H0.out.1.e2 HN.out.1 (by have := H0.out.1.e2; have := HN.out.2.2.2.2; omega) HN.out.2.1 W (H0.out.1.below (Below.mono hb H0.out.2.2.1)).l (H0.out.2.1.below (Below.mono hb H0.out.2.2.2)) (by have := Below.size (w := w) (w' := W) hb; have := H0.out.2.2.1; omega) (by have := Below.size (w := w) (w' := W) hb; have := H0.out.2.2.2; omega))
      rw [decide_eq_false hf] at HWI
      clear hf
      go_enter Tryz.func38, Tryz.ntmps38
      go_wp2_with fail
      rw [← hw1]
      clear hw1
      refine HI.out.mono ?_
      rintro e w2 ⟨rfl, hb2⟩
      have hld2 := (HK.out w2 hb2).1.ldM
      have H2 := hid hb2
      clear hb2 hld
      go_wp2_with fail
      refine (changing_any m w2).mono ?_
      rintro e w3 ⟨rfl, hb3⟩
      rw [HG.out]
      have H3 := hid (H2.out.trans (hb3.mono H2.out.size))
      have hc1 := (HK.out w3 H3.out).1.c1
      have hc2 := (HK.out w3 H3.out).1.c2
      clear hb3 hld2
      go_wp2_with fail
      refine (HWI.out w3 (HK.out w3 H3.out).2).mono ?_
      rintro e w4 ⟨rfl, hb4⟩
      have H4 := hid (H3.out.trans (hb4.mono H3.out.size))
      have hld4 := (HK.out w4 H4.out).1.ldM
      clear hb4 hc1 hc2
      go_wp2_with fail
      go_ret2
      exact ⟨_, false, rfl, hid (by rw [HF.out]; exact ⟨.inl ⟨rfl, rfl⟩, rfl⟩), (HK.out w4 H4.out).2⟩
  · have HF := hid (next_alone HGO.out hn f)
    have hz : 0 < m.n1 := by rw [H0.out.1.e1]; exact List.length_pos_iff.2 hn
    have hz' : (0 : Int) < (m.n1 : Int) := by omega
    clear hn hz
    go_enter Tryz.func38, Tryz.ntmps38
    go_wp2_with fail
    rw [← hw1]
    clear hw1
    refine HI.out.mono ?_
    rintro e w2 ⟨rfl, hb2⟩
    have hld2 := (HK.out w2 hb2).1.ldM
    have H2 := hid hb2
    clear hb2 hld
    go_wp2_with fail
    refine (changing_any m w2).mono ?_
    rintro e w3 ⟨rfl, hb3⟩
    rw [HG.out]
    have H3 := hid (H2.out.trans (hb3.mono H2.out.size))
    have hc1 := (HK.out w3 H3.out).1.c1
    have hld3 := (HK.out w3 H3.out).1.ldM
    clear hb3 hld2
    go_wp2_with fail
    go_ret2
    exact ⟨_, true, rfl, hid (by rw [HF.out]; exact ⟨.inr (.inl ⟨rfl, rfl⟩), rfl⟩), (HK.out w3 H3.out).2⟩
end Go.Proofs.YtfkjahpcpmcefaaGreat.Co
namespace Go.Proofs.YtfkjahpcpmcefaaGreat.Co
open Go Go.RowKit
open Qu (Cf)
set_option maxRecDepth 100000
set_option linter.unusedVariables false
attribute [local go_sem ↓] Im.loadAt_conf3 Im.storeAt_conf3 loadAt_mem storeAt_mem
def GotB (w : World) (x : Cf) (b : Bool) (e : Ending) (w' : World) : Prop := ∃ m : M3, e = .returned (.tuple #[.agg #[.slice m.a0 m.n0 m.k0, .slice m.a1 m.n1 m.k1, .slice m.a2 m.n2 m.k2], .bool b]) ∧ OwnC w' w.heap.size w'.heap.size x m ∧ Below w.heap.size w w'
def GotE (w : World) (x : Cf) (n : Int) (e : Ending) (w' : World) : Prop := ∃ m : M3, e = .returned (.tuple #[.agg #[.slice m.a0 m.n0 m.k0, .slice m.a1 m.n1 m.k1, .slice m.a2 m.n2 m.k2], .int .i64 n]) ∧ OwnC w' w.heap.size w'.heap.size x m ∧ Below w.heap.size w w'
set_option maxHeartbeats 3200000 in
theorem next_any (B B' : Nat) (c : Cf) (hs : Short c) (m : M3) (A' : Option Addr) (n' k' : Nat) (f : List Int) (hn' : n' = f.length) (hl' : n' ≤ 100000) (w : World) (h : InC w B c m) (h' : IsInts w B' A' f) (hB : B ≤ w.heap.size) (hB' : B' ≤ w.heap.size) :
    Calls Tryz.prog 15 #[.agg #[.slice m.a0 m.n0 m.k0, .slice m.a1 m.n1 m.k1, .slice m.a2 m.n2 m.k2], .slice A' n' k'] w (GotB w (next c f).1 (next c f).2) := by
  obtain ⟨w2, hw2⟩ : ∃ w2, w2 = (w.alloc (.cells #[.slice m.a0 m.n0 m.k0, .slice m.a1 m.n1 m.k1, .slice m.a2 m.n2 m.k2] 24)).alloc (.cells #[.slice none 0 0, .slice none 0 0, .slice none 0 0] 24) := ⟨_, rfl⟩
  have hq := box2 w 24 m
  have hld := hq.2.2.1.ld
  rw [← hw2] at hq
  have HQ := hid hq
  have HI : Hid (∀ W, Below w.heap.size w W → InC W B c m ∧ B ≤ W.heap.size) := hid (fun W hb => ⟨h.below (hb.mono hB), by have := hb.size; omega⟩)
  have HST := hid (step_any B B' c hs m A' n' k' f hn' hl' w2 (h.below (hq.1.mono hB)) (h'.below (hq.1.mono hB')) (by have := hq.2.1; omega) (by have := hq.2.1; omega))
  have HS := hid hs
  have hmo := hid hB
  clear h h' hq hs hn' hl' hB hB'
  go_enter Tryz.func15, Tryz.ntmps15
  go_wp2_with fail
  rw [← hw2]
  clear hw2 hld
  refine HST.out.mono ?_
  rintro e w3 ⟨F, b, rfl, HF, hb3⟩
  have H3 := hid hb3
  have HC : Hid (Calls Tryz.prog F #[.agg #[.slice m.a0 m.n0 m.k0, .slice m.a1 m.n1 m.k1, .slice m.a2 m.n2 m.k2]] w3 (Got w3 (next c f).1)) := hid (by
    have hw3 : Below w.heap.size w w3 := HQ.out.1.trans (hb3.mono HQ.out.1.size)
    obtain ⟨i1, i2⟩ := HI.out w3 hw3
    rcases HF.out.1 with ⟨rfl, e⟩ | ⟨rfl, e⟩ | ⟨rfl, e⟩
    · rw [e]; exact same_any B c HS.out m w3 i1 i2
    · rw [e]; exact newAlone_any B c HS.out m w3 i1 i2
    · rw [e]; exact both_any B c HS.out m w3 i1 i2)
  have e0 : ∀ args w, (callFunc F args).run Tryz.prog w = .ok (.enter F args) w := by
    rcases HF.out.1 with ⟨rfl, _⟩ | ⟨rfl, _⟩ | ⟨rfl, _⟩
    · exact enters_of (P := Tryz.prog) Tryz.func57 (by kernel_rfl) rfl
    · exact enters_of (P := Tryz.prog) Tryz.func69 (by kernel_rfl) rfl
    · exact enters_of (P := Tryz.prog) Tryz.func71 (by kernel_rfl) rfl
  clear hb3
  go_wp2_with (go_at_fn F; refine HC.out.mono ?_; rintro e w4 ⟨m', rfl, ho4, hb4⟩; have H4 := hid (And.intro ho4 hb4); have hst := (HQ.out.2.2.2.below (H3.out.trans (hb4.mono H3.out.size)) (by have := HQ.out.2.1; omega)).st (m' := m'))
  have hbx := (HQ.out.2.2.2.below (H3.out.trans (hb4.mono H3.out.size)) (by have := HQ.out.2.1; omega)).set m'
  have hg := got_box (w2 := w3) (m := m') (b := w.heap.size + 1) H4.out.1 (HQ.out.1.trans ((H3.out.trans (hb4.mono H3.out.size)).mono HQ.out.1.size)) ⟨by omega, by have := HQ.out.2.1; have := H3.out.size; omega⟩
  refine bodyPost_ret (Im.results_two rfl Im.info_conf33 Tryz.underlying24 rfl _ _ (w.heap.size + 1) _ _ _ rfl hbx rfl) rfl ?_
  exact ⟨m', by rw [← HF.out.2]; rfl, hg.1, hg.2⟩
end Go.Proofs.YtfkjahpcpmcefaaGreat.Co
namespace Go.Proofs.YtfkjahpcpmcefaaGreat.Co
open Go Go.RowKit
open Qu (Cf)
set_option maxRecDepth 100000
set_option linter.unusedVariables false
attribute [local go_sem ↓] Im.loadAt_conf3 Im.storeAt_conf3 loadAt_mem storeAt_mem
def orI : List Int → Int
  | [] => 0
  | x :: r => if x = 0 then orI r else x
theorem orI_next (L : List Int) (k : Nat) (h : k < L.length) : orI (L.drop k) = if L[k] = 0 then orI (L.drop (k + 1)) else L[k] := by
  rw [List.drop_eq_getElem_cons h]; rfl
set_option maxHeartbeats 1600000 in
theorem or_any (B : Nat) (A : Option Addr) (c : Nat) (L : List Int) (n : Nat) (hn : L.length = n) (hl : n ≤ 1000) (w : World) (h : IsInts w B A L) :
    Calls Tryz.prog 61 #[.slice A n c] w fun e w' => e = .returned (.int .i64 (orI L)) ∧ w = w' := by
  go_enter Tryz.func61, Tryz.ntmps61
  go_wp2_with fail
  go_loop [5, 8] (fun _ i => ∃ k : Nat, k ≤ n ∧ i = .int .i64 k ∧ Hid (orI (L.drop k) = orI L)) (fun _ i => n - (RowKit.intOf i).toNat)
  case atStart => exact ⟨0, by omega, rfl, hid (by simp)⟩
  case round =>
    obtain ⟨k, hk, rfl, HK⟩ := hrel
    by_cases hlt : k < n
    · obtain ⟨b, off, rfl, _, hc⟩ := h.cells k (by omega)
      have hck := hc k (by omega)
      have hnx := orI_next L k (by omega)
      obtain ⟨x, hx⟩ : ∃ x, x = L[k]'(by omega) := ⟨_, rfl⟩
      rw [← hx] at hck hnx
      by_cases h0 : x = 0
      · rw [if_pos h0] at hnx
        have HN := hid hnx
        subst h0
        clear hnx hc hx
        go_wp2_with fail
        go_round
        case rel => exact ⟨k + 1, by omega, by go_num, hid (by rw [← HN.out]; exact HK.out)⟩
        case measure => simp [RowKit.intOf]; omega
      · rw [if_neg h0] at hnx
        have HN := hid hnx
        clear hnx hc hx
        go_wp2_with fail
        go_ret
        exact ⟨ret_int (by rw [← HK.out]; exact HN.out.symm), rfl⟩
    · obtain rfl : k = n := by omega
      have HN : Hid (orI L = 0) := hid (by rw [← HK.out, List.drop_of_length_le (by omega)]; rfl)
      go_wp2_with fail
      go_ret
      exact ⟨ret_int HN.out.symm, rfl⟩
theorem isInts_two (w : World) (t : TypeId) (x y : Int) (hx : InInt x) (hy : InInt y) : IsInts (w.alloc (.cells #[.int .i64 x, .int .i64 y] t)) (w.heap.size + 1) (some ⟨w.heap.size, 0, none⟩) [x, y] := by
  have hr := heap_alloc_new w (.cells #[.int .i64 x, .int .i64 y] t)
  refine ⟨fun z hz => by simp at hz; rcases hz with rfl | rfl <;> assumption, fun k hk => ⟨w.heap.size, 0, rfl, by omega, fun i hi => ?_⟩⟩
  have hi2 : i < 2 := hi
  rcases i with _ | _ | i
  · exact cell_of_row _ w.heap.size 0 _ _ _ hr
  · exact cell_of_row _ w.heap.size 1 _ _ _ hr
  · omega
theorem forb_in (c : Cf) (n : Int) : InInt (forb c n) := by
  unfold forb
  repeat' split
  all_goals exact ⟨by decide, by decide⟩
set_option maxHeartbeats 3200000 in
theorem begun_any (B : Nat) (c : Cf) (hs : Short c) (m : M3) (n : Int) (hn : InInt n) (w : World) (h : InC w B c m) (hB : B ≤ w.heap.size) (G F : FuncId) (g : Int) (hg : InInt g) (x : Cf)
    (eG : ∀ args w, (callFunc G args).run Tryz.prog w = .ok (.enter G args) w) (eF : ∀ args w, (callFunc F args).run Tryz.prog w = .ok (.enter F args) w)
    (cG : ∀ W, InC W B c m → B ≤ W.heap.size → Calls Tryz.prog G #[.agg #[.slice m.a0 m.n0 m.k0, .slice m.a1 m.n1 m.k1, .slice m.a2 m.n2 m.k2], .int .i64 n] W fun e w' => e = .returned (.int .i64 g) ∧ Below W.heap.size W w')
    (cF : ∀ W, InC W B c m → B ≤ W.heap.size → Calls Tryz.prog F #[.agg #[.slice m.a0 m.n0 m.k0, .slice m.a1 m.n1 m.k1, .slice m.a2 m.n2 m.k2], .int .i64 n] W (Got W x)) :
    Calls Tryz.prog 33 #[.agg #[.slice m.a0 m.n0 m.k0, .slice m.a1 m.n1 m.k1, .slice m.a2 m.n2 m.k2], .int .i64 n, .func (.func G) #[.agg #[.slice m.a0 m.n0 m.k0, .slice m.a1 m.n1 m.k1, .slice m.a2 m.n2 m.k2]] #[], .func (.func F) #[.agg #[.slice m.a0 m.n0 m.k0, .slice m.a1 m.n1 m.k1, .slice m.a2 m.n2 m.k2]] #[]] w (GotE w (if orI [forb c n, g] = 0 then x else nil) (orI [forb c n, g])) := by
  obtain ⟨w2, hw2⟩ : ∃ w2, w2 = (w.alloc (.cells #[.slice m.a0 m.n0 m.k0, .slice m.a1 m.n1 m.k1, .slice m.a2 m.n2 m.k2] 61)).alloc (.cells #[.slice none 0 0, .slice none 0 0, .slice none 0 0] 24) := ⟨_, rfl⟩
  have hq := box2 w 61 m
  have hld := hq.2.2.1.ldM
  rw [← hw2] at hq
  have HQ := hid hq
  have HI : Hid (∀ W, Below w.heap.size w W → InC W B c m ∧ B ≤ W.heap.size) := hid (fun W hb => ⟨h.below (hb.mono hB), by have := hb.size; omega⟩)
  have HZ : Hid (∀ W, Below w2.heap.size w2 W → Bx W (w.heap.size + 1) 24 mNil) := hid (fun W hb => hq.2.2.2.below hb (by have := hq.2.1; omega))
  have HG := hid cG
  have HF := hid cF
  have HFX := hid (fixed_any B c hs m n hn w2 (h.below (hq.1.mono hB)) (by have := hq.2.1; omega))
  have hfi := forb_in c n
  obtain ⟨f0, hf0⟩ : ∃ f0, f0 = forb c n := ⟨_, rfl⟩
  obtain ⟨E, hE⟩ : ∃ E, E = orI [f0, g] := ⟨_, rfl⟩
  rw [← hf0] at HFX hfi ⊢
  rw [← hE]
  have HE := hid hE
  have HFG := hid (And.intro hfi hg)
  clear h hq cG cF hf0 hE hfi hg
  by_cases hz : E = 0
  · subst hz
    rw [if_pos rfl]
    go_enter Tryz.func33, Tryz.ntmps33
    go_wp2_with fail
    rw [← hw2]
    clear hw2 hld
    refine HFX.out.mono ?_
    rintro e w3 ⟨rfl, hb3⟩
    have hb23 := hid hb3
    have hb3 := HQ.out.1.trans (hb3.mono HQ.out.1.size)
    have H3 := hid (And.intro hb3 (HI.out w3 hb3))
    clear hb3
    go_wp2_with (go_at_fn G; refine (HG.out w3 H3.out.2.1 H3.out.2.2).mono ?_; rintro e w4 ⟨rfl, hb4⟩; have HB4 := hid (hb23.out.trans (hb4.mono hb23.out.size)); have H4 := hid (H3.out.1.trans (hb4.mono H3.out.1.size)); clear hb4)
    obtain ⟨w5, hw5⟩ : ∃ w5, w5 = w4.alloc (.cells #[.int .i64 f0, .int .i64 g] 43) := ⟨_, rfl⟩
    have hb5 : Below w.heap.size w w5 := by rw [hw5]; exact H4.out.trans ((below_new w4 _).mono H4.out.size)
    have hi5 : IsInts w5 (w4.heap.size + 1) (some ⟨w4.heap.size, 0, none⟩) [f0, g] := by rw [hw5]; exact isInts_two w4 _ f0 g HFG.out.1 HFG.out.2
    have hor := or_any _ _ 2 [f0, g] 2 rfl (by decide) w5 hi5
    have hb45 : Below w4.heap.size w4 w5 := by rw [hw5]; exact below_new w4 _
    have hz5 : Bx w5 (w.heap.size + 1) 24 mNil := (HZ.out w4 (by exact HB4.out)).below hb45 (by have := HB4.out.size; have := HQ.out.2.1; omega)
    have HOR := hid hor
    have H5 := hid (And.intro hb5 (And.intro (HI.out w5 hb5) hz5))
    rw [← hw5]
    clear hb5 hi5 hor hb45 hz5 hw5
    refine HOR.out.mono ?_
    rintro e w6 ⟨rfl, rfl⟩
    rw [← HE.out]
    go_wp2_with (go_at_fn F; refine (HF.out w5 H5.out.2.1.1 H5.out.2.1.2).mono ?_; rintro e w6 ⟨m', rfl, ho6, hb6⟩; have H6 := hid (And.intro ho6 hb6); have hst := (H5.out.2.2.below hb6 (by have := HQ.out.1.size; have := H5.out.2.2.lt; omega)).st (m' := m'))
    have hbx := (H5.out.2.2.below H6.out.2 H5.out.2.2.lt).set m'
    have hg := got_box (w2 := w5) (m := m') (b := w.heap.size + 1) H6.out.1 (H5.out.1.trans (H6.out.2.mono H5.out.1.size)) ⟨by omega, H5.out.2.2.lt⟩
    refine bodyPost_ret (Im.results_two rfl Im.info_conf33 Tryz.underlying24 rfl _ _ (w.heap.size + 1) _ _ _ rfl hbx rfl) rfl ?_
    exact ⟨m', rfl, hg.1, hg.2⟩
  · rw [if_neg hz]
    have hz' : (E != 0) = true := by rw [bne_iff_ne]; exact hz
    clear hz
    go_enter Tryz.func33, Tryz.ntmps33
    go_wp2_with fail
    rw [← hw2]
    clear hw2 hld
    refine HFX.out.mono ?_
    rintro e w3 ⟨rfl, hb3⟩
    have hb23 := hid hb3
    have hb3 := HQ.out.1.trans (hb3.mono HQ.out.1.size)
    have H3 := hid (And.intro hb3 (HI.out w3 hb3))
    clear hb3
    go_wp2_with (go_at_fn G; refine (HG.out w3 H3.out.2.1 H3.out.2.2).mono ?_; rintro e w4 ⟨rfl, hb4⟩; have HB4 := hid (hb23.out.trans (hb4.mono hb23.out.size)); have H4 := hid (H3.out.1.trans (hb4.mono H3.out.1.size)); clear hb4)
    obtain ⟨w5, hw5⟩ : ∃ w5, w5 = w4.alloc (.cells #[.int .i64 f0, .int .i64 g] 43) := ⟨_, rfl⟩
    have hb5 : Below w.heap.size w w5 := by rw [hw5]; exact H4.out.trans ((below_new w4 _).mono H4.out.size)
    have hi5 : IsInts w5 (w4.heap.size + 1) (some ⟨w4.heap.size, 0, none⟩) [f0, g] := by rw [hw5]; exact isInts_two w4 _ f0 g HFG.out.1 HFG.out.2
    have hor := or_any _ _ 2 [f0, g] 2 rfl (by decide) w5 hi5
    have hb45 : Below w4.heap.size w4 w5 := by rw [hw5]; exact below_new w4 _
    have hz5 : Bx w5 (w.heap.size + 1) 24 mNil := (HZ.out w4 (by exact HB4.out)).below hb45 (by have := HB4.out.size; have := HQ.out.2.1; omega)
    have HOR := hid hor
    have H5 := hid (And.intro hb5 (And.intro (HI.out w5 hb5) hz5))
    rw [← hw5]
    clear hb5 hi5 hor hb45 hz5 hw5
    refine HOR.out.mono ?_
    rintro e w6 ⟨rfl, rfl⟩
    rw [← HE.out]
    have hst : (Im.stX 24 (.pointer (some ⟨w.heap.size + 1, 0, none⟩)) (.agg #[.slice none 0 0, .slice none 0 0, .slice none 0 0])).run Tryz.prog w5 = .ok () w5 := Im.stSame Im.info_conf33 H5.out.2.2 rfl (by simp [Value.oneCell'])
    go_wp2_with fail
    refine bodyPost_ret (Im.results_two rfl Im.info_conf33 Tryz.underlying24 rfl _ _ (w.heap.size + 1) _ _ _ rfl H5.out.2.2 rfl) rfl ?_
    exact ⟨mNil, rfl, ownNil _ _ _, H5.out.1⟩
def gAdd (c : Cf) (n : Int) : Int := if n ∈ c.old then 7 else 0
def gDrop (c : Cf) (n : Int) : Int := if n ∉ c.old then 6 else if c.old.length = 1 then 29 else 0
theorem gAdd_in (c : Cf) (n : Int) : InInt (gAdd c n) := by
  unfold gAdd
  repeat' split
  all_goals exact ⟨by decide, by decide⟩
theorem gDrop_in (c : Cf) (n : Int) : InInt (gDrop c n) := by
  unfold gDrop
  repeat' split
  all_goals exact ⟨by decide, by decide⟩
theorem orI_two (a b : Int) : orI [a, b] = if a = 0 then b else a := by
  unfold orI orI orI
  split
  · split <;> simp_all
  · rfl
theorem add_is (c : Cf) (n : Int) : add c n = (if orI [forb c n, gAdd c n] = 0 then ⟨c.old, [], [n]⟩ else nil, orI [forb c n, gAdd c n]) := by
  rw [orI_two]
  unfold add gAdd
  by_cases h : forb c n = 0
  · rw [if_neg (by simpa using h), if_pos h]
    by_cases h2 : n ∈ c.old
    · rw [if_pos h2, if_pos h2, if_neg (by decide)]
    · rw [if_neg h2, if_neg h2, if_pos rfl]
  · rw [if_pos h, if_neg h, if_neg h]
theorem drop_is (c : Cf) (n : Int) : drop c n = (if orI [forb c n, gDrop c n] = 0 then ⟨c.old, c.old.filter (fun x => decide (x ≠ n)), []⟩ else nil, orI [forb c n, gDrop c n]) := by
  rw [orI_two]
  unfold drop gDrop
  by_cases h : forb c n = 0
  · rw [if_neg (by simpa using h), if_pos h]
    by_cases h2 : n ∉ c.old
    · rw [if_pos h2, if_pos h2, if_neg (by decide)]
    · rw [if_neg h2, if_neg h2]
      by_cases h3 : c.old.length = 1
      · rw [if_pos h3, if_pos h3, if_neg (by decide)]
      · rw [if_neg h3, if_neg h3, if_pos rfl]
  · rw [if_pos h, if_neg h, if_neg h]
set_option maxHeartbeats 3200000 in
theorem add_any (B : Nat) (c : Cf) (hs : Short c) (m : M3) (n : Int) (hn : InInt n) (w : World) (h : InC w B c m) (hB : B ≤ w.heap.size) :
    Calls Tryz.prog 13 #[.agg #[.slice m.a0 m.n0 m.k0, .slice m.a1 m.n1 m.k1, .slice m.a2 m.n2 m.k2], .int .i64 n] w (GotE w (add c n).1 (add c n).2) := by
  have hmf : ∀ (fn : Fn) (first cap : Array Value) (w : World), (Instr.makeFunc fn first cap).run Tryz.prog w = .ok (.func fn first cap) w := fun _ _ _ _ => rfl
  obtain ⟨w2, hw2⟩ : ∃ w2, w2 = (w.alloc (.cells #[.slice m.a0 m.n0 m.k0, .slice m.a1 m.n1 m.k1, .slice m.a2 m.n2 m.k2] 24)).alloc (.cells #[.slice none 0 0, .slice none 0 0, .slice none 0 0] 24) := ⟨_, rfl⟩
  have hq := box2 w 24 m
  rw [← hw2] at hq
  have hst0 := Im.stNew w2 61 3 (by kernel_rfl) #[.slice none 0 0, .slice none 0 0, .slice none 0 0] #[.slice m.a0 m.n0 m.k0, .slice m.a1 m.n1 m.k1, .slice m.a2 m.n2 m.k2] rfl rfl (by simp [Value.oneCell'])
  have hld := hq.2.2.1.ld
  obtain ⟨w3, hw3⟩ : ∃ w3, w3 = w2.alloc (.cells #[.slice m.a0 m.n0 m.k0, .slice m.a1 m.n1 m.k1, .slice m.a2 m.n2 m.k2] 61) := ⟨_, rfl⟩
  have hb3 : Below w2.heap.size w2 w3 := by rw [hw3]; exact below_new w2 _
  have hx3 : Bx w3 w2.heap.size 61 m := by rw [hw3]; exact Bx.new _ _ _
  have hs3 : w3.heap.size = w2.heap.size + 1 := by rw [hw3]; simp
  have hb03 := hq.1.trans (hb3.mono hq.1.size)
  have hld3 := hx3.ldM
  rw [hw3] at hld3
  have hbg : Calls Tryz.prog 33 #[.agg #[.slice m.a0 m.n0 m.k0, .slice m.a1 m.n1 m.k1, .slice m.a2 m.n2 m.k2], .int .i64 n, .func (.func 34) #[.agg #[.slice m.a0 m.n0 m.k0, .slice m.a1 m.n1 m.k1, .slice m.a2 m.n2 m.k2]] #[], .func (.func 35) #[.agg #[.slice m.a0 m.n0 m.k0, .slice m.a1 m.n1 m.k1, .slice m.a2 m.n2 m.k2]] #[]] w3 (GotE w3 (add c n).1 (add c n).2) := by
   rw [add_is]
   exact (begun_any B c hs m n hn w3 (h.below (hb03.mono hB)) (by have := hb03.size; omega) 34 35 (gAdd c n) (gAdd_in c n) ⟨c.old, [], [n]⟩
    (enters_of (P := Tryz.prog) Tryz.func34 (by kernel_rfl) rfl) (enters_of (P := Tryz.prog) Tryz.func35 (by kernel_rfl) rfl)
    (fun W hi hb => mayCome_any B c hs m n W hi hb) (fun W hi hb => learning_any B c hs m n hn W hi hb))
  generalize add c n = r at hbg ⊢
  have HBG := hid hbg
  clear hbg
  have HQ := hid (And.intro hb03 (And.intro (hq.2.2.2.below hb3 (by have := hq.2.1; omega)) (And.intro hq.2.1 hs3)))
  have HW2 := hid hw2
  have HW3 := hid hw3
  clear h hq hb3 hx3 hs3 hb03 hw2 hw3
  go_enter Tryz.func13, Tryz.ntmps13
  go_upto_region 1 with fail
  rw [← HW2.out]
  go_wp2_with fail
  rw [← HW3.out]
  refine HBG.out.mono ?_
  rintro e w4 ⟨m', rfl, ho4, hb4⟩
  have hbx := HQ.out.2.1.below hb4 HQ.out.2.1.lt
  have hst := hbx.st (m' := m')
  have hg := got_box (w2 := w3) (m := m') (b := w.heap.size + 1) ho4 (HQ.out.1.trans (hb4.mono HQ.out.1.size)) ⟨by omega, HQ.out.2.1.lt⟩
  have H4 := hid (And.intro (hbx.set m') hg)
  clear ho4 hb4 hbx hg hst0 hld hld3
  go_wp2_with fail
  refine bodyPost_ret (Im.results_two rfl Im.info_conf33 Tryz.underlying24 rfl _ _ (w.heap.size + 1) _ _ _ rfl H4.out.1 rfl) rfl ?_
  exact ⟨m', rfl, H4.out.2.1, H4.out.2.2⟩
set_option maxHeartbeats 3200000 in
theorem drop_any (B : Nat) (c : Cf) (hs : Short c) (m : M3) (n : Int) (hn : InInt n) (w : World) (h : InC w B c m) (hB : B ≤ w.heap.size) :
    Calls Tryz.prog 14 #[.agg #[.slice m.a0 m.n0 m.k0, .slice m.a1 m.n1 m.k1, .slice m.a2 m.n2 m.k2], .int .i64 n] w (GotE w (drop c n).1 (drop c n).2) := by
  have hmf : ∀ (fn : Fn) (first cap : Array Value) (w : World), (Instr.makeFunc fn first cap).run Tryz.prog w = .ok (.func fn first cap) w := fun _ _ _ _ => rfl
  obtain ⟨w2, hw2⟩ : ∃ w2, w2 = (w.alloc (.cells #[.slice m.a0 m.n0 m.k0, .slice m.a1 m.n1 m.k1, .slice m.a2 m.n2 m.k2] 24)).alloc (.cells #[.slice none 0 0, .slice none 0 0, .slice none 0 0] 24) := ⟨_, rfl⟩
  have hq := box2 w 24 m
  rw [← hw2] at hq
  have hst0 := Im.stNew w2 61 3 (by kernel_rfl) #[.slice none 0 0, .slice none 0 0, .slice none 0 0] #[.slice m.a0 m.n0 m.k0, .slice m.a1 m.n1 m.k1, .slice m.a2 m.n2 m.k2] rfl rfl (by simp [Value.oneCell'])
  have hld := hq.2.2.1.ld
  obtain ⟨w3, hw3⟩ : ∃ w3, w3 = w2.alloc (.cells #[.slice m.a0 m.n0 m.k0, .slice m.a1 m.n1 m.k1, .slice m.a2 m.n2 m.k2] 61) := ⟨_, rfl⟩
  have hb3 : Below w2.heap.size w2 w3 := by rw [hw3]; exact below_new w2 _
  have hx3 : Bx w3 w2.heap.size 61 m := by rw [hw3]; exact Bx.new _ _ _
  have hs3 : w3.heap.size = w2.heap.size + 1 := by rw [hw3]; simp
  have hb03 := hq.1.trans (hb3.mono hq.1.size)
  have hld3 := hx3.ldM
  rw [hw3] at hld3
  have hbg : Calls Tryz.prog 33 #[.agg #[.slice m.a0 m.n0 m.k0, .slice m.a1 m.n1 m.k1, .slice m.a2 m.n2 m.k2], .int .i64 n, .func (.func 36) #[.agg #[.slice m.a0 m.n0 m.k0, .slice m.a1 m.n1 m.k1, .slice m.a2 m.n2 m.k2]] #[], .func (.func 37) #[.agg #[.slice m.a0 m.n0 m.k0, .slice m.a1 m.n1 m.k1, .slice m.a2 m.n2 m.k2]] #[]] w3 (GotE w3 (drop c n).1 (drop c n).2) := by
   rw [drop_is]
   exact (begun_any B c hs m n hn w3 (h.below (hb03.mono hB)) (by have := hb03.size; omega) 36 37 (gDrop c n) (gDrop_in c n) ⟨c.old, c.old.filter (fun x => decide (x ≠ n)), []⟩
    (enters_of (P := Tryz.prog) Tryz.func36 (by kernel_rfl) rfl) (enters_of (P := Tryz.prog) Tryz.func37 (by kernel_rfl) rfl)
    (fun W hi hb => mayGo_any B c hs m n W hi hb) (fun W hi hb => leaving_any B c hs m n W hi hb))
  generalize drop c n = r at hbg ⊢
  have HBG := hid hbg
  clear hbg
  have HQ := hid (And.intro hb03 (And.intro (hq.2.2.2.below hb3 (by have := hq.2.1; omega)) (And.intro hq.2.1 hs3)))
  have HW2 := hid hw2
  have HW3 := hid hw3
  clear h hq hb3 hx3 hs3 hb03 hw2 hw3
  go_enter Tryz.func14, Tryz.ntmps14
  go_upto_region 1 with fail
  rw [← HW2.out]
  go_wp2_with fail
  rw [← HW3.out]
  refine HBG.out.mono ?_
  rintro e w4 ⟨m', rfl, ho4, hb4⟩
  have hbx := HQ.out.2.1.below hb4 HQ.out.2.1.lt
  have hst := hbx.st (m' := m')
  have hg := got_box (w2 := w3) (m := m') (b := w.heap.size + 1) ho4 (HQ.out.1.trans (hb4.mono HQ.out.1.size)) ⟨by omega, HQ.out.2.1.lt⟩
  have H4 := hid (And.intro (hbx.set m') hg)
  clear ho4 hb4 hbx hg hst0 hld hld3
  go_wp2_with fail
  refine bodyPost_ret (Im.results_two rfl Im.info_conf33 Tryz.underlying24 rfl _ _ (w.heap.size + 1) _ _ _ rfl H4.out.1 rfl) rfl ?_
  exact ⟨m', rfl, H4.out.2.1, H4.out.2.2⟩
end Go.Proofs.YtfkjahpcpmcefaaGreat.Co
namespace Go.Proofs.YtfkjahpcpmcefaaGreat
open Go.RowKit
set_option maxRecDepth 100000
set_option maxHeartbeats 400000 in
theorem in_any (B : Nat) (A : Option Addr) (c : Nat) (l : List Int) (hl : l.length ≤ 100000) (x : Int) (w : World) (h : IsInts w B A l) :
    Calls Tryz.prog 40 #[.slice A l.length c, .int .i64 x] w fun e w' => e = .returned (.bool (decide (x ∈ l))) ∧ w' = w := by
  go_enter Tryz.func40, Tryz.ntmps40
  go_wp2
  go_loopw [5] (fun i wr => ∃ k : Nat, k ≤ l.length ∧ i = .int .i64 k ∧ wr = w ∧ Hid (x ∉ l.take k)) (fun i _ => l.length - (RowKit.intOf i).toNat)
  case atStart => exact ⟨0, by omega, rfl, rfl, hid (by simp)⟩
  case round =>
    obtain ⟨k, hk, rfl, rfl, hs⟩ := hrel
    by_cases hlt : k < l.length
    · obtain ⟨b, off, rfl, _, hc⟩ := h.cells k hlt
      have hck := hc k hlt
      clear hc h
      by_cases he : l[k] = x
      · have hbe : (l[k] == x) = true := by rw [beq_iff_eq]; exact he
        have HE := hid he
        clear he
        go_wp2
        go_ret
        exact ⟨by rw [decide_eq_true (show x ∈ l by rw [← HE.out]; exact List.getElem_mem hlt)]; rfl, rfl⟩
      · have hbe : (l[k] == x) = false := by rw [beq_eq_false_iff_ne]; exact he
        have HE := hid he
        clear he
        go_wp2
        go_roundw
        case rel =>
          refine ⟨k + 1, by omega, by go_num, trivial, hid ?_⟩
          rw [List.take_succ_eq_append_getElem hlt, List.mem_append, List.mem_singleton]
          rintro (h1 | h1)
          · exact hs.out h1
          · exact HE.out h1.symm
        case measure => simp [RowKit.intOf]; omega
    · obtain rfl : k = l.length := by omega
      have := hs.out
      rw [List.take_length] at this
      have HF := hid this
      clear this
      go_wp2
      go_ret
      exact ⟨by rw [decide_eq_false HF.out]; rfl, rfl⟩
set_option maxHeartbeats 1000000 in
theorem rising_any (B : Nat) (A : Option Addr) (c : Nat) (l : List Int) (hl : l.length ≤ 100000) (w : World) (h : IsInts w B A l) :
    Calls Tryz.prog 72 #[.slice A l.length c] w fun e w' => e = .returned (.bool (Qu.node l)) ∧ ∃ n, w' = w.drewN n := by
  go_enter Tryz.func72, Tryz.ntmps72
  go_wp2
  go_loopw [3] (fun i wr => ∃ k n : Nat, k ≤ l.length ∧ i = .int .i64 k ∧ wr = w.drewN n ∧ Hid (Qu.node (l.take k) = true)) (fun i _ => l.length - (RowKit.intOf i).toNat)
  case atStart => exact ⟨0, 0, by omega, rfl, rfl, hid (by simp [Qu.node])⟩
  case round =>
    obtain ⟨k, n, hk, rfl, rfl, hs⟩ := hrel
    by_cases hlt : k < l.length
    · obtain ⟨b, off, rfl, _, hc⟩ := h.cells k hlt
      have hck := hc k hlt
      have HST := hid (Qu.node_step_last hlt hs.out)
      have HL0 := hid (Qu.last_zero l)
      have HLP := hid (Qu.last_pred l k hlt)
      have HLN := hid (Qu.last_nonneg (by omega) hs.out)
      have HC := hid hc
      clear hc
      generalize hz : l[k] = z at *
      clear hz
      by_cases h1 : 1 ≤ z
      · by_cases h2 : z ≤ 7
        · have h1' : ¬ z < 1 := by omega
          have h2' : ¬ 7 < z := by omega
          by_cases hk0 : 0 < k
          · have hkp : (0 : Int) < (k : Int) := by omega
            have hck1 := HC.out (k - 1) (by omega)
            have hix : ((k : Int) - 1).toNat = k - 1 := by omega
            have hi0 : (0 : Int) ≤ (k : Int) - 1 := by omega
            have hi1 : (k : Int) - 1 < (l.length : Int) := by omega
            have hwr : IntKind.i64.wrap ((k : Int) - 1) = (k : Int) - 1 := IntWalk.i64_in _ ⟨by omega, by omega⟩
            have hy := HLP.out hk0
            have HY := hid hy
            generalize l[k - 1] = y at *
            clear hy
            by_cases h3 : y < z
            · have h3' : ¬ z ≤ y := by omega
              go_wp2
              go_quiet (fail)
              go_wp2
              go_roundw
              case rel => exact ⟨k + 1, _, by omega, by go_num, rfl, hid (by rw [HST.out]; exact decide_eq_true ⟨by rw [HY.out]; exact h3, h1, h2⟩)⟩
              case measure => simp [RowKit.intOf]; omega
            · have h3' : z ≤ y := by omega
              go_wp2
              go_quiet (fail)
              go_wp2
              go_ret
              refine ⟨?_, _, World.drewN_drewN _ _ _⟩
              rw [Qu.node_false (l := l) (k := k + 1) (by rw [HST.out]; exact decide_eq_false (by rintro ⟨h, _⟩; rw [HY.out] at h; omega))]; rfl
          · obtain rfl : k = 0 := by omega
            rw [Nat.add_zero] at hck
            go_wp2
            go_quiet (fail)
            go_wp2
            go_roundw
            case rel => exact ⟨0 + 1, _, by omega, by go_num, rfl, hid (by rw [HST.out]; exact decide_eq_true ⟨by rw [HL0.out]; omega, h1, h2⟩)⟩
            case measure => simp [RowKit.intOf]; omega
        · have h1' : ¬ z < 1 := by omega
          have h2' : 7 < z := by omega
          go_wp2
          go_ret
          refine ⟨?_, _, rfl⟩
          rw [Qu.node_false (l := l) (k := k + 1) (by rw [HST.out]; exact decide_eq_false (by rintro ⟨_, _, h⟩; omega))]; rfl
      · have h1' : z < 1 := by omega
        go_wp2
        go_ret
        refine ⟨?_, _, rfl⟩
        rw [Qu.node_false (l := l) (k := k + 1) (by rw [HST.out]; exact decide_eq_false (by rintro ⟨_, h, _⟩; omega))]; rfl
    · obtain rfl : k = l.length := by omega
      have := hs.out
      rw [List.take_length] at this
      have HF := hid this
      clear this
      go_wp2
      go_ret
      exact ⟨by rw [HF.out]; rfl, _, rfl⟩
end Go.Proofs.YtfkjahpcpmcefaaGreat
namespace Go.Proofs.YtfkjahpcpmcefaaGreat
open Go.RowKit
theorem Qu.refErr_29 {c : Qu.Cf} (h : c.old = [] ∨ Qu.node c.old = false ∨ Qu.node c.new = false ∨ Qu.node c.lrn = false) : Qu.err c = 29 := by
  unfold Qu.err Qu.ok
  rcases h with h | h | h | h <;> rw [h] <;> simp
theorem Qu.refErr_0 {c : Qu.Cf} (h0 : c.old ≠ []) (h1 : Qu.node c.old = true) (h2 : Qu.node c.new = true) (h3 : Qu.node c.lrn = true) (h : ∀ x ∈ c.lrn, ¬ (x ∈ c.old ∨ x ∈ c.new)) : Qu.err c = 0 := by
  rw [Qu.err_ok]
  unfold Qu.ok
  rw [h1, h2, h3, decide_eq_true h]
  have h4 : c.old.isEmpty = false := by rw [← Bool.not_eq_true, List.isEmpty_iff]; exact h0
  rw [h4]; rfl
theorem Qu.refErr_in {c : Qu.Cf} {x : Int} (hx : x ∈ c.lrn) (h : x ∈ c.old ∨ x ∈ c.new) : Qu.err c = 29 := by
  unfold Qu.err
  have : Qu.ok c = false := by
    unfold Qu.ok
    rw [decide_eq_false (fun hh => hh x hx h)]; simp
  rw [this]; rfl
theorem inQ_any (B : Nat) (A : Option Addr) (c : Nat) (l : List Int) (hl : l.length ≤ 100000) (x : Int) (p : Bool) (hp : decide (x ∈ l) = p) (w : World) (h : IsInts w B A l) :
    ∀ j, Calls Tryz.prog 40 #[.slice A l.length c, .int .i64 x] (w.drewN j) fun e w' => e = .returned (.bool p) ∧ ∃ n, w' = (w.drewN j).drewN n := fun j =>
  (in_any B A c l hl x (w.drewN j) (h.drewN j)).mono fun e w' ⟨he, hw⟩ => ⟨by rw [← hp]; exact he, 0, hw⟩
set_option maxRecDepth 100000 in
set_option maxHeartbeats 1000000 in
theorem refCheck_any (B : Nat) (c : Qu.Cf) (hs0 : Short c) (a0 a1 a2 : Option Addr) (k0 k1 k2 : Nat) (w : World) (h0 : CIs w B c a0 a1 a2 k0 k1 k2) (hB : B ≤ w.heap.size) :
    Calls Tryz.prog 41 #[.agg #[.slice a0 c.old.length k0, .slice a1 c.new.length k1, .slice a2 c.lrn.length k2]] w fun e w' => e = .returned (.int .i64 (Qu.err c)) ∧ Below w.heap.size w w' := by
  obtain ⟨wb, hwb⟩ : ∃ wb, wb = w.alloc (.cells #[.slice a0 c.old.length k0, .slice a1 c.new.length k1, .slice a2 c.lrn.length k2] 24) := ⟨_, rfl⟩
  have hbel : Below w.heap.size w wb := by rw [hwb]; exact (Below.refl _ _).alloc (Nat.le_refl _) _
  have hsz : wb.heap.size = w.heap.size + 1 := by rw [hwb]; simp
  have hrow : wb.heap[w.heap.size]? = some (.cells #[.slice a0 c.old.length k0, .slice a1 c.new.length k1, .slice a2 c.lrn.length k2] 24 (0, 0)) := by rw [hwb]; exact heap_alloc_new w _
  have c0 : wb.cell? ⟨w.heap.size, 0, none⟩ = some (.slice a0 c.old.length k0) := cell_of_row wb w.heap.size 0 _ _ _ hrow
  have c1 : wb.cell? ⟨w.heap.size, 1, none⟩ = some (.slice a1 c.new.length k1) := cell_of_row wb w.heap.size 1 _ _ _ hrow
  have c2 : wb.cell? ⟨w.heap.size, 2, none⟩ = some (.slice a2 c.lrn.length k2) := cell_of_row wb w.heap.size 2 _ _ _ hrow
  have hI := h0.below (hbel.mono hB)
  have HB := hid hbel
  have HI := hid hI
  have hs := hid hs0
  have HO := hid (fun j => rising_any B a0 k0 c.old (by have := hs0.1; omega) (wb.drewN j) (hI.o.drewN j))
  have HN := hid (fun j => rising_any B a1 k1 c.new (by have := hs0.2.1; omega) (wb.drewN j) (hI.n.drewN j))
  have HL := hid (fun j => rising_any B a2 k2 c.lrn (by have := hs0.2.2; omega) (wb.drewN j) (hI.l.drewN j))
  have hll := hs0.2.2
  clear hbel hI h0 hs0 hsz hrow hB
  by_cases hz : c.old = []
  · have HE := hid (Qu.refErr_29 (c := c) (.inl hz))
    have hl : c.old.length = 0 := by rw [hz]; rfl
    rw [HE.out]
    clear hz HO HN HL
    rw [hl] at c0
    rw [hl] at hwb ⊢
    clear hl
    go_enter Tryz.func41, Tryz.ntmps41
    go_wp2
    rw [← hwb]; clear hwb
    go_ret
    exact ⟨rfl, HB.out⟩
  have hzl : 0 < c.old.length := List.length_pos_iff.2 hz
  have hzb : ((c.old.length : Int) == 0) = false := by rw [beq_eq_false_iff_ne]; omega
  have HZ := hid hz
  clear hz
  cases ho : Qu.node c.old
  · have HE := hid (Qu.refErr_29 (c := c) (.inr (.inl ho)))
    rw [ho] at HO
    rw [HE.out]
    clear ho HN HL
    go_enter Tryz.func41, Tryz.ntmps41
    go_wp2_with fail
    rw [← hwb]; clear hwb
    refine (HO.out 0).mono ?_
    rintro e w1 ⟨rfl, n, rfl⟩
    go_wp2
    go_ret
    exact ⟨rfl, below_drewN HB.out _⟩
  cases hn : Qu.node c.new
  · have HE := hid (Qu.refErr_29 (c := c) (.inr (.inr (.inl hn))))
    rw [ho] at HO
    rw [hn] at HN
    rw [HE.out]
    clear ho hn HL
    go_enter Tryz.func41, Tryz.ntmps41
    go_wp2_with fail
    rw [← hwb]; clear hwb
    refine (HO.out 0).mono ?_
    rintro e w1 ⟨rfl, n, rfl⟩
    go_wp2_with fail
    refine (HN.out _).mono ?_
    rintro e w1 ⟨rfl, n2, rfl⟩
    go_wp2
    go_ret
    exact ⟨rfl, below_drewN HB.out _⟩
  cases hl : Qu.node c.lrn
  · have HE := hid (Qu.refErr_29 (c := c) (.inr (.inr (.inr hl))))
    rw [ho] at HO
    rw [hn] at HN
    rw [hl] at HL
    rw [HE.out]
    clear ho hn hl
    go_enter Tryz.func41, Tryz.ntmps41
    go_wp2_with fail
    rw [← hwb]; clear hwb
    refine (HO.out 0).mono ?_
    rintro e w1 ⟨rfl, n, rfl⟩
    go_wp2_with fail
    refine (HN.out _).mono ?_
    rintro e w1 ⟨rfl, n2, rfl⟩
    go_wp2_with fail
    refine (HL.out (n + n2)).mono ?_
    rintro e w1 ⟨rfl, n3, rfl⟩
    go_wp2
    go_ret
    exact ⟨rfl, below_drewN HB.out _⟩
  · have HE0 := hid (fun h => Qu.refErr_0 (c := c) HZ.out ho hn hl h)
    have HE1 := hid (fun x hx h => Qu.refErr_in (c := c) (x := x) hx h)
    rw [ho] at HO
    rw [hn] at HN
    rw [hl] at HL
    clear ho hn hl
    go_enter Tryz.func41, Tryz.ntmps41
    go_wp2_with fail
    rw [← hwb]; clear hwb
    refine (HO.out 0).mono ?_
    rintro e w1 ⟨rfl, n, rfl⟩
    go_wp2_with fail
    refine (HN.out _).mono ?_
    rintro e w1 ⟨rfl, n2, rfl⟩
    go_wp2_with fail
    refine (HL.out (n + n2)).mono ?_
    rintro e w1 ⟨rfl, n3, rfl⟩
    go_wp2_with fail
    go_loopw [3] (fun i wr => ∃ k m : Nat, k ≤ c.lrn.length ∧ i = .int .i64 k ∧ wr = wb.drewN m ∧ Hid (∀ x ∈ c.lrn.take k, ¬ (x ∈ c.old ∨ x ∈ c.new))) (fun i _ => c.lrn.length - (RowKit.intOf i).toNat)
    case atStart => exact ⟨0, n + n2 + n3, by omega, rfl, rfl, hid (by simp)⟩
    case round =>
      obtain ⟨k, m, hk, rfl, rfl, HR⟩ := hrel
      by_cases hlt : k < c.lrn.length
      · obtain ⟨b, off, rfl, hb, hcell⟩ := HI.out.l.cells k hlt
        have hck := hcell k hlt
        have hmem : c.lrn[k] ∈ c.lrn := List.getElem_mem hlt
        have HT := hid (List.take_succ_eq_append_getElem hlt)
        have HM := hid hmem
        obtain ⟨p, hp⟩ : ∃ p, decide (c.lrn[k] ∈ c.old) = p := ⟨_, rfl⟩
        obtain ⟨q, hq⟩ : ∃ q, decide (c.lrn[k] ∈ c.new) = q := ⟨_, rfl⟩
        have HIO := hid (inQ_any B a0 k0 c.old (by have := hs.out.1; omega) c.lrn[k] p hp (wb.drewN m) (HI.out.o.drewN m))
        have HIN := hid (inQ_any B a1 k1 c.new (by have := hs.out.2.1; omega) c.lrn[k] q hq (wb.drewN m) (HI.out.n.drewN m))
        have HBD := hid (below_drewN HB.out m)
        have HP := hid hp
        have HQ := hid hq
        clear hcell hmem hp hq
        generalize c.lrn[k] = x at *
        have c0m : (wb.drewN m).cell? ⟨w.heap.size, 0, none⟩ = some (.slice a0 c.old.length k0) := c0
        have c1m : (wb.drewN m).cell? ⟨w.heap.size, 1, none⟩ = some (.slice a1 c.new.length k1) := c1
        have c2m : (wb.drewN m).cell? ⟨w.heap.size, 2, none⟩ = some (.slice (some ⟨b, off, none⟩) c.lrn.length k2) := c2
        have hckm : (wb.drewN m).cell? ⟨b, off + k, none⟩ = some (.int .i64 x) := hck
        have hrd : ∀ j, (wb.drewN m).drewN j = wb.drewN (m + j) := fun j => World.drewN_drewN _ _ _
        have HRD := hid hrd
        clear c0 c1 c2 hck hrd
        generalize wb.drewN m = w9 at *
        cases p
        · cases q
          · go_wp2
            go_quiet (first
              | (go_at_call 40; with_reducible exact Calls.quiet_of (HIO.out _))
              | (go_at_call 40; with_reducible exact Calls.quiet_of (HIN.out _)))
            go_wp2
            go_roundw
            case rel =>
              refine ⟨k + 1, _, by omega, by go_num, HRD.out _, hid fun y hy => ?_⟩
              rw [HT.out] at hy
              rcases List.mem_append.1 hy with hy | hy
              · exact HR.out y hy
              · simp at hy
                subst hy
                rintro (h | h)
                · exact absurd h (of_decide_eq_false HP.out)
                · exact absurd h (of_decide_eq_false HQ.out)
            case measure => simp [RowKit.intOf]; omega
          · go_wp2
            go_quiet (first
              | (go_at_call 40; with_reducible exact Calls.quiet_of (HIO.out _))
              | (go_at_call 40; with_reducible exact Calls.quiet_of (HIN.out _)))
            go_wp2
            go_ret
            exact ⟨by rw [HE1.out x HM.out (.inr (of_decide_eq_true HQ.out))]; rfl, below_drewN HBD.out _⟩
        · go_wp2
          go_quiet (first
            | (go_at_call 40; with_reducible exact Calls.quiet_of (HIO.out _))
            | (go_at_call 40; with_reducible exact Calls.quiet_of (HIN.out _)))
          go_wp2
          go_ret
          exact ⟨by rw [HE1.out x HM.out (.inl (of_decide_eq_true HP.out))]; rfl, below_drewN HBD.out _⟩
      · obtain rfl : k = c.lrn.length := by omega
        have hr := HR.out
        rw [List.take_length] at hr
        have HE := hid (HE0.out hr)
        clear hr
        go_wp2
        go_ret
        exact ⟨by rw [HE.out]; rfl, below_drewN HB.out _⟩
end Go.Proofs.YtfkjahpcpmcefaaGreat
namespace Go.Proofs.YtfkjahpcpmcefaaGreat
open Go.RowKit
end Go.Proofs.YtfkjahpcpmcefaaGreat
namespace Go.Proofs.YtfkjahpcpmcefaaGreat.I
open Go.RowKit
def lent (l : List Int) : List Int := l ++ List.replicate 5 (-77)
theorem lent_length (l : List Int) : (lent l).length = l.length + 5 := by simp [lent]
def lentTo (l : List Int) (k : Nat) : List Int := (lent l).take k ++ List.replicate (l.length + 5 - k) 0
theorem lentTo_length (l : List Int) (k : Nat) (h : k ≤ l.length + 5) : (lentTo l k).length = l.length + 5 := by
  unfold lentTo; rw [List.length_append, List.length_take, lent_length, List.length_replicate]; omega
theorem lentTo_end (l : List Int) : lentTo l (l.length + 5) = lent l := by
  unfold lentTo
  rw [List.take_of_length_le (by rw [lent_length]; omega)]; simp
theorem lentTo_set (l : List Int) (k : Nat) (h : k < l.length + 5) (x : Int) (hx : (lent l)[k]? = some x) : (lentTo l k).set k x = lentTo l (k + 1) := by
  unfold lentTo
  have hl : k < (lent l).length := by rw [lent_length]; exact h
  have hk : ((lent l).take k).length = k := by rw [List.length_take]; omega
  rw [List.set_append_right _ _ (by omega), hk, Nat.sub_self, show l.length + 5 - k = (l.length + 5 - (k + 1)) + 1 from by omega, List.replicate_succ, List.set_cons_zero,
    List.take_succ_eq_append_getElem hl, List.append_assoc]
  have : (lent l)[k] = x := by rw [List.getElem?_eq_getElem hl] at hx; injection hx
  rw [this]; rfl
theorem lent_mark (l : List Int) (k : Nat) (h1 : l.length ≤ k) (h2 : k < l.length + 5) : (lent l)[k]? = some (-77) := by
  unfold lent
  rw [List.getElem?_append_right h1, List.getElem?_replicate, if_pos (by omega)]
theorem lent_item (l : List Int) (k : Nat) (h : k < l.length) : (lent l)[k]? = some l[k] := by
  unfold lent
  rw [List.getElem?_append_left h, List.getElem?_eq_getElem h]
set_option maxRecDepth 100000 in
set_option maxHeartbeats 400000 in
theorem lent_any (B : Nat) (A : Option Addr) (c : Nat) (l : List Int) (hl : l.length ≤ 17592186044000) (w : World) (h : IsInts w B A l) (hB : B ≤ w.heap.size) :
    Calls Tryz.prog 12 #[.slice A l.length c] w fun e w' => ∃ g c', e = .returned (.slice (some ⟨g, 0, none⟩) (l.length + 5) c') ∧ OwnsI 3 w' w.heap.size (some ⟨g, 0, none⟩) c' (lent l) ∧ Below w.heap.size w w' := by
  obtain ⟨i0, hi, hz0, hz1, hz2⟩ := info_parts info_int
  go_enter Tryz.func12, Tryz.ntmps12
  go_wp2_with (at_make; refine wpList_make_full _ rfl _ _ 22 rfl w.heap.size 3 i0 (.int .i64 0) 1 Tryz.underlying22 hi hz0 hz1 .i64 .i64 (l.length + 5) (l.length + 5) (l.length + 5) rfl rfl (by omega) (by omega) ?c1 ?c2 (Nat.le_refl _) ?_)
  case c1 => rw [hz2]; omega
  case c2 => unfold maxLen; omega
  intro w1 hown hgrow
  have hrow : OwnsI 3 w1 w.heap.size (some ⟨w.heap.size, 0, none⟩) (l.length + 5) (lentTo l 0) := by
    refine ⟨?_, ?_⟩
    · intro x hx
      have : lentTo l 0 = List.replicate (l.length + 5) 0 := by simp [lentTo]
      rw [this] at hx
      have := (List.mem_replicate.1 hx).2; subst this; unfold InInt; omega
    · rw [lentTo_length l 0 (by omega)]
      have e : (madeCells #[Value.int .i64 0] (l.length + 5)).toList = ints (lentTo l 0) := by
        rw [toList_madeCells_one]
        simp [lentTo, ints]
      rw [e] at hown
      exact hown
  have hbel : Below w.heap.size w w1 := (Below.refl _ _).grown hgrow (Nat.le_refl _) (fun g hg => by cases hg)
  clear hown hgrow
  go_wp2
  go_loopw [4] (fun i wr => ∃ k : Nat, k ≤ l.length + 5 ∧ i = .int .i64 k ∧ OwnsI 3 wr w.heap.size (some ⟨w.heap.size, 0, none⟩) (l.length + 5) (lentTo l k) ∧ Below w.heap.size w wr) (fun i _ => l.length + 5 - (RowKit.intOf i).toNat)
  case atStart => exact ⟨0, by omega, rfl, hrow, hbel⟩
  case round =>
    clear hrow hbel
    obtain ⟨k, hk, rfl, hown, hbel⟩ := hrel
    by_cases hlt : k < l.length + 5
    · have hkl : k < (lentTo l k).length := by rw [lentTo_length l k hk]; exact hlt
      obtain ⟨g, hg, _, _, hcg, hfg⟩ := hown.at_ hkl
      obtain rfl : w.heap.size = g := by injection hg with hg; injection hg
      clear hg
      by_cases hin : k < l.length
      · have h1 := (h.below (hbel.mono hB))
        obtain ⟨b, off, rfl, hb, hc⟩ := h1.cells k hin
        have hck := hc k hin
        clear hc
        have hs1 := hown.set_ k (-77) (by unfold InInt; omega)
        have hs2 := hs1.set_ k l[k] (h.small _ (List.getElem_mem hin))
        rw [List.set_set, lentTo_set l k hlt _ (lent_item l k hin)] at hs2
        have hb2 : Below w.heap.size w ((wr.setCell ⟨w.heap.size, k, none⟩ (.int .i64 (-77))).setCell ⟨w.heap.size, k, none⟩ (.int .i64 l[k])) := (hbel.setCell (Nat.le_refl _) _).setCell (Nat.le_refl _) _
        have HS := hid (And.intro hs2 hb2)
        clear hs1 hs2 hb2 hown hbel
        go_wp2
        go_roundw
        case rel => exact ⟨k + 1, by omega, by go_num, HS.out.1, HS.out.2⟩
        case measure => simp [RowKit.intOf]; omega
      · have hs1 := hown.set_ k (-77) (by unfold InInt; omega)
        rw [lentTo_set l k hlt _ (lent_mark l k (by omega) hlt)] at hs1
        have hb1 : Below w.heap.size w (wr.setCell ⟨w.heap.size, k, none⟩ (.int .i64 (-77))) := hbel.setCell (Nat.le_refl _) _
        have HS := hid (And.intro hs1 hb1)
        clear hs1 hb1 hown hbel
        go_wp2
        go_roundw
        case rel => exact ⟨k + 1, by omega, by go_num, HS.out.1, HS.out.2⟩
        case measure => simp [RowKit.intOf]; omega
    · obtain rfl : k = l.length + 5 := by omega
      rw [lentTo_end] at hown
      go_wp2
      go_ret
      exact ⟨w.heap.size, l.length + 5, rfl, hown, hbel⟩
theorem take_lent (l : List Int) : (lent l).take l.length = l := by
  unfold lent; rw [List.take_left']; rfl
theorem lent_get (l : List Int) (k : Nat) (h1 : l.length ≤ k) (h2 : k < (lent l).length) : (lent l)[k] = (-77) := by
  have := lent_mark l k h1 (by rw [lent_length] at h2; exact h2)
  rw [List.getElem?_eq_getElem h2] at this
  injection this
set_option maxHeartbeats 400000 in
theorem kept_any (B B' g : Nat) (A' : Option Addr) (c c' : Nat) (l : List Int) (hl : l.length ≤ 17592186044000) (hcap : l.length + 5 ≤ c) (w : World) (h : IsInts w B (some ⟨g, 0, none⟩) (lent l)) (h' : IsInts w B' A' l) :
    Calls Tryz.prog 21 #[.slice (some ⟨g, 0, none⟩) (l.length + 5) c, .slice A' l.length c'] w fun e w' => e = .returned (.bool true) ∧ ∃ n, w' = w.drewN n := by
  have hb : ((l.length : Int) + 5 != (l.length : Int) + 5) = false := by simp
  have h0 : IsInts w B (some ⟨g, 0, none⟩) l := by have := h.take l.length; rw [take_lent] at this; exact this
  go_enter Tryz.func21, Tryz.ntmps21
  go_wp2_with fail
  refine (same_any B B' _ _ _ _ l l (by unfold maxLen; omega) (by unfold maxLen; omega) _ h0 h').mono ?_
  rintro e w' ⟨rfl, n, rfl⟩
  have hd : (!decide (l = l)) = false := by simp
  go_wp2
  go_loopw [5] (fun i wr => ∃ k n : Nat, l.length ≤ k ∧ k ≤ l.length + 5 ∧ i = .int .i64 k ∧ wr = w.drewN n) (fun i _ => l.length + 5 - (RowKit.intOf i).toNat)
  case atStart => exact ⟨l.length, n, by omega, by omega, rfl, rfl⟩
  case round =>
    obtain ⟨k, n, hk1, hk, rfl, rfl⟩ := hrel
    by_cases hlt : k < l.length + 5
    · have hkl : k < (lent l).length := by rw [lent_length]; exact hlt
      obtain ⟨b, off, hg, _, hc⟩ := h.cells k hkl
      obtain ⟨rfl, rfl⟩ : g = b ∧ 0 = off := by injection hg with hg; injection hg with h1 h2; exact ⟨h1, h2⟩
      have hck := hc k hkl
      rw [lent_get l k hk1 hkl, Nat.zero_add] at hck
      clear hc hg
      go_wp2
      go_roundw
      case rel => exact ⟨k + 1, _, by omega, by omega, by go_num, rfl⟩
      case measure => simp [RowKit.intOf]; omega
    · obtain rfl : k = l.length + 5 := by omega
      go_wp2
      go_ret
      exact ⟨rfl, _, rfl⟩
end Go.Proofs.YtfkjahpcpmcefaaGreat.I
namespace Go.Proofs.YtfkjahpcpmcefaaGreat
open Go.RowKit
namespace Qu
def wstep (n : Int) (s : Bool × List Int) (x : Int) : Bool × List Int := if s.1 = false ∧ n < x then (true, s.2 ++ [n, x]) else (s.1, s.2 ++ [x])
def wto (l : List Int) (n : Int) (k : Nat) : Bool × List Int := (l.take k).foldl (wstep n) (decide (n ∈ l), [])
def wend (n : Int) (s : Bool × List Int) : List Int := if s.1 then s.2 else s.2 ++ [n]
theorem wto_succ (l : List Int) (n : Int) (k : Nat) (h : k < l.length) : wto l n (k + 1) = wstep n (wto l n k) l[k] := by
  unfold wto; rw [List.take_succ_eq_append_getElem h, List.foldl_append]; rfl
theorem wto_len (l : List Int) (n : Int) : ∀ k, k ≤ l.length → (wto l n k).2.length ≤ k + (if (wto l n k).1 then 1 else 0)
  | 0, _ => by simp [wto]
  | k + 1, h => by
    have ih := wto_len l n k (by omega)
    rw [wto_succ l n k (by omega)]
    unfold wstep
    split
    · rename_i h1
      rw [h1.1] at ih
      simp at ih ⊢; omega
    · simp only [List.length_append, List.length_cons, List.length_nil]; omega
theorem wto_in {l : List Int} {n : Int} (hn : n ∈ l) : ∀ k, k ≤ l.length → wto l n k = (true, l.take k)
  | 0, _ => by simp [wto, hn]
  | k + 1, h => by
    rw [wto_succ l n k (by omega), wto_in hn k (by omega), List.take_succ_eq_append_getElem (by omega)]
    simp [wstep]
theorem wto_out {l : List Int} {n : Int} (hs : l.Pairwise (· < ·)) (hn : n ∉ l) : ∀ k, k ≤ l.length →
    (wto l n k).2.Pairwise (· < ·) ∧ (∀ y, y ∈ (wto l n k).2 ↔ y ∈ l.take k ∨ ((wto l n k).1 = true ∧ y = n)) ∧ ((wto l n k).1 = true ↔ ∃ y ∈ l.take k, n < y)
  | 0, _ => by simp [wto, hn]
  | k + 1, h => by
    obtain ⟨h1, h2, h3⟩ := wto_out hs hn k (by omega)
    have hlt : ∀ y ∈ l.take k, y < l[k] := fun y hy => by
      obtain ⟨i, hi, rfl⟩ := List.getElem_of_mem hy
      rw [List.length_take] at hi
      rw [List.getElem_take]
      exact (List.pairwise_iff_getElem.1 hs) i k (by omega) (by omega) (by omega)
    have hne : l[k] ≠ n := fun e => hn (e ▸ List.getElem_mem (by omega))
    rw [wto_succ l n k (by omega), List.take_succ_eq_append_getElem (by omega)]
    unfold wstep
    by_cases hc : (wto l n k).1 = false ∧ n < l[k]
    · rw [if_pos hc]
      have hall : ∀ y ∈ l.take k, y < n := fun y hy => by
        by_cases h4 : n < y
        · have := h3.2 ⟨y, hy, h4⟩; rw [hc.1] at this; cases this
        · have : y ≠ n := fun e => hn (e ▸ List.mem_of_mem_take hy)
          omega
      have hmem : ∀ y ∈ (wto l n k).2, y ∈ l.take k := fun y hy => by
        rcases (h2 y).1 hy with h4 | h4
        · exact h4
        · rw [hc.1] at h4; cases h4.1
      refine ⟨?_, fun y => ?_, ?_⟩
      · rw [List.pairwise_append]
        refine ⟨h1, by simp [hc.2], fun a ha b hb => ?_⟩
        have := hall a (hmem a ha)
        simp at hb
        rcases hb with rfl | rfl
        · exact this
        · omega
      · rw [List.mem_append, List.mem_append, h2 y, hc.1]
        simp
        constructor
        · rintro (h4 | h4 | h4)
          · exact .inl (.inl h4)
          · exact .inr h4
          · exact .inl (.inr h4)
        · rintro ((h4 | h4) | h4)
          · exact .inl h4
          · exact .inr (.inr h4)
          · exact .inr (.inl h4)
      · simp only [true_iff]
        exact ⟨l[k], List.mem_append_right _ (List.mem_singleton_self _), hc.2⟩
    · rw [if_neg hc]
      refine ⟨?_, fun y => ?_, ?_⟩
      · rw [List.pairwise_append]
        refine ⟨h1, by simp, fun a ha b hb => ?_⟩
        simp at hb
        subst hb
        rcases (h2 a).1 ha with h4 | h4
        · exact hlt a h4
        · obtain ⟨y, hy, h5⟩ := h3.1 h4.1
          have := hlt y hy
          omega
      · rw [List.mem_append, List.mem_append, h2 y]
        constructor
        · rintro ((h4 | h4) | h4)
          · exact .inl (.inl h4)
          · exact .inr h4
          · exact .inl (.inr h4)
        · rintro ((h4 | h4) | h4)
          · exact .inl (.inl h4)
          · exact .inr h4
          · exact .inl (.inr h4)
      · rw [h3]
        constructor
        · rintro ⟨y, hy, h4⟩; exact ⟨y, List.mem_append_left _ hy, h4⟩
        · rintro ⟨y, hy, h4⟩
          rcases List.mem_append.1 hy with hy | hy
          · exact ⟨y, hy, h4⟩
          · simp at hy
            subst hy
            by_cases h5 : (wto l n k).1 = false
            · exact absurd ⟨h5, h4⟩ hc
            · exact h3.1 (by simpa using h5)
theorem with_is (L : List Int) (n : Int) : wend n (wto (uni L) n (uni L).length) = uni (L ++ [n]) := by
  have hu := uni_is L
  refine Uni.unique (l := L ++ [n]) ?_ (uni_is _)
  unfold wend
  by_cases hn : n ∈ uni L
  · rw [wto_in hn _ (Nat.le_refl _)]
    simp only [if_true, List.take_length]
    refine ⟨hu.1, fun y => ?_⟩
    rw [List.mem_append, hu.2 y]
    constructor
    · exact .inl
    · rintro (h | h)
      · exact h
      · simp at h; subst h; exact (hu.2 _).1 hn
  · obtain ⟨h1, h2, h3⟩ := wto_out hu.1 hn _ (Nat.le_refl _)
    rw [List.take_length] at h2 h3
    cases hb : (wto (uni L) n (uni L).length).1
    · rw [hb] at h2 h3
      simp only [Bool.false_eq_true, if_false]
      refine ⟨?_, fun y => ?_⟩
      · rw [List.pairwise_append]
        refine ⟨h1, by simp, fun a ha b hb' => ?_⟩
        simp at hb'
        subst hb'
        rcases (h2 a).1 ha with h4 | h4
        · by_cases h5 : b < a
          · have := h3.2 ⟨a, h4, h5⟩; cases this
          · have : a ≠ b := fun e => hn (e ▸ h4)
            omega
        · cases h4.1
      · rw [List.mem_append, List.mem_append, h2 y, hu.2 y]
        simp
    · rw [hb] at h2
      simp only [if_true]
      refine ⟨h1, fun y => ?_⟩
      rw [h2 y, List.mem_append, hu.2 y]
      simp
end Qu
set_option maxRecDepth 100000 in
set_option maxHeartbeats 1000000 in
theorem with_any (B : Nat) (A : Option Addr) (c : Nat) (l : List Int) (hl0 : l.length ≤ 10000) (n : Int) (hn0 : InInt n) (w : World) (h0 : IsInts w B A l) (hB : B ≤ w.heap.size) :
    Calls Tryz.prog 43 #[.slice A l.length c, .int .i64 n] w fun e w' => ∃ A' c', e = .returned (.slice A' (Qu.wend n (Qu.wto l n l.length)).length c') ∧ OwnsI 3 w' w.heap.size A' c' (Qu.wend n (Qu.wto l n l.length)) ∧ Below w.heap.size w w' := by
  obtain ⟨i0, hi, hz0, hz1, hz2⟩ := info_parts I.info_int
  have h := hid h0
  have hn := hid hn0
  have HI := hid (in_any B A c l (by omega) n w h0)
  have hl := hl0
  clear h0 hn0 hl0
  go_enter Tryz.func43, Tryz.ntmps43
  go_wp2_with fail
  refine HI.out.mono ?_
  rintro e w1 ⟨rfl, rfl⟩
  go_wp2_with fail
  go_loopw [5, 6, 7] (fun v b i wr => ∃ (k m : Nat) (ld : Bool) (A2 : Option Addr) (c2 : Nat) (out : List Int), k ≤ l.length ∧ v = .slice A2 m c2 ∧ b = .bool ld ∧ i = .int .i64 k ∧ Hid (out.length = m ∧ (ld, out) = Qu.wto l n k ∧ OwnsI 3 wr w1.heap.size A2 c2 out ∧ Below w1.heap.size w1 wr)) (fun _ _ i _ => l.length - (RowKit.intOf i).toNat)
  case atStart => exact ⟨0, 0, decide (n ∈ l), none, 0, [], by omega, rfl, rfl, rfl, hid ⟨rfl, by simp [Qu.wto], OwnsI.nil _ _ _, Below.refl _ _⟩⟩
  case round =>
    obtain ⟨k, m, ld, A2, c2, out, hk, rfl, rfl, rfl, HR⟩ := hrel
    have hlen : m ≤ k + 1 := by
      have h1 := Qu.wto_len l n k hk
      rw [← HR.out.2.1] at h1
      have := HR.out.1
      simp only at h1
      split at h1 <;> omega
    by_cases hlt : k < l.length
    · obtain ⟨b, off, rfl, hb, hcell⟩ := h.out.cells k hlt
      have hck : wr.cell? ⟨b, off + k, none⟩ = some (.int .i64 l[k]) := (HR.out.2.2.2.cell (p := ⟨b, off + k, none⟩) (by show b < _; omega)).trans (hcell k hlt)
      have hxin := h.out.small _ (List.getElem_mem hlt)
      have HX := hid hxin
      have HST := hid (Qu.wto_succ l n k hlt)
      have hblt : b < wr.heap.size := World.block_lt_of_cell? _ _ hck
      clear hcell hxin
      generalize l[k] = x at *
      by_cases hc : ld = false ∧ n < x
      · obtain ⟨rfl, hnx⟩ := hc
        have hown := HR.out.2.2.1
        have hbase := HR.out.2.2.2.size
        have hln := HR.out.1
        have HB := hid (And.intro hck hblt)
        have HN := hid hnx
        go_wp2_with (at_builtin; refine wpList_append_intN rfl _ _ 22 rfl w1.heap.size 3 i0 Tryz.underlying22 hi hz0 hz1 hz2 A2 c2 out m hln rfl (hown.alloc _) ⟨wr.heap.size, 0, none⟩ 1 n hn.out rfl (by simp) (out ++ [n]) rfl (by omega) (by simp; omega) ?_)
        intro A3 c3 w3 hown3 hbel3
        have hbel3' : Below w1.heap.size w1 w3 := (HR.out.2.2.2.alloc HR.out.2.2.2.size _).trans hbel3
        have hck3 : w3.cell? ⟨b, off + k, none⟩ = some (.int .i64 x) := by
          have h1 := (hbel3'.cell (p := ⟨b, off + k, none⟩) (by show b < w1.heap.size; omega))
          have h2 := (HR.out.2.2.2.cell (p := ⟨b, off + k, none⟩) (by show b < w1.heap.size; omega))
          rw [h1, ← h2]; exact HB.out.1
        have hbase3 := hbel3'.size
        have HB3 := hid hbel3'
        clear hown hbel3 hbase hbel3' hck
        go_wp2_with (at_builtin; refine wpList_append_intN rfl _ _ 22 rfl w1.heap.size 3 i0 Tryz.underlying22 hi hz0 hz1 hz2 A3 c3 (out ++ [n]) (m + 1) (by rw [List.length_append, hln]; rfl) rfl (hown3.alloc _) ⟨w3.heap.size, 0, none⟩ 1 x HX.out rfl (by simp) (out ++ [n, x]) (by simp) (by omega) (by simp; omega) ?_)
        intro A4 c4 w4 hown4 hbel4
        have H4 := hid (And.intro hown4 ((HB3.out.alloc HB3.out.size _).trans hbel4))
        have HLN := hid hln
        clear hown3 hown4 hbel4 hck3 hln
        go_wp2
        go_roundw
        case rel =>
          refine ⟨k + 1, m + 1 + 1, true, A4, c4, out ++ [n, x], by omega, rfl, rfl, by go_num, hid ⟨by simp [HLN.out], ?_, H4.out.1, H4.out.2⟩⟩
          rw [HST.out, ← HR.out.2.1]
          simp [Qu.wstep, HN.out]
        case measure => simp [RowKit.intOf]; omega
      · have hown := HR.out.2.2.1
        have hbase := HR.out.2.2.2.size
        have hln := HR.out.1
        have HC := hid hc
        have hst : (ld, out ++ [x]) = Qu.wto l n (k + 1) := by
          rw [HST.out, ← HR.out.2.1]
          unfold Qu.wstep
          rw [if_neg hc]
        have HS := hid hst
        clear hst HST
        rcases Bool.eq_false_or_eq_true ld with rfl | rfl
        · clear hc HC
          go_wp2_with (at_builtin; refine wpList_append_intN rfl _ _ 22 rfl w1.heap.size 3 i0 Tryz.underlying22 hi hz0 hz1 hz2 A2 c2 out m hln rfl (hown.alloc _) ⟨wr.heap.size, 0, none⟩ 1 x HX.out rfl (by simp) (out ++ [x]) rfl (by omega) (by simp; omega) ?_)
          intro A3 c3 w3 hown3 hbel3
          have H4 := hid (And.intro hown3 ((HR.out.2.2.2.alloc HR.out.2.2.2.size _).trans hbel3))
          have HLN := hid hln
          clear hown hown3 hbel3 hck hln
          go_wp2
          go_roundw
          case rel => exact ⟨k + 1, m + 1, true, A3, c3, out ++ [x], by omega, rfl, rfl, by go_num, hid ⟨by simp [HLN.out], HS.out, H4.out.1, H4.out.2⟩⟩
          case measure => simp [RowKit.intOf]; omega
        · have hnx : ¬ n < x := fun e => hc ⟨rfl, e⟩
          clear hc HC
          go_wp2_with (at_builtin; refine wpList_append_intN rfl _ _ 22 rfl w1.heap.size 3 i0 Tryz.underlying22 hi hz0 hz1 hz2 A2 c2 out m hln rfl (hown.alloc _) ⟨wr.heap.size, 0, none⟩ 1 x HX.out rfl (by simp) (out ++ [x]) rfl (by omega) (by simp; omega) ?_)
          intro A3 c3 w3 hown3 hbel3
          have H4 := hid (And.intro hown3 ((HR.out.2.2.2.alloc HR.out.2.2.2.size _).trans hbel3))
          have HLN := hid hln
          clear hown hown3 hbel3 hck hln
          go_wp2
          go_roundw
          case rel => exact ⟨k + 1, m + 1, false, A3, c3, out ++ [x], by omega, rfl, rfl, by go_num, hid ⟨by simp [HLN.out], HS.out, H4.out.1, H4.out.2⟩⟩
          case measure => simp [RowKit.intOf]; omega
    · obtain rfl : k = l.length := by omega
      have hown := HR.out.2.2.1
      have hbase := HR.out.2.2.2.size
      have hln := HR.out.1
      have HE := hid HR.out.2.1
      rcases Bool.eq_false_or_eq_true ld with rfl | rfl
      · have hw : Qu.wend n (Qu.wto l n l.length) = out := by rw [← HE.out]; rfl
        have HW := hid hw
        clear hw
        have HLN := hid hln
        clear hln
        have HO := hid hown
        clear hown
        go_wp2
        go_ret
        rw [HW.out]
        exact ⟨A2, c2, ret_len HLN.out.symm, HO.out, HR.out.2.2.2⟩
      · have hw : Qu.wend n (Qu.wto l n l.length) = out ++ [n] := by rw [← HE.out]; rfl
        have HW := hid hw
        clear hw
        go_wp2_with (at_builtin; refine wpList_append_intN rfl _ _ 22 rfl w1.heap.size 3 i0 Tryz.underlying22 hi hz0 hz1 hz2 A2 c2 out m hln rfl (hown.alloc _) ⟨wr.heap.size, 0, none⟩ 1 n hn.out rfl (by simp) (out ++ [n]) rfl (by omega) (by simp; omega) ?_)
        intro A3 c3 w3 hown3 hbel3
        have H4 := hid (And.intro hown3 ((HR.out.2.2.2.alloc HR.out.2.2.2.size _).trans hbel3))
        have HLN := hid hln
        clear hown hown3 hbel3 hln
        go_wp2
        go_ret
        rw [HW.out]
        exact ⟨A3, c3, ret_len (by simp [HLN.out]), H4.out.1, H4.out.2⟩
end Go.Proofs.YtfkjahpcpmcefaaGreat
namespace Go.Proofs.YtfkjahpcpmcefaaGreat.Co
open Go Go.RowKit
open Qu (Cf)
set_option maxRecDepth 100000
set_option linter.unusedVariables false
attribute [local go_sem ↓] Im.loadAt_conf3 Im.storeAt_conf3 loadAt_mem storeAt_mem
theorem refCheck_M (B : Nat) (c : Cf) (hs : Short c) (m : M3) (w : World) (h : InC w B c m) (hB : B ≤ w.heap.size) :
    Calls Tryz.prog 41 #[.agg #[.slice m.a0 m.n0 m.k0, .slice m.a1 m.n1 m.k1, .slice m.a2 m.n2 m.k2]] w fun e w' => e = .returned (.int .i64 (Qu.err c)) ∧ Below w.heap.size w w' := by
  rw [h.val]; exact refCheck_any B c hs _ _ _ _ _ _ w h.cis hB
theorem copyConf_M (B : Nat) (c : Cf) (hs : Short c) (m : M3) (w : World) (h : InC w B c m) (hB : B ≤ w.heap.size) :
    Calls Tryz.prog 11 #[.agg #[.slice m.a0 m.n0 m.k0, .slice m.a1 m.n1 m.k1, .slice m.a2 m.n2 m.k2]] w (Got w c) := by
  rw [h.val]
  refine (copyConf_sep B c hs _ _ _ _ _ _ w h.cis hB).mono fun e w' ⟨A0, A1, A2, p0, p1, p2, he, ⟨m1, m2, ⟨g1, g2, g3⟩, ⟨o0, b0⟩, ⟨o1, b1⟩, o2⟩, hc, hb⟩ => ?_
  refine ⟨⟨A0, c.old.length, p0, A1, c.new.length, p1, A2, c.lrn.length, p2⟩, he, own3 o0 rfl (o1.weaken g1) rfl (o2.weaken (Nat.le_trans g1 g2)) rfl (fun k hk e => ?_) (fun k hk e => ?_) (fun k hk e => ?_), hb⟩
  · have := b0 k hk; have := (o1.blkLt k e).1; omega
  · have := b0 k hk; have := (o2.blkLt k e).1; omega
  · have := b1 k hk; have := (o2.blkLt k e).1; omega
theorem sameConf_M (B B' : Nat) (c : Cf) (hs : Short c) (m m' : M3) (w : World) (h : InC w B c m) (h' : InC w B' c m') (hB : B ≤ w.heap.size) (hB' : B' ≤ w.heap.size) :
    Calls Tryz.prog 19 #[.agg #[.slice m.a0 m.n0 m.k0, .slice m.a1 m.n1 m.k1, .slice m.a2 m.n2 m.k2], .agg #[.slice m'.a0 m'.n0 m'.k0, .slice m'.a1 m'.n1 m'.k1, .slice m'.a2 m'.n2 m'.k2]] w fun e w' => e = .returned (.bool true) ∧ Below w.heap.size w w' := by
  rw [h.val, h'.val]; exact sameConf_any B B' c c hs hs _ _ _ _ _ _ _ _ _ _ _ _ w h.cis h'.cis hB hB' rfl
theorem in_M (B : Nat) (A : Option Addr) (c n : Nat) (l : List Int) (hn : n = l.length) (hl : n ≤ 100000) (x : Int) (w : World) (h : IsInts w B A l) :
    Calls Tryz.prog 40 #[.slice A n c, .int .i64 x] w fun e w' => e = .returned (.bool (decide (x ∈ l))) ∧ w' = w := by
  subst hn; exact in_any B A c l hl x w h
theorem copy_M (B : Nat) (A : Option Addr) (c n : Nat) (l : List Int) (hn : n = l.length) (hl : n ≤ 100000) (w : World) (h : IsInts w B A l) (hB : B ≤ w.heap.size) :
    Calls Tryz.prog 32 #[.slice A n c] w fun e w' => ∃ A' p, e = .returned (.slice A' n p) ∧ OwnsI 3 w' w.heap.size A' p l ∧ Below w.heap.size w w' := by
  subst hn; exact I.copy_any B A c l (by omega) w h hB
theorem forbids_any (B : Nat) (c : Cf) (hs : Short c) (m : M3) (n : Int) (hn : InInt n) (w : World) (h : InC w B c m) (hB : B ≤ w.heap.size) :
    Calls Tryz.prog 39 #[.agg #[.slice m.a0 m.n0 m.k0, .slice m.a1 m.n1 m.k1, .slice m.a2 m.n2 m.k2], .int .i64 n] w fun e w' => e = .returned (.int .i64 (forb c n)) ∧ Below w.heap.size w w' := by
  obtain ⟨w1, hw1⟩ : ∃ w1, w1 = w.alloc (.cells #[.slice m.a0 m.n0 m.k0, .slice m.a1 m.n1 m.k1, .slice m.a2 m.n2 m.k2] 24) := ⟨_, rfl⟩
  have hb1 : Below w.heap.size w w1 := by rw [hw1]; exact below_new w _
  have hs1 : w1.heap.size = w.heap.size + 1 := by rw [hw1]; simp
  have hx1 : Bx w1 w.heap.size 24 m := by rw [hw1]; exact Bx.new _ _ _
  have hld := (Bx.new w 24 m).ld
  have HI := hid (refCheck_M B c hs m w1 (h.below (hb1.mono hB)) (by omega))
  have HX := hid (And.intro hx1 hs1)
  have HB := hid hb1
  have HG := hid h.chg
  clear h hb1 hs1 hx1
  cases ho : Qu.ok c
  · have HF : Hid (forb c n = 29) := hid (by unfold forb; rw [if_pos ho])
    rw [err_f ho] at HI
    rw [HF.out]
    clear ho
    go_enter Tryz.func39, Tryz.ntmps39
    go_wp2_with fail
    rw [← hw1]
    clear hw1
    refine HI.out.mono ?_
    rintro e w2 ⟨rfl, hb2⟩
    have H2 := hid hb2
    clear hb2
    go_wp2_with fail
    go_ret
    exact ⟨rfl, HB.out.trans (H2.out.mono HB.out.size)⟩
  have ho' : ¬ Qu.ok c = false := by rw [ho]; decide
  have HO := hid ho'
  rw [err_t ho] at HI
  clear ho ho'
  by_cases hq : n < 1 ∨ 7 < n
  · have HF : Hid (forb c n = 28) := hid (by unfold forb; rw [if_neg HO.out, if_pos hq])
    rw [HF.out]
    by_cases h1 : n < 1
    · clear hq
      go_enter Tryz.func39, Tryz.ntmps39
      go_wp2_with fail
      rw [← hw1]
      clear hw1
      refine HI.out.mono ?_
      rintro e w2 ⟨rfl, hb2⟩
      have H2 := hid hb2
      clear hb2
      go_wp2_with fail
      go_ret
      exact ⟨rfl, HB.out.trans (H2.out.mono HB.out.size)⟩
    · have h7 : 7 < n := by omega
      clear hq
      go_enter Tryz.func39, Tryz.ntmps39
      go_wp2_with fail
      rw [← hw1]
      clear hw1
      refine HI.out.mono ?_
      rintro e w2 ⟨rfl, hb2⟩
      have H2 := hid hb2
      clear hb2
      go_wp2_with fail
      go_ret
      exact ⟨rfl, HB.out.trans (H2.out.mono HB.out.size)⟩
  · have h1 : ¬ n < 1 := by omega
    have h7 : ¬ 7 < n := by omega
    have HQ := hid hq
    clear hq
    go_enter Tryz.func39, Tryz.ntmps39
    go_wp2_with fail
    rw [← hw1]
    clear hw1
    refine HI.out.mono ?_
    rintro e w2 ⟨rfl, hb2⟩
    have hx2 := HX.out.1.below hb2 (by rw [HX.out.2]; omega)
    have hld2 := hx2.ld
    have H2 := hid (HB.out.trans (hb2.mono HB.out.size))
    clear hb2 hld
    go_wp2_with fail
    refine (refChanging_any m w2).mono ?_
    rintro e w3 ⟨rfl, hb3⟩
    have H3 := hid (H2.out.trans (hb3.mono H2.out.size))
    clear hb3
    rw [HG.out]
    cases hc : chg c
    · have HF : Hid (forb c n = 0) := hid (by unfold forb; rw [if_neg HO.out, if_neg HQ.out, if_neg (by rw [hc]; decide)])
      clear hc
      go_wp2_with fail
      go_ret
      exact ⟨ret_int HF.out.symm, H3.out⟩
    · have HF : Hid (forb c n = 11) := hid (by unfold forb; rw [if_neg HO.out, if_neg HQ.out, if_pos hc])
      clear hc
      go_wp2_with fail
      go_ret
      exact ⟨ret_int HF.out.symm, H3.out⟩
theorem st_nil {w : World} {b : Nat} (h : Bx w b 24 mNil) : (Im.stX 24 (.pointer (some ⟨b, 0, none⟩)) (.agg #[.slice none 0 0, .slice none 0 0, .slice none 0 0])).run Tryz.prog w = .ok () w := Im.stSame Im.info_conf33 h rfl (by simp [Value.oneCell'])
set_option maxHeartbeats 3200000 in
theorem refAdd_any (B : Nat) (c : Cf) (hs : Short c) (m : M3) (n : Int) (hn : InInt n) (w : World) (h : InC w B c m) (hB : B ≤ w.heap.size) :
    Calls Tryz.prog 16 #[.agg #[.slice m.a0 m.n0 m.k0, .slice m.a1 m.n1 m.k1, .slice m.a2 m.n2 m.k2], .int .i64 n] w (GotE w (add c n).1 (add c n).2) := by
  obtain ⟨w2, hw2⟩ : ∃ w2, w2 = (w.alloc (.cells #[.slice m.a0 m.n0 m.k0, .slice m.a1 m.n1 m.k1, .slice m.a2 m.n2 m.k2] 24)).alloc (.cells #[.slice none 0 0, .slice none 0 0, .slice none 0 0] 24) := ⟨_, rfl⟩
  have hq := box2 w 24 m
  have hld := hq.2.2.1.ld
  rw [← hw2] at hq
  have HQ := hid hq
  have HI : Hid (∀ W, Below w.heap.size w W → InC W B c m ∧ B ≤ W.heap.size) := hid (fun W hb => ⟨h.below (hb.mono hB), by have := hb.size; omega⟩)
  have HFX := hid (forbids_any B c hs m n hn w2 (h.below (hq.1.mono hB)) (by have := hq.2.1; omega))
  have HL : Hid (m.n0 = c.old.length ∧ m.n0 ≤ 20000) := hid ⟨h.e0, by have := h.e0; have := hs.1; omega⟩
  clear h hq
  obtain ⟨f0, hf0⟩ : ∃ f0, f0 = forb c n := ⟨_, rfl⟩
  rw [← hf0] at HFX
  have HF0 := hid hf0
  clear hf0
  by_cases hz : f0 = 0
  · subst hz
    by_cases hi : n ∈ c.old
    · have HA : Hid (add c n = (nil, 7)) := hid (by unfold add; rw [if_neg (by rw [← HF0.out]; simp), if_pos hi])
      have HIN := hid (fun W hw => in_M B m.a0 m.k0 m.n0 c.old HL.out.1 (by have := HL.out.2; omega) n W (HI.out W hw).1.o)
      rw [decide_eq_true hi] at HIN
      clear hi
      rw [HA.out]
      go_enter Tryz.func16, Tryz.ntmps16
      go_wp2_with fail
      rw [← hw2]
      clear hw2 hld
      refine HFX.out.mono ?_
      rintro e w3 ⟨rfl, hb3⟩
      have hx3 := HQ.out.2.2.1.below hb3 HQ.out.2.2.1.lt
      have hz3 := HQ.out.2.2.2.below hb3 HQ.out.2.2.2.lt
      have hlow := HQ.out.1.trans (hb3.mono HQ.out.1.size)
      have hc0 := hx3.c0
      have H3 := hid (And.intro hlow hz3)
      clear hb3 hx3 hz3 hlow
      go_wp2_with fail
      refine (HIN.out w3 H3.out.1).mono ?_
      rintro e w4 ⟨rfl, rfl⟩
      have hst := st_nil H3.out.2
      go_wp2_with fail
      refine bodyPost_ret (Im.results_two rfl Im.info_conf33 Tryz.underlying24 rfl _ _ (w.heap.size + 1) _ _ _ rfl H3.out.2 rfl) rfl ?_
      exact ⟨mNil, rfl, ownNil _ _ _, H3.out.1⟩
    · have HA : Hid (add c n = (⟨c.old, [], [n]⟩, 0)) := hid (by unfold add; rw [if_neg (by rw [← HF0.out]; simp), if_neg hi])
      have HIN := hid (fun W hw => in_M B m.a0 m.k0 m.n0 c.old HL.out.1 (by have := HL.out.2; omega) n W (HI.out W hw).1.o)
      have HC := hid (fun W hw => copy_M B m.a0 m.k0 m.n0 c.old HL.out.1 (by have := HL.out.2; omega) W (HI.out W hw).1.o (HI.out W hw).2)
      rw [decide_eq_false hi] at HIN
      clear hi
      rw [HA.out]
      go_enter Tryz.func16, Tryz.ntmps16
      go_wp2_with fail
      rw [← hw2]
      clear hw2 hld
      refine HFX.out.mono ?_
      rintro e w3 ⟨rfl, hb3⟩
      have hx3 := HQ.out.2.2.1.below hb3 HQ.out.2.2.1.lt
      have hz3 := HQ.out.2.2.2.below hb3 HQ.out.2.2.2.lt
      have hlow := HQ.out.1.trans (hb3.mono HQ.out.1.size)
      have hc0 := hx3.c0
      have hsz : w.heap.size + 2 ≤ w3.heap.size := by have := hb3.size; have := HQ.out.2.1; omega
      have H3 := hid (And.intro hlow (And.intro hz3 hsz))
      clear hb3 hx3 hz3 hlow hsz
      go_wp2_with fail
      refine (HIN.out w3 H3.out.1).mono ?_
      rintro e w9 ⟨rfl, rfl⟩
      go_wp2_with fail
      refine (HC.out _ H3.out.1).mono ?_
      rintro e w4 ⟨A, c1, rfl, ho, hb4⟩
      obtain ⟨w5, hw5⟩ : ∃ w5, w5 = w4.alloc (.cells #[.int .i64 n] 3) := ⟨_, rfl⟩
      have hb5 : Below w4.heap.size w4 w5 := by rw [hw5]; exact below_new w4 _
      have ho5 := ownsI_one w4 n hn
      rw [← hw5] at ho5
      have hz4 := hb4.size
      have hbx := (H3.out.2.1.below hb4 H3.out.2.1.lt).below hb5 (by have := H3.out.2.1.lt; omega)
      have hst := hbx.st (m' := ⟨A, m.n0, c1, none, 0, 0, some ⟨w4.heap.size, 0, none⟩, 1, 1⟩)
      have hd : ∀ k, blk A = some k → blk (some ⟨w4.heap.size, 0, none⟩) ≠ some k := fun k hk e => by
        have := (ho.blkLt k hk).2
        have e2 : w4.heap.size = k := by injection e
        omega
      have H5 := hid (And.intro (hbx.set ⟨A, m.n0, c1, none, 0, 0, some ⟨w4.heap.size, 0, none⟩, 1, 1⟩) (got_box (own2l (ho.below hb5) HL.out.1 (ho5.weaken hz4) (show 1 = [n].length from rfl) hd) (H3.out.1.trans ((hb4.mono H3.out.1.size).trans (hb5.mono (by have := H3.out.1.size; omega)))) (b := w.heap.size + 1) ⟨by omega, by have := H3.out.2.2; omega⟩))
      have HW := hid hw5
      rw [hw5] at hst
      clear ho hb4 hbx hb5 ho5 hd hw5 hz4
      go_wp2_with fail
      rw [← HW.out]
      refine bodyPost_ret (Im.results_two rfl Im.info_conf33 Tryz.underlying24 rfl _ _ (w.heap.size + 1) _ _ _ rfl H5.out.1 rfl) rfl ?_
      exact ⟨_, rfl, H5.out.2.1, H5.out.2.2⟩
  · have HA : Hid (add c n = (nil, f0)) := hid (by unfold add; rw [if_pos (by rw [← HF0.out]; exact hz), ← HF0.out])
    have hz' : (f0 != 0) = true := by rw [bne_iff_ne]; exact hz
    clear hz
    rw [HA.out]
    go_enter Tryz.func16, Tryz.ntmps16
    go_wp2_with fail
    rw [← hw2]
    clear hw2 hld
    refine HFX.out.mono ?_
    rintro e w3 ⟨rfl, hb3⟩
    have hz3 := HQ.out.2.2.2.below hb3 HQ.out.2.2.2.lt
    have hlow := HQ.out.1.trans (hb3.mono HQ.out.1.size)
    have hst := st_nil hz3
    have H3 := hid (And.intro hlow hz3)
    clear hb3 hz3 hlow
    go_wp2_with fail
    refine bodyPost_ret (Im.results_two rfl Im.info_conf33 Tryz.underlying24 rfl _ _ (w.heap.size + 1) _ _ _ rfl H3.out.2 rfl) rfl ?_
    exact ⟨mNil, rfl, ownNil _ _ _, H3.out.1⟩
end Go.Proofs.YtfkjahpcpmcefaaGreat.Co
namespace Go.Proofs.YtfkjahpcpmcefaaGreat.Co
open Go Go.RowKit
open Qu (Cf)
set_option maxRecDepth 100000
set_option linter.unusedVariables false
attribute [local go_sem ↓] Im.loadAt_conf3 Im.storeAt_conf3 loadAt_mem storeAt_mem
def lft (l : List Int) (n : Int) (k : Nat) : List Int := (l.take k).filter (fun x => decide (x ≠ n))
theorem lft_skip {l : List Int} {n : Int} {k : Nat} (h : k < l.length) (he : l[k] = n) : lft l n (k + 1) = lft l n k := by
  unfold lft; rw [List.take_succ_eq_append_getElem h, List.filter_append]; simp [he]
theorem lft_keep {l : List Int} {n : Int} {k : Nat} (h : k < l.length) (he : l[k] ≠ n) : lft l n (k + 1) = lft l n k ++ [l[k]] := by
  unfold lft; rw [List.take_succ_eq_append_getElem h, List.filter_append]; simp [he]
set_option maxHeartbeats 3200000 in
theorem refDrop_any (B : Nat) (c : Cf) (hs : Short c) (m : M3) (n : Int) (hn : InInt n) (w : World) (h : InC w B c m) (hB : B ≤ w.heap.size) :
    Calls Tryz.prog 17 #[.agg #[.slice m.a0 m.n0 m.k0, .slice m.a1 m.n1 m.k1, .slice m.a2 m.n2 m.k2], .int .i64 n] w (GotE w (drop c n).1 (drop c n).2) := by
  obtain ⟨i0, hi, hz0, hz1, hz2⟩ := info_parts I.info_int
  obtain ⟨w2, hw2⟩ : ∃ w2, w2 = (w.alloc (.cells #[.slice m.a0 m.n0 m.k0, .slice m.a1 m.n1 m.k1, .slice m.a2 m.n2 m.k2] 24)).alloc (.cells #[.slice none 0 0, .slice none 0 0, .slice none 0 0] 24) := ⟨_, rfl⟩
  have hq := box2 w 24 m
  have hld := hq.2.2.1.ld
  rw [← hw2] at hq
  have HQ := hid hq
  have HI : Hid (∀ W, Below w.heap.size w W → InC W B c m ∧ B ≤ W.heap.size) := hid (fun W hb => ⟨h.below (hb.mono hB), by have := hb.size; omega⟩)
  have HFX := hid (forbids_any B c hs m n hn w2 (h.below (hq.1.mono hB)) (by have := hq.2.1; omega))
  have HL : Hid (m.n0 = c.old.length ∧ m.n0 ≤ 20000) := hid ⟨h.e0, by have := h.e0; have := hs.1; omega⟩
  have hle : m.n0 ≤ 20000 := HL.out.2
  clear h hq
  obtain ⟨f0, hf0⟩ : ∃ f0, f0 = forb c n := ⟨_, rfl⟩
  rw [← hf0] at HFX
  have HF0 := hid hf0
  clear hf0
  by_cases hz : f0 = 0
  · subst hz
    by_cases hin : n ∈ c.old
    · have HIN := hid (fun W hw => in_M B m.a0 m.k0 m.n0 c.old HL.out.1 (by have := HL.out.2; omega) n W (HI.out W hw).1.o)
      have HC := hid (fun W hw => copy_M B m.a0 m.k0 m.n0 c.old HL.out.1 (by have := HL.out.2; omega) W (HI.out W hw).1.o (HI.out W hw).2)
      rw [decide_eq_true hin] at HIN
      have HNI := hid hin
      clear hin
      by_cases h1 : m.n0 = 1
      · have HA : Hid (drop c n = (nil, 29)) := hid (by unfold drop; rw [if_neg (by rw [← HF0.out]; simp), if_neg (by simpa using HNI.out), if_pos (by rw [← HL.out.1]; exact h1)])
        have h1' : ((m.n0 : Int) == 1) = true := by rw [beq_iff_eq]; omega
        clear h1
        rw [HA.out]
        go_enter Tryz.func17, Tryz.ntmps17
        go_wp2_with fail
        rw [← hw2]
        clear hw2 hld
        refine HFX.out.mono ?_
        rintro e w3 ⟨rfl, hb3⟩
        have hx3 := HQ.out.2.2.1.below hb3 HQ.out.2.2.1.lt
        have hz3 := HQ.out.2.2.2.below hb3 HQ.out.2.2.2.lt
        have hlow := HQ.out.1.trans (hb3.mono HQ.out.1.size)
        have hc0 := hx3.c0
        have H3 := hid (And.intro hlow hz3)
        clear hb3 hx3 hz3 hlow
        go_wp2_with fail
        refine (HIN.out w3 H3.out.1).mono ?_
        rintro e w4 ⟨rfl, rfl⟩
        have hst := st_nil H3.out.2
        go_wp2_with fail
        refine bodyPost_ret (Im.results_two rfl Im.info_conf33 Tryz.underlying24 rfl _ _ (w.heap.size + 1) _ _ _ rfl H3.out.2 rfl) rfl ?_
        exact ⟨mNil, rfl, ownNil _ _ _, H3.out.1⟩
      · have HA : Hid (drop c n = (⟨c.old, c.old.filter (fun x => decide (x ≠ n)), []⟩, 0)) := hid (by unfold drop; rw [if_neg (by rw [← HF0.out]; simp), if_neg (by simpa using HNI.out), if_neg (by rw [← HL.out.1]; exact h1)])
        have h1' : ((m.n0 : Int) == 1) = false := by rw [beq_eq_false_iff_ne]; omega
        clear h1
        rw [HA.out]
        go_enter Tryz.func17, Tryz.ntmps17
        go_wp2_with fail
        rw [← hw2]
        clear hw2 hld
        refine HFX.out.mono ?_
        rintro e w3 ⟨rfl, hb3⟩
        have hx3 := HQ.out.2.2.1.below hb3 HQ.out.2.2.1.lt
        have hz3 := HQ.out.2.2.2.below hb3 HQ.out.2.2.2.lt
        have hlow := HQ.out.1.trans (hb3.mono HQ.out.1.size)
        have hc0 := hx3.c0
        have hsz : w.heap.size + 2 ≤ w3.heap.size := by have := hb3.size; have := HQ.out.2.1; omega
        have H3 := hid (And.intro hlow (And.intro hz3 (And.intro hsz hx3)))
        clear hb3 hx3 hz3 hlow hsz
        go_wp2_with fail
        refine (HIN.out w3 H3.out.1).mono ?_
        rintro e w9 ⟨rfl, rfl⟩
        go_wp2_with fail
        go_loopw [7, 8] (fun v i wr => ∃ (k q : Nat) (A2 : Option Addr) (c2 : Nat), (k ≤ m.n0 ∧ q ≤ k) ∧ v = .slice A2 q c2 ∧ i = .int .i64 k ∧ Hid (q = (lft c.old n k).length ∧ OwnsI 3 wr w9.heap.size A2 c2 (lft c.old n k) ∧ Below w9.heap.size w9 wr)) (fun _ i _ => m.n0 - (RowKit.intOf i).toNat)
        case atStart => exact ⟨0, 0, none, 0, ⟨by omega, by omega⟩, rfl, rfl, hid ⟨rfl, OwnsI.nil _ _ _, Below.refl _ _⟩⟩
        case round =>
          clear h1'
          obtain ⟨k, q, A2, c2, ⟨hk, hqk⟩, rfl, rfl, HR⟩ := hrel
          have hxr := H3.out.2.2.2.below HR.out.2.2 H3.out.2.2.2.lt
          have hcr := hxr.c0
          have hlr := H3.out.1.trans (HR.out.2.2.mono H3.out.1.size)
          have HXR := hid hlr
          clear hxr hlr
          by_cases hlt : k < m.n0
          · have hko : k < c.old.length := by rw [← HL.out.1]; exact hlt
            obtain ⟨b, off, hA0, hb, hcell⟩ := (HI.out wr HXR.out).1.o.cells k hko
            have hck := hcell k hko
            have hxin := (HI.out wr HXR.out).1.o.small _ (List.getElem_mem hko)
            obtain ⟨x, hx⟩ : ∃ x, x = c.old[k] := ⟨_, rfl⟩
            rw [← hx] at hck hxin
            rw [hA0] at hcr
            have HXX := hid hx
            have HHA := hid hA0
            have HXI := hid hxin
            have hblt : b < wr.heap.size := World.block_lt_of_cell? _ _ hck
            clear hcell hx hA0 hxin
            by_cases he : x = n
            · have he' : (x != n) = false := by rw [he]; simp
              have HS := hid (lft_skip (n := n) hko (by rw [← HXX.out]; exact he))
              clear he
              go_wp2_with fail
              go_roundw
              case rel => exact ⟨k + 1, q, A2, c2, ⟨by omega, by omega⟩, rfl, by go_num, hid ⟨by rw [HS.out]; exact HR.out.1, by rw [HS.out]; exact HR.out.2.1, HR.out.2.2⟩⟩
              case measure => simp [RowKit.intOf]; omega
            · have he' : (x != n) = true := by rw [bne_iff_ne]; exact he
              have HS := hid (lft_keep (n := n) hko (by rw [← HXX.out]; exact he))
              clear he
              have hown := HR.out.2.1
              have hbase := HR.out.2.2.size
              have hln : (lft c.old n k).length = q := HR.out.1.symm
              go_wp2_with (at_builtin; refine wpList_append_intN rfl _ _ 22 rfl w9.heap.size 3 i0 Tryz.underlying22 hi hz0 hz1 hz2 A2 c2 (lft c.old n k) q hln rfl (hown.alloc _) ⟨wr.heap.size, 0, none⟩ 1 x HXI.out rfl (by simp) (lft c.old n k ++ [x]) rfl (by omega) (by simp; omega) ?_)
              intro A3 c3 w5 hown5 hbel5
              have H5 := hid (And.intro hown5 ((HR.out.2.2.alloc HR.out.2.2.size _).trans hbel5))
              have HLN := hid hln
              clear hown hown5 hbel5 hck hln hcr
              go_wp2
              go_roundw
              case rel => exact ⟨k + 1, q + 1, A3, c3, ⟨by omega, by omega⟩, rfl, by go_num, hid ⟨by rw [HS.out, List.length_append, HLN.out]; rfl, by rw [HS.out, ← HXX.out]; exact H5.out.1, H5.out.2⟩⟩
              case measure => simp [RowKit.intOf]; omega
          · obtain rfl : k = m.n0 := by omega
            have hend : lft c.old n m.n0 = c.old.filter (fun x => decide (x ≠ n)) := by unfold lft; rw [HL.out.1, List.take_length]
            rw [hend] at HR
            go_wp2_with fail
            refine (HC.out wr HXR.out).mono ?_
            rintro e w4 ⟨A, c1, rfl, ho, hb4⟩
            have hb94 := HR.out.2.2.trans (hb4.mono HR.out.2.2.size)
            have hbx := H3.out.2.1.below hb94 H3.out.2.1.lt
            have hst := hbx.st (m' := ⟨A, m.n0, c1, A2, q, c2, none, 0, 0⟩)
            have hd : ∀ k, blk A = some k → blk A2 ≠ some k := fun k hk e => by
              have := (ho.blkLt k hk).1
              have := (HR.out.2.1.blkLt k e).2
              omega
            have H5 := hid (And.intro (hbx.set ⟨A, m.n0, c1, A2, q, c2, none, 0, 0⟩) (got_box (own2 (ho.weaken HR.out.2.2.size) HL.out.1 (HR.out.2.1.below hb4) HR.out.1 hd) (H3.out.1.trans (hb94.mono H3.out.1.size)) (b := w.heap.size + 1) ⟨by omega, by have := H3.out.2.2.1; omega⟩))
            clear ho hb4 hbx hd hb94 hcr
            go_wp2_with fail
            refine bodyPost_ret (Im.results_two rfl Im.info_conf33 Tryz.underlying24 rfl _ _ (w.heap.size + 1) _ _ _ rfl H5.out.1 rfl) rfl ?_
            exact ⟨_, rfl, H5.out.2.1, H5.out.2.2⟩
    · have HIN := hid (fun W hw => in_M B m.a0 m.k0 m.n0 c.old HL.out.1 (by have := HL.out.2; omega) n W (HI.out W hw).1.o)
      rw [decide_eq_false hin] at HIN
      have HA : Hid (drop c n = (nil, 6)) := hid (by unfold drop; rw [if_neg (by rw [← HF0.out]; simp), if_pos hin])
      clear hin
      rw [HA.out]
      go_enter Tryz.func17, Tryz.ntmps17
      go_wp2_with fail
      rw [← hw2]
      clear hw2 hld
      refine HFX.out.mono ?_
      rintro e w3 ⟨rfl, hb3⟩
      have hx3 := HQ.out.2.2.1.below hb3 HQ.out.2.2.1.lt
      have hz3 := HQ.out.2.2.2.below hb3 HQ.out.2.2.2.lt
      have hlow := HQ.out.1.trans (hb3.mono HQ.out.1.size)
      have hc0 := hx3.c0
      have H3 := hid (And.intro hlow hz3)
      clear hb3 hx3 hz3 hlow
      go_wp2_with fail
      refine (HIN.out w3 H3.out.1).mono ?_
      rintro e w4 ⟨rfl, rfl⟩
      have hst := st_nil H3.out.2
      go_wp2_with fail
      refine bodyPost_ret (Im.results_two rfl Im.info_conf33 Tryz.underlying24 rfl _ _ (w.heap.size + 1) _ _ _ rfl H3.out.2 rfl) rfl ?_
      exact ⟨mNil, rfl, ownNil _ _ _, H3.out.1⟩
  · have HA : Hid (drop c n = (nil, f0)) := hid (by unfold drop; rw [if_pos (by rw [← HF0.out]; exact hz), ← HF0.out])
    have hz' : (f0 != 0) = true := by rw [bne_iff_ne]; exact hz
    clear hz
    rw [HA.out]
    go_enter Tryz.func17, Tryz.ntmps17
    go_wp2_with fail
    rw [← hw2]
    clear hw2 hld
    refine HFX.out.mono ?_
    rintro e w3 ⟨rfl, hb3⟩
    have hz3 := HQ.out.2.2.2.below hb3 HQ.out.2.2.2.lt
    have hlow := HQ.out.1.trans (hb3.mono HQ.out.1.size)
    have hst := st_nil hz3
    have H3 := hid (And.intro hlow hz3)
    clear hb3 hz3 hlow
    go_wp2_with fail
    refine bodyPost_ret (Im.results_two rfl Im.info_conf33 Tryz.underlying24 rfl _ _ (w.heap.size + 1) _ _ _ rfl H3.out.2 rfl) rfl ?_
    exact ⟨mNil, rfl, ownNil _ _ _, H3.out.1⟩
end Go.Proofs.YtfkjahpcpmcefaaGreat.Co
namespace Go.Proofs.YtfkjahpcpmcefaaGreat.Co
open Go Go.RowKit
open Qu (Cf)
set_option maxRecDepth 100000
set_option linter.unusedVariables false
attribute [local go_sem ↓] Im.loadAt_conf3 Im.storeAt_conf3 loadAt_mem storeAt_mem
theorem uni_self {l : List Int} (h : l.Pairwise (· < ·)) : Qu.uni l = l := Qu.uni_eq (Qu.uni_is l).1 h (fun x => Qu.uni_mem)
def ups (c : Cf) (k : Nat) : List Int := Qu.uni (c.old ++ c.lrn.take k)
theorem ups_le (c : Cf) (k : Nat) : (ups c k).length ≤ c.old.length + c.lrn.length := by
  have := (Qu.uni_is (c.old ++ c.lrn.take k)).length_le
  rw [List.length_append, List.length_take] at this
  unfold ups
  omega
theorem ups_succ {c : Cf} {k : Nat} (h : k < c.lrn.length) : ups c (k + 1) = Qu.wend c.lrn[k] (Qu.wto (ups c k) c.lrn[k] (ups c k).length) := by
  unfold ups
  rw [Qu.with_is, List.append_assoc, ← List.take_succ_eq_append_getElem h]
theorem with_M (B : Nat) (A : Option Addr) (k n : Nat) (l r : List Int) (hn : n = l.length) (hl : n ≤ 10000) (x : Int) (hx : InInt x) (hr : r = Qu.wend x (Qu.wto l x l.length)) (w : World) (h : IsInts w B A l) (hB : B ≤ w.heap.size) :
    Calls Tryz.prog 43 #[.slice A n k, .int .i64 x] w fun e w' => ∃ A' k' n', e = .returned (.slice A' n' k') ∧ n' = r.length ∧ OwnsI 3 w' w.heap.size A' k' r ∧ Below w.heap.size w w' := by
  subst hn hr
  exact (with_any B A k l hl x hx w h hB).mono fun e w' ⟨A', k', he, ho, hb⟩ => ⟨A', k', _, he, rfl, ho, hb⟩
set_option maxHeartbeats 3200000 in
theorem refNext_any (B B' : Nat) (c : Cf) (hs : Short c) (hs3 : c.old.length ≤ 3000 ∧ c.lrn.length ≤ 3000) (m : M3) (A' : Option Addr) (n' k' : Nat) (f : List Int) (hn' : n' = f.length) (hl' : n' ≤ 100000) (w : World) (h : InC w B c m) (h' : IsInts w B' A' f) (hB : B ≤ w.heap.size) (hB' : B' ≤ w.heap.size) :
    Calls Tryz.prog 18 #[.agg #[.slice m.a0 m.n0 m.k0, .slice m.a1 m.n1 m.k1, .slice m.a2 m.n2 m.k2], .slice A' n' k'] w (GotB w (next c f).1 (next c f).2) := by
  obtain ⟨w2, hw2⟩ : ∃ w2, w2 = (w.alloc (.cells #[.slice m.a0 m.n0 m.k0, .slice m.a1 m.n1 m.k1, .slice m.a2 m.n2 m.k2] 24)).alloc (.cells #[.slice none 0 0, .slice none 0 0, .slice none 0 0] 24) := ⟨_, rfl⟩
  have hq := box2 w 24 m
  have hld := hq.2.2.1.ld
  rw [← hw2] at hq
  have HQ := hid hq
  have HI : Hid (∀ W, Below w.heap.size w W → InC W B c m ∧ B ≤ W.heap.size) := hid (fun W hb => ⟨h.below (hb.mono hB), by have := hb.size; omega⟩)
  have HF : Hid (∀ W, Below w.heap.size w W → IsInts W B' A' f) := hid (fun W hb => h'.below (hb.mono hB'))
  have HCK := hid (refCheck_M B c hs m w2 (h.below (hq.1.mono hB)) (by have := hq.2.1; omega))
  have HG := hid h.chg
  have HL : Hid (m.n0 = c.old.length ∧ m.n0 ≤ 20000 ∧ m.n1 = c.new.length ∧ m.n1 ≤ 20000 ∧ m.n2 = c.lrn.length ∧ m.n2 ≤ 3000) := hid ⟨h.e0, by have := h.e0; have := hs.1; omega, h.e1, by have := h.e1; have := hs.2.1; omega, h.e2, by have := h.e2; omega⟩
  have HFN := hid (And.intro hn' hl')
  have HS := hid (And.intro hs hs3)
  have HK : Hid (∀ W, Below w2.heap.size w2 W → (Bx W w.heap.size 24 m ∧ Bx W (w.heap.size + 1) 24 mNil) ∧ Below w.heap.size w W ∧ w.heap.size + 2 ≤ W.heap.size) := hid (fun W hb => ⟨⟨hq.2.2.1.below hb hq.2.2.1.lt, hq.2.2.2.below hb hq.2.2.2.lt⟩, hq.1.trans (hb.mono hq.1.size), by have := hb.size; have := hq.2.1; omega⟩)
  clear h h' hq hn' hl' hs hs3 hB hB'
  cases ho : Qu.ok c
  · have HN := hid (next_bad (.inl ho) f)
    rw [err_f ho] at HCK
    clear ho
    rw [HN.out]
    go_enter Tryz.func18, Tryz.ntmps18
    go_wp2_with fail
    rw [← hw2]
    clear hw2 hld
    refine HCK.out.mono ?_
    rintro e w3 ⟨rfl, hb3⟩
    have hld3 := (HK.out w3 hb3).1.1.ld
    have H3 := hid hb3
    clear hb3
    go_wp2_with fail
    refine (copyConf_M B c HS.out.1 m w3 (HI.out w3 (HK.out w3 H3.out).2.1).1 (HI.out w3 (HK.out w3 H3.out).2.1).2).mono ?_
    rintro e w4 ⟨m', rfl, ho4, hb4⟩
    have hb24 := H3.out.trans (hb4.mono H3.out.size)
    have hst := (HK.out w4 hb24).1.2.st (m' := m')
    have H4 := hid (And.intro ((HK.out w4 hb24).1.2.set m') (got_box (w2 := w3) (b := w.heap.size + 1) ho4 (HK.out w4 hb24).2.1 ⟨by omega, by have := (HK.out w3 H3.out).2.2; omega⟩))
    clear hb4 ho4 hb24
    go_wp2_with fail
    refine bodyPost_ret (Im.results_two rfl Im.info_conf33 Tryz.underlying24 rfl _ _ (w.heap.size + 1) _ _ _ rfl H4.out.1 rfl) rfl ?_
    exact ⟨m', rfl, H4.out.2.1, H4.out.2.2⟩
  have HO := hid ho
  rw [err_t ho] at HCK
  clear ho
  cases hc : Co.chg c
  · have HN := hid (next_bad (.inr hc) f)
    rw [hc] at HG
    clear hc
    rw [HN.out]
    go_enter Tryz.func18, Tryz.ntmps18
    go_wp2_with fail
    rw [← hw2]
    clear hw2 hld
    refine HCK.out.mono ?_
    rintro e w3 ⟨rfl, hb3⟩
    have hld3 := (HK.out w3 hb3).1.1.ld
    have H3 := hid hb3
    clear hb3
    go_wp2_with fail
    refine (refChanging_any m w3).mono ?_
    rintro e w5 ⟨rfl, hb5⟩
    rw [HG.out]
    have hb25 := H3.out.trans (hb5.mono H3.out.size)
    have hld5 := (HK.out w5 hb25).1.1.ld
    have H5 := hid hb25
    clear hb5 hb25 hld3
    go_wp2_with fail
    refine (copyConf_M B c HS.out.1 m w5 (HI.out w5 (HK.out w5 H5.out).2.1).1 (HI.out w5 (HK.out w5 H5.out).2.1).2).mono ?_
    rintro e w4 ⟨m', rfl, ho4, hb4⟩
    have hb24 := H5.out.trans (hb4.mono H5.out.size)
    have hst := (HK.out w4 hb24).1.2.st (m' := m')
    have H4 := hid (And.intro ((HK.out w4 hb24).1.2.set m') (got_box (w2 := w5) (b := w.heap.size + 1) ho4 (HK.out w4 hb24).2.1 ⟨by omega, by have := (HK.out w5 H5.out).2.2; omega⟩))
    clear hb4 ho4 hb24
    go_wp2_with fail
    refine bodyPost_ret (Im.results_two rfl Im.info_conf33 Tryz.underlying24 rfl _ _ (w.heap.size + 1) _ _ _ rfl H4.out.1 rfl) rfl ?_
    exact ⟨m', rfl, H4.out.2.1, H4.out.2.2⟩
  have hgo : ¬ (Qu.ok c = false ∨ Co.chg c = false) := by rw [HO.out, hc]; decide
  have HGO := hid hgo
  rw [hc] at HG
  clear hc hgo
  by_cases hn : c.new = []
  · have hz : m.n1 = 0 := by rw [HL.out.2.2.1, hn]; rfl
    have hz' : decide (0 < m.n1) = false := by rw [hz]; decide
    have HNN := hid hn
    clear hn hz
    go_enter Tryz.func18, Tryz.ntmps18
    go_wp2_with fail
    rw [← hw2]
    clear hw2 hld
    refine HCK.out.mono ?_
    rintro e w3 ⟨rfl, hb3⟩
    have hld3 := (HK.out w3 hb3).1.1.ld
    have H3 := hid hb3
    clear hb3
    go_wp2_with fail
    refine (refChanging_any m w3).mono ?_
    rintro e w5 ⟨rfl, hb5⟩
    rw [HG.out]
    have hb25 := H3.out.trans (hb5.mono H3.out.size)
    have hc1 := (HK.out w5 hb25).1.1.c1
    have hc0 := (HK.out w5 hb25).1.1.c0
    have H5 := hid hb25
    clear hb5 hb25 hld3
    go_wp2_with fail
    refine (copy_M B m.a0 m.k0 m.n0 c.old HL.out.1 (by have := HL.out.2.1; omega) w5 (HI.out w5 (HK.out w5 H5.out).2.1).1.o (HI.out w5 (HK.out w5 H5.out).2.1).2).mono ?_
    rintro e w6 ⟨Aa, ka, rfl, ho6, hb6⟩
    have hold : c.old = ups c 0 := by
      unfold ups
      rw [List.take_zero, List.append_nil, uni_self]
      exact rises (ok_parts HO.out).2.1
    have H6 := hid (And.intro ho6 (And.intro (H5.out.trans (hb6.mono H5.out.size)) (And.intro hold hb6.size)))
    clear hc1 hc0 ho6 hb6 hold
    go_wp2_with fail
    go_loopw [6, 7] (fun v i wr => ∃ (k q : Nat) (A2 : Option Addr) (c2 : Nat), k ≤ m.n2 ∧ v = .slice A2 q c2 ∧ i = .int .i64 k ∧ Hid (q = (ups c k).length ∧ OwnsI 3 wr w5.heap.size A2 c2 (ups c k) ∧ Below w2.heap.size w2 wr ∧ w5.heap.size ≤ wr.heap.size ∧ ∀ x ∈ c.lrn.take k, x ∈ f)) (fun _ i _ => m.n2 - (RowKit.intOf i).toNat)
    case atStart =>
      exact ⟨0, m.n0, Aa, ka, by omega, rfl, rfl, hid ⟨by rw [← H6.out.2.2.1]; exact HL.out.1, by rw [← H6.out.2.2.1]; exact H6.out.1, H6.out.2.1, H6.out.2.2.2, by simp⟩⟩
    case round =>
      clear hz'
      have hn2 : m.n2 ≤ 3000 := HL.out.2.2.2.2.2
      obtain ⟨k, q, A2, c2, hk, rfl, rfl, HR⟩ := hrel
      have hcr := (HK.out wr HR.out.2.2.1).1.1.c2
      have hlow := (HK.out wr HR.out.2.2.1).2.1
      have HLOW := hid hlow
      clear hlow
      by_cases hlt : k < m.n2
      · have hko : k < c.lrn.length := by rw [← HL.out.2.2.2.2.1]; exact hlt
        obtain ⟨b, off, hA0, hb, hcell⟩ := (HI.out wr HLOW.out).1.l.cells k hko
        have hck := hcell k hko
        have hxin := (HI.out wr HLOW.out).1.l.small _ (List.getElem_mem hko)
        obtain ⟨x, hx⟩ : ∃ x, x = c.lrn[k] := ⟨_, rfl⟩
        have hsu := ups_succ hko
        rw [← hx] at hck hxin hsu
        rw [hA0] at hcr
        have HXX := hid hx
        have HXI := hid hxin
        have HSU := hid hsu
        have hblt : b < wr.heap.size := World.block_lt_of_cell? _ _ hck
        have HIN := hid (in_M B' A' k' n' f HFN.out.1 HFN.out.2 x wr (HF.out wr HLOW.out))
        clear hcell hx hA0 hxin hsu
        by_cases hf : x ∈ f
        · rw [decide_eq_true hf] at HIN
          have HFI := hid hf
          have hqm : q ≤ 10000 := by have := HR.out.1; have := ups_le c k; have := HS.out.2.1; have := HS.out.2.2; omega
          have HWM := hid (fun r hr => with_M wr.heap.size A2 c2 q (ups c k) r HR.out.1 hqm x HXI.out hr wr HR.out.2.1.reads (Nat.le_refl _))
          clear hf hqm
          go_wp2_with fail
          refine HIN.out.mono ?_
          rintro e w7 ⟨rfl, hw7⟩
          rw [hw7]
          clear hw7
          go_wp2_with fail
          refine (HWM.out (ups c (k + 1)) HSU.out).mono ?_
          rintro e w8 ⟨A3, c3, n3, rfl, hn3, ho8, hb8⟩
          have hb28 := HR.out.2.2.1.trans (hb8.mono HR.out.2.2.1.size)
          have H8 := hid (And.intro hn3 (And.intro (ho8.weaken HR.out.2.2.2.1) (And.intro hb28 (Nat.le_trans HR.out.2.2.2.1 hb8.size))))
          clear hn3 ho8 hb8 hb28
          go_wp2_with fail
          go_roundw
          case rel =>
            refine ⟨k + 1, n3, A3, c3, by omega, rfl, by go_num, hid ⟨H8.out.1, H8.out.2.1, H8.out.2.2.1, H8.out.2.2.2, fun y hy => ?_⟩⟩
            rw [List.take_succ_eq_append_getElem hko, List.mem_append, List.mem_singleton] at hy
            rcases hy with hy | hy
            · exact HR.out.2.2.2.2 y hy
            · rw [hy, ← HXX.out]; exact HFI.out
          case measure => simp [RowKit.intOf]; omega
        · rw [decide_eq_false hf] at HIN
          have HN := hid (next_wait HGO.out HNN.out (f := f) (fun hall => hf (by rw [HXX.out]; exact hall _ (List.getElem_mem hko))))
          rw [HN.out]
          clear hf
          go_wp2_with fail
          refine HIN.out.mono ?_
          rintro e w7 ⟨rfl, hw7⟩
          rw [hw7]
          clear hw7
          have hldr := (HK.out wr HR.out.2.2.1).1.1.ld
          go_wp2_with fail
          refine (copyConf_M B c HS.out.1 m wr (HI.out wr HLOW.out).1 (HI.out wr HLOW.out).2).mono ?_
          rintro e w4 ⟨m', rfl, ho4, hb4⟩
          have hb24 := HR.out.2.2.1.trans (hb4.mono HR.out.2.2.1.size)
          have hst := (HK.out w4 hb24).1.2.st (m' := m')
          have H4 := hid (And.intro ((HK.out w4 hb24).1.2.set m') (got_box (w2 := wr) (b := w.heap.size + 1) ho4 (HK.out w4 hb24).2.1 ⟨by omega, by have := (HK.out wr HR.out.2.2.1).2.2; omega⟩))
          clear hb4 ho4 hb24 hldr
          go_wp2_with fail
          refine bodyPost_ret (Im.results_two rfl Im.info_conf33 Tryz.underlying24 rfl _ _ (w.heap.size + 1) _ _ _ rfl H4.out.1 rfl) rfl ?_
          exact ⟨m', rfl, H4.out.2.1, H4.out.2.2⟩
      · obtain rfl : k = m.n2 := by omega
        have hall : ∀ x ∈ c.lrn, x ∈ f := by
          have := HR.out.2.2.2.2
          rwa [HL.out.2.2.2.2.1, List.take_length] at this
        have hN := next_both HGO.out HNN.out hall
        have hu : Qu.uni (c.old ++ c.new ++ c.lrn) = ups c m.n2 := by
          unfold ups
          rw [HL.out.2.2.2.2.1, List.take_length, HNN.out, List.append_nil]
        rw [hu] at hN
        have HN := hid hN
        have hc0 := (HK.out wr HR.out.2.2.1).1.1.c0
        clear hall hN hu
        go_wp2_with fail
        refine (copy_M B m.a0 m.k0 m.n0 c.old HL.out.1 (by have := HL.out.2.1; omega) wr (HI.out wr HLOW.out).1.o (HI.out wr HLOW.out).2).mono ?_
        rintro e w4 ⟨A, c1, rfl, ho4, hb4⟩
        have hb24 := HR.out.2.2.1.trans (hb4.mono HR.out.2.2.1.size)
        have hst := (HK.out w4 hb24).1.2.st (m' := ⟨A, m.n0, c1, A2, q, c2, none, 0, 0⟩)
        have hd : ∀ k, blk A = some k → blk A2 ≠ some k := fun k hk e => by
          have := (ho4.blkLt k hk).1
          have := (HR.out.2.1.blkLt k e).2
          omega
        have H4 := hid (And.intro ((HK.out w4 hb24).1.2.set ⟨A, m.n0, c1, A2, q, c2, none, 0, 0⟩) (got_box (w2 := w5) (b := w.heap.size + 1) (own2 (ho4.weaken HR.out.2.2.2.1) HL.out.1 (HR.out.2.1.below hb4) HR.out.1 hd) (HK.out w4 hb24).2.1 ⟨by omega, by have := (HK.out w5 H5.out).2.2; omega⟩))
        clear hb4 ho4 hb24 hc0 hcr hd
        go_wp2_with fail
        refine bodyPost_ret (Im.results_two rfl Im.info_conf33 Tryz.underlying24 rfl _ _ (w.heap.size + 1) _ _ _ rfl H4.out.1 rfl) rfl ?_
        rw [HN.out]
        exact ⟨_, rfl, H4.out.2.1, H4.out.2.2⟩
  · have HN := hid (next_alone HGO.out hn f)
    have hz : 0 < m.n1 := by rw [HL.out.2.2.1]; exact List.length_pos_iff.2 hn
    have hz' : (0 : Int) < (m.n1 : Int) := by omega
    clear hn hz
    rw [HN.out]
    go_enter Tryz.func18, Tryz.ntmps18
    go_wp2_with fail
    rw [← hw2]
    clear hw2 hld
    refine HCK.out.mono ?_
    rintro e w3 ⟨rfl, hb3⟩
    have hld3 := (HK.out w3 hb3).1.1.ld
    have H3 := hid hb3
    clear hb3
    go_wp2_with fail
    refine (refChanging_any m w3).mono ?_
    rintro e w5 ⟨rfl, hb5⟩
    rw [HG.out]
    have hb25 := H3.out.trans (hb5.mono H3.out.size)
    have hc1 := (HK.out w5 hb25).1.1.c1
    have H5 := hid hb25
    clear hb5 hb25 hld3
    go_wp2_with fail
    refine (copy_M B m.a1 m.k1 m.n1 c.new HL.out.2.2.1 (by have := HL.out.2.2.2.1; omega) w5 (HI.out w5 (HK.out w5 H5.out).2.1).1.n (HI.out w5 (HK.out w5 H5.out).2.1).2).mono ?_
    rintro e w4 ⟨A, c1, rfl, ho4, hb4⟩
    have hb24 := H5.out.trans (hb4.mono H5.out.size)
    have hst := (HK.out w4 hb24).1.2.st (m' := ⟨A, m.n1, c1, none, 0, 0, none, 0, 0⟩)
    have H4 := hid (And.intro ((HK.out w4 hb24).1.2.set ⟨A, m.n1, c1, none, 0, 0, none, 0, 0⟩) (got_box (w2 := w5) (b := w.heap.size + 1) (own1 ho4 HL.out.2.2.1) (HK.out w4 hb24).2.1 ⟨by omega, by have := (HK.out w5 H5.out).2.2; omega⟩))
    clear hb4 ho4 hb24 hc1
    go_wp2_with fail
    refine bodyPost_ret (Im.results_two rfl Im.info_conf33 Tryz.underlying24 rfl _ _ (w.heap.size + 1) _ _ _ rfl H4.out.1 rfl) rfl ?_
    exact ⟨_, rfl, H4.out.2.1, H4.out.2.2⟩
end Go.Proofs.YtfkjahpcpmcefaaGreat.Co
