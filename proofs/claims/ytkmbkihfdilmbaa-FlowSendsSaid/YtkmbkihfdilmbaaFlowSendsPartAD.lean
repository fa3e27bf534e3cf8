/- Texts of the proof, one behind the other: FlB, RlB, RlC, FlC, FlD, RefInt, RefBlob, PackRefPut, RfPut, RfPutB, FlE, RegGrow, RegArms, VoN, FlF, FlG, MsMath3, MsWorks, FlH, MsSpoil. -/
import Derived.Test.YtkmbkihfdilmbaaFlowSendsPartAC
import Derived.Test.YtkmbkihfdilmbaaFlowSendsPartAB
import Derived.Test.YtkmbkihfdilmbaaFlowSendsPartAA
import Derived.Deep.RegionHeld3
import Derived.StillTailTactics
import Derived.Deep.CutRange
import Derived.StillTail
import Derived.Below
import Derived.WalkKit
namespace Go.Proofs.Ytkmbkihfdilmbaa.Fw
open Go Go.RowKit
open Ms (M)
open Im (ldX stX)
open Vo (Rw loadAt_msgV storeAt_msgV info_msgV boxes)
set_option maxRecDepth 100000
set_option linter.unusedVariables false
attribute [local go_sem ↓] loadAt_msgV storeAt_msgV loadAt_flow storeAt_flow
def placedB (f : Fl) : Bool := decide (0 ≤ min (min (min f.n f.x) f.m) f.r) && decide (max (max (max f.n f.x) f.m) f.r ≤ 1099511627777)
theorem placedB_pl {f : Fl} (h : placedB f = true) : Pl f := by
  unfold placedB at h
  rw [Bool.and_eq_true, decide_eq_true_eq, decide_eq_true_eq] at h
  obtain ⟨h1, h2⟩ := h
  exact ⟨by omega, by omega, by omega, by omega⟩
theorem run_min4 {P : Program} (W : World) (ts : Array TypeId) (t : TypeId) (x y z u v : Int) (hv : min (min (min x y) z) u = v) : (Builtin.min_ ts t #[.int .i64 x, .int .i64 y, .int .i64 z, .int .i64 u]).run P W = .ok (.int .i64 v) W := by
  have e : (Builtin.min_ ts t #[.int .i64 x, .int .i64 y, .int .i64 z, .int .i64 u]).run P W = .ok (.int .i64 (if u < (if z < (if y < x then y else x) then z else (if y < x then y else x)) then u else (if z < (if y < x then y else x) then z else (if y < x then y else x)))) W := by
    simp [Builtin.min_, Builtin.min2]
  rw [e]
  congr 2
  rw [← hv]
  split <;> split <;> split <;> omega
theorem run_max4 {P : Program} (W : World) (ts : Array TypeId) (t : TypeId) (x y z u v : Int) (hv : max (max (max x y) z) u = v) : (Builtin.max_ ts t #[.int .i64 x, .int .i64 y, .int .i64 z, .int .i64 u]).run P W = .ok (.int .i64 v) W := by
  have e : (Builtin.max_ ts t #[.int .i64 x, .int .i64 y, .int .i64 z, .int .i64 u]).run P W = .ok (.int .i64 (if (if (if x < y then y else x) < z then z else (if x < y then y else x)) < u then u else (if (if x < y then y else x) < z then z else (if x < y then y else x)))) W := by
    simp [Builtin.max_, Builtin.max2]
  rw [e]
  congr 2
  rw [← hv]
  split <;> split <;> split <;> omega
theorem placed_any (f : Fl) (w : World) :
    Calls Try.prog 16 #[.agg #[.int .i64 f.n, .int .i64 f.x, .int .i64 f.m, .int .i64 f.r]] w fun e w' => e = .returned (.bool (placedB f)) ∧ Below w.heap.size w w' := by
  have hb := (Below.refl w.heap.size w).alloc (Nat.le_refl _) (.cells #[.int .i64 f.n, .int .i64 f.x, .int .i64 f.m, .int .i64 f.r] 42)
  have HB := hid hb
  obtain ⟨lo, hlo⟩ : ∃ v, min (min (min f.n f.x) f.m) f.r = v := ⟨_, rfl⟩
  obtain ⟨hi, hhi⟩ : ∃ v, max (max (max f.n f.x) f.m) f.r = v := ⟨_, rfl⟩
  have hm := fun W ts t => run_min4 (P := Try.prog) W ts t f.n f.x f.m f.r lo hlo
  have hx := fun W ts t => run_max4 (P := Try.prog) W ts t f.n f.x f.m f.r hi hhi
  have HP : Hid (placedB f = (decide (0 ≤ lo) && decide (hi ≤ 1099511627777))) := hid (by unfold placedB; rw [hlo, hhi])
  rw [HP.out]
  clear hb HP hlo hhi
  by_cases h1 : 0 ≤ lo
  · by_cases h2 : hi ≤ 1099511627777
    · rw [decide_eq_true h1, decide_eq_true h2]
      go_enter Try.func16, Try.ntmps16
      go_wp2_with fail
      go_ret
      exact ⟨rfl, HB.out⟩
    · rw [decide_eq_true h1, decide_eq_false h2]
      go_enter Try.func16, Try.ntmps16
      go_wp2_with fail
      go_ret
      exact ⟨rfl, HB.out⟩
  · rw [decide_eq_false h1, Bool.false_and]
    go_enter Try.func16, Try.ntmps16
    go_wp2_with fail
    go_ret
    exact ⟨rfl, HB.out⟩
end Go.Proofs.Ytkmbkihfdilmbaa.Fw
namespace Go.Proofs.Ytkmbkihfdilmbaa
open Go.RowKit
end Go.Proofs.Ytkmbkihfdilmbaa
namespace Go.Proofs.Ytkmbkihfdilmbaa
open Go.RowKit
set_option maxHeartbeats 800000 in
set_option maxRecDepth 100000 in
theorem slice_no (B : Nat) (g : Rl.Lg) (A : Option Addr) (c : Nat) (i m : Int) (hg : Rl.Ok g) (hn : m < 1 ∨ i = g.base ∨ g.has i = false) (w : World) (h : LgIs w B g A c) (hB : B ≤ w.heap.size) :
    Calls Try.prog 51 #[.agg #[.int .i64 g.base, .int .i64 g.term, .slice A g.es.length c], .int .i64 i, .int .i64 m] w fun e w' => e = .returned (.slice none 0 0) ∧ Below w.heap.size w w' := by
  have hb1 : Below w.heap.size w (w.alloc (.cells #[.int .i64 g.base, .int .i64 g.term, .slice A g.es.length c] 25)) := (Below.refl _ w).alloc (Nat.le_refl _) _
  have HC := hid (has_any w.heap.size g A c i hg _ ((h.more hB).below hb1) hb1.size)
  have HB := hid hb1
  have HN := hid hn
  clear h hb1 hn
  by_cases h1 : m < 1
  · go_enter Try.func51, Try.ntmps51
    go_wp2_with fail
    go_ret
    exact ⟨rfl, HB.out⟩
  · by_cases h2 : i = g.base
    · subst h2
      go_enter Try.func51, Try.ntmps51
      go_wp2_with fail
      go_ret
      exact ⟨rfl, HB.out⟩
    · have h3 : g.has i = false := by
        rcases HN.out with e | e | e
        · exact absurd e h1
        · exact absurd e h2
        · exact e
      rw [h3] at HC
      clear h3
      go_enter Try.func51, Try.ntmps51
      go_wp2_with fail
      refine HC.out.mono ?_
      rintro e w2 ⟨rfl, hb2⟩
      have HB2 := hid (HB.out.trans (hb2.mono HB.out.size))
      clear hb2
      go_wp2_with fail
      go_ret
      exact ⟨rfl, HB2.out⟩
set_option maxHeartbeats 800000 in
set_option maxRecDepth 100000 in
theorem slice_yes (B : Nat) (g : Rl.Lg) (A : Option Addr) (c : Nat) (i m : Int) (j q : Nat) (hi : i = g.base + (j : Int) + 1) (hj : j < g.es.length) (hm : 1 ≤ m) (hq : q = min m.toNat (g.es.length - j)) (hg : Rl.Ok g) (hf : Rl.Few g.es) (w : World) (h : LgIs w B g A c) (hB : B ≤ w.heap.size) :
    Calls Try.prog 51 #[.agg #[.int .i64 g.base, .int .i64 g.term, .slice A g.es.length c], .int .i64 i, .int .i64 m] w fun e w' => ∃ A' c', e = .returned (.slice A' q c') ∧ OwnE w' w.heap.size w'.heap.size A' c' ((g.es.drop j).take m.toNat) ∧ Below w.heap.size w w' := by
  have hb1 : Below w.heap.size w (w.alloc (.cells #[.int .i64 g.base, .int .i64 g.term, .slice A g.es.length c] 25)) := (Below.refl _ w).alloc (Nat.le_refl _) _
  have hh : g.has i = true := by rw [hi]; exact Rl.Lg.has_iff.2 (by omega)
  have HC := hid (has_any w.heap.size g A c i hg _ ((h.more hB).below hb1) hb1.size)
  rw [hh] at HC
  obtain ⟨⟨g0, g1⟩, _, gl⟩ := hg
  have hlen : ((g.es.drop j).take m.toNat).length = q := by rw [List.length_take, List.length_drop, hq]
  have hsl := (h.es.sl (i := j) h.room.1).take m.toNat
  have hroom := h.room.1
  obtain ⟨b, off, rfl, hbB, _⟩ := h.es.cells j hj
  rw [if_neg (by omega)] at hsl
  have hadd : (Option.map (fun x => Addr.add x (j * 3)) (some (⟨b, off, none⟩ : Addr))) = some ⟨b, off + j * 3, none⟩ := by simp [add_off]
  rw [hadd] at hsl
  have HO : Hid (∀ n, n = q → ∀ w' c', Below w.heap.size w w' → Calls Try.prog 69 #[.slice (some ⟨b, off + j * 3, none⟩) n c'] w' fun e w'' => ∃ A' c', e = .returned (.slice A' q c') ∧ OwnE w'' w'.heap.size w''.heap.size A' c' ((g.es.drop j).take m.toNat) ∧ Below w'.heap.size w' w'') := hid (fun n hnq w' c' hb => by rw [hnq]; exact own_any w.heap.size _ c' q _ hlen (by omega) (fun e he => hf e (List.mem_of_mem_drop (List.mem_of_mem_take he))) w' ((hsl.more hB).below hb) hb.size)
  have HB := hid hb1
  have hne : ¬ i = g.base := by omega
  have hm1 : ¬ m < 1 := by omega
  have hsub : i - g.base = (j : Int) + 1 := by omega
  have hi2 : i ≤ 1099511727776 := by omega
  have hjc : ¬ c = j := by omega
  have hjl : (j : Int) ≤ (g.es.length : Int) := by omega
  have hqL : q ≤ g.es.length - j := by omega
  have hmn : min m (((g.es.length - j : Nat)) : Int) = (q : Int) := by omega
  have HQ := hid hq
  clear h hb1 hh hi hsl hadd hlen hf hq hm hmn
  go_enter Try.func51, Try.ntmps51
  go_wp2_with fail
  refine HC.out.mono ?_
  rintro e w2 ⟨rfl, hb2⟩
  have HB2 := hid (HB.out.trans (hb2.mono HB.out.size))
  have q0 : w2.cell? ⟨w.heap.size, 0, none⟩ = some (.int .i64 g.base) := by rw [hb2.cell (by simp)]; simp
  have q2 : w2.cell? ⟨w.heap.size, 2, none⟩ = some (.slice (some ⟨b, off, none⟩) g.es.length c) := by rw [hb2.cell (by simp)]; simp
  clear hb2
  go_wp2_with fail
  all_goals
    (refine (HO.out _ (by have := HQ.out; omega) w2 _ HB2.out).mono ?_
     rintro e w3 ⟨A3, c3, rfl, ho3, hb3⟩
     have H3 := hid (And.intro (ho3.wide HB2.out.size (Nat.le_refl _)) (HB2.out.trans (hb3.mono HB2.out.size)))
     clear hb3 ho3
     go_wp2_with fail
     go_ret
     exact ⟨A3, c3, rfl, H3.out.1, H3.out.2⟩)
theorem slice_any (B : Nat) (g : Rl.Lg) (A : Option Addr) (c : Nat) (i m : Int) (hg : Rl.Ok g) (hf : Rl.Few g.es) (w : World) (h : LgIs w B g A c) (hB : B ≤ w.heap.size) :
    Calls Try.prog 51 #[.agg #[.int .i64 g.base, .int .i64 g.term, .slice A g.es.length c], .int .i64 i, .int .i64 m] w fun e w' => ∃ A' c', e = .returned (.slice A' (g.slice i m).length c') ∧ OwnE w' w.heap.size w'.heap.size A' c' (g.slice i m) ∧ Below w.heap.size w w' := by
  by_cases hn : m < 1 ∨ i = g.base ∨ g.has i = false
  · have e : g.slice i m = [] := by
      unfold Rl.Lg.slice
      rcases hn with e | e | e
      · rw [show m.toNat = 0 by omega]; simp
      · rw [if_neg (by intro h; exact h.2 e)]
      · rw [if_neg (by rw [e]; simp)]
    rw [e]
    exact (slice_no B g A c i m hg hn w h hB).mono fun e w' ⟨h1, h2⟩ => ⟨none, 0, h1, OwnE.nil _ _ _, h2⟩
  · have hn' : ¬ m < 1 ∧ i ≠ g.base ∧ g.has i = true := ⟨fun e => hn (.inl e), fun e => hn (.inr (.inl e)), by
      rcases e : g.has i with _ | _
      · exact absurd (.inr (.inr e)) hn
      · rfl⟩
    obtain ⟨p, h1, h2, h3⟩ := Rl.Lg.has_at hn'.2.2
    obtain ⟨j, rfl⟩ : ∃ j, p = j + 1 := ⟨p - 1, by omega⟩
    have e : g.slice i m = (g.es.drop j).take m.toNat := by
      unfold Rl.Lg.slice
      rw [if_pos ⟨hn'.2.2, hn'.2.1⟩, h3]; rfl
    have el : (g.slice i m).length = min m.toNat (g.es.length - j) := by rw [e, List.length_take, List.length_drop]
    rw [el, e]
    exact slice_yes B g A c i m j _ (by omega) (by omega) (by omega) rfl hg hf w h hB
end Go.Proofs.Ytkmbkihfdilmbaa
namespace Go.Proofs.Ytkmbkihfdilmbaa.Fw
open Go Go.RowKit
open Ms (M)
open Im (ldX stX Hd Pt Ad IsPt encCf)
open Vo (Rw loadAt_msgV storeAt_msgV info_msgV boxes)
set_option maxRecDepth 100000
set_option linter.unusedVariables false
attribute [local go_sem ↓] loadAt_msgV storeAt_msgV loadAt_flow storeAt_flow Im.loadAt_hard Im.storeAt_hard Im.loadAt_log1 Im.storeAt_log1 Im.loadAt_conf3 Im.storeAt_conf3
def snapD (p : Pt) : List Nat := (Pk.enc (encCf p.cf).length ++ encCf p.cf) ++ (Pk.enc p.sn.length ++ p.sn)
def snapN (n0 n1 n2 s : Nat) : Nat := 8 + (8 + 8 * n0 + (8 + 8 * n1) + (8 + 8 * n2)) + 8 + s
theorem blobN (B : Nat) (A : Option Addr) (c : Nat) (l : List Nat) (B' : Nat) (A' : Option Addr) (c' : Nat) (m : List Nat) (n n' r : Nat) (e1 : l.length = n) (e2 : m.length = n') (e3 : n + 8 + n' = r) (hr : r ≤ 140737488354000) (w : World) (h : IsBytes w B A l) (hB : B ≤ w.heap.size) (hn : A = none → c = 0) (h' : IsBytes w B' A' m) (hB' : B' ≤ w.heap.size) (hn' : A' = none → c' = 0) :
    Calls Try.prog 66 #[.slice A n c, .slice A' n' c'] w fun e w' => ∃ A2 c2, e = .returned (.slice A2 r c2) ∧ OwnsB 5 w' w.heap.size A2 c2 (l ++ (Pk.enc m.length ++ m)) ∧ Below w.heap.size w w' := by
  subst e1 e2 e3
  exact packBlob_any B A c l B' A' c' m (by omega) w h hB hn h' hB' hn'
structure Fs (p : Pt) : Prop where
  o : p.cf.old.length ≤ 100000
  n : p.cf.new.length ≤ 100000
  l : p.cf.lrn.length ≤ 100000
  s : p.sn.length ≤ 1000000000
set_option maxHeartbeats 3200000 in
theorem snapshot_any (h : Hd) (ad : Ad) (n0 n1 n2 ns r : Nat) (e0 : h.p.cf.old.length = n0) (e1 : h.p.cf.new.length = n1) (e2 : h.p.cf.lrn.length = n2) (e3 : h.p.sn.length = ns) (er : snapN n0 n1 n2 ns = r) (hf : Fs h.p) (w : World) (hp : IsPt w w.heap.size h.p ad) :
    Calls Try.prog 49 #[.agg #[.int .i64 h.g, .int .i64 h.t, .int .i64 h.v, .int .i64 h.p.log.base, .int .i64 h.p.log.term, .slice ad.e h.p.log.es.length ad.ce, .slice ad.o n0 ad.co, .slice ad.n n1 ad.cn, .slice ad.l n2 ad.cl, .slice ad.s ns ad.cs]] w fun e w' => ∃ A c, e = .returned (.slice A r c) ∧ OwnsB 5 w' w.heap.size A c (snapD h.p) ∧ Below w.heap.size w w' := by
  obtain ⟨ne, hne⟩ : ∃ n, h.p.log.es.length = n := ⟨_, rfl⟩
  rw [hne]
  obtain ⟨w1, hw1⟩ : ∃ w1, w1 = w.alloc (.cells #[.int .i64 h.g, .int .i64 h.t, .int .i64 h.v, .int .i64 h.p.log.base, .int .i64 h.p.log.term, .slice ad.e ne ad.ce, .slice ad.o n0 ad.co, .slice ad.n n1 ad.cn, .slice ad.l n2 ad.cl, .slice ad.s ns ad.cs] 52) := ⟨_, rfl⟩
  have r1 : w1.heap[w.heap.size]? = some (.cells #[.int .i64 h.g, .int .i64 h.t, .int .i64 h.v, .int .i64 h.p.log.base, .int .i64 h.p.log.term, .slice ad.e ne ad.ce, .slice ad.o n0 ad.co, .slice ad.n n1 ad.cn, .slice ad.l n2 ad.cl, .slice ad.s ns ad.cs] 52 (0, 0)) := by rw [hw1]; exact heap_alloc_new w _
  have b1 : Below w.heap.size w w1 := by rw [hw1]; exact (Below.refl _ w).alloc (Nat.le_refl _) _
  obtain ⟨q, hq⟩ : ∃ q, 8 + 8 * n0 + (8 + 8 * n1) + (8 + 8 * n2) = q := ⟨_, rfl⟩
  have hr : 8 + q + 8 + ns = r := by rw [← er, ← hq]; rfl
  have hb : n0 ≤ 100000 ∧ n1 ≤ 100000 ∧ n2 ≤ 100000 ∧ ns ≤ 1000000000 := ⟨e0 ▸ hf.o, e1 ▸ hf.n, e2 ▸ hf.l, e3 ▸ hf.s⟩
  obtain ⟨s1, hs1⟩ : ∃ s, s = w1.heap.size := ⟨_, rfl⟩
  have FA : Hid (∀ W, Below s1 w1 W → IsPt W W.heap.size h.p ad ∧ s1 ≤ W.heap.size ∧ (ldX 37 (.pointer (some ⟨w.heap.size, 6, none⟩))).run Try.prog W = .ok (.agg #[.slice ad.o n0 ad.co, .slice ad.n n1 ad.cn, .slice ad.l n2 ad.cl]) W ∧ W.cell? ⟨w.heap.size, 9, none⟩ = some (.slice ad.s ns ad.cs)) := hid (fun W hW => by
    rw [hs1] at hW ⊢
    have rW := (hW.block _ (row_lt r1)).trans r1
    have hB := b1.trans (hW.mono b1.size)
    exact ⟨(hp.below hB).more hB.size, hW.size, Im.ldConfH rW rfl rfl rfl, row_cell rW 9⟩)
  have HPC : Hid (∀ W, Below s1 w1 W → Calls Try.prog 67 #[.agg #[.slice ad.o n0 ad.co, .slice ad.n n1 ad.cn, .slice ad.l n2 ad.cl]] W fun e w' => Im.Told W.heap.size W (encCf h.p.cf) q e w') := hid (fun W hW => by
    obtain ⟨g1, _⟩ := FA.out W hW
    rw [← hq]
    exact Im.putCf_any W.heap.size W (Nat.le_refl _) h.p.cf ad.o ad.n ad.l ad.co ad.cn ad.cl g1.o g1.n g1.l n0 n1 n2 e0 e1 e2 ⟨by omega, by omega, by omega⟩)
  have HB1 : Hid (∀ W A c, Below s1 w1 W → OwnsB 5 W s1 A c (encCf h.p.cf) → (encCf h.p.cf).length = q → Calls Try.prog 66 #[.slice none 0 0, .slice A q c] W fun e w' => ∃ A2 c2, e = .returned (.slice A2 (8 + q) c2) ∧ OwnsB 5 w' W.heap.size A2 c2 (Pk.enc (encCf h.p.cf).length ++ encCf h.p.cf) ∧ Below W.heap.size W w') := hid (fun W A c hW ho hl =>
    blobN W.heap.size none 0 [] W.heap.size A c (encCf h.p.cf) 0 q (8 + q) rfl hl (by omega) (by omega) W IsBytes.nil (Nat.le_refl _) (fun _ => rfl) ho.reads (Nat.le_refl _) ho.none_)
  have HB2 : Hid (∀ W A c, Below s1 w1 W → OwnsB 5 W s1 A c (Pk.enc (encCf h.p.cf).length ++ encCf h.p.cf) → (encCf h.p.cf).length = q → Calls Try.prog 66 #[.slice A (8 + q) c, .slice ad.s ns ad.cs] W fun e w' => ∃ A2 c2, e = .returned (.slice A2 r c2) ∧ OwnsB 5 w' W.heap.size A2 c2 (snapD h.p) ∧ Below W.heap.size W w') := hid (fun W A c hW ho hl => by
    obtain ⟨g1, _⟩ := FA.out W hW
    exact blobN W.heap.size A c _ W.heap.size ad.s ad.cs h.p.sn (8 + q) ns r (by rw [List.length_append, Pk.enc_length, hl]) e3 (by omega) (by omega) W ho.reads (Nat.le_refl _) ho.none_ g1.s (Nat.le_refl _) g1.rs.2)
  have HB := hid b1
  have HS1 := hid (And.intro hs1 (show w.heap.size ≤ s1 by rw [hs1]; exact b1.size))
  have G0 := hid (show Below s1 w1 w1.drew from (Below.refl _ _).drew)
  have e4 := (FA.out w1 (Below.refl _ _)).2.2
  have e5 := (FA.out w1.drew G0.out).2.2
  have HW1 := hid hw1
  clear hne r1 b1 e0 e1 e2 e3 er hf hp hq hr hb hs1 hw1
  go_enter Try.func49, Try.ntmps49
  go_upto_region 1 with fail
  rw [← HW1.out]
  go_region_held3 (fun W => (ldX 37 (.pointer (some ⟨w.heap.size, 6, none⟩))).run Try.prog W = .ok (.agg #[.slice ad.o n0 ad.co, .slice ad.n n1 ad.cn, .slice ad.l n2 ad.cl]) W ∧ W.cell? ⟨w.heap.size, 9, none⟩ = some (.slice ad.s ns ad.cs))
    (first | with_reducible exact e8 | with_reducible exact e7 | with_reducible exact e6 | with_reducible exact e5 | with_reducible exact e4 | fail)
    (first
      | (go_at_call 66; refine (HB2.out _ _ _ G2.out O2.out.1 O2.out.2).mono ?_; rintro e v3 ⟨A3, c3, rfl, ho3, hb3⟩; have G3 := hid (G2.out.trans (hb3.mono (FA.out _ G2.out).2.1)); have O3 := hid (And.intro ho3 (FA.out _ G2.out).2.1); have e8 := (FA.out v3 G3.out).2.2; clear ho3 hb3)
      | (go_at_call 66; refine (HB1.out _ _ _ G1.out O1.out.1 O1.out.2).mono ?_; rintro e v2 ⟨A2, c2, rfl, ho2, hb2⟩; have G2 := hid (G1.out.trans (hb2.mono (FA.out _ G1.out).2.1)); have O2 := hid (And.intro (ho2.weaken (FA.out _ G1.out).2.1) O1.out.2); have e7 := (FA.out v2 G2.out).2.2; clear ho2 hb2)
      | (go_at_call 67; refine (HPC.out _ G0.out).mono ?_; rintro e v1 ⟨A1, c1, rfl, hq1⟩; have G1 := hid (G0.out.trans (hq1.put.bel.mono (FA.out _ G0.out).2.1)); have O1 := hid (And.intro (hq1.own.weaken (FA.out _ G0.out).2.1) hq1.len); have e6 := (FA.out v1 G1.out).2.2; clear hq1)
      | fail)
  all_goals
    (have HF := hid (And.intro (O3.out.1.weaken (Nat.le_trans HS1.out.2 O3.out.2)) (HB.out.trans (G3.out.mono HS1.out.2)))
     clear e4 e5 e6 e7 e8 FA HPC HB1 HB2 O1 O2 O3
     go_wp2_with fail
     go_ret
     exact ⟨_, _, rfl, HF.out.1, HF.out.2⟩)
end Go.Proofs.Ytkmbkihfdilmbaa.Fw
namespace Go.Proofs.Ytkmbkihfdilmbaa.Fw
open Go Go.RowKit
open Ms (M)
open Im (ldX stX Hd Pt Ad IsPt encCf)
open Vo (Rw loadAt_msgV storeAt_msgV info_msgV boxes)
set_option maxRecDepth 100000
set_option linter.unusedVariables false
attribute [local go_sem ↓] loadAt_msgV storeAt_msgV loadAt_flow storeAt_flow Im.loadAt_hard Im.storeAt_hard Im.loadAt_log1 Im.storeAt_log1 Im.loadAt_conf3 Im.storeAt_conf3
structure Nx (w W : World) (f : Fl) (h : Hd) (ad : Ad) (ne n0 n1 n2 ns : Nat) : Prop where
  bel : Below w.heap.size w W
  rf : Rw W w.heap.size #[.int .i64 f.n, .int .i64 f.x, .int .i64 f.m, .int .i64 f.r] 42
  rh : Rw W (w.heap.size + 1) #[.int .i64 h.g, .int .i64 h.t, .int .i64 h.v, .int .i64 h.p.log.base, .int .i64 h.p.log.term, .slice ad.e ne ad.ce, .slice ad.o n0 ad.co, .slice ad.n n1 ad.cn, .slice ad.l n2 ad.cl, .slice ad.s ns ad.cs] 52
  rm : Rw W (w.heap.size + 2) #[.int .i64 0, .int .i64 0, .int .i64 0, .int .i64 0, .int .i64 0, .int .i64 0, .int .i64 0, .int .i64 0, .int .i64 0, .int .i64 0, .int .i64 0, .int .i64 0, .int .i64 0, .int .i64 0, .bool false, .slice none 0 0, .slice none 0 0] 31
theorem Nx.keep {w W W' : World} {f : Fl} {h : Hd} {ad : Ad} {ne n0 n1 n2 ns : Nat} (q : Nx w W f h ad ne n0 n1 n2 ns) (hb : Below W.heap.size W W') : Nx w W' f h ad ne n0 n1 n2 ns :=
  ⟨q.bel.trans (hb.mono q.bel.size), q.rf.keep hb, q.rh.keep hb, q.rm.keep hb⟩
theorem ldHV {w : World} {b : Nat} {cs : Array Value} (h : Rw w b cs 52) (hn : cs.size = 10) : (ldX 52 (.pointer (some ⟨b, 0, none⟩))).run Try.prog w = .ok (.agg cs) w :=
  Im.ldRow Im.info_hard Try.underlying52 rfl h hn
theorem Nx.lds {w W : World} {f : Fl} {h : Hd} {ad : Ad} {ne n0 n1 n2 ns : Nat} (q : Nx w W f h ad ne n0 n1 n2 ns) :
    (W.cell? ⟨w.heap.size, 0, none⟩ = some (.int .i64 f.n) ∧ W.cell? ⟨w.heap.size, 1, none⟩ = some (.int .i64 f.x)) ∧ (W.cell? ⟨w.heap.size + 1, 0, none⟩ = some (.int .i64 h.g) ∧ W.cell? ⟨w.heap.size + 1, 1, none⟩ = some (.int .i64 h.t) ∧ W.cell? ⟨w.heap.size + 1, 3, none⟩ = some (.int .i64 h.p.log.base) ∧ W.cell? ⟨w.heap.size + 1, 4, none⟩ = some (.int .i64 h.p.log.term)) ∧ (ldX 52 (.pointer (some ⟨w.heap.size + 1, 0, none⟩))).run Try.prog W = .ok (.agg #[.int .i64 h.g, .int .i64 h.t, .int .i64 h.v, .int .i64 h.p.log.base, .int .i64 h.p.log.term, .slice ad.e ne ad.ce, .slice ad.o n0 ad.co, .slice ad.n n1 ad.cn, .slice ad.l n2 ad.cl, .slice ad.s ns ad.cs]) W ∧ (ldX 25 (.pointer (some ⟨w.heap.size + 1, 3, none⟩))).run Try.prog W = .ok (.agg #[.int .i64 h.p.log.base, .int .i64 h.p.log.term, .slice ad.e ne ad.ce]) W :=
  ⟨⟨row_cell q.rf 0, row_cell q.rf 1⟩, ⟨row_cell q.rh 0, row_cell q.rh 1, row_cell q.rh 3, row_cell q.rh 4⟩, ldHV q.rh rfl, Im.ldLogH q.rh rfl rfl rfl⟩
theorem Nx.ldsT {w W W' : World} {f : Fl} {h : Hd} {ad : Ad} {ne n0 n1 n2 ns : Nat} (q : Nx w W f h ad ne n0 n1 n2 ns) (hT : Turned (fun k => k = w.heap.size + 2) W W') :
    (W'.cell? ⟨w.heap.size, 0, none⟩ = some (.int .i64 f.n) ∧ W'.cell? ⟨w.heap.size, 1, none⟩ = some (.int .i64 f.x)) ∧ (W'.cell? ⟨w.heap.size + 1, 0, none⟩ = some (.int .i64 h.g) ∧ W'.cell? ⟨w.heap.size + 1, 1, none⟩ = some (.int .i64 h.t) ∧ W'.cell? ⟨w.heap.size + 1, 3, none⟩ = some (.int .i64 h.p.log.base) ∧ W'.cell? ⟨w.heap.size + 1, 4, none⟩ = some (.int .i64 h.p.log.term)) ∧ (ldX 52 (.pointer (some ⟨w.heap.size + 1, 0, none⟩))).run Try.prog W' = .ok (.agg #[.int .i64 h.g, .int .i64 h.t, .int .i64 h.v, .int .i64 h.p.log.base, .int .i64 h.p.log.term, .slice ad.e ne ad.ce, .slice ad.o n0 ad.co, .slice ad.n n1 ad.cn, .slice ad.l n2 ad.cl, .slice ad.s ns ad.cs]) W' ∧ (ldX 25 (.pointer (some ⟨w.heap.size + 1, 3, none⟩))).run Try.prog W' = .ok (.agg #[.int .i64 h.p.log.base, .int .i64 h.p.log.term, .slice ad.e ne ad.ce]) W' := by
  have rf := (hT.block _ (row_lt q.rf) (by omega)).trans q.rf
  have rh := (hT.block _ (row_lt q.rh) (by omega)).trans q.rh
  exact ⟨⟨row_cell rf 0, row_cell rf 1⟩, ⟨row_cell rh 0, row_cell rh 1, row_cell rh 3, row_cell rh 4⟩, ldHV rh rfl, Im.ldLogH rh rfl rfl rfl⟩
theorem Nx.start (w : World) (f : Fl) (h : Hd) (ad : Ad) (ne n0 n1 n2 ns : Nat) : Nx w (((w.alloc (.cells #[.int .i64 f.n, .int .i64 f.x, .int .i64 f.m, .int .i64 f.r] 42)).alloc (.cells #[.int .i64 h.g, .int .i64 h.t, .int .i64 h.v, .int .i64 h.p.log.base, .int .i64 h.p.log.term, .slice ad.e ne ad.ce, .slice ad.o n0 ad.co, .slice ad.n n1 ad.cn, .slice ad.l n2 ad.cl, .slice ad.s ns ad.cs] 52)).alloc (.cells #[.int .i64 0, .int .i64 0, .int .i64 0, .int .i64 0, .int .i64 0, .int .i64 0, .int .i64 0, .int .i64 0, .int .i64 0, .int .i64 0, .int .i64 0, .int .i64 0, .int .i64 0, .int .i64 0, .bool false, .slice none 0 0, .slice none 0 0] 31)) f h ad ne n0 n1 n2 ns := by
  obtain ⟨r0, r1, r2, hb⟩ := Vo.Rw.three w #[.int .i64 f.n, .int .i64 f.x, .int .i64 f.m, .int .i64 f.r] #[.int .i64 h.g, .int .i64 h.t, .int .i64 h.v, .int .i64 h.p.log.base, .int .i64 h.p.log.term, .slice ad.e ne ad.ce, .slice ad.o n0 ad.co, .slice ad.n n1 ad.cn, .slice ad.l n2 ad.cl, .slice ad.s ns ad.cs] #[.int .i64 0, .int .i64 0, .int .i64 0, .int .i64 0, .int .i64 0, .int .i64 0, .int .i64 0, .int .i64 0, .int .i64 0, .int .i64 0, .int .i64 0, .int .i64 0, .int .i64 0, .int .i64 0, .bool false, .slice none 0 0, .slice none 0 0] 42 52 31
  exact ⟨hb, r0, r1, r2⟩
theorem Nx.put {w W : World} {f : Fl} {h : Hd} {ad : Ad} {ne n0 n1 n2 ns : Nat} (q : Nx w W f h ad ne n0 n1 n2 ns) (cs : Array Value) (hn : cs.size = 17) (h1 : cs.all (·.oneCell') = true) :
    ∃ W', (stX 31 (.pointer (some ⟨w.heap.size + 2, 0, none⟩)) (.agg cs)).run Try.prog W = .ok () W' ∧ W'.heap[w.heap.size + 2]? = some (.cells cs 31 (0, 0)) ∧ Below w.heap.size w W' ∧ Turned (fun k => k = w.heap.size + 2) W W' :=
  ⟨W.setRow (w.heap.size + 2) cs, Im.stRow info_msgV q.rm rfl hn h1, setRow_heap W (w.heap.size + 2) _ cs _ _ q.rm, q.bel.trans ((Im.row_turned W (w.heap.size + 2) cs).below q.bel.size (fun k hk => by omega)), Im.row_turned W (w.heap.size + 2) cs⟩
set_option maxHeartbeats 6400000 in
theorem nextS_any (f : Fl) (id commit round : Int) (h : Hd) (ad : Ad) (ne n0 n1 n2 ns r : Nat) (e9 : h.p.log.es.length = ne) (e0 : h.p.cf.old.length = n0) (e1 : h.p.cf.new.length = n1) (e2 : h.p.cf.lrn.length = n2) (e3 : h.p.sn.length = ns) (er : snapN n0 n1 n2 ns = r) (hf : Fs h.p) (hx : f.x ≤ h.p.log.base) (w : World) (hp : IsPt w w.heap.size h.p ad) :
    Calls Try.prog 26 #[.agg #[.int .i64 f.n, .int .i64 f.x, .int .i64 f.m, .int .i64 f.r], .int .i64 id, .agg #[.int .i64 h.g, .int .i64 h.t, .int .i64 h.v, .int .i64 h.p.log.base, .int .i64 h.p.log.term, .slice ad.e ne ad.ce, .slice ad.o n0 ad.co, .slice ad.n n1 ad.cn, .slice ad.l n2 ad.cl, .slice ad.s ns ad.cs], .int .i64 commit, .int .i64 round] w fun e w' => ∃ A c, e = .returned (.agg #[.int .i64 5, .int .i64 id, .int .i64 f.n, .int .i64 h.g, .int .i64 h.t, .int .i64 h.p.log.base, .int .i64 h.p.log.term, .int .i64 0, .int .i64 round, .int .i64 0, .int .i64 0, .int .i64 0, .int .i64 0, .int .i64 0, .bool false, .slice none 0 0, .slice A r c]) ∧ OwnsB 5 w' w.heap.size A c (snapD h.p) ∧ Below w.heap.size w w' := by
  obtain ⟨w1, hw1⟩ : ∃ w1, w1 = ((w.alloc (.cells #[.int .i64 f.n, .int .i64 f.x, .int .i64 f.m, .int .i64 f.r] 42)).alloc (.cells #[.int .i64 h.g, .int .i64 h.t, .int .i64 h.v, .int .i64 h.p.log.base, .int .i64 h.p.log.term, .slice ad.e ne ad.ce, .slice ad.o n0 ad.co, .slice ad.n n1 ad.cn, .slice ad.l n2 ad.cl, .slice ad.s ns ad.cs] 52)).alloc (.cells #[.int .i64 0, .int .i64 0, .int .i64 0, .int .i64 0, .int .i64 0, .int .i64 0, .int .i64 0, .int .i64 0, .int .i64 0, .int .i64 0, .int .i64 0, .int .i64 0, .int .i64 0, .int .i64 0, .bool false, .slice none 0 0, .slice none 0 0] 31) := ⟨_, rfl⟩
  have hq := Nx.start w f h ad ne n0 n1 n2 ns
  rw [← hw1] at hq
  have Q1 := hid hq
  have Q2 := hid (hq.keep (show Below w1.heap.size w1 w1.drew from (Below.refl _ _).drew))
  have HS := snapshot_any h ad n0 n1 n2 ns r e0 e1 e2 e3 er hf w1.drew ((hp.below Q2.out.bel).more Q2.out.bel.size)
  rw [e9] at HS
  have HSN := hid HS
  have HW1 := hid hw1
  clear hw1 hq HS e9 e0 e1 e2 e3 er hf hp
  obtain ⟨⟨l0, l1⟩, ⟨l2, l3, l4, l5⟩, l6, l7⟩ := Q1.out.lds
  go_enter Try.func26, Try.ntmps26
  go_upto_region 1 with fail
  rw [← HW1.out]
  go_upto_region 2 with fail
  clear l0 l1 l2 l3 l4 l5 l6 l7 hx
  have e4 := Q1.out.lds
  have e5 := Q2.out.lds
  go_region_held3 (fun W => (W.cell? ⟨w.heap.size, 0, none⟩ = some (.int .i64 f.n) ∧ W.cell? ⟨w.heap.size, 1, none⟩ = some (.int .i64 f.x)) ∧ (W.cell? ⟨w.heap.size + 1, 0, none⟩ = some (.int .i64 h.g) ∧ W.cell? ⟨w.heap.size + 1, 1, none⟩ = some (.int .i64 h.t) ∧ W.cell? ⟨w.heap.size + 1, 3, none⟩ = some (.int .i64 h.p.log.base) ∧ W.cell? ⟨w.heap.size + 1, 4, none⟩ = some (.int .i64 h.p.log.term)) ∧ (ldX 52 (.pointer (some ⟨w.heap.size + 1, 0, none⟩))).run Try.prog W = .ok (.agg #[.int .i64 h.g, .int .i64 h.t, .int .i64 h.v, .int .i64 h.p.log.base, .int .i64 h.p.log.term, .slice ad.e ne ad.ce, .slice ad.o n0 ad.co, .slice ad.n n1 ad.cn, .slice ad.l n2 ad.cl, .slice ad.s ns ad.cs]) W ∧ (ldX 25 (.pointer (some ⟨w.heap.size + 1, 3, none⟩))).run Try.prog W = .ok (.agg #[.int .i64 h.p.log.base, .int .i64 h.p.log.term, .slice ad.e ne ad.ce]) W)
    (first | with_reducible exact e7 | with_reducible exact e6 | with_reducible exact e5 | with_reducible exact e4 | fail)
    (first
      | (go_at_call 49; refine HSN.out.mono ?_; rintro e v ⟨A, c, rfl, ho, hb⟩; obtain ⟨v', hst, hr, hB, hT⟩ := (Q2.out.keep hb).put #[.int .i64 5, .int .i64 id, .int .i64 f.n, .int .i64 h.g, .int .i64 h.t, .int .i64 h.p.log.base, .int .i64 h.p.log.term, .int .i64 0, .int .i64 round, .int .i64 0, .int .i64 0, .int .i64 0, .int .i64 0, .int .i64 0, .bool false, .slice none 0 0, .slice A r c] rfl (by simp [Value.oneCell']); have HO := hid (And.intro hr (And.intro ((ho.turned hT (fun k hk => by have := (ho.blkLt k hk).1; have := row_lt Q2.out.rm; omega)).weaken Q2.out.bel.size) hB)); have e6 := (Q2.out.keep hb).lds; have e7 := (Q2.out.keep hb).ldsT hT; clear ho hb hr hB hT)
      | fail)
  all_goals
    (clear e4 e5 e6 e7 HSN
     go_wp2_with fail
     refine bodyPost_ret (results_cell_row rfl _ _ (w.heap.size + 2) _ _ _ _ rfl HO.out.1 Try.underlying31 rfl (by rw [info_msgV]; rfl)) rfl ?_
     exact ⟨A, c, rfl, HO.out.2⟩)
set_option maxHeartbeats 6400000 in
theorem nextE_any (f : Fl) (hpl : Pl f) (id commit round : Int) (h : Hd) (ad : Ad) (ne n0 n1 n2 ns r : Nat) (e9 : h.p.log.es.length = ne) (hr : (h.p.log.slice f.x 8).length = r) (hok : Rl.Ok h.p.log) (hfew : Rl.Few h.p.log.es) (hx : ¬ f.x ≤ h.p.log.base) (w : World) (hp : IsPt w w.heap.size h.p ad) :
    Calls Try.prog 26 #[.agg #[.int .i64 f.n, .int .i64 f.x, .int .i64 f.m, .int .i64 f.r], .int .i64 id, .agg #[.int .i64 h.g, .int .i64 h.t, .int .i64 h.v, .int .i64 h.p.log.base, .int .i64 h.p.log.term, .slice ad.e ne ad.ce, .slice ad.o n0 ad.co, .slice ad.n n1 ad.cn, .slice ad.l n2 ad.cl, .slice ad.s ns ad.cs], .int .i64 commit, .int .i64 round] w fun e w' => ∃ A c, e = .returned (.agg #[.int .i64 3, .int .i64 id, .int .i64 f.n, .int .i64 h.g, .int .i64 h.t, .int .i64 (f.x - 1), .int .i64 (h.p.log.termV (f.x - 1)), .int .i64 commit, .int .i64 round, .int .i64 0, .int .i64 0, .int .i64 0, .int .i64 0, .int .i64 0, .bool false, .slice A r c, .slice none 0 0]) ∧ OwnE w' w.heap.size w'.heap.size A c (h.p.log.slice f.x 8) ∧ Below w.heap.size w w' := by
  obtain ⟨w1, hw1⟩ : ∃ w1, w1 = ((w.alloc (.cells #[.int .i64 f.n, .int .i64 f.x, .int .i64 f.m, .int .i64 f.r] 42)).alloc (.cells #[.int .i64 h.g, .int .i64 h.t, .int .i64 h.v, .int .i64 h.p.log.base, .int .i64 h.p.log.term, .slice ad.e ne ad.ce, .slice ad.o n0 ad.co, .slice ad.n n1 ad.cn, .slice ad.l n2 ad.cl, .slice ad.s ns ad.cs] 52)).alloc (.cells #[.int .i64 0, .int .i64 0, .int .i64 0, .int .i64 0, .int .i64 0, .int .i64 0, .int .i64 0, .int .i64 0, .int .i64 0, .int .i64 0, .int .i64 0, .int .i64 0, .int .i64 0, .int .i64 0, .bool false, .slice none 0 0, .slice none 0 0] 31) := ⟨_, rfl⟩
  have hq := Nx.start w f h ad ne n0 n1 n2 ns
  rw [← hw1] at hq
  have Q1 := hid hq
  have HLG : Hid (∀ W, Below w.heap.size w W → LgIs W W.heap.size h.p.log ad.e ad.ce) := hid (fun W hW => ⟨(hp.es.below hW).more hW.size, hp.re.1, hp.re.2, hp.num⟩)
  have HT1 := term_any w1.heap.size h.p.log ad.e ad.ce (f.x - 1) hok w1 (HLG.out w1 hq.bel) (Nat.le_refl _)
  rw [e9] at HT1
  have HTT := hid HT1
  have HOK := hid (And.intro hok hfew)
  have HW1 := hid hw1
  have HE9 := hid e9
  have HR := hid hr
  obtain ⟨x1, x2⟩ := hpl.x
  have hwr : IntKind.i64.wrap (f.x - 1) = f.x - 1 := by rw [IntKind.wrap_i64]; omega
  obtain ⟨tv, htv⟩ : ∃ t, h.p.log.termV (f.x - 1) = t := ⟨_, rfl⟩
  obtain ⟨hv, hhv⟩ : ∃ b, h.p.log.has (f.x - 1) = b := ⟨_, rfl⟩
  rw [htv, hhv] at HTT
  rw [htv]
  obtain ⟨xm, hxm⟩ : ∃ x, f.x - 1 = x := ⟨_, rfl⟩
  rw [hxm] at HTT hwr
  rw [hxm]
  clear hw1 hq HT1 e9 hok hfew hp hr hpl htv hhv
  obtain ⟨⟨l0, l1⟩, ⟨l2, l3, l4, l5⟩, l6, l7⟩ := Q1.out.lds
  go_enter Try.func26, Try.ntmps26
  go_upto_region 1 with fail
  rw [← HW1.out]
  go_upto_region 3 with fail
  go_wp2_with fail
  refine HTT.out.mono ?_
  rintro e v ⟨rfl, hb⟩
  have Q2 := hid (Q1.out.keep hb)
  have Q3 := hid (Q2.out.keep (show Below v.heap.size v v.drew from (Below.refl _ _).drew))
  have HS1 := slice_any v.drew.heap.size h.p.log ad.e ad.ce f.x 8 HOK.out.1 HOK.out.2 v.drew (HLG.out v.drew Q3.out.bel) (Nat.le_refl _)
  rw [HE9.out, HR.out] at HS1
  have HSS := hid HS1
  clear hb HS1 l0 l1 l2 l3 l4 l5 l6 l7 hx HTT
  go_upto_region 4 with fail
  have e4 := Q2.out.lds
  have e5 := Q3.out.lds
  go_region_held3 (fun W => (W.cell? ⟨w.heap.size, 0, none⟩ = some (.int .i64 f.n) ∧ W.cell? ⟨w.heap.size, 1, none⟩ = some (.int .i64 f.x)) ∧ (W.cell? ⟨w.heap.size + 1, 0, none⟩ = some (.int .i64 h.g) ∧ W.cell? ⟨w.heap.size + 1, 1, none⟩ = some (.int .i64 h.t) ∧ W.cell? ⟨w.heap.size + 1, 3, none⟩ = some (.int .i64 h.p.log.base) ∧ W.cell? ⟨w.heap.size + 1, 4, none⟩ = some (.int .i64 h.p.log.term)) ∧ (ldX 52 (.pointer (some ⟨w.heap.size + 1, 0, none⟩))).run Try.prog W = .ok (.agg #[.int .i64 h.g, .int .i64 h.t, .int .i64 h.v, .int .i64 h.p.log.base, .int .i64 h.p.log.term, .slice ad.e ne ad.ce, .slice ad.o n0 ad.co, .slice ad.n n1 ad.cn, .slice ad.l n2 ad.cl, .slice ad.s ns ad.cs]) W ∧ (ldX 25 (.pointer (some ⟨w.heap.size + 1, 3, none⟩))).run Try.prog W = .ok (.agg #[.int .i64 h.p.log.base, .int .i64 h.p.log.term, .slice ad.e ne ad.ce]) W)
    (first | with_reducible exact e7 | with_reducible exact e6 | with_reducible exact e5 | with_reducible exact e4 | fail)
    (first
      | (go_at_call 51; refine HSS.out.mono ?_; rintro e v2 ⟨A, c, rfl, ho, hb⟩; obtain ⟨v', hst, hr, hB, hT⟩ := (Q3.out.keep hb).put #[.int .i64 3, .int .i64 id, .int .i64 f.n, .int .i64 h.g, .int .i64 h.t, .int .i64 xm, .int .i64 tv, .int .i64 commit, .int .i64 round, .int .i64 0, .int .i64 0, .int .i64 0, .int .i64 0, .int .i64 0, .bool false, .slice A r c, .slice none 0 0] rfl (by simp [Value.oneCell']); have HO := hid (And.intro hr (And.intro ((ho.keep hT (fun k hk hB => by have := hB.1; have := row_lt Q3.out.rm; omega)).wide Q3.out.bel.size hT.size) hB)); have e6 := (Q3.out.keep hb).lds; have e7 := (Q3.out.keep hb).ldsT hT; clear ho hb hr hB hT)
      | fail)
  all_goals
    (clear e4 e5 e6 e7 HSS
     go_wp2_with fail
     refine bodyPost_ret (results_cell_row rfl _ _ (w.heap.size + 2) _ _ _ _ rfl HO.out.1 Try.underlying31 rfl (by rw [info_msgV]; rfl)) rfl ?_
     exact ⟨A, c, rfl, HO.out.2⟩)
end Go.Proofs.Ytkmbkihfdilmbaa.Fw
namespace Go.Proofs.Ytkmbkihfdilmbaa
open Go.RowKit
set_option maxRecDepth 100000
theorem u64_wrap (v : Int) : IntKind.u64.wrap v = v % 18446744073709551616 := by simp [IntKind.wrap, IntKind.signed, IntKind.bits]
def lows (v : Int) (k : Nat) : List Nat := (List.range k).map (Pk.byteOf v)
theorem lows_length (v : Int) (k : Nat) : (lows v k).length = k := by simp [lows]
theorem lows_snoc (v : Int) (k : Nat) : lows v (k + 1) = lows v k ++ [Pk.byteOf v k] := by unfold lows; rw [List.range_succ, List.map_append]; rfl
theorem lows_get (v : Int) (k i : Nat) (h : i < (lows v k).length) : (lows v k)[i] = Pk.byteOf v i := by simp [lows]
theorem low_byte (v : Int) (k : Nat) (h : k < 8) : (v % 18446744073709551616) / 2 ^ (8 * k) % 256 = (Pk.byteOf v k : Nat) := by
  rw [byteOf_val]
  match k, h with
  | 0, _ => simp only [Nat.reduceMul, Int.reducePow]; omega
  | 1, _ => simp only [Nat.reduceMul, Int.reducePow]; omega
  | 2, _ => simp only [Nat.reduceMul, Int.reducePow]; omega
  | 3, _ => simp only [Nat.reduceMul, Int.reducePow]; omega
  | 4, _ => simp only [Nat.reduceMul, Int.reducePow]; omega
  | 5, _ => simp only [Nat.reduceMul, Int.reducePow]; omega
  | 6, _ => simp only [Nat.reduceMul, Int.reducePow]; omega
  | 7, _ => simp only [Nat.reduceMul, Int.reducePow]; omega
set_option maxRecDepth 100000 in
set_option maxHeartbeats 800000 in
theorem refInt_any (B : Nat) (A : Option Addr) (c : Nat) (l : List Nat) (v : Int) (hv : InInt v) (hl : l.length ≤ 140737488354000) (w : World) (h : IsBytes w B A l) (hB : B ≤ w.heap.size) :
    Calls Try.prog 71 #[.slice A l.length c, .int .i64 v] w fun e w' => ∃ A' c', e = .returned (.slice A' (l.length + 8) c') ∧ OwnsB 5 w' w.heap.size A' c' (l ++ Pk.enc v) ∧ Below w.heap.size w w' := by
  obtain ⟨i0, hi, hz0, hz1, hz2⟩ := info_parts info_u8
  have hv1 := hv.1
  have hv2 := hv.2
  clear hv
  go_enter Try.func71, Try.ntmps71
  go_wp2
  go_loopw [5, 6, 7] (fun lo u i wr => ∃ k n : Nat, ∃ A1 : Option Addr, ∃ c1 : Nat, k ≤ 8 ∧ i = .int .i64 k ∧ u = .int .u64 (n : Int) ∧ n < 18446744073709551616 ∧ lo = .slice A1 k c1 ∧ OwnsB 5 wr w.heap.size A1 c1 (lows v k) ∧ Below w.heap.size w wr ∧ Hid ((n : Int) = (v % 18446744073709551616) / 2 ^ (8 * k))) (fun _ _ i _ => 8 - (RowKit.intOf i).toNat)
  case atStart =>
    refine ⟨0, (v % 18446744073709551616).toNat, none, 0, by omega, rfl, ?_, by omega, rfl, OwnsB.nil _ _ _, Below.refl _ _, ?_⟩
    · rw [u64_wrap]; go_num
    · show _ = _
      simp; omega
  case round =>
    obtain ⟨k, n, A1, c1, hk, rfl, rfl, hn, rfl, hown, hbel, hu⟩ := hrel
    by_cases hlt : k < 8
    · have hx : ((n : Int) % 256) = (Pk.byteOf v k : Nat) := by rw [hu.out]; exact low_byte v k hlt
      have HX := hid hx
      have hb8 := Pk.byteOf_lt v k
      clear hx
      go_wp2_with (at_builtin; refine wpList_append_byteN rfl _ _ 29 rfl w.heap.size 5 i0 Try.underlying29 hi hz0 hz1 hz2 A1 c1 (lows v k) k (lows_length v k) rfl (hown.alloc _) ⟨wr.heap.size, 0, none⟩ 1 (Pk.byteOf v k) _ HX.out hb8 rfl ?c1 (lows v (k + 1)) (lows_snoc v k).symm (by omega) ?c2 ?_)
      case c1 => simp
      case c2 => have := hbel.size; simp; omega
      intro A2 c2 w1 hown2 hb1
      have hb2 : Below w.heap.size w w1 := (hbel.alloc hbel.size _).trans hb1
      clear hb1 hown hbel
      go_wp2
      go_roundw
      case rel => exact ⟨k + 1, n / 256, A2, c2, by omega, by go_num, by go_num, by omega, rfl, hown2, hb2, by
        have e := hu.out
        show _ = _
        rw [Pk.ediv_pow, ← e]; omega⟩
      case measure => simp [RowKit.intOf]; omega
    · have HK8 : Hid (k = 8) := show k = 8 by omega
      obtain ⟨k8, rfl⟩ : ∃ k8 : Nat, k8 = k := ⟨_, rfl⟩
      clear hu hn
      go_wp2
      clear hlt hk
      have hreads := hown.reads
      have HBEL := hid hbel
      have hsz := hbel.size
      clear hown hbel
      obtain ⟨wm, rfl⟩ : ∃ wm : World, wm = wr := ⟨_, rfl⟩
      go_loopw [8, 9] (fun b i wr => ∃ k : Nat, ∃ A3 : Option Addr, ∃ c3 : Nat, k ≤ l.length ∧ i = .int .i64 k ∧ b = .slice A3 k c3 ∧ OwnsB 5 wr wm.heap.size A3 c3 (l.take k) ∧ Below wm.heap.size wm wr) (fun _ i _ => l.length - (RowKit.intOf i).toNat)
      case atStart => exact ⟨0, none, 0, by omega, rfl, rfl, OwnsB.nil _ _ _, Below.refl _ _⟩
      case round =>
        obtain ⟨k, A3, c3, hk, rfl, rfl, hown, hbel⟩ := hrel
        have hlk : (l.take k).length = k := by rw [List.length_take]; omega
        have HLK := hid hlk
        clear hlk
        by_cases hlt : k < l.length
        · have h1 := ((h.more hB).below (HBEL.out.trans (hbel.mono hsz)))
          obtain ⟨b, off, rfl, _, hc⟩ := h1.cells k hlt
          have hck := hc k hlt
          have hb8 := h.small l[k] (List.getElem_mem _)
          clear hc h1
          go_wp2_with (at_builtin; refine wpList_append_byteN rfl _ _ 29 rfl wm.heap.size 5 i0 Try.underlying29 hi hz0 hz1 hz2 A3 c3 (l.take k) k HLK.out rfl (hown.alloc _) ⟨wr.heap.size, 0, none⟩ 1 l[k] _ rfl hb8 rfl ?c3 (l.take (k + 1)) (List.take_succ_eq_append_getElem hlt).symm (by omega) ?c4 ?_)
          case c3 => simp
          case c4 => have := hbel.size; simp; omega
          intro A4 c4 w1 hown2 hb1
          have hb2 : Below wm.heap.size wm w1 := (hbel.alloc hbel.size _).trans hb1
          clear hb1 hown hbel hck
          go_wp2
          go_roundw
          case rel => exact ⟨k + 1, A4, c4, by omega, by go_num, rfl, hown2, hb2⟩
          case measure => simp [RowKit.intOf]; omega
        · obtain rfl : k = l.length := by omega
          rw [List.take_length] at hown
          clear HLK hlt hk
          go_wp2
          go_loopw [8, 10] (fun b i wr => ∃ k : Nat, ∃ A4 : Option Addr, ∃ c4 : Nat, k ≤ 8 ∧ i = .int .i64 (7 - (k : Int)) ∧ b = .slice A4 (l.length + k) c4 ∧ OwnsB 5 wr wm.heap.size A4 c4 (l ++ (Pk.enc v).take k) ∧ Below wm.heap.size wm wr) (fun _ i _ => (RowKit.intOf i + 1).toNat)
          case atStart => exact ⟨0, A3, c3, by omega, rfl, rfl, by simpa using hown, hbel⟩
          case round =>
            clear hown hbel
            obtain ⟨k, A4, c4, hk, rfl, rfl, hown, hbel⟩ := hrel
            have hlen : (l ++ (Pk.enc v).take k).length = l.length + k := by rw [List.length_append, List.length_take, Pk.enc_length]; omega
            have HL := hid hlen
            clear hlen
            by_cases hlt : k < 8
            · obtain ⟨m, hm⟩ : ∃ m : Nat, 7 - (k : Int) = (m : Int) := ⟨7 - k, by omega⟩
              have HM := hid hm
              rw [hm]
              have hm0 : m < 8 := by omega
              have hme : 7 - k = m := by omega
              have HME := hid hme
              clear hm hme
              obtain ⟨b, off, rfl, _, hc⟩ := (hreads.below hbel).cells m (by rw [lows_length, HK8.out]; exact hm0)
              have hck := hc m (by rw [lows_length, HK8.out]; exact hm0)
              rw [lows_get] at hck
              have hb8 := Pk.byteOf_lt v m
              clear hc
              go_wp2_with (at_builtin; refine wpList_append_byteN rfl _ _ 29 rfl wm.heap.size 5 i0 Try.underlying29 hi hz0 hz1 hz2 A4 c4 (l ++ (Pk.enc v).take k) (l.length + k) HL.out rfl (hown.alloc _) ⟨wr.heap.size, 0, none⟩ 1 (Pk.byteOf v m) _ rfl hb8 rfl ?c5 (l ++ (Pk.enc v).take (k + 1)) (by rw [enc_take v k hlt, HME.out, ← List.append_assoc]) (by omega) ?c6 ?_)
              case c5 => simp
              case c6 => have := hbel.size; simp; omega
              intro A5 c5 w1 hown2 hb1
              have hb2 : Below wm.heap.size wm w1 := (hbel.alloc hbel.size _).trans hb1
              have HO : Hid (OwnsB 5 w1 wm.heap.size A5 c5 (l ++ (Pk.enc v).take (k + 1))) := hown2
              clear hb1 hown hbel hck hown2
              go_wp2
              go_roundw
              case rel => exact ⟨k + 1, A5, c5, by omega, by rw [← HM.out]; go_num, rfl, HO.out, hb2⟩
              case measure => simp [RowKit.intOf] <;> omega
            · obtain rfl : k = 8 := by omega
              have HO : Hid (OwnsB 5 wr w.heap.size A4 c4 (l ++ Pk.enc v)) := by
                show OwnsB _ _ _ _ _ _
                exact hown.weaken hsz
              have HB : Hid (Below w.heap.size w wr) := HBEL.out.trans (hbel.mono hsz)
              clear hown hbel hreads
              go_wp2
              go_ret
              exact ⟨A4, c4, rfl, HO.out, HB.out⟩
end Go.Proofs.Ytkmbkihfdilmbaa
namespace Go.Proofs.Ytkmbkihfdilmbaa
open Go.RowKit
set_option maxHeartbeats 800000 in
theorem refBlob_any (B : Nat) (A : Option Addr) (c : Nat) (l : List Nat) (B' : Nat) (A' : Option Addr) (c' : Nat) (m : List Nat) (hl : l.length + m.length ≤ 140737488354000) (w : World) (h : IsBytes w B A l) (hB : B ≤ w.heap.size)
    (h' : IsBytes w B' A' m) (hB' : B' ≤ w.heap.size) :
    Calls Try.prog 54 #[.slice A l.length c, .slice A' m.length c'] w fun e w' => ∃ A2 c2, e = .returned (.slice A2 (l.length + 8 + m.length) c2) ∧ OwnsB 5 w' w.heap.size A2 c2 (l ++ (Pk.enc m.length ++ m)) ∧ Below w.heap.size w w' := by
  obtain ⟨i0, hi, hz0, hz1, hz2⟩ := info_parts info_u8
  go_enter Try.func54, Try.ntmps54
  go_wp2_with fail
  refine (refInt_any B A c l (m.length : Int) (by unfold InInt; omega) (by omega) _ h hB).mono ?_
  rintro e w1 ⟨A1, c1, rfl, hown, hbel⟩
  go_wp2_with fail
  go_loopw [5, 6] (fun b i wr => ∃ k : Nat, ∃ A3 : Option Addr, ∃ c3 : Nat, k ≤ m.length ∧ i = .int .i64 k ∧ b = .slice A3 (l.length + 8 + k) c3 ∧ OwnsB 5 wr w.heap.size A3 c3 (l ++ (Pk.enc m.length ++ m.take k)) ∧ Below w.heap.size w wr) (fun _ i _ => m.length - (RowKit.intOf i).toNat)
  case atStart => exact ⟨0, A1, c1, by omega, rfl, rfl, by simpa using hown, hbel⟩
  case round =>
    clear hown hbel
    obtain ⟨k, A3, c3, hk, rfl, rfl, hown, hbel⟩ := hrel
    by_cases hlt : k < m.length
    · have h1 := (h'.more hB').below hbel
      obtain ⟨b, off, rfl, _, hc⟩ := h1.cells k hlt
      have hck := hc k hlt
      have hb8 := h1.small m[k] (List.getElem_mem _)
      clear hc h1
      go_wp2_with (at_builtin; refine wpList_append_byteN rfl _ _ 29 rfl w.heap.size 5 i0 Try.underlying29 hi hz0 hz1 hz2 A3 c3 (l ++ (Pk.enc m.length ++ m.take k)) (l.length + 8 + k) ?c0 rfl (hown.alloc _) ⟨wr.heap.size, 0, none⟩ 1 m[k] _ rfl hb8 rfl ?c1 (l ++ (Pk.enc m.length ++ m.take (k + 1))) (by rw [List.append_assoc, List.append_assoc, List.take_succ_eq_append_getElem hlt]) (by omega) ?c2 ?_)
      case c0 => rw [List.length_append, List.length_append, Pk.enc_length, List.length_take]; omega
      case c1 => simp
      case c2 => have := hbel.size; simp; omega
      intro A4 c4 w2 hown2 hb1
      have HO := hid (And.intro hown2 ((hbel.alloc hbel.size _).trans hb1))
      clear hb1 hown hbel hck hown2
      go_wp2
      go_roundw
      case rel => exact ⟨k + 1, A4, c4, by omega, by go_num, rfl, HO.out.1, HO.out.2⟩
      case measure => simp [RowKit.intOf] <;> omega
    · obtain rfl : k = m.length := by omega
      rw [List.take_length] at hown
      clear hlt hk
      go_wp2
      go_ret
      exact ⟨A3, c3, rfl, hown, hbel⟩
end Go.Proofs.Ytkmbkihfdilmbaa
namespace Go.Proofs.Ytkmbkihfdilmbaa
open Go.RowKit
set_option maxRecDepth 100000
set_option maxHeartbeats 800000 in
theorem refInts_any (B : Nat) (A : Option Addr) (c : Nat) (l : List Nat) (B' : Nat) (A' : Option Addr) (c' : Nat) (m : List Int) (hl : l.length + 8 * m.length ≤ 140737488354000) (w : World) (h : IsBytes w B A l) (hB : B ≤ w.heap.size)
    (h' : IsInts w B' A' m) (hB' : B' ≤ w.heap.size) :
    Calls Try.prog 80 #[.slice A l.length c, .slice A' m.length c'] w fun e w' => ∃ A2 c2, e = .returned (.slice A2 (l.length + 8 + 8 * m.length) c2) ∧ OwnsB 5 w' w.heap.size A2 c2 (l ++ (Pk.enc m.length ++ Pk.encs m)) ∧ Below w.heap.size w w' := by
  obtain ⟨i0, hi, hz0, hz1, hz2⟩ := info_parts info_u8
  go_enter Try.func80, Try.ntmps80
  go_wp2_with fail
  refine (refInt_any B A c l (m.length : Int) (by unfold InInt; omega) (by omega) _ h hB).mono ?_
  rintro e w1 ⟨A1, c1, rfl, hown, hbel⟩
  go_wp2_with fail
  go_loopw [5, 6, 7, 8] (fun b i _ _ wr => ∃ k : Nat, ∃ A3 : Option Addr, ∃ c3 : Nat, k ≤ m.length ∧ i = .int .i64 k ∧ b = .slice A3 (l.length + 8 + 8 * k) c3 ∧ OwnsB 5 wr w.heap.size A3 c3 (l ++ (Pk.enc m.length ++ Pk.encs (m.take k))) ∧ Below w.heap.size w wr) (fun _ i _ _ _ => m.length - (RowKit.intOf i).toNat)
  case atStart => exact ⟨0, A1, c1, by omega, rfl, rfl, by simpa [Pk.encs] using hown, hbel⟩
  case round =>
    clear hown hbel
    obtain ⟨k, A3, c3, hk, rfl, rfl, hown, hbel⟩ := hrel
    by_cases hlt : k < m.length
    · have h1 := (h'.more hB').below hbel
      obtain ⟨b, off, rfl, _, hc⟩ := h1.cells k hlt
      have hck := hc k hlt
      have hv := h1.small m[k] (List.getElem_mem _)
      clear hc h1
      obtain ⟨wo, rfl⟩ : ∃ wo : World, wo = wr := ⟨_, rfl⟩
      go_wp2_with fail
      refine (refInt_any 0 none 0 [] m[k] hv (by simp) _ IsBytes.nil (Nat.zero_le _)).mono ?_
      rintro e w2 ⟨A4, c4, rfl, hown4, hbel4⟩
      simp only [List.length_nil, Nat.zero_add, List.nil_append] at hown4 ⊢
      have hown' := hown.below hbel4
      have hb2 : Below w.heap.size w w2 := hbel.trans (hbel4.mono hbel.size)
      have hsz := hb2.size
      have hlt3 : ∀ g, blk A3 = some g → g < wo.heap.size := fun g hg => (hown.rowLt g (by rw [ownBlock_slice]; exact hg)).2
      obtain ⟨g4, rfl, hg4, hg4', _, _⟩ := hown4.at_ (k := 0) (by rw [Pk.enc_length]; omega)
      have hne : blk A3 ≠ some g4 := fun e => by have := hlt3 g4 e; omega
      have hcells : ∀ j, (hj : j < 8) → w2.cell? ⟨g4, j, none⟩ = some (.int .u8 ((Pk.enc m[k])[j]'hj : Nat)) := fun j hj => by
        obtain ⟨g, e, _, _, h1, _⟩ := hown4.at_ (k := j) hj
        injection e with e; injection e with e; subst e; exact h1
      have HC := hid hcells
      clear hck hown hown4 hbel4 hcells hlt3
      go_wp2_with fail
      go_loopw [5, 8] (fun b i wr => ∃ j : Nat, ∃ A5 : Option Addr, ∃ c5 : Nat, j ≤ 8 ∧ i = .int .i64 j ∧ b = .slice A5 (l.length + 8 + 8 * k + j) c5 ∧ OwnsB 5 wr w.heap.size A5 c5 (l ++ (Pk.enc m.length ++ (Pk.encs (m.take k) ++ (Pk.enc m[k]).take j))) ∧ Hid (wr.heap[g4]? = w2.heap[g4]?) ∧ blk A5 ≠ some g4 ∧ Below w.heap.size w wr ∧ w2.heap.size ≤ wr.heap.size) (fun _ i _ => 8 - (RowKit.intOf i).toNat)
      case atStart => exact ⟨0, A3, c3, by omega, rfl, rfl, by simpa using hown', hid rfl, hne, hb2, Nat.le_refl _⟩
      case round =>
        clear hown' hb2 hne hbel
        obtain ⟨j, A5, c5, hj, rfl, rfl, hown, hsame, hne, hbel, hsz2⟩ := hrel
        by_cases hltj : j < 8
        · have hck : wr.cell? ⟨g4, j, none⟩ = some (.int .u8 ((Pk.enc m[k])[j]'hltj : Nat)) := (World.cell?_of_block (w := w2) hsame.out).trans (HC.out j hltj)
          have hb8 := Pk.enc_small m[k] _ (List.getElem_mem (h := (show j < (Pk.enc m[k]).length from hltj)))
          go_wp2_with (at_builtin; refine wpList_append_byteAt rfl _ _ 29 rfl w.heap.size 5 i0 Try.underlying29 hi hz0 hz1 hz2 A5 c5 (l ++ (Pk.enc m.length ++ (Pk.encs (m.take k) ++ (Pk.enc m[k]).take j))) (l.length + 8 + 8 * k + j) ?d0 rfl (hown.alloc _) ⟨wr.heap.size, 0, none⟩ 1 ((Pk.enc m[k])[j]'hltj) _ rfl hb8 rfl ?d1 (l ++ (Pk.enc m.length ++ (Pk.encs (m.take k) ++ (Pk.enc m[k]).take (j + 1)))) ?d3 (by omega) ?d2 ?_)
          case d0 => simp only [List.length_append, Pk.enc_length, Pk.encs_length, List.length_take]; omega
          case d1 => simp
          case d2 => have := hbel.size; simp; omega
          case d3 => rw [List.append_assoc, List.append_assoc, List.append_assoc, List.take_succ_eq_append_getElem (show j < (Pk.enc m[k]).length from hltj)]; rfl
          intro A6 c6 w3 hown6 hb6 hg6 ha6
          have hne6 : blk A6 ≠ some g4 := by
            rcases ha6 with e | e
            · rw [e]; exact hne
            · rw [e]; intro e; injection e with e; (try simp at e); omega
          have hsame6 : Hid (w3.heap[g4]? = w2.heap[g4]?) := by
            show _ = _
            rw [hg6.block g4 (by simp; omega) (fun e => hne e.symm), ← hsame.out]
            exact Below.heap_alloc _ _ _ (by omega)
          have HO := hid (And.intro hown6 (And.intro hne6 (And.intro ((hbel.alloc hbel.size _).trans hb6) (show w2.heap.size ≤ w3.heap.size by have := hb6.size; simp at this; omega))))
          clear hown6 hb6 hg6 ha6 hne6 hne hown hbel hck
          go_wp2
          go_roundw
          case rel => exact ⟨j + 1, A6, c6, by omega, by go_num, rfl, HO.out.1, hsame6, HO.out.2.1, HO.out.2.2.1, HO.out.2.2.2⟩
          case measure => simp [RowKit.intOf] <;> omega
        · have HO : Hid (OwnsB 5 wr w.heap.size A5 c5 (l ++ (Pk.enc m.length ++ Pk.encs (m.take (k + 1))))) := by
            obtain rfl : j = 8 := by omega
            show OwnsB _ _ _ _ _ _
            rw [List.take_succ_eq_append_getElem hlt, Pk.encs_snoc]
            exact hown
          have HB := hid hbel
          have hj8 : l.length + 8 + 8 * k + j = l.length + 8 + 8 * (k + 1) := by omega
          have HJ := hid hj8
          clear hown hbel hsame hne hj8
          go_wp2
          go_roundw
          case rel => exact ⟨k + 1, A5, c5, by omega, by go_num, by rw [HJ.out], HO.out, HB.out⟩
          case measure => simp [RowKit.intOf] <;> omega
    · obtain rfl : k = m.length := by omega
      rw [List.take_length] at hown
      clear hlt hk
      go_wp2
      go_ret
      exact ⟨A3, c3, rfl, hown, hbel⟩
end Go.Proofs.Ytkmbkihfdilmbaa
namespace Go.Proofs.Ytkmbkihfdilmbaa.Im
open Go Go.RowKit
open Rl (En Lg)
open Qu (Cf)
open Pk (enc encs)
set_option maxRecDepth 100000
set_option linter.unusedVariables false
attribute [local go_sem ↓] loadAt_hard storeAt_hard
structure Rbs (w w' : World) (A : Option Addr) (l : List Nat) (q : Nat) : Prop where
  is : IsBytes w' w'.heap.size A l
  len : l.length = q
  bel : Below w.heap.size w w'
theorem Rbs.refl {w : World} {A : Option Addr} {l : List Nat} {q : Nat} (h : IsBytes w w.heap.size A l) (hl : l.length = q) : Rbs w w A l q := ⟨h, hl, Below.refl _ _⟩
theorem Rbs.then_ {a b c : World} {A A' : Option Addr} {l l' : List Nat} {q q' : Nat} (h : Rbs a b A l q) (h' : Rbs b c A' l' q') : Rbs a c A' l' q' := ⟨h'.is, h'.len, h.bel.trans (h'.bel.mono h.bel.size)⟩
theorem Rbs.from {a b c : World} {A : Option Addr} {l : List Nat} {q : Nat} (hb : Below a.heap.size a b) (h : Rbs b c A l q) : Rbs a c A l q := ⟨h.is, h.len, hb.trans (h.bel.mono hb.size)⟩
theorem Rbs.row {a b : World} {A : Option Addr} {l : List Nat} {q k : Nat} {o : Obj} (h : Rbs a b A l q) (hr : a.heap[k]? = some o) : b.heap[k]? = some o := (h.bel.block _ (Array.getElem?_eq_some_iff.1 hr).1).trans hr
theorem Rbs.drew {a b : World} {A : Option Addr} {l : List Nat} {q : Nat} (h : Rbs a b A l q) : Rbs a b.drew A l q := ⟨h.is.below (Below.refl _ b).drew, h.len, h.bel.drew⟩
def Rtold (w : World) (l : List Nat) (q : Nat) (e : Ending) (w' : World) : Prop := ∃ A' c', e = .returned (.slice A' q c') ∧ Rbs w w' A' l q
theorem rInts_any (A : Option Addr) (c : Nat) (l : List Nat) (q : Nat) (B' : Nat) (A' : Option Addr) (c' : Nat) (m : List Int) (k : Nat) (hm : m.length = k) (hk : k ≤ 1000000) (hq : q ≤ 100000000000) (a w : World) (h : Rbs a w A l q) (h' : IsInts w B' A' m) (hB' : B' ≤ w.heap.size) :
    Calls Try.prog 80 #[.slice A q c, .slice A' k c'] w (Rtold w (l ++ encI m) (q + 8 + 8 * k)) := by
  obtain ⟨h1, rfl, _⟩ := h
  subst hm
  refine (refInts_any w.heap.size A c l B' A' c' m (by omega) w h1 (Nat.le_refl _) h' hB').mono ?_
  rintro e w' ⟨A', c', rfl, ho, hb⟩
  exact ⟨A', c', rfl, ho.reads, by unfold encI; rw [List.length_append, List.length_append, Pk.enc_length, Pk.encs_length]; omega, hb⟩
set_option maxHeartbeats 1600000 in
theorem rConf_any (A : Option Addr) (c : Nat) (l : List Nat) (q : Nat) (f : Cf) (a0 a1 a2 : Option Addr) (k0 k1 k2 n0 n1 n2 : Nat) (hn0 : f.old.length = n0) (hn1 : f.new.length = n1) (hn2 : f.lrn.length = n2) (hs : n0 ≤ 1000000 ∧ n1 ≤ 1000000 ∧ n2 ≤ 1000000) (hq : q ≤ 10000000000) (B' : Nat) (a w : World) (h : Rbs a w A l q) (hB' : B' ≤ w.heap.size) (h0 : IsInts w B' a0 f.old) (h1 : IsInts w B' a1 f.new) (h2 : IsInts w B' a2 f.lrn) :
    Calls Try.prog 72 #[.slice A q c, .agg #[.slice a0 n0 k0, .slice a1 n1 k1, .slice a2 n2 k2]] w (Rtold w (l ++ encCf f) (q + (8 + 8 * n0) + (8 + 8 * n1) + (8 + 8 * n2))) := by
  obtain ⟨w1, hw1⟩ : ∃ w1, w1 = w.alloc (.cells #[.slice a0 n0 k0, .slice a1 n1 k1, .slice a2 n2 k2] 37) := ⟨_, rfl⟩
  obtain ⟨b, hb⟩ : ∃ b, b = w.heap.size := ⟨_, rfl⟩
  have r1 : w1.heap[b]? = some (.cells #[.slice a0 n0 k0, .slice a1 n1 k1, .slice a2 n2 k2] 37 (0, 0)) := by rw [hw1, hb]; exact heap_alloc_new w _
  have b1 : Below w.heap.size w w1 := by rw [hw1]; exact (Below.refl _ w).alloc (Nat.le_refl _) _
  have B1 : Hid (Rbs w w1.drew A l q) := hid (Rbs.drew ⟨(h.is.below b1).more b1.size, h.len, b1⟩)
  have R1 := hid r1
  have CE : Hid (∀ W : World, W.heap[b]? = some (.cells #[.slice a0 n0 k0, .slice a1 n1 k1, .slice a2 n2 k2] 37 (0, 0)) → W.cell? ⟨b, 0, none⟩ = some (.slice a0 n0 k0) ∧ W.cell? ⟨b, 1, none⟩ = some (.slice a1 n1 k1) ∧ W.cell? ⟨b, 2, none⟩ = some (.slice a2 n2 k2)) := hid fun W hW => ⟨row_cell hW 0, row_cell hW 1, row_cell hW 2⟩
  have f0 := CE.out w1 r1
  have f1 := CE.out w1.drew r1
  have HI := hid (And.intro h0 (And.intro h1 (And.intro h2 hB')))
  have HN := hid (And.intro hn0 (And.intro hn1 (And.intro hn2 hs)))
  clear h r1 b1 h0 h1 h2 hB' hn0 hn1 hn2 hs
  go_enter Try.func72, Try.ntmps72
  go_wp2_with fail
  rw [← hw1, ← hb]
  clear hw1 hb
  go_region_held3 (fun W => W.cell? ⟨b, 0, none⟩ = some (.slice a0 n0 k0) ∧ W.cell? ⟨b, 1, none⟩ = some (.slice a1 n1 k1) ∧ W.cell? ⟨b, 2, none⟩ = some (.slice a2 n2 k2))
    (first | with_reducible exact f4 | with_reducible exact f3 | with_reducible exact f2 | with_reducible exact f1 | with_reducible exact f0 | fail)
    (first
      | (go_at_call 80; refine (rInts_any _ _ _ _ B' a2 k2 f.lrn n2 HN.out.2.2.1 HN.out.2.2.2.2.2 (by have := HN.out.2.2.2; omega) _ _ H3.out (HI.out.2.2.1.below (H3.out.bel.mono HI.out.2.2.2)) (Nat.le_trans HI.out.2.2.2 H3.out.bel.size)).mono ?_; rintro e w4 ⟨A4, c4, rfl, hb4⟩; have H4 := hid (H3.out.then_ hb4); have f4 := CE.out _ (hb4.row R3.out); clear hb4)
      | (go_at_call 80; refine (rInts_any _ _ _ _ B' a1 k1 f.new n1 HN.out.2.1 HN.out.2.2.2.2.1 (by have := HN.out.2.2.2; omega) _ _ H2.out (HI.out.2.1.below (H2.out.bel.mono HI.out.2.2.2)) (Nat.le_trans HI.out.2.2.2 H2.out.bel.size)).mono ?_; rintro e w3 ⟨A3, c3, rfl, hb3⟩; have R3 := hid (hb3.row R2.out); have H3 := hid (H2.out.then_ hb3); have f3 := CE.out _ R3.out; clear hb3)
      | (go_at_call 80; refine (rInts_any A c l q B' a0 k0 f.old n0 HN.out.1 HN.out.2.2.2.1 (by omega) w w1.drew B1.out (HI.out.1.below (B1.out.bel.mono HI.out.2.2.2)) (Nat.le_trans HI.out.2.2.2 B1.out.bel.size)).mono ?_; rintro e w2 ⟨A2, c2, rfl, hb2⟩; have R2 := hid (hb2.row R1.out); have H2 := hid (Rbs.then_ B1.out hb2); have f2 := CE.out _ R2.out; clear hb2)
      | fail)
  all_goals
    have HF : Hid (Rbs w w4 A4 (l ++ encCf f) (q + (8 + 8 * n0) + (8 + 8 * n1) + (8 + 8 * n2))) := hid (by
      have h := H4.out
      have e : l ++ encI f.old ++ encI f.new ++ encI f.lrn = l ++ encCf f := by unfold encCf; simp [List.append_assoc]
      rw [e] at h
      exact ⟨h.is, by have := h.len; omega, h.bel⟩)
    clear f0 f1 f2 f3 f4 H2 H3 H4
    go_wp2_with fail
    go_ret
    exact ⟨A4, c4, ret_len (by omega), HF.out⟩
end Go.Proofs.Ytkmbkihfdilmbaa.Im
namespace Go.Proofs.Ytkmbkihfdilmbaa.Im
open Go Go.RowKit
open Rl (En Lg)
open Qu (Cf)
open Pk (enc encs)
set_option maxRecDepth 100000
set_option linter.unusedVariables false
attribute [local go_sem ↓] loadAt_hard storeAt_hard
set_option maxHeartbeats 1600000 in
theorem rConfTop_any (f : Cf) (a0 a1 a2 : Option Addr) (k0 k1 k2 n0 n1 n2 : Nat) (hn0 : f.old.length = n0) (hn1 : f.new.length = n1) (hn2 : f.lrn.length = n2) (hs : n0 ≤ 1000000 ∧ n1 ≤ 1000000 ∧ n2 ≤ 1000000) (B' : Nat) (w : World) (hB' : B' ≤ w.heap.size) (h0 : IsInts w B' a0 f.old) (h1 : IsInts w B' a1 f.new) (h2 : IsInts w B' a2 f.lrn) :
    Calls Try.prog 55 #[.agg #[.slice a0 n0 k0, .slice a1 n1 k1, .slice a2 n2 k2]] w (Rtold w (encCf f) (8 + 8 * n0 + (8 + 8 * n1) + (8 + 8 * n2))) := by
  obtain ⟨w1, hw1⟩ : ∃ w1, w1 = w.alloc (.cells #[.slice a0 n0 k0, .slice a1 n1 k1, .slice a2 n2 k2] 37) := ⟨_, rfl⟩
  have b1 : Below w.heap.size w w1 := by rw [hw1]; exact (Below.refl _ w).alloc (Nat.le_refl _) _
  have HP := rConf_any none 0 [] 0 f a0 a1 a2 k0 k1 k2 n0 n1 n2 hn0 hn1 hn2 hs (by omega) B' w1 w1 (Rbs.refl IsBytes.nil rfl) (Nat.le_trans hB' b1.size) (h0.below (b1.mono hB')) (h1.below (b1.mono hB')) (h2.below (b1.mono hB'))
  obtain ⟨qq, hqq⟩ : ∃ qq, 8 + 8 * n0 + (8 + 8 * n1) + (8 + 8 * n2) = qq := ⟨_, rfl⟩
  rw [Nat.zero_add, hqq] at HP
  rw [hqq]
  replace HP := hid HP
  have HB := hid b1
  clear b1 h0 h1 h2 hn0 hn1 hn2 hs hqq hB'
  go_enter Try.func55, Try.ntmps55
  go_wp2_with fail
  rw [← hw1]
  clear hw1
  refine HP.out.mono ?_
  rintro e w4 ⟨A4, c4, rfl, hb4⟩
  have HF : Hid (Rbs w w4 A4 (encCf f) qq) := hid (by
    rw [List.nil_append] at hb4
    exact hb4.from HB.out)
  clear hb4
  go_wp2_with fail
  go_ret
  exact ⟨A4, c4, rfl, HF.out⟩
end Go.Proofs.Ytkmbkihfdilmbaa.Im
namespace Go.Proofs.Ytkmbkihfdilmbaa.Fw
open Go Go.RowKit
open Ms (M)
open Im (ldX stX Hd Pt Ad IsPt encCf)
open Vo (Rw loadAt_msgV storeAt_msgV info_msgV boxes)
set_option maxRecDepth 100000
set_option linter.unusedVariables false
attribute [local go_sem ↓] loadAt_msgV storeAt_msgV loadAt_flow storeAt_flow Im.loadAt_hard Im.storeAt_hard Im.loadAt_log1 Im.storeAt_log1 Im.loadAt_conf3 Im.storeAt_conf3
theorem rblobN (B : Nat) (A : Option Addr) (c : Nat) (l : List Nat) (B' : Nat) (A' : Option Addr) (c' : Nat) (m : List Nat) (n n' r : Nat) (e1 : l.length = n) (e2 : m.length = n') (e3 : n + 8 + n' = r) (hr : r ≤ 140737488354000) (w : World) (h : IsBytes w B A l) (hB : B ≤ w.heap.size) (h' : IsBytes w B' A' m) (hB' : B' ≤ w.heap.size) :
    Calls Try.prog 54 #[.slice A n c, .slice A' n' c'] w fun e w' => ∃ A2 c2, e = .returned (.slice A2 r c2) ∧ OwnsB 5 w' w.heap.size A2 c2 (l ++ (Pk.enc m.length ++ m)) ∧ Below w.heap.size w w' := by
  subst e1 e2 e3
  exact refBlob_any B A c l B' A' c' m (by omega) w h hB h' hB'
structure NR (w W : World) (f : Fl) (h : Hd) (ad : Ad) (ne n0 n1 n2 ns : Nat) (b3 : Nat) (cs : Array Value) : Prop where
  nx : Nx w W f h ad ne n0 n1 n2 ns
  m : Rw W b3 cs 31
  lo : w.heap.size + 3 ≤ b3
section
variable {w W W' : World} {f : Fl} {h : Hd} {ad : Ad} {ne n0 n1 n2 ns b3 : Nat} {cs : Array Value}
theorem NR.keep (q : NR w W f h ad ne n0 n1 n2 ns b3 cs) (hb : Below W.heap.size W W') : NR w W' f h ad ne n0 n1 n2 ns b3 cs := ⟨q.nx.keep hb, q.m.keep hb, q.lo⟩
theorem NR.set (q : NR w W f h ad ne n0 n1 n2 ns b3 cs) (i : Nat) (v : Value) : NR w (W.setCell ⟨b3, i, none⟩ v) f h ad ne n0 n1 n2 ns b3 (cs.setIfInBounds i v) := by
  have hlo := q.lo
  exact ⟨⟨q.nx.bel.setCell (show w.heap.size ≤ b3 by omega) _, q.nx.rf.other (by omega) _ _, q.nx.rh.other (by omega) _ _, q.nx.rm.other (by omega) _ _⟩, q.m.put i v, q.lo⟩
theorem NR.fz (q : NR w W f h ad ne n0 n1 n2 ns b3 cs) (i : Nat) : W.cell? ⟨b3, i, none⟩ = cs[i]? ∧ W.frozen? ⟨b3, i, none⟩ = false := ⟨row_cell q.m i, row_free q.m i⟩
theorem NR.done (q : NR w W f h ad ne n0 n1 n2 ns b3 cs) (hn : cs.size = 17) (h1 : cs.all (·.oneCell') = true) :
    (ldX 31 (.pointer (some ⟨b3, 0, none⟩))).run Try.prog W = .ok (.agg cs) W ∧ ∃ W', (stX 31 (.pointer (some ⟨w.heap.size + 2, 0, none⟩)) (.agg cs)).run Try.prog W = .ok () W' ∧ W'.heap[w.heap.size + 2]? = some (.cells cs 31 (0, 0)) ∧ Below w.heap.size w W' ∧ Turned (fun k => k = w.heap.size + 2) W W' :=
  ⟨q.m.ldM hn, q.nx.put cs hn h1⟩
end
theorem NR.start (w w1 : World) (f : Fl) (h : Hd) (ad : Ad) (ne n0 n1 n2 ns : Nat) (id round : Int) (q : Nx w w1 f h ad ne n0 n1 n2 ns) (hz : w1.heap.size = w.heap.size + 3) : NR w (w1.alloc (.cells #[.int .i64 0, .int .i64 id, .int .i64 f.n, .int .i64 h.g, .int .i64 h.t, .int .i64 0, .int .i64 0, .int .i64 0, .int .i64 round, .int .i64 0, .int .i64 0, .int .i64 0, .int .i64 0, .int .i64 0, .bool false, .slice none 0 0, .slice none 0 0] 31)) f h ad ne n0 n1 n2 ns w1.heap.size #[.int .i64 0, .int .i64 id, .int .i64 f.n, .int .i64 h.g, .int .i64 h.t, .int .i64 0, .int .i64 0, .int .i64 0, .int .i64 round, .int .i64 0, .int .i64 0, .int .i64 0, .int .i64 0, .int .i64 0, .bool false, .slice none 0 0, .slice none 0 0] :=
  ⟨q.keep ((Below.refl _ _).alloc (Nat.le_refl _) _), heap_alloc_new w1 _, by omega⟩
theorem conf_lds {w W : World} {f : Fl} {h : Hd} {ad : Ad} {ne n0 n1 n2 ns : Nat} (q : Nx w W f h ad ne n0 n1 n2 ns) : (ldX 37 (.pointer (some ⟨w.heap.size + 1, 6, none⟩))).run Try.prog W = .ok (.agg #[.slice ad.o n0 ad.co, .slice ad.n n1 ad.cn, .slice ad.l n2 ad.cl]) W ∧ W.cell? ⟨w.heap.size + 1, 9, none⟩ = some (.slice ad.s ns ad.cs) := ⟨Im.ldConfH q.rh rfl rfl rfl, row_cell q.rh 9⟩
set_option maxHeartbeats 12800000 in
theorem refNextS_any (f : Fl) (id commit round : Int) (h : Hd) (ad : Ad) (ne n0 n1 n2 ns r : Nat) (e9 : h.p.log.es.length = ne) (e0 : h.p.cf.old.length = n0) (e1 : h.p.cf.new.length = n1) (e2 : h.p.cf.lrn.length = n2) (e3 : h.p.sn.length = ns) (er : snapN n0 n1 n2 ns = r) (hf : Fs h.p) (hx : f.x ≤ h.p.log.base) (w : World) (hp : IsPt w w.heap.size h.p ad) :
    Calls Try.prog 28 #[.agg #[.int .i64 f.n, .int .i64 f.x, .int .i64 f.m, .int .i64 f.r], .int .i64 id, .agg #[.int .i64 h.g, .int .i64 h.t, .int .i64 h.v, .int .i64 h.p.log.base, .int .i64 h.p.log.term, .slice ad.e ne ad.ce, .slice ad.o n0 ad.co, .slice ad.n n1 ad.cn, .slice ad.l n2 ad.cl, .slice ad.s ns ad.cs], .int .i64 commit, .int .i64 round] w fun e w' => ∃ A c, e = .returned (.agg #[.int .i64 5, .int .i64 id, .int .i64 f.n, .int .i64 h.g, .int .i64 h.t, .int .i64 h.p.log.base, .int .i64 h.p.log.term, .int .i64 0, .int .i64 round, .int .i64 0, .int .i64 0, .int .i64 0, .int .i64 0, .int .i64 0, .bool false, .slice none 0 0, .slice A r c]) ∧ OwnsB 5 w' w.heap.size A c (snapD h.p) ∧ Below w.heap.size w w' := by
  obtain ⟨w1, hw1⟩ : ∃ w1, w1 = ((w.alloc (.cells #[.int .i64 f.n, .int .i64 f.x, .int .i64 f.m, .int .i64 f.r] 42)).alloc (.cells #[.int .i64 h.g, .int .i64 h.t, .int .i64 h.v, .int .i64 h.p.log.base, .int .i64 h.p.log.term, .slice ad.e ne ad.ce, .slice ad.o n0 ad.co, .slice ad.n n1 ad.cn, .slice ad.l n2 ad.cl, .slice ad.s ns ad.cs] 52)).alloc (.cells #[.int .i64 0, .int .i64 0, .int .i64 0, .int .i64 0, .int .i64 0, .int .i64 0, .int .i64 0, .int .i64 0, .int .i64 0, .int .i64 0, .int .i64 0, .int .i64 0, .int .i64 0, .int .i64 0, .bool false, .slice none 0 0, .slice none 0 0] 31) := ⟨_, rfl⟩
  have hq := Nx.start w f h ad ne n0 n1 n2 ns
  have hz : w1.heap.size = w.heap.size + 3 := by rw [hw1]; simp
  rw [← hw1] at hq
  have Q1 := hid hq
  have HW1 := hid hw1
  obtain ⟨b3, hb3⟩ : ∃ b, b = w1.heap.size := ⟨_, rfl⟩
  have HB3 := hid hb3
  have hst0 := Im.stNew w1 31 17 info_msgV #[.int .i64 0, .int .i64 0, .int .i64 0, .int .i64 0, .int .i64 0, .int .i64 0, .int .i64 0, .int .i64 0, .int .i64 0, .int .i64 0, .int .i64 0, .int .i64 0, .int .i64 0, .int .i64 0, .bool false, .slice none 0 0, .slice none 0 0] #[.int .i64 0, .int .i64 id, .int .i64 f.n, .int .i64 h.g, .int .i64 h.t, .int .i64 0, .int .i64 0, .int .i64 0, .int .i64 round, .int .i64 0, .int .i64 0, .int .i64 0, .int .i64 0, .int .i64 0, .bool false, .slice none 0 0, .slice none 0 0] rfl rfl (by simp [Value.oneCell'])
  obtain ⟨w2, hw2⟩ : ∃ w2, w2 = w1.alloc (.cells #[.int .i64 0, .int .i64 id, .int .i64 f.n, .int .i64 h.g, .int .i64 h.t, .int .i64 0, .int .i64 0, .int .i64 0, .int .i64 round, .int .i64 0, .int .i64 0, .int .i64 0, .int .i64 0, .int .i64 0, .bool false, .slice none 0 0, .slice none 0 0] 31) := ⟨_, rfl⟩
  have hq2 := NR.start w w1 f h ad ne n0 n1 n2 ns id round hq hz
  rw [← hw2, ← hb3] at hq2
  rw [← hw2] at hst0
  have R2 := hid hq2
  obtain ⟨w3, hw3⟩ : ∃ W, W = w2.setCell ⟨b3, 0, none⟩ (.int .i64 5) := ⟨_, rfl⟩
  have Rw3 : Hid (NR w w3 f h ad ne n0 n1 n2 ns b3 #[.int .i64 5, .int .i64 id, .int .i64 f.n, .int .i64 h.g, .int .i64 h.t, .int .i64 0, .int .i64 0, .int .i64 0, .int .i64 round, .int .i64 0, .int .i64 0, .int .i64 0, .int .i64 0, .int .i64 0, .bool false, .slice none 0 0, .slice none 0 0]) := hid (by rw [hw3]; exact R2.out.set 0 _)
  have Hw3 := hid hw3
  clear hw3
  obtain ⟨w4, hw4⟩ : ∃ W, W = w3.setCell ⟨b3, 5, none⟩ (.int .i64 h.p.log.base) := ⟨_, rfl⟩
  have Rw4 : Hid (NR w w4 f h ad ne n0 n1 n2 ns b3 #[.int .i64 5, .int .i64 id, .int .i64 f.n, .int .i64 h.g, .int .i64 h.t, .int .i64 h.p.log.base, .int .i64 0, .int .i64 0, .int .i64 round, .int .i64 0, .int .i64 0, .int .i64 0, .int .i64 0, .int .i64 0, .bool false, .slice none 0 0, .slice none 0 0]) := hid (by rw [hw4]; exact Rw3.out.set 5 _)
  have Hw4 := hid hw4
  clear hw4
  obtain ⟨w5, hw5⟩ : ∃ W, W = w4.setCell ⟨b3, 6, none⟩ (.int .i64 h.p.log.term) := ⟨_, rfl⟩
  have Rw5 : Hid (NR w w5 f h ad ne n0 n1 n2 ns b3 #[.int .i64 5, .int .i64 id, .int .i64 f.n, .int .i64 h.g, .int .i64 h.t, .int .i64 h.p.log.base, .int .i64 h.p.log.term, .int .i64 0, .int .i64 round, .int .i64 0, .int .i64 0, .int .i64 0, .int .i64 0, .int .i64 0, .bool false, .slice none 0 0, .slice none 0 0]) := hid (by rw [hw5]; exact Rw4.out.set 6 _)
  have Hw5 := hid hw5
  clear hw5
  obtain ⟨q, hqq⟩ : ∃ q, 8 + 8 * n0 + (8 + 8 * n1) + (8 + 8 * n2) = q := ⟨_, rfl⟩
  have hr : 8 + q + 8 + ns = r := by rw [← er, ← hqq]; rfl
  have hb : n0 ≤ 100000 ∧ n1 ≤ 100000 ∧ n2 ≤ 100000 ∧ ns ≤ 1000000000 := ⟨e0 ▸ hf.o, e1 ▸ hf.n, e2 ▸ hf.l, e3 ▸ hf.s⟩
  obtain ⟨s5, hs5⟩ : ∃ s, s = w5.heap.size := ⟨_, rfl⟩
  have FA : Hid (∀ W, Below s5 w5 W → IsPt W W.heap.size h.p ad ∧ s5 ≤ W.heap.size ∧ NR w W f h ad ne n0 n1 n2 ns b3 #[.int .i64 5, .int .i64 id, .int .i64 f.n, .int .i64 h.g, .int .i64 h.t, .int .i64 h.p.log.base, .int .i64 h.p.log.term, .int .i64 0, .int .i64 round, .int .i64 0, .int .i64 0, .int .i64 0, .int .i64 0, .int .i64 0, .bool false, .slice none 0 0, .slice none 0 0]) := hid (fun W hW => by
    rw [hs5] at hW ⊢
    have hN := Rw5.out.keep hW
    exact ⟨(hp.below hN.nx.bel).more hN.nx.bel.size, hW.size, hN⟩)
  have HPC : Hid (∀ W, Below s5 w5 W → Calls Try.prog 55 #[.agg #[.slice ad.o n0 ad.co, .slice ad.n n1 ad.cn, .slice ad.l n2 ad.cl]] W fun e w' => Im.Rtold W (encCf h.p.cf) q e w') := hid (fun W hW => by
    obtain ⟨g1, _⟩ := FA.out W hW
    rw [← hqq]
    exact Im.rConfTop_any h.p.cf ad.o ad.n ad.l ad.co ad.cn ad.cl n0 n1 n2 e0 e1 e2 ⟨by omega, by omega, by omega⟩ W.heap.size W (Nat.le_refl _) g1.o g1.n g1.l)
  have HB1 : Hid (∀ W A c, Below s5 w5 W → IsBytes W W.heap.size A (encCf h.p.cf) → (encCf h.p.cf).length = q → Calls Try.prog 54 #[.slice none 0 0, .slice A q c] W fun e w' => ∃ A2 c2, e = .returned (.slice A2 (8 + q) c2) ∧ OwnsB 5 w' W.heap.size A2 c2 (Pk.enc (encCf h.p.cf).length ++ encCf h.p.cf) ∧ Below W.heap.size W w') := hid (fun W A c hW ho hl =>
    rblobN W.heap.size none 0 [] W.heap.size A c (encCf h.p.cf) 0 q (8 + q) rfl hl (by omega) (by omega) W IsBytes.nil (Nat.le_refl _) ho (Nat.le_refl _))
  have HB2 : Hid (∀ W A c, Below s5 w5 W → OwnsB 5 W s5 A c (Pk.enc (encCf h.p.cf).length ++ encCf h.p.cf) → (encCf h.p.cf).length = q → Calls Try.prog 54 #[.slice A (8 + q) c, .slice ad.s ns ad.cs] W fun e w' => ∃ A2 c2, e = .returned (.slice A2 r c2) ∧ OwnsB 5 w' W.heap.size A2 c2 (snapD h.p) ∧ Below W.heap.size W w') := hid (fun W A c hW ho hl => by
    obtain ⟨g1, _⟩ := FA.out W hW
    exact rblobN W.heap.size A c _ W.heap.size ad.s ad.cs h.p.sn (8 + q) ns r (by rw [List.length_append, Pk.enc_length, hl]) e3 (by omega) (by omega) W ho.reads (Nat.le_refl _) g1.s (Nat.le_refl _))
  have HS5 := hid (And.intro hs5 (show w.heap.size ≤ s5 by rw [hs5]; exact Rw5.out.nx.bel.size))
  have G0 := hid (show Below s5 w5 w5.drew from (Below.refl _ _).drew)
  have e4 := conf_lds (FA.out w5 (Below.refl _ _)).2.2.nx
  have e5 := conf_lds (FA.out w5.drew G0.out).2.2.nx
  obtain ⟨⟨l0, l1⟩, ⟨l2, l3, l4, l5⟩, l6, l7⟩ := Q1.out.lds
  clear hqq hr hb hs5 e9 e0 e1 e2 e3 er hf hp hw1 hw2 hq hq2 hz hb3
  go_enter Try.func28, Try.ntmps28
  go_upto_region 1 with fail
  rw [← HW1.out]
  go_upto_region 2 with fail
  rw [← HB3.out]
  clear l0 l1 l2 l3 l4 l5 l6 l7 hst0 HB3 HW1
  obtain ⟨⟨l0, l1⟩, ⟨l2, l3, l4, l5⟩, l6, l7⟩ := R2.out.nx.lds
  obtain ⟨z0, z1⟩ := R2.out.fz 0
  go_upto_region 4 with fail
  rw [← Hw3.out]
  clear z0 z1 l0 l1 l2 l3 l4 l5 l6 l7 hx
  obtain ⟨⟨l0, l1⟩, ⟨l2, l3, l4, l5⟩, l6, l7⟩ := Rw3.out.nx.lds
  obtain ⟨z0, z1⟩ := Rw3.out.fz 5
  go_upto_region 5 with fail
  rw [← Hw4.out]
  clear z0 z1 l0 l1 l2 l3 l4 l5 l6 l7
  obtain ⟨⟨l0, l1⟩, ⟨l2, l3, l4, l5⟩, l6, l7⟩ := Rw4.out.nx.lds
  obtain ⟨z0, z1⟩ := Rw4.out.fz 6
  go_upto_region 6 with fail
  rw [← Hw5.out]
  clear z0 z1 l0 l1 l2 l3 l4 l5 l6 l7
  go_region_held3 (fun W => (ldX 37 (.pointer (some ⟨w.heap.size + 1, 6, none⟩))).run Try.prog W = .ok (.agg #[.slice ad.o n0 ad.co, .slice ad.n n1 ad.cn, .slice ad.l n2 ad.cl]) W ∧ W.cell? ⟨w.heap.size + 1, 9, none⟩ = some (.slice ad.s ns ad.cs))
    (first | with_reducible exact e9 | with_reducible exact e8 | with_reducible exact e7 | with_reducible exact e6 | with_reducible exact e5 | with_reducible exact e4 | fail)
    (first
      | (go_at_call 54; refine (HB2.out _ _ _ G2.out O2.out.1 O2.out.2).mono ?_; rintro e v3 ⟨A, c, rfl, ho3, hb3⟩; have G3 := hid (G2.out.trans (hb3.mono (FA.out _ G2.out).2.1)); have O3 := hid (And.intro ho3 (FA.out _ G2.out).2.1); have e8 := conf_lds (FA.out v3 G3.out).2.2.nx; obtain ⟨z0, z1⟩ := (FA.out v3 G3.out).2.2.fz 16; have e9 := conf_lds ((FA.out v3 G3.out).2.2.set 16 (.slice A r c)).nx; clear ho3 hb3)
      | (go_at_call 54; refine (HB1.out _ _ _ G1.out O1.out.1 O1.out.2).mono ?_; rintro e v2 ⟨A2, c2, rfl, ho2, hb2⟩; have G2 := hid (G1.out.trans (hb2.mono (FA.out _ G1.out).2.1)); have O2 := hid (And.intro (ho2.weaken (FA.out _ G1.out).2.1) O1.out.2); have e7 := conf_lds (FA.out v2 G2.out).2.2.nx; clear ho2 hb2)
      | (go_at_call 55; refine (HPC.out _ G0.out).mono ?_; rintro e v1 ⟨A1, c1, rfl, hq1⟩; have G1 := hid (G0.out.trans (hq1.bel.mono (FA.out _ G0.out).2.1)); have O1 := hid (And.intro hq1.is hq1.len); have e6 := conf_lds (FA.out v1 G1.out).2.2.nx; clear hq1)
      | fail)
  all_goals
    (obtain ⟨w6, hw6⟩ : ∃ W, W = v3.setCell ⟨b3, 16, none⟩ (.slice A r c) := ⟨_, rfl⟩
     rw [← hw6]
     have R6 : NR w w6 f h ad ne n0 n1 n2 ns b3 #[.int .i64 5, .int .i64 id, .int .i64 f.n, .int .i64 h.g, .int .i64 h.t, .int .i64 h.p.log.base, .int .i64 h.p.log.term, .int .i64 0, .int .i64 round, .int .i64 0, .int .i64 0, .int .i64 0, .int .i64 0, .int .i64 0, .bool false, .slice none 0 0, .slice A r c] := by rw [hw6]; exact (FA.out v3 G3.out).2.2.set 16 _
     have ho6 : OwnsB 5 w6 w.heap.size A c (snapD h.p) := by
       rw [hw6]
       exact (O3.out.1.turned (Turned.one v3 b3 16 _) (fun k hk e => by have h1 := (O3.out.1.blkLt k hk).1; have h2 := O3.out.2; have h3 := row_lt Rw5.out.m; have h4 := HS5.out.1; omega)).weaken (Nat.le_trans HS5.out.2 O3.out.2)
     obtain ⟨z2, w7, z3, hr7, hB7, hT7⟩ := R6.done rfl (by simp [Value.oneCell'])
     have HO := hid (And.intro hr7 (And.intro (ho6.turned hT7 (fun k hk e => by have h1 := (O3.out.1.blkLt k hk).1; have h2 := O3.out.2; have h3 := row_lt Rw5.out.nx.rm; have h4 := HS5.out.1; omega)) hB7))
     clear e4 e5 e6 e7 e8 e9 z0 z1 R6 ho6 hr7 hB7 hT7 hw6 FA HPC HB1 HB2 O1 O2 O3
     go_wp2_with fail
     refine bodyPost_ret (results_cell_row rfl _ _ (w.heap.size + 2) _ _ _ _ rfl HO.out.1 Try.underlying31 rfl (by rw [info_msgV]; rfl)) rfl ?_
     exact ⟨A, c, rfl, HO.out.2⟩)
set_option maxHeartbeats 12800000 in
theorem refNextE_any (f : Fl) (hpl : Pl f) (id commit round : Int) (h : Hd) (ad : Ad) (ne n0 n1 n2 ns r : Nat) (e9 : h.p.log.es.length = ne) (hr : (h.p.log.slice f.x 8).length = r) (hok : Rl.Ok h.p.log) (hfew : Rl.Few h.p.log.es) (hx : ¬ f.x ≤ h.p.log.base) (w : World) (hp : IsPt w w.heap.size h.p ad) :
    Calls Try.prog 28 #[.agg #[.int .i64 f.n, .int .i64 f.x, .int .i64 f.m, .int .i64 f.r], .int .i64 id, .agg #[.int .i64 h.g, .int .i64 h.t, .int .i64 h.v, .int .i64 h.p.log.base, .int .i64 h.p.log.term, .slice ad.e ne ad.ce, .slice ad.o n0 ad.co, .slice ad.n n1 ad.cn, .slice ad.l n2 ad.cl, .slice ad.s ns ad.cs], .int .i64 commit, .int .i64 round] w fun e w' => ∃ A c, e = .returned (.agg #[.int .i64 3, .int .i64 id, .int .i64 f.n, .int .i64 h.g, .int .i64 h.t, .int .i64 (f.x - 1), .int .i64 (h.p.log.termV (f.x - 1)), .int .i64 commit, .int .i64 round, .int .i64 0, .int .i64 0, .int .i64 0, .int .i64 0, .int .i64 0, .bool false, .slice A r c, .slice none 0 0]) ∧ OwnE w' w.heap.size w'.heap.size A c (h.p.log.slice f.x 8) ∧ Below w.heap.size w w' := by
  obtain ⟨w1, hw1⟩ : ∃ w1, w1 = ((w.alloc (.cells #[.int .i64 f.n, .int .i64 f.x, .int .i64 f.m, .int .i64 f.r] 42)).alloc (.cells #[.int .i64 h.g, .int .i64 h.t, .int .i64 h.v, .int .i64 h.p.log.base, .int .i64 h.p.log.term, .slice ad.e ne ad.ce, .slice ad.o n0 ad.co, .slice ad.n n1 ad.cn, .slice ad.l n2 ad.cl, .slice ad.s ns ad.cs] 52)).alloc (.cells #[.int .i64 0, .int .i64 0, .int .i64 0, .int .i64 0, .int .i64 0, .int .i64 0, .int .i64 0, .int .i64 0, .int .i64 0, .int .i64 0, .int .i64 0, .int .i64 0, .int .i64 0, .int .i64 0, .bool false, .slice none 0 0, .slice none 0 0] 31) := ⟨_, rfl⟩
  have hq := Nx.start w f h ad ne n0 n1 n2 ns
  have hz : w1.heap.size = w.heap.size + 3 := by rw [hw1]; simp
  rw [← hw1] at hq
  have Q1 := hid hq
  have HW1 := hid hw1
  obtain ⟨b3, hb3⟩ : ∃ b, b = w1.heap.size := ⟨_, rfl⟩
  have HB3 := hid hb3
  have hst0 := Im.stNew w1 31 17 info_msgV #[.int .i64 0, .int .i64 0, .int .i64 0, .int .i64 0, .int .i64 0, .int .i64 0, .int .i64 0, .int .i64 0, .int .i64 0, .int .i64 0, .int .i64 0, .int .i64 0, .int .i64 0, .int .i64 0, .bool false, .slice none 0 0, .slice none 0 0] #[.int .i64 0, .int .i64 id, .int .i64 f.n, .int .i64 h.g, .int .i64 h.t, .int .i64 0, .int .i64 0, .int .i64 0, .int .i64 round, .int .i64 0, .int .i64 0, .int .i64 0, .int .i64 0, .int .i64 0, .bool false, .slice none 0 0, .slice none 0 0] rfl rfl (by simp [Value.oneCell'])
  obtain ⟨w2, hw2⟩ : ∃ w2, w2 = w1.alloc (.cells #[.int .i64 0, .int .i64 id, .int .i64 f.n, .int .i64 h.g, .int .i64 h.t, .int .i64 0, .int .i64 0, .int .i64 0, .int .i64 round, .int .i64 0, .int .i64 0, .int .i64 0, .int .i64 0, .int .i64 0, .bool false, .slice none 0 0, .slice none 0 0] 31) := ⟨_, rfl⟩
  have hq2 := NR.start w w1 f h ad ne n0 n1 n2 ns id round hq hz
  rw [← hw2, ← hb3] at hq2
  rw [← hw2] at hst0
  have R2 := hid hq2
  have HLG : Hid (∀ W, Below w.heap.size w W → LgIs W W.heap.size h.p.log ad.e ad.ce) := hid (fun W hW => ⟨(hp.es.below hW).more hW.size, hp.re.1, hp.re.2, hp.num⟩)
  have HOK := hid (And.intro hok hfew)
  obtain ⟨x1, x2⟩ := hpl.x
  have hwr : IntKind.i64.wrap (f.x - 1) = f.x - 1 := by rw [IntKind.wrap_i64]; omega
  obtain ⟨tv, htv⟩ : ∃ t, h.p.log.termV (f.x - 1) = t := ⟨_, rfl⟩
  obtain ⟨hv, hhv⟩ : ∃ b, h.p.log.has (f.x - 1) = b := ⟨_, rfl⟩
  have HT1 : Hid (∀ W, Below w.heap.size w W → Calls Try.prog 56 #[.agg #[.int .i64 h.p.log.base, .int .i64 h.p.log.term, .slice ad.e ne ad.ce], .int .i64 (f.x - 1)] W fun e w' => e = .returned (.tuple #[.int .i64 tv, .bool hv]) ∧ Below W.heap.size W w') := hid (fun W hW => by
    have := refTerm_any W.heap.size h.p.log ad.e ad.ce (f.x - 1) hok W (HLG.out W hW) (Nat.le_refl _)
    rw [e9, htv, hhv] at this
    exact this)
  have HSL : Hid (∀ W, Below w.heap.size w W → Calls Try.prog 57 #[.agg #[.int .i64 h.p.log.base, .int .i64 h.p.log.term, .slice ad.e ne ad.ce], .int .i64 f.x, .int .i64 8] W fun e w' => ∃ A' c', e = .returned (.slice A' r c') ∧ OwnE w' W.heap.size w'.heap.size A' c' (h.p.log.slice f.x 8) ∧ Below W.heap.size W w') := hid (fun W hW => by
    have := refSlice_any W.heap.size h.p.log ad.e ad.ce f.x 8 hok hfew W (HLG.out W hW) (Nat.le_refl _)
    rw [e9, hr] at this
    exact this)
  rw [htv]
  obtain ⟨xm, hxm⟩ : ∃ x, f.x - 1 = x := ⟨_, rfl⟩
  rw [hxm] at HT1 hwr
  rw [hxm]
  have HXM := hid hxm
  obtain ⟨w3, hw3⟩ : ∃ W, W = w2.setCell ⟨b3, 0, none⟩ (.int .i64 3) := ⟨_, rfl⟩
  have Rw3 : Hid (NR w w3 f h ad ne n0 n1 n2 ns b3 #[.int .i64 3, .int .i64 id, .int .i64 f.n, .int .i64 h.g, .int .i64 h.t, .int .i64 0, .int .i64 0, .int .i64 0, .int .i64 round, .int .i64 0, .int .i64 0, .int .i64 0, .int .i64 0, .int .i64 0, .bool false, .slice none 0 0, .slice none 0 0]) := hid (by rw [hw3]; exact R2.out.set 0 _)
  have Hw3 := hid hw3
  clear hw3
  obtain ⟨w4, hw4⟩ : ∃ W, W = w3.setCell ⟨b3, 5, none⟩ (.int .i64 xm) := ⟨_, rfl⟩
  have Rw4 : Hid (NR w w4 f h ad ne n0 n1 n2 ns b3 #[.int .i64 3, .int .i64 id, .int .i64 f.n, .int .i64 h.g, .int .i64 h.t, .int .i64 xm, .int .i64 0, .int .i64 0, .int .i64 round, .int .i64 0, .int .i64 0, .int .i64 0, .int .i64 0, .int .i64 0, .bool false, .slice none 0 0, .slice none 0 0]) := hid (by rw [hw4]; exact Rw3.out.set 5 _)
  have Hw4 := hid hw4
  clear hw4
  obtain ⟨⟨l0, l1⟩, ⟨l2, l3, l4, l5⟩, l6, l7⟩ := Q1.out.lds
  clear e9 hr hok hfew hp hw1 hw2 hq hq2 hz hb3 hpl htv hhv
  go_enter Try.func28, Try.ntmps28
  go_upto_region 1 with fail
  rw [← HW1.out]
  go_upto_region 2 with fail
  rw [← HB3.out]
  clear l0 l1 l2 l3 l4 l5 l6 l7 hst0 HB3 HW1
  obtain ⟨⟨l0, l1⟩, ⟨l2, l3, l4, l5⟩, l6, l7⟩ := R2.out.nx.lds
  obtain ⟨z0, z1⟩ := R2.out.fz 0
  go_upto_region 9 with fail
  rw [← Hw3.out]
  clear z0 z1 l0 l1 l2 l3 l4 l5 l6 l7 hx
  obtain ⟨⟨l0, l1⟩, ⟨l2, l3, l4, l5⟩, l6, l7⟩ := Rw3.out.nx.lds
  obtain ⟨z0, z1⟩ := Rw3.out.fz 5
  go_upto_region 10 with fail
  rw [← Hw4.out]
  clear z0 z1 l0 l1 l2 l3 l4 l5 l6 l7
  obtain ⟨⟨l0, l1⟩, ⟨l2, l3, l4, l5⟩, l6, l7⟩ := Rw4.out.nx.lds
  go_wp2_with fail
  refine (HT1.out w4 Rw4.out.nx.bel).mono ?_
  rintro e w5 ⟨rfl, hb5⟩
  have Rw5 := hid (Rw4.out.keep hb5)
  clear hb5 l0 l1 l2 l3 l4 l5 l6 l7 HT1
  obtain ⟨w6, hw6⟩ : ∃ W, W = w5.setCell ⟨b3, 6, none⟩ (.int .i64 tv) := ⟨_, rfl⟩
  have Rw6 : Hid (NR w w6 f h ad ne n0 n1 n2 ns b3 #[.int .i64 3, .int .i64 id, .int .i64 f.n, .int .i64 h.g, .int .i64 h.t, .int .i64 xm, .int .i64 tv, .int .i64 0, .int .i64 round, .int .i64 0, .int .i64 0, .int .i64 0, .int .i64 0, .int .i64 0, .bool false, .slice none 0 0, .slice none 0 0]) := hid (by rw [hw6]; exact Rw5.out.set 6 _)
  have Hw6 := hid hw6
  clear hw6
  obtain ⟨w7, hw7⟩ : ∃ W, W = w6.setCell ⟨b3, 7, none⟩ (.int .i64 commit) := ⟨_, rfl⟩
  have Rw7 : Hid (NR w w7 f h ad ne n0 n1 n2 ns b3 #[.int .i64 3, .int .i64 id, .int .i64 f.n, .int .i64 h.g, .int .i64 h.t, .int .i64 xm, .int .i64 tv, .int .i64 commit, .int .i64 round, .int .i64 0, .int .i64 0, .int .i64 0, .int .i64 0, .int .i64 0, .bool false, .slice none 0 0, .slice none 0 0]) := hid (by rw [hw7]; exact Rw6.out.set 7 _)
  have Hw7 := hid hw7
  clear hw7
  go_upto_region 11 with fail
  obtain ⟨z0, z1⟩ := Rw5.out.fz 6
  go_upto_region 12 with fail
  rw [← Hw6.out]
  clear z0 z1
  obtain ⟨z0, z1⟩ := Rw6.out.fz 7
  go_upto_region 13 with fail
  rw [← Hw7.out]
  clear z0 z1
  obtain ⟨⟨l0, l1⟩, ⟨l2, l3, l4, l5⟩, l6, l7⟩ := Rw7.out.nx.lds
  go_wp2_with fail
  refine (HSL.out w7 Rw7.out.nx.bel).mono ?_
  rintro e w8 ⟨A, c, rfl, ho8, hb8⟩
  have Rw8 := hid (Rw7.out.keep hb8)
  have O8 := hid (And.intro ho8 hb8.size)
  clear hb8 ho8 l0 l1 l2 l3 l4 l5 l6 l7 HSL
  obtain ⟨w9, hw9⟩ : ∃ W, W = w8.setCell ⟨b3, 15, none⟩ (.slice A r c) := ⟨_, rfl⟩
  have R9 : NR w w9 f h ad ne n0 n1 n2 ns b3 #[.int .i64 3, .int .i64 id, .int .i64 f.n, .int .i64 h.g, .int .i64 h.t, .int .i64 xm, .int .i64 tv, .int .i64 commit, .int .i64 round, .int .i64 0, .int .i64 0, .int .i64 0, .int .i64 0, .int .i64 0, .bool false, .slice A r c, .slice none 0 0] := by rw [hw9]; exact Rw8.out.set 15 _
  have ho9 : OwnE w9 w7.heap.size w8.heap.size A c (h.p.log.slice f.x 8) := by
    rw [hw9]
    exact O8.out.1.keep (Turned.one w8 b3 15 _) (fun k hk hB => by have h1 := hB.1; have h3 := row_lt Rw7.out.m; omega)
  have z9 : w8.heap.size ≤ w9.heap.size := by rw [hw9]; simp
  obtain ⟨z2, w10, z3, hr10, hB10, hT10⟩ := R9.done rfl (by simp [Value.oneCell'])
  have HO := hid (And.intro hr10 (And.intro ((ho9.keep hT10 (fun k hk hB => by have h1 := hB.1; have h3 := row_lt Rw7.out.nx.rm; omega)).wide Rw7.out.nx.bel.size (Nat.le_trans z9 hT10.size)) hB10))
  have HW9 := hid hw9
  obtain ⟨z0, z1⟩ := Rw8.out.fz 15
  clear hw9 R9 ho9 hr10 hB10 hT10 O8 z9
  go_upto_region 14 with fail
  rw [← HW9.out]
  clear z0 z1
  go_wp2_with fail
  refine bodyPost_ret (results_cell_row rfl _ _ (w.heap.size + 2) _ _ _ _ rfl HO.out.1 Try.underlying31 rfl (by rw [info_msgV]; rfl)) rfl ?_
  exact ⟨A, c, rfl, HO.out.2⟩
end Go.Proofs.Ytkmbkihfdilmbaa.Fw
namespace Go.Proofs.Ytkmbkihfdilmbaa
open Go Go.RowKit
set_option maxRecDepth 100000
set_option linter.unusedVariables false
structure Gp where
  p : World → Value → Prop
  mono : ∀ w w' v, p w v → Below w.heap.size w w' → p w' v
def Gp.any : Gp := ⟨fun _ _ => True, fun _ _ _ _ _ => trivial⟩
def Gp.is (v0 : Value) : Gp := ⟨fun _ v => v = v0, fun _ _ _ h _ => h⟩
def Gp.row (lo : Nat) (n : Nat) (cs : Array Value) (t : TypeId) : Gp := ⟨fun w v => ∃ b, lo ≤ b ∧ v = .slice (some ⟨b, 0, none⟩) n n ∧ w.heap[b]? = some (.cells cs t (0, 0)), fun w w' v ⟨b, h0, h1, h2⟩ hb => ⟨b, h0, h1, (hb.block b (Array.getElem?_eq_some_iff.1 h2).1).trans h2⟩⟩
def dstsN (ops : Array Oper) (n : Nat) : List Nat := (ops.toList.take n).filterMap (·.dst)
structure Jg (H : Nat → Gp) (ops : Array Oper) (n : Nat) (a0 : Act) (w0 : World) (listed : Array Bool) (a : Act) (w : World) : Prop where
  size : a.tmps.size = a0.tmps.size
  defers : a.defers = a0.defers
  keep : ∀ s, s ∉ dstsN ops n → a.eval (.tmp s) = a0.eval (.tmp s)
  lsize : listed.size = ops.size
  slots : ∀ j o d, ops[j]? = some o → o.dst = some d → listed.getD j false = true → (H j).p w (a.eval (.tmp d))
  clos : ∀ j o, ops[j]? = some o → listed.getD j false = true → ∀ e ∈ o.after, Region.binds .any e = true → listed.getD e.on false = true
  bel : Below w0.heap.size w0 w
  tail : ∀ j, n ≤ j → listed.getD j false = false
theorem mem_dsts {ops : Array Oper} {n j d : Nat} {o : Oper} (hj : ops[j]? = some o) (hd : o.dst = some d) (hn : j < n) : d ∈ dstsN ops n := by
  refine List.mem_filterMap.2 ⟨o, ?_, hd⟩
  have : (ops.toList.take n)[j]? = some o := by rw [List.getElem?_take, if_pos hn, Array.getElem?_toList]; exact hj
  exact List.mem_of_getElem? this
theorem dst_once {l : List Oper} (h : (l.filterMap (·.dst)).Nodup) : ∀ {i j : Nat} {o o' : Oper} {d : Nat}, l[i]? = some o → l[j]? = some o' → o.dst = some d → o'.dst = some d → i = j := by
  induction l with
  | nil => intro i j o o' d h1; simp at h1
  | cons x l ih =>
    intro i j o o' d h1 h2 h3 h4
    have hm : ∀ {k : Nat} {y : Oper}, l[k]? = some y → y.dst = some d → d ∈ l.filterMap (·.dst) := fun hk hy => List.mem_filterMap.2 ⟨_, List.mem_of_getElem? hk, hy⟩
    have hl : (l.filterMap (·.dst)).Nodup := by
      rcases hx : x.dst with _ | dx
      · rw [List.filterMap_cons_none hx] at h; exact h
      · rw [List.filterMap_cons_some hx] at h; exact (List.nodup_cons.1 h).2
    rcases i with _ | i
    · rcases j with _ | j
      · rfl
      · simp at h1 h2
        subst h1
        rw [List.filterMap_cons_some h3] at h
        exact absurd (hm h2 h4) (List.nodup_cons.1 h).1
    · rcases j with _ | j
      · simp at h1 h2
        subst h2
        rw [List.filterMap_cons_some h4] at h
        exact absurd (hm h1 h3) (List.nodup_cons.1 h).1
      · simp at h1 h2
        rw [ih hl h1 h2 h3 h4]
theorem once_of {ops : Array Oper} {n i j d : Nat} {o o' : Oper} (h : (dstsN ops n).Nodup) (hi : ops[i]? = some o) (hj : ops[j]? = some o') (hin : i < n) (hjn : j < n) (h1 : o.dst = some d) (h2 : o'.dst = some d) : i = j := by
  have t : ∀ {k : Nat} {y : Oper}, ops[k]? = some y → k < n → (ops.toList.take n)[k]? = some y := fun hk hn => by rw [List.getElem?_take, if_pos hn, Array.getElem?_toList]; exact hk
  exact dst_once h (t hi hin) (t hj hjn) h1 h2
section
variable {P : Program} {H : Nat → Gp} {ops : Array Oper} {n : Nat} {a0 : Act} {w0 : World} {Q : Exit → Act → World → Prop}
theorem Jg.step (hn : (dstsN ops n).Nodup) (hb : ∀ d ∈ dstsN ops n, d < a0.tmps.size) {listed : Array Bool} {a : Act} {w w' : World} {v : Value} (h : Jg H ops n a0 w0 listed a w) {i : Nat} {o : Oper} (hi : ops[i]? = some o) (hin : i < n) {d : Nat} (hd : o.dst = some d) (ha : ∀ e ∈ o.after, Region.binds .any e = true → listed.getD e.on false = true)
    (hv : (H i).p w' v) (hw : Below w.heap.size w w') : Jg H ops n a0 w0 (listed.setIfInBounds i true) (a.put o.dst v) w' := by
  have his : i < listed.size := by rw [h.lsize]; exact (Array.getElem?_eq_some_iff.1 hi).1
  have hdm := mem_dsts hi hd hin
  refine ⟨by rw [hd]; simp [Act.put, h.size], by rw [hd]; exact h.defers, fun s hs => ?_, by simp [h.lsize], fun m om dm hm hdm' hl => ?_, fun m om hm hl e he hb => ?_, h.bel.trans (hw.mono h.bel.size), fun m hm => ?_⟩
  · rw [evput_ne a v (by rw [hd]; intro e; injection e with e; subst e; exact hs hdm)]
    exact h.keep s hs
  · rw [listed_set _ _ _ his] at hl
    by_cases e : m = i
    · subst e
      rw [hi] at hm
      obtain rfl := Option.some.inj hm
      rw [hd] at hdm'
      obtain rfl := Option.some.inj hdm'
      rw [hd, evput_self a v (by rw [h.size]; exact hb _ hdm)]
      exact hv
    · rw [if_neg e] at hl
      have hmn : m < n := by
        rcases Nat.lt_or_ge m n with h' | h'
        · exact h'
        · rw [h.tail m h'] at hl; cases hl
      rw [evput_ne a v (fun e' => e (once_of hn hm hi hmn hin hdm' (by rw [e'])))]
      exact (H m).mono _ _ _ (h.slots m om dm hm hdm' hl) hw
  · rw [listed_set _ _ _ his] at hl ⊢
    by_cases e1 : e.on = i
    · rw [if_pos e1]
    · rw [if_neg e1]
      by_cases e2 : m = i
      · subst e2
        rw [hi] at hm
        obtain rfl := Option.some.inj hm
        exact ha e he hb
      · rw [if_neg e2] at hl
        exact h.clos m om hm hl e he hb
  · rw [listed_set _ _ _ his, if_neg (by omega)]; exact h.tail m hm
end
end Go.Proofs.Ytkmbkihfdilmbaa
namespace Go.Proofs.Ytkmbkihfdilmbaa
open Go Go.RowKit
set_option maxRecDepth 100000
set_option linter.unusedVariables false
section
variable {P : Program} {a : Act} {w w' : World} {ty : TypeId} {R : Value → World → Prop} {op : Op} {v : Value}
end
def Gp.rowIn (lo : Nat) (g : Nat → Value) (cs : Array Value) (t : TypeId) : Gp := ⟨fun w v => ∃ b, lo ≤ b ∧ v = g b ∧ w.heap[b]? = some (.cells cs t (0, 0)), fun w w' v ⟨b, h0, h1, h2⟩ hb => ⟨b, h0, h1, (hb.block b (Array.getElem?_eq_some_iff.1 h2).1).trans h2⟩⟩
end Go.Proofs.Ytkmbkihfdilmbaa
namespace Go.Proofs.Ytkmbkihfdilmbaa.Vo
open Go Go.RowKit
open Rl (En Lg)
open Ms (M)
open Im (ldX stX)
set_option maxRecDepth 100000
set_option linter.unusedVariables false
theorem isInts_row {w : World} {b : Nat} {t : TypeId} (l : List Int) (hs : ∀ x ∈ l, InInt x) (h : w.heap[b]? = some (.cells (ints l).toArray t (0, 0))) : IsInts w w.heap.size (some ⟨b, 0, none⟩) l :=
  ⟨hs, fun k hk => ⟨b, 0, rfl, row_lt' h, fun i hi => by rw [Nat.zero_add, row_cell h i, List.getElem?_toArray, ints_get l i hi]⟩⟩
def exC : Qu.Cf := ⟨[1, 2, 3], [3, 5], [7]⟩
def exV (b1 b2 b3 : Nat) : Value := .agg #[.slice (some ⟨b1, 0, none⟩) 3 3, .slice (some ⟨b2, 0, none⟩) 2 2, .slice (some ⟨b3, 0, none⟩) 1 1]
def Gp.seven : Gp := ⟨fun w v => ∃ A, v = .agg #[.int .i64 5, .int .i64 2, .slice A 2 2] ∧ LgIs w w.heap.size sevenL A 2, fun w w' v ⟨A, h0, h1⟩ hb => ⟨A, h0, (h1.below hb).more hb.size⟩⟩
def Gp.exC : Gp := ⟨fun w v => ∃ b1 b2 b3, v = exV b1 b2 b3 ∧ Rw w b1 #[.int .i64 1, .int .i64 2, .int .i64 3] 3 ∧ Rw w b2 #[.int .i64 3, .int .i64 5] 3 ∧ Rw w b3 #[.int .i64 7] 3, fun w w' v ⟨b1, b2, b3, h0, h1, h2, h3⟩ hb => ⟨b1, b2, b3, h0, h1.keep hb, h2.keep hb, h3.keep hb⟩⟩
def HA (gn i : Nat) (x : Int) : Nat → Gp
  | 0 => Gp.is (.slice (some ⟨gn, 0, none⟩) 14 14)
  | 1 => Gp.is (.int .i64 i)
  | 2 => Gp.is (.pointer (some ⟨gn, i, none⟩))
  | 3 => Gp.is (.int .i64 x)
  | 4 => Gp.is (.slice (some ⟨gn, 0, none⟩) 14 14)
  | 5 => Gp.is (.int .i64 i)
  | 6 => Gp.is (.pointer (some ⟨gn, i, none⟩))
  | 7 => Gp.is (.int .i64 x)
  | 8 => Gp.is (.slice (some ⟨gn, 0, none⟩) 14 14)
  | 9 => Gp.is (.int .i64 i)
  | 10 => Gp.is (.pointer (some ⟨gn, i, none⟩))
  | 11 => Gp.is (.int .i64 x)
  | 12 => Gp.seven
  | 13 => Gp.row 0 3 #[.int .i64 1, .int .i64 2, .int .i64 3] 3
  | 14 => Gp.row 0 2 #[.int .i64 3, .int .i64 5] 3
  | 15 => Gp.row 0 1 #[.int .i64 7] 3
  | _ => Gp.exC
end Go.Proofs.Ytkmbkihfdilmbaa.Vo
namespace Go.Proofs.Ytkmbkihfdilmbaa.Fw
open Go Go.RowKit
open Ms (M)
open Rl (En Lg)
open Im (ldX stX Hd Pt Ad IsPt encCf)
open Vo (Rw loadAt_msgV storeAt_msgV info_msgV boxes)
set_option maxRecDepth 100000
set_option linter.unusedVariables false
def exP : Pt := ⟨⟨4, 2, [⟨2, 0, []⟩, ⟨3, 0, []⟩, ⟨3, 0, []⟩]⟩, ⟨[1, 3], [], []⟩, [7]⟩
def exH : Hd := ⟨1, 4, 0, exP⟩
def exV (a o s : Nat) : Value := .agg #[.int .i64 1, .int .i64 4, .int .i64 0, .int .i64 4, .int .i64 2, .slice (some ⟨a, 0, none⟩) 3 3, .slice (some ⟨o, 0, none⟩) 2 2, .slice none 0 0, .slice none 0 0, .slice (some ⟨s, 0, none⟩) 1 1]
def exA (a o s : Nat) : Ad := ⟨some ⟨a, 0, none⟩, 3, some ⟨o, 0, none⟩, 2, none, 0, none, 0, some ⟨s, 0, none⟩, 1⟩
theorem results_cells {fn : Func} {p q : Tmp} {ty tz : TypeId} {n m : Nat} {d d' : TypeDesc} (h : fn.results = #[.cell p ty, .cell q tz]) (hi : (Try.prog.info? ty).map (·.size) = some n) (hu : Try.prog.underlying ty = some d) (hd : d.isRow = true) (hi' : (Try.prog.info? tz).map (·.size) = some m) (hu' : Try.prog.underlying tz = some d') (hd' : d'.isRow = true) (tmps : Array Value) (w : World) (g g' : Nat) (t t' : TypeId) (cs cs' : Array Value) (fr fr' : Nat × Nat)
    (hp : tmps.getD p undef = .pointer (some ⟨g, 0, none⟩)) (hg : w.heap[g]? = some (.cells cs t fr)) (hs : cs.size = n) (hq : tmps.getD q undef = .pointer (some ⟨g', 0, none⟩)) (hg' : w.heap[g']? = some (.cells cs' t' fr')) (hs' : cs'.size = m) :
    (results fn tmps).run Try.prog w = .ok (.tuple #[.agg cs, .agg cs']) w := by
  have hl := run_loadVar_row w g t ty cs fr _ hg hu (by cases d <;> first | rfl | cases hd) (by rw [hi, hs])
  have hl' := run_loadVar_row w g' t' tz cs' fr' _ hg' hu' (by cases d' <;> first | rfl | cases hd') (by rw [hi', hs'])
  have hp' : tmps[p]?.getD undef = .pointer (some ⟨g, 0, none⟩) := by simpa using hp
  have hq' : tmps[q]?.getD undef = .pointer (some ⟨g', 0, none⟩) := by simpa using hq
  simp [results, h, hp', hq', asAddr, hl, hl']
theorem ex_is {W : World} {a o s : Nat} (ra : Rw W a #[.int .i64 2, .int .i64 0, .slice none 0 0, .int .i64 3, .int .i64 0, .slice none 0 0, .int .i64 3, .int .i64 0, .slice none 0 0] 64) (ro : Rw W o #[.int .i64 1, .int .i64 3] 3) (rs : Rw W s #[.int .u8 7] 5) : IsPt W W.heap.size exP (exA a o s) := by
  have cc : ∀ j, W.cell? ⟨a, j, none⟩ = _ := fun j => row_cell ra j
  refine ⟨⟨by simp [exP, InInt], fun k hk => ⟨a, 0, rfl, row_lt ra, fun i hi => ?_⟩⟩, Vo.isInts_row [1, 3] (by simp [InInt]) ro, IsInts.nil, IsInts.nil, Im.bytes_at [7] (by simp) rs, ⟨⟨(show 3 ≤ 3 by decide), (show 3 ≤ maxLen by decide)⟩, by simp [exA]⟩, ⟨⟨(show 2 ≤ 2 by decide), (show 2 ≤ maxLen by decide)⟩, by simp [exA]⟩, ⟨⟨(show 0 ≤ 0 by decide), (show 0 ≤ maxLen by decide)⟩, by simp [exA]⟩, ⟨⟨(show 0 ≤ 0 by decide), (show 0 ≤ maxLen by decide)⟩, by simp [exA]⟩, ⟨⟨(show 1 ≤ 1 by decide), (show 1 ≤ maxLen by decide)⟩, by simp [exA]⟩, by simp [exP, InInt]⟩
  have hi3 : i < 3 := hi
  rcases i with _ | _ | _ | i
  · exact ⟨none, 0, cc 0, cc 1, cc 2, IsBytes.nil, by simp [exP]⟩
  · exact ⟨none, 0, cc 3, cc 4, cc 5, IsBytes.nil, by simp [exP]⟩
  · exact ⟨none, 0, cc 6, cc 7, cc 8, IsBytes.nil, by simp [exP]⟩
  · omega
set_option maxHeartbeats 6400000 in
theorem example_any (w : World) :
    Calls Try.prog 31 #[] w fun e w' => ∃ a o s, e = .returned (.tuple #[.agg #[.int .i64 3, .int .i64 8, .int .i64 2, .int .i64 5], exV a o s]) ∧ IsPt w' w'.heap.size exP (exA a o s) ∧ Below w.heap.size w w' := by
  go_enter Try.func31, Try.ntmps31
  go_wp2_with fail
  go_region_with (fail)
  all_goals
    (go_wp2_with fail
     first
       | (refine bodyPost_ret (results_cells rfl info_flow Try.underlying42 rfl Im.info_hard Try.underlying52 rfl _ _ w.heap.size (w.heap.size + 1) _ _ _ _ _ _ rfl (show (World.drew _).heap[w.heap.size]? = _ from Im.at_old (Im.at_old (Im.at_old (Im.at_old (Im.at_old (Im.at_new rfl)))))) rfl rfl (show (World.drew _).heap[w.heap.size + 1]? = _ from Im.at_old (Im.at_old (Im.at_old (Im.at_old (Im.at_new (by simp)))))) rfl) rfl ?_
          refine ⟨w.heap.size + 1 + 1, w.heap.size + 1 + 1 + 1 + 1, w.heap.size + 1 + 1 + 1 + 1 + 1, rfl, ex_is (show (World.drew _).heap[w.heap.size + 1 + 1]? = _ from Im.at_old (Im.at_old (Im.at_old (Im.at_new (by simp))))) (show (World.drew _).heap[w.heap.size + 1 + 1 + 1 + 1]? = _ from Im.at_old (Im.at_new (by simp))) (show (World.drew _).heap[w.heap.size + 1 + 1 + 1 + 1 + 1]? = _ from Im.at_new (by simp)), ?_⟩
          exact (((((((Below.refl _ w).alloc (by simp) _).alloc (by simp) _).alloc (by simp; omega) _).alloc (by simp; omega) _).alloc (by simp; omega) _).alloc (by simp; omega) _).drew)
       | (refine bodyPost_ret (results_cells rfl info_flow Try.underlying42 rfl Im.info_hard Try.underlying52 rfl _ _ w.heap.size (w.heap.size + 1) _ _ _ _ _ _ rfl (show (World.drew _).heap[w.heap.size]? = _ from Im.at_old (Im.at_old (Im.at_old (Im.at_old (Im.at_old (Im.at_new rfl)))))) rfl rfl (show (World.drew _).heap[w.heap.size + 1]? = _ from Im.at_old (Im.at_old (Im.at_old (Im.at_old (Im.at_new (by simp)))))) rfl) rfl ?_
          refine ⟨w.heap.size + 1 + 1, w.heap.size + 1 + 1 + 1 + 1 + 1, w.heap.size + 1 + 1 + 1 + 1, rfl, ex_is (show (World.drew _).heap[w.heap.size + 1 + 1]? = _ from Im.at_old (Im.at_old (Im.at_old (Im.at_new (by simp))))) (show (World.drew _).heap[w.heap.size + 1 + 1 + 1 + 1 + 1]? = _ from Im.at_new (by simp)) (show (World.drew _).heap[w.heap.size + 1 + 1 + 1 + 1]? = _ from Im.at_old (Im.at_new (by simp))), ?_⟩
          exact (((((((Below.refl _ w).alloc (by simp) _).alloc (by simp) _).alloc (by simp; omega) _).alloc (by simp; omega) _).alloc (by simp; omega) _).alloc (by simp; omega) _).drew))
end Go.Proofs.Ytkmbkihfdilmbaa.Fw
namespace Go.Proofs.Ytkmbkihfdilmbaa.Fw
open Go Go.RowKit
open Ms (M)
open Rl (En Lg)
open Im (ldX stX Hd Pt Ad IsPt encCf)
open Vo (Rw loadAt_msgV storeAt_msgV info_msgV boxes)
set_option maxRecDepth 100000
set_option linter.unusedVariables false
attribute [local go_sem ↓] loadAt_msgV storeAt_msgV loadAt_flow storeAt_flow Im.loadAt_hard Im.storeAt_hard
def exF : Fl := ⟨3, 8, 2, 5⟩
theorem exF_pl : Pl exF := ⟨by decide, by decide, by decide, by decide⟩
theorem heardC (K F i R : Int) (ok : Bool) (n x m r : Int) (hq : heard exF K F i R ok = ⟨n, x, m, r⟩) (hi : 0 ≤ i ∧ i ≤ 1099511627776) (w : World) :
    Calls Try.prog 19 #[.agg #[.int .i64 3, .int .i64 8, .int .i64 2, .int .i64 5], .agg #[.int .i64 K, .int .i64 F, .int .i64 0, .int .i64 0, .int .i64 0, .int .i64 i, .int .i64 0, .int .i64 0, .int .i64 R, .int .i64 0, .int .i64 0, .int .i64 0, .int .i64 0, .int .i64 0, .bool ok, .slice none 0 0, .slice none 0 0]] w fun e w' => e = .returned (.agg #[.int .i64 n, .int .i64 x, .int .i64 m, .int .i64 r]) ∧ Below w.heap.size w w' := by
  have := heard_any exF exF_pl ⟨K, F, 0, 0, 0, i, 0, 0, R, 0, 0, 0, 0, 0, ok, [], []⟩ hi none 0 none 0 w
  rw [show heard exF K F i R ok = ⟨n, x, m, r⟩ from hq] at this
  exact this
theorem exH_ok : Rl.Ok exH.p.log ∧ Rl.Few exH.p.log.es ∧ Fs exH.p := ⟨by unfold Rl.Ok exH exP; simp, by unfold Rl.Few exH exP; simp, ⟨by decide, by decide, by decide, by decide⟩⟩
theorem nextEC (x : Int) (hx : 4 < x ∧ x ≤ 100) (xm tv : Int) (k : Nat) (hxm : x - 1 = xm) (htv : exP.log.termV xm = tv) (hk : (exP.log.slice x 8).length = k) (a o s : Nat) (w : World) (hp : IsPt w w.heap.size exP (exA a o s)) :
    Calls Try.prog 26 #[.agg #[.int .i64 3, .int .i64 x, .int .i64 0, .int .i64 0], .int .i64 1, .agg #[.int .i64 1, .int .i64 4, .int .i64 0, .int .i64 4, .int .i64 2, .slice (some ⟨a, 0, none⟩) 3 3, .slice (some ⟨o, 0, none⟩) 2 2, .slice none 0 0, .slice none 0 0, .slice (some ⟨s, 0, none⟩) 1 1], .int .i64 5, .int .i64 2] w fun e w' => ∃ A c, e = .returned (.agg #[.int .i64 3, .int .i64 1, .int .i64 3, .int .i64 1, .int .i64 4, .int .i64 xm, .int .i64 tv, .int .i64 5, .int .i64 2, .int .i64 0, .int .i64 0, .int .i64 0, .int .i64 0, .int .i64 0, .bool false, .slice A k c, .slice none 0 0]) ∧ Below w.heap.size w w' := by
  subst hxm
  have h := nextE_any ⟨3, x, 0, 0⟩ ⟨(show (0 : Int) ≤ 3 ∧ (3 : Int) ≤ 1099511627777 by decide), ⟨by show 0 ≤ x; omega, by show x ≤ _; omega⟩, (show (0 : Int) ≤ 0 ∧ (0 : Int) ≤ 1099511627777 by decide), (show (0 : Int) ≤ 0 ∧ (0 : Int) ≤ 1099511627777 by decide)⟩ 1 5 2 exH (exA a o s) 3 2 0 0 1 k rfl hk exH_ok.1 exH_ok.2.1 (show ¬ x ≤ 4 by omega) w hp
  refine h.mono ?_
  rintro e w' ⟨A, c, rfl, _, hb⟩
  exact ⟨A, c, by rw [← htv]; rfl, hb⟩
theorem boxes2 (w : World) (a o s : Nat) : ∃ W1 W2, (stX 42 (.pointer (some ⟨w.heap.size, 0, none⟩)) (.agg #[.int .i64 3, .int .i64 8, .int .i64 2, .int .i64 5])).run Try.prog ((w.alloc (.cells #[.int .i64 0, .int .i64 0, .int .i64 0, .int .i64 0] 42)).alloc (.cells #[.int .i64 0, .int .i64 0, .int .i64 0, .int .i64 0, .int .i64 0, .slice none 0 0, .slice none 0 0, .slice none 0 0, .slice none 0 0, .slice none 0 0] 52)) = .ok () W1 ∧ (stX 52 (.pointer (some ⟨w.heap.size + 1, 0, none⟩)) (.agg #[.int .i64 1, .int .i64 4, .int .i64 0, .int .i64 4, .int .i64 2, .slice (some ⟨a, 0, none⟩) 3 3, .slice (some ⟨o, 0, none⟩) 2 2, .slice none 0 0, .slice none 0 0, .slice (some ⟨s, 0, none⟩) 1 1])).run Try.prog W1 = .ok () W2 ∧ Rw W2 w.heap.size #[.int .i64 3, .int .i64 8, .int .i64 2, .int .i64 5] 42 ∧ Rw W2 (w.heap.size + 1) #[.int .i64 1, .int .i64 4, .int .i64 0, .int .i64 4, .int .i64 2, .slice (some ⟨a, 0, none⟩) 3 3, .slice (some ⟨o, 0, none⟩) 2 2, .slice none 0 0, .slice none 0 0, .slice (some ⟨s, 0, none⟩) 1 1] 52 ∧ Below w.heap.size w W2 := by
  obtain ⟨r0, r1⟩ := Rw.two w #[.int .i64 0, .int .i64 0, .int .i64 0, .int .i64 0] #[.int .i64 0, .int .i64 0, .int .i64 0, .int .i64 0, .int .i64 0, .slice none 0 0, .slice none 0 0, .slice none 0 0, .slice none 0 0, .slice none 0 0] 42 52
  obtain ⟨hb, hz⟩ := boxes w #[.int .i64 0, .int .i64 0, .int .i64 0, .int .i64 0] #[.int .i64 0, .int .i64 0, .int .i64 0, .int .i64 0, .int .i64 0, .slice none 0 0, .slice none 0 0, .slice none 0 0, .slice none 0 0, .slice none 0 0] 42 52
  generalize (w.alloc (.cells #[.int .i64 0, .int .i64 0, .int .i64 0, .int .i64 0] 42)).alloc (.cells #[.int .i64 0, .int .i64 0, .int .i64 0, .int .i64 0, .int .i64 0, .slice none 0 0, .slice none 0 0, .slice none 0 0, .slice none 0 0, .slice none 0 0] 52) = W at *
  have t1 := Im.row_turned W w.heap.size #[.int .i64 3, .int .i64 8, .int .i64 2, .int .i64 5]
  have r1' : Rw (W.setRow w.heap.size #[.int .i64 3, .int .i64 8, .int .i64 2, .int .i64 5]) (w.heap.size + 1) #[.int .i64 0, .int .i64 0, .int .i64 0, .int .i64 0, .int .i64 0, .slice none 0 0, .slice none 0 0, .slice none 0 0, .slice none 0 0, .slice none 0 0] 52 := (t1.block _ (by omega) (by omega)).trans r1
  have r0' : Rw (W.setRow w.heap.size #[.int .i64 3, .int .i64 8, .int .i64 2, .int .i64 5]) w.heap.size #[.int .i64 3, .int .i64 8, .int .i64 2, .int .i64 5] 42 := setRow_heap W w.heap.size _ _ _ _ r0
  have t2 := Im.row_turned (W.setRow w.heap.size #[.int .i64 3, .int .i64 8, .int .i64 2, .int .i64 5]) (w.heap.size + 1) #[.int .i64 1, .int .i64 4, .int .i64 0, .int .i64 4, .int .i64 2, .slice (some ⟨a, 0, none⟩) 3 3, .slice (some ⟨o, 0, none⟩) 2 2, .slice none 0 0, .slice none 0 0, .slice (some ⟨s, 0, none⟩) 1 1]
  refine ⟨_, _, Im.stRow info_flow r0 rfl rfl (by simp [Value.oneCell']), Im.stRow Im.info_hard r1' rfl rfl (by simp [Value.oneCell']), (t2.block _ (row_lt r0') (by omega)).trans r0', setRow_heap _ (w.heap.size + 1) _ _ _ _ r1', ?_⟩
  exact (hb.trans (t1.below hb.size (fun k hk => by omega))).trans (t2.below (Nat.le_trans hb.size t1.size) (fun k hk => by omega))
set_option maxHeartbeats 12800000 in
theorem known_any (w : World) : Calls Try.prog 18 #[] w fun e w' => e = .returned (.bool true) ∧ Below w.heap.size w w' := by
  go_enter Try.func18, Try.ntmps18
  go_wp2_with fail
  refine (example_any w).mono ?_
  rintro e u0 ⟨a, o, s, rfl, hp0, hb0⟩
  unfold exV
  obtain ⟨W1, v0, st1, st2, r1, r2, hb1⟩ := boxes2 u0 a o s
  have P0 : Hid (∀ W, Below v0.heap.size v0 W → (IsPt W W.heap.size exP (exA a o s) ∧ Below w.heap.size w W) ∧ Rw W u0.heap.size #[.int .i64 3, .int .i64 8, .int .i64 2, .int .i64 5] 42 ∧ Rw W (u0.heap.size + 1) #[.int .i64 1, .int .i64 4, .int .i64 0, .int .i64 4, .int .i64 2, .slice (some ⟨a, 0, none⟩) 3 3, .slice (some ⟨o, 0, none⟩) 2 2, .slice none 0 0, .slice none 0 0, .slice (some ⟨s, 0, none⟩) 1 1] 52) := hid (fun W hW => by
    have h1 := hb1.trans (hW.mono hb1.size)
    exact ⟨⟨(hp0.below h1).more h1.size, hb0.trans (h1.mono hb0.size)⟩, r1.keep hW, r2.keep hW⟩)
  obtain ⟨bf, hbf⟩ : ∃ b, b = u0.heap.size := ⟨_, rfl⟩
  rw [← hbf] at P0
  have HBF := hid hbf
  have G0 := hid (Below.refl v0.heap.size v0)
  clear hp0 hb0 r1 r2 hb1 hbf
  go_upto_region 2 with fail
  rw [← HBF.out]
  clear st1 st2 HBF
  have ldf := ldF (P0.out v0 G0.out).2.1 rfl
  go_wp2_with fail
  refine (heardC 4 3 9 4 true 3 10 9 5 (by decide) (by decide) v0).mono ?_
  rintro e u1 ⟨rfl, hb⟩
  have hst := Im.stNew u1 42 4 info_flow #[.int .i64 0, .int .i64 0, .int .i64 0, .int .i64 0] #[.int .i64 3, .int .i64 10, .int .i64 9, .int .i64 5] rfl rfl (by simp [Value.oneCell'])
  obtain ⟨v1, hv⟩ : ∃ W, W = u1.alloc (.cells #[.int .i64 3, .int .i64 10, .int .i64 9, .int .i64 5] 42) := ⟨_, rfl⟩
  rw [← hv] at hst
  have hbb : Below u1.heap.size u1 v1 := by rw [hv]; exact (Below.refl _ _).alloc (Nat.le_refl _) _
  obtain ⟨b3, hbx⟩ : ∃ b, b = u1.heap.size := ⟨_, rfl⟩
  have T3_1 : Hid (Rw v1 b3 #[.int .i64 3, .int .i64 10, .int .i64 9, .int .i64 5] 42) := hid (by rw [hv, hbx]; exact heap_alloc_new u1 _)
  have G1 := hid (G0.out.trans ((hb.trans (hbb.mono hb.size)).mono G0.out.size))
  have HBX := hid hbx
  clear hv hbb hb hbx ldf 
  go_upto_region 3 with fail
  rw [← HBX.out]
  clear hst HBX
  have ldf := ldF (P0.out v1 G1.out).2.1 rfl
  go_wp2_with fail
  refine (heardC 4 3 4 0 false 3 5 2 5 (by decide) (by decide) v1).mono ?_
  rintro e u2 ⟨rfl, hb⟩
  have hst := Im.stNew u2 42 4 info_flow #[.int .i64 0, .int .i64 0, .int .i64 0, .int .i64 0] #[.int .i64 3, .int .i64 5, .int .i64 2, .int .i64 5] rfl rfl (by simp [Value.oneCell'])
  obtain ⟨v2, hv⟩ : ∃ W, W = u2.alloc (.cells #[.int .i64 3, .int .i64 5, .int .i64 2, .int .i64 5] 42) := ⟨_, rfl⟩
  rw [← hv] at hst
  have hbb : Below u2.heap.size u2 v2 := by rw [hv]; exact (Below.refl _ _).alloc (Nat.le_refl _) _
  obtain ⟨b4, hbx⟩ : ∃ b, b = u2.heap.size := ⟨_, rfl⟩
  have T4_2 : Hid (Rw v2 b4 #[.int .i64 3, .int .i64 5, .int .i64 2, .int .i64 5] 42) := hid (by rw [hv, hbx]; exact heap_alloc_new u2 _)
  have T3_2 := hid ((T3_1.out.keep hb).keep hbb)
  have G2 := hid (G1.out.trans ((hb.trans (hbb.mono hb.size)).mono G1.out.size))
  have HBX := hid hbx
  clear hv hbb hb hbx ldf T3_1
  go_upto_region 4 with fail
  rw [← HBX.out]
  clear hst HBX
  have ldh := ldHV (P0.out v2 G2.out).2.2 rfl
  go_wp2_with fail
  refine (nextEC 6 (by decide) 5 2 2 rfl (by decide) (by decide) a o s v2 (P0.out v2 G2.out).1.1).mono ?_
  rintro e u3 ⟨A2, c2, rfl, hb⟩
  have hst := Im.stNew u3 31 17 info_msgV #[.int .i64 0, .int .i64 0, .int .i64 0, .int .i64 0, .int .i64 0, .int .i64 0, .int .i64 0, .int .i64 0, .int .i64 0, .int .i64 0, .int .i64 0, .int .i64 0, .int .i64 0, .int .i64 0, .bool false, .slice none 0 0, .slice none 0 0] #[.int .i64 3, .int .i64 1, .int .i64 3, .int .i64 1, .int .i64 4, .int .i64 5, .int .i64 2, .int .i64 5, .int .i64 2, .int .i64 0, .int .i64 0, .int .i64 0, .int .i64 0, .int .i64 0, .bool false, .slice A2 2 c2, .slice none 0 0] rfl rfl (by simp [Value.oneCell'])
  obtain ⟨v3, hv⟩ : ∃ W, W = u3.alloc (.cells #[.int .i64 3, .int .i64 1, .int .i64 3, .int .i64 1, .int .i64 4, .int .i64 5, .int .i64 2, .int .i64 5, .int .i64 2, .int .i64 0, .int .i64 0, .int .i64 0, .int .i64 0, .int .i64 0, .bool false, .slice A2 2 c2, .slice none 0 0] 31) := ⟨_, rfl⟩
  rw [← hv] at hst
  have hbb : Below u3.heap.size u3 v3 := by rw [hv]; exact (Below.refl _ _).alloc (Nat.le_refl _) _
  obtain ⟨b5, hbx⟩ : ∃ b, b = u3.heap.size := ⟨_, rfl⟩
  have T5_3 : Hid (Rw v3 b5 #[.int .i64 3, .int .i64 1, .int .i64 3, .int .i64 1, .int .i64 4, .int .i64 5, .int .i64 2, .int .i64 5, .int .i64 2, .int .i64 0, .int .i64 0, .int .i64 0, .int .i64 0, .int .i64 0, .bool false, .slice A2 2 c2, .slice none 0 0] 31) := hid (by rw [hv, hbx]; exact heap_alloc_new u3 _)
  have T3_3 := hid ((T3_2.out.keep hb).keep hbb)
  have T4_3 := hid ((T4_2.out.keep hb).keep hbb)
  have G3 := hid (G2.out.trans ((hb.trans (hbb.mono hb.size)).mono G2.out.size))
  have HBX := hid hbx
  clear hv hbb hb hbx ldh T3_2 T4_2
  go_upto_region 5 with fail
  rw [← HBX.out]
  clear hst HBX
  have y3 := ldF T3_3.out rfl
  have y4 := ldF T4_3.out rfl
  have z0 := row_cell T5_3.out 0
  have z5 := row_cell T5_3.out 5
  have z6 := row_cell T5_3.out 6
  have z15 := row_cell T5_3.out 15
  have HB := hid (P0.out v3 G3.out).1.2
  go_wp2_with fail
  go_ret
  exact ⟨rfl, HB.out⟩
end Go.Proofs.Ytkmbkihfdilmbaa.Fw
namespace Go.Proofs.Ytkmbkihfdilmbaa.Ms
open Rl (En)
open Pk (St rdInt rdBlob)
set_option maxRecDepth 100000
set_option linter.unusedVariables false
structure Wf (m : M) : Prop where
  num : ∀ r ∈ nums, -9223372036854775808 ≤ m.num r ∧ m.num r ≤ 9223372036854775807
  es : ∀ e ∈ m.es, (-9223372036854775808 ≤ e.t ∧ e.t ≤ 9223372036854775807) ∧ (-9223372036854775808 ≤ e.k ∧ e.k ≤ 9223372036854775807) ∧ ∀ x ∈ e.d, x < 256
  d : ∀ x ∈ m.d, x < 256
theorem rdBlob_put (l t : List Nat) (h : l.length ≤ 1000000000000) : rdBlob ⟨Pk.enc l.length ++ (l ++ t), false⟩ = (l, ⟨t, false⟩) := by
  have e := Pk.rdInt_enc (l.length : Int) (l ++ t) false (by omega)
  unfold rdBlob
  rw [e, if_neg (by simp; omega)]
  simp
theorem rdE_put (e : En) (t : List Nat) (h : (-9223372036854775808 ≤ e.t ∧ e.t ≤ 9223372036854775807) ∧ (-9223372036854775808 ≤ e.k ∧ e.k ≤ 9223372036854775807)) (hd : e.d.length ≤ 1000000000000) : rdE ⟨encE e ++ t, false⟩ = (e, ⟨t, false⟩) := by
  have e1 : encE e ++ t = Pk.enc e.t ++ (Pk.enc e.k ++ (Pk.enc e.d.length ++ (e.d ++ t))) := by unfold encE; simp
  unfold rdE
  rw [e1, Pk.rdInt_enc _ _ _ h.1, Pk.rdInt_enc _ _ _ h.2, rdBlob_put _ _ hd]
theorem rdEs_put : ∀ (L : List En) (t : List Nat), (∀ e ∈ L, (-9223372036854775808 ≤ e.t ∧ e.t ≤ 9223372036854775807) ∧ (-9223372036854775808 ≤ e.k ∧ e.k ≤ 9223372036854775807)) → (∀ e ∈ L, e.d.length ≤ 1000000000000) → rdEs L.length ⟨L.flatMap encE ++ t, false⟩ = (L, ⟨t, false⟩) := by
  intro L
  induction L with
  | nil => intro t _ _; rfl
  | cons e L ih =>
    intro t h hd
    show ((rdE _).1 :: (rdEs L.length (rdE _).2).1, (rdEs L.length (rdE _).2).2) = _
    rw [List.flatMap_cons, List.append_assoc, rdE_put e _ (h e List.mem_cons_self) (hd e List.mem_cons_self)]
    simp only []
    rw [ih t (fun x hx => h x (List.mem_cons_of_mem _ hx)) (fun x hx => hd x (List.mem_cons_of_mem _ hx))]
def cpy (m m0 : M) (r : Nat) : M :=
  if r = 111 then { m0 with ok := m.ok } else if r = 101 then { m0 with es := m0.es ++ m.es } else if r = 100 then { m0 with d := m.d } else m0.set r (m.num r)
theorem rdF_put (m m0 : M) (r : Nat) (hr : r ∈ nums ∨ r = 111 ∨ r = 101 ∨ r = 100) (hw : Wf m) (hs : Small m) (t : List Nat) : rdF m0 ⟨m.encF r ++ t, false⟩ r = some (cpy m m0 r, ⟨t, false⟩) := by
  rcases hr with hr | rfl | rfl | rfl
  · have hne : r ≠ 111 ∧ r ≠ 101 ∧ r ≠ 100 := by
      simp only [nums, List.mem_cons, List.not_mem_nil, or_false] at hr
      omega
    have he : m.encF r = Pk.enc (m.num r) := by unfold M.encF; rw [if_neg hne.1, if_neg hne.2.1, if_neg hne.2.2]
    rw [rdF_num _ _ _ hr, he, Pk.rdInt_enc _ _ _ (hw.num r hr)]
    unfold cpy; rw [if_neg hne.1, if_neg hne.2.1, if_neg hne.2.2]
  · have he : m.encF 111 = Pk.enc (if m.ok = true then 1 else 0) := rfl
    unfold rdF cpy
    rw [if_pos rfl, if_pos rfl, he]
    rcases m.ok with _ | _
    · rw [Pk.rdInt_enc _ _ _ (by simp)]; simp
    · rw [Pk.rdInt_enc _ _ _ (by simp)]; simp
  · have he : m.encF 101 = Pk.enc m.es.length ++ m.es.flatMap encE := rfl
    have h1 := hs.es
    have hd : ∀ e ∈ m.es, e.d.length ≤ 1000000000000 := fun e he => by have := weigh_mem he; have := hs.wt; omega
    have hlen : 24 * m.es.length ≤ (m.es.flatMap encE ++ t).length := by rw [List.length_append, encEs_length]; omega
    have hc : cpy m m0 101 = { m0 with es := m0.es ++ m.es } := rfl
    have hq : ∀ s : St, rdF m0 s 101 = if (rdInt s).1 < 0 ∨ (((rdInt s).2.rest.length / 24 : Nat) : Int) < (rdInt s).1 then none else some ({ m0 with es := m0.es ++ (rdEs (rdInt s).1.toNat (rdInt s).2).1 }, (rdEs (rdInt s).1.toNat (rdInt s).2).2) := fun s => rfl
    rw [hq, hc, he, List.append_assoc, Pk.rdInt_enc _ _ _ (by omega)]
    simp only []
    rw [if_neg (by omega), Int.toNat_natCast, rdEs_put m.es t (fun e he => ⟨(hw.es e he).1, (hw.es e he).2.1⟩) hd]
  · have he : m.encF 100 = Pk.enc m.d.length ++ m.d := rfl
    have h1 := hs.d
    unfold rdF cpy
    rw [if_neg (by decide), if_neg (by decide), if_pos rfl, if_neg (by decide), if_neg (by decide), if_pos rfl, he, List.append_assoc, rdBlob_put _ _ (by omega)]
theorem rdFs_put (m : M) (hw : Wf m) (hs : Small m) : ∀ (L : List Nat) (m0 : M) (t : List Nat), (∀ r ∈ L, r ∈ nums ∨ r = 111 ∨ r = 101 ∨ r = 100) → rdFs L m0 ⟨L.flatMap m.encF ++ t, false⟩ = some (L.foldl (cpy m) m0, ⟨t, false⟩) := by
  intro L
  induction L with
  | nil => intro m0 t _; rfl
  | cons r L ih =>
    intro m0 t h
    show (match rdF m0 _ r with | none => none | some (m', s') => rdFs L m' s') = _
    rw [List.flatMap_cons, List.append_assoc, rdF_put m m0 r (h r List.mem_cons_self) hw hs]
    exact ih _ t (fun x hx => h x (List.mem_cons_of_mem _ hx))
theorem fold_all (m : M) (hk : m.isKind = true) (hf : m.foreign = false) : (tab m.kind).foldl (cpy m) { M0 with K := m.K, F := m.F, T := m.T } = m := by
  have key : ∀ r ∈ all, (tab m.kind).contains r = false → m.blank r = true := fun r hr h => blank_of hf r hr h
  obtain ⟨k, _, k1, k2, hk⟩ := kind_of hk
  rw [hk] at key ⊢
  have h103 := key 103 (by decide)
  have h116 := key 116 (by decide)
  have h105 := key 105 (by decide)
  have h112 := key 112 (by decide)
  have h99 := key 99 (by decide)
  have h114 := key 114 (by decide)
  have h120 := key 120 (by decide)
  have h97 := key 97 (by decide)
  have h98 := key 98 (by decide)
  have h118 := key 118 (by decide)
  have h115 := key 115 (by decide)
  have h111 := key 111 (by decide)
  have h101 := key 101 (by decide)
  have h100 := key 100 (by decide)
  clear key hk hf
  cases m
  match k, k1, k2 with
  | 1, _, _ | 2, _, _ | 3, _, _ | 4, _, _ | 5, _, _ | 6, _, _ | 7, _, _ | 8, _, _ | 9, _, _ | 10, _, _ | 11, _, _ =>
    simp [tab, M.blank, M.num] at h103 h116 h105 h112 h99 h114 h120 h97 h98 h118 h115 h111 h101 h100
    simp [tab, cpy, M.set, M.num, M0, *]
theorem head3_put (m : M) (hw : Wf m) (t : List Nat) : head3 (head.flatMap m.encF ++ t) = ({ M0 with K := m.K, F := m.F, T := m.T }, ⟨t, false⟩) := by
  have e : head.flatMap m.encF ++ t = Pk.enc m.K ++ (Pk.enc m.F ++ (Pk.enc m.T ++ t)) := by simp [head, M.encF, M.num]
  have h1 := hw.num 75 (by decide)
  have h2 := hw.num 70 (by decide)
  have h3 := hw.num 84 (by decide)
  have i1 : m.num 75 = m.K := rfl
  have i2 : m.num 70 = m.F := rfl
  have i3 : m.num 84 = m.T := rfl
  rw [i1] at h1
  rw [i2] at h2
  rw [i3] at h3
  rw [e]
  unfold head3
  simp only [Pk.rdInt_enc _ _ _ h1, Pk.rdInt_enc _ _ _ h2, Pk.rdInt_enc _ _ _ h3]
theorem dec_enc (m : M) (hw : Wf m) (hs : Small m) (hk : m.isKind = true) (hf : m.foreign = false) : dec m.enc = (m, 0) := by
  have h3 := head3_put m hw ((tab m.kind).flatMap m.encF)
  have e : m.enc = head.flatMap m.encF ++ (tab m.kind).flatMap m.encF := by unfold M.enc; rw [List.flatMap_append]
  rw [← e] at h3
  have hr := rdFs_put m hw hs (tab m.kind) { M0 with K := m.K, F := m.F, T := m.T } [] (tab_field _)
  rw [List.append_nil, fold_all m hk hf] at hr
  exact dec_some h3 rfl hk hr rfl
theorem back (m : M) (hw : Wf m) (hs : Small m) (hc : check m = 0) (more : List Nat) (hm : ∀ x ∈ m.enc, x < 256) : get (Fr.frame m.enc ++ more) = if more.length = 0 then (m, 0) else (M0, 2) := by
  obtain ⟨h1, h2, h3, h4, h5⟩ := check_zero hc
  have hl := enc_length m h1 h2
  have hb := Fr.back m.enc more hm (by omega)
  split
  · rename_i h0
    refine get_ok hb ?_ (dec_enc m hw hs h1 h2) hc
    rw [List.length_append, Fr.frame_length]; omega
  · refine get_long hb ?_
    rw [List.length_append, Fr.frame_length]; omega
end Go.Proofs.Ytkmbkihfdilmbaa.Ms
namespace Go.Proofs.Ytkmbkihfdilmbaa.Ms
open Go.RowKit
set_option maxRecDepth 100000
set_option linter.unusedVariables false
attribute [local go_sem ↓] loadAt_msg storeAt_msg
end Go.Proofs.Ytkmbkihfdilmbaa.Ms
namespace Go.Proofs.Ytkmbkihfdilmbaa.Ms
open Go.RowKit
set_option maxRecDepth 100000
set_option linter.unusedVariables false
attribute [local go_sem ↓] loadAt_msg storeAt_msg
end Go.Proofs.Ytkmbkihfdilmbaa.Ms
namespace Go.Proofs.Ytkmbkihfdilmbaa.Im
open Go.RowKit
open Rl (En Lg)
open Qu (Cf)
set_option maxRecDepth 100000
set_option linter.unusedVariables false
attribute [local go_sem ↓] loadAt_hard storeAt_hard
def bigPS (p : Pt) : Bool := big p.log.es 1000 65536 || bigCf p.cf 1000 || decide (65536 < p.sn.length)
set_option maxHeartbeats 1600000 in
theorem bigHardS_any (x : Hd) (ad : Ad) (w : World) (h : IsPt w w.heap.size x.p ad) :
    Calls Try.prog 48 #[.agg #[.int .i64 x.g, .int .i64 x.t, .int .i64 x.v, .int .i64 x.p.log.base, .int .i64 x.p.log.term, .slice ad.e x.p.log.es.length ad.ce, .slice ad.o x.p.cf.old.length ad.co, .slice ad.n x.p.cf.new.length ad.cn, .slice ad.l x.p.cf.lrn.length ad.cl, .slice ad.s x.p.sn.length ad.cs], .int .i64 1000, .int .i64 65536] w fun e w' => e = .returned (.bool (bigPS x.p)) ∧ Below w.heap.size w w' := by
  obtain ⟨w1, hw1⟩ : ∃ w1, w1 = w.alloc (.cells #[.int .i64 x.g, .int .i64 x.t, .int .i64 x.v, .int .i64 x.p.log.base, .int .i64 x.p.log.term, .slice ad.e x.p.log.es.length ad.ce, .slice ad.o x.p.cf.old.length ad.co, .slice ad.n x.p.cf.new.length ad.cn, .slice ad.l x.p.cf.lrn.length ad.cl, .slice ad.s x.p.sn.length ad.cs] 52) := ⟨_, rfl⟩
  have r1 : w1.heap[w.heap.size]? = some (.cells #[.int .i64 x.g, .int .i64 x.t, .int .i64 x.v, .int .i64 x.p.log.base, .int .i64 x.p.log.term, .slice ad.e x.p.log.es.length ad.ce, .slice ad.o x.p.cf.old.length ad.co, .slice ad.n x.p.cf.new.length ad.cn, .slice ad.l x.p.cf.lrn.length ad.cl, .slice ad.s x.p.sn.length ad.cs] 52 (0, 0)) := by rw [hw1]; exact heap_alloc_new w _
  have b1 : Below w.heap.size w w1 := by rw [hw1]; exact hard_new w x ad
  have c5 : w1.cell? ⟨w.heap.size, 5, none⟩ = some (.slice ad.e x.p.log.es.length ad.ce) := row_cell r1 5
  have HE := hid (big_any w.heap.size ad.e ad.ce x.p.log.es.length x.p.log.es rfl 1000 65536 (by decide) (by decide) w1 (h.es.below b1))
  have HR := hid (And.intro r1 b1)
  rw [hw1] at c5
  clear r1 b1 h
  go_enter Try.func48, Try.ntmps48
  go_wp2_with fail
  rw [← hw1]
  clear hw1 c5
  refine HE.out.mono ?_
  rintro e w2 ⟨rfl, hw2⟩
  subst hw2
  obtain ⟨b, hb⟩ : ∃ b, big x.p.log.es 1000 65536 = b := ⟨_, rfl⟩
  rw [hb]
  cases b with
  | true =>
    have HV : Hid (bigPS x.p = true) := hid (by unfold bigPS; rw [hb]; rfl)
    clear hb
    go_wp2_with fail
    go_ret
    rw [HV.out]
    exact ⟨rfl, HR.out.2⟩
  | false =>
    have c6 : w2.cell? ⟨w.heap.size, 6, none⟩ = some (.slice ad.o x.p.cf.old.length ad.co) := row_cell HR.out.1 6
    have c7 : w2.cell? ⟨w.heap.size, 7, none⟩ = some (.slice ad.n x.p.cf.new.length ad.cn) := row_cell HR.out.1 7
    have c8 : w2.cell? ⟨w.heap.size, 8, none⟩ = some (.slice ad.l x.p.cf.lrn.length ad.cl) := row_cell HR.out.1 8
    have HC := hid (bigConf_any ad.o ad.n ad.l x.p.cf.old.length x.p.cf.new.length x.p.cf.lrn.length ad.co ad.cn ad.cl 1000 (by decide) w2)
    have HX := hid hb
    clear hb
    go_wp2_with fail
    refine HC.out.mono ?_
    rintro e w3 ⟨rfl, hb3⟩
    obtain ⟨b2, hb2⟩ : ∃ b2, bigCf x.p.cf 1000 = b2 := ⟨_, rfl⟩
    rw [show (decide (1000 < x.p.cf.old.length) || decide (1000 < x.p.cf.new.length) || decide (1000 < x.p.cf.lrn.length)) = b2 from hb2]
    have r3 := (hb3.block _ (row_lt HR.out.1)).trans HR.out.1
    have c9 : w3.cell? ⟨w.heap.size, 9, none⟩ = some (.slice ad.s x.p.sn.length ad.cs) := row_cell r3 9
    have HB3 := hid (HR.out.2.trans (hb3.mono HR.out.2.size))
    cases b2 with
    | true =>
      have HV : Hid (bigPS x.p = true) := hid (by unfold bigPS; rw [HX.out, hb2]; rfl)
      clear hb2 r3 hb3
      go_wp2_with fail
      go_ret
      rw [HV.out]
      exact ⟨rfl, HB3.out⟩
    | false =>
      have HV : Hid (bigPS x.p = decide ((65536 : Int) < (x.p.sn.length : Int))) := hid (by unfold bigPS; rw [HX.out, hb2]; simp only [Bool.false_or]; exact decide_eq_decide.2 (by omega))
      clear hb2 r3 hb3
      go_wp2_with fail
      go_ret
      rw [HV.out]
      exact ⟨rfl, HB3.out⟩
theorem bigPS_few {p : Pt} (h : bigPS p = false) : (p.log.es.length ≤ 1000 ∧ Rl.Few p.log.es) ∧ (p.cf.old.length ≤ 1000 ∧ p.cf.new.length ≤ 1000 ∧ p.cf.lrn.length ≤ 1000) ∧ p.sn.length ≤ 65536 ∧ weigh p.log.es ≤ 65536 := by
  unfold bigPS bigCf at h
  rw [Bool.or_eq_false_iff, Bool.or_eq_false_iff, Bool.or_eq_false_iff, Bool.or_eq_false_iff, decide_eq_false_iff_not, decide_eq_false_iff_not, decide_eq_false_iff_not, decide_eq_false_iff_not] at h
  refine ⟨big_few h.1.1, ⟨by omega, by omega, by omega⟩, by omega, ?_⟩
  have := h.1.1
  unfold big at this
  rw [Bool.or_eq_false_iff, decide_eq_false_iff_not, decide_eq_false_iff_not] at this
  omega
end Go.Proofs.Ytkmbkihfdilmbaa.Im
namespace Go.Proofs.Ytkmbkihfdilmbaa.Ms
open Go.RowKit
set_option maxRecDepth 100000
set_option linter.unusedVariables false
attribute [local go_sem ↓] loadAt_msg storeAt_msg
structure MIn (w : World) (B N : Nat) (m : M) (A : Option Addr) (c : Nat) (A' : Option Addr) (c' : Nat) : Prop where
  num : ∀ r ∈ nums, InInt (m.num r)
  es : OwnE w B N A c m.es
  d : OwnsB 5 w B A' c' m.d
  dN : ∀ k, blk A' = some k → k < N
  one : (A = none ∧ c = 0) ∨ (A' = none ∧ c' = 0)
  few : m.es.length ≤ 50000
  hi : N ≤ w.heap.size
namespace MIn
variable {w w' : World} {B N : Nat} {m : M} {A A' : Option Addr} {c c' : Nat}
theorem turned (h : MIn w B N m A c A' c') {S : Nat → Prop} (ht : Turned S w w') (hS : ∀ k, S k → k < B ∨ N ≤ k) : MIn w' B N m A c A' c' :=
  ⟨h.num, h.es.keep ht (fun k hk hB => by have := hB.1; have := hB.2; have := hS k hk; omega), h.d.turned ht (fun k hk e => by have := (h.d.blkLt k hk).1; have := h.dN k hk; have := hS k e; omega), h.dN, h.one, h.few, Nat.le_trans h.hi ht.size⟩
theorem below (h : MIn w B N m A c A' c') (hb : Below w.heap.size w w') : MIn w' B N m A c A' c' := h.turned (S := fun _ => False) (Turned.ofBelow _ hb) (fun _ e => e.elim)
theorem is (h : MIn w B N m A c A' c') : Is w w.heap.size m A c A' c' := ⟨h.num, h.es.reads.more h.hi, h.es.room, h.es.none_, h.d.reads, h.d.room, h.d.none_⟩
end MIn
theorem MIn.nil_es {w : World} {B N : Nat} {m : M} {c : Nat} {A' : Option Addr} {c' : Nat} (h : MIn w B N m none c A' c') : m.es = [] := by
  rcases hh : m.es with _ | ⟨x, L⟩
  · rfl
  · obtain ⟨_, _, e, _⟩ := h.es.reads.cells 0 (by rw [hh]; simp)
    cases e
def M77 : M := { M0 with K := -77 }
end Go.Proofs.Ytkmbkihfdilmbaa.Ms
