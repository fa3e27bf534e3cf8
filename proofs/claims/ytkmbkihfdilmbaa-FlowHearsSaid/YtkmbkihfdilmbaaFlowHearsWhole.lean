/- A flow behind any message is the document's, so is a new one. Conditions: none. -/
import Derived.Test.YtkmbkihfdilmbaaFlowHearsPartAB
import Derived.Test.YtkmbkihfdilmbaaFlowHearsPartAA
import Derived.Deep.RegionHeld3
import Derived.StillTailTactics
import Derived.Deep.CutRange
import Derived.StillTail
import Derived.Below
import Derived.WalkKit
import Derived.Deep.Slices
import Derived.Deep.Fields
import Derived.ChangeSame
import Derived.WalkLawsBesides
import Derived.ProofKit
import Derived.OpenShut
import Derived.Test.YtkmbkihfdilmbaaRows
import Derived.ShutString
import Derived.ChangeOld
import Derived.SizedLaws
namespace Go.Proofs.Ytkmbkihfdilmbaa.Fw
open Go Go.RowKit
open Ms (M)
open Im (ldX stX)
open Vo (Rw loadAt_msgV storeAt_msgV info_msgV boxes)
set_option maxRecDepth 100000
set_option linter.unusedVariables false
attribute [local go_sem ↓] loadAt_msgV storeAt_msgV loadAt_flow storeAt_flow
def placedB (f : Fl) : Bool := decide (0 ≤ min (min (min f.n f.x) f.m) f.r) && decide (max (max (max f.n f.x) f.m) f.r ≤ 1099511627777)
theorem placedB_pl {f : Fl} (h : placedB f = true) : Pl f := by
  unfold placedB at h
  rw [Bool.and_eq_true, decide_eq_true_eq, decide_eq_true_eq] at h
  obtain ⟨h1, h2⟩ := h
  exact ⟨by omega, by omega, by omega, by omega⟩
theorem run_min4 {P : Program} (W : World) (ts : Array TypeId) (t : TypeId) (x y z u v : Int) (hv : min (min (min x y) z) u = v) : (Builtin.min_ ts t #[.int .i64 x, .int .i64 y, .int .i64 z, .int .i64 u]).run P W = .ok (.int .i64 v) W := by
  have e : (Builtin.min_ ts t #[.int .i64 x, .int .i64 y, .int .i64 z, .int .i64 u]).run P W = .ok (.int .i64 (if u < (if z < (if y < x then y else x) then z else (if y < x then y else x)) then u else (if z < (if y < x then y else x) then z else (if y < x then y else x)))) W := by
    simp [Builtin.min_, Builtin.min2]
  rw [e]
  congr 2
  rw [← hv]
  split <;> split <;> split <;> omega
theorem run_max4 {P : Program} (W : World) (ts : Array TypeId) (t : TypeId) (x y z u v : Int) (hv : max (max (max x y) z) u = v) : (Builtin.max_ ts t #[.int .i64 x, .int .i64 y, .int .i64 z, .int .i64 u]).run P W = .ok (.int .i64 v) W := by
  have e : (Builtin.max_ ts t #[.int .i64 x, .int .i64 y, .int .i64 z, .int .i64 u]).run P W = .ok (.int .i64 (if (if (if x < y then y else x) < z then z else (if x < y then y else x)) < u then u else (if (if x < y then y else x) < z then z else (if x < y then y else x)))) W := by
    simp [Builtin.max_, Builtin.max2]
  rw [e]
  congr 2
  rw [← hv]
  split <;> split <;> split <;> omega
theorem placed_any (f : Fl) (w : World) :
    Calls Try.prog 16 #[.agg #[.int .i64 f.n, .int .i64 f.x, .int .i64 f.m, .int .i64 f.r]] w fun e w' => e = .returned (.bool (placedB f)) ∧ Below w.heap.size w w' := by
  have hb := (Below.refl w.heap.size w).alloc (Nat.le_refl _) (.cells #[.int .i64 f.n, .int .i64 f.x, .int .i64 f.m, .int .i64 f.r] 42)
  have HB := hid hb
  obtain ⟨lo, hlo⟩ : ∃ v, min (min (min f.n f.x) f.m) f.r = v := ⟨_, rfl⟩
  obtain ⟨hi, hhi⟩ : ∃ v, max (max (max f.n f.x) f.m) f.r = v := ⟨_, rfl⟩
  have hm := fun W ts t => run_min4 (P := Try.prog) W ts t f.n f.x f.m f.r lo hlo
  have hx := fun W ts t => run_max4 (P := Try.prog) W ts t f.n f.x f.m f.r hi hhi
  have HP : Hid (placedB f = (decide (0 ≤ lo) && decide (hi ≤ 1099511627777))) := hid (by unfold placedB; rw [hlo, hhi])
  rw [HP.out]
  clear hb HP hlo hhi
  by_cases h1 : 0 ≤ lo
  · by_cases h2 : hi ≤ 1099511627777
    · rw [decide_eq_true h1, decide_eq_true h2]
      go_enter Try.func16, Try.ntmps16
      go_wp2_with fail
      go_ret
      exact ⟨rfl, HB.out⟩
    · rw [decide_eq_true h1, decide_eq_false h2]
      go_enter Try.func16, Try.ntmps16
      go_wp2_with fail
      go_ret
      exact ⟨rfl, HB.out⟩
  · rw [decide_eq_false h1, Bool.false_and]
    go_enter Try.func16, Try.ntmps16
    go_wp2_with fail
    go_ret
    exact ⟨rfl, HB.out⟩
end Go.Proofs.Ytkmbkihfdilmbaa.Fw
namespace Go.Proofs.Ytkmbkihfdilmbaa
open Go.RowKit
end Go.Proofs.Ytkmbkihfdilmbaa
namespace Go.Proofs.Ytkmbkihfdilmbaa
open Go.RowKit
set_option maxHeartbeats 800000 in
set_option maxRecDepth 100000 in
theorem slice_no (B : Nat) (g : Rl.Lg) (A : Option Addr) (c : Nat) (i m : Int) (hg : Rl.Ok g) (hn : m < 1 ∨ i = g.base ∨ g.has i = false) (w : World) (h : LgIs w B g A c) (hB : B ≤ w.heap.size) :
    Calls Try.prog 51 #[.agg #[.int .i64 g.base, .int .i64 g.term, .slice A g.es.length c], .int .i64 i, .int .i64 m] w fun e w' => e = .returned (.slice none 0 0) ∧ Below w.heap.size w w' := by
  have hb1 : Below w.heap.size w (w.alloc (.cells #[.int .i64 g.base, .int .i64 g.term, .slice A g.es.length c] 25)) := (Below.refl _ w).alloc (Nat.le_refl _) _
  have HC := hid (has_any w.heap.size g A c i hg _ ((h.more hB).below hb1) hb1.size)
  have HB := hid hb1
  have HN := hid hn
  clear h hb1 hn
  by_cases h1 : m < 1
  · go_enter Try.func51, Try.ntmps51
    go_wp2_with fail
    go_ret
    exact ⟨rfl, HB.out⟩
  · by_cases h2 : i = g.base
    · subst h2
      go_enter Try.func51, Try.ntmps51
      go_wp2_with fail
      go_ret
      exact ⟨rfl, HB.out⟩
    · have h3 : g.has i = false := by
        rcases HN.out with e | e | e
        · exact absurd e h1
        · exact absurd e h2
        · exact e
      rw [h3] at HC
      clear h3
      go_enter Try.func51, Try.ntmps51
      go_wp2_with fail
      refine HC.out.mono ?_
      rintro e w2 ⟨rfl, hb2⟩
      have HB2 := hid (HB.out.trans (hb2.mono HB.out.size))
      clear hb2
      go_wp2_with fail
      go_ret
      exact ⟨rfl, HB2.out⟩
set_option maxHeartbeats 800000 in
set_option maxRecDepth 100000 in
theorem slice_yes (B : Nat) (g : Rl.Lg) (A : Option Addr) (c : Nat) (i m : Int) (j q : Nat) (hi : i = g.base + (j : Int) + 1) (hj : j < g.es.length) (hm : 1 ≤ m) (hq : q = min m.toNat (g.es.length - j)) (hg : Rl.Ok g) (hf : Rl.Few g.es) (w : World) (h : LgIs w B g A c) (hB : B ≤ w.heap.size) :
    Calls Try.prog 51 #[.agg #[.int .i64 g.base, .int .i64 g.term, .slice A g.es.length c], .int .i64 i, .int .i64 m] w fun e w' => ∃ A' c', e = .returned (.slice A' q c') ∧ OwnE w' w.heap.size w'.heap.size A' c' ((g.es.drop j).take m.toNat) ∧ Below w.heap.size w w' := by
  have hb1 : Below w.heap.size w (w.alloc (.cells #[.int .i64 g.base, .int .i64 g.term, .slice A g.es.length c] 25)) := (Below.refl _ w).alloc (Nat.le_refl _) _
  have hh : g.has i = true := by rw [hi]; exact Rl.Lg.has_iff.2 (by omega)
  have HC := hid (has_any w.heap.size g A c i hg _ ((h.more hB).below hb1) hb1.size)
  rw [hh] at HC
  obtain ⟨⟨g0, g1⟩, _, gl⟩ := hg
  have hlen : ((g.es.drop j).take m.toNat).length = q := by rw [List.length_take, List.length_drop, hq]
  have hsl := (h.es.sl (i := j) h.room.1).take m.toNat
  have hroom := h.room.1
  obtain ⟨b, off, rfl, hbB, _⟩ := h.es.cells j hj
  rw [if_neg (by omega)] at hsl
  have hadd : (Option.map (fun x => Addr.add x (j * 3)) (some (⟨b, off, none⟩ : Addr))) = some ⟨b, off + j * 3, none⟩ := by simp [add_off]
  rw [hadd] at hsl
  have HO : Hid (∀ n, n = q → ∀ w' c', Below w.heap.size w w' → Calls Try.prog 69 #[.slice (some ⟨b, off + j * 3, none⟩) n c'] w' fun e w'' => ∃ A' c', e = .returned (.slice A' q c') ∧ OwnE w'' w'.heap.size w''.heap.size A' c' ((g.es.drop j).take m.toNat) ∧ Below w'.heap.size w' w'') := hid (fun n hnq w' c' hb => by rw [hnq]; exact own_any w.heap.size _ c' q _ hlen (by omega) (fun e he => hf e (List.mem_of_mem_drop (List.mem_of_mem_take he))) w' ((hsl.more hB).below hb) hb.size)
  have HB := hid hb1
  have hne : ¬ i = g.base := by omega
  have hm1 : ¬ m < 1 := by omega
  have hsub : i - g.base = (j : Int) + 1 := by omega
  have hi2 : i ≤ 1099511727776 := by omega
  have hjc : ¬ c = j := by omega
  have hjl : (j : Int) ≤ (g.es.length : Int) := by omega
  have hqL : q ≤ g.es.length - j := by omega
  have hmn : min m (((g.es.length - j : Nat)) : Int) = (q : Int) := by omega
  have HQ := hid hq
  clear h hb1 hh hi hsl hadd hlen hf hq hm hmn
  go_enter Try.func51, Try.ntmps51
  go_wp2_with fail
  refine HC.out.mono ?_
  rintro e w2 ⟨rfl, hb2⟩
  have HB2 := hid (HB.out.trans (hb2.mono HB.out.size))
  have q0 : w2.cell? ⟨w.heap.size, 0, none⟩ = some (.int .i64 g.base) := by rw [hb2.cell (by simp)]; simp
  have q2 : w2.cell? ⟨w.heap.size, 2, none⟩ = some (.slice (some ⟨b, off, none⟩) g.es.length c) := by rw [hb2.cell (by simp)]; simp
  clear hb2
  go_wp2_with fail
  all_goals
    (refine (HO.out _ (by have := HQ.out; omega) w2 _ HB2.out).mono ?_
     rintro e w3 ⟨A3, c3, rfl, ho3, hb3⟩
     have H3 := hid (And.intro (ho3.wide HB2.out.size (Nat.le_refl _)) (HB2.out.trans (hb3.mono HB2.out.size)))
     clear hb3 ho3
     go_wp2_with fail
     go_ret
     exact ⟨A3, c3, rfl, H3.out.1, H3.out.2⟩)
theorem slice_any (B : Nat) (g : Rl.Lg) (A : Option Addr) (c : Nat) (i m : Int) (hg : Rl.Ok g) (hf : Rl.Few g.es) (w : World) (h : LgIs w B g A c) (hB : B ≤ w.heap.size) :
    Calls Try.prog 51 #[.agg #[.int .i64 g.base, .int .i64 g.term, .slice A g.es.length c], .int .i64 i, .int .i64 m] w fun e w' => ∃ A' c', e = .returned (.slice A' (g.slice i m).length c') ∧ OwnE w' w.heap.size w'.heap.size A' c' (g.slice i m) ∧ Below w.heap.size w w' := by
  by_cases hn : m < 1 ∨ i = g.base ∨ g.has i = false
  · have e : g.slice i m = [] := by
      unfold Rl.Lg.slice
      rcases hn with e | e | e
      · rw [show m.toNat = 0 by omega]; simp
      · rw [if_neg (by intro h; exact h.2 e)]
      · rw [if_neg (by rw [e]; simp)]
    rw [e]
    exact (slice_no B g A c i m hg hn w h hB).mono fun e w' ⟨h1, h2⟩ => ⟨none, 0, h1, OwnE.nil _ _ _, h2⟩
  · have hn' : ¬ m < 1 ∧ i ≠ g.base ∧ g.has i = true := ⟨fun e => hn (.inl e), fun e => hn (.inr (.inl e)), by
      rcases e : g.has i with _ | _
      · exact absurd (.inr (.inr e)) hn
      · rfl⟩
    obtain ⟨p, h1, h2, h3⟩ := Rl.Lg.has_at hn'.2.2
    obtain ⟨j, rfl⟩ : ∃ j, p = j + 1 := ⟨p - 1, by omega⟩
    have e : g.slice i m = (g.es.drop j).take m.toNat := by
      unfold Rl.Lg.slice
      rw [if_pos ⟨hn'.2.2, hn'.2.1⟩, h3]; rfl
    have el : (g.slice i m).length = min m.toNat (g.es.length - j) := by rw [e, List.length_take, List.length_drop]
    rw [el, e]
    exact slice_yes B g A c i m j _ (by omega) (by omega) (by omega) rfl hg hf w h hB
end Go.Proofs.Ytkmbkihfdilmbaa
namespace Go.Proofs.Ytkmbkihfdilmbaa.Fw
open Go Go.RowKit
open Ms (M)
open Im (ldX stX Hd Pt Ad IsPt encCf)
open Vo (Rw loadAt_msgV storeAt_msgV info_msgV boxes)
set_option maxRecDepth 100000
set_option linter.unusedVariables false
attribute [local go_sem ↓] loadAt_msgV storeAt_msgV loadAt_flow storeAt_flow Im.loadAt_hard Im.storeAt_hard Im.loadAt_log1 Im.storeAt_log1 Im.loadAt_conf3 Im.storeAt_conf3
structure Fs (p : Pt) : Prop where
  o : p.cf.old.length ≤ 100000
  n : p.cf.new.length ≤ 100000
  l : p.cf.lrn.length ≤ 100000
  s : p.sn.length ≤ 1000000000
end Go.Proofs.Ytkmbkihfdilmbaa.Fw
namespace Go.Proofs.Ytkmbkihfdilmbaa.Fw
open Go Go.RowKit
open Ms (M)
open Im (ldX stX Hd Pt Ad IsPt encCf)
open Vo (Rw loadAt_msgV storeAt_msgV info_msgV boxes)
set_option maxRecDepth 100000
set_option linter.unusedVariables false
attribute [local go_sem ↓] loadAt_msgV storeAt_msgV loadAt_flow storeAt_flow Im.loadAt_hard Im.storeAt_hard Im.loadAt_log1 Im.storeAt_log1 Im.loadAt_conf3 Im.storeAt_conf3
structure Nx (w W : World) (f : Fl) (h : Hd) (ad : Ad) (ne n0 n1 n2 ns : Nat) : Prop where
  bel : Below w.heap.size w W
  rf : Rw W w.heap.size #[.int .i64 f.n, .int .i64 f.x, .int .i64 f.m, .int .i64 f.r] 42
  rh : Rw W (w.heap.size + 1) #[.int .i64 h.g, .int .i64 h.t, .int .i64 h.v, .int .i64 h.p.log.base, .int .i64 h.p.log.term, .slice ad.e ne ad.ce, .slice ad.o n0 ad.co, .slice ad.n n1 ad.cn, .slice ad.l n2 ad.cl, .slice ad.s ns ad.cs] 52
  rm : Rw W (w.heap.size + 2) #[.int .i64 0, .int .i64 0, .int .i64 0, .int .i64 0, .int .i64 0, .int .i64 0, .int .i64 0, .int .i64 0, .int .i64 0, .int .i64 0, .int .i64 0, .int .i64 0, .int .i64 0, .int .i64 0, .bool false, .slice none 0 0, .slice none 0 0] 31
theorem Nx.keep {w W W' : World} {f : Fl} {h : Hd} {ad : Ad} {ne n0 n1 n2 ns : Nat} (q : Nx w W f h ad ne n0 n1 n2 ns) (hb : Below W.heap.size W W') : Nx w W' f h ad ne n0 n1 n2 ns :=
  ⟨q.bel.trans (hb.mono q.bel.size), q.rf.keep hb, q.rh.keep hb, q.rm.keep hb⟩
theorem ldHV {w : World} {b : Nat} {cs : Array Value} (h : Rw w b cs 52) (hn : cs.size = 10) : (ldX 52 (.pointer (some ⟨b, 0, none⟩))).run Try.prog w = .ok (.agg cs) w :=
  Im.ldRow Im.info_hard Try.underlying52 rfl h hn
theorem Nx.lds {w W : World} {f : Fl} {h : Hd} {ad : Ad} {ne n0 n1 n2 ns : Nat} (q : Nx w W f h ad ne n0 n1 n2 ns) :
    (W.cell? ⟨w.heap.size, 0, none⟩ = some (.int .i64 f.n) ∧ W.cell? ⟨w.heap.size, 1, none⟩ = some (.int .i64 f.x)) ∧ (W.cell? ⟨w.heap.size + 1, 0, none⟩ = some (.int .i64 h.g) ∧ W.cell? ⟨w.heap.size + 1, 1, none⟩ = some (.int .i64 h.t) ∧ W.cell? ⟨w.heap.size + 1, 3, none⟩ = some (.int .i64 h.p.log.base) ∧ W.cell? ⟨w.heap.size + 1, 4, none⟩ = some (.int .i64 h.p.log.term)) ∧ (ldX 52 (.pointer (some ⟨w.heap.size + 1, 0, none⟩))).run Try.prog W = .ok (.agg #[.int .i64 h.g, .int .i64 h.t, .int .i64 h.v, .int .i64 h.p.log.base, .int .i64 h.p.log.term, .slice ad.e ne ad.ce, .slice ad.o n0 ad.co, .slice ad.n n1 ad.cn, .slice ad.l n2 ad.cl, .slice ad.s ns ad.cs]) W ∧ (ldX 25 (.pointer (some ⟨w.heap.size + 1, 3, none⟩))).run Try.prog W = .ok (.agg #[.int .i64 h.p.log.base, .int .i64 h.p.log.term, .slice ad.e ne ad.ce]) W :=
  ⟨⟨row_cell q.rf 0, row_cell q.rf 1⟩, ⟨row_cell q.rh 0, row_cell q.rh 1, row_cell q.rh 3, row_cell q.rh 4⟩, ldHV q.rh rfl, Im.ldLogH q.rh rfl rfl rfl⟩
theorem Nx.ldsT {w W W' : World} {f : Fl} {h : Hd} {ad : Ad} {ne n0 n1 n2 ns : Nat} (q : Nx w W f h ad ne n0 n1 n2 ns) (hT : Turned (fun k => k = w.heap.size + 2) W W') :
    (W'.cell? ⟨w.heap.size, 0, none⟩ = some (.int .i64 f.n) ∧ W'.cell? ⟨w.heap.size, 1, none⟩ = some (.int .i64 f.x)) ∧ (W'.cell? ⟨w.heap.size + 1, 0, none⟩ = some (.int .i64 h.g) ∧ W'.cell? ⟨w.heap.size + 1, 1, none⟩ = some (.int .i64 h.t) ∧ W'.cell? ⟨w.heap.size + 1, 3, none⟩ = some (.int .i64 h.p.log.base) ∧ W'.cell? ⟨w.heap.size + 1, 4, none⟩ = some (.int .i64 h.p.log.term)) ∧ (ldX 52 (.pointer (some ⟨w.heap.size + 1, 0, none⟩))).run Try.prog W' = .ok (.agg #[.int .i64 h.g, .int .i64 h.t, .int .i64 h.v, .int .i64 h.p.log.base, .int .i64 h.p.log.term, .slice ad.e ne ad.ce, .slice ad.o n0 ad.co, .slice ad.n n1 ad.cn, .slice ad.l n2 ad.cl, .slice ad.s ns ad.cs]) W' ∧ (ldX 25 (.pointer (some ⟨w.heap.size + 1, 3, none⟩))).run Try.prog W' = .ok (.agg #[.int .i64 h.p.log.base, .int .i64 h.p.log.term, .slice ad.e ne ad.ce]) W' := by
  have rf := (hT.block _ (row_lt q.rf) (by omega)).trans q.rf
  have rh := (hT.block _ (row_lt q.rh) (by omega)).trans q.rh
  exact ⟨⟨row_cell rf 0, row_cell rf 1⟩, ⟨row_cell rh 0, row_cell rh 1, row_cell rh 3, row_cell rh 4⟩, ldHV rh rfl, Im.ldLogH rh rfl rfl rfl⟩
theorem Nx.start (w : World) (f : Fl) (h : Hd) (ad : Ad) (ne n0 n1 n2 ns : Nat) : Nx w (((w.alloc (.cells #[.int .i64 f.n, .int .i64 f.x, .int .i64 f.m, .int .i64 f.r] 42)).alloc (.cells #[.int .i64 h.g, .int .i64 h.t, .int .i64 h.v, .int .i64 h.p.log.base, .int .i64 h.p.log.term, .slice ad.e ne ad.ce, .slice ad.o n0 ad.co, .slice ad.n n1 ad.cn, .slice ad.l n2 ad.cl, .slice ad.s ns ad.cs] 52)).alloc (.cells #[.int .i64 0, .int .i64 0, .int .i64 0, .int .i64 0, .int .i64 0, .int .i64 0, .int .i64 0, .int .i64 0, .int .i64 0, .int .i64 0, .int .i64 0, .int .i64 0, .int .i64 0, .int .i64 0, .bool false, .slice none 0 0, .slice none 0 0] 31)) f h ad ne n0 n1 n2 ns := by
  obtain ⟨r0, r1, r2, hb⟩ := Vo.Rw.three w #[.int .i64 f.n, .int .i64 f.x, .int .i64 f.m, .int .i64 f.r] #[.int .i64 h.g, .int .i64 h.t, .int .i64 h.v, .int .i64 h.p.log.base, .int .i64 h.p.log.term, .slice ad.e ne ad.ce, .slice ad.o n0 ad.co, .slice ad.n n1 ad.cn, .slice ad.l n2 ad.cl, .slice ad.s ns ad.cs] #[.int .i64 0, .int .i64 0, .int .i64 0, .int .i64 0, .int .i64 0, .int .i64 0, .int .i64 0, .int .i64 0, .int .i64 0, .int .i64 0, .int .i64 0, .int .i64 0, .int .i64 0, .int .i64 0, .bool false, .slice none 0 0, .slice none 0 0] 42 52 31
  exact ⟨hb, r0, r1, r2⟩
theorem Nx.put {w W : World} {f : Fl} {h : Hd} {ad : Ad} {ne n0 n1 n2 ns : Nat} (q : Nx w W f h ad ne n0 n1 n2 ns) (cs : Array Value) (hn : cs.size = 17) (h1 : cs.all (·.oneCell') = true) :
    ∃ W', (stX 31 (.pointer (some ⟨w.heap.size + 2, 0, none⟩)) (.agg cs)).run Try.prog W = .ok () W' ∧ W'.heap[w.heap.size + 2]? = some (.cells cs 31 (0, 0)) ∧ Below w.heap.size w W' ∧ Turned (fun k => k = w.heap.size + 2) W W' :=
  ⟨W.setRow (w.heap.size + 2) cs, Im.stRow info_msgV q.rm rfl hn h1, setRow_heap W (w.heap.size + 2) _ cs _ _ q.rm, q.bel.trans ((Im.row_turned W (w.heap.size + 2) cs).below q.bel.size (fun k hk => by omega)), Im.row_turned W (w.heap.size + 2) cs⟩
set_option maxHeartbeats 6400000 in
theorem nextE_any (f : Fl) (hpl : Pl f) (id commit round : Int) (h : Hd) (ad : Ad) (ne n0 n1 n2 ns r : Nat) (e9 : h.p.log.es.length = ne) (hr : (h.p.log.slice f.x 8).length = r) (hok : Rl.Ok h.p.log) (hfew : Rl.Few h.p.log.es) (hx : ¬ f.x ≤ h.p.log.base) (w : World) (hp : IsPt w w.heap.size h.p ad) :
    Calls Try.prog 26 #[.agg #[.int .i64 f.n, .int .i64 f.x, .int .i64 f.m, .int .i64 f.r], .int .i64 id, .agg #[.int .i64 h.g, .int .i64 h.t, .int .i64 h.v, .int .i64 h.p.log.base, .int .i64 h.p.log.term, .slice ad.e ne ad.ce, .slice ad.o n0 ad.co, .slice ad.n n1 ad.cn, .slice ad.l n2 ad.cl, .slice ad.s ns ad.cs], .int .i64 commit, .int .i64 round] w fun e w' => ∃ A c, e = .returned (.agg #[.int .i64 3, .int .i64 id, .int .i64 f.n, .int .i64 h.g, .int .i64 h.t, .int .i64 (f.x - 1), .int .i64 (h.p.log.termV (f.x - 1)), .int .i64 commit, .int .i64 round, .int .i64 0, .int .i64 0, .int .i64 0, .int .i64 0, .int .i64 0, .bool false, .slice A r c, .slice none 0 0]) ∧ OwnE w' w.heap.size w'.heap.size A c (h.p.log.slice f.x 8) ∧ Below w.heap.size w w' := by
  obtain ⟨w1, hw1⟩ : ∃ w1, w1 = ((w.alloc (.cells #[.int .i64 f.n, .int .i64 f.x, .int .i64 f.m, .int .i64 f.r] 42)).alloc (.cells #[.int .i64 h.g, .int .i64 h.t, .int .i64 h.v, .int .i64 h.p.log.base, .int .i64 h.p.log.term, .slice ad.e ne ad.ce, .slice ad.o n0 ad.co, .slice ad.n n1 ad.cn, .slice ad.l n2 ad.cl, .slice ad.s ns ad.cs] 52)).alloc (.cells #[.int .i64 0, .int .i64 0, .int .i64 0, .int .i64 0, .int .i64 0, .int .i64 0, .int .i64 0, .int .i64 0, .int .i64 0, .int .i64 0, .int .i64 0, .int .i64 0, .int .i64 0, .int .i64 0, .bool false, .slice none 0 0, .slice none 0 0] 31) := ⟨_, rfl⟩
  have hq := Nx.start w f h ad ne n0 n1 n2 ns
  rw [← hw1] at hq
  have Q1 := hid hq
  have HLG : Hid (∀ W, Below w.heap.size w W → LgIs W W.heap.size h.p.log ad.e ad.ce) := hid (fun W hW => ⟨(hp.es.below hW).more hW.size, hp.re.1, hp.re.2, hp.num⟩)
  have HT1 := term_any w1.heap.size h.p.log ad.e ad.ce (f.x - 1) hok w1 (HLG.out w1 hq.bel) (Nat.le_refl _)
  rw [e9] at HT1
  have HTT := hid HT1
  have HOK := hid (And.intro hok hfew)
  have HW1 := hid hw1
  have HE9 := hid e9
  have HR := hid hr
  obtain ⟨x1, x2⟩ := hpl.x
  have hwr : IntKind.i64.wrap (f.x - 1) = f.x - 1 := by rw [IntKind.wrap_i64]; omega
  obtain ⟨tv, htv⟩ : ∃ t, h.p.log.termV (f.x - 1) = t := ⟨_, rfl⟩
  obtain ⟨hv, hhv⟩ : ∃ b, h.p.log.has (f.x - 1) = b := ⟨_, rfl⟩
  rw [htv, hhv] at HTT
  rw [htv]
  obtain ⟨xm, hxm⟩ : ∃ x, f.x - 1 = x := ⟨_, rfl⟩
  rw [hxm] at HTT hwr
  rw [hxm]
  clear hw1 hq HT1 e9 hok hfew hp hr hpl htv hhv
  obtain ⟨⟨l0, l1⟩, ⟨l2, l3, l4, l5⟩, l6, l7⟩ := Q1.out.lds
  go_enter Try.func26, Try.ntmps26
  go_upto_region 1 with fail
  rw [← HW1.out]
  go_upto_region 3 with fail
  go_wp2_with fail
  refine HTT.out.mono ?_
  rintro e v ⟨rfl, hb⟩
  have Q2 := hid (Q1.out.keep hb)
  have Q3 := hid (Q2.out.keep (show Below v.heap.size v v.drew from (Below.refl _ _).drew))
  have HS1 := slice_any v.drew.heap.size h.p.log ad.e ad.ce f.x 8 HOK.out.1 HOK.out.2 v.drew (HLG.out v.drew Q3.out.bel) (Nat.le_refl _)
  rw [HE9.out, HR.out] at HS1
  have HSS := hid HS1
  clear hb HS1 l0 l1 l2 l3 l4 l5 l6 l7 hx HTT
  go_upto_region 4 with fail
  have e4 := Q2.out.lds
  have e5 := Q3.out.lds
  go_region_held3 (fun W => (W.cell? ⟨w.heap.size, 0, none⟩ = some (.int .i64 f.n) ∧ W.cell? ⟨w.heap.size, 1, none⟩ = some (.int .i64 f.x)) ∧ (W.cell? ⟨w.heap.size + 1, 0, none⟩ = some (.int .i64 h.g) ∧ W.cell? ⟨w.heap.size + 1, 1, none⟩ = some (.int .i64 h.t) ∧ W.cell? ⟨w.heap.size + 1, 3, none⟩ = some (.int .i64 h.p.log.base) ∧ W.cell? ⟨w.heap.size + 1, 4, none⟩ = some (.int .i64 h.p.log.term)) ∧ (ldX 52 (.pointer (some ⟨w.heap.size + 1, 0, none⟩))).run Try.prog W = .ok (.agg #[.int .i64 h.g, .int .i64 h.t, .int .i64 h.v, .int .i64 h.p.log.base, .int .i64 h.p.log.term, .slice ad.e ne ad.ce, .slice ad.o n0 ad.co, .slice ad.n n1 ad.cn, .slice ad.l n2 ad.cl, .slice ad.s ns ad.cs]) W ∧ (ldX 25 (.pointer (some ⟨w.heap.size + 1, 3, none⟩))).run Try.prog W = .ok (.agg #[.int .i64 h.p.log.base, .int .i64 h.p.log.term, .slice ad.e ne ad.ce]) W)
    (first | with_reducible exact e7 | with_reducible exact e6 | with_reducible exact e5 | with_reducible exact e4 | fail)
    (first
      | (go_at_call 51; refine HSS.out.mono ?_; rintro e v2 ⟨A, c, rfl, ho, hb⟩; obtain ⟨v', hst, hr, hB, hT⟩ := (Q3.out.keep hb).put #[.int .i64 3, .int .i64 id, .int .i64 f.n, .int .i64 h.g, .int .i64 h.t, .int .i64 xm, .int .i64 tv, .int .i64 commit, .int .i64 round, .int .i64 0, .int .i64 0, .int .i64 0, .int .i64 0, .int .i64 0, .bool false, .slice A r c, .slice none 0 0] rfl (by simp [Value.oneCell']); have HO := hid (And.intro hr (And.intro ((ho.keep hT (fun k hk hB => by have := hB.1; have := row_lt Q3.out.rm; omega)).wide Q3.out.bel.size hT.size) hB)); have e6 := (Q3.out.keep hb).lds; have e7 := (Q3.out.keep hb).ldsT hT; clear ho hb hr hB hT)
      | fail)
  all_goals
    (clear e4 e5 e6 e7 HSS
     go_wp2_with fail
     refine bodyPost_ret (results_cell_row rfl _ _ (w.heap.size + 2) _ _ _ _ rfl HO.out.1 Try.underlying31 rfl (by rw [info_msgV]; rfl)) rfl ?_
     exact ⟨A, c, rfl, HO.out.2⟩)
end Go.Proofs.Ytkmbkihfdilmbaa.Fw
namespace Go.Proofs.Ytkmbkihfdilmbaa
open Go.RowKit
set_option maxRecDepth 100000
end Go.Proofs.Ytkmbkihfdilmbaa
namespace Go.Proofs.Ytkmbkihfdilmbaa
open Go.RowKit
end Go.Proofs.Ytkmbkihfdilmbaa
namespace Go.Proofs.Ytkmbkihfdilmbaa
open Go.RowKit
set_option maxRecDepth 100000
end Go.Proofs.Ytkmbkihfdilmbaa
namespace Go.Proofs.Ytkmbkihfdilmbaa.Im
open Go Go.RowKit
open Rl (En Lg)
open Qu (Cf)
open Pk (enc encs)
set_option maxRecDepth 100000
set_option linter.unusedVariables false
attribute [local go_sem ↓] loadAt_hard storeAt_hard
structure Rbs (w w' : World) (A : Option Addr) (l : List Nat) (q : Nat) : Prop where
  is : IsBytes w' w'.heap.size A l
  len : l.length = q
  bel : Below w.heap.size w w'
theorem Rbs.refl {w : World} {A : Option Addr} {l : List Nat} {q : Nat} (h : IsBytes w w.heap.size A l) (hl : l.length = q) : Rbs w w A l q := ⟨h, hl, Below.refl _ _⟩
theorem Rbs.then_ {a b c : World} {A A' : Option Addr} {l l' : List Nat} {q q' : Nat} (h : Rbs a b A l q) (h' : Rbs b c A' l' q') : Rbs a c A' l' q' := ⟨h'.is, h'.len, h.bel.trans (h'.bel.mono h.bel.size)⟩
theorem Rbs.from {a b c : World} {A : Option Addr} {l : List Nat} {q : Nat} (hb : Below a.heap.size a b) (h : Rbs b c A l q) : Rbs a c A l q := ⟨h.is, h.len, hb.trans (h.bel.mono hb.size)⟩
theorem Rbs.row {a b : World} {A : Option Addr} {l : List Nat} {q k : Nat} {o : Obj} (h : Rbs a b A l q) (hr : a.heap[k]? = some o) : b.heap[k]? = some o := (h.bel.block _ (Array.getElem?_eq_some_iff.1 hr).1).trans hr
theorem Rbs.drew {a b : World} {A : Option Addr} {l : List Nat} {q : Nat} (h : Rbs a b A l q) : Rbs a b.drew A l q := ⟨h.is.below (Below.refl _ b).drew, h.len, h.bel.drew⟩
end Go.Proofs.Ytkmbkihfdilmbaa.Im
namespace Go.Proofs.Ytkmbkihfdilmbaa.Im
open Go Go.RowKit
open Rl (En Lg)
open Qu (Cf)
open Pk (enc encs)
set_option maxRecDepth 100000
set_option linter.unusedVariables false
attribute [local go_sem ↓] loadAt_hard storeAt_hard
end Go.Proofs.Ytkmbkihfdilmbaa.Im
namespace Go.Proofs.Ytkmbkihfdilmbaa
open Go.RowKit
end Go.Proofs.Ytkmbkihfdilmbaa
namespace Go.Proofs.Ytkmbkihfdilmbaa
open Go.RowKit
end Go.Proofs.Ytkmbkihfdilmbaa
namespace Go.Proofs.Ytkmbkihfdilmbaa
open Go.RowKit
end Go.Proofs.Ytkmbkihfdilmbaa
namespace Go.Proofs.Ytkmbkihfdilmbaa.Fw
open Go Go.RowKit
open Ms (M)
open Im (ldX stX Hd Pt Ad IsPt encCf)
open Vo (Rw loadAt_msgV storeAt_msgV info_msgV boxes)
set_option maxRecDepth 100000
set_option linter.unusedVariables false
attribute [local go_sem ↓] loadAt_msgV storeAt_msgV loadAt_flow storeAt_flow Im.loadAt_hard Im.storeAt_hard Im.loadAt_log1 Im.storeAt_log1 Im.loadAt_conf3 Im.storeAt_conf3
structure NR (w W : World) (f : Fl) (h : Hd) (ad : Ad) (ne n0 n1 n2 ns : Nat) (b3 : Nat) (cs : Array Value) : Prop where
  nx : Nx w W f h ad ne n0 n1 n2 ns
  m : Rw W b3 cs 31
  lo : w.heap.size + 3 ≤ b3
section
variable {w W W' : World} {f : Fl} {h : Hd} {ad : Ad} {ne n0 n1 n2 ns b3 : Nat} {cs : Array Value}
theorem NR.keep (q : NR w W f h ad ne n0 n1 n2 ns b3 cs) (hb : Below W.heap.size W W') : NR w W' f h ad ne n0 n1 n2 ns b3 cs := ⟨q.nx.keep hb, q.m.keep hb, q.lo⟩
theorem NR.set (q : NR w W f h ad ne n0 n1 n2 ns b3 cs) (i : Nat) (v : Value) : NR w (W.setCell ⟨b3, i, none⟩ v) f h ad ne n0 n1 n2 ns b3 (cs.setIfInBounds i v) := by
  have hlo := q.lo
  exact ⟨⟨q.nx.bel.setCell (show w.heap.size ≤ b3 by omega) _, q.nx.rf.other (by omega) _ _, q.nx.rh.other (by omega) _ _, q.nx.rm.other (by omega) _ _⟩, q.m.put i v, q.lo⟩
end
theorem NR.start (w w1 : World) (f : Fl) (h : Hd) (ad : Ad) (ne n0 n1 n2 ns : Nat) (id round : Int) (q : Nx w w1 f h ad ne n0 n1 n2 ns) (hz : w1.heap.size = w.heap.size + 3) : NR w (w1.alloc (.cells #[.int .i64 0, .int .i64 id, .int .i64 f.n, .int .i64 h.g, .int .i64 h.t, .int .i64 0, .int .i64 0, .int .i64 0, .int .i64 round, .int .i64 0, .int .i64 0, .int .i64 0, .int .i64 0, .int .i64 0, .bool false, .slice none 0 0, .slice none 0 0] 31)) f h ad ne n0 n1 n2 ns w1.heap.size #[.int .i64 0, .int .i64 id, .int .i64 f.n, .int .i64 h.g, .int .i64 h.t, .int .i64 0, .int .i64 0, .int .i64 0, .int .i64 round, .int .i64 0, .int .i64 0, .int .i64 0, .int .i64 0, .int .i64 0, .bool false, .slice none 0 0, .slice none 0 0] :=
  ⟨q.keep ((Below.refl _ _).alloc (Nat.le_refl _) _), heap_alloc_new w1 _, by omega⟩
end Go.Proofs.Ytkmbkihfdilmbaa.Fw
namespace Go.Proofs.Ytkmbkihfdilmbaa
open Go Go.RowKit
set_option maxRecDepth 100000
set_option linter.unusedVariables false
structure Gp where
  p : World → Value → Prop
  mono : ∀ w w' v, p w v → Below w.heap.size w w' → p w' v
def Gp.any : Gp := ⟨fun _ _ => True, fun _ _ _ _ _ => trivial⟩
def Gp.is (v0 : Value) : Gp := ⟨fun _ v => v = v0, fun _ _ _ h _ => h⟩
def Gp.row (lo : Nat) (n : Nat) (cs : Array Value) (t : TypeId) : Gp := ⟨fun w v => ∃ b, lo ≤ b ∧ v = .slice (some ⟨b, 0, none⟩) n n ∧ w.heap[b]? = some (.cells cs t (0, 0)), fun w w' v ⟨b, h0, h1, h2⟩ hb => ⟨b, h0, h1, (hb.block b (Array.getElem?_eq_some_iff.1 h2).1).trans h2⟩⟩
def dstsN (ops : Array Oper) (n : Nat) : List Nat := (ops.toList.take n).filterMap (·.dst)
structure Jg (H : Nat → Gp) (ops : Array Oper) (n : Nat) (a0 : Act) (w0 : World) (listed : Array Bool) (a : Act) (w : World) : Prop where
  size : a.tmps.size = a0.tmps.size
  defers : a.defers = a0.defers
  keep : ∀ s, s ∉ dstsN ops n → a.eval (.tmp s) = a0.eval (.tmp s)
  lsize : listed.size = ops.size
  slots : ∀ j o d, ops[j]? = some o → o.dst = some d → listed.getD j false = true → (H j).p w (a.eval (.tmp d))
  clos : ∀ j o, ops[j]? = some o → listed.getD j false = true → ∀ e ∈ o.after, Region.binds .any e = true → listed.getD e.on false = true
  bel : Below w0.heap.size w0 w
  tail : ∀ j, n ≤ j → listed.getD j false = false
theorem mem_dsts {ops : Array Oper} {n j d : Nat} {o : Oper} (hj : ops[j]? = some o) (hd : o.dst = some d) (hn : j < n) : d ∈ dstsN ops n := by
  refine List.mem_filterMap.2 ⟨o, ?_, hd⟩
  have : (ops.toList.take n)[j]? = some o := by rw [List.getElem?_take, if_pos hn, Array.getElem?_toList]; exact hj
  exact List.mem_of_getElem? this
theorem dst_once {l : List Oper} (h : (l.filterMap (·.dst)).Nodup) : ∀ {i j : Nat} {o o' : Oper} {d : Nat}, l[i]? = some o → l[j]? = some o' → o.dst = some d → o'.dst = some d → i = j := by
  induction l with
  | nil => intro i j o o' d h1; simp at h1
  | cons x l ih =>
    intro i j o o' d h1 h2 h3 h4
    have hm : ∀ {k : Nat} {y : Oper}, l[k]? = some y → y.dst = some d → d ∈ l.filterMap (·.dst) := fun hk hy => List.mem_filterMap.2 ⟨_, List.mem_of_getElem? hk, hy⟩
    have hl : (l.filterMap (·.dst)).Nodup := by
      rcases hx : x.dst with _ | dx
      · rw [List.filterMap_cons_none hx] at h; exact h
      · rw [List.filterMap_cons_some hx] at h; exact (List.nodup_cons.1 h).2
    rcases i with _ | i
    · rcases j with _ | j
      · rfl
      · simp at h1 h2
        subst h1
        rw [List.filterMap_cons_some h3] at h
        exact absurd (hm h2 h4) (List.nodup_cons.1 h).1
    · rcases j with _ | j
      · simp at h1 h2
        subst h2
        rw [List.filterMap_cons_some h4] at h
        exact absurd (hm h1 h3) (List.nodup_cons.1 h).1
      · simp at h1 h2
        rw [ih hl h1 h2 h3 h4]
theorem once_of {ops : Array Oper} {n i j d : Nat} {o o' : Oper} (h : (dstsN ops n).Nodup) (hi : ops[i]? = some o) (hj : ops[j]? = some o') (hin : i < n) (hjn : j < n) (h1 : o.dst = some d) (h2 : o'.dst = some d) : i = j := by
  have t : ∀ {k : Nat} {y : Oper}, ops[k]? = some y → k < n → (ops.toList.take n)[k]? = some y := fun hk hn => by rw [List.getElem?_take, if_pos hn, Array.getElem?_toList]; exact hk
  exact dst_once h (t hi hin) (t hj hjn) h1 h2
section
variable {P : Program} {H : Nat → Gp} {ops : Array Oper} {n : Nat} {a0 : Act} {w0 : World} {Q : Exit → Act → World → Prop}
theorem Jg.step (hn : (dstsN ops n).Nodup) (hb : ∀ d ∈ dstsN ops n, d < a0.tmps.size) {listed : Array Bool} {a : Act} {w w' : World} {v : Value} (h : Jg H ops n a0 w0 listed a w) {i : Nat} {o : Oper} (hi : ops[i]? = some o) (hin : i < n) {d : Nat} (hd : o.dst = some d) (ha : ∀ e ∈ o.after, Region.binds .any e = true → listed.getD e.on false = true)
    (hv : (H i).p w' v) (hw : Below w.heap.size w w') : Jg H ops n a0 w0 (listed.setIfInBounds i true) (a.put o.dst v) w' := by
  have his : i < listed.size := by rw [h.lsize]; exact (Array.getElem?_eq_some_iff.1 hi).1
  have hdm := mem_dsts hi hd hin
  refine ⟨by rw [hd]; simp [Act.put, h.size], by rw [hd]; exact h.defers, fun s hs => ?_, by simp [h.lsize], fun m om dm hm hdm' hl => ?_, fun m om hm hl e he hb => ?_, h.bel.trans (hw.mono h.bel.size), fun m hm => ?_⟩
  · rw [evput_ne a v (by rw [hd]; intro e; injection e with e; subst e; exact hs hdm)]
    exact h.keep s hs
  · rw [listed_set _ _ _ his] at hl
    by_cases e : m = i
    · subst e
      rw [hi] at hm
      obtain rfl := Option.some.inj hm
      rw [hd] at hdm'
      obtain rfl := Option.some.inj hdm'
      rw [hd, evput_self a v (by rw [h.size]; exact hb _ hdm)]
      exact hv
    · rw [if_neg e] at hl
      have hmn : m < n := by
        rcases Nat.lt_or_ge m n with h' | h'
        · exact h'
        · rw [h.tail m h'] at hl; cases hl
      rw [evput_ne a v (fun e' => e (once_of hn hm hi hmn hin hdm' (by rw [e'])))]
      exact (H m).mono _ _ _ (h.slots m om dm hm hdm' hl) hw
  · rw [listed_set _ _ _ his] at hl ⊢
    by_cases e1 : e.on = i
    · rw [if_pos e1]
    · rw [if_neg e1]
      by_cases e2 : m = i
      · subst e2
        rw [hi] at hm
        obtain rfl := Option.some.inj hm
        exact ha e he hb
      · rw [if_neg e2] at hl
        exact h.clos m om hm hl e he hb
  · rw [listed_set _ _ _ his, if_neg (by omega)]; exact h.tail m hm
end
end Go.Proofs.Ytkmbkihfdilmbaa
namespace Go.Proofs.Ytkmbkihfdilmbaa
open Go Go.RowKit
set_option maxRecDepth 100000
set_option linter.unusedVariables false
section
variable {P : Program} {a : Act} {w w' : World} {ty : TypeId} {R : Value → World → Prop} {op : Op} {v : Value}
end
def Gp.rowIn (lo : Nat) (g : Nat → Value) (cs : Array Value) (t : TypeId) : Gp := ⟨fun w v => ∃ b, lo ≤ b ∧ v = g b ∧ w.heap[b]? = some (.cells cs t (0, 0)), fun w w' v ⟨b, h0, h1, h2⟩ hb => ⟨b, h0, h1, (hb.block b (Array.getElem?_eq_some_iff.1 h2).1).trans h2⟩⟩
end Go.Proofs.Ytkmbkihfdilmbaa
namespace Go.Proofs.Ytkmbkihfdilmbaa.Vo
open Go Go.RowKit
open Rl (En Lg)
open Ms (M)
open Im (ldX stX)
set_option maxRecDepth 100000
set_option linter.unusedVariables false
theorem isInts_row {w : World} {b : Nat} {t : TypeId} (l : List Int) (hs : ∀ x ∈ l, InInt x) (h : w.heap[b]? = some (.cells (ints l).toArray t (0, 0))) : IsInts w w.heap.size (some ⟨b, 0, none⟩) l :=
  ⟨hs, fun k hk => ⟨b, 0, rfl, row_lt' h, fun i hi => by rw [Nat.zero_add, row_cell h i, List.getElem?_toArray, ints_get l i hi]⟩⟩
def exC : Qu.Cf := ⟨[1, 2, 3], [3, 5], [7]⟩
def exV (b1 b2 b3 : Nat) : Value := .agg #[.slice (some ⟨b1, 0, none⟩) 3 3, .slice (some ⟨b2, 0, none⟩) 2 2, .slice (some ⟨b3, 0, none⟩) 1 1]
def Gp.seven : Gp := ⟨fun w v => ∃ A, v = .agg #[.int .i64 5, .int .i64 2, .slice A 2 2] ∧ LgIs w w.heap.size sevenL A 2, fun w w' v ⟨A, h0, h1⟩ hb => ⟨A, h0, (h1.below hb).more hb.size⟩⟩
def Gp.exC : Gp := ⟨fun w v => ∃ b1 b2 b3, v = exV b1 b2 b3 ∧ Rw w b1 #[.int .i64 1, .int .i64 2, .int .i64 3] 3 ∧ Rw w b2 #[.int .i64 3, .int .i64 5] 3 ∧ Rw w b3 #[.int .i64 7] 3, fun w w' v ⟨b1, b2, b3, h0, h1, h2, h3⟩ hb => ⟨b1, b2, b3, h0, h1.keep hb, h2.keep hb, h3.keep hb⟩⟩
def HA (gn i : Nat) (x : Int) : Nat → Gp
  | 0 => Gp.is (.slice (some ⟨gn, 0, none⟩) 14 14)
  | 1 => Gp.is (.int .i64 i)
  | 2 => Gp.is (.pointer (some ⟨gn, i, none⟩))
  | 3 => Gp.is (.int .i64 x)
  | 4 => Gp.is (.slice (some ⟨gn, 0, none⟩) 14 14)
  | 5 => Gp.is (.int .i64 i)
  | 6 => Gp.is (.pointer (some ⟨gn, i, none⟩))
  | 7 => Gp.is (.int .i64 x)
  | 8 => Gp.is (.slice (some ⟨gn, 0, none⟩) 14 14)
  | 9 => Gp.is (.int .i64 i)
  | 10 => Gp.is (.pointer (some ⟨gn, i, none⟩))
  | 11 => Gp.is (.int .i64 x)
  | 12 => Gp.seven
  | 13 => Gp.row 0 3 #[.int .i64 1, .int .i64 2, .int .i64 3] 3
  | 14 => Gp.row 0 2 #[.int .i64 3, .int .i64 5] 3
  | 15 => Gp.row 0 1 #[.int .i64 7] 3
  | _ => Gp.exC
end Go.Proofs.Ytkmbkihfdilmbaa.Vo
namespace Go.Proofs.Ytkmbkihfdilmbaa.Fw
open Go Go.RowKit
open Ms (M)
open Rl (En Lg)
open Im (ldX stX Hd Pt Ad IsPt encCf)
open Vo (Rw loadAt_msgV storeAt_msgV info_msgV boxes)
set_option maxRecDepth 100000
set_option linter.unusedVariables false
def exP : Pt := ⟨⟨4, 2, [⟨2, 0, []⟩, ⟨3, 0, []⟩, ⟨3, 0, []⟩]⟩, ⟨[1, 3], [], []⟩, [7]⟩
def exH : Hd := ⟨1, 4, 0, exP⟩
def exV (a o s : Nat) : Value := .agg #[.int .i64 1, .int .i64 4, .int .i64 0, .int .i64 4, .int .i64 2, .slice (some ⟨a, 0, none⟩) 3 3, .slice (some ⟨o, 0, none⟩) 2 2, .slice none 0 0, .slice none 0 0, .slice (some ⟨s, 0, none⟩) 1 1]
def exA (a o s : Nat) : Ad := ⟨some ⟨a, 0, none⟩, 3, some ⟨o, 0, none⟩, 2, none, 0, none, 0, some ⟨s, 0, none⟩, 1⟩
theorem results_cells {fn : Func} {p q : Tmp} {ty tz : TypeId} {n m : Nat} {d d' : TypeDesc} (h : fn.results = #[.cell p ty, .cell q tz]) (hi : (Try.prog.info? ty).map (·.size) = some n) (hu : Try.prog.underlying ty = some d) (hd : d.isRow = true) (hi' : (Try.prog.info? tz).map (·.size) = some m) (hu' : Try.prog.underlying tz = some d') (hd' : d'.isRow = true) (tmps : Array Value) (w : World) (g g' : Nat) (t t' : TypeId) (cs cs' : Array Value) (fr fr' : Nat × Nat)
    (hp : tmps.getD p undef = .pointer (some ⟨g, 0, none⟩)) (hg : w.heap[g]? = some (.cells cs t fr)) (hs : cs.size = n) (hq : tmps.getD q undef = .pointer (some ⟨g', 0, none⟩)) (hg' : w.heap[g']? = some (.cells cs' t' fr')) (hs' : cs'.size = m) :
    (results fn tmps).run Try.prog w = .ok (.tuple #[.agg cs, .agg cs']) w := by
  have hl := run_loadVar_row w g t ty cs fr _ hg hu (by cases d <;> first | rfl | cases hd) (by rw [hi, hs])
  have hl' := run_loadVar_row w g' t' tz cs' fr' _ hg' hu' (by cases d' <;> first | rfl | cases hd') (by rw [hi', hs'])
  have hp' : tmps[p]?.getD undef = .pointer (some ⟨g, 0, none⟩) := by simpa using hp
  have hq' : tmps[q]?.getD undef = .pointer (some ⟨g', 0, none⟩) := by simpa using hq
  simp [results, h, hp', hq', asAddr, hl, hl']
theorem ex_is {W : World} {a o s : Nat} (ra : Rw W a #[.int .i64 2, .int .i64 0, .slice none 0 0, .int .i64 3, .int .i64 0, .slice none 0 0, .int .i64 3, .int .i64 0, .slice none 0 0] 64) (ro : Rw W o #[.int .i64 1, .int .i64 3] 3) (rs : Rw W s #[.int .u8 7] 5) : IsPt W W.heap.size exP (exA a o s) := by
  have cc : ∀ j, W.cell? ⟨a, j, none⟩ = _ := fun j => row_cell ra j
  refine ⟨⟨by simp [exP, InInt], fun k hk => ⟨a, 0, rfl, row_lt ra, fun i hi => ?_⟩⟩, Vo.isInts_row [1, 3] (by simp [InInt]) ro, IsInts.nil, IsInts.nil, Im.bytes_at [7] (by simp) rs, ⟨⟨(show 3 ≤ 3 by decide), (show 3 ≤ maxLen by decide)⟩, by simp [exA]⟩, ⟨⟨(show 2 ≤ 2 by decide), (show 2 ≤ maxLen by decide)⟩, by simp [exA]⟩, ⟨⟨(show 0 ≤ 0 by decide), (show 0 ≤ maxLen by decide)⟩, by simp [exA]⟩, ⟨⟨(show 0 ≤ 0 by decide), (show 0 ≤ maxLen by decide)⟩, by simp [exA]⟩, ⟨⟨(show 1 ≤ 1 by decide), (show 1 ≤ maxLen by decide)⟩, by simp [exA]⟩, by simp [exP, InInt]⟩
  have hi3 : i < 3 := hi
  rcases i with _ | _ | _ | i
  · exact ⟨none, 0, cc 0, cc 1, cc 2, IsBytes.nil, by simp [exP]⟩
  · exact ⟨none, 0, cc 3, cc 4, cc 5, IsBytes.nil, by simp [exP]⟩
  · exact ⟨none, 0, cc 6, cc 7, cc 8, IsBytes.nil, by simp [exP]⟩
  · omega
set_option maxHeartbeats 6400000 in
theorem example_any (w : World) :
    Calls Try.prog 31 #[] w fun e w' => ∃ a o s, e = .returned (.tuple #[.agg #[.int .i64 3, .int .i64 8, .int .i64 2, .int .i64 5], exV a o s]) ∧ IsPt w' w'.heap.size exP (exA a o s) ∧ Below w.heap.size w w' := by
  go_enter Try.func31, Try.ntmps31
  go_wp2_with fail
  go_region_with (fail)
  all_goals
    (go_wp2_with fail
     first
       | (refine bodyPost_ret (results_cells rfl info_flow Try.underlying42 rfl Im.info_hard Try.underlying52 rfl _ _ w.heap.size (w.heap.size + 1) _ _ _ _ _ _ rfl (show (World.drew _).heap[w.heap.size]? = _ from Im.at_old (Im.at_old (Im.at_old (Im.at_old (Im.at_old (Im.at_new rfl)))))) rfl rfl (show (World.drew _).heap[w.heap.size + 1]? = _ from Im.at_old (Im.at_old (Im.at_old (Im.at_old (Im.at_new (by simp)))))) rfl) rfl ?_
          refine ⟨w.heap.size + 1 + 1, w.heap.size + 1 + 1 + 1 + 1, w.heap.size + 1 + 1 + 1 + 1 + 1, rfl, ex_is (show (World.drew _).heap[w.heap.size + 1 + 1]? = _ from Im.at_old (Im.at_old (Im.at_old (Im.at_new (by simp))))) (show (World.drew _).heap[w.heap.size + 1 + 1 + 1 + 1]? = _ from Im.at_old (Im.at_new (by simp))) (show (World.drew _).heap[w.heap.size + 1 + 1 + 1 + 1 + 1]? = _ from Im.at_new (by simp)), ?_⟩
          exact (((((((Below.refl _ w).alloc (by simp) _).alloc (by simp) _).alloc (by simp; omega) _).alloc (by simp; omega) _).alloc (by simp; omega) _).alloc (by simp; omega) _).drew)
       | (refine bodyPost_ret (results_cells rfl info_flow Try.underlying42 rfl Im.info_hard Try.underlying52 rfl _ _ w.heap.size (w.heap.size + 1) _ _ _ _ _ _ rfl (show (World.drew _).heap[w.heap.size]? = _ from Im.at_old (Im.at_old (Im.at_old (Im.at_old (Im.at_old (Im.at_new rfl)))))) rfl rfl (show (World.drew _).heap[w.heap.size + 1]? = _ from Im.at_old (Im.at_old (Im.at_old (Im.at_old (Im.at_new (by simp)))))) rfl) rfl ?_
          refine ⟨w.heap.size + 1 + 1, w.heap.size + 1 + 1 + 1 + 1 + 1, w.heap.size + 1 + 1 + 1 + 1, rfl, ex_is (show (World.drew _).heap[w.heap.size + 1 + 1]? = _ from Im.at_old (Im.at_old (Im.at_old (Im.at_new (by simp))))) (show (World.drew _).heap[w.heap.size + 1 + 1 + 1 + 1 + 1]? = _ from Im.at_new (by simp)) (show (World.drew _).heap[w.heap.size + 1 + 1 + 1 + 1]? = _ from Im.at_old (Im.at_new (by simp))), ?_⟩
          exact (((((((Below.refl _ w).alloc (by simp) _).alloc (by simp) _).alloc (by simp; omega) _).alloc (by simp; omega) _).alloc (by simp; omega) _).alloc (by simp; omega) _).drew))
end Go.Proofs.Ytkmbkihfdilmbaa.Fw
namespace Go.Proofs.Ytkmbkihfdilmbaa.Fw
open Go Go.RowKit
open Ms (M)
open Rl (En Lg)
open Im (ldX stX Hd Pt Ad IsPt encCf)
open Vo (Rw loadAt_msgV storeAt_msgV info_msgV boxes)
set_option maxRecDepth 100000
set_option linter.unusedVariables false
attribute [local go_sem ↓] loadAt_msgV storeAt_msgV loadAt_flow storeAt_flow Im.loadAt_hard Im.storeAt_hard
def exF : Fl := ⟨3, 8, 2, 5⟩
theorem exF_pl : Pl exF := ⟨by decide, by decide, by decide, by decide⟩
theorem heardC (K F i R : Int) (ok : Bool) (n x m r : Int) (hq : heard exF K F i R ok = ⟨n, x, m, r⟩) (hi : 0 ≤ i ∧ i ≤ 1099511627776) (w : World) :
    Calls Try.prog 19 #[.agg #[.int .i64 3, .int .i64 8, .int .i64 2, .int .i64 5], .agg #[.int .i64 K, .int .i64 F, .int .i64 0, .int .i64 0, .int .i64 0, .int .i64 i, .int .i64 0, .int .i64 0, .int .i64 R, .int .i64 0, .int .i64 0, .int .i64 0, .int .i64 0, .int .i64 0, .bool ok, .slice none 0 0, .slice none 0 0]] w fun e w' => e = .returned (.agg #[.int .i64 n, .int .i64 x, .int .i64 m, .int .i64 r]) ∧ Below w.heap.size w w' := by
  have := heard_any exF exF_pl ⟨K, F, 0, 0, 0, i, 0, 0, R, 0, 0, 0, 0, 0, ok, [], []⟩ hi none 0 none 0 w
  rw [show heard exF K F i R ok = ⟨n, x, m, r⟩ from hq] at this
  exact this
theorem exH_ok : Rl.Ok exH.p.log ∧ Rl.Few exH.p.log.es ∧ Fs exH.p := ⟨by unfold Rl.Ok exH exP; simp, by unfold Rl.Few exH exP; simp, ⟨by decide, by decide, by decide, by decide⟩⟩
theorem nextEC (x : Int) (hx : 4 < x ∧ x ≤ 100) (xm tv : Int) (k : Nat) (hxm : x - 1 = xm) (htv : exP.log.termV xm = tv) (hk : (exP.log.slice x 8).length = k) (a o s : Nat) (w : World) (hp : IsPt w w.heap.size exP (exA a o s)) :
    Calls Try.prog 26 #[.agg #[.int .i64 3, .int .i64 x, .int .i64 0, .int .i64 0], .int .i64 1, .agg #[.int .i64 1, .int .i64 4, .int .i64 0, .int .i64 4, .int .i64 2, .slice (some ⟨a, 0, none⟩) 3 3, .slice (some ⟨o, 0, none⟩) 2 2, .slice none 0 0, .slice none 0 0, .slice (some ⟨s, 0, none⟩) 1 1], .int .i64 5, .int .i64 2] w fun e w' => ∃ A c, e = .returned (.agg #[.int .i64 3, .int .i64 1, .int .i64 3, .int .i64 1, .int .i64 4, .int .i64 xm, .int .i64 tv, .int .i64 5, .int .i64 2, .int .i64 0, .int .i64 0, .int .i64 0, .int .i64 0, .int .i64 0, .bool false, .slice A k c, .slice none 0 0]) ∧ Below w.heap.size w w' := by
  subst hxm
  have h := nextE_any ⟨3, x, 0, 0⟩ ⟨(show (0 : Int) ≤ 3 ∧ (3 : Int) ≤ 1099511627777 by decide), ⟨by show 0 ≤ x; omega, by show x ≤ _; omega⟩, (show (0 : Int) ≤ 0 ∧ (0 : Int) ≤ 1099511627777 by decide), (show (0 : Int) ≤ 0 ∧ (0 : Int) ≤ 1099511627777 by decide)⟩ 1 5 2 exH (exA a o s) 3 2 0 0 1 k rfl hk exH_ok.1 exH_ok.2.1 (show ¬ x ≤ 4 by omega) w hp
  refine h.mono ?_
  rintro e w' ⟨A, c, rfl, _, hb⟩
  exact ⟨A, c, by rw [← htv]; rfl, hb⟩
theorem boxes2 (w : World) (a o s : Nat) : ∃ W1 W2, (stX 42 (.pointer (some ⟨w.heap.size, 0, none⟩)) (.agg #[.int .i64 3, .int .i64 8, .int .i64 2, .int .i64 5])).run Try.prog ((w.alloc (.cells #[.int .i64 0, .int .i64 0, .int .i64 0, .int .i64 0] 42)).alloc (.cells #[.int .i64 0, .int .i64 0, .int .i64 0, .int .i64 0, .int .i64 0, .slice none 0 0, .slice none 0 0, .slice none 0 0, .slice none 0 0, .slice none 0 0] 52)) = .ok () W1 ∧ (stX 52 (.pointer (some ⟨w.heap.size + 1, 0, none⟩)) (.agg #[.int .i64 1, .int .i64 4, .int .i64 0, .int .i64 4, .int .i64 2, .slice (some ⟨a, 0, none⟩) 3 3, .slice (some ⟨o, 0, none⟩) 2 2, .slice none 0 0, .slice none 0 0, .slice (some ⟨s, 0, none⟩) 1 1])).run Try.prog W1 = .ok () W2 ∧ Rw W2 w.heap.size #[.int .i64 3, .int .i64 8, .int .i64 2, .int .i64 5] 42 ∧ Rw W2 (w.heap.size + 1) #[.int .i64 1, .int .i64 4, .int .i64 0, .int .i64 4, .int .i64 2, .slice (some ⟨a, 0, none⟩) 3 3, .slice (some ⟨o, 0, none⟩) 2 2, .slice none 0 0, .slice none 0 0, .slice (some ⟨s, 0, none⟩) 1 1] 52 ∧ Below w.heap.size w W2 := by
  obtain ⟨r0, r1⟩ := Rw.two w #[.int .i64 0, .int .i64 0, .int .i64 0, .int .i64 0] #[.int .i64 0, .int .i64 0, .int .i64 0, .int .i64 0, .int .i64 0, .slice none 0 0, .slice none 0 0, .slice none 0 0, .slice none 0 0, .slice none 0 0] 42 52
  obtain ⟨hb, hz⟩ := boxes w #[.int .i64 0, .int .i64 0, .int .i64 0, .int .i64 0] #[.int .i64 0, .int .i64 0, .int .i64 0, .int .i64 0, .int .i64 0, .slice none 0 0, .slice none 0 0, .slice none 0 0, .slice none 0 0, .slice none 0 0] 42 52
  generalize (w.alloc (.cells #[.int .i64 0, .int .i64 0, .int .i64 0, .int .i64 0] 42)).alloc (.cells #[.int .i64 0, .int .i64 0, .int .i64 0, .int .i64 0, .int .i64 0, .slice none 0 0, .slice none 0 0, .slice none 0 0, .slice none 0 0, .slice none 0 0] 52) = W at *
  have t1 := Im.row_turned W w.heap.size #[.int .i64 3, .int .i64 8, .int .i64 2, .int .i64 5]
  have r1' : Rw (W.setRow w.heap.size #[.int .i64 3, .int .i64 8, .int .i64 2, .int .i64 5]) (w.heap.size + 1) #[.int .i64 0, .int .i64 0, .int .i64 0, .int .i64 0, .int .i64 0, .slice none 0 0, .slice none 0 0, .slice none 0 0, .slice none 0 0, .slice none 0 0] 52 := (t1.block _ (by omega) (by omega)).trans r1
  have r0' : Rw (W.setRow w.heap.size #[.int .i64 3, .int .i64 8, .int .i64 2, .int .i64 5]) w.heap.size #[.int .i64 3, .int .i64 8, .int .i64 2, .int .i64 5] 42 := setRow_heap W w.heap.size _ _ _ _ r0
  have t2 := Im.row_turned (W.setRow w.heap.size #[.int .i64 3, .int .i64 8, .int .i64 2, .int .i64 5]) (w.heap.size + 1) #[.int .i64 1, .int .i64 4, .int .i64 0, .int .i64 4, .int .i64 2, .slice (some ⟨a, 0, none⟩) 3 3, .slice (some ⟨o, 0, none⟩) 2 2, .slice none 0 0, .slice none 0 0, .slice (some ⟨s, 0, none⟩) 1 1]
  refine ⟨_, _, Im.stRow info_flow r0 rfl rfl (by simp [Value.oneCell']), Im.stRow Im.info_hard r1' rfl rfl (by simp [Value.oneCell']), (t2.block _ (row_lt r0') (by omega)).trans r0', setRow_heap _ (w.heap.size + 1) _ _ _ _ r1', ?_⟩
  exact (hb.trans (t1.below hb.size (fun k hk => by omega))).trans (t2.below (Nat.le_trans hb.size t1.size) (fun k hk => by omega))
set_option maxHeartbeats 12800000 in
theorem known_any (w : World) : Calls Try.prog 18 #[] w fun e w' => e = .returned (.bool true) ∧ Below w.heap.size w w' := by
  go_enter Try.func18, Try.ntmps18
  go_wp2_with fail
  refine (example_any w).mono ?_
  rintro e u0 ⟨a, o, s, rfl, hp0, hb0⟩
  unfold exV
  obtain ⟨W1, v0, st1, st2, r1, r2, hb1⟩ := boxes2 u0 a o s
  have P0 : Hid (∀ W, Below v0.heap.size v0 W → (IsPt W W.heap.size exP (exA a o s) ∧ Below w.heap.size w W) ∧ Rw W u0.heap.size #[.int .i64 3, .int .i64 8, .int .i64 2, .int .i64 5] 42 ∧ Rw W (u0.heap.size + 1) #[.int .i64 1, .int .i64 4, .int .i64 0, .int .i64 4, .int .i64 2, .slice (some ⟨a, 0, none⟩) 3 3, .slice (some ⟨o, 0, none⟩) 2 2, .slice none 0 0, .slice none 0 0, .slice (some ⟨s, 0, none⟩) 1 1] 52) := hid (fun W hW => by
    have h1 := hb1.trans (hW.mono hb1.size)
    exact ⟨⟨(hp0.below h1).more h1.size, hb0.trans (h1.mono hb0.size)⟩, r1.keep hW, r2.keep hW⟩)
  obtain ⟨bf, hbf⟩ : ∃ b, b = u0.heap.size := ⟨_, rfl⟩
  rw [← hbf] at P0
  have HBF := hid hbf
  have G0 := hid (Below.refl v0.heap.size v0)
  clear hp0 hb0 r1 r2 hb1 hbf
  go_upto_region 2 with fail
  rw [← HBF.out]
  clear st1 st2 HBF
  have ldf := ldF (P0.out v0 G0.out).2.1 rfl
  go_wp2_with fail
  refine (heardC 4 3 9 4 true 3 10 9 5 (by decide) (by decide) v0).mono ?_
  rintro e u1 ⟨rfl, hb⟩
  have hst := Im.stNew u1 42 4 info_flow #[.int .i64 0, .int .i64 0, .int .i64 0, .int .i64 0] #[.int .i64 3, .int .i64 10, .int .i64 9, .int .i64 5] rfl rfl (by simp [Value.oneCell'])
  obtain ⟨v1, hv⟩ : ∃ W, W = u1.alloc (.cells #[.int .i64 3, .int .i64 10, .int .i64 9, .int .i64 5] 42) := ⟨_, rfl⟩
  rw [← hv] at hst
  have hbb : Below u1.heap.size u1 v1 := by rw [hv]; exact (Below.refl _ _).alloc (Nat.le_refl _) _
  obtain ⟨b3, hbx⟩ : ∃ b, b = u1.heap.size := ⟨_, rfl⟩
  have T3_1 : Hid (Rw v1 b3 #[.int .i64 3, .int .i64 10, .int .i64 9, .int .i64 5] 42) := hid (by rw [hv, hbx]; exact heap_alloc_new u1 _)
  have G1 := hid (G0.out.trans ((hb.trans (hbb.mono hb.size)).mono G0.out.size))
  have HBX := hid hbx
  clear hv hbb hb hbx ldf 
  go_upto_region 3 with fail
  rw [← HBX.out]
  clear hst HBX
  have ldf := ldF (P0.out v1 G1.out).2.1 rfl
  go_wp2_with fail
  refine (heardC 4 3 4 0 false 3 5 2 5 (by decide) (by decide) v1).mono ?_
  rintro e u2 ⟨rfl, hb⟩
  have hst := Im.stNew u2 42 4 info_flow #[.int .i64 0, .int .i64 0, .int .i64 0, .int .i64 0] #[.int .i64 3, .int .i64 5, .int .i64 2, .int .i64 5] rfl rfl (by simp [Value.oneCell'])
  obtain ⟨v2, hv⟩ : ∃ W, W = u2.alloc (.cells #[.int .i64 3, .int .i64 5, .int .i64 2, .int .i64 5] 42) := ⟨_, rfl⟩
  rw [← hv] at hst
  have hbb : Below u2.heap.size u2 v2 := by rw [hv]; exact (Below.refl _ _).alloc (Nat.le_refl _) _
  obtain ⟨b4, hbx⟩ : ∃ b, b = u2.heap.size := ⟨_, rfl⟩
  have T4_2 : Hid (Rw v2 b4 #[.int .i64 3, .int .i64 5, .int .i64 2, .int .i64 5] 42) := hid (by rw [hv, hbx]; exact heap_alloc_new u2 _)
  have T3_2 := hid ((T3_1.out.keep hb).keep hbb)
  have G2 := hid (G1.out.trans ((hb.trans (hbb.mono hb.size)).mono G1.out.size))
  have HBX := hid hbx
  clear hv hbb hb hbx ldf T3_1
  go_upto_region 4 with fail
  rw [← HBX.out]
  clear hst HBX
  have ldh := ldHV (P0.out v2 G2.out).2.2 rfl
  go_wp2_with fail
  refine (nextEC 6 (by decide) 5 2 2 rfl (by decide) (by decide) a o s v2 (P0.out v2 G2.out).1.1).mono ?_
  rintro e u3 ⟨A2, c2, rfl, hb⟩
  have hst := Im.stNew u3 31 17 info_msgV #[.int .i64 0, .int .i64 0, .int .i64 0, .int .i64 0, .int .i64 0, .int .i64 0, .int .i64 0, .int .i64 0, .int .i64 0, .int .i64 0, .int .i64 0, .int .i64 0, .int .i64 0, .int .i64 0, .bool false, .slice none 0 0, .slice none 0 0] #[.int .i64 3, .int .i64 1, .int .i64 3, .int .i64 1, .int .i64 4, .int .i64 5, .int .i64 2, .int .i64 5, .int .i64 2, .int .i64 0, .int .i64 0, .int .i64 0, .int .i64 0, .int .i64 0, .bool false, .slice A2 2 c2, .slice none 0 0] rfl rfl (by simp [Value.oneCell'])
  obtain ⟨v3, hv⟩ : ∃ W, W = u3.alloc (.cells #[.int .i64 3, .int .i64 1, .int .i64 3, .int .i64 1, .int .i64 4, .int .i64 5, .int .i64 2, .int .i64 5, .int .i64 2, .int .i64 0, .int .i64 0, .int .i64 0, .int .i64 0, .int .i64 0, .bool false, .slice A2 2 c2, .slice none 0 0] 31) := ⟨_, rfl⟩
  rw [← hv] at hst
  have hbb : Below u3.heap.size u3 v3 := by rw [hv]; exact (Below.refl _ _).alloc (Nat.le_refl _) _
  obtain ⟨b5, hbx⟩ : ∃ b, b = u3.heap.size := ⟨_, rfl⟩
  have T5_3 : Hid (Rw v3 b5 #[.int .i64 3, .int .i64 1, .int .i64 3, .int .i64 1, .int .i64 4, .int .i64 5, .int .i64 2, .int .i64 5, .int .i64 2, .int .i64 0, .int .i64 0, .int .i64 0, .int .i64 0, .int .i64 0, .bool false, .slice A2 2 c2, .slice none 0 0] 31) := hid (by rw [hv, hbx]; exact heap_alloc_new u3 _)
  have T3_3 := hid ((T3_2.out.keep hb).keep hbb)
  have T4_3 := hid ((T4_2.out.keep hb).keep hbb)
  have G3 := hid (G2.out.trans ((hb.trans (hbb.mono hb.size)).mono G2.out.size))
  have HBX := hid hbx
  clear hv hbb hb hbx ldh T3_2 T4_2
  go_upto_region 5 with fail
  rw [← HBX.out]
  clear hst HBX
  have y3 := ldF T3_3.out rfl
  have y4 := ldF T4_3.out rfl
  have z0 := row_cell T5_3.out 0
  have z5 := row_cell T5_3.out 5
  have z6 := row_cell T5_3.out 6
  have z15 := row_cell T5_3.out 15
  have HB := hid (P0.out v3 G3.out).1.2
  go_wp2_with fail
  go_ret
  exact ⟨rfl, HB.out⟩
end Go.Proofs.Ytkmbkihfdilmbaa.Fw
namespace Go.Proofs.Ytkmbkihfdilmbaa.Ms
open Rl (En)
open Pk (St rdInt rdBlob)
set_option maxRecDepth 100000
set_option linter.unusedVariables false
structure Wf (m : M) : Prop where
  num : ∀ r ∈ nums, -9223372036854775808 ≤ m.num r ∧ m.num r ≤ 9223372036854775807
  es : ∀ e ∈ m.es, (-9223372036854775808 ≤ e.t ∧ e.t ≤ 9223372036854775807) ∧ (-9223372036854775808 ≤ e.k ∧ e.k ≤ 9223372036854775807) ∧ ∀ x ∈ e.d, x < 256
  d : ∀ x ∈ m.d, x < 256
theorem rdBlob_put (l t : List Nat) (h : l.length ≤ 1000000000000) : rdBlob ⟨Pk.enc l.length ++ (l ++ t), false⟩ = (l, ⟨t, false⟩) := by
  have e := Pk.rdInt_enc (l.length : Int) (l ++ t) false (by omega)
  unfold rdBlob
  rw [e, if_neg (by simp; omega)]
  simp
theorem rdE_put (e : En) (t : List Nat) (h : (-9223372036854775808 ≤ e.t ∧ e.t ≤ 9223372036854775807) ∧ (-9223372036854775808 ≤ e.k ∧ e.k ≤ 9223372036854775807)) (hd : e.d.length ≤ 1000000000000) : rdE ⟨encE e ++ t, false⟩ = (e, ⟨t, false⟩) := by
  have e1 : encE e ++ t = Pk.enc e.t ++ (Pk.enc e.k ++ (Pk.enc e.d.length ++ (e.d ++ t))) := by unfold encE; simp
  unfold rdE
  rw [e1, Pk.rdInt_enc _ _ _ h.1, Pk.rdInt_enc _ _ _ h.2, rdBlob_put _ _ hd]
theorem rdEs_put : ∀ (L : List En) (t : List Nat), (∀ e ∈ L, (-9223372036854775808 ≤ e.t ∧ e.t ≤ 9223372036854775807) ∧ (-9223372036854775808 ≤ e.k ∧ e.k ≤ 9223372036854775807)) → (∀ e ∈ L, e.d.length ≤ 1000000000000) → rdEs L.length ⟨L.flatMap encE ++ t, false⟩ = (L, ⟨t, false⟩) := by
  intro L
  induction L with
  | nil => intro t _ _; rfl
  | cons e L ih =>
    intro t h hd
    show ((rdE _).1 :: (rdEs L.length (rdE _).2).1, (rdEs L.length (rdE _).2).2) = _
    rw [List.flatMap_cons, List.append_assoc, rdE_put e _ (h e List.mem_cons_self) (hd e List.mem_cons_self)]
    simp only []
    rw [ih t (fun x hx => h x (List.mem_cons_of_mem _ hx)) (fun x hx => hd x (List.mem_cons_of_mem _ hx))]
def cpy (m m0 : M) (r : Nat) : M :=
  if r = 111 then { m0 with ok := m.ok } else if r = 101 then { m0 with es := m0.es ++ m.es } else if r = 100 then { m0 with d := m.d } else m0.set r (m.num r)
theorem rdF_put (m m0 : M) (r : Nat) (hr : r ∈ nums ∨ r = 111 ∨ r = 101 ∨ r = 100) (hw : Wf m) (hs : Small m) (t : List Nat) : rdF m0 ⟨m.encF r ++ t, false⟩ r = some (cpy m m0 r, ⟨t, false⟩) := by
  rcases hr with hr | rfl | rfl | rfl
  · have hne : r ≠ 111 ∧ r ≠ 101 ∧ r ≠ 100 := by
      simp only [nums, List.mem_cons, List.not_mem_nil, or_false] at hr
      omega
    have he : m.encF r = Pk.enc (m.num r) := by unfold M.encF; rw [if_neg hne.1, if_neg hne.2.1, if_neg hne.2.2]
    rw [rdF_num _ _ _ hr, he, Pk.rdInt_enc _ _ _ (hw.num r hr)]
    unfold cpy; rw [if_neg hne.1, if_neg hne.2.1, if_neg hne.2.2]
  · have he : m.encF 111 = Pk.enc (if m.ok = true then 1 else 0) := rfl
    unfold rdF cpy
    rw [if_pos rfl, if_pos rfl, he]
    rcases m.ok with _ | _
    · rw [Pk.rdInt_enc _ _ _ (by simp)]; simp
    · rw [Pk.rdInt_enc _ _ _ (by simp)]; simp
  · have he : m.encF 101 = Pk.enc m.es.length ++ m.es.flatMap encE := rfl
    have h1 := hs.es
    have hd : ∀ e ∈ m.es, e.d.length ≤ 1000000000000 := fun e he => by have := weigh_mem he; have := hs.wt; omega
    have hlen : 24 * m.es.length ≤ (m.es.flatMap encE ++ t).length := by rw [List.length_append, encEs_length]; omega
    have hc : cpy m m0 101 = { m0 with es := m0.es ++ m.es } := rfl
    have hq : ∀ s : St, rdF m0 s 101 = if (rdInt s).1 < 0 ∨ (((rdInt s).2.rest.length / 24 : Nat) : Int) < (rdInt s).1 then none else some ({ m0 with es := m0.es ++ (rdEs (rdInt s).1.toNat (rdInt s).2).1 }, (rdEs (rdInt s).1.toNat (rdInt s).2).2) := fun s => rfl
    rw [hq, hc, he, List.append_assoc, Pk.rdInt_enc _ _ _ (by omega)]
    simp only []
    rw [if_neg (by omega), Int.toNat_natCast, rdEs_put m.es t (fun e he => ⟨(hw.es e he).1, (hw.es e he).2.1⟩) hd]
  · have he : m.encF 100 = Pk.enc m.d.length ++ m.d := rfl
    have h1 := hs.d
    unfold rdF cpy
    rw [if_neg (by decide), if_neg (by decide), if_pos rfl, if_neg (by decide), if_neg (by decide), if_pos rfl, he, List.append_assoc, rdBlob_put _ _ (by omega)]
theorem rdFs_put (m : M) (hw : Wf m) (hs : Small m) : ∀ (L : List Nat) (m0 : M) (t : List Nat), (∀ r ∈ L, r ∈ nums ∨ r = 111 ∨ r = 101 ∨ r = 100) → rdFs L m0 ⟨L.flatMap m.encF ++ t, false⟩ = some (L.foldl (cpy m) m0, ⟨t, false⟩) := by
  intro L
  induction L with
  | nil => intro m0 t _; rfl
  | cons r L ih =>
    intro m0 t h
    show (match rdF m0 _ r with | none => none | some (m', s') => rdFs L m' s') = _
    rw [List.flatMap_cons, List.append_assoc, rdF_put m m0 r (h r List.mem_cons_self) hw hs]
    exact ih _ t (fun x hx => h x (List.mem_cons_of_mem _ hx))
theorem fold_all (m : M) (hk : m.isKind = true) (hf : m.foreign = false) : (tab m.kind).foldl (cpy m) { M0 with K := m.K, F := m.F, T := m.T } = m := by
  have key : ∀ r ∈ all, (tab m.kind).contains r = false → m.blank r = true := fun r hr h => blank_of hf r hr h
  obtain ⟨k, _, k1, k2, hk⟩ := kind_of hk
  rw [hk] at key ⊢
  have h103 := key 103 (by decide)
  have h116 := key 116 (by decide)
  have h105 := key 105 (by decide)
  have h112 := key 112 (by decide)
  have h99 := key 99 (by decide)
  have h114 := key 114 (by decide)
  have h120 := key 120 (by decide)
  have h97 := key 97 (by decide)
  have h98 := key 98 (by decide)
  have h118 := key 118 (by decide)
  have h115 := key 115 (by decide)
  have h111 := key 111 (by decide)
  have h101 := key 101 (by decide)
  have h100 := key 100 (by decide)
  clear key hk hf
  cases m
  match k, k1, k2 with
  | 1, _, _ | 2, _, _ | 3, _, _ | 4, _, _ | 5, _, _ | 6, _, _ | 7, _, _ | 8, _, _ | 9, _, _ | 10, _, _ | 11, _, _ =>
    simp [tab, M.blank, M.num] at h103 h116 h105 h112 h99 h114 h120 h97 h98 h118 h115 h111 h101 h100
    simp [tab, cpy, M.set, M.num, M0, *]
theorem head3_put (m : M) (hw : Wf m) (t : List Nat) : head3 (head.flatMap m.encF ++ t) = ({ M0 with K := m.K, F := m.F, T := m.T }, ⟨t, false⟩) := by
  have e : head.flatMap m.encF ++ t = Pk.enc m.K ++ (Pk.enc m.F ++ (Pk.enc m.T ++ t)) := by simp [head, M.encF, M.num]
  have h1 := hw.num 75 (by decide)
  have h2 := hw.num 70 (by decide)
  have h3 := hw.num 84 (by decide)
  have i1 : m.num 75 = m.K := rfl
  have i2 : m.num 70 = m.F := rfl
  have i3 : m.num 84 = m.T := rfl
  rw [i1] at h1
  rw [i2] at h2
  rw [i3] at h3
  rw [e]
  unfold head3
  simp only [Pk.rdInt_enc _ _ _ h1, Pk.rdInt_enc _ _ _ h2, Pk.rdInt_enc _ _ _ h3]
theorem dec_enc (m : M) (hw : Wf m) (hs : Small m) (hk : m.isKind = true) (hf : m.foreign = false) : dec m.enc = (m, 0) := by
  have h3 := head3_put m hw ((tab m.kind).flatMap m.encF)
  have e : m.enc = head.flatMap m.encF ++ (tab m.kind).flatMap m.encF := by unfold M.enc; rw [List.flatMap_append]
  rw [← e] at h3
  have hr := rdFs_put m hw hs (tab m.kind) { M0 with K := m.K, F := m.F, T := m.T } [] (tab_field _)
  rw [List.append_nil, fold_all m hk hf] at hr
  exact dec_some h3 rfl hk hr rfl
theorem back (m : M) (hw : Wf m) (hs : Small m) (hc : check m = 0) (more : List Nat) (hm : ∀ x ∈ m.enc, x < 256) : get (Fr.frame m.enc ++ more) = if more.length = 0 then (m, 0) else (M0, 2) := by
  obtain ⟨h1, h2, h3, h4, h5⟩ := check_zero hc
  have hl := enc_length m h1 h2
  have hb := Fr.back m.enc more hm (by omega)
  split
  · rename_i h0
    refine get_ok hb ?_ (dec_enc m hw hs h1 h2) hc
    rw [List.length_append, Fr.frame_length]; omega
  · refine get_long hb ?_
    rw [List.length_append, Fr.frame_length]; omega
end Go.Proofs.Ytkmbkihfdilmbaa.Ms
namespace Go.Proofs.Ytkmbkihfdilmbaa.Ms
open Go.RowKit
set_option maxRecDepth 100000
set_option linter.unusedVariables false
attribute [local go_sem ↓] loadAt_msg storeAt_msg
end Go.Proofs.Ytkmbkihfdilmbaa.Ms
namespace Go.Proofs.Ytkmbkihfdilmbaa.Ms
open Go.RowKit
set_option maxRecDepth 100000
set_option linter.unusedVariables false
attribute [local go_sem ↓] loadAt_msg storeAt_msg
def bigMS (m : M) : Bool := big m.es 1000 65536 || decide (65536 < m.d.length)
theorem bigMS_small {m : M} (h : bigMS m = false) : Small m ∧ m.es.length ≤ 1000 := by
  unfold bigMS big at h
  rw [Bool.or_eq_false_iff, Bool.or_eq_false_iff, decide_eq_false_iff_not, decide_eq_false_iff_not, decide_eq_false_iff_not] at h
  exact ⟨⟨by omega, by omega, by omega⟩, by omega⟩
set_option maxHeartbeats 1600000 in
theorem bigMsgS_any (m : M) (A : Option Addr) (c : Nat) (A' : Option Addr) (c' : Nat) (w : World) (h : IsEnts w w.heap.size A m.es) (hd : m.d.length ≤ maxLen) :
    Calls Try.prog 17 #[.agg #[.int .i64 m.K, .int .i64 m.F, .int .i64 m.T, .int .i64 m.g, .int .i64 m.t, .int .i64 m.i, .int .i64 m.p, .int .i64 m.c, .int .i64 m.r, .int .i64 m.x, .int .i64 m.a, .int .i64 m.b, .int .i64 m.v, .int .i64 m.s, .bool m.ok, .slice A m.es.length c, .slice A' m.d.length c'], .int .i64 1000, .int .i64 65536] w fun e w' => e = .returned (.bool (bigMS m)) ∧ Below w.heap.size w w' := by
  have hb : Below w.heap.size w (w.alloc (.cells #[.int .i64 m.K, .int .i64 m.F, .int .i64 m.T, .int .i64 m.g, .int .i64 m.t, .int .i64 m.i, .int .i64 m.p, .int .i64 m.c, .int .i64 m.r, .int .i64 m.x, .int .i64 m.a, .int .i64 m.b, .int .i64 m.v, .int .i64 m.s, .bool m.ok, .slice A m.es.length c, .slice A' m.d.length c'] 31)) := (Below.refl _ w).alloc (Nat.le_refl _) _
  have HB := hid hb
  have HE := hid (big_any w.heap.size A c _ m.es rfl 1000 65536 (by omega) (by omega) _ (h.below hb))
  clear hb h
  obtain ⟨b, hbb⟩ : ∃ b, b = big m.es 1000 65536 := ⟨_, rfl⟩
  have HBB : Hid (∀ x : Bool, decide (65536 < m.d.length) = x → bigMS m = (b || x)) := hid fun x hx => by unfold bigMS; rw [hx, hbb]
  rw [← hbb] at HE
  clear hbb
  unfold maxLen at hd
  go_enter Try.func17, Try.ntmps17
  go_wp2_with fail
  refine HE.out.mono ?_
  rintro e w1 ⟨rfl, hw1⟩
  rw [hw1]
  clear hw1
  cases b
  · by_cases hl : 65536 < m.d.length
    · have HR := hid (HBB.out true (decide_eq_true hl))
      have hl' : decide ((65536 : Int) < (m.d.length : Int)) = true := decide_eq_true (by omega)
      have HL := hid hl'
      clear hl'
      go_wp2_with fail
      go_ret
      rw [HR.out]
      exact ⟨congrArg (fun b => Ending.returned (.bool b)) HL.out, HB.out⟩
    · have HR := hid (HBB.out false (decide_eq_false hl))
      have hl' : decide ((65536 : Int) < (m.d.length : Int)) = false := decide_eq_false (by omega)
      have HL := hid hl'
      clear hl'
      go_wp2_with fail
      go_ret
      rw [HR.out]
      exact ⟨congrArg (fun b => Ending.returned (.bool b)) HL.out, HB.out⟩
  · have HR := hid (HBB.out _ rfl)
    go_wp2_with fail
    go_ret
    rw [HR.out]
    exact ⟨rfl, HB.out⟩
end Go.Proofs.Ytkmbkihfdilmbaa.Ms
namespace Go.Proofs.Ytkmbkihfdilmbaa.Im
open Go.RowKit
open Rl (En Lg)
open Qu (Cf)
set_option maxRecDepth 100000
set_option linter.unusedVariables false
attribute [local go_sem ↓] loadAt_hard storeAt_hard
end Go.Proofs.Ytkmbkihfdilmbaa.Im
namespace Go.Proofs.Ytkmbkihfdilmbaa
open Go.RowKit Go.ChangeShapes Go.WideShapes Go.Deep
theorem bytes_of_trod {H : Type} {enc : TypeId × Value → H} {W : World} {fuel : Nat} {cs : List Value} {x : DataW H × List MemPlace} (h : DataW.trod enc Try.prog W 0 (fun _ => true) true fuel 29 cs = some x) :
    ∃ (a : Option Addr) (c : Nat) (l : List Nat), cs = [.slice a l.length c] ∧ IsBytes W W.heap.size a l ∧ (l.length ≤ c ∧ c ≤ maxLen) ∧ (a = none → c = 0) := by
  rcases open_ints Try.underlying29 Try.underlying5 (by kernel_rfl) h with ⟨hcs, _⟩ | ⟨x, l, c, zs, hcs, _, hl, hm, hz, hx, hcell, hwz⟩
  · exact ⟨none, 0, [], hcs, IsBytes.nil, ⟨Nat.le_refl _, Nat.zero_le _⟩, fun _ => rfl⟩
  · simp only [if_true] at hz
    obtain ⟨m, h1, h2⟩ := isBytes_of_ints hl hz hcell hwz
    subst h2
    exact ⟨some x, c, m, hcs, h1, ⟨hl, hm⟩, fun h => by cases h⟩
theorem int_of_trod {H : Type} {enc : TypeId × Value → H} {W : World} {fuel : Nat} {cs : List Value} {x : DataW H × List MemPlace} (h : DataW.trod enc Try.prog W 0 (fun _ => true) true fuel 3 cs = some x) : ∃ n, cs = [.int .i64 n] ∧ InInt n := by
  obtain ⟨n, h1, _, h2⟩ := DataW.trod_int Try.underlying3 h
  exact ⟨n, h1, bounds_i64 h2⟩
theorem one_cell {cs : List Value} {n : Nat} (h : cs.length = n) (j : Nat) (hj : j < n) : (cs.drop j).take 1 = [cs[j]'(by omega)] := by
  rw [List.drop_eq_getElem_cons (by omega)]
  rfl
theorem cellsOf_ent : Try.prog.cellsOf 64 = 3 := by kernel_rfl
set_option maxRecDepth 100000 in
theorem ent_of_trod1 {H : Type} {enc : TypeId × Value → H} {W : World} {fuel : Nat} {a : Addr} {cs : List Value} {x : DataW H × List MemPlace} (hc : W.cells? 0 a 3 = some cs) (h : DataW.trod enc Try.prog W 0 (fun _ => true) true fuel 64 cs = some x) :
    ∃ t : Rl.En, (InInt t.t ∧ InInt t.k) ∧ ∀ b o, a = ⟨b, o, none⟩ → EnAt W W.heap.size b o t := by
  obtain ⟨_, hcl, hat⟩ := World.cells?_some hc
  obtain ⟨ys, n, _, _, _, hyl, hf⟩ := DataW.trod_struct Try.underlying64 h
  have hyl4 : ys.length = 3 := hyl
  have e0 : DataW.trod enc Try.prog W 0 (fun _ => true) true n 3 ((cs.drop 0).take (Try.prog.cellsOf 3)) = ys[0]? := hf 0 _ rfl
  have e1 : DataW.trod enc Try.prog W 0 (fun _ => true) true n 3 ((cs.drop 1).take (Try.prog.cellsOf 3)) = ys[1]? := hf 1 _ rfl
  have e2 : DataW.trod enc Try.prog W 0 (fun _ => true) true n 29 ((cs.drop 2).take (Try.prog.cellsOf 29)) = ys[2]? := hf 2 _ rfl
  have c1 : Try.prog.cellsOf 3 = 1 := by kernel_rfl
  have c2 : Try.prog.cellsOf 29 = 1 := by kernel_rfl
  rw [c1] at e0
  rw [one_cell hcl 0 (by omega), List.getElem?_eq_getElem (by omega)] at e0
  rw [c1] at e1
  rw [one_cell hcl 1 (by omega), List.getElem?_eq_getElem (by omega)] at e1
  rw [c2] at e2
  rw [one_cell hcl 2 (by omega), List.getElem?_eq_getElem (by omega)] at e2
  obtain ⟨k0, k01, k02⟩ := int_of_trod e0
  have k01 := (List.cons.inj k01).1
  obtain ⟨k1, k11, k12⟩ := int_of_trod e1
  have k11 := (List.cons.inj k11).1
  obtain ⟨ap, cp, p, k21, p2, p3, p4⟩ := bytes_of_trod e2
  have k21 := (List.cons.inj k21).1
  refine ⟨⟨k0, k1, p⟩, ⟨k02, k12⟩, fun b o e => ?_⟩
  subst e
  have g : ∀ j, (hj : j < 3) → W.cell? ⟨b, o + j, none⟩ = some (cs[j]'(by omega)) := fun j hj => by
    have := hat j hj
    rw [List.getElem?_eq_getElem (by omega)] at this
    rw [← this]
    congr 1
    unfold Addr.add; split <;> simp [*]
  exact ⟨ap, cp, by have := g 0 (by omega); rw [k01] at this; exact this, by have := g 1 (by omega); rw [k11] at this; exact this, by have := g 2 (by omega); rw [k21] at this; exact this, p2, p3, p4⟩
set_option maxRecDepth 100000 in
theorem ents_of_trod {H : Type} {enc : TypeId × Value → H} {W : World} {fuel : Nat} {cs : List Value} {x : DataW H × List MemPlace} (h : DataW.trod enc Try.prog W 0 (fun _ => true) true fuel 23 cs = some x) :
    ∃ (a : Option Addr) (c : Nat) (ts : List Rl.En), cs = [.slice a ts.length c] ∧ IsEnts W W.heap.size a ts ∧ (ts.length ≤ c ∧ c ≤ maxLen) ∧ (a = none → c = 0) := by
  rcases open_slice Try.underlying23 h with ⟨hcs, _⟩ | ⟨a, len, cap, m, n, D, Pl, hcs, _, hl, hm, hmm, _, hi⟩
  · exact ⟨none, 0, [], hcs, IsEnts.nil, ⟨Nat.le_refl _, Nat.zero_le _⟩, fun _ => rfl⟩
  · simp only [if_true] at hmm
    subst hmm
    rw [cellsOf_ent] at hi
    have hth : ∀ i, i < len → ∃ t : Rl.En, ((InInt t.t ∧ InInt t.k) ∧ ∀ b o, a.add (i * 3) = ⟨b, o, none⟩ → EnAt W W.heap.size b o t) ∧ ∃ cs, W.cells? 0 (a.add (i * 3)) 3 = some cs := fun i hlt => by
      obtain ⟨cs', h1, h2⟩ := hi i (by omega)
      obtain ⟨t, ht⟩ := ent_of_trod1 h1 h2
      exact ⟨t, ht, cs', h1⟩
    refine ⟨some a, m, (List.range len).attach.map (fun i => (hth i.1 (List.mem_range.1 i.2)).choose), ?_, ⟨fun e he => ?_, fun k hk => ?_⟩, ?_, fun h => by cases h⟩
    · rw [hcs]; simp
    · obtain ⟨i, hi, rfl⟩ := List.mem_map.1 he
      have hi2 : i.1 < len := List.mem_range.1 i.2
      exact (hth i.1 hi2).choose_spec.1.1
    · have hk' : k < len := by simpa using hk
      obtain ⟨cs0, hcs0⟩ := (hth 0 (by omega)).choose_spec.2
      obtain ⟨_, hcl, hat⟩ := World.cells?_some hcs0
      have hsp := hat 0 (by omega)
      rw [List.getElem?_eq_getElem (by omega)] at hsp
      have hlt := World.block_lt_of_cell? _ _ hsp
      have hspot := World.cell?_spot hsp
      obtain ⟨b, off, spot⟩ := a
      have hs : spot = none := by simpa [Addr.add] using hspot
      subst hs
      have hb : b < W.heap.size := by
        simpa [Addr.add] using hlt
      refine ⟨b, off, rfl, hb, fun i hi' => ?_⟩
      have hi2 : i < len := by simpa using hi'
      simp only [List.getElem_map, List.getElem_attach, List.getElem_range]
      refine (hth i hi2).choose_spec.1.2 b (off + i * 3) ?_
      unfold Addr.add; split <;> simp [*]
    · simp; exact ⟨hl, hm⟩
end Go.Proofs.Ytkmbkihfdilmbaa
namespace Go.Proofs.Ytkmbkihfdilmbaa
open Go.RowKit Go.ChangeShapes Go.WideShapes Go.Deep
set_option maxRecDepth 100000
theorem cellsOf_log : Try.prog.cellsOf 25 = 3 := by kernel_rfl
theorem log_of_trod {H : Type} {enc : TypeId × Value → H} {W : World} {fuel : Nat} {cs : List Value} {x : DataW H × List MemPlace} (hcl : cs.length = 3) (h : DataW.trod enc Try.prog W 0 (fun _ => true) true fuel 25 cs = some x) :
    ∃ (g : Rl.Lg) (a : Option Addr) (c : Nat), cs = [.int .i64 g.base, .int .i64 g.term, .slice a g.es.length c] ∧ LgIs W W.heap.size g a c := by
  obtain ⟨ys, n, _, _, _, hyl, hf⟩ := DataW.trod_struct Try.underlying25 h
  have hyl3 : ys.length = 3 := hyl
  have e0 : DataW.trod enc Try.prog W 0 (fun _ => true) true n 3 ((cs.drop 0).take (Try.prog.cellsOf 3)) = ys[0]? := hf 0 _ rfl
  have e1 : DataW.trod enc Try.prog W 0 (fun _ => true) true n 3 ((cs.drop 1).take (Try.prog.cellsOf 3)) = ys[1]? := hf 1 _ rfl
  have e2 : DataW.trod enc Try.prog W 0 (fun _ => true) true n 23 ((cs.drop 2).take (Try.prog.cellsOf 23)) = ys[2]? := hf 2 _ rfl
  have c1 : Try.prog.cellsOf 3 = 1 := by kernel_rfl
  have c2 : Try.prog.cellsOf 23 = 1 := by kernel_rfl
  rw [c1] at e0 e1
  rw [c2] at e2
  rw [one_cell hcl 0 (by omega), List.getElem?_eq_getElem (by omega)] at e0
  rw [one_cell hcl 1 (by omega), List.getElem?_eq_getElem (by omega)] at e1
  rw [one_cell hcl 2 (by omega), List.getElem?_eq_getElem (by omega)] at e2
  obtain ⟨k0, p1, p2⟩ := int_of_trod e0
  obtain ⟨k1, q1, q2⟩ := int_of_trod e1
  obtain ⟨a, c, ts, r1, r2, r3, r4⟩ := ents_of_trod e2
  have p1 := (List.cons.inj p1).1
  have q1 := (List.cons.inj q1).1
  have r1 := (List.cons.inj r1).1
  refine ⟨⟨k0, k1, ts⟩, a, c, ?_, ⟨r2, r3, r4, p2, q2⟩⟩
  match cs, hcl with
  | [x0, x1, x2], _ =>
    simp at p1 q1 r1
    rw [p1, q1, r1]
end Go.Proofs.Ytkmbkihfdilmbaa
namespace Go.Proofs.Ytkmbkihfdilmbaa
open Go.RowKit Go.ChangeShapes Go.WideShapes Go.Deep
set_option maxRecDepth 100000
theorem intsIn_of_trod {H : Type} {enc : TypeId × Value → H} {W : World} {fuel : Nat} {cs : List Value} {x : DataW H × List MemPlace} (h : DataW.trod enc Try.prog W 0 (fun _ => true) true fuel 22 cs = some x) :
    ∃ (a : Option Addr) (c : Nat) (l : List Int), cs = [.slice a l.length c] ∧ IsInts W W.heap.size a l ∧ (l.length ≤ c ∧ c ≤ maxLen) ∧ (a = none → c = 0) := by
  rcases open_ints Try.underlying22 Try.underlying3 (by kernel_rfl) h with ⟨hcs, _⟩ | ⟨x, l, c, zs, hcs, _, hl, hm, hz, hx, hcell, hwz⟩
  · exact ⟨none, 0, [], hcs, IsInts.nil, ⟨Nat.le_refl _, Nat.zero_le _⟩, fun _ => rfl⟩
  · simp only [if_true] at hz
    obtain ⟨m, h1, h2⟩ := isInts_of_ints hl hz hcell hwz
    subst h2
    exact ⟨some x, c, m, hcs, h1, ⟨hl, hm⟩, fun h => by cases h⟩
theorem one_cell3 {cs : List Value} (h : cs.length = 3) (j : Nat) (hj : j < 3) : (cs.drop j).take 1 = [cs[j]'(by omega)] := by
  rw [List.drop_eq_getElem_cons (by omega)]
  rfl
theorem cellsOf_conf : Try.prog.cellsOf 37 = 3 := by kernel_rfl
theorem conf_of_trod {H : Type} {enc : TypeId × Value → H} {W : World} {fuel : Nat} {cs : List Value} {x : DataW H × List MemPlace} (hcl : cs.length = 3) (h : DataW.trod enc Try.prog W 0 (fun _ => true) true fuel 37 cs = some x) :
    ∃ (c : Qu.Cf) (a0 a1 a2 : Option Addr) (k0 k1 k2 : Nat), cs = [.slice a0 c.old.length k0, .slice a1 c.new.length k1, .slice a2 c.lrn.length k2] ∧ CIs W W.heap.size c a0 a1 a2 k0 k1 k2 := by
  obtain ⟨ys, n, _, _, _, hyl, hf⟩ := DataW.trod_struct Try.underlying37 h
  have hyl3 : ys.length = 3 := hyl
  have e0 : DataW.trod enc Try.prog W 0 (fun _ => true) true n 22 ((cs.drop 0).take (Try.prog.cellsOf 22)) = ys[0]? := hf 0 _ rfl
  have e1 : DataW.trod enc Try.prog W 0 (fun _ => true) true n 22 ((cs.drop 1).take (Try.prog.cellsOf 22)) = ys[1]? := hf 1 _ rfl
  have e2 : DataW.trod enc Try.prog W 0 (fun _ => true) true n 22 ((cs.drop 2).take (Try.prog.cellsOf 22)) = ys[2]? := hf 2 _ rfl
  have c3 : Try.prog.cellsOf 22 = 1 := by kernel_rfl
  rw [c3] at e0 e1 e2
  rw [one_cell3 hcl 0 (by omega), List.getElem?_eq_getElem (by omega)] at e0
  rw [one_cell3 hcl 1 (by omega), List.getElem?_eq_getElem (by omega)] at e1
  rw [one_cell3 hcl 2 (by omega), List.getElem?_eq_getElem (by omega)] at e2
  obtain ⟨a0, k0, l0, p1, p2, p3, p4⟩ := intsIn_of_trod e0
  obtain ⟨a1, k1, l1, q1, q2, q3, q4⟩ := intsIn_of_trod e1
  obtain ⟨a2, k2, l2, r1, r2, r3, r4⟩ := intsIn_of_trod e2
  have p1 := (List.cons.inj p1).1
  have q1 := (List.cons.inj q1).1
  have r1 := (List.cons.inj r1).1
  refine ⟨⟨l0, l1, l2⟩, a0, a1, a2, k0, k1, k2, ?_, ⟨p2, q2, r2, p4, q4, r4, p3, q3, r3⟩⟩
  match cs, hcl with
  | [x0, x1, x2], _ =>
    simp at p1 q1 r1
    rw [p1, q1, r1]
end Go.Proofs.Ytkmbkihfdilmbaa
namespace Go.Proofs.Ytkmbkihfdilmbaa.Im
open Go.RowKit Go.ChangeShapes Go.WideShapes Go.Deep
set_option maxRecDepth 100000
theorem cellsOf_int : Try.prog.cellsOf 3 = 1 := by kernel_rfl
theorem cellsOf_bytes : Try.prog.cellsOf 29 = 1 := by kernel_rfl
theorem cellsOf_hard : Try.prog.cellsOf 52 = 10 := by kernel_rfl
theorem len_sub {cs : List Value} {n j k : Nat} (h : cs.length = n) (hj : j + k ≤ n) : ((cs.drop j).take k).length = k := by
  rw [List.length_take, List.length_drop]; omega
theorem add_off (b o k : Nat) : (⟨b, o, none⟩ : Addr).add k = ⟨b, o + k, none⟩ := by unfold Addr.add; split <;> simp [*]
theorem pt_in {H : Type} {enc : TypeId × Value → H} {W : World} {fuel : Nat} {c1 c2 c3 : List Value} {x1 x2 x3 : DataW H × List MemPlace} (h1 : c1.length = 3) (h2 : c2.length = 3)
    (e1 : DataW.trod enc Try.prog W 0 (fun _ => true) true fuel 25 c1 = some x1)
    (e2 : DataW.trod enc Try.prog W 0 (fun _ => true) true fuel 37 c2 = some x2)
    (e3 : DataW.trod enc Try.prog W 0 (fun _ => true) true fuel 29 c3 = some x3) :
    ∃ (p : Pt) (a : Ad), c1 ++ (c2 ++ c3) = [.int .i64 p.log.base, .int .i64 p.log.term, .slice a.e p.log.es.length a.ce, .slice a.o p.cf.old.length a.co, .slice a.n p.cf.new.length a.cn, .slice a.l p.cf.lrn.length a.cl, .slice a.s p.sn.length a.cs] ∧ IsPt W W.heap.size p a := by
  obtain ⟨g, a, c, r1, r2⟩ := log_of_trod h1 e1
  obtain ⟨f, a0, a1, a2, k0, k1, k2, s1, s2⟩ := conf_of_trod h2 e2
  obtain ⟨ab, cb, l, t1, t2, t3, t4⟩ := bytes_of_trod e3
  refine ⟨⟨g, f, l⟩, ⟨a, c, a0, k0, a1, k1, a2, k2, ab, cb⟩, ?_, ⟨r2.es, s2.o, s2.n, s2.l, t2, ⟨r2.room, r2.none_⟩, ⟨s2.co, s2.zo⟩, ⟨s2.cn, s2.zn⟩, ⟨s2.cl, s2.zl⟩, ⟨t3, t4⟩, r2.num⟩⟩
  rw [r1, s1, t1]
  rfl
theorem split10 {cs : List Value} (h : cs.length = 10) : cs = (cs.drop 0).take 1 ++ ((cs.drop 1).take 1 ++ ((cs.drop 2).take 1 ++ (((cs.drop 3).take 3 ++ ((cs.drop 6).take 3 ++ (cs.drop 9).take 1))))) := by
  match cs, h with
  | [_, _, _, _, _, _, _, _, _, _], _ => rfl
theorem hard_in {H : Type} {enc : TypeId × Value → H} {W : World} {fuel : Nat} {cs : List Value} {x : DataW H × List MemPlace} (hcl : cs.length = 10) (h : DataW.trod enc Try.prog W 0 (fun _ => true) true fuel 52 cs = some x) :
    ∃ q : Hq, cs = cellsH q ∧ IsPt W W.heap.size q.h.p q.a ∧ (InInt q.h.g ∧ InInt q.h.t ∧ InInt q.h.v) := by
  obtain ⟨ys, n, _, _, _, hyl, hf⟩ := DataW.trod_struct Try.underlying52 h
  have hyl5 : ys.length = 6 := hyl
  have e0 : DataW.trod enc Try.prog W 0 (fun _ => true) true n 3 ((cs.drop 0).take (Try.prog.cellsOf 3)) = ys[0]? := hf 0 _ rfl
  rw [cellsOf_int, List.getElem?_eq_getElem (by omega)] at e0
  obtain ⟨i0, p0, q0⟩ := int_of_trod e0
  have e1 : DataW.trod enc Try.prog W 0 (fun _ => true) true n 3 ((cs.drop 1).take (Try.prog.cellsOf 3)) = ys[1]? := hf 1 _ rfl
  rw [cellsOf_int, List.getElem?_eq_getElem (by omega)] at e1
  obtain ⟨i1, p1, q1⟩ := int_of_trod e1
  have e2 : DataW.trod enc Try.prog W 0 (fun _ => true) true n 3 ((cs.drop 2).take (Try.prog.cellsOf 3)) = ys[2]? := hf 2 _ rfl
  rw [cellsOf_int, List.getElem?_eq_getElem (by omega)] at e2
  obtain ⟨i2, p2, q2⟩ := int_of_trod e2
  have e3a : DataW.trod enc Try.prog W 0 (fun _ => true) true n 25 ((cs.drop 3).take (Try.prog.cellsOf 25)) = ys[3]? := hf 3 _ rfl
  have e3b : DataW.trod enc Try.prog W 0 (fun _ => true) true n 37 ((cs.drop 6).take (Try.prog.cellsOf 37)) = ys[4]? := hf 4 _ rfl
  have e3c : DataW.trod enc Try.prog W 0 (fun _ => true) true n 29 ((cs.drop 9).take (Try.prog.cellsOf 29)) = ys[5]? := hf 5 _ rfl
  rw [cellsOf_log, List.getElem?_eq_getElem (by omega)] at e3a
  rw [cellsOf_conf, List.getElem?_eq_getElem (by omega)] at e3b
  rw [cellsOf_bytes, List.getElem?_eq_getElem (by omega)] at e3c
  obtain ⟨pt, ad, hp, hq⟩ := pt_in (len_sub hcl (by omega)) (len_sub hcl (by omega)) e3a e3b e3c
  refine ⟨⟨⟨i0, i1, i2, pt⟩, ad⟩, ?_, hq, q0, q1, q2⟩
  rw [split10 hcl, p0, p1, p2, hp]
  rfl
structure ImIs (w : World) (B : Nat) (i : Ia) (Q : List Hq) (L : List Vt) : Prop where
  h : IsHds w B i.h Q
  v : IsVs w B i.v L
  rh : (Q.length ≤ i.ch ∧ i.ch ≤ maxLen) ∧ (i.h = none → i.ch = 0)
  rv : (L.length ≤ i.cv ∧ i.cv ≤ maxLen) ∧ (i.v = none → i.cv = 0)
theorem ImIs.below {w w' : World} {B : Nat} {i : Ia} {Q : List Hq} {L : List Vt} (h : ImIs w B i Q L) (hb : Below B w w') : ImIs w' B i Q L := ⟨h.h.below hb, h.v.below hb, h.rh, h.rv⟩
theorem ImIs.more {w : World} {B B' : Nat} {i : Ia} {Q : List Hq} {L : List Vt} (h : ImIs w B i Q L) (hB : B ≤ B') : ImIs w B' i Q L := ⟨h.h.more hB, h.v.more hB, h.rh, h.rv⟩
structure ChIs (w : World) (B : Nat) (c : Ch) (a : Ad) : Prop where
  pt : IsPt w B c.p a
  num : (InInt c.k ∧ InInt c.g ∧ InInt c.t ∧ InInt c.v ∧ InInt c.f) ∧ okV c.a
theorem ChIs.below {w w' : World} {B : Nat} {c : Ch} {a : Ad} (h : ChIs w B c a) (hb : Below B w w') : ChIs w' B c a := ⟨h.pt.below hb, h.num⟩
theorem ChIs.more {w : World} {B B' : Nat} {c : Ch} {a : Ad} (h : ChIs w B c a) (hB : B ≤ B') : ChIs w B' c a := ⟨h.pt.more hB, h.num⟩
end Go.Proofs.Ytkmbkihfdilmbaa.Im
namespace Go.Proofs.Ytkmbkihfdilmbaa.Fw
open Go Go.RowKit
open Im (Hd Pt Ad IsPt Hq cellsH hard_in cellsOf_int cellsOf_hard len_sub)
set_option maxRecDepth 100000
set_option linter.unusedVariables false
theorem cellsOf_flow : Try.prog.cellsOf 42 = 4 := by kernel_rfl
def cellsF (f : Fl) : List Value := [.int .i64 f.n, .int .i64 f.x, .int .i64 f.m, .int .i64 f.r]
def NumF (f : Fl) : Prop := InInt f.n ∧ InInt f.x ∧ InInt f.m ∧ InInt f.r
theorem flow_in {H : Type} {enc : TypeId × Value → H} {W : World} {fuel : Nat} {cs : List Value} {x : DataW H × List MemPlace} (hcl : cs.length = 4) (h : DataW.trod enc Try.prog W 0 (fun _ => true) true fuel 42 cs = some x) :
    ∃ f : Fl, cs = cellsF f ∧ NumF f := by
  obtain ⟨ys, n, _, _, _, hyl, hf⟩ := DataW.trod_struct Try.underlying42 h
  have hyl5 : ys.length = 4 := hyl
  have e0 : DataW.trod enc Try.prog W 0 (fun _ => true) true n 3 ((cs.drop 0).take (Try.prog.cellsOf 3)) = ys[0]? := hf 0 _ rfl
  rw [cellsOf_int, List.getElem?_eq_getElem (by omega)] at e0
  obtain ⟨i0, p0, q0⟩ := int_of_trod e0
  have e1 : DataW.trod enc Try.prog W 0 (fun _ => true) true n 3 ((cs.drop 1).take (Try.prog.cellsOf 3)) = ys[1]? := hf 1 _ rfl
  rw [cellsOf_int, List.getElem?_eq_getElem (by omega)] at e1
  obtain ⟨i1, p1, q1⟩ := int_of_trod e1
  have e2 : DataW.trod enc Try.prog W 0 (fun _ => true) true n 3 ((cs.drop 2).take (Try.prog.cellsOf 3)) = ys[2]? := hf 2 _ rfl
  rw [cellsOf_int, List.getElem?_eq_getElem (by omega)] at e2
  obtain ⟨i2, p2, q2⟩ := int_of_trod e2
  have e3 : DataW.trod enc Try.prog W 0 (fun _ => true) true n 3 ((cs.drop 3).take (Try.prog.cellsOf 3)) = ys[3]? := hf 3 _ rfl
  rw [cellsOf_int, List.getElem?_eq_getElem (by omega)] at e3
  obtain ⟨i3, p3, q3⟩ := int_of_trod e3
  refine ⟨⟨i0, i1, i2, i3⟩, ?_, q0, q1, q2, q3⟩
  have hs : cs = (cs.drop 0).take 1 ++ ((cs.drop 1).take 1 ++ ((cs.drop 2).take 1 ++ (cs.drop 3).take 1)) := by
    match cs, hcl with
    | [_, _, _, _], _ => rfl
  rw [hs, p0, p1, p2, p3]
  rfl
theorem flow_open {H : Type} {enc : TypeId × Value → H} {W : World} {cs : Array Value} {d : DataW H} {p : List MemPlace} (hsz : cs.size = Try.prog.cellsOf 42) (h : DataW.Trod enc Try.prog W 0 (fun _ => true) true 42 (.agg cs) d p) :
    ∃ f : Fl, cs = #[.int .i64 f.n, .int .i64 f.x, .int .i64 f.m, .int .i64 f.r] := by
  obtain ⟨fuel, hf⟩ := h
  rw [cellsOf_flow] at hsz
  have hf : DataW.trod enc Try.prog W 0 (fun _ => true) true fuel 42 cs.toList = some (d, p) := hf
  obtain ⟨f, e, _⟩ := flow_in (by simpa using hsz) hf
  refine ⟨f, ?_⟩
  rw [← Array.toArray_toList (xs := cs), e]
  rfl
end Go.Proofs.Ytkmbkihfdilmbaa.Fw
namespace Go.Proofs.Ytkmbkihfdilmbaa.Ms
open Go.RowKit Go.ChangeShapes Go.WideShapes Go.Deep
set_option maxRecDepth 100000
theorem cellsOf_msg : Try.prog.cellsOf 31 = 17 := by kernel_rfl
theorem msg_of_trod {H : Type} {enc : TypeId × Value → H} {W : World} {fuel : Nat} {cs : List Value} {x : DataW H × List MemPlace} (hcl : cs.length = 17) (h : DataW.trod enc Try.prog W 0 (fun _ => true) true fuel 31 cs = some x) :
    ∃ (m : M) (A : Option Addr) (c : Nat) (A' : Option Addr) (c' : Nat), cs = (#[.int .i64 m.K, .int .i64 m.F, .int .i64 m.T, .int .i64 m.g, .int .i64 m.t, .int .i64 m.i, .int .i64 m.p, .int .i64 m.c, .int .i64 m.r, .int .i64 m.x, .int .i64 m.a, .int .i64 m.b, .int .i64 m.v, .int .i64 m.s, .bool m.ok, .slice A m.es.length c, .slice A' m.d.length c'] : Array Value).toList ∧ Is W W.heap.size m A c A' c' := by
  obtain ⟨ys, n, _, _, _, hyl, hf⟩ := DataW.trod_struct Try.underlying31 h
  have hyl17 : ys.length = 17 := hyl
  have ci : Try.prog.cellsOf 3 = 1 := by kernel_rfl
  have cb : Try.prog.cellsOf 4 = 1 := by kernel_rfl
  have ce : Try.prog.cellsOf 23 = 1 := by kernel_rfl
  have cd : Try.prog.cellsOf 29 = 1 := by kernel_rfl
  have e0 : DataW.trod enc Try.prog W 0 (fun _ => true) true n 3 ((cs.drop 0).take (Try.prog.cellsOf 3)) = ys[0]? := hf 0 _ rfl
  rw [ci, one_cell hcl 0 (by omega), List.getElem?_eq_getElem (by omega)] at e0
  have e1 : DataW.trod enc Try.prog W 0 (fun _ => true) true n 3 ((cs.drop 1).take (Try.prog.cellsOf 3)) = ys[1]? := hf 1 _ rfl
  rw [ci, one_cell hcl 1 (by omega), List.getElem?_eq_getElem (by omega)] at e1
  have e2 : DataW.trod enc Try.prog W 0 (fun _ => true) true n 3 ((cs.drop 2).take (Try.prog.cellsOf 3)) = ys[2]? := hf 2 _ rfl
  rw [ci, one_cell hcl 2 (by omega), List.getElem?_eq_getElem (by omega)] at e2
  have e3 : DataW.trod enc Try.prog W 0 (fun _ => true) true n 3 ((cs.drop 3).take (Try.prog.cellsOf 3)) = ys[3]? := hf 3 _ rfl
  rw [ci, one_cell hcl 3 (by omega), List.getElem?_eq_getElem (by omega)] at e3
  have e4 : DataW.trod enc Try.prog W 0 (fun _ => true) true n 3 ((cs.drop 4).take (Try.prog.cellsOf 3)) = ys[4]? := hf 4 _ rfl
  rw [ci, one_cell hcl 4 (by omega), List.getElem?_eq_getElem (by omega)] at e4
  have e5 : DataW.trod enc Try.prog W 0 (fun _ => true) true n 3 ((cs.drop 5).take (Try.prog.cellsOf 3)) = ys[5]? := hf 5 _ rfl
  rw [ci, one_cell hcl 5 (by omega), List.getElem?_eq_getElem (by omega)] at e5
  have e6 : DataW.trod enc Try.prog W 0 (fun _ => true) true n 3 ((cs.drop 6).take (Try.prog.cellsOf 3)) = ys[6]? := hf 6 _ rfl
  rw [ci, one_cell hcl 6 (by omega), List.getElem?_eq_getElem (by omega)] at e6
  have e7 : DataW.trod enc Try.prog W 0 (fun _ => true) true n 3 ((cs.drop 7).take (Try.prog.cellsOf 3)) = ys[7]? := hf 7 _ rfl
  rw [ci, one_cell hcl 7 (by omega), List.getElem?_eq_getElem (by omega)] at e7
  have e8 : DataW.trod enc Try.prog W 0 (fun _ => true) true n 3 ((cs.drop 8).take (Try.prog.cellsOf 3)) = ys[8]? := hf 8 _ rfl
  rw [ci, one_cell hcl 8 (by omega), List.getElem?_eq_getElem (by omega)] at e8
  have e9 : DataW.trod enc Try.prog W 0 (fun _ => true) true n 3 ((cs.drop 9).take (Try.prog.cellsOf 3)) = ys[9]? := hf 9 _ rfl
  rw [ci, one_cell hcl 9 (by omega), List.getElem?_eq_getElem (by omega)] at e9
  have e10 : DataW.trod enc Try.prog W 0 (fun _ => true) true n 3 ((cs.drop 10).take (Try.prog.cellsOf 3)) = ys[10]? := hf 10 _ rfl
  rw [ci, one_cell hcl 10 (by omega), List.getElem?_eq_getElem (by omega)] at e10
  have e11 : DataW.trod enc Try.prog W 0 (fun _ => true) true n 3 ((cs.drop 11).take (Try.prog.cellsOf 3)) = ys[11]? := hf 11 _ rfl
  rw [ci, one_cell hcl 11 (by omega), List.getElem?_eq_getElem (by omega)] at e11
  have e12 : DataW.trod enc Try.prog W 0 (fun _ => true) true n 3 ((cs.drop 12).take (Try.prog.cellsOf 3)) = ys[12]? := hf 12 _ rfl
  rw [ci, one_cell hcl 12 (by omega), List.getElem?_eq_getElem (by omega)] at e12
  have e13 : DataW.trod enc Try.prog W 0 (fun _ => true) true n 3 ((cs.drop 13).take (Try.prog.cellsOf 3)) = ys[13]? := hf 13 _ rfl
  rw [ci, one_cell hcl 13 (by omega), List.getElem?_eq_getElem (by omega)] at e13
  have e14 : DataW.trod enc Try.prog W 0 (fun _ => true) true n 4 ((cs.drop 14).take (Try.prog.cellsOf 4)) = ys[14]? := hf 14 _ rfl
  rw [cb, one_cell hcl 14 (by omega), List.getElem?_eq_getElem (by omega)] at e14
  have e15 : DataW.trod enc Try.prog W 0 (fun _ => true) true n 23 ((cs.drop 15).take (Try.prog.cellsOf 23)) = ys[15]? := hf 15 _ rfl
  rw [ce, one_cell hcl 15 (by omega), List.getElem?_eq_getElem (by omega)] at e15
  have e16 : DataW.trod enc Try.prog W 0 (fun _ => true) true n 29 ((cs.drop 16).take (Try.prog.cellsOf 29)) = ys[16]? := hf 16 _ rfl
  rw [cd, one_cell hcl 16 (by omega), List.getElem?_eq_getElem (by omega)] at e16
  obtain ⟨n0, p0, b0⟩ := int_of_trod e0
  obtain ⟨n1, p1, b1⟩ := int_of_trod e1
  obtain ⟨n2, p2, b2⟩ := int_of_trod e2
  obtain ⟨n3, p3, b3⟩ := int_of_trod e3
  obtain ⟨n4, p4, b4⟩ := int_of_trod e4
  obtain ⟨n5, p5, b5⟩ := int_of_trod e5
  obtain ⟨n6, p6, b6⟩ := int_of_trod e6
  obtain ⟨n7, p7, b7⟩ := int_of_trod e7
  obtain ⟨n8, p8, b8⟩ := int_of_trod e8
  obtain ⟨n9, p9, b9⟩ := int_of_trod e9
  obtain ⟨n10, p10, b10⟩ := int_of_trod e10
  obtain ⟨n11, p11, b11⟩ := int_of_trod e11
  obtain ⟨n12, p12, b12⟩ := int_of_trod e12
  obtain ⟨n13, p13, b13⟩ := int_of_trod e13
  obtain ⟨ok, p14, _⟩ := DataW.trod_bool Try.underlying4 e14
  obtain ⟨A, c, es, p15, h1, h2, h3⟩ := ents_of_trod e15
  obtain ⟨A', c', d, p16, h4, h5, h6⟩ := bytes_of_trod e16
  have p0 := (List.cons.inj p0).1
  have p1 := (List.cons.inj p1).1
  have p2 := (List.cons.inj p2).1
  have p3 := (List.cons.inj p3).1
  have p4 := (List.cons.inj p4).1
  have p5 := (List.cons.inj p5).1
  have p6 := (List.cons.inj p6).1
  have p7 := (List.cons.inj p7).1
  have p8 := (List.cons.inj p8).1
  have p9 := (List.cons.inj p9).1
  have p10 := (List.cons.inj p10).1
  have p11 := (List.cons.inj p11).1
  have p12 := (List.cons.inj p12).1
  have p13 := (List.cons.inj p13).1
  have p14 := (List.cons.inj p14).1
  have p15 := (List.cons.inj p15).1
  have p16 := (List.cons.inj p16).1
  refine ⟨⟨n0, n1, n2, n3, n4, n5, n6, n7, n8, n9, n10, n11, n12, n13, ok, es, d⟩, A, c, A', c', ?_, ⟨?_, h1, h2, h3, h4, h5, h6⟩⟩
  · match cs, hcl with
    | [x0, x1, x2, x3, x4, x5, x6, x7, x8, x9, x10, x11, x12, x13, x14, x15, x16], _ =>
      simp at p0 p1 p2 p3 p4 p5 p6 p7 p8 p9 p10 p11 p12 p13 p14 p15 p16
      rw [p0, p1, p2, p3, p4, p5, p6, p7, p8, p9, p10, p11, p12, p13, p14, p15, p16]
  · intro r hr
    simp only [nums, List.mem_cons, List.not_mem_nil, or_false] at hr
    rcases hr with rfl | rfl | rfl | rfl | rfl | rfl | rfl | rfl | rfl | rfl | rfl | rfl | rfl | rfl
    · exact b0
    · exact b1
    · exact b2
    · exact b3
    · exact b4
    · exact b5
    · exact b6
    · exact b7
    · exact b8
    · exact b9
    · exact b10
    · exact b11
    · exact b12
    · exact b13
theorem msg_open {H : Type} {enc : TypeId × Value → H} {W : World} {cs : Array Value} {d : DataW H} {p : List MemPlace} (hsz : cs.size = Try.prog.cellsOf 31) (h : DataW.Trod enc Try.prog W 0 (fun _ => true) true 31 (.agg cs) d p) :
    ∃ (m : M) (A : Option Addr) (c : Nat) (A' : Option Addr) (c' : Nat), cs = #[.int .i64 m.K, .int .i64 m.F, .int .i64 m.T, .int .i64 m.g, .int .i64 m.t, .int .i64 m.i, .int .i64 m.p, .int .i64 m.c, .int .i64 m.r, .int .i64 m.x, .int .i64 m.a, .int .i64 m.b, .int .i64 m.v, .int .i64 m.s, .bool m.ok, .slice A m.es.length c, .slice A' m.d.length c'] ∧ Is W W.heap.size m A c A' c' := by
  obtain ⟨fuel, hf⟩ := h
  rw [cellsOf_msg] at hsz
  obtain ⟨m, A, c, A', c', e, hc⟩ := msg_of_trod (cs := cs.toList) (by simpa using hsz) hf
  refine ⟨m, A, c, A', c', ?_, hc⟩
  rw [← Array.toArray_toList (xs := cs), e]
end Go.Proofs.Ytkmbkihfdilmbaa.Ms
namespace Go.Proofs.Ytkmbkihfdilmbaa.Ms
open Go.RowKit
set_option maxRecDepth 100000
set_option linter.unusedVariables false
theorem Is.wf {w : World} {B : Nat} {m : M} {A A' : Option Addr} {c c' : Nat} (h : Is w B m A c A' c') : Wf m := by
  refine ⟨fun r hr => h.num r hr, fun e he => ?_, h.d.small⟩
  obtain ⟨i, hi, rfl⟩ := List.getElem_of_mem he
  have h1 := h.es.num _ he
  obtain ⟨b, off, _, _, hc⟩ := h.es.cells i hi
  obtain ⟨_, _, _, _, _, h2, _⟩ := hc i hi
  exact ⟨h1.1, h1.2, h2.small⟩
end Go.Proofs.Ytkmbkihfdilmbaa.Ms
namespace Go.Proofs.Ytkmbkihfdilmbaa.Ms
open Go.RowKit
set_option linter.unusedVariables false
attribute [local go_sem ↓] loadAt_msg storeAt_msg
set_option maxHeartbeats 1600000 in
set_option maxRecDepth 100000 in
theorem copyE_wide (B : Nat) (A : Option Addr) (c n : Nat) (L : List Rl.En) (hn : L.length = n) (hl : n ≤ 90000) (hf : ∀ e ∈ L, e.d.length ≤ 1000000000) (w : World) (h : IsEnts w B A L) (hB : B ≤ w.heap.size) :
    Calls Try.prog 46 #[.slice A n c] w fun e w' => ∃ A' c', e = .returned (.slice A' n c') ∧ OwnE w' w.heap.size w'.heap.size A' c' L ∧ Below w.heap.size w w' := by
  subst hn
  have HH := hid (h.more hB)
  have HF := hid hf
  have H1 : Hid (OwnE w w.heap.size w.heap.size none 0 (L.take 0) ∧ Below w.heap.size w w) := hid ⟨OwnE.nil _ _ _, Below.refl _ _⟩
  clear h hf
  go_enter Try.func46, Try.ntmps46
  go_wp2_with fail
  go_loopw [3, 4] (fun v i wr => ∃ (k : Nat) (A1 : Option Addr) (c1 : Nat), k ≤ L.length ∧ v = .slice A1 k c1 ∧ i = .int .i64 k ∧ Hid (OwnE wr w.heap.size wr.heap.size A1 c1 (L.take k) ∧ Below w.heap.size w wr)) (fun _ i _ => L.length - (RowKit.intOf i).toNat)
  case atStart => exact ⟨0, _, _, by omega, rfl, rfl, H1⟩
  case round =>
    clear H1
    obtain ⟨k, A1, c1, hk, rfl, rfl, hS⟩ := hrel
    by_cases hlt : k < L.length
    · obtain ⟨b, off, rfl, hbw, hc⟩ := (HH.out.below hS.out.2).cells k hlt
      obtain ⟨Ad, cd, d0, d1, d2, hd, hd2, hd3⟩ := hc k hlt
      have hk0 : (k : Int) < (L.length : Int) := by omega
      have hfk : L[k].d.length ≤ 1000000000 := HF.out _ (List.getElem_mem hlt)
      have hnum := HH.out.num _ (List.getElem_mem hlt)
      have htk : L.take (k + 1) = L.take k ++ [L[k]] := List.take_succ_eq_append_getElem hlt
      obtain ⟨x, hx⟩ : ∃ x, x = L[k] := ⟨_, rfl⟩
      rw [← hx] at d0 d1 d2 hd hd2 hfk hnum htk
      have HX := hid (And.intro hnum htk)
      have HC := hid (copy_N wr.heap.size Ad cd x.d x.d.length rfl (by omega) wr.drew ((hd.more hS.out.2.size).drewN 1) (Nat.le_refl _))
      have HK : Hid (∀ w', Below w.heap.size wr w' → w'.cell? ⟨b, off + k * 3, none⟩ = some (.int .i64 x.t) ∧ w'.cell? ⟨b, off + k * 3 + 1, none⟩ = some (.int .i64 x.k) ∧ w'.cell? ⟨b, off + k * 3 + 2, none⟩ = some (.slice Ad x.d.length cd)) := hid (fun w' hb => ⟨(hb.cell (by show b < _; omega)).trans d0, (hb.cell (by show b < _; omega)).trans d1, (hb.cell (by show b < _; omega)).trans d2⟩)
      have hl5 : k + 1 ≤ 100000 := by omega
      have HLK : Hid ((L.take k).length = k) := hid (by rw [List.length_take]; omega)
      clear hc hx hnum htk hd hd2 hd3 hfk
      go_wp2_with fail
      go_region_held3 (fun w' => w'.cell? ⟨b, off + k * 3, none⟩ = some (.int .i64 x.t) ∧ w'.cell? ⟨b, off + k * 3 + 1, none⟩ = some (.int .i64 x.k) ∧ w'.cell? ⟨b, off + k * 3 + 2, none⟩ = some (.slice Ad x.d.length cd))
        (first | exact HK.out _ (Below.refl _ wr).drew | exact HK.out _ hb2.out | exact HK.out _ (hb2.out.alloc hN2.out _) | exact HK.out _ h6.out.2 | fail)
        (first
          | (refine step_append_ent (by rfl) _ _ (by rfl) (hS.out.1.below (hb1.out.alloc hb1.out.size _)) hS.out.2.size (by rw [World.size_alloc]; have := hb1.out.size; omega) k HLK.out (by rfl) x HX.out.1 A2 c2 (ho2.out.below ((Below.refl _ w2).alloc (Nat.le_refl _) _)) ⟨w2.heap.size, 0, none⟩ 1 (by rfl) (fun j _ => cellsE_new w2 _ rfl ⟨x, A2, c2⟩ _ j) hl5 ?_; intro A6 c6 w6 hE6 hB6; have h6 := hid (And.intro hE6 ((hb2.out.alloc hN2.out _).trans hB6)); clear hE6 hB6)
          | (go_at_call 47; refine HC.out.mono ?_; rintro e w2 ⟨A2, c2, rfl, ho2', hb2'⟩; have ho2 := hid ho2'; have hb1 := hid ((Below.refl _ wr).drew.trans hb2'); have hb2 := hid (hb1.out.mono hS.out.2.size); have hN2 := hid (Nat.le_trans hS.out.2.size hb1.out.size); clear ho2' hb2'))
      all_goals
        (have H6 : Hid (OwnE w6 w.heap.size w6.heap.size A6 c6 (L.take (k + 1)) ∧ Below w.heap.size w w6) := hid ⟨by rw [HX.out.2]; exact h6.out.1, hS.out.2.trans h6.out.2⟩
         clear h6 hb1 hb2 hN2 ho2 HK HC d0 d1 d2
         go_wp2_with fail
         go_roundw
         case rel => exact ⟨k + 1, A6, c6, by omega, rfl, by go_num, H6⟩
         case measure => simp [RowKit.intOf]; omega)
    · obtain rfl : k = L.length := by omega
      have hS1 := hS.out
      rw [List.take_length] at hS1
      have HS := hid hS1
      clear hS hS1
      go_wp2_with fail
      go_ret
      exact ⟨A1, c1, rfl, HS.out.1, HS.out.2⟩
theorem Bx.es {w : World} {b : Nat} {m : M} {A A' : Option Addr} {c c' : Nat} (h : Bx w b m A c A' c') (A2 : Option Addr) (c2 : Nat) : Bx (w.setCell ⟨b, 15, none⟩ (.slice A2 m.es.length c2)) b m A2 c2 A' c' := ⟨by rw [row_set h.row]; rfl⟩
theorem Bx.dt {w : World} {b : Nat} {m : M} {A A' : Option Addr} {c c' : Nat} (h : Bx w b m A c A' c') (A2 : Option Addr) (c2 : Nat) : Bx (w.setCell ⟨b, 16, none⟩ (.slice A2 m.d.length c2)) b m A c A2 c2 := ⟨by rw [row_set h.row]; rfl⟩
set_option maxRecDepth 100000 in
set_option maxHeartbeats 3200000 in
theorem copyM_any (m : M) (A : Option Addr) (c : Nat) (A' : Option Addr) (c' : Nat) (w : World) (h : Is w w.heap.size m A c A' c') (hs : Small m) (hl : m.es.length ≤ 90000) :
    Calls Try.prog 20 #[.agg #[.int .i64 m.K, .int .i64 m.F, .int .i64 m.T, .int .i64 m.g, .int .i64 m.t, .int .i64 m.i, .int .i64 m.p, .int .i64 m.c, .int .i64 m.r, .int .i64 m.x, .int .i64 m.a, .int .i64 m.b, .int .i64 m.v, .int .i64 m.s, .bool m.ok, .slice A m.es.length c, .slice A' m.d.length c']] w fun e w' => ∃ A2 c2 A3 c3, e = .returned (.agg #[.int .i64 m.K, .int .i64 m.F, .int .i64 m.T, .int .i64 m.g, .int .i64 m.t, .int .i64 m.i, .int .i64 m.p, .int .i64 m.c, .int .i64 m.r, .int .i64 m.x, .int .i64 m.a, .int .i64 m.b, .int .i64 m.v, .int .i64 m.s, .bool m.ok, .slice A2 m.es.length c2, .slice A3 m.d.length c3]) ∧ Is w' w'.heap.size m A2 c2 A3 c3 ∧ Below w.heap.size w w' := by
  have hw := fun e (he : e ∈ m.es) => Nat.le_trans (weigh_mem he) hs.wt
  obtain ⟨w1, hw1⟩ : ∃ w1, w1 = (w.alloc (.cells #[.int .i64 m.K, .int .i64 m.F, .int .i64 m.T, .int .i64 m.g, .int .i64 m.t, .int .i64 m.i, .int .i64 m.p, .int .i64 m.c, .int .i64 m.r, .int .i64 m.x, .int .i64 m.a, .int .i64 m.b, .int .i64 m.v, .int .i64 m.s, .bool m.ok, .slice A m.es.length c, .slice A' m.d.length c'] 31)).alloc (.cells #[.int .i64 0, .int .i64 0, .int .i64 0, .int .i64 0, .int .i64 0, .int .i64 0, .int .i64 0, .int .i64 0, .int .i64 0, .int .i64 0, .int .i64 0, .int .i64 0, .int .i64 0, .int .i64 0, .bool false, .slice none 0 0, .slice none 0 0] 31) := ⟨_, rfl⟩
  have hb1 : Below w.heap.size w w1 := by rw [hw1]; exact ((Below.refl _ w).alloc (Nat.le_refl _) _).alloc (by simp) _
  have hz1 : w1.heap[w.heap.size + 1]? = some (.cells #[.int .i64 0, .int .i64 0, .int .i64 0, .int .i64 0, .int .i64 0, .int .i64 0, .int .i64 0, .int .i64 0, .int .i64 0, .int .i64 0, .int .i64 0, .int .i64 0, .int .i64 0, .int .i64 0, .bool false, .slice none 0 0, .slice none 0 0] 31 (0, 0)) := by
    have h0 : (w.alloc (.cells #[.int .i64 m.K, .int .i64 m.F, .int .i64 m.T, .int .i64 m.g, .int .i64 m.t, .int .i64 m.i, .int .i64 m.p, .int .i64 m.c, .int .i64 m.r, .int .i64 m.x, .int .i64 m.a, .int .i64 m.b, .int .i64 m.v, .int .i64 m.s, .bool m.ok, .slice A m.es.length c, .slice A' m.d.length c'] 31)).heap.size = w.heap.size + 1 := by simp
    rw [hw1, ← h0]; exact heap_alloc_new _ _
  have hbx : Bx w1 w.heap.size m A c A' c' := ⟨by
    have h0 : (w.alloc (.cells #[.int .i64 m.K, .int .i64 m.F, .int .i64 m.T, .int .i64 m.g, .int .i64 m.t, .int .i64 m.i, .int .i64 m.p, .int .i64 m.c, .int .i64 m.r, .int .i64 m.x, .int .i64 m.a, .int .i64 m.b, .int .i64 m.v, .int .i64 m.s, .bool m.ok, .slice A m.es.length c, .slice A' m.d.length c'] 31)).heap.size = w.heap.size + 1 := by simp
    rw [hw1]
    exact ((Below.refl _ (w.alloc (.cells #[.int .i64 m.K, .int .i64 m.F, .int .i64 m.T, .int .i64 m.g, .int .i64 m.t, .int .i64 m.i, .int .i64 m.p, .int .i64 m.c, .int .i64 m.r, .int .i64 m.x, .int .i64 m.a, .int .i64 m.b, .int .i64 m.v, .int .i64 m.s, .bool m.ok, .slice A m.es.length c, .slice A' m.d.length c'] 31))).alloc (Nat.le_refl _) _).block _ (by omega) |>.trans (heap_alloc_new w _)⟩
  have HX1 := hid (And.intro hbx (And.intro hb1 hz1))
  have HI := hid h
  have HS := hid hs
  have HC := hid (copyE_wide w.heap.size A c m.es.length m.es rfl hl hw w1 (h.es.below hb1) hb1.size)
  have hc15 := hbx.c15
  clear h hs hw hbx hb1 hz1
  go_enter Try.func20, Try.ntmps20
  rw [hw1] at hc15
  go_wp2_with fail
  rw [← hw1]
  clear hw1 hc15
  refine HC.out.mono ?_
  rintro e w2 ⟨A2, c2, rfl, ho2, hb2⟩
  have hx2 : Bx w2 w.heap.size m A c A' c' := HX1.out.1.below hb2 (by have := row_lt HX1.out.2.2; omega)
  have hz2 := (hb2.block _ (row_lt HX1.out.2.2)).trans HX1.out.2.2
  have hE2 := ho2
  have HB2 := hid (HX1.out.2.1.trans (hb2.mono HX1.out.2.1.size))
  have hs1 : w.heap.size + 1 < w1.heap.size := row_lt HX1.out.2.2
  have hf2 := row_free hx2.row 15
  have hd2 := hx2.c15
  obtain ⟨w3, hw3⟩ : ∃ w3, w3 = w2.setCell ⟨w.heap.size, 15, none⟩ (.slice A2 m.es.length c2) := ⟨_, rfl⟩
  have hx3 : Bx w3 w.heap.size m A2 c2 A' c' := by rw [hw3]; exact hx2.es A2 c2
  have ht3 : Turned (fun k => k = w.heap.size) w2 w3 := by rw [hw3]; exact Turned.ofGrown (grown_setCell _ _ _ _) (fun k hk => (Option.some.inj hk).symm)
  have hz3 := (ht3.block _ (row_lt hz2) (by omega)).trans hz2
  have hE3 := (hE2.keep ht3 (fun k hk hB => by have := hB.1; omega)).wide (Nat.le_refl _) ht3.size
  have hb3 : Below w.heap.size w w3 := HB2.out.trans ⟨ht3.os, ht3.tape, ht3.output, ht3.size, fun k hk => ht3.block k (Nat.lt_of_lt_of_le hk HB2.out.size) (by omega)⟩
  have HX3 := hid (And.intro hx3 (And.intro hb3 (And.intro hz3 hE3)))
  have HC3 := hid (copy_N w.heap.size A' c' m.d m.d.length rfl (by have := HS.out.d; omega) w3 (HI.out.d.below hb3) hb3.size)
  have hc16 := hx3.c16
  rw [hw3] at hc16
  clear ho2 hb2 hx2 hz2 hE2 hx3 ht3 hz3 hE3 hb3 HC
  go_wp2_with fail
  rw [← hw3]
  clear hw3 hc16 hf2 hd2
  refine HC3.out.mono ?_
  rintro e w4 ⟨A3, c3, rfl, ho4, hb4⟩
  have hx4 : Bx w4 w.heap.size m A2 c2 A' c' := HX3.out.1.below hb4 (row_lt HX3.out.1.row)
  have hz4 := (hb4.block _ (row_lt HX3.out.2.2.1)).trans HX3.out.2.2.1
  have hE4 := HX3.out.2.2.2.below hb4
  have HB4 := hid (HX3.out.2.1.trans (hb4.mono HX3.out.2.1.size))
  have hs3 : w.heap.size + 1 < w3.heap.size := row_lt HX3.out.2.2.1
  have hf4 := row_free hx4.row 16
  have hd4 := hx4.c16
  obtain ⟨w5, hw5⟩ : ∃ w5, w5 = w4.setCell ⟨w.heap.size, 16, none⟩ (.slice A3 m.d.length c3) := ⟨_, rfl⟩
  have hx5 : Bx w5 w.heap.size m A2 c2 A3 c3 := by rw [hw5]; exact hx4.dt A3 c3
  have ht5 : Turned (fun k => k = w.heap.size) w4 w5 := by rw [hw5]; exact Turned.ofGrown (grown_setCell _ _ _ _) (fun k hk => (Option.some.inj hk).symm)
  have hz5 := (ht5.block _ (row_lt hz4) (by omega)).trans hz4
  have hE5 := hE4.keep ht5 (fun k hk hB => by have := hB.1; omega)
  have hO5 := ho4.turned ht5 (fun k hk e => by have := ho4.blkLt k hk; omega)
  have hb5 : Below w.heap.size w w5 := HB4.out.trans ⟨ht5.os, ht5.tape, ht5.output, ht5.size, fun k hk => ht5.block k (Nat.lt_of_lt_of_le hk HB4.out.size) (by omega)⟩
  have hn5 : w3.heap.size ≤ w5.heap.size := Nat.le_trans hb4.size ht5.size
  obtain ⟨w6, hw6⟩ : ∃ w6, w6 = w5.setRow (w.heap.size + 1) (#[.int .i64 m.K, .int .i64 m.F, .int .i64 m.T, .int .i64 m.g, .int .i64 m.t, .int .i64 m.i, .int .i64 m.p, .int .i64 m.c, .int .i64 m.r, .int .i64 m.x, .int .i64 m.a, .int .i64 m.b, .int .i64 m.v, .int .i64 m.s, .bool m.ok, .slice A2 m.es.length c2, .slice A3 m.d.length c3]) := ⟨_, rfl⟩
  have hst := st_row w5 (w.heap.size + 1) _ (#[.int .i64 m.K, .int .i64 m.F, .int .i64 m.T, .int .i64 m.g, .int .i64 m.t, .int .i64 m.i, .int .i64 m.p, .int .i64 m.c, .int .i64 m.r, .int .i64 m.x, .int .i64 m.a, .int .i64 m.b, .int .i64 m.v, .int .i64 m.s, .bool m.ok, .slice A2 m.es.length c2, .slice A3 m.d.length c3]) hz5 rfl rfl (msg_one m A2 c2 A3 c3)
  have ht6 : Turned (fun k => k = w.heap.size + 1) w5 w6 := by rw [hw6]; exact set_turned _ _ _
  have hE6 := hE5.keep ht6 (fun k hk hB => by have := hB.1; omega)
  have hO6 := hO5.turned ht6 (fun k hk e => by have := ho4.blkLt k hk; omega)
  have hb6 : Below w.heap.size w w6 := hb5.trans ⟨ht6.os, ht6.tape, ht6.output, ht6.size, fun k hk => ht6.block k (Nat.lt_of_lt_of_le hk hb5.size) (by omega)⟩
  have hI6 : Is w6 w6.heap.size m A2 c2 A3 c3 := ⟨HI.out.num, hE6.reads.more (Nat.le_trans hn5 ht6.size), hE6.room, hE6.none_, hO6.reads, hO6.room, hO6.none_⟩
  have hr : w6.heap[w.heap.size + 1]? = some (.cells (#[.int .i64 m.K, .int .i64 m.F, .int .i64 m.T, .int .i64 m.g, .int .i64 m.t, .int .i64 m.i, .int .i64 m.p, .int .i64 m.c, .int .i64 m.r, .int .i64 m.x, .int .i64 m.a, .int .i64 m.b, .int .i64 m.v, .int .i64 m.s, .bool m.ok, .slice A2 m.es.length c2, .slice A3 m.d.length c3]) 31 (0, 0)) := by rw [hw6]; exact setRow_heap _ _ _ _ _ _ hz5
  have HR := hid hr
  have hld5 := hx5.load
  have HF := hid (And.intro hI6 hb6)
  rw [hw5] at hld5
  rw [← hw6, hw5] at hst
  clear hx4 hz4 hE4 ho4 hb4 hx5 ht5 hz5 hE5 hO5 hb5 ht6 hE6 hO6 hb6 hI6 HC3 hw6 hr
  go_wp2_with fail
  refine bodyPost_ret (results_cell_row rfl _ _ (w.heap.size + 1) _ _ _ _ rfl HR.out Try.underlying31 rfl (by rw [info_msg]; rfl)) rfl ?_
  exact ⟨A2, c2, A3, c3, rfl, HF.out.1, HF.out.2⟩
end Go.Proofs.Ytkmbkihfdilmbaa.Ms
namespace Go.Proofs.Ytkmbkihfdilmbaa.flowHears
open Go.ChangeShapes Go.WideShapes Go.ChangeAt Go.RowKit
open Go.ChangeMaps (open_string shut_string)
set_option linter.unusedVariables false
theorem own : ownKnob Try.prog.godebug = none := by kernel_rfl
theorem laidOut : laidOutB Try.prog = true := by kernel_rfl
attribute [local go_sem ↓] Vo.loadAt_msgV Vo.storeAt_msgV Fw.loadAt_flow Fw.storeAt_flow
open Fw Im in
set_option maxRecDepth 100000 in
set_option maxHeartbeats 25600000 in
theorem walk (f : Fw.Fl) (m : Ms.M) (A : Option Addr) (c : Nat) (A' : Option Addr) (c' : Nat) (last : Int) (w : World) (k1 : Ms.Is w w.heap.size m A c A' c') (b2 : -9223372036854775808 ≤ last ∧ last ≤ 9223372036854775807) :
    Calls Try.prog 4 #[.agg #[.int .i64 f.n, .int .i64 f.x, .int .i64 f.m, .int .i64 f.r], .agg #[.int .i64 m.K, .int .i64 m.F, .int .i64 m.T, .int .i64 m.g, .int .i64 m.t, .int .i64 m.i, .int .i64 m.p, .int .i64 m.c, .int .i64 m.r, .int .i64 m.x, .int .i64 m.a, .int .i64 m.b, .int .i64 m.v, .int .i64 m.s, .bool m.ok, .slice A m.es.length c, .slice A' m.d.length c'], .int .i64 last] w fun e w' => e = .returned (.bool true) ∧ Below w.heap.size w w' := by
  obtain ⟨w1, hw1⟩ : ∃ w1, w1 = (w.alloc (.cells #[.int .i64 f.n, .int .i64 f.x, .int .i64 f.m, .int .i64 f.r] 42)).alloc (.cells #[.int .i64 m.K, .int .i64 m.F, .int .i64 m.T, .int .i64 m.g, .int .i64 m.t, .int .i64 m.i, .int .i64 m.p, .int .i64 m.c, .int .i64 m.r, .int .i64 m.x, .int .i64 m.a, .int .i64 m.b, .int .i64 m.v, .int .i64 m.s, .bool m.ok, .slice A m.es.length c, .slice A' m.d.length c'] 31) := ⟨_, rfl⟩
  obtain ⟨r0, r1⟩ := Vo.Rw.two w #[.int .i64 f.n, .int .i64 f.x, .int .i64 f.m, .int .i64 f.r] #[.int .i64 m.K, .int .i64 m.F, .int .i64 m.T, .int .i64 m.g, .int .i64 m.t, .int .i64 m.i, .int .i64 m.p, .int .i64 m.c, .int .i64 m.r, .int .i64 m.x, .int .i64 m.a, .int .i64 m.b, .int .i64 m.v, .int .i64 m.s, .bool m.ok, .slice A m.es.length c, .slice A' m.d.length c'] 42 31
  obtain ⟨hb, hz⟩ := Vo.boxes w #[.int .i64 f.n, .int .i64 f.x, .int .i64 f.m, .int .i64 f.r] #[.int .i64 m.K, .int .i64 m.F, .int .i64 m.T, .int .i64 m.g, .int .i64 m.t, .int .i64 m.i, .int .i64 m.p, .int .i64 m.c, .int .i64 m.r, .int .i64 m.x, .int .i64 m.a, .int .i64 m.b, .int .i64 m.v, .int .i64 m.s, .bool m.ok, .slice A m.es.length c, .slice A' m.d.length c'] 42 31
  rw [← hw1] at r0 r1 hb
  have R1 := hid (And.intro r0 r1)
  have B1 := hid hb
  have HW1 := hid hw1
  have HK := hid k1
  have HPL := hid (placed_any f w1)
  have ld1 := ldF r0 rfl
  clear hw1 hb hz r0 r1 k1
  go_enter Try.func4, Try.ntmps4
  go_upto_region 1 with fail
  rw [← HW1.out]
  go_wp2_with fail
  refine HPL.out.mono ?_
  rintro e w2 ⟨rfl, hb2⟩
  have R2 := hid (And.intro (R1.out.1.keep hb2) (R1.out.2.keep hb2))
  have B2 := hid (B1.out.trans (hb2.mono B1.out.size))
  obtain ⟨pb, hpb⟩ : ∃ b, placedB f = b := ⟨_, rfl⟩
  rw [hpb]
  have HPB := hid hpb
  clear hpb hb2 HPL ld1 R1
  have x5 := row_cell R2.out.2 5
  have lm2 := R2.out.2.ldM rfl
  cases pb with
  | false =>
    clear b2
    go_wp2_with fail
    refine (known_any w2).mono ?_
    rintro e x9 ⟨rfl, hx9⟩
    have HX9 := hid (B2.out.trans (hx9.mono B2.out.size))
    clear hx9
    go_wp2_with fail
    go_ret
    exact ⟨rfl, HX9.out⟩
  | true =>
    have HBM := hid (Ms.bigMsgS_any m A c A' c' w2 ((HK.out.below B2.out).more B2.out.size).es (Nat.le_trans HK.out.dc.1 HK.out.dc.2))
    by_cases h1 : m.i < 0
    · clear b2
      go_wp2_with fail
      refine (known_any w2).mono ?_
      rintro e x9 ⟨rfl, hx9⟩
      have HX9 := hid (B2.out.trans (hx9.mono B2.out.size))
      clear hx9
      go_wp2_with fail
      go_ret
      exact ⟨rfl, HX9.out⟩
    · by_cases h2 : 1099511627776 < m.i
      · clear b2
        go_wp2_with fail
        refine (known_any w2).mono ?_
        rintro e x9 ⟨rfl, hx9⟩
        have HX9 := hid (B2.out.trans (hx9.mono B2.out.size))
        clear hx9
        go_wp2_with fail
        go_ret
        exact ⟨rfl, HX9.out⟩
      · by_cases h3 : last < 0
        · clear b2
          go_wp2_with fail
          refine (known_any w2).mono ?_
          rintro e x9 ⟨rfl, hx9⟩
          have HX9 := hid (B2.out.trans (hx9.mono B2.out.size))
          clear hx9
          go_wp2_with fail
          go_ret
          exact ⟨rfl, HX9.out⟩
        · by_cases h4 : 1099511627776 < last
          · clear b2
            go_wp2_with fail
            refine (known_any w2).mono ?_
            rintro e x9 ⟨rfl, hx9⟩
            have HX9 := hid (B2.out.trans (hx9.mono B2.out.size))
            clear hx9
            go_wp2_with fail
            go_ret
            exact ⟨rfl, HX9.out⟩
          · go_wp2_with fail
            refine HBM.out.mono ?_
            rintro e w3 ⟨rfl, hb3⟩
            have R3 := hid (And.intro (R2.out.1.keep hb3) (R2.out.2.keep hb3))
            have B3 := hid (B2.out.trans (hb3.mono B2.out.size))
            obtain ⟨bb, hbb⟩ : ∃ b, Ms.bigMS m = b := ⟨_, rfl⟩
            rw [hbb]
            have HBB := hid hbb
            clear hbb hb3 HBM x5 lm2 R2
            cases bb with
            | true =>
              clear b2
              go_wp2_with fail
              refine (known_any w3).mono ?_
              rintro e x9 ⟨rfl, hx9⟩
              have HX9 := hid (B3.out.trans (hx9.mono B3.out.size))
              clear hx9
              go_wp2_with fail
              go_ret
              exact ⟨rfl, HX9.out⟩
            | false =>
              obtain ⟨s3, hs3⟩ : ∃ s, s = w3.heap.size := ⟨_, rfl⟩
              have HP := hid (placedB_pl HPB.out)
              have HI := hid (show 0 ≤ m.i ∧ m.i ≤ 1099511627776 by omega)
              have HLA := hid (show 0 ≤ last ∧ last ≤ 1099511627776 by omega)
              have FA : Hid (∀ W, Below s3 w3 W → (s3 ≤ W.heap.size ∧ Ms.Is W W.heap.size m A c A' c' ∧ Below w.heap.size w W) ∧ ((ldX 42 (.pointer (some ⟨w.heap.size, 0, none⟩))).run Try.prog W = .ok (.agg #[.int .i64 f.n, .int .i64 f.x, .int .i64 f.m, .int .i64 f.r]) W ∧ W.cell? ⟨w.heap.size, 0, none⟩ = some (.int .i64 f.n)) ∧ (ldX 31 (.pointer (some ⟨w.heap.size + 1, 0, none⟩))).run Try.prog W = .ok (.agg #[.int .i64 m.K, .int .i64 m.F, .int .i64 m.T, .int .i64 m.g, .int .i64 m.t, .int .i64 m.i, .int .i64 m.p, .int .i64 m.c, .int .i64 m.r, .int .i64 m.x, .int .i64 m.a, .int .i64 m.b, .int .i64 m.v, .int .i64 m.s, .bool m.ok, .slice A m.es.length c, .slice A' m.d.length c']) W) := hid (fun W hW => by
                rw [hs3] at hW ⊢
                have hB := B3.out.trans (hW.mono B3.out.size)
                have q0 := R3.out.1.keep hW
                have q1 := R3.out.2.keep hW
                exact ⟨⟨hW.size, (HK.out.below hB).more hB.size, hB⟩, ⟨ldF q0 rfl, row_cell q0 0⟩, q1.ldM rfl⟩)
              obtain ⟨q, hq⟩ : ∃ q, heard f m.K m.F m.i m.r m.ok = q := ⟨_, rfl⟩
              have HCP : Hid (∀ W, Below s3 w3 W → Calls Try.prog 20 #[.agg #[.int .i64 m.K, .int .i64 m.F, .int .i64 m.T, .int .i64 m.g, .int .i64 m.t, .int .i64 m.i, .int .i64 m.p, .int .i64 m.c, .int .i64 m.r, .int .i64 m.x, .int .i64 m.a, .int .i64 m.b, .int .i64 m.v, .int .i64 m.s, .bool m.ok, .slice A m.es.length c, .slice A' m.d.length c']] W fun e w' => ∃ A2 c2 A3 c3, e = .returned (.agg #[.int .i64 m.K, .int .i64 m.F, .int .i64 m.T, .int .i64 m.g, .int .i64 m.t, .int .i64 m.i, .int .i64 m.p, .int .i64 m.c, .int .i64 m.r, .int .i64 m.x, .int .i64 m.a, .int .i64 m.b, .int .i64 m.v, .int .i64 m.s, .bool m.ok, .slice A2 m.es.length c2, .slice A3 m.d.length c3]) ∧ Below W.heap.size W w') := hid (fun W hW => (Ms.copyM_any m A c A' c' W (FA.out W hW).1.2.1 (Ms.bigMS_small HBB.out).1 (by have := (Ms.bigMS_small HBB.out).2; omega)).mono (by rintro e w' ⟨A2, c2, A3, c3, rfl, _, hb⟩; exact ⟨A2, c2, A3, c3, rfl, hb⟩))
              have HHD : Hid (∀ (W : World) (X Y : Option Addr) (x y : Nat), Calls Try.prog 19 #[.agg #[.int .i64 f.n, .int .i64 f.x, .int .i64 f.m, .int .i64 f.r], .agg #[.int .i64 m.K, .int .i64 m.F, .int .i64 m.T, .int .i64 m.g, .int .i64 m.t, .int .i64 m.i, .int .i64 m.p, .int .i64 m.c, .int .i64 m.r, .int .i64 m.x, .int .i64 m.a, .int .i64 m.b, .int .i64 m.v, .int .i64 m.s, .bool m.ok, .slice X m.es.length x, .slice Y m.d.length y]] W fun e w' => e = .returned (.agg #[.int .i64 q.n, .int .i64 q.x, .int .i64 q.m, .int .i64 q.r]) ∧ Below W.heap.size W w') := hid (fun W X Y x y => by rw [← hq]; exact heard_any f HP.out m HI.out X x Y y W)
              have HRD : Hid (∀ (W : World), Calls Try.prog 21 #[.agg #[.int .i64 f.n, .int .i64 f.x, .int .i64 f.m, .int .i64 f.r], .agg #[.int .i64 m.K, .int .i64 m.F, .int .i64 m.T, .int .i64 m.g, .int .i64 m.t, .int .i64 m.i, .int .i64 m.p, .int .i64 m.c, .int .i64 m.r, .int .i64 m.x, .int .i64 m.a, .int .i64 m.b, .int .i64 m.v, .int .i64 m.s, .bool m.ok, .slice A m.es.length c, .slice A' m.d.length c']] W fun e w' => e = .returned (.agg #[.int .i64 q.n, .int .i64 q.x, .int .i64 q.m, .int .i64 q.r]) ∧ Below W.heap.size W w') := hid (fun W => by rw [← hq]; exact refHeard_any f HP.out m HI.out A c A' c' W)
              have HNW : Hid (∀ (W : World), Calls Try.prog 22 #[.int .i64 f.n, .int .i64 last] W fun e w' => e = .returned (.agg #[.int .i64 f.n, .int .i64 (last + 1), .int .i64 0, .int .i64 0]) ∧ Below W.heap.size W w') := hid (fun W => new_any f.n last HLA.out W)
              have HRN : Hid (∀ (W : World), Calls Try.prog 23 #[.int .i64 f.n, .int .i64 last] W fun e w' => e = .returned (.agg #[.int .i64 f.n, .int .i64 (last + 1), .int .i64 0, .int .i64 0]) ∧ Below W.heap.size W w') := hid (fun W => refNew_any f.n last HLA.out W)
              have G := hid (show Below s3 w3 w3.drew from (Below.refl _ _).drew)
              have e4 := (FA.out w3 (Below.refl _ _)).2
              have e5 := (FA.out w3.drew G.out).2
              clear hs3 hq b2 HW1
              go_wp2_with fail
              clear h1 h2 h3 h4
              go_region_held3 (fun W => ((ldX 42 (.pointer (some ⟨w.heap.size, 0, none⟩))).run Try.prog W = .ok (.agg #[.int .i64 f.n, .int .i64 f.x, .int .i64 f.m, .int .i64 f.r]) W ∧ W.cell? ⟨w.heap.size, 0, none⟩ = some (.int .i64 f.n)) ∧ (ldX 31 (.pointer (some ⟨w.heap.size + 1, 0, none⟩))).run Try.prog W = .ok (.agg #[.int .i64 m.K, .int .i64 m.F, .int .i64 m.T, .int .i64 m.g, .int .i64 m.t, .int .i64 m.i, .int .i64 m.p, .int .i64 m.c, .int .i64 m.r, .int .i64 m.x, .int .i64 m.a, .int .i64 m.b, .int .i64 m.v, .int .i64 m.s, .bool m.ok, .slice A m.es.length c, .slice A' m.d.length c']) W)
                (first | with_reducible exact FF | with_reducible exact e5 | with_reducible exact e4 | fail)
                (first
                  | (go_at_call 19; refine (HHD.out _ _ _ _ _).mono ?_; rintro e v ⟨rfl, hv⟩; have G := hid (G.out.trans (hv.mono (FA.out _ G.out).1.1)); have FF := (FA.out v G.out).2; clear hv)
                  | (go_at_call 21; refine (HRD.out _).mono ?_; rintro e v ⟨rfl, hv⟩; have G := hid (G.out.trans (hv.mono (FA.out _ G.out).1.1)); have FF := (FA.out v G.out).2; clear hv)
                  | (go_at_call 22; refine (HNW.out _).mono ?_; rintro e v ⟨rfl, hv⟩; have G := hid (G.out.trans (hv.mono (FA.out _ G.out).1.1)); have FF := (FA.out v G.out).2; clear hv)
                  | (go_at_call 23; refine (HRN.out _).mono ?_; rintro e v ⟨rfl, hv⟩; have G := hid (G.out.trans (hv.mono (FA.out _ G.out).1.1)); have FF := (FA.out v G.out).2; clear hv)
                  | (go_at_call 20; refine (HCP.out _ G.out).mono ?_; rintro e v ⟨X2, x2, X3, x3, rfl, hv⟩; have G := hid (G.out.trans (hv.mono (FA.out _ G.out).1.1)); have FF := (FA.out v G.out).2; clear hv)
                  | fail)
              all_goals
                (have HB9 := hid (FA.out _ G.out).1.2.2
                 clear e4 e5 FF
                 go_wp2_with fail
                 go_ret
                 exact ⟨rfl, HB9.out⟩)
set_option maxRecDepth 100000 in
theorem lifted (os : Os) (started : os.Started) (H : Type) (enc : TypeId × Value → H) :
    ReturnsInHanded {} Try.checked os 4 .any (Rows.flowHearsSpec.pre6 enc Try.prog Try.f4 Rows.flowHearsRow.domain false) (Rows.flowHearsSpec.post enc Try.prog Try.f4 false true false false) := by
  refine returnsInHanded_of_change_sized (C := Try.checked) own started (by kernel_rfl) Try.func4
    (ChangeSpec.witness6 (enc := enc) (C := Try.checked) false ⟨#[], #[.agg #[.int .i64 0, .int .i64 0, .int .i64 0, .int .i64 0], .agg #[.int .i64 0, .int .i64 0, .int .i64 0, .int .i64 0, .int .i64 0, .int .i64 0, .int .i64 0, .int .i64 0, .int .i64 0, .int .i64 0, .int .i64 0, .int .i64 0, .int .i64 0, .int .i64 0, .bool false, .slice none 0 0, .slice none 0 0], .int .i64 0], []⟩ 8 (by kernel_rfl) (by kernel_rfl) (by kernel_rfl) (by kernel_rfl)) ?_
  intro W base args ds gs before hval0 hW hcnd hsz0 _
  have hsz : (DataW.weightsEach Try.prog (Try.f4.params.toList ++ Rows.flowHearsSpec.plain.varTypes Try.prog) (ds ++ gs)).all (· ≤ reachBytes) = true := hsz0
  clear hsz0
  have hval : ∀ (j : Nat) t v, Try.f4.params[j]? = some t → args[j]? = some v → Value.okWide Try.prog W .any base t v := hval0
  have hW' := hW
  obtain ⟨p, q, hA0, hV, rfl, hfz, hnd⟩ := hW
  have hA : DataW.TrodAll enc Try.prog W 0 (fun _ => true) true Try.f4.params.toList args.toList ds p := hA0
  rw [Try.params4] at hA hval hsz
  obtain ⟨v0, vs0, d0, ds0, p0, q0, hargs, rfl, rfl, g0, t0⟩ := trodAll_cons hA
  obtain ⟨v1, vs1, d1, ds1, p1, q1, rfl, rfl, rfl, g1, t1⟩ := trodAll_cons t0
  obtain ⟨v2, vs2, d2, ds2, p2, q2, rfl, rfl, rfl, g2, t2⟩ := trodAll_cons t1
  obtain ⟨rfl, rfl, rfl⟩ := trodAll_nil t2
  obtain rfl : args = #[v0, v1, v2] := by cases args; simp_all
  obtain ⟨rfl, rfl⟩ := trodVars_none hV
  obtain ⟨cs0, rfl, sz0⟩ := okWide_struct Try.underlying42 (hval 0 42 v0 rfl rfl)
  have m0 := g0
  have lt0 : ∀ x ∈ p0, x.block < W.heap.size := by obtain ⟨m, hm⟩ := m0; exact DataW.trod_lt m _ _ _ hm
  obtain ⟨f0, rfl⟩ := Fw.flow_open sz0 g0
  obtain ⟨cs1, rfl, sz1⟩ := okWide_struct Try.underlying31 (hval 1 31 v1 rfl rfl)
  have m1 := g1
  have lt1 : ∀ x ∈ p1, x.block < W.heap.size := by obtain ⟨m, hm⟩ := m1; exact DataW.trod_lt m _ _ _ hm
  obtain ⟨ms1, a1, cap1, b1, cbp1, rfl, k1⟩ := Ms.msg_open sz1 g1
  obtain ⟨a2, rfl, rfl, rfl, w2⟩ := open_int Try.underlying3 (hval 2 3 v2 rfl rfl) g2
  have b2 := bounds_i64 w2
  clear hA0 hval0
  refine (walk f0 ms1 a1 cap1 b1 cbp1 a2 W k1 b2).mono fun e W' ⟨he, bel⟩ => ?_
  subst he
  exact ⟨_, rfl, _, _, _, [], _, [], hW', trodAll_mk1 (shut_bool Try.underlying4 _), (trodAll_cons_mk (Below.trod laidOut (by kernel_rfl) (of_decide_eq_true (by kernel_rfl)) m0 bel lt0) (trodAll_cons_mk (Below.trod laidOut (by kernel_rfl) (of_decide_eq_true (by kernel_rfl)) m1 bel lt1) (trodAll_cons_mk (shut_int Try.underlying3 w2) trodAll_mk0))), rfl, bel.frame _, fun h => by cases h⟩
theorem over : Rows.flowHearsRow.holds Try.pinned (OpenSpec.ofChange Rows.flowHearsSpec) :=
  OpenClaim.holds_of_wide 4 Try.f4 rfl rfl rfl rfl rfl rfl rfl ⟨rfl, rfl, rfl, rfl, rfl⟩ rfl rfl rfl rfl rfl (by kernel_rfl) Try.func4 (by kernel_rfl)
    (of_decide_eq_true (by kernel_rfl)) (by unfold Func.isWrapper; first | (rw [if_pos (by decide +kernel)]; kernel_rfl) | (rw [if_neg (by decide +kernel)]; exact ⟨rfl, rfl⟩))
    (fun os started H enc _ => lifted os started H enc)
theorem proved : Rows.FlowHearsSaid := over
end Go.Proofs.Ytkmbkihfdilmbaa.flowHears
