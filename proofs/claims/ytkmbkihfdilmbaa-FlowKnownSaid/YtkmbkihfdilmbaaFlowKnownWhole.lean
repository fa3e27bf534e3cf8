/- The chapter's examples. Conditions: none. -/
import Derived.Test.YtkmbkihfdilmbaaFlowKnownPartAB
import Derived.Deep.RegionHeld3
import Derived.StillTailTactics
import Derived.Deep.CutRange
import Derived.Test.YtkmbkihfdilmbaaFlowKnownPartAA
import Derived.StillTail
import Derived.Below
import Derived.WalkKit
import Derived.Test.YtkmbkihfdilmbaaRows
import Derived.WalkLawsBesides
import Derived.ProofKit
import Derived.OpenShut
import Derived.ShutString
import Derived.ChangeOld
import Derived.SizedLaws
namespace Go.Proofs.Ytkmbkihfdilmbaa
open Go.RowKit
set_option maxHeartbeats 800000 in
set_option maxRecDepth 100000 in
theorem slice_no (B : Nat) (g : Rl.Lg) (A : Option Addr) (c : Nat) (i m : Int) (hg : Rl.Ok g) (hn : m < 1 ∨ i = g.base ∨ g.has i = false) (w : World) (h : LgIs w B g A c) (hB : B ≤ w.heap.size) :
    Calls Try.prog 51 #[.agg #[.int .i64 g.base, .int .i64 g.term, .slice A g.es.length c], .int .i64 i, .int .i64 m] w fun e w' => e = .returned (.slice none 0 0) ∧ Below w.heap.size w w' := by
  have hb1 : Below w.heap.size w (w.alloc (.cells #[.int .i64 g.base, .int .i64 g.term, .slice A g.es.length c] 25)) := (Below.refl _ w).alloc (Nat.le_refl _) _
  have HC := hid (has_any w.heap.size g A c i hg _ ((h.more hB).below hb1) hb1.size)
  have HB := hid hb1
  have HN := hid hn
  clear h hb1 hn
  by_cases h1 : m < 1
  · go_enter Try.func51, Try.ntmps51
    go_wp2_with fail
    go_ret
    exact ⟨rfl, HB.out⟩
  · by_cases h2 : i = g.base
    · subst h2
      go_enter Try.func51, Try.ntmps51
      go_wp2_with fail
      go_ret
      exact ⟨rfl, HB.out⟩
    · have h3 : g.has i = false := by
        rcases HN.out with e | e | e
        · exact absurd e h1
        · exact absurd e h2
        · exact e
      rw [h3] at HC
      clear h3
      go_enter Try.func51, Try.ntmps51
      go_wp2_with fail
      refine HC.out.mono ?_
      rintro e w2 ⟨rfl, hb2⟩
      have HB2 := hid (HB.out.trans (hb2.mono HB.out.size))
      clear hb2
      go_wp2_with fail
      go_ret
      exact ⟨rfl, HB2.out⟩
set_option maxHeartbeats 800000 in
set_option maxRecDepth 100000 in
theorem slice_yes (B : Nat) (g : Rl.Lg) (A : Option Addr) (c : Nat) (i m : Int) (j q : Nat) (hi : i = g.base + (j : Int) + 1) (hj : j < g.es.length) (hm : 1 ≤ m) (hq : q = min m.toNat (g.es.length - j)) (hg : Rl.Ok g) (hf : Rl.Few g.es) (w : World) (h : LgIs w B g A c) (hB : B ≤ w.heap.size) :
    Calls Try.prog 51 #[.agg #[.int .i64 g.base, .int .i64 g.term, .slice A g.es.length c], .int .i64 i, .int .i64 m] w fun e w' => ∃ A' c', e = .returned (.slice A' q c') ∧ OwnE w' w.heap.size w'.heap.size A' c' ((g.es.drop j).take m.toNat) ∧ Below w.heap.size w w' := by
  have hb1 : Below w.heap.size w (w.alloc (.cells #[.int .i64 g.base, .int .i64 g.term, .slice A g.es.length c] 25)) := (Below.refl _ w).alloc (Nat.le_refl _) _
  have hh : g.has i = true := by rw [hi]; exact Rl.Lg.has_iff.2 (by omega)
  have HC := hid (has_any w.heap.size g A c i hg _ ((h.more hB).below hb1) hb1.size)
  rw [hh] at HC
  obtain ⟨⟨g0, g1⟩, _, gl⟩ := hg
  have hlen : ((g.es.drop j).take m.toNat).length = q := by rw [List.length_take, List.length_drop, hq]
  have hsl := (h.es.sl (i := j) h.room.1).take m.toNat
  have hroom := h.room.1
  obtain ⟨b, off, rfl, hbB, _⟩ := h.es.cells j hj
  rw [if_neg (by omega)] at hsl
  have hadd : (Option.map (fun x => Addr.add x (j * 3)) (some (⟨b, off, none⟩ : Addr))) = some ⟨b, off + j * 3, none⟩ := by simp [add_off]
  rw [hadd] at hsl
  have HO : Hid (∀ n, n = q → ∀ w' c', Below w.heap.size w w' → Calls Try.prog 69 #[.slice (some ⟨b, off + j * 3, none⟩) n c'] w' fun e w'' => ∃ A' c', e = .returned (.slice A' q c') ∧ OwnE w'' w'.heap.size w''.heap.size A' c' ((g.es.drop j).take m.toNat) ∧ Below w'.heap.size w' w'') := hid (fun n hnq w' c' hb => by rw [hnq]; exact own_any w.heap.size _ c' q _ hlen (by omega) (fun e he => hf e (List.mem_of_mem_drop (List.mem_of_mem_take he))) w' ((hsl.more hB).below hb) hb.size)
  have HB := hid hb1
  have hne : ¬ i = g.base := by omega
  have hm1 : ¬ m < 1 := by omega
  have hsub : i - g.base = (j : Int) + 1 := by omega
  have hi2 : i ≤ 1099511727776 := by omega
  have hjc : ¬ c = j := by omega
  have hjl : (j : Int) ≤ (g.es.length : Int) := by omega
  have hqL : q ≤ g.es.length - j := by omega
  have hmn : min m (((g.es.length - j : Nat)) : Int) = (q : Int) := by omega
  have HQ := hid hq
  clear h hb1 hh hi hsl hadd hlen hf hq hm hmn
  go_enter Try.func51, Try.ntmps51
  go_wp2_with fail
  refine HC.out.mono ?_
  rintro e w2 ⟨rfl, hb2⟩
  have HB2 := hid (HB.out.trans (hb2.mono HB.out.size))
  have q0 : w2.cell? ⟨w.heap.size, 0, none⟩ = some (.int .i64 g.base) := by rw [hb2.cell (by simp)]; simp
  have q2 : w2.cell? ⟨w.heap.size, 2, none⟩ = some (.slice (some ⟨b, off, none⟩) g.es.length c) := by rw [hb2.cell (by simp)]; simp
  clear hb2
  go_wp2_with fail
  all_goals
    (refine (HO.out _ (by have := HQ.out; omega) w2 _ HB2.out).mono ?_
     rintro e w3 ⟨A3, c3, rfl, ho3, hb3⟩
     have H3 := hid (And.intro (ho3.wide HB2.out.size (Nat.le_refl _)) (HB2.out.trans (hb3.mono HB2.out.size)))
     clear hb3 ho3
     go_wp2_with fail
     go_ret
     exact ⟨A3, c3, rfl, H3.out.1, H3.out.2⟩)
theorem slice_any (B : Nat) (g : Rl.Lg) (A : Option Addr) (c : Nat) (i m : Int) (hg : Rl.Ok g) (hf : Rl.Few g.es) (w : World) (h : LgIs w B g A c) (hB : B ≤ w.heap.size) :
    Calls Try.prog 51 #[.agg #[.int .i64 g.base, .int .i64 g.term, .slice A g.es.length c], .int .i64 i, .int .i64 m] w fun e w' => ∃ A' c', e = .returned (.slice A' (g.slice i m).length c') ∧ OwnE w' w.heap.size w'.heap.size A' c' (g.slice i m) ∧ Below w.heap.size w w' := by
  by_cases hn : m < 1 ∨ i = g.base ∨ g.has i = false
  · have e : g.slice i m = [] := by
      unfold Rl.Lg.slice
      rcases hn with e | e | e
      · rw [show m.toNat = 0 by omega]; simp
      · rw [if_neg (by intro h; exact h.2 e)]
      · rw [if_neg (by rw [e]; simp)]
    rw [e]
    exact (slice_no B g A c i m hg hn w h hB).mono fun e w' ⟨h1, h2⟩ => ⟨none, 0, h1, OwnE.nil _ _ _, h2⟩
  · have hn' : ¬ m < 1 ∧ i ≠ g.base ∧ g.has i = true := ⟨fun e => hn (.inl e), fun e => hn (.inr (.inl e)), by
      rcases e : g.has i with _ | _
      · exact absurd (.inr (.inr e)) hn
      · rfl⟩
    obtain ⟨p, h1, h2, h3⟩ := Rl.Lg.has_at hn'.2.2
    obtain ⟨j, rfl⟩ : ∃ j, p = j + 1 := ⟨p - 1, by omega⟩
    have e : g.slice i m = (g.es.drop j).take m.toNat := by
      unfold Rl.Lg.slice
      rw [if_pos ⟨hn'.2.2, hn'.2.1⟩, h3]; rfl
    have el : (g.slice i m).length = min m.toNat (g.es.length - j) := by rw [e, List.length_take, List.length_drop]
    rw [el, e]
    exact slice_yes B g A c i m j _ (by omega) (by omega) (by omega) rfl hg hf w h hB
end Go.Proofs.Ytkmbkihfdilmbaa
namespace Go.Proofs.Ytkmbkihfdilmbaa.Fw
open Go Go.RowKit
open Ms (M)
open Im (ldX stX Hd Pt Ad IsPt encCf)
open Vo (Rw loadAt_msgV storeAt_msgV info_msgV boxes)
set_option maxRecDepth 100000
set_option linter.unusedVariables false
attribute [local go_sem ↓] loadAt_msgV storeAt_msgV loadAt_flow storeAt_flow Im.loadAt_hard Im.storeAt_hard Im.loadAt_log1 Im.storeAt_log1 Im.loadAt_conf3 Im.storeAt_conf3
def snapD (p : Pt) : List Nat := (Pk.enc (encCf p.cf).length ++ encCf p.cf) ++ (Pk.enc p.sn.length ++ p.sn)
def snapN (n0 n1 n2 s : Nat) : Nat := 8 + (8 + 8 * n0 + (8 + 8 * n1) + (8 + 8 * n2)) + 8 + s
theorem blobN (B : Nat) (A : Option Addr) (c : Nat) (l : List Nat) (B' : Nat) (A' : Option Addr) (c' : Nat) (m : List Nat) (n n' r : Nat) (e1 : l.length = n) (e2 : m.length = n') (e3 : n + 8 + n' = r) (hr : r ≤ 140737488354000) (w : World) (h : IsBytes w B A l) (hB : B ≤ w.heap.size) (hn : A = none → c = 0) (h' : IsBytes w B' A' m) (hB' : B' ≤ w.heap.size) (hn' : A' = none → c' = 0) :
    Calls Try.prog 66 #[.slice A n c, .slice A' n' c'] w fun e w' => ∃ A2 c2, e = .returned (.slice A2 r c2) ∧ OwnsB 5 w' w.heap.size A2 c2 (l ++ (Pk.enc m.length ++ m)) ∧ Below w.heap.size w w' := by
  subst e1 e2 e3
  exact packBlob_any B A c l B' A' c' m (by omega) w h hB hn h' hB' hn'
structure Fs (p : Pt) : Prop where
  o : p.cf.old.length ≤ 100000
  n : p.cf.new.length ≤ 100000
  l : p.cf.lrn.length ≤ 100000
  s : p.sn.length ≤ 1000000000
set_option maxHeartbeats 3200000 in
theorem snapshot_any (h : Hd) (ad : Ad) (n0 n1 n2 ns r : Nat) (e0 : h.p.cf.old.length = n0) (e1 : h.p.cf.new.length = n1) (e2 : h.p.cf.lrn.length = n2) (e3 : h.p.sn.length = ns) (er : snapN n0 n1 n2 ns = r) (hf : Fs h.p) (w : World) (hp : IsPt w w.heap.size h.p ad) :
    Calls Try.prog 49 #[.agg #[.int .i64 h.g, .int .i64 h.t, .int .i64 h.v, .int .i64 h.p.log.base, .int .i64 h.p.log.term, .slice ad.e h.p.log.es.length ad.ce, .slice ad.o n0 ad.co, .slice ad.n n1 ad.cn, .slice ad.l n2 ad.cl, .slice ad.s ns ad.cs]] w fun e w' => ∃ A c, e = .returned (.slice A r c) ∧ OwnsB 5 w' w.heap.size A c (snapD h.p) ∧ Below w.heap.size w w' := by
  obtain ⟨ne, hne⟩ : ∃ n, h.p.log.es.length = n := ⟨_, rfl⟩
  rw [hne]
  obtain ⟨w1, hw1⟩ : ∃ w1, w1 = w.alloc (.cells #[.int .i64 h.g, .int .i64 h.t, .int .i64 h.v, .int .i64 h.p.log.base, .int .i64 h.p.log.term, .slice ad.e ne ad.ce, .slice ad.o n0 ad.co, .slice ad.n n1 ad.cn, .slice ad.l n2 ad.cl, .slice ad.s ns ad.cs] 52) := ⟨_, rfl⟩
  have r1 : w1.heap[w.heap.size]? = some (.cells #[.int .i64 h.g, .int .i64 h.t, .int .i64 h.v, .int .i64 h.p.log.base, .int .i64 h.p.log.term, .slice ad.e ne ad.ce, .slice ad.o n0 ad.co, .slice ad.n n1 ad.cn, .slice ad.l n2 ad.cl, .slice ad.s ns ad.cs] 52 (0, 0)) := by rw [hw1]; exact heap_alloc_new w _
  have b1 : Below w.heap.size w w1 := by rw [hw1]; exact (Below.refl _ w).alloc (Nat.le_refl _) _
  obtain ⟨q, hq⟩ : ∃ q, 8 + 8 * n0 + (8 + 8 * n1) + (8 + 8 * n2) = q := ⟨_, rfl⟩
  have hr : 8 + q + 8 + ns = r := by rw [← er, ← hq]; rfl
  have hb : n0 ≤ 100000 ∧ n1 ≤ 100000 ∧ n2 ≤ 100000 ∧ ns ≤ 1000000000 := ⟨e0 ▸ hf.o, e1 ▸ hf.n, e2 ▸ hf.l, e3 ▸ hf.s⟩
  obtain ⟨s1, hs1⟩ : ∃ s, s = w1.heap.size := ⟨_, rfl⟩
  have FA : Hid (∀ W, Below s1 w1 W → IsPt W W.heap.size h.p ad ∧ s1 ≤ W.heap.size ∧ (ldX 37 (.pointer (some ⟨w.heap.size, 6, none⟩))).run Try.prog W = .ok (.agg #[.slice ad.o n0 ad.co, .slice ad.n n1 ad.cn, .slice ad.l n2 ad.cl]) W ∧ W.cell? ⟨w.heap.size, 9, none⟩ = some (.slice ad.s ns ad.cs)) := hid (fun W hW => by
    rw [hs1] at hW ⊢
    have rW := (hW.block _ (row_lt r1)).trans r1
    have hB := b1.trans (hW.mono b1.size)
    exact ⟨(hp.below hB).more hB.size, hW.size, Im.ldConfH rW rfl rfl rfl, row_cell rW 9⟩)
  have HPC : Hid (∀ W, Below s1 w1 W → Calls Try.prog 67 #[.agg #[.slice ad.o n0 ad.co, .slice ad.n n1 ad.cn, .slice ad.l n2 ad.cl]] W fun e w' => Im.Told W.heap.size W (encCf h.p.cf) q e w') := hid (fun W hW => by
    obtain ⟨g1, _⟩ := FA.out W hW
    rw [← hq]
    exact Im.putCf_any W.heap.size W (Nat.le_refl _) h.p.cf ad.o ad.n ad.l ad.co ad.cn ad.cl g1.o g1.n g1.l n0 n1 n2 e0 e1 e2 ⟨by omega, by omega, by omega⟩)
  have HB1 : Hid (∀ W A c, Below s1 w1 W → OwnsB 5 W s1 A c (encCf h.p.cf) → (encCf h.p.cf).length = q → Calls Try.prog 66 #[.slice none 0 0, .slice A q c] W fun e w' => ∃ A2 c2, e = .returned (.slice A2 (8 + q) c2) ∧ OwnsB 5 w' W.heap.size A2 c2 (Pk.enc (encCf h.p.cf).length ++ encCf h.p.cf) ∧ Below W.heap.size W w') := hid (fun W A c hW ho hl =>
    blobN W.heap.size none 0 [] W.heap.size A c (encCf h.p.cf) 0 q (8 + q) rfl hl (by omega) (by omega) W IsBytes.nil (Nat.le_refl _) (fun _ => rfl) ho.reads (Nat.le_refl _) ho.none_)
  have HB2 : Hid (∀ W A c, Below s1 w1 W → OwnsB 5 W s1 A c (Pk.enc (encCf h.p.cf).length ++ encCf h.p.cf) → (encCf h.p.cf).length = q → Calls Try.prog 66 #[.slice A (8 + q) c, .slice ad.s ns ad.cs] W fun e w' => ∃ A2 c2, e = .returned (.slice A2 r c2) ∧ OwnsB 5 w' W.heap.size A2 c2 (snapD h.p) ∧ Below W.heap.size W w') := hid (fun W A c hW ho hl => by
    obtain ⟨g1, _⟩ := FA.out W hW
    exact blobN W.heap.size A c _ W.heap.size ad.s ad.cs h.p.sn (8 + q) ns r (by rw [List.length_append, Pk.enc_length, hl]) e3 (by omega) (by omega) W ho.reads (Nat.le_refl _) ho.none_ g1.s (Nat.le_refl _) g1.rs.2)
  have HB := hid b1
  have HS1 := hid (And.intro hs1 (show w.heap.size ≤ s1 by rw [hs1]; exact b1.size))
  have G0 := hid (show Below s1 w1 w1.drew from (Below.refl _ _).drew)
  have e4 := (FA.out w1 (Below.refl _ _)).2.2
  have e5 := (FA.out w1.drew G0.out).2.2
  have HW1 := hid hw1
  clear hne r1 b1 e0 e1 e2 e3 er hf hp hq hr hb hs1 hw1
  go_enter Try.func49, Try.ntmps49
  go_upto_region 1 with fail
  rw [← HW1.out]
  go_region_held3 (fun W => (ldX 37 (.pointer (some ⟨w.heap.size, 6, none⟩))).run Try.prog W = .ok (.agg #[.slice ad.o n0 ad.co, .slice ad.n n1 ad.cn, .slice ad.l n2 ad.cl]) W ∧ W.cell? ⟨w.heap.size, 9, none⟩ = some (.slice ad.s ns ad.cs))
    (first | with_reducible exact e8 | with_reducible exact e7 | with_reducible exact e6 | with_reducible exact e5 | with_reducible exact e4 | fail)
    (first
      | (go_at_call 66; refine (HB2.out _ _ _ G2.out O2.out.1 O2.out.2).mono ?_; rintro e v3 ⟨A3, c3, rfl, ho3, hb3⟩; have G3 := hid (G2.out.trans (hb3.mono (FA.out _ G2.out).2.1)); have O3 := hid (And.intro ho3 (FA.out _ G2.out).2.1); have e8 := (FA.out v3 G3.out).2.2; clear ho3 hb3)
      | (go_at_call 66; refine (HB1.out _ _ _ G1.out O1.out.1 O1.out.2).mono ?_; rintro e v2 ⟨A2, c2, rfl, ho2, hb2⟩; have G2 := hid (G1.out.trans (hb2.mono (FA.out _ G1.out).2.1)); have O2 := hid (And.intro (ho2.weaken (FA.out _ G1.out).2.1) O1.out.2); have e7 := (FA.out v2 G2.out).2.2; clear ho2 hb2)
      | (go_at_call 67; refine (HPC.out _ G0.out).mono ?_; rintro e v1 ⟨A1, c1, rfl, hq1⟩; have G1 := hid (G0.out.trans (hq1.put.bel.mono (FA.out _ G0.out).2.1)); have O1 := hid (And.intro (hq1.own.weaken (FA.out _ G0.out).2.1) hq1.len); have e6 := (FA.out v1 G1.out).2.2; clear hq1)
      | fail)
  all_goals
    (have HF := hid (And.intro (O3.out.1.weaken (Nat.le_trans HS1.out.2 O3.out.2)) (HB.out.trans (G3.out.mono HS1.out.2)))
     clear e4 e5 e6 e7 e8 FA HPC HB1 HB2 O1 O2 O3
     go_wp2_with fail
     go_ret
     exact ⟨_, _, rfl, HF.out.1, HF.out.2⟩)
end Go.Proofs.Ytkmbkihfdilmbaa.Fw
namespace Go.Proofs.Ytkmbkihfdilmbaa.Fw
open Go Go.RowKit
open Ms (M)
open Im (ldX stX Hd Pt Ad IsPt encCf)
open Vo (Rw loadAt_msgV storeAt_msgV info_msgV boxes)
set_option maxRecDepth 100000
set_option linter.unusedVariables false
attribute [local go_sem ↓] loadAt_msgV storeAt_msgV loadAt_flow storeAt_flow Im.loadAt_hard Im.storeAt_hard Im.loadAt_log1 Im.storeAt_log1 Im.loadAt_conf3 Im.storeAt_conf3
structure Nx (w W : World) (f : Fl) (h : Hd) (ad : Ad) (ne n0 n1 n2 ns : Nat) : Prop where
  bel : Below w.heap.size w W
  rf : Rw W w.heap.size #[.int .i64 f.n, .int .i64 f.x, .int .i64 f.m, .int .i64 f.r] 42
  rh : Rw W (w.heap.size + 1) #[.int .i64 h.g, .int .i64 h.t, .int .i64 h.v, .int .i64 h.p.log.base, .int .i64 h.p.log.term, .slice ad.e ne ad.ce, .slice ad.o n0 ad.co, .slice ad.n n1 ad.cn, .slice ad.l n2 ad.cl, .slice ad.s ns ad.cs] 52
  rm : Rw W (w.heap.size + 2) #[.int .i64 0, .int .i64 0, .int .i64 0, .int .i64 0, .int .i64 0, .int .i64 0, .int .i64 0, .int .i64 0, .int .i64 0, .int .i64 0, .int .i64 0, .int .i64 0, .int .i64 0, .int .i64 0, .bool false, .slice none 0 0, .slice none 0 0] 31
theorem Nx.keep {w W W' : World} {f : Fl} {h : Hd} {ad : Ad} {ne n0 n1 n2 ns : Nat} (q : Nx w W f h ad ne n0 n1 n2 ns) (hb : Below W.heap.size W W') : Nx w W' f h ad ne n0 n1 n2 ns :=
  ⟨q.bel.trans (hb.mono q.bel.size), q.rf.keep hb, q.rh.keep hb, q.rm.keep hb⟩
theorem ldHV {w : World} {b : Nat} {cs : Array Value} (h : Rw w b cs 52) (hn : cs.size = 10) : (ldX 52 (.pointer (some ⟨b, 0, none⟩))).run Try.prog w = .ok (.agg cs) w :=
  Im.ldRow Im.info_hard Try.underlying52 rfl h hn
theorem Nx.lds {w W : World} {f : Fl} {h : Hd} {ad : Ad} {ne n0 n1 n2 ns : Nat} (q : Nx w W f h ad ne n0 n1 n2 ns) :
    (W.cell? ⟨w.heap.size, 0, none⟩ = some (.int .i64 f.n) ∧ W.cell? ⟨w.heap.size, 1, none⟩ = some (.int .i64 f.x)) ∧ (W.cell? ⟨w.heap.size + 1, 0, none⟩ = some (.int .i64 h.g) ∧ W.cell? ⟨w.heap.size + 1, 1, none⟩ = some (.int .i64 h.t) ∧ W.cell? ⟨w.heap.size + 1, 3, none⟩ = some (.int .i64 h.p.log.base) ∧ W.cell? ⟨w.heap.size + 1, 4, none⟩ = some (.int .i64 h.p.log.term)) ∧ (ldX 52 (.pointer (some ⟨w.heap.size + 1, 0, none⟩))).run Try.prog W = .ok (.agg #[.int .i64 h.g, .int .i64 h.t, .int .i64 h.v, .int .i64 h.p.log.base, .int .i64 h.p.log.term, .slice ad.e ne ad.ce, .slice ad.o n0 ad.co, .slice ad.n n1 ad.cn, .slice ad.l n2 ad.cl, .slice ad.s ns ad.cs]) W ∧ (ldX 25 (.pointer (some ⟨w.heap.size + 1, 3, none⟩))).run Try.prog W = .ok (.agg #[.int .i64 h.p.log.base, .int .i64 h.p.log.term, .slice ad.e ne ad.ce]) W :=
  ⟨⟨row_cell q.rf 0, row_cell q.rf 1⟩, ⟨row_cell q.rh 0, row_cell q.rh 1, row_cell q.rh 3, row_cell q.rh 4⟩, ldHV q.rh rfl, Im.ldLogH q.rh rfl rfl rfl⟩
theorem Nx.ldsT {w W W' : World} {f : Fl} {h : Hd} {ad : Ad} {ne n0 n1 n2 ns : Nat} (q : Nx w W f h ad ne n0 n1 n2 ns) (hT : Turned (fun k => k = w.heap.size + 2) W W') :
    (W'.cell? ⟨w.heap.size, 0, none⟩ = some (.int .i64 f.n) ∧ W'.cell? ⟨w.heap.size, 1, none⟩ = some (.int .i64 f.x)) ∧ (W'.cell? ⟨w.heap.size + 1, 0, none⟩ = some (.int .i64 h.g) ∧ W'.cell? ⟨w.heap.size + 1, 1, none⟩ = some (.int .i64 h.t) ∧ W'.cell? ⟨w.heap.size + 1, 3, none⟩ = some (.int .i64 h.p.log.base) ∧ W'.cell? ⟨w.heap.size + 1, 4, none⟩ = some (.int .i64 h.p.log.term)) ∧ (ldX 52 (.pointer (some ⟨w.heap.size + 1, 0, none⟩))).run Try.prog W' = .ok (.agg #[.int .i64 h.g, .int .i64 h.t, .int .i64 h.v, .int .i64 h.p.log.base, .int .i64 h.p.log.term, .slice ad.e ne ad.ce, .slice ad.o n0 ad.co, .slice ad.n n1 ad.cn, .slice ad.l n2 ad.cl, .slice ad.s ns ad.cs]) W' ∧ (ldX 25 (.pointer (some ⟨w.heap.size + 1, 3, none⟩))).run Try.prog W' = .ok (.agg #[.int .i64 h.p.log.base, .int .i64 h.p.log.term, .slice ad.e ne ad.ce]) W' := by
  have rf := (hT.block _ (row_lt q.rf) (by omega)).trans q.rf
  have rh := (hT.block _ (row_lt q.rh) (by omega)).trans q.rh
  exact ⟨⟨row_cell rf 0, row_cell rf 1⟩, ⟨row_cell rh 0, row_cell rh 1, row_cell rh 3, row_cell rh 4⟩, ldHV rh rfl, Im.ldLogH rh rfl rfl rfl⟩
theorem Nx.start (w : World) (f : Fl) (h : Hd) (ad : Ad) (ne n0 n1 n2 ns : Nat) : Nx w (((w.alloc (.cells #[.int .i64 f.n, .int .i64 f.x, .int .i64 f.m, .int .i64 f.r] 42)).alloc (.cells #[.int .i64 h.g, .int .i64 h.t, .int .i64 h.v, .int .i64 h.p.log.base, .int .i64 h.p.log.term, .slice ad.e ne ad.ce, .slice ad.o n0 ad.co, .slice ad.n n1 ad.cn, .slice ad.l n2 ad.cl, .slice ad.s ns ad.cs] 52)).alloc (.cells #[.int .i64 0, .int .i64 0, .int .i64 0, .int .i64 0, .int .i64 0, .int .i64 0, .int .i64 0, .int .i64 0, .int .i64 0, .int .i64 0, .int .i64 0, .int .i64 0, .int .i64 0, .int .i64 0, .bool false, .slice none 0 0, .slice none 0 0] 31)) f h ad ne n0 n1 n2 ns := by
  obtain ⟨r0, r1, r2, hb⟩ := Vo.Rw.three w #[.int .i64 f.n, .int .i64 f.x, .int .i64 f.m, .int .i64 f.r] #[.int .i64 h.g, .int .i64 h.t, .int .i64 h.v, .int .i64 h.p.log.base, .int .i64 h.p.log.term, .slice ad.e ne ad.ce, .slice ad.o n0 ad.co, .slice ad.n n1 ad.cn, .slice ad.l n2 ad.cl, .slice ad.s ns ad.cs] #[.int .i64 0, .int .i64 0, .int .i64 0, .int .i64 0, .int .i64 0, .int .i64 0, .int .i64 0, .int .i64 0, .int .i64 0, .int .i64 0, .int .i64 0, .int .i64 0, .int .i64 0, .int .i64 0, .bool false, .slice none 0 0, .slice none 0 0] 42 52 31
  exact ⟨hb, r0, r1, r2⟩
theorem Nx.put {w W : World} {f : Fl} {h : Hd} {ad : Ad} {ne n0 n1 n2 ns : Nat} (q : Nx w W f h ad ne n0 n1 n2 ns) (cs : Array Value) (hn : cs.size = 17) (h1 : cs.all (·.oneCell') = true) :
    ∃ W', (stX 31 (.pointer (some ⟨w.heap.size + 2, 0, none⟩)) (.agg cs)).run Try.prog W = .ok () W' ∧ W'.heap[w.heap.size + 2]? = some (.cells cs 31 (0, 0)) ∧ Below w.heap.size w W' ∧ Turned (fun k => k = w.heap.size + 2) W W' :=
  ⟨W.setRow (w.heap.size + 2) cs, Im.stRow info_msgV q.rm rfl hn h1, setRow_heap W (w.heap.size + 2) _ cs _ _ q.rm, q.bel.trans ((Im.row_turned W (w.heap.size + 2) cs).below q.bel.size (fun k hk => by omega)), Im.row_turned W (w.heap.size + 2) cs⟩
set_option maxHeartbeats 6400000 in
theorem nextS_any (f : Fl) (id commit round : Int) (h : Hd) (ad : Ad) (ne n0 n1 n2 ns r : Nat) (e9 : h.p.log.es.length = ne) (e0 : h.p.cf.old.length = n0) (e1 : h.p.cf.new.length = n1) (e2 : h.p.cf.lrn.length = n2) (e3 : h.p.sn.length = ns) (er : snapN n0 n1 n2 ns = r) (hf : Fs h.p) (hx : f.x ≤ h.p.log.base) (w : World) (hp : IsPt w w.heap.size h.p ad) :
    Calls Try.prog 26 #[.agg #[.int .i64 f.n, .int .i64 f.x, .int .i64 f.m, .int .i64 f.r], .int .i64 id, .agg #[.int .i64 h.g, .int .i64 h.t, .int .i64 h.v, .int .i64 h.p.log.base, .int .i64 h.p.log.term, .slice ad.e ne ad.ce, .slice ad.o n0 ad.co, .slice ad.n n1 ad.cn, .slice ad.l n2 ad.cl, .slice ad.s ns ad.cs], .int .i64 commit, .int .i64 round] w fun e w' => ∃ A c, e = .returned (.agg #[.int .i64 5, .int .i64 id, .int .i64 f.n, .int .i64 h.g, .int .i64 h.t, .int .i64 h.p.log.base, .int .i64 h.p.log.term, .int .i64 0, .int .i64 round, .int .i64 0, .int .i64 0, .int .i64 0, .int .i64 0, .int .i64 0, .bool false, .slice none 0 0, .slice A r c]) ∧ OwnsB 5 w' w.heap.size A c (snapD h.p) ∧ Below w.heap.size w w' := by
  obtain ⟨w1, hw1⟩ : ∃ w1, w1 = ((w.alloc (.cells #[.int .i64 f.n, .int .i64 f.x, .int .i64 f.m, .int .i64 f.r] 42)).alloc (.cells #[.int .i64 h.g, .int .i64 h.t, .int .i64 h.v, .int .i64 h.p.log.base, .int .i64 h.p.log.term, .slice ad.e ne ad.ce, .slice ad.o n0 ad.co, .slice ad.n n1 ad.cn, .slice ad.l n2 ad.cl, .slice ad.s ns ad.cs] 52)).alloc (.cells #[.int .i64 0, .int .i64 0, .int .i64 0, .int .i64 0, .int .i64 0, .int .i64 0, .int .i64 0, .int .i64 0, .int .i64 0, .int .i64 0, .int .i64 0, .int .i64 0, .int .i64 0, .int .i64 0, .bool false, .slice none 0 0, .slice none 0 0] 31) := ⟨_, rfl⟩
  have hq := Nx.start w f h ad ne n0 n1 n2 ns
  rw [← hw1] at hq
  have Q1 := hid hq
  have Q2 := hid (hq.keep (show Below w1.heap.size w1 w1.drew from (Below.refl _ _).drew))
  have HS := snapshot_any h ad n0 n1 n2 ns r e0 e1 e2 e3 er hf w1.drew ((hp.below Q2.out.bel).more Q2.out.bel.size)
  rw [e9] at HS
  have HSN := hid HS
  have HW1 := hid hw1
  clear hw1 hq HS e9 e0 e1 e2 e3 er hf hp
  obtain ⟨⟨l0, l1⟩, ⟨l2, l3, l4, l5⟩, l6, l7⟩ := Q1.out.lds
  go_enter Try.func26, Try.ntmps26
  go_upto_region 1 with fail
  rw [← HW1.out]
  go_upto_region 2 with fail
  clear l0 l1 l2 l3 l4 l5 l6 l7 hx
  have e4 := Q1.out.lds
  have e5 := Q2.out.lds
  go_region_held3 (fun W => (W.cell? ⟨w.heap.size, 0, none⟩ = some (.int .i64 f.n) ∧ W.cell? ⟨w.heap.size, 1, none⟩ = some (.int .i64 f.x)) ∧ (W.cell? ⟨w.heap.size + 1, 0, none⟩ = some (.int .i64 h.g) ∧ W.cell? ⟨w.heap.size + 1, 1, none⟩ = some (.int .i64 h.t) ∧ W.cell? ⟨w.heap.size + 1, 3, none⟩ = some (.int .i64 h.p.log.base) ∧ W.cell? ⟨w.heap.size + 1, 4, none⟩ = some (.int .i64 h.p.log.term)) ∧ (ldX 52 (.pointer (some ⟨w.heap.size + 1, 0, none⟩))).run Try.prog W = .ok (.agg #[.int .i64 h.g, .int .i64 h.t, .int .i64 h.v, .int .i64 h.p.log.base, .int .i64 h.p.log.term, .slice ad.e ne ad.ce, .slice ad.o n0 ad.co, .slice ad.n n1 ad.cn, .slice ad.l n2 ad.cl, .slice ad.s ns ad.cs]) W ∧ (ldX 25 (.pointer (some ⟨w.heap.size + 1, 3, none⟩))).run Try.prog W = .ok (.agg #[.int .i64 h.p.log.base, .int .i64 h.p.log.term, .slice ad.e ne ad.ce]) W)
    (first | with_reducible exact e7 | with_reducible exact e6 | with_reducible exact e5 | with_reducible exact e4 | fail)
    (first
      | (go_at_call 49; refine HSN.out.mono ?_; rintro e v ⟨A, c, rfl, ho, hb⟩; obtain ⟨v', hst, hr, hB, hT⟩ := (Q2.out.keep hb).put #[.int .i64 5, .int .i64 id, .int .i64 f.n, .int .i64 h.g, .int .i64 h.t, .int .i64 h.p.log.base, .int .i64 h.p.log.term, .int .i64 0, .int .i64 round, .int .i64 0, .int .i64 0, .int .i64 0, .int .i64 0, .int .i64 0, .bool false, .slice none 0 0, .slice A r c] rfl (by simp [Value.oneCell']); have HO := hid (And.intro hr (And.intro ((ho.turned hT (fun k hk => by have := (ho.blkLt k hk).1; have := row_lt Q2.out.rm; omega)).weaken Q2.out.bel.size) hB)); have e6 := (Q2.out.keep hb).lds; have e7 := (Q2.out.keep hb).ldsT hT; clear ho hb hr hB hT)
      | fail)
  all_goals
    (clear e4 e5 e6 e7 HSN
     go_wp2_with fail
     refine bodyPost_ret (results_cell_row rfl _ _ (w.heap.size + 2) _ _ _ _ rfl HO.out.1 Try.underlying31 rfl (by rw [info_msgV]; rfl)) rfl ?_
     exact ⟨A, c, rfl, HO.out.2⟩)
set_option maxHeartbeats 6400000 in
theorem nextE_any (f : Fl) (hpl : Pl f) (id commit round : Int) (h : Hd) (ad : Ad) (ne n0 n1 n2 ns r : Nat) (e9 : h.p.log.es.length = ne) (hr : (h.p.log.slice f.x 8).length = r) (hok : Rl.Ok h.p.log) (hfew : Rl.Few h.p.log.es) (hx : ¬ f.x ≤ h.p.log.base) (w : World) (hp : IsPt w w.heap.size h.p ad) :
    Calls Try.prog 26 #[.agg #[.int .i64 f.n, .int .i64 f.x, .int .i64 f.m, .int .i64 f.r], .int .i64 id, .agg #[.int .i64 h.g, .int .i64 h.t, .int .i64 h.v, .int .i64 h.p.log.base, .int .i64 h.p.log.term, .slice ad.e ne ad.ce, .slice ad.o n0 ad.co, .slice ad.n n1 ad.cn, .slice ad.l n2 ad.cl, .slice ad.s ns ad.cs], .int .i64 commit, .int .i64 round] w fun e w' => ∃ A c, e = .returned (.agg #[.int .i64 3, .int .i64 id, .int .i64 f.n, .int .i64 h.g, .int .i64 h.t, .int .i64 (f.x - 1), .int .i64 (h.p.log.termV (f.x - 1)), .int .i64 commit, .int .i64 round, .int .i64 0, .int .i64 0, .int .i64 0, .int .i64 0, .int .i64 0, .bool false, .slice A r c, .slice none 0 0]) ∧ OwnE w' w.heap.size w'.heap.size A c (h.p.log.slice f.x 8) ∧ Below w.heap.size w w' := by
  obtain ⟨w1, hw1⟩ : ∃ w1, w1 = ((w.alloc (.cells #[.int .i64 f.n, .int .i64 f.x, .int .i64 f.m, .int .i64 f.r] 42)).alloc (.cells #[.int .i64 h.g, .int .i64 h.t, .int .i64 h.v, .int .i64 h.p.log.base, .int .i64 h.p.log.term, .slice ad.e ne ad.ce, .slice ad.o n0 ad.co, .slice ad.n n1 ad.cn, .slice ad.l n2 ad.cl, .slice ad.s ns ad.cs] 52)).alloc (.cells #[.int .i64 0, .int .i64 0, .int .i64 0, .int .i64 0, .int .i64 0, .int .i64 0, .int .i64 0, .int .i64 0, .int .i64 0, .int .i64 0, .int .i64 0, .int .i64 0, .int .i64 0, .int .i64 0, .bool false, .slice none 0 0, .slice none 0 0] 31) := ⟨_, rfl⟩
  have hq := Nx.start w f h ad ne n0 n1 n2 ns
  rw [← hw1] at hq
  have Q1 := hid hq
  have HLG : Hid (∀ W, Below w.heap.size w W → LgIs W W.heap.size h.p.log ad.e ad.ce) := hid (fun W hW => ⟨(hp.es.below hW).more hW.size, hp.re.1, hp.re.2, hp.num⟩)
  have HT1 := term_any w1.heap.size h.p.log ad.e ad.ce (f.x - 1) hok w1 (HLG.out w1 hq.bel) (Nat.le_refl _)
  rw [e9] at HT1
  have HTT := hid HT1
  have HOK := hid (And.intro hok hfew)
  have HW1 := hid hw1
  have HE9 := hid e9
  have HR := hid hr
  obtain ⟨x1, x2⟩ := hpl.x
  have hwr : IntKind.i64.wrap (f.x - 1) = f.x - 1 := by rw [IntKind.wrap_i64]; omega
  obtain ⟨tv, htv⟩ : ∃ t, h.p.log.termV (f.x - 1) = t := ⟨_, rfl⟩
  obtain ⟨hv, hhv⟩ : ∃ b, h.p.log.has (f.x - 1) = b := ⟨_, rfl⟩
  rw [htv, hhv] at HTT
  rw [htv]
  obtain ⟨xm, hxm⟩ : ∃ x, f.x - 1 = x := ⟨_, rfl⟩
  rw [hxm] at HTT hwr
  rw [hxm]
  clear hw1 hq HT1 e9 hok hfew hp hr hpl htv hhv
  obtain ⟨⟨l0, l1⟩, ⟨l2, l3, l4, l5⟩, l6, l7⟩ := Q1.out.lds
  go_enter Try.func26, Try.ntmps26
  go_upto_region 1 with fail
  rw [← HW1.out]
  go_upto_region 3 with fail
  go_wp2_with fail
  refine HTT.out.mono ?_
  rintro e v ⟨rfl, hb⟩
  have Q2 := hid (Q1.out.keep hb)
  have Q3 := hid (Q2.out.keep (show Below v.heap.size v v.drew from (Below.refl _ _).drew))
  have HS1 := slice_any v.drew.heap.size h.p.log ad.e ad.ce f.x 8 HOK.out.1 HOK.out.2 v.drew (HLG.out v.drew Q3.out.bel) (Nat.le_refl _)
  rw [HE9.out, HR.out] at HS1
  have HSS := hid HS1
  clear hb HS1 l0 l1 l2 l3 l4 l5 l6 l7 hx HTT
  go_upto_region 4 with fail
  have e4 := Q2.out.lds
  have e5 := Q3.out.lds
  go_region_held3 (fun W => (W.cell? ⟨w.heap.size, 0, none⟩ = some (.int .i64 f.n) ∧ W.cell? ⟨w.heap.size, 1, none⟩ = some (.int .i64 f.x)) ∧ (W.cell? ⟨w.heap.size + 1, 0, none⟩ = some (.int .i64 h.g) ∧ W.cell? ⟨w.heap.size + 1, 1, none⟩ = some (.int .i64 h.t) ∧ W.cell? ⟨w.heap.size + 1, 3, none⟩ = some (.int .i64 h.p.log.base) ∧ W.cell? ⟨w.heap.size + 1, 4, none⟩ = some (.int .i64 h.p.log.term)) ∧ (ldX 52 (.pointer (some ⟨w.heap.size + 1, 0, none⟩))).run Try.prog W = .ok (.agg #[.int .i64 h.g, .int .i64 h.t, .int .i64 h.v, .int .i64 h.p.log.base, .int .i64 h.p.log.term, .slice ad.e ne ad.ce, .slice ad.o n0 ad.co, .slice ad.n n1 ad.cn, .slice ad.l n2 ad.cl, .slice ad.s ns ad.cs]) W ∧ (ldX 25 (.pointer (some ⟨w.heap.size + 1, 3, none⟩))).run Try.prog W = .ok (.agg #[.int .i64 h.p.log.base, .int .i64 h.p.log.term, .slice ad.e ne ad.ce]) W)
    (first | with_reducible exact e7 | with_reducible exact e6 | with_reducible exact e5 | with_reducible exact e4 | fail)
    (first
      | (go_at_call 51; refine HSS.out.mono ?_; rintro e v2 ⟨A, c, rfl, ho, hb⟩; obtain ⟨v', hst, hr, hB, hT⟩ := (Q3.out.keep hb).put #[.int .i64 3, .int .i64 id, .int .i64 f.n, .int .i64 h.g, .int .i64 h.t, .int .i64 xm, .int .i64 tv, .int .i64 commit, .int .i64 round, .int .i64 0, .int .i64 0, .int .i64 0, .int .i64 0, .int .i64 0, .bool false, .slice A r c, .slice none 0 0] rfl (by simp [Value.oneCell']); have HO := hid (And.intro hr (And.intro ((ho.keep hT (fun k hk hB => by have := hB.1; have := row_lt Q3.out.rm; omega)).wide Q3.out.bel.size hT.size) hB)); have e6 := (Q3.out.keep hb).lds; have e7 := (Q3.out.keep hb).ldsT hT; clear ho hb hr hB hT)
      | fail)
  all_goals
    (clear e4 e5 e6 e7 HSS
     go_wp2_with fail
     refine bodyPost_ret (results_cell_row rfl _ _ (w.heap.size + 2) _ _ _ _ rfl HO.out.1 Try.underlying31 rfl (by rw [info_msgV]; rfl)) rfl ?_
     exact ⟨A, c, rfl, HO.out.2⟩)
end Go.Proofs.Ytkmbkihfdilmbaa.Fw
namespace Go.Proofs.Ytkmbkihfdilmbaa
open Go.RowKit
set_option maxRecDepth 100000
end Go.Proofs.Ytkmbkihfdilmbaa
namespace Go.Proofs.Ytkmbkihfdilmbaa
open Go.RowKit
end Go.Proofs.Ytkmbkihfdilmbaa
namespace Go.Proofs.Ytkmbkihfdilmbaa
open Go.RowKit
set_option maxRecDepth 100000
end Go.Proofs.Ytkmbkihfdilmbaa
namespace Go.Proofs.Ytkmbkihfdilmbaa.Im
open Go Go.RowKit
open Rl (En Lg)
open Qu (Cf)
open Pk (enc encs)
set_option maxRecDepth 100000
set_option linter.unusedVariables false
attribute [local go_sem ↓] loadAt_hard storeAt_hard
structure Rbs (w w' : World) (A : Option Addr) (l : List Nat) (q : Nat) : Prop where
  is : IsBytes w' w'.heap.size A l
  len : l.length = q
  bel : Below w.heap.size w w'
theorem Rbs.refl {w : World} {A : Option Addr} {l : List Nat} {q : Nat} (h : IsBytes w w.heap.size A l) (hl : l.length = q) : Rbs w w A l q := ⟨h, hl, Below.refl _ _⟩
theorem Rbs.then_ {a b c : World} {A A' : Option Addr} {l l' : List Nat} {q q' : Nat} (h : Rbs a b A l q) (h' : Rbs b c A' l' q') : Rbs a c A' l' q' := ⟨h'.is, h'.len, h.bel.trans (h'.bel.mono h.bel.size)⟩
theorem Rbs.from {a b c : World} {A : Option Addr} {l : List Nat} {q : Nat} (hb : Below a.heap.size a b) (h : Rbs b c A l q) : Rbs a c A l q := ⟨h.is, h.len, hb.trans (h.bel.mono hb.size)⟩
theorem Rbs.row {a b : World} {A : Option Addr} {l : List Nat} {q k : Nat} {o : Obj} (h : Rbs a b A l q) (hr : a.heap[k]? = some o) : b.heap[k]? = some o := (h.bel.block _ (Array.getElem?_eq_some_iff.1 hr).1).trans hr
theorem Rbs.drew {a b : World} {A : Option Addr} {l : List Nat} {q : Nat} (h : Rbs a b A l q) : Rbs a b.drew A l q := ⟨h.is.below (Below.refl _ b).drew, h.len, h.bel.drew⟩
end Go.Proofs.Ytkmbkihfdilmbaa.Im
namespace Go.Proofs.Ytkmbkihfdilmbaa.Im
open Go Go.RowKit
open Rl (En Lg)
open Qu (Cf)
open Pk (enc encs)
set_option maxRecDepth 100000
set_option linter.unusedVariables false
attribute [local go_sem ↓] loadAt_hard storeAt_hard
end Go.Proofs.Ytkmbkihfdilmbaa.Im
namespace Go.Proofs.Ytkmbkihfdilmbaa
open Go.RowKit
end Go.Proofs.Ytkmbkihfdilmbaa
namespace Go.Proofs.Ytkmbkihfdilmbaa
open Go.RowKit
end Go.Proofs.Ytkmbkihfdilmbaa
namespace Go.Proofs.Ytkmbkihfdilmbaa
open Go.RowKit
end Go.Proofs.Ytkmbkihfdilmbaa
namespace Go.Proofs.Ytkmbkihfdilmbaa.Fw
open Go Go.RowKit
open Ms (M)
open Im (ldX stX Hd Pt Ad IsPt encCf)
open Vo (Rw loadAt_msgV storeAt_msgV info_msgV boxes)
set_option maxRecDepth 100000
set_option linter.unusedVariables false
attribute [local go_sem ↓] loadAt_msgV storeAt_msgV loadAt_flow storeAt_flow Im.loadAt_hard Im.storeAt_hard Im.loadAt_log1 Im.storeAt_log1 Im.loadAt_conf3 Im.storeAt_conf3
structure NR (w W : World) (f : Fl) (h : Hd) (ad : Ad) (ne n0 n1 n2 ns : Nat) (b3 : Nat) (cs : Array Value) : Prop where
  nx : Nx w W f h ad ne n0 n1 n2 ns
  m : Rw W b3 cs 31
  lo : w.heap.size + 3 ≤ b3
section
variable {w W W' : World} {f : Fl} {h : Hd} {ad : Ad} {ne n0 n1 n2 ns b3 : Nat} {cs : Array Value}
theorem NR.keep (q : NR w W f h ad ne n0 n1 n2 ns b3 cs) (hb : Below W.heap.size W W') : NR w W' f h ad ne n0 n1 n2 ns b3 cs := ⟨q.nx.keep hb, q.m.keep hb, q.lo⟩
theorem NR.set (q : NR w W f h ad ne n0 n1 n2 ns b3 cs) (i : Nat) (v : Value) : NR w (W.setCell ⟨b3, i, none⟩ v) f h ad ne n0 n1 n2 ns b3 (cs.setIfInBounds i v) := by
  have hlo := q.lo
  exact ⟨⟨q.nx.bel.setCell (show w.heap.size ≤ b3 by omega) _, q.nx.rf.other (by omega) _ _, q.nx.rh.other (by omega) _ _, q.nx.rm.other (by omega) _ _⟩, q.m.put i v, q.lo⟩
end
theorem NR.start (w w1 : World) (f : Fl) (h : Hd) (ad : Ad) (ne n0 n1 n2 ns : Nat) (id round : Int) (q : Nx w w1 f h ad ne n0 n1 n2 ns) (hz : w1.heap.size = w.heap.size + 3) : NR w (w1.alloc (.cells #[.int .i64 0, .int .i64 id, .int .i64 f.n, .int .i64 h.g, .int .i64 h.t, .int .i64 0, .int .i64 0, .int .i64 0, .int .i64 round, .int .i64 0, .int .i64 0, .int .i64 0, .int .i64 0, .int .i64 0, .bool false, .slice none 0 0, .slice none 0 0] 31)) f h ad ne n0 n1 n2 ns w1.heap.size #[.int .i64 0, .int .i64 id, .int .i64 f.n, .int .i64 h.g, .int .i64 h.t, .int .i64 0, .int .i64 0, .int .i64 0, .int .i64 round, .int .i64 0, .int .i64 0, .int .i64 0, .int .i64 0, .int .i64 0, .bool false, .slice none 0 0, .slice none 0 0] :=
  ⟨q.keep ((Below.refl _ _).alloc (Nat.le_refl _) _), heap_alloc_new w1 _, by omega⟩
end Go.Proofs.Ytkmbkihfdilmbaa.Fw
namespace Go.Proofs.Ytkmbkihfdilmbaa
open Go Go.RowKit
set_option maxRecDepth 100000
set_option linter.unusedVariables false
structure Gp where
  p : World → Value → Prop
  mono : ∀ w w' v, p w v → Below w.heap.size w w' → p w' v
def Gp.any : Gp := ⟨fun _ _ => True, fun _ _ _ _ _ => trivial⟩
def Gp.is (v0 : Value) : Gp := ⟨fun _ v => v = v0, fun _ _ _ h _ => h⟩
def Gp.row (lo : Nat) (n : Nat) (cs : Array Value) (t : TypeId) : Gp := ⟨fun w v => ∃ b, lo ≤ b ∧ v = .slice (some ⟨b, 0, none⟩) n n ∧ w.heap[b]? = some (.cells cs t (0, 0)), fun w w' v ⟨b, h0, h1, h2⟩ hb => ⟨b, h0, h1, (hb.block b (Array.getElem?_eq_some_iff.1 h2).1).trans h2⟩⟩
def dstsN (ops : Array Oper) (n : Nat) : List Nat := (ops.toList.take n).filterMap (·.dst)
structure Jg (H : Nat → Gp) (ops : Array Oper) (n : Nat) (a0 : Act) (w0 : World) (listed : Array Bool) (a : Act) (w : World) : Prop where
  size : a.tmps.size = a0.tmps.size
  defers : a.defers = a0.defers
  keep : ∀ s, s ∉ dstsN ops n → a.eval (.tmp s) = a0.eval (.tmp s)
  lsize : listed.size = ops.size
  slots : ∀ j o d, ops[j]? = some o → o.dst = some d → listed.getD j false = true → (H j).p w (a.eval (.tmp d))
  clos : ∀ j o, ops[j]? = some o → listed.getD j false = true → ∀ e ∈ o.after, Region.binds .any e = true → listed.getD e.on false = true
  bel : Below w0.heap.size w0 w
  tail : ∀ j, n ≤ j → listed.getD j false = false
theorem mem_dsts {ops : Array Oper} {n j d : Nat} {o : Oper} (hj : ops[j]? = some o) (hd : o.dst = some d) (hn : j < n) : d ∈ dstsN ops n := by
  refine List.mem_filterMap.2 ⟨o, ?_, hd⟩
  have : (ops.toList.take n)[j]? = some o := by rw [List.getElem?_take, if_pos hn, Array.getElem?_toList]; exact hj
  exact List.mem_of_getElem? this
theorem dst_once {l : List Oper} (h : (l.filterMap (·.dst)).Nodup) : ∀ {i j : Nat} {o o' : Oper} {d : Nat}, l[i]? = some o → l[j]? = some o' → o.dst = some d → o'.dst = some d → i = j := by
  induction l with
  | nil => intro i j o o' d h1; simp at h1
  | cons x l ih =>
    intro i j o o' d h1 h2 h3 h4
    have hm : ∀ {k : Nat} {y : Oper}, l[k]? = some y → y.dst = some d → d ∈ l.filterMap (·.dst) := fun hk hy => List.mem_filterMap.2 ⟨_, List.mem_of_getElem? hk, hy⟩
    have hl : (l.filterMap (·.dst)).Nodup := by
      rcases hx : x.dst with _ | dx
      · rw [List.filterMap_cons_none hx] at h; exact h
      · rw [List.filterMap_cons_some hx] at h; exact (List.nodup_cons.1 h).2
    rcases i with _ | i
    · rcases j with _ | j
      · rfl
      · simp at h1 h2
        subst h1
        rw [List.filterMap_cons_some h3] at h
        exact absurd (hm h2 h4) (List.nodup_cons.1 h).1
    · rcases j with _ | j
      · simp at h1 h2
        subst h2
        rw [List.filterMap_cons_some h4] at h
        exact absurd (hm h1 h3) (List.nodup_cons.1 h).1
      · simp at h1 h2
        rw [ih hl h1 h2 h3 h4]
theorem once_of {ops : Array Oper} {n i j d : Nat} {o o' : Oper} (h : (dstsN ops n).Nodup) (hi : ops[i]? = some o) (hj : ops[j]? = some o') (hin : i < n) (hjn : j < n) (h1 : o.dst = some d) (h2 : o'.dst = some d) : i = j := by
  have t : ∀ {k : Nat} {y : Oper}, ops[k]? = some y → k < n → (ops.toList.take n)[k]? = some y := fun hk hn => by rw [List.getElem?_take, if_pos hn, Array.getElem?_toList]; exact hk
  exact dst_once h (t hi hin) (t hj hjn) h1 h2
section
variable {P : Program} {H : Nat → Gp} {ops : Array Oper} {n : Nat} {a0 : Act} {w0 : World} {Q : Exit → Act → World → Prop}
theorem Jg.step (hn : (dstsN ops n).Nodup) (hb : ∀ d ∈ dstsN ops n, d < a0.tmps.size) {listed : Array Bool} {a : Act} {w w' : World} {v : Value} (h : Jg H ops n a0 w0 listed a w) {i : Nat} {o : Oper} (hi : ops[i]? = some o) (hin : i < n) {d : Nat} (hd : o.dst = some d) (ha : ∀ e ∈ o.after, Region.binds .any e = true → listed.getD e.on false = true)
    (hv : (H i).p w' v) (hw : Below w.heap.size w w') : Jg H ops n a0 w0 (listed.setIfInBounds i true) (a.put o.dst v) w' := by
  have his : i < listed.size := by rw [h.lsize]; exact (Array.getElem?_eq_some_iff.1 hi).1
  have hdm := mem_dsts hi hd hin
  refine ⟨by rw [hd]; simp [Act.put, h.size], by rw [hd]; exact h.defers, fun s hs => ?_, by simp [h.lsize], fun m om dm hm hdm' hl => ?_, fun m om hm hl e he hb => ?_, h.bel.trans (hw.mono h.bel.size), fun m hm => ?_⟩
  · rw [evput_ne a v (by rw [hd]; intro e; injection e with e; subst e; exact hs hdm)]
    exact h.keep s hs
  · rw [listed_set _ _ _ his] at hl
    by_cases e : m = i
    · subst e
      rw [hi] at hm
      obtain rfl := Option.some.inj hm
      rw [hd] at hdm'
      obtain rfl := Option.some.inj hdm'
      rw [hd, evput_self a v (by rw [h.size]; exact hb _ hdm)]
      exact hv
    · rw [if_neg e] at hl
      have hmn : m < n := by
        rcases Nat.lt_or_ge m n with h' | h'
        · exact h'
        · rw [h.tail m h'] at hl; cases hl
      rw [evput_ne a v (fun e' => e (once_of hn hm hi hmn hin hdm' (by rw [e'])))]
      exact (H m).mono _ _ _ (h.slots m om dm hm hdm' hl) hw
  · rw [listed_set _ _ _ his] at hl ⊢
    by_cases e1 : e.on = i
    · rw [if_pos e1]
    · rw [if_neg e1]
      by_cases e2 : m = i
      · subst e2
        rw [hi] at hm
        obtain rfl := Option.some.inj hm
        exact ha e he hb
      · rw [if_neg e2] at hl
        exact h.clos m om hm hl e he hb
  · rw [listed_set _ _ _ his, if_neg (by omega)]; exact h.tail m hm
end
end Go.Proofs.Ytkmbkihfdilmbaa
namespace Go.Proofs.Ytkmbkihfdilmbaa
open Go Go.RowKit
set_option maxRecDepth 100000
set_option linter.unusedVariables false
section
variable {P : Program} {a : Act} {w w' : World} {ty : TypeId} {R : Value → World → Prop} {op : Op} {v : Value}
end
def Gp.rowIn (lo : Nat) (g : Nat → Value) (cs : Array Value) (t : TypeId) : Gp := ⟨fun w v => ∃ b, lo ≤ b ∧ v = g b ∧ w.heap[b]? = some (.cells cs t (0, 0)), fun w w' v ⟨b, h0, h1, h2⟩ hb => ⟨b, h0, h1, (hb.block b (Array.getElem?_eq_some_iff.1 h2).1).trans h2⟩⟩
end Go.Proofs.Ytkmbkihfdilmbaa
namespace Go.Proofs.Ytkmbkihfdilmbaa.Vo
open Go Go.RowKit
open Rl (En Lg)
open Ms (M)
open Im (ldX stX)
set_option maxRecDepth 100000
set_option linter.unusedVariables false
theorem isInts_row {w : World} {b : Nat} {t : TypeId} (l : List Int) (hs : ∀ x ∈ l, InInt x) (h : w.heap[b]? = some (.cells (ints l).toArray t (0, 0))) : IsInts w w.heap.size (some ⟨b, 0, none⟩) l :=
  ⟨hs, fun k hk => ⟨b, 0, rfl, row_lt' h, fun i hi => by rw [Nat.zero_add, row_cell h i, List.getElem?_toArray, ints_get l i hi]⟩⟩
def exC : Qu.Cf := ⟨[1, 2, 3], [3, 5], [7]⟩
def exV (b1 b2 b3 : Nat) : Value := .agg #[.slice (some ⟨b1, 0, none⟩) 3 3, .slice (some ⟨b2, 0, none⟩) 2 2, .slice (some ⟨b3, 0, none⟩) 1 1]
def Gp.seven : Gp := ⟨fun w v => ∃ A, v = .agg #[.int .i64 5, .int .i64 2, .slice A 2 2] ∧ LgIs w w.heap.size sevenL A 2, fun w w' v ⟨A, h0, h1⟩ hb => ⟨A, h0, (h1.below hb).more hb.size⟩⟩
def Gp.exC : Gp := ⟨fun w v => ∃ b1 b2 b3, v = exV b1 b2 b3 ∧ Rw w b1 #[.int .i64 1, .int .i64 2, .int .i64 3] 3 ∧ Rw w b2 #[.int .i64 3, .int .i64 5] 3 ∧ Rw w b3 #[.int .i64 7] 3, fun w w' v ⟨b1, b2, b3, h0, h1, h2, h3⟩ hb => ⟨b1, b2, b3, h0, h1.keep hb, h2.keep hb, h3.keep hb⟩⟩
def HA (gn i : Nat) (x : Int) : Nat → Gp
  | 0 => Gp.is (.slice (some ⟨gn, 0, none⟩) 14 14)
  | 1 => Gp.is (.int .i64 i)
  | 2 => Gp.is (.pointer (some ⟨gn, i, none⟩))
  | 3 => Gp.is (.int .i64 x)
  | 4 => Gp.is (.slice (some ⟨gn, 0, none⟩) 14 14)
  | 5 => Gp.is (.int .i64 i)
  | 6 => Gp.is (.pointer (some ⟨gn, i, none⟩))
  | 7 => Gp.is (.int .i64 x)
  | 8 => Gp.is (.slice (some ⟨gn, 0, none⟩) 14 14)
  | 9 => Gp.is (.int .i64 i)
  | 10 => Gp.is (.pointer (some ⟨gn, i, none⟩))
  | 11 => Gp.is (.int .i64 x)
  | 12 => Gp.seven
  | 13 => Gp.row 0 3 #[.int .i64 1, .int .i64 2, .int .i64 3] 3
  | 14 => Gp.row 0 2 #[.int .i64 3, .int .i64 5] 3
  | 15 => Gp.row 0 1 #[.int .i64 7] 3
  | _ => Gp.exC
end Go.Proofs.Ytkmbkihfdilmbaa.Vo
namespace Go.Proofs.Ytkmbkihfdilmbaa.Fw
open Go Go.RowKit
open Ms (M)
open Rl (En Lg)
open Im (ldX stX Hd Pt Ad IsPt encCf)
open Vo (Rw loadAt_msgV storeAt_msgV info_msgV boxes)
set_option maxRecDepth 100000
set_option linter.unusedVariables false
def exP : Pt := ⟨⟨4, 2, [⟨2, 0, []⟩, ⟨3, 0, []⟩, ⟨3, 0, []⟩]⟩, ⟨[1, 3], [], []⟩, [7]⟩
def exH : Hd := ⟨1, 4, 0, exP⟩
def exV (a o s : Nat) : Value := .agg #[.int .i64 1, .int .i64 4, .int .i64 0, .int .i64 4, .int .i64 2, .slice (some ⟨a, 0, none⟩) 3 3, .slice (some ⟨o, 0, none⟩) 2 2, .slice none 0 0, .slice none 0 0, .slice (some ⟨s, 0, none⟩) 1 1]
def exA (a o s : Nat) : Ad := ⟨some ⟨a, 0, none⟩, 3, some ⟨o, 0, none⟩, 2, none, 0, none, 0, some ⟨s, 0, none⟩, 1⟩
theorem results_cells {fn : Func} {p q : Tmp} {ty tz : TypeId} {n m : Nat} {d d' : TypeDesc} (h : fn.results = #[.cell p ty, .cell q tz]) (hi : (Try.prog.info? ty).map (·.size) = some n) (hu : Try.prog.underlying ty = some d) (hd : d.isRow = true) (hi' : (Try.prog.info? tz).map (·.size) = some m) (hu' : Try.prog.underlying tz = some d') (hd' : d'.isRow = true) (tmps : Array Value) (w : World) (g g' : Nat) (t t' : TypeId) (cs cs' : Array Value) (fr fr' : Nat × Nat)
    (hp : tmps.getD p undef = .pointer (some ⟨g, 0, none⟩)) (hg : w.heap[g]? = some (.cells cs t fr)) (hs : cs.size = n) (hq : tmps.getD q undef = .pointer (some ⟨g', 0, none⟩)) (hg' : w.heap[g']? = some (.cells cs' t' fr')) (hs' : cs'.size = m) :
    (results fn tmps).run Try.prog w = .ok (.tuple #[.agg cs, .agg cs']) w := by
  have hl := run_loadVar_row w g t ty cs fr _ hg hu (by cases d <;> first | rfl | cases hd) (by rw [hi, hs])
  have hl' := run_loadVar_row w g' t' tz cs' fr' _ hg' hu' (by cases d' <;> first | rfl | cases hd') (by rw [hi', hs'])
  have hp' : tmps[p]?.getD undef = .pointer (some ⟨g, 0, none⟩) := by simpa using hp
  have hq' : tmps[q]?.getD undef = .pointer (some ⟨g', 0, none⟩) := by simpa using hq
  simp [results, h, hp', hq', asAddr, hl, hl']
theorem ex_is {W : World} {a o s : Nat} (ra : Rw W a #[.int .i64 2, .int .i64 0, .slice none 0 0, .int .i64 3, .int .i64 0, .slice none 0 0, .int .i64 3, .int .i64 0, .slice none 0 0] 64) (ro : Rw W o #[.int .i64 1, .int .i64 3] 3) (rs : Rw W s #[.int .u8 7] 5) : IsPt W W.heap.size exP (exA a o s) := by
  have cc : ∀ j, W.cell? ⟨a, j, none⟩ = _ := fun j => row_cell ra j
  refine ⟨⟨by simp [exP, InInt], fun k hk => ⟨a, 0, rfl, row_lt ra, fun i hi => ?_⟩⟩, Vo.isInts_row [1, 3] (by simp [InInt]) ro, IsInts.nil, IsInts.nil, Im.bytes_at [7] (by simp) rs, ⟨⟨(show 3 ≤ 3 by decide), (show 3 ≤ maxLen by decide)⟩, by simp [exA]⟩, ⟨⟨(show 2 ≤ 2 by decide), (show 2 ≤ maxLen by decide)⟩, by simp [exA]⟩, ⟨⟨(show 0 ≤ 0 by decide), (show 0 ≤ maxLen by decide)⟩, by simp [exA]⟩, ⟨⟨(show 0 ≤ 0 by decide), (show 0 ≤ maxLen by decide)⟩, by simp [exA]⟩, ⟨⟨(show 1 ≤ 1 by decide), (show 1 ≤ maxLen by decide)⟩, by simp [exA]⟩, by simp [exP, InInt]⟩
  have hi3 : i < 3 := hi
  rcases i with _ | _ | _ | i
  · exact ⟨none, 0, cc 0, cc 1, cc 2, IsBytes.nil, by simp [exP]⟩
  · exact ⟨none, 0, cc 3, cc 4, cc 5, IsBytes.nil, by simp [exP]⟩
  · exact ⟨none, 0, cc 6, cc 7, cc 8, IsBytes.nil, by simp [exP]⟩
  · omega
set_option maxHeartbeats 6400000 in
theorem example_any (w : World) :
    Calls Try.prog 31 #[] w fun e w' => ∃ a o s, e = .returned (.tuple #[.agg #[.int .i64 3, .int .i64 8, .int .i64 2, .int .i64 5], exV a o s]) ∧ IsPt w' w'.heap.size exP (exA a o s) ∧ Below w.heap.size w w' := by
  go_enter Try.func31, Try.ntmps31
  go_wp2_with fail
  go_region_with (fail)
  all_goals
    (go_wp2_with fail
     first
       | (refine bodyPost_ret (results_cells rfl info_flow Try.underlying42 rfl Im.info_hard Try.underlying52 rfl _ _ w.heap.size (w.heap.size + 1) _ _ _ _ _ _ rfl (show (World.drew _).heap[w.heap.size]? = _ from Im.at_old (Im.at_old (Im.at_old (Im.at_old (Im.at_old (Im.at_new rfl)))))) rfl rfl (show (World.drew _).heap[w.heap.size + 1]? = _ from Im.at_old (Im.at_old (Im.at_old (Im.at_old (Im.at_new (by simp)))))) rfl) rfl ?_
          refine ⟨w.heap.size + 1 + 1, w.heap.size + 1 + 1 + 1 + 1, w.heap.size + 1 + 1 + 1 + 1 + 1, rfl, ex_is (show (World.drew _).heap[w.heap.size + 1 + 1]? = _ from Im.at_old (Im.at_old (Im.at_old (Im.at_new (by simp))))) (show (World.drew _).heap[w.heap.size + 1 + 1 + 1 + 1]? = _ from Im.at_old (Im.at_new (by simp))) (show (World.drew _).heap[w.heap.size + 1 + 1 + 1 + 1 + 1]? = _ from Im.at_new (by simp)), ?_⟩
          exact (((((((Below.refl _ w).alloc (by simp) _).alloc (by simp) _).alloc (by simp; omega) _).alloc (by simp; omega) _).alloc (by simp; omega) _).alloc (by simp; omega) _).drew)
       | (refine bodyPost_ret (results_cells rfl info_flow Try.underlying42 rfl Im.info_hard Try.underlying52 rfl _ _ w.heap.size (w.heap.size + 1) _ _ _ _ _ _ rfl (show (World.drew _).heap[w.heap.size]? = _ from Im.at_old (Im.at_old (Im.at_old (Im.at_old (Im.at_old (Im.at_new rfl)))))) rfl rfl (show (World.drew _).heap[w.heap.size + 1]? = _ from Im.at_old (Im.at_old (Im.at_old (Im.at_old (Im.at_new (by simp)))))) rfl) rfl ?_
          refine ⟨w.heap.size + 1 + 1, w.heap.size + 1 + 1 + 1 + 1 + 1, w.heap.size + 1 + 1 + 1 + 1, rfl, ex_is (show (World.drew _).heap[w.heap.size + 1 + 1]? = _ from Im.at_old (Im.at_old (Im.at_old (Im.at_new (by simp))))) (show (World.drew _).heap[w.heap.size + 1 + 1 + 1 + 1 + 1]? = _ from Im.at_new (by simp)) (show (World.drew _).heap[w.heap.size + 1 + 1 + 1 + 1]? = _ from Im.at_old (Im.at_new (by simp))), ?_⟩
          exact (((((((Below.refl _ w).alloc (by simp) _).alloc (by simp) _).alloc (by simp; omega) _).alloc (by simp; omega) _).alloc (by simp; omega) _).alloc (by simp; omega) _).drew))
end Go.Proofs.Ytkmbkihfdilmbaa.Fw
namespace Go.Proofs.Ytkmbkihfdilmbaa.Fw
open Go Go.RowKit
open Ms (M)
open Rl (En Lg)
open Im (ldX stX Hd Pt Ad IsPt encCf)
open Vo (Rw loadAt_msgV storeAt_msgV info_msgV boxes)
set_option maxRecDepth 100000
set_option linter.unusedVariables false
attribute [local go_sem ↓] loadAt_msgV storeAt_msgV loadAt_flow storeAt_flow Im.loadAt_hard Im.storeAt_hard
def exF : Fl := ⟨3, 8, 2, 5⟩
theorem exF_pl : Pl exF := ⟨by decide, by decide, by decide, by decide⟩
theorem heardC (K F i R : Int) (ok : Bool) (n x m r : Int) (hq : heard exF K F i R ok = ⟨n, x, m, r⟩) (hi : 0 ≤ i ∧ i ≤ 1099511627776) (w : World) :
    Calls Try.prog 19 #[.agg #[.int .i64 3, .int .i64 8, .int .i64 2, .int .i64 5], .agg #[.int .i64 K, .int .i64 F, .int .i64 0, .int .i64 0, .int .i64 0, .int .i64 i, .int .i64 0, .int .i64 0, .int .i64 R, .int .i64 0, .int .i64 0, .int .i64 0, .int .i64 0, .int .i64 0, .bool ok, .slice none 0 0, .slice none 0 0]] w fun e w' => e = .returned (.agg #[.int .i64 n, .int .i64 x, .int .i64 m, .int .i64 r]) ∧ Below w.heap.size w w' := by
  have := heard_any exF exF_pl ⟨K, F, 0, 0, 0, i, 0, 0, R, 0, 0, 0, 0, 0, ok, [], []⟩ hi none 0 none 0 w
  rw [show heard exF K F i R ok = ⟨n, x, m, r⟩ from hq] at this
  exact this
theorem exH_ok : Rl.Ok exH.p.log ∧ Rl.Few exH.p.log.es ∧ Fs exH.p := ⟨by unfold Rl.Ok exH exP; simp, by unfold Rl.Few exH exP; simp, ⟨by decide, by decide, by decide, by decide⟩⟩
theorem nextEC (x : Int) (hx : 4 < x ∧ x ≤ 100) (xm tv : Int) (k : Nat) (hxm : x - 1 = xm) (htv : exP.log.termV xm = tv) (hk : (exP.log.slice x 8).length = k) (a o s : Nat) (w : World) (hp : IsPt w w.heap.size exP (exA a o s)) :
    Calls Try.prog 26 #[.agg #[.int .i64 3, .int .i64 x, .int .i64 0, .int .i64 0], .int .i64 1, .agg #[.int .i64 1, .int .i64 4, .int .i64 0, .int .i64 4, .int .i64 2, .slice (some ⟨a, 0, none⟩) 3 3, .slice (some ⟨o, 0, none⟩) 2 2, .slice none 0 0, .slice none 0 0, .slice (some ⟨s, 0, none⟩) 1 1], .int .i64 5, .int .i64 2] w fun e w' => ∃ A c, e = .returned (.agg #[.int .i64 3, .int .i64 1, .int .i64 3, .int .i64 1, .int .i64 4, .int .i64 xm, .int .i64 tv, .int .i64 5, .int .i64 2, .int .i64 0, .int .i64 0, .int .i64 0, .int .i64 0, .int .i64 0, .bool false, .slice A k c, .slice none 0 0]) ∧ Below w.heap.size w w' := by
  subst hxm
  have h := nextE_any ⟨3, x, 0, 0⟩ ⟨(show (0 : Int) ≤ 3 ∧ (3 : Int) ≤ 1099511627777 by decide), ⟨by show 0 ≤ x; omega, by show x ≤ _; omega⟩, (show (0 : Int) ≤ 0 ∧ (0 : Int) ≤ 1099511627777 by decide), (show (0 : Int) ≤ 0 ∧ (0 : Int) ≤ 1099511627777 by decide)⟩ 1 5 2 exH (exA a o s) 3 2 0 0 1 k rfl hk exH_ok.1 exH_ok.2.1 (show ¬ x ≤ 4 by omega) w hp
  refine h.mono ?_
  rintro e w' ⟨A, c, rfl, _, hb⟩
  exact ⟨A, c, by rw [← htv]; rfl, hb⟩
theorem nextSC (a o s : Nat) (w : World) (hp : IsPt w w.heap.size exP (exA a o s)) :
    Calls Try.prog 26 #[.agg #[.int .i64 3, .int .i64 4, .int .i64 0, .int .i64 0], .int .i64 1, .agg #[.int .i64 1, .int .i64 4, .int .i64 0, .int .i64 4, .int .i64 2, .slice (some ⟨a, 0, none⟩) 3 3, .slice (some ⟨o, 0, none⟩) 2 2, .slice none 0 0, .slice none 0 0, .slice (some ⟨s, 0, none⟩) 1 1], .int .i64 5, .int .i64 2] w fun e w' => ∃ A c, e = .returned (.agg #[.int .i64 5, .int .i64 1, .int .i64 3, .int .i64 1, .int .i64 4, .int .i64 4, .int .i64 2, .int .i64 0, .int .i64 2, .int .i64 0, .int .i64 0, .int .i64 0, .int .i64 0, .int .i64 0, .bool false, .slice none 0 0, .slice A 57 c]) ∧ Below w.heap.size w w' := by
  have h := nextS_any ⟨3, 4, 0, 0⟩ 1 5 2 exH (exA a o s) 3 2 0 0 1 57 rfl rfl rfl rfl rfl rfl exH_ok.2.2 (show (4 : Int) ≤ 4 by omega) w hp
  refine h.mono ?_
  rintro e w' ⟨A, c, rfl, _, hb⟩
  exact ⟨A, c, rfl, hb⟩
theorem boxes2 (w : World) (a o s : Nat) : ∃ W1 W2, (stX 42 (.pointer (some ⟨w.heap.size, 0, none⟩)) (.agg #[.int .i64 3, .int .i64 8, .int .i64 2, .int .i64 5])).run Try.prog ((w.alloc (.cells #[.int .i64 0, .int .i64 0, .int .i64 0, .int .i64 0] 42)).alloc (.cells #[.int .i64 0, .int .i64 0, .int .i64 0, .int .i64 0, .int .i64 0, .slice none 0 0, .slice none 0 0, .slice none 0 0, .slice none 0 0, .slice none 0 0] 52)) = .ok () W1 ∧ (stX 52 (.pointer (some ⟨w.heap.size + 1, 0, none⟩)) (.agg #[.int .i64 1, .int .i64 4, .int .i64 0, .int .i64 4, .int .i64 2, .slice (some ⟨a, 0, none⟩) 3 3, .slice (some ⟨o, 0, none⟩) 2 2, .slice none 0 0, .slice none 0 0, .slice (some ⟨s, 0, none⟩) 1 1])).run Try.prog W1 = .ok () W2 ∧ Rw W2 w.heap.size #[.int .i64 3, .int .i64 8, .int .i64 2, .int .i64 5] 42 ∧ Rw W2 (w.heap.size + 1) #[.int .i64 1, .int .i64 4, .int .i64 0, .int .i64 4, .int .i64 2, .slice (some ⟨a, 0, none⟩) 3 3, .slice (some ⟨o, 0, none⟩) 2 2, .slice none 0 0, .slice none 0 0, .slice (some ⟨s, 0, none⟩) 1 1] 52 ∧ Below w.heap.size w W2 := by
  obtain ⟨r0, r1⟩ := Rw.two w #[.int .i64 0, .int .i64 0, .int .i64 0, .int .i64 0] #[.int .i64 0, .int .i64 0, .int .i64 0, .int .i64 0, .int .i64 0, .slice none 0 0, .slice none 0 0, .slice none 0 0, .slice none 0 0, .slice none 0 0] 42 52
  obtain ⟨hb, hz⟩ := boxes w #[.int .i64 0, .int .i64 0, .int .i64 0, .int .i64 0] #[.int .i64 0, .int .i64 0, .int .i64 0, .int .i64 0, .int .i64 0, .slice none 0 0, .slice none 0 0, .slice none 0 0, .slice none 0 0, .slice none 0 0] 42 52
  generalize (w.alloc (.cells #[.int .i64 0, .int .i64 0, .int .i64 0, .int .i64 0] 42)).alloc (.cells #[.int .i64 0, .int .i64 0, .int .i64 0, .int .i64 0, .int .i64 0, .slice none 0 0, .slice none 0 0, .slice none 0 0, .slice none 0 0, .slice none 0 0] 52) = W at *
  have t1 := Im.row_turned W w.heap.size #[.int .i64 3, .int .i64 8, .int .i64 2, .int .i64 5]
  have r1' : Rw (W.setRow w.heap.size #[.int .i64 3, .int .i64 8, .int .i64 2, .int .i64 5]) (w.heap.size + 1) #[.int .i64 0, .int .i64 0, .int .i64 0, .int .i64 0, .int .i64 0, .slice none 0 0, .slice none 0 0, .slice none 0 0, .slice none 0 0, .slice none 0 0] 52 := (t1.block _ (by omega) (by omega)).trans r1
  have r0' : Rw (W.setRow w.heap.size #[.int .i64 3, .int .i64 8, .int .i64 2, .int .i64 5]) w.heap.size #[.int .i64 3, .int .i64 8, .int .i64 2, .int .i64 5] 42 := setRow_heap W w.heap.size _ _ _ _ r0
  have t2 := Im.row_turned (W.setRow w.heap.size #[.int .i64 3, .int .i64 8, .int .i64 2, .int .i64 5]) (w.heap.size + 1) #[.int .i64 1, .int .i64 4, .int .i64 0, .int .i64 4, .int .i64 2, .slice (some ⟨a, 0, none⟩) 3 3, .slice (some ⟨o, 0, none⟩) 2 2, .slice none 0 0, .slice none 0 0, .slice (some ⟨s, 0, none⟩) 1 1]
  refine ⟨_, _, Im.stRow info_flow r0 rfl rfl (by simp [Value.oneCell']), Im.stRow Im.info_hard r1' rfl rfl (by simp [Value.oneCell']), (t2.block _ (row_lt r0') (by omega)).trans r0', setRow_heap _ (w.heap.size + 1) _ _ _ _ r1', ?_⟩
  exact (hb.trans (t1.below hb.size (fun k hk => by omega))).trans (t2.below (Nat.le_trans hb.size t1.size) (fun k hk => by omega))
set_option maxHeartbeats 12800000 in
theorem known_any (w : World) : Calls Try.prog 18 #[] w fun e w' => e = .returned (.bool true) ∧ Below w.heap.size w w' := by
  go_enter Try.func18, Try.ntmps18
  go_wp2_with fail
  refine (example_any w).mono ?_
  rintro e u0 ⟨a, o, s, rfl, hp0, hb0⟩
  unfold exV
  obtain ⟨W1, v0, st1, st2, r1, r2, hb1⟩ := boxes2 u0 a o s
  have P0 : Hid (∀ W, Below v0.heap.size v0 W → (IsPt W W.heap.size exP (exA a o s) ∧ Below w.heap.size w W) ∧ Rw W u0.heap.size #[.int .i64 3, .int .i64 8, .int .i64 2, .int .i64 5] 42 ∧ Rw W (u0.heap.size + 1) #[.int .i64 1, .int .i64 4, .int .i64 0, .int .i64 4, .int .i64 2, .slice (some ⟨a, 0, none⟩) 3 3, .slice (some ⟨o, 0, none⟩) 2 2, .slice none 0 0, .slice none 0 0, .slice (some ⟨s, 0, none⟩) 1 1] 52) := hid (fun W hW => by
    have h1 := hb1.trans (hW.mono hb1.size)
    exact ⟨⟨(hp0.below h1).more h1.size, hb0.trans (h1.mono hb0.size)⟩, r1.keep hW, r2.keep hW⟩)
  obtain ⟨bf, hbf⟩ : ∃ b, b = u0.heap.size := ⟨_, rfl⟩
  rw [← hbf] at P0
  have HBF := hid hbf
  have G0 := hid (Below.refl v0.heap.size v0)
  clear hp0 hb0 r1 r2 hb1 hbf
  go_upto_region 2 with fail
  rw [← HBF.out]
  clear st1 st2 HBF
  have ldf := ldF (P0.out v0 G0.out).2.1 rfl
  go_wp2_with fail
  refine (heardC 4 3 9 4 true 3 10 9 5 (by decide) (by decide) v0).mono ?_
  rintro e u1 ⟨rfl, hb⟩
  have hst := Im.stNew u1 42 4 info_flow #[.int .i64 0, .int .i64 0, .int .i64 0, .int .i64 0] #[.int .i64 3, .int .i64 10, .int .i64 9, .int .i64 5] rfl rfl (by simp [Value.oneCell'])
  obtain ⟨v1, hv⟩ : ∃ W, W = u1.alloc (.cells #[.int .i64 3, .int .i64 10, .int .i64 9, .int .i64 5] 42) := ⟨_, rfl⟩
  rw [← hv] at hst
  have hbb : Below u1.heap.size u1 v1 := by rw [hv]; exact (Below.refl _ _).alloc (Nat.le_refl _) _
  obtain ⟨b3, hbx⟩ : ∃ b, b = u1.heap.size := ⟨_, rfl⟩
  have T3_1 : Hid (Rw v1 b3 #[.int .i64 3, .int .i64 10, .int .i64 9, .int .i64 5] 42) := hid (by rw [hv, hbx]; exact heap_alloc_new u1 _)
  have G1 := hid (G0.out.trans ((hb.trans (hbb.mono hb.size)).mono G0.out.size))
  have HBX := hid hbx
  clear hv hbb hb hbx ldf 
  go_upto_region 3 with fail
  rw [← HBX.out]
  clear hst HBX
  have ldf := ldF (P0.out v1 G1.out).2.1 rfl
  go_wp2_with fail
  refine (heardC 4 3 4 0 false 3 5 2 5 (by decide) (by decide) v1).mono ?_
  rintro e u2 ⟨rfl, hb⟩
  have hst := Im.stNew u2 42 4 info_flow #[.int .i64 0, .int .i64 0, .int .i64 0, .int .i64 0] #[.int .i64 3, .int .i64 5, .int .i64 2, .int .i64 5] rfl rfl (by simp [Value.oneCell'])
  obtain ⟨v2, hv⟩ : ∃ W, W = u2.alloc (.cells #[.int .i64 3, .int .i64 5, .int .i64 2, .int .i64 5] 42) := ⟨_, rfl⟩
  rw [← hv] at hst
  have hbb : Below u2.heap.size u2 v2 := by rw [hv]; exact (Below.refl _ _).alloc (Nat.le_refl _) _
  obtain ⟨b4, hbx⟩ : ∃ b, b = u2.heap.size := ⟨_, rfl⟩
  have T4_2 : Hid (Rw v2 b4 #[.int .i64 3, .int .i64 5, .int .i64 2, .int .i64 5] 42) := hid (by rw [hv, hbx]; exact heap_alloc_new u2 _)
  have T3_2 := hid ((T3_1.out.keep hb).keep hbb)
  have G2 := hid (G1.out.trans ((hb.trans (hbb.mono hb.size)).mono G1.out.size))
  have HBX := hid hbx
  clear hv hbb hb hbx ldf T3_1
  go_upto_region 4 with fail
  rw [← HBX.out]
  clear hst HBX
  have ldh := ldHV (P0.out v2 G2.out).2.2 rfl
  go_wp2_with fail
  refine (nextEC 6 (by decide) 5 2 2 rfl (by decide) (by decide) a o s v2 (P0.out v2 G2.out).1.1).mono ?_
  rintro e u3 ⟨A2, c2, rfl, hb⟩
  have hst := Im.stNew u3 31 17 info_msgV #[.int .i64 0, .int .i64 0, .int .i64 0, .int .i64 0, .int .i64 0, .int .i64 0, .int .i64 0, .int .i64 0, .int .i64 0, .int .i64 0, .int .i64 0, .int .i64 0, .int .i64 0, .int .i64 0, .bool false, .slice none 0 0, .slice none 0 0] #[.int .i64 3, .int .i64 1, .int .i64 3, .int .i64 1, .int .i64 4, .int .i64 5, .int .i64 2, .int .i64 5, .int .i64 2, .int .i64 0, .int .i64 0, .int .i64 0, .int .i64 0, .int .i64 0, .bool false, .slice A2 2 c2, .slice none 0 0] rfl rfl (by simp [Value.oneCell'])
  obtain ⟨v3, hv⟩ : ∃ W, W = u3.alloc (.cells #[.int .i64 3, .int .i64 1, .int .i64 3, .int .i64 1, .int .i64 4, .int .i64 5, .int .i64 2, .int .i64 5, .int .i64 2, .int .i64 0, .int .i64 0, .int .i64 0, .int .i64 0, .int .i64 0, .bool false, .slice A2 2 c2, .slice none 0 0] 31) := ⟨_, rfl⟩
  rw [← hv] at hst
  have hbb : Below u3.heap.size u3 v3 := by rw [hv]; exact (Below.refl _ _).alloc (Nat.le_refl _) _
  obtain ⟨b5, hbx⟩ : ∃ b, b = u3.heap.size := ⟨_, rfl⟩
  have T5_3 : Hid (Rw v3 b5 #[.int .i64 3, .int .i64 1, .int .i64 3, .int .i64 1, .int .i64 4, .int .i64 5, .int .i64 2, .int .i64 5, .int .i64 2, .int .i64 0, .int .i64 0, .int .i64 0, .int .i64 0, .int .i64 0, .bool false, .slice A2 2 c2, .slice none 0 0] 31) := hid (by rw [hv, hbx]; exact heap_alloc_new u3 _)
  have T3_3 := hid ((T3_2.out.keep hb).keep hbb)
  have T4_3 := hid ((T4_2.out.keep hb).keep hbb)
  have G3 := hid (G2.out.trans ((hb.trans (hbb.mono hb.size)).mono G2.out.size))
  have HBX := hid hbx
  clear hv hbb hb hbx ldh T3_2 T4_2
  go_upto_region 5 with fail
  rw [← HBX.out]
  clear hst HBX
  have y3 := ldF T3_3.out rfl
  have y4 := ldF T4_3.out rfl
  have z0 := row_cell T5_3.out 0
  have z5 := row_cell T5_3.out 5
  have z6 := row_cell T5_3.out 6
  have z15 := row_cell T5_3.out 15
  have HB := hid (P0.out v3 G3.out).1.2
  go_wp2_with fail
  go_ret
  exact ⟨rfl, HB.out⟩
end Go.Proofs.Ytkmbkihfdilmbaa.Fw
namespace Go.Proofs.Ytkmbkihfdilmbaa
open Go Go.RowKit
set_option maxRecDepth 100000
set_option linter.unusedVariables false
section
variable {P : Program} {H : Nat → Gp} {ops : Array Oper} {n : Nat} {a0 : Act} {w0 : World} {Q : Exit → Act → World → Prop}
end
section
variable {P : Program} {a : Act} {w : World} {ty : TypeId} {R : Value → World → Prop}
end
end Go.Proofs.Ytkmbkihfdilmbaa
namespace Go.Proofs.Ytkmbkihfdilmbaa.flowKnown
open Go.ChangeShapes Go.WideShapes Go.ChangeAt Go.RowKit
open Go.ChangeMaps (open_string shut_string)
set_option linter.unusedVariables false
theorem own : ownKnob Try.prog.godebug = none := by kernel_rfl
theorem laidOut : laidOutB Try.prog = true := by kernel_rfl
attribute [local go_sem ↓] Vo.loadAt_msgV Vo.storeAt_msgV Fw.loadAt_flow Fw.storeAt_flow Im.loadAt_hard Im.storeAt_hard
open Fw Vo Im in
set_option maxRecDepth 100000 in
set_option maxHeartbeats 25600000 in
theorem walk (w : World) : Calls Try.prog 6 #[] w fun e w' => e = .returned (.bool true) ∧ Below w.heap.size w w' := by
  go_enter Try.func6, Try.ntmps6
  go_wp2_with fail
  refine (example_any w).mono ?_
  rintro e u0 ⟨a, o, s, rfl, hp0, hb0⟩
  unfold Fw.exV
  obtain ⟨W1, v0, st1, st2, r1, r2, hb1⟩ := boxes2 u0 a o s
  have P0 : Hid (∀ W, Below v0.heap.size v0 W → (IsPt W W.heap.size exP (exA a o s) ∧ Below w.heap.size w W) ∧ Rw W u0.heap.size #[.int .i64 3, .int .i64 8, .int .i64 2, .int .i64 5] 42 ∧ Rw W (u0.heap.size + 1) #[.int .i64 1, .int .i64 4, .int .i64 0, .int .i64 4, .int .i64 2, .slice (some ⟨a, 0, none⟩) 3 3, .slice (some ⟨o, 0, none⟩) 2 2, .slice none 0 0, .slice none 0 0, .slice (some ⟨s, 0, none⟩) 1 1] 52) := hid (fun W hW => by
    have h1 := hb1.trans (hW.mono hb1.size)
    exact ⟨⟨(hp0.below h1).more h1.size, hb0.trans (h1.mono hb0.size)⟩, r1.keep hW, r2.keep hW⟩)
  obtain ⟨bf, hbf⟩ : ∃ b, b = u0.heap.size := ⟨_, rfl⟩
  rw [← hbf] at P0
  have HBF := hid hbf
  have G0 := hid (Below.refl v0.heap.size v0)
  clear hp0 hb0 r1 r2 hb1 hbf
  go_upto_region 2 with fail
  rw [← HBF.out]
  clear st1 st2 HBF
  have ldf := ldF (P0.out v0 G0.out).2.1 rfl
  go_wp2_with fail
  refine (heardC 4 3 4 7 true 3 8 4 7 (by decide) (by decide) v0).mono ?_
  rintro e u1 ⟨rfl, hb⟩
  have hst := Im.stNew u1 42 4 info_flow #[.int .i64 0, .int .i64 0, .int .i64 0, .int .i64 0] #[.int .i64 3, .int .i64 8, .int .i64 4, .int .i64 7] rfl rfl (by simp [Value.oneCell'])
  obtain ⟨v1, hv⟩ : ∃ W, W = u1.alloc (.cells #[.int .i64 3, .int .i64 8, .int .i64 4, .int .i64 7] 42) := ⟨_, rfl⟩
  rw [← hv] at hst
  have hbb : Below u1.heap.size u1 v1 := by rw [hv]; exact (Below.refl _ _).alloc (Nat.le_refl _) _
  obtain ⟨b3, hbx⟩ : ∃ b, b = u1.heap.size := ⟨_, rfl⟩
  have T3_1 : Hid (Rw v1 b3 #[.int .i64 3, .int .i64 8, .int .i64 4, .int .i64 7] 42) := hid (by rw [hv, hbx]; exact heap_alloc_new u1 _)
  have G1 := hid (G0.out.trans ((hb.trans (hbb.mono hb.size)).mono G0.out.size))
  have HBX := hid hbx
  clear hv hbb hb hbx ldf 
  go_upto_region 3 with fail
  rw [← HBX.out]
  clear hst HBX
  have ldf := ldF (P0.out v1 G1.out).2.1 rfl
  go_wp2_with fail
  refine (heardC 4 3 20 0 false 3 7 2 5 (by decide) (by decide) v1).mono ?_
  rintro e u2 ⟨rfl, hb⟩
  have hst := Im.stNew u2 42 4 info_flow #[.int .i64 0, .int .i64 0, .int .i64 0, .int .i64 0] #[.int .i64 3, .int .i64 7, .int .i64 2, .int .i64 5] rfl rfl (by simp [Value.oneCell'])
  obtain ⟨v2, hv⟩ : ∃ W, W = u2.alloc (.cells #[.int .i64 3, .int .i64 7, .int .i64 2, .int .i64 5] 42) := ⟨_, rfl⟩
  rw [← hv] at hst
  have hbb : Below u2.heap.size u2 v2 := by rw [hv]; exact (Below.refl _ _).alloc (Nat.le_refl _) _
  obtain ⟨b4, hbx⟩ : ∃ b, b = u2.heap.size := ⟨_, rfl⟩
  have T4_2 : Hid (Rw v2 b4 #[.int .i64 3, .int .i64 7, .int .i64 2, .int .i64 5] 42) := hid (by rw [hv, hbx]; exact heap_alloc_new u2 _)
  have T3_2 := hid ((T3_1.out.keep hb).keep hbb)
  have G2 := hid (G1.out.trans ((hb.trans (hbb.mono hb.size)).mono G1.out.size))
  have HBX := hid hbx
  clear hv hbb hb hbx ldf T3_1
  go_upto_region 4 with fail
  rw [← HBX.out]
  clear hst HBX
  have ldf := ldF (P0.out v2 G2.out).2.1 rfl
  go_wp2_with fail
  refine (heardC 4 3 0 0 false 3 3 2 5 (by decide) (by decide) v2).mono ?_
  rintro e u3 ⟨rfl, hb⟩
  have hst := Im.stNew u3 42 4 info_flow #[.int .i64 0, .int .i64 0, .int .i64 0, .int .i64 0] #[.int .i64 3, .int .i64 3, .int .i64 2, .int .i64 5] rfl rfl (by simp [Value.oneCell'])
  obtain ⟨v3, hv⟩ : ∃ W, W = u3.alloc (.cells #[.int .i64 3, .int .i64 3, .int .i64 2, .int .i64 5] 42) := ⟨_, rfl⟩
  rw [← hv] at hst
  have hbb : Below u3.heap.size u3 v3 := by rw [hv]; exact (Below.refl _ _).alloc (Nat.le_refl _) _
  obtain ⟨b5, hbx⟩ : ∃ b, b = u3.heap.size := ⟨_, rfl⟩
  have T5_3 : Hid (Rw v3 b5 #[.int .i64 3, .int .i64 3, .int .i64 2, .int .i64 5] 42) := hid (by rw [hv, hbx]; exact heap_alloc_new u3 _)
  have T3_3 := hid ((T3_2.out.keep hb).keep hbb)
  have T4_3 := hid ((T4_2.out.keep hb).keep hbb)
  have G3 := hid (G2.out.trans ((hb.trans (hbb.mono hb.size)).mono G2.out.size))
  have HBX := hid hbx
  clear hv hbb hb hbx ldf T3_2 T4_2
  go_upto_region 5 with fail
  rw [← HBX.out]
  clear hst HBX
  have ldf := ldF (P0.out v3 G3.out).2.1 rfl
  go_wp2_with fail
  refine (heardC 4 4 9 0 true 3 8 2 5 (by decide) (by decide) v3).mono ?_
  rintro e u4 ⟨rfl, hb⟩
  have hst := Im.stNew u4 42 4 info_flow #[.int .i64 0, .int .i64 0, .int .i64 0, .int .i64 0] #[.int .i64 3, .int .i64 8, .int .i64 2, .int .i64 5] rfl rfl (by simp [Value.oneCell'])
  obtain ⟨v4, hv⟩ : ∃ W, W = u4.alloc (.cells #[.int .i64 3, .int .i64 8, .int .i64 2, .int .i64 5] 42) := ⟨_, rfl⟩
  rw [← hv] at hst
  have hbb : Below u4.heap.size u4 v4 := by rw [hv]; exact (Below.refl _ _).alloc (Nat.le_refl _) _
  obtain ⟨b6, hbx⟩ : ∃ b, b = u4.heap.size := ⟨_, rfl⟩
  have T6_4 : Hid (Rw v4 b6 #[.int .i64 3, .int .i64 8, .int .i64 2, .int .i64 5] 42) := hid (by rw [hv, hbx]; exact heap_alloc_new u4 _)
  have T3_4 := hid ((T3_3.out.keep hb).keep hbb)
  have T4_4 := hid ((T4_3.out.keep hb).keep hbb)
  have T5_4 := hid ((T5_3.out.keep hb).keep hbb)
  have G4 := hid (G3.out.trans ((hb.trans (hbb.mono hb.size)).mono G3.out.size))
  have HBX := hid hbx
  clear hv hbb hb hbx ldf T3_3 T4_3 T5_3
  go_upto_region 6 with fail
  rw [← HBX.out]
  clear hst HBX
  have ldf := ldF (P0.out v4 G4.out).2.1 rfl
  go_wp2_with fail
  refine (heardC 2 3 9 0 true 3 8 2 5 (by decide) (by decide) v4).mono ?_
  rintro e u5 ⟨rfl, hb⟩
  have hst := Im.stNew u5 42 4 info_flow #[.int .i64 0, .int .i64 0, .int .i64 0, .int .i64 0] #[.int .i64 3, .int .i64 8, .int .i64 2, .int .i64 5] rfl rfl (by simp [Value.oneCell'])
  obtain ⟨v5, hv⟩ : ∃ W, W = u5.alloc (.cells #[.int .i64 3, .int .i64 8, .int .i64 2, .int .i64 5] 42) := ⟨_, rfl⟩
  rw [← hv] at hst
  have hbb : Below u5.heap.size u5 v5 := by rw [hv]; exact (Below.refl _ _).alloc (Nat.le_refl _) _
  obtain ⟨b7, hbx⟩ : ∃ b, b = u5.heap.size := ⟨_, rfl⟩
  have T7_5 : Hid (Rw v5 b7 #[.int .i64 3, .int .i64 8, .int .i64 2, .int .i64 5] 42) := hid (by rw [hv, hbx]; exact heap_alloc_new u5 _)
  have T3_5 := hid ((T3_4.out.keep hb).keep hbb)
  have T4_5 := hid ((T4_4.out.keep hb).keep hbb)
  have T5_5 := hid ((T5_4.out.keep hb).keep hbb)
  have T6_5 := hid ((T6_4.out.keep hb).keep hbb)
  have G5 := hid (G4.out.trans ((hb.trans (hbb.mono hb.size)).mono G4.out.size))
  have HBX := hid hbx
  clear hv hbb hb hbx ldf T3_4 T4_4 T5_4 T6_4
  go_upto_region 7 with fail
  rw [← HBX.out]
  clear hst HBX
  have ldh := ldHV (P0.out v5 G5.out).2.2 rfl
  go_wp2_with fail
  refine (nextSC a o s v5 (P0.out v5 G5.out).1.1).mono ?_
  rintro e u6 ⟨A5, c5, rfl, hb⟩
  have hst := Im.stNew u6 31 17 info_msgV #[.int .i64 0, .int .i64 0, .int .i64 0, .int .i64 0, .int .i64 0, .int .i64 0, .int .i64 0, .int .i64 0, .int .i64 0, .int .i64 0, .int .i64 0, .int .i64 0, .int .i64 0, .int .i64 0, .bool false, .slice none 0 0, .slice none 0 0] #[.int .i64 5, .int .i64 1, .int .i64 3, .int .i64 1, .int .i64 4, .int .i64 4, .int .i64 2, .int .i64 0, .int .i64 2, .int .i64 0, .int .i64 0, .int .i64 0, .int .i64 0, .int .i64 0, .bool false, .slice none 0 0, .slice A5 57 c5] rfl rfl (by simp [Value.oneCell'])
  obtain ⟨v6, hv⟩ : ∃ W, W = u6.alloc (.cells #[.int .i64 5, .int .i64 1, .int .i64 3, .int .i64 1, .int .i64 4, .int .i64 4, .int .i64 2, .int .i64 0, .int .i64 2, .int .i64 0, .int .i64 0, .int .i64 0, .int .i64 0, .int .i64 0, .bool false, .slice none 0 0, .slice A5 57 c5] 31) := ⟨_, rfl⟩
  rw [← hv] at hst
  have hbb : Below u6.heap.size u6 v6 := by rw [hv]; exact (Below.refl _ _).alloc (Nat.le_refl _) _
  obtain ⟨b8, hbx⟩ : ∃ b, b = u6.heap.size := ⟨_, rfl⟩
  have T8_6 : Hid (Rw v6 b8 #[.int .i64 5, .int .i64 1, .int .i64 3, .int .i64 1, .int .i64 4, .int .i64 4, .int .i64 2, .int .i64 0, .int .i64 2, .int .i64 0, .int .i64 0, .int .i64 0, .int .i64 0, .int .i64 0, .bool false, .slice none 0 0, .slice A5 57 c5] 31) := hid (by rw [hv, hbx]; exact heap_alloc_new u6 _)
  have T3_6 := hid ((T3_5.out.keep hb).keep hbb)
  have T4_6 := hid ((T4_5.out.keep hb).keep hbb)
  have T5_6 := hid ((T5_5.out.keep hb).keep hbb)
  have T6_6 := hid ((T6_5.out.keep hb).keep hbb)
  have T7_6 := hid ((T7_5.out.keep hb).keep hbb)
  have G6 := hid (G5.out.trans ((hb.trans (hbb.mono hb.size)).mono G5.out.size))
  have HBX := hid hbx
  clear hv hbb hb hbx ldh T3_5 T4_5 T5_5 T6_5 T7_5
  go_upto_region 8 with fail
  rw [← HBX.out]
  clear hst HBX
  have ldh := ldHV (P0.out v6 G6.out).2.2 rfl
  go_wp2_with fail
  refine (nextEC 8 (by decide) 7 3 0 rfl (by decide) (by decide) a o s v6 (P0.out v6 G6.out).1.1).mono ?_
  rintro e u7 ⟨A6, c6, rfl, hb⟩
  have hst := Im.stNew u7 31 17 info_msgV #[.int .i64 0, .int .i64 0, .int .i64 0, .int .i64 0, .int .i64 0, .int .i64 0, .int .i64 0, .int .i64 0, .int .i64 0, .int .i64 0, .int .i64 0, .int .i64 0, .int .i64 0, .int .i64 0, .bool false, .slice none 0 0, .slice none 0 0] #[.int .i64 3, .int .i64 1, .int .i64 3, .int .i64 1, .int .i64 4, .int .i64 7, .int .i64 3, .int .i64 5, .int .i64 2, .int .i64 0, .int .i64 0, .int .i64 0, .int .i64 0, .int .i64 0, .bool false, .slice A6 0 c6, .slice none 0 0] rfl rfl (by simp [Value.oneCell'])
  obtain ⟨v7, hv⟩ : ∃ W, W = u7.alloc (.cells #[.int .i64 3, .int .i64 1, .int .i64 3, .int .i64 1, .int .i64 4, .int .i64 7, .int .i64 3, .int .i64 5, .int .i64 2, .int .i64 0, .int .i64 0, .int .i64 0, .int .i64 0, .int .i64 0, .bool false, .slice A6 0 c6, .slice none 0 0] 31) := ⟨_, rfl⟩
  rw [← hv] at hst
  have hbb : Below u7.heap.size u7 v7 := by rw [hv]; exact (Below.refl _ _).alloc (Nat.le_refl _) _
  obtain ⟨b9, hbx⟩ : ∃ b, b = u7.heap.size := ⟨_, rfl⟩
  have T9_7 : Hid (Rw v7 b9 #[.int .i64 3, .int .i64 1, .int .i64 3, .int .i64 1, .int .i64 4, .int .i64 7, .int .i64 3, .int .i64 5, .int .i64 2, .int .i64 0, .int .i64 0, .int .i64 0, .int .i64 0, .int .i64 0, .bool false, .slice A6 0 c6, .slice none 0 0] 31) := hid (by rw [hv, hbx]; exact heap_alloc_new u7 _)
  have T3_7 := hid ((T3_6.out.keep hb).keep hbb)
  have T4_7 := hid ((T4_6.out.keep hb).keep hbb)
  have T5_7 := hid ((T5_6.out.keep hb).keep hbb)
  have T6_7 := hid ((T6_6.out.keep hb).keep hbb)
  have T7_7 := hid ((T7_6.out.keep hb).keep hbb)
  have T8_7 := hid ((T8_6.out.keep hb).keep hbb)
  have G7 := hid (G6.out.trans ((hb.trans (hbb.mono hb.size)).mono G6.out.size))
  have HBX := hid hbx
  clear hv hbb hb hbx ldh T3_6 T4_6 T5_6 T6_6 T7_6 T8_6
  go_upto_region 9 with fail
  rw [← HBX.out]
  clear hst HBX
  have ldh := ldHV (P0.out v7 G7.out).2.2 rfl
  go_wp2_with fail
  refine (nextEC 9 (by decide) 8 0 0 rfl (by decide) (by decide) a o s v7 (P0.out v7 G7.out).1.1).mono ?_
  rintro e u8 ⟨A7, c7, rfl, hb⟩
  have hst := Im.stNew u8 31 17 info_msgV #[.int .i64 0, .int .i64 0, .int .i64 0, .int .i64 0, .int .i64 0, .int .i64 0, .int .i64 0, .int .i64 0, .int .i64 0, .int .i64 0, .int .i64 0, .int .i64 0, .int .i64 0, .int .i64 0, .bool false, .slice none 0 0, .slice none 0 0] #[.int .i64 3, .int .i64 1, .int .i64 3, .int .i64 1, .int .i64 4, .int .i64 8, .int .i64 0, .int .i64 5, .int .i64 2, .int .i64 0, .int .i64 0, .int .i64 0, .int .i64 0, .int .i64 0, .bool false, .slice A7 0 c7, .slice none 0 0] rfl rfl (by simp [Value.oneCell'])
  obtain ⟨v8, hv⟩ : ∃ W, W = u8.alloc (.cells #[.int .i64 3, .int .i64 1, .int .i64 3, .int .i64 1, .int .i64 4, .int .i64 8, .int .i64 0, .int .i64 5, .int .i64 2, .int .i64 0, .int .i64 0, .int .i64 0, .int .i64 0, .int .i64 0, .bool false, .slice A7 0 c7, .slice none 0 0] 31) := ⟨_, rfl⟩
  rw [← hv] at hst
  have hbb : Below u8.heap.size u8 v8 := by rw [hv]; exact (Below.refl _ _).alloc (Nat.le_refl _) _
  obtain ⟨b10, hbx⟩ : ∃ b, b = u8.heap.size := ⟨_, rfl⟩
  have T10_8 : Hid (Rw v8 b10 #[.int .i64 3, .int .i64 1, .int .i64 3, .int .i64 1, .int .i64 4, .int .i64 8, .int .i64 0, .int .i64 5, .int .i64 2, .int .i64 0, .int .i64 0, .int .i64 0, .int .i64 0, .int .i64 0, .bool false, .slice A7 0 c7, .slice none 0 0] 31) := hid (by rw [hv, hbx]; exact heap_alloc_new u8 _)
  have T3_8 := hid ((T3_7.out.keep hb).keep hbb)
  have T4_8 := hid ((T4_7.out.keep hb).keep hbb)
  have T5_8 := hid ((T5_7.out.keep hb).keep hbb)
  have T6_8 := hid ((T6_7.out.keep hb).keep hbb)
  have T7_8 := hid ((T7_7.out.keep hb).keep hbb)
  have T8_8 := hid ((T8_7.out.keep hb).keep hbb)
  have T9_8 := hid ((T9_7.out.keep hb).keep hbb)
  have G8 := hid (G7.out.trans ((hb.trans (hbb.mono hb.size)).mono G7.out.size))
  have HBX := hid hbx
  clear hv hbb hb hbx ldh T3_7 T4_7 T5_7 T6_7 T7_7 T8_7 T9_7
  go_upto_region 10 with fail
  rw [← HBX.out]
  clear hst HBX
  have y1 := ldF (P0.out v8 G8.out).2.1 rfl
  have y3 := ldF T3_8.out rfl
  have y6 := ldF T6_8.out rfl
  have y7 := ldF T7_8.out rfl
  have z4 := row_cell T4_8.out 1
  have z5 := row_cell T5_8.out 1
  have p0 := row_cell T8_8.out 0
  have p5 := row_cell T8_8.out 5
  have p6 := row_cell T8_8.out 6
  have p7 := row_cell T8_8.out 7
  have p16 := row_cell T8_8.out 16
  have q0 := row_cell T9_8.out 0
  have q5 := row_cell T9_8.out 5
  have q6 := row_cell T9_8.out 6
  have q15 := row_cell T9_8.out 15
  have q7 := row_cell T9_8.out 7
  have s6 := row_cell T10_8.out 6
  have HB := hid (P0.out v8 G8.out).1.2
  go_wp2_with fail
  refine (known_any _).mono ?_
  rintro e u ⟨rfl, hu⟩
  have HB9 := hid (HB.out.trans (hu.mono HB.out.size))
  clear hu
  go_wp2_with fail
  go_ret
  exact ⟨rfl, HB9.out⟩
set_option maxRecDepth 100000 in
theorem lifted (os : Os) (started : os.Started) (H : Type) (enc : TypeId × Value → H) :
    ReturnsInHanded {} Try.checked os 6 .any (Rows.flowKnownSpec.pre6 enc Try.prog Try.f6 Rows.flowKnownRow.domain false) (Rows.flowKnownSpec.post enc Try.prog Try.f6 false true false false) := by
  refine returnsInHanded_of_change_sized (C := Try.checked) own started (by kernel_rfl) Try.func6
    (ChangeSpec.witness6 (enc := enc) (C := Try.checked) false ⟨#[], #[], []⟩ 8 (by kernel_rfl) (by kernel_rfl) (by kernel_rfl) (by kernel_rfl)) ?_
  intro W base args ds gs before hval0 hW hcnd hsz0 _
  have hsz : (DataW.weightsEach Try.prog (Try.f6.params.toList ++ Rows.flowKnownSpec.plain.varTypes Try.prog) (ds ++ gs)).all (· ≤ reachBytes) = true := hsz0
  clear hsz0
  have hval : ∀ (j : Nat) t v, Try.f6.params[j]? = some t → args[j]? = some v → Value.okWide Try.prog W .any base t v := hval0
  have hW' := hW
  obtain ⟨p, q, hA0, hV, rfl, hfz, hnd⟩ := hW
  have hA : DataW.TrodAll enc Try.prog W 0 (fun _ => true) true Try.f6.params.toList args.toList ds p := hA0
  rw [Try.params6] at hA hval hsz
  obtain ⟨rfl, rfl, rfl⟩ := trodAll_none hA
  obtain ⟨rfl, rfl⟩ := trodVars_none hV
  clear hA0 hval0
  refine (walk  W ).mono fun e W' ⟨he, bel⟩ => ?_
  subst he
  exact ⟨_, rfl, _, _, _, [], _, [], hW', trodAll_mk1 (shut_bool Try.underlying4 _), trodAll_mk0, rfl, bel.frame _, fun h => by cases h⟩
theorem over : Rows.flowKnownRow.holds Try.pinned (OpenSpec.ofChange Rows.flowKnownSpec) :=
  OpenClaim.holds_of_wide 6 Try.f6 rfl rfl rfl rfl rfl rfl rfl ⟨rfl, rfl, rfl, rfl, rfl⟩ rfl rfl rfl rfl rfl (by kernel_rfl) Try.func6 (by kernel_rfl)
    (of_decide_eq_true (by kernel_rfl)) (by unfold Func.isWrapper; first | (rw [if_pos (by decide +kernel)]; kernel_rfl) | (rw [if_neg (by decide +kernel)]; exact ⟨rfl, rfl⟩))
    (fun os started H enc _ => lifted os started H enc)
theorem proved : Rows.FlowKnownSaid := over
end Go.Proofs.Ytkmbkihfdilmbaa.flowKnown
