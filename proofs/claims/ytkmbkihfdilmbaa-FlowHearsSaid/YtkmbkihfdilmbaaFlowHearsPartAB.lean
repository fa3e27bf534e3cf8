/- Texts of the proof, one behind the other: RlT, Clone, RlOwn, RlU, ImSince, VoF, VoG, VoH, KitEnEq, KitSame, KitEnCopy, KitLog, VoJ, VoK, VoL, MsLoad, MsD, MsE, MsF, PackInt, KitBytes, PackBlob, MsG, MsH, SumWalks, FramePut, FrameRead, MsI, ReadInt, Reader2, MsJ, MsK, ReadNew, MsL, MsMath2, MsN, SpoilB, SpoilEn, MsKit, ImRows, VoI, CopyInts, KitIntN, KitConf, ImRd3, ImRdA, ImRdB, ImRdC, ImRdD, ImRdE, ImRdF, ImRdG, RegInv, ImReg, ImRdH0, ImRdH, ImRdJ, ImRdI, ImRdK, ImRdL, KitHard, ImSet, ImOwnE, ImEachE, ImEach2, RegCalls, ImOwnHard, ImChg, ImChg3, ImCmp, ImOr, ImAsc, ImBsH, ImOwnH, ImPlH, ImAscV, ImBsV, ImOwnV, ImPlV, ImEachH, ImOwnIm, ImApply, ImApplyB, ImRdM, QuB, QuD, ImGet, PackPut, ImPutA, ImPutB, ImPutC, ImPutD, ImPutE, ImPutF, ImPutG, ImPutH, ImPutI, ImFirst, ImKnown, ImFew, ImInD, Spoil, ImSpoil, VoM, FlA. -/
import Derived.Test.YtkmbkihfdilmbaaFlowHearsPartAA
import Derived.Test.YtkmbkihfdilmbaaRows
import Derived.Lib.SliceRun
import Derived.StillTailTactics
import Derived.Deep.QuietTactic
import Derived.BigQuiet
import Derived.Deep.RegionHeld3
import Derived.Deep.CutRange
import Derived.Deep.WholeRow
import Derived.Laws.AppendOwnNone
import Derived.Lib.AppendZeros
import Derived.Deep.Upon
import Derived.Deep.RegionWith
import Derived.Great.BuildSlice
import Derived.Shelf.Abstract
namespace Go.Proofs.Ytkmbkihfdilmbaa
open Go.RowKit
set_option maxHeartbeats 800000 in
set_option maxRecDepth 100000 in
theorem has_any (B : Nat) (g : Rl.Lg) (A : Option Addr) (c : Nat) (i : Int) (hg : Rl.Ok g) (w : World) (h : LgIs w B g A c) (hB : B ≤ w.heap.size) :
    Calls Try.prog 68 #[.agg #[.int .i64 g.base, .int .i64 g.term, .slice A g.es.length c], .int .i64 i] w fun e w' => e = .returned (.bool (g.has i)) ∧ Below w.heap.size w w' := by
  have hb1 : Below w.heap.size w (w.alloc (.cells #[.int .i64 g.base, .int .i64 g.term, .slice A g.es.length c] 25)) := (Below.refl _ w).alloc (Nat.le_refl _) _
  have HC := hid (last_any w.heap.size g A c hg _ ((h.more hB).below hb1) hb1.size)
  have HB := hid hb1
  clear h hb1
  obtain ⟨la, hla⟩ : ∃ la, la = g.last := ⟨_, rfl⟩
  obtain ⟨lt, hlt⟩ : ∃ lt, lt = g.lastT := ⟨_, rfl⟩
  have HE : Hid (g.has i = (decide (g.base ≤ i) && decide (i ≤ la))) := hid (by unfold Rl.Lg.has; rw [hla])
  rw [← hla, ← hlt] at HC
  rw [HE.out]
  clear hla hlt HE
  by_cases h1 : g.base ≤ i
  · by_cases h2 : i ≤ la
    · go_enter Try.func68, Try.ntmps68
      go_wp2_with fail
      refine HC.out.mono ?_
      rintro e w2 ⟨rfl, hb2⟩
      have HB2 := hid (HB.out.trans (hb2.mono HB.out.size))
      have q0 : w2.cell? ⟨w.heap.size, 0, none⟩ = some (.int .i64 g.base) := by rw [hb2.cell (by simp)]; simp
      clear hb2
      go_wp2_with fail
      go_ret
      exact ⟨ret_b (by simp [*]), HB2.out⟩
    · go_enter Try.func68, Try.ntmps68
      go_wp2_with fail
      refine HC.out.mono ?_
      rintro e w2 ⟨rfl, hb2⟩
      have HB2 := hid (HB.out.trans (hb2.mono HB.out.size))
      have q0 : w2.cell? ⟨w.heap.size, 0, none⟩ = some (.int .i64 g.base) := by rw [hb2.cell (by simp)]; simp
      clear hb2
      go_wp2_with fail
      go_ret
      exact ⟨ret_b (by simp [*]), HB2.out⟩
  · go_enter Try.func68, Try.ntmps68
    go_wp2_with fail
    refine HC.out.mono ?_
    rintro e w2 ⟨rfl, hb2⟩
    have HB2 := hid (HB.out.trans (hb2.mono HB.out.size))
    have q0 : w2.cell? ⟨w.heap.size, 0, none⟩ = some (.int .i64 g.base) := by rw [hb2.cell (by simp)]; simp
    clear hb2
    go_wp2_with fail
    go_ret
    exact ⟨ret_b (by simp; omega), HB2.out⟩
theorem LgIs.term_cell {w : World} {B : Nat} {g : Rl.Lg} {A : Option Addr} {c : Nat} (h : LgIs w B g A c) (p : Nat) (hp : p < g.es.length) : ∃ b off, A = some ⟨b, off, none⟩ ∧ b < B ∧ w.cell? ⟨b, off + p * 3, none⟩ = some (.int .i64 (g.at_ (p + 1))) := by
  obtain ⟨b, off, rfl, hb, hc⟩ := h.es.cells p hp
  obtain ⟨_, _, d0, _⟩ := hc p hp
  exact ⟨b, off, rfl, hb, by rw [g.at_succ p hp]; exact d0⟩
set_option maxHeartbeats 800000 in
set_option maxRecDepth 100000 in
theorem term_no (B : Nat) (g : Rl.Lg) (A : Option Addr) (c : Nat) (i : Int) (hg : Rl.Ok g) (hn : g.has i = false) (w : World) (h : LgIs w B g A c) (hB : B ≤ w.heap.size) :
    Calls Try.prog 50 #[.agg #[.int .i64 g.base, .int .i64 g.term, .slice A g.es.length c], .int .i64 i] w fun e w' => e = .returned (.tuple #[.int .i64 0, .bool false]) ∧ Below w.heap.size w w' := by
  have hb1 : Below w.heap.size w (w.alloc (.cells #[.int .i64 g.base, .int .i64 g.term, .slice A g.es.length c] 25)) := (Below.refl _ w).alloc (Nat.le_refl _) _
  have HC := hid (has_any w.heap.size g A c i hg _ ((h.more hB).below hb1) hb1.size)
  have HB := hid hb1
  rw [hn] at HC
  clear h hb1 hn
  go_enter Try.func50, Try.ntmps50
  go_wp2_with fail
  refine HC.out.mono ?_
  rintro e w2 ⟨rfl, hb2⟩
  have HB2 := hid (HB.out.trans (hb2.mono HB.out.size))
  clear hb2
  go_wp2_with fail
  go_ret2
  exact ⟨rfl, HB2.out⟩
set_option maxHeartbeats 800000 in
set_option maxRecDepth 100000 in
theorem term_yes (B : Nat) (g : Rl.Lg) (A : Option Addr) (c : Nat) (i : Int) (p : Nat) (hi : i = g.base + (p : Int)) (hp : p ≤ g.es.length) (hg : Rl.Ok g) (w : World) (h : LgIs w B g A c) (hB : B ≤ w.heap.size) :
    Calls Try.prog 50 #[.agg #[.int .i64 g.base, .int .i64 g.term, .slice A g.es.length c], .int .i64 i] w fun e w' => e = .returned (.tuple #[.int .i64 (g.at_ p), .bool true]) ∧ Below w.heap.size w w' := by
  have hb1 : Below w.heap.size w (w.alloc (.cells #[.int .i64 g.base, .int .i64 g.term, .slice A g.es.length c] 25)) := (Below.refl _ w).alloc (Nat.le_refl _) _
  have hh : g.has i = true := by rw [hi]; exact Rl.Lg.has_of hp
  have HC := hid (has_any w.heap.size g A c i hg _ ((h.more hB).below hb1) hb1.size)
  have HB := hid hb1
  rw [hh] at HC
  obtain ⟨⟨g0, g1⟩, _, gl⟩ := hg
  rcases p with _ | p
  · obtain rfl : i = g.base := by omega
    clear h hb1 hh hi
    go_enter Try.func50, Try.ntmps50
    go_wp2_with fail
    refine HC.out.mono ?_
    rintro e w2 ⟨rfl, hb2⟩
    have HB2 := hid (HB.out.trans (hb2.mono HB.out.size))
    have q0 : w2.cell? ⟨w.heap.size, 0, none⟩ = some (.int .i64 g.base) := by rw [hb2.cell (by simp)]; simp
    have q1 : w2.cell? ⟨w.heap.size, 1, none⟩ = some (.int .i64 g.term) := by rw [hb2.cell (by simp)]; simp
    clear hb2
    go_wp2_with fail
    go_ret2
    exact ⟨rfl, HB2.out⟩
  · obtain ⟨b, off, rfl, hbB, hc⟩ := h.term_cell p (by omega)
    have hcW : Hid (∀ w', Below w.heap.size w w' → w'.cell? ⟨b, off + p * 3, none⟩ = some (.int .i64 (g.at_ (p + 1)))) := hid (fun w' hb => (hb.cell (by show b < _; omega)).trans hc)
    have hne : ¬ i = g.base := by omega
    have hsub : i - g.base = (p : Int) + 1 := by omega
    have hb2' : i ≤ 1099511727776 := by omega
    have hp0 : (p : Int) < (g.es.length : Int) := by omega
    obtain ⟨x, hx⟩ : ∃ x, x = g.at_ (p + 1) := ⟨_, rfl⟩
    rw [← hx] at hcW ⊢
    clear h hb1 hh hi hc hx
    go_enter Try.func50, Try.ntmps50
    go_wp2_with fail
    refine HC.out.mono ?_
    rintro e w2 ⟨rfl, hb2⟩
    have HB2 := hid (HB.out.trans (hb2.mono HB.out.size))
    have q0 : w2.cell? ⟨w.heap.size, 0, none⟩ = some (.int .i64 g.base) := by rw [hb2.cell (by simp)]; simp
    have q2 : w2.cell? ⟨w.heap.size, 2, none⟩ = some (.slice (some ⟨b, off, none⟩) g.es.length c) := by rw [hb2.cell (by simp)]; simp
    have q3 := hcW.out w2 HB2.out
    clear hb2
    go_wp2_with fail
    go_ret2
    exact ⟨rfl, HB2.out⟩
theorem term_any (B : Nat) (g : Rl.Lg) (A : Option Addr) (c : Nat) (i : Int) (hg : Rl.Ok g) (w : World) (h : LgIs w B g A c) (hB : B ≤ w.heap.size) :
    Calls Try.prog 50 #[.agg #[.int .i64 g.base, .int .i64 g.term, .slice A g.es.length c], .int .i64 i] w fun e w' => e = .returned (.tuple #[.int .i64 (g.termV i), .bool (g.has i)]) ∧ Below w.heap.size w w' := by
  unfold Rl.Lg.termV
  rcases hh : g.has i with _ | _
  · exact term_no B g A c i hg hh w h hB
  · obtain ⟨p, h1, h2, h3⟩ := Rl.Lg.has_at hh
    rw [h3]
    exact term_yes B g A c i p h1 h2 hg w h hB
end Go.Proofs.Ytkmbkihfdilmbaa
namespace Go.Proofs.Ytkmbkihfdilmbaa
open Go.RowKit
set_option maxHeartbeats 400000 in
theorem bclone_any (B : Nat) (A : Option Addr) (c : Nat) (l : List Nat) (n : Nat) (hln : l.length = n) (hl : n ≤ 140737488354000) (w : World) (h : IsBytes w B A l) (hB : B ≤ w.heap.size) (hn : A = none → c = 0) :
    Calls Try.prog 79 #[.slice A n c] w fun e w' => ∃ A' c', e = .returned (.slice A' n c') ∧ OwnsB 5 w' w.heap.size A' c' l ∧ Below w.heap.size w w' := by
  subst hln
  obtain ⟨i0, hi, hz0, hz1, hz2⟩ := info_parts info_u8
  have hq := fun (w : World) (a : Option Addr) (n c : Nat) => Lib.run_eql_slice_nil (P := Try.prog) w 29 5 a n c 0 0 Try.underlying29
  rcases A with _ | ad
  · obtain rfl := hn rfl
    obtain rfl := h.of_none
    go_enter Try.func79, Try.ntmps79
    go_wp2
    go_ret
    exact ⟨none, 0, rfl, OwnsB.nil _ _ _, Below.refl _ _⟩
  · have hbel : Below w.heap.size w (w.alloc (.cells #[] 5)) := (Below.refl _ _).alloc (Nat.le_refl _) _
    have hown : OwnsB 5 (w.alloc (.cells #[] 5)) w.heap.size (some ⟨w.heap.size, 0, none⟩) 0 [] := by
      refine ⟨by simp, by simp [bytes], .inr ⟨w.heap.size, 0, _, rfl, Nat.le_refl _, heap_alloc_new w _, Nat.zero_le _, by unfold maxLen; omega, by simp, by simp [bytes]⟩⟩
    have hs : IsBytes (w.alloc (.cells #[] 5)) w.heap.size (some ad) l := (h.more hB).below hbel
    have HB := hid hbel
    have hsz := hbel.size
    have HS := hid hsz
    clear hbel hsz
    go_enter Try.func79, Try.ntmps79
    go_wp2_with (at_builtin; refine wpList_append_bytesN rfl _ _ 29 rfl w.heap.size 5 i0 Try.underlying29 hi hz0 hz1 hz2 (some ⟨w.heap.size, 0, none⟩) 0 [] 0 rfl rfl hown w.heap.size (some ad) c l l.length rfl rfl hn hs l (List.nil_append _) (by omega) HS.out ?_)
    intro A3 c3 w2 hown2 hbel2
    have HB2 := hid (HB.out.trans hbel2)
    clear hown hs hbel2
    go_wp2
    go_ret
    exact ⟨A3, c3, ret_len (by simp), hown2, HB2.out⟩
end Go.Proofs.Ytkmbkihfdilmbaa
namespace Go.Proofs.Ytkmbkihfdilmbaa
open Go.RowKit
set_option maxHeartbeats 1600000 in
set_option maxRecDepth 100000 in
theorem own_any (B : Nat) (A : Option Addr) (c n : Nat) (L : List Rl.En) (hn : L.length = n) (hl : n ≤ 90000) (hf : Rl.Few L) (w : World) (h : IsEnts w B A L) (hB : B ≤ w.heap.size) :
    Calls Try.prog 69 #[.slice A n c] w fun e w' => ∃ A' c', e = .returned (.slice A' n c') ∧ OwnE w' w.heap.size w'.heap.size A' c' L ∧ Below w.heap.size w w' := by
  subst hn
  obtain ⟨i0, hi, hz0, hz1, hz2⟩ := info_parts info_entry
  have HH := hid (h.more hB)
  have HF := hid hf
  clear h hf
  go_enter Try.func69, Try.ntmps69
  go_wp2_with (at_make; refine wpList_make_own _ rfl _ _ 23 rfl 0 64 i0 _ 3 Try.underlying23 hi hz0 hz1 .i64 .i64 (L.length : Int) L.length rfl rfl rfl (by rw [hz2]; omega) (by unfold maxLen; omega) (Nat.zero_le _) ?_)
  intro w1 hrow1 hgr1
  have hlt1 : w.heap.size < w1.heap.size := (hrow1.lt _ rfl).2
  have H1 : Hid (OwnE w1 w.heap.size w1.heap.size (some ⟨w.heap.size, 0, none⟩) L.length (L.take 0) ∧ Below w.heap.size w w1) := hid ⟨⟨[], rfl, ⟨⟨fun _ => rfl, hrow1, fun k hk => by
    have hk : w.heap.size = k := by injection hk
    exact ⟨by omega, by omega⟩⟩, by simp, List.Pairwise.nil, by simp⟩⟩, below_grown hgr1 (Nat.le_refl _) (fun k hk => by cases hk)⟩
  clear hrow1 hgr1 hlt1
  go_wp2_with fail
  go_loopw [3, 11] (fun v i wr => ∃ (k : Nat) (A1 : Option Addr) (c1 : Nat), k ≤ L.length ∧ v = .slice A1 k c1 ∧ i = .int .i64 k ∧ Hid (OwnE wr w.heap.size wr.heap.size A1 c1 (L.take k) ∧ Below w.heap.size w wr)) (fun _ i _ => L.length - (RowKit.intOf i).toNat)
  case atStart => exact ⟨0, _, _, by omega, rfl, rfl, H1⟩
  case round =>
    clear H1
    obtain ⟨k, A1, c1, hk, rfl, rfl, hS⟩ := hrel
    by_cases hlt : k < L.length
    · obtain ⟨b, off, rfl, hbw, hc⟩ := (HH.out.below hS.out.2).cells k hlt
      obtain ⟨Ad, cd, d0, d1, d2, hd, hd2, hd3⟩ := hc k hlt
      have hk0 : (k : Int) < (L.length : Int) := by omega
      have hfk : L[k].d.length ≤ 65536 := HF.out _ (List.getElem_mem hlt)
      have hnum := HH.out.num _ (List.getElem_mem hlt)
      have htk : L.take (k + 1) = L.take k ++ [L[k]] := List.take_succ_eq_append_getElem hlt
      obtain ⟨x, hx⟩ : ∃ x, x = L[k] := ⟨_, rfl⟩
      rw [← hx] at d0 d1 d2 hd hd2 hfk hnum htk
      have HX := hid (And.intro hnum htk)
      clear hc hx hnum htk
      obtain ⟨w2, hw2⟩ : ∃ w2, w2 = wr.alloc (.cells #[.int .i64 x.t, .int .i64 x.k, .slice Ad x.d.length cd] 64) := ⟨_, rfl⟩
      have hb2 : Below wr.heap.size wr w2 := by rw [hw2]; exact (Below.refl _ wr).alloc (Nat.le_refl _) _
      have hs2 : w2.heap.size = wr.heap.size + 1 := by rw [hw2]; simp
      have HC := hid (bclone_any wr.heap.size Ad cd x.d x.d.length rfl (by omega) w2 ((hd.more hS.out.2.size).below hb2) hb2.size hd3)
      have H2 := hid (And.intro hb2 (And.intro hs2 hw2))
      rw [hw2] at HC
      clear hb2 hs2 hw2 hd
      go_wp2_with fail
      refine HC.out.mono ?_
      rintro e w3 ⟨A3, c3, rfl, ho3, hb3⟩
      rw [← H2.out.2.2] at ho3 hb3
      rw [H2.out.2.1] at ho3 hb3
      have q0 : w3.cell? ⟨wr.heap.size, 0, none⟩ = some (.int .i64 x.t) := by rw [hb3.cell (by simp), H2.out.2.2]; simp
      have q1 : w3.cell? ⟨wr.heap.size, 1, none⟩ = some (.int .i64 x.k) := by rw [hb3.cell (by simp), H2.out.2.2]; simp
      have q2 : w3.cell? ⟨wr.heap.size, 2, none⟩ = some (.slice Ad x.d.length cd) := by rw [hb3.cell (by simp), H2.out.2.2]; simp
      have f2 : w3.frozen? ⟨wr.heap.size, 2, none⟩ = false := by rw [hb3.frozen (by simp), H2.out.2.2]; simp
      have hlt3 : wr.heap.size < w3.heap.size := by have := hb3.size; have := H2.out.2.1; omega
      have H3 : Hid (Below wr.heap.size wr (w3.setCell ⟨wr.heap.size, 2, none⟩ (.slice A3 x.d.length c3)) ∧ OwnsB 5 (w3.setCell ⟨wr.heap.size, 2, none⟩ (.slice A3 x.d.length c3)) wr.heap.size A3 c3 x.d) := hid ⟨(H2.out.1.trans (hb3.mono (by omega))).trans ((Turned.one w3 wr.heap.size 2 _).below (by omega) (fun k hk => Nat.le_of_eq (Eq.symm hk))), (ho3.turned (Turned.one w3 wr.heap.size 2 _) (fun k hk e => by have := (ho3.blkLt k hk).1; have e2 : k = wr.heap.size := e; omega)).weaken (by omega)⟩
      have hz3 : (w3.setCell ⟨wr.heap.size, 2, none⟩ (.slice A3 x.d.length c3)).heap.size = w3.heap.size := by simp [World.setCell]
      have HZ := hid hz3
      have hN := Nat.le_of_lt hlt3
      clear hb3 ho3 HC hz3
      have hl5 : k + 1 ≤ 100000 := by omega
      have hlk : (L.take k).length = k := by rw [List.length_take]; omega
      have HLK := hid hlk
      have HA := hid (And.intro (hS.out.1.below (H3.out.1.alloc (by rw [HZ.out]; exact hN) (.cells #[.int .i64 x.t, .int .i64 x.k, .slice A3 x.d.length c3] 64))) (H3.out.2.below ((Below.refl _ _).alloc (Nat.le_refl _) (.cells #[.int .i64 x.t, .int .i64 x.k, .slice A3 x.d.length c3] 64))))
      clear hlk
      go_wp2_with (at_builtin; refine wpList_append_ent rfl _ _ rfl HA.out.1 hS.out.2.size ?hN k HLK.out rfl x HX.out.1 A3 c3 HA.out.2 ⟨w3.heap.size, 0, none⟩ 1 rfl (fun j _ => cellsE_new _ _ HZ.out ⟨x, A3, c3⟩ _ j) hl5 ?_)
      case hN => rw [World.size_alloc, HZ.out]; omega
      intro A6 c6 w6 hE6 hB6
      rw [← HX.out.2] at hE6
      have H6 : Hid (OwnE w6 w.heap.size w6.heap.size A6 c6 (L.take (k + 1)) ∧ Below w.heap.size w w6) := hid ⟨hE6, (hS.out.2.trans ((H3.out.1.alloc (by rw [HZ.out]; exact hN) _).mono hS.out.2.size)).trans hB6⟩
      clear hE6 hB6
      go_wp2_with fail
      go_roundw
      case rel => exact ⟨k + 1, A6, c6, by omega, rfl, by go_num, H6⟩
      case measure => simp [RowKit.intOf]; omega
    · obtain rfl : k = L.length := by omega
      have hS1 := hS.out
      rw [List.take_length] at hS1
      have HS := hid hS1
      clear hS hS1
      go_wp2_with fail
      go_ret
      exact ⟨A1, c1, rfl, HS.out.1, HS.out.2⟩
end Go.Proofs.Ytkmbkihfdilmbaa
namespace Go.Proofs.Ytkmbkihfdilmbaa
open Go.RowKit
end Go.Proofs.Ytkmbkihfdilmbaa
namespace Go.Proofs.Ytkmbkihfdilmbaa.Im
open Go.RowKit
open Rl (En Lg)
set_option maxRecDepth 100000
set_option linter.unusedVariables false
theorem loadAt_log1 (a : Value) : Instr.loadAt 25 a = ldX 25 a := rfl
theorem storeAt_log1 (a v : Value) : Instr.storeAt 25 a v = stX 25 a v := rfl
theorem info_log33 : (Try.prog.info? 25).map (·.size) = some 3 := by kernel_rfl
attribute [local go_sem ↓] loadAt_log1 storeAt_log1
def sinceM (g : Lg) (b t : Int) : Lg := if g.cutE b = 0 ∧ (g.cut b).term = t then g.cut b else ⟨b, t, []⟩
end Go.Proofs.Ytkmbkihfdilmbaa.Im
namespace Go.Proofs.Ytkmbkihfdilmbaa.Vo
open Go Go.RowKit
open Rl (En Lg)
open Im (ldX stX)
set_option maxRecDepth 100000
set_option linter.unusedVariables false
attribute [local go_sem ↓] Im.loadAt_log1 Im.storeAt_log1
def sevenL : Lg := ⟨5, 2, [⟨2, 0, []⟩, ⟨3, 0, []⟩]⟩
end Go.Proofs.Ytkmbkihfdilmbaa.Vo
namespace Go.Proofs.Ytkmbkihfdilmbaa.Vo
open Go Go.RowKit
open Rl (En Lg)
open Im (ldX stX)
set_option maxRecDepth 100000
set_option linter.unusedVariables false
attribute [local go_sem ↓] Im.loadAt_log1 Im.storeAt_log1
end Go.Proofs.Ytkmbkihfdilmbaa.Vo
namespace Go.Proofs.Ytkmbkihfdilmbaa.Vo
open Go Go.RowKit
open Rl (En Lg)
open Ms (M)
set_option maxRecDepth 100000
set_option linter.unusedVariables false
theorem row_lt' {w : World} {g : Nat} {o : Obj} (h : w.heap[g]? = some o) : g < w.heap.size := (Array.getElem?_eq_some_iff.1 h).1
end Go.Proofs.Ytkmbkihfdilmbaa.Vo
namespace Go.Proofs.Ytkmbkihfdilmbaa
open Go.RowKit
end Go.Proofs.Ytkmbkihfdilmbaa
namespace Go.Proofs.Ytkmbkihfdilmbaa
open Go.RowKit
set_option maxHeartbeats 400000 in
theorem copy_any (B : Nat) (A : Option Addr) (c : Nat) (l : List Nat) (hl : l.length ≤ 140737488355328) (w : World) (h : IsBytes w B A l) (hB : B ≤ w.heap.size) :
    Calls Try.prog 47 #[.slice A l.length c] w fun e w' => ∃ A' c', e = .returned (.slice A' l.length c') ∧ OwnsB 5 w' w.heap.size A' c' l ∧ Below w.heap.size w w' := by
  obtain ⟨i0, hi, hz0, hz1, hz2⟩ := info_parts info_u8
  go_enter Try.func47, Try.ntmps47
  go_wp2
  go_loopw [3, 4] (fun v i wr => ∃ k : Nat, k ≤ l.length ∧ i = .int .i64 k ∧ wr.ownsRow w.heap.size 5 1 v k (bytes (l.take k)) ∧ Below w.heap.size w wr) (fun _ i _ => l.length - (RowKit.intOf i).toNat)
  case atStart => exact ⟨0, by omega, rfl, World.ownsRow_nil _ _ _ _, Below.refl _ _⟩
  case round =>
    obtain ⟨k, hk, rfl, hown, hbel⟩ := hrel
    by_cases hlt : k < l.length
    · have h1 := (h.below (hbel.mono hB))
      obtain ⟨b, off, rfl, _, hc⟩ := h1.cells k hlt
      have hck := hc k hlt
      clear hc
      go_wp2_with (at_builtin; refine wpList_append_own _ rfl _ _ 29 rfl w.heap.size 5 i0 (.int .u8 0) 1 1 Try.underlying29 hi hz0 hz1 hz2 rfl (by decide) _ _ _ rfl (hown.alloc _) ⟨wr.heap.size, 0, none⟩ 1 1 [.int .u8 (l[k] : Nat)] rfl rfl ?c1 ?c2 ?c3 ?c4 ?c5 ?_)
      case c1 =>
        intro j u hj
        match j, hj with
        | 0, hj => simp at hj; subst hj; simp [Addr.add]
      case c2 => intro u hu; simp at hu; subst hu; rfl
      case c3 => unfold maxLen; omega
      case c4 => omega
      case c5 => have := hbel.size; simp; omega
      intro v' w1 hown' hgrow _
      rw [bytes_snoc l k hlt] at hown'
      have hb1 : Below w.heap.size w w1 := (hbel.alloc hbel.size _).grown hgrow (by have := hbel.size; simp; omega) (fun g hg => (hown.lt g hg).1)
      clear hgrow hown hbel hck
      go_wp2
      go_roundw
      case rel => exact ⟨k + 1, by omega, by go_num, hown', hb1⟩
      case measure => simp [RowKit.intOf]; omega
    · obtain rfl : k = l.length := by omega
      rw [List.take_length] at hown
      obtain ⟨A', c', rfl⟩ := own_slice hown
      go_wp2
      go_ret
      exact ⟨A', c', rfl, ⟨h.small, hown⟩, hbel⟩
theorem copy_N (B : Nat) (A : Option Addr) (c : Nat) (l : List Nat) (n : Nat) (hn : l.length = n) (hl : n ≤ 140737488355328) (w : World) (h : IsBytes w B A l) (hB : B ≤ w.heap.size) :
    Calls Try.prog 47 #[.slice A n c] w fun e w' => ∃ A' c', e = .returned (.slice A' n c') ∧ OwnsB 5 w' w.heap.size A' c' l ∧ Below w.heap.size w w' := by
  subst hn; exact copy_any B A c l hl w h hB
end Go.Proofs.Ytkmbkihfdilmbaa
namespace Go.Proofs.Ytkmbkihfdilmbaa
open Go.RowKit
end Go.Proofs.Ytkmbkihfdilmbaa
namespace Go.Proofs.Ytkmbkihfdilmbaa
open Go.RowKit
end Go.Proofs.Ytkmbkihfdilmbaa
namespace Go.Proofs.Ytkmbkihfdilmbaa.Vo
open Go Go.RowKit
open Rl (En Lg)
open Ms (M)
open Im (ldX stX)
set_option maxRecDepth 100000
set_option linter.unusedVariables false
attribute [local go_sem ↓] loadAt_msgV storeAt_msgV Im.loadAt_log1 Im.storeAt_log1
def Rw (w : World) (b : Nat) (cs : Array Value) (t : TypeId) : Prop := w.heap[b]? = some (.cells cs t (0, 0))
theorem Rw.keep {w w' : World} {b : Nat} {cs : Array Value} {t : TypeId} (h : Rw w b cs t) (hb : Below w.heap.size w w') : Rw w' b cs t := (hb.block _ (row_lt' h)).trans h
theorem Rw.ldM {w : World} {b : Nat} {cs : Array Value} (h : Rw w b cs 31) (hn : cs.size = 17) : (ldX 31 (.pointer (some ⟨b, 0, none⟩))).run Try.prog w = .ok (.agg cs) w :=
  Im.ldRow info_msgV Try.underlying31 rfl h hn
theorem Rw.two (w : World) (x y : Array Value) (s t : TypeId) : Rw ((w.alloc (.cells x s)).alloc (.cells y t)) w.heap.size x s ∧ Rw ((w.alloc (.cells x s)).alloc (.cells y t)) (w.heap.size + 1) y t := by
  refine ⟨?_, ?_⟩
  · show _ = _
    rw [heap_alloc_old _ _ (by simp)]
    exact heap_alloc_new w _
  · have q := heap_alloc_new (w.alloc (.cells x s)) (.cells y t)
    rw [World.size_alloc] at q
    exact q
structure LogOk (g : Lg) : Prop where
  ok : Rl.Ok g
  lim : (0 ≤ g.base ∧ g.base ≤ 1099511627776) ∧ (0 ≤ g.term ∧ g.term ≤ 1099511627776)
  few : big g.es 2000 65536 = false
end Go.Proofs.Ytkmbkihfdilmbaa.Vo
namespace Go.Proofs.Ytkmbkihfdilmbaa.Vo
open Go Go.RowKit
open Rl (En Lg)
open Ms (M)
open Im (ldX stX)
set_option maxRecDepth 100000
set_option linter.unusedVariables false
attribute [local go_sem ↓] loadAt_msgV storeAt_msgV Im.loadAt_log1 Im.storeAt_log1
theorem Rw.three (w : World) (x y z : Array Value) (s t u : TypeId) : Rw (((w.alloc (.cells x s)).alloc (.cells y t)).alloc (.cells z u)) w.heap.size x s ∧ Rw (((w.alloc (.cells x s)).alloc (.cells y t)).alloc (.cells z u)) (w.heap.size + 1) y t ∧ Rw (((w.alloc (.cells x s)).alloc (.cells y t)).alloc (.cells z u)) (w.heap.size + 2) z u ∧ Below w.heap.size w (((w.alloc (.cells x s)).alloc (.cells y t)).alloc (.cells z u)) := by
  obtain ⟨r0, r1⟩ := Rw.two w x y s t
  obtain ⟨hb, hz⟩ := boxes w x y s t
  have hb3 : Below ((w.alloc (.cells x s)).alloc (.cells y t)).heap.size ((w.alloc (.cells x s)).alloc (.cells y t)) (((w.alloc (.cells x s)).alloc (.cells y t)).alloc (.cells z u)) := (Below.refl _ _).alloc (Nat.le_refl _) _
  have q := heap_alloc_new ((w.alloc (.cells x s)).alloc (.cells y t)) (.cells z u)
  rw [hz] at q
  exact ⟨r0.keep hb3, r1.keep hb3, q, hb.trans (hb3.mono hb.size)⟩
end Go.Proofs.Ytkmbkihfdilmbaa.Vo
namespace Go.Proofs.Ytkmbkihfdilmbaa.Vo
open Go Go.RowKit
open Rl (En Lg)
open Ms (M)
open Im (ldX stX)
set_option maxRecDepth 100000
set_option linter.unusedVariables false
attribute [local go_sem ↓] loadAt_msgV storeAt_msgV Im.loadAt_log1 Im.storeAt_log1
theorem Rw.put {w : World} {b : Nat} {cs : Array Value} {t : TypeId} (h : Rw w b cs t) (i : Nat) (u : Value) : Rw (w.setCell ⟨b, i, none⟩ u) b (cs.setIfInBounds i u) t := row_set h i u
theorem Rw.other {w : World} {b b' : Nat} {cs : Array Value} {t : TypeId} (h : Rw w b cs t) (hb : b < b') (i : Nat) (u : Value) : Rw (w.setCell ⟨b', i, none⟩ u) b cs t := (((Below.refl b' w).setCell (Nat.le_refl _) _).block _ hb).trans h
end Go.Proofs.Ytkmbkihfdilmbaa.Vo
namespace Go.Proofs.Ytkmbkihfdilmbaa.Ms
open Go.RowKit
set_option maxRecDepth 100000
structure Bx (w : World) (b : Nat) (m : M) (A : Option Addr) (c : Nat) (A' : Option Addr) (c' : Nat) : Prop where
  row : w.heap[b]? = some (.cells #[.int .i64 m.K, .int .i64 m.F, .int .i64 m.T, .int .i64 m.g, .int .i64 m.t, .int .i64 m.i, .int .i64 m.p, .int .i64 m.c, .int .i64 m.r, .int .i64 m.x, .int .i64 m.a, .int .i64 m.b, .int .i64 m.v, .int .i64 m.s, .bool m.ok, .slice A m.es.length c, .slice A' m.d.length c'] 31 (0, 0))
theorem Bx.below {w w' : World} {B b : Nat} {m : M} {A A' : Option Addr} {c c' : Nat} (h : Bx w b m A c A' c') (hb : Below B w w') (hB : b < B) : Bx w' b m A c A' c' := ⟨(hb.block b hB).trans h.row⟩
theorem Bx.cell {w : World} {b : Nat} {m : M} {A A' : Option Addr} {c c' : Nat} (h : Bx w b m A c A' c') (i : Nat) : w.cell? ⟨b, i, none⟩ = (#[.int .i64 m.K, .int .i64 m.F, .int .i64 m.T, .int .i64 m.g, .int .i64 m.t, .int .i64 m.i, .int .i64 m.p, .int .i64 m.c, .int .i64 m.r, .int .i64 m.x, .int .i64 m.a, .int .i64 m.b, .int .i64 m.v, .int .i64 m.s, .bool m.ok, .slice A m.es.length c, .slice A' m.d.length c'] : Array Value)[i]? := cell_of_row w b i _ _ (0, 0) h.row
theorem Bx.c0 {w : World} {b : Nat} {m : M} {A A' : Option Addr} {c c' : Nat} (h : Bx w b m A c A' c') : w.cell? ⟨b, 0, none⟩ = some (.int .i64 m.K) := h.cell 0
theorem Bx.c15 {w : World} {b : Nat} {m : M} {A A' : Option Addr} {c c' : Nat} (h : Bx w b m A c A' c') : w.cell? ⟨b, 15, none⟩ = some (.slice A m.es.length c) := h.cell 15
theorem Bx.c16 {w : World} {b : Nat} {m : M} {A A' : Option Addr} {c c' : Nat} (h : Bx w b m A c A' c') : w.cell? ⟨b, 16, none⟩ = some (.slice A' m.d.length c') := h.cell 16
def ldMsg (a : Value) : Sem Value := Instr.loadAt 31 a
def stMsg (a v : Value) : Sem Unit := Instr.storeAt 31 a v
theorem loadAt_msg (a : Value) : Instr.loadAt 31 a = ldMsg a := rfl
theorem storeAt_msg (a v : Value) : Instr.storeAt 31 a v = stMsg a v := rfl
theorem info_msg : (Try.prog.info? 31).map (·.size) = some 17 := by kernel_rfl
theorem ld_row (w : World) (b : Nat) (cs : Array Value) (t : TypeId) (fr : Nat × Nat) (hg : w.heap[b]? = some (.cells cs t fr)) (h : cs.size = 17) : (ldMsg (.pointer (some ⟨b, 0, none⟩))).run Try.prog w = .ok (.agg cs) w :=
  run_loadVar_row w b t 31 cs fr _ hg Try.underlying31 rfl (by rw [info_msg, h])
theorem Bx.load {w : World} {b : Nat} {m : M} {A A' : Option Addr} {c c' : Nat} (h : Bx w b m A c A' c') : (ldMsg (.pointer (some ⟨b, 0, none⟩))).run Try.prog w = .ok (.agg #[.int .i64 m.K, .int .i64 m.F, .int .i64 m.T, .int .i64 m.g, .int .i64 m.t, .int .i64 m.i, .int .i64 m.p, .int .i64 m.c, .int .i64 m.r, .int .i64 m.x, .int .i64 m.a, .int .i64 m.b, .int .i64 m.v, .int .i64 m.s, .bool m.ok, .slice A m.es.length c, .slice A' m.d.length c']) w :=
  ld_row w b _ _ _ h.row rfl
end Go.Proofs.Ytkmbkihfdilmbaa.Ms
namespace Go.Proofs.Ytkmbkihfdilmbaa.Ms
open Go.RowKit
set_option maxRecDepth 100000
attribute [local go_sem ↓] loadAt_msg
theorem tab_field (k : Nat) : ∀ x ∈ tab k, x ∈ nums ∨ x = 111 ∨ x = 101 ∨ x = 100 := by
  intro x hx
  unfold tab at hx
  split at hx <;> simp at hx <;> simp only [nums, List.mem_cons, List.not_mem_nil, or_false] <;> omega
theorem kind_of {m : M} (h : m.isKind = true) : ∃ k : Nat, m.K = (k : Int) ∧ 1 ≤ k ∧ k ≤ 11 ∧ m.kind = k := by
  unfold M.isKind at h
  simp at h
  exact ⟨m.K.toNat, by omega, by omega, by omega, rfl⟩
end Go.Proofs.Ytkmbkihfdilmbaa.Ms
namespace Go.Proofs.Ytkmbkihfdilmbaa.Ms
open Go.RowKit
set_option maxRecDepth 100000
attribute [local go_sem ↓] loadAt_msg
end Go.Proofs.Ytkmbkihfdilmbaa.Ms
namespace Go.Proofs.Ytkmbkihfdilmbaa.Ms
open Go.RowKit
set_option maxRecDepth 100000
attribute [local go_sem ↓] loadAt_msg
structure Small (m : M) : Prop where
  es : m.es.length ≤ 100000
  wt : weigh m.es ≤ 1000000000
  d : m.d.length ≤ 1000000000
structure Inp (w : World) (m : M) (A : Option Addr) : Prop where
  T : Tab w
  es : IsEnts w w.heap.size A m.es
  small : Small m
end Go.Proofs.Ytkmbkihfdilmbaa.Ms
namespace Go.Proofs.Ytkmbkihfdilmbaa
open Go.RowKit
end Go.Proofs.Ytkmbkihfdilmbaa
namespace Go.Proofs.Ytkmbkihfdilmbaa
open Go.RowKit
end Go.Proofs.Ytkmbkihfdilmbaa
namespace Go.Proofs.Ytkmbkihfdilmbaa
open Go.RowKit
end Go.Proofs.Ytkmbkihfdilmbaa
namespace Go.Proofs.Ytkmbkihfdilmbaa.Ms
open Go.RowKit
set_option maxRecDepth 100000
attribute [local go_sem ↓] loadAt_msg
structure Thru (base : Nat) (w w' : World) : Prop where
  bel : Below base w w'
  oth : ∀ k, k < w.heap.size → (∀ cs fr, w.heap[k]? ≠ some (.cells cs 5 fr)) → w'.heap[k]? = w.heap[k]?
namespace Thru
variable {base : Nat} {a b c : World}
theorem size (h : Thru base a b) : a.heap.size ≤ b.heap.size := h.bel.size
theorem trans (h : Thru base a b) (h' : Thru base b c) : Thru base a c := ⟨h.bel.trans h'.bel, fun k hk hn => by
  have e := h.oth k hk hn
  exact (h'.oth k (Nat.lt_of_lt_of_le hk h.size) (fun cs fr => by rw [e]; exact hn cs fr)).trans e⟩
theorem new (h : Below a.heap.size a b) (hB : base ≤ a.heap.size) : Thru base a b := ⟨h.mono hB, fun k hk _ => h.block k hk⟩
theorem own {A : Option Addr} {cp : Nat} {l : List Nat} (h : OwnsB 5 a base A cp l) (hB : base ≤ a.heap.size) (hg : a.grownBy b (blk A)) : Thru base a b :=
  ⟨below_grown hg hB (fun k hk => (h.blkLt k hk).1), fun k hk hn => hg.block k hk (fun e => by
    rcases h.row.2 with ⟨h0, _⟩ | ⟨g', cap, cur, hv, _, hh, _⟩
    · injection h0 with h0; rw [h0] at e; cases e
    · have hA : A = some ⟨g', 0, none⟩ := by injection hv
      rw [hA] at e
      obtain rfl : k = g' := by injection e
      exact hn _ _ hh)⟩
theorem keep {k : Nat} {o : Obj} (h : Thru base a b) (ho : a.heap[k]? = some o) (hn : ∀ cs fr, o ≠ .cells cs 5 fr) : b.heap[k]? = some o :=
  (h.oth k (row_lt ho) (fun cs fr e => by rw [ho] at e; exact hn cs fr (Option.some.inj e))).trans ho
end Thru
theorem encE_length (e : Rl.En) : (encE e).length = 24 + e.d.length := by unfold encE; simp [Pk.enc_length]; omega
theorem encEs_length (L : List Rl.En) : (L.flatMap encE).length = 24 * L.length + weigh L := by
  induction L with
  | nil => rfl
  | cons e L ih =>
    rw [List.flatMap_cons, List.length_append, ih, encE_length]
    unfold weigh
    rw [List.map_cons, List.sum_cons, List.length_cons]; omega
def M.len (m : M) (r : Nat) : Nat := if r = 111 then 8 else if r = 101 then 8 + (24 * m.es.length + weigh m.es) else if r = 100 then 8 + m.d.length else 8
theorem encF_length (m : M) (r : Nat) : (m.encF r).length = m.len r := by
  unfold M.encF M.len
  split
  · rw [Pk.enc_length]
  · split
    · rw [List.length_append, Pk.enc_length, encEs_length]
    · split
      · rw [List.length_append, Pk.enc_length]
      · rw [Pk.enc_length]
end Go.Proofs.Ytkmbkihfdilmbaa.Ms
namespace Go.Proofs.Ytkmbkihfdilmbaa.Ms
open Go.RowKit
set_option maxRecDepth 100000
attribute [local go_sem ↓] loadAt_msg
structure Stp (w0 : World) (base g : Nat) (cs : Array Value) (W : World) (A : Option Addr) (c : Nat) (l : List Nat) (q : Nat) : Prop where
  own : OwnsB 5 W base A c l
  len : l.length = q
  bel : Thru base w0 W
  le : base ≤ W.heap.size
  row : W.heap[g]? = some (.cells cs 64 (0, 0))
theorem Stp.step {w0 W w' : World} {base g : Nat} {cs : Array Value} {A A' : Option Addr} {c c' : Nat} {l l' : List Nat} {q q' : Nat} (h : Stp w0 base g cs W A c l q) (ho : OwnsB 5 w' base A' c' l') (hl : l'.length = q') (hb : Thru base W w') : Stp w0 base g cs w' A' c' l' q' :=
  ⟨ho, hl, h.bel.trans hb, Nat.le_trans h.le hb.size, hb.keep h.row (fun cs fr e => by injection e with _ e _; exact absurd e (by decide))⟩
def EnC (w : World) (g : Nat) (x : Rl.En) (A : Option Addr) (c : Nat) : Prop := w.cell? ⟨g, 0, none⟩ = some (.int .i64 x.t) ∧ w.cell? ⟨g, 1, none⟩ = some (.int .i64 x.k) ∧ w.cell? ⟨g, 2, none⟩ = some (.slice A x.d.length c)
theorem Stp.cells {w0 W : World} {base g : Nat} {A A4 : Option Addr} {c c4 : Nat} {l : List Nat} {q : Nat} {x : Rl.En} (h : Stp w0 base g #[.int .i64 x.t, .int .i64 x.k, .slice A4 x.d.length c4] W A c l q) : EnC W g x A4 c4 :=
  ⟨cell_of_row _ g 0 _ _ (0, 0) h.row, cell_of_row _ g 1 _ _ (0, 0) h.row, cell_of_row _ g 2 _ _ (0, 0) h.row⟩
end Go.Proofs.Ytkmbkihfdilmbaa.Ms
namespace Go.Proofs.Ytkmbkihfdilmbaa
open Go.RowKit
end Go.Proofs.Ytkmbkihfdilmbaa
namespace Go.Proofs.Ytkmbkihfdilmbaa.Frame
open Go.RowKit
end Go.Proofs.Ytkmbkihfdilmbaa.Frame
namespace Go.Proofs.Ytkmbkihfdilmbaa.Frame
open Go.RowKit
set_option maxRecDepth 100000
end Go.Proofs.Ytkmbkihfdilmbaa.Frame
namespace Go.Proofs.Ytkmbkihfdilmbaa.Ms
open Go.RowKit
set_option maxRecDepth 100000
attribute [local go_sem ↓] loadAt_msg
theorem blank_of {m : M} (hf : m.foreign = false) (r : Nat) (hr : r ∈ all) (h : (tab m.kind).contains r = false) : m.blank r = true := by
  unfold M.foreign at hf
  rw [List.any_eq_false] at hf
  have := hf r hr
  rw [h] at this
  simpa using this
theorem enc_length (m : M) (hk : m.isKind = true) (hf : m.foreign = false) : m.enc.length = m.size := by
  have h1 : ∀ L : List Nat, (L.flatMap m.encF).length = (L.map m.len).sum := by
    intro L
    induction L with
    | nil => rfl
    | cons r L ih => rw [List.flatMap_cons, List.length_append, encF_length, List.map_cons, List.sum_cons, ih]
  have he : (tab m.kind).contains 101 = false → m.es = [] := fun h => by
    have := blank_of hf 101 (by decide) h
    simpa [M.blank] using this
  have hd : (tab m.kind).contains 100 = false → m.d = [] := fun h => by
    have := blank_of hf 100 (by decide) h
    simpa [M.blank] using this
  unfold M.enc M.size
  rw [h1]
  obtain ⟨k, _, k1, k2, hk⟩ := kind_of hk
  rw [hk] at he hd ⊢
  have hw : m.es = [] → m.es.length = 0 ∧ weigh m.es = 0 := fun e => by rw [e]; exact ⟨rfl, rfl⟩
  have hl : m.d = [] → m.d.length = 0 := fun e => by rw [e]; rfl
  match k, k1, k2 with
  | 1, _, _ | 2, _, _ | 4, _, _ | 8, _, _ | 9, _, _ | 10, _, _ | 11, _, _ =>
    have := hw (he (by decide))
    have := hl (hd (by decide))
    simp [head, tab, M.len]; omega
  | 3, _, _ =>
    have := hl (hd (by decide))
    simp [head, tab, M.len]; omega
  | 5, _, _ | 6, _, _ | 7, _, _ =>
    have := hw (he (by decide))
    simp [head, tab, M.len]; omega
theorem check_zero {m : M} (h : check m = 0) : m.isKind = true ∧ m.foreign = false ∧ m.inRange = true ∧ m.es.length ≤ 1024 ∧ m.size ≤ 65536 := by
  unfold check at h
  split at h
  · cases h
  · split at h
    · cases h
    · split at h
      · cases h
      · split at h
        · cases h
        · rename_i h1 h2 h3 h4
          refine ⟨by simpa using h1, by simpa using h2, by simpa using h3, by omega, by omega⟩
end Go.Proofs.Ytkmbkihfdilmbaa.Ms
namespace Go.Proofs.Ytkmbkihfdilmbaa
open Go.RowKit
end Go.Proofs.Ytkmbkihfdilmbaa
namespace Go.Proofs.Ytkmbkihfdilmbaa
open Go.RowKit
set_option maxRecDepth 100000
end Go.Proofs.Ytkmbkihfdilmbaa
namespace Go.Proofs.Ytkmbkihfdilmbaa.Ms
open Go.RowKit
set_option maxRecDepth 100000
attribute [local go_sem ↓] loadAt_msg storeAt_msg
namespace Rd
variable {w0 W W' : World} {B gm gr lo : Nat} {m : M} {s : Pk.St} {A A' : Option Addr} {c c' N : Nat}
end Rd
structure Kept (lo gm gr : Nat) (W W' : World) : Prop where
  size : W.heap.size ≤ W'.heap.size
  same : ∀ k, k < lo → k < W.heap.size → k ≠ gm → k ≠ gr → W'.heap[k]? = W.heap[k]?
namespace Kept
variable {lo gm gr : Nat} {a b c : World}
theorem trans (h : Kept lo gm gr a b) (h' : Kept lo gm gr b c) : Kept lo gm gr a c := ⟨Nat.le_trans h.size h'.size, fun k h1 h2 h3 h4 => (h'.same k h1 (Nat.lt_of_lt_of_le h2 h.size) h3 h4).trans (h.same k h1 h2 h3 h4)⟩
theorem bel (h : Below lo a b) : Kept lo gm gr a b := ⟨h.size, fun k h1 _ _ _ => h.block k h1⟩
end Kept
end Go.Proofs.Ytkmbkihfdilmbaa.Ms
namespace Go.Proofs.Ytkmbkihfdilmbaa.Ms
open Go.RowKit
set_option maxRecDepth 100000
set_option linter.unusedVariables false
attribute [local go_sem ↓] loadAt_msg storeAt_msg
end Go.Proofs.Ytkmbkihfdilmbaa.Ms
namespace Go.Proofs.Ytkmbkihfdilmbaa
open Go.RowKit
end Go.Proofs.Ytkmbkihfdilmbaa
namespace Go.Proofs.Ytkmbkihfdilmbaa.Ms
open Go.RowKit
set_option maxRecDepth 100000
set_option linter.unusedVariables false
attribute [local go_sem ↓] loadAt_msg storeAt_msg
theorem st_row (w : World) (b : Nat) (cs cs' : Array Value) (hg : w.heap[b]? = some (.cells cs 31 (0, 0))) (h : cs.size = 17) (h' : cs'.size = 17) (h1 : cs'.all (·.oneCell') = true) : (stMsg (.pointer (some ⟨b, 0, none⟩)) (.agg cs')).run Try.prog w = .ok () (w.setRow b cs') :=
  run_storeVar_row w b _ _ cs cs' hg (by rw [info_msg, h']) (by rw [h, h']) h1
theorem msg_one (m : M) (A : Option Addr) (c : Nat) (A' : Option Addr) (c' : Nat) : (#[.int .i64 m.K, .int .i64 m.F, .int .i64 m.T, .int .i64 m.g, .int .i64 m.t, .int .i64 m.i, .int .i64 m.p, .int .i64 m.c, .int .i64 m.r, .int .i64 m.x, .int .i64 m.a, .int .i64 m.b, .int .i64 m.v, .int .i64 m.s, .bool m.ok, .slice A m.es.length c, .slice A' m.d.length c'] : Array Value).all (·.oneCell') = true := by simp [Value.oneCell']
theorem set_turned (w : World) (b : Nat) (cs : Array Value) : Turned (fun k => k = b) w (w.setRow b cs) := ⟨rfl, rfl, rfl, by simp, fun k _ hk => setRow_other w b k cs hk⟩
structure OwnM (w : World) (B : Nat) (m : M) (A : Option Addr) (c : Nat) (A' : Option Addr) (c' : Nat) : Prop where
  num : ∀ r ∈ nums, InInt (m.num r)
  es : OwnE w B w.heap.size A c m.es
  d : OwnsB 5 w B A' c' m.d
  one : (A = none ∧ c = 0) ∨ (A' = none ∧ c' = 0)
  few : m.es.length ≤ 50000
theorem M0_num : ∀ r ∈ nums, InInt (M0.num r) := by
  intro r hr
  simp only [nums, List.mem_cons, List.not_mem_nil, or_false] at hr
  rcases hr with rfl | rfl | rfl | rfl | rfl | rfl | rfl | rfl | rfl | rfl | rfl | rfl | rfl | rfl <;> exact ⟨by decide, by decide⟩
theorem OwnM.zero (w : World) (B : Nat) : OwnM w B M0 none 0 none 0 := ⟨M0_num, OwnE.nil _ _ _, OwnsB.nil _ _ _, .inl ⟨rfl, rfl⟩, Nat.zero_le _⟩
theorem rdF_num (m : M) (s : Pk.St) (r : Nat) (hr : r ∈ nums) : rdF m s r = some (m.set r (Pk.rdInt s).1, (Pk.rdInt s).2) := by
  have : r ≠ 111 ∧ r ≠ 101 ∧ r ≠ 100 := by
    simp only [nums, List.mem_cons, List.not_mem_nil, or_false] at hr
    omega
  unfold rdF; rw [if_neg this.1, if_neg this.2.1, if_neg this.2.2]
theorem dec_some {l : List Nat} {m m1 : M} {s s1 : Pk.St} (h : head3 l = (m, s)) (hb : s.bad = false) (hk : m.isKind = true) (hr : rdFs (tab m.kind) m s = some (m1, s1)) (ho : over s1 = true) : dec l = (m1, 0) := by
  unfold dec body; rw [h, if_neg (by simp [hb]), if_neg (by simp [hk]), hr]; simp [ho]
end Go.Proofs.Ytkmbkihfdilmbaa.Ms
namespace Go.Proofs.Ytkmbkihfdilmbaa.Ms
open Rl (En)
open Pk (St rdInt rdBlob)
set_option maxRecDepth 100000
set_option linter.unusedVariables false
end Go.Proofs.Ytkmbkihfdilmbaa.Ms
namespace Go.Proofs.Ytkmbkihfdilmbaa.Ms
open Go.RowKit
set_option maxRecDepth 100000
set_option linter.unusedVariables false
attribute [local go_sem ↓] loadAt_msg storeAt_msg
theorem OwnM.below {w w' : World} {B : Nat} {m : M} {A A' : Option Addr} {c c' : Nat} (h : OwnM w B m A c A' c') (hb : Below w.heap.size w w') : OwnM w' B m A c A' c' :=
  ⟨h.num, (h.es.below hb).wide (Nat.le_refl _) hb.size, h.d.below hb, h.one, h.few⟩
theorem OwnM.weaken {w : World} {B B' : Nat} {m : M} {A A' : Option Addr} {c c' : Nat} (h : OwnM w B m A c A' c') (hB : B' ≤ B) : OwnM w B' m A c A' c' :=
  ⟨h.num, h.es.wide hB (Nat.le_refl _), h.d.weaken hB, h.one, h.few⟩
theorem OwnM.turned {w w' : World} {B b : Nat} {m : M} {A A' : Option Addr} {c c' : Nat} (h : OwnM w B m A c A' c') (ht : Turned (fun k => k = b) w w') (hb : b < B) : OwnM w' B m A c A' c' :=
  ⟨h.num, (h.es.keep ht (fun k hk hB => by have := hB.1; omega)).wide (Nat.le_refl _) ht.size, h.d.turned ht (fun k hk e => by have := h.d.blkLt k hk; omega), h.one, h.few⟩
theorem get_long {b : List Nat} {p : List Nat} {n : Nat} (h : Fr.get b = (p, n, 0)) (hn : n < b.length) : get b = (M0, 2) := by
  unfold get; rw [h, if_neg (by simp), if_pos hn]
theorem get_ok {b : List Nat} {p : List Nat} {n : Nat} {m : M} (h : Fr.get b = (p, n, 0)) (hn : ¬ n < b.length) (hd : dec p = (m, 0)) (he : check m = 0) : get b = (m, 0) := by
  unfold get checked; rw [h, if_neg (by simp), if_neg hn, hd, if_neg (by simp), if_neg (by simp [he])]
end Go.Proofs.Ytkmbkihfdilmbaa.Ms
namespace Go.Proofs.Ytkmbkihfdilmbaa
open Go.RowKit
end Go.Proofs.Ytkmbkihfdilmbaa
namespace Go.Proofs.Ytkmbkihfdilmbaa
open Go.RowKit
def deadE (_ : El) : El := ⟨⟨-77, 0, []⟩, none, 0⟩
structure BytesE (w : World) (F : Nat → Prop) (L : List El) : Prop where
  own : ∀ q ∈ L, OwnsB 5 w 0 q.A q.c q.e.d ∧ ∀ k, blk q.A = some k → F k
  apart : Apart (L.map fun q => blk q.A)
theorem BytesE.keep {w w' : World} {F S : Nat → Prop} {L : List El} (h : BytesE w F L) (ht : Turned S w w') (hd : ∀ q ∈ L, ∀ k, blk q.A = some k → ¬ S k) : BytesE w' F L :=
  ⟨fun q hq => ⟨(h.own q hq).1.turned ht (hd q hq), (h.own q hq).2⟩, h.apart⟩
def halfE (L : List El) (k : Nat) : List El := (L.take k).map deadE ++ L.drop k
structure SpToE (w wr : World) (F : Nat → Prop) (A : Option Addr) (c : Nat) (L : List El) (k : Nat) : Prop where
  row : RowIn cellsE 3 64 wr F A c (halfE L k)
  byt : BytesE wr F (L.drop k)
  tur : Turned F w wr
end Go.Proofs.Ytkmbkihfdilmbaa
namespace Go.Proofs.Ytkmbkihfdilmbaa.Ms
open Go.RowKit
set_option maxRecDepth 100000
set_option linter.unusedVariables false
attribute [local go_sem ↓] loadAt_msg storeAt_msg
end Go.Proofs.Ytkmbkihfdilmbaa.Ms
namespace Go.Proofs.Ytkmbkihfdilmbaa.Im
open Go.RowKit
set_option maxRecDepth 100000
section
variable {P : Program} {α : Type} {f : α → List Value} {size bytes : Nat} {e : TypeId} {w : World} {F : Nat → Prop} {A : Option Addr} {c : Nat} {L : List α}
theorem IsRow.news {B : Nat} {ad : Addr} {M : List α} (hf : ∀ x, (f x).length = size) (h : IsRow f size w B (some ad) M) (j : Nat) (u : Value) (hj : (M.flatMap f)[j]? = some u) : w.cell? (ad.add j) = some u := by
  have hl : j < M.length * size := by
    have := (List.getElem?_eq_some_iff.1 hj).1
    rwa [flat_len f size hf] at this
  have hs : 0 < size := by
    rcases Nat.eq_zero_or_pos size with e | e
    · rw [e, Nat.mul_zero] at hl; omega
    · exact e
  have hi : j / size < M.length := Nat.div_lt_of_lt_mul (by rw [Nat.mul_comm]; exact hl)
  have hk : j % size < size := Nat.mod_lt _ hs
  have hjk : j = j / size * size + j % size := by rw [Nat.mul_comm]; exact (Nat.div_add_mod j size).symm
  obtain ⟨b, off, e1, _, hc⟩ := h.at_ (j / size) hi
  injection e1 with e1
  subst e1
  rw [hjk, flat_get f size hf M (j / size) hi (j % size) hk] at hj
  have := hc (j / size) hi (j % size) u hj
  rw [add_off, hjk, ← Nat.add_assoc]
  exact this
end
structure SRows {α : Type} (f : α → List Value) (size : Nat) (w : World) (B b : Nat) (L : List (List α)) : Prop where
  at_ : ∀ i (h : i < L.length), ∃ a k, w.cell? ⟨b, i, none⟩ = some (.slice a L[i].length k) ∧ IsRow f size w B a L[i] ∧ (a = none → k = 0)
theorem RowIn.isRow {α : Type} {f : α → List Value} {size : Nat} {e : TypeId} {w : World} {F : Nat → Prop} {A : Option Addr} {c : Nat} {L : List α} (h : RowIn f size e w F A c L) : IsRow f size w w.heap.size A L := ⟨fun k hk => by
  obtain ⟨g, hA, hg, hF, hc, _⟩ := h.get k hk
  refine ⟨g, 0, hA, hg, fun j hj n v hv => ?_⟩
  obtain ⟨g', hA', _, _, hc', _⟩ := h.get j hj
  obtain rfl : g = g' := by rw [hA] at hA'; injection hA' with e; injection e
  have hn : n < size := by have := (List.getElem?_eq_some_iff.1 hv).1; rwa [h.fits] at this
  rw [Nat.zero_add, hc' n hn]; exact hv⟩
theorem IsRow.sl {α : Type} {f : α → List Value} {size : Nat} {w : World} {B : Nat} {A : Option Addr} {L : List α} (h : IsRow f size w B A L) {c i : Nat} (hc : L.length ≤ c) : IsRow f size w B (if c = i then A else A.map (fun x => x.add (i * size))) (L.drop i) := by
  by_cases hi : L.length ≤ i
  · rw [List.drop_of_length_le hi]; exact IsRow.nil
  · rw [if_neg (by omega)]
    refine ⟨fun k hk => ?_⟩
    rw [List.length_drop] at hk
    obtain ⟨b, off, rfl, hlt, hcs⟩ := h.at_ k (by omega)
    refine ⟨b, off + i * size, by simp [add_off], hlt, fun j hj n v hv => ?_⟩
    rw [List.length_drop] at hj
    rw [List.getElem_drop] at hv
    rw [show off + i * size + j * size = off + (i + j) * size by rw [Nat.add_mul]; omega]
    exact hcs (i + j) (by omega) n v hv
theorem IsRow.from {α : Type} {f : α → List Value} {size : Nat} {w : World} {B b off : Nat} {L : List α} (h : IsRow f size w B (some ⟨b, off, none⟩) L) (i : Nat) : IsRow f size w B (some ⟨b, off + i * size, none⟩) (L.drop i) := ⟨fun k hk => by
  rw [List.length_drop] at hk
  obtain ⟨b', off', e, hlt, hcs⟩ := h.at_ (i + k) (by omega)
  injection e with e
  injection e with e1 e2
  subst e1
  subst e2
  refine ⟨b, off + i * size, rfl, hlt, fun j hj n v hv => ?_⟩
  rw [List.length_drop] at hj
  rw [List.getElem_drop] at hv
  rw [show off + i * size + j * size = off + (i + j) * size by rw [Nat.add_mul]; omega]
  exact hcs (i + j) (by omega) n v hv⟩
theorem IsRow.take {α : Type} {f : α → List Value} {size : Nat} {w : World} {B : Nat} {A : Option Addr} {L : List α} (h : IsRow f size w B A L) (n : Nat) : IsRow f size w B A (L.take n) := ⟨fun k hk => by
  have hk' : k < L.length := by rw [List.length_take] at hk; omega
  obtain ⟨b, off, e, hlt, hc⟩ := h.at_ k hk'
  refine ⟨b, off, e, hlt, fun i hi j v hv => ?_⟩
  have hi' : i < L.length := by rw [List.length_take] at hi; omega
  rw [List.getElem_take] at hv
  exact hc i hi' j v hv⟩
end Go.Proofs.Ytkmbkihfdilmbaa.Im
namespace Go.Proofs.Ytkmbkihfdilmbaa.Vo
open Go Go.RowKit
open Rl (En Lg)
open Ms (M)
open Im (ldX stX IsRow)
set_option maxRecDepth 100000
set_option linter.unusedVariables false
attribute [local go_sem ↓] loadAt_msgV storeAt_msgV
end Go.Proofs.Ytkmbkihfdilmbaa.Vo
namespace Go.Proofs.Ytkmbkihfdilmbaa.I
open Go.RowKit
theorem ints_snoc (l : List Int) (k : Nat) (h : k < l.length) : ints (l.take k) ++ [Value.int .i64 l[k]] = ints (l.take (k + 1)) := by
  unfold ints; rw [List.take_succ_eq_append_getElem h, List.map_append]; rfl
set_option maxHeartbeats 400000 in
theorem copy_any (B : Nat) (A : Option Addr) (c : Nat) (l : List Int) (hl : l.length ≤ 17592186044000) (w : World) (h : IsInts w B A l) (hB : B ≤ w.heap.size) :
    Calls Try.prog 61 #[.slice A l.length c] w fun e w' => ∃ A' c', e = .returned (.slice A' l.length c') ∧ OwnsI 3 w' w.heap.size A' c' l ∧ Below w.heap.size w w' := by
  obtain ⟨i0, hi, hz0, hz1, hz2⟩ := info_parts info_int
  go_enter Try.func61, Try.ntmps61
  go_wp2
  go_loopw [3, 4] (fun v i wr => ∃ k : Nat, k ≤ l.length ∧ i = .int .i64 k ∧ wr.ownsRow w.heap.size 3 1 v k (ints (l.take k)) ∧ Below w.heap.size w wr) (fun _ i _ => l.length - (RowKit.intOf i).toNat)
  case atStart => exact ⟨0, by omega, rfl, World.ownsRow_nil _ _ _ _, Below.refl _ _⟩
  case round =>
    obtain ⟨k, hk, rfl, hown, hbel⟩ := hrel
    by_cases hlt : k < l.length
    · have h1 := (h.below (hbel.mono hB))
      obtain ⟨b, off, rfl, _, hc⟩ := h1.cells k hlt
      have hck := hc k hlt
      clear hc
      go_wp2_with (at_builtin; refine wpList_append_own _ rfl _ _ 22 rfl w.heap.size 3 i0 (.int .i64 0) 1 8 Try.underlying22 hi hz0 hz1 hz2 rfl (by decide) _ _ _ rfl (hown.alloc _) ⟨wr.heap.size, 0, none⟩ 1 1 [.int .i64 l[k]] rfl rfl ?c1 ?c2 ?c3 ?c4 ?c5 ?_)
      case c1 =>
        intro j u hj
        match j, hj with
        | 0, hj => simp at hj; subst hj; simp [Addr.add]
      case c2 => intro u hu; simp at hu; subst hu; rfl
      case c3 => unfold maxLen; omega
      case c4 => omega
      case c5 => have := hbel.size; simp; omega
      intro v' w1 hown' hgrow _
      rw [ints_snoc l k hlt] at hown'
      have hb1 : Below w.heap.size w w1 := (hbel.alloc hbel.size _).grown hgrow (by have := hbel.size; simp; omega) (fun g hg => (hown.lt g hg).1)
      clear hgrow hown hbel hck
      go_wp2
      go_roundw
      case rel => exact ⟨k + 1, by omega, by go_num, hown', hb1⟩
      case measure => simp [RowKit.intOf]; omega
    · obtain rfl : k = l.length := by omega
      rw [List.take_length] at hown
      obtain ⟨A', c', rfl⟩ := own_slice hown
      go_wp2
      go_ret
      exact ⟨A', c', rfl, ⟨h.small, hown⟩, hbel⟩
end Go.Proofs.Ytkmbkihfdilmbaa.I
namespace Go.Proofs.Ytkmbkihfdilmbaa
open Go.RowKit
end Go.Proofs.Ytkmbkihfdilmbaa
namespace Go.Proofs.Ytkmbkihfdilmbaa
open Go.RowKit
end Go.Proofs.Ytkmbkihfdilmbaa
namespace Go.Proofs.Ytkmbkihfdilmbaa
open Go.RowKit
set_option maxRecDepth 100000
end Go.Proofs.Ytkmbkihfdilmbaa
namespace Go.Proofs.Ytkmbkihfdilmbaa.Im
open Go.RowKit
open Rl (En Lg)
open Qu (Cf)
set_option maxRecDepth 100000
set_option linter.unusedVariables false
class Lo where
  n : Nat
set_option linter.unusedSectionVars false
variable [Lo]
namespace Kq
variable {B B' : Nat} {a b c : World}
end Kq
namespace Ro
variable {w w' : World} {G g : Nat} {s : Pk.St}
end Ro
namespace Rt
variable {w w' : World} {G g : Nat} {s : Pk.St}
end Rt
end Go.Proofs.Ytkmbkihfdilmbaa.Im
namespace Go.Proofs.Ytkmbkihfdilmbaa.Im
open Go.RowKit
open Rl (En Lg)
open Qu (Cf)
set_option linter.unusedSectionVars false
variable [Lo]
set_option maxRecDepth 100000
set_option linter.unusedVariables false
attribute [local go_sem ↓] loadAt_hard storeAt_hard
namespace Sp
variable {w W W' : World} {G g R : Nat} {cs : Array Value} {t : TypeId} {s s' : Pk.St}
end Sp
end Go.Proofs.Ytkmbkihfdilmbaa.Im
namespace Go.Proofs.Ytkmbkihfdilmbaa.Im
open Go.RowKit
open Rl (En Lg)
open Qu (Cf)
set_option linter.unusedSectionVars false
variable [Lo]
set_option maxRecDepth 100000
set_option linter.unusedVariables false
theorem storeAt_entry (a v : Value) : Instr.storeAt 64 a v = stX 64 a v := rfl
theorem storeAt_conf (a v : Value) : Instr.storeAt 37 a v = stX 37 a v := rfl
attribute [local go_sem ↓] storeAt_entry storeAt_conf
section
variable {w W : World} {G g R : Nat} {cs : Array Value} {t : TypeId} {S0 S1 : Pk.St}
end
end Go.Proofs.Ytkmbkihfdilmbaa.Im
namespace Go.Proofs.Ytkmbkihfdilmbaa.Im
open Go.RowKit
open Rl (En Lg)
open Qu (Cf)
set_option linter.unusedSectionVars false
variable [Lo]
set_option maxRecDepth 100000
set_option linter.unusedVariables false
attribute [local go_sem ↓] storeAt_conf
end Go.Proofs.Ytkmbkihfdilmbaa.Im
namespace Go.Proofs.Ytkmbkihfdilmbaa.Im
open Go.RowKit
open Rl (En Lg)
open Qu (Cf)
set_option linter.unusedSectionVars false
variable [Lo]
set_option maxRecDepth 100000
set_option linter.unusedVariables false
section
variable {α : Type} {f : α → List Value} {size : Nat} {e : TypeId} {W W' : World} {F : Nat → Prop} {A : Option Addr} {c : Nat} {L : List α} {G g n : Nat} {s : Pk.St}
end
end Go.Proofs.Ytkmbkihfdilmbaa.Im
namespace Go.Proofs.Ytkmbkihfdilmbaa.Im
open Go.RowKit
open Rl (En Lg)
open Qu (Cf)
set_option linter.unusedSectionVars false
variable [Lo]
set_option maxRecDepth 100000
set_option linter.unusedVariables false
end Go.Proofs.Ytkmbkihfdilmbaa.Im
namespace Go.Proofs.Ytkmbkihfdilmbaa.Im
open Go.RowKit
open Rl (En Lg)
open Qu (Cf)
set_option linter.unusedSectionVars false
variable [Lo]
set_option maxRecDepth 100000
set_option linter.unusedVariables false
theorem storeAt_log (a v : Value) : Instr.storeAt 25 a v = stX 25 a v := rfl
attribute [local go_sem ↓] storeAt_log
end Go.Proofs.Ytkmbkihfdilmbaa.Im
namespace Go.Proofs.Ytkmbkihfdilmbaa
open Go
def AllFrom {α : Type} (p : Nat → α → Prop) : Nat → List α → Prop
  | _, [] => True
  | n, x :: xs => p n x ∧ AllFrom p (n + 1) xs
theorem AllFrom.get {α : Type} {p : Nat → α → Prop} : ∀ {n : Nat} {l : List α}, AllFrom p n l → ∀ (i : Nat) (x : α), l[i]? = some x → p (n + i) x
  | _, [], _, i, x, h => by simp at h
  | n, y :: ys, ⟨h0, h1⟩, i, x, h => by
    rcases i with _ | i
    · simp at h; subst h; exact h0
    · simp at h
      have := AllFrom.get h1 i x h
      rwa [show n + 1 + i = n + (i + 1) by omega] at this
end Go.Proofs.Ytkmbkihfdilmbaa
namespace Go.Proofs.Ytkmbkihfdilmbaa.Im
open Go Go.RowKit
open Rl (En Lg)
open Qu (Cf)
set_option linter.unusedSectionVars false
variable [Lo]
set_option maxRecDepth 100000
set_option linter.unusedVariables false
inductive Cl where
  | g | ld | num (k : Nat) | log | conf | blob | vote | agg
deriving DecidableEq
structure Pl where
  pt : Pt
  a : Ad
  m0 : Nat
  m1 : Nat
  m2 : Nat
  m3 : Nat
structure Cx where
  G : Nat
  g : Nat
  R : Nat
  w0 : World
  K : Nat
  nc : Nat
  V : Nat → Int
  s : Nat → Pk.St
  vt : Vt
  T : TypeId
  sz : Nat
  fin : Pt → Ad → List Value
def callNo (K : Nat) : Cl → Option Nat
  | .num k => some k
  | .log => some K
  | .conf => some (K + 1)
  | .blob => some (K + 2)
  | .vote => some (K + 3)
  | _ => none
structure Sh where
  n : Nat
  nt : Nat
  cls : List Cl
def Sh.c (S : Sh) (j : Nat) : Cl := (S.cls[j]?).getD .g
structure Sh.Ok (C : Cx) (S : Sh) : Prop where
  nt : S.n + 2 ≤ S.nt
  pos : 0 < S.n
  uniq : ∀ i j k, i + 1 < S.n → j + 1 < S.n → callNo C.K (S.c i) = some k → callNo C.K (S.c j) = some k → i = j
section
variable {C : Cx} {S : Sh} {X X' : Pl} {p p' : Nat} {listed : Array Bool} {a : Act} {w w' : World}
end
section
variable {C : Cx} {S : Sh} {listed : Array Bool} {a : Act} {w : World} {ops : Array Oper} {Q : Exit → Act → World → Prop}
end
end Go.Proofs.Ytkmbkihfdilmbaa.Im
namespace Go.Proofs.Ytkmbkihfdilmbaa.Im
open Go Go.RowKit
open Rl (En Lg)
open Qu (Cf)
set_option linter.unusedSectionVars false
variable [Lo]
set_option maxRecDepth 100000
set_option linter.unusedVariables false
theorem ownsI_room {e : TypeId} {w : World} {base c : Nat} {A : Option Addr} {l : List Int} (h : OwnsI e w base A c l) : Room l.length c A := by
  rcases h.row.2 with ⟨hv, h0⟩ | ⟨g, cap, cur, hv, _, _, h1, h2, _, _⟩
  · injection hv with e1 e2 e3
    refine ⟨⟨by omega, by unfold maxLen; omega⟩, fun _ => e3⟩
  · have h3 : c = cap := by injection hv
    refine ⟨⟨by omega, by omega⟩, fun e => ?_⟩
    rw [e] at hv; injection hv with h4; cases h4
theorem ownsB_room {e : TypeId} {w : World} {base c : Nat} {A : Option Addr} {l : List Nat} (h : OwnsB e w base A c l) : Room l.length c A := ⟨h.room, h.none_⟩
structure Kp (P : TypeId → Prop) (w w' : World) : Prop where
  os : w'.os = w.os
  tape : w'.tape = w.tape
  output : w'.output = w.output
  size : w.heap.size ≤ w'.heap.size
  keep : ∀ (k : Nat) (cs : Array Value) (t : TypeId) (fr : Nat × Nat), w.heap[k]? = some (.cells cs t fr) → P t → w'.heap[k]? = some (.cells cs t fr)
namespace Kp
variable {P : TypeId → Prop} {w w' : World}
theorem ofGrown {g : Nat} {cs : Array Value} {t : TypeId} {fr : Nat × Nat} (hg : w.heap[g]? = some (.cells cs t fr)) (ht : ¬ P t) (h : w.grownBy w' (some g)) : Kp P w w' :=
  ⟨h.os, h.tape, h.output, h.size, fun k cs' t' fr' h1 h2 => (h.block k (row_lt h1) (fun e => by
    injection e with e
    subst e
    rw [h1] at hg
    have := (Obj.cells.inj (Option.some.inj hg)).2.1
    exact ht (this ▸ h2))).trans h1⟩
theorem ofBelow (h : Below w.heap.size w w') : Kp P w w' := ⟨h.os, h.tape, h.output, h.size, fun k cs t fr h1 _ => (h.block k (row_lt h1)).trans h1⟩
theorem row (h : Kp P w w') {base n size : Nat} {e : TypeId} {v : Value} {xs : List Value} (hr : w.ownsRow base e size v n xs) (h1 : P e) : w'.ownsRow base e size v n xs := by
  refine ⟨hr.1, ?_⟩
  rcases hr.2 with h0 | ⟨g, cap, cur, q1, q2, q3, q4⟩
  · exact .inl h0
  · exact .inr ⟨g, cap, cur, q1, q2, h.keep g _ _ _ q3 h1, q4⟩
theorem ownB (h : Kp P w w') (hP : P 5) {base c : Nat} {A : Option Addr} {l : List Nat} (ho : OwnsB 5 w base A c l) : OwnsB 5 w' base A c l := ⟨ho.small, h.row ho.row hP⟩
theorem ownI (h : Kp P w w') (hP : P 3) {base c : Nat} {A : Option Addr} {l : List Int} (ho : OwnsI 3 w base A c l) : OwnsI 3 w' base A c l := ⟨ho.small, h.row ho.row hP⟩
theorem rowIn {α : Type} {f : α → List Value} {size : Nat} {e : TypeId} {F : Nat → Prop} {A : Option Addr} {c : Nat} {L : List α} (h : Kp P w w') (hP : P e) (hr : RowIn f size e w F A c L) : RowIn f size e w' F A c L := ⟨hr.fits, h.row hr.row hP, hr.blk⟩
theorem ownE (h : Kp P w w') (hE : P 64) (hB : P 5) {B N c : Nat} {A : Option Addr} {L : List En} (ho : OwnE w B N A c L) : OwnE w' B N A c L := by
  obtain ⟨M, h1, h2⟩ := ho
  exact ⟨M, h1, h.rowIn hE h2.row, fun q hq => ⟨h.ownB hB (h2.own q hq).1, (h2.own q hq).2⟩, h2.apart, h2.num⟩
end Kp
def Parts (t : TypeId) : Prop := t = 64 ∨ t = 5 ∨ t = 3
def OwnPt (w : World) (B N : Nat) (p : Pt) (a : Ad) : Prop := ∃ m0 m1 m2 m3, (B ≤ m0 ∧ m0 ≤ m1 ∧ m1 ≤ m2 ∧ m2 ≤ m3 ∧ m3 ≤ N) ∧ OwnE w B m0 a.e a.ce p.log.es ∧ (OwnsI 3 w m0 a.o a.co p.cf.old ∧ ∀ k, blk a.o = some k → k < m1) ∧ (OwnsI 3 w m1 a.n a.cn p.cf.new ∧ ∀ k, blk a.n = some k → k < m2) ∧ (OwnsI 3 w m2 a.l a.cl p.cf.lrn ∧ ∀ k, blk a.l = some k → k < m3) ∧ (OwnsB 5 w m3 a.s a.cs p.sn ∧ ∀ k, blk a.s = some k → k < N) ∧ InInt p.log.base ∧ InInt p.log.term
theorem ownsI_turned {e : TypeId} {w w' : World} {S : Nat → Prop} {base c : Nat} {A : Option Addr} {l : List Int} (h : OwnsI e w base A c l) (ht : Turned S w w') (hd : ∀ k, blk A = some k → ¬ S k) : OwnsI e w' base A c l :=
  ⟨h.small, ownsRow_turned h.row ht (fun k hk => hd k (by rw [← ownBlock_slice A l.length c]; exact hk))⟩
theorem isBytes_lower {w : World} {B : Nat} {A : Option Addr} {l : List Nat} {B' : Nat} (h : IsBytes w B A l) (hb : ∀ k, blk A = some k → k < B') : IsBytes w B' A l := by
  refine ⟨h.small, fun k hk => ?_⟩
  obtain ⟨b, off, e, _, hc⟩ := h.cells k hk
  exact ⟨b, off, e, hb b (by rw [e]; rfl), hc⟩
theorem isInts_lower {w : World} {B : Nat} {A : Option Addr} {l : List Int} {B' : Nat} (h : IsInts w B A l) (hb : ∀ k, blk A = some k → k < B') : IsInts w B' A l := by
  refine ⟨h.small, fun k hk => ?_⟩
  obtain ⟨b, off, e, _, hc⟩ := h.cells k hk
  exact ⟨b, off, e, hb b (by rw [e]; rfl), hc⟩
namespace OwnPt
variable {w w' : World} {B B' N N' : Nat} {p : Pt} {a : Ad}
theorem kp (h : OwnPt w B N p a) (hk : Kp Parts w w') : OwnPt w' B N p a := by
  obtain ⟨m0, m1, m2, m3, hm, h1, h2, h3, h4, h5, h6⟩ := h
  exact ⟨m0, m1, m2, m3, hm, hk.ownE (.inl rfl) (.inr (.inl rfl)) h1, ⟨hk.ownI (.inr (.inr rfl)) h2.1, h2.2⟩, ⟨hk.ownI (.inr (.inr rfl)) h3.1, h3.2⟩, ⟨hk.ownI (.inr (.inr rfl)) h4.1, h4.2⟩, ⟨hk.ownB (.inr (.inl rfl)) h5.1, h5.2⟩, h6⟩
theorem wide (h : OwnPt w B N p a) (hB : B' ≤ B) (hN : N ≤ N') : OwnPt w B' N' p a := by
  obtain ⟨m0, m1, m2, m3, ⟨c0, c1, c2, c3, c4⟩, h1, h2, h3, h4, h5, h6⟩ := h
  exact ⟨m0, m1, m2, m3, ⟨by omega, c1, c2, c3, by omega⟩, h1.wide hB (Nat.le_refl _), h2, h3, h4, ⟨h5.1, fun k hk => by have := h5.2 k hk; omega⟩, h6⟩
theorem keep {S : Nat → Prop} (h : OwnPt w B N p a) (ht : Turned S w w') (hs : ∀ k, S k → ¬ Bl B N k) : OwnPt w' B N p a := by
  obtain ⟨m0, m1, m2, m3, ⟨c0, c1, c2, c3, c4⟩, h1, h2, h3, h4, h5, h6⟩ := h
  have kB : ∀ {lo hi : Nat} {A : Option Addr}, B ≤ lo → hi ≤ N → (∀ k, blk A = some k → lo ≤ k) → (∀ k, blk A = some k → k < hi) → ∀ k, blk A = some k → ¬ S k := fun h1 h2 h3 h4 k hk hS => hs k hS ⟨by have := h3 k hk; omega, by have := h4 k hk; omega⟩
  refine ⟨m0, m1, m2, m3, ⟨c0, c1, c2, c3, c4⟩, h1.keep ht (fun k hk hb => hs k hk ⟨hb.1, by have := hb.2; omega⟩), ⟨ownsI_turned h2.1 ht (kB (lo := m0) (hi := m1) c0 (by omega) (fun k hk => (h2.1.blkLt k hk).1) h2.2), h2.2⟩, ⟨ownsI_turned h3.1 ht (kB (lo := m1) (hi := m2) (by omega) (by omega) (fun k hk => (h3.1.blkLt k hk).1) h3.2), h3.2⟩, ⟨ownsI_turned h4.1 ht (kB (lo := m2) (hi := m3) (by omega) (by omega) (fun k hk => (h4.1.blkLt k hk).1) h4.2), h4.2⟩, ⟨h5.1.turned ht (kB (lo := m3) (hi := N) (by omega) (by omega) (fun k hk => (h5.1.blkLt k hk).1) h5.2), h5.2⟩, h6⟩
theorem below (h : OwnPt w B N p a) (hb : Below N w w') : OwnPt w' B N p a :=
  h.keep (S := fun k => N ≤ k) ⟨hb.os, hb.tape, hb.output, hb.size, fun k _ hn => hb.block k (by omega)⟩ (fun k hk hB => by have := hB.2; omega)
theorem reads (h : OwnPt w B N p a) : IsPt w N p a := by
  obtain ⟨m0, m1, m2, m3, ⟨c0, c1, c2, c3, c4⟩, h1, h2, h3, h4, h5, h6⟩ := h
  exact ⟨h1.reads.more (by omega), isInts_lower h2.1.reads (fun k hk => by have := h2.2 k hk; omega), isInts_lower h3.1.reads (fun k hk => by have := h3.2 k hk; omega), isInts_lower h4.1.reads (fun k hk => by have := h4.2 k hk; omega), isBytes_lower h5.1.reads h5.2, ⟨h1.room, h1.none_⟩, ownsI_room h2.1, ownsI_room h3.1, ownsI_room h4.1, ownsB_room h5.1, h6⟩
end OwnPt
end Go.Proofs.Ytkmbkihfdilmbaa.Im
namespace Go.Proofs.Ytkmbkihfdilmbaa.Im
open Go Go.RowKit
open Rl (En Lg)
open Qu (Cf)
set_option linter.unusedSectionVars false
variable [Lo]
set_option maxRecDepth 100000
set_option linter.unusedVariables false
attribute [local go_sem ↓] loadAt_hard storeAt_hard
end Go.Proofs.Ytkmbkihfdilmbaa.Im
namespace Go.Proofs.Ytkmbkihfdilmbaa.Im
open Go.RowKit
open Rl (En Lg)
open Qu (Cf)
set_option linter.unusedSectionVars false
variable [Lo]
set_option maxRecDepth 100000
set_option linter.unusedVariables false
def OwnPts (w : World) : Nat → Nat → List (Pt × Ad) → Prop
  | B, N, [] => B ≤ N
  | B, N, q :: l => ∃ m, B ≤ m ∧ OwnPt w B m q.1 q.2 ∧ OwnPts w m N l
theorem OwnPt.le {w : World} {B N : Nat} {p : Pt} {a : Ad} (h : OwnPt w B N p a) : B ≤ N := by
  obtain ⟨m0, m1, m2, m3, ⟨c0, c1, c2, c3, c4⟩, _⟩ := h; omega
namespace OwnPts
variable {w w' : World}
theorem le : ∀ {l : List (Pt × Ad)} {B N : Nat}, OwnPts w B N l → B ≤ N
  | [], _, _, h => h
  | q :: l, _, _, ⟨m, h1, _, h3⟩ => Nat.le_trans h1 (le h3)
theorem kp (hk : Kp Parts w w') : ∀ {l : List (Pt × Ad)} {B N : Nat}, OwnPts w B N l → OwnPts w' B N l
  | [], _, _, h => h
  | q :: l, _, _, ⟨m, h1, h2, h3⟩ => ⟨m, h1, h2.kp hk, kp hk h3⟩
theorem keep {S : Nat → Prop} (ht : Turned S w w') : ∀ {l : List (Pt × Ad)} {B N : Nat}, OwnPts w B N l → (∀ k, S k → ¬ Bl B N k) → OwnPts w' B N l
  | [], _, _, h, _ => h
  | q :: l, _, _, ⟨m, h1, h2, h3⟩, hs => ⟨m, h1, h2.keep ht (fun k hk hB => hs k hk ⟨hB.1, by have := hB.2; have := le h3; omega⟩), keep ht h3 (fun k hk hB => hs k hk ⟨by have := hB.1; omega, hB.2⟩)⟩
theorem wide {l : List (Pt × Ad)} : ∀ {B N B' N' : Nat}, OwnPts w B N l → B' ≤ B → N ≤ N' → OwnPts w B' N' l := by
  induction l with
  | nil => intro B N B' N' h h1 h2; exact Nat.le_trans h1 (Nat.le_trans h h2)
  | cons q l ih => rintro B N B' N' ⟨m, h1, h2, h3⟩ hB hN; exact ⟨m, Nat.le_trans hB h1, h2.wide hB (Nat.le_refl _), ih h3 (Nat.le_refl _) hN⟩
theorem mem {q : Pt × Ad} : ∀ {l : List (Pt × Ad)} {B N : Nat}, OwnPts w B N l → q ∈ l → OwnPt w B N q.1 q.2
  | p :: l, _, _, ⟨m, h1, h2, h3⟩, hq => by
    rcases List.mem_cons.1 hq with rfl | hq
    · exact h2.wide (Nat.le_refl _) (le h3)
    · exact (mem h3 hq).wide h1 (Nat.le_refl _)
end OwnPts
theorem OwnPts.keep_ {w w' : World} {B N : Nat} {l : List (Pt × Ad)} {S : Nat → Prop} (h : OwnPts w B N l) (ht : Turned S w w') (hs : ∀ k, S k → ¬ Bl B N k) : OwnPts w' B N l := OwnPts.keep ht h hs
theorem cellsH_fits (q : Hq) : (cellsH q).length = 10 := rfl
structure OwnHs (w : World) (B N : Nat) (A : Option Addr) (c : Nat) (M : List Hq) : Prop where
  row : RowIn cellsH 10 52 w (Bl B N) A c M
  pts : OwnPts w B N (M.map fun q => (q.h.p, q.a))
  num : ∀ q ∈ M, InInt q.h.g ∧ InInt q.h.t ∧ InInt q.h.v
namespace OwnHs
variable {w w' : World} {B B' N N' : Nat} {A : Option Addr} {c : Nat} {M : List Hq}
theorem nil (w : World) {B N : Nat} (h : B ≤ N) : OwnHs w B N none 0 [] := ⟨RowIn.nil cellsH_fits _ _ _, h, fun q hq => by cases hq⟩
theorem keep {S : Nat → Prop} (h : OwnHs w B N A c M) (ht : Turned S w w') (hs : ∀ k, S k → ¬ Bl B N k) : OwnHs w' B N A c M := ⟨h.row.keep ht (fun k hk hS => hs k hS (h.row.blk k hk)), h.pts.keep_ ht hs, h.num⟩
theorem below (h : OwnHs w B N A c M) (hb : Below N w w') : OwnHs w' B N A c M :=
  h.keep (S := fun k => N ≤ k) ⟨hb.os, hb.tape, hb.output, hb.size, fun k _ hn => hb.block k (by omega)⟩ (fun k hk hB => by have := hB.2; omega)
theorem wide (h : OwnHs w B N A c M) (hB : B' ≤ B) (hN : N ≤ N') : OwnHs w B' N' A c M := ⟨h.row.mono (fun k hk => ⟨Nat.le_trans hB (h.row.blk k hk).1, Nat.lt_of_lt_of_le (h.row.blk k hk).2 hN⟩), h.pts.wide hB hN, h.num⟩
theorem reads (h : OwnHs w B N A c M) : IsHds w N A M := by
  refine ⟨⟨fun k hk => ?_⟩, fun q hq => ?_, h.num⟩
  · obtain ⟨g, hA, hg, hF, hc, _⟩ := h.row.get k hk
    refine ⟨g, 0, hA, hF.2, fun i hi j v hv => ?_⟩
    obtain ⟨g', hA', _, _, hc', _⟩ := h.row.get i hi
    obtain rfl : g = g' := by rw [hA] at hA'; injection hA' with e; injection e
    have hj : j < 10 := (List.getElem?_eq_some_iff.1 hv).1
    rw [Nat.zero_add, hc' j hj]; exact hv
  · exact (OwnPts.mem h.pts (List.mem_map.2 ⟨q, hq, rfl⟩)).reads
end OwnHs
end Go.Proofs.Ytkmbkihfdilmbaa.Im
namespace Go.Proofs.Ytkmbkihfdilmbaa.Im
open Go Go.RowKit
open Rl (En Lg)
open Qu (Cf)
set_option linter.unusedSectionVars false
variable [Lo]
set_option maxRecDepth 100000
set_option linter.unusedVariables false
attribute [local go_sem ↓] loadAt_hard storeAt_hard
end Go.Proofs.Ytkmbkihfdilmbaa.Im
namespace Go.Proofs.Ytkmbkihfdilmbaa.Im
open Go.RowKit
open Rl (En Lg)
open Qu (Cf)
set_option linter.unusedSectionVars false
variable [Lo]
set_option maxRecDepth 100000
set_option linter.unusedVariables false
namespace OwnCs
variable {w w' : World} {B B' N N' : Nat} {A : Option Addr} {c : Nat} {M : List Cq}
end OwnCs
end Go.Proofs.Ytkmbkihfdilmbaa.Im
namespace Go.Proofs.Ytkmbkihfdilmbaa.Im
open Go.RowKit
open Rl (En Lg)
open Qu (Cf)
set_option linter.unusedSectionVars false
variable [Lo]
set_option maxRecDepth 100000
set_option linter.unusedVariables false
structure Ia where
  h : Option Addr
  ch : Nat
  v : Option Addr
  cv : Nat
namespace OwnIm
variable {w w' : World} {B B' N N' : Nat} {i : Ia} {Q : List Hq} {L : List Vt}
end OwnIm
end Go.Proofs.Ytkmbkihfdilmbaa.Im
namespace Go.Proofs.Ytkmbkihfdilmbaa.Im
open Go Go.RowKit
open Rl (En Lg)
open Qu (Cf)
set_option maxRecDepth 100000
set_option linter.unusedVariables false
attribute [local go_sem ↓] loadAt_hard storeAt_hard loadAt_log1 storeAt_log1 loadAt_conf3 storeAt_conf3
structure FewK (p : Pt) : Prop where
  es : p.log.es.length ≤ 90000
  sh : Short p.cf
theorem ldLogH {w : World} {cs : Array Value} {t : TypeId} {b k : Nat} {v1 v2 v3 : Value} (h : w.heap[b]? = some (.cells cs t (0, 0))) (h1 : cs[k]? = some v1) (h2 : cs[k + 1]? = some v2) (h3 : cs[k + 2]? = some v3) :
    (ldX 25 (.pointer (some ⟨b, k, none⟩))).run Try.prog w = .ok (.agg #[v1, v2, v3]) w :=
  run_loadAt_mid w b k 25 [v1, v2, v3] _ (fun j v hv => by
    rw [row_cell h (k + j)]
    rcases j with _ | _ | _ | j
    · simpa using h1.trans (by simpa using hv)
    · simpa using h2.trans (by simpa using hv)
    · simpa using h3.trans (by simpa using hv)
    · simp at hv) Try.underlying25 rfl (by rw [info_log33]; rfl)
end Go.Proofs.Ytkmbkihfdilmbaa.Im
namespace Go.Proofs.Ytkmbkihfdilmbaa.Im
open Go.RowKit
set_option maxRecDepth 100000
def over (xs : List Value) : Nat → List Value → List Value
  | _, [] => xs
  | o, v :: vs => over (xs.set o v) (o + 1) vs
section
variable {α : Type} {f : α → List Value} {size : Nat} {e : TypeId} {w : World} {F : Nat → Prop} {c g : Nat} {L : List α}
theorem RowIn.there (h : RowIn f size e w F (some ⟨g, 0, none⟩) c L) (i : Nat) (hi : i < L.length) : w.there g (i * size) size := fun j hj => by
  obtain ⟨g', hA, _, _, hc, hf⟩ := h.get i hi
  obtain rfl : g = g' := by injection hA with e; injection e
  refine ⟨?_, hf _⟩
  rw [hc j hj, List.getElem?_eq_getElem (by rw [h.fits]; exact hj)]
  rfl
theorem RowIn.range (h : RowIn f size e w F (some ⟨g, 0, none⟩) c L) (i : Nat) (hi : i < L.length) : w.rangeAt g (i * size) (f L[i]) := fun j v hv => by
  obtain ⟨g', hA, _, _, hc, hf⟩ := h.get i hi
  obtain rfl : g = g' := by injection hA with e; injection e
  have hj : j < size := by have := (List.getElem?_eq_some_iff.1 hv).1; rwa [h.fits] at this
  rw [hc j hj]; exact hv
end
theorem stAt {t : TypeId} {n : Nat} (hi : (Try.prog.info? t).map (·.size) = some n) {w : World} {b o : Nat} (ht : w.there b o n) (cs : Array Value) (hn : cs.size = n) (h1 : cs.all (·.oneCell') = true) : (stX t (.pointer (some ⟨b, o, none⟩)) (.agg cs)).run Try.prog w = .ok () (w.setCells b o cs.toList) :=
  run_storeAt_mid w b o t cs (hn ▸ ht) (by rw [hi, hn]) h1
end Go.Proofs.Ytkmbkihfdilmbaa.Im
namespace Go.Proofs.Ytkmbkihfdilmbaa.Im
open Go.RowKit
set_option maxRecDepth 100000
set_option linter.unusedVariables false
end Go.Proofs.Ytkmbkihfdilmbaa.Im
namespace Go.Proofs.Ytkmbkihfdilmbaa.Im
open Go.RowKit
open Rl (En Lg)
set_option maxRecDepth 100000
set_option linter.unusedVariables false
theorem loadAt_entry1 (a : Value) : Instr.loadAt 64 a = ldX 64 a := rfl
theorem storeAt_entry1 (a v : Value) : Instr.storeAt 64 a v = stX 64 a v := rfl
attribute [local go_sem ↓] loadAt_entry1 storeAt_entry1
end Go.Proofs.Ytkmbkihfdilmbaa.Im
namespace Go.Proofs.Ytkmbkihfdilmbaa.Im
open Go.RowKit
open Rl (En Lg)
set_option maxRecDepth 100000
set_option linter.unusedVariables false
attribute [local go_sem ↓] loadAt_entry1 storeAt_entry1
theorem isEnts_row {w : World} {B : Nat} {A : Option Addr} {L : List En} (h : IsEnts w B A L) : ∃ M : List El, M.map (·.e) = L ∧ Reads w B M ∧ IsRow cellsE 3 w B A M := by
  obtain ⟨M, h1, h2, h3⟩ := h.flat
  refine ⟨M, h1, h2, ⟨fun k hk => ?_⟩⟩
  have hkL : k < L.length := by rw [← h1, List.length_map]; exact hk
  obtain ⟨b, off, e, hb, _⟩ := h.cells k hkL
  refine ⟨b, off, e, hb, fun i hi j v hv => ?_⟩
  have hj : j < 3 := (List.getElem?_eq_some_iff.1 hv).1
  have h4 := h3 ⟨b, off, none⟩ e (i * 3 + j) v (by rw [flat_get cellsE 3 (fun _ => rfl) M i hi j hj]; exact hv)
  rw [add_off, ← Nat.add_assoc] at h4
  exact h4
def Chain {α : Type} (R : Nat → Nat → α → Prop) : Nat → Nat → List α → Prop
  | B, N, [] => B ≤ N
  | B, N, q :: l => ∃ m, B ≤ m ∧ R B m q ∧ Chain R m N l
section
variable {α : Type} {R R' : Nat → Nat → α → Prop}
theorem Chain.le : ∀ {l : List α} {B N : Nat}, Chain R B N l → B ≤ N
  | [], _, _, h => h
  | _ :: _, _, _, ⟨_, h1, _, h3⟩ => Nat.le_trans h1 (Chain.le h3)
theorem Chain.mem {q : α} : ∀ {l : List α} {B N : Nat}, Chain R B N l → q ∈ l → ∃ a b, B ≤ a ∧ b ≤ N ∧ R a b q
  | _ :: _, _, _, ⟨m, h1, h2, h3⟩, hq => by
    rcases List.mem_cons.1 hq with rfl | hq
    · exact ⟨_, m, Nat.le_refl _, Chain.le h3, h2⟩
    · obtain ⟨a, b, q1, q2, q3⟩ := Chain.mem h3 hq
      exact ⟨a, b, by omega, q2, q3⟩
end
def OwnEl (w : World) (B N : Nat) (q : El) : Prop := OwnsB 5 w B q.A q.c q.e.d ∧ ∀ k, blk q.A = some k → k < N
structure EvE (w : World) (lo : Nat) (A : Option Addr) (c : Nat) (M : List El) (k : Nat) (W : World) (M1 : List El) : Prop where
  len : M1.length = k
  row : RowIn cellsE 3 64 W (fun k => w.heap.size ≤ k) A c (M1 ++ M.drop k)
  ch : Chain (OwnEl W) lo W.heap.size M1
  val : M1.map (·.e) = (M.map (·.e)).take k
  bel : Below w.heap.size w W
  lo : w.heap.size ≤ lo
end Go.Proofs.Ytkmbkihfdilmbaa.Im
namespace Go.Proofs.Ytkmbkihfdilmbaa
open Go
set_option maxRecDepth 100000
structure Rc (δ : Type) where
  ops : Array Oper
  nt : Nat
  step : Nat → Option Nat
  val : δ → Nat → Value
  inv : δ → Nat → World → Prop
structure Jc {δ : Type} (C : Rc δ) (a0 : Act) (X : δ) (p : Nat) (listed : Array Bool) (a : Act) (w : World) : Prop where
  size : a.tmps.size = C.nt
  defers : a.defers = a0.defers
  keep : ∀ s : Nat, (∀ (j : Nat) (o : Oper), C.ops[j]? = some o → o.dst ≠ some s) → a.eval (.tmp s) = a0.eval (.tmp s)
  lsize : listed.size = C.ops.size
  clos : ∀ (j : Nat) (o : Oper), C.ops[j]? = some o → listed.getD j false = true → ∀ e ∈ o.after, Region.binds .any e = true → listed.getD e.on false = true
  slots : ∀ (j : Nat) (o : Oper) (d : Nat), C.ops[j]? = some o → o.dst = some d → listed.getD j false = true → a.eval (.tmp d) = C.val X j
  call : ∀ j, j < C.ops.size → ∀ k, C.step j = some k → (listed.getD j false = true ↔ k < p)
  inv : C.inv X p w
structure Rc.Ok {δ : Type} (C : Rc δ) : Prop where
  nt : ∀ (j : Nat) (o : Oper) (d : Nat), C.ops[j]? = some o → o.dst = some d → d < C.nt
  once : ∀ (i j : Nat) (o o' : Oper) (d : Nat), C.ops[i]? = some o → C.ops[j]? = some o' → o.dst = some d → o'.dst = some d → i = j
  uniq : ∀ i j k, i < C.ops.size → j < C.ops.size → C.step i = some k → C.step j = some k → i = j
theorem evput_ne (a : Act) {d : Option Tmp} {t : Nat} (v : Value) (h : d ≠ some t) : (a.put d v).eval (.tmp t) = a.eval (.tmp t) := by
  rcases d with _ | d
  · rfl
  · have : d ≠ t := fun e => h (by rw [e])
    simp [Act.put, Act.eval, Array.getElem?_setIfInBounds_ne this]
theorem evput_self (a : Act) {d : Nat} (v : Value) (h : d < a.tmps.size) : (a.put (some d) v).eval (.tmp d) = v := by
  simp [Act.put, Act.eval, h]
theorem listed_set (l : Array Bool) (j m : Nat) (hj : j < l.size) : (l.setIfInBounds j true).getD m false = if m = j then true else l.getD m false := by
  rw [Array.getD_eq_getD_getElem?, Array.getD_eq_getD_getElem?]
  by_cases e : m = j
  · subst e
    rw [if_pos rfl, Array.getElem?_setIfInBounds_self_of_lt hj]; rfl
  · rw [if_neg e, Array.getElem?_setIfInBounds_ne (by omega)]
theorem listed_no {l : Array Bool} {j : Nat} (h : l.getD j true = false) : l.getD j false = false := by
  rw [Array.getD_eq_getD_getElem?] at h ⊢
  rcases hl : l[j]? with _ | b
  · rfl
  · rw [hl] at h; exact h
section
variable {δ : Type} {C : Rc δ} {a0 a : Act} {X X' : δ} {p p' : Nat} {listed : Array Bool} {w w' : World}
theorem Jc.put (hC : C.Ok) (h : Jc C a0 X p listed a w) (j : Nat) (o : Oper) (hj : C.ops[j]? = some o) (ha : ∀ e ∈ o.after, Region.binds .any e = true → listed.getD e.on false = true) (v : Value) (hinv : C.inv X' p' w')
    (hk : ∀ (m : Nat), m < C.ops.size → listed.getD m false = true → C.val X' m = C.val X m) (hu : listed.getD j true = false) (hv : ∀ d, o.dst = some d → v = C.val X' j)
    (hc : ∀ m, m < C.ops.size → ∀ k, C.step m = some k → ((if m = j then true else listed.getD m false) = true ↔ k < p')) :
    Jc C a0 X' p' (listed.setIfInBounds j true) (a.put o.dst v) w' := by
  have hjs : j < C.ops.size := (Array.getElem?_eq_some_iff.1 hj).1
  have hjl : j < listed.size := by rw [h.lsize]; exact hjs
  refine ⟨?_, ?_, fun s hs => ?_, by simp [h.lsize], fun m om hm hl e he hb => ?_, fun m om d hm hd hl => ?_, fun m hm k hmk => ?_, hinv⟩
  · rcases hd : o.dst with _ | d
    · exact h.size
    · simp [Act.put, h.size]
  · rcases hd : o.dst with _ | d
    · exact h.defers
    · exact h.defers
  · rw [evput_ne a v (hs j o hj)]; exact h.keep s hs
  · rw [listed_set _ _ _ hjl] at hl ⊢
    by_cases e1 : e.on = j
    · rw [if_pos e1]
    · rw [if_neg e1]
      by_cases e2 : m = j
      · subst e2
        rw [hj] at hm
        obtain rfl := Option.some.inj hm
        exact ha e he hb
      · rw [if_neg e2] at hl
        exact h.clos m om hm hl e he hb
  · rw [listed_set _ _ _ hjl] at hl
    by_cases e2 : m = j
    · subst e2
      rw [hj] at hm
      obtain rfl := Option.some.inj hm
      rw [hd, evput_self a v (by rw [h.size]; exact hC.nt m o d hj hd)]
      exact hv d hd
    · rw [if_neg e2] at hl
      rw [evput_ne a v (fun e => e2 (hC.once m j om o d hm hj hd e)), hk m (Array.getElem?_eq_some_iff.1 hm).1 hl]
      exact h.slots m om d hm hd hl
  · rw [listed_set _ _ _ hjl]; exact hc m hm k hmk
theorem Jc.ahead (h : Jc C a0 X p listed a w) {j m k : Nat} {om : Oper} (hm : C.ops[m]? = some om) (hk : C.step m = some k) (hu : listed.getD j true = false) (hw : ∃ e ∈ om.after, Region.binds .any e = true ∧ e.on = j) : p ≤ k := by
  rcases Nat.lt_or_ge k p with h' | h'
  · have hl := (h.call m (Array.getElem?_eq_some_iff.1 hm).1 k hk).2 h'
    obtain ⟨e, he, hb, rfl⟩ := hw
    have := h.clos m om hm hl e he hb
    rw [listed_no hu] at this; cases this
  · exact h'
end
theorem Jc.kept {δ : Type} {C : Rc δ} {a0 a : Act} {X : δ} {p : Nat} {listed : Array Bool} {w : World} (h : Jc C a0 X p listed a w) (s : Nat) (hb : (C.ops.all fun o => decide (o.dst ≠ some s)) = true) : a.eval (.tmp s) = a0.eval (.tmp s) :=
  h.keep s (fun j o hj => by
    have := (Array.all_eq_true_iff_forall_mem.1 hb) o (Array.mem_of_getElem? hj)
    simpa using this)
section
variable {δ : Type} {P : Program} {C : Rc δ} {a0 a : Act} {X : δ} {p : Nat} {listed : Array Bool} {w : World} {Q : Exit → Act → World → Prop}
end
end Go.Proofs.Ytkmbkihfdilmbaa
namespace Go.Proofs.Ytkmbkihfdilmbaa.Im
open Go Go.RowKit
open Rl (En Lg)
open Qu (Cf)
set_option maxRecDepth 100000
set_option linter.unusedVariables false
attribute [local go_sem ↓] loadAt_hard storeAt_hard loadAt_conf3 storeAt_conf3
local instance lo1 : Lo := ⟨0⟩
structure FewP (p : Pt) : Prop where
  es : p.log.es.length ≤ 100000
  d : ∀ e ∈ p.log.es, e.d.length ≤ 1000000000
  o : p.cf.old.length ≤ 100000
  n : p.cf.new.length ≤ 100000
  l : p.cf.lrn.length ≤ 100000
  s : p.sn.length ≤ 1000000000
structure RH (ad : Ad) (x : Hd) (b0 b1 lo hi : Nat) (w0 : World) (A5 : Option Addr) (c5 : Nat) (X : Pl) (p : Nat) (w : World) : Prop where
  bel : Below b0 w0 w
  sz : hi ≤ w.heap.size
  rowL : p ≤ 3 → w.heap[b0]? = some (.cells #[.int .i64 x.g, .int .i64 x.t, .int .i64 x.v, .int .i64 x.p.log.base, .int .i64 x.p.log.term, .slice A5 x.p.log.es.length c5, .slice ad.o x.p.cf.old.length ad.co, .slice ad.n x.p.cf.new.length ad.cn, .slice ad.l x.p.cf.lrn.length ad.cl, .slice ad.s x.p.sn.length ad.cs] 52 (0, 0))
  rowS : 3 < p → w.heap[b0]? = some (.cells #[.int .i64 x.g, .int .i64 x.t, .int .i64 x.v, .int .i64 x.p.log.base, .int .i64 x.p.log.term, .slice A5 x.p.log.es.length c5, .slice X.a.o x.p.cf.old.length X.a.co, .slice X.a.n x.p.cf.new.length X.a.cn, .slice X.a.l x.p.cf.lrn.length X.a.cl, .slice ad.s x.p.sn.length ad.cs] 52 (0, 0))
  res : w.heap[b1]? = some (.cells #[.int .i64 0, .int .i64 0, .int .i64 0, .int .i64 0, .int .i64 0, .slice none 0 0, .slice none 0 0, .slice none 0 0, .slice none 0 0, .slice none 0 0] 52 (0, 0))
  es : OwnE w lo hi A5 c5 x.p.log.es
  o1 : 0 < p → (OwnsI 3 w hi X.a.o X.a.co x.p.cf.old ∧ ∀ k, blk X.a.o = some k → k < X.m1) ∧ hi ≤ X.m1 ∧ X.m1 ≤ w.heap.size
  o2 : 1 < p → (OwnsI 3 w X.m1 X.a.n X.a.cn x.p.cf.new ∧ ∀ k, blk X.a.n = some k → k < X.m2) ∧ X.m1 ≤ X.m2 ∧ X.m2 ≤ w.heap.size
  o3 : 2 < p → (OwnsI 3 w X.m2 X.a.l X.a.cl x.p.cf.lrn ∧ ∀ k, blk X.a.l = some k → k < X.m3) ∧ X.m2 ≤ X.m3 ∧ X.m3 ≤ w.heap.size
section
variable {ad : Ad} {x : Hd} {b0 b1 lo hi : Nat} {w0 : World} {A5 : Option Addr} {c5 : Nat} {X : Pl} {p : Nat} {w w' : World}
end
end Go.Proofs.Ytkmbkihfdilmbaa.Im
namespace Go.Proofs.Ytkmbkihfdilmbaa.Im
open Go Go.RowKit
open Rl (En Lg)
open Qu (Cf)
set_option maxRecDepth 100000
set_option linter.unusedVariables false
attribute [local go_sem ↓] loadAt_hard storeAt_hard loadAt_log1 storeAt_log1 loadAt_conf3 storeAt_conf3
local instance lo5 : Lo := ⟨0⟩
def chgd (h : Hd) (c : Ch) : Option Hd :=
  if c.k = 1 then some { h with t := c.t, v := c.v }
  else if c.k = 2 then (if c.f ≤ h.p.log.base ∨ h.p.log.last < c.f - 1 then none else some { h with p := { h.p with log := { h.p.log with es := h.p.log.es.take (c.f - h.p.log.base - 1).toNat ++ c.p.log.es } } })
  else some { h with p := ⟨sinceM h.p.log c.p.log.base c.p.log.term, c.p.cf, c.p.sn⟩ }
end Go.Proofs.Ytkmbkihfdilmbaa.Im
namespace Go.Proofs.Ytkmbkihfdilmbaa.Im
open Go Go.RowKit
open Rl (En Lg)
open Qu (Cf)
set_option maxRecDepth 100000
set_option linter.unusedVariables false
attribute [local go_sem ↓] loadAt_hard storeAt_hard loadAt_log1 storeAt_log1 loadAt_conf3 storeAt_conf3
local instance lo6 : Lo := ⟨0⟩
end Go.Proofs.Ytkmbkihfdilmbaa.Im
namespace Go.Proofs.Ytkmbkihfdilmbaa.Im
open Go.RowKit
open Rl (En Lg)
open Qu (Cf)
set_option maxRecDepth 100000
set_option linter.unusedVariables false
end Go.Proofs.Ytkmbkihfdilmbaa.Im
namespace Go.Proofs.Ytkmbkihfdilmbaa.Im
open Go.RowKit
open Rl (En Lg)
open Qu (Cf)
set_option maxRecDepth 100000
set_option linter.unusedVariables false
end Go.Proofs.Ytkmbkihfdilmbaa.Im
namespace Go.Proofs.Ytkmbkihfdilmbaa.Im
open Go.RowKit
open Rl (En Lg)
open Qu (Cf)
set_option maxRecDepth 100000
set_option linter.unusedVariables false
attribute [local go_sem ↓] loadAt_hard storeAt_hard
end Go.Proofs.Ytkmbkihfdilmbaa.Im
namespace Go.Proofs.Ytkmbkihfdilmbaa.Im
open Go Go.RowKit
set_option maxRecDepth 100000
set_option linter.unusedVariables false
attribute [local go_sem ↓] loadAt_hard storeAt_hard
structure At {α : Type} (lt : α → α → Bool) (L : List α) (x : α) (k : Nat) : Prop where
  le : k ≤ L.length
  ahead : ∀ i (h : i < L.length), i < k → lt L[i] x = true
  behind : ∀ i (h : i < L.length), k ≤ i → lt L[i] x = false
structure Bs {α : Type} (lt : α → α → Bool) (L : List α) (x : α) (i j : Nat) : Prop where
  ahead : ∀ a (h : a < L.length), a < i → lt L[a] x = true
  behind : ∀ a (h : a < L.length), j ≤ a → lt L[a] x = false
end Go.Proofs.Ytkmbkihfdilmbaa.Im
namespace Go.Proofs.Ytkmbkihfdilmbaa.Im
open Go.RowKit
set_option maxRecDepth 100000
set_option linter.unusedVariables false
end Go.Proofs.Ytkmbkihfdilmbaa.Im
namespace Go.Proofs.Ytkmbkihfdilmbaa.Im
open Go Go.RowKit
set_option maxRecDepth 100000
set_option linter.unusedVariables false
attribute [local go_sem ↓] loadAt_hard storeAt_hard
def ins {α : Type} (lt : α → α → Bool) (L : List α) (x : α) : List α := L.filter (fun y => lt y x) ++ x :: L.filter (fun y => lt x y)
end Go.Proofs.Ytkmbkihfdilmbaa.Im
namespace Go.Proofs.Ytkmbkihfdilmbaa.Im
open Go.RowKit
open Rl (En Lg)
open Qu (Cf)
set_option maxRecDepth 100000
set_option linter.unusedVariables false
attribute [local go_sem ↓] loadAt_hard storeAt_hard
end Go.Proofs.Ytkmbkihfdilmbaa.Im
namespace Go.Proofs.Ytkmbkihfdilmbaa.Im
open Go Go.RowKit
set_option maxRecDepth 100000
set_option linter.unusedVariables false
end Go.Proofs.Ytkmbkihfdilmbaa.Im
namespace Go.Proofs.Ytkmbkihfdilmbaa.Im
open Go.RowKit
set_option maxRecDepth 100000
set_option linter.unusedVariables false
end Go.Proofs.Ytkmbkihfdilmbaa.Im
namespace Go.Proofs.Ytkmbkihfdilmbaa.Im
open Go Go.RowKit
set_option maxRecDepth 100000
set_option linter.unusedVariables false
end Go.Proofs.Ytkmbkihfdilmbaa.Im
namespace Go.Proofs.Ytkmbkihfdilmbaa.Im
open Go.RowKit
open Rl (En Lg)
open Qu (Cf)
set_option maxRecDepth 100000
set_option linter.unusedVariables false
attribute [local go_sem ↓] loadAt_hard storeAt_hard
local instance lo2 : Lo := ⟨0⟩
structure EvH (w : World) (lo : Nat) (A : Option Addr) (c : Nat) (M : List Hq) (k : Nat) (W : World) (M1 : List Hq) : Prop where
  len : M1.length = k
  row : RowIn cellsH 10 52 W (fun k => w.heap.size ≤ k) A c (M1 ++ M.drop k)
  ch : OwnPts W lo W.heap.size (M1.map fun q => (q.h.p, q.a))
  val : M1.map (·.h) = (M.map (·.h)).take k
  bel : Below w.heap.size w W
  lo : w.heap.size ≤ lo
end Go.Proofs.Ytkmbkihfdilmbaa.Im
namespace Go.Proofs.Ytkmbkihfdilmbaa.Im
open Go.RowKit
open Rl (En Lg)
open Qu (Cf)
set_option maxRecDepth 100000
set_option linter.unusedVariables false
local instance lo3 : Lo := ⟨0⟩
end Go.Proofs.Ytkmbkihfdilmbaa.Im
namespace Go.Proofs.Ytkmbkihfdilmbaa.Im
open Go Go.RowKit
open Rl (En Lg)
open Qu (Cf)
set_option maxRecDepth 100000
set_option linter.unusedVariables false
attribute [local go_sem ↓] loadAt_hard storeAt_hard
local instance lo7 : Lo := ⟨0⟩
def apply (x : Im) (c : Ch) : Im × Int :=
  if c.k = 1 ∨ c.k = 2 ∨ c.k = 3 then
    match x.hs.find? (fun h => decide (h.g = c.g)) with
    | none => (⟨[], []⟩, 6)
    | some h => match chgd h c with
      | none => (⟨[], []⟩, 3)
      | some y => (⟨ins ltH x.hs y, x.vs⟩, 0)
  else if c.k = 4 then (⟨x.hs, ins ltV x.vs c.a⟩, 0)
  else (⟨[], []⟩, 13)
section
variable {w W W' : World} {v1 v2 : Value} {c : Ch} {ac : Ad}
end
end Go.Proofs.Ytkmbkihfdilmbaa.Im
namespace Go.Proofs.Ytkmbkihfdilmbaa.Im
open Go Go.RowKit
open Rl (En Lg)
open Qu (Cf)
set_option maxRecDepth 100000
set_option linter.unusedVariables false
attribute [local go_sem ↓] loadAt_hard storeAt_hard
local instance lo8 : Lo := ⟨0⟩
end Go.Proofs.Ytkmbkihfdilmbaa.Im
namespace Go.Proofs.Ytkmbkihfdilmbaa.Im
open Go.RowKit
open Rl (En Lg)
open Qu (Cf)
set_option maxRecDepth 100000
set_option linter.unusedVariables false
attribute [local go_sem ↓] loadAt_conf3 storeAt_conf3
instance lo0 : Lo := ⟨0⟩
def OwnCf (w : World) (B N : Nat) (c : Cf) (a : Ad) : Prop := ∃ m1 m2, (B ≤ m1 ∧ m1 ≤ m2 ∧ m2 ≤ N) ∧ (OwnsI 3 w B a.o a.co c.old ∧ ∀ k, blk a.o = some k → k < m1) ∧ (OwnsI 3 w m1 a.n a.cn c.new ∧ ∀ k, blk a.n = some k → k < m2) ∧ OwnsI 3 w m2 a.l a.cl c.lrn
theorem OwnCf.nil (w : World) {B N : Nat} (h : B ≤ N) : OwnCf w B N ⟨[], [], []⟩ A0 := ⟨B, B, ⟨Nat.le_refl _, Nat.le_refl _, h⟩, ⟨OwnsI.nil _ _ _, fun k hk => by cases hk⟩, ⟨OwnsI.nil _ _ _, fun k hk => by cases hk⟩, OwnsI.nil _ _ _⟩
theorem OwnsI.below_ {e : TypeId} {w w' : World} {base c : Nat} {A : Option Addr} {l : List Int} (h : OwnsI e w base A c l) (hb : Below w.heap.size w w') : OwnsI e w' base A c l := ownsI_turned h (S := fun _ => False) (Turned.ofBelow _ hb) (fun _ _ h => h)
end Go.Proofs.Ytkmbkihfdilmbaa.Im
namespace Go.Proofs.Ytkmbkihfdilmbaa
open Go.RowKit
end Go.Proofs.Ytkmbkihfdilmbaa
namespace Go.Proofs.Ytkmbkihfdilmbaa
open Go.RowKit
structure Box3 (w : World) (b : Nat) (v0 v1 v2 : Value) : Prop where
  c0 : w.cell? ⟨b, 0, none⟩ = some v0
  c1 : w.cell? ⟨b, 1, none⟩ = some v1
  c2 : w.cell? ⟨b, 2, none⟩ = some v2
theorem Box3.below {w w' : World} {B b : Nat} {v0 v1 v2 : Value} (h : Box3 w b v0 v1 v2) (hb : Below B w w') (hlt : b < B) : Box3 w' b v0 v1 v2 :=
  ⟨(hb.cell (p := ⟨b, 0, none⟩) hlt).trans h.c0, (hb.cell (p := ⟨b, 1, none⟩) hlt).trans h.c1, (hb.cell (p := ⟨b, 2, none⟩) hlt).trans h.c2⟩
end Go.Proofs.Ytkmbkihfdilmbaa
namespace Go.Proofs.Ytkmbkihfdilmbaa.Im
open Go.RowKit
open Rl (En Lg)
open Qu (Cf)
set_option maxRecDepth 100000
set_option linter.unusedVariables false
attribute [local go_sem ↓] loadAt_conf3 storeAt_conf3
theorem OwnCf.below {w w' : World} {B N : Nat} {c : Cf} {a : Ad} (h : OwnCf w B N c a) (hb : Below w.heap.size w w') : OwnCf w' B N c a := by
  obtain ⟨m1, m2, hm, ⟨h1, b1⟩, ⟨h2, b2⟩, h3⟩ := h
  exact ⟨m1, m2, hm, ⟨OwnsI.below_ h1 hb, b1⟩, ⟨OwnsI.below_ h2 hb, b2⟩, OwnsI.below_ h3 hb⟩
theorem OwnCf.wide {w : World} {B B' N N' : Nat} {c : Cf} {a : Ad} (h : OwnCf w B N c a) (hB : B' ≤ B) (hN : N ≤ N') : OwnCf w B' N' c a := by
  obtain ⟨m1, m2, hm, ⟨h1, b1⟩, h2, h3⟩ := h
  exact ⟨m1, m2, ⟨by omega, hm.2.1, by omega⟩, ⟨h1.weaken hB, b1⟩, h2, h3⟩
theorem OwnCf.keep {S : Nat → Prop} {w w' : World} {B N : Nat} {c : Cf} {a : Ad} (h : OwnCf w B N c a) (ht : Turned S w w') (hs : ∀ k, S k → k < B) : OwnCf w' B N c a := by
  obtain ⟨m1, m2, hm, ⟨h1, b1⟩, ⟨h2, b2⟩, h3⟩ := h
  exact ⟨m1, m2, hm, ⟨ownsI_turned h1 ht (fun k hk e => by have := (h1.blkLt k hk).1; have := hs k e; omega), b1⟩, ⟨ownsI_turned h2 ht (fun k hk e => by have := (h2.blkLt k hk).1; have := hs k e; omega), b2⟩, ownsI_turned h3 ht (fun k hk e => by have := (h3.blkLt k hk).1; have := hs k e; omega)⟩
end Go.Proofs.Ytkmbkihfdilmbaa.Im
namespace Go.Proofs.Ytkmbkihfdilmbaa
open Go.RowKit
end Go.Proofs.Ytkmbkihfdilmbaa
namespace Go.Proofs.Ytkmbkihfdilmbaa.Im
open Go.RowKit
open Rl (En Lg)
open Qu (Cf)
open Pk (enc encs)
set_option maxRecDepth 100000
set_option linter.unusedVariables false
attribute [local go_sem ↓] loadAt_hard storeAt_hard
structure Putp (B : Nat) (w w' : World) : Prop where
  bel : Below B w w'
  tag : ∀ (k : Nat) (cs : Array Value) (t : TypeId) (fr : Nat × Nat), w.heap[k]? = some (.cells cs t fr) → t ≠ 5 → w'.heap[k]? = some (.cells cs t fr)
theorem Putp.refl (B : Nat) (w : World) : Putp B w w := ⟨Below.refl B w, fun _ _ _ _ h _ => h⟩
theorem Putp.trans {B : Nat} {a b c : World} (h : Putp B a b) (h' : Putp B b c) : Putp B a c := ⟨h.bel.trans h'.bel, fun k cs t fr h1 h2 => h'.tag k cs t fr (h.tag k cs t fr h1 h2) h2⟩
theorem Putp.grown {B c : Nat} {A : Option Addr} {l : List Nat} {a b : World} (ho : OwnsB 5 a B A c l) (hg : a.grownBy b (blk A)) (hB : B ≤ a.heap.size) : Putp B a b :=
  ⟨below_grown hg hB (fun k hk => (ho.blkLt k hk).1), fun k cs t fr h1 h2 => (hg.block k (row_lt h1) (fun e => by
    rcases ho.row.2 with ⟨h0, _⟩ | ⟨g', cap, cur, hv, _, hh, _⟩
    · injection h0 with h0; rw [h0] at e; cases e
    · have hA : A = some ⟨g', 0, none⟩ := by injection hv
      rw [hA] at e
      obtain rfl : k = g' := by injection e
      rw [hh] at h1
      have := Option.some.inj h1
      injection this with _ h3
      exact h2 h3.symm)).trans h1⟩
structure Bq (B : Nat) (w w' : World) (A : Option Addr) (c : Nat) (l : List Nat) (q : Nat) : Prop where
  own : OwnsB 5 w' B A c l
  len : l.length = q
  put : Putp B w w'
  base : B ≤ w'.heap.size
theorem Bq.then_ {B : Nat} {a b c : World} {A A' : Option Addr} {k k' q q' : Nat} {l l' : List Nat} (h : Bq B a b A k l q) (h' : Bq B b c A' k' l' q') : Bq B a c A' k' l' q' := ⟨h'.own, h'.len, h.put.trans h'.put, h'.base⟩
end Go.Proofs.Ytkmbkihfdilmbaa.Im
namespace Go.Proofs.Ytkmbkihfdilmbaa.Im
open Go.RowKit
open Rl (En Lg)
open Qu (Cf)
open Pk (enc encs)
set_option maxRecDepth 100000
set_option linter.unusedVariables false
attribute [local go_sem ↓] loadAt_hard storeAt_hard
theorem encE_length (x : En) : (encE x).length = 24 + x.d.length := by unfold encE encB; simp [Pk.enc_length]; omega
end Go.Proofs.Ytkmbkihfdilmbaa.Im
namespace Go.Proofs.Ytkmbkihfdilmbaa.Im
open Go.RowKit
open Rl (En Lg)
open Qu (Cf)
open Pk (enc encs)
set_option maxRecDepth 100000
set_option linter.unusedVariables false
attribute [local go_sem ↓] loadAt_hard storeAt_hard
end Go.Proofs.Ytkmbkihfdilmbaa.Im
namespace Go.Proofs.Ytkmbkihfdilmbaa.Im
open Go.RowKit
open Rl (En Lg)
open Qu (Cf)
open Pk (enc encs)
set_option maxRecDepth 100000
set_option linter.unusedVariables false
attribute [local go_sem ↓] loadAt_hard storeAt_hard
structure Sz (p : Pt) : Prop where
  e : p.log.es.length ≤ 1000000
  d : ∀ e ∈ p.log.es, e.d.length ≤ 1000000000
  o : p.cf.old.length ≤ 1000000
  n : p.cf.new.length ≤ 1000000
  l : p.cf.lrn.length ≤ 1000000
  s : p.sn.length ≤ 1000000000
end Go.Proofs.Ytkmbkihfdilmbaa.Im
namespace Go.Proofs.Ytkmbkihfdilmbaa.Im
open Go.RowKit
open Rl (En Lg)
open Qu (Cf)
open Pk (enc encs)
set_option maxRecDepth 100000
set_option linter.unusedVariables false
attribute [local go_sem ↓] loadAt_hard storeAt_hard
end Go.Proofs.Ytkmbkihfdilmbaa.Im
namespace Go.Proofs.Ytkmbkihfdilmbaa.Im
open Go.RowKit
open Rl (En Lg)
open Qu (Cf)
open Pk (enc encs)
set_option maxRecDepth 100000
set_option linter.unusedVariables false
attribute [local go_sem ↓] loadAt_hard storeAt_hard
end Go.Proofs.Ytkmbkihfdilmbaa.Im
namespace Go.Proofs.Ytkmbkihfdilmbaa.Im
open Go.RowKit
open Rl (En Lg)
open Qu (Cf)
open Pk (enc encs)
set_option maxRecDepth 100000
set_option linter.unusedVariables false
attribute [local go_sem ↓] loadAt_hard storeAt_hard
end Go.Proofs.Ytkmbkihfdilmbaa.Im
namespace Go.Proofs.Ytkmbkihfdilmbaa.Im
open Go.RowKit
open Rl (En Lg)
open Qu (Cf)
open Pk (enc encs)
set_option maxRecDepth 100000
set_option linter.unusedVariables false
attribute [local go_sem ↓] loadAt_hard storeAt_hard
end Go.Proofs.Ytkmbkihfdilmbaa.Im
namespace Go.Proofs.Ytkmbkihfdilmbaa.Im
open Go.RowKit
open Rl (En Lg)
open Qu (Cf)
open Pk (enc encs)
set_option maxRecDepth 100000
set_option linter.unusedVariables false
end Go.Proofs.Ytkmbkihfdilmbaa.Im
namespace Go.Proofs.Ytkmbkihfdilmbaa.Im
open Go Go.RowKit
open Rl (En Lg)
open Qu (Cf)
set_option maxRecDepth 100000
set_option linter.unusedVariables false
local instance lo9 : Lo := ⟨0⟩
theorem at_old {w : World} {o : Obj} {k : Nat} {v : Obj} (h : w.heap[k]? = some v) : (w.alloc o).heap[k]? = some v := by
  rw [heap_alloc_old _ _ (Array.getElem?_eq_some_iff.1 h).1]; exact h
theorem at_new {w : World} {o : Obj} {k : Nat} (h : k = w.heap.size) : (w.alloc o).heap[k]? = some o := by
  rw [h]; exact heap_alloc_new w o
theorem bytes_at {w : World} {b : Nat} (l : List Nat) (hs : ∀ x ∈ l, x < 256) {t : TypeId} (h : w.heap[b]? = some (.cells (bytes l).toArray t (0, 0))) : IsBytes w w.heap.size (some ⟨b, 0, none⟩) l :=
  ⟨hs, fun _ _ => ⟨b, 0, rfl, row_lt h, fun i hi => by
    rw [cell_of_row w b (0 + i) (bytes l).toArray t _ h, Nat.zero_add, List.getElem?_toArray]
    exact bytes_get l i hi⟩⟩
end Go.Proofs.Ytkmbkihfdilmbaa.Im
namespace Go.Proofs.Ytkmbkihfdilmbaa.Im
open Go Go.RowKit
open Rl (En Lg)
open Qu (Cf)
set_option maxRecDepth 100000
set_option linter.unusedVariables false
local instance lo10 : Lo := ⟨0⟩
end Go.Proofs.Ytkmbkihfdilmbaa.Im
namespace Go.Proofs.Ytkmbkihfdilmbaa.Im
open Go Go.RowKit
open Rl (En Lg)
open Qu (Cf)
set_option maxRecDepth 100000
set_option linter.unusedVariables false
local instance lo12 : Lo := ⟨0⟩
attribute [local go_sem ↓] loadAt_hard storeAt_hard
end Go.Proofs.Ytkmbkihfdilmbaa.Im
namespace Go.Proofs.Ytkmbkihfdilmbaa.Im
open Go Go.RowKit
open Rl (En Lg)
open Qu (Cf)
set_option maxRecDepth 100000
set_option linter.unusedVariables false
local instance lo15 : Lo := ⟨0⟩
attribute [local go_sem ↓] loadAt_hard storeAt_hard
def PtIn (w : World) (B N : Nat) (p : Pt) (a : Ad) : Prop := OwnE w B N a.e a.ce p.log.es ∧ (OwnsI 3 w B a.o a.co p.cf.old ∧ ∀ k, blk a.o = some k → k < N) ∧ (OwnsI 3 w B a.n a.cn p.cf.new ∧ ∀ k, blk a.n = some k → k < N) ∧ (OwnsI 3 w B a.l a.cl p.cf.lrn ∧ ∀ k, blk a.l = some k → k < N) ∧ (OwnsB 5 w B a.s a.cs p.sn ∧ ∀ k, blk a.s = some k → k < N) ∧ (InInt p.log.base ∧ InInt p.log.term)
namespace PtIn
variable {w w' : World} {B B' N N' : Nat} {p : Pt} {a : Ad}
theorem kp (h : PtIn w B N p a) (hk : Kp Parts w w') : PtIn w' B N p a := by
  obtain ⟨h1, h2, h3, h4, h5, h6⟩ := h
  exact ⟨hk.ownE (.inl rfl) (.inr (.inl rfl)) h1, ⟨hk.ownI (.inr (.inr rfl)) h2.1, h2.2⟩, ⟨hk.ownI (.inr (.inr rfl)) h3.1, h3.2⟩, ⟨hk.ownI (.inr (.inr rfl)) h4.1, h4.2⟩, ⟨hk.ownB (.inr (.inl rfl)) h5.1, h5.2⟩, h6⟩
theorem wide (h : PtIn w B N p a) (hB : B' ≤ B) (hN : N ≤ N') : PtIn w B' N' p a := by
  obtain ⟨h1, h2, h3, h4, h5, h6⟩ := h
  exact ⟨h1.wide hB hN, ⟨h2.1.weaken hB, fun k hk => by have := h2.2 k hk; omega⟩, ⟨h3.1.weaken hB, fun k hk => by have := h3.2 k hk; omega⟩, ⟨h4.1.weaken hB, fun k hk => by have := h4.2 k hk; omega⟩, ⟨h5.1.weaken hB, fun k hk => by have := h5.2 k hk; omega⟩, h6⟩
theorem keep {S : Nat → Prop} (h : PtIn w B N p a) (ht : Turned S w w') (hs : ∀ k, S k → ¬ Bl B N k) : PtIn w' B N p a := by
  obtain ⟨h1, h2, h3, h4, h5, h6⟩ := h
  have kB : ∀ {A : Option Addr}, (∀ k, blk A = some k → B ≤ k) → (∀ k, blk A = some k → k < N) → ∀ k, blk A = some k → ¬ S k := fun h3 h4 k hk hS => hs k hS ⟨h3 k hk, h4 k hk⟩
  exact ⟨h1.keep ht hs, ⟨ownsI_turned h2.1 ht (kB (fun k hk => (h2.1.blkLt k hk).1) h2.2), h2.2⟩, ⟨ownsI_turned h3.1 ht (kB (fun k hk => (h3.1.blkLt k hk).1) h3.2), h3.2⟩, ⟨ownsI_turned h4.1 ht (kB (fun k hk => (h4.1.blkLt k hk).1) h4.2), h4.2⟩, ⟨h5.1.turned ht (kB (fun k hk => (h5.1.blkLt k hk).1) h5.2), h5.2⟩, h6⟩
theorem below (h : PtIn w B N p a) (hb : Below N w w') : PtIn w' B N p a :=
  h.keep (S := fun k => N ≤ k) ⟨hb.os, hb.tape, hb.output, hb.size, fun k _ hn => hb.block k (by omega)⟩ (fun k hk hB => by have := hB.2; omega)
theorem reads (h : PtIn w B N p a) : IsPt w N p a := by
  obtain ⟨h1, h2, h3, h4, h5, h6⟩ := h
  exact ⟨h1.reads, isInts_lower h2.1.reads h2.2, isInts_lower h3.1.reads h3.2, isInts_lower h4.1.reads h4.2, isBytes_lower h5.1.reads h5.2, ⟨h1.room, h1.none_⟩, ownsI_room h2.1, ownsI_room h3.1, ownsI_room h4.1, ownsB_room h5.1, h6⟩
end PtIn
structure InHs (w : World) (B N : Nat) (A : Option Addr) (c : Nat) (M : List Hq) : Prop where
  row : RowIn cellsH 10 52 w (Bl B N) A c M
  pts : ∀ q ∈ M, PtIn w B N q.h.p q.a
  num : ∀ q ∈ M, InInt q.h.g ∧ InInt q.h.t ∧ InInt q.h.v
namespace InHs
variable {w w' : World} {B B' N N' : Nat} {A : Option Addr} {c : Nat} {M : List Hq}
theorem nil (w : World) (B N : Nat) : InHs w B N none 0 [] := ⟨RowIn.nil cellsH_fits _ _ _, by simp, by simp⟩
theorem keep {S : Nat → Prop} (h : InHs w B N A c M) (ht : Turned S w w') (hs : ∀ k, S k → ¬ Bl B N k) : InHs w' B N A c M := ⟨h.row.keep ht (fun k hk hS => hs k hS (h.row.blk k hk)), fun q hq => (h.pts q hq).keep ht hs, h.num⟩
theorem below (h : InHs w B N A c M) (hb : Below N w w') : InHs w' B N A c M :=
  h.keep (S := fun k => N ≤ k) ⟨hb.os, hb.tape, hb.output, hb.size, fun k _ hn => hb.block k (by omega)⟩ (fun k hk hB => by have := hB.2; omega)
theorem wide (h : InHs w B N A c M) (hB : B' ≤ B) (hN : N ≤ N') : InHs w B' N' A c M := ⟨h.row.mono (fun k hk => ⟨Nat.le_trans hB (h.row.blk k hk).1, Nat.lt_of_lt_of_le (h.row.blk k hk).2 hN⟩), fun q hq => (h.pts q hq).wide hB hN, h.num⟩
theorem reads (h : InHs w B N A c M) : IsHds w N A M := by
  refine ⟨⟨fun k hk => ?_⟩, fun q hq => (h.pts q hq).reads, h.num⟩
  obtain ⟨g, hA, hg, hF, hc, _⟩ := h.row.get k hk
  refine ⟨g, 0, hA, hF.2, fun i hi j v hv => ?_⟩
  obtain ⟨g', hA', _, _, hc', _⟩ := h.row.get i hi
  obtain rfl : g = g' := by rw [hA] at hA'; injection hA' with e; injection e
  have hj : j < 10 := (List.getElem?_eq_some_iff.1 hv).1
  rw [Nat.zero_add, hc' j hj]; exact hv
theorem put {wr w4 w5 w6 : World} {n4 n5 c1 c6 : Nat} {A1 A6 : Option Addr} {L : List Hq} {x : Hq} (h : InHs wr B wr.heap.size A1 c1 L) (hB : B ≤ wr.heap.size) (hb4 : Below wr.heap.size wr w4) (ho : PtIn w4 wr.heap.size n4 x.h.p x.a) (hn4 : n4 ≤ w4.heap.size) (hn : InInt x.h.g ∧ InInt x.h.t ∧ InInt x.h.v)
    (hb5 : Below w4.heap.size w4 w5) (hrow5 : RowIn cellsH 10 52 w5 (Bl B wr.heap.size) A1 c1 L) (hn5 : w5.heap.size = n5) (hrow6 : RowIn cellsH 10 52 w6 (fun k => Bl B wr.heap.size k ∨ n5 ≤ k) A6 c6 (L ++ [x])) (hg6 : w5.grownBy w6 (Go.Proofs.Ytkmbkihfdilmbaa.blk A1)) :
    InHs w6 B w6.heap.size A6 c6 (L ++ [x]) := by
  have hw4 := hb4.size
  have hw5 := hb5.size
  have hw6 := hg6.size
  have kp56 : Kp Parts w5 w6 := by
    rcases hb : Go.Proofs.Ytkmbkihfdilmbaa.blk A1 with _ | k
    · rw [hb] at hg6
      exact Kp.ofBelow (below_grown hg6 (Nat.le_refl _) (fun j e => by cases e))
    · rw [hb] at hg6
      obtain ⟨cur, hc⟩ := hrow5.tag hb
      exact Kp.ofGrown hc (by rintro (e | e | e) <;> exact absurd e (by decide)) hg6
  refine ⟨hrow6.mono (fun k hk => ⟨?_, hrow6.lt k hk⟩), fun q hq => ?_, fun q hq => ?_⟩
  · rcases hrow6.blk k hk with e | e
    · exact e.1
    · omega
  · rcases List.mem_append.1 hq with hq | hq
    · exact ((((h.pts q hq).kp (Kp.ofBelow hb4)).kp (Kp.ofBelow hb5)).kp kp56).wide (Nat.le_refl _) (by omega)
    · obtain rfl := List.mem_singleton.1 hq
      exact ((ho.kp (Kp.ofBelow hb5)).kp kp56).wide hB (by omega)
  · rcases List.mem_append.1 hq with hq | hq
    · exact h.num q hq
    · obtain rfl := List.mem_singleton.1 hq; exact hn
end InHs
namespace InCs
variable {w w' : World} {B B' N N' : Nat} {A : Option Addr} {c : Nat} {M : List Cq}
end InCs
namespace InVs
variable {w w' : World} {B B' N N' : Nat} {A : Option Addr} {c : Nat} {L : List Vt}
end InVs
end Go.Proofs.Ytkmbkihfdilmbaa.Im
namespace Go.Proofs.Ytkmbkihfdilmbaa
open Go.RowKit
end Go.Proofs.Ytkmbkihfdilmbaa
namespace Go.Proofs.Ytkmbkihfdilmbaa.Im
open Go Go.RowKit
open Rl (En Lg)
open Qu (Cf)
set_option maxRecDepth 100000
set_option linter.unusedVariables false
local instance lo27 : Lo := ⟨0⟩
attribute [local go_sem ↓] loadAt_hard storeAt_hard loadAt_conf3 storeAt_conf3
structure Pc (w : World) (B N : Nat) (p : Pt) (a : Ad) (m0 m1 m2 m3 : Nat) : Prop where
  m : B ≤ m0 ∧ m0 ≤ m1 ∧ m1 ≤ m2 ∧ m2 ≤ m3 ∧ m3 ≤ N
  e : OwnE w B m0 a.e a.ce p.log.es
  o : OwnsI 3 w m0 a.o a.co p.cf.old
  bo : ∀ k, blk a.o = some k → k < m1
  n : OwnsI 3 w m1 a.n a.cn p.cf.new
  bn : ∀ k, blk a.n = some k → k < m2
  l : OwnsI 3 w m2 a.l a.cl p.cf.lrn
  bl : ∀ k, blk a.l = some k → k < m3
  s : OwnsB 5 w m3 a.s a.cs p.sn
  bs : ∀ k, blk a.s = some k → k < N
theorem Pc.two {w w1 : World} {B N m0 m1 m2 m3 : Nat} {p : Pt} {a : Ad} (h : Pc w B N p a m0 m1 m2 m3) (ht : Turned (Bl B m0) w w1) :
    OwnsI 3 w1 m0 a.o a.co p.cf.old ∧ OwnsI 3 w1 m1 a.n a.cn p.cf.new ∧ OwnsI 3 w1 m2 a.l a.cl p.cf.lrn ∧ OwnsB 5 w1 m3 a.s a.cs p.sn := by
  have hm := h.m
  exact ⟨ownsI_turned h.o ht (fun k hk e => by have := (h.o.blkLt k hk).1; have := e.2; omega), ownsI_turned h.n ht (fun k hk e => by have := (h.n.blkLt k hk).1; have := e.2; omega), ownsI_turned h.l ht (fun k hk e => by have := (h.l.blkLt k hk).1; have := e.2; omega), h.s.turned ht (fun k hk e => by have := (h.s.blkLt k hk).1; have := e.2; omega)⟩
def Tg (w : World) (B N : Nat) : Nat → Prop := fun k => Bl B N k ∧ ∃ cs t fr, w.heap[k]? = some (.cells cs t fr) ∧ Parts t
theorem Tg.mono {w : World} {B B' N N' : Nat} (hB : B' ≤ B) (hN : N ≤ N') : ∀ k, Tg w B N k → Tg w B' N' k := fun k h => ⟨⟨Nat.le_trans hB h.1.1, Nat.lt_of_lt_of_le h.1.2 hN⟩, h.2⟩
theorem Pc.below {w w1 : World} {B N m0 m1 m2 m3 : Nat} {p : Pt} {a : Ad} (h : Pc w B N p a m0 m1 m2 m3) (hb : Below w.heap.size w w1) : Pc w1 B N p a m0 m1 m2 m3 :=
  ⟨h.m, h.e.keep (Turned.ofBelow (fun _ => False) hb) (fun k hk => hk.elim), h.o.below hb, h.bo, h.n.below hb, h.bn, h.l.below hb, h.bl, h.s.below hb, h.bs⟩
theorem Tg.old {w w1 : World} {B N : Nat} (hb : Below w.heap.size w w1) (hN : N ≤ w.heap.size) : ∀ k, Tg w1 B N k → Tg w B N k := fun k h => by
  obtain ⟨h1, cs, t, fr, h2, h3⟩ := h
  exact ⟨h1, cs, t, fr, (hb.block k (by have := h1.2; omega)).symm.trans h2, h3⟩
def halfD {α : Type} (f : α → α) (L : List α) (k : Nat) : List α := (L.take k).map f ++ L.drop k
section
variable {α : Type} (f : α → α) (L : List α) (k : Nat)
theorem halfD_length (h : k ≤ L.length) : (halfD f L k).length = L.length := by unfold halfD; rw [List.length_append, List.length_map, List.length_take, List.length_drop]; omega
theorem halfD_get (h : k < L.length) : (halfD f L k)[k]'(by rw [halfD_length f L k (by omega)]; exact h) = L[k] := by
  have : (halfD f L k)[k]? = some L[k] := by
    unfold halfD
    rw [List.getElem?_append_right (by rw [List.length_map, List.length_take]; omega), List.length_map, List.length_take, List.getElem?_drop, show k + (k - min k L.length) = k by omega, List.getElem?_eq_getElem h]
  rw [List.getElem?_eq_getElem (by rw [halfD_length f L k (by omega)]; exact h)] at this
  exact Option.some.inj this
theorem halfD_set (h : k < L.length) : (halfD f L k).set k (f L[k]) = halfD f L (k + 1) := by
  unfold halfD
  have hl : ((L.take k).map f).length = k := by rw [List.length_map, List.length_take]; omega
  rw [List.set_append_right _ _ (by omega), hl, Nat.sub_self, List.drop_eq_getElem_cons h, List.set_cons_zero, List.take_succ_eq_append_getElem h, List.map_append, List.append_assoc]
  rfl
end
end Go.Proofs.Ytkmbkihfdilmbaa.Im
namespace Go.Proofs.Ytkmbkihfdilmbaa.Vo
open Go Go.RowKit
open Rl (En Lg)
open Ms (M)
open Im (ldX stX IsRow halfD halfD_length halfD_get halfD_set stAt)
set_option maxRecDepth 100000
set_option linter.unusedVariables false
attribute [local go_sem ↓] loadAt_msgV storeAt_msgV Im.loadAt_log1 Im.storeAt_log1 Im.loadAt_conf3 Im.storeAt_conf3
def gone (_ : Option Int) : Option Int := none
end Go.Proofs.Ytkmbkihfdilmbaa.Vo
namespace Go.Proofs.Ytkmbkihfdilmbaa.Fw
open Go Go.RowKit
open Ms (M)
open Im (ldX stX)
open Vo (Rw loadAt_msgV storeAt_msgV info_msgV boxes)
set_option maxRecDepth 100000
set_option linter.unusedVariables false
structure Fl where
  n : Int
  x : Int
  m : Int
  r : Int
deriving DecidableEq
theorem loadAt_flow (a : Value) : Instr.loadAt 42 a = ldX 42 a := rfl
theorem storeAt_flow (a v : Value) : Instr.storeAt 42 a v = stX 42 a v := rfl
theorem info_flow : (Try.prog.info? 42).map (·.size) = some 4 := by kernel_rfl
attribute [local go_sem ↓] loadAt_msgV storeAt_msgV loadAt_flow storeAt_flow
theorem ldF {w : World} {b : Nat} {cs : Array Value} (h : Rw w b cs 42) (hn : cs.size = 4) : (ldX 42 (.pointer (some ⟨b, 0, none⟩))).run Try.prog w = .ok (.agg cs) w :=
  Im.ldRow info_flow Try.underlying42 rfl h hn
def heard (f : Fl) (K F i R : Int) (ok : Bool) : Fl :=
  if K = 4 ∧ F = f.n then (if ok = true then ⟨f.n, max f.x (max f.m i + 1), max f.m i, max f.r R⟩ else ⟨f.n, max f.m (min (f.x - 2) i) + 1, f.m, f.r⟩) else f
structure Pl (f : Fl) : Prop where
  n : 0 ≤ f.n ∧ f.n ≤ 1099511627777
  x : 0 ≤ f.x ∧ f.x ≤ 1099511627777
  m : 0 ≤ f.m ∧ f.m ≤ 1099511627777
  r : 0 ≤ f.r ∧ f.r ≤ 1099511627777
theorem heard_ok {f : Fl} {K F i R : Int} (h1 : K = 4) (h2 : F = f.n) : heard f K F i R true = ⟨f.n, max f.x (max f.m i + 1), max f.m i, max f.r R⟩ := by unfold heard; rw [if_pos ⟨h1, h2⟩, if_pos rfl]
theorem heard_not {f : Fl} {K F i R : Int} (h1 : K = 4) (h2 : F = f.n) : heard f K F i R false = ⟨f.n, max f.m (min (f.x - 2) i) + 1, f.m, f.r⟩ := by unfold heard; rw [if_pos ⟨h1, h2⟩, if_neg (by simp)]
theorem heard_no {f : Fl} {K F i R : Int} {ok : Bool} (h : ¬ (K = 4 ∧ F = f.n)) : heard f K F i R ok = f := by unfold heard; rw [if_neg h]
theorem new_any (n last : Int) (h : 0 ≤ last ∧ last ≤ 1099511627776) (w : World) :
    Calls Try.prog 22 #[.int .i64 n, .int .i64 last] w fun e w' => e = .returned (.agg #[.int .i64 n, .int .i64 (last + 1), .int .i64 0, .int .i64 0]) ∧ Below w.heap.size w w' := by
  have hst := Im.stNew w 42 4 info_flow #[.int .i64 0, .int .i64 0, .int .i64 0, .int .i64 0] #[.int .i64 n, .int .i64 (last + 1), .int .i64 0, .int .i64 0] rfl rfl (by simp [Value.oneCell'])
  have H2 := hid (And.intro (heap_alloc_new w (.cells #[.int .i64 n, .int .i64 (last + 1), .int .i64 0, .int .i64 0] 42)) ((Below.refl _ w).alloc (Nat.le_refl _) (.cells #[.int .i64 n, .int .i64 (last + 1), .int .i64 0, .int .i64 0] 42)))
  obtain ⟨w2, hw2⟩ : ∃ w2, w2 = w.alloc (.cells #[.int .i64 n, .int .i64 (last + 1), .int .i64 0, .int .i64 0] 42) := ⟨_, rfl⟩
  rw [← hw2] at hst H2
  obtain ⟨h1, h2⟩ := h
  clear hw2
  go_enter Try.func22, Try.ntmps22
  go_wp2_with fail
  refine bodyPost_ret (results_cell_row rfl _ _ w.heap.size _ _ _ _ rfl H2.out.1 Try.underlying42 rfl (by rw [info_flow]; rfl)) rfl ?_
  exact ⟨rfl, H2.out.2⟩
theorem refNew_any (n last : Int) (h : 0 ≤ last ∧ last ≤ 1099511627776) (w : World) :
    Calls Try.prog 23 #[.int .i64 n, .int .i64 last] w fun e w' => e = .returned (.agg #[.int .i64 n, .int .i64 (last + 1), .int .i64 0, .int .i64 0]) ∧ Below w.heap.size w w' := by
  have hst := Im.stNew w 42 4 info_flow #[.int .i64 0, .int .i64 0, .int .i64 0, .int .i64 0] #[.int .i64 n, .int .i64 (last + 1), .int .i64 0, .int .i64 0] rfl rfl (by simp [Value.oneCell'])
  have H2 := hid (And.intro (heap_alloc_new w (.cells #[.int .i64 n, .int .i64 (last + 1), .int .i64 0, .int .i64 0] 42)) ((Below.refl _ w).alloc (Nat.le_refl _) (.cells #[.int .i64 n, .int .i64 (last + 1), .int .i64 0, .int .i64 0] 42)))
  obtain ⟨w2, hw2⟩ : ∃ w2, w2 = w.alloc (.cells #[.int .i64 n, .int .i64 (last + 1), .int .i64 0, .int .i64 0] 42) := ⟨_, rfl⟩
  rw [← hw2] at hst H2
  obtain ⟨h1, h2⟩ := h
  clear hw2
  go_enter Try.func23, Try.ntmps23
  go_wp2_with fail
  refine bodyPost_ret (results_cell_row rfl _ _ w.heap.size _ _ _ _ rfl H2.out.1 Try.underlying42 rfl (by rw [info_flow]; rfl)) rfl ?_
  exact ⟨rfl, H2.out.2⟩
set_option maxHeartbeats 6400000 in
theorem heard_any (f : Fl) (hp : Pl f) (m : M) (hi : 0 ≤ m.i ∧ m.i ≤ 1099511627776) (A : Option Addr) (c : Nat) (A' : Option Addr) (c' : Nat) (w : World) :
    Calls Try.prog 19 #[.agg #[.int .i64 f.n, .int .i64 f.x, .int .i64 f.m, .int .i64 f.r], .agg #[.int .i64 m.K, .int .i64 m.F, .int .i64 m.T, .int .i64 m.g, .int .i64 m.t, .int .i64 m.i, .int .i64 m.p, .int .i64 m.c, .int .i64 m.r, .int .i64 m.x, .int .i64 m.a, .int .i64 m.b, .int .i64 m.v, .int .i64 m.s, .bool m.ok, .slice A m.es.length c, .slice A' m.d.length c']] w fun e w' => e = .returned (.agg #[.int .i64 (heard f m.K m.F m.i m.r m.ok).n, .int .i64 (heard f m.K m.F m.i m.r m.ok).x, .int .i64 (heard f m.K m.F m.i m.r m.ok).m, .int .i64 (heard f m.K m.F m.i m.r m.ok).r]) ∧ Below w.heap.size w w' := by
  obtain ⟨w1, hw1⟩ : ∃ w1, w1 = ((w.alloc (.cells #[.int .i64 f.n, .int .i64 f.x, .int .i64 f.m, .int .i64 f.r] 42)).alloc (.cells #[.int .i64 m.K, .int .i64 m.F, .int .i64 m.T, .int .i64 m.g, .int .i64 m.t, .int .i64 m.i, .int .i64 m.p, .int .i64 m.c, .int .i64 m.r, .int .i64 m.x, .int .i64 m.a, .int .i64 m.b, .int .i64 m.v, .int .i64 m.s, .bool m.ok, .slice A m.es.length c, .slice A' m.d.length c'] 31)).alloc (.cells #[.int .i64 0, .int .i64 0, .int .i64 0, .int .i64 0] 42) := ⟨_, rfl⟩
  obtain ⟨r0, r1, r2, hb⟩ := Vo.Rw.three w #[.int .i64 f.n, .int .i64 f.x, .int .i64 f.m, .int .i64 f.r] #[.int .i64 m.K, .int .i64 m.F, .int .i64 m.T, .int .i64 m.g, .int .i64 m.t, .int .i64 m.i, .int .i64 m.p, .int .i64 m.c, .int .i64 m.r, .int .i64 m.x, .int .i64 m.a, .int .i64 m.b, .int .i64 m.v, .int .i64 m.s, .bool m.ok, .slice A m.es.length c, .slice A' m.d.length c'] #[.int .i64 0, .int .i64 0, .int .i64 0, .int .i64 0] 42 31 42
  obtain ⟨ok, hok⟩ : ∃ b, m.ok = b := ⟨_, rfl⟩
  rw [← hw1] at r0 r1 r2 hb
  rw [hok] at hw1 r1
  have R1 := hid (And.intro r0 (And.intro r1 r2))
  have B1 := hid hb
  have HW1 := hid hw1
  obtain ⟨⟨pn1, pn2⟩, ⟨px1, px2⟩, ⟨pm1, pm2⟩, ⟨pr1, pr2⟩⟩ := hp
  obtain ⟨i1, i2⟩ := hi
  have x0 := row_cell r1 0
  have x1 := row_cell r1 1
  have x5 := row_cell r1 5
  have x8 := row_cell r1 8
  have x14 : w1.cell? ⟨w.heap.size + 1, 14, none⟩ = some (.bool ok) := row_cell r1 14
  have y0 := row_cell r0 0
  have y1 := row_cell r0 1
  have y2 := row_cell r0 2
  have y3 := row_cell r0 3
  have yf := row_free r0
  have yf1 := yf 1
  have yf2 := yf 2
  have yf3 := yf 3
  rw [hok]
  clear hok hb r0 r1 r2 hw1 yf
  by_cases hK : m.K = 4
  · by_cases hF : m.F = f.n
    · have b1 : (m.K == 4) = true := by simpa using hK
      have b2 : (m.F == f.n) = true := by simpa using hF
      have c1 : (m.K != 4) = false := by simpa using hK
      have c2 : (m.F != f.n) = false := by simpa using hF
      cases ok with
      | true =>
        rw [heard_ok hK hF]
        clear hK hF
        obtain ⟨a, ha⟩ : ∃ a, max f.m m.i = a := ⟨_, rfl⟩
        have a1 : 0 ≤ a := by omega
        have a2 : a ≤ 1099511627777 := by omega
        rw [ha]
        obtain ⟨b, hbb⟩ : ∃ b, max f.x (a + 1) = b := ⟨_, rfl⟩
        rw [hbb]
        obtain ⟨d, hd⟩ : ∃ d, max f.r m.r = d := ⟨_, rfl⟩
        rw [hd]
        have HE := hid (And.intro ha (And.intro hbb hd))
        obtain ⟨w2, hw2⟩ : ∃ w2, w2 = w1.setCell ⟨w.heap.size, 2, none⟩ (.int .i64 a) := ⟨_, rfl⟩
        have s2 : Rw w2 w.heap.size #[.int .i64 f.n, .int .i64 f.x, .int .i64 a, .int .i64 f.r] 42 := by rw [hw2]; exact R1.out.1.put 2 _
        obtain ⟨w3, hw3⟩ : ∃ w3, w3 = w2.setCell ⟨w.heap.size, 1, none⟩ (.int .i64 b) := ⟨_, rfl⟩
        have s3 : Rw w3 w.heap.size #[.int .i64 f.n, .int .i64 b, .int .i64 a, .int .i64 f.r] 42 := by rw [hw3]; exact s2.put 1 _
        obtain ⟨w4, hw4⟩ : ∃ w4, w4 = w3.setCell ⟨w.heap.size, 3, none⟩ (.int .i64 d) := ⟨_, rfl⟩
        have s4 : Rw w4 w.heap.size #[.int .i64 f.n, .int .i64 b, .int .i64 a, .int .i64 d] 42 := by rw [hw4]; exact s3.put 3 _
        have t2 : Turned (fun k => k = w.heap.size) w1 w2 := by rw [hw2]; exact Turned.one _ _ _ _
        have t3 : Turned (fun k => k = w.heap.size) w1 w3 := t2.trans (by rw [hw3]; exact Turned.one _ _ _ _)
        have t4 : Turned (fun k => k = w.heap.size) w1 w4 := t3.trans (by rw [hw4]; exact Turned.one _ _ _ _)
        have up : ∀ {W : World} {k : Nat} {cs : Array Value} {t : TypeId}, Turned (fun k => k = w.heap.size) w1 W → k ≠ w.heap.size → Rw w1 k cs t → Rw W k cs t := fun ht hk h => (ht.block _ (Vo.row_lt' h) hk).trans h
        have q1 := fun {W : World} (ht : Turned (fun k => k = w.heap.size) w1 W) => up ht (by omega) R1.out.2.1
        have q2 := fun {W : World} (ht : Turned (fun k => k = w.heap.size) w1 W) => up ht (by omega) R1.out.2.2
        have hst := Im.stRow info_flow (cs' := #[.int .i64 f.n, .int .i64 b, .int .i64 a, .int .i64 d]) (q2 t4) rfl rfl (by simp [Value.oneCell'])
        obtain ⟨w5, hw5⟩ : ∃ w5, w5 = w4.setRow (w.heap.size + 2) #[.int .i64 f.n, .int .i64 b, .int .i64 a, .int .i64 d] := ⟨_, rfl⟩
        rw [← hw5] at hst
        have HF5 : Hid (Rw w5 (w.heap.size + 2) #[.int .i64 f.n, .int .i64 b, .int .i64 a, .int .i64 d] 42 ∧ Below w.heap.size w w5) := hid (by
          rw [hw5]
          refine ⟨setRow_heap w4 (w.heap.size + 2) _ _ _ _ (q2 t4), ?_⟩
          have hz := B1.out.size
          exact (B1.out.trans (t4.below hz (fun k hk => by omega))).trans ((Im.row_turned w4 (w.heap.size + 2) _).below (Nat.le_trans hz t4.size) (fun k hk => by omega))
          )
        have Z2 := hid (And.intro (row_cell s2 1) (And.intro (row_cell s2 2) (row_free s2 1)))
        have Z3 := hid (And.intro (row_cell s3 3) (And.intro (row_free s3 3) (row_cell (q1 t3) 8)))
        have Z4 := hid (And.intro (ldF s4 rfl) hst)
        have HW2 := hid hw2
        have HW3 := hid hw3
        have HW4 := hid hw4
        clear hw2 hw3 hw4 hw5 s2 s3 s4 t2 t3 t4 up q1 q2 hst hbb hd
        go_enter Try.func19, Try.ntmps19
        go_upto_region 1 with fail
        rw [← HW1.out]
        go_upto_region 4 with fail
        rw [← HW2.out]
        clear x0 x1 x5 x8 x14 y0 y1 y2 y3 yf1 yf2 yf3 ha
        obtain ⟨z1, z2, z3⟩ := Z2.out
        have hbb := HE.out.2.1
        go_upto_region 5 with fail
        rw [← HW3.out]
        clear z1 z2 z3 hbb
        obtain ⟨z1, z2, z3⟩ := Z3.out
        have hd := HE.out.2.2
        go_upto_region 8 with fail
        rw [← HW4.out]
        clear z1 z2 z3 hd
        obtain ⟨z1, z2⟩ := Z4.out
        go_wp2_with fail
        refine bodyPost_ret (results_cell_row rfl _ _ (w.heap.size + 2) _ _ _ _ rfl HF5.out.1 Try.underlying42 rfl (by rw [info_flow]; rfl)) rfl ?_
        exact ⟨rfl, HF5.out.2⟩
      | false =>
        rw [heard_not hK hF]
        clear hK hF
        obtain ⟨u, hu⟩ : ∃ u, min (f.x - 2) m.i = u := ⟨_, rfl⟩
        have u1 : -2 ≤ u := by omega
        have u2 : u ≤ 1099511627777 := by omega
        rw [hu]
        obtain ⟨t, ht⟩ : ∃ t, max f.m u = t := ⟨_, rfl⟩
        have t1 : 0 ≤ t := by omega
        have t2' : t ≤ 1099511627777 := by omega
        rw [ht]
        obtain ⟨w2, hw2⟩ : ∃ w2, w2 = w1.setCell ⟨w.heap.size, 1, none⟩ (.int .i64 (t + 1)) := ⟨_, rfl⟩
        have s2 : Rw w2 w.heap.size #[.int .i64 f.n, .int .i64 (t + 1), .int .i64 f.m, .int .i64 f.r] 42 := by rw [hw2]; exact R1.out.1.put 1 _
        have t2 : Turned (fun k => k = w.heap.size) w1 w2 := by rw [hw2]; exact Turned.one _ _ _ _
        have q2 : Rw w2 (w.heap.size + 2) #[.int .i64 0, .int .i64 0, .int .i64 0, .int .i64 0] 42 := (t2.block _ (Vo.row_lt' R1.out.2.2) (by omega)).trans R1.out.2.2
        have hst := Im.stRow info_flow (cs' := #[.int .i64 f.n, .int .i64 (t + 1), .int .i64 f.m, .int .i64 f.r]) q2 rfl rfl (by simp [Value.oneCell'])
        obtain ⟨w5, hw5⟩ : ∃ w5, w5 = w2.setRow (w.heap.size + 2) #[.int .i64 f.n, .int .i64 (t + 1), .int .i64 f.m, .int .i64 f.r] := ⟨_, rfl⟩
        rw [← hw5] at hst
        have HF5 : Hid (Rw w5 (w.heap.size + 2) #[.int .i64 f.n, .int .i64 (t + 1), .int .i64 f.m, .int .i64 f.r] 42 ∧ Below w.heap.size w w5) := hid (by
          rw [hw5]
          refine ⟨setRow_heap w2 (w.heap.size + 2) _ _ _ _ q2, ?_⟩
          have hz := B1.out.size
          exact (B1.out.trans (t2.below hz (fun k hk => by omega))).trans ((Im.row_turned w2 (w.heap.size + 2) _).below (Nat.le_trans hz t2.size) (fun k hk => by omega)))
        have Z4 := hid (And.intro (ldF s2 rfl) hst)
        have HW2 := hid hw2
        clear hw2 hw5 s2 t2 q2 hst
        go_enter Try.func19, Try.ntmps19
        go_upto_region 1 with fail
        rw [← HW1.out]
        go_upto_region 8 with fail
        rw [← HW2.out]
        clear x0 x1 x5 x8 x14 y0 y1 y2 y3 yf1 yf2 yf3
        obtain ⟨z1, z2⟩ := Z4.out
        go_wp2_with fail
        refine bodyPost_ret (results_cell_row rfl _ _ (w.heap.size + 2) _ _ _ _ rfl HF5.out.1 Try.underlying42 rfl (by rw [info_flow]; rfl)) rfl ?_
        exact ⟨rfl, HF5.out.2⟩
    · have b1 : (m.K == 4) = true := by simpa using hK
      have b2 : (m.F == f.n) = false := by simpa using hF
      have c1 : (m.K != 4) = false := by simpa using hK
      have c2 : (m.F != f.n) = true := by simpa using hF
      rw [heard_no (fun h => hF h.2)]
      clear hK hF
      have hst := Im.stRow info_flow (cs' := #[.int .i64 f.n, .int .i64 f.x, .int .i64 f.m, .int .i64 f.r]) R1.out.2.2 rfl rfl (by simp [Value.oneCell'])
      obtain ⟨w5, hw5⟩ : ∃ w5, w5 = w1.setRow (w.heap.size + 2) #[.int .i64 f.n, .int .i64 f.x, .int .i64 f.m, .int .i64 f.r] := ⟨_, rfl⟩
      rw [← hw5] at hst
      have HF5 : Hid (Rw w5 (w.heap.size + 2) #[.int .i64 f.n, .int .i64 f.x, .int .i64 f.m, .int .i64 f.r] 42 ∧ Below w.heap.size w w5) := hid (by
        rw [hw5]
        exact ⟨setRow_heap w1 (w.heap.size + 2) _ _ _ _ R1.out.2.2, B1.out.trans ((Im.row_turned w1 (w.heap.size + 2) _).below B1.out.size (fun k hk => by omega))⟩)
      have ld := ldF R1.out.1 rfl
      clear hw5
      go_enter Try.func19, Try.ntmps19
      go_upto_region 1 with fail
      rw [← HW1.out]
      go_wp2_with fail
      refine bodyPost_ret (results_cell_row rfl _ _ (w.heap.size + 2) _ _ _ _ rfl HF5.out.1 Try.underlying42 rfl (by rw [info_flow]; rfl)) rfl ?_
      exact ⟨rfl, HF5.out.2⟩
  · have b1 : (m.K == 4) = false := by simpa using hK
    have c1 : (m.K != 4) = true := by simpa using hK
    rw [heard_no (fun h => hK h.1)]
    clear hK
    have hst := Im.stRow info_flow (cs' := #[.int .i64 f.n, .int .i64 f.x, .int .i64 f.m, .int .i64 f.r]) R1.out.2.2 rfl rfl (by simp [Value.oneCell'])
    obtain ⟨w5, hw5⟩ : ∃ w5, w5 = w1.setRow (w.heap.size + 2) #[.int .i64 f.n, .int .i64 f.x, .int .i64 f.m, .int .i64 f.r] := ⟨_, rfl⟩
    rw [← hw5] at hst
    have HF5 : Hid (Rw w5 (w.heap.size + 2) #[.int .i64 f.n, .int .i64 f.x, .int .i64 f.m, .int .i64 f.r] 42 ∧ Below w.heap.size w w5) := hid (by
      rw [hw5]
      exact ⟨setRow_heap w1 (w.heap.size + 2) _ _ _ _ R1.out.2.2, B1.out.trans ((Im.row_turned w1 (w.heap.size + 2) _).below B1.out.size (fun k hk => by omega))⟩)
    have ld := ldF R1.out.1 rfl
    clear hw5
    go_enter Try.func19, Try.ntmps19
    go_upto_region 1 with fail
    rw [← HW1.out]
    go_wp2_with fail
    refine bodyPost_ret (results_cell_row rfl _ _ (w.heap.size + 2) _ _ _ _ rfl HF5.out.1 Try.underlying42 rfl (by rw [info_flow]; rfl)) rfl ?_
    exact ⟨rfl, HF5.out.2⟩
set_option maxHeartbeats 6400000 in
theorem refHeard_any (f : Fl) (hp : Pl f) (m : M) (hi : 0 ≤ m.i ∧ m.i ≤ 1099511627776) (A : Option Addr) (c : Nat) (A' : Option Addr) (c' : Nat) (w : World) :
    Calls Try.prog 21 #[.agg #[.int .i64 f.n, .int .i64 f.x, .int .i64 f.m, .int .i64 f.r], .agg #[.int .i64 m.K, .int .i64 m.F, .int .i64 m.T, .int .i64 m.g, .int .i64 m.t, .int .i64 m.i, .int .i64 m.p, .int .i64 m.c, .int .i64 m.r, .int .i64 m.x, .int .i64 m.a, .int .i64 m.b, .int .i64 m.v, .int .i64 m.s, .bool m.ok, .slice A m.es.length c, .slice A' m.d.length c']] w fun e w' => e = .returned (.agg #[.int .i64 (heard f m.K m.F m.i m.r m.ok).n, .int .i64 (heard f m.K m.F m.i m.r m.ok).x, .int .i64 (heard f m.K m.F m.i m.r m.ok).m, .int .i64 (heard f m.K m.F m.i m.r m.ok).r]) ∧ Below w.heap.size w w' := by
  obtain ⟨w1, hw1⟩ : ∃ w1, w1 = ((w.alloc (.cells #[.int .i64 f.n, .int .i64 f.x, .int .i64 f.m, .int .i64 f.r] 42)).alloc (.cells #[.int .i64 m.K, .int .i64 m.F, .int .i64 m.T, .int .i64 m.g, .int .i64 m.t, .int .i64 m.i, .int .i64 m.p, .int .i64 m.c, .int .i64 m.r, .int .i64 m.x, .int .i64 m.a, .int .i64 m.b, .int .i64 m.v, .int .i64 m.s, .bool m.ok, .slice A m.es.length c, .slice A' m.d.length c'] 31)).alloc (.cells #[.int .i64 0, .int .i64 0, .int .i64 0, .int .i64 0] 42) := ⟨_, rfl⟩
  obtain ⟨r0, r1, r2, hb⟩ := Vo.Rw.three w #[.int .i64 f.n, .int .i64 f.x, .int .i64 f.m, .int .i64 f.r] #[.int .i64 m.K, .int .i64 m.F, .int .i64 m.T, .int .i64 m.g, .int .i64 m.t, .int .i64 m.i, .int .i64 m.p, .int .i64 m.c, .int .i64 m.r, .int .i64 m.x, .int .i64 m.a, .int .i64 m.b, .int .i64 m.v, .int .i64 m.s, .bool m.ok, .slice A m.es.length c, .slice A' m.d.length c'] #[.int .i64 0, .int .i64 0, .int .i64 0, .int .i64 0] 42 31 42
  obtain ⟨ok, hok⟩ : ∃ b, m.ok = b := ⟨_, rfl⟩
  rw [← hw1] at r0 r1 r2 hb
  rw [hok] at hw1 r1
  have R1 := hid (And.intro r0 (And.intro r1 r2))
  have B1 := hid hb
  have HW1 := hid hw1
  obtain ⟨⟨pn1, pn2⟩, ⟨px1, px2⟩, ⟨pm1, pm2⟩, ⟨pr1, pr2⟩⟩ := hp
  obtain ⟨i1, i2⟩ := hi
  have x0 := row_cell r1 0
  have x1 := row_cell r1 1
  have x5 := row_cell r1 5
  have x8 := row_cell r1 8
  have x14 : w1.cell? ⟨w.heap.size + 1, 14, none⟩ = some (.bool ok) := row_cell r1 14
  have y0 := row_cell r0 0
  have y1 := row_cell r0 1
  have y2 := row_cell r0 2
  have y3 := row_cell r0 3
  have yf := row_free r0
  have yf1 := yf 1
  have yf2 := yf 2
  have yf3 := yf 3
  rw [hok]
  clear hok hb r0 r1 r2 hw1 yf
  by_cases hK : m.K = 4
  · by_cases hF : m.F = f.n
    · have b1 : (m.K == 4) = true := by simpa using hK
      have b2 : (m.F == f.n) = true := by simpa using hF
      have c1 : (m.K != 4) = false := by simpa using hK
      have c2 : (m.F != f.n) = false := by simpa using hF
      cases ok with
      | true =>
        rw [heard_ok hK hF]
        clear hK hF
        obtain ⟨a, ha⟩ : ∃ a, max f.m m.i = a := ⟨_, rfl⟩
        have a1 : 0 ≤ a := by omega
        have a2 : a ≤ 1099511627777 := by omega
        rw [ha]
        obtain ⟨b, hbb⟩ : ∃ b, max f.x (a + 1) = b := ⟨_, rfl⟩
        rw [hbb]
        obtain ⟨d, hd⟩ : ∃ d, max f.r m.r = d := ⟨_, rfl⟩
        rw [hd]
        have HE := hid (And.intro ha (And.intro hbb hd))
        obtain ⟨w2, hw2⟩ : ∃ w2, w2 = w1.setCell ⟨w.heap.size, 2, none⟩ (.int .i64 a) := ⟨_, rfl⟩
        have s2 : Rw w2 w.heap.size #[.int .i64 f.n, .int .i64 f.x, .int .i64 a, .int .i64 f.r] 42 := by rw [hw2]; exact R1.out.1.put 2 _
        obtain ⟨w3, hw3⟩ : ∃ w3, w3 = w2.setCell ⟨w.heap.size, 1, none⟩ (.int .i64 b) := ⟨_, rfl⟩
        have s3 : Rw w3 w.heap.size #[.int .i64 f.n, .int .i64 b, .int .i64 a, .int .i64 f.r] 42 := by rw [hw3]; exact s2.put 1 _
        obtain ⟨w4, hw4⟩ : ∃ w4, w4 = w3.setCell ⟨w.heap.size, 3, none⟩ (.int .i64 d) := ⟨_, rfl⟩
        have s4 : Rw w4 w.heap.size #[.int .i64 f.n, .int .i64 b, .int .i64 a, .int .i64 d] 42 := by rw [hw4]; exact s3.put 3 _
        have t2 : Turned (fun k => k = w.heap.size) w1 w2 := by rw [hw2]; exact Turned.one _ _ _ _
        have t3 : Turned (fun k => k = w.heap.size) w1 w3 := t2.trans (by rw [hw3]; exact Turned.one _ _ _ _)
        have t4 : Turned (fun k => k = w.heap.size) w1 w4 := t3.trans (by rw [hw4]; exact Turned.one _ _ _ _)
        have up : ∀ {W : World} {k : Nat} {cs : Array Value} {t : TypeId}, Turned (fun k => k = w.heap.size) w1 W → k ≠ w.heap.size → Rw w1 k cs t → Rw W k cs t := fun ht hk h => (ht.block _ (Vo.row_lt' h) hk).trans h
        have q1 := fun {W : World} (ht : Turned (fun k => k = w.heap.size) w1 W) => up ht (by omega) R1.out.2.1
        have q2 := fun {W : World} (ht : Turned (fun k => k = w.heap.size) w1 W) => up ht (by omega) R1.out.2.2
        have hst := Im.stRow info_flow (cs' := #[.int .i64 f.n, .int .i64 b, .int .i64 a, .int .i64 d]) (q2 t4) rfl rfl (by simp [Value.oneCell'])
        obtain ⟨w5, hw5⟩ : ∃ w5, w5 = w4.setRow (w.heap.size + 2) #[.int .i64 f.n, .int .i64 b, .int .i64 a, .int .i64 d] := ⟨_, rfl⟩
        rw [← hw5] at hst
        have HF5 : Hid (Rw w5 (w.heap.size + 2) #[.int .i64 f.n, .int .i64 b, .int .i64 a, .int .i64 d] 42 ∧ Below w.heap.size w w5) := hid (by
          rw [hw5]
          refine ⟨setRow_heap w4 (w.heap.size + 2) _ _ _ _ (q2 t4), ?_⟩
          have hz := B1.out.size
          exact (B1.out.trans (t4.below hz (fun k hk => by omega))).trans ((Im.row_turned w4 (w.heap.size + 2) _).below (Nat.le_trans hz t4.size) (fun k hk => by omega))
          )
        have Z2 := hid (And.intro (row_cell s2 1) (And.intro (row_cell s2 2) (row_free s2 1)))
        have Z3 := hid (And.intro (row_cell s3 3) (And.intro (row_free s3 3) (row_cell (q1 t3) 8)))
        have Z4 := hid (And.intro (ldF s4 rfl) hst)
        have HW2 := hid hw2
        have HW3 := hid hw3
        have HW4 := hid hw4
        clear hw2 hw3 hw4 hw5 s2 s3 s4 t2 t3 t4 up q1 q2 hst hbb hd
        go_enter Try.func21, Try.ntmps21
        go_upto_region 1 with fail
        rw [← HW1.out]
        go_upto_region 5 with fail
        rw [← HW2.out]
        clear x0 x1 x5 x8 x14 y0 y1 y2 y3 yf1 yf2 yf3 ha
        obtain ⟨z1, z2, z3⟩ := Z2.out
        have hbb := HE.out.2.1
        go_upto_region 6 with fail
        rw [← HW3.out]
        clear z1 z2 z3 hbb
        obtain ⟨z1, z2, z3⟩ := Z3.out
        have hd := HE.out.2.2
        go_upto_region 7 with fail
        rw [← HW4.out]
        clear z1 z2 z3 hd
        obtain ⟨z1, z2⟩ := Z4.out
        go_wp2_with fail
        refine bodyPost_ret (results_cell_row rfl _ _ (w.heap.size + 2) _ _ _ _ rfl HF5.out.1 Try.underlying42 rfl (by rw [info_flow]; rfl)) rfl ?_
        exact ⟨rfl, HF5.out.2⟩
      | false =>
        rw [heard_not hK hF]
        clear hK hF
        obtain ⟨t, ht⟩ : ∃ t, max f.m (min (f.x - 2) m.i) = t := ⟨_, rfl⟩
        have t1 : 0 ≤ t := by omega
        have t2' : t ≤ 1099511627777 := by omega
        rw [ht]
        obtain ⟨u, hu⟩ : ∃ u, min (f.x - 1) (m.i + 1) = u := ⟨_, rfl⟩
        have hu2 : max (f.m + 1) u = t + 1 := by omega
        clear ht
        obtain ⟨w2, hw2⟩ : ∃ w2, w2 = w1.setCell ⟨w.heap.size, 1, none⟩ (.int .i64 (t + 1)) := ⟨_, rfl⟩
        have s2 : Rw w2 w.heap.size #[.int .i64 f.n, .int .i64 (t + 1), .int .i64 f.m, .int .i64 f.r] 42 := by rw [hw2]; exact R1.out.1.put 1 _
        have t2 : Turned (fun k => k = w.heap.size) w1 w2 := by rw [hw2]; exact Turned.one _ _ _ _
        have q2 : Rw w2 (w.heap.size + 2) #[.int .i64 0, .int .i64 0, .int .i64 0, .int .i64 0] 42 := (t2.block _ (Vo.row_lt' R1.out.2.2) (by omega)).trans R1.out.2.2
        have hst := Im.stRow info_flow (cs' := #[.int .i64 f.n, .int .i64 (t + 1), .int .i64 f.m, .int .i64 f.r]) q2 rfl rfl (by simp [Value.oneCell'])
        obtain ⟨w5, hw5⟩ : ∃ w5, w5 = w2.setRow (w.heap.size + 2) #[.int .i64 f.n, .int .i64 (t + 1), .int .i64 f.m, .int .i64 f.r] := ⟨_, rfl⟩
        rw [← hw5] at hst
        have HF5 : Hid (Rw w5 (w.heap.size + 2) #[.int .i64 f.n, .int .i64 (t + 1), .int .i64 f.m, .int .i64 f.r] 42 ∧ Below w.heap.size w w5) := hid (by
          rw [hw5]
          refine ⟨setRow_heap w2 (w.heap.size + 2) _ _ _ _ q2, ?_⟩
          have hz := B1.out.size
          exact (B1.out.trans (t2.below hz (fun k hk => by omega))).trans ((Im.row_turned w2 (w.heap.size + 2) _).below (Nat.le_trans hz t2.size) (fun k hk => by omega)))
        have Z4 := hid (And.intro (ldF s2 rfl) hst)
        have HW2 := hid hw2
        clear hw2 hw5 s2 t2 q2 hst
        go_enter Try.func21, Try.ntmps21
        go_upto_region 1 with fail
        rw [← HW1.out]
        go_upto_region 9 with fail
        rw [← HW2.out]
        clear x0 x1 x5 x8 x14 y0 y1 y2 y3 yf1 yf2 yf3
        obtain ⟨z1, z2⟩ := Z4.out
        go_wp2_with fail
        refine bodyPost_ret (results_cell_row rfl _ _ (w.heap.size + 2) _ _ _ _ rfl HF5.out.1 Try.underlying42 rfl (by rw [info_flow]; rfl)) rfl ?_
        exact ⟨rfl, HF5.out.2⟩
    · have b1 : (m.K == 4) = true := by simpa using hK
      have b2 : (m.F == f.n) = false := by simpa using hF
      have c1 : (m.K != 4) = false := by simpa using hK
      have c2 : (m.F != f.n) = true := by simpa using hF
      rw [heard_no (fun h => hF h.2)]
      clear hK hF
      have hst := Im.stRow info_flow (cs' := #[.int .i64 f.n, .int .i64 f.x, .int .i64 f.m, .int .i64 f.r]) R1.out.2.2 rfl rfl (by simp [Value.oneCell'])
      obtain ⟨w5, hw5⟩ : ∃ w5, w5 = w1.setRow (w.heap.size + 2) #[.int .i64 f.n, .int .i64 f.x, .int .i64 f.m, .int .i64 f.r] := ⟨_, rfl⟩
      rw [← hw5] at hst
      have HF5 : Hid (Rw w5 (w.heap.size + 2) #[.int .i64 f.n, .int .i64 f.x, .int .i64 f.m, .int .i64 f.r] 42 ∧ Below w.heap.size w w5) := hid (by
        rw [hw5]
        exact ⟨setRow_heap w1 (w.heap.size + 2) _ _ _ _ R1.out.2.2, B1.out.trans ((Im.row_turned w1 (w.heap.size + 2) _).below B1.out.size (fun k hk => by omega))⟩)
      have ld := ldF R1.out.1 rfl
      clear hw5
      go_enter Try.func21, Try.ntmps21
      go_upto_region 1 with fail
      rw [← HW1.out]
      go_wp2_with fail
      refine bodyPost_ret (results_cell_row rfl _ _ (w.heap.size + 2) _ _ _ _ rfl HF5.out.1 Try.underlying42 rfl (by rw [info_flow]; rfl)) rfl ?_
      exact ⟨rfl, HF5.out.2⟩
  · have b1 : (m.K == 4) = false := by simpa using hK
    have c1 : (m.K != 4) = true := by simpa using hK
    rw [heard_no (fun h => hK h.1)]
    clear hK
    have hst := Im.stRow info_flow (cs' := #[.int .i64 f.n, .int .i64 f.x, .int .i64 f.m, .int .i64 f.r]) R1.out.2.2 rfl rfl (by simp [Value.oneCell'])
    obtain ⟨w5, hw5⟩ : ∃ w5, w5 = w1.setRow (w.heap.size + 2) #[.int .i64 f.n, .int .i64 f.x, .int .i64 f.m, .int .i64 f.r] := ⟨_, rfl⟩
    rw [← hw5] at hst
    have HF5 : Hid (Rw w5 (w.heap.size + 2) #[.int .i64 f.n, .int .i64 f.x, .int .i64 f.m, .int .i64 f.r] 42 ∧ Below w.heap.size w w5) := hid (by
      rw [hw5]
      exact ⟨setRow_heap w1 (w.heap.size + 2) _ _ _ _ R1.out.2.2, B1.out.trans ((Im.row_turned w1 (w.heap.size + 2) _).below B1.out.size (fun k hk => by omega))⟩)
    have ld := ldF R1.out.1 rfl
    clear hw5
    go_enter Try.func21, Try.ntmps21
    go_upto_region 1 with fail
    rw [← HW1.out]
    go_wp2_with fail
    refine bodyPost_ret (results_cell_row rfl _ _ (w.heap.size + 2) _ _ _ _ rfl HF5.out.1 Try.underlying42 rfl (by rw [info_flow]; rfl)) rfl ?_
    exact ⟨rfl, HF5.out.2⟩
end Go.Proofs.Ytkmbkihfdilmbaa.Fw
