/- The walk through package rlog's copies of entries. -/
import Derived.Test.YthocdknfkmclkaaRlA
import Derived.Test.YthocdknfkmclkaaClone
namespace Go.Proofs.Ythocdknfkmclkaa
open Go.RowKit

set_option maxHeartbeats 1600000 in
set_option maxRecDepth 100000 in
theorem own_any (B : Nat) (A : Option Addr) (c n : Nat) (L : List Rl.En) (hn : L.length = n) (hl : n ≤ 90000) (hf : Rl.Few L) (w : World) (h : IsEnts w B A L) (hB : B ≤ w.heap.size) :
    Calls Try.prog 31 #[.slice A n c] w fun e w' => ∃ A' c', e = .returned (.slice A' n c') ∧ OwnE w' w.heap.size w'.heap.size A' c' L ∧ Below w.heap.size w w' := by
  subst hn
  obtain ⟨i0, hi, hz0, hz1, hz2⟩ := info_parts info_entry
  have HH := hid (h.more hB)
  have HF := hid hf
  clear h hf
  go_enter Try.func31, Try.ntmps31
  go_wp2_with (at_make; refine wpList_make_own _ rfl _ _ 22 rfl 0 47 i0 _ 3 Try.underlying22 hi hz0 hz1 .i64 .i64 (L.length : Int) L.length rfl rfl rfl (by rw [hz2]; omega) (by unfold maxLen; omega) (Nat.zero_le _) ?_)
  intro w1 hrow1 hgr1
  have hlt1 : w.heap.size < w1.heap.size := (hrow1.lt _ rfl).2
  have H1 : Hid (OwnE w1 w.heap.size w1.heap.size (some ⟨w.heap.size, 0, none⟩) L.length (L.take 0) ∧ Below w.heap.size w w1) := hid ⟨⟨[], rfl, ⟨⟨fun _ => rfl, hrow1, fun k hk => by
    have hk : w.heap.size = k := by injection hk
    exact ⟨by omega, by omega⟩⟩, by simp, List.Pairwise.nil, by simp⟩⟩, below_grown hgr1 (Nat.le_refl _) (fun k hk => by cases hk)⟩
  clear hrow1 hgr1 hlt1
  go_wp2_with fail
  go_loopw [3, 11] (fun v i wr => ∃ (k : Nat) (A1 : Option Addr) (c1 : Nat), k ≤ L.length ∧ v = .slice A1 k c1 ∧ i = .int .i64 k ∧ Hid (OwnE wr w.heap.size wr.heap.size A1 c1 (L.take k) ∧ Below w.heap.size w wr)) (fun _ i _ => L.length - (RowKit.intOf i).toNat)
  case atStart => exact ⟨0, _, _, by omega, rfl, rfl, H1⟩
  case round =>
    clear H1
    obtain ⟨k, A1, c1, hk, rfl, rfl, hS⟩ := hrel
    by_cases hlt : k < L.length
    · obtain ⟨b, off, rfl, hbw, hc⟩ := (HH.out.below hS.out.2).cells k hlt
      obtain ⟨Ad, cd, d0, d1, d2, hd, hd2, hd3⟩ := hc k hlt
      have hk0 : (k : Int) < (L.length : Int) := by omega
      have hfk : L[k].d.length ≤ 65536 := HF.out _ (List.getElem_mem hlt)
      have hnum := HH.out.num _ (List.getElem_mem hlt)
      have htk : L.take (k + 1) = L.take k ++ [L[k]] := List.take_succ_eq_append_getElem hlt
      obtain ⟨x, hx⟩ : ∃ x, x = L[k] := ⟨_, rfl⟩
      rw [← hx] at d0 d1 d2 hd hd2 hfk hnum htk
      have HX := hid (And.intro hnum htk)
      clear hc hx hnum htk
      obtain ⟨w2, hw2⟩ : ∃ w2, w2 = wr.alloc (.cells #[.int .i64 x.t, .int .i64 x.k, .slice Ad x.d.length cd] 47) := ⟨_, rfl⟩
      have hb2 : Below wr.heap.size wr w2 := by rw [hw2]; exact (Below.refl _ wr).alloc (Nat.le_refl _) _
      have hs2 : w2.heap.size = wr.heap.size + 1 := by rw [hw2]; simp
      have HC := hid (bclone_any wr.heap.size Ad cd x.d x.d.length rfl (by omega) w2 ((hd.more hS.out.2.size).below hb2) hb2.size hd3)
      have H2 := hid (And.intro hb2 (And.intro hs2 hw2))
      rw [hw2] at HC
      clear hb2 hs2 hw2 hd
      go_wp2_with fail
      refine HC.out.mono ?_
      rintro e w3 ⟨A3, c3, rfl, ho3, hb3⟩
      rw [← H2.out.2.2] at ho3 hb3
      rw [H2.out.2.1] at ho3 hb3
      have q0 : w3.cell? ⟨wr.heap.size, 0, none⟩ = some (.int .i64 x.t) := by rw [hb3.cell (by simp), H2.out.2.2]; simp
      have q1 : w3.cell? ⟨wr.heap.size, 1, none⟩ = some (.int .i64 x.k) := by rw [hb3.cell (by simp), H2.out.2.2]; simp
      have q2 : w3.cell? ⟨wr.heap.size, 2, none⟩ = some (.slice Ad x.d.length cd) := by rw [hb3.cell (by simp), H2.out.2.2]; simp
      have f2 : w3.frozen? ⟨wr.heap.size, 2, none⟩ = false := by rw [hb3.frozen (by simp), H2.out.2.2]; simp
      have hlt3 : wr.heap.size < w3.heap.size := by have := hb3.size; have := H2.out.2.1; omega
      have H3 : Hid (Below wr.heap.size wr (w3.setCell ⟨wr.heap.size, 2, none⟩ (.slice A3 x.d.length c3)) ∧ OwnsB 5 (w3.setCell ⟨wr.heap.size, 2, none⟩ (.slice A3 x.d.length c3)) wr.heap.size A3 c3 x.d) := hid ⟨(H2.out.1.trans (hb3.mono (by omega))).trans ((Turned.one w3 wr.heap.size 2 _).below (by omega) (fun k hk => Nat.le_of_eq (Eq.symm hk))), (ho3.turned (Turned.one w3 wr.heap.size 2 _) (fun k hk e => by have := (ho3.blkLt k hk).1; have e2 : k = wr.heap.size := e; omega)).weaken (by omega)⟩
      have hz3 : (w3.setCell ⟨wr.heap.size, 2, none⟩ (.slice A3 x.d.length c3)).heap.size = w3.heap.size := by simp [World.setCell]
      have HZ := hid hz3
      have hN := Nat.le_of_lt hlt3
      clear hb3 ho3 HC hz3
      have hl5 : k + 1 ≤ 100000 := by omega
      have hlk : (L.take k).length = k := by rw [List.length_take]; omega
      have HLK := hid hlk
      have HA := hid (And.intro (hS.out.1.below (H3.out.1.alloc (by rw [HZ.out]; exact hN) (.cells #[.int .i64 x.t, .int .i64 x.k, .slice A3 x.d.length c3] 47))) (H3.out.2.below ((Below.refl _ _).alloc (Nat.le_refl _) (.cells #[.int .i64 x.t, .int .i64 x.k, .slice A3 x.d.length c3] 47))))
      clear hlk
      go_wp2_with (at_builtin; refine wpList_append_ent rfl _ _ rfl HA.out.1 hS.out.2.size ?hN k HLK.out rfl x HX.out.1 A3 c3 HA.out.2 ⟨w3.heap.size, 0, none⟩ 1 rfl (fun j _ => cellsE_new _ _ HZ.out ⟨x, A3, c3⟩ _ j) hl5 ?_)
      case hN => rw [World.size_alloc, HZ.out]; omega
      intro A6 c6 w6 hE6 hB6
      rw [← HX.out.2] at hE6
      have H6 : Hid (OwnE w6 w.heap.size w6.heap.size A6 c6 (L.take (k + 1)) ∧ Below w.heap.size w w6) := hid ⟨hE6, (hS.out.2.trans ((H3.out.1.alloc (by rw [HZ.out]; exact hN) _).mono hS.out.2.size)).trans hB6⟩
      clear hE6 hB6
      go_wp2_with fail
      go_roundw
      case rel => exact ⟨k + 1, A6, c6, by omega, rfl, by go_num, H6⟩
      case measure => simp [RowKit.intOf]; omega
    · obtain rfl : k = L.length := by omega
      have hS1 := hS.out
      rw [List.take_length] at hS1
      have HS := hid hS1
      clear hS hS1
      go_wp2_with fail
      go_ret
      exact ⟨A1, c1, rfl, HS.out.1, HS.out.2⟩
end Go.Proofs.Ythocdknfkmclkaa
