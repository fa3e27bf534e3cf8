/- The walk through the function that copies entries. -/
import Derived.Test.YtmaebemhephcmaaDoorEnts
import Derived.Test.YtmaebemhephcmaaDoorKitSame
import Derived.Deep.RegionHeld3
import Derived.StillTailTactics
namespace Go.Proofs.YtmaebemhephcmaaDoor
open Go.RowKit

set_option maxHeartbeats 1600000 in
set_option maxRecDepth 100000 in
theorem copyE_any (B : Nat) (A : Option Addr) (c n : Nat) (L : List Rl.En) (hn : L.length = n) (hl : n ≤ 90000) (hf : Rl.Few L) (w : World) (h : IsEnts w B A L) (hB : B ≤ w.heap.size) :
    Calls Tryd.prog 42 #[.slice A n c] w fun e w' => ∃ A' c', e = .returned (.slice A' n c') ∧ OwnE w' w.heap.size w'.heap.size A' c' L ∧ Below w.heap.size w w' := by
  subst hn
  have HH := hid (h.more hB)
  have HF := hid hf
  have H1 : Hid (OwnE w w.heap.size w.heap.size none 0 (L.take 0) ∧ Below w.heap.size w w) := hid ⟨OwnE.nil _ _ _, Below.refl _ _⟩
  clear h hf
  go_enter Tryd.func42, Tryd.ntmps42
  go_wp2_with fail
  go_loopw [3, 4] (fun v i wr => ∃ (k : Nat) (A1 : Option Addr) (c1 : Nat), k ≤ L.length ∧ v = .slice A1 k c1 ∧ i = .int .i64 k ∧ Hid (OwnE wr w.heap.size wr.heap.size A1 c1 (L.take k) ∧ Below w.heap.size w wr)) (fun _ i _ => L.length - (RowKit.intOf i).toNat)
  case atStart => exact ⟨0, _, _, by omega, rfl, rfl, H1⟩
  case round =>
    clear H1
    obtain ⟨k, A1, c1, hk, rfl, rfl, hS⟩ := hrel
    by_cases hlt : k < L.length
    · obtain ⟨b, off, rfl, hbw, hc⟩ := (HH.out.below hS.out.2).cells k hlt
      obtain ⟨Ad, cd, d0, d1, d2, hd, hd2, hd3⟩ := hc k hlt
      have hk0 : (k : Int) < (L.length : Int) := by omega
      have hfk : L[k].d.length ≤ 65536 := HF.out _ (List.getElem_mem hlt)
      have hnum := HH.out.num _ (List.getElem_mem hlt)
      have htk : L.take (k + 1) = L.take k ++ [L[k]] := List.take_succ_eq_append_getElem hlt
      obtain ⟨x, hx⟩ : ∃ x, x = L[k] := ⟨_, rfl⟩
      rw [← hx] at d0 d1 d2 hd hd2 hfk hnum htk
      have HX := hid (And.intro hnum htk)
      have HC := hid (copy_N wr.heap.size Ad cd x.d x.d.length rfl (by omega) wr.drew ((hd.more hS.out.2.size).drewN 1) (Nat.le_refl _))
      have HK : Hid (∀ w', Below w.heap.size wr w' → w'.cell? ⟨b, off + k * 3, none⟩ = some (.int .i64 x.t) ∧ w'.cell? ⟨b, off + k * 3 + 1, none⟩ = some (.int .i64 x.k) ∧ w'.cell? ⟨b, off + k * 3 + 2, none⟩ = some (.slice Ad x.d.length cd)) := hid (fun w' hb => ⟨(hb.cell (by show b < _; omega)).trans d0, (hb.cell (by show b < _; omega)).trans d1, (hb.cell (by show b < _; omega)).trans d2⟩)
      have hl5 : k + 1 ≤ 100000 := by omega
      have HLK : Hid ((L.take k).length = k) := hid (by rw [List.length_take]; omega)
      clear hc hx hnum htk hd hd2 hd3 hfk
      go_wp2_with fail
      go_region_held3 (fun w' => w'.cell? ⟨b, off + k * 3, none⟩ = some (.int .i64 x.t) ∧ w'.cell? ⟨b, off + k * 3 + 1, none⟩ = some (.int .i64 x.k) ∧ w'.cell? ⟨b, off + k * 3 + 2, none⟩ = some (.slice Ad x.d.length cd))
        (first | exact HK.out _ (Below.refl _ wr).drew | exact HK.out _ hb2.out | exact HK.out _ (hb2.out.alloc hN2.out _) | exact HK.out _ h6.out.2 | fail)
        (first
          | (refine step_append_ent (by rfl) _ _ (by rfl) (hS.out.1.below (hb1.out.alloc hb1.out.size _)) hS.out.2.size (by rw [World.size_alloc]; have := hb1.out.size; omega) k HLK.out (by rfl) x HX.out.1 A2 c2 (ho2.out.below ((Below.refl _ w2).alloc (Nat.le_refl _) _)) ⟨w2.heap.size, 0, none⟩ 1 (by rfl) (fun j _ => cellsE_new w2 _ rfl ⟨x, A2, c2⟩ _ j) hl5 ?_; intro A6 c6 w6 hE6 hB6; have h6 := hid (And.intro hE6 ((hb2.out.alloc hN2.out _).trans hB6)); clear hE6 hB6)
          | (go_at_call 27; refine HC.out.mono ?_; rintro e w2 ⟨A2, c2, rfl, ho2', hb2'⟩; have ho2 := hid ho2'; have hb1 := hid ((Below.refl _ wr).drew.trans hb2'); have hb2 := hid (hb1.out.mono hS.out.2.size); have hN2 := hid (Nat.le_trans hS.out.2.size hb1.out.size); clear ho2' hb2'))
      all_goals
        (have H6 : Hid (OwnE w6 w.heap.size w6.heap.size A6 c6 (L.take (k + 1)) ∧ Below w.heap.size w w6) := hid ⟨by rw [HX.out.2]; exact h6.out.1, hS.out.2.trans h6.out.2⟩
         clear h6 hb1 hb2 hN2 ho2 HK HC d0 d1 d2
         go_wp2_with fail
         go_roundw
         case rel => exact ⟨k + 1, A6, c6, by omega, rfl, by go_num, H6⟩
         case measure => simp [RowKit.intOf]; omega)
    · obtain rfl : k = L.length := by omega
      have hS1 := hS.out
      rw [List.take_length] at hS1
      have HS := hid hS1
      clear hS hS1
      go_wp2_with fail
      go_ret
      exact ⟨A1, c1, rfl, HS.out.1, HS.out.2⟩
end Go.Proofs.YtmaebemhephcmaaDoor
