/- The walk through 'known', the example that the statements of layer 5 ask. -/
import Derived.Test.YtceecckipeeigaaDraws
namespace Go.Proofs.Ytceecckipeeigaa.Dw
open Go.RowKit

set_option maxRecDepth 100000 in
set_option maxHeartbeats 800000 in
theorem known_any (w : World) : Calls Try.prog 13 #[] w fun e w' => e = .returned (.bool true) ∧ Below w.heap.size w w' := by
  have hI : IsInts (w.alloc (.cells (ints [5, -1, 7]).toArray 3)) (w.heap.size + 1) (some ⟨w.heap.size, 0, none⟩) [5, -1, 7] := isInts_new w [5, -1, 7] (by simp [InInt]) 3 (0, 0)
  have hN := new_any (w.heap.size + 1) (some ⟨w.heap.size, 0, none⟩) 3 [5, -1, 7] (by decide) _ hI (by simp) (fun h => by cases h)
  have HN := hid hN
  have hb0 := (Below.refl w.heap.size w).alloc (Nat.le_refl _) (.cells (ints [5, -1, 7]).toArray 3)
  have HB := hid hb0
  clear hI hN hb0
  go_enter Try.func13, Try.ntmps13
  go_wp2_with fail
  refine HN.out.mono ?_
  rintro e w1 ⟨g, rfl, hAg, hb1, hsz, hsz2⟩
  have hb := HB.out.trans (hb1.mono (by simp))
  have hg : w.heap.size ≤ g := by have : w.heap.size + 1 ≤ g := by simpa using hsz
                                  omega
  clear hsz HN HB hsz2 hb1
  generalize hlo : (w.alloc (.cells (ints [5, -1, 7]).toArray 3)).heap.size = lo at hAg
  clear hlo
  go_wp2_with fail
  refine (next_N lo g g [5, -1, 7] 0 (by omega) (3) (by unfold InInt; omega) (2) (by decide +kernel) _ hAg).mono ?_
  rintro e w2 ⟨rfl, hAg', hG⟩
  replace hAg := hAg'
  replace hb := hb.trans (below_grown hG hb.size (fun k e => by injection e; omega))
  clear hAg' hG
  go_wp2_with fail
  refine (next_N lo g g [5, -1, 7] 1 (by omega) (3) (by unfold InInt; omega) (2) (by decide +kernel) _ hAg).mono ?_
  rintro e w3 ⟨rfl, hAg', hG⟩
  replace hAg := hAg'
  replace hb := hb.trans (below_grown hG hb.size (fun k e => by injection e; omega))
  clear hAg' hG
  go_wp2_with fail
  refine (next_N lo g g [5, -1, 7] 2 (by omega) (0) (by unfold InInt; omega) (0) (by decide +kernel) _ hAg).mono ?_
  rintro e w4 ⟨rfl, hAg', hG⟩
  replace hAg := hAg'
  replace hb := hb.trans (below_grown hG hb.size (fun k e => by injection e; omega))
  clear hAg' hG
  go_wp2_with fail
  refine (next_N lo g g [5, -1, 7] 3 (by omega) (9) (by unfold InInt; omega) (0) (by decide +kernel) _ hAg).mono ?_
  rintro e w5 ⟨rfl, hAg', hG⟩
  replace hAg := hAg'
  replace hb := hb.trans (below_grown hG hb.size (fun k e => by injection e; omega))
  clear hAg' hG
  go_wp2_with fail
  refine (count_any lo g g _ 4 _ hAg).mono ?_
  rintro e w6 ⟨rfl, rfl⟩
  go_wp2_with fail
  go_ret
  exact ⟨rfl, hb⟩
end Go.Proofs.Ytceecckipeeigaa.Dw
