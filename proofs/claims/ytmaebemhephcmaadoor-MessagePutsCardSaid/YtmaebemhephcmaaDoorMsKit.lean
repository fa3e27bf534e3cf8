/- The walks through the shared functions at messages. -/
import Derived.Test.YtmaebemhephcmaaDoorMsN
import Derived.Test.YtmaebemhephcmaaDoorKitEnEq
import Derived.Test.YtmaebemhephcmaaDoorKitEnCopy
import Derived.Test.YtmaebemhephcmaaDoorSpoilEn
import Derived.Test.YtmaebemhephcmaaDoorKitBytes
namespace Go.Proofs.YtmaebemhephcmaaDoor.Ms
open Go.RowKit
set_option maxRecDepth 100000
set_option linter.unusedVariables false
attribute [local go_sem ↓] loadAt_msg storeAt_msg

theorem two_cells (w : World) (x y : Array Value) (t : TypeId) (i : Nat) : ((w.alloc (.cells x t)).alloc (.cells y t)).cell? ⟨w.heap.size, i, none⟩ = x[i]? ∧ ((w.alloc (.cells x t)).alloc (.cells y t)).cell? ⟨w.heap.size + 1, i, none⟩ = y[i]? := by
  refine ⟨(World.cell?_alloc_past _ _ _ (by simp)).trans (cell_of_row _ w.heap.size i _ _ (0, 0) (heap_alloc_new w _)), ?_⟩
  have h1 := heap_alloc_new (w.alloc (.cells x t)) (.cells y t)
  rw [World.size_alloc] at h1
  exact cell_of_row _ (w.heap.size + 1) i _ _ (0, 0) h1
theorem diff {m m' : M} (h : m ≠ m') : Ending.returned (.bool false) = .returned (.bool (decide (m = m'))) := by
  rw [decide_eq_false h]
set_option maxHeartbeats 6400000 in
theorem same_any (m m' : M) (A : Option Addr) (c : Nat) (A' : Option Addr) (c' : Nat) (A2 : Option Addr) (c2 : Nat) (A3 : Option Addr) (c3 : Nat) (w : World) (h : IsEnts w w.heap.size A m.es) (h' : IsEnts w w.heap.size A2 m'.es) (g : IsBytes w w.heap.size A' m.d) (g' : IsBytes w w.heap.size A3 m'.d) (hs : Small m) (hs' : Small m') :
    Calls Tryd.prog 20 #[.agg #[.int .i64 m.K, .int .i64 m.F, .int .i64 m.T, .int .i64 m.g, .int .i64 m.t, .int .i64 m.i, .int .i64 m.p, .int .i64 m.c, .int .i64 m.r, .int .i64 m.x, .int .i64 m.a, .int .i64 m.b, .int .i64 m.v, .int .i64 m.s, .bool m.ok, .slice A m.es.length c, .slice A' m.d.length c'], .agg #[.int .i64 m'.K, .int .i64 m'.F, .int .i64 m'.T, .int .i64 m'.g, .int .i64 m'.t, .int .i64 m'.i, .int .i64 m'.p, .int .i64 m'.c, .int .i64 m'.r, .int .i64 m'.x, .int .i64 m'.a, .int .i64 m'.b, .int .i64 m'.v, .int .i64 m'.s, .bool m'.ok, .slice A2 m'.es.length c2, .slice A3 m'.d.length c3]] w fun e w' => e = .returned (.bool (decide (m = m'))) ∧ Below w.heap.size w w' := by
  have HB : Hid (∀ x y : Array Value, Below w.heap.size w ((w.alloc (.cells x 25)).alloc (.cells y 25))) := hid fun x y => ((Below.refl _ w).alloc (Nat.le_refl _) _).alloc (by simp) _
  have HE := hid fun (wz : World) (hb : Below w.heap.size w wz) => ents_same A A2 c c2 _ _ m.es m'.es rfl rfl hs.es wz ((h.below hb).more hb.size) ((h'.below hb).more hb.size)
  have HS := hid fun (wz : World) (hb : Below w.heap.size w wz) => same_N w.heap.size w.heap.size A' A3 c' c3 m.d m'.d _ _ rfl rfl (by have := hs.d; unfold maxLen; omega) (by have := hs'.d; unfold maxLen; omega) wz (g.below hb) (g'.below hb)
  clear h h' g g' hs hs'
  go_enter Tryd.func20, Tryd.ntmps20
  go_wp2_with fail
  all_goals try (go_ret; exact ⟨diff (by rintro rfl; simp_all), HB.out _ _⟩)
  refine (HE.out _ (HB.out _ _)).mono ?_
  rintro e w2 ⟨rfl, hb⟩
  have q1 : w2.cell? ⟨w.heap.size, 16, none⟩ = some (.slice A' m.d.length c') := (hb.cell (p := ⟨w.heap.size, 16, none⟩) (by simp; omega)).trans (two_cells w _ _ _ 16).1
  have q2 : w2.cell? ⟨w.heap.size + 1, 16, none⟩ = some (.slice A3 m'.d.length c3) := (hb.cell (p := ⟨w.heap.size + 1, 16, none⟩) (by simp)).trans (two_cells w _ _ _ 16).2
  have HB2 := hid ((HB.out _ _).trans (hb.mono (by simp; omega)))
  clear hb
  by_cases he : m.es = m'.es
  · rw [decide_eq_true he]
    have HEQ := hid he
    clear he
    go_wp2_with fail
    refine (HS.out w2 HB2.out).mono ?_
    rintro e w3 ⟨rfl, n, rfl⟩
    by_cases hd : m.d = m'.d
    · rw [decide_eq_true hd]
      have HM : Hid (m = m') := by
        have h1 := HEQ.out
        show m = m'
        cases m; cases m'; simp_all
      go_wp2_with fail
      go_ret
      rw [decide_eq_true HM.out]
      exact ⟨rfl, below_drewN HB2.out n⟩
    · rw [decide_eq_false hd]
      have HD := hid hd
      clear hd
      go_wp2_with fail
      go_ret
      exact ⟨diff (fun e => HD.out (by rw [e])), below_drewN HB2.out n⟩
  · rw [decide_eq_false he]
    have HD := hid he
    clear he
    go_wp2_with fail
    go_ret
    exact ⟨diff (fun e => HD.out (by rw [e])), HB2.out⟩
end Go.Proofs.YtmaebemhephcmaaDoor.Ms
