/- Texts of the proof, one behind the other: QuB, ImGrow, SortI, Compact, QuC, QuD, QuM, CfA, CfD, CfB, CfC, CfE, CfF, CfG, RqI, RqD, RqA, KitInts, RqB, CfR, CfS, CfT. -/
import Derived.Test.YtfkjahpcpmcefaaConfComesPartAA
import Derived.Shelf.Abstract
import Derived.Test.YtfkjahpcpmcefaaRows
import Derived.Lib.AppendZeros
import Derived.Lib.SlKeysI
import Derived.Shelf.SortM.Plain
import Derived.Shelf.SortM.SortNone
import Derived.Shelf.SlicesG.CompactI
import Derived.Deep.RegionHeld3
import Derived.WalkMore
import Derived.StillTailTactics
import Derived.BigQuiet
namespace Go.Proofs.Ytfkjahpcpmcefaa
open Go.RowKit
set_option maxHeartbeats 400000 in
theorem index_any (B : Nat) (A : Option Addr) (c : Nat) (l : List Int) (hl : l.length ≤ 100000) (x : Int) (w : World) (h : IsInts w B A l) :
    Calls Try.prog 64 #[.slice A l.length c, .int .i64 x] w fun e w' => ∃ i : Int, e = .returned (.int .i64 i) ∧ (InInt i ∧ decide (0 ≤ i) = decide (x ∈ l)) ∧ w' = w := by
  go_enter Try.func64, Try.ntmps64
  go_wp2
  go_loopw [8] (fun i wr => ∃ k : Nat, k ≤ l.length ∧ i = .int .i64 k ∧ wr = w ∧ Hid (x ∉ l.take k)) (fun i _ => l.length - (RowKit.intOf i).toNat)
  case atStart => exact ⟨0, by omega, rfl, rfl, hid (by simp)⟩
  case round =>
    obtain ⟨k, hk, rfl, rfl, hs⟩ := hrel
    by_cases hlt : k < l.length
    · obtain ⟨b, off, rfl, _, hc⟩ := h.cells k hlt
      have hck := hc k hlt
      clear hc h
      by_cases he : x = l[k]
      · have hbe : (x == l[k]) = true := by rw [beq_iff_eq]; exact he
        have HE := hid he
        clear he
        go_wp2
        go_ret
        exact ⟨(k : Int), rfl, ⟨⟨by omega, by omega⟩, by rw [decide_eq_true (show (0 : Int) ≤ k by omega)]; exact (decide_eq_true (by rw [HE.out]; exact List.getElem_mem hlt)).symm⟩, rfl⟩
      · have hbe : (x == l[k]) = false := by rw [beq_eq_false_iff_ne]; exact he
        have HE := hid he
        clear he
        go_wp2
        go_roundw
        case rel =>
          refine ⟨k + 1, by omega, by go_num, trivial, hid ?_⟩
          rw [List.take_succ_eq_append_getElem hlt, List.mem_append, List.mem_singleton]
          rintro (h1 | h1)
          · exact hs.out h1
          · exact HE.out h1
        case measure => simp [RowKit.intOf]; omega
    · obtain rfl : k = l.length := by omega
      go_wp2
      go_ret
      refine ⟨-1, rfl, ⟨⟨by omega, by omega⟩, ?_⟩, rfl⟩
      have := hs.out
      rw [List.take_length] at this
      simp [this]
theorem contains_any (B : Nat) (A : Option Addr) (c : Nat) (l : List Int) (hl : l.length ≤ 100000) (x : Int) (w : World) (h : IsInts w B A l) :
    Calls Try.prog 47 #[.slice A l.length c, .int .i64 x] w fun e w' => e = .returned (.bool (decide (x ∈ l))) ∧ w' = w := by
  have hc := hid (index_any B A c l hl x w h)
  clear h
  go_enter Try.func47, Try.ntmps47
  go_wp2_with fail
  refine hc.out.mono ?_
  rintro e w' ⟨i, rfl, hi, rfl⟩
  have HI := hid hi
  clear hi
  go_wp2
  go_ret
  exact ⟨by rw [← HI.out.2]; rfl, rfl⟩
set_option maxHeartbeats 400000 in
theorem indexFunc_any (g : FuncId) (cb : Array Value) (p : Int → Bool) (w0 : World) (ht0 : Tells g cb p w0) (eg : ∀ args w, (callFunc g args).run Try.prog w = .ok (.enter g args) w)
    (B : Nat) (A : Option Addr) (c : Nat) (l : List Int) (hl : l.length ≤ 100000) (w : World) (hw0 : Below w0.heap.size w0 w) (h0 : IsInts w B A l) (hB : B ≤ w.heap.size) :
    Calls Try.prog 65 #[.slice A l.length c, .func (.func g) #[] cb] w fun e w' => ∃ i : Int, e = .returned (.int .i64 i) ∧ (InInt i ∧ decide (0 ≤ i) = l.any p) ∧ Below w.heap.size w w' := by
  have ht := hid ht0
  have hw := hid hw0
  have h := hid h0
  clear ht0 hw0 h0
  go_enter Try.func65, Try.ntmps65
  go_wp2
  go_loopw [8] (fun i wr => ∃ k : Nat, k ≤ l.length ∧ i = .int .i64 k ∧ Hid ((l.take k).any p = false) ∧ Hid (Below w.heap.size w wr)) (fun i _ => l.length - (RowKit.intOf i).toNat)
  case atStart => exact ⟨0, by omega, rfl, hid (by simp), hid (Below.refl _ _)⟩
  case round =>
    obtain ⟨k, hk, rfl, hs, hbel⟩ := hrel
    by_cases hlt : k < l.length
    · obtain ⟨b, off, rfl, hb, hcell⟩ := h.out.cells k hlt
      have hck : wr.cell? ⟨b, off + k, none⟩ = some (.int .i64 l[k]) := (hbel.out.cell (p := ⟨b, off + k, none⟩) (by show b < _; omega)).trans (hcell k hlt)
      have hcall := ht.out l[k] (h.out.small _ (List.getElem_mem hlt)) wr (hw.out.trans (hbel.out.mono hw.out.size))
      clear hcell
      cases hp : p l[k]
      · rw [hp] at hcall
        have HP := hid hp
        clear hp
        go_wp2_with (go_at_fn g; refine hcall.mono ?_; rintro e w' ⟨rfl, hb'⟩)
        go_roundw
        case rel =>
          refine ⟨k + 1, by omega, by go_num, hid ?_, hid (bthen hbel.out hb' hbel.out.size)⟩
          rw [List.take_succ_eq_append_getElem hlt, List.any_append, hs.out, Bool.false_or]
          simpa using HP.out
        case measure => simp [RowKit.intOf]; omega
      · rw [hp] at hcall
        have HP := hid hp
        clear hp
        go_wp2_with (go_at_fn g; refine hcall.mono ?_; rintro e w' ⟨rfl, hb'⟩)
        go_ret
        refine ⟨(k : Int), rfl, ⟨⟨by omega, by omega⟩, ?_⟩, bthen hbel.out hb' hbel.out.size⟩
        rw [decide_eq_true (show (0 : Int) ≤ k by omega)]
        exact (List.any_eq_true.2 ⟨_, List.getElem_mem hlt, HP.out⟩).symm
    · obtain rfl : k = l.length := by omega
      go_wp2
      go_ret
      refine ⟨-1, rfl, ⟨⟨by omega, by omega⟩, ?_⟩, hbel.out⟩
      have := hs.out
      rw [List.take_length] at this
      rw [this]; rfl
theorem containsFunc_any (g : FuncId) (cb : Array Value) (p : Int → Bool) (w0 : World) (ht : Tells g cb p w0) (eg : ∀ args w, (callFunc g args).run Try.prog w = .ok (.enter g args) w)
    (B : Nat) (A : Option Addr) (c : Nat) (l : List Int) (hl : l.length ≤ 100000) (w : World) (hw : Below w0.heap.size w0 w) (h : IsInts w B A l) (hB : B ≤ w.heap.size) :
    Calls Try.prog 58 #[.slice A l.length c, .func (.func g) #[] cb] w fun e w' => e = .returned (.bool (l.any p)) ∧ Below w.heap.size w w' := by
  have hc := hid (indexFunc_any g cb p w0 ht eg B A c l hl w hw h hB)
  clear h ht hw
  go_enter Try.func58, Try.ntmps58
  go_wp2_with fail
  refine hc.out.mono ?_
  rintro e w' ⟨i, rfl, hi, hb⟩
  have HI := hid hi
  clear hi
  go_wp2
  go_ret
  exact ⟨by rw [← HI.out.2]; rfl, hb⟩
theorem overlap1_any (b B : Nat) (A : Option Addr) (c : Nat) (l : List Int) (hl : l.length ≤ 100000) (x : Int) (w : World) (hb : w.cell? ⟨b, 0, none⟩ = some (.slice A l.length c)) (h : IsInts w B A l) :
    Calls Try.prog 59 #[.int .i64 x, .pointer (some ⟨b, 0, none⟩)] w fun e w' => e = .returned (.bool (decide (x ∈ l))) ∧ w' = w := by
  have hc := hid (contains_any B A c l hl x w h)
  clear h
  go_enter Try.func59, Try.ntmps59
  go_wp2_with fail
  refine hc.out.mono ?_
  rintro e w' ⟨rfl, rfl⟩
  go_wp2
  go_ret
  exact ⟨rfl, rfl⟩
theorem overlap_any (B : Nat) (A A' : Option Addr) (c c' : Nat) (l m : List Int) (hl : l.length ≤ 100000) (hm : m.length ≤ 100000) (w : World) (h : IsInts w B A l) (h' : IsInts w B A' m) (hB : B ≤ w.heap.size) :
    Calls Try.prog 41 #[.slice A l.length c, .slice A' m.length c'] w fun e w' => e = .returned (.bool (l.any fun x => decide (x ∈ m))) ∧ Below w.heap.size w w' := by
  have hbel : Below w.heap.size w (w.alloc (.cells #[.slice A' m.length c'] 22)) := (Below.refl _ _).alloc (Nat.le_refl _) _
  have hcell : (w.alloc (.cells #[.slice A' m.length c'] 22)).cell? ⟨w.heap.size, 0, none⟩ = some (.slice A' m.length c') := cell_of_row _ w.heap.size 0 _ _ _ (heap_alloc_new w _)
  have ht : Tells 59 #[.pointer (some ⟨w.heap.size, 0, none⟩)] (fun x => decide (x ∈ m)) (w.alloc (.cells #[.slice A' m.length c'] 22)) := fun x _ w2 hb2 =>
    (overlap1_any w.heap.size B A' c' m hm x w2 ((hb2.cell (by simp)).trans hcell) ((h'.below (hbel.mono hB)).below (hb2.mono (by simp; omega)))).mono fun e w' ⟨he, hw⟩ => ⟨he, by rw [hw]; exact Below.refl _ _⟩
  have hc := hid (containsFunc_any _ _ _ _ ht (enters_of Try.func59 (by kernel_rfl) rfl) B A c l hl _ (Below.refl _ _) (h.below (hbel.mono hB)) (by simp; omega))
  have HB := hid hbel
  clear h h' hbel hcell ht
  go_enter Try.func41, Try.ntmps41
  go_wp2_with fail
  refine hc.out.mono ?_
  rintro e w' ⟨rfl, hb⟩
  have HB2 := hid hb
  clear hb
  go_wp2
  go_ret
  exact ⟨rfl, HB.out.trans (HB2.out.mono (by simp))⟩
set_option maxHeartbeats 400000 in
theorem ordered_any (B : Nat) (A : Option Addr) (c : Nat) (l : List Int) (hl : l.length ≤ 100000) (w : World) (h : IsInts w B A l) :
    Calls Try.prog 40 #[.slice A l.length c] w fun e w' => e = .returned (.bool (Qu.node l)) ∧ w' = w := by
  go_enter Try.func40, Try.ntmps40
  go_wp2
  go_loopw [3, 8] (fun v i wr => ∃ k : Nat, ∃ y : Int, k ≤ l.length ∧ v = .int .i64 y ∧ i = .int .i64 k ∧ wr = w ∧ 0 ≤ y ∧ Hid (y = Qu.last l k) ∧ Hid (Qu.node (l.take k) = true)) (fun _ i _ => l.length - (RowKit.intOf i).toNat)
  case atStart => exact ⟨0, 0, by omega, rfl, rfl, rfl, by omega, hid (Qu.last_zero l).symm, hid (by simp [Qu.node])⟩
  case round =>
    obtain ⟨k, y, hk, rfl, rfl, rfl, hy, hy0, hs⟩ := hrel
    by_cases hlt : k < l.length
    · obtain ⟨b, off, rfl, _, hc⟩ := h.cells k hlt
      have hck := hc k hlt
      have HST := hid (Qu.node_step_last hlt hs.out)
      have HLS := hid (Qu.last_succ l k hlt)
      clear hc h
      generalize hz : l[k] = z at *
      clear hz
      by_cases h1 : y < z
      · by_cases h2 : z ≤ 7
        · have h1' : ¬ z ≤ y := by omega
          have h2' : ¬ 7 < z := by omega
          go_wp2
          go_roundw
          case rel => exact ⟨k + 1, z, by omega, rfl, by go_num, trivial, by omega, hid HLS.out.symm, hid (by rw [HST.out]; exact decide_eq_true ⟨by rw [← hy0.out]; exact h1, by omega, h2⟩)⟩
          case measure => simp [RowKit.intOf]; omega
        · have h1' : ¬ z ≤ y := by omega
          have h2' : 7 < z := by omega
          go_wp2
          go_ret
          refine ⟨?_, rfl⟩
          rw [Qu.node_false (l := l) (k := k + 1) (by rw [HST.out]; exact decide_eq_false (by rintro ⟨_, _, h⟩; omega))]; rfl
      · have h1' : z ≤ y := by omega
        go_wp2
        go_ret
        refine ⟨?_, rfl⟩
        rw [Qu.node_false (l := l) (k := k + 1) (by rw [HST.out]; exact decide_eq_false (by rintro ⟨h, _⟩; rw [← hy0.out] at h; omega))]; rfl
    · obtain rfl : k = l.length := by omega
      have := hs.out
      rw [List.take_length] at this
      have HF := hid this
      clear this
      go_wp2
      go_ret
      exact ⟨by rw [HF.out]; rfl, rfl⟩
end Go.Proofs.Ytfkjahpcpmcefaa
namespace Go.Proofs.Ytfkjahpcpmcefaa
open Go.RowKit
theorem under_int : Try.prog.underlying 3 = some (.int .i64) := by kernel_rfl
set_option maxRecDepth 100000 in
set_option maxHeartbeats 400000 in
theorem grow_none (n : Nat) (hn : n ≤ 17592186044000) (w : World) :
    Calls Try.prog 69 #[.slice none 0 0, .int .i64 (n : Int)] w fun e w' => ∃ A' c', e = .returned (.slice A' 0 c') ∧ OwnsI 3 w' w.heap.size A' c' [] ∧ Below w.heap.size w w' := by
  obtain ⟨i0, hi, hz0, hz1, hz2⟩ := info_parts I.info_int
  by_cases h0 : 0 < n
  · go_enter Try.func69, Try.ntmps69
    go_wp2_with (at_builtin; refine Lib.wpList_append_run _ rfl _ _ 22 3 rfl (.slice none 0 0) (.int .i64 (n : Int)) rfl rfl _ _ (Lib.run_append_nil_zeros _ 22 3 _ 3 i0 (.int .i64 0) .i64 .i64 Try.underlying22 under_int hi hz0 n h0 (by rw [hz1]; decide) (by omega) (by rw [hz2]; omega)) ?_)
    have hcap1 := grownCap_ge w n 0 3
    have hcap2 := grownCap_le_maxLen w n 0 3 (by unfold maxLen; omega)
    obtain ⟨cap, hcap⟩ : ∃ cap, cap = grownCap w n 0 3 := ⟨_, rfl⟩
    rw [← hcap] at hcap1 hcap2 ⊢
    have HO : Hid (OwnsI 3 (w.drew.alloc (.cells (Builtin.zeroCells (Value.int .i64 0).cells n ++ Builtin.zeroCells (Value.int .i64 0).cells (cap - n)) 3)) w.heap.size (some ⟨w.heap.size, 0, none⟩) cap []) := by
      refine ⟨by simp, by simp [ints], .inr ⟨w.heap.size, cap, _, rfl, Nat.le_refl _, heap_alloc_new w.drew _, Nat.zero_le _, hcap2, ?_, by simp [ints]⟩⟩
      rw [Array.size_append, size_zeroCells, size_zeroCells]
      show n * 1 + (cap - n) * 1 = cap * 1
      omega
    have HB : Hid (Below w.heap.size w (w.drew.alloc (.cells (Builtin.zeroCells (Value.int .i64 0).cells n ++ Builtin.zeroCells (Value.int .i64 0).cells (cap - n)) 3))) :=
      (Below.refl _ _).drew.alloc (Nat.le_refl _) _
    unfold maxLen at hcap2
    have HC := hid hcap
    clear hcap
    go_wp2
    go_ret
    exact ⟨_, _, rfl, HO.out, HB.out⟩
  · obtain rfl : n = 0 := by omega
    go_enter Try.func69, Try.ntmps69
    go_wp2
    go_ret
    exact ⟨none, 0, rfl, OwnsI.nil _ _ _, Below.refl _ _⟩
end Go.Proofs.Ytfkjahpcpmcefaa
namespace Go.Proofs.Ytfkjahpcpmcefaa
open Go.RowKit Go.Maps Go.Sort Go.Shelf
def sortA_ren : Go.Shelf.Ren := ⟨fun | 5 => 62 | 8 => 71 | 7 => 70 | 19 => 81 | 20 => 82 | 10 => 72 | 11 => 73 | 12 => 74 | 13 => 75 | 14 => 76 | 15 => 77 | 16 => 78 | 17 => 79 | 18 => 80 | 30 => 83 | 31 => 84 | 32 => 85 | 33 => 86 | 34 => 87 | 35 => 88 | 40 => 89 | n => n, fun | 23 => 22 | 25 => 3 | 3 => 3 | 32 => 73 | 22 => 22 | 0 => 0 | 44 => 84 | 46 => 86 | 4 => 4 | 36 => 76 | 35 => 75 | 41 => 81 | 5 => 5 | 9 => 9 | 53 => 87 | 57 => 91 | 63 => 93 | 64 => 94 | n => n, fun n => n⟩
theorem sortA : Go.Proofs.SlLaysM.n5 Try.prog sortA_ren := {
  mixed := by kernel_rfl
  f5 := ⟨Try.f62.name, by decide, Try.func62.trans (congrArg some (by kernel_rfl))⟩
  f7 := ⟨Try.f70.name, by decide, Try.func70.trans (congrArg some (by kernel_rfl))⟩
  f8 := Try.func71.trans (congrArg some (by kernel_rfl))
  f10 := ⟨Try.f72.name, by decide, Try.func72.trans (congrArg some (by kernel_rfl))⟩
  f11 := ⟨Try.f73.name, by decide, Try.func73.trans (congrArg some (by kernel_rfl))⟩
  f12 := ⟨Try.f74.name, by decide, Try.func74.trans (congrArg some (by kernel_rfl))⟩
  f13 := ⟨Try.f75.name, by decide, Try.func75.trans (congrArg some (by kernel_rfl))⟩
  f14 := ⟨Try.f76.name, by decide, Try.func76.trans (congrArg some (by kernel_rfl))⟩
  f15 := ⟨Try.f77.name, by decide, Try.func77.trans (congrArg some (by kernel_rfl))⟩
  f16 := ⟨Try.f78.name, by decide, Try.func78.trans (congrArg some (by kernel_rfl))⟩
  f17 := ⟨Try.f79.name, by decide, Try.func79.trans (congrArg some (by kernel_rfl))⟩
  f18 := ⟨Try.f80.name, by decide, Try.func80.trans (congrArg some (by kernel_rfl))⟩
  f19 := Try.func81.trans (congrArg some (by kernel_rfl))
  f20 := Try.func82.trans (congrArg some (by kernel_rfl))
  f30 := ⟨Try.f83.name, by decide, Try.func83.trans (congrArg some (by kernel_rfl))⟩
  f31 := Try.func84.trans (congrArg some (by kernel_rfl))
  f32 := Try.func85.trans (congrArg some (by kernel_rfl))
  f33 := ⟨Try.f86.name, by decide, Try.func86.trans (congrArg some (by kernel_rfl))⟩
  f34 := ⟨Try.f87.name, by decide, Try.func87.trans (congrArg some (by kernel_rfl))⟩
  f35 := ⟨Try.f88.name, by decide, Try.func88.trans (congrArg some (by kernel_rfl))⟩
  f40 := ⟨Try.f89.name, by decide, Try.func89.trans (congrArg some (by kernel_rfl))⟩
  t0 := Try.underlying0
  a0 := Try.isAgg0
  z0 := Try.sizeOf0
  v0 := Try.zeroValue0
  t3 := Try.underlying3
  a3 := Try.isAgg3
  z3 := Try.sizeOf3
  v3 := Try.zeroValue3
  t4 := Try.underlying4
  a4 := Try.isAgg4
  z4 := Try.sizeOf4
  v4 := Try.zeroValue4
  t5 := Try.underlying5
  a5 := Try.isAgg5
  z5 := Try.sizeOf5
  v5 := Try.zeroValue5
  t9 := Try.underlying9
  a9 := Try.isAgg9
  z9 := Try.sizeOf9
  v9 := Try.zeroValue9
  t22 := Try.underlying22
  a22 := Try.isAgg22
  z22 := Try.sizeOf22
  v22 := Try.zeroValue22
  t23 := Try.underlying22
  a23 := Try.isAgg22
  z23 := Try.sizeOf22
  v23 := Try.zeroValue22
  t25 := Try.underlying3
  a25 := Try.isAgg3
  z25 := Try.sizeOf3
  v25 := Try.zeroValue3
  t32 := Try.underlying73
  a32 := Try.isAgg73
  z32 := Try.sizeOf73
  v32 := Try.zeroValue73
  t35 := Try.underlying75
  a35 := Try.isAgg75
  z35 := Try.sizeOf75
  v35 := Try.zeroValue75
  t36 := Try.underlying76
  a36 := Try.isAgg76
  z36 := Try.sizeOf76
  v36 := Try.zeroValue76
  t41 := Try.underlying81
  a41 := Try.isAgg81
  z41 := Try.sizeOf81
  v41 := Try.zeroValue81
  t44 := Try.underlying84
  a44 := Try.isAgg84
  z44 := Try.sizeOf84
  v44 := Try.zeroValue84
  t46 := Try.underlying86
  a46 := Try.isAgg86
  z46 := Try.sizeOf86
  v46 := Try.zeroValue86
  t53 := Try.underlying87
  a53 := Try.isAgg87
  z53 := Try.sizeOf87
  v53 := Try.zeroValue87
  t57 := Try.underlying91
  a57 := Try.isAgg91
  z57 := Try.sizeOf91
  v57 := Try.zeroValue91
  t63 := Try.underlying93
  a63 := Try.isAgg93
  z63 := Try.sizeOf93
  v63 := Try.zeroValue93
  t64 := Try.underlying94
  a64 := Try.isAgg94
  z64 := Try.sizeOf94
  v64 := Try.zeroValue94 }
set_option maxRecDepth 100000 in
theorem sort_own (base : Nat) (A : Option Addr) (c : Nat) (l : List Int) (hl : l.length ≤ 17592186044000) (w : World) (h : OwnsI 3 w base A c l) :
    Calls Try.prog 62 #[.slice A l.length c] w fun e w' => e = .returned (.tuple #[]) ∧ OwnsI 3 w' base A c (l.mergeSort (fun x y => decide (x ≤ y))) ∧ w.grownBy w' (blk A) := by
  have hsm : ∀ x ∈ l.mergeSort (fun x y => decide (x ≤ y)), InInt x := fun x hx => h.small x ((List.mergeSort_perm l _).mem_iff.1 hx)
  rcases h.row.2 with ⟨hv, h0⟩ | ⟨g, cap, cur, hv, hg, hgb, hc, h2, h3, h4⟩
  · have hl0 : l = [] := List.eq_nil_of_length_eq_zero h0
    subst hl0
    refine (AnyM.slices_Sort_int_none sortA A c w).mono ?_
    rintro e w' ⟨rfl, rfl⟩
    exact ⟨rfl, by simpa using h, grown_refl _ _⟩
  · obtain ⟨rfl, rfl⟩ : A = some ⟨g, 0, none⟩ ∧ c = cap := by injection hv with h1 h2 h3; exact ⟨h1, h3⟩
    have hH : Holds encZ w g 0 l.toArray := holds_of_block_i hgb (by rw [Nat.mul_one] at h4; exact h4)
    refine (AnyM.slices_Sort_int sortA g 0 c l w hH (Array.getElem?_eq_some_iff.1 hgb).1 (by omega)).mono ?_
    rintro e w' ⟨rfl, n, os, rfl⟩
    refine ⟨rfl, ⟨hsm, ?_⟩, grownBy_sorted_i _⟩
    have hlen : (l.mergeSort (fun x y => decide (x ≤ y))).length = l.length := by simp
    rw [hlen]
    exact ownsRow_sorted_i hlen hg hgb hc h2 h3
end Go.Proofs.Ytfkjahpcpmcefaa
namespace Go.Proofs.Ytfkjahpcpmcefaa
open Go.RowKit Go.Maps Go.Sort Go.Shelf
def compA_ren : Go.Shelf.Ren := ⟨fun | 43 => 63 | n => n, fun | 0 => 0 | 3 => 3 | 4 => 4 | 22 => 22 | 23 => 3 | n => n, fun n => n⟩
theorem compA : Go.Proofs.SlLaysN.n43 Try.prog compA_ren := {
  mixed := by kernel_rfl
  f43 := ⟨Try.f63.name, by decide, Try.func63.trans (congrArg some (by kernel_rfl))⟩
  t0 := Try.underlying0
  a0 := Try.isAgg0
  z0 := Try.sizeOf0
  v0 := Try.zeroValue0
  t3 := Try.underlying3
  a3 := Try.isAgg3
  z3 := Try.sizeOf3
  v3 := Try.zeroValue3
  t4 := Try.underlying4
  a4 := Try.isAgg4
  z4 := Try.sizeOf4
  v4 := Try.zeroValue4
  t22 := Try.underlying22
  a22 := Try.isAgg22
  z22 := Try.sizeOf22
  v22 := Try.zeroValue22
  t23 := Try.underlying3
  a23 := Try.isAgg3
  z23 := Try.sizeOf3
  v23 := Try.zeroValue3
  i23 := by kernel_rfl }
theorem sub_compact (l : List Int) : ∀ x ∈ Lib.compact l, x ∈ l := by
  intro x hx
  unfold Lib.compact Lib.compactUpTo at hx
  obtain ⟨j, hj, rfl⟩ := List.mem_map.1 hx
  have hj := List.mem_range.1 (List.mem_filter.1 hj).1
  have : l.toArray[j]! = l[j] := by simp [hj]
  rw [this]
  exact List.getElem_mem hj
theorem compact_len (l : List Int) : (Lib.compact l).length ≤ l.length := by
  unfold Lib.compact Lib.compactUpTo
  rw [List.length_map]
  have := List.length_filter_le (Lib.keeps l.toArray) (List.range l.length)
  simpa using this
theorem uni_compact {l : List Int} (hs : l.Pairwise (· ≤ ·)) : Qu.Uni (Lib.compact l) l := by
  have hg : ∀ j (h : j < l.length), l.toArray[j]! = l[j] := fun j h => by simp [h]
  constructor
  · unfold Lib.compact Lib.compactUpTo
    rw [List.pairwise_map]
    refine List.Pairwise.imp_of_mem ?_ ((List.pairwise_lt_range (n := l.length)).filter (Lib.keeps l.toArray))
    intro a b ha hb hab
    have hb1 := List.mem_range.1 (List.mem_filter.1 hb).1
    have hb2 := (List.mem_filter.1 hb).2
    unfold Lib.keeps at hb2
    rw [hg a (by omega), hg b hb1]
    rcases of_decide_eq_true hb2 with h0 | h0
    · omega
    · rw [hg b hb1, hg (b - 1) (by omega)] at h0
      have h1 : l[a] ≤ l[b - 1] := by
        rcases Nat.lt_or_eq_of_le (show a ≤ b - 1 by omega) with h2 | h2
        · exact (List.pairwise_iff_getElem.1 hs) a (b - 1) (by omega) (by omega) h2
        · subst h2; omega
      have h2 : l[b - 1] ≤ l[b] := (List.pairwise_iff_getElem.1 hs) (b - 1) b (by omega) hb1 (by omega)
      omega
  · intro x
    refine ⟨sub_compact l x, fun hx => ?_⟩
    obtain ⟨j, hj, rfl⟩ := List.getElem_of_mem hx
    -- the first place that holds it
    have key : ∀ j, ∀ (hj : j < l.length), l[j] ∈ Lib.compact l := by
      intro j
      induction j with
      | zero =>
        intro hj
        unfold Lib.compact Lib.compactUpTo
        exact List.mem_map.2 ⟨0, List.mem_filter.2 ⟨List.mem_range.2 hj, by simp [Lib.keeps]⟩, hg 0 hj⟩
      | succ j ih =>
        intro hj
        by_cases he : l[j + 1] = l[j]
        · rw [he]; exact ih (by omega)
        · unfold Lib.compact Lib.compactUpTo
          refine List.mem_map.2 ⟨j + 1, List.mem_filter.2 ⟨List.mem_range.2 hj, ?_⟩, hg _ hj⟩
          unfold Lib.keeps
          refine decide_eq_true (.inr ?_)
          rw [hg _ hj, show j + 1 - 1 = j from rfl, hg _ (by omega)]
          exact he
    exact key j hj
theorem heap_putRow_g {w : World} {g n : Nat} {cur : Array Value} {e : TypeId} {fr : Nat × Nat} (d : Array Int) (hb : w.heap[g]? = some (.cells cur e fr)) :
    (putRow encZ (Sort.ahead w n) g 0 d).heap[g]? = some (.cells (putCells encZ 0 d cur) e fr) := by
  have := heap_sorted_i (n := n) (os := #[]) d hb
  rwa [grow_empty] at this
set_option maxRecDepth 100000 in
theorem compact_own (base : Nat) (A : Option Addr) (c : Nat) (l : List Int) (hl : l.length ≤ 17592186044000) (w : World) (h : OwnsI 3 w base A c l) :
    Calls Try.prog 63 #[.slice A l.length c] w fun e w' => e = .returned (.slice A (Lib.compact l).length c) ∧ OwnsI 3 w' base A c (Lib.compact l) ∧ w.grownBy w' (blk A) := by
  have hsm : ∀ x ∈ Lib.compact l, InInt x := fun x hx => h.small x (sub_compact l x hx)
  rcases h.row.2 with ⟨hv, h0⟩ | ⟨g, cap, cur, hv, hg, hgb, hc, h2, h3, h4⟩
  · have hl0 : l = [] := List.eq_nil_of_length_eq_zero h0
    subst hl0
    refine (AnyG.slices_Compact_int_empty compA A c w).mono ?_
    rintro e w' ⟨rfl, rfl⟩
    exact ⟨rfl, h, grown_refl _ _⟩
  · obtain ⟨rfl, rfl⟩ : A = some ⟨g, 0, none⟩ ∧ c = cap := by injection hv with h1 h2 h3; exact ⟨h1, h3⟩
    have hH : Holds encZ w g 0 l.toArray := holds_of_block_i hgb (by rw [Nat.mul_one] at h4; exact h4)
    refine (AnyG.slices_Compact_int compA g 0 c l w hH (by omega) hc).mono ?_
    rintro e w' ⟨rfl, n, rfl⟩
    have hle := compact_len l
    refine ⟨rfl, ⟨hsm, ?_⟩, by have := grownBy_sorted_i (w := w) (g := g) (n := n) (os := #[]) (Lib.compact l ++ List.replicate (l.length - (Lib.compact l).length) 0).toArray; rwa [grow_empty] at this⟩
    refine ⟨by simp [ints], .inr ⟨g, c, _, rfl, hg, heap_putRow_g _ hgb, by omega, h2, by simp [putCells, h3], ?_⟩⟩
    rw [Nat.mul_one]
    have hts : (Lib.compact l ++ List.replicate (l.length - (Lib.compact l).length) (0 : Int)).length = l.length := by simp; omega
    have ht := take_putCells_i cur (Lib.compact l ++ List.replicate (l.length - (Lib.compact l).length) (0 : Int)) (by rw [hts]; omega)
    have h5 := congrArg (fun xs => xs.take (Lib.compact l).length) ht
    simp only [List.take_take] at h5
    rw [hts, Nat.min_eq_left hle] at h5
    rw [h5, ← List.map_take, List.take_left']
    · rfl
    · rfl
end Go.Proofs.Ytfkjahpcpmcefaa
namespace Go.Proofs.Ytfkjahpcpmcefaa
open Go.RowKit
structure IRows (w : World) (B b : Nat) (L : List (List Int)) : Prop where
  at_ : ∀ i (h : i < L.length), ∃ a k, w.cell? ⟨b, i, none⟩ = some (.slice a L[i].length k) ∧ IsInts w B a L[i] ∧ (a = none → k = 0)
theorem flat_step (L : List (List Int)) (k : Nat) (h : k < L.length) : (L.take (k + 1)).flatten = (L.take k).flatten ++ L[k] := by
  rw [List.take_succ_eq_append_getElem h, List.flatten_append]; simp
theorem flat_le (L : List (List Int)) (k : Nat) : (L.take k).flatten.length ≤ L.flatten.length := by
  have h : L.flatten.length = (L.take k ++ L.drop k).flatten.length := by rw [List.take_append_drop]
  rw [List.flatten_append, List.length_append] at h
  omega
set_option maxRecDepth 100000 in
set_option maxHeartbeats 1000000 in
theorem concat_any (B b : Nat) (L : List (List Int)) (c : Nat) (hL : L.length ≤ 1000) (hF : L.flatten.length ≤ 100000) (w : World) (h0 : IRows w B b L) (hb : b < w.heap.size) (hB : B ≤ w.heap.size) :
    Calls Try.prog 61 #[.slice (some ⟨b, 0, none⟩) L.length c] w fun e w' => ∃ A c', e = .returned (.slice A L.flatten.length c') ∧ OwnsI 3 w' w.heap.size A c' L.flatten ∧ Below w.heap.size w w' := by
  obtain ⟨i0, hi, hz0, hz1, hz2⟩ := info_parts I.info_int
  have h := hid h0
  have HF := hid hF
  clear h0 hF
  go_enter Try.func61, Try.ntmps61
  go_wp2_with fail
  go_loopw [3, 11] (fun v i wr => ∃ k m : Nat, k ≤ L.length ∧ m ≤ 100000 ∧ v = .int .i64 m ∧ i = .int .i64 k ∧ w = wr ∧ Hid (m = (L.take k).flatten.length)) (fun _ i _ => L.length - (RowKit.intOf i).toNat)
  case atStart => exact ⟨0, 0, by omega, by omega, rfl, rfl, rfl, hid (by simp)⟩
  case round =>
    obtain ⟨k, m, hk, hm, rfl, rfl, rfl, hs⟩ := hrel
    by_cases hlt : k < L.length
    · obtain ⟨a, ka, hcell, _, _⟩ := h.out.at_ k hlt
      have hst := flat_step L k hlt
      have hle := flat_le L (k + 1)
      rw [hst, List.length_append, ← hs.out] at hle
      have hm2 : m + L[k].length ≤ 100000 := by have := HF.out; omega
      have HS := hid hst
      clear hst hle
      generalize hn : L[k].length = n at *
      have HN := hid hn
      clear hn
      have hneg : ¬ ((m : Int) + (n : Int) < 0) := by omega
      go_wp2_with fail
      go_roundw
      case rel => exact ⟨k + 1, m + n, by omega, hm2, by go_num, by go_num, trivial, hid (by rw [HS.out, List.length_append, ← hs.out, HN.out])⟩
      case measure => simp [RowKit.intOf]; omega
    · obtain rfl : k = L.length := by omega
      have HG := hid (grow_none m (by omega) w)
      go_wp2_with fail
      refine HG.out.mono ?_
      rintro e w1 ⟨A1, c1, rfl, hown1, hbel1⟩
      have HO := hid hown1
      have HB := hid hbel1
      clear hown1 hbel1 HG
      go_wp2_with fail
      go_loopw [6, 27] (fun v i wr => ∃ (k : Nat) (A : Option Addr) (c2 : Nat), k ≤ L.length ∧ v = .slice A (L.take k).flatten.length c2 ∧ i = .int .i64 k ∧ OwnsI 3 wr w.heap.size A c2 (L.take k).flatten ∧ Below w.heap.size w wr) (fun _ i _ => L.length - (RowKit.intOf i).toNat)
      case atStart => exact ⟨0, A1, c1, by omega, by simp, rfl, by simpa using HO.out, HB.out⟩
      case round =>
        clear HO HB
        obtain ⟨k, A, c2, hk, rfl, rfl, hown, hbel⟩ := hrel
        by_cases hlt : k < L.length
        · obtain ⟨a, ka, hcell0, hrow, hnil⟩ := h.out.at_ k hlt
          have hcell : wr.cell? ⟨b, k, none⟩ = some (.slice a L[k].length ka) := (hbel.cell (by exact hb)).trans hcell0
          have hrow2 : IsInts wr w.heap.size a L[k] := (hrow.more hB).below hbel
          have hst := flat_step L k hlt
          have hle := flat_le L (k + 1)
          rw [hst, List.length_append] at hle
          have hbase := hbel.size
          have H3 := hid (And.intro hown hbel)
          have hsum : ((L.take k).flatten.length + L[k].length) * 8 ≤ 140737488355328 := by have := HF.out; omega
          have HL := hid hst
          have hlen : (L.take (k + 1)).flatten.length = (L.take k).flatten.length + L[k].length := by rw [hst, List.length_append]
          have HN := hid hlen
          clear hst hle hrow hcell0 hlen
          go_wp2_with (at_builtin; refine wpList_append_intsN rfl _ _ 22 rfl w.heap.size 3 i0 Try.underlying22 hi hz0 hz1 hz2 A c2 (L.take k).flatten _ rfl rfl hown w.heap.size a ka L[k] _ rfl rfl hnil hrow2 (L.take (k + 1)).flatten HL.out.symm hsum hbase ?_)
          intro A3 c3 w3 hown3 hbel3
          have H4 := hid (And.intro hown3 (H3.out.2.trans hbel3))
          clear hown3 hbel3 hown hbel
          go_wp2_with fail
          go_roundw
          case rel => exact ⟨k + 1, A3, c3, by omega, by rw [HN.out]; simp, by go_num, H4.out.1, H4.out.2⟩
          case measure => simp [RowKit.intOf]; omega
        · obtain rfl : k = L.length := by omega
          rw [List.take_length] at hown
          have H3 := hid (And.intro hown hbel)
          clear hown hbel
          go_wp2_with fail
          go_ret
          exact ⟨A, c2, ret_len (by rw [List.take_length]), H3.out.1, H3.out.2⟩
theorem merge_sorted (l : List Int) : (l.mergeSort (fun x y => decide (x ≤ y))).Pairwise (· ≤ ·) := by
  have := List.pairwise_mergeSort (le := fun (x y : Int) => decide (x ≤ y)) (fun a b c h1 h2 => by simp at *; omega) (fun a b => by simp; omega) l
  exact this.imp (fun h => by simpa using h)
theorem merged_any (B b : Nat) (L : List (List Int)) (c : Nat) (hL : L.length ≤ 1000) (hF : L.flatten.length ≤ 100000) (w : World) (h0 : IRows w B b L) (hb : b < w.heap.size) (hB : B ≤ w.heap.size) :
    Calls Try.prog 44 #[.slice (some ⟨b, 0, none⟩) L.length c] w fun e w' => ∃ A c', e = .returned (.slice A (Qu.uni L.flatten).length c') ∧ OwnsI 3 w' w.heap.size A c' (Qu.uni L.flatten) ∧ Below w.heap.size w w' := by
  have hc := hid (concat_any B b L c hL hF w h0 hb hB)
  have HF := hid hF
  have hu0 : Lib.compact (L.flatten.mergeSort (fun x y => decide (x ≤ y))) = Qu.uni L.flatten := by
    have h1 := uni_compact (merge_sorted L.flatten)
    refine Qu.Uni.unique (l := L.flatten) ⟨h1.1, fun x => (h1.2 x).trans (List.mergeSort_perm _ _).mem_iff⟩ (Qu.uni_is _)
  have hsz0 : (L.flatten.mergeSort (fun x y => decide (x ≤ y))).length = L.flatten.length := by simp
  have hs0 := fun A c1 w1 hown => sort_own w.heap.size A c1 L.flatten (by have := HF.out; omega) w1 hown
  generalize L.flatten.mergeSort (fun x y => decide (x ≤ y)) = M at *
  generalize Qu.uni L.flatten = U at *
  generalize L.flatten = F at *
  subst hu0
  have HS0 := hid hs0
  clear h0 hF hs0
  go_enter Try.func44, Try.ntmps44
  go_wp2_with fail
  refine hc.out.mono ?_
  rintro e w1 ⟨A, c1, rfl, hown, hbel⟩
  have HB := hid hbel
  have hs := hid (HS0.out A c1 w1 hown)
  have hlt := hown.blkLt
  have HLT := hid hlt
  clear hown hbel hlt hc
  go_wp2_with fail
  refine hs.out.mono ?_
  rintro e w2 ⟨rfl, hown2, hg2⟩
  have HB2 := hid (below_grown hg2 HB.out.size (fun k e => (HLT.out k e).1))
  have hcomp := compact_own w.heap.size A c1 M (by rw [hsz0]; have := HF.out; omega) w2 hown2
  rw [hsz0] at hcomp
  have hc2 := hid hcomp
  clear hown2 hg2 hs hcomp
  go_wp2_with fail
  refine hc2.out.mono ?_
  rintro e w3 ⟨rfl, hown3, hg3⟩
  have HB3 := hid (below_grown hg3 (Nat.le_trans HB.out.size HB2.out.size) (fun k e => (HLT.out k e).1))
  have HO3 := hid hown3
  clear hown3 hg3
  go_wp2_with fail
  go_ret
  exact ⟨A, c1, rfl, HO3.out, HB.out.trans (HB2.out.trans HB3.out)⟩
set_option maxHeartbeats 400000 in
theorem voters_any (B : Nat) (c : Qu.Cf) (hs : Short c) (a0 a1 a2 : Option Addr) (k0 k1 k2 : Nat) (w : World) (h : CIs w B c a0 a1 a2 k0 k1 k2) (hB : B ≤ w.heap.size) :
    Calls Try.prog 23 #[.agg #[.slice a0 c.old.length k0, .slice a1 c.new.length k1, .slice a2 c.lrn.length k2]] w fun e w' => ∃ A c', e = .returned (.slice A (Qu.uni (c.old ++ c.new)).length c') ∧ OwnsI 3 w' w.heap.size A c' (Qu.uni (c.old ++ c.new)) ∧ Below w.heap.size w w' := by
  have hb1 : Below w.heap.size w ((w.alloc (.cells #[.slice a0 c.old.length k0, .slice a1 c.new.length k1, .slice a2 c.lrn.length k2] 24)).alloc (.cells #[.slice a0 c.old.length k0, .slice a1 c.new.length k1] 22)) :=
    ((Below.refl _ _).alloc (Nat.le_refl _) _).alloc (by simp) _
  have hR : IRows ((w.alloc (.cells #[.slice a0 c.old.length k0, .slice a1 c.new.length k1, .slice a2 c.lrn.length k2] 24)).alloc (.cells #[.slice a0 c.old.length k0, .slice a1 c.new.length k1] 22)) B (w.heap.size + 1) [c.old, c.new] := by
    refine ⟨fun i hi => ?_⟩
    have hrow : ∀ j, ((w.alloc (.cells #[.slice a0 c.old.length k0, .slice a1 c.new.length k1, .slice a2 c.lrn.length k2] 24)).alloc (.cells #[.slice a0 c.old.length k0, .slice a1 c.new.length k1] 22)).cell? ⟨w.heap.size + 1, j, none⟩ = (#[.slice a0 c.old.length k0, .slice a1 c.new.length k1] : Array Value)[j]? := fun j => by
      have := cell_of_row ((w.alloc (.cells #[.slice a0 c.old.length k0, .slice a1 c.new.length k1, .slice a2 c.lrn.length k2] 24)).alloc (.cells #[.slice a0 c.old.length k0, .slice a1 c.new.length k1] 22)) (w.heap.size + 1) j #[.slice a0 c.old.length k0, .slice a1 c.new.length k1] 22 (0, 0) (by have := heap_alloc_new (w.alloc (.cells #[.slice a0 c.old.length k0, .slice a1 c.new.length k1, .slice a2 c.lrn.length k2] 24)) (.cells #[.slice a0 c.old.length k0, .slice a1 c.new.length k1] 22); rwa [World.size_alloc] at this)
      exact this
    match i, hi with
    | 0, _ => exact ⟨a0, k0, hrow 0, h.o.below (hb1.mono hB), h.zo⟩
    | 1, _ => exact ⟨a1, k1, hrow 1, h.n.below (hb1.mono hB), h.zn⟩
  have hfl : [c.old, c.new].flatten = c.old ++ c.new := by simp
  have hlen : [c.old, c.new].flatten.length ≤ 100000 := by rw [hfl, List.length_append]; have := hs.1; have := hs.2.1; omega
  have hM := merged_any B (w.heap.size + 1) [c.old, c.new] 2 (by simp) hlen _ hR (by simp) (by simp; omega)
  rw [hfl] at hM
  have HM := hid hM
  have HB := hid hb1
  clear hM hb1 hR h hfl hlen
  go_enter Try.func23, Try.ntmps23
  go_wp2_with fail
  refine HM.out.mono ?_
  rintro e w3 ⟨A, c1, rfl, hown, hbel⟩
  have HO := hid hown
  have HB2 := hid hbel
  clear hown hbel HM
  go_wp2_with fail
  go_ret
  exact ⟨A, c1, rfl, HO.out.weaken (by simp; omega), HB.out.trans (HB2.out.mono (by simp; omega))⟩
end Go.Proofs.Ytfkjahpcpmcefaa
namespace Go.Proofs.Ytfkjahpcpmcefaa
open Go.RowKit
theorem any_dec (l m : List Int) : (l.any fun x => decide (x ∈ m)) = !decide (∀ x ∈ l, ¬ x ∈ m) := by
  rw [Bool.eq_iff_iff, List.any_eq_true]
  simp
theorem Qu.err_of {c : Qu.Cf} (h0 : c.old ≠ []) (h1 : Qu.node c.old = true) (h2 : Qu.node c.new = true) (h3 : Qu.node c.lrn = true) : Qu.err c = if c.lrn.any (fun x => decide (x ∈ Qu.uni (c.old ++ c.new))) then 29 else 0 := by
  unfold Qu.err Qu.ok
  rw [h1, h2, h3, any_dec]
  have h4 : c.old.isEmpty = false := by rw [← Bool.not_eq_true, List.isEmpty_iff]; exact h0
  rw [h4]
  have h5 : decide (∀ x ∈ c.lrn, ¬ x ∈ Qu.uni (c.old ++ c.new)) = decide (∀ x ∈ c.lrn, ¬ (x ∈ c.old ∨ x ∈ c.new)) :=
    decide_eq_decide.2 ⟨fun h x hx hm => h x hx (Qu.uni_mem.2 (List.mem_append.2 hm)), fun h x hx hm => h x hx (List.mem_append.1 (Qu.uni_mem.1 hm))⟩
  rw [h5]
  cases decide (∀ x ∈ c.lrn, ¬ (x ∈ c.old ∨ x ∈ c.new)) <;> rfl
theorem Qu.err_29 {c : Qu.Cf} (h : c.old = [] ∨ Qu.node c.old = false ∨ Qu.node c.new = false ∨ Qu.node c.lrn = false) : Qu.err c = 29 := by
  unfold Qu.err Qu.ok
  rcases h with h | h | h | h <;> rw [h] <;> simp
structure Box3 (w : World) (b : Nat) (v0 v1 v2 : Value) : Prop where
  c0 : w.cell? ⟨b, 0, none⟩ = some v0
  c1 : w.cell? ⟨b, 1, none⟩ = some v1
  c2 : w.cell? ⟨b, 2, none⟩ = some v2
theorem Box3.below {w w' : World} {B b : Nat} {v0 v1 v2 : Value} (h : Box3 w b v0 v1 v2) (hb : Below B w w') (hlt : b < B) : Box3 w' b v0 v1 v2 :=
  ⟨(hb.cell (p := ⟨b, 0, none⟩) hlt).trans h.c0, (hb.cell (p := ⟨b, 1, none⟩) hlt).trans h.c1, (hb.cell (p := ⟨b, 2, none⟩) hlt).trans h.c2⟩
set_option maxRecDepth 100000 in
set_option maxHeartbeats 1000000 in
theorem check_any (B : Nat) (c : Qu.Cf) (hs0 : Short c) (a0 a1 a2 : Option Addr) (k0 k1 k2 : Nat) (w : World) (h0 : CIs w B c a0 a1 a2 k0 k1 k2) (hB : B ≤ w.heap.size) :
    Calls Try.prog 20 #[.agg #[.slice a0 c.old.length k0, .slice a1 c.new.length k1, .slice a2 c.lrn.length k2]] w fun e w' => e = .returned (.int .i64 (Qu.err c)) ∧ Below w.heap.size w w' := by
  obtain ⟨wb, hwb⟩ : ∃ wb, wb = w.alloc (.cells #[.slice a0 c.old.length k0, .slice a1 c.new.length k1, .slice a2 c.lrn.length k2] 24) := ⟨_, rfl⟩
  have hbel : Below w.heap.size w wb := by rw [hwb]; exact (Below.refl _ _).alloc (Nat.le_refl _) _
  have hsz : wb.heap.size = w.heap.size + 1 := by rw [hwb]; simp
  have hrow : wb.heap[w.heap.size]? = some (.cells #[.slice a0 c.old.length k0, .slice a1 c.new.length k1, .slice a2 c.lrn.length k2] 24 (0, 0)) := by rw [hwb]; exact heap_alloc_new w _
  have c0 : wb.cell? ⟨w.heap.size, 0, none⟩ = some (.slice a0 c.old.length k0) := cell_of_row wb w.heap.size 0 _ _ _ hrow
  have c1 : wb.cell? ⟨w.heap.size, 1, none⟩ = some (.slice a1 c.new.length k1) := cell_of_row wb w.heap.size 1 _ _ _ hrow
  have c2 : wb.cell? ⟨w.heap.size, 2, none⟩ = some (.slice a2 c.lrn.length k2) := cell_of_row wb w.heap.size 2 _ _ _ hrow
  have hI := h0.below (hbel.mono hB)
  have HB := hid hbel
  have HI := hid hI
  have hs := hid hs0
  have HO := hid (ordered_any B a0 k0 c.old (by have := hs0.1; omega) wb hI.o)
  have HN := hid (ordered_any B a1 k1 c.new (by have := hs0.2.1; omega) wb hI.n)
  have HL := hid (ordered_any B a2 k2 c.lrn (by have := hs0.2.2; omega) wb hI.l)
  have HV := hid (voters_any B c hs0 a0 a1 a2 k0 k1 k2 wb.drew (hI.drewN 1) (by show B ≤ wb.heap.size; omega))
  have HF := hid (And.intro hB hsz)
  clear hbel hI h0 hs0 hsz hrow hB
  by_cases hz : c.old = []
  · have HE := hid (Qu.err_29 (c := c) (.inl hz))
    have hl : c.old.length = 0 := by rw [hz]; rfl
    rw [HE.out]
    clear hz HO HN HL HV
    rw [hl] at c0
    rw [hl] at hwb ⊢
    clear hl
    go_enter Try.func20, Try.ntmps20
    go_wp2
    rw [← hwb]; clear hwb
    go_ret
    exact ⟨rfl, HB.out⟩
  have hzl : 0 < c.old.length := List.length_pos_iff.2 hz
  have hzb : ((c.old.length : Int) == 0) = false := by rw [beq_eq_false_iff_ne]; omega
  have HZ := hid hz
  clear hz
  cases ho : Qu.node c.old
  · have HE := hid (Qu.err_29 (c := c) (.inr (.inl ho)))
    rw [ho] at HO
    rw [HE.out]
    clear ho HN HL HV
    go_enter Try.func20, Try.ntmps20
    go_wp2_with fail
    rw [← hwb]; clear hwb
    refine HO.out.mono ?_
    rintro e w1 ⟨rfl, rfl⟩
    go_wp2
    go_ret
    exact ⟨rfl, HB.out⟩
  cases hn : Qu.node c.new
  · have HE := hid (Qu.err_29 (c := c) (.inr (.inr (.inl hn))))
    rw [ho] at HO
    rw [hn] at HN
    rw [HE.out]
    clear ho hn HL HV
    go_enter Try.func20, Try.ntmps20
    go_wp2_with fail
    rw [← hwb]; clear hwb
    refine HO.out.mono ?_
    rintro e w1 ⟨rfl, rfl⟩
    go_wp2_with fail
    refine HN.out.mono ?_
    rintro e w1 ⟨rfl, rfl⟩
    go_wp2
    go_ret
    exact ⟨rfl, HB.out⟩
  cases hl : Qu.node c.lrn
  · have HE := hid (Qu.err_29 (c := c) (.inr (.inr (.inr hl))))
    rw [ho] at HO
    rw [hn] at HN
    rw [hl] at HL
    rw [HE.out]
    clear ho hn hl HV
    go_enter Try.func20, Try.ntmps20
    go_wp2_with fail
    rw [← hwb]; clear hwb
    refine HO.out.mono ?_
    rintro e w1 ⟨rfl, rfl⟩
    go_wp2_with fail
    refine HN.out.mono ?_
    rintro e w1 ⟨rfl, rfl⟩
    go_wp2_with fail
    refine HL.out.mono ?_
    rintro e w1 ⟨rfl, rfl⟩
    go_wp2
    go_ret
    exact ⟨rfl, HB.out⟩
  · have HE := hid (Qu.err_of HZ.out ho hn hl)
    rw [ho] at HO
    rw [hn] at HN
    rw [hl] at HL
    rw [HE.out]
    clear ho hn hl
    have hul : (Qu.uni (c.old ++ c.new)).length ≤ 40000 := by
      have := (Qu.uni_is (c.old ++ c.new)).length_le
      rw [List.length_append] at this
      have := hs.out.1; have := hs.out.2.1; omega
    obtain ⟨U, hU⟩ : ∃ U, U = Qu.uni (c.old ++ c.new) := ⟨_, rfl⟩
    rw [← hU] at HV hul ⊢
    have HU := hid hU
    clear hU HE
    obtain ⟨ov, hov⟩ : ∃ ov, ov = c.lrn.any fun x => decide (x ∈ U) := ⟨_, rfl⟩
    rw [← hov]
    have HOV := hid hov
    clear hov
    have hbox : Box3 wb.drew w.heap.size (.slice a0 c.old.length k0) (.slice a1 c.new.length k1) (.slice a2 c.lrn.length k2) := ⟨c0, c1, c2⟩
    have HX : Hid (∀ w3 A cp, OwnsI 3 w3 wb.drew.heap.size A cp U → Below wb.drew.heap.size wb.drew w3 → Hid (Box3 w3 w.heap.size (.slice a0 c.old.length k0) (.slice a1 c.new.length k1) (.slice a2 c.lrn.length k2)) ∧
        Hid (Calls Try.prog 41 #[.slice a2 c.lrn.length k2, .slice A U.length cp] w3 fun e w' => e = .returned (.bool ov) ∧ Hid (Box3 w' w.heap.size (.slice a0 c.old.length k0) (.slice a1 c.new.length k1) (.slice a2 c.lrn.length k2)) ∧ Hid (Below w.heap.size w w'))) := hid fun w3 A cp hown3 hbel3 => by
      have h1 := HF.out.1
      have h2 := HF.out.2
      have h3 : wb.drew.heap.size = wb.heap.size := rfl
      have h4 := hbel3.size
      have hK3 := hbox.below hbel3 (by omega)
      have hB3 : Below B wb.drew w3 := hbel3.mono (by omega)
      have h5 : B ≤ w3.heap.size := by omega
      refine ⟨hid hK3, hid ((overlap_any w3.heap.size a2 A k2 cp c.lrn U (by have := hs.out.2.2; omega) (by omega) w3 ((HI.out.l.drew.below hB3).more h5) hown3.reads (Nat.le_refl _)).mono ?_)⟩
      rintro e4 w4 ⟨he, hb4⟩
      exact ⟨by rw [he, HOV.out], hid (hK3.below hb4 (by omega)), hid (bthen (bthen (Below.drew HB.out) hbel3 (by omega)) hb4 (by omega))⟩
    have c0d : wb.drew.cell? ⟨w.heap.size, 0, none⟩ = some (.slice a0 c.old.length k0) := c0
    have c1d : wb.drew.cell? ⟨w.heap.size, 1, none⟩ = some (.slice a1 c.new.length k1) := c1
    have c2d : wb.drew.cell? ⟨w.heap.size, 2, none⟩ = some (.slice a2 c.lrn.length k2) := c2
    go_enter Try.func20, Try.ntmps20
    go_wp2_with fail
    rw [← hwb]; clear hwb
    refine HO.out.mono ?_
    rintro e w1 ⟨rfl, rfl⟩
    go_wp2_with fail
    refine HN.out.mono ?_
    rintro e w1 ⟨rfl, rfl⟩
    go_wp2_with fail
    refine HL.out.mono ?_
    rintro e w1 ⟨rfl, rfl⟩
    go_wp2_with fail
    go_region_held3 (fun w' => w'.cell? ⟨w.heap.size, 0, none⟩ = some (.slice a0 c.old.length k0) ∧ w'.cell? ⟨w.heap.size, 1, none⟩ = some (.slice a1 c.new.length k1) ∧ w'.cell? ⟨w.heap.size, 2, none⟩ = some (.slice a2 c.lrn.length k2))
      (first | exact ⟨c0d, c1d, c2d⟩ | exact ⟨HK3.out.c0, HK3.out.c1, HK3.out.c2⟩ | exact ⟨HK4.out.c0, HK4.out.c1, HK4.out.c2⟩ | fail)
      (first
        | (go_at_call 23; refine HV.out.mono ?_; rintro e3 w3 ⟨A, cp, rfl, hown3, hbel3⟩; obtain ⟨HK3, HO3⟩ := HX.out w3 A cp hown3 hbel3; clear hown3 hbel3)
        | (go_at_call 41; refine HO3.out.mono ?_; rintro e4 w4 ⟨rfl, HK4, HB4⟩))
    cases ov
    · go_wp2
      go_ret
      exact ⟨rfl, HB4.out⟩
    · go_wp2
      go_ret
      exact ⟨rfl, HB4.out⟩
end Go.Proofs.Ytfkjahpcpmcefaa
namespace Go.Proofs.Ytfkjahpcpmcefaa
open Go.RowKit
set_option maxHeartbeats 400000 in
theorem members_any (B : Nat) (c : Qu.Cf) (hs : Short c) (a0 a1 a2 : Option Addr) (k0 k1 k2 : Nat) (w : World) (h : CIs w B c a0 a1 a2 k0 k1 k2) (hB : B ≤ w.heap.size) :
    Calls Try.prog 67 #[.agg #[.slice a0 c.old.length k0, .slice a1 c.new.length k1, .slice a2 c.lrn.length k2]] w fun e w' => ∃ A c', e = .returned (.slice A (Qu.uni (c.old ++ c.new ++ c.lrn)).length c') ∧ OwnsI 3 w' w.heap.size A c' (Qu.uni (c.old ++ c.new ++ c.lrn)) ∧ Below w.heap.size w w' := by
  have hb1 : Below w.heap.size w ((w.alloc (.cells #[.slice a0 c.old.length k0, .slice a1 c.new.length k1, .slice a2 c.lrn.length k2] 24)).alloc (.cells #[.slice a0 c.old.length k0, .slice a1 c.new.length k1, .slice a2 c.lrn.length k2] 22)) :=
    ((Below.refl _ _).alloc (Nat.le_refl _) _).alloc (by simp) _
  have hR : IRows ((w.alloc (.cells #[.slice a0 c.old.length k0, .slice a1 c.new.length k1, .slice a2 c.lrn.length k2] 24)).alloc (.cells #[.slice a0 c.old.length k0, .slice a1 c.new.length k1, .slice a2 c.lrn.length k2] 22)) B (w.heap.size + 1) [c.old, c.new, c.lrn] := by
    refine ⟨fun i hi => ?_⟩
    have hrow : ∀ j, ((w.alloc (.cells #[.slice a0 c.old.length k0, .slice a1 c.new.length k1, .slice a2 c.lrn.length k2] 24)).alloc (.cells #[.slice a0 c.old.length k0, .slice a1 c.new.length k1, .slice a2 c.lrn.length k2] 22)).cell? ⟨w.heap.size + 1, j, none⟩ = (#[.slice a0 c.old.length k0, .slice a1 c.new.length k1, .slice a2 c.lrn.length k2] : Array Value)[j]? := fun j => by
      have := cell_of_row ((w.alloc (.cells #[.slice a0 c.old.length k0, .slice a1 c.new.length k1, .slice a2 c.lrn.length k2] 24)).alloc (.cells #[.slice a0 c.old.length k0, .slice a1 c.new.length k1, .slice a2 c.lrn.length k2] 22)) (w.heap.size + 1) j #[.slice a0 c.old.length k0, .slice a1 c.new.length k1, .slice a2 c.lrn.length k2] 22 (0, 0) (by have := heap_alloc_new (w.alloc (.cells #[.slice a0 c.old.length k0, .slice a1 c.new.length k1, .slice a2 c.lrn.length k2] 24)) (.cells #[.slice a0 c.old.length k0, .slice a1 c.new.length k1, .slice a2 c.lrn.length k2] 22); rwa [World.size_alloc] at this)
      exact this
    match i, hi with
    | 0, _ => exact ⟨a0, k0, hrow 0, h.o.below (hb1.mono hB), h.zo⟩
    | 1, _ => exact ⟨a1, k1, hrow 1, h.n.below (hb1.mono hB), h.zn⟩
    | 2, _ => exact ⟨a2, k2, hrow 2, h.l.below (hb1.mono hB), h.zl⟩
  have hfl : [c.old, c.new, c.lrn].flatten = c.old ++ c.new ++ c.lrn := by simp
  have hlen : [c.old, c.new, c.lrn].flatten.length ≤ 100000 := by rw [hfl, List.length_append, List.length_append]; have := hs.1; have := hs.2.1; have := hs.2.2; omega
  have hM := merged_any B (w.heap.size + 1) [c.old, c.new, c.lrn] 3 (by simp) hlen _ hR (by simp) (by simp; omega)
  rw [hfl] at hM
  have HM := hid hM
  have HB := hid hb1
  clear hM hb1 hR h hfl hlen
  go_enter Try.func67, Try.ntmps67
  go_wp2_with fail
  refine HM.out.mono ?_
  rintro e w3 ⟨A, c1, rfl, hown, hbel⟩
  have HO := hid hown
  have HB2 := hid hbel
  clear hown hbel HM
  go_wp2_with fail
  go_ret
  exact ⟨A, c1, ret_len (by rw [List.append_assoc]), HO.out.weaken (by simp; omega), HB.out.trans (HB2.out.mono (by simp; omega))⟩
end Go.Proofs.Ytfkjahpcpmcefaa
namespace Go.Proofs.Ytfkjahpcpmcefaa.Co
open Go Go.RowKit
open Qu (Cf)
set_option maxRecDepth 100000
set_option linter.unusedVariables false
attribute [local go_sem ↓] Im.loadAt_conf3 Im.storeAt_conf3 loadAt_mem storeAt_mem
theorem check_M (B : Nat) (c : Cf) (hs : Short c) (m : M3) (w : World) (h : InC w B c m) (hB : B ≤ w.heap.size) :
    Calls Try.prog 20 #[.agg #[.slice m.a0 m.n0 m.k0, .slice m.a1 m.n1 m.k1, .slice m.a2 m.n2 m.k2]] w fun e w' => e = .returned (.int .i64 (Qu.err c)) ∧ Below w.heap.size w w' := by
  rw [h.val]; exact check_any B c hs _ _ _ _ _ _ w h.cis hB
theorem err_t {c : Cf} (h : Qu.ok c = true) : Qu.err c = 0 := by unfold Qu.err; rw [h]; rfl
theorem err_f {c : Cf} (h : Qu.ok c = false) : Qu.err c = 29 := by unfold Qu.err; rw [h]; rfl
theorem below_new (w : World) (o : Obj) : Below w.heap.size w (w.alloc o) := (Below.refl _ w).alloc (Nat.le_refl _) _
theorem invalid_any (B : Nat) (c : Cf) (hs : Short c) (m : M3) (w : World) (h : InC w B c m) (hB : B ≤ w.heap.size) :
    Calls Try.prog 51 #[.agg #[.slice m.a0 m.n0 m.k0, .slice m.a1 m.n1 m.k1, .slice m.a2 m.n2 m.k2]] w fun e w' => e = .returned (.bool (!Qu.ok c)) ∧ Below w.heap.size w w' := by
  obtain ⟨w1, hw1⟩ : ∃ w1, w1 = w.alloc (.cells #[.slice m.a0 m.n0 m.k0, .slice m.a1 m.n1 m.k1, .slice m.a2 m.n2 m.k2] 45) := ⟨_, rfl⟩
  have hb1 : Below w.heap.size w w1 := by rw [hw1]; exact below_new w _
  have hs1 : w1.heap.size = w.heap.size + 1 := by rw [hw1]; simp
  have hld := (Bx.new w 45 m).ldM
  have HC := hid (check_M B c hs m w1 (h.below (hb1.mono hB)) (by omega))
  have HB := hid hb1
  clear h hb1 hs1
  cases ho : Qu.ok c
  · rw [err_f ho] at HC
    clear ho
    go_enter Try.func51, Try.ntmps51
    go_wp2_with fail
    rw [← hw1]
    clear hw1
    refine HC.out.mono ?_
    rintro e w2 ⟨rfl, hb2⟩
    have H2 := hid hb2
    clear hb2
    go_wp2_with fail
    go_ret
    exact ⟨rfl, HB.out.trans (H2.out.mono HB.out.size)⟩
  · rw [err_t ho] at HC
    clear ho
    go_enter Try.func51, Try.ntmps51
    go_wp2_with fail
    rw [← hw1]
    clear hw1
    refine HC.out.mono ?_
    rintro e w2 ⟨rfl, hb2⟩
    have H2 := hid hb2
    clear hb2
    go_wp2_with fail
    go_ret
    exact ⟨rfl, HB.out.trans (H2.out.mono HB.out.size)⟩
def chgM (m : M3) : Bool := decide (0 < m.n1) || decide (0 < m.n2)
theorem InC.chg {w : World} {B : Nat} {c : Cf} {m : M3} (h : InC w B c m) : chgM m = chg c := by unfold chgM Co.chg; rw [h.e1, h.e2]
theorem changing_any (m : M3) (w : World) :
    Calls Try.prog 52 #[.agg #[.slice m.a0 m.n0 m.k0, .slice m.a1 m.n1 m.k1, .slice m.a2 m.n2 m.k2]] w fun e w' => e = .returned (.bool (chgM m)) ∧ Below w.heap.size w w' := by
  obtain ⟨a0, n0, k0, a1, n1, k1, a2, n2, k2⟩ := m
  show Calls Try.prog 52 #[.agg #[.slice a0 n0 k0, .slice a1 n1 k1, .slice a2 n2 k2]] w fun e w' => e = .returned (.bool (decide (0 < n1) || decide (0 < n2))) ∧ Below w.heap.size w w'
  by_cases h1 : n1 = 0
  · subst h1
    have HE : Hid ((decide (0 < 0) || decide (0 < n2)) = decide (0 < n2)) := hid (by simp)
    rw [HE.out]
    have HB := hid (below_new w (.cells #[.slice a0 n0 k0, .slice a1 0 k1, .slice a2 n2 k2] 45))
    have c1 := (Bx.new w 45 ⟨a0, n0, k0, a1, 0, k1, a2, n2, k2⟩).c1
    have c2 := (Bx.new w 45 ⟨a0, n0, k0, a1, 0, k1, a2, n2, k2⟩).c2
    go_enter Try.func52, Try.ntmps52
    go_wp2_with fail
    go_ret
    exact ⟨rfl, HB.out⟩
  · have h1' : (0 : Int) < (n1 : Int) := by omega
    have HE : Hid ((decide (0 < n1) || decide (0 < n2)) = true) := hid (by simp; omega)
    rw [HE.out]
    have HB := hid (below_new w (.cells #[.slice a0 n0 k0, .slice a1 n1 k1, .slice a2 n2 k2] 45))
    have c1 := (Bx.new w 45 ⟨a0, n0, k0, a1, n1, k1, a2, n2, k2⟩).c1
    clear h1
    go_enter Try.func52, Try.ntmps52
    go_wp2_with fail
    go_ret
    exact ⟨rfl, HB.out⟩
theorem fixed_any (B : Nat) (c : Cf) (hs : Short c) (m : M3) (n : Int) (hn : InInt n) (w : World) (h : InC w B c m) (hB : B ≤ w.heap.size) :
    Calls Try.prog 46 #[.agg #[.slice m.a0 m.n0 m.k0, .slice m.a1 m.n1 m.k1, .slice m.a2 m.n2 m.k2], .int .i64 n] w fun e w' => e = .returned (.int .i64 (forb c n)) ∧ Below w.heap.size w w' := by
  obtain ⟨w1, hw1⟩ : ∃ w1, w1 = w.alloc (.cells #[.slice m.a0 m.n0 m.k0, .slice m.a1 m.n1 m.k1, .slice m.a2 m.n2 m.k2] 45) := ⟨_, rfl⟩
  have hb1 : Below w.heap.size w w1 := by rw [hw1]; exact below_new w _
  have hs1 : w1.heap.size = w.heap.size + 1 := by rw [hw1]; simp
  have hx1 : Bx w1 w.heap.size 45 m := by rw [hw1]; exact Bx.new _ _ _
  have hld := (Bx.new w 45 m).ldM
  have HI := hid (invalid_any B c hs m w1 (h.below (hb1.mono hB)) (by omega))
  have HX := hid (And.intro hx1 hs1)
  have HB := hid hb1
  have HG := hid h.chg
  clear h hb1 hs1 hx1
  cases ho : Qu.ok c
  · have HF : Hid (forb c n = 29) := hid (by unfold forb; rw [if_pos ho])
    rw [ho] at HI
    rw [HF.out]
    clear ho
    go_enter Try.func46, Try.ntmps46
    go_wp2_with fail
    rw [← hw1]
    clear hw1
    refine HI.out.mono ?_
    rintro e w2 ⟨rfl, hb2⟩
    have H2 := hid hb2
    clear hb2
    go_wp2_with fail
    go_ret
    exact ⟨rfl, HB.out.trans (H2.out.mono HB.out.size)⟩
  have ho' : ¬ Qu.ok c = false := by rw [ho]; decide
  have HO := hid ho'
  rw [ho] at HI
  clear ho ho'
  by_cases hq : n < 1 ∨ 7 < n
  · have HF : Hid (forb c n = 28) := hid (by unfold forb; rw [if_neg HO.out, if_pos hq])
    rw [HF.out]
    by_cases h1 : n < 1
    · clear hq
      go_enter Try.func46, Try.ntmps46
      go_wp2_with fail
      rw [← hw1]
      clear hw1
      refine HI.out.mono ?_
      rintro e w2 ⟨rfl, hb2⟩
      have H2 := hid hb2
      clear hb2
      go_wp2_with fail
      go_ret
      exact ⟨rfl, HB.out.trans (H2.out.mono HB.out.size)⟩
    · have h7 : 7 < n := by omega
      clear hq
      go_enter Try.func46, Try.ntmps46
      go_wp2_with fail
      rw [← hw1]
      clear hw1
      refine HI.out.mono ?_
      rintro e w2 ⟨rfl, hb2⟩
      have H2 := hid hb2
      clear hb2
      go_wp2_with fail
      go_ret
      exact ⟨rfl, HB.out.trans (H2.out.mono HB.out.size)⟩
  · have h1 : ¬ n < 1 := by omega
    have h7 : ¬ 7 < n := by omega
    have HQ := hid hq
    clear hq
    go_enter Try.func46, Try.ntmps46
    go_wp2_with fail
    rw [← hw1]
    clear hw1
    refine HI.out.mono ?_
    rintro e w2 ⟨rfl, hb2⟩
    have hx2 := HX.out.1.below hb2 (by rw [HX.out.2]; omega)
    have hld2 := hx2.ldM
    have H2 := hid (HB.out.trans (hb2.mono HB.out.size))
    clear hb2 hld
    go_wp2_with fail
    refine (changing_any m w2).mono ?_
    rintro e w3 ⟨rfl, hb3⟩
    have H3 := hid (H2.out.trans (hb3.mono H2.out.size))
    clear hb3
    rw [HG.out]
    cases hc : chg c
    · have HF : Hid (forb c n = 0) := hid (by unfold forb; rw [if_neg HO.out, if_neg HQ.out, if_neg (by rw [hc]; decide)])
      clear hc
      go_wp2_with fail
      go_ret
      exact ⟨ret_int HF.out.symm, H3.out⟩
    · have HF : Hid (forb c n = 11) := hid (by unfold forb; rw [if_neg HO.out, if_neg HQ.out, if_pos hc])
      clear hc
      go_wp2_with fail
      go_ret
      exact ⟨ret_int HF.out.symm, H3.out⟩
theorem mayCome_any (B : Nat) (c : Cf) (hs : Short c) (m : M3) (n : Int) (w : World) (h : InC w B c m) (hB : B ≤ w.heap.size) :
    Calls Try.prog 27 #[.agg #[.slice m.a0 m.n0 m.k0, .slice m.a1 m.n1 m.k1, .slice m.a2 m.n2 m.k2], .int .i64 n] w fun e w' => e = .returned (.int .i64 (if n ∈ c.old then 7 else 0)) ∧ Below w.heap.size w w' := by
  obtain ⟨w1, hw1⟩ : ∃ w1, w1 = w.alloc (.cells #[.slice m.a0 m.n0 m.k0, .slice m.a1 m.n1 m.k1, .slice m.a2 m.n2 m.k2] 45) := ⟨_, rfl⟩
  have hb1 : Below w.heap.size w w1 := by rw [hw1]; exact below_new w _
  have hld := (Bx.new w 45 m).c0
  have HC := contains_any B m.a0 m.k0 c.old (by have := hs.1; omega) n w1 ((h.below (hb1.mono hB)).o)
  rw [← h.e0] at HC
  have HC := hid HC
  have HB := hid hb1
  clear h hb1
  by_cases hi : n ∈ c.old
  · rw [decide_eq_true hi] at HC
    rw [if_pos hi]
    clear hi
    go_enter Try.func27, Try.ntmps27
    go_wp2_with fail
    rw [← hw1]
    clear hw1
    refine HC.out.mono ?_
    rintro e w2 ⟨rfl, rfl⟩
    go_wp2_with fail
    go_ret
    exact ⟨rfl, HB.out⟩
  · rw [decide_eq_false hi] at HC
    rw [if_neg hi]
    clear hi
    go_enter Try.func27, Try.ntmps27
    go_wp2_with fail
    rw [← hw1]
    clear hw1
    refine HC.out.mono ?_
    rintro e w2 ⟨rfl, rfl⟩
    go_wp2_with fail
    go_ret
    exact ⟨rfl, HB.out⟩
theorem mayGo_any (B : Nat) (c : Cf) (hs : Short c) (m : M3) (n : Int) (w : World) (h : InC w B c m) (hB : B ≤ w.heap.size) :
    Calls Try.prog 29 #[.agg #[.slice m.a0 m.n0 m.k0, .slice m.a1 m.n1 m.k1, .slice m.a2 m.n2 m.k2], .int .i64 n] w fun e w' => e = .returned (.int .i64 (if n ∉ c.old then 6 else if c.old.length = 1 then 29 else 0)) ∧ Below w.heap.size w w' := by
  obtain ⟨w1, hw1⟩ : ∃ w1, w1 = w.alloc (.cells #[.slice m.a0 m.n0 m.k0, .slice m.a1 m.n1 m.k1, .slice m.a2 m.n2 m.k2] 45) := ⟨_, rfl⟩
  have hb1 : Below w.heap.size w w1 := by rw [hw1]; exact below_new w _
  have hx1 : Bx w1 w.heap.size 45 m := by rw [hw1]; exact Bx.new _ _ _
  have hld := (Bx.new w 45 m).c0
  have HC := contains_any B m.a0 m.k0 c.old (by have := hs.1; omega) n w1 ((h.below (hb1.mono hB)).o)
  rw [← h.e0] at HC
  have HC := hid HC
  have HB := hid hb1
  have he := hid h.e0
  clear h hb1
  by_cases hi : n ∈ c.old
  · rw [decide_eq_true hi] at HC
    rw [if_neg (by simpa using hi)]
    clear hi
    by_cases h1 : m.n0 = 1
    · rw [if_pos (by rw [← he.out]; exact h1)]
      have h1' : ((m.n0 : Int) == 1) = true := by rw [beq_iff_eq]; omega
      clear h1
      have hld1 := hx1.c0
      go_enter Try.func29, Try.ntmps29
      go_wp2_with fail
      rw [← hw1]
      clear hw1
      refine HC.out.mono ?_
      rintro e w2 ⟨rfl, rfl⟩
      go_wp2_with fail
      go_ret
      exact ⟨rfl, HB.out⟩
    · rw [if_neg (by rw [← he.out]; exact h1)]
      have h1' : ((m.n0 : Int) == 1) = false := by rw [beq_eq_false_iff_ne]; omega
      clear h1
      have hld1 := hx1.c0
      go_enter Try.func29, Try.ntmps29
      go_wp2_with fail
      rw [← hw1]
      clear hw1
      refine HC.out.mono ?_
      rintro e w2 ⟨rfl, rfl⟩
      go_wp2_with fail
      go_ret
      exact ⟨rfl, HB.out⟩
  · rw [decide_eq_false hi] at HC
    rw [if_pos hi]
    clear hi
    go_enter Try.func29, Try.ntmps29
    go_wp2_with fail
    rw [← hw1]
    clear hw1
    refine HC.out.mono ?_
    rintro e w2 ⟨rfl, rfl⟩
    go_wp2_with fail
    go_ret
    exact ⟨rfl, HB.out⟩
end Go.Proofs.Ytfkjahpcpmcefaa.Co
namespace Go.Proofs.Ytfkjahpcpmcefaa.Co
open Go Go.RowKit
open Qu (Cf)
set_option maxRecDepth 100000
set_option linter.unusedVariables false
set_option maxHeartbeats 400000 in
theorem indexFirst_any (g : FuncId) (cb : Array Value) (p : Int → Bool) (w0 : World) (ht0 : Tells g cb p w0) (eg : ∀ args w, (callFunc g args).run Try.prog w = .ok (.enter g args) w)
    (B : Nat) (A : Option Addr) (c n : Nat) (l : List Int) (hn : n = l.length) (hl : n ≤ 100000) (w : World) (hw0 : Below w0.heap.size w0 w) (h0 : IsInts w B A l) (hB : B ≤ w.heap.size) :
    Calls Try.prog 65 #[.slice A n c, .func (.func g) #[] cb] w fun e w' => ∃ i : Int, e = .returned (.int .i64 i) ∧ Hid ((i = -1 ∧ l.any p = false) ∨ ∃ (k : Nat) (h : k < l.length), i = k ∧ (l.take k).any p = false ∧ p l[k] = true) ∧ Below w.heap.size w w' := by
  subst hn
  have ht := hid ht0
  have hw := hid hw0
  have h := hid h0
  clear ht0 hw0 h0
  go_enter Try.func65, Try.ntmps65
  go_wp2
  go_loopw [8] (fun i wr => ∃ k : Nat, k ≤ l.length ∧ i = .int .i64 k ∧ Hid ((l.take k).any p = false) ∧ Hid (Below w.heap.size w wr)) (fun i _ => l.length - (RowKit.intOf i).toNat)
  case atStart => exact ⟨0, by omega, rfl, hid (by simp), hid (Below.refl _ _)⟩
  case round =>
    obtain ⟨k, hk, rfl, hs, hbel⟩ := hrel
    by_cases hlt : k < l.length
    · obtain ⟨b, off, rfl, hb, hcell⟩ := h.out.cells k hlt
      have hck : wr.cell? ⟨b, off + k, none⟩ = some (.int .i64 l[k]) := (hbel.out.cell (p := ⟨b, off + k, none⟩) (by show b < _; omega)).trans (hcell k hlt)
      have hcall := ht.out l[k] (h.out.small _ (List.getElem_mem hlt)) wr (hw.out.trans (hbel.out.mono hw.out.size))
      clear hcell
      cases hp : p l[k]
      · rw [hp] at hcall
        have HP := hid hp
        clear hp
        go_wp2_with (go_at_fn g; refine hcall.mono ?_; rintro e w' ⟨rfl, hb'⟩)
        go_roundw
        case rel =>
          refine ⟨k + 1, by omega, by go_num, hid ?_, hid (bthen hbel.out hb' hbel.out.size)⟩
          rw [List.take_succ_eq_append_getElem hlt, List.any_append, hs.out, Bool.false_or]
          simpa using HP.out
        case measure => simp [RowKit.intOf]; omega
      · rw [hp] at hcall
        have HP := hid hp
        clear hp
        go_wp2_with (go_at_fn g; refine hcall.mono ?_; rintro e w' ⟨rfl, hb'⟩)
        go_ret
        exact ⟨(k : Int), rfl, hid (.inr ⟨k, hlt, rfl, hs.out, HP.out⟩), bthen hbel.out hb' hbel.out.size⟩
    · obtain rfl : k = l.length := by omega
      go_wp2
      go_ret
      refine ⟨-1, rfl, hid (.inl ⟨rfl, ?_⟩), hbel.out⟩
      have := hs.out
      rwa [List.take_length] at this
theorem df_skip {l : List Int} {p : Int → Bool} {j : Nat} (h : j < l.length) (hp : p l[j] = true) : (l.take (j + 1)).filter (fun x => !p x) = (l.take j).filter (fun x => !p x) := by
  rw [List.take_succ_eq_append_getElem h, List.filter_append]; simp [hp]
theorem df_keep {l : List Int} {p : Int → Bool} {j : Nat} (h : j < l.length) (hp : p l[j] = false) : (l.take (j + 1)).filter (fun x => !p x) = (l.take j).filter (fun x => !p x) ++ [l[j]] := by
  rw [List.take_succ_eq_append_getElem h, List.filter_append]; simp [hp]
theorem df_none {l : List Int} {p : Int → Bool} (h : l.any p = false) : l.filter (fun x => !p x) = l := by
  rw [List.filter_eq_self]
  intro x hx
  have := List.any_eq_false.1 h x hx
  simpa using this
structure Df (l : List Int) (p : Int → Bool) (i j : Nat) (L : List Int) : Prop where
  len : L.length = l.length
  ij : i < j
  jn : j ≤ l.length
  ahead : L.take i = (l.take j).filter (fun x => !p x)
  behind : L.drop j = l.drop j
theorem Df.first {l : List Int} {p : Int → Bool} {k : Nat} (h : k < l.length) (ha : (l.take k).any p = false) (hp : p l[k] = true) : Df l p k (k + 1) l :=
  ⟨rfl, by omega, h, by rw [df_skip h hp, df_none ha], rfl⟩
theorem Df.at_ {l : List Int} {p : Int → Bool} {i j : Nat} {L : List Int} (h : Df l p i j L) (hj : j < l.length) : L[j]'(by rw [h.len]; exact hj) = l[j] := by
  have h1 := congrArg (fun q => q[0]?) h.behind
  simp only [List.getElem?_drop, Nat.add_zero] at h1
  rw [List.getElem?_eq_getElem (by rw [h.len]; exact hj), List.getElem?_eq_getElem hj] at h1
  exact Option.some.inj h1
theorem Df.skip {l : List Int} {p : Int → Bool} {i j : Nat} {L : List Int} (h : Df l p i j L) (hj : j < l.length) (hp : p l[j] = true) : Df l p i (j + 1) L :=
  ⟨h.len, by have := h.ij; omega, hj, by rw [h.ahead, df_skip hj hp], by rw [← List.drop_drop, h.behind, List.drop_drop]⟩
theorem Df.keep {l : List Int} {p : Int → Bool} {i j : Nat} {L : List Int} (h : Df l p i j L) (hj : j < l.length) (hp : p l[j] = false) : Df l p (i + 1) (j + 1) (L.set i l[j]) := by
  have hi := h.ij
  have hl := h.len
  refine ⟨by simp [h.len], by omega, hj, ?_, ?_⟩
  · rw [df_keep hj hp, ← h.ahead, List.take_succ_eq_append_getElem (by simp; omega)]
    simp [List.take_set_of_le]
  · rw [List.drop_set_of_lt (by omega), ← List.drop_drop, h.behind, List.drop_drop]
theorem Df.end_ {l : List Int} {p : Int → Bool} {i : Nat} {L : List Int} (h : Df l p i l.length L) : L.take i = l.filter (fun x => !p x) := by
  rw [h.ahead, List.take_length]
set_option maxHeartbeats 1600000 in
theorem deleteFunc_any (g : FuncId) (cb : Array Value) (p : Int → Bool) (w0 : World) (ht0 : Tells g cb p w0) (eg : ∀ args w, (callFunc g args).run Try.prog w = .ok (.enter g args) w)
    (A : Option Addr) (c n : Nat) (l : List Int) (hn0 : n = l.length) (hl : n ≤ 100000) (w : World) (hw0 : Below w0.heap.size w0 w) (h0 : OwnsI 3 w w0.heap.size A c l) :
    Calls Try.prog 49 #[.slice A n c, .func (.func g) #[] cb] w fun e w' => ∃ n' : Nat, e = .returned (.slice A n' c) ∧ Hid (n' = (l.filter (fun x => !p x)).length) ∧ OwnsI 3 w' w0.heap.size A c (l.filter (fun x => !p x)) ∧ Turned (fun k => blk A = some k) w w' := by
  have HI := hid (indexFirst_any g cb p w0 ht0 eg w.heap.size A c n l hn0 hl w hw0 h0.reads (Nat.le_refl _))
  have hcap := (ownsI_cap h0).2
  have HN := hid hn0
  have H0 := hid (And.intro h0 (And.intro hw0 ht0))
  have hcn : n ≤ c := by omega
  clear h0 hn0 hw0 ht0
  go_enter Try.func49, Try.ntmps49
  go_wp2_with fail
  refine HI.out.mono ?_
  rintro e w1 ⟨i, rfl, HC, hb1⟩
  have h1 := H0.out.1.below hb1
  have t1 := Turned.ofBelow (fun k => blk A = some k) hb1
  have H1 := hid (And.intro h1 t1)
  clear hb1 h1 t1 HI
  rcases HC.out with ⟨rfl, ha⟩ | ⟨k, hk, rfl, ha, hp⟩
  · have HA := hid ha
    clear ha HC
    go_wp2_with fail
    go_ret
    have e := df_none HA.out
    exact ⟨n, rfl, hid (by rw [e]; exact HN.out), by rw [e]; exact H1.out.1, H1.out.2⟩
  · have HD := hid (Df.first hk ha hp)
    have hneg : ¬ (k : Int) = -1 := by omega
    have hkn : k < n := by rw [HN.out]; exact hk
    clear HC ha hp hk
    go_wp2_with fail
    go_loopw [5, 6] (fun i j wr => ∃ (a b : Nat) (L : List Int), (a < b ∧ b ≤ n) ∧ i = .int .i64 a ∧ j = .int .i64 b ∧ Hid (Df l p a b L ∧ OwnsI 3 wr w0.heap.size A c L ∧ Turned (fun k => blk A = some k) w wr)) (fun _ j _ => n - (RowKit.intOf j).toNat)
    case atStart => exact ⟨k, k + 1, l, ⟨by omega, by omega⟩, rfl, by go_num, hid ⟨HD.out, H1.out.1, H1.out.2⟩⟩
    case round =>
      clear HD H1
      obtain ⟨a, b, L, ⟨hab, hbn⟩, rfl, rfl, HR⟩ := hrel
      have hlow : ∀ W, Turned (fun k => blk A = some k) w W → Below w0.heap.size w0 W := fun W hT => H0.out.2.1.trans (hT.below H0.out.2.1.size (fun k hk => (H0.out.1.blkLt k hk).1))
      by_cases hlt : b < n
      · have hLb : b < L.length := by rw [HR.out.1.len, ← HN.out]; exact hlt
        have hlb : b < l.length := by rw [← HN.out]; exact hlt
        obtain ⟨g0, rfl, hg1, hg2, hck, hfz⟩ := HR.out.2.1.at_ hLb
        have hxx := HR.out.1.at_ hlb
        obtain ⟨x, hx⟩ : ∃ x, x = l[b] := ⟨_, rfl⟩
        rw [hxx, ← hx] at hck
        have hxi : InInt x := by rw [hx]; exact H0.out.1.small _ (List.getElem_mem hlb)
        have hcall := H0.out.2.2 x hxi wr (hlow wr HR.out.2.2)
        cases hp : p x
        · rw [hp] at hcall
          have HP : Hid (p l[b] = false) := hid (by rw [← hx]; exact hp)
          have HX := hid hx
          clear hp hx hxx hfz
          go_wp2_with (go_at_fn g; refine hcall.mono ?_; rintro e w' ⟨rfl, hb'⟩; have HO := hid (And.intro (HR.out.2.1.below hb') hb'); obtain ⟨g9, e9, _, _, hca, hfa⟩ := HO.out.1.at_ (k := a) (by omega); obtain rfl : g0 = g9 := (by injection e9 with e9; injection e9))
          go_roundw
          case rel =>
            refine ⟨_, _, _, _, _, _, _, _, _, _, _, _, _, _, _, _, _, _, _, _, _, _, _, ?_, rfl⟩
            refine ⟨a + 1, b + 1, L.set a x, ⟨by omega, by omega⟩, by go_num, by go_num, hid ⟨by rw [HX.out]; exact HR.out.1.keep hlb HP.out, HO.out.1.set_ a x hxi, ?_⟩⟩
            exact (HR.out.2.2.trans (Turned.ofBelow _ HO.out.2)).trans ((Turned.one _ g0 a _).mono (fun k hk => by rw [hk]; rfl))
          case measure => simp [RowKit.intOf]; omega
        · rw [hp] at hcall
          have HP : Hid (p l[b] = true) := hid (by rw [← hx]; exact hp)
          clear hp hx hxx hfz
          go_wp2_with (go_at_fn g; refine hcall.mono ?_; rintro e w' ⟨rfl, hb'⟩; have HO := hid hb')
          go_roundw
          case rel =>
            refine ⟨_, _, _, _, _, _, _, _, _, _, _, _, _, _, _, _, _, _, _, _, _, _, _, ?_, rfl⟩
            exact ⟨a, b + 1, L, ⟨by omega, by omega⟩, rfl, by go_num, hid ⟨HR.out.1.skip hlb HP.out, HR.out.2.1.below HO.out, HR.out.2.2.trans (Turned.ofBelow _ HO.out)⟩⟩
          case measure => simp [RowKit.intOf]; omega
      · obtain rfl : b = n := by omega
        have hLa : a < L.length := by rw [HR.out.1.len, ← HN.out]; exact hab
        have hLn : L.length = b := by rw [HR.out.1.len, ← HN.out]
        obtain ⟨g0, rfl, hg1, hg2, hck, hfz⟩ := HR.out.2.1.at_ hLa
        have hca : ¬ c = a := by omega
        have hac : a ≤ c := by omega
        obtain ⟨zs, hzs⟩ : ∃ zs : List Value, (Builtin.zeroCells (Value.cells (.int .i64 0)) (b - a)).toList = zs := ⟨_, rfl⟩
        have hzl : zs.length = b - a := by rw [← hzs, Array.length_toList, size_zeroCells]; simp [Value.cells]
        have hz1 : ∀ u ∈ zs, u.oneCell' = true := by
          intro u hu
          rw [← hzs] at hu
          obtain ⟨i, _, rfl⟩ : ∃ i, i < b - a ∧ (Value.cells (.int .i64 0))[i % 1]! = u := by simpa [Builtin.zeroCells, Value.cells] using hu
          rw [Nat.mod_one]; rfl
        have hat : ∀ j, j < zs.length → (wr.cell? ⟨g0, a + j, none⟩).isSome = true ∧ wr.frozen? ⟨g0, a + j, none⟩ = false := fun j hj => by
          obtain ⟨g9, e9, _, _, hc9, hf9⟩ := HR.out.2.1.at_ (k := a + j) (by omega)
          obtain rfl : g0 = g9 := (by injection e9 with e9; injection e9)
          exact ⟨by rw [hc9]; rfl, hf9⟩
        have hcl2 : ∀ ty, (Builtin.clear_ #[22] ty #[.slice (some ⟨g0, a, none⟩) (b - a) (c - a)]).run Try.prog wr = .ok (.tuple #[]) (wr.setCells g0 a zs) := fun ty =>
          run_clear_sliceN wr _ 3 ty (.int .i64 0) zs _ _ Try.underlying22 (fun w => by kernel_rfl) hzs hz1 g0 a (by omega) (fun j hj => (hat j hj).1) (fun j hj => (hat j hj).2)
        have hrow := HR.out.2.1.row
        rw [hLn] at hrow
        have hrow2 := ownsRow_shrink (ownsRow_setCells zs wr _ a hrow) (show a ≤ b by omega)
        rw [setL_ahead _ _ _ _ (by omega)] at hrow2
        have hfin : (ints L).take (a * 1) = ints (l.filter (fun x => !p x)) := by
          have hd := HR.out.1
          rw [HN.out] at hd
          rw [Nat.mul_one, ← hd.end_]
          unfold ints
          rw [List.map_take]
        have hla : a = (l.filter (fun x => !p x)).length := by
          have hd := HR.out.1
          rw [HN.out] at hd
          rw [← hd.end_, List.length_take]; omega
        rw [hfin] at hrow2
        have ht2 := HR.out.2.2.trans ((turned_setCells g0 zs wr a).mono (fun k hk => by rw [hk]; rfl))
        have HZ := hid (And.intro hrow2 (And.intro ht2 hla))
        clear hck hfz hrow hrow2 hfin ht2 hla hat hz1 hzl hzs hLn
        go_wp2_with fail
        go_ret
        refine ⟨a, rfl, hid HZ.out.2.2, ⟨fun x hx => H0.out.1.small x (List.mem_filter.1 hx).1, ?_⟩, HZ.out.2.1⟩
        rw [← HZ.out.2.2]
        exact HZ.out.1
end Go.Proofs.Ytfkjahpcpmcefaa.Co
namespace Go.Proofs.Ytfkjahpcpmcefaa.Co
open Go Go.RowKit
open Qu (Cf)
set_option maxRecDepth 100000
set_option linter.unusedVariables false
attribute [local go_sem ↓] Im.loadAt_conf3 Im.storeAt_conf3 loadAt_mem storeAt_mem
theorem clone_M (B : Nat) (A : Option Addr) (c n : Nat) (l : List Int) (hn : n = l.length) (hl : n ≤ 60000) (hz : A = none → c = 0) (w : World) (h : IsInts w B A l) (hB : B ≤ w.heap.size) :
    Calls Try.prog 48 #[.slice A n c] w fun e w' => ∃ A' c', e = .returned (.slice A' n c') ∧ OwnsI 3 w' w.heap.size A' c' l ∧ Below w.heap.size w w' := by
  subst hn; exact I.iclone_any B A c l (by omega) w h hB hz
theorem box2 (w : World) (t : TypeId) (m : M3) : Below w.heap.size w ((w.alloc (.cells #[.slice m.a0 m.n0 m.k0, .slice m.a1 m.n1 m.k1, .slice m.a2 m.n2 m.k2] t)).alloc (.cells #[.slice none 0 0, .slice none 0 0, .slice none 0 0] 24)) ∧ ((w.alloc (.cells #[.slice m.a0 m.n0 m.k0, .slice m.a1 m.n1 m.k1, .slice m.a2 m.n2 m.k2] t)).alloc (.cells #[.slice none 0 0, .slice none 0 0, .slice none 0 0] 24)).heap.size = w.heap.size + 2 ∧
    Bx ((w.alloc (.cells #[.slice m.a0 m.n0 m.k0, .slice m.a1 m.n1 m.k1, .slice m.a2 m.n2 m.k2] t)).alloc (.cells #[.slice none 0 0, .slice none 0 0, .slice none 0 0] 24)) w.heap.size t m ∧ Bx ((w.alloc (.cells #[.slice m.a0 m.n0 m.k0, .slice m.a1 m.n1 m.k1, .slice m.a2 m.n2 m.k2] t)).alloc (.cells #[.slice none 0 0, .slice none 0 0, .slice none 0 0] 24)) (w.heap.size + 1) 24 mNil := by
  refine ⟨((Below.refl _ _).alloc (Nat.le_refl _) _).alloc (by simp) _, by simp, ?_, ?_⟩
  · unfold Bx; rw [Below.heap_alloc _ _ _ (by simp)]; exact heap_alloc_new w _
  · have := heap_alloc_new (w.alloc (.cells #[.slice m.a0 m.n0 m.k0, .slice m.a1 m.n1 m.k1, .slice m.a2 m.n2 m.k2] t)) (.cells #[.slice none 0 0, .slice none 0 0, .slice none 0 0] 24)
    rw [World.size_alloc] at this
    exact this
theorem own1 {w : World} {B c n : Nat} {A : Option Addr} {l : List Int} (h : OwnsI 3 w B A c l) (hn : n = l.length) : OwnC w B w.heap.size ⟨l, [], []⟩ ⟨A, n, c, none, 0, 0, none, 0, 0⟩ :=
  ⟨h, OwnsI.nil _ _ _, OwnsI.nil _ _ _, hn, rfl, rfl, fun k e => (h.blkLt k e).2, (fun k e => by cases e), (fun k e => by cases e), (fun k _ e => by cases e), (fun k _ e => by cases e), (fun k e => by cases e)⟩
theorem own2 {w : World} {B c n c1 n1 : Nat} {A A1 : Option Addr} {l l1 : List Int} (h : OwnsI 3 w B A c l) (hn : n = l.length) (h1 : OwnsI 3 w B A1 c1 l1) (hn1 : n1 = l1.length) (hd : ∀ k, blk A = some k → blk A1 ≠ some k) : OwnC w B w.heap.size ⟨l, l1, []⟩ ⟨A, n, c, A1, n1, c1, none, 0, 0⟩ :=
  ⟨h, h1, OwnsI.nil _ _ _, hn, hn1, rfl, fun k e => (h.blkLt k e).2, fun k e => (h1.blkLt k e).2, (fun k e => by cases e), hd, (fun k _ e => by cases e), (fun k _ e => by cases e)⟩
theorem own2l {w : World} {B c n c1 n1 : Nat} {A A1 : Option Addr} {l l1 : List Int} (h : OwnsI 3 w B A c l) (hn : n = l.length) (h1 : OwnsI 3 w B A1 c1 l1) (hn1 : n1 = l1.length) (hd : ∀ k, blk A = some k → blk A1 ≠ some k) : OwnC w B w.heap.size ⟨l, [], l1⟩ ⟨A, n, c, none, 0, 0, A1, n1, c1⟩ :=
  ⟨h, OwnsI.nil _ _ _, h1, hn, rfl, hn1, fun k e => (h.blkLt k e).2, (fun k e => by cases e), fun k e => (h1.blkLt k e).2, (fun k _ e => by cases e), hd, (fun k e => by cases e)⟩
theorem own3 {w : World} {B c n c1 n1 c2 n2 : Nat} {A A1 A2 : Option Addr} {l l1 l2 : List Int} (h : OwnsI 3 w B A c l) (hn : n = l.length) (h1 : OwnsI 3 w B A1 c1 l1) (hn1 : n1 = l1.length) (h2 : OwnsI 3 w B A2 c2 l2) (hn2 : n2 = l2.length) (hd : ∀ k, blk A = some k → blk A1 ≠ some k) (hd2 : ∀ k, blk A = some k → blk A2 ≠ some k) (hd3 : ∀ k, blk A1 = some k → blk A2 ≠ some k) : OwnC w B w.heap.size ⟨l, l1, l2⟩ ⟨A, n, c, A1, n1, c1, A2, n2, c2⟩ :=
  ⟨h, h1, h2, hn, hn1, hn2, fun k e => (h.blkLt k e).2, fun k e => (h1.blkLt k e).2, fun k e => (h2.blkLt k e).2, hd, hd2, hd3⟩
def Got (w : World) (x : Cf) (e : Ending) (w' : World) : Prop := ∃ m : M3, e = .returned (.agg #[.slice m.a0 m.n0 m.k0, .slice m.a1 m.n1 m.k1, .slice m.a2 m.n2 m.k2]) ∧ OwnC w' w.heap.size w'.heap.size x m ∧ Below w.heap.size w w'
theorem got_box {w w2 w3 : World} {x : Cf} {m : M3} {b : Nat} (h : OwnC w3 w2.heap.size w3.heap.size x m) (hb : Below w.heap.size w w3) (hs : w.heap.size ≤ b ∧ b < w2.heap.size) : OwnC (w3.setRow b #[.slice m.a0 m.n0 m.k0, .slice m.a1 m.n1 m.k1, .slice m.a2 m.n2 m.k2]) w.heap.size (w3.setRow b #[.slice m.a0 m.n0 m.k0, .slice m.a1 m.n1 m.k1, .slice m.a2 m.n2 m.k2]).heap.size x m ∧ Below w.heap.size w (w3.setRow b #[.slice m.a0 m.n0 m.k0, .slice m.a1 m.n1 m.k1, .slice m.a2 m.n2 m.k2]) :=
  ⟨(h.turned (Bx.tur w3 b m) (fun k hk => by omega)).wide (by omega) (Bx.tur w3 b m).size, hb.trans ((Bx.tur w3 b m).below hb.size (fun k hk => by omega))⟩
set_option maxHeartbeats 1600000 in
theorem newAlone_any (B : Nat) (c : Cf) (hs : Short c) (m : M3) (w : World) (h : InC w B c m) (hB : B ≤ w.heap.size) :
    Calls Try.prog 54 #[.agg #[.slice m.a0 m.n0 m.k0, .slice m.a1 m.n1 m.k1, .slice m.a2 m.n2 m.k2]] w (Got w ⟨c.new, [], []⟩) := by
  obtain ⟨w2, hw2⟩ : ∃ w2, w2 = (w.alloc (.cells #[.slice m.a0 m.n0 m.k0, .slice m.a1 m.n1 m.k1, .slice m.a2 m.n2 m.k2] 45)).alloc (.cells #[.slice none 0 0, .slice none 0 0, .slice none 0 0] 24) := ⟨_, rfl⟩
  have hq := box2 w 45 m
  have hld := hq.2.2.1.c1
  rw [← hw2] at hq
  have HQ := hid hq
  have HC := hid (clone_M B m.a1 m.k1 m.n1 c.new h.e1 (by have := h.e1; have := hs.2.1; omega) h.cis.zn w2 ((h.below (hq.1.mono hB)).n) (by have := hq.2.1; omega))
  have HE := hid h.e1
  clear h hq
  go_enter Try.func54, Try.ntmps54
  go_wp2_with fail
  rw [← hw2]
  clear hw2 hld
  refine HC.out.mono ?_
  rintro e w3 ⟨A, c1, rfl, ho, hb3⟩
  have hbx := HQ.out.2.2.2.below hb3 (by have := HQ.out.2.1; omega)
  have hst := hbx.st (m' := ⟨A, m.n1, c1, none, 0, 0, none, 0, 0⟩)
  have H3 := hid (And.intro (hbx.set ⟨A, m.n1, c1, none, 0, 0, none, 0, 0⟩) (got_box (own1 ho HE.out) (HQ.out.1.trans (hb3.mono HQ.out.1.size)) (b := w.heap.size + 1) ⟨by omega, by have := HQ.out.2.1; omega⟩))
  clear ho hb3 hbx
  go_wp2_with fail
  refine bodyPost_ret (results_cell_row rfl _ _ (w.heap.size + 1) _ _ _ _ rfl H3.out.1 Try.underlying24 rfl (by rw [Im.info_conf33]; rfl)) rfl ?_
  exact ⟨_, rfl, H3.out.2.1, H3.out.2.2⟩
theorem ownsI_one (w : World) (n : Int) (hn : InInt n) : OwnsI 3 (w.alloc (.cells #[.int .i64 n] 3)) w.heap.size (some ⟨w.heap.size, 0, none⟩) 1 [n] := by
  refine ⟨by simpa using hn, by simp [ints], .inr ⟨w.heap.size, 1, _, rfl, Nat.le_refl _, heap_alloc_new w _, by simp, by unfold maxLen; omega, by simp, by simp [ints]⟩⟩
set_option maxHeartbeats 1600000 in
theorem learning_any (B : Nat) (c : Cf) (hs : Short c) (m : M3) (n : Int) (hn : InInt n) (w : World) (h : InC w B c m) (hB : B ≤ w.heap.size) :
    Calls Try.prog 28 #[.agg #[.slice m.a0 m.n0 m.k0, .slice m.a1 m.n1 m.k1, .slice m.a2 m.n2 m.k2], .int .i64 n] w (Got w ⟨c.old, [], [n]⟩) := by
  obtain ⟨w2, hw2⟩ : ∃ w2, w2 = (w.alloc (.cells #[.slice m.a0 m.n0 m.k0, .slice m.a1 m.n1 m.k1, .slice m.a2 m.n2 m.k2] 45)).alloc (.cells #[.slice none 0 0, .slice none 0 0, .slice none 0 0] 24) := ⟨_, rfl⟩
  have hq := box2 w 45 m
  have hld := hq.2.2.1.c0
  rw [← hw2] at hq
  have HQ := hid hq
  have HC := hid (clone_M B m.a0 m.k0 m.n0 c.old h.e0 (by have := h.e0; have := hs.1; omega) h.cis.zo w2 ((h.below (hq.1.mono hB)).o) (by have := hq.2.1; omega))
  have HE := hid h.e0
  clear h hq
  go_enter Try.func28, Try.ntmps28
  go_wp2_with fail
  rw [← hw2]
  clear hw2 hld
  refine HC.out.mono ?_
  rintro e w3 ⟨A, c1, rfl, ho, hb3⟩
  obtain ⟨w4, hw4⟩ : ∃ w4, w4 = w3.alloc (.cells #[.int .i64 n] 3) := ⟨_, rfl⟩
  have hb4 : Below w3.heap.size w3 w4 := by rw [hw4]; exact below_new w3 _
  have ho4 := ownsI_one w3 n hn
  rw [← hw4] at ho4
  have hz3 := hb3.size
  have hbx := (HQ.out.2.2.2.below hb3 (by have := HQ.out.2.1; omega)).below hb4 (by have := HQ.out.2.1; omega)
  have hst := hbx.st (m' := ⟨A, m.n0, c1, none, 0, 0, some ⟨w3.heap.size, 0, none⟩, 1, 1⟩)
  have hd : ∀ k, blk A = some k → blk (some ⟨w3.heap.size, 0, none⟩) ≠ some k := fun k hk e => by
    have := (ho.blkLt k hk).2
    have e2 : w3.heap.size = k := by injection e
    omega
  have H3 := hid (And.intro (hbx.set ⟨A, m.n0, c1, none, 0, 0, some ⟨w3.heap.size, 0, none⟩, 1, 1⟩) (got_box (own2l (ho.below hb4) HE.out (ho4.weaken hz3) (show 1 = [n].length from rfl) hd) (HQ.out.1.trans ((hb3.mono HQ.out.1.size).trans (hb4.mono (by have := HQ.out.1.size; omega)))) (b := w.heap.size + 1) ⟨by omega, by have := HQ.out.2.1; omega⟩))
  have HW := hid hw4
  rw [hw4] at hst
  clear ho hb3 hbx hb4 ho4 hd hw4 hz3
  go_wp2_with fail
  rw [← HW.out]
  refine bodyPost_ret (results_cell_row rfl _ _ (w.heap.size + 1) _ _ _ _ rfl H3.out.1 Try.underlying24 rfl (by rw [Im.info_conf33]; rfl)) rfl ?_
  exact ⟨_, rfl, H3.out.2.1, H3.out.2.2⟩
end Go.Proofs.Ytfkjahpcpmcefaa.Co
namespace Go.Proofs.Ytfkjahpcpmcefaa.Co
open Go Go.RowKit
open Qu (Cf)
set_option maxRecDepth 100000
set_option linter.unusedVariables false
attribute [local go_sem ↓] Im.loadAt_conf3 Im.storeAt_conf3 loadAt_mem storeAt_mem
theorem leaving1_any (b : Nat) (n x : Int) (w : World) (hb : w.cell? ⟨b, 0, none⟩ = some (.int .i64 n)) :
    Calls Try.prog 50 #[.int .i64 x, .pointer (some ⟨b, 0, none⟩)] w fun e w' => e = .returned (.bool (x == n)) ∧ w' = w := by
  go_enter Try.func50, Try.ntmps50
  go_wp2_with fail
  go_ret
  exact ⟨rfl, rfl⟩
theorem filter_ne (l : List Int) (n : Int) : l.filter (fun x => !(x == n)) = l.filter (fun x => decide (x ≠ n)) := by
  congr 1
  funext x
  by_cases h : x = n
  · simp [h]
  · simp [h]
set_option maxHeartbeats 3200000 in
theorem leaving_any (B : Nat) (c : Cf) (hs : Short c) (m : M3) (n : Int) (w : World) (h : InC w B c m) (hB : B ≤ w.heap.size) :
    Calls Try.prog 30 #[.agg #[.slice m.a0 m.n0 m.k0, .slice m.a1 m.n1 m.k1, .slice m.a2 m.n2 m.k2], .int .i64 n] w (Got w ⟨c.old, c.old.filter (fun x => decide (x ≠ n)), []⟩) := by
  have hmf : ∀ (fn : Fn) (first cap : Array Value) (w : World), (Instr.makeFunc fn first cap).run Try.prog w = .ok (.func fn first cap) w := fun _ _ _ _ => rfl
  obtain ⟨w3, hw3⟩ : ∃ w3, w3 = ((w.alloc (.cells #[.slice m.a0 m.n0 m.k0, .slice m.a1 m.n1 m.k1, .slice m.a2 m.n2 m.k2] 45)).alloc (.cells #[.int .i64 n] 3)).alloc (.cells #[.slice none 0 0, .slice none 0 0, .slice none 0 0] 24) := ⟨_, rfl⟩
  have hb3 : Below w.heap.size w w3 := by rw [hw3]; exact (((Below.refl _ _).alloc (Nat.le_refl _) _).alloc (by simp) _).alloc (by simp; omega) _
  have hs3 : w3.heap.size = w.heap.size + 3 := by rw [hw3]; simp
  have hx3 : Bx w3 w.heap.size 45 m := by
    unfold Bx; rw [hw3, Below.heap_alloc _ _ _ (by simp; omega), Below.heap_alloc _ _ _ (by simp)]; exact heap_alloc_new w _
  have hn3 : w3.cell? ⟨w.heap.size + 1, 0, none⟩ = some (.int .i64 n) := by
    have q := heap_alloc_new (w.alloc (.cells #[.slice m.a0 m.n0 m.k0, .slice m.a1 m.n1 m.k1, .slice m.a2 m.n2 m.k2] 45)) (.cells #[.int .i64 n] 3)
    rw [World.size_alloc] at q
    have q3 : w3.heap[w.heap.size + 1]? = some (.cells #[.int .i64 n] 3 (0, 0)) := by rw [hw3, Below.heap_alloc _ _ _ (by simp)]; exact q
    exact cell_of_row w3 (w.heap.size + 1) 0 _ _ _ q3
  have hz3 : Bx w3 (w.heap.size + 2) 24 mNil := by
    have q := heap_alloc_new ((w.alloc (.cells #[.slice m.a0 m.n0 m.k0, .slice m.a1 m.n1 m.k1, .slice m.a2 m.n2 m.k2] 45)).alloc (.cells #[.int .i64 n] 3)) (.cells #[.slice none 0 0, .slice none 0 0, .slice none 0 0] 24)
    rw [World.size_alloc, World.size_alloc] at q
    rw [hw3]; exact q
  have hld := hx3.c0
  rw [hw3] at hld
  have ht : Tells 50 #[.pointer (some ⟨w.heap.size + 1, 0, none⟩)] (fun x => x == n) w3 := fun x _ W hb =>
    (leaving1_any (w.heap.size + 1) n x W ((hb.cell (by show w.heap.size + 1 < _; omega)).trans hn3)).mono fun e w' ⟨he, hw⟩ => ⟨he, by rw [hw]; exact Below.refl _ _⟩
  have eg := enters_of (P := Try.prog) Try.func50 (by kernel_rfl) rfl
  have HC := hid (fun W (hb : Below w3.heap.size w3 W) => clone_M B m.a0 m.k0 m.n0 c.old h.e0 (by have := h.e0; have := hs.1; omega) h.cis.zo W ((h.below ((hb3.trans (hb.mono (by omega))).mono hB)).o) (by have := hb3.size; have := hb.size; omega))
  have HT := hid (And.intro ht eg)
  have HQ := hid (And.intro hb3 (And.intro hs3 (And.intro hx3 hz3)))
  have HE := hid h.e0
  have HL : Hid (m.n0 ≤ 100000) := hid (by have := h.e0; have := hs.1; omega)
  clear h hb3 hs3 hx3 hz3 hn3 ht eg
  go_enter Try.func30, Try.ntmps30
  go_wp2_with fail
  rw [← hw3]
  clear hw3 hld
  refine (HC.out w3 (Below.refl _ _)).mono ?_
  rintro e w4 ⟨A, c1, rfl, ho4, hb4⟩
  have H4 := hid (And.intro ho4 hb4)
  clear ho4 hb4
  go_wp2_with fail
  refine (deleteFunc_any _ _ _ w3 HT.out.1 HT.out.2 A c1 m.n0 c.old HE.out HL.out w4 H4.out.2 H4.out.1).mono ?_
  rintro e w5 ⟨n', rfl, HN', ho5, ht5⟩
  rw [filter_ne] at HN' ho5
  have hb5 : Below w3.heap.size w3 w5 := H4.out.2.trans (ht5.below H4.out.2.size (fun k hk => (H4.out.1.blkLt k hk).1))
  have hld5 := (HQ.out.2.2.1.below hb5 (by have := HQ.out.2.1; omega)).c0
  have H5 := hid (And.intro ho5 hb5)
  clear ho5 hb5 ht5
  go_wp2_with fail
  refine (HC.out w5 H5.out.2).mono ?_
  rintro e w6 ⟨A2, c2, rfl, ho6, hb6⟩
  have hb36 := H5.out.2.trans (hb6.mono H5.out.2.size)
  have hbx := HQ.out.2.2.2.below hb36 (by have := HQ.out.2.1; omega)
  have hst := hbx.st (m' := ⟨A2, m.n0, c2, A, n', c1, none, 0, 0⟩)
  have hd : ∀ k, blk A2 = some k → blk A ≠ some k := fun k hk e => by
    have := (ho6.blkLt k hk).1
    have := (H5.out.1.blkLt k e).2
    omega
  have H6 := hid (And.intro (hbx.set ⟨A2, m.n0, c2, A, n', c1, none, 0, 0⟩) (got_box (own2 (ho6.weaken H5.out.2.size) HE.out (H5.out.1.below hb6) HN'.out hd) (HQ.out.1.trans (hb36.mono HQ.out.1.size)) (b := w.heap.size + 2) ⟨by omega, by have := HQ.out.2.1; omega⟩))
  clear ho6 hb6 hb36 hbx hd hld5
  go_wp2_with fail
  refine bodyPost_ret (results_cell_row rfl _ _ (w.heap.size + 2) _ _ _ _ rfl H6.out.1 Try.underlying24 rfl (by rw [Im.info_conf33]; rfl)) rfl ?_
  exact ⟨_, rfl, H6.out.2.1, H6.out.2.2⟩
theorem within1_any (b B : Nat) (A : Option Addr) (k n : Nat) (l : List Int) (hn : n = l.length) (hl : n ≤ 100000) (x : Int) (w : World) (hb : w.cell? ⟨b, 0, none⟩ = some (.slice A n k)) (h : IsInts w B A l) :
    Calls Try.prog 66 #[.int .i64 x, .pointer (some ⟨b, 0, none⟩)] w fun e w' => e = .returned (.bool (!decide (x ∈ l))) ∧ w' = w := by
  subst hn
  have hc := hid (contains_any B A k l hl x w h)
  clear h
  go_enter Try.func66, Try.ntmps66
  go_wp2_with fail
  refine hc.out.mono ?_
  rintro e w' ⟨rfl, rfl⟩
  go_wp2
  go_ret
  exact ⟨rfl, rfl⟩
theorem not_any (l f : List Int) : (!(l.any fun x => !decide (x ∈ f))) = decide (∀ x ∈ l, x ∈ f) := by
  rw [Bool.eq_iff_iff]
  simp
set_option maxHeartbeats 1600000 in
theorem within_any (B B' : Nat) (A A' : Option Addr) (k n k' n' : Nat) (l f : List Int) (hn : n = l.length) (hn' : n' = f.length) (hl : n ≤ 100000) (hl' : n' ≤ 100000) (w : World) (h : IsInts w B A l) (h' : IsInts w B' A' f) (hB : B ≤ w.heap.size) (hB' : B' ≤ w.heap.size) :
    Calls Try.prog 55 #[.slice A n k, .slice A' n' k'] w fun e w' => e = .returned (.bool (decide (∀ x ∈ l, x ∈ f))) ∧ Below w.heap.size w w' := by
  have hmf : ∀ (fn : Fn) (first cap : Array Value) (w : World), (Instr.makeFunc fn first cap).run Try.prog w = .ok (.func fn first cap) w := fun _ _ _ _ => rfl
  obtain ⟨w1, hw1⟩ : ∃ w1, w1 = w.alloc (.cells #[.slice A' n' k'] 22) := ⟨_, rfl⟩
  have hb1 : Below w.heap.size w w1 := by rw [hw1]; exact below_new w _
  have hs1 : w1.heap.size = w.heap.size + 1 := by rw [hw1]; simp
  have hcell : w1.cell? ⟨w.heap.size, 0, none⟩ = some (.slice A' n' k') := by rw [hw1]; exact cell_of_row _ w.heap.size 0 _ _ _ (heap_alloc_new w _)
  have ht : Tells 66 #[.pointer (some ⟨w.heap.size, 0, none⟩)] (fun x => !decide (x ∈ f)) w1 := fun x _ W hb =>
    (within1_any w.heap.size B' A' k' n' f hn' hl' x W ((hb.cell (by show w.heap.size < _; omega)).trans hcell) ((h'.below (hb1.mono hB')).below (hb.mono (by omega)))).mono fun e w' ⟨he, hw⟩ => ⟨he, by rw [hw]; exact Below.refl _ _⟩
  have hc := containsFunc_any _ _ _ _ ht (enters_of (P := Try.prog) Try.func66 (by kernel_rfl) rfl) B A k l (by omega) w1 (Below.refl _ _) (h.below (hb1.mono hB)) (by omega)
  rw [← hn] at hc
  have HC := hid hc
  have HB := hid hb1
  clear h h' hb1 hs1 hcell ht hc hn hn'
  go_enter Try.func55, Try.ntmps55
  go_wp2_with fail
  rw [← hw1]
  clear hw1
  refine HC.out.mono ?_
  rintro e w2 ⟨rfl, hb2⟩
  have H2 := hid hb2
  clear hb2
  go_wp2
  go_ret
  exact ⟨by rw [← not_any]; rfl, HB.out.trans (H2.out.mono HB.out.size)⟩
set_option maxHeartbeats 3200000 in
theorem same_any (B : Nat) (c : Cf) (hs : Short c) (m : M3) (w : World) (h : InC w B c m) (hB : B ≤ w.heap.size) :
    Calls Try.prog 53 #[.agg #[.slice m.a0 m.n0 m.k0, .slice m.a1 m.n1 m.k1, .slice m.a2 m.n2 m.k2]] w (Got w c) := by
  obtain ⟨w2, hw2⟩ : ∃ w2, w2 = (w.alloc (.cells #[.slice m.a0 m.n0 m.k0, .slice m.a1 m.n1 m.k1, .slice m.a2 m.n2 m.k2] 45)).alloc (.cells #[.slice none 0 0, .slice none 0 0, .slice none 0 0] 24) := ⟨_, rfl⟩
  have hq := box2 w 45 m
  rw [← hw2] at hq
  obtain ⟨hb2, hs2, hx2, hz2⟩ := hq
  have CP : ∀ (A : Option Addr) (k n : Nat) (l : List Int), n = l.length → l.length ≤ 20000 → (A = none → k = 0) → IsInts w2.drew B A l → ∀ W, Below w2.drew.heap.size w2.drew W → Calls Try.prog 48 #[.slice A n k] W fun e w'' => ∃ A' p, e = .returned (.slice A' n p) ∧ Hid (OwnsI 3 w'' W.heap.size A' p l) ∧ Hid (Below w2.drew.heap.size w2.drew w'') ∧ Hid (Below W.heap.size W w'') := fun A k n l hn hl hz hi W hb =>
    (clone_M B A k n l hn (by omega) hz W (hi.below (hb.mono (by show B ≤ w2.heap.size; omega))) (by have := hb.size; have : w2.drew.heap.size = w2.heap.size := rfl; omega)).mono fun e w'' ⟨A', p, he, ho, hb2⟩ => ⟨A', p, he, hid ho, hid (bthen hb hb2 hb.size), hid hb2⟩
  have hI := (h.below (hb2.mono hB)).drew
  have HC0 := hid (CP m.a0 m.k0 m.n0 c.old h.e0 hs.1 h.cis.zo hI.o w2.drew (Below.refl _ _))
  have HC1 := hid (CP m.a1 m.k1 m.n1 c.new h.e1 hs.2.1 h.cis.zn hI.n)
  have HC2 := hid (CP m.a2 m.k2 m.n2 c.lrn h.e2 hs.2.2 h.cis.zl hI.l)
  have HX : Hid (∀ W, Below w2.drew.heap.size w2.drew W → Bx W w.heap.size 45 m ∧ Bx W (w.heap.size + 1) 24 mNil) := hid (fun W hb => ⟨Bx.below (w := w2.drew) hx2 hb (by show _ < w2.heap.size; omega), Bx.below (w := w2.drew) hz2 hb (by show _ < w2.heap.size; omega)⟩)
  have HY : Hid (∀ W v, Below w2.drew.heap.size w2.drew W → Bx (W.setRow (w.heap.size + 1) v) w.heap.size 45 m) := hid (fun W v hb => by
    have h1 := (HX.out W hb).1
    exact h1.keep (setRow_other W (w.heap.size + 1) w.heap.size v (by omega)))
  have c0 := (HX.out w2.drew (Below.refl _ _)).1.c0
  have c1 := (HX.out w2.drew (Below.refl _ _)).1.c1
  have c2 := (HX.out w2.drew (Below.refl _ _)).1.c2
  have HE := hid (And.intro h.e0 (And.intro h.e1 h.e2))
  have HQ := hid (And.intro hb2 hs2)
  clear h hb2 hs2 hx2 hz2 hI CP
  go_enter Try.func53, Try.ntmps53
  go_wp2_with fail
  rw [← hw2]
  clear hw2
  go_region_held3 (fun w' => w'.cell? ⟨w.heap.size, 0, none⟩ = some (.slice m.a0 m.n0 m.k0) ∧ w'.cell? ⟨w.heap.size, 1, none⟩ = some (.slice m.a1 m.n1 m.k1) ∧ w'.cell? ⟨w.heap.size, 2, none⟩ = some (.slice m.a2 m.n2 m.k2))
    (first | exact ⟨c0, c1, c2⟩ | exact ⟨(HY.out _ _ hb3.out).c0, (HY.out _ _ hb3.out).c1, (HY.out _ _ hb3.out).c2⟩ | exact ⟨(HX.out _ hb3.out).1.c0, (HX.out _ hb3.out).1.c1, (HX.out _ hb3.out).1.c2⟩ | exact ⟨(HX.out _ hb2.out).1.c0, (HX.out _ hb2.out).1.c1, (HX.out _ hb2.out).1.c2⟩ | exact ⟨(HX.out _ hb1.out).1.c0, (HX.out _ hb1.out).1.c1, (HX.out _ hb1.out).1.c2⟩ | fail)
    (first
      | (go_at_call 48; refine HY2.out.mono ?_; rintro e3 w3 ⟨A2, p2, rfl, ho2, hb3, hbb3⟩; have hst := (HX.out w3 hb3.out).2.st (m' := ⟨A0, m.n0, p0, A1, m.n1, p1, A2, m.n2, p2⟩))
      | (go_at_call 48; refine HY1.out.mono ?_; rintro e2 wb ⟨A1, p1, rfl, ho1, hb2, hbb2⟩; have HY2 := hid (HC2.out wb hb2.out))
      | (go_at_call 48; refine HC0.out.mono ?_; rintro e1 wa ⟨A0, p0, rfl, ho0, hb1, hbb1⟩; have HY1 := hid (HC1.out wa hb1.out)))
  obtain ⟨v4, hv4⟩ : ∃ v4, v4 = w3.setRow (w.heap.size + 1) #[.slice A0 m.n0 p0, .slice A1 m.n1 p1, .slice A2 m.n2 p2] := ⟨_, rfl⟩
  have H4 : Hid (Bx v4 (w.heap.size + 1) 24 ⟨A0, m.n0, p0, A1, m.n1, p1, A2, m.n2, p2⟩ ∧ OwnC v4 w.heap.size v4.heap.size c ⟨A0, m.n0, p0, A1, m.n1, p1, A2, m.n2, p2⟩ ∧ Below w.heap.size w v4) := hid (by
    have z0 : w2.drew.heap.size = w2.heap.size := rfl
    have z1 := hb1.out.size
    have z2 := hbb2.out.size
    have z3 := hbb3.out.size
    have o0 := (ho0.out.below hbb2.out).below hbb3.out
    have o1 := ho1.out.below hbb3.out
    have o2 := ho2.out
    have q0 := ho0.out.blkLt
    have q1 := ho1.out.blkLt
    have q2 := ho2.out.blkLt
    have hc3 : OwnC w3 w2.heap.size w3.heap.size c ⟨A0, m.n0, p0, A1, m.n1, p1, A2, m.n2, p2⟩ :=
      own3 (o0.weaken (by omega)) HE.out.1 (o1.weaken (by omega)) HE.out.2.1 (o2.weaken (by omega)) HE.out.2.2 (fun k hk e => by have := q0 k hk; have := q1 k e; omega) (fun k hk e => by have := q0 k hk; have := q2 k e; omega) (fun k hk e => by have := q1 k hk; have := q2 k e; omega)
    have hl : Below w.heap.size w w3 := (Below.drew HQ.out.1).trans (hb3.out.mono (by have := HQ.out.1.size; omega))
    have hg := got_box hc3 hl (b := w.heap.size + 1) ⟨by omega, by have := HQ.out.2; omega⟩
    rw [hv4]
    exact ⟨((HX.out w3 hb3.out).2).set ⟨A0, m.n0, p0, A1, m.n1, p1, A2, m.n2, p2⟩, hg.1, hg.2⟩)
  rw [← hv4]
  clear hv4 hst
  go_wp2
  refine bodyPost_ret (results_cell_row rfl _ _ (w.heap.size + 1) _ _ _ _ rfl H4.out.1 Try.underlying24 rfl (by rw [Im.info_conf33]; rfl)) rfl ?_
  exact ⟨_, rfl, H4.out.2.1, H4.out.2.2⟩
theorem members_M (B : Nat) (c : Cf) (hs : Short c) (m : M3) (w : World) (h : InC w B c m) (hB : B ≤ w.heap.size) (u : Nat) (hu : u = (Qu.uni (c.old ++ c.new ++ c.lrn)).length) :
    Calls Try.prog 67 #[.agg #[.slice m.a0 m.n0 m.k0, .slice m.a1 m.n1 m.k1, .slice m.a2 m.n2 m.k2]] w fun e w' => ∃ A c', e = .returned (.slice A u c') ∧ OwnsI 3 w' w.heap.size A c' (Qu.uni (c.old ++ c.new ++ c.lrn)) ∧ Below w.heap.size w w' := by
  subst hu; rw [h.val]; exact members_any B c hs _ _ _ _ _ _ w h.cis hB
set_option maxHeartbeats 3200000 in
theorem both_any (B : Nat) (c : Cf) (hs : Short c) (m : M3) (w : World) (h : InC w B c m) (hB : B ≤ w.heap.size) :
    Calls Try.prog 56 #[.agg #[.slice m.a0 m.n0 m.k0, .slice m.a1 m.n1 m.k1, .slice m.a2 m.n2 m.k2]] w (Got w ⟨c.old, Qu.uni (c.old ++ c.new ++ c.lrn), []⟩) := by
  obtain ⟨w2, hw2⟩ : ∃ w2, w2 = (w.alloc (.cells #[.slice m.a0 m.n0 m.k0, .slice m.a1 m.n1 m.k1, .slice m.a2 m.n2 m.k2] 45)).alloc (.cells #[.slice none 0 0, .slice none 0 0, .slice none 0 0] 24) := ⟨_, rfl⟩
  have hq := box2 w 45 m
  rw [← hw2] at hq
  obtain ⟨hb2, hs2, hx2, hz2⟩ := hq
  obtain ⟨u, hu⟩ : ∃ u, u = (Qu.uni (c.old ++ c.new ++ c.lrn)).length := ⟨_, rfl⟩
  have hI := (h.below (hb2.mono hB)).drew
  have HC0 : Hid (Calls Try.prog 48 #[.slice m.a0 m.n0 m.k0] w2.drew fun e w'' => ∃ A' p, e = .returned (.slice A' m.n0 p) ∧ Hid (OwnsI 3 w'' w2.drew.heap.size A' p c.old) ∧ Hid (Below w2.drew.heap.size w2.drew w'')) := hid
    ((clone_M B m.a0 m.k0 m.n0 c.old h.e0 (by have := h.e0; have := hs.1; omega) h.cis.zo w2.drew hI.o (by show B ≤ w2.heap.size; omega)).mono fun e w'' ⟨A', p, he, ho, hb2⟩ => ⟨A', p, he, hid ho, hid hb2⟩)
  have HC1 := hid (fun W (hb : Below w2.drew.heap.size w2.drew W) => (members_M B c hs m W (hI.below (hb.mono (by show B ≤ w2.heap.size; omega))) (by have := hb.size; have : w2.drew.heap.size = w2.heap.size := rfl; omega) u hu).mono (R' := fun e w'' => ∃ A' p, e = .returned (.slice A' u p) ∧ Hid (OwnsI 3 w'' W.heap.size A' p (Qu.uni (c.old ++ c.new ++ c.lrn))) ∧ Hid (Below w2.drew.heap.size w2.drew w'') ∧ Hid (Below W.heap.size W w'')) (fun e w'' ⟨A', p, he, ho, hb2⟩ => ⟨A', p, he, hid ho, hid (bthen hb hb2 hb.size), hid hb2⟩))
  have HX : Hid (∀ W, Below w2.drew.heap.size w2.drew W → Bx W w.heap.size 45 m ∧ Bx W (w.heap.size + 1) 24 mNil) := hid (fun W hb => ⟨Bx.below (w := w2.drew) hx2 hb (by show _ < w2.heap.size; omega), Bx.below (w := w2.drew) hz2 hb (by show _ < w2.heap.size; omega)⟩)
  have HY : Hid (∀ W v, Below w2.drew.heap.size w2.drew W → Bx (W.setRow (w.heap.size + 1) v) w.heap.size 45 m) := hid (fun W v hb => by
    have h1 := (HX.out W hb).1
    exact h1.keep (setRow_other W (w.heap.size + 1) w.heap.size v (by omega)))
  have c0 := (HX.out w2.drew (Below.refl _ _)).1.c0
  have ld := (HX.out w2.drew (Below.refl _ _)).1.ldM
  have HE := hid (And.intro h.e0 hu)
  have HQ := hid (And.intro hb2 hs2)
  clear h hb2 hs2 hx2 hz2 hI hu
  go_enter Try.func56, Try.ntmps56
  go_wp2_with fail
  rw [← hw2]
  clear hw2
  go_region_held3 (fun w' => w'.cell? ⟨w.heap.size, 0, none⟩ = some (.slice m.a0 m.n0 m.k0) ∧ (Im.ldX 45 (.pointer (some ⟨w.heap.size, 0, none⟩))).run Try.prog w' = .ok (.agg #[.slice m.a0 m.n0 m.k0, .slice m.a1 m.n1 m.k1, .slice m.a2 m.n2 m.k2]) w')
    (first | exact ⟨c0, ld⟩ | exact ⟨(HY.out _ _ hb3.out).c0, (HY.out _ _ hb3.out).ldM⟩ | exact ⟨(HX.out _ hb3.out).1.c0, (HX.out _ hb3.out).1.ldM⟩ | exact ⟨(HX.out _ hb1.out).1.c0, (HX.out _ hb1.out).1.ldM⟩ | fail)
    (first
      | (go_at_call 67; refine HY1.out.mono ?_; rintro e3 w3 ⟨A1, p1, rfl, ho1, hb3, hbb3⟩; have hst := (HX.out w3 hb3.out).2.st (m' := ⟨A0, m.n0, p0, A1, u, p1, none, 0, 0⟩))
      | (go_at_call 48; refine HC0.out.mono ?_; rintro e1 wa ⟨A0, p0, rfl, ho0, hb1⟩; have HY1 := hid (HC1.out wa hb1.out)))
  obtain ⟨v4, hv4⟩ : ∃ v4, v4 = w3.setRow (w.heap.size + 1) #[.slice A0 m.n0 p0, .slice A1 u p1, .slice none 0 0] := ⟨_, rfl⟩
  have H4 : Hid (Bx v4 (w.heap.size + 1) 24 ⟨A0, m.n0, p0, A1, u, p1, none, 0, 0⟩ ∧ OwnC v4 w.heap.size v4.heap.size ⟨c.old, Qu.uni (c.old ++ c.new ++ c.lrn), []⟩ ⟨A0, m.n0, p0, A1, u, p1, none, 0, 0⟩ ∧ Below w.heap.size w v4) := hid (by
    have z0 : w2.drew.heap.size = w2.heap.size := rfl
    have z1 := hb1.out.size
    have z3 := hbb3.out.size
    have o0 := ho0.out.below hbb3.out
    have o1 := ho1.out
    have q0 := ho0.out.blkLt
    have q1 := ho1.out.blkLt
    have hc3 : OwnC w3 w2.heap.size w3.heap.size ⟨c.old, Qu.uni (c.old ++ c.new ++ c.lrn), []⟩ ⟨A0, m.n0, p0, A1, u, p1, none, 0, 0⟩ :=
      own2 (o0.weaken (by omega)) HE.out.1 (o1.weaken (by omega)) HE.out.2 (fun k hk e => by have := q0 k hk; have := q1 k e; omega)
    have hl : Below w.heap.size w w3 := (Below.drew HQ.out.1).trans (hb3.out.mono (by have := HQ.out.1.size; omega))
    have hg := got_box hc3 hl (b := w.heap.size + 1) ⟨by omega, by have := HQ.out.2; omega⟩
    rw [hv4]
    exact ⟨((HX.out w3 hb3.out).2).set ⟨A0, m.n0, p0, A1, u, p1, none, 0, 0⟩, hg.1, hg.2⟩)
  rw [← hv4]
  clear hv4 hst
  go_wp2
  refine bodyPost_ret (results_cell_row rfl _ _ (w.heap.size + 1) _ _ _ _ rfl H4.out.1 Try.underlying24 rfl (by rw [Im.info_conf33]; rfl)) rfl ?_
  exact ⟨_, rfl, H4.out.2.1, H4.out.2.2⟩
end Go.Proofs.Ytfkjahpcpmcefaa.Co
namespace Go.Proofs.Ytfkjahpcpmcefaa.Co
open Go Go.RowKit
open Qu (Cf)
set_option maxRecDepth 100000
set_option linter.unusedVariables false
attribute [local go_sem ↓] Im.loadAt_conf3 Im.storeAt_conf3 loadAt_mem storeAt_mem
def Leads (F : FuncId) (c x : Cf) : Prop := (F = 53 ∧ x = c) ∨ (F = 54 ∧ x = ⟨c.new, [], []⟩) ∨ (F = 56 ∧ x = ⟨c.old, Qu.uni (c.old ++ c.new ++ c.lrn), []⟩)
theorem next_bad {c : Cf} (h : Qu.ok c = false ∨ Co.chg c = false) (f : List Int) : next c f = (c, false) := by unfold next; rw [if_pos h]
theorem next_alone {c : Cf} (h : ¬ (Qu.ok c = false ∨ Co.chg c = false)) (hn : c.new ≠ []) (f : List Int) : next c f = (⟨c.new, [], []⟩, true) := by unfold next; rw [if_neg h, if_pos hn]
theorem next_both {c : Cf} (h : ¬ (Qu.ok c = false ∨ Co.chg c = false)) (hn : c.new = []) {f : List Int} (hf : ∀ x ∈ c.lrn, x ∈ f) : next c f = (⟨c.old, Qu.uni (c.old ++ c.new ++ c.lrn), []⟩, true) := by
  unfold next; rw [if_neg h, if_neg (by simpa using hn), if_pos hf, hn, List.append_nil]
theorem next_wait {c : Cf} (h : ¬ (Qu.ok c = false ∨ Co.chg c = false)) (hn : c.new = []) {f : List Int} (hf : ¬ ∀ x ∈ c.lrn, x ∈ f) : next c f = (c, false) := by
  unfold next; rw [if_neg h, if_neg (by simpa using hn), if_neg hf]
def StepIs (c : Cf) (f : List Int) (m : M3) (w : World) (e : Ending) (w' : World) : Prop := ∃ (F : FuncId) (b : Bool), e = .returned (.tuple #[.func (.func F) #[.agg #[.slice m.a0 m.n0 m.k0, .slice m.a1 m.n1 m.k1, .slice m.a2 m.n2 m.k2]] #[], .bool b]) ∧ Hid (Leads F c (next c f).1 ∧ b = (next c f).2) ∧ Below w.heap.size w w'
set_option maxHeartbeats 3200000 in
theorem step_any (B B' : Nat) (c : Cf) (hs : Short c) (m : M3) (A' : Option Addr) (n' k' : Nat) (f : List Int) (hn' : n' = f.length) (hl' : n' ≤ 100000) (w : World) (h : InC w B c m) (h' : IsInts w B' A' f) (hB : B ≤ w.heap.size) (hB' : B' ≤ w.heap.size) :
    Calls Try.prog 31 #[.agg #[.slice m.a0 m.n0 m.k0, .slice m.a1 m.n1 m.k1, .slice m.a2 m.n2 m.k2], .slice A' n' k'] w (StepIs c f m w) := by
  have hmf : ∀ (fn : Fn) (first cap : Array Value) (w : World), (Instr.makeFunc fn first cap).run Try.prog w = .ok (.func fn first cap) w := fun _ _ _ _ => rfl
  obtain ⟨w1, hw1⟩ : ∃ w1, w1 = w.alloc (.cells #[.slice m.a0 m.n0 m.k0, .slice m.a1 m.n1 m.k1, .slice m.a2 m.n2 m.k2] 45) := ⟨_, rfl⟩
  have hb1 : Below w.heap.size w w1 := by rw [hw1]; exact below_new w _
  have hs1 : w1.heap.size = w.heap.size + 1 := by rw [hw1]; simp
  have hx1 : Bx w1 w.heap.size 45 m := by rw [hw1]; exact Bx.new _ _ _
  have hld := (Bx.new w 45 m).ldM
  have HI := hid (invalid_any B c hs m w1 (h.below (hb1.mono hB)) (by omega))
  have HX := hid (And.intro hx1 (And.intro hs1 hb1))
  have HG := hid h.chg
  have H0 := hid (And.intro h (And.intro h' (And.intro hB hB')))
  have HN := hid (And.intro hn' (And.intro hl' hs))
  have HK : Hid (∀ W, Below w1.heap.size w1 W → Bx W w.heap.size 45 m ∧ Below w.heap.size w W) := hid (fun W hb => ⟨HX.out.1.below hb (by rw [HX.out.2.1]; omega), HX.out.2.2.trans (hb.mono HX.out.2.2.size)⟩)
  clear h h' hb1 hs1 hx1 hn' hl' hs hB hB'
  cases ho : Qu.ok c
  · have HF := hid (next_bad (.inl ho) f)
    rw [ho] at HI
    clear ho
    go_enter Try.func31, Try.ntmps31
    go_wp2_with fail
    rw [← hw1]
    clear hw1
    refine HI.out.mono ?_
    rintro e w2 ⟨rfl, hb2⟩
    have H2 := hid (HK.out w2 hb2)
    have hld2 := H2.out.1.ldM
    clear hb2 hld
    go_wp2_with fail
    go_ret2
    exact ⟨_, false, rfl, hid (by rw [HF.out]; exact ⟨.inl ⟨rfl, rfl⟩, rfl⟩), H2.out.2⟩
  have HO := hid ho
  rw [ho] at HI
  clear ho
  cases hc : Co.chg c
  · have HF := hid (next_bad (.inr hc) f)
    rw [hc] at HG
    clear hc
    go_enter Try.func31, Try.ntmps31
    go_wp2_with fail
    rw [← hw1]
    clear hw1
    refine HI.out.mono ?_
    rintro e w2 ⟨rfl, hb2⟩
    have hld2 := (HK.out w2 hb2).1.ldM
    have H2 := hid hb2
    clear hb2 hld
    go_wp2_with fail
    refine (changing_any m w2).mono ?_
    rintro e w3 ⟨rfl, hb3⟩
    rw [HG.out]
    have H3 := hid (HK.out w3 (H2.out.trans (hb3.mono H2.out.size)))
    have hld3 := H3.out.1.ldM
    clear hb3 hld2
    go_wp2_with fail
    go_ret2
    exact ⟨_, false, rfl, hid (by rw [HF.out]; exact ⟨.inl ⟨rfl, rfl⟩, rfl⟩), H3.out.2⟩
  have hgo : ¬ (Qu.ok c = false ∨ Co.chg c = false) := by rw [HO.out, hc]; decide
  have HGO := hid hgo
  rw [hc] at HG
  clear hc hgo
  by_cases hn : c.new = []
  · have hz : m.n1 = 0 := by rw [H0.out.1.e1, hn]; rfl
    have hz' : decide (0 < m.n1) = false := by rw [hz]; decide
    have HNN := hid hn
    clear hn hz
    by_cases hf : ∀ x ∈ c.lrn, x ∈ f
    · have HF := hid (next_both HGO.out HNN.out hf)
      have HWI := hid (fun W hb => within_any B B' m.a2 A' m.k2 m.n2 k' n' c.lrn f H0.out.1.e2 HN.out.1 (by have := H0.out.1.e2; have := HN.out.2.2.2.2; omega) HN.out.2.1 W (H0.out.1.below (Below.mono hb H0.out.2.2.1)).l (H0.out.2.1.below (Below.mono hb H0.out.2.2.2)) (by have := Below.size (w := w) (w' := W) hb; have := H0.out.2.2.1; omega) (by have := Below.size (w := w) (w' := W) hb; have := H0.out.2.2.2; omega))
      rw [decide_eq_true hf] at HWI
      clear hf
      go_enter Try.func31, Try.ntmps31
      go_wp2_with fail
      rw [← hw1]
      clear hw1
      refine HI.out.mono ?_
      rintro e w2 ⟨rfl, hb2⟩
      have hld2 := (HK.out w2 hb2).1.ldM
      have H2 := hid hb2
      clear hb2 hld
      go_wp2_with fail
      refine (changing_any m w2).mono ?_
      rintro e w3 ⟨rfl, hb3⟩
      rw [HG.out]
      have H3 := hid (H2.out.trans (hb3.mono H2.out.size))
      have hc1 := (HK.out w3 H3.out).1.c1
      have hc2 := (HK.out w3 H3.out).1.c2
      clear hb3 hld2
      go_wp2_with fail
      refine (HWI.out w3 (HK.out w3 H3.out).2).mono ?_
      rintro e w4 ⟨rfl, hb4⟩
      have H4 := hid (H3.out.trans (hb4.mono H3.out.size))
      have hld4 := (HK.out w4 H4.out).1.ldM
      clear hb4 hc1 hc2
      go_wp2_with fail
      go_ret2
      exact ⟨_, true, rfl, hid (by rw [HF.out]; exact ⟨.inr (.inr ⟨rfl, rfl⟩), rfl⟩), (HK.out w4 H4.out).2⟩
    · have HF := hid (next_wait HGO.out HNN.out hf)
      have HWI := hid (fun W hb => within_any B B' m.a2 A' m.k2 m.n2 k' n' c.lrn f H0.out.1.e2 HN.out.1 (by have := H0.out.1.e2; have := HN.out.2.2.2.2; omega) HN.out.2.1 W (H0.out.1.below (Below.mono hb H0.out.2.2.1)).l (H0.out.2.1.below (Below.mono hb H0.out.2.2.2)) (by have := Below.size (w := w) (w' := W) hb; have := H0.out.2.2.1; omega) (by have := Below.size (w := w) (w' := W) hb; have := H0.out.2.2.2; omega))
      rw [decide_eq_false hf] at HWI
      clear hf
      go_enter Try.func31, Try.ntmps31
      go_wp2_with fail
      rw [← hw1]
      clear hw1
      refine HI.out.mono ?_
      rintro e w2 ⟨rfl, hb2⟩
      have hld2 := (HK.out w2 hb2).1.ldM
      have H2 := hid hb2
      clear hb2 hld
      go_wp2_with fail
      refine (changing_any m w2).mono ?_
      rintro e w3 ⟨rfl, hb3⟩
      rw [HG.out]
      have H3 := hid (H2.out.trans (hb3.mono H2.out.size))
      have hc1 := (HK.out w3 H3.out).1.c1
      have hc2 := (HK.out w3 H3.out).1.c2
      clear hb3 hld2
      go_wp2_with fail
      refine (HWI.out w3 (HK.out w3 H3.out).2).mono ?_
      rintro e w4 ⟨rfl, hb4⟩
      have H4 := hid (H3.out.trans (hb4.mono H3.out.size))
      have hld4 := (HK.out w4 H4.out).1.ldM
      clear hb4 hc1 hc2
      go_wp2_with fail
      go_ret2
      exact ⟨_, false, rfl, hid (by rw [HF.out]; exact ⟨.inl ⟨rfl, rfl⟩, rfl⟩), (HK.out w4 H4.out).2⟩
  · have HF := hid (next_alone HGO.out hn f)
    have hz : 0 < m.n1 := by rw [H0.out.1.e1]; exact List.length_pos_iff.2 hn
    have hz' : (0 : Int) < (m.n1 : Int) := by omega
    clear hn hz
    go_enter Try.func31, Try.ntmps31
    go_wp2_with fail
    rw [← hw1]
    clear hw1
    refine HI.out.mono ?_
    rintro e w2 ⟨rfl, hb2⟩
    have hld2 := (HK.out w2 hb2).1.ldM
    have H2 := hid hb2
    clear hb2 hld
    go_wp2_with fail
    refine (changing_any m w2).mono ?_
    rintro e w3 ⟨rfl, hb3⟩
    rw [HG.out]
    have H3 := hid (H2.out.trans (hb3.mono H2.out.size))
    have hc1 := (HK.out w3 H3.out).1.c1
    have hld3 := (HK.out w3 H3.out).1.ldM
    clear hb3 hld2
    go_wp2_with fail
    go_ret2
    exact ⟨_, true, rfl, hid (by rw [HF.out]; exact ⟨.inr (.inl ⟨rfl, rfl⟩), rfl⟩), (HK.out w3 H3.out).2⟩
end Go.Proofs.Ytfkjahpcpmcefaa.Co
namespace Go.Proofs.Ytfkjahpcpmcefaa.Co
open Go Go.RowKit
open Qu (Cf)
set_option maxRecDepth 100000
set_option linter.unusedVariables false
attribute [local go_sem ↓] Im.loadAt_conf3 Im.storeAt_conf3 loadAt_mem storeAt_mem
def GotB (w : World) (x : Cf) (b : Bool) (e : Ending) (w' : World) : Prop := ∃ m : M3, e = .returned (.tuple #[.agg #[.slice m.a0 m.n0 m.k0, .slice m.a1 m.n1 m.k1, .slice m.a2 m.n2 m.k2], .bool b]) ∧ OwnC w' w.heap.size w'.heap.size x m ∧ Below w.heap.size w w'
def GotE (w : World) (x : Cf) (n : Int) (e : Ending) (w' : World) : Prop := ∃ m : M3, e = .returned (.tuple #[.agg #[.slice m.a0 m.n0 m.k0, .slice m.a1 m.n1 m.k1, .slice m.a2 m.n2 m.k2], .int .i64 n]) ∧ OwnC w' w.heap.size w'.heap.size x m ∧ Below w.heap.size w w'
set_option maxHeartbeats 3200000 in
theorem next_any (B B' : Nat) (c : Cf) (hs : Short c) (m : M3) (A' : Option Addr) (n' k' : Nat) (f : List Int) (hn' : n' = f.length) (hl' : n' ≤ 100000) (w : World) (h : InC w B c m) (h' : IsInts w B' A' f) (hB : B ≤ w.heap.size) (hB' : B' ≤ w.heap.size) :
    Calls Try.prog 12 #[.agg #[.slice m.a0 m.n0 m.k0, .slice m.a1 m.n1 m.k1, .slice m.a2 m.n2 m.k2], .slice A' n' k'] w (GotB w (next c f).1 (next c f).2) := by
  obtain ⟨w2, hw2⟩ : ∃ w2, w2 = (w.alloc (.cells #[.slice m.a0 m.n0 m.k0, .slice m.a1 m.n1 m.k1, .slice m.a2 m.n2 m.k2] 24)).alloc (.cells #[.slice none 0 0, .slice none 0 0, .slice none 0 0] 24) := ⟨_, rfl⟩
  have hq := box2 w 24 m
  have hld := hq.2.2.1.ld
  rw [← hw2] at hq
  have HQ := hid hq
  have HI : Hid (∀ W, Below w.heap.size w W → InC W B c m ∧ B ≤ W.heap.size) := hid (fun W hb => ⟨h.below (hb.mono hB), by have := hb.size; omega⟩)
  have HST := hid (step_any B B' c hs m A' n' k' f hn' hl' w2 (h.below (hq.1.mono hB)) (h'.below (hq.1.mono hB')) (by have := hq.2.1; omega) (by have := hq.2.1; omega))
  have HS := hid hs
  have hmo := hid hB
  clear h h' hq hs hn' hl' hB hB'
  go_enter Try.func12, Try.ntmps12
  go_wp2_with fail
  rw [← hw2]
  clear hw2 hld
  refine HST.out.mono ?_
  rintro e w3 ⟨F, b, rfl, HF, hb3⟩
  have H3 := hid hb3
  have HC : Hid (Calls Try.prog F #[.agg #[.slice m.a0 m.n0 m.k0, .slice m.a1 m.n1 m.k1, .slice m.a2 m.n2 m.k2]] w3 (Got w3 (next c f).1)) := hid (by
    have hw3 : Below w.heap.size w w3 := HQ.out.1.trans (hb3.mono HQ.out.1.size)
    obtain ⟨i1, i2⟩ := HI.out w3 hw3
    rcases HF.out.1 with ⟨rfl, e⟩ | ⟨rfl, e⟩ | ⟨rfl, e⟩
    · rw [e]; exact same_any B c HS.out m w3 i1 i2
    · rw [e]; exact newAlone_any B c HS.out m w3 i1 i2
    · rw [e]; exact both_any B c HS.out m w3 i1 i2)
  have e0 : ∀ args w, (callFunc F args).run Try.prog w = .ok (.enter F args) w := by
    rcases HF.out.1 with ⟨rfl, _⟩ | ⟨rfl, _⟩ | ⟨rfl, _⟩
    · exact enters_of (P := Try.prog) Try.func53 (by kernel_rfl) rfl
    · exact enters_of (P := Try.prog) Try.func54 (by kernel_rfl) rfl
    · exact enters_of (P := Try.prog) Try.func56 (by kernel_rfl) rfl
  clear hb3
  go_wp2_with (go_at_fn F; refine HC.out.mono ?_; rintro e w4 ⟨m', rfl, ho4, hb4⟩; have H4 := hid (And.intro ho4 hb4); have hst := (HQ.out.2.2.2.below (H3.out.trans (hb4.mono H3.out.size)) (by have := HQ.out.2.1; omega)).st (m' := m'))
  have hbx := (HQ.out.2.2.2.below (H3.out.trans (hb4.mono H3.out.size)) (by have := HQ.out.2.1; omega)).set m'
  have hg := got_box (w2 := w3) (m := m') (b := w.heap.size + 1) H4.out.1 (HQ.out.1.trans ((H3.out.trans (hb4.mono H3.out.size)).mono HQ.out.1.size)) ⟨by omega, by have := HQ.out.2.1; have := H3.out.size; omega⟩
  refine bodyPost_ret (Im.results_two rfl Im.info_conf33 Try.underlying24 rfl _ _ (w.heap.size + 1) _ _ _ rfl hbx rfl) rfl ?_
  exact ⟨m', by rw [← HF.out.2]; rfl, hg.1, hg.2⟩
end Go.Proofs.Ytfkjahpcpmcefaa.Co
namespace Go.Proofs.Ytfkjahpcpmcefaa.Co
open Go Go.RowKit
open Qu (Cf)
set_option maxRecDepth 100000
set_option linter.unusedVariables false
attribute [local go_sem ↓] Im.loadAt_conf3 Im.storeAt_conf3 loadAt_mem storeAt_mem
def orI : List Int → Int
  | [] => 0
  | x :: r => if x = 0 then orI r else x
theorem orI_next (L : List Int) (k : Nat) (h : k < L.length) : orI (L.drop k) = if L[k] = 0 then orI (L.drop (k + 1)) else L[k] := by
  rw [List.drop_eq_getElem_cons h]; rfl
set_option maxHeartbeats 1600000 in
theorem or_any (B : Nat) (A : Option Addr) (c : Nat) (L : List Int) (n : Nat) (hn : L.length = n) (hl : n ≤ 1000) (w : World) (h : IsInts w B A L) :
    Calls Try.prog 45 #[.slice A n c] w fun e w' => e = .returned (.int .i64 (orI L)) ∧ w = w' := by
  go_enter Try.func45, Try.ntmps45
  go_wp2_with fail
  go_loop [5, 8] (fun _ i => ∃ k : Nat, k ≤ n ∧ i = .int .i64 k ∧ Hid (orI (L.drop k) = orI L)) (fun _ i => n - (RowKit.intOf i).toNat)
  case atStart => exact ⟨0, by omega, rfl, hid (by simp)⟩
  case round =>
    obtain ⟨k, hk, rfl, HK⟩ := hrel
    by_cases hlt : k < n
    · obtain ⟨b, off, rfl, _, hc⟩ := h.cells k (by omega)
      have hck := hc k (by omega)
      have hnx := orI_next L k (by omega)
      obtain ⟨x, hx⟩ : ∃ x, x = L[k]'(by omega) := ⟨_, rfl⟩
      rw [← hx] at hck hnx
      by_cases h0 : x = 0
      · rw [if_pos h0] at hnx
        have HN := hid hnx
        subst h0
        clear hnx hc hx
        go_wp2_with fail
        go_round
        case rel => exact ⟨k + 1, by omega, by go_num, hid (by rw [← HN.out]; exact HK.out)⟩
        case measure => simp [RowKit.intOf]; omega
      · rw [if_neg h0] at hnx
        have HN := hid hnx
        clear hnx hc hx
        go_wp2_with fail
        go_ret
        exact ⟨ret_int (by rw [← HK.out]; exact HN.out.symm), rfl⟩
    · obtain rfl : k = n := by omega
      have HN : Hid (orI L = 0) := hid (by rw [← HK.out, List.drop_of_length_le (by omega)]; rfl)
      go_wp2_with fail
      go_ret
      exact ⟨ret_int HN.out.symm, rfl⟩
theorem isInts_two (w : World) (t : TypeId) (x y : Int) (hx : InInt x) (hy : InInt y) : IsInts (w.alloc (.cells #[.int .i64 x, .int .i64 y] t)) (w.heap.size + 1) (some ⟨w.heap.size, 0, none⟩) [x, y] := by
  have hr := heap_alloc_new w (.cells #[.int .i64 x, .int .i64 y] t)
  refine ⟨fun z hz => by simp at hz; rcases hz with rfl | rfl <;> assumption, fun k hk => ⟨w.heap.size, 0, rfl, by omega, fun i hi => ?_⟩⟩
  have hi2 : i < 2 := hi
  rcases i with _ | _ | i
  · exact cell_of_row _ w.heap.size 0 _ _ _ hr
  · exact cell_of_row _ w.heap.size 1 _ _ _ hr
  · omega
theorem forb_in (c : Cf) (n : Int) : InInt (forb c n) := by
  unfold forb
  repeat' split
  all_goals exact ⟨by decide, by decide⟩
set_option maxHeartbeats 3200000 in
theorem begun_any (B : Nat) (c : Cf) (hs : Short c) (m : M3) (n : Int) (hn : InInt n) (w : World) (h : InC w B c m) (hB : B ≤ w.heap.size) (G F : FuncId) (g : Int) (hg : InInt g) (x : Cf)
    (eG : ∀ args w, (callFunc G args).run Try.prog w = .ok (.enter G args) w) (eF : ∀ args w, (callFunc F args).run Try.prog w = .ok (.enter F args) w)
    (cG : ∀ W, InC W B c m → B ≤ W.heap.size → Calls Try.prog G #[.agg #[.slice m.a0 m.n0 m.k0, .slice m.a1 m.n1 m.k1, .slice m.a2 m.n2 m.k2], .int .i64 n] W fun e w' => e = .returned (.int .i64 g) ∧ Below W.heap.size W w')
    (cF : ∀ W, InC W B c m → B ≤ W.heap.size → Calls Try.prog F #[.agg #[.slice m.a0 m.n0 m.k0, .slice m.a1 m.n1 m.k1, .slice m.a2 m.n2 m.k2], .int .i64 n] W (Got W x)) :
    Calls Try.prog 26 #[.agg #[.slice m.a0 m.n0 m.k0, .slice m.a1 m.n1 m.k1, .slice m.a2 m.n2 m.k2], .int .i64 n, .func (.func G) #[.agg #[.slice m.a0 m.n0 m.k0, .slice m.a1 m.n1 m.k1, .slice m.a2 m.n2 m.k2]] #[], .func (.func F) #[.agg #[.slice m.a0 m.n0 m.k0, .slice m.a1 m.n1 m.k1, .slice m.a2 m.n2 m.k2]] #[]] w (GotE w (if orI [forb c n, g] = 0 then x else nil) (orI [forb c n, g])) := by
  obtain ⟨w2, hw2⟩ : ∃ w2, w2 = (w.alloc (.cells #[.slice m.a0 m.n0 m.k0, .slice m.a1 m.n1 m.k1, .slice m.a2 m.n2 m.k2] 45)).alloc (.cells #[.slice none 0 0, .slice none 0 0, .slice none 0 0] 24) := ⟨_, rfl⟩
  have hq := box2 w 45 m
  have hld := hq.2.2.1.ldM
  rw [← hw2] at hq
  have HQ := hid hq
  have HI : Hid (∀ W, Below w.heap.size w W → InC W B c m ∧ B ≤ W.heap.size) := hid (fun W hb => ⟨h.below (hb.mono hB), by have := hb.size; omega⟩)
  have HZ : Hid (∀ W, Below w2.heap.size w2 W → Bx W (w.heap.size + 1) 24 mNil) := hid (fun W hb => hq.2.2.2.below hb (by have := hq.2.1; omega))
  have HG := hid cG
  have HF := hid cF
  have HFX := hid (fixed_any B c hs m n hn w2 (h.below (hq.1.mono hB)) (by have := hq.2.1; omega))
  have hfi := forb_in c n
  obtain ⟨f0, hf0⟩ : ∃ f0, f0 = forb c n := ⟨_, rfl⟩
  obtain ⟨E, hE⟩ : ∃ E, E = orI [f0, g] := ⟨_, rfl⟩
  rw [← hf0] at HFX hfi ⊢
  rw [← hE]
  have HE := hid hE
  have HFG := hid (And.intro hfi hg)
  clear h hq cG cF hf0 hE hfi hg
  by_cases hz : E = 0
  · subst hz
    rw [if_pos rfl]
    go_enter Try.func26, Try.ntmps26
    go_wp2_with fail
    rw [← hw2]
    clear hw2 hld
    refine HFX.out.mono ?_
    rintro e w3 ⟨rfl, hb3⟩
    have hb23 := hid hb3
    have hb3 := HQ.out.1.trans (hb3.mono HQ.out.1.size)
    have H3 := hid (And.intro hb3 (HI.out w3 hb3))
    clear hb3
    go_wp2_with (go_at_fn G; refine (HG.out w3 H3.out.2.1 H3.out.2.2).mono ?_; rintro e w4 ⟨rfl, hb4⟩; have HB4 := hid (hb23.out.trans (hb4.mono hb23.out.size)); have H4 := hid (H3.out.1.trans (hb4.mono H3.out.1.size)); clear hb4)
    obtain ⟨w5, hw5⟩ : ∃ w5, w5 = w4.alloc (.cells #[.int .i64 f0, .int .i64 g] 29) := ⟨_, rfl⟩
    have hb5 : Below w.heap.size w w5 := by rw [hw5]; exact H4.out.trans ((below_new w4 _).mono H4.out.size)
    have hi5 : IsInts w5 (w4.heap.size + 1) (some ⟨w4.heap.size, 0, none⟩) [f0, g] := by rw [hw5]; exact isInts_two w4 _ f0 g HFG.out.1 HFG.out.2
    have hor := or_any _ _ 2 [f0, g] 2 rfl (by decide) w5 hi5
    have hb45 : Below w4.heap.size w4 w5 := by rw [hw5]; exact below_new w4 _
    have hz5 : Bx w5 (w.heap.size + 1) 24 mNil := (HZ.out w4 (by exact HB4.out)).below hb45 (by have := HB4.out.size; have := HQ.out.2.1; omega)
    have HOR := hid hor
    have H5 := hid (And.intro hb5 (And.intro (HI.out w5 hb5) hz5))
    rw [← hw5]
    clear hb5 hi5 hor hb45 hz5 hw5
    refine HOR.out.mono ?_
    rintro e w6 ⟨rfl, rfl⟩
    rw [← HE.out]
    go_wp2_with (go_at_fn F; refine (HF.out w5 H5.out.2.1.1 H5.out.2.1.2).mono ?_; rintro e w6 ⟨m', rfl, ho6, hb6⟩; have H6 := hid (And.intro ho6 hb6); have hst := (H5.out.2.2.below hb6 (by have := HQ.out.1.size; have := H5.out.2.2.lt; omega)).st (m' := m'))
    have hbx := (H5.out.2.2.below H6.out.2 H5.out.2.2.lt).set m'
    have hg := got_box (w2 := w5) (m := m') (b := w.heap.size + 1) H6.out.1 (H5.out.1.trans (H6.out.2.mono H5.out.1.size)) ⟨by omega, H5.out.2.2.lt⟩
    refine bodyPost_ret (Im.results_two rfl Im.info_conf33 Try.underlying24 rfl _ _ (w.heap.size + 1) _ _ _ rfl hbx rfl) rfl ?_
    exact ⟨m', rfl, hg.1, hg.2⟩
  · rw [if_neg hz]
    have hz' : (E != 0) = true := by rw [bne_iff_ne]; exact hz
    clear hz
    go_enter Try.func26, Try.ntmps26
    go_wp2_with fail
    rw [← hw2]
    clear hw2 hld
    refine HFX.out.mono ?_
    rintro e w3 ⟨rfl, hb3⟩
    have hb23 := hid hb3
    have hb3 := HQ.out.1.trans (hb3.mono HQ.out.1.size)
    have H3 := hid (And.intro hb3 (HI.out w3 hb3))
    clear hb3
    go_wp2_with (go_at_fn G; refine (HG.out w3 H3.out.2.1 H3.out.2.2).mono ?_; rintro e w4 ⟨rfl, hb4⟩; have HB4 := hid (hb23.out.trans (hb4.mono hb23.out.size)); have H4 := hid (H3.out.1.trans (hb4.mono H3.out.1.size)); clear hb4)
    obtain ⟨w5, hw5⟩ : ∃ w5, w5 = w4.alloc (.cells #[.int .i64 f0, .int .i64 g] 29) := ⟨_, rfl⟩
    have hb5 : Below w.heap.size w w5 := by rw [hw5]; exact H4.out.trans ((below_new w4 _).mono H4.out.size)
    have hi5 : IsInts w5 (w4.heap.size + 1) (some ⟨w4.heap.size, 0, none⟩) [f0, g] := by rw [hw5]; exact isInts_two w4 _ f0 g HFG.out.1 HFG.out.2
    have hor := or_any _ _ 2 [f0, g] 2 rfl (by decide) w5 hi5
    have hb45 : Below w4.heap.size w4 w5 := by rw [hw5]; exact below_new w4 _
    have hz5 : Bx w5 (w.heap.size + 1) 24 mNil := (HZ.out w4 (by exact HB4.out)).below hb45 (by have := HB4.out.size; have := HQ.out.2.1; omega)
    have HOR := hid hor
    have H5 := hid (And.intro hb5 (And.intro (HI.out w5 hb5) hz5))
    rw [← hw5]
    clear hb5 hi5 hor hb45 hz5 hw5
    refine HOR.out.mono ?_
    rintro e w6 ⟨rfl, rfl⟩
    rw [← HE.out]
    have hst : (Im.stX 24 (.pointer (some ⟨w.heap.size + 1, 0, none⟩)) (.agg #[.slice none 0 0, .slice none 0 0, .slice none 0 0])).run Try.prog w5 = .ok () w5 := Im.stSame Im.info_conf33 H5.out.2.2 rfl (by simp [Value.oneCell'])
    go_wp2_with fail
    refine bodyPost_ret (Im.results_two rfl Im.info_conf33 Try.underlying24 rfl _ _ (w.heap.size + 1) _ _ _ rfl H5.out.2.2 rfl) rfl ?_
    exact ⟨mNil, rfl, ownNil _ _ _, H5.out.1⟩
def gAdd (c : Cf) (n : Int) : Int := if n ∈ c.old then 7 else 0
def gDrop (c : Cf) (n : Int) : Int := if n ∉ c.old then 6 else if c.old.length = 1 then 29 else 0
theorem gAdd_in (c : Cf) (n : Int) : InInt (gAdd c n) := by
  unfold gAdd
  repeat' split
  all_goals exact ⟨by decide, by decide⟩
theorem gDrop_in (c : Cf) (n : Int) : InInt (gDrop c n) := by
  unfold gDrop
  repeat' split
  all_goals exact ⟨by decide, by decide⟩
theorem orI_two (a b : Int) : orI [a, b] = if a = 0 then b else a := by
  unfold orI orI orI
  split
  · split <;> simp_all
  · rfl
theorem add_is (c : Cf) (n : Int) : add c n = (if orI [forb c n, gAdd c n] = 0 then ⟨c.old, [], [n]⟩ else nil, orI [forb c n, gAdd c n]) := by
  rw [orI_two]
  unfold add gAdd
  by_cases h : forb c n = 0
  · rw [if_neg (by simpa using h), if_pos h]
    by_cases h2 : n ∈ c.old
    · rw [if_pos h2, if_pos h2, if_neg (by decide)]
    · rw [if_neg h2, if_neg h2, if_pos rfl]
  · rw [if_pos h, if_neg h, if_neg h]
theorem drop_is (c : Cf) (n : Int) : drop c n = (if orI [forb c n, gDrop c n] = 0 then ⟨c.old, c.old.filter (fun x => decide (x ≠ n)), []⟩ else nil, orI [forb c n, gDrop c n]) := by
  rw [orI_two]
  unfold drop gDrop
  by_cases h : forb c n = 0
  · rw [if_neg (by simpa using h), if_pos h]
    by_cases h2 : n ∉ c.old
    · rw [if_pos h2, if_pos h2, if_neg (by decide)]
    · rw [if_neg h2, if_neg h2]
      by_cases h3 : c.old.length = 1
      · rw [if_pos h3, if_pos h3, if_neg (by decide)]
      · rw [if_neg h3, if_neg h3, if_pos rfl]
  · rw [if_pos h, if_neg h, if_neg h]
set_option maxHeartbeats 3200000 in
theorem add_any (B : Nat) (c : Cf) (hs : Short c) (m : M3) (n : Int) (hn : InInt n) (w : World) (h : InC w B c m) (hB : B ≤ w.heap.size) :
    Calls Try.prog 10 #[.agg #[.slice m.a0 m.n0 m.k0, .slice m.a1 m.n1 m.k1, .slice m.a2 m.n2 m.k2], .int .i64 n] w (GotE w (add c n).1 (add c n).2) := by
  have hmf : ∀ (fn : Fn) (first cap : Array Value) (w : World), (Instr.makeFunc fn first cap).run Try.prog w = .ok (.func fn first cap) w := fun _ _ _ _ => rfl
  obtain ⟨w2, hw2⟩ : ∃ w2, w2 = (w.alloc (.cells #[.slice m.a0 m.n0 m.k0, .slice m.a1 m.n1 m.k1, .slice m.a2 m.n2 m.k2] 24)).alloc (.cells #[.slice none 0 0, .slice none 0 0, .slice none 0 0] 24) := ⟨_, rfl⟩
  have hq := box2 w 24 m
  rw [← hw2] at hq
  have hst0 := Im.stNew w2 45 3 (by kernel_rfl) #[.slice none 0 0, .slice none 0 0, .slice none 0 0] #[.slice m.a0 m.n0 m.k0, .slice m.a1 m.n1 m.k1, .slice m.a2 m.n2 m.k2] rfl rfl (by simp [Value.oneCell'])
  have hld := hq.2.2.1.ld
  obtain ⟨w3, hw3⟩ : ∃ w3, w3 = w2.alloc (.cells #[.slice m.a0 m.n0 m.k0, .slice m.a1 m.n1 m.k1, .slice m.a2 m.n2 m.k2] 45) := ⟨_, rfl⟩
  have hb3 : Below w2.heap.size w2 w3 := by rw [hw3]; exact below_new w2 _
  have hx3 : Bx w3 w2.heap.size 45 m := by rw [hw3]; exact Bx.new _ _ _
  have hs3 : w3.heap.size = w2.heap.size + 1 := by rw [hw3]; simp
  have hb03 := hq.1.trans (hb3.mono hq.1.size)
  have hld3 := hx3.ldM
  rw [hw3] at hld3
  have hbg : Calls Try.prog 26 #[.agg #[.slice m.a0 m.n0 m.k0, .slice m.a1 m.n1 m.k1, .slice m.a2 m.n2 m.k2], .int .i64 n, .func (.func 27) #[.agg #[.slice m.a0 m.n0 m.k0, .slice m.a1 m.n1 m.k1, .slice m.a2 m.n2 m.k2]] #[], .func (.func 28) #[.agg #[.slice m.a0 m.n0 m.k0, .slice m.a1 m.n1 m.k1, .slice m.a2 m.n2 m.k2]] #[]] w3 (GotE w3 (add c n).1 (add c n).2) := by
   rw [add_is]
   exact (begun_any B c hs m n hn w3 (h.below (hb03.mono hB)) (by have := hb03.size; omega) 27 28 (gAdd c n) (gAdd_in c n) ⟨c.old, [], [n]⟩
    (enters_of (P := Try.prog) Try.func27 (by kernel_rfl) rfl) (enters_of (P := Try.prog) Try.func28 (by kernel_rfl) rfl)
    (fun W hi hb => mayCome_any B c hs m n W hi hb) (fun W hi hb => learning_any B c hs m n hn W hi hb))
  generalize add c n = r at hbg ⊢
  have HBG := hid hbg
  clear hbg
  have HQ := hid (And.intro hb03 (And.intro (hq.2.2.2.below hb3 (by have := hq.2.1; omega)) (And.intro hq.2.1 hs3)))
  have HW2 := hid hw2
  have HW3 := hid hw3
  clear h hq hb3 hx3 hs3 hb03 hw2 hw3
  go_enter Try.func10, Try.ntmps10
  go_upto_region 1 with fail
  rw [← HW2.out]
  go_wp2_with fail
  rw [← HW3.out]
  refine HBG.out.mono ?_
  rintro e w4 ⟨m', rfl, ho4, hb4⟩
  have hbx := HQ.out.2.1.below hb4 HQ.out.2.1.lt
  have hst := hbx.st (m' := m')
  have hg := got_box (w2 := w3) (m := m') (b := w.heap.size + 1) ho4 (HQ.out.1.trans (hb4.mono HQ.out.1.size)) ⟨by omega, HQ.out.2.1.lt⟩
  have H4 := hid (And.intro (hbx.set m') hg)
  clear ho4 hb4 hbx hg hst0 hld hld3
  go_wp2_with fail
  refine bodyPost_ret (Im.results_two rfl Im.info_conf33 Try.underlying24 rfl _ _ (w.heap.size + 1) _ _ _ rfl H4.out.1 rfl) rfl ?_
  exact ⟨m', rfl, H4.out.2.1, H4.out.2.2⟩
set_option maxHeartbeats 3200000 in
theorem drop_any (B : Nat) (c : Cf) (hs : Short c) (m : M3) (n : Int) (hn : InInt n) (w : World) (h : InC w B c m) (hB : B ≤ w.heap.size) :
    Calls Try.prog 11 #[.agg #[.slice m.a0 m.n0 m.k0, .slice m.a1 m.n1 m.k1, .slice m.a2 m.n2 m.k2], .int .i64 n] w (GotE w (drop c n).1 (drop c n).2) := by
  have hmf : ∀ (fn : Fn) (first cap : Array Value) (w : World), (Instr.makeFunc fn first cap).run Try.prog w = .ok (.func fn first cap) w := fun _ _ _ _ => rfl
  obtain ⟨w2, hw2⟩ : ∃ w2, w2 = (w.alloc (.cells #[.slice m.a0 m.n0 m.k0, .slice m.a1 m.n1 m.k1, .slice m.a2 m.n2 m.k2] 24)).alloc (.cells #[.slice none 0 0, .slice none 0 0, .slice none 0 0] 24) := ⟨_, rfl⟩
  have hq := box2 w 24 m
  rw [← hw2] at hq
  have hst0 := Im.stNew w2 45 3 (by kernel_rfl) #[.slice none 0 0, .slice none 0 0, .slice none 0 0] #[.slice m.a0 m.n0 m.k0, .slice m.a1 m.n1 m.k1, .slice m.a2 m.n2 m.k2] rfl rfl (by simp [Value.oneCell'])
  have hld := hq.2.2.1.ld
  obtain ⟨w3, hw3⟩ : ∃ w3, w3 = w2.alloc (.cells #[.slice m.a0 m.n0 m.k0, .slice m.a1 m.n1 m.k1, .slice m.a2 m.n2 m.k2] 45) := ⟨_, rfl⟩
  have hb3 : Below w2.heap.size w2 w3 := by rw [hw3]; exact below_new w2 _
  have hx3 : Bx w3 w2.heap.size 45 m := by rw [hw3]; exact Bx.new _ _ _
  have hs3 : w3.heap.size = w2.heap.size + 1 := by rw [hw3]; simp
  have hb03 := hq.1.trans (hb3.mono hq.1.size)
  have hld3 := hx3.ldM
  rw [hw3] at hld3
  have hbg : Calls Try.prog 26 #[.agg #[.slice m.a0 m.n0 m.k0, .slice m.a1 m.n1 m.k1, .slice m.a2 m.n2 m.k2], .int .i64 n, .func (.func 29) #[.agg #[.slice m.a0 m.n0 m.k0, .slice m.a1 m.n1 m.k1, .slice m.a2 m.n2 m.k2]] #[], .func (.func 30) #[.agg #[.slice m.a0 m.n0 m.k0, .slice m.a1 m.n1 m.k1, .slice m.a2 m.n2 m.k2]] #[]] w3 (GotE w3 (drop c n).1 (drop c n).2) := by
   rw [drop_is]
   exact (begun_any B c hs m n hn w3 (h.below (hb03.mono hB)) (by have := hb03.size; omega) 29 30 (gDrop c n) (gDrop_in c n) ⟨c.old, c.old.filter (fun x => decide (x ≠ n)), []⟩
    (enters_of (P := Try.prog) Try.func29 (by kernel_rfl) rfl) (enters_of (P := Try.prog) Try.func30 (by kernel_rfl) rfl)
    (fun W hi hb => mayGo_any B c hs m n W hi hb) (fun W hi hb => leaving_any B c hs m n W hi hb))
  generalize drop c n = r at hbg ⊢
  have HBG := hid hbg
  clear hbg
  have HQ := hid (And.intro hb03 (And.intro (hq.2.2.2.below hb3 (by have := hq.2.1; omega)) (And.intro hq.2.1 hs3)))
  have HW2 := hid hw2
  have HW3 := hid hw3
  clear h hq hb3 hx3 hs3 hb03 hw2 hw3
  go_enter Try.func11, Try.ntmps11
  go_upto_region 1 with fail
  rw [← HW2.out]
  go_wp2_with fail
  rw [← HW3.out]
  refine HBG.out.mono ?_
  rintro e w4 ⟨m', rfl, ho4, hb4⟩
  have hbx := HQ.out.2.1.below hb4 HQ.out.2.1.lt
  have hst := hbx.st (m' := m')
  have hg := got_box (w2 := w3) (m := m') (b := w.heap.size + 1) ho4 (HQ.out.1.trans (hb4.mono HQ.out.1.size)) ⟨by omega, HQ.out.2.1.lt⟩
  have H4 := hid (And.intro (hbx.set m') hg)
  clear ho4 hb4 hbx hg hst0 hld hld3
  go_wp2_with fail
  refine bodyPost_ret (Im.results_two rfl Im.info_conf33 Try.underlying24 rfl _ _ (w.heap.size + 1) _ _ _ rfl H4.out.1 rfl) rfl ?_
  exact ⟨m', rfl, H4.out.2.1, H4.out.2.2⟩
end Go.Proofs.Ytfkjahpcpmcefaa.Co
namespace Go.Proofs.Ytfkjahpcpmcefaa
open Go.RowKit
set_option maxRecDepth 100000
end Go.Proofs.Ytfkjahpcpmcefaa
namespace Go.Proofs.Ytfkjahpcpmcefaa
open Go.RowKit
end Go.Proofs.Ytfkjahpcpmcefaa
namespace Go.Proofs.Ytfkjahpcpmcefaa
open Go.RowKit
end Go.Proofs.Ytfkjahpcpmcefaa
namespace Go.Proofs.Ytfkjahpcpmcefaa.I
open Go.RowKit
end Go.Proofs.Ytfkjahpcpmcefaa.I
namespace Go.Proofs.Ytfkjahpcpmcefaa
open Go.RowKit
namespace Qu
end Qu
end Go.Proofs.Ytfkjahpcpmcefaa
namespace Go.Proofs.Ytfkjahpcpmcefaa.Co
open Go Go.RowKit
open Qu (Cf)
set_option maxRecDepth 100000
set_option linter.unusedVariables false
attribute [local go_sem ↓] Im.loadAt_conf3 Im.storeAt_conf3 loadAt_mem storeAt_mem
theorem sameConf_M (B B' : Nat) (c : Cf) (hs : Short c) (m m' : M3) (w : World) (h : InC w B c m) (h' : InC w B' c m') (hB : B ≤ w.heap.size) (hB' : B' ≤ w.heap.size) :
    Calls Try.prog 16 #[.agg #[.slice m.a0 m.n0 m.k0, .slice m.a1 m.n1 m.k1, .slice m.a2 m.n2 m.k2], .agg #[.slice m'.a0 m'.n0 m'.k0, .slice m'.a1 m'.n1 m'.k1, .slice m'.a2 m'.n2 m'.k2]] w fun e w' => e = .returned (.bool true) ∧ Below w.heap.size w w' := by
  rw [h.val, h'.val]; exact sameConf_any B B' c c hs hs _ _ _ _ _ _ _ _ _ _ _ _ w h.cis h'.cis hB hB' rfl
end Go.Proofs.Ytfkjahpcpmcefaa.Co
namespace Go.Proofs.Ytfkjahpcpmcefaa.Co
open Go Go.RowKit
open Qu (Cf)
set_option maxRecDepth 100000
set_option linter.unusedVariables false
attribute [local go_sem ↓] Im.loadAt_conf3 Im.storeAt_conf3 loadAt_mem storeAt_mem
end Go.Proofs.Ytfkjahpcpmcefaa.Co
namespace Go.Proofs.Ytfkjahpcpmcefaa.Co
open Go Go.RowKit
open Qu (Cf)
set_option maxRecDepth 100000
set_option linter.unusedVariables false
attribute [local go_sem ↓] Im.loadAt_conf3 Im.storeAt_conf3 loadAt_mem storeAt_mem
end Go.Proofs.Ytfkjahpcpmcefaa.Co
