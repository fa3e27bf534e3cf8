/- The walks through the library's Index, IndexFunc, Contains, ContainsFunc; ordered and overlap. -/
import Derived.Test.YtblhfbijffaacaaConf
import Derived.Shelf.Abstract
namespace Go.Proofs.Ytblhfbijffaacaa
open Go.RowKit

/-- a number's first place, or -1 -/
def idx (p : Int → Bool) : List Int → Int
  | [] => -1
  | x :: l => if p x then 0 else if idx p l < 0 then -1 else idx p l + 1
theorem idx_nonneg (p : Int → Bool) (l : List Int) : decide (0 ≤ idx p l) = l.any p := by
  induction l with
  | nil => rfl
  | cons x l ih =>
    unfold idx
    rw [List.any_cons, ← ih]
    cases hp : p x
    · by_cases h : idx p l < 0
      · have : ¬ 0 ≤ idx p l := by omega
        simp [h, this]
      · have h2 : 0 ≤ idx p l := by omega
        have h3 : 0 ≤ idx p l + 1 := by omega
        simp [h, h2, h3]
    · simp

set_option maxHeartbeats 400000 in
theorem index_any (B : Nat) (A : Option Addr) (c : Nat) (l : List Int) (hl : l.length ≤ 100000) (x : Int) (w : World) (h : IsInts w B A l) :
    Calls Try.prog 60 #[.slice A l.length c, .int .i64 x] w fun e w' => ∃ i : Int, e = .returned (.int .i64 i) ∧ (InInt i ∧ decide (0 ≤ i) = decide (x ∈ l)) ∧ w' = w := by
  go_enter Try.func60, Try.ntmps60
  go_wp2
  go_loopw [8] (fun i wr => ∃ k : Nat, k ≤ l.length ∧ i = .int .i64 k ∧ wr = w ∧ Hid (x ∉ l.take k)) (fun i _ => l.length - (intOf i).toNat)
  case atStart => exact ⟨0, by omega, rfl, rfl, hid (by simp)⟩
  case round =>
    obtain ⟨k, hk, rfl, rfl, hs⟩ := hrel
    by_cases hlt : k < l.length
    · obtain ⟨b, off, rfl, _, hc⟩ := h.cells k hlt
      have hck := hc k hlt
      clear hc h
      by_cases he : x = l[k]
      · have hbe : (x == l[k]) = true := by rw [beq_iff_eq]; exact he
        have HE := hid he
        clear he
        go_wp2
        go_ret
        exact ⟨(k : Int), rfl, ⟨⟨by omega, by omega⟩, by rw [decide_eq_true (show (0 : Int) ≤ k by omega)]; exact (decide_eq_true (by rw [HE.out]; exact List.getElem_mem hlt)).symm⟩, rfl⟩
      · have hbe : (x == l[k]) = false := by rw [beq_eq_false_iff_ne]; exact he
        have HE := hid he
        clear he
        go_wp2
        go_roundw
        case rel =>
          refine ⟨k + 1, by omega, by go_num, trivial, hid ?_⟩
          rw [List.take_succ_eq_append_getElem hlt, List.mem_append, List.mem_singleton]
          rintro (h1 | h1)
          · exact hs.out h1
          · exact HE.out h1
        case measure => simp [intOf]; omega
    · obtain rfl : k = l.length := by omega
      go_wp2
      go_ret
      refine ⟨-1, rfl, ⟨⟨by omega, by omega⟩, ?_⟩, rfl⟩
      have := hs.out
      rw [List.take_length] at this
      simp [this]
theorem contains_any (B : Nat) (A : Option Addr) (c : Nat) (l : List Int) (hl : l.length ≤ 100000) (x : Int) (w : World) (h : IsInts w B A l) :
    Calls Try.prog 51 #[.slice A l.length c, .int .i64 x] w fun e w' => e = .returned (.bool (decide (x ∈ l))) ∧ w' = w := by
  have hc := hid (index_any B A c l hl x w h)
  clear h
  go_enter Try.func51, Try.ntmps51
  go_wp2_with fail
  refine hc.out.mono ?_
  rintro e w' ⟨i, rfl, hi, rfl⟩
  have HI := hid hi
  clear hi
  go_wp2
  go_ret
  exact ⟨by rw [← HI.out.2]; rfl, rfl⟩

set_option maxHeartbeats 400000 in
theorem indexFunc_any (g : FuncId) (cb : Array Value) (p : Int → Bool) (w0 : World) (ht0 : Tells g cb p w0) (eg : ∀ args w, (callFunc g args).run Try.prog w = .ok (.enter g args) w)
    (B : Nat) (A : Option Addr) (c : Nat) (l : List Int) (hl : l.length ≤ 100000) (w : World) (hw0 : Below w0.heap.size w0 w) (h0 : IsInts w B A l) (hB : B ≤ w.heap.size) :
    Calls Try.prog 59 #[.slice A l.length c, .func (.func g) #[] cb] w fun e w' => ∃ i : Int, e = .returned (.int .i64 i) ∧ (InInt i ∧ decide (0 ≤ i) = l.any p) ∧ Below w.heap.size w w' := by
  have ht := hid ht0
  have hw := hid hw0
  have h := hid h0
  clear ht0 hw0 h0
  go_enter Try.func59, Try.ntmps59
  go_wp2
  go_loopw [8] (fun i wr => ∃ k : Nat, k ≤ l.length ∧ i = .int .i64 k ∧ Hid ((l.take k).any p = false) ∧ Hid (Below w.heap.size w wr)) (fun i _ => l.length - (intOf i).toNat)
  case atStart => exact ⟨0, by omega, rfl, hid (by simp), hid (Below.refl _ _)⟩
  case round =>
    obtain ⟨k, hk, rfl, hs, hbel⟩ := hrel
    by_cases hlt : k < l.length
    · obtain ⟨b, off, rfl, hb, hcell⟩ := h.out.cells k hlt
      have hck : wr.cell? ⟨b, off + k, none⟩ = some (.int .i64 l[k]) := (hbel.out.cell (p := ⟨b, off + k, none⟩) (by show b < _; omega)).trans (hcell k hlt)
      have hcall := ht.out l[k] (h.out.small _ (List.getElem_mem hlt)) wr (hw.out.trans (hbel.out.mono hw.out.size))
      clear hcell
      cases hp : p l[k]
      · rw [hp] at hcall
        have HP := hid hp
        clear hp
        go_wp2_with (go_at_fn g; refine hcall.mono ?_; rintro e w' ⟨rfl, hb'⟩)
        go_roundw
        case rel =>
          refine ⟨k + 1, by omega, by go_num, hid ?_, hid (bthen hbel.out hb' hbel.out.size)⟩
          rw [List.take_succ_eq_append_getElem hlt, List.any_append, hs.out, Bool.false_or]
          simpa using HP.out
        case measure => simp [intOf]; omega
      · rw [hp] at hcall
        have HP := hid hp
        clear hp
        go_wp2_with (go_at_fn g; refine hcall.mono ?_; rintro e w' ⟨rfl, hb'⟩)
        go_ret
        refine ⟨(k : Int), rfl, ⟨⟨by omega, by omega⟩, ?_⟩, bthen hbel.out hb' hbel.out.size⟩
        rw [decide_eq_true (show (0 : Int) ≤ k by omega)]
        exact (List.any_eq_true.2 ⟨_, List.getElem_mem hlt, HP.out⟩).symm
    · obtain rfl : k = l.length := by omega
      go_wp2
      go_ret
      refine ⟨-1, rfl, ⟨⟨by omega, by omega⟩, ?_⟩, hbel.out⟩
      have := hs.out
      rw [List.take_length] at this
      rw [this]; rfl
theorem containsFunc_any (g : FuncId) (cb : Array Value) (p : Int → Bool) (w0 : World) (ht : Tells g cb p w0) (eg : ∀ args w, (callFunc g args).run Try.prog w = .ok (.enter g args) w)
    (B : Nat) (A : Option Addr) (c : Nat) (l : List Int) (hl : l.length ≤ 100000) (w : World) (hw : Below w0.heap.size w0 w) (h : IsInts w B A l) (hB : B ≤ w.heap.size) :
    Calls Try.prog 49 #[.slice A l.length c, .func (.func g) #[] cb] w fun e w' => e = .returned (.bool (l.any p)) ∧ Below w.heap.size w w' := by
  have hc := hid (indexFunc_any g cb p w0 ht eg B A c l hl w hw h hB)
  clear h ht hw
  go_enter Try.func49, Try.ntmps49
  go_wp2_with fail
  refine hc.out.mono ?_
  rintro e w' ⟨i, rfl, hi, hb⟩
  have HI := hid hi
  clear hi
  go_wp2
  go_ret
  exact ⟨by rw [← HI.out.2]; rfl, hb⟩
/-- the closure of overlap: is a node in the list that lies in the box? -/
theorem overlap1_any (b B : Nat) (A : Option Addr) (c : Nat) (l : List Int) (hl : l.length ≤ 100000) (x : Int) (w : World) (hb : w.cell? ⟨b, 0, none⟩ = some (.slice A l.length c)) (h : IsInts w B A l) :
    Calls Try.prog 50 #[.int .i64 x, .pointer (some ⟨b, 0, none⟩)] w fun e w' => e = .returned (.bool (decide (x ∈ l))) ∧ w' = w := by
  have hc := hid (contains_any B A c l hl x w h)
  clear h
  go_enter Try.func50, Try.ntmps50
  go_wp2_with fail
  refine hc.out.mono ?_
  rintro e w' ⟨rfl, rfl⟩
  go_wp2
  go_ret
  exact ⟨rfl, rfl⟩
theorem overlap_any (B : Nat) (A A' : Option Addr) (c c' : Nat) (l m : List Int) (hl : l.length ≤ 100000) (hm : m.length ≤ 100000) (w : World) (h : IsInts w B A l) (h' : IsInts w B A' m) (hB : B ≤ w.heap.size) :
    Calls Try.prog 33 #[.slice A l.length c, .slice A' m.length c'] w fun e w' => e = .returned (.bool (l.any fun x => decide (x ∈ m))) ∧ Below w.heap.size w w' := by
  have hbel : Below w.heap.size w (w.alloc (.cells #[.slice A' m.length c'] 22)) := (Below.refl _ _).alloc (Nat.le_refl _) _
  have hcell : (w.alloc (.cells #[.slice A' m.length c'] 22)).cell? ⟨w.heap.size, 0, none⟩ = some (.slice A' m.length c') := cell_of_row _ w.heap.size 0 _ _ _ (heap_alloc_new w _)
  have ht : Tells 50 #[.pointer (some ⟨w.heap.size, 0, none⟩)] (fun x => decide (x ∈ m)) (w.alloc (.cells #[.slice A' m.length c'] 22)) := fun x _ w2 hb2 =>
    (overlap1_any w.heap.size B A' c' m hm x w2 ((hb2.cell (by simp)).trans hcell) ((h'.below (hbel.mono hB)).below (hb2.mono (by simp; omega)))).mono fun e w' ⟨he, hw⟩ => ⟨he, by rw [hw]; exact Below.refl _ _⟩
  have hc := hid (containsFunc_any _ _ _ _ ht (enters_of Try.func50 (by kernel_rfl) rfl) B A c l hl _ (Below.refl _ _) (h.below (hbel.mono hB)) (by simp; omega))
  have HB := hid hbel
  clear h h' hbel hcell ht
  go_enter Try.func33, Try.ntmps33
  go_wp2_with fail
  refine hc.out.mono ?_
  rintro e w' ⟨rfl, hb⟩
  have HB2 := hid hb
  clear hb
  go_wp2
  go_ret
  exact ⟨rfl, HB.out.trans (HB2.out.mono (by simp))⟩

set_option maxHeartbeats 400000 in
theorem ordered_any (B : Nat) (A : Option Addr) (c : Nat) (l : List Int) (hl : l.length ≤ 100000) (w : World) (h : IsInts w B A l) :
    Calls Try.prog 32 #[.slice A l.length c] w fun e w' => e = .returned (.bool (Qu.node l)) ∧ w' = w := by
  go_enter Try.func32, Try.ntmps32
  go_wp2
  go_loopw [3, 8] (fun v i wr => ∃ k : Nat, ∃ y : Int, k ≤ l.length ∧ v = .int .i64 y ∧ i = .int .i64 k ∧ wr = w ∧ 0 ≤ y ∧ Hid (y = Qu.last l k) ∧ Hid (Qu.node (l.take k) = true)) (fun _ i _ => l.length - (intOf i).toNat)
  case atStart => exact ⟨0, 0, by omega, rfl, rfl, rfl, by omega, hid (Qu.last_zero l).symm, hid (by simp [Qu.node])⟩
  case round =>
    obtain ⟨k, y, hk, rfl, rfl, rfl, hy, hy0, hs⟩ := hrel
    by_cases hlt : k < l.length
    · obtain ⟨b, off, rfl, _, hc⟩ := h.cells k hlt
      have hck := hc k hlt
      have HST := hid (Qu.node_step_last hlt hs.out)
      have HLS := hid (Qu.last_succ l k hlt)
      clear hc h
      generalize hz : l[k] = z at *
      clear hz
      by_cases h1 : y < z
      · by_cases h2 : z ≤ 7
        · have h1' : ¬ z ≤ y := by omega
          have h2' : ¬ 7 < z := by omega
          go_wp2
          go_roundw
          case rel => exact ⟨k + 1, z, by omega, rfl, by go_num, trivial, by omega, hid HLS.out.symm, hid (by rw [HST.out]; exact decide_eq_true ⟨by rw [← hy0.out]; exact h1, by omega, h2⟩)⟩
          case measure => simp [intOf]; omega
        · have h1' : ¬ z ≤ y := by omega
          have h2' : 7 < z := by omega
          go_wp2
          go_ret
          refine ⟨?_, rfl⟩
          rw [Qu.node_false (l := l) (k := k + 1) (by rw [HST.out]; exact decide_eq_false (by rintro ⟨_, _, h⟩; omega))]; rfl
      · have h1' : z ≤ y := by omega
        go_wp2
        go_ret
        refine ⟨?_, rfl⟩
        rw [Qu.node_false (l := l) (k := k + 1) (by rw [HST.out]; exact decide_eq_false (by rintro ⟨h, _⟩; rw [← hy0.out] at h; omega))]; rfl
    · obtain rfl : k = l.length := by omega
      have := hs.out
      rw [List.take_length] at this
      have HF := hid this
      clear this
      go_wp2
      go_ret
      exact ⟨by rw [HF.out]; rfl, rfl⟩
end Go.Proofs.Ytblhfbijffaacaa
