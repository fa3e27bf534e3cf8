/- The walks through the clone of bytes, and the making of a disk. -/
import Derived.Test.YtdgijnolpjaheaaDisk
import Derived.Lib.SliceRun
namespace Go.Proofs.Ytdgijnolpjaheaa
open Go.RowKit

set_option maxRecDepth 100000 in
theorem clone_any (B : Nat) (A : Option Addr) (c : Nat) (l : List Nat) (n : Nat) (hn : l.length = n) (hl : n ≤ 100000) (hz : A = none → c = 0) (w : World) (h : IsBytes w B A l) (hB : B ≤ w.heap.size) :
    Calls Try.prog 40 #[.slice A n c] w fun e w' => ∃ A' c', e = .returned (.slice A' n c') ∧ OwnsB 5 w' w.heap.size A' c' l ∧ Below w.heap.size w w' := by
  subst hn
  obtain ⟨i0, hi, hz0, hz1, hz2⟩ := info_parts info_u8
  have qT : ∀ (w : World) (a : Option Addr) (n c n' c' : Nat), (binOp .eql 32 (.slice a n c) (.slice none n' c')).run Try.prog w = .ok (.bool a.isNone) w := fun w a n c n' c' => Lib.run_eql_slice_nil w _ _ a n c n' c' Try.underlying32
  rcases A with _ | ad
  · obtain rfl := h.of_none
    obtain rfl := hz rfl
    go_enter Try.func40, Try.ntmps40
    go_wp2
    go_ret
    exact ⟨none, 0, rfl, OwnsB.nil _ _ _, Below.refl _ _⟩
  · have hown : OwnsB 5 (w.alloc (.cells #[] 5)) w.heap.size (some ⟨w.heap.size, 0, none⟩) 0 [] :=
      ⟨by simp, World.ownsRow_made w #[] 0 (Nat.le_refl _) (by unfold maxLen; omega) (by simp)⟩
    have hin : IsBytes (w.alloc (.cells #[] 5)) B (some ad) l := h.below (((Below.refl _ w).alloc (Nat.le_refl _) _).mono hB)
    go_enter Try.func40, Try.ntmps40
    go_wp2_with (at_builtin; refine wpList_append_bytesN rfl _ _ 32 rfl w.heap.size 5 i0 Try.underlying32 hi hz0 hz1 hz2 _ _ [] 0 rfl rfl hown B (some ad) c l l.length rfl rfl (fun h => by cases h) hin l (List.nil_append l) (by omega) (by simp) ?_; intro A2 c2 w2 hown2 hb2)
    go_ret
    refine ⟨A2, c2, by simp, hown2, ((Below.refl _ w).alloc (Nat.le_refl _) _).trans hb2⟩
theorem new_err (n : Int) (hn : n < 1 ∨ 16384 < n) (w : World) :
    Calls Try.prog 12 #[.int .i64 n] w fun e w' => e = .returned (.tuple #[.pointer none, .int .i64 3]) ∧ w' = w := by
  rcases hn with hn | hn
  · go_enter Try.func12, Try.ntmps12
    go_wp2
    go_ret2
    exact ⟨rfl, rfl⟩
  · have h1 : ¬ n < 1 := by omega
    go_enter Try.func12, Try.ntmps12
    go_wp2
    go_ret2
    exact ⟨rfl, rfl⟩
theorem info_state : (Try.prog.info? 92).map (fun i => (i.zero, i.size, i.bytes)) = some (some (.agg #[.slice none 0 0, .bool false]), 2, 32) := by kernel_rfl
set_option maxRecDepth 100000 in
theorem new_any (n : Nat) (hn : 1 ≤ n ∧ n ≤ 16384) (w : World) :
    Calls Try.prog 12 #[.int .i64 (n : Int)] w fun e w' => ∃ d, e = .returned (.tuple #[.pointer (some ⟨d.g, 0, none⟩), .int .i64 0]) ∧ DiskAt w' (fun k => k < w.heap.size) d (Sx.new n) ∧ Below w.heap.size w w' := by
  obtain ⟨i0, hi, hz0, hz1, hz2⟩ := info_parts info_state
  obtain ⟨hn1, hn2⟩ := hn
  have hmm := @run_makeMap Try.prog
  go_enter Try.func12, Try.ntmps12
  go_wp2_with (at_make; refine wpList_make_full _ rfl _ _ 63 rfl w.heap.size 92 i0 (.agg #[.slice none 0 0, .bool false]) 2 Try.underlying63 hi hz0 hz1 .i64 .i64 n n n rfl rfl (by omega) (by omega) ?c1 ?c2 (Nat.le_refl _) ?_)
  case c1 => rw [hz2]; omega
  case c2 => unfold maxLen; omega
  intro w1 hown hgrow
  go_wp2
  go_ret2
  have hsz := hgrow.size
  have hb1 : Below w.heap.size w w1 := (Below.refl _ _).grown hgrow (Nat.le_refl _) (fun g hg => by cases hg)
  have hb2 := (hb1.alloc hsz (.map #[] 0)).alloc (by simp; omega) (.cells #[.slice (some ⟨w.heap.size, 0, none⟩) n n, .map (some w1.heap.size), .bool false, .int .i64 0, .bool false] 66)
  refine ⟨⟨w1.heap.size + 1, w.heap.size, w1.heap.size⟩, rfl, ⟨⟨hn1, hn2⟩, ?_, ⟨⟨by show (-9223372036854775808 : Int) ≤ 0; omega, by show (0 : Int) ≤ 9223372036854775807; omega⟩, fun h => by cases h⟩, ?_, ?_, ?_⟩, hb2⟩
  · rintro k (rfl | rfl | rfl) <;> simp <;> omega
  · have := heap_alloc_new (w1.alloc (.map #[] 0)) (.cells #[.slice (some ⟨w.heap.size, 0, none⟩) n n, .map (some w1.heap.size), .bool false, .int .i64 0, .bool false] 66)
    rw [World.size_alloc] at this
    exact this
  · rcases hown.2 with ⟨h0, _⟩ | ⟨g, cap, cur, hv, hg, hh, hc, hm, hs, ht⟩
    · cases h0
    · have hv1 : w.heap.size = g ∧ n = cap := by injection hv with h1 h2 h3; injection h1 with h1; injection h1 with h1; exact ⟨h1, h3⟩
      obtain ⟨rfl, rfl⟩ := hv1
      have hlt := (Array.getElem?_eq_some_iff.1 hh).1
      refine ⟨cur, ?_, hs, ?_⟩
      · show ((w1.alloc (.map #[] 0)).alloc _).heap[w.heap.size]? = _
        rw [Below.heap_alloc _ _ _ (by simp; omega), Below.heap_alloc _ _ _ hlt, hh]
      · have hcur : cur = madeCells #[.slice none 0 0, .bool false] (n * 2) := by
          apply Array.ext'
          rw [← ht, List.take_of_length_le (by simp [hs])]
        intro i hi'
        have hi' : i < n := hi'
        refine ⟨Nat.zero_le _, none, 0, ?_, ?_, OwnsZ.nil _ _⟩
        · rw [hcur]
          simp [madeCells, show i * 2 < n * 2 by omega, Sx.new]
        · rw [hcur]
          simp [madeCells, show i * 2 + 1 < n * 2 by omega, show (i * 2 + 1) % 2 = 1 by omega, Sx.new]
  · refine ⟨fun _ => none, ?_, fun i _ => trivial⟩
    have h1 := (World.ownsMap_made (H := Value) w1 Try.prog 3 Sx.valR).alloc (.cells #[.slice (some ⟨w.heap.size, 0, none⟩) n n, .map (some w1.heap.size), .bool false, .int .i64 0, .bool false] 66)
    have e : Sx.mapOf n (fun _ => none) = .map [] := by unfold Sx.mapOf; rw [Sx.ents_none]
    show World.ownsMap _ _ _ _ _ n (Sx.mapOf n (fun _ => none))
    rw [e]
    exact h1.mono (Nat.zero_le _)
end Go.Proofs.Ytdgijnolpjaheaa
