/- The walk through a disk's Crash. -/
import Derived.Test.YtdgijnolpjaheaaDiskF
namespace Go.Proofs.Ytdgijnolpjaheaa
open Go.RowKit

set_option maxRecDepth 100000 in
theorem crash_any (Z : Nat → Prop) (d : Dk) (s : Sx.St) (A : Option Addr) (c : Nat) (l : List Int) (n : Nat) (hn : l.length = n) (w : World) (h : DiskAt w Z d s)
    (hin : ∀ w', Turned d.has w w' → IsInts w' w'.heap.size A l) :
    Calls Try.prog 16 #[.pointer (some ⟨d.g, 0, none⟩), .slice A n c] w fun e w' => e = .returned (.tuple #[]) ∧ DiskAt w' Z d (Sx.crash s l) ∧ Turned d.has w w' := by
  subst hn
  have HD := hid (dirty_any Z d s w h)
  have HH := hid (And.intro h hin)
  clear h hin
  go_enter Try.func16, Try.ntmps16
  go_wp2_with fail
  refine HD.out.mono ?_
  rintro e w2 ⟨A2, c2, rfl, hI, hb2⟩
  have hD2 : DiskAt w2 Z d (Sx.part s (Sx.fateAt s l) 0) := by rw [Sx.part_zero]; exact HH.out.1.below hb2
  have hlt : ∀ k, d.has k → k < w.heap.size := HH.out.1.lt
  have ht2 : Turned d.has w w2 := Turned.ofBelow d.has hb2
  have HI := hid (fun w' ht k hk => dirty_cells (w' := w') hI hlt ht k hk)
  have HN := hid (fun w' ht => HH.out.2 w' (ht2.trans ht))
  have hbn := HH.out.1.bound
  have hln : (Sx.dirty s).length ≤ 16384 := by
    have : (Sx.dirty s).length ≤ s.n := Sx.dirtyTo_length s.cache s.n
    omega
  have HS2 := hid (And.intro hD2 ht2)
  clear hI hb2 hD2 hlt ht2 HD HH hbn
  go_wp2_with fail
  go_loopw [10] (fun i wr => ∃ k : Nat, k ≤ (Sx.dirty s).length ∧ i = .int .i64 k ∧ Hid (DiskAt wr Z d (Sx.part s (Sx.fateAt s l) k) ∧ Turned d.has w wr) ∧ Hid (Turned d.has w2 wr)) (fun i _ => (Sx.dirty s).length - (RowKit.intOf i).toNat)
  case atStart => exact ⟨0, by omega, rfl, HS2, hid (Turned.refl _ _)⟩
  case round =>
    clear HS2
    obtain ⟨k, hk, rfl, hS, hT⟩ := hrel
    by_cases hlt : k < (Sx.dirty s).length
    · obtain ⟨g, hA, hcell⟩ := HI.out wr hT.out k hlt
      subst hA
      obtain ⟨hlk, b, hb⟩ := Sx.dirty_lt s k hlt
      have hk0 : (k : Int) < ((Sx.dirty s).length : Int) := by omega
      by_cases hj : k < l.length
      · have HC := hid (settle_any Z d (Sx.part s (Sx.fateAt s l) k) (Sx.dirty s)[k] hlk b hb l[k] wr hS.out.1)
        have ef : l[k] = Sx.fateAt s l (Sx.dirty s)[k] := by rw [Sx.fateAt_dirty s l k hlt, List.getD_eq_getElem?_getD, List.getElem?_eq_getElem hj]; rfl
        have HC2 : Hid (Calls Try.prog 36 #[.pointer (some ⟨d.g, 0, none⟩), .int .i64 ((Sx.dirty s)[k] : Nat), .int .i64 l[k]] wr fun e w' => e = .returned (.tuple #[]) ∧ DiskAt w' Z d (Sx.part s (Sx.fateAt s l) (k + 1)) ∧ Turned d.has wr w') := by
          have e2 := Sx.part_step s (Sx.fateAt s l) k hlt
          rw [← ef] at e2
          rw [e2] at HC
          exact HC
        obtain ⟨bl, off, hAl, _, hcl⟩ := (HN.out wr hT.out).cells k hj
        subst hAl
        have hcl := hcl k hj
        have hj0 : (k : Int) < (l.length : Int) := by omega
        clear hlk hb HC ef
        go_wp2_with fail
        refine HC2.out.mono ?_
        rintro e w3 ⟨rfl, hD3, ht3⟩
        have H3 := hid (And.intro hD3 ht3)
        clear hD3 ht3
        go_wp2_with fail
        go_roundw
        case rel => exact ⟨k + 1, by omega, by go_num, hid ⟨H3.out.1, hS.out.2.trans H3.out.2⟩, hid (hT.out.trans H3.out.2)⟩
        case measure => simp [RowKit.intOf]; omega
      · have HC := hid (settle_any Z d (Sx.part s (Sx.fateAt s l) k) (Sx.dirty s)[k] hlk b hb 0 wr hS.out.1)
        have ef : 0 = Sx.fateAt s l (Sx.dirty s)[k] := by rw [Sx.fateAt_dirty s l k hlt, List.getD_eq_getElem?_getD, List.getElem?_eq_none (by omega)]; rfl
        have HC2 : Hid (Calls Try.prog 36 #[.pointer (some ⟨d.g, 0, none⟩), .int .i64 ((Sx.dirty s)[k] : Nat), .int .i64 0] wr fun e w' => e = .returned (.tuple #[]) ∧ DiskAt w' Z d (Sx.part s (Sx.fateAt s l) (k + 1)) ∧ Turned d.has wr w') := by
          have e2 := Sx.part_step s (Sx.fateAt s l) k hlt
          rw [← ef] at e2
          rw [e2] at HC
          exact HC
        have hj0 : ¬ (k : Int) < (l.length : Int) := by omega
        clear hlk hb HC ef
        go_wp2_with fail
        refine HC2.out.mono ?_
        rintro e w3 ⟨rfl, hD3, ht3⟩
        have H3 := hid (And.intro hD3 ht3)
        clear hD3 ht3
        go_wp2_with fail
        go_roundw
        case rel => exact ⟨k + 1, by omega, by go_num, hid ⟨H3.out.1, hS.out.2.trans H3.out.2⟩, hid (hT.out.trans H3.out.2)⟩
        case measure => simp [RowKit.intOf]; omega
    · obtain rfl : k = (Sx.dirty s).length := by omega
      obtain ⟨w4, hcl, hD4, ht4⟩ := hS.out.1.clear_
      obtain ⟨c0, c1, c2, c3, c4⟩ := hS.out.1.cells
      obtain ⟨b0, b1, b2, b3, b4⟩ := hD4.cells
      have f2 := hD4.frozen 2
      have f3 := hD4.frozen 3
      have f4 := hD4.frozen 4
      have H4 := hid (And.intro hD4 ht4)
      clear hD4 ht4 hk c0 c2 c3 c4
      go_wp2_with fail
      go_end0
      have ht5 : Turned (fun j => j = d.g) w4 (((w4.setCell ⟨d.g, 2, none⟩ (.bool false)).setCell ⟨d.g, 3, none⟩ (.int .i64 0)).setCell ⟨d.g, 4, none⟩ (.bool false)) := Turned.three _ _ _ _ _ _ _ _
      have hD5 := H4.out.1.head (s' := { Sx.part s (Sx.fateAt s l) (Sx.dirty s).length with cache := fun _ => none, armed := false, left := 0, down := false }) ht5 rfl rfl rfl ⟨⟨by show (-9223372036854775808 : Int) ≤ 0; omega, by show (0 : Int) ≤ 9223372036854775807; omega⟩, fun h => by cases h⟩ (by simp [World.setCell, Array.getElem?_modify, H4.out.1.disk])
      refine ⟨rfl, hD5.congr rfl (fun i hi => ?_) (fun _ _ => rfl) rfl rfl rfl, (hS.out.2.then_ H4.out.2 (fun _ _ h => .inr (.inr h))).then_ ht5 (fun _ _ h => .inl h)⟩
      exact (Sx.part_end s (Sx.fateAt s l) i hi).symm
end Go.Proofs.Ytdgijnolpjaheaa
