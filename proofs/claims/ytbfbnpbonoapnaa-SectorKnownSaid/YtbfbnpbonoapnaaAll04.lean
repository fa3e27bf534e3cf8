/- The walk through All: every sector that was ever written is read as the document says. -/
import Derived.Test.YtbfbnpbonoapnaaLooks
namespace Go.Proofs.Ytbfbnpbonoapnaa
open Go.RowKit

set_option maxRecDepth 100000 in
set_option maxHeartbeats 1600000 in
theorem all_any (Z : Nat → Prop) (d : Dk) (g : Nat) (s : Sx.St) (x : Sx.Xs) (w : World) (h : DX w Z d g s x) :
    Calls Try.prog 14 #[.pointer (some ⟨d.g, 0, none⟩), .pointer (some ⟨g, 0, none⟩)] w fun e w' => e = .returned (.bool true) ∧ DX w' Z d g s x ∧ Below w.heap.size w w' := by
  have hl1 : x.ll.length ≤ 16384 := Nat.le_trans (RefAt.len1 x) h.xa.bound.2
  have hl2 : x.cl.length ≤ 16384 := Nat.le_trans (RefAt.len2 x) h.xa.bound.2
  have HX : Hid (DX w Z d g s x ∧ Below w.heap.size w w) := hid ⟨h, Below.refl _ _⟩
  clear h
  go_enter Try.func14, Try.ntmps14
  go_wp2_with fail
  go_loopw [5] (fun iv wr => ∃ k : Nat, k ≤ x.ll.length ∧ iv = .int .i64 k ∧ Hid (DX wr Z d g s x ∧ Below w.heap.size w wr)) (fun i _ => x.ll.length - (RowKit.intOf i).toNat)
  case atStart => exact ⟨0, by omega, rfl, HX⟩
  case round =>
    clear HX
    obtain ⟨k, hk, rfl, hS⟩ := hrel
    obtain ⟨A1, k1, A2, k2, c0, c1, c2, c3, c4, hs1, hs2⟩ := hS.out.1.xa.cells
    by_cases hlt : k < x.ll.length
    · obtain ⟨gg, A', c', rfl, _, d0, d1, d2, _, hx1, _⟩ := hs1.at_ k hlt
      have hk0 : (k : Int) < (x.ll.length : Int) := by omega
      have HC := hid (looks_any Z d g s x (x.ll[k].no : Nat) wr hS.out.1)
      clear hs1 hs2
      go_wp2_with fail
      refine HC.out.mono ?_
      rintro e w2 ⟨rfl, h2, hb2⟩
      have H2 : Hid (DX w2 Z d g s x ∧ Below w.heap.size w w2) := hid ⟨h2, hS.out.2.trans (hb2.mono hS.out.2.size)⟩
      clear h2 hb2 HC c0 c1 c2 c3 c4 d0 d1 d2
      go_wp2_with fail
      go_roundw
      case rel => exact ⟨k + 1, by omega, by go_num, H2⟩
      case measure => simp [RowKit.intOf]; omega
    · obtain rfl : k = x.ll.length := by omega
      clear hs1 hs2 c4
      go_wp2_with fail
      clear c0 c1 c2 c3 hk hlt
      go_loopw [6] (fun iv wr => ∃ k : Nat, k ≤ x.cl.length ∧ iv = .int .i64 k ∧ Hid (DX wr Z d g s x ∧ Below w.heap.size w wr)) (fun i _ => x.cl.length - (RowKit.intOf i).toNat)
      case atStart => exact ⟨0, by omega, rfl, hS⟩
      case round =>
        clear hS
        obtain ⟨k, hk, rfl, hS⟩ := hrel
        obtain ⟨A1, k1, A2, k2, c0, c1, c2, c3, c4, hs1, hs2⟩ := hS.out.1.xa.cells
        by_cases hlt : k < x.cl.length
        · obtain ⟨gg, A', c', rfl, _, d0, d1, d2, _, hx1, _⟩ := hs2.at_ k hlt
          have hk0 : (k : Int) < (x.cl.length : Int) := by omega
          have HC := hid (looks_any Z d g s x (x.cl[k].no : Nat) _ hS.out.1)
          clear hs1 hs2
          go_wp2_with fail
          refine HC.out.mono ?_
          rintro e w2 ⟨rfl, h2, hb2⟩
          have H2 : Hid (DX w2 Z d g s x ∧ Below w.heap.size w w2) := hid ⟨h2, hS.out.2.trans (hb2.mono hS.out.2.size)⟩
          clear h2 hb2 HC c0 c1 c2 c3 c4 d0 d1 d2
          go_wp2_with fail
          go_roundw
          case rel => exact ⟨k + 1, by omega, by go_num, H2⟩
          case measure => simp [RowKit.intOf]; omega
        · obtain rfl : k = x.cl.length := by omega
          have HC := hid (looks_any Z d g s x 0 _ hS.out.1)
          clear hs1 hs2 c3
          go_wp2_with fail
          refine HC.out.mono ?_
          rintro e w2 ⟨rfl, h2, hb2⟩
          have H2 : Hid (DX w2 Z d g s x ∧ Below w.heap.size w w2) := hid ⟨h2, hS.out.2.trans (hb2.mono hS.out.2.size)⟩
          clear h2 hb2 HC c0 c1 c2 c4
          go_wp2_with fail
          go_ret
          exact ⟨rfl, H2.out.1, H2.out.2⟩
end Go.Proofs.Ytbfbnpbonoapnaa
