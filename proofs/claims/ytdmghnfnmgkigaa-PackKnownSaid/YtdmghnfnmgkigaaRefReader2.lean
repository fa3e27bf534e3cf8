/- The walks through the document's answer for the reader of package pack: a number. -/
import Derived.Test.YtdmghnfnmgkigaaRefReader
import Derived.IntWalk
namespace Go.Proofs.Ytdmghnfnmgkigaa
open Go.RowKit

theorem u64_wrap' (v : Int) : IntKind.u64.wrap v = v % 18446744073709551616 := by simp [IntKind.wrap, IntKind.signed, IntKind.bits]
theorem leftOf_get (B : List Nat) (at' k : Nat) (h : at' + k < B.length) : (B.drop at').take (k + 1) = (B.drop at').take k ++ [B[at' + k]] := by
  rw [List.take_succ_eq_append_getElem (by rw [List.length_drop]; omega), List.getElem_drop]

set_option maxHeartbeats 800000 in
theorem refRInt_short (g top : Nat) (B : List Nat) (at' : Nat) (bad : Bool) (w : World) (h : RefR w g top B at' bad) (hl : (leftOf B at' bad).length < 8) :
    Calls Try.prog 42 #[.pointer (some ⟨g, 0, none⟩)] w fun e w' => e = .returned (.int .i64 0) ∧ RefR w' g top B at' true ∧ w.grownBy w' (some g) := by
  have HL := hid (refLeft_any g top B at' bad w h)
  have HE := hid hl
  have H := hid h
  obtain ⟨A, c, hc0, hc1, hc2, _, hc⟩ := h.cells
  have hf2 := h.free 2
  clear h
  go_enter Try.func42, Try.ntmps42
  go_wp2_with fail
  refine HL.out.mono ?_
  rintro e w1 ⟨rfl, n, rfl⟩
  have HB := hid ((H.out.drewN n).setBad true)
  go_wp2_with fail
  go_ret
  exact ⟨rfl, HB.out.1, (grown_drewN (grown_refl _ _) n).trans HB.out.2⟩

set_option maxHeartbeats 1600000 in
theorem refRInt_long (g top : Nat) (B : List Nat) (at' : Nat) (w : World) (h : RefR w g top B at' false) (hl : at' + 8 ≤ B.length) :
    Calls Try.prog 42 #[.pointer (some ⟨g, 0, none⟩)] w fun e w' => e = .returned (.int .i64 (Pk.sgn (Pk.num ((B.drop at').take 8)))) ∧ RefR w' g top B (at' + 8) false ∧ w.grownBy w' (some g) := by
  have HL := hid (refLeft_any g top B at' false w h)
  have hll : (leftOf B at' false).length = B.length - at' := by simp [leftOf]
  rw [hll] at HL
  have H := hid h
  have hle := h.le
  have hsh := h.short
  clear h hll
  go_enter Try.func42, Try.ntmps42
  go_wp2_with fail
  refine HL.out.mono ?_
  rintro e w1 ⟨rfl, n1, rfl⟩
  go_wp2_with fail
  go_loopw [3, 4] (fun v i wr => ∃ k n m : Nat, k ≤ 8 ∧ i = .int .i64 k ∧ v = .int .u64 (n : Int) ∧ wr = w.drewN m ∧ Hid (n = Pk.num ((B.drop at').take k))) (fun _ i _ => 8 - (intOf i).toNat)
  case atStart => exact ⟨0, 0, n1, by omega, rfl, rfl, rfl, hid rfl⟩
  case round =>
    obtain ⟨k, n, m, hk, rfl, rfl, rfl, hs⟩ := hrel
    by_cases hlt : k < 8
    · obtain ⟨A, c, hc0, hc1, hc2, hb, hc⟩ := H.out.cells
      obtain ⟨b, off, rfl, _, hcell⟩ := hb.cells (at' + k) (by omega)
      have hck := hcell (at' + k) (by omega)
      have hb8 := hb.small B[at' + k] (List.getElem_mem _)
      have hn7 : n < 72057594037927936 := by
        rw [hs.out]
        have h1 := Pk.num_lt ((B.drop at').take k) (fun x hx => hb.small x (List.mem_of_mem_drop (List.mem_of_mem_take hx)))
        have h2 : ((B.drop at').take k).length ≤ 7 := by rw [List.length_take]; omega
        have h3 : 256 ^ ((B.drop at').take k).length ≤ 256 ^ 7 := Nat.pow_le_pow_right (by decide) h2
        have h4 : 256 ^ 7 = 72057594037927936 := by decide
        omega
      have hkl : at' + k < B.length := by omega
      have e1 : IntKind.i64.wrap ((at' : Int) + (k : Int)) = (at' : Int) + (k : Int) := IntWalk.i64_in _ (by omega)
      have e2 : IntKind.u64.wrap ((n : Int) * 256) = (n : Int) * 256 := by rw [u64_wrap']; omega
      have e3 : IntKind.u64.wrap ((n : Int) * 256 + (B[at' + k] : Int)) = (n : Int) * 256 + (B[at' + k] : Int) := by rw [u64_wrap']; omega
      have e4 : ((at' : Int) + (k : Int)).toNat = at' + k := by omega
      have e5 : 0 ≤ (at' : Int) + (k : Int) := by omega
      clear hcell hb
      go_wp2
      go_quiet (fail)
      clear e1 e2 e3 e4 e5
      go_wp2
      go_roundw
      case rel => exact ⟨k + 1, n * 256 + B[at' + k], _, by omega, by go_num, by go_num, rfl, by
        show _ = _
        rw [leftOf_get B at' k hkl, Pk.num_snoc, ← hs.out]⟩
      case measure => simp [intOf] <;> omega
    · obtain rfl : k = 8 := by omega
      have hw := H.out.drewN m
      obtain ⟨A, c, hc0, hc1, hc2, hb, hc⟩ := hw.cells
      have hf1 := hw.free 1
      have HA : Hid (RefR ((w.drewN m).setCell ⟨g, 1, none⟩ (.int .i64 ((at' : Int) + 8))) g top B (at' + 8) false ∧ (w.drewN m).grownBy ((w.drewN m).setCell ⟨g, 1, none⟩ (.int .i64 ((at' : Int) + 8))) (some g)) := hw.setAt (at' + 8) hl
      have hn : n < 18446744073709551616 := by
        rw [hs.out]
        exact Pk.take_num_lt _ (fun x hx => hb.small x (List.mem_of_mem_drop hx))
      have hv : wrap64 (n : Int) = Pk.sgn (Pk.num ((B.drop at').take 8)) := by rw [wrap64_sgn n hn, hs.out]
      have HV := hid hv
      clear hw hb hn hv
      go_wp2
      go_ret
      exact ⟨ret_int HV.out, HA.out.1, (grown_drewN (grown_refl _ _) m).trans HA.out.2⟩
end Go.Proofs.Ytdmghnfnmgkigaa
