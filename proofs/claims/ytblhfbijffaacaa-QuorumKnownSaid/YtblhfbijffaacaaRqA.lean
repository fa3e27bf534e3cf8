/- The document's answer of layer 10: In, rising, enough, Won. -/
import Derived.Test.YtblhfbijffaacaaConf
import Derived.StillTailTactics
import Derived.BigQuiet
namespace Go.Proofs.Ytblhfbijffaacaa
open Go.RowKit

set_option maxHeartbeats 400000 in
theorem in_any (B : Nat) (A : Option Addr) (c : Nat) (l : List Int) (hl : l.length ≤ 100000) (x : Int) (w : World) (h : IsInts w B A l) :
    Calls Try.prog 35 #[.slice A l.length c, .int .i64 x] w fun e w' => e = .returned (.bool (decide (x ∈ l))) ∧ w' = w := by
  go_enter Try.func35, Try.ntmps35
  go_wp2
  go_loopw [5] (fun i wr => ∃ k : Nat, k ≤ l.length ∧ i = .int .i64 k ∧ wr = w ∧ Hid (x ∉ l.take k)) (fun i _ => l.length - (intOf i).toNat)
  case atStart => exact ⟨0, by omega, rfl, rfl, hid (by simp)⟩
  case round =>
    obtain ⟨k, hk, rfl, rfl, hs⟩ := hrel
    by_cases hlt : k < l.length
    · obtain ⟨b, off, rfl, _, hc⟩ := h.cells k hlt
      have hck := hc k hlt
      clear hc h
      by_cases he : l[k] = x
      · have hbe : (l[k] == x) = true := by rw [beq_iff_eq]; exact he
        have HE := hid he
        clear he
        go_wp2
        go_ret
        exact ⟨by rw [decide_eq_true (show x ∈ l by rw [← HE.out]; exact List.getElem_mem hlt)]; rfl, rfl⟩
      · have hbe : (l[k] == x) = false := by rw [beq_eq_false_iff_ne]; exact he
        have HE := hid he
        clear he
        go_wp2
        go_roundw
        case rel =>
          refine ⟨k + 1, by omega, by go_num, trivial, hid ?_⟩
          rw [List.take_succ_eq_append_getElem hlt, List.mem_append, List.mem_singleton]
          rintro (h1 | h1)
          · exact hs.out h1
          · exact HE.out h1.symm
        case measure => simp [intOf]; omega
    · obtain rfl : k = l.length := by omega
      have := hs.out
      rw [List.take_length] at this
      have HF := hid this
      clear this
      go_wp2
      go_ret
      exact ⟨by rw [decide_eq_false HF.out]; rfl, rfl⟩

set_option maxHeartbeats 1000000 in
theorem rising_any (B : Nat) (A : Option Addr) (c : Nat) (l : List Int) (hl : l.length ≤ 100000) (w : World) (h : IsInts w B A l) :
    Calls Try.prog 34 #[.slice A l.length c] w fun e w' => e = .returned (.bool (Qu.node l)) ∧ ∃ n, w' = w.drewN n := by
  go_enter Try.func34, Try.ntmps34
  go_wp2
  go_loopw [3] (fun i wr => ∃ k n : Nat, k ≤ l.length ∧ i = .int .i64 k ∧ wr = w.drewN n ∧ Hid (Qu.node (l.take k) = true)) (fun i _ => l.length - (intOf i).toNat)
  case atStart => exact ⟨0, 0, by omega, rfl, rfl, hid (by simp [Qu.node])⟩
  case round =>
    obtain ⟨k, n, hk, rfl, rfl, hs⟩ := hrel
    by_cases hlt : k < l.length
    · obtain ⟨b, off, rfl, _, hc⟩ := h.cells k hlt
      have hck := hc k hlt
      have HST := hid (Qu.node_step_last hlt hs.out)
      have HL0 := hid (Qu.last_zero l)
      have HLP := hid (Qu.last_pred l k hlt)
      have HLN := hid (Qu.last_nonneg (by omega) hs.out)
      have HC := hid hc
      clear hc
      generalize hz : l[k] = z at *
      clear hz
      by_cases h1 : 1 ≤ z
      · by_cases h2 : z ≤ 7
        · have h1' : ¬ z < 1 := by omega
          have h2' : ¬ 7 < z := by omega
          by_cases hk0 : 0 < k
          · have hkp : (0 : Int) < (k : Int) := by omega
            have hck1 := HC.out (k - 1) (by omega)
            have hix : ((k : Int) - 1).toNat = k - 1 := by omega
            have hi0 : (0 : Int) ≤ (k : Int) - 1 := by omega
            have hi1 : (k : Int) - 1 < (l.length : Int) := by omega
            have hwr : IntKind.i64.wrap ((k : Int) - 1) = (k : Int) - 1 := IntWalk.i64_in _ ⟨by omega, by omega⟩
            have hy := HLP.out hk0
            have HY := hid hy
            generalize l[k - 1] = y at *
            clear hy
            by_cases h3 : y < z
            · have h3' : ¬ z ≤ y := by omega
              go_wp2
              go_quiet (fail)
              go_wp2
              go_roundw
              case rel => exact ⟨k + 1, _, by omega, by go_num, rfl, hid (by rw [HST.out]; exact decide_eq_true ⟨by rw [HY.out]; exact h3, h1, h2⟩)⟩
              case measure => simp [intOf]; omega
            · have h3' : z ≤ y := by omega
              go_wp2
              go_quiet (fail)
              go_wp2
              go_ret
              refine ⟨?_, _, World.drewN_drewN _ _ _⟩
              rw [Qu.node_false (l := l) (k := k + 1) (by rw [HST.out]; exact decide_eq_false (by rintro ⟨h, _⟩; rw [HY.out] at h; omega))]; rfl
          · obtain rfl : k = 0 := by omega
            rw [Nat.add_zero] at hck
            go_wp2
            go_quiet (fail)
            go_wp2
            go_roundw
            case rel => exact ⟨0 + 1, _, by omega, by go_num, rfl, hid (by rw [HST.out]; exact decide_eq_true ⟨by rw [HL0.out]; omega, h1, h2⟩)⟩
            case measure => simp [intOf]; omega
        · have h1' : ¬ z < 1 := by omega
          have h2' : 7 < z := by omega
          go_wp2
          go_ret
          refine ⟨?_, _, rfl⟩
          rw [Qu.node_false (l := l) (k := k + 1) (by rw [HST.out]; exact decide_eq_false (by rintro ⟨_, _, h⟩; omega))]; rfl
      · have h1' : z < 1 := by omega
        go_wp2
        go_ret
        refine ⟨?_, _, rfl⟩
        rw [Qu.node_false (l := l) (k := k + 1) (by rw [HST.out]; exact decide_eq_false (by rintro ⟨_, h, _⟩; omega))]; rfl
    · obtain rfl : k = l.length := by omega
      have := hs.out
      rw [List.take_length] at this
      have HF := hid this
      clear this
      go_wp2
      go_ret
      exact ⟨by rw [HF.out]; rfl, _, rfl⟩

set_option maxHeartbeats 400000 in
theorem enough_any (B : Nat) (A A' : Option Addr) (c c' : Nat) (l m : List Int) (hl : l.length ≤ 100000) (hm : m.length ≤ 100000) (w : World) (h0 : IsInts w B A l) (h0' : IsInts w B A' m) :
    Calls Try.prog 38 #[.slice A l.length c, .slice A' m.length c'] w fun e w' => e = .returned (.bool (Qu.maj l (fun x => decide (x ∈ m)))) ∧ w' = w := by
  have h := hid h0
  have h' := hid h0'
  clear h0 h0'
  go_enter Try.func38, Try.ntmps38
  go_wp2
  go_loopw [5, 6] (fun v i wr => ∃ k n : Nat, k ≤ l.length ∧ n ≤ k ∧ v = .int .i64 n ∧ i = .int .i64 k ∧ w = wr ∧ Hid (n = (l.take k).countP (fun x => decide (x ∈ m)))) (fun _ i _ => l.length - (intOf i).toNat)
  case atStart => exact ⟨0, 0, by omega, by omega, rfl, rfl, rfl, hid (by simp)⟩
  case round =>
    obtain ⟨k, n, hk, hn, rfl, rfl, rfl, hc⟩ := hrel
    by_cases hlt : k < l.length
    · obtain ⟨b, off, rfl, _, hcell⟩ := h.out.cells k hlt
      have hck := hcell k hlt
      have hs : (l.take (k + 1)).countP (fun x => decide (x ∈ m)) = (l.take k).countP (fun x => decide (x ∈ m)) + if decide (l[k] ∈ m) then 1 else 0 := by
        rw [List.take_succ_eq_append_getElem hlt, List.countP_append]; simp
      have HS := hid hs
      have HI := hid (in_any B A' c' m hm l[k] w h'.out)
      clear hcell hs
      generalize hp : decide (l[k] ∈ m) = p at *
      clear hp
      go_wp2_with fail
      refine HI.out.mono ?_
      rintro e w1 ⟨rfl, rfl⟩
      cases p
      · go_wp2
        go_roundw
        case rel => exact ⟨k + 1, n, by omega, by omega, rfl, by go_num, trivial, hid (by rw [HS.out]; simpa using hc.out)⟩
        case measure => simp [intOf]; omega
      · go_wp2
        go_roundw
        case rel => exact ⟨k + 1, n + 1, by omega, by omega, by go_num, by go_num, trivial, hid (by rw [HS.out, ← hc.out]; rfl)⟩
        case measure => simp [intOf]; omega
    · obtain rfl : k = l.length := by omega
      have hmj : Qu.maj l (fun x => decide (x ∈ m)) = decide ((l.length : Int) - (n : Int) < (n : Int)) := by
        have := hc.out
        rw [List.take_length] at this
        unfold Qu.maj
        refine decide_eq_decide.2 ?_
        omega
      have HM := hid hmj
      clear hmj
      go_wp2
      go_ret
      exact ⟨by rw [HM.out]; rfl, rfl⟩
theorem refWon_any (B : Nat) (c : Qu.Cf) (hs0 : Short c) (a0 a1 a2 ay : Option Addr) (k0 k1 k2 ky : Nat) (yes : List Int) (hy : yes.length ≤ 100000) (w : World) (h0 : CIs w B c a0 a1 a2 k0 k1 k2) (hY0 : IsInts w B ay yes) (hB : B ≤ w.heap.size) :
    Calls Try.prog 18 #[.agg #[.slice a0 c.old.length k0, .slice a1 c.new.length k1, .slice a2 c.lrn.length k2], .slice ay yes.length ky] w fun e w' => e = .returned (.bool (Qu.won c yes)) ∧ Below w.heap.size w w' := by
  have hbel : Below w.heap.size w (w.alloc (.cells #[.slice a0 c.old.length k0, .slice a1 c.new.length k1, .slice a2 c.lrn.length k2] 24)) := (Below.refl _ _).alloc (Nat.le_refl _) _
  have HO := hid (enough_any B a0 ay k0 ky c.old yes (by have := hs0.1; omega) hy _ (h0.o.below (hbel.mono hB)) (hY0.below (hbel.mono hB)))
  have HN := hid (enough_any B a1 ay k1 ky c.new yes (by have := hs0.2.1; omega) hy _ (h0.n.below (hbel.mono hB)) (hY0.below (hbel.mono hB)))
  have HB := hid hbel
  have hq : Qu.won c yes = (Qu.maj c.old (fun x => decide (x ∈ yes)) && (c.new.isEmpty || Qu.maj c.new (fun x => decide (x ∈ yes)))) := rfl
  have hlen := hs0.2.1
  rw [hq]
  clear hbel h0 hs0 hY0 hq
  generalize Qu.maj c.old (fun x => decide (x ∈ yes)) = p at *
  generalize Qu.maj c.new (fun x => decide (x ∈ yes)) = q at *
  by_cases hn : c.new = []
  · have h00 : c.new.length = 0 := by rw [hn]; rfl
    have he : c.new.isEmpty = true := by rw [hn]; rfl
    rw [he, Bool.true_or, Bool.and_true]
    clear hn he HN
    rw [h00] at HO HB ⊢
    clear h00
    go_enter Try.func18, Try.ntmps18
    go_wp2_with fail
    refine HO.out.mono ?_
    rintro e w1 ⟨rfl, rfl⟩
    go_wp2
    go_ret
    exact ⟨rfl, HB.out⟩
  · have h00 : (0 : Int) < (c.new.length : Int) := by have := List.length_pos_iff.2 hn; omega
    have he : c.new.isEmpty = false := by rw [← Bool.not_eq_true, List.isEmpty_iff]; exact hn
    rw [he, Bool.false_or]
    clear hn he
    cases q
    · rw [Bool.and_false]
      go_enter Try.func18, Try.ntmps18
      go_wp2_with fail
      refine HN.out.mono ?_
      rintro e w1 ⟨rfl, rfl⟩
      go_wp2
      go_ret
      exact ⟨rfl, HB.out⟩
    · rw [Bool.and_true]
      go_enter Try.func18, Try.ntmps18
      go_wp2_with fail
      refine HN.out.mono ?_
      rintro e w1 ⟨rfl, rfl⟩
      go_wp2_with fail
      refine HO.out.mono ?_
      rintro e w1 ⟨rfl, rfl⟩
      go_wp2
      go_ret
      exact ⟨rfl, HB.out⟩
end Go.Proofs.Ytblhfbijffaacaa
