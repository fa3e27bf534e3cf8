/- The walks through the functions that all statements share: lists of bytes that are held against one another, and copied. -/
import Derived.Test.YtomnbaeokmpobaaRows
import Derived.Test.YtomnbaeokmpobaaMem
import Derived.Deep.QuietTactic
import Derived.BigQuiet
namespace Go.Proofs.Ytomnbaeokmpobaa
open Go.RowKit

theorem take_succ_eq (l m : List Nat) (k : Nat) (h1 : k < l.length) (h2 : k < m.length) (h : l.take k = m.take k) (he : l[k] = m[k]) : l.take (k + 1) = m.take (k + 1) := by
  rw [List.take_succ_eq_append_getElem h1, List.take_succ_eq_append_getElem h2, h, he]

set_option maxHeartbeats 400000 in
theorem same_any (B B' : Nat) (A A' : Option Addr) (c c' : Nat) (l m : List Nat) (hl : l.length ≤ maxLen) (hm : m.length ≤ maxLen) (w : World) (h : IsBytes w B A l) (h' : IsBytes w B' A' m) :
    Calls Try.prog 25 #[.slice A l.length c, .slice A' m.length c'] w fun e w' => e = .returned (.bool (decide (l = m))) ∧ ∃ n, w' = w.drewN n := by
  unfold maxLen at hl hm
  by_cases hne : l.length = m.length
  · have hb : ((l.length : Int) != (m.length : Int)) = false := by rw [bne_eq_false_iff_eq]; omega
    have HN := hid hne
    clear hne
    go_enter Try.func25, Try.ntmps25
    go_wp2
    go_loopw [5] (fun i wr => ∃ k n : Nat, k ≤ l.length ∧ i = .int .i64 k ∧ wr = w.drewN n ∧ Hid (l.take k = m.take k)) (fun i _ => l.length - (intOf i).toNat)
    case atStart => exact ⟨0, 0, by omega, rfl, rfl, hid rfl⟩
    case round =>
      obtain ⟨k, n, hk, rfl, rfl, hs⟩ := hrel
      by_cases hlt : k < l.length
      · have hlt' : k < m.length := by have := HN.out; omega
        obtain ⟨b, off, rfl, _, hc⟩ := h.cells k hlt
        obtain ⟨b', off', rfl, _, hc'⟩ := h'.cells k hlt'
        have hck := hc k hlt
        have hck' := hc' k hlt'
        clear hc hc'
        by_cases he : l[k] = m[k]
        · have hbe : (((l[k] : Nat) : Int) != ((m[k] : Nat) : Int)) = false := by rw [bne_eq_false_iff_eq]; omega
          have HE := hid he
          clear he
          go_wp2
          go_quiet (fail)
          go_wp2
          go_roundw
          case rel => exact ⟨k + 1, _, by omega, by go_num, rfl, hid (take_succ_eq l m k hlt hlt' hs.out HE.out)⟩
          case measure => simp [intOf]; omega
        · have hbe : (((l[k] : Nat) : Int) != ((m[k] : Nat) : Int)) = true := by rw [bne_iff_ne]; omega
          have hfin : decide (l = m) = false := by
            rw [decide_eq_false_iff_not]; rintro rfl; exact he rfl
          have HF := hid hfin
          clear he hfin
          go_wp2
          go_quiet (fail)
          go_wp2
          go_ret
          exact ⟨by rw [HF.out]; rfl, _, by rw [World.drewN_drewN]⟩
      · obtain rfl : k = l.length := by omega
        have hfin : decide (l = m) = true := by
          rw [decide_eq_true_iff]
          have e := hs.out
          rw [List.take_length, HN.out, List.take_length] at e
          exact e
        have HF := hid hfin
        clear hfin
        go_wp2
        go_ret
        exact ⟨by rw [HF.out]; rfl, _, rfl⟩
  · have hb : ((l.length : Int) != (m.length : Int)) = true := by rw [bne_iff_ne]; omega
    have hfin : decide (l = m) = false := by
      rw [decide_eq_false_iff_not]; rintro rfl; exact hne rfl
    have HF := hid hfin
    clear hfin hne
    go_enter Try.func25, Try.ntmps25
    go_wp2
    go_ret
    exact ⟨by rw [HF.out]; rfl, 0, rfl⟩
theorem info_u8 : (Try.prog.info? 5).map (fun i => (i.zero, i.size, i.bytes)) = some (some (.int .u8 0), 1, 1) := by kernel_rfl

theorem bytes_snoc (l : List Nat) (k : Nat) (h : k < l.length) : bytes (l.take k) ++ [Value.int .u8 (l[k] : Nat)] = bytes (l.take (k + 1)) := by
  unfold bytes; rw [List.take_succ_eq_append_getElem h, List.map_append]; rfl
set_option maxHeartbeats 400000 in
theorem copy_any (B : Nat) (A : Option Addr) (c : Nat) (l : List Nat) (hl : l.length ≤ 140737488355328) (w : World) (h : IsBytes w B A l) (hB : B ≤ w.heap.size) :
    Calls Try.prog 33 #[.slice A l.length c] w fun e w' => ∃ A' c', e = .returned (.slice A' l.length c') ∧ OwnsB 5 w' w.heap.size A' c' l ∧ Below w.heap.size w w' := by
  obtain ⟨i0, hi, hz0, hz1, hz2⟩ := info_parts info_u8
  go_enter Try.func33, Try.ntmps33
  go_wp2
  go_loopw [3, 4] (fun v i wr => ∃ k : Nat, k ≤ l.length ∧ i = .int .i64 k ∧ wr.ownsRow w.heap.size 5 1 v k (bytes (l.take k)) ∧ Below w.heap.size w wr) (fun _ i _ => l.length - (intOf i).toNat)
  case atStart => exact ⟨0, by omega, rfl, World.ownsRow_nil _ _ _ _, Below.refl _ _⟩
  case round =>
    obtain ⟨k, hk, rfl, hown, hbel⟩ := hrel
    by_cases hlt : k < l.length
    · have h1 := (h.below (hbel.mono hB))
      obtain ⟨b, off, rfl, _, hc⟩ := h1.cells k hlt
      have hck := hc k hlt
      clear hc
      go_wp2_with (at_builtin; refine wpList_append_own _ rfl _ _ 43 rfl w.heap.size 5 i0 (.int .u8 0) 1 1 Try.underlying43 hi hz0 hz1 hz2 rfl (by decide) _ _ _ rfl (hown.alloc _) ⟨wr.heap.size, 0, none⟩ 1 1 [.int .u8 (l[k] : Nat)] rfl rfl ?c1 ?c2 ?c3 ?c4 ?c5 ?_)
      case c1 =>
        intro j u hj
        match j, hj with
        | 0, hj => simp at hj; subst hj; simp [Addr.add]
      case c2 => intro u hu; simp at hu; subst hu; rfl
      case c3 => unfold maxLen; omega
      case c4 => omega
      case c5 => have := hbel.size; simp; omega
      intro v' w1 hown' hgrow _
      rw [bytes_snoc l k hlt] at hown'
      have hb1 : Below w.heap.size w w1 := (hbel.alloc hbel.size _).grown hgrow (by have := hbel.size; simp; omega) (fun g hg => (hown.lt g hg).1)
      clear hgrow hown hbel hck
      go_wp2
      go_roundw
      case rel => exact ⟨k + 1, by omega, by go_num, hown', hb1⟩
      case measure => simp [intOf]; omega
    · obtain rfl : k = l.length := by omega
      rw [List.take_length] at hown
      obtain ⟨A', c', rfl⟩ := own_slice hown
      go_wp2
      go_ret
      exact ⟨A', c', rfl, ⟨h.small, hown⟩, hbel⟩
theorem same_N (B B' : Nat) (A A' : Option Addr) (c c' : Nat) (l m : List Nat) (n k : Nat) (hn : l.length = n) (hk : m.length = k) (hl : n ≤ maxLen) (hm : k ≤ maxLen) (w : World) (h : IsBytes w B A l) (h' : IsBytes w B' A' m) :
    Calls Try.prog 25 #[.slice A n c, .slice A' k c'] w fun e w' => e = .returned (.bool (decide (l = m))) ∧ ∃ j, w' = w.drewN j := by
  subst hn; subst hk; exact same_any B B' A A' c c' l m hl hm w h h'
/-- two lists that are the same -/
theorem same_T (B B' : Nat) (A A' : Option Addr) (c c' : Nat) (l : List Nat) (n : Nat) (hn : l.length = n) (hl : n ≤ maxLen) (w : World) (h : IsBytes w B A l) (h' : IsBytes w B' A' l) :
    Calls Try.prog 25 #[.slice A n c, .slice A' n c'] w fun e w' => e = .returned (.bool true) ∧ ∃ j, w' = w.drewN j :=
  (same_N B B' A A' c c' l l n n hn hn hl hl w h h').mono fun _ _ ⟨h1, h2⟩ => ⟨by rw [h1, decide_eq_true rfl], h2⟩
theorem copy_N (B : Nat) (A : Option Addr) (c : Nat) (l : List Nat) (n : Nat) (hn : l.length = n) (hl : n ≤ 140737488355328) (w : World) (h : IsBytes w B A l) (hB : B ≤ w.heap.size) :
    Calls Try.prog 33 #[.slice A n c] w fun e w' => ∃ A' c', e = .returned (.slice A' n c') ∧ OwnsB 5 w' w.heap.size A' c' l ∧ Below w.heap.size w w' := by
  subst hn; exact copy_any B A c l hl w h hB
end Go.Proofs.Ytomnbaeokmpobaa
