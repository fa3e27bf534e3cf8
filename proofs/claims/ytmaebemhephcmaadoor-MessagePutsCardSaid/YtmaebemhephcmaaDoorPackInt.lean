/- The walks through what package pack puts, numbers: each hands back new memory that holds the bytes handed in, and the encoding behind them. -/
import Derived.Test.YtmaebemhephcmaaDoorRows
import Derived.Test.YtmaebemhephcmaaDoorKitEq
import Derived.Test.YtmaebemhephcmaaDoorPackMath
import Derived.Test.YtmaebemhephcmaaDoorGrown
namespace Go.Proofs.YtmaebemhephcmaaDoor
open Go.RowKit

theorem enc_take (v : Int) (k : Nat) (h : k < 8) : (Pk.enc v).take (k + 1) = (Pk.enc v).take k ++ [Pk.byteOf v (7 - k)] := by
  match k, h with
  | 0, _ => rfl
  | 1, _ => rfl
  | 2, _ => rfl
  | 3, _ => rfl
  | 4, _ => rfl
  | 5, _ => rfl
  | 6, _ => rfl
  | 7, _ => rfl
theorem byteOf_val (v : Int) (k : Nat) : ((Pk.byteOf v k : Nat) : Int) = v / 2 ^ (8 * k) % 256 := by
  unfold Pk.byteOf
  have := Int.emod_nonneg (v / 2 ^ (8 * k)) (show (256 : Int) ≠ 0 by decide)
  omega
theorem bytes_one (l : List Nat) (x : Nat) : bytes l ++ [Value.int .u8 (x : Int)] = bytes (l ++ [x]) := by unfold bytes; simp

set_option maxHeartbeats 400000 in
theorem put_any (base : Nat) (A : Option Addr) (c : Nat) (l : List Nat) (v : Int) (hv : InInt v) (hl : l.length ≤ 140737488355000) (w : World) (h : OwnsB 5 w base A c l) (hB : base ≤ w.heap.size) :
    Calls Tryd.prog 96 #[.slice A l.length c, .int .i64 v] w fun e w' => ∃ A' c', e = .returned (.slice A' (l.length + 8) c') ∧ OwnsB 5 w' base A' c' (l ++ Pk.enc v) ∧ Below base w w' := by
  obtain ⟨i0, hi, hz0, hz1, hz2⟩ := info_parts info_u8
  have hv1 := hv.1
  have hv2 := hv.2
  go_enter Tryd.func96, Tryd.ntmps96
  go_wp2
  go_loopw [0, 5] (fun b i wr => ∃ k : Nat, ∃ A1 : Option Addr, ∃ c1 : Nat, k ≤ 8 ∧ i = .int .i64 (56 - 8 * (k : Int)) ∧ b = .slice A1 (l.length + k) c1 ∧ OwnsB 5 wr base A1 c1 (l ++ (Pk.enc v).take k) ∧ Below base w wr) (fun _ i _ => (intOf i + 8).toNat)
  case atStart => exact ⟨0, A, c, by omega, rfl, rfl, by simpa using h, Below.refl _ _⟩
  case round =>
    clear h
    obtain ⟨k, A1, c1, hk, rfl, rfl, hown, hbel⟩ := hrel
    have hlen : (l ++ (Pk.enc v).take k).length = l.length + k := by rw [List.length_append, List.length_take, Pk.enc_length]; omega
    have hrow := hown.row
    rw [hlen] at hrow
    have HR := hid (And.intro hown.small hlen)
    clear hown hlen
    by_cases hlt : k < 8
    · obtain ⟨m, hm⟩ : ∃ m : Nat, 56 - 8 * (k : Int) = (m : Int) := ⟨56 - 8 * k, by omega⟩
      have HM := hid hm
      rw [hm]
      have hm0 : m ≤ 56 := by omega
      clear hm
      have hx := byteOf_val v (7 - k)
      rw [show 8 * (7 - k) = m from by have := HM.out; omega] at hx
      have HX := hid hx
      clear hx
      go_wp2_with (at_builtin; refine wpList_append_own _ rfl _ _ 23 rfl base 5 i0 (.int .u8 0) 1 1 Tryd.underlying23 hi hz0 hz1 hz2 rfl (by decide) _ _ _ rfl (hrow.alloc _) ⟨wr.heap.size, 0, none⟩ 1 1 [.int .u8 (v / 2 ^ m % 256)] rfl rfl ?c1 ?c2 ?c3 ?c4 ?c5 ?_)
      case c1 =>
        intro j u hj
        match j, hj with
        | 0, hj => simp at hj; subst hj; simp [Addr.add]
      case c2 => intro u hu; simp at hu; subst hu; rfl
      case c3 => unfold maxLen; omega
      case c4 => omega
      case c5 => have := hbel.size; simp; omega
      intro v' w1 hown' hgrow _
      obtain ⟨A2, c2, rfl⟩ := own_slice hown'
      rw [← HX.out, bytes_one, List.append_assoc, ← enc_take v k hlt] at hown'
      have hb1 : Below base w w1 := (hbel.alloc (by have := hbel.size; omega) _).grown hgrow (by have := hbel.size; simp; omega) (fun g hg => (hrow.lt g hg).1)
      have HO : Hid (OwnsB 5 w1 base A2 c2 (l ++ (Pk.enc v).take (k + 1))) := by
        refine ⟨?_, ?_⟩
        · intro x hx
          rw [enc_take v k hlt, ← List.append_assoc] at hx
          rcases List.mem_append.1 hx with hx | hx
          · exact HR.out.1 x hx
          · simp at hx; subst hx; exact Pk.byteOf_lt _ _
        · rw [show (l ++ (Pk.enc v).take (k + 1)).length = l.length + k + 1 from by rw [List.length_append, List.length_take, Pk.enc_length]; omega]
          exact hown'
      clear hgrow hown' hrow
      have HB := hid hb1
      clear hb1 hbel
      go_wp2
      go_roundw
      case rel => exact ⟨k + 1, A2, c2, by omega, by rw [← HM.out]; go_num, rfl, HO.out, HB.out⟩
      case measure => simp [intOf]; omega
    · obtain rfl : k = 8 := by omega
      have HO : Hid (OwnsB 5 wr base A1 c1 (l ++ Pk.enc v)) := by
        have e : (Pk.enc v).take 8 = Pk.enc v := rfl
        have h1 := HR.out.1
        rw [e] at h1 hrow
        exact ⟨h1, by rw [show (l ++ Pk.enc v).length = l.length + 8 from by rw [List.length_append, Pk.enc_length]]; exact hrow⟩
      clear hrow
      go_wp2
      go_ret
      exact ⟨A1, c1, rfl, HO.out, hbel⟩
set_option maxHeartbeats 400000 in
theorem fresh_any (B : Nat) (A : Option Addr) (c : Nat) (l : List Nat) (r : Nat) (hl : l.length + r ≤ 140737488355000) (w : World) (h : IsBytes w B A l) (hB : B ≤ w.heap.size) (hn : A = none → c = 0) :
    Calls Tryd.prog 97 #[.slice A l.length c, .int .i64 (r : Int)] w fun e w' => ∃ A' c', e = .returned (.slice A' l.length c') ∧ OwnsB 5 w' w.heap.size A' c' l ∧ Below w.heap.size w w' := by
  obtain ⟨i0, hi, hz0, hz1, hz2⟩ := info_parts info_u8
  go_enter Tryd.func97, Tryd.ntmps97
  go_wp2_with (at_make; refine wpList_make_own _ rfl _ _ 23 rfl w.heap.size 5 i0 (.int .u8 0) 1 Tryd.underlying23 hi hz0 hz1 .i64 .i64 ((l.length : Int) + r) (l.length + r) rfl rfl (by omega) ?c1 ?c2 (Nat.le_refl _) ?_)
  case c1 => rw [hz2]; omega
  case c2 => unfold maxLen; omega
  intro w1 hown hgrow
  have hrow : OwnsB 5 w1 w.heap.size (some ⟨w.heap.size, 0, none⟩) (l.length + r) [] := ⟨by simp, hown⟩
  have hbel : Below w.heap.size w w1 := (Below.refl _ _).grown hgrow (Nat.le_refl _) (fun g hg => by cases hg)
  have hs : IsBytes w1 w.heap.size A l := (h.more hB).below hbel
  clear hown hgrow
  go_wp2_with (at_builtin; refine wpList_append_bytesN rfl _ _ 23 rfl w.heap.size 5 i0 Tryd.underlying23 hi hz0 hz1 hz2 (some ⟨w.heap.size, 0, none⟩) (l.length + r) [] 0 rfl rfl hrow w.heap.size A c l l.length rfl rfl hn hs l (List.nil_append _) (by omega) hbel.size ?_)
  intro A3 c3 w2 hown2 hgrow
  have hb2 : Below w.heap.size w w2 := hbel.trans hgrow
  clear hgrow hrow hbel hs
  go_wp2
  go_ret
  exact ⟨A3, c3, rfl, hown2, hb2⟩

set_option maxHeartbeats 400000 in
theorem packInt_any (B : Nat) (A : Option Addr) (c : Nat) (l : List Nat) (v : Int) (hv : InInt v) (hl : l.length ≤ 140737488354000) (w : World) (h : IsBytes w B A l) (hB : B ≤ w.heap.size) (hn : A = none → c = 0) :
    Calls Tryd.prog 84 #[.slice A l.length c, .int .i64 v] w fun e w' => ∃ A' c', e = .returned (.slice A' (l.length + 8) c') ∧ OwnsB 5 w' w.heap.size A' c' (l ++ Pk.enc v) ∧ Below w.heap.size w w' := by
  go_enter Tryd.func84, Tryd.ntmps84
  go_wp2_with fail
  refine (fresh_any B A c l 8 (by omega) _ h hB hn).mono ?_
  rintro e w1 ⟨A1, c1, rfl, hown, hbel⟩
  go_wp2_with fail
  refine (put_any w.heap.size A1 c1 l v hv (by omega) _ hown hbel.size).mono ?_
  rintro e w2 ⟨A2, c2, rfl, hown2, hbel2⟩
  go_wp2
  go_ret
  exact ⟨A2, c2, rfl, hown2, hbel.trans hbel2⟩

end Go.Proofs.YtmaebemhephcmaaDoor
