/- The walks through what package pack puts: each hands back new memory that holds the bytes handed in, and the encoding behind them. -/
import Derived.Test.YtdmghnfnmgkigaaRows
import Derived.Test.YtdmghnfnmgkigaaKitBytes
import Derived.Test.YtdmghnfnmgkigaaPackMath
import Derived.Test.YtdmghnfnmgkigaaGrown
namespace Go.Proofs.Ytdmghnfnmgkigaa
open Go.RowKit

theorem enc_take (v : Int) (k : Nat) (h : k < 8) : (Pk.enc v).take (k + 1) = (Pk.enc v).take k ++ [Pk.byteOf v (7 - k)] := by
  match k, h with
  | 0, _ => rfl
  | 1, _ => rfl
  | 2, _ => rfl
  | 3, _ => rfl
  | 4, _ => rfl
  | 5, _ => rfl
  | 6, _ => rfl
  | 7, _ => rfl
theorem byteOf_val (v : Int) (k : Nat) : ((Pk.byteOf v k : Nat) : Int) = v / 2 ^ (8 * k) % 256 := by
  unfold Pk.byteOf
  have := Int.emod_nonneg (v / 2 ^ (8 * k)) (show (256 : Int) ≠ 0 by decide)
  omega
theorem bytes_one (l : List Nat) (x : Nat) : bytes l ++ [Value.int .u8 (x : Int)] = bytes (l ++ [x]) := by unfold bytes; simp

set_option maxHeartbeats 400000 in
theorem put_any (base : Nat) (A : Option Addr) (c : Nat) (l : List Nat) (v : Int) (hv : InInt v) (hl : l.length ≤ 140737488355000) (w : World) (h : OwnsB 5 w base A c l) (hB : base ≤ w.heap.size) :
    Calls Try.prog 38 #[.slice A l.length c, .int .i64 v] w fun e w' => ∃ A' c', e = .returned (.slice A' (l.length + 8) c') ∧ OwnsB 5 w' base A' c' (l ++ Pk.enc v) ∧ Below base w w' := by
  obtain ⟨i0, hi, hz0, hz1, hz2⟩ := info_parts info_u8
  have hv1 := hv.1
  have hv2 := hv.2
  go_enter Try.func38, Try.ntmps38
  go_wp2
  go_loopw [0, 5] (fun b i wr => ∃ k : Nat, ∃ A1 : Option Addr, ∃ c1 : Nat, k ≤ 8 ∧ i = .int .i64 (56 - 8 * (k : Int)) ∧ b = .slice A1 (l.length + k) c1 ∧ OwnsB 5 wr base A1 c1 (l ++ (Pk.enc v).take k) ∧ Below base w wr) (fun _ i _ => (intOf i + 8).toNat)
  case atStart => exact ⟨0, A, c, by omega, rfl, rfl, by simpa using h, Below.refl _ _⟩
  case round =>
    clear h
    obtain ⟨k, A1, c1, hk, rfl, rfl, hown, hbel⟩ := hrel
    have hlen : (l ++ (Pk.enc v).take k).length = l.length + k := by rw [List.length_append, List.length_take, Pk.enc_length]; omega
    have hrow := hown.row
    rw [hlen] at hrow
    have HR := hid (And.intro hown.small hlen)
    clear hown hlen
    by_cases hlt : k < 8
    · obtain ⟨m, hm⟩ : ∃ m : Nat, 56 - 8 * (k : Int) = (m : Int) := ⟨56 - 8 * k, by omega⟩
      have HM := hid hm
      rw [hm]
      have hm0 : m ≤ 56 := by omega
      clear hm
      have hx := byteOf_val v (7 - k)
      rw [show 8 * (7 - k) = m from by have := HM.out; omega] at hx
      have HX := hid hx
      clear hx
      go_wp2_with (at_builtin; refine wpList_append_own _ rfl _ _ 22 rfl base 5 i0 (.int .u8 0) 1 1 Try.underlying22 hi hz0 hz1 hz2 rfl (by decide) _ _ _ rfl (hrow.alloc _) ⟨wr.heap.size, 0, none⟩ 1 1 [.int .u8 (v / 2 ^ m % 256)] rfl rfl ?c1 ?c2 ?c3 ?c4 ?c5 ?_)
      case c1 =>
        intro j u hj
        match j, hj with
        | 0, hj => simp at hj; subst hj; simp [Addr.add]
      case c2 => intro u hu; simp at hu; subst hu; rfl
      case c3 => unfold maxLen; omega
      case c4 => omega
      case c5 => have := hbel.size; simp; omega
      intro v' w1 hown' hgrow _
      obtain ⟨A2, c2, rfl⟩ := own_slice hown'
      rw [← HX.out, bytes_one, List.append_assoc, ← enc_take v k hlt] at hown'
      have hb1 : Below base w w1 := (hbel.alloc (by have := hbel.size; omega) _).grown hgrow (by have := hbel.size; simp; omega) (fun g hg => (hrow.lt g hg).1)
      have HO : Hid (OwnsB 5 w1 base A2 c2 (l ++ (Pk.enc v).take (k + 1))) := by
        refine ⟨?_, ?_⟩
        · intro x hx
          rw [enc_take v k hlt, ← List.append_assoc] at hx
          rcases List.mem_append.1 hx with hx | hx
          · exact HR.out.1 x hx
          · simp at hx; subst hx; exact Pk.byteOf_lt _ _
        · rw [show (l ++ (Pk.enc v).take (k + 1)).length = l.length + k + 1 from by rw [List.length_append, List.length_take, Pk.enc_length]; omega]
          exact hown'
      clear hgrow hown' hrow
      have HB := hid hb1
      clear hb1 hbel
      go_wp2
      go_roundw
      case rel => exact ⟨k + 1, A2, c2, by omega, by rw [← HM.out]; go_num, rfl, HO.out, HB.out⟩
      case measure => simp [intOf]; omega
    · obtain rfl : k = 8 := by omega
      have HO : Hid (OwnsB 5 wr base A1 c1 (l ++ Pk.enc v)) := by
        have e : (Pk.enc v).take 8 = Pk.enc v := rfl
        have h1 := HR.out.1
        rw [e] at h1 hrow
        exact ⟨h1, by rw [show (l ++ Pk.enc v).length = l.length + 8 from by rw [List.length_append, Pk.enc_length]]; exact hrow⟩
      clear hrow
      go_wp2
      go_ret
      exact ⟨A1, c1, rfl, HO.out, hbel⟩
set_option maxHeartbeats 400000 in
theorem fresh_any (B : Nat) (A : Option Addr) (c : Nat) (l : List Nat) (r : Nat) (hl : l.length + r ≤ 140737488355000) (w : World) (h : IsBytes w B A l) (hB : B ≤ w.heap.size) (hn : A = none → c = 0) :
    Calls Try.prog 39 #[.slice A l.length c, .int .i64 (r : Int)] w fun e w' => ∃ A' c', e = .returned (.slice A' l.length c') ∧ OwnsB 5 w' w.heap.size A' c' l ∧ Below w.heap.size w w' := by
  obtain ⟨i0, hi, hz0, hz1, hz2⟩ := info_parts info_u8
  go_enter Try.func39, Try.ntmps39
  go_wp2_with (at_make; refine wpList_make_own _ rfl _ _ 22 rfl w.heap.size 5 i0 (.int .u8 0) 1 Try.underlying22 hi hz0 hz1 .i64 .i64 ((l.length : Int) + r) (l.length + r) rfl rfl (by omega) ?c1 ?c2 (Nat.le_refl _) ?_)
  case c1 => rw [hz2]; omega
  case c2 => unfold maxLen; omega
  intro w1 hown hgrow
  have hrow : OwnsB 5 w1 w.heap.size (some ⟨w.heap.size, 0, none⟩) (l.length + r) [] := ⟨by simp, hown⟩
  have hbel : Below w.heap.size w w1 := (Below.refl _ _).grown hgrow (Nat.le_refl _) (fun g hg => by cases hg)
  have hs : IsBytes w1 w.heap.size A l := (h.more hB).below hbel
  clear hown hgrow
  go_wp2_with (at_builtin; refine wpList_append_bytesN rfl _ _ 22 rfl w.heap.size 5 i0 Try.underlying22 hi hz0 hz1 hz2 (some ⟨w.heap.size, 0, none⟩) (l.length + r) [] 0 rfl rfl hrow w.heap.size A c l l.length rfl rfl hn hs l (List.nil_append _) (by omega) hbel.size ?_)
  intro A3 c3 w2 hown2 hgrow
  have hb2 : Below w.heap.size w w2 := hbel.trans hgrow
  clear hgrow hrow hbel hs
  go_wp2
  go_ret
  exact ⟨A3, c3, rfl, hown2, hb2⟩

set_option maxHeartbeats 400000 in
theorem packInt_any (B : Nat) (A : Option Addr) (c : Nat) (l : List Nat) (v : Int) (hv : InInt v) (hl : l.length ≤ 140737488354000) (w : World) (h : IsBytes w B A l) (hB : B ≤ w.heap.size) (hn : A = none → c = 0) :
    Calls Try.prog 12 #[.slice A l.length c, .int .i64 v] w fun e w' => ∃ A' c', e = .returned (.slice A' (l.length + 8) c') ∧ OwnsB 5 w' w.heap.size A' c' (l ++ Pk.enc v) ∧ Below w.heap.size w w' := by
  go_enter Try.func12, Try.ntmps12
  go_wp2_with fail
  refine (fresh_any B A c l 8 (by omega) _ h hB hn).mono ?_
  rintro e w1 ⟨A1, c1, rfl, hown, hbel⟩
  go_wp2_with fail
  refine (put_any w.heap.size A1 c1 l v hv (by omega) _ hown hbel.size).mono ?_
  rintro e w2 ⟨A2, c2, rfl, hown2, hbel2⟩
  go_wp2
  go_ret
  exact ⟨A2, c2, rfl, hown2, hbel.trans hbel2⟩

set_option maxHeartbeats 400000 in
theorem packBlob_any (B : Nat) (A : Option Addr) (c : Nat) (l : List Nat) (B' : Nat) (A' : Option Addr) (c' : Nat) (m : List Nat) (hl : l.length + m.length ≤ 140737488354000) (w : World) (h : IsBytes w B A l) (hB : B ≤ w.heap.size) (hn : A = none → c = 0)
    (h' : IsBytes w B' A' m) (hB' : B' ≤ w.heap.size) (hn' : A' = none → c' = 0) :
    Calls Try.prog 13 #[.slice A l.length c, .slice A' m.length c'] w fun e w' => ∃ A2 c2, e = .returned (.slice A2 (l.length + 8 + m.length) c2) ∧ OwnsB 5 w' w.heap.size A2 c2 (l ++ (Pk.enc m.length ++ m)) ∧ Below w.heap.size w w' := by
  obtain ⟨i0, hi, hz0, hz1, hz2⟩ := info_parts info_u8
  have hf := fun w' => fresh_any B A c l (8 + m.length) (by omega) w'
  rw [show (((8 + m.length : Nat) : Int)) = 8 + (m.length : Int) from by omega] at hf
  have HF := hid hf
  clear hf
  go_enter Try.func13, Try.ntmps13
  go_wp2_with fail
  refine (HF.out _ h hB hn).mono ?_
  rintro e w1 ⟨A1, c1, rfl, hown, hbel⟩
  go_wp2_with fail
  refine (put_any w.heap.size A1 c1 l (m.length : Int) (by unfold InInt; omega) (by omega) _ hown hbel.size).mono ?_
  rintro e w2 ⟨A3, c3, rfl, hown2, hbel2⟩
  have hb2 : Below w.heap.size w w2 := hbel.trans hbel2
  have hs : IsBytes w2 w.heap.size A' m := (h'.more hB').below hb2
  have hlen : (l ++ Pk.enc m.length).length = l.length + 8 := by rw [List.length_append, Pk.enc_length]
  have HL := hid hlen
  clear hbel hbel2 hown hlen
  go_wp2_with (at_builtin; refine wpList_append_bytesN rfl _ _ 22 rfl w.heap.size 5 i0 Try.underlying22 hi hz0 hz1 hz2 A3 c3 (l ++ Pk.enc m.length) (l.length + 8) HL.out rfl hown2 w.heap.size A' c' m m.length rfl rfl hn' hs (l ++ (Pk.enc m.length ++ m)) (List.append_assoc _ _ _) (by omega) hb2.size ?_)
  intro A4 c4 w3 hown3 hgrow
  have hb3 : Below w.heap.size w w3 := hb2.trans hgrow
  clear hgrow hb2 hs hown2
  go_wp2
  go_ret
  exact ⟨A4, c4, rfl, hown3, hb3⟩
set_option maxHeartbeats 400000 in
theorem packInts_any (B : Nat) (A : Option Addr) (c : Nat) (l : List Nat) (B' : Nat) (A' : Option Addr) (c' : Nat) (m : List Int) (hl : l.length + 8 * m.length ≤ 140737488354000) (w : World) (h : IsBytes w B A l) (hB : B ≤ w.heap.size) (hn : A = none → c = 0)
    (h' : IsInts w B' A' m) (hB' : B' ≤ w.heap.size) :
    Calls Try.prog 14 #[.slice A l.length c, .slice A' m.length c'] w fun e w' => ∃ A2 c2, e = .returned (.slice A2 (l.length + 8 + 8 * m.length) c2) ∧ OwnsB 5 w' w.heap.size A2 c2 (l ++ (Pk.enc m.length ++ Pk.encs m)) ∧ Below w.heap.size w w' := by
  have hf := fun w' => fresh_any B A c l (8 + 8 * m.length) (by omega) w'
  rw [show (((8 + 8 * m.length : Nat) : Int)) = 8 + 8 * (m.length : Int) from by omega] at hf
  have HF := hid hf
  clear hf
  go_enter Try.func14, Try.ntmps14
  go_wp2_with fail
  refine (HF.out _ h hB hn).mono ?_
  rintro e w1 ⟨A1, c1, rfl, hown, hbel⟩
  go_wp2_with fail
  refine (put_any w.heap.size A1 c1 l (m.length : Int) (by unfold InInt; omega) (by omega) _ hown hbel.size).mono ?_
  rintro e w2 ⟨A3, c3, rfl, hown2, hbel2⟩
  have hb2 : Below w.heap.size w w2 := hbel.trans hbel2
  clear hbel hbel2 hown
  go_wp2_with fail
  go_loopw [5, 19] (fun b i wr => ∃ k : Nat, ∃ A5 : Option Addr, ∃ c5 : Nat, k ≤ m.length ∧ i = .int .i64 k ∧ b = .slice A5 (l.length + 8 + 8 * k) c5 ∧ OwnsB 5 wr w.heap.size A5 c5 (l ++ (Pk.enc m.length ++ Pk.encs (m.take k))) ∧ Below w.heap.size w wr) (fun _ i _ => m.length - (intOf i).toNat)
  case atStart => exact ⟨0, A3, c3, by omega, rfl, rfl, by simpa [Pk.encs] using hown2, hb2⟩
  case round =>
    clear hown2 hb2
    obtain ⟨k, A5, c5, hk, rfl, rfl, hown, hbel⟩ := hrel
    have hlen : (l ++ (Pk.enc m.length ++ Pk.encs (m.take k))).length = l.length + 8 + 8 * k := by
      rw [List.length_append, List.length_append, Pk.enc_length, Pk.encs_length, List.length_take]; omega
    have HL := hid hlen
    clear hlen
    by_cases hlt : k < m.length
    · have h1 := (h'.more hB').below hbel
      obtain ⟨b, off, rfl, _, hc⟩ := h1.cells k hlt
      have hck := hc k hlt
      have hv := h1.small m[k] (List.getElem_mem _)
      have C := put_any w.heap.size A5 c5 (l ++ (Pk.enc m.length ++ Pk.encs (m.take k))) m[k] hv (by have := HL.out; omega) wr hown hbel.size
      rw [HL.out] at C
      have HC := hid C
      have hv1 := hv.1
      have hv2 := hv.2
      clear hc h1 C hown hv
      go_wp2_with fail
      refine HC.out.mono ?_
      rintro e w3 ⟨A6, c6, rfl, hown3, hbel3⟩
      rw [List.append_assoc, List.append_assoc, ← Pk.encs_snoc, ← List.take_succ_eq_append_getElem hlt] at hown3
      have hb3 : Below w.heap.size w w3 := hbel.trans hbel3
      clear hbel3 HC
      have HB := hid hb3
      clear hb3 hbel
      go_wp2_with fail
      go_roundw
      case rel => exact ⟨k + 1, A6, c6, by omega, by go_num, by rw [show l.length + 8 + 8 * (k + 1) = l.length + 8 + 8 * k + 8 from by omega], hown3, HB.out⟩
      case measure => simp [intOf]; omega
    · obtain rfl : k = m.length := by omega
      rw [List.take_length] at hown
      go_wp2_with fail
      go_ret
      exact ⟨A5, c5, rfl, hown, hbel⟩
end Go.Proofs.Ytdmghnfnmgkigaa
