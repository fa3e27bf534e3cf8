/- The walks through the sums of the program and of the document's answer: each returns what the plain function on numbers gives; the world stays. -/
import Derived.Test.YtmaebemhephcmaaDoorRows
import Derived.Test.YtmaebemhephcmaaDoorCrc
import Derived.Test.YtmaebemhephcmaaDoorMem
namespace Go.Proofs.YtmaebemhephcmaaDoor
open Go.RowKit

theorem and_one (r : Nat) (h : r < 4294967296) : bits .and .u32 (r : Int) 1 = ((r % 2 : Nat) : Int) := by
  have := u32_and_nat r 1 h (by omega)
  rw [Nat.and_one_is_mod] at this
  exact this
theorem xor_poly (r : Nat) (h : r < 4294967296) : bits .xor .u32 ((r : Int) / 2) 2197175160 = ((r / 2 ^^^ 2197175160 : Nat) : Int) := by
  have := u32_xor_nat (r / 2) 2197175160 (by omega) (by omega)
  exact this

set_option maxHeartbeats 400000 in
theorem process_any (r c : Nat) (hr : r < 4294967296) (hc : c < 256) (w : World) :
    Calls Tryd.prog 98 #[.int .u32 r, .int .u8 c] w fun e w' => e = .returned (.int .u32 (Crc.byte r c : Nat)) ∧ w = w' := by
  have hx : bits .xor .u32 (r : Int) (c : Int) = ((r ^^^ c : Nat) : Int) := u32_xor_nat r c hr (by omega)
  have HX := hid hx
  clear hx
  go_enter Tryd.func98, Tryd.ntmps98
  go_wp2
  go_loop [0, 10] (fun x i => ∃ k y : Nat, k ≤ 8 ∧ y < 4294967296 ∧ i = .int .i64 k ∧ x = .int .u32 (y : Int) ∧ Hid (Crc.steps (8 - k) y = Crc.byte r c)) (fun _ i => 8 - (intOf i).toNat)
  case atStart => exact ⟨0, r ^^^ c, by omega, Crc.xor_lt r c hr (by omega), rfl, by rw [HX.out], hid rfl⟩
  case round =>
    obtain ⟨k, y, hk, hy, rfl, rfl, hs⟩ := hrel
    by_cases hlt : k < 8
    · have ha := and_one y hy
      by_cases ho : y % 2 = 1
      · have hb : (bits .and .u32 (y : Int) 1 == 1) = true := by rw [ha, ho]; rfl
        have HO := hid ho
        clear ha ho
        go_wp2
        go_round
        case rel => exact ⟨k + 1, y / 2 ^^^ 2197175160, by omega, Crc.xor_lt _ _ (by omega) (by omega), by go_num, by rw [xor_poly y hy], by
          have e := hs.out
          rw [show 8 - k = (8 - (k + 1)) + 1 from by omega] at e
          simp only [Crc.steps] at e
          rw [show Crc.step y = y / 2 ^^^ 2197175160 from by unfold Crc.step; rw [if_pos HO.out]] at e
          exact hid e⟩
        case measure => simp [intOf]; omega
      · have hb : (bits .and .u32 (y : Int) 1 == 1) = false := by rw [ha, show y % 2 = 0 by omega]; rfl
        have HO := hid ho
        clear ha ho
        go_wp2
        go_round
        case rel => exact ⟨k + 1, y / 2, by omega, by omega, by go_num, by go_num, by
          have e := hs.out
          rw [show 8 - k = (8 - (k + 1)) + 1 from by omega] at e
          simp only [Crc.steps] at e
          rw [show Crc.step y = y / 2 from by unfold Crc.step; rw [if_neg HO.out]] at e
          exact hid e⟩
        case measure => simp [intOf]; omega
    · obtain rfl : k = 8 := by omega
      have e : y = Crc.byte r c := hs.out
      subst e
      go_wp2
      go_ret
      exact ⟨rfl, rfl⟩
theorem cpl_walk (r : Nat) (h : r < 4294967296) : bits .xor .u32 (IntKind.max .u32) (r : Int) = (Crc.cpl r : Int) := by
  have h1 : (4294967295 : Nat) < 4294967296 := by omega
  exact u32_xor_nat 4294967295 r h1 h

set_option maxHeartbeats 400000 in
theorem more_any (s : Nat) (hs : s < 4294967296) (B : Nat) (A : Option Addr) (c : Nat) (l : List Nat) (hm : l.length ≤ maxLen) (w : World) (hl : IsBytes w B A l) :
    Calls Tryd.prog 86 #[.int .u32 s, .slice A l.length c] w fun e w' => e = .returned (.int .u32 (Crc.more s l : Nat)) ∧ w = w' := by
  unfold maxLen at hm
  have hx := cpl_walk s hs
  have HX := hid hx
  have hc := Crc.cpl_lt s hs
  clear hx
  go_enter Tryd.func86, Tryd.ntmps86
  go_wp2
  go_loop [5, 12] (fun x i => ∃ k y : Nat, k ≤ l.length ∧ y < 4294967296 ∧ i = .int .i64 k ∧ x = .int .u32 (y : Int) ∧ Hid (Crc.feed y (l.drop k) = Crc.feed (Crc.cpl s) l)) (fun _ i => l.length - (intOf i).toNat)
  case atStart => exact ⟨0, Crc.cpl s, by omega, hc, rfl, by rw [HX.out], hid rfl⟩
  case round =>
    obtain ⟨k, y, hk, hy, rfl, rfl, hs⟩ := hrel
    by_cases hlt : k < l.length
    · obtain ⟨b, off, rfl, hb, hcell⟩ := hl.cells k hlt
      have hck := hcell k hlt
      have h8 : l[k] < 256 := hl.small _ (List.getElem_mem hlt)
      clear hcell
      go_wp2_with (go_at_call 98; refine (process_any y l[k] hy h8 _).mono ?_; rintro e w' ⟨rfl, rfl⟩)
      go_round
      case rel => exact ⟨k + 1, Crc.byte y l[k], by omega, Crc.byte_lt _ _ hy h8, by go_num, rfl, by
        have e := hs.out
        rw [List.drop_eq_getElem_cons hlt] at e
        exact hid e⟩
      case measure => simp [intOf]; omega
    · obtain rfl : k = l.length := by omega
      have e : y = Crc.feed (Crc.cpl s) l := by have e := hs.out; rw [List.drop_length] at e; exact e
      have hz := cpl_walk y hy
      have HZ := hid hz
      have HE := hid e
      clear hz e
      go_wp2
      go_ret
      exact ⟨by rw [HZ.out, HE.out]; rfl, rfl⟩
set_option maxHeartbeats 400000 in
theorem of_any (B : Nat) (A : Option Addr) (c : Nat) (l : List Nat) (hm : l.length ≤ maxLen) (w : World) (hl : IsBytes w B A l) :
    Calls Tryd.prog 87 #[.slice A l.length c] w fun e w' => e = .returned (.int .u32 (Crc.more 0 l : Nat)) ∧ w = w' := by
  go_enter Tryd.func87, Tryd.ntmps87
  go_wp2_with (go_at_call 86; refine (more_any 0 (by omega) B A c l hm _ hl).mono ?_; rintro e w' ⟨rfl, rfl⟩)
  go_ret
  exact ⟨rfl, rfl⟩

set_option maxHeartbeats 400000 in
theorem ref_more_any (s : Nat) (hs : s < 4294967296) (B : Nat) (A : Option Addr) (c : Nat) (l : List Nat) (hm : l.length ≤ maxLen) (w : World) (hl : IsBytes w B A l) :
    Calls Tryd.prog 69 #[.int .u32 s, .slice A l.length c] w fun e w' => e = .returned (.int .u32 (Crc.more s l : Nat)) ∧ w = w' := by
  unfold maxLen at hm
  have hx := cpl_walk s hs
  have HX := hid hx
  have hc := Crc.cpl_lt s hs
  clear hx
  go_enter Tryd.func69, Tryd.ntmps69
  go_wp2
  go_loop [5, 6] (fun x i => ∃ k y : Nat, k ≤ l.length ∧ y < 4294967296 ∧ i = .int .i64 k ∧ x = .int .u32 (y : Int) ∧ Hid (Crc.feed y (l.drop k) = Crc.feed (Crc.cpl s) l)) (fun _ i => l.length - (intOf i).toNat)
  case atStart => exact ⟨0, Crc.cpl s, by omega, hc, rfl, by rw [HX.out], hid rfl⟩
  case round =>
    obtain ⟨k, y, hk, hy, rfl, rfl, hs⟩ := hrel
    by_cases hlt : k < l.length
    · obtain ⟨b, off, rfl, hb, hcell⟩ := hl.cells k hlt
      have hck := hcell k hlt
      have h8 : l[k] < 256 := hl.small _ (List.getElem_mem hlt)
      have h8y : bits .xor .u32 (y : Int) (l[k] : Nat) = ((y ^^^ l[k] : Nat) : Int) := u32_xor_nat y _ hy (by omega)
      have H8y := hid h8y
      clear hcell h8y
      go_wp2
      go_loop [5, 7] (fun x i => ∃ j z : Nat, j ≤ 8 ∧ z < 4294967296 ∧ i = .int .i64 j ∧ x = .int .u32 (z : Int) ∧ Hid (Crc.steps (8 - j) z = Crc.byte y l[k])) (fun _ i => 8 - (intOf i).toNat)
      case atStart => exact ⟨0, y ^^^ l[k], by omega, Crc.xor_lt _ _ hy (by omega), rfl, by rw [H8y.out], hid rfl⟩
      case round =>
        obtain ⟨j, z, hj, hz, rfl, rfl, hst⟩ := hrel
        by_cases hj8 : j < 8
        · by_cases ho : z % 2 = 1
          · have hb : ((z : Int) % 2 == 1) = true := by rw [beq_iff_eq]; omega
            have HO := hid ho
            clear ho
            go_wp2
            go_round
            case rel => exact ⟨j + 1, z / 2 ^^^ 2197175160, by omega, Crc.xor_lt _ _ (by omega) (by omega), by go_num, by rw [xor_poly z hz], by
              have e := hst.out
              rw [show 8 - j = (8 - (j + 1)) + 1 from by omega] at e
              simp only [Crc.steps] at e
              rw [show Crc.step z = z / 2 ^^^ 2197175160 from by unfold Crc.step; rw [if_pos HO.out]] at e
              exact hid e⟩
            case measure => simp [intOf]; omega
          · have hb : ((z : Int) % 2 == 1) = false := by rw [beq_eq_false_iff_ne]; omega
            have HO := hid ho
            clear ho
            go_wp2
            go_round
            case rel => exact ⟨j + 1, z / 2, by omega, by omega, by go_num, by go_num, by
              have e := hst.out
              rw [show 8 - j = (8 - (j + 1)) + 1 from by omega] at e
              simp only [Crc.steps] at e
              rw [show Crc.step z = z / 2 from by unfold Crc.step; rw [if_neg HO.out]] at e
              exact hid e⟩
            case measure => simp [intOf]; omega
        · obtain rfl : j = 8 := by omega
          have e : z = Crc.byte y l[k] := hst.out
          subst e
          go_wp2
          go_round
          case rel => exact ⟨k + 1, Crc.byte y l[k], by omega, Crc.byte_lt _ _ hy h8, by go_num, rfl, by
            have e := hs.out
            rw [List.drop_eq_getElem_cons hlt] at e
            exact hid e⟩
          case measure => simp [intOf]; omega
    · obtain rfl : k = l.length := by omega
      have e : y = Crc.feed (Crc.cpl s) l := by have e := hs.out; rw [List.drop_length] at e; exact e
      have hz := cpl_walk y hy
      have HZ := hid hz
      have HE := hid e
      clear hz e
      go_wp2
      go_ret
      exact ⟨by rw [HZ.out, HE.out]; rfl, rfl⟩
set_option maxHeartbeats 400000 in
theorem ref_of_any (B : Nat) (A : Option Addr) (c : Nat) (l : List Nat) (hm : l.length ≤ maxLen) (w : World) (hl : IsBytes w B A l) :
    Calls Tryd.prog 70 #[.slice A l.length c] w fun e w' => e = .returned (.int .u32 (Crc.more 0 l : Nat)) ∧ w = w' := by
  go_enter Tryd.func70, Tryd.ntmps70
  go_wp2_with (go_at_call 69; refine (ref_more_any 0 (by omega) B A c l hm _ hl).mono ?_; rintro e w' ⟨rfl, rfl⟩)
  go_ret
  exact ⟨rfl, rfl⟩
end Go.Proofs.YtmaebemhephcmaaDoor
