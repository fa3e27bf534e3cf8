/- The walks through what package frame reads: a number of four bytes, a frame. -/
import Derived.Test.YtmaebemhephcmaaDoorFramePut
namespace Go.Proofs.YtmaebemhephcmaaDoor.Frame
open Go.RowKit
set_option maxRecDepth 100000

theorem get_ret {A : Option Addr} {n m c : Nat} {a : Int} {k : Nat} (h : n = m) (ha : a = (k : Int)) : Ending.returned (.tuple #[.slice A n c, .int .i64 a, .int .i64 0]) = .returned (.tuple #[.slice A m c, .int .i64 (k : Int), .int .i64 ((0 : Nat) : Int)]) := by rw [h, ha]; rfl
theorem or4 (a b c d : Nat) (hb : b < 256) (hc : c < 256) (hd : d < 256) : a * 16777216 ||| b * 65536 ||| c * 256 ||| d = ((a * 256 + b) * 256 + c) * 256 + d := by
  have h1 : a * 16777216 ||| b * 65536 = a * 16777216 + b * 65536 := by
    rw [show a * 16777216 = 2 ^ 24 * a from by omega, ← Nat.two_pow_add_eq_or_of_lt (show b * 65536 < 2 ^ 24 by omega)]
  have h2 : a * 16777216 + b * 65536 ||| c * 256 = a * 16777216 + b * 65536 + c * 256 := by
    rw [show a * 16777216 + b * 65536 = 2 ^ 16 * (a * 256 + b) from by omega, ← Nat.two_pow_add_eq_or_of_lt (show c * 256 < 2 ^ 16 by omega)]
  have h3 : a * 16777216 + b * 65536 + c * 256 ||| d = a * 16777216 + b * 65536 + c * 256 + d := by
    rw [show a * 16777216 + b * 65536 + c * 256 = 2 ^ 8 * (a * 65536 + b * 256 + c) from by omega, ← Nat.two_pow_add_eq_or_of_lt (show d < 2 ^ 8 by omega)]
  rw [h1, h2, h3]
  omega

set_option maxHeartbeats 1600000 in
theorem read_any (B b off c n : Nat) (l : List Nat) (hn : l.length = n) (h4 : 4 ≤ n) (w : World) (h : IsBytes w B (some ⟨b, off, none⟩) l) :
    Calls Tryd.prog 72 #[.slice (some ⟨b, off, none⟩) n c] w fun e w' => e = .returned (.int .u32 (Fr.n4 (l.take 4) : Nat)) ∧ ∃ j, w' = w.drewN j := by
  obtain ⟨x0, x1, x2, x3, t, rfl⟩ : ∃ x0 x1 x2 x3 t, l = x0 :: x1 :: x2 :: x3 :: t := by
    match l, hn, h4 with
    | x0 :: x1 :: x2 :: x3 :: t, _, _ => exact ⟨x0, x1, x2, x3, t, rfl⟩
    | [], hn, h4 => simp at hn; omega
    | [_], hn, h4 => simp at hn; omega
    | [_, _], hn, h4 => simp at hn; omega
    | [_, _, _], hn, h4 => simp at hn; omega
  have s0 := h.small x0 (by simp)
  have s1 := h.small x1 (by simp)
  have s2 := h.small x2 (by simp)
  have s3 := h.small x3 (by simp)
  obtain ⟨b', off', e, _, hc⟩ := h.cells 0 (by simp)
  injection e with e
  injection e with e1 e2
  subst e1
  subst e2
  have c0 : w.cell? ⟨b, off, none⟩ = some (.int .u8 (x0 : Nat)) := hc 0 (by simp)
  have c1 : w.cell? ⟨b, off + 1, none⟩ = some (.int .u8 (x1 : Nat)) := hc 1 (by simp)
  have c2 : w.cell? ⟨b, off + 2, none⟩ = some (.int .u8 (x2 : Nat)) := hc 2 (by simp)
  have c3 : w.cell? ⟨b, off + 3, none⟩ = some (.int .u8 (x3 : Nat)) := hc 3 (by simp)
  have i0 : (0 : Int) < (n : Int) := by omega
  have i1 : (1 : Int) < (n : Int) := by omega
  have i2 : (2 : Int) < (n : Int) := by omega
  have i3 : (3 : Int) < (n : Int) := by omega
  have hr := Fr.n4_four x0 x1 x2 x3
  have ho := or4 x0 x1 x2 x3 s1 s2 s3
  have HR : Hid (Fr.n4 ((x0 :: x1 :: x2 :: x3 :: t).take 4) = (x0 * 16777216 ||| x1 * 65536 ||| x2 * 256 ||| x3)) := by
    show _ = _
    rw [ho, ← hr]; rfl
  have b1 : x0 * 16777216 ||| x1 * 65536 < 2 ^ 32 := Nat.or_lt_two_pow (by omega) (by omega)
  have b2 : x0 * 16777216 ||| x1 * 65536 ||| x2 * 256 < 2 ^ 32 := Nat.or_lt_two_pow b1 (by omega)
  have HO : Hid (bits .or .u32 (bits .or .u32 (bits .or .u32 ((x0 : Int) * 16777216) ((x1 : Int) * 65536)) ((x2 : Int) * 256)) (x3 : Int) = ((x0 * 16777216 ||| x1 * 65536 ||| x2 * 256 ||| x3 : Nat) : Int)) := by
    show _ = _
    rw [show (x0 : Int) * 16777216 = ((x0 * 16777216 : Nat) : Int) from by omega, show (x1 : Int) * 65536 = ((x1 * 65536 : Nat) : Int) from by omega, show (x2 : Int) * 256 = ((x2 * 256 : Nat) : Int) from by omega,
      u32_or_nat _ _ (by omega) (by omega), u32_or_nat _ _ (by omega) (by omega), u32_or_nat _ _ (by omega) (by omega)]
  clear hc h hn b1 b2 hr ho
  go_enter Tryd.func72, Tryd.ntmps72
  go_wp2
  go_quiet (fail)
  go_wp2
  go_ret
  exact ⟨ret_int (by rw [HR.out, ← HO.out]), _, rfl⟩
set_option maxHeartbeats 1600000 in
theorem get_any (B : Nat) (A : Option Addr) (c : Nat) (l : List Nat) (n : Nat) (hn : l.length = n) (hm : n ≤ 140737488355000) (hc : n ≤ c) (w : World) (h : IsBytes w B A l) (hB : B ≤ w.heap.size) (hnil : A = none → c = 0) :
    Calls Tryd.prog 49 #[.slice A n c] w fun e w' => ∃ A' c', e = .returned (.tuple #[.slice A' (Fr.get l).1.length c', .int .i64 ((Fr.get l).2.1 : Nat), .int .i64 ((Fr.get l).2.2 : Nat)]) ∧ OwnsB 5 w' w.heap.size A' c' (Fr.get l).1 ∧ Below w.heap.size w w' := by
  obtain ⟨i0, hi, hz0, hz1, hz2⟩ := info_parts info_u8
  by_cases h8 : n < 8
  · have e : Fr.get l = ([], 0, 1) := by unfold Fr.get; rw [if_pos (by omega)]
    rw [e]
    go_enter Tryd.func49, Tryd.ntmps49
    go_wp2
    go_ret3
    exact ⟨none, 0, rfl, OwnsB.nil _ _ _, Below.refl _ _⟩
  · obtain ⟨b, off, rfl, _, _⟩ := h.cells 0 (by omega)
    have s4 : ∀ x ∈ l.take 4, x < 256 := fun x hx => h.small x (List.mem_of_mem_take hx)
    have s8 : ∀ x ∈ (l.drop 4).take 4, x < 256 := fun x hx => h.small x (List.mem_of_mem_drop (List.mem_of_mem_take hx))
    have hv := Fr.n4_lt (l.take 4) (by rw [List.length_take]; omega) s4
    obtain ⟨v, hve⟩ : ∃ v, v = Fr.n4 (l.take 4) := ⟨_, rfl⟩
    have R0 := hid (fun j => read_any B b off c n l hn (by omega) (w.drewN j) (h.drewN j))
    rw [← hve] at hv R0
    have hd8 := h.from 8
    have hd4 := h.from 4
    have ht4 := h.take 4
    have hq : c = 8 → IsBytes w B (some ⟨b, off, none⟩) (l.drop 8) := fun e => by
      rw [List.drop_of_length_le (by omega)]; exact IsBytes.nil
    by_cases hlong : 65536 < v
    · have e : Fr.get l = ([], 0, 2) := by unfold Fr.get; rw [if_neg (by omega), if_pos (by omega)]
      rw [e]
      clear hve hq hd8 hd4 ht4
      by_cases hc8 : c = 8
      · subst hc8
        go_enter Tryd.func49, Tryd.ntmps49
        go_wp2
        go_quiet ((go_at_call 72; exact Calls.quiet_of (R0.out _)))
        go_wp2
        go_ret3
        exact ⟨none, 0, rfl, OwnsB.nil _ _ _, below_drewN (Below.refl _ _) _⟩
      · go_enter Tryd.func49, Tryd.ntmps49
        go_wp2
        go_quiet ((go_at_call 72; exact Calls.quiet_of (R0.out _)))
        go_wp2
        go_ret3
        exact ⟨none, 0, rfl, OwnsB.nil _ _ _, below_drewN (Below.refl _ _) _⟩
    · by_cases hshort : n - 8 < v
      · have e : Fr.get l = ([], 0, 1) := by unfold Fr.get; rw [if_neg (by omega), if_neg (by omega), if_pos (by omega)]
        rw [e]
        clear hve hq hd8 hd4 ht4
        by_cases hc8 : c = 8
        · subst hc8
          go_enter Tryd.func49, Tryd.ntmps49
          go_wp2
          go_quiet ((go_at_call 72; exact Calls.quiet_of (R0.out _)))
          go_wp2
          go_ret3
          exact ⟨none, 0, rfl, OwnsB.nil _ _ _, below_drewN (Below.refl _ _) _⟩
        · go_enter Tryd.func49, Tryd.ntmps49
          go_wp2
          go_quiet ((go_at_call 72; exact Calls.quiet_of (R0.out _)))
          go_wp2
          go_ret3
          exact ⟨none, 0, rfl, OwnsB.nil _ _ _, below_drewN (Below.refl _ _) _⟩
      · have R4 := hid (fun (w9 : World) (hb9 : Below B w w9) (c4 j : Nat) => read_any B b (off + 4) c4 (n - 4) (l.drop 4) (by rw [List.length_drop]; omega) (by omega) (w9.drewN j) ((hd4.below hb9).drewN j))
        obtain ⟨x, hx⟩ : ∃ x, x = Fr.n4 ((l.drop 4).take 4) := ⟨_, rfl⟩
        obtain ⟨y, hy⟩ : ∃ y, y = Fr.sum (l.take 4) ((l.drop 8).take v) := ⟨_, rfl⟩
        have hl4 : (l.take 4).length = 4 := by rw [List.length_take]; omega
        have hlv : ((l.drop 8).take v).length = v := by rw [List.length_take, List.length_drop]; omega
        have S0 : ∀ o, IsBytes w B (some ⟨b, o, none⟩) (l.drop 8) → ∀ w9, Below B w w9 → ∀ c8 j, Calls Tryd.prog 67 #[.slice (some ⟨b, off, none⟩) 4 c, .slice (some ⟨b, o, none⟩) v c8] (w9.drewN j) fun e w'' => e = .returned (.int .u32 y) ∧ ∃ m, w'' = w9.drewN m := by
          intro o ho w9 hb9 c8 j
          subst hy
          exact (sum_any B _ _ (l.take 4) 4 hl4 _ _ ((l.drop 8).take v) v hlv (by unfold maxLen; omega) (by unfold maxLen; omega) _ ((ht4.below hb9).drewN j) B (((ho.take v).below hb9).drewN j)).mono fun _ _ ⟨h1, h2⟩ => ⟨h1, j, h2.symm⟩
        have HS := hid S0
        rw [← hx] at R4
        have hlv2 := hid hlv
        have hve2 := hid hve
        have hx2 := hid hx
        have hy2 := hid hy
        have hb3 : v ≤ c - 8 := by omega
        have hi4 : (4 : Int) ≤ (n : Int) := by omega
        have hc4 : ¬ c = 4 := by omega
        have hc40 : ¬ c - 4 = 0 := by omega
        have hc4' : 4 ≤ c := by omega
        have hn4' : 4 ≤ n := by omega
        clear S0 hd4 ht4 hl4 hlv hve hx hy s4 s8
        by_cases hsum : x = y
        · have e : Fr.get l = ((l.drop 8).take v, 8 + v, 0) := by
            unfold Fr.get; rw [← hve2.out, if_neg (by omega), if_neg (by omega), if_neg (by omega), ← hx2.out, ← hy2.out, if_neg (by simp [hsum])]
          rw [e]
          have hb : ((x : Int) != (y : Int)) = false := by rw [hsum]; simp
          have HE := hid e
          clear hsum e
          by_cases hc8 : c = 8
          · have q := hq hc8
            clear hd8 hq
            subst hc8
            obtain rfl : v = 0 := by omega
            go_enter Tryd.func49, Tryd.ntmps49
            go_wp2
            go_quiet ((go_at_call 72; exact Calls.quiet_of (R0.out _)))
            go_wp2
            have hb9 : Below B w (w.drewN nq) := below_drewN (Below.refl _ _) nq
            have hb9' : Below w.heap.size w (w.drewN nq) := below_drewN (Below.refl _ _) nq
            obtain ⟨w9, hw9⟩ : ∃ w9, w9 = w.drewN nq := ⟨_, rfl⟩
            rw [← hw9] at hb9 hb9'
            rw [← hw9]
            clear hw9
            go_quiet (first
              | (go_at_call 72; exact Calls.quiet_of (R4.out _ hb9 _ _))
              | (go_at_call 67; exact HS.out _ q _ hb9 _ _))
            have hb10 : Below w.heap.size w (w9.drewN nq) := below_drewN hb9' nq
            have q2 := (q.take 0).below (hb10.mono hB)
            go_wp2_with (at_builtin; refine wpList_append_bytesN rfl _ _ 23 rfl w.heap.size 5 i0 Tryd.underlying23 hi hz0 hz1 hz2 none 0 [] 0 rfl rfl (OwnsB.nil _ _ _) w.heap.size (some ⟨b, off, none⟩) 0 ((l.drop 8).take 0) 0 hlv2.out rfl (fun h => by cases h) (q2.more hB) _ (List.nil_append _) (by omega) hb10.size ?_)
            intro A4 c4 w4 hown4 hgrow
            have hb4 : Below w.heap.size w w4 := hb10.trans hgrow
            clear hgrow q q2
            go_wp2
            go_ret3
            exact ⟨A4, c4, get_ret (by rw [hlv2.out]) (by omega), hown4, hb4⟩
          · have q := hd8
            clear hd8 hq
            go_enter Tryd.func49, Tryd.ntmps49
            go_wp2
            go_quiet ((go_at_call 72; exact Calls.quiet_of (R0.out _)))
            go_wp2
            have hb9 : Below B w (w.drewN nq) := below_drewN (Below.refl _ _) nq
            have hb9' : Below w.heap.size w (w.drewN nq) := below_drewN (Below.refl _ _) nq
            obtain ⟨w9, hw9⟩ : ∃ w9, w9 = w.drewN nq := ⟨_, rfl⟩
            rw [← hw9] at hb9 hb9'
            rw [← hw9]
            clear hw9
            go_quiet (first
              | (go_at_call 72; exact Calls.quiet_of (R4.out _ hb9 _ _))
              | (go_at_call 67; exact HS.out _ q _ hb9 _ _))
            have hb10 : Below w.heap.size w (w9.drewN nq) := below_drewN hb9' nq
            have q2 := (q.take v).below (hb10.mono hB)
            go_wp2_with (at_builtin; refine wpList_append_bytesN rfl _ _ 23 rfl w.heap.size 5 i0 Tryd.underlying23 hi hz0 hz1 hz2 none 0 [] 0 rfl rfl (OwnsB.nil _ _ _) w.heap.size (some ⟨b, off + 8, none⟩) (c - 8) ((l.drop 8).take v) v hlv2.out rfl (fun h => by cases h) (q2.more hB) _ (List.nil_append _) (by omega) hb10.size ?_)
            intro A4 c4 w4 hown4 hgrow
            have hb4 : Below w.heap.size w w4 := hb10.trans hgrow
            clear hgrow q q2
            go_wp2
            go_ret3
            exact ⟨A4, c4, get_ret (by rw [hlv2.out]) (by omega), hown4, hb4⟩
        · have e : Fr.get l = ([], 0, 5) := by
            unfold Fr.get; rw [← hve2.out, if_neg (by omega), if_neg (by omega), if_neg (by omega), ← hx2.out, ← hy2.out, if_pos hsum]
          rw [e]
          have hb : ((x : Int) != (y : Int)) = true := by rw [bne_iff_ne]; omega
          clear hsum e
          by_cases hc8 : c = 8
          · have q := hq hc8
            clear hd8 hq
            subst hc8
            obtain rfl : v = 0 := by omega
            go_enter Tryd.func49, Tryd.ntmps49
            go_wp2
            go_quiet ((go_at_call 72; exact Calls.quiet_of (R0.out _)))
            go_wp2
            have hb9 : Below B w (w.drewN nq) := below_drewN (Below.refl _ _) nq
            have hb9' : Below w.heap.size w (w.drewN nq) := below_drewN (Below.refl _ _) nq
            obtain ⟨w9, hw9⟩ : ∃ w9, w9 = w.drewN nq := ⟨_, rfl⟩
            rw [← hw9] at hb9 hb9'
            rw [← hw9]
            clear hw9
            go_quiet (first
              | (go_at_call 72; exact Calls.quiet_of (R4.out _ hb9 _ _))
              | (go_at_call 67; exact HS.out _ q _ hb9 _ _))
            go_wp2
            go_ret3
            exact ⟨none, 0, rfl, OwnsB.nil _ _ _, below_drewN hb9' _⟩
          · have q := hd8
            clear hd8 hq
            go_enter Tryd.func49, Tryd.ntmps49
            go_wp2
            go_quiet ((go_at_call 72; exact Calls.quiet_of (R0.out _)))
            go_wp2
            have hb9 : Below B w (w.drewN nq) := below_drewN (Below.refl _ _) nq
            have hb9' : Below w.heap.size w (w.drewN nq) := below_drewN (Below.refl _ _) nq
            obtain ⟨w9, hw9⟩ : ∃ w9, w9 = w.drewN nq := ⟨_, rfl⟩
            rw [← hw9] at hb9 hb9'
            rw [← hw9]
            clear hw9
            go_quiet (first
              | (go_at_call 72; exact Calls.quiet_of (R4.out _ hb9 _ _))
              | (go_at_call 67; exact HS.out _ q _ hb9 _ _))
            go_wp2
            go_ret3
            exact ⟨none, 0, rfl, OwnsB.nil _ _ _, below_drewN hb9' _⟩
/-- the same, what is told said apart -/
theorem get_N (B : Nat) (A : Option Addr) (c : Nat) (l : List Nat) (n : Nat) (hn : l.length = n) (hm : n ≤ 140737488355000) (hc : n ≤ c) (w : World) (h : IsBytes w B A l) (hB : B ≤ w.heap.size) (hnil : A = none → c = 0)
    (p : List Nat) (m e : Nat) (hg : Fr.get l = (p, m, e)) (k : Nat) (hk : p.length = k) (mi ei : Int) (hmi : (m : Int) = mi) (hei : (e : Int) = ei) :
    Calls Tryd.prog 49 #[.slice A n c] w fun x w' => ∃ A' c', x = .returned (.tuple #[.slice A' k c', .int .i64 mi, .int .i64 ei]) ∧ OwnsB 5 w' w.heap.size A' c' p ∧ Below w.heap.size w w' := by
  have C := get_any B A c l n hn hm hc w h hB hnil
  rw [hg] at C
  subst hk
  subst hmi
  subst hei
  exact C
theorem put_N (B : Nat) (A : Option Addr) (c : Nat) (l : List Nat) (n : Nat) (hn : l.length = n) (hl : n ≤ 65536) (w : World) (h : IsBytes w B A l) (hB : B ≤ w.heap.size) (hnil : A = none → c = 0) (k : Nat) (hk : 8 + n = k) :
    Calls Tryd.prog 44 #[.slice A n c] w fun e w' => ∃ A' c', e = .returned (.tuple #[.slice A' k c', .int .i64 0]) ∧ OwnsB 5 w' w.heap.size A' c' (Fr.frame l) ∧ Below w.heap.size w w' := by
  subst hk; exact put_any B A c l n hn hl w h hB hnil
/-- whatever is put: the frame, or nothing and ErrLong -/
theorem put_all (B : Nat) (A : Option Addr) (c : Nat) (l : List Nat) (n : Nat) (hn : l.length = n) (w : World) (h : IsBytes w B A l) (hB : B ≤ w.heap.size) (hnil : A = none → c = 0)
    (p : List Nat) (e : Nat) (hp : putOf l = (p, e)) (k : Nat) (hk : p.length = k) (ei : Int) (hei : (e : Int) = ei) :
    Calls Tryd.prog 44 #[.slice A n c] w fun x w' => ∃ A' c', x = .returned (.tuple #[.slice A' k c', .int .i64 ei]) ∧ OwnsB 5 w' w.heap.size A' c' p ∧ Below w.heap.size w w' := by
  subst hk
  subst hei
  unfold putOf at hp
  by_cases hl : 65536 < l.length
  · rw [if_pos hl] at hp
    injection hp with h1 h2
    subst h1
    subst h2
    refine (put_long A c n (by omega) w).mono ?_
    rintro x w' ⟨rfl, rfl⟩
    exact ⟨none, 0, rfl, OwnsB.nil _ _ _, Below.refl _ _⟩
  · rw [if_neg hl] at hp
    injection hp with h1 h2
    subst h1
    subst h2
    exact put_N B A c l n hn (by omega) w h hB hnil _ (by rw [Fr.frame_length, hn])
end Go.Proofs.YtmaebemhephcmaaDoor.Frame
