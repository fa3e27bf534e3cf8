/- Texts of the proof, one behind the other: FrameRead, MsI, ReadInt, Reader2, MsJ. -/
import Derived.Test.YtpigekbfngalbaaDoorPartAE
import Derived.Test.YtpigekbfngalbaaDoorPartAD
namespace Go.Proofs.YtpigekbfngalbaaDoor.Frame
open Go.RowKit
set_option maxRecDepth 100000

theorem get_ret {A : Option Addr} {n m c : Nat} {a : Int} {k : Nat} (h : n = m) (ha : a = (k : Int)) : Ending.returned (.tuple #[.slice A n c, .int .i64 a, .int .i64 0]) = .returned (.tuple #[.slice A m c, .int .i64 (k : Int), .int .i64 ((0 : Nat) : Int)]) := by rw [h, ha]; rfl
theorem or4 (a b c d : Nat) (hb : b < 256) (hc : c < 256) (hd : d < 256) : a * 16777216 ||| b * 65536 ||| c * 256 ||| d = ((a * 256 + b) * 256 + c) * 256 + d := by
  have h1 : a * 16777216 ||| b * 65536 = a * 16777216 + b * 65536 := by
    rw [show a * 16777216 = 2 ^ 24 * a from by omega, ← Nat.two_pow_add_eq_or_of_lt (show b * 65536 < 2 ^ 24 by omega)]
  have h2 : a * 16777216 + b * 65536 ||| c * 256 = a * 16777216 + b * 65536 + c * 256 := by
    rw [show a * 16777216 + b * 65536 = 2 ^ 16 * (a * 256 + b) from by omega, ← Nat.two_pow_add_eq_or_of_lt (show c * 256 < 2 ^ 16 by omega)]
  have h3 : a * 16777216 + b * 65536 + c * 256 ||| d = a * 16777216 + b * 65536 + c * 256 + d := by
    rw [show a * 16777216 + b * 65536 + c * 256 = 2 ^ 8 * (a * 65536 + b * 256 + c) from by omega, ← Nat.two_pow_add_eq_or_of_lt (show d < 2 ^ 8 by omega)]
  rw [h1, h2, h3]
  omega

set_option maxHeartbeats 1600000 in
theorem read_any (B b off c n : Nat) (l : List Nat) (hn : l.length = n) (h4 : 4 ≤ n) (w : World) (h : IsBytes w B (some ⟨b, off, none⟩) l) :
    Calls Tryd.prog 72 #[.slice (some ⟨b, off, none⟩) n c] w fun e w' => e = .returned (.int .u32 (Fr.n4 (l.take 4) : Nat)) ∧ ∃ j, w' = w.drewN j := by
  obtain ⟨x0, x1, x2, x3, t, rfl⟩ : ∃ x0 x1 x2 x3 t, l = x0 :: x1 :: x2 :: x3 :: t := by
    match l, hn, h4 with
    | x0 :: x1 :: x2 :: x3 :: t, _, _ => exact ⟨x0, x1, x2, x3, t, rfl⟩
    | [], hn, h4 => simp at hn; omega
    | [_], hn, h4 => simp at hn; omega
    | [_, _], hn, h4 => simp at hn; omega
    | [_, _, _], hn, h4 => simp at hn; omega
  have s0 := h.small x0 (by simp)
  have s1 := h.small x1 (by simp)
  have s2 := h.small x2 (by simp)
  have s3 := h.small x3 (by simp)
  obtain ⟨b', off', e, _, hc⟩ := h.cells 0 (by simp)
  injection e with e
  injection e with e1 e2
  subst e1
  subst e2
  have c0 : w.cell? ⟨b, off, none⟩ = some (.int .u8 (x0 : Nat)) := hc 0 (by simp)
  have c1 : w.cell? ⟨b, off + 1, none⟩ = some (.int .u8 (x1 : Nat)) := hc 1 (by simp)
  have c2 : w.cell? ⟨b, off + 2, none⟩ = some (.int .u8 (x2 : Nat)) := hc 2 (by simp)
  have c3 : w.cell? ⟨b, off + 3, none⟩ = some (.int .u8 (x3 : Nat)) := hc 3 (by simp)
  have i0 : (0 : Int) < (n : Int) := by omega
  have i1 : (1 : Int) < (n : Int) := by omega
  have i2 : (2 : Int) < (n : Int) := by omega
  have i3 : (3 : Int) < (n : Int) := by omega
  have hr := Fr.n4_four x0 x1 x2 x3
  have ho := or4 x0 x1 x2 x3 s1 s2 s3
  have HR : Hid (Fr.n4 ((x0 :: x1 :: x2 :: x3 :: t).take 4) = (x0 * 16777216 ||| x1 * 65536 ||| x2 * 256 ||| x3)) := by
    show _ = _
    rw [ho, ← hr]; rfl
  have b1 : x0 * 16777216 ||| x1 * 65536 < 2 ^ 32 := Nat.or_lt_two_pow (by omega) (by omega)
  have b2 : x0 * 16777216 ||| x1 * 65536 ||| x2 * 256 < 2 ^ 32 := Nat.or_lt_two_pow b1 (by omega)
  have HO : Hid (bits .or .u32 (bits .or .u32 (bits .or .u32 ((x0 : Int) * 16777216) ((x1 : Int) * 65536)) ((x2 : Int) * 256)) (x3 : Int) = ((x0 * 16777216 ||| x1 * 65536 ||| x2 * 256 ||| x3 : Nat) : Int)) := by
    show _ = _
    rw [show (x0 : Int) * 16777216 = ((x0 * 16777216 : Nat) : Int) from by omega, show (x1 : Int) * 65536 = ((x1 * 65536 : Nat) : Int) from by omega, show (x2 : Int) * 256 = ((x2 * 256 : Nat) : Int) from by omega,
      u32_or_nat _ _ (by omega) (by omega), u32_or_nat _ _ (by omega) (by omega), u32_or_nat _ _ (by omega) (by omega)]
  clear hc h hn b1 b2 hr ho
  go_enter Tryd.func72, Tryd.ntmps72
  go_wp2
  go_quiet (fail)
  go_wp2
  go_ret
  exact ⟨ret_int (by rw [HR.out, ← HO.out]), _, rfl⟩
set_option maxHeartbeats 1600000 in
theorem get_any (B : Nat) (A : Option Addr) (c : Nat) (l : List Nat) (n : Nat) (hn : l.length = n) (hm : n ≤ 140737488355000) (hc : n ≤ c) (w : World) (h : IsBytes w B A l) (hB : B ≤ w.heap.size) (hnil : A = none → c = 0) :
    Calls Tryd.prog 49 #[.slice A n c] w fun e w' => ∃ A' c', e = .returned (.tuple #[.slice A' (Fr.get l).1.length c', .int .i64 ((Fr.get l).2.1 : Nat), .int .i64 ((Fr.get l).2.2 : Nat)]) ∧ OwnsB 5 w' w.heap.size A' c' (Fr.get l).1 ∧ Below w.heap.size w w' := by
  obtain ⟨i0, hi, hz0, hz1, hz2⟩ := info_parts info_u8
  by_cases h8 : n < 8
  · have e : Fr.get l = ([], 0, 1) := by unfold Fr.get; rw [if_pos (by omega)]
    rw [e]
    go_enter Tryd.func49, Tryd.ntmps49
    go_wp2
    go_ret3
    exact ⟨none, 0, rfl, OwnsB.nil _ _ _, Below.refl _ _⟩
  · obtain ⟨b, off, rfl, _, _⟩ := h.cells 0 (by omega)
    have s4 : ∀ x ∈ l.take 4, x < 256 := fun x hx => h.small x (List.mem_of_mem_take hx)
    have s8 : ∀ x ∈ (l.drop 4).take 4, x < 256 := fun x hx => h.small x (List.mem_of_mem_drop (List.mem_of_mem_take hx))
    have hv := Fr.n4_lt (l.take 4) (by rw [List.length_take]; omega) s4
    obtain ⟨v, hve⟩ : ∃ v, v = Fr.n4 (l.take 4) := ⟨_, rfl⟩
    have R0 := hid (fun j => read_any B b off c n l hn (by omega) (w.drewN j) (h.drewN j))
    rw [← hve] at hv R0
    have hd8 := h.from 8
    have hd4 := h.from 4
    have ht4 := h.take 4
    have hq : c = 8 → IsBytes w B (some ⟨b, off, none⟩) (l.drop 8) := fun e => by
      rw [List.drop_of_length_le (by omega)]; exact IsBytes.nil
    by_cases hlong : 65536 < v
    · have e : Fr.get l = ([], 0, 2) := by unfold Fr.get; rw [if_neg (by omega), if_pos (by omega)]
      rw [e]
      clear hve hq hd8 hd4 ht4
      by_cases hc8 : c = 8
      · subst hc8
        go_enter Tryd.func49, Tryd.ntmps49
        go_wp2
        go_quiet ((go_at_call 72; exact Calls.quiet_of (R0.out _)))
        go_wp2
        go_ret3
        exact ⟨none, 0, rfl, OwnsB.nil _ _ _, below_drewN (Below.refl _ _) _⟩
      · go_enter Tryd.func49, Tryd.ntmps49
        go_wp2
        go_quiet ((go_at_call 72; exact Calls.quiet_of (R0.out _)))
        go_wp2
        go_ret3
        exact ⟨none, 0, rfl, OwnsB.nil _ _ _, below_drewN (Below.refl _ _) _⟩
    · by_cases hshort : n - 8 < v
      · have e : Fr.get l = ([], 0, 1) := by unfold Fr.get; rw [if_neg (by omega), if_neg (by omega), if_pos (by omega)]
        rw [e]
        clear hve hq hd8 hd4 ht4
        by_cases hc8 : c = 8
        · subst hc8
          go_enter Tryd.func49, Tryd.ntmps49
          go_wp2
          go_quiet ((go_at_call 72; exact Calls.quiet_of (R0.out _)))
          go_wp2
          go_ret3
          exact ⟨none, 0, rfl, OwnsB.nil _ _ _, below_drewN (Below.refl _ _) _⟩
        · go_enter Tryd.func49, Tryd.ntmps49
          go_wp2
          go_quiet ((go_at_call 72; exact Calls.quiet_of (R0.out _)))
          go_wp2
          go_ret3
          exact ⟨none, 0, rfl, OwnsB.nil _ _ _, below_drewN (Below.refl _ _) _⟩
      · have R4 := hid (fun (w9 : World) (hb9 : Below B w w9) (c4 j : Nat) => read_any B b (off + 4) c4 (n - 4) (l.drop 4) (by rw [List.length_drop]; omega) (by omega) (w9.drewN j) ((hd4.below hb9).drewN j))
        obtain ⟨x, hx⟩ : ∃ x, x = Fr.n4 ((l.drop 4).take 4) := ⟨_, rfl⟩
        obtain ⟨y, hy⟩ : ∃ y, y = Fr.sum (l.take 4) ((l.drop 8).take v) := ⟨_, rfl⟩
        have hl4 : (l.take 4).length = 4 := by rw [List.length_take]; omega
        have hlv : ((l.drop 8).take v).length = v := by rw [List.length_take, List.length_drop]; omega
        have S0 : ∀ o, IsBytes w B (some ⟨b, o, none⟩) (l.drop 8) → ∀ w9, Below B w w9 → ∀ c8 j, Calls Tryd.prog 67 #[.slice (some ⟨b, off, none⟩) 4 c, .slice (some ⟨b, o, none⟩) v c8] (w9.drewN j) fun e w'' => e = .returned (.int .u32 y) ∧ ∃ m, w'' = w9.drewN m := by
          intro o ho w9 hb9 c8 j
          subst hy
          exact (sum_any B _ _ (l.take 4) 4 hl4 _ _ ((l.drop 8).take v) v hlv (by unfold maxLen; omega) (by unfold maxLen; omega) _ ((ht4.below hb9).drewN j) B (((ho.take v).below hb9).drewN j)).mono fun _ _ ⟨h1, h2⟩ => ⟨h1, j, h2.symm⟩
        have HS := hid S0
        rw [← hx] at R4
        have hlv2 := hid hlv
        have hve2 := hid hve
        have hx2 := hid hx
        have hy2 := hid hy
        have hb3 : v ≤ c - 8 := by omega
        have hi4 : (4 : Int) ≤ (n : Int) := by omega
        have hc4 : ¬ c = 4 := by omega
        have hc40 : ¬ c - 4 = 0 := by omega
        have hc4' : 4 ≤ c := by omega
        have hn4' : 4 ≤ n := by omega
        clear S0 hd4 ht4 hl4 hlv hve hx hy s4 s8
        by_cases hsum : x = y
        · have e : Fr.get l = ((l.drop 8).take v, 8 + v, 0) := by
            unfold Fr.get; rw [← hve2.out, if_neg (by omega), if_neg (by omega), if_neg (by omega), ← hx2.out, ← hy2.out, if_neg (by simp [hsum])]
          rw [e]
          have hb : ((x : Int) != (y : Int)) = false := by rw [hsum]; simp
          have HE := hid e
          clear hsum e
          by_cases hc8 : c = 8
          · have q := hq hc8
            clear hd8 hq
            subst hc8
            obtain rfl : v = 0 := by omega
            go_enter Tryd.func49, Tryd.ntmps49
            go_wp2
            go_quiet ((go_at_call 72; exact Calls.quiet_of (R0.out _)))
            go_wp2
            have hb9 : Below B w (w.drewN nq) := below_drewN (Below.refl _ _) nq
            have hb9' : Below w.heap.size w (w.drewN nq) := below_drewN (Below.refl _ _) nq
            obtain ⟨w9, hw9⟩ : ∃ w9, w9 = w.drewN nq := ⟨_, rfl⟩
            rw [← hw9] at hb9 hb9'
            rw [← hw9]
            clear hw9
            go_quiet (first
              | (go_at_call 72; exact Calls.quiet_of (R4.out _ hb9 _ _))
              | (go_at_call 67; exact HS.out _ q _ hb9 _ _))
            have hb10 : Below w.heap.size w (w9.drewN nq) := below_drewN hb9' nq
            have q2 := (q.take 0).below (hb10.mono hB)
            go_wp2_with (at_builtin; refine wpList_append_bytesN rfl _ _ 23 rfl w.heap.size 5 i0 Tryd.underlying23 hi hz0 hz1 hz2 none 0 [] 0 rfl rfl (OwnsB.nil _ _ _) w.heap.size (some ⟨b, off, none⟩) 0 ((l.drop 8).take 0) 0 hlv2.out rfl (fun h => by cases h) (q2.more hB) _ (List.nil_append _) (by omega) hb10.size ?_)
            intro A4 c4 w4 hown4 hgrow
            have hb4 : Below w.heap.size w w4 := hb10.trans hgrow
            clear hgrow q q2
            go_wp2
            go_ret3
            exact ⟨A4, c4, get_ret (by rw [hlv2.out]) (by omega), hown4, hb4⟩
          · have q := hd8
            clear hd8 hq
            go_enter Tryd.func49, Tryd.ntmps49
            go_wp2
            go_quiet ((go_at_call 72; exact Calls.quiet_of (R0.out _)))
            go_wp2
            have hb9 : Below B w (w.drewN nq) := below_drewN (Below.refl _ _) nq
            have hb9' : Below w.heap.size w (w.drewN nq) := below_drewN (Below.refl _ _) nq
            obtain ⟨w9, hw9⟩ : ∃ w9, w9 = w.drewN nq := ⟨_, rfl⟩
            rw [← hw9] at hb9 hb9'
            rw [← hw9]
            clear hw9
            go_quiet (first
              | (go_at_call 72; exact Calls.quiet_of (R4.out _ hb9 _ _))
              | (go_at_call 67; exact HS.out _ q _ hb9 _ _))
            have hb10 : Below w.heap.size w (w9.drewN nq) := below_drewN hb9' nq
            have q2 := (q.take v).below (hb10.mono hB)
            go_wp2_with (at_builtin; refine wpList_append_bytesN rfl _ _ 23 rfl w.heap.size 5 i0 Tryd.underlying23 hi hz0 hz1 hz2 none 0 [] 0 rfl rfl (OwnsB.nil _ _ _) w.heap.size (some ⟨b, off + 8, none⟩) (c - 8) ((l.drop 8).take v) v hlv2.out rfl (fun h => by cases h) (q2.more hB) _ (List.nil_append _) (by omega) hb10.size ?_)
            intro A4 c4 w4 hown4 hgrow
            have hb4 : Below w.heap.size w w4 := hb10.trans hgrow
            clear hgrow q q2
            go_wp2
            go_ret3
            exact ⟨A4, c4, get_ret (by rw [hlv2.out]) (by omega), hown4, hb4⟩
        · have e : Fr.get l = ([], 0, 5) := by
            unfold Fr.get; rw [← hve2.out, if_neg (by omega), if_neg (by omega), if_neg (by omega), ← hx2.out, ← hy2.out, if_pos hsum]
          rw [e]
          have hb : ((x : Int) != (y : Int)) = true := by rw [bne_iff_ne]; omega
          clear hsum e
          by_cases hc8 : c = 8
          · have q := hq hc8
            clear hd8 hq
            subst hc8
            obtain rfl : v = 0 := by omega
            go_enter Tryd.func49, Tryd.ntmps49
            go_wp2
            go_quiet ((go_at_call 72; exact Calls.quiet_of (R0.out _)))
            go_wp2
            have hb9 : Below B w (w.drewN nq) := below_drewN (Below.refl _ _) nq
            have hb9' : Below w.heap.size w (w.drewN nq) := below_drewN (Below.refl _ _) nq
            obtain ⟨w9, hw9⟩ : ∃ w9, w9 = w.drewN nq := ⟨_, rfl⟩
            rw [← hw9] at hb9 hb9'
            rw [← hw9]
            clear hw9
            go_quiet (first
              | (go_at_call 72; exact Calls.quiet_of (R4.out _ hb9 _ _))
              | (go_at_call 67; exact HS.out _ q _ hb9 _ _))
            go_wp2
            go_ret3
            exact ⟨none, 0, rfl, OwnsB.nil _ _ _, below_drewN hb9' _⟩
          · have q := hd8
            clear hd8 hq
            go_enter Tryd.func49, Tryd.ntmps49
            go_wp2
            go_quiet ((go_at_call 72; exact Calls.quiet_of (R0.out _)))
            go_wp2
            have hb9 : Below B w (w.drewN nq) := below_drewN (Below.refl _ _) nq
            have hb9' : Below w.heap.size w (w.drewN nq) := below_drewN (Below.refl _ _) nq
            obtain ⟨w9, hw9⟩ : ∃ w9, w9 = w.drewN nq := ⟨_, rfl⟩
            rw [← hw9] at hb9 hb9'
            rw [← hw9]
            clear hw9
            go_quiet (first
              | (go_at_call 72; exact Calls.quiet_of (R4.out _ hb9 _ _))
              | (go_at_call 67; exact HS.out _ q _ hb9 _ _))
            go_wp2
            go_ret3
            exact ⟨none, 0, rfl, OwnsB.nil _ _ _, below_drewN hb9' _⟩
/-- the same, what is told said apart -/
theorem get_N (B : Nat) (A : Option Addr) (c : Nat) (l : List Nat) (n : Nat) (hn : l.length = n) (hm : n ≤ 140737488355000) (hc : n ≤ c) (w : World) (h : IsBytes w B A l) (hB : B ≤ w.heap.size) (hnil : A = none → c = 0)
    (p : List Nat) (m e : Nat) (hg : Fr.get l = (p, m, e)) (k : Nat) (hk : p.length = k) (mi ei : Int) (hmi : (m : Int) = mi) (hei : (e : Int) = ei) :
    Calls Tryd.prog 49 #[.slice A n c] w fun x w' => ∃ A' c', x = .returned (.tuple #[.slice A' k c', .int .i64 mi, .int .i64 ei]) ∧ OwnsB 5 w' w.heap.size A' c' p ∧ Below w.heap.size w w' := by
  have C := get_any B A c l n hn hm hc w h hB hnil
  rw [hg] at C
  subst hk
  subst hmi
  subst hei
  exact C
theorem put_N (B : Nat) (A : Option Addr) (c : Nat) (l : List Nat) (n : Nat) (hn : l.length = n) (hl : n ≤ 65536) (w : World) (h : IsBytes w B A l) (hB : B ≤ w.heap.size) (hnil : A = none → c = 0) (k : Nat) (hk : 8 + n = k) :
    Calls Tryd.prog 44 #[.slice A n c] w fun e w' => ∃ A' c', e = .returned (.tuple #[.slice A' k c', .int .i64 0]) ∧ OwnsB 5 w' w.heap.size A' c' (Fr.frame l) ∧ Below w.heap.size w w' := by
  subst hk; exact put_any B A c l n hn hl w h hB hnil
/-- whatever is put: the frame, or nothing and ErrLong -/
theorem put_all (B : Nat) (A : Option Addr) (c : Nat) (l : List Nat) (n : Nat) (hn : l.length = n) (w : World) (h : IsBytes w B A l) (hB : B ≤ w.heap.size) (hnil : A = none → c = 0)
    (p : List Nat) (e : Nat) (hp : putOf l = (p, e)) (k : Nat) (hk : p.length = k) (ei : Int) (hei : (e : Int) = ei) :
    Calls Tryd.prog 44 #[.slice A n c] w fun x w' => ∃ A' c', x = .returned (.tuple #[.slice A' k c', .int .i64 ei]) ∧ OwnsB 5 w' w.heap.size A' c' p ∧ Below w.heap.size w w' := by
  subst hk
  subst hei
  unfold putOf at hp
  by_cases hl : 65536 < l.length
  · rw [if_pos hl] at hp
    injection hp with h1 h2
    subst h1
    subst h2
    refine (put_long A c n (by omega) w).mono ?_
    rintro x w' ⟨rfl, rfl⟩
    exact ⟨none, 0, rfl, OwnsB.nil _ _ _, Below.refl _ _⟩
  · rw [if_neg hl] at hp
    injection hp with h1 h2
    subst h1
    subst h2
    exact put_N B A c l n hn (by omega) w h hB hnil _ (by rw [Fr.frame_length, hn])
end Go.Proofs.YtpigekbfngalbaaDoor.Frame
namespace Go.Proofs.YtpigekbfngalbaaDoor.Ms
open Go.RowKit
set_option maxRecDepth 100000
attribute [local go_sem ↓] loadAt_msg

/-- the encoding up to a place -/
def encTo (m : M) (j : Nat) : List Nat := ((head ++ tab m.kind).take j).flatMap m.encF
theorem encTo_next (m : M) (j : Nat) (h : j < (head ++ tab m.kind).length) : encTo m j ++ m.encF (head ++ tab m.kind)[j] = encTo m (j + 1) := by
  unfold encTo; rw [List.take_succ_eq_append_getElem h, List.flatMap_append]; simp
theorem encTo_all (m : M) (j : Nat) (h : ¬ j < (head ++ tab m.kind).length) : encTo m j = m.enc := by
  unfold encTo M.enc; rw [List.take_of_length_le (by omega)]
theorem fields_le (m : M) (hs : Small m) : ∀ L : List Nat, (L.flatMap m.encF).length ≤ 1010000000 * L.length := by
  intro L
  induction L with
  | nil => simp
  | cons r L ih =>
    rw [List.flatMap_cons, List.length_append, encF_length, List.length_cons]
    have := len_le m r hs
    omega
theorem full_length (m : M) : (head ++ tab m.kind).length ≤ 10 := by rw [List.length_append]; have := tab_length m.kind; have : head.length = 3 := rfl; omega
theorem encTo_le (m : M) (j : Nat) (hs : Small m) : (encTo m j).length ≤ 10100000000 := by
  have h1 := fields_le m hs ((head ++ tab m.kind).take j)
  have h2 : ((head ++ tab m.kind).take j).length ≤ 10 := by rw [List.length_take]; have := full_length m; omega
  unfold encTo
  omega
theorem full_field (k : Nat) : ∀ x ∈ head ++ tab k, x ∈ nums ∨ x = 111 ∨ x = 101 ∨ x = 100 := by
  intro x hx
  rcases List.mem_append.1 hx with h | h <;> clear hx
  · revert h; revert x; decide
  · exact tab_field k x h
theorem blank_of {m : M} (hf : m.foreign = false) (r : Nat) (hr : r ∈ all) (h : (tab m.kind).contains r = false) : m.blank r = true := by
  unfold M.foreign at hf
  rw [List.any_eq_false] at hf
  have := hf r hr
  rw [h] at this
  simpa using this
theorem enc_length (m : M) (hk : m.isKind = true) (hf : m.foreign = false) : m.enc.length = m.size := by
  have h1 : ∀ L : List Nat, (L.flatMap m.encF).length = (L.map m.len).sum := by
    intro L
    induction L with
    | nil => rfl
    | cons r L ih => rw [List.flatMap_cons, List.length_append, encF_length, List.map_cons, List.sum_cons, ih]
  have he : (tab m.kind).contains 101 = false → m.es = [] := fun h => by
    have := blank_of hf 101 (by decide) h
    simpa [M.blank] using this
  have hd : (tab m.kind).contains 100 = false → m.d = [] := fun h => by
    have := blank_of hf 100 (by decide) h
    simpa [M.blank] using this
  unfold M.enc M.size
  rw [h1]
  obtain ⟨k, _, k1, k2, hk⟩ := kind_of hk
  rw [hk] at he hd ⊢
  have hw : m.es = [] → m.es.length = 0 ∧ weigh m.es = 0 := fun e => by rw [e]; exact ⟨rfl, rfl⟩
  have hl : m.d = [] → m.d.length = 0 := fun e => by rw [e]; rfl
  match k, k1, k2 with
  | 1, _, _ | 2, _, _ | 4, _, _ | 8, _, _ | 9, _, _ | 10, _, _ | 11, _, _ =>
    have := hw (he (by decide))
    have := hl (hd (by decide))
    simp [head, tab, M.len]; omega
  | 3, _, _ =>
    have := hl (hd (by decide))
    simp [head, tab, M.len]; omega
  | 5, _, _ | 6, _, _ | 7, _, _ =>
    have := hw (he (by decide))
    simp [head, tab, M.len]; omega
theorem check_zero {m : M} (h : check m = 0) : m.isKind = true ∧ m.foreign = false ∧ m.inRange = true ∧ m.es.length ≤ 1024 ∧ m.size ≤ 65536 := by
  unfold check at h
  split at h
  · cases h
  · split at h
    · cases h
    · split at h
      · cases h
      · split at h
        · cases h
        · rename_i h1 h2 h3 h4
          refine ⟨by simpa using h1, by simpa using h2, by simpa using h3, by omega, by omega⟩
theorem iter_at (w : World) (s : ByteArray) : (w.iter s 0).heap[w.heap.size]? = some (.stringIter s 0) ∧ Below w.heap.size w (w.iter s 0) :=
  ⟨World.iter_heap w s 0, (Below.refl _ w).alloc (Nat.le_refl _) _⟩
theorem own_iter {e : TypeId} {w : World} {base c : Nat} {A : Option Addr} {l : List Nat} (h : OwnsB e w base A c l) (s : ByteArray) : OwnsB e (w.iter s 0) base A c l := h.alloc _
theorem own_iterAt {e : TypeId} {w : World} {base c k pos pos' : Nat} {A : Option Addr} {l : List Nat} {s : ByteArray} (h : OwnsB e w base A c l) (hk : w.heap[k]? = some (.stringIter s pos)) : OwnsB e (w.iterAt k s pos') base A c l := by
  refine ⟨h.small, h.row.1, ?_⟩
  rcases h.row.2 with h0 | ⟨g, cap, cur, hv, hg, hh, rest⟩
  · exact .inl h0
  · refine .inr ⟨g, cap, cur, hv, hg, ?_, rest⟩
    rw [Lib.iterAt_other w k g s pos' (fun e => by subst e; rw [hk] at hh; cases hh)]
    exact hh
set_option maxHeartbeats 3200000 in
theorem put_any (m : M) (A : Option Addr) (c : Nat) (A' : Option Addr) (c' : Nat) (w : World) (h : Is w w.heap.size m A c A' c') (hT : Tab w) (hs : Small m) :
    Calls Tryd.prog 16 #[.agg #[.int .i64 m.K, .int .i64 m.F, .int .i64 m.T, .int .i64 m.g, .int .i64 m.t, .int .i64 m.i, .int .i64 m.p, .int .i64 m.c, .int .i64 m.r, .int .i64 m.x, .int .i64 m.a, .int .i64 m.b, .int .i64 m.v, .int .i64 m.s, .bool m.ok, .slice A m.es.length c, .slice A' m.d.length c']] w fun e w' => ∃ A2 c2, e = .returned (.tuple #[.slice A2 (put m).1.length c2, .int .i64 (((put m).2 : Nat) : Int)]) ∧ OwnsB 5 w' w.heap.size A2 c2 (put m).1 ∧ Below w.heap.size w w' := by
  obtain ⟨i0, hi, hz0, hz1, hz2⟩ := info_parts info_u8
  have HI : Hid (∀ wz, Below w.heap.size w wz → Is wz w.heap.size m A c A' c' ∧ Tab wz ∧ Inp wz m A) := hid fun wz hb => ⟨h.below hb, hT.below hb hT.pos, ⟨hT.below hb hT.pos, (h.es.below hb).more hb.size, hs⟩⟩
  have hpos := hT.pos
  have HS := hid hs
  clear h hT hs
  have HBx : Hid (Bx (w.alloc (.cells #[.int .i64 m.K, .int .i64 m.F, .int .i64 m.T, .int .i64 m.g, .int .i64 m.t, .int .i64 m.i, .int .i64 m.p, .int .i64 m.c, .int .i64 m.r, .int .i64 m.x, .int .i64 m.a, .int .i64 m.b, .int .i64 m.v, .int .i64 m.s, .bool m.ok, .slice A m.es.length c, .slice A' m.d.length c'] 25)) w.heap.size m A c A' c' ∧ Below w.heap.size w (w.alloc (.cells #[.int .i64 m.K, .int .i64 m.F, .int .i64 m.T, .int .i64 m.g, .int .i64 m.t, .int .i64 m.i, .int .i64 m.p, .int .i64 m.c, .int .i64 m.r, .int .i64 m.x, .int .i64 m.a, .int .i64 m.b, .int .i64 m.v, .int .i64 m.s, .bool m.ok, .slice A m.es.length c, .slice A' m.d.length c'] 25))) := ⟨⟨heap_alloc_new w _⟩, (Below.refl _ w).alloc (Nat.le_refl _) _⟩
  have hld := HBx.out.1.load
  have HC := hid (check_any m A c A' c' _ (HI.out _ HBx.out.2).2.2)
  go_enter Tryd.func16, Tryd.ntmps16
  go_wp2_with fail
  refine HC.out.mono ?_
  rintro e w1 ⟨rfl, hb⟩
  have HB1 := hid (HBx.out.2.trans (hb.mono HBx.out.2.size))
  have HX1 := hid (HBx.out.1.below hb (row_lt HBx.out.1.row))
  have hld1 := HX1.out.load
  clear hb hld
  by_cases h0 : check m = 0
  · have HPE : Hid (put m = (Fr.frame m.enc, 0)) := if_pos h0
    obtain ⟨q1, q2, q3, q4, q5⟩ := check_zero h0
    have HQ := hid (And.intro q1 (And.intro q2 (enc_length m q1 q2)))
    obtain ⟨k, hK, hk1, hk2, hkind⟩ := kind_of q1
    have k0 : 0 ≤ m.K := by omega
    have k12 : m.K < 12 := by omega
    have HSZ := hid (size_any m A c A' c' w1 q1 (HI.out _ HB1.out).2.1 (HI.out _ HB1.out).2.2.es HS.out)
    rw [h0]
    clear q1 q2 q3 q4 hK hk1 hk2 hkind h0
    go_wp2_with fail
    refine HSZ.out.mono ?_
    rintro e w2 ⟨rfl, hb⟩
    have HB2 := hid (HB1.out.trans (hb.mono HB1.out.size))
    have HX2 := hid (HX1.out.below hb (row_lt HX1.out.row))
    have hw2 := HB2.out.size
    clear hb hld1
    go_wp2_with (at_make; refine wpList_make_own _ rfl _ _ 23 rfl w.heap.size 5 i0 (.int .u8 0) 1 Tryd.underlying23 hi hz0 hz1 .i64 .i64 ((m.size : Nat) : Int) m.size rfl rfl (by omega) ?c1 ?c2 hw2 ?_)
    case c1 => rw [hz2]; omega
    case c2 => unfold maxLen; omega
    intro w3 hown hgrow
    have HO3 : Hid (OwnsB 5 w3 w.heap.size (some ⟨w2.heap.size, 0, none⟩) m.size [] ∧ Below w.heap.size w w3 ∧ Bx w3 w.heap.size m A c A' c') :=
      ⟨⟨by simp, hown⟩, HB2.out.grown hgrow hw2 (fun g hg => by cases hg), ⟨(hgrow.block _ (row_lt HX2.out.row) (fun e => by cases e)).trans HX2.out.row⟩⟩
    have c0 := HO3.out.2.2.c0
    have HKK : Hid (m.kind = m.K.toNat ∧ m.K.toNat < 12) := ⟨rfl, by omega⟩
    have ht : w3.cell? ⟨0, m.K.toNat, none⟩ = some (.string (strOf (tab m.kind))) := (HI.out _ HO3.out.2.1).2.1 _ HKK.out.2
    have hcat : Hid (ByteArray.mk #[75, 70, 84] ++ strOf (tab m.kind) = strOf (head ++ tab m.kind)) := by show _ = _; rw [← strOf_append]; rfl
    have hsz : (strOf (tab m.kind)).size ≤ 7 := by rw [strOf_size]; exact tab_length _
    have HL : Hid ((head ++ tab m.kind).length ≤ 10) := full_length m
    clear hown hgrow HB2 HX2
    go_wp2
    rw [hcat.out]
    obtain ⟨it1, it2⟩ := iter_at w3 (strOf (head ++ tab m.kind))
    have HIT := hid (And.intro it1 (And.intro it2 (own_iter HO3.out.1 (strOf (head ++ tab m.kind)))))
    have hw3 : w.heap.size ≤ w3.heap.size := HO3.out.2.1.size
    have HBI : Hid (Below w.heap.size w (w3.iter (strOf (head ++ tab m.kind)) 0) ∧ Bx (w3.iter (strOf (head ++ tab m.kind)) 0) w.heap.size m A c A' c') := ⟨HO3.out.2.1.trans (it2.mono hw3), HO3.out.2.2.below it2 (row_lt HO3.out.2.2.row)⟩
    clear it1 it2 ht hsz c0
    generalize (w3.iter (strOf (head ++ tab m.kind)) 0) = w4 at HIT HBI ⊢
    go_loopw [5, 7] (fun b _ wr => ∃ pos : Nat, ∃ A3 : Option Addr, ∃ c3 : Nat, ∃ n : Nat, b = .slice A3 n c3 ∧ Hid ((encTo m pos).length = n) ∧ Hid (OwnsB 5 wr w.heap.size A3 c3 (encTo m pos)) ∧ Hid (Bx wr w.heap.size m A c A' c') ∧ Hid (wr.heap[w3.heap.size]? = some (.stringIter (strOf (head ++ tab m.kind)) pos)) ∧ Hid (Below w.heap.size w wr)) (fun _ _ wr => 10 - wr.iterPos w3.heap.size)
    case atStart => exact ⟨0, _, _, 0, rfl, hid rfl, hid HIT.out.2.2, hid HBI.out.2, hid HIT.out.1, hid HBI.out.1⟩
    case round =>
      clear HIT HBI HO3
      obtain ⟨pos, A3, c3, n, rfl, HN, HO, HB, HIt, HBel⟩ := hrel
      by_cases hp : pos < (head ++ tab m.kind).length
      · have hnx : ∀ ty, (Instr.next (.pointer (some ⟨w3.heap.size, 0, none⟩)) true ty).run Tryd.prog wr = _ := fun ty => next_at wr w3.heap.size _ (full_small _) pos ty HIt.out hp
        have hiI := Lib.iterAt_heap wr w3.heap.size (strOf (head ++ tab m.kind)) pos (pos + 1) HIt.out
        have hbI := Lib.below_iterAt HBel.out (k := w3.heap.size) hw3 (strOf (head ++ tab m.kind)) (pos + 1)
        have hBI : Bx (wr.iterAt w3.heap.size (strOf (head ++ tab m.kind)) (pos + 1)) w.heap.size m A c A' c' := ⟨(Lib.iterAt_other wr _ _ _ _ (fun e => by have := HB.out.row; rw [e, HIt.out] at this; cases this)).trans HB.out.row⟩
        have hOI : OwnsB 5 (wr.iterAt w3.heap.size (strOf (head ++ tab m.kind)) (pos + 1)) w.heap.size A3 c3 (encTo m pos) := own_iterAt HO.out HIt.out
        obtain ⟨wi, hwi⟩ : ∃ wi, wi = wr.iterAt w3.heap.size (strOf (head ++ tab m.kind)) (pos + 1) := ⟨_, rfl⟩
        rw [← hwi] at hiI hbI hBI hOI
        rw [← hwi] at hnx
        have hld2 := hBI.load
        have HX := hid (And.intro hwi (And.intro hiI (And.intro hbI (And.intro hBI hOI))))
        clear hwi hiI hbI hBI hOI
        have HNX := hid (encTo_next m pos hp)
        have hfd := full_field _ _ (List.getElem_mem hp)
        have HFD := hid hfd
        have HP := hid hp
        clear hfd
        have hnl : n ≤ 10100000000 := by rw [← HN.out]; exact encTo_le m pos HS.out
        generalize (head ++ tab m.kind)[pos] = q at hnx HNX HFD
        have hpf := putField_any w.heap.size A3 c3 (encTo m pos) n HN.out (by omega) m A c A' c' q HFD.out wi HX.out.2.2.2.2 (HX.out.2.2.1.size) (HI.out _ HX.out.2.2.1).1 HS.out
        have HPF := hid hpf
        clear hpf
        go_wp2_with fail
        refine HPF.out.mono ?_
        rintro e w5 ⟨A5, c5, rfl, ho, hthru⟩
        rw [HNX.out] at ho
        have HR := hid (And.intro ho (And.intro (HX.out.2.2.1.trans hthru.bel) (And.intro (hthru.keep HX.out.2.2.2.1.row (fun cs fr e => by injection e with _ e _; exact absurd e (by decide))) (hthru.keep HX.out.2.1 (fun cs fr e => by cases e)))))
        have HN5 : Hid ((encTo m (pos + 1)).length = n + m.len q) := hid (by rw [← HNX.out, List.length_append, HN.out, encF_length])
        clear ho hthru hld2 hnx
        go_wp2_with fail
        go_roundw
        case rel => exact ⟨pos + 1, A5, c5, _, rfl, HN5, hid HR.out.1, hid ⟨HR.out.2.2.1⟩, hid HR.out.2.2.2, hid HR.out.2.1⟩
        case measure =>
          simp only [World.iterPos, HR.out.2.2.2, HIt.out]
          have := HL.out
          have := HP.out
          omega
      · have hnx : ∀ ty, (Instr.next (.pointer (some ⟨w3.heap.size, 0, none⟩)) true ty).run Tryd.prog wr = _ := fun ty => next_end wr w3.heap.size _ pos ty HIt.out hp
        have hall := encTo_all m pos hp
        rw [hall] at HN HO
        have hn2 : n ≤ 65536 := by have := HN.out; have := HQ.out.2.2; omega
        have hfp := Frame.put_any wr.heap.size A3 c3 m.enc n HN.out hn2 wr HO.out.reads (Nat.le_refl _) HO.out.none_
        have HFP := hid hfp
        clear hfp hall hp
        go_wp2_with fail
        refine HFP.out.mono ?_
        rintro e w5 ⟨A5, c5, rfl, ho, hb⟩
        have HR := hid (And.intro (ho.weaken HBel.out.size) (HBel.out.trans (hb.mono HBel.out.size)))
        clear ho hb hnx
        go_wp2_with fail
        go_ret2
        rw [HPE.out]
        refine ⟨A5, c5, ?_, HR.out.1, HR.out.2⟩
        rw [Fr.frame_length, HN.out]
        rfl
  · have HPE : Hid (put m = ([], check m)) := if_neg h0
    go_wp2_with fail
    go_ret2
    rw [HPE.out]
    exact ⟨none, 0, rfl, OwnsB.nil _ _ _, HB1.out⟩
end Go.Proofs.YtpigekbfngalbaaDoor.Ms
namespace Go.Proofs.YtpigekbfngalbaaDoor
open Go.RowKit

theorem or_add (v c : Nat) (hc : c < 256) : v * 256 ||| c = v * 256 + c := by
  rw [show v * 256 = 2 ^ 8 * v from by omega, ← Nat.two_pow_add_eq_or_of_lt hc]
theorem wrap64_sgn (n : Nat) (h : n < 18446744073709551616) : wrap64 (n : Int) = Pk.sgn n := by
  unfold wrap64 Pk.sgn
  split <;> omega
theorem wrap_sgn (n : Nat) (h : n < 18446744073709551616) : IntKind.i64.wrap (n : Int) = Pk.sgn n := by
  rw [IntKind.wrap_i64]
  unfold Pk.sgn
  split <;> omega
theorem num_take_lt (l : List Nat) (k : Nat) (hl : l.length ≤ 8) (hk : k < l.length) (h : ∀ x ∈ l, x < 256) : Pk.num (l.take k) < 72057594037927936 := by
  have h1 := Pk.num_lt (l.take k) (fun x hx => h x (List.mem_of_mem_take hx))
  have h2 : (l.take k).length ≤ 7 := by rw [List.length_take]; omega
  have h3 : 256 ^ (l.take k).length ≤ 256 ^ 7 := Nat.pow_le_pow_right (by decide) h2
  have h4 : 256 ^ 7 = 72057594037927936 := by decide
  omega
theorem num_all_lt (l : List Nat) (hl : l.length ≤ 8) (h : ∀ x ∈ l, x < 256) : Pk.num l < 18446744073709551616 := by
  have := Pk.take_num_lt l h
  rwa [List.take_of_length_le hl] at this

set_option maxRecDepth 100000 in
set_option maxHeartbeats 400000 in
theorem number_any (B : Nat) (A : Option Addr) (c : Nat) (l : List Nat) (hl : l.length ≤ 8) (w : World) (h : IsBytes w B A l) :
    Calls Tryd.prog 99 #[.slice A l.length c] w fun e w' => e = .returned (.int .i64 (Pk.sgn (Pk.num l))) ∧ w = w' := by
  go_enter Tryd.func99, Tryd.ntmps99
  go_wp2
  go_loop [3, 8] (fun v i => ∃ k n : Nat, k ≤ l.length ∧ i = .int .i64 k ∧ v = .int .u64 (n : Int) ∧ n < 18446744073709551616 ∧ Hid (n = Pk.num (l.take k))) (fun _ i => l.length - (RowKit.intOf i).toNat)
  case atStart => exact ⟨0, 0, by omega, rfl, rfl, by omega, hid rfl⟩
  case round =>
    obtain ⟨k, n, hk, rfl, rfl, hn, hs⟩ := hrel
    by_cases hlt : k < l.length
    · obtain ⟨b, off, rfl, _, hc⟩ := h.cells k hlt
      have hck := hc k hlt
      have hb8 := h.small l[k] (List.getElem_mem _)
      have hn7 : n < 72057594037927936 := by rw [hs.out]; exact num_take_lt l k hl hlt h.small
      have HO : Hid (bits .or .u64 ((n : Int) * 256) (l[k] : Nat) = ((n * 256 + l[k] : Nat) : Int)) := by
        show _ = _
        rw [show (n : Int) * 256 = ((n * 256 : Nat) : Int) from by omega, u64_or_nat _ _ (by omega) (by omega), or_add _ _ hb8]
      clear hc
      go_wp2
      go_round
      case rel => exact ⟨k + 1, n * 256 + l[k], by omega, by go_num, by rw [HO.out], by omega, by
        show _ = _
        rw [List.take_succ_eq_append_getElem hlt, Pk.num_snoc, ← hs.out]⟩
      case measure => simp [RowKit.intOf] <;> omega
    · go_wp2
      go_ret
      obtain rfl : k = l.length := by omega
      exact ⟨ret_int (by rw [wrap64_sgn n hn, hs.out, List.take_length]), rfl⟩

set_option maxRecDepth 100000 in
set_option maxHeartbeats 400000 in
theorem int_rdr (g : Nat) (s : Pk.St) (w : World) (h : Rdr w g s) :
    Calls Tryd.prog 89 #[.pointer (some ⟨g, 0, none⟩)] w fun e w' => e = .returned (.int .i64 (Pk.rdInt s).1) ∧ Rdr w' g (Pk.rdInt s).2 ∧ w.grownBy w' (some g) := by
  have HT := hid (take_rdr g s 8 (by unfold InInt; omega) w h)
  have h8 : (Pk.taken s 8).1.length ≤ 8 := by
    unfold Pk.taken
    split
    · simp
    · exact List.length_take_le _ _
  clear h
  go_enter Tryd.func89, Tryd.ntmps89
  go_wp2_with fail
  refine HT.out.mono ?_
  rintro e w1 ⟨A1, c1, rfl, hb, _, hR, hG⟩
  go_wp2_with fail
  refine (number_any g A1 c1 _ h8 _ hb).mono ?_
  rintro e w2 ⟨rfl, rfl⟩
  go_wp2_with fail
  go_ret
  exact ⟨ret_int (Pk.rdInt_num s).symm, by rw [Pk.rdInt_st]; exact hR, hG⟩

set_option maxRecDepth 100000 in
set_option maxHeartbeats 400000 in
theorem bad_rdr (g : Nat) (s : Pk.St) (w : World) (h : Rdr w g s) :
    Calls Tryd.prog 75 #[.pointer (some ⟨g, 0, none⟩)] w fun e w' => e = .returned (.bool s.bad) ∧ w = w' := by
  obtain ⟨A, c, h1, h2, h3, h4, h5⟩ := h.at_
  have hc1 : w.cell? ⟨g, 1, none⟩ = some (.bool s.bad) := row_cell h1 1
  clear h h1 h2
  go_enter Tryd.func75, Tryd.ntmps75
  go_wp2
  go_ret
  exact ⟨rfl, rfl⟩
end Go.Proofs.YtpigekbfngalbaaDoor
namespace Go.Proofs.YtpigekbfngalbaaDoor
open Go.RowKit
set_option maxRecDepth 100000

set_option maxHeartbeats 400000 in
theorem left_rdr (g : Nat) (s : Pk.St) (w : World) (h : Rdr w g s) :
    Calls Tryd.prog 90 #[.pointer (some ⟨g, 0, none⟩)] w fun e w' => e = .returned (.int .i64 (s.rest.length : Nat)) ∧ w = w' := by
  obtain ⟨A, c, h1, h2, h3, h4, h5⟩ := h.at_
  have hc0 : w.cell? ⟨g, 0, none⟩ = some (.slice A s.rest.length c) := row_cell h1 0
  clear h h1 h2
  go_enter Tryd.func90, Tryd.ntmps90
  go_wp2
  go_ret
  exact ⟨rfl, rfl⟩
/-- what End tells: 0 OK, 2 ErrLong, 4 ErrForm -/
def endOf (s : Pk.St) : Int := if s.bad = true then 4 else if 0 < s.rest.length then 2 else 0
set_option maxHeartbeats 400000 in
theorem end_rdr (g : Nat) (s : Pk.St) (w : World) (h : Rdr w g s) :
    Calls Tryd.prog 76 #[.pointer (some ⟨g, 0, none⟩)] w fun e w' => e = .returned (.int .i64 (endOf s)) ∧ w = w' := by
  obtain ⟨A, c, h1, h2, h3, h4, h5⟩ := h.at_
  have hc0 : w.cell? ⟨g, 0, none⟩ = some (.slice A s.rest.length c) := row_cell h1 0
  have hc1 : w.cell? ⟨g, 1, none⟩ = some (.bool s.bad) := row_cell h1 1
  clear h h1 h2
  obtain ⟨rest, bad⟩ := s
  dsimp only at *
  by_cases hl : 0 < rest.length
  · cases bad
    all_goals
      have HE := hid hl
      go_enter Tryd.func76, Tryd.ntmps76
      go_wp2
      go_ret
      exact ⟨ret_int (by simp [endOf, HE.out]), rfl⟩
  · obtain rfl : rest = [] := List.eq_nil_of_length_eq_zero (by omega)
    clear hl
    cases bad
    all_goals
      go_enter Tryd.func76, Tryd.ntmps76
      go_wp2
      go_ret
      exact ⟨ret_int (by simp [endOf]), rfl⟩

set_option maxHeartbeats 400000 in
theorem blob_rdr (g : Nat) (s : Pk.St) (w : World) (h : Rdr w g s) (hl : s.rest.length ≤ 140737488354000) :
    Calls Tryd.prog 91 #[.pointer (some ⟨g, 0, none⟩)] w fun e w' => ∃ A' c', e = .returned (.slice A' (Pk.rdBlob s).1.length c') ∧ OwnsB 5 w' w.heap.size A' c' (Pk.rdBlob s).1 ∧ Rdr w' g (Pk.rdBlob s).2 ∧ w.grownBy w' (some g) := by
  obtain ⟨i0, hi, hz0, hz1, hz2⟩ := info_parts info_u8
  have HI := hid (int_rdr g s w h)
  have hin := Pk.rdInt_in s h.small
  have hsh := Pk.rdInt_short s
  have hgl := h.lt
  have HE : Hid (Pk.taken (Pk.rdInt s).2 (Pk.rdInt s).1 = Pk.rdBlob s) := by
    show _ = _
    exact Pk.taken_rdInt s h.ok
  clear h
  have hlen : (Pk.rdBlob s).1.length ≤ s.rest.length := (Pk.rdBlob_short s).2
  go_enter Tryd.func91, Tryd.ntmps91
  go_wp2_with fail
  refine HI.out.mono ?_
  rintro e w1 ⟨rfl, hR, hG⟩
  have C := take_rdr g _ _ hin w1 hR
  rw [HE.out] at C
  have HC := hid C
  clear C hR
  go_wp2_with fail
  refine HC.out.mono ?_
  rintro e w2 ⟨A1, c1, rfl, hb, hn, hR, hG2⟩
  have hG3 : w.grownBy w2 (some g) := hG.trans hG2
  have hsz := hG3.size
  clear hG hG2
  go_wp2_with (at_builtin; refine wpList_append_bytesN rfl _ _ 23 rfl w.heap.size 5 i0 Tryd.underlying23 hi hz0 hz1 hz2 none 0 [] 0 rfl rfl (OwnsB.nil _ _ _) g A1 c1 (Pk.rdBlob s).1 (Pk.rdBlob s).1.length rfl rfl hn hb _ (List.nil_append _) (by omega) hsz ?_)
  intro A3 c3 w3 hown hbel
  have hR3 : Rdr w3 g (Pk.rdBlob s).2 := hR.below (hbel.mono (by omega))
  have hG4 : w.grownBy w3 (some g) := grown_then hG3 hbel
  clear hR hG3 hb hbel
  go_wp2_with fail
  go_ret
  exact ⟨A3, c3, ret_len (by simp), hown, hR3, hG4⟩
end Go.Proofs.YtpigekbfngalbaaDoor
namespace Go.Proofs.YtpigekbfngalbaaDoor.Ms
open Go.RowKit
set_option maxRecDepth 100000
attribute [local go_sem ↓] loadAt_msg storeAt_msg

/-- no cell of a message is a byte -/
theorem no_byte (m : M) (A : Option Addr) (c : Nat) (A' : Option Addr) (c' : Nat) (i : Nat) (x : Int) : (#[.int .i64 m.K, .int .i64 m.F, .int .i64 m.T, .int .i64 m.g, .int .i64 m.t, .int .i64 m.i, .int .i64 m.p, .int .i64 m.c, .int .i64 m.r, .int .i64 m.x, .int .i64 m.a, .int .i64 m.b, .int .i64 m.v, .int .i64 m.s, .bool m.ok, .slice A m.es.length c, .slice A' m.d.length c'] : Array Value)[i]? ≠ some (.int .u8 x) := by
  intro h
  have h2 : ∀ v ∈ (#[.int .i64 m.K, .int .i64 m.F, .int .i64 m.T, .int .i64 m.g, .int .i64 m.t, .int .i64 m.i, .int .i64 m.p, .int .i64 m.c, .int .i64 m.r, .int .i64 m.x, .int .i64 m.a, .int .i64 m.b, .int .i64 m.v, .int .i64 m.s, .bool m.ok, .slice A m.es.length c, .slice A' m.d.length c'] : Array Value).toList, v ≠ Value.int .u8 x := by
    intro v hv
    simp only [List.mem_cons, List.not_mem_nil, or_false] at hv
    rcases hv with rfl | rfl | rfl | rfl | rfl | rfl | rfl | rfl | rfl | rfl | rfl | rfl | rfl | rfl | rfl | rfl | rfl <;> (intro e; cases e)
  rw [← Array.getElem?_toList] at h
  exact h2 _ (List.mem_of_getElem? h) rfl
/-- a reader stays when a message's box ahead of it is written -/
theorem rdr_box {w w' : World} {g b : Nat} {s : Pk.St} {m : M} {A A' : Option Addr} {c c' : Nat} (h : Rdr w g s) (hb : Bx w b m A c A' c') (hne : b ≠ g) (ht : Turned (fun k => k = b) w w') : Rdr w' g s := by
  obtain ⟨A1, c1, h1, h2, h3⟩ := h.at_
  refine ⟨h.small, h.ok, A1, c1, (ht.block g (row_lt h1) (fun e => hne e.symm)).trans h1, ⟨h2.small, fun k hk => ?_⟩, h3⟩
  obtain ⟨b1, off, e, hlt, hc⟩ := h2.cells k hk
  have hb1 : b1 ≠ b := fun e => by
    have := hc k hk
    rw [e, hb.cell] at this
    exact no_byte m A c A' c' _ _ this
  refine ⟨b1, off, e, hlt, fun i hi => ?_⟩
  rw [← hc i hi]
  exact World.cell?_of_block (ht.block b1 (by have := row_lt h1; omega) hb1)
/-- a message that is being read: its box at gm, the reader behind it at gr, and behind that what the message leads to -/
structure Rd (w0 W : World) (B gm gr lo : Nat) (m : M) (s : Pk.St) (A : Option Addr) (c : Nat) (A' : Option Addr) (c' : Nat) (N : Nat) : Prop where
  bel : Below B w0 W
  box : Bx W gm m A c A' c'
  rdr : Rdr W gr s
  lt : B ≤ gm ∧ gm < gr ∧ gr < lo ∧ lo ≤ W.heap.size
  es : OwnE W lo W.heap.size A c m.es
  d : OwnsB 5 W lo A' c' m.d
  num : ∀ r ∈ nums, InInt (m.num r)
  few : m.es.length ≤ N
  short : s.rest.length ≤ 65536
namespace Rd
variable {w0 W W' : World} {B gm gr lo : Nat} {m : M} {s : Pk.St} {A A' : Option Addr} {c c' N : Nat}
/-- the reader has gone on -/
theorem read (h : Rd w0 W B gm gr lo m s A c A' c' N) {s' : Pk.St} (hr : Rdr W' gr s') (hg : W.grownBy W' (some gr)) (hs : s'.rest.length ≤ s.rest.length) : Rd w0 W' B gm gr lo m s' A c A' c' N := by
  have hl := h.lt
  refine ⟨h.bel.trans ⟨hg.os, hg.tape, hg.output, hg.size, fun k hk => hg.block k ?_ ?_⟩, ⟨(hg.block gm (row_lt h.box.row) (fun e => by injection e; omega)).trans h.box.row⟩, hr, ⟨hl.1, hl.2.1, hl.2.2.1, Nat.le_trans hl.2.2.2 hg.size⟩, ?_, ?_, h.num, h.few, Nat.le_trans hs h.short⟩
  · have := row_lt h.box.row; omega
  · intro e; injection e; omega
  · exact (h.es.keep (Turned.ofGrown (S := fun k => k = gr) hg (fun k hk => (Option.some.inj hk).symm)) (fun k hk hB => by have := hB.1; omega)).wide (Nat.le_refl _) hg.size
  · exact h.d.grown hg (fun k hk => by injection hk with hk; omega)
/-- a cell of the box has been written -/
theorem store (h : Rd w0 W B gm gr lo m s A c A' c' N) {m' : M} {A2 A3 : Option Addr} {c2 c3 N' i : Nat} {u : Value} (hc : (#[.int .i64 m.K, .int .i64 m.F, .int .i64 m.T, .int .i64 m.g, .int .i64 m.t, .int .i64 m.i, .int .i64 m.p, .int .i64 m.c, .int .i64 m.r, .int .i64 m.x, .int .i64 m.a, .int .i64 m.b, .int .i64 m.v, .int .i64 m.s, .bool m.ok, .slice A m.es.length c, .slice A' m.d.length c'] : Array Value).setIfInBounds i u = (#[.int .i64 m'.K, .int .i64 m'.F, .int .i64 m'.T, .int .i64 m'.g, .int .i64 m'.t, .int .i64 m'.i, .int .i64 m'.p, .int .i64 m'.c, .int .i64 m'.r, .int .i64 m'.x, .int .i64 m'.a, .int .i64 m'.b, .int .i64 m'.v, .int .i64 m'.s, .bool m'.ok, .slice A2 m'.es.length c2, .slice A3 m'.d.length c3] : Array Value))
    (he : OwnE W lo W.heap.size A2 c2 m'.es) (hd : OwnsB 5 W lo A3 c3 m'.d) (hn : ∀ r ∈ nums, InInt (m'.num r)) (hf : m'.es.length ≤ N') : Rd w0 (W.setCell ⟨gm, i, none⟩ u) B gm gr lo m' s A2 c2 A3 c3 N' := by
  have hl := h.lt
  have hg := grown_setCell W gm i u
  have ht : Turned (fun k => k = gm) W (W.setCell ⟨gm, i, none⟩ u) := Turned.ofGrown hg (fun k hk => (Option.some.inj hk).symm)
  refine ⟨h.bel.trans ⟨hg.os, hg.tape, hg.output, hg.size, fun k hk => hg.block k ?_ ?_⟩, ⟨?_⟩, rdr_box h.rdr h.box (by omega) ht, ⟨hl.1, hl.2.1, hl.2.2.1, Nat.le_trans hl.2.2.2 hg.size⟩, ?_, ?_, hn, hf, h.short⟩
  · have := row_lt h.box.row; omega
  · intro e; injection e; omega
  · rw [row_set h.box.row, hc]
  · exact (he.keep ht (fun k hk hB => by have := hB.1; omega)).wide (Nat.le_refl _) hg.size
  · exact hd.grown hg (fun k hk => by injection hk with hk; omega)
theorem free (h : Rd w0 W B gm gr lo m s A c A' c' N) (i : Nat) : W.frozen? ⟨gm, i, none⟩ = false := row_free h.box.row i
end Rd
theorem set_cells (m : M) (A : Option Addr) (c : Nat) (A' : Option Addr) (c' : Nat) (r : Nat) (hr : r ∈ nums) (v : Int) : (#[.int .i64 m.K, .int .i64 m.F, .int .i64 m.T, .int .i64 m.g, .int .i64 m.t, .int .i64 m.i, .int .i64 m.p, .int .i64 m.c, .int .i64 m.r, .int .i64 m.x, .int .i64 m.a, .int .i64 m.b, .int .i64 m.v, .int .i64 m.s, .bool m.ok, .slice A m.es.length c, .slice A' m.d.length c'] : Array Value).setIfInBounds (ix r) (.int .i64 v) = (#[.int .i64 ((m.set r v)).K, .int .i64 ((m.set r v)).F, .int .i64 ((m.set r v)).T, .int .i64 ((m.set r v)).g, .int .i64 ((m.set r v)).t, .int .i64 ((m.set r v)).i, .int .i64 ((m.set r v)).p, .int .i64 ((m.set r v)).c, .int .i64 ((m.set r v)).r, .int .i64 ((m.set r v)).x, .int .i64 ((m.set r v)).a, .int .i64 ((m.set r v)).b, .int .i64 ((m.set r v)).v, .int .i64 ((m.set r v)).s, .bool ((m.set r v)).ok, .slice A ((m.set r v)).es.length c, .slice A' ((m.set r v)).d.length c'] : Array Value) := by
  simp only [nums, List.mem_cons, List.not_mem_nil, or_false] at hr
  rcases hr with rfl | rfl | rfl | rfl | rfl | rfl | rfl | rfl | rfl | rfl | rfl | rfl | rfl | rfl <;> rfl
theorem set_es (m : M) (r : Nat) (v : Int) : (m.set r v).es = m.es ∧ (m.set r v).d = m.d := by
  by_cases hr : r ∈ nums
  · simp only [nums, List.mem_cons, List.not_mem_nil, or_false] at hr
    rcases hr with rfl | rfl | rfl | rfl | rfl | rfl | rfl | rfl | rfl | rfl | rfl | rfl | rfl | rfl <;> exact ⟨rfl, rfl⟩
  · rw [set_out m r v hr]; exact ⟨rfl, rfl⟩
/-- but for the box and the reader, nothing below lo is turned -/
structure Kept (lo gm gr : Nat) (W W' : World) : Prop where
  size : W.heap.size ≤ W'.heap.size
  same : ∀ k, k < lo → k < W.heap.size → k ≠ gm → k ≠ gr → W'.heap[k]? = W.heap[k]?
namespace Kept
variable {lo gm gr : Nat} {a b c : World}
theorem trans (h : Kept lo gm gr a b) (h' : Kept lo gm gr b c) : Kept lo gm gr a c := ⟨Nat.le_trans h.size h'.size, fun k h1 h2 h3 h4 => (h'.same k h1 (Nat.lt_of_lt_of_le h2 h.size) h3 h4).trans (h.same k h1 h2 h3 h4)⟩
theorem rd (h : a.grownBy b (some gr)) : Kept lo gm gr a b := ⟨h.size, fun k _ h2 _ h4 => h.block k h2 (fun e => h4 (Option.some.inj e))⟩
theorem st (a : World) (i : Nat) (u : Value) : Kept lo gm gr a (a.setCell ⟨gm, i, none⟩ u) := ⟨(grown_setCell a gm i u).size, fun k _ h2 h3 _ => (grown_setCell a gm i u).block k h2 (fun e => h3 (Option.some.inj e))⟩
theorem bel (h : Below lo a b) : Kept lo gm gr a b := ⟨h.size, fun k h1 _ _ _ => h.block k h1⟩
end Kept
/-- what is told of a field that is read -/
def Told (w0 W : World) (B gm gr lo N : Nat) (A : Option Addr) (c : Nat) (A' : Option Addr) (c' : Nat) (r : Nat) (x : Option (M × Pk.St)) (e : Ending) (w' : World) : Prop :=
  match x with
  | none => e = .returned (.bool false) ∧ Below B w0 w'
  | some (m, s) => ∃ A2 c2 A3 c3, e = .returned (.bool true) ∧ Rd w0 w' B gm gr lo m s A2 c2 A3 c3 (N + 3000) ∧ Kept lo gm gr W w' ∧ (r ≠ 101 → A2 = A ∧ c2 = c) ∧ (r ≠ 100 → A3 = A' ∧ c3 = c')
set_option maxHeartbeats 1600000 in
theorem getNum_any (w0 W : World) (B gm gr lo : Nat) (m : M) (s : Pk.St) (A : Option Addr) (c : Nat) (A' : Option Addr) (c' N : Nat) (h : Rd w0 W B gm gr lo m s A c A' c' N) (r : Nat) (hr : r ∈ nums) :
    Calls Tryd.prog 74 #[.pointer (some ⟨gr, 0, none⟩), .pointer (some ⟨gm, 0, none⟩), .int .i32 (r : Int)] W fun e w' => Told w0 W B gm gr lo N A c A' c' r (rdF m s r) e w' := by
  have hlt : r < 128 := by
    simp only [nums, List.mem_cons, List.not_mem_nil, or_false] at hr
    omega
  have h111 : (r : Int) ≠ 111 := by
    simp only [nums, List.mem_cons, List.not_mem_nil, or_false] at hr
    omega
  have h101 : (r : Int) ≠ 101 := by
    simp only [nums, List.mem_cons, List.not_mem_nil, or_false] at hr
    omega
  have h100 : (r : Int) ≠ 100 := by
    simp only [nums, List.mem_cons, List.not_mem_nil, or_false] at hr
    omega
  have HF : Hid (rdF m s r = some (m.set r (Pk.rdInt s).1, (Pk.rdInt s).2)) := by
    show _ = _
    unfold rdF; rw [if_neg (by omega), if_neg (by omega), if_neg (by omega)]
  have hN := number_any gm r hlt
  rw [show ptr gm r = some ⟨gm, ix r, none⟩ from if_pos hr] at hN
  have HN := hid hN
  have HI := hid (int_rdr gr s W h.rdr)
  have hin := Pk.rdInt_in s h.rdr.small
  have HH := hid (And.intro h (And.intro hin hr))
  clear hN h hr hin
  go_enter Tryd.func74, Tryd.ntmps74
  go_wp2_with fail
  refine (HN.out _).mono ?_
  rintro e w1 ⟨rfl, rfl⟩
  go_wp2_with fail
  refine HI.out.mono ?_
  rintro e w1 ⟨rfl, hR, hG⟩
  have h1 := HH.out.1.read hR hG (Pk.rdInt_short s)
  have hc := (h1.box.cell (ix r)).trans (num_cell m A c A' c' r HH.out.2.2)
  have hf := h1.free (ix r)
  have hes := set_es m r (Pk.rdInt s).1
  have h2 := h1.store (N' := N + 3000) (set_cells m A c A' c' r HH.out.2.2 (Pk.rdInt s).1) (by rw [hes.1]; exact h1.es) (by rw [hes.2]; exact h1.d) (fun q hq => by
    rw [num_set m r q _ hq]
    split
    · exact HH.out.2.1
    · exact h1.num q hq) (by rw [hes.1]; have := h1.few; omega)
  have H2 := hid (And.intro h2 ((Kept.rd (lo := lo) (gm := gm) hG).trans (Kept.st w1 (ix r) (.int .i64 (Pk.rdInt s).1))))
  clear hR hG h1 hes h2
  go_wp2_with fail
  go_ret
  rw [HF.out]
  exact ⟨A, c, A', c', rfl, H2.out.1, H2.out.2, fun _ => ⟨rfl, rfl⟩, fun _ => ⟨rfl, rfl⟩⟩
end Go.Proofs.YtpigekbfngalbaaDoor.Ms
