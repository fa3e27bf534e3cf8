/- The walks through the functions that hold what is under way against what was sent: apart, was. -/
import Derived.Test.YtckfjkhjnpkobaaPoBits
namespace Go.Proofs.Ytckfjkhjnpkobaa
open Go.RowKit

theorem and_one8 (r : Nat) (h : r < 256) : bits .and .u8 (r : Int) 1 = ((r % 2 : Nat) : Int) := by
  have := u8_and_nat r 1 h (by omega)
  rw [Nat.and_one_is_mod] at this
  exact this

set_option maxHeartbeats 1600000 in
set_option maxRecDepth 100000 in
theorem apart_any (B B' : Nat) (A A' : Option Addr) (c c' : Nat) (l m : List Nat) (hl : l.length ≤ 1024) (w : World) (h : IsBytes w B A l) (h' : IsBytes w B' A' m) :
    Calls Try.prog 43 #[.slice A l.length c, .slice A' m.length c'] w fun e w' => e = .returned (.int .i64 (Po.apart l m)) ∧ ∃ n, w' = w.drewN n := by
  by_cases hlm : l.length = m.length
  · have HA : Hid (Po.apart l m = ((Po.unlike l m).sum : Nat)) := hid (by unfold Po.apart; rw [if_pos hlm])
    have hlm0 : (l.length : Int) = (m.length : Int) := by omega
    have HLM := hid hlm
    clear hlm
    go_enter Try.func43, Try.ntmps43
    go_wp2_with fail
    go_loopw [5, 6] (fun n i wr => ∃ k N : Nat, k ≤ l.length ∧ n = .int .i64 (N : Nat) ∧ i = .int .i64 (k : Nat) ∧ Hid (((Po.unlike l m).take k).sum = N ∧ ∃ j, wr = w.drewN j)) (fun _ i _ => l.length - (RowKit.intOf i).toNat)
    case atStart => exact ⟨0, 0, by omega, rfl, rfl, hid ⟨by simp, 0, rfl⟩⟩
    case round =>
      obtain ⟨k, N, hk, rfl, rfl, hS⟩ := hrel
      by_cases hlt : k < l.length
      · have hk1 : k < m.length := by have := HLM.out; omega
        have hr : IsBytes wr B A l := by obtain ⟨_, j, rfl⟩ := hS.out; exact h.drewN j
        have hr' : IsBytes wr B' A' m := by obtain ⟨_, j, rfl⟩ := hS.out; exact h'.drewN j
        obtain ⟨b, off, rfl, _, hc⟩ := hr.cells k hlt
        obtain ⟨b', off', rfl, _, hc'⟩ := hr'.cells k hk1
        have c0 := hc k hlt
        have c1 := hc' k hk1
        have h8 := h.small l[k] (List.getElem_mem hlt)
        have h9 := h'.small m[k] (List.getElem_mem hk1)
        have HX : Hid (bits .xor .u8 (l[k] : Int) (m[k] : Int) = ((l[k] ^^^ m[k] : Nat) : Int) ∧ l[k] ^^^ m[k] < 256) := hid ⟨u8_xor_nat l[k] m[k] h8 h9, by have := Nat.xor_lt_two_pow (n := 8) h8 h9; simpa using this⟩
        have HT : Hid (((Po.unlike l m).take (k + 1)).sum = N + Po.popc 8 (l[k] ^^^ m[k])) := hid (by
          rw [Po.sum_take_succ _ _ (by rw [Po.unlike_length l m HLM.out]; exact hlt), hS.out.1, Po.unlike_get l m k hlt hk1])
        have hk0 : (k : Int) < (l.length : Int) := by omega
        have hk01 : (k : Int) < (m.length : Int) := by omega
        have hTb := Po.sum_le l m (k + 1)
        rw [HT.out] at hTb
        have hTc : N + Po.popc 8 (l[k] ^^^ m[k]) ≤ 9000 := by omega
        obtain ⟨X0, hX0⟩ : ∃ X0, X0 = l[k] ^^^ m[k] := ⟨_, rfl⟩
        rw [← hX0] at HX HT hTc
        obtain ⟨va, hva⟩ : ∃ va : Nat, va = l[k] := ⟨_, rfl⟩
        obtain ⟨vb, hvb⟩ : ∃ vb : Nat, vb = m[k] := ⟨_, rfl⟩
        rw [← hva] at c0 HX
        rw [← hvb] at c1 HX
        have HD := hid hS.out.2
        clear hc hc' hr hr' h8 h9 hX0 hva hvb hTb h h' hS
        go_wp2_with fail
        go_quiet (fail)
        go_wp2_with fail
        rw [HX.out.1]
        have hX8 := HX.out.2
        obtain ⟨T, hT⟩ : ∃ T, T = N + Po.popc 8 X0 := ⟨_, rfl⟩
        rw [← hT] at HT hTc
        go_loopw [5, 7] (fun n x wr => ∃ f X M : Nat, X < 2 ^ f ∧ X < 256 ∧ n = .int .i64 (M : Nat) ∧ x = .int .u8 (X : Nat) ∧ Hid (M + Po.popc f X = T) ∧ M ≤ 9000 ∧ ∃ j, wr = w.drewN j) (fun _ x _ => (RowKit.intOf x).toNat)
        case atStart =>
          obtain ⟨j, hj⟩ := HD.out
          exact ⟨8, X0, N, by omega, hX8, rfl, rfl, hid hT.symm, by omega, j + nq, by rw [hj, World.drewN_drewN]⟩
        case round =>
          clear hT HD HX hX8
          obtain ⟨f, X, M, hf, hX, rfl, rfl, hP, hM, hD⟩ := hrel
          have HD := hid hD
          clear hD
          by_cases h0 : X = 0
          · subst h0
            have hTM : Hid (((Po.unlike l m).take (k + 1)).sum = M) := hid (by have := hP.out; rw [Po.popc_zero] at this; rw [HT.out]; omega)
            clear hP hf
            go_wp2_with fail
            go_roundw
            case rel => exact ⟨k + 1, M, by omega, by go_num, by go_num, hid ⟨hTM.out, HD.out⟩⟩
            case measure => simp [RowKit.intOf]; omega
          · rcases f with _ | f
            · exact absurd (show X = 0 by omega) h0
            · have ha := and_one8 X hX
              have h2 : X % 2 < 2 := Nat.mod_lt _ (by decide)
              have hP2 : Hid (M + X % 2 + Po.popc f (X / 2) = T) := hid (by have := hP.out; unfold Po.popc at this; omega)
              have hM2 : M + X % 2 ≤ 9000 := by have := hP2.out; omega
              have hf2 : X / 2 < 2 ^ f := by rw [Nat.pow_succ] at hf; omega
              have h00 : (X : Int) ≠ 0 := by omega
              obtain ⟨Y, hY⟩ : ∃ Y, Y = X % 2 := ⟨_, rfl⟩
              rw [← hY] at ha h2 hP2 hM2
              clear hP hf hY
              go_wp2_with fail
              go_roundw
              case rel => exact ⟨f, X / 2, M + Y, hf2, by omega, by go_num, by go_num, hP2, hM2, HD.out⟩
              case measure => simp [RowKit.intOf]; omega
      · obtain rfl : k = l.length := by omega
        have HE : Hid ((N : Int) = Po.apart l m) := hid (by
          rw [HA.out]
          have := hS.out.1
          rw [List.take_of_length_le (by rw [Po.unlike_length l m HLM.out]; exact Nat.le_refl _)] at this
          omega)
        have hkk : ¬ (l.length : Int) < (l.length : Int) := by omega
        have HD := hid hS.out.2
        clear hS h h'
        go_wp2_with fail
        go_ret
        exact ⟨ret_int HE.out, HD.out⟩
  · have HA : Hid (Po.apart l m = -1) := hid (by unfold Po.apart; rw [if_neg hlm])
    have hlm0 : ¬ (l.length : Int) = (m.length : Int) := by omega
    clear hlm
    go_enter Try.func43, Try.ntmps43
    go_wp2_with fail
    go_ret
    exact ⟨ret_int HA.out.symm, 0, rfl⟩

set_option maxHeartbeats 1600000 in
set_option maxRecDepth 100000 in
theorem was_any (B : Nat) (A : Option Addr) (c : Nat) (ts : List Po.Op) (hd : ∀ t ∈ ts, t.d.length ≤ 1024) (hlen : ts.length ≤ 400) (A' : Option Addr) (c' : Nat) (x : Po.Pk) (j : Nat) (hj : j < ts.length) (hk : ts[j].kind = 0) (ha : ts[j].a = x.a) (hb : ts[j].b = x.b) (hn : Po.apart ts[j].d x.d = 0 ∨ Po.apart ts[j].d x.d = 1)
    (w : World) (h : IsOps w B A ts) (hB : B ≤ w.heap.size) (h' : IsBytes w w.heap.size A' x.d) :
    Calls Try.prog 20 #[.slice A ts.length c, .agg #[.int .i64 x.a, .int .i64 x.b, .slice A' x.d.length c']] w fun e w' => e = .returned (.bool true) ∧ Below w.heap.size w w' := by
  obtain ⟨w1, hw1⟩ : ∃ w1, w1 = w.alloc (.cells #[.int .i64 x.a, .int .i64 x.b, .slice A' x.d.length c'] 42) := ⟨_, rfl⟩
  have hb1 : Below w.heap.size w w1 := by rw [hw1]; exact (Below.refl _ w).alloc (Nat.le_refl _) _
  have hs1 : w1.heap.size = w.heap.size + 1 := by rw [hw1]; simp
  have x0 : w1.cell? ⟨w.heap.size, 0, none⟩ = some (.int .i64 x.a) := by rw [hw1]; simp
  have x1 : w1.cell? ⟨w.heap.size, 1, none⟩ = some (.int .i64 x.b) := by rw [hw1]; simp
  have x2 : w1.cell? ⟨w.heap.size, 2, none⟩ = some (.slice A' x.d.length c') := by rw [hw1]; simp
  have HOB := hid (And.intro ((h.below (hb1.mono hB)).more (Nat.le_trans hB hb1.size)) (And.intro (h'.below hb1) hb1))
  have HJ := hid (And.intro hk (And.intro ha (And.intro hb hn)))
  have HD := hid (And.intro hd trivial)
  have HX : Hid (∀ n, (w1.drewN n).cell? ⟨w.heap.size, 0, none⟩ = some (.int .i64 x.a) ∧ (w1.drewN n).cell? ⟨w.heap.size, 1, none⟩ = some (.int .i64 x.b) ∧ (w1.drewN n).cell? ⟨w.heap.size, 2, none⟩ = some (.slice A' x.d.length c')) := hid (fun n => ⟨x0, x1, x2⟩)
  have HW := hid hw1
  clear h h' hk ha hb hn hd x0 x1 x2 hb1 hw1
  go_enter Try.func20, Try.ntmps20
  go_wp2_with fail
  rw [← HW.out]
  go_loopw [5] (fun i wr => ∃ k : Nat, k ≤ j ∧ i = .int .i64 k ∧ Hid (∃ n, wr = w1.drewN n)) (fun i _ => j + 1 - (RowKit.intOf i).toNat)
  case atStart => exact ⟨0, by omega, rfl, hid ⟨0, rfl⟩⟩
  case round =>
    obtain ⟨k, hkj, rfl, hS⟩ := hrel
    have hlt : k < ts.length := by omega
    obtain ⟨n, hwn⟩ := hS.out
    have hop : IsOps wr w1.heap.size A ts := by rw [hwn]; exact HOB.out.1.drewN n
    have hxb : IsBytes wr w.heap.size A' x.d := by rw [hwn]; exact HOB.out.2.1.drewN n
    obtain ⟨x0, x1, x2⟩ := HX.out n
    rw [← hwn] at x0 x1 x2
    obtain ⟨b, off, rfl, _, hc⟩ := hop.cells k hlt
    obtain ⟨ap, cp, c0, c1, c2, c3, hp, _⟩ := hc k hlt
    have hk0 : (k : Int) < (ts.length : Int) := by omega
    have HN := hid hwn
    have HAp : Hid (∀ q, Calls Try.prog 43 #[.slice ap ts[k].d.length cp, .slice A' x.d.length c'] (wr.drewN q) fun e w' => e = .returned (.int .i64 (Po.apart ts[k].d x.d)) ∧ ∃ n, w' = (wr.drewN q).drewN n) :=
      hid (fun q => apart_any _ _ ap A' cp c' ts[k].d x.d (HD.out.1 _ (List.getElem_mem hlt)) (wr.drewN q) (hp.drewN q) (hxb.drewN q))
    by_cases h1 : ts[k].kind = 0 ∧ ts[k].a = x.a ∧ ts[k].b = x.b
    · obtain ⟨k1, k2, k3⟩ := h1
      rw [k1] at c0
      rw [k2] at c1
      rw [k3] at c2
      obtain ⟨r, hr⟩ : ∃ r, r = Po.apart ts[k].d x.d := ⟨_, rfl⟩
      rw [← hr] at HAp
      by_cases hr2 : r = 0 ∨ r = 1
      · clear hop hxb hc hp hS hwn hr k1 k2 k3
        rcases hr2 with rfl | rfl
        · go_wp2_with fail
          go_quiet (fail)
          go_wp2_with fail
          obtain ⟨w2, hw2⟩ : ∃ w2, w2 = wr.drewN nq := ⟨_, rfl⟩
          have c3' : w2.cell? ⟨b, off + k * 4 + 3, none⟩ = some (.slice ap ts[k].d.length cp) := by rw [hw2]; exact c3
          have x2' : w2.cell? ⟨w.heap.size, 2, none⟩ = some (.slice A' x.d.length c') := by rw [hw2]; exact x2
          have HA2 : Hid (∀ q, Calls Try.prog 43 #[.slice ap ts[k].d.length cp, .slice A' x.d.length c'] (w2.drewN q) fun e w' => e = .returned (.int .i64 0) ∧ ∃ n, w' = (w2.drewN q).drewN n) := hid (fun q => by rw [hw2, World.drewN_drewN]; exact HAp.out _)
          rw [← hw2]
          have H2 := hid hw2
          clear hw2 c0 c1 c2 c3 x0 x1 x2 HAp
          go_quiet ((go_at_call 43; exact Calls.quiet_of (HA2.out _)))
          go_wp2_with fail
          go_ret
          rw [H2.out, HN.out, World.drewN_drewN, World.drewN_drewN]
          exact ⟨rfl, below_drewN HOB.out.2.2 _⟩
        · go_wp2_with fail
          go_quiet (fail)
          go_wp2_with fail
          obtain ⟨w2, hw2⟩ : ∃ w2, w2 = wr.drewN nq := ⟨_, rfl⟩
          have c3' : w2.cell? ⟨b, off + k * 4 + 3, none⟩ = some (.slice ap ts[k].d.length cp) := by rw [hw2]; exact c3
          have x2' : w2.cell? ⟨w.heap.size, 2, none⟩ = some (.slice A' x.d.length c') := by rw [hw2]; exact x2
          have HA2 : Hid (∀ q, Calls Try.prog 43 #[.slice ap ts[k].d.length cp, .slice A' x.d.length c'] (w2.drewN q) fun e w' => e = .returned (.int .i64 1) ∧ ∃ n, w' = (w2.drewN q).drewN n) := hid (fun q => by rw [hw2, World.drewN_drewN]; exact HAp.out _)
          rw [← hw2]
          have H2 := hid hw2
          clear hw2 c0 c1 c2 c3 x0 x1 x2 HAp
          go_quiet ((go_at_call 43; exact Calls.quiet_of (HA2.out _)))
          go_wp2_with fail
          go_ret
          rw [H2.out, HN.out, World.drewN_drewN, World.drewN_drewN]
          exact ⟨rfl, below_drewN HOB.out.2.2 _⟩
      · have hkne : k ≠ j := by
          rintro rfl
          exact hr2 (by rw [hr]; exact HJ.out.2.2.2)
        have r0 : ¬ r = 0 := fun e => hr2 (.inl e)
        have r1 : ¬ r = 1 := fun e => hr2 (.inr e)
        have r0b : (r == 0) = false := by simpa using r0
        have r1b : (r == 1) = false := by simpa using r1
        clear hop hxb hc hp hS hwn hr k1 k2 k3 hr2
        go_wp2_with fail
        go_quiet (fail)
        go_wp2_with fail
        obtain ⟨w2, hw2⟩ : ∃ w2, w2 = wr.drewN nq := ⟨_, rfl⟩
        have c3' : w2.cell? ⟨b, off + k * 4 + 3, none⟩ = some (.slice ap ts[k].d.length cp) := by rw [hw2]; exact c3
        have x2' : w2.cell? ⟨w.heap.size, 2, none⟩ = some (.slice A' x.d.length c') := by rw [hw2]; exact x2
        have HA2 : Hid (∀ q, Calls Try.prog 43 #[.slice ap ts[k].d.length cp, .slice A' x.d.length c'] (w2.drewN q) fun e w' => e = .returned (.int .i64 r) ∧ ∃ n, w' = (w2.drewN q).drewN n) := hid (fun q => by rw [hw2, World.drewN_drewN]; exact HAp.out _)
        rw [← hw2]
        have H2 := hid hw2
        clear hw2 c0 c1 c2 c3 x0 x1 x2 HAp
        go_quiet ((go_at_call 43; exact Calls.quiet_of (HA2.out _)))
        go_wp2_with fail
        go_roundw
        case rel => exact ⟨k + 1, by omega, by go_num, hid (by rw [H2.out, HN.out, World.drewN_drewN, World.drewN_drewN]; exact ⟨_, rfl⟩)⟩
        case measure => simp [RowKit.intOf]; omega
    · have hkne : k ≠ j := by
        rintro rfl
        exact h1 ⟨HJ.out.1, HJ.out.2.1, HJ.out.2.2.1⟩
      obtain ⟨tk, htk⟩ : ∃ tk, tk = ts[k].kind := ⟨_, rfl⟩
      obtain ⟨ta, hta⟩ : ∃ ta, ta = ts[k].a := ⟨_, rfl⟩
      obtain ⟨tb, htb⟩ : ∃ tb, tb = ts[k].b := ⟨_, rfl⟩
      rw [← htk, ← hta, ← htb] at h1
      rw [← htk] at c0
      rw [← hta] at c1
      rw [← htb] at c2
      clear hop hxb hc hp hS hwn HAp htk hta htb
      have HQ : ∀ q, ∃ n, wr.drewN q = w1.drewN n := fun q => ⟨_, by rw [HN.out, World.drewN_drewN]⟩
      have HQ := hid HQ
      by_cases k1 : tk = 0
      · subst k1
        by_cases k2 : ta = x.a
        · have k3 : ¬ tb = x.b := fun e => h1 ⟨rfl, k2, e⟩
          have k3b : (tb == x.b) = false := by simpa using k3
          have k3c : (tb != x.b) = true := by simpa using k3
          subst k2
          clear h1
          go_wp2_with fail
          go_quiet (fail)
          go_wp2_with fail
          go_roundw
          case rel => exact ⟨k + 1, by omega, by go_num, hid (HQ.out _)⟩
          case measure => simp [RowKit.intOf]; omega
        · have k2b : (ta == x.a) = false := by simpa using k2
          have k2c : (ta != x.a) = true := by simpa using k2
          clear h1
          go_wp2_with fail
          go_quiet (fail)
          go_wp2_with fail
          go_roundw
          case rel => exact ⟨k + 1, by omega, by go_num, hid (HQ.out _)⟩
          case measure => simp [RowKit.intOf]; omega
      · have k1b : (tk == 0) = false := by simpa using k1
        have k1c : (tk != 0) = true := by simpa using k1
        clear h1
        go_wp2_with fail
        go_quiet (fail)
        go_wp2_with fail
        go_roundw
        case rel => exact ⟨k + 1, by omega, by go_num, hid (HQ.out _)⟩
        case measure => simp [RowKit.intOf]; omega
end Go.Proofs.Ytckfjkhjnpkobaa
