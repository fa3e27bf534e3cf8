/- The walk through Scan. -/
import Derived.Test.YtomnbaeokmpobaaJoI
import Derived.WalkMore
import Derived.ScopeJumps
namespace Go.Proofs.Ytomnbaeokmpobaa
open Go.RowKit

theorem row_new (w : World) (v : Value) (t : TypeId) : (w.alloc (.cells #[v] t)).cell? ⟨w.heap.size, 0, none⟩ = some v := by
  have h := heap_alloc_new w (.cells #[v] t)
  simp only [World.cell?, h]
  rfl
namespace J
theorem scan_wrong (Z : Nat → Prop) (d : Dk) (s : Sx.St) (f n e : Int) (hf : InInt f) (hr : ¬ Jo.Right s.n f n e) (w : World) (h : DiskAt w Z d s) :
    Calls Try.prog 10 #[.pointer (some ⟨d.g, 0, none⟩), .int .i64 f, .int .i64 n, .int .i64 e] w fun e' w' => e' = .returned (.tuple #[.slice none 0 0, .int .i64 3]) ∧ w' = w := by
  have HV := hid (valid_any Z d s f n e hf w h)
  rw [decide_eq_false hr] at HV
  clear h hr
  go_enter Try.func10, Try.ntmps10
  go_wp2_with fail
  go_step3
  go_wp2_with fail
  refine HV.out.mono ?_
  rintro e1 w1 ⟨rfl, rfl⟩
  go_wp2
  rw [Exit.noGoto_ret]
  go_ret2
  exact ⟨rfl, rfl⟩
theorem expected_at (A : Option Addr) (c : Nat) (l : List Nat) (N : Nat) (hN : l.length = N) (hc : N ≤ c) (hc2 : c ≤ maxLen) (hz : A = none → c = 0) (hl : N ≤ 100000) (e : Int) (he : InInt e) (q : Nat) (hq : q ≤ 100000) (r : Nat) (hr : r ≤ 100000) (x1 : List Nat) (lst ok : Bool) (hx : Jo.due l e ((q + 1 : Nat) : Int) (r / 40) = (x1, lst, ok)) (w : World) (h : IsBytes w w.heap.size A l) :
    ∀ m i : Int, m = q + 1 → i = (r : Int) / 40 → Calls Try.prog 24 #[.slice A N c, .int .i64 e, .int .i64 m, .int .i64 i] w fun e' w' => ∃ A' c', e' = .returned (.tuple #[.slice A' x1.length c', .bool lst, .bool ok]) ∧
      IsBytes w' w'.heap.size A' x1 ∧ (A' = none → c' = 0) ∧ Below w.heap.size w w' := by
  rintro m i rfl rfl
  have h1 := expected_any A c l N hN hc hc2 hz hl e ((q + 1 : Nat) : Int) he (by unfold InInt; omega) (r / 40) (by omega) w h
  rw [hx, show ((q + 1 : Nat) : Int) = (q : Int) + 1 from by omega, show ((r / 40 : Nat) : Int) = (r : Int) / 40 from by omega] at h1
  refine h1.mono ?_
  rintro e' w' ⟨A', c', n', h2, h3, h4⟩
  subst h3
  exact ⟨A', c', h2, h4⟩
set_option maxRecDepth 100000 in
set_option maxHeartbeats 2000000 in
theorem scan_any (Z : Nat → Prop) (d : Dk) (s : Sx.St) (f n : Nat) (e : Int) (hr : Jo.Right s.n f n e) (w : World) (h : DiskAt w Z d s) :
    Calls Try.prog 10 #[.pointer (some ⟨d.g, 0, none⟩), .int .i64 (f : Int), .int .i64 (n : Int), .int .i64 e] w fun e' w' => Hid (∃ A c, e' = .returned (.tuple #[.slice A (Jo.scan (Jo.rdOf s) e n f [] []).length c, .int .i64 0]) ∧
      RowsAt w' (fun k => k < w.heap.size) (.slice A (Jo.scan (Jo.rdOf s) e n f [] []).length c) (Jo.scan (Jo.rdOf s) e n f [] []) ∧ Below w.heap.size w w') := by
  have hbd := h.bound
  have hR : InInt (f : Int) ∧ f + n ≤ s.n ∧ 1 ≤ n ∧ InInt e ∧ n ≤ 16384 := by obtain ⟨h1, h2, h3, h4, h5⟩ := hr; unfold InInt; omega
  have HV := hid (valid_any Z d s f n e hR.1 w h)
  rw [decide_eq_true hr] at HV
  obtain ⟨L, hL⟩ : ∃ L, L = Jo.scan (Jo.rdOf s) e n f [] [] := ⟨_, rfl⟩
  rw [← hL]
  have HX := hid (And.intro h (And.intro hR hbd))
  have hfn : (f : Int) + n ≤ 16384 := by omega
  have HL := hid hL.symm
  clear h hr hR hL hbd
  go_enter Try.func10, Try.ntmps10
  go_wp2_with fail
  go_step3
  go_wp2_with fail
  refine HV.out.mono ?_
  rintro e1 w1 ⟨rfl, hw1⟩
  subst hw1
  go_wp2_with fail
  go_step3
  go_wp2_with fail
  go_loopw [10, 11, 12] (fun vR vr i wr => ∃ (k : Nat) (R : List (List Nat)) (r : List Nat) (A : Option Addr) (c AR cR : _), k ≤ n ∧ i = .int .i64 ((f : Int) + (k : Int)) ∧ vR = .slice AR R.length cR ∧ vr = .slice A r.length c ∧ R.length ≤ k ∧ r.length ≤ 32768 ∧
    Hid (RowsAt wr (fun b => b < w1.heap.size ∨ blk A = some b) (.slice AR R.length cR) R ∧ OwnsB 5 wr w1.heap.size A c r ∧ Below w1.heap.size w1 wr ∧ Jo.scan (Jo.rdOf s) e (n - k) (f + k) R r = L)) (fun _ _ i _ => ((f : Int) + n - RowKit.intOf i).toNat)
  case atStart => exact ⟨0, [], [], none, 0, none, 0, by omega, by simp, rfl, rfl, by simp, by simp, hid ⟨RowsAt.nil _ _, OwnsB.nil _ _ _, Below.refl _ _, HL.out⟩⟩
  case round =>
    obtain ⟨k, R, r, A, c, AR, cR, hk, rfl, rfl, rfl, hRk, hr32, HI⟩ := hrel
    by_cases hlt : k < n
    · have hlt0 : (f : Int) + k < (f : Int) + n := by omega
      obtain ⟨m, hm⟩ : ∃ m, n - k = m + 1 := ⟨n - k - 1, by omega⟩
      obtain ⟨b, hbB⟩ : ∃ b, b = Sx.rdB s ((f : Int) + k) := ⟨_, rfl⟩
      obtain ⟨E, hE⟩ : ∃ E, E = Sx.rdE s ((f : Int) + k) := ⟨_, rfl⟩
      obtain ⟨x1, lst, ok, hx⟩ : ∃ x1 lst ok, Hid (Jo.due b e ((R.length + 1 : Nat) : Int) (r.length / 40) = (x1, lst, ok)) := ⟨_, _, _, rfl⟩
      have HRd := hid (read_any Z d s ((f : Int) + k) wr (HX.out.1.below HI.out.2.2.1))
      rw [← hbB, ← hE] at HRd
      have hb64 : b.length ≤ 64 := by rw [hbB]; exact HX.out.1.rd_len _
      have HSc : Hid ((if E ≠ 0 ∨ ok = false ∨ 32768 < r.length + x1.length then R else if lst then Jo.scan (Jo.rdOf s) e m (f + k + 1) (R ++ [r ++ x1]) [] else Jo.scan (Jo.rdOf s) e m (f + k + 1) R (r ++ x1)) = L) := by
        have h1 := HI.out.2.2.2
        rw [hm, Jo.scan] at h1
        have h2 : Jo.rdOf s (f + k) = (E, b) := by rw [hE, hbB]; unfold Jo.rdOf; rw [Int.natCast_add]
        simp only [h2, hx.out] at h1
        exact hid h1
      have HX2 := hid (And.intro (show b.length ≤ 100000 by omega) (And.intro HX.out.2.1.2.2.2.1 (And.intro (show R.length ≤ 100000 by have := HX.out.2.1.2.2.2.2; omega) (show r.length ≤ 100000 by omega))))
      have hx64 : x1.length ≤ 64 := by have h1 := Jo.due_len b e ((R.length + 1 : Nat) : Int) (r.length / 40); rw [hx.out] at h1; exact Nat.le_trans h1 hb64
      clear hbB hE
      by_cases hE0 : E = 0
      · subst hE0
        cases ok with
        | false =>
          have hRL : R = L := by have := HSc.out; rw [if_pos (.inr (.inl rfl))] at this; exact this
          have HRL := hid hRL
          clear hRL
          go_wp2_with fail
          refine (HRd.out).mono ?_
          rintro e2 w2 ⟨A1, c1, rfl, hown1, hb1⟩
          have HE := hid (expected_at A1 c1 b b.length rfl hown1.cap hown1.capLe hown1.none_ HX2.out.1 e HX2.out.2.1 R.length HX2.out.2.2.1 r.length HX2.out.2.2.2 x1 _ _ hx.out w2 hown1.reads)
          have HB1 := hid hb1
          clear hb1 hown1
          go_wp2_with fail
          refine (HE.out _ _ (by omega) (by omega)).mono ?_
          rintro e3 w3 ⟨A', c', rfl, hpb, hpn, hb3⟩
          have HP := hid (And.intro hpb (And.intro hpn (HB1.out.trans (hb3.mono HB1.out.size))))
          clear hpb hpn hb3 HE
          go_wp2_with fail
          rw [Exit.noGoto_ret]
          go_ret2
          have hRL := HRL.out
          subst hRL
          exact hid ⟨AR, cR, rfl, (HI.out.1.below HP.out.2.2).mono (fun _ h => .inl h), HI.out.2.2.1.trans (HP.out.2.2.mono HI.out.2.2.1.size)⟩
        | true =>
          by_cases hl3 : 32768 < r.length + x1.length
          · have hl3i : (32768 : Int) < (r.length : Int) + (x1.length : Int) := by omega
            have hRL : R = L := by have := HSc.out; rw [if_pos (.inr (.inr hl3))] at this; exact this
            have HRL := hid hRL
            clear hRL
            clear hl3
            go_wp2_with fail
            refine (HRd.out).mono ?_
            rintro e2 w2 ⟨A1, c1, rfl, hown1, hb1⟩
            have HE := hid (expected_at A1 c1 b b.length rfl hown1.cap hown1.capLe hown1.none_ HX2.out.1 e HX2.out.2.1 R.length HX2.out.2.2.1 r.length HX2.out.2.2.2 x1 _ _ hx.out w2 hown1.reads)
            have HB1 := hid hb1
            clear hb1 hown1
            go_wp2_with fail
            refine (HE.out _ _ (by omega) (by omega)).mono ?_
            rintro e3 w3 ⟨A', c', rfl, hpb, hpn, hb3⟩
            have HP := hid (And.intro hpb (And.intro hpn (HB1.out.trans (hb3.mono HB1.out.size))))
            clear hpb hpn hb3 HE
            go_wp2_with fail
            rw [Exit.noGoto_ret]
            go_ret2
            have hRL := HRL.out
            subst hRL
            exact hid ⟨AR, cR, rfl, (HI.out.1.below HP.out.2.2).mono (fun _ h => .inl h), HI.out.2.2.1.trans (HP.out.2.2.mono HI.out.2.2.1.size)⟩
          · have hl3i : ¬ (32768 : Int) < (r.length : Int) + (x1.length : Int) := by omega
            have HSc2 : Hid ((if lst then Jo.scan (Jo.rdOf s) e m (f + k + 1) (R ++ [r ++ x1]) [] else Jo.scan (Jo.rdOf s) e m (f + k + 1) R (r ++ x1)) = L) := by
              have := HSc.out
              rw [if_neg (by simp only [ne_eq, not_true_eq_false, Bool.true_eq_false, false_or]; exact hl3)] at this
              exact hid this
            have HL3 := hid hl3
            obtain ⟨i0, hi, hz0, hz1, hz2⟩ := info_parts info_u8
            clear hl3
            cases lst with
            | true =>
              go_wp2_with fail
              refine (HRd.out).mono ?_
              rintro e2 w2 ⟨A1, c1, rfl, hown1, hb1⟩
              have HE := hid (expected_at A1 c1 b b.length rfl hown1.cap hown1.capLe hown1.none_ HX2.out.1 e HX2.out.2.1 R.length HX2.out.2.2.1 r.length HX2.out.2.2.2 x1 _ _ hx.out w2 hown1.reads)
              have HB1 := hid hb1
              clear hb1 hown1
              go_wp2_with fail
              refine (HE.out _ _ (by omega) (by omega)).mono ?_
              rintro e3 w3 ⟨A', c', rfl, hpb, hpn, hb3⟩
              have HP := hid (And.intro hpb (And.intro hpn (HB1.out.trans (hb3.mono HB1.out.size))))
              clear hpb hpn hb3 HE
              have HQ : Hid (RowsAt w3 (fun b => b < w1.heap.size ∨ blk A = some b) (.slice AR R.length cR) R ∧ OwnsB 5 w3 w1.heap.size A c r ∧ Below w1.heap.size w1 w3) := hid ⟨HI.out.1.below HP.out.2.2, HI.out.2.1.below HP.out.2.2, HI.out.2.2.1.trans (HP.out.2.2.mono HI.out.2.2.1.size)⟩
              have hr3 : r.length + x1.length ≤ 100000 := by have := HL3.out; omega
              go_wp2_with (at_builtin; refine wpList_append_bytesAt rfl _ _ 43 rfl w1.heap.size 5 i0 Try.underlying43 hi hz0 hz1 hz2 A c r rfl HQ.out.2.1 w3.heap.size A' c' x1 rfl HP.out.2.1 HP.out.1 (by omega) HQ.out.2.2.size ?_)
              intro A2 c2 w4 hown4 hgr4 _
              have hb4 : Below w1.heap.size w1 w4 := HQ.out.2.2.trans (below_grown hgr4 HQ.out.2.2.size (fun j ej => (HQ.out.2.1.blkLt j ej).1))
              have hR4 : RowsAt w4 (fun b => b < w1.heap.size) (.slice AR R.length cR) R := (HQ.out.1.keep (Turned.ofGrown hgr4 (fun j ej => .inr ej))).mono (fun _ h => .inl h)
              have HP4 := hid (And.intro hR4 (And.intro hown4 hb4))
              clear hR4 hown4 hb4 hgr4
              go_wp2_with (at_builtin; refine wpList_append_row rfl _ _ rfl (fun b => b < w1.heap.size) (fun b hb => by have := HP4.out.2.2.size; simp; omega) _ R rfl (HP4.out.1.below ((Below.refl _ _).alloc (Nat.le_refl _) _)) ⟨w4.heap.size, 0, none⟩ 1 A2 c2 (r ++ x1) (r.length + x1.length) (List.length_append) rfl (row_new _ _ _) ((OwnsZ.of HP4.out.2.1).keep (Turned.ofBelow _ ((Below.refl _ _).alloc (Nat.le_refl _) _))) hr3 _ rfl R.length rfl (by omega) ?_; intro A3 c3 w5 hR5 ht5)
              have hb5 : Below w1.heap.size w1 w5 := (HP4.out.2.2.alloc HP4.out.2.2.size _).trans (ht5.below (by have := HP4.out.2.2.size; simp; omega) (fun j hj => by omega))
              have HP5 := hid (And.intro hR5 hb5)
              clear hR5 ht5 hb5
              go_wp2
              go_roundw
              case rel =>
                refine ⟨k + 1, R ++ [r ++ x1], [], none, 0, A3, c3, by omega, by go_num, by rw [List.length_append]; rfl, rfl, by rw [List.length_append]; simp; omega, by simp, hid ⟨?_, OwnsB.nil _ _ _, HP5.out.2, ?_⟩⟩
                · refine (show RowsAt w5 (fun b => b < w1.heap.size) (.slice A3 (R ++ [r ++ x1]).length c3) (R ++ [r ++ x1]) from ?_).mono (fun b h => h.elim id (fun h => by cases h))
                  rw [List.length_append]
                  exact HP5.out.1
                · have := HSc2.out
                  rw [if_pos trivial] at this
                  rw [show n - (k + 1) = m from by omega, show f + (k + 1) = f + k + 1 from by omega]
                  exact this
              case measure => simp [RowKit.intOf]; omega
            | false =>
              go_wp2_with fail
              refine (HRd.out).mono ?_
              rintro e2 w2 ⟨A1, c1, rfl, hown1, hb1⟩
              have HE := hid (expected_at A1 c1 b b.length rfl hown1.cap hown1.capLe hown1.none_ HX2.out.1 e HX2.out.2.1 R.length HX2.out.2.2.1 r.length HX2.out.2.2.2 x1 _ _ hx.out w2 hown1.reads)
              have HB1 := hid hb1
              clear hb1 hown1
              go_wp2_with fail
              refine (HE.out _ _ (by omega) (by omega)).mono ?_
              rintro e3 w3 ⟨A', c', rfl, hpb, hpn, hb3⟩
              have HP := hid (And.intro hpb (And.intro hpn (HB1.out.trans (hb3.mono HB1.out.size))))
              clear hpb hpn hb3 HE
              have HQ : Hid (RowsAt w3 (fun b => b < w1.heap.size ∨ blk A = some b) (.slice AR R.length cR) R ∧ OwnsB 5 w3 w1.heap.size A c r ∧ Below w1.heap.size w1 w3) := hid ⟨HI.out.1.below HP.out.2.2, HI.out.2.1.below HP.out.2.2, HI.out.2.2.1.trans (HP.out.2.2.mono HI.out.2.2.1.size)⟩
              have hr3 : r.length + x1.length ≤ 32768 := by have := HL3.out; omega
              go_wp2_with (at_builtin; refine wpList_append_bytesAt rfl _ _ 43 rfl w1.heap.size 5 i0 Try.underlying43 hi hz0 hz1 hz2 A c r rfl HQ.out.2.1 w3.heap.size A' c' x1 rfl HP.out.2.1 HP.out.1 (by omega) HQ.out.2.2.size ?_)
              intro A2 c2 w4 hown4 hgr4 hbl4
              have hb4 : Below w1.heap.size w1 w4 := HQ.out.2.2.trans (below_grown hgr4 HQ.out.2.2.size (fun j ej => (HQ.out.2.1.blkLt j ej).1))
              have hR4 : RowsAt w4 (fun b => b < w1.heap.size ∨ blk A2 = some b) (.slice AR R.length cR) R := (HQ.out.1.shun.keep (Turned.ofGrown hgr4 (fun j ej => .inl (.inr ej)))).mono (fun b h => h.elim (fun h => .inl (.inl h)) (fun h => by
                rcases hbl4 with h1 | h1
                · exact .inl (.inr (h1 ▸ h))
                · rw [h1] at h
                  injection h with h
                  exact .inr (Nat.le_of_eq h)))
              have HP4 := hid (And.intro hR4 (And.intro hown4 hb4))
              clear hR4 hown4 hb4 hgr4 hbl4
              go_wp2
              go_roundw
              case rel =>
                refine ⟨k + 1, R, r ++ x1, A2, c2, AR, cR, by omega, by go_num, rfl, by rw [List.length_append], by omega, by rw [List.length_append]; exact hr3, hid ⟨HP4.out.1, HP4.out.2.1, HP4.out.2.2, ?_⟩⟩
                have := HSc2.out
                rw [if_neg (by simp)] at this
                rw [show n - (k + 1) = m from by omega, show f + (k + 1) = f + k + 1 from by omega]
                exact this
              case measure => simp [RowKit.intOf]; omega
      · have hEb : (E != 0) = true := by rw [bne_iff_ne]; exact hE0
        have hRL : R = L := by have := HSc.out; rw [if_pos (.inl hE0)] at this; exact this
        have HRL := hid hRL
        clear hRL
        clear hE0
        go_wp2_with fail
        refine (HRd.out).mono ?_
        rintro e2 w2 ⟨A1, c1, rfl, hown1, hb1⟩
        have HE := hid (expected_at A1 c1 b b.length rfl hown1.cap hown1.capLe hown1.none_ HX2.out.1 e HX2.out.2.1 R.length HX2.out.2.2.1 r.length HX2.out.2.2.2 x1 _ _ hx.out w2 hown1.reads)
        have HB1 := hid hb1
        clear hb1 hown1
        go_wp2_with fail
        refine (HE.out _ _ (by omega) (by omega)).mono ?_
        rintro e3 w3 ⟨A', c', rfl, hpb, hpn, hb3⟩
        have HP := hid (And.intro hpb (And.intro hpn (HB1.out.trans (hb3.mono HB1.out.size))))
        clear hpb hpn hb3 HE
        go_wp2_with fail
        rw [Exit.noGoto_ret]
        go_ret2
        have hRL := HRL.out
        subst hRL
        exact hid ⟨AR, cR, rfl, (HI.out.1.below HP.out.2.2).mono (fun _ h => .inl h), HI.out.2.2.1.trans (HP.out.2.2.mono HI.out.2.2.1.size)⟩
    · have hlt0 : ¬ (f : Int) + k < (f : Int) + n := by omega
      obtain rfl : k = n := by omega
      have hfin : R = L := by
        have := HI.out.2.2.2
        rw [Nat.sub_self] at this
        exact this
      go_wp2_with fail
      go_ret2
      subst hfin
      exact hid ⟨AR, cR, rfl, HI.out.1.mono (fun _ h => .inl h), HI.out.2.2.1⟩
end J
end Go.Proofs.Ytomnbaeokmpobaa
