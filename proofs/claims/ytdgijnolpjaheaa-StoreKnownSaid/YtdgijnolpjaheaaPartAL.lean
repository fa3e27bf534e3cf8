/- Texts of the proof, one behind the other: JoS, DiskG, DM, StMath, StA. -/
import Derived.Test.YtdgijnolpjaheaaPartAK
import Derived.WalkMore
import Derived.ScopeJumps
import Derived.Test.YtdgijnolpjaheaaPartAJ
import Derived.Test.YtdgijnolpjaheaaPartAE
import Derived.Test.YtdgijnolpjaheaaPartAH
import Derived.Deep.RegionHeld3
import Derived.StillTailTactics
namespace Go.Proofs.Ytdgijnolpjaheaa
open Go.RowKit

theorem row_new (w : World) (v : Value) (t : TypeId) : (w.alloc (.cells #[v] t)).cell? ⟨w.heap.size, 0, none⟩ = some v := by
  have h := heap_alloc_new w (.cells #[v] t)
  simp only [World.cell?, h]
  rfl
namespace J
theorem scan_wrong (Z : Nat → Prop) (d : Dk) (s : Sx.St) (f n e : Int) (hf : InInt f) (hr : ¬ Jo.Right s.n f n e) (w : World) (h : DiskAt w Z d s) :
    Calls Try.prog 59 #[.pointer (some ⟨d.g, 0, none⟩), .int .i64 f, .int .i64 n, .int .i64 e] w fun e' w' => e' = .returned (.tuple #[.slice none 0 0, .int .i64 3]) ∧ w' = w := by
  have HV := hid (valid_any Z d s f n e hf w h)
  rw [decide_eq_false hr] at HV
  clear h hr
  go_enter Try.func59, Try.ntmps59
  go_wp2_with fail
  go_step3
  go_wp2_with fail
  refine HV.out.mono ?_
  rintro e1 w1 ⟨rfl, rfl⟩
  go_wp2
  rw [Exit.noGoto_ret]
  go_ret2
  exact ⟨rfl, rfl⟩
theorem expected_at (A : Option Addr) (c : Nat) (l : List Nat) (N : Nat) (hN : l.length = N) (hc : N ≤ c) (hc2 : c ≤ maxLen) (hz : A = none → c = 0) (hl : N ≤ 100000) (e : Int) (he : InInt e) (q : Nat) (hq : q ≤ 100000) (r : Nat) (hr : r ≤ 100000) (x1 : List Nat) (lst ok : Bool) (hx : Jo.due l e ((q + 1 : Nat) : Int) (r / 40) = (x1, lst, ok)) (w : World) (h : IsBytes w w.heap.size A l) :
    ∀ m i : Int, m = q + 1 → i = (r : Int) / 40 → Calls Try.prog 73 #[.slice A N c, .int .i64 e, .int .i64 m, .int .i64 i] w fun e' w' => ∃ A' c', e' = .returned (.tuple #[.slice A' x1.length c', .bool lst, .bool ok]) ∧
      IsBytes w' w'.heap.size A' x1 ∧ (A' = none → c' = 0) ∧ Below w.heap.size w w' := by
  rintro m i rfl rfl
  have h1 := expected_any A c l N hN hc hc2 hz hl e ((q + 1 : Nat) : Int) he (by unfold InInt; omega) (r / 40) (by omega) w h
  rw [hx, show ((q + 1 : Nat) : Int) = (q : Int) + 1 from by omega, show ((r / 40 : Nat) : Int) = (r : Int) / 40 from by omega] at h1
  refine h1.mono ?_
  rintro e' w' ⟨A', c', n', h2, h3, h4⟩
  subst h3
  exact ⟨A', c', h2, h4⟩
set_option maxRecDepth 100000 in
set_option maxHeartbeats 2000000 in
theorem scan_any (Z : Nat → Prop) (d : Dk) (s : Sx.St) (f n : Nat) (e : Int) (hr : Jo.Right s.n f n e) (w : World) (h : DiskAt w Z d s) :
    Calls Try.prog 59 #[.pointer (some ⟨d.g, 0, none⟩), .int .i64 (f : Int), .int .i64 (n : Int), .int .i64 e] w fun e' w' => Hid (∃ A c, e' = .returned (.tuple #[.slice A (Jo.scan (Jo.rdOf s) e n f [] []).length c, .int .i64 0]) ∧
      RowsAt w' (fun k => k < w.heap.size) (.slice A (Jo.scan (Jo.rdOf s) e n f [] []).length c) (Jo.scan (Jo.rdOf s) e n f [] []) ∧ Below w.heap.size w w') := by
  have hbd := h.bound
  have hR : InInt (f : Int) ∧ f + n ≤ s.n ∧ 1 ≤ n ∧ InInt e ∧ n ≤ 16384 := by obtain ⟨h1, h2, h3, h4, h5⟩ := hr; unfold InInt; omega
  have HV := hid (valid_any Z d s f n e hR.1 w h)
  rw [decide_eq_true hr] at HV
  obtain ⟨L, hL⟩ : ∃ L, L = Jo.scan (Jo.rdOf s) e n f [] [] := ⟨_, rfl⟩
  rw [← hL]
  have HX := hid (And.intro h (And.intro hR hbd))
  have hfn : (f : Int) + n ≤ 16384 := by omega
  have HL := hid hL.symm
  clear h hr hR hL hbd
  go_enter Try.func59, Try.ntmps59
  go_wp2_with fail
  go_step3
  go_wp2_with fail
  refine HV.out.mono ?_
  rintro e1 w1 ⟨rfl, hw1⟩
  subst hw1
  go_wp2_with fail
  go_step3
  go_wp2_with fail
  go_loopw [10, 11, 12] (fun vR vr i wr => ∃ (k : Nat) (R : List (List Nat)) (r : List Nat) (A : Option Addr) (c AR cR : _), k ≤ n ∧ i = .int .i64 ((f : Int) + (k : Int)) ∧ vR = .slice AR R.length cR ∧ vr = .slice A r.length c ∧ R.length ≤ k ∧ r.length ≤ 32768 ∧
    Hid (RowsAt wr (fun b => b < w1.heap.size ∨ blk A = some b) (.slice AR R.length cR) R ∧ OwnsB 5 wr w1.heap.size A c r ∧ Below w1.heap.size w1 wr ∧ Jo.scan (Jo.rdOf s) e (n - k) (f + k) R r = L)) (fun _ _ i _ => ((f : Int) + n - RowKit.intOf i).toNat)
  case atStart => exact ⟨0, [], [], none, 0, none, 0, by omega, by simp, rfl, rfl, by simp, by simp, hid ⟨RowsAt.nil _ _, OwnsB.nil _ _ _, Below.refl _ _, HL.out⟩⟩
  case round =>
    obtain ⟨k, R, r, A, c, AR, cR, hk, rfl, rfl, rfl, hRk, hr32, HI⟩ := hrel
    by_cases hlt : k < n
    · have hlt0 : (f : Int) + k < (f : Int) + n := by omega
      obtain ⟨m, hm⟩ : ∃ m, n - k = m + 1 := ⟨n - k - 1, by omega⟩
      obtain ⟨b, hbB⟩ : ∃ b, b = Sx.rdB s ((f : Int) + k) := ⟨_, rfl⟩
      obtain ⟨E, hE⟩ : ∃ E, E = Sx.rdE s ((f : Int) + k) := ⟨_, rfl⟩
      obtain ⟨x1, lst, ok, hx⟩ : ∃ x1 lst ok, Hid (Jo.due b e ((R.length + 1 : Nat) : Int) (r.length / 40) = (x1, lst, ok)) := ⟨_, _, _, rfl⟩
      have HRd := hid (read_any Z d s ((f : Int) + k) wr (HX.out.1.below HI.out.2.2.1))
      rw [← hbB, ← hE] at HRd
      have hb64 : b.length ≤ 64 := by rw [hbB]; exact HX.out.1.rd_len _
      have HSc : Hid ((if E ≠ 0 ∨ ok = false ∨ 32768 < r.length + x1.length then R else if lst then Jo.scan (Jo.rdOf s) e m (f + k + 1) (R ++ [r ++ x1]) [] else Jo.scan (Jo.rdOf s) e m (f + k + 1) R (r ++ x1)) = L) := by
        have h1 := HI.out.2.2.2
        rw [hm, Jo.scan] at h1
        have h2 : Jo.rdOf s (f + k) = (E, b) := by rw [hE, hbB]; unfold Jo.rdOf; rw [Int.natCast_add]
        simp only [h2, hx.out] at h1
        exact hid h1
      have HX2 := hid (And.intro (show b.length ≤ 100000 by omega) (And.intro HX.out.2.1.2.2.2.1 (And.intro (show R.length ≤ 100000 by have := HX.out.2.1.2.2.2.2; omega) (show r.length ≤ 100000 by omega))))
      have hx64 : x1.length ≤ 64 := by have h1 := Jo.due_len b e ((R.length + 1 : Nat) : Int) (r.length / 40); rw [hx.out] at h1; exact Nat.le_trans h1 hb64
      clear hbB hE
      by_cases hE0 : E = 0
      · subst hE0
        cases ok with
        | false =>
          have hRL : R = L := by have := HSc.out; rw [if_pos (.inr (.inl rfl))] at this; exact this
          have HRL := hid hRL
          clear hRL
          go_wp2_with fail
          refine (HRd.out).mono ?_
          rintro e2 w2 ⟨A1, c1, rfl, hown1, hb1⟩
          have HE := hid (expected_at A1 c1 b b.length rfl hown1.cap hown1.capLe hown1.none_ HX2.out.1 e HX2.out.2.1 R.length HX2.out.2.2.1 r.length HX2.out.2.2.2 x1 _ _ hx.out w2 hown1.reads)
          have HB1 := hid hb1
          clear hb1 hown1
          go_wp2_with fail
          refine (HE.out _ _ (by omega) (by omega)).mono ?_
          rintro e3 w3 ⟨A', c', rfl, hpb, hpn, hb3⟩
          have HP := hid (And.intro hpb (And.intro hpn (HB1.out.trans (hb3.mono HB1.out.size))))
          clear hpb hpn hb3 HE
          go_wp2_with fail
          rw [Exit.noGoto_ret]
          go_ret2
          have hRL := HRL.out
          subst hRL
          exact hid ⟨AR, cR, rfl, (HI.out.1.below HP.out.2.2).mono (fun _ h => .inl h), HI.out.2.2.1.trans (HP.out.2.2.mono HI.out.2.2.1.size)⟩
        | true =>
          by_cases hl3 : 32768 < r.length + x1.length
          · have hl3i : (32768 : Int) < (r.length : Int) + (x1.length : Int) := by omega
            have hRL : R = L := by have := HSc.out; rw [if_pos (.inr (.inr hl3))] at this; exact this
            have HRL := hid hRL
            clear hRL
            clear hl3
            go_wp2_with fail
            refine (HRd.out).mono ?_
            rintro e2 w2 ⟨A1, c1, rfl, hown1, hb1⟩
            have HE := hid (expected_at A1 c1 b b.length rfl hown1.cap hown1.capLe hown1.none_ HX2.out.1 e HX2.out.2.1 R.length HX2.out.2.2.1 r.length HX2.out.2.2.2 x1 _ _ hx.out w2 hown1.reads)
            have HB1 := hid hb1
            clear hb1 hown1
            go_wp2_with fail
            refine (HE.out _ _ (by omega) (by omega)).mono ?_
            rintro e3 w3 ⟨A', c', rfl, hpb, hpn, hb3⟩
            have HP := hid (And.intro hpb (And.intro hpn (HB1.out.trans (hb3.mono HB1.out.size))))
            clear hpb hpn hb3 HE
            go_wp2_with fail
            rw [Exit.noGoto_ret]
            go_ret2
            have hRL := HRL.out
            subst hRL
            exact hid ⟨AR, cR, rfl, (HI.out.1.below HP.out.2.2).mono (fun _ h => .inl h), HI.out.2.2.1.trans (HP.out.2.2.mono HI.out.2.2.1.size)⟩
          · have hl3i : ¬ (32768 : Int) < (r.length : Int) + (x1.length : Int) := by omega
            have HSc2 : Hid ((if lst then Jo.scan (Jo.rdOf s) e m (f + k + 1) (R ++ [r ++ x1]) [] else Jo.scan (Jo.rdOf s) e m (f + k + 1) R (r ++ x1)) = L) := by
              have := HSc.out
              rw [if_neg (by simp only [ne_eq, not_true_eq_false, Bool.true_eq_false, false_or]; exact hl3)] at this
              exact hid this
            have HL3 := hid hl3
            obtain ⟨i0, hi, hz0, hz1, hz2⟩ := info_parts info_u8
            clear hl3
            cases lst with
            | true =>
              go_wp2_with fail
              refine (HRd.out).mono ?_
              rintro e2 w2 ⟨A1, c1, rfl, hown1, hb1⟩
              have HE := hid (expected_at A1 c1 b b.length rfl hown1.cap hown1.capLe hown1.none_ HX2.out.1 e HX2.out.2.1 R.length HX2.out.2.2.1 r.length HX2.out.2.2.2 x1 _ _ hx.out w2 hown1.reads)
              have HB1 := hid hb1
              clear hb1 hown1
              go_wp2_with fail
              refine (HE.out _ _ (by omega) (by omega)).mono ?_
              rintro e3 w3 ⟨A', c', rfl, hpb, hpn, hb3⟩
              have HP := hid (And.intro hpb (And.intro hpn (HB1.out.trans (hb3.mono HB1.out.size))))
              clear hpb hpn hb3 HE
              have HQ : Hid (RowsAt w3 (fun b => b < w1.heap.size ∨ blk A = some b) (.slice AR R.length cR) R ∧ OwnsB 5 w3 w1.heap.size A c r ∧ Below w1.heap.size w1 w3) := hid ⟨HI.out.1.below HP.out.2.2, HI.out.2.1.below HP.out.2.2, HI.out.2.2.1.trans (HP.out.2.2.mono HI.out.2.2.1.size)⟩
              have hr3 : r.length + x1.length ≤ 100000 := by have := HL3.out; omega
              go_wp2_with (at_builtin; refine wpList_append_bytesAt rfl _ _ 32 rfl w1.heap.size 5 i0 Try.underlying32 hi hz0 hz1 hz2 A c r rfl HQ.out.2.1 w3.heap.size A' c' x1 rfl HP.out.2.1 HP.out.1 (by omega) HQ.out.2.2.size ?_)
              intro A2 c2 w4 hown4 hgr4 _
              have hb4 : Below w1.heap.size w1 w4 := HQ.out.2.2.trans (below_grown hgr4 HQ.out.2.2.size (fun j ej => (HQ.out.2.1.blkLt j ej).1))
              have hR4 : RowsAt w4 (fun b => b < w1.heap.size) (.slice AR R.length cR) R := (HQ.out.1.keep (Turned.ofGrown hgr4 (fun j ej => .inr ej))).mono (fun _ h => .inl h)
              have HP4 := hid (And.intro hR4 (And.intro hown4 hb4))
              clear hR4 hown4 hb4 hgr4
              go_wp2_with (at_builtin; refine wpList_append_row rfl _ _ rfl (fun b => b < w1.heap.size) (fun b hb => by have := HP4.out.2.2.size; simp; omega) _ R rfl (HP4.out.1.below ((Below.refl _ _).alloc (Nat.le_refl _) _)) ⟨w4.heap.size, 0, none⟩ 1 A2 c2 (r ++ x1) (r.length + x1.length) (List.length_append) rfl (row_new _ _ _) ((OwnsZ.of HP4.out.2.1).keep (Turned.ofBelow _ ((Below.refl _ _).alloc (Nat.le_refl _) _))) hr3 _ rfl R.length rfl (by omega) ?_; intro A3 c3 w5 hR5 ht5)
              have hb5 : Below w1.heap.size w1 w5 := (HP4.out.2.2.alloc HP4.out.2.2.size _).trans (ht5.below (by have := HP4.out.2.2.size; simp; omega) (fun j hj => by omega))
              have HP5 := hid (And.intro hR5 hb5)
              clear hR5 ht5 hb5
              go_wp2
              go_roundw
              case rel =>
                refine ⟨k + 1, R ++ [r ++ x1], [], none, 0, A3, c3, by omega, by go_num, by rw [List.length_append]; rfl, rfl, by rw [List.length_append]; simp; omega, by simp, hid ⟨?_, OwnsB.nil _ _ _, HP5.out.2, ?_⟩⟩
                · refine (show RowsAt w5 (fun b => b < w1.heap.size) (.slice A3 (R ++ [r ++ x1]).length c3) (R ++ [r ++ x1]) from ?_).mono (fun b h => h.elim id (fun h => by cases h))
                  rw [List.length_append]
                  exact HP5.out.1
                · have := HSc2.out
                  rw [if_pos trivial] at this
                  rw [show n - (k + 1) = m from by omega, show f + (k + 1) = f + k + 1 from by omega]
                  exact this
              case measure => simp [RowKit.intOf]; omega
            | false =>
              go_wp2_with fail
              refine (HRd.out).mono ?_
              rintro e2 w2 ⟨A1, c1, rfl, hown1, hb1⟩
              have HE := hid (expected_at A1 c1 b b.length rfl hown1.cap hown1.capLe hown1.none_ HX2.out.1 e HX2.out.2.1 R.length HX2.out.2.2.1 r.length HX2.out.2.2.2 x1 _ _ hx.out w2 hown1.reads)
              have HB1 := hid hb1
              clear hb1 hown1
              go_wp2_with fail
              refine (HE.out _ _ (by omega) (by omega)).mono ?_
              rintro e3 w3 ⟨A', c', rfl, hpb, hpn, hb3⟩
              have HP := hid (And.intro hpb (And.intro hpn (HB1.out.trans (hb3.mono HB1.out.size))))
              clear hpb hpn hb3 HE
              have HQ : Hid (RowsAt w3 (fun b => b < w1.heap.size ∨ blk A = some b) (.slice AR R.length cR) R ∧ OwnsB 5 w3 w1.heap.size A c r ∧ Below w1.heap.size w1 w3) := hid ⟨HI.out.1.below HP.out.2.2, HI.out.2.1.below HP.out.2.2, HI.out.2.2.1.trans (HP.out.2.2.mono HI.out.2.2.1.size)⟩
              have hr3 : r.length + x1.length ≤ 32768 := by have := HL3.out; omega
              go_wp2_with (at_builtin; refine wpList_append_bytesAt rfl _ _ 32 rfl w1.heap.size 5 i0 Try.underlying32 hi hz0 hz1 hz2 A c r rfl HQ.out.2.1 w3.heap.size A' c' x1 rfl HP.out.2.1 HP.out.1 (by omega) HQ.out.2.2.size ?_)
              intro A2 c2 w4 hown4 hgr4 hbl4
              have hb4 : Below w1.heap.size w1 w4 := HQ.out.2.2.trans (below_grown hgr4 HQ.out.2.2.size (fun j ej => (HQ.out.2.1.blkLt j ej).1))
              have hR4 : RowsAt w4 (fun b => b < w1.heap.size ∨ blk A2 = some b) (.slice AR R.length cR) R := (HQ.out.1.shun.keep (Turned.ofGrown hgr4 (fun j ej => .inl (.inr ej)))).mono (fun b h => h.elim (fun h => .inl (.inl h)) (fun h => by
                rcases hbl4 with h1 | h1
                · exact .inl (.inr (h1 ▸ h))
                · rw [h1] at h
                  injection h with h
                  exact .inr (Nat.le_of_eq h)))
              have HP4 := hid (And.intro hR4 (And.intro hown4 hb4))
              clear hR4 hown4 hb4 hgr4 hbl4
              go_wp2
              go_roundw
              case rel =>
                refine ⟨k + 1, R, r ++ x1, A2, c2, AR, cR, by omega, by go_num, rfl, by rw [List.length_append], by omega, by rw [List.length_append]; exact hr3, hid ⟨HP4.out.1, HP4.out.2.1, HP4.out.2.2, ?_⟩⟩
                have := HSc2.out
                rw [if_neg (by simp)] at this
                rw [show n - (k + 1) = m from by omega, show f + (k + 1) = f + k + 1 from by omega]
                exact this
              case measure => simp [RowKit.intOf]; omega
      · have hEb : (E != 0) = true := by rw [bne_iff_ne]; exact hE0
        have hRL : R = L := by have := HSc.out; rw [if_pos (.inl hE0)] at this; exact this
        have HRL := hid hRL
        clear hRL
        clear hE0
        go_wp2_with fail
        refine (HRd.out).mono ?_
        rintro e2 w2 ⟨A1, c1, rfl, hown1, hb1⟩
        have HE := hid (expected_at A1 c1 b b.length rfl hown1.cap hown1.capLe hown1.none_ HX2.out.1 e HX2.out.2.1 R.length HX2.out.2.2.1 r.length HX2.out.2.2.2 x1 _ _ hx.out w2 hown1.reads)
        have HB1 := hid hb1
        clear hb1 hown1
        go_wp2_with fail
        refine (HE.out _ _ (by omega) (by omega)).mono ?_
        rintro e3 w3 ⟨A', c', rfl, hpb, hpn, hb3⟩
        have HP := hid (And.intro hpb (And.intro hpn (HB1.out.trans (hb3.mono HB1.out.size))))
        clear hpb hpn hb3 HE
        go_wp2_with fail
        rw [Exit.noGoto_ret]
        go_ret2
        have hRL := HRL.out
        subst hRL
        exact hid ⟨AR, cR, rfl, (HI.out.1.below HP.out.2.2).mono (fun _ h => .inl h), HI.out.2.2.1.trans (HP.out.2.2.mono HI.out.2.2.1.size)⟩
    · have hlt0 : ¬ (f : Int) + k < (f : Int) + n := by omega
      obtain rfl : k = n := by omega
      have hfin : R = L := by
        have := HI.out.2.2.2
        rw [Nat.sub_self] at this
        exact this
      go_wp2_with fail
      go_ret2
      subst hfin
      exact hid ⟨AR, cR, rfl, HI.out.1.mono (fun _ h => .inl h), HI.out.2.2.1⟩
end J
end Go.Proofs.Ytdgijnolpjaheaa
namespace Go.Proofs.Ytdgijnolpjaheaa
open Go.RowKit

set_option maxRecDepth 100000 in
theorem crash_any (Z : Nat → Prop) (d : Dk) (s : Sx.St) (A : Option Addr) (c : Nat) (l : List Int) (n : Nat) (hn : l.length = n) (w : World) (h : DiskAt w Z d s)
    (hin : ∀ w', Turned d.has w w' → IsInts w' w'.heap.size A l) :
    Calls Try.prog 16 #[.pointer (some ⟨d.g, 0, none⟩), .slice A n c] w fun e w' => e = .returned (.tuple #[]) ∧ DiskAt w' Z d (Sx.crash s l) ∧ Turned d.has w w' := by
  subst hn
  have HD := hid (dirty_any Z d s w h)
  have HH := hid (And.intro h hin)
  clear h hin
  go_enter Try.func16, Try.ntmps16
  go_wp2_with fail
  refine HD.out.mono ?_
  rintro e w2 ⟨A2, c2, rfl, hI, hb2⟩
  have hD2 : DiskAt w2 Z d (Sx.part s (Sx.fateAt s l) 0) := by rw [Sx.part_zero]; exact HH.out.1.below hb2
  have hlt : ∀ k, d.has k → k < w.heap.size := HH.out.1.lt
  have ht2 : Turned d.has w w2 := Turned.ofBelow d.has hb2
  have HI := hid (fun w' ht k hk => dirty_cells (w' := w') hI hlt ht k hk)
  have HN := hid (fun w' ht => HH.out.2 w' (ht2.trans ht))
  have hbn := HH.out.1.bound
  have hln : (Sx.dirty s).length ≤ 16384 := by
    have : (Sx.dirty s).length ≤ s.n := Sx.dirtyTo_length s.cache s.n
    omega
  have HS2 := hid (And.intro hD2 ht2)
  clear hI hb2 hD2 hlt ht2 HD HH hbn
  go_wp2_with fail
  go_loopw [10] (fun i wr => ∃ k : Nat, k ≤ (Sx.dirty s).length ∧ i = .int .i64 k ∧ Hid (DiskAt wr Z d (Sx.part s (Sx.fateAt s l) k) ∧ Turned d.has w wr) ∧ Hid (Turned d.has w2 wr)) (fun i _ => (Sx.dirty s).length - (RowKit.intOf i).toNat)
  case atStart => exact ⟨0, by omega, rfl, HS2, hid (Turned.refl _ _)⟩
  case round =>
    clear HS2
    obtain ⟨k, hk, rfl, hS, hT⟩ := hrel
    by_cases hlt : k < (Sx.dirty s).length
    · obtain ⟨g, hA, hcell⟩ := HI.out wr hT.out k hlt
      subst hA
      obtain ⟨hlk, b, hb⟩ := Sx.dirty_lt s k hlt
      have hk0 : (k : Int) < ((Sx.dirty s).length : Int) := by omega
      by_cases hj : k < l.length
      · have HC := hid (settle_any Z d (Sx.part s (Sx.fateAt s l) k) (Sx.dirty s)[k] hlk b hb l[k] wr hS.out.1)
        have ef : l[k] = Sx.fateAt s l (Sx.dirty s)[k] := by rw [Sx.fateAt_dirty s l k hlt, List.getD_eq_getElem?_getD, List.getElem?_eq_getElem hj]; rfl
        have HC2 : Hid (Calls Try.prog 36 #[.pointer (some ⟨d.g, 0, none⟩), .int .i64 ((Sx.dirty s)[k] : Nat), .int .i64 l[k]] wr fun e w' => e = .returned (.tuple #[]) ∧ DiskAt w' Z d (Sx.part s (Sx.fateAt s l) (k + 1)) ∧ Turned d.has wr w') := by
          have e2 := Sx.part_step s (Sx.fateAt s l) k hlt
          rw [← ef] at e2
          rw [e2] at HC
          exact HC
        obtain ⟨bl, off, hAl, _, hcl⟩ := (HN.out wr hT.out).cells k hj
        subst hAl
        have hcl := hcl k hj
        have hj0 : (k : Int) < (l.length : Int) := by omega
        clear hlk hb HC ef
        go_wp2_with fail
        refine HC2.out.mono ?_
        rintro e w3 ⟨rfl, hD3, ht3⟩
        have H3 := hid (And.intro hD3 ht3)
        clear hD3 ht3
        go_wp2_with fail
        go_roundw
        case rel => exact ⟨k + 1, by omega, by go_num, hid ⟨H3.out.1, hS.out.2.trans H3.out.2⟩, hid (hT.out.trans H3.out.2)⟩
        case measure => simp [RowKit.intOf]; omega
      · have HC := hid (settle_any Z d (Sx.part s (Sx.fateAt s l) k) (Sx.dirty s)[k] hlk b hb 0 wr hS.out.1)
        have ef : 0 = Sx.fateAt s l (Sx.dirty s)[k] := by rw [Sx.fateAt_dirty s l k hlt, List.getD_eq_getElem?_getD, List.getElem?_eq_none (by omega)]; rfl
        have HC2 : Hid (Calls Try.prog 36 #[.pointer (some ⟨d.g, 0, none⟩), .int .i64 ((Sx.dirty s)[k] : Nat), .int .i64 0] wr fun e w' => e = .returned (.tuple #[]) ∧ DiskAt w' Z d (Sx.part s (Sx.fateAt s l) (k + 1)) ∧ Turned d.has wr w') := by
          have e2 := Sx.part_step s (Sx.fateAt s l) k hlt
          rw [← ef] at e2
          rw [e2] at HC
          exact HC
        have hj0 : ¬ (k : Int) < (l.length : Int) := by omega
        clear hlk hb HC ef
        go_wp2_with fail
        refine HC2.out.mono ?_
        rintro e w3 ⟨rfl, hD3, ht3⟩
        have H3 := hid (And.intro hD3 ht3)
        clear hD3 ht3
        go_wp2_with fail
        go_roundw
        case rel => exact ⟨k + 1, by omega, by go_num, hid ⟨H3.out.1, hS.out.2.trans H3.out.2⟩, hid (hT.out.trans H3.out.2)⟩
        case measure => simp [RowKit.intOf]; omega
    · obtain rfl : k = (Sx.dirty s).length := by omega
      obtain ⟨w4, hcl, hD4, ht4⟩ := hS.out.1.clear_
      obtain ⟨c0, c1, c2, c3, c4⟩ := hS.out.1.cells
      obtain ⟨b0, b1, b2, b3, b4⟩ := hD4.cells
      have f2 := hD4.frozen 2
      have f3 := hD4.frozen 3
      have f4 := hD4.frozen 4
      have H4 := hid (And.intro hD4 ht4)
      clear hD4 ht4 hk c0 c2 c3 c4
      go_wp2_with fail
      go_end0
      have ht5 : Turned (fun j => j = d.g) w4 (((w4.setCell ⟨d.g, 2, none⟩ (.bool false)).setCell ⟨d.g, 3, none⟩ (.int .i64 0)).setCell ⟨d.g, 4, none⟩ (.bool false)) := Turned.three _ _ _ _ _ _ _ _
      have hD5 := H4.out.1.head (s' := { Sx.part s (Sx.fateAt s l) (Sx.dirty s).length with cache := fun _ => none, armed := false, left := 0, down := false }) ht5 rfl rfl rfl ⟨⟨by show (-9223372036854775808 : Int) ≤ 0; omega, by show (0 : Int) ≤ 9223372036854775807; omega⟩, fun h => by cases h⟩ (by simp [World.setCell, Array.getElem?_modify, H4.out.1.disk])
      refine ⟨rfl, hD5.congr rfl (fun i hi => ?_) (fun _ _ => rfl) rfl rfl rfl, (hS.out.2.then_ H4.out.2 (fun _ _ h => .inr (.inr h))).then_ ht5 (fun _ _ h => .inl h)⟩
      exact (Sx.part_end s (Sx.fateAt s l) i hi).symm
end Go.Proofs.Ytdgijnolpjaheaa
namespace Go.Proofs.Ytdgijnolpjaheaa
open Go.RowKit

/-- A disk that the call has made since the world w0. -/
structure DM (w0 w : World) (d : Dk) (s : Sx.St) : Prop where
  at_ : DiskAt w (fun k => k < w0.heap.size) d s
  bel : Below w0.heap.size w0 w
namespace DM
variable {w0 w w' : World} {d : Dk} {s s' : Sx.St}
theorem ge (h : DM w0 w d s) : ∀ k, d.has k → w0.heap.size ≤ k := fun k hk => by
  have := h.at_.off k hk
  simp at this
  exact this
theorem below (h : DM w0 w d s) (hb : Below w.heap.size w w') : DM w0 w' d s := ⟨h.at_.below hb, h.bel.trans (hb.mono h.bel.size)⟩
theorem next (h : DM w0 w d s) (hd : DiskAt w' (fun k => k < w0.heap.size) d s') (ht : Turned d.has w w') : DM w0 w' d s' := ⟨hd, h.bel.trans (ht.below h.bel.size h.ge)⟩
theorem drewN (h : DM w0 w d s) (n : Nat) : DM w0 (w.drewN n) d s := h.below (below_drewN (Below.refl _ _) n)
end DM
theorem new_N (n : Nat) (F : Int) (hF : F = (n : Int)) (hn : 1 ≤ n ∧ n ≤ 16384) (w : World) :
    Calls Try.prog 12 #[.int .i64 F] w fun e w' => ∃ d, e = .returned (.tuple #[.pointer (some ⟨d.g, 0, none⟩), .int .i64 0]) ∧ DiskAt w' (fun k => k < w.heap.size) d (Sx.new n) ∧ Below w.heap.size w w' := by
  subst hF
  exact new_any n hn w
end Go.Proofs.Ytdgijnolpjaheaa
namespace Go.Proofs.Ytdgijnolpjaheaa
namespace Sto
open Sx Jo

theorem scan_congr {rd rd' : Nat → Int × List Nat} (e : Int) : ∀ (l at_ : Nat) (R : List (List Nat)) (r : List Nat), (∀ i, at_ ≤ i → i < at_ + l → rd' i = rd i) → scan rd' e l at_ R r = scan rd e l at_ R r
  | 0, _, _, _, _ => rfl
  | l + 1, at_, R, r, h => by
    rw [scan, scan, h at_ (Nat.le_refl _) (by omega)]
    rw [scan_congr e l (at_ + 1) _ _ (fun i h1 h2 => h i (by omega) (by omega)), scan_congr e l (at_ + 1) _ _ (fun i h1 h2 => h i (by omega) (by omega))]
theorem rd_same {s t : St} {i : Nat} (hi : i < s.n) (hn : t.n = s.n) (hs : s.cache i = none) (ht : t.cache i = none) (hd : t.dur i = s.dur i) : rdOf t i = rdOf s i := by
  rw [rdOf_clean t i (by rw [hn]; exact hi) ht, rdOf_clean s i hi hs, hd]
/-- nothing of this epoch, nor of a later one, from the sector f on -/
def Blank (s : St) (e : Int) (f n : Nat) : Prop := ∀ e', e ≤ e' → e' ≤ 1099511627776 → ∀ i, i < n → Old e' (s.dur (f + i))
theorem Blank.more {s : St} {e e' : Int} {f n : Nat} (h : Blank s e f n) (he : e ≤ e') : Blank s e' f n := fun x hx => h x (by omega)
theorem Blank.same {s t : St} {e : Int} {f n : Nat} (h : Blank s e f n) (hd : ∀ i, f ≤ i → i < f + n → t.dur i = s.dur i) : Blank t e f n := fun x h1 h2 i hi => by
  rw [hd _ (by omega) (by omega)]; exact h x h1 h2 i hi
theorem Blank.good {s : St} {e : Int} {f n : Nat} (h : Blank s e f n) (he : e ≤ 1099511627776) (ha : f + n ≤ s.n) (hc : ∀ i, s.cache i = none) : Jo.Good s e f n [] :=
  ⟨ha, hc, Nat.zero_le _, by simp, trivial, fun i _ hi => h e (Int.le_refl _) he i hi⟩

theorem inv_same {s t : St} {m : Nat} {e : Int} {p : List Nat} (h : Ck.Inv s 0 m e p) (hn : t.n = s.n) (hc : ∀ i, t.cache i = none) (hd : ∀ i, i < 2 * m → t.dur i = s.dur i) : Ck.Inv t 0 m e p := by
  have ha := h.area
  have h1 := h.one
  have hsl : ∀ e', Ck.slot 0 m e' + m ≤ 2 * m := fun e' => by rcases Ck.slot_cases 0 m e' with ⟨hs, _⟩ | ⟨hs, _⟩ <;> rw [hs] <;> omega
  refine ⟨by rw [hn]; exact ha, h1, h.few, hc, h.ep, fun h0 => ⟨(h.held h0).1, fun i hi => ?_⟩, fun e' h2 h3 => ?_⟩
  · have h4 := hsl e
    have h5 := (h.held h0).1
    rw [rd_same (by omega) hn (h.clean _) (hc _) (hd _ (by omega))]
    exact (h.held h0).2 i hi
  · rw [hd _ (by have := hsl (e + 1); omega), hd _ (by have := hsl 0; omega)]
    exact h.old e' h2 h3

/-- A disk of two slots of m sectors and a journal's area of n sectors, from which a checkpoint p of the epoch e and the records L are opened; e = 0: none. -/
structure Held (s : St) (m n : Nat) (e : Int) (p : List Nat) (L : List (List Nat)) : Prop where
  inv : Ck.Inv s 0 m e p
  area : 2 * m + n = s.n
  bare : e = 0 → p = [] ∧ L = []
  rows : e ≠ 0 → scan (rdOf s) e n (2 * m) [] [] = L
  blank : Blank s (e + 1) (2 * m) n
theorem held_new (N m n : Nat) (h1 : 2 * m + n = N) (h2 : 1 ≤ m) (h3 : m ≤ 40000) : Held (new N) m n 0 [] [] :=
  ⟨Ck.inv_new N 0 m (by omega) h2 h3 [], h1, fun _ => ⟨rfl, rfl⟩, fun h => absurd rfl h, fun e' _ _ i _ => by
    right
    show ¬ Pk.enc e' <+: []
    intro h
    have := h.length_le
    simp [Pk.enc_length] at this⟩
theorem held_arm {s : St} {m n : Nat} {e : Int} {p : List Nat} {L : List (List Nat)} (h : Held s m n e p L) (k : Int) : Held (arm s k) m n e p L :=
  ⟨Ck.inv_arm h.inv k, h.area, h.bare, h.rows, h.blank⟩

/-- sectors that a Save leaves alone -/
theorem save_area {b : Bool} {s : St} {f m : Nat} {e : Int} {q : List Nat} (hc : ∀ i, s.cache i = none) (hq : secs q.length ≤ m) (hf : f + m ≤ s.n) :
    ((Ck.save b s f e q).1 = 0 → ∀ i, ¬ (f ≤ i ∧ i < f + m) → (Ck.save b s f e q).2.dur i = s.dur i) ∧ ((Ck.save b s f e q).1 ≠ 0 → ∀ l i, ¬ (f ≤ i ∧ i < f + m) → (crash (Ck.save b s f e q).2 l).dur i = s.dur i) := by
  have hp := secs_pos q.length
  obtain ⟨t1, t2, t3⟩ := Ck.secsOf_tail e q
  have hsm : ∀ x ∈ [sec e 0 q 0], x.length ≤ 64 := fun x hb => by rw [List.mem_singleton.1 hb]; exact sec_length_le _ _ _ _
  have key : ∀ t : St, (∀ i, t.cache i = none) → t.n = s.n → (∀ i, ¬ (f ≤ i ∧ i < f + m) → t.dur i = s.dur i) →
      ((run t f [sec e 0 q 0]).1 = 0 → ∀ i, ¬ (f ≤ i ∧ i < f + m) → (run t f [sec e 0 q 0]).2.dur i = s.dur i) ∧ ((run t f [sec e 0 q 0]).1 ≠ 0 → ∀ l i, ¬ (f ≤ i ∧ i < f + m) → (crash (run t f [sec e 0 q 0]).2 l).dur i = s.dur i) := fun t h1 h2 h3 => by
    refine ⟨fun h0 i hi => ?_, fun h0 l i hi => ?_⟩
    · obtain ⟨_, _, _, _, g5⟩ := Ck.ran h1 (by rw [h2]; simp; omega) hsm h0
      rw [g5, if_neg (by simp; omega)]
      exact h3 i hi
    · obtain ⟨_, _, _, g4⟩ := Ck.failed h1 (by rw [h2]; simp; omega) hsm h0
      rcases g4 l i with h4 | ⟨h4, h5, _⟩
      · rw [h4]; exact h3 i hi
      · simp at h5; omega
  unfold Ck.save
  by_cases hm : b = true ∨ 1 < secs q.length
  · rw [if_pos hm]
    by_cases h0 : (run s (f + 1) (secsOf e 0 q).tail).1 = 0
    · rw [if_pos h0]
      obtain ⟨g1, g2, g3, g4, g5⟩ := Ck.ran hc (by rw [t1]; omega) t2 h0
      exact key _ g1 g2 (fun i hi => by rw [g5, t1, if_neg (by omega)])
    · rw [if_neg h0]
      refine ⟨fun h => absurd h h0, fun _ l i hi => ?_⟩
      obtain ⟨_, _, _, g4⟩ := Ck.failed hc (by rw [t1]; omega) t2 h0
      rcases g4 l i with h4 | ⟨h4, h5, _⟩
      · exact h4
      · rw [t1] at h5; omega
  · rw [if_neg hm]
    exact key s hc rfl (fun _ _ => rfl)
theorem held_slot {s t : St} {m n : Nat} {e : Int} {p : List Nat} {L : List (List Nat)} (h : Held s m n e p L) (hn : t.n = s.n) (hi : Ck.Inv t 0 m e p) (hd : ∀ i, 2 * m ≤ i → t.dur i = s.dur i) : Held t m n e p L :=
  ⟨hi, h.area.trans hn.symm, h.bare, fun h0 => by
    rw [scan_congr e n (2 * m) _ _ (fun i h1 h2 => rd_same (by have := h.area; omega) hn (h.inv.clean _) (hi.clean _) (hd i h1))]
    exact h.rows h0, h.blank.same (fun i h1 _ => hd i h1)⟩
theorem held_next {s t : St} {m n : Nat} {e : Int} {p q : List Nat} {L : List (List Nat)} (h : Held s m n e p L) (he : e + 1 ≤ 1099511627776) (hn : t.n = s.n) (hi : Ck.Inv t 0 m (e + 1) q) (hd : ∀ i, 2 * m ≤ i → t.dur i = s.dur i) : Held t m n (e + 1) q [] ∧ Jo.Good t (e + 1) (2 * m) n [] := by
  have hb : Blank t (e + 1) (2 * m) n := h.blank.same (fun i h1 _ => hd i h1)
  have ha := h.area
  have hg : Jo.Good t (e + 1) (2 * m) n [] := hb.good he (by omega) hi.clean
  have := h.inv.ep
  exact ⟨⟨hi, ha.trans hn.symm, fun h0 => by omega, fun _ => hg.scan, hb.more (by omega)⟩, hg⟩
/-- a Renew -/
theorem renew {b : Bool} {s : St} {m n : Nat} {e : Int} {p q : List Nat} {L : List (List Nat)} (h : Held s m n e p L) (he : e + 1 ≤ 1099511627776) (hq : secs q.length ≤ m) :
    ((Ck.save b s (Ck.slot 0 m (e + 1)) (e + 1) q).1 = 0 ∧ Held (Ck.save b s (Ck.slot 0 m (e + 1)) (e + 1) q).2 m n (e + 1) q [] ∧ Jo.Good (Ck.save b s (Ck.slot 0 m (e + 1)) (e + 1) q).2 (e + 1) (2 * m) n [] ∧
      (Ck.save b s (Ck.slot 0 m (e + 1)) (e + 1) q).2.armed = s.armed ∧ (Ck.save b s (Ck.slot 0 m (e + 1)) (e + 1) q).2.down = false) ∨
    ((Ck.save b s (Ck.slot 0 m (e + 1)) (e + 1) q).1 = 10 ∧ (Ck.save b s (Ck.slot 0 m (e + 1)) (e + 1) q).2.down = true ∧
      ∀ l, Held (crash (Ck.save b s (Ck.slot 0 m (e + 1)) (e + 1) q).2 l) m n e p L ∨ Held (crash (Ck.save b s (Ck.slot 0 m (e + 1)) (e + 1) q).2 l) m n (e + 1) q []) := by
  have ha := h.area
  have hsl : Ck.slot 0 m (e + 1) + m ≤ 2 * m := by rcases Ck.slot_cases 0 m (e + 1) with ⟨hs, _⟩ | ⟨hs, _⟩ <;> rw [hs] <;> omega
  obtain ⟨a1, a2⟩ := save_area (b := b) (e := e + 1) h.inv.clean hq (show Ck.slot 0 m (e + 1) + m ≤ s.n by omega)
  rcases Ck.save_cases (b := b) h.inv ⟨by omega, he⟩ (.inl rfl) hq with ⟨h1, h2, h3, h4, h5⟩ | ⟨h1, h2, h3, h4⟩
  · obtain ⟨k1, k2⟩ := held_next h he h3 h2 (fun i hi => a1 h1 i (by omega))
    exact .inl ⟨h1, k1, k2, h4, h5⟩
  · refine .inr ⟨h1, h2, fun l => ?_⟩
    have a3 := a2 (by rw [h1]; decide) l
    rcases h4 l with h5 | h5
    · exact .inl (held_slot h h3 h5 (fun i hi => a3 i (by omega)))
    · exact .inr (held_next (t := crash (Ck.save b s (Ck.slot 0 m (e + 1)) (e + 1) q).2 l) h he h3 h5 (fun i hi => a3 i (by omega))).1
/-- an Append -/
theorem append {s : St} {m n : Nat} {e : Int} {p q : List Nat} {L : List (List Nat)} (h : Held s m n e p L) (he : e ≠ 0) (hg : Jo.Good s e (2 * m) n L) (hq : q.length ≤ 32768) (hr : secs q.length ≤ n - total L) :
    ((run s (2 * m + total L) (secsOf e (L.length + 1 : Nat) q)).1 = 0 ∧ Held (run s (2 * m + total L) (secsOf e (L.length + 1 : Nat) q)).2 m n e p (L ++ [q]) ∧ Jo.Good (run s (2 * m + total L) (secsOf e (L.length + 1 : Nat) q)).2 e (2 * m) n (L ++ [q]) ∧
      (run s (2 * m + total L) (secsOf e (L.length + 1 : Nat) q)).2.armed = s.armed ∧ (run s (2 * m + total L) (secsOf e (L.length + 1 : Nat) q)).2.down = false) ∨
    ((run s (2 * m + total L) (secsOf e (L.length + 1 : Nat) q)).1 = 10 ∧ (run s (2 * m + total L) (secsOf e (L.length + 1 : Nat) q)).2.down = true ∧
      ∀ l, Held (crash (run s (2 * m + total L) (secsOf e (L.length + 1 : Nat) q)).2 l) m n e p L ∨ Held (crash (run s (2 * m + total L) (secsOf e (L.length + 1 : Nat) q)).2 l) m n e p (L ++ [q])) := by
  have ha := h.area
  have hfit := hg.fit
  have hep := h.inv.ep
  have hlen : 2 * m + total L + (secsOf e (L.length + 1 : Nat) q).length ≤ s.n := by rw [secsOf_length]; omega
  have hold : ∀ e', e + 1 ≤ e' → e' ≤ 1099511627776 → ∀ j, j < secs q.length → Old e' ((secsOf e (L.length + 1 : Nat) q).getD j [], false) := fun e' h1 h2 j hj => by
    rw [List.getD_eq_getElem?_getD, secsOf_get _ _ _ _ hj]
    exact old_sec hep.1 (by omega) h2 _ _ _
  by_cases h0 : (run s (2 * m + total L) (secsOf e (L.length + 1 : Nat) q)).1 = 0
  · obtain ⟨g1, _, g3, g4, g5⟩ := run_good hg q hq hr h0
    obtain ⟨r1, r2, _, _, r5⟩ := Ck.ran h.inv.clean hlen (secsOf_small _ _ _) h0
    rw [secsOf_length] at r5
    refine .inl ⟨h0, ⟨inv_same h.inv g3 r1 (fun i hi => by rw [r5, if_neg (by omega)]), ha.trans g3.symm, fun h => absurd h he, fun _ => g1.scan, fun e' h1 h2 i hi => ?_⟩, g1, g4, g5⟩
    rw [r5]
    by_cases hi2 : 2 * m + total L ≤ 2 * m + i ∧ 2 * m + i < 2 * m + total L + secs q.length
    · rw [if_pos hi2]; exact hold e' h1 h2 _ (by omega)
    · rw [if_neg hi2]; exact h.blank e' h1 h2 i hi
  · obtain ⟨g1, g2, g3, g4⟩ := run_broken hg q hq hr h0
    obtain ⟨_, _, _, r4⟩ := Ck.failed h.inv.clean hlen (secsOf_small _ _ _) h0
    rw [secsOf_length] at r4
    refine .inr ⟨g1, g2, fun l => ?_⟩
    have hb : Blank (crash (run s (2 * m + total L) (secsOf e (L.length + 1 : Nat) q)).2 l) (e + 1) (2 * m) n := fun e' h1 h2 i hi => by
      rcases r4 l (2 * m + i) with h3 | ⟨h3, h4, h5 | h5⟩
      · rw [h3]; exact h.blank e' h1 h2 i hi
      · rw [h5]; exact hold e' h1 h2 _ (by omega)
      · rw [h5]; exact .inl rfl
    have hi : Ck.Inv (crash (run s (2 * m + total L) (secsOf e (L.length + 1 : Nat) q)).2 l) 0 m e p := inv_same h.inv g3 (fun _ => rfl) (fun i hi => by
      rcases r4 l i with h3 | ⟨h3, _⟩
      · exact h3
      · omega)
    rcases (g4 l).1 with h3 | h3
    · exact .inl ⟨hi, ha.trans g3.symm, fun h => absurd h he, fun _ => h3, hb⟩
    · exact .inr ⟨hi, ha.trans g3.symm, fun h => absurd h he, fun _ => h3, hb⟩
end Sto
end Go.Proofs.Ytdgijnolpjaheaa
namespace Go.Proofs.Ytdgijnolpjaheaa
open Go.RowKit

/-- A store: its journal, the disk at dg, the sectors of a slot, the epoch, the state (0: opened, 1: ready, 2: dead). -/
structure Sn where
  jg : Option Addr
  dg : Nat
  sl : Int
  e : Int
  st : Int
def SAt (w : World) (g : Nat) (j : Sn) : Prop :=
  w.heap[g]? = some (.cells #[.pointer j.jg, .pointer (some ⟨j.dg, 0, none⟩), .int .i64 j.sl, .int .i64 j.e, .int .i64 j.st] 60 (0, 0))
namespace SAt
variable {w w' : World} {g : Nat} {j : Sn}
theorem lt (h : SAt w g j) : g < w.heap.size := (Array.getElem?_eq_some_iff.1 h).1
theorem cells (h : SAt w g j) : w.cell? ⟨g, 0, none⟩ = some (.pointer j.jg) ∧ w.cell? ⟨g, 1, none⟩ = some (.pointer (some ⟨j.dg, 0, none⟩)) ∧ w.cell? ⟨g, 2, none⟩ = some (.int .i64 j.sl) ∧ w.cell? ⟨g, 3, none⟩ = some (.int .i64 j.e) ∧ w.cell? ⟨g, 4, none⟩ = some (.int .i64 j.st) := by
  simp [World.cell?, show w.heap[g]? = _ from h]
theorem frozen (h : SAt w g j) (k : Nat) : w.frozen? ⟨g, k, none⟩ = false := by
  simp [World.frozen?, show w.heap[g]? = _ from h]
theorem keep {S : Nat → Prop} (h : SAt w g j) (ht : Turned S w w') (hs : ¬ S g) : SAt w' g j := (ht.block g h.lt hs).trans h
theorem below (h : SAt w g j) (hb : Below w.heap.size w w') : SAt w' g j := (hb.block g h.lt).trans h
theorem not_disk (h : SAt w g j) {Z : Nat → Prop} {d : Dk} {s : Sx.St} (hd : DiskAt w Z d s) : ¬ d.has g := by
  have h' : w.heap[g]? = _ := h
  rintro (rfl | rfl | rfl)
  · have h2 := hd.disk
    rw [h'] at h2
    have h3 := (Obj.cells.inj (Option.some.inj h2)).2.1
    revert h3; decide
  · obtain ⟨cur, h2, _⟩ := hd.row
    rw [h'] at h2
    have h3 := (Obj.cells.inj (Option.some.inj h2)).2.1
    revert h3; decide
  · obtain ⟨f, ⟨es, clock, h2, _⟩, _⟩ := hd.map
    rw [h'] at h2
    cases h2
theorem ne_jn (h : SAt w g j) {g' : Nat} {k : Jn} (h' : JAt w g' k) : g' ≠ g := by
  rintro rfl
  have h1 : w.heap[g']? = _ := h
  rw [show w.heap[g']? = _ from h'] at h1
  have h3 := (Obj.cells.inj (Option.some.inj h1)).2.1
  revert h3; decide
theorem disk (h : SAt w g j) {Z : Nat → Prop} {d : Dk} {s : Sx.St} (hd : DiskAt w Z d s) (k : Nat) (v : Value) : DiskAt (w.setCell ⟨g, k, none⟩ v) Z d s :=
  hd.elsewhere h (by decide) (h.not_disk hd) (Turned.one _ _ _ _)
theorem set0 (h : SAt w g j) (a : Option Addr) : SAt (w.setCell ⟨g, 0, none⟩ (.pointer a)) g { j with jg := a } := by
  have h' : w.heap[g]? = _ := h
  unfold SAt
  simp [World.setCell, Array.getElem?_modify, h']
theorem set3 (h : SAt w g j) (e : Int) : SAt (w.setCell ⟨g, 3, none⟩ (.int .i64 e)) g { j with e := e } := by
  have h' : w.heap[g]? = _ := h
  unfold SAt
  simp [World.setCell, Array.getElem?_modify, h']
theorem set4 (h : SAt w g j) (st : Int) : SAt (w.setCell ⟨g, 4, none⟩ (.int .i64 st)) g { j with st := st } := by
  have h' : w.heap[g]? = _ := h
  unfold SAt
  simp [World.setCell, Array.getElem?_modify, h']
end SAt
namespace T
set_option maxRecDepth 100000 in
theorem valid_any (Z : Nat → Prop) (d : Dk) (s : Sx.St) (sl : Int) (w : World) (h : DiskAt w Z d s) :
    Calls Try.prog 41 #[.pointer (some ⟨d.g, 0, none⟩), .int .i64 sl] w fun e' w' => e' = .returned (.bool (decide (1 ≤ sl ∧ 2 * sl + 1 ≤ s.n))) ∧ w' = w := by
  have HL := hid (len_any Z d s w h)
  have hb := h.bound
  clear h
  by_cases h1 : 1 ≤ sl
  · have e1 : decide (1 ≤ sl ∧ 2 * sl + 1 ≤ s.n) = decide (sl ≤ ((s.n : Int) - 1) / 2) := by
      by_cases h2 : 2 * sl + 1 ≤ s.n
      · rw [decide_eq_true ⟨h1, h2⟩, decide_eq_true (by omega)]
      · rw [decide_eq_false (fun h => h2 h.2), decide_eq_false (by omega)]
    rw [e1]
    clear e1
    go_enter Try.func41, Try.ntmps41
    go_wp2_with fail
    refine HL.out.mono ?_
    rintro e2 w2 ⟨rfl, rfl⟩
    go_wp2
    go_ret
    exact ⟨rfl, rfl⟩
  · have h1' : sl < 1 := by omega
    rw [decide_eq_false (fun h => h1 h.1)]
    go_enter Try.func41, Try.ntmps41
    go_wp2
    go_ret
    exact ⟨rfl, rfl⟩
set_option maxRecDepth 100000 in
theorem area_any (Z : Nat → Prop) (d : Dk) (s : Sx.St) (g : Nat) (j : Sn) (m n f : Nat) (hf : f = 2 * m) (hn : f + n = s.n) (w : World) (h : SAt w g j) (hj : j.dg = d.g) (hm : j.sl = (m : Nat)) (hd : DiskAt w Z d s) :
    Calls Try.prog 57 #[.pointer (some ⟨g, 0, none⟩)] w fun e' w' => e' = .returned (.tuple #[.int .i64 (f : Int), .int .i64 (n : Int)]) ∧ w' = w := by
  have HL := hid (len_any Z d s w hd)
  have hb := hd.bound
  obtain ⟨c0, c1, c2, c3, c4⟩ := h.cells
  rw [hj] at c1
  rw [hm] at c2
  have e1 : (f : Int) = 2 * (m : Int) := by omega
  have e2 : (n : Int) = (s.n : Int) - 2 * (m : Int) := by omega
  rw [e1, e2]
  have hmb : 2 * m ≤ 16384 := by omega
  clear e1 e2 hn hf h hd hj hm c0 c3 c4
  go_enter Try.func57, Try.ntmps57
  go_wp2_with fail
  refine HL.out.mono ?_
  rintro e2 w2 ⟨rfl, rfl⟩
  go_wp2
  go_ret2
  exact ⟨by simp, rfl⟩
theorem epoch_any (g : Nat) (j : Sn) (w : World) (h : SAt w g j) :
    Calls Try.prog 26 #[.pointer (some ⟨g, 0, none⟩)] w fun e w' => e = .returned (.int .i64 j.e) ∧ w' = w := by
  obtain ⟨c0, c1, c2, c3, c4⟩ := h.cells
  go_enter Try.func26, Try.ntmps26
  go_wp2
  go_ret
  exact ⟨rfl, rfl⟩
/-- an answer that is passed on: ErrDown kills the store -/
theorem pass_any (g : Nat) (j : Sn) (e : Int) (w : World) (h : SAt w g j) :
    Calls Try.prog 46 #[.pointer (some ⟨g, 0, none⟩), .int .i64 e] w fun e' w' => e' = .returned (.int .i64 e) ∧ (e ≠ 10 → w' = w) ∧ (e = 10 → w' = w.setCell ⟨g, 4, none⟩ (.int .i64 2)) := by
  obtain ⟨c0, c1, c2, c3, c4⟩ := h.cells
  have f4 := h.frozen 4
  by_cases he : e = 10
  · subst he
    go_enter Try.func46, Try.ntmps46
    go_wp2
    go_ret
    exact ⟨rfl, fun h => absurd rfl h, fun _ => rfl⟩
  · have he' : (e == 10) = false := by rw [beq_eq_false_iff_ne]; exact he
    go_enter Try.func46, Try.ntmps46
    go_wp2
    go_ret
    exact ⟨rfl, fun _ => rfl, fun h => absurd h he⟩
end T
end Go.Proofs.Ytdgijnolpjaheaa
