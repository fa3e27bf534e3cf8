/- Behind a flush nothing is dirty, and what was read ahead of it is read behind any crash. Conditions: none. -/
import Derived.Test.YtbfbnpbonoapnaaRows
import Derived.Test.YtbfbnpbonoapnaaLawD
import Derived.WalkKit
import Derived.WalkLawsBesides
import Derived.ProofKit
import Derived.OpenShut
import Derived.ShutString
import Derived.ChangeOld
import Derived.Below
import Derived.SizedLaws
namespace Go.Proofs.Ytbfbnpbonoapnaa.sectorFlushed
open Go.ChangeShapes Go.WideShapes Go.ChangeAt Go.RowKit
open Go.ChangeMaps (open_string shut_string)
set_option linter.unusedVariables false

theorem own : ownKnob Try.prog.godebug = none := by kernel_rfl
theorem laidOut : laidOutB Try.prog = true := by kernel_rfl
theorem bytesOfI : Try.prog.bytesOf 3 = 8 := by kernel_rfl

set_option maxHeartbeats 1600000 in
set_option maxRecDepth 100000 in
theorem core (a0 : Int) (a1 : Option Addr) (cap1 : Nat) (l1 : List Sx.Op) (a2 : Option Addr) (cap2 : Nat) (l2 : List Int) (w : World)
    (b0 : -9223372036854775808 ≤ a0 ∧ a0 ≤ 9223372036854775807) (k1 : IsOps w w.heap.size a1 l1) (k2 : IsInts w w.heap.size a2 l2) :
    Calls Try.prog 4 #[.int .i64 a0, .slice a1 l1.length cap1, .slice a2 l2.length cap2] w fun e w' => e = .returned (.bool true) ∧ Below w.heap.size w w' := by
  go_enter Try.func4, Try.ntmps4
  go_wp2_with fail
  refine (works_any w).mono ?_
  rintro e w1 ⟨rfl, hb1⟩
  have HL := hid (long_any w.heap.size a1 cap1 l1 w1 (k1.below hb1))
  have HB1 := hid hb1
  clear hb1
  go_wp2_with fail
  refine HL.out.mono ?_
  rintro e w2 ⟨rfl, n2, hw2⟩
  have hb2 : Below w.heap.size w w2 := by rw [hw2]; exact below_drewN HB1.out n2
  have HB2 := hid hb2
  clear hb2 hw2 HL HB1
  cases hlg : Sx.long l1
  · obtain ⟨hlen, _⟩ := Sx.long_iff.1 hlg
    have HLG := hid hlen
    clear hlg hlen
    go_wp2_with fail
    refine (pick_lt a0 64 (by omega) (by omega) w2).mono ?_
    rintro e w3 ⟨⟨p, rfl, hp⟩, rfl⟩
    have HN := new_ds (1 + p) (by omega) w w2 HB2.out
    rw [show ((1 + p : Nat) : Int) = 1 + (p : Int) by omega] at HN
    have HN := hid HN
    go_wp2_with fail
    refine HN.out.mono ?_
    rintro e w3 ⟨d, rfl, hD⟩
    have HS : Hid (DS w w3 d (Sx.runs (Sx.new (1 + p)) (l1.take 0))) := hid hD
    have hlen := HLG.out
    clear hD HN HB2 hp HLG
    go_wp2_with fail
    go_loopw [9] (fun i wr => ∃ k : Nat, k ≤ l1.length ∧ i = .int .i64 k ∧ Hid (DS w wr d (Sx.runs (Sx.new (1 + p)) (l1.take k)))) (fun i _ => l1.length - (RowKit.intOf i).toNat)
    case atStart => exact ⟨0, by omega, rfl, HS⟩
    case round =>
      clear HS
      obtain ⟨k, hk, rfl, hS⟩ := hrel
      by_cases hlt : k < l1.length
      · obtain ⟨b, off, rfl, _, hc⟩ := (k1.below hS.out.bel).cells k hlt
        obtain ⟨ap, cp, al, cl, c0, c1, c2, c3, c4, hp, hl, _, _, hcp, _, _, hi, _⟩ := hc k hlt
        have HC := hid (run_ds w d _ l1[k] ap al cp cl wr hS.out hp hl hcp hi)
        rw [Sx.runs_step _ _ _ hlt] at HC
        have hk0 : (k : Int) < (l1.length : Int) := by omega
        clear hc hp hl hi k1 k2
        go_wp2_with fail
        refine HC.out.mono ?_
        rintro e w4 ⟨rfl, hD4, _⟩
        have HD4 := hid hD4
        clear hD4
        go_wp2_with fail
        go_roundw
        case rel => exact ⟨k + 1, by omega, by go_num, HD4⟩
        case measure => simp [RowKit.intOf]; omega
      · obtain rfl : k = l1.length := by omega
        have hS1 := hS.out
        rw [List.take_length] at hS1
        obtain ⟨s, hs⟩ : ∃ s, s = Sx.runs (Sx.new (1 + p)) l1 := ⟨_, rfl⟩
        rw [← hs] at hS1
        have HS := hid hS1
        have HI := hid k2
        clear hS1 hS hs k1 k2 hk hlt
        go_wp2_with fail
        refine (shown_ds w d s wr HS.out).mono ?_
        rintro e w4 ⟨A4, c4, rfl, hr4, hD4, hb4⟩
        have H4 := hid (And.intro hr4 (And.intro hD4 hb4))
        clear hr4 hD4 hb4
        rcases Sx.spE_cases s with ⟨he, hd1, hd2⟩ | ⟨he, hdn⟩
        · have hfl := Sx.flS_ok s hd1 hd2
          have hcn : ∀ i, (Sx.flS s).cache i = none := fun i => by rw [hfl]
          have hd0 : (Sx.dirty (Sx.flS s)).length = 0 := by rw [Sx.dirty_none _ hcn]; rfl
          have HF := hid (flush_dsT w d s w4 H4.out.2.1)
          rw [he] at HF
          have HCN := hid hcn
          have HD0 := hid hd0
          clear he hd1 hd2 hfl hcn hd0
          go_wp2_with fail
          refine HF.out.mono ?_
          rintro e w5 ⟨rfl, hD5, ht5⟩
          have H5 := hid (And.intro hD5 (H4.out.1.onD HS.out.at_.lt ht5))
          clear hD5 ht5 HF
          have HDy := hid (dirty_ds w d _ w5 H5.out.1)
          rw [HD0.out] at HDy
          go_wp2_with fail
          refine HDy.out.mono ?_
          rintro e w6 ⟨A6, c6, rfl, _, hD6, hb6⟩
          have H6 := hid (And.intro hD6 (H5.out.2.below hb6))
          clear hD6 hb6 H5 HDy
          go_wp2_with fail
          refine (shown_ds w d _ w6 H6.out.1).mono ?_
          rintro e w7 ⟨A7, c7, rfl, hr7, hD7, hb7⟩
          have H7 := hid (And.intro (H6.out.2.below hb7) (And.intro hr7 hD7))
          clear hr7 hD7 hb7 H6
          go_wp2_with fail
          refine (same_shown H7.out.1 H7.out.2.1 rfl rfl (Sx.shows_flS s)).mono ?_
          rintro e w8 ⟨rfl, n8, hw8⟩
          have hD8 : DS w w8 d (Sx.flS s) := by rw [hw8]; exact H7.out.2.2.drewN n8
          have hr8 : RowsAt w8 (fun k => k < wr.heap.size) (.slice A4 (min s.n 64) c4) (Sx.shows s) := by rw [hw8]; exact H7.out.1.drewN n8
          have H8 := hid (And.intro hD8 hr8)
          clear hw8 hD8 hr8 H7
          have HC := hid (crash_dsT w d _ a2 cap2 l2 _ rfl w8 H8.out.1 (HI.out.below H8.out.1.bel))
          go_wp2_with fail
          refine HC.out.mono ?_
          rintro e w9 ⟨rfl, hD9, ht9⟩
          have H9 := hid (And.intro hD9 (H8.out.2.onD HS.out.at_.lt ht9))
          clear hD9 ht9 H8 HC
          go_wp2_with fail
          refine (shown_ds w d _ w9 H9.out.1).mono ?_
          rintro e w10 ⟨A10, c10, rfl, hr10, hD10, hb10⟩
          have H10 := hid (And.intro (H9.out.2.below hb10) (And.intro hr10 hD10))
          clear hr10 hD10 hb10 H9
          go_wp2_with fail
          refine (same_shown H10.out.1 H10.out.2.1 rfl rfl ((Sx.shows_crash_none _ HCN.out l2).trans (Sx.shows_flS s))).mono ?_
          rintro e w11 ⟨rfl, n11, hw11⟩
          have hD11 : DS w w11 d (Sx.crash (Sx.flS s) l2) := by rw [hw11]; exact H10.out.2.2.drewN n11
          have H11 := hid hD11
          clear hw11 hD11 H10
          go_wp2_with fail
          refine (down_ds w d _ w11 H11.out).mono ?_
          rintro e w12 ⟨rfl, rfl⟩
          have HX : Hid ((Sx.crash (Sx.flS s) l2).down = false) := hid rfl
          go_wp2_with fail
          rw [HX.out]
          go_ret
          exact ⟨rfl, H11.out.bel⟩
        · have HF := hid (flush_dsT w d s w4 H4.out.2.1)
          rw [he] at HF
          have HDN := hid hdn
          clear he hdn
          go_wp2_with fail
          refine HF.out.mono ?_
          rintro e w5 ⟨rfl, hD5, ht5⟩
          have H5 := hid (And.intro hD5 (H4.out.1.onD HS.out.at_.lt ht5))
          clear hD5 ht5 HF
          have HDw := hid (down_ds w d _ w5 H5.out.1)
          rw [HDN.out] at HDw
          go_wp2_with fail
          refine HDw.out.mono ?_
          rintro e w6 ⟨rfl, rfl⟩
          go_wp2_with fail
          refine (shown_ds w d _ w6 H5.out.1).mono ?_
          rintro e w7 ⟨A7, c7, rfl, hr7, hD7, hb7⟩
          have H7 := hid (And.intro (H5.out.2.below hb7) (And.intro hr7 hD7))
          clear hr7 hD7 hb7 H5
          go_wp2_with fail
          refine (same_shown H7.out.1 H7.out.2.1 rfl rfl (Sx.shows_flS s)).mono ?_
          rintro e w8 ⟨rfl, n8, hw8⟩
          have hD8 : DS w w8 d (Sx.flS s) := by rw [hw8]; exact H7.out.2.2.drewN n8
          have H8 := hid hD8
          clear hw8 hD8 H7
          go_wp2_with fail
          go_ret
          exact ⟨rfl, H8.out.bel⟩
  · go_wp2_with fail
    go_ret
    exact ⟨rfl, HB2.out⟩
theorem walk (a0 : Int) (a1 : Option Addr) (cap1 : Nat) (l1 : List Sx.Op) (a2 : Option Addr) (cap2 : Nat) (l2 : List Int) (w : World)
    (b0 : -9223372036854775808 ≤ a0 ∧ a0 ≤ 9223372036854775807) (k1 : IsOps w w.heap.size a1 l1) (n1 : l1.length ≤ cap1) (r1 : cap1 ≤ maxLen) (z1 : a1 = none → cap1 = 0)
    (k2 : IsInts w w.heap.size a2 l2) (n2 : l2.length ≤ cap2) (r2 : cap2 * 8 ≤ 140737488351232) (z2 : a2 = none → cap2 = 0) :
    Calls Try.prog 4 #[.int .i64 a0, .slice a1 l1.length cap1, .slice a2 l2.length cap2] w fun e w' => e = .returned (.bool true) ∧ Below w.heap.size w w' :=
  core a0 a1 cap1 l1 a2 cap2 l2 w b0 k1 k2

set_option maxRecDepth 100000 in
theorem lifted (os : Os) (started : os.Started) (H : Type) (enc : TypeId × Value → H) :
    ReturnsInHanded {} Try.checked os 4 .any (Rows.sectorFlushedSpec.pre6 enc Try.prog Try.f4 Rows.sectorFlushedRow.domain false) (Rows.sectorFlushedSpec.post enc Try.prog Try.f4 false true false false) := by
  refine returnsInHanded_of_change_sized (C := Try.checked) own started (by kernel_rfl) Try.func4
    (ChangeSpec.witness6 (enc := enc) (C := Try.checked) false ⟨#[], #[.int .i64 0, .slice none 0 0, .slice none 0 0], []⟩ 8 (by kernel_rfl) (by kernel_rfl) (by kernel_rfl) (by kernel_rfl)) ?_
  intro W base args ds gs before hval0 hW hcnd hsz0 _
  have hsz : (DataW.weightsEach Try.prog (Try.f4.params.toList ++ Rows.sectorFlushedSpec.plain.varTypes Try.prog) (ds ++ gs)).all (· ≤ reachBytes) = true := hsz0
  clear hsz0
  have hval : ∀ (j : Nat) t v, Try.f4.params[j]? = some t → args[j]? = some v → Value.okWide Try.prog W .any base t v := hval0
  have hW' := hW
  obtain ⟨p, q, hA0, hV, rfl, hfz, hnd⟩ := hW
  have hA : DataW.TrodAll enc Try.prog W 0 (fun _ => true) true Try.f4.params.toList args.toList ds p := hA0
  rw [Try.params4] at hA hval hsz
  obtain ⟨v0, vs0, d0, ds0, p0, q0, hargs, rfl, rfl, g0, t0⟩ := trodAll_cons hA
  obtain ⟨v1, vs1, d1, ds1, p1, q1, rfl, rfl, rfl, g1, t1⟩ := trodAll_cons t0
  obtain ⟨v2, vs2, d2, ds2, p2, q2, rfl, rfl, rfl, g2, t2⟩ := trodAll_cons t1
  obtain ⟨rfl, rfl, rfl⟩ := trodAll_nil t2
  obtain rfl : args = #[v0, v1, v2] := by cases args; simp_all
  obtain ⟨rfl, rfl⟩ := trodVars_none hV
  obtain ⟨a0, rfl, rfl, rfl, w0⟩ := open_int Try.underlying3 (hval 0 3 v0 rfl rfl) g0
  have b0 := bounds_i64 w0
  obtain ⟨a1, len1, cap1, rfl⟩ := okWide_slice Try.underlying22 (hval 1 22 v1 rfl rfl)
  have m1 := g1
  have lt1 : ∀ x ∈ p1, x.block < W.heap.size := by obtain ⟨m, hm⟩ := m1; exact DataW.trod_lt m _ _ _ hm
  obtain ⟨l1, k1, rfl, n1, r1, z1⟩ : ∃ l, IsOps W W.heap.size a1 l ∧ len1 = l.length ∧ l.length ≤ cap1 ∧ cap1 ≤ maxLen ∧ (a1 = none → cap1 = 0) := by
    obtain ⟨fuel, hf⟩ := g1
    obtain ⟨a, c, ts, hcs, h1, h2, h3⟩ := ops_of_trod hf
    simp [Value.cells] at hcs
    obtain ⟨rfl, rfl, rfl⟩ := hcs
    exact ⟨ts, h1, rfl, h2.1, h2.2, h3⟩
  obtain ⟨a2, len2, cap2, rfl⟩ := okWide_slice Try.underlying34 (hval 2 34 v2 rfl rfl)
  have m2 := g2
  have lt2 : ∀ x ∈ p2, x.block < W.heap.size := by obtain ⟨m, hm⟩ := m2; exact DataW.trod_lt m _ _ _ hm
  obtain ⟨l2, k2, rfl, n2, r2, z2⟩ : ∃ l, IsInts W W.heap.size a2 l ∧ len2 = l.length ∧ l.length ≤ cap2 ∧ cap2 * 8 ≤ 140737488351232 ∧ (a2 = none → cap2 = 0) := by
    obtain ⟨fuel, hf⟩ := g2
    rcases open_ints Try.underlying34 Try.underlying3 (by kernel_rfl) hf with ⟨hcs, _⟩ | ⟨x, l, c, zs, hcs, _, hl, hm, hz, hx, hcell, hwz⟩
    · simp [Value.cells] at hcs
      obtain ⟨rfl, rfl, rfl⟩ := hcs
      exact ⟨[], IsInts.nil, rfl, by simp, by omega, fun _ => rfl⟩
    · simp [Value.cells] at hcs
      obtain ⟨rfl, rfl, rfl⟩ := hcs
      simp only [Prod.mk.injEq] at hx
      obtain ⟨rfl, rfl⟩ := hx
      simp only [if_true] at hz
      have hr := sized_slice hsz (j := 2) (t := 34) (e := 3) rfl rfl Try.underlying34
      rw [bytesOfI] at hr
      simp only [lits, List.length_map, List.length_take, List.length_drop, reachBytes] at hr
      obtain ⟨l, h1, h2⟩ := isInts_of_ints hl hz hcell hwz
      exact ⟨l, h1, h2, by omega, by omega, fun h => by cases h⟩
  clear hA0 hval0
  refine (walk a0 a1 cap1 l1 a2 cap2 l2 W b0 k1 n1 r1 z1 k2 n2 r2 z2).mono fun e W' ⟨he, bel⟩ => ?_
  subst he
  exact ⟨_, rfl, _, _, _, [], _, [], hW', trodAll_mk1 (shut_bool Try.underlying4 _), (trodAll_cons_mk (shut_int Try.underlying3 w0) (trodAll_cons_mk (Below.trod laidOut (by kernel_rfl) (of_decide_eq_true (by kernel_rfl)) m1 bel lt1) (trodAll_cons_mk (Below.trod laidOut (by kernel_rfl) (of_decide_eq_true (by kernel_rfl)) m2 bel lt2) trodAll_mk0))), rfl, bel.frame _, fun h => by cases h⟩

theorem over : Rows.sectorFlushedRow.holds Try.pinned (OpenSpec.ofChange Rows.sectorFlushedSpec) :=
  OpenClaim.holds_of_wide 4 Try.f4 rfl rfl rfl rfl rfl rfl rfl ⟨rfl, rfl, rfl, rfl, rfl⟩ rfl rfl rfl rfl rfl (by kernel_rfl) Try.func4 (by kernel_rfl)
    (of_decide_eq_true (by kernel_rfl)) (by unfold Func.isWrapper; first | (rw [if_pos (by decide +kernel)]; kernel_rfl) | (rw [if_neg (by decide +kernel)]; exact ⟨rfl, rfl⟩))
    (fun os started H enc _ => lifted os started H enc)

theorem proved : Rows.SectorFlushedSaid := over
end Go.Proofs.Ytbfbnpbonoapnaa.sectorFlushed
