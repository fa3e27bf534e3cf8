/- Each draw is from nought to the bound, the bound left out, and hangs on its place alone, whatever was asked for ahead; behind the end of the list it is nought. Conditions: none. -/
import Derived.Test.YtceecckipeeigaaRows
import Derived.Test.YtceecckipeeigaaKnownDraws
import Derived.Deep.RegionWith
import Derived.WalkKit
import Derived.WalkLawsBesides
import Derived.ProofKit
import Derived.OpenShut
import Derived.ShutString
import Derived.ChangeOld
import Derived.Below
import Derived.SizedLaws
namespace Go.Proofs.Ytceecckipeeigaa.drawsBound
open Go.ChangeShapes Go.WideShapes Go.ChangeAt Go.RowKit
open Go.ChangeMaps (open_string shut_string)
set_option linter.unusedVariables false

theorem own : ownKnob Try.prog.godebug = none := by kernel_rfl
theorem laidOut : laidOutB Try.prog = true := by kernel_rfl
theorem bytesOfI : Try.prog.bytesOf 3 = 8 := by kernel_rfl

open Go.Proofs.Ytceecckipeeigaa.Dw in
/-- the statement's own test: 1 where a number below 0 was brought up -/
theorem brought_any (x n v : Int) (w : World) : Calls Try.prog 14 #[.int .i64 x, .int .i64 n, .int .i64 v] w fun e w' => e = .returned (.int .i64 (if x < 0 ∧ v ≠ 0 then 1 else 0)) ∧ w' = w := by
  by_cases h1 : x < 0
  · by_cases h2 : v = 0
    · subst h2
      go_enter Try.func14, Try.ntmps14
      go_wp2_with fail
      go_ret
      exact ⟨ret_int (by simp), rfl⟩
    · have h2' : (v == 0) = false := by simpa using h2
      go_enter Try.func14, Try.ntmps14
      go_wp2_with fail
      go_ret
      exact ⟨rfl, rfl⟩
  · go_enter Try.func14, Try.ntmps14
    go_wp2_with fail
    go_ret
    exact ⟨rfl, rfl⟩

open Go.Proofs.Ytceecckipeeigaa.Dw in
theorem self (t n : Int) (h1 : -n < t) (h2 : t < n) : t.tmod n = t := by
  rcases Int.le_total 0 t with h | h
  · exact Int.tmod_eq_of_lt h h2
  · obtain ⟨u, rfl⟩ : ∃ u, t = -u := ⟨-t, by omega⟩
    rw [Int.neg_tmod, Int.tmod_eq_of_lt (by omega) (by omega)]
open Go.Proofs.Ytceecckipeeigaa.Dw in
theorem equal (x n v : Int) (hn : 1 ≤ n) (hv : md n x = v) : (x < 0 ∧ v ≠ 0 → x.tmod n = (v - n).tmod n) ∧ (¬ (x < 0 ∧ v ≠ 0) → x.tmod n = v.tmod n) := by
  have h1 := tmod_lt x n hn
  unfold md at hv
  rw [if_neg (by omega)] at hv
  have h3 : 0 ≤ x → 0 ≤ x.tmod n := fun h => Int.tmod_nonneg n h
  have h4 : x ≤ 0 → x.tmod n ≤ 0 := fun h => by
    obtain ⟨u, rfl⟩ : ∃ u, x = -u := ⟨-x, by omega⟩
    rw [Int.neg_tmod]
    have := Int.tmod_nonneg n (show 0 ≤ u by omega)
    omega
  by_cases ht : x.tmod n < 0
  · rw [if_pos ht] at hv
    have hx : x < 0 := by omega
    refine ⟨fun _ => ?_, fun h => absurd ⟨hx, by omega⟩ h⟩
    rw [← hv, Int.add_sub_cancel, self _ _ h1.1 h1.2]
  · rw [if_neg ht] at hv
    refine ⟨fun h => absurd h.2 (by have := h4 (by omega); omega), fun _ => ?_⟩
    rw [← hv, self _ _ h1.1 h1.2]

set_option maxRecDepth 100000 in
set_option maxHeartbeats 1600000 in
open Go.Proofs.Ytceecckipeeigaa.Dw in
theorem core (a0 : Option Addr) (cap0 : Nat) (l0 : List Int) (a1 : Option Addr) (cap1 : Nat) (l1 : List Int) (a2 : Int) (w : World)
    (k0 : IsInts w w.heap.size a0 l0) (n0 : l0.length ≤ cap0) (r0 : l0.length * 8 ≤ 140737488354000) (z0 : a0 = none → cap0 = 0)
    (k1 : IsInts w w.heap.size a1 l1) (n1 : l1.length ≤ cap1) (b2 : -9223372036854775808 ≤ a2 ∧ a2 ≤ 9223372036854775807) :
    Calls Try.prog 4 #[.slice a0 l0.length cap0, .slice a1 l1.length cap1, .int .i64 a2] w fun e w' => e = .returned (.bool true) ∧ Below w.heap.size w w' := by
  by_cases h1 : 1000 < l1.length
  · go_enter Try.func4, Try.ntmps4
    go_wp2_with fail
    refine (known_any _).mono ?_
    rintro e w1 ⟨rfl, hb⟩
    go_wp2_with fail
    go_ret
    exact ⟨rfl, hb⟩
  · have HN := hid (new_any w.heap.size a0 cap0 l0 r0 w k0 (Nat.le_refl _) z0)
    go_enter Try.func4, Try.ntmps4
    go_wp2_with fail
    refine HN.out.mono ?_
    rintro e w1 ⟨g1, rfl, hd1, hb1, hs1, hs1'⟩
    have k0' := k0.below hb1
    have hz1 := hb1.size
    clear HN
    go_wp2_with fail
    refine (new_any w.heap.size a0 cap0 l0 r0 w1 k0' hb1.size z0).mono ?_
    rintro e w2 ⟨g2, rfl, he2, hb2, hs2, hs2'⟩
    have hd2 := hd1.below (by omega) hb2
    have hb := hb1.trans (hb2.mono hz1)
    have hlt1 : w1.heap.size = g1 + 1 := hs1'
    generalize w1.heap.size = lo2 at he2 hs2 hlt1
    have HK := hid k0
    clear hd1 hb1 hb2 k0' hz1 hs1' hs2' k0 z0
    go_wp2_with fail
    go_loopw [9] (fun i wr => ∃ k : Nat, k ≤ l1.length ∧ i = .int .i64 k ∧ At wr 37 w.heap.size g1 g1 l0 k ∧ At wr 37 lo2 g2 g2 l0 k ∧ Below w.heap.size w wr) (fun i _ => l1.length - (intOf i).toNat)
    case atStart => exact ⟨0, by omega, rfl, hd2, he2, hb⟩
    case round =>
      clear hd2 he2 hb
      obtain ⟨k, hk, rfl, hd, he, hb⟩ := hrel
      by_cases hlt : k < l1.length
      · obtain ⟨b, off, rfl, hbk, hc⟩ := (k1.below hb).cells k hlt
        have hck := hc k hlt
        have hin := k1.small l1[k] (List.getElem_mem _)
        clear hc
        go_wp2_with fail
        refine (next_any lo2 g2 g2 l0 k (by omega) l1[k] hin _ he).mono ?_
        rintro e w3 ⟨rfl, he3, hG3⟩
        have hd3 := hd.grown hG3 (by omega) (.inr (by omega))
        have hb3 := hb.trans (below_grown hG3 hb.size (fun k e => by injection e; omega))
        clear hG3 hd he hb hck
        go_wp2_with fail
        refine (next_any w.heap.size g1 g1 l0 k (by omega) (-k) (by unfold InInt; omega) _ hd3).mono ?_
        rintro e w4 ⟨rfl, hd4, hG4⟩
        have he4 := he3.grown hG4 (by omega) (.inl (by omega))
        have hb4 := hb3.trans (below_grown hG4 hb3.size (fun k e => by injection e; omega))
        clear hG4 hd3 he3 hb3
        go_wp2_with fail
        go_roundw
        case rel => exact ⟨k + 1, by omega, by go_num, hd4, he4, hb4⟩
        case measure => simp [intOf]; omega
      · obtain rfl : k = l1.length := by omega
        by_cases hz : a2 < 1 ∨ l0.length ≤ l1.length
        · have hv : md a2 (nx l0 l1.length) = 0 := by
            rcases hz with hz | hz
            · exact if_pos hz
            · rw [nx_ge hz]; unfold md; split <;> simp
          go_wp2_with fail
          refine (next_N w.heap.size g1 g1 l0 l1.length (by omega) a2 b2 0 hv _ hd).mono ?_
          rintro e w3 ⟨rfl, hd3, hG3⟩
          have he3 := he.grown hG3 (by omega) (.inl (by omega))
          have hb3 := hb.trans (below_grown hG3 hb.size (fun k e => by injection e; omega))
          clear hG3 hd he hb
          go_wp2_with fail
          refine (next_N lo2 g2 g2 l0 l1.length (by omega) a2 b2 0 hv _ he3).mono ?_
          rintro e w4 ⟨rfl, he4, hG4⟩
          have hd4 := hd3.grown hG4 (by omega) (.inr (by omega))
          have hb4 := hb3.trans (below_grown hG4 hb3.size (fun k e => by injection e; omega))
          clear hG4 hd3 he3 hb3
          go_wp2_with fail
          refine (count_any w.heap.size g1 g1 l0 (l1.length + 1) _ hd4).mono ?_
          rintro e w5 ⟨rfl, rfl⟩
          by_cases hz1 : a2 < 1
          · go_wp2_with fail
            refine (known_any _).mono ?_
            rintro e w6 ⟨rfl, hb6⟩
            have hb6 := hb4.trans (hb6.mono hb4.size)
            go_wp2_with fail
            go_ret
            exact ⟨rfl, hb6⟩
          · have hz2 : l0.length ≤ l1.length := by omega
            go_wp2_with fail
            refine (known_any _).mono ?_
            rintro e w6 ⟨rfl, hb6⟩
            have hb6 := hb4.trans (hb6.mono hb4.size)
            go_wp2_with fail
            go_ret
            exact ⟨rfl, hb6⟩
        · have hz1 : 1 ≤ a2 := by omega
          have hz2 : l1.length < l0.length := by omega
          obtain ⟨b, off, rfl, hbk, hc⟩ := (HK.out.below hb).cells _ hz2
          have hin := HK.out.small l0[l1.length] (List.getElem_mem _)
          obtain ⟨x, hx⟩ : ∃ x, l0[l1.length] = x := ⟨_, rfl⟩
          obtain ⟨v, hv⟩ : ∃ v, md a2 x = v := ⟨_, rfl⟩
          have hv' : md a2 (nx l0 l1.length) = v := by rw [nx_lt hz2, hx, hv]
          have hvb := md_lt a2 x hz1
          have heq := hid (equal x a2 v hz1 hv)
          rw [hv] at hvb
          rw [hx] at hin
          obtain ⟨hv1, hv2⟩ := hvb
          have ha0 : a2 ≠ 0 := by omega
          have HV := hid hv'
          clear hv hv' hc hz
          go_wp2_with fail
          refine (next_N w.heap.size g1 g1 l0 l1.length (by omega) a2 b2 v HV.out _ hd).mono ?_
          rintro e w3 ⟨rfl, hd3, hG3⟩
          have he3 := he.grown hG3 (by omega) (.inl (by omega))
          have hb3 := hb.trans (below_grown hG3 hb.size (fun k e => by injection e; omega))
          clear hG3 hd he hb
          go_wp2_with fail
          refine (next_N lo2 g2 g2 l0 l1.length (by omega) a2 b2 v HV.out _ he3).mono ?_
          rintro e w4 ⟨rfl, he4, hG4⟩
          have hd4 := hd3.grown hG4 (by omega) (.inr (by omega))
          have hb4 := hb3.trans (below_grown hG4 hb3.size (fun k e => by injection e; omega))
          clear hG4 hd3 he3 hb3
          go_wp2_with fail
          refine (count_any w.heap.size g1 g1 l0 (l1.length + 1) _ hd4).mono ?_
          rintro e w5 ⟨rfl, rfl⟩
          have hcx : w5.cell? ⟨b, off + l1.length, none⟩ = some (.int .i64 x) := by
            have h5 := (HK.out.below hb4).cells _ hz2
            obtain ⟨b', off', e, _, hc⟩ := h5
            injection e with e
            injection e with e1 e2
            subst e1
            subst e2
            rw [← hx]
            exact hc _ hz2
          by_cases hn : x < 0 ∧ v ≠ 0
          · have hq : x.tmod a2 = (v - a2).tmod a2 := heq.out.1 hn
            have HB := hid hb4
            have hB : ∀ w, Calls Try.prog 14 #[.int .i64 x, .int .i64 a2, .int .i64 v] w fun e w' => e = .returned (.int .i64 1) ∧ w' = w := fun w => by
              have := brought_any x a2 v w
              rwa [if_pos hn] at this
            clear hn heq hd4 he4 hb4
            go_wp2_with fail
            refine wp_region_still_tail 24 (by kernel_rfl) (by kernel_rfl) ?_
            simp only [List.take_succ_cons, List.take_zero, List.drop_succ_cons, List.drop_zero]
            repeat still_step
            still_call (hB _)
            repeat still_step
            refine wpStill_nil ?_
            go_wp2_with fail
            refine (known_any _).mono ?_
            rintro e w6 ⟨rfl, hb6⟩
            have hb6 := HB.out.drew.trans (hb6.mono HB.out.size)
            go_wp2_with fail
            go_ret
            exact ⟨rfl, hb6⟩
          · have hq : x.tmod a2 = v.tmod a2 := heq.out.2 hn
            have HB := hid hb4
            have hB : ∀ w, Calls Try.prog 14 #[.int .i64 x, .int .i64 a2, .int .i64 v] w fun e w' => e = .returned (.int .i64 0) ∧ w' = w := fun w => by
              have := brought_any x a2 v w
              rwa [if_neg hn] at this
            clear hn heq hd4 he4 hb4
            go_wp2_with fail
            refine wp_region_still_tail 24 (by kernel_rfl) (by kernel_rfl) ?_
            simp only [List.take_succ_cons, List.take_zero, List.drop_succ_cons, List.drop_zero]
            repeat still_step
            still_call (hB _)
            repeat still_step
            refine wpStill_nil ?_
            go_wp2_with fail
            refine (known_any _).mono ?_
            rintro e w6 ⟨rfl, hb6⟩
            have hb6 := HB.out.drew.trans (hb6.mono HB.out.size)
            go_wp2_with fail
            go_ret
            exact ⟨rfl, hb6⟩
            rename_i h
            exact absurd (by rw [Int.sub_zero]) h

theorem walk (a0 : Option Addr) (cap0 : Nat) (l0 : List Int) (a1 : Option Addr) (cap1 : Nat) (l1 : List Int) (a2 : Int) (w : World)
    (k0 : IsInts w w.heap.size a0 l0) (n0 : l0.length ≤ cap0) (r0 : cap0 * 8 ≤ 140737488351232) (z0 : a0 = none → cap0 = 0)
    (k1 : IsInts w w.heap.size a1 l1) (n1 : l1.length ≤ cap1) (r1 : cap1 * 8 ≤ 140737488351232) (z1 : a1 = none → cap1 = 0)
    (b2 : -9223372036854775808 ≤ a2 ∧ a2 ≤ 9223372036854775807) :
    Calls Try.prog 4 #[.slice a0 l0.length cap0, .slice a1 l1.length cap1, .int .i64 a2] w fun e w' => e = .returned (.bool true) ∧ Below w.heap.size w w' :=
  core a0 cap0 l0 a1 cap1 l1 a2 w k0 n0 (by omega) z0 k1 n1 b2

set_option maxRecDepth 100000 in
theorem lifted (os : Os) (started : os.Started) (H : Type) (enc : TypeId × Value → H) :
    ReturnsInHanded {} Try.checked os 4 .any (Rows.drawsBoundSpec.pre6 enc Try.prog Try.f4 Rows.drawsBoundRow.domain false) (Rows.drawsBoundSpec.post enc Try.prog Try.f4 false true false false) := by
  refine returnsInHanded_of_change_sized (C := Try.checked) own started (by kernel_rfl) Try.func4
    (ChangeSpec.witness6 (enc := enc) (C := Try.checked) false ⟨#[], #[.slice none 0 0, .slice none 0 0, .int .i64 0], []⟩ 8 (by kernel_rfl) (by kernel_rfl) (by kernel_rfl) (by kernel_rfl)) ?_
  intro W base args ds gs before hval0 hW hcnd hsz0 _
  have hsz : (DataW.weightsEach Try.prog (Try.f4.params.toList ++ Rows.drawsBoundSpec.plain.varTypes Try.prog) (ds ++ gs)).all (· ≤ reachBytes) = true := hsz0
  clear hsz0
  have hval : ∀ (j : Nat) t v, Try.f4.params[j]? = some t → args[j]? = some v → Value.okWide Try.prog W .any base t v := hval0
  have hW' := hW
  obtain ⟨p, q, hA0, hV, rfl, hfz, hnd⟩ := hW
  have hA : DataW.TrodAll enc Try.prog W 0 (fun _ => true) true Try.f4.params.toList args.toList ds p := hA0
  rw [Try.params4] at hA hval hsz
  obtain ⟨v0, vs0, d0, ds0, p0, q0, hargs, rfl, rfl, g0, t0⟩ := trodAll_cons hA
  obtain ⟨v1, vs1, d1, ds1, p1, q1, rfl, rfl, rfl, g1, t1⟩ := trodAll_cons t0
  obtain ⟨v2, vs2, d2, ds2, p2, q2, rfl, rfl, rfl, g2, t2⟩ := trodAll_cons t1
  obtain ⟨rfl, rfl, rfl⟩ := trodAll_nil t2
  obtain rfl : args = #[v0, v1, v2] := by cases args; simp_all
  obtain ⟨rfl, rfl⟩ := trodVars_none hV
  obtain ⟨a0, len0, cap0, rfl⟩ := okWide_slice Try.underlying22 (hval 0 22 v0 rfl rfl)
  have m0 := g0
  have lt0 : ∀ x ∈ p0, x.block < W.heap.size := by obtain ⟨m, hm⟩ := m0; exact DataW.trod_lt m _ _ _ hm
  obtain ⟨l0, k0, rfl, n0, r0, z0⟩ : ∃ l, IsInts W W.heap.size a0 l ∧ len0 = l.length ∧ l.length ≤ cap0 ∧ cap0 * 8 ≤ 140737488351232 ∧ (a0 = none → cap0 = 0) := by
    obtain ⟨fuel, hf⟩ := g0
    rcases open_ints Try.underlying22 Try.underlying3 (by kernel_rfl) hf with ⟨hcs, _⟩ | ⟨x, l, c, zs, hcs, _, hl, hm, hz, hx, hcell, hwz⟩
    · simp [Value.cells] at hcs
      obtain ⟨rfl, rfl, rfl⟩ := hcs
      exact ⟨[], IsInts.nil, rfl, by simp, by omega, fun _ => rfl⟩
    · simp [Value.cells] at hcs
      obtain ⟨rfl, rfl, rfl⟩ := hcs
      simp only [Prod.mk.injEq] at hx
      obtain ⟨rfl, rfl⟩ := hx
      simp only [if_true] at hz
      have hr := sized_slice hsz (j := 0) (t := 22) (e := 3) rfl rfl Try.underlying22
      rw [bytesOfI] at hr
      simp only [lits, List.length_map, List.length_take, List.length_drop, reachBytes] at hr
      obtain ⟨l, h1, h2⟩ := isInts_of_ints hl hz hcell hwz
      exact ⟨l, h1, h2, by omega, by omega, fun h => by cases h⟩
  obtain ⟨a1, len1, cap1, rfl⟩ := okWide_slice Try.underlying22 (hval 1 22 v1 rfl rfl)
  have m1 := g1
  have lt1 : ∀ x ∈ p1, x.block < W.heap.size := by obtain ⟨m, hm⟩ := m1; exact DataW.trod_lt m _ _ _ hm
  obtain ⟨l1, k1, rfl, n1, r1, z1⟩ : ∃ l, IsInts W W.heap.size a1 l ∧ len1 = l.length ∧ l.length ≤ cap1 ∧ cap1 * 8 ≤ 140737488351232 ∧ (a1 = none → cap1 = 0) := by
    obtain ⟨fuel, hf⟩ := g1
    rcases open_ints Try.underlying22 Try.underlying3 (by kernel_rfl) hf with ⟨hcs, _⟩ | ⟨x, l, c, zs, hcs, _, hl, hm, hz, hx, hcell, hwz⟩
    · simp [Value.cells] at hcs
      obtain ⟨rfl, rfl, rfl⟩ := hcs
      exact ⟨[], IsInts.nil, rfl, by simp, by omega, fun _ => rfl⟩
    · simp [Value.cells] at hcs
      obtain ⟨rfl, rfl, rfl⟩ := hcs
      simp only [Prod.mk.injEq] at hx
      obtain ⟨rfl, rfl⟩ := hx
      simp only [if_true] at hz
      have hr := sized_slice hsz (j := 1) (t := 22) (e := 3) rfl rfl Try.underlying22
      rw [bytesOfI] at hr
      simp only [lits, List.length_map, List.length_take, List.length_drop, reachBytes] at hr
      obtain ⟨l, h1, h2⟩ := isInts_of_ints hl hz hcell hwz
      exact ⟨l, h1, h2, by omega, by omega, fun h => by cases h⟩
  obtain ⟨a2, rfl, rfl, rfl, w2⟩ := open_int Try.underlying3 (hval 2 3 v2 rfl rfl) g2
  have b2 := bounds_i64 w2
  clear hA0 hval0
  refine (walk a0 cap0 l0 a1 cap1 l1 a2 W k0 n0 r0 z0 k1 n1 r1 z1 b2).mono fun e W' ⟨he, bel⟩ => ?_
  subst he
  exact ⟨_, rfl, _, _, _, [], _, [], hW', trodAll_mk1 (shut_bool Try.underlying4 _), (trodAll_cons_mk (Below.trod laidOut (by kernel_rfl) (of_decide_eq_true (by kernel_rfl)) m0 bel lt0) (trodAll_cons_mk (Below.trod laidOut (by kernel_rfl) (of_decide_eq_true (by kernel_rfl)) m1 bel lt1) (trodAll_cons_mk (shut_int Try.underlying3 w2) trodAll_mk0))), rfl, bel.frame _, fun h => by cases h⟩

theorem over : Rows.drawsBoundRow.holds Try.pinned (OpenSpec.ofChange Rows.drawsBoundSpec) :=
  OpenClaim.holds_of_wide 4 Try.f4 rfl rfl rfl rfl rfl rfl rfl ⟨rfl, rfl, rfl, rfl, rfl⟩ rfl rfl rfl rfl rfl (by kernel_rfl) Try.func4 (by kernel_rfl)
    (of_decide_eq_true (by kernel_rfl)) (by unfold Func.isWrapper; first | (rw [if_pos (by decide +kernel)]; kernel_rfl) | (rw [if_neg (by decide +kernel)]; exact ⟨rfl, rfl⟩))
    (fun os started H enc _ => lifted os started H enc)

theorem proved : Rows.DrawsBoundSaid := over
end Go.Proofs.Ytceecckipeeigaa.drawsBound
