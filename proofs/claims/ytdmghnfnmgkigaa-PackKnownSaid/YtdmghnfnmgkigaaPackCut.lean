/- What was put, cut off anywhere, or with bytes behind it, is not read as that: the reader is bad, or bytes are left. Conditions: none. -/
import Derived.Test.YtdmghnfnmgkigaaRows
import Derived.Test.YtdmghnfnmgkigaaWorks02
import Derived.Test.YtdmghnfnmgkigaaReadThings
import Derived.WalkKit
import Derived.WalkLawsBesides
import Derived.ProofKit
import Derived.OpenShut
import Derived.ShutString
import Derived.ChangeOld
import Derived.Below
import Derived.SizedLaws
namespace Go.Proofs.Ytdmghnfnmgkigaa.packCut
open Go.ChangeShapes Go.WideShapes Go.ChangeAt Go.RowKit
open Go.ChangeMaps (open_string shut_string)
set_option linter.unusedVariables false

theorem own : ownKnob Try.prog.godebug = none := by kernel_rfl
theorem laidOut : laidOutB Try.prog = true := by kernel_rfl
theorem bytesOf : Try.prog.bytesOf 5 = 1 := by kernel_rfl

theorem info_u8' : (Try.prog.info? 5).map (fun i => (i.zero, i.size, i.bytes)) = some (some (.int .u8 0), 1, 1) := by kernel_rfl
theorem pick_lt (k : Int) (n : Nat) (hn : 1 ≤ n) (hn2 : n ≤ 1000000) (w : World) :
    Calls Try.prog 33 #[.int .i64 k, .int .i64 (n : Int)] w fun e w' => (∃ p : Nat, e = .returned (.int .i64 p) ∧ p < n) ∧ w = w' := by
  refine (pick_some k n (by omega) (by simp [Lit.wf, IntKind.min, IntKind.max, IntKind.signed, IntKind.bits]; omega) w).mono fun e w' ⟨he, hw⟩ => ?_
  have h1 := Int.emod_nonneg k (show (n : Int) ≠ 0 by omega)
  have h2 := Int.emod_lt_of_pos k (show (0 : Int) < n by omega)
  exact ⟨⟨(k % n).toNat, by rw [he, Int.toNat_of_nonneg h1], by omega⟩, hw⟩

set_option maxHeartbeats 3200000 in
theorem core (a0 : Option Addr) (cap0 : Nat) (l0 : List Pk.Th) (a1 : Int) (a2 : Option Addr) (cap2 : Nat) (l2 : List Nat) (w : World)
    (k0 : IsThings w w.heap.size a0 l0) (n0 : l0.length ≤ cap0) (r0 : cap0 ≤ maxLen) (z0 : a0 = none → cap0 = 0)
    (b1 : -9223372036854775808 ≤ a1 ∧ a1 ≤ 9223372036854775807)
    (k2 : IsBytes w w.heap.size a2 l2) (n2 : l2.length ≤ cap2) (z2 : a2 = none → cap2 = 0) :
    Calls Try.prog 6 #[.slice a0 l0.length cap0, .int .i64 a1, .slice a2 l2.length cap2] w fun e w' => e = .returned (.bool true) ∧ Below w.heap.size w w' := by
  obtain ⟨i0, hi, hz0, hz1, hz2⟩ := info_parts info_u8'
  have hb1a := b1.1
  have hb1b := b1.2
  go_enter Try.func6, Try.ntmps6
  go_wp2_with fail
  refine (laid_any w.heap.size a0 cap0 l0 w k0 (Nat.le_refl _)).mono ?_
  rintro e w1 (⟨hf, A1, c1, rfl, hown, hb1⟩ | ⟨hf, rfl, hb1⟩)
  · have hok := k0.ok
    have hvo := Pk.vals_ok l0 hok hf
    have hL : (Pk.encAll (Pk.vals l0)).length ≤ 492000 := by
      have := Pk.encAll_length _ hvo
      have h2 : (Pk.vals l0).length ≤ 60 := by unfold Pk.vals; rw [List.length_map]; exact hf.1
      omega
    have hra := Pk.readAll_enc (Pk.vals l0) l2 hvo
    have hcu := fun n => Pk.readAll_cut (Pk.vals l0) n hvo
    obtain ⟨L, hLe⟩ : ∃ L, L = Pk.encAll (Pk.vals l0) := ⟨_, rfl⟩
    rw [← hLe] at hown hL hra hcu ⊢
    have HRA := hid hra
    have HCU := hid hcu
    have hn1 := hown.capLe.2
    have hcm1 := hown.capLe.1
    have hc1 := hown.cap
    have hlen : l0.length ≤ maxLen := by omega
    have hl60 : l0.length ≤ 60 := hf.1
    have hsz1 := hb1.size
    have HB1 := hid hb1
    clear hra hcu hLe hvo hok hf hb1 b1
    by_cases hmore : 1024 < l2.length
    · clear hown
      go_wp2_with fail
      refine (works_any _).mono ?_
      rintro e w2 ⟨rfl, hb2⟩
      go_wp2_with fail
      go_ret
      exact ⟨rfl, HB1.out.trans (hb2.mono hsz1)⟩
    · go_wp2_with fail
      refine (copy_any w1.heap.size A1 c1 L (by omega) w1 hown.reads (Nat.le_refl _)).mono ?_
      rintro e w2 ⟨A2, c2, rfl, hown2, hb2⟩
      have hm2 : IsBytes w2 w.heap.size a2 l2 := k2.below (HB1.out.trans (hb2.mono hsz1))
      have hsz2 := hb2.size
      go_wp2_with (at_builtin; refine wpList_append_bytesN rfl _ _ 22 rfl w1.heap.size 5 i0 Try.underlying22 hi hz0 hz1 hz2 A2 c2 L L.length rfl rfl hown2 w.heap.size a2 cap2 l2 l2.length rfl rfl z2 hm2 (L ++ l2) rfl (by omega) hsz2 ?_)
      intro A3 c3 w3 hown3 hb3
      have hb3' : Below w1.heap.size w1 w3 := hb2.trans hb3
      have hsz3 := hb3'.size
      have hL3 : (L ++ l2).length = L.length + l2.length := by rw [List.length_append]
      have C := read_any w3.heap.size A3 c3 (L ++ l2) (by omega) w3 hown3.reads (Nat.le_refl _) hown3.capLe.2
      rw [hL3] at C
      have HC := hid C
      have HL3 := hid hL3
      clear hown2 hown3 hb2 hb3 hm2 hL3 C
      go_wp2_with fail
      refine HC.out.mono ?_
      rintro e w4 ⟨g, rfl, hg, hR, hb4⟩
      have hb4' : Below w1.heap.size w1 w4 := hb3'.trans (hb4.mono hsz3)
      have hb4w : Below w.heap.size w w4 := HB1.out.trans (hb4'.mono hsz1)
      have hwg : w.heap.size ≤ g := by omega
      have hwg1 : w1.heap.size ≤ g := by omega
      have HB4 := hid hb4'
      have HB4w := hid hb4w
      clear hb3' hb4 hb4' hb4w HC
      go_wp2_with fail
      refine (readThings_any g ⟨L ++ l2, false⟩ w.heap.size a0 cap0 l0 w4 hR (k0.below HB4w.out) hwg hlen (by show (L ++ l2).length ≤ _; rw [HL3.out]; omega)).mono ?_
      rintro e w5 ⟨rfl, hR5, hG5⟩
      rw [HRA.out] at hR5 ⊢
      dsimp only at hR5 ⊢
      have hb5 : Below w1.heap.size w1 w5 := HB4.out.grown hG5 HB4.out.size (fun k hk => by injection hk with hk; omega)
      have HB5 := hid hb5
      have HB5w := hid (HB1.out.trans (hb5.mono hsz1))
      have hreads := (hown.below hb5).reads
      have hat := fun h => hown.at_ (k := 0) h
      clear hb5 hG5 hR hown
      have HRD := hid hreads
      have HAT := hid hat
      clear hreads hat
      have HEN : Hid (endOf ⟨l2, false⟩ = if 0 < l2.length then 2 else 0) := rfl
      go_wp2_with fail
      refine (left_rdr g _ w5 hR5).mono ?_
      rintro e w6 ⟨rfl, rfl⟩
      go_wp2_with fail
      refine (end_rdr g _ w5 hR5).mono ?_
      rintro e w6 ⟨rfl, rfl⟩
      rw [HEN.out]
      have HEQ : Hid (((if 0 < l2.length then (2 : Int) else 0) == 0) = ((l2.length : Int) == 0)) := by
        show _ = _
        by_cases h : 0 < l2.length
        · rw [if_pos h]; symm; rw [show ((2 : Int) == 0) = false from rfl, beq_eq_false_iff_ne]; omega
        · rw [if_neg h]; symm; rw [show ((0 : Int) == 0) = true from rfl, beq_iff_eq]; omega
      have hten : ∀ x : Bool, (x != x) = false := fun x => by cases x <;> rfl
      have hsplit : (∃ z : Int, (if 0 < l2.length then (2 : Int) else 0) = z ∧ (z == 0) = ((l2.length : Int) == 0)) := ⟨_, rfl, HEQ.out⟩
      obtain ⟨z, hz, hze⟩ := hsplit
      rw [hz]
      have HZ := hid hz
      clear hz
      obtain ⟨q, hq⟩ : ∃ q : Bool, ((l2.length : Int) == 0) = q := ⟨_, rfl⟩
      rw [hq] at hze
      have hL8 : L.length ≤ 1000000 := by omega
      by_cases hL0 : L.length = 0
      · have e0 : ((L.length : Int) == 0) = true := by rw [beq_iff_eq]; omega
        have HL0 := hid hL0
        clear hL0
        go_wp2_with fail
        refine (works_any _).mono ?_
        rintro e w7 ⟨rfl, hb7⟩
        go_wp2_with fail
        go_ret
        exact ⟨rfl, HB5w.out.trans (hb7.mono HB5w.out.size)⟩
      · have e0 : ((L.length : Int) == 0) = false := by rw [beq_eq_false_iff_ne]; omega
        have hL1 : 1 ≤ L.length := by omega
        obtain ⟨g1, rfl, _, _, _, _⟩ := HAT.out (by omega)
        clear hL0
        go_wp2_with fail
        refine (pick_lt a1 L.length hL1 hL8 _).mono ?_
        rintro e w7 ⟨⟨p, rfl, hp⟩, rfl⟩
        have hp1 : p ≤ c1 := by omega
        have hlp : (L.take p).length = p := by rw [List.length_take]; omega
        have C2 := read_any w5.heap.size (some ⟨g1, 0, none⟩) c1 (L.take p) (by omega) w5 (HRD.out.take p) (Nat.le_refl _) (fun h => by cases h)
        rw [hlp] at C2
        have HC2 := hid C2
        have HLP := hid hlp
        clear hlp C2
        go_wp2_with fail
        refine HC2.out.mono ?_
        rintro e w8 ⟨g2, rfl, hg2, hR8, hb8⟩
        have hwg2 : w.heap.size ≤ g2 := by have := HB5w.out.size; omega
        have hb8w : Below w.heap.size w w8 := HB5w.out.trans (hb8.mono HB5w.out.size)
        have HB8 := hid hb8w
        have HG : Hid ((Pk.readAll ⟨L.take p, false⟩ (Pk.vals l0)).2 = Pk.gone) := HCU.out p hp
        clear hb8 hb8w HC2
        go_wp2_with fail
        refine (readThings_any g2 ⟨L.take p, false⟩ w.heap.size a0 cap0 l0 w8 hR8 (k0.below HB8.out) hwg2 hlen (by show (L.take p).length ≤ _; rw [HLP.out]; omega)).mono ?_
        rintro e w9 ⟨rfl, hR9, hG9⟩
        rw [HG.out] at hR9
        have hb9 : Below w.heap.size w w9 := HB8.out.grown hG9 HB8.out.size (fun k hk => by injection hk with hk; omega)
        have HS9 : Hid (Rdr w9 g2 Pk.gone ∧ Below w.heap.size w w9) := ⟨hR9, hb9⟩
        obtain ⟨rb, hrb⟩ : ∃ rb, (Pk.readAll ⟨L.take p, false⟩ (Pk.vals l0)).1 = rb := ⟨_, rfl⟩
        rw [hrb]
        clear hR9 hb9 hG9 hR8 hrb
        go_wp2_with fail
        go_loopw [10] (fun i wr => ∃ k : Nat, k ≤ l0.length ∧ i = .int .i64 k ∧ Hid (Rdr wr g2 Pk.gone ∧ Below w.heap.size w wr)) (fun i _ => l0.length - (intOf i).toNat)
        case atStart => exact ⟨0, by omega, rfl, HS9⟩
        case round =>
          clear HS9
          obtain ⟨k, hk, rfl, hs⟩ := hrel
          by_cases hlt : k < l0.length
          · have hR := hs.out.1
            go_wp2_with fail
            refine (int_rdr g2 Pk.gone wr hR).mono ?_
            rintro e w10 ⟨rfl, hR10, hG10⟩
            have HS10 : Hid (Rdr w10 g2 Pk.gone ∧ Below w.heap.size w w10) := ⟨hR10, hs.out.2.grown hG10 hs.out.2.size (fun k hk => by injection hk with hk; omega)⟩
            clear hR hR10 hG10
            go_wp2_with fail
            go_roundw
            case rel => exact ⟨k + 1, by omega, by go_num, HS10⟩
            case measure => simp [intOf] <;> omega
          · have hR := hs.out.1
            go_wp2_with fail
            refine (bad_rdr g2 Pk.gone wr hR).mono ?_
            rintro e w10 ⟨rfl, rfl⟩
            have hgb : Pk.gone.bad = true := rfl
            rw [hgb]
            go_wp2_with fail
            refine (end_rdr g2 Pk.gone wr hR).mono ?_
            rintro e w10 ⟨rfl, rfl⟩
            have hge : endOf Pk.gone = 4 := rfl
            rw [hge]
            go_wp2_with fail
            refine (left_rdr g2 Pk.gone wr hR).mono ?_
            rintro e w10 ⟨rfl, rfl⟩
            have hgl : ((Pk.gone.rest.length : Nat) : Int) = 0 := rfl
            rw [hgl]
            go_wp2_with fail
            refine (works_any _).mono ?_
            rintro e w11 ⟨rfl, hb11⟩
            go_wp2_with fail
            go_ret
            exact ⟨rfl, hs.out.2.trans (hb11.mono hs.out.2.size)⟩
  · have hsz := hb1.size
    have HB := hid hb1
    clear hb1 hf
    go_wp2_with fail
    refine (works_any _).mono ?_
    rintro e w2 ⟨rfl, hb2⟩
    go_wp2_with fail
    go_ret
    exact ⟨rfl, HB.out.trans (hb2.mono hsz)⟩
theorem walk (a0 : Option Addr) (cap0 : Nat) (l0 : List Pk.Th) (a1 : Int) (a2 : Option Addr) (cap2 : Nat) (l2 : List Nat) (w : World)
    (k0 : IsThings w w.heap.size a0 l0) (n0 : l0.length ≤ cap0) (r0 : cap0 ≤ maxLen) (z0 : a0 = none → cap0 = 0)
    (b1 : -9223372036854775808 ≤ a1 ∧ a1 ≤ 9223372036854775807)
    (k2 : IsBytes w w.heap.size a2 l2) (n2 : l2.length ≤ cap2) (r2 : cap2 ≤ 140737488351232) (z2 : a2 = none → cap2 = 0) :
    Calls Try.prog 6 #[.slice a0 l0.length cap0, .int .i64 a1, .slice a2 l2.length cap2] w fun e w' => e = .returned (.bool true) ∧ Below w.heap.size w w' :=
  core a0 cap0 l0 a1 a2 cap2 l2 w k0 n0 r0 z0 b1 k2 n2 z2

set_option maxRecDepth 100000 in
theorem lifted (os : Os) (started : os.Started) (H : Type) (enc : TypeId × Value → H) :
    ReturnsInHanded {} Try.checked os 6 .any (Rows.packCutSpec.pre6 enc Try.prog Try.f6 Rows.packCutRow.domain false) (Rows.packCutSpec.post enc Try.prog Try.f6 false true false false) := by
  refine returnsInHanded_of_change_sized (C := Try.checked) own started (by kernel_rfl) Try.func6
    (ChangeSpec.witness6 (enc := enc) (C := Try.checked) false ⟨#[], #[.slice none 0 0, .int .i64 0, .slice none 0 0], []⟩ 8 (by kernel_rfl) (by kernel_rfl) (by kernel_rfl) (by kernel_rfl)) ?_
  intro W base args ds gs before hval0 hW hcnd hsz0 _
  have hsz : (DataW.weightsEach Try.prog (Try.f6.params.toList ++ Rows.packCutSpec.plain.varTypes Try.prog) (ds ++ gs)).all (· ≤ reachBytes) = true := hsz0
  clear hsz0
  have hval : ∀ (j : Nat) t v, Try.f6.params[j]? = some t → args[j]? = some v → Value.okWide Try.prog W .any base t v := hval0
  have hW' := hW
  obtain ⟨p, q, hA0, hV, rfl, hfz, hnd⟩ := hW
  have hA : DataW.TrodAll enc Try.prog W 0 (fun _ => true) true Try.f6.params.toList args.toList ds p := hA0
  rw [Try.params6] at hA hval hsz
  obtain ⟨v0, vs0, d0, ds0, p0, q0, hargs, rfl, rfl, g0, t0⟩ := trodAll_cons hA
  obtain ⟨v1, vs1, d1, ds1, p1, q1, rfl, rfl, rfl, g1, t1⟩ := trodAll_cons t0
  obtain ⟨v2, vs2, d2, ds2, p2, q2, rfl, rfl, rfl, g2, t2⟩ := trodAll_cons t1
  obtain ⟨rfl, rfl, rfl⟩ := trodAll_nil t2
  obtain rfl : args = #[v0, v1, v2] := by cases args; simp_all
  obtain ⟨rfl, rfl⟩ := trodVars_none hV
  obtain ⟨a0, len0, cap0, rfl⟩ := okWide_slice Try.underlying45 (hval 0 45 v0 rfl rfl)
  have m0 := g0
  have lt0 : ∀ x ∈ p0, x.block < W.heap.size := by obtain ⟨m, hm⟩ := m0; exact DataW.trod_lt m _ _ _ hm
  obtain ⟨l0, k0, rfl, n0, r0, z0⟩ : ∃ l, IsThings W W.heap.size a0 l ∧ len0 = l.length ∧ l.length ≤ cap0 ∧ cap0 ≤ maxLen ∧ (a0 = none → cap0 = 0) := by
    obtain ⟨fuel, hf⟩ := g0
    obtain ⟨a, c, ts, hcs, h1, h2, h3⟩ := things_of_trod hf
    simp [Value.cells] at hcs
    obtain ⟨rfl, rfl, rfl⟩ := hcs
    exact ⟨ts, h1, rfl, h2.1, h2.2, h3⟩
  obtain ⟨a1, rfl, rfl, rfl, w1⟩ := open_int Try.underlying3 (hval 1 3 v1 rfl rfl) g1
  have b1 := bounds_i64 w1
  obtain ⟨a2, len2, cap2, rfl⟩ := okWide_slice Try.underlying22 (hval 2 22 v2 rfl rfl)
  have m2 := g2
  have lt2 : ∀ x ∈ p2, x.block < W.heap.size := by obtain ⟨m, hm⟩ := m2; exact DataW.trod_lt m _ _ _ hm
  obtain ⟨l2, k2, rfl, n2, r2, z2⟩ : ∃ l, IsBytes W W.heap.size a2 l ∧ len2 = l.length ∧ l.length ≤ cap2 ∧ cap2 ≤ 140737488351232 ∧ (a2 = none → cap2 = 0) := by
    obtain ⟨fuel, hf⟩ := g2
    rcases open_ints Try.underlying22 Try.underlying5 (by kernel_rfl) hf with ⟨hcs, _⟩ | ⟨x, l, c, zs, hcs, _, hl, hm, hz, hx, hcell, hwz⟩
    · simp [Value.cells] at hcs
      obtain ⟨rfl, rfl, rfl⟩ := hcs
      exact ⟨[], IsBytes.nil, rfl, by simp, by omega, fun _ => rfl⟩
    · simp [Value.cells] at hcs
      obtain ⟨rfl, rfl, rfl⟩ := hcs
      simp only [Prod.mk.injEq] at hx
      obtain ⟨rfl, rfl⟩ := hx
      simp only [if_true] at hz
      have hr := sized_slice hsz (j := 2) (t := 22) (e := 5) rfl rfl Try.underlying22
      rw [bytesOf] at hr
      simp only [lits, List.length_map, List.length_take, List.length_drop, reachBytes] at hr
      obtain ⟨l, h1, h2⟩ := isBytes_of_ints hl hz hcell hwz
      exact ⟨l, h1, h2, by omega, by omega, fun h => by cases h⟩
  clear hA0 hval0
  refine (walk a0 cap0 l0 a1 a2 cap2 l2 W k0 n0 r0 z0 b1 k2 n2 r2 z2).mono fun e W' ⟨he, bel⟩ => ?_
  subst he
  exact ⟨_, rfl, _, _, _, [], _, [], hW', trodAll_mk1 (shut_bool Try.underlying4 _), (trodAll_cons_mk (Below.trod laidOut (by kernel_rfl) (of_decide_eq_true (by kernel_rfl)) m0 bel lt0) (trodAll_cons_mk (shut_int Try.underlying3 w1) (trodAll_cons_mk (Below.trod laidOut (by kernel_rfl) (of_decide_eq_true (by kernel_rfl)) m2 bel lt2) trodAll_mk0))), rfl, bel.frame _, fun h => by cases h⟩

theorem over : Rows.packCutRow.holds Try.pinned (OpenSpec.ofChange Rows.packCutSpec) :=
  OpenClaim.holds_of_wide 6 Try.f6 rfl rfl rfl rfl rfl rfl rfl ⟨rfl, rfl, rfl, rfl, rfl⟩ rfl rfl rfl rfl rfl (by kernel_rfl) Try.func6 (by kernel_rfl)
    (of_decide_eq_true (by kernel_rfl)) (by unfold Func.isWrapper; first | (rw [if_pos (by decide +kernel)]; kernel_rfl) | (rw [if_neg (by decide +kernel)]; exact ⟨rfl, rfl⟩))
    (fun os started H enc _ => lifted os started H enc)

theorem proved : Rows.PackCutSaid := over
end Go.Proofs.Ytdmghnfnmgkigaa.packCut
