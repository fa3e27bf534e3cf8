/- What is turned within 32 bits side by side is seen. Conditions: none. -/
import Derived.Test.YthhbncoeiplcbaaRows
import Derived.Test.YthhbncoeiplcbaaSumWalks
import Derived.Test.YthhbncoeiplcbaaKitBytes
import Derived.Test.YthhbncoeiplcbaaKnown1
import Derived.WalkKit
import Derived.WalkLawsBesides
import Derived.ProofKit
import Derived.OpenShut
import Derived.ShutString
import Derived.ChangeOld
import Derived.Below
import Derived.SizedLaws
namespace Go.Proofs.Ythhbncoeiplcbaa.sumsSeen
open Go.ChangeShapes Go.WideShapes Go.ChangeAt Go.RowKit
open Go.ChangeMaps (open_string shut_string)
set_option linter.unusedVariables false

theorem own : ownKnob Try.prog.godebug = none := by kernel_rfl
theorem laidOut : laidOutB Try.prog = true := by kernel_rfl
theorem bytesOf : Try.prog.bytesOf 5 = 1 := by kernel_rfl

theorem flip_val (c j : Nat) (hc : c < 256) (hj : j < 8) : bits .xor .u8 (c : Int) ((2 : Int) ^ j % 256) = ((c ^^^ 2 ^ j : Nat) : Int) := by
  have h2 : 2 ^ j < 2 ^ 8 := Nat.pow_lt_pow_right (by decide) hj
  have e : ((2 : Int) ^ j % 256) = ((2 ^ j : Nat) : Int) := by
    rw [Int.emod_eq_of_lt (Int.le_of_lt (Int.pow_pos (by decide)))]
    · simp
    · have : ((2 ^ j : Nat) : Int) < 256 := by omega
      simpa using this
  rw [e]
  exact u8_xor_nat c (2 ^ j) hc (by omega)
theorem pick_nat (k n : Int) (hn0 : 0 ≤ n) (hn : n ≤ 1000000) (w : World) :
    Calls Try.prog 16 #[.int .i64 k, .int .i64 n] w fun e w' => (∃ p : Nat, e = .returned (.int .i64 p) ∧ (p : Int) ≤ n) ∧ w = w' := by
  by_cases h : n = 0
  · exact (pick_none k _ (by omega) w).mono fun e w' ⟨he, hw⟩ => ⟨⟨0, he, by omega⟩, hw⟩
  · refine (pick_some k n (by omega) (by simp [Lit.wf, IntKind.min, IntKind.max, IntKind.signed, IntKind.bits]; omega) w).mono fun e w' ⟨he, hw⟩ => ?_
    have h1 := Int.emod_nonneg k (show (n : Int) ≠ 0 by omega)
    have h2 := Int.emod_lt_of_pos k (show (0 : Int) < n by omega)
    exact ⟨⟨(k % n).toNat, by rw [he, Int.toNat_of_nonneg h1], by omega⟩, hw⟩

set_option maxHeartbeats 400000 in
theorem walk (a0 : Option Addr) (cap0 : Nat) (l0 : List Nat) (a1 : Int) (a2 : Nat) (w : World)
    (k0 : IsBytes w w.heap.size a0 l0) (n0 : l0.length ≤ cap0) (r0 : cap0 ≤ 140737488351232) (z0 : a0 = none → cap0 = 0)
    (b1 : -9223372036854775808 ≤ a1 ∧ a1 ≤ 9223372036854775807) (b2 : a2 < 4294967296) :
    Calls Try.prog 5 #[.slice a0 l0.length cap0, .int .i64 a1, .int .u32 a2] w fun e w' => e = .returned (.bool true) ∧ Below w.heap.size w w' := by
  clear b1
  by_cases h0 : 65536 < l0.length
  · go_enter Try.func5, Try.ntmps5
    go_wp2_with fail
    refine (known_any _).mono ?_
    rintro e w1 ⟨rfl, hbel⟩
    go_wp2_with fail
    go_ret
    exact ⟨rfl, hbel⟩
  · go_enter Try.func5, Try.ntmps5
    go_wp2_with fail
    refine (pick_nat a1 (8 * l0.length) (by omega) (by omega) _).mono ?_
    rintro e w1 ⟨⟨p, rfl, hp⟩, rfl⟩
    go_wp2_with fail
    refine (copy_any w.heap.size a0 cap0 l0 (by omega) _ k0 (Nat.le_refl _)).mono ?_
    rintro e w1 ⟨A2, c2, rfl, hown, hbel⟩
    go_wp2_with fail
    go_loopw [8, 9] (fun x y wr => ∃ i n E : Nat, ∃ L : List Nat, i ≤ 32 ∧ y = .int .i64 i ∧ x = .int .i64 n ∧ n ≤ i ∧ E < 2 ^ i ∧ L.length = l0.length ∧ OwnsB 5 wr w.heap.size A2 c2 L ∧ Below w.heap.size w wr ∧
      Hid ((n = 0 ↔ E = 0) ∧ Crc.num L = Crc.num l0 ^^^ 2 ^ p * E)) (fun _ y _ => 32 - (intOf y).toNat)
    case atStart => exact ⟨0, 0, 0, l0, by omega, rfl, rfl, by omega, by omega, rfl, hown, hbel, hid ⟨Iff.rfl, by simp⟩⟩
    case round =>
      clear hown hbel
      obtain ⟨i, n, E, L, hi, rfl, rfl, hn, hE, hL, hown, hbel, hs⟩ := hrel
      have HL := hid hL
      have HE := hid hE
      clear hL hE
      by_cases hlt : i < 32
      · by_cases ho : (((a2 : Int) / 2 ^ i).tmod 2 == 1) = true
        · by_cases hin : ((p : Int) + i) / 8 < l0.length
          · have hq : (p + i) / 8 < L.length := by have := HL.out; omega
            obtain ⟨g, rfl, hg1, _, hcg, hfg⟩ := hown.at_ hq
            have hj : (p + i) % 8 < 8 := Nat.mod_lt _ (by decide)
            have hx := flip_val L[(p + i) / 8] _ (hown.small _ (List.getElem_mem hq)) hj
            have HX := hid hx
            have hs1 := hown.set_ ((p + i) / 8) (L[(p + i) / 8] ^^^ 2 ^ ((p + i) % 8)) (Crc.byte_flip_lt _ _ (hown.small _ (List.getElem_mem hq)) hj)
            have hb1 : Below w.heap.size w (wr.setCell ⟨g, (p + i) / 8, none⟩ (.int .u8 (L[(p + i) / 8] ^^^ 2 ^ ((p + i) % 8) : Nat))) := hbel.setCell hg1 _
            have HS := hid (And.intro hs1 hb1)
            have HN := hid (Crc.flip l0 L p i E hq HE.out hs.out.2)
            clear hx hj hs1 hb1 hown hbel
            go_wp2
            rw [HX.out]
            go_roundw
            case rel => exact ⟨i + 1, n + 1, E + 2 ^ i, L.set ((p + i) / 8) (L[(p + i) / 8] ^^^ 2 ^ ((p + i) % 8)), by omega, by go_num, by go_num, by omega, by have := HE.out; rw [Nat.pow_succ]; omega,
              by rw [List.length_set]; exact HL.out, HS.out.1, HS.out.2, hid ⟨⟨fun h => by omega, fun h => by have := Nat.pow_pos (n := i) (show 0 < 2 by decide); omega⟩, HN.out⟩⟩
            case measure => simp [intOf]; omega
          · go_wp2
            go_roundw
            case rel => exact ⟨i + 1, n, E, L, by omega, by go_num, rfl, by omega, by have := HE.out; rw [Nat.pow_succ]; omega, HL.out, hown, hbel, hs⟩
            case measure => simp [intOf]; omega
        · have ho' : (((a2 : Int) / 2 ^ i).tmod 2 == 1) = false := by simpa using ho
          clear ho
          go_wp2
          go_roundw
          case rel => exact ⟨i + 1, n, E, L, by omega, by go_num, rfl, by omega, by have := HE.out; rw [Nat.pow_succ]; omega, HL.out, hown, hbel, hs⟩
          case measure => simp [intOf]; omega
      · obtain rfl : i = 32 := by omega
        have hb1 : IsBytes wr w.heap.size a0 l0 := k0.below hbel
        have C := of_any _ A2 c2 L (by rw [HL.out]; unfold maxLen; omega) _ hown.reads
        rw [HL.out] at C
        have HC := hid C
        have hm : l0.length ≤ maxLen := by unfold maxLen; omega
        have hE32 : E < 4294967296 := HE.out
        have HSEEN := hid (Crc.seen l0 L p E HL.out hE32 (fun _ => by omega) hs.out.2)
        clear C hown hE32
        go_wp2_with fail
        refine HC.out.mono ?_
        rintro e w2 ⟨rfl, rfl⟩
        go_wp2_with fail
        refine (of_any _ a0 cap0 l0 hm _ hb1).mono ?_
        rintro e w2 ⟨rfl, rfl⟩
        by_cases h : E = 0
        · have e1 : (((Crc.more 0 L : Nat) : Int) == ((Crc.more 0 l0 : Nat) : Int)) = true := by rw [HSEEN.out.2 h]; simp
          have e2 : ((n : Int) == 0) = true := by rw [beq_iff_eq]; have := hs.out.1.2 h; omega
          have H := hid h
          clear h
          go_wp2_with fail
          refine (known_any _).mono ?_
          rintro e w1 ⟨rfl, hbel1⟩
          go_wp2_with fail
          go_ret
          exact ⟨rfl, hbel.trans (hbel1.mono hbel.size)⟩
        · have e1 : (((Crc.more 0 L : Nat) : Int) == ((Crc.more 0 l0 : Nat) : Int)) = false := by
            rw [beq_eq_false_iff_ne]
            intro he
            exact h (HSEEN.out.1 (by omega))
          have e2 : ((n : Int) == 0) = false := by
            rw [beq_eq_false_iff_ne]
            intro he
            exact h (hs.out.1.1 (by omega))
          have H := hid h
          clear h
          go_wp2_with fail
          refine (known_any _).mono ?_
          rintro e w1 ⟨rfl, hbel1⟩
          go_wp2_with fail
          go_ret
          exact ⟨rfl, hbel.trans (hbel1.mono hbel.size)⟩

set_option maxRecDepth 100000 in
theorem lifted (os : Os) (started : os.Started) (H : Type) (enc : TypeId × Value → H) :
    ReturnsInHanded {} Try.checked os 5 .any (Rows.sumsSeenSpec.pre6 enc Try.prog Try.f5 Rows.sumsSeenRow.domain false) (Rows.sumsSeenSpec.post enc Try.prog Try.f5 false true false false) := by
  refine returnsInHanded_of_change_sized (C := Try.checked) own started (by kernel_rfl) Try.func5
    (ChangeSpec.witness6 (enc := enc) (C := Try.checked) false ⟨#[], #[.slice none 0 0, .int .i64 0, .int .u32 0], []⟩ 8 (by kernel_rfl) (by kernel_rfl) (by kernel_rfl) (by kernel_rfl)) ?_
  intro W base args ds gs before hval0 hW hcnd hsz0 _
  have hsz : (DataW.weightsEach Try.prog (Try.f5.params.toList ++ Rows.sumsSeenSpec.plain.varTypes Try.prog) (ds ++ gs)).all (· ≤ reachBytes) = true := hsz0
  clear hsz0
  have hval : ∀ (j : Nat) t v, Try.f5.params[j]? = some t → args[j]? = some v → Value.okWide Try.prog W .any base t v := hval0
  have hW' := hW
  obtain ⟨p, q, hA0, hV, rfl, hfz, hnd⟩ := hW
  have hA : DataW.TrodAll enc Try.prog W 0 (fun _ => true) true Try.f5.params.toList args.toList ds p := hA0
  rw [Try.params5] at hA hval hsz
  obtain ⟨v0, vs0, d0, ds0, p0, q0, hargs, rfl, rfl, g0, t0⟩ := trodAll_cons hA
  obtain ⟨v1, vs1, d1, ds1, p1, q1, rfl, rfl, rfl, g1, t1⟩ := trodAll_cons t0
  obtain ⟨v2, vs2, d2, ds2, p2, q2, rfl, rfl, rfl, g2, t2⟩ := trodAll_cons t1
  obtain ⟨rfl, rfl, rfl⟩ := trodAll_nil t2
  obtain rfl : args = #[v0, v1, v2] := by cases args; simp_all
  obtain ⟨rfl, rfl⟩ := trodVars_none hV
  obtain ⟨a0, len0, cap0, rfl⟩ := okWide_slice Try.underlying22 (hval 0 22 v0 rfl rfl)
  have m0 := g0
  have lt0 : ∀ x ∈ p0, x.block < W.heap.size := by obtain ⟨m, hm⟩ := m0; exact DataW.trod_lt m _ _ _ hm
  obtain ⟨l0, k0, rfl, n0, r0, z0⟩ : ∃ l, IsBytes W W.heap.size a0 l ∧ len0 = l.length ∧ l.length ≤ cap0 ∧ cap0 ≤ 140737488351232 ∧ (a0 = none → cap0 = 0) := by
    obtain ⟨fuel, hf⟩ := g0
    rcases open_ints Try.underlying22 Try.underlying5 (by kernel_rfl) hf with ⟨hcs, _⟩ | ⟨x, l, c, zs, hcs, _, hl, hm, hz, hx, hcell, hwz⟩
    · simp [Value.cells] at hcs
      obtain ⟨rfl, rfl, rfl⟩ := hcs
      exact ⟨[], IsBytes.nil, rfl, by simp, by omega, fun _ => rfl⟩
    · simp [Value.cells] at hcs
      obtain ⟨rfl, rfl, rfl⟩ := hcs
      simp only [Prod.mk.injEq] at hx
      obtain ⟨rfl, rfl⟩ := hx
      simp only [if_true] at hz
      have hr := sized_slice hsz (j := 0) (t := 22) (e := 5) rfl rfl Try.underlying22
      rw [bytesOf] at hr
      simp only [lits, List.length_map, List.length_take, List.length_drop, reachBytes] at hr
      obtain ⟨l, h1, h2⟩ := isBytes_of_ints hl hz hcell hwz
      exact ⟨l, h1, h2, by omega, by omega, fun h => by cases h⟩
  obtain ⟨a1, rfl, rfl, rfl, w1⟩ := open_int Try.underlying3 (hval 1 3 v1 rfl rfl) g1
  have b1 := bounds_i64 w1
  obtain ⟨a2, rfl, rfl, rfl, w2⟩ := open_int Try.underlying23 (hval 2 23 v2 rfl rfl) g2
  have b2 := bounds_u32 w2
  obtain ⟨a2, rfl⟩ := Int.eq_ofNat_of_zero_le b2.1
  clear hA0 hval0
  refine (walk a0 cap0 l0 a1 a2 W k0 n0 r0 z0 b1 (by omega)).mono fun e W' ⟨he, bel⟩ => ?_
  subst he
  exact ⟨_, rfl, _, _, _, [], _, [], hW', trodAll_mk1 (shut_bool Try.underlying4 _), (trodAll_cons_mk (Below.trod laidOut (by kernel_rfl) (of_decide_eq_true (by kernel_rfl)) m0 bel lt0) (trodAll_cons_mk (shut_int Try.underlying3 w1) (trodAll_cons_mk (shut_int Try.underlying23 w2) trodAll_mk0))), rfl, bel.frame _, fun h => by cases h⟩

theorem over : Rows.sumsSeenRow.holds Try.pinned (OpenSpec.ofChange Rows.sumsSeenSpec) :=
  OpenClaim.holds_of_wide 5 Try.f5 rfl rfl rfl rfl rfl rfl rfl ⟨rfl, rfl, rfl, rfl, rfl⟩ rfl rfl rfl rfl rfl (by kernel_rfl) Try.func5 (by kernel_rfl)
    (of_decide_eq_true (by kernel_rfl)) (by unfold Func.isWrapper; first | (rw [if_pos (by decide +kernel)]; kernel_rfl) | (rw [if_neg (by decide +kernel)]; exact ⟨rfl, rfl⟩))
    (fun os started H enc _ => lifted os started H enc)

theorem proved : Rows.SumsSeenSaid := over
end Go.Proofs.Ythhbncoeiplcbaa.sumsSeen
