/- Packets that are sent, and taken from the place nought, come in their order; what has no room is refused, and loses nothing. Conditions: none. -/
import Derived.Test.YtckfjkhjnpkobaaRows
import Derived.Test.YtckfjkhjnpkobaaWorks06
import Derived.StillTailTactics
import Derived.WalkKit
import Derived.WalkLawsBesides
import Derived.ProofKit
import Derived.OpenShut
import Derived.ShutString
import Derived.ChangeOld
import Derived.Below
import Derived.SizedLaws
namespace Go.Proofs.Ytckfjkhjnpkobaa.postOrder
open Go.ChangeShapes Go.WideShapes Go.ChangeAt Go.RowKit
open Go.ChangeMaps (open_string shut_string)
set_option linter.unusedVariables false

theorem own : ownKnob Try.prog.godebug = none := by kernel_rfl
theorem laidOut : laidOutB Try.prog = true := by kernel_rfl

/-- a post to which these packets were sent, in this order -/
def ordS (L : List Po.Pk) : Po.St := ⟨L.map (·, false), []⟩
theorem ord_send (L : List Po.Pk) (x : Po.Pk) : Po.sendE (ordS L) x = (if L.length = 256 then 8 else 0) ∧ Po.sendS (ordS L) x = if L.length = 256 then ordS L else ordS (L ++ [x]) := by
  have h1 : Po.isCut (ordS L) x.a x.b = false := by unfold Po.isCut ordS; simp
  have h2 : (ordS L).l.length = L.length := by unfold ordS; simp
  refine ⟨?_, ?_⟩
  · unfold Po.sendE Po.layE
    rw [h1, h2]
    rfl
  · unfold Po.sendS Po.layS
    rw [h1, h2]
    show (if L.length = 256 then ordS L else Po.lay (ordS L) x false) = _
    unfold Po.lay ordS
    simp
theorem ord_take (x : Po.Pk) (L : List Po.Pk) : Po.takeE (ordS (x :: L)) 0 = 0 ∧ Po.takeS (ordS (x :: L)) 0 = ordS L ∧ Po.takeP (ordS (x :: L)) 0 = x := by
  have h1 : Po.has (ordS (x :: L)) 0 = true := by unfold Po.has ordS; simp
  unfold Po.takeE Po.takeS Po.takeP
  rw [h1]
  exact ⟨rfl, rfl, rfl⟩
theorem ord_none : Po.takeE (ordS []) 0 = 6 ∧ Po.takeS (ordS []) 0 = ordS [] ∧ Po.takeP (ordS []) 0 = ⟨0, 0, []⟩ := ⟨rfl, rfl, rfl⟩
theorem take_next (L : List Po.Pk) (k : Nat) (hk : k < L.length) (h : k < 256) : (L.take 256).drop k = L[k] :: (L.take 256).drop (k + 1) := by
  rw [List.drop_eq_getElem_cons (by rw [List.length_take]; omega), List.getElem_take]
theorem send_N (w0 : World) (g : Nat) (s s' : Po.St) (r : Int) (A0 : Option Addr) (c0 : Nat) (x : Po.Pk) (hr : Po.sendE s x = r) (hs : Po.sendS s x = s') (hd : x.d.length ≤ 1024) (w : World) (h : OwnP w0 w g s) (hx : IsBytes w w0.heap.size A0 x.d) (hn : A0 = none → c0 = 0) :
    Calls Try.prog 16 #[.pointer (some ⟨g, 0, none⟩), .agg #[.int .i64 x.a, .int .i64 x.b, .slice A0 x.d.length c0]] w fun e w' => e = .returned (.int .i64 r) ∧ OwnP w0 w' g s' := by
  subst hr; subst hs
  exact send_O w0 g s A0 c0 x hd w h hx hn
theorem len_N (w0 : World) (g : Nat) (s : Po.St) (n : Nat) (hn : s.l.length = n) (w : World) (h : OwnP w0 w g s) :
    Calls Try.prog 12 #[.pointer (some ⟨g, 0, none⟩)] w fun e w' => e = .returned (.int .i64 (n : Nat)) ∧ w' = w := by
  subst hn; exact len_O w0 g s w h

set_option maxHeartbeats 1600000 in
set_option maxRecDepth 100000 in
theorem core (a0 : Option Addr) (cap0 : Nat) (l0 : List Po.Pk) (w : World) (k0 : IsPks w a0 l0) :
    Calls Try.prog 4 #[.slice a0 l0.length cap0] w fun e w' => e = .returned (.bool true) ∧ Below w.heap.size w w' := by
  have HK := hid k0
  clear k0
  go_enter Try.func4, Try.ntmps4
  go_wp2_with fail
  refine (works_any w).mono ?_
  rintro e w1 ⟨rfl, hb1⟩
  have HB1 := hid hb1
  clear hb1
  by_cases hl : l0.length ≤ 400
  · have hl1 : ¬ (400 : Int) < (l0.length : Int) := by omega
    go_wp2_with fail
    refine (new_O w1).mono ?_
    rintro e w2 ⟨rfl, hO2⟩
    have H2 : Hid (OwnP w1 w2 w1.heap.size (ordS (l0.take (min 0 256)))) := hid hO2
    clear hO2
    go_wp2_with fail
    go_loopw [4] (fun i wr => ∃ k : Nat, k ≤ l0.length ∧ i = .int .i64 k ∧ Hid (OwnP w1 wr w1.heap.size (ordS (l0.take (min k 256))))) (fun i _ => l0.length - (RowKit.intOf i).toNat)
    case atStart => exact ⟨0, by omega, rfl, H2⟩
    case round =>
      clear H2
      obtain ⟨k, hk, rfl, hS⟩ := hrel
      have hbw : Below w.heap.size w wr := HB1.out.trans (hS.out.bel.mono HB1.out.size)
      by_cases hlt : k < l0.length
      · obtain ⟨b, off, rfl, hbl, hc⟩ := HK.out k hlt
        obtain ⟨ap, cp, d0, d1, d2, hp, _, hcp⟩ := hc k hlt
        have d0' := (hbw.cell (p := ⟨b, off + k * 3, none⟩) hbl).trans d0
        have d1' := (hbw.cell (p := ⟨b, off + k * 3 + 1, none⟩) hbl).trans d1
        have d2' := (hbw.cell (p := ⟨b, off + k * 3 + 2, none⟩) hbl).trans d2
        have hk0 : (k : Int) < (l0.length : Int) := by omega
        have hpr : IsBytes wr w1.heap.size ap l0[k].d := (hp.below hbw).more HB1.out.size
        by_cases hd : 1024 < l0[k].d.length
        · have hd1 : (1024 : Int) < (l0[k].d.length : Int) := by omega
          have HBW := hid hbw
          clear hc hp hpr hbw hd d0 d1 d2
          go_wp2_with fail
          go_ret
          exact ⟨rfl, HBW.out⟩
        · have hd1 : ¬ (1024 : Int) < (l0[k].d.length : Int) := by omega
          by_cases hf : k < 256
          · have e1 : Po.sendE (ordS (l0.take (min k 256))) l0[k] = 0 := by
              rw [(ord_send _ _).1, if_neg]; rw [List.length_take]; omega
            have e2 : Po.sendS (ordS (l0.take (min k 256))) l0[k] = ordS (l0.take (min (k + 1) 256)) := by
              rw [(ord_send _ _).2, if_neg (by rw [List.length_take]; omega), show min k 256 = k by omega, show min (k + 1) 256 = k + 1 by omega, List.take_succ_eq_append_getElem hlt]
            have HC := hid (send_N w1 w1.heap.size _ _ 0 ap cp l0[k] e1 e2 (by omega) wr hS.out hpr hcp)
            have hf1 : (k : Int) < 256 := by omega
            clear hc hp hpr hbw hd d0 d1 d2 e1 e2 hf hS
            go_wp2_with fail
            refine HC.out.mono ?_
            rintro e w3 ⟨rfl, hO3⟩
            have H3 := hid hO3
            clear hO3 HC d0' d1' d2'
            go_wp2_with fail
            go_roundw
            case rel => exact ⟨k + 1, by omega, by go_num, H3⟩
            case measure => simp [RowKit.intOf]; omega
          · have e1 : Po.sendE (ordS (l0.take (min k 256))) l0[k] = 8 := by
              rw [(ord_send _ _).1, if_pos]; rw [List.length_take]; omega
            have e2 : Po.sendS (ordS (l0.take (min k 256))) l0[k] = ordS (l0.take (min (k + 1) 256)) := by
              rw [(ord_send _ _).2, if_pos (by rw [List.length_take]; omega), show min k 256 = 256 by omega, show min (k + 1) 256 = 256 by omega]
            have HC := hid (send_N w1 w1.heap.size _ _ 8 ap cp l0[k] e1 e2 (by omega) wr hS.out hpr hcp)
            have hf1 : ¬ (k : Int) < 256 := by omega
            clear hc hp hpr hbw hd d0 d1 d2 e1 e2 hf hS
            go_wp2_with fail
            refine HC.out.mono ?_
            rintro e w3 ⟨rfl, hO3⟩
            have H3 := hid hO3
            clear hO3 HC d0' d1' d2'
            go_wp2_with fail
            go_roundw
            case rel => exact ⟨k + 1, by omega, by go_num, H3⟩
            case measure => simp [RowKit.intOf]; omega
      · obtain rfl : k = l0.length := by omega
        have H4 : Hid (OwnP w1 wr w1.heap.size (ordS ((l0.take 256).drop 0))) := by
          have h := hS.out
          have e : l0.take (min l0.length 256) = (l0.take 256).drop 0 := by
            rw [List.drop_zero]
            rcases Nat.le_total l0.length 256 with h1 | h1
            · rw [Nat.min_eq_left h1, List.take_length, List.take_of_length_le h1]
            · rw [Nat.min_eq_right h1]
          rw [e] at h
          exact h
        have hkk : ¬ (l0.length : Int) < (l0.length : Int) := by omega
        clear hS hbw hlt
        go_wp2_with fail
        go_loopw [5] (fun i wr => ∃ k : Nat, k ≤ l0.length ∧ k ≤ 256 ∧ i = .int .i64 k ∧ Hid (OwnP w1 wr w1.heap.size (ordS ((l0.take 256).drop k)))) (fun i _ => l0.length - (RowKit.intOf i).toNat)
        case atStart => exact ⟨0, by omega, by omega, rfl, H4⟩
        case round =>
          clear H4
          obtain ⟨k, hk, hk2, rfl, hS⟩ := hrel
          have hbw : Below w.heap.size w wr := HB1.out.trans (hS.out.bel.mono HB1.out.size)
          by_cases hlt : k < l0.length
          · have hk0 : (k : Int) < (l0.length : Int) := by omega
            by_cases hf : k < 256
            · have hf1 : (k : Int) < 256 := by omega
              have en := take_next l0 k hlt hf
              have hS1 := hS.out
              rw [en] at hS1
              obtain ⟨e1, e2, e3⟩ := ord_take l0[k] ((l0.take 256).drop (k + 1))
              have HT := hid (take_N w1 w1.heap.size _ _ 0 _ _ e2 e3 e1 wr hS1)
              clear hS hS1 e1 e2 e3 en hf hbw
              go_wp2_with fail
              refine HT.out.mono ?_
              rintro e w3 ⟨A3, c3, rfl, hO3, hp3⟩
              obtain ⟨w4, hw4⟩ : ∃ w4, w4 = w3.alloc (.cells #[.int .i64 l0[k].a, .int .i64 l0[k].b, .slice A3 l0[k].d.length c3] 42) := ⟨_, rfl⟩
              have hb4 : Below w3.heap.size w3 w4 := by rw [hw4]; exact (Below.refl _ w3).alloc (Nat.le_refl _) _
              have x0 : w4.drew.cell? ⟨w3.heap.size, 0, none⟩ = some (.int .i64 l0[k].a) := by rw [hw4]; simp
              have x1 : w4.drew.cell? ⟨w3.heap.size, 1, none⟩ = some (.int .i64 l0[k].b) := by rw [hw4]; simp
              have x2 : w4.drew.cell? ⟨w3.heap.size, 2, none⟩ = some (.slice A3 l0[k].d.length c3) := by rw [hw4]; simp
              have hO4 := hO3.below hb4
              have hbw : Below w.heap.size w w4 := HB1.out.trans (hO4.bel.mono HB1.out.size)
              obtain ⟨b, off, rfl, hbl, hc⟩ := HK.out k hlt
              obtain ⟨ap, cp, d0, d1, d2, hp, hm, hcp⟩ := hc k hlt
              have d0' : w4.drew.cell? ⟨b, off + k * 3, none⟩ = some (.int .i64 l0[k].a) := (hbw.cell (p := ⟨b, off + k * 3, none⟩) hbl).trans d0
              have d1' : w4.drew.cell? ⟨b, off + k * 3 + 1, none⟩ = some (.int .i64 l0[k].b) := (hbw.cell (p := ⟨b, off + k * 3 + 1, none⟩) hbl).trans d1
              have d2' : w4.drew.cell? ⟨b, off + k * 3 + 2, none⟩ = some (.slice ap l0[k].d.length cp) := (hbw.cell (p := ⟨b, off + k * 3 + 2, none⟩) hbl).trans d2
              have HC := hid (pk_same l0[k] l0[k] A3 ap c3 cp hm hm w4.drew (((hp3.below hb4).more hb4.size).drewN 1) (((hp.below hbw).more hbw.size).drewN 1))
              rw [decide_eq_true rfl] at HC
              have HO := hid hO4
              have HW := hid hw4
              clear hO3 hp3 hw4 hb4 hO4 hbw hc hp hm hcp d0 d1 d2 HT
              go_wp2_with fail
              rw [← HW.out]
              go_still_tail 8, (by kernel_rfl)
              go_wp2_with fail
              refine HC.out.mono ?_
              rintro e w5 ⟨rfl, hb5⟩
              have H5 := hid (HO.out.below ((Below.refl _ w4).drew.trans hb5))
              clear hb5 HC HO HW x0 x1 x2 d0' d1' d2'
              go_wp2_with fail
              go_roundw
              case rel => exact ⟨k + 1, by omega, by omega, by go_num, H5⟩
              case measure => simp [RowKit.intOf]; omega
            · have hf1 : ¬ (k : Int) < 256 := by omega
              have hS1 := hS.out
              rw [List.drop_eq_nil_of_le (by rw [List.length_take]; omega)] at hS1
              have HT := hid (take_N w1 w1.heap.size _ _ 0 _ _ ord_none.2.1 ord_none.2.2 ord_none.1 wr hS1)
              clear hS hS1 hf hbw
              go_wp2_with fail
              refine HT.out.mono ?_
              rintro e w3 ⟨A3, c3, rfl, hO3, hp3⟩
              have HL := hid (len_N w1 w1.heap.size (ordS []) 0 rfl _ (hO3.below ((Below.refl _ w3).alloc (Nat.le_refl _) (.cells #[.int .i64 0, .int .i64 0, .slice A3 0 c3] 42))))
              have HO := hid (hO3.below ((Below.refl _ w3).alloc (Nat.le_refl _) (.cells #[.int .i64 0, .int .i64 0, .slice A3 0 c3] 42)))
              clear hO3 hp3
              go_wp2_with fail
              refine HL.out.mono ?_
              rintro e w5 ⟨rfl, hw5⟩
              subst hw5
              go_wp2_with fail
              go_ret
              exact ⟨rfl, HB1.out.trans (HO.out.bel.mono HB1.out.size)⟩
          · obtain rfl : k = l0.length := by omega
            have hkk : ¬ (l0.length : Int) < (l0.length : Int) := by omega
            have hS1 := hS.out
            rw [List.drop_eq_nil_of_le (by rw [List.length_take]; omega)] at hS1
            have HT := hid (take_N w1 w1.heap.size _ _ 0 _ _ ord_none.2.1 ord_none.2.2 ord_none.1 wr hS1)
            clear hS hS1 hbw hlt
            go_wp2_with fail
            refine HT.out.mono ?_
            rintro e w3 ⟨A3, c3, rfl, hO3, hp3⟩
            have HL := hid (len_N w1 w1.heap.size (ordS []) 0 rfl _ (hO3.below ((Below.refl _ w3).alloc (Nat.le_refl _) (.cells #[.int .i64 0, .int .i64 0, .slice A3 0 c3] 42))))
            have HO := hid (hO3.below ((Below.refl _ w3).alloc (Nat.le_refl _) (.cells #[.int .i64 0, .int .i64 0, .slice A3 0 c3] 42)))
            clear hO3 hp3
            go_wp2_with fail
            refine HL.out.mono ?_
            rintro e w5 ⟨rfl, hw5⟩
            subst hw5
            go_wp2_with fail
            go_ret
            exact ⟨rfl, HB1.out.trans (HO.out.bel.mono HB1.out.size)⟩
  · have hl1 : (400 : Int) < (l0.length : Int) := by omega
    go_wp2_with fail
    go_ret
    exact ⟨rfl, HB1.out⟩
theorem walk (a0 : Option Addr) (cap0 : Nat) (l0 : List Po.Pk) (w : World)
    (k0 : IsPks w a0 l0) (n0 : l0.length ≤ cap0) (r0 : cap0 ≤ maxLen) (z0 : a0 = none → cap0 = 0) :
    Calls Try.prog 4 #[.slice a0 l0.length cap0] w fun e w' => e = .returned (.bool true) ∧ Below w.heap.size w w' :=
  core a0 cap0 l0 w k0

set_option maxRecDepth 100000 in
theorem lifted (os : Os) (started : os.Started) (H : Type) (enc : TypeId × Value → H) :
    ReturnsInHanded {} Try.checked os 4 .any (Rows.postOrderSpec.pre6 enc Try.prog Try.f4 Rows.postOrderRow.domain false) (Rows.postOrderSpec.post enc Try.prog Try.f4 false true false false) := by
  refine returnsInHanded_of_change_sized (C := Try.checked) own started (by kernel_rfl) Try.func4
    (ChangeSpec.witness6 (enc := enc) (C := Try.checked) false ⟨#[], #[.slice none 0 0], []⟩ 8 (by kernel_rfl) (by kernel_rfl) (by kernel_rfl) (by kernel_rfl)) ?_
  intro W base args ds gs before hval0 hW hcnd hsz0 _
  have hsz : (DataW.weightsEach Try.prog (Try.f4.params.toList ++ Rows.postOrderSpec.plain.varTypes Try.prog) (ds ++ gs)).all (· ≤ reachBytes) = true := hsz0
  clear hsz0
  have hval : ∀ (j : Nat) t v, Try.f4.params[j]? = some t → args[j]? = some v → Value.okWide Try.prog W .any base t v := hval0
  have hW' := hW
  obtain ⟨p, q, hA0, hV, rfl, hfz, hnd⟩ := hW
  have hA : DataW.TrodAll enc Try.prog W 0 (fun _ => true) true Try.f4.params.toList args.toList ds p := hA0
  rw [Try.params4] at hA hval hsz
  obtain ⟨v0, vs0, d0, ds0, p0, q0, hargs, rfl, rfl, g0, t0⟩ := trodAll_cons hA
  obtain ⟨rfl, rfl, rfl⟩ := trodAll_nil t0
  obtain rfl : args = #[v0] := by cases args; simp_all
  obtain ⟨rfl, rfl⟩ := trodVars_none hV
  obtain ⟨a0, len0, cap0, rfl⟩ := okWide_slice Try.underlying28 (hval 0 28 v0 rfl rfl)
  have m0 := g0
  have lt0 : ∀ x ∈ p0, x.block < W.heap.size := by obtain ⟨m, hm⟩ := m0; exact DataW.trod_lt m _ _ _ hm
  obtain ⟨l0, k0, rfl, n0, r0, z0⟩ : ∃ l, IsPks W a0 l ∧ len0 = l.length ∧ l.length ≤ cap0 ∧ cap0 ≤ maxLen ∧ (a0 = none → cap0 = 0) := by
    obtain ⟨fuel, hf⟩ := g0
    obtain ⟨a, c, ts, hcs, h1, h2, h3⟩ := pks_of_trod hf
    simp [Value.cells] at hcs
    obtain ⟨rfl, rfl, rfl⟩ := hcs
    exact ⟨ts, h1, rfl, h2.1, h2.2, h3⟩
  clear hA0 hval0
  refine (walk a0 cap0 l0 W k0 n0 r0 z0).mono fun e W' ⟨he, bel⟩ => ?_
  subst he
  exact ⟨_, rfl, _, _, _, [], _, [], hW', trodAll_mk1 (shut_bool Try.underlying4 _), (trodAll_cons_mk (Below.trod laidOut (by kernel_rfl) (of_decide_eq_true (by kernel_rfl)) m0 bel lt0) trodAll_mk0), rfl, bel.frame _, fun h => by cases h⟩

theorem over : Rows.postOrderRow.holds Try.pinned (OpenSpec.ofChange Rows.postOrderSpec) :=
  OpenClaim.holds_of_wide 4 Try.f4 rfl rfl rfl rfl rfl rfl rfl ⟨rfl, rfl, rfl, rfl, rfl⟩ rfl rfl rfl rfl rfl (by kernel_rfl) Try.func4 (by kernel_rfl)
    (of_decide_eq_true (by kernel_rfl)) (by unfold Func.isWrapper; first | (rw [if_pos (by decide +kernel)]; kernel_rfl) | (rw [if_neg (by decide +kernel)]; exact ⟨rfl, rfl⟩))
    (fun os started H enc _ => lifted os started H enc)

theorem proved : Rows.PostOrderSaid := over
end Go.Proofs.Ytckfjkhjnpkobaa.postOrder
