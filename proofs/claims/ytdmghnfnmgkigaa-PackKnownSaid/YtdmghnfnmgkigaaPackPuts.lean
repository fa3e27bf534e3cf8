/- Any number, bytes and list are put behind any bytes, in memory of their own; what is handed in stays. Conditions: none. -/
import Derived.Test.YtdmghnfnmgkigaaRows
import Derived.Test.YtdmghnfnmgkigaaWorks02
import Derived.Test.YtdmghnfnmgkigaaPackRefPut
import Derived.Test.YtdmghnfnmgkigaaKitN
import Derived.StillTailTactics
import Derived.WalkKit
import Derived.WalkLawsBesides
import Derived.ProofKit
import Derived.OpenShut
import Derived.ShutString
import Derived.ChangeOld
import Derived.Below
import Derived.SizedLaws
namespace Go.Proofs.Ytdmghnfnmgkigaa.packPuts
open Go.ChangeShapes Go.WideShapes Go.ChangeAt Go.RowKit
open Go.ChangeMaps (open_string shut_string)
set_option linter.unusedVariables false

theorem own : ownKnob Try.prog.godebug = none := by kernel_rfl
theorem laidOut : laidOutB Try.prog = true := by kernel_rfl
theorem bytesOf : Try.prog.bytesOf 5 = 1 := by kernel_rfl
theorem bytesOfI : Try.prog.bytesOf 3 = 8 := by kernel_rfl

set_option maxHeartbeats 1600000 in
theorem core (a0 : Option Addr) (cap0 : Nat) (l0 : List Nat) (a1 : Option Addr) (cap1 : Nat) (l1 : List Nat) (a2 : Int) (a3 : Option Addr) (cap3 : Nat) (l3 : List Int) (w : World)
    (k0 : IsBytes w w.heap.size a0 l0) (n0 : l0.length ≤ cap0) (z0 : a0 = none → cap0 = 0)
    (k1 : IsBytes w w.heap.size a1 l1) (n1 : l1.length ≤ cap1) (z1 : a1 = none → cap1 = 0)
    (b2 : -9223372036854775808 ≤ a2 ∧ a2 ≤ 9223372036854775807)
    (k3 : IsInts w w.heap.size a3 l3) (n3 : l3.length ≤ cap3) (z3 : a3 = none → cap3 = 0) :
    Calls Try.prog 3 #[.slice a0 l0.length cap0, .slice a1 l1.length cap1, .int .i64 a2, .slice a3 l3.length cap3] w fun e w' => e = .returned (.bool true) ∧ Below w.heap.size w w' := by
  by_cases h0 : 16384 < l0.length
  · go_enter Try.func3, Try.ntmps3
    go_wp2_with fail
    refine (works_any _).mono ?_
    rintro e w1 ⟨rfl, hbel⟩
    go_wp2_with fail
    go_ret
    exact ⟨rfl, hbel⟩
  · by_cases h1 : 16384 < l1.length
    · go_enter Try.func3, Try.ntmps3
      go_wp2_with fail
      refine (works_any _).mono ?_
      rintro e w1 ⟨rfl, hbel⟩
      go_wp2_with fail
      go_ret
      exact ⟨rfl, hbel⟩
    · by_cases h3 : 16384 < l3.length
      · go_enter Try.func3, Try.ntmps3
        go_wp2_with fail
        refine (works_any _).mono ?_
        rintro e w1 ⟨rfl, hbel⟩
        go_wp2_with fail
        go_ret
        exact ⟨rfl, hbel⟩
      · go_enter Try.func3, Try.ntmps3
        go_wp2_with fail
        refine (lent_any w.heap.size a0 cap0 l0 (by omega) _ k0 (Nat.le_refl _)).mono ?_
        rintro e w1 ⟨gx, cx, rfl, hx, hb1⟩
        have k1' := k1.below hb1
        have hcx := hx.cap
        rw [lent_length] at hcx
        go_wp2_with fail
        refine (lent_any w.heap.size a1 cap1 l1 (by omega) _ k1' hb1.size).mono ?_
        rintro e w2 ⟨gy, cy, rfl, hy, hb2⟩
        have hb2' := hb1.trans (hb2.mono hb1.size)
        have hcy := hy.cap
        rw [lent_length] at hcy
        go_wp2_with fail
        refine (I.lent_any w.heap.size a3 cap3 l3 (by omega) _ (k3.below hb2') hb2'.size).mono ?_
        rintro e w3 ⟨gz, cz, rfl, hz, hb3⟩
        have hb3' := hb2'.trans (hb3.mono hb2'.size)
        have hcz := hz.cap
        rw [I.lent_length] at hcz
        have hcx' : l0.length ≤ cx := by omega
        have hcy' : l1.length ≤ cy := by omega
        have hcz' : l3.length ≤ cz := by omega
        have hx3 : IsBytes w3 w3.heap.size (some ⟨gx, 0, none⟩) (lent l0) := ((hx.below hb2).below hb3).reads
        have hy3 : IsBytes w3 w3.heap.size (some ⟨gy, 0, none⟩) (lent l1) := (hy.below hb3).reads
        have hz3 : IsInts w3 w3.heap.size (some ⟨gz, 0, none⟩) (I.lent l3) := hz.reads
        have hx3' : IsBytes w3 w3.heap.size (some ⟨gx, 0, none⟩) l0 := by have := hx3.take l0.length; rwa [take_lent] at this
        have hy3' : IsBytes w3 w3.heap.size (some ⟨gy, 0, none⟩) l1 := by have := hy3.take l1.length; rwa [take_lent] at this
        have hz3' : IsInts w3 w3.heap.size (some ⟨gz, 0, none⟩) l3 := by have := hz3.take l3.length; rwa [I.take_lent] at this
        have hsz3 := hb3'.size
        clear hx hy hz hb1 hb2 hb3 hb2' k1'
        go_wp2_with fail
        refine (packInt_any w3.heap.size (some ⟨gx, 0, none⟩) cx l0 a2 b2 (by omega) _ hx3' (Nat.le_refl _) (fun h => by cases h)).mono ?_
        rintro e w4 ⟨A4, c4, rfl, ho4, hb4⟩
        have hl4 : (l0 ++ Pk.enc a2).length = l0.length + 8 := by rw [List.length_append, Pk.enc_length]
        have HL4 := hid hl4
        have hsz4 := hb4.size
        have hx4 : IsBytes w4.drew w3.heap.size (some ⟨gx, 0, none⟩) l0 := (hx3'.below hb4).drew
        have hy4 : IsBytes w4.drew w3.heap.size (some ⟨gy, 0, none⟩) l1 := (hy3'.below hb4).drew
        have HP5 := hid (packBlob_any w3.heap.size (some ⟨gx, 0, none⟩) cx l0 w3.heap.size (some ⟨gy, 0, none⟩) cy l1 (by omega) w4.drew hx4 hsz4 (fun h => by cases h) hy4 hsz4 (fun h => by cases h))
        clear hx4 hy4 hl4
        go_wp2_with fail
        go_still_tail 8, (by kernel_rfl)
        go_wp2_with fail
        refine HP5.out.mono ?_
        rintro e w5 ⟨A5, c5, rfl, ho5, hb5⟩
        have hb5w : Below w3.heap.size w3 w5 := (hb4.drew).trans (hb5.mono hsz4)
        have hsz5 : w4.heap.size ≤ w5.heap.size := hb5.size
        have hx5 : IsBytes w5.drew w3.heap.size (some ⟨gx, 0, none⟩) l0 := (hx3'.below hb5w).drew
        have hz5 : IsInts w5.drew w3.heap.size (some ⟨gz, 0, none⟩) l3 := (hz3'.below hb5w).drew
        have HP6 := hid (packInts_any w3.heap.size (some ⟨gx, 0, none⟩) cx l0 w3.heap.size (some ⟨gz, 0, none⟩) cz l3 (by omega) w5.drew hx5 hb5w.size (fun h => by cases h) hz5 hb5w.size)
        clear HP5 hx5 hz5
        go_wp2_with fail
        go_still_tail 8, (by kernel_rfl)
        go_wp2_with fail
        refine HP6.out.mono ?_
        rintro e w6 ⟨A6, c6, rfl, ho6, hb6⟩
        have hb6w : Below w3.heap.size w3 w6 := (hb5w.drew).trans (hb6.mono hb5w.size)
        have hsz6 : w5.heap.size ≤ w6.heap.size := hb6.size
        have hx6 : IsBytes w6 w3.heap.size (some ⟨gx, 0, none⟩) l0 := hx3'.below hb6w
        go_wp2_with fail
        refine (packInt_any w3.heap.size (some ⟨gx, 0, none⟩) cx l0 a2 b2 (by omega) _ hx6 hb6w.size (fun h => by cases h)).mono ?_
        rintro e w7 ⟨A7, c7, rfl, ho7, hb7⟩
        have hsz7 := hb7.size
        have hb7w : Below w3.heap.size w3 w7 := hb6w.trans (hb7.mono hb6w.size)
        -- the world behind the calls: what lies where
        have q4 := ho4.blkLt
        have q5 := ho5.blkLt
        have q6 := ho6.blkLt
        have p4 : OwnsB 5 w7 w3.heap.size A4 c4 (l0 ++ Pk.enc a2) := (((ho4.drew.below hb5).drew.below hb6).below hb7)
        have p5 : OwnsB 5 w7 w4.heap.size A5 c5 (l0 ++ (Pk.enc l1.length ++ l1)) := ((ho5.drew.below hb6).below hb7)
        have p6 : OwnsB 5 w7 w5.heap.size A6 c6 (l0 ++ (Pk.enc l3.length ++ Pk.encs l3)) := (ho6.below hb7)
        have HL5 : Hid ((l0 ++ (Pk.enc l1.length ++ l1)).length = l0.length + 8 + l1.length) := by show _ = _; rw [List.length_append, List.length_append, Pk.enc_length]; omega
        have HL6 : Hid ((l0 ++ (Pk.enc l3.length ++ Pk.encs l3)).length = l0.length + 8 + 8 * l3.length) := by show _ = _; rw [List.length_append, List.length_append, Pk.enc_length, Pk.encs_length]; omega
        clear HP6 hx6 ho4 ho5 ho6 hb4 hb5 hb6 hb7 hb5w hb6w
        have hbt : Below w.heap.size w w7 := hb3'.trans (hb7w.mono hsz3)
        have HBT := hid hbt
        have hszt := hbt.size
        clear hbt
        -- the first one
        go_wp2_with fail
        refine (refInt_any w.heap.size a0 cap0 l0 a2 b2 (by omega) _ (k0.below HBT.out) hszt).mono ?_
        rintro e w8 ⟨A8, c8, rfl, ho8, hb8⟩
        have hsz8 := hb8.size
        have HS8 := hid (same_N _ _ A4 A8 c4 c8 (l0 ++ Pk.enc a2) (l0 ++ Pk.enc a2) (l0.length + 8) (l0.length + 8) HL4.out HL4.out (by unfold maxLen; omega) (by unfold maxLen; omega) w8 (p4.below hb8).reads ho8.reads)
        clear ho8
        go_wp2_with fail
        refine HS8.out.mono ?_
        rintro e w9 ⟨rfl, n9, rfl⟩
        have hb9 : Below w7.heap.size w7 (w8.drewN n9) := below_drewN hb8 n9
        clear HS8 hb8 hsz8
        obtain ⟨w9, hw9⟩ : ∃ w9, w9 = w8.drewN n9 := ⟨_, rfl⟩
        rw [← hw9] at hb9 ⊢
        clear hw9
        have hsz9 := hb9.size
        -- the second one
        go_wp2_with fail
        refine (refBlob_any w.heap.size a0 cap0 l0 w.heap.size a1 cap1 l1 (by omega) _ (k0.below (HBT.out.trans (hb9.mono hszt))) (by omega) (k1.below (HBT.out.trans (hb9.mono hszt))) (by omega)).mono ?_
        rintro e w10 ⟨A10, c10, rfl, ho10, hb10⟩
        have HS10 := hid (same_N _ _ A5 A10 c5 c10 _ _ _ _ HL5.out HL5.out (by unfold maxLen; omega) (by unfold maxLen; omega) w10 ((p5.below hb9).below hb10).reads ho10.reads)
        have hb10' := hb9.trans (hb10.mono hsz9)
        clear ho10 hb9 hb10 hsz9
        go_wp2_with fail
        refine HS10.out.mono ?_
        rintro e w11 ⟨rfl, n11, rfl⟩
        have hb11 : Below w7.heap.size w7 (w10.drewN n11) := below_drewN hb10' n11
        clear HS10 hb10'
        obtain ⟨w11, hw11⟩ : ∃ w11, w11 = w10.drewN n11 := ⟨_, rfl⟩
        rw [← hw11] at hb11 ⊢
        clear hw11
        have hsz11 := hb11.size
        -- the third one
        go_wp2_with fail
        refine (refInts_any w.heap.size a0 cap0 l0 w.heap.size a3 cap3 l3 (by omega) _ (k0.below (HBT.out.trans (hb11.mono hszt))) (by omega) (k3.below (HBT.out.trans (hb11.mono hszt))) (by omega)).mono ?_
        rintro e w12 ⟨A12, c12, rfl, ho12, hb12⟩
        have HS12 := hid (same_N _ _ A6 A12 c6 c12 _ _ _ _ HL6.out HL6.out (by unfold maxLen; omega) (by unfold maxLen; omega) w12 ((p6.below hb11).below hb12).reads ho12.reads)
        have hb12' := hb11.trans (hb12.mono hsz11)
        clear ho12 hb11 hb12 hsz11
        go_wp2_with fail
        refine HS12.out.mono ?_
        rintro e w13 ⟨rfl, n13, rfl⟩
        have hb13 : Below w7.heap.size w7 (w12.drewN n13) := below_drewN hb12' n13
        clear HS12 hb12'
        obtain ⟨w13, hw13⟩ : ∃ w13, w13 = w12.drewN n13 := ⟨_, rfl⟩
        rw [← hw13] at hb13 ⊢
        clear hw13
        have s4 := p4.below hb13
        have s5 := p5.below hb13
        have s6 := p6.below hb13
        have s7 := ho7.below hb13
        clear p4 p5 p6 ho7
        have hb3x : Below w3.heap.size w3 w13 := hb7w.trans (hb13.mono hb7w.size)
        have q5' : ∀ k, blk A5 = some k → w4.heap.size ≤ k ∧ k < w5.heap.size := q5
        have q6' : ∀ k, blk A6 = some k → w5.heap.size ≤ k ∧ k < w6.heap.size := q6
        clear q5 q6 hb13 hb7w
        have Q4 := hid q4
        have Q5 := hid q5'
        have Q6 := hid q6'
        clear q4 q5' q6'
        -- they are written over
        go_wp2_with fail
        refine (spoil_N w3.heap.size A4 c4 _ _ HL4.out (by unfold maxLen; omega) _ s4).mono ?_
        rintro e w14 ⟨rfl, hG4⟩
        have u5 := s5.grown hG4 (fun k hk => (Q4.out k hk).2)
        have u6 := s6.grown hG4 (fun k hk => by have := (Q4.out k hk).2; omega)
        have u7 := s7.grown hG4 (fun k hk => by have := (Q4.out k hk).2; omega)
        have hb14 : Below w3.heap.size w3 w14 := hb3x.grown hG4 hb3x.size (fun k hk => (Q4.out k hk).1)
        clear s4 s5 s6 s7 hG4 hb3x
        go_wp2_with fail
        refine (spoil_N w4.heap.size A5 c5 _ _ HL5.out (by unfold maxLen; omega) _ u5).mono ?_
        rintro e w15 ⟨rfl, hG5⟩
        have v6 := u6.grown hG5 (fun k hk => (Q5.out k hk).2)
        have v7 := u7.grown hG5 (fun k hk => by have := (Q5.out k hk).2; omega)
        have hb15 : Below w3.heap.size w3 w15 := hb14.grown hG5 hb14.size (fun k hk => by have := (Q5.out k hk).1; omega)
        clear u5 u6 u7 hG5 hb14
        go_wp2_with fail
        refine (spoil_N w5.heap.size A6 c6 _ _ HL6.out (by unfold maxLen; omega) _ v6).mono ?_
        rintro e w16 ⟨rfl, hG6⟩
        have x7 := v7.grown hG6 (fun k hk => (Q6.out k hk).2)
        have hb16 : Below w3.heap.size w3 w16 := hb15.grown hG6 hb15.size (fun k hk => by have := (Q6.out k hk).1; omega)
        clear v6 v7 hG6 hb15
        have hbw : Below w.heap.size w w16 := hb3'.trans (hb16.mono hsz3)
        have hszw := hbw.size
        -- what was put last is there; what was lent is as it was
        go_wp2_with fail
        refine (refInt_any w.heap.size a0 cap0 l0 a2 b2 (by omega) _ (k0.below hbw) hszw).mono ?_
        rintro e w17 ⟨A17, c17, rfl, ho17, hb17⟩
        have HS17 := hid (same_N _ _ A7 A17 c7 c17 _ _ _ _ HL4.out HL4.out (by unfold maxLen; omega) (by unfold maxLen; omega) w17 (x7.below hb17).reads ho17.reads)
        have hb17w := hbw.trans (hb17.mono hszw)
        have hb17x := hb16.trans (hb17.mono hb16.size)
        clear ho17 hbw hb17 hb16 x7
        go_wp2_with fail
        refine HS17.out.mono ?_
        rintro e w18 ⟨rfl, n18, rfl⟩
        have hb18w := below_drewN hb17w n18
        have hb18x := below_drewN hb17x n18
        clear HS17 hb17w hb17x
        obtain ⟨w18, hw18⟩ : ∃ w18, w18 = w17.drewN n18 := ⟨_, rfl⟩
        rw [← hw18] at hb18w hb18x ⊢
        clear hw18
        go_wp2_with fail
        refine (kept_any _ _ gx a0 _ _ l0 (by omega) hcx _ (hx3.below hb18x) (k0.below hb18w)).mono ?_
        rintro e w19 ⟨rfl, n19, rfl⟩
        go_wp2_with fail
        refine (kept_any _ _ gy a1 _ _ l1 (by omega) hcy _ ((hy3.below hb18x).drewN n19) ((k1.below hb18w).drewN n19)).mono ?_
        rintro e w20 ⟨rfl, n20, rfl⟩
        rw [World.drewN_drewN]
        go_wp2_with fail
        refine (I.kept_any _ _ gz a3 _ _ l3 (by omega) hcz _ ((hz3.below hb18x).drewN _) ((k3.below hb18w).drewN _)).mono ?_
        rintro e w21 ⟨rfl, n21, rfl⟩
        rw [World.drewN_drewN]
        go_wp2_with fail
        refine (works_any _).mono ?_
        rintro e w22 ⟨rfl, hb22⟩
        go_wp2_with fail
        go_ret
        have hb21 := below_drewN hb18w (n19 + n20 + n21)
        exact ⟨rfl, hb21.trans (hb22.mono hb21.size)⟩
theorem walk (a0 : Option Addr) (cap0 : Nat) (l0 : List Nat) (a1 : Option Addr) (cap1 : Nat) (l1 : List Nat) (a2 : Int) (a3 : Option Addr) (cap3 : Nat) (l3 : List Int) (w : World)
    (k0 : IsBytes w w.heap.size a0 l0) (n0 : l0.length ≤ cap0) (r0 : cap0 ≤ 140737488351232) (z0 : a0 = none → cap0 = 0)
    (k1 : IsBytes w w.heap.size a1 l1) (n1 : l1.length ≤ cap1) (r1 : cap1 ≤ 140737488351232) (z1 : a1 = none → cap1 = 0)
    (b2 : -9223372036854775808 ≤ a2 ∧ a2 ≤ 9223372036854775807)
    (k3 : IsInts w w.heap.size a3 l3) (n3 : l3.length ≤ cap3) (r3 : cap3 * 8 ≤ 140737488351232) (z3 : a3 = none → cap3 = 0) :
    Calls Try.prog 3 #[.slice a0 l0.length cap0, .slice a1 l1.length cap1, .int .i64 a2, .slice a3 l3.length cap3] w fun e w' => e = .returned (.bool true) ∧ Below w.heap.size w w' :=
  core a0 cap0 l0 a1 cap1 l1 a2 a3 cap3 l3 w k0 n0 z0 k1 n1 z1 b2 k3 n3 z3

set_option maxRecDepth 100000 in
theorem lifted (os : Os) (started : os.Started) (H : Type) (enc : TypeId × Value → H) :
    ReturnsInHanded {} Try.checked os 3 .any (Rows.packPutsSpec.pre6 enc Try.prog Try.f3 Rows.packPutsRow.domain false) (Rows.packPutsSpec.post enc Try.prog Try.f3 false true false false) := by
  refine returnsInHanded_of_change_sized (C := Try.checked) own started (by kernel_rfl) Try.func3
    (ChangeSpec.witness6 (enc := enc) (C := Try.checked) false ⟨#[], #[.slice none 0 0, .slice none 0 0, .int .i64 0, .slice none 0 0], []⟩ 8 (by kernel_rfl) (by kernel_rfl) (by kernel_rfl) (by kernel_rfl)) ?_
  intro W base args ds gs before hval0 hW hcnd hsz0 _
  have hsz : (DataW.weightsEach Try.prog (Try.f3.params.toList ++ Rows.packPutsSpec.plain.varTypes Try.prog) (ds ++ gs)).all (· ≤ reachBytes) = true := hsz0
  clear hsz0
  have hval : ∀ (j : Nat) t v, Try.f3.params[j]? = some t → args[j]? = some v → Value.okWide Try.prog W .any base t v := hval0
  have hW' := hW
  obtain ⟨p, q, hA0, hV, rfl, hfz, hnd⟩ := hW
  have hA : DataW.TrodAll enc Try.prog W 0 (fun _ => true) true Try.f3.params.toList args.toList ds p := hA0
  rw [Try.params3] at hA hval hsz
  obtain ⟨v0, vs0, d0, ds0, p0, q0, hargs, rfl, rfl, g0, t0⟩ := trodAll_cons hA
  obtain ⟨v1, vs1, d1, ds1, p1, q1, rfl, rfl, rfl, g1, t1⟩ := trodAll_cons t0
  obtain ⟨v2, vs2, d2, ds2, p2, q2, rfl, rfl, rfl, g2, t2⟩ := trodAll_cons t1
  obtain ⟨v3, vs3, d3, ds3, p3, q3, rfl, rfl, rfl, g3, t3⟩ := trodAll_cons t2
  obtain ⟨rfl, rfl, rfl⟩ := trodAll_nil t3
  obtain rfl : args = #[v0, v1, v2, v3] := by cases args; simp_all
  obtain ⟨rfl, rfl⟩ := trodVars_none hV
  obtain ⟨a0, len0, cap0, rfl⟩ := okWide_slice Try.underlying22 (hval 0 22 v0 rfl rfl)
  have m0 := g0
  have lt0 : ∀ x ∈ p0, x.block < W.heap.size := by obtain ⟨m, hm⟩ := m0; exact DataW.trod_lt m _ _ _ hm
  obtain ⟨l0, k0, rfl, n0, r0, z0⟩ : ∃ l, IsBytes W W.heap.size a0 l ∧ len0 = l.length ∧ l.length ≤ cap0 ∧ cap0 ≤ 140737488351232 ∧ (a0 = none → cap0 = 0) := by
    obtain ⟨fuel, hf⟩ := g0
    rcases open_ints Try.underlying22 Try.underlying5 (by kernel_rfl) hf with ⟨hcs, _⟩ | ⟨x, l, c, zs, hcs, _, hl, hm, hz, hx, hcell, hwz⟩
    · simp [Value.cells] at hcs
      obtain ⟨rfl, rfl, rfl⟩ := hcs
      exact ⟨[], IsBytes.nil, rfl, by simp, by omega, fun _ => rfl⟩
    · simp [Value.cells] at hcs
      obtain ⟨rfl, rfl, rfl⟩ := hcs
      simp only [Prod.mk.injEq] at hx
      obtain ⟨rfl, rfl⟩ := hx
      simp only [if_true] at hz
      have hr := sized_slice hsz (j := 0) (t := 22) (e := 5) rfl rfl Try.underlying22
      rw [bytesOf] at hr
      simp only [lits, List.length_map, List.length_take, List.length_drop, reachBytes] at hr
      obtain ⟨l, h1, h2⟩ := isBytes_of_ints hl hz hcell hwz
      exact ⟨l, h1, h2, by omega, by omega, fun h => by cases h⟩
  obtain ⟨a1, len1, cap1, rfl⟩ := okWide_slice Try.underlying22 (hval 1 22 v1 rfl rfl)
  have m1 := g1
  have lt1 : ∀ x ∈ p1, x.block < W.heap.size := by obtain ⟨m, hm⟩ := m1; exact DataW.trod_lt m _ _ _ hm
  obtain ⟨l1, k1, rfl, n1, r1, z1⟩ : ∃ l, IsBytes W W.heap.size a1 l ∧ len1 = l.length ∧ l.length ≤ cap1 ∧ cap1 ≤ 140737488351232 ∧ (a1 = none → cap1 = 0) := by
    obtain ⟨fuel, hf⟩ := g1
    rcases open_ints Try.underlying22 Try.underlying5 (by kernel_rfl) hf with ⟨hcs, _⟩ | ⟨x, l, c, zs, hcs, _, hl, hm, hz, hx, hcell, hwz⟩
    · simp [Value.cells] at hcs
      obtain ⟨rfl, rfl, rfl⟩ := hcs
      exact ⟨[], IsBytes.nil, rfl, by simp, by omega, fun _ => rfl⟩
    · simp [Value.cells] at hcs
      obtain ⟨rfl, rfl, rfl⟩ := hcs
      simp only [Prod.mk.injEq] at hx
      obtain ⟨rfl, rfl⟩ := hx
      simp only [if_true] at hz
      have hr := sized_slice hsz (j := 1) (t := 22) (e := 5) rfl rfl Try.underlying22
      rw [bytesOf] at hr
      simp only [lits, List.length_map, List.length_take, List.length_drop, reachBytes] at hr
      obtain ⟨l, h1, h2⟩ := isBytes_of_ints hl hz hcell hwz
      exact ⟨l, h1, h2, by omega, by omega, fun h => by cases h⟩
  obtain ⟨a2, rfl, rfl, rfl, w2⟩ := open_int Try.underlying3 (hval 2 3 v2 rfl rfl) g2
  have b2 := bounds_i64 w2
  obtain ⟨a3, len3, cap3, rfl⟩ := okWide_slice Try.underlying23 (hval 3 23 v3 rfl rfl)
  have m3 := g3
  have lt3 : ∀ x ∈ p3, x.block < W.heap.size := by obtain ⟨m, hm⟩ := m3; exact DataW.trod_lt m _ _ _ hm
  obtain ⟨l3, k3, rfl, n3, r3, z3⟩ : ∃ l, IsInts W W.heap.size a3 l ∧ len3 = l.length ∧ l.length ≤ cap3 ∧ cap3 * 8 ≤ 140737488351232 ∧ (a3 = none → cap3 = 0) := by
    obtain ⟨fuel, hf⟩ := g3
    rcases open_ints Try.underlying23 Try.underlying3 (by kernel_rfl) hf with ⟨hcs, _⟩ | ⟨x, l, c, zs, hcs, _, hl, hm, hz, hx, hcell, hwz⟩
    · simp [Value.cells] at hcs
      obtain ⟨rfl, rfl, rfl⟩ := hcs
      exact ⟨[], IsInts.nil, rfl, by simp, by omega, fun _ => rfl⟩
    · simp [Value.cells] at hcs
      obtain ⟨rfl, rfl, rfl⟩ := hcs
      simp only [Prod.mk.injEq] at hx
      obtain ⟨rfl, rfl⟩ := hx
      simp only [if_true] at hz
      have hr := sized_slice hsz (j := 3) (t := 23) (e := 3) rfl rfl Try.underlying23
      rw [bytesOfI] at hr
      simp only [lits, List.length_map, List.length_take, List.length_drop, reachBytes] at hr
      obtain ⟨l, h1, h2⟩ := isInts_of_ints hl hz hcell hwz
      exact ⟨l, h1, h2, by omega, by omega, fun h => by cases h⟩
  clear hA0 hval0
  refine (walk a0 cap0 l0 a1 cap1 l1 a2 a3 cap3 l3 W k0 n0 r0 z0 k1 n1 r1 z1 b2 k3 n3 r3 z3).mono fun e W' ⟨he, bel⟩ => ?_
  subst he
  exact ⟨_, rfl, _, _, _, [], _, [], hW', trodAll_mk1 (shut_bool Try.underlying4 _), (trodAll_cons_mk (Below.trod laidOut (by kernel_rfl) (of_decide_eq_true (by kernel_rfl)) m0 bel lt0) (trodAll_cons_mk (Below.trod laidOut (by kernel_rfl) (of_decide_eq_true (by kernel_rfl)) m1 bel lt1) (trodAll_cons_mk (shut_int Try.underlying3 w2) (trodAll_cons_mk (Below.trod laidOut (by kernel_rfl) (of_decide_eq_true (by kernel_rfl)) m3 bel lt3) trodAll_mk0)))), rfl, bel.frame _, fun h => by cases h⟩

theorem over : Rows.packPutsRow.holds Try.pinned (OpenSpec.ofChange Rows.packPutsSpec) :=
  OpenClaim.holds_of_wide 3 Try.f3 rfl rfl rfl rfl rfl rfl rfl ⟨rfl, rfl, rfl, rfl, rfl⟩ rfl rfl rfl rfl rfl (by kernel_rfl) Try.func3 (by kernel_rfl)
    (of_decide_eq_true (by kernel_rfl)) (by unfold Func.isWrapper; first | (rw [if_pos (by decide +kernel)]; kernel_rfl) | (rw [if_neg (by decide +kernel)]; exact ⟨rfl, rfl⟩))
    (fun os started H enc _ => lifted os started H enc)

theorem proved : Rows.PackPutsSaid := over
end Go.Proofs.Ytdmghnfnmgkigaa.packPuts
