/- Wherever the power fails, and whatever becomes of each sector that was not flushed: all records that were appended are told, in order, and besides them at most the one under way, whole; and none of an epoch that was not used. Conditions: none. -/
import Derived.Test.YtomnbaeokmpobaaRows
import Derived.Test.YtomnbaeokmpobaaJoLives
import Derived.WalkKit
import Derived.WalkLawsBesides
import Derived.ProofKit
import Derived.OpenShut
import Derived.ShutString
import Derived.ChangeOld
import Derived.Below
import Derived.SizedLaws
namespace Go.Proofs.Ytomnbaeokmpobaa.journalWhole
open Go.ChangeShapes Go.WideShapes Go.ChangeAt Go.RowKit
open Go.ChangeMaps (open_string shut_string)
set_option linter.unusedVariables false

theorem own : ownKnob Try.prog.godebug = none := by kernel_rfl
theorem laidOut : laidOutB Try.prog = true := by kernel_rfl

set_option maxRecDepth 100000 in
set_option maxHeartbeats 2000000 in
theorem walk (a0 : Option Addr) (cap0 : Nat) (l0 : List Jo.Life) (w : World) (k0 : IsLives w w.heap.size a0 l0) (n0 : l0.length ≤ cap0) (r0 : cap0 ≤ maxLen) (z0 : a0 = none → cap0 = 0) :
    Calls Try.prog 3 #[.slice a0 l0.length cap0] w fun e w' => e = .returned (.bool true) ∧ Below w.heap.size w w' := by
  have HX := hid (And.intro k0 (And.intro r0 n0))
  clear k0 z0 r0
  go_enter Try.func3, Try.ntmps3
  go_wp2_with fail
  refine (new_any 42 (by omega) w).mono ?_
  rintro e w1 ⟨d, rfl, hD, hb⟩
  have H1 : Hid (DM w w1 d (Sx.new 42)) := hid ⟨hD, hb⟩
  clear hD hb
  go_wp2_with fail
  go_loopw [5] (fun i wr => ∃ (k : Nat) (s : Sx.St), k ≤ l0.length ∧ k ≤ 10 ∧ i = .int .i64 (k : Int) ∧ Hid (DM w wr d s ∧ s.n = 42 ∧ Jo.Fresh ((k : Int) + 3) s)) (fun i _ => l0.length - (RowKit.intOf i).toNat)
  case atStart => exact ⟨0, Sx.new 42, by omega, by omega, by simp, hid ⟨H1.out, rfl, Jo.fresh_new 42 _⟩⟩
  case round =>
    obtain ⟨k, s, hk, hk10, rfl, HI⟩ := hrel
    by_cases hlt : k < l0.length
    · have hlt0 : (k : Int) < (l0.length : Int) := by omega
      by_cases hlt10 : k < 10
      · have hlt10i : (k : Int) < 10 := by omega
        obtain ⟨b, off, rfl, hbB, hcs⟩ := HX.out.1 k hlt
        have hat := hcs k hlt
        obtain ⟨t, ht⟩ : ∃ t, t = l0[k] := ⟨_, rfl⟩
        rw [← ht] at hat
        obtain ⟨ar, cr, al, cl, c0, c1, c2, hR, hL, hrc, hlc, hrz, hlz, hcut⟩ := hat
        obtain ⟨R, cut, F⟩ := t
        simp only at c0 c1 c2 hR hL hrc hlc hcut
        obtain ⟨nF, hnF⟩ : ∃ n, F.length = n := ⟨_, rfl⟩
        rw [hnF] at c2 hlc
        have HC : Hid (∀ w' : World, Below w.heap.size w w' → w'.cell? ⟨b, off + k * 3, none⟩ = some (.slice ar R.length cr) ∧ w'.cell? ⟨b, off + k * 3 + 1, none⟩ = some (.int .i64 cut) ∧ w'.cell? ⟨b, off + k * 3 + 2, none⟩ = some (.slice al nF cl)) :=
          hid (fun w' hb => ⟨(hb.cell (p := ⟨b, _, none⟩) hbB).trans c0, (hb.cell (p := ⟨b, _, none⟩) hbB).trans c1, (hb.cell (p := ⟨b, _, none⟩) hbB).trans c2⟩)
        have HQ := hid (And.intro hnF (And.intro hR (And.intro hL hcut)))
        obtain ⟨d0, d1, d2⟩ := HC.out wr HI.out.1.bel
        clear hcs c0 c1 c2 hR hL hrc hlc hrz hlz hcut hnF ht hbB
        by_cases hbig : 100 < nF
        · have hbigi : (100 : Int) < (nF : Int) := by omega
          go_wp2_with fail
          refine (known_any wr).mono ?_
          rintro e w6 ⟨rfl, hb6⟩
          have HB6 := hid (HI.out.1.bel.trans (hb6.mono HI.out.1.bel.size))
          clear hb6
          go_wp2
          go_ret
          exact ⟨rfl, HB6.out⟩
        · have hbigi : ¬ (100 : Int) < (nF : Int) := by omega
          go_wp2_with fail
          refine (lives_any w wr d s ((k : Int) + 3) HI.out.1 HI.out.2.1 HI.out.2.2 (by omega) ar cr R cut al nF cl HQ.out.2.1 HQ.out.2.2.2).mono ?_
          rintro e w2 ⟨L, M, A1, c1, A2, c2, rfl, s2, hLv⟩
          have H2 := hid hLv
          have hL50 := hLv.len.1
          have hM51 := hLv.len.2
          obtain ⟨e0, e1, e2⟩ := HC.out w2 hLv.disk.bel
          clear hLv d0 d1 d2
          go_wp2_with fail
          refine (crash_any _ d s2 al cl F nF HQ.out.1 w2 H2.out.disk.at_ (fun w' ht => by
            have hbw : Below w.heap.size w w' := H2.out.disk.bel.trans (ht.below H2.out.disk.bel.size H2.out.disk.ge)
            exact (HQ.out.2.2.1.below hbw).more hbw.size)).mono ?_
          rintro e w3 ⟨rfl, hD3, ht3⟩
          obtain ⟨s3, hs3⟩ : ∃ s3, s3 = Sx.crash s2 F := ⟨_, rfl⟩
          have hn3 : s3.n = 42 := by rw [hs3]; exact H2.out.n
          obtain ⟨X, hX⟩ : ∃ X, Jo.scan (Jo.rdOf s3) ((k : Int) + 3) 40 1 [] [] = X := ⟨_, rfl⟩
          have htl := H2.out.told F
          rw [← hs3, hX] at htl
          rw [← hs3] at hD3
          have hbd : ∀ j, d.has j → w.heap.size ≤ j ∧ j < wr.heap.size := fun j hj => ⟨HI.out.1.ge j hj, HI.out.1.at_.lt j hj⟩
          have H3 := hid (And.intro (H2.out.disk.next hD3 ht3) (And.intro (H2.out.must.keep ht3 hbd H2.out.disk.bel.size) (H2.out.may.keep ht3 hbd H2.out.disk.bel.size)))
          have HT := hid (And.intro hn3 (And.intro hX htl))
          clear hD3 ht3 hs3 hX htl hbd e0 e1 e2 hn3 H2
          go_wp2_with fail
          have HSc := J.scan_any _ d s3 1 40 ((k : Int) + 3) ⟨by omega, by omega, by rw [HT.out.1]; omega, by omega, by omega⟩ w3 H3.out.1.at_
          rw [HT.out.2.1] at HSc
          refine HSc.mono ?_
          rintro e w4 ⟨A4, c4, rfl, hR4, hb4⟩
          have H4 := hid (And.intro (H3.out.1.below hb4) (And.intro hR4.reads (And.intro (H3.out.2.1.below hb4 H3.out.1.bel.size) (H3.out.2.2.below hb4 H3.out.1.bel.size))))
          clear hR4 hb4 HSc H3
          go_wp2_with fail
          refine (J.scan_fresh w d s3 ((k : Int) + 4) 1 40 w4 H4.out.1 (HT.out.2.2.2.more (by omega)) (by omega) (by rw [HT.out.1]; omega) (by omega)).mono ?_
          rintro e w5 ⟨A5, c5, rfl, h5⟩
          have hs5 : w.heap.size ≤ w5.heap.size := Nat.le_trans H4.out.1.bel.size h5.out.size
          have H5 := hid (And.intro (H4.out.1.below h5.out) (And.intro (H4.out.2.1.below h5.out) (And.intro ((H4.out.2.2.1.below h5.out H4.out.1.bel.size).reads hs5) ((H4.out.2.2.2.below h5.out H4.out.1.bel.size).reads hs5))))
          clear h5 hs5 H4
          by_cases hXL : X = L
          · subst hXL
            go_wp2_with fail
            refine (rows_T A4 A1 c4 c1 X X.length rfl (by omega) w5 H5.out.2.1 H5.out.2.2.1).mono ?_
            rintro e w6 ⟨rfl, hb6⟩
            have H6 := hid (H5.out.1.below hb6)
            clear hb6
            go_wp2
            go_roundw
            case rel => exact ⟨k + 1, s3, by omega, by omega, by go_num, hid ⟨H6.out, HT.out.1, HT.out.2.2.2.more (by omega)⟩⟩
            case measure => simp [RowKit.intOf]; omega
          · obtain rfl : X = M := HT.out.2.2.1.resolve_left hXL
            have hdf : decide (X = L) = false := decide_eq_false hXL
            go_wp2_with fail
            refine (rows_same A4 A1 c4 c1 X L X.length L.length rfl rfl (by omega) w5 H5.out.2.1 H5.out.2.2.1).mono ?_
            rintro e w6 ⟨rfl, j6, rfl⟩
            rw [hdf]
            go_wp2_with fail
            refine (rows_T A4 A2 c4 c2 X X.length rfl (by omega) _ (H5.out.2.1.drewN j6) (H5.out.2.2.2.drewN j6)).mono ?_
            rintro e w6 ⟨rfl, hb6⟩
            have H6 := hid ((H5.out.1.drewN j6).below hb6)
            clear hb6
            go_wp2
            go_roundw
            case rel => exact ⟨k + 1, s3, by omega, by omega, by go_num, hid ⟨H6.out, HT.out.1, HT.out.2.2.2.more (by omega)⟩⟩
            case measure => simp [RowKit.intOf]; omega
      · have hlt10i : ¬ (k : Int) < 10 := by omega
        go_wp2_with fail
        refine (known_any wr).mono ?_
        rintro e w6 ⟨rfl, hb6⟩
        have HB6 := hid (HI.out.1.bel.trans (hb6.mono HI.out.1.bel.size))
        clear hb6
        go_wp2
        go_ret
        exact ⟨rfl, HB6.out⟩
    · have hlt0 : ¬ (k : Int) < (l0.length : Int) := by omega
      go_wp2_with fail
      refine (known_any wr).mono ?_
      rintro e w6 ⟨rfl, hb6⟩
      have HB6 := hid (HI.out.1.bel.trans (hb6.mono HI.out.1.bel.size))
      clear hb6
      go_wp2
      go_ret
      exact ⟨rfl, HB6.out⟩

set_option maxRecDepth 100000 in
theorem lifted (os : Os) (started : os.Started) (H : Type) (enc : TypeId × Value → H) :
    ReturnsInHanded {} Try.checked os 3 .any (Rows.journalWholeSpec.pre6 enc Try.prog Try.f3 Rows.journalWholeRow.domain false) (Rows.journalWholeSpec.post enc Try.prog Try.f3 false true false false) := by
  refine returnsInHanded_of_change_sized (C := Try.checked) own started (by kernel_rfl) Try.func3
    (ChangeSpec.witness6 (enc := enc) (C := Try.checked) false ⟨#[], #[.slice none 0 0], []⟩ 8 (by kernel_rfl) (by kernel_rfl) (by kernel_rfl) (by kernel_rfl)) ?_
  intro W base args ds gs before hval0 hW hcnd hsz0 _
  have hsz : (DataW.weightsEach Try.prog (Try.f3.params.toList ++ Rows.journalWholeSpec.plain.varTypes Try.prog) (ds ++ gs)).all (· ≤ reachBytes) = true := hsz0
  clear hsz0
  have hval : ∀ (j : Nat) t v, Try.f3.params[j]? = some t → args[j]? = some v → Value.okWide Try.prog W .any base t v := hval0
  have hW' := hW
  obtain ⟨p, q, hA0, hV, rfl, hfz, hnd⟩ := hW
  have hA : DataW.TrodAll enc Try.prog W 0 (fun _ => true) true Try.f3.params.toList args.toList ds p := hA0
  rw [Try.params3] at hA hval hsz
  obtain ⟨v0, vs0, d0, ds0, p0, q0, hargs, rfl, rfl, g0, t0⟩ := trodAll_cons hA
  obtain ⟨rfl, rfl, rfl⟩ := trodAll_nil t0
  obtain rfl : args = #[v0] := by cases args; simp_all
  obtain ⟨rfl, rfl⟩ := trodVars_none hV
  obtain ⟨a0, len0, cap0, rfl⟩ := okWide_slice Try.underlying22 (hval 0 22 v0 rfl rfl)
  have m0 := g0
  have lt0 : ∀ x ∈ p0, x.block < W.heap.size := by obtain ⟨m, hm⟩ := m0; exact DataW.trod_lt m _ _ _ hm
  obtain ⟨l0, k0, rfl, n0, r0, z0⟩ : ∃ l, IsLives W W.heap.size a0 l ∧ len0 = l.length ∧ l.length ≤ cap0 ∧ cap0 ≤ maxLen ∧ (a0 = none → cap0 = 0) := by
    obtain ⟨fuel, hf⟩ := g0
    obtain ⟨a, c, ts, hcs, h1, h2, h3⟩ := lives_of_trod hf
    simp [Value.cells] at hcs
    obtain ⟨rfl, rfl, rfl⟩ := hcs
    exact ⟨ts, h1, rfl, h2.1, h2.2, h3⟩
  clear hA0 hval0
  refine (walk a0 cap0 l0 W k0 n0 r0 z0).mono fun e W' ⟨he, bel⟩ => ?_
  subst he
  exact ⟨_, rfl, _, _, _, [], _, [], hW', trodAll_mk1 (shut_bool Try.underlying4 _), (trodAll_cons_mk (Below.trod laidOut (by kernel_rfl) (of_decide_eq_true (by kernel_rfl)) m0 bel lt0) trodAll_mk0), rfl, bel.frame _, fun h => by cases h⟩

theorem over : Rows.journalWholeRow.holds Try.pinned (OpenSpec.ofChange Rows.journalWholeSpec) :=
  OpenClaim.holds_of_wide 3 Try.f3 rfl rfl rfl rfl rfl rfl rfl ⟨rfl, rfl, rfl, rfl, rfl⟩ rfl rfl rfl rfl rfl (by kernel_rfl) Try.func3 (by kernel_rfl)
    (of_decide_eq_true (by kernel_rfl)) (by unfold Func.isWrapper; first | (rw [if_pos (by decide +kernel)]; kernel_rfl) | (rw [if_neg (by decide +kernel)]; exact ⟨rfl, rfl⟩))
    (fun os started H enc _ => lifted os started H enc)

theorem proved : Rows.JournalWholeSaid := over
end Go.Proofs.Ytomnbaeokmpobaa.journalWhole
