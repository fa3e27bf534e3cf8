/- A record has a sector for each 40 bytes that are begun, one at least; as long as there is room it is appended, and told as it was. Conditions: none. -/
import Derived.Test.YtomnbaeokmpobaaRows
import Derived.Test.YtomnbaeokmpobaaWorks07
import Derived.Test.YtomnbaeokmpobaaJoIn
import Derived.Test.YtomnbaeokmpobaaRowsB
import Derived.Test.YtomnbaeokmpobaaKitPick
import Derived.WalkKit
import Derived.WalkLawsBesides
import Derived.ProofKit
import Derived.OpenShut
import Derived.ShutString
import Derived.ChangeOld
import Derived.Below
import Derived.SizedLaws
namespace Go.Proofs.Ytomnbaeokmpobaa.journalSizes
open Go.ChangeShapes Go.WideShapes Go.ChangeAt Go.RowKit
open Go.ChangeMaps (open_string shut_string)
set_option linter.unusedVariables false

theorem own : ownKnob Try.prog.godebug = none := by kernel_rfl
theorem laidOut : laidOutB Try.prog = true := by kernel_rfl

set_option maxRecDepth 100000 in
set_option maxHeartbeats 2000000 in
theorem walk (a0 : Option Addr) (cap0 : Nat) (l0 : List (List Nat)) (a1 : Int) (w : World) (k0 : IsRowsIn w w.heap.size a0 l0) (n0 : l0.length ≤ cap0) (r0 : cap0 ≤ maxLen) (z0 : a0 = none → cap0 = 0) (b1 : -9223372036854775808 ≤ a1 ∧ a1 ≤ 9223372036854775807) :
    Calls Try.prog 4 #[.slice a0 l0.length cap0, .int .i64 a1] w fun e w' => e = .returned (.bool true) ∧ Below w.heap.size w w' := by
  have HX := hid (And.intro k0 (And.intro r0 n0))
  clear k0 z0 r0
  go_enter Try.func4, Try.ntmps4
  go_wp2_with fail
  refine (pick_lt a1 1099511627776 (by omega) (by omega) w).mono ?_
  rintro e w1 ⟨⟨p, rfl, hp⟩, rfl⟩
  have hp0 : (0 : Int) ≤ p := by omega
  go_wp2_with fail
  refine (new_any 120 (by omega) w).mono ?_
  rintro e w1 ⟨d, rfl, hD, hb⟩
  have H1 : Hid (DM w w1 d (Sx.new 120)) := hid ⟨hD, hb⟩
  clear hD hb
  go_wp2_with fail
  refine (J.new_JG w d _ 0 120 (1 + (p : Int)) w1 H1.out (Jo.fresh_new 120 _) (by omega) (by decide) (by omega)).mono ?_
  rintro e w2 ⟨rfl, h2⟩
  have H2 := hid (And.intro h2.out.1 (And.intro h2.out.2.2 H1.out.at_.lt))
  clear h2
  go_wp2_with fail
  go_loopw [9, 10] (fun vW i wr => ∃ (k : Nat) (s' : Sx.St) (L : List (List Nat)) (AW : Option Addr) (cW : Nat), k ≤ l0.length ∧ k ≤ 30 ∧ i = .int .i64 (k : Int) ∧ vW = .slice AW L.length cW ∧
    Hid (JG w wr d s' w1.heap.size (1 + (p : Int)) 0 120 L ∧ (s'.armed = false ∧ s'.down = false) ∧ RowsB wr w.heap.size (w1.heap.size + 1) (.slice AW L.length cW) L ∧ w1.heap.size + 1 ≤ wr.heap.size)) (fun _ i _ => l0.length - (RowKit.intOf i).toNat)
  case atStart => exact ⟨0, Sx.new 120, [], none, 0, by omega, by omega, rfl, rfl, hid ⟨H2.out.1, ⟨rfl, rfl⟩, RowsB.nil _ _ _, by rw [H2.out.2.1]; exact Nat.le_refl _⟩⟩
  case round =>
    obtain ⟨k, s', L, AW, cW, hk, hk30, rfl, rfl, HI⟩ := hrel
    by_cases hlt : k < l0.length
    · have hlt0 : (k : Int) < (l0.length : Int) := by omega
      by_cases hlt30 : k < 30
      · have hlt30i : (k : Int) < 30 := by omega
        obtain ⟨b, off, rfl, hbB, hcs⟩ := HX.out.1 k hlt
        obtain ⟨A', c', hck, hpb, hpc, hpz⟩ := hcs k hlt
        obtain ⟨pl, hpl⟩ : ∃ pl, pl = l0[k] := ⟨_, rfl⟩
        rw [← hpl] at hck hpb hpc
        obtain ⟨q, hq⟩ : ∃ q, pl.length = q := ⟨_, rfl⟩
        rw [hq] at hck hpc
        have HC : Hid (∀ w' : World, Below w.heap.size w w' → w'.cell? ⟨b, off + k, none⟩ = some (.slice A' q c') ∧ IsBytes w' w.heap.size A' pl) := hid (fun w' hb => ⟨(hb.cell (p := ⟨b, off + k, none⟩) hbB).trans hck, hpb.below hb⟩)
        have HQ := hid (And.intro hq (And.intro hpc hpz))
        have hcell := (HC.out wr HI.out.1.disk.bel).1
        have hofs : ∀ a, A' = some a → pl ≠ [] → a.block < w.heap.size := fun a ha hne => by
          rcases pl with _ | ⟨y, pl⟩
          · exact absurd rfl hne
          · obtain ⟨b2, o2, e2, hb2, _⟩ := hpb.cells 0 (by simp)
            rw [ha] at e2; injection e2 with e2; subst e2; exact hb2
        have HO := hid hofs
        clear hck hpb hpc hpz hcs hpl hq hofs
        by_cases hbig : 2000 < q
        · have hbigi : (2000 : Int) < (q : Int) := by omega
          go_wp2_with fail
          refine (known_any wr).mono ?_
          rintro e w6 ⟨rfl, hb6⟩
          have HB6 := hid (HI.out.1.disk.bel.trans (hb6.mono HI.out.1.disk.bel.size))
          clear hb6
          go_wp2
          go_ret
          exact ⟨rfl, HB6.out⟩
        · have hbigi : ¬ (2000 : Int) < (q : Int) := by omega
          obtain ⟨X, hX⟩ : ∃ X, X = Jo.secs q := ⟨_, rfl⟩
          have hXe : max 1 (((q : Int) + 39) / 40) = (X : Int) := by rw [hX]; unfold Jo.secs; omega
          obtain ⟨m, hm⟩ : ∃ m, 120 - Jo.total L = m := ⟨_, rfl⟩
          have HM := hid (And.intro hX hm)
          have hm120 : m ≤ 120 := by omega
          have hX51 : X ≤ 60 := by rw [hX]; unfold Jo.secs; omega
          clear hX hm
          go_wp2_with fail
          refine (J.room_JG w d s' w1.heap.size (1 + (p : Int)) 0 120 L wr HI.out.1 m HM.out.2).mono ?_
          rintro e w5 ⟨rfl, rfl⟩
          by_cases hr : X ≤ m
          · have hri : (X : Int) ≤ (m : Int) := by omega
            go_wp2_with fail
            refine (J.append_ok w d s' w1.heap.size (1 + (p : Int)) 0 120 L w5 HI.out.1 HI.out.2.1 A' c' pl q HQ.out.1 HQ.out.2.1.1 HQ.out.2.1.2 HQ.out.2.2 ((HC.out w5 HI.out.1.disk.bel).2.more HI.out.1.disk.bel.size) ?_ (by omega) (by rw [← HM.out.1, HM.out.2]; exact hr)).mono ?_
            · intro hne a ha hd
              have h1 := HO.out a ha hne
              have h2 := HI.out.1.disk.ge _ hd
              omega
            rintro e w6 ⟨rfl, h6⟩
            have ⟨s6, h60, h61, h62, h63, h64, h65⟩ := h6.out
            have hbd : ∀ j, d.has j ∨ j = w1.heap.size → w.heap.size ≤ j ∧ j < w1.heap.size + 1 := fun j hj => by
              have hB := H1.out.bel.size
              rcases hj with hj | rfl
              · have h1 := HI.out.1.disk.ge j hj
                have h2 := H2.out.2.2 j hj
                exact ⟨h1, by omega⟩
              · exact ⟨hB, by omega⟩
            have hR6 := HI.out.2.2.1.keep h65 hbd HI.out.1.disk.bel.size
            have H6 := hid (And.intro h60 (And.intro (And.intro h61 h62) (And.intro hR6 (Nat.le_trans HI.out.2.2.2 h65.size))))
            have hcell6 := (HC.out w6 h60.disk.bel).1
            have HBD := hid hbd
            clear h6 h60 h61 h62 h63 h64 h65 hbd hR6
            have hrm : (m : Int) - (X : Int) = ((m - X : Nat) : Int) := by omega
            have HEl : Hid (Elm (w6.alloc (.cells #[.slice A' q c'] 43)) w.heap.size (w1.heap.size + 1) A' c' pl) := hid ⟨HQ.out.2.2, by have := HQ.out.1; omega, .inl ((HC.out w6 H6.out.1.disk.bel).2.below (((Below.refl _ _).alloc (Nat.le_refl _) _).mono H6.out.1.disk.bel.size))⟩
            have hLl : L.length + 1 ≤ 100000 := by have := HI.out.1.len; omega
            go_wp2_with (at_builtin; refine wpList_append_rowB rfl _ _ rfl w.heap.size (w1.heap.size + 1) ⟨by have := H1.out.bel.size; omega, by have := H6.out.2.2.2; simp; omega⟩ _ L rfl (H6.out.2.2.1.below ((Below.refl _ _).alloc (Nat.le_refl _) _) H6.out.1.disk.bel.size) ⟨w6.heap.size, 0, none⟩ 1 A' c' pl q HQ.out.1 rfl (row_new _ _ _) HEl.out _ rfl L.length rfl hLl ?_; intro A7 c7 w7 hR7 hb7)
            have HJ7 : Hid (JG w w7 d s6 w1.heap.size (1 + (p : Int)) 0 120 (L ++ [pl]) ∧ w1.heap.size + 1 ≤ w7.heap.size) := hid ⟨(H6.out.1.below ((Below.refl _ _).alloc (Nat.le_refl _) _)).rowGrown (fun j hj => (HBD.out j hj).2) hb7 (by have := H6.out.2.2.2; simp; omega) (by have := H1.out.bel.size; omega), by have h1 := (hb7.below (by have := H6.out.2.2.2; simp; omega)).size; have h2 := H6.out.2.2.2; simp at h1; omega⟩
            have HR7 := hid hR7
            clear hR7 hb7
            go_wp2_with fail
            refine (J.room_JG w d s6 w1.heap.size (1 + (p : Int)) 0 120 (L ++ [pl]) w7 HJ7.out.1 (m - X) (by rw [Jo.total_snoc, HQ.out.1, ← HM.out.1, ← HM.out.2]; omega)).mono ?_
            rintro e w8 ⟨rfl, rfl⟩
            go_wp2_with fail
            go_roundw
            case rel =>
              refine ⟨k + 1, s6, L ++ [pl], A7, c7, by omega, by omega, by go_num, by rw [List.length_append]; rfl, hid ⟨HJ7.out.1, H6.out.2.1, ?_, HJ7.out.2⟩⟩
              rw [List.length_append]
              exact HR7.out
            case measure => simp [RowKit.intOf]; omega
          · have hri : ¬ (X : Int) ≤ (m : Int) := by omega
            go_wp2_with fail
            refine (J.append_no w d s' w1.heap.size (1 + (p : Int)) 0 120 L w5 HI.out.1 A' c' q (by omega) (by rw [← HM.out.1, HM.out.2]; omega)).mono ?_
            rintro e w6 ⟨rfl, h6⟩
            have H6 := hid (And.intro h6.out.1 (And.intro (HI.out.2.2.1.below h6.out.2 HI.out.1.disk.bel.size) (Nat.le_trans HI.out.2.2.2 h6.out.2.size)))
            clear h6
            go_wp2_with fail
            refine (J.room_JG w d s' w1.heap.size (1 + (p : Int)) 0 120 L w6 H6.out.1 m HM.out.2).mono ?_
            rintro e w8 ⟨rfl, rfl⟩
            go_wp2_with fail
            go_roundw
            case rel => exact ⟨k + 1, s', L, AW, cW, by omega, by omega, by go_num, rfl, hid ⟨H6.out.1, HI.out.2.1, H6.out.2.1, H6.out.2.2⟩⟩
            case measure => simp [RowKit.intOf]; omega
      · have hlt30i : ¬ (k : Int) < 30 := by omega
        have hLl : L.length ≤ 100000 := by have := HI.out.1.len; omega
        go_wp2_with fail
        refine (J.scan_JG w d s' w1.heap.size (1 + (p : Int)) 0 120 L wr HI.out.1 (by omega) (by omega) L.length rfl).mono ?_
        rintro e w3 ⟨A3, c3, rfl, h3⟩
        have HR := hid (And.intro h3.out.1.reads (And.intro ((HI.out.2.2.1.below h3.out.2 HI.out.1.disk.bel.size).reads (by have := HI.out.1.disk.bel.size; have := h3.out.2.size; omega)) (HI.out.1.below h3.out.2)))
        clear h3
        go_wp2_with fail
        refine (rows_T A3 AW c3 cW L L.length rfl hLl w3 HR.out.1 HR.out.2.1).mono ?_
        rintro e w4 ⟨rfl, hb4⟩
        have HR4 := hid (HR.out.2.2.below hb4)
        clear hb4 HR
        go_wp2_with fail
        refine (J.count_JG w d s' w1.heap.size (1 + (p : Int)) 0 120 L w4 HR4.out L.length rfl).mono ?_
        rintro e w5 ⟨rfl, rfl⟩
        go_wp2_with fail
        refine (known_any w5).mono ?_
        rintro e w6 ⟨rfl, hb6⟩
        have HB6 := hid (HR4.out.disk.bel.trans (hb6.mono HR4.out.disk.bel.size))
        clear hb6
        go_wp2
        go_ret
        exact ⟨rfl, HB6.out⟩
    · have hlt0 : ¬ (k : Int) < (l0.length : Int) := by omega
      have hLl : L.length ≤ 100000 := by have := HI.out.1.len; omega
      go_wp2_with fail
      refine (J.scan_JG w d s' w1.heap.size (1 + (p : Int)) 0 120 L wr HI.out.1 (by omega) (by omega) L.length rfl).mono ?_
      rintro e w3 ⟨A3, c3, rfl, h3⟩
      have HR := hid (And.intro h3.out.1.reads (And.intro ((HI.out.2.2.1.below h3.out.2 HI.out.1.disk.bel.size).reads (by have := HI.out.1.disk.bel.size; have := h3.out.2.size; omega)) (HI.out.1.below h3.out.2)))
      clear h3
      go_wp2_with fail
      refine (rows_T A3 AW c3 cW L L.length rfl hLl w3 HR.out.1 HR.out.2.1).mono ?_
      rintro e w4 ⟨rfl, hb4⟩
      have HR4 := hid (HR.out.2.2.below hb4)
      clear hb4 HR
      go_wp2_with fail
      refine (J.count_JG w d s' w1.heap.size (1 + (p : Int)) 0 120 L w4 HR4.out L.length rfl).mono ?_
      rintro e w5 ⟨rfl, rfl⟩
      go_wp2_with fail
      refine (known_any w5).mono ?_
      rintro e w6 ⟨rfl, hb6⟩
      have HB6 := hid (HR4.out.disk.bel.trans (hb6.mono HR4.out.disk.bel.size))
      clear hb6
      go_wp2
      go_ret
      exact ⟨rfl, HB6.out⟩

set_option maxRecDepth 100000 in
theorem lifted (os : Os) (started : os.Started) (H : Type) (enc : TypeId × Value → H) :
    ReturnsInHanded {} Try.checked os 4 .any (Rows.journalSizesSpec.pre6 enc Try.prog Try.f4 Rows.journalSizesRow.domain false) (Rows.journalSizesSpec.post enc Try.prog Try.f4 false true false false) := by
  refine returnsInHanded_of_change_sized (C := Try.checked) own started (by kernel_rfl) Try.func4
    (ChangeSpec.witness6 (enc := enc) (C := Try.checked) false ⟨#[], #[.slice none 0 0, .int .i64 0], []⟩ 8 (by kernel_rfl) (by kernel_rfl) (by kernel_rfl) (by kernel_rfl)) ?_
  intro W base args ds gs before hval0 hW hcnd hsz0 _
  have hsz : (DataW.weightsEach Try.prog (Try.f4.params.toList ++ Rows.journalSizesSpec.plain.varTypes Try.prog) (ds ++ gs)).all (· ≤ reachBytes) = true := hsz0
  clear hsz0
  have hval : ∀ (j : Nat) t v, Try.f4.params[j]? = some t → args[j]? = some v → Value.okWide Try.prog W .any base t v := hval0
  have hW' := hW
  obtain ⟨p, q, hA0, hV, rfl, hfz, hnd⟩ := hW
  have hA : DataW.TrodAll enc Try.prog W 0 (fun _ => true) true Try.f4.params.toList args.toList ds p := hA0
  rw [Try.params4] at hA hval hsz
  obtain ⟨v0, vs0, d0, ds0, p0, q0, hargs, rfl, rfl, g0, t0⟩ := trodAll_cons hA
  obtain ⟨v1, vs1, d1, ds1, p1, q1, rfl, rfl, rfl, g1, t1⟩ := trodAll_cons t0
  obtain ⟨rfl, rfl, rfl⟩ := trodAll_nil t1
  obtain rfl : args = #[v0, v1] := by cases args; simp_all
  obtain ⟨rfl, rfl⟩ := trodVars_none hV
  obtain ⟨a0, len0, cap0, rfl⟩ := okWide_slice Try.underlying27 (hval 0 27 v0 rfl rfl)
  have m0 := g0
  have lt0 : ∀ x ∈ p0, x.block < W.heap.size := by obtain ⟨m, hm⟩ := m0; exact DataW.trod_lt m _ _ _ hm
  obtain ⟨l0, k0, rfl, n0, r0, z0⟩ : ∃ l, IsRowsIn W W.heap.size a0 l ∧ len0 = l.length ∧ l.length ≤ cap0 ∧ cap0 ≤ maxLen ∧ (a0 = none → cap0 = 0) := by
    obtain ⟨fuel, hf⟩ := g0
    obtain ⟨a, c, ts, hcs, h1, h2, h3⟩ := rows_of_trod hf
    simp [Value.cells] at hcs
    obtain ⟨rfl, rfl, rfl⟩ := hcs
    exact ⟨ts, h1, rfl, h2.1, h2.2, h3⟩
  obtain ⟨a1, rfl, rfl, rfl, w1⟩ := open_int Try.underlying3 (hval 1 3 v1 rfl rfl) g1
  have b1 := bounds_i64 w1
  clear hA0 hval0
  refine (walk a0 cap0 l0 a1 W k0 n0 r0 z0 b1).mono fun e W' ⟨he, bel⟩ => ?_
  subst he
  exact ⟨_, rfl, _, _, _, [], _, [], hW', trodAll_mk1 (shut_bool Try.underlying4 _), (trodAll_cons_mk (Below.trod laidOut (by kernel_rfl) (of_decide_eq_true (by kernel_rfl)) m0 bel lt0) (trodAll_cons_mk (shut_int Try.underlying3 w1) trodAll_mk0)), rfl, bel.frame _, fun h => by cases h⟩

theorem over : Rows.journalSizesRow.holds Try.pinned (OpenSpec.ofChange Rows.journalSizesSpec) :=
  OpenClaim.holds_of_wide 4 Try.f4 rfl rfl rfl rfl rfl rfl rfl ⟨rfl, rfl, rfl, rfl, rfl⟩ rfl rfl rfl rfl rfl (by kernel_rfl) Try.func4 (by kernel_rfl)
    (of_decide_eq_true (by kernel_rfl)) (by unfold Func.isWrapper; first | (rw [if_pos (by decide +kernel)]; kernel_rfl) | (rw [if_neg (by decide +kernel)]; exact ⟨rfl, rfl⟩))
    (fun os started H enc _ => lifted os started H enc)

theorem proved : Rows.JournalSizesSaid := over
end Go.Proofs.Ytomnbaeokmpobaa.journalSizes
