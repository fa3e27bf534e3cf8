/- Any bytes are read, thing by thing, as the document says; what is told is new memory; what is handed in may be written over meanwhile. Conditions: none. -/
import Derived.Test.YtdmghnfnmgkigaaRows
import Derived.Test.YtdmghnfnmgkigaaWorks02
import Derived.Test.YtdmghnfnmgkigaaBoth
import Derived.Deep.CutRange
import Derived.Deep.RegionWith
import Derived.WalkKit
import Derived.WalkLawsBesides
import Derived.ProofKit
import Derived.OpenShut
import Derived.ShutString
import Derived.ChangeOld
import Derived.Below
import Derived.SizedLaws
namespace Go.Proofs.Ytdmghnfnmgkigaa.packReads
open Go.ChangeShapes Go.WideShapes Go.ChangeAt Go.RowKit
open Go.ChangeMaps (open_string shut_string)
set_option linter.unusedVariables false

theorem own : ownKnob Try.prog.godebug = none := by kernel_rfl
theorem laidOut : laidOutB Try.prog = true := by kernel_rfl
theorem bytesOf : Try.prog.bytesOf 5 = 1 := by kernel_rfl
theorem bytesOfI : Try.prog.bytesOf 3 = 8 := by kernel_rfl

theorem leftS_rdr (g : Nat) (B : List Nat) (a : Nat) (b : Bool) (w : World) (h : Rdr w g (stOf B a b)) :
    Calls Try.prog 25 #[.pointer (some ⟨g, 0, none⟩)] w fun e w' => e = .returned (.int .i64 ((leftOf B a b).length : Nat)) ∧ w = w' := left_rdr g _ w h
theorem badS_rdr (g : Nat) (B : List Nat) (a : Nat) (b : Bool) (w : World) (h : Rdr w g (stOf B a b)) :
    Calls Try.prog 27 #[.pointer (some ⟨g, 0, none⟩)] w fun e w' => e = .returned (.bool b) ∧ w = w' := bad_rdr g _ w h
theorem refEndS_any (g top : Nat) (B : List Nat) (at' : Nat) (bad : Bool) (w : World) (h : RefR w g top B at' bad) :
    Calls Try.prog 29 #[.pointer (some ⟨g, 0, none⟩)] w fun e w' => e = .returned (.int .i64 (endOf (stOf B at' bad))) ∧ ∃ n, w' = w.drewN n := refEnd_any g top B at' bad w h
theorem badCell {w : World} {g top : Nat} {B : List Nat} {a : Nat} {b : Bool} (h : RefR w g top B a b) : w.cell? ⟨g, 2, none⟩ = some (.bool b) := by
  obtain ⟨_, _, _, _, h2, _⟩ := h.cells
  exact h2
/-- what holds at each round -/
def Side (g gx top : Nat) (B : List Nat) (w0 w : World) : Prop := ∃ a2 b2, Rdr w g (stOf B a2 b2) ∧ RefR w gx top B a2 b2 ∧ Below w0.heap.size w0 w

set_option maxHeartbeats 3200000 in
theorem core (a0 : Option Addr) (cap0 : Nat) (l0 : List Nat) (a1 : Option Addr) (cap1 : Nat) (l1 : List Int) (w : World)
    (k0 : IsBytes w w.heap.size a0 l0) (n0 : l0.length ≤ cap0) (z0 : a0 = none → cap0 = 0)
    (k1 : IsInts w w.heap.size a1 l1) (n1 : l1.length ≤ cap1) (z1 : a1 = none → cap1 = 0) :
    Calls Try.prog 4 #[.slice a0 l0.length cap0, .slice a1 l1.length cap1] w fun e w' => e = .returned (.bool true) ∧ Below w.heap.size w w' := by
  by_cases h0 : 16384 < l0.length
  · go_enter Try.func4, Try.ntmps4
    go_wp2_with fail
    refine (works_any _).mono ?_
    rintro e w1 ⟨rfl, hbel⟩
    go_wp2_with fail
    go_ret
    exact ⟨rfl, hbel⟩
  · by_cases h1 : 200 < l1.length
    · go_enter Try.func4, Try.ntmps4
      go_wp2_with fail
      refine (works_any _).mono ?_
      rintro e w1 ⟨rfl, hbel⟩
      go_wp2_with fail
      go_ret
      exact ⟨rfl, hbel⟩
    · go_enter Try.func4, Try.ntmps4
      go_wp2_with fail
      refine (lent_any w.heap.size a0 cap0 l0 (by omega) _ k0 (Nat.le_refl _)).mono ?_
      rintro e w1 ⟨gc, cx, rfl, hx, hb1⟩
      have hcx := hx.cap
      rw [lent_length] at hcx
      have hcx' : l0.length ≤ cx := by omega
      have hin : IsBytes w1 w1.heap.size (some ⟨gc, 0, none⟩) l0 := by have := hx.reads.take l0.length; rwa [take_lent] at this
      have HF := hid (read_keep w1.heap.size (some ⟨gc, 0, none⟩) cx l0 (by omega) w1 hin (Nat.le_refl _) (fun h => by cases h))
      clear hin
      go_wp2_with fail
      refine HF.out.mono ?_
      rintro e w2 ⟨g, rfl, hg, hR, hb2⟩
      have HR := hid hR
      have hb2w := hb1.trans (hb2.mono hb1.size)
      have hx2 := hx.below hb2
      have hsz1 := hb1.size
      have hsz2 := hb2.size
      have hgw : g < w2.heap.size := (hR w2 none (grown_refl _ _) (fun k hk => by cases hk)).lt
      have hq := hx.blkLt
      clear hR hx
      go_wp2_with fail
      refine (refRead_any w.heap.size a0 cap0 l0 (by omega) _ (k0.below hb2w) hb2w.size).mono ?_
      rintro e w3 ⟨rfl, hX, hb3⟩
      have hx3 := hx2.below hb3
      have hb3w := hb2w.trans (hb3.mono hb2w.size)
      clear hx2 hb1
      go_wp2_with fail
      refine (kept_any _ _ gc a0 _ _ l0 (by omega) hcx _ hx3.reads (k0.below hb3w)).mono ?_
      rintro e w4 ⟨rfl, n4, rfl⟩
      have HSP := hid (spoil_N w.heap.size (some ⟨gc, 0, none⟩) cx (lent l0) (l0.length + 5) (lent_length l0) (by unfold maxLen; omega) _ (hx3.drewN n4))
      clear hx3
      go_wp2_with fail
      refine HSP.out.mono ?_
      rintro e w5 ⟨rfl, hG5⟩
      have hgc := hq gc rfl
      have hgb3 : w2.grownBy w3 none := grown_below hb3 none
      have hG25 : w2.grownBy w5 (some gc) := grown_trans (grown_trans (grown_drewN (grown_below hb3 (some gc)) n4) (show (w3.drewN n4).grownBy w5 (some gc) from hG5) (fun k hk _ => hk)) (grown_refl _ (some gc)) (fun k hk _ => hk)
      have hR5 : Rdr w5 g ⟨l0, false⟩ := HR.out w5 (some gc) hG25 (fun k hk => by injection hk with hk; omega)
      have hX5 : RefR w5 w2.heap.size w3.heap.size l0 0 false := (hX.drewN n4).other (show (w3.drewN n4).grownBy w5 (some gc) from hG5) (fun k hk => by injection hk with hk; omega)
      have hb5 : Below w.heap.size w w5 := (below_drewN hb3w n4).grown (show (w3.drewN n4).grownBy w5 (some gc) from hG5) (by show w.heap.size ≤ w3.heap.size; exact hb3w.size) (fun k hk => by injection hk with hk; omega)
      have HS : Hid (Side g w2.heap.size w3.heap.size l0 w w5) := ⟨0, false, hR5, hX5, hb5⟩
      have hwg : w.heap.size ≤ g := by omega
      clear hG5 hG25 hR5 hX5 hb5 hX hb3 hb3w hb2 hb2w HR HF HSP hq hgb3 hgc
      go_wp2_with fail
      go_loopw [8] (fun i wr => ∃ k : Nat, k ≤ l1.length ∧ i = .int .i64 k ∧ Hid (Side g w2.heap.size w3.heap.size l0 w wr)) (fun i _ => l1.length - (intOf i).toNat)
      case atStart => exact ⟨0, by omega, rfl, HS⟩
      case round =>
        clear HS
        obtain ⟨k, hk, rfl, hS⟩ := hrel
        obtain ⟨a2, b2, hR, hX, hb⟩ := hS.out
        by_cases hlt : k < l1.length
        · obtain ⟨b, off, rfl, _, hc⟩ := (k1.below hb).cells k hlt
          have hck := hc k hlt
          have hv := k1.small l1[k] (List.getElem_mem _)
          have HB := hid (both_any g w2.heap.size w3.heap.size l0 a2 b2 l1[k] hv hgw wr.drew (hR.drewN 1) (hX.drewN 1))
          have hk0 : (k : Int) < (l1.length : Int) := by omega
          have hk00 : 0 ≤ (k : Int) := by omega
          have HBW := hid hb
          clear hc hR hX hv hb
          go_upto_region 12 with fail
          go_cut [73] from 37 to 73 (fun c wx => c = .bool false ∧ Hid (Side g w2.heap.size w3.heap.size l0 w wx))
          case first =>
            go_region_with (first
              | (go_at_call 24; refine HB.out.mono ?_; rintro e w6 ⟨rfl, a3, b3, hR6, hX6, hb6⟩; have hbad6 := badCell hX6)
              | (go_at_call 25; refine (leftS_rdr g l0 a3 b3 _ (by first | exact hR6 | exact hR6.drewN _)).mono ?_; rintro e w7 ⟨rfl, rfl⟩)
              | (go_at_call 26; refine (refLeft_any _ _ l0 a3 b3 _ (by first | exact hX6 | exact hX6.drewN _)).mono ?_; rintro e w7 ⟨rfl, n7, rfl⟩)
              | (go_at_call 27; refine (badS_rdr g l0 a3 b3 _ (by first | exact hR6 | exact hR6.drewN _)).mono ?_; rintro e w7 ⟨rfl, rfl⟩)
              | (go_at_call 28; refine (end_rdr g (stOf l0 a3 b3) _ (by first | exact hR6 | exact hR6.drewN _)).mono ?_; rintro e w7 ⟨rfl, rfl⟩)
              | (go_at_call 29; refine (refEndS_any _ _ l0 a3 b3 _ (by first | exact hX6 | exact hX6.drewN _)).mono ?_; rintro e w8 ⟨rfl, n8, rfl⟩))
            all_goals
              (go_wp2_with fail
               go_meet
               exact ⟨rfl, a3, b3, by first | exact hR6 | exact hR6.drewN _ | exact (hR6.drewN _).drewN _, by first | exact hX6 | exact hX6.drewN _ | exact (hX6.drewN _).drewN _, by first | exact (HBW.out.drew).trans (hb6.mono hwg) | exact below_drewN ((HBW.out.drew).trans (hb6.mono hwg)) _ | exact below_drewN (below_drewN ((HBW.out.drew).trans (hb6.mono hwg)) _) _⟩)
          case rest =>
            obtain ⟨rfl, hS⟩ := hcut
            go_wp2_with fail
            go_roundw
            case rel => exact ⟨k + 1, by omega, by go_num, hS⟩
            case measure => simp [intOf] <;> omega
        · obtain rfl : k = l1.length := by omega
          have hbad := badCell hX
          have HBW := hid hb
          clear hlt hk hb
          go_wp2_with fail
          refine (leftS_rdr g l0 a2 b2 _ hR).mono ?_
          rintro e w6 ⟨rfl, rfl⟩
          go_wp2_with fail
          refine (refLeft_any _ _ l0 a2 b2 _ hX).mono ?_
          rintro e w7 ⟨rfl, n7, rfl⟩
          go_wp2_with fail
          refine (end_rdr g (stOf l0 a2 b2) _ (hR.drewN n7)).mono ?_
          rintro e w8 ⟨rfl, rfl⟩
          go_wp2_with fail
          refine (refEndS_any _ _ l0 a2 b2 _ (hX.drewN n7)).mono ?_
          rintro e w9 ⟨rfl, n9, rfl⟩
          go_wp2_with fail
          refine (works_any _).mono ?_
          rintro e w10 ⟨rfl, hb10⟩
          go_wp2_with fail
          go_ret
          exact ⟨rfl, (below_drewN HBW.out (n7 + n9)).trans (hb10.mono (by have := HBW.out.size; simpa using this))⟩
theorem walk (a0 : Option Addr) (cap0 : Nat) (l0 : List Nat) (a1 : Option Addr) (cap1 : Nat) (l1 : List Int) (w : World)
    (k0 : IsBytes w w.heap.size a0 l0) (n0 : l0.length ≤ cap0) (r0 : cap0 ≤ 140737488351232) (z0 : a0 = none → cap0 = 0)
    (k1 : IsInts w w.heap.size a1 l1) (n1 : l1.length ≤ cap1) (r1 : cap1 * 8 ≤ 140737488351232) (z1 : a1 = none → cap1 = 0) :
    Calls Try.prog 4 #[.slice a0 l0.length cap0, .slice a1 l1.length cap1] w fun e w' => e = .returned (.bool true) ∧ Below w.heap.size w w' :=
  core a0 cap0 l0 a1 cap1 l1 w k0 n0 z0 k1 n1 z1

set_option maxRecDepth 100000 in
theorem lifted (os : Os) (started : os.Started) (H : Type) (enc : TypeId × Value → H) :
    ReturnsInHanded {} Try.checked os 4 .any (Rows.packReadsSpec.pre6 enc Try.prog Try.f4 Rows.packReadsRow.domain false) (Rows.packReadsSpec.post enc Try.prog Try.f4 false true false false) := by
  refine returnsInHanded_of_change_sized (C := Try.checked) own started (by kernel_rfl) Try.func4
    (ChangeSpec.witness6 (enc := enc) (C := Try.checked) false ⟨#[], #[.slice none 0 0, .slice none 0 0], []⟩ 8 (by kernel_rfl) (by kernel_rfl) (by kernel_rfl) (by kernel_rfl)) ?_
  intro W base args ds gs before hval0 hW hcnd hsz0 _
  have hsz : (DataW.weightsEach Try.prog (Try.f4.params.toList ++ Rows.packReadsSpec.plain.varTypes Try.prog) (ds ++ gs)).all (· ≤ reachBytes) = true := hsz0
  clear hsz0
  have hval : ∀ (j : Nat) t v, Try.f4.params[j]? = some t → args[j]? = some v → Value.okWide Try.prog W .any base t v := hval0
  have hW' := hW
  obtain ⟨p, q, hA0, hV, rfl, hfz, hnd⟩ := hW
  have hA : DataW.TrodAll enc Try.prog W 0 (fun _ => true) true Try.f4.params.toList args.toList ds p := hA0
  rw [Try.params4] at hA hval hsz
  obtain ⟨v0, vs0, d0, ds0, p0, q0, hargs, rfl, rfl, g0, t0⟩ := trodAll_cons hA
  obtain ⟨v1, vs1, d1, ds1, p1, q1, rfl, rfl, rfl, g1, t1⟩ := trodAll_cons t0
  obtain ⟨rfl, rfl, rfl⟩ := trodAll_nil t1
  obtain rfl : args = #[v0, v1] := by cases args; simp_all
  obtain ⟨rfl, rfl⟩ := trodVars_none hV
  obtain ⟨a0, len0, cap0, rfl⟩ := okWide_slice Try.underlying22 (hval 0 22 v0 rfl rfl)
  have m0 := g0
  have lt0 : ∀ x ∈ p0, x.block < W.heap.size := by obtain ⟨m, hm⟩ := m0; exact DataW.trod_lt m _ _ _ hm
  obtain ⟨l0, k0, rfl, n0, r0, z0⟩ : ∃ l, IsBytes W W.heap.size a0 l ∧ len0 = l.length ∧ l.length ≤ cap0 ∧ cap0 ≤ 140737488351232 ∧ (a0 = none → cap0 = 0) := by
    obtain ⟨fuel, hf⟩ := g0
    rcases open_ints Try.underlying22 Try.underlying5 (by kernel_rfl) hf with ⟨hcs, _⟩ | ⟨x, l, c, zs, hcs, _, hl, hm, hz, hx, hcell, hwz⟩
    · simp [Value.cells] at hcs
      obtain ⟨rfl, rfl, rfl⟩ := hcs
      exact ⟨[], IsBytes.nil, rfl, by simp, by omega, fun _ => rfl⟩
    · simp [Value.cells] at hcs
      obtain ⟨rfl, rfl, rfl⟩ := hcs
      simp only [Prod.mk.injEq] at hx
      obtain ⟨rfl, rfl⟩ := hx
      simp only [if_true] at hz
      have hr := sized_slice hsz (j := 0) (t := 22) (e := 5) rfl rfl Try.underlying22
      rw [bytesOf] at hr
      simp only [lits, List.length_map, List.length_take, List.length_drop, reachBytes] at hr
      obtain ⟨l, h1, h2⟩ := isBytes_of_ints hl hz hcell hwz
      exact ⟨l, h1, h2, by omega, by omega, fun h => by cases h⟩
  obtain ⟨a1, len1, cap1, rfl⟩ := okWide_slice Try.underlying23 (hval 1 23 v1 rfl rfl)
  have m1 := g1
  have lt1 : ∀ x ∈ p1, x.block < W.heap.size := by obtain ⟨m, hm⟩ := m1; exact DataW.trod_lt m _ _ _ hm
  obtain ⟨l1, k1, rfl, n1, r1, z1⟩ : ∃ l, IsInts W W.heap.size a1 l ∧ len1 = l.length ∧ l.length ≤ cap1 ∧ cap1 * 8 ≤ 140737488351232 ∧ (a1 = none → cap1 = 0) := by
    obtain ⟨fuel, hf⟩ := g1
    rcases open_ints Try.underlying23 Try.underlying3 (by kernel_rfl) hf with ⟨hcs, _⟩ | ⟨x, l, c, zs, hcs, _, hl, hm, hz, hx, hcell, hwz⟩
    · simp [Value.cells] at hcs
      obtain ⟨rfl, rfl, rfl⟩ := hcs
      exact ⟨[], IsInts.nil, rfl, by simp, by omega, fun _ => rfl⟩
    · simp [Value.cells] at hcs
      obtain ⟨rfl, rfl, rfl⟩ := hcs
      simp only [Prod.mk.injEq] at hx
      obtain ⟨rfl, rfl⟩ := hx
      simp only [if_true] at hz
      have hr := sized_slice hsz (j := 1) (t := 23) (e := 3) rfl rfl Try.underlying23
      rw [bytesOfI] at hr
      simp only [lits, List.length_map, List.length_take, List.length_drop, reachBytes] at hr
      obtain ⟨l, h1, h2⟩ := isInts_of_ints hl hz hcell hwz
      exact ⟨l, h1, h2, by omega, by omega, fun h => by cases h⟩
  clear hA0 hval0
  refine (walk a0 cap0 l0 a1 cap1 l1 W k0 n0 r0 z0 k1 n1 r1 z1).mono fun e W' ⟨he, bel⟩ => ?_
  subst he
  exact ⟨_, rfl, _, _, _, [], _, [], hW', trodAll_mk1 (shut_bool Try.underlying4 _), (trodAll_cons_mk (Below.trod laidOut (by kernel_rfl) (of_decide_eq_true (by kernel_rfl)) m0 bel lt0) (trodAll_cons_mk (Below.trod laidOut (by kernel_rfl) (of_decide_eq_true (by kernel_rfl)) m1 bel lt1) trodAll_mk0)), rfl, bel.frame _, fun h => by cases h⟩

theorem over : Rows.packReadsRow.holds Try.pinned (OpenSpec.ofChange Rows.packReadsSpec) :=
  OpenClaim.holds_of_wide 4 Try.f4 rfl rfl rfl rfl rfl rfl rfl ⟨rfl, rfl, rfl, rfl, rfl⟩ rfl rfl rfl rfl rfl (by kernel_rfl) Try.func4 (by kernel_rfl)
    (of_decide_eq_true (by kernel_rfl)) (by unfold Func.isWrapper; first | (rw [if_pos (by decide +kernel)]; kernel_rfl) | (rw [if_neg (by decide +kernel)]; exact ⟨rfl, rfl⟩))
    (fun os started H enc _ => lifted os started H enc)

theorem proved : Rows.PackReadsSaid := over
end Go.Proofs.Ytdmghnfnmgkigaa.packReads
