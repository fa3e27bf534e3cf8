/- Whatever list, and whatever is drawn: each draw is that of the document, and so is how many were drawn; the list stays, and what becomes of it makes no difference. Conditions: none. -/
import Derived.Test.YtceecckipeeigaaRows
import Derived.Test.YtceecckipeeigaaKitInts
import Derived.Test.YtceecckipeeigaaSpoil
import Derived.Test.YtceecckipeeigaaDraws
import Derived.Test.YtceecckipeeigaaRefDraws
import Derived.Deep.RegionHeld3
import Derived.Deep.RegionWith
import Derived.WalkKit
import Derived.WalkLawsBesides
import Derived.ProofKit
import Derived.OpenShut
import Derived.ShutString
import Derived.ChangeOld
import Derived.Below
import Derived.SizedLaws
namespace Go.Proofs.Ytceecckipeeigaa.drawsTell
open Go.ChangeShapes Go.WideShapes Go.ChangeAt Go.RowKit
open Go.ChangeMaps (open_string shut_string)
set_option linter.unusedVariables false

theorem own : ownKnob Try.prog.godebug = none := by kernel_rfl
theorem laidOut : laidOutB Try.prog = true := by kernel_rfl
theorem bytesOfI : Try.prog.bytesOf 3 = 8 := by kernel_rfl

theorem OwnsI.grownN {e : TypeId} {w w' : World} {base c g : Nat} {l : List Int} {row : Option Nat} (h : OwnsI e w base (some ⟨g, 0, none⟩) c l) (hg : w.grownBy w' row) (hne : row ≠ some g) : OwnsI e w' base (some ⟨g, 0, none⟩) c l :=
  ⟨h.small, h.row.kept hg (.inr fun e => hne e.symm)⟩
theorem cell_at {w : World} {B k : Nat} {A : Option Addr} {l : List Int} {b off : Nat} (h : IsInts w B A l) (hA : A = some ⟨b, off, none⟩) (hk : k < l.length) : w.cell? ⟨b, off + k, none⟩ = some (.int .i64 l[k]) := by
  obtain ⟨b', off', e, _, hc⟩ := h.cells k hk
  rw [hA] at e
  injection e with e
  injection e with e1 e2
  subst e1
  subst e2
  exact hc k hk

/-- the load of the count that the document's draws have: no world yields the same behind the last call, so it is not to be taken first -/
def loadN : Op := Op.load 3 (Operand.tmp 39)

set_option maxRecDepth 100000 in
set_option maxHeartbeats 1600000 in
open Go.Proofs.Ytceecckipeeigaa.Dw in
theorem core (a0 : Option Addr) (cap0 : Nat) (l0 : List Int) (a1 : Option Addr) (cap1 : Nat) (l1 : List Int) (w : World)
    (k0 : IsInts w w.heap.size a0 l0) (n0 : l0.length ≤ cap0) (r0 : l0.length * 8 ≤ 140737488351232) (z0 : a0 = none → cap0 = 0)
    (k1 : IsInts w w.heap.size a1 l1) (n1 : l1.length ≤ cap1) (r1 : l1.length ≤ 140737488351232) :
    Calls Try.prog 3 #[.slice a0 l0.length cap0, .slice a1 l1.length cap1] w fun e w' => e = .returned (.bool true) ∧ Below w.heap.size w w' := by
  go_enter Try.func3, Try.ntmps3
  go_wp2_with fail
  refine (I.lent_any w.heap.size a0 cap0 l0 (by omega) _ k0 (Nat.le_refl _)).mono ?_
  rintro e w1 ⟨gx, cx, rfl, hx, hb1⟩
  have hcx := hx.cap
  rw [I.lent_length] at hcx
  have hcx' : l0.length ≤ cx := by omega
  have hx1 : IsInts w1 w1.heap.size (some ⟨gx, 0, none⟩) (I.lent l0) := hx.reads
  have hx1' : IsInts w1 w1.heap.size (some ⟨gx, 0, none⟩) l0 := by have := hx1.take l0.length; rwa [I.take_lent] at this
  have hz1 := hb1.size
  have hgx := hx.blkLt gx rfl
  go_wp2_with fail
  refine (new_any w1.heap.size (some ⟨gx, 0, none⟩) cx l0 (by omega) w1 hx1' (Nat.le_refl _) (fun h => by cases h)).mono ?_
  rintro e w2 ⟨g, rfl, hd2, hb2, hs2, hs2'⟩
  have hx2 := hx.below hb2
  have hxr2 := hx1.below hb2
  have hb02 := hb1.trans (hb2.mono hz1)
  have k02 := k0.below hb02
  clear hx hx1 hx1' hb1 hb2
  go_wp2_with fail
  refine (I.kept_any _ _ gx a0 _ cap0 l0 (by omega) hcx _ hxr2 k02).mono ?_
  rintro e w2' ⟨rfl, q2, rfl⟩
  have hd2' := hd2.drewN q2
  have hx2' := hx2.drewN q2
  have hb02' := below_drewN hb02 q2
  have hs2'' : (w2.drewN q2).heap.size = g + 1 := hs2'
  clear hd2 hx2 hb02 hs2' hxr2 k02
  generalize w2.drewN q2 = w2' at hd2' hx2' hb02' hs2''
  go_wp2_with fail
  refine (spoilI_N w.heap.size _ cx (I.lent l0) _ (I.lent_length l0) (by unfold maxLen; omega) _ hx2').mono ?_
  rintro e w3 ⟨rfl, hG3⟩
  have hG3' : w2'.grownBy w3 (some gx) := hG3
  have hd3 := hd2'.grown hG3' (by omega) (.inl (by omega))
  have hb3 := hb02'.trans (below_grown hG3' hb02'.size (fun k e => by injection e; omega))
  have hs3 : g + 1 ≤ w3.heap.size := by have := hG3'.size; omega
  clear hG3 hG3' hd2' hb02' hx2'
  have k03 := k0.below hb3
  have hm4 : At (w3.alloc (.cells #[.slice a0 l0.length cap0, .int .i64 0] 30)) 30 0 w.heap.size w3.heap.size l0 0 :=
    ⟨hb3.size, k0.small, by unfold maxLen; omega, a0, cap0, heap_alloc_new w3 _, fun k hk => by
      obtain ⟨b, off, e, hb, hc⟩ := (k03.below ((Below.refl w3.heap.size w3).alloc (Nat.le_refl _) _ |>.mono hb3.size)).cells k hk
      exact ⟨b, off, e, Nat.zero_le _, hb, hc⟩⟩
  have hd4 := hd3.below hd3.lt ((Below.refl w3.heap.size w3).alloc (Nat.le_refl _) (.cells #[.slice a0 l0.length cap0, .int .i64 0] 30))
  have hb4 := hb3.alloc hb3.size (.cells #[.slice a0 l0.length cap0, .int .i64 0] 30)
  have hz3 := hb3.size
  have H4 := hid (And.intro hd4 (And.intro hm4 hb4))
  clear hd3 hb3 k03 hm4 hd4 hb4
  go_wp2_with fail
  go_loopw [8] (fun i wr => ∃ k : Nat, k ≤ l1.length ∧ i = .int .i64 k ∧ At wr 37 w1.heap.size g g l0 k ∧ At wr 30 0 w.heap.size w3.heap.size l0 k ∧ Below w.heap.size w wr) (fun i _ => l1.length - (intOf i).toNat)
  case atStart => exact ⟨0, by omega, rfl, H4.out.1, H4.out.2.1, H4.out.2.2⟩
  case round =>
    clear H4
    obtain ⟨k, hk, rfl, hd, hm, hb⟩ := hrel
    by_cases hlt : k < l1.length
    · have hk1 := k1.below hb
      obtain ⟨b, off, rfl, hbk, hc⟩ := hk1.cells k hlt
      have hin := hk1.small l1[k] (List.getElem_mem _)
      obtain ⟨x, hx⟩ : ∃ x, l1[k] = x := ⟨_, rfl⟩
      rw [hx] at hin
      have hck : wr.cell? ⟨b, off + k, none⟩ = some (.int .i64 x) := by rw [← hx]; exact hc k hlt
      obtain ⟨A, c, hrow, _⟩ := hm.at_
      have hmc : wr.cell? ⟨w3.heap.size, 1, none⟩ = some (.int .i64 k) := row_cell hrow 1
      have hlt' : (k : Int) < (l1.length : Int) := by omega
      have HK := hid k1
      clear hc hrow hk1 k1
      have HC := hid (count_any w1.heap.size g g l0 k wr.drew hd.drew)
      have HX : Hid (Calls Try.prog 11 #[.pointer (some ⟨g, 0, none⟩), .int .i64 x] wr.drew fun e w' => e = .returned (.int .i64 (md x (nx l0 k))) ∧ At w' 37 w1.heap.size g g l0 (k + 1) ∧ At w' 30 0 w.heap.size w3.heap.size l0 k ∧ Below w.heap.size w w' ∧ w'.cell? ⟨b, off + k, none⟩ = some (.int .i64 x)) := hid ((next_any w1.heap.size g g l0 k (by omega) x hin wr.drew hd.drew).mono (by
        rintro e w6 ⟨rfl, hd6, hG6⟩
        have hG6' : wr.grownBy w6 (some g) := ⟨hG6.os, hG6.tape, hG6.output, hG6.size, hG6.block⟩
        have hB6 : Below w.heap.size wr w6 := below_grown hG6' hb.size (fun k e => by injection e; omega)
        exact ⟨rfl, hd6, hm.grown hG6' (by omega) (.inr (by omega)), hb.trans hB6, (hB6.cell hbk).trans hck⟩))
      have HM : Hid (∀ w6, At w6 30 0 w.heap.size w3.heap.size l0 k → At w6 37 w1.heap.size g g l0 (k + 1) → Below w.heap.size w w6 → Calls Try.prog 12 #[.pointer (some ⟨w3.heap.size, 0, none⟩), .int .i64 x] w6 fun e w' => e = .returned (.int .i64 (md x (nx l0 k))) ∧ At w' 37 w1.heap.size g g l0 (k + 1) ∧ At w' 30 0 w.heap.size w3.heap.size l0 (k + 1) ∧ Below w.heap.size w w') := hid (fun w6 hm6 hd6 hb6 => (refNext_any 0 w.heap.size w3.heap.size l0 k (by omega) x hin w6 hm6).mono (by
        rintro e w7 ⟨rfl, hm7, hG7⟩
        exact ⟨rfl, hd6.grown hG7 (by omega) (.inr (by omega)), hm7, hb6.trans (below_grown hG7 hb6.size (fun k e => by injection e; omega))⟩))
      have HS : Hid (∀ w', Below w.heap.size w w' → w'.cell? ⟨b, off + k, none⟩ = some (.int .i64 x)) := hid (fun w' hb' => by
        rw [← hx]; exact cell_at (HK.out.below hb') rfl hlt)
      have hckW : wr.drew.cell? ⟨b, off + k, none⟩ = some (.int .i64 x) := hck
      have hmcW : wr.drew.cell? ⟨w3.heap.size, 1, none⟩ = some (.int .i64 k) := hmc
      clear hd hm hb hin HK hx hlt k0
      go_wp2_with fail
      have hopL : loadN = Op.load 3 (Operand.tmp 39) := rfl
      rw [← hopL]
      go_region_held3 (fun w' => w'.cell? ⟨b, off + k, none⟩ = some (.int .i64 x))
        (first | exact HS.out _ hb7 | exact hck6 | exact hckW)
        (first
          | (go_at_call 12; refine (HM.out _ hm6 hd6 hb6).mono ?_; rintro e w7 ⟨rfl, hd7, hm7, hb7⟩)
          | (go_at_call 11; refine HX.out.mono ?_; rintro e w6 ⟨rfl, hd6, hm6, hb6, hck6⟩)
          | (go_at_call 10; refine HC.out.mono ?_; rintro e w5 ⟨rfl, rfl⟩))
      all_goals
        have HF := hid (And.intro hd7 (And.intro hm7 hb7))
        clear hopL hck hmc hckW hmcW hck6 hd6 hm6 hb6 hd7 hm7 hb7 HC HX HM HS
        go_wp2_with fail
        go_roundw
        case rel => exact ⟨k + 1, by omega, by go_num, HF.out.1, HF.out.2.1, HF.out.2.2⟩
        case measure => simp [RowKit.intOf]; omega
    · obtain rfl : k = l1.length := by omega
      go_wp2_with fail
      refine (count_any _ _ _ _ _ _ hd).mono ?_
      rintro e w5 ⟨rfl, rfl⟩
      go_wp2_with fail
      go_ret
      exact ⟨rfl, hb⟩

theorem walk (a0 : Option Addr) (cap0 : Nat) (l0 : List Int) (a1 : Option Addr) (cap1 : Nat) (l1 : List Int) (w : World)
    (k0 : IsInts w w.heap.size a0 l0) (n0 : l0.length ≤ cap0) (r0 : cap0 * 8 ≤ 140737488351232) (z0 : a0 = none → cap0 = 0)
    (k1 : IsInts w w.heap.size a1 l1) (n1 : l1.length ≤ cap1) (r1 : cap1 * 8 ≤ 140737488351232) (z1 : a1 = none → cap1 = 0) :
    Calls Try.prog 3 #[.slice a0 l0.length cap0, .slice a1 l1.length cap1] w fun e w' => e = .returned (.bool true) ∧ Below w.heap.size w w' :=
  core a0 cap0 l0 a1 cap1 l1 w k0 n0 (by omega) z0 k1 n1 (by omega)

set_option maxRecDepth 100000 in
theorem lifted (os : Os) (started : os.Started) (H : Type) (enc : TypeId × Value → H) :
    ReturnsInHanded {} Try.checked os 3 .any (Rows.drawsTellSpec.pre6 enc Try.prog Try.f3 Rows.drawsTellRow.domain false) (Rows.drawsTellSpec.post enc Try.prog Try.f3 false true false false) := by
  refine returnsInHanded_of_change_sized (C := Try.checked) own started (by kernel_rfl) Try.func3
    (ChangeSpec.witness6 (enc := enc) (C := Try.checked) false ⟨#[], #[.slice none 0 0, .slice none 0 0], []⟩ 8 (by kernel_rfl) (by kernel_rfl) (by kernel_rfl) (by kernel_rfl)) ?_
  intro W base args ds gs before hval0 hW hcnd hsz0 _
  have hsz : (DataW.weightsEach Try.prog (Try.f3.params.toList ++ Rows.drawsTellSpec.plain.varTypes Try.prog) (ds ++ gs)).all (· ≤ reachBytes) = true := hsz0
  clear hsz0
  have hval : ∀ (j : Nat) t v, Try.f3.params[j]? = some t → args[j]? = some v → Value.okWide Try.prog W .any base t v := hval0
  have hW' := hW
  obtain ⟨p, q, hA0, hV, rfl, hfz, hnd⟩ := hW
  have hA : DataW.TrodAll enc Try.prog W 0 (fun _ => true) true Try.f3.params.toList args.toList ds p := hA0
  rw [Try.params3] at hA hval hsz
  obtain ⟨v0, vs0, d0, ds0, p0, q0, hargs, rfl, rfl, g0, t0⟩ := trodAll_cons hA
  obtain ⟨v1, vs1, d1, ds1, p1, q1, rfl, rfl, rfl, g1, t1⟩ := trodAll_cons t0
  obtain ⟨rfl, rfl, rfl⟩ := trodAll_nil t1
  obtain rfl : args = #[v0, v1] := by cases args; simp_all
  obtain ⟨rfl, rfl⟩ := trodVars_none hV
  obtain ⟨a0, len0, cap0, rfl⟩ := okWide_slice Try.underlying22 (hval 0 22 v0 rfl rfl)
  have m0 := g0
  have lt0 : ∀ x ∈ p0, x.block < W.heap.size := by obtain ⟨m, hm⟩ := m0; exact DataW.trod_lt m _ _ _ hm
  obtain ⟨l0, k0, rfl, n0, r0, z0⟩ : ∃ l, IsInts W W.heap.size a0 l ∧ len0 = l.length ∧ l.length ≤ cap0 ∧ cap0 * 8 ≤ 140737488351232 ∧ (a0 = none → cap0 = 0) := by
    obtain ⟨fuel, hf⟩ := g0
    rcases open_ints Try.underlying22 Try.underlying3 (by kernel_rfl) hf with ⟨hcs, _⟩ | ⟨x, l, c, zs, hcs, _, hl, hm, hz, hx, hcell, hwz⟩
    · simp [Value.cells] at hcs
      obtain ⟨rfl, rfl, rfl⟩ := hcs
      exact ⟨[], IsInts.nil, rfl, by simp, by omega, fun _ => rfl⟩
    · simp [Value.cells] at hcs
      obtain ⟨rfl, rfl, rfl⟩ := hcs
      simp only [Prod.mk.injEq] at hx
      obtain ⟨rfl, rfl⟩ := hx
      simp only [if_true] at hz
      have hr := sized_slice hsz (j := 0) (t := 22) (e := 3) rfl rfl Try.underlying22
      rw [bytesOfI] at hr
      simp only [lits, List.length_map, List.length_take, List.length_drop, reachBytes] at hr
      obtain ⟨l, h1, h2⟩ := isInts_of_ints hl hz hcell hwz
      exact ⟨l, h1, h2, by omega, by omega, fun h => by cases h⟩
  obtain ⟨a1, len1, cap1, rfl⟩ := okWide_slice Try.underlying22 (hval 1 22 v1 rfl rfl)
  have m1 := g1
  have lt1 : ∀ x ∈ p1, x.block < W.heap.size := by obtain ⟨m, hm⟩ := m1; exact DataW.trod_lt m _ _ _ hm
  obtain ⟨l1, k1, rfl, n1, r1, z1⟩ : ∃ l, IsInts W W.heap.size a1 l ∧ len1 = l.length ∧ l.length ≤ cap1 ∧ cap1 * 8 ≤ 140737488351232 ∧ (a1 = none → cap1 = 0) := by
    obtain ⟨fuel, hf⟩ := g1
    rcases open_ints Try.underlying22 Try.underlying3 (by kernel_rfl) hf with ⟨hcs, _⟩ | ⟨x, l, c, zs, hcs, _, hl, hm, hz, hx, hcell, hwz⟩
    · simp [Value.cells] at hcs
      obtain ⟨rfl, rfl, rfl⟩ := hcs
      exact ⟨[], IsInts.nil, rfl, by simp, by omega, fun _ => rfl⟩
    · simp [Value.cells] at hcs
      obtain ⟨rfl, rfl, rfl⟩ := hcs
      simp only [Prod.mk.injEq] at hx
      obtain ⟨rfl, rfl⟩ := hx
      simp only [if_true] at hz
      have hr := sized_slice hsz (j := 1) (t := 22) (e := 3) rfl rfl Try.underlying22
      rw [bytesOfI] at hr
      simp only [lits, List.length_map, List.length_take, List.length_drop, reachBytes] at hr
      obtain ⟨l, h1, h2⟩ := isInts_of_ints hl hz hcell hwz
      exact ⟨l, h1, h2, by omega, by omega, fun h => by cases h⟩
  clear hA0 hval0
  refine (walk a0 cap0 l0 a1 cap1 l1 W k0 n0 r0 z0 k1 n1 r1 z1).mono fun e W' ⟨he, bel⟩ => ?_
  subst he
  exact ⟨_, rfl, _, _, _, [], _, [], hW', trodAll_mk1 (shut_bool Try.underlying4 _), (trodAll_cons_mk (Below.trod laidOut (by kernel_rfl) (of_decide_eq_true (by kernel_rfl)) m0 bel lt0) (trodAll_cons_mk (Below.trod laidOut (by kernel_rfl) (of_decide_eq_true (by kernel_rfl)) m1 bel lt1) trodAll_mk0)), rfl, bel.frame _, fun h => by cases h⟩

theorem over : Rows.drawsTellRow.holds Try.pinned (OpenSpec.ofChange Rows.drawsTellSpec) :=
  OpenClaim.holds_of_wide 3 Try.f3 rfl rfl rfl rfl rfl rfl rfl ⟨rfl, rfl, rfl, rfl, rfl⟩ rfl rfl rfl rfl rfl (by kernel_rfl) Try.func3 (by kernel_rfl)
    (of_decide_eq_true (by kernel_rfl)) (by unfold Func.isWrapper; first | (rw [if_pos (by decide +kernel)]; kernel_rfl) | (rw [if_neg (by decide +kernel)]; exact ⟨rfl, rfl⟩))
    (fun os started H enc _ => lifted os started H enc)

theorem proved : Rows.DrawsTellSaid := over
end Go.Proofs.Ytceecckipeeigaa.drawsTell
