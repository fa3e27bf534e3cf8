/- The examples of the chapter, places, bits and counts about their ends, are as the document says. Conditions: none. -/
import Derived.Test.YtckfjkhjnpkobaaRows
import Derived.Test.YtckfjkhjnpkobaaPostCuts
import Derived.Test.YtckfjkhjnpkobaaKnownFull
import Derived.Test.YtckfjkhjnpkobaaWorks06
import Derived.Test.YtckfjkhjnpkobaaKnown06
import Derived.Deep.RegionHeld3
import Derived.WalkKit
import Derived.WalkLawsBesides
import Derived.ProofKit
import Derived.OpenShut
import Derived.ShutString
import Derived.ChangeOld
import Derived.Below
import Derived.SizedLaws
namespace Go.Proofs.Ytckfjkhjnpkobaa.postKnown
open Go.ChangeShapes Go.WideShapes Go.ChangeAt Go.RowKit
open Go.ChangeMaps (open_string shut_string)
set_option linter.unusedVariables false

theorem own : ownKnob Try.prog.godebug = none := by kernel_rfl
theorem laidOut : laidOutB Try.prog = true := by kernel_rfl

/-- what stays of the two rows while calls go on -/
structure Kn (w : World) (N i k : Nat) (zi zk : Int) (g : Nat) (ts : List Po.Op) : Prop where
  ops : IsOps w w.heap.size (some ⟨g, 0, none⟩) ts
  ci : w.cell? ⟨N, i, none⟩ = some (.int .i64 zi)
  ck : w.cell? ⟨N, k, none⟩ = some (.int .i64 zk)
  lt : N < w.heap.size
theorem Kn.below {w w' : World} {N i k g : Nat} {zi zk : Int} {ts : List Po.Op} (h : Kn w N i k zi zk g ts) (hb : Below w.heap.size w w') : Kn w' N i k zi zk g ts :=
  ⟨(h.ops.below hb).more hb.size, (hb.cell (p := ⟨N, i, none⟩) h.lt).trans h.ci, (hb.cell (p := ⟨N, k, none⟩) h.lt).trans h.ck, Nat.lt_of_lt_of_le h.lt hb.size⟩
theorem runs_lit (g : Nat) (ts : List Po.Op) (hts : ts.length = 19) (w : World) (h : IsOps w w.heap.size (some ⟨g, 0, none⟩) ts) :
    Calls Try.prog 3 #[.slice (some ⟨g, 0, none⟩) 19 19] w fun e w' => e = .returned (.bool true) ∧ Below w.heap.size w w' := runs_at _ 19 19 ts hts w h
theorem keeps_lit (g : Nat) (ts : List Po.Op) (hts : ts.length = 19) (w : World) (h : IsOps w w.heap.size (some ⟨g, 0, none⟩) ts) :
    Calls Try.prog 5 #[.slice (some ⟨g, 0, none⟩) 19 19] w fun e w' => e = .returned (.bool true) ∧ Below w.heap.size w w' := keeps_at _ 19 19 ts hts w h
theorem cuts_lit (zi zk : Int) (g : Nat) (ts : List Po.Op) (hts : ts.length = 19) (w : World) (h : IsOps w w.heap.size (some ⟨g, 0, none⟩) ts) :
    Calls Try.prog 6 #[.slice (some ⟨g, 0, none⟩) 5 19, .int .i64 zi, .int .i64 zk, .int .i64 4, .slice (some ⟨w.heap.size, 0, none⟩) 1 1] (w.alloc (.cells #[.int .u8 5] 5)) fun e w' => e = .returned (.bool true) ∧ Below w.heap.size w w' := by
  have hb : Below w.heap.size w (w.alloc (.cells #[.int .u8 5] 5)) := (Below.refl _ w).alloc (Nat.le_refl _) _
  have ht : (ts.take 5).length = 5 := by rw [List.length_take, hts]; rfl
  have C := postCuts.core (some ⟨g, 0, none⟩) 19 (ts.take 5) zi zk 4 (some ⟨w.heap.size, 0, none⟩) 1 [5] _ (((h.take 5).below hb).more hb.size) ((isBytes_new w [5] (by simp) 5 (0, 0)).more (by simp)) (fun h => by cases h)
  rw [ht] at C
  exact C.mono fun e w' ⟨he, hb2⟩ => ⟨he, hb.trans (hb2.mono hb.size)⟩

set_option maxRecDepth 100000 in
set_option maxHeartbeats 3200000 in
theorem walk (w : World) : Calls Try.prog 7 #[] w fun e w' => e = .returned (.bool true) ∧ Below w.heap.size w w' := by
  have hn0 : IsInts (w.alloc (.cells (ints ten).toArray 3)) (w.heap.size + 1) (some ⟨w.heap.size, 0, none⟩) ten := isInts_new w ten ten_in 3 (0, 0)
  have hb0 : Below w.heap.size w (w.alloc (.cells (ints ten).toArray 3)) := (Below.refl _ _).alloc (Nat.le_refl _) _
  have hsz0 : w.heap.size + 1 = (w.alloc (.cells (ints ten).toArray 3)).heap.size := by simp
  go_enter Try.func7, Try.ntmps7
  go_wp2_with fail
  obtain ⟨wn, hwn⟩ : ∃ wn : World, wn = w.alloc (.cells (ints ten).toArray 3) := ⟨_, rfl⟩
  rw [← hwn] at hn0 hb0 hsz0
  unfold ints ten at hwn
  simp only [List.map_cons, List.map_nil] at hwn
  rw [← hwn]
  obtain ⟨N, hN⟩ : ∃ N, N = w.heap.size := ⟨_, rfl⟩
  rw [← hN] at hn0 hsz0 ⊢
  have HN0 : Hid (IsInts wn wn.heap.size (some ⟨N, 0, none⟩) ten) := by rw [← hsz0]; exact hn0
  have HNW : Hid (N < wn.heap.size ∧ N = w.heap.size) := hid ⟨by omega, hN⟩
  have HB0 : Hid (Below N w wn) := by rw [hN]; exact hb0
  clear hwn hN hsz0 hb0 hn0
  go_loopw [2] (fun i wr => ∃ k : Nat, k ≤ 13 ∧ i = .int .i64 k ∧ Hid (Below wn.heap.size wn wr)) (fun i _ => 13 - (RowKit.intOf i).toNat)
  case atStart => exact ⟨0, by omega, rfl, Below.refl _ _⟩
  case round =>
    obtain ⟨i, hi13, rfl, hbl⟩ := hrel
    by_cases hlt : i < 13
    · have hi0 : (i : Int) < 13 := by omega
      go_wp2_with fail
      go_loopw [3] (fun k wr => ∃ j : Nat, j ≤ 13 ∧ k = .int .i64 j ∧ Hid (Below wn.heap.size wn wr)) (fun k _ => 13 - (RowKit.intOf k).toNat)
      case atStart => exact ⟨0, by omega, rfl, hbl⟩
      case round =>
        clear hbl
        obtain ⟨k, hk13, rfl, hbl⟩ := hrel
        by_cases hlk : k < 13
        · have hk0 : (k : Int) < 13 := by omega
          go_wp2_with fail
          refine region8L (base := wn) (N := N) (i := i) (k := k) HN0.out (by kernel_rfl) rfl rfl rfl hlt hlk hbl.out (fun u g ts wz hts hops hbz => ?_)
          obtain ⟨zi, hzi, hci⟩ : ∃ z, InInt z ∧ wz.cell? ⟨N, i, none⟩ = some (.int .i64 z) := by
            obtain ⟨b, off, e, _, hc⟩ := (HN0.out.below hbz).cells i (show i < ten.length from hlt)
            injection e with e
            injection e with e1 e2 e3
            subst e1
            subst e2
            have := hc i (show i < ten.length from hlt)
            rw [Nat.zero_add] at this
            exact ⟨_, ten_in _ (List.getElem_mem _), this⟩
          obtain ⟨zk, hzk, hck⟩ : ∃ z, InInt z ∧ wz.cell? ⟨N, k, none⟩ = some (.int .i64 z) := by
            obtain ⟨b, off, e, _, hc⟩ := (HN0.out.below hbz).cells k (show k < ten.length from hlk)
            injection e with e
            injection e with e1 e2 e3
            subst e1
            subst e2
            have := hc k (show k < ten.length from hlk)
            rw [Nat.zero_add] at this
            exact ⟨_, ten_in _ (List.getElem_mem _), this⟩
          have hKn : Kn wz N i k zi zk g ts := ⟨hops, hci, hck, Nat.lt_of_lt_of_le HNW.out.1 hbz.size⟩
          have HM : Hid (∀ W, Below wz.heap.size wz W → Kn W N i k zi zk g ts) := hid (fun W hb => hKn.below hb)
          have HBZ := hid (And.intro hbz (And.intro hzi (And.intro hzk hts)))
          have h0b : Below wz.heap.size wz wz.drew := (Below.refl _ _).drew
          have R1 := hid (runs_lit g ts hts wz.drew (HM.out wz.drew h0b).ops)
          have hci1 := (HM.out wz.drew h0b).ci
          have hck1 := (HM.out wz.drew h0b).ck
          have hlt1 := (HM.out wz.drew h0b).lt
          have H0B := hid h0b
          clear hKn hbz hzi hzk hts hops hci hck hbl h0b
          go_wp2_with fail
          go_region_held3 (fun w' => w'.cell? ⟨N, i, none⟩ = some (.int .i64 zi) ∧ w'.cell? ⟨N, k, none⟩ = some (.int .i64 zk) ∧ N < w'.heap.size)
            (first
              | exact ⟨HM4.out.ci, HM4.out.ck, HM4.out.lt⟩
              | exact ⟨(World.cell?_alloc_past _ _ _ HM3.out.lt).trans HM3.out.ci, (World.cell?_alloc_past _ _ _ HM3.out.lt).trans HM3.out.ck, by rw [World.size_alloc]; exact Nat.lt_succ_of_lt HM3.out.lt⟩
              | exact ⟨HM3.out.ci, HM3.out.ck, HM3.out.lt⟩
              | exact ⟨HM2.out.ci, HM2.out.ck, HM2.out.lt⟩
              | exact ⟨hci1, hck1, hlt1⟩
              | fail)
            (first
              | (go_at_call 6; refine (cuts_lit zi zk g ts HBZ.out.2.2.2 w3 HM3.out.ops).mono ?_; rintro e w4 ⟨rfl, hb4⟩; have HB4 := hid (HB3.out.trans (hb4.mono HB3.out.size)); have HM4 := hid (HM.out w4 HB4.out); clear hb4)
              | (go_at_call 5; refine (keeps_lit g ts HBZ.out.2.2.2 w2 HM2.out.ops).mono ?_; rintro e w3 ⟨rfl, hb3⟩; have HB3 := hid (HB2.out.trans (hb3.mono HB2.out.size)); have HM3 := hid (HM.out w3 HB3.out); clear hb3)
              | (go_at_call 3; refine R1.out.mono ?_; rintro e w2 ⟨rfl, hb2⟩; have HB2 := hid (H0B.out.trans hb2); have HM2 := hid (HM.out w2 HB2.out); clear hb2))
          all_goals
            have HF : Hid (Below wn.heap.size wn w4) := HBZ.out.1.trans (HB4.out.mono HBZ.out.1.size)
            clear hci1 hck1 hlt1
            go_wp2_with fail
            go_roundw
            case rel => exact ⟨k + 1, by omega, by go_num, HF⟩
            case measure => simp [RowKit.intOf]; omega
        · go_wp2_with fail
          go_roundw
          case rel => exact ⟨i + 1, by omega, by go_num, hbl⟩
          case measure => simp [RowKit.intOf]; omega
    · go_wp2_with fail
      refine (full_any _).mono ?_
      rintro e w6 ⟨rfl, hb6⟩
      have HB6 := hid (hbl.out.trans (hb6.mono hbl.out.size))
      clear hb6
      go_wp2_with fail
      refine (works_any _).mono ?_
      rintro e w7 ⟨rfl, hb7⟩
      have HB7 := hid (HB6.out.trans (hb7.mono HB6.out.size))
      clear hb7
      go_wp2_with fail
      go_ret
      exact ⟨rfl, HNW.out.2 ▸ (HB0.out.trans (HB7.out.mono (Nat.le_of_lt HNW.out.1)))⟩

set_option maxRecDepth 100000 in
theorem lifted (os : Os) (started : os.Started) (H : Type) (enc : TypeId × Value → H) :
    ReturnsInHanded {} Try.checked os 7 .any (Rows.postKnownSpec.pre6 enc Try.prog Try.f7 Rows.postKnownRow.domain false) (Rows.postKnownSpec.post enc Try.prog Try.f7 false true false false) := by
  refine returnsInHanded_of_change_sized (C := Try.checked) own started (by kernel_rfl) Try.func7
    (ChangeSpec.witness6 (enc := enc) (C := Try.checked) false ⟨#[], #[], []⟩ 8 (by kernel_rfl) (by kernel_rfl) (by kernel_rfl) (by kernel_rfl)) ?_
  intro W base args ds gs before hval0 hW hcnd hsz0 _
  have hsz : (DataW.weightsEach Try.prog (Try.f7.params.toList ++ Rows.postKnownSpec.plain.varTypes Try.prog) (ds ++ gs)).all (· ≤ reachBytes) = true := hsz0
  clear hsz0
  have hval : ∀ (j : Nat) t v, Try.f7.params[j]? = some t → args[j]? = some v → Value.okWide Try.prog W .any base t v := hval0
  have hW' := hW
  obtain ⟨p, q, hA0, hV, rfl, hfz, hnd⟩ := hW
  have hA : DataW.TrodAll enc Try.prog W 0 (fun _ => true) true Try.f7.params.toList args.toList ds p := hA0
  rw [Try.params7] at hA hval hsz
  obtain ⟨rfl, rfl, rfl⟩ := trodAll_none hA
  obtain ⟨rfl, rfl⟩ := trodVars_none hV
  clear hA0 hval0
  refine (walk  W ).mono fun e W' ⟨he, bel⟩ => ?_
  subst he
  exact ⟨_, rfl, _, _, _, [], _, [], hW', trodAll_mk1 (shut_bool Try.underlying4 _), trodAll_mk0, rfl, bel.frame _, fun h => by cases h⟩

theorem over : Rows.postKnownRow.holds Try.pinned (OpenSpec.ofChange Rows.postKnownSpec) :=
  OpenClaim.holds_of_wide 7 Try.f7 rfl rfl rfl rfl rfl rfl rfl ⟨rfl, rfl, rfl, rfl, rfl⟩ rfl rfl rfl rfl rfl (by kernel_rfl) Try.func7 (by kernel_rfl)
    (of_decide_eq_true (by kernel_rfl)) (by unfold Func.isWrapper; first | (rw [if_pos (by decide +kernel)]; kernel_rfl) | (rw [if_neg (by decide +kernel)]; exact ⟨rfl, rfl⟩))
    (fun os started H enc _ => lifted os started H enc)

theorem proved : Rows.PostKnownSaid := over
end Go.Proofs.Ytckfjkhjnpkobaa.postKnown
