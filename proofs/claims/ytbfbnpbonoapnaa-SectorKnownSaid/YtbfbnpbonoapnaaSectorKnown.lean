/- The examples of the chapter, counts and sectors about their ends, are as the document says. Conditions: none. -/
import Derived.Test.YtbfbnpbonoapnaaRows
import Derived.Test.YtbfbnpbonoapnaaSectorRuns
import Derived.Test.YtbfbnpbonoapnaaSectorFails
import Derived.Test.YtbfbnpbonoapnaaSectorFlushed
import Derived.Test.YtbfbnpbonoapnaaSectorCrashed
import Derived.Test.YtbfbnpbonoapnaaKnown04
import Derived.Test.YtbfbnpbonoapnaaKitRow
import Derived.Deep.RegionHeld3
import Derived.Deep.MidRow
import Derived.WalkKit
import Derived.WalkLawsBesides
import Derived.ProofKit
import Derived.OpenShut
import Derived.ShutString
import Derived.ChangeOld
import Derived.Below
import Derived.SizedLaws
namespace Go.Proofs.Ytbfbnpbonoapnaa.sectorKnown
open Go.ChangeShapes Go.WideShapes Go.ChangeAt Go.RowKit
open Go.ChangeMaps (open_string shut_string)
set_option linter.unusedVariables false

theorem own : ownKnob Try.prog.godebug = none := by kernel_rfl
theorem laidOut : laidOutB Try.prog = true := by kernel_rfl

/-- what stays of the two rows while calls go on -/
structure Kn (w : World) (N i k : Nat) (zi zk : Int) (g : Nat) (ts : List Sx.Op) : Prop where
  ops : IsOps w w.heap.size (some ⟨g, 0, none⟩) ts
  ci : w.cell? ⟨N, i, none⟩ = some (.int .i64 zi)
  ck : w.cell? ⟨N, k, none⟩ = some (.int .i64 zk)
  lt : N < w.heap.size
theorem Kn.below {w w' : World} {N i k g : Nat} {zi zk : Int} {ts : List Sx.Op} (h : Kn w N i k zi zk g ts) (hb : Below w.heap.size w w') : Kn w' N i k zi zk g ts :=
  ⟨(h.ops.below hb).more hb.size, (hb.cell (p := ⟨N, i, none⟩) h.lt).trans h.ci, (hb.cell (p := ⟨N, k, none⟩) h.lt).trans h.ck, Nat.lt_of_lt_of_le h.lt hb.size⟩
theorem runs_lit (z : Int) (hz : InInt z) (g : Nat) (ts : List Sx.Op) (hts : ts.length = 22) (w : World) (h : IsOps w w.heap.size (some ⟨g, 0, none⟩) ts) :
    Calls Try.prog 3 #[.int .i64 z, .slice (some ⟨g, 0, none⟩) 22 22] w fun e w' => e = .returned (.bool true) ∧ Below w.heap.size w w' := by
  have C := sectorRuns.core z (some ⟨g, 0, none⟩) 22 ts w hz h
  rwa [hts] at C
theorem fails_lit (z : Int) (hz : InInt z) (g : Nat) (ts : List Sx.Op) (hts : ts.length = 22) (w : World) (h : IsOps w w.heap.size (some ⟨g, 0, none⟩) ts) :
    Calls Try.prog 6 #[.slice (some ⟨g, 0, none⟩) 22 22, .int .i64 z] w fun e w' => e = .returned (.bool true) ∧ Below w.heap.size w w' := by
  have C := sectorFails.core (some ⟨g, 0, none⟩) 22 ts z w h hz
  rwa [hts] at C
theorem flushed_lit (z zk : Int) (hz : InInt z) (hzk : InInt zk) (g : Nat) (ts : List Sx.Op) (hts : ts.length = 22) (w : World) (h : IsOps w w.heap.size (some ⟨g, 0, none⟩) ts) :
    Calls Try.prog 4 #[.int .i64 z, .slice (some ⟨g, 0, none⟩) 22 22, .slice (some ⟨w.heap.size, 0, none⟩) 1 1] (w.alloc (.cells #[.int .i64 zk] 3)) fun e w' => e = .returned (.bool true) ∧ Below w.heap.size w w' := by
  have hb : Below w.heap.size w (w.alloc (.cells #[.int .i64 zk] 3)) := (Below.refl _ w).alloc (Nat.le_refl _) _
  have C := sectorFlushed.core z (some ⟨g, 0, none⟩) 22 ts (some ⟨w.heap.size, 0, none⟩) 1 [zk] _ hz ((h.below hb).more hb.size) ((isInts_new w [zk] (by simpa using hzk) 3 (0, 0)).more (by simp))
  rw [hts] at C
  exact C.mono fun e w' ⟨he, hb2⟩ => ⟨he, hb.trans (hb2.mono hb.size)⟩
theorem crashed_any (z : Int) (hz : InInt z) (g : Nat) (ts : List Sx.Op) (hts : ts.length = 22) (A2 A3 : Option Addr) (l2 l3 : List Int) (h2 : l2.length = 2) (h3 : l3.length = 2) (w w0 : World) (hb : Below w0.heap.size w0 w) (h : IsOps w0 w0.heap.size (some ⟨g, 0, none⟩) ts) (hl2 : IsInts w w.heap.size A2 l2) (hl3 : IsInts w w.heap.size A3 l3) :
    Calls Try.prog 5 #[.int .i64 z, .slice (some ⟨g, 0, none⟩) 7 22, .slice A2 2 2, .slice A3 2 2] w fun e w' => e = .returned (.bool true) ∧ Below w0.heap.size w0 w' := by
  have ht : (ts.take 7).length = 7 := by rw [List.length_take, hts]; rfl
  have C := sectorCrashed.core z (some ⟨g, 0, none⟩) 22 (ts.take 7) A2 2 l2 A3 2 l3 w hz (((h.take 7).below hb).more hb.size) hl2 hl3
  rw [ht, h2, h3] at C
  exact C.mono fun e w' ⟨he, hb2⟩ => ⟨he, hb.trans (hb2.mono hb.size)⟩
theorem one_in : InInt 1 ∧ InInt 1 := by unfold InInt; omega
/-- the two lists, made one behind the other -/
theorem two_below (w : World) (o1 o2 : Obj) : Below w.heap.size w ((w.alloc o1).alloc o2) := ((Below.refl _ w).alloc (Nat.le_refl _) _).alloc (by rw [World.size_alloc]; omega) _
theorem two_ints (w : World) (x1 x2 y1 y2 : Int) (hx : InInt x1 ∧ InInt x2) (hy : InInt y1 ∧ InInt y2) :
    IsInts ((w.alloc (.cells #[.int .i64 x1, .int .i64 x2] 3)).alloc (.cells #[.int .i64 y1, .int .i64 y2] 3)) ((w.alloc (.cells #[.int .i64 x1, .int .i64 x2] 3)).alloc (.cells #[.int .i64 y1, .int .i64 y2] 3)).heap.size (some ⟨w.heap.size, 0, none⟩) [x1, x2] ∧
    IsInts ((w.alloc (.cells #[.int .i64 x1, .int .i64 x2] 3)).alloc (.cells #[.int .i64 y1, .int .i64 y2] 3)) ((w.alloc (.cells #[.int .i64 x1, .int .i64 x2] 3)).alloc (.cells #[.int .i64 y1, .int .i64 y2] 3)).heap.size (some ⟨w.heap.size + 1, 0, none⟩) [y1, y2] := by
  have hb2 : Below (w.alloc (.cells #[.int .i64 x1, .int .i64 x2] 3)).heap.size (w.alloc (.cells #[.int .i64 x1, .int .i64 x2] 3)) ((w.alloc (.cells #[.int .i64 x1, .int .i64 x2] 3)).alloc (.cells #[.int .i64 y1, .int .i64 y2] 3)) := (Below.refl _ _).alloc (Nat.le_refl _) _
  have hl1 : IsInts (w.alloc (.cells #[.int .i64 x1, .int .i64 x2] 3)) (w.alloc (.cells #[.int .i64 x1, .int .i64 x2] 3)).heap.size (some ⟨w.heap.size, 0, none⟩) [x1, x2] := (isInts_new w [x1, x2] (by intro v hv; simp at hv; rcases hv with rfl | rfl; exact hx.1; exact hx.2) 3 (0, 0)).more (by simp)
  have hl2 : IsInts ((w.alloc (.cells #[.int .i64 x1, .int .i64 x2] 3)).alloc (.cells #[.int .i64 y1, .int .i64 y2] 3)) ((w.alloc (.cells #[.int .i64 x1, .int .i64 x2] 3)).alloc (.cells #[.int .i64 y1, .int .i64 y2] 3)).heap.size (some ⟨(w.alloc (.cells #[.int .i64 x1, .int .i64 x2] 3)).heap.size, 0, none⟩) [y1, y2] := (isInts_new (w.alloc (.cells #[.int .i64 x1, .int .i64 x2] 3)) [y1, y2] (by intro v hv; simp at hv; rcases hv with rfl | rfl; exact hy.1; exact hy.2) 3 (0, 0)).more (by simp)
  rw [show (w.alloc (.cells #[.int .i64 x1, .int .i64 x2] 3)).heap.size = w.heap.size + 1 from World.size_alloc _ _] at hl2
  exact ⟨(hl1.below hb2).more hb2.size, hl2⟩

set_option maxRecDepth 100000 in
set_option maxHeartbeats 3200000 in
theorem walk (w : World) : Calls Try.prog 7 #[] w fun e w' => e = .returned (.bool true) ∧ Below w.heap.size w w' := by
  have hn0 : IsInts (w.alloc (.cells (ints ten).toArray 3)) (w.heap.size + 1) (some ⟨w.heap.size, 0, none⟩) ten := isInts_new w ten ten_in 3 (0, 0)
  have hb0 : Below w.heap.size w (w.alloc (.cells (ints ten).toArray 3)) := (Below.refl _ _).alloc (Nat.le_refl _) _
  have hsz0 : w.heap.size + 1 = (w.alloc (.cells (ints ten).toArray 3)).heap.size := by simp
  go_enter Try.func7, Try.ntmps7
  go_wp2_with fail
  obtain ⟨wn, hwn⟩ : ∃ wn : World, wn = w.alloc (.cells (ints ten).toArray 3) := ⟨_, rfl⟩
  rw [← hwn] at hn0 hb0 hsz0
  unfold ints ten at hwn
  simp only [List.map_cons, List.map_nil] at hwn
  rw [← hwn]
  obtain ⟨N, hN⟩ : ∃ N, N = w.heap.size := ⟨_, rfl⟩
  rw [← hN] at hn0 hsz0 ⊢
  have HN0 : Hid (IsInts wn wn.heap.size (some ⟨N, 0, none⟩) ten) := by rw [← hsz0]; exact hn0
  have HNW : Hid (N < wn.heap.size ∧ N = w.heap.size) := hid ⟨by omega, hN⟩
  have HB0 : Hid (Below N w wn) := by rw [hN]; exact hb0
  clear hwn hN hsz0 hb0 hn0
  go_loopw [2] (fun i wr => ∃ k : Nat, k ≤ 10 ∧ i = .int .i64 k ∧ Hid (Below wn.heap.size wn wr)) (fun i _ => 10 - (RowKit.intOf i).toNat)
  case atStart => exact ⟨0, by omega, rfl, Below.refl _ _⟩
  case round =>
    obtain ⟨i, hi10, rfl, hbl⟩ := hrel
    by_cases hlt : i < 10
    · have hi0 : (i : Int) < 10 := by omega
      go_wp2_with fail
      go_loopw [3] (fun k wr => ∃ j : Nat, j ≤ 10 ∧ k = .int .i64 j ∧ Hid (Below wn.heap.size wn wr)) (fun k _ => 10 - (RowKit.intOf k).toNat)
      case atStart => exact ⟨0, by omega, rfl, hbl⟩
      case round =>
        clear hbl
        obtain ⟨k, hk10, rfl, hbl⟩ := hrel
        by_cases hlk : k < 10
        · have hk0 : (k : Int) < 10 := by omega
          go_wp2_with fail
          refine region8L (base := wn) (N := N) (i := i) (k := k) HN0.out (by kernel_rfl) rfl rfl rfl hlt hlk hbl.out (fun u g ts wz hts hops hbz => ?_)
          obtain ⟨zi, hzi, hci⟩ : ∃ z, InInt z ∧ wz.cell? ⟨N, i, none⟩ = some (.int .i64 z) := by
            obtain ⟨b, off, e, _, hc⟩ := (HN0.out.below hbz).cells i (show i < ten.length from hlt)
            injection e with e
            injection e with e1 e2 e3
            subst e1
            subst e2
            have := hc i (show i < ten.length from hlt)
            rw [Nat.zero_add] at this
            exact ⟨_, ten_in _ (List.getElem_mem _), this⟩
          obtain ⟨zk, hzk, hck⟩ : ∃ z, InInt z ∧ wz.cell? ⟨N, k, none⟩ = some (.int .i64 z) := by
            obtain ⟨b, off, e, _, hc⟩ := (HN0.out.below hbz).cells k (show k < ten.length from hlk)
            injection e with e
            injection e with e1 e2 e3
            subst e1
            subst e2
            have := hc k (show k < ten.length from hlk)
            rw [Nat.zero_add] at this
            exact ⟨_, ten_in _ (List.getElem_mem _), this⟩
          have hKn : Kn wz N i k zi zk g ts := ⟨hops, hci, hck, Nat.lt_of_lt_of_le HNW.out.1 hbz.size⟩
          have HM : Hid (∀ W, Below wz.heap.size wz W → Kn W N i k zi zk g ts) := hid (fun W hb => hKn.below hb)
          have HBZ := hid (And.intro hbz (And.intro hzi (And.intro hzk hts)))
          have h0b : Below wz.heap.size wz wz.drew := (Below.refl _ _).drew
          have R1 := hid (runs_lit 4 (by unfold InInt; omega) g ts hts wz.drew (HM.out wz.drew h0b).ops)
          have hci1 := (HM.out wz.drew h0b).ci
          have hck1 := (HM.out wz.drew h0b).ck
          have hlt1 := (HM.out wz.drew h0b).lt
          have H0B := hid h0b
          clear hKn hbz hzi hzk hts hops hci hck hbl h0b
          go_wp2_with fail
          go_region_held3 (fun w' => w'.cell? ⟨N, i, none⟩ = some (.int .i64 zi) ∧ w'.cell? ⟨N, k, none⟩ = some (.int .i64 zk) ∧ N < w'.heap.size)
            (first
              | exact ⟨HM6.out.ci, HM6.out.ck, HM6.out.lt⟩
              | exact ⟨(World.cell?_alloc_past _ _ _ (by rw [World.size_alloc]; exact Nat.lt_succ_of_lt HM5.out.lt)).trans ((World.cell?_alloc_past _ _ _ HM5.out.lt).trans HM5.out.ci), (World.cell?_alloc_past _ _ _ (by rw [World.size_alloc]; exact Nat.lt_succ_of_lt HM5.out.lt)).trans ((World.cell?_alloc_past _ _ _ HM5.out.lt).trans HM5.out.ck), by rw [World.size_alloc, World.size_alloc]; exact Nat.lt_succ_of_lt (Nat.lt_succ_of_lt HM5.out.lt)⟩
              | exact ⟨(World.cell?_alloc_past _ _ _ HM5.out.lt).trans HM5.out.ci, (World.cell?_alloc_past _ _ _ HM5.out.lt).trans HM5.out.ck, by rw [World.size_alloc]; exact Nat.lt_succ_of_lt HM5.out.lt⟩
              | exact ⟨HM5.out.ci, HM5.out.ck, HM5.out.lt⟩
              | exact ⟨(World.cell?_alloc_past _ _ _ HM4.out.lt).trans HM4.out.ci, (World.cell?_alloc_past _ _ _ HM4.out.lt).trans HM4.out.ck, by rw [World.size_alloc]; exact Nat.lt_succ_of_lt HM4.out.lt⟩
              | exact ⟨HM4.out.ci, HM4.out.ck, HM4.out.lt⟩
              | exact ⟨HM3.out.ci, HM3.out.ck, HM3.out.lt⟩
              | exact ⟨HM2.out.ci, HM2.out.ck, HM2.out.lt⟩
              | exact ⟨hci1, hck1, hlt1⟩)
            (first
              | (go_at_call 5; refine (crashed_any zi HBZ.out.2.1 g ts HBZ.out.2.2.2 _ _ [zk, zi] [1, 1] rfl rfl _ w5 (two_below w5 _ _) HM5.out.ops (by first | exact (two_ints w5 zk zi 1 1 ⟨HBZ.out.2.2.1, HBZ.out.2.1⟩ one_in).1 | exact (two_ints w5 1 1 zk zi one_in ⟨HBZ.out.2.2.1, HBZ.out.2.1⟩).2) (by first | exact (two_ints w5 zk zi 1 1 ⟨HBZ.out.2.2.1, HBZ.out.2.1⟩ one_in).2 | exact (two_ints w5 1 1 zk zi one_in ⟨HBZ.out.2.2.1, HBZ.out.2.1⟩).1)).mono ?_; rintro e w6 ⟨rfl, hb6⟩; have HB6 := hid (HB5.out.trans (hb6.mono HB5.out.size)); have HM6 := hid (HM.out w6 HB6.out); clear hb6)
              | (go_at_call 4; refine (flushed_lit zi zk HBZ.out.2.1 HBZ.out.2.2.1 g ts HBZ.out.2.2.2 w4 HM4.out.ops).mono ?_; rintro e w5 ⟨rfl, hb5⟩; have HB5 := hid (HB4.out.trans (hb5.mono HB4.out.size)); have HM5 := hid (HM.out w5 HB5.out); clear hb5)
              | (go_at_call 6; refine (fails_lit zk HBZ.out.2.2.1 g ts HBZ.out.2.2.2 w3 HM3.out.ops).mono ?_; rintro e w4 ⟨rfl, hb4⟩; have HB4 := hid (HB3.out.trans (hb4.mono HB3.out.size)); have HM4 := hid (HM.out w4 HB4.out); clear hb4)
              | (go_at_call 3; refine (runs_lit zi HBZ.out.2.1 g ts HBZ.out.2.2.2 w2 HM2.out.ops).mono ?_; rintro e w3 ⟨rfl, hb3⟩; have HB3 := hid (HB2.out.trans (hb3.mono HB2.out.size)); have HM3 := hid (HM.out w3 HB3.out); clear hb3)
              | (go_at_call 3; refine R1.out.mono ?_; rintro e w2 ⟨rfl, hb2⟩; have HB2 := hid (H0B.out.trans hb2); have HM2 := hid (HM.out w2 HB2.out); clear hb2))
          all_goals
            have HF : Hid (Below wn.heap.size wn w6) := HBZ.out.1.trans (HB6.out.mono HBZ.out.1.size)
            clear hci1 hck1 hlt1
            go_wp2_with fail
            go_roundw
            case rel => exact ⟨k + 1, by omega, by go_num, HF⟩
            case measure => simp [RowKit.intOf]; omega
        · go_wp2_with fail
          go_roundw
          case rel => exact ⟨i + 1, by omega, by go_num, hbl⟩
          case measure => simp [RowKit.intOf]; omega
    · go_wp2_with fail
      refine (works_any _).mono ?_
      rintro e w7 ⟨rfl, hb7⟩
      have HB7 := hid (hbl.out.trans (hb7.mono hbl.out.size))
      clear hb7
      go_wp2_with fail
      go_ret
      exact ⟨rfl, HNW.out.2 ▸ (HB0.out.trans (HB7.out.mono (Nat.le_of_lt HNW.out.1)))⟩

set_option maxRecDepth 100000 in
theorem lifted (os : Os) (started : os.Started) (H : Type) (enc : TypeId × Value → H) :
    ReturnsInHanded {} Try.checked os 7 .any (Rows.sectorKnownSpec.pre6 enc Try.prog Try.f7 Rows.sectorKnownRow.domain false) (Rows.sectorKnownSpec.post enc Try.prog Try.f7 false true false false) := by
  refine returnsInHanded_of_change_sized (C := Try.checked) own started (by kernel_rfl) Try.func7
    (ChangeSpec.witness6 (enc := enc) (C := Try.checked) false ⟨#[], #[], []⟩ 8 (by kernel_rfl) (by kernel_rfl) (by kernel_rfl) (by kernel_rfl)) ?_
  intro W base args ds gs before hval0 hW hcnd hsz0 _
  have hsz : (DataW.weightsEach Try.prog (Try.f7.params.toList ++ Rows.sectorKnownSpec.plain.varTypes Try.prog) (ds ++ gs)).all (· ≤ reachBytes) = true := hsz0
  clear hsz0
  have hval : ∀ (j : Nat) t v, Try.f7.params[j]? = some t → args[j]? = some v → Value.okWide Try.prog W .any base t v := hval0
  have hW' := hW
  obtain ⟨p, q, hA0, hV, rfl, hfz, hnd⟩ := hW
  have hA : DataW.TrodAll enc Try.prog W 0 (fun _ => true) true Try.f7.params.toList args.toList ds p := hA0
  rw [Try.params7] at hA hval hsz
  obtain ⟨rfl, rfl, rfl⟩ := trodAll_none hA
  obtain ⟨rfl, rfl⟩ := trodVars_none hV
  clear hA0 hval0
  refine (walk  W ).mono fun e W' ⟨he, bel⟩ => ?_
  subst he
  exact ⟨_, rfl, _, _, _, [], _, [], hW', trodAll_mk1 (shut_bool Try.underlying4 _), trodAll_mk0, rfl, bel.frame _, fun h => by cases h⟩

theorem over : Rows.sectorKnownRow.holds Try.pinned (OpenSpec.ofChange Rows.sectorKnownSpec) :=
  OpenClaim.holds_of_wide 7 Try.f7 rfl rfl rfl rfl rfl rfl rfl ⟨rfl, rfl, rfl, rfl, rfl⟩ rfl rfl rfl rfl rfl (by kernel_rfl) Try.func7 (by kernel_rfl)
    (of_decide_eq_true (by kernel_rfl)) (by unfold Func.isWrapper; first | (rw [if_pos (by decide +kernel)]; kernel_rfl) | (rw [if_neg (by decide +kernel)]; exact ⟨rfl, rfl⟩))
    (fun os started H enc _ => lifted os started H enc)

theorem proved : Rows.SectorKnownSaid := over
end Go.Proofs.Ytbfbnpbonoapnaa.sectorKnown
