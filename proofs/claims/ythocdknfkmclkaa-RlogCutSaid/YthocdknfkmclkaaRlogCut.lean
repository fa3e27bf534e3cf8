/- Behind Cut each index that is left has its term and its entry, and the last one is the same. Conditions: none. -/
import Derived.Test.YthocdknfkmclkaaRows
import Derived.Test.YthocdknfkmclkaaRlLaw
import Derived.Test.YthocdknfkmclkaaKitLog
import Derived.Test.YthocdknfkmclkaaRlC
import Derived.Deep.RegionHeld3
import Derived.WalkKit
import Derived.WalkLawsBesides
import Derived.ProofKit
import Derived.OpenShut
import Derived.ShutString
import Derived.ChangeOld
import Derived.Below
import Derived.SizedLaws
namespace Go.Proofs.Ythocdknfkmclkaa.rlogCut
open Go.ChangeShapes Go.WideShapes Go.ChangeAt Go.RowKit
open Go.ChangeMaps (open_string shut_string)
set_option linter.unusedVariables false

theorem own : ownKnob Try.prog.godebug = none := by kernel_rfl
theorem laidOut : laidOutB Try.prog = true := by kernel_rfl

set_option maxHeartbeats 3200000 in
set_option maxRecDepth 100000 in
theorem walk (l0 : Rl.Lg) (a0 : Option Addr) (cap0 : Nat) (i : Int) (w : World)
    (k0 : LgIs w w.heap.size l0 a0 cap0) (b1 : -9223372036854775808 ≤ i ∧ i ≤ 9223372036854775807) :
    Calls Try.prog 6 #[.agg #[.int .i64 l0.base, .int .i64 l0.term, .slice a0 l0.es.length cap0], .int .i64 i] w fun e w' => e = .returned (.bool true) ∧ Below w.heap.size w w' := by
  obtain ⟨w1, hw1⟩ : ∃ w1, w1 = w.alloc (.cells #[.int .i64 l0.base, .int .i64 l0.term, .slice a0 l0.es.length cap0] 24) := ⟨_, rfl⟩
  have hb1 : Below w.heap.size w w1 := by rw [hw1]; exact (Below.refl _ w).alloc (Nat.le_refl _) _
  have HB := hid hb1
  have HI := hid (fun w' (hb : Below w1.heap.size w1 w') => k0.below (hb1.trans (hb.mono hb1.size)))
  have HX := hid (fun w' (hb : Below w1.heap.size w1 w') => (box_new w w1 (.int .i64 l0.base) (.int .i64 l0.term) (.slice a0 l0.es.length cap0) 24 (by rw [hw1]; exact Below.refl _ _)).below hb)
  have HK := hid (at_base (w0 := w1) (f := 10) (args := #[]) (fun w' _ => known_any w'))
  have HR := hid (at_base (w0 := w1) (fun w' hb => right_any w.heap.size l0 a0 cap0 w' (k0.below (hb1.trans (hb.mono hb1.size))).es (Nat.le_trans hb1.size hb.size)))
  have H0 := hid (Below.refl w1.heap.size w1)
  have HW := hid hw1
  clear hb1 hw1 k0 b1
  go_enter Try.func6, Try.ntmps6
  go_wp2_with fail
  rw [← HW.out]
  refine (HR.out w1 H0.out).mono ?_
  rintro e w2 ⟨rfl, hb2⟩
  have h2 := hid hb2
  obtain ⟨x0, x1, x2⟩ := HX.out w2 hb2
  clear hb2
  rcases f0 : fits l0 with _ | _
  · have HF := hid f0
    clear f0
    go_wp2_with fail
    refine (HK.out w2 h2.out).mono ?_
    rintro e w3 ⟨rfl, hb3⟩
    have h3 := hid (HB.out.trans (hb3.mono HB.out.size))
    clear hb3
    go_wp2_with fail
    go_ret
    exact ⟨rfl, h3.out⟩
  · have HF := hid (fits_ok f0)
    have HFF := hid f0
    have HL := hid (at_base (w0 := w1) (fun w' hb => last_any w.heap.size l0 a0 cap0 (fits_ok f0).1 w' (HI.out w' hb) (Nat.le_trans HB.out.size hb.size)))
    obtain ⟨hB0, hB1⟩ := (fits_from f0 0 (Nat.zero_le _)).2.2
    have hlen := (fits_ok f0).2.2
    have hla : l0.last = l0.base + (l0.es.length : Nat) := rfl
    clear f0
    go_wp2_with fail
    refine (HL.out w2 h2.out).mono ?_
    rintro e w3 ⟨rfl, hb3⟩
    have h3 := hid hb3
    clear x0 x1 x2
    obtain ⟨x0, x1, x2⟩ := HX.out w3 hb3
    have hlt3 := (HX.out w3 hb3).lt
    clear hb3
    obtain ⟨lt, hlt⟩ : ∃ lt, lt = l0.lastT := ⟨_, rfl⟩
    rw [hla, ← hlt]
    have HLT := hid hlt
    clear hla hlt
    rcases hh : l0.has i with _ | _
    · have hn := Rl.Lg.has_not.1 hh
      have HC := hid (cut_no w.heap.size l0 a0 cap0 i HF.out.1 hh w3 (HI.out w3 h3.out) (Nat.le_trans HB.out.size h3.out.size))
      clear hh
      have hcase : i < l0.base ∨ ¬ i < l0.base ∧ l0.base + (l0.es.length : Nat) < i := by omega
      clear hn
      go_wp2_with fail
      refine HC.out.mono ?_
      rintro e w4 ⟨rfl, hb4⟩
      have h4 := hid (h3.out.trans (hb4.mono h3.out.size))
      clear x0 x1 x2 HC
      obtain ⟨x0, x1, x2⟩ := HX.out w4 h4.out
      have lx := (HX.out w4 h4.out).lt
      have nx := Nat.ne_of_lt lx
      have HK4 := hid (HK.out (w4.alloc (.cells #[.int .i64 0, .int .i64 0, .slice none 0 0] 24)) (h4.out.alloc h4.out.size _))
      clear hb4
      rcases hcase with hc | ⟨hc, hd⟩
      · go_wp2_with fail
        refine HK4.out.mono ?_
        rintro e w5 ⟨rfl, hb5⟩
        have h5 := hid (HB.out.trans (hb5.mono HB.out.size))
        clear hb5
        go_wp2_with fail
        go_ret
        exact ⟨rfl, h5.out⟩
      · go_wp2_with fail
        refine HK4.out.mono ?_
        rintro e w5 ⟨rfl, hb5⟩
        have h5 := hid (HB.out.trans (hb5.mono HB.out.size))
        clear hb5
        go_wp2_with fail
        go_ret
        exact ⟨rfl, h5.out⟩
    · obtain ⟨p, hip, hp, _⟩ := Rl.Lg.has_at hh
      have HC := hid (cut_yes w.heap.size l0 a0 cap0 i p hip hp HF.out.1 HF.out.2.1 w3 (HI.out w3 h3.out) (Nat.le_trans HB.out.size h3.out.size))
      have hc1 : ¬ i < l0.base := by omega
      have hc2 : ¬ l0.base + (l0.es.length : Nat) < i := by omega
      have HIP := hid (And.intro hip hp)
      clear hh hip hp
      go_wp2_with fail
      refine HC.out.mono ?_
      rintro e w4 ⟨Ax, cx, rfl, hox', hb4⟩
      have h4 := hid (h3.out.trans (hb4.mono h3.out.size))
      have s34 := hid hb4.size
      have hox := hid hox'
      clear x0 x1 x2 HC hox'
      obtain ⟨x0, x1, x2⟩ := HX.out w4 h4.out
      have lx := (HX.out w4 h4.out).lt
      have nx := Nat.ne_of_lt lx
      clear hb4
      obtain ⟨w5, hw5⟩ : ∃ w5, w5 = w4.alloc (.cells #[.int .i64 i, .int .i64 (l0.at_ p), .slice Ax (l0.es.length - p) cx] 24) := ⟨_, rfl⟩
      have hb5 : Below w4.heap.size w4 w5 := by rw [hw5]; exact (Below.refl _ w4).alloc (Nat.le_refl _) _
      have h5 := hid (h4.out.trans (hb5.mono h4.out.size))
      have s45 := hid hb5.size
      have HB5 := hid (HB.out.trans (h5.out.mono HB.out.size))
      have HU := hid (fun w' (hb : Below w5.heap.size w5 w') => h5.out.trans (hb.mono h5.out.size))
      have HX5 := hid (fun w' (hb : Below w5.heap.size w5 w') => And.intro (HX.out w' (HU.out w' hb)) ((box_new w4 w5 (.int .i64 i) (.int .i64 (l0.at_ p)) (.slice Ax (l0.es.length - p) cx) 24 (by rw [hw5]; exact Below.refl _ _)).below hb))
      obtain ⟨hip, hp⟩ := HIP.out
      -- the log behind the cut
      obtain ⟨gx, hgx⟩ : ∃ gx, gx = l0.from_ p := ⟨_, rfl⟩
      have hgb : gx.base = i := by rw [hgx, hip]; rfl
      have hgt : gx.term = l0.at_ p := by rw [hgx]; rfl
      have hge : gx.es.length = l0.es.length - p := by rw [hgx]; show (l0.es.drop p).length = _; rw [List.length_drop]
      have hgo : Rl.Ok gx ∧ Rl.Few gx.es := by rw [hgx]; exact ⟨(fits_from HFF.out p hp).1, (fits_from HFF.out p hp).2.1⟩
      have hgi : ∀ w', Below w5.heap.size w5 w' → LgIs w' w4.heap.size gx Ax cx := fun w' hb => by
        have h1 := ((hox.out.below hb5).below (hb.mono hb5.size))
        have h2 : gx.es = l0.es.drop p := by rw [hgx]; rfl
        refine ⟨by rw [h2]; exact h1.reads, by rw [h2]; exact h1.room, h1.none_, ?_⟩
        rw [hgb, hgt]
        refine ⟨?_, ?_⟩
        · unfold InInt; omega
        · rcases p with _ | p
          · exact (HI.out w5 h5.out).num.2
          · rw [l0.at_succ p (by omega)]
            exact ((HI.out w5 h5.out).es.num _ (List.getElem_mem _)).1
      have HLx : Hid (∀ w', Below w5.heap.size w5 w' → Calls Try.prog 12 #[.agg #[.int .i64 i, .int .i64 (l0.at_ p), .slice Ax (l0.es.length - p) cx]] w' fun e w'' => e = .returned (.tuple #[.int .i64 (l0.base + (l0.es.length : Nat)), .int .i64 lt]) ∧ Below w'.heap.size w' w'') := hid (fun w' hb => by
        have h1 := last_any w4.heap.size gx Ax cx hgo.1 w' (hgi w' hb) (Nat.le_trans s45.out hb.size)
        rw [hgb, hgt, hge, hgx, Rl.from_last l0 p hp, Rl.from_lastT l0 p hp, ← HLT.out] at h1
        exact h1)
      have HTx : Hid (∀ w', Below w5.heap.size w5 w' → ∀ j : Nat, p + j ≤ l0.es.length → Calls Try.prog 14 #[.agg #[.int .i64 i, .int .i64 (l0.at_ p), .slice Ax (l0.es.length - p) cx], .int .i64 (i + (j : Int))] w' fun e w'' => e = .returned (.tuple #[.int .i64 (l0.at_ (p + j)), .bool true]) ∧ Below w'.heap.size w' w'') := hid (fun w' hb j hj => by
        have h1 := term_yes w4.heap.size gx Ax cx (i + (j : Int)) j (by rw [hgb]) (by omega) hgo.1 w' (hgi w' hb) (Nat.le_trans s45.out hb.size)
        rw [hgb, hgt, hge, hgx, Rl.from_at l0 p j hj] at h1
        exact h1)
      have HTo : Hid (∀ w', Below w5.heap.size w5 w' → Calls Try.prog 14 #[.agg #[.int .i64 i, .int .i64 (l0.at_ p), .slice Ax (l0.es.length - p) cx], .int .i64 (i - 1)] w' fun e w'' => e = .returned (.tuple #[.int .i64 0, .bool false]) ∧ Below w'.heap.size w' w'') := hid (fun w' hb => by
        have h1 := term_no w4.heap.size gx Ax cx (i - 1) hgo.1 (by rw [hgx, hip]; exact Rl.from_out l0 p) w' (hgi w' hb) (Nat.le_trans s45.out hb.size)
        rw [hgb, hgt, hge] at h1
        exact h1)
      have HSx : Hid (∀ w', Below w5.heap.size w5 w' → ∀ j : Nat, Calls Try.prog 16 #[.agg #[.int .i64 i, .int .i64 (l0.at_ p), .slice Ax (l0.es.length - p) cx], .int .i64 (i + (j : Int) + 1), .int .i64 1] w' fun e w'' => ∃ A' c', e = .returned (.slice A' (l0.slice (i + (j : Int) + 1) 1).length c') ∧ OwnE w'' w'.heap.size w''.heap.size A' c' (l0.slice (i + (j : Int) + 1) 1) ∧ Below w'.heap.size w' w'') := hid (fun w' hb j => by
        have h1 := slice_any w4.heap.size gx Ax cx (i + (j : Int) + 1) 1 hgo.1 hgo.2 w' (hgi w' hb) (Nat.le_trans s45.out hb.size)
        have e : gx.slice (i + (j : Int) + 1) 1 = l0.slice (i + (j : Int) + 1) 1 := by rw [hgx, hip]; exact Rl.from_slice l0 p j hp 1
        rw [hgb, hgt, hge, e] at h1
        exact h1)
      have HTl := hid (fun w' (hb : Below w5.heap.size w5 w') (j : Nat) (hj : p + j ≤ l0.es.length) => term_yes w.heap.size l0 a0 cap0 (i + (j : Int)) (p + j) (by omega) hj HF.out.1 w' (HI.out w' (HU.out w' hb)) (Nat.le_trans HB.out.size (HU.out w' hb).size))
      have HSl := hid (fun w' (hb : Below w5.heap.size w5 w') (j : Nat) => slice_any w.heap.size l0 a0 cap0 (i + (j : Int) + 1) 1 HF.out.1 HF.out.2.1 w' (HI.out w' (HU.out w' hb)) (Nat.le_trans HB.out.size (HU.out w' hb).size))
      have HW5 := hid hw5
      have hi0 : 0 ≤ i := by omega
      have hi1 : i ≤ 1099511637776 := by omega
      have hlast : i + ((l0.es.length - p : Nat) : Int) = l0.base + (l0.es.length : Nat) := by omega
      have HLS := hid hlast
      clear hgb hgt hge hgo hgi hgx hb5 hw5 hip hlast
      go_wp2_with fail
      rw [← HW5.out]
      refine (HLx.out w5 (Below.refl _ _)).mono ?_
      rintro e w6 ⟨rfl, hb6⟩
      have h6 := hid hb6
      clear x0 x1 x2
      obtain ⟨⟨x0, x1, x2⟩, ⟨y0, y1, y2⟩⟩ := HX5.out w6 hb6
      clear hb6
      obtain ⟨la, hla⟩ : ∃ la, la = l0.base + (l0.es.length : Nat) := ⟨_, rfl⟩
      rw [← hla]
      have HLA := hid hla
      have hla0 : la ≤ 2199023255552 := by omega
      have hla1 : 0 ≤ la := by omega
      clear hla hc1 hc2
      go_wp2_with fail
      go_loopw [11] (fun v wr => ∃ j : Nat, j ≤ l0.es.length - p + 1 ∧ v = .int .i64 (i + j) ∧ Hid (Below w5.heap.size w5 wr)) (fun v _ => (la + 1 - RowKit.intOf v).toNat)
      case atStart => exact ⟨0, by omega, by simp, h6⟩
      case round =>
        clear x0 x1 x2 y0 y1 y2
        obtain ⟨j, hj, rfl, hS⟩ := hrel
        obtain ⟨⟨x0, x1, x2⟩, ⟨y0, y1, y2⟩⟩ := HX5.out wr hS.out
        have hle := HLS.out
        have hla := HLA.out
        by_cases hlt : j ≤ l0.es.length - p
        · have hk0 : i + (j : Int) ≤ la := by omega
          have hpj : p + j ≤ l0.es.length := by have := HIP.out.2; omega
          have hij1 : i + (j : Int) ≤ 2199023255552 := by omega
          have hij0 : 0 ≤ i + (j : Int) := by omega
          have HT1 := hid (HTl.out wr hS.out j hpj)
          have HT2 := hid (fun w' hb => HTx.out w' hb j hpj)
          have HC1 := hid (fun w' hb => HSx.out w' hb j)
          have HC2 := hid (fun w' hb => HSl.out w' hb j)
          have hln := hid (slice_len l0 (i + (j : Int) + 1) 1 HF.out.2.2)
          generalize l0.slice (i + (j : Int) + 1) 1 = sl at HC1 HC2 hln
          generalize l0.at_ (p + j) = tv at HT1 HT2
          clear hle hla hlt
          go_wp2_with fail
          refine HT1.out.mono ?_
          rintro e w7 ⟨rfl, hb7⟩
          have h7 := hid (hS.out.trans (hb7.mono hS.out.size))
          clear x0 x1 x2 y0 y1 y2 hb7
          obtain ⟨⟨x0, x1, x2⟩, ⟨y0, y1, y2⟩⟩ := HX5.out w7 h7.out
          go_wp2_with fail
          refine (HT2.out w7 h7.out).mono ?_
          rintro e w8 ⟨rfl, hb8⟩
          have h8 := hid (h7.out.trans (hb8.mono h7.out.size))
          clear x0 x1 x2 y0 y1 y2 hb8
          obtain ⟨⟨x0, x1, x2⟩, ⟨y0, y1, y2⟩⟩ := HX5.out w8 h8.out
          have HXB : Hid (∀ w', Below w5.heap.size w5 w' → w'.cell? ⟨w.heap.size, 0, none⟩ = some (.int .i64 l0.base) ∧ w'.cell? ⟨w.heap.size, 1, none⟩ = some (.int .i64 l0.term) ∧ w'.cell? ⟨w.heap.size, 2, none⟩ = some (.slice a0 l0.es.length cap0) ∧ w'.cell? ⟨w4.heap.size, 0, none⟩ = some (.int .i64 i) ∧ w'.cell? ⟨w4.heap.size, 1, none⟩ = some (.int .i64 (l0.at_ p)) ∧ w'.cell? ⟨w4.heap.size, 2, none⟩ = some (.slice Ax (l0.es.length - p) cx)) := hid (fun w' hb => by
            obtain ⟨⟨a, b, c⟩, ⟨d, e, f⟩⟩ := HX5.out w' hb
            exact ⟨a, b, c, d, e, f⟩)
          have HSE := hid (fun w' A c A' c' (h1 : IsEnts w' w'.heap.size A sl) (h2 : IsEnts w' w'.heap.size A' sl) => ents_same A A' c c' _ _ sl sl rfl rfl hln.out w' h1 h2)
          have hB : Hid (Below w5.heap.size w5 w8.drew) := hid (Below.drew h8.out)
          go_wp2_with fail
          have hwr : IntKind.i64.wrap (i + (j : Int) + 1) = i + (j : Int) + 1 := by rw [IntKind.wrap_i64]; omega
          go_region_held3 (fun w' => w'.cell? ⟨w.heap.size, 0, none⟩ = some (.int .i64 l0.base) ∧ w'.cell? ⟨w.heap.size, 1, none⟩ = some (.int .i64 l0.term) ∧ w'.cell? ⟨w.heap.size, 2, none⟩ = some (.slice a0 l0.es.length cap0) ∧ w'.cell? ⟨w4.heap.size, 0, none⟩ = some (.int .i64 i) ∧ w'.cell? ⟨w4.heap.size, 1, none⟩ = some (.int .i64 (l0.at_ p)) ∧ w'.cell? ⟨w4.heap.size, 2, none⟩ = some (.slice Ax (l0.es.length - p) cx))
            (first | exact HXB.out _ hB.out | fail)
            (first
              | (go_at_call 16; (with_reducible refine (HC1.out _ hB.out).mono ?_); rintro e10 w10 ⟨A8, c8, rfl, ho8, hBn⟩; (try (have hE9 := hid ((hE9.out.below hBn).more hBn.size))); have hE8 := hid (ho8.reads); have hB := hid (hB.out.trans (hBn.mono hB.out.size)); clear hBn ho8)
              | (go_at_call 16; (with_reducible refine (HC2.out _ hB.out).mono ?_); rintro e10 w10 ⟨A9, c9, rfl, ho9, hBn⟩; (try (have hE8 := hid ((hE8.out.below hBn).more hBn.size))); have hE9 := hid (ho9.reads); have hB := hid (hB.out.trans (hBn.mono hB.out.size)); clear hBn ho9)
              | (go_at_call 19; (with_reducible refine (HSE.out _ _ _ _ _ hE8.out hE9.out).mono ?_); rintro e10 w10 ⟨rfl, hBn⟩; have hB := hid (hB.out.trans (hBn.mono hB.out.size)); clear hBn))
          all_goals
            (clear x0 x1 x2 y0 y1 y2 hwr
             go_wp2_with fail
             go_roundw
             case rel => exact ⟨j + 1, by omega, by go_num, hB⟩
             case measure => simp [RowKit.intOf]; omega)
        · have hj2 : j = l0.es.length - p + 1 := by omega
          have hk0 : ¬ i + (j : Int) ≤ la := by omega
          clear hle hla hlt hj2 hj
          go_wp2_with fail
          refine (HTo.out wr hS.out).mono ?_
          rintro e w7 ⟨rfl, hb7⟩
          have h7 := hid (hS.out.trans (hb7.mono hS.out.size))
          clear x0 x1 x2 y0 y1 y2 hb7
          have HK7 := hid (HK.out w7 (HU.out w7 h7.out))
          go_wp2_with fail
          refine HK7.out.mono ?_
          rintro e w8 ⟨rfl, hb8⟩
          have h8 := hid (HB.out.trans (hb8.mono HB.out.size))
          clear hb8
          go_wp2_with fail
          go_ret
          exact ⟨rfl, h8.out⟩

set_option maxRecDepth 100000 in
theorem lifted (os : Os) (started : os.Started) (H : Type) (enc : TypeId × Value → H) :
    ReturnsInHanded {} Try.checked os 6 .any (Rows.rlogCutSpec.pre6 enc Try.prog Try.f6 Rows.rlogCutRow.domain false) (Rows.rlogCutSpec.post enc Try.prog Try.f6 false true false false) := by
  refine returnsInHanded_of_change_sized (C := Try.checked) own started (by kernel_rfl) Try.func6
    (ChangeSpec.witness6 (enc := enc) (C := Try.checked) false ⟨#[], #[.agg #[.int .i64 0, .int .i64 0, .slice none 0 0], .int .i64 0], []⟩ 8 (by kernel_rfl) (by kernel_rfl) (by kernel_rfl) (by kernel_rfl)) ?_
  intro W base args ds gs before hval0 hW hcnd hsz0 _
  have hsz : (DataW.weightsEach Try.prog (Try.f6.params.toList ++ Rows.rlogCutSpec.plain.varTypes Try.prog) (ds ++ gs)).all (· ≤ reachBytes) = true := hsz0
  clear hsz0
  have hval : ∀ (j : Nat) t v, Try.f6.params[j]? = some t → args[j]? = some v → Value.okWide Try.prog W .any base t v := hval0
  have hW' := hW
  obtain ⟨p, q, hA0, hV, rfl, hfz, hnd⟩ := hW
  have hA : DataW.TrodAll enc Try.prog W 0 (fun _ => true) true Try.f6.params.toList args.toList ds p := hA0
  rw [Try.params6] at hA hval hsz
  obtain ⟨v0, vs0, d0, ds0, p0, q0, hargs, rfl, rfl, g0, t0⟩ := trodAll_cons hA
  obtain ⟨v1, vs1, d1, ds1, p1, q1, rfl, rfl, rfl, g1, t1⟩ := trodAll_cons t0
  obtain ⟨rfl, rfl, rfl⟩ := trodAll_nil t1
  obtain rfl : args = #[v0, v1] := by cases args; simp_all
  obtain ⟨rfl, rfl⟩ := trodVars_none hV
  obtain ⟨cs0, rfl, sz0⟩ := okWide_struct Try.underlying24 (hval 0 24 v0 rfl rfl)
  have m0 := g0
  have lt0 : ∀ x ∈ p0, x.block < W.heap.size := by obtain ⟨m, hm⟩ := m0; exact DataW.trod_lt m _ _ _ hm
  obtain ⟨l0, a0, cap0, rfl, k0⟩ := log_open sz0 g0
  obtain ⟨a1, rfl, rfl, rfl, w1⟩ := open_int Try.underlying3 (hval 1 3 v1 rfl rfl) g1
  have b1 := bounds_i64 w1
  clear hA0 hval0
  refine (walk l0 a0 cap0 a1 W k0 b1).mono fun e W' ⟨he, bel⟩ => ?_
  subst he
  exact ⟨_, rfl, _, _, _, [], _, [], hW', trodAll_mk1 (shut_bool Try.underlying4 _), (trodAll_cons_mk (Below.trod laidOut (by kernel_rfl) (of_decide_eq_true (by kernel_rfl)) m0 bel lt0) (trodAll_cons_mk (shut_int Try.underlying3 w1) trodAll_mk0)), rfl, bel.frame _, fun h => by cases h⟩

theorem over : Rows.rlogCutRow.holds Try.pinned (OpenSpec.ofChange Rows.rlogCutSpec) :=
  OpenClaim.holds_of_wide 6 Try.f6 rfl rfl rfl rfl rfl rfl rfl ⟨rfl, rfl, rfl, rfl, rfl⟩ rfl rfl rfl rfl rfl (by kernel_rfl) Try.func6 (by kernel_rfl)
    (of_decide_eq_true (by kernel_rfl)) (by unfold Func.isWrapper; first | (rw [if_pos (by decide +kernel)]; kernel_rfl) | (rw [if_neg (by decide +kernel)]; exact ⟨rfl, rfl⟩))
    (fun os started H enc _ => lifted os started H enc)

theorem proved : Rows.RlogCutSaid := over
end Go.Proofs.Ythocdknfkmclkaa.rlogCut
