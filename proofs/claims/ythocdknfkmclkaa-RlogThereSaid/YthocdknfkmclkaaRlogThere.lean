/- Behind Append the entries stand there as to their terms; those up to the index are as they were, and so is all, if nothing was laid; the same once more changes nothing. Conditions: none. -/
import Derived.Test.YthocdknfkmclkaaRows
import Derived.Test.YthocdknfkmclkaaRlThere
import Derived.Test.YthocdknfkmclkaaKitLog
import Derived.Test.YthocdknfkmclkaaRlE
import Derived.Deep.RegionHeld3
import Derived.WalkKit
import Derived.WalkLawsBesides
import Derived.ProofKit
import Derived.OpenShut
import Derived.ShutString
import Derived.ChangeOld
import Derived.Below
import Derived.SizedLaws
namespace Go.Proofs.Ythocdknfkmclkaa.rlogThere
open Go.ChangeShapes Go.WideShapes Go.ChangeAt Go.RowKit
open Go.ChangeMaps (open_string shut_string)
set_option linter.unusedVariables false

theorem own : ownKnob Try.prog.godebug = none := by kernel_rfl
theorem laidOut : laidOutB Try.prog = true := by kernel_rfl

set_option maxHeartbeats 3200000 in
set_option maxRecDepth 100000 in
theorem walk (l0 : Rl.Lg) (a0 : Option Addr) (cap0 : Nat) (i : Int) (a2 : Option Addr) (cap2 : Nat) (l2 : List Rl.En) (w : World)
    (k0 : LgIs w w.heap.size l0 a0 cap0) (b1 : -9223372036854775808 ≤ i ∧ i ≤ 9223372036854775807) (k2 : IsEnts w w.heap.size a2 l2) (n2 : l2.length ≤ cap2) (r2 : cap2 ≤ maxLen) (z2 : a2 = none → cap2 = 0) :
    Calls Try.prog 5 #[.agg #[.int .i64 l0.base, .int .i64 l0.term, .slice a0 l0.es.length cap0], .int .i64 i, .slice a2 l2.length cap2] w fun e w' => e = .returned (.bool true) ∧ Below w.heap.size w w' := by
  obtain ⟨w1, hw1⟩ : ∃ w1, w1 = w.alloc (.cells #[.int .i64 l0.base, .int .i64 l0.term, .slice a0 l0.es.length cap0] 24) := ⟨_, rfl⟩
  have hb1 : Below w.heap.size w w1 := by rw [hw1]; exact (Below.refl _ w).alloc (Nat.le_refl _) _
  have HB := hid hb1
  have HI := hid (fun w' (hb : Below w1.heap.size w1 w') => And.intro (k0.below (hb1.trans (hb.mono hb1.size))) (k2.below (hb1.trans (hb.mono hb1.size))))
  have HX := hid (fun w' (hb : Below w1.heap.size w1 w') => (box_new w w1 (.int .i64 l0.base) (.int .i64 l0.term) (.slice a0 l0.es.length cap0) 24 (by rw [hw1]; exact Below.refl _ _)).below hb)
  have HK := hid (at_base (w0 := w1) (f := 10) (args := #[]) (fun w' _ => known_any w'))
  have HR := hid (at_base (w0 := w1) (fun w' hb => right_any w.heap.size l0 a0 cap0 w' (k0.below (hb1.trans (hb.mono hb1.size))).es (Nat.le_trans hb1.size hb.size)))
  have HG := hid (fun w' (hb : Below w1.heap.size w1 w') => big_any w.heap.size a2 cap2 l2.length l2 rfl 2000 65536 (by omega) (by omega) w' (k2.below (hb1.trans (hb.mono hb1.size))))
  have H0 := hid (Below.refl w1.heap.size w1)
  have HW := hid hw1
  have HZ := hid (And.intro n2 (And.intro r2 z2))
  clear hb1 hw1 k0 b1 k2 n2 r2 z2
  go_enter Try.func5, Try.ntmps5
  go_wp2_with fail
  rw [← HW.out]
  refine (HR.out w1 H0.out).mono ?_
  rintro e w2 ⟨rfl, hb2⟩
  have h2 := hid hb2
  obtain ⟨x0, x1, x2⟩ := HX.out w2 hb2
  clear hb2
  rcases f0 : fits l0 with _ | _
  · have HF := hid f0
    clear f0
    go_wp2_with fail
    refine (HK.out w2 h2.out).mono ?_
    rintro e w3 ⟨rfl, hb3⟩
    have h3 := hid (HB.out.trans (hb3.mono HB.out.size))
    clear hb3
    go_wp2_with fail
    go_ret
    exact ⟨rfl, h3.out⟩
  · have HF := hid (fits_ok f0)
    clear f0
    go_wp2_with fail
    refine (HG.out w2 h2.out).mono ?_
    rintro e w2' ⟨rfl, hw2'⟩
    subst hw2'
    rcases f1 : big l2 2000 65536 with _ | _
    rotate_left
    · have HF1 := hid f1
      clear f1
      go_wp2_with fail
      refine (HK.out _ h2.out).mono ?_
      rintro e w3 ⟨rfl, hb3⟩
      have h3 := hid (HB.out.trans (hb3.mono HB.out.size))
      clear hb3
      go_wp2_with fail
      go_ret
      exact ⟨rfl, h3.out⟩
    · have HF2 := hid (big_few f1)
      clear f1
      have hHI := HI.out w2' h2.out
      have HA := hid (app_any w.heap.size l0 a0 a2 cap0 cap2 i l2.length l2 rfl (by have := HF2.out.1; omega) HF.out.1 HF.out.2.1 HF2.out.2 w2' hHI.1 hHI.2 ⟨HZ.out.1, HZ.out.2.1⟩ (Nat.le_trans HB.out.size h2.out.size))
      clear hHI
      obtain ⟨ix, hix⟩ : ∃ ix, ix = l0.appI i l2 := ⟨_, rfl⟩
      obtain ⟨es, hes⟩ : ∃ es, es = l0.appE i l2 := ⟨_, rfl⟩
      rw [← hix, ← hes] at HA
      have HE := hid (And.intro hix hes)
      clear hix hes
      go_wp2_with fail
      refine HA.out.mono ?_
      rintro e w3 ⟨Ax, cx, rfl, hox', hb3⟩
      have h3 := hid (h2.out.trans (hb3.mono h2.out.size))
      have s23 := hid hb3.size
      have hox := hid hox'
      clear x0 x1 x2 HA hox' hb3
      obtain ⟨x0, x1, x2⟩ := HX.out w3 h3.out
      have lx := (HX.out w3 h3.out).lt
      have nx := Nat.ne_of_lt lx
      obtain ⟨w4, hw4⟩ : ∃ w4, w4 = w3.alloc (.cells #[.int .i64 l0.base, .int .i64 l0.term, .slice Ax es.length cx] 24) := ⟨_, rfl⟩
      have hb4 : Below w3.heap.size w3 w4 := by rw [hw4]; exact (Below.refl _ w3).alloc (Nat.le_refl _) _
      have h4 := hid (h3.out.trans (hb4.mono h3.out.size))
      have s34 := hid hb4.size
      have HB4 := hid (HB.out.trans (h4.out.mono HB.out.size))
      have HU := hid (fun w' (hb : Below w4.heap.size w4 w') => h4.out.trans (hb.mono h4.out.size))
      have HX4 := hid (fun w' (hb : Below w4.heap.size w4 w') => And.intro (HX.out w' (HU.out w' hb)) ((box_new w3 w4 (.int .i64 l0.base) (.int .i64 l0.term) (.slice Ax es.length cx) 24 (by rw [hw4]; exact Below.refl _ _)).below hb))
      have HXB : Hid (∀ w', Below w4.heap.size w4 w' → w'.cell? ⟨w.heap.size, 0, none⟩ = some (.int .i64 l0.base) ∧ w'.cell? ⟨w.heap.size, 1, none⟩ = some (.int .i64 l0.term) ∧ w'.cell? ⟨w.heap.size, 2, none⟩ = some (.slice a0 l0.es.length cap0) ∧ w'.cell? ⟨w3.heap.size, 0, none⟩ = some (.int .i64 l0.base) ∧ w'.cell? ⟨w3.heap.size, 1, none⟩ = some (.int .i64 l0.term) ∧ w'.cell? ⟨w3.heap.size, 2, none⟩ = some (.slice Ax es.length cx)) := hid (fun w' hb => by
        obtain ⟨⟨a, b, c⟩, ⟨d, e, f⟩⟩ := HX4.out w' hb
        exact ⟨a, b, c, d, e, f⟩)
      have HEx := hid (fun w' (hb : Below w4.heap.size w4 w') => (show IsEnts w' w'.heap.size Ax es from ((hox.out.below hb4).below (hb.mono hb4.size)).reads.more (Nat.le_trans hb4.size hb.size)))
      have HEl := hid (fun w' (hb : Below w4.heap.size w4 w') => (show IsEnts w' w'.heap.size a0 l0.es from (HI.out w' (HU.out w' hb)).1.es.more (Nat.le_trans HB.out.size (HU.out w' hb).size)))
      have HEm := hid (fun w' (hb : Below w4.heap.size w4 w') => (show IsEnts w' w'.heap.size a2 l2 from (HI.out w' (HU.out w' hb)).2.more (Nat.le_trans HB.out.size (HU.out w' hb).size)))
      have HLl := hid (at_base (w0 := w4) (fun w' hb => last_any w.heap.size l0 a0 cap0 HF.out.1 w' (HI.out w' (HU.out w' hb)).1 (Nat.le_trans HB.out.size (HU.out w' hb).size)))
      have HK4 := hid (fun w' (hb : Below w4.heap.size w4 w') => HK.out w' (HU.out w' hb))
      have hel : es.length ≤ 4000 := by have := appE_len l0 i l2; rw [← HE.out.2] at this; have := HF.out.2.2; have := HF2.out.1; omega
      have HEL := hid hel
      have HSxl := hid (fun w' (hb : Below w4.heap.size w4 w') (he : es = l0.es) => log_same ⟨l0.base, l0.term, es⟩ l0 Ax a0 cx cap0 (by show es.length ≤ _; have := HEL.out; omega) w' (HEx.out w' hb) (HEl.out w' hb))
      have hla : l0.last = l0.base + (l0.es.length : Nat) := rfl
      obtain ⟨lt, hlt⟩ : ∃ lt, lt = l0.lastT := ⟨_, rfl⟩
      rw [hla, ← hlt] at HLl
      have HW4 := hid hw4
      obtain ⟨hB0, hB1⟩ : 0 ≤ l0.base ∧ l0.base ≤ 1099511637776 := HF.out.1.1
      have hlen := HF.out.2.2
      clear hla hlt hb4 hw4 hel
      go_wp2_with fail
      rw [← HW4.out]
      refine (HLl.out w4 (Below.refl _ _)).mono ?_
      rintro e w5 ⟨rfl, hb5⟩
      have h5 := hid hb5
      clear x0 x1 x2 lx nx
      obtain ⟨⟨x0, x1, x2⟩, ⟨y0, y1, y2⟩⟩ := HX4.out w5 hb5
      clear hb5
      rcases hh : l0.has i with _ | _
      · have hn := Rl.Lg.has_not.1 hh
        have he1 : es = l0.es := by rw [HE.out.2]; unfold Rl.Lg.appE; rw [if_neg (by rw [hh]; simp)]
        have he2 : ix = 0 := by rw [HE.out.1]; unfold Rl.Lg.appI; rw [if_neg (by rw [hh]; simp)]
        have hcase : i < l0.base ∨ ¬ i < l0.base ∧ l0.base + (l0.es.length : Nat) < i := by omega
        have HS := hid (HSxl.out w5 h5.out he1)
        have HE1 := hid he1
        have HD := hid (show decide ((⟨l0.base, l0.term, es⟩ : Rl.Lg) = l0) = true from decide_eq_true (by rw [he1]))
        rw [HD.out] at HS
        clear hn hh he1
        rcases hcase with hc | ⟨hc, hd⟩
        · go_wp2_with fail
          refine HS.out.mono ?_
          rintro e w6 ⟨rfl, hb6⟩
          have h6 := hid (h5.out.trans (hb6.mono h5.out.size))
          clear hb6
          go_wp2_with fail
          refine (HK4.out w6 h6.out).mono ?_
          rintro e w7 ⟨rfl, hb7⟩
          have h7 := hid (HB.out.trans (hb7.mono HB.out.size))
          clear hb7
          go_wp2_with fail
          go_ret
          exact ⟨rfl, h7.out⟩
        · go_wp2_with fail
          refine HS.out.mono ?_
          rintro e w6 ⟨rfl, hb6⟩
          have h6 := hid (h5.out.trans (hb6.mono h5.out.size))
          clear hb6
          go_wp2_with fail
          refine (HK4.out w6 h6.out).mono ?_
          rintro e w7 ⟨rfl, hb7⟩
          have h7 := hid (HB.out.trans (hb7.mono HB.out.size))
          clear hb7
          go_wp2_with fail
          go_ret
          exact ⟨rfl, h7.out⟩
      · obtain ⟨p, hip, hp, _⟩ := Rl.Lg.has_at hh
        have hc1 : ¬ i < l0.base := by omega
        have hc2 : ¬ l0.base + (l0.es.length : Nat) < i := by omega
        have hpm : p + l2.length ≤ es.length := by rw [HE.out.2, hip]; exact Rl.app_long l0 p hp l2
        -- the log that was laid
        have hgo : Rl.Ok (l0.app i l2) ∧ Rl.Few (l0.app i l2).es := by
          refine ⟨⟨⟨hB0, hB1⟩, trivial, ?_⟩, appE_few HF.out.2.1 HF2.out.2⟩
          show (l0.appE i l2).length ≤ _
          rw [← HE.out.2]; have := HEL.out; omega
        have hgi : ∀ w', Below w4.heap.size w4 w' → LgIs w' w'.heap.size (l0.app i l2) Ax cx := fun w' hb => by
          have e : (l0.app i l2).es = es := HE.out.2.symm
          exact ⟨by rw [e]; exact HEx.out w' hb, by rw [e]; exact hox.out.room, hox.out.none_, (HI.out w' (HU.out w' hb)).1.num⟩
        have hge : (l0.app i l2).es.length = es.length := by rw [HE.out.2]; rfl
        have HTx : Hid (∀ w', Below w4.heap.size w4 w' → ∀ (k : Nat) (hk : k < l2.length), Calls Try.prog 14 #[.agg #[.int .i64 l0.base, .int .i64 l0.term, .slice Ax es.length cx], .int .i64 (i + 1 + (k : Int))] w' fun e w'' => e = .returned (.tuple #[.int .i64 l2[k].t, .bool true]) ∧ Below w'.heap.size w' w'') := hid (fun w' hb k hk => by
          have h1 := term_yes w'.heap.size (l0.app i l2) Ax cx (i + 1 + (k : Int)) (p + k + 1) (by show _ = l0.base + _; omega) (by rw [hge]; omega) hgo.1 w' (hgi w' hb) (Nat.le_refl _)
          have e : (l0.app i l2).at_ (p + k + 1) = l2[k].t := by rw [hip]; exact Rl.app_at l0 p hp l2 k hk
          rw [hge, e] at h1
          exact h1)
        have HAx : Hid (∀ w', Below w4.heap.size w4 w' → Calls Try.prog 25 #[.agg #[.int .i64 l0.base, .int .i64 l0.term, .slice Ax es.length cx], .int .i64 i, .slice a2 l2.length cap2] w' fun e w'' => ∃ A2 c2, e = .returned (.tuple #[.agg #[.int .i64 l0.base, .int .i64 l0.term, .slice A2 es.length c2], .int .i64 0]) ∧ OwnE w'' w'.heap.size w''.heap.size A2 c2 es ∧ Below w'.heap.size w' w'') := hid (fun w' hb => by
          have h1 := app_any w'.heap.size (l0.app i l2) Ax a2 cx cap2 i l2.length l2 rfl (by have := HF2.out.1; omega) hgo.1 hgo.2 HF2.out.2 w' (hgi w' hb) (HEm.out w' hb) ⟨HZ.out.1, HZ.out.2.1⟩ (Nat.le_refl _)
          have e : (l0.app i l2).appE i l2 = es ∧ (l0.app i l2).appI i l2 = 0 := by rw [HE.out.2, hip]; exact Rl.app_again l0 p hp l2
          rw [hge, e.1, e.2] at h1
          exact h1)
        have HLx : Hid (∀ w', Below w4.heap.size w4 w' → ∃ tx, Calls Try.prog 12 #[.agg #[.int .i64 l0.base, .int .i64 l0.term, .slice Ax es.length cx]] w' fun e w'' => e = .returned (.tuple #[.int .i64 (l0.base + (es.length : Nat)), .int .i64 tx]) ∧ Below w'.heap.size w' w'') := hid (fun w' hb => by
          have h1 := last_any w'.heap.size (l0.app i l2) Ax cx hgo.1 w' (hgi w' hb) (Nat.le_refl _)
          have e : (l0.app i l2).last = l0.base + (es.length : Nat) := by rw [← hge]; rfl
          rw [hge, e] at h1
          exact ⟨_, h1⟩)
        have HTK : Hid (es.take p = l0.es.take p) := hid (by rw [HE.out.2, hip]; exact Rl.app_take l0 p hp l2)
        have HIP := hid (And.intro hip hp)
        have HPM := hid hpm
        have hcase : (∃ n : Nat, n < l2.length ∧ ix = i + (n : Nat) + 1 ∧ es.drop (p + n) = l2.drop n ∧ es.length = p + l2.length) ∨ (ix = 0 ∧ es = l0.es) := by
          rcases Rl.app_cases l0 p hp l2 with ⟨h1, h2, h3⟩ | ⟨h1, h2, h3⟩
          · left
            refine ⟨l0.there p l2, h1, by rw [HE.out.1, hip]; exact h3, ?_⟩
            rw [HE.out.2, hip]
            exact Rl.app_drop l0 p hp l2 h1
          · right
            exact ⟨by rw [HE.out.1, hip]; exact h3, by rw [HE.out.2, hip]; exact h2⟩
        have HCASE := hid hcase
        clear hh hip hp hgo hgi hge hcase hpm
        go_wp2_with fail
        clear x0 x1 x2 y0 y1 y2
        go_loopw [11] (fun v wr => ∃ k : Nat, k ≤ l2.length ∧ v = .int .i64 k ∧ Hid (Below w4.heap.size w4 wr)) (fun v _ => l2.length - (RowKit.intOf v).toNat)
        case atStart => exact ⟨0, by omega, rfl, h5⟩
        case round =>
          obtain ⟨k, hk, rfl, hS⟩ := hrel
          obtain ⟨⟨x0, x1, x2⟩, ⟨y0, y1, y2⟩⟩ := HX4.out wr hS.out
          have hp := HIP.out.2
          have hip := HIP.out.1
          by_cases hlt : k < l2.length
          · have hk0 : (k : Int) < (l2.length : Int) := by omega
            have hik : i + 1 + (k : Int) ≤ 2199023255552 := by have := HF2.out.1; omega
            have hi0 : 0 ≤ i := by omega
            obtain ⟨b, off, rfl, hbb, hc⟩ := (HEm.out wr hS.out).cells k hlt
            obtain ⟨Ad, cd, d0, _⟩ := hc k hlt
            have HD : Hid (∀ w', Below wr.heap.size wr w' → w'.cell? ⟨b, off + k * 3, none⟩ = some (.int .i64 l2[k].t)) := hid (fun w' hb => (hb.cell hbb).trans d0)
            have HT := hid (HTx.out wr hS.out k hlt)
            generalize l2[k].t = tv at HD HT
            clear hc d0 hp hip
            go_wp2_with fail
            refine HT.out.mono ?_
            rintro e w7 ⟨rfl, hb7⟩
            have d7 := HD.out w7 hb7
            have h7 := hid (hS.out.trans (hb7.mono hS.out.size))
            clear x0 x1 x2 y0 y1 y2 hb7
            go_wp2_with fail
            go_roundw
            case rel => exact ⟨k + 1, by omega, by go_num, h7⟩
            case measure => simp [RowKit.intOf]; omega
          · obtain rfl : k = l2.length := by omega
            have hk0 : ¬ (l2.length : Int) < (l2.length : Int) := by omega
            have hsub : i - l0.base = (p : Int) := by omega
            have hi0 : 0 ≤ i := by omega
            have hi1 : i ≤ 1099511727776 := by omega
            have hxp : decide (es.length < p) = false := decide_eq_false (by have := HPM.out; omega)
            have hpx : p ≤ cx := by have := HPM.out; have := hox.out.room; omega
            have hpl : p ≤ cap0 := by have := (HI.out w4 h4.out).1.room; omega
            have hpx0 : (p : Int) ≤ (cx : Int) := by omega
            have hpl0 : (p : Int) ≤ (cap0 : Int) := by omega
            have hlE : (es.take p).length = p := by rw [List.length_take]; have := HPM.out; omega
            have hlL : (l0.es.take p).length = p := by rw [List.length_take]; omega
            have HSE := hid (fun w' (hb : Below w4.heap.size w4 w') => ents_same Ax a0 cx cap0 p p (es.take p) (l0.es.take p) hlE hlL (by have := HEL.out; have := HPM.out; omega) w' ((HEx.out w' hb).take p) ((HEl.out w' hb).take p))
            have hDD := HTK.out
            rw [show decide (es.take p = l0.es.take p) = true from decide_eq_true hDD] at HSE
            have hB : Hid (Below w4.heap.size w4 wr.drew) := hid (Below.drew hS.out)
            clear hip hp hlE hlL hDD
            go_wp2_with fail
            go_region_held3 (fun w' => w'.cell? ⟨w.heap.size, 0, none⟩ = some (.int .i64 l0.base) ∧ w'.cell? ⟨w.heap.size, 1, none⟩ = some (.int .i64 l0.term) ∧ w'.cell? ⟨w.heap.size, 2, none⟩ = some (.slice a0 l0.es.length cap0) ∧ w'.cell? ⟨w3.heap.size, 0, none⟩ = some (.int .i64 l0.base) ∧ w'.cell? ⟨w3.heap.size, 1, none⟩ = some (.int .i64 l0.term) ∧ w'.cell? ⟨w3.heap.size, 2, none⟩ = some (.slice Ax es.length cx))
              (first | exact HXB.out _ hB.out | fail)
              (first
                | (go_at_call 19; (with_reducible refine (HSE.out _ hB.out).mono ?_); rintro e10 w10 ⟨rfl, hBn⟩; have hB := hid (hB.out.trans (hBn.mono hB.out.size)); clear hBn))
            clear x0 x1 x2 y0 y1 y2
            obtain ⟨⟨x0, x1, x2⟩, ⟨y0, y1, y2⟩⟩ := HX4.out w10 hB.out
            go_wp2_with fail
            clear hxp hpx hpl hpx0 hpl0
            refine (HAx.out w10 hB.out).mono ?_
            rintro e w11 ⟨Ay, cy, rfl, hoy, hb11⟩
            have h11 := hid (hB.out.trans (hb11.mono hB.out.size))
            have hEy := hid (hoy.reads)
            clear x0 x1 x2 y0 y1 y2 hoy
            have bx := HX4.out w11 h11.out
            have lx := bx.1.lt
            have ly := bx.2.lt
            have nx := Nat.ne_of_lt lx
            have ny := Nat.ne_of_lt ly
            obtain ⟨⟨x0, x1, x2⟩, ⟨y0, y1, y2⟩⟩ := bx
            clear hb11
            obtain ⟨w12, hw12⟩ : ∃ w12, w12 = w11.alloc (.cells #[.int .i64 l0.base, .int .i64 l0.term, .slice Ay es.length cy] 24) := ⟨_, rfl⟩
            have hb12 : Below w11.heap.size w11 w12 := by rw [hw12]; exact (Below.refl _ w11).alloc (Nat.le_refl _) _
            have h12 := hid (h11.out.trans (hb12.mono h11.out.size))
            have HS : Hid (Calls Try.prog 22 #[.agg #[.int .i64 l0.base, .int .i64 l0.term, .slice Ax es.length cx], .agg #[.int .i64 l0.base, .int .i64 l0.term, .slice Ay es.length cy]] w12 fun e w'' => e = .returned (.bool true) ∧ Below w12.heap.size w12 w'') := hid (by
              have := log_same ⟨l0.base, l0.term, es⟩ ⟨l0.base, l0.term, es⟩ Ax Ay cx cy (by show es.length ≤ _; have := HEL.out; omega) w12 (HEx.out w12 h12.out) ((hEy.out.below hb12).more hb12.size)
              rwa [decide_eq_true rfl] at this)
            have HW12 := hid hw12
            clear hb12 hw12
            go_wp2_with fail
            rw [← HW12.out]
            refine HS.out.mono ?_
            rintro e w13 ⟨rfl, hb13⟩
            have h13 := hid (h12.out.trans (hb13.mono h12.out.size))
            clear x0 x1 x2 y0 y1 y2 lx ly nx ny hb13 HS
            obtain ⟨⟨x0, x1, x2⟩, ⟨y0, y1, y2⟩⟩ := HX4.out w13 h13.out
            rcases HCASE.out with ⟨n, hn, hixn, hdrop, hlenx⟩ | ⟨hix0, hes0⟩
            · obtain ⟨q, hq⟩ : ∃ q, q = p + n := ⟨_, rfl⟩
              rw [← hq] at hdrop
              have hip := HIP.out.1
              have hm2 := HF2.out.1
              obtain ⟨A1, hA1⟩ : ∃ A1, (if cx = q then Ax else Ax.map (fun x => x.add (q * 3))) = A1 := ⟨_, rfl⟩
              obtain ⟨B1, hB1⟩ : ∃ B1, (if cap2 = n then a2 else a2.map (fun x => x.add (n * 3))) = B1 := ⟨_, rfl⟩
              have HSE := hid (fun w' (hb : Below w4.heap.size w4 w') c8 c9 => ents_same A1 B1 c8 c9 (es.length - q) (l2.length - n) (es.drop q) (l2.drop n) List.length_drop List.length_drop (by have := HEL.out; omega) w' (by rw [← hA1]; exact (HEx.out w' hb).sl hox.out.room.1) (by rw [← hB1]; exact (HEm.out w' hb).sl HZ.out.1))
              rw [show decide (es.drop q = l2.drop n) = true from decide_eq_true hdrop] at HSE
              obtain ⟨tx, HL⟩ := HLx.out w13 h13.out
              rw [show l0.base + (es.length : Nat) = i + (l2.length : Nat) from by omega] at HL
              have HLc := hid HL
              have hne : ¬ ix = 0 := by omega
              have g1 : decide (i < ix) = true := decide_eq_true (by omega)
              have g2 : decide (ix ≤ i + (l2.length : Int)) = true := decide_eq_true (by omega)
              have hqe : (q : Int) ≤ (es.length : Int) := by omega
              have hqe' : q ≤ es.length := by omega
              have hnm : (n : Int) ≤ (l2.length : Int) := by omega
              have hnm' : n ≤ l2.length := by omega
              have HK5 := hid (at_base (w0 := w4) (f := 10) (args := #[]) (fun w' _ => known_any w'))
              have HWR := hid (And.intro (show IntKind.i64.wrap (i + (l2.length : Int)) = i + (l2.length : Int) from by rw [IntKind.wrap_i64]; omega) (And.intro (show IntKind.i64.wrap (ix - l0.base) = (q : Int) + 1 from by rw [IntKind.wrap_i64]; omega) (And.intro (show IntKind.i64.wrap (ix - i) = (n : Int) + 1 from by rw [IntKind.wrap_i64]; omega) (And.intro (show IntKind.i64.wrap (q : Int) = (q : Int) from by rw [IntKind.wrap_i64]; omega) (show IntKind.i64.wrap (n : Int) = (n : Int) from by rw [IntKind.wrap_i64]; omega)))))
              clear hq hdrop hip hixn hlenx HL hm2
              go_wp2_with fail
              refine HLc.out.mono ?_
              rintro e w14 ⟨rfl, hb14⟩
              have h14 := hid (h13.out.trans (hb14.mono h13.out.size))
              clear hb14 x0 x1 x2 y0 y1 y2
              obtain ⟨⟨x0, x1, x2⟩, ⟨y0, y1, y2⟩⟩ := HX4.out w14 h14.out
              have hB : Hid (Below w4.heap.size w4 w14.drew) := hid (Below.drew h14.out)
              go_wp2_with fail
              obtain ⟨wr1, wr2, wr3, wr4, wr5⟩ := HWR.out
              go_region_held3 (fun w' => w'.cell? ⟨w.heap.size, 0, none⟩ = some (.int .i64 l0.base) ∧ w'.cell? ⟨w.heap.size, 1, none⟩ = some (.int .i64 l0.term) ∧ w'.cell? ⟨w.heap.size, 2, none⟩ = some (.slice a0 l0.es.length cap0) ∧ w'.cell? ⟨w3.heap.size, 0, none⟩ = some (.int .i64 l0.base) ∧ w'.cell? ⟨w3.heap.size, 1, none⟩ = some (.int .i64 l0.term) ∧ w'.cell? ⟨w3.heap.size, 2, none⟩ = some (.slice Ax es.length cx))
                (first | exact HXB.out _ hB.out | fail)
                (first
                  | (go_at_call 19; (with_reducible refine (HSE.out _ hB.out _ _).mono ?_); rintro e10 w15 ⟨rfl, hBn⟩; have hB := hid (hB.out.trans (hBn.mono hB.out.size)); clear hBn)
                  | (go_at_call 10; (with_reducible refine (HK5.out _ hB.out).mono ?_); rintro e10 w15 ⟨rfl, hBn⟩; have hB := hid hBn; clear hBn))
              clear wr1 wr2 wr3 wr4 wr5 x0 x1 x2 y0 y1 y2
              have h16 := hid (HB4.out.trans (hB.out.mono HB4.out.size))
              go_wp2_with fail
              go_ret
              exact ⟨rfl, h16.out⟩
            · have HS := hid (HSxl.out w13 h13.out hes0)
              have HD := hid (show decide ((⟨l0.base, l0.term, es⟩ : Rl.Lg) = l0) = true from decide_eq_true (by rw [hes0]))
              rw [HD.out] at HS
              clear hes0
              go_wp2_with fail
              refine HS.out.mono ?_
              rintro e w14 ⟨rfl, hb14⟩
              have h14 := hid (h13.out.trans (hb14.mono h13.out.size))
              clear hb14 x0 x1 x2 y0 y1 y2
              go_wp2_with fail
              refine (HK4.out w14 h14.out).mono ?_
              rintro e w15 ⟨rfl, hb15⟩
              have h15 := hid (HB.out.trans (hb15.mono HB.out.size))
              clear hb15
              go_wp2_with fail
              go_ret
              exact ⟨rfl, h15.out⟩

set_option maxRecDepth 100000 in
theorem lifted (os : Os) (started : os.Started) (H : Type) (enc : TypeId × Value → H) :
    ReturnsInHanded {} Try.checked os 5 .any (Rows.rlogThereSpec.pre6 enc Try.prog Try.f5 Rows.rlogThereRow.domain false) (Rows.rlogThereSpec.post enc Try.prog Try.f5 false true false false) := by
  refine returnsInHanded_of_change_sized (C := Try.checked) own started (by kernel_rfl) Try.func5
    (ChangeSpec.witness6 (enc := enc) (C := Try.checked) false ⟨#[], #[.agg #[.int .i64 0, .int .i64 0, .slice none 0 0], .int .i64 0, .slice none 0 0], []⟩ 8 (by kernel_rfl) (by kernel_rfl) (by kernel_rfl) (by kernel_rfl)) ?_
  intro W base args ds gs before hval0 hW hcnd hsz0 _
  have hsz : (DataW.weightsEach Try.prog (Try.f5.params.toList ++ Rows.rlogThereSpec.plain.varTypes Try.prog) (ds ++ gs)).all (· ≤ reachBytes) = true := hsz0
  clear hsz0
  have hval : ∀ (j : Nat) t v, Try.f5.params[j]? = some t → args[j]? = some v → Value.okWide Try.prog W .any base t v := hval0
  have hW' := hW
  obtain ⟨p, q, hA0, hV, rfl, hfz, hnd⟩ := hW
  have hA : DataW.TrodAll enc Try.prog W 0 (fun _ => true) true Try.f5.params.toList args.toList ds p := hA0
  rw [Try.params5] at hA hval hsz
  obtain ⟨v0, vs0, d0, ds0, p0, q0, hargs, rfl, rfl, g0, t0⟩ := trodAll_cons hA
  obtain ⟨v1, vs1, d1, ds1, p1, q1, rfl, rfl, rfl, g1, t1⟩ := trodAll_cons t0
  obtain ⟨v2, vs2, d2, ds2, p2, q2, rfl, rfl, rfl, g2, t2⟩ := trodAll_cons t1
  obtain ⟨rfl, rfl, rfl⟩ := trodAll_nil t2
  obtain rfl : args = #[v0, v1, v2] := by cases args; simp_all
  obtain ⟨rfl, rfl⟩ := trodVars_none hV
  obtain ⟨cs0, rfl, sz0⟩ := okWide_struct Try.underlying24 (hval 0 24 v0 rfl rfl)
  have m0 := g0
  have lt0 : ∀ x ∈ p0, x.block < W.heap.size := by obtain ⟨m, hm⟩ := m0; exact DataW.trod_lt m _ _ _ hm
  obtain ⟨l0, a0, cap0, rfl, k0⟩ := log_open sz0 g0
  obtain ⟨a1, rfl, rfl, rfl, w1⟩ := open_int Try.underlying3 (hval 1 3 v1 rfl rfl) g1
  have b1 := bounds_i64 w1
  obtain ⟨a2, len2, cap2, rfl⟩ := okWide_slice Try.underlying22 (hval 2 22 v2 rfl rfl)
  have m2 := g2
  have lt2 : ∀ x ∈ p2, x.block < W.heap.size := by obtain ⟨m, hm⟩ := m2; exact DataW.trod_lt m _ _ _ hm
  obtain ⟨l2, k2, rfl, n2, r2, z2⟩ : ∃ l, IsEnts W W.heap.size a2 l ∧ len2 = l.length ∧ l.length ≤ cap2 ∧ cap2 ≤ maxLen ∧ (a2 = none → cap2 = 0) := by
    obtain ⟨fuel, hf⟩ := g2
    obtain ⟨a, c, ts, hcs, h1, h2, h3⟩ := ents_of_trod hf
    simp [Value.cells] at hcs
    obtain ⟨rfl, rfl, rfl⟩ := hcs
    exact ⟨ts, h1, rfl, h2.1, h2.2, h3⟩
  clear hA0 hval0
  refine (walk l0 a0 cap0 a1 a2 cap2 l2 W k0 b1 k2 n2 r2 z2).mono fun e W' ⟨he, bel⟩ => ?_
  subst he
  exact ⟨_, rfl, _, _, _, [], _, [], hW', trodAll_mk1 (shut_bool Try.underlying4 _), (trodAll_cons_mk (Below.trod laidOut (by kernel_rfl) (of_decide_eq_true (by kernel_rfl)) m0 bel lt0) (trodAll_cons_mk (shut_int Try.underlying3 w1) (trodAll_cons_mk (Below.trod laidOut (by kernel_rfl) (of_decide_eq_true (by kernel_rfl)) m2 bel lt2) trodAll_mk0))), rfl, bel.frame _, fun h => by cases h⟩

theorem over : Rows.rlogThereRow.holds Try.pinned (OpenSpec.ofChange Rows.rlogThereSpec) :=
  OpenClaim.holds_of_wide 5 Try.f5 rfl rfl rfl rfl rfl rfl rfl ⟨rfl, rfl, rfl, rfl, rfl⟩ rfl rfl rfl rfl rfl (by kernel_rfl) Try.func5 (by kernel_rfl)
    (of_decide_eq_true (by kernel_rfl)) (by unfold Func.isWrapper; first | (rw [if_pos (by decide +kernel)]; kernel_rfl) | (rw [if_neg (by decide +kernel)]; exact ⟨rfl, rfl⟩))
    (fun os started H enc _ => lifted os started H enc)

theorem proved : Rows.RlogThereSaid := over
end Go.Proofs.Ythocdknfkmclkaa.rlogThere
