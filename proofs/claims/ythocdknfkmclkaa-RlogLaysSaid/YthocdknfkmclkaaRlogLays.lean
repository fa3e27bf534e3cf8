/- Entries that are laid behind any index, and logs that are cut at any, are as the document says; what is handed in stays, what is handed out is new memory. Conditions: none. -/
import Derived.Test.YthocdknfkmclkaaRows
import Derived.Test.YthocdknfkmclkaaRlLaw
import Derived.Test.YthocdknfkmclkaaKitLog
import Derived.Test.YthocdknfkmclkaaRlC
import Derived.Test.YthocdknfkmclkaaRlE
import Derived.Test.YthocdknfkmclkaaRlRefB
import Derived.Test.YthocdknfkmclkaaRlRefH
import Derived.Test.YthocdknfkmclkaaSpoilEn
import Derived.WalkKit
import Derived.WalkLawsBesides
import Derived.ProofKit
import Derived.OpenShut
import Derived.ShutString
import Derived.ChangeOld
import Derived.Below
import Derived.SizedLaws
namespace Go.Proofs.Ythocdknfkmclkaa.rlogLays
open Go.ChangeShapes Go.WideShapes Go.ChangeAt Go.RowKit
open Go.ChangeMaps (open_string shut_string)
set_option linter.unusedVariables false

theorem own : ownKnob Try.prog.godebug = none := by kernel_rfl
theorem laidOut : laidOutB Try.prog = true := by kernel_rfl

set_option maxHeartbeats 3200000 in
set_option maxRecDepth 100000 in
theorem walk (l0 : Rl.Lg) (a0 : Option Addr) (cap0 : Nat) (i : Int) (a2 : Option Addr) (cap2 : Nat) (l2 : List Rl.En) (w : World)
    (k0 : LgIs w w.heap.size l0 a0 cap0) (b1 : -9223372036854775808 ≤ i ∧ i ≤ 9223372036854775807) (k2 : IsEnts w w.heap.size a2 l2) (n2 : l2.length ≤ cap2) (r2 : cap2 ≤ maxLen) (z2 : a2 = none → cap2 = 0) :
    Calls Try.prog 4 #[.agg #[.int .i64 l0.base, .int .i64 l0.term, .slice a0 l0.es.length cap0], .int .i64 i, .slice a2 l2.length cap2] w fun e w' => e = .returned (.bool true) ∧ Below w.heap.size w w' := by
  obtain ⟨w1, hw1⟩ : ∃ w1, w1 = w.alloc (.cells #[.int .i64 l0.base, .int .i64 l0.term, .slice a0 l0.es.length cap0] 24) := ⟨_, rfl⟩
  have hb1 : Below w.heap.size w w1 := by rw [hw1]; exact (Below.refl _ w).alloc (Nat.le_refl _) _
  have HB := hid hb1
  have HI := hid (fun w' (hb : Below w1.heap.size w1 w') => And.intro (k0.below (hb1.trans (hb.mono hb1.size))) (k2.below (hb1.trans (hb.mono hb1.size))))
  have HX := hid (fun w' (hb : Below w1.heap.size w1 w') => (box_new w w1 (.int .i64 l0.base) (.int .i64 l0.term) (.slice a0 l0.es.length cap0) 24 (by rw [hw1]; exact Below.refl _ _)).below hb)
  have HK := hid (at_base (w0 := w1) (f := 10) (args := #[]) (fun w' _ => known_any w'))
  have HR := hid (at_base (w0 := w1) (fun w' hb => right_any w.heap.size l0 a0 cap0 w' (k0.below (hb1.trans (hb.mono hb1.size))).es (Nat.le_trans hb1.size hb.size)))
  have HG := hid (fun w' (hb : Below w1.heap.size w1 w') => big_any w.heap.size a2 cap2 l2.length l2 rfl 2000 65536 (by omega) (by omega) w' (k2.below (hb1.trans (hb.mono hb1.size))))
  have H0 := hid (Below.refl w1.heap.size w1)
  have HW := hid hw1
  have HZ := hid (And.intro n2 (And.intro r2 z2))
  clear hb1 hw1 k0 b1 k2 n2 r2 z2
  go_enter Try.func4, Try.ntmps4
  go_wp2_with fail
  rw [← HW.out]
  refine (HR.out w1 H0.out).mono ?_
  rintro e w2 ⟨rfl, hb2⟩
  have h2 := hid hb2
  obtain ⟨x0, x1, x2⟩ := HX.out w2 hb2
  clear hb2
  rcases f0 : fits l0 with _ | _
  · have HF := hid f0
    clear f0
    go_wp2_with fail
    refine (HK.out w2 h2.out).mono ?_
    rintro e w3 ⟨rfl, hb3⟩
    have h3 := hid (HB.out.trans (hb3.mono HB.out.size))
    clear hb3
    go_wp2_with fail
    go_ret
    exact ⟨rfl, h3.out⟩
  · have HF := hid (fits_ok f0)
    clear f0
    go_wp2_with fail
    refine (HG.out w2 h2.out).mono ?_
    rintro e w2' ⟨rfl, hw2'⟩
    subst hw2'
    rcases f1 : big l2 2000 65536 with _ | _
    rotate_left
    · have HF1 := hid f1
      clear f1
      go_wp2_with fail
      refine (HK.out _ h2.out).mono ?_
      rintro e w3 ⟨rfl, hb3⟩
      have h3 := hid (HB.out.trans (hb3.mono HB.out.size))
      clear hb3
      go_wp2_with fail
      go_ret
      exact ⟨rfl, h3.out⟩
    · have HF2 := hid (big_few f1)
      clear f1
      have HC := hid (copyLog_any l0 a0 cap0 _ rfl (by have := HF.out.2.2; omega) HF.out.2.1 w2' ((HI.out w2' h2.out).1.es.more (Nat.le_trans HB.out.size h2.out.size)))
      go_wp2_with fail
      refine HC.out.mono ?_
      rintro e w3 ⟨A3, c3, rfl, ho3, hb3⟩
      have h3 := hid (h2.out.trans (hb3.mono h2.out.size))
      have s23 := hid hb3.size
      have ho := hid ho3
      clear ho3 hb3 HC x0 x1 x2
      obtain ⟨x0, x1, x2⟩ := HX.out w3 h3.out
      obtain ⟨w4, hw4⟩ : ∃ w4, w4 = w3.alloc (.cells #[.int .i64 l0.base, .int .i64 l0.term, .slice A3 l0.es.length c3] 24) := ⟨_, rfl⟩
      have hb4 : Below w3.heap.size w3 w4 := by rw [hw4]; exact (Below.refl _ w3).alloc (Nat.le_refl _) _
      have hbw4 := h3.out.trans (hb4.mono h3.out.size)
      have HB4 := hid (HB.out.trans (hbw4.mono HB.out.size))
      have HS4 := hid (And.intro hb4.size (Nat.le_trans HB.out.size hbw4.size))
      have HU4 := hid (fun w' (hb : Below w4.heap.size w4 w') => hbw4.trans (hb.mono hbw4.size))
      -- the log, its copy and the entries, as long as nothing ahead of w4 is written
      have HN := hid (fun w' (hb : Below w4.heap.size w4 w') => And.intro (HI.out w' (HU4.out w' hb)).1 (And.intro (show LgIs w' w3.heap.size l0 A3 c3 from ⟨((ho.out.below hb4).below (hb.mono hb4.size)).reads, ho.out.room, ho.out.none_, (HI.out w4 hbw4).1.num⟩) (HI.out w' (HU4.out w' hb)).2))
      have HX4 := hid (fun w' (hb : Below w4.heap.size w4 w') => (show Box w' w.heap.size (.int .i64 l0.base) (.int .i64 l0.term) (.slice a0 l0.es.length cap0) ∧ Box w' w3.heap.size (.int .i64 l0.base) (.int .i64 l0.term) (.slice A3 l0.es.length c3) from
        ⟨HX.out w' (HU4.out w' hb), (box_new w3 w4 (.int .i64 l0.base) (.int .i64 l0.term) (.slice A3 l0.es.length c3) 24 (by rw [hw4]; exact Below.refl _ _)).below hb⟩))
      have HCE := hid (copyE_any w.heap.size a2 cap2 _ l2 rfl (by have := HF2.out.1; omega) HF2.out.2 w4 (HN.out w4 (Below.refl _ _)).2.2 HS4.out.2)
      have HW4 := hid hw4
      clear hb4 hbw4 hw4
      go_wp2_with fail
      rw [← HW4.out]
      refine HCE.out.mono ?_
      rintro e w5 ⟨A5, c5, rfl, ho5', hb5⟩
      have h5 := hid hb5
      have ho5 := hid ho5'
      clear x0 x1 x2 ho5' HCE
      obtain ⟨⟨x0, x1, x2⟩, ⟨y0, y1, y2⟩⟩ := HX4.out w5 hb5
      have HA := hid (app_any w5.heap.size l0 A3 A5 c3 c5 i l2.length l2 rfl (by have := HF2.out.1; omega) HF.out.1 HF.out.2.1 HF2.out.2 w5 ((HN.out w5 hb5).2.1.more (Nat.le_trans HS4.out.1 hb5.size)) ho5.out.reads ho5.out.room (Nat.le_refl _))
      clear hb5
      go_wp2_with fail
      refine HA.out.mono ?_
      rintro e w6 ⟨Ax, cx, rfl, hox', hb6⟩
      have s56 := hid hb6.size
      have h6 := hid (h5.out.trans (hb6.mono h5.out.size))
      have h56 := hid hb6
      have hox := hid hox'
      clear x0 x1 x2 y0 y1 y2 hox' HA
      obtain ⟨⟨x0, x1, x2⟩, ⟨y0, y1, y2⟩⟩ := HX4.out w6 h6.out
      have lx6 := (HX4.out w6 h6.out).1.lt
      have ly6 := (HX4.out w6 h6.out).2.lt
      have nx6 := Nat.ne_of_lt lx6
      have ny6 := Nat.ne_of_lt ly6
      clear hb6
      obtain ⟨w7, hw7⟩ : ∃ w7, w7 = w6.alloc (.cells #[.int .i64 l0.base, .int .i64 l0.term, .slice Ax (l0.appE i l2).length cx] 24) := ⟨_, rfl⟩
      have hb7 : Below w6.heap.size w6 w7 := by rw [hw7]; exact (Below.refl _ w6).alloc (Nat.le_refl _) _
      have h7 := hid (h6.out.trans (hb7.mono h6.out.size))
      have s67 := hid hb7.size
      have h57 := hid (h56.out.trans (hb7.mono h56.out.size))
      have HX7 := hid (fun w' (hb : Below w7.heap.size w7 w') => (box_new w6 w7 (.int .i64 l0.base) (.int .i64 l0.term) (.slice Ax (l0.appE i l2).length cx) 24 (by rw [hw7]; exact Below.refl _ _)).below hb)
      have HOx := hid (fun w' (hb : Below w7.heap.size w7 w') => (hox.out.below hb7).below (hb.mono hb7.size))
      have HA2 := hid (refApp_any w.heap.size l0 a0 a2 cap0 cap2 i l2.length l2 rfl (by have := HF2.out.1; omega) HF.out.1 HF.out.2.1 HF2.out.2 w7 (HN.out w7 h7.out).1 (HN.out w7 h7.out).2.2 (Nat.le_trans HS4.out.2 h7.out.size))
      have HW7 := hid hw7
      clear hb7 hw7
      go_wp2_with fail
      rw [← HW7.out]
      refine HA2.out.mono ?_
      rintro e w8 ⟨Ay, cy, rfl, hoy', hb8⟩
      have h78 := hid hb8
      have h8 := hid (h7.out.trans (hb8.mono h7.out.size))
      have hoy := hid hoy'
      clear x0 x1 x2 y0 y1 y2 hoy' HA2 hb8
      obtain ⟨⟨x0, x1, x2⟩, ⟨y0, y1, y2⟩⟩ := HX4.out w8 h8.out
      have lx8 := (HX4.out w8 h8.out).1.lt
      have ly8 := (HX4.out w8 h8.out).2.lt
      have nx8 := Nat.ne_of_lt lx8
      have ny8 := Nat.ne_of_lt ly8
      obtain ⟨w9, hw9⟩ : ∃ w9, w9 = w8.alloc (.cells #[.int .i64 l0.base, .int .i64 l0.term, .slice Ay (l0.appE i l2).length cy] 24) := ⟨_, rfl⟩
      have hb9 : Below w8.heap.size w8 w9 := by rw [hw9]; exact (Below.refl _ w8).alloc (Nat.le_refl _) _
      have h9 := hid (h8.out.trans (hb9.mono h8.out.size))
      have h79 := hid (h78.out.trans (hb9.mono h78.out.size))
      have s89 := hid hb9.size
      have HX9 := hid (fun w' (hb : Below w9.heap.size w9 w') => (box_new w8 w9 (.int .i64 l0.base) (.int .i64 l0.term) (.slice Ay (l0.appE i l2).length cy) 24 (by rw [hw9]; exact Below.refl _ _)).below hb)
      have HOy := hid (fun w' (hb : Below w9.heap.size w9 w') => ((hoy.out.below hb9).below (hb.mono hb9.size)).reads.more (Nat.le_trans hb9.size hb.size))
      have HC1 := hid (cut_any w3.heap.size l0 A3 c3 i HF.out.1 HF.out.2.1 w9 (HN.out w9 h9.out).2.1 (Nat.le_trans HS4.out.1 h9.out.size))
      have HW9 := hid hw9
      clear hb9 hw9
      go_wp2_with fail
      rw [← HW9.out]
      refine HC1.out.mono ?_
      rintro e w10 ⟨Ac, cc, rfl, hoc', hb10⟩
      have h910 := hid hb10
      have h10 := hid (h9.out.trans (hb10.mono h9.out.size))
      have hoc := hid hoc'
      clear x0 x1 x2 y0 y1 y2 hoc' HC1 hb10
      obtain ⟨⟨x0, x1, x2⟩, ⟨y0, y1, y2⟩⟩ := HX4.out w10 h10.out
      have lx10 := (HX4.out w10 h10.out).1.lt
      have ly10 := (HX4.out w10 h10.out).2.lt
      have nx10 := Nat.ne_of_lt lx10
      have ny10 := Nat.ne_of_lt ly10
      obtain ⟨w11, hw11⟩ : ∃ w11, w11 = w10.alloc (.cells #[.int .i64 (l0.cut i).base, .int .i64 (l0.cut i).term, .slice Ac (l0.cut i).es.length cc] 24) := ⟨_, rfl⟩
      have hb11 : Below w10.heap.size w10 w11 := by rw [hw11]; exact (Below.refl _ w10).alloc (Nat.le_refl _) _
      have h11 := hid (h10.out.trans (hb11.mono h10.out.size))
      have h911 := hid (h910.out.trans (hb11.mono h910.out.size))
      have s1011 := hid hb11.size
      have HX11 := hid (fun w' (hb : Below w11.heap.size w11 w') => (box_new w10 w11 (.int .i64 (l0.cut i).base) (.int .i64 (l0.cut i).term) (.slice Ac (l0.cut i).es.length cc) 24 (by rw [hw11]; exact Below.refl _ _)).below hb)
      have HOc := hid (fun w' (hb : Below w11.heap.size w11 w') => (hoc.out.below hb11).below (hb.mono hb11.size))
      have HC2 := hid (refCut_any w.heap.size l0 a0 cap0 i HF.out.1 HF.out.2.1 w11 (HN.out w11 h11.out).1 (Nat.le_trans HS4.out.2 h11.out.size))
      have HW11 := hid hw11
      clear hb11 hw11
      go_wp2_with fail
      rw [← HW11.out]
      refine HC2.out.mono ?_
      rintro e w12 ⟨Ad, cd, rfl, hod', hb12⟩
      have h1112 := hid hb12
      have h12 := hid (h11.out.trans (hb12.mono h11.out.size))
      have hod := hid hod'
      clear x0 x1 x2 y0 y1 y2 hod' HC2 hb12
      obtain ⟨w13, hw13⟩ : ∃ w13, w13 = w12.alloc (.cells #[.int .i64 (l0.cut i).base, .int .i64 (l0.cut i).term, .slice Ad (l0.cut i).es.length cd] 24) := ⟨_, rfl⟩
      have hb13 : Below w12.heap.size w12 w13 := by rw [hw13]; exact (Below.refl _ w12).alloc (Nat.le_refl _) _
      have h1113 := hid (h1112.out.trans (hb13.mono h1112.out.size))
      have h913 := hid (h911.out.trans (h1113.out.mono h911.out.size))
      have h713 := hid (h79.out.trans (h913.out.mono h79.out.size))
      have h13 := hid (h7.out.trans (h713.out.mono h7.out.size))
      have h712 := hid (h79.out.trans ((h911.out.trans (h1112.out.mono h911.out.size)).mono h79.out.size))
      have bx := HX7.out w12 h712.out
      have by_ := HX9.out w12 (h911.out.trans (h1112.out.mono h911.out.size))
      have bc := HX11.out w12 h1112.out
      have lx := bx.lt
      have ly := by_.lt
      have lc := bc.lt
      have nx := Nat.ne_of_lt lx
      have ny := Nat.ne_of_lt ly
      have nc := Nat.ne_of_lt lc
      obtain ⟨x0, x1, x2⟩ := bx
      obtain ⟨y0, y1, y2⟩ := by_
      obtain ⟨z0, z1, z2⟩ := bc
      have HOd := hid (fun w' (hb : Below w13.heap.size w13 w') => ((hod.out.below hb13).below (hb.mono hb13.size)).reads.more (Nat.le_trans hb13.size hb.size))
      have HX13 := hid (fun w' (hb : Below w13.heap.size w13 w') => (box_new w12 w13 (.int .i64 (l0.cut i).base) (.int .i64 (l0.cut i).term) (.slice Ad (l0.cut i).es.length cd) 24 (by rw [hw13]; exact Below.refl _ _)).below hb)
      have HU := hid (fun w' (hb : Below w13.heap.size w13 w') => And.intro (h713.out.trans (hb.mono h713.out.size)) (And.intro (h913.out.trans (hb.mono h913.out.size)) (h1113.out.trans (hb.mono h1113.out.size))))
      have hlA := hid (show (l0.appE i l2).length ≤ 100000 from by have := appE_len l0 i l2; have := HF.out.2.2; have := HF2.out.1; omega)
      have hlC := hid (show (l0.cut i).es.length ≤ 100000 from by have := cut_len l0 i; have := HF.out.2.2; omega)
      have HS1 : Hid (∀ w', Below w13.heap.size w13 w' → Calls Try.prog 22 #[.agg #[.int .i64 l0.base, .int .i64 l0.term, .slice Ax (l0.appE i l2).length cx], .agg #[.int .i64 l0.base, .int .i64 l0.term, .slice Ay (l0.appE i l2).length cy]] w' fun e w'' => e = .returned (.bool true) ∧ Below w'.heap.size w' w'') := hid (fun w' hb => by
        have := log_same ⟨l0.base, l0.term, l0.appE i l2⟩ ⟨l0.base, l0.term, l0.appE i l2⟩ Ax Ay cx cy hlA.out w' ((HOx.out w' (HU.out w' hb).1).reads.more (Nat.le_trans s67.out (HU.out w' hb).1.size)) (HOy.out w' (HU.out w' hb).2.1)
        rwa [decide_eq_true rfl] at this)
      have HS2 : Hid (∀ w', Below w13.heap.size w13 w' → Calls Try.prog 22 #[.agg #[.int .i64 (l0.cut i).base, .int .i64 (l0.cut i).term, .slice Ac (l0.cut i).es.length cc], .agg #[.int .i64 (l0.cut i).base, .int .i64 (l0.cut i).term, .slice Ad (l0.cut i).es.length cd]] w' fun e w'' => e = .returned (.bool true) ∧ Below w'.heap.size w' w'') := hid (fun w' hb => by
        have := log_same (l0.cut i) (l0.cut i) Ac Ad cc cd hlC.out w' ((HOc.out w' (HU.out w' hb).2.2).reads.more (Nat.le_trans s1011.out (HU.out w' hb).2.2.size)) (HOd.out w' hb)
        rwa [decide_eq_true rfl] at this)
      have HW13 := hid hw13
      clear hb13 hw13
      go_wp2_with fail
      rw [← HW13.out]
      refine (HS1.out w13 (Below.refl _ _)).mono ?_
      rintro e w14 ⟨rfl, hb14⟩
      have h14 := hid hb14
      clear x0 x1 x2 y0 y1 y2 z0 z1 z2 hb14
      have bc := HX11.out w14 (HU.out w14 h14.out).2.2
      obtain ⟨z0, z1, z2⟩ := bc
      obtain ⟨d0, d1, d2⟩ := HX13.out w14 h14.out
      go_wp2_with fail
      refine (HS2.out w14 h14.out).mono ?_
      rintro e w15 ⟨rfl, hb15⟩
      have h15 := hid (h14.out.trans (hb15.mono h14.out.size))
      clear z0 z1 z2 d0 d1 d2 hb15
      obtain ⟨x0, x1, x2⟩ := HX7.out w15 (HU.out w15 h15.out).1
      have HP1 := hid (spoilE_any w5.heap.size w6.heap.size Ax cx _ (l0.appE i l2) rfl hlA.out w15 (HOx.out w15 (HU.out w15 h15.out).1))
      clear x0 x1
      go_wp2_with fail
      refine HP1.out.mono ?_
      rintro e w16 ⟨rfl, hT16⟩
      have h415 := hid (h13.out.trans (h15.out.mono h13.out.size))
      have s515 := hid (Nat.le_trans s56.out (Nat.le_trans s67.out (HU.out w15 h15.out).1.size))
      have h515 := hid (h57.out.trans ((HU.out w15 h15.out).1.mono h57.out.size))
      have h516 := hid (h515.out.trans (hT16.below s515.out (fun k hk => hk.1)))
      have h416 := hid (h415.out.trans ((hT16.below s515.out (fun k hk => hk.1)).mono h5.out.size))
      have HO16 := hid ((HOc.out w15 (HU.out w15 h15.out).2.2).keep hT16 (fun k hk hB => by have h1 := hk.2; have h2 := hB.1; have h3 := s67.out; have h4 := h79.out.size; omega))
      have c16 : w16.cell? ⟨w10.heap.size, 2, none⟩ = some (.slice Ac (l0.cut i).es.length cc) := by
        have h1 := HX11.out w15 (HU.out w15 h15.out).2.2
        rw [hT16.cell h1.lt (fun hk => by have h1 : w10.heap.size < w6.heap.size := hk.2; have h3 := s67.out; have h4 := h79.out.size; have h5 := h910.out.size; omega)]
        exact h1.2.2
      have s1016 := hid (Nat.le_trans (Nat.le_trans s1011.out (HU.out w15 h15.out).2.2.size) hT16.size)
      have HP2 := hid (spoilE_any w9.heap.size w10.heap.size Ac cc _ (l0.cut i).es rfl hlC.out w16 HO16.out)
      clear hT16 x2 HP1
      go_wp2_with fail
      refine HP2.out.mono ?_
      rintro e w17 ⟨rfl, hT17⟩
      have h517 := hid (h516.out.trans ((hT17.below (Nat.le_trans h910.out.size s1016.out) (fun k hk => hk.1)).mono (Nat.le_trans h57.out.size h79.out.size)))
      have h417 := hid (h416.out.trans ((hT17.below (Nat.le_trans h910.out.size s1016.out) (fun k hk => hk.1)).mono h9.out.size))
      obtain ⟨⟨x0, x1, x2⟩, ⟨y0, y1, y2⟩⟩ := HX4.out w17 h417.out
      clear hT17 c16 HP2
      have HSL := hid (log_same l0 l0 A3 a0 c3 cap0 (by have := HF.out.2.2; omega) w17 ((HN.out w17 h417.out).2.1.es.more (Nat.le_trans HS4.out.1 h417.out.size)) ((HN.out w17 h417.out).1.es.more (Nat.le_trans HS4.out.2 h417.out.size)))
      go_wp2_with fail
      refine HSL.out.mono ?_
      rintro e w18 ⟨rfl, hb18⟩
      have h418 := hid (h417.out.trans (hb18.mono h417.out.size))
      have h518 := hid (h517.out.trans (hb18.mono h517.out.size))
      have HSE := hid (ents_same A5 a2 c5 cap2 _ _ l2 l2 rfl rfl (by have := HF2.out.1; omega) w18 ((ho5.out.below h518.out).reads.more h518.out.size) ((HN.out w18 h418.out).2.2.more (Nat.le_trans HS4.out.2 h418.out.size)))
      clear x0 x1 x2 y0 y1 y2 hb18
      go_wp2_with fail
      refine HSE.out.mono ?_
      rintro e w19 ⟨rfl, hb19⟩
      have h19 := hid (HB4.out.trans ((h418.out.trans (hb19.mono h418.out.size)).mono HB4.out.size))
      clear hb19
      go_wp2_with fail
      go_ret
      exact ⟨ret_b (by simp), h19.out⟩

set_option maxRecDepth 100000 in
theorem lifted (os : Os) (started : os.Started) (H : Type) (enc : TypeId × Value → H) :
    ReturnsInHanded {} Try.checked os 4 .any (Rows.rlogLaysSpec.pre6 enc Try.prog Try.f4 Rows.rlogLaysRow.domain false) (Rows.rlogLaysSpec.post enc Try.prog Try.f4 false true false false) := by
  refine returnsInHanded_of_change_sized (C := Try.checked) own started (by kernel_rfl) Try.func4
    (ChangeSpec.witness6 (enc := enc) (C := Try.checked) false ⟨#[], #[.agg #[.int .i64 0, .int .i64 0, .slice none 0 0], .int .i64 0, .slice none 0 0], []⟩ 8 (by kernel_rfl) (by kernel_rfl) (by kernel_rfl) (by kernel_rfl)) ?_
  intro W base args ds gs before hval0 hW hcnd hsz0 _
  have hsz : (DataW.weightsEach Try.prog (Try.f4.params.toList ++ Rows.rlogLaysSpec.plain.varTypes Try.prog) (ds ++ gs)).all (· ≤ reachBytes) = true := hsz0
  clear hsz0
  have hval : ∀ (j : Nat) t v, Try.f4.params[j]? = some t → args[j]? = some v → Value.okWide Try.prog W .any base t v := hval0
  have hW' := hW
  obtain ⟨p, q, hA0, hV, rfl, hfz, hnd⟩ := hW
  have hA : DataW.TrodAll enc Try.prog W 0 (fun _ => true) true Try.f4.params.toList args.toList ds p := hA0
  rw [Try.params4] at hA hval hsz
  obtain ⟨v0, vs0, d0, ds0, p0, q0, hargs, rfl, rfl, g0, t0⟩ := trodAll_cons hA
  obtain ⟨v1, vs1, d1, ds1, p1, q1, rfl, rfl, rfl, g1, t1⟩ := trodAll_cons t0
  obtain ⟨v2, vs2, d2, ds2, p2, q2, rfl, rfl, rfl, g2, t2⟩ := trodAll_cons t1
  obtain ⟨rfl, rfl, rfl⟩ := trodAll_nil t2
  obtain rfl : args = #[v0, v1, v2] := by cases args; simp_all
  obtain ⟨rfl, rfl⟩ := trodVars_none hV
  obtain ⟨cs0, rfl, sz0⟩ := okWide_struct Try.underlying24 (hval 0 24 v0 rfl rfl)
  have m0 := g0
  have lt0 : ∀ x ∈ p0, x.block < W.heap.size := by obtain ⟨m, hm⟩ := m0; exact DataW.trod_lt m _ _ _ hm
  obtain ⟨l0, a0, cap0, rfl, k0⟩ := log_open sz0 g0
  obtain ⟨a1, rfl, rfl, rfl, w1⟩ := open_int Try.underlying3 (hval 1 3 v1 rfl rfl) g1
  have b1 := bounds_i64 w1
  obtain ⟨a2, len2, cap2, rfl⟩ := okWide_slice Try.underlying22 (hval 2 22 v2 rfl rfl)
  have m2 := g2
  have lt2 : ∀ x ∈ p2, x.block < W.heap.size := by obtain ⟨m, hm⟩ := m2; exact DataW.trod_lt m _ _ _ hm
  obtain ⟨l2, k2, rfl, n2, r2, z2⟩ : ∃ l, IsEnts W W.heap.size a2 l ∧ len2 = l.length ∧ l.length ≤ cap2 ∧ cap2 ≤ maxLen ∧ (a2 = none → cap2 = 0) := by
    obtain ⟨fuel, hf⟩ := g2
    obtain ⟨a, c, ts, hcs, h1, h2, h3⟩ := ents_of_trod hf
    simp [Value.cells] at hcs
    obtain ⟨rfl, rfl, rfl⟩ := hcs
    exact ⟨ts, h1, rfl, h2.1, h2.2, h3⟩
  clear hA0 hval0
  refine (walk l0 a0 cap0 a1 a2 cap2 l2 W k0 b1 k2 n2 r2 z2).mono fun e W' ⟨he, bel⟩ => ?_
  subst he
  exact ⟨_, rfl, _, _, _, [], _, [], hW', trodAll_mk1 (shut_bool Try.underlying4 _), (trodAll_cons_mk (Below.trod laidOut (by kernel_rfl) (of_decide_eq_true (by kernel_rfl)) m0 bel lt0) (trodAll_cons_mk (shut_int Try.underlying3 w1) (trodAll_cons_mk (Below.trod laidOut (by kernel_rfl) (of_decide_eq_true (by kernel_rfl)) m2 bel lt2) trodAll_mk0))), rfl, bel.frame _, fun h => by cases h⟩

theorem over : Rows.rlogLaysRow.holds Try.pinned (OpenSpec.ofChange Rows.rlogLaysSpec) :=
  OpenClaim.holds_of_wide 4 Try.f4 rfl rfl rfl rfl rfl rfl rfl ⟨rfl, rfl, rfl, rfl, rfl⟩ rfl rfl rfl rfl rfl (by kernel_rfl) Try.func4 (by kernel_rfl)
    (of_decide_eq_true (by kernel_rfl)) (by unfold Func.isWrapper; first | (rw [if_pos (by decide +kernel)]; kernel_rfl) | (rw [if_neg (by decide +kernel)]; exact ⟨rfl, rfl⟩))
    (fun os started H enc _ => lifted os started H enc)

theorem proved : Rows.RlogLaysSaid := over
end Go.Proofs.Ythocdknfkmclkaa.rlogLays
