/- Wherever the power fails, and whatever becomes of each sector that was not flushed: what is opened is what the calls that answered OK left, or what the one under way would have left; and it stays that as long as no call writes. Conditions: none. -/
import Derived.Test.YtdgijnolpjaheaaRows
import Derived.Test.YtdgijnolpjaheaaPartAO
import Derived.Test.YtdgijnolpjaheaaPartAQ
import Derived.Deep.CutRange
import Derived.WalkKit
import Derived.WalkLawsBesides
import Derived.ProofKit
import Derived.OpenShut
import Derived.ShutString
import Derived.ChangeOld
import Derived.Below
import Derived.SizedLaws
namespace Go.Proofs.Ytdgijnolpjaheaa.storeThere
open Go.ChangeShapes Go.WideShapes Go.ChangeAt Go.RowKit
open Go.ChangeMaps (open_string shut_string)
set_option linter.unusedVariables false

theorem own : ownKnob Try.prog.godebug = none := by kernel_rfl
theorem laidOut : laidOutB Try.prog = true := by kernel_rfl

set_option maxRecDepth 100000 in
set_option maxHeartbeats 8000000 in
theorem walk (a0 : Option Addr) (cap0 : Nat) (l0 : List Sto.Deed) (w : World) (k0 : IsDeeds w w.heap.size a0 l0) (n0 : l0.length ≤ cap0) (r0 : cap0 ≤ maxLen) (z0 : a0 = none → cap0 = 0) :
    Calls Try.prog 6 #[.slice a0 l0.length cap0] w fun e w' => e = .returned (.bool true) ∧ Below w.heap.size w w' := by
  have HX := hid (And.intro k0 (And.intro r0 n0))
  have HN := hid (new_any 30 (by omega) w)
  clear k0 z0 r0 n0
  go_enter Try.func6, Try.ntmps6
  go_wp2_with fail
  refine HN.out.mono ?_
  rintro e w1 ⟨d, rfl, hD, hb⟩
  have H1 := hid (And.intro (T.sg_new w w1 d 30 hD hb) hD.lt)
  clear hD hb HN
  go_wp2_with fail
  refine (T.open_any w w1 d (Sx.new 30) 4 22 0 [] [] H1.out.1 (Sto.held_new 30 4 22 (by omega) (by omega) (by omega)) (by omega) rfl 4 rfl).mono ?_
  rintro e w2 ⟨g0, gj0, A0, c0, A2, c2, rfl, h2⟩
  obtain ⟨B, hB⟩ : ∃ B, w2.heap.size = B := ⟨_, rfl⟩
  have H2 : Hid (There w (w2.alloc (.cells #[.bool false, .slice none 0 0, .slice none 0 0, .int .i64 0] 48)) d (Sx.new 30) g0 gj0 B 0 0 [] [] 0 false false none 0 0 none 0 0) := hid (by
    have hbb : Below w2.heap.size w2 (w2.alloc (.cells #[.bool false, .slice none 0 0, .slice none 0 0, .int .i64 0] 48)) := (Below.refl _ _).alloc (Nat.le_refl _) _
    refine ⟨h2.out.sg.below hbb, rfl, .inl ⟨rfl, rfl⟩, ?_, ⟨IsBytes.nil, RowsB.nil _ _ _, rfl, rfl⟩, fun k hk => ?_, ?_⟩
    · rw [← hB]; exact heap_alloc_new w2 _
    · have := H1.out.2 k hk; have := h2.out.bel.size; omega
    · have := h2.out.sg.disk.bel.size; omega)
  clear h2 H1
  go_wp2_with fail
  clear hB
  go_loopw [5, 10, 11] (fun vS vR i wr => ∃ (k : Nat) (s : Sx.St) (g gj : Nat) (e st : Int) (p : List Nat) (L : List (List Nat)) (c : Nat) (th rd : Bool) (Ac : Option Addr) (kp cc : Nat) (Ar : Option Addr) (kL cr : Nat), k ≤ l0.length ∧ k ≤ 60 ∧ e ≤ k ∧ 0 ≤ e ∧ kL ≤ k ∧ kp ≤ 120 ∧ vS = .pointer (some ⟨g, 0, none⟩) ∧ vR = .bool rd ∧ i = .int .i64 (k : Int) ∧
    Hid (There w wr d s g gj B e st p L c th rd Ac kp cc Ar kL cr ∧ s.armed = false)) (fun _ _ i _ => l0.length - (RowKit.intOf i).toNat)
  case atStart => exact ⟨0, _, g0, gj0, 0, 0, [], [], 0, false, false, none, 0, 0, none, 0, 0, by omega, by omega, by omega, by omega, by omega, by omega, rfl, rfl, rfl, hid ⟨H2.out, rfl⟩⟩
  case round =>
    clear H2
    obtain ⟨k, s, g, gj, e, st, p, L, c, th, rd, Ac, kp, cc, Ar, kL, cr, hk, hk60, hek, he0, hkL, hkp, rfl, rfl, rfl, HI⟩ := hrel
    by_cases hlt : k < l0.length
    · have hlt0 : (k : Int) < (l0.length : Int) := by omega
      by_cases hlt60 : k < 60
      · have hlti : (k : Int) < 60 := by omega
        obtain ⟨b, off, rfl, hbB, hcs⟩ := HX.out.1 k hlt
        have hat := hcs k hlt
        obtain ⟨t, ht⟩ : ∃ t, t = l0[k] := ⟨_, rfl⟩
        rw [← ht] at hat
        obtain ⟨ar, cd, al, cf, q0, q1, q2, q3, hR, hF, hrc, hlc, hrz, hlz, hcut⟩ := hat
        obtain ⟨fr, dt, cut, F⟩ := t
        simp only at q0 q1 q2 q3 hR hF hrc hlc hcut
        obtain ⟨kd, hkd⟩ : ∃ n, dt.length = n := ⟨_, rfl⟩
        obtain ⟨kf, hkf⟩ : ∃ n, F.length = n := ⟨_, rfl⟩
        rw [hkd] at q1 hrc
        rw [hkf] at q3 hlc
        have hbel := HI.out.1.sg.disk.bel
        have d0 := (hbel.cell (p := ⟨b, _, none⟩) hbB).trans q0
        have d1 := (hbel.cell (p := ⟨b, _, none⟩) hbB).trans q1
        have d2 := (hbel.cell (p := ⟨b, _, none⟩) hbB).trans q2
        have d3 := (hbel.cell (p := ⟨b, _, none⟩) hbB).trans q3
        have HQ := hid (And.intro (And.intro hkd (And.intro hR (And.intro hrc hrz))) (And.intro (And.intro hkf (And.intro hF hlz)) hcut))
        have hcut1 := hcut.1
        have hcut2 := hcut.2
        clear hcs q0 q1 q2 q3 hR hF hrc hlc hrz hlz hcut hkd hkf ht hbB hbel
        by_cases hbig : 100 < kf
        · have hbigi : (100 : Int) < (kf : Int) := by omega
          go_wp2_with fail
          refine (T.known_any _).mono ?_
          rintro e6 w6 ⟨rfl, hb6⟩
          have HB6 : Hid (Below w.heap.size w w6) := hid (HI.out.1.sg.disk.bel.trans ((((Below.refl wr.heap.size wr).alloc (Nat.le_refl _) _).trans (hb6.mono (by simp))).mono HI.out.1.size))
          clear hb6
          go_wp2
          go_ret
          exact ⟨rfl, HB6.out⟩
        · have hbigi : ¬ (100 : Int) < (kf : Int) := by omega
          go_upto_if 60 with (fail)
          obtain ⟨wa, hwa⟩ : ∃ wa, wa = wr.alloc (.cells #[.bool fr, .slice ar kd cd, .int .i64 cut, .slice al kf cf] 50) := ⟨_, rfl⟩
          rw [← hwa]
          obtain ⟨bx, hbx⟩ : ∃ bx, wr.heap.size = bx := ⟨_, rfl⟩
          have hba : Below wr.heap.size wr wa := by rw [hwa]; exact (Below.refl _ _).alloc (Nat.le_refl _) _
          have hda : DB wa bx fr ar kd cd cut al kf cf := by rw [hwa, ← hbx]; exact heap_alloc_new wr _
          have HA : Hid (There w wa d s g gj B e st p L c th rd Ac kp cc Ar kL cr ∧ s.armed = false ∧ DB wa bx fr ar kd cd cut al kf cf ∧ B < bx) := hid ⟨HI.out.1.below hba, HI.out.2, hda, by have := HI.out.1.cell.lt; omega⟩
          clear hwa hba hda d0 d1 d2 d3
          rw [hbx]
          clear hbx
          go_cut [60] from 39 to 137 (fun _ wx => Hid (∃ s1, There w wx d s1 g gj B e st p L c th rd Ac kp cc Ar kL cr ∧ (cut < 1 → s1.armed = false) ∧ DB wx bx fr ar kd cd cut al kf cf ∧ B < bx))
          case first =>
            by_cases hcu : 0 < cut
            · have x2 := HA.out.2.2.1.cells.2.2.1
              go_wp2_with fail
              refine (arm_any _ d s _ (by unfold InInt; omega) wa HA.out.1.sg.disk.at_).mono ?_
              rintro e4 w4 ⟨rfl, hd4, ht4⟩
              have H4 := hid (And.intro (HA.out.1.arm _ hd4 ht4) (HA.out.2.2.1.keep ht4 (fun hh => by have := HA.out.1.dlt _ hh; have := HA.out.2.2.2; omega)))
              clear hd4 ht4 x2
              go_wp2_with fail
              go_meet
              exact hid ⟨_, H4.out.1, fun h => by omega, H4.out.2, HA.out.2.2.2⟩
            · have hcu0 : cut ≤ 0 := by omega
              go_wp2_with fail
              go_meet
              exact hid ⟨s, HA.out.1, fun _ => HA.out.2.1, HA.out.2.2⟩
          case rest =>
            obtain ⟨s1, hc4⟩ := hcut.out
            have H4 := hid hc4
            clear hcut hc4 HA HI
            obtain ⟨x0, x1, x2, x3⟩ := H4.out.2.2.1.cells
            obtain ⟨y0, y1, y2, y3⟩ := H4.out.1.cell.cells
            have hst := H4.out.1.st_
            have HST := hid hst
            have HC := hid (T.does_all w wc d s1 g gj 22 e st p L c H4.out.1.sg hst (by omega) (by omega) th Ac cc kp hkp Ar cr kL (by omega) B H4.out.1.hv fr ar kd cd dt cut al kf cf HQ.out.1.1 HQ.out.1.2.2.1.1 HQ.out.1.2.2.1.2 HQ.out.1.2.2.2 (HQ.out.1.2.1.below H4.out.1.sg.disk.bel))
            clear hst
            go_wp2_with fail
            refine HC.out.mono ?_
            rintro e5 w5 ⟨E, e1, th1, A1, k1, c1, A2', k2, c2', rfl, hk1, hk2, he1, he2, h5⟩
            clear x0 x1 x2 x3 y0 y1 y2 y3 HC
            obtain ⟨p1, L1, hD⟩ := h5.out
            obtain ⟨w6, hw6⟩ : ∃ w6, w6 = w5.alloc (.cells #[.bool th1, .slice A1 k1 c1, .slice A2' k2 c2', .int .i64 e1] 48) := ⟨_, rfl⟩
            obtain ⟨haft, hb6⟩ := H4.out.1.aft H4.out.2.2.1 H4.out.2.2.2 hD hw6
            have H6 := hid (And.intro haft hb6)
            have HAC := hid H4.out.2.1
            clear haft hb6
            rcases hD.out with ⟨rfl, hf, hs, hj⟩ | ⟨rfl, hf, hs, hj⟩ | ⟨s', gj', c', rfl, hf, hj, ha, hd⟩ | ⟨s', rfl, hs, hj, hx, hd, hne, hc⟩
            · have HJ := hid (hj.below H6.out.2)
              have HU := hid (And.intro H4.out.1.up H4.out.1.st01)
              subst hf
              have hrd : rd = false := by
                rcases HU.out.2 with h | h
                · exact h.2
                · exact absurd (hs.symm.trans h.1) (by decide)
              subst hrd
              have HU2 : Hid (StRd st false) := hid (.inl ⟨hs, rfl⟩)
              clear hs
              clear hj h5 hD H4
              go_wp2_with fail
              rw [← hw6]
              refine (arm_any _ d s1 (-1) (by unfold InInt; omega) w6 (HJ.out.disk).at_).mono ?_
              rintro e7 w7 ⟨rfl, hd7, ht7⟩
              have H7 : Hid (There w w7 d (Sx.arm s1 (-1)) g gj B e st p L c th false Ac kp cc Ar kL cr ∧ (Sx.arm s1 (-1)).armed = false) := hid ⟨⟨HJ.out.arm _ hd7 ht7, HU.out.1, HU2.out, H6.out.1.cell.keep ht7 (fun hh => by have := H6.out.1.dlt _ hh; omega), (H6.out.1.disk HJ.out.disk.ge ht7).hv, H6.out.1.dlt, H6.out.1.bge⟩, rfl⟩
              have HDB := hid (H6.out.1.disk HJ.out.disk.ge ht7).deed
              clear hw6 hd7 ht7 HJ HU HU2 H6
              obtain ⟨x0, x1, x2, x3⟩ := HDB.out.cells
              obtain ⟨y0, y1, y2, y3⟩ := H7.out.1.cell.cells
              go_wp2_with fail
              refine (H7.out.1.is_ (by omega) (by omega)).mono ?_
              rintro e8 w8 ⟨rfl, hb8⟩
              have H8 := hid (And.intro (H7.out.1.below hb8) H7.out.2)
              clear hb8 x0 x1 x2 x3 y0 y1 y2 y3 H7 HDB
              go_wp2
              go_roundw
              case rel => exact ⟨k + 1, _, g, gj, e, st, p, L, c, th, _, Ac, kp, cc, Ar, kL, cr, by omega, by omega, by omega, by omega, by omega, by omega, rfl, rfl, by go_num, H8⟩
              case measure => simp [RowKit.intOf]; omega
            · have HJ := hid (hj.below H6.out.2)
              have HU := hid (And.intro H4.out.1.up H4.out.1.st01)
              subst hf
              have HU2 := hid HU.out.2
              clear hs
              clear hj h5 hD H4
              go_wp2_with fail
              rw [← hw6]
              refine (arm_any _ d s1 (-1) (by unfold InInt; omega) w6 (HJ.out.disk).at_).mono ?_
              rintro e7 w7 ⟨rfl, hd7, ht7⟩
              have H7 : Hid (There w w7 d (Sx.arm s1 (-1)) g gj B e st p L c th rd Ac kp cc Ar kL cr ∧ (Sx.arm s1 (-1)).armed = false) := hid ⟨⟨HJ.out.arm _ hd7 ht7, HU.out.1, HU2.out, H6.out.1.cell.keep ht7 (fun hh => by have := H6.out.1.dlt _ hh; omega), (H6.out.1.disk HJ.out.disk.ge ht7).hv, H6.out.1.dlt, H6.out.1.bge⟩, rfl⟩
              have HDB := hid (H6.out.1.disk HJ.out.disk.ge ht7).deed
              clear hw6 hd7 ht7 HJ HU HU2 H6
              obtain ⟨x0, x1, x2, x3⟩ := HDB.out.cells
              obtain ⟨y0, y1, y2, y3⟩ := H7.out.1.cell.cells
              go_wp2_with fail
              refine (H7.out.1.is_ (by omega) (by omega)).mono ?_
              rintro e8 w8 ⟨rfl, hb8⟩
              have H8 := hid (And.intro (H7.out.1.below hb8) H7.out.2)
              clear hb8 x0 x1 x2 x3 y0 y1 y2 y3 H7 HDB
              go_wp2
              go_roundw
              case rel => exact ⟨k + 1, _, g, gj, e, st, p, L, c, th, _, Ac, kp, cc, Ar, kL, cr, by omega, by omega, by omega, by omega, by omega, by omega, rfl, rfl, by go_num, H8⟩
              case measure => simp [RowKit.intOf]; omega
            · have HJ := hid (And.intro (hj.below H6.out.2) (And.intro ha hd))
              clear hj h5 hD ha hd
              go_wp2_with fail
              rw [← hw6]
              refine (arm_any _ d s' (-1) (by unfold InInt; omega) w6 (HJ.out.1.disk).at_).mono ?_
              rintro e7 w7 ⟨rfl, hd7, ht7⟩
              have H7 := hid (And.intro (H6.out.1.disk HJ.out.1.disk.ge ht7) (HJ.out.1.arm _ hd7 ht7))
              have hfz : ∀ j, w7.frozen? ⟨B, j, none⟩ = false := fun j => H7.out.1.cell.frozen j
              have f0 := hfz 0
              have f1 := hfz 1
              have f2 := hfz 2
              have f3 := hfz 3
              clear hw6 hd7 ht7 hfz
              obtain ⟨x0, x1, x2, x3⟩ := H7.out.1.deed.cells
              obtain ⟨y0, y1, y2, y3⟩ := H7.out.1.cell.cells
              obtain ⟨t0, t1, t2, t3⟩ := H7.out.1.then_.cells
              have HRD : Hid (rd = true ∨ fr = true) := hid (by
                rcases hf with h | h
                · exact .inr h
                · rcases H4.out.1.st01 with h' | h'
                  · exact absurd (h.symm.trans h'.1) (by decide)
                  · exact .inl h'.2)
              obtain ⟨w8, hw8⟩ : ∃ w8, w8 = (((w7.setCell ⟨B, 0, none⟩ (.bool th1)).setCell ⟨B, 1, none⟩ (.slice A1 k1 c1)).setCell ⟨B, 2, none⟩ (.slice A2' k2 c2')).setCell ⟨B, 3, none⟩ (.int .i64 e1) := ⟨_, rfl⟩
              have hput := H7.out.1.put hw8
              have H8 : Hid (There w w8 d (Sx.arm s' (-1)) g gj' B e1 1 p1 L1 c' th1 true A1 k1 c1 A2' k2 c2' ∧ (Sx.arm s' (-1)).armed = false) := hid ⟨⟨hput.2.2.2.sg H7.out.2, HJ.out.2.2, .inr ⟨rfl, rfl⟩, hput.1, hput.2.1, H7.out.1.dlt, H7.out.1.bge⟩, rfl⟩
              have HDB := hid hput.2.2.1
              clear hf hput H4 H6 HJ
              cases rd with
              | true =>
                go_upto_region 23 with (fail)
                rw [← hw8]
                clear x0 x1 x2 x3 y0 y1 y2 y3 t0 t1 t2 t3 f0 f1 f2 f3 hw8 H7
                obtain ⟨x0, x1, x2, x3⟩ := HDB.out.cells
                obtain ⟨y0, y1, y2, y3⟩ := H8.out.1.cell.cells
                go_wp2_with fail
                refine (H8.out.1.is_ (by omega) (by omega)).mono ?_
                rintro e9 w9 ⟨rfl, hb9⟩
                have H9 := hid (And.intro (H8.out.1.below hb9) H8.out.2)
                clear hb9 x0 x1 x2 x3 y0 y1 y2 y3 H8 HDB
                go_wp2
                go_roundw
                case rel => exact ⟨k + 1, _, g, gj', e1, 1, p1, L1, c', th1, true, A1, k1, c1, A2', k2, c2', by omega, by omega, by omega, by omega, by omega, by omega, rfl, rfl, by go_num, H9⟩
                case measure => simp [RowKit.intOf]; omega
              | false =>
                have hfr : fr = true := HRD.out.resolve_left (by decide)
                subst hfr
                go_upto_region 23 with (fail)
                rw [← hw8]
                clear x0 x1 x2 x3 y0 y1 y2 y3 t0 t1 t2 t3 f0 f1 f2 f3 hw8 H7
                obtain ⟨x0, x1, x2, x3⟩ := HDB.out.cells
                obtain ⟨y0, y1, y2, y3⟩ := H8.out.1.cell.cells
                go_wp2_with fail
                refine (H8.out.1.is_ (by omega) (by omega)).mono ?_
                rintro e9 w9 ⟨rfl, hb9⟩
                have H9 := hid (And.intro (H8.out.1.below hb9) H8.out.2)
                clear hb9 x0 x1 x2 x3 y0 y1 y2 y3 H8 HDB
                go_wp2
                go_roundw
                case rel => exact ⟨k + 1, _, g, gj', e1, 1, p1, L1, c', th1, true, A1, k1, c1, A2', k2, c2', by omega, by omega, by omega, by omega, by omega, by omega, rfl, rfl, by go_num, H9⟩
                case measure => simp [RowKit.intOf]; omega
            · have HJ := hid (And.intro (hj.below H6.out.2) (And.intro (T.Dead.below hx H6.out.2) (And.intro hd (And.intro hne hc))))
              have hcut0 : ¬ cut < 1 := fun h => hs ⟨HAC.out h, H4.out.1.up⟩
              have HGE := hid H4.out.1.sg.disk.ge
              clear hj h5 hD hx hd hne hc hs H4
              go_wp2_with fail
              rw [← hw6]
              refine (arm_any _ d s' (-1) (by unfold InInt; omega) w6 (HJ.out.1).at_).mono ?_
              rintro e7 w7 ⟨rfl, hd7, ht7⟩
              have hx7 : T.Dead w7 g := by
                obtain ⟨j, h1, h2⟩ := HJ.out.2.1
                exact ⟨j, h1.keep ht7 (h1.not_disk HJ.out.1.at_), h2⟩
              have H7 := hid (And.intro (H6.out.1.disk HJ.out.1.ge ht7) (And.intro (HJ.out.1.next hd7 ht7) hx7))
              clear hw6 hd7 ht7 hx7 H6
              obtain ⟨x0, x1, x2, x3⟩ := H7.out.1.deed.cells
              obtain ⟨y0, y1, y2, y3⟩ := H7.out.1.cell.cells
              obtain ⟨t0, t1, t2, t3⟩ := H7.out.1.then_.cells
              go_wp2_with fail
              refine (T.append_dead g none 0 0 w7 H7.out.2.2).mono ?_
              rintro e8 w8 ⟨rfl, rfl⟩
              go_wp2_with fail
              refine (T.renew_dead g none 0 0 w8 H7.out.2.2).mono ?_
              rintro e8 w8' ⟨rfl, rfl⟩
              go_wp2_with fail
              refine (crash_any _ d (Sx.arm s' (-1)) al cf F kf HQ.out.2.1.1 w8' H7.out.2.1.at_ (fun w' ht => by
                have hbw : Below w.heap.size w w' := H7.out.2.1.bel.trans (ht.below H7.out.2.1.bel.size H7.out.2.1.ge)
                exact (HQ.out.2.1.2.1.below hbw).more hbw.size)).mono ?_
              rintro e9 w9 ⟨rfl, hd9, ht9⟩
              obtain ⟨s2, hs2⟩ : ∃ s2, s2 = Sx.crash s' F := ⟨_, rfl⟩
              rw [crash_arm, ← hs2] at hd9
              have H9 := hid (And.intro (H7.out.1.disk H7.out.2.1.ge ht9) (And.intro (H7.out.2.1.next hd9 ht9) (And.intro (show s2.down = false by rw [hs2]; rfl) (show s2.armed = false by rw [hs2]; rfl))))
              have hheld := HJ.out.2.2.2.2 F
              rw [← hs2] at hheld
              have HNE := hid HJ.out.2.2.2.1
              clear hd9 ht9 hs2 x0 x1 x2 x3 y0 y1 y2 y3 t0 t1 t2 t3 H7 HJ
              obtain ⟨x0, x1, x2, x3⟩ := H9.out.1.deed.cells
              obtain ⟨y0, y1, y2, y3⟩ := H9.out.1.cell.cells
              obtain ⟨t0, t1, t2, t3⟩ := H9.out.1.then_.cells
              rcases hheld with hh | hh
              · have HH := hid hh
                clear hh
                have HIS := hid (T.is_any w w9 d s2 22 e p L H9.out.2.1 HH.out (by omega) H9.out.2.2.1 (by rw [H9.out.1.hv.lL]; omega) th Ac cc p kp H9.out.1.hv.lp (by omega) Ar cr L kL H9.out.1.hv.lL e (H9.out.1.hv.bytes.more H9.out.1.size) (H9.out.1.hv.rows.reads H9.out.1.size) true (by simp))
                go_wp2_with fail
                refine HIS.out.mono ?_
                rintro e10 w10 ⟨rfl, hb10⟩
                have H10 := hid (And.intro (H9.out.1.below hb10) (And.intro (H9.out.2.1.below hb10) H9.out.2.2))
                clear hb10 HIS H9 x0 x1 x2 x3 y0 y1 y2 y3 t0 t1 t2 t3
                go_wp2_with fail
                refine (T.open_any w w10 d s2 4 22 e p L H10.out.2.1 HH.out (by omega) H10.out.2.2.1 4 rfl).mono ?_
                rintro e11 w11 ⟨g', gj', A', c', A3, c3, rfl, h11⟩
                have H11 : Hid (There w w11 d s2 g' gj' B e 0 p L 0 th false Ac kp cc Ar kL cr ∧ s2.armed = false) := hid ⟨⟨h11.out.sg, H10.out.2.2.1, .inl ⟨rfl, rfl⟩, H10.out.1.cell.below h11.out.bel, H10.out.1.hv.below h11.out.bel H10.out.1.size, H10.out.1.dlt, H10.out.1.bge⟩, H10.out.2.2.2⟩
                clear h11 H10 HH
                obtain ⟨y0, y1, y2, y3⟩ := H11.out.1.cell.cells
                go_wp2_with fail
                refine (H11.out.1.is_ (by omega) (by omega)).mono ?_
                rintro e12 w12 ⟨rfl, hb12⟩
                have H12 := hid (And.intro (H11.out.1.below hb12) H11.out.2)
                clear hb12 y0 y1 y2 y3 H11
                go_wp2
                go_roundw
                case rel => exact ⟨k + 1, _, g', gj', e, 0, p, L, 0, th, false, Ac, kp, cc, Ar, kL, cr, by omega, by omega, by omega, by omega, by omega, by omega, rfl, rfl, by go_num, H12⟩
                case measure => simp [RowKit.intOf]; omega
              · have HH := hid hh
                clear hh
                have HIS := hid (T.is_any w w9 d s2 22 e1 p1 L1 H9.out.2.1 HH.out (by omega) H9.out.2.2.1 (by rw [H9.out.1.hv1.lL]; omega) th Ac cc p kp H9.out.1.hv.lp (by omega) Ar cr L kL H9.out.1.hv.lL e (H9.out.1.hv.bytes.more H9.out.1.size) (H9.out.1.hv.rows.reads H9.out.1.size) false (decide_eq_false HNE.out).symm)
                go_wp2_with fail
                refine HIS.out.mono ?_
                rintro e10 w10 ⟨rfl, hb10⟩
                have H10 := hid (And.intro (H9.out.1.below hb10) (And.intro (H9.out.2.1.below hb10) H9.out.2.2))
                clear hb10 HIS H9 x0 x1 x2 x3 y0 y1 y2 y3 t0 t1 t2 t3
                have hfz : ∀ j, w10.frozen? ⟨B, j, none⟩ = false := fun j => H10.out.1.cell.frozen j
                have f0 := hfz 0
                have f1 := hfz 1
                have f2 := hfz 2
                have f3 := hfz 3
                clear hfz
                obtain ⟨y0, y1, y2, y3⟩ := H10.out.1.cell.cells
                obtain ⟨t0, t1, t2, t3⟩ := H10.out.1.then_.cells
                obtain ⟨w11, hw11⟩ : ∃ w11, w11 = (((w10.setCell ⟨B, 0, none⟩ (.bool th1)).setCell ⟨B, 1, none⟩ (.slice A1 k1 c1)).setCell ⟨B, 2, none⟩ (.slice A2' k2 c2')).setCell ⟨B, 3, none⟩ (.int .i64 e1) := ⟨_, rfl⟩
                have hput := H10.out.1.put hw11
                have H11 := hid (And.intro hput.1 (And.intro hput.2.1 (And.intro (hput.2.2.2.dm H10.out.2.1) (And.intro H10.out.2.2 (And.intro H10.out.1.dlt H10.out.1.bge)))))
                clear hput H10
                go_wp2_with fail
                rw [← hw11]
                clear hw11 y0 y1 y2 y3 t0 t1 t2 t3 f0 f1 f2 f3
                refine (T.open_any w w11 d s2 4 22 e1 p1 L1 H11.out.2.2.1 HH.out (by omega) H11.out.2.2.2.1.1 4 rfl).mono ?_
                rintro e11 w12 ⟨g', gj', A', c', A3, c3, rfl, h12⟩
                have H12 : Hid (There w w12 d s2 g' gj' B e1 0 p1 L1 0 th1 false A1 k1 c1 A2' k2 c2' ∧ s2.armed = false) := hid ⟨⟨h12.out.sg, H11.out.2.2.2.1.1, .inl ⟨rfl, rfl⟩, H11.out.1.below h12.out.bel, H11.out.2.1.below h12.out.bel H11.out.2.2.1.bel.size, H11.out.2.2.2.2.1, H11.out.2.2.2.2.2⟩, H11.out.2.2.2.1.2⟩
                clear h12 H11 HH
                obtain ⟨y0, y1, y2, y3⟩ := H12.out.1.cell.cells
                go_wp2_with fail
                refine (H12.out.1.is_ (by omega) (by omega)).mono ?_
                rintro e12 w13 ⟨rfl, hb13⟩
                have H13 := hid (And.intro (H12.out.1.below hb13) H12.out.2)
                clear hb13 y0 y1 y2 y3 H12
                go_wp2
                go_roundw
                case rel => exact ⟨k + 1, _, g', gj', e1, 0, p1, L1, 0, th1, false, A1, k1, c1, A2', k2, c2', by omega, by omega, by omega, by omega, by omega, by omega, rfl, rfl, by go_num, H13⟩
                case measure => simp [RowKit.intOf]; omega
      · have hlti : ¬ (k : Int) < 60 := by omega
        obtain ⟨y0, y1, y2, y3⟩ := HI.out.1.cell.cells
        go_wp2_with fail
        refine (HI.out.1.is_ (by omega) (by omega)).mono ?_
        rintro e4 w4 ⟨rfl, hb4⟩
        have H4 := hid (HI.out.1.sg.disk.bel.trans (hb4.mono HI.out.1.size))
        clear hb4 y0 y1 y2 y3 HI
        go_wp2_with fail
        refine (T.known_any w4).mono ?_
        rintro e5 w5 ⟨rfl, hb5⟩
        have H5 := hid (H4.out.trans (hb5.mono H4.out.size))
        clear hb5 H4
        go_wp2
        go_ret
        exact ⟨rfl, H5.out⟩
    · have hlt0 : ¬ (k : Int) < (l0.length : Int) := by omega
      obtain ⟨y0, y1, y2, y3⟩ := HI.out.1.cell.cells
      go_wp2_with fail
      refine (HI.out.1.is_ (by omega) (by omega)).mono ?_
      rintro e4 w4 ⟨rfl, hb4⟩
      have H4 := hid (HI.out.1.sg.disk.bel.trans (hb4.mono HI.out.1.size))
      clear hb4 y0 y1 y2 y3 HI
      go_wp2_with fail
      refine (T.known_any w4).mono ?_
      rintro e5 w5 ⟨rfl, hb5⟩
      have H5 := hid (H4.out.trans (hb5.mono H4.out.size))
      clear hb5 H4
      go_wp2
      go_ret
      exact ⟨rfl, H5.out⟩

set_option maxRecDepth 100000 in
theorem lifted (os : Os) (started : os.Started) (H : Type) (enc : TypeId × Value → H) :
    ReturnsInHanded {} Try.checked os 6 .any (Rows.storeThereSpec.pre6 enc Try.prog Try.f6 Rows.storeThereRow.domain false) (Rows.storeThereSpec.post enc Try.prog Try.f6 false true false false) := by
  refine returnsInHanded_of_change_sized (C := Try.checked) own started (by kernel_rfl) Try.func6
    (ChangeSpec.witness6 (enc := enc) (C := Try.checked) false ⟨#[], #[.slice none 0 0], []⟩ 8 (by kernel_rfl) (by kernel_rfl) (by kernel_rfl) (by kernel_rfl)) ?_
  intro W base args ds gs before hval0 hW hcnd hsz0 _
  have hsz : (DataW.weightsEach Try.prog (Try.f6.params.toList ++ Rows.storeThereSpec.plain.varTypes Try.prog) (ds ++ gs)).all (· ≤ reachBytes) = true := hsz0
  clear hsz0
  have hval : ∀ (j : Nat) t v, Try.f6.params[j]? = some t → args[j]? = some v → Value.okWide Try.prog W .any base t v := hval0
  have hW' := hW
  obtain ⟨p, q, hA0, hV, rfl, hfz, hnd⟩ := hW
  have hA : DataW.TrodAll enc Try.prog W 0 (fun _ => true) true Try.f6.params.toList args.toList ds p := hA0
  rw [Try.params6] at hA hval hsz
  obtain ⟨v0, vs0, d0, ds0, p0, q0, hargs, rfl, rfl, g0, t0⟩ := trodAll_cons hA
  obtain ⟨rfl, rfl, rfl⟩ := trodAll_nil t0
  obtain rfl : args = #[v0] := by cases args; simp_all
  obtain ⟨rfl, rfl⟩ := trodVars_none hV
  obtain ⟨a0, len0, cap0, rfl⟩ := okWide_slice Try.underlying43 (hval 0 43 v0 rfl rfl)
  have m0 := g0
  have lt0 : ∀ x ∈ p0, x.block < W.heap.size := by obtain ⟨m, hm⟩ := m0; exact DataW.trod_lt m _ _ _ hm
  obtain ⟨l0, k0, rfl, n0, r0, z0⟩ : ∃ l, IsDeeds W W.heap.size a0 l ∧ len0 = l.length ∧ l.length ≤ cap0 ∧ cap0 ≤ maxLen ∧ (a0 = none → cap0 = 0) := by
    obtain ⟨fuel, hf⟩ := g0
    obtain ⟨a, c, ts, hcs, h1, h2, h3⟩ := deeds_of_trod hf
    simp [Value.cells] at hcs
    obtain ⟨rfl, rfl, rfl⟩ := hcs
    exact ⟨ts, h1, rfl, h2.1, h2.2, h3⟩
  clear hA0 hval0
  refine (walk a0 cap0 l0 W k0 n0 r0 z0).mono fun e W' ⟨he, bel⟩ => ?_
  subst he
  exact ⟨_, rfl, _, _, _, [], _, [], hW', trodAll_mk1 (shut_bool Try.underlying4 _), (trodAll_cons_mk (Below.trod laidOut (by kernel_rfl) (of_decide_eq_true (by kernel_rfl)) m0 bel lt0) trodAll_mk0), rfl, bel.frame _, fun h => by cases h⟩

theorem over : Rows.storeThereRow.holds Try.pinned (OpenSpec.ofChange Rows.storeThereSpec) :=
  OpenClaim.holds_of_wide 6 Try.f6 rfl rfl rfl rfl rfl rfl rfl ⟨rfl, rfl, rfl, rfl, rfl⟩ rfl rfl rfl rfl rfl (by kernel_rfl) Try.func6 (by kernel_rfl)
    (of_decide_eq_true (by kernel_rfl)) (by unfold Func.isWrapper; first | (rw [if_pos (by decide +kernel)]; kernel_rfl) | (rw [if_neg (by decide +kernel)]; exact ⟨rfl, rfl⟩))
    (fun os started H enc _ => lifted os started H enc)

theorem proved : Rows.StoreThereSaid := over
end Go.Proofs.Ytdgijnolpjaheaa.storeThere
