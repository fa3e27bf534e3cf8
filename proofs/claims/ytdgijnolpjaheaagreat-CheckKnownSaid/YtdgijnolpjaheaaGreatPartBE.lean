/- Texts of the proof, one behind the other: WalkLasts08. -/
import Derived.Test.YtdgijnolpjaheaaGreatPartAN
import Derived.Test.YtdgijnolpjaheaaGreatPartBD
import Derived.Deep.CutRange
import Derived.WalkKit
import Derived.WalkLawsBesides
import Derived.ProofKit
import Derived.OpenShut
import Derived.ShutString
import Derived.ChangeOld
import Derived.Below
import Derived.SizedLaws
namespace Go.Proofs.YtdgijnolpjaheaaGreat.checkLasts
open Go.ChangeShapes Go.WideShapes Go.ChangeAt Go.RowKit
open Go.ChangeMaps (open_string shut_string)
set_option linter.unusedVariables false

theorem own : ownKnob Tryz.prog.godebug = none := by kernel_rfl
theorem laidOut : laidOutB Tryz.prog = true := by kernel_rfl
theorem bytesOfI : Tryz.prog.bytesOf 3 = 8 := by kernel_rfl

/-- what was saved last: it lies off the disk's blocks -/
structure Was (d : Dk) (w : World) (A : Option Addr) (q : List Nat) : Prop where
  reads : IsBytes w w.heap.size A q
  off : q ≠ [] → ∀ a, A = some a → ¬ d.has a.block
namespace Was
variable {d : Dk} {w w' : World} {A : Option Addr} {q : List Nat}
theorem nil : Was d w A [] := ⟨IsBytes.nil, fun h => absurd rfl h⟩
theorem turned (h : Was d w A q) (ht : Turned d.has w w') : Was d w' A q := by
  refine ⟨⟨h.reads.small, fun k hk => ?_⟩, h.off⟩
  obtain ⟨b, off, e, hb, hc⟩ := h.reads.cells k hk
  refine ⟨b, off, e, Nat.lt_of_lt_of_le hb ht.size, fun i hi => ?_⟩
  rw [ht.cell (p := ⟨b, off + i, none⟩) hb (h.off (by rintro rfl; simp at hk) ⟨b, off, none⟩ e)]
  exact hc i hi
theorem below (h : Was d w A q) (hb : Below w.heap.size w w') : Was d w' A q := h.turned (Turned.ofBelow _ hb)
theorem ofOwn {base c : Nat} (h : OwnsB 5 w base A c q) (hd : ∀ j, d.has j → j < base) : Was d w A q :=
  ⟨h.reads, fun _ a ha hh => by
    subst ha
    have h1 := (h.blkLt a.block rfl).1
    have h2 := hd _ hh
    omega⟩
end Was
set_option maxRecDepth 100000 in
set_option maxHeartbeats 4000000 in
theorem walk (a0 : Int) (a1 : Option Addr) (cap1 : Nat) (l1 : List (List Nat)) (a2 : Option Addr) (cap2 : Nat) (l2 : List Int) (a3 : Option Addr) (cap3 : Nat) (l3 : List (List Int)) (w : World) (b0 : -9223372036854775808 ≤ a0 ∧ a0 ≤ 9223372036854775807)
    (k1 : IsRowsIn w w.heap.size a1 l1) (n1 : l1.length ≤ cap1) (r1 : cap1 ≤ maxLen) (z1 : a1 = none → cap1 = 0) (k2 : IsInts w w.heap.size a2 l2) (n2 : l2.length ≤ cap2) (r2 : cap2 * 8 ≤ 140737488351232) (z2 : a2 = none → cap2 = 0) (k3 : IsIntRows w w.heap.size a3 l3) (n3 : l3.length ≤ cap3) (r3 : cap3 ≤ maxLen) (z3 : a3 = none → cap3 = 0) :
    Calls Tryz.prog 19 #[.int .i64 a0, .slice a1 l1.length cap1, .slice a2 l2.length cap2, .slice a3 l3.length cap3] w fun e w' => e = .returned (.bool true) ∧ Below w.heap.size w w' := by
  have HX := hid (And.intro k1 (And.intro k2 k3))
  have HG := hid (great_any w.heap.size a1 cap1 l1)
  clear k1 k2 k3 r1 r2 r3 z1 z2 z3 n1 n2 n3
  go_enter Tryz.func19, Tryz.ntmps19
  go_wp2_with fail
  refine (works_any w).mono ?_
  rintro e w1 ⟨rfl, hb1⟩
  have HB1 := hid hb1
  have HG1 := hid (HG.out w1 hb1.size (HX.out.1.below hb1))
  clear hb1 HG
  by_cases hgr : Ck.great l1 = true
  · rw [hgr] at HG1
    clear hgr
    go_wp2_with fail
    refine HG1.out.mono ?_
    rintro e w2 ⟨rfl, hb2⟩
    have HB2 := hid (HB1.out.trans (hb2.mono HB1.out.size))
    clear hb2
    go_wp2
    go_ret
    exact ⟨rfl, HB2.out⟩
  · have hgf : Ck.great l1 = false := by simpa using hgr
    rw [hgf] at HG1
    obtain ⟨hl60, hrows⟩ := Ck.great_iff.1 hgf
    have HRW := hid hrows
    clear hgr hgf hrows
    go_wp2_with fail
    refine HG1.out.mono ?_
    rintro e w2 ⟨rfl, hb2⟩
    have HB2 := hid (HB1.out.trans (hb2.mono HB1.out.size))
    clear hb2 HG1 HB1
    go_wp2_with fail
    refine (pick_lt a0 64 (by omega) (by omega) w2).mono ?_
    rintro e w3 ⟨⟨p, rfl, hp⟩, rfl⟩
    obtain ⟨N, hN⟩ : ∃ N : Nat, 1 + (p : Int) = (N : Int) := ⟨1 + p, by omega⟩
    have hNb : 1 ≤ N ∧ N ≤ 64 := by omega
    obtain ⟨hN1, hN2⟩ := hNb
    go_wp2_with fail
    clear hN hp
    refine (new_N (2 * N + 3) _ (by omega) (by omega) w2).mono ?_
    rintro e w3 ⟨d, rfl, hD, hb⟩
    have hdl : ∀ j, d.has j → j < w3.heap.size := hD.lt
    have H3 : Hid (CK w w3 d (Sx.new (2 * N + 3)) 2 N 0 [] ∧ ∀ j, d.has j → j < w3.heap.size) := hid ⟨⟨⟨hD.mono (fun k hk => Nat.lt_of_lt_of_le hk HB2.out.size), HB2.out.trans (hb.mono HB2.out.size)⟩, Ck.inv_new (2 * N + 3) 2 N (by omega) (by omega) (by omega) []⟩, hdl⟩
    clear hD hb hdl
    go_wp2_with fail
    go_loopw [11, 12, 13] (fun vW vE i wr => ∃ (k : Nat) (s : Sx.St) (e : Nat) (q : List Nat) (Aw : Option Addr) (cw : Nat), k ≤ l1.length ∧ e ≤ k ∧ i = .int .i64 (k : Int) ∧ vE = .int .i64 (e : Int) ∧ vW = .slice Aw q.length cw ∧ q.length ≤ 4096 ∧
      Hid (CK w wr d s 2 N (e : Int) q ∧ s.down = false ∧ w3.heap.size ≤ wr.heap.size ∧ Was d wr Aw q)) (fun _ _ i _ => l1.length - (RowKit.intOf i).toNat)
    case atStart => exact ⟨0, _, 0, [], none, 0, by omega, by omega, rfl, rfl, rfl, by simp, hid ⟨H3.out.1, rfl, Nat.le_refl _, Was.nil⟩⟩
    case round =>
      obtain ⟨k, s, e, q, Aw, cw, hk, hek, rfl, rfl, rfl, hq4, HI⟩ := hrel
      by_cases hlt : k < l1.length
      · have hlt0 : (k : Int) < (l1.length : Int) := by omega
        obtain ⟨b, off, rfl, hbB, hcs⟩ := HX.out.1 k hlt
        obtain ⟨A', c', hck, hpb, hpc, hpz⟩ := hcs k hlt
        have hrl := HRW.out l1[k] (List.getElem_mem _)
        obtain ⟨pl, hpl⟩ : ∃ pl, pl = l1[k] := ⟨_, rfl⟩
        rw [← hpl] at hck hpb hpc hrl
        obtain ⟨m, hm⟩ : ∃ m, pl.length = m := ⟨_, rfl⟩
        rw [hm] at hck hpc hrl
        have HC : Hid (∀ w' : World, Below w.heap.size w w' → w'.cell? ⟨b, off + k, none⟩ = some (.slice A' m c') ∧ IsBytes w' w'.heap.size A' pl ∧ (pl ≠ [] → ∀ a, A' = some a → ¬ d.has a.block)) := hid (fun w' hb => ⟨(hb.cell (p := ⟨b, off + k, none⟩) hbB).trans hck, (hpb.below hb).more hb.size, fun hne a ha hd => by
          rcases pl with _ | ⟨y, pl⟩
          · exact absurd rfl hne
          · obtain ⟨b2, o2, e2, hb2, _⟩ := hpb.cells 0 (by simp)
            rw [ha] at e2; injection e2 with e2; subst e2
            have := H3.out.1.disk.ge _ hd
            have hb2' : b2 < w.heap.size := hb2
            have : w.heap.size ≤ b2 := this
            omega⟩)
        have HQ := hid (And.intro hm (And.intro hpc hpz))
        clear hck hpb hpc hpz hcs hpl hm
        go_upto_if 42 with (fail)
        go_cut [42] from 33 to 162 (fun _ wx => Hid (∃ s1, CK w wx d s1 2 N (e : Int) q ∧ s1.down = false ∧ w3.heap.size ≤ wx.heap.size ∧ Was d wx Aw q))
        case first =>
          by_cases hcu : k < l2.length
          · have hcu0 : (k : Int) < (l2.length : Int) := by omega
            obtain ⟨b2, o2, rfl, hb2, hc2⟩ := HX.out.2.1.cells k hcu
            have hcell2 : wr.cell? ⟨b2, o2 + k, none⟩ = some (.int .i64 l2[k]) := (HI.out.1.disk.bel.cell (p := ⟨b2, o2 + k, none⟩) hb2).trans (hc2 k hcu)
            obtain ⟨v, hv⟩ : ∃ v, v = l2[k] := ⟨_, rfl⟩
            rw [← hv] at hcell2
            clear hc2 hv
            go_wp2_with fail
            refine (pick_lt v ((N : Int) + 4) (by omega) (by omega) wr).mono ?_
            rintro e1 w4 ⟨⟨p, rfl, hpN⟩, rfl⟩
            go_wp2_with fail
            refine (arm_any _ d s (p : Int) (by unfold InInt; omega) wr HI.out.1.disk.at_).mono ?_
            rintro e1 w4 ⟨rfl, hd4, ht4⟩
            have H4 : Hid (CK w w4 d (Sx.arm s p) 2 N (e : Int) q ∧ (Sx.arm s p).down = false ∧ w3.heap.size ≤ w4.heap.size ∧ Was d w4 Aw q) := hid ⟨⟨HI.out.1.disk.next hd4 ht4, Ck.inv_arm HI.out.1.inv _⟩, HI.out.2.1, Nat.le_trans HI.out.2.2.1 ht4.size, HI.out.2.2.2.turned ht4⟩
            clear hd4 ht4 hcell2 hpN
            go_wp2_with fail
            go_meet
            exact hid ⟨_, H4.out⟩
          · have hcu0 : ¬ (k : Int) < (l2.length : Int) := by omega
            go_wp2_with fail
            go_meet
            exact hid ⟨s, HI.out⟩
        case rest =>
          obtain ⟨s1, hc4⟩ := hcut.out
          have H4 := hid hc4
          clear hcut hc4
          have hcell4 := (HC.out wc H4.out.1.disk.bel).1
          go_wp2_with fail
          refine (C.save_CK w wc d s1 2 N (e : Int) ((e : Int) + 1) q H4.out.1 ⟨by omega, by omega⟩ (.inl rfl) A' c' pl m HQ.out.1 (by omega) HQ.out.2.1.1 HQ.out.2.1.2 HQ.out.2.2 (HC.out wc H4.out.1.disk.bel).2.1).mono ?_
          rintro e5 w5 ⟨E, rfl, HD⟩
          clear hcell4
          rcases HD.out with ⟨hfit, hE, hw⟩ | ⟨s5, hfit, hE, hd5, hn5, ha5, ho5, ht5⟩ | ⟨s5, hfit, hE, hd5, hn5, ho5, ht5, hs5, hc5⟩
          · subst hE
            have hle : (N : Int) * 40 < (m : Int) := by have := HQ.out.1; unfold Jo.secs at hfit; omega
            have H5 : Hid (CK w w5 d s1 2 N (e : Int) q ∧ s1.down = false ∧ w3.heap.size ≤ w5.heap.size ∧ Was d w5 Aw q) := by rw [hw]; exact H4
            clear HD hfit hw H4
            have hcell5 := (HC.out w5 H5.out.1.disk.bel).1
            by_cases hhow : k < l3.length
            · have hhow0 : (k : Int) < (l3.length : Int) := by omega
              obtain ⟨b3, o3, rfl, hb3, hcs3⟩ := HX.out.2.2 k hhow
              obtain ⟨A3, c3, hck3, hpb3, hpc3, hpz3⟩ := hcs3 k hhow
              obtain ⟨fl, hfl⟩ : ∃ fl, fl = l3[k] := ⟨_, rfl⟩
              rw [← hfl] at hck3 hpb3
              have hcell3 : w5.cell? ⟨b3, o3 + k, none⟩ = some (.slice A3 fl.length c3) := (H5.out.1.disk.bel.cell (p := ⟨b3, o3 + k, none⟩) hb3).trans hck3
              have HIN : Hid (∀ w', Turned d.has w5 w' → IsInts w' w'.heap.size A3 fl) := hid (fun w' ht => by
                have h1 : Below w.heap.size w w' := H5.out.1.disk.bel.trans (ht.below H5.out.1.disk.bel.size H5.out.1.disk.ge)
                exact (hpb3.below h1).more h1.size)
              clear hcs3 hck3 hpb3 hpc3 hpz3 hfl
              go_wp2_with fail
              refine (crash_any _ d s1 A3 c3 fl fl.length rfl w5 H5.out.1.disk.at_ HIN.out).mono ?_
              rintro e6 w6 ⟨rfl, hd6, ht6⟩
              have H6 : Hid (CK w w6 d (Sx.crash s1 fl) 2 N (e : Int) q ∧ (Sx.crash s1 fl).down = false ∧ w3.heap.size ≤ w6.heap.size ∧ Was d w6 Aw q) := hid ⟨⟨H5.out.1.disk.next hd6 ht6, Ck.inv_crash H5.out.1.inv _⟩, rfl, Nat.le_trans H5.out.2.2.1 ht6.size, H5.out.2.2.2.turned ht6⟩
              clear hd6 ht6 hcell3 HIN hcell5
              obtain ⟨s6, hs6⟩ : ∃ s6, s6 = Sx.crash s1 fl := ⟨_, rfl⟩
              rw [← hs6] at H6
              clear hs6 H5
              go_wp2_with fail
              by_cases he0 : e = 0
              · have hq0 : (e : Int) = 0 := by omega
                have hCK : CK w w6 d s6 2 N 0 q := by have h := H6.out.1; rwa [hq0] at h
                have HK := hid hCK
                have hez : ((e : Int) != 0) = false := by rw [hq0]; rfl
                clear hCK he0 hq0
                refine (C.load_none w w6 d s6 2 N q HK.out).mono ?_
                rintro e7 w7 ⟨A7, c7, rfl, hb7⟩
                have H7 : Hid (CK w w7 d s6 2 N (e : Int) q ∧ s6.down = false ∧ w3.heap.size ≤ w7.heap.size ∧ Was d w7 Aw q) := hid ⟨H6.out.1.below hb7.out, H6.out.2.1, Nat.le_trans H6.out.2.2.1 hb7.out.size, H6.out.2.2.2.below hb7.out⟩
                clear hb7 HK
                go_wp2
                go_roundw
                case rel => exact ⟨k + 1, s6, e, q, Aw, cw, by omega, by omega, by go_num, rfl, rfl, hq4, H7⟩
                case measure => simp [RowKit.intOf]; omega
              · have hep : (e : Int) ≠ 0 := by omega
                refine (C.load_CK w w6 d s6 2 N (e : Int) q H6.out.1 (by omega) q.length rfl).mono ?_
                rintro e7 w7 ⟨A7, c7, rfl, H7⟩
                have hbel7 : Below w.heap.size w w7 := H6.out.1.disk.bel.trans (H7.out.2.mono H6.out.1.disk.bel.size)
                have HB7 := hid (And.intro hbel7 (H6.out.2.2.2.below H7.out.2))
                have hne : ((e : Int) == (e : Int) + 1) = false := by rw [beq_eq_false_iff_ne]; omega
                have hne2 : ((e : Int) + 1 == (e : Int)) = false := by rw [beq_eq_false_iff_ne]; omega
                have hne3 : ((e : Int) + 1 != (e : Int)) = true := by rw [bne_iff_ne]; omega
                have hne4 : ((e : Int) + 1 == (e : Int) + 1 + 1) = false := by rw [beq_eq_false_iff_ne]; omega
                clear hbel7
                go_wp2_with fail
                refine (same_B A7 Aw c7 cw q q.length rfl (by unfold maxLen; omega) w7 H7.out.1.reads HB7.out.2.reads).mono ?_
                rintro e8 w8 ⟨rfl, hb8⟩
                have H8 : Hid (CK w w8 d s6 2 N (e : Int) q ∧ s6.down = false ∧ w3.heap.size ≤ w8.heap.size ∧ Was d w8 A7 q) := hid ⟨H6.out.1.below (H7.out.2.trans (hb8.mono H7.out.2.size)), H6.out.2.1, Nat.le_trans H6.out.2.2.1 (H7.out.2.trans (hb8.mono H7.out.2.size)).size, Was.ofOwn (H7.out.1.below hb8) (fun j hj => by have h1 := H3.out.2 j hj; have h2 := H6.out.2.2.1; omega)⟩
                clear hb8
                go_wp2
                go_roundw
                case rel => exact ⟨k + 1, s6, e, q, A7, c7, by omega, by omega, by go_num, by go_num, rfl, by have := HQ.out.1; omega, H8⟩
                case measure => simp [RowKit.intOf]; omega
            · have hhow0 : ¬ (k : Int) < (l3.length : Int) := by omega
              go_wp2_with fail
              have hdn := H5.out.2.1
              have HDN := hid (down_any _ d s1 w5 H5.out.1.disk.at_)
              rw [hdn] at HDN
              clear hdn
              refine HDN.out.mono ?_
              rintro e6 w6 ⟨rfl, rfl⟩
              have H6 := H5
              obtain ⟨s6, hs6⟩ : ∃ s6, s6 = s1 := ⟨_, rfl⟩
              rw [← hs6] at H6
              clear hs6 H5
              clear hcell5 HDN
              go_wp2_with fail
              by_cases he0 : e = 0
              · have hq0 : (e : Int) = 0 := by omega
                have hCK : CK w w6 d s6 2 N 0 q := by have h := H6.out.1; rwa [hq0] at h
                have HK := hid hCK
                have hez : ((e : Int) != 0) = false := by rw [hq0]; rfl
                clear hCK he0 hq0
                refine (C.load_none w w6 d s6 2 N q HK.out).mono ?_
                rintro e7 w7 ⟨A7, c7, rfl, hb7⟩
                have H7 : Hid (CK w w7 d s6 2 N (e : Int) q ∧ s6.down = false ∧ w3.heap.size ≤ w7.heap.size ∧ Was d w7 Aw q) := hid ⟨H6.out.1.below hb7.out, H6.out.2.1, Nat.le_trans H6.out.2.2.1 hb7.out.size, H6.out.2.2.2.below hb7.out⟩
                clear hb7 HK
                go_wp2
                go_roundw
                case rel => exact ⟨k + 1, s6, e, q, Aw, cw, by omega, by omega, by go_num, rfl, rfl, hq4, H7⟩
                case measure => simp [RowKit.intOf]; omega
              · have hep : (e : Int) ≠ 0 := by omega
                refine (C.load_CK w w6 d s6 2 N (e : Int) q H6.out.1 (by omega) q.length rfl).mono ?_
                rintro e7 w7 ⟨A7, c7, rfl, H7⟩
                have hbel7 : Below w.heap.size w w7 := H6.out.1.disk.bel.trans (H7.out.2.mono H6.out.1.disk.bel.size)
                have HB7 := hid (And.intro hbel7 (H6.out.2.2.2.below H7.out.2))
                have hne : ((e : Int) == (e : Int) + 1) = false := by rw [beq_eq_false_iff_ne]; omega
                have hne2 : ((e : Int) + 1 == (e : Int)) = false := by rw [beq_eq_false_iff_ne]; omega
                have hne3 : ((e : Int) + 1 != (e : Int)) = true := by rw [bne_iff_ne]; omega
                have hne4 : ((e : Int) + 1 == (e : Int) + 1 + 1) = false := by rw [beq_eq_false_iff_ne]; omega
                clear hbel7
                go_wp2_with fail
                refine (same_B A7 Aw c7 cw q q.length rfl (by unfold maxLen; omega) w7 H7.out.1.reads HB7.out.2.reads).mono ?_
                rintro e8 w8 ⟨rfl, hb8⟩
                have H8 : Hid (CK w w8 d s6 2 N (e : Int) q ∧ s6.down = false ∧ w3.heap.size ≤ w8.heap.size ∧ Was d w8 A7 q) := hid ⟨H6.out.1.below (H7.out.2.trans (hb8.mono H7.out.2.size)), H6.out.2.1, Nat.le_trans H6.out.2.2.1 (H7.out.2.trans (hb8.mono H7.out.2.size)).size, Was.ofOwn (H7.out.1.below hb8) (fun j hj => by have h1 := H3.out.2 j hj; have h2 := H6.out.2.2.1; omega)⟩
                clear hb8
                go_wp2
                go_roundw
                case rel => exact ⟨k + 1, s6, e, q, A7, c7, by omega, by omega, by go_num, by go_num, rfl, by have := HQ.out.1; omega, H8⟩
                case measure => simp [RowKit.intOf]; omega
          · subst hE
            have hle : ¬ (N : Int) * 40 < (m : Int) := by have := HQ.out.1; unfold Jo.secs at hfit; omega
            have H5 : Hid (CK w w5 d s5 2 N ((e : Int) + 1) pl ∧ s5.down = false ∧ w3.heap.size ≤ w5.heap.size ∧ Was d w5 A' pl) := hid ⟨hd5, ho5, Nat.le_trans H4.out.2.2.1 ht5.size, ⟨(HC.out w5 hd5.disk.bel).2.1, (HC.out w5 hd5.disk.bel).2.2⟩⟩
            clear HD hfit hd5 hn5 ha5 ho5 ht5 H4
            have hcell5 := (HC.out w5 H5.out.1.disk.bel).1
            by_cases hhow : k < l3.length
            · have hhow0 : (k : Int) < (l3.length : Int) := by omega
              obtain ⟨b3, o3, rfl, hb3, hcs3⟩ := HX.out.2.2 k hhow
              obtain ⟨A3, c3, hck3, hpb3, hpc3, hpz3⟩ := hcs3 k hhow
              obtain ⟨fl, hfl⟩ : ∃ fl, fl = l3[k] := ⟨_, rfl⟩
              rw [← hfl] at hck3 hpb3
              have hcell3 : w5.cell? ⟨b3, o3 + k, none⟩ = some (.slice A3 fl.length c3) := (H5.out.1.disk.bel.cell (p := ⟨b3, o3 + k, none⟩) hb3).trans hck3
              have HIN : Hid (∀ w', Turned d.has w5 w' → IsInts w' w'.heap.size A3 fl) := hid (fun w' ht => by
                have h1 : Below w.heap.size w w' := H5.out.1.disk.bel.trans (ht.below H5.out.1.disk.bel.size H5.out.1.disk.ge)
                exact (hpb3.below h1).more h1.size)
              clear hcs3 hck3 hpb3 hpc3 hpz3 hfl
              go_wp2_with fail
              refine (crash_any _ d s5 A3 c3 fl fl.length rfl w5 H5.out.1.disk.at_ HIN.out).mono ?_
              rintro e6 w6 ⟨rfl, hd6, ht6⟩
              have H6 : Hid (CK w w6 d (Sx.crash s5 fl) 2 N ((e : Int) + 1) pl ∧ (Sx.crash s5 fl).down = false ∧ w3.heap.size ≤ w6.heap.size ∧ Was d w6 A' pl) := hid ⟨⟨H5.out.1.disk.next hd6 ht6, Ck.inv_crash H5.out.1.inv _⟩, rfl, Nat.le_trans H5.out.2.2.1 ht6.size, H5.out.2.2.2.turned ht6⟩
              clear hd6 ht6 hcell3 HIN hcell5
              obtain ⟨s6, hs6⟩ : ∃ s6, s6 = Sx.crash s5 fl := ⟨_, rfl⟩
              rw [← hs6] at H6
              clear hs6 H5
              go_wp2_with fail
              refine (C.load_CK w w6 d s6 2 N ((e : Int) + 1) pl H6.out.1 (by omega) m HQ.out.1).mono ?_
              rintro e7 w7 ⟨A7, c7, rfl, H7⟩
              have hbel7 : Below w.heap.size w w7 := H6.out.1.disk.bel.trans (H7.out.2.mono H6.out.1.disk.bel.size)
              have HB7 := hid (And.intro hbel7 (H6.out.2.2.2.below H7.out.2))
              have hne : ((e : Int) == (e : Int) + 1) = false := by rw [beq_eq_false_iff_ne]; omega
              have hne2 : ((e : Int) + 1 == (e : Int)) = false := by rw [beq_eq_false_iff_ne]; omega
              have hne3 : ((e : Int) + 1 != (e : Int)) = true := by rw [bne_iff_ne]; omega
              have hne4 : ((e : Int) + 1 == (e : Int) + 1 + 1) = false := by rw [beq_eq_false_iff_ne]; omega
              clear hbel7
              go_wp2_with fail
              refine (same_B A7 A' c7 c' pl m HQ.out.1 (by unfold maxLen; omega) w7 H7.out.1.reads HB7.out.2.reads).mono ?_
              rintro e8 w8 ⟨rfl, hb8⟩
              have H8 : Hid (CK w w8 d s6 2 N ((e : Int) + 1) pl ∧ s6.down = false ∧ w3.heap.size ≤ w8.heap.size ∧ Was d w8 A7 pl) := hid ⟨H6.out.1.below (H7.out.2.trans (hb8.mono H7.out.2.size)), H6.out.2.1, Nat.le_trans H6.out.2.2.1 (H7.out.2.trans (hb8.mono H7.out.2.size)).size, Was.ofOwn (H7.out.1.below hb8) (fun j hj => by have h1 := H3.out.2 j hj; have h2 := H6.out.2.2.1; omega)⟩
              clear hb8
              go_wp2
              go_roundw
              case rel => exact ⟨k + 1, s6, (e + 1), pl, A7, c7, by omega, by omega, by go_num, by go_num, by rw [HQ.out.1], by have := HQ.out.1; omega, H8⟩
              case measure => simp [RowKit.intOf]; omega
            · have hhow0 : ¬ (k : Int) < (l3.length : Int) := by omega
              go_wp2_with fail
              have hdn := H5.out.2.1
              have HDN := hid (down_any _ d s5 w5 H5.out.1.disk.at_)
              rw [hdn] at HDN
              clear hdn
              refine HDN.out.mono ?_
              rintro e6 w6 ⟨rfl, rfl⟩
              have H6 := H5
              obtain ⟨s6, hs6⟩ : ∃ s6, s6 = s5 := ⟨_, rfl⟩
              rw [← hs6] at H6
              clear hs6 H5
              clear hcell5 HDN
              go_wp2_with fail
              refine (C.load_CK w w6 d s6 2 N ((e : Int) + 1) pl H6.out.1 (by omega) m HQ.out.1).mono ?_
              rintro e7 w7 ⟨A7, c7, rfl, H7⟩
              have hbel7 : Below w.heap.size w w7 := H6.out.1.disk.bel.trans (H7.out.2.mono H6.out.1.disk.bel.size)
              have HB7 := hid (And.intro hbel7 (H6.out.2.2.2.below H7.out.2))
              have hne : ((e : Int) == (e : Int) + 1) = false := by rw [beq_eq_false_iff_ne]; omega
              have hne2 : ((e : Int) + 1 == (e : Int)) = false := by rw [beq_eq_false_iff_ne]; omega
              have hne3 : ((e : Int) + 1 != (e : Int)) = true := by rw [bne_iff_ne]; omega
              have hne4 : ((e : Int) + 1 == (e : Int) + 1 + 1) = false := by rw [beq_eq_false_iff_ne]; omega
              clear hbel7
              go_wp2_with fail
              refine (same_B A7 A' c7 c' pl m HQ.out.1 (by unfold maxLen; omega) w7 H7.out.1.reads HB7.out.2.reads).mono ?_
              rintro e8 w8 ⟨rfl, hb8⟩
              have H8 : Hid (CK w w8 d s6 2 N ((e : Int) + 1) pl ∧ s6.down = false ∧ w3.heap.size ≤ w8.heap.size ∧ Was d w8 A7 pl) := hid ⟨H6.out.1.below (H7.out.2.trans (hb8.mono H7.out.2.size)), H6.out.2.1, Nat.le_trans H6.out.2.2.1 (H7.out.2.trans (hb8.mono H7.out.2.size)).size, Was.ofOwn (H7.out.1.below hb8) (fun j hj => by have h1 := H3.out.2 j hj; have h2 := H6.out.2.2.1; omega)⟩
              clear hb8
              go_wp2
              go_roundw
              case rel => exact ⟨k + 1, s6, (e + 1), pl, A7, c7, by omega, by omega, by go_num, by go_num, by rw [HQ.out.1], by have := HQ.out.1; omega, H8⟩
              case measure => simp [RowKit.intOf]; omega
          · subst hE
            have hle : ¬ (N : Int) * 40 < (m : Int) := by have := HQ.out.1; unfold Jo.secs at hfit; omega
            have H5 : Hid (DM w w5 d s5 ∧ s5.down = true ∧ w3.heap.size ≤ w5.heap.size ∧ Was d w5 Aw q ∧ Was d w5 A' pl ∧ ∀ l, Ck.Inv (Sx.crash s5 l) 2 N (e : Int) q ∨ Ck.Inv (Sx.crash s5 l) 2 N ((e : Int) + 1) pl) := hid ⟨hd5, ho5, Nat.le_trans H4.out.2.2.1 ht5.size, H4.out.2.2.2.turned ht5, ⟨(HC.out w5 hd5.bel).2.1, (HC.out w5 hd5.bel).2.2⟩, hc5⟩
            clear HD hfit hd5 hn5 ho5 ht5 hs5 hc5 H4
            have hcell5 := (HC.out w5 H5.out.1.bel).1
            by_cases hhow : k < l3.length
            · have hhow0 : (k : Int) < (l3.length : Int) := by omega
              obtain ⟨b3, o3, rfl, hb3, hcs3⟩ := HX.out.2.2 k hhow
              obtain ⟨A3, c3, hck3, hpb3, hpc3, hpz3⟩ := hcs3 k hhow
              obtain ⟨fl, hfl⟩ : ∃ fl, fl = l3[k] := ⟨_, rfl⟩
              rw [← hfl] at hck3 hpb3
              have hcell3 : w5.cell? ⟨b3, o3 + k, none⟩ = some (.slice A3 fl.length c3) := (H5.out.1.bel.cell (p := ⟨b3, o3 + k, none⟩) hb3).trans hck3
              have HIN : Hid (∀ w', Turned d.has w5 w' → IsInts w' w'.heap.size A3 fl) := hid (fun w' ht => by
                have h1 : Below w.heap.size w w' := H5.out.1.bel.trans (ht.below H5.out.1.bel.size H5.out.1.ge)
                exact (hpb3.below h1).more h1.size)
              clear hcs3 hck3 hpb3 hpc3 hpz3 hfl
              go_wp2_with fail
              refine (crash_any _ d s5 A3 c3 fl fl.length rfl w5 H5.out.1.at_ HIN.out).mono ?_
              rintro e6 w6 ⟨rfl, hd6, ht6⟩
              have hor := H5.out.2.2.2.2.2 fl
              rcases hor with hi | hi
              · have H6 : Hid (CK w w6 d (Sx.crash s5 fl) 2 N (e : Int) q ∧ (Sx.crash s5 fl).down = false ∧ w3.heap.size ≤ w6.heap.size ∧ Was d w6 Aw q) := hid ⟨⟨H5.out.1.next hd6 ht6, hi⟩, rfl, Nat.le_trans H5.out.2.2.1 ht6.size, H5.out.2.2.2.1.turned ht6⟩
                clear hd6 ht6 hi hcell3 HIN hcell5
                obtain ⟨s6, hs6⟩ : ∃ s6, s6 = Sx.crash s5 fl := ⟨_, rfl⟩
                rw [← hs6] at H6
                clear hs6 H5
                go_wp2_with fail
                by_cases he0 : e = 0
                · have hq0 : (e : Int) = 0 := by omega
                  have hCK : CK w w6 d s6 2 N 0 q := by have h := H6.out.1; rwa [hq0] at h
                  have HK := hid hCK
                  have hez : ((e : Int) != 0) = false := by rw [hq0]; rfl
                  clear hCK he0 hq0
                  refine (C.load_none w w6 d s6 2 N q HK.out).mono ?_
                  rintro e7 w7 ⟨A7, c7, rfl, hb7⟩
                  have H7 : Hid (CK w w7 d s6 2 N (e : Int) q ∧ s6.down = false ∧ w3.heap.size ≤ w7.heap.size ∧ Was d w7 Aw q) := hid ⟨H6.out.1.below hb7.out, H6.out.2.1, Nat.le_trans H6.out.2.2.1 hb7.out.size, H6.out.2.2.2.below hb7.out⟩
                  clear hb7 HK
                  go_wp2
                  go_roundw
                  case rel => exact ⟨k + 1, s6, e, q, Aw, cw, by omega, by omega, by go_num, rfl, rfl, hq4, H7⟩
                  case measure => simp [RowKit.intOf]; omega
                · have hep : (e : Int) ≠ 0 := by omega
                  refine (C.load_CK w w6 d s6 2 N (e : Int) q H6.out.1 (by omega) q.length rfl).mono ?_
                  rintro e7 w7 ⟨A7, c7, rfl, H7⟩
                  have hbel7 : Below w.heap.size w w7 := H6.out.1.disk.bel.trans (H7.out.2.mono H6.out.1.disk.bel.size)
                  have HB7 := hid (And.intro hbel7 (H6.out.2.2.2.below H7.out.2))
                  have hne : ((e : Int) == (e : Int) + 1) = false := by rw [beq_eq_false_iff_ne]; omega
                  have hne2 : ((e : Int) + 1 == (e : Int)) = false := by rw [beq_eq_false_iff_ne]; omega
                  have hne3 : ((e : Int) + 1 != (e : Int)) = true := by rw [bne_iff_ne]; omega
                  have hne4 : ((e : Int) + 1 == (e : Int) + 1 + 1) = false := by rw [beq_eq_false_iff_ne]; omega
                  clear hbel7
                  go_wp2_with fail
                  refine (same_B A7 Aw c7 cw q q.length rfl (by unfold maxLen; omega) w7 H7.out.1.reads HB7.out.2.reads).mono ?_
                  rintro e8 w8 ⟨rfl, hb8⟩
                  have H8 : Hid (CK w w8 d s6 2 N (e : Int) q ∧ s6.down = false ∧ w3.heap.size ≤ w8.heap.size ∧ Was d w8 A7 q) := hid ⟨H6.out.1.below (H7.out.2.trans (hb8.mono H7.out.2.size)), H6.out.2.1, Nat.le_trans H6.out.2.2.1 (H7.out.2.trans (hb8.mono H7.out.2.size)).size, Was.ofOwn (H7.out.1.below hb8) (fun j hj => by have h1 := H3.out.2 j hj; have h2 := H6.out.2.2.1; omega)⟩
                  clear hb8
                  go_wp2
                  go_roundw
                  case rel => exact ⟨k + 1, s6, e, q, A7, c7, by omega, by omega, by go_num, by go_num, rfl, by have := HQ.out.1; omega, H8⟩
                  case measure => simp [RowKit.intOf]; omega
              · have H6 : Hid (CK w w6 d (Sx.crash s5 fl) 2 N ((e : Int) + 1) pl ∧ (Sx.crash s5 fl).down = false ∧ w3.heap.size ≤ w6.heap.size ∧ Was d w6 A' pl) := hid ⟨⟨H5.out.1.next hd6 ht6, hi⟩, rfl, Nat.le_trans H5.out.2.2.1 ht6.size, H5.out.2.2.2.2.1.turned ht6⟩
                clear hd6 ht6 hi hcell3 HIN hcell5
                obtain ⟨s6, hs6⟩ : ∃ s6, s6 = Sx.crash s5 fl := ⟨_, rfl⟩
                rw [← hs6] at H6
                clear hs6 H5
                go_wp2_with fail
                refine (C.load_CK w w6 d s6 2 N ((e : Int) + 1) pl H6.out.1 (by omega) m HQ.out.1).mono ?_
                rintro e7 w7 ⟨A7, c7, rfl, H7⟩
                have hbel7 : Below w.heap.size w w7 := H6.out.1.disk.bel.trans (H7.out.2.mono H6.out.1.disk.bel.size)
                have HB7 := hid (And.intro hbel7 (H6.out.2.2.2.below H7.out.2))
                have hcell7 := (HC.out w7 hbel7).1
                have hne : ((e : Int) == (e : Int) + 1) = false := by rw [beq_eq_false_iff_ne]; omega
                have hne2 : ((e : Int) + 1 == (e : Int)) = false := by rw [beq_eq_false_iff_ne]; omega
                have hne3 : ((e : Int) + 1 != (e : Int)) = true := by rw [bne_iff_ne]; omega
                have hne4 : ((e : Int) + 1 == (e : Int) + 1 + 1) = false := by rw [beq_eq_false_iff_ne]; omega
                clear hbel7
                go_wp2_with fail
                refine (same_B A7 A' c7 c' pl m HQ.out.1 (by unfold maxLen; omega) w7 H7.out.1.reads HB7.out.2.reads).mono ?_
                rintro e8 w8 ⟨rfl, hb8⟩
                have H8 : Hid (CK w w8 d s6 2 N ((e : Int) + 1) pl ∧ s6.down = false ∧ w3.heap.size ≤ w8.heap.size ∧ Was d w8 A7 pl) := hid ⟨H6.out.1.below (H7.out.2.trans (hb8.mono H7.out.2.size)), H6.out.2.1, Nat.le_trans H6.out.2.2.1 (H7.out.2.trans (hb8.mono H7.out.2.size)).size, Was.ofOwn (H7.out.1.below hb8) (fun j hj => by have h1 := H3.out.2 j hj; have h2 := H6.out.2.2.1; omega)⟩
                clear hb8 hcell7
                go_wp2
                go_roundw
                case rel => exact ⟨k + 1, s6, (e + 1), pl, A7, c7, by omega, by omega, by go_num, by go_num, by rw [HQ.out.1], by have := HQ.out.1; omega, H8⟩
                case measure => simp [RowKit.intOf]; omega
            · have hhow0 : ¬ (k : Int) < (l3.length : Int) := by omega
              go_wp2_with fail
              have hdn := H5.out.2.1
              have HDN := hid (down_any _ d s5 w5 H5.out.1.at_)
              rw [hdn] at HDN
              clear hdn
              refine HDN.out.mono ?_
              rintro e6 w6 ⟨rfl, hw6⟩
              rw [hw6]
              clear hw6 HDN
              go_wp2_with fail
              refine (crash_any _ d s5 none 0 [] 0 rfl w5 H5.out.1.at_ (fun w' ht => IsInts.nil)).mono ?_
              rintro e6 w6 ⟨rfl, hd6, ht6⟩
              have hor := H5.out.2.2.2.2.2 []
              rcases hor with hi | hi
              · have H6 : Hid (CK w w6 d (Sx.crash s5 []) 2 N (e : Int) q ∧ (Sx.crash s5 []).down = false ∧ w3.heap.size ≤ w6.heap.size ∧ Was d w6 Aw q) := hid ⟨⟨H5.out.1.next hd6 ht6, hi⟩, rfl, Nat.le_trans H5.out.2.2.1 ht6.size, H5.out.2.2.2.1.turned ht6⟩
                clear hd6 ht6 hi hcell5
                obtain ⟨s6, hs6⟩ : ∃ s6, s6 = Sx.crash s5 [] := ⟨_, rfl⟩
                rw [← hs6] at H6
                clear hs6 H5
                go_wp2_with fail
                by_cases he0 : e = 0
                · have hq0 : (e : Int) = 0 := by omega
                  have hCK : CK w w6 d s6 2 N 0 q := by have h := H6.out.1; rwa [hq0] at h
                  have HK := hid hCK
                  have hez : ((e : Int) != 0) = false := by rw [hq0]; rfl
                  clear hCK he0 hq0
                  refine (C.load_none w w6 d s6 2 N q HK.out).mono ?_
                  rintro e7 w7 ⟨A7, c7, rfl, hb7⟩
                  have H7 : Hid (CK w w7 d s6 2 N (e : Int) q ∧ s6.down = false ∧ w3.heap.size ≤ w7.heap.size ∧ Was d w7 Aw q) := hid ⟨H6.out.1.below hb7.out, H6.out.2.1, Nat.le_trans H6.out.2.2.1 hb7.out.size, H6.out.2.2.2.below hb7.out⟩
                  clear hb7 HK
                  go_wp2
                  go_roundw
                  case rel => exact ⟨k + 1, s6, e, q, Aw, cw, by omega, by omega, by go_num, rfl, rfl, hq4, H7⟩
                  case measure => simp [RowKit.intOf]; omega
                · have hep : (e : Int) ≠ 0 := by omega
                  refine (C.load_CK w w6 d s6 2 N (e : Int) q H6.out.1 (by omega) q.length rfl).mono ?_
                  rintro e7 w7 ⟨A7, c7, rfl, H7⟩
                  have hbel7 : Below w.heap.size w w7 := H6.out.1.disk.bel.trans (H7.out.2.mono H6.out.1.disk.bel.size)
                  have HB7 := hid (And.intro hbel7 (H6.out.2.2.2.below H7.out.2))
                  have hne : ((e : Int) == (e : Int) + 1) = false := by rw [beq_eq_false_iff_ne]; omega
                  have hne2 : ((e : Int) + 1 == (e : Int)) = false := by rw [beq_eq_false_iff_ne]; omega
                  have hne3 : ((e : Int) + 1 != (e : Int)) = true := by rw [bne_iff_ne]; omega
                  have hne4 : ((e : Int) + 1 == (e : Int) + 1 + 1) = false := by rw [beq_eq_false_iff_ne]; omega
                  clear hbel7
                  go_wp2_with fail
                  refine (same_B A7 Aw c7 cw q q.length rfl (by unfold maxLen; omega) w7 H7.out.1.reads HB7.out.2.reads).mono ?_
                  rintro e8 w8 ⟨rfl, hb8⟩
                  have H8 : Hid (CK w w8 d s6 2 N (e : Int) q ∧ s6.down = false ∧ w3.heap.size ≤ w8.heap.size ∧ Was d w8 A7 q) := hid ⟨H6.out.1.below (H7.out.2.trans (hb8.mono H7.out.2.size)), H6.out.2.1, Nat.le_trans H6.out.2.2.1 (H7.out.2.trans (hb8.mono H7.out.2.size)).size, Was.ofOwn (H7.out.1.below hb8) (fun j hj => by have h1 := H3.out.2 j hj; have h2 := H6.out.2.2.1; omega)⟩
                  clear hb8
                  go_wp2
                  go_roundw
                  case rel => exact ⟨k + 1, s6, e, q, A7, c7, by omega, by omega, by go_num, by go_num, rfl, by have := HQ.out.1; omega, H8⟩
                  case measure => simp [RowKit.intOf]; omega
              · have H6 : Hid (CK w w6 d (Sx.crash s5 []) 2 N ((e : Int) + 1) pl ∧ (Sx.crash s5 []).down = false ∧ w3.heap.size ≤ w6.heap.size ∧ Was d w6 A' pl) := hid ⟨⟨H5.out.1.next hd6 ht6, hi⟩, rfl, Nat.le_trans H5.out.2.2.1 ht6.size, H5.out.2.2.2.2.1.turned ht6⟩
                clear hd6 ht6 hi hcell5
                obtain ⟨s6, hs6⟩ : ∃ s6, s6 = Sx.crash s5 [] := ⟨_, rfl⟩
                rw [← hs6] at H6
                clear hs6 H5
                go_wp2_with fail
                refine (C.load_CK w w6 d s6 2 N ((e : Int) + 1) pl H6.out.1 (by omega) m HQ.out.1).mono ?_
                rintro e7 w7 ⟨A7, c7, rfl, H7⟩
                have hbel7 : Below w.heap.size w w7 := H6.out.1.disk.bel.trans (H7.out.2.mono H6.out.1.disk.bel.size)
                have HB7 := hid (And.intro hbel7 (H6.out.2.2.2.below H7.out.2))
                have hcell7 := (HC.out w7 hbel7).1
                have hne : ((e : Int) == (e : Int) + 1) = false := by rw [beq_eq_false_iff_ne]; omega
                have hne2 : ((e : Int) + 1 == (e : Int)) = false := by rw [beq_eq_false_iff_ne]; omega
                have hne3 : ((e : Int) + 1 != (e : Int)) = true := by rw [bne_iff_ne]; omega
                have hne4 : ((e : Int) + 1 == (e : Int) + 1 + 1) = false := by rw [beq_eq_false_iff_ne]; omega
                clear hbel7
                go_wp2_with fail
                refine (same_B A7 A' c7 c' pl m HQ.out.1 (by unfold maxLen; omega) w7 H7.out.1.reads HB7.out.2.reads).mono ?_
                rintro e8 w8 ⟨rfl, hb8⟩
                have H8 : Hid (CK w w8 d s6 2 N ((e : Int) + 1) pl ∧ s6.down = false ∧ w3.heap.size ≤ w8.heap.size ∧ Was d w8 A7 pl) := hid ⟨H6.out.1.below (H7.out.2.trans (hb8.mono H7.out.2.size)), H6.out.2.1, Nat.le_trans H6.out.2.2.1 (H7.out.2.trans (hb8.mono H7.out.2.size)).size, Was.ofOwn (H7.out.1.below hb8) (fun j hj => by have h1 := H3.out.2 j hj; have h2 := H6.out.2.2.1; omega)⟩
                clear hb8 hcell7
                go_wp2
                go_roundw
                case rel => exact ⟨k + 1, s6, (e + 1), pl, A7, c7, by omega, by omega, by go_num, by go_num, by rw [HQ.out.1], by have := HQ.out.1; omega, H8⟩
                case measure => simp [RowKit.intOf]; omega
      · have hlt0 : ¬ (k : Int) < (l1.length : Int) := by omega
        go_wp2
        go_ret
        exact ⟨rfl, HI.out.1.disk.bel⟩
end Go.Proofs.YtdgijnolpjaheaaGreat.checkLasts
