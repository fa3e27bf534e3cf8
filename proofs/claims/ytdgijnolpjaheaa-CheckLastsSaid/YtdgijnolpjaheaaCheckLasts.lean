/- Checkpoints are laid one behind the other; the power fails anywhere amid one, and anything of what does not last yet is lost, kept or torn: what is loaded then is the last one that was laid, or the one that was being laid; and from there it goes on. Conditions: none. -/
import Derived.Test.YtdgijnolpjaheaaRows
import Derived.Test.YtdgijnolpjaheaaWorks08
import Derived.Test.YtdgijnolpjaheaaIntRows
import Derived.Test.YtdgijnolpjaheaaKitPick
import Derived.Deep.CutRange
import Derived.WalkKit
import Derived.WalkLawsBesides
import Derived.ProofKit
import Derived.OpenShut
import Derived.ShutString
import Derived.ChangeOld
import Derived.Below
import Derived.SizedLaws
namespace Go.Proofs.Ytdgijnolpjaheaa.checkLasts
open Go.ChangeShapes Go.WideShapes Go.ChangeAt Go.RowKit
open Go.ChangeMaps (open_string shut_string)
set_option linter.unusedVariables false

theorem own : ownKnob Try.prog.godebug = none := by kernel_rfl
theorem laidOut : laidOutB Try.prog = true := by kernel_rfl
theorem bytesOfI : Try.prog.bytesOf 3 = 8 := by kernel_rfl

/-- what was saved last: it lies off the disk's blocks -/
structure Was (d : Dk) (w : World) (A : Option Addr) (q : List Nat) : Prop where
  reads : IsBytes w w.heap.size A q
  off : q ≠ [] → ∀ a, A = some a → ¬ d.has a.block
namespace Was
variable {d : Dk} {w w' : World} {A : Option Addr} {q : List Nat}
theorem nil : Was d w A [] := ⟨IsBytes.nil, fun h => absurd rfl h⟩
theorem turned (h : Was d w A q) (ht : Turned d.has w w') : Was d w' A q := by
  refine ⟨⟨h.reads.small, fun k hk => ?_⟩, h.off⟩
  obtain ⟨b, off, e, hb, hc⟩ := h.reads.cells k hk
  refine ⟨b, off, e, Nat.lt_of_lt_of_le hb ht.size, fun i hi => ?_⟩
  rw [ht.cell (p := ⟨b, off + i, none⟩) hb (h.off (by rintro rfl; simp at hk) ⟨b, off, none⟩ e)]
  exact hc i hi
theorem below (h : Was d w A q) (hb : Below w.heap.size w w') : Was d w' A q := h.turned (Turned.ofBelow _ hb)
theorem ofOwn {base c : Nat} (h : OwnsB 5 w base A c q) (hd : ∀ j, d.has j → j < base) : Was d w A q :=
  ⟨h.reads, fun _ a ha hh => by
    subst ha
    have h1 := (h.blkLt a.block rfl).1
    have h2 := hd _ hh
    omega⟩
end Was
set_option maxRecDepth 100000 in
set_option maxHeartbeats 4000000 in
theorem walk (a0 : Int) (a1 : Option Addr) (cap1 : Nat) (l1 : List (List Nat)) (a2 : Option Addr) (cap2 : Nat) (l2 : List Int) (a3 : Option Addr) (cap3 : Nat) (l3 : List (List Int)) (w : World) (b0 : -9223372036854775808 ≤ a0 ∧ a0 ≤ 9223372036854775807)
    (k1 : IsRowsIn w w.heap.size a1 l1) (n1 : l1.length ≤ cap1) (r1 : cap1 ≤ maxLen) (z1 : a1 = none → cap1 = 0) (k2 : IsInts w w.heap.size a2 l2) (n2 : l2.length ≤ cap2) (r2 : cap2 * 8 ≤ 140737488351232) (z2 : a2 = none → cap2 = 0) (k3 : IsIntRows w w.heap.size a3 l3) (n3 : l3.length ≤ cap3) (r3 : cap3 ≤ maxLen) (z3 : a3 = none → cap3 = 0) :
    Calls Try.prog 3 #[.int .i64 a0, .slice a1 l1.length cap1, .slice a2 l2.length cap2, .slice a3 l3.length cap3] w fun e w' => e = .returned (.bool true) ∧ Below w.heap.size w w' := by
  have HX := hid (And.intro k1 (And.intro k2 k3))
  have HG := hid (great_any w.heap.size a1 cap1 l1)
  clear k1 k2 k3 r1 r2 r3 z1 z2 z3 n1 n2 n3
  go_enter Try.func3, Try.ntmps3
  go_wp2_with fail
  refine (works_any w).mono ?_
  rintro e w1 ⟨rfl, hb1⟩
  have HB1 := hid hb1
  have HG1 := hid (HG.out w1 hb1.size (HX.out.1.below hb1))
  clear hb1 HG
  by_cases hgr : Ck.great l1 = true
  · rw [hgr] at HG1
    clear hgr
    go_wp2_with fail
    refine HG1.out.mono ?_
    rintro e w2 ⟨rfl, hb2⟩
    have HB2 := hid (HB1.out.trans (hb2.mono HB1.out.size))
    clear hb2
    go_wp2
    go_ret
    exact ⟨rfl, HB2.out⟩
  · have hgf : Ck.great l1 = false := by simpa using hgr
    rw [hgf] at HG1
    obtain ⟨hl60, hrows⟩ := Ck.great_iff.1 hgf
    have HRW := hid hrows
    clear hgr hgf hrows
    go_wp2_with fail
    refine HG1.out.mono ?_
    rintro e w2 ⟨rfl, hb2⟩
    have HB2 := hid (HB1.out.trans (hb2.mono HB1.out.size))
    clear hb2 HG1 HB1
    go_wp2_with fail
    refine (pick_lt a0 64 (by omega) (by omega) w2).mono ?_
    rintro e w3 ⟨⟨p, rfl, hp⟩, rfl⟩
    obtain ⟨N, hN⟩ : ∃ N : Nat, 1 + (p : Int) = (N : Int) := ⟨1 + p, by omega⟩
    have hNb : 1 ≤ N ∧ N ≤ 64 := by omega
    obtain ⟨hN1, hN2⟩ := hNb
    go_wp2_with fail
    clear hN hp
    refine (new_N (2 * N + 3) _ (by omega) (by omega) w2).mono ?_
    rintro e w3 ⟨d, rfl, hD, hb⟩
    have hdl : ∀ j, d.has j → j < w3.heap.size := hD.lt
    have H3 : Hid (CK w w3 d (Sx.new (2 * N + 3)) 2 N 0 [] ∧ ∀ j, d.has j → j < w3.heap.size) := hid ⟨⟨⟨hD.mono (fun k hk => Nat.lt_of_lt_of_le hk HB2.out.size), HB2.out.trans (hb.mono HB2.out.size)⟩, Ck.inv_new (2 * N + 3) 2 N (by omega) (by omega) (by omega) []⟩, hdl⟩
    clear hD hb hdl
    go_wp2_with fail
    go_loopw [11, 12, 13] (fun vW vE i wr => ∃ (k : Nat) (s : Sx.St) (e : Nat) (q : List Nat) (Aw : Option Addr) (cw : Nat), k ≤ l1.length ∧ e ≤ k ∧ i = .int .i64 (k : Int) ∧ vE = .int .i64 (e : Int) ∧ vW = .slice Aw q.length cw ∧ q.length ≤ 4096 ∧
      Hid (CK w wr d s 2 N (e : Int) q ∧ s.down = false ∧ w3.heap.size ≤ wr.heap.size ∧ Was d wr Aw q)) (fun _ _ i _ => l1.length - (RowKit.intOf i).toNat)
    case atStart => exact ⟨0, _, 0, [], none, 0, by omega, by omega, rfl, rfl, rfl, by simp, hid ⟨H3.out.1, rfl, Nat.le_refl _, Was.nil⟩⟩
    case round =>
      obtain ⟨k, s, e, q, Aw, cw, hk, hek, rfl, rfl, rfl, hq4, HI⟩ := hrel
      by_cases hlt : k < l1.length
      · have hlt0 : (k : Int) < (l1.length : Int) := by omega
        obtain ⟨b, off, rfl, hbB, hcs⟩ := HX.out.1 k hlt
        obtain ⟨A', c', hck, hpb, hpc, hpz⟩ := hcs k hlt
        have hrl := HRW.out l1[k] (List.getElem_mem _)
        obtain ⟨pl, hpl⟩ : ∃ pl, pl = l1[k] := ⟨_, rfl⟩
        rw [← hpl] at hck hpb hpc hrl
        obtain ⟨m, hm⟩ : ∃ m, pl.length = m := ⟨_, rfl⟩
        rw [hm] at hck hpc hrl
        have HC : Hid (∀ w' : World, Below w.heap.size w w' → w'.cell? ⟨b, off + k, none⟩ = some (.slice A' m c') ∧ IsBytes w' w'.heap.size A' pl ∧ (pl ≠ [] → ∀ a, A' = some a → ¬ d.has a.block)) := hid (fun w' hb => ⟨(hb.cell (p := ⟨b, off + k, none⟩) hbB).trans hck, (hpb.below hb).more hb.size, fun hne a ha hd => by
          rcases pl with _ | ⟨y, pl⟩
          · exact absurd rfl hne
          · obtain ⟨b2, o2, e2, hb2, _⟩ := hpb.cells 0 (by simp)
            rw [ha] at e2; injection e2 with e2; subst e2
            have := H3.out.1.disk.ge _ hd
            have hb2' : b2 < w.heap.size := hb2
            have : w.heap.size ≤ b2 := this
            omega⟩)
        have HQ := hid (And.intro hm (And.intro hpc hpz))
        clear hck hpb hpc hpz hcs hpl hm
        go_upto_if 42 with (fail)
        go_cut [42] from 33 to 162 (fun _ wx => Hid (∃ s1, CK w wx d s1 2 N (e : Int) q ∧ s1.down = false ∧ w3.heap.size ≤ wx.heap.size ∧ Was d wx Aw q))
        case first =>
          by_cases hcu : k < l2.length
          · have hcu0 : (k : Int) < (l2.length : Int) := by omega
            obtain ⟨b2, o2, rfl, hb2, hc2⟩ := HX.out.2.1.cells k hcu
            have hcell2 : wr.cell? ⟨b2, o2 + k, none⟩ = some (.int .i64 l2[k]) := (HI.out.1.disk.bel.cell (p := ⟨b2, o2 + k, none⟩) hb2).trans (hc2 k hcu)
            obtain ⟨v, hv⟩ : ∃ v, v = l2[k] := ⟨_, rfl⟩
            rw [← hv] at hcell2
            clear hc2 hv
            go_wp2_with fail
            refine (pick_lt v ((N : Int) + 4) (by omega) (by omega) wr).mono ?_
            rintro e1 w4 ⟨⟨p, rfl, hpN⟩, rfl⟩
            go_wp2_with fail
            refine (arm_any _ d s (p : Int) (by unfold InInt; omega) wr HI.out.1.disk.at_).mono ?_
            rintro e1 w4 ⟨rfl, hd4, ht4⟩
            have H4 : Hid (CK w w4 d (Sx.arm s p) 2 N (e : Int) q ∧ (Sx.arm s p).down = false ∧ w3.heap.size ≤ w4.heap.size ∧ Was d w4 Aw q) := hid ⟨⟨HI.out.1.disk.next hd4 ht4, Ck.inv_arm HI.out.1.inv _⟩, HI.out.2.1, Nat.le_trans HI.out.2.2.1 ht4.size, HI.out.2.2.2.turned ht4⟩
            clear hd4 ht4 hcell2 hpN
            go_wp2_with fail
            go_meet
            exact hid ⟨_, H4.out⟩
          · have hcu0 : ¬ (k : Int) < (l2.length : Int) := by omega
            go_wp2_with fail
            go_meet
            exact hid ⟨s, HI.out⟩
        case rest =>
          obtain ⟨s1, hc4⟩ := hcut.out
          have H4 := hid hc4
          clear hcut hc4
          have hcell4 := (HC.out wc H4.out.1.disk.bel).1
          go_wp2_with fail
          refine (C.save_CK w wc d s1 2 N (e : Int) ((e : Int) + 1) q H4.out.1 ⟨by omega, by omega⟩ (.inl rfl) A' c' pl m HQ.out.1 (by omega) HQ.out.2.1.1 HQ.out.2.1.2 HQ.out.2.2 (HC.out wc H4.out.1.disk.bel).2.1).mono ?_
          rintro e5 w5 ⟨E, rfl, HD⟩
          clear hcell4
          rcases HD.out with ⟨hfit, hE, hw⟩ | ⟨s5, hfit, hE, hd5, hn5, ha5, ho5, ht5⟩ | ⟨s5, hfit, hE, hd5, hn5, ho5, ht5, hs5, hc5⟩
          · subst hE
            have hle : (N : Int) * 40 < (m : Int) := by have := HQ.out.1; unfold Jo.secs at hfit; omega
            have H5 : Hid (CK w w5 d s1 2 N (e : Int) q ∧ s1.down = false ∧ w3.heap.size ≤ w5.heap.size ∧ Was d w5 Aw q) := by rw [hw]; exact H4
            clear HD hfit hw H4
            have hcell5 := (HC.out w5 H5.out.1.disk.bel).1
            by_cases hhow : k < l3.length
            · have hhow0 : (k : Int) < (l3.length : Int) := by omega
              obtain ⟨b3, o3, rfl, hb3, hcs3⟩ := HX.out.2.2 k hhow
              obtain ⟨A3, c3, hck3, hpb3, hpc3, hpz3⟩ := hcs3 k hhow
              obtain ⟨fl, hfl⟩ : ∃ fl, fl = l3[k] := ⟨_, rfl⟩
              rw [← hfl] at hck3 hpb3
              have hcell3 : w5.cell? ⟨b3, o3 + k, none⟩ = some (.slice A3 fl.length c3) := (H5.out.1.disk.bel.cell (p := ⟨b3, o3 + k, none⟩) hb3).trans hck3
              have HIN : Hid (∀ w', Turned d.has w5 w' → IsInts w' w'.heap.size A3 fl) := hid (fun w' ht => by
                have h1 : Below w.heap.size w w' := H5.out.1.disk.bel.trans (ht.below H5.out.1.disk.bel.size H5.out.1.disk.ge)
                exact (hpb3.below h1).more h1.size)
              clear hcs3 hck3 hpb3 hpc3 hpz3 hfl
              go_wp2_with fail
              refine (crash_any _ d s1 A3 c3 fl fl.length rfl w5 H5.out.1.disk.at_ HIN.out).mono ?_
              rintro e6 w6 ⟨rfl, hd6, ht6⟩
              have H6 : Hid (CK w w6 d (Sx.crash s1 fl) 2 N (e : Int) q ∧ (Sx.crash s1 fl).down = false ∧ w3.heap.size ≤ w6.heap.size ∧ Was d w6 Aw q) := hid ⟨⟨H5.out.1.disk.next hd6 ht6, Ck.inv_crash H5.out.1.inv _⟩, rfl, Nat.le_trans H5.out.2.2.1 ht6.size, H5.out.2.2.2.turned ht6⟩
              clear hd6 ht6 hcell3 HIN hcell5
              obtain ⟨s6, hs6⟩ : ∃ s6, s6 = Sx.crash s1 fl := ⟨_, rfl⟩
              rw [← hs6] at H6
              clear hs6 H5
              go_wp2_with fail
              by_cases he0 : e = 0
              · have hq0 : (e : Int) = 0 := by omega
                have hCK : CK w w6 d s6 2 N 0 q := by have h := H6.out.1; rwa [hq0] at h
                have HK := hid hCK
                have hez : ((e : Int) != 0) = false := by rw [hq0]; rfl
                clear hCK he0 hq0
                refine (C.load_none w w6 d s6 2 N q HK.out).mono ?_
                rintro e7 w7 ⟨A7, c7, rfl, hb7⟩
                have H7 : Hid (CK w w7 d s6 2 N (e : Int) q ∧ s6.down = false ∧ w3.heap.size ≤ w7.heap.size ∧ Was d w7 Aw q) := hid ⟨H6.out.1.below hb7.out, H6.out.2.1, Nat.le_trans H6.out.2.2.1 hb7.out.size, H6.out.2.2.2.below hb7.out⟩
                clear hb7 HK
                go_wp2
                go_roundw
                case rel => exact ⟨k + 1, s6, e, q, Aw, cw, by omega, by omega, by go_num, rfl, rfl, hq4, H7⟩
                case measure => simp [RowKit.intOf]; omega
              · have hep : (e : Int) ≠ 0 := by omega
                refine (C.load_CK w w6 d s6 2 N (e : Int) q H6.out.1 (by omega) q.length rfl).mono ?_
                rintro e7 w7 ⟨A7, c7, rfl, H7⟩
                have hbel7 : Below w.heap.size w w7 := H6.out.1.disk.bel.trans (H7.out.2.mono H6.out.1.disk.bel.size)
                have HB7 := hid (And.intro hbel7 (H6.out.2.2.2.below H7.out.2))
                have hne : ((e : Int) == (e : Int) + 1) = false := by rw [beq_eq_false_iff_ne]; omega
                have hne2 : ((e : Int) + 1 == (e : Int)) = false := by rw [beq_eq_false_iff_ne]; omega
                have hne3 : ((e : Int) + 1 != (e : Int)) = true := by rw [bne_iff_ne]; omega
                have hne4 : ((e : Int) + 1 == (e : Int) + 1 + 1) = false := by rw [beq_eq_false_iff_ne]; omega
                clear hbel7
                go_wp2_with fail
                refine (same_B A7 Aw c7 cw q q.length rfl (by unfold maxLen; omega) w7 H7.out.1.reads HB7.out.2.reads).mono ?_
                rintro e8 w8 ⟨rfl, hb8⟩
                have H8 : Hid (CK w w8 d s6 2 N (e : Int) q ∧ s6.down = false ∧ w3.heap.size ≤ w8.heap.size ∧ Was d w8 A7 q) := hid ⟨H6.out.1.below (H7.out.2.trans (hb8.mono H7.out.2.size)), H6.out.2.1, Nat.le_trans H6.out.2.2.1 (H7.out.2.trans (hb8.mono H7.out.2.size)).size, Was.ofOwn (H7.out.1.below hb8) (fun j hj => by have h1 := H3.out.2 j hj; have h2 := H6.out.2.2.1; omega)⟩
                clear hb8
                go_wp2
                go_roundw
                case rel => exact ⟨k + 1, s6, e, q, A7, c7, by omega, by omega, by go_num, by go_num, rfl, by have := HQ.out.1; omega, H8⟩
                case measure => simp [RowKit.intOf]; omega
            · have hhow0 : ¬ (k : Int) < (l3.length : Int) := by omega
              go_wp2_with fail
              have hdn := H5.out.2.1
              have HDN := hid (down_any _ d s1 w5 H5.out.1.disk.at_)
              rw [hdn] at HDN
              clear hdn
              refine HDN.out.mono ?_
              rintro e6 w6 ⟨rfl, rfl⟩
              have H6 := H5
              obtain ⟨s6, hs6⟩ : ∃ s6, s6 = s1 := ⟨_, rfl⟩
              rw [← hs6] at H6
              clear hs6 H5
              clear hcell5 HDN
              go_wp2_with fail
              by_cases he0 : e = 0
              · have hq0 : (e : Int) = 0 := by omega
                have hCK : CK w w6 d s6 2 N 0 q := by have h := H6.out.1; rwa [hq0] at h
                have HK := hid hCK
                have hez : ((e : Int) != 0) = false := by rw [hq0]; rfl
                clear hCK he0 hq0
                refine (C.load_none w w6 d s6 2 N q HK.out).mono ?_
                rintro e7 w7 ⟨A7, c7, rfl, hb7⟩
                have H7 : Hid (CK w w7 d s6 2 N (e : Int) q ∧ s6.down = false ∧ w3.heap.size ≤ w7.heap.size ∧ Was d w7 Aw q) := hid ⟨H6.out.1.below hb7.out, H6.out.2.1, Nat.le_trans H6.out.2.2.1 hb7.out.size, H6.out.2.2.2.below hb7.out⟩
                clear hb7 HK
                go_wp2
                go_roundw
                case rel => exact ⟨k + 1, s6, e, q, Aw, cw, by omega, by omega, by go_num, rfl, rfl, hq4, H7⟩
                case measure => simp [RowKit.intOf]; omega
              · have hep : (e : Int) ≠ 0 := by omega
                refine (C.load_CK w w6 d s6 2 N (e : Int) q H6.out.1 (by omega) q.length rfl).mono ?_
                rintro e7 w7 ⟨A7, c7, rfl, H7⟩
                have hbel7 : Below w.heap.size w w7 := H6.out.1.disk.bel.trans (H7.out.2.mono H6.out.1.disk.bel.size)
                have HB7 := hid (And.intro hbel7 (H6.out.2.2.2.below H7.out.2))
                have hne : ((e : Int) == (e : Int) + 1) = false := by rw [beq_eq_false_iff_ne]; omega
                have hne2 : ((e : Int) + 1 == (e : Int)) = false := by rw [beq_eq_false_iff_ne]; omega
                have hne3 : ((e : Int) + 1 != (e : Int)) = true := by rw [bne_iff_ne]; omega
                have hne4 : ((e : Int) + 1 == (e : Int) + 1 + 1) = false := by rw [beq_eq_false_iff_ne]; omega
                clear hbel7
                go_wp2_with fail
                refine (same_B A7 Aw c7 cw q q.length rfl (by unfold maxLen; omega) w7 H7.out.1.reads HB7.out.2.reads).mono ?_
                rintro e8 w8 ⟨rfl, hb8⟩
                have H8 : Hid (CK w w8 d s6 2 N (e : Int) q ∧ s6.down = false ∧ w3.heap.size ≤ w8.heap.size ∧ Was d w8 A7 q) := hid ⟨H6.out.1.below (H7.out.2.trans (hb8.mono H7.out.2.size)), H6.out.2.1, Nat.le_trans H6.out.2.2.1 (H7.out.2.trans (hb8.mono H7.out.2.size)).size, Was.ofOwn (H7.out.1.below hb8) (fun j hj => by have h1 := H3.out.2 j hj; have h2 := H6.out.2.2.1; omega)⟩
                clear hb8
                go_wp2
                go_roundw
                case rel => exact ⟨k + 1, s6, e, q, A7, c7, by omega, by omega, by go_num, by go_num, rfl, by have := HQ.out.1; omega, H8⟩
                case measure => simp [RowKit.intOf]; omega
          · subst hE
            have hle : ¬ (N : Int) * 40 < (m : Int) := by have := HQ.out.1; unfold Jo.secs at hfit; omega
            have H5 : Hid (CK w w5 d s5 2 N ((e : Int) + 1) pl ∧ s5.down = false ∧ w3.heap.size ≤ w5.heap.size ∧ Was d w5 A' pl) := hid ⟨hd5, ho5, Nat.le_trans H4.out.2.2.1 ht5.size, ⟨(HC.out w5 hd5.disk.bel).2.1, (HC.out w5 hd5.disk.bel).2.2⟩⟩
            clear HD hfit hd5 hn5 ha5 ho5 ht5 H4
            have hcell5 := (HC.out w5 H5.out.1.disk.bel).1
            by_cases hhow : k < l3.length
            · have hhow0 : (k : Int) < (l3.length : Int) := by omega
              obtain ⟨b3, o3, rfl, hb3, hcs3⟩ := HX.out.2.2 k hhow
              obtain ⟨A3, c3, hck3, hpb3, hpc3, hpz3⟩ := hcs3 k hhow
              obtain ⟨fl, hfl⟩ : ∃ fl, fl = l3[k] := ⟨_, rfl⟩
              rw [← hfl] at hck3 hpb3
              have hcell3 : w5.cell? ⟨b3, o3 + k, none⟩ = some (.slice A3 fl.length c3) := (H5.out.1.disk.bel.cell (p := ⟨b3, o3 + k, none⟩) hb3).trans hck3
              have HIN : Hid (∀ w', Turned d.has w5 w' → IsInts w' w'.heap.size A3 fl) := hid (fun w' ht => by
                have h1 : Below w.heap.size w w' := H5.out.1.disk.bel.trans (ht.below H5.out.1.disk.bel.size H5.out.1.disk.ge)
                exact (hpb3.below h1).more h1.size)
              clear hcs3 hck3 hpb3 hpc3 hpz3 hfl
              go_wp2_with fail
              refine (crash_any _ d s5 A3 c3 fl fl.length rfl w5 H5.out.1.disk.at_ HIN.out).mono ?_
              rintro e6 w6 ⟨rfl, hd6, ht6⟩
              have H6 : Hid (CK w w6 d (Sx.crash s5 fl) 2 N ((e : Int) + 1) pl ∧ (Sx.crash s5 fl).down = false ∧ w3.heap.size ≤ w6.heap.size ∧ Was d w6 A' pl) := hid ⟨⟨H5.out.1.disk.next hd6 ht6, Ck.inv_crash H5.out.1.inv _⟩, rfl, Nat.le_trans H5.out.2.2.1 ht6.size, H5.out.2.2.2.turned ht6⟩
              clear hd6 ht6 hcell3 HIN hcell5
              obtain ⟨s6, hs6⟩ : ∃ s6, s6 = Sx.crash s5 fl := ⟨_, rfl⟩
              rw [← hs6] at H6
              clear hs6 H5
              go_wp2_with fail
              refine (C.load_CK w w6 d s6 2 N ((e : Int) + 1) pl H6.out.1 (by omega) m HQ.out.1).mono ?_
              rintro e7 w7 ⟨A7, c7, rfl, H7⟩
              have hbel7 : Below w.heap.size w w7 := H6.out.1.disk.bel.trans (H7.out.2.mono H6.out.1.disk.bel.size)
              have HB7 := hid (And.intro hbel7 (H6.out.2.2.2.below H7.out.2))
              have hne : ((e : Int) == (e : Int) + 1) = false := by rw [beq_eq_false_iff_ne]; omega
              have hne2 : ((e : Int) + 1 == (e : Int)) = false := by rw [beq_eq_false_iff_ne]; omega
              have hne3 : ((e : Int) + 1 != (e : Int)) = true := by rw [bne_iff_ne]; omega
              have hne4 : ((e : Int) + 1 == (e : Int) + 1 + 1) = false := by rw [beq_eq_false_iff_ne]; omega
              clear hbel7
              go_wp2_with fail
              refine (same_B A7 A' c7 c' pl m HQ.out.1 (by unfold maxLen; omega) w7 H7.out.1.reads HB7.out.2.reads).mono ?_
              rintro e8 w8 ⟨rfl, hb8⟩
              have H8 : Hid (CK w w8 d s6 2 N ((e : Int) + 1) pl ∧ s6.down = false ∧ w3.heap.size ≤ w8.heap.size ∧ Was d w8 A7 pl) := hid ⟨H6.out.1.below (H7.out.2.trans (hb8.mono H7.out.2.size)), H6.out.2.1, Nat.le_trans H6.out.2.2.1 (H7.out.2.trans (hb8.mono H7.out.2.size)).size, Was.ofOwn (H7.out.1.below hb8) (fun j hj => by have h1 := H3.out.2 j hj; have h2 := H6.out.2.2.1; omega)⟩
              clear hb8
              go_wp2
              go_roundw
              case rel => exact ⟨k + 1, s6, (e + 1), pl, A7, c7, by omega, by omega, by go_num, by go_num, by rw [HQ.out.1], by have := HQ.out.1; omega, H8⟩
              case measure => simp [RowKit.intOf]; omega
            · have hhow0 : ¬ (k : Int) < (l3.length : Int) := by omega
              go_wp2_with fail
              have hdn := H5.out.2.1
              have HDN := hid (down_any _ d s5 w5 H5.out.1.disk.at_)
              rw [hdn] at HDN
              clear hdn
              refine HDN.out.mono ?_
              rintro e6 w6 ⟨rfl, rfl⟩
              have H6 := H5
              obtain ⟨s6, hs6⟩ : ∃ s6, s6 = s5 := ⟨_, rfl⟩
              rw [← hs6] at H6
              clear hs6 H5
              clear hcell5 HDN
              go_wp2_with fail
              refine (C.load_CK w w6 d s6 2 N ((e : Int) + 1) pl H6.out.1 (by omega) m HQ.out.1).mono ?_
              rintro e7 w7 ⟨A7, c7, rfl, H7⟩
              have hbel7 : Below w.heap.size w w7 := H6.out.1.disk.bel.trans (H7.out.2.mono H6.out.1.disk.bel.size)
              have HB7 := hid (And.intro hbel7 (H6.out.2.2.2.below H7.out.2))
              have hne : ((e : Int) == (e : Int) + 1) = false := by rw [beq_eq_false_iff_ne]; omega
              have hne2 : ((e : Int) + 1 == (e : Int)) = false := by rw [beq_eq_false_iff_ne]; omega
              have hne3 : ((e : Int) + 1 != (e : Int)) = true := by rw [bne_iff_ne]; omega
              have hne4 : ((e : Int) + 1 == (e : Int) + 1 + 1) = false := by rw [beq_eq_false_iff_ne]; omega
              clear hbel7
              go_wp2_with fail
              refine (same_B A7 A' c7 c' pl m HQ.out.1 (by unfold maxLen; omega) w7 H7.out.1.reads HB7.out.2.reads).mono ?_
              rintro e8 w8 ⟨rfl, hb8⟩
              have H8 : Hid (CK w w8 d s6 2 N ((e : Int) + 1) pl ∧ s6.down = false ∧ w3.heap.size ≤ w8.heap.size ∧ Was d w8 A7 pl) := hid ⟨H6.out.1.below (H7.out.2.trans (hb8.mono H7.out.2.size)), H6.out.2.1, Nat.le_trans H6.out.2.2.1 (H7.out.2.trans (hb8.mono H7.out.2.size)).size, Was.ofOwn (H7.out.1.below hb8) (fun j hj => by have h1 := H3.out.2 j hj; have h2 := H6.out.2.2.1; omega)⟩
              clear hb8
              go_wp2
              go_roundw
              case rel => exact ⟨k + 1, s6, (e + 1), pl, A7, c7, by omega, by omega, by go_num, by go_num, by rw [HQ.out.1], by have := HQ.out.1; omega, H8⟩
              case measure => simp [RowKit.intOf]; omega
          · subst hE
            have hle : ¬ (N : Int) * 40 < (m : Int) := by have := HQ.out.1; unfold Jo.secs at hfit; omega
            have H5 : Hid (DM w w5 d s5 ∧ s5.down = true ∧ w3.heap.size ≤ w5.heap.size ∧ Was d w5 Aw q ∧ Was d w5 A' pl ∧ ∀ l, Ck.Inv (Sx.crash s5 l) 2 N (e : Int) q ∨ Ck.Inv (Sx.crash s5 l) 2 N ((e : Int) + 1) pl) := hid ⟨hd5, ho5, Nat.le_trans H4.out.2.2.1 ht5.size, H4.out.2.2.2.turned ht5, ⟨(HC.out w5 hd5.bel).2.1, (HC.out w5 hd5.bel).2.2⟩, hc5⟩
            clear HD hfit hd5 hn5 ho5 ht5 hs5 hc5 H4
            have hcell5 := (HC.out w5 H5.out.1.bel).1
            by_cases hhow : k < l3.length
            · have hhow0 : (k : Int) < (l3.length : Int) := by omega
              obtain ⟨b3, o3, rfl, hb3, hcs3⟩ := HX.out.2.2 k hhow
              obtain ⟨A3, c3, hck3, hpb3, hpc3, hpz3⟩ := hcs3 k hhow
              obtain ⟨fl, hfl⟩ : ∃ fl, fl = l3[k] := ⟨_, rfl⟩
              rw [← hfl] at hck3 hpb3
              have hcell3 : w5.cell? ⟨b3, o3 + k, none⟩ = some (.slice A3 fl.length c3) := (H5.out.1.bel.cell (p := ⟨b3, o3 + k, none⟩) hb3).trans hck3
              have HIN : Hid (∀ w', Turned d.has w5 w' → IsInts w' w'.heap.size A3 fl) := hid (fun w' ht => by
                have h1 : Below w.heap.size w w' := H5.out.1.bel.trans (ht.below H5.out.1.bel.size H5.out.1.ge)
                exact (hpb3.below h1).more h1.size)
              clear hcs3 hck3 hpb3 hpc3 hpz3 hfl
              go_wp2_with fail
              refine (crash_any _ d s5 A3 c3 fl fl.length rfl w5 H5.out.1.at_ HIN.out).mono ?_
              rintro e6 w6 ⟨rfl, hd6, ht6⟩
              have hor := H5.out.2.2.2.2.2 fl
              rcases hor with hi | hi
              · have H6 : Hid (CK w w6 d (Sx.crash s5 fl) 2 N (e : Int) q ∧ (Sx.crash s5 fl).down = false ∧ w3.heap.size ≤ w6.heap.size ∧ Was d w6 Aw q) := hid ⟨⟨H5.out.1.next hd6 ht6, hi⟩, rfl, Nat.le_trans H5.out.2.2.1 ht6.size, H5.out.2.2.2.1.turned ht6⟩
                clear hd6 ht6 hi hcell3 HIN hcell5
                obtain ⟨s6, hs6⟩ : ∃ s6, s6 = Sx.crash s5 fl := ⟨_, rfl⟩
                rw [← hs6] at H6
                clear hs6 H5
                go_wp2_with fail
                by_cases he0 : e = 0
                · have hq0 : (e : Int) = 0 := by omega
                  have hCK : CK w w6 d s6 2 N 0 q := by have h := H6.out.1; rwa [hq0] at h
                  have HK := hid hCK
                  have hez : ((e : Int) != 0) = false := by rw [hq0]; rfl
                  clear hCK he0 hq0
                  refine (C.load_none w w6 d s6 2 N q HK.out).mono ?_
                  rintro e7 w7 ⟨A7, c7, rfl, hb7⟩
                  have H7 : Hid (CK w w7 d s6 2 N (e : Int) q ∧ s6.down = false ∧ w3.heap.size ≤ w7.heap.size ∧ Was d w7 Aw q) := hid ⟨H6.out.1.below hb7.out, H6.out.2.1, Nat.le_trans H6.out.2.2.1 hb7.out.size, H6.out.2.2.2.below hb7.out⟩
                  clear hb7 HK
                  go_wp2
                  go_roundw
                  case rel => exact ⟨k + 1, s6, e, q, Aw, cw, by omega, by omega, by go_num, rfl, rfl, hq4, H7⟩
                  case measure => simp [RowKit.intOf]; omega
                · have hep : (e : Int) ≠ 0 := by omega
                  refine (C.load_CK w w6 d s6 2 N (e : Int) q H6.out.1 (by omega) q.length rfl).mono ?_
                  rintro e7 w7 ⟨A7, c7, rfl, H7⟩
                  have hbel7 : Below w.heap.size w w7 := H6.out.1.disk.bel.trans (H7.out.2.mono H6.out.1.disk.bel.size)
                  have HB7 := hid (And.intro hbel7 (H6.out.2.2.2.below H7.out.2))
                  have hne : ((e : Int) == (e : Int) + 1) = false := by rw [beq_eq_false_iff_ne]; omega
                  have hne2 : ((e : Int) + 1 == (e : Int)) = false := by rw [beq_eq_false_iff_ne]; omega
                  have hne3 : ((e : Int) + 1 != (e : Int)) = true := by rw [bne_iff_ne]; omega
                  have hne4 : ((e : Int) + 1 == (e : Int) + 1 + 1) = false := by rw [beq_eq_false_iff_ne]; omega
                  clear hbel7
                  go_wp2_with fail
                  refine (same_B A7 Aw c7 cw q q.length rfl (by unfold maxLen; omega) w7 H7.out.1.reads HB7.out.2.reads).mono ?_
                  rintro e8 w8 ⟨rfl, hb8⟩
                  have H8 : Hid (CK w w8 d s6 2 N (e : Int) q ∧ s6.down = false ∧ w3.heap.size ≤ w8.heap.size ∧ Was d w8 A7 q) := hid ⟨H6.out.1.below (H7.out.2.trans (hb8.mono H7.out.2.size)), H6.out.2.1, Nat.le_trans H6.out.2.2.1 (H7.out.2.trans (hb8.mono H7.out.2.size)).size, Was.ofOwn (H7.out.1.below hb8) (fun j hj => by have h1 := H3.out.2 j hj; have h2 := H6.out.2.2.1; omega)⟩
                  clear hb8
                  go_wp2
                  go_roundw
                  case rel => exact ⟨k + 1, s6, e, q, A7, c7, by omega, by omega, by go_num, by go_num, rfl, by have := HQ.out.1; omega, H8⟩
                  case measure => simp [RowKit.intOf]; omega
              · have H6 : Hid (CK w w6 d (Sx.crash s5 fl) 2 N ((e : Int) + 1) pl ∧ (Sx.crash s5 fl).down = false ∧ w3.heap.size ≤ w6.heap.size ∧ Was d w6 A' pl) := hid ⟨⟨H5.out.1.next hd6 ht6, hi⟩, rfl, Nat.le_trans H5.out.2.2.1 ht6.size, H5.out.2.2.2.2.1.turned ht6⟩
                clear hd6 ht6 hi hcell3 HIN hcell5
                obtain ⟨s6, hs6⟩ : ∃ s6, s6 = Sx.crash s5 fl := ⟨_, rfl⟩
                rw [← hs6] at H6
                clear hs6 H5
                go_wp2_with fail
                refine (C.load_CK w w6 d s6 2 N ((e : Int) + 1) pl H6.out.1 (by omega) m HQ.out.1).mono ?_
                rintro e7 w7 ⟨A7, c7, rfl, H7⟩
                have hbel7 : Below w.heap.size w w7 := H6.out.1.disk.bel.trans (H7.out.2.mono H6.out.1.disk.bel.size)
                have HB7 := hid (And.intro hbel7 (H6.out.2.2.2.below H7.out.2))
                have hcell7 := (HC.out w7 hbel7).1
                have hne : ((e : Int) == (e : Int) + 1) = false := by rw [beq_eq_false_iff_ne]; omega
                have hne2 : ((e : Int) + 1 == (e : Int)) = false := by rw [beq_eq_false_iff_ne]; omega
                have hne3 : ((e : Int) + 1 != (e : Int)) = true := by rw [bne_iff_ne]; omega
                have hne4 : ((e : Int) + 1 == (e : Int) + 1 + 1) = false := by rw [beq_eq_false_iff_ne]; omega
                clear hbel7
                go_wp2_with fail
                refine (same_B A7 A' c7 c' pl m HQ.out.1 (by unfold maxLen; omega) w7 H7.out.1.reads HB7.out.2.reads).mono ?_
                rintro e8 w8 ⟨rfl, hb8⟩
                have H8 : Hid (CK w w8 d s6 2 N ((e : Int) + 1) pl ∧ s6.down = false ∧ w3.heap.size ≤ w8.heap.size ∧ Was d w8 A7 pl) := hid ⟨H6.out.1.below (H7.out.2.trans (hb8.mono H7.out.2.size)), H6.out.2.1, Nat.le_trans H6.out.2.2.1 (H7.out.2.trans (hb8.mono H7.out.2.size)).size, Was.ofOwn (H7.out.1.below hb8) (fun j hj => by have h1 := H3.out.2 j hj; have h2 := H6.out.2.2.1; omega)⟩
                clear hb8 hcell7
                go_wp2
                go_roundw
                case rel => exact ⟨k + 1, s6, (e + 1), pl, A7, c7, by omega, by omega, by go_num, by go_num, by rw [HQ.out.1], by have := HQ.out.1; omega, H8⟩
                case measure => simp [RowKit.intOf]; omega
            · have hhow0 : ¬ (k : Int) < (l3.length : Int) := by omega
              go_wp2_with fail
              have hdn := H5.out.2.1
              have HDN := hid (down_any _ d s5 w5 H5.out.1.at_)
              rw [hdn] at HDN
              clear hdn
              refine HDN.out.mono ?_
              rintro e6 w6 ⟨rfl, hw6⟩
              rw [hw6]
              clear hw6 HDN
              go_wp2_with fail
              refine (crash_any _ d s5 none 0 [] 0 rfl w5 H5.out.1.at_ (fun w' ht => IsInts.nil)).mono ?_
              rintro e6 w6 ⟨rfl, hd6, ht6⟩
              have hor := H5.out.2.2.2.2.2 []
              rcases hor with hi | hi
              · have H6 : Hid (CK w w6 d (Sx.crash s5 []) 2 N (e : Int) q ∧ (Sx.crash s5 []).down = false ∧ w3.heap.size ≤ w6.heap.size ∧ Was d w6 Aw q) := hid ⟨⟨H5.out.1.next hd6 ht6, hi⟩, rfl, Nat.le_trans H5.out.2.2.1 ht6.size, H5.out.2.2.2.1.turned ht6⟩
                clear hd6 ht6 hi hcell5
                obtain ⟨s6, hs6⟩ : ∃ s6, s6 = Sx.crash s5 [] := ⟨_, rfl⟩
                rw [← hs6] at H6
                clear hs6 H5
                go_wp2_with fail
                by_cases he0 : e = 0
                · have hq0 : (e : Int) = 0 := by omega
                  have hCK : CK w w6 d s6 2 N 0 q := by have h := H6.out.1; rwa [hq0] at h
                  have HK := hid hCK
                  have hez : ((e : Int) != 0) = false := by rw [hq0]; rfl
                  clear hCK he0 hq0
                  refine (C.load_none w w6 d s6 2 N q HK.out).mono ?_
                  rintro e7 w7 ⟨A7, c7, rfl, hb7⟩
                  have H7 : Hid (CK w w7 d s6 2 N (e : Int) q ∧ s6.down = false ∧ w3.heap.size ≤ w7.heap.size ∧ Was d w7 Aw q) := hid ⟨H6.out.1.below hb7.out, H6.out.2.1, Nat.le_trans H6.out.2.2.1 hb7.out.size, H6.out.2.2.2.below hb7.out⟩
                  clear hb7 HK
                  go_wp2
                  go_roundw
                  case rel => exact ⟨k + 1, s6, e, q, Aw, cw, by omega, by omega, by go_num, rfl, rfl, hq4, H7⟩
                  case measure => simp [RowKit.intOf]; omega
                · have hep : (e : Int) ≠ 0 := by omega
                  refine (C.load_CK w w6 d s6 2 N (e : Int) q H6.out.1 (by omega) q.length rfl).mono ?_
                  rintro e7 w7 ⟨A7, c7, rfl, H7⟩
                  have hbel7 : Below w.heap.size w w7 := H6.out.1.disk.bel.trans (H7.out.2.mono H6.out.1.disk.bel.size)
                  have HB7 := hid (And.intro hbel7 (H6.out.2.2.2.below H7.out.2))
                  have hne : ((e : Int) == (e : Int) + 1) = false := by rw [beq_eq_false_iff_ne]; omega
                  have hne2 : ((e : Int) + 1 == (e : Int)) = false := by rw [beq_eq_false_iff_ne]; omega
                  have hne3 : ((e : Int) + 1 != (e : Int)) = true := by rw [bne_iff_ne]; omega
                  have hne4 : ((e : Int) + 1 == (e : Int) + 1 + 1) = false := by rw [beq_eq_false_iff_ne]; omega
                  clear hbel7
                  go_wp2_with fail
                  refine (same_B A7 Aw c7 cw q q.length rfl (by unfold maxLen; omega) w7 H7.out.1.reads HB7.out.2.reads).mono ?_
                  rintro e8 w8 ⟨rfl, hb8⟩
                  have H8 : Hid (CK w w8 d s6 2 N (e : Int) q ∧ s6.down = false ∧ w3.heap.size ≤ w8.heap.size ∧ Was d w8 A7 q) := hid ⟨H6.out.1.below (H7.out.2.trans (hb8.mono H7.out.2.size)), H6.out.2.1, Nat.le_trans H6.out.2.2.1 (H7.out.2.trans (hb8.mono H7.out.2.size)).size, Was.ofOwn (H7.out.1.below hb8) (fun j hj => by have h1 := H3.out.2 j hj; have h2 := H6.out.2.2.1; omega)⟩
                  clear hb8
                  go_wp2
                  go_roundw
                  case rel => exact ⟨k + 1, s6, e, q, A7, c7, by omega, by omega, by go_num, by go_num, rfl, by have := HQ.out.1; omega, H8⟩
                  case measure => simp [RowKit.intOf]; omega
              · have H6 : Hid (CK w w6 d (Sx.crash s5 []) 2 N ((e : Int) + 1) pl ∧ (Sx.crash s5 []).down = false ∧ w3.heap.size ≤ w6.heap.size ∧ Was d w6 A' pl) := hid ⟨⟨H5.out.1.next hd6 ht6, hi⟩, rfl, Nat.le_trans H5.out.2.2.1 ht6.size, H5.out.2.2.2.2.1.turned ht6⟩
                clear hd6 ht6 hi hcell5
                obtain ⟨s6, hs6⟩ : ∃ s6, s6 = Sx.crash s5 [] := ⟨_, rfl⟩
                rw [← hs6] at H6
                clear hs6 H5
                go_wp2_with fail
                refine (C.load_CK w w6 d s6 2 N ((e : Int) + 1) pl H6.out.1 (by omega) m HQ.out.1).mono ?_
                rintro e7 w7 ⟨A7, c7, rfl, H7⟩
                have hbel7 : Below w.heap.size w w7 := H6.out.1.disk.bel.trans (H7.out.2.mono H6.out.1.disk.bel.size)
                have HB7 := hid (And.intro hbel7 (H6.out.2.2.2.below H7.out.2))
                have hcell7 := (HC.out w7 hbel7).1
                have hne : ((e : Int) == (e : Int) + 1) = false := by rw [beq_eq_false_iff_ne]; omega
                have hne2 : ((e : Int) + 1 == (e : Int)) = false := by rw [beq_eq_false_iff_ne]; omega
                have hne3 : ((e : Int) + 1 != (e : Int)) = true := by rw [bne_iff_ne]; omega
                have hne4 : ((e : Int) + 1 == (e : Int) + 1 + 1) = false := by rw [beq_eq_false_iff_ne]; omega
                clear hbel7
                go_wp2_with fail
                refine (same_B A7 A' c7 c' pl m HQ.out.1 (by unfold maxLen; omega) w7 H7.out.1.reads HB7.out.2.reads).mono ?_
                rintro e8 w8 ⟨rfl, hb8⟩
                have H8 : Hid (CK w w8 d s6 2 N ((e : Int) + 1) pl ∧ s6.down = false ∧ w3.heap.size ≤ w8.heap.size ∧ Was d w8 A7 pl) := hid ⟨H6.out.1.below (H7.out.2.trans (hb8.mono H7.out.2.size)), H6.out.2.1, Nat.le_trans H6.out.2.2.1 (H7.out.2.trans (hb8.mono H7.out.2.size)).size, Was.ofOwn (H7.out.1.below hb8) (fun j hj => by have h1 := H3.out.2 j hj; have h2 := H6.out.2.2.1; omega)⟩
                clear hb8 hcell7
                go_wp2
                go_roundw
                case rel => exact ⟨k + 1, s6, (e + 1), pl, A7, c7, by omega, by omega, by go_num, by go_num, by rw [HQ.out.1], by have := HQ.out.1; omega, H8⟩
                case measure => simp [RowKit.intOf]; omega
      · have hlt0 : ¬ (k : Int) < (l1.length : Int) := by omega
        go_wp2
        go_ret
        exact ⟨rfl, HI.out.1.disk.bel⟩

set_option maxRecDepth 100000 in
theorem lifted (os : Os) (started : os.Started) (H : Type) (enc : TypeId × Value → H) :
    ReturnsInHanded {} Try.checked os 3 .any (Rows.checkLastsSpec.pre6 enc Try.prog Try.f3 Rows.checkLastsRow.domain false) (Rows.checkLastsSpec.post enc Try.prog Try.f3 false true false false) := by
  refine returnsInHanded_of_change_sized (C := Try.checked) own started (by kernel_rfl) Try.func3
    (ChangeSpec.witness6 (enc := enc) (C := Try.checked) false ⟨#[], #[.int .i64 0, .slice none 0 0, .slice none 0 0, .slice none 0 0], []⟩ 8 (by kernel_rfl) (by kernel_rfl) (by kernel_rfl) (by kernel_rfl)) ?_
  intro W base args ds gs before hval0 hW hcnd hsz0 _
  have hsz : (DataW.weightsEach Try.prog (Try.f3.params.toList ++ Rows.checkLastsSpec.plain.varTypes Try.prog) (ds ++ gs)).all (· ≤ reachBytes) = true := hsz0
  clear hsz0
  have hval : ∀ (j : Nat) t v, Try.f3.params[j]? = some t → args[j]? = some v → Value.okWide Try.prog W .any base t v := hval0
  have hW' := hW
  obtain ⟨p, q, hA0, hV, rfl, hfz, hnd⟩ := hW
  have hA : DataW.TrodAll enc Try.prog W 0 (fun _ => true) true Try.f3.params.toList args.toList ds p := hA0
  rw [Try.params3] at hA hval hsz
  obtain ⟨v0, vs0, d0, ds0, p0, q0, hargs, rfl, rfl, g0, t0⟩ := trodAll_cons hA
  obtain ⟨v1, vs1, d1, ds1, p1, q1, rfl, rfl, rfl, g1, t1⟩ := trodAll_cons t0
  obtain ⟨v2, vs2, d2, ds2, p2, q2, rfl, rfl, rfl, g2, t2⟩ := trodAll_cons t1
  obtain ⟨v3, vs3, d3, ds3, p3, q3, rfl, rfl, rfl, g3, t3⟩ := trodAll_cons t2
  obtain ⟨rfl, rfl, rfl⟩ := trodAll_nil t3
  obtain rfl : args = #[v0, v1, v2, v3] := by cases args; simp_all
  obtain ⟨rfl, rfl⟩ := trodVars_none hV
  obtain ⟨a0, rfl, rfl, rfl, w0⟩ := open_int Try.underlying3 (hval 0 3 v0 rfl rfl) g0
  have b0 := bounds_i64 w0
  obtain ⟨a1, len1, cap1, rfl⟩ := okWide_slice Try.underlying22 (hval 1 22 v1 rfl rfl)
  have m1 := g1
  have lt1 : ∀ x ∈ p1, x.block < W.heap.size := by obtain ⟨m, hm⟩ := m1; exact DataW.trod_lt m _ _ _ hm
  obtain ⟨l1, k1, rfl, n1, r1, z1⟩ : ∃ l, IsRowsIn W W.heap.size a1 l ∧ len1 = l.length ∧ l.length ≤ cap1 ∧ cap1 ≤ maxLen ∧ (a1 = none → cap1 = 0) := by
    obtain ⟨fuel, hf⟩ := g1
    obtain ⟨a, c, ts, hcs, h1, h2, h3⟩ := rows_of_trod hf
    simp [Value.cells] at hcs
    obtain ⟨rfl, rfl, rfl⟩ := hcs
    exact ⟨ts, h1, rfl, h2.1, h2.2, h3⟩
  obtain ⟨a2, len2, cap2, rfl⟩ := okWide_slice Try.underlying23 (hval 2 23 v2 rfl rfl)
  have m2 := g2
  have lt2 : ∀ x ∈ p2, x.block < W.heap.size := by obtain ⟨m, hm⟩ := m2; exact DataW.trod_lt m _ _ _ hm
  obtain ⟨l2, k2, rfl, n2, r2, z2⟩ : ∃ l, IsInts W W.heap.size a2 l ∧ len2 = l.length ∧ l.length ≤ cap2 ∧ cap2 * 8 ≤ 140737488351232 ∧ (a2 = none → cap2 = 0) := by
    obtain ⟨fuel, hf⟩ := g2
    rcases open_ints Try.underlying23 Try.underlying3 (by kernel_rfl) hf with ⟨hcs, _⟩ | ⟨x, l, c, zs, hcs, _, hl, hm, hz, hx, hcell, hwz⟩
    · simp [Value.cells] at hcs
      obtain ⟨rfl, rfl, rfl⟩ := hcs
      exact ⟨[], IsInts.nil, rfl, by simp, by omega, fun _ => rfl⟩
    · simp [Value.cells] at hcs
      obtain ⟨rfl, rfl, rfl⟩ := hcs
      simp only [Prod.mk.injEq] at hx
      obtain ⟨rfl, rfl⟩ := hx
      simp only [if_true] at hz
      have hr := sized_slice hsz (j := 2) (t := 23) (e := 3) rfl rfl Try.underlying23
      rw [bytesOfI] at hr
      simp only [lits, List.length_map, List.length_take, List.length_drop, reachBytes] at hr
      obtain ⟨l, h1, h2⟩ := isInts_of_ints hl hz hcell hwz
      exact ⟨l, h1, h2, by omega, by omega, fun h => by cases h⟩
  obtain ⟨a3, len3, cap3, rfl⟩ := okWide_slice Try.underlying24 (hval 3 24 v3 rfl rfl)
  have m3 := g3
  have lt3 : ∀ x ∈ p3, x.block < W.heap.size := by obtain ⟨m, hm⟩ := m3; exact DataW.trod_lt m _ _ _ hm
  obtain ⟨l3, k3, rfl, n3, r3, z3⟩ : ∃ l, IsIntRows W W.heap.size a3 l ∧ len3 = l.length ∧ l.length ≤ cap3 ∧ cap3 ≤ maxLen ∧ (a3 = none → cap3 = 0) := by
    obtain ⟨fuel, hf⟩ := g3
    obtain ⟨a, c, ts, hcs, h1, h2, h3⟩ := introws_of_trod hf
    simp [Value.cells] at hcs
    obtain ⟨rfl, rfl, rfl⟩ := hcs
    exact ⟨ts, h1, rfl, h2.1, h2.2, h3⟩
  clear hA0 hval0
  refine (walk a0 a1 cap1 l1 a2 cap2 l2 a3 cap3 l3 W b0 k1 n1 r1 z1 k2 n2 r2 z2 k3 n3 r3 z3).mono fun e W' ⟨he, bel⟩ => ?_
  subst he
  exact ⟨_, rfl, _, _, _, [], _, [], hW', trodAll_mk1 (shut_bool Try.underlying4 _), (trodAll_cons_mk (shut_int Try.underlying3 w0) (trodAll_cons_mk (Below.trod laidOut (by kernel_rfl) (of_decide_eq_true (by kernel_rfl)) m1 bel lt1) (trodAll_cons_mk (Below.trod laidOut (by kernel_rfl) (of_decide_eq_true (by kernel_rfl)) m2 bel lt2) (trodAll_cons_mk (Below.trod laidOut (by kernel_rfl) (of_decide_eq_true (by kernel_rfl)) m3 bel lt3) trodAll_mk0)))), rfl, bel.frame _, fun h => by cases h⟩

theorem over : Rows.checkLastsRow.holds Try.pinned (OpenSpec.ofChange Rows.checkLastsSpec) :=
  OpenClaim.holds_of_wide 3 Try.f3 rfl rfl rfl rfl rfl rfl rfl ⟨rfl, rfl, rfl, rfl, rfl⟩ rfl rfl rfl rfl rfl (by kernel_rfl) Try.func3 (by kernel_rfl)
    (of_decide_eq_true (by kernel_rfl)) (by unfold Func.isWrapper; first | (rw [if_pos (by decide +kernel)]; kernel_rfl) | (rw [if_neg (by decide +kernel)]; exact ⟨rfl, rfl⟩))
    (fun os started H enc _ => lifted os started H enc)

theorem proved : Rows.CheckLastsSaid := over
end Go.Proofs.Ytdgijnolpjaheaa.checkLasts
