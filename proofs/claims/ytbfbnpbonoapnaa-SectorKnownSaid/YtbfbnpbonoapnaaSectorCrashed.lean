/- A crash touches none but dirty sectors; each of these is then as it was ahead of what was lost, or as it was read, or torn; a second crash changes nothing. Conditions: none. -/
import Derived.Test.YtbfbnpbonoapnaaRows
import Derived.Test.YtbfbnpbonoapnaaLawF
import Derived.WalkKit
import Derived.WalkLawsBesides
import Derived.ProofKit
import Derived.OpenShut
import Derived.ShutString
import Derived.ChangeOld
import Derived.Below
import Derived.SizedLaws
namespace Go.Proofs.Ytbfbnpbonoapnaa.sectorCrashed
open Go.ChangeShapes Go.WideShapes Go.ChangeAt Go.RowKit
open Go.ChangeMaps (open_string shut_string)
set_option linter.unusedVariables false

theorem own : ownKnob Try.prog.godebug = none := by kernel_rfl
theorem laidOut : laidOutB Try.prog = true := by kernel_rfl
theorem bytesOfI : Try.prog.bytesOf 3 = 8 := by kernel_rfl

/-- all that is at hand when the comparing begins; the comparing itself only draws -/
structure Base (w : World) (s : Sx.St) (l2 : List Int) (a2 aR aD aL aI aT : Option Addr) (cT : Nat) : Prop where
  how : IsInts w w.heap.size a2 l2
  read : IsRows w aR (Sx.shows s)
  dirty : IsInts w w.heap.size aD ((Sx.dirty s).map fun (i : Nat) => (i : Int))
  lost : IsRows w aL (Sx.shows (Sx.crash s []))
  is_ : IsRows w aI (Sx.shows (Sx.crash s l2))
  torn : IsBytes w w.heap.size aT (rowOf 65)
theorem Base.drewN {w : World} {s : Sx.St} {l2 : List Int} {a2 aR aD aL aI aT : Option Addr} {cT : Nat} (h : Base w s l2 a2 aR aD aL aI aT cT) (n : Nat) : Base (w.drewN n) s l2 a2 aR aD aL aI aT cT :=
  ⟨h.how.drewN n, h.read.drewN n, h.dirty.drewN n, h.lost.drewN n, h.is_.drewN n, h.torn.drewN n⟩

set_option maxHeartbeats 3200000 in
set_option maxRecDepth 100000 in
theorem core (a0 : Int) (a1 : Option Addr) (cap1 : Nat) (l1 : List Sx.Op) (a2 : Option Addr) (cap2 : Nat) (l2 : List Int) (a3 : Option Addr) (cap3 : Nat) (l3 : List Int) (w : World)
    (b0 : -9223372036854775808 ≤ a0 ∧ a0 ≤ 9223372036854775807) (k1 : IsOps w w.heap.size a1 l1) (k2 : IsInts w w.heap.size a2 l2) (k3 : IsInts w w.heap.size a3 l3) :
    Calls Try.prog 5 #[.int .i64 a0, .slice a1 l1.length cap1, .slice a2 l2.length cap2, .slice a3 l3.length cap3] w fun e w' => e = .returned (.bool true) ∧ Below w.heap.size w w' := by
  go_enter Try.func5, Try.ntmps5
  go_wp2_with fail
  refine (works_any w).mono ?_
  rintro e w1 ⟨rfl, hb1⟩
  have HL := hid (long_any w.heap.size a1 cap1 l1 w1 (k1.below hb1))
  have HB1 := hid hb1
  clear hb1
  go_wp2_with fail
  refine HL.out.mono ?_
  rintro e w2 ⟨rfl, n2, hw2⟩
  have hb2 : Below w.heap.size w w2 := by rw [hw2]; exact below_drewN HB1.out n2
  have HB2 := hid hb2
  clear hb2 hw2 HL HB1
  cases hlg : Sx.long l1
  · by_cases h2 : 1024 < l2.length
    · go_wp2_with fail
      go_ret
      exact ⟨rfl, HB2.out⟩
    · obtain ⟨hlen, _⟩ := Sx.long_iff.1 hlg
      have HLG := hid hlen
      have H2 := hid h2
      have h2' : ¬ (1024 : Int) < (l2.length : Int) := by omega
      clear hlg hlen h2
      go_wp2_with fail
      refine (pick_lt a0 64 (by omega) (by omega) w2).mono ?_
      rintro e w3 ⟨⟨p, rfl, hp⟩, rfl⟩
      have HN := new_ds (1 + p) (by omega) w w2 HB2.out
      rw [show ((1 + p : Nat) : Int) = 1 + (p : Int) by omega] at HN
      have HN := hid HN
      have HP : Hid (1 + p ≤ 64) := hid (by omega)
      go_wp2_with fail
      refine HN.out.mono ?_
      rintro e w3 ⟨d, rfl, hD⟩
      have HD := hid hD
      clear hD HN HB2
      go_wp2_with fail
      refine (len_any _ d _ w3 HD.out.at_).mono ?_
      rintro e w4 ⟨rfl, rfl⟩
      have HN2 := hid (new_d2 (1 + p) (by omega) w _ d _ HD.out)
      have HX : Hid ((Sx.new (1 + p)).n = 1 + p) := hid rfl
      rw [HX.out]
      go_wp2_with fail
      refine HN2.out.mono ?_
      rintro e w5 ⟨c, rfl, hD5⟩
      have HS : Hid (D2 w w5 d c (Sx.runs (Sx.new (1 + p)) (l1.take 0)) (Sx.runs (Sx.new (1 + p)) (l1.take 0))) := hid hD5
      have hlen := HLG.out
      clear hD5 HN2 HD hp HLG
      go_wp2_with fail
      go_loopw [13] (fun i wr => ∃ k : Nat, k ≤ l1.length ∧ i = .int .i64 k ∧ Hid (D2 w wr d c (Sx.runs (Sx.new (1 + p)) (l1.take k)) (Sx.runs (Sx.new (1 + p)) (l1.take k)))) (fun i _ => l1.length - (RowKit.intOf i).toNat)
      case atStart => exact ⟨0, by omega, rfl, HS⟩
      case round =>
        clear HS
        obtain ⟨k, hk, rfl, hS⟩ := hrel
        by_cases hlt : k < l1.length
        · obtain ⟨b, off, rfl, hbw, hc⟩ := (k1.below hS.out.bel).cells k hlt
          have hat := hc k hlt
          have HAT := hid (And.intro hat hbw)
          obtain ⟨ap, cp, al, cl, c0, c1, c2, c3, c4, hp, hl, _, _, hcp, _, _, hi, _⟩ := hat
          have HC := hid (run_d2 w d c _ _ l1[k] ap al cp cl wr hS.out hp hl hcp hi)
          rw [Sx.runs_step _ _ _ hlt] at HC
          have HI := hid (And.intro hi hcp)
          have hk0 : (k : Int) < (l1.length : Int) := by omega
          clear hc hp hl hi k1 k2 k3 hcp hbw
          go_wp2_with fail
          refine HC.out.mono ?_
          rintro e w6 ⟨rfl, hD6, ht6⟩
          have hb6 : Below w.heap.size wr w6 := ht6.below hS.out.bel.size hS.out.ge
          obtain ⟨ap', cp', al', cl', d0, d1, d2, d3, d4, hp', hl', _, _, hcp', _, _, hi', _⟩ := HAT.out.1.below HAT.out.2 hb6
          have HC2 := hid (run_d2 w c d _ _ l1[k] ap' al' cp' cl' w6 hD6.symm hp' hl' hcp' hi')
          rw [Sx.runs_step _ _ _ hlt] at HC2
          clear hD6 ht6 hb6 c0 c1 c2 c3 c4 hp' hl' hi' hcp' HC
          go_wp2_with fail
          refine HC2.out.mono ?_
          rintro e w7 ⟨rfl, hD7, _⟩
          have HD7 := hid hD7.symm
          clear hD7
          go_wp2_with fail
          go_roundw
          case rel => exact ⟨k + 1, by omega, by go_num, HD7⟩
          case measure => simp [RowKit.intOf]; omega
        · obtain rfl : k = l1.length := by omega
          have hS1 := hS.out
          rw [List.take_length] at hS1
          obtain ⟨s, hs⟩ : ∃ s, s = Sx.runs (Sx.new (1 + p)) l1 := ⟨_, rfl⟩
          have hsn : s.n ≤ 64 := by rw [hs, Sx.runs_n]; exact HP.out
          rw [← hs] at hS1
          have HS := hid hS1
          have HSN := hid hsn
          have HI := hid (And.intro k2 k3)
          clear hS1 hS hs k1 k2 k3 hk hlt hsn HP HX
          go_wp2_with fail
          refine (shown_d2 w d c s s wr HS.out).mono ?_
          rintro e w7 ⟨A7, c7, rfl, hr7, hD7, hb7⟩
          have H7 := hid (And.intro hr7 hD7)
          have HD7 : Hid ((∀ k, d.has k → k < wr.heap.size) ∧ (∀ k, c.has k → k < wr.heap.size) ∧ wr.heap.size ≤ w7.heap.size) := hid ⟨HS.out.da.lt, HS.out.ca.lt, hb7.size⟩
          clear hr7 hD7 hb7 HS
          go_wp2_with fail
          refine (dirty_d2 w d c s s w7 H7.out.2).mono ?_
          rintro e w8 ⟨A8, c8, rfl, hI8, hD8, hb8⟩
          have hge8 : ∀ a, A8 = some a → w7.heap.size ≤ a.block := fun a ha => (hI8.blkLt a.block (by rw [ha]; rfl)).1
          have H8 := hid (And.intro (H7.out.1.below hb8) (And.intro hI8.reads (And.intro hge8 hD8)))
          clear hI8 hD8 hb8 hge8 H7
          have HC9 := hid (crash_d2 w c d s s none 0 [] 0 rfl w8 H8.out.2.2.2.symm IsInts.nil)
          go_wp2_with fail
          refine HC9.out.mono ?_
          rintro e w9 ⟨rfl, hD9, ht9⟩
          have hdl : ∀ k, d.has k → k < w7.heap.size := fun k hk => Nat.lt_of_lt_of_le (HD7.out.1 k hk) HD7.out.2.2
          have hcl : ∀ k, c.has k → k < w7.heap.size := fun k hk => Nat.lt_of_lt_of_le (HD7.out.2.1 k hk) HD7.out.2.2
          have HLT := hid (And.intro hdl hcl)
          have H9 := hid (And.intro (H8.out.1.onD HD7.out.2.1 ht9) (And.intro (H8.out.2.1.onD H8.out.2.2.1 hcl ht9) (And.intro H8.out.2.2.1 hD9)))
          clear hD9 ht9 hdl hcl HC9 H8
          go_wp2_with fail
          refine (shown_d2 w c d _ s w9 H9.out.2.2.2).mono ?_
          rintro e w10 ⟨A10, c10, rfl, hr10, hD10, hb10⟩
          have hdl10 : ∀ k, d.has k → k < w9.heap.size := H9.out.2.2.2.ca.lt
          have H10 := hid (And.intro (H9.out.1.below hb10) (And.intro (H9.out.2.1.on hb10) (And.intro hr10 (And.intro hdl10 hD10.symm))))
          have HG := hid H9.out.2.2.1
          clear hr10 hD10 hb10 hdl10 H9
          have HC11 := hid (crash_d2 w d c s _ a2 cap2 l2 _ rfl w10 H10.out.2.2.2.2 (HI.out.1.below H10.out.2.2.2.2.bel))
          go_wp2_with fail
          refine HC11.out.mono ?_
          rintro e w11 ⟨rfl, hD11, ht11⟩
          have H11 := hid (And.intro (H10.out.1.onD HD7.out.1 ht11) (And.intro (H10.out.2.1.onD HG.out HLT.out.1 ht11) (And.intro (H10.out.2.2.1.onD H10.out.2.2.2.1 ht11) hD11)))
          clear hD11 ht11 HC11 H10
          go_wp2_with fail
          refine (shown_d2 w d c _ _ w11 H11.out.2.2.2).mono ?_
          rintro e w12 ⟨A12, c12, rfl, hr12, hD12, hb12⟩
          have hdl12 : ∀ k, d.has k → k < w11.heap.size := H11.out.2.2.2.da.lt
          have H12 := hid (And.intro (H11.out.1.below hb12) (And.intro (H11.out.2.1.on hb12) (And.intro (H11.out.2.2.1.below hb12) (And.intro hr12 (And.intro hdl12 hD12)))))
          clear hr12 hD12 hb12 hdl12 H11
          have HR := hid (row_is 65 (by omega) (by omega) w12)
          go_wp2_with fail
          refine HR.out.mono ?_
          rintro e w13 ⟨A13, c13, rfl, hT13, hb13⟩
          have hbase : Base w13 s l2 a2 A7 A8 A10 A12 A13 c13 :=
            ⟨(HI.out.1.below (H12.out.2.2.2.2.2.bel.trans (hb13.mono H12.out.2.2.2.2.2.bel.size))).more (Nat.le_trans H12.out.2.2.2.2.2.bel.size hb13.size), (H12.out.1.below hb13).reads, H12.out.2.1.on hb13, (H12.out.2.2.1.below hb13).reads, (H12.out.2.2.2.1.below hb13).reads, hT13.reads⟩
          have HBASE := hid hbase
          have H13 := hid (And.intro (H12.out.2.2.2.1.below hb13) (And.intro H12.out.2.2.2.2.1 (H12.out.2.2.2.2.2.below hb13)))
          have e1 : min s.n 64 = s.n := by have := HSN.out; omega
          have e2 : min (Sx.crash s []).n 64 = s.n := e1
          have e3 : min (Sx.crash s l2).n 64 = s.n := e1
          have hsn := HSN.out
          clear hbase hT13 hb13 H12 HR HLT HG HD7
          go_wp2_with fail
          go_loopw [19, 20] (fun jv iv wr2 => ∃ i : Nat, i ≤ s.n ∧ iv = .int .i64 i ∧ jv = .int .i64 (Sx.rk s i : Nat) ∧ ∃ q, wr2 = w13.drewN q) (fun _ i _ => s.n - (RowKit.intOf i).toNat)
          case atStart => exact ⟨0, by omega, rfl, rfl, 0, rfl⟩
          case round =>
            obtain ⟨i, hi, rfl, rfl, q, rfl⟩ := hrel
            have hjle : Sx.rk s i ≤ i := Sx.rk_le s i
            obtain ⟨j, hj⟩ : ∃ j, j = Sx.rk s i := ⟨_, rfl⟩
            rw [← hj] at hjle ⊢
            have HJ := hid hj
            clear hj
            obtain ⟨wq, hwq⟩ : ∃ wq, wq = w13.drewN q := ⟨_, rfl⟩
            rw [← hwq]
            have hBq : Base wq s l2 a2 A7 A8 A10 A12 A13 c13 := by rw [hwq]; exact HBASE.out.drewN q
            have HBQ := hid hBq
            have HWQ := hid hwq
            clear hwq hBq
            by_cases hlt : i < s.n
            · have hk0 : (i : Int) < (s.n : Int) := by omega
              have hdl : (Sx.dirty s).length ≤ 100000 := by
                have h1 : (Sx.dirty s).length ≤ s.n := Sx.dirtyTo_length s.cache s.n
                omega
              have hIn := in_any wq.heap.size A8 c8 ((Sx.dirty s).map fun (x : Nat) => (x : Int)) (Sx.dirty s).length (by simp) hdl (i : Int) wq HBQ.out.dirty
              rw [Sx.mem_map_int] at hIn
              by_cases hcs : (s.cache i).isSome = true
              · rw [show decide (i ∈ Sx.dirty s) = true from decide_eq_true ((Sx.mem_dirty hlt).2 hcs)] at hIn
                have HIn := hid hIn
                have HCS := hid hcs
                clear hIn hcs hdl
                go_wp2_with fail
                refine HIn.out.mono ?_
                rintro e w14 ⟨rfl, j1, hw14⟩
                have hB14 : Base w14 s l2 a2 A7 A8 A10 A12 A13 c13 := by rw [hw14]; exact HBQ.out.drewN j1
                have HW14 : Hid (w14 = w13.drewN (q + j1)) := hid (by rw [hw14, HWQ.out, World.drewN_drewN])
                clear hw14 HIn HBQ
                obtain ⟨bI, oI, xI, yI, rfl, dI, kI, mI⟩ := hB14.is_.showAt i (by omega)
                obtain ⟨bR, oR, xR, yR, rfl, dR, kR, mR⟩ := hB14.read.showAt i (by omega)
                obtain ⟨bL, oL, xL, yL, rfl, dL, kL, mL⟩ := hB14.lost.showAt i (by omega)
                have hT := hB14.torn
                have hH := hB14.how
                clear hB14
                by_cases hj1 : j < l2.length
                · obtain ⟨bH, oH, rfl, _, hcH⟩ := hH.cells j hj1
                  have dH := hcH j hj1
                  have hf : Sx.fateAt s l2 i = l2[j] := by
                    have hrk := HJ.out
                    subst hrk
                    exact Sx.fateAt_lt s l2 i hj1
                  have hj2 : (j : Int) < (l2.length : Int) := by omega
                  clear hcH hH
                  by_cases hf0 : l2[j] = 0
                  · have he := Sx.crash_lost s l2 i hlt (by rw [hf, hf0])
                    rw [he] at dI kI mI
                    rw [hf0] at dH
                    have HC := hid (same_T w14.heap.size w14.heap.size xI xL yI yL _ _ rfl (by unfold maxLen; omega) w14 kI kL)
                    clear he hf hf0 kI kR kL hT mI mR mL dR
                    go_wp2_with fail
                    refine HC.out.mono ?_
                    rintro e w15 ⟨rfl, j2, hw15⟩
                    have H15 : Hid (w15 = w13.drewN (q + j1 + j2)) := hid (by rw [hw15, HW14.out, World.drewN_drewN])
                    clear hw15
                    go_wp2_with fail
                    first
                    | (refine ⟨⟨i + 1, by omega, by go_num, by rw [Sx.rk_is HCS.out, ← HJ.out]; go_num, q + j1 + j2, H15.out⟩, by simp [RowKit.intOf]; omega⟩)
                    | (go_roundw
                       case rel => exact ⟨i + 1, by omega, by go_num, by rw [Sx.rk_is HCS.out, ← HJ.out]; go_num, q + j1 + j2, H15.out⟩
                       case measure => simp [RowKit.intOf]; omega)
                  · by_cases hf1 : l2[j] = 1
                    · have he := Sx.crash_kept s l2 i hlt (by rw [hf, hf1])
                      rw [he] at dI kI mI
                      rw [hf1] at dH
                      have HC := hid (same_T w14.heap.size w14.heap.size xI xR yI yR _ _ rfl (by unfold maxLen; omega) w14 kI kR)
                      clear he hf hf0 hf1 kI kR kL hT mI mR mL dL
                      go_wp2_with fail
                      refine HC.out.mono ?_
                      rintro e w15 ⟨rfl, j2, hw15⟩
                      have H15 : Hid (w15 = w13.drewN (q + j1 + j2)) := hid (by rw [hw15, HW14.out, World.drewN_drewN])
                      clear hw15
                      go_wp2_with fail
                      first
                      | (refine ⟨⟨i + 1, by omega, by go_num, by rw [Sx.rk_is HCS.out, ← HJ.out]; go_num, q + j1 + j2, H15.out⟩, by simp [RowKit.intOf]; omega⟩)
                      | (go_roundw
                         case rel => exact ⟨i + 1, by omega, by go_num, by rw [Sx.rk_is HCS.out, ← HJ.out]; go_num, q + j1 + j2, H15.out⟩
                         case measure => simp [RowKit.intOf]; omega)
                    · have he := Sx.crash_torn s l2 i hlt HCS.out (by rw [hf]; exact hf0) (by rw [hf]; exact hf1)
                      rw [he] at dI kI mI
                      rw [rowOf_length] at dI
                      obtain ⟨v, hv⟩ : ∃ v, v = l2[j] := ⟨_, rfl⟩
                      rw [← hv] at dH hf0 hf1
                      have f1 : (v == 0) = false := by simp [hf0]
                      have f2 : (v == 1) = false := by simp [hf1]
                      have HC := hid (same_T w14.heap.size w14.heap.size xI A13 yI c13 (rowOf 65) 65 (rowOf_length 65) (by unfold maxLen; omega) w14 kI hT)
                      clear he hf hv kI kR kL hT mI mR mL dL dR
                      go_wp2_with fail
                      refine HC.out.mono ?_
                      rintro e w15 ⟨rfl, j2, hw15⟩
                      have H15 : Hid (w15 = w13.drewN (q + j1 + j2)) := hid (by rw [hw15, HW14.out, World.drewN_drewN])
                      clear hw15
                      go_wp2_with fail
                      first
                      | (refine ⟨⟨i + 1, by omega, by go_num, by rw [Sx.rk_is HCS.out, ← HJ.out]; go_num, q + j1 + j2, H15.out⟩, by simp [RowKit.intOf]; omega⟩)
                      | (go_roundw
                         case rel => exact ⟨i + 1, by omega, by go_num, by rw [Sx.rk_is HCS.out, ← HJ.out]; go_num, q + j1 + j2, H15.out⟩
                         case measure => simp [RowKit.intOf]; omega)
                · have hj2 : ¬ (j : Int) < (l2.length : Int) := by omega
                  have he := Sx.crash_lost s l2 i hlt (Sx.fateAt_ge s l2 i (by rw [← HJ.out]; omega))
                  rw [he] at dI kI mI
                  have HC := hid (same_T w14.heap.size w14.heap.size xI xL yI yL _ _ rfl (by unfold maxLen; omega) w14 kI kL)
                  clear he kI kR kL hT hH mI mR mL dR
                  go_wp2_with fail
                  refine HC.out.mono ?_
                  rintro e w15 ⟨rfl, j2, hw15⟩
                  have H15 : Hid (w15 = w13.drewN (q + j1 + j2)) := hid (by rw [hw15, HW14.out, World.drewN_drewN])
                  clear hw15
                  go_wp2_with fail
                  first
                  | (refine ⟨⟨i + 1, by omega, by go_num, by rw [Sx.rk_is HCS.out, ← HJ.out]; go_num, q + j1 + j2, H15.out⟩, by simp [RowKit.intOf]; omega⟩)
                  | (go_roundw
                     case rel => exact ⟨i + 1, by omega, by go_num, by rw [Sx.rk_is HCS.out, ← HJ.out]; go_num, q + j1 + j2, H15.out⟩
                     case measure => simp [RowKit.intOf]; omega)
              · rw [show decide (i ∈ Sx.dirty s) = false from decide_eq_false (fun h => hcs ((Sx.mem_dirty hlt).1 h))] at hIn
                have HIn := hid hIn
                have HCS := hid hcs
                have hcn : s.cache i = none := by
                  rcases h : s.cache i with _ | b
                  · rfl
                  · exact absurd (by rw [h]; rfl) hcs
                have he := Sx.crash_not s l2 i hlt hcn
                clear hIn hcs hdl hcn
                go_wp2_with fail
                refine HIn.out.mono ?_
                rintro e w14 ⟨rfl, j1, hw14⟩
                have hB14 : Base w14 s l2 a2 A7 A8 A10 A12 A13 c13 := by rw [hw14]; exact HBQ.out.drewN j1
                have HW14 : Hid (w14 = w13.drewN (q + j1)) := hid (by rw [hw14, HWQ.out, World.drewN_drewN])
                clear hw14 HIn HBQ
                obtain ⟨bI, oI, xI, yI, rfl, dI, kI, mI⟩ := hB14.is_.showAt i (by omega)
                obtain ⟨bR, oR, xR, yR, rfl, dR, kR, mR⟩ := hB14.read.showAt i (by omega)
                rw [he] at dI kI mI
                have HC : Hid (∀ q, Calls Try.prog 26 #[.slice xI (Sx.showOf s i).length yI, .slice xR (Sx.showOf s i).length yR] (w14.drewN q) fun e w' => e = .returned (.bool true) ∧ ∃ j, w' = (w14.drewN q).drewN j) :=
                  hid (fun q => same_T w14.heap.size w14.heap.size xI xR yI yR _ _ rfl (by unfold maxLen; omega) (w14.drewN q) (kI.drewN q) (kR.drewN q))
                clear he kI kR mI mR hB14
                go_wp2_with fail
                go_quiet ((go_at_call 26; exact Calls.quiet_of (HC.out _)))
                go_wp2_with fail
                first
                | (refine ⟨⟨i + 1, by omega, by go_num, by rw [Sx.rk_not HCS.out, ← HJ.out], q + j1 + nq, by rw [HW14.out, World.drewN_drewN]⟩, by simp [RowKit.intOf]; omega⟩)
                | (go_roundw
                   case rel => exact ⟨i + 1, by omega, by go_num, by rw [Sx.rk_not HCS.out, ← HJ.out], q + j1 + nq, by rw [HW14.out, World.drewN_drewN]⟩
                   case measure => simp [RowKit.intOf]; omega)
            · obtain rfl : i = s.n := by omega
              have hjd : j = (Sx.dirty s).length := HJ.out
              subst hjd
              have hDq : D2 w wq d c (Sx.crash s l2) (Sx.crash s []) := by rw [HWQ.out]; exact H13.out.2.2.drewN q
              have hRq : RowsAt wq (fun k => k < w11.heap.size) (.slice A12 (min (Sx.crash s l2).n 64) c12) (Sx.shows (Sx.crash s l2)) := by rw [HWQ.out]; exact H13.out.1.drewN q
              have HQ := hid (And.intro hRq hDq)
              have HC := hid (crash_d2 w d c _ _ a3 cap3 l3 _ rfl wq hDq (HI.out.2.below hDq.bel))
              clear hDq hRq HBQ HWQ HJ hlt hi
              go_wp2_with fail
              refine HC.out.mono ?_
              rintro e w14 ⟨rfl, hD14, ht14⟩
              have H14 := hid (And.intro (HQ.out.1.onD H13.out.2.1 ht14) hD14)
              clear hD14 ht14 HC HQ
              go_wp2_with fail
              refine (shown_d2 w d c _ _ w14 H14.out.2).mono ?_
              rintro e w15 ⟨A15, c15, rfl, hr15, hD15, hb15⟩
              have H15 := hid (And.intro (H14.out.1.below hb15) (And.intro hr15 hD15))
              clear hr15 hD15 hb15 H14
              have HF := hid (same_shown (n := s.n) (m := min (Sx.crash (Sx.crash s l2) l3).n 64) (c := c12) (c' := c15) (by have := H15.out.1; rw [e3] at this; exact this) H15.out.2.1 e3 rfl (Sx.shows_crash_none (Sx.crash s l2) (fun _ => rfl) l3))
              go_wp2_with fail
              refine HF.out.mono ?_
              rintro e w16 ⟨rfl, n16, hw16⟩
              have hD16 : D2 w w16 d c (Sx.crash (Sx.crash s l2) l3) (Sx.crash s []) := by rw [hw16]; exact H15.out.2.2.drewN n16
              have H16 := hid hD16
              clear hw16 hD16 H15 HF
              go_wp2_with fail
              go_ret
              exact ⟨rfl, H16.out.bel⟩
  · go_wp2_with fail
    go_ret
    exact ⟨rfl, HB2.out⟩
theorem walk (a0 : Int) (a1 : Option Addr) (cap1 : Nat) (l1 : List Sx.Op) (a2 : Option Addr) (cap2 : Nat) (l2 : List Int) (a3 : Option Addr) (cap3 : Nat) (l3 : List Int) (w : World)
    (b0 : -9223372036854775808 ≤ a0 ∧ a0 ≤ 9223372036854775807) (k1 : IsOps w w.heap.size a1 l1) (n1 : l1.length ≤ cap1) (r1 : cap1 ≤ maxLen) (z1 : a1 = none → cap1 = 0)
    (k2 : IsInts w w.heap.size a2 l2) (n2 : l2.length ≤ cap2) (r2 : cap2 * 8 ≤ 140737488351232) (z2 : a2 = none → cap2 = 0)
    (k3 : IsInts w w.heap.size a3 l3) (n3 : l3.length ≤ cap3) (r3 : cap3 * 8 ≤ 140737488351232) (z3 : a3 = none → cap3 = 0) :
    Calls Try.prog 5 #[.int .i64 a0, .slice a1 l1.length cap1, .slice a2 l2.length cap2, .slice a3 l3.length cap3] w fun e w' => e = .returned (.bool true) ∧ Below w.heap.size w w' :=
  core a0 a1 cap1 l1 a2 cap2 l2 a3 cap3 l3 w b0 k1 k2 k3

set_option maxRecDepth 100000 in
theorem lifted (os : Os) (started : os.Started) (H : Type) (enc : TypeId × Value → H) :
    ReturnsInHanded {} Try.checked os 5 .any (Rows.sectorCrashedSpec.pre6 enc Try.prog Try.f5 Rows.sectorCrashedRow.domain false) (Rows.sectorCrashedSpec.post enc Try.prog Try.f5 false true false false) := by
  refine returnsInHanded_of_change_sized (C := Try.checked) own started (by kernel_rfl) Try.func5
    (ChangeSpec.witness6 (enc := enc) (C := Try.checked) false ⟨#[], #[.int .i64 0, .slice none 0 0, .slice none 0 0, .slice none 0 0], []⟩ 8 (by kernel_rfl) (by kernel_rfl) (by kernel_rfl) (by kernel_rfl)) ?_
  intro W base args ds gs before hval0 hW hcnd hsz0 _
  have hsz : (DataW.weightsEach Try.prog (Try.f5.params.toList ++ Rows.sectorCrashedSpec.plain.varTypes Try.prog) (ds ++ gs)).all (· ≤ reachBytes) = true := hsz0
  clear hsz0
  have hval : ∀ (j : Nat) t v, Try.f5.params[j]? = some t → args[j]? = some v → Value.okWide Try.prog W .any base t v := hval0
  have hW' := hW
  obtain ⟨p, q, hA0, hV, rfl, hfz, hnd⟩ := hW
  have hA : DataW.TrodAll enc Try.prog W 0 (fun _ => true) true Try.f5.params.toList args.toList ds p := hA0
  rw [Try.params5] at hA hval hsz
  obtain ⟨v0, vs0, d0, ds0, p0, q0, hargs, rfl, rfl, g0, t0⟩ := trodAll_cons hA
  obtain ⟨v1, vs1, d1, ds1, p1, q1, rfl, rfl, rfl, g1, t1⟩ := trodAll_cons t0
  obtain ⟨v2, vs2, d2, ds2, p2, q2, rfl, rfl, rfl, g2, t2⟩ := trodAll_cons t1
  obtain ⟨v3, vs3, d3, ds3, p3, q3, rfl, rfl, rfl, g3, t3⟩ := trodAll_cons t2
  obtain ⟨rfl, rfl, rfl⟩ := trodAll_nil t3
  obtain rfl : args = #[v0, v1, v2, v3] := by cases args; simp_all
  obtain ⟨rfl, rfl⟩ := trodVars_none hV
  obtain ⟨a0, rfl, rfl, rfl, w0⟩ := open_int Try.underlying3 (hval 0 3 v0 rfl rfl) g0
  have b0 := bounds_i64 w0
  obtain ⟨a1, len1, cap1, rfl⟩ := okWide_slice Try.underlying22 (hval 1 22 v1 rfl rfl)
  have m1 := g1
  have lt1 : ∀ x ∈ p1, x.block < W.heap.size := by obtain ⟨m, hm⟩ := m1; exact DataW.trod_lt m _ _ _ hm
  obtain ⟨l1, k1, rfl, n1, r1, z1⟩ : ∃ l, IsOps W W.heap.size a1 l ∧ len1 = l.length ∧ l.length ≤ cap1 ∧ cap1 ≤ maxLen ∧ (a1 = none → cap1 = 0) := by
    obtain ⟨fuel, hf⟩ := g1
    obtain ⟨a, c, ts, hcs, h1, h2, h3⟩ := ops_of_trod hf
    simp [Value.cells] at hcs
    obtain ⟨rfl, rfl, rfl⟩ := hcs
    exact ⟨ts, h1, rfl, h2.1, h2.2, h3⟩
  obtain ⟨a2, len2, cap2, rfl⟩ := okWide_slice Try.underlying34 (hval 2 34 v2 rfl rfl)
  have m2 := g2
  have lt2 : ∀ x ∈ p2, x.block < W.heap.size := by obtain ⟨m, hm⟩ := m2; exact DataW.trod_lt m _ _ _ hm
  obtain ⟨l2, k2, rfl, n2, r2, z2⟩ : ∃ l, IsInts W W.heap.size a2 l ∧ len2 = l.length ∧ l.length ≤ cap2 ∧ cap2 * 8 ≤ 140737488351232 ∧ (a2 = none → cap2 = 0) := by
    obtain ⟨fuel, hf⟩ := g2
    rcases open_ints Try.underlying34 Try.underlying3 (by kernel_rfl) hf with ⟨hcs, _⟩ | ⟨x, l, c, zs, hcs, _, hl, hm, hz, hx, hcell, hwz⟩
    · simp [Value.cells] at hcs
      obtain ⟨rfl, rfl, rfl⟩ := hcs
      exact ⟨[], IsInts.nil, rfl, by simp, by omega, fun _ => rfl⟩
    · simp [Value.cells] at hcs
      obtain ⟨rfl, rfl, rfl⟩ := hcs
      simp only [Prod.mk.injEq] at hx
      obtain ⟨rfl, rfl⟩ := hx
      simp only [if_true] at hz
      have hr := sized_slice hsz (j := 2) (t := 34) (e := 3) rfl rfl Try.underlying34
      rw [bytesOfI] at hr
      simp only [lits, List.length_map, List.length_take, List.length_drop, reachBytes] at hr
      obtain ⟨l, h1, h2⟩ := isInts_of_ints hl hz hcell hwz
      exact ⟨l, h1, h2, by omega, by omega, fun h => by cases h⟩
  obtain ⟨a3, len3, cap3, rfl⟩ := okWide_slice Try.underlying34 (hval 3 34 v3 rfl rfl)
  have m3 := g3
  have lt3 : ∀ x ∈ p3, x.block < W.heap.size := by obtain ⟨m, hm⟩ := m3; exact DataW.trod_lt m _ _ _ hm
  obtain ⟨l3, k3, rfl, n3, r3, z3⟩ : ∃ l, IsInts W W.heap.size a3 l ∧ len3 = l.length ∧ l.length ≤ cap3 ∧ cap3 * 8 ≤ 140737488351232 ∧ (a3 = none → cap3 = 0) := by
    obtain ⟨fuel, hf⟩ := g3
    rcases open_ints Try.underlying34 Try.underlying3 (by kernel_rfl) hf with ⟨hcs, _⟩ | ⟨x, l, c, zs, hcs, _, hl, hm, hz, hx, hcell, hwz⟩
    · simp [Value.cells] at hcs
      obtain ⟨rfl, rfl, rfl⟩ := hcs
      exact ⟨[], IsInts.nil, rfl, by simp, by omega, fun _ => rfl⟩
    · simp [Value.cells] at hcs
      obtain ⟨rfl, rfl, rfl⟩ := hcs
      simp only [Prod.mk.injEq] at hx
      obtain ⟨rfl, rfl⟩ := hx
      simp only [if_true] at hz
      have hr := sized_slice hsz (j := 3) (t := 34) (e := 3) rfl rfl Try.underlying34
      rw [bytesOfI] at hr
      simp only [lits, List.length_map, List.length_take, List.length_drop, reachBytes] at hr
      obtain ⟨l, h1, h2⟩ := isInts_of_ints hl hz hcell hwz
      exact ⟨l, h1, h2, by omega, by omega, fun h => by cases h⟩
  clear hA0 hval0
  refine (walk a0 a1 cap1 l1 a2 cap2 l2 a3 cap3 l3 W b0 k1 n1 r1 z1 k2 n2 r2 z2 k3 n3 r3 z3).mono fun e W' ⟨he, bel⟩ => ?_
  subst he
  exact ⟨_, rfl, _, _, _, [], _, [], hW', trodAll_mk1 (shut_bool Try.underlying4 _), (trodAll_cons_mk (shut_int Try.underlying3 w0) (trodAll_cons_mk (Below.trod laidOut (by kernel_rfl) (of_decide_eq_true (by kernel_rfl)) m1 bel lt1) (trodAll_cons_mk (Below.trod laidOut (by kernel_rfl) (of_decide_eq_true (by kernel_rfl)) m2 bel lt2) (trodAll_cons_mk (Below.trod laidOut (by kernel_rfl) (of_decide_eq_true (by kernel_rfl)) m3 bel lt3) trodAll_mk0)))), rfl, bel.frame _, fun h => by cases h⟩

theorem over : Rows.sectorCrashedRow.holds Try.pinned (OpenSpec.ofChange Rows.sectorCrashedSpec) :=
  OpenClaim.holds_of_wide 5 Try.f5 rfl rfl rfl rfl rfl rfl rfl ⟨rfl, rfl, rfl, rfl, rfl⟩ rfl rfl rfl rfl rfl (by kernel_rfl) Try.func5 (by kernel_rfl)
    (of_decide_eq_true (by kernel_rfl)) (by unfold Func.isWrapper; first | (rw [if_pos (by decide +kernel)]; kernel_rfl) | (rw [if_neg (by decide +kernel)]; exact ⟨rfl, rfl⟩))
    (fun os started H enc _ => lifted os started H enc)

theorem proved : Rows.SectorCrashedSaid := over
end Go.Proofs.Ytbfbnpbonoapnaa.sectorCrashed
