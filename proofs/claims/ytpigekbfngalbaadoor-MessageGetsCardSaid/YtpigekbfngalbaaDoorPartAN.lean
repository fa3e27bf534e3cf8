/- Texts of the proof, one behind the other: MsRefC, Region, RefRd, RefReader2, RefRdInt, RefReader. -/
import Derived.Test.YtpigekbfngalbaaDoorPartAM
import Derived.Test.YtpigekbfngalbaaDoorPartAL
import Derived.Deep.RegionHeld3
import Derived.Deep.CutRange
import Derived.Test.YtpigekbfngalbaaDoorPartAB
import Derived.Deep.AppendLies
import Derived.Deep.MidRow
import Derived.Deep.RegionLaw
import Derived.Test.YtpigekbfngalbaaDoorPartAH
import Derived.IntWalk
namespace Go.Proofs.YtpigekbfngalbaaDoor.Ms
open Go.RowKit
set_option maxRecDepth 100000
set_option linter.unusedVariables false
attribute [local go_sem ↓] loadAt_msg storeAt_msg

def M.longV (m : M) : Bool := decide (1024 < m.es.length) || decide (65536 < m.size)
theorem size_has (m : M) (hk : 1 ≤ m.K ∧ m.K ≤ 11) : m.size = (24 * m.es.length + weigh m.es) + m.d.length + 8 * (3 + (hasL m.K).length) := by
  have h1 := (has_len m.K hk).1
  have h2 : head.length = 3 := rfl
  have h3 : (tab m.kind).length = (tab m.K.toNat).length := rfl
  unfold M.size
  rw [List.length_append, h2, h3, ← h1]; omega
theorem longV_of {m : M} (h : 1024 < m.es.length ∨ 65536 < m.size) : m.longV = true := by
  unfold M.longV
  rcases h with h | h
  · rw [decide_eq_true h]; rfl
  · rw [decide_eq_true h]; simp
set_option maxHeartbeats 6400000 in
theorem long_any (m : M) (A : Option Addr) (c : Nat) (A' : Option Addr) (c' : Nat) (w : World) (h : Is w w.heap.size m A c A' c') (hk : m.isKind = true) (hs : Small m) :
    Calls Tryd.prog 41 #[.agg #[.int .i64 m.K, .int .i64 m.F, .int .i64 m.T, .int .i64 m.g, .int .i64 m.t, .int .i64 m.i, .int .i64 m.p, .int .i64 m.c, .int .i64 m.r, .int .i64 m.x, .int .i64 m.a, .int .i64 m.b, .int .i64 m.v, .int .i64 m.s, .bool m.ok, .slice A m.es.length c, .slice A' m.d.length c']] w fun e w' => e = .returned (.bool m.longV) ∧ Below w.heap.size w w' := by
  have hkk : 1 ≤ m.K ∧ m.K ≤ 11 := by unfold M.isKind at hk; simp at hk; exact hk
  have HSZ := hid (size_has m hkk)
  have HKK := hid hkk
  have HI := hid h
  have hes := hs.es
  have hdd := hs.d
  obtain ⟨w1, hw1⟩ : ∃ w1, w1 = w.alloc (.cells #[.int .i64 m.K, .int .i64 m.F, .int .i64 m.T, .int .i64 m.g, .int .i64 m.t, .int .i64 m.i, .int .i64 m.p, .int .i64 m.c, .int .i64 m.r, .int .i64 m.x, .int .i64 m.a, .int .i64 m.b, .int .i64 m.v, .int .i64 m.s, .bool m.ok, .slice A m.es.length c, .slice A' m.d.length c'] 25) := ⟨_, rfl⟩
  have hbx : Bx w1 w.heap.size m A c A' c' := ⟨by rw [hw1]; exact heap_alloc_new w _⟩
  have hb1 : Below w.heap.size w w1 := by rw [hw1]; exact (Below.refl _ w).alloc (Nat.le_refl _) _
  have HX1 := hid (And.intro hbx hb1)
  have hnl : (hasL m.K).length ≤ 7 := by rw [(has_len m.K hkk).1]; exact tab_length _
  have HNL := hid hnl
  clear h hk hs hkk hbx hb1 hnl
  by_cases f1 : 1024 < m.es.length
  · have HR : Hid (m.longV = true) := hid (longV_of (Or.inl f1))
    go_enter Tryd.func41, Tryd.ntmps41
    go_wp2_with fail
    go_ret
    rw [HR.out, ← hw1]
    exact ⟨rfl, HX1.out.2⟩
  by_cases f2 : 65536 < m.d.length
  · have HR : Hid (m.longV = true) := hid (longV_of (Or.inr (by rw [HSZ.out]; omega)))
    go_enter Tryd.func41, Tryd.ntmps41
    go_wp2_with fail
    go_ret
    rw [HR.out, ← hw1]
    exact ⟨rfl, HX1.out.2⟩
  have hc15 := HX1.out.1.c15
  have hc16 := HX1.out.1.c16
  have hc0 := HX1.out.1.c0
  go_enter Tryd.func41, Tryd.ntmps41
  go_wp2_with fail
  rw [← hw1]
  clear hw1
  go_loopw [3] (fun i wr => ∃ j : Nat, j ≤ m.es.length ∧ i = .int .i64 (j : Int) ∧ wr = w1 ∧ Hid (∀ (n : Nat) (h : n < m.es.length), n < j → m.es[n].d.length ≤ 65536)) (fun i _ => m.es.length - (RowKit.intOf i).toNat)
  case atStart => exact ⟨0, Nat.zero_le _, rfl, rfl, hid fun n _ h => absurd h (Nat.not_lt_zero _)⟩
  case round =>
    obtain ⟨j, hj, rfl, hwr, HJ⟩ := hrel
    rw [hwr]
    clear hwr
    by_cases hlt : j < m.es.length
    · obtain ⟨b, off, hA, hb, hcs⟩ := HI.out.es.cells j hlt
      obtain ⟨A3, c3, e0, e1, e2, _, h5, _⟩ := (hcs j hlt).below hb HX1.out.2
      have HLG : Hid (65536 < m.es[j].d.length → m.longV = true) := hid fun h => longV_of (Or.inr (by have := weigh_mem (List.getElem_mem hlt); rw [HSZ.out]; omega))
      have HJ2 : Hid (m.es[j].d.length ≤ 65536 → ∀ (n : Nat) (h : n < m.es.length), n < j + 1 → m.es[n].d.length ≤ 65536) := hid (by
        intro h0 n hn hnj
        by_cases e : n = j
        · subst e; exact h0
        · exact HJ.out n hn (by omega))
      subst hA
      unfold maxLen at h5
      clear hcs hb HJ
      generalize m.es[j] = x at e0 e1 e2 h5 HLG HJ2
      by_cases g : 65536 < x.d.length
      · have HN := hid (HLG.out g)
        go_wp2_with fail
        go_ret
        rw [HN.out]
        exact ⟨rfl, HX1.out.2⟩
      · have HN := hid (HJ2.out (by omega))
        go_wp2_with fail
        go_roundw
        case rel => exact ⟨j + 1, by omega, by go_num, trivial, HN⟩
        case measure => simp [RowKit.intOf]; omega
    · obtain rfl : j = m.es.length := by omega
      go_wp2_with fail
      go_loopw [4, 5] (fun s i wq => ∃ j : Nat, j ≤ m.es.length ∧ i = .int .i64 (j : Int) ∧ s = .int .i64 ((24 * j + weigh (m.es.take j) : Nat) : Int) ∧ wq = w1 ∧ Hid (weigh (m.es.take j) ≤ 65536 * j)) (fun _ i _ => m.es.length - (RowKit.intOf i).toNat)
      case atStart => exact ⟨0, Nat.zero_le _, rfl, rfl, rfl, hid (by simp [weigh])⟩
      case round =>
        obtain ⟨j, hj, rfl, rfl, hwr, HW⟩ := hrel
        rw [hwr]
        clear hwr
        by_cases hlt : j < m.es.length
        · obtain ⟨b, off, hA, hb, hcs⟩ := HI.out.es.cells j hlt
          obtain ⟨A3, c3, e0, e1, e2, _, h5, _⟩ := (hcs j hlt).below hb HX1.out.2
          have h6 := HJ.out j hlt hlt
          have hwt := weigh_take m.es j hlt
          have hww := HW.out
          obtain ⟨q, hq⟩ : ∃ q, q = 24 * j + weigh (m.es.take j) := ⟨_, rfl⟩
          have hq2 : q ≤ 100000000 := by omega
          have HQ : Hid (24 * (j + 1) + weigh (m.es.take (j + 1)) = q + 24 + m.es[j].d.length ∧ weigh (m.es.take (j + 1)) ≤ 65536 * (j + 1)) := hid (by omega)
          rw [← hq]
          subst hA
          clear hcs hb hwt hww hq
          generalize m.es[j] = x at e0 e1 e2 h5 h6 HQ
          go_wp2_with fail
          go_roundw
          case rel => exact ⟨j + 1, by omega, by go_num, by rw [HQ.out.1]; congr 1, trivial, hid HQ.out.2⟩
          case measure => simp [RowKit.intOf]; omega
        · obtain rfl : j = m.es.length := by omega
          have hww := HW.out
          rw [List.take_length] at hww ⊢
          obtain ⟨q, hq⟩ : ∃ q, q = 24 * m.es.length + weigh m.es := ⟨_, rfl⟩
          have hq2 : q ≤ 100000000 := by omega
          rw [← hq]
          have HQ := hid hq
          clear hww hq
          have HSZ2 : Hid (∀ nh : Nat, (hasL m.K).length = nh → m.size = q + m.d.length + 8 * (3 + nh)) := hid fun nh h => by rw [HSZ.out, HQ.out, h]
          have HLV : Hid (∀ nh : Nat, (hasL m.K).length = nh → m.longV = decide (65536 < q + m.d.length + 8 * (3 + nh))) := hid fun nh h => by
            unfold M.longV
            rw [decide_eq_false f1, ← HSZ2.out nh h]; rfl
          have hnl2 := HNL.out
          obtain ⟨nh, hnh⟩ : ∃ nh, nh = (hasL m.K).length := ⟨_, rfl⟩
          rw [← hnh] at hnl2
          have hh := has_any m.K w1.drew
          rw [← hnh] at hh
          have HH := hid hh
          have HNH := hid hnh
          have HKC : Hid (∀ wz, Below w1.heap.size w1.drew wz → wz.cell? ⟨w.heap.size, 16, none⟩ = some (.slice A' m.d.length c') ∧ wz.cell? ⟨w.heap.size, 0, none⟩ = some (.int .i64 m.K)) := hid fun wz hb => ⟨(hb.cell (p := ⟨w.heap.size, 16, none⟩) (row_lt HX1.out.1.row)).trans HX1.out.1.c16, (hb.cell (p := ⟨w.heap.size, 0, none⟩) (row_lt HX1.out.1.row)).trans HX1.out.1.c0⟩
          have hk16 : w1.drew.cell? ⟨w.heap.size, 16, none⟩ = some (.slice A' m.d.length c') := hc16
          have hk0 : w1.drew.cell? ⟨w.heap.size, 0, none⟩ = some (.int .i64 m.K) := hc0
          clear hlt hj hh hnh
          go_wp2_with fail
          go_region_held3 (fun w' => w'.cell? ⟨w.heap.size, 16, none⟩ = some (.slice A' m.d.length c') ∧ w'.cell? ⟨w.heap.size, 0, none⟩ = some (.int .i64 m.K))
            (first | exact HK5.out.1 | exact ⟨hk16, hk0⟩ | fail)
            (first
              | (go_at_call 37; refine HH.out.mono ?_; rintro e w5 ⟨AH, cH, rfl, _, _, hb5⟩; have HK5 := hid (And.intro (HKC.out w5 hb5) hb5); clear hb5))
          all_goals
            have HB5 : Hid (Below w.heap.size w w5) := hid (HX1.out.2.trans (((Below.refl _ w1).drew.trans HK5.out.2).mono HX1.out.2.size))
            clear hk16 hk0
            go_wp2_with fail
            go_ret
            refine ⟨?_, HB5.out⟩
            rw [HLV.out nh HNH.out.symm]
            refine congrArg (fun b => Ending.returned (.bool b)) ?_
            have e1 : ∀ x : Int, -9223372036854775808 ≤ x → x ≤ 9223372036854775807 → IntKind.i64.wrap x = x := by
              intro x h1 h2
              simp [IntKind.wrap, IntKind.signed, IntKind.bits]
              omega
            rw [e1 (3 + (nh : Int)) (by omega) (by omega), e1 (8 * (3 + (nh : Int))) (by omega) (by omega), e1 ((q : Int) + (m.d.length : Int)) (by omega) (by omega), e1 (((q : Int) + (m.d.length : Int)) + 8 * (3 + (nh : Int))) (by omega) (by omega)]
            rw [decide_eq_decide]
            omega

/-- a foreign field that says something -/
def M.fo (m : M) (r : Nat) : Bool := !(tab m.kind).contains r && !m.blank r
theorem foreign_eq (m : M) : m.foreign = (allR.any m.fo || (m.fo 111 || (m.fo 101 || m.fo 100))) := by
  have h : ∀ p : Nat → Bool, all.any p = (allR.any p || (p 111 || (p 101 || p 100))) := by
    intro p
    simp only [all, allR, List.any_cons, List.any_nil, Bool.or_false]
    ac_rfl
  exact h m.fo
def M.stillR (m : M) (j : Nat) : Prop := ∀ r ∈ allR.take j, m.fo r = false
theorem stillR_next {m : M} {j : Nat} (h : m.stillR j) (hj : j < allR.length) (hb : m.fo allR[j] = false) : m.stillR (j + 1) := by
  intro r hr
  rw [List.take_succ_eq_append_getElem hj] at hr
  rcases List.mem_append.1 hr with hr | hr
  · exact h r hr
  · obtain rfl := List.mem_singleton.1 hr; exact hb
theorem blank_num (m : M) (j : Nat) (h : j < allR.length) : m.blank allR[j] = decide (m.num allR[j] = 0) := by
  have key : ∀ r ∈ allR, r ≠ 111 ∧ r ≠ 101 ∧ r ≠ 100 := by decide
  have := key _ (List.getElem_mem h)
  unfold M.blank
  rw [if_neg this.1, if_neg this.2.1, if_neg this.2.2]
set_option maxHeartbeats 6400000 in
theorem rcheck_any (m : M) (A : Option Addr) (c : Nat) (A' : Option Addr) (c' : Nat) (w : World) (h : Is w w.heap.size m A c A' c') (hs : Small m) :
    Calls Tryd.prog 14 #[.agg #[.int .i64 m.K, .int .i64 m.F, .int .i64 m.T, .int .i64 m.g, .int .i64 m.t, .int .i64 m.i, .int .i64 m.p, .int .i64 m.c, .int .i64 m.r, .int .i64 m.x, .int .i64 m.a, .int .i64 m.b, .int .i64 m.v, .int .i64 m.s, .bool m.ok, .slice A m.es.length c, .slice A' m.d.length c']] w fun e w' => e = .returned (.int .i64 ((check m : Nat) : Int)) ∧ Below w.heap.size w w' := by
  have HI := hid h
  have HS := hid hs
  have hesl := hs.es
  have hdl := hs.d
  have HCK : Hid (check m = if m.isKind = false then 13 else if m.foreign = true then 14 else if m.inRange = false then 3 else if 1024 < m.es.length ∨ 65536 < m.size then 2 else 0) := rfl
  obtain ⟨w1, hw1⟩ : ∃ w1, w1 = w.alloc (.cells #[.int .i64 m.K, .int .i64 m.F, .int .i64 m.T, .int .i64 m.g, .int .i64 m.t, .int .i64 m.i, .int .i64 m.p, .int .i64 m.c, .int .i64 m.r, .int .i64 m.x, .int .i64 m.a, .int .i64 m.b, .int .i64 m.v, .int .i64 m.s, .bool m.ok, .slice A m.es.length c, .slice A' m.d.length c'] 25) := ⟨_, rfl⟩
  have hbx : Bx w1 w.heap.size m A c A' c' := ⟨by rw [hw1]; exact heap_alloc_new w _⟩
  have hb1 : Below w.heap.size w w1 := by rw [hw1]; exact (Below.refl _ w).alloc (Nat.le_refl _) _
  have HX1 := hid (And.intro hbx hb1)
  have HH := hid (has_any m.K w1)
  clear h hs hbx hb1
  go_enter Tryd.func14, Tryd.ntmps14
  go_wp2_with fail
  rw [← hw1]
  clear hw1
  refine HH.out.mono ?_
  rintro e w2 ⟨AH, cH, rfl, hh2, hcH, hb2⟩
  have HB2 := hid (HX1.out.2.trans (hb2.mono HX1.out.2.size))
  have HX2 := hid (HX1.out.1.below hb2 (row_lt HX1.out.1.row))
  have HH2 := hid hh2
  obtain ⟨nh, hnh⟩ : ∃ nh, nh = (hasL m.K).length := ⟨_, rfl⟩
  rw [← hnh] at hcH ⊢
  have HNH := hid hnh
  have hld2 := HX2.out.load
  clear hb2 hh2 hnh HH
  by_cases hk : m.isKind = true
  rotate_left
  · have hkk : ¬ (1 ≤ m.K ∧ m.K ≤ 11) := fun hh => hk (by unfold M.isKind; simp; exact hh)
    have hn0 : nh = 0 := by rw [HNH.out]; unfold hasL; rw [if_neg hkk]; rfl
    have HR : Hid (check m = 13) := hid (by rw [HCK.out, if_pos (by simpa using hk)])
    clear hk hkk HNH
    subst hn0
    go_wp2_with fail
    go_ret
    rw [HR.out]
    exact ⟨rfl, HB2.out⟩
  have hkk : 1 ≤ m.K ∧ m.K ≤ 11 := by unfold M.isKind at hk; simp at hk; exact hk
  have hn1 : 1 ≤ nh ∧ nh ≤ 7 := by rw [HNH.out]; exact ⟨(has_len m.K hkk).2, by rw [(has_len m.K hkk).1]; exact tab_length _⟩
  have HKK := hid hkk
  have HK := hid hk
  have HC2 : Hid (check m = if m.foreign = true then 14 else if m.inRange = false then 3 else if 1024 < m.es.length ∨ 65536 < m.size then 2 else 0) := hid (by rw [HCK.out, if_neg (by rw [hk]; decide)])
  obtain ⟨hn1a, hn1b⟩ := hn1
  have HNB := hid (numbers_any m A c A' c' w2 HI.out.num)
  clear hk hkk HCK
  go_wp2_with fail
  refine HNB.out.mono ?_
  rintro e w3 ⟨AN, rfl, hn3, hb3⟩
  have HB3 := hid (HB2.out.trans (hb3.mono HB2.out.size))
  have HX3 := hid (HX2.out.below hb3 (row_lt HX2.out.row))
  have HN3 := hid hn3
  have HH3 := hid ((HH2.out.below hb3).more hb3.size)
  clear hb3 hn3 HNB hld2
  go_wp2_with fail
  go_loopw [5] (fun i wr => ∃ j : Nat, j ≤ 11 ∧ i = .int .i64 (j : Int) ∧ wr = w3 ∧ Hid (m.stillR j)) (fun i _ => 11 - (RowKit.intOf i).toNat)
  case atStart => exact ⟨0, Nat.zero_le _, rfl, rfl, hid (fun r hr => by simp at hr)⟩
  case round =>
    obtain ⟨j, hj, rfl, hwr, HJ⟩ := hrel
    rw [hwr]
    clear hwr
    by_cases hlt : j < 11
    · have hlt' : j < allR.length := hlt
      obtain ⟨bc, hbc⟩ : ∃ bc, bc = (tab m.kind).contains allR[j] := ⟨_, rfl⟩
      have hin := in_any w3.heap.size AH cH nh (hasL m.K) HNH.out.symm (j : Int) bc (by have e := has_in m.K HKK.out (allR[j]'hlt') (allR_all _ (List.getElem_mem hlt')); have e2 : rix (allR[j]'hlt') = (j : Int) := rix_allR j hlt; rw [e2] at e; exact e.trans hbc.symm) w3 HH3.out (by omega)
      have HIN := hid hin
      obtain ⟨vj, hvj⟩ : ∃ vj, vj = m.num allR[j] := ⟨_, rfl⟩
      have hfo : m.fo allR[j] = (!bc && !decide (vj = 0)) := by unfold M.fo; rw [blank_num m j hlt', ← hbc, ← hvj]
      have HNX : Hid ((bc = true ∨ vj = 0) → m.stillR (j + 1)) := hid fun h0 => stillR_next HJ.out hlt' (by rw [hfo]; rcases h0 with h0 | h0 <;> simp [h0])
      have HNO : Hid (bc = false → vj ≠ 0 → m.foreign = true) := hid fun h1 h2 => by
        rw [foreign_eq]
        have : allR.any m.fo = true := by
          rw [List.any_eq_true]
          exact ⟨_, List.getElem_mem hlt', by rw [hfo, h1, decide_eq_false h2]; rfl⟩
        rw [this]; rfl
      have hgn := numsL_get m j hlt
      obtain ⟨bN, oN, hAN, _, hcN⟩ := HN3.out.cells j hlt
      have hcj := hcN j hlt
      rw [hgn] at hcj
      have hcj2 : w3.cell? ⟨bN, oN + j, none⟩ = some (.int .i64 vj) := by rw [hvj]; exact hcj
      subst hAN
      clear hin hbc hgn hcN hcj hfo hvj
      by_cases hv : vj = 0
      · have HNN := hid (HNX.out (Or.inr hv))
        go_wp2_with fail
        go_roundw
        case rel => exact ⟨j + 1, by omega, by go_num, trivial, HNN⟩
        case measure => simp [RowKit.intOf]; omega
      · have HV := hid hv
        go_wp2_with fail
        refine HIN.out.mono ?_
        rintro e w4 ⟨rfl, hw4⟩
        rw [hw4]
        clear hw4
        cases bc
        · have HNN := hid (HNO.out (by simp) HV.out)
          have HR : Hid (check m = 14) := hid (by rw [HC2.out, if_pos HNN.out])
          go_wp2_with fail
          go_ret
          rw [HR.out]
          exact ⟨rfl, HB3.out⟩
        · have HNN := hid (HNX.out (by simp))
          go_wp2_with fail
          go_roundw
          case rel => exact ⟨j + 1, by omega, by go_num, trivial, HNN⟩
          case measure => simp [RowKit.intOf]; omega
    · obtain rfl : j = 11 := by omega
      have HF : Hid (m.foreign = (m.fo 111 || (m.fo 101 || m.fo 100))) := hid (by
        rw [foreign_eq]
        have : allR.any m.fo = false := by
          rw [List.any_eq_false]
          intro r hr
          have := HJ.out r (by rw [List.take_of_length_le (by decide)]; exact hr)
          simp [this]
        rw [this]; rfl)
      clear HJ hlt hj
      have hin11 := fun b hb => in_any w3.heap.size AH cH nh (hasL m.K) HNH.out.symm 11 b hb w3 HH3.out (by omega)
      have hin12 := fun b hb => in_any w3.heap.size AH cH nh (hasL m.K) HNH.out.symm 12 b hb w3 HH3.out (by omega)
      have hin13 := fun b hb => in_any w3.heap.size AH cH nh (hasL m.K) HNH.out.symm 13 b hb w3 HH3.out (by omega)
      have h11 := has_in m.K HKK.out 111 (by decide)
      have h12 := has_in m.K HKK.out 101 (by decide)
      have h13 := has_in m.K HKK.out 100 (by decide)
      obtain ⟨o1, ho1⟩ : ∃ b, b = (tab m.kind).contains 111 := ⟨_, rfl⟩
      obtain ⟨o2, ho2⟩ : ∃ b, b = (tab m.kind).contains 101 := ⟨_, rfl⟩
      obtain ⟨o3, ho3⟩ : ∃ b, b = (tab m.kind).contains 100 := ⟨_, rfl⟩
      have HI1 := hid (hin11 o1 (by rw [ho1]; exact h11))
      have HI2 := hid (hin12 o2 (by rw [ho2]; exact h12))
      have HI3 := hid (hin13 o3 (by rw [ho3]; exact h13))
      have HFO : Hid (m.foreign = ((!o1 && m.ok) || ((!o2 && !decide (m.es.length = 0)) || (!o3 && !decide (m.d.length = 0))))) := hid (by
        rw [HF.out]
        unfold M.fo M.blank
        rw [← ho1, ← ho2, ← ho3]
        simp)
      have hld3 := HX3.out.load
      have hc14 := HX3.out.c14
      have hc15 := HX3.out.c15
      have hc16 := HX3.out.c16
      have HM := may_any m A c A' c' w3 ((HI.out.below HB3.out).more HB3.out.size) HK.out HS.out
      have HLG := fun (w4 : World) (hb : Below w.heap.size w w4) => long_any m A c A' c' w4 ((HI.out.below hb).more hb.size) HK.out HS.out
      obtain ⟨bm, hbm⟩ : ∃ b, b = m.inRange := ⟨_, rfl⟩
      obtain ⟨bl, hbl⟩ : ∃ b, b = m.longV := ⟨_, rfl⟩
      rw [← hbm] at HM
      rw [← hbl] at HLG
      have HBM := hid (And.intro hbm hbl)
      clear hin11 hin12 hin13 h11 h12 h13 ho1 ho2 ho3 HF hbm hbl
      have HLOG : Hid (m.longV = (decide (1024 < m.es.length) || decide (65536 < m.size))) := hid rfl
      obtain ⟨ok, hok⟩ : ∃ b, b = m.ok := ⟨_, rfl⟩
      rw [← hok] at HM HLG HFO
      have HMM := hid HM
      have HLL := hid HLG
      rw [← hok] at hld3 hc14 ⊢
      have HOK := hid hok
      clear HM HLG hok
      go_upto_region 10 with fail
      go_cut [59] from 31 to 59 (fun v wx => v = .bool m.foreign ∧ Hid (wx = w3))
      case first =>
        cases ok
        · skip
          by_cases e0 : 0 < m.es.length
          · have g2 : ¬ m.es.length = 0 := by omega
            have G2 := hid g2
            clear g2
            go_wp2_with fail
            refine HI2.out.mono ?_
            rintro e w4 ⟨rfl, hw4⟩
            rw [hw4]
            clear hw4
            cases o2
            · have HR : Hid (m.foreign = true) := hid (by rw [HFO.out, decide_eq_false G2.out]; simp)
              go_wp2_with fail
              go_meet
              exact ⟨by rw [HR.out], hid rfl⟩
            · skip
              by_cases d0 : 0 < m.d.length
              · have g3 : ¬ m.d.length = 0 := by omega
                have G3 := hid g3
                clear g3
                go_wp2_with fail
                refine HI3.out.mono ?_
                rintro e w4 ⟨rfl, hw4⟩
                rw [hw4]
                clear hw4
                cases o3
                · have HR : Hid (m.foreign = true) := hid (by rw [HFO.out, decide_eq_false G3.out]; simp)
                  go_wp2_with fail
                  go_meet
                  exact ⟨by rw [HR.out], hid rfl⟩
                · have HR : Hid (m.foreign = false) := hid (by rw [HFO.out, decide_eq_false G2.out]; simp)
                  go_wp2_with fail
                  go_meet
                  exact ⟨by rw [HR.out], hid rfl⟩
              · have g3 : m.d.length = 0 := by omega
                have HR : Hid (m.foreign = false) := hid (by rw [HFO.out, decide_eq_true g3, decide_eq_false G2.out]; simp)
                clear g3
                go_wp2_with fail
                go_meet
                exact ⟨by rw [HR.out], hid rfl⟩
          · have g2 : m.es.length = 0 := by omega
            have G2 := hid g2
            clear g2
            by_cases d0 : 0 < m.d.length
            · have g3 : ¬ m.d.length = 0 := by omega
              have G3 := hid g3
              clear g3
              go_wp2_with fail
              refine HI3.out.mono ?_
              rintro e w4 ⟨rfl, hw4⟩
              rw [hw4]
              clear hw4
              cases o3
              · have HR : Hid (m.foreign = true) := hid (by rw [HFO.out, decide_eq_false G3.out]; simp)
                go_wp2_with fail
                go_meet
                exact ⟨by rw [HR.out], hid rfl⟩
              · have HR : Hid (m.foreign = false) := hid (by rw [HFO.out, decide_eq_true G2.out]; simp)
                go_wp2_with fail
                go_meet
                exact ⟨by rw [HR.out], hid rfl⟩
            · have g3 : m.d.length = 0 := by omega
              have HR : Hid (m.foreign = false) := hid (by rw [HFO.out, decide_eq_true g3, decide_eq_true G2.out]; simp)
              clear g3
              go_wp2_with fail
              go_meet
              exact ⟨by rw [HR.out], hid rfl⟩
        · skip
          go_wp2_with fail
          refine HI1.out.mono ?_
          rintro e w4 ⟨rfl, hw4⟩
          rw [hw4]
          clear hw4
          cases o1
          · have HR : Hid (m.foreign = true) := hid (by rw [HFO.out]; simp)
            go_wp2_with fail
            go_meet
            exact ⟨by rw [HR.out], hid rfl⟩
          · skip
            by_cases e0 : 0 < m.es.length
            · have g2 : ¬ m.es.length = 0 := by omega
              have G2 := hid g2
              clear g2
              go_wp2_with fail
              refine HI2.out.mono ?_
              rintro e w4 ⟨rfl, hw4⟩
              rw [hw4]
              clear hw4
              cases o2
              · have HR : Hid (m.foreign = true) := hid (by rw [HFO.out, decide_eq_false G2.out]; simp)
                go_wp2_with fail
                go_meet
                exact ⟨by rw [HR.out], hid rfl⟩
              · skip
                by_cases d0 : 0 < m.d.length
                · have g3 : ¬ m.d.length = 0 := by omega
                  have G3 := hid g3
                  clear g3
                  go_wp2_with fail
                  refine HI3.out.mono ?_
                  rintro e w4 ⟨rfl, hw4⟩
                  rw [hw4]
                  clear hw4
                  cases o3
                  · have HR : Hid (m.foreign = true) := hid (by rw [HFO.out, decide_eq_false G3.out]; simp)
                    go_wp2_with fail
                    go_meet
                    exact ⟨by rw [HR.out], hid rfl⟩
                  · have HR : Hid (m.foreign = false) := hid (by rw [HFO.out, decide_eq_false G2.out]; simp)
                    go_wp2_with fail
                    go_meet
                    exact ⟨by rw [HR.out], hid rfl⟩
                · have g3 : m.d.length = 0 := by omega
                  have HR : Hid (m.foreign = false) := hid (by rw [HFO.out, decide_eq_true g3, decide_eq_false G2.out]; simp)
                  clear g3
                  go_wp2_with fail
                  go_meet
                  exact ⟨by rw [HR.out], hid rfl⟩
            · have g2 : m.es.length = 0 := by omega
              have G2 := hid g2
              clear g2
              by_cases d0 : 0 < m.d.length
              · have g3 : ¬ m.d.length = 0 := by omega
                have G3 := hid g3
                clear g3
                go_wp2_with fail
                refine HI3.out.mono ?_
                rintro e w4 ⟨rfl, hw4⟩
                rw [hw4]
                clear hw4
                cases o3
                · have HR : Hid (m.foreign = true) := hid (by rw [HFO.out, decide_eq_false G3.out]; simp)
                  go_wp2_with fail
                  go_meet
                  exact ⟨by rw [HR.out], hid rfl⟩
                · have HR : Hid (m.foreign = false) := hid (by rw [HFO.out, decide_eq_true G2.out]; simp)
                  go_wp2_with fail
                  go_meet
                  exact ⟨by rw [HR.out], hid rfl⟩
              · have g3 : m.d.length = 0 := by omega
                have HR : Hid (m.foreign = false) := hid (by rw [HFO.out, decide_eq_true g3, decide_eq_true G2.out]; simp)
                clear g3
                go_wp2_with fail
                go_meet
                exact ⟨by rw [HR.out], hid rfl⟩
      case rest =>
        obtain ⟨rfl, hwx⟩ := hcut
        rw [hwx.out]
        clear hwx HI1 HI2 HI3 HFO
        obtain ⟨bf, hbf⟩ : ∃ b, b = m.foreign := ⟨_, rfl⟩
        rw [← hbf] at HC2 ⊢
        clear hbf
        cases bf
        rotate_left
        · have HR : Hid (check m = 14) := hid (by rw [HC2.out, if_pos rfl])
          go_wp2_with fail
          go_ret
          rw [HR.out]
          exact ⟨rfl, HB3.out⟩
        have HNF : Hid (check m = if m.inRange = false then 3 else if 1024 < m.es.length ∨ 65536 < m.size then 2 else 0) := hid (by rw [HC2.out, if_neg (by decide)])
        go_wp2_with fail
        refine HMM.out.mono ?_
        rintro e w4 ⟨rfl, hb4⟩
        have HB4 := hid (HB3.out.trans (hb4.mono HB3.out.size))
        have hld4 := (HX3.out.below hb4 (row_lt HX3.out.row)).load
        rw [← HOK.out] at hld4
        clear hb4 hld3 hc14 hc15 hc16
        cases bm
        · have HR : Hid (check m = 3) := hid (by rw [HNF.out, if_pos HBM.out.1.symm])
          go_wp2_with fail
          go_ret
          rw [HR.out]
          exact ⟨rfl, HB4.out⟩
        · have HL4 := hid (HLL.out w4 HB4.out)
          go_wp2_with fail
          refine HL4.out.mono ?_
          rintro e w5 ⟨rfl, hb5⟩
          have HB5 := hid (HB4.out.trans (hb5.mono HB4.out.size))
          clear hb5 hld4
          cases bl
          · have HR : Hid (check m = 0) := hid (by
              have e := HBM.out.2
              rw [HLOG.out] at e
              rw [HNF.out, if_neg (by rw [← HBM.out.1]; decide), if_neg (by simpa using e.symm)])
            go_wp2_with fail
            go_ret
            rw [HR.out]
            exact ⟨rfl, HB5.out⟩
          · have HR : Hid (check m = 2) := hid (by
              have e := HBM.out.2
              rw [HLOG.out] at e
              rw [HNF.out, if_neg (by rw [← HBM.out.1]; decide), if_pos (by simpa using e.symm)])
            go_wp2_with fail
            go_ret
            rw [HR.out]
            exact ⟨rfl, HB5.out⟩
end Go.Proofs.YtpigekbfngalbaaDoor.Ms
namespace Go.Proofs.YtpigekbfngalbaaDoor
open Go.RowKit

theorem wp_append_byteN {P : Program} {w : World} {o : Oper} {a : Act} {K : Act → World → Prop} {Q : Exit → Act → World → Prop} (s x : Operand) (t : TypeId)
    (ho : o.op = .call { callee := .builtin .append, args := #[s, x], argTypes := #[t, t] })
    (base : Nat) (e : TypeId) (i : TypeInfo) (ht : P.underlying t = some (.slice e)) (hi : P.info? e = some i) (hz : i.zero = some (.int .u8 0)) (hsize : i.size = 1) (hby : i.bytes = 1)
    (A : Option Addr) (c : Nat) (l : List Nat) (n : Nat) (hln : l.length = n) (hs : a.eval s = .slice A n c) (hown : OwnsB e w base A c l)
    (ad : Addr) (c' : Nat) (y : Nat) (v : Int) (hyv : v = (y : Int)) (hy : y < 256) (hx : a.eval x = .slice (some ad) 1 c') (hc : w.cell? ad = some (.int .u8 v))
    (L : List Nat) (hL : l ++ [y] = L) (hbytes : n + 1 ≤ 140737488355328) (hbase : base ≤ w.heap.size)
    (h : ∀ A2 c2 w', OwnsB e w' base A2 c2 L → Below base w w' → w.grownBy w' (blk A) → (blk A2 = blk A ∨ blk A2 = some w.heap.size) → K (a.put o.dst (.slice A2 (n + 1) c2)) w') : o.wp P a w K Q := by
  subst hln
  subst hL
  subst hyv
  obtain ⟨v', w', hr, h1, h2, _, h4⟩ := run_append_own_at (P := P) w base t o.type e i (.int .u8 0) 1 1 ht hi hz hsize hby rfl (by decide) _ l.length (bytes l) hown.row ad 1 c' [.int .u8 (y : Int)] rfl
    (fun j u hj => by
      match j, hj with
      | 0, hj => simp at hj; subst hj; simpa [Addr.add] using hc) (fun u hu => by simp at hu; subst hu; rfl) (by unfold maxLen; omega) (by omega) hbase
  obtain ⟨A2, c2, rfl⟩ := own_slice h1
  have e2 : bytes l ++ [Value.int .u8 (y : Int)] = bytes (l ++ [y]) := by unfold bytes; simp
  rw [e2] at h1
  rw [ownBlock_slice, ownBlock_slice] at h4
  unfold Oper.wp execOp
  simp only [ho, resolve, invoke, builtin, Sem.run_bind, Sem.run_pure, Result.andThen_ok, List.map_toArray, List.map_cons, List.map_nil, hs, hx, hr]
  refine h A2 c2 w' ⟨fun z hz => ?_, by rw [List.length_append]; exact h1⟩ (below_grown h2 hbase fun k hk => (hown.row.lt k hk).1) (by rw [← ownBlock_slice A l.length c]; exact h2) h4
  rcases List.mem_append.1 hz with hz | hz
  · exact hown.small z hz
  · simp at hz; subst hz; exact hy
theorem step_append_byteN {P : Program} {w : World} {ops : Array Oper} {o : Oper} {a : Act} {K : Act → World → Prop} {Q : Exit → Act → World → Prop} {E : Prop} (hgd : o.guard = none) (s x : Operand) (t : TypeId)
    (ho : o.op = .call { callee := .builtin .append, args := #[s, x], argTypes := #[t, t] })
    (base : Nat) (e : TypeId) (i : TypeInfo) (ht : P.underlying t = some (.slice e)) (hi : P.info? e = some i) (hz : i.zero = some (.int .u8 0)) (hsize : i.size = 1) (hby : i.bytes = 1)
    (A : Option Addr) (c : Nat) (l : List Nat) (n : Nat) (hln : l.length = n) (hs : a.eval s = .slice A n c) (hown : OwnsB e w base A c l)
    (ad : Addr) (c' : Nat) (y : Nat) (v : Int) (hyv : v = (y : Int)) (hy : y < 256) (hx : a.eval x = .slice (some ad) 1 c') (hc : w.cell? ad = some (.int .u8 v))
    (L : List Nat) (hL : l ++ [y] = L) (hbytes : n + 1 ≤ 140737488355328) (hbase : base ≤ w.heap.size)
    (h : ∀ A2 c2 w', OwnsB e w' base A2 c2 L → Below base w w' → w.grownBy w' (blk A) → (blk A2 = blk A ∨ blk A2 = some w.heap.size) → K (a.put o.dst (.slice A2 (n + 1) c2)) w') :
    if Region.wanted o (yielded ops a.tmps) = true then Oper.wp P o a w K Q else E := by
  have hw : Region.wanted o (yielded ops a.tmps) = true := by simp [Region.wanted, hgd]
  rw [if_pos hw]
  exact wp_append_byteN s x t ho base e i ht hi hz hsize hby A c l n hln hs hown ad c' y v hyv hy hx hc L hL hbytes hbase h
theorem OwnsB.readsB {e : TypeId} {w : World} {base c top : Nat} {A : Option Addr} {l : List Nat} (h : OwnsB e w base A c l) (ht : ∀ k, blk A = some k → k < top) : IsBytes w top A l := by
  refine ⟨h.small, fun k hk => ?_⟩
  obtain ⟨b, off, e, _, hc⟩ := h.reads.cells k hk
  exact ⟨b, off, e, ht b (by rw [e]; rfl), hc⟩
end Go.Proofs.YtpigekbfngalbaaDoor
namespace Go.Proofs.YtpigekbfngalbaaDoor
open Go.RowKit
set_option maxRecDepth 100000

/-- what is left of bytes, read up to a place -/
def leftOf (B : List Nat) (at' : Nat) (bad : Bool) : List Nat := if bad = true then [] else B.drop at'
/-- the document's reader at block g: its bytes lie behind it, ahead of top -/
structure RefR (w : World) (g top : Nat) (B : List Nat) (at' : Nat) (bad : Bool) : Prop where
  at_ : ∃ A c, w.heap[g]? = some (.cells #[.slice A B.length c, .int .i64 (at' : Int), .bool bad] 70 (0, 0)) ∧ OwnsB 5 w (g + 1) A c B ∧ (∀ k, blk A = some k → k < top)
  le : at' ≤ B.length
  short : B.length ≤ 1000000
  top_ : g < top ∧ top ≤ w.heap.size

namespace RefR
variable {w w' : World} {g top : Nat} {B : List Nat} {at' : Nat} {bad : Bool}
theorem other {row : Option Nat} (h : RefR w g top B at' bad) (hG : w.grownBy w' row) (hr : ∀ k, row = some k → k < g ∨ top ≤ k) : RefR w' g top B at' bad := by
  obtain ⟨A, c, h1, h2, h3⟩ := h.at_
  refine ⟨⟨A, c, ?_, ⟨h2.small, h2.row.kept hG ?_⟩, h3⟩, h.le, h.short, h.top_.1, Nat.le_trans h.top_.2 hG.size⟩
  · rw [hG.block g (by have := h.top_; omega) (fun e => by have := hr g e.symm; have := h.top_; omega)]
    exact h1
  · rw [ownBlock_slice]
    rcases hb : blk A with _ | k
    · exact .inl rfl
    · refine .inr (fun e => ?_)
      have h4 := hr k e.symm
      have h5 := h3 k hb
      have h6 := h2.blkLt k hb
      omega
theorem below (h : RefR w g top B at' bad) (hb : Below w.heap.size w w') : RefR w' g top B at' bad := h.other (grown_below hb none) (fun k e => by cases e)
theorem belowB {b0 : Nat} (h : RefR w g top B at' bad) (hb : Below b0 w w') (h0 : top ≤ b0) : RefR w' g top B at' bad := by
  obtain ⟨A, c, h1, h2, h3⟩ := h.at_
  refine ⟨⟨A, c, (hb.block g (by have := h.top_; omega)).trans h1, ⟨h2.small, h2.row.1, ?_⟩, h3⟩, h.le, h.short, h.top_.1, Nat.le_trans h.top_.2 hb.size⟩
  rcases h2.row.2 with hn | ⟨g', cap, cur, hv, hb', hh, rest⟩
  · exact .inl hn
  · refine .inr ⟨g', cap, cur, hv, hb', (hb.block g' ?_).trans hh, rest⟩
    have : blk A = some g' := by
      injection hv with hv
      rw [hv]; rfl
    have := h3 g' this
    omega
theorem drewN (h : RefR w g top B at' bad) (n : Nat) : RefR (w.drewN n) g top B at' bad := h.below (below_drewN (Below.refl _ _) n)
theorem cells (h : RefR w g top B at' bad) : ∃ A c, w.cell? ⟨g, 0, none⟩ = some (.slice A B.length c) ∧ w.cell? ⟨g, 1, none⟩ = some (.int .i64 (at' : Int)) ∧ w.cell? ⟨g, 2, none⟩ = some (.bool bad) ∧ IsBytes w top A B ∧ B.length ≤ c := by
  obtain ⟨A, c, h1, h2, h3⟩ := h.at_
  exact ⟨A, c, row_cell h1 0, row_cell h1 1, row_cell h1 2, h2.readsB h3, h2.cap⟩
theorem free (h : RefR w g top B at' bad) (i : Nat) : w.frozen? ⟨g, i, none⟩ = false := by
  obtain ⟨A, c, h1, h2, h3⟩ := h.at_
  exact row_free h1 i
theorem setBad (h : RefR w g top B at' bad) (b : Bool) : RefR (w.setCell ⟨g, 2, none⟩ (.bool b)) g top B at' b ∧ w.grownBy (w.setCell ⟨g, 2, none⟩ (.bool b)) (some g) := by
  obtain ⟨A, c, h1, h2, h3⟩ := h.at_
  have hG := grown_setCell w g 2 (.bool b)
  exact ⟨⟨⟨A, c, row_set h1 2 _, h2.grown hG (fun k hk => by injection hk with hk; omega), h3⟩, h.le, h.short, h.top_.1, Nat.le_trans h.top_.2 hG.size⟩, hG⟩
theorem setAt (h : RefR w g top B at' bad) (a2 : Nat) (ha : a2 ≤ B.length) : RefR (w.setCell ⟨g, 1, none⟩ (.int .i64 (a2 : Int))) g top B a2 bad ∧ w.grownBy (w.setCell ⟨g, 1, none⟩ (.int .i64 (a2 : Int))) (some g) := by
  obtain ⟨A, c, h1, h2, h3⟩ := h.at_
  have hG := grown_setCell w g 1 (.int .i64 (a2 : Int))
  exact ⟨⟨⟨A, c, row_set h1 1 _, h2.grown hG (fun k hk => by injection hk with hk; omega), h3⟩, ha, h.short, h.top_.1, Nat.le_trans h.top_.2 hG.size⟩, hG⟩
end RefR

set_option maxRecDepth 100000 in
set_option maxHeartbeats 400000 in
theorem refLeft_any (g top : Nat) (B : List Nat) (at' : Nat) (bad : Bool) (w : World) (h : RefR w g top B at' bad) :
    Calls Tryd.prog 78 #[.pointer (some ⟨g, 0, none⟩)] w fun e w' => e = .returned (.int .i64 ((leftOf B at' bad).length : Nat)) ∧ ∃ n, w' = w.drewN n := by
  obtain ⟨A, c, hc0, hc1, hc2, _, hc⟩ := h.cells
  have hle := h.le
  have hsh := h.short
  clear h
  cases bad
  · go_enter Tryd.func78, Tryd.ntmps78
    go_wp2
    go_quiet (fail)
    go_wp2
    go_ret
    exact ⟨ret_int (by simp [leftOf]; omega), _, rfl⟩
  · go_enter Tryd.func78, Tryd.ntmps78
    go_wp2
    go_ret
    exact ⟨ret_int (by simp [leftOf]), 0, rfl⟩

end Go.Proofs.YtpigekbfngalbaaDoor
namespace Go.Proofs.YtpigekbfngalbaaDoor
open Go.RowKit
set_option maxRecDepth 100000

theorem u64_wrap' (v : Int) : IntKind.u64.wrap v = v % 18446744073709551616 := by simp [IntKind.wrap, IntKind.signed, IntKind.bits]
theorem leftOf_get (B : List Nat) (at' k : Nat) (h : at' + k < B.length) : (B.drop at').take (k + 1) = (B.drop at').take k ++ [B[at' + k]] := by
  rw [List.take_succ_eq_append_getElem (by rw [List.length_drop]; omega), List.getElem_drop]

set_option maxRecDepth 100000 in
set_option maxHeartbeats 800000 in
theorem refRInt_short (g top : Nat) (B : List Nat) (at' : Nat) (bad : Bool) (w : World) (h : RefR w g top B at' bad) (hl : (leftOf B at' bad).length < 8) :
    Calls Tryd.prog 53 #[.pointer (some ⟨g, 0, none⟩)] w fun e w' => e = .returned (.int .i64 0) ∧ RefR w' g top B at' true ∧ w.grownBy w' (some g) := by
  have HL := hid (refLeft_any g top B at' bad w h)
  have HE := hid hl
  have H := hid h
  obtain ⟨A, c, hc0, hc1, hc2, _, hc⟩ := h.cells
  have hf2 := h.free 2
  clear h
  go_enter Tryd.func53, Tryd.ntmps53
  go_wp2_with fail
  refine HL.out.mono ?_
  rintro e w1 ⟨rfl, n, rfl⟩
  have HB := hid ((H.out.drewN n).setBad true)
  go_wp2_with fail
  go_ret
  exact ⟨rfl, HB.out.1, (grown_drewN (grown_refl _ _) n).trans HB.out.2⟩

set_option maxRecDepth 100000 in
set_option maxHeartbeats 1600000 in
theorem refRInt_long (g top : Nat) (B : List Nat) (at' : Nat) (w : World) (h : RefR w g top B at' false) (hl : at' + 8 ≤ B.length) :
    Calls Tryd.prog 53 #[.pointer (some ⟨g, 0, none⟩)] w fun e w' => e = .returned (.int .i64 (Pk.sgn (Pk.num ((B.drop at').take 8)))) ∧ RefR w' g top B (at' + 8) false ∧ w.grownBy w' (some g) := by
  have HL := hid (refLeft_any g top B at' false w h)
  have hll : (leftOf B at' false).length = B.length - at' := by simp [leftOf]
  rw [hll] at HL
  have H := hid h
  have hle := h.le
  have hsh := h.short
  clear h hll
  go_enter Tryd.func53, Tryd.ntmps53
  go_wp2_with fail
  refine HL.out.mono ?_
  rintro e w1 ⟨rfl, n1, rfl⟩
  go_wp2_with fail
  go_loopw [3, 4] (fun v i wr => ∃ k n m : Nat, k ≤ 8 ∧ i = .int .i64 k ∧ v = .int .u64 (n : Int) ∧ wr = w.drewN m ∧ Hid (n = Pk.num ((B.drop at').take k))) (fun _ i _ => 8 - (RowKit.intOf i).toNat)
  case atStart => exact ⟨0, 0, n1, by omega, rfl, rfl, rfl, hid rfl⟩
  case round =>
    obtain ⟨k, n, m, hk, rfl, rfl, rfl, hs⟩ := hrel
    by_cases hlt : k < 8
    · obtain ⟨A, c, hc0, hc1, hc2, hb, hc⟩ := H.out.cells
      obtain ⟨b, off, rfl, _, hcell⟩ := hb.cells (at' + k) (by omega)
      have hck := hcell (at' + k) (by omega)
      have hb8 := hb.small B[at' + k] (List.getElem_mem _)
      have hn7 : n < 72057594037927936 := by
        rw [hs.out]
        have h1 := Pk.num_lt ((B.drop at').take k) (fun x hx => hb.small x (List.mem_of_mem_drop (List.mem_of_mem_take hx)))
        have h2 : ((B.drop at').take k).length ≤ 7 := by rw [List.length_take]; omega
        have h3 : 256 ^ ((B.drop at').take k).length ≤ 256 ^ 7 := Nat.pow_le_pow_right (by decide) h2
        have h4 : 256 ^ 7 = 72057594037927936 := by decide
        omega
      have hkl : at' + k < B.length := by omega
      have e1 : IntKind.i64.wrap ((at' : Int) + (k : Int)) = (at' : Int) + (k : Int) := IntWalk.i64_in _ (by omega)
      have e2 : IntKind.u64.wrap ((n : Int) * 256) = (n : Int) * 256 := by rw [u64_wrap']; omega
      have e3 : IntKind.u64.wrap ((n : Int) * 256 + (B[at' + k] : Int)) = (n : Int) * 256 + (B[at' + k] : Int) := by rw [u64_wrap']; omega
      have e4 : ((at' : Int) + (k : Int)).toNat = at' + k := by omega
      have e5 : 0 ≤ (at' : Int) + (k : Int) := by omega
      clear hcell hb
      go_wp2
      go_quiet (fail)
      clear e1 e2 e3 e4 e5
      go_wp2
      go_roundw
      case rel => exact ⟨k + 1, n * 256 + B[at' + k], _, by omega, by go_num, by go_num, rfl, by
        show _ = _
        rw [leftOf_get B at' k hkl, Pk.num_snoc, ← hs.out]⟩
      case measure => simp [RowKit.intOf] <;> omega
    · obtain rfl : k = 8 := by omega
      have hw := H.out.drewN m
      obtain ⟨A, c, hc0, hc1, hc2, hb, hc⟩ := hw.cells
      have hf1 := hw.free 1
      have HA : Hid (RefR ((w.drewN m).setCell ⟨g, 1, none⟩ (.int .i64 ((at' : Int) + 8))) g top B (at' + 8) false ∧ (w.drewN m).grownBy ((w.drewN m).setCell ⟨g, 1, none⟩ (.int .i64 ((at' : Int) + 8))) (some g)) := hw.setAt (at' + 8) hl
      have hn : n < 18446744073709551616 := by
        rw [hs.out]
        exact Pk.take_num_lt _ (fun x hx => hb.small x (List.mem_of_mem_drop hx))
      have hv : wrap64 (n : Int) = Pk.sgn (Pk.num ((B.drop at').take 8)) := by rw [wrap64_sgn n hn, hs.out]
      have HV := hid hv
      clear hw hb hn hv
      go_wp2
      go_ret
      exact ⟨ret_int HV.out, HA.out.1, (grown_drewN (grown_refl _ _) m).trans HA.out.2⟩
end Go.Proofs.YtpigekbfngalbaaDoor
namespace Go.Proofs.YtpigekbfngalbaaDoor
open Go.RowKit
set_option maxRecDepth 100000

/-- the document's reader as a reader -/
def stOf (B : List Nat) (at' : Nat) (bad : Bool) : Pk.St := ⟨leftOf B at' bad, bad⟩

theorem stOf_short (B : List Nat) (at' : Nat) (bad : Bool) (hl : (leftOf B at' bad).length < 8) : Pk.rdInt (stOf B at' bad) = (0, Pk.gone) := by
  unfold Pk.rdInt stOf; rw [if_pos hl]
theorem stOf_long (B : List Nat) (at' : Nat) (hl : at' + 8 ≤ B.length) : Pk.rdInt (stOf B at' false) = (Pk.sgn (Pk.num ((B.drop at').take 8)), stOf B (at' + 8) false) := by
  unfold Pk.rdInt stOf leftOf
  rw [if_neg (by simp; omega)]
  simp
theorem stOf_cases (B : List Nat) (at' : Nat) (bad : Bool) : (leftOf B at' bad).length < 8 ∨ (bad = false ∧ at' + 8 ≤ B.length) := by
  cases bad
  · by_cases h : at' + 8 ≤ B.length
    · exact .inr ⟨rfl, h⟩
    · left; simp [leftOf]; omega
  · left; simp [leftOf]
theorem stOf_bad (B : List Nat) (at' : Nat) : stOf B at' true = Pk.gone := rfl

set_option maxRecDepth 100000 in
set_option maxHeartbeats 400000 in
theorem refRInt_any (g top : Nat) (B : List Nat) (at' : Nat) (bad : Bool) (w : World) (h : RefR w g top B at' bad) :
    Calls Tryd.prog 53 #[.pointer (some ⟨g, 0, none⟩)] w fun e w' => ∃ a2 b2, e = .returned (.int .i64 (Pk.rdInt (stOf B at' bad)).1) ∧ RefR w' g top B a2 b2 ∧ stOf B a2 b2 = (Pk.rdInt (stOf B at' bad)).2 ∧ w.grownBy w' (some g) := by
  rcases stOf_cases B at' bad with hl | ⟨rfl, hl⟩
  · refine (refRInt_short g top B at' bad w h hl).mono fun e w' ⟨he, hR, hG⟩ => ⟨at', true, ?_, hR, ?_, hG⟩
    · rw [stOf_short B at' bad hl]; exact he
    · rw [stOf_short B at' bad hl]; rfl
  · refine (refRInt_long g top B at' w h hl).mono fun e w' ⟨he, hR, hG⟩ => ⟨at' + 8, false, ?_, hR, ?_, hG⟩
    · rw [stOf_long B at' hl]; exact he
    · rw [stOf_long B at' hl]

end Go.Proofs.YtpigekbfngalbaaDoor
namespace Go.Proofs.YtpigekbfngalbaaDoor
open Go.RowKit

set_option maxHeartbeats 400000 in
theorem refEnd_any (g top : Nat) (B : List Nat) (at' : Nat) (bad : Bool) (w : World) (h : RefR w g top B at' bad) :
    Calls Tryd.prog 81 #[.pointer (some ⟨g, 0, none⟩)] w fun e w' => e = .returned (.int .i64 (endOf ⟨leftOf B at' bad, bad⟩)) ∧ ∃ n, w' = w.drewN n := by
  obtain ⟨A, c, hc0, hc1, hc2, _, hc⟩ := h.cells
  have HL := hid (refLeft_any g top B at' bad w h)
  clear h
  cases bad
  · by_cases hl : 0 < (leftOf B at' false).length
    · have HE := hid hl
      go_enter Tryd.func81, Tryd.ntmps81
      go_wp2_with fail
      refine HL.out.mono ?_
      rintro e w1 ⟨rfl, n, rfl⟩
      go_wp2_with fail
      go_ret
      exact ⟨ret_int (by simp [endOf, HE.out]), n, rfl⟩
    · have hl' : (leftOf B at' false).length = 0 := by omega
      have HE := hid hl'
      clear hl'
      go_enter Tryd.func81, Tryd.ntmps81
      go_wp2_with fail
      refine HL.out.mono ?_
      rintro e w1 ⟨rfl, n, rfl⟩
      go_wp2_with fail
      go_ret
      exact ⟨ret_int (by simp [endOf, HE.out]), n, rfl⟩
  · go_enter Tryd.func81, Tryd.ntmps81
    go_wp2_with fail
    go_ret
    exact ⟨ret_int (by simp [endOf]), 0, rfl⟩
end Go.Proofs.YtpigekbfngalbaaDoor
