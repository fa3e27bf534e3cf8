/- The walk through the document's answer for messages: is one too long? and Check. -/
import Derived.Test.YtmaebemhephcmaaDoorMsRefB
import Derived.Test.YtmaebemhephcmaaDoorMsLaw
import Derived.Deep.RegionHeld3
import Derived.Deep.CutRange
namespace Go.Proofs.YtmaebemhephcmaaDoor.Ms
open Go.RowKit
set_option maxRecDepth 100000
set_option linter.unusedVariables false
attribute [local go_sem ↓] loadAt_msg storeAt_msg

def M.longV (m : M) : Bool := decide (1024 < m.es.length) || decide (65536 < m.size)
theorem size_has (m : M) (hk : 1 ≤ m.K ∧ m.K ≤ 11) : m.size = (24 * m.es.length + weigh m.es) + m.d.length + 8 * (3 + (hasL m.K).length) := by
  have h1 := (has_len m.K hk).1
  have h2 : head.length = 3 := rfl
  have h3 : (tab m.kind).length = (tab m.K.toNat).length := rfl
  unfold M.size
  rw [List.length_append, h2, h3, ← h1]; omega
theorem longV_of {m : M} (h : 1024 < m.es.length ∨ 65536 < m.size) : m.longV = true := by
  unfold M.longV
  rcases h with h | h
  · rw [decide_eq_true h]; rfl
  · rw [decide_eq_true h]; simp
set_option maxHeartbeats 6400000 in
theorem long_any (m : M) (A : Option Addr) (c : Nat) (A' : Option Addr) (c' : Nat) (w : World) (h : Is w w.heap.size m A c A' c') (hk : m.isKind = true) (hs : Small m) :
    Calls Tryd.prog 41 #[.agg #[.int .i64 m.K, .int .i64 m.F, .int .i64 m.T, .int .i64 m.g, .int .i64 m.t, .int .i64 m.i, .int .i64 m.p, .int .i64 m.c, .int .i64 m.r, .int .i64 m.x, .int .i64 m.a, .int .i64 m.b, .int .i64 m.v, .int .i64 m.s, .bool m.ok, .slice A m.es.length c, .slice A' m.d.length c']] w fun e w' => e = .returned (.bool m.longV) ∧ Below w.heap.size w w' := by
  have hkk : 1 ≤ m.K ∧ m.K ≤ 11 := by unfold M.isKind at hk; simp at hk; exact hk
  have HSZ := hid (size_has m hkk)
  have HKK := hid hkk
  have HI := hid h
  have hes := hs.es
  have hdd := hs.d
  obtain ⟨w1, hw1⟩ : ∃ w1, w1 = w.alloc (.cells #[.int .i64 m.K, .int .i64 m.F, .int .i64 m.T, .int .i64 m.g, .int .i64 m.t, .int .i64 m.i, .int .i64 m.p, .int .i64 m.c, .int .i64 m.r, .int .i64 m.x, .int .i64 m.a, .int .i64 m.b, .int .i64 m.v, .int .i64 m.s, .bool m.ok, .slice A m.es.length c, .slice A' m.d.length c'] 25) := ⟨_, rfl⟩
  have hbx : Bx w1 w.heap.size m A c A' c' := ⟨by rw [hw1]; exact heap_alloc_new w _⟩
  have hb1 : Below w.heap.size w w1 := by rw [hw1]; exact (Below.refl _ w).alloc (Nat.le_refl _) _
  have HX1 := hid (And.intro hbx hb1)
  have hnl : (hasL m.K).length ≤ 7 := by rw [(has_len m.K hkk).1]; exact tab_length _
  have HNL := hid hnl
  clear h hk hs hkk hbx hb1 hnl
  by_cases f1 : 1024 < m.es.length
  · have HR : Hid (m.longV = true) := hid (longV_of (Or.inl f1))
    go_enter Tryd.func41, Tryd.ntmps41
    go_wp2_with fail
    go_ret
    rw [HR.out, ← hw1]
    exact ⟨rfl, HX1.out.2⟩
  by_cases f2 : 65536 < m.d.length
  · have HR : Hid (m.longV = true) := hid (longV_of (Or.inr (by rw [HSZ.out]; omega)))
    go_enter Tryd.func41, Tryd.ntmps41
    go_wp2_with fail
    go_ret
    rw [HR.out, ← hw1]
    exact ⟨rfl, HX1.out.2⟩
  have hc15 := HX1.out.1.c15
  have hc16 := HX1.out.1.c16
  have hc0 := HX1.out.1.c0
  go_enter Tryd.func41, Tryd.ntmps41
  go_wp2_with fail
  rw [← hw1]
  clear hw1
  go_loopw [3] (fun i wr => ∃ j : Nat, j ≤ m.es.length ∧ i = .int .i64 (j : Int) ∧ wr = w1 ∧ Hid (∀ (n : Nat) (h : n < m.es.length), n < j → m.es[n].d.length ≤ 65536)) (fun i _ => m.es.length - (intOf i).toNat)
  case atStart => exact ⟨0, Nat.zero_le _, rfl, rfl, hid fun n _ h => absurd h (Nat.not_lt_zero _)⟩
  case round =>
    obtain ⟨j, hj, rfl, hwr, HJ⟩ := hrel
    rw [hwr]
    clear hwr
    by_cases hlt : j < m.es.length
    · obtain ⟨b, off, hA, hb, hcs⟩ := HI.out.es.cells j hlt
      obtain ⟨A3, c3, e0, e1, e2, _, h5, _⟩ := (hcs j hlt).below hb HX1.out.2
      have HLG : Hid (65536 < m.es[j].d.length → m.longV = true) := hid fun h => longV_of (Or.inr (by have := weigh_mem (List.getElem_mem hlt); rw [HSZ.out]; omega))
      have HJ2 : Hid (m.es[j].d.length ≤ 65536 → ∀ (n : Nat) (h : n < m.es.length), n < j + 1 → m.es[n].d.length ≤ 65536) := hid (by
        intro h0 n hn hnj
        by_cases e : n = j
        · subst e; exact h0
        · exact HJ.out n hn (by omega))
      subst hA
      unfold maxLen at h5
      clear hcs hb HJ
      generalize m.es[j] = x at e0 e1 e2 h5 HLG HJ2
      by_cases g : 65536 < x.d.length
      · have HN := hid (HLG.out g)
        go_wp2_with fail
        go_ret
        rw [HN.out]
        exact ⟨rfl, HX1.out.2⟩
      · have HN := hid (HJ2.out (by omega))
        go_wp2_with fail
        go_roundw
        case rel => exact ⟨j + 1, by omega, by go_num, trivial, HN⟩
        case measure => simp [intOf]; omega
    · obtain rfl : j = m.es.length := by omega
      go_wp2_with fail
      go_loopw [4, 5] (fun s i wq => ∃ j : Nat, j ≤ m.es.length ∧ i = .int .i64 (j : Int) ∧ s = .int .i64 ((24 * j + weigh (m.es.take j) : Nat) : Int) ∧ wq = w1 ∧ Hid (weigh (m.es.take j) ≤ 65536 * j)) (fun _ i _ => m.es.length - (intOf i).toNat)
      case atStart => exact ⟨0, Nat.zero_le _, rfl, rfl, rfl, hid (by simp [weigh])⟩
      case round =>
        obtain ⟨j, hj, rfl, rfl, hwr, HW⟩ := hrel
        rw [hwr]
        clear hwr
        by_cases hlt : j < m.es.length
        · obtain ⟨b, off, hA, hb, hcs⟩ := HI.out.es.cells j hlt
          obtain ⟨A3, c3, e0, e1, e2, _, h5, _⟩ := (hcs j hlt).below hb HX1.out.2
          have h6 := HJ.out j hlt hlt
          have hwt := weigh_take m.es j hlt
          have hww := HW.out
          obtain ⟨q, hq⟩ : ∃ q, q = 24 * j + weigh (m.es.take j) := ⟨_, rfl⟩
          have hq2 : q ≤ 100000000 := by omega
          have HQ : Hid (24 * (j + 1) + weigh (m.es.take (j + 1)) = q + 24 + m.es[j].d.length ∧ weigh (m.es.take (j + 1)) ≤ 65536 * (j + 1)) := hid (by omega)
          rw [← hq]
          subst hA
          clear hcs hb hwt hww hq
          generalize m.es[j] = x at e0 e1 e2 h5 h6 HQ
          go_wp2_with fail
          go_roundw
          case rel => exact ⟨j + 1, by omega, by go_num, by rw [HQ.out.1]; congr 1, trivial, hid HQ.out.2⟩
          case measure => simp [intOf]; omega
        · obtain rfl : j = m.es.length := by omega
          have hww := HW.out
          rw [List.take_length] at hww ⊢
          obtain ⟨q, hq⟩ : ∃ q, q = 24 * m.es.length + weigh m.es := ⟨_, rfl⟩
          have hq2 : q ≤ 100000000 := by omega
          rw [← hq]
          have HQ := hid hq
          clear hww hq
          have HSZ2 : Hid (∀ nh : Nat, (hasL m.K).length = nh → m.size = q + m.d.length + 8 * (3 + nh)) := hid fun nh h => by rw [HSZ.out, HQ.out, h]
          have HLV : Hid (∀ nh : Nat, (hasL m.K).length = nh → m.longV = decide (65536 < q + m.d.length + 8 * (3 + nh))) := hid fun nh h => by
            unfold M.longV
            rw [decide_eq_false f1, ← HSZ2.out nh h]; rfl
          have hnl2 := HNL.out
          obtain ⟨nh, hnh⟩ : ∃ nh, nh = (hasL m.K).length := ⟨_, rfl⟩
          rw [← hnh] at hnl2
          have hh := has_any m.K w1.drew
          rw [← hnh] at hh
          have HH := hid hh
          have HNH := hid hnh
          have HKC : Hid (∀ wz, Below w1.heap.size w1.drew wz → wz.cell? ⟨w.heap.size, 16, none⟩ = some (.slice A' m.d.length c') ∧ wz.cell? ⟨w.heap.size, 0, none⟩ = some (.int .i64 m.K)) := hid fun wz hb => ⟨(hb.cell (p := ⟨w.heap.size, 16, none⟩) (row_lt HX1.out.1.row)).trans HX1.out.1.c16, (hb.cell (p := ⟨w.heap.size, 0, none⟩) (row_lt HX1.out.1.row)).trans HX1.out.1.c0⟩
          have hk16 : w1.drew.cell? ⟨w.heap.size, 16, none⟩ = some (.slice A' m.d.length c') := hc16
          have hk0 : w1.drew.cell? ⟨w.heap.size, 0, none⟩ = some (.int .i64 m.K) := hc0
          clear hlt hj hh hnh
          go_wp2_with fail
          go_region_held3 (fun w' => w'.cell? ⟨w.heap.size, 16, none⟩ = some (.slice A' m.d.length c') ∧ w'.cell? ⟨w.heap.size, 0, none⟩ = some (.int .i64 m.K))
            (first | exact HK5.out.1 | exact ⟨hk16, hk0⟩ | fail)
            (first
              | (go_at_call 37; refine HH.out.mono ?_; rintro e w5 ⟨AH, cH, rfl, _, _, hb5⟩; have HK5 := hid (And.intro (HKC.out w5 hb5) hb5); clear hb5))
          all_goals
            have HB5 : Hid (Below w.heap.size w w5) := hid (HX1.out.2.trans (((Below.refl _ w1).drew.trans HK5.out.2).mono HX1.out.2.size))
            clear hk16 hk0
            go_wp2_with fail
            go_ret
            refine ⟨?_, HB5.out⟩
            rw [HLV.out nh HNH.out.symm]
            refine congrArg (fun b => Ending.returned (.bool b)) ?_
            have e1 : ∀ x : Int, -9223372036854775808 ≤ x → x ≤ 9223372036854775807 → IntKind.i64.wrap x = x := by
              intro x h1 h2
              simp [IntKind.wrap, IntKind.signed, IntKind.bits]
              omega
            rw [e1 (3 + (nh : Int)) (by omega) (by omega), e1 (8 * (3 + (nh : Int))) (by omega) (by omega), e1 ((q : Int) + (m.d.length : Int)) (by omega) (by omega), e1 (((q : Int) + (m.d.length : Int)) + 8 * (3 + (nh : Int))) (by omega) (by omega)]
            rw [decide_eq_decide]
            omega

/-- a foreign field that says something -/
def M.fo (m : M) (r : Nat) : Bool := !(tab m.kind).contains r && !m.blank r
theorem foreign_eq (m : M) : m.foreign = (allR.any m.fo || (m.fo 111 || (m.fo 101 || m.fo 100))) := by
  have h : ∀ p : Nat → Bool, all.any p = (allR.any p || (p 111 || (p 101 || p 100))) := by
    intro p
    simp only [all, allR, List.any_cons, List.any_nil, Bool.or_false]
    ac_rfl
  exact h m.fo
def M.stillR (m : M) (j : Nat) : Prop := ∀ r ∈ allR.take j, m.fo r = false
theorem stillR_next {m : M} {j : Nat} (h : m.stillR j) (hj : j < allR.length) (hb : m.fo allR[j] = false) : m.stillR (j + 1) := by
  intro r hr
  rw [List.take_succ_eq_append_getElem hj] at hr
  rcases List.mem_append.1 hr with hr | hr
  · exact h r hr
  · obtain rfl := List.mem_singleton.1 hr; exact hb
theorem blank_num (m : M) (j : Nat) (h : j < allR.length) : m.blank allR[j] = decide (m.num allR[j] = 0) := by
  have key : ∀ r ∈ allR, r ≠ 111 ∧ r ≠ 101 ∧ r ≠ 100 := by decide
  have := key _ (List.getElem_mem h)
  unfold M.blank
  rw [if_neg this.1, if_neg this.2.1, if_neg this.2.2]
set_option maxHeartbeats 6400000 in
theorem rcheck_any (m : M) (A : Option Addr) (c : Nat) (A' : Option Addr) (c' : Nat) (w : World) (h : Is w w.heap.size m A c A' c') (hs : Small m) :
    Calls Tryd.prog 14 #[.agg #[.int .i64 m.K, .int .i64 m.F, .int .i64 m.T, .int .i64 m.g, .int .i64 m.t, .int .i64 m.i, .int .i64 m.p, .int .i64 m.c, .int .i64 m.r, .int .i64 m.x, .int .i64 m.a, .int .i64 m.b, .int .i64 m.v, .int .i64 m.s, .bool m.ok, .slice A m.es.length c, .slice A' m.d.length c']] w fun e w' => e = .returned (.int .i64 ((check m : Nat) : Int)) ∧ Below w.heap.size w w' := by
  have HI := hid h
  have HS := hid hs
  have hesl := hs.es
  have hdl := hs.d
  have HCK : Hid (check m = if m.isKind = false then 13 else if m.foreign = true then 14 else if m.inRange = false then 3 else if 1024 < m.es.length ∨ 65536 < m.size then 2 else 0) := rfl
  obtain ⟨w1, hw1⟩ : ∃ w1, w1 = w.alloc (.cells #[.int .i64 m.K, .int .i64 m.F, .int .i64 m.T, .int .i64 m.g, .int .i64 m.t, .int .i64 m.i, .int .i64 m.p, .int .i64 m.c, .int .i64 m.r, .int .i64 m.x, .int .i64 m.a, .int .i64 m.b, .int .i64 m.v, .int .i64 m.s, .bool m.ok, .slice A m.es.length c, .slice A' m.d.length c'] 25) := ⟨_, rfl⟩
  have hbx : Bx w1 w.heap.size m A c A' c' := ⟨by rw [hw1]; exact heap_alloc_new w _⟩
  have hb1 : Below w.heap.size w w1 := by rw [hw1]; exact (Below.refl _ w).alloc (Nat.le_refl _) _
  have HX1 := hid (And.intro hbx hb1)
  have HH := hid (has_any m.K w1)
  clear h hs hbx hb1
  go_enter Tryd.func14, Tryd.ntmps14
  go_wp2_with fail
  rw [← hw1]
  clear hw1
  refine HH.out.mono ?_
  rintro e w2 ⟨AH, cH, rfl, hh2, hcH, hb2⟩
  have HB2 := hid (HX1.out.2.trans (hb2.mono HX1.out.2.size))
  have HX2 := hid (HX1.out.1.below hb2 (row_lt HX1.out.1.row))
  have HH2 := hid hh2
  obtain ⟨nh, hnh⟩ : ∃ nh, nh = (hasL m.K).length := ⟨_, rfl⟩
  rw [← hnh] at hcH ⊢
  have HNH := hid hnh
  have hld2 := HX2.out.load
  clear hb2 hh2 hnh HH
  by_cases hk : m.isKind = true
  rotate_left
  · have hkk : ¬ (1 ≤ m.K ∧ m.K ≤ 11) := fun hh => hk (by unfold M.isKind; simp; exact hh)
    have hn0 : nh = 0 := by rw [HNH.out]; unfold hasL; rw [if_neg hkk]; rfl
    have HR : Hid (check m = 13) := hid (by rw [HCK.out, if_pos (by simpa using hk)])
    clear hk hkk HNH
    subst hn0
    go_wp2_with fail
    go_ret
    rw [HR.out]
    exact ⟨rfl, HB2.out⟩
  have hkk : 1 ≤ m.K ∧ m.K ≤ 11 := by unfold M.isKind at hk; simp at hk; exact hk
  have hn1 : 1 ≤ nh ∧ nh ≤ 7 := by rw [HNH.out]; exact ⟨(has_len m.K hkk).2, by rw [(has_len m.K hkk).1]; exact tab_length _⟩
  have HKK := hid hkk
  have HK := hid hk
  have HC2 : Hid (check m = if m.foreign = true then 14 else if m.inRange = false then 3 else if 1024 < m.es.length ∨ 65536 < m.size then 2 else 0) := hid (by rw [HCK.out, if_neg (by rw [hk]; decide)])
  obtain ⟨hn1a, hn1b⟩ := hn1
  have HNB := hid (numbers_any m A c A' c' w2 HI.out.num)
  clear hk hkk HCK
  go_wp2_with fail
  refine HNB.out.mono ?_
  rintro e w3 ⟨AN, rfl, hn3, hb3⟩
  have HB3 := hid (HB2.out.trans (hb3.mono HB2.out.size))
  have HX3 := hid (HX2.out.below hb3 (row_lt HX2.out.row))
  have HN3 := hid hn3
  have HH3 := hid ((HH2.out.below hb3).more hb3.size)
  clear hb3 hn3 HNB hld2
  go_wp2_with fail
  go_loopw [5] (fun i wr => ∃ j : Nat, j ≤ 11 ∧ i = .int .i64 (j : Int) ∧ wr = w3 ∧ Hid (m.stillR j)) (fun i _ => 11 - (intOf i).toNat)
  case atStart => exact ⟨0, Nat.zero_le _, rfl, rfl, hid (fun r hr => by simp at hr)⟩
  case round =>
    obtain ⟨j, hj, rfl, hwr, HJ⟩ := hrel
    rw [hwr]
    clear hwr
    by_cases hlt : j < 11
    · have hlt' : j < allR.length := hlt
      obtain ⟨bc, hbc⟩ : ∃ bc, bc = (tab m.kind).contains allR[j] := ⟨_, rfl⟩
      have hin := in_any w3.heap.size AH cH nh (hasL m.K) HNH.out.symm (j : Int) bc (by have e := has_in m.K HKK.out (allR[j]'hlt') (allR_all _ (List.getElem_mem hlt')); have e2 : rix (allR[j]'hlt') = (j : Int) := rix_allR j hlt; rw [e2] at e; exact e.trans hbc.symm) w3 HH3.out (by omega)
      have HIN := hid hin
      obtain ⟨vj, hvj⟩ : ∃ vj, vj = m.num allR[j] := ⟨_, rfl⟩
      have hfo : m.fo allR[j] = (!bc && !decide (vj = 0)) := by unfold M.fo; rw [blank_num m j hlt', ← hbc, ← hvj]
      have HNX : Hid ((bc = true ∨ vj = 0) → m.stillR (j + 1)) := hid fun h0 => stillR_next HJ.out hlt' (by rw [hfo]; rcases h0 with h0 | h0 <;> simp [h0])
      have HNO : Hid (bc = false → vj ≠ 0 → m.foreign = true) := hid fun h1 h2 => by
        rw [foreign_eq]
        have : allR.any m.fo = true := by
          rw [List.any_eq_true]
          exact ⟨_, List.getElem_mem hlt', by rw [hfo, h1, decide_eq_false h2]; rfl⟩
        rw [this]; rfl
      have hgn := numsL_get m j hlt
      obtain ⟨bN, oN, hAN, _, hcN⟩ := HN3.out.cells j hlt
      have hcj := hcN j hlt
      rw [hgn] at hcj
      have hcj2 : w3.cell? ⟨bN, oN + j, none⟩ = some (.int .i64 vj) := by rw [hvj]; exact hcj
      subst hAN
      clear hin hbc hgn hcN hcj hfo hvj
      by_cases hv : vj = 0
      · have HNN := hid (HNX.out (Or.inr hv))
        go_wp2_with fail
        go_roundw
        case rel => exact ⟨j + 1, by omega, by go_num, trivial, HNN⟩
        case measure => simp [intOf]; omega
      · have HV := hid hv
        go_wp2_with fail
        refine HIN.out.mono ?_
        rintro e w4 ⟨rfl, hw4⟩
        rw [hw4]
        clear hw4
        cases bc
        · have HNN := hid (HNO.out (by simp) HV.out)
          have HR : Hid (check m = 14) := hid (by rw [HC2.out, if_pos HNN.out])
          go_wp2_with fail
          go_ret
          rw [HR.out]
          exact ⟨rfl, HB3.out⟩
        · have HNN := hid (HNX.out (by simp))
          go_wp2_with fail
          go_roundw
          case rel => exact ⟨j + 1, by omega, by go_num, trivial, HNN⟩
          case measure => simp [intOf]; omega
    · obtain rfl : j = 11 := by omega
      have HF : Hid (m.foreign = (m.fo 111 || (m.fo 101 || m.fo 100))) := hid (by
        rw [foreign_eq]
        have : allR.any m.fo = false := by
          rw [List.any_eq_false]
          intro r hr
          have := HJ.out r (by rw [List.take_of_length_le (by decide)]; exact hr)
          simp [this]
        rw [this]; rfl)
      clear HJ hlt hj
      have hin11 := fun b hb => in_any w3.heap.size AH cH nh (hasL m.K) HNH.out.symm 11 b hb w3 HH3.out (by omega)
      have hin12 := fun b hb => in_any w3.heap.size AH cH nh (hasL m.K) HNH.out.symm 12 b hb w3 HH3.out (by omega)
      have hin13 := fun b hb => in_any w3.heap.size AH cH nh (hasL m.K) HNH.out.symm 13 b hb w3 HH3.out (by omega)
      have h11 := has_in m.K HKK.out 111 (by decide)
      have h12 := has_in m.K HKK.out 101 (by decide)
      have h13 := has_in m.K HKK.out 100 (by decide)
      obtain ⟨o1, ho1⟩ : ∃ b, b = (tab m.kind).contains 111 := ⟨_, rfl⟩
      obtain ⟨o2, ho2⟩ : ∃ b, b = (tab m.kind).contains 101 := ⟨_, rfl⟩
      obtain ⟨o3, ho3⟩ : ∃ b, b = (tab m.kind).contains 100 := ⟨_, rfl⟩
      have HI1 := hid (hin11 o1 (by rw [ho1]; exact h11))
      have HI2 := hid (hin12 o2 (by rw [ho2]; exact h12))
      have HI3 := hid (hin13 o3 (by rw [ho3]; exact h13))
      have HFO : Hid (m.foreign = ((!o1 && m.ok) || ((!o2 && !decide (m.es.length = 0)) || (!o3 && !decide (m.d.length = 0))))) := hid (by
        rw [HF.out]
        unfold M.fo M.blank
        rw [← ho1, ← ho2, ← ho3]
        simp)
      have hld3 := HX3.out.load
      have hc14 := HX3.out.c14
      have hc15 := HX3.out.c15
      have hc16 := HX3.out.c16
      have HM := may_any m A c A' c' w3 ((HI.out.below HB3.out).more HB3.out.size) HK.out HS.out
      have HLG := fun (w4 : World) (hb : Below w.heap.size w w4) => long_any m A c A' c' w4 ((HI.out.below hb).more hb.size) HK.out HS.out
      obtain ⟨bm, hbm⟩ : ∃ b, b = m.inRange := ⟨_, rfl⟩
      obtain ⟨bl, hbl⟩ : ∃ b, b = m.longV := ⟨_, rfl⟩
      rw [← hbm] at HM
      rw [← hbl] at HLG
      have HBM := hid (And.intro hbm hbl)
      clear hin11 hin12 hin13 h11 h12 h13 ho1 ho2 ho3 HF hbm hbl
      have HLOG : Hid (m.longV = (decide (1024 < m.es.length) || decide (65536 < m.size))) := hid rfl
      obtain ⟨ok, hok⟩ : ∃ b, b = m.ok := ⟨_, rfl⟩
      rw [← hok] at HM HLG HFO
      have HMM := hid HM
      have HLL := hid HLG
      rw [← hok] at hld3 hc14 ⊢
      have HOK := hid hok
      clear HM HLG hok
      go_upto_region 10 with fail
      go_cut [59] from 31 to 59 (fun v wx => v = .bool m.foreign ∧ Hid (wx = w3))
      case first =>
        cases ok
        · skip
          by_cases e0 : 0 < m.es.length
          · have g2 : ¬ m.es.length = 0 := by omega
            have G2 := hid g2
            clear g2
            go_wp2_with fail
            refine HI2.out.mono ?_
            rintro e w4 ⟨rfl, hw4⟩
            rw [hw4]
            clear hw4
            cases o2
            · have HR : Hid (m.foreign = true) := hid (by rw [HFO.out, decide_eq_false G2.out]; simp)
              go_wp2_with fail
              go_meet
              exact ⟨by rw [HR.out], hid rfl⟩
            · skip
              by_cases d0 : 0 < m.d.length
              · have g3 : ¬ m.d.length = 0 := by omega
                have G3 := hid g3
                clear g3
                go_wp2_with fail
                refine HI3.out.mono ?_
                rintro e w4 ⟨rfl, hw4⟩
                rw [hw4]
                clear hw4
                cases o3
                · have HR : Hid (m.foreign = true) := hid (by rw [HFO.out, decide_eq_false G3.out]; simp)
                  go_wp2_with fail
                  go_meet
                  exact ⟨by rw [HR.out], hid rfl⟩
                · have HR : Hid (m.foreign = false) := hid (by rw [HFO.out, decide_eq_false G2.out]; simp)
                  go_wp2_with fail
                  go_meet
                  exact ⟨by rw [HR.out], hid rfl⟩
              · have g3 : m.d.length = 0 := by omega
                have HR : Hid (m.foreign = false) := hid (by rw [HFO.out, decide_eq_true g3, decide_eq_false G2.out]; simp)
                clear g3
                go_wp2_with fail
                go_meet
                exact ⟨by rw [HR.out], hid rfl⟩
          · have g2 : m.es.length = 0 := by omega
            have G2 := hid g2
            clear g2
            by_cases d0 : 0 < m.d.length
            · have g3 : ¬ m.d.length = 0 := by omega
              have G3 := hid g3
              clear g3
              go_wp2_with fail
              refine HI3.out.mono ?_
              rintro e w4 ⟨rfl, hw4⟩
              rw [hw4]
              clear hw4
              cases o3
              · have HR : Hid (m.foreign = true) := hid (by rw [HFO.out, decide_eq_false G3.out]; simp)
                go_wp2_with fail
                go_meet
                exact ⟨by rw [HR.out], hid rfl⟩
              · have HR : Hid (m.foreign = false) := hid (by rw [HFO.out, decide_eq_true G2.out]; simp)
                go_wp2_with fail
                go_meet
                exact ⟨by rw [HR.out], hid rfl⟩
            · have g3 : m.d.length = 0 := by omega
              have HR : Hid (m.foreign = false) := hid (by rw [HFO.out, decide_eq_true g3, decide_eq_true G2.out]; simp)
              clear g3
              go_wp2_with fail
              go_meet
              exact ⟨by rw [HR.out], hid rfl⟩
        · skip
          go_wp2_with fail
          refine HI1.out.mono ?_
          rintro e w4 ⟨rfl, hw4⟩
          rw [hw4]
          clear hw4
          cases o1
          · have HR : Hid (m.foreign = true) := hid (by rw [HFO.out]; simp)
            go_wp2_with fail
            go_meet
            exact ⟨by rw [HR.out], hid rfl⟩
          · skip
            by_cases e0 : 0 < m.es.length
            · have g2 : ¬ m.es.length = 0 := by omega
              have G2 := hid g2
              clear g2
              go_wp2_with fail
              refine HI2.out.mono ?_
              rintro e w4 ⟨rfl, hw4⟩
              rw [hw4]
              clear hw4
              cases o2
              · have HR : Hid (m.foreign = true) := hid (by rw [HFO.out, decide_eq_false G2.out]; simp)
                go_wp2_with fail
                go_meet
                exact ⟨by rw [HR.out], hid rfl⟩
              · skip
                by_cases d0 : 0 < m.d.length
                · have g3 : ¬ m.d.length = 0 := by omega
                  have G3 := hid g3
                  clear g3
                  go_wp2_with fail
                  refine HI3.out.mono ?_
                  rintro e w4 ⟨rfl, hw4⟩
                  rw [hw4]
                  clear hw4
                  cases o3
                  · have HR : Hid (m.foreign = true) := hid (by rw [HFO.out, decide_eq_false G3.out]; simp)
                    go_wp2_with fail
                    go_meet
                    exact ⟨by rw [HR.out], hid rfl⟩
                  · have HR : Hid (m.foreign = false) := hid (by rw [HFO.out, decide_eq_false G2.out]; simp)
                    go_wp2_with fail
                    go_meet
                    exact ⟨by rw [HR.out], hid rfl⟩
                · have g3 : m.d.length = 0 := by omega
                  have HR : Hid (m.foreign = false) := hid (by rw [HFO.out, decide_eq_true g3, decide_eq_false G2.out]; simp)
                  clear g3
                  go_wp2_with fail
                  go_meet
                  exact ⟨by rw [HR.out], hid rfl⟩
            · have g2 : m.es.length = 0 := by omega
              have G2 := hid g2
              clear g2
              by_cases d0 : 0 < m.d.length
              · have g3 : ¬ m.d.length = 0 := by omega
                have G3 := hid g3
                clear g3
                go_wp2_with fail
                refine HI3.out.mono ?_
                rintro e w4 ⟨rfl, hw4⟩
                rw [hw4]
                clear hw4
                cases o3
                · have HR : Hid (m.foreign = true) := hid (by rw [HFO.out, decide_eq_false G3.out]; simp)
                  go_wp2_with fail
                  go_meet
                  exact ⟨by rw [HR.out], hid rfl⟩
                · have HR : Hid (m.foreign = false) := hid (by rw [HFO.out, decide_eq_true G2.out]; simp)
                  go_wp2_with fail
                  go_meet
                  exact ⟨by rw [HR.out], hid rfl⟩
              · have g3 : m.d.length = 0 := by omega
                have HR : Hid (m.foreign = false) := hid (by rw [HFO.out, decide_eq_true g3, decide_eq_true G2.out]; simp)
                clear g3
                go_wp2_with fail
                go_meet
                exact ⟨by rw [HR.out], hid rfl⟩
      case rest =>
        obtain ⟨rfl, hwx⟩ := hcut
        rw [hwx.out]
        clear hwx HI1 HI2 HI3 HFO
        obtain ⟨bf, hbf⟩ : ∃ b, b = m.foreign := ⟨_, rfl⟩
        rw [← hbf] at HC2 ⊢
        clear hbf
        cases bf
        rotate_left
        · have HR : Hid (check m = 14) := hid (by rw [HC2.out, if_pos rfl])
          go_wp2_with fail
          go_ret
          rw [HR.out]
          exact ⟨rfl, HB3.out⟩
        have HNF : Hid (check m = if m.inRange = false then 3 else if 1024 < m.es.length ∨ 65536 < m.size then 2 else 0) := hid (by rw [HC2.out, if_neg (by decide)])
        go_wp2_with fail
        refine HMM.out.mono ?_
        rintro e w4 ⟨rfl, hb4⟩
        have HB4 := hid (HB3.out.trans (hb4.mono HB3.out.size))
        have hld4 := (HX3.out.below hb4 (row_lt HX3.out.row)).load
        rw [← HOK.out] at hld4
        clear hb4 hld3 hc14 hc15 hc16
        cases bm
        · have HR : Hid (check m = 3) := hid (by rw [HNF.out, if_pos HBM.out.1.symm])
          go_wp2_with fail
          go_ret
          rw [HR.out]
          exact ⟨rfl, HB4.out⟩
        · have HL4 := hid (HLL.out w4 HB4.out)
          go_wp2_with fail
          refine HL4.out.mono ?_
          rintro e w5 ⟨rfl, hb5⟩
          have HB5 := hid (HB4.out.trans (hb5.mono HB4.out.size))
          clear hb5 hld4
          cases bl
          · have HR : Hid (check m = 0) := hid (by
              have e := HBM.out.2
              rw [HLOG.out] at e
              rw [HNF.out, if_neg (by rw [← HBM.out.1]; decide), if_neg (by simpa using e.symm)])
            go_wp2_with fail
            go_ret
            rw [HR.out]
            exact ⟨rfl, HB5.out⟩
          · have HR : Hid (check m = 2) := hid (by
              have e := HBM.out.2
              rw [HLOG.out] at e
              rw [HNF.out, if_neg (by rw [← HBM.out.1]; decide), if_pos (by simpa using e.symm)])
            go_wp2_with fail
            go_ret
            rw [HR.out]
            exact ⟨rfl, HB5.out⟩
end Go.Proofs.YtmaebemhephcmaaDoor.Ms
