/- Of things of the same kinds, one by one, unlike ones are put as unlike bytes, and none are a beginning of the others. Conditions: none. -/
import Derived.Test.YtdmghnfnmgkigaaRows
import Derived.Test.YtdmghnfnmgkigaaWorks02
import Derived.Test.YtdmghnfnmgkigaaReadThings
import Derived.StillTailTactics
import Derived.WalkKit
import Derived.WalkLawsBesides
import Derived.ProofKit
import Derived.OpenShut
import Derived.ShutString
import Derived.ChangeOld
import Derived.Below
import Derived.SizedLaws
namespace Go.Proofs.Ytdmghnfnmgkigaa.packUnlike
open Go.ChangeShapes Go.WideShapes Go.ChangeAt Go.RowKit
open Go.ChangeMaps (open_string shut_string)
set_option linter.unusedVariables false

theorem own : ownKnob Try.prog.godebug = none := by kernel_rfl
theorem laidOut : laidOutB Try.prog = true := by kernel_rfl

theorem kind_of (t : Pk.Th) : t.val.kind = if t.kind = 1 then 1 else if t.kind = 2 then 2 else 0 := by
  unfold Pk.Th.val
  split
  · rfl
  · split <;> rfl
theorem kind_same (t u : Pk.Th) (h1 : (t.kind == 1) = (u.kind == 1)) (h2 : (t.kind == 2) = (u.kind == 2)) : t.val.kind = u.val.kind := by
  rw [kind_of, kind_of]
  have e1 : (t.kind = 1) ↔ (u.kind = 1) := by
    constructor
    · intro h; rw [h] at h1; simpa using h1.symm
    · intro h; rw [h] at h1; simpa using h1
  have e2 : (t.kind = 2) ↔ (u.kind = 2) := by
    constructor
    · intro h; rw [h] at h2; simpa using h2.symm
    · intro h; rw [h] at h2; simpa using h2
  simp only [e1, e2]
theorem kind_diff (t u : Pk.Th) (h : t.val.kind = u.val.kind) : (t.kind == 1) = (u.kind == 1) ∧ (t.kind == 2) = (u.kind == 2) := by
  rw [kind_of, kind_of] at h
  by_cases h1 : t.kind = 1
  · by_cases h2 : u.kind = 1
    · simp [h1, h2]
    · rw [if_pos h1, if_neg h2] at h; split at h <;> simp at h
  · by_cases h2 : u.kind = 1
    · rw [if_neg h1, if_pos h2] at h; split at h <;> simp at h
    · rw [if_neg h1, if_neg h2] at h
      by_cases h3 : t.kind = 2
      · by_cases h4 : u.kind = 2
        · simp [h3, h4]
        · rw [if_pos h3, if_neg h4] at h; simp at h
      · by_cases h4 : u.kind = 2
        · rw [if_neg h3, if_pos h4] at h; simp at h
        · refine ⟨?_, ?_⟩
          · rw [beq_eq_false_iff_ne.2 h1, beq_eq_false_iff_ne.2 h2]
          · rw [beq_eq_false_iff_ne.2 h3, beq_eq_false_iff_ne.2 h4]
def kindsOf (l : List Pk.Th) : List Nat := (Pk.vals l).map Pk.Val.kind
theorem kindsOf_take (a b : List Pk.Th) (k : Nat) (h1 : k < a.length) (h2 : k < b.length) (h : kindsOf (a.take k) = kindsOf (b.take k)) (he : a[k].val.kind = b[k].val.kind) : kindsOf (a.take (k + 1)) = kindsOf (b.take (k + 1)) := by
  unfold kindsOf Pk.vals at h ⊢
  rw [List.take_succ_eq_append_getElem h1, List.take_succ_eq_append_getElem h2]
  simp only [List.map_append, List.map_cons, List.map_nil]
  rw [h, he]
theorem kindsOf_ne (a b : List Pk.Th) (k : Nat) (h1 : k < a.length) (h2 : k < b.length) (he : a[k].val.kind ≠ b[k].val.kind) : kindsOf a ≠ kindsOf b := by
  intro e
  unfold kindsOf Pk.vals at e
  have : ((a.map Pk.Th.val).map Pk.Val.kind)[k]? = ((b.map Pk.Th.val).map Pk.Val.kind)[k]? := by rw [e]
  rw [List.getElem?_map, List.getElem?_map, List.getElem?_map, List.getElem?_map, List.getElem?_eq_getElem h1, List.getElem?_eq_getElem h2] at this
  exact he (by simpa using this)

set_option maxHeartbeats 1600000 in
theorem kinds_any (B B' : Nat) (A A' : Option Addr) (c c' : Nat) (a b : List Pk.Th) (w : World) (h : IsThings w B A a) (h' : IsThings w B' A' b) (hl : a.length ≤ maxLen) (hl' : b.length ≤ maxLen) :
    Calls Try.prog 36 #[.slice A a.length c, .slice A' b.length c'] w fun e w' => e = .returned (.bool (decide (kindsOf a = kindsOf b))) ∧ w = w' := by
  unfold maxLen at hl hl'
  by_cases hne : a.length = b.length
  · have hb : ((a.length : Int) != (b.length : Int)) = false := by rw [bne_eq_false_iff_eq]; omega
    have HN := hid hne
    clear hne
    go_enter Try.func36, Try.ntmps36
    go_wp2_with fail
    go_loop [5] (fun i => ∃ k : Nat, k ≤ a.length ∧ i = .int .i64 k ∧ Hid (kindsOf (a.take k) = kindsOf (b.take k))) (fun i => a.length - (intOf i).toNat)
    case atStart => exact ⟨0, by omega, rfl, hid rfl⟩
    case round =>
      obtain ⟨k, hk, rfl, hs⟩ := hrel
      by_cases hlt : k < a.length
      · have hlt' : k < b.length := by have := HN.out; omega
        obtain ⟨bl, off, rfl, _, hc⟩ := h.cells k hlt
        obtain ⟨bl', off', rfl, _, hc'⟩ := h'.cells k hlt'
        obtain ⟨_, _, _, _, d0, _⟩ := hc k hlt
        obtain ⟨_, _, _, _, d0', _⟩ := hc' k hlt'
        clear hc hc'
        have HS : Hid ((a[k].kind == 1) = (b[k].kind == 1) → (a[k].kind == 2) = (b[k].kind == 2) → kindsOf (a.take (k + 1)) = kindsOf (b.take (k + 1))) := fun g1 g2 => kindsOf_take a b k hlt hlt' hs.out (kind_same _ _ g1 g2)
        have HF : Hid (¬ ((a[k].kind == 1) = (b[k].kind == 1) ∧ (a[k].kind == 2) = (b[k].kind == 2)) → decide (kindsOf a = kindsOf b) = false) := fun g => by
          rw [decide_eq_false_iff_not]; exact kindsOf_ne a b k hlt hlt' (fun e => g (kind_diff _ _ e))
        obtain ⟨p1, g1⟩ : ∃ p, (a[k].kind == 1) = p := ⟨_, rfl⟩
        obtain ⟨p2, g2⟩ : ∃ p, (a[k].kind == 2) = p := ⟨_, rfl⟩
        obtain ⟨q1, g3⟩ : ∃ p, (b[k].kind == 1) = p := ⟨_, rfl⟩
        obtain ⟨q2, g4⟩ : ∃ p, (b[k].kind == 2) = p := ⟨_, rfl⟩
        rw [g1, g2, g3, g4] at HS HF
        cases p1 <;> cases p2 <;> cases q1 <;> cases q2
        all_goals
          go_wp2_with fail
          first
            | (go_ret
               have HD := HF.out (by decide)
               exact ⟨by rw [HD]; rfl, rfl⟩)
            | (have HT := hid (HS.out rfl rfl)
               go_round
               case rel => exact ⟨k + 1, by omega, by go_num, HT⟩
               case measure => simp [intOf] <;> omega)
      · obtain rfl : k = a.length := by omega
        have HF : Hid (decide (kindsOf a = kindsOf b) = true) := by
          show _ = _
          rw [decide_eq_true_iff]
          have e := hs.out
          rw [List.take_length, HN.out, List.take_length] at e
          exact e
        clear hlt hk
        go_wp2_with fail
        go_ret
        exact ⟨by rw [HF.out]; rfl, rfl⟩
  · have hb : ((a.length : Int) != (b.length : Int)) = true := by rw [bne_iff_ne]; omega
    have HF : Hid (decide (kindsOf a = kindsOf b) = false) := by
      show _ = _
      rw [decide_eq_false_iff_not]
      intro e
      have := congrArg List.length e
      simp [kindsOf, Pk.vals] at this
      exact hne this
    clear hne
    go_enter Try.func36, Try.ntmps36
    go_wp2_with fail
    go_ret
    exact ⟨by rw [HF.out]; rfl, rfl⟩

theorem unlike (a b : List Pk.Val) (ha : ∀ v ∈ a, v.ok) (hb : ∀ v ∈ b, v.ok) (hk : a.map Pk.Val.kind = b.map Pk.Val.kind) (n : Nat) (hn : n = min (Pk.encAll a).length (Pk.encAll b).length) (h : (Pk.encAll a).take n = (Pk.encAll b).take n) : a = b := by
  by_cases hle : (Pk.encAll a).length ≤ (Pk.encAll b).length
  · have e : n = (Pk.encAll a).length := by omega
    rw [e, List.take_length] at h
    have h2 : Pk.encAll a ++ (Pk.encAll b).drop (Pk.encAll a).length = Pk.encAll b ++ [] := by
      conv => lhs; arg 1; rw [h]
      rw [List.take_append_drop, List.append_nil]
    exact (Pk.enc_begins a b _ _ ha hb hk h2).1
  · have e : n = (Pk.encAll b).length := by omega
    rw [e, List.take_length] at h
    have h2 : Pk.encAll b ++ (Pk.encAll a).drop (Pk.encAll b).length = Pk.encAll a ++ [] := by
      conv => lhs; arg 1; rw [← h]
      rw [List.take_append_drop, List.append_nil]
    exact (Pk.enc_begins b a _ _ hb ha hk.symm h2).1.symm

set_option maxHeartbeats 3200000 in
theorem walk (a0 : Option Addr) (cap0 : Nat) (l0 : List Pk.Th) (a1 : Option Addr) (cap1 : Nat) (l1 : List Pk.Th) (w : World)
    (k0 : IsThings w w.heap.size a0 l0) (n0 : l0.length ≤ cap0) (r0 : cap0 ≤ maxLen) (z0 : a0 = none → cap0 = 0)
    (k1 : IsThings w w.heap.size a1 l1) (n1 : l1.length ≤ cap1) (r1 : cap1 ≤ maxLen) (z1 : a1 = none → cap1 = 0) :
    Calls Try.prog 8 #[.slice a0 l0.length cap0, .slice a1 l1.length cap1] w fun e w' => e = .returned (.bool true) ∧ Below w.heap.size w w' := by
  go_enter Try.func8, Try.ntmps8
  go_wp2_with fail
  refine (laid_any w.heap.size a0 cap0 l0 w k0 (Nat.le_refl _)).mono ?_
  rintro e w1 hp1
  have hb1 : Below w.heap.size w w1 := by rcases hp1 with ⟨_, _, _, _, _, h⟩ | ⟨_, _, h⟩ <;> exact h
  have C2 := hid (laid_any w.heap.size a1 cap1 l1 w1 (k1.below hb1) hb1.size)
  have hsz1 := hb1.size
  have HB1 := hid hb1
  clear hb1
  rcases hp1 with ⟨hf1, A1, c1, rfl, hown1, _⟩ | ⟨hf1, rfl, _⟩
  · go_wp2_with fail
    refine C2.out.mono ?_
    rintro e w2 (⟨hf2, A2, c2, rfl, hown2, hb2⟩ | ⟨hf2, rfl, hb2⟩)
    · have hb2w : Below w.heap.size w w2 := HB1.out.trans (hb2.mono hsz1)
      have hown1' := hown1.below hb2
      have hsz2 := hb2.size
      have HB2 := hid hb2w
      have hok0 := Pk.vals_ok l0 k0.ok hf1
      have hok1 := Pk.vals_ok l1 k1.ok hf2
      have hL0 : (Pk.encAll (Pk.vals l0)).length ≤ 492000 := by
        have := Pk.encAll_length _ hok0
        have h2 : (Pk.vals l0).length ≤ 60 := by unfold Pk.vals; rw [List.length_map]; exact hf1.1
        omega
      have hL1 : (Pk.encAll (Pk.vals l1)).length ≤ 492000 := by
        have := Pk.encAll_length _ hok1
        have h2 : (Pk.vals l1).length ≤ 60 := by unfold Pk.vals; rw [List.length_map]; exact hf2.1
        omega
      have HKN := hid (kinds_any w.heap.size w.heap.size a0 a1 cap0 cap1 l0 l1 w2 (k0.below hb2w) (k1.below hb2w) (by omega) (by omega))
      have HUN := hid (unlike (Pk.vals l0) (Pk.vals l1) hok0 hok1)
      have HRS := hid (Pk.readAll_same (Pk.vals l0) (Pk.vals l1) [] hok0)
      obtain ⟨X, hX⟩ : ∃ X, X = Pk.encAll (Pk.vals l0) := ⟨_, rfl⟩
      obtain ⟨Y, hY⟩ : ∃ Y, Y = Pk.encAll (Pk.vals l1) := ⟨_, rfl⟩
      have HXY : Hid (Pk.vals l0 = Pk.vals l1 → X = Y) := fun e => by rw [hX, hY, e]
      rw [← hX] at hown1' hL0 HUN HRS ⊢
      rw [← hY] at hown2 hL1 HUN ⊢
      have hn1 := hown1'.capLe.2
      have hc1 := hown1'.cap
      have hcm1 := hown1'.capLe.1
      have hn2 := hown2.capLe.2
      have hc2 := hown2.cap
      have hcm2 := hown2.capLe.1
      have hlen1 : l1.length ≤ maxLen := by omega
      unfold maxLen at hcm1 hcm2
      have HO1 := hid hown1'
      have HO2 := hid hown2
      clear hX hY hok0 hok1 hf1 hf2 hown1 hown1' hown2 hb2 hb2w C2
      by_cases hkk : kindsOf l0 = kindsOf l1
      · have hkd : decide (kindsOf l0 = kindsOf l1) = true := by simp [hkk]
        have HKK := hid hkk
        clear hkk
        go_wp2_with fail
        refine HKN.out.mono ?_
        rintro e w3 ⟨rfl, rfl⟩
        have hle : X.length ≤ Y.length ∨ Y.length < X.length := by omega
        have hx : ∀ n, n ≤ X.length → n ≤ Y.length → n = min X.length Y.length → (X.take n).length = n ∧ (Y.take n).length = n := fun n h1 h2 _ => ⟨by rw [List.length_take]; omega, by rw [List.length_take]; omega⟩
        have HX := hid hx
        clear hx
        have tail : ∀ n, n ≤ X.length → n ≤ Y.length → n = min X.length Y.length → (decide (X.take n = Y.take n)) = (Pk.readAll ⟨X, false⟩ (Pk.vals l1)).1 ∧ ((Pk.readAll ⟨X, false⟩ (Pk.vals l1)).1 = true → X.length = Y.length) := by
          intro n h1 h2 h3
          have hrs := HRS.out HKK.out
          rw [List.append_nil] at hrs
          by_cases hv : Pk.vals l0 = Pk.vals l1
          · have hxy := HXY.out hv
            subst hxy
            rw [hrs.2 hv]
            exact ⟨by simp, fun _ => rfl⟩
          · have hf : (Pk.readAll ⟨X, false⟩ (Pk.vals l1)).1 = false := by
              cases hb : (Pk.readAll ⟨X, false⟩ (Pk.vals l1)).1 with
              | false => rfl
              | true => exact absurd (hrs.1 hb) hv
            rw [hf]
            refine ⟨?_, fun h => by cases h⟩
            rw [decide_eq_false_iff_not]
            exact fun e => hv (HUN.out HKK.out n h3 e)
        have HT := hid tail
        clear tail
        obtain ⟨rb, hrb⟩ : ∃ rb, rb = (Pk.readAll ⟨X, false⟩ (Pk.vals l1)).1 := ⟨_, rfl⟩
        rw [← hrb] at HT
        have HRB := hid hrb
        clear hrb
        rcases hle with hle | hle
        · have hxx : X.length ≤ X.length := Nat.le_refl _
          have hlc1 : X.length ≤ c1 := by omega
          have hlc2 : X.length ≤ c2 := by omega
          have hT := HT.out X.length (by omega) (by omega) (by omega)
          have hlen := HX.out X.length (by omega) (by omega) (by omega)
          have HS := hid (same_N _ _ A1 A2 c1 c2 (X.take X.length) (Y.take X.length) X.length X.length hlen.1 hlen.2 (by unfold maxLen; omega) (by unfold maxLen; omega) w2.drew ((HO1.out.reads.take X.length).drew) ((HO2.out.reads.take X.length).drew))
          have HT1 := hid hT
          clear hT hlen
          go_wp2_with fail
          go_still_tail 6, (by kernel_rfl)
          go_wp2_with fail
          refine HS.out.mono ?_
          rintro e w3 ⟨rfl, n3, rfl⟩
          rw [HT1.out.1]
          clear HS
          go_wp2_with fail
          refine (read_any w2.heap.size A1 c1 X (by omega) _ (HO1.out.reads.drewN (1 + n3)) (Nat.le_refl _) hn1).mono ?_
          rintro e w4 ⟨g, rfl, hg, hR, hb4⟩
          have hb4w : Below w.heap.size w w4 := (below_drewN HB2.out (1 + n3)).trans (hb4.mono HB2.out.size)
          have hwg : w.heap.size ≤ g := Nat.le_trans HB2.out.size hg
          have HB4 := hid hb4w
          clear hb4 hb4w
          go_wp2_with fail
          refine (readThings_any g ⟨X, false⟩ w.heap.size a1 cap1 l1 w4 hR (k1.below HB4.out) hwg hlen1 (by show X.length ≤ _; omega)).mono ?_
          rintro e w5 ⟨rfl, hR5, hG5⟩
          rw [← HRB.out]
          have HB5 := hid (HB4.out.grown hG5 HB4.out.size (fun k hk => by injection hk with hk; omega))
          clear hR5 hG5 hR
          cases rb
          · go_wp2_with fail
            refine (works_any _).mono ?_
            rintro e w6 ⟨rfl, hb6⟩
            go_wp2_with fail
            go_ret
            exact ⟨rfl, HB5.out.trans (hb6.mono HB5.out.size)⟩
          · have hxy := HT1.out.2 rfl
            have exy : ((X.length : Int) == (Y.length : Int)) = true := by rw [beq_iff_eq]; omega
            have HXYL := hid hxy
            clear hxy
            go_wp2_with fail
            refine (works_any _).mono ?_
            rintro e w6 ⟨rfl, hb6⟩
            go_wp2_with fail
            go_ret
            exact ⟨rfl, HB5.out.trans (hb6.mono HB5.out.size)⟩
        · have hlc1 : Y.length ≤ c1 := by omega
          have hlc2 : Y.length ≤ c2 := by omega
          have hT := HT.out Y.length (by omega) (by omega) (by omega)
          have hlen := HX.out Y.length (by omega) (by omega) (by omega)
          have HS := hid (same_N _ _ A1 A2 c1 c2 (X.take Y.length) (Y.take Y.length) Y.length Y.length hlen.1 hlen.2 (by unfold maxLen; omega) (by unfold maxLen; omega) w2.drew ((HO1.out.reads.take Y.length).drew) ((HO2.out.reads.take Y.length).drew))
          have HT1 := hid hT
          clear hT hlen
          go_wp2_with fail
          go_still_tail 6, (by kernel_rfl)
          go_wp2_with fail
          refine HS.out.mono ?_
          rintro e w3 ⟨rfl, n3, rfl⟩
          rw [HT1.out.1]
          clear HS
          go_wp2_with fail
          refine (read_any w2.heap.size A1 c1 X (by omega) _ (HO1.out.reads.drewN (1 + n3)) (Nat.le_refl _) hn1).mono ?_
          rintro e w4 ⟨g, rfl, hg, hR, hb4⟩
          have hb4w : Below w.heap.size w w4 := (below_drewN HB2.out (1 + n3)).trans (hb4.mono HB2.out.size)
          have hwg : w.heap.size ≤ g := Nat.le_trans HB2.out.size hg
          have HB4 := hid hb4w
          clear hb4 hb4w
          go_wp2_with fail
          refine (readThings_any g ⟨X, false⟩ w.heap.size a1 cap1 l1 w4 hR (k1.below HB4.out) hwg hlen1 (by show X.length ≤ _; omega)).mono ?_
          rintro e w5 ⟨rfl, hR5, hG5⟩
          rw [← HRB.out]
          have HB5 := hid (HB4.out.grown hG5 HB4.out.size (fun k hk => by injection hk with hk; omega))
          clear hR5 hG5 hR
          cases rb
          · go_wp2_with fail
            refine (works_any _).mono ?_
            rintro e w6 ⟨rfl, hb6⟩
            go_wp2_with fail
            go_ret
            exact ⟨rfl, HB5.out.trans (hb6.mono HB5.out.size)⟩
          · have hxy := HT1.out.2 rfl
            have exy : ((X.length : Int) == (Y.length : Int)) = true := by rw [beq_iff_eq]; omega
            have HXYL := hid hxy
            clear hxy
            go_wp2_with fail
            refine (works_any _).mono ?_
            rintro e w6 ⟨rfl, hb6⟩
            go_wp2_with fail
            go_ret
            exact ⟨rfl, HB5.out.trans (hb6.mono HB5.out.size)⟩
      · have hkd : decide (kindsOf l0 = kindsOf l1) = false := by simp [hkk]
        clear hkk
        go_wp2_with fail
        refine HKN.out.mono ?_
        rintro e w3 ⟨rfl, rfl⟩
        go_wp2_with fail
        refine (works_any _).mono ?_
        rintro e w3 ⟨rfl, hb3⟩
        go_wp2_with fail
        go_ret
        exact ⟨rfl, HB2.out.trans (hb3.mono HB2.out.size)⟩
    · have hb2w : Below w.heap.size w w2 := HB1.out.trans (hb2.mono hsz1)
      have HB := hid hb2w
      clear hf1 hf2 hown1 hb2 hb2w C2
      go_wp2_with fail
      refine (works_any _).mono ?_
      rintro e w3 ⟨rfl, hb3⟩
      go_wp2_with fail
      go_ret
      exact ⟨rfl, HB.out.trans (hb3.mono HB.out.size)⟩
  · clear hf1
    go_wp2_with fail
    refine C2.out.mono ?_
    rintro e w2 hp2
    have hb2 : Below w1.heap.size w1 w2 := by rcases hp2 with ⟨_, _, _, _, _, h⟩ | ⟨_, _, h⟩ <;> exact h
    have HB := hid (HB1.out.trans (hb2.mono hsz1))
    clear hb2
    rcases hp2 with ⟨_, A2, c2, rfl, _, _⟩ | ⟨_, rfl, _⟩
    all_goals
      go_wp2_with fail
      refine (works_any _).mono ?_
      rintro e w3 ⟨rfl, hb3⟩
      go_wp2_with fail
      go_ret
      exact ⟨rfl, HB.out.trans (hb3.mono HB.out.size)⟩

set_option maxRecDepth 100000 in
theorem lifted (os : Os) (started : os.Started) (H : Type) (enc : TypeId × Value → H) :
    ReturnsInHanded {} Try.checked os 8 .any (Rows.packUnlikeSpec.pre6 enc Try.prog Try.f8 Rows.packUnlikeRow.domain false) (Rows.packUnlikeSpec.post enc Try.prog Try.f8 false true false false) := by
  refine returnsInHanded_of_change_sized (C := Try.checked) own started (by kernel_rfl) Try.func8
    (ChangeSpec.witness6 (enc := enc) (C := Try.checked) false ⟨#[], #[.slice none 0 0, .slice none 0 0], []⟩ 8 (by kernel_rfl) (by kernel_rfl) (by kernel_rfl) (by kernel_rfl)) ?_
  intro W base args ds gs before hval0 hW hcnd hsz0 _
  have hsz : (DataW.weightsEach Try.prog (Try.f8.params.toList ++ Rows.packUnlikeSpec.plain.varTypes Try.prog) (ds ++ gs)).all (· ≤ reachBytes) = true := hsz0
  clear hsz0
  have hval : ∀ (j : Nat) t v, Try.f8.params[j]? = some t → args[j]? = some v → Value.okWide Try.prog W .any base t v := hval0
  have hW' := hW
  obtain ⟨p, q, hA0, hV, rfl, hfz, hnd⟩ := hW
  have hA : DataW.TrodAll enc Try.prog W 0 (fun _ => true) true Try.f8.params.toList args.toList ds p := hA0
  rw [Try.params8] at hA hval hsz
  obtain ⟨v0, vs0, d0, ds0, p0, q0, hargs, rfl, rfl, g0, t0⟩ := trodAll_cons hA
  obtain ⟨v1, vs1, d1, ds1, p1, q1, rfl, rfl, rfl, g1, t1⟩ := trodAll_cons t0
  obtain ⟨rfl, rfl, rfl⟩ := trodAll_nil t1
  obtain rfl : args = #[v0, v1] := by cases args; simp_all
  obtain ⟨rfl, rfl⟩ := trodVars_none hV
  obtain ⟨a0, len0, cap0, rfl⟩ := okWide_slice Try.underlying45 (hval 0 45 v0 rfl rfl)
  have m0 := g0
  have lt0 : ∀ x ∈ p0, x.block < W.heap.size := by obtain ⟨m, hm⟩ := m0; exact DataW.trod_lt m _ _ _ hm
  obtain ⟨l0, k0, rfl, n0, r0, z0⟩ : ∃ l, IsThings W W.heap.size a0 l ∧ len0 = l.length ∧ l.length ≤ cap0 ∧ cap0 ≤ maxLen ∧ (a0 = none → cap0 = 0) := by
    obtain ⟨fuel, hf⟩ := g0
    obtain ⟨a, c, ts, hcs, h1, h2, h3⟩ := things_of_trod hf
    simp [Value.cells] at hcs
    obtain ⟨rfl, rfl, rfl⟩ := hcs
    exact ⟨ts, h1, rfl, h2.1, h2.2, h3⟩
  obtain ⟨a1, len1, cap1, rfl⟩ := okWide_slice Try.underlying45 (hval 1 45 v1 rfl rfl)
  have m1 := g1
  have lt1 : ∀ x ∈ p1, x.block < W.heap.size := by obtain ⟨m, hm⟩ := m1; exact DataW.trod_lt m _ _ _ hm
  obtain ⟨l1, k1, rfl, n1, r1, z1⟩ : ∃ l, IsThings W W.heap.size a1 l ∧ len1 = l.length ∧ l.length ≤ cap1 ∧ cap1 ≤ maxLen ∧ (a1 = none → cap1 = 0) := by
    obtain ⟨fuel, hf⟩ := g1
    obtain ⟨a, c, ts, hcs, h1, h2, h3⟩ := things_of_trod hf
    simp [Value.cells] at hcs
    obtain ⟨rfl, rfl, rfl⟩ := hcs
    exact ⟨ts, h1, rfl, h2.1, h2.2, h3⟩
  clear hA0 hval0
  refine (walk a0 cap0 l0 a1 cap1 l1 W k0 n0 r0 z0 k1 n1 r1 z1).mono fun e W' ⟨he, bel⟩ => ?_
  subst he
  exact ⟨_, rfl, _, _, _, [], _, [], hW', trodAll_mk1 (shut_bool Try.underlying4 _), (trodAll_cons_mk (Below.trod laidOut (by kernel_rfl) (of_decide_eq_true (by kernel_rfl)) m0 bel lt0) (trodAll_cons_mk (Below.trod laidOut (by kernel_rfl) (of_decide_eq_true (by kernel_rfl)) m1 bel lt1) trodAll_mk0)), rfl, bel.frame _, fun h => by cases h⟩

theorem over : Rows.packUnlikeRow.holds Try.pinned (OpenSpec.ofChange Rows.packUnlikeSpec) :=
  OpenClaim.holds_of_wide 8 Try.f8 rfl rfl rfl rfl rfl rfl rfl ⟨rfl, rfl, rfl, rfl, rfl⟩ rfl rfl rfl rfl rfl (by kernel_rfl) Try.func8 (by kernel_rfl)
    (of_decide_eq_true (by kernel_rfl)) (by unfold Func.isWrapper; first | (rw [if_pos (by decide +kernel)]; kernel_rfl) | (rw [if_neg (by decide +kernel)]; exact ⟨rfl, rfl⟩))
    (fun os started H enc _ => lifted os started H enc)

theorem proved : Rows.PackUnlikeSaid := over
end Go.Proofs.Ytdmghnfnmgkigaa.packUnlike
