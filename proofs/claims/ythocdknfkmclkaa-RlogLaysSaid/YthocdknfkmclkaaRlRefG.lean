/- The walk through the document's Append where another term stands. -/
import Derived.Test.YthocdknfkmclkaaRlRefE
namespace Go.Proofs.Ythocdknfkmclkaa
open Go.RowKit

set_option maxHeartbeats 6400000 in
set_option maxRecDepth 100000 in
theorem refApp_other (B : Nat) (g : Rl.Lg) (A A' : Option Addr) (c c' : Nat) (i : Int) (p n m : Nat) (M : List Rl.En) (hm : M.length = m) (hm' : m ≤ 30000) (hg : Rl.Ok g) (hf : Rl.Few g.es) (hfM : Rl.Few M) (hip : i = g.base + (p : Int)) (hp : p ≤ g.es.length) (hnn : n = g.there p M) (hkm : n < m) (hend : p + n < g.es.length) (L' : List Rl.En) (l' : Nat) (ix : Int) (hP : (n < m → L' = g.es.take (p + n) ++ M.drop n ∧ l' = p + m ∧ ix = i + n + 1) ∧ (¬ n < m → L' = g.es ∧ l' = g.es.length ∧ ix = 0)) (w : World) (h : LgIs w B g A c) (h' : IsEnts w B A' M) (hB : B ≤ w.heap.size) :
    Calls Try.prog 26 #[.agg #[.int .i64 g.base, .int .i64 g.term, .slice A g.es.length c], .int .i64 i, .slice A' m c'] w fun e w' => ∃ A2 c2, e = .returned (.tuple #[.agg #[.int .i64 g.base, .int .i64 g.term, .slice A2 l' c2], .int .i64 ix]) ∧ OwnE w' w.heap.size w'.heap.size A2 c2 L' ∧ Below w.heap.size w w' := by
  obtain ⟨w1, hw1⟩ : ∃ w1, w1 = (w.alloc (.cells #[.int .i64 g.base, .int .i64 g.term, .slice A g.es.length c] 24)).alloc (.cells #[.int .i64 0, .int .i64 0, .slice none 0 0] 24) := ⟨_, rfl⟩
  have hb1 : Below w.heap.size w w1 := by rw [hw1]; exact ((Below.refl _ w).alloc (Nat.le_refl _) _).alloc (by simp) _
  have hs1 : w1.heap.size = w.heap.size + 2 := by rw [hw1]; simp
  have HC := hid (refLast_any w.heap.size g A c hg w1 ((h.more hB).below hb1) hb1.size)
  have hroom := h.room
  have hes := h.es.more hB
  have hes' := h'.more hB
  have HCL : Hid (∀ w', Below w.heap.size w w' → Calls Try.prog 11 #[.agg #[.int .i64 g.base, .int .i64 g.term, .slice A g.es.length c]] w' fun e w'' => ∃ A' c', e = .returned (.agg #[.int .i64 g.base, .int .i64 g.term, .slice A' g.es.length c']) ∧ OwnE w'' w'.heap.size w''.heap.size A' c' g.es ∧ Below w'.heap.size w' w'') := hid (fun w' hb => copyLog_any g A c _ rfl (by have := hg.2.2; omega) hf w' ((hes.below hb).more hb.size))
  have HQ : Hid (∀ w2, Below (w.heap.size + 2) w1 w2 → (w2.cell? ⟨w.heap.size, 0, none⟩ = some (.int .i64 g.base) ∧ w2.cell? ⟨w.heap.size, 1, none⟩ = some (.int .i64 g.term) ∧ w2.cell? ⟨w.heap.size, 2, none⟩ = some (.slice A g.es.length c)) ∧ (w2.cell? ⟨w.heap.size + 1, 0, none⟩ = some (.int .i64 0) ∧ w2.cell? ⟨w.heap.size + 1, 1, none⟩ = some (.int .i64 0) ∧ w2.cell? ⟨w.heap.size + 1, 2, none⟩ = some (.slice none 0 0)) ∧ (∀ k, w2.frozen? ⟨w.heap.size, k, none⟩ = false) ∧ ∀ k, w2.frozen? ⟨w.heap.size + 1, k, none⟩ = false) := hid (fun w2 hb2 => by
    refine ⟨⟨?_, ?_, ?_⟩, ⟨?_, ?_, ?_⟩, fun k => ?_, fun k => ?_⟩
    · rw [hb2.cell (by show w.heap.size < _; omega), hw1]; simp
    · rw [hb2.cell (by show w.heap.size < _; omega), hw1]; simp
    · rw [hb2.cell (by show w.heap.size < _; omega), hw1]; simp
    · rw [hb2.cell (by show w.heap.size + 1 < _; omega), hw1]; simp [World.cell?_alloc_at]
    · rw [hb2.cell (by show w.heap.size + 1 < _; omega), hw1]; simp [World.cell?_alloc_at]
    · rw [hb2.cell (by show w.heap.size + 1 < _; omega), hw1]; simp [World.cell?_alloc_at]
    · rw [hb2.frozen (by show w.heap.size < _; omega), hw1]; simp
    · rw [hb2.frozen (by show w.heap.size + 1 < _; omega), hw1]; simp [World.frozen?_alloc_at])
  have H1 := hid (And.intro hb1 hs1)
  obtain ⟨t1, t2, t3, t4⟩ := there_facts g p hp M
  rw [← hnn] at t1 t2 t3 t4
  rw [hm] at t2
  have hT : ∀ w', Below w.heap.size w w' → ∀ k (hk : k < M.length), k < n → Calls Try.prog 15 #[.agg #[.int .i64 g.base, .int .i64 g.term, .slice A g.es.length c], .int .i64 (i + 1 + (k : Int))] w' fun e w'' => e = .returned (.tuple #[.int .i64 M[k].t, .bool true]) ∧ Below w'.heap.size w' w'' := fun w' hb k hk hkn => by
    rw [← t3 k hk hkn]
    exact refTerm_yes w.heap.size g A c _ (p + k + 1) (by omega) (by omega) hg w' ((h.more hB).below hb) hb.size
  have hT2 : ∀ w', Below w.heap.size w w' → ∀ (hk : n < M.length), Calls Try.prog 15 #[.agg #[.int .i64 g.base, .int .i64 g.term, .slice A g.es.length c], .int .i64 (i + 1 + (n : Int))] w' fun e w'' => ∃ tv, e = .returned (.tuple #[.int .i64 tv, .bool true]) ∧ tv ≠ M[n].t ∧ Below w'.heap.size w' w'' := fun w' hb hk => (refTerm_yes w.heap.size g A c (i + 1 + (n : Int)) (p + n + 1) (by omega) (by omega) hg w' ((h.more hB).below hb) hb.size).mono fun e w'' ⟨h1, h2⟩ => ⟨_, h1, t4 hk hend, h2⟩
  have HT := hid (And.intro hT hT2)
  have HM := hid hes'
  have HF := hid (And.intro hes (And.intro hf hfM))
  have HIP := hid (And.intro hip hm)
  have HP := hid hP
  clear hP
  obtain ⟨la, hla⟩ : ∃ la, la = g.last := ⟨_, rfl⟩
  obtain ⟨lt, hlt⟩ : ∃ lt, lt = g.lastT := ⟨_, rfl⟩
  have hla2 : la = g.base + (g.es.length : Nat) := by rw [hla]; rfl
  rw [← hla, ← hlt] at HC
  obtain ⟨⟨g0, g1⟩, _, gl⟩ := hg
  have hc1 : ¬ i < g.base := by omega
  have hc2 : ¬ la < i := by omega
  have hi0 : 0 ≤ i := by omega
  have hi1 : i ≤ 1099511727776 := by omega
  rw [hw1] at HC
  have HW := hid hw1
  clear h h' hb1 hs1 hes hes' hw1 hf hfM hla hlt hla2 hT hT2 t3 t4 hip hm hnn
  go_enter Try.func26, Try.ntmps26
  go_wp2_with fail
  refine HC.out.mono ?_
  rintro e w2 ⟨rfl, hb2⟩
  rw [← HW.out] at hb2
  rw [H1.out.2] at hb2
  have HB2 := hid hb2
  have HB2' := hid (H1.out.1.trans (hb2.mono (by omega)))
  obtain ⟨⟨q0, q1, q2⟩, _, f0, _⟩ := HQ.out w2 hb2
  have hs2 : w.heap.size + 2 ≤ w2.heap.size := by have := hb2.size; have := H1.out.2; omega
  clear hb2
  go_wp2_with fail
  refine (HCL.out w2 HB2'.out).mono ?_
  rintro e w3 ⟨A3, c3, rfl, ho3, hb3⟩
  have hbq := HB2.out.trans (hb3.mono hs2)
  obtain ⟨⟨p0, p1, p2⟩, _⟩ := HQ.out w3 hbq
  have hs3 := hb3.size
  have H3 := hid (And.intro ho3 (And.intro hbq (HB2'.out.trans (hb3.mono HB2'.out.size))))
  have hN0 : w.heap.size < w3.heap.size := by omega
  have hN1 : w.heap.size + 1 < w3.heap.size := by omega
  clear hb3 ho3 hbq HC HCL q0 q1 q2 f0
  go_wp2_with fail
  obtain ⟨w4, hw4⟩ : ∃ w4, w4 = w3.alloc (.cells #[.int .i64 g.base, .int .i64 g.term, .slice A3 g.es.length c3] 24) := ⟨_, rfl⟩
  have hb4 : Below w3.heap.size w3 w4 := by rw [hw4]; exact (Below.refl _ w3).alloc (Nat.le_refl _) _
  have hs4 : w4.heap.size = w3.heap.size + 1 := by rw [hw4]; simp
  have HQ4 : Hid (∀ wr, Below w4.heap.size w4 wr → (Below (w.heap.size + 2) w1 wr ∧ Below w.heap.size w wr) ∧ OwnE wr w2.heap.size w3.heap.size A3 c3 g.es ∧ (wr.cell? ⟨w3.heap.size, 0, none⟩ = some (.int .i64 g.base) ∧ wr.cell? ⟨w3.heap.size, 1, none⟩ = some (.int .i64 g.term) ∧ wr.cell? ⟨w3.heap.size, 2, none⟩ = some (.slice A3 g.es.length c3)) ∧ ∀ k, wr.frozen? ⟨w3.heap.size, k, none⟩ = false) := hid (fun wr hb => by
    have hb' := hb4.trans (hb.mono (by omega))
    refine ⟨⟨H3.out.2.1.trans (hb'.mono (by omega)), H3.out.2.2.trans (hb'.mono (by omega))⟩, H3.out.1.below hb', ⟨?_, ?_, ?_⟩, fun k => ?_⟩
    · rw [hb.cell (by show w3.heap.size < _; omega), hw4]; simp
    · rw [hb.cell (by show w3.heap.size < _; omega), hw4]; simp
    · rw [hb.cell (by show w3.heap.size < _; omega), hw4]; simp
    · rw [hb.frozen (by show w3.heap.size < _; omega), hw4]; simp)
  rw [← hw4]
  clear hw4 hb4 p0 p1 p2 H3
  have H0 : Hid (Below w4.heap.size w4 w4) := hid (Below.refl _ _)
  go_loopw [11] (fun v wr => ∃ k : Nat, k ≤ n ∧ v = .int .i64 k ∧ Hid (Below w4.heap.size w4 wr)) (fun v _ => m - (RowKit.intOf v).toNat)
  case atStart => exact ⟨0, by omega, rfl, H0⟩
  case round =>
    clear H0
    obtain ⟨k, hk, rfl, hS⟩ := hrel
    obtain ⟨⟨hbq, hbw⟩, hown, ⟨z0, z1, z2⟩, fz⟩ := HQ4.out wr hS.out
    obtain ⟨⟨q0, q1, q2⟩, ⟨r0, r1, r2⟩, f0, f1⟩ := HQ.out wr hbq
    have hsr := hS.out.size
    have HO := hid (And.intro hown (And.intro hbw hbq))
    by_cases hlt : k < n
    · have hkm : (k : Int) < (m : Int) := by omega
      have hkM : k < M.length := by rw [HIP.out.2]; omega
      obtain ⟨b, off, rfl, hbb, hc⟩ := HM.out.cells k hkM
      obtain ⟨Ad, cd, d0, _⟩ := hc k hkM
      have HD : Hid (∀ w', Below w.heap.size w w' → w'.cell? ⟨b, off + k * 3, none⟩ = some (.int .i64 M[k].t)) := hid (fun w' hb => (hb.cell (by show b < _; omega)).trans d0)
      have HC := hid (HT.out.1 wr hbw k hkM hlt)
      generalize M[k].t = x at HD HC
      clear hc d0 hown hbq hbw z0 z1 z2 fz r0 r1 r2 f0 f1
      go_wp2_with fail
      refine HC.out.mono ?_
      rintro e w5 ⟨rfl, hb5⟩
      have hd5 := HD.out w5 (HO.out.2.1.trans (hb5.mono HO.out.2.1.size))
      have HB5 : Hid (Below w4.heap.size w4 w5) := hid (hS.out.trans (hb5.mono hsr))
      clear hb5 HC HD
      go_wp2_with fail
      go_roundw
      case rel => exact ⟨k + 1, by omega, by go_num, HB5⟩
      case measure => simp [RowKit.intOf]; omega
    · obtain rfl : k = n := by omega
      have hkm : k < m := hkm
      have hkm0 : (k : Int) < (m : Int) := by omega
      have hkM : k < M.length := by rw [HIP.out.2]; omega
      obtain ⟨b, off, rfl, hbb, hcM⟩ := HM.out.cells k hkM
      obtain ⟨Ad, cd, d0, _⟩ := hcM k hkM
      have HD : Hid (∀ w', Below w.heap.size w w' → w'.cell? ⟨b, off + k * 3, none⟩ = some (.int .i64 M[k].t)) := hid (fun w' hb => (hb.cell (by show b < _; omega)).trans d0)
      have HCM := hid hcM
      have HC := hid (HT.out.2 wr hbw hkM)
      generalize M[k].t = x at HD HC
      clear hcM d0 hown hbq hbw z0 z1 z2 fz r0 r1 r2 f0 f1 hlt
      go_wp2_with fail
      refine HC.out.mono ?_
      rintro e w5 ⟨tv, rfl, hne, hb5⟩
      have hd5 := HD.out w5 (HO.out.2.1.trans (hb5.mono HO.out.2.1.size))
      have hb45 := hS.out.trans (hb5.mono hsr)
      obtain ⟨⟨hbq5, hbw5⟩, hown5, ⟨z0, z1, z2⟩, fz⟩ := HQ4.out w5 hb45
      obtain ⟨⟨q0, q1, q2⟩, ⟨r0, r1, r2⟩, f0, f1⟩ := HQ.out w5 hbq5
      have hs5 := hb45.size
      have H5 := hid (And.intro hb45 (And.intro hbq5 hbw5))
      obtain ⟨v, hv⟩ : ∃ v, v = p + k := ⟨_, rfl⟩
      have hsub : i + (k : Int) - g.base = (v : Int) := by have := HIP.out.1; omega
      have hvL : v ≤ g.es.length := by omega
      have hvc : (v : Int) ≤ (c : Int) := by have := hroom.1; omega
      have hlv : (g.es.take v).length = v := by rw [List.length_take]; omega
      have HCP := hid (copyE_any w.heap.size A c v (g.es.take v) hlv (by omega) (fun e he => HF.out.2.1 e (List.mem_of_mem_take he)) w5 ((HF.out.1.take v).below hbw5) hbw5.size)
      have HV := hid (And.intro hv hlv)
      clear hb5 hb45 HC HD hown5 hbq5 hbw5 hv hlv f0 f1 r0 r1 r2
      go_wp2_with fail
      refine HCP.out.mono ?_
      rintro e w6 ⟨A5, c5, rfl, ho6, hb6⟩
      have hb46 := H5.out.1.trans (hb6.mono hs5)
      obtain ⟨_, _, ⟨y0, y1, y2⟩, fy⟩ := HQ4.out w6 hb46
      have H6 := hid (And.intro ho6 hb6)
      have hs6 := hb6.size
      clear hb6 ho6 hb46 HCP z0 z1 z2 fz q0 q1 q2
      go_wp2_with fail
      obtain ⟨w7, hw7⟩ : ∃ w7, w7 = w6.setCell ⟨w3.heap.size, 2, none⟩ (.slice A5 v c5) := ⟨_, rfl⟩
      have T7 := Turned.one w6 w3.heap.size 2 (.slice A5 v c5)
      rw [← hw7] at T7
      have hsz7 : w7.heap.size = w6.heap.size := by rw [hw7]; simp [World.setCell]
      have ho7 : OwnE w7 w5.heap.size w7.heap.size A5 c5 (g.es.take v ++ (M.drop k).take 0) := by
        rw [List.take_zero, List.append_nil]
        exact (H6.out.1.keep T7 (fun k hk hB => by have := hB.1; have hk : k = w3.heap.size := hk; omega)).wide (Nat.le_refl _) (by omega)
      have hb7 : Below w3.heap.size w5 w7 := (H6.out.2.mono (by omega)).trans (T7.below (by omega) (fun k hk => Nat.le_of_eq (Eq.symm hk)))
      have hc7 : (w7.cell? ⟨w3.heap.size, 0, none⟩ = some (.int .i64 g.base) ∧ w7.cell? ⟨w3.heap.size, 1, none⟩ = some (.int .i64 g.term) ∧ w7.cell? ⟨w3.heap.size, 2, none⟩ = some (.slice A5 v c5)) ∧ ∀ k, w7.frozen? ⟨w3.heap.size, k, none⟩ = false := by
        rw [hw7]
        refine ⟨⟨?_, ?_, World.cell?_setCell_same _ _ _ y2⟩, fun k => by simpa using fy k⟩
        · rw [World.cell?_setCell_other _ _ _ _ (fun e => by injection e with _ e; cases e)]; exact y0
        · rw [World.cell?_setCell_other _ _ _ _ (fun e => by injection e with _ e; cases e)]; exact y1
      have H7 : Hid (OwnE w7 w5.heap.size w7.heap.size A5 c5 (g.es.take v ++ (M.drop k).take (k - k)) ∧ Below w3.heap.size w5 w7 ∧ ((w7.cell? ⟨w3.heap.size, 0, none⟩ = some (.int .i64 g.base) ∧ w7.cell? ⟨w3.heap.size, 1, none⟩ = some (.int .i64 g.term) ∧ w7.cell? ⟨w3.heap.size, 2, none⟩ = some (.slice A5 v c5)) ∧ ∀ k, w7.frozen? ⟨w3.heap.size, k, none⟩ = false) ∧ v = v + (k - k) ∧ w6.heap.size ≤ w7.heap.size) := hid ⟨by rw [Nat.sub_self]; exact ho7, hb7, hc7, by omega, by omega⟩
      rw [← hw7]
      clear hw7 T7 hsz7 ho7 hb7 hc7 y0 y1 y2 fy H6
      go_loopw [14] (fun i' wr' => ∃ (j q : Nat) (A6 : Option Addr) (c6 : Nat), k ≤ j ∧ j ≤ m ∧ i' = .int .i64 j ∧ Hid (OwnE wr' w5.heap.size wr'.heap.size A6 c6 (g.es.take v ++ (M.drop k).take (j - k)) ∧ Below w3.heap.size w5 wr' ∧ ((wr'.cell? ⟨w3.heap.size, 0, none⟩ = some (.int .i64 g.base) ∧ wr'.cell? ⟨w3.heap.size, 1, none⟩ = some (.int .i64 g.term) ∧ wr'.cell? ⟨w3.heap.size, 2, none⟩ = some (.slice A6 q c6)) ∧ ∀ k, wr'.frozen? ⟨w3.heap.size, k, none⟩ = false) ∧ q = v + (j - k) ∧ w6.heap.size ≤ wr'.heap.size)) (fun i' _ => m - (RowKit.intOf i').toNat)
      case atStart => exact ⟨k, v, A5, c5, by omega, by omega, rfl, H7⟩
      case round =>
        clear H7
        obtain ⟨j, q, A6, c6, hkj, hj, rfl, hS6⟩ := hrel
        obtain ⟨hown, hb5, ⟨⟨z0, z1, z2⟩, fz⟩, hq, hs7⟩ := hS6.out
        have hsx := hs5
        by_cases hlt : j < m
        · have hjM : j < M.length := by rw [HIP.out.2]; exact hlt
          have hj0 : (j : Int) < (m : Int) := by omega
          obtain ⟨Ad, cd, d0, d1, d2, hd, hd2, hd3⟩ := HCM.out j hjM
          have hfj : M[j].d.length ≤ 65536 := HF.out.2.2 _ (List.getElem_mem hjM)
          have hnum := HM.out.num _ (List.getElem_mem hjM)
          have htk : (M.drop k).take (j + 1 - k) = (M.drop k).take (j - k) ++ [M[j]] := by
            rw [show j + 1 - k = j - k + 1 by omega, List.take_succ_eq_append_getElem (by rw [List.length_drop]; omega), List.getElem_drop]
            simp [show k + (j - k) = j by omega]
          obtain ⟨x, hx⟩ : ∃ x, x = M[j] := ⟨_, rfl⟩
          rw [← hx] at d0 d1 d2 hd hd2 hfj hnum htk
          have hbw7 := H5.out.2.2.trans (hb5.mono (by omega))
          have hwr := hbw7.size
          have HK : Hid (∀ w', Below w.heap.size w w' → w'.cell? ⟨b, off + j * 3, none⟩ = some (.int .i64 x.t) ∧ w'.cell? ⟨b, off + j * 3 + 1, none⟩ = some (.int .i64 x.k) ∧ w'.cell? ⟨b, off + j * 3 + 2, none⟩ = some (.slice Ad x.d.length cd)) := hid (fun w' hb => ⟨(hb.cell (by show b < _; omega)).trans d0, (hb.cell (by show b < _; omega)).trans d1, (hb.cell (by show b < _; omega)).trans d2⟩)
          have HC := hid (copy_N wr.heap.size Ad cd x.d x.d.length rfl (by omega) wr.drew (((hd.below hbw7).more hwr).drewN 1) (Nat.le_refl _))
          have hlq : (g.es.take v ++ (M.drop k).take (j - k)).length = q := by rw [hq, List.length_append, HV.out.2, List.length_take, List.length_drop]; omega
          have HX := hid (And.intro hnum (And.intro htk (And.intro hlq hown)))
          have HQ8 := hid (And.intro hbw7 (And.intro hb5 (And.intro (And.intro (And.intro z0 (And.intro z1 z2)) fz) (And.intro hq hs7))))
          have hl5 : q + 1 ≤ 100000 := by omega
          have hN : w3.heap.size < wr.heap.size := by omega
          have hbN : ¬ b = w3.heap.size := by omega
          have HN5 := hid (And.intro hN (And.intro hsx (And.intro hs6 (And.intro hs4 hs7))))
          have H9 : Hid (∀ w2, Below wr.heap.size wr w2 → ∀ o w9, Below w5.heap.size (w2.alloc o) w9 → (Below w5.heap.size wr w9 ∧ Below w.heap.size w w9 ∧ ∀ v, Below w.heap.size w (w9.setCell ⟨w3.heap.size, 2, none⟩ v)) ∧ w9.cell? ⟨w3.heap.size, 2, none⟩ = some (.slice A6 q c6) ∧ w9.frozen? ⟨w3.heap.size, 2, none⟩ = false) := hid (fun w2 h2 o w9 h => h9_all (lo := w5.heap.size) hbw7 (by omega) z2 (fz 2) h2 o h)
          have HNN : Hid (w3.heap.size < w5.heap.size ∧ w5.heap.size ≤ wr.heap.size) := hid (by omega)
          have HBN : Hid (w5.heap.size ≤ wr.heap.size) := hid (by omega)
          have z2W : wr.drew.cell? ⟨w3.heap.size, 2, none⟩ = some (.slice A6 q c6) := z2
          clear hown hb5 hq hs7 hlq htk hnum hd hd2 hd3 hfj hbw7 d0 d1 d2 hx fz z0 z1 hs6
          go_wp2_with fail
          have hopR : loadR = Op.load 22 (Operand.tmp 75) := rfl
          rw [← hopR]
          go_region_held3 (fun w' => w'.cell? ⟨b, off + j * 3, none⟩ = some (.int .i64 x.t) ∧ w'.cell? ⟨b, off + j * 3 + 1, none⟩ = some (.int .i64 x.k) ∧ w'.cell? ⟨b, off + j * 3 + 2, none⟩ = some (.slice Ad x.d.length cd))
            (first | exact HK.out _ HQ8.out.1.drew | exact HK.out _ hb8.out | exact HK.out _ (hb8.out.alloc hN8.out _) | exact HK.out _ h9.out.2.2.1 | exact HK.out _ (h9.out.2.2.2 _) | fail)
            (first
              | (have _ := hb8; refine step_of_wp (by simp [Region.wanted]) ?_; refine wp_append_ent _ _ (by rfl) (HX.out.2.2.2.below (hb1.out.alloc hb1.out.size _)) HBN.out (by rw [World.size_alloc]; exact Nat.le_succ_of_le hb1.out.size) q HX.out.2.2.1 (by rfl) x HX.out.1 A2 c2 (ho2.out.below ((Below.refl _ w2).alloc (Nat.le_refl _) _)) ⟨w2.heap.size, 0, none⟩ 1 (by rfl) (fun j _ => cellsE_new w2 _ rfl ⟨x, A2, c2⟩ _ j) hl5 ?_; intro A9 c9 w9 hE9 hB9; have h9a := H9.out w2 hb1.out _ w9 hB9; have h9 := hid (And.intro hE9 h9a.1); have h92 := h9a.2.1; have h9f := h9a.2.2; clear h9a hE9 hB9)
              | (go_at_call 34; refine HC.out.mono ?_; rintro e w2 ⟨A2, c2, rfl, ho2', hb2'⟩; have ho2 := hid ho2'; have hb1 : Hid (Below wr.heap.size wr w2) := hid ((Below.refl _ wr).drew.trans hb2'); have hb8 := hid (HQ8.out.1.trans (hb1.out.mono hwr)); have hN8 := hid (Nat.le_trans hwr hb1.out.size); have z22 := (hb1.out.cell (p := ⟨w3.heap.size, 2, none⟩) hN).trans z2; have hlt2 := Nat.lt_of_lt_of_le hN hb1.out.size; clear ho2' hb2'))
          all_goals
            (have hR := round_done (u := .slice A9 (q + 1) c9) HNN.out HQ8.out.2.1 HQ8.out.2.2.1 h9.out.2.1 h9.out.1
             have h69 := h9.out.2.1.size
             obtain ⟨w10, hw10⟩ : ∃ w10, w10 = w9.setCell ⟨w3.heap.size, 2, none⟩ (.slice A9 (q + 1) c9) := ⟨_, rfl⟩
             rw [← hw10] at hR ⊢
             rw [List.append_assoc, ← HX.out.2.1] at hR
             have H10 : Hid (OwnE w10 w5.heap.size w10.heap.size A9 c9 (g.es.take v ++ (M.drop k).take (j + 1 - k)) ∧ Below w3.heap.size w5 w10 ∧ ((w10.cell? ⟨w3.heap.size, 0, none⟩ = some (.int .i64 g.base) ∧ w10.cell? ⟨w3.heap.size, 1, none⟩ = some (.int .i64 g.term) ∧ w10.cell? ⟨w3.heap.size, 2, none⟩ = some (.slice A9 (q + 1) c9)) ∧ ∀ k, w10.frozen? ⟨w3.heap.size, k, none⟩ = false) ∧ q + 1 = v + (j + 1 - k) ∧ w6.heap.size ≤ w10.heap.size) := hid ⟨hR.1, hR.2.1, hR.2.2.1, by have := HQ8.out.2.2.2.1; omega, by have := hR.2.2.2; have := HQ8.out.2.2.2.2; omega⟩
             clear hw10 hR h69 h9 h92 h9f hb1 hb8 hN8 ho2 z22 hlt2 HC HK H9 HX HQ8 HN5 HBN z2 z2W hopR
             go_wp2_with fail
             go_roundw
             case rel => exact ⟨j + 1, q + 1, A9, c9, by omega, by omega, by go_num, H10⟩
             case measure => simp [RowKit.intOf]; omega)
        · obtain rfl : j = m := by omega
          have hbq := H5.out.2.1.trans (hb5.mono (by omega))
          obtain ⟨⟨q0, q1, q2⟩, ⟨r0, r1, r2⟩, f0, f1⟩ := HQ.out _ hbq
          have hP1 := HP.out.1 hkm
          have hLL : g.es.take v ++ (M.drop k).take (j - k) = L' := by
            rw [hP1.1, HV.out.1, List.take_of_length_le (l := M.drop k) (by rw [List.length_drop, HIP.out.2]; omega)]
          have hqq : q = l' := by rw [hP1.2.1]; have := HV.out.1; omega
          have hix : i + 1 + (k : Int) = ix := by rw [hP1.2.2]; omega
          rw [hLL] at hown
          have hE0 := hid (refApp_end (w := w) (N := w5.heap.size) (by omega) hown (Nat.le_refl _) (H5.out.2.2.trans (hb5.mono (by omega))) (.int .i64 g.base) (.int .i64 g.term) (.slice A6 q c6))
          have HX := hid (And.intro hqq hix)
          clear hown hb5 hbq hP1 hLL hqq hix hq q0 q1 q2 f0 fz
          go_wp2_with fail
          refine bodyPost_ret (by simp [results, Try.results26, go_sem, r0, r1, r2]; try rfl) rfl ?_
          refine ⟨A6, c6, ?_, hE0.out⟩
          rw [← HX.out.1, ← HX.out.2]
end Go.Proofs.Ythocdknfkmclkaa
