/- The walk through the document's Append where the log has the index. -/
import Derived.Test.YthocdknfkmclkaaRlRefD
namespace Go.Proofs.Ythocdknfkmclkaa
open Go.RowKit

/-- where the entries that are there end -/
theorem there_facts (g : Rl.Lg) (p : Nat) (hp : p ≤ g.es.length) (M : List Rl.En) : p + g.there p M ≤ g.es.length ∧ g.there p M ≤ M.length ∧ (∀ k (hk : k < M.length), k < g.there p M → g.at_ (p + k + 1) = M[k].t) ∧ (∀ (hk : g.there p M < M.length), p + g.there p M < g.es.length → g.at_ (p + g.there p M + 1) ≠ M[g.there p M].t) := by
  have hl := Rl.alike_le (g.es.drop p) M
  have h1 := hl.1
  rw [List.length_drop] at h1
  unfold Rl.Lg.there
  refine ⟨by omega, hl.2, fun k hk hlt => ?_, fun hk hlt => ?_⟩
  · have := Rl.alike_get (g.es.drop p) M k hlt
    rw [List.getElem_drop] at this
    rw [g.at_succ (p + k) (by omega)]
    exact this
  · have := Rl.alike_stop (g.es.drop p) M (by rw [List.length_drop]; omega) hk
    rw [List.getElem_drop] at this
    rw [g.at_succ _ hlt]
    exact this

/-- a load that a region must not take first -/
def loadR : Op := Op.load 22 (Operand.tmp 75)
theorem h9_all {w wr : World} {N lo : Nat} {u : Value} (hb : Below w.heap.size w wr) (hN : w.heap.size ≤ N ∧ N < lo ∧ lo ≤ wr.heap.size) (z2 : wr.cell? ⟨N, 2, none⟩ = some u) (fz : wr.frozen? ⟨N, 2, none⟩ = false) {w2 : World} (h2 : Below wr.heap.size wr w2) (o : Obj) {w9 : World} (h : Below lo (w2.alloc o) w9) :
    (Below lo wr w9 ∧ Below w.heap.size w w9 ∧ ∀ v, Below w.heap.size w (w9.setCell ⟨N, 2, none⟩ v)) ∧ w9.cell? ⟨N, 2, none⟩ = some u ∧ w9.frozen? ⟨N, 2, none⟩ = false := by
  have h0 : Below lo wr w9 := ((h2.alloc h2.size o).mono hN.2.2).trans h
  have h1 := hb.trans (h0.mono (by omega))
  refine ⟨⟨h0, h1, fun v => h1.trans ((Turned.one w9 N 2 v).below h1.size (fun k hk => by have hk : k = N := hk; omega))⟩, ?_, ?_⟩
  · rw [h0.cell (by show N < _; omega)]; exact z2
  · rw [h0.frozen (by show N < _; omega)]; exact fz
theorem round_done {w5 wr w9 : World} {N c9 : Nat} {A9 : Option Addr} {L : List Rl.En} {u0 u1 u2 u : Value} (hN : N < w5.heap.size ∧ w5.heap.size ≤ wr.heap.size) (hb5 : Below N w5 wr) (z : (wr.cell? ⟨N, 0, none⟩ = some u0 ∧ wr.cell? ⟨N, 1, none⟩ = some u1 ∧ wr.cell? ⟨N, 2, none⟩ = some u2) ∧ ∀ k, wr.frozen? ⟨N, k, none⟩ = false) (h0 : Below w5.heap.size wr w9) (hE : OwnE w9 w5.heap.size w9.heap.size A9 c9 L) :
    OwnE (w9.setCell ⟨N, 2, none⟩ u) w5.heap.size (w9.setCell ⟨N, 2, none⟩ u).heap.size A9 c9 L ∧ Below N w5 (w9.setCell ⟨N, 2, none⟩ u) ∧ (((w9.setCell ⟨N, 2, none⟩ u).cell? ⟨N, 0, none⟩ = some u0 ∧ (w9.setCell ⟨N, 2, none⟩ u).cell? ⟨N, 1, none⟩ = some u1 ∧ (w9.setCell ⟨N, 2, none⟩ u).cell? ⟨N, 2, none⟩ = some u) ∧ ∀ k, (w9.setCell ⟨N, 2, none⟩ u).frozen? ⟨N, k, none⟩ = false) ∧ w9.heap.size ≤ (w9.setCell ⟨N, 2, none⟩ u).heap.size := by
  have T := Turned.one w9 N 2 u
  have hs := h0.size
  refine ⟨(hE.keep T (fun k hk hB => ?_)).wide (Nat.le_refl _) T.size, (hb5.trans (h0.mono (by omega))).trans (T.below (by omega) (fun k hk => Nat.le_of_eq (Eq.symm hk))), ⟨⟨?_, ?_, ?_⟩, fun k => ?_⟩, T.size⟩
  · have := hB.1
    have hk : k = N := hk
    omega
  · rw [World.cell?_setCell_other _ _ _ _ (fun e => by injection e with _ e; cases e), h0.cell (by show N < _; omega)]; exact z.1.1
  · rw [World.cell?_setCell_other _ _ _ _ (fun e => by injection e with _ e; cases e), h0.cell (by show N < _; omega)]; exact z.1.2.1
  · exact World.cell?_setCell_same _ _ _ ((h0.cell (by show N < _; omega)).trans z.1.2.2)
  · have := (h0.frozen (p := ⟨N, k, none⟩) (by show N < _; omega)).trans (z.2 k)
    simpa using this
set_option maxHeartbeats 6400000 in
set_option maxRecDepth 100000 in
theorem refApp_all (B : Nat) (g : Rl.Lg) (A A' : Option Addr) (c c' : Nat) (i : Int) (p n m : Nat) (M : List Rl.En) (hm : M.length = m) (hm' : m ≤ 30000) (hg : Rl.Ok g) (hf : Rl.Few g.es) (hfM : Rl.Few M) (hip : i = g.base + (p : Int)) (hp : p ≤ g.es.length) (hnn : n = g.there p M) (hkm : ¬ n < m) (L' : List Rl.En) (l' : Nat) (ix : Int) (hP : (n < m → L' = g.es.take (p + n) ++ M.drop n ∧ l' = p + m ∧ ix = i + n + 1) ∧ (¬ n < m → L' = g.es ∧ l' = g.es.length ∧ ix = 0)) (w : World) (h : LgIs w B g A c) (h' : IsEnts w B A' M) (hB : B ≤ w.heap.size) :
    Calls Try.prog 26 #[.agg #[.int .i64 g.base, .int .i64 g.term, .slice A g.es.length c], .int .i64 i, .slice A' m c'] w fun e w' => ∃ A2 c2, e = .returned (.tuple #[.agg #[.int .i64 g.base, .int .i64 g.term, .slice A2 l' c2], .int .i64 ix]) ∧ OwnE w' w.heap.size w'.heap.size A2 c2 L' ∧ Below w.heap.size w w' := by
  obtain ⟨w1, hw1⟩ : ∃ w1, w1 = (w.alloc (.cells #[.int .i64 g.base, .int .i64 g.term, .slice A g.es.length c] 24)).alloc (.cells #[.int .i64 0, .int .i64 0, .slice none 0 0] 24) := ⟨_, rfl⟩
  have hb1 : Below w.heap.size w w1 := by rw [hw1]; exact ((Below.refl _ w).alloc (Nat.le_refl _) _).alloc (by simp) _
  have hs1 : w1.heap.size = w.heap.size + 2 := by rw [hw1]; simp
  have HC := hid (refLast_any w.heap.size g A c hg w1 ((h.more hB).below hb1) hb1.size)
  have hroom := h.room
  have hes := h.es.more hB
  have hes' := h'.more hB
  have HCL : Hid (∀ w', Below w.heap.size w w' → Calls Try.prog 11 #[.agg #[.int .i64 g.base, .int .i64 g.term, .slice A g.es.length c]] w' fun e w'' => ∃ A' c', e = .returned (.agg #[.int .i64 g.base, .int .i64 g.term, .slice A' g.es.length c']) ∧ OwnE w'' w'.heap.size w''.heap.size A' c' g.es ∧ Below w'.heap.size w' w'') := hid (fun w' hb => copyLog_any g A c _ rfl (by have := hg.2.2; omega) hf w' ((hes.below hb).more hb.size))
  have HQ : Hid (∀ w2, Below (w.heap.size + 2) w1 w2 → (w2.cell? ⟨w.heap.size, 0, none⟩ = some (.int .i64 g.base) ∧ w2.cell? ⟨w.heap.size, 1, none⟩ = some (.int .i64 g.term) ∧ w2.cell? ⟨w.heap.size, 2, none⟩ = some (.slice A g.es.length c)) ∧ (w2.cell? ⟨w.heap.size + 1, 0, none⟩ = some (.int .i64 0) ∧ w2.cell? ⟨w.heap.size + 1, 1, none⟩ = some (.int .i64 0) ∧ w2.cell? ⟨w.heap.size + 1, 2, none⟩ = some (.slice none 0 0)) ∧ (∀ k, w2.frozen? ⟨w.heap.size, k, none⟩ = false) ∧ ∀ k, w2.frozen? ⟨w.heap.size + 1, k, none⟩ = false) := hid (fun w2 hb2 => by
    refine ⟨⟨?_, ?_, ?_⟩, ⟨?_, ?_, ?_⟩, fun k => ?_, fun k => ?_⟩
    · rw [hb2.cell (by show w.heap.size < _; omega), hw1]; simp
    · rw [hb2.cell (by show w.heap.size < _; omega), hw1]; simp
    · rw [hb2.cell (by show w.heap.size < _; omega), hw1]; simp
    · rw [hb2.cell (by show w.heap.size + 1 < _; omega), hw1]; simp [World.cell?_alloc_at]
    · rw [hb2.cell (by show w.heap.size + 1 < _; omega), hw1]; simp [World.cell?_alloc_at]
    · rw [hb2.cell (by show w.heap.size + 1 < _; omega), hw1]; simp [World.cell?_alloc_at]
    · rw [hb2.frozen (by show w.heap.size < _; omega), hw1]; simp
    · rw [hb2.frozen (by show w.heap.size + 1 < _; omega), hw1]; simp [World.frozen?_alloc_at])
  have H1 := hid (And.intro hb1 hs1)
  obtain ⟨t1, t2, t3, t4⟩ := there_facts g p hp M
  rw [← hnn] at t1 t2 t3 t4
  rw [hm] at t2
  have hT : ∀ w', Below w.heap.size w w' → ∀ k (hk : k < M.length), k < n → Calls Try.prog 15 #[.agg #[.int .i64 g.base, .int .i64 g.term, .slice A g.es.length c], .int .i64 (i + 1 + (k : Int))] w' fun e w'' => e = .returned (.tuple #[.int .i64 M[k].t, .bool true]) ∧ Below w'.heap.size w' w'' := fun w' hb k hk hkn => by
    rw [← t3 k hk hkn]
    exact refTerm_yes w.heap.size g A c _ (p + k + 1) (by omega) (by omega) hg w' ((h.more hB).below hb) hb.size
  have hT2 : True := trivial
  have HT := hid (And.intro hT hT2)
  have HM := hid hes'
  have HF := hid (And.intro hes (And.intro hf hfM))
  have HIP := hid (And.intro hip hm)
  have HP := hid hP
  clear hP
  obtain ⟨la, hla⟩ : ∃ la, la = g.last := ⟨_, rfl⟩
  obtain ⟨lt, hlt⟩ : ∃ lt, lt = g.lastT := ⟨_, rfl⟩
  have hla2 : la = g.base + (g.es.length : Nat) := by rw [hla]; rfl
  rw [← hla, ← hlt] at HC
  obtain ⟨⟨g0, g1⟩, _, gl⟩ := hg
  have hc1 : ¬ i < g.base := by omega
  have hc2 : ¬ la < i := by omega
  have hi0 : 0 ≤ i := by omega
  have hi1 : i ≤ 1099511727776 := by omega
  rw [hw1] at HC
  have HW := hid hw1
  clear h h' hb1 hs1 hes hes' hw1 hf hfM hla hlt hla2 hT hT2 t3 t4 hip hm hnn
  go_enter Try.func26, Try.ntmps26
  go_wp2_with fail
  refine HC.out.mono ?_
  rintro e w2 ⟨rfl, hb2⟩
  rw [← HW.out] at hb2
  rw [H1.out.2] at hb2
  have HB2 := hid hb2
  have HB2' := hid (H1.out.1.trans (hb2.mono (by omega)))
  obtain ⟨⟨q0, q1, q2⟩, _, f0, _⟩ := HQ.out w2 hb2
  have hs2 : w.heap.size + 2 ≤ w2.heap.size := by have := hb2.size; have := H1.out.2; omega
  clear hb2
  go_wp2_with fail
  refine (HCL.out w2 HB2'.out).mono ?_
  rintro e w3 ⟨A3, c3, rfl, ho3, hb3⟩
  have hbq := HB2.out.trans (hb3.mono hs2)
  obtain ⟨⟨p0, p1, p2⟩, _⟩ := HQ.out w3 hbq
  have hs3 := hb3.size
  have H3 := hid (And.intro ho3 (And.intro hbq (HB2'.out.trans (hb3.mono HB2'.out.size))))
  have hN0 : w.heap.size < w3.heap.size := by omega
  have hN1 : w.heap.size + 1 < w3.heap.size := by omega
  clear hb3 ho3 hbq HC HCL q0 q1 q2 f0
  go_wp2_with fail
  obtain ⟨w4, hw4⟩ : ∃ w4, w4 = w3.alloc (.cells #[.int .i64 g.base, .int .i64 g.term, .slice A3 g.es.length c3] 24) := ⟨_, rfl⟩
  have hb4 : Below w3.heap.size w3 w4 := by rw [hw4]; exact (Below.refl _ w3).alloc (Nat.le_refl _) _
  have hs4 : w4.heap.size = w3.heap.size + 1 := by rw [hw4]; simp
  have HQ4 : Hid (∀ wr, Below w4.heap.size w4 wr → (Below (w.heap.size + 2) w1 wr ∧ Below w.heap.size w wr) ∧ OwnE wr w2.heap.size w3.heap.size A3 c3 g.es ∧ (wr.cell? ⟨w3.heap.size, 0, none⟩ = some (.int .i64 g.base) ∧ wr.cell? ⟨w3.heap.size, 1, none⟩ = some (.int .i64 g.term) ∧ wr.cell? ⟨w3.heap.size, 2, none⟩ = some (.slice A3 g.es.length c3)) ∧ ∀ k, wr.frozen? ⟨w3.heap.size, k, none⟩ = false) := hid (fun wr hb => by
    have hb' := hb4.trans (hb.mono (by omega))
    refine ⟨⟨H3.out.2.1.trans (hb'.mono (by omega)), H3.out.2.2.trans (hb'.mono (by omega))⟩, H3.out.1.below hb', ⟨?_, ?_, ?_⟩, fun k => ?_⟩
    · rw [hb.cell (by show w3.heap.size < _; omega), hw4]; simp
    · rw [hb.cell (by show w3.heap.size < _; omega), hw4]; simp
    · rw [hb.cell (by show w3.heap.size < _; omega), hw4]; simp
    · rw [hb.frozen (by show w3.heap.size < _; omega), hw4]; simp)
  rw [← hw4]
  clear hw4 hb4 p0 p1 p2 H3
  have H0 : Hid (Below w4.heap.size w4 w4) := hid (Below.refl _ _)
  go_loopw [11] (fun v wr => ∃ k : Nat, k ≤ n ∧ v = .int .i64 k ∧ Hid (Below w4.heap.size w4 wr)) (fun v _ => m - (RowKit.intOf v).toNat)
  case atStart => exact ⟨0, by omega, rfl, H0⟩
  case round =>
    clear H0
    obtain ⟨k, hk, rfl, hS⟩ := hrel
    obtain ⟨⟨hbq, hbw⟩, hown, ⟨z0, z1, z2⟩, fz⟩ := HQ4.out wr hS.out
    obtain ⟨⟨q0, q1, q2⟩, ⟨r0, r1, r2⟩, f0, f1⟩ := HQ.out wr hbq
    have hsr := hS.out.size
    have HO := hid (And.intro hown (And.intro hbw hbq))
    by_cases hlt : k < n
    · have hkm : (k : Int) < (m : Int) := by omega
      have hkM : k < M.length := by rw [HIP.out.2]; omega
      obtain ⟨b, off, rfl, hbb, hc⟩ := HM.out.cells k hkM
      obtain ⟨Ad, cd, d0, _⟩ := hc k hkM
      have HD : Hid (∀ w', Below w.heap.size w w' → w'.cell? ⟨b, off + k * 3, none⟩ = some (.int .i64 M[k].t)) := hid (fun w' hb => (hb.cell (by show b < _; omega)).trans d0)
      have HC := hid (HT.out.1 wr hbw k hkM hlt)
      generalize M[k].t = x at HD HC
      clear hc d0 hown hbq hbw z0 z1 z2 fz r0 r1 r2 f0 f1
      go_wp2_with fail
      refine HC.out.mono ?_
      rintro e w5 ⟨rfl, hb5⟩
      have hd5 := HD.out w5 (HO.out.2.1.trans (hb5.mono HO.out.2.1.size))
      have HB5 : Hid (Below w4.heap.size w4 w5) := hid (hS.out.trans (hb5.mono hsr))
      clear hb5 HC HD
      go_wp2_with fail
      go_roundw
      case rel => exact ⟨k + 1, by omega, by go_num, HB5⟩
      case measure => simp [RowKit.intOf]; omega
    · obtain rfl : k = n := by omega
      have hkm : ¬ k < m := hkm
      have hkm0 : ¬ (k : Int) < (m : Int) := by omega
      obtain ⟨rfl, rfl, rfl⟩ := HP.out.2 hkm
      have hE0 := hid (refApp_end hs2 HO.out.1 (by omega) HO.out.2.1 (.int .i64 g.base) (.int .i64 g.term) (.slice A3 g.es.length c3))
      clear hown hbq hbw q0 q1 q2 f0 fz hlt
      go_wp2_with fail
      refine bodyPost_ret (by simp [results, Try.results26, go_sem, r0, r1, r2]; try rfl) rfl ?_
      exact ⟨A3, c3, rfl, hE0.out⟩
end Go.Proofs.Ythocdknfkmclkaa
