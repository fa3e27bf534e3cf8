/- The walk through package rlog's Append where entries are new. -/
import Derived.Test.YthocdknfkmclkaaRlD
namespace Go.Proofs.Ythocdknfkmclkaa
open Go.RowKit

set_option maxHeartbeats 1600000 in
set_option maxRecDepth 100000 in
/-- what an Append tells where entries are new -/
theorem app_new (B : Nat) (g : Rl.Lg) (A A' : Option Addr) (c c' : Nat) (i : Int) (p n m : Nat) (M : List Rl.En) (hm : M.length = m) (hm' : m ≤ 30000) (hg : Rl.Ok g) (hf : Rl.Few g.es) (hfM : Rl.Few M) (hip : i = g.base + (p : Int)) (hp : p ≤ g.es.length) (hnn : n = g.there p M) (hlt : n < m) (w : World) (h : LgIs w B g A c) (h' : IsEnts w B A' M) (hcM : m ≤ c' ∧ c' ≤ maxLen) (hB : B ≤ w.heap.size) :
    Calls Try.prog 25 #[.agg #[.int .i64 g.base, .int .i64 g.term, .slice A g.es.length c], .int .i64 i, .slice A' m c'] w fun e w' => ∃ A2 c2, e = .returned (.tuple #[.agg #[.int .i64 g.base, .int .i64 g.term, .slice A2 (p + m) c2], .int .i64 (i + n + 1)]) ∧ OwnE w' w.heap.size w'.heap.size A2 c2 (g.es.take (p + n) ++ M.drop n) ∧ Below w.heap.size w w' := by
  obtain ⟨w1, hw1⟩ : ∃ w1, w1 = (w.alloc (.cells #[.int .i64 g.base, .int .i64 g.term, .slice A g.es.length c] 24)).alloc (.cells #[.int .i64 0, .int .i64 0, .slice none 0 0] 24) := ⟨_, rfl⟩
  have hb1 : Below w.heap.size w w1 := by rw [hw1]; exact ((Below.refl _ w).alloc (Nat.le_refl _) _).alloc (by simp) _
  have hs1 : w1.heap.size = w.heap.size + 2 := by rw [hw1]; simp
  have hn : g.has i = true := by rw [hip]; exact Rl.Lg.has_of hp
  have HC := hid (has_any w.heap.size g A c i hg w1 ((h.more hB).below hb1) hb1.size)
  have hroom := h.room
  have hes := h.es.more hB
  have hes' := h'.more hB
  have hlen : (g.es.take (p + n) ++ M.drop n).length = p + m := by
    have := (Rl.alike_le (g.es.drop p) M).1
    rw [List.length_drop] at this
    unfold Rl.Lg.there at hnn
    rw [List.length_append, List.length_take, List.length_drop]; omega
  have hpn : p + n ≤ g.es.length := by
    have := (Rl.alike_le (g.es.drop p) M).1
    rw [List.length_drop] at this
    unfold Rl.Lg.there at hnn
    omega
  -- the boxes, as long as nothing writes them
  have HQ : Hid (∀ w2, Below (w.heap.size + 2) w1 w2 → (w2.cell? ⟨w.heap.size, 0, none⟩ = some (.int .i64 g.base) ∧ w2.cell? ⟨w.heap.size, 1, none⟩ = some (.int .i64 g.term) ∧ w2.cell? ⟨w.heap.size, 2, none⟩ = some (.slice A g.es.length c)) ∧ (w2.cell? ⟨w.heap.size + 1, 0, none⟩ = some (.int .i64 0) ∧ w2.cell? ⟨w.heap.size + 1, 1, none⟩ = some (.int .i64 0) ∧ w2.cell? ⟨w.heap.size + 1, 2, none⟩ = some (.slice none 0 0)) ∧ (∀ k, w2.frozen? ⟨w.heap.size, k, none⟩ = false) ∧ ∀ k, w2.frozen? ⟨w.heap.size + 1, k, none⟩ = false) := hid (fun w2 hb2 => by
    refine ⟨⟨?_, ?_, ?_⟩, ⟨?_, ?_, ?_⟩, fun k => ?_, fun k => ?_⟩
    · rw [hb2.cell (by show w.heap.size < _; omega), hw1]; simp
    · rw [hb2.cell (by show w.heap.size < _; omega), hw1]; simp
    · rw [hb2.cell (by show w.heap.size < _; omega), hw1]; simp
    · rw [hb2.cell (by show w.heap.size + 1 < _; omega), hw1]; simp [World.cell?_alloc_at]
    · rw [hb2.cell (by show w.heap.size + 1 < _; omega), hw1]; simp [World.cell?_alloc_at]
    · rw [hb2.cell (by show w.heap.size + 1 < _; omega), hw1]; simp [World.cell?_alloc_at]
    · rw [hb2.frozen (by show w.heap.size < _; omega), hw1]; simp
    · rw [hb2.frozen (by show w.heap.size + 1 < _; omega), hw1]; simp [World.frozen?_alloc_at])
  have H1 := hid (And.intro hb1 hs1)
  obtain ⟨⟨g0, g1⟩, _, gl⟩ := hg
  rw [hn] at HC
  rw [hw1] at HC
  have HW := hid hw1
  have hsl := hes.sl (i := p) hroom.1
  obtain ⟨A1, hA1⟩ : ∃ A1, (if c = p then A else A.map (fun x => x.add (p * 3))) = A1 := ⟨_, rfl⟩
  rw [hA1] at hsl
  have HK : Hid (∀ w', Below w.heap.size w w' → ∀ c9, Calls Try.prog 35 #[.slice A1 (g.es.length - p) c9, .slice A' m c'] w' fun e w'' => e = .returned (.int .i64 (n : Nat)) ∧ ∃ j, w'' = w'.drewN j) := hid (fun w' hb c9 => by rw [hnn]; exact alike_any w.heap.size A1 A' c9 c' _ m _ M List.length_drop hm (by omega) (by omega) w' (hsl.below hb) (hes'.below hb))
  -- what is put behind what
  obtain ⟨b', off', hA', hb', _⟩ := h'.cells n (by omega)
  have hslM := hes'.sl (c := c') (i := n) (by omega)
  rw [if_neg (by omega), hA'] at hslM
  have hadd : (Option.map (fun x => Addr.add x (n * 3)) (some (⟨b', off', none⟩ : Addr))) = some ⟨b', off' + n * 3, none⟩ := by simp [add_off]
  rw [hadd] at hslM
  have hlT : (g.es.take (p + n)).length = p + n := by rw [List.length_take]; omega
  have hlM : (M.drop n).length = m - n := by rw [List.length_drop, hm]
  have hfew : Rl.Few (g.es.take (p + n) ++ M.drop n) := fun e he => by
    rcases List.mem_append.1 he with he | he
    · exact hf e (List.mem_of_mem_take he)
    · exact hfM e (List.mem_of_mem_drop he)
  have h0A : ∀ x, (A = none → x ≤ g.es.length → x = 0) := fun x e hx => by have := hroom.1; have := h.none_ e; omega
  have hn0 : (n : Int) < (m : Int) := by omega
  have hsub : i - g.base = (p : Int) := by omega
  have hi2 : i ≤ 1099511727776 := by omega
  have hi3 : 0 ≤ i := by omega
  have hpl' : (p : Int) ≤ (g.es.length : Int) := by omega
  have hcn : ¬ c' = n := by omega
  have hpc : p + n ≤ c := by have := hroom.1; omega
  have HI := hid (And.intro hes (And.intro hslM (And.intro hlT (And.intro hlM (And.intro hlen (And.intro hfew h0A))))))
  subst hA'
  clear h h' hb1 hs1 hes hes' hw1 hn hf hfM hsl hip hnn hslM hadd hlT hlM hlen hfew h0A
  go_enter Try.func25, Try.ntmps25
  go_wp2_with fail
  refine HC.out.mono ?_
  rintro e w2 ⟨rfl, hb2⟩
  rw [← HW.out] at hb2
  rw [H1.out.2] at hb2
  have HB2 := hid hb2
  have HB2' := hid (H1.out.1.trans (hb2.mono (by omega)))
  obtain ⟨⟨q0, q1, q2⟩, _, f0, _⟩ := HQ.out w2 hb2
  have hs2 : w.heap.size + 2 ≤ w2.heap.size := by have := hb2.size; have := H1.out.2; omega
  clear hb2
  go_wp2_with fail
  refine (HK.out w2 HB2'.out _).mono ?_
  rintro e w5 ⟨rfl, j5, hw5⟩
  have hb5 : Below w2.heap.size w2 w5 := by rw [hw5]; exact below_drewN (Below.refl _ _) j5
  have HB5 := hid (HB2.out.trans (hb5.mono hs2))
  have HB5' := hid (HB2'.out.trans (hb5.mono HB2'.out.size))
  obtain ⟨⟨o0, o1, o2⟩, _, f5, _⟩ := HQ.out w5 HB5.out
  have hs5 : w.heap.size + 2 ≤ w5.heap.size := Nat.le_trans hs2 hb5.size
  clear hw5 hb5 q0 q1 q2 f0 HK
  go_wp2_with fail
  have hwr : IntKind.i64.wrap ((p : Int) + (n : Int)) = (p : Int) + (n : Int) := by rw [IntKind.wrap_i64]; omega
  have hq0 : (0 : Int) ≤ (p : Int) + (n : Int) := by omega
  have hq1 : (p : Int) + (n : Int) ≤ (c : Int) := by omega
  have hq2 : ((p : Int) + (n : Int)).toNat = p + n := by omega
  have hnm0 : (n : Int) ≤ (m : Int) := by omega
  go_region_law (refine step_append_full (by rfl) _ _ (by rfl) (A := A) ((HI.out.1.take (p + n)).below (HB5'.out.trans ((Below.refl _ w5).drew.mono HB5'.out.size))) (HI.out.2.1.below (HB5'.out.trans ((Below.refl _ w5).drew.mono HB5'.out.size))) (by have := HB5'.out.size; simpa using this) (p + n) (m - n) (c' - n) HI.out.2.2.1 HI.out.2.2.2.1 (fun e => HI.out.2.2.2.2.2.2 _ e hpn) (by omega) (by omega) (by simp [Act.eval, Act.put]) (by simp [Act.eval, Act.put]) ?_; intro A6 c6 w6 hE6 hb6; have hb7 := (Below.refl _ w5).drew.trans hb6; have hk6 := HQ.out w6 (HB5.out.trans (hb7.mono hs5)); have z2 := hk6.1.2.2; have y0 := hk6.2.2.1)
  have hs7 := hb7.size
  have hs71 : w5.drew.heap.size = w5.heap.size := rfl
  have hE7 := hE6.keep (Turned.one w6 w.heap.size 2 (.slice A6 (p + n + (m - n)) c6)) (by have := HB5'.out.size; omega) (fun k hk => by have hk : k = w.heap.size := hk; omega)
  have hsz7 : (w6.setCell ⟨w.heap.size, 2, none⟩ (.slice A6 (p + n + (m - n)) c6)).heap.size = w6.heap.size := by simp [World.setCell]
  have HR7 := hid (hE7.reads (by rw [hsz7]; have := HB5'.out.size; omega))
  have HB7 := hid (And.intro (HB5.out.trans (hb7.mono hs5)) (HB5'.out.trans (hb7.mono HB5'.out.size)))
  have HQ7 : Hid (∀ w8, Below w6.heap.size (w6.setCell ⟨w.heap.size, 2, none⟩ (.slice A6 (p + m) c6)) w8 → (w8.cell? ⟨w.heap.size, 0, none⟩ = some (.int .i64 g.base) ∧ w8.cell? ⟨w.heap.size, 1, none⟩ = some (.int .i64 g.term) ∧ w8.cell? ⟨w.heap.size, 2, none⟩ = some (.slice A6 (p + m) c6)) ∧ (w8.cell? ⟨w.heap.size + 1, 0, none⟩ = some (.int .i64 0) ∧ w8.cell? ⟨w.heap.size + 1, 1, none⟩ = some (.int .i64 0) ∧ w8.cell? ⟨w.heap.size + 1, 2, none⟩ = some (.slice none 0 0)) ∧ (∀ k, w8.frozen? ⟨w.heap.size, k, none⟩ = false) ∧ ∀ k, w8.frozen? ⟨w.heap.size + 1, k, none⟩ = false) := hid (fun w8 hb8 => by
    obtain ⟨⟨e0, e1, e2⟩, ⟨e3, e4, e5⟩, e6, e7⟩ := hk6
    have o1 : ∀ k, k ≠ 2 → (w6.setCell ⟨w.heap.size, 2, none⟩ (.slice A6 (p + m) c6)).cell? ⟨w.heap.size, k, none⟩ = w6.cell? ⟨w.heap.size, k, none⟩ := fun k hk => World.cell?_setCell_other _ _ _ _ (fun e => by injection e with _ e; exact hk e.symm)
    have o2 : ∀ k, (w6.setCell ⟨w.heap.size, 2, none⟩ (.slice A6 (p + m) c6)).cell? ⟨w.heap.size + 1, k, none⟩ = w6.cell? ⟨w.heap.size + 1, k, none⟩ := fun k => World.cell?_setCell_other _ _ _ _ (fun e => by injection e with e _; omega)
    have l0 : w.heap.size < w6.heap.size := by omega
    have l1 : w.heap.size + 1 < w6.heap.size := by omega
    refine ⟨⟨?_, ?_, ?_⟩, ⟨?_, ?_, ?_⟩, fun k => ?_, fun k => ?_⟩
    · rw [hb8.cell l0, o1 0 (by decide)]; exact e0
    · rw [hb8.cell l0, o1 1 (by decide)]; exact e1
    · rw [hb8.cell l0]; exact World.cell?_setCell_same _ _ _ e2
    · rw [hb8.cell l1, o2]; exact e3
    · rw [hb8.cell l1, o2]; exact e4
    · rw [hb8.cell l1, o2]; exact e5
    · rw [hb8.frozen l0]; simpa using e6 k
    · rw [hb8.frozen l1]; simpa using e7 k)
  have hv : p + n + (m - n) = p + m := by omega
  rw [hv] at HR7 hsz7 ⊢
  have T7 := Turned.one w6 w.heap.size 2 (.slice A6 (p + m) c6)
  have HB7 : Hid (Below w.heap.size w (w6.setCell ⟨w.heap.size, 2, none⟩ (.slice A6 (p + m) c6))) := hid ((HB5'.out.trans (hb7.mono HB5'.out.size)).trans (T7.below (by omega) (fun k hk => Nat.le_of_eq (Eq.symm hk))))
  have hs6 : w.heap.size + 2 ≤ w6.heap.size := by omega
  obtain ⟨w7, hw7⟩ : ∃ w7, w7 = w6.setCell ⟨w.heap.size, 2, none⟩ (.slice A6 (p + m) c6) := ⟨_, rfl⟩
  rw [← hw7] at HR7 HQ7 HB7 hsz7 ⊢
  have HO : Hid (Calls Try.prog 31 #[.slice A6 (p + m) c6] w7 fun e w'' => ∃ A' c', e = .returned (.slice A' (p + m) c') ∧ OwnE w'' w7.heap.size w''.heap.size A' c' (g.es.take (p + n) ++ M.drop n) ∧ Below w7.heap.size w7 w'') := hid (own_any w7.heap.size A6 c6 _ _ HI.out.2.2.2.2.1 (by omega) HI.out.2.2.2.2.2.1 w7 HR7.out (Nat.le_refl _))
  obtain ⟨⟨z0, z1, z2⟩, _, y0, _⟩ := HQ7.out w7 (Below.refl _ _)
  clear hE6 hE7 hb6 hb7 hk6 hw7 o0 o1 o2 f5 HR7 T7 hv hwr hq0 hq1 hq2
  go_wp2_with fail
  refine HO.out.mono ?_
  rintro e w8 ⟨A3, c3, rfl, ho3, hb3⟩
  obtain ⟨⟨p0, p1, p2⟩, ⟨r0, r1, r2⟩, f1, f3⟩ := HQ7.out w8 (by rw [← hsz7]; exact hb3)
  have hs3 := hb3.size
  have H3 := hid (app_end (w := w) (N := w7.heap.size) (by omega) ho3 (HB7.out.trans (hb3.mono HB7.out.size)))
  have hs8 : w.heap.size + 2 ≤ w8.heap.size := by omega
  clear hb3 ho3 HO HC z0 z1 z2 y0
  go_wp2_with fail
  refine bodyPost_ret (by simp [results, Try.results25, go_sem, r0, r1, r2]; try rfl) rfl ?_
  exact ⟨A3, c3, rfl, H3.out _ _ _ _⟩
/-- Append tells the log with the entries, and the index of the first one that is new, in new memory -/
theorem app_any (B : Nat) (g : Rl.Lg) (A A' : Option Addr) (c c' : Nat) (i : Int) (m : Nat) (M : List Rl.En) (hm : M.length = m) (hm' : m ≤ 30000) (hg : Rl.Ok g) (hf : Rl.Few g.es) (hfM : Rl.Few M) (w : World) (h : LgIs w B g A c) (h' : IsEnts w B A' M) (hcM : m ≤ c' ∧ c' ≤ maxLen) (hB : B ≤ w.heap.size) :
    Calls Try.prog 25 #[.agg #[.int .i64 g.base, .int .i64 g.term, .slice A g.es.length c], .int .i64 i, .slice A' m c'] w fun e w' => ∃ A2 c2, e = .returned (.tuple #[.agg #[.int .i64 g.base, .int .i64 g.term, .slice A2 (g.appE i M).length c2], .int .i64 (g.appI i M)]) ∧ OwnE w' w.heap.size w'.heap.size A2 c2 (g.appE i M) ∧ Below w.heap.size w w' := by
  by_cases hh : g.has i = true ∧ g.there (g.pl i) M < m
  · obtain ⟨p, h1, h2, h3⟩ := Rl.Lg.has_at hh.1
    have e1 : g.appE i M = g.es.take (p + g.there p M) ++ M.drop (g.there p M) := by unfold Rl.Lg.appE; rw [if_pos (by rw [hm]; exact hh), h3]
    have e2 : g.appI i M = i + (g.there p M : Nat) + 1 := by unfold Rl.Lg.appI; rw [if_pos (by rw [hm]; exact hh), h3]
    have hlt : g.there p M < m := by rw [← h3]; exact hh.2
    have e3 : (g.appE i M).length = p + m := by
      have := (Rl.alike_le (g.es.drop p) M).1
      rw [List.length_drop] at this
      rw [e1, List.length_append, List.length_take, List.length_drop]
      unfold Rl.Lg.there at hlt ⊢
      omega
    rw [e3, e2, e1]
    exact app_new B g A A' c c' i p _ m M hm hm' hg hf hfM h1 h2 rfl hlt w h h' hcM hB
  · have e1 : g.appE i M = g.es := by unfold Rl.Lg.appE; rw [if_neg (by rw [hm]; exact hh)]
    have e2 : g.appI i M = 0 := by unfold Rl.Lg.appI; rw [if_neg (by rw [hm]; exact hh)]
    rw [e1, e2]
    refine app_same B g A A' c c' i m M hm hm' hg hf ?_ w h h' hB
    rcases e : g.has i with _ | _
    · exact .inl rfl
    · exact .inr ⟨rfl, fun hl => hh ⟨e, hl⟩⟩
end Go.Proofs.Ythocdknfkmclkaa
