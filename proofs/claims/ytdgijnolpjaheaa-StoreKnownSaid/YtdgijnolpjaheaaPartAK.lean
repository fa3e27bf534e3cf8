/- Texts of the proof, one behind the other: JoG, JoH, RowL, JoI. -/
import Derived.Test.YtdgijnolpjaheaaPartAJ
import Derived.StillTailTactics
import Derived.Test.YtdgijnolpjaheaaPartAF
import Derived.Test.YtdgijnolpjaheaaPartAI
import Derived.Test.YtdgijnolpjaheaaPartAD
namespace Go.Proofs.Ytdgijnolpjaheaa
open Go.RowKit

attribute [local go_sem] Oper.semAt_some

namespace J
theorem pieces_any (A : Option Addr) (n c : Nat) (w : World) :
    Calls Try.prog 62 #[.slice A n c] w fun e w' => e = .returned (.func (.func 74) #[] #[.pointer (some ⟨w.heap.size, 0, none⟩)]) ∧ w' = w.alloc (.cells #[.slice A n c] 32) := by
  go_enter Try.func62, Try.ntmps62
  go_wp2
  go_ret
  exact ⟨rfl, rfl⟩

/-- what an Append that has room does -/
structure AppR (Z : Nat → Prop) (d : Dk) (s : Sx.St) (g : Nat) (e : Int) (a r q : Nat) (l : List Nat) (n : Nat) (w : World) (e' : Ending) (w' : World) : Prop where
  ret : e' = .returned (.int .i64 (Jo.run s a (Jo.secsOf e (q + 1 : Nat) l)).1)
  disk : DiskAt w' Z d (Jo.run s a (Jo.secsOf e (q + 1 : Nat) l)).2
  jn : JAt w' g (if (Jo.run s a (Jo.secsOf e (q + 1 : Nat) l)).1 = 0 then ⟨d.g, e, (a + Jo.secs n : Nat), (r - Jo.secs n : Nat), (q + 1 : Nat)⟩ else ⟨d.g, e, a, r, q⟩)
  turned : Turned (fun k => d.has k ∨ k = g) w w'
theorem res_cell (tmps : Array Value) (w : World) (b : Nat) (E : Int) (ht : tmps[4]?.getD undef = .pointer (some ⟨b, 0, none⟩)) (hc : w.cell? ⟨b, 0, none⟩ = some (.int .i64 E)) : (results Try.f47 tmps).run Try.prog w = .ok (.int .i64 E) w := by
  simp [results, Try.results47, go_sem, ht, hc]
theorem turned_put {S : Nat → Prop} {a b : World} {D : Nat} (h : Turned S a b) (hD : a.heap.size ≤ D) (o : Obj) : Turned S a (b.putObj D o) :=
  h.others (B := D) hD (grownBy_putObj' b D o) (fun r e => by cases e; exact Nat.le_refl _)
theorem disk_put {b : World} {Z : Nat → Prop} {d : Dk} {s : Sx.St} (h : DiskAt b Z d s) {D B : Nat} (hd : ∀ k, d.has k → k < B) (hD : B ≤ D) {o : Obj} (hK : b.heap[D]? = some o) (ho : o.isCells = false) (o' : Obj) : DiskAt (b.putObj D o') Z d s :=
  h.others hd (grownBy_putObj' b D o') (fun r e => by cases e; exact ⟨hD, o, hK, ho⟩)
theorem jn_put {b : World} {g : Nat} {j : Jn} (h : JAt b g j) {D : Nat} (hD : g ≠ D) (o : Obj) : JAt (b.putObj D o) g j := (World.putObj_heap_other hD).trans h

set_option maxRecDepth 100000 in
set_option maxHeartbeats 2000000 in
theorem append_goes (Z : Nat → Prop) (d : Dk) (s : Sx.St) (g : Nat) (e : Int) (a r q : Nat) (he : InInt e) (ha : a ≤ 100000) (hr : r ≤ 100000) (hq : q ≤ 100000) (w : World) (hZ : ∀ k, Z k → k < w.heap.size) (hD : DiskAt w Z d s) (hJ : JAt w g ⟨d.g, e, a, r, q⟩)
    (A : Option Addr) (c : Nat) (l : List Nat) (n : Nat) (hn : l.length = n) (hc : n ≤ c) (hcm : c ≤ maxLen) (hz : A = none → c = 0) (hin : ∀ w', Turned d.has w w' → IsBytes w' w'.heap.size A l) (hlong : n ≤ 32768) (hroom : Jo.secs n ≤ r) :
    Calls Try.prog 47 #[.pointer (some ⟨g, 0, none⟩), .slice A n c] w (AppR Z d s g e a r q l n w) := by
  obtain ⟨c0, c1, c2, c3, c4⟩ := hJ.cells
  have HS : Hid (∀ w' : World, Calls Try.prog 61 #[.int .i64 (n : Int)] w' fun e w2 => e = .returned (.int .i64 (Jo.secs n : Nat)) ∧ ∃ j, w2 = w'.drewN j) := hid (fun w' => (sectors_any n (by omega) w').mono fun _ _ ⟨h1, h2⟩ => ⟨h1, 0, h2⟩)
  have hgt : ¬ (32768 : Int) < n := by omega
  have hrm : ¬ (r : Int) < (Jo.secs n : Nat) := by omega
  refine (callsIn_wide (n := 9)).1 ?_
  refine callsIn_of_wp_marks Try.func47 rfl trivial ?_
  simp only [Try.ntmps47, List.size_toArray, List.length_cons, List.length_nil, Nat.reduceAdd, Nat.reduceSub, Array.replicate_succ, Array.replicate_zero, List.push_toArray, List.append_toArray, List.nil_append, List.cons_append]
  refine wpIn_wide.2 ?_
  have HX := hid (And.intro (And.intro he (And.intro ha (And.intro hr hq))) (And.intro hZ (And.intro hD (And.intro hJ (And.intro hz (And.intro hin hcm))))))
  clear he ha hr hq hZ hD hJ hz hin hcm c0 c1 c4
  go_wp2_with fail
  obtain ⟨w2, hw2⟩ : ∃ w2, w2 = (w.alloc (.cells #[.pointer (some ⟨g, 0, none⟩)] 58)).alloc (.cells #[.int .i64 0] 29) := ⟨_, rfl⟩
  rw [← hw2]
  have hs2 : w2.heap.size = w.heap.size + 1 + 1 := by rw [hw2]; simp
  have hb2 : Below w.heap.size w w2 := by rw [hw2]; exact ((Below.refl _ w).alloc (Nat.le_refl _) _).alloc (by simp) _
  have hj2 : w2.heap[w.heap.size]? = some (.cells #[.pointer (some ⟨g, 0, none⟩)] 58 (0, 0)) := by rw [hw2]; exact (Below.heap_alloc _ _ _ (by simp)).trans (heap_alloc_new w _)
  have hr2 : w2.heap[w.heap.size + 1]? = some (.cells #[.int .i64 0] 29 (0, 0)) := by
    have := heap_alloc_new (w.alloc (.cells #[.pointer (some ⟨g, 0, none⟩)] 58)) (.cells #[.int .i64 0] 29)
    rw [World.size_alloc] at this
    rw [hw2]; exact this
  have k2 : w2.cell? ⟨g, 2, none⟩ = some (.int .i64 (a : Int)) := (hb2.cell (p := ⟨g, 2, none⟩) HX.out.2.2.2.1.lt).trans c2
  have k3 : w2.cell? ⟨g, 3, none⟩ = some (.int .i64 (r : Int)) := (hb2.cell (p := ⟨g, 3, none⟩) HX.out.2.2.2.1.lt).trans c3
  have kj : w2.cell? ⟨w.heap.size, 0, none⟩ = some (.pointer (some ⟨g, 0, none⟩)) := by simp [World.cell?, hj2]
  have H2 := hid (And.intro hs2 (And.intro hb2 (And.intro hj2 hr2)))
  clear hw2 hs2 hb2 hj2 hr2 c2 c3
  go_quiet ((go_at_call 61; exact Calls.quiet_of (HS.out _)))
  obtain ⟨w3, hw3⟩ : ∃ w3, w3 = w2.drewN nq := ⟨_, rfl⟩
  rw [← hw3]
  have hb3 : Below w2.heap.size w2 w3 := by rw [hw3]; exact below_drewN (Below.refl _ _) nq
  have hs3 : w3.heap.size = w.heap.size + 1 + 1 := by rw [hw3]; exact H2.out.1
  have k2 : w3.cell? ⟨g, 2, none⟩ = some (.int .i64 (a : Int)) := (hb3.cell (p := ⟨g, 2, none⟩) (World.block_lt_of_cell? _ _ k2)).trans k2
  have kj : w3.cell? ⟨w.heap.size, 0, none⟩ = some (.pointer (some ⟨g, 0, none⟩)) := (hb3.cell (p := ⟨w.heap.size, 0, none⟩) (World.block_lt_of_cell? _ _ kj)).trans kj
  have hj3 : w3.heap[w.heap.size]? = some (.cells #[.pointer (some ⟨g, 0, none⟩)] 58 (0, 0)) := (hb3.block _ (by have := H2.out.1; omega)).trans H2.out.2.2.1
  have hr3 : w3.heap[w.heap.size + 1]? = some (.cells #[.int .i64 0] 29 (0, 0)) := (hb3.block _ (by have := H2.out.1; omega)).trans H2.out.2.2.2
  have H3 := hid (And.intro hs3 (And.intro (H2.out.2.1.trans (hb3.mono (by have := H2.out.1; omega))) (And.intro hj3 hr3)))
  clear hw3 hb3 hs3 hj3 hr3 k3 H2
  go_wp2_with fail
  refine (pieces_any A n c _).mono ?_
  rintro e0 w0 ⟨rfl, hw0⟩
  go_wp2_with fail
  have hs3 := H3.out.1
  rw [← hw0, hs3]
  have hs0 : w0.heap.size = w.heap.size + 1 + 1 + 1 + 1 := by rw [hw0]; simp [hs3]
  have hl0 : ∀ k, k < w.heap.size + 1 + 1 → w0.heap[k]? = w3.heap[k]? := fun k hk => by
    rw [hw0, Below.heap_alloc _ _ _ (by simp; omega), Below.heap_alloc _ _ _ (by omega)]
  have hB0 : Below w.heap.size w w0 := by
    refine ⟨?_, ?_, ?_, by omega, fun k hk => (hl0 k (by omega)).trans (H3.out.2.1.block k hk)⟩
    · rw [hw0]; exact H3.out.2.1.os
    · rw [hw0]; exact H3.out.2.1.tape
    · rw [hw0]; exact H3.out.2.1.output
  have hV0 : Vs w w0 d g ((a + 0 : Nat) : Int) 0 := by
    refine ⟨Turned.ofBelow _ hB0, (hl0 _ (by omega)).trans H3.out.2.2.1, (hl0 _ (by omega)).trans H3.out.2.2.2, ?_⟩
    rw [hw0, Below.heap_alloc _ _ _ (by simp; omega), ← hs3]
    exact heap_alloc_new w3 _
  have hD0 : DiskAt w0 Z d s := HX.out.2.2.1.below hB0
  have hp0 : w0.cell? ⟨w.heap.size + 1 + 1 + 1, 0, none⟩ = some (.slice A n c) := by
    have := heap_alloc_new (w3.alloc (.cells #[.int .i64 (a : Int)] 3)) (.cells #[.slice A n c] 32)
    rw [World.size_alloc, hs3] at this
    rw [hw0]
    simp only [World.cell?, this]
    rfl
  have hdl : ∀ k, d.has k → k < w.heap.size := HX.out.2.2.1.lt
  have H0 := hid (And.intro hs0 (And.intro hV0 (And.intro hD0 (And.intro hp0 hdl))))
  clear hs0 hV0 hD0 hp0 hl0 hB0 hw0 hs3 H3 hdl
  refine (wpIn_wide (n := 9)).1 ?_
  refine wpIn_rangeFunc_ownG (n := 9) rfl (by omega) (gf := 74) (lb := #[.pointer (some ⟨w.heap.size + 1 + 1 + 1, 0, none⟩)]) rfl trivial (enters_of Try.func74 (by kernel_rfl) rfl)
    (encs := pieceE A n c) (Kp := fun _ _ => True) (S := fun xs => xs = List.finRange (Jo.secs n)) (Sp := fun xs => ∃ k, k ≤ Jo.secs n ∧ xs = upto k) (N := Jo.secs n) (w0 := w0) ?seq (fun _ _ => trivial) (fun _ _ _ _ _ _ _ _ => trivial) (Below.refl _ _) (fun _ => rfl)
    (fun pre W => Hid (Jo.okL s a (pre.map fun x => Jo.sec e (q + 1 : Nat) l x.1) ∧ Vs w W d g ((a + pre.length : Nat) : Int) 0 ∧ DiskAt W Z d (Jo.wrL s a (pre.map fun x => Jo.sec e (q + 1 : Nat) l x.1))))
    (fun cd pre W => cd = .ret ∧ Hid (∃ pre' x, pre = pre' ++ [x] ∧ Jo.okL s a (pre'.map fun x => Jo.sec e (q + 1 : Nat) l x.1) ∧
      Sx.wrE (Jo.wrL s a (pre'.map fun x => Jo.sec e (q + 1 : Nat) l x.1)) ((a + pre'.length : Nat) : Int) (Jo.sec e (q + 1 : Nat) l x.1) ≠ 0 ∧
      Vs w W d g ((a + pre'.length : Nat) : Int) (Sx.wrE (Jo.wrL s a (pre'.map fun x => Jo.sec e (q + 1 : Nat) l x.1)) ((a + pre'.length : Nat) : Int) (Jo.sec e (q + 1 : Nat) l x.1)) ∧
      DiskAt W Z d (Jo.wrL s a (pre.map fun x => Jo.sec e (q + 1 : Nat) l x.1))))
    ?own ?ownx ?start ?a1 ?assign ?body ?done ?stop
  case assign =>
    intro lp x W K hK
    simp only [pieceE]
    gi_wp2
    exact hK
  case seq =>
    intro lp J Jx W hW hJ hJx hY h0
    refine (pieces1_in 7 lp (w.heap.size + 1 + 1 + 1) A n c (by omega) hc HX.out.2.2.2.2.2.2 ?_ J Jx (fun pre x W1 hj hl => (hY pre x W1 hj hl).mono ?_) ?_ W ((hW.cell (p := ⟨w.heap.size + 1 + 1 + 1, 0, none⟩) (by have := H0.out.1; show w.heap.size + 1 + 1 + 1 < w0.heap.size; omega)).trans H0.out.2.2.2.1) h0).mono ?_
    · intro h40
      obtain ⟨b, off, e1, _⟩ := (HX.out.2.2.2.2.2.1 w (Turned.refl _ _)).cells 0 (by omega)
      exact ⟨b, off, e1⟩
    · rintro e1 w1 (⟨rfl, h1, _⟩ | ⟨rfl, h1⟩)
      · exact ⟨true, rfl, .inl ⟨rfl, h1⟩⟩
      · exact ⟨false, rfl, .inr ⟨rfl, h1⟩⟩
    · intro s1 W1 h1
      exact hJ s1 W1 _ none h1 ⟨rfl, rfl, rfl, Nat.le_refl _, fun _ _ _ => rfl⟩ (fun r1 e1 => by cases e1)
    · rintro e1 w1 ⟨h1, ⟨ys, rfl, h2⟩ | ⟨k, hk, h2⟩⟩
      · exact ⟨h1, .inl ⟨_, rfl, h2⟩⟩
      · exact ⟨h1, .inr ⟨_, ⟨k, hk, rfl⟩, h2⟩⟩
  case own =>
    intro pre W W' row hI hg hr
    refine hid ⟨hI.out.1, hI.out.2.1.others (B := w0.heap.size) (by have := H0.out.1; omega) hg (fun r1 e1 => (hr r1 e1).1), hI.out.2.2.others (B := w0.heap.size) (fun k hk => by have := H0.out.2.2.2.2 k hk; have := H0.out.1; omega) hg hr⟩
  case ownx =>
    rintro cd pre W W' row ⟨rfl, hI⟩ hg hr
    obtain ⟨pre', x, h1, h2, h3, h4, h5⟩ := hI.out
    exact ⟨rfl, hid ⟨pre', x, h1, h2, h3, h4.others (B := w0.heap.size) (by have := H0.out.1; omega) hg (fun r1 e1 => (hr r1 e1).1), h5.others (B := w0.heap.size) (fun k hk => by have := H0.out.2.2.2.2 k hk; have := H0.out.1; omega) hg hr⟩⟩
  case start => exact hid ⟨trivial, H0.out.2.1, H0.out.2.2.1⟩
  case body =>
    rintro lp pre x W hI hlen
    obtain ⟨A', hpv, hpb, hpn⟩ := piece_is (HX.out.2.2.2.2.2.1 W hI.out.2.1.turned) hn HX.out.2.2.2.2.1 x.1
    obtain ⟨k', hk'⟩ : ∃ k', k' = min 40 (n - 40 * x.1) := ⟨_, rfl⟩
    obtain ⟨c', hc'⟩ : ∃ c', c' = c - 40 * x.1 := ⟨_, rfl⟩
    obtain ⟨mk, hmk⟩ : ∃ mk, mk = Jo.mark x.1 (decide (x.1 + 1 = Jo.secs n)) := ⟨_, rfl⟩
    rw [← hk', ← hc'] at hpv
    rw [← hc'] at hpn
    gi_wp2
    rw [hpv, ← hmk]
    have hJW := hI.out.2.1.jn HX.out.2.2.2.1 (JAt.not_disk HX.out.2.2.2.1 HX.out.2.2.1)
    have hq100 : (q : Int) ≤ 100000 := by have := HX.out.1.2.2.2; omega
    have hS : (fun w' : World => w'.cell? ⟨w.heap.size, 0, none⟩ = some (.pointer (some ⟨g, 0, none⟩)) ∧ w'.cell? ⟨g, 1, none⟩ = some (.int .i64 e) ∧ w'.cell? ⟨g, 4, none⟩ = some (.int .i64 (q : Int))) W.drew := ⟨hI.out.2.1.cells.1, hJW.cells.2.1, hJW.cells.2.2.2.2⟩
    refine wpIn_region_held (fun w' : World => w'.cell? ⟨w.heap.size, 0, none⟩ = some (.pointer (some ⟨g, 0, none⟩)) ∧ w'.cell? ⟨g, 1, none⟩ = some (.int .i64 e) ∧ w'.cell? ⟨g, 4, none⟩ = some (.int .i64 (q : Int))) (by kernel_rfl) (by kernel_rfl) (by rintro ⟨_, _, h⟩; exact h) ?_
    refine take_first 0 (.pointer (some ⟨g, 0, none⟩)) rfl rfl (by kernel_rfl) (by kernel_rfl) (by kernel_rfl) (fun _ _ _ _ h => h) (by rfl) ?_ hS ?_
    · intro w' hSw
      obtain ⟨hc1, hc2, hc3⟩ := hSw
      go_simp
    simp only [List.setIfInBounds_toArray, List.set_cons_zero, List.set_cons_succ]
    refine take_first 1 (.pointer (some ⟨g, 0, none⟩)) rfl rfl (by kernel_rfl) (by kernel_rfl) (by kernel_rfl) (fun _ _ _ _ h => h) (by rfl) ?_ hS ?_
    · intro w' hSw
      obtain ⟨hc1, hc2, hc3⟩ := hSw
      go_simp
    simp only [List.setIfInBounds_toArray, List.set_cons_zero, List.set_cons_succ]
    refine take_first 2 (.pointer (some ⟨g, 1, none⟩)) rfl rfl (by kernel_rfl) (by kernel_rfl) (by kernel_rfl) (fun _ _ _ _ h => h) (by rfl) ?_ hS ?_
    · intro w' hSw
      obtain ⟨hc1, hc2, hc3⟩ := hSw
      go_simp
    simp only [List.setIfInBounds_toArray, List.set_cons_zero, List.set_cons_succ]
    refine take_first 3 (.int .i64 e) rfl rfl (by kernel_rfl) (by kernel_rfl) (by kernel_rfl) (fun _ _ _ _ h => h) (by rfl) ?_ hS ?_
    · intro w' hSw
      obtain ⟨hc1, hc2, hc3⟩ := hSw
      go_simp
    simp only [List.setIfInBounds_toArray, List.set_cons_zero, List.set_cons_succ]
    refine take_first 4 (.pointer (some ⟨g, 0, none⟩)) rfl rfl (by kernel_rfl) (by kernel_rfl) (by kernel_rfl) (fun _ _ _ _ h => h) (by rfl) ?_ hS ?_
    · intro w' hSw
      obtain ⟨hc1, hc2, hc3⟩ := hSw
      go_simp
    simp only [List.setIfInBounds_toArray, List.set_cons_zero, List.set_cons_succ]
    refine take_first 5 (.pointer (some ⟨g, 0, none⟩)) rfl rfl (by kernel_rfl) (by kernel_rfl) (by kernel_rfl) (fun _ _ _ _ h => h) (by rfl) ?_ hS ?_
    · intro w' hSw
      obtain ⟨hc1, hc2, hc3⟩ := hSw
      go_simp
    simp only [List.setIfInBounds_toArray, List.set_cons_zero, List.set_cons_succ]
    refine take_first 6 (.pointer (some ⟨g, 4, none⟩)) rfl rfl (by kernel_rfl) (by kernel_rfl) (by kernel_rfl) (fun _ _ _ _ h => h) (by rfl) ?_ hS ?_
    · intro w' hSw
      obtain ⟨hc1, hc2, hc3⟩ := hSw
      go_simp
    simp only [List.setIfInBounds_toArray, List.set_cons_zero, List.set_cons_succ]
    refine take_first 7 (.int .i64 (q : Int)) rfl rfl (by kernel_rfl) (by kernel_rfl) (by kernel_rfl) (fun _ _ _ _ h => h) (by rfl) ?_ hS ?_
    · intro w' hSw
      obtain ⟨hc1, hc2, hc3⟩ := hSw
      go_simp
    simp only [List.setIfInBounds_toArray, List.set_cons_zero, List.set_cons_succ]
    refine take_first 8 (.int .i64 ((q : Int) + 1)) rfl rfl (by kernel_rfl) (by kernel_rfl) (by kernel_rfl) (fun _ _ _ _ h => h) (by rfl) ?_ hS ?_
    · intro w' hSw
      go_simp
      rw [IntKind.wrap_i64]; omega
    simp only [List.setIfInBounds_toArray, List.set_cons_zero, List.set_cons_succ]
    refine take_first 9 (.int .i64 (mk : Int)) rfl rfl (by kernel_rfl) (by kernel_rfl) (by kernel_rfl) (fun _ _ _ _ h => h) (by rfl) ?_ hS ?_
    · intro w' hSw
      obtain ⟨hc1, hc2, hc3⟩ := hSw
      go_simp
    simp only [List.setIfInBounds_toArray, List.set_cons_zero, List.set_cons_succ]
    refine take_first 11 (.slice A' k' c') rfl rfl (by kernel_rfl) (by kernel_rfl) (by kernel_rfl) (fun _ _ _ _ h => h) (by rfl) ?_ hS ?_
    · intro w' hSw
      obtain ⟨hc1, hc2, hc3⟩ := hSw
      go_simp
    simp only [List.setIfInBounds_toArray, List.set_cons_zero, List.set_cons_succ]
    refine go_next 10 rfl rfl (by kernel_rfl) ?_
    refine wp_of_call rfl 63 #[.int .i64 e, .int .i64 ((q : Int) + 1), .int .i64 (mk : Int)] ?_ ?_
    · go_simp
    have hmkb : mk ≤ 100000 := by have := Jo.secs_le n hlong; have := x.2; rw [hmk]; unfold Jo.mark; split <;> omega
    refine (head_any e ((q : Int) + 1) (mk : Int) HX.out.1.1 (by unfold InInt; omega) (by unfold InInt; omega) W.drew).mono ?_
    rintro e1 w1 ⟨A2, c2, rfl, hown, hb⟩
    refine ⟨_, rfl, ⟨(hb.cell (World.block_lt_of_cell? _ _ hS.1)).trans hS.1, (hb.cell (World.block_lt_of_cell? _ _ hS.2.1)).trans hS.2.1, (hb.cell (World.block_lt_of_cell? _ _ hS.2.2)).trans hS.2.2⟩, ?_⟩
    simp only [List.setIfInBounds_toArray, List.set_cons_zero, List.set_cons_succ]
    refine go_next 12 rfl rfl (by kernel_rfl) ?_
    obtain ⟨i0, hi, hz0, hz1, hz2⟩ := info_parts info_u8
    refine wp_append_bytes rfl (.tmp 42) (.tmp 43) 32 rfl W.heap.size 5 i0 Try.underlying32 hi hz0 hz1 hz2 A2 c2 _ 24 rfl rfl hown W.heap.size A' c' _ k' (by rw [Jo.piece_length, hn, hk']) rfl hpn (hpb.drew.below hb) (by omega) hb.size ?_
    intro A3 c3 w3 hown3 hgrow
    have hb3 : Below W.heap.size W.drew w3 := hb.trans (below_grown (B := W.heap.size) hgrow hb.size (fun k hk => (hown.blkLt k hk).1))
    have hS3 : (fun w' : World => w'.cell? ⟨w.heap.size, 0, none⟩ = some (.pointer (some ⟨g, 0, none⟩)) ∧ w'.cell? ⟨g, 1, none⟩ = some (.int .i64 e) ∧ w'.cell? ⟨g, 4, none⟩ = some (.int .i64 (q : Int))) w3 := ⟨(hb3.cell (World.block_lt_of_cell? _ _ hS.1)).trans hS.1, (hb3.cell (World.block_lt_of_cell? _ _ hS.2.1)).trans hS.2.1, (hb3.cell (World.block_lt_of_cell? _ _ hS.2.2)).trans hS.2.2⟩
    refine ⟨hS3, ?_⟩
    simp only [List.setIfInBounds_toArray, List.set_cons_zero, List.set_cons_succ]
    refine take_first 13 (.slice A3 (24 + k') c3) rfl rfl (by kernel_rfl) (by kernel_rfl) (by kernel_rfl) (fun _ _ _ _ h => h) (by rfl) ?_ hS3 ?_
    · intro w' hSw
      go_simp
    simp only [List.setIfInBounds_toArray, List.set_cons_zero, List.set_cons_succ]
    refine wpAnyH_done (by kernel_rfl) ?_ _
    have hbW : Below W.heap.size W w3 := (Below.refl _ W).drew.trans hb3
    have hsec : Jo.head e ((q : Int) + 1) (mk : Int) ++ Jo.piece l x.1 = Jo.sec e (q + 1 : Nat) l x.1 := by
      unfold Jo.sec Jo.lastAt
      rw [hn, hmk, Int.natCast_add]
      rfl
    rw [hsec] at hown3
    have HW := hid (And.intro hI.out (And.intro hbW (And.intro hown3 (And.intro (hI.out.2.1.below hbW) (And.intro (hI.out.2.2.below hbW) ((hI.out.2.1.below hbW).jn HX.out.2.2.2.1 (JAt.not_disk HX.out.2.2.2.1 HX.out.2.2.1)))))))
    clear hS3 hb3 hbW hsec hown3 hgrow hown hb hpb hpn hpv hS hJW
    gi_wp2
    have hS4 : (fun w' : World => w'.cell? ⟨w.heap.size, 0, none⟩ = some (.pointer (some ⟨g, 0, none⟩)) ∧ w'.cell? ⟨g, 0, none⟩ = some (.pointer (some ⟨d.g, 0, none⟩)) ∧ w'.cell? ⟨w.heap.size + 1 + 1, 0, none⟩ = some (.int .i64 ((a + pre.length : Nat) : Int))) w3.drew := ⟨HW.out.2.2.2.1.cells.1, HW.out.2.2.2.2.2.cells.1, HW.out.2.2.2.1.cells.2.2.2.1⟩
    refine wpIn_region_held (fun w' : World => w'.cell? ⟨w.heap.size, 0, none⟩ = some (.pointer (some ⟨g, 0, none⟩)) ∧ w'.cell? ⟨g, 0, none⟩ = some (.pointer (some ⟨d.g, 0, none⟩)) ∧ w'.cell? ⟨w.heap.size + 1 + 1, 0, none⟩ = some (.int .i64 ((a + pre.length : Nat) : Int))) (by kernel_rfl) (by kernel_rfl) (by rintro ⟨_, _, h⟩; exact h) ?_
    refine take_first 0 (.pointer (some ⟨g, 0, none⟩)) rfl rfl (by kernel_rfl) (by kernel_rfl) (by kernel_rfl) (fun _ _ _ _ h => h) (by rfl) ?_ hS4 ?_
    · intro w' hSw
      obtain ⟨hc1, hc2, hc3⟩ := hSw
      go_simp
    simp only [List.setIfInBounds_toArray, List.set_cons_zero, List.set_cons_succ]
    refine take_first 1 (.pointer (some ⟨g, 0, none⟩)) rfl rfl (by kernel_rfl) (by kernel_rfl) (by kernel_rfl) (fun _ _ _ _ h => h) (by rfl) ?_ hS4 ?_
    · intro w' hSw
      obtain ⟨hc1, hc2, hc3⟩ := hSw
      go_simp
    simp only [List.setIfInBounds_toArray, List.set_cons_zero, List.set_cons_succ]
    refine take_first 2 (.pointer (some ⟨g, 0, none⟩)) rfl rfl (by kernel_rfl) (by kernel_rfl) (by kernel_rfl) (fun _ _ _ _ h => h) (by rfl) ?_ hS4 ?_
    · intro w' hSw
      obtain ⟨hc1, hc2, hc3⟩ := hSw
      go_simp
    simp only [List.setIfInBounds_toArray, List.set_cons_zero, List.set_cons_succ]
    refine take_first 3 (.pointer (some ⟨d.g, 0, none⟩)) rfl rfl (by kernel_rfl) (by kernel_rfl) (by kernel_rfl) (fun _ _ _ _ h => h) (by rfl) ?_ hS4 ?_
    · intro w' hSw
      obtain ⟨hc1, hc2, hc3⟩ := hSw
      go_simp
    simp only [List.setIfInBounds_toArray, List.set_cons_zero, List.set_cons_succ]
    refine take_first 4 (.int .i64 ((a + pre.length : Nat) : Int)) rfl rfl (by kernel_rfl) (by kernel_rfl) (by kernel_rfl) (fun _ _ _ _ h => h) (by rfl) ?_ hS4 ?_
    · intro w' hSw
      obtain ⟨hc1, hc2, hc3⟩ := hSw
      go_simp
    simp only [List.setIfInBounds_toArray, List.set_cons_zero, List.set_cons_succ]
    refine take_first 5 (.slice A3 (24 + k') c3) rfl rfl (by kernel_rfl) (by kernel_rfl) (by kernel_rfl) (fun _ _ _ _ h => h) (by rfl) ?_ hS4 ?_
    · intro w' hSw
      obtain ⟨hc1, hc2, hc3⟩ := hSw
      go_simp
    simp only [List.setIfInBounds_toArray, List.set_cons_zero, List.set_cons_succ]
    refine go_next 6 rfl rfl (by kernel_rfl) ?_
    refine wp_of_call rfl 19 #[.pointer (some ⟨d.g, 0, none⟩), .int .i64 ((a + pre.length : Nat) : Int), .slice A3 (24 + k') c3] ?_ ?_
    · go_simp
    have hdl := H0.out.2.2.2.2
    have hV3 := HW.out.2.2.2.1.below (Below.refl _ _).drew
    have hlen3 : (Jo.sec e (q + 1 : Nat) l x.1).length = 24 + k' := by rw [Jo.sec_length, Jo.piece_length, hn, hk']
    refine (write_any Z d (Jo.wrL s a (pre.map fun x => Jo.sec e (q + 1 : Nat) l x.1)) ((a + pre.length : Nat) : Int) A3 c3 (Jo.sec e (q + 1 : Nat) l x.1) (24 + k') hlen3 HW.out.2.2.1.none_ w3.drew (fun k hk => by have := HX.out.2.1 k hk; have := hV3.lt; omega) HW.out.2.2.2.2.1.drew
      (fun w' ht => bytes_turned HW.out.2.2.1.drew.reads (fun _ a0 ha0 e0 => by have h1 := (HW.out.2.2.1.blkLt a0.block (by rw [ha0]; rfl)).1; have h2 := hdl _ e0; have h3 := HW.out.1.2.1.lt; omega) ht)).mono ?_
    rintro e4 w4 ⟨rfl, hD4, ht4⟩
    have hV4 := hV3.disk hdl ht4
    obtain ⟨E, hE⟩ : ∃ E, E = Sx.wrE (Jo.wrL s a (pre.map fun x => Jo.sec e (q + 1 : Nat) l x.1)) ((a + pre.length : Nat) : Int) (Jo.sec e (q + 1 : Nat) l x.1) := ⟨_, rfl⟩
    rw [← hE]
    have hS5 : (fun w' : World => w'.cell? ⟨w.heap.size, 0, none⟩ = some (.pointer (some ⟨g, 0, none⟩)) ∧ w'.cell? ⟨g, 0, none⟩ = some (.pointer (some ⟨d.g, 0, none⟩)) ∧ w'.cell? ⟨w.heap.size + 1 + 1, 0, none⟩ = some (.int .i64 ((a + pre.length : Nat) : Int))) w4 := ⟨hV4.cells.1, (hV4.jn HX.out.2.2.2.1 (JAt.not_disk HX.out.2.2.2.1 HX.out.2.2.1)).cells.1, hV4.cells.2.2.2.1⟩
    refine ⟨_, rfl, hS5, ?_⟩
    simp only [List.setIfInBounds_toArray, List.set_cons_zero, List.set_cons_succ]
    refine take_first 7 (.int .i64 E) rfl rfl (by kernel_rfl) (by kernel_rfl) (by kernel_rfl) (fun _ _ _ _ h => h) (by rfl) ?_ hS5 ?_
    · intro w' hSw
      go_simp
    simp only [List.setIfInBounds_toArray, List.set_cons_zero, List.set_cons_succ]
    refine wpAnyH_done (by kernel_rfl) ?_ _
    have hT : Turned (fun k => k < w0.heap.size) W w4 := (Turned.ofBelow _ HW.out.2.1).trans ((Turned.ofDrewN _ w3 1).trans (ht4.mono (fun k hk => by have := hdl k hk; have := H0.out.1; omega)))
    have hwr : Jo.wrL s a ((pre ++ [x]).map fun x => Jo.sec e (q + 1 : Nat) l x.1) = Sx.wrS (Jo.wrL s a (pre.map fun x => Jo.sec e (q + 1 : Nat) l x.1)) ((a + pre.length : Nat) : Int) (Jo.sec e (q + 1 : Nat) l x.1) := by
      rw [List.map_append, List.map_cons, List.map_nil, Jo.wrL_snoc, List.length_map]
    rw [← hwr] at hD4
    obtain ⟨kr0, kr1, kr2, kr3, kr4⟩ := hV4.cells
    have HF := hid (And.intro hV4 (And.intro hD4 (And.intro hT (And.intro hE HW.out.1.1))))
    have hpl : pre.length < 100000 := by have := Jo.secs_le n hlong; omega
    clear hV4 hV3 hD4 hT hwr hS5 hS4 ht4 hlen3 hI hE HW
    by_cases hE0 : E = 0
    · subst hE0
      gi_wp2
      refine ⟨keepsFrom_turned (HF.out.2.2.1.setCell _ _ _ (fun _ => by have := H0.out.1; omega)), trivial, hid ⟨?_, ?_, ?_⟩⟩
      · rw [List.map_append, List.map_cons, List.map_nil, Jo.okL_snoc, List.length_map]
        exact ⟨HF.out.2.2.2.2, HF.out.2.2.2.1.symm⟩
      · have h1 := HF.out.1.next (((a + pre.length : Nat) : Int) + 1)
        rw [List.length_append, List.length_singleton, show ((a + (pre.length + 1) : Nat) : Int) = ((a + pre.length : Nat) : Int) + 1 from by omega]
        rw [show wrap64 ((a : Int) + (pre.length : Int) + 1) = ((a + pre.length : Nat) : Int) + 1 from by have := HX.out.1.2.1; rw [IntWalk.wrap64_in _ ⟨by omega, by omega⟩]; omega]
        exact h1
      · exact HF.out.2.1.elsewhere HF.out.1.nb (by decide) (fun hh => by have := H0.out.2.2.2.2 _ hh; omega) (Turned.one _ _ _ _)
    · have hEb : (E != 0) = true := by rw [bne_iff_ne]; exact hE0
      have HE0 := hid hE0
      clear hE0
      gi_wp2
      refine ⟨keepsFrom_turned (HF.out.2.2.1.setCell _ _ _ (fun _ => by have := H0.out.1; omega)), rfl, hid ⟨pre, x, rfl, HF.out.2.2.2.2, ?_, ?_, ?_⟩⟩
      · rw [← HF.out.2.2.2.1]; exact HE0.out
      · rw [← HF.out.2.2.2.1]; exact HF.out.1.res E
      · exact HF.out.2.1.elsewhere HF.out.1.rb (by decide) (fun hh => by have := H0.out.2.2.2.2 _ hh; omega) (Turned.one _ _ _ _)
  case done =>
    rintro D ys W hD rfl hI hK
    have hT : ((List.finRange (Jo.secs n)).map fun x => Jo.sec e (q + 1 : Nat) l x.1) = Jo.secsOf e (q + 1 : Nat) l := by
      unfold Jo.secsOf
      rw [hn]
      apply List.ext_getElem
      · simp
      · intro i h1 h2; simp
    rw [hT, List.length_finRange] at hI
    have HR := hid (Jo.run_done _ s a hI.out.1)
    have hdl := H0.out.2.2.2.2
    obtain ⟨m, hm⟩ : ∃ m, m = Jo.secs n := ⟨_, rfl⟩
    rw [← hm] at hI hroom hrm
    have HM := hid hm
    have hm820 : m ≤ 820 := by rw [hm]; exact Jo.secs_le n hlong
    obtain ⟨s', hs'⟩ : ∃ s', s' = Jo.wrL s a (Jo.secsOf e (q + 1 : Nat) l) := ⟨_, rfl⟩
    rw [← hs'] at hI HR
    have hJW := hI.out.2.1.jn HX.out.2.2.2.1 (JAt.not_disk HX.out.2.2.2.1 HX.out.2.2.1)
    obtain ⟨kj0, kj1, kj2, kj3, kj4⟩ := hJW.cells
    obtain ⟨kr0, kr1, kr2, kr3, kr4⟩ := hI.out.2.1.cells
    have HI := hid (And.intro hI.out (And.intro hJW (And.intro hK hD)))
    clear hI hJW hK hT hs' hm
    go_wp2_with fail
    refine (flush_any Z d s' W HI.out.1.2.2).mono ?_
    rintro e5 w5 ⟨rfl, hD5, ht5⟩
    have hV5 := HI.out.1.2.1.disk hdl ht5
    have hJ5 := hV5.jn HX.out.2.2.2.1 (JAt.not_disk HX.out.2.2.2.1 HX.out.2.2.1)
    have hK5 : w5.heap[D]? = some (.deferred (some [])) := (ht5.block D (Array.getElem?_eq_some_iff.1 HI.out.2.2.1).1 (fun hh => by have := hdl D hh; have := HI.out.2.2.2; have := H0.out.1; omega)).trans HI.out.2.2.1
    obtain ⟨E, hE⟩ : ∃ E, E = Sx.spE s' := ⟨_, rfl⟩
    rw [← hE]
    rw [← hE] at HR
    clear kj0 kj1 kj2 kj3 kj4 kr0 kr1 kr2 kr3 kr4
    obtain ⟨kj0, kj1, kj2, kj3, kj4⟩ := hJ5.cells
    obtain ⟨kr0, kr1, kr2, kr3, kr4⟩ := hV5.cells
    have kf := fun k => hJ5.frozen k
    have H5 := hid (And.intro hD5 (And.intro hV5 (And.intro hJ5 (And.intro hK5 HI.out.2.2.2))))
    clear hD5 ht5 hV5 hJ5 hK5 HI hE
    have ha100 : (a : Int) ≤ 100000 := by have := HX.out.1.2.1; omega
    have hr100 : (r : Int) ≤ 100000 := by have := HX.out.1.2.2.1; omega
    have hq100 : (q : Int) ≤ 100000 := by have := HX.out.1.2.2.2; omega
    have hm820i : (m : Int) ≤ 820 := by omega
    by_cases hE0 : E = 0
    · subst hE0
      go_wp2_with fail
      go_still_tail 13, (by kernel_rfl)
      go_wp2_with fail
      have hgD : g < D := by have := HX.out.2.2.2.1.lt; have := H5.out.2.2.2.2; have := H0.out.1; omega
      have hjd := H5.out.2.2.1.not_disk H5.out.1
      have hgr : g ≠ w.heap.size + 1 := by have := HX.out.2.2.2.1.lt; omega
      obtain ⟨w6, hw6⟩ : ∃ w6, w6 = ((w5.setCell ⟨g, 3, none⟩ (.int .i64 (((r : Int) - ((a : Int) + (m : Int) - (a : Int)))))).setCell ⟨g, 2, none⟩ (.int .i64 ((a : Int) + (m : Int)))).setCell ⟨g, 4, none⟩ (.int .i64 (((q : Int) + 1))) := ⟨_, rfl⟩
      rw [← hw6]
      have hJ6 : JAt w6 g ⟨d.g, e, (a + m : Nat), (r - m : Nat), (q + 1 : Nat)⟩ := by
        have h1 := ((H5.out.2.2.1.set3 (((r : Int) - ((a : Int) + (m : Int) - (a : Int))))).set2 ((a : Int) + (m : Int))).set4 (((q : Int) + 1))
        rw [← hw6] at h1
        have := HX.out.1
        rw [show (⟨d.g, e, ((a + m : Nat) : Int), ((r - m : Nat) : Int), ((q + 1 : Nat) : Int)⟩ : Jn) = ⟨d.g, e, (a : Int) + (m : Int), ((r : Int) - ((a : Int) + (m : Int) - (a : Int))), ((q : Int) + 1)⟩ from by
          congr 1 <;> omega]
        exact h1
      have hD6 : DiskAt w6 Z d (Sx.flS s') := by
        have h1 := H5.out.2.2.1.disk H5.out.1 3 (.int .i64 (((r : Int) - ((a : Int) + (m : Int) - (a : Int)))))
        have h2 := (H5.out.2.2.1.set3 (((r : Int) - ((a : Int) + (m : Int) - (a : Int))))).disk h1 2 (.int .i64 ((a : Int) + (m : Int)))
        have h3 := ((H5.out.2.2.1.set3 (((r : Int) - ((a : Int) + (m : Int) - (a : Int))))).set2 ((a : Int) + (m : Int))).disk h2 4 (.int .i64 (((q : Int) + 1)))
        rw [hw6]; exact h3
      have hT56 : Turned (fun k => k = g) w5 w6 := by rw [hw6]; exact Turned.three _ _ _ _ _ _ _ _
      have hr6 : w6.heap[w.heap.size + 1]? = some (.cells #[.int .i64 0] 29 (0, 0)) := (hT56.block _ (Array.getElem?_eq_some_iff.1 H5.out.2.1.rb).1 (fun hh => hgr hh.symm)).trans H5.out.2.1.rb
      have hK6 : w6.heap[D]? = some (.deferred (some [])) := (hT56.block _ (Array.getElem?_eq_some_iff.1 H5.out.2.2.2.1).1 (fun hh => by omega)).trans H5.out.2.2.2.1
      have hD7 := hD6.elsewhere (w' := w6.setCell ⟨w.heap.size + 1, 0, none⟩ (.int .i64 0)) hr6 (by decide) (fun hh => by have := hdl _ hh; omega) (Turned.one _ _ _ _)
      have hK7 : (w6.setCell ⟨w.heap.size + 1, 0, none⟩ (.int .i64 0)).drew.heap[D]? = some (.deferred (some [])) := (Below.heap_setCell _ _ _ _ (by have := H5.out.2.2.2.2; have := H0.out.1; show D ≠ w.heap.size + 1; omega)).trans hK6
      have hJ7 : JAt (w6.setCell ⟨w.heap.size + 1, 0, none⟩ (.int .i64 0)) g _ := (Below.heap_setCell _ _ _ _ (by show g ≠ w.heap.size + 1; exact hgr)).trans hJ6
      have hT7 : Turned (fun k => d.has k ∨ k = g) w (w6.setCell ⟨w.heap.size + 1, 0, none⟩ (.int .i64 0)).drew :=
        (((H5.out.2.1.turned.mono (fun _ h => .inl h)).trans (hT56.mono (fun _ h => .inr h))).setCell _ _ _ (fun hh => by omega)).drew
      have hc7 : (w6.setCell ⟨w.heap.size + 1, 0, none⟩ (.int .i64 0)).drew.cell? ⟨w.heap.size + 1, 0, none⟩ = some (.int .i64 0) := by
        simp [World.cell?, World.setCell, World.drew, Array.getElem?_modify, hr6]
      refine ⟨by simp, .inl ⟨_, _, rfl, run_takeDeferred hK7, ?_⟩⟩
      have hc8 := cell_kept hc7 (grownBy_putObj' _ D (.deferred none)) (fun r1 e1 => by cases e1; exact ⟨_, hK7, rfl⟩)
      refine ⟨.int .i64 0, ?_, ?_⟩
      · exact res_cell _ _ _ _ rfl hc8
      · have hR := HR.out
        refine ⟨by rw [hR], ?_, ?_, turned_put hT7 (by have := H5.out.2.2.2.2; have := H0.out.1; omega) _⟩
        · rw [hR]
          exact disk_put hD7.drew hdl (by have := H5.out.2.2.2.2; have := H0.out.1; omega) hK7 rfl _
        · rw [hR, if_pos rfl, ← HM.out]
          exact jn_put hJ7 (by omega) _
    · have hEb : (E != 0) = true := by rw [bne_iff_ne]; exact hE0
      have HE0 := hid hE0
      clear hE0
      go_wp2_with fail
      have hgD : g < D := by have := HX.out.2.2.2.1.lt; have := H5.out.2.2.2.2; have := H0.out.1; omega
      have hgr : g ≠ w.heap.size + 1 := by have := HX.out.2.2.2.1.lt; omega
      have hr6 := H5.out.2.1.rb
      have hD7 := H5.out.1.elsewhere (w' := w5.setCell ⟨w.heap.size + 1, 0, none⟩ (.int .i64 E)) hr6 (by decide) (fun hh => by have := hdl _ hh; omega) (Turned.one _ _ _ _)
      have hK7 : (w5.setCell ⟨w.heap.size + 1, 0, none⟩ (.int .i64 E)).heap[D]? = some (.deferred (some [])) := (Below.heap_setCell _ _ _ _ (by have := H5.out.2.2.2.2; have := H0.out.1; show D ≠ w.heap.size + 1; omega)).trans H5.out.2.2.2.1
      have hJ7 : JAt (w5.setCell ⟨w.heap.size + 1, 0, none⟩ (.int .i64 E)) g _ := (Below.heap_setCell _ _ _ _ (by show g ≠ w.heap.size + 1; exact hgr)).trans H5.out.2.2.1
      have hT7 : Turned (fun k => d.has k ∨ k = g) w (w5.setCell ⟨w.heap.size + 1, 0, none⟩ (.int .i64 E)) :=
        (H5.out.2.1.turned.mono (fun _ h => .inl h)).setCell _ _ _ (fun hh => by omega)
      have hc7 : (w5.setCell ⟨w.heap.size + 1, 0, none⟩ (.int .i64 E)).cell? ⟨w.heap.size + 1, 0, none⟩ = some (.int .i64 E) := by
        simp [World.cell?, World.setCell, Array.getElem?_modify, hr6]
      refine ⟨by simp, .inl ⟨_, _, rfl, run_takeDeferred hK7, ?_⟩⟩
      have hc8 := cell_kept hc7 (grownBy_putObj' _ D (.deferred none)) (fun r1 e1 => by cases e1; exact ⟨_, hK7, rfl⟩)
      refine ⟨.int .i64 E, ?_, ?_⟩
      · exact res_cell _ _ _ _ rfl hc8
      · have hR := HR.out
        refine ⟨by rw [hR], ?_, ?_, turned_put hT7 (by have := H5.out.2.2.2.2; have := H0.out.1; omega) _⟩
        · rw [hR]
          exact disk_put hD7 hdl (by have := H5.out.2.2.2.2; have := H0.out.1; omega) hK7 rfl _
        · rw [hR, if_neg HE0.out]
          exact jn_put hJ7 (by omega) _
  case stop =>
    rintro D cd pre W hD ⟨k, hk, hpre⟩ ⟨rfl, hI⟩ hK
    obtain ⟨pre', x, h1, h2, h3, h4, h5⟩ := hI.out
    have hk1 : k ≠ 0 := by
      rintro rfl
      rw [hpre] at h1
      have := congrArg List.length h1
      simp [upto] at this
    obtain ⟨k0, rfl⟩ := Nat.exists_eq_succ_of_ne_zero hk1
    rw [hpre, Nat.succ_eq_add_one, upto_succ k0 (by omega)] at h1
    obtain ⟨e1, e2⟩ := List.append_inj' h1 rfl
    obtain rfl : (⟨k0, by omega⟩ : Fin (Jo.secs n)) = x := by injection e2
    subst e1
    have hlen0 : (upto k0 : List (Fin (Jo.secs n))).length = k0 := upto_length k0 (by omega)
    have hT : Jo.secsOf e (q + 1 : Nat) l = ((upto k0 : List (Fin (Jo.secs n))).map fun x => Jo.sec e (q + 1 : Nat) l x.1) ++ Jo.sec e (q + 1 : Nat) l k0 :: ((List.finRange (Jo.secs n)).drop (k0 + 1)).map fun x => Jo.sec e (q + 1 : Nat) l x.1 := by
      have hh : ((List.finRange (Jo.secs n)).map fun x => Jo.sec e (q + 1 : Nat) l x.1) = Jo.secsOf e (q + 1 : Nat) l := by
        unfold Jo.secsOf
        rw [hn]
        apply List.ext_getElem
        · simp
        · intro i h1 h2; simp
      rw [← hh]
      conv => lhs; rw [← List.take_append_drop k0 (List.finRange (Jo.secs n)), List.drop_eq_getElem_cons (by simp; omega)]
      rw [List.map_append, List.map_cons]
      simp [upto]
    have HR := hid (Jo.run_stop ((upto k0 : List (Fin (Jo.secs n))).map fun x => Jo.sec e (q + 1 : Nat) l x.1) (Jo.sec e (q + 1 : Nat) l k0) (((List.finRange (Jo.secs n)).drop (k0 + 1)).map fun x => Jo.sec e (q + 1 : Nat) l x.1) s a h2 (by rw [List.length_map]; exact h3))
    rw [← hT, List.length_map, show ((upto k0 : List (Fin (Jo.secs n))).map fun x => Jo.sec e (q + 1 : Nat) l x.1) ++ [Jo.sec e (q + 1 : Nat) l k0] = pre.map fun x => Jo.sec e (q + 1 : Nat) l x.1 from by rw [hpre, Nat.succ_eq_add_one, upto_succ k0 (by omega), List.map_append]; rfl] at HR
    obtain ⟨E, hE⟩ : ∃ E, E = Sx.wrE (Jo.wrL s a ((upto k0 : List (Fin (Jo.secs n))).map fun x => Jo.sec e (q + 1 : Nat) l x.1)) ((a + (upto k0 : List (Fin (Jo.secs n))).length : Nat) : Int) (Jo.sec e (q + 1 : Nat) l k0) := ⟨_, rfl⟩
    rw [← hE] at HR h3 h4
    have hdl := H0.out.2.2.2.2
    have hgD : g < D := by have := HX.out.2.2.2.1.lt; have := H0.out.1; omega
    have hJW := h4.jn HX.out.2.2.2.1 (JAt.not_disk HX.out.2.2.2.1 HX.out.2.2.1)
    have hcr := h4.cells.2.1
    have HF := hid (And.intro hK (And.intro h5 (And.intro hJW (And.intro hcr (And.intro h4.turned h3)))))
    have HD := hid (And.intro hgD hD)
    clear hI h1 h2 h3 h4 h5 hT hE hJW hcr hK hpre hlen0 hk hk1 hgD hD e2
    gi_wp2
    refine ⟨by simp, .inl ⟨_, _, rfl, run_takeDeferred HF.out.1, ?_⟩⟩
    have hc8 := cell_kept HF.out.2.2.2.1 (grownBy_putObj' _ D (.deferred none)) (fun r1 e1 => by cases e1; exact ⟨_, HF.out.1, rfl⟩)
    refine ⟨.int .i64 E, ?_, ?_⟩
    · exact res_cell _ _ _ _ rfl hc8
    · have hR := HR.out
      refine ⟨by rw [hR], ?_, ?_, turned_put (HF.out.2.2.2.2.1.mono (fun _ h => .inl h)) (by have := HD.out.2; have := H0.out.1; omega) _⟩
      · rw [hR]
        exact disk_put HF.out.2.1 hdl (by have := HD.out.2; have := H0.out.1; omega) HF.out.1 rfl _
      · rw [hR, if_neg HF.out.2.2.2.2.2]
        exact jn_put HF.out.2.2.1 (by have := HD.out.1; omega) _
end J
end Go.Proofs.Ytdgijnolpjaheaa
namespace Go.Proofs.Ytdgijnolpjaheaa
open Go.RowKit

namespace J
theorem res_at (tmps : Array Value) (w : World) (b : Nat) (E : Int) (ht : tmps[4]?.getD undef = .pointer (some ⟨b, 0, none⟩)) (h : w.heap[b]? = some (.cells #[.int .i64 E] 29 (0, 0))) : (results Try.f47 tmps).run Try.prog w = .ok (.int .i64 E) w :=
  res_cell tmps w b E ht (by simp [World.cell?, h])
set_option maxRecDepth 100000 in
theorem append_long (g : Nat) (A : Option Addr) (c n : Nat) (hlong : 32768 < n) (w : World) :
    Calls Try.prog 47 #[.pointer (some ⟨g, 0, none⟩), .slice A n c] w fun e' w' => Hid (e' = .returned (.int .i64 2) ∧ Below w.heap.size w w') := by
  have hgt : (32768 : Int) < n := by omega
  go_enter Try.func47, Try.ntmps47
  go_wp2_with fail
  have hc : ((w.alloc (.cells #[.pointer (some ⟨g, 0, none⟩)] 58)).alloc (.cells #[.int .i64 2] 29)).heap[w.heap.size + 1]? = some (.cells #[.int .i64 2] 29 (0, 0)) := by
    have := heap_alloc_new (w.alloc (.cells #[.pointer (some ⟨g, 0, none⟩)] 58)) (.cells #[.int .i64 2] 29)
    rw [World.size_alloc] at this
    exact this
  refine bodyPost_ret (res_at _ _ _ _ rfl hc) rfl ?_
  exact ⟨rfl, ((Below.refl _ _).alloc (Nat.le_refl _) _).alloc (by simp) _⟩
set_option maxRecDepth 100000 in
theorem append_full (g : Nat) (j : Jn) (A : Option Addr) (c n : Nat) (hlong : n ≤ 32768) (w : World) (hJ : JAt w g j) (hroom : j.rm < (Jo.secs n : Nat)) :
    Calls Try.prog 47 #[.pointer (some ⟨g, 0, none⟩), .slice A n c] w fun e' w' => Hid (e' = .returned (.int .i64 8) ∧ Below w.heap.size w w') := by
  obtain ⟨c0, c1, c2, c3, c4⟩ := hJ.cells
  have HS : Hid (∀ w' : World, Calls Try.prog 61 #[.int .i64 (n : Int)] w' fun e w2 => e = .returned (.int .i64 (Jo.secs n : Nat)) ∧ ∃ j, w2 = w'.drewN j) := hid (fun w' => (sectors_any n (by omega) w').mono fun _ _ ⟨h1, h2⟩ => ⟨h1, 0, h2⟩)
  have hgt : ¬ (32768 : Int) < n := by omega
  have hlt := hJ.lt
  have HJ := hid hJ
  clear hJ c0 c1 c2 c4
  go_enter Try.func47, Try.ntmps47
  go_wp2_with fail
  obtain ⟨w2, hw2⟩ : ∃ w2, w2 = (w.alloc (.cells #[.pointer (some ⟨g, 0, none⟩)] 58)).alloc (.cells #[.int .i64 0] 29) := ⟨_, rfl⟩
  rw [← hw2]
  have hs2 : w2.heap.size = w.heap.size + 1 + 1 := by rw [hw2]; simp
  have hb2 : Below w.heap.size w w2 := by rw [hw2]; exact ((Below.refl _ w).alloc (Nat.le_refl _) _).alloc (by simp) _
  have hj2 : w2.heap[w.heap.size]? = some (.cells #[.pointer (some ⟨g, 0, none⟩)] 58 (0, 0)) := by rw [hw2]; exact (Below.heap_alloc _ _ _ (by simp)).trans (heap_alloc_new w _)
  have hr2 : w2.heap[w.heap.size + 1]? = some (.cells #[.int .i64 0] 29 (0, 0)) := by
    have := heap_alloc_new (w.alloc (.cells #[.pointer (some ⟨g, 0, none⟩)] 58)) (.cells #[.int .i64 0] 29)
    rw [World.size_alloc] at this
    rw [hw2]; exact this
  have k3 : w2.cell? ⟨g, 3, none⟩ = some (.int .i64 j.rm) := (hb2.cell (p := ⟨g, 3, none⟩) hlt).trans c3
  have kj : w2.cell? ⟨w.heap.size, 0, none⟩ = some (.pointer (some ⟨g, 0, none⟩)) := by simp [World.cell?, hj2]
  have kr : w2.cell? ⟨w.heap.size + 1, 0, none⟩ = some (.int .i64 0) := by simp [World.cell?, hr2]
  have kf : w2.frozen? ⟨w.heap.size + 1, 0, none⟩ = false := by simp [World.frozen?, hr2]
  have H2 := hid (And.intro hb2 hr2)
  clear hw2 hs2 hb2 hj2 hr2 c3
  go_quiet ((go_at_call 61; exact Calls.quiet_of (HS.out _)))
  go_wp2_with fail
  have hc : ((w2.setCell ⟨w.heap.size + 1, 0, none⟩ (.int .i64 8)).drewN nq).heap[w.heap.size + 1]? = some (.cells #[.int .i64 8] 29 (0, 0)) := by
    have := H2.out.2
    simp [World.drewN, World.setCell, Array.getElem?_modify, this]
  refine bodyPost_ret (res_at _ _ _ _ rfl hc) rfl ?_
  exact ⟨rfl, below_drewN (H2.out.1.setCell (by show w.heap.size ≤ w.heap.size + 1; omega) _) nq⟩
end J
end Go.Proofs.Ytdgijnolpjaheaa
namespace Go.Proofs.Ytdgijnolpjaheaa
open Go.RowKit

set_option maxRecDepth 100000 in
theorem rows_same (A A' : Option Addr) (c c' : Nat) (L M : List (List Nat)) (n m : Nat) (hn : L.length = n) (hm : M.length = m) (hn2 : n ≤ 100000) (w : World) (h : IsRows w A L) (h' : IsRows w A' M) :
    Calls Try.prog 44 #[.slice A n c, .slice A' m c'] w fun e w' => e = .returned (.bool (decide (L = M))) ∧ ∃ j, w' = w.drewN j := by
  subst hn
  subst hm
  by_cases hl : L.length = M.length
  · have hl0 : (L.length : Int) = (M.length : Int) := by omega
    go_enter Try.func44, Try.ntmps44
    go_wp2_with fail
    go_loopw [5] (fun i wr => ∃ k : Nat, k ≤ L.length ∧ i = .int .i64 k ∧ Hid (L.take k = M.take k) ∧ ∃ j, wr = w.drewN j) (fun i _ => L.length - (RowKit.intOf i).toNat)
    case atStart => exact ⟨0, by omega, rfl, hid (by simp), 0, rfl⟩
    case round =>
      obtain ⟨k, hk, rfl, hS, j, rfl⟩ := hrel
      obtain ⟨w9, hw9⟩ : ∃ w9, w9 = w.drewN j := ⟨_, rfl⟩
      rw [← hw9]
      have H9 := hid hw9
      have HL := hid hl
      by_cases hlt : k < L.length
      · have hr := h.drewN j
        have hr' := h'.drewN j
        rw [← hw9] at hr hr'
        obtain ⟨b, off, rfl, hc⟩ := hr k hlt
        obtain ⟨b', off', rfl, hc'⟩ := hr' k (by omega)
        obtain ⟨hb1, A1, c1, h1, h2⟩ := hc k hlt
        obtain ⟨hb2, A2, c2, h3, h4⟩ := hc' k (by omega)
        have hk0 : (k : Int) < (L.length : Int) := by omega
        have hk1 : (k : Int) < (M.length : Int) := by omega
        have HC : Hid (∀ q, Calls Try.prog 18 #[.slice A1 L[k].length c1, .slice A2 M[k].length c2] (w9.drewN q) fun e w' => e = .returned (.bool (decide (L[k] = M[k]))) ∧ ∃ j, w' = (w9.drewN q).drewN j) :=
          hid (fun q => same_N w9.heap.size w9.heap.size A1 A2 c1 c2 L[k] M[k] _ _ rfl rfl (by unfold maxLen; omega) (by unfold maxLen; omega) (w9.drewN q) (h2.drewN q) (h4.drewN q))
        by_cases he : L[k] = M[k]
        · rw [show decide (L[k] = M[k]) = true from decide_eq_true he] at HC
          have hS' : L.take (k + 1) = M.take (k + 1) := by
            rw [List.take_succ_eq_append_getElem hlt, List.take_succ_eq_append_getElem (by omega), hS.out, he]
          have HS := hid hS'
          clear hc hc' hr hr' h h' hw9 h2 h4 hS' he
          go_wp2_with fail
          go_quiet ((go_at_call 18; exact Calls.quiet_of (HC.out _)))
          go_wp2
          go_roundw
          case rel => exact ⟨k + 1, by omega, by go_num, HS, j + nq, by rw [H9.out, World.drewN_drewN]⟩
          case measure => simp [RowKit.intOf]; omega
        · rw [show decide (L[k] = M[k]) = false from decide_eq_false he] at HC
          have hne : decide (L = M) = false := decide_eq_false (fun e => by subst e; exact he rfl)
          have HE := hid hne
          clear hc hc' hr hr' h h' hw9 h2 h4 he hne
          go_wp2_with fail
          go_quiet ((go_at_call 18; exact Calls.quiet_of (HC.out _)))
          go_wp2
          go_ret
          rw [HE.out]
          exact ⟨rfl, j + nq, by rw [H9.out, World.drewN_drewN]⟩
      · obtain rfl : k = L.length := by omega
        have hE : decide (L = M) = true := decide_eq_true (by
          have := hS.out
          rw [List.take_length, hl, List.take_length] at this
          exact this)
        have HE := hid hE
        have hk0 : ¬ (L.length : Int) < (L.length : Int) := by omega
        clear hw9 h h' hE hlt hS
        go_wp2
        go_ret
        rw [HE.out]
        exact ⟨rfl, j, H9.out⟩
  · have hE : decide (L = M) = false := decide_eq_false (fun e => hl (by rw [e]))
    rw [hE]
    have hl0 : ¬ (L.length : Int) = (M.length : Int) := by omega
    clear h h' hE hl
    go_enter Try.func44, Try.ntmps44
    go_wp2
    go_ret
    exact ⟨rfl, 0, rfl⟩
end Go.Proofs.Ytdgijnolpjaheaa

