/- The library's sorted values of a map from ints to ints. -/
import Derived.Test.YtblhfbijffaacaaQuF
import Derived.Test.YtblhfbijffaacaaSortedI
namespace Go.Proofs.Ytblhfbijffaacaa
open Go.RowKit Go.Maps Go.Sort Go.Shelf

/-- the values that have come, each behind a key of its own -/
def ValsOf {H : Type} (D0 : DataW H) (xs : List Int) : Prop :=
  ∃ ps : List (Int × Int), xs = ps.map (·.2) ∧ ps.length ≤ Maps.size D0 ∧ (∀ x, x ∈ ps.map (·.1) ↔ has D0 (.int .i64 x) = true) ∧ ∀ p ∈ ps, ∀ zd, D0.atKey (.int .i64 p.1) zd = .lit (.int .i64 p.2)

set_option maxRecDepth 100000 in
set_option maxHeartbeats 1000000 in
theorem values1_in {H : Type} (n : Nat) (hn : 1 ≤ n) (l Bm b nn : Nat) (D0 : DataW H) (J : List Int → World → Prop)
    (hY : ∀ pre x W, J pre W → pre.length < Maps.size D0 → YieldAt Fence.wide (n - 1) Try.prog l #[encZ x] W fun e W' => e = .returned (.bool true) ∧ J (pre ++ [x]) W' ∧ KeepsWalks W W')
    (W : World) (hJ : AbidesFrom W.heap.size J) (hm : W.cell? ⟨Bm, 0, none⟩ = some (.map (some b))) (hown : W.ownsMap Try.prog 3 (plainElem Try.prog 3) b nn D0) (h0 : J [] W) :
    CallsIn Fence.wide n Try.prog 55 #[.func (.yield l) #[] #[], .pointer (some ⟨Bm, 0, none⟩)] W fun e W' => (∃ v, e = .returned v) ∧ ∃ xs, ValsOf D0 xs ∧ J xs W' := by
  have h1n : 1 ≤ n := hn
  refine callsIn_of_wp Try.func55 rfl trivial ?_
  simp only [Try.ntmps55, List.size_toArray, List.length_cons, List.length_nil, Nat.reduceAdd, Nat.reduceSub, Array.replicate_succ, Array.replicate_zero, List.push_toArray, List.append_toArray, List.nil_append, List.cons_append]
  gi_wp2_with (first
    | (gi_at_range; refine wpListIn_range_own _ rfl _ 52 rfl 3 3 keyI Try.underlying52 _ b nn _ rfl hown ?_; intro w0 hrg0 hg0 hs0)
    | gi_in)
  go_frame
  gi_loopw [4] (fun _ wr => ∃ (left : Lit → Bool) (cnt : Nat) (ps : List (Int × Int)), wr.ranges Try.prog 3 (plainElem Try.prog 3) b W.heap.size nn D0 left cnt ∧ ps.length + cnt ≤ Maps.size D0 ∧ CollectedI D0 left (ps.map (·.1)) ∧ (∀ p ∈ ps, ∀ zd, D0.atKey (.int .i64 p.1) zd = .lit (.int .i64 p.2)) ∧ J (ps.map (·.2)) wr)
    (fun _ wr => wr.rangeLeft b W.heap.size)
  case atStart =>
    exact ⟨_, _, [], hrg0, by simp, CollectedI.start D0, by simp, hJ [] W w0 none h0 hg0 (fun r e => by cases e)⟩
  case round =>
    obtain ⟨left, cnt, ps, hrg, hcs, hC, hV, hJs⟩ := hrel
    gi_wp2_with (first
      | (gi_at_next; refine wpListIn_next_ranges _ rfl _ rfl 3 keyI (plainElem Try.prog 3) encZ (Value.int .i64) (fun key kl hk => by obtain ⟨x, hx, _⟩ := Maps.keyOf_i64 Try.underlying3 hk; exact ⟨x, hx⟩) (fun v y hv => by obtain ⟨c, rfl, _⟩ := plainElem_int_inv Try.underlying3 hv; exact ⟨c, rfl⟩) b W.heap.size nn _ _ _ rfl hrg ?_ ?_)
      | gi_in)
    · -- nothing is left
      intro hc0 hl0
      gi_wp2
      go_end0
      exact ⟨⟨_, rfl⟩, _, ⟨ps, rfl, by omega, fun x => by rw [hC.2 x, hl0]; simp, hV⟩, hJs⟩
    · -- an entry has come
      intro x c kl yd yp w2 cnt2 hkey hlk hv hat hrg2 hlt hg2 hs2 hen
      obtain ⟨x', ex, rfl, _⟩ := Maps.keyOf_i64 Try.underlying3 hkey
      obtain rfl : x = x' := encZ_inj ex
      obtain ⟨c', ec, ez, _⟩ := plainElem_int_inv Try.underlying3 hv
      obtain rfl : c = c' := by simpa using ec
      obtain rfl : yd = .lit (.int .i64 c) := (Prod.mk.inj ez).1
      have hJ2 : J (ps.map (·.2)) w2 := hJ _ wr w2 (some W.heap.size) hJs hg2 (fun r e => by cases e; exact ⟨Nat.le_refl _, hrg.iter_walk⟩)
      obtain ⟨fn, tmps, assign, body, hy, hR⟩ := hY (ps.map (·.2)) c w2 hJ2 (by simp; omega)
      dsimp only [encZ] at hy
      clear hs2
      gi_wp2
      refine hR.mono ?_
      have hC2 : CollectedI D0 (fun z => left z && !z.sameKey (.int .i64 x)) ((ps ++ [(x, c)]).map (·.1)) := by simpa using hC.step hlk hat
      have hV2 : ∀ p ∈ ps ++ [(x, c)], ∀ zd, D0.atKey (.int .i64 p.1) zd = .lit (.int .i64 p.2) := fun p hp => (List.mem_append.1 hp).elim (hV p) (fun e => by simp at e; subst e; exact hat)
      rintro e W3 ⟨rfl, hJ3, hk3⟩
      gi_wp2
      have hrg3 := hrg2.of_walks hk3
      go_roundw
      case rel => exact ⟨_, cnt2, ps ++ [(x, c)], hrg3, by simp; omega, hC2, hV2, by simpa using hJ3⟩
      case measure => rw [hrg3.left_eq, hrg.left_eq]; exact hlt

/-- maps.Values: a function value over one new block that holds the map -/
theorem values_call (mb : Option Nat) (w : World) :
    Calls Try.prog 42 #[.map mb] w fun e w' => e = .returned (.func (.func 55) #[] #[.pointer (some ⟨w.heap.size, 0, none⟩)]) ∧ w' = w.alloc (.cells #[.map mb] 52) := by
  go_enter Try.func42, Try.ntmps42
  go_wp2
  go_ret
  exact ⟨rfl, rfl⟩

/-- slices.Sorted of what that told: a new slice of the values, sorted -/
theorem sortedVals_call {H : Type} (b nn : Nat) (D0 : DataW H) (w : World) (hown : w.ownsMap Try.prog 3 (plainElem Try.prog 3) b nn D0) (hmax : Maps.size D0 ≤ maxLen) (hbytes : Maps.size D0 * 8 ≤ 140737488355328) :
    Calls Try.prog 41 #[.func (.func 55) #[] #[.pointer (some ⟨w.heap.size, 0, none⟩)]] (w.alloc (.cells #[.map (some b)] 52)) fun e w' => ∃ (v : Value) (ss : List Int), e = .returned v ∧ ValsOf D0 ss ∧
      w'.ownsRow (w.heap.size + 1) 3 1 v ss.length ((ss.mergeSort (fun x y => decide (x ≤ y))).map encZ) ∧ Below w.heap.size w w' := by
  have hbl := hown.lt
  have hseq : SeqGives Fence.wide 2 Try.prog 55 #[.pointer (some ⟨w.heap.size, 0, none⟩)] encZ (ValsOf D0) (Maps.size D0) (w.alloc (.cells #[.map (some b)] 52)) := fun l J W hW hJ hY h0 => by
    have hown' : W.ownsMap Try.prog 3 (plainElem Try.prog 3) b nn D0 := by
      obtain ⟨es, clock, hb, Ft, hs, hD⟩ := hown
      exact ⟨es, clock, (hW.block b (by simp; omega)).trans ((Below.heap_alloc _ _ b hbl).trans hb), Ft, hs, hD⟩
    have hcell : (w.alloc (.cells #[.map (some b)] 52)).cell? ⟨w.heap.size, 0, none⟩ = some (.map (some b)) := cell_of_row _ w.heap.size 0 _ _ _ (heap_alloc_new w _)
    exact values1_in 2 (by omega) l w.heap.size b nn D0 J hY W hJ ((hW.cell (p := ⟨w.heap.size, 0, none⟩) (by simp)).trans hcell) hown' h0
  have cS := AnyZI.sorted_in sortedA Fence.wide 5 trivial trivial trivial trivial rfl (by omega) (sortsIn _) (enters_of Try.func47 (by kernel_rfl) rfl) 55 #[.pointer (some ⟨w.heap.size, 0, none⟩)] trivial (enters_of Try.func55 (by kernel_rfl) rfl) _ _ hmax hbytes _ hseq
  change CallsIn _ _ Try.prog 41 _ _ _ at cS
  refine (callsIn_wide.1 cS).mono ?_
  rintro e w' ⟨v, ss, rfl, hS, hrow, _, hb⟩
  refine ⟨v, ss, rfl, hS, ?_, ((Below.refl _ w).alloc (Nat.le_refl _) _).trans (hb.mono (by simp))⟩
  rw [World.size_alloc] at hrow
  exact hrow

/-- of a map of greatest numbers: these, sorted -/
theorem sortedGreat_call (b : Nat) (f : Int → Int) (hf : ∀ x, InInt (f x)) (w : World) (h : MapAt w b 2000 f) :
    Calls Try.prog 41 #[.func (.func 55) #[] #[.pointer (some ⟨w.heap.size, 0, none⟩)]] (w.alloc (.cells #[.map (some b)] 52)) fun e w' => ∃ A c L, e = .returned (.slice A L.length c) ∧
      Hid (L.Pairwise (· ≤ ·) ∧ (∀ v, v ∈ L ↔ ∃ x, 0 < f x ∧ f x = v) ∧ L.length ≤ 2000 ∧ OwnsI 3 w' (w.heap.size + 1) A c L ∧ Below w.heap.size w w') := by
  obtain ⟨D, hown, hD⟩ := h
  have hsz := hown.size_le
  refine (sortedVals_call b 2000 D w hown (by unfold maxLen; omega) (by omega)).mono ?_
  rintro e w' ⟨v, ss, rfl, ⟨ps, hss, hpl, hk, hv⟩, hrow, hb⟩
  obtain ⟨A, c, rfl⟩ := own_slice hrow
  have hlen : (ss.mergeSort (fun x y => decide (x ≤ y))).length = ss.length := by simp
  have hmem : ∀ v, v ∈ ss.mergeSort (fun x y => decide (x ≤ y)) ↔ ∃ x, 0 < f x ∧ f x = v := fun v => by
    rw [(List.mergeSort_perm ss _).mem_iff, hss]
    constructor
    · intro h
      obtain ⟨p, hp, rfl⟩ := List.mem_map.1 h
      have h1 := (hk p.1).1 (List.mem_map.2 ⟨p, hp, rfl⟩)
      rw [(hD p.1).1] at h1
      have h2 := of_decide_eq_true h1
      have h3 := hv p hp (.lit (.int .i64 0))
      rw [(hD p.1).2.1] at h3
      injection h3 with h3
      injection h3 with _ h3
      exact ⟨p.1, h2, h3⟩
    · rintro ⟨x, h1, rfl⟩
      obtain ⟨p, hp, rfl⟩ := List.mem_map.1 ((hk x).2 (by rw [(hD x).1]; exact decide_eq_true h1))
      have h3 := hv p hp (.lit (.int .i64 0))
      rw [(hD p.1).2.1] at h3
      injection h3 with h3
      injection h3 with _ h3
      exact List.mem_map.2 ⟨p, hp, h3.symm⟩
  have hsl : ss.length ≤ 2000 := by rw [hss, List.length_map]; omega
  refine ⟨A, c, ss.mergeSort (fun x y => decide (x ≤ y)), by rw [hlen], hid ⟨?_, hmem, by omega, ⟨fun y hy => ?_, ?_⟩, hb⟩⟩
  · have := List.pairwise_mergeSort (le := fun (x y : Int) => decide (x ≤ y)) (fun a b c h1 h2 => by simp at *; omega) (fun a b => by simp; omega) ss
    exact this.imp (fun h => by simpa using h)
  · obtain ⟨x, _, rfl⟩ := (hmem y).1 hy
    exact hf x
  · rw [hlen]
    exact hrow
end Go.Proofs.Ytblhfbijffaacaa
