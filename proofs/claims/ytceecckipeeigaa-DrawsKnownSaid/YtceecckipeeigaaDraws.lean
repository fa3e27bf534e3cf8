/- The walks through package draws: a list of ints and a count behind one address. -/
import Derived.Test.YtceecckipeeigaaRows
import Derived.Test.YtceecckipeeigaaGrown
import Derived.StillTailTactics
import Derived.Lib.SliceRun
namespace Go.Proofs.Ytceecckipeeigaa.Dw
open Go.RowKit

/-- the number at the place n -/
def nx (l : List Int) (n : Nat) : Int := (l[n]?).getD 0
/-- v brought below n -/
def md (n v : Int) : Int := if n < 1 then 0 else if v.tmod n < 0 then v.tmod n + n else v.tmod n

theorem nx_in {l : List Int} (h : ∀ x ∈ l, InInt x) (n : Nat) : InInt (nx l n) := by
  unfold nx
  rcases hn : l[n]? with _ | x
  · exact ⟨by decide, by decide⟩
  · exact h x (List.mem_of_getElem? hn)
theorem nx_lt {l : List Int} {n : Nat} (h : n < l.length) : nx l n = l[n] := by unfold nx; rw [List.getElem?_eq_getElem h]; rfl
theorem nx_ge {l : List Int} {n : Nat} (h : l.length ≤ n) : nx l n = 0 := by unfold nx; rw [List.getElem?_eq_none h]; rfl
theorem tmod_lt (v n : Int) (hn : 1 ≤ n) : -n < v.tmod n ∧ v.tmod n < n := by
  have h1 := Int.tmod_lt_of_pos v (show 0 < n by omega)
  have h2 := Int.lt_tmod_of_pos v (show 0 < n by omega)
  exact ⟨h2, h1⟩
theorem md_in (n v : Int) (hn : InInt n) : InInt (md n v) := by
  obtain ⟨h1, h2⟩ := hn
  unfold md InInt
  split
  · omega
  · have := tmod_lt v n (by omega)
    split <;> omega
theorem md_lt (n v : Int) (hn : 1 ≤ n) : 0 ≤ md n v ∧ md n v < n := by
  have := tmod_lt v n hn
  unfold md
  rw [if_neg (by omega)]
  split <;> omega

/-- At block g a list, which lies from block lo on and below hi, and a count. -/
structure At (w : World) (T : TypeId) (lo hi g : Nat) (l : List Int) (n : Nat) : Prop where
  hi_le : hi ≤ g
  small : ∀ x ∈ l, InInt x
  len : l.length ≤ maxLen
  at_ : ∃ A c, w.heap[g]? = some (.cells #[.slice A l.length c, .int .i64 n] T (0, 0)) ∧
    ∀ k, k < l.length → ∃ b off, A = some ⟨b, off, none⟩ ∧ lo ≤ b ∧ b < hi ∧ ∀ i (h : i < l.length), w.cell? ⟨b, off + i, none⟩ = some (.int .i64 l[i])

theorem row_cell {w : World} {g : Nat} {cs : Array Value} {t : TypeId} (h : w.heap[g]? = some (.cells cs t (0, 0))) (i : Nat) : w.cell? ⟨g, i, none⟩ = cs[i]? := cell_of_row w g i cs t (0, 0) h
theorem row_free {w : World} {g : Nat} {cs : Array Value} {t : TypeId} (h : w.heap[g]? = some (.cells cs t (0, 0))) (i : Nat) : w.frozen? ⟨g, i, none⟩ = false := by simp [World.frozen?, h]
theorem row_lt {w : World} {g : Nat} {o : Obj} (h : w.heap[g]? = some o) : g < w.heap.size := by
  rcases Nat.lt_or_ge g w.heap.size with hlt | hge
  · exact hlt
  · rw [Array.getElem?_eq_none hge] at h; cases h
theorem row_set {w : World} {g : Nat} {cs : Array Value} {t : TypeId} (h : w.heap[g]? = some (.cells cs t (0, 0))) (i : Nat) (u : Value) :
    (w.setCell ⟨g, i, none⟩ u).heap[g]? = some (.cells (cs.setIfInBounds i u) t (0, 0)) := by
  simp [World.setCell, Array.getElem?_modify, h]
theorem cell_block {w w' : World} {b : Nat} (h : w'.heap[b]? = w.heap[b]?) (i : Nat) : w'.cell? ⟨b, i, none⟩ = w.cell? ⟨b, i, none⟩ := by
  simp only [World.cell?, h]

namespace At
variable {w w' : World} {T : TypeId} {lo hi g n : Nat} {l : List Int}
theorem lt (h : At w T lo hi g l n) : g < w.heap.size := by obtain ⟨A, c, h1, _⟩ := h.at_; exact row_lt h1
/-- it stays where its own block and those of its list stay -/
theorem keep (h : At w T lo hi g l n) (hg : w'.heap[g]? = w.heap[g]?) (hb : ∀ b, lo ≤ b → b < hi → w'.heap[b]? = w.heap[b]?) : At w' T lo hi g l n := by
  obtain ⟨A, c, h1, h2⟩ := h.at_
  refine ⟨h.hi_le, h.small, h.len, A, c, hg.trans h1, fun k hk => ?_⟩
  obtain ⟨b, off, e, hb1, hb2, hc⟩ := h2 k hk
  exact ⟨b, off, e, hb1, hb2, fun i hi => (cell_block (hb b hb1 hb2) _).trans (hc i hi)⟩
theorem drew (h : At w T lo hi g l n) : At w.drew T lo hi g l n := h.keep rfl fun _ _ _ => rfl
theorem drewN (h : At w T lo hi g l n) (m : Nat) : At (w.drewN m) T lo hi g l n := h.keep rfl fun _ _ _ => rfl
theorem below (h : At w T lo hi g l n) {B : Nat} (hB : g < B) (hb : Below B w w') : At w' T lo hi g l n :=
  h.keep (hb.block g hB) fun b _ h2 => hb.block b (by have := h.hi_le; omega)
/-- another block's writing leaves it -/
theorem grown (h : At w T lo hi g l n) {k : Nat} (hg : w.grownBy w' (some k)) (h1 : k ≠ g) (h2 : k < lo ∨ hi ≤ k) : At w' T lo hi g l n :=
  h.keep (hg.block g h.lt (by simpa using h1.symm)) fun b hb1 hb2 => hg.block b (by have := h.hi_le; have := h.lt; omega) (by simp; omega)
theorem counted (h : At w T lo hi g l n) (m : Nat) : At (w.setCell ⟨g, 1, none⟩ (.int .i64 m)) T lo hi g l m := by
  obtain ⟨A, c, h1, h2⟩ := h.at_
  refine ⟨h.hi_le, h.small, h.len, A, c, row_set h1 1 _, fun k hk => ?_⟩
  obtain ⟨b, off, e, hb1, hb2, hc⟩ := h2 k hk
  refine ⟨b, off, e, hb1, hb2, fun i hi => (cell_block (b := b) ?_ _).trans (hc i hi)⟩
  have := h.hi_le
  exact (grown_setCell w g 1 _).block b (by have := h.lt; omega) (by simp; omega)
end At

set_option maxHeartbeats 400000 in
/-- the next number, which it counts -/
theorem take_any (lo hi g : Nat) (l : List Int) (n : Nat) (hn : n < 9223372036854775807) (w : World) (h : At w 37 lo hi g l n) :
    Calls Try.prog 18 #[.pointer (some ⟨g, 0, none⟩)] w fun e w' =>
      e = .returned (.int .i64 (nx l n)) ∧ At w' 37 lo hi g l (n + 1) ∧ w.grownBy w' (some g) := by
  have hl := h.len
  unfold maxLen at hl
  have HA := hid (h.counted (n + 1))
  have HG := hid (grown_setCell w g 1 (.int .i64 ((n + 1 : Nat) : Int)))
  obtain ⟨A, c, h1, h2⟩ := h.at_
  have hhi := h.hi_le
  have hgl := h.lt
  have e0 : (w.setCell ⟨g, 1, none⟩ (.int .i64 ((n + 1 : Nat) : Int))).cell? ⟨g, 0, none⟩ = some (.slice A l.length c) := by rw [row_cell (row_set h1 1 _)]; rfl
  have hc1 : w.cell? ⟨g, 1, none⟩ = some (.int .i64 n) := row_cell h1 1
  have hf1 := row_free h1 1
  have HN := hid (nx_lt (l := l) (n := n))
  have HZ := hid (nx_ge (l := l) (n := n))
  rw [show ((n + 1 : Nat) : Int) = (n : Int) + 1 by omega] at e0 HA HG
  by_cases hlt : n < l.length
  · obtain ⟨b, off, rfl, hb1, hb2, hc⟩ := h2 n hlt
    have hcn : (w.setCell ⟨g, 1, none⟩ (.int .i64 ((n : Int) + 1))).cell? ⟨b, off + n, none⟩ = some (.int .i64 l[n]) :=
      (cell_block ((grown_setCell w g 1 _).block b (by omega) (by simp; omega)) _).trans (hc n hlt)
    clear h h1 h2 hc hb1 hb2
    go_enter Try.func18, Try.ntmps18
    go_wp2_with fail
    go_ret
    exact ⟨ret_int (HN.out hlt).symm, HA.out, HG.out⟩
  · clear h h1 h2
    go_enter Try.func18, Try.ntmps18
    go_wp2_with fail
    go_ret
    exact ⟨ret_int (HZ.out (by omega)).symm, HA.out, HG.out⟩
set_option maxHeartbeats 400000 in
/-- how many were drawn -/
theorem count_any (lo hi g : Nat) (l : List Int) (n : Nat) (w : World) (h : At w 37 lo hi g l n) :
    Calls Try.prog 10 #[.pointer (some ⟨g, 0, none⟩)] w fun e w' => e = .returned (.int .i64 n) ∧ w' = w := by
  obtain ⟨A, c, h1, _⟩ := h.at_
  have hc1 : w.cell? ⟨g, 1, none⟩ = some (.int .i64 n) := row_cell h1 1
  clear h h1
  go_enter Try.func10, Try.ntmps10
  go_wp2_with fail
  go_ret
  exact ⟨rfl, rfl⟩
set_option maxHeartbeats 800000 in
/-- the number that a method value answers, brought below m -/
theorem below_any (lo hi g : Nat) (l : List Int) (n : Nat) (hn : n < 9223372036854775807) (m : Int) (hm : InInt m) (w : World) (h : At w 37 lo hi g l n) :
    Calls Try.prog 17 #[.int .i64 m, .func (.func 18) #[.pointer (some ⟨g, 0, none⟩)] #[]] w fun e w' =>
      e = .returned (.int .i64 (md m (nx l n))) ∧ At w' 37 lo hi g l (n + 1) ∧ w.grownBy w' (some g) := by
  have HT := hid (take_any lo hi g l n hn w h)
  have hx := nx_in h.small n
  clear h
  revert HT hx
  generalize nx l n = v
  intro HT hx
  have hx1 := hx.1
  have hx2 := hx.2
  have hm1 := hm.1
  have hm2 := hm.2
  by_cases h1 : m < 1
  · have HM : Hid (md m v = 0) := hid (if_pos h1)
    go_enter Try.func17, Try.ntmps17
    go_wp2_with fail
    refine HT.out.mono ?_
    rintro e w1 ⟨rfl, hA, hG⟩
    go_wp2_with fail
    go_ret
    exact ⟨ret_int HM.out.symm, hA, hG⟩
  · have hlt := tmod_lt v m (by omega)
    obtain ⟨t, ht⟩ : ∃ t, v.tmod m = t := ⟨_, rfl⟩
    have HM : Hid (md m v = if t < 0 then t + m else t) := hid (by unfold md; rw [if_neg h1, ht])
    rw [ht] at hlt
    obtain ⟨hl1, hl2⟩ := hlt
    by_cases h2 : t < 0
    · go_enter Try.func17, Try.ntmps17
      go_wp2_with fail
      refine HT.out.mono ?_
      rintro e w1 ⟨rfl, hA, hG⟩
      go_wp2_with fail
      go_ret
      exact ⟨ret_int (by rw [HM.out, if_pos h2]), hA, hG⟩
    · go_enter Try.func17, Try.ntmps17
      go_wp2_with fail
      refine HT.out.mono ?_
      rintro e w1 ⟨rfl, hA, hG⟩
      go_wp2_with fail
      go_ret
      exact ⟨ret_int (by rw [HM.out, if_neg (by omega)]), hA, hG⟩
set_option maxHeartbeats 400000 in
/-- the next number below m -/
theorem next_any (lo hi g : Nat) (l : List Int) (n : Nat) (hn : n < 9223372036854775807) (m : Int) (hm : InInt m) (w : World) (h : At w 37 lo hi g l n) :
    Calls Try.prog 11 #[.pointer (some ⟨g, 0, none⟩), .int .i64 m] w fun e w' =>
      e = .returned (.int .i64 (md m (nx l n))) ∧ At w' 37 lo hi g l (n + 1) ∧ w.grownBy w' (some g) := by
  have hmf : ∀ (fn : Fn) (first cap : Array Value) (w : World), (Instr.makeFunc fn first cap).run Try.prog w = .ok (.func fn first cap) w := fun _ _ _ _ => rfl
  have HB := hid (below_any lo hi g l n hn m hm w h)
  clear h hm
  go_enter Try.func11, Try.ntmps11
  go_wp2_with fail
  refine HB.out.mono ?_
  rintro e w1 ⟨rfl, hA, hG⟩
  go_wp2_with fail
  go_ret
  exact ⟨rfl, hA, hG⟩
/-- the same, the answer said apart -/
theorem next_N (lo hi g : Nat) (l : List Int) (n : Nat) (hn : n < 9223372036854775807) (m : Int) (hm : InInt m) (v : Int) (hv : md m (nx l n) = v) (w : World) (h : At w 37 lo hi g l n) :
    Calls Try.prog 11 #[.pointer (some ⟨g, 0, none⟩), .int .i64 m] w fun e w' =>
      e = .returned (.int .i64 v) ∧ At w' 37 lo hi g l (n + 1) ∧ w.grownBy w' (some g) := by
  subst hv; exact next_any lo hi g l n hn m hm w h

theorem info_i64 : (Try.prog.info? 3).map (fun i => (i.zero, i.size, i.bytes)) = some (some (.int .i64 0), 1, 8) := by kernel_rfl
theorem OwnsI.none_ {e : TypeId} {w : World} {base c : Nat} {A : Option Addr} {l : List Int} (h : OwnsI e w base A c l) : A = none → l = [] := by
  rintro rfl
  have := h.reads
  exact this.of_none
set_option maxHeartbeats 400000 in
theorem clone_any (B : Nat) (A : Option Addr) (c : Nat) (l : List Int) (hl : l.length * 8 ≤ 140737488354000) (w : World) (h : IsInts w B A l) (hB : B ≤ w.heap.size) (hn : A = none → c = 0) :
    Calls Try.prog 15 #[.slice A l.length c] w fun e w' => ∃ A' c', e = .returned (.slice A' l.length c') ∧ OwnsI 3 w' w.heap.size A' c' l ∧ Below w.heap.size w w' := by
  obtain ⟨i0, hi, hz0, hz1, hz2⟩ := info_parts info_i64
  have hq := fun (w : World) (a : Option Addr) (n c : Nat) => Lib.run_eql_slice_nil (P := Try.prog) w 22 3 a n c 0 0 Try.underlying22
  rcases A with _ | ad
  · obtain rfl := hn rfl
    obtain rfl := h.of_none
    go_enter Try.func15, Try.ntmps15
    go_wp2
    go_ret
    exact ⟨none, 0, rfl, OwnsI.nil _ _ _, Below.refl _ _⟩
  · have hbel : Below w.heap.size w (w.alloc (.cells #[] 3)) := (Below.refl _ _).alloc (Nat.le_refl _) _
    have hown : OwnsI 3 (w.alloc (.cells #[] 3)) w.heap.size (some ⟨w.heap.size, 0, none⟩) 0 [] := by
      refine ⟨by simp, by simp [ints], .inr ⟨w.heap.size, 0, _, rfl, Nat.le_refl _, heap_alloc_new w _, Nat.zero_le _, by unfold maxLen; omega, by simp, by simp [ints]⟩⟩
    have hs : IsInts (w.alloc (.cells #[] 3)) w.heap.size (some ad) l := (h.more hB).below hbel
    have HB := hid hbel
    have hsz := hbel.size
    have HS := hid hsz
    clear hbel hsz
    go_enter Try.func15, Try.ntmps15
    go_wp2_with (at_builtin; refine wpList_append_intsN rfl _ _ 22 rfl w.heap.size 3 i0 Try.underlying22 hi hz0 hz1 hz2 (some ⟨w.heap.size, 0, none⟩) 0 [] 0 rfl rfl hown w.heap.size (some ad) c l l.length rfl rfl hn hs l (List.nil_append _) (by omega) HS.out ?_)
    intro A3 c3 w2 hown2 hbel2
    have HB2 := hid (HB.out.trans hbel2)
    clear hown hs hbel2
    go_wp2
    go_ret
    exact ⟨A3, c3, ret_len (by simp), hown2, HB2.out⟩

set_option maxHeartbeats 400000 in
/-- draws that are made, behind all that was there -/
theorem new_any (B : Nat) (A : Option Addr) (c : Nat) (l : List Int) (hl : l.length * 8 ≤ 140737488354000) (w : World) (h : IsInts w B A l) (hB : B ≤ w.heap.size) (hn : A = none → c = 0) :
    Calls Try.prog 7 #[.slice A l.length c] w fun e w' => ∃ g, e = .returned (.pointer (some ⟨g, 0, none⟩)) ∧ At w' 37 w.heap.size g g l 0 ∧ Below w.heap.size w w' ∧ w.heap.size ≤ g ∧ w'.heap.size = g + 1 := by
  have HC := hid (clone_any B A c l hl w h hB hn)
  have hsm := h.small
  clear h hn
  go_enter Try.func7, Try.ntmps7
  go_wp2_with fail
  refine HC.out.mono ?_
  rintro e w1 ⟨A1, c1, rfl, hown, hbel⟩
  have hsz := hbel.size
  clear HC
  have HR : Hid (At (w1.alloc (.cells #[.slice A1 l.length c1, .int .i64 0] 37)) 37 w.heap.size w1.heap.size w1.heap.size l 0) := by
    refine ⟨Nat.le_refl _, hsm, by unfold maxLen; omega, A1, c1, heap_alloc_new w1 _, fun k hk => ?_⟩
    obtain ⟨g, rfl, h1, h2, _⟩ := hown.at_ hk
    refine ⟨g, 0, rfl, h1, h2, fun i hi => ?_⟩
    obtain ⟨g', e', _, _, h3, _⟩ := hown.at_ hi
    obtain rfl : g = g' := by injection e' with e'; injection e'
    rw [Nat.zero_add]
    exact (cell_block (((Below.refl w1.heap.size w1).alloc (Nat.le_refl _) _).block g h2) _).trans h3
  have HB := hid (hbel.trans (((Below.refl w1.heap.size w1).alloc (Nat.le_refl _) (.cells #[.slice A1 l.length c1, .int .i64 0] 37)).mono hsz))
  clear hown hbel
  go_wp2_with fail
  go_ret
  exact ⟨w1.heap.size, rfl, HR.out, HB.out, hsz, by simp⟩
end Go.Proofs.Ytceecckipeeigaa.Dw
