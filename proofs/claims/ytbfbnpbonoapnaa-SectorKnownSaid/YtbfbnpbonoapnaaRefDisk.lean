/- The document's disk, in plain words and in memory; the walks through its small methods. -/
import Derived.Test.YtbfbnpbonoapnaaRefPut04
namespace Go.Proofs.Ytbfbnpbonoapnaa
open Go.RowKit

namespace Sx
structure Xs where
  n : Nat
  left : Int
  off : Bool
  lasts : Nat → Option (List Nat × Bool)
  cache : Nat → Option (List Nat)
def Xs.cf (x : Xs) : Nat → Option (List Nat × Bool) := fun i => (x.cache i).map fun b => (b, false)
def Xs.ll (x : Xs) : List Sec := secs x.lasts 0 x.n
def Xs.cl (x : Xs) : List Sec := secs x.cf 0 x.n
def newX (n : Nat) : Xs := ⟨n, -1, false, fun _ => none, fun _ => none⟩
def doneS (x : Xs) : Xs := if x.left = 0 then { x with off := true } else if 0 < x.left then { x with left := x.left - 1 } else x
def armX (x : Xs) (n : Int) : Xs := { x with left := if n < 0 then -1 else n }
end Sx

/-- The document's disk x lies in block g; neither it nor its lists lie in a block of Z. -/
structure RefAt (w : World) (Z : Nat → Prop) (g : Nat) (x : Sx.Xs) : Prop where
  bound : 1 ≤ x.n ∧ x.n ≤ 16384
  off : ¬ Z g
  left : -1 ≤ x.left ∧ x.left ≤ 9223372036854775807
  disk : ∃ A1 n1 c1 A2 n2 c2, w.heap[g]? = some (.cells #[.int .i64 (x.n : Nat), .int .i64 x.left, .bool x.off, .slice A1 n1 c1, .slice A2 n2 c2] 66 (0, 0)) ∧ SecsAt w Z (.slice A1 n1 c1) x.ll ∧ SecsAt w Z (.slice A2 n2 c2) x.cl
namespace RefAt
variable {w w' : World} {Z Z' : Nat → Prop} {g : Nat} {x x' : Sx.Xs}
theorem lt (h : RefAt w Z g x) : g < w.heap.size := by
  obtain ⟨_, _, _, _, _, _, h1, _⟩ := h.disk
  exact (Array.getElem?_eq_some_iff.1 h1).1
theorem keep (h : RefAt w Z g x) (ht : Turned Z w w') : RefAt w' Z g x := by
  have hlt := h.lt
  obtain ⟨A1, n1, c1, A2, n2, c2, h1, h2, h3⟩ := h.disk
  exact ⟨h.bound, h.off, h.left, A1, n1, c1, A2, n2, c2, (ht.block g hlt h.off).trans h1, h2.keep ht, h3.keep ht⟩
theorem mono (h : RefAt w Z g x) (hz : ∀ k, Z' k → Z k) : RefAt w Z' g x := by
  obtain ⟨A1, n1, c1, A2, n2, c2, h1, h2, h3⟩ := h.disk
  exact ⟨h.bound, fun e => h.off (hz g e), h.left, A1, n1, c1, A2, n2, c2, h1, h2.mono hz, h3.mono hz⟩
theorem shun (h : RefAt w Z g x) : RefAt w (fun k => Z k ∨ w.heap.size ≤ k) g x := by
  have hlt := h.lt
  obtain ⟨A1, n1, c1, A2, n2, c2, h1, h2, h3⟩ := h.disk
  exact ⟨h.bound, fun e => e.elim h.off (fun e => by omega), h.left, A1, n1, c1, A2, n2, c2, h1, h2.shun, h3.shun⟩
theorem below (h : RefAt w Z g x) (hb : Below w.heap.size w w') : RefAt w' Z g x := h.keep (Turned.ofBelow _ hb)
theorem drewN (h : RefAt w Z g x) (n : Nat) : RefAt (w.drewN n) Z g x := h.below (below_drewN (Below.refl _ _) n)
theorem drew (h : RefAt w Z g x) : RefAt w.drew Z g x := h.below (Below.refl _ _).drew
theorem congr (h : RefAt w Z g x) (hn : x'.n = x.n) (hl : x'.left = x.left) (ho : x'.off = x.off) (h1 : ∀ i, i < x.n → x'.lasts i = x.lasts i) (h2 : ∀ i, i < x.n → x'.cache i = x.cache i) : RefAt w Z g x' := by
  have e1 : x'.ll = x.ll := by unfold Sx.Xs.ll; rw [hn]; exact Sx.secs_cong _ _ (fun i _ hi => h1 i (by omega))
  have e2 : x'.cl = x.cl := by unfold Sx.Xs.cl Sx.Xs.cf; rw [hn]; exact Sx.secs_cong _ _ (fun i _ hi => by rw [h2 i (by omega)])
  refine ⟨by rw [hn]; exact h.bound, h.off, by rw [hl]; exact h.left, ?_⟩
  rw [e1, e2, hn, hl, ho]
  exact h.disk
theorem frozen (h : RefAt w Z g x) (k : Nat) : w.frozen? ⟨g, k, none⟩ = false := by
  obtain ⟨A1, n1, c1, A2, n2, c2, h1, _⟩ := h.disk
  simp [World.frozen?, h1]
/-- its cells -/
theorem cells (h : RefAt w Z g x) : ∃ A1 c1 A2 c2, w.cell? ⟨g, 0, none⟩ = some (.int .i64 (x.n : Nat)) ∧ w.cell? ⟨g, 1, none⟩ = some (.int .i64 x.left) ∧ w.cell? ⟨g, 2, none⟩ = some (.bool x.off) ∧
    w.cell? ⟨g, 3, none⟩ = some (.slice A1 x.ll.length c1) ∧ w.cell? ⟨g, 4, none⟩ = some (.slice A2 x.cl.length c2) ∧ SecsAt w Z (.slice A1 x.ll.length c1) x.ll ∧ SecsAt w Z (.slice A2 x.cl.length c2) x.cl := by
  obtain ⟨A1, n1, c1, A2, n2, c2, h1, h2, h3⟩ := h.disk
  obtain ⟨A1', c1', e1⟩ := h2.slice
  obtain ⟨A2', c2', e2⟩ := h3.slice
  have e1 : n1 = x.ll.length := by injection e1
  have e2 : n2 = x.cl.length := by injection e2
  subst e1
  subst e2
  exact ⟨A1, c1, A2, c2, by simp [World.cell?, h1], by simp [World.cell?, h1], by simp [World.cell?, h1], by simp [World.cell?, h1], by simp [World.cell?, h1], h2, h3⟩
theorem len1 (x : Sx.Xs) : x.ll.length ≤ x.n := Sx.secs_length_le _ _ _
theorem len2 (x : Sx.Xs) : x.cl.length ≤ x.n := Sx.secs_length_le _ _ _
/-- the lists stay while its head is written -/
theorem secsHead (h : RefAt w Z g x) {v : Value} {L : List Sx.Sec} (hs : SecsAt w Z v L) (ht : Turned (fun k => k = g) w w') : SecsAt w' Z v L := by
  obtain ⟨A1, n1, c1, A2, n2, c2, h1, _⟩ := h.disk
  refine (((hs.shunTag h1 ?_ ?_).keep (ht.mono (fun _ h => .inr h))).mono (fun _ h => .inl h))
  · intro cur e
    have h3 := (Obj.cells.inj e).2.1
    revert h3; decide
  · intro cur e
    have h3 := (Obj.cells.inj e).2.1
    revert h3; decide
/-- the power is written -/
theorem head (h : RefAt w Z g x) (ht : Turned (fun k => k = g) w w') (hn : x'.n = x.n) (hl : x'.lasts = x.lasts) (hc : x'.cache = x.cache) (hb : -1 ≤ x'.left ∧ x'.left ≤ 9223372036854775807)
    (he : ∀ a b, w.heap[g]? = some (.cells #[.int .i64 (x.n : Nat), .int .i64 x.left, .bool x.off, a, b] 66 (0, 0)) → w'.heap[g]? = some (.cells #[.int .i64 (x.n : Nat), .int .i64 x'.left, .bool x'.off, a, b] 66 (0, 0))) : RefAt w' Z g x' := by
  have hd := h.disk
  obtain ⟨A1, n1, c1, A2, n2, c2, h1, h2, h3⟩ := hd
  have e1 : x'.ll = x.ll := by unfold Sx.Xs.ll; rw [hn, hl]
  have e2 : x'.cl = x.cl := by unfold Sx.Xs.cl Sx.Xs.cf; rw [hn, hc]
  refine ⟨by rw [hn]; exact h.bound, h.off, hb, A1, n1, c1, A2, n2, c2, by rw [hn]; exact he _ _ h1, ?_, ?_⟩
  · rw [e1]; exact h.secsHead h2 ht
  · rw [e2]; exact h.secsHead h3 ht
/-- a list is written: what is lasting -/
theorem setL (h : RefAt w Z g x) {A : Option Addr} {n c : Nat} (hs : SecsAt w Z (.slice A n c) x'.ll) (hn : x'.n = x.n) (hl : x'.left = x.left) (ho : x'.off = x.off) (hc : x'.cache = x.cache) :
    RefAt (w.setCell ⟨g, 3, none⟩ (.slice A n c)) Z g x' ∧ Turned (fun k => k = g) w (w.setCell ⟨g, 3, none⟩ (.slice A n c)) := by
  have ht : Turned (fun k => k = g) w (w.setCell ⟨g, 3, none⟩ (.slice A n c)) := Turned.one _ _ _ _
  obtain ⟨A1, n1, c1, A2, n2, c2, h1, h2, h3⟩ := h.disk
  have e2 : x'.cl = x.cl := by unfold Sx.Xs.cl Sx.Xs.cf; rw [hn, hc]
  refine ⟨⟨by rw [hn]; exact h.bound, h.off, by rw [hl]; exact h.left, A, n, c, A2, n2, c2, ?_, h.secsHead hs ht, by rw [e2]; exact h.secsHead h3 ht⟩, ht⟩
  rw [hn, hl, ho]
  simp [World.setCell, Array.getElem?_modify, h1]
/-- .. what the cache has -/
theorem setC (h : RefAt w Z g x) {A : Option Addr} {n c : Nat} (hs : SecsAt w Z (.slice A n c) x'.cl) (hn : x'.n = x.n) (hl : x'.left = x.left) (ho : x'.off = x.off) (hc : x'.lasts = x.lasts) :
    RefAt (w.setCell ⟨g, 4, none⟩ (.slice A n c)) Z g x' ∧ Turned (fun k => k = g) w (w.setCell ⟨g, 4, none⟩ (.slice A n c)) := by
  have ht : Turned (fun k => k = g) w (w.setCell ⟨g, 4, none⟩ (.slice A n c)) := Turned.one _ _ _ _
  obtain ⟨A1, n1, c1, A2, n2, c2, h1, h2, h3⟩ := h.disk
  have e2 : x'.ll = x.ll := by unfold Sx.Xs.ll; rw [hn, hc]
  refine ⟨⟨by rw [hn]; exact h.bound, h.off, by rw [hl]; exact h.left, A1, n1, c1, A, n, c, ?_, by rw [e2]; exact h.secsHead h2 ht, h.secsHead hs ht⟩, ht⟩
  rw [hn, hl, ho]
  simp [World.setCell, Array.getElem?_modify, h1]
end RefAt

theorem refNew_err (n : Int) (hn : n < 1 ∨ 16384 < n) (w : World) :
    Calls Try.prog 11 #[.int .i64 n] w fun e w' => e = .returned (.tuple #[.pointer none, .int .i64 3]) ∧ w' = w := by
  rcases hn with hn | hn
  · go_enter Try.func11, Try.ntmps11
    go_wp2
    go_ret2
    exact ⟨rfl, rfl⟩
  · have h1 : ¬ n < 1 := by omega
    go_enter Try.func11, Try.ntmps11
    go_wp2
    go_ret2
    exact ⟨rfl, rfl⟩
set_option maxRecDepth 100000 in
theorem refNew_any (n : Nat) (hn : 1 ≤ n ∧ n ≤ 16384) (w : World) :
    Calls Try.prog 11 #[.int .i64 (n : Int)] w fun e w' => ∃ g, e = .returned (.tuple #[.pointer (some ⟨g, 0, none⟩), .int .i64 0]) ∧ RefAt w' (fun k => k < w.heap.size) g (Sx.newX n) ∧ Below w.heap.size w w' := by
  obtain ⟨hn1, hn2⟩ := hn
  go_enter Try.func11, Try.ntmps11
  go_wp2
  go_ret2
  refine ⟨w.heap.size, rfl, ⟨⟨hn1, hn2⟩, fun e => Nat.lt_irrefl _ e, ⟨by show (-1 : Int) ≤ -1; omega, by show (-1 : Int) ≤ 9223372036854775807; omega⟩, none, 0, 0, none, 0, 0, ?_, ?_, ?_⟩, below_one _ _⟩
  · exact heap_alloc_new w _
  · have e : (Sx.newX n).ll = [] := Sx.secs_none _ _
    rw [e]; exact SecsAt.nil _ _
  · have e : (Sx.newX n).cl = [] := Sx.secs_none _ _
    rw [e]; exact SecsAt.nil _ _
theorem refArm_any (Z : Nat → Prop) (g : Nat) (x : Sx.Xs) (n : Int) (hn : InInt n) (w : World) (h : RefAt w Z g x) :
    Calls Try.prog 36 #[.pointer (some ⟨g, 0, none⟩), .int .i64 n] w fun e w' => e = .returned (.tuple #[]) ∧ RefAt w' Z g (Sx.armX x n) ∧ Turned (fun k => k = g) w w' := by
  obtain ⟨A1, c1', A2, c2', c0, c1, c2, c3, c4, _, _⟩ := h.cells
  have f1 := h.frozen 1
  have HH := hid h
  have HN := hid hn
  clear h hn
  by_cases h0 : n < 0
  · go_enter Try.func36, Try.ntmps36
    go_wp2
    go_end0
    have ht : Turned (fun j => j = g) w ((w.setCell ⟨g, 1, none⟩ (.int .i64 n)).setCell ⟨g, 1, none⟩ (.int .i64 (-1))) := Turned.two _ _ _ _ _ _
    have e : (Sx.armX x n).left = -1 := by unfold Sx.armX; simp [h0]
    refine ⟨rfl, HH.out.head ht rfl rfl rfl (by rw [e]; omega) (fun a b hd => ?_), ht⟩
    rw [e]
    simp [World.setCell, Array.getElem?_modify, hd, Sx.armX]
  · go_enter Try.func36, Try.ntmps36
    go_wp2
    go_end0
    have ht : Turned (fun j => j = g) w (w.setCell ⟨g, 1, none⟩ (.int .i64 n)) := Turned.one _ _ _ _
    have e : (Sx.armX x n).left = n := by show (if n < 0 then -1 else n) = n; rw [if_neg (by omega)]
    refine ⟨rfl, HH.out.head ht rfl rfl rfl (by rw [e]; have := HN.out.2; omega) (fun a b hd => ?_), ht⟩
    rw [e]
    simp [World.setCell, Array.getElem?_modify, hd, Sx.armX]
theorem refDone_any (Z : Nat → Prop) (g : Nat) (x : Sx.Xs) (w : World) (h : RefAt w Z g x) :
    Calls Try.prog 49 #[.pointer (some ⟨g, 0, none⟩)] w fun e w' => e = .returned (.bool (decide (x.left ≠ 0))) ∧ RefAt w' Z g (Sx.doneS x) ∧ Turned (fun k => k = g) w w' := by
  obtain ⟨A1, c1', A2, c2', c0, c1, c2, c3, c4, _, _⟩ := h.cells
  have f1 := h.frozen 1
  have f2 := h.frozen 2
  have HH := hid h
  have HB := hid h.left
  clear h
  by_cases h0 : x.left = 0
  · have e : Sx.doneS x = { x with off := true } := by unfold Sx.doneS; rw [if_pos h0]
    have e2 : decide (x.left ≠ 0) = false := by simp [h0]
    rw [e, e2]
    have H0 := hid h0
    rw [h0] at c1
    clear h0 e e2
    go_enter Try.func49, Try.ntmps49
    go_wp2
    go_ret
    have ht : Turned (fun j => j = g) w (w.setCell ⟨g, 2, none⟩ (.bool true)) := Turned.one _ _ _ _
    refine ⟨rfl, HH.out.head ht rfl rfl rfl HB.out (fun a b hd => ?_), ht⟩
    simp [World.setCell, Array.getElem?_modify, hd]
  · have e2 : decide (x.left ≠ 0) = true := by simp [h0]
    rw [e2]
    by_cases h1 : 0 < x.left
    · have e : Sx.doneS x = { x with left := x.left - 1 } := by unfold Sx.doneS; rw [if_neg h0, if_pos h1]
      rw [e]
      have H1 := hid h1
      clear e e2
      obtain ⟨hb1, hb2⟩ := HB.out
      go_enter Try.func49, Try.ntmps49
      go_wp2
      go_ret
      have e0 : wrap64 (x.left - 1) = x.left - 1 := IntWalk.wrap64_in (x.left - 1) ⟨by omega, by omega⟩
      first
      | (rw [e0]
         have ht : Turned (fun j => j = g) w (w.setCell ⟨g, 1, none⟩ (.int .i64 (x.left - 1))) := Turned.one _ _ _ _
         refine ⟨rfl, HH.out.head ht rfl rfl rfl ⟨by show -1 ≤ x.left - 1; omega, by show x.left - 1 ≤ 9223372036854775807; omega⟩ (fun a b hd => ?_), ht⟩
         simp [World.setCell, Array.getElem?_modify, hd])
      | (have ht : Turned (fun j => j = g) w (w.setCell ⟨g, 1, none⟩ (.int .i64 (x.left - 1))) := Turned.one _ _ _ _
         refine ⟨rfl, HH.out.head ht rfl rfl rfl ⟨by show -1 ≤ x.left - 1; omega, by show x.left - 1 ≤ 9223372036854775807; omega⟩ (fun a b hd => ?_), ht⟩
         simp [World.setCell, Array.getElem?_modify, hd])
    · have e : Sx.doneS x = x := by unfold Sx.doneS; rw [if_neg h0, if_neg h1]
      rw [e]
      clear e e2
      go_enter Try.func49, Try.ntmps49
      go_wp2
      go_ret
      exact ⟨rfl, HH.out, Turned.refl _ _⟩
theorem find_any (Z : Nat → Prop) (A : Option Addr) (c n : Nat) (L : List Sx.Sec) (hl : L.length ≤ 20000) (i : Int) (w : World) (h : SecsAt w Z (.slice A n c) L) (hn : n = L.length) :
    Calls Try.prog 52 #[.slice A n c, .int .i64 i] w fun e w' => (∃ r, e = .returned (.int .i64 r) ∧ ((∃ (k : Nat) (hk : k < L.length), r = k ∧ (L[k].no : Int) = i) ∨ (r = -1 ∧ ∀ x ∈ L, (x.no : Int) ≠ i))) ∧ w' = w := by
  subst hn
  have HH := hid h
  clear h
  go_enter Try.func52, Try.ntmps52
  go_wp2_with fail
  go_loopw [5] (fun iv wr => ∃ k : Nat, k ≤ L.length ∧ iv = .int .i64 k ∧ Hid (∀ x ∈ L.take k, (x.no : Int) ≠ i) ∧ wr = w) (fun i _ => L.length - (RowKit.intOf i).toNat)
  case atStart => exact ⟨0, by omega, rfl, hid (by simp), rfl⟩
  case round =>
    obtain ⟨k, hk, rfl, hS, rfl⟩ := hrel
    by_cases hlt : k < L.length
    · obtain ⟨g, A', c', rfl, _, d0, d1, d2, _, hx1, _⟩ := HH.out.at_ k hlt
      have hk0 : (k : Int) < (L.length : Int) := by omega
      by_cases h1 : (L[k].no : Int) = i
      · have H1 := hid h1
        rw [h1] at d0
        clear h1
        go_wp2
        go_ret
        refine ⟨⟨_, rfl, .inl ⟨k, ?_⟩⟩, rfl⟩
        first
        | exact ⟨hlt, rfl, H1.out⟩
        | exact ⟨rfl, hlt, H1.out⟩
      · have hS' : ∀ x ∈ L.take (k + 1), (x.no : Int) ≠ i := by
          intro x hx
          rw [List.take_succ_eq_append_getElem hlt] at hx
          rcases List.mem_append.1 hx with hx | hx
          · exact hS.out x hx
          · rw [List.mem_singleton.1 hx]; exact h1
        have HS := hid hS'
        clear hS'
        go_wp2
        go_roundw
        case rel => exact ⟨k + 1, by omega, by go_num, HS, trivial⟩
        case measure => simp [RowKit.intOf]; omega
    · obtain rfl : k = L.length := by omega
      have hS1 := hS.out
      rw [List.take_length] at hS1
      have HS := hid hS1
      clear hS1
      go_wp2
      go_ret
      exact ⟨⟨_, rfl, .inr ⟨rfl, HS.out⟩⟩, rfl⟩
end Go.Proofs.Ytbfbnpbonoapnaa
