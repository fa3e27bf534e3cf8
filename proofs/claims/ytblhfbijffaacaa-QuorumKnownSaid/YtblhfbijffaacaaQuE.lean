/- The walks through quorum's Won: a set of nodes, and the function that looks into it. -/
import Derived.Test.YtblhfbijffaacaaQuA
import Derived.Test.YtblhfbijffaacaaTurned
import Derived.Maps.OwnSet
import Derived.Maps.OwnOps
import Derived.Maps.AppendAt
namespace Go.Proofs.Ytblhfbijffaacaa
open Go.RowKit Go.Maps

theorem keyI : Keyed Try.prog 3 := int_keyed Try.underlying3
theorem wfI {x : Int} (h : InInt x) : (Lit.int .i64 x).wf = true := by
  obtain ⟨h1, h2⟩ := h
  simp [Lit.wf, IntKind.min, IntKind.max, IntKind.signed, IntKind.bits]; omega
theorem keyOfI {x : Int} (h : InInt x) : keyOf Try.prog 3 (.int .i64 x) = some (.int .i64 x) := keyOf_int_mk Try.underlying3 (wfI h)
theorem keyLitI (x : Int) : WideAt.IsKeyLit (.int .i64 x) := by simp [WideAt.IsKeyLit]
theorem zeroUnit (w : World) : (zeroValue 47).run Try.prog w = .ok (.agg #[]) w := by kernel_rfl

/-- block b holds a set: just the numbers of l -/
def SetAt (w : World) (b : Nat) (l : List Int) : Prop := ∃ D : DataW Unit, w.ownsMap Try.prog 3 unitElem b l.length D ∧ ∀ x, Maps.has D (.int .i64 x) = decide (x ∈ l)
theorem SetAt.lt {w : World} {b : Nat} {l : List Int} (h : SetAt w b l) : b < w.heap.size := by obtain ⟨D, h1, _⟩ := h; exact h1.lt
theorem SetAt.keep {w w' : World} {b : Nat} {l : List Int} (h : SetAt w b l) (hk : w'.heap[b]? = w.heap[b]?) : SetAt w' b l := by
  obtain ⟨D, ⟨es, clock, hb, r⟩, h2⟩ := h
  exact ⟨D, ⟨es, clock, hk.trans hb, r⟩, h2⟩
theorem SetAt.below {w w' : World} {B b : Nat} {l : List Int} (h : SetAt w b l) (hb : Below B w w') (hlt : b < B) : SetAt w' b l := h.keep (hb.block b hlt)
theorem SetAt.made (w : World) : SetAt (w.alloc (.map #[] 0)) w.heap.size [] := ⟨.map [], World.ownsMap_made _ _ _ _, fun x => by simp [has_eq]⟩

set_option maxRecDepth 100000 in
theorem won1_any (bx b : Nat) (l : List Int) (x : Int) (hx : InInt x) (w : World) (hc : w.cell? ⟨bx, 0, none⟩ = some (.map (some b))) (h : SetAt w b l) :
    Calls Try.prog 37 #[.int .i64 x, .pointer (some ⟨bx, 0, none⟩)] w fun e w' => e = .returned (.bool (decide (x ∈ l))) ∧ Below w.heap.size w w' := by
  obtain ⟨D, hown, hD⟩ := h
  have hkey := keyOfI hx
  have hx' := hD x
  have HX := hid hx'
  have HB := hid ((Below.refl w.heap.size w).alloc (Nat.le_refl _) (.cells #[] 47))
  clear hD hx'
  go_enter Try.func37, Try.ntmps37
  go_wp2_with (first
    | (at_lookup; refine wpList_lookup_own_unit _ rfl _ _ 46 rfl 3 47 keyI Try.underlying46 (zeroUnit _) b l.length D rfl hown _ _ rfl hkey ?_)
    | go_in)
  go_ret
  exact ⟨by rw [← HX.out]; rfl, HB.out⟩

/-- three blocks that were made one after the other -/
theorem three_new (w : World) (o1 o2 o3 : Obj) : (((w.alloc o1).alloc o2).alloc o3).heap[w.heap.size]? = some o1 ∧ (((w.alloc o1).alloc o2).alloc o3).heap[w.heap.size + 1]? = some o2 ∧ (((w.alloc o1).alloc o2).alloc o3).heap[w.heap.size + 2]? = some o3 ∧
    (((w.alloc o1).alloc o2).alloc o3).heap.size = w.heap.size + 3 ∧ Below w.heap.size w (((w.alloc o1).alloc o2).alloc o3) := by
  refine ⟨?_, ?_, ?_, by simp, (((Below.refl _ w).alloc (Nat.le_refl _) _).alloc (by simp) _).alloc (by simp; omega) _⟩
  · rw [Below.heap_alloc _ _ _ (by simp; omega), Below.heap_alloc _ _ _ (by simp)]; exact heap_alloc_new w o1
  · rw [Below.heap_alloc _ _ _ (by simp)]
    have := heap_alloc_new (w.alloc o1) o2
    rwa [World.size_alloc] at this
  · have := heap_alloc_new ((w.alloc o1).alloc o2) o3
    rwa [World.size_alloc, World.size_alloc] at this

set_option maxRecDepth 100000 in
set_option maxHeartbeats 1000000 in
theorem won_any (B : Nat) (c : Qu.Cf) (hs0 : Short c) (a0 a1 a2 ay : Option Addr) (k0 k1 k2 ky : Nat) (yes : List Int) (hy0 : yes.length ≤ 2000) (w : World) (h0 : CIs w B c a0 a1 a2 k0 k1 k2) (hY0 : IsInts w B ay yes) (hB : B ≤ w.heap.size) :
    Calls Try.prog 17 #[.agg #[.slice a0 c.old.length k0, .slice a1 c.new.length k1, .slice a2 c.lrn.length k2], .slice ay yes.length ky] w fun e w' => e = .returned (.bool (Qu.won c yes)) ∧ Below w.heap.size w w' := by
  have h := hid h0
  have hs := hid hs0
  have hY := hid hY0
  have hmm := @run_makeMap Try.prog
  have hq : Qu.won c yes = Qu.quo c (fun x => decide (x ∈ yes)) := rfl
  rw [hq]
  clear h0 hs0 hY0 hq
  go_enter Try.func17, Try.ntmps17
  go_wp2_with fail
  obtain ⟨q0, q1, q2, q3, q4⟩ := three_new w (.cells #[.slice a0 c.old.length k0, .slice a1 c.new.length k1, .slice a2 c.lrn.length k2] 24) (.map #[] 0) (.cells #[.map (some (w.heap.size + 1))] 46)
  have qs : SetAt (((w.alloc (.cells #[.slice a0 c.old.length k0, .slice a1 c.new.length k1, .slice a2 c.lrn.length k2] 24)).alloc (.map #[] 0)).alloc (.cells #[.map (some (w.heap.size + 1))] 46)) (w.heap.size + 1) [] := by
    have := SetAt.made (w.alloc (.cells #[.slice a0 c.old.length k0, .slice a1 c.new.length k1, .slice a2 c.lrn.length k2] 24))
    rw [World.size_alloc] at this
    exact this.keep (Below.heap_alloc _ _ _ (by simp))
  have H0 := hid q0
  have H2 := hid q2
  have H3 := hid q3
  have H4 := hid q4
  have HS := hid qs
  clear q0 q1 q2 q3 q4 qs
  go_loopw [11] (fun i wr => ∃ k : Nat, k ≤ yes.length ∧ i = .int .i64 k ∧ Hid (Below w.heap.size w wr) ∧ Hid (w.heap.size + 3 ≤ wr.heap.size) ∧ Hid (wr.heap[w.heap.size]? = some (.cells #[.slice a0 c.old.length k0, .slice a1 c.new.length k1, .slice a2 c.lrn.length k2] 24 (0, 0))) ∧
    Hid (wr.heap[w.heap.size + 2]? = some (.cells #[.map (some (w.heap.size + 1))] 46 (0, 0))) ∧ Hid (SetAt wr (w.heap.size + 1) (yes.take k))) (fun i _ => yes.length - (intOf i).toNat)
  case atStart => exact ⟨0, by omega, rfl, H4, hid (Nat.le_of_eq H3.out.symm), H0, H2, by simpa using HS⟩
  case round =>
    clear H0 H2 H3 H4 HS
    obtain ⟨k, hk, rfl, hbel, hsz, hc, hm, hset⟩ := hrel
    have cm : wr.cell? ⟨w.heap.size + 2, 0, none⟩ = some (.map (some (w.heap.size + 1))) := cell_of_row wr (w.heap.size + 2) 0 _ _ _ hm.out
    by_cases hlt : k < yes.length
    · obtain ⟨b, off, rfl, hb, hcell⟩ := hY.out.cells k hlt
      have hck : wr.cell? ⟨b, off + k, none⟩ = some (.int .i64 yes[k]) := (hbel.out.cell (p := ⟨b, off + k, none⟩) (by show b < _; omega)).trans (hcell k hlt)
      obtain ⟨D, hown, hD⟩ := hset.out
      have HD := hid hD
      have HIM := hid hown.isMap
      have hkey := keyOfI (hY.out.small _ (List.getElem_mem hlt))
      have hlen : (yes.take k).length = k := by rw [List.length_take]; omega
      rw [hlen] at hown
      have hbnd : k < maxLen := by unfold maxLen; omega
      have HST := hid (List.take_succ_eq_append_getElem hlt)
      have HLT := hid hlt
      have hkx := keyLitI yes[k]
      generalize yes[k] = x at *
      clear hcell hD hlen hlt
      go_wp2_with (first
        | (at_mapUpdate; refine wpList_mapUpdate_own _ rfl _ _ _ 46 rfl 3 47 keyI Try.underlying46 (unitElem (H := Unit)) (w.heap.size + 1) k D rfl hown hbnd _ _ _ rfl rfl hkey _ [] unitElem_mk ?_; intro w1 hown1 hgrow1)
        | go_in)
      have hblk : ∀ j, j < w.heap.size + 3 → j ≠ w.heap.size + 1 → w1.heap[j]? = wr.heap[j]? := fun j hj hne => hgrow1.block j (by have := hsz.out; omega) (fun e => hne (by injection e))
      have HB := hid hblk
      have HO := hid hown1
      have HG := hid hgrow1
      clear hblk hown1 hgrow1 hown
      go_roundw
      case rel =>
        refine ⟨k + 1, by have := HLT.out; omega, by go_num, hid (hbel.out.grown HG.out (by have := hsz.out; omega) (fun j e => by injection e with e; omega)), ?_, hid ((HB.out _ (by omega) (by omega)).trans hc.out), hid ((HB.out _ (by omega) (by omega)).trans hm.out), hid ?_⟩
        · exact hid (Nat.le_trans hsz.out HG.out.size)
        · refine ⟨_, by rw [List.length_take, Nat.min_eq_left (by have := HLT.out; omega)]; exact HO.out, fun y => ?_⟩
          rw [HST.out]
          by_cases hxy : y = x
          · subst hxy
            rw [has_put_same HIM.out hkx]
            simp
          · rw [has_put_other (fun e => hxy (by injection e)), HD.out y]
            simp [hxy]
      case measure => simp [intOf]; have := HLT.out; omega
    · obtain rfl : k = yes.length := by omega
      have hset2 : SetAt wr (w.heap.size + 1) yes := by have := hset.out; rwa [List.take_length] at this
      have c0 : wr.cell? ⟨w.heap.size, 0, none⟩ = some (.slice a0 c.old.length k0) := cell_of_row wr w.heap.size 0 _ _ _ hc.out
      have c1 : wr.cell? ⟨w.heap.size, 1, none⟩ = some (.slice a1 c.new.length k1) := cell_of_row wr w.heap.size 1 _ _ _ hc.out
      have c2 : wr.cell? ⟨w.heap.size, 2, none⟩ = some (.slice a2 c.lrn.length k2) := cell_of_row wr w.heap.size 2 _ _ _ hc.out
      have ht : Tells 37 #[.pointer (some ⟨w.heap.size + 2, 0, none⟩)] (fun x => decide (x ∈ yes)) wr := fun x hx w2 hb2 =>
        won1_any (w.heap.size + 2) (w.heap.size + 1) yes x hx w2 ((hb2.cell (by have := hsz.out; show w.heap.size + 2 < _; omega)).trans cm) (hset2.below hb2 hset2.lt)
      have HQ := hid (quorum_any _ _ _ wr ht (enters_of Try.func37 (by kernel_rfl) rfl) B c hs.out a0 a1 a2 k0 k1 k2 wr (Below.refl _ _) (h.out.below (hbel.out.mono hB)) (by have := hsz.out; omega))
      clear hset2 ht
      go_wp2_with fail
      refine HQ.out.mono ?_
      rintro e w3 ⟨rfl, hb3⟩
      have HB3 := hid (bthen hbel.out hb3 hbel.out.size)
      clear hb3
      go_wp2
      go_ret
      exact ⟨rfl, HB3.out⟩
end Go.Proofs.Ytblhfbijffaacaa
