/- The walk through the document's Slice. -/
import Derived.Test.YthocdknfkmclkaaRlRefB
import Derived.Test.YthocdknfkmclkaaEntsMore
namespace Go.Proofs.Ythocdknfkmclkaa
open Go.RowKit

set_option maxHeartbeats 1600000 in
set_option maxRecDepth 100000 in
/-- from an index that is not above the base nothing is told -/
theorem refSlice_no (B : Nat) (g : Rl.Lg) (A : Option Addr) (c : Nat) (i m : Int) (hg : Rl.Ok g) (hn : i ≤ g.base) (w : World) (h : LgIs w B g A c) (hB : B ≤ w.heap.size) :
    Calls Try.prog 20 #[.agg #[.int .i64 g.base, .int .i64 g.term, .slice A g.es.length c], .int .i64 i, .int .i64 m] w fun e w' => ∃ A' c', e = .returned (.slice A' 0 c') ∧ OwnE w' w.heap.size w'.heap.size A' c' [] ∧ Below w.heap.size w w' := by
  have hb1 : Below w.heap.size w (w.alloc (.cells #[.int .i64 g.base, .int .i64 g.term, .slice A g.es.length c] 24)) := (Below.refl _ w).alloc (Nat.le_refl _) _
  have HC := hid (refLast_any w.heap.size g A c hg _ ((h.more hB).below hb1) hb1.size)
  have HB := hid hb1
  have hla2 : g.last = g.base + (g.es.length : Nat) := rfl
  obtain ⟨⟨g0, g1⟩, _, gl⟩ := hg
  have h1 : i < g.base + 1 := by omega
  have h2 : ¬ g.base < i := by omega
  have HO : Hid (∀ w', Calls Try.prog 24 #[.slice none 0 0] w' fun e w'' => ∃ A' c', e = .returned (.slice A' 0 c') ∧ OwnE w'' w'.heap.size w''.heap.size A' c' [] ∧ Below w'.heap.size w' w'') := hid (fun w' => copyE_any 0 none 0 0 [] rfl (by omega) (fun e he => by cases he) w' IsEnts.nil (Nat.zero_le _))
  obtain ⟨lt, hlt⟩ : ∃ lt, lt = g.lastT := ⟨_, rfl⟩
  rw [← hlt, hla2] at HC
  clear h hb1 hla2 hlt hn
  by_cases h3 : g.base + 1 ≤ g.base + (g.es.length : Nat)
  · go_enter Try.func20, Try.ntmps20
    go_wp2_with fail
    refine HC.out.mono ?_
    rintro e w2 ⟨rfl, hb2⟩
    have HB2 := hid (HB.out.trans (hb2.mono HB.out.size))
    have q0 : w2.cell? ⟨w.heap.size, 0, none⟩ = some (.int .i64 g.base) := by rw [hb2.cell (by simp)]; simp
    clear hb2
    go_wp2_with fail
    go_loopw [9, 10] (fun v i wr => v = .slice none 0 0 ∧ i = .int .i64 (g.base + 1) ∧ wr = w2) (fun _ _ _ => 0)
    case atStart => exact ⟨rfl, rfl, rfl⟩
    case round =>
      obtain ⟨rfl, rfl, rfl⟩ := hrel
      go_wp2_with fail
      refine (HO.out wr).mono ?_
      rintro e w3 ⟨A3, c3, rfl, ho3, hb3⟩
      have H3 := hid (And.intro (ho3.wide HB2.out.size (Nat.le_refl _)) (HB2.out.trans (hb3.mono HB2.out.size)))
      clear hb3 ho3
      go_wp2_with fail
      go_ret
      exact ⟨A3, c3, rfl, H3.out.1, H3.out.2⟩
  · go_enter Try.func20, Try.ntmps20
    go_wp2_with fail
    refine HC.out.mono ?_
    rintro e w2 ⟨rfl, hb2⟩
    have HB2 := hid (HB.out.trans (hb2.mono HB.out.size))
    have q0 : w2.cell? ⟨w.heap.size, 0, none⟩ = some (.int .i64 g.base) := by rw [hb2.cell (by simp)]; simp
    clear hb2
    go_wp2_with fail
    go_loopw [9, 10] (fun v i wr => v = .slice none 0 0 ∧ i = .int .i64 (g.base + 1) ∧ wr = w2) (fun _ _ _ => 0)
    case atStart => exact ⟨rfl, rfl, rfl⟩
    case round =>
      obtain ⟨rfl, rfl, rfl⟩ := hrel
      go_wp2_with fail
      refine (HO.out wr).mono ?_
      rintro e w3 ⟨A3, c3, rfl, ho3, hb3⟩
      have H3 := hid (And.intro (ho3.wide HB2.out.size (Nat.le_refl _)) (HB2.out.trans (hb3.mono HB2.out.size)))
      clear hb3 ho3
      go_wp2_with fail
      go_ret
      exact ⟨A3, c3, rfl, H3.out.1, H3.out.2⟩

set_option maxHeartbeats 3200000 in
set_option maxRecDepth 100000 in
/-- from an index above the base on, entry by entry -/
theorem refSlice_yes (B : Nat) (g : Rl.Lg) (A : Option Addr) (c : Nat) (i m : Int) (j : Nat) (L : List Rl.En) (hL : L = (g.es.drop j).take m.toNat) (hi : i = g.base + (j : Int) + 1) (hg : Rl.Ok g) (hf : Rl.Few g.es) (w : World) (h : LgIs w B g A c) (hB : B ≤ w.heap.size) :
    Calls Try.prog 20 #[.agg #[.int .i64 g.base, .int .i64 g.term, .slice A g.es.length c], .int .i64 i, .int .i64 m] w fun e w' => ∃ A' c', e = .returned (.slice A' L.length c') ∧ OwnE w' w.heap.size w'.heap.size A' c' L ∧ Below w.heap.size w w' := by
  have hb1 : Below w.heap.size w (w.alloc (.cells #[.int .i64 g.base, .int .i64 g.term, .slice A g.es.length c] 24)) := (Below.refl _ w).alloc (Nat.le_refl _) _
  have HC := hid (refLast_any w.heap.size g A c hg _ ((h.more hB).below hb1) hb1.size)
  have HB := hid hb1
  have hla2 : g.last = g.base + (g.es.length : Nat) := rfl
  obtain ⟨⟨g0, g1⟩, _, gl⟩ := hg
  have hlen : L.length = min m.toNat (g.es.length - j) := by rw [hL, List.length_take, List.length_drop]
  have hfL : Rl.Few L := fun e he => hf e (by rw [hL] at he; exact List.mem_of_mem_drop (List.mem_of_mem_take he))
  have hget : ∀ k (hk : k < L.length), ∃ hk2 : j + k < g.es.length, L[k] = g.es[j + k] := fun k hk => by
    refine ⟨by omega, ?_⟩
    have : L[k]? = g.es[j + k]? := by rw [hL, List.getElem?_take, if_pos (by omega), List.getElem?_drop]
    rw [List.getElem?_eq_getElem hk, List.getElem?_eq_getElem (by omega)] at this
    exact Option.some.inj this
  have h1 : ¬ i < g.base + 1 := by omega
  have h2 : g.base < i := by omega
  have HH := hid (h.es.more hB)
  have HI := hid (And.intro hlen (And.intro hfL (And.intro hget hi)))
  obtain ⟨lt, hlt⟩ : ∃ lt, lt = g.lastT := ⟨_, rfl⟩
  obtain ⟨la, hla⟩ : ∃ la, la = g.base + (g.es.length : Nat) := ⟨_, rfl⟩
  rw [← hlt, hla2, ← hla] at HC
  have HLA := hid hla
  have hla0 : la ≤ 2199023255552 := by omega
  have hla1 : 0 ≤ la := by omega
  clear h hb1 hla2 hlt hL hla hlen hfL hget hi
  go_enter Try.func20, Try.ntmps20
  go_wp2_with fail
  refine HC.out.mono ?_
  rintro e w2 ⟨rfl, hb2⟩
  have HB2 := hid (HB.out.trans (hb2.mono HB.out.size))
  have q0 : w2.cell? ⟨w.heap.size, 0, none⟩ = some (.int .i64 g.base) := by rw [hb2.cell (by simp)]; simp
  have q2 : w2.cell? ⟨w.heap.size, 2, none⟩ = some (.slice A g.es.length c) := by rw [hb2.cell (by simp)]; simp
  have hs2 : w.heap.size < w2.heap.size := by have := hb2.size; simp at this; omega
  have HQ := hid (And.intro q0 q2)
  have H0 : Hid (SharE w2 w.heap.size w2.heap.size none 0 (L.take 0) ∧ Below w2.heap.size w2 w2) := hid ⟨SharE.nil _ _ _, Below.refl _ _⟩
  clear hb2
  go_wp2_with fail
  go_loopw [9, 10] (fun v i' wr => ∃ (k : Nat) (A1 : Option Addr) (c1 : Nat), k ≤ L.length ∧ v = .slice A1 k c1 ∧ i' = .int .i64 (i + k) ∧ Hid (SharE wr w.heap.size w2.heap.size A1 c1 (L.take k) ∧ Below w2.heap.size w2 wr)) (fun _ i' _ => L.length - (RowKit.intOf i' - i).toNat)
  case atStart => exact ⟨0, none, 0, by omega, rfl, by simp, H0⟩
  case round =>
    clear H0 q0 q2
    obtain ⟨k, A1, c1, hk, rfl, rfl, hS⟩ := hrel
    have p0 : wr.cell? ⟨w.heap.size, 0, none⟩ = some (.int .i64 g.base) := (hS.out.2.cell (by show w.heap.size < _; omega)).trans HQ.out.1
    have p2 : wr.cell? ⟨w.heap.size, 2, none⟩ = some (.slice A g.es.length c) := (hS.out.2.cell (by show w.heap.size < _; omega)).trans HQ.out.2
    by_cases hlt : k < L.length
    · have hlen := HI.out.1
      have hi := HI.out.2.2.2
      have hla := HLA.out
      have h3 : i + (k : Int) ≤ la := by omega
      have h4 : (k : Int) < m := by omega
      obtain ⟨hk2, hgk⟩ := HI.out.2.2.1 k hlt
      obtain ⟨b, off, rfl, hbw, hc⟩ := ((HH.out.below HB2.out).below (hS.out.2.mono HB2.out.size)).cells (j + k) hk2
      obtain ⟨Ad, cd, d0, d1, d2, hd, hd2, hd3⟩ := hc (j + k) hk2
      have hnum := HH.out.num _ (List.getElem_mem hk2)
      have htk : L.take (k + 1) = L.take k ++ [L[k]] := List.take_succ_eq_append_getElem hlt
      obtain ⟨x, hx⟩ : ∃ x, x = g.es[j + k] := ⟨_, rfl⟩
      rw [hgk, ← hx] at htk
      rw [← hx] at d0 d1 d2 hd hd2 hnum
      have HX := hid (And.intro hnum (And.intro htk (And.intro hd (And.intro hd2 hd3))))
      obtain ⟨v, hv⟩ : ∃ v, v = j + k := ⟨_, rfl⟩
      rw [← hv] at d0 d1 d2 hk2
      have hsub : i + (k : Int) - g.base = (v : Int) + 1 := by omega
      have hv0 : (v : Int) < (g.es.length : Int) := by omega
      have hv1 : i + (k : Int) ≤ 2199023255552 := by omega
      have hv2 : 0 ≤ i + (k : Int) := by omega
      have hl5 : k + 1 ≤ 100000 := by omega
      have HLK : Hid ((L.take k).length = k) := hid (by rw [List.length_take]; omega)
      clear hc hx hnum htk hd hd2 hd3 hlen hi hla hgk hv
      have hsr : w.heap.size ≤ wr.heap.size := Nat.le_trans HB2.out.size hS.out.2.size
      have HA := hid (And.intro (hS.out.1.below ((Below.refl _ wr).alloc (Nat.le_refl _) (.cells #[.int .i64 x.t, .int .i64 x.k, .slice Ad x.d.length cd] 47)) hsr) (HX.out.2.2.1.below (((Below.refl _ wr).alloc (Nat.le_refl _) (.cells #[.int .i64 x.t, .int .i64 x.k, .slice Ad x.d.length cd] 47)).mono hsr)))
      go_wp2_with (at_builtin; refine wpList_append_share rfl _ _ rfl HA.out.1 HB2.out.size ?hN k HLK.out rfl x HX.out.1 Ad cd ⟨HA.out.2, HX.out.2.2.2.1, HX.out.2.2.2.2⟩ ⟨wr.heap.size, 0, none⟩ 1 rfl (fun j _ => cellsE_new _ _ rfl ⟨x, Ad, cd⟩ _ j) hl5 ?_)
      case hN => rw [World.size_alloc]; have := hS.out.2.size; omega
      intro A6 c6 w6 hE6 hB6
      rw [← HX.out.2.1] at hE6
      have H6 : Hid (SharE w6 w.heap.size w2.heap.size A6 c6 (L.take (k + 1)) ∧ Below w2.heap.size w2 w6) := hid ⟨hE6, (hS.out.2.alloc hS.out.2.size _).trans hB6⟩
      clear hE6 hB6 HA
      go_wp2_with fail
      go_roundw
      case rel => exact ⟨k + 1, A6, c6, by omega, rfl, by go_num, H6⟩
      case measure => simp [RowKit.intOf]; omega
    · have hlen := HI.out.1
      have hi := HI.out.2.2.2
      have hla := HLA.out
      obtain rfl : k = L.length := by omega
      have HBr := hid (HB2.out.trans (hS.out.2.mono HB2.out.size))
      have HO := hid (copyE_any wr.heap.size A1 c1 L.length L rfl (by omega) HI.out.2.1 wr (by
        have := hS.out.1.reads HBr.out.size
        rw [List.take_length] at this
        exact this) (Nat.le_refl _))
      by_cases h3 : i + (L.length : Int) ≤ la
      · have h4 : ¬ (L.length : Int) < m := by omega
        clear hlen hi hla
        go_wp2_with fail
        refine HO.out.mono ?_
        rintro e w3 ⟨A3, c3, rfl, ho3, hb3⟩
        have H3 := hid (And.intro (ho3.wide HBr.out.size (Nat.le_refl _)) (HBr.out.trans (hb3.mono HBr.out.size)))
        clear hb3 ho3
        go_wp2_with fail
        go_ret
        exact ⟨A3, c3, rfl, H3.out.1, H3.out.2⟩
      · clear hlen hi hla
        go_wp2_with fail
        refine HO.out.mono ?_
        rintro e w3 ⟨A3, c3, rfl, ho3, hb3⟩
        have H3 := hid (And.intro (ho3.wide HBr.out.size (Nat.le_refl _)) (HBr.out.trans (hb3.mono HBr.out.size)))
        clear hb3 ho3
        go_wp2_with fail
        go_ret
        exact ⟨A3, c3, rfl, H3.out.1, H3.out.2⟩
/-- Slice tells the entries, in new memory -/
theorem refSlice_any (B : Nat) (g : Rl.Lg) (A : Option Addr) (c : Nat) (i m : Int) (hg : Rl.Ok g) (hf : Rl.Few g.es) (w : World) (h : LgIs w B g A c) (hB : B ≤ w.heap.size) :
    Calls Try.prog 20 #[.agg #[.int .i64 g.base, .int .i64 g.term, .slice A g.es.length c], .int .i64 i, .int .i64 m] w fun e w' => ∃ A' c', e = .returned (.slice A' (g.slice i m).length c') ∧ OwnE w' w.heap.size w'.heap.size A' c' (g.slice i m) ∧ Below w.heap.size w w' := by
  by_cases hn : i ≤ g.base
  · have e : g.slice i m = [] := by
      unfold Rl.Lg.slice
      refine if_neg (fun h => ?_)
      have := (Rl.Lg.has_iff.1 h.1).1
      exact h.2 (by omega)
    rw [e]
    exact refSlice_no B g A c i m hg hn w h hB
  · obtain ⟨j, hj⟩ : ∃ j : Nat, i = g.base + (j : Int) + 1 := ⟨(i - g.base - 1).toNat, by omega⟩
    refine refSlice_yes B g A c i m j _ ?_ hj hg hf w h hB
    unfold Rl.Lg.slice
    by_cases hh : g.has i = true
    · rw [if_pos ⟨hh, by omega⟩]
      have : g.pl i - 1 = j := by unfold Rl.Lg.pl; omega
      rw [this]
    · rw [if_neg (fun h => hh h.1)]
      have : ¬ (g.base ≤ i ∧ i ≤ g.base + (g.es.length : Nat)) := fun h => hh (Rl.Lg.has_iff.2 h)
      rw [List.drop_of_length_le (by omega)]
      simp
end Go.Proofs.Ythocdknfkmclkaa
