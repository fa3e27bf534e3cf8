/- The walks through the reader of package pack. -/
import Derived.Test.YtmaebemhephcmaaDoorRows
import Derived.Test.YtmaebemhephcmaaDoorKitEq
import Derived.Test.YtmaebemhephcmaaDoorPackMath
import Derived.Test.YtmaebemhephcmaaDoorGrown
import Derived.StillTailTactics
namespace Go.Proofs.YtmaebemhephcmaaDoor
open Go.RowKit

/-- a reader at block g: what is left lies in a block ahead of it -/
structure Rdr (w : World) (g : Nat) (s : Pk.St) : Prop where
  small : s.small
  ok : s.ok
  at_ : ∃ A c, w.heap[g]? = some (.cells #[.slice A s.rest.length c, .bool s.bad] 100 (0, 0)) ∧ IsBytes w g A s.rest ∧ s.rest.length ≤ c ∧ c ≤ maxLen ∧ (A = none → c = 0)

theorem row_cell {w : World} {g : Nat} {cs : Array Value} {t : TypeId} (h : w.heap[g]? = some (.cells cs t (0, 0))) (i : Nat) : w.cell? ⟨g, i, none⟩ = cs[i]? := cell_of_row w g i cs t (0, 0) h
theorem row_free {w : World} {g : Nat} {cs : Array Value} {t : TypeId} (h : w.heap[g]? = some (.cells cs t (0, 0))) (i : Nat) : w.frozen? ⟨g, i, none⟩ = false := by simp [World.frozen?, h]
theorem row_lt {w : World} {g : Nat} {o : Obj} (h : w.heap[g]? = some o) : g < w.heap.size := by
  rcases Nat.lt_or_ge g w.heap.size with hlt | hge
  · exact hlt
  · rw [Array.getElem?_eq_none hge] at h; cases h
theorem row_set {w : World} {g : Nat} {cs : Array Value} {t : TypeId} (h : w.heap[g]? = some (.cells cs t (0, 0))) (i : Nat) (u : Value) :
    (w.setCell ⟨g, i, none⟩ u).heap[g]? = some (.cells (cs.setIfInBounds i u) t (0, 0)) := by
  simp [World.setCell, Array.getElem?_modify, h]
namespace Rdr
variable {w w' : World} {g : Nat} {s : Pk.St}
theorem lt (h : Rdr w g s) : g < w.heap.size := by obtain ⟨A, c, h1, _⟩ := h.at_; exact row_lt h1
/-- it stays while nothing up to its own block is written -/
theorem below (h : Rdr w g s) (hb : Below (g + 1) w w') : Rdr w' g s := by
  obtain ⟨A, c, h1, h2, h3⟩ := h.at_
  exact ⟨h.small, h.ok, A, c, (hb.block g (by omega)).trans h1, h2.below (hb.mono (by omega)), h3⟩
theorem drewN (h : Rdr w g s) (n : Nat) : Rdr (w.drewN n) g s := h.below (below_drewN (Below.refl _ _) n)
end Rdr

theorem rdr_gone {w' : World} {g : Nat} (h : w'.heap[g]? = some (.cells #[.slice none 0 0, .bool true] 100 (0, 0))) : Rdr w' g Pk.gone :=
  ⟨Pk.gone_small, Pk.gone_ok, none, 0, h, IsBytes.nil, Nat.le_refl _, Nat.zero_le _, fun _ => rfl⟩

theorem IsBytes.drop {w : World} {B : Nat} {ad : Addr} {l : List Nat} (h : IsBytes w B (some ad) l) (m : Nat) (hm : m < l.length) : IsBytes w B (some (ad.add m)) (l.drop m) := by
  refine ⟨fun x hx => h.small x (List.mem_of_mem_drop hx), fun k hk => ?_⟩
  obtain ⟨b, off, e, hb, hc⟩ := h.cells m hm
  injection e with e
  subst e
  refine ⟨b, off + m, by rw [add_off], hb, fun i hi => ?_⟩
  rw [List.length_drop] at hi
  rw [List.getElem_drop, Nat.add_assoc]
  exact hc (m + i) (by omega)
theorem IsBytes.put {w : World} {g : Nat} {A : Option Addr} {l : List Nat} (h : IsBytes w g A l) (k : Nat) (u : Value) : IsBytes (w.setCell ⟨g, k, none⟩ u).drew g A l := (h.below ((Below.refl g w).setCell (Nat.le_refl _) _)).drew
/-- the reader behind a store into what is left -/
theorem Rdr.put {w : World} {g : Nat} {s : Pk.St} {A : Option Addr} {c : Nat} (h : w.heap[g]? = some (.cells #[.slice A s.rest.length c, .bool s.bad] 100 (0, 0)))
    (rest : List Nat) (A' : Option Addr) (n c' : Nat) (hn : rest.length = n) (hb : IsBytes w g A' rest) (hc : n ≤ c') (hm : c' ≤ maxLen) (hnil : A' = none → c' = 0) (hok : s.bad = true → rest = []) :
    Rdr (w.setCell ⟨g, 0, none⟩ (.slice A' n c')).drew g ⟨rest, s.bad⟩ ∧ w.grownBy (w.setCell ⟨g, 0, none⟩ (.slice A' n c')).drew (some g) := by
  subst hn
  refine ⟨⟨hb.small, hok, A', c', (row_set h 0 _), ?_, hc, hm, hnil⟩, grown_drew (grown_setCell _ _ _ _)⟩
  exact (hb.below ((Below.refl g w).setCell (Nat.le_refl _) _)).drew

set_option maxRecDepth 100000 in
set_option maxHeartbeats 400000 in
theorem spoil_rdr (g : Nat) (s : Pk.St) (w : World) (h : Rdr w g s) :
    Calls Tryd.prog 102 #[.pointer (some ⟨g, 0, none⟩)] w fun e w' => e = .returned (.tuple #[]) ∧ Rdr w' g Pk.gone ∧ w.grownBy w' (some g) := by
  obtain ⟨A, c, h1, _, _⟩ := h.at_
  have hc0 : w.cell? ⟨g, 0, none⟩ = some (.slice A s.rest.length c) := row_cell h1 0
  have hc1 : w.cell? ⟨g, 1, none⟩ = some (.bool s.bad) := row_cell h1 1
  have hf0 := row_free h1 0
  have hf1 := row_free h1 1
  have HR : Hid (((w.setCell ⟨g, 0, none⟩ (.slice none 0 0)).setCell ⟨g, 1, none⟩ (.bool true)).heap[g]? = some (.cells #[.slice none 0 0, .bool true] 100 (0, 0))) :=
    row_set (row_set h1 0 _) 1 _
  have HG : Hid (w.grownBy ((w.setCell ⟨g, 0, none⟩ (.slice none 0 0)).setCell ⟨g, 1, none⟩ (.bool true)) (some g)) :=
    (grown_setCell _ _ _ _).trans (grown_setCell _ _ _ _)
  clear h h1
  go_enter Tryd.func102, Tryd.ntmps102
  go_wp2
  go_end0
  exact ⟨rfl, rdr_gone HR.out, HG.out⟩

set_option maxRecDepth 100000 in
set_option maxHeartbeats 800000 in
theorem take_rdr (g : Nat) (s : Pk.St) (n : Int) (hn : InInt n) (w : World) (h : Rdr w g s) :
    Calls Tryd.prog 100 #[.pointer (some ⟨g, 0, none⟩), .int .i64 n] w fun e w' =>
      ∃ A' c', e = .returned (.slice A' (Pk.taken s n).1.length c') ∧ IsBytes w' g A' (Pk.taken s n).1 ∧ (A' = none → c' = 0) ∧ Rdr w' g (Pk.taken s n).2 ∧ w.grownBy w' (some g) := by
  have hn1 := hn.1
  have hn2 := hn.2
  obtain ⟨A, c, h1, h2, h3, h4, h5⟩ := h.at_
  have hc0 : w.cell? ⟨g, 0, none⟩ = some (.slice A s.rest.length c) := row_cell h1 0
  have hc1 : w.cell? ⟨g, 1, none⟩ = some (.bool s.bad) := row_cell h1 1
  have hf0 := row_free h1 0
  have hf1 := row_free h1 1
  unfold maxLen at h4
  by_cases hbad : n < 0 ∨ (s.rest.length : Int) < n
  · have HT : Hid (Pk.taken s n = ([], Pk.gone)) := by unfold Pk.taken; rw [if_pos hbad]; exact hid rfl
    have HS := hid (spoil_rdr g s w h)
    clear h1 h2 hn
    by_cases hneg : n < 0
    · clear hbad
      go_enter Tryd.func100, Tryd.ntmps100
      go_wp2_with fail
      refine HS.out.mono ?_
      rintro e w1 ⟨rfl, hR, hG⟩
      go_wp2_with fail
      go_ret
      rw [HT.out]
      exact ⟨none, 0, rfl, IsBytes.nil, fun _ => rfl, hR, hG⟩
    · have hlt : (s.rest.length : Int) < n := by omega
      clear hbad
      go_enter Tryd.func100, Tryd.ntmps100
      go_wp2_with fail
      refine HS.out.mono ?_
      rintro e w1 ⟨rfl, hR, hG⟩
      go_wp2_with fail
      go_ret
      rw [HT.out]
      exact ⟨none, 0, rfl, IsBytes.nil, fun _ => rfl, hR, hG⟩
  · obtain ⟨m, rfl⟩ : ∃ m : Nat, n = (m : Int) := ⟨n.toNat, by omega⟩
    have hm : m ≤ s.rest.length := by omega
    have HT : Hid (Pk.taken s m = (s.rest.take m, ⟨s.rest.drop m, s.bad⟩)) := by unfold Pk.taken; rw [if_neg hbad]; exact hid rfl
    clear hbad hn
    have hok := h.ok
    clear h
    obtain ⟨rest, bad⟩ := s
    dsimp only at hm h1 hc0 hc1 h2 h3 HT
    rcases A with _ | ad
    · obtain rfl : rest = [] := h2.of_none
      obtain rfl := h5 rfl
      simp only [List.length_nil] at hm h1 hc0 h3
      obtain rfl : m = 0 := by omega
      have HP := hid (Rdr.put (s := ⟨[], bad⟩) h1 [] none 0 0 rfl IsBytes.nil (Nat.le_refl _) (Nat.zero_le _) (fun _ => rfl) (fun _ => rfl))
      clear h1 h2 hok
      go_enter Tryd.func100, Tryd.ntmps100
      go_wp2_with fail
      go_still_tail 19, (by kernel_rfl)
      go_wp2_with fail
      go_ret
      rw [HT.out]
      exact ⟨none, 0, rfl, IsBytes.nil, fun _ => rfl, HP.out⟩
    · have HT1 : Hid (rest.length = m → Rdr (w.setCell ⟨g, 0, none⟩ (.slice (some ad) 0 0)).drew g ⟨rest.drop m, bad⟩ ∧ w.grownBy (w.setCell ⟨g, 0, none⟩ (.slice (some ad) 0 0)).drew (some g)) := fun e => by
        have e2 : rest.drop m = [] := List.drop_of_length_le (by omega)
        rw [e2]
        exact Rdr.put (s := ⟨rest, bad⟩) h1 [] (some ad) 0 0 rfl IsBytes.nil (Nat.le_refl _) (Nat.zero_le _) (fun h => by cases h) (fun _ => rfl)
      have HT2 : Hid (¬ rest.length = m → Rdr (w.setCell ⟨g, 0, none⟩ (.slice (some (ad.add m)) (rest.length - m) (rest.length - m))).drew g ⟨rest.drop m, bad⟩ ∧ w.grownBy (w.setCell ⟨g, 0, none⟩ (.slice (some (ad.add m)) (rest.length - m) (rest.length - m))).drew (some g)) := fun e =>
        Rdr.put (s := ⟨rest, bad⟩) h1 (rest.drop m) (some (ad.add m)) _ _ (by rw [List.length_drop]) (h2.drop m (by omega)) (Nat.le_refl _) (by unfold maxLen; omega) (fun h => by cases h) (fun hb => by have : rest = [] := hok hb; rw [this]; simp)
      have HB : Hid (IsBytes w g (some ad) (rest.take m)) := h2.take m
      have HL : Hid ((rest.take m).length = m) := by show _ = _; rw [List.length_take]; omega
      clear h1 h2 hok
      go_enter Tryd.func100, Tryd.ntmps100
      go_wp2_with fail
      go_still_tail 19, (by kernel_rfl)
      go_wp2_with fail
      all_goals
        go_ret
        rw [HT.out]
        first
          | exact ⟨some ad, m, ret_len HL.out.symm, HB.out.put _ _, (fun h => by cases h), HT2.out (by omega)⟩
          | exact ⟨some ad, m, ret_len HL.out.symm, HB.out.put _ _, (fun h => by cases h), HT1.out (by omega)⟩
end Go.Proofs.YtmaebemhephcmaaDoor
