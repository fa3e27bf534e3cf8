/- Texts of the proof, one behind the other: KitEq, Reader, MsLoad, MsD, MsE, MsF, PackInt. -/
import Derived.Test.YtpigekbfngalbaaDoorRows
import Derived.Test.YtpigekbfngalbaaDoorPartAA
import Derived.Deep.QuietTactic
import Derived.BigQuiet
import Derived.Test.YtpigekbfngalbaaDoorPartAB
import Derived.StillTailTactics
import Derived.Test.YtpigekbfngalbaaDoorPartAC
import Derived.Deep.WholeRow
namespace Go.Proofs.YtpigekbfngalbaaDoor
open Go.RowKit

theorem take_succ_eq (l m : List Nat) (k : Nat) (h1 : k < l.length) (h2 : k < m.length) (h : l.take k = m.take k) (he : l[k] = m[k]) : l.take (k + 1) = m.take (k + 1) := by
  rw [List.take_succ_eq_append_getElem h1, List.take_succ_eq_append_getElem h2, h, he]

set_option maxHeartbeats 400000 in
theorem same_any (B B' : Nat) (A A' : Option Addr) (c c' : Nat) (l m : List Nat) (hl : l.length ≤ maxLen) (hm : m.length ≤ maxLen) (w : World) (h : IsBytes w B A l) (h' : IsBytes w B' A' m) :
    Calls Tryd.prog 18 #[.slice A l.length c, .slice A' m.length c'] w fun e w' => e = .returned (.bool (decide (l = m))) ∧ ∃ n, w' = w.drewN n := by
  unfold maxLen at hl hm
  by_cases hne : l.length = m.length
  · have hb : ((l.length : Int) != (m.length : Int)) = false := by rw [bne_eq_false_iff_eq]; omega
    have HN := hid hne
    clear hne
    go_enter Tryd.func18, Tryd.ntmps18
    go_wp2
    go_loopw [5] (fun i wr => ∃ k n : Nat, k ≤ l.length ∧ i = .int .i64 k ∧ wr = w.drewN n ∧ Hid (l.take k = m.take k)) (fun i _ => l.length - (RowKit.intOf i).toNat)
    case atStart => exact ⟨0, 0, by omega, rfl, rfl, hid rfl⟩
    case round =>
      obtain ⟨k, n, hk, rfl, rfl, hs⟩ := hrel
      by_cases hlt : k < l.length
      · have hlt' : k < m.length := by have := HN.out; omega
        obtain ⟨b, off, rfl, _, hc⟩ := h.cells k hlt
        obtain ⟨b', off', rfl, _, hc'⟩ := h'.cells k hlt'
        have hck := hc k hlt
        have hck' := hc' k hlt'
        clear hc hc'
        by_cases he : l[k] = m[k]
        · have hbe : (((l[k] : Nat) : Int) != ((m[k] : Nat) : Int)) = false := by rw [bne_eq_false_iff_eq]; omega
          have HE := hid he
          clear he
          go_wp2
          go_quiet (fail)
          go_wp2
          go_roundw
          case rel => exact ⟨k + 1, _, by omega, by go_num, rfl, hid (take_succ_eq l m k hlt hlt' hs.out HE.out)⟩
          case measure => simp [RowKit.intOf]; omega
        · have hbe : (((l[k] : Nat) : Int) != ((m[k] : Nat) : Int)) = true := by rw [bne_iff_ne]; omega
          have hfin : decide (l = m) = false := by
            rw [decide_eq_false_iff_not]; rintro rfl; exact he rfl
          have HF := hid hfin
          clear he hfin
          go_wp2
          go_quiet (fail)
          go_wp2
          go_ret
          exact ⟨by rw [HF.out]; rfl, _, by rw [World.drewN_drewN]⟩
      · obtain rfl : k = l.length := by omega
        have hfin : decide (l = m) = true := by
          rw [decide_eq_true_iff]
          have e := hs.out
          rw [List.take_length, HN.out, List.take_length] at e
          exact e
        have HF := hid hfin
        clear hfin
        go_wp2
        go_ret
        exact ⟨by rw [HF.out]; rfl, _, rfl⟩
  · have hb : ((l.length : Int) != (m.length : Int)) = true := by rw [bne_iff_ne]; omega
    have hfin : decide (l = m) = false := by
      rw [decide_eq_false_iff_not]; rintro rfl; exact hne rfl
    have HF := hid hfin
    clear hfin hne
    go_enter Tryd.func18, Tryd.ntmps18
    go_wp2
    go_ret
    exact ⟨by rw [HF.out]; rfl, 0, rfl⟩
theorem info_u8 : (Tryd.prog.info? 5).map (fun i => (i.zero, i.size, i.bytes)) = some (some (.int .u8 0), 1, 1) := by kernel_rfl

theorem bytes_snoc (l : List Nat) (k : Nat) (h : k < l.length) : bytes (l.take k) ++ [Value.int .u8 (l[k] : Nat)] = bytes (l.take (k + 1)) := by
  unfold bytes; rw [List.take_succ_eq_append_getElem h, List.map_append]; rfl
theorem same_N (B B' : Nat) (A A' : Option Addr) (c c' : Nat) (l m : List Nat) (n k : Nat) (hn : l.length = n) (hk : m.length = k) (hl : n ≤ maxLen) (hm : k ≤ maxLen) (w : World) (h : IsBytes w B A l) (h' : IsBytes w B' A' m) :
    Calls Tryd.prog 18 #[.slice A n c, .slice A' k c'] w fun e w' => e = .returned (.bool (decide (l = m))) ∧ ∃ j, w' = w.drewN j := by
  subst hn; subst hk; exact same_any B B' A A' c c' l m hl hm w h h'
/-- two lists that are the same -/
theorem same_T (B B' : Nat) (A A' : Option Addr) (c c' : Nat) (l : List Nat) (n : Nat) (hn : l.length = n) (hl : n ≤ maxLen) (w : World) (h : IsBytes w B A l) (h' : IsBytes w B' A' l) :
    Calls Tryd.prog 18 #[.slice A n c, .slice A' n c'] w fun e w' => e = .returned (.bool true) ∧ ∃ j, w' = w.drewN j :=
  (same_N B B' A A' c c' l l n n hn hn hl hl w h h').mono fun _ _ ⟨h1, h2⟩ => ⟨by rw [h1, decide_eq_true rfl], h2⟩
end Go.Proofs.YtpigekbfngalbaaDoor
namespace Go.Proofs.YtpigekbfngalbaaDoor
open Go.RowKit

/-- a reader at block g: what is left lies in a block ahead of it -/
structure Rdr (w : World) (g : Nat) (s : Pk.St) : Prop where
  small : s.small
  ok : s.ok
  at_ : ∃ A c, w.heap[g]? = some (.cells #[.slice A s.rest.length c, .bool s.bad] 100 (0, 0)) ∧ IsBytes w g A s.rest ∧ s.rest.length ≤ c ∧ c ≤ maxLen ∧ (A = none → c = 0)

theorem row_cell {w : World} {g : Nat} {cs : Array Value} {t : TypeId} (h : w.heap[g]? = some (.cells cs t (0, 0))) (i : Nat) : w.cell? ⟨g, i, none⟩ = cs[i]? := cell_of_row w g i cs t (0, 0) h
theorem row_free {w : World} {g : Nat} {cs : Array Value} {t : TypeId} (h : w.heap[g]? = some (.cells cs t (0, 0))) (i : Nat) : w.frozen? ⟨g, i, none⟩ = false := by simp [World.frozen?, h]
theorem row_lt {w : World} {g : Nat} {o : Obj} (h : w.heap[g]? = some o) : g < w.heap.size := by
  rcases Nat.lt_or_ge g w.heap.size with hlt | hge
  · exact hlt
  · rw [Array.getElem?_eq_none hge] at h; cases h
theorem row_set {w : World} {g : Nat} {cs : Array Value} {t : TypeId} (h : w.heap[g]? = some (.cells cs t (0, 0))) (i : Nat) (u : Value) :
    (w.setCell ⟨g, i, none⟩ u).heap[g]? = some (.cells (cs.setIfInBounds i u) t (0, 0)) := by
  simp [World.setCell, Array.getElem?_modify, h]
namespace Rdr
variable {w w' : World} {g : Nat} {s : Pk.St}
theorem lt (h : Rdr w g s) : g < w.heap.size := by obtain ⟨A, c, h1, _⟩ := h.at_; exact row_lt h1
/-- it stays while nothing up to its own block is written -/
theorem below (h : Rdr w g s) (hb : Below (g + 1) w w') : Rdr w' g s := by
  obtain ⟨A, c, h1, h2, h3⟩ := h.at_
  exact ⟨h.small, h.ok, A, c, (hb.block g (by omega)).trans h1, h2.below (hb.mono (by omega)), h3⟩
theorem drewN (h : Rdr w g s) (n : Nat) : Rdr (w.drewN n) g s := h.below (below_drewN (Below.refl _ _) n)
end Rdr

theorem rdr_gone {w' : World} {g : Nat} (h : w'.heap[g]? = some (.cells #[.slice none 0 0, .bool true] 100 (0, 0))) : Rdr w' g Pk.gone :=
  ⟨Pk.gone_small, Pk.gone_ok, none, 0, h, IsBytes.nil, Nat.le_refl _, Nat.zero_le _, fun _ => rfl⟩

theorem IsBytes.drop {w : World} {B : Nat} {ad : Addr} {l : List Nat} (h : IsBytes w B (some ad) l) (m : Nat) (hm : m < l.length) : IsBytes w B (some (ad.add m)) (l.drop m) := by
  refine ⟨fun x hx => h.small x (List.mem_of_mem_drop hx), fun k hk => ?_⟩
  obtain ⟨b, off, e, hb, hc⟩ := h.cells m hm
  injection e with e
  subst e
  refine ⟨b, off + m, by rw [add_off], hb, fun i hi => ?_⟩
  rw [List.length_drop] at hi
  rw [List.getElem_drop, Nat.add_assoc]
  exact hc (m + i) (by omega)
theorem IsBytes.put {w : World} {g : Nat} {A : Option Addr} {l : List Nat} (h : IsBytes w g A l) (k : Nat) (u : Value) : IsBytes (w.setCell ⟨g, k, none⟩ u).drew g A l := (h.below ((Below.refl g w).setCell (Nat.le_refl _) _)).drew
/-- the reader behind a store into what is left -/
theorem Rdr.put {w : World} {g : Nat} {s : Pk.St} {A : Option Addr} {c : Nat} (h : w.heap[g]? = some (.cells #[.slice A s.rest.length c, .bool s.bad] 100 (0, 0)))
    (rest : List Nat) (A' : Option Addr) (n c' : Nat) (hn : rest.length = n) (hb : IsBytes w g A' rest) (hc : n ≤ c') (hm : c' ≤ maxLen) (hnil : A' = none → c' = 0) (hok : s.bad = true → rest = []) :
    Rdr (w.setCell ⟨g, 0, none⟩ (.slice A' n c')).drew g ⟨rest, s.bad⟩ ∧ w.grownBy (w.setCell ⟨g, 0, none⟩ (.slice A' n c')).drew (some g) := by
  subst hn
  refine ⟨⟨hb.small, hok, A', c', (row_set h 0 _), ?_, hc, hm, hnil⟩, grown_drew (grown_setCell _ _ _ _)⟩
  exact (hb.below ((Below.refl g w).setCell (Nat.le_refl _) _)).drew

set_option maxRecDepth 100000 in
set_option maxHeartbeats 400000 in
theorem spoil_rdr (g : Nat) (s : Pk.St) (w : World) (h : Rdr w g s) :
    Calls Tryd.prog 102 #[.pointer (some ⟨g, 0, none⟩)] w fun e w' => e = .returned (.tuple #[]) ∧ Rdr w' g Pk.gone ∧ w.grownBy w' (some g) := by
  obtain ⟨A, c, h1, _, _⟩ := h.at_
  have hc0 : w.cell? ⟨g, 0, none⟩ = some (.slice A s.rest.length c) := row_cell h1 0
  have hc1 : w.cell? ⟨g, 1, none⟩ = some (.bool s.bad) := row_cell h1 1
  have hf0 := row_free h1 0
  have hf1 := row_free h1 1
  have HR : Hid (((w.setCell ⟨g, 0, none⟩ (.slice none 0 0)).setCell ⟨g, 1, none⟩ (.bool true)).heap[g]? = some (.cells #[.slice none 0 0, .bool true] 100 (0, 0))) :=
    row_set (row_set h1 0 _) 1 _
  have HG : Hid (w.grownBy ((w.setCell ⟨g, 0, none⟩ (.slice none 0 0)).setCell ⟨g, 1, none⟩ (.bool true)) (some g)) :=
    (grown_setCell _ _ _ _).trans (grown_setCell _ _ _ _)
  clear h h1
  go_enter Tryd.func102, Tryd.ntmps102
  go_wp2
  go_end0
  exact ⟨rfl, rdr_gone HR.out, HG.out⟩

set_option maxRecDepth 100000 in
set_option maxHeartbeats 800000 in
theorem take_rdr (g : Nat) (s : Pk.St) (n : Int) (hn : InInt n) (w : World) (h : Rdr w g s) :
    Calls Tryd.prog 100 #[.pointer (some ⟨g, 0, none⟩), .int .i64 n] w fun e w' =>
      ∃ A' c', e = .returned (.slice A' (Pk.taken s n).1.length c') ∧ IsBytes w' g A' (Pk.taken s n).1 ∧ (A' = none → c' = 0) ∧ Rdr w' g (Pk.taken s n).2 ∧ w.grownBy w' (some g) := by
  have hn1 := hn.1
  have hn2 := hn.2
  obtain ⟨A, c, h1, h2, h3, h4, h5⟩ := h.at_
  have hc0 : w.cell? ⟨g, 0, none⟩ = some (.slice A s.rest.length c) := row_cell h1 0
  have hc1 : w.cell? ⟨g, 1, none⟩ = some (.bool s.bad) := row_cell h1 1
  have hf0 := row_free h1 0
  have hf1 := row_free h1 1
  unfold maxLen at h4
  by_cases hbad : n < 0 ∨ (s.rest.length : Int) < n
  · have HT : Hid (Pk.taken s n = ([], Pk.gone)) := by unfold Pk.taken; rw [if_pos hbad]; exact hid rfl
    have HS := hid (spoil_rdr g s w h)
    clear h1 h2 hn
    by_cases hneg : n < 0
    · clear hbad
      go_enter Tryd.func100, Tryd.ntmps100
      go_wp2_with fail
      refine HS.out.mono ?_
      rintro e w1 ⟨rfl, hR, hG⟩
      go_wp2_with fail
      go_ret
      rw [HT.out]
      exact ⟨none, 0, rfl, IsBytes.nil, fun _ => rfl, hR, hG⟩
    · have hlt : (s.rest.length : Int) < n := by omega
      clear hbad
      go_enter Tryd.func100, Tryd.ntmps100
      go_wp2_with fail
      refine HS.out.mono ?_
      rintro e w1 ⟨rfl, hR, hG⟩
      go_wp2_with fail
      go_ret
      rw [HT.out]
      exact ⟨none, 0, rfl, IsBytes.nil, fun _ => rfl, hR, hG⟩
  · obtain ⟨m, rfl⟩ : ∃ m : Nat, n = (m : Int) := ⟨n.toNat, by omega⟩
    have hm : m ≤ s.rest.length := by omega
    have HT : Hid (Pk.taken s m = (s.rest.take m, ⟨s.rest.drop m, s.bad⟩)) := by unfold Pk.taken; rw [if_neg hbad]; exact hid rfl
    clear hbad hn
    have hok := h.ok
    clear h
    obtain ⟨rest, bad⟩ := s
    dsimp only at hm h1 hc0 hc1 h2 h3 HT
    rcases A with _ | ad
    · obtain rfl : rest = [] := h2.of_none
      obtain rfl := h5 rfl
      simp only [List.length_nil] at hm h1 hc0 h3
      obtain rfl : m = 0 := by omega
      have HP := hid (Rdr.put (s := ⟨[], bad⟩) h1 [] none 0 0 rfl IsBytes.nil (Nat.le_refl _) (Nat.zero_le _) (fun _ => rfl) (fun _ => rfl))
      clear h1 h2 hok
      go_enter Tryd.func100, Tryd.ntmps100
      go_wp2_with fail
      go_still_tail 19, (by kernel_rfl)
      go_wp2_with fail
      go_ret
      rw [HT.out]
      exact ⟨none, 0, rfl, IsBytes.nil, fun _ => rfl, HP.out⟩
    · have HT1 : Hid (rest.length = m → Rdr (w.setCell ⟨g, 0, none⟩ (.slice (some ad) 0 0)).drew g ⟨rest.drop m, bad⟩ ∧ w.grownBy (w.setCell ⟨g, 0, none⟩ (.slice (some ad) 0 0)).drew (some g)) := fun e => by
        have e2 : rest.drop m = [] := List.drop_of_length_le (by omega)
        rw [e2]
        exact Rdr.put (s := ⟨rest, bad⟩) h1 [] (some ad) 0 0 rfl IsBytes.nil (Nat.le_refl _) (Nat.zero_le _) (fun h => by cases h) (fun _ => rfl)
      have HT2 : Hid (¬ rest.length = m → Rdr (w.setCell ⟨g, 0, none⟩ (.slice (some (ad.add m)) (rest.length - m) (rest.length - m))).drew g ⟨rest.drop m, bad⟩ ∧ w.grownBy (w.setCell ⟨g, 0, none⟩ (.slice (some (ad.add m)) (rest.length - m) (rest.length - m))).drew (some g)) := fun e =>
        Rdr.put (s := ⟨rest, bad⟩) h1 (rest.drop m) (some (ad.add m)) _ _ (by rw [List.length_drop]) (h2.drop m (by omega)) (Nat.le_refl _) (by unfold maxLen; omega) (fun h => by cases h) (fun hb => by have : rest = [] := hok hb; rw [this]; simp)
      have HB : Hid (IsBytes w g (some ad) (rest.take m)) := h2.take m
      have HL : Hid ((rest.take m).length = m) := by show _ = _; rw [List.length_take]; omega
      clear h1 h2 hok
      go_enter Tryd.func100, Tryd.ntmps100
      go_wp2_with fail
      go_still_tail 19, (by kernel_rfl)
      go_wp2_with fail
      all_goals
        go_ret
        rw [HT.out]
        first
          | exact ⟨some ad, m, ret_len HL.out.symm, HB.out.put _ _, (fun h => by cases h), HT2.out (by omega)⟩
          | exact ⟨some ad, m, ret_len HL.out.symm, HB.out.put _ _, (fun h => by cases h), HT1.out (by omega)⟩
end Go.Proofs.YtpigekbfngalbaaDoor
namespace Go.Proofs.YtpigekbfngalbaaDoor.Ms
open Go.RowKit
set_option maxRecDepth 100000

/-- the box of a message: its cells -/
structure Bx (w : World) (b : Nat) (m : M) (A : Option Addr) (c : Nat) (A' : Option Addr) (c' : Nat) : Prop where
  row : w.heap[b]? = some (.cells #[.int .i64 m.K, .int .i64 m.F, .int .i64 m.T, .int .i64 m.g, .int .i64 m.t, .int .i64 m.i, .int .i64 m.p, .int .i64 m.c, .int .i64 m.r, .int .i64 m.x, .int .i64 m.a, .int .i64 m.b, .int .i64 m.v, .int .i64 m.s, .bool m.ok, .slice A m.es.length c, .slice A' m.d.length c'] 25 (0, 0))
theorem Bx.below {w w' : World} {B b : Nat} {m : M} {A A' : Option Addr} {c c' : Nat} (h : Bx w b m A c A' c') (hb : Below B w w') (hB : b < B) : Bx w' b m A c A' c' := ⟨(hb.block b hB).trans h.row⟩
theorem Bx.cell {w : World} {b : Nat} {m : M} {A A' : Option Addr} {c c' : Nat} (h : Bx w b m A c A' c') (i : Nat) : w.cell? ⟨b, i, none⟩ = (#[.int .i64 m.K, .int .i64 m.F, .int .i64 m.T, .int .i64 m.g, .int .i64 m.t, .int .i64 m.i, .int .i64 m.p, .int .i64 m.c, .int .i64 m.r, .int .i64 m.x, .int .i64 m.a, .int .i64 m.b, .int .i64 m.v, .int .i64 m.s, .bool m.ok, .slice A m.es.length c, .slice A' m.d.length c'] : Array Value)[i]? := cell_of_row w b i _ _ (0, 0) h.row
theorem Bx.c0 {w : World} {b : Nat} {m : M} {A A' : Option Addr} {c c' : Nat} (h : Bx w b m A c A' c') : w.cell? ⟨b, 0, none⟩ = some (.int .i64 m.K) := h.cell 0
theorem Bx.c14 {w : World} {b : Nat} {m : M} {A A' : Option Addr} {c c' : Nat} (h : Bx w b m A c A' c') : w.cell? ⟨b, 14, none⟩ = some (.bool m.ok) := h.cell 14
theorem Bx.c15 {w : World} {b : Nat} {m : M} {A A' : Option Addr} {c c' : Nat} (h : Bx w b m A c A' c') : w.cell? ⟨b, 15, none⟩ = some (.slice A m.es.length c) := h.cell 15
theorem Bx.c16 {w : World} {b : Nat} {m : M} {A A' : Option Addr} {c c' : Nat} (h : Bx w b m A c A' c') : w.cell? ⟨b, 16, none⟩ = some (.slice A' m.d.length c') := h.cell 16
/-- a whole message, read and written: words that the walk doesn't open -/
def ldMsg (a : Value) : Sem Value := Instr.loadAt 25 a
def stMsg (a v : Value) : Sem Unit := Instr.storeAt 25 a v
theorem loadAt_msg (a : Value) : Instr.loadAt 25 a = ldMsg a := rfl
theorem storeAt_msg (a v : Value) : Instr.storeAt 25 a v = stMsg a v := rfl
theorem info_msg : (Tryd.prog.info? 25).map (·.size) = some 17 := by kernel_rfl
theorem ld_row (w : World) (b : Nat) (cs : Array Value) (t : TypeId) (fr : Nat × Nat) (hg : w.heap[b]? = some (.cells cs t fr)) (h : cs.size = 17) : (ldMsg (.pointer (some ⟨b, 0, none⟩))).run Tryd.prog w = .ok (.agg cs) w :=
  run_loadVar_row w b t 25 cs fr _ hg Tryd.underlying25 rfl (by rw [info_msg, h])
theorem ld_new (w : World) (t : TypeId) (cs : Array Value) (h : cs.size = 17) : (ldMsg (.pointer (some ⟨w.heap.size, 0, none⟩))).run Tryd.prog (w.alloc (.cells cs t)) = .ok (.agg cs) (w.alloc (.cells cs t)) :=
  ld_row _ _ cs t (0, 0) (heap_alloc_new w _) h
theorem Bx.load {w : World} {b : Nat} {m : M} {A A' : Option Addr} {c c' : Nat} (h : Bx w b m A c A' c') : (ldMsg (.pointer (some ⟨b, 0, none⟩))).run Tryd.prog w = .ok (.agg #[.int .i64 m.K, .int .i64 m.F, .int .i64 m.T, .int .i64 m.g, .int .i64 m.t, .int .i64 m.i, .int .i64 m.p, .int .i64 m.c, .int .i64 m.r, .int .i64 m.x, .int .i64 m.a, .int .i64 m.b, .int .i64 m.v, .int .i64 m.s, .bool m.ok, .slice A m.es.length c, .slice A' m.d.length c']) w :=
  ld_row w b _ _ _ h.row rfl
theorem st_new (w : World) (cs cs' : Array Value) (h : cs.size = 17) (h' : cs'.size = 17) (h1 : cs'.all (·.oneCell') = true) : (stMsg (.pointer (some ⟨w.heap.size, 0, none⟩)) (.agg cs')).run Tryd.prog (w.alloc (.cells cs 25)) = .ok () (w.alloc (.cells cs' 25)) :=
  run_storeVar_new w _ cs cs' (by rw [info_msg, h']) (by rw [h, h']) h1
end Go.Proofs.YtpigekbfngalbaaDoor.Ms
namespace Go.Proofs.YtpigekbfngalbaaDoor.Ms
open Go.RowKit
set_option maxRecDepth 100000
attribute [local go_sem ↓] loadAt_msg

theorem tab_small (k : Nat) : ∀ x ∈ tab k, x < 128 := by
  intro x hx
  unfold tab at hx
  split at hx <;> simp at hx <;> omega
theorem tab_field (k : Nat) : ∀ x ∈ tab k, x ∈ nums ∨ x = 111 ∨ x = 101 ∨ x = 100 := by
  intro x hx
  unfold tab at hx
  split at hx <;> simp at hx <;> simp only [nums, List.mem_cons, List.not_mem_nil, or_false] <;> omega
theorem all_small : ∀ x ∈ all, x < 128 := by decide
theorem all_field : ∀ x ∈ all, x ∈ nums ∨ x = 111 ∨ x = 101 ∨ x = 100 := by decide
theorem kind_of {m : M} (h : m.isKind = true) : ∃ k : Nat, m.K = (k : Int) ∧ 1 ≤ k ∧ k ≤ 11 ∧ m.kind = k := by
  unfold M.isKind at h
  simp at h
  exact ⟨m.K.toNat, by omega, by omega, by omega, rfl⟩
/-- a letter that a string's iterator comes to -/
theorem next_at {P : Program} (w : World) (k : Nat) (l : List Nat) (hl : ∀ x ∈ l, x < 128) (pos : Nat) (ty : TypeId) (hk : w.heap[k]? = some (.stringIter (strOf l) pos)) (h : pos < l.length) :
    (Instr.next (.pointer (some ⟨k, 0, none⟩)) true ty).run P w = .ok (.tuple #[.bool true, .int .i64 pos, .int .i32 ((l[pos] : Nat) : Int)]) (w.iterAt k (strOf l) (pos + 1)) := by
  have hs : pos < (strOf l).size := by rw [strOf_size]; exact h
  have e := strOf_get l hl pos hs
  rw [Lib.run_next_ascii_at w k (strOf l) pos ty hk hs (by rw [e]; exact hl _ (List.getElem_mem h)), e]
theorem next_end {P : Program} (w : World) (k : Nat) (l : List Nat) (pos : Nat) (ty : TypeId) (hk : w.heap[k]? = some (.stringIter (strOf l) pos)) (h : ¬ pos < l.length) :
    (Instr.next (.pointer (some ⟨k, 0, none⟩)) true ty).run P w = .ok (.tuple #[.bool false]) w :=
  Lib.run_next_end_at w k (strOf l) pos ty hk (by rw [strOf_size]; exact h)

set_option maxHeartbeats 1600000 in
theorem isKind_any (m : M) (w : World) :
    Calls Tryd.prog 33 #[.int .i64 m.K] w fun e w' => e = .returned (.bool m.isKind) ∧ w' = w := by
  by_cases h1 : 1 ≤ m.K <;> by_cases h2 : m.K ≤ 11 <;>
  · have HK : Hid (m.isKind = (decide (1 ≤ m.K) && decide (m.K ≤ 11))) := rfl
    go_enter Tryd.func33, Tryd.ntmps33
    go_wp2
    all_goals
      go_ret
      refine ⟨?_, rfl⟩
      rw [HK.out]
      simp [*]

theorem strOf_all : ByteArray.mk #[103, 116, 105, 112, 99, 114, 120, 97, 98, 118, 115, 111, 101, 100] = strOf all := rfl
theorem iter_start (w : World) (m : M) (A : Option Addr) (c : Nat) (A' : Option Addr) (c' : Nat) (s : ByteArray) :
    Bx ((w.alloc (.cells #[.int .i64 m.K, .int .i64 m.F, .int .i64 m.T, .int .i64 m.g, .int .i64 m.t, .int .i64 m.i, .int .i64 m.p, .int .i64 m.c, .int .i64 m.r, .int .i64 m.x, .int .i64 m.a, .int .i64 m.b, .int .i64 m.v, .int .i64 m.s, .bool m.ok, .slice A m.es.length c, .slice A' m.d.length c'] 25)).iter s 0) w.heap.size m A c A' c' ∧ ((w.alloc (.cells #[.int .i64 m.K, .int .i64 m.F, .int .i64 m.T, .int .i64 m.g, .int .i64 m.t, .int .i64 m.i, .int .i64 m.p, .int .i64 m.c, .int .i64 m.r, .int .i64 m.x, .int .i64 m.a, .int .i64 m.b, .int .i64 m.v, .int .i64 m.s, .bool m.ok, .slice A m.es.length c, .slice A' m.d.length c'] 25)).iter s 0).heap[w.heap.size + 1]? = some (.stringIter s 0) ∧ Below w.heap.size w ((w.alloc (.cells #[.int .i64 m.K, .int .i64 m.F, .int .i64 m.T, .int .i64 m.g, .int .i64 m.t, .int .i64 m.i, .int .i64 m.p, .int .i64 m.c, .int .i64 m.r, .int .i64 m.x, .int .i64 m.a, .int .i64 m.b, .int .i64 m.v, .int .i64 m.s, .bool m.ok, .slice A m.es.length c, .slice A' m.d.length c'] 25)).iter s 0) := by
  obtain ⟨x, hx⟩ : ∃ x, x = (#[.int .i64 m.K, .int .i64 m.F, .int .i64 m.T, .int .i64 m.g, .int .i64 m.t, .int .i64 m.i, .int .i64 m.p, .int .i64 m.c, .int .i64 m.r, .int .i64 m.x, .int .i64 m.a, .int .i64 m.b, .int .i64 m.v, .int .i64 m.s, .bool m.ok, .slice A m.es.length c, .slice A' m.d.length c'] : Array Value) := ⟨_, rfl⟩
  have h1 : (w.alloc (.cells x 25)).heap.size = w.heap.size + 1 := by simp
  refine ⟨⟨?_⟩, ?_, ?_⟩
  · rw [← hx]
    exact (Below.heap_alloc (w.alloc (.cells x 25)) (.stringIter s 0) _ (by rw [h1]; omega)).trans (heap_alloc_new w _)
  · rw [← hx]
    have h0 := World.iter_heap (w.alloc (.cells x 25)) s 0
    rw [h1] at h0
    exact h0
  · rw [← hx]
    exact ((Below.refl _ w).alloc (Nat.le_refl _) _).alloc (by rw [h1]; omega) _
/-- up to a place no foreign field says something -/
def M.still (m : M) (pos : Nat) : Prop := ∀ r ∈ all.take pos, (!(tab m.kind).contains r && !m.blank r) = false
theorem still_next {m : M} {pos : Nat} (h : m.still pos) (hp : pos < all.length) (hb : (!(tab m.kind).contains all[pos] && !m.blank all[pos]) = false) : m.still (pos + 1) := by
  intro r hr
  rw [List.take_succ_eq_append_getElem hp] at hr
  rcases List.mem_append.1 hr with hr | hr
  · exact h r hr
  · obtain rfl := List.mem_singleton.1 hr; exact hb
theorem still_all {m : M} {pos : Nat} (h : m.still pos) (hp : ¬ pos < all.length) : m.foreign = false := by
  unfold M.foreign
  rw [List.any_eq_false]
  intro r hr
  have := h r (by rw [List.take_of_length_le (by omega)]; exact hr)
  simpa using this
theorem foreign_of {m : M} {pos : Nat} (hp : pos < all.length) (hb : (!(tab m.kind).contains all[pos] && !m.blank all[pos]) = true) : m.foreign = true := by
  unfold M.foreign
  rw [List.any_eq_true]
  exact ⟨_, List.getElem_mem hp, hb⟩
set_option maxHeartbeats 1600000 in
theorem foreign_any (m : M) (A : Option Addr) (c : Nat) (A' : Option Addr) (c' : Nat) (w : World) (hk : m.isKind = true) (hT : Tab w) :
    Calls Tryd.prog 34 #[.agg #[.int .i64 m.K, .int .i64 m.F, .int .i64 m.T, .int .i64 m.g, .int .i64 m.t, .int .i64 m.i, .int .i64 m.p, .int .i64 m.c, .int .i64 m.r, .int .i64 m.x, .int .i64 m.a, .int .i64 m.b, .int .i64 m.v, .int .i64 m.s, .bool m.ok, .slice A m.es.length c, .slice A' m.d.length c']] w fun e w' => e = .returned (.bool m.foreign) ∧ Below w.heap.size w w' := by
  obtain ⟨k, hK, hk1, hk2, hkind⟩ := kind_of hk
  have hpos := hT.pos
  have k0 : 0 ≤ m.K := by omega
  have k12 : m.K < 12 := by omega
  have HT : Hid (Tab w) := hT
  have HKK : Hid (m.kind = m.K.toNat ∧ m.K.toNat < 12) := ⟨rfl, by omega⟩
  clear hK hk1 hk2 hkind hk hT
  go_enter Tryd.func34, Tryd.ntmps34
  go_wp2
  rw [strOf_all]
  obtain ⟨h1, h2, h3⟩ := iter_start w m A c A' c' (strOf all)
  generalize ((w.alloc (.cells #[.int .i64 m.K, .int .i64 m.F, .int .i64 m.T, .int .i64 m.g, .int .i64 m.t, .int .i64 m.i, .int .i64 m.p, .int .i64 m.c, .int .i64 m.r, .int .i64 m.x, .int .i64 m.a, .int .i64 m.b, .int .i64 m.v, .int .i64 m.s, .bool m.ok, .slice A m.es.length c, .slice A' m.d.length c'] 25)).iter (strOf all) 0) = w0 at h1 h2 h3 ⊢
  go_loopw [4] (fun _ wr => ∃ pos : Nat, Hid (Bx wr w.heap.size m A c A' c') ∧ Hid (wr.heap[w.heap.size + 1]? = some (.stringIter (strOf all) pos)) ∧ Hid (Below w.heap.size w wr) ∧ Hid (m.still pos)) (fun _ wr => 14 - wr.iterPos (w.heap.size + 1))
  case atStart =>
    exact ⟨0, h1, h2, h3, fun r hr => by simp at hr⟩
  case round =>
    clear h1 h2 h3
    obtain ⟨pos, HB, HI, HBel, HS⟩ := hrel
    by_cases hp : pos < all.length
    · have hnx : ∀ ty, (Instr.next (.pointer (some ⟨w.heap.size + 1, 0, none⟩)) true ty).run Tryd.prog wr = _ := fun ty => next_at wr (w.heap.size + 1) all all_small pos ty HI.out hp
      have hiI := Lib.iterAt_heap wr (w.heap.size + 1) (strOf all) pos (pos + 1) HI.out
      have hbI := Lib.below_iterAt HBel.out (k := w.heap.size + 1) (by omega) (strOf all) (pos + 1)
      have hBI : Bx (wr.iterAt (w.heap.size + 1) (strOf all) (pos + 1)) w.heap.size m A c A' c' := ⟨(Lib.iterAt_other wr _ _ _ _ (by omega)).trans HB.out.row⟩
      obtain ⟨wi, hwi⟩ : ∃ wi, wi = wr.iterAt (w.heap.size + 1) (strOf all) (pos + 1) := ⟨_, rfl⟩
      rw [← hwi] at hiI hbI hBI
      rw [← hwi] at hnx
      have c0 := hBI.c0
      have hld := hBI.load
      have ht : wi.cell? ⟨0, m.K.toNat, none⟩ = some (.string (strOf (tab m.kind))) := (HT.out.below hbI hpos) _ HKK.out.2
      have HX := hid (And.intro hwi (And.intro hiI (And.intro hbI hBI)))
      clear hwi hiI hbI hBI
      have hr := all_field _ (List.getElem_mem hp)
      have h128 := all_small _ (List.getElem_mem hp)
      have HF := hid hr
      clear hr
      obtain ⟨q, hq⟩ : ∃ q, q = all[pos] := ⟨_, rfl⟩
      rw [← hq] at h128 hnx HF
      have HQ := hid hq
      clear hq
      obtain ⟨bc, hbc⟩ : ∃ bc, bc = (tab m.kind).contains q := ⟨_, rfl⟩
      have HC := hid hbc
      go_wp2_with fail
      refine (contains_any _ (tab_small _) _ h128 _).mono ?_
      rw [← hbc]
      rintro e w2 ⟨rfl, rfl⟩
      clear hbc
      cases bc
      · go_wp2_with fail
        refine (blank_any m A c A' c' q HF.out _).mono ?_
        obtain ⟨bb, hbb⟩ : ∃ bb, bb = m.blank q := ⟨_, rfl⟩
        rw [← hbb]
        rintro e w3 ⟨rfl, hb3⟩
        have HBB := hid (And.intro hbb hb3)
        clear hbb hb3
        cases bb
        · go_wp2_with fail
          go_ret
          have e : m.foreign = true := foreign_of hp (by rw [← HQ.out, ← HC.out, ← HBB.out.1]; rfl)
          rw [e]
          exact ⟨rfl, HX.out.2.2.1.trans (HBB.out.2.mono HX.out.2.2.1.size)⟩
        · go_wp2_with fail
          go_roundw
          case rel =>
            refine ⟨pos + 1, hid (HX.out.2.2.2.below HBB.out.2 ?_), ?_, hid (HX.out.2.2.1.trans (HBB.out.2.mono HX.out.2.2.1.size)), hid (still_next HS.out hp (by rw [← HQ.out, ← HC.out, ← HBB.out.1]; rfl))⟩
            · rw [HX.out.1, Lib.iterAt_size]; have := row_lt HB.out.row; exact this
            · exact hid ((HBB.out.2.block _ (row_lt HX.out.2.1)).trans HX.out.2.1)
          case measure =>
            simp only [World.iterPos, (HBB.out.2.block _ (row_lt HX.out.2.1)).trans HX.out.2.1, HI.out]
            have : all.length = 14 := rfl
            omega
      · go_wp2_with fail
        go_roundw
        case rel => exact ⟨pos + 1, hid HX.out.2.2.2, hid HX.out.2.1, hid HX.out.2.2.1, hid (still_next HS.out hp (by rw [← HQ.out, ← HC.out]; rfl))⟩
        case measure =>
          simp only [World.iterPos, HX.out.2.1, HI.out]
          have : all.length = 14 := rfl
          omega
    · have hnx : ∀ ty, (Instr.next (.pointer (some ⟨w.heap.size + 1, 0, none⟩)) true ty).run Tryd.prog wr = _ := fun ty => next_end wr (w.heap.size + 1) all pos ty HI.out hp
      go_wp2_with fail
      go_ret
      rw [still_all HS.out hp]
      exact ⟨rfl, HBel.out⟩
end Go.Proofs.YtpigekbfngalbaaDoor.Ms
namespace Go.Proofs.YtpigekbfngalbaaDoor.Ms
open Go.RowKit
set_option maxRecDepth 100000
attribute [local go_sem ↓] loadAt_msg

theorem full_small (k : Nat) : ∀ x ∈ head ++ tab k, x < 128 := by
  intro x hx
  rcases List.mem_append.1 hx with h | h <;> clear hx
  · revert h; revert x; decide
  · exact tab_small k x h
theorem tab_length (k : Nat) : (tab k).length ≤ 7 := by
  unfold tab
  split <;> decide
theorem isNum_iff (r : Nat) : isNum r = decide (r ∈ nums) := by unfold isNum; simp
/-- up to a place all numbers may be -/
def M.okTo (m : M) (pos : Nat) : Prop := ∀ r ∈ (head ++ tab m.kind).take pos, m.fine r = true
theorem okTo_next {m : M} {pos : Nat} (h : m.okTo pos) (hp : pos < (head ++ tab m.kind).length) (hb : m.fine (head ++ tab m.kind)[pos] = true) : m.okTo (pos + 1) := by
  intro r hr
  rw [List.take_succ_eq_append_getElem hp] at hr
  rcases List.mem_append.1 hr with hr | hr
  · exact h r hr
  · obtain rfl := List.mem_singleton.1 hr; exact hb
theorem okTo_not {m : M} {pos : Nat} (hp : pos < (head ++ tab m.kind).length) (hb : m.fine (head ++ tab m.kind)[pos] = false) : m.inRange = false := by
  unfold M.inRange
  rw [Bool.and_eq_false_iff]
  left
  rw [List.all_eq_false]
  exact ⟨_, List.getElem_mem hp, by simp [hb]⟩
theorem okTo_all {m : M} {pos : Nat} (h : m.okTo pos) (hp : ¬ pos < (head ++ tab m.kind).length) : (head ++ tab m.kind).all m.fine = true := by
  rw [List.all_eq_true]
  intro r hr
  exact h r (by rw [List.take_of_length_le (by omega)]; exact hr)
theorem inRange_of {m : M} (h1 : (head ++ tab m.kind).all m.fine = true) (h2 : ∀ e ∈ m.es, enOk e = true) : m.inRange = true := by
  unfold M.inRange
  rw [h1, List.all_eq_true.2 h2]; rfl
theorem inRange_not {m : M} {i : Nat} (hi : i < m.es.length) (h : enOk m.es[i] = false) : m.inRange = false := by
  unfold M.inRange
  rw [Bool.and_eq_false_iff]
  right
  rw [List.all_eq_false]
  exact ⟨_, List.getElem_mem hi, by simp [h]⟩
set_option maxHeartbeats 1600000 in
theorem inRange_any (m : M) (A : Option Addr) (c : Nat) (A' : Option Addr) (c' : Nat) (w : World) (hk : m.isKind = true) (hT : Tab w) (h : IsEnts w w.heap.size A m.es) (hl : m.es.length ≤ 100000000) :
    Calls Tryd.prog 35 #[.agg #[.int .i64 m.K, .int .i64 m.F, .int .i64 m.T, .int .i64 m.g, .int .i64 m.t, .int .i64 m.i, .int .i64 m.p, .int .i64 m.c, .int .i64 m.r, .int .i64 m.x, .int .i64 m.a, .int .i64 m.b, .int .i64 m.v, .int .i64 m.s, .bool m.ok, .slice A m.es.length c, .slice A' m.d.length c']] w fun e w' => e = .returned (.bool m.inRange) ∧ Below w.heap.size w w' := by
  obtain ⟨k, hK, hk1, hk2, hkind⟩ := kind_of hk
  have hpos := hT.pos
  have k0 : 0 ≤ m.K := by omega
  have k12 : m.K < 12 := by omega
  have HT : Hid (Tab w) := hT
  have HKK : Hid (m.kind = m.K.toNat ∧ m.K.toNat < 12) := ⟨rfl, by omega⟩
  have ht : w.cell? ⟨0, m.K.toNat, none⟩ = some (.string (strOf (tab m.kind))) := hT _ HKK.out.2
  have hcat : Hid (ByteArray.mk #[75, 70, 84] ++ strOf (tab m.kind) = strOf (head ++ tab m.kind)) := by show _ = _; rw [← strOf_append]; rfl
  have hsz : (strOf (tab m.kind)).size ≤ 7 := by rw [strOf_size]; exact tab_length _
  have HE := hid (And.intro h hl)
  have HL : Hid ((head ++ tab m.kind).length ≤ 10) := by show _ ≤ _; rw [List.length_append]; have := tab_length m.kind; have : head.length = 3 := rfl; omega
  clear hK hk1 hk2 hkind hk hT h hl
  go_enter Tryd.func35, Tryd.ntmps35
  go_wp2
  rw [hcat.out]
  clear hsz ht
  obtain ⟨h1, h2, h3⟩ := iter_start w m A c A' c' (strOf (head ++ tab m.kind))
  generalize ((w.alloc (.cells #[.int .i64 m.K, .int .i64 m.F, .int .i64 m.T, .int .i64 m.g, .int .i64 m.t, .int .i64 m.i, .int .i64 m.p, .int .i64 m.c, .int .i64 m.r, .int .i64 m.x, .int .i64 m.a, .int .i64 m.b, .int .i64 m.v, .int .i64 m.s, .bool m.ok, .slice A m.es.length c, .slice A' m.d.length c'] 25)).iter (strOf (head ++ tab m.kind)) 0) = w0 at h1 h2 h3 ⊢
  go_loopw [4, 5] (fun _ _ wr => ∃ pos : Nat, Hid (Bx wr w.heap.size m A c A' c') ∧ Hid (wr.heap[w.heap.size + 1]? = some (.stringIter (strOf (head ++ tab m.kind)) pos)) ∧ Hid (Below w.heap.size w wr) ∧ Hid (m.okTo pos)) (fun _ _ wr => 10 - wr.iterPos (w.heap.size + 1))
  case atStart =>
    exact ⟨0, h1, h2, h3, fun r hr => by simp at hr⟩
  case round =>
    clear h1 h2 h3
    obtain ⟨pos, HB, HI, HBel, HS⟩ := hrel
    by_cases hp : pos < (head ++ tab m.kind).length
    · have hnx : ∀ ty, (Instr.next (.pointer (some ⟨w.heap.size + 1, 0, none⟩)) true ty).run Tryd.prog wr = _ := fun ty => next_at wr (w.heap.size + 1) _ (full_small _) pos ty HI.out hp
      have hiI := Lib.iterAt_heap wr (w.heap.size + 1) (strOf (head ++ tab m.kind)) pos (pos + 1) HI.out
      have hbI := Lib.below_iterAt HBel.out (k := w.heap.size + 1) (by omega) (strOf (head ++ tab m.kind)) (pos + 1)
      have hBI : Bx (wr.iterAt (w.heap.size + 1) (strOf (head ++ tab m.kind)) (pos + 1)) w.heap.size m A c A' c' := ⟨(Lib.iterAt_other wr _ _ _ _ (by omega)).trans HB.out.row⟩
      obtain ⟨wi, hwi⟩ : ∃ wi, wi = wr.iterAt (w.heap.size + 1) (strOf (head ++ tab m.kind)) (pos + 1) := ⟨_, rfl⟩
      rw [← hwi] at hiI hbI hBI
      rw [← hwi] at hnx
      have HX := hid (And.intro hwi (And.intro hiI (And.intro hbI hBI)))
      clear hwi hiI hbI hBI
      have h128 := full_small _ _ (List.getElem_mem hp)
      obtain ⟨q, hq⟩ : ∃ q, q = (head ++ tab m.kind)[pos] := ⟨_, rfl⟩
      rw [← hq] at h128 hnx
      have HQ := hid hq
      have HP := hid hp
      clear hq
      have hN := number_any w.heap.size q h128
      by_cases hn : q ∈ nums
      · rw [show ptr w.heap.size q = some ⟨w.heap.size, ix q, none⟩ from if_pos hn] at hN
        have hcq : wi.cell? ⟨w.heap.size, ix q, none⟩ = some (.int .i64 (m.num q)) := (HX.out.2.2.2.cell (ix q)).trans (num_cell m A c A' c' q hn)
        have HF : Hid (m.fine q = within (m.num q) q) := by show _ = _; unfold M.fine; rw [isNum_iff, decide_eq_true hn]; rfl
        have HN := hid hN
        clear hN hn
        go_wp2_with fail
        refine (HN.out _).mono ?_
        rintro e w2 ⟨rfl, rfl⟩
        obtain ⟨bb, hbb⟩ : ∃ bb, bb = within (m.num q) q := ⟨_, rfl⟩
        have HBB := hid hbb
        clear hbb
        go_wp2_with fail
        refine (within_any _ _ _).mono ?_
        rw [← HBB.out]
        rintro e w2 ⟨rfl, rfl⟩
        cases bb
        · go_wp2_with fail
          go_ret
          rw [okTo_not HP.out (by rw [← HQ.out, HF.out, ← HBB.out])]
          exact ⟨rfl, HX.out.2.2.1⟩
        · go_wp2_with fail
          go_roundw
          case rel => exact ⟨pos + 1, hid HX.out.2.2.2, hid HX.out.2.1, hid HX.out.2.2.1, hid (okTo_next HS.out HP.out (by rw [← HQ.out, HF.out, ← HBB.out]))⟩
          case measure =>
            simp only [World.iterPos, HX.out.2.1, HI.out]
            have := HL.out
            have := HP.out
            omega
      · rw [show ptr w.heap.size q = none from if_neg hn] at hN
        have HF : Hid (m.fine q = true) := by show _ = _; unfold M.fine; rw [isNum_iff, decide_eq_false hn]; rfl
        have HN := hid hN
        clear hN hn
        go_wp2_with fail
        refine (HN.out _).mono ?_
        rintro e w2 ⟨rfl, rfl⟩
        go_wp2_with fail
        go_roundw
        case rel => exact ⟨pos + 1, hid HX.out.2.2.2, hid HX.out.2.1, hid HX.out.2.2.1, hid (okTo_next HS.out HP.out (by rw [← HQ.out, HF.out]))⟩
        case measure =>
          simp only [World.iterPos, HX.out.2.1, HI.out]
          have := HL.out
          have := HP.out
          omega
    · have hnx : ∀ ty, (Instr.next (.pointer (some ⟨w.heap.size + 1, 0, none⟩)) true ty).run Tryd.prog wr = _ := fun ty => next_end wr (w.heap.size + 1) _ pos ty HI.out hp
      have hA := okTo_all HS.out hp
      have HA := hid hA
      have hc15 := HB.out.c15
      have HBe := hid (HE.out.1.below HBel.out)
      clear hA hp
      have HWS : Hid (Below w.heap.size w wr) := HBel
      go_wp2_with fail
      clear HB HI HBel HS hnx
      go_loopw [7, 32] (fun _ i wq => ∃ j : Nat, j ≤ m.es.length ∧ i = .int .i64 (j : Int) ∧ Hid (Below w.heap.size w wq) ∧ Hid (∀ (n : Nat) (h : n < m.es.length), n < j → enOk m.es[n] = true)) (fun _ i _ => m.es.length - (RowKit.intOf i).toNat)
      case atStart => exact ⟨0, Nat.zero_le _, rfl, HWS, hid fun n _ h => absurd h (Nat.not_lt_zero _)⟩
      case round =>
        obtain ⟨j, hj, rfl, HB, HJ⟩ := hrel
        by_cases hlt : j < m.es.length
        · obtain ⟨b, off, hA, hb, hcs⟩ := HE.out.1.cells j hlt
          obtain ⟨A3, c3, e0, e1, e2, _, _, _⟩ := (hcs j hlt).below hb HB.out
          have hln := HE.out.2
          subst hA
          have HN := hid (And.intro hb hcs)
          clear hcs hb hc15
          go_wp2_with fail
          have hnum := HE.out.1.num _ (List.getElem_mem hlt)
          have HE2 : Hid (∀ b1 b2 b3 : Bool, within m.es[j].t 116 = b1 → decide (0 ≤ m.es[j].k) = b2 → decide (m.es[j].k ≤ 2) = b3 → enOk m.es[j] = (b1 && (b2 && b3))) := by
            intro b1 b2 b3 h1 h2 h3
            unfold enOk
            rw [h1, h2, h3]
          have HBN : Hid (∀ o : Obj, Below w.heap.size w (wr.alloc o)) := fun o => HB.out.alloc HB.out.size _
          have HJ2 : Hid (enOk m.es[j] = true → ∀ (n : Nat) (h : n < m.es.length), n < j + 1 → enOk m.es[n] = true) := by
            intro h0 n hn hnj
            by_cases e : n = j
            · subst e; exact h0
            · exact HJ.out n hn (by omega)
          have HNO : Hid (enOk m.es[j] = false → m.inRange = false) := fun h => inRange_not hlt h
          obtain ⟨bb, hbb⟩ : ∃ bb, bb = within m.es[j].t 116 := ⟨_, rfl⟩
          have HBB := hid hbb
          refine (within_any _ 116 _).mono ?_
          rw [← hbb]
          rintro e w2 ⟨rfl, rfl⟩
          clear hbb HB HJ hnum
          cases bb
          · go_wp2_with fail
            go_ret
            rw [HNO.out (by rw [HE2.out _ _ _ HBB.out.symm rfl rfl]; rfl)]
            exact ⟨rfl, HBN.out _⟩
          · by_cases k0 : 0 ≤ m.es[j].k
            · by_cases k2 : m.es[j].k ≤ 2
              · have HOK := hid (HE2.out _ _ _ HBB.out.symm (decide_eq_true k0) (decide_eq_true k2))
                go_wp2_with fail
                go_roundw
                case rel => exact ⟨j + 1, by omega, by go_num, hid (HBN.out _), hid (HJ2.out HOK.out)⟩
                case measure => simp [RowKit.intOf]; omega
              · have HOK := hid (HE2.out _ _ _ HBB.out.symm (decide_eq_true k0) (decide_eq_false k2))
                go_wp2_with fail
                go_ret
                rw [HNO.out HOK.out]
                exact ⟨rfl, HBN.out _⟩
            · have HOK := hid (HE2.out _ _ _ HBB.out.symm (decide_eq_false k0) rfl)
              go_wp2_with fail
              go_ret
              rw [HNO.out HOK.out]
              exact ⟨rfl, HBN.out _⟩
        · obtain rfl : j = m.es.length := by omega
          have HR : Hid (m.inRange = true) := inRange_of HA.out fun e he => by
            obtain ⟨n, hn, rfl⟩ := List.getElem_of_mem he
            exact HJ.out n hn hn
          go_wp2_with fail
          go_ret
          rw [HR.out]
          exact ⟨rfl, HB.out⟩
end Go.Proofs.YtpigekbfngalbaaDoor.Ms
namespace Go.Proofs.YtpigekbfngalbaaDoor.Ms
open Go.RowKit
set_option maxRecDepth 100000
attribute [local go_sem ↓] loadAt_msg

/-- not too great to reckon with -/
structure Small (m : M) : Prop where
  es : m.es.length ≤ 100000
  wt : weigh m.es ≤ 1000000000
  d : m.d.length ≤ 1000000000
def sumTo (m : M) (j : Nat) : Nat := 8 * (head ++ tab m.kind).length + (24 * j + weigh (m.es.take j))
theorem sumTo_next (m : M) (j : Nat) (h : j < m.es.length) : sumTo m (j + 1) = sumTo m j + (24 + m.es[j].d.length) := by
  unfold sumTo; rw [weigh_take _ _ h]; omega
theorem sumTo_le (m : M) (j : Nat) (hs : Small m) (h : j ≤ m.es.length) : sumTo m j ≤ 1003000000 := by
  unfold sumTo
  have h1 := weigh_le m.es j
  have h2 := hs.wt
  have h3 := hs.es
  have h4 : (head ++ tab m.kind).length ≤ 10 := by rw [List.length_append]; have := tab_length m.kind; have : head.length = 3 := rfl; omega
  omega
theorem sumTo_all (m : M) : sumTo m m.es.length + m.d.length = m.size := by unfold sumTo M.size; rw [List.take_length]
theorem size_le (m : M) (hs : Small m) : m.size ≤ 2010000000 := by
  rw [← sumTo_all]; have := sumTo_le m _ hs (Nat.le_refl _); have := hs.d; omega

set_option maxHeartbeats 1600000 in
theorem size_any (m : M) (A : Option Addr) (c : Nat) (A' : Option Addr) (c' : Nat) (w : World) (hk : m.isKind = true) (hT : Tab w) (h : IsEnts w w.heap.size A m.es) (hs : Small m) :
    Calls Tryd.prog 36 #[.agg #[.int .i64 m.K, .int .i64 m.F, .int .i64 m.T, .int .i64 m.g, .int .i64 m.t, .int .i64 m.i, .int .i64 m.p, .int .i64 m.c, .int .i64 m.r, .int .i64 m.x, .int .i64 m.a, .int .i64 m.b, .int .i64 m.v, .int .i64 m.s, .bool m.ok, .slice A m.es.length c, .slice A' m.d.length c']] w fun e w' => e = .returned (.int .i64 ((m.size : Nat) : Int)) ∧ Below w.heap.size w w' := by
  obtain ⟨k, hK, hk1, hk2, hkind⟩ := kind_of hk
  have hpos := hT.pos
  have k0 : 0 ≤ m.K := by omega
  have k12 : m.K < 12 := by omega
  have HKK : Hid (m.kind = m.K.toNat ∧ m.K.toNat < 12) := ⟨rfl, by omega⟩
  have ht : w.cell? ⟨0, m.K.toNat, none⟩ = some (.string (strOf (tab m.kind))) := hT _ HKK.out.2
  have hsz : (strOf (tab m.kind)).size = (tab m.kind).length := strOf_size _
  have htl := tab_length m.kind
  have HE := hid (And.intro h hs)
  have hesl := hs.es
  have hdl := hs.d
  clear hK hk1 hk2 hkind hk hT h hs
  go_enter Tryd.func36, Tryd.ntmps36
  go_wp2
  have HB0 : Hid (Bx (w.alloc (.cells #[.int .i64 m.K, .int .i64 m.F, .int .i64 m.T, .int .i64 m.g, .int .i64 m.t, .int .i64 m.i, .int .i64 m.p, .int .i64 m.c, .int .i64 m.r, .int .i64 m.x, .int .i64 m.a, .int .i64 m.b, .int .i64 m.v, .int .i64 m.s, .bool m.ok, .slice A m.es.length c, .slice A' m.d.length c'] 25)) w.heap.size m A c A' c' ∧ Below w.heap.size w (w.alloc (.cells #[.int .i64 m.K, .int .i64 m.F, .int .i64 m.T, .int .i64 m.g, .int .i64 m.t, .int .i64 m.i, .int .i64 m.p, .int .i64 m.c, .int .i64 m.r, .int .i64 m.x, .int .i64 m.a, .int .i64 m.b, .int .i64 m.v, .int .i64 m.s, .bool m.ok, .slice A m.es.length c, .slice A' m.d.length c'] 25))) := ⟨⟨heap_alloc_new w _⟩, (Below.refl _ w).alloc (Nat.le_refl _) _⟩
  clear ht
  go_loopw [3, 5, 16] (fun n _ i wr => ∃ j : Nat, j ≤ m.es.length ∧ i = .int .i64 (j : Int) ∧ n = .int .i64 ((sumTo m j : Nat) : Int) ∧ Hid (Bx wr w.heap.size m A c A' c') ∧ Hid (Below w.heap.size w wr)) (fun _ _ i _ => m.es.length - (RowKit.intOf i).toNat)
  case atStart =>
    refine ⟨0, Nat.zero_le _, rfl, ?_, HB0.out.1, HB0.out.2⟩
    have e : sumTo m 0 = 8 * (3 + (tab m.kind).length) := by
      have : head.length = 3 := rfl
      unfold sumTo weigh; rw [List.length_append, this]; simp
    rw [e]; congr 1 <;> omega
  case round =>
    clear HB0
    obtain ⟨j, hj, rfl, rfl, HBx, HB⟩ := hrel
    have hle := sumTo_le m j HE.out.2 hj
    by_cases hlt : j < m.es.length
    · have hA := HE.out.1.cells j hlt
      obtain ⟨b, off, hA, hb, hcs⟩ := hA
      have HEn := hid ((hcs j hlt).below hb HB.out)
      have hdl2 : m.es[j].d.length ≤ 1000000000 := Nat.le_trans (weigh_mem (List.getElem_mem hlt)) HE.out.2.wt
      have HS : Hid (sumTo m (j + 1) = sumTo m j + (24 + m.es[j].d.length)) := sumTo_next m j hlt
      subst hA
      obtain ⟨A3, c3, e0, e1, e2, _, _, _⟩ := HEn.out
      have HBN : Hid (∀ o : Obj, Below w.heap.size w (wr.alloc o) ∧ Bx (wr.alloc o) w.heap.size m (some ⟨b, off, none⟩) c A' c') := fun o => ⟨HB.out.alloc HB.out.size _, HBx.out.below ((Below.refl _ wr).alloc (Nat.le_refl _) o) (row_lt HBx.out.row)⟩
      clear hcs HEn HB HBx hb
      go_wp2_with fail
      go_roundw
      case rel =>
        refine ⟨j + 1, by omega, by go_num, ?_, hid (HBN.out _).2, hid (HBN.out _).1⟩
        rw [HS.out]; congr 1 <;> omega
      case measure => simp [RowKit.intOf]; omega
    · obtain rfl : j = m.es.length := by omega
      have hc16 := HBx.out.c16
      have HS : Hid (sumTo m m.es.length + m.d.length = m.size) := sumTo_all m
      go_wp2_with fail
      go_ret
      refine ⟨?_, HB.out⟩
      rw [← HS.out]
      congr 2 <;> omega
/-- a message that came in -/
structure Inp (w : World) (m : M) (A : Option Addr) : Prop where
  T : Tab w
  es : IsEnts w w.heap.size A m.es
  small : Small m
theorem Inp.low {w w' : World} {m : M} {A : Option Addr} (h : Inp w m A) (hb : Below w.heap.size w w') : Inp w' m A := ⟨h.T.below hb h.T.pos, (h.es.below hb).more hb.size, h.small⟩
set_option maxHeartbeats 1600000 in
theorem check_any (m : M) (A : Option Addr) (c : Nat) (A' : Option Addr) (c' : Nat) (w : World) (h : Inp w m A) :
    Calls Tryd.prog 13 #[.agg #[.int .i64 m.K, .int .i64 m.F, .int .i64 m.T, .int .i64 m.g, .int .i64 m.t, .int .i64 m.i, .int .i64 m.p, .int .i64 m.c, .int .i64 m.r, .int .i64 m.x, .int .i64 m.a, .int .i64 m.b, .int .i64 m.v, .int .i64 m.s, .bool m.ok, .slice A m.es.length c, .slice A' m.d.length c']] w fun e w' => e = .returned (.int .i64 ((check m : Nat) : Int)) ∧ Below w.heap.size w w' := by
  have HI := hid h
  have hesl := h.small.es
  have hsz := size_le m h.small
  clear h
  have HBx : Hid (Bx (w.alloc (.cells #[.int .i64 m.K, .int .i64 m.F, .int .i64 m.T, .int .i64 m.g, .int .i64 m.t, .int .i64 m.i, .int .i64 m.p, .int .i64 m.c, .int .i64 m.r, .int .i64 m.x, .int .i64 m.a, .int .i64 m.b, .int .i64 m.v, .int .i64 m.s, .bool m.ok, .slice A m.es.length c, .slice A' m.d.length c'] 25)) w.heap.size m A c A' c' ∧ Below w.heap.size w (w.alloc (.cells #[.int .i64 m.K, .int .i64 m.F, .int .i64 m.T, .int .i64 m.g, .int .i64 m.t, .int .i64 m.i, .int .i64 m.p, .int .i64 m.c, .int .i64 m.r, .int .i64 m.x, .int .i64 m.a, .int .i64 m.b, .int .i64 m.v, .int .i64 m.s, .bool m.ok, .slice A m.es.length c, .slice A' m.d.length c'] 25))) := ⟨⟨heap_alloc_new w _⟩, (Below.refl _ w).alloc (Nat.le_refl _) _⟩
  have HCK : Hid (check m = if m.isKind = false then 13 else if m.foreign = true then 14 else if m.inRange = false then 3 else if 1024 < m.es.length ∨ 65536 < m.size then 2 else 0) := rfl
  have hld := ld_new w 25 #[.int .i64 m.K, .int .i64 m.F, .int .i64 m.T, .int .i64 m.g, .int .i64 m.t, .int .i64 m.i, .int .i64 m.p, .int .i64 m.c, .int .i64 m.r, .int .i64 m.x, .int .i64 m.a, .int .i64 m.b, .int .i64 m.v, .int .i64 m.s, .bool m.ok, .slice A m.es.length c, .slice A' m.d.length c'] rfl
  obtain ⟨b1, hb1⟩ : ∃ b, b = m.isKind := ⟨_, rfl⟩
  have H1 := hid hb1
  have HK := isKind_any m
  rw [← hb1] at HK
  have HKK := hid HK
  clear HK hb1
  go_enter Tryd.func13, Tryd.ntmps13
  go_wp2_with fail
  refine (HKK.out _).mono ?_
  rintro e w1 ⟨rfl, rfl⟩
  cases b1
  · go_wp2_with fail
    go_ret
    rw [HCK.out, if_pos H1.out.symm]
    exact ⟨rfl, HBx.out.2⟩
  have HF := foreign_any m A c A' c' (w.alloc (.cells #[.int .i64 m.K, .int .i64 m.F, .int .i64 m.T, .int .i64 m.g, .int .i64 m.t, .int .i64 m.i, .int .i64 m.p, .int .i64 m.c, .int .i64 m.r, .int .i64 m.x, .int .i64 m.a, .int .i64 m.b, .int .i64 m.v, .int .i64 m.s, .bool m.ok, .slice A m.es.length c, .slice A' m.d.length c'] 25)) H1.out.symm (HI.out.low HBx.out.2).T
  obtain ⟨b2, hb2⟩ : ∃ b, b = m.foreign := ⟨_, rfl⟩
  rw [← hb2] at HF
  have H2 := hid hb2
  have HFF := hid HF
  clear HF hb2
  go_wp2_with fail
  refine HFF.out.mono ?_
  rintro e w1 ⟨rfl, hbw⟩
  have HB1 := hid (HBx.out.2.trans (hbw.mono HBx.out.2.size))
  have HX1 := hid (HBx.out.1.below hbw (row_lt HBx.out.1.row))
  have hld1 := HX1.out.load
  have hc15 := HX1.out.c15
  clear hbw hld
  cases b2
  rotate_left
  · go_wp2_with fail
    go_ret
    rw [HCK.out, if_neg (by rw [← H1.out]; decide), if_pos H2.out.symm]
    exact ⟨rfl, HB1.out⟩
  have HR := inRange_any m A c A' c' w1 H1.out.symm (HI.out.low HB1.out).T (HI.out.low HB1.out).es (by omega)
  obtain ⟨b3, hb3⟩ : ∃ b, b = m.inRange := ⟨_, rfl⟩
  rw [← hb3] at HR
  have H3 := hid hb3
  have HRR := hid HR
  clear HR hb3
  go_wp2_with fail
  refine HRR.out.mono ?_
  rintro e w2 ⟨rfl, hbw⟩
  have HB2 := hid (HB1.out.trans (hbw.mono HB1.out.size))
  have HX2 := hid (HX1.out.below hbw (row_lt HX1.out.row))
  have hld2 := HX2.out.load
  have hc15' := HX2.out.c15
  clear hbw hld1 hc15
  cases b3
  · go_wp2_with fail
    go_ret
    rw [HCK.out, if_neg (by rw [← H1.out]; decide), if_neg (by rw [← H2.out]; decide), if_pos H3.out.symm]
    exact ⟨rfl, HB2.out⟩
  have HC2 : Hid (check m = if 1024 < m.es.length ∨ 65536 < m.size then 2 else 0) := by
    show _ = _
    rw [HCK.out, if_neg (by rw [← H1.out]; decide), if_neg (by rw [← H2.out]; decide), if_neg (by rw [← H3.out]; decide)]
  by_cases hlong : 1024 < m.es.length
  · go_wp2_with fail
    go_ret
    rw [HC2.out, if_pos (Or.inl hlong)]
    exact ⟨rfl, HB2.out⟩
  have HS := hid (size_any m A c A' c' w2 H1.out.symm (HI.out.low HB2.out).T (HI.out.low HB2.out).es HI.out.small)
  by_cases hsize : 65536 < m.size
  · go_wp2_with fail
    refine HS.out.mono ?_
    rintro e w3 ⟨rfl, hbw⟩
    have HB3 := hid (HB2.out.trans (hbw.mono HB2.out.size))
    clear hbw hld2
    go_wp2_with fail
    go_ret
    rw [HC2.out, if_pos (Or.inr hsize)]
    exact ⟨rfl, HB3.out⟩
  · go_wp2_with fail
    refine HS.out.mono ?_
    rintro e w3 ⟨rfl, hbw⟩
    have HB3 := hid (HB2.out.trans (hbw.mono HB2.out.size))
    clear hbw hld2
    go_wp2_with fail
    go_ret
    rw [HC2.out, if_neg (by omega)]
    exact ⟨rfl, HB3.out⟩
end Go.Proofs.YtpigekbfngalbaaDoor.Ms
namespace Go.Proofs.YtpigekbfngalbaaDoor
open Go.RowKit

theorem enc_take (v : Int) (k : Nat) (h : k < 8) : (Pk.enc v).take (k + 1) = (Pk.enc v).take k ++ [Pk.byteOf v (7 - k)] := by
  match k, h with
  | 0, _ => rfl
  | 1, _ => rfl
  | 2, _ => rfl
  | 3, _ => rfl
  | 4, _ => rfl
  | 5, _ => rfl
  | 6, _ => rfl
  | 7, _ => rfl
theorem byteOf_val (v : Int) (k : Nat) : ((Pk.byteOf v k : Nat) : Int) = v / 2 ^ (8 * k) % 256 := by
  unfold Pk.byteOf
  have := Int.emod_nonneg (v / 2 ^ (8 * k)) (show (256 : Int) ≠ 0 by decide)
  omega
theorem bytes_one (l : List Nat) (x : Nat) : bytes l ++ [Value.int .u8 (x : Int)] = bytes (l ++ [x]) := by unfold bytes; simp

set_option maxHeartbeats 400000 in
theorem put_any (base : Nat) (A : Option Addr) (c : Nat) (l : List Nat) (v : Int) (hv : InInt v) (hl : l.length ≤ 140737488355000) (w : World) (h : OwnsB 5 w base A c l) (hB : base ≤ w.heap.size) :
    Calls Tryd.prog 96 #[.slice A l.length c, .int .i64 v] w fun e w' => ∃ A' c', e = .returned (.slice A' (l.length + 8) c') ∧ OwnsB 5 w' base A' c' (l ++ Pk.enc v) ∧ Below base w w' := by
  obtain ⟨i0, hi, hz0, hz1, hz2⟩ := info_parts info_u8
  have hv1 := hv.1
  have hv2 := hv.2
  go_enter Tryd.func96, Tryd.ntmps96
  go_wp2
  go_loopw [0, 5] (fun b i wr => ∃ k : Nat, ∃ A1 : Option Addr, ∃ c1 : Nat, k ≤ 8 ∧ i = .int .i64 (56 - 8 * (k : Int)) ∧ b = .slice A1 (l.length + k) c1 ∧ OwnsB 5 wr base A1 c1 (l ++ (Pk.enc v).take k) ∧ Below base w wr) (fun _ i _ => (RowKit.intOf i + 8).toNat)
  case atStart => exact ⟨0, A, c, by omega, rfl, rfl, by simpa using h, Below.refl _ _⟩
  case round =>
    clear h
    obtain ⟨k, A1, c1, hk, rfl, rfl, hown, hbel⟩ := hrel
    have hlen : (l ++ (Pk.enc v).take k).length = l.length + k := by rw [List.length_append, List.length_take, Pk.enc_length]; omega
    have hrow := hown.row
    rw [hlen] at hrow
    have HR := hid (And.intro hown.small hlen)
    clear hown hlen
    by_cases hlt : k < 8
    · obtain ⟨m, hm⟩ : ∃ m : Nat, 56 - 8 * (k : Int) = (m : Int) := ⟨56 - 8 * k, by omega⟩
      have HM := hid hm
      rw [hm]
      have hm0 : m ≤ 56 := by omega
      clear hm
      have hx := byteOf_val v (7 - k)
      rw [show 8 * (7 - k) = m from by have := HM.out; omega] at hx
      have HX := hid hx
      clear hx
      go_wp2_with (at_builtin; refine wpList_append_own _ rfl _ _ 23 rfl base 5 i0 (.int .u8 0) 1 1 Tryd.underlying23 hi hz0 hz1 hz2 rfl (by decide) _ _ _ rfl (hrow.alloc _) ⟨wr.heap.size, 0, none⟩ 1 1 [.int .u8 (v / 2 ^ m % 256)] rfl rfl ?c1 ?c2 ?c3 ?c4 ?c5 ?_)
      case c1 =>
        intro j u hj
        match j, hj with
        | 0, hj => simp at hj; subst hj; simp [Addr.add]
      case c2 => intro u hu; simp at hu; subst hu; rfl
      case c3 => unfold maxLen; omega
      case c4 => omega
      case c5 => have := hbel.size; simp; omega
      intro v' w1 hown' hgrow _
      obtain ⟨A2, c2, rfl⟩ := own_slice hown'
      rw [← HX.out, bytes_one, List.append_assoc, ← enc_take v k hlt] at hown'
      have hb1 : Below base w w1 := (hbel.alloc (by have := hbel.size; omega) _).grown hgrow (by have := hbel.size; simp; omega) (fun g hg => (hrow.lt g hg).1)
      have HO : Hid (OwnsB 5 w1 base A2 c2 (l ++ (Pk.enc v).take (k + 1))) := by
        refine ⟨?_, ?_⟩
        · intro x hx
          rw [enc_take v k hlt, ← List.append_assoc] at hx
          rcases List.mem_append.1 hx with hx | hx
          · exact HR.out.1 x hx
          · simp at hx; subst hx; exact Pk.byteOf_lt _ _
        · rw [show (l ++ (Pk.enc v).take (k + 1)).length = l.length + k + 1 from by rw [List.length_append, List.length_take, Pk.enc_length]; omega]
          exact hown'
      clear hgrow hown' hrow
      have HB := hid hb1
      clear hb1 hbel
      go_wp2
      go_roundw
      case rel => exact ⟨k + 1, A2, c2, by omega, by rw [← HM.out]; go_num, rfl, HO.out, HB.out⟩
      case measure => simp [RowKit.intOf]; omega
    · obtain rfl : k = 8 := by omega
      have HO : Hid (OwnsB 5 wr base A1 c1 (l ++ Pk.enc v)) := by
        have e : (Pk.enc v).take 8 = Pk.enc v := rfl
        have h1 := HR.out.1
        rw [e] at h1 hrow
        exact ⟨h1, by rw [show (l ++ Pk.enc v).length = l.length + 8 from by rw [List.length_append, Pk.enc_length]]; exact hrow⟩
      clear hrow
      go_wp2
      go_ret
      exact ⟨A1, c1, rfl, HO.out, hbel⟩
set_option maxHeartbeats 400000 in
theorem fresh_any (B : Nat) (A : Option Addr) (c : Nat) (l : List Nat) (r : Nat) (hl : l.length + r ≤ 140737488355000) (w : World) (h : IsBytes w B A l) (hB : B ≤ w.heap.size) (hn : A = none → c = 0) :
    Calls Tryd.prog 97 #[.slice A l.length c, .int .i64 (r : Int)] w fun e w' => ∃ A' c', e = .returned (.slice A' l.length c') ∧ OwnsB 5 w' w.heap.size A' c' l ∧ Below w.heap.size w w' := by
  obtain ⟨i0, hi, hz0, hz1, hz2⟩ := info_parts info_u8
  go_enter Tryd.func97, Tryd.ntmps97
  go_wp2_with (at_make; refine wpList_make_own _ rfl _ _ 23 rfl w.heap.size 5 i0 (.int .u8 0) 1 Tryd.underlying23 hi hz0 hz1 .i64 .i64 ((l.length : Int) + r) (l.length + r) rfl rfl (by omega) ?c1 ?c2 (Nat.le_refl _) ?_)
  case c1 => rw [hz2]; omega
  case c2 => unfold maxLen; omega
  intro w1 hown hgrow
  have hrow : OwnsB 5 w1 w.heap.size (some ⟨w.heap.size, 0, none⟩) (l.length + r) [] := ⟨by simp, hown⟩
  have hbel : Below w.heap.size w w1 := (Below.refl _ _).grown hgrow (Nat.le_refl _) (fun g hg => by cases hg)
  have hs : IsBytes w1 w.heap.size A l := (h.more hB).below hbel
  clear hown hgrow
  go_wp2_with (at_builtin; refine wpList_append_bytesN rfl _ _ 23 rfl w.heap.size 5 i0 Tryd.underlying23 hi hz0 hz1 hz2 (some ⟨w.heap.size, 0, none⟩) (l.length + r) [] 0 rfl rfl hrow w.heap.size A c l l.length rfl rfl hn hs l (List.nil_append _) (by omega) hbel.size ?_)
  intro A3 c3 w2 hown2 hgrow
  have hb2 : Below w.heap.size w w2 := hbel.trans hgrow
  clear hgrow hrow hbel hs
  go_wp2
  go_ret
  exact ⟨A3, c3, rfl, hown2, hb2⟩

set_option maxHeartbeats 400000 in
theorem packInt_any (B : Nat) (A : Option Addr) (c : Nat) (l : List Nat) (v : Int) (hv : InInt v) (hl : l.length ≤ 140737488354000) (w : World) (h : IsBytes w B A l) (hB : B ≤ w.heap.size) (hn : A = none → c = 0) :
    Calls Tryd.prog 84 #[.slice A l.length c, .int .i64 v] w fun e w' => ∃ A' c', e = .returned (.slice A' (l.length + 8) c') ∧ OwnsB 5 w' w.heap.size A' c' (l ++ Pk.enc v) ∧ Below w.heap.size w w' := by
  go_enter Tryd.func84, Tryd.ntmps84
  go_wp2_with fail
  refine (fresh_any B A c l 8 (by omega) _ h hB hn).mono ?_
  rintro e w1 ⟨A1, c1, rfl, hown, hbel⟩
  go_wp2_with fail
  refine (put_any w.heap.size A1 c1 l v hv (by omega) _ hown hbel.size).mono ?_
  rintro e w2 ⟨A2, c2, rfl, hown2, hbel2⟩
  go_wp2
  go_ret
  exact ⟨A2, c2, rfl, hown2, hbel.trans hbel2⟩

end Go.Proofs.YtpigekbfngalbaaDoor
