/- Texts of the proof, one behind the other: Reader, ReadInt, ReadNew, RowAt, RowMore. -/
import Derived.Test.YtdgijnolpjaheaaRows
import Derived.Test.YtdgijnolpjaheaaPartAB
import Derived.Test.YtdgijnolpjaheaaPartAC
import Derived.Test.YtdgijnolpjaheaaPartAA
import Derived.StillTailTactics
import Derived.BigQuiet
import Derived.Deep.QuietTactic
namespace Go.Proofs.Ytdgijnolpjaheaa
open Go.RowKit

/-- a reader at block g: what is left lies in a block ahead of it -/
structure Rdr (w : World) (g : Nat) (s : Pk.St) : Prop where
  small : s.small
  ok : s.ok
  at_ : ∃ A c, w.heap[g]? = some (.cells #[.slice A s.rest.length c, .bool s.bad] 119 (0, 0)) ∧ IsBytes w g A s.rest ∧ s.rest.length ≤ c ∧ c ≤ maxLen ∧ (A = none → c = 0)

theorem row_cell {w : World} {g : Nat} {cs : Array Value} {t : TypeId} (h : w.heap[g]? = some (.cells cs t (0, 0))) (i : Nat) : w.cell? ⟨g, i, none⟩ = cs[i]? := cell_of_row w g i cs t (0, 0) h
theorem row_free {w : World} {g : Nat} {cs : Array Value} {t : TypeId} (h : w.heap[g]? = some (.cells cs t (0, 0))) (i : Nat) : w.frozen? ⟨g, i, none⟩ = false := by simp [World.frozen?, h]
theorem row_lt {w : World} {g : Nat} {o : Obj} (h : w.heap[g]? = some o) : g < w.heap.size := by
  rcases Nat.lt_or_ge g w.heap.size with hlt | hge
  · exact hlt
  · rw [Array.getElem?_eq_none hge] at h; cases h
theorem row_set {w : World} {g : Nat} {cs : Array Value} {t : TypeId} (h : w.heap[g]? = some (.cells cs t (0, 0))) (i : Nat) (u : Value) :
    (w.setCell ⟨g, i, none⟩ u).heap[g]? = some (.cells (cs.setIfInBounds i u) t (0, 0)) := by
  simp [World.setCell, Array.getElem?_modify, h]
namespace Rdr
variable {w w' : World} {g : Nat} {s : Pk.St}
theorem lt (h : Rdr w g s) : g < w.heap.size := by obtain ⟨A, c, h1, _⟩ := h.at_; exact row_lt h1
/-- it stays while nothing up to its own block is written -/
theorem below (h : Rdr w g s) (hb : Below (g + 1) w w') : Rdr w' g s := by
  obtain ⟨A, c, h1, h2, h3⟩ := h.at_
  exact ⟨h.small, h.ok, A, c, (hb.block g (by omega)).trans h1, h2.below (hb.mono (by omega)), h3⟩
theorem drewN (h : Rdr w g s) (n : Nat) : Rdr (w.drewN n) g s := h.below (below_drewN (Below.refl _ _) n)
end Rdr

theorem rdr_gone {w' : World} {g : Nat} (h : w'.heap[g]? = some (.cells #[.slice none 0 0, .bool true] 119 (0, 0))) : Rdr w' g Pk.gone :=
  ⟨Pk.gone_small, Pk.gone_ok, none, 0, h, IsBytes.nil, Nat.le_refl _, Nat.zero_le _, fun _ => rfl⟩

theorem IsBytes.drop {w : World} {B : Nat} {ad : Addr} {l : List Nat} (h : IsBytes w B (some ad) l) (m : Nat) (hm : m < l.length) : IsBytes w B (some (ad.add m)) (l.drop m) := by
  refine ⟨fun x hx => h.small x (List.mem_of_mem_drop hx), fun k hk => ?_⟩
  obtain ⟨b, off, e, hb, hc⟩ := h.cells m hm
  injection e with e
  subst e
  refine ⟨b, off + m, by rw [add_off], hb, fun i hi => ?_⟩
  rw [List.length_drop] at hi
  rw [List.getElem_drop, Nat.add_assoc]
  exact hc (m + i) (by omega)
theorem IsBytes.put {w : World} {g : Nat} {A : Option Addr} {l : List Nat} (h : IsBytes w g A l) (k : Nat) (u : Value) : IsBytes (w.setCell ⟨g, k, none⟩ u).drew g A l := (h.below ((Below.refl g w).setCell (Nat.le_refl _) _)).drew
/-- the reader behind a store into what is left -/
theorem Rdr.put {w : World} {g : Nat} {s : Pk.St} {A : Option Addr} {c : Nat} (h : w.heap[g]? = some (.cells #[.slice A s.rest.length c, .bool s.bad] 119 (0, 0)))
    (rest : List Nat) (A' : Option Addr) (n c' : Nat) (hn : rest.length = n) (hb : IsBytes w g A' rest) (hc : n ≤ c') (hm : c' ≤ maxLen) (hnil : A' = none → c' = 0) (hok : s.bad = true → rest = []) :
    Rdr (w.setCell ⟨g, 0, none⟩ (.slice A' n c')).drew g ⟨rest, s.bad⟩ ∧ w.grownBy (w.setCell ⟨g, 0, none⟩ (.slice A' n c')).drew (some g) := by
  subst hn
  refine ⟨⟨hb.small, hok, A', c', (row_set h 0 _), ?_, hc, hm, hnil⟩, grown_drew (grown_setCell _ _ _ _)⟩
  exact (hb.below ((Below.refl g w).setCell (Nat.le_refl _) _)).drew

set_option maxRecDepth 100000 in
set_option maxHeartbeats 400000 in
theorem spoil_rdr (g : Nat) (s : Pk.St) (w : World) (h : Rdr w g s) :
    Calls Try.prog 94 #[.pointer (some ⟨g, 0, none⟩)] w fun e w' => e = .returned (.tuple #[]) ∧ Rdr w' g Pk.gone ∧ w.grownBy w' (some g) := by
  obtain ⟨A, c, h1, _, _⟩ := h.at_
  have hc0 : w.cell? ⟨g, 0, none⟩ = some (.slice A s.rest.length c) := row_cell h1 0
  have hc1 : w.cell? ⟨g, 1, none⟩ = some (.bool s.bad) := row_cell h1 1
  have hf0 := row_free h1 0
  have hf1 := row_free h1 1
  have HR : Hid (((w.setCell ⟨g, 0, none⟩ (.slice none 0 0)).setCell ⟨g, 1, none⟩ (.bool true)).heap[g]? = some (.cells #[.slice none 0 0, .bool true] 119 (0, 0))) :=
    row_set (row_set h1 0 _) 1 _
  have HG : Hid (w.grownBy ((w.setCell ⟨g, 0, none⟩ (.slice none 0 0)).setCell ⟨g, 1, none⟩ (.bool true)) (some g)) :=
    (grown_setCell _ _ _ _).trans (grown_setCell _ _ _ _)
  clear h h1
  go_enter Try.func94, Try.ntmps94
  go_wp2
  go_end0
  exact ⟨rfl, rdr_gone HR.out, HG.out⟩

set_option maxRecDepth 100000 in
set_option maxHeartbeats 800000 in
theorem take_rdr (g : Nat) (s : Pk.St) (n : Int) (hn : InInt n) (w : World) (h : Rdr w g s) :
    Calls Try.prog 81 #[.pointer (some ⟨g, 0, none⟩), .int .i64 n] w fun e w' =>
      ∃ A' c', e = .returned (.slice A' (Pk.taken s n).1.length c') ∧ IsBytes w' g A' (Pk.taken s n).1 ∧ (A' = none → c' = 0) ∧ Rdr w' g (Pk.taken s n).2 ∧ w.grownBy w' (some g) := by
  have hn1 := hn.1
  have hn2 := hn.2
  obtain ⟨A, c, h1, h2, h3, h4, h5⟩ := h.at_
  have hc0 : w.cell? ⟨g, 0, none⟩ = some (.slice A s.rest.length c) := row_cell h1 0
  have hc1 : w.cell? ⟨g, 1, none⟩ = some (.bool s.bad) := row_cell h1 1
  have hf0 := row_free h1 0
  have hf1 := row_free h1 1
  unfold maxLen at h4
  by_cases hbad : n < 0 ∨ (s.rest.length : Int) < n
  · have HT : Hid (Pk.taken s n = ([], Pk.gone)) := by unfold Pk.taken; rw [if_pos hbad]; exact hid rfl
    have HS := hid (spoil_rdr g s w h)
    clear h1 h2 hn
    by_cases hneg : n < 0
    · clear hbad
      go_enter Try.func81, Try.ntmps81
      go_wp2_with fail
      refine HS.out.mono ?_
      rintro e w1 ⟨rfl, hR, hG⟩
      go_wp2_with fail
      go_ret
      rw [HT.out]
      exact ⟨none, 0, rfl, IsBytes.nil, fun _ => rfl, hR, hG⟩
    · have hlt : (s.rest.length : Int) < n := by omega
      clear hbad
      go_enter Try.func81, Try.ntmps81
      go_wp2_with fail
      refine HS.out.mono ?_
      rintro e w1 ⟨rfl, hR, hG⟩
      go_wp2_with fail
      go_ret
      rw [HT.out]
      exact ⟨none, 0, rfl, IsBytes.nil, fun _ => rfl, hR, hG⟩
  · obtain ⟨m, rfl⟩ : ∃ m : Nat, n = (m : Int) := ⟨n.toNat, by omega⟩
    have hm : m ≤ s.rest.length := by omega
    have HT : Hid (Pk.taken s m = (s.rest.take m, ⟨s.rest.drop m, s.bad⟩)) := by unfold Pk.taken; rw [if_neg hbad]; exact hid rfl
    clear hbad hn
    have hok := h.ok
    clear h
    obtain ⟨rest, bad⟩ := s
    dsimp only at hm h1 hc0 hc1 h2 h3 HT
    rcases A with _ | ad
    · obtain rfl : rest = [] := h2.of_none
      obtain rfl := h5 rfl
      simp only [List.length_nil] at hm h1 hc0 h3
      obtain rfl : m = 0 := by omega
      have HP := hid (Rdr.put (s := ⟨[], bad⟩) h1 [] none 0 0 rfl IsBytes.nil (Nat.le_refl _) (Nat.zero_le _) (fun _ => rfl) (fun _ => rfl))
      clear h1 h2 hok
      go_enter Try.func81, Try.ntmps81
      go_wp2_with fail
      go_still_tail 19, (by kernel_rfl)
      go_wp2_with fail
      go_ret
      rw [HT.out]
      exact ⟨none, 0, rfl, IsBytes.nil, fun _ => rfl, HP.out⟩
    · have HT1 : Hid (rest.length = m → Rdr (w.setCell ⟨g, 0, none⟩ (.slice (some ad) 0 0)).drew g ⟨rest.drop m, bad⟩ ∧ w.grownBy (w.setCell ⟨g, 0, none⟩ (.slice (some ad) 0 0)).drew (some g)) := fun e => by
        have e2 : rest.drop m = [] := List.drop_of_length_le (by omega)
        rw [e2]
        exact Rdr.put (s := ⟨rest, bad⟩) h1 [] (some ad) 0 0 rfl IsBytes.nil (Nat.le_refl _) (Nat.zero_le _) (fun h => by cases h) (fun _ => rfl)
      have HT2 : Hid (¬ rest.length = m → Rdr (w.setCell ⟨g, 0, none⟩ (.slice (some (ad.add m)) (rest.length - m) (rest.length - m))).drew g ⟨rest.drop m, bad⟩ ∧ w.grownBy (w.setCell ⟨g, 0, none⟩ (.slice (some (ad.add m)) (rest.length - m) (rest.length - m))).drew (some g)) := fun e =>
        Rdr.put (s := ⟨rest, bad⟩) h1 (rest.drop m) (some (ad.add m)) _ _ (by rw [List.length_drop]) (h2.drop m (by omega)) (Nat.le_refl _) (by unfold maxLen; omega) (fun h => by cases h) (fun hb => by have : rest = [] := hok hb; rw [this]; simp)
      have HB : Hid (IsBytes w g (some ad) (rest.take m)) := h2.take m
      have HL : Hid ((rest.take m).length = m) := by show _ = _; rw [List.length_take]; omega
      clear h1 h2 hok
      go_enter Try.func81, Try.ntmps81
      go_wp2_with fail
      go_still_tail 19, (by kernel_rfl)
      go_wp2_with fail
      all_goals
        go_ret
        rw [HT.out]
        first
          | exact ⟨some ad, m, ret_len HL.out.symm, HB.out.put _ _, (fun h => by cases h), HT2.out (by omega)⟩
          | exact ⟨some ad, m, ret_len HL.out.symm, HB.out.put _ _, (fun h => by cases h), HT1.out (by omega)⟩
end Go.Proofs.Ytdgijnolpjaheaa
namespace Go.Proofs.Ytdgijnolpjaheaa
open Go.RowKit

theorem or_add (v c : Nat) (hc : c < 256) : v * 256 ||| c = v * 256 + c := by
  rw [show v * 256 = 2 ^ 8 * v from by omega, ← Nat.two_pow_add_eq_or_of_lt hc]
theorem wrap64_sgn (n : Nat) (h : n < 18446744073709551616) : wrap64 (n : Int) = Pk.sgn n := by
  unfold wrap64 Pk.sgn
  split <;> omega
theorem wrap_sgn (n : Nat) (h : n < 18446744073709551616) : IntKind.i64.wrap (n : Int) = Pk.sgn n := by
  rw [IntKind.wrap_i64]
  unfold Pk.sgn
  split <;> omega
theorem num_take_lt (l : List Nat) (k : Nat) (hl : l.length ≤ 8) (hk : k < l.length) (h : ∀ x ∈ l, x < 256) : Pk.num (l.take k) < 72057594037927936 := by
  have h1 := Pk.num_lt (l.take k) (fun x hx => h x (List.mem_of_mem_take hx))
  have h2 : (l.take k).length ≤ 7 := by rw [List.length_take]; omega
  have h3 : 256 ^ (l.take k).length ≤ 256 ^ 7 := Nat.pow_le_pow_right (by decide) h2
  have h4 : 256 ^ 7 = 72057594037927936 := by decide
  omega
theorem num_all_lt (l : List Nat) (hl : l.length ≤ 8) (h : ∀ x ∈ l, x < 256) : Pk.num l < 18446744073709551616 := by
  have := Pk.take_num_lt l h
  rwa [List.take_of_length_le hl] at this

set_option maxRecDepth 100000 in
set_option maxHeartbeats 400000 in
theorem number_any (B : Nat) (A : Option Addr) (c : Nat) (l : List Nat) (hl : l.length ≤ 8) (w : World) (h : IsBytes w B A l) :
    Calls Try.prog 80 #[.slice A l.length c] w fun e w' => e = .returned (.int .i64 (Pk.sgn (Pk.num l))) ∧ w = w' := by
  go_enter Try.func80, Try.ntmps80
  go_wp2
  go_loop [3, 8] (fun v i => ∃ k n : Nat, k ≤ l.length ∧ i = .int .i64 k ∧ v = .int .u64 (n : Int) ∧ n < 18446744073709551616 ∧ Hid (n = Pk.num (l.take k))) (fun _ i => l.length - (RowKit.intOf i).toNat)
  case atStart => exact ⟨0, 0, by omega, rfl, rfl, by omega, hid rfl⟩
  case round =>
    obtain ⟨k, n, hk, rfl, rfl, hn, hs⟩ := hrel
    by_cases hlt : k < l.length
    · obtain ⟨b, off, rfl, _, hc⟩ := h.cells k hlt
      have hck := hc k hlt
      have hb8 := h.small l[k] (List.getElem_mem _)
      have hn7 : n < 72057594037927936 := by rw [hs.out]; exact num_take_lt l k hl hlt h.small
      have HO : Hid (bits .or .u64 ((n : Int) * 256) (l[k] : Nat) = ((n * 256 + l[k] : Nat) : Int)) := by
        show _ = _
        rw [show (n : Int) * 256 = ((n * 256 : Nat) : Int) from by omega, u64_or_nat _ _ (by omega) (by omega), or_add _ _ hb8]
      clear hc
      go_wp2
      go_round
      case rel => exact ⟨k + 1, n * 256 + l[k], by omega, by go_num, by rw [HO.out], by omega, by
        show _ = _
        rw [List.take_succ_eq_append_getElem hlt, Pk.num_snoc, ← hs.out]⟩
      case measure => simp [RowKit.intOf] <;> omega
    · go_wp2
      go_ret
      obtain rfl : k = l.length := by omega
      exact ⟨ret_int (by rw [wrap64_sgn n hn, hs.out, List.take_length]), rfl⟩

set_option maxRecDepth 100000 in
set_option maxHeartbeats 400000 in
theorem int_rdr (g : Nat) (s : Pk.St) (w : World) (h : Rdr w g s) :
    Calls Try.prog 70 #[.pointer (some ⟨g, 0, none⟩)] w fun e w' => e = .returned (.int .i64 (Pk.rdInt s).1) ∧ Rdr w' g (Pk.rdInt s).2 ∧ w.grownBy w' (some g) := by
  have HT := hid (take_rdr g s 8 (by unfold InInt; omega) w h)
  have h8 : (Pk.taken s 8).1.length ≤ 8 := by
    unfold Pk.taken
    split
    · simp
    · exact List.length_take_le _ _
  clear h
  go_enter Try.func70, Try.ntmps70
  go_wp2_with fail
  refine HT.out.mono ?_
  rintro e w1 ⟨A1, c1, rfl, hb, _, hR, hG⟩
  go_wp2_with fail
  refine (number_any g A1 c1 _ h8 _ hb).mono ?_
  rintro e w2 ⟨rfl, rfl⟩
  go_wp2_with fail
  go_ret
  exact ⟨ret_int (Pk.rdInt_num s).symm, by rw [Pk.rdInt_st]; exact hR, hG⟩

set_option maxRecDepth 100000 in
set_option maxHeartbeats 400000 in
theorem bad_rdr (g : Nat) (s : Pk.St) (w : World) (h : Rdr w g s) :
    Calls Try.prog 71 #[.pointer (some ⟨g, 0, none⟩)] w fun e w' => e = .returned (.bool s.bad) ∧ w = w' := by
  obtain ⟨A, c, h1, h2, h3, h4, h5⟩ := h.at_
  have hc1 : w.cell? ⟨g, 1, none⟩ = some (.bool s.bad) := row_cell h1 1
  clear h h1 h2
  go_enter Try.func71, Try.ntmps71
  go_wp2
  go_ret
  exact ⟨rfl, rfl⟩
end Go.Proofs.Ytdgijnolpjaheaa
namespace Go.Proofs.Ytdgijnolpjaheaa
open Go.RowKit

theorem OwnsB.capZ {e : TypeId} {w : World} {base c : Nat} {A : Option Addr} {l : List Nat} (h : OwnsB e w base A c l) : c ≤ maxLen ∧ (A = none → c = 0) := by
  rcases h.row.2 with ⟨h1, _⟩ | ⟨g, cap, cur, h1, _, _, _, h2, _⟩
  · injection h1 with h1 h2 h3
    exact ⟨by omega, fun _ => h3⟩
  · injection h1 with h3 h4 h5
    exact ⟨by omega, fun h6 => by rw [h3] at h6; cases h6⟩
set_option maxRecDepth 100000 in
set_option maxHeartbeats 400000 in
theorem sclone_any (B : Nat) (A : Option Addr) (c : Nat) (l : List Nat) (hl : l.length ≤ 140737488354000) (w : World) (h : IsBytes w B A l) (hB : B ≤ w.heap.size) (hn : A = none → c = 0) :
    Calls Try.prog 79 #[.slice A l.length c] w fun e w' => ∃ A' c', e = .returned (.slice A' l.length c') ∧ OwnsB 5 w' w.heap.size A' c' l ∧ Below w.heap.size w w' := by
  obtain ⟨i0, hi, hz0, hz1, hz2⟩ := info_parts info_u8
  have hq := fun (w : World) (a : Option Addr) (n c : Nat) => Lib.run_eql_slice_nil (P := Try.prog) w 32 5 a n c 0 0 Try.underlying32
  rcases A with _ | ad
  · obtain rfl := hn rfl
    obtain rfl := h.of_none
    go_enter Try.func79, Try.ntmps79
    go_wp2
    go_ret
    exact ⟨none, 0, rfl, OwnsB.nil _ _ _, Below.refl _ _⟩
  · have hbel : Below w.heap.size w (w.alloc (.cells #[] 5)) := (Below.refl _ _).alloc (Nat.le_refl _) _
    have hown : OwnsB 5 (w.alloc (.cells #[] 5)) w.heap.size (some ⟨w.heap.size, 0, none⟩) 0 [] := by
      refine ⟨by simp, by simp [bytes], .inr ⟨w.heap.size, 0, _, rfl, Nat.le_refl _, heap_alloc_new w _, Nat.zero_le _, by unfold maxLen; omega, by simp, by simp [bytes]⟩⟩
    have hs : IsBytes (w.alloc (.cells #[] 5)) w.heap.size (some ad) l := (h.more hB).below hbel
    have HB := hid hbel
    have hsz := hbel.size
    have HS := hid hsz
    clear hbel hsz
    go_enter Try.func79, Try.ntmps79
    go_wp2_with (at_builtin; refine wpList_append_bytesN rfl _ _ 32 rfl w.heap.size 5 i0 Try.underlying32 hi hz0 hz1 hz2 (some ⟨w.heap.size, 0, none⟩) 0 [] 0 rfl rfl hown w.heap.size (some ad) c l l.length rfl rfl hn hs l (List.nil_append _) (by omega) HS.out ?_)
    intro A3 c3 w2 hown2 hbel2
    have HB2 := hid (HB.out.trans hbel2)
    clear hown hs hbel2
    go_wp2
    go_ret
    exact ⟨A3, c3, ret_len (by simp), hown2, HB2.out⟩

/-- a reader that is made; it stays whatever is written into one block that was there ahead of it -/
def Fresh (w : World) (l : List Nat) (e : Ending) (w' : World) : Prop :=
  ∃ g, e = .returned (.pointer (some ⟨g, 0, none⟩)) ∧ w.heap.size ≤ g ∧ (∀ w2 row, w'.grownBy w2 row → (∀ k, row = some k → k < w.heap.size) → Rdr w2 g ⟨l, false⟩) ∧ Below w.heap.size w w'
set_option maxRecDepth 100000 in
set_option maxHeartbeats 400000 in
theorem read_keep (B : Nat) (A : Option Addr) (c : Nat) (l : List Nat) (hl : l.length ≤ 140737488354000) (w : World) (h : IsBytes w B A l) (hB : B ≤ w.heap.size) (hn : A = none → c = 0) :
    Calls Try.prog 69 #[.slice A l.length c] w (Fresh w l) := by
  have HC := hid (sclone_any B A c l hl w h hB hn)
  have hsm := h.small
  clear h hn
  go_enter Try.func69, Try.ntmps69
  go_wp2_with fail
  refine HC.out.mono ?_
  rintro e w1 ⟨A1, c1, rfl, hown, hbel⟩
  have hcap := hown.cap
  have hcap2 := hown.capZ
  have hm : l.length ≤ 9223372036854775807 := by have := hcap2.1; unfold maxLen at this; omega
  have hm2 : c1 ≤ 9223372036854775807 := by have := hcap2.1; unfold maxLen at this; omega
  have hsz := hbel.size
  have hblk := hown.blkLt
  clear HC
  have HR : Hid (∀ A2, (l = [] ∨ A2 = A1) → (A2 = none → l.length = 0) → ∀ w2 row, (w1.alloc (.cells #[.slice A2 l.length l.length, .bool false] 119)).grownBy w2 row → (∀ k, row = some k → k < w.heap.size) → Rdr w2 w1.heap.size ⟨l, false⟩) := by
    intro A2 hA hn2 w2 row hG hr
    have hr1 : some w1.heap.size ≠ row := fun e => by have := hr _ e.symm; omega
    refine ⟨hsm, fun h => (by cases h), A2, l.length, (hG.block w1.heap.size (by simp) hr1).trans (heap_alloc_new w1 _), ?_, Nat.le_refl _, by unfold maxLen; omega, hn2⟩
    rcases hA with rfl | rfl
    · exact IsBytes.nil
    · have h3 : OwnsB 5 w2 w.heap.size A2 c1 l := (hown.alloc _).grown hG hr
      refine ⟨h3.small, fun k hk => ?_⟩
      obtain ⟨b, off, e, _, hc⟩ := h3.reads.cells k hk
      exact ⟨b, off, e, (hblk b (by rw [e]; rfl)).2, hc⟩
  have HB : Hid (∀ o, Below w.heap.size w (w1.alloc o)) := fun o => hbel.alloc hsz o
  have hl0 := fun e => (hcap2.2 e)
  clear hbel hcap2 hown hblk
  rcases A1 with _ | ad
  · have hc0 : c1 = 0 := hl0 rfl
    obtain rfl := hc0
    obtain rfl : l = [] := List.eq_nil_of_length_eq_zero (by omega)
    clear hl0
    go_wp2
    go_ret
    exact ⟨_, rfl, hsz, HR.out none (by simp) (by simp), HB.out _⟩
  · clear hl0
    go_wp2
    go_ret
    exact ⟨_, rfl, hsz, HR.out (some ad) (.inr rfl) (fun h => by cases h), HB.out _⟩
theorem packRead_any (B : Nat) (A : Option Addr) (c : Nat) (l : List Nat) (hl : l.length ≤ 140737488354000) (w : World) (h : IsBytes w B A l) (hB : B ≤ w.heap.size) (hn : A = none → c = 0) :
    Calls Try.prog 69 #[.slice A l.length c] w fun e w' => ∃ g, e = .returned (.pointer (some ⟨g, 0, none⟩)) ∧ w.heap.size ≤ g ∧ Rdr w' g ⟨l, false⟩ ∧ Below w.heap.size w w' :=
  (read_keep B A c l hl w h hB hn).mono fun e w' ⟨g, he, hg, hR, hb⟩ => ⟨g, he, hg, hR w' none (grown_refl _ _) (fun k hk => by cases hk), hb⟩
end Go.Proofs.Ytdgijnolpjaheaa
namespace Go.Proofs.Ytdgijnolpjaheaa
open Go.RowKit

theorem info_bytes : (Try.prog.info? 32).map (fun i => (i.zero, i.size, i.bytes)) = some (some (.slice none 0 0), 1, 24) := by kernel_rfl

/-- A list of bytes' slices of the call's own; neither it nor its bytes lie in a block of Z. -/
structure RowsAt (w : World) (Z : Nat → Prop) (v : Value) (L : List (List Nat)) : Prop where
  row : ∃ vs, w.ownsRow 0 32 1 v L.length vs ∧ ∀ i (h : i < L.length), L[i].length ≤ 100000 ∧ ∃ A c, vs[i]? = some (.slice A L[i].length c) ∧ OwnsZ w Z A c L[i]
  off : ∀ k, v.ownBlock = some k → ¬ Z k
/-- .. read -/
def IsRows (w : World) (A : Option Addr) (L : List (List Nat)) : Prop :=
  ∀ k, k < L.length → ∃ b off, A = some ⟨b, off, none⟩ ∧ ∀ i (h : i < L.length), L[i].length ≤ 100000 ∧ ∃ A' c', w.cell? ⟨b, off + i, none⟩ = some (.slice A' L[i].length c') ∧ IsBytes w w.heap.size A' L[i]

namespace RowsAt
variable {w w' : World} {Z Z' : Nat → Prop} {v : Value} {L : List (List Nat)}
theorem nil (w : World) (Z : Nat → Prop) : RowsAt w Z (.slice none 0 0) [] := ⟨⟨[], World.ownsRow_nil _ _ _ _, fun i h => by simp at h⟩, fun k h => by cases h⟩
theorem keep (h : RowsAt w Z v L) (ht : Turned Z w w') : RowsAt w' Z v L := by
  obtain ⟨vs, h1, h2⟩ := h.row
  refine ⟨⟨vs, ownsRow_turned h1 ht h.off, fun i hi => ?_⟩, h.off⟩
  obtain ⟨h3, A, c, h4, h5⟩ := h2 i hi
  exact ⟨h3, A, c, h4, h5.keep ht⟩
theorem mono (h : RowsAt w Z v L) (hz : ∀ k, Z' k → Z k) : RowsAt w Z' v L := by
  obtain ⟨vs, h1, h2⟩ := h.row
  refine ⟨⟨vs, h1, fun i hi => ?_⟩, fun k hk e => h.off k hk (hz k e)⟩
  obtain ⟨h3, A, c, h4, h5⟩ := h2 i hi
  exact ⟨h3, A, c, h4, h5.mono hz⟩
theorem slice (h : RowsAt w Z v L) : ∃ A c, v = .slice A L.length c := by
  obtain ⟨vs, h1, _⟩ := h.row
  exact own_slice h1
theorem below (h : RowsAt w Z v L) (hb : Below w.heap.size w w') : RowsAt w' Z v L := h.keep (Turned.ofBelow _ hb)
theorem drewN (h : RowsAt w Z v L) (n : Nat) : RowsAt (w.drewN n) Z v L := h.below (below_drewN (Below.refl _ _) n)
theorem reads {A : Option Addr} {n c : Nat} (h : RowsAt w Z (.slice A n c) L) : IsRows w A L := by
  intro k hk
  obtain ⟨vs, h1, h2⟩ := h.row
  rcases h1.2 with ⟨_, h0⟩ | ⟨g, cap, cur, hv, _, hh, _, _, _, htake⟩
  · omega
  · have hA : A = some ⟨g, 0, none⟩ := by injection hv
    have hnn : n = L.length := by injection hv
    subst hA
    subst hnn
    refine ⟨g, 0, rfl, fun i hi => ?_⟩
    obtain ⟨h3, A', c', h4, h5⟩ := h2 i hi
    refine ⟨h3, A', c', ?_, h5.reads⟩
    rw [h1.cellAt (0 + i) (by omega), Nat.zero_add]
    exact h4
end RowsAt
theorem IsRows.below {w w' : World} {A : Option Addr} {L : List (List Nat)} (h : IsRows w A L) (hb : Below w.heap.size w w') : IsRows w' A L := by
  intro k hk
  obtain ⟨b, off, hA, hc⟩ := h k hk
  refine ⟨b, off, hA, fun i hi => ?_⟩
  obtain ⟨h1, A', c', h2, h3⟩ := hc i hi
  exact ⟨h1, A', c', (hb.cell (World.block_lt_of_cell? _ _ h2)).trans h2, (h3.below hb).more hb.size⟩
theorem IsRows.drewN {w : World} {A : Option Addr} {L : List (List Nat)} (h : IsRows w A L) (n : Nat) : IsRows (w.drewN n) A L := h.below (below_drewN (Below.refl _ _) n)

/-- append of one more slice of bytes, that the walk has just laid into a block of its own -/
theorem wpList_append_row {w : World} {ops : Array Oper} {rest : List Oper} {o : Oper} {a : Act} {Q : Exit → Act → World → Prop} (hgd : o.guard = none) (s x : Operand)
    (ho : o.op = .call { callee := .builtin .append, args := #[s, x], argTypes := #[22, 22] })
    (Z : Nat → Prop) (hZ : ∀ k, Z k → k < w.heap.size) (v : Value) (L : List (List Nat)) (hs : a.eval s = v) (h : RowsAt w Z v L)
    (ad : Addr) (c' : Nat) (A : Option Addr) (c : Nat) (l : List Nat) (n : Nat) (hln : l.length = n) (hx : a.eval x = .slice (some ad) 1 c') (hc : w.cell? ad = some (.slice A n c)) (hA : OwnsZ w Z A c l) (hl : n ≤ 100000)
    (M : List (List Nat)) (hM : L ++ [l] = M) (m : Nat) (hm : L.length = m) (hn : m + 1 ≤ 100000)
    (hK : ∀ A2 c2 w', RowsAt w' Z (.slice A2 (m + 1) c2) M → Turned (fun k => ¬ Z k) w w' → wpList Try.prog ops Q rest (a.put o.dst (.slice A2 (m + 1) c2)) w') :
    wpList Try.prog ops Q (o :: rest) a w := by
  subst hln
  subst hM
  subst hm
  obtain ⟨i0, hi, hz0, hz1, hz2⟩ := info_parts info_bytes
  obtain ⟨vs, h1, h2⟩ := h.row
  refine wpList_append_own_at w hgd s x 22 ho 0 32 i0 (.slice none 0 0) 1 24 Try.underlying22 hi hz0 hz1 hz2 rfl (by decide) v L.length vs hs h1 ad 1 c' [.slice A l.length c] hx rfl ?_ ?_ (by unfold maxLen; omega) (by omega) (Nat.zero_le _) ?_
  · intro j u hj
    match j, hj with
    | 0, hj => simp at hj; subst hj; simpa [Addr.add] using hc
  · intro u hu; simp at hu; subst hu; rfl
  · intro v' w' h3 h4 _ h5
    obtain ⟨A2, c2, rfl⟩ := own_slice h3
    have ht : Turned (fun k => v.ownBlock = some k) w w' := Turned.ofGrown h4 (fun k e => e)
    have hel : ∀ A c l, OwnsZ w Z A c l → OwnsZ w' Z A c l := fun A c l hA => by
      rcases hb : v.ownBlock with _ | g
      · exact ((OwnsZ.mono (Z' := fun _ => False) hA (fun _ h => h.elim)).keep (ht.mono (fun k e => by rw [hb] at e; cases e))).own |> fun ho => ⟨ho, hA.off⟩
      · rcases h1.2 with ⟨rfl, _⟩ | ⟨g', cap, cur, rfl, _, hh, _⟩
        · cases hb
        · have hg : g' = g := by simpa [Value.ownBlock] using hb
          subst hg
          refine (((hA.shunTag hh ?_).keep (ht.mono (fun k e => ?_))).mono (fun _ h => .inl h))
          · intro cur e
            have h6 := (Obj.cells.inj e).2.1
            revert h6; decide
          · have e := hb.symm.trans e
            injection e with e
            exact .inr e.symm
    refine hK A2 c2 w' ⟨⟨vs ++ [.slice A l.length c], by rw [List.length_append]; exact h3, fun i hi => ?_⟩, ?_⟩ (ht.mono (fun k e => h.off k e))
    · have hvl : vs.length = L.length := by have := h1.1; omega
      by_cases hlt : i < L.length
      · obtain ⟨h6, A', c'', h7, h8⟩ := h2 i hlt
        rw [List.getElem_append_left hlt]
        exact ⟨h6, A', c'', by rw [List.getElem?_append_left (by omega)]; exact h7, hel _ _ _ h8⟩
      · have : i = L.length := by rw [List.length_append] at hi; simp at hi; omega
        subst this
        rw [List.getElem_append_right (Nat.le_refl _)]
        simp only [Nat.sub_self, List.getElem_cons_zero]
        exact ⟨hl, A, c, by rw [List.getElem?_append_right (by omega), hvl]; simp, hel _ _ _ hA⟩
    · intro k hk e
      rcases h5 with h5 | h5
      · exact h.off k (by rw [← h5]; exact hk) e
      · rw [h5] at hk
        injection hk with hk
        have := hZ k e
        omega

end Go.Proofs.Ytdgijnolpjaheaa
namespace Go.Proofs.Ytdgijnolpjaheaa
open Go.RowKit

theorem RowsAt.shun {w : World} {Z : Nat → Prop} {v : Value} {L : List (List Nat)} (h : RowsAt w Z v L) : RowsAt w (fun k => Z k ∨ w.heap.size ≤ k) v L := by
  obtain ⟨vs, h1, h2⟩ := h.row
  refine ⟨⟨vs, h1, fun i hi => ?_⟩, fun k hk e => e.elim (h.off k hk) (fun e => by have := (h1.lt k hk).2; omega)⟩
  obtain ⟨h3, A, c, h4, h5⟩ := h2 i hi
  exact ⟨h3, A, c, h4, h5.shun⟩
theorem OwnsB.capLe {e : TypeId} {w : World} {base c : Nat} {A : Option Addr} {l : List Nat} (h : OwnsB e w base A c l) : c ≤ maxLen := by
  rcases h.row.2 with ⟨h0, h1⟩ | ⟨g, cap, cur, hv, _, _, hc, hm, _⟩
  · have : c = 0 := by injection h0
    rw [this]; exact Nat.zero_le _
  · have : c = cap := by injection hv
    rw [this]; exact hm
theorem DiskAt.rd_len {w : World} {Z : Nat → Prop} {d : Dk} {s : Sx.St} (h : DiskAt w Z d s) (i : Int) : (Sx.rdB s i).length ≤ 64 := by
  unfold Sx.rdB
  by_cases hi : 0 ≤ i ∧ i < s.n
  · rw [if_pos hi]
    obtain ⟨f, _, hf⟩ := h.map
    have h1 := hf i.toNat (by omega)
    obtain ⟨cur, _, _, hr⟩ := h.row
    have h2 := (hr i.toNat (by omega)).1
    cases hc : s.cache i.toNat with
    | none =>
      simp only
      split
      · simp
      · exact h2
    | some b =>
      simp only
      rw [hc] at h1
      cases hfi : f i.toNat with
      | none => rw [hfi] at h1; exact h1.elim
      | some v => rw [hfi] at h1; exact h1.1
  · rw [if_neg hi]; simp
/-- append of bytes, and where the row lies then -/
theorem wpList_append_bytesAt {P : Program} {w : World} {ops : Array Oper} {rest : List Oper} {o : Oper} {a : Act} {Q : Exit → Act → World → Prop} (hgd : o.guard = none) (s x : Operand) (t : TypeId)
    (ho : o.op = .call { callee := .builtin .append, args := #[s, x], argTypes := #[t, t] })
    (base : Nat) (e : TypeId) (i : TypeInfo) (ht : P.underlying t = some (.slice e)) (hi : P.info? e = some i) (hz : i.zero = some (.int .u8 0)) (hsize : i.size = 1) (hby : i.bytes = 1)
    (A : Option Addr) (c : Nat) (l : List Nat) (hs : a.eval s = .slice A l.length c) (hown : OwnsB e w base A c l)
    (B : Nat) (A' : Option Addr) (c' : Nat) (m : List Nat) (hx : a.eval x = .slice A' m.length c') (hnil : A' = none → c' = 0) (hr : IsBytes w B A' m)
    (hbytes : l.length + m.length ≤ 140737488355328) (hbase : base ≤ w.heap.size)
    (h : ∀ A2 c2 w', OwnsB e w' base A2 c2 (l ++ m) → w.grownBy w' (blk A) → (blk A2 = blk A ∨ blk A2 = some w.heap.size) → wpList P ops Q rest (a.put o.dst (.slice A2 (l.length + m.length) c2)) w') : wpList P ops Q (o :: rest) a w := by
  have hsm : ∀ y ∈ l ++ m, y < 256 := fun y hy => by
    rcases List.mem_append.1 hy with hy | hy
    · exact hown.small y hy
    · exact hr.small y hy
  rcases A' with _ | ad
  · obtain rfl := hr.of_none
    obtain rfl := hnil rfl
    refine wpList_append_own_none hgd s x t ho base e i 1 ht hi _ l.length (bytes l) hs hown.row hx ?_
    exact h A c w ⟨hsm, by simpa using hown.row⟩ (World.grownBy.refl w _) (.inl rfl)
  · refine wpList_append_own_at w hgd s x t ho base e i (.int .u8 0) 1 1 ht hi hz hsize hby rfl (by decide) _ l.length (bytes l) hs hown.row ad m.length c' (bytes m) hx (by rw [bytes_length]; omega) hr.news (bytes_oneCell m) (by unfold maxLen; omega) (by omega) hbase ?_
    intro v' w' h1 h2 _ h4
    obtain ⟨A2, c2, rfl⟩ := own_slice h1
    rw [bytes_append] at h1
    rw [ownBlock_slice, ownBlock_slice] at h4
    rw [ownBlock_slice] at h2
    exact h A2 c2 w' ⟨hsm, by rw [List.length_append]; exact h1⟩ h2 h4
end Go.Proofs.Ytdgijnolpjaheaa
