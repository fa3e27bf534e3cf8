/- The walks through the reader of package pack: a number, bytes, a list; what is left. -/
import Derived.Test.YtdmghnfnmgkigaaReader
namespace Go.Proofs.Ytdmghnfnmgkigaa
open Go.RowKit

theorem or_add (v c : Nat) (hc : c < 256) : v * 256 ||| c = v * 256 + c := by
  rw [show v * 256 = 2 ^ 8 * v from by omega, ← Nat.two_pow_add_eq_or_of_lt hc]
theorem ret_int {k : IntKind} {a b : Int} (h : a = b) : Ending.returned (.int k a) = .returned (.int k b) := by rw [h]
theorem wrap64_sgn (n : Nat) (h : n < 18446744073709551616) : wrap64 (n : Int) = Pk.sgn n := by
  unfold wrap64 Pk.sgn
  split <;> omega
theorem wrap_sgn (n : Nat) (h : n < 18446744073709551616) : IntKind.i64.wrap (n : Int) = Pk.sgn n := by
  rw [IntKind.wrap_i64]
  unfold Pk.sgn
  split <;> omega
theorem num_take_lt (l : List Nat) (k : Nat) (hl : l.length ≤ 8) (hk : k < l.length) (h : ∀ x ∈ l, x < 256) : Pk.num (l.take k) < 72057594037927936 := by
  have h1 := Pk.num_lt (l.take k) (fun x hx => h x (List.mem_of_mem_take hx))
  have h2 : (l.take k).length ≤ 7 := by rw [List.length_take]; omega
  have h3 : 256 ^ (l.take k).length ≤ 256 ^ 7 := Nat.pow_le_pow_right (by decide) h2
  have h4 : 256 ^ 7 = 72057594037927936 := by decide
  omega
theorem num_all_lt (l : List Nat) (hl : l.length ≤ 8) (h : ∀ x ∈ l, x < 256) : Pk.num l < 18446744073709551616 := by
  have := Pk.take_num_lt l h
  rwa [List.take_of_length_le hl] at this

set_option maxHeartbeats 400000 in
theorem number_any (B : Nat) (A : Option Addr) (c : Nat) (l : List Nat) (hl : l.length ≤ 8) (w : World) (h : IsBytes w B A l) :
    Calls Try.prog 47 #[.slice A l.length c] w fun e w' => e = .returned (.int .i64 (Pk.sgn (Pk.num l))) ∧ w = w' := by
  go_enter Try.func47, Try.ntmps47
  go_wp2
  go_loop [3, 8] (fun v i => ∃ k n : Nat, k ≤ l.length ∧ i = .int .i64 k ∧ v = .int .u64 (n : Int) ∧ n < 18446744073709551616 ∧ Hid (n = Pk.num (l.take k))) (fun _ i => l.length - (intOf i).toNat)
  case atStart => exact ⟨0, 0, by omega, rfl, rfl, by omega, hid rfl⟩
  case round =>
    obtain ⟨k, n, hk, rfl, rfl, hn, hs⟩ := hrel
    by_cases hlt : k < l.length
    · obtain ⟨b, off, rfl, _, hc⟩ := h.cells k hlt
      have hck := hc k hlt
      have hb8 := h.small l[k] (List.getElem_mem _)
      have hn7 : n < 72057594037927936 := by rw [hs.out]; exact num_take_lt l k hl hlt h.small
      have HO : Hid (bits .or .u64 ((n : Int) * 256) (l[k] : Nat) = ((n * 256 + l[k] : Nat) : Int)) := by
        show _ = _
        rw [show (n : Int) * 256 = ((n * 256 : Nat) : Int) from by omega, u64_or_nat _ _ (by omega) (by omega), or_add _ _ hb8]
      clear hc
      go_wp2
      go_round
      case rel => exact ⟨k + 1, n * 256 + l[k], by omega, by go_num, by rw [HO.out], by omega, by
        show _ = _
        rw [List.take_succ_eq_append_getElem hlt, Pk.num_snoc, ← hs.out]⟩
      case measure => simp [intOf] <;> omega
    · go_wp2
      go_ret
      obtain rfl : k = l.length := by omega
      exact ⟨ret_int (by rw [wrap64_sgn n hn, hs.out, List.take_length]), rfl⟩

set_option maxHeartbeats 400000 in
theorem int_rdr (g : Nat) (s : Pk.St) (w : World) (h : Rdr w g s) :
    Calls Try.prog 34 #[.pointer (some ⟨g, 0, none⟩)] w fun e w' => e = .returned (.int .i64 (Pk.rdInt s).1) ∧ Rdr w' g (Pk.rdInt s).2 ∧ w.grownBy w' (some g) := by
  have HT := hid (take_rdr g s 8 (by unfold InInt; omega) w h)
  have h8 : (Pk.taken s 8).1.length ≤ 8 := by
    unfold Pk.taken
    split
    · simp
    · exact List.length_take_le _ _
  clear h
  go_enter Try.func34, Try.ntmps34
  go_wp2_with fail
  refine HT.out.mono ?_
  rintro e w1 ⟨A1, c1, rfl, hb, _, hR, hG⟩
  go_wp2_with fail
  refine (number_any g A1 c1 _ h8 _ hb).mono ?_
  rintro e w2 ⟨rfl, rfl⟩
  go_wp2_with fail
  go_ret
  exact ⟨ret_int (Pk.rdInt_num s).symm, by rw [Pk.rdInt_st]; exact hR, hG⟩

set_option maxHeartbeats 400000 in
theorem left_rdr (g : Nat) (s : Pk.St) (w : World) (h : Rdr w g s) :
    Calls Try.prog 25 #[.pointer (some ⟨g, 0, none⟩)] w fun e w' => e = .returned (.int .i64 (s.rest.length : Nat)) ∧ w = w' := by
  obtain ⟨A, c, h1, h2, h3, h4, h5⟩ := h.at_
  have hc0 : w.cell? ⟨g, 0, none⟩ = some (.slice A s.rest.length c) := row_cell h1 0
  clear h h1 h2
  go_enter Try.func25, Try.ntmps25
  go_wp2
  go_ret
  exact ⟨rfl, rfl⟩
set_option maxHeartbeats 400000 in
theorem bad_rdr (g : Nat) (s : Pk.St) (w : World) (h : Rdr w g s) :
    Calls Try.prog 27 #[.pointer (some ⟨g, 0, none⟩)] w fun e w' => e = .returned (.bool s.bad) ∧ w = w' := by
  obtain ⟨A, c, h1, h2, h3, h4, h5⟩ := h.at_
  have hc1 : w.cell? ⟨g, 1, none⟩ = some (.bool s.bad) := row_cell h1 1
  clear h h1 h2
  go_enter Try.func27, Try.ntmps27
  go_wp2
  go_ret
  exact ⟨rfl, rfl⟩
/-- what End tells: 0 OK, 2 ErrLong, 4 ErrForm -/
def endOf (s : Pk.St) : Int := if s.bad = true then 4 else if 0 < s.rest.length then 2 else 0
set_option maxHeartbeats 400000 in
theorem end_rdr (g : Nat) (s : Pk.St) (w : World) (h : Rdr w g s) :
    Calls Try.prog 28 #[.pointer (some ⟨g, 0, none⟩)] w fun e w' => e = .returned (.int .i64 (endOf s)) ∧ w = w' := by
  obtain ⟨A, c, h1, h2, h3, h4, h5⟩ := h.at_
  have hc0 : w.cell? ⟨g, 0, none⟩ = some (.slice A s.rest.length c) := row_cell h1 0
  have hc1 : w.cell? ⟨g, 1, none⟩ = some (.bool s.bad) := row_cell h1 1
  clear h h1 h2
  obtain ⟨rest, bad⟩ := s
  dsimp only at *
  by_cases hl : 0 < rest.length
  · cases bad
    all_goals
      have HE := hid hl
      go_enter Try.func28, Try.ntmps28
      go_wp2
      go_ret
      exact ⟨ret_int (by simp [endOf, HE.out]), rfl⟩
  · obtain rfl : rest = [] := List.eq_nil_of_length_eq_zero (by omega)
    clear hl
    cases bad
    all_goals
      go_enter Try.func28, Try.ntmps28
      go_wp2
      go_ret
      exact ⟨ret_int (by simp [endOf]), rfl⟩

set_option maxHeartbeats 400000 in
theorem blob_rdr (g : Nat) (s : Pk.St) (w : World) (h : Rdr w g s) (hl : s.rest.length ≤ 140737488354000) :
    Calls Try.prog 37 #[.pointer (some ⟨g, 0, none⟩)] w fun e w' => ∃ A' c', e = .returned (.slice A' (Pk.rdBlob s).1.length c') ∧ OwnsB 5 w' w.heap.size A' c' (Pk.rdBlob s).1 ∧ Rdr w' g (Pk.rdBlob s).2 ∧ w.grownBy w' (some g) := by
  obtain ⟨i0, hi, hz0, hz1, hz2⟩ := info_parts info_u8
  have HI := hid (int_rdr g s w h)
  have hin := Pk.rdInt_in s h.small
  have hsh := Pk.rdInt_short s
  have hgl := h.lt
  have HE : Hid (Pk.taken (Pk.rdInt s).2 (Pk.rdInt s).1 = Pk.rdBlob s) := by
    show _ = _
    exact Pk.taken_rdInt s h.ok
  clear h
  have hlen : (Pk.rdBlob s).1.length ≤ s.rest.length := (Pk.rdBlob_short s).2
  go_enter Try.func37, Try.ntmps37
  go_wp2_with fail
  refine HI.out.mono ?_
  rintro e w1 ⟨rfl, hR, hG⟩
  have C := take_rdr g _ _ hin w1 hR
  rw [HE.out] at C
  have HC := hid C
  clear C hR
  go_wp2_with fail
  refine HC.out.mono ?_
  rintro e w2 ⟨A1, c1, rfl, hb, hn, hR, hG2⟩
  have hG3 : w.grownBy w2 (some g) := hG.trans hG2
  have hsz := hG3.size
  clear hG hG2
  go_wp2_with (at_builtin; refine wpList_append_bytesN rfl _ _ 22 rfl w.heap.size 5 i0 Try.underlying22 hi hz0 hz1 hz2 none 0 [] 0 rfl rfl (OwnsB.nil _ _ _) g A1 c1 (Pk.rdBlob s).1 (Pk.rdBlob s).1.length rfl rfl hn hb _ (List.nil_append _) (by omega) hsz ?_)
  intro A3 c3 w3 hown hbel
  have hR3 : Rdr w3 g (Pk.rdBlob s).2 := hR.below (hbel.mono (by omega))
  have hG4 : w.grownBy w3 (some g) := grown_then hG3 hbel
  clear hR hG3 hb hbel
  go_wp2_with fail
  go_ret
  exact ⟨A3, c3, ret_len (by simp), hown, hR3, hG4⟩
end Go.Proofs.Ytdmghnfnmgkigaa
