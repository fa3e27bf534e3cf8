/- The walks through the reader of package pack: bytes; what is left. -/
import Derived.Test.YtmaebemhephcmaaDoorReadInt
namespace Go.Proofs.YtmaebemhephcmaaDoor
open Go.RowKit
set_option maxRecDepth 100000

set_option maxHeartbeats 400000 in
theorem left_rdr (g : Nat) (s : Pk.St) (w : World) (h : Rdr w g s) :
    Calls Tryd.prog 90 #[.pointer (some ⟨g, 0, none⟩)] w fun e w' => e = .returned (.int .i64 (s.rest.length : Nat)) ∧ w = w' := by
  obtain ⟨A, c, h1, h2, h3, h4, h5⟩ := h.at_
  have hc0 : w.cell? ⟨g, 0, none⟩ = some (.slice A s.rest.length c) := row_cell h1 0
  clear h h1 h2
  go_enter Tryd.func90, Tryd.ntmps90
  go_wp2
  go_ret
  exact ⟨rfl, rfl⟩
/-- what End tells: 0 OK, 2 ErrLong, 4 ErrForm -/
def endOf (s : Pk.St) : Int := if s.bad = true then 4 else if 0 < s.rest.length then 2 else 0
set_option maxHeartbeats 400000 in
theorem end_rdr (g : Nat) (s : Pk.St) (w : World) (h : Rdr w g s) :
    Calls Tryd.prog 76 #[.pointer (some ⟨g, 0, none⟩)] w fun e w' => e = .returned (.int .i64 (endOf s)) ∧ w = w' := by
  obtain ⟨A, c, h1, h2, h3, h4, h5⟩ := h.at_
  have hc0 : w.cell? ⟨g, 0, none⟩ = some (.slice A s.rest.length c) := row_cell h1 0
  have hc1 : w.cell? ⟨g, 1, none⟩ = some (.bool s.bad) := row_cell h1 1
  clear h h1 h2
  obtain ⟨rest, bad⟩ := s
  dsimp only at *
  by_cases hl : 0 < rest.length
  · cases bad
    all_goals
      have HE := hid hl
      go_enter Tryd.func76, Tryd.ntmps76
      go_wp2
      go_ret
      exact ⟨ret_int (by simp [endOf, HE.out]), rfl⟩
  · obtain rfl : rest = [] := List.eq_nil_of_length_eq_zero (by omega)
    clear hl
    cases bad
    all_goals
      go_enter Tryd.func76, Tryd.ntmps76
      go_wp2
      go_ret
      exact ⟨ret_int (by simp [endOf]), rfl⟩

set_option maxHeartbeats 400000 in
theorem blob_rdr (g : Nat) (s : Pk.St) (w : World) (h : Rdr w g s) (hl : s.rest.length ≤ 140737488354000) :
    Calls Tryd.prog 91 #[.pointer (some ⟨g, 0, none⟩)] w fun e w' => ∃ A' c', e = .returned (.slice A' (Pk.rdBlob s).1.length c') ∧ OwnsB 5 w' w.heap.size A' c' (Pk.rdBlob s).1 ∧ Rdr w' g (Pk.rdBlob s).2 ∧ w.grownBy w' (some g) := by
  obtain ⟨i0, hi, hz0, hz1, hz2⟩ := info_parts info_u8
  have HI := hid (int_rdr g s w h)
  have hin := Pk.rdInt_in s h.small
  have hsh := Pk.rdInt_short s
  have hgl := h.lt
  have HE : Hid (Pk.taken (Pk.rdInt s).2 (Pk.rdInt s).1 = Pk.rdBlob s) := by
    show _ = _
    exact Pk.taken_rdInt s h.ok
  clear h
  have hlen : (Pk.rdBlob s).1.length ≤ s.rest.length := (Pk.rdBlob_short s).2
  go_enter Tryd.func91, Tryd.ntmps91
  go_wp2_with fail
  refine HI.out.mono ?_
  rintro e w1 ⟨rfl, hR, hG⟩
  have C := take_rdr g _ _ hin w1 hR
  rw [HE.out] at C
  have HC := hid C
  clear C hR
  go_wp2_with fail
  refine HC.out.mono ?_
  rintro e w2 ⟨A1, c1, rfl, hb, hn, hR, hG2⟩
  have hG3 : w.grownBy w2 (some g) := hG.trans hG2
  have hsz := hG3.size
  clear hG hG2
  go_wp2_with (at_builtin; refine wpList_append_bytesN rfl _ _ 23 rfl w.heap.size 5 i0 Tryd.underlying23 hi hz0 hz1 hz2 none 0 [] 0 rfl rfl (OwnsB.nil _ _ _) g A1 c1 (Pk.rdBlob s).1 (Pk.rdBlob s).1.length rfl rfl hn hb _ (List.nil_append _) (by omega) hsz ?_)
  intro A3 c3 w3 hown hbel
  have hR3 : Rdr w3 g (Pk.rdBlob s).2 := hR.below (hbel.mono (by omega))
  have hG4 : w.grownBy w3 (some g) := grown_then hG3 hbel
  clear hR hG3 hb hbel
  go_wp2_with fail
  go_ret
  exact ⟨A3, c3, ret_len (by simp), hown, hR3, hG4⟩
end Go.Proofs.YtmaebemhephcmaaDoor
