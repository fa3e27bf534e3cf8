/- The walks through what package frame puts: a number in four bytes, the checksum, the frame. -/
import Derived.Test.YtmaebemhephcmaaDoorRows
import Derived.Test.YtmaebemhephcmaaDoorSumWalks
import Derived.Test.YtmaebemhephcmaaDoorKitBytes
import Derived.Test.YtmaebemhephcmaaDoorGrown
import Derived.Test.YtmaebemhephcmaaDoorFrameMath
namespace Go.Proofs.YtmaebemhephcmaaDoor.Frame
open Go.RowKit

theorem sum_any (B : Nat) (A : Option Addr) (c : Nat) (l : List Nat) (n : Nat) (hn : l.length = n) (A' : Option Addr) (c' : Nat) (m : List Nat) (k : Nat) (hk : m.length = k) (hl : n ≤ maxLen) (hm : k ≤ maxLen) (w : World) (h : IsBytes w B A l) (B' : Nat) (h' : IsBytes w B' A' m) :
    Calls Tryd.prog 67 #[.slice A n c, .slice A' k c'] w fun e w' => e = .returned (.int .u32 (Fr.sum l m : Nat)) ∧ w = w' := by
  subst hn
  subst hk
  have hs := Crc.more_lt 0 l (by omega) h.small
  go_enter Tryd.func67, Tryd.ntmps67
  go_wp2_with fail
  refine (of_any B A c l hl _ h).mono ?_
  rintro e w' ⟨rfl, rfl⟩
  go_wp2_with fail
  refine (more_any _ hs B' A' c' m hm _ h').mono ?_
  rintro e w' ⟨rfl, rfl⟩
  go_wp2_with fail
  go_ret
  exact ⟨rfl, rfl⟩

/-- four bytes that the text makes of a number, in a block of their own -/
theorem four_new (v : Nat) (hv : v < 4294967296) (w : World) :
    IsBytes (w.alloc (.cells #[.int .u8 ((v : Int) / 16777216), .int .u8 ((v : Int) / 65536 % 256), .int .u8 ((v : Int) / 256 % 256), .int .u8 ((v : Int) % 256)] 5)) (w.heap.size + 1) (some ⟨w.heap.size, 0, none⟩) (Fr.be4 v) := by
  have e : (bytes (Fr.be4 v)).toArray = #[.int .u8 ((v : Int) / 16777216), .int .u8 ((v : Int) / 65536 % 256), .int .u8 ((v : Int) / 256 % 256), .int .u8 ((v : Int) % 256)] := by
    have h1 : ((v / 16777216 % 256 : Nat) : Int) = (v : Int) / 16777216 := by omega
    simp [bytes, Fr.be4]
    omega
  rw [← e]
  exact isBytes_new w (Fr.be4 v) (Fr.be4_lt v) _ (0, 0)
set_option maxRecDepth 100000 in
set_option maxHeartbeats 400000 in
theorem number_any (base : Nat) (A : Option Addr) (c : Nat) (l : List Nat) (n : Nat) (hn : l.length = n) (v : Nat) (hv : v < 4294967296) (hl : n ≤ 140737488355000) (w : World) (h : OwnsB 5 w base A c l) (hB : base ≤ w.heap.size) (L : List Nat) (hL : l ++ Fr.be4 v = L) :
    Calls Tryd.prog 66 #[.slice A n c, .int .u32 v] w fun e w' => ∃ A' c', e = .returned (.slice A' (n + 4) c') ∧ OwnsB 5 w' base A' c' L ∧ Below base w w' := by
  obtain ⟨i0, hi, hz0, hz1, hz2⟩ := info_parts info_u8
  have HF := hid (four_new v hv w)
  go_enter Tryd.func66, Tryd.ntmps66
  go_wp2_with (at_builtin; refine wpList_append_bytesN rfl _ _ 23 rfl base 5 i0 Tryd.underlying23 hi hz0 hz1 hz2 A c l n hn rfl (h.alloc _) (w.heap.size + 1) (some ⟨w.heap.size, 0, none⟩) 4 (Fr.be4 v) 4 rfl rfl (fun h => by cases h) HF.out L hL (by omega) (by simp; omega) ?_)
  intro A2 c2 w2 hown hbel
  have hb2 : Below base w w2 := ((Below.refl base w).alloc hB _).trans hbel
  clear hbel
  go_wp2
  go_ret
  exact ⟨A2, c2, rfl, hown, hb2⟩

/-- what Put tells: the frame, or nothing and ErrLong -/
def putOf (l : List Nat) : List Nat × Nat := if 65536 < l.length then ([], 2) else (Fr.frame l, 0)
set_option maxRecDepth 100000 in
set_option maxHeartbeats 400000 in
theorem put_long (A : Option Addr) (c : Nat) (n : Nat) (h : 65536 < n) (w : World) :
    Calls Tryd.prog 44 #[.slice A n c] w fun e w' => e = .returned (.tuple #[.slice none 0 0, .int .i64 2]) ∧ w = w' := by
  go_enter Tryd.func44, Tryd.ntmps44
  go_wp2
  go_ret2
  exact ⟨rfl, rfl⟩
set_option maxRecDepth 100000 in
set_option maxHeartbeats 400000 in
theorem put_any (B : Nat) (A : Option Addr) (c : Nat) (l : List Nat) (n : Nat) (hn : l.length = n) (hl : n ≤ 65536) (w : World) (h : IsBytes w B A l) (hB : B ≤ w.heap.size) (hnil : A = none → c = 0) :
    Calls Tryd.prog 44 #[.slice A n c] w fun e w' => ∃ A' c', e = .returned (.tuple #[.slice A' (8 + n) c', .int .i64 0]) ∧ OwnsB 5 w' w.heap.size A' c' (Fr.frame l) ∧ Below w.heap.size w w' := by
  obtain ⟨i0, hi, hz0, hz1, hz2⟩ := info_parts info_u8
  have hx : Fr.sum (Fr.be4 n) l < 4294967296 := Fr.sum_lt _ _ (Fr.be4_lt n) h.small
  have HX := hid hx
  have HF : Hid (Fr.be4 n ++ Fr.be4 (Fr.sum (Fr.be4 n) l) ++ l = Fr.frame l) := by show _ = _; subst hn; unfold Fr.frame; rw [List.append_assoc]
  clear hx
  go_enter Tryd.func44, Tryd.ntmps44
  go_wp2_with (at_make; refine wpList_make_own _ rfl _ _ 23 rfl w.heap.size 5 i0 (.int .u8 0) 1 Tryd.underlying23 hi hz0 hz1 .i64 .i64 (8 + (n : Int)) (8 + n) rfl rfl (by omega) ?c1 ?c2 (Nat.le_refl _) ?_)
  case c1 => rw [hz2]; omega
  case c2 => unfold maxLen; omega
  intro w1 hown hgrow
  have hrow : OwnsB 5 w1 w.heap.size (some ⟨w.heap.size, 0, none⟩) (8 + n) [] := ⟨by simp, hown⟩
  have hb1 : Below w.heap.size w w1 := (Below.refl _ _).grown hgrow (Nat.le_refl _) (fun g hg => by cases hg)
  clear hown hgrow
  go_wp2_with fail
  refine (number_any w.heap.size _ _ [] 0 rfl n (by omega) (by omega) _ hrow hb1.size (Fr.be4 n) (List.nil_append _)).mono ?_
  rintro e w2 ⟨A2, c2, rfl, ho2, hb2⟩
  have hb2' := hb1.trans hb2
  clear hrow hb1 hb2
  go_wp2_with fail
  refine (sum_any w2.heap.size A2 c2 (Fr.be4 n) 4 rfl A c l n hn (by unfold maxLen; omega) (by unfold maxLen; omega) _ ho2.reads w.heap.size ((h.more hB).below hb2')).mono ?_
  rintro e w3 ⟨rfl, rfl⟩
  go_wp2_with fail
  refine (number_any w.heap.size A2 c2 (Fr.be4 n) 4 rfl _ HX.out (by omega) _ ho2 hb2'.size _ rfl).mono ?_
  rintro e w3 ⟨A3, c3, rfl, ho3, hb3⟩
  have hb3' := hb2'.trans hb3
  clear ho2 hb2' hb3
  have hs3 : IsBytes w3 w.heap.size A l := (h.more hB).below hb3'
  go_wp2_with (at_builtin; refine wpList_append_bytesN rfl _ _ 23 rfl w.heap.size 5 i0 Tryd.underlying23 hi hz0 hz1 hz2 A3 c3 _ 8 rfl rfl ho3 w.heap.size A c l n hn rfl hnil hs3 _ HF.out (by omega) hb3'.size ?_)
  intro A4 c4 w4 hown4 hgrow
  have hb4 : Below w.heap.size w w4 := hb3'.trans hgrow
  clear hgrow ho3 hb3' hs3
  go_wp2
  go_ret2
  exact ⟨A4, c4, rfl, hown4, hb4⟩
end Go.Proofs.YtmaebemhephcmaaDoor.Frame
