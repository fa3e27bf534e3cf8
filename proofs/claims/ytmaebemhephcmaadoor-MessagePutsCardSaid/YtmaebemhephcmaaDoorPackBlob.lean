/- The walk through what package pack puts, bytes: each hands back new memory that holds the bytes handed in, and the encoding behind them. -/
import Derived.Test.YtmaebemhephcmaaDoorPackInt
import Derived.Test.YtmaebemhephcmaaDoorKitBytes
namespace Go.Proofs.YtmaebemhephcmaaDoor
open Go.RowKit

set_option maxHeartbeats 400000 in
theorem packBlob_any (B : Nat) (A : Option Addr) (c : Nat) (l : List Nat) (B' : Nat) (A' : Option Addr) (c' : Nat) (m : List Nat) (hl : l.length + m.length ≤ 140737488354000) (w : World) (h : IsBytes w B A l) (hB : B ≤ w.heap.size) (hn : A = none → c = 0)
    (h' : IsBytes w B' A' m) (hB' : B' ≤ w.heap.size) (hn' : A' = none → c' = 0) :
    Calls Tryd.prog 85 #[.slice A l.length c, .slice A' m.length c'] w fun e w' => ∃ A2 c2, e = .returned (.slice A2 (l.length + 8 + m.length) c2) ∧ OwnsB 5 w' w.heap.size A2 c2 (l ++ (Pk.enc m.length ++ m)) ∧ Below w.heap.size w w' := by
  obtain ⟨i0, hi, hz0, hz1, hz2⟩ := info_parts info_u8
  have hf := fun w' => fresh_any B A c l (8 + m.length) (by omega) w'
  rw [show (((8 + m.length : Nat) : Int)) = 8 + (m.length : Int) from by omega] at hf
  have HF := hid hf
  clear hf
  go_enter Tryd.func85, Tryd.ntmps85
  go_wp2_with fail
  refine (HF.out _ h hB hn).mono ?_
  rintro e w1 ⟨A1, c1, rfl, hown, hbel⟩
  go_wp2_with fail
  refine (put_any w.heap.size A1 c1 l (m.length : Int) (by unfold InInt; omega) (by omega) _ hown hbel.size).mono ?_
  rintro e w2 ⟨A3, c3, rfl, hown2, hbel2⟩
  have hb2 : Below w.heap.size w w2 := hbel.trans hbel2
  have hs : IsBytes w2 w.heap.size A' m := (h'.more hB').below hb2
  have hlen : (l ++ Pk.enc m.length).length = l.length + 8 := by rw [List.length_append, Pk.enc_length]
  have HL := hid hlen
  clear hbel hbel2 hown hlen
  go_wp2_with (at_builtin; refine wpList_append_bytesN rfl _ _ 23 rfl w.heap.size 5 i0 Tryd.underlying23 hi hz0 hz1 hz2 A3 c3 (l ++ Pk.enc m.length) (l.length + 8) HL.out rfl hown2 w.heap.size A' c' m m.length rfl rfl hn' hs (l ++ (Pk.enc m.length ++ m)) (List.append_assoc _ _ _) (by omega) hb2.size ?_)
  intro A4 c4 w3 hown3 hgrow
  have hb3 : Below w.heap.size w w3 := hb2.trans hgrow
  clear hgrow hb2 hs hown2
  go_wp2
  go_ret
  exact ⟨A4, c4, rfl, hown3, hb3⟩
end Go.Proofs.YtmaebemhephcmaaDoor
