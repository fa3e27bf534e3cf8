/- The walk through what writes sectors and flushes them. -/
import Derived.Test.YtdgijnolpjaheaaCkB
import Derived.Test.YtdgijnolpjaheaaDiskE
import Derived.Test.YtdgijnolpjaheaaDiskF
namespace Go.Proofs.Ytdgijnolpjaheaa
open Go.RowKit

/-- bytes' slices that lie from A on, whatever blocks of S turn -/
def RowsFor (w : World) (S : Nat → Prop) (A : Option Addr) (T : List (List Nat)) : Prop :=
  ∃ (As : Nat → Option Addr) (cs : Nat → Nat), ∀ w', Turned S w w' → ∀ i (h : i < T.length), ∃ b off, A = some ⟨b, off, none⟩ ∧ w'.cell? ⟨b, off + i, none⟩ = some (.slice (As i) T[i].length (cs i)) ∧ (As i = none → cs i = 0) ∧ IsBytes w' w'.heap.size (As i) T[i]
namespace RowsFor
variable {w w' : World} {S : Nat → Prop} {A : Option Addr} {T : List (List Nat)}
theorem step (h : RowsFor w S A T) (ht : Turned S w w') : RowsFor w' S A T := by
  obtain ⟨As, cs, h1⟩ := h
  exact ⟨As, cs, fun w2 h2 => h1 w2 (ht.trans h2)⟩
theorem nil : RowsFor w S A [] := ⟨fun _ => none, fun _ => 0, fun _ _ i h => by simp at h⟩
end RowsFor
namespace C
set_option maxRecDepth 100000 in
set_option maxHeartbeats 1000000 in
theorem writes_any (Z : Nat → Prop) (d : Dk) (s : Sx.St) (f : Nat) (hf : f ≤ 100000) (A : Option Addr) (c m : Nat) (T : List (List Nat)) (hm : T.length = m) (hm2 : m ≤ 100000) (w : World) (hZ : ∀ k, Z k → k < w.heap.size) (h : DiskAt w Z d s) (hT : RowsFor w d.has A T) :
    Calls Try.prog 34 #[.pointer (some ⟨d.g, 0, none⟩), .int .i64 (f : Int), .slice A m c] w fun e' w' => e' = .returned (.int .i64 (Jo.run s f T).1) ∧ Hid (DiskAt w' Z d (Jo.run s f T).2 ∧ Turned d.has w w') := by
  obtain ⟨As, cs, hrow⟩ := hT
  have HX := hid (And.intro hm (And.intro hZ (And.intro h hrow)))
  clear hm hZ h hrow
  go_enter Try.func34, Try.ntmps34
  go_wp2_with fail
  go_loopw [12] (fun i wr => ∃ k : Nat, k ≤ m ∧ i = .int .i64 (k : Int) ∧ Hid (Jo.okL s f (T.take k) ∧ DiskAt wr Z d (Jo.wrL s f (T.take k)) ∧ Turned d.has w wr)) (fun i _ => (m - RowKit.intOf i).toNat)
  case atStart => exact ⟨0, by omega, rfl, hid ⟨trivial, HX.out.2.2.1, Turned.refl _ _⟩⟩
  case round =>
    obtain ⟨k, hk, rfl, HI⟩ := hrel
    by_cases hlt : k < m
    · have hk0 : (k : Int) < (m : Int) := by omega
      have hkT : k < T.length := by rw [HX.out.1]; exact hlt
      obtain ⟨b, off, rfl, hcell, _, _⟩ := HX.out.2.2.2 wr HI.out.2.2 k hkT
      obtain ⟨t, ht⟩ : ∃ t, t = Jo.wrL s f (T.take k) := ⟨_, rfl⟩
      have hlen : (T.take k).length = k := by rw [List.length_take]; omega
      have HW := hid (write_any Z d t ((f : Int) + k) (As k) (cs k) T[k] _ rfl (fun hn => ((HX.out.2.2.2 wr HI.out.2.2 k hkT).elim fun _ h => h.elim fun _ h => h.2.2.1 hn)) wr (fun j hj => Nat.lt_of_lt_of_le (HX.out.2.1 j hj) HI.out.2.2.size) (by rw [ht]; exact HI.out.2.1)
        (fun w' ht' => (HX.out.2.2.2 w' (HI.out.2.2.trans ht') k hkT).elim fun _ h => h.elim fun _ h => h.2.2.2))
      obtain ⟨E, hE⟩ : ∃ E, E = Sx.wrE t ((f : Int) + k) T[k] := ⟨_, rfl⟩
      rw [← hE] at HW
      have htk : T.take (k + 1) = T.take k ++ [T[k]] := List.take_succ_eq_append_getElem hkT
      have HS : Hid (Jo.wrL s f (T.take (k + 1)) = Sx.wrS t ((f : Int) + k) T[k] ∧ (E = 0 → Jo.okL s f (T.take (k + 1))) ∧ (E ≠ 0 → Jo.run s f T = (E, Sx.wrS t ((f : Int) + k) T[k]))) := by
        refine hid ⟨?_, fun h0 => ?_, fun h0 => ?_⟩
        · rw [htk, Jo.wrL_snoc, hlen, ← ht, Int.natCast_add]
        · rw [htk, Jo.okL_snoc]
          refine ⟨HI.out.1, ?_⟩
          rw [← ht, hlen, Int.natCast_add, ← hE]; exact h0
        · have hs := Jo.run_stop (T.take k) T[k] (T.drop (k + 1)) s f HI.out.1 (by rw [← ht, hlen, Int.natCast_add, ← hE]; exact h0)
          rw [← ht, hlen, Int.natCast_add, ← hE, Jo.wrL_snoc, ← ht, hlen, Int.natCast_add, ← List.drop_eq_getElem_cons hkT, List.take_append_drop] at hs
          exact hs
      clear htk hlen hE ht
      by_cases h0 : E = 0
      · subst h0
        have HK := hid (And.intro HS.out.1 (HS.out.2.1 rfl))
        clear HS
        go_wp2_with fail
        refine HW.out.mono ?_
        rintro e1 w1 ⟨rfl, hd1, ht1⟩
        have H1 : Hid (Jo.okL s f (T.take (k + 1)) ∧ DiskAt w1 Z d (Jo.wrL s f (T.take (k + 1))) ∧ Turned d.has w w1) := hid ⟨HK.out.2, by rw [HK.out.1]; exact hd1, HI.out.2.2.trans ht1⟩
        clear hd1 ht1
        go_wp2
        go_roundw
        case rel => exact ⟨k + 1, by omega, by go_num, H1⟩
        case measure => simp [RowKit.intOf]; omega
      · have hEb : (E != 0) = true := by rw [bne_iff_ne]; exact h0
        have HR := hid (HS.out.2.2 h0)
        clear h0
        go_wp2_with fail
        refine HW.out.mono ?_
        rintro e1 w1 ⟨rfl, hd1, ht1⟩
        have H1 := hid (And.intro hd1 (HI.out.2.2.trans ht1))
        clear hd1 ht1
        go_wp2
        go_ret
        rw [HR.out]
        exact ⟨rfl, H1⟩
    · have hk0 : ¬ (k : Int) < (m : Int) := by omega
      obtain rfl : k = m := by omega
      have hall : T.take k = T := List.take_of_length_le (by rw [HX.out.1]; exact Nat.le_refl _)
      have HF := hid (flush_any Z d (Jo.wrL s f T) wr (by have := HI.out.2.1; rwa [hall] at this))
      have HR : Hid (Jo.run s f T = (Sx.spE (Jo.wrL s f T), Sx.flS (Jo.wrL s f T))) := hid (Jo.run_done T s f (by have := HI.out.1; rwa [hall] at this))
      clear hall
      go_wp2_with fail
      refine HF.out.mono ?_
      rintro e1 w1 ⟨rfl, hd1, ht1⟩
      have H1 := hid (And.intro hd1 (HI.out.2.2.trans ht1))
      clear hd1 ht1
      go_wp2
      go_ret
      rw [HR.out]
      exact ⟨rfl, H1⟩
end C
end Go.Proofs.Ytdgijnolpjaheaa
