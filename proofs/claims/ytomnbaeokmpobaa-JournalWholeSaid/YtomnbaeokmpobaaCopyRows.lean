/- The walk through CopyRows. -/
import Derived.Test.YtomnbaeokmpobaaRowsB
namespace Go.Proofs.Ytomnbaeokmpobaa
open Go.RowKit

theorem row_put (w : World) (v : Value) (t : TypeId) : (w.alloc (.cells #[v] t)).cell? ⟨w.heap.size, 0, none⟩ = some v := by
  have h := heap_alloc_new w (.cells #[v] t)
  simp only [World.cell?, h]
  rfl
set_option maxRecDepth 100000 in
set_option maxHeartbeats 1000000 in
theorem copy_rows (A : Option Addr) (c : Nat) (L : List (List Nat)) (n : Nat) (hn : L.length = n) (hn2 : n ≤ 10000) (w : World) (h : IsRows w A L) (B0 : Nat) (hB0 : B0 ≤ w.heap.size) :
    Calls Try.prog 19 #[.slice A n c] w fun e w' => Hid (∃ A' c', e = .returned (.slice A' n c') ∧ RowsB w' B0 w.heap.size (.slice A' n c') L ∧ Below w.heap.size w w') := by
  subst hn
  have HH := hid h
  clear h
  go_enter Try.func19, Try.ntmps19
  go_wp2_with fail
  go_loopw [3, 4] (fun vR i wr => ∃ (k : Nat) (AR : Option Addr) (cR : Nat), k ≤ L.length ∧ i = .int .i64 (k : Int) ∧ vR = .slice AR k cR ∧ Hid (RowsB wr B0 w.heap.size (.slice AR k cR) (L.take k) ∧ Below w.heap.size w wr)) (fun _ i _ => L.length - (RowKit.intOf i).toNat)
  case atStart => exact ⟨0, none, 0, by omega, rfl, rfl, hid ⟨RowsB.nil _ _ _, Below.refl _ _⟩⟩
  case round =>
    obtain ⟨k, AR, cR, hk, rfl, rfl, HI⟩ := hrel
    by_cases hlt : k < L.length
    · have hlt0 : (k : Int) < (L.length : Int) := by omega
      have hr := HH.out.below HI.out.2
      obtain ⟨b, off, rfl, hc⟩ := hr k hlt
      obtain ⟨hb1, A1, c1, h1, h2⟩ := hc k hlt
      obtain ⟨pl, hpl⟩ : ∃ pl, pl = L[k] := ⟨_, rfl⟩
      rw [← hpl] at hb1 h1 h2
      have HC := hid (copy_any wr.heap.size A1 c1 pl (by omega) wr h2 (Nat.le_refl _))
      have hck : wr.cell? ⟨b, off + k, none⟩ = some (.slice A1 pl.length c1) := h1
      have HP := hid (And.intro hb1 hpl)
      clear hr hc h1 h2 hb1 hpl
      go_wp2_with fail
      refine HC.out.mono ?_
      rintro e w2 ⟨A2, c2, rfl, hown, hb2⟩
      have HQ := hid (And.intro (HI.out.1.below hb2 (by have := HI.out.2.size; omega)) (And.intro (HI.out.2.trans (hb2.mono HI.out.2.size)) (OwnsZ.of hown)))
      have hwr := HI.out.2.size
      clear hown hb2 HC
      have HE : Hid (Elm (w2.alloc (.cells #[.slice A2 pl.length c2] 43)) B0 w.heap.size A2 c2 pl) := hid ⟨HQ.out.2.2.own.none_, HP.out.1, .inr ((HQ.out.2.2.mono (fun j hj => by omega)).keep (Turned.ofBelow _ ((Below.refl _ _).alloc (Nat.le_refl _) _)))⟩
      go_wp2_with (at_builtin; refine wpList_append_rowB rfl _ _ rfl B0 w.heap.size ⟨hB0, by have := HQ.out.2.1.size; simp; omega⟩ _ (L.take k) rfl (HQ.out.1.below ((Below.refl _ _).alloc (Nat.le_refl _) _) (by have := HQ.out.2.1.size; omega)) ⟨w2.heap.size, 0, none⟩ 1 A2 c2 pl _ rfl rfl (row_put _ _ _) HE.out _ rfl k (by rw [List.length_take]; omega) (by omega) ?_; intro A7 c7 w7 hR7 hb7)
      have HR7 : Hid (RowsB w7 B0 w.heap.size (.slice A7 (k + 1) c7) (L.take (k + 1)) ∧ Below w.heap.size w w7) := hid ⟨by rw [List.take_succ_eq_append_getElem hlt, ← HP.out.2]; exact hR7, (HQ.out.2.1.alloc HQ.out.2.1.size _).trans (hb7.below (by have := HQ.out.2.1.size; simp; omega))⟩
      clear hR7 hb7
      go_wp2
      go_roundw
      case rel => exact ⟨k + 1, A7, c7, by omega, by go_num, rfl, HR7⟩
      case measure => simp [RowKit.intOf]; omega
    · have hlt0 : ¬ (k : Int) < (L.length : Int) := by omega
      obtain rfl : k = L.length := by omega
      go_wp2_with fail
      go_ret
      have := HI.out
      rw [List.take_length] at this
      exact ⟨AR, cR, rfl, this.1, this.2⟩
end Go.Proofs.Ytomnbaeokmpobaa
