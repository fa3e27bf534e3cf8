/- The walk through the reader of package pack that is made. -/
import Derived.Test.YtmaebemhephcmaaDoorReadInt
namespace Go.Proofs.YtmaebemhephcmaaDoor
open Go.RowKit

theorem OwnsB.capZ {e : TypeId} {w : World} {base c : Nat} {A : Option Addr} {l : List Nat} (h : OwnsB e w base A c l) : c ≤ maxLen ∧ (A = none → c = 0) := by
  rcases h.row.2 with ⟨h1, _⟩ | ⟨g, cap, cur, h1, _, _, _, h2, _⟩
  · injection h1 with h1 h2 h3
    exact ⟨by omega, fun _ => h3⟩
  · injection h1 with h3 h4 h5
    exact ⟨by omega, fun h6 => by rw [h3] at h6; cases h6⟩
set_option maxRecDepth 100000 in
set_option maxHeartbeats 400000 in
theorem sclone_any (B : Nat) (A : Option Addr) (c : Nat) (l : List Nat) (hl : l.length ≤ 140737488354000) (w : World) (h : IsBytes w B A l) (hB : B ≤ w.heap.size) (hn : A = none → c = 0) :
    Calls Tryd.prog 88 #[.slice A l.length c] w fun e w' => ∃ A' c', e = .returned (.slice A' l.length c') ∧ OwnsB 5 w' w.heap.size A' c' l ∧ Below w.heap.size w w' := by
  obtain ⟨i0, hi, hz0, hz1, hz2⟩ := info_parts info_u8
  have hq := fun (w : World) (a : Option Addr) (n c : Nat) => Lib.run_eql_slice_nil (P := Tryd.prog) w 23 5 a n c 0 0 Tryd.underlying23
  rcases A with _ | ad
  · obtain rfl := hn rfl
    obtain rfl := h.of_none
    go_enter Tryd.func88, Tryd.ntmps88
    go_wp2
    go_ret
    exact ⟨none, 0, rfl, OwnsB.nil _ _ _, Below.refl _ _⟩
  · have hbel : Below w.heap.size w (w.alloc (.cells #[] 5)) := (Below.refl _ _).alloc (Nat.le_refl _) _
    have hown : OwnsB 5 (w.alloc (.cells #[] 5)) w.heap.size (some ⟨w.heap.size, 0, none⟩) 0 [] := by
      refine ⟨by simp, by simp [bytes], .inr ⟨w.heap.size, 0, _, rfl, Nat.le_refl _, heap_alloc_new w _, Nat.zero_le _, by unfold maxLen; omega, by simp, by simp [bytes]⟩⟩
    have hs : IsBytes (w.alloc (.cells #[] 5)) w.heap.size (some ad) l := (h.more hB).below hbel
    have HB := hid hbel
    have hsz := hbel.size
    have HS := hid hsz
    clear hbel hsz
    go_enter Tryd.func88, Tryd.ntmps88
    go_wp2_with (at_builtin; refine wpList_append_bytesN rfl _ _ 23 rfl w.heap.size 5 i0 Tryd.underlying23 hi hz0 hz1 hz2 (some ⟨w.heap.size, 0, none⟩) 0 [] 0 rfl rfl hown w.heap.size (some ad) c l l.length rfl rfl hn hs l (List.nil_append _) (by omega) HS.out ?_)
    intro A3 c3 w2 hown2 hbel2
    have HB2 := hid (HB.out.trans hbel2)
    clear hown hs hbel2
    go_wp2
    go_ret
    exact ⟨A3, c3, ret_len (by simp), hown2, HB2.out⟩

/-- a reader that is made; it stays whatever is written into one block that was there ahead of it -/
def Fresh (w : World) (l : List Nat) (e : Ending) (w' : World) : Prop :=
  ∃ g, e = .returned (.pointer (some ⟨g, 0, none⟩)) ∧ w.heap.size ≤ g ∧ (∀ w2 row, w'.grownBy w2 row → (∀ k, row = some k → k < w.heap.size) → Rdr w2 g ⟨l, false⟩) ∧ Below w.heap.size w w'
set_option maxRecDepth 100000 in
set_option maxHeartbeats 400000 in
theorem read_keep (B : Nat) (A : Option Addr) (c : Nat) (l : List Nat) (hl : l.length ≤ 140737488354000) (w : World) (h : IsBytes w B A l) (hB : B ≤ w.heap.size) (hn : A = none → c = 0) :
    Calls Tryd.prog 73 #[.slice A l.length c] w (Fresh w l) := by
  have HC := hid (sclone_any B A c l hl w h hB hn)
  have hsm := h.small
  clear h hn
  go_enter Tryd.func73, Tryd.ntmps73
  go_wp2_with fail
  refine HC.out.mono ?_
  rintro e w1 ⟨A1, c1, rfl, hown, hbel⟩
  have hcap := hown.cap
  have hcap2 := hown.capZ
  have hm : l.length ≤ 9223372036854775807 := by have := hcap2.1; unfold maxLen at this; omega
  have hm2 : c1 ≤ 9223372036854775807 := by have := hcap2.1; unfold maxLen at this; omega
  have hsz := hbel.size
  have hblk := hown.blkLt
  clear HC
  have HR : Hid (∀ A2, (l = [] ∨ A2 = A1) → (A2 = none → l.length = 0) → ∀ w2 row, (w1.alloc (.cells #[.slice A2 l.length l.length, .bool false] 100)).grownBy w2 row → (∀ k, row = some k → k < w.heap.size) → Rdr w2 w1.heap.size ⟨l, false⟩) := by
    intro A2 hA hn2 w2 row hG hr
    have hr1 : some w1.heap.size ≠ row := fun e => by have := hr _ e.symm; omega
    refine ⟨hsm, fun h => (by cases h), A2, l.length, (hG.block w1.heap.size (by simp) hr1).trans (heap_alloc_new w1 _), ?_, Nat.le_refl _, by unfold maxLen; omega, hn2⟩
    rcases hA with rfl | rfl
    · exact IsBytes.nil
    · have h3 : OwnsB 5 w2 w.heap.size A2 c1 l := (hown.alloc _).grown hG hr
      refine ⟨h3.small, fun k hk => ?_⟩
      obtain ⟨b, off, e, _, hc⟩ := h3.reads.cells k hk
      exact ⟨b, off, e, (hblk b (by rw [e]; rfl)).2, hc⟩
  have HB : Hid (∀ o, Below w.heap.size w (w1.alloc o)) := fun o => hbel.alloc hsz o
  have hl0 := fun e => (hcap2.2 e)
  clear hbel hcap2 hown hblk
  rcases A1 with _ | ad
  · have hc0 : c1 = 0 := hl0 rfl
    obtain rfl := hc0
    obtain rfl : l = [] := List.eq_nil_of_length_eq_zero (by omega)
    clear hl0
    go_wp2
    go_ret
    exact ⟨_, rfl, hsz, HR.out none (by simp) (by simp), HB.out _⟩
  · clear hl0
    go_wp2
    go_ret
    exact ⟨_, rfl, hsz, HR.out (some ad) (.inr rfl) (fun h => by cases h), HB.out _⟩
theorem packRead_any (B : Nat) (A : Option Addr) (c : Nat) (l : List Nat) (hl : l.length ≤ 140737488354000) (w : World) (h : IsBytes w B A l) (hB : B ≤ w.heap.size) (hn : A = none → c = 0) :
    Calls Tryd.prog 73 #[.slice A l.length c] w fun e w' => ∃ g, e = .returned (.pointer (some ⟨g, 0, none⟩)) ∧ w.heap.size ≤ g ∧ Rdr w' g ⟨l, false⟩ ∧ Below w.heap.size w w' :=
  (read_keep B A c l hl w h hB hn).mono fun e w' ⟨g, he, hg, hR, hb⟩ => ⟨g, he, hg, hR w' none (grown_refl _ _) (fun k hk => by cases hk), hb⟩
end Go.Proofs.YtmaebemhephcmaaDoor
