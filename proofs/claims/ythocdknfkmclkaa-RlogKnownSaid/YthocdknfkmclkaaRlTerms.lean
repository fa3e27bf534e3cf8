/- The walk through the function that makes entries of terms. -/
import Derived.Test.YthocdknfkmclkaaEnts
import Derived.Test.YthocdknfkmclkaaInts
namespace Go.Proofs.Ythocdknfkmclkaa
open Go.RowKit

/-- entries of these terms -/
def tms (l : List Int) : List Rl.En := l.mapIdx (fun i t => ⟨t, 1, [i % 256]⟩)
theorem tms_len (l : List Int) : (tms l).length = l.length := by simp [tms]
theorem tms_take (l : List Int) (k : Nat) (hk : k < l.length) : (tms l).take (k + 1) = (tms l).take k ++ [⟨l[k], 1, [k % 256]⟩] := by
  rw [List.take_succ_eq_append_getElem (by rw [tms_len]; exact hk)]
  simp [tms]
theorem byte_ownE (w : World) (x : Nat) (hx : x < 256) : OwnsB 5 (w.alloc (.cells (bytes [x]).toArray 5)) w.heap.size (some ⟨w.heap.size, 0, none⟩) 1 [x] :=
  ⟨by simpa using hx, World.ownsRow_lit (base := w.heap.size) (e := 5) (size := 1) w (bytes [x]).toArray 1 (Nat.le_refl _) (by unfold maxLen; omega) (by simp [bytes])⟩

set_option maxHeartbeats 800000 in
set_option maxRecDepth 100000 in
theorem terms_any (B : Nat) (A : Option Addr) (c n : Nat) (l : List Int) (hn : l.length = n) (hl : n ≤ 1000) (w : World) (h : IsInts w B A l) (hB : B ≤ w.heap.size) :
    Calls Try.prog 29 #[.slice A n c] w fun e w' => ∃ A' c', e = .returned (.slice A' n c') ∧ OwnE w' w.heap.size w'.heap.size A' c' (tms l) ∧ Below w.heap.size w w' := by
  subst hn
  have HH := hid (h.more hB)
  have hsm := hid h.small
  have H1 : Hid (OwnE w w.heap.size w.heap.size none 0 ((tms l).take 0) ∧ Below w.heap.size w w) := hid ⟨OwnE.nil _ _ _, Below.refl _ _⟩
  clear h
  go_enter Try.func29, Try.ntmps29
  go_wp2_with fail
  go_loopw [3, 4] (fun v i wr => ∃ (k : Nat) (A1 : Option Addr) (c1 : Nat), k ≤ l.length ∧ v = .slice A1 k c1 ∧ i = .int .i64 k ∧ Hid (OwnE wr w.heap.size wr.heap.size A1 c1 ((tms l).take k) ∧ Below w.heap.size w wr)) (fun _ i _ => l.length - (RowKit.intOf i).toNat)
  case atStart => exact ⟨0, _, _, by omega, rfl, rfl, H1⟩
  case round =>
    clear H1
    obtain ⟨k, A1, c1, hk, rfl, rfl, hS⟩ := hrel
    by_cases hlt : k < l.length
    · obtain ⟨b, off, rfl, hbw, hc⟩ := (HH.out.below hS.out.2).cells k hlt
      have hck := hc k hlt
      have hk0 : (k : Int) < (l.length : Int) := by omega
      have hx := hsm.out l[k] (List.getElem_mem hlt)
      have htk := tms_take l k hlt
      obtain ⟨x, hxe⟩ : ∃ x, x = l[k] := ⟨_, rfl⟩
      rw [← hxe] at hck hx htk
      obtain ⟨y, hy⟩ : ∃ y, y = k % 256 := ⟨_, rfl⟩
      have hw8 : IntKind.u8.wrap (k : Int) = (y : Int) := by rw [IntKind.wrap_u8]; omega
      have hy2 : y < 256 := by omega
      rw [← hy] at htk
      have hl5 : k + 1 ≤ 100000 := by omega
      have HLK : Hid (((tms l).take k).length = k) := hid (by rw [List.length_take, tms_len]; omega)
      have HX := hid (And.intro hx htk)
      have hb1 : Below wr.heap.size wr (wr.alloc (.cells #[.int .u8 (y : Int)] 5)) := (Below.refl _ wr).alloc (Nat.le_refl _) _
      have ho1 : OwnsB 5 (wr.alloc (.cells #[.int .u8 (y : Int)] 5)) wr.heap.size (some ⟨wr.heap.size, 0, none⟩) 1 [y] := byte_ownE wr y hy2
      have HA := hid (And.intro (hS.out.1.below (hb1.alloc hb1.size (.cells #[.int .i64 x, .int .i64 1, .slice (some ⟨wr.heap.size, 0, none⟩) 1 1] 47))) (ho1.below ((Below.refl _ _).alloc (Nat.le_refl _) (.cells #[.int .i64 x, .int .i64 1, .slice (some ⟨wr.heap.size, 0, none⟩) 1 1] 47))))
      have HB := hid (hb1.alloc hb1.size (.cells #[.int .i64 x, .int .i64 1, .slice (some ⟨wr.heap.size, 0, none⟩) 1 1] 47))
      clear hc hx htk hxe hy hb1 ho1
      go_wp2_with (at_builtin; refine wpList_append_ent rfl _ _ rfl HA.out.1 hS.out.2.size ?hN k HLK.out rfl ⟨x, 1, [y]⟩ ⟨HX.out.1, (by show InInt (1 : Int); unfold InInt; omega)⟩ (some ⟨wr.heap.size, 0, none⟩) 1 HA.out.2 ⟨wr.heap.size + 1, 0, none⟩ 1 rfl (fun j _ => cellsE_new _ _ (by simp) ⟨⟨x, 1, [y]⟩, some ⟨wr.heap.size, 0, none⟩, 1⟩ _ j) hl5 ?_)
      case hN => simp only [World.size_alloc]; omega
      intro A6 c6 w6 hE6 hB6
      rw [← HX.out.2] at hE6
      have H6 : Hid (OwnE w6 w.heap.size w6.heap.size A6 c6 ((tms l).take (k + 1)) ∧ Below w.heap.size w w6) := hid ⟨hE6, (hS.out.2.trans (HB.out.mono hS.out.2.size)).trans hB6⟩
      clear hE6 hB6 HA HB
      go_wp2_with fail
      go_roundw
      case rel => exact ⟨k + 1, A6, c6, by omega, rfl, by go_num, H6⟩
      case measure => simp [RowKit.intOf]; omega
    · obtain rfl : k = l.length := by omega
      have hS1 := hS.out
      rw [List.take_of_length_le (by rw [tms_len]; omega)] at hS1
      have HS := hid hS1
      clear hS hS1
      go_wp2_with fail
      go_ret
      exact ⟨A1, c1, rfl, HS.out.1, HS.out.2⟩
end Go.Proofs.Ythocdknfkmclkaa
