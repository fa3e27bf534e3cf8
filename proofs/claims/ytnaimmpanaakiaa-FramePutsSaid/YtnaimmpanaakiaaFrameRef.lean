/- The walks through the document's answer: what it puts, what it reads. -/
import Derived.Test.YtnaimmpanaakiaaFrameRead
namespace Go.Proofs.Ytnaimmpanaakiaa.Frame
open Go.RowKit

theorem four_own (v : Nat) (hv : v < 4294967296) (w : World) :
    OwnsB 5 (w.alloc (.cells #[.int .u8 ((v : Int) / 16777216), .int .u8 ((v : Int) / 65536 % 256), .int .u8 ((v : Int) / 256 % 256), .int .u8 ((v : Int) % 256)] 5)) w.heap.size (some ⟨w.heap.size, 0, none⟩) 4 (Fr.be4 v) := by
  have e : #[.int .u8 ((v : Int) / 16777216), .int .u8 ((v : Int) / 65536 % 256), .int .u8 ((v : Int) / 256 % 256), .int .u8 ((v : Int) % 256)] = (bytes (Fr.be4 v)).toArray := by
    have h1 : ((v / 16777216 % 256 : Nat) : Int) = (v : Int) / 16777216 := by omega
    simp [bytes, Fr.be4]
    omega
  rw [e]
  refine ⟨Fr.be4_lt v, by rw [bytes_length]; rfl, .inr ⟨w.heap.size, 4, _, rfl, Nat.le_refl _, heap_alloc_new w _, Nat.le_refl _, by unfold maxLen; omega, rfl, rfl⟩⟩
set_option maxHeartbeats 400000 in
theorem ref_four (v : Nat) (hv : v < 4294967296) (w : World) :
    Calls Try.prog 22 #[.int .u32 v] w fun e w' => ∃ g, e = .returned (.slice (some ⟨g, 0, none⟩) 4 4) ∧ w.heap.size ≤ g ∧ g < w'.heap.size ∧ OwnsB 5 w' w.heap.size (some ⟨g, 0, none⟩) 4 (Fr.be4 v) ∧ Below w.heap.size w w' := by
  have HF := hid (four_own v hv w)
  go_enter Try.func22, Try.ntmps22
  go_wp2
  go_ret
  exact ⟨w.heap.size, rfl, Nat.le_refl _, by simp, HF.out, (Below.refl _ _).alloc (Nat.le_refl _) _⟩

set_option maxHeartbeats 400000 in
theorem ref_put_long (A : Option Addr) (c : Nat) (n : Nat) (h : 65536 < n) (w : World) :
    Calls Try.prog 11 #[.slice A n c] w fun e w' => e = .returned (.tuple #[.slice none 0 0, .int .i64 2]) ∧ w = w' := by
  go_enter Try.func11, Try.ntmps11
  go_wp2
  go_ret2
  exact ⟨rfl, rfl⟩
set_option maxHeartbeats 1600000 in
theorem ref_put_any (B : Nat) (A : Option Addr) (c : Nat) (l : List Nat) (n : Nat) (hn : l.length = n) (hl : n ≤ 65536) (w : World) (h : IsBytes w B A l) (hB : B ≤ w.heap.size) :
    Calls Try.prog 11 #[.slice A n c] w fun e w' => ∃ A' c', e = .returned (.tuple #[.slice A' (8 + n) c', .int .i64 0]) ∧ OwnsB 5 w' w.heap.size A' c' (Fr.frame l) ∧ Below w.heap.size w w' := by
  obtain ⟨i0, hi, hz0, hz1, hz2⟩ := info_parts info_u8
  obtain ⟨S, hS⟩ : ∃ S, S = Fr.sum (Fr.be4 n) l := ⟨_, rfl⟩
  have hx : S < 4294967296 := by rw [hS]; exact Fr.sum_lt _ _ (Fr.be4_lt n) h.small
  have HF : Hid (Fr.be4 n ++ Fr.be4 S ++ l = Fr.frame l) := by show _ = _; subst hn; subst hS; unfold Fr.frame; rw [List.append_assoc]
  have hs0 := Crc.more_lt 0 (Fr.be4 n) (by omega) (Fr.be4_lt n)
  have HN := hid hn
  have HS := hid hS
  clear hn hS
  have h0 := h.more hB
  clear h hB
  go_enter Try.func11, Try.ntmps11
  go_wp2_with fail
  refine (ref_four n (by omega) _).mono ?_
  rintro e w1 ⟨g1, rfl, hg1, hg1', ho1, hb1⟩
  go_wp2_with fail
  refine (ref_of_any w1.heap.size _ 4 (Fr.be4 n) (by unfold maxLen; rw [Fr.be4_length]; omega) _ ho1.reads).mono ?_
  rintro e w2 ⟨rfl, rfl⟩
  go_wp2_with fail
  have C := ref_more_any _ hs0 w.heap.size A c l (by unfold maxLen; rw [HN.out]; omega) w1 (h0.below hb1)
  rw [HN.out] at C
  have HC := hid C
  clear C
  refine HC.out.mono ?_
  rintro e w2 ⟨rfl, rfl⟩
  clear HC
  have eS : Crc.more (Crc.more 0 (Fr.be4 n)) l = S := HS.out.symm
  rw [eS]
  clear eS hs0
  go_wp2_with fail
  refine (ref_four S hx _).mono ?_
  rintro e w2 ⟨g2, rfl, hg2, hg2', ho2, hb2⟩
  have hb2' : Below w.heap.size w w2 := hb1.trans (hb2.mono hb1.size)
  have hs1 := hb1.size
  have ho1' := ho1.below hb2
  have ho2' := ho2.weaken hs1
  have hne : blk (some ⟨g1, 0, none⟩) ≠ some g2 := by intro e; injection e with e; simp at e; omega
  clear ho1 ho2 hb1 hb2
  go_wp2
  go_loopw [4, 6] (fun b i wr => ∃ k : Nat, ∃ A3 : Option Addr, ∃ c3 : Nat, k ≤ 4 ∧ i = .int .i64 k ∧ b = .slice A3 (4 + k) c3 ∧ OwnsB 5 wr w.heap.size A3 c3 (Fr.be4 n ++ (Fr.be4 S).take k) ∧ OwnsB 5 wr w.heap.size (some ⟨g2, 0, none⟩) 4 (Fr.be4 S) ∧ blk A3 ≠ some g2 ∧ Below w.heap.size w wr) (fun _ i _ => 4 - (intOf i).toNat)
  case atStart => exact ⟨0, some ⟨g1, 0, none⟩, 4, by omega, rfl, rfl, by simpa using ho1', ho2', hne, hb2'⟩
  case round =>
    clear ho1' ho2' hne hb2' hg1 hg1' hg2 hg2' hs1
    obtain ⟨k, A3, c3, hk, rfl, rfl, ho3, ho4, hne, hbel⟩ := hrel
    by_cases hlt : k < 4
    · have hkl : k < (Fr.be4 S).length := hlt
      obtain ⟨g, hg, _, hgl, hcg, _⟩ := ho4.at_ hkl
      obtain rfl : g2 = g := by injection hg with hg; injection hg
      have hb8 := ho4.small _ (List.getElem_mem hkl)
      have HL : Hid (Fr.be4 n ++ (Fr.be4 S).take k ++ [(Fr.be4 S)[k]] = Fr.be4 n ++ (Fr.be4 S).take (k + 1)) := by
        show _ = _; rw [List.append_assoc, List.take_succ_eq_append_getElem hkl]
      obtain ⟨x, hxe⟩ : ∃ x, x = (Fr.be4 S)[k] := ⟨_, rfl⟩
      rw [← hxe] at hcg hb8 HL
      clear hxe hg hkl
      go_wp2_with (at_builtin; refine wpList_append_byteAt rfl _ _ 22 rfl w.heap.size 5 i0 Try.underlying22 hi hz0 hz1 hz2 A3 c3 (Fr.be4 n ++ (Fr.be4 S).take k) (4 + k) ?c0 rfl (ho3.alloc _) ⟨wr.heap.size, 0, none⟩ 1 x _ rfl hb8 rfl ?c1 (Fr.be4 n ++ (Fr.be4 S).take (k + 1)) HL.out (by omega) ?c2 ?_)
      case c0 => rw [List.length_append, Fr.be4_length, List.length_take, Fr.be4_length]; omega
      case c1 => simp
      case c2 => have := hbel.size; simp; omega
      intro A4 c4 w3 ho5 hb5 hgr hbl
      have HO := hid (And.intro ho5 ((hbel.alloc hbel.size _).trans hb5))
      have ho6 : OwnsB 5 w3 w.heap.size (some ⟨g2, 0, none⟩) 4 (Fr.be4 S) := (ho4.alloc _).grownN hgr hne
      have hne2 : blk A4 ≠ some g2 := by
        rcases hbl with e | e
        · rw [e]; exact hne
        · rw [e]; intro e2; injection e2 with e2; first | omega | (simp at e2; omega)
      have HP := hid (And.intro ho6 hne2)
      clear ho3 ho4 ho5 ho6 hb5 hgr hbl hne hne2 hcg hbel
      go_wp2
      go_roundw
      case rel => exact ⟨k + 1, A4, c4, by omega, by go_num, rfl, HO.out.1, HP.out.1, HP.out.2, HO.out.2⟩
      case measure => simp [intOf] <;> omega
    · have e4 : (Fr.be4 S).take k = Fr.be4 S := by rw [show k = 4 by omega]; rfl
      rw [e4] at ho3
      have HK := hid (show k = 4 by omega)
      clear e4 ho4 hne
      go_wp2
      clear hlt hk
      go_loopw [4, 7] (fun b i wr => ∃ k : Nat, ∃ A4 : Option Addr, ∃ c4 : Nat, k ≤ n ∧ i = .int .i64 k ∧ b = .slice A4 (8 + k) c4 ∧ OwnsB 5 wr w.heap.size A4 c4 (Fr.be4 n ++ Fr.be4 S ++ l.take k) ∧ Below w.heap.size w wr) (fun _ i _ => n - (intOf i).toNat)
      case atStart => exact ⟨0, A3, c3, by omega, rfl, by rw [HK.out], by simpa using ho3, hbel⟩
      case round =>
        clear ho3 hbel
        obtain ⟨k, A4, c4, hk, rfl, rfl, hown, hbel⟩ := hrel
        have HLN : Hid ((Fr.be4 n ++ Fr.be4 S ++ l.take k).length = 8 + k) := by
          show _ = _; rw [List.length_append, List.length_append, Fr.be4_length, Fr.be4_length, List.length_take, HN.out]; omega
        by_cases hlt : k < n
        · have h1 := h0.below hbel
          have hkl : k < l.length := by rw [HN.out]; exact hlt
          obtain ⟨b, off, rfl, _, hc⟩ := h1.cells k hkl
          have hck := hc k hkl
          have hb8 := h1.small l[k] (List.getElem_mem _)
          have HL : Hid (Fr.be4 n ++ Fr.be4 S ++ l.take k ++ [l[k]] = Fr.be4 n ++ Fr.be4 S ++ l.take (k + 1)) := by
            show _ = _; rw [List.append_assoc (Fr.be4 n ++ Fr.be4 S), List.take_succ_eq_append_getElem hkl]
          clear hc h1
          go_wp2_with (at_builtin; refine wpList_append_byteN rfl _ _ 22 rfl w.heap.size 5 i0 Try.underlying22 hi hz0 hz1 hz2 A4 c4 _ (8 + k) HLN.out rfl (hown.alloc _) ⟨wr.heap.size, 0, none⟩ 1 l[k] _ rfl hb8 rfl ?c1 _ HL.out (by omega) ?c2 ?_)
          case c1 => simp
          case c2 => have := hbel.size; simp; omega
          intro A5 c5 w3 ho5 hb5
          have HO := hid (And.intro ho5 ((hbel.alloc hbel.size _).trans hb5))
          clear ho5 hb5 hown hbel hck
          go_wp2
          go_roundw
          case rel => exact ⟨k + 1, A5, c5, by omega, by go_num, rfl, HO.out.1, HO.out.2⟩
          case measure => simp [intOf] <;> omega
        · obtain rfl : k = n := by omega
          have e : l.take k = l := by rw [← HN.out, List.take_length]
          rw [e, HF.out] at hown
          clear e hlt hk HLN
          go_wp2
          go_ret2
          exact ⟨A4, c4, rfl, hown, hbel⟩
end Go.Proofs.Ytnaimmpanaakiaa.Frame
