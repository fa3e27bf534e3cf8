/- The walks through the document's answer for what package pack puts. -/
import Derived.Test.YtdmghnfnmgkigaaPackPut
namespace Go.Proofs.Ytdmghnfnmgkigaa
open Go.RowKit

theorem u64_wrap (v : Int) : IntKind.u64.wrap v = v % 18446744073709551616 := by simp [IntKind.wrap, IntKind.signed, IntKind.bits]
/-- the lowest k bytes of a number, from below -/
def lows (v : Int) (k : Nat) : List Nat := (List.range k).map (Pk.byteOf v)
theorem lows_length (v : Int) (k : Nat) : (lows v k).length = k := by simp [lows]
theorem lows_snoc (v : Int) (k : Nat) : lows v (k + 1) = lows v k ++ [Pk.byteOf v k] := by unfold lows; rw [List.range_succ, List.map_append]; rfl
theorem lows_get (v : Int) (k i : Nat) (h : i < (lows v k).length) : (lows v k)[i] = Pk.byteOf v i := by simp [lows]
theorem low_byte (v : Int) (k : Nat) (h : k < 8) : (v % 18446744073709551616) / 2 ^ (8 * k) % 256 = (Pk.byteOf v k : Nat) := by
  rw [byteOf_val]
  match k, h with
  | 0, _ => simp only [Nat.reduceMul, Int.reducePow]; omega
  | 1, _ => simp only [Nat.reduceMul, Int.reducePow]; omega
  | 2, _ => simp only [Nat.reduceMul, Int.reducePow]; omega
  | 3, _ => simp only [Nat.reduceMul, Int.reducePow]; omega
  | 4, _ => simp only [Nat.reduceMul, Int.reducePow]; omega
  | 5, _ => simp only [Nat.reduceMul, Int.reducePow]; omega
  | 6, _ => simp only [Nat.reduceMul, Int.reducePow]; omega
  | 7, _ => simp only [Nat.reduceMul, Int.reducePow]; omega

set_option maxHeartbeats 800000 in
theorem refInt_any (B : Nat) (A : Option Addr) (c : Nat) (l : List Nat) (v : Int) (hv : InInt v) (hl : l.length ≤ 140737488354000) (w : World) (h : IsBytes w B A l) (hB : B ≤ w.heap.size) :
    Calls Try.prog 16 #[.slice A l.length c, .int .i64 v] w fun e w' => ∃ A' c', e = .returned (.slice A' (l.length + 8) c') ∧ OwnsB 5 w' w.heap.size A' c' (l ++ Pk.enc v) ∧ Below w.heap.size w w' := by
  obtain ⟨i0, hi, hz0, hz1, hz2⟩ := info_parts info_u8
  have hv1 := hv.1
  have hv2 := hv.2
  clear hv
  go_enter Try.func16, Try.ntmps16
  go_wp2
  go_loopw [5, 6, 7] (fun lo u i wr => ∃ k n : Nat, ∃ A1 : Option Addr, ∃ c1 : Nat, k ≤ 8 ∧ i = .int .i64 k ∧ u = .int .u64 (n : Int) ∧ n < 18446744073709551616 ∧ lo = .slice A1 k c1 ∧ OwnsB 5 wr w.heap.size A1 c1 (lows v k) ∧ Below w.heap.size w wr ∧ Hid ((n : Int) = (v % 18446744073709551616) / 2 ^ (8 * k))) (fun _ _ i _ => 8 - (intOf i).toNat)
  case atStart =>
    refine ⟨0, (v % 18446744073709551616).toNat, none, 0, by omega, rfl, ?_, by omega, rfl, OwnsB.nil _ _ _, Below.refl _ _, ?_⟩
    · rw [u64_wrap]; go_num
    · show _ = _
      simp; omega
  case round =>
    obtain ⟨k, n, A1, c1, hk, rfl, rfl, hn, rfl, hown, hbel, hu⟩ := hrel
    by_cases hlt : k < 8
    · have hx : ((n : Int) % 256) = (Pk.byteOf v k : Nat) := by rw [hu.out]; exact low_byte v k hlt
      have HX := hid hx
      have hb8 := Pk.byteOf_lt v k
      clear hx
      go_wp2_with (at_builtin; refine wpList_append_byteN rfl _ _ 22 rfl w.heap.size 5 i0 Try.underlying22 hi hz0 hz1 hz2 A1 c1 (lows v k) k (lows_length v k) rfl (hown.alloc _) ⟨wr.heap.size, 0, none⟩ 1 (Pk.byteOf v k) _ HX.out hb8 rfl ?c1 (lows v (k + 1)) (lows_snoc v k).symm (by omega) ?c2 ?_)
      case c1 => simp
      case c2 => have := hbel.size; simp; omega
      intro A2 c2 w1 hown2 hb1
      have hb2 : Below w.heap.size w w1 := (hbel.alloc hbel.size _).trans hb1
      clear hb1 hown hbel
      go_wp2
      go_roundw
      case rel => exact ⟨k + 1, n / 256, A2, c2, by omega, by go_num, by go_num, by omega, rfl, hown2, hb2, by
        have e := hu.out
        show _ = _
        rw [Pk.ediv_pow, ← e]; omega⟩
      case measure => simp [intOf]; omega
    · have HK8 : Hid (k = 8) := show k = 8 by omega
      obtain ⟨k8, rfl⟩ : ∃ k8 : Nat, k8 = k := ⟨_, rfl⟩
      clear hu hn
      go_wp2
      clear hlt hk
      have hreads := hown.reads
      have HBEL := hid hbel
      have hsz := hbel.size
      clear hown hbel
      obtain ⟨wm, rfl⟩ : ∃ wm : World, wm = wr := ⟨_, rfl⟩
      go_loopw [8, 9] (fun b i wr => ∃ k : Nat, ∃ A3 : Option Addr, ∃ c3 : Nat, k ≤ l.length ∧ i = .int .i64 k ∧ b = .slice A3 k c3 ∧ OwnsB 5 wr wm.heap.size A3 c3 (l.take k) ∧ Below wm.heap.size wm wr) (fun _ i _ => l.length - (intOf i).toNat)
      case atStart => exact ⟨0, none, 0, by omega, rfl, rfl, OwnsB.nil _ _ _, Below.refl _ _⟩
      case round =>
        obtain ⟨k, A3, c3, hk, rfl, rfl, hown, hbel⟩ := hrel
        have hlk : (l.take k).length = k := by rw [List.length_take]; omega
        have HLK := hid hlk
        clear hlk
        by_cases hlt : k < l.length
        · have h1 := ((h.more hB).below (HBEL.out.trans (hbel.mono hsz)))
          obtain ⟨b, off, rfl, _, hc⟩ := h1.cells k hlt
          have hck := hc k hlt
          have hb8 := h.small l[k] (List.getElem_mem _)
          clear hc h1
          go_wp2_with (at_builtin; refine wpList_append_byteN rfl _ _ 22 rfl wm.heap.size 5 i0 Try.underlying22 hi hz0 hz1 hz2 A3 c3 (l.take k) k HLK.out rfl (hown.alloc _) ⟨wr.heap.size, 0, none⟩ 1 l[k] _ rfl hb8 rfl ?c3 (l.take (k + 1)) (List.take_succ_eq_append_getElem hlt).symm (by omega) ?c4 ?_)
          case c3 => simp
          case c4 => have := hbel.size; simp; omega
          intro A4 c4 w1 hown2 hb1
          have hb2 : Below wm.heap.size wm w1 := (hbel.alloc hbel.size _).trans hb1
          clear hb1 hown hbel hck
          go_wp2
          go_roundw
          case rel => exact ⟨k + 1, A4, c4, by omega, by go_num, rfl, hown2, hb2⟩
          case measure => simp [intOf]; omega
        · obtain rfl : k = l.length := by omega
          rw [List.take_length] at hown
          clear HLK hlt hk
          go_wp2
          go_loopw [8, 10] (fun b i wr => ∃ k : Nat, ∃ A4 : Option Addr, ∃ c4 : Nat, k ≤ 8 ∧ i = .int .i64 (7 - (k : Int)) ∧ b = .slice A4 (l.length + k) c4 ∧ OwnsB 5 wr wm.heap.size A4 c4 (l ++ (Pk.enc v).take k) ∧ Below wm.heap.size wm wr) (fun _ i _ => (intOf i + 1).toNat)
          case atStart => exact ⟨0, A3, c3, by omega, rfl, rfl, by simpa using hown, hbel⟩
          case round =>
            clear hown hbel
            obtain ⟨k, A4, c4, hk, rfl, rfl, hown, hbel⟩ := hrel
            have hlen : (l ++ (Pk.enc v).take k).length = l.length + k := by rw [List.length_append, List.length_take, Pk.enc_length]; omega
            have HL := hid hlen
            clear hlen
            by_cases hlt : k < 8
            · obtain ⟨m, hm⟩ : ∃ m : Nat, 7 - (k : Int) = (m : Int) := ⟨7 - k, by omega⟩
              have HM := hid hm
              rw [hm]
              have hm0 : m < 8 := by omega
              have hme : 7 - k = m := by omega
              have HME := hid hme
              clear hm hme
              obtain ⟨b, off, rfl, _, hc⟩ := (hreads.below hbel).cells m (by rw [lows_length, HK8.out]; exact hm0)
              have hck := hc m (by rw [lows_length, HK8.out]; exact hm0)
              rw [lows_get] at hck
              have hb8 := Pk.byteOf_lt v m
              clear hc
              go_wp2_with (at_builtin; refine wpList_append_byteN rfl _ _ 22 rfl wm.heap.size 5 i0 Try.underlying22 hi hz0 hz1 hz2 A4 c4 (l ++ (Pk.enc v).take k) (l.length + k) HL.out rfl (hown.alloc _) ⟨wr.heap.size, 0, none⟩ 1 (Pk.byteOf v m) _ rfl hb8 rfl ?c5 (l ++ (Pk.enc v).take (k + 1)) (by rw [enc_take v k hlt, HME.out, ← List.append_assoc]) (by omega) ?c6 ?_)
              case c5 => simp
              case c6 => have := hbel.size; simp; omega
              intro A5 c5 w1 hown2 hb1
              have hb2 : Below wm.heap.size wm w1 := (hbel.alloc hbel.size _).trans hb1
              have HO : Hid (OwnsB 5 w1 wm.heap.size A5 c5 (l ++ (Pk.enc v).take (k + 1))) := hown2
              clear hb1 hown hbel hck hown2
              go_wp2
              go_roundw
              case rel => exact ⟨k + 1, A5, c5, by omega, by rw [← HM.out]; go_num, rfl, HO.out, hb2⟩
              case measure => simp [intOf] <;> omega
            · obtain rfl : k = 8 := by omega
              have HO : Hid (OwnsB 5 wr w.heap.size A4 c4 (l ++ Pk.enc v)) := by
                show OwnsB _ _ _ _ _ _
                exact hown.weaken hsz
              have HB : Hid (Below w.heap.size w wr) := HBEL.out.trans (hbel.mono hsz)
              clear hown hbel hreads
              go_wp2
              go_ret
              exact ⟨A4, c4, rfl, HO.out, HB.out⟩
set_option maxHeartbeats 800000 in
theorem refBlob_any (B : Nat) (A : Option Addr) (c : Nat) (l : List Nat) (B' : Nat) (A' : Option Addr) (c' : Nat) (m : List Nat) (hl : l.length + m.length ≤ 140737488354000) (w : World) (h : IsBytes w B A l) (hB : B ≤ w.heap.size)
    (h' : IsBytes w B' A' m) (hB' : B' ≤ w.heap.size) :
    Calls Try.prog 17 #[.slice A l.length c, .slice A' m.length c'] w fun e w' => ∃ A2 c2, e = .returned (.slice A2 (l.length + 8 + m.length) c2) ∧ OwnsB 5 w' w.heap.size A2 c2 (l ++ (Pk.enc m.length ++ m)) ∧ Below w.heap.size w w' := by
  obtain ⟨i0, hi, hz0, hz1, hz2⟩ := info_parts info_u8
  go_enter Try.func17, Try.ntmps17
  go_wp2_with fail
  refine (refInt_any B A c l (m.length : Int) (by unfold InInt; omega) (by omega) _ h hB).mono ?_
  rintro e w1 ⟨A1, c1, rfl, hown, hbel⟩
  go_wp2_with fail
  go_loopw [5, 6] (fun b i wr => ∃ k : Nat, ∃ A3 : Option Addr, ∃ c3 : Nat, k ≤ m.length ∧ i = .int .i64 k ∧ b = .slice A3 (l.length + 8 + k) c3 ∧ OwnsB 5 wr w.heap.size A3 c3 (l ++ (Pk.enc m.length ++ m.take k)) ∧ Below w.heap.size w wr) (fun _ i _ => m.length - (intOf i).toNat)
  case atStart => exact ⟨0, A1, c1, by omega, rfl, rfl, by simpa using hown, hbel⟩
  case round =>
    clear hown hbel
    obtain ⟨k, A3, c3, hk, rfl, rfl, hown, hbel⟩ := hrel
    by_cases hlt : k < m.length
    · have h1 := (h'.more hB').below hbel
      obtain ⟨b, off, rfl, _, hc⟩ := h1.cells k hlt
      have hck := hc k hlt
      have hb8 := h1.small m[k] (List.getElem_mem _)
      clear hc h1
      go_wp2_with (at_builtin; refine wpList_append_byteN rfl _ _ 22 rfl w.heap.size 5 i0 Try.underlying22 hi hz0 hz1 hz2 A3 c3 (l ++ (Pk.enc m.length ++ m.take k)) (l.length + 8 + k) ?c0 rfl (hown.alloc _) ⟨wr.heap.size, 0, none⟩ 1 m[k] _ rfl hb8 rfl ?c1 (l ++ (Pk.enc m.length ++ m.take (k + 1))) (by rw [List.append_assoc, List.append_assoc, List.take_succ_eq_append_getElem hlt]) (by omega) ?c2 ?_)
      case c0 => rw [List.length_append, List.length_append, Pk.enc_length, List.length_take]; omega
      case c1 => simp
      case c2 => have := hbel.size; simp; omega
      intro A4 c4 w2 hown2 hb1
      have HO := hid (And.intro hown2 ((hbel.alloc hbel.size _).trans hb1))
      clear hb1 hown hbel hck hown2
      go_wp2
      go_roundw
      case rel => exact ⟨k + 1, A4, c4, by omega, by go_num, rfl, HO.out.1, HO.out.2⟩
      case measure => simp [intOf] <;> omega
    · obtain rfl : k = m.length := by omega
      rw [List.take_length] at hown
      clear hlt hk
      go_wp2
      go_ret
      exact ⟨A3, c3, rfl, hown, hbel⟩

set_option maxHeartbeats 800000 in
theorem refInts_any (B : Nat) (A : Option Addr) (c : Nat) (l : List Nat) (B' : Nat) (A' : Option Addr) (c' : Nat) (m : List Int) (hl : l.length + 8 * m.length ≤ 140737488354000) (w : World) (h : IsBytes w B A l) (hB : B ≤ w.heap.size)
    (h' : IsInts w B' A' m) (hB' : B' ≤ w.heap.size) :
    Calls Try.prog 18 #[.slice A l.length c, .slice A' m.length c'] w fun e w' => ∃ A2 c2, e = .returned (.slice A2 (l.length + 8 + 8 * m.length) c2) ∧ OwnsB 5 w' w.heap.size A2 c2 (l ++ (Pk.enc m.length ++ Pk.encs m)) ∧ Below w.heap.size w w' := by
  obtain ⟨i0, hi, hz0, hz1, hz2⟩ := info_parts info_u8
  go_enter Try.func18, Try.ntmps18
  go_wp2_with fail
  refine (refInt_any B A c l (m.length : Int) (by unfold InInt; omega) (by omega) _ h hB).mono ?_
  rintro e w1 ⟨A1, c1, rfl, hown, hbel⟩
  go_wp2_with fail
  go_loopw [5, 6, 7, 8] (fun b i _ _ wr => ∃ k : Nat, ∃ A3 : Option Addr, ∃ c3 : Nat, k ≤ m.length ∧ i = .int .i64 k ∧ b = .slice A3 (l.length + 8 + 8 * k) c3 ∧ OwnsB 5 wr w.heap.size A3 c3 (l ++ (Pk.enc m.length ++ Pk.encs (m.take k))) ∧ Below w.heap.size w wr) (fun _ i _ _ _ => m.length - (intOf i).toNat)
  case atStart => exact ⟨0, A1, c1, by omega, rfl, rfl, by simpa [Pk.encs] using hown, hbel⟩
  case round =>
    clear hown hbel
    obtain ⟨k, A3, c3, hk, rfl, rfl, hown, hbel⟩ := hrel
    by_cases hlt : k < m.length
    · have h1 := (h'.more hB').below hbel
      obtain ⟨b, off, rfl, _, hc⟩ := h1.cells k hlt
      have hck := hc k hlt
      have hv := h1.small m[k] (List.getElem_mem _)
      clear hc h1
      obtain ⟨wo, rfl⟩ : ∃ wo : World, wo = wr := ⟨_, rfl⟩
      go_wp2_with fail
      refine (refInt_any 0 none 0 [] m[k] hv (by simp) _ IsBytes.nil (Nat.zero_le _)).mono ?_
      rintro e w2 ⟨A4, c4, rfl, hown4, hbel4⟩
      simp only [List.length_nil, Nat.zero_add, List.nil_append] at hown4 ⊢
      have hown' := hown.below hbel4
      have hb2 : Below w.heap.size w w2 := hbel.trans (hbel4.mono hbel.size)
      have hsz := hb2.size
      have hlt3 : ∀ g, blk A3 = some g → g < wo.heap.size := fun g hg => (hown.rowLt g (by rw [ownBlock_slice]; exact hg)).2
      obtain ⟨g4, rfl, hg4, hg4', _, _⟩ := hown4.at_ (k := 0) (by rw [Pk.enc_length]; omega)
      have hne : blk A3 ≠ some g4 := fun e => by have := hlt3 g4 e; omega
      have hcells : ∀ j, (hj : j < 8) → w2.cell? ⟨g4, j, none⟩ = some (.int .u8 ((Pk.enc m[k])[j]'hj : Nat)) := fun j hj => by
        obtain ⟨g, e, _, _, h1, _⟩ := hown4.at_ (k := j) hj
        injection e with e; injection e with e; subst e; exact h1
      have HC := hid hcells
      clear hck hown hown4 hbel4 hcells hlt3
      go_wp2_with fail
      go_loopw [5, 8] (fun b i wr => ∃ j : Nat, ∃ A5 : Option Addr, ∃ c5 : Nat, j ≤ 8 ∧ i = .int .i64 j ∧ b = .slice A5 (l.length + 8 + 8 * k + j) c5 ∧ OwnsB 5 wr w.heap.size A5 c5 (l ++ (Pk.enc m.length ++ (Pk.encs (m.take k) ++ (Pk.enc m[k]).take j))) ∧ Hid (wr.heap[g4]? = w2.heap[g4]?) ∧ blk A5 ≠ some g4 ∧ Below w.heap.size w wr ∧ w2.heap.size ≤ wr.heap.size) (fun _ i _ => 8 - (intOf i).toNat)
      case atStart => exact ⟨0, A3, c3, by omega, rfl, rfl, by simpa using hown', hid rfl, hne, hb2, Nat.le_refl _⟩
      case round =>
        clear hown' hb2 hne hbel
        obtain ⟨j, A5, c5, hj, rfl, rfl, hown, hsame, hne, hbel, hsz2⟩ := hrel
        by_cases hltj : j < 8
        · have hck : wr.cell? ⟨g4, j, none⟩ = some (.int .u8 ((Pk.enc m[k])[j]'hltj : Nat)) := (World.cell?_of_block (w := w2) hsame.out).trans (HC.out j hltj)
          have hb8 := Pk.enc_small m[k] _ (List.getElem_mem (h := (show j < (Pk.enc m[k]).length from hltj)))
          go_wp2_with (at_builtin; refine wpList_append_byteAt rfl _ _ 22 rfl w.heap.size 5 i0 Try.underlying22 hi hz0 hz1 hz2 A5 c5 (l ++ (Pk.enc m.length ++ (Pk.encs (m.take k) ++ (Pk.enc m[k]).take j))) (l.length + 8 + 8 * k + j) ?d0 rfl (hown.alloc _) ⟨wr.heap.size, 0, none⟩ 1 ((Pk.enc m[k])[j]'hltj) _ rfl hb8 rfl ?d1 (l ++ (Pk.enc m.length ++ (Pk.encs (m.take k) ++ (Pk.enc m[k]).take (j + 1)))) ?d3 (by omega) ?d2 ?_)
          case d0 => simp only [List.length_append, Pk.enc_length, Pk.encs_length, List.length_take]; omega
          case d1 => simp
          case d2 => have := hbel.size; simp; omega
          case d3 => rw [List.append_assoc, List.append_assoc, List.append_assoc, List.take_succ_eq_append_getElem (show j < (Pk.enc m[k]).length from hltj)]; rfl
          intro A6 c6 w3 hown6 hb6 hg6 ha6
          have hne6 : blk A6 ≠ some g4 := by
            rcases ha6 with e | e
            · rw [e]; exact hne
            · rw [e]; intro e; injection e with e; (try simp at e); omega
          have hsame6 : Hid (w3.heap[g4]? = w2.heap[g4]?) := by
            show _ = _
            rw [hg6.block g4 (by simp; omega) (fun e => hne e.symm), ← hsame.out]
            exact Below.heap_alloc _ _ _ (by omega)
          have HO := hid (And.intro hown6 (And.intro hne6 (And.intro ((hbel.alloc hbel.size _).trans hb6) (show w2.heap.size ≤ w3.heap.size by have := hb6.size; simp at this; omega))))
          clear hown6 hb6 hg6 ha6 hne6 hne hown hbel hck
          go_wp2
          go_roundw
          case rel => exact ⟨j + 1, A6, c6, by omega, by go_num, rfl, HO.out.1, hsame6, HO.out.2.1, HO.out.2.2.1, HO.out.2.2.2⟩
          case measure => simp [intOf] <;> omega
        · have HO : Hid (OwnsB 5 wr w.heap.size A5 c5 (l ++ (Pk.enc m.length ++ Pk.encs (m.take (k + 1))))) := by
            obtain rfl : j = 8 := by omega
            show OwnsB _ _ _ _ _ _
            rw [List.take_succ_eq_append_getElem hlt, Pk.encs_snoc]
            exact hown
          have HB := hid hbel
          have hj8 : l.length + 8 + 8 * k + j = l.length + 8 + 8 * (k + 1) := by omega
          have HJ := hid hj8
          clear hown hbel hsame hne hj8
          go_wp2
          go_roundw
          case rel => exact ⟨k + 1, A5, c5, by omega, by go_num, by rw [HJ.out], HO.out, HB.out⟩
          case measure => simp [intOf] <;> omega
    · obtain rfl : k = m.length := by omega
      rw [List.take_length] at hown
      clear hlt hk
      go_wp2
      go_ret
      exact ⟨A3, c3, rfl, hown, hbel⟩
end Go.Proofs.Ytdmghnfnmgkigaa
