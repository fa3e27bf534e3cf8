/- Texts of the proof, one behind the other: MsRefP. -/
import Derived.Test.YtpigekbfngalbaaDoorPartAD
import Derived.Test.YtpigekbfngalbaaDoorPartAE
import Derived.Test.YtpigekbfngalbaaDoorPartAF
import Derived.Test.YtpigekbfngalbaaDoorPartAI
import Derived.Deep.RegionHeld3
import Derived.StillTailTactics
import Derived.Test.YtpigekbfngalbaaDoorPartAJ
namespace Go.Proofs.YtpigekbfngalbaaDoor
open Go.RowKit
set_option maxRecDepth 100000

theorem u64_wrap (v : Int) : IntKind.u64.wrap v = v % 18446744073709551616 := by simp [IntKind.wrap, IntKind.signed, IntKind.bits]
/-- the lowest k bytes of a number, from below -/
def lows (v : Int) (k : Nat) : List Nat := (List.range k).map (Pk.byteOf v)
theorem lows_length (v : Int) (k : Nat) : (lows v k).length = k := by simp [lows]
theorem lows_snoc (v : Int) (k : Nat) : lows v (k + 1) = lows v k ++ [Pk.byteOf v k] := by unfold lows; rw [List.range_succ, List.map_append]; rfl
theorem lows_get (v : Int) (k i : Nat) (h : i < (lows v k).length) : (lows v k)[i] = Pk.byteOf v i := by simp [lows]
theorem low_byte (v : Int) (k : Nat) (h : k < 8) : (v % 18446744073709551616) / 2 ^ (8 * k) % 256 = (Pk.byteOf v k : Nat) := by
  rw [byteOf_val]
  match k, h with
  | 0, _ => simp only [Nat.reduceMul, Int.reducePow]; omega
  | 1, _ => simp only [Nat.reduceMul, Int.reducePow]; omega
  | 2, _ => simp only [Nat.reduceMul, Int.reducePow]; omega
  | 3, _ => simp only [Nat.reduceMul, Int.reducePow]; omega
  | 4, _ => simp only [Nat.reduceMul, Int.reducePow]; omega
  | 5, _ => simp only [Nat.reduceMul, Int.reducePow]; omega
  | 6, _ => simp only [Nat.reduceMul, Int.reducePow]; omega
  | 7, _ => simp only [Nat.reduceMul, Int.reducePow]; omega

set_option maxRecDepth 100000 in
set_option maxHeartbeats 800000 in
theorem refInt_any (B : Nat) (A : Option Addr) (c : Nat) (l : List Nat) (v : Int) (hv : InInt v) (hl : l.length ≤ 140737488354000) (w : World) (h : IsBytes w B A l) (hB : B ≤ w.heap.size) :
    Calls Tryd.prog 45 #[.slice A l.length c, .int .i64 v] w fun e w' => ∃ A' c', e = .returned (.slice A' (l.length + 8) c') ∧ OwnsB 5 w' w.heap.size A' c' (l ++ Pk.enc v) ∧ Below w.heap.size w w' := by
  obtain ⟨i0, hi, hz0, hz1, hz2⟩ := info_parts info_u8
  have hv1 := hv.1
  have hv2 := hv.2
  clear hv
  go_enter Tryd.func45, Tryd.ntmps45
  go_wp2
  go_loopw [5, 6, 7] (fun lo u i wr => ∃ k n : Nat, ∃ A1 : Option Addr, ∃ c1 : Nat, k ≤ 8 ∧ i = .int .i64 k ∧ u = .int .u64 (n : Int) ∧ n < 18446744073709551616 ∧ lo = .slice A1 k c1 ∧ OwnsB 5 wr w.heap.size A1 c1 (lows v k) ∧ Below w.heap.size w wr ∧ Hid ((n : Int) = (v % 18446744073709551616) / 2 ^ (8 * k))) (fun _ _ i _ => 8 - (RowKit.intOf i).toNat)
  case atStart =>
    refine ⟨0, (v % 18446744073709551616).toNat, none, 0, by omega, rfl, ?_, by omega, rfl, OwnsB.nil _ _ _, Below.refl _ _, ?_⟩
    · rw [u64_wrap]; go_num
    · show _ = _
      simp; omega
  case round =>
    obtain ⟨k, n, A1, c1, hk, rfl, rfl, hn, rfl, hown, hbel, hu⟩ := hrel
    by_cases hlt : k < 8
    · have hx : ((n : Int) % 256) = (Pk.byteOf v k : Nat) := by rw [hu.out]; exact low_byte v k hlt
      have HX := hid hx
      have hb8 := Pk.byteOf_lt v k
      clear hx
      go_wp2_with (at_builtin; refine wpList_append_byteN rfl _ _ 23 rfl w.heap.size 5 i0 Tryd.underlying23 hi hz0 hz1 hz2 A1 c1 (lows v k) k (lows_length v k) rfl (hown.alloc _) ⟨wr.heap.size, 0, none⟩ 1 (Pk.byteOf v k) _ HX.out hb8 rfl ?c1 (lows v (k + 1)) (lows_snoc v k).symm (by omega) ?c2 ?_)
      case c1 => simp
      case c2 => have := hbel.size; simp; omega
      intro A2 c2 w1 hown2 hb1
      have hb2 : Below w.heap.size w w1 := (hbel.alloc hbel.size _).trans hb1
      clear hb1 hown hbel
      go_wp2
      go_roundw
      case rel => exact ⟨k + 1, n / 256, A2, c2, by omega, by go_num, by go_num, by omega, rfl, hown2, hb2, by
        have e := hu.out
        show _ = _
        rw [Pk.ediv_pow, ← e]; omega⟩
      case measure => simp [RowKit.intOf]; omega
    · have HK8 : Hid (k = 8) := show k = 8 by omega
      obtain ⟨k8, rfl⟩ : ∃ k8 : Nat, k8 = k := ⟨_, rfl⟩
      clear hu hn
      go_wp2
      clear hlt hk
      have hreads := hown.reads
      have HBEL := hid hbel
      have hsz := hbel.size
      clear hown hbel
      obtain ⟨wm, rfl⟩ : ∃ wm : World, wm = wr := ⟨_, rfl⟩
      go_loopw [8, 9] (fun b i wr => ∃ k : Nat, ∃ A3 : Option Addr, ∃ c3 : Nat, k ≤ l.length ∧ i = .int .i64 k ∧ b = .slice A3 k c3 ∧ OwnsB 5 wr wm.heap.size A3 c3 (l.take k) ∧ Below wm.heap.size wm wr) (fun _ i _ => l.length - (RowKit.intOf i).toNat)
      case atStart => exact ⟨0, none, 0, by omega, rfl, rfl, OwnsB.nil _ _ _, Below.refl _ _⟩
      case round =>
        obtain ⟨k, A3, c3, hk, rfl, rfl, hown, hbel⟩ := hrel
        have hlk : (l.take k).length = k := by rw [List.length_take]; omega
        have HLK := hid hlk
        clear hlk
        by_cases hlt : k < l.length
        · have h1 := ((h.more hB).below (HBEL.out.trans (hbel.mono hsz)))
          obtain ⟨b, off, rfl, _, hc⟩ := h1.cells k hlt
          have hck := hc k hlt
          have hb8 := h.small l[k] (List.getElem_mem _)
          clear hc h1
          go_wp2_with (at_builtin; refine wpList_append_byteN rfl _ _ 23 rfl wm.heap.size 5 i0 Tryd.underlying23 hi hz0 hz1 hz2 A3 c3 (l.take k) k HLK.out rfl (hown.alloc _) ⟨wr.heap.size, 0, none⟩ 1 l[k] _ rfl hb8 rfl ?c3 (l.take (k + 1)) (List.take_succ_eq_append_getElem hlt).symm (by omega) ?c4 ?_)
          case c3 => simp
          case c4 => have := hbel.size; simp; omega
          intro A4 c4 w1 hown2 hb1
          have hb2 : Below wm.heap.size wm w1 := (hbel.alloc hbel.size _).trans hb1
          clear hb1 hown hbel hck
          go_wp2
          go_roundw
          case rel => exact ⟨k + 1, A4, c4, by omega, by go_num, rfl, hown2, hb2⟩
          case measure => simp [RowKit.intOf]; omega
        · obtain rfl : k = l.length := by omega
          rw [List.take_length] at hown
          clear HLK hlt hk
          go_wp2
          go_loopw [8, 10] (fun b i wr => ∃ k : Nat, ∃ A4 : Option Addr, ∃ c4 : Nat, k ≤ 8 ∧ i = .int .i64 (7 - (k : Int)) ∧ b = .slice A4 (l.length + k) c4 ∧ OwnsB 5 wr wm.heap.size A4 c4 (l ++ (Pk.enc v).take k) ∧ Below wm.heap.size wm wr) (fun _ i _ => (RowKit.intOf i + 1).toNat)
          case atStart => exact ⟨0, A3, c3, by omega, rfl, rfl, by simpa using hown, hbel⟩
          case round =>
            clear hown hbel
            obtain ⟨k, A4, c4, hk, rfl, rfl, hown, hbel⟩ := hrel
            have hlen : (l ++ (Pk.enc v).take k).length = l.length + k := by rw [List.length_append, List.length_take, Pk.enc_length]; omega
            have HL := hid hlen
            clear hlen
            by_cases hlt : k < 8
            · obtain ⟨m, hm⟩ : ∃ m : Nat, 7 - (k : Int) = (m : Int) := ⟨7 - k, by omega⟩
              have HM := hid hm
              rw [hm]
              have hm0 : m < 8 := by omega
              have hme : 7 - k = m := by omega
              have HME := hid hme
              clear hm hme
              obtain ⟨b, off, rfl, _, hc⟩ := (hreads.below hbel).cells m (by rw [lows_length, HK8.out]; exact hm0)
              have hck := hc m (by rw [lows_length, HK8.out]; exact hm0)
              rw [lows_get] at hck
              have hb8 := Pk.byteOf_lt v m
              clear hc
              go_wp2_with (at_builtin; refine wpList_append_byteN rfl _ _ 23 rfl wm.heap.size 5 i0 Tryd.underlying23 hi hz0 hz1 hz2 A4 c4 (l ++ (Pk.enc v).take k) (l.length + k) HL.out rfl (hown.alloc _) ⟨wr.heap.size, 0, none⟩ 1 (Pk.byteOf v m) _ rfl hb8 rfl ?c5 (l ++ (Pk.enc v).take (k + 1)) (by rw [enc_take v k hlt, HME.out, ← List.append_assoc]) (by omega) ?c6 ?_)
              case c5 => simp
              case c6 => have := hbel.size; simp; omega
              intro A5 c5 w1 hown2 hb1
              have hb2 : Below wm.heap.size wm w1 := (hbel.alloc hbel.size _).trans hb1
              have HO : Hid (OwnsB 5 w1 wm.heap.size A5 c5 (l ++ (Pk.enc v).take (k + 1))) := hown2
              clear hb1 hown hbel hck hown2
              go_wp2
              go_roundw
              case rel => exact ⟨k + 1, A5, c5, by omega, by rw [← HM.out]; go_num, rfl, HO.out, hb2⟩
              case measure => simp [RowKit.intOf] <;> omega
            · obtain rfl : k = 8 := by omega
              have HO : Hid (OwnsB 5 wr w.heap.size A4 c4 (l ++ Pk.enc v)) := by
                show OwnsB _ _ _ _ _ _
                exact hown.weaken hsz
              have HB : Hid (Below w.heap.size w wr) := HBEL.out.trans (hbel.mono hsz)
              clear hown hbel hreads
              go_wp2
              go_ret
              exact ⟨A4, c4, rfl, HO.out, HB.out⟩
end Go.Proofs.YtpigekbfngalbaaDoor
namespace Go.Proofs.YtpigekbfngalbaaDoor
open Go.RowKit

set_option maxHeartbeats 800000 in
theorem refBlob_any (B : Nat) (A : Option Addr) (c : Nat) (l : List Nat) (B' : Nat) (A' : Option Addr) (c' : Nat) (m : List Nat) (hl : l.length + m.length ≤ 140737488354000) (w : World) (h : IsBytes w B A l) (hB : B ≤ w.heap.size)
    (h' : IsBytes w B' A' m) (hB' : B' ≤ w.heap.size) :
    Calls Tryd.prog 46 #[.slice A l.length c, .slice A' m.length c'] w fun e w' => ∃ A2 c2, e = .returned (.slice A2 (l.length + 8 + m.length) c2) ∧ OwnsB 5 w' w.heap.size A2 c2 (l ++ (Pk.enc m.length ++ m)) ∧ Below w.heap.size w w' := by
  obtain ⟨i0, hi, hz0, hz1, hz2⟩ := info_parts info_u8
  go_enter Tryd.func46, Tryd.ntmps46
  go_wp2_with fail
  refine (refInt_any B A c l (m.length : Int) (by unfold InInt; omega) (by omega) _ h hB).mono ?_
  rintro e w1 ⟨A1, c1, rfl, hown, hbel⟩
  go_wp2_with fail
  go_loopw [5, 6] (fun b i wr => ∃ k : Nat, ∃ A3 : Option Addr, ∃ c3 : Nat, k ≤ m.length ∧ i = .int .i64 k ∧ b = .slice A3 (l.length + 8 + k) c3 ∧ OwnsB 5 wr w.heap.size A3 c3 (l ++ (Pk.enc m.length ++ m.take k)) ∧ Below w.heap.size w wr) (fun _ i _ => m.length - (RowKit.intOf i).toNat)
  case atStart => exact ⟨0, A1, c1, by omega, rfl, rfl, by simpa using hown, hbel⟩
  case round =>
    clear hown hbel
    obtain ⟨k, A3, c3, hk, rfl, rfl, hown, hbel⟩ := hrel
    by_cases hlt : k < m.length
    · have h1 := (h'.more hB').below hbel
      obtain ⟨b, off, rfl, _, hc⟩ := h1.cells k hlt
      have hck := hc k hlt
      have hb8 := h1.small m[k] (List.getElem_mem _)
      clear hc h1
      go_wp2_with (at_builtin; refine wpList_append_byteN rfl _ _ 23 rfl w.heap.size 5 i0 Tryd.underlying23 hi hz0 hz1 hz2 A3 c3 (l ++ (Pk.enc m.length ++ m.take k)) (l.length + 8 + k) ?c0 rfl (hown.alloc _) ⟨wr.heap.size, 0, none⟩ 1 m[k] _ rfl hb8 rfl ?c1 (l ++ (Pk.enc m.length ++ m.take (k + 1))) (by rw [List.append_assoc, List.append_assoc, List.take_succ_eq_append_getElem hlt]) (by omega) ?c2 ?_)
      case c0 => rw [List.length_append, List.length_append, Pk.enc_length, List.length_take]; omega
      case c1 => simp
      case c2 => have := hbel.size; simp; omega
      intro A4 c4 w2 hown2 hb1
      have HO := hid (And.intro hown2 ((hbel.alloc hbel.size _).trans hb1))
      clear hb1 hown hbel hck hown2
      go_wp2
      go_roundw
      case rel => exact ⟨k + 1, A4, c4, by omega, by go_num, rfl, HO.out.1, HO.out.2⟩
      case measure => simp [RowKit.intOf] <;> omega
    · obtain rfl : k = m.length := by omega
      rw [List.take_length] at hown
      clear hlt hk
      go_wp2
      go_ret
      exact ⟨A3, c3, rfl, hown, hbel⟩
end Go.Proofs.YtpigekbfngalbaaDoor
namespace Go.Proofs.YtpigekbfngalbaaDoor.Frame
open Go.RowKit
set_option maxRecDepth 100000

theorem four_own (v : Nat) (hv : v < 4294967296) (w : World) :
    OwnsB 5 (w.alloc (.cells #[.int .u8 ((v : Int) / 16777216), .int .u8 ((v : Int) / 65536 % 256), .int .u8 ((v : Int) / 256 % 256), .int .u8 ((v : Int) % 256)] 5)) w.heap.size (some ⟨w.heap.size, 0, none⟩) 4 (Fr.be4 v) := by
  have e : #[.int .u8 ((v : Int) / 16777216), .int .u8 ((v : Int) / 65536 % 256), .int .u8 ((v : Int) / 256 % 256), .int .u8 ((v : Int) % 256)] = (bytes (Fr.be4 v)).toArray := by
    have h1 : ((v / 16777216 % 256 : Nat) : Int) = (v : Int) / 16777216 := by omega
    simp [bytes, Fr.be4]
    omega
  rw [e]
  refine ⟨Fr.be4_lt v, by rw [bytes_length]; rfl, .inr ⟨w.heap.size, 4, _, rfl, Nat.le_refl _, heap_alloc_new w _, Nat.le_refl _, by unfold maxLen; omega, rfl, rfl⟩⟩
set_option maxHeartbeats 400000 in
theorem ref_four (v : Nat) (hv : v < 4294967296) (w : World) :
    Calls Tryd.prog 68 #[.int .u32 v] w fun e w' => ∃ g, e = .returned (.slice (some ⟨g, 0, none⟩) 4 4) ∧ w.heap.size ≤ g ∧ g < w'.heap.size ∧ OwnsB 5 w' w.heap.size (some ⟨g, 0, none⟩) 4 (Fr.be4 v) ∧ Below w.heap.size w w' := by
  have HF := hid (four_own v hv w)
  go_enter Tryd.func68, Tryd.ntmps68
  go_wp2
  go_ret
  exact ⟨w.heap.size, rfl, Nat.le_refl _, by simp, HF.out, (Below.refl _ _).alloc (Nat.le_refl _) _⟩

set_option maxHeartbeats 400000 in
theorem ref_put_long (A : Option Addr) (c : Nat) (n : Nat) (h : 65536 < n) (w : World) :
    Calls Tryd.prog 47 #[.slice A n c] w fun e w' => e = .returned (.tuple #[.slice none 0 0, .int .i64 2]) ∧ w = w' := by
  go_enter Tryd.func47, Tryd.ntmps47
  go_wp2
  go_ret2
  exact ⟨rfl, rfl⟩
set_option maxHeartbeats 1600000 in
theorem ref_put_any (B : Nat) (A : Option Addr) (c : Nat) (l : List Nat) (n : Nat) (hn : l.length = n) (hl : n ≤ 65536) (w : World) (h : IsBytes w B A l) (hB : B ≤ w.heap.size) :
    Calls Tryd.prog 47 #[.slice A n c] w fun e w' => ∃ A' c', e = .returned (.tuple #[.slice A' (8 + n) c', .int .i64 0]) ∧ OwnsB 5 w' w.heap.size A' c' (Fr.frame l) ∧ Below w.heap.size w w' := by
  obtain ⟨i0, hi, hz0, hz1, hz2⟩ := info_parts info_u8
  obtain ⟨S, hS⟩ : ∃ S, S = Fr.sum (Fr.be4 n) l := ⟨_, rfl⟩
  have hx : S < 4294967296 := by rw [hS]; exact Fr.sum_lt _ _ (Fr.be4_lt n) h.small
  have HF : Hid (Fr.be4 n ++ Fr.be4 S ++ l = Fr.frame l) := by show _ = _; subst hn; subst hS; unfold Fr.frame; rw [List.append_assoc]
  have hs0 := Crc.more_lt 0 (Fr.be4 n) (by omega) (Fr.be4_lt n)
  have HN := hid hn
  have HS := hid hS
  clear hn hS
  have h0 := h.more hB
  clear h hB
  go_enter Tryd.func47, Tryd.ntmps47
  go_wp2_with fail
  refine (ref_four n (by omega) _).mono ?_
  rintro e w1 ⟨g1, rfl, hg1, hg1', ho1, hb1⟩
  go_wp2_with fail
  refine (ref_of_any w1.heap.size _ 4 (Fr.be4 n) (by unfold maxLen; rw [Fr.be4_length]; omega) _ ho1.reads).mono ?_
  rintro e w2 ⟨rfl, rfl⟩
  go_wp2_with fail
  have C := ref_more_any _ hs0 w.heap.size A c l (by unfold maxLen; rw [HN.out]; omega) w1 (h0.below hb1)
  rw [HN.out] at C
  have HC := hid C
  clear C
  refine HC.out.mono ?_
  rintro e w2 ⟨rfl, rfl⟩
  clear HC
  have eS : Crc.more (Crc.more 0 (Fr.be4 n)) l = S := HS.out.symm
  rw [eS]
  clear eS hs0
  go_wp2_with fail
  refine (ref_four S hx _).mono ?_
  rintro e w2 ⟨g2, rfl, hg2, hg2', ho2, hb2⟩
  have hb2' : Below w.heap.size w w2 := hb1.trans (hb2.mono hb1.size)
  have hs1 := hb1.size
  have ho1' := ho1.below hb2
  have ho2' := ho2.weaken hs1
  have hne : blk (some ⟨g1, 0, none⟩) ≠ some g2 := by intro e; injection e with e; simp at e; omega
  clear ho1 ho2 hb1 hb2
  go_wp2
  go_loopw [4, 6] (fun b i wr => ∃ k : Nat, ∃ A3 : Option Addr, ∃ c3 : Nat, k ≤ 4 ∧ i = .int .i64 k ∧ b = .slice A3 (4 + k) c3 ∧ OwnsB 5 wr w.heap.size A3 c3 (Fr.be4 n ++ (Fr.be4 S).take k) ∧ OwnsB 5 wr w.heap.size (some ⟨g2, 0, none⟩) 4 (Fr.be4 S) ∧ blk A3 ≠ some g2 ∧ Below w.heap.size w wr) (fun _ i _ => 4 - (RowKit.intOf i).toNat)
  case atStart => exact ⟨0, some ⟨g1, 0, none⟩, 4, by omega, rfl, rfl, by simpa using ho1', ho2', hne, hb2'⟩
  case round =>
    clear ho1' ho2' hne hb2' hg1 hg1' hg2 hg2' hs1
    obtain ⟨k, A3, c3, hk, rfl, rfl, ho3, ho4, hne, hbel⟩ := hrel
    by_cases hlt : k < 4
    · have hkl : k < (Fr.be4 S).length := hlt
      obtain ⟨g, hg, _, hgl, hcg, _⟩ := ho4.at_ hkl
      obtain rfl : g2 = g := by injection hg with hg; injection hg
      have hb8 := ho4.small _ (List.getElem_mem hkl)
      have HL : Hid (Fr.be4 n ++ (Fr.be4 S).take k ++ [(Fr.be4 S)[k]] = Fr.be4 n ++ (Fr.be4 S).take (k + 1)) := by
        show _ = _; rw [List.append_assoc, List.take_succ_eq_append_getElem hkl]
      obtain ⟨x, hxe⟩ : ∃ x, x = (Fr.be4 S)[k] := ⟨_, rfl⟩
      rw [← hxe] at hcg hb8 HL
      clear hxe hg hkl
      go_wp2_with (at_builtin; refine wpList_append_byteAt rfl _ _ 23 rfl w.heap.size 5 i0 Tryd.underlying23 hi hz0 hz1 hz2 A3 c3 (Fr.be4 n ++ (Fr.be4 S).take k) (4 + k) ?c0 rfl (ho3.alloc _) ⟨wr.heap.size, 0, none⟩ 1 x _ rfl hb8 rfl ?c1 (Fr.be4 n ++ (Fr.be4 S).take (k + 1)) HL.out (by omega) ?c2 ?_)
      case c0 => rw [List.length_append, Fr.be4_length, List.length_take, Fr.be4_length]; omega
      case c1 => simp
      case c2 => have := hbel.size; simp; omega
      intro A4 c4 w3 ho5 hb5 hgr hbl
      have HO := hid (And.intro ho5 ((hbel.alloc hbel.size _).trans hb5))
      have ho6 : OwnsB 5 w3 w.heap.size (some ⟨g2, 0, none⟩) 4 (Fr.be4 S) := (ho4.alloc _).grownN hgr hne
      have hne2 : blk A4 ≠ some g2 := by
        rcases hbl with e | e
        · rw [e]; exact hne
        · rw [e]; intro e2; injection e2 with e2; first | omega | (simp at e2; omega)
      have HP := hid (And.intro ho6 hne2)
      clear ho3 ho4 ho5 ho6 hb5 hgr hbl hne hne2 hcg hbel
      go_wp2
      go_roundw
      case rel => exact ⟨k + 1, A4, c4, by omega, by go_num, rfl, HO.out.1, HP.out.1, HP.out.2, HO.out.2⟩
      case measure => simp [RowKit.intOf] <;> omega
    · have e4 : (Fr.be4 S).take k = Fr.be4 S := by rw [show k = 4 by omega]; rfl
      rw [e4] at ho3
      have HK := hid (show k = 4 by omega)
      clear e4 ho4 hne
      go_wp2
      clear hlt hk
      go_loopw [4, 7] (fun b i wr => ∃ k : Nat, ∃ A4 : Option Addr, ∃ c4 : Nat, k ≤ n ∧ i = .int .i64 k ∧ b = .slice A4 (8 + k) c4 ∧ OwnsB 5 wr w.heap.size A4 c4 (Fr.be4 n ++ Fr.be4 S ++ l.take k) ∧ Below w.heap.size w wr) (fun _ i _ => n - (RowKit.intOf i).toNat)
      case atStart => exact ⟨0, A3, c3, by omega, rfl, by rw [HK.out], by simpa using ho3, hbel⟩
      case round =>
        clear ho3 hbel
        obtain ⟨k, A4, c4, hk, rfl, rfl, hown, hbel⟩ := hrel
        have HLN : Hid ((Fr.be4 n ++ Fr.be4 S ++ l.take k).length = 8 + k) := by
          show _ = _; rw [List.length_append, List.length_append, Fr.be4_length, Fr.be4_length, List.length_take, HN.out]; omega
        by_cases hlt : k < n
        · have h1 := h0.below hbel
          have hkl : k < l.length := by rw [HN.out]; exact hlt
          obtain ⟨b, off, rfl, _, hc⟩ := h1.cells k hkl
          have hck := hc k hkl
          have hb8 := h1.small l[k] (List.getElem_mem _)
          have HL : Hid (Fr.be4 n ++ Fr.be4 S ++ l.take k ++ [l[k]] = Fr.be4 n ++ Fr.be4 S ++ l.take (k + 1)) := by
            show _ = _; rw [List.append_assoc (Fr.be4 n ++ Fr.be4 S), List.take_succ_eq_append_getElem hkl]
          clear hc h1
          go_wp2_with (at_builtin; refine wpList_append_byteN rfl _ _ 23 rfl w.heap.size 5 i0 Tryd.underlying23 hi hz0 hz1 hz2 A4 c4 _ (8 + k) HLN.out rfl (hown.alloc _) ⟨wr.heap.size, 0, none⟩ 1 l[k] _ rfl hb8 rfl ?c1 _ HL.out (by omega) ?c2 ?_)
          case c1 => simp
          case c2 => have := hbel.size; simp; omega
          intro A5 c5 w3 ho5 hb5
          have HO := hid (And.intro ho5 ((hbel.alloc hbel.size _).trans hb5))
          clear ho5 hb5 hown hbel hck
          go_wp2
          go_roundw
          case rel => exact ⟨k + 1, A5, c5, by omega, by go_num, rfl, HO.out.1, HO.out.2⟩
          case measure => simp [RowKit.intOf] <;> omega
        · obtain rfl : k = n := by omega
          have e : l.take k = l := by rw [← HN.out, List.take_length]
          rw [e, HF.out] at hown
          clear e hlt hk HLN
          go_wp2
          go_ret2
          exact ⟨A4, c4, rfl, hown, hbel⟩
end Go.Proofs.YtpigekbfngalbaaDoor.Frame
namespace Go.Proofs.YtpigekbfngalbaaDoor.Frame
open Go.RowKit
set_option maxRecDepth 100000

theorem n4_small (l : List Nat) (hl : l.length ≤ 3) (h : ∀ x ∈ l, x < 256) : Fr.n4 l < 16777216 := by
  match l, hl with
  | [], _ => decide
  | [a], _ => have := h a (by simp); simp only [Fr.n4, List.foldl_cons, List.foldl_nil]; omega
  | [a, b], _ =>
    have h1 := h a (by simp)
    have h2 := h b (by simp)
    simp only [Fr.n4, List.foldl_cons, List.foldl_nil]; omega
  | [a, b, c], _ =>
    have h1 := h a (by simp)
    have h2 := h b (by simp)
    have h3 := h c (by simp)
    simp only [Fr.n4, List.foldl_cons, List.foldl_nil]; omega
set_option maxHeartbeats 400000 in
theorem ref_number_any (B : Nat) (A : Option Addr) (c : Nat) (l : List Nat) (n : Nat) (hn : l.length = n) (k : Nat) (hk : k + 4 ≤ n) (hm : n ≤ 140737488355000) (w : World) (h : IsBytes w B A l) :
    Calls Tryd.prog 77 #[.slice A n c, .int .i64 k] w fun e w' => e = .returned (.int .i64 (Fr.n4 ((l.drop k).take 4) : Nat)) ∧ w = w' := by
  have HN := hid hn
  have hlen : (l.drop k).length = n - k := by rw [List.length_drop, hn]
  have HD := hid hlen
  have hsm : ∀ i, i ≤ 3 → Fr.n4 ((l.drop k).take i) < 16777216 := fun i hi => n4_small _ (by rw [List.length_take]; omega) (fun x hx => h.small x (List.mem_of_mem_drop (List.mem_of_mem_take hx)))
  have HSM := hid hsm
  clear hn hlen hsm
  go_enter Tryd.func77, Tryd.ntmps77
  go_wp2
  go_loop [5, 6] (fun v i => ∃ j m : Nat, j ≤ 4 ∧ i = .int .i64 j ∧ v = .int .i64 (m : Int) ∧ Hid (m = Fr.n4 ((l.drop k).take j))) (fun _ i => 4 - (RowKit.intOf i).toNat)
  case atStart => exact ⟨0, 0, by omega, rfl, rfl, hid rfl⟩
  case round =>
    obtain ⟨j, m, hj, rfl, rfl, hs⟩ := hrel
    by_cases hlt : j < 4
    · have hkl : k + j < l.length := by rw [HN.out]; omega
      obtain ⟨b, off, rfl, _, hc⟩ := h.cells (k + j) hkl
      have hck := hc (k + j) hkl
      have hb8 := h.small l[k + j] (List.getElem_mem _)
      have hm7 : m < 16777216 := by rw [hs.out]; exact HSM.out j (by omega)
      have HX : Hid (m * 256 + l[k + j] = Fr.n4 ((l.drop k).take (j + 1))) := by
        show _ = _
        rw [List.take_succ_eq_append_getElem (by rw [HD.out]; omega), Fr.n4_snoc, ← hs.out, List.getElem_drop]
      obtain ⟨x, hx⟩ : ∃ x, x = l[k + j] := ⟨_, rfl⟩
      rw [← hx] at hck hb8 HX
      clear hc hx hkl
      go_wp2
      go_round
      case rel => exact ⟨j + 1, m * 256 + x, by omega, by go_num, by go_num, HX⟩
      case measure => simp [RowKit.intOf] <;> omega
    · have e : m = Fr.n4 ((l.drop k).take 4) := by rw [hs.out, show j = 4 by omega]
      have HE := hid e
      clear e
      go_wp2
      go_ret
      exact ⟨ret_int (by rw [HE.out]), rfl⟩
theorem empty_own (w : World) : OwnsB 5 (w.alloc (.cells #[] 5)) w.heap.size (some ⟨w.heap.size, 0, none⟩) 0 [] :=
  ⟨by simp, rfl, .inr ⟨w.heap.size, 0, #[], rfl, Nat.le_refl _, heap_alloc_new w _, Nat.le_refl _, Nat.zero_le _, rfl, rfl⟩⟩
set_option maxHeartbeats 1600000 in
theorem ref_get_any (B : Nat) (A : Option Addr) (c : Nat) (l : List Nat) (n : Nat) (hn : l.length = n) (hm : n ≤ 140737488355000) (hc : n ≤ c) (w : World) (h : IsBytes w B A l) (hB : B ≤ w.heap.size) :
    Calls Tryd.prog 51 #[.slice A n c] w fun e w' => ∃ A' c', e = .returned (.tuple #[.slice A' (Fr.get l).1.length c', .int .i64 ((Fr.get l).2.1 : Nat), .int .i64 ((Fr.get l).2.2 : Nat)]) ∧ OwnsB 5 w' w.heap.size A' c' (Fr.get l).1 ∧ Below w.heap.size w w' := by
  obtain ⟨i0, hi, hz0, hz1, hz2⟩ := info_parts info_u8
  by_cases h8 : n < 8
  · have e : Fr.get l = ([], 0, 1) := by unfold Fr.get; rw [if_pos (by omega)]
    rw [e]
    go_enter Tryd.func51, Tryd.ntmps51
    go_wp2
    go_ret3
    exact ⟨none, 0, rfl, OwnsB.nil _ _ _, Below.refl _ _⟩
  · obtain ⟨b, off, rfl, _, _⟩ := h.cells 0 (by omega)
    have s4 : ∀ x ∈ l.take 4, x < 256 := fun x hx => h.small x (List.mem_of_mem_take hx)
    have s8 : ∀ x ∈ (l.drop 4).take 4, x < 256 := fun x hx => h.small x (List.mem_of_mem_drop (List.mem_of_mem_take hx))
    have hv := Fr.n4_lt (l.take 4) (by rw [List.length_take]; omega) s4
    obtain ⟨v, hve⟩ : ∃ v, v = Fr.n4 (l.take 4) := ⟨_, rfl⟩
    have R0 := hid (fun (w9 : World) (hb9 : Below w.heap.size w w9) => ref_number_any w.heap.size (some ⟨b, off, none⟩) c l n hn 0 (by omega) hm w9 ((h.more hB).below hb9))
    rw [List.drop_zero, ← hve] at R0
    rw [← hve] at hv
    have hd8 := h.from 8
    have ht4 := h.take 4
    have hq : c = 8 → IsBytes w B (some ⟨b, off, none⟩) (l.drop 8) := fun e => by
      rw [List.drop_of_length_le (by omega)]; exact IsBytes.nil
    by_cases hlong : 65536 < v
    · have e : Fr.get l = ([], 0, 2) := by unfold Fr.get; rw [if_neg (by omega), if_pos (by omega)]
      rw [e]
      clear hve hq hd8 ht4
      go_enter Tryd.func51, Tryd.ntmps51
      go_wp2_with fail
      refine (R0.out _ (Below.refl _ _)).mono ?_
      rintro e w1 ⟨rfl, rfl⟩
      go_wp2
      go_ret3
      exact ⟨none, 0, rfl, OwnsB.nil _ _ _, Below.refl _ _⟩
    · by_cases hshort : n - 8 < v
      · have e : Fr.get l = ([], 0, 1) := by unfold Fr.get; rw [if_neg (by omega), if_neg (by omega), if_pos (by omega)]
        rw [e]
        clear hve hq hd8 ht4
        go_enter Tryd.func51, Tryd.ntmps51
        go_wp2_with fail
        refine (R0.out _ (Below.refl _ _)).mono ?_
        rintro e w1 ⟨rfl, rfl⟩
        go_wp2
        go_ret3
        exact ⟨none, 0, rfl, OwnsB.nil _ _ _, Below.refl _ _⟩
      · obtain ⟨x, hx⟩ : ∃ x, x = Fr.n4 ((l.drop 4).take 4) := ⟨_, rfl⟩
        obtain ⟨y, hy⟩ : ∃ y, y = Fr.sum (l.take 4) ((l.drop 8).take v) := ⟨_, rfl⟩
        obtain ⟨y0, hy0⟩ : ∃ y0, y0 = Crc.more 0 (l.take 4) := ⟨_, rfl⟩
        have hy0' : y0 < 4294967296 := by rw [hy0]; exact Crc.more_lt 0 _ (by omega) s4
        have hyl : y < 4294967296 := by rw [hy]; exact Fr.sum_lt _ _ s4 (fun z hz => h.small z (List.mem_of_mem_drop (List.mem_of_mem_take hz)))
        have hl4 : (l.take 4).length = 4 := by rw [List.length_take]; omega
        have hlv : ((l.drop 8).take v).length = v := by rw [List.length_take, List.length_drop]; omega
        have R4 := hid (fun (w9 : World) (hb9 : Below w.heap.size w w9) => ref_number_any w.heap.size (some ⟨b, off, none⟩) c l n hn 4 (by omega) hm w9 ((h.more hB).below hb9))
        rw [← hx] at R4
        have S1 : ∀ w9, Below w.heap.size w w9 → ∀ j, Calls Tryd.prog 70 #[.slice (some ⟨b, off, none⟩) 4 c] (w9.drewN j) fun e w'' => e = .returned (.int .u32 y0) ∧ ∃ m, w'' = w9.drewN m := by
          intro w9 hb9 j
          have C := ref_of_any w.heap.size (some ⟨b, off, none⟩) c (l.take 4) (by rw [hl4]; unfold maxLen; omega) (w9.drewN j) (((ht4.more hB).below hb9).drewN j)
          rw [hl4, ← hy0] at C
          exact C.mono fun _ _ ⟨h1, h2⟩ => ⟨h1, j, h2.symm⟩
        have S2 : ∀ w9, Below w.heap.size w w9 → ∀ A4 c4, IsBytes w9 w9.heap.size A4 ((l.drop 8).take v) → ∀ j, Calls Tryd.prog 69 #[.int .u32 y0, .slice A4 v c4] (w9.drewN j) fun e w'' => e = .returned (.int .u32 y) ∧ ∃ m, w'' = w9.drewN m := by
          intro w9 hb9 A4 c4 ho j
          have C := ref_more_any y0 hy0' w9.heap.size A4 c4 ((l.drop 8).take v) (by rw [hlv]; unfold maxLen; omega) (w9.drewN j) (ho.drewN j)
          rw [hlv] at C
          have e : Crc.more y0 ((l.drop 8).take v) = y := by rw [hy, hy0]; rfl
          rw [e] at C
          exact C.mono fun _ _ ⟨h1, h2⟩ => ⟨h1, j, h2.symm⟩
        have HOF := hid S1
        have HS := hid S2
        have hlv2 := hid hlv
        have hve2 := hid hve
        have hx2 := hid hx
        have hy2 := hid hy
        have hb3 : v ≤ c - 8 := by omega
        clear S1 S2 ht4 hl4 hlv hve hx hy hy0 s4 s8
        by_cases hsum : x = y
        · have e : Fr.get l = ((l.drop 8).take v, 8 + v, 0) := by
            unfold Fr.get; rw [← hve2.out, if_neg (by omega), if_neg (by omega), if_neg (by omega), ← hx2.out, ← hy2.out, if_neg (by simp [hsum])]
          rw [e]
          have hb : ((x : Int) != (y : Int)) = false := by rw [hsum]; simp
          clear hsum e
          by_cases hc8 : c = 8
          · have q := hq hc8
            clear hd8 hq
            subst hc8
            obtain rfl : v = 0 := by omega
            have hvb : 0 + 0 ≤ 140737488355328 := by omega
            have q2 : IsBytes (w.alloc (.cells #[] 5)) w.heap.size _ ((l.drop 8).take 0) := ((q.take 0).more hB).below ((Below.refl _ _).alloc (Nat.le_refl _) _)
            go_enter Tryd.func51, Tryd.ntmps51
            go_wp2_with fail
            refine (R0.out _ (Below.refl _ _)).mono ?_
            rintro e w1 ⟨rfl, rfl⟩
            go_wp2_with (at_builtin; refine wpList_append_bytesN rfl _ _ 23 rfl w.heap.size 5 i0 Tryd.underlying23 hi hz0 hz1 hz2 (some ⟨w.heap.size, 0, none⟩) 0 [] 0 rfl rfl (empty_own w) w.heap.size (some ⟨b, off, none⟩) 0 ((l.drop 8).take 0) 0 hlv2.out rfl (fun h => by cases h) q2 _ (List.nil_append _) hvb (by simp) ?_)
            intro A4 c4 w4 ho4 hb4'
            have hb4 : Below w.heap.size w w4 := ((Below.refl _ _).alloc (Nat.le_refl _) _).trans hb4'
            have hr4 : IsBytes w4 w4.heap.size A4 ((l.drop 8).take 0) := ho4.reads
            have HM := hid (HS.out w4 hb4 A4 c4 hr4)
            clear q q2 hb4' hr4
            go_wp2
            go_quiet (first
              | (go_at_call 77; exact (R4.out _ (below_drewN hb4 _)).mono fun _ _ ⟨h1, h2⟩ => ⟨h1, _, h2.symm⟩)
              | (go_at_call 70; exact HOF.out _ hb4 _)
              | (go_at_call 69; exact HM.out _))
            go_wp2
            go_ret3
            exact ⟨A4, c4, get_ret hlv2.out.symm (by omega), ho4.drewN _, below_drewN hb4 _⟩
          · have q := hd8
            clear hd8 hq
            have hvb : 0 + v ≤ 140737488355328 := by omega
            have q2 : IsBytes (w.alloc (.cells #[] 5)) w.heap.size _ ((l.drop 8).take v) := ((q.take v).more hB).below ((Below.refl _ _).alloc (Nat.le_refl _) _)
            go_enter Tryd.func51, Tryd.ntmps51
            go_wp2_with fail
            refine (R0.out _ (Below.refl _ _)).mono ?_
            rintro e w1 ⟨rfl, rfl⟩
            go_wp2_with (at_builtin; refine wpList_append_bytesN rfl _ _ 23 rfl w.heap.size 5 i0 Tryd.underlying23 hi hz0 hz1 hz2 (some ⟨w.heap.size, 0, none⟩) 0 [] 0 rfl rfl (empty_own w) w.heap.size (some ⟨b, off + 8, none⟩) (c - 8) ((l.drop 8).take v) _ (by have := hlv2.out; omega) rfl (fun h => by cases h) q2 _ (List.nil_append _) (by omega) (by simp) ?_)
            intro A4 c4 w4 ho4 hb4'
            have hb4 : Below w.heap.size w w4 := ((Below.refl _ _).alloc (Nat.le_refl _) _).trans hb4'
            have hr4 : IsBytes w4 w4.heap.size A4 ((l.drop 8).take v) := ho4.reads
            have HM := hid (HS.out w4 hb4 A4 c4 hr4)
            clear q q2 hb4' hr4
            go_wp2
            go_quiet (first
              | (go_at_call 77; exact (R4.out _ (below_drewN hb4 _)).mono fun _ _ ⟨h1, h2⟩ => ⟨h1, _, h2.symm⟩)
              | (go_at_call 70; exact HOF.out _ hb4 _)
              | (go_at_call 69; exact HM.out _))
            go_wp2
            go_ret3
            exact ⟨A4, c4, get_ret hlv2.out.symm (by omega), ho4.drewN _, below_drewN hb4 _⟩
        · have e : Fr.get l = ([], 0, 5) := by
            unfold Fr.get; rw [← hve2.out, if_neg (by omega), if_neg (by omega), if_neg (by omega), ← hx2.out, ← hy2.out, if_pos hsum]
          rw [e]
          have hb : ((x : Int) != (y : Int)) = true := by rw [bne_iff_ne]; omega
          clear hsum e
          by_cases hc8 : c = 8
          · have q := hq hc8
            clear hd8 hq
            subst hc8
            obtain rfl : v = 0 := by omega
            have hvb : 0 + 0 ≤ 140737488355328 := by omega
            have q2 : IsBytes (w.alloc (.cells #[] 5)) w.heap.size _ ((l.drop 8).take 0) := ((q.take 0).more hB).below ((Below.refl _ _).alloc (Nat.le_refl _) _)
            go_enter Tryd.func51, Tryd.ntmps51
            go_wp2_with fail
            refine (R0.out _ (Below.refl _ _)).mono ?_
            rintro e w1 ⟨rfl, rfl⟩
            go_wp2_with (at_builtin; refine wpList_append_bytesN rfl _ _ 23 rfl w.heap.size 5 i0 Tryd.underlying23 hi hz0 hz1 hz2 (some ⟨w.heap.size, 0, none⟩) 0 [] 0 rfl rfl (empty_own w) w.heap.size (some ⟨b, off, none⟩) 0 ((l.drop 8).take 0) 0 hlv2.out rfl (fun h => by cases h) q2 _ (List.nil_append _) hvb (by simp) ?_)
            intro A4 c4 w4 ho4 hb4'
            have hb4 : Below w.heap.size w w4 := ((Below.refl _ _).alloc (Nat.le_refl _) _).trans hb4'
            have hr4 : IsBytes w4 w4.heap.size A4 ((l.drop 8).take 0) := ho4.reads
            have HM := hid (HS.out w4 hb4 A4 c4 hr4)
            clear q q2 hb4' hr4
            go_wp2
            go_quiet (first
              | (go_at_call 77; exact (R4.out _ (below_drewN hb4 _)).mono fun _ _ ⟨h1, h2⟩ => ⟨h1, _, h2.symm⟩)
              | (go_at_call 70; exact HOF.out _ hb4 _)
              | (go_at_call 69; exact HM.out _))
            go_wp2
            go_ret3
            exact ⟨none, 0, rfl, OwnsB.nil _ _ _, below_drewN hb4 _⟩
          · have q := hd8
            clear hd8 hq
            have hvb : 0 + v ≤ 140737488355328 := by omega
            have q2 : IsBytes (w.alloc (.cells #[] 5)) w.heap.size _ ((l.drop 8).take v) := ((q.take v).more hB).below ((Below.refl _ _).alloc (Nat.le_refl _) _)
            go_enter Tryd.func51, Tryd.ntmps51
            go_wp2_with fail
            refine (R0.out _ (Below.refl _ _)).mono ?_
            rintro e w1 ⟨rfl, rfl⟩
            go_wp2_with (at_builtin; refine wpList_append_bytesN rfl _ _ 23 rfl w.heap.size 5 i0 Tryd.underlying23 hi hz0 hz1 hz2 (some ⟨w.heap.size, 0, none⟩) 0 [] 0 rfl rfl (empty_own w) w.heap.size (some ⟨b, off + 8, none⟩) (c - 8) ((l.drop 8).take v) _ (by have := hlv2.out; omega) rfl (fun h => by cases h) q2 _ (List.nil_append _) (by omega) (by simp) ?_)
            intro A4 c4 w4 ho4 hb4'
            have hb4 : Below w.heap.size w w4 := ((Below.refl _ _).alloc (Nat.le_refl _) _).trans hb4'
            have hr4 : IsBytes w4 w4.heap.size A4 ((l.drop 8).take v) := ho4.reads
            have HM := hid (HS.out w4 hb4 A4 c4 hr4)
            clear q q2 hb4' hr4
            go_wp2
            go_quiet (first
              | (go_at_call 77; exact (R4.out _ (below_drewN hb4 _)).mono fun _ _ ⟨h1, h2⟩ => ⟨h1, _, h2.symm⟩)
              | (go_at_call 70; exact HOF.out _ hb4 _)
              | (go_at_call 69; exact HM.out _))
            go_wp2
            go_ret3
            exact ⟨none, 0, rfl, OwnsB.nil _ _ _, below_drewN hb4 _⟩
theorem ref_get_N (B : Nat) (A : Option Addr) (c : Nat) (l : List Nat) (n : Nat) (hn : l.length = n) (hm : n ≤ 140737488355000) (hc : n ≤ c) (w : World) (h : IsBytes w B A l) (hB : B ≤ w.heap.size)
    (p : List Nat) (m e : Nat) (hg : Fr.get l = (p, m, e)) (k : Nat) (hk : p.length = k) (mi ei : Int) (hmi : (m : Int) = mi) (hei : (e : Int) = ei) :
    Calls Tryd.prog 51 #[.slice A n c] w fun x w' => ∃ A' c', x = .returned (.tuple #[.slice A' k c', .int .i64 mi, .int .i64 ei]) ∧ OwnsB 5 w' w.heap.size A' c' p ∧ Below w.heap.size w w' := by
  have C := ref_get_any B A c l n hn hm hc w h hB
  rw [hg] at C
  subst hk
  subst hmi
  subst hei
  exact C
theorem ref_put_all (B : Nat) (A : Option Addr) (c : Nat) (l : List Nat) (n : Nat) (hn : l.length = n) (w : World) (h : IsBytes w B A l) (hB : B ≤ w.heap.size)
    (p : List Nat) (e : Nat) (hp : putOf l = (p, e)) (k : Nat) (hk : p.length = k) (ei : Int) (hei : (e : Int) = ei) :
    Calls Tryd.prog 47 #[.slice A n c] w fun x w' => ∃ A' c', x = .returned (.tuple #[.slice A' k c', .int .i64 ei]) ∧ OwnsB 5 w' w.heap.size A' c' p ∧ Below w.heap.size w w' := by
  subst hk
  subst hei
  unfold putOf at hp
  by_cases hl : 65536 < l.length
  · rw [if_pos hl] at hp
    injection hp with h1 h2
    subst h1
    subst h2
    refine (ref_put_long A c n (by omega) w).mono ?_
    rintro x w' ⟨rfl, rfl⟩
    exact ⟨none, 0, rfl, OwnsB.nil _ _ _, Below.refl _ _⟩
  · rw [if_neg hl] at hp
    injection hp with h1 h2
    subst h1
    subst h2
    have C := ref_put_any B A c l n hn (by omega) w h hB
    rw [show (Fr.frame l).length = 8 + n from by rw [Fr.frame_length, hn]]
    exact C
end Go.Proofs.YtpigekbfngalbaaDoor.Frame
namespace Go.Proofs.YtpigekbfngalbaaDoor.Ms
open Go.RowKit
set_option linter.unusedVariables false
attribute [local go_sem ↓] loadAt_msg storeAt_msg

set_option maxHeartbeats 1600000 in
set_option maxRecDepth 100000 in
theorem copyE_wide (B : Nat) (A : Option Addr) (c n : Nat) (L : List Rl.En) (hn : L.length = n) (hl : n ≤ 90000) (hf : ∀ e ∈ L, e.d.length ≤ 1000000000) (w : World) (h : IsEnts w B A L) (hB : B ≤ w.heap.size) :
    Calls Tryd.prog 42 #[.slice A n c] w fun e w' => ∃ A' c', e = .returned (.slice A' n c') ∧ OwnE w' w.heap.size w'.heap.size A' c' L ∧ Below w.heap.size w w' := by
  subst hn
  have HH := hid (h.more hB)
  have HF := hid hf
  have H1 : Hid (OwnE w w.heap.size w.heap.size none 0 (L.take 0) ∧ Below w.heap.size w w) := hid ⟨OwnE.nil _ _ _, Below.refl _ _⟩
  clear h hf
  go_enter Tryd.func42, Tryd.ntmps42
  go_wp2_with fail
  go_loopw [3, 4] (fun v i wr => ∃ (k : Nat) (A1 : Option Addr) (c1 : Nat), k ≤ L.length ∧ v = .slice A1 k c1 ∧ i = .int .i64 k ∧ Hid (OwnE wr w.heap.size wr.heap.size A1 c1 (L.take k) ∧ Below w.heap.size w wr)) (fun _ i _ => L.length - (RowKit.intOf i).toNat)
  case atStart => exact ⟨0, _, _, by omega, rfl, rfl, H1⟩
  case round =>
    clear H1
    obtain ⟨k, A1, c1, hk, rfl, rfl, hS⟩ := hrel
    by_cases hlt : k < L.length
    · obtain ⟨b, off, rfl, hbw, hc⟩ := (HH.out.below hS.out.2).cells k hlt
      obtain ⟨Ad, cd, d0, d1, d2, hd, hd2, hd3⟩ := hc k hlt
      have hk0 : (k : Int) < (L.length : Int) := by omega
      have hfk : L[k].d.length ≤ 1000000000 := HF.out _ (List.getElem_mem hlt)
      have hnum := HH.out.num _ (List.getElem_mem hlt)
      have htk : L.take (k + 1) = L.take k ++ [L[k]] := List.take_succ_eq_append_getElem hlt
      obtain ⟨x, hx⟩ : ∃ x, x = L[k] := ⟨_, rfl⟩
      rw [← hx] at d0 d1 d2 hd hd2 hfk hnum htk
      have HX := hid (And.intro hnum htk)
      have HC := hid (copy_N wr.heap.size Ad cd x.d x.d.length rfl (by omega) wr.drew ((hd.more hS.out.2.size).drewN 1) (Nat.le_refl _))
      have HK : Hid (∀ w', Below w.heap.size wr w' → w'.cell? ⟨b, off + k * 3, none⟩ = some (.int .i64 x.t) ∧ w'.cell? ⟨b, off + k * 3 + 1, none⟩ = some (.int .i64 x.k) ∧ w'.cell? ⟨b, off + k * 3 + 2, none⟩ = some (.slice Ad x.d.length cd)) := hid (fun w' hb => ⟨(hb.cell (by show b < _; omega)).trans d0, (hb.cell (by show b < _; omega)).trans d1, (hb.cell (by show b < _; omega)).trans d2⟩)
      have hl5 : k + 1 ≤ 100000 := by omega
      have HLK : Hid ((L.take k).length = k) := hid (by rw [List.length_take]; omega)
      clear hc hx hnum htk hd hd2 hd3 hfk
      go_wp2_with fail
      go_region_held3 (fun w' => w'.cell? ⟨b, off + k * 3, none⟩ = some (.int .i64 x.t) ∧ w'.cell? ⟨b, off + k * 3 + 1, none⟩ = some (.int .i64 x.k) ∧ w'.cell? ⟨b, off + k * 3 + 2, none⟩ = some (.slice Ad x.d.length cd))
        (first | exact HK.out _ (Below.refl _ wr).drew | exact HK.out _ hb2.out | exact HK.out _ (hb2.out.alloc hN2.out _) | exact HK.out _ h6.out.2 | fail)
        (first
          | (refine step_append_ent (by rfl) _ _ (by rfl) (hS.out.1.below (hb1.out.alloc hb1.out.size _)) hS.out.2.size (by rw [World.size_alloc]; have := hb1.out.size; omega) k HLK.out (by rfl) x HX.out.1 A2 c2 (ho2.out.below ((Below.refl _ w2).alloc (Nat.le_refl _) _)) ⟨w2.heap.size, 0, none⟩ 1 (by rfl) (fun j _ => cellsE_new w2 _ rfl ⟨x, A2, c2⟩ _ j) hl5 ?_; intro A6 c6 w6 hE6 hB6; have h6 := hid (And.intro hE6 ((hb2.out.alloc hN2.out _).trans hB6)); clear hE6 hB6)
          | (go_at_call 27; refine HC.out.mono ?_; rintro e w2 ⟨A2, c2, rfl, ho2', hb2'⟩; have ho2 := hid ho2'; have hb1 := hid ((Below.refl _ wr).drew.trans hb2'); have hb2 := hid (hb1.out.mono hS.out.2.size); have hN2 := hid (Nat.le_trans hS.out.2.size hb1.out.size); clear ho2' hb2'))
      all_goals
        (have H6 : Hid (OwnE w6 w.heap.size w6.heap.size A6 c6 (L.take (k + 1)) ∧ Below w.heap.size w w6) := hid ⟨by rw [HX.out.2]; exact h6.out.1, hS.out.2.trans h6.out.2⟩
         clear h6 hb1 hb2 hN2 ho2 HK HC d0 d1 d2
         go_wp2_with fail
         go_roundw
         case rel => exact ⟨k + 1, A6, c6, by omega, rfl, by go_num, H6⟩
         case measure => simp [RowKit.intOf]; omega)
    · obtain rfl : k = L.length := by omega
      have hS1 := hS.out
      rw [List.take_length] at hS1
      have HS := hid hS1
      clear hS hS1
      go_wp2_with fail
      go_ret
      exact ⟨A1, c1, rfl, HS.out.1, HS.out.2⟩

theorem Bx.es {w : World} {b : Nat} {m : M} {A A' : Option Addr} {c c' : Nat} (h : Bx w b m A c A' c') (A2 : Option Addr) (c2 : Nat) : Bx (w.setCell ⟨b, 15, none⟩ (.slice A2 m.es.length c2)) b m A2 c2 A' c' := ⟨by rw [row_set h.row]; rfl⟩
theorem Bx.dt {w : World} {b : Nat} {m : M} {A A' : Option Addr} {c c' : Nat} (h : Bx w b m A c A' c') (A2 : Option Addr) (c2 : Nat) : Bx (w.setCell ⟨b, 16, none⟩ (.slice A2 m.d.length c2)) b m A c A2 c2 := ⟨by rw [row_set h.row]; rfl⟩
set_option maxRecDepth 100000 in
set_option maxHeartbeats 3200000 in
theorem copyM_any (m : M) (A : Option Addr) (c : Nat) (A' : Option Addr) (c' : Nat) (w : World) (h : Is w w.heap.size m A c A' c') (hs : Small m) (hl : m.es.length ≤ 90000) :
    Calls Tryd.prog 15 #[.agg #[.int .i64 m.K, .int .i64 m.F, .int .i64 m.T, .int .i64 m.g, .int .i64 m.t, .int .i64 m.i, .int .i64 m.p, .int .i64 m.c, .int .i64 m.r, .int .i64 m.x, .int .i64 m.a, .int .i64 m.b, .int .i64 m.v, .int .i64 m.s, .bool m.ok, .slice A m.es.length c, .slice A' m.d.length c']] w fun e w' => ∃ A2 c2 A3 c3, e = .returned (.agg #[.int .i64 m.K, .int .i64 m.F, .int .i64 m.T, .int .i64 m.g, .int .i64 m.t, .int .i64 m.i, .int .i64 m.p, .int .i64 m.c, .int .i64 m.r, .int .i64 m.x, .int .i64 m.a, .int .i64 m.b, .int .i64 m.v, .int .i64 m.s, .bool m.ok, .slice A2 m.es.length c2, .slice A3 m.d.length c3]) ∧ Is w' w'.heap.size m A2 c2 A3 c3 ∧ Below w.heap.size w w' := by
  have hw := fun e (he : e ∈ m.es) => Nat.le_trans (weigh_mem he) hs.wt
  obtain ⟨w1, hw1⟩ : ∃ w1, w1 = (w.alloc (.cells #[.int .i64 m.K, .int .i64 m.F, .int .i64 m.T, .int .i64 m.g, .int .i64 m.t, .int .i64 m.i, .int .i64 m.p, .int .i64 m.c, .int .i64 m.r, .int .i64 m.x, .int .i64 m.a, .int .i64 m.b, .int .i64 m.v, .int .i64 m.s, .bool m.ok, .slice A m.es.length c, .slice A' m.d.length c'] 25)).alloc (.cells #[.int .i64 0, .int .i64 0, .int .i64 0, .int .i64 0, .int .i64 0, .int .i64 0, .int .i64 0, .int .i64 0, .int .i64 0, .int .i64 0, .int .i64 0, .int .i64 0, .int .i64 0, .int .i64 0, .bool false, .slice none 0 0, .slice none 0 0] 25) := ⟨_, rfl⟩
  have hb1 : Below w.heap.size w w1 := by rw [hw1]; exact ((Below.refl _ w).alloc (Nat.le_refl _) _).alloc (by simp) _
  have hz1 : w1.heap[w.heap.size + 1]? = some (.cells #[.int .i64 0, .int .i64 0, .int .i64 0, .int .i64 0, .int .i64 0, .int .i64 0, .int .i64 0, .int .i64 0, .int .i64 0, .int .i64 0, .int .i64 0, .int .i64 0, .int .i64 0, .int .i64 0, .bool false, .slice none 0 0, .slice none 0 0] 25 (0, 0)) := by
    have h0 : (w.alloc (.cells #[.int .i64 m.K, .int .i64 m.F, .int .i64 m.T, .int .i64 m.g, .int .i64 m.t, .int .i64 m.i, .int .i64 m.p, .int .i64 m.c, .int .i64 m.r, .int .i64 m.x, .int .i64 m.a, .int .i64 m.b, .int .i64 m.v, .int .i64 m.s, .bool m.ok, .slice A m.es.length c, .slice A' m.d.length c'] 25)).heap.size = w.heap.size + 1 := by simp
    rw [hw1, ← h0]; exact heap_alloc_new _ _
  have hbx : Bx w1 w.heap.size m A c A' c' := ⟨by
    have h0 : (w.alloc (.cells #[.int .i64 m.K, .int .i64 m.F, .int .i64 m.T, .int .i64 m.g, .int .i64 m.t, .int .i64 m.i, .int .i64 m.p, .int .i64 m.c, .int .i64 m.r, .int .i64 m.x, .int .i64 m.a, .int .i64 m.b, .int .i64 m.v, .int .i64 m.s, .bool m.ok, .slice A m.es.length c, .slice A' m.d.length c'] 25)).heap.size = w.heap.size + 1 := by simp
    rw [hw1]
    exact ((Below.refl _ (w.alloc (.cells #[.int .i64 m.K, .int .i64 m.F, .int .i64 m.T, .int .i64 m.g, .int .i64 m.t, .int .i64 m.i, .int .i64 m.p, .int .i64 m.c, .int .i64 m.r, .int .i64 m.x, .int .i64 m.a, .int .i64 m.b, .int .i64 m.v, .int .i64 m.s, .bool m.ok, .slice A m.es.length c, .slice A' m.d.length c'] 25))).alloc (Nat.le_refl _) _).block _ (by omega) |>.trans (heap_alloc_new w _)⟩
  have HX1 := hid (And.intro hbx (And.intro hb1 hz1))
  have HI := hid h
  have HS := hid hs
  have HC := hid (copyE_wide w.heap.size A c m.es.length m.es rfl hl hw w1 (h.es.below hb1) hb1.size)
  have hc15 := hbx.c15
  clear h hs hw hbx hb1 hz1
  go_enter Tryd.func15, Tryd.ntmps15
  rw [hw1] at hc15
  go_wp2_with fail
  rw [← hw1]
  clear hw1 hc15
  refine HC.out.mono ?_
  rintro e w2 ⟨A2, c2, rfl, ho2, hb2⟩
  have hx2 : Bx w2 w.heap.size m A c A' c' := HX1.out.1.below hb2 (by have := row_lt HX1.out.2.2; omega)
  have hz2 := (hb2.block _ (row_lt HX1.out.2.2)).trans HX1.out.2.2
  have hE2 := ho2
  have HB2 := hid (HX1.out.2.1.trans (hb2.mono HX1.out.2.1.size))
  have hs1 : w.heap.size + 1 < w1.heap.size := row_lt HX1.out.2.2
  have hf2 := row_free hx2.row 15
  have hd2 := hx2.c15
  obtain ⟨w3, hw3⟩ : ∃ w3, w3 = w2.setCell ⟨w.heap.size, 15, none⟩ (.slice A2 m.es.length c2) := ⟨_, rfl⟩
  have hx3 : Bx w3 w.heap.size m A2 c2 A' c' := by rw [hw3]; exact hx2.es A2 c2
  have ht3 : Turned (fun k => k = w.heap.size) w2 w3 := by rw [hw3]; exact Turned.ofGrown (grown_setCell _ _ _ _) (fun k hk => (Option.some.inj hk).symm)
  have hz3 := (ht3.block _ (row_lt hz2) (by omega)).trans hz2
  have hE3 := (hE2.keep ht3 (fun k hk hB => by have := hB.1; omega)).wide (Nat.le_refl _) ht3.size
  have hb3 : Below w.heap.size w w3 := HB2.out.trans ⟨ht3.os, ht3.tape, ht3.output, ht3.size, fun k hk => ht3.block k (Nat.lt_of_lt_of_le hk HB2.out.size) (by omega)⟩
  have HX3 := hid (And.intro hx3 (And.intro hb3 (And.intro hz3 hE3)))
  have HC3 := hid (copy_N w.heap.size A' c' m.d m.d.length rfl (by have := HS.out.d; omega) w3 (HI.out.d.below hb3) hb3.size)
  have hc16 := hx3.c16
  rw [hw3] at hc16
  clear ho2 hb2 hx2 hz2 hE2 hx3 ht3 hz3 hE3 hb3 HC
  go_wp2_with fail
  rw [← hw3]
  clear hw3 hc16 hf2 hd2
  refine HC3.out.mono ?_
  rintro e w4 ⟨A3, c3, rfl, ho4, hb4⟩
  have hx4 : Bx w4 w.heap.size m A2 c2 A' c' := HX3.out.1.below hb4 (row_lt HX3.out.1.row)
  have hz4 := (hb4.block _ (row_lt HX3.out.2.2.1)).trans HX3.out.2.2.1
  have hE4 := HX3.out.2.2.2.below hb4
  have HB4 := hid (HX3.out.2.1.trans (hb4.mono HX3.out.2.1.size))
  have hs3 : w.heap.size + 1 < w3.heap.size := row_lt HX3.out.2.2.1
  have hf4 := row_free hx4.row 16
  have hd4 := hx4.c16
  obtain ⟨w5, hw5⟩ : ∃ w5, w5 = w4.setCell ⟨w.heap.size, 16, none⟩ (.slice A3 m.d.length c3) := ⟨_, rfl⟩
  have hx5 : Bx w5 w.heap.size m A2 c2 A3 c3 := by rw [hw5]; exact hx4.dt A3 c3
  have ht5 : Turned (fun k => k = w.heap.size) w4 w5 := by rw [hw5]; exact Turned.ofGrown (grown_setCell _ _ _ _) (fun k hk => (Option.some.inj hk).symm)
  have hz5 := (ht5.block _ (row_lt hz4) (by omega)).trans hz4
  have hE5 := hE4.keep ht5 (fun k hk hB => by have := hB.1; omega)
  have hO5 := ho4.turned ht5 (fun k hk e => by have := ho4.blkLt k hk; omega)
  have hb5 : Below w.heap.size w w5 := HB4.out.trans ⟨ht5.os, ht5.tape, ht5.output, ht5.size, fun k hk => ht5.block k (Nat.lt_of_lt_of_le hk HB4.out.size) (by omega)⟩
  have hn5 : w3.heap.size ≤ w5.heap.size := Nat.le_trans hb4.size ht5.size
  obtain ⟨w6, hw6⟩ : ∃ w6, w6 = w5.setRow (w.heap.size + 1) (#[.int .i64 m.K, .int .i64 m.F, .int .i64 m.T, .int .i64 m.g, .int .i64 m.t, .int .i64 m.i, .int .i64 m.p, .int .i64 m.c, .int .i64 m.r, .int .i64 m.x, .int .i64 m.a, .int .i64 m.b, .int .i64 m.v, .int .i64 m.s, .bool m.ok, .slice A2 m.es.length c2, .slice A3 m.d.length c3]) := ⟨_, rfl⟩
  have hst := st_row w5 (w.heap.size + 1) _ (#[.int .i64 m.K, .int .i64 m.F, .int .i64 m.T, .int .i64 m.g, .int .i64 m.t, .int .i64 m.i, .int .i64 m.p, .int .i64 m.c, .int .i64 m.r, .int .i64 m.x, .int .i64 m.a, .int .i64 m.b, .int .i64 m.v, .int .i64 m.s, .bool m.ok, .slice A2 m.es.length c2, .slice A3 m.d.length c3]) hz5 rfl rfl (msg_one m A2 c2 A3 c3)
  have ht6 : Turned (fun k => k = w.heap.size + 1) w5 w6 := by rw [hw6]; exact set_turned _ _ _
  have hE6 := hE5.keep ht6 (fun k hk hB => by have := hB.1; omega)
  have hO6 := hO5.turned ht6 (fun k hk e => by have := ho4.blkLt k hk; omega)
  have hb6 : Below w.heap.size w w6 := hb5.trans ⟨ht6.os, ht6.tape, ht6.output, ht6.size, fun k hk => ht6.block k (Nat.lt_of_lt_of_le hk hb5.size) (by omega)⟩
  have hI6 : Is w6 w6.heap.size m A2 c2 A3 c3 := ⟨HI.out.num, hE6.reads.more (Nat.le_trans hn5 ht6.size), hE6.room, hE6.none_, hO6.reads, hO6.room, hO6.none_⟩
  have hr : w6.heap[w.heap.size + 1]? = some (.cells (#[.int .i64 m.K, .int .i64 m.F, .int .i64 m.T, .int .i64 m.g, .int .i64 m.t, .int .i64 m.i, .int .i64 m.p, .int .i64 m.c, .int .i64 m.r, .int .i64 m.x, .int .i64 m.a, .int .i64 m.b, .int .i64 m.v, .int .i64 m.s, .bool m.ok, .slice A2 m.es.length c2, .slice A3 m.d.length c3]) 25 (0, 0)) := by rw [hw6]; exact setRow_heap _ _ _ _ _ _ hz5
  have HR := hid hr
  have hld5 := hx5.load
  have HF := hid (And.intro hI6 hb6)
  rw [hw5] at hld5
  rw [← hw6, hw5] at hst
  clear hx4 hz4 hE4 ho4 hb4 hx5 ht5 hz5 hE5 hO5 hb5 ht6 hE6 hO6 hb6 hI6 HC3 hw6 hr
  go_wp2_with fail
  refine bodyPost_ret (results_cell_row rfl _ _ (w.heap.size + 1) _ _ _ _ rfl HR.out Tryd.underlying25 rfl (by rw [info_msg]; rfl)) rfl ?_
  exact ⟨A2, c2, A3, c3, rfl, HF.out.1, HF.out.2⟩
end Go.Proofs.YtpigekbfngalbaaDoor.Ms
namespace Go.Proofs.YtpigekbfngalbaaDoor.Ms
open Go.RowKit
set_option maxRecDepth 100000
set_option linter.unusedVariables false
attribute [local go_sem ↓] loadAt_msg storeAt_msg

/-- bytes that the document's Put has put, beside what lies there -/
structure Sq (X : World → Prop) (w W : World) (A : Option Addr) (c : Nat) (l : List Nat) (q : Nat) : Prop where
  own : OwnsB 5 W w.heap.size A c l
  len : l.length = q
  bel : Below w.heap.size w W
  x : X W
def Up (X : World → Prop) : Prop := ∀ a b, X a → Below a.heap.size a b → X b
theorem Sq.to {X X' : World → Prop} {w W W' : World} {A : Option Addr} {c : Nat} {l : List Nat} {q : Nat} (h : Sq X w W A c l q) (hb : Below W.heap.size W W') (hx : X' W') : Sq X' w W' A c l q :=
  ⟨h.own.below hb, h.len, h.bel.trans (hb.mono h.bel.size), hx⟩
theorem Sq.drew {X : World → Prop} (hX : Up X) {w W : World} {A : Option Addr} {c : Nat} {l : List Nat} {q : Nat} (h : Sq X w W A c l q) : Sq X w W.drew A c l q :=
  ⟨h.own.drew, h.len, h.bel.drew, hX _ _ h.x (Below.refl _ W).drew⟩
theorem Sq.int {X : World → Prop} (hX : Up X) {w W : World} {A : Option Addr} {c : Nat} {l : List Nat} {q : Nat} (h : Sq X w W A c l q) (v : Int) (hv : InInt v) (hq : q ≤ 140737488354000) :
    Calls Tryd.prog 45 #[.slice A q c, .int .i64 v] W fun e w' => ∃ A' c', e = .returned (.slice A' (q + 8) c') ∧ Sq X w w' A' c' (l ++ Pk.enc v) (q + 8) := by
  obtain ⟨ho, hl, hb, hx⟩ := h
  subst hl
  refine (refInt_any W.heap.size A c l v hv hq W ho.reads (Nat.le_refl _)).mono ?_
  rintro e w' ⟨A', c', he, h1, h2⟩
  exact ⟨A', c', he, h1.weaken hb.size, by rw [List.length_append, Pk.enc_length], hb.trans (h2.mono hb.size), hX _ _ hx h2⟩
theorem Sq.blob {X : World → Prop} (hX : Up X) {w W : World} {A A' : Option Addr} {c c' : Nat} {l p : List Nat} {q : Nat} (h : Sq X w W A c l q) (hp : IsBytes w w.heap.size A' p) (hq : q + p.length ≤ 140737488354000) :
    Calls Tryd.prog 46 #[.slice A q c, .slice A' p.length c'] W fun e w' => ∃ A2 c2, e = .returned (.slice A2 (q + 8 + p.length) c2) ∧ Sq X w w' A2 c2 (l ++ (Pk.enc p.length ++ p)) (q + 8 + p.length) := by
  obtain ⟨ho, hl, hb, hx⟩ := h
  subst hl
  refine (refBlob_any W.heap.size A c l w.heap.size A' c' p hq W ho.reads (Nat.le_refl _) (hp.below hb) hb.size).mono ?_
  rintro e w' ⟨A2, c2, he, h1, h2⟩
  exact ⟨A2, c2, he, h1.weaken hb.size, by rw [List.length_append, List.length_append, Pk.enc_length]; omega, hb.trans (h2.mono hb.size), hX _ _ hx h2⟩
theorem tab_case (k : Nat) (hk : k < 12) (r : Nat) (hr : r ∈ tab k) : (r = 111 ∧ rix r = 11) ∨ (r = 101 ∧ rix r = 12) ∨ (r = 100 ∧ rix r = 13) ∨ ∃ d : Nat, d < 11 ∧ allR[d]? = some r ∧ rix r = (d : Int) ∧ isNum r = true ∧ r ≠ 111 ∧ r ≠ 101 ∧ r ≠ 100 := by
  have key : ∀ k ∈ List.range 12, ∀ r ∈ tab k, (r = 111 ∧ rix r = 11) ∨ (r = 101 ∧ rix r = 12) ∨ (r = 100 ∧ rix r = 13) ∨ ∃ d : Nat, d ∈ List.range 11 ∧ allR[d]? = some r ∧ rix r = (d : Int) ∧ isNum r = true ∧ r ≠ 111 ∧ r ≠ 101 ∧ r ≠ 100 := by decide
  rcases key k (List.mem_range.2 hk) r hr with h | h | h | ⟨d, hd, h⟩
  · exact .inl h
  · exact .inr (.inl h)
  · exact .inr (.inr (.inl h))
  · exact .inr (.inr (.inr ⟨d, List.mem_range.1 hd, h⟩))
set_option maxHeartbeats 6400000 in
theorem rput_any (m : M) (A : Option Addr) (c : Nat) (A' : Option Addr) (c' : Nat) (w : World) (h : Is w w.heap.size m A c A' c') (hs : Small m) :
    Calls Tryd.prog 17 #[.agg #[.int .i64 m.K, .int .i64 m.F, .int .i64 m.T, .int .i64 m.g, .int .i64 m.t, .int .i64 m.i, .int .i64 m.p, .int .i64 m.c, .int .i64 m.r, .int .i64 m.x, .int .i64 m.a, .int .i64 m.b, .int .i64 m.v, .int .i64 m.s, .bool m.ok, .slice A m.es.length c, .slice A' m.d.length c']] w fun e w' => ∃ A2 c2, e = .returned (.tuple #[.slice A2 (put m).1.length c2, .int .i64 (((put m).2 : Nat) : Int)]) ∧ OwnsB 5 w' w.heap.size A2 c2 (put m).1 ∧ Below w.heap.size w w' := by
  obtain ⟨w1, hw1⟩ : ∃ w1, w1 = w.alloc (.cells #[.int .i64 m.K, .int .i64 m.F, .int .i64 m.T, .int .i64 m.g, .int .i64 m.t, .int .i64 m.i, .int .i64 m.p, .int .i64 m.c, .int .i64 m.r, .int .i64 m.x, .int .i64 m.a, .int .i64 m.b, .int .i64 m.v, .int .i64 m.s, .bool m.ok, .slice A m.es.length c, .slice A' m.d.length c'] 25) := ⟨_, rfl⟩
  have hbx : Bx w1 w.heap.size m A c A' c' := ⟨by rw [hw1]; exact heap_alloc_new w _⟩
  have hb1 : Below w.heap.size w w1 := by rw [hw1]; exact (Below.refl _ w).alloc (Nat.le_refl _) _
  have HX1 := hid (And.intro hbx hb1)
  have HI := hid h
  have HS := hid hs
  have hld1 := hbx.load
  have HC := hid (rcheck_any m A c A' c' w1 ((h.below hb1).more hb1.size) hs)
  clear h hs hbx hb1
  go_enter Tryd.func17, Tryd.ntmps17
  rw [hw1] at hld1
  go_wp2_with fail
  rw [← hw1]
  clear hw1 hld1
  refine HC.out.mono ?_
  rintro e w2 ⟨rfl, hb2⟩
  have HB2 := hid (HX1.out.2.trans (hb2.mono HX1.out.2.size))
  have HX2 := hid (HX1.out.1.below hb2 (row_lt HX1.out.1.row))
  clear hb2 HC
  by_cases hc : check m = 0
  rotate_left
  · have HP : Hid (put m = ([], check m)) := hid (by unfold put; rw [if_neg hc])
    obtain ⟨v, hv⟩ : ∃ v : Int, v = ((check m : Nat) : Int) := ⟨_, rfl⟩
    have hv0 : v ≠ 0 := by rw [hv]; omega
    rw [← hv]
    clear hc
    go_wp2_with fail
    go_ret2
    rw [HP.out]
    dsimp only
    rw [← hv]
    exact ⟨none, 0, rfl, OwnsB.nil _ _ _, HB2.out⟩
  have HCK := hid hc
  rw [hc]
  have hup : Up (fun W => Bx W w.heap.size m A c A' c') := fun a b h hb => h.below hb (row_lt h.row)
  have H0 : Hid (Sq (fun W => Bx W w.heap.size m A c A' c') w w2.drew none 0 [] 0) := hid ⟨OwnsB.nil _ _ _, rfl, HB2.out.drew, hup _ _ HX2.out (Below.refl _ w2).drew⟩
  have HUP := hid hup
  have hcs : ∀ W, Bx W w.heap.size m A c A' c' → W.cell? ⟨w.heap.size, 0, none⟩ = some (.int .i64 m.K) ∧ W.cell? ⟨w.heap.size, 1, none⟩ = some (.int .i64 m.F) ∧ W.cell? ⟨w.heap.size, 2, none⟩ = some (.int .i64 m.T) := fun W h => ⟨h.cell 0, h.cell 1, h.cell 2⟩
  have HCS := hid hcs
  have hn3 : InInt m.K ∧ InInt m.F ∧ InInt m.T := ⟨HI.out.num 75 (by decide), HI.out.num 70 (by decide), HI.out.num 84 (by decide)⟩
  have HN3 := hid hn3
  clear hc hup hcs hn3
  go_wp2_with fail
  go_region_held3 (fun W => W.cell? ⟨w.heap.size, 0, none⟩ = some (.int .i64 m.K) ∧ W.cell? ⟨w.heap.size, 1, none⟩ = some (.int .i64 m.F) ∧ W.cell? ⟨w.heap.size, 2, none⟩ = some (.int .i64 m.T))
    (first | exact HCS.out _ H5.out.x | exact HCS.out _ H4.out.x | exact HCS.out _ H3.out.x | exact HCS.out _ H0.out.x | fail)
    (first
      | (go_at_call 45; refine (H4.out.int HUP.out m.T HN3.out.2.2 (by omega)).mono ?_; rintro e w5 ⟨A5, c5, rfl, h5⟩; have H5 := hid h5; clear h5)
      | (go_at_call 45; refine (H3.out.int HUP.out m.F HN3.out.2.1 (by omega)).mono ?_; rintro e w4 ⟨A4, c4, rfl, h4⟩; have H4 := hid h4; clear h4)
      | (go_at_call 45; refine (H0.out.int HUP.out m.K HN3.out.1 (by omega)).mono ?_; rintro e w3 ⟨A3, c3, rfl, h3⟩; have H3 := hid h3; clear h3)
      | fail)
  have HH := hid (has_any m.K w5)
  have HB5 := hid H5.out.bel
  clear H0 H3 H4
  go_wp2_with fail
  refine HH.out.mono ?_
  rintro e w6 ⟨AH, cH, rfl, hh6, hcH, hb6⟩
  have H6 := hid (H5.out.to (X' := fun W => Bx W w.heap.size m A c A' c') hb6 (HUP.out _ _ H5.out.x hb6))
  have HH6 := hid hh6
  have hld6 := H6.out.x.load
  have HNB := hid (numbers_any m A c A' c' w6 HI.out.num)
  obtain ⟨nh, hnh⟩ : ∃ nh, nh = (hasL m.K).length := ⟨_, rfl⟩
  rw [← hnh] at hcH ⊢
  have HNH := hid hnh
  clear hb6 hh6 hnh HH H5
  go_wp2_with fail
  refine HNB.out.mono ?_
  rintro e w7 ⟨AN, rfl, hn7, hb7⟩
  have hup2 : Up (fun W => Bx W w.heap.size m A c A' c' ∧ IsInts W W.heap.size AH (hasL m.K) ∧ IsInts W W.heap.size AN m.numsL) := fun a b h hb => ⟨h.1.below hb (row_lt h.1.row), (h.2.1.below hb).more hb.size, (h.2.2.below hb).more hb.size⟩
  have HUQ := hid hup2
  have H7 := hid (H6.out.to (X' := fun W => Bx W w.heap.size m A c A' c' ∧ IsInts W W.heap.size AH (hasL m.K) ∧ IsInts W W.heap.size AN m.numsL) hb7 ⟨HUP.out _ _ H6.out.x hb7, (HH6.out.below hb7).more hb7.size, hn7⟩)
  clear hn7 hb7 HNB hup2 H6 HH6 hld6 HUP HCS
  go_wp2_with fail
  have HZ0 := hid HCK.out
  have HZ : Hid (m.isKind = true ∧ m.foreign = false ∧ ¬ 65536 < m.size) := hid (by
    have := HCK.out
    unfold check at this
    by_cases hk : m.isKind = false
    · rw [if_pos hk] at this; cases this
    · rw [if_neg hk] at this
      by_cases hf : m.foreign = true
      · rw [if_pos hf] at this; cases this
      · rw [if_neg hf] at this
        by_cases hr : m.inRange = false
        · rw [if_pos hr] at this; cases this
        · rw [if_neg hr] at this
          by_cases hl : 1024 < m.es.length ∨ 65536 < m.size
          · rw [if_pos hl] at this; cases this
          · exact ⟨by simpa using hk, by simpa using hf, fun h => hl (.inr h)⟩)
  have hkk : 1 ≤ m.K ∧ m.K ≤ 11 := by
    have := HCK.out
    unfold check at this
    by_cases hk : m.isKind = false
    · rw [if_pos hk] at this; cases this
    · unfold M.isKind at hk; simp at hk; exact hk
  have hnt : nh = (tab m.kind).length := by rw [HNH.out]; exact (has_len m.K hkk).1
  have HKK := hid (And.intro hkk hnt)
  have hn7 : nh ≤ 7 := by rw [hnt]; exact tab_length _
  have e7 : encTo m (3 + 0) = [] ++ Pk.enc m.K ++ Pk.enc m.F ++ Pk.enc m.T := by simp [encTo, head, M.encF, M.num]
  have h7 := H7.out
  rw [← e7] at h7
  have H8 := hid h7
  clear hkk hnt H7 h7 e7 HCK
  go_loopw [5, 8, 9, 10, 11] (fun b i _ _ _ wr => ∃ (j : Nat) (A1 : Option Addr) (c1 q : Nat), j ≤ nh ∧ i = .int .i64 (j : Int) ∧ b = .slice A1 q c1 ∧ Hid (Sq (fun W => Bx W w.heap.size m A c A' c' ∧ IsInts W W.heap.size AH (hasL m.K) ∧ IsInts W W.heap.size AN m.numsL) w wr A1 c1 (encTo m (3 + j)) q)) (fun _ i _ _ _ _ => nh - (RowKit.intOf i).toNat)
  case atStart => exact ⟨0, A5, c5, _, Nat.zero_le _, rfl, rfl, H8⟩
  case round =>
    clear H8
    obtain ⟨j, A1, c1, q, hj, rfl, rfl, HQ⟩ := hrel
    have hq : q ≤ 10100000000 := by rw [← HQ.out.len]; exact encTo_le m _ HS.out
    by_cases hlt : j < nh
    · have htl : j < (tab m.kind).length := by rw [← HKK.out.2]; exact hlt
      have hfl : 3 + j < (head ++ tab m.kind).length := by rw [List.length_append]; have : head.length = 3 := rfl; omega
      obtain ⟨r, hr⟩ : ∃ r, r = (tab m.kind)[j] := ⟨_, rfl⟩
      have hnx : encTo m (3 + j) ++ m.encF r = encTo m (3 + (j + 1)) := by
        have e := encTo_next m (3 + j) hfl
        have e2 : (head ++ tab m.kind)[3 + j] = r := by rw [List.getElem_append_right (by show 3 ≤ 3 + j; omega), hr]; congr 1; show 3 + j - 3 = j; omega
        rw [e2] at e; exact e
      have hmem : r ∈ tab m.kind := by rw [hr]; exact List.getElem_mem htl
      have hkl : m.kind < 12 := by unfold M.kind; have := HKK.out.1; omega
      have hhl : j < (hasL m.K).length := by rw [← HNH.out]; exact hlt
      have hhr : (hasL m.K)[j]'hhl = rix r := by
        have : hasL m.K = (tab m.kind).map rix := by unfold hasL; rw [if_pos HKK.out.1]; rfl
        rw [hr]; simp [this]
      obtain ⟨bh, oh, hAH, _, hch⟩ := HQ.out.x.2.1.cells j hhl
      have hcj := hch j hhl
      rw [hhr] at hcj
      have HNX := hid hnx
      have HR := hid (And.intro hmem hkl)
      subst hAH
      clear hnx hr hch hhr htl hfl
      rcases tab_case m.kind hkl r hmem with ⟨e1, e2⟩ | ⟨e1, e2⟩ | ⟨e1, e2⟩ | ⟨d, hd, hdr, e2, hin, n1, n2, n3⟩
      · rw [e2] at hcj
        have HNY : Hid (encTo m (3 + j) ++ Pk.enc (if m.ok = true then 1 else 0) = encTo m (3 + (j + 1))) := hid (by rw [← HNX.out, e1]; rfl)
        clear e1 e2 hmem hkl hhl
        have hc14 := HQ.out.x.1.c14
        obtain ⟨ok, hok⟩ : ∃ b, b = m.ok := ⟨_, rfl⟩
        rw [← hok] at hc14 HNY
        have HI1 := hid (HQ.out.int HUQ.out (if ok = true then 1 else 0) (by unfold InInt; split <;> omega) (by omega))
        clear hok
        cases ok
        all_goals
          (go_wp2_with fail
           refine HI1.out.mono ?_
           rintro e w8 ⟨A8, c8, rfl, h8⟩
           rw [HNY.out] at h8
           have H8 := hid h8
           clear h8
           go_wp2_with fail
           go_roundw
           case rel => exact ⟨j + 1, A8, c8, _, by omega, by go_num, rfl, H8⟩
           case measure => simp [RowKit.intOf]; omega)
      · rw [e2] at hcj
        have HNY : Hid (esTo (encTo m (3 + j)) m m.es.length = encTo m (3 + (j + 1))) := hid (by rw [← HNX.out, e1]; unfold esTo; rw [List.take_length]; rfl)
        clear e1 e2 hmem hkl hhl
        have hc15 := HQ.out.x.1.c15
        have hesl := HS.out.es
        have HI1 := hid (HQ.out.int HUQ.out (m.es.length : Int) (by unfold InInt; omega) (by omega))
        obtain ⟨l0, hl0⟩ : ∃ l0, l0 = encTo m (3 + j) := ⟨_, rfl⟩
        rw [← hl0] at HNY HI1
        have HQ0 := hid hq
        have HL0 : Hid (l0.length = q) := hid (by rw [hl0]; exact HQ.out.len)
        clear hl0
        go_wp2_with fail
        refine HI1.out.mono ?_
        rintro e w8 ⟨A8, c8, rfl, h8⟩
        have H8 : Hid (Sq (fun W => Bx W w.heap.size m A c A' c' ∧ IsInts W W.heap.size (some ⟨bh, oh, none⟩) (hasL m.K) ∧ IsInts W W.heap.size AN m.numsL) w w8 A8 c8 (esTo l0 m 0) (q + 8)) := hid (by simpa [esTo] using h8)
        clear h8 HI1 hc15
        go_wp2_with fail
        go_loopw [5, 10, 11] (fun b i _ wr => ∃ (k : Nat) (A3 : Option Addr) (c3 q3 : Nat), k ≤ m.es.length ∧ i = .int .i64 (k : Int) ∧ b = .slice A3 q3 c3 ∧ Hid (Sq (fun W => Bx W w.heap.size m A c A' c' ∧ IsInts W W.heap.size (some ⟨bh, oh, none⟩) (hasL m.K) ∧ IsInts W W.heap.size AN m.numsL) w wr A3 c3 (esTo l0 m k) q3)) (fun _ i _ _ => m.es.length - (RowKit.intOf i).toNat)
        case atStart => exact ⟨0, A8, c8, _, Nat.zero_le _, rfl, rfl, H8⟩
        case round =>
          clear H8 HQ hcj hq
          obtain ⟨k, A3, c3, q3, hk, rfl, rfl, HK⟩ := hrel
          have hql : q3 ≤ 100000000000 := by
            have e := HK.out.len
            rw [esTo_length l0 m k q HL0.out hk] at e
            have h1 := Nat.le_trans (weigh_le m.es k) HS.out.wt
            have h2 := HQ0.out
            omega
          have hc15 := HK.out.x.1.c15
          by_cases hlt2 : k < m.es.length
          · obtain ⟨b, off, hA, hbb, hcs⟩ := HI.out.es.cells k hlt2
            obtain ⟨A4, c4, f0, f1, f2, hby, _, _⟩ := hcs k hlt2
            have e0 := (HK.out.bel.cell hbb).trans f0
            have e1 := (HK.out.bel.cell hbb).trans f1
            have e2 := (HK.out.bel.cell hbb).trans f2
            have hnum := HI.out.es.num _ (List.getElem_mem hlt2)
            have hdl := Nat.le_trans (weigh_mem (List.getElem_mem hlt2)) HS.out.wt
            have hex := esTo_next l0 m k hlt2
            subst hA
            clear f0 f1 f2 hcs
            generalize m.es[k] = x at e0 e1 e2 hby hnum hdl hex
            have HNU := hid hnum
            have HBY := hid hby
            have HEX := hid hex
            clear hnum hby hex hbb
            obtain ⟨w9, hw9⟩ : ∃ w9, w9 = wr.alloc (.cells #[.int .i64 x.t, .int .i64 x.k, .slice A4 x.d.length c4] 61) := ⟨_, rfl⟩
            have hb9 : Below wr.heap.size wr w9 := by rw [hw9]; exact (Below.refl _ wr).alloc (Nat.le_refl _) _
            have hr9 : w9.heap[wr.heap.size]? = some (.cells #[.int .i64 x.t, .int .i64 x.k, .slice A4 x.d.length c4] 61 (0, 0)) := by rw [hw9]; exact heap_alloc_new wr _
            have hup4 : Up (fun W => (Bx W w.heap.size m (some ⟨b, off, none⟩) c A' c' ∧ IsInts W W.heap.size (some ⟨bh, oh, none⟩) (hasL m.K) ∧ IsInts W W.heap.size AN m.numsL) ∧ W.heap[wr.heap.size]? = some (.cells #[.int .i64 x.t, .int .i64 x.k, .slice A4 x.d.length c4] 61 (0, 0))) := fun a b h hb => ⟨HUQ.out a b h.1 hb, (hb.block _ (row_lt h.2)).trans h.2⟩
            have HU4 := hid hup4
            have H9 := hid (HK.out.to (X' := fun W => (Bx W w.heap.size m (some ⟨b, off, none⟩) c A' c' ∧ IsInts W W.heap.size (some ⟨bh, oh, none⟩) (hasL m.K) ∧ IsInts W W.heap.size AN m.numsL) ∧ W.heap[wr.heap.size]? = some (.cells #[.int .i64 x.t, .int .i64 x.k, .slice A4 x.d.length c4] 61 (0, 0))) hb9 ⟨HUQ.out _ _ HK.out.x hb9, hr9⟩)
            have H9d := hid (H9.out.drew hup4)
            have HCE : Hid (∀ W : World, W.heap[wr.heap.size]? = some (.cells #[.int .i64 x.t, .int .i64 x.k, .slice A4 x.d.length c4] 61 (0, 0)) → EnC W wr.heap.size x A4 c4) := hid fun W h => ⟨cell_of_row _ _ 0 _ _ (0, 0) h, cell_of_row _ _ 1 _ _ (0, 0) h, cell_of_row _ _ 2 _ _ (0, 0) h⟩
            clear hup4 hb9 hr9
            go_wp2_with fail
            rw [← hw9]
            clear hw9 e0 e1 e2
            go_region_held3 (fun W => W.cell? ⟨wr.heap.size, 0, none⟩ = some (.int .i64 x.t) ∧ W.cell? ⟨wr.heap.size, 1, none⟩ = some (.int .i64 x.k) ∧ W.cell? ⟨wr.heap.size, 2, none⟩ = some (.slice A4 x.d.length c4))
              (first | exact HCE.out _ H11.out.x.2 | exact HCE.out _ H10.out.x.2 | exact HCE.out _ H9d.out.x.2 | fail)
              (first
                | (go_at_call 45; refine (H10.out.int HU4.out x.k HNU.out.2 (by omega)).mono ?_; rintro e w11 ⟨A11, c11, rfl, h11⟩; have H11 := hid h11; clear h11)
                | (go_at_call 45; refine (H9d.out.int HU4.out x.t HNU.out.1 (by omega)).mono ?_; rintro e w10 ⟨A10, c10, rfl, h10⟩; have H10 := hid h10; clear h10)
                | fail)
            all_goals
              obtain ⟨ce0, ce1, ce2⟩ := HCE.out _ H11.out.x.2
              have HB := hid (H11.out.blob HU4.out (c' := c4) HBY.out (by omega))
              clear H9 H9d H10
              go_wp2_with fail
              refine HB.out.mono ?_
              rintro e w12 ⟨A12, c12, rfl, h12⟩
              rw [HEX.out] at h12
              have HK12 : Hid (Sq (fun W => Bx W w.heap.size m (some ⟨b, off, none⟩) c A' c' ∧ IsInts W W.heap.size (some ⟨bh, oh, none⟩) (hasL m.K) ∧ IsInts W W.heap.size AN m.numsL) w w12 A12 c12 (esTo l0 m (k + 1)) _) := hid ⟨h12.own, h12.len, h12.bel, h12.x.1⟩
              clear h12 HB ce0 ce1 ce2
              go_wp2_with fail
              go_roundw
              case rel => exact ⟨k + 1, A12, c12, _, by omega, by go_num, rfl, HK12⟩
              case measure => simp [RowKit.intOf]; omega
          · obtain rfl : k = m.es.length := by omega
            have H9 := HK.out
            rw [HNY.out] at H9
            have HK9 := hid H9
            clear H9 hlt2 hk
            go_wp2_with fail
            go_roundw
            case rel => exact ⟨j + 1, A3, c3, _, by omega, by go_num, rfl, HK9⟩
            case measure => simp [RowKit.intOf]; omega
      · rw [e2] at hcj
        have HNY : Hid (encTo m (3 + j) ++ (Pk.enc m.d.length ++ m.d) = encTo m (3 + (j + 1))) := hid (by rw [← HNX.out, e1]; rfl)
        clear e1 e2 hmem hkl hhl
        have hc16 := HQ.out.x.1.c16
        have hdl := HS.out.d
        have HI1 := hid (HQ.out.blob HUQ.out (c' := c') HI.out.d (by omega))
        go_wp2_with fail
        refine HI1.out.mono ?_
        rintro e w8 ⟨A8, c8, rfl, h8⟩
        rw [HNY.out] at h8
        have H8 := hid h8
        clear h8
        go_wp2_with fail
        go_roundw
        case rel => exact ⟨j + 1, A8, c8, _, by omega, by go_num, rfl, H8⟩
        case measure => simp [RowKit.intOf]; omega
      · have hda : allR[d]'hd = r := by have := (List.getElem?_eq_some_iff.1 hdr).2; exact this
        have hgn := numsL_get m d hd
        rw [hda] at hgn
        obtain ⟨bn, on, hAN, _, hcn⟩ := HQ.out.x.2.2.cells d hd
        have hcd := hcn d hd
        rw [hgn] at hcd
        rw [e2] at hcj
        have HNY : Hid (encTo m (3 + j) ++ Pk.enc (m.num r) = encTo m (3 + (j + 1))) := hid (by rw [← HNX.out]; unfold M.encF; rw [if_neg n1, if_neg n2, if_neg n3])
        have hvi : InInt (m.num r) := HI.out.num r (by unfold isNum at hin; simpa using hin)
        obtain ⟨v, hv⟩ : ∃ v, v = m.num r := ⟨_, rfl⟩
        rw [← hv] at hcd HNY hvi
        have HI1 := hid (HQ.out.int HUQ.out v hvi (by omega))
        subst hAN
        clear hv hvi hcn hgn hda hdr e2 hin n1 n2 n3 hmem hkl hhl
        have hd0 : (d : Int) < 11 := by omega
        have hd1 : ¬ (d : Int) = 11 := by omega
        have hd2 : ¬ (d : Int) = 12 := by omega
        have hd3 : ¬ (d : Int) = 13 := by omega
        go_wp2_with fail
        refine HI1.out.mono ?_
        rintro e w8 ⟨A8, c8, rfl, h8⟩
        rw [HNY.out] at h8
        have H8 := hid h8
        clear h8
        go_wp2_with fail
        go_roundw
        case rel => exact ⟨j + 1, A8, c8, _, by omega, by go_num, rfl, H8⟩
        case measure => simp [RowKit.intOf]; omega
    · obtain rfl : j = nh := by omega
      have he : encTo m (3 + j) = m.enc := encTo_all m _ (by rw [List.length_append, ← HKK.out.2]; have : head.length = 3 := rfl; omega)
      have HE := hid he
      clear he hlt hj
      have hel : m.enc.length = q := by rw [← HE.out]; exact HQ.out.len
      have hfp : ¬ 65536 < m.enc.length := by rw [enc_length m HZ.out.1 HZ.out.2.1]; exact HZ.out.2.2
      have HFP := hid (Frame.ref_put_all wr.heap.size A1 c1 m.enc q hel wr (by have := HQ.out.own.reads; rw [HE.out] at this; exact this) (Nat.le_refl _) (Fr.frame m.enc) 0 (by unfold Frame.putOf; rw [if_neg hfp]) _ rfl 0 rfl)
      have hpz : put m = (Fr.frame m.enc, 0) := put_zero HZ0.out
      have HPZ := hid hpz
      clear hel hfp hpz
      go_wp2_with fail
      refine HFP.out.mono ?_
      rintro e w8 ⟨A8, c8, rfl, ho8, hb8⟩
      have HF := hid (And.intro (ho8.weaken HQ.out.bel.size) (HQ.out.bel.trans (hb8.mono HQ.out.bel.size)))
      clear ho8 hb8 HFP
      go_wp2_with fail
      go_ret2
      rw [HPZ.out]
      exact ⟨A8, c8, rfl, HF.out.1, HF.out.2⟩
end Go.Proofs.YtpigekbfngalbaaDoor.Ms
