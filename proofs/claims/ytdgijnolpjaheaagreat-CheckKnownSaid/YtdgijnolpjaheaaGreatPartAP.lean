/- Texts of the proof, one behind the other: KitIntEq, KitSame, RefOps, RefInt, RowsB. -/
import Derived.Test.YtdgijnolpjaheaaGreatRows
import Derived.Test.YtdgijnolpjaheaaGreatPartAA
import Derived.Deep.QuietTactic
import Derived.BigQuiet
import Derived.Test.YtdgijnolpjaheaaGreatPartAC
import Derived.Test.YtdgijnolpjaheaaGreatPartAO
import Derived.Test.YtdgijnolpjaheaaGreatPartAE
import Derived.Test.YtdgijnolpjaheaaGreatPartAH
namespace Go.Proofs.YtdgijnolpjaheaaGreat.I
open Go.RowKit

theorem take_succ_eq (l m : List Int) (k : Nat) (h1 : k < l.length) (h2 : k < m.length) (h : l.take k = m.take k) (he : l[k] = m[k]) : l.take (k + 1) = m.take (k + 1) := by
  rw [List.take_succ_eq_append_getElem h1, List.take_succ_eq_append_getElem h2, h, he]

set_option maxHeartbeats 400000 in
theorem same_any (B B' : Nat) (A A' : Option Addr) (c c' : Nat) (l m : List Int) (hl : l.length ≤ maxLen) (hm : m.length ≤ maxLen) (w : World) (h : IsInts w B A l) (h' : IsInts w B' A' m) :
    Calls Tryz.prog 39 #[.slice A l.length c, .slice A' m.length c'] w fun e w' => e = .returned (.bool (decide (l = m))) ∧ ∃ n, w' = w.drewN n := by
  unfold maxLen at hl hm
  by_cases hne : l.length = m.length
  · have hb : ((l.length : Int) != (m.length : Int)) = false := by rw [bne_eq_false_iff_eq]; omega
    have HN := hid hne
    clear hne
    go_enter Tryz.func39, Tryz.ntmps39
    go_wp2
    go_loopw [5] (fun i wr => ∃ k n : Nat, k ≤ l.length ∧ i = .int .i64 k ∧ wr = w.drewN n ∧ Hid (l.take k = m.take k)) (fun i _ => l.length - (RowKit.intOf i).toNat)
    case atStart => exact ⟨0, 0, by omega, rfl, rfl, hid rfl⟩
    case round =>
      obtain ⟨k, n, hk, rfl, rfl, hs⟩ := hrel
      by_cases hlt : k < l.length
      · have hlt' : k < m.length := by have := HN.out; omega
        obtain ⟨b, off, rfl, _, hc⟩ := h.cells k hlt
        obtain ⟨b', off', rfl, _, hc'⟩ := h'.cells k hlt'
        have hck := hc k hlt
        have hck' := hc' k hlt'
        clear hc hc'
        by_cases he : l[k] = m[k]
        · have hbe : (l[k] != m[k]) = false := by rw [bne_eq_false_iff_eq]; omega
          have HE := hid he
          clear he
          go_wp2
          go_quiet (fail)
          go_wp2
          go_roundw
          case rel => exact ⟨k + 1, _, by omega, by go_num, rfl, hid (take_succ_eq l m k hlt hlt' hs.out HE.out)⟩
          case measure => simp [RowKit.intOf]; omega
        · have hbe : (l[k] != m[k]) = true := by rw [bne_iff_ne]; omega
          have hfin : decide (l = m) = false := by
            rw [decide_eq_false_iff_not]; rintro rfl; exact he rfl
          have HF := hid hfin
          clear he hfin
          go_wp2
          go_quiet (fail)
          go_wp2
          go_ret
          exact ⟨by rw [HF.out]; rfl, _, by rw [World.drewN_drewN]⟩
      · obtain rfl : k = l.length := by omega
        have hfin : decide (l = m) = true := by
          rw [decide_eq_true_iff]
          have e := hs.out
          rw [List.take_length, HN.out, List.take_length] at e
          exact e
        have HF := hid hfin
        clear hfin
        go_wp2
        go_ret
        exact ⟨by rw [HF.out]; rfl, _, rfl⟩
  · have hb : ((l.length : Int) != (m.length : Int)) = true := by rw [bne_iff_ne]; omega
    have hfin : decide (l = m) = false := by
      rw [decide_eq_false_iff_not]; rintro rfl; exact hne rfl
    have HF := hid hfin
    clear hfin hne
    go_enter Tryz.func39, Tryz.ntmps39
    go_wp2
    go_ret
    exact ⟨by rw [HF.out]; rfl, 0, rfl⟩
theorem info_int : (Tryz.prog.info? 3).map (fun i => (i.zero, i.size, i.bytes)) = some (some (.int .i64 0), 1, 8) := by kernel_rfl
end Go.Proofs.YtdgijnolpjaheaaGreat.I
namespace Go.Proofs.YtdgijnolpjaheaaGreat
open Go.RowKit

set_option maxHeartbeats 400000 in
theorem copy_any (B : Nat) (A : Option Addr) (c : Nat) (l : List Nat) (hl : l.length ≤ 140737488355328) (w : World) (h : IsBytes w B A l) (hB : B ≤ w.heap.size) :
    Calls Tryz.prog 18 #[.slice A l.length c] w fun e w' => ∃ A' c', e = .returned (.slice A' l.length c') ∧ OwnsB 5 w' w.heap.size A' c' l ∧ Below w.heap.size w w' := by
  obtain ⟨i0, hi, hz0, hz1, hz2⟩ := info_parts info_u8
  go_enter Tryz.func18, Tryz.ntmps18
  go_wp2
  go_loopw [3, 4] (fun v i wr => ∃ k : Nat, k ≤ l.length ∧ i = .int .i64 k ∧ wr.ownsRow w.heap.size 5 1 v k (bytes (l.take k)) ∧ Below w.heap.size w wr) (fun _ i _ => l.length - (RowKit.intOf i).toNat)
  case atStart => exact ⟨0, by omega, rfl, World.ownsRow_nil _ _ _ _, Below.refl _ _⟩
  case round =>
    obtain ⟨k, hk, rfl, hown, hbel⟩ := hrel
    by_cases hlt : k < l.length
    · have h1 := (h.below (hbel.mono hB))
      obtain ⟨b, off, rfl, _, hc⟩ := h1.cells k hlt
      have hck := hc k hlt
      clear hc
      go_wp2_with (at_builtin; refine wpList_append_own _ rfl _ _ 23 rfl w.heap.size 5 i0 (.int .u8 0) 1 1 Tryz.underlying23 hi hz0 hz1 hz2 rfl (by decide) _ _ _ rfl (hown.alloc _) ⟨wr.heap.size, 0, none⟩ 1 1 [.int .u8 (l[k] : Nat)] rfl rfl ?c1 ?c2 ?c3 ?c4 ?c5 ?_)
      case c1 =>
        intro j u hj
        match j, hj with
        | 0, hj => simp at hj; subst hj; simp [Addr.add]
      case c2 => intro u hu; simp at hu; subst hu; rfl
      case c3 => unfold maxLen; omega
      case c4 => omega
      case c5 => have := hbel.size; simp; omega
      intro v' w1 hown' hgrow _
      rw [bytes_snoc l k hlt] at hown'
      have hb1 : Below w.heap.size w w1 := (hbel.alloc hbel.size _).grown hgrow (by have := hbel.size; simp; omega) (fun g hg => (hown.lt g hg).1)
      clear hgrow hown hbel hck
      go_wp2
      go_roundw
      case rel => exact ⟨k + 1, by omega, by go_num, hown', hb1⟩
      case measure => simp [RowKit.intOf]; omega
    · obtain rfl : k = l.length := by omega
      rw [List.take_length] at hown
      obtain ⟨A', c', rfl⟩ := own_slice hown
      go_wp2
      go_ret
      exact ⟨A', c', rfl, ⟨h.small, hown⟩, hbel⟩
theorem copy_N (B : Nat) (A : Option Addr) (c : Nat) (l : List Nat) (n : Nat) (hn : l.length = n) (hl : n ≤ 140737488355328) (w : World) (h : IsBytes w B A l) (hB : B ≤ w.heap.size) :
    Calls Tryz.prog 18 #[.slice A n c] w fun e w' => ∃ A' c', e = .returned (.slice A' n c') ∧ OwnsB 5 w' w.heap.size A' c' l ∧ Below w.heap.size w w' := by
  subst hn; exact copy_any B A c l hl w h hB
end Go.Proofs.YtdgijnolpjaheaaGreat
namespace Go.Proofs.YtdgijnolpjaheaaGreat
open Go.RowKit

namespace Sx
def rdX (x : Xs) (i : Int) : List Nat × Int :=
  if 0 ≤ i ∧ i < x.n then
    match x.cache i.toNat with
    | some b => (b, 0)
    | none => match x.lasts i.toNat with
      | none => ([], 0)
      | some u => if u.2 then ([], 9) else (u.1, 0)
  else ([], 3)
/-- a number that is in the list, or in none of its items -/
theorem found {f : Nat → Option (List Nat × Bool)} {n : Nat} {k : Nat} (hk : k < (secs f 0 n).length) {i : Int} (h : ((secs f 0 n)[k].no : Int) = i) : f i.toNat = some ((secs f 0 n)[k].b, (secs f 0 n)[k].torn) := by
  have := (secs_no 0 n _ (List.getElem_mem hk)).2.2
  rw [← h, Int.toNat_natCast]
  exact this
theorem mem_secs {f : Nat → Option (List Nat × Bool)} {i : Nat} {u : List Nat × Bool} (hf : f i = some u) : ∀ a n, a ≤ i → i < a + n → ⟨i, u.1, u.2⟩ ∈ secs f a n
  | a, 0, h1, h2 => by omega
  | a, n + 1, h1, h2 => by
    unfold secs
    by_cases h : a = i
    · subst h
      rw [hf]
      exact List.mem_append.2 (.inl (List.mem_singleton.2 rfl))
    · exact List.mem_append.2 (.inr (mem_secs hf (a + 1) n (by omega) (by omega)))
theorem not_found {f : Nat → Option (List Nat × Bool)} {n : Nat} {i : Int} (hi : 0 ≤ i ∧ i < n) (h : ∀ x ∈ secs f 0 n, (x.no : Int) ≠ i) : f i.toNat = none := by
  rcases hf : f i.toNat with _ | u
  · rfl
  · have := h _ (mem_secs hf 0 n (Nat.zero_le _) (by omega))
    exact absurd (by show ((i.toNat : Nat) : Int) = i; omega) this
end Sx

set_option maxRecDepth 100000 in
set_option maxHeartbeats 1600000 in
theorem refRead_any (Z : Nat → Prop) (g : Nat) (x : Sx.Xs) (i : Int) (w : World) (h : RefAt w Z g x) :
    Calls Tryz.prog 36 #[.pointer (some ⟨g, 0, none⟩), .int .i64 i] w fun e w' => ∃ A c, e = .returned (.tuple #[.slice A (Sx.rdX x i).1.length c, .int .i64 (Sx.rdX x i).2]) ∧ OwnsB 5 w' w.heap.size A c (Sx.rdX x i).1 ∧ Below w.heap.size w w' := by
  obtain ⟨A1, k1, A2, k2, c0, c1, c2, c3, c4, hs1, hs2⟩ := h.cells
  have hl1 : x.ll.length ≤ 20000 := by have := RefAt.len1 x; have := h.bound; omega
  have hl2 : x.cl.length ≤ 20000 := by have := RefAt.len2 x; have := h.bound; omega
  by_cases hi : 0 ≤ i ∧ i < x.n
  · have hi1 : ¬ i < 0 := by omega
    have hi2 : ¬ (x.n : Int) ≤ i := by omega
    have HF2 := hid (find_any Z A2 k2 _ x.cl hl2 i w hs2 rfl)
    have HF1 := hid (find_any Z A1 k1 _ x.ll hl1 i w hs1 rfl)
    have HS := hid (And.intro hs1 hs2)
    have HI := hid hi
    clear hs1 hs2 h hi
    go_enter Tryz.func36, Tryz.ntmps36
    go_wp2_with fail
    refine HF2.out.mono ?_
    rintro e w1 ⟨⟨r, rfl, hr⟩, rfl⟩
    rcases hr with ⟨k, hk, rfl, hno⟩ | ⟨rfl, hno⟩
    · have hf := Sx.found hk hno
      have hcc : x.cache i.toNat = some x.cl[k].b := by
        have hf : (x.cache i.toNat).map (fun b => (b, false)) = some (x.cl[k].b, x.cl[k].torn) := hf
        rcases hc : x.cache i.toNat with _ | b
        · rw [hc] at hf; cases hf
        · rw [hc] at hf
          have := (Prod.mk.inj (Option.some.inj hf)).1
          rw [← this]
      have e1 : Sx.rdX x i = (x.cl[k].b, 0) := by unfold Sx.rdX; rw [if_pos HI.out, hcc]
      have E1 := hid e1
      obtain ⟨g2, A', c', rfl, _, d0, d1, d2, hA, hx1, hx2⟩ := HS.out.2.at_ k hk
      have hk0 : (k : Int) < (x.cl.length : Int) := by omega
      have hk1 : ¬ (k : Int) < 0 := by omega
      have HC := hid (copy_N w1.heap.size A' c' x.cl[k].b _ rfl (by omega) w1 hA.reads (Nat.le_refl _))
      clear hf hcc e1 hno hA
      go_wp2_with fail
      refine HC.out.mono ?_
      rintro e w2 ⟨A3, c3', rfl, hown, hb⟩
      go_wp2
      go_ret2
      rw [E1.out]
      exact ⟨A3, c3', rfl, hown, hb⟩
    · have hcc : x.cache i.toNat = none := by
        have hf := Sx.not_found HI.out hno
        have hf : (x.cache i.toNat).map (fun b => (b, false)) = none := hf
        rcases hc : x.cache i.toNat with _ | b
        · rfl
        · rw [hc] at hf; cases hf
      clear hno
      go_wp2_with fail
      refine HF1.out.mono ?_
      rintro e w2 ⟨⟨r, rfl, hr⟩, rfl⟩
      rcases hr with ⟨k, hk, rfl, hno⟩ | ⟨rfl, hno⟩
      · have hf : x.lasts i.toNat = some (x.ll[k].b, x.ll[k].torn) := Sx.found hk hno
        obtain ⟨g2, A', c', rfl, _, d0, d1, d2, hA, hx1, hx2⟩ := HS.out.1.at_ k hk
        have hk0 : (k : Int) < (x.ll.length : Int) := by omega
        have hk1 : ¬ (k : Int) < 0 := by omega
        cases ht : x.ll[k].torn
        · have e1 : Sx.rdX x i = (x.ll[k].b, 0) := by unfold Sx.rdX; rw [if_pos HI.out, hcc, hf]; simp [ht]
          have E1 := hid e1
          have HC := hid (copy_N w2.heap.size A' c' x.ll[k].b _ rfl (by omega) w2 hA.reads (Nat.le_refl _))
          rw [ht] at d2
          clear hf hcc e1 hno hA ht
          go_wp2_with fail
          refine HC.out.mono ?_
          rintro e w3 ⟨A3, c3', rfl, hown, hb⟩
          go_wp2
          go_ret2
          rw [E1.out]
          exact ⟨A3, c3', rfl, hown, hb⟩
        · have e1 : Sx.rdX x i = ([], 9) := by unfold Sx.rdX; rw [if_pos HI.out, hcc, hf]; simp [ht]
          have E1 := hid e1
          rw [ht] at d2
          clear hf hcc e1 hno hA ht
          go_wp2_with fail
          go_ret2
          rw [E1.out]
          exact ⟨none, 0, rfl, OwnsB.nil _ _ _, Below.refl _ _⟩
      · have hf : x.lasts i.toNat = none := Sx.not_found HI.out hno
        have e1 : Sx.rdX x i = ([], 0) := by unfold Sx.rdX; rw [if_pos HI.out, hcc, hf]
        have E1 := hid e1
        clear hf hcc e1 hno
        go_wp2_with fail
        go_ret2
        rw [E1.out]
        exact ⟨none, 0, rfl, OwnsB.nil _ _ _, Below.refl _ _⟩
  · have e1 : Sx.rdX x i = ([], 3) := by unfold Sx.rdX; rw [if_neg hi]
    have E1 := hid e1
    rw [e1]
    clear e1 h
    by_cases h0 : i < 0
    · clear hi
      go_enter Tryz.func36, Tryz.ntmps36
      go_wp2
      go_ret2
      exact ⟨none, 0, rfl, OwnsB.nil _ _ _, Below.refl _ _⟩
    · have h1 : (x.n : Int) ≤ i := by omega
      clear hi
      go_enter Tryz.func36, Tryz.ntmps36
      go_wp2
      go_ret2
      exact ⟨none, 0, rfl, OwnsB.nil _ _ _, Below.refl _ _⟩

namespace Sx
def dirtyX (x : Xs) : List Nat := dirtyTo x.cache x.n
theorem cl_nos (x : Xs) : x.cl.map (·.no) = dirtyX x := by
  unfold Xs.cl dirtyX dirtyTo
  rw [secs_nos, List.range_eq_range']
  refine List.filter_congr fun i _ => ?_
  unfold Xs.cf
  rcases x.cache i with _ | b <;> rfl
theorem cl_length (x : Xs) : x.cl.length = (dirtyX x).length := by rw [← cl_nos, List.length_map]
theorem cl_no (x : Xs) (k : Nat) (h : k < x.cl.length) : x.cl[k].no = (dirtyX x)[k]'(by rw [← cl_length]; exact h) := by
  have : (x.cl.map (·.no))[k]'(by rw [List.length_map]; exact h) = x.cl[k].no := by rw [List.getElem_map]
  rw [← this]
  congr 1
  exact cl_nos x
theorem dirtyX_step (x : Xs) (k : Nat) (h : k < x.cl.length) : (dirtyX x).take k ++ [x.cl[k].no] = (dirtyX x).take (k + 1) := by
  rw [List.take_succ_eq_append_getElem (by rw [← cl_length]; exact h), cl_no x k h]
end Sx
set_option maxRecDepth 100000 in
set_option maxHeartbeats 1600000 in
theorem refDirty_any (Z : Nat → Prop) (g : Nat) (x : Sx.Xs) (w : World) (h : RefAt w Z g x) :
    Calls Tryz.prog 38 #[.pointer (some ⟨g, 0, none⟩)] w fun e w' => ∃ A c, e = .returned (.slice A (Sx.dirtyX x).length c) ∧ OwnsI 3 w' w.heap.size A c ((Sx.dirtyX x).map fun (i : Nat) => (i : Int)) ∧ Below w.heap.size w w' := by
  obtain ⟨i0, hi, hz0, hz1, hz2⟩ := info_parts I.info_int
  have HH := hid h
  have hl : x.cl.length ≤ 20000 := by have := RefAt.len2 x; have := h.bound; omega
  have HS : Hid (OwnsI 3 w w.heap.size none 0 (((Sx.dirtyX x).take 0).map fun (i : Nat) => (i : Int)) ∧ Below w.heap.size w w) := hid ⟨OwnsI.nil _ _ _, Below.refl _ _⟩
  clear h
  go_enter Tryz.func38, Tryz.ntmps38
  go_wp2_with fail
  go_loopw [3, 4] (fun o iv wr => ∃ k : Nat, k ≤ x.cl.length ∧ iv = .int .i64 k ∧ ∃ A c, o = .slice A k c ∧ Hid (OwnsI 3 wr w.heap.size A c (((Sx.dirtyX x).take k).map fun (i : Nat) => (i : Int)) ∧ Below w.heap.size w wr)) (fun _ i _ => x.cl.length - (RowKit.intOf i).toNat)
  case atStart => exact ⟨0, by omega, rfl, none, 0, rfl, HS⟩
  case round =>
    clear HS
    obtain ⟨k, hk, rfl, A, c, rfl, hS⟩ := hrel
    obtain ⟨A1, k1, A2, k2, c0, c1, c2, c3, c4, hs1, hs2⟩ := (HH.out.below hS.out.2).cells
    by_cases hlt : k < x.cl.length
    · obtain ⟨g2, A', c', rfl, _, d0, d1, d2, hA, hx1, hx2⟩ := hs2.at_ k hlt
      have hk0 : (k : Int) < (x.cl.length : Int) := by omega
      have HLT := hid hlt
      have hst := Sx.dirtyX_step x k hlt
      have HST := hid hst
      have HX := hid hx1
      have hlk : (((Sx.dirtyX x).take k).map fun (i : Nat) => (i : Int)).length = k := by
        rw [List.length_map, List.length_take, ← Sx.cl_length]; omega
      have HLK := hid hlk
      clear hs1 hs2 hA hst hx1 hx2 hlk
      go_wp2_with (at_builtin; refine wpList_append_intN rfl _ _ 22 rfl w.heap.size 3 i0 Tryz.underlying22 hi hz0 hz1 hz2 A c _ k HLK.out rfl (hS.out.1.alloc _) ⟨wr.heap.size, 0, none⟩ 1 (x.cl[k].no : Nat) ⟨by have := HX.out; omega, by have := HX.out; omega⟩ rfl (one_new _ _ _) (((Sx.dirtyX x).take (k + 1)).map fun (i : Nat) => (i : Int)) (by rw [← HST.out, List.map_append]; rfl) (by omega) (by have := hS.out.2.size; simp; omega) ?_; intro A3 c3' w3 hI3 hb3)
      refine ⟨⟨k + 1, by have := HLT.out; omega, by go_num, A3, c3', rfl, hid ⟨hI3, ?_⟩⟩, by simp [RowKit.intOf]; have := HLT.out; omega⟩
      exact (hS.out.2.trans ((below_one _ _).mono hS.out.2.size)).trans hb3
    · obtain rfl : k = x.cl.length := by omega
      have hS1 := hS.out
      rw [List.take_of_length_le (by rw [← Sx.cl_length]; exact Nat.le_refl _)] at hS1
      have HS1 := hid hS1
      have HE := hid (Sx.cl_length x)
      clear hs1 hs2 hS1 hlt hk
      go_wp2_with fail
      go_ret
      rw [← HE.out]
      exact ⟨A, c, rfl, HS1.out.1, HS1.out.2⟩
end Go.Proofs.YtdgijnolpjaheaaGreat
namespace Go.Proofs.YtdgijnolpjaheaaGreat
open Go.RowKit

theorem u64_wrap (v : Int) : IntKind.u64.wrap v = v % 18446744073709551616 := by simp [IntKind.wrap, IntKind.signed, IntKind.bits]
/-- the lowest k bytes of a number, from below -/
def lows (v : Int) (k : Nat) : List Nat := (List.range k).map (Pk.byteOf v)
theorem lows_length (v : Int) (k : Nat) : (lows v k).length = k := by simp [lows]
theorem lows_snoc (v : Int) (k : Nat) : lows v (k + 1) = lows v k ++ [Pk.byteOf v k] := by unfold lows; rw [List.range_succ, List.map_append]; rfl
theorem lows_get (v : Int) (k i : Nat) (h : i < (lows v k).length) : (lows v k)[i] = Pk.byteOf v i := by simp [lows]
theorem low_byte (v : Int) (k : Nat) (h : k < 8) : (v % 18446744073709551616) / 2 ^ (8 * k) % 256 = (Pk.byteOf v k : Nat) := by
  rw [byteOf_val]
  match k, h with
  | 0, _ => simp only [Nat.reduceMul, Int.reducePow]; omega
  | 1, _ => simp only [Nat.reduceMul, Int.reducePow]; omega
  | 2, _ => simp only [Nat.reduceMul, Int.reducePow]; omega
  | 3, _ => simp only [Nat.reduceMul, Int.reducePow]; omega
  | 4, _ => simp only [Nat.reduceMul, Int.reducePow]; omega
  | 5, _ => simp only [Nat.reduceMul, Int.reducePow]; omega
  | 6, _ => simp only [Nat.reduceMul, Int.reducePow]; omega
  | 7, _ => simp only [Nat.reduceMul, Int.reducePow]; omega

set_option maxRecDepth 100000 in
set_option maxHeartbeats 800000 in
theorem refInt_any (B : Nat) (A : Option Addr) (c : Nat) (l : List Nat) (v : Int) (hv : InInt v) (hl : l.length ≤ 140737488354000) (w : World) (h : IsBytes w B A l) (hB : B ≤ w.heap.size) :
    Calls Tryz.prog 69 #[.slice A l.length c, .int .i64 v] w fun e w' => ∃ A' c', e = .returned (.slice A' (l.length + 8) c') ∧ OwnsB 5 w' w.heap.size A' c' (l ++ Pk.enc v) ∧ Below w.heap.size w w' := by
  obtain ⟨i0, hi, hz0, hz1, hz2⟩ := info_parts info_u8
  have hv1 := hv.1
  have hv2 := hv.2
  clear hv
  go_enter Tryz.func69, Tryz.ntmps69
  go_wp2
  go_loopw [5, 6, 7] (fun lo u i wr => ∃ k n : Nat, ∃ A1 : Option Addr, ∃ c1 : Nat, k ≤ 8 ∧ i = .int .i64 k ∧ u = .int .u64 (n : Int) ∧ n < 18446744073709551616 ∧ lo = .slice A1 k c1 ∧ OwnsB 5 wr w.heap.size A1 c1 (lows v k) ∧ Below w.heap.size w wr ∧ Hid ((n : Int) = (v % 18446744073709551616) / 2 ^ (8 * k))) (fun _ _ i _ => 8 - (RowKit.intOf i).toNat)
  case atStart =>
    refine ⟨0, (v % 18446744073709551616).toNat, none, 0, by omega, rfl, ?_, by omega, rfl, OwnsB.nil _ _ _, Below.refl _ _, ?_⟩
    · rw [u64_wrap]; go_num
    · show _ = _
      simp; omega
  case round =>
    obtain ⟨k, n, A1, c1, hk, rfl, rfl, hn, rfl, hown, hbel, hu⟩ := hrel
    by_cases hlt : k < 8
    · have hx : ((n : Int) % 256) = (Pk.byteOf v k : Nat) := by rw [hu.out]; exact low_byte v k hlt
      have HX := hid hx
      have hb8 := Pk.byteOf_lt v k
      clear hx
      go_wp2_with (at_builtin; refine wpList_append_byteN rfl _ _ 23 rfl w.heap.size 5 i0 Tryz.underlying23 hi hz0 hz1 hz2 A1 c1 (lows v k) k (lows_length v k) rfl (hown.alloc _) ⟨wr.heap.size, 0, none⟩ 1 (Pk.byteOf v k) _ HX.out hb8 rfl ?c1 (lows v (k + 1)) (lows_snoc v k).symm (by omega) ?c2 ?_)
      case c1 => simp
      case c2 => have := hbel.size; simp; omega
      intro A2 c2 w1 hown2 hb1
      have hb2 : Below w.heap.size w w1 := (hbel.alloc hbel.size _).trans hb1
      clear hb1 hown hbel
      go_wp2
      go_roundw
      case rel => exact ⟨k + 1, n / 256, A2, c2, by omega, by go_num, by go_num, by omega, rfl, hown2, hb2, by
        have e := hu.out
        show _ = _
        rw [Pk.ediv_pow, ← e]; omega⟩
      case measure => simp [RowKit.intOf]; omega
    · have HK8 : Hid (k = 8) := show k = 8 by omega
      obtain ⟨k8, rfl⟩ : ∃ k8 : Nat, k8 = k := ⟨_, rfl⟩
      clear hu hn
      go_wp2
      clear hlt hk
      have hreads := hown.reads
      have HBEL := hid hbel
      have hsz := hbel.size
      clear hown hbel
      obtain ⟨wm, rfl⟩ : ∃ wm : World, wm = wr := ⟨_, rfl⟩
      go_loopw [8, 9] (fun b i wr => ∃ k : Nat, ∃ A3 : Option Addr, ∃ c3 : Nat, k ≤ l.length ∧ i = .int .i64 k ∧ b = .slice A3 k c3 ∧ OwnsB 5 wr wm.heap.size A3 c3 (l.take k) ∧ Below wm.heap.size wm wr) (fun _ i _ => l.length - (RowKit.intOf i).toNat)
      case atStart => exact ⟨0, none, 0, by omega, rfl, rfl, OwnsB.nil _ _ _, Below.refl _ _⟩
      case round =>
        obtain ⟨k, A3, c3, hk, rfl, rfl, hown, hbel⟩ := hrel
        have hlk : (l.take k).length = k := by rw [List.length_take]; omega
        have HLK := hid hlk
        clear hlk
        by_cases hlt : k < l.length
        · have h1 := ((h.more hB).below (HBEL.out.trans (hbel.mono hsz)))
          obtain ⟨b, off, rfl, _, hc⟩ := h1.cells k hlt
          have hck := hc k hlt
          have hb8 := h.small l[k] (List.getElem_mem _)
          clear hc h1
          go_wp2_with (at_builtin; refine wpList_append_byteN rfl _ _ 23 rfl wm.heap.size 5 i0 Tryz.underlying23 hi hz0 hz1 hz2 A3 c3 (l.take k) k HLK.out rfl (hown.alloc _) ⟨wr.heap.size, 0, none⟩ 1 l[k] _ rfl hb8 rfl ?c3 (l.take (k + 1)) (List.take_succ_eq_append_getElem hlt).symm (by omega) ?c4 ?_)
          case c3 => simp
          case c4 => have := hbel.size; simp; omega
          intro A4 c4 w1 hown2 hb1
          have hb2 : Below wm.heap.size wm w1 := (hbel.alloc hbel.size _).trans hb1
          clear hb1 hown hbel hck
          go_wp2
          go_roundw
          case rel => exact ⟨k + 1, A4, c4, by omega, by go_num, rfl, hown2, hb2⟩
          case measure => simp [RowKit.intOf]; omega
        · obtain rfl : k = l.length := by omega
          rw [List.take_length] at hown
          clear HLK hlt hk
          go_wp2
          go_loopw [8, 10] (fun b i wr => ∃ k : Nat, ∃ A4 : Option Addr, ∃ c4 : Nat, k ≤ 8 ∧ i = .int .i64 (7 - (k : Int)) ∧ b = .slice A4 (l.length + k) c4 ∧ OwnsB 5 wr wm.heap.size A4 c4 (l ++ (Pk.enc v).take k) ∧ Below wm.heap.size wm wr) (fun _ i _ => (RowKit.intOf i + 1).toNat)
          case atStart => exact ⟨0, A3, c3, by omega, rfl, rfl, by simpa using hown, hbel⟩
          case round =>
            clear hown hbel
            obtain ⟨k, A4, c4, hk, rfl, rfl, hown, hbel⟩ := hrel
            have hlen : (l ++ (Pk.enc v).take k).length = l.length + k := by rw [List.length_append, List.length_take, Pk.enc_length]; omega
            have HL := hid hlen
            clear hlen
            by_cases hlt : k < 8
            · obtain ⟨m, hm⟩ : ∃ m : Nat, 7 - (k : Int) = (m : Int) := ⟨7 - k, by omega⟩
              have HM := hid hm
              rw [hm]
              have hm0 : m < 8 := by omega
              have hme : 7 - k = m := by omega
              have HME := hid hme
              clear hm hme
              obtain ⟨b, off, rfl, _, hc⟩ := (hreads.below hbel).cells m (by rw [lows_length, HK8.out]; exact hm0)
              have hck := hc m (by rw [lows_length, HK8.out]; exact hm0)
              rw [lows_get] at hck
              have hb8 := Pk.byteOf_lt v m
              clear hc
              go_wp2_with (at_builtin; refine wpList_append_byteN rfl _ _ 23 rfl wm.heap.size 5 i0 Tryz.underlying23 hi hz0 hz1 hz2 A4 c4 (l ++ (Pk.enc v).take k) (l.length + k) HL.out rfl (hown.alloc _) ⟨wr.heap.size, 0, none⟩ 1 (Pk.byteOf v m) _ rfl hb8 rfl ?c5 (l ++ (Pk.enc v).take (k + 1)) (by rw [enc_take v k hlt, HME.out, ← List.append_assoc]) (by omega) ?c6 ?_)
              case c5 => simp
              case c6 => have := hbel.size; simp; omega
              intro A5 c5 w1 hown2 hb1
              have hb2 : Below wm.heap.size wm w1 := (hbel.alloc hbel.size _).trans hb1
              have HO : Hid (OwnsB 5 w1 wm.heap.size A5 c5 (l ++ (Pk.enc v).take (k + 1))) := hown2
              clear hb1 hown hbel hck hown2
              go_wp2
              go_roundw
              case rel => exact ⟨k + 1, A5, c5, by omega, by rw [← HM.out]; go_num, rfl, HO.out, hb2⟩
              case measure => simp [RowKit.intOf] <;> omega
            · obtain rfl : k = 8 := by omega
              have HO : Hid (OwnsB 5 wr w.heap.size A4 c4 (l ++ Pk.enc v)) := by
                show OwnsB _ _ _ _ _ _
                exact hown.weaken hsz
              have HB : Hid (Below w.heap.size w wr) := HBEL.out.trans (hbel.mono hsz)
              clear hown hbel hreads
              go_wp2
              go_ret
              exact ⟨A4, c4, rfl, HO.out, HB.out⟩
end Go.Proofs.YtdgijnolpjaheaaGreat
namespace Go.Proofs.YtdgijnolpjaheaaGreat
open Go.RowKit

/-- bytes that lie below B0, or that the call has made from B1 on -/
def Elm (w : World) (B0 B1 : Nat) (A : Option Addr) (c : Nat) (l : List Nat) : Prop :=
  (A = none → c = 0) ∧ l.length ≤ 100000 ∧ (IsBytes w B0 A l ∨ OwnsZ w (fun k => k < B1) A c l)
structure RowsB (w : World) (B0 B1 : Nat) (v : Value) (L : List (List Nat)) : Prop where
  row : ∃ vs, w.ownsRow B1 23 1 v L.length vs ∧ ∀ i (h : i < L.length), ∃ A c, vs[i]? = some (.slice A L[i].length c) ∧ Elm w B0 B1 A c L[i]

theorem Elm.keep {w w' : World} {B0 B1 : Nat} {A : Option Addr} {c : Nat} {l : List Nat} {T : Nat → Prop} (h : Elm w B0 B1 A c l) (ht : Turned T w w') (hT : ∀ k, T k → B0 ≤ k ∧ k < B1) (hB : B0 ≤ w.heap.size) : Elm w' B0 B1 A c l := by
  refine ⟨h.1, h.2.1, ?_⟩
  rcases h.2.2 with h1 | h1
  · exact .inl (h1.keep (fun p hp => ht.cell (by omega) (fun e => by have := hT _ e; omega)))
  · exact .inr (h1.keep (ht.mono (fun k e => (hT k e).2)))
theorem Elm.mono {w : World} {B0 B1 B1' : Nat} {A : Option Addr} {c : Nat} {l : List Nat} (h : Elm w B0 B1 A c l) (hB : B1' ≤ B1) : Elm w B0 B1' A c l :=
  ⟨h.1, h.2.1, h.2.2.imp id (fun h => h.mono (fun k hk => by omega))⟩
theorem Elm.reads {w : World} {B0 B1 : Nat} {A : Option Addr} {c : Nat} {l : List Nat} (h : Elm w B0 B1 A c l) (hB : B0 ≤ w.heap.size) : IsBytes w w.heap.size A l := h.2.2.elim (fun h => h.more hB) (fun h => h.reads)
namespace RowsB
variable {w w' : World} {B0 B1 : Nat} {v : Value} {L : List (List Nat)}
theorem nil (w : World) (B0 B1 : Nat) : RowsB w B0 B1 (.slice none 0 0) [] := ⟨⟨[], World.ownsRow_nil _ _ _ _, fun i h => by simp at h⟩⟩
theorem keep {T : Nat → Prop} (h : RowsB w B0 B1 v L) (ht : Turned T w w') (hT : ∀ k, T k → B0 ≤ k ∧ k < B1) (hB : B0 ≤ w.heap.size) : RowsB w' B0 B1 v L := by
  obtain ⟨vs, h1, h2⟩ := h.row
  refine ⟨⟨vs, ownsRow_turned h1 ht (fun k hk e => by have := (h1.lt k hk).1; have := hT k e; omega), fun i hi => ?_⟩⟩
  obtain ⟨A, c, h3, h4⟩ := h2 i hi
  exact ⟨A, c, h3, h4.keep ht hT hB⟩
theorem below (h : RowsB w B0 B1 v L) (hb : Below w.heap.size w w') (hB : B0 ≤ w.heap.size) : RowsB w' B0 B1 v L := h.keep (T := fun _ => False) (Turned.ofBelow _ hb) (fun _ h => h.elim) hB
theorem mono {B1' : Nat} (h : RowsB w B0 B1 v L) (hB : B1' ≤ B1) : RowsB w B0 B1' v L := by
  obtain ⟨vs, h1, h2⟩ := h.row
  refine ⟨⟨vs, ⟨h1.1, ?_⟩, fun i hi => ?_⟩⟩
  · rcases h1.2 with h0 | ⟨g, cap, cur, h3, h4, h5⟩
    · exact .inl h0
    · exact .inr ⟨g, cap, cur, h3, by omega, h5⟩
  · obtain ⟨A, c, h3, h4⟩ := h2 i hi
    exact ⟨A, c, h3, h4.mono hB⟩
theorem slice (h : RowsB w B0 B1 v L) : ∃ A c, v = .slice A L.length c := by
  obtain ⟨vs, h1, _⟩ := h.row
  exact own_slice h1
theorem reads {A : Option Addr} {n c : Nat} (h : RowsB w B0 B1 (.slice A n c) L) (hB : B0 ≤ w.heap.size) : IsRows w A L := by
  intro k hk
  obtain ⟨vs, h1, h2⟩ := h.row
  rcases h1.2 with ⟨_, h0⟩ | ⟨g, cap, cur, hv, _, hh, _, _, _, htake⟩
  · omega
  · have hA : A = some ⟨g, 0, none⟩ := by injection hv
    have hnn : n = L.length := by injection hv
    subst hA
    subst hnn
    refine ⟨g, 0, rfl, fun i hi => ?_⟩
    obtain ⟨A', c', h4, h5⟩ := h2 i hi
    refine ⟨h5.2.1, A', c', ?_, h5.reads hB⟩
    rw [h1.cellAt (0 + i) (by omega), Nat.zero_add]
    exact h4
end RowsB
/-- one row of the call's own, of bytes' slices, from B1 on, may have turned -/
def RowGrown (B1 : Nat) (w w' : World) : Prop := ∃ row, w.grownBy w' row ∧ ∀ g, row = some g → B1 ≤ g ∧ ∃ cs, w.heap[g]? = some (.cells cs 23 (0, 0))
theorem RowGrown.below {B1 : Nat} {w w' : World} (h : RowGrown B1 w w') (hB : B1 ≤ w.heap.size) : Below B1 w w' := by
  obtain ⟨row, h1, h2⟩ := h
  exact below_grown h1 hB (fun k e => (h2 k e).1)
theorem DiskAt.rowGrown {w w' : World} {Z : Nat → Prop} {d : Dk} {s : Sx.St} {B1 : Nat} (h : DiskAt w Z d s) (hd : ∀ k, d.has k → k < B1) (hr : RowGrown B1 w w') : DiskAt w' Z d s := by
  obtain ⟨row, h1, h2⟩ := hr
  rcases row with _ | g
  · exact h.keep (Turned.ofGrown h1 (fun k e => by cases e))
  · obtain ⟨h3, cs, h4⟩ := h2 g rfl
    refine h.imp (fun k hk => h1.block k (h.lt k hk) (fun e => by injection e with e; have := hd k hk; omega)) h.off (fun A c l hA => ((hA.shunTag h4 (fun cur e => ?_)).keep (w' := w') (Turned.ofGrown h1 (fun k e => by injection e with e; exact .inr e.symm))).mono (fun _ h => .inl h))
    have h6 := (Obj.cells.inj e).2.1
    revert h6; decide
/-- append of one more slice of bytes, that the walk has just laid into a block of its own -/
theorem wpList_append_rowB {w : World} {ops : Array Oper} {rest : List Oper} {o : Oper} {a : Act} {Q : Exit → Act → World → Prop} (hgd : o.guard = none) (s x : Operand)
    (ho : o.op = .call { callee := .builtin .append, args := #[s, x], argTypes := #[46, 46] })
    (B0 B1 : Nat) (hB : B0 ≤ B1 ∧ B1 ≤ w.heap.size) (v : Value) (L : List (List Nat)) (hs : a.eval s = v) (h : RowsB w B0 B1 v L)
    (ad : Addr) (c' : Nat) (A : Option Addr) (c : Nat) (l : List Nat) (n : Nat) (hln : l.length = n) (hx : a.eval x = .slice (some ad) 1 c') (hc : w.cell? ad = some (.slice A n c)) (hA : Elm w B0 B1 A c l)
    (M : List (List Nat)) (hM : L ++ [l] = M) (m : Nat) (hm : L.length = m) (hn : m + 1 ≤ 100000)
    (hK : ∀ A2 c2 w', RowsB w' B0 B1 (.slice A2 (m + 1) c2) M → RowGrown B1 w w' → wpList Tryz.prog ops Q rest (a.put o.dst (.slice A2 (m + 1) c2)) w') :
    wpList Tryz.prog ops Q (o :: rest) a w := by
  subst hln
  subst hM
  subst hm
  obtain ⟨i0, hi, hz0, hz1, hz2⟩ := info_parts info_bytes
  obtain ⟨vs, h1, h2⟩ := h.row
  refine wpList_append_own_at w hgd s x 46 ho B1 23 i0 (.slice none 0 0) 1 24 Tryz.underlying46 hi hz0 hz1 hz2 rfl (by decide) v L.length vs hs h1 ad 1 c' [.slice A l.length c] hx rfl ?_ ?_ (by unfold maxLen; omega) (by omega) hB.2 ?_
  · intro j u hj
    match j, hj with
    | 0, hj => simp at hj; subst hj; simpa [Addr.add] using hc
  · intro u hu; simp at hu; subst hu; rfl
  · intro v' w' h3 h4 _ h5
    obtain ⟨A2, c2, rfl⟩ := own_slice h3
    have ht : Turned (fun k => v.ownBlock = some k) w w' := Turned.ofGrown h4 (fun k e => e)
    have hb : Below B1 w w' := below_grown h4 hB.2 (fun k e => (h1.lt k e).1)
    have hel : ∀ A c l, Elm w B0 B1 A c l → Elm w' B0 B1 A c l := fun A c l hA => by
      refine ⟨hA.1, hA.2.1, ?_⟩
      rcases hA.2.2 with h6 | h6
      · exact .inl (h6.below (hb.mono hB.1))
      · right
        rcases hbk : v.ownBlock with _ | g
        · exact h6.keep (ht.mono (fun k e => by rw [hbk] at e; cases e))
        · rcases h1.2 with ⟨rfl, _⟩ | ⟨g', cap, cur, rfl, _, hh, _⟩
          · cases hbk
          · have hg : g' = g := by simpa [Value.ownBlock] using hbk
            subst hg
            refine (((h6.shunTag hh ?_).keep (ht.mono (fun k e => ?_))).mono (fun _ h => .inl h))
            · intro cur e
              have h6 := (Obj.cells.inj e).2.1
              revert h6; decide
            · have e := hbk.symm.trans e
              injection e with e
              exact .inr e.symm
    refine hK A2 c2 w' ⟨⟨vs ++ [.slice A l.length c], by rw [List.length_append]; exact h3, fun i hi => ?_⟩⟩ ⟨_, h4, fun g hg => ⟨(h1.lt g hg).1, by
      rcases h1.2 with ⟨rfl, _⟩ | ⟨g', cap, cur, rfl, _, hh, _⟩
      · cases hg
      · have hgg : g' = g := by simpa [Value.ownBlock] using hg
        subst hgg
        exact ⟨cur, hh⟩⟩⟩
    have hvl : vs.length = L.length := by have := h1.1; omega
    by_cases hlt : i < L.length
    · obtain ⟨A', c'', h7, h8⟩ := h2 i hlt
      rw [List.getElem_append_left hlt]
      exact ⟨A', c'', by rw [List.getElem?_append_left (by omega)]; exact h7, hel _ _ _ h8⟩
    · have : i = L.length := by rw [List.length_append] at hi; simp at hi; omega
      subst this
      rw [List.getElem_append_right (Nat.le_refl _)]
      simp only [Nat.sub_self, List.getElem_cons_zero]
      exact ⟨A, c, by rw [List.getElem?_append_right (by omega), hvl]; simp, hel _ _ _ hA⟩
end Go.Proofs.YtdgijnolpjaheaaGreat
