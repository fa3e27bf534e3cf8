/- The walks through the reader of package pack: a list; a reader that is made. -/
import Derived.Test.YtdmghnfnmgkigaaReader2
import Derived.Test.YtdmghnfnmgkigaaGrowInts
import Derived.Test.YtdmghnfnmgkigaaKitN
namespace Go.Proofs.Ytdmghnfnmgkigaa
open Go.RowKit

set_option maxHeartbeats 800000 in
theorem ints_rdr (g : Nat) (s : Pk.St) (w : World) (h : Rdr w g s) (hl : s.rest.length ≤ 140737488352000) :
    Calls Try.prog 44 #[.pointer (some ⟨g, 0, none⟩)] w fun e w' => ∃ A' c', e = .returned (.slice A' (Pk.rdInts s).1.length c') ∧ OwnsI 3 w' w.heap.size A' c' (Pk.rdInts s).1 ∧ Rdr w' g (Pk.rdInts s).2 ∧ w.grownBy w' (some g) := by
  obtain ⟨i0, hi, hz0, hz1, hz2⟩ := info_parts I.info_int
  have HI := hid (int_rdr g s w h)
  have hin := Pk.rdInt_in s h.small
  have hsh := Pk.rdInt_short s
  have hgl := h.lt
  have HBAD := hid (Pk.rdInt_bad s h.ok)
  have HSB := hid (Pk.rdInts_bad s)
  have HSW := hid (Pk.rdInts_wrong s)
  have HSR := hid (Pk.rdInts_right s)
  clear h
  obtain ⟨s1, hs1⟩ : ∃ s1, s1 = (Pk.rdInt s).2 := ⟨_, rfl⟩
  obtain ⟨n, hn⟩ : ∃ n, n = (Pk.rdInt s).1 := ⟨_, rfl⟩
  rw [← hs1, ← hn] at HI HBAD HSW HSR
  rw [← hs1] at HSB
  rw [← hs1] at hsh
  rw [← hn] at hin
  clear hs1 hn
  have hin1 := hin.1
  have hin2 := hin.2
  by_cases hwrong : n < 0 ∨ ((s1.rest.length : Int) / 8) < n
  · have HE := hid (HSW.out hwrong)
    clear HSW HSB HSR HBAD hin
    by_cases hneg : n < 0
    · clear hwrong
      go_enter Try.func44, Try.ntmps44
      go_wp2_with fail
      refine HI.out.mono ?_
      rintro e w1 ⟨rfl, hR, hG⟩
      have HS := hid (spoil_rdr g s1 w1 hR)
      obtain ⟨A, c, h1, _, hc, hm, _⟩ := hR.at_
      have hc0 : w1.cell? ⟨g, 0, none⟩ = some (.slice A s1.rest.length c) := row_cell h1 0
      clear hR h1
      go_wp2_with fail
      refine HS.out.mono ?_
      rintro e w2 ⟨rfl, hR, hG2⟩
      go_wp2_with fail
      go_ret
      rw [HE.out]
      exact ⟨none, 0, rfl, OwnsI.nil _ _ _, hR, hG.trans hG2⟩
    · have hlt : ((s1.rest.length : Int) / 8) < n := by omega
      clear hwrong
      go_enter Try.func44, Try.ntmps44
      go_wp2_with fail
      refine HI.out.mono ?_
      rintro e w1 ⟨rfl, hR, hG⟩
      have HS := hid (spoil_rdr g s1 w1 hR)
      obtain ⟨A, c, h1, _, hc, hm, _⟩ := hR.at_
      have hc0 : w1.cell? ⟨g, 0, none⟩ = some (.slice A s1.rest.length c) := row_cell h1 0
      clear hR h1
      go_wp2_with fail
      refine HS.out.mono ?_
      rintro e w2 ⟨rfl, hR, hG2⟩
      go_wp2_with fail
      go_ret
      rw [HE.out]
      exact ⟨none, 0, rfl, OwnsI.nil _ _ _, hR, hG.trans hG2⟩
  · obtain ⟨m, rfl⟩ : ∃ m : Nat, n = (m : Int) := ⟨n.toNat, by omega⟩
    have hm8 : 8 * m ≤ s1.rest.length := by omega
    have HE : Hid (Pk.rdInts s = (Pk.nums m s1.rest, ⟨s1.rest.drop (8 * m), s1.bad⟩)) := by
      show _ = _
      by_cases hb : s1.bad = true
      · obtain ⟨h0, hg⟩ := HBAD.out hb
        obtain rfl : m = 0 := by omega
        rw [HSB.out hb, hg]
        simp [Pk.gone, Pk.nums]
      · have hb' : s1.bad = false := by simpa using hb
        rw [HSR.out m hb' rfl hm8, hb']
    clear HSW HSB HSR HBAD hin hwrong
    go_enter Try.func44, Try.ntmps44
    go_wp2_with fail
    refine HI.out.mono ?_
    rintro e w1 ⟨rfl, hR, hG⟩
    obtain ⟨A, c, h1, _, hc, hm, _⟩ := hR.at_
    have hc0 : w1.cell? ⟨g, 0, none⟩ = some (.slice A s1.rest.length c) := row_cell h1 0
    clear h1
    go_wp2_with fail
    refine (grow_none m (by omega) w1).mono ?_
    rintro e w2 ⟨A2, c2, rfl, hown, hbel⟩
    have hR2 : Rdr w2 g s1 := hR.below (hbel.mono hR.lt)
    have hG2 : w.grownBy w2 (some g) := grown_then hG (hbel.mono hG.size)
    have hown2 := hown.weaken hG.size
    clear hR hG hown hbel hc0
    go_wp2_with fail
    go_loopw [4, 24] (fun b i wr => ∃ k : Nat, ∃ A5 : Option Addr, ∃ c5 : Nat, k ≤ m ∧ i = .int .i64 k ∧ b = .slice A5 k c5 ∧ OwnsI 3 wr w.heap.size A5 c5 (Pk.nums k s1.rest) ∧ Rdr wr g ⟨s1.rest.drop (8 * k), s1.bad⟩ ∧ w.grownBy wr (some g)) (fun _ i _ => m - (intOf i).toNat)
    case atStart => exact ⟨0, A2, c2, by omega, rfl, rfl, by simpa [Pk.nums] using hown2, by simpa using hR2, hG2⟩
    case round =>
      clear hown2 hR2 hG2
      obtain ⟨k, A5, c5, hk, rfl, rfl, hown, hR, hG⟩ := hrel
      by_cases hlt : k < m
      · have C := int_rdr g ⟨s1.rest.drop (8 * k), s1.bad⟩ wr hR
        rw [Pk.rdInt_drop s1.rest s1.bad k m hlt hm8] at C
        have hv := Pk.sgn_in _ (Pk.take_num_lt (s1.rest.drop (8 * k)) hR.small)
        have HC := hid C
        obtain ⟨v, hveq⟩ : ∃ v, v = Pk.sgn (Pk.num ((s1.rest.drop (8 * k)).take 8)) := ⟨_, rfl⟩
        rw [← hveq] at HC hv
        have hnum : Pk.nums k s1.rest ++ [v] = Pk.nums (k + 1) s1.rest := by rw [hveq, Pk.nums_snoc]
        have HN := hid hnum
        have hgw := hG.size
        clear C hR hnum hveq
        go_wp2_with fail
        refine HC.out.mono ?_
        rintro e w3 ⟨rfl, hR3, hG3⟩
        have hown3 : OwnsI 3 w3 w.heap.size A5 c5 (Pk.nums k s1.rest) := hown.grown hG3 (fun j hj => by injection hj with hj; omega)
        have hG4 : w.grownBy w3 (some g) := hG.trans hG3
        have hsz := hG4.size
        clear hown hG hG3
        go_wp2_with (at_builtin; refine wpList_append_intN rfl _ _ 23 rfl w.heap.size 3 i0 Try.underlying23 hi hz0 hz1 hz2 A5 c5 (Pk.nums k s1.rest) k (Pk.nums_length _ _) rfl (hown3.alloc _) ⟨w3.heap.size, 0, none⟩ 1 v hv rfl ?c1 (Pk.nums (k + 1) s1.rest) HN.out (by omega) ?c2 ?_)
        case c1 => simp
        case c2 => simp; omega
        intro A6 c6 w4 hown4 hbel4
        have hb4 : Below w.heap.size w3 w4 := ((Below.refl _ _).alloc hsz _).trans hbel4
        have HO := hid (And.intro hown4 (And.intro (hR3.below (hb4.mono (by omega))) (grown_then hG4 hb4)))
        clear hown4 hbel4 hb4 hown3 hG4 hR3
        go_wp2_with fail
        go_roundw
        case rel => exact ⟨k + 1, A6, c6, by omega, by go_num, rfl, HO.out.1, HO.out.2.1, HO.out.2.2⟩
        case measure => simp [intOf] <;> omega
      · obtain rfl : k = m := by omega
        clear hlt hk
        go_wp2_with fail
        go_ret
        rw [HE.out]
        exact ⟨A5, c5, ret_len (Pk.nums_length _ _).symm, hown, hR, hG⟩

theorem OwnsB.capLe {e : TypeId} {w : World} {base c : Nat} {A : Option Addr} {l : List Nat} (h : OwnsB e w base A c l) : c ≤ maxLen ∧ (A = none → c = 0) := by
  rcases h.row.2 with ⟨h1, _⟩ | ⟨g, cap, cur, h1, _, _, _, h2, _⟩
  · injection h1 with h1 h2 h3
    exact ⟨by omega, fun _ => h3⟩
  · injection h1 with h3 h4 h5
    exact ⟨by omega, fun h6 => by rw [h3] at h6; cases h6⟩
set_option maxHeartbeats 400000 in
theorem clone_any (B : Nat) (A : Option Addr) (c : Nat) (l : List Nat) (hl : l.length ≤ 140737488354000) (w : World) (h : IsBytes w B A l) (hB : B ≤ w.heap.size) (hn : A = none → c = 0) :
    Calls Try.prog 41 #[.slice A l.length c] w fun e w' => ∃ A' c', e = .returned (.slice A' l.length c') ∧ OwnsB 5 w' w.heap.size A' c' l ∧ Below w.heap.size w w' := by
  obtain ⟨i0, hi, hz0, hz1, hz2⟩ := info_parts info_u8
  have hq := fun (w : World) (a : Option Addr) (n c : Nat) => Lib.run_eql_slice_nil (P := Try.prog) w 22 5 a n c 0 0 Try.underlying22
  rcases A with _ | ad
  · obtain rfl := hn rfl
    obtain rfl := h.of_none
    go_enter Try.func41, Try.ntmps41
    go_wp2
    go_ret
    exact ⟨none, 0, rfl, OwnsB.nil _ _ _, Below.refl _ _⟩
  · have hbel : Below w.heap.size w (w.alloc (.cells #[] 5)) := (Below.refl _ _).alloc (Nat.le_refl _) _
    have hown : OwnsB 5 (w.alloc (.cells #[] 5)) w.heap.size (some ⟨w.heap.size, 0, none⟩) 0 [] := by
      refine ⟨by simp, by simp [bytes], .inr ⟨w.heap.size, 0, _, rfl, Nat.le_refl _, heap_alloc_new w _, Nat.zero_le _, by unfold maxLen; omega, by simp, by simp [bytes]⟩⟩
    have hs : IsBytes (w.alloc (.cells #[] 5)) w.heap.size (some ad) l := (h.more hB).below hbel
    have HB := hid hbel
    have hsz := hbel.size
    have HS := hid hsz
    clear hbel hsz
    go_enter Try.func41, Try.ntmps41
    go_wp2_with (at_builtin; refine wpList_append_bytesN rfl _ _ 22 rfl w.heap.size 5 i0 Try.underlying22 hi hz0 hz1 hz2 (some ⟨w.heap.size, 0, none⟩) 0 [] 0 rfl rfl hown w.heap.size (some ad) c l l.length rfl rfl hn hs l (List.nil_append _) (by omega) HS.out ?_)
    intro A3 c3 w2 hown2 hbel2
    have HB2 := hid (HB.out.trans hbel2)
    clear hown hs hbel2
    go_wp2
    go_ret
    exact ⟨A3, c3, ret_len (by simp), hown2, HB2.out⟩

/-- a reader that is made; it stays whatever is written into one block that was there ahead of it -/
def Fresh (w : World) (l : List Nat) (e : Ending) (w' : World) : Prop :=
  ∃ g, e = .returned (.pointer (some ⟨g, 0, none⟩)) ∧ w.heap.size ≤ g ∧ (∀ w2 row, w'.grownBy w2 row → (∀ k, row = some k → k < w.heap.size) → Rdr w2 g ⟨l, false⟩) ∧ Below w.heap.size w w'
set_option maxHeartbeats 400000 in
theorem read_keep (B : Nat) (A : Option Addr) (c : Nat) (l : List Nat) (hl : l.length ≤ 140737488354000) (w : World) (h : IsBytes w B A l) (hB : B ≤ w.heap.size) (hn : A = none → c = 0) :
    Calls Try.prog 22 #[.slice A l.length c] w (Fresh w l) := by
  have HC := hid (clone_any B A c l hl w h hB hn)
  have hsm := h.small
  clear h hn
  go_enter Try.func22, Try.ntmps22
  go_wp2_with fail
  refine HC.out.mono ?_
  rintro e w1 ⟨A1, c1, rfl, hown, hbel⟩
  have hcap := hown.cap
  have hcap2 := hown.capLe
  have hm : l.length ≤ 9223372036854775807 := by have := hcap2.1; unfold maxLen at this; omega
  have hm2 : c1 ≤ 9223372036854775807 := by have := hcap2.1; unfold maxLen at this; omega
  have hsz := hbel.size
  have hblk := hown.blkLt
  clear HC
  have HR : Hid (∀ A2, (l = [] ∨ A2 = A1) → (A2 = none → l.length = 0) → ∀ w2 row, (w1.alloc (.cells #[.slice A2 l.length l.length, .bool false] 59)).grownBy w2 row → (∀ k, row = some k → k < w.heap.size) → Rdr w2 w1.heap.size ⟨l, false⟩) := by
    intro A2 hA hn2 w2 row hG hr
    have hr1 : some w1.heap.size ≠ row := fun e => by have := hr _ e.symm; omega
    refine ⟨hsm, fun h => (by cases h), A2, l.length, (hG.block w1.heap.size (by simp) hr1).trans (heap_alloc_new w1 _), ?_, Nat.le_refl _, by unfold maxLen; omega, hn2⟩
    rcases hA with rfl | rfl
    · exact IsBytes.nil
    · have h3 : OwnsB 5 w2 w.heap.size A2 c1 l := (hown.alloc _).grown hG hr
      refine ⟨h3.small, fun k hk => ?_⟩
      obtain ⟨b, off, e, _, hc⟩ := h3.reads.cells k hk
      exact ⟨b, off, e, (hblk b (by rw [e]; rfl)).2, hc⟩
  have HB : Hid (∀ o, Below w.heap.size w (w1.alloc o)) := fun o => hbel.alloc hsz o
  have hl0 := fun e => (hcap2.2 e)
  clear hbel hcap2 hown hblk
  rcases A1 with _ | ad
  · have hc0 : c1 = 0 := hl0 rfl
    obtain rfl := hc0
    obtain rfl : l = [] := List.eq_nil_of_length_eq_zero (by omega)
    clear hl0
    go_wp2
    go_ret
    exact ⟨_, rfl, hsz, HR.out none (by simp) (by simp), HB.out _⟩
  · clear hl0
    go_wp2
    go_ret
    exact ⟨_, rfl, hsz, HR.out (some ad) (.inr rfl) (fun h => by cases h), HB.out _⟩
theorem read_any (B : Nat) (A : Option Addr) (c : Nat) (l : List Nat) (hl : l.length ≤ 140737488354000) (w : World) (h : IsBytes w B A l) (hB : B ≤ w.heap.size) (hn : A = none → c = 0) :
    Calls Try.prog 22 #[.slice A l.length c] w fun e w' => ∃ g, e = .returned (.pointer (some ⟨g, 0, none⟩)) ∧ w.heap.size ≤ g ∧ Rdr w' g ⟨l, false⟩ ∧ Below w.heap.size w w' :=
  (read_keep B A c l hl w h hB hn).mono fun e w' ⟨g, he, hg, hR, hb⟩ => ⟨g, he, hg, hR w' none (grown_refl _ _) (fun k hk => by cases hk), hb⟩
end Go.Proofs.Ytdmghnfnmgkigaa
