/- The walks through the document's Read and Dirty. -/
import Derived.Test.YtbfbnpbonoapnaaRefDisk
import Derived.Test.YtbfbnpbonoapnaaKitInts
namespace Go.Proofs.Ytbfbnpbonoapnaa
open Go.RowKit

namespace Sx
def rdX (x : Xs) (i : Int) : List Nat × Int :=
  if 0 ≤ i ∧ i < x.n then
    match x.cache i.toNat with
    | some b => (b, 0)
    | none => match x.lasts i.toNat with
      | none => ([], 0)
      | some u => if u.2 then ([], 9) else (u.1, 0)
  else ([], 3)
/-- a number that is in the list, or in none of its items -/
theorem found {f : Nat → Option (List Nat × Bool)} {n : Nat} {k : Nat} (hk : k < (secs f 0 n).length) {i : Int} (h : ((secs f 0 n)[k].no : Int) = i) : f i.toNat = some ((secs f 0 n)[k].b, (secs f 0 n)[k].torn) := by
  have := (secs_no 0 n _ (List.getElem_mem hk)).2.2
  rw [← h, Int.toNat_natCast]
  exact this
theorem mem_secs {f : Nat → Option (List Nat × Bool)} {i : Nat} {u : List Nat × Bool} (hf : f i = some u) : ∀ a n, a ≤ i → i < a + n → ⟨i, u.1, u.2⟩ ∈ secs f a n
  | a, 0, h1, h2 => by omega
  | a, n + 1, h1, h2 => by
    unfold secs
    by_cases h : a = i
    · subst h
      rw [hf]
      exact List.mem_append.2 (.inl (List.mem_singleton.2 rfl))
    · exact List.mem_append.2 (.inr (mem_secs hf (a + 1) n (by omega) (by omega)))
theorem not_found {f : Nat → Option (List Nat × Bool)} {n : Nat} {i : Int} (hi : 0 ≤ i ∧ i < n) (h : ∀ x ∈ secs f 0 n, (x.no : Int) ≠ i) : f i.toNat = none := by
  rcases hf : f i.toNat with _ | u
  · rfl
  · have := h _ (mem_secs hf 0 n (Nat.zero_le _) (by omega))
    exact absurd (by show ((i.toNat : Nat) : Int) = i; omega) this
end Sx

set_option maxRecDepth 100000 in
set_option maxHeartbeats 1600000 in
theorem refRead_any (Z : Nat → Prop) (g : Nat) (x : Sx.Xs) (i : Int) (w : World) (h : RefAt w Z g x) :
    Calls Try.prog 40 #[.pointer (some ⟨g, 0, none⟩), .int .i64 i] w fun e w' => ∃ A c, e = .returned (.tuple #[.slice A (Sx.rdX x i).1.length c, .int .i64 (Sx.rdX x i).2]) ∧ OwnsB 5 w' w.heap.size A c (Sx.rdX x i).1 ∧ Below w.heap.size w w' := by
  obtain ⟨A1, k1, A2, k2, c0, c1, c2, c3, c4, hs1, hs2⟩ := h.cells
  have hl1 : x.ll.length ≤ 20000 := by have := RefAt.len1 x; have := h.bound; omega
  have hl2 : x.cl.length ≤ 20000 := by have := RefAt.len2 x; have := h.bound; omega
  by_cases hi : 0 ≤ i ∧ i < x.n
  · have hi1 : ¬ i < 0 := by omega
    have hi2 : ¬ (x.n : Int) ≤ i := by omega
    have HF2 := hid (find_any Z A2 k2 _ x.cl hl2 i w hs2 rfl)
    have HF1 := hid (find_any Z A1 k1 _ x.ll hl1 i w hs1 rfl)
    have HS := hid (And.intro hs1 hs2)
    have HI := hid hi
    clear hs1 hs2 h hi
    go_enter Try.func40, Try.ntmps40
    go_wp2_with fail
    refine HF2.out.mono ?_
    rintro e w1 ⟨⟨r, rfl, hr⟩, rfl⟩
    rcases hr with ⟨k, hk, rfl, hno⟩ | ⟨rfl, hno⟩
    · have hf := Sx.found hk hno
      have hcc : x.cache i.toNat = some x.cl[k].b := by
        have hf : (x.cache i.toNat).map (fun b => (b, false)) = some (x.cl[k].b, x.cl[k].torn) := hf
        rcases hc : x.cache i.toNat with _ | b
        · rw [hc] at hf; cases hf
        · rw [hc] at hf
          have := (Prod.mk.inj (Option.some.inj hf)).1
          rw [← this]
      have e1 : Sx.rdX x i = (x.cl[k].b, 0) := by unfold Sx.rdX; rw [if_pos HI.out, hcc]
      have E1 := hid e1
      obtain ⟨g2, A', c', rfl, _, d0, d1, d2, hA, hx1, hx2⟩ := HS.out.2.at_ k hk
      have hk0 : (k : Int) < (x.cl.length : Int) := by omega
      have hk1 : ¬ (k : Int) < 0 := by omega
      have HC := hid (copy_N w1.heap.size A' c' x.cl[k].b _ rfl (by omega) w1 hA.reads (Nat.le_refl _))
      clear hf hcc e1 hno hA
      go_wp2_with fail
      refine HC.out.mono ?_
      rintro e w2 ⟨A3, c3', rfl, hown, hb⟩
      go_wp2
      go_ret2
      rw [E1.out]
      exact ⟨A3, c3', rfl, hown, hb⟩
    · have hcc : x.cache i.toNat = none := by
        have hf := Sx.not_found HI.out hno
        have hf : (x.cache i.toNat).map (fun b => (b, false)) = none := hf
        rcases hc : x.cache i.toNat with _ | b
        · rfl
        · rw [hc] at hf; cases hf
      clear hno
      go_wp2_with fail
      refine HF1.out.mono ?_
      rintro e w2 ⟨⟨r, rfl, hr⟩, rfl⟩
      rcases hr with ⟨k, hk, rfl, hno⟩ | ⟨rfl, hno⟩
      · have hf : x.lasts i.toNat = some (x.ll[k].b, x.ll[k].torn) := Sx.found hk hno
        obtain ⟨g2, A', c', rfl, _, d0, d1, d2, hA, hx1, hx2⟩ := HS.out.1.at_ k hk
        have hk0 : (k : Int) < (x.ll.length : Int) := by omega
        have hk1 : ¬ (k : Int) < 0 := by omega
        cases ht : x.ll[k].torn
        · have e1 : Sx.rdX x i = (x.ll[k].b, 0) := by unfold Sx.rdX; rw [if_pos HI.out, hcc, hf]; simp [ht]
          have E1 := hid e1
          have HC := hid (copy_N w2.heap.size A' c' x.ll[k].b _ rfl (by omega) w2 hA.reads (Nat.le_refl _))
          rw [ht] at d2
          clear hf hcc e1 hno hA ht
          go_wp2_with fail
          refine HC.out.mono ?_
          rintro e w3 ⟨A3, c3', rfl, hown, hb⟩
          go_wp2
          go_ret2
          rw [E1.out]
          exact ⟨A3, c3', rfl, hown, hb⟩
        · have e1 : Sx.rdX x i = ([], 9) := by unfold Sx.rdX; rw [if_pos HI.out, hcc, hf]; simp [ht]
          have E1 := hid e1
          rw [ht] at d2
          clear hf hcc e1 hno hA ht
          go_wp2_with fail
          go_ret2
          rw [E1.out]
          exact ⟨none, 0, rfl, OwnsB.nil _ _ _, Below.refl _ _⟩
      · have hf : x.lasts i.toNat = none := Sx.not_found HI.out hno
        have e1 : Sx.rdX x i = ([], 0) := by unfold Sx.rdX; rw [if_pos HI.out, hcc, hf]
        have E1 := hid e1
        clear hf hcc e1 hno
        go_wp2_with fail
        go_ret2
        rw [E1.out]
        exact ⟨none, 0, rfl, OwnsB.nil _ _ _, Below.refl _ _⟩
  · have e1 : Sx.rdX x i = ([], 3) := by unfold Sx.rdX; rw [if_neg hi]
    have E1 := hid e1
    rw [e1]
    clear e1 h
    by_cases h0 : i < 0
    · clear hi
      go_enter Try.func40, Try.ntmps40
      go_wp2
      go_ret2
      exact ⟨none, 0, rfl, OwnsB.nil _ _ _, Below.refl _ _⟩
    · have h1 : (x.n : Int) ≤ i := by omega
      clear hi
      go_enter Try.func40, Try.ntmps40
      go_wp2
      go_ret2
      exact ⟨none, 0, rfl, OwnsB.nil _ _ _, Below.refl _ _⟩

namespace Sx
def dirtyX (x : Xs) : List Nat := dirtyTo x.cache x.n
theorem cl_nos (x : Xs) : x.cl.map (·.no) = dirtyX x := by
  unfold Xs.cl dirtyX dirtyTo
  rw [secs_nos, List.range_eq_range']
  refine List.filter_congr fun i _ => ?_
  unfold Xs.cf
  rcases x.cache i with _ | b <;> rfl
theorem cl_length (x : Xs) : x.cl.length = (dirtyX x).length := by rw [← cl_nos, List.length_map]
theorem cl_no (x : Xs) (k : Nat) (h : k < x.cl.length) : x.cl[k].no = (dirtyX x)[k]'(by rw [← cl_length]; exact h) := by
  have : (x.cl.map (·.no))[k]'(by rw [List.length_map]; exact h) = x.cl[k].no := by rw [List.getElem_map]
  rw [← this]
  congr 1
  exact cl_nos x
theorem dirtyX_step (x : Xs) (k : Nat) (h : k < x.cl.length) : (dirtyX x).take k ++ [x.cl[k].no] = (dirtyX x).take (k + 1) := by
  rw [List.take_succ_eq_append_getElem (by rw [← cl_length]; exact h), cl_no x k h]
end Sx
set_option maxRecDepth 100000 in
set_option maxHeartbeats 1600000 in
theorem refDirty_any (Z : Nat → Prop) (g : Nat) (x : Sx.Xs) (w : World) (h : RefAt w Z g x) :
    Calls Try.prog 41 #[.pointer (some ⟨g, 0, none⟩)] w fun e w' => ∃ A c, e = .returned (.slice A (Sx.dirtyX x).length c) ∧ OwnsI 3 w' w.heap.size A c ((Sx.dirtyX x).map fun (i : Nat) => (i : Int)) ∧ Below w.heap.size w w' := by
  obtain ⟨i0, hi, hz0, hz1, hz2⟩ := info_parts I.info_int
  have HH := hid h
  have hl : x.cl.length ≤ 20000 := by have := RefAt.len2 x; have := h.bound; omega
  have HS : Hid (OwnsI 3 w w.heap.size none 0 (((Sx.dirtyX x).take 0).map fun (i : Nat) => (i : Int)) ∧ Below w.heap.size w w) := hid ⟨OwnsI.nil _ _ _, Below.refl _ _⟩
  clear h
  go_enter Try.func41, Try.ntmps41
  go_wp2_with fail
  go_loopw [3, 4] (fun o iv wr => ∃ k : Nat, k ≤ x.cl.length ∧ iv = .int .i64 k ∧ ∃ A c, o = .slice A k c ∧ Hid (OwnsI 3 wr w.heap.size A c (((Sx.dirtyX x).take k).map fun (i : Nat) => (i : Int)) ∧ Below w.heap.size w wr)) (fun _ i _ => x.cl.length - (RowKit.intOf i).toNat)
  case atStart => exact ⟨0, by omega, rfl, none, 0, rfl, HS⟩
  case round =>
    clear HS
    obtain ⟨k, hk, rfl, A, c, rfl, hS⟩ := hrel
    obtain ⟨A1, k1, A2, k2, c0, c1, c2, c3, c4, hs1, hs2⟩ := (HH.out.below hS.out.2).cells
    by_cases hlt : k < x.cl.length
    · obtain ⟨g2, A', c', rfl, _, d0, d1, d2, hA, hx1, hx2⟩ := hs2.at_ k hlt
      have hk0 : (k : Int) < (x.cl.length : Int) := by omega
      have HLT := hid hlt
      have hst := Sx.dirtyX_step x k hlt
      have HST := hid hst
      have HX := hid hx1
      have hlk : (((Sx.dirtyX x).take k).map fun (i : Nat) => (i : Int)).length = k := by
        rw [List.length_map, List.length_take, ← Sx.cl_length]; omega
      have HLK := hid hlk
      clear hs1 hs2 hA hst hx1 hx2 hlk
      go_wp2_with (at_builtin; refine wpList_append_intN rfl _ _ 34 rfl w.heap.size 3 i0 Try.underlying34 hi hz0 hz1 hz2 A c _ k HLK.out rfl (hS.out.1.alloc _) ⟨wr.heap.size, 0, none⟩ 1 (x.cl[k].no : Nat) ⟨by have := HX.out; omega, by have := HX.out; omega⟩ rfl (one_new _ _ _) (((Sx.dirtyX x).take (k + 1)).map fun (i : Nat) => (i : Int)) (by rw [← HST.out, List.map_append]; rfl) (by omega) (by have := hS.out.2.size; simp; omega) ?_; intro A3 c3' w3 hI3 hb3)
      refine ⟨⟨k + 1, by have := HLT.out; omega, by go_num, A3, c3', rfl, hid ⟨hI3, ?_⟩⟩, by simp [RowKit.intOf]; have := HLT.out; omega⟩
      exact (hS.out.2.trans ((below_one _ _).mono hS.out.2.size)).trans hb3
    · obtain rfl : k = x.cl.length := by omega
      have hS1 := hS.out
      rw [List.take_of_length_le (by rw [← Sx.cl_length]; exact Nat.le_refl _)] at hS1
      have HS1 := hid hS1
      have HE := hid (Sx.cl_length x)
      clear hs1 hs2 hS1 hlt hk
      go_wp2_with fail
      go_ret
      rw [← HE.out]
      exact ⟨A, c, rfl, HS1.out.1, HS1.out.2⟩
end Go.Proofs.Ytbfbnpbonoapnaa
