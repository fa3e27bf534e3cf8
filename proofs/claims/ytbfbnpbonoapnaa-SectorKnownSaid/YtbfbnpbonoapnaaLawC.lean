/- The walk through shown: what all sectors of a disk are read as. -/
import Derived.Test.YtbfbnpbonoapnaaLawB
namespace Go.Proofs.Ytbfbnpbonoapnaa
open Go.RowKit

theorem one_new (w : World) (x : Value) (t : TypeId) : (w.alloc (.cells #[x] t)).cell? ⟨w.heap.size, 0, none⟩ = some x := by
  have := Go.cell_one_new w x t 0 x rfl
  exact this
theorem below_one (w : World) (o : Obj) : Below w.heap.size w (w.alloc o) := (Below.refl _ _).alloc (Nat.le_refl _) _
namespace Sx
theorem shows_length (s : St) : (shows s).length = min s.n 64 := by simp [shows]
theorem shows_get (s : St) (k : Nat) (h : k < (shows s).length) : (shows s)[k] = showOf s k := by simp [shows]
theorem shows_step (s : St) (k : Nat) (h : k < min s.n 64) : (shows s).take k ++ [showOf s k] = (shows s).take (k + 1) := by
  rw [List.take_succ_eq_append_getElem (by rw [shows_length]; exact h), shows_get]
theorem showOf_ok (s : St) (i : Nat) (h : rdE s i = 0) : showOf s i = rdB s i := by unfold showOf; rw [if_pos h]
theorem showOf_bad (s : St) (i : Nat) (h : rdE s i ≠ 0) : showOf s i = rowOf 65 := by unfold showOf; rw [if_neg h]
end Sx
theorem DiskAt.rdLen {w : World} {Z : Nat → Prop} {d : Dk} {s : Sx.St} (h : DiskAt w Z d s) (i : Int) : (Sx.rdB s i).length ≤ 64 := by
  unfold Sx.rdB
  split
  · rename_i hi
    have hk : i.toNat < s.n := by omega
    rcases hc : s.cache i.toNat with _ | b
    · simp only
      split
      · simp
      · exact (h.sec hk).1
    · obtain ⟨f, _, hf⟩ := h.map
      have := hf _ hk
      rw [hc] at this
      rcases h1 : f i.toNat with _ | v
      · rw [h1] at this; exact this.elim
      · rw [h1] at this; exact this.1
  · simp

set_option maxRecDepth 100000 in
theorem shown_any (Z : Nat → Prop) (d : Dk) (s : Sx.St) (w : World) (h : DiskAt w Z d s) :
    Calls Try.prog 17 #[.pointer (some ⟨d.g, 0, none⟩)] w fun e w' => ∃ A c, e = .returned (.slice A (min s.n 64) c) ∧ RowsAt w' (fun k => k < w.heap.size) (.slice A (min s.n 64) c) (Sx.shows s) ∧ Below w.heap.size w w' := by
  have HH := hid h
  have HR0 : Hid (RowsAt w (fun k => k < w.heap.size) (.slice none 0 0) ((Sx.shows s).take 0) ∧ Below w.heap.size w w) := hid ⟨RowsAt.nil _ _, Below.refl _ _⟩
  have hbd := h.bound
  have hn1 : s.n ≤ 16384 := hbd.2
  clear h hbd
  go_enter Try.func17, Try.ntmps17
  go_wp2_with fail
  go_loopw [3, 4] (fun o i wr => ∃ k : Nat, k ≤ min s.n 64 ∧ i = .int .i64 k ∧ ∃ A c, o = .slice A k c ∧ Hid (RowsAt wr (fun k => k < w.heap.size) (.slice A k c) ((Sx.shows s).take k) ∧ Below w.heap.size w wr)) (fun _ i _ => min s.n 64 - (RowKit.intOf i).toNat)
  case atStart => exact ⟨0, by omega, rfl, none, 0, rfl, HR0⟩
  case round =>
    clear HR0
    obtain ⟨k, hk, rfl, A, c, rfl, hR⟩ := hrel
    have HL := hid (len_any Z d s wr (HH.out.below hR.out.2))
    by_cases h1 : k < s.n
    · have h1' : (k : Int) < (s.n : Int) := by omega
      by_cases h2 : k < 64
      · have h2' : (k : Int) < 64 := by omega
        have hkm : k < min s.n 64 := by omega
        have HKM := hid hkm
        have HD := hid (HH.out.below hR.out.2)
        have HE := hid (read_any Z d s (k : Int) wr HD.out)
        clear hk hkm h1 h2
        go_wp2_with fail
        refine HL.out.mono ?_
        rintro e w1 ⟨rfl, rfl⟩
        go_wp2_with fail
        refine HE.out.mono ?_
        rintro e w2 ⟨A2, c2, rfl, hown, hb2⟩
        have hle := HD.out.rdLen (k : Int)
        have hw2 : Below w.heap.size w w2 := hR.out.2.trans (hb2.mono hR.out.2.size)
        have hR2 := hR.out.1.below hb2
        by_cases he : Sx.rdE s k = 0
        · have hA2 : OwnsZ w2 (fun k => k < w.heap.size) A2 c2 (Sx.rdB s k) := (OwnsZ.of hown).mono (fun j hj => by have := hR.out.2.size; omega)
          have hst := Sx.shows_step s k HKM.out
          rw [Sx.showOf_ok s k he] at hst
          have hlk : ((Sx.shows s).take k).length = k := by rw [List.length_take, Sx.shows_length]; have := HKM.out; omega
          have HQ := hid (And.intro hle (And.intro hw2 (And.intro hst hlk)))
          have HZ := hid (And.intro hR2 hA2)
          clear hle hw2 hst hlk hR2 hA2 hown hb2
          go_wp2_with (at_builtin; refine wpList_append_row rfl _ _ rfl (fun k => k < w.heap.size) (fun k hk => by have := HQ.out.2.1.size; simp; omega) _ ((Sx.shows s).take k) rfl (HZ.out.1.below (below_one _ _)) ⟨w2.heap.size, 0, none⟩ 1 A2 c2 (Sx.rdB s k) _ rfl rfl (one_new _ _ _) (HZ.out.2.keep (Turned.ofBelow _ (below_one _ _))) (by have := HQ.out.1; omega) _ HQ.out.2.2.1 k HQ.out.2.2.2 (by omega) ?_; intro A3 c3 w3 hR3 ht3)
          refine ⟨⟨k + 1, by have := HKM.out; omega, by go_num, A3, c3, rfl, hid ⟨hR3, ?_⟩⟩, by simp [RowKit.intOf]; have := HKM.out; omega⟩
          exact (HQ.out.2.1.trans ((below_one _ _).mono HQ.out.2.1.size)).trans (ht3.below (by have := HQ.out.2.1.size; simp; omega) (fun j hj => by omega))
        · have hst := Sx.shows_step s k HKM.out
          rw [Sx.showOf_bad s k he] at hst
          have hlk : ((Sx.shows s).take k).length = k := by rw [List.length_take, Sx.shows_length]; have := HKM.out; omega
          have HQ := hid (And.intro hw2 (And.intro hst hlk))
          have HZ := hid hR2
          have HR := hid (row_is 65 (by omega) (by omega) w2)
          clear hle hw2 hst hlk hR2 hown hb2
          go_wp2_with fail
          refine HR.out.mono ?_
          rintro e w4 ⟨A4, c4, rfl, hown4, hb4⟩
          have hA4 : OwnsZ w4 (fun k => k < w.heap.size) A4 c4 (rowOf 65) := (OwnsZ.of hown4).mono (fun j hj => by have := HQ.out.1.size; omega)
          have HA4 := hid (And.intro hA4 (And.intro (HZ.out.below hb4) (HQ.out.1.trans (hb4.mono HQ.out.1.size))))
          clear hA4 hown4 hb4
          go_wp2_with (at_builtin; refine wpList_append_row rfl _ _ rfl (fun k => k < w.heap.size) (fun k hk => by have := HA4.out.2.2.size; simp; omega) _ ((Sx.shows s).take k) rfl (HA4.out.2.1.below (below_one _ _)) ⟨w4.heap.size, 0, none⟩ 1 A4 c4 (rowOf 65) 65 (rowOf_length 65) rfl (one_new _ _ _) (HA4.out.1.keep (Turned.ofBelow _ (below_one _ _))) (by omega) _ HQ.out.2.1 k HQ.out.2.2 (by omega) ?_; intro A3 c3 w3 hR3 ht3)
          refine ⟨⟨k + 1, by have := HKM.out; omega, by go_num, A3, c3, rfl, hid ⟨hR3, ?_⟩⟩, by simp [RowKit.intOf]; have := HKM.out; omega⟩
          exact (HA4.out.2.2.trans ((below_one _ _).mono HA4.out.2.2.size)).trans (ht3.below (by have := HA4.out.2.2.size; simp; omega) (fun j hj => by omega))
      · obtain rfl : k = 64 := by omega
        have hm : min s.n 64 = 64 := by omega
        have hR1 := hR.out
        rw [List.take_of_length_le (by rw [Sx.shows_length]; omega)] at hR1
        have HR1 := hid hR1
        clear hk h1 h2 hR hR1
        go_wp2_with fail
        refine HL.out.mono ?_
        rintro e w1 ⟨rfl, rfl⟩
        go_wp2_with fail
        go_ret
        rw [hm]
        exact ⟨A, c, rfl, HR1.out.1, HR1.out.2⟩
    · obtain rfl : k = s.n := by omega
      have hm : min s.n 64 = s.n := by omega
      have hR1 := hR.out
      rw [List.take_of_length_le (by rw [Sx.shows_length]; omega)] at hR1
      have HR1 := hid hR1
      clear hk h1 hR hR1
      go_wp2_with fail
      refine HL.out.mono ?_
      rintro e w1 ⟨rfl, rfl⟩
      go_wp2_with fail
      go_ret
      rw [hm]
      exact ⟨A, c, rfl, HR1.out.1, HR1.out.2⟩
end Go.Proofs.Ytbfbnpbonoapnaa
