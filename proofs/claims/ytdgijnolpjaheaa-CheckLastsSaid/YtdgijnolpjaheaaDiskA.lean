/- The walks through a disk's small methods. -/
import Derived.Test.YtdgijnolpjaheaaDisk
namespace Go.Proofs.Ytdgijnolpjaheaa
open Go.RowKit

theorem has_any (Z : Nat → Prop) (d : Dk) (s : Sx.St) (i : Int) (w : World) (h : DiskAt w Z d s) :
    Calls Try.prog 38 #[.pointer (some ⟨d.g, 0, none⟩), .int .i64 i] w fun e w' => e = .returned (.bool (decide (0 ≤ i ∧ i < s.n))) ∧ w' = w := by
  obtain ⟨c0, c1, c2, c3, c4⟩ := h.cells
  by_cases h0 : 0 ≤ i
  · go_enter Try.func38, Try.ntmps38
    go_wp2
    go_ret
    simp [h0]
  · have h1 : i < 0 := by omega
    have H0 := hid h1
    clear h1
    go_enter Try.func38, Try.ntmps38
    go_wp2
    go_ret
    have h1 : i < 0 := H0.out
    simp
    omega
theorem len_any (Z : Nat → Prop) (d : Dk) (s : Sx.St) (w : World) (h : DiskAt w Z d s) :
    Calls Try.prog 48 #[.pointer (some ⟨d.g, 0, none⟩)] w fun e w' => e = .returned (.int .i64 (s.n : Nat)) ∧ w' = w := by
  obtain ⟨c0, c1, c2, c3, c4⟩ := h.cells
  go_enter Try.func48, Try.ntmps48
  go_wp2
  go_ret
  exact ⟨rfl, rfl⟩
theorem down_any (Z : Nat → Prop) (d : Dk) (s : Sx.St) (w : World) (h : DiskAt w Z d s) :
    Calls Try.prog 15 #[.pointer (some ⟨d.g, 0, none⟩)] w fun e w' => e = .returned (.bool s.down) ∧ w' = w := by
  obtain ⟨c0, c1, c2, c3, c4⟩ := h.cells
  go_enter Try.func15, Try.ntmps15
  go_wp2
  go_ret
  exact ⟨rfl, rfl⟩
theorem arm_any (Z : Nat → Prop) (d : Dk) (s : Sx.St) (n : Int) (hn : InInt n) (w : World) (h : DiskAt w Z d s) :
    Calls Try.prog 13 #[.pointer (some ⟨d.g, 0, none⟩), .int .i64 n] w fun e w' => e = .returned (.tuple #[]) ∧ DiskAt w' Z d (Sx.arm s n) ∧ Turned d.has w w' := by
  obtain ⟨c0, c1, c2, c3, c4⟩ := h.cells
  have f2 := h.frozen 2
  have f3 := h.frozen 3
  have HH := hid h
  clear h
  go_enter Try.func13, Try.ntmps13
  go_wp2
  go_end0
  have ht : Turned (fun k => k = d.g) w ((w.setCell ⟨d.g, 2, none⟩ (.bool (decide (0 ≤ n)))).setCell ⟨d.g, 3, none⟩ (.int .i64 n)) :=
    Turned.two _ _ _ _ _ _
  refine ⟨rfl, HH.out.head ht rfl rfl rfl ⟨hn, fun ha => by simpa [Sx.arm] using ha⟩ ?_, ht.mono (fun _ h => .inl h)⟩
  simp [World.setCell, Array.getElem?_modify, HH.out.disk, Sx.arm]
theorem spend_any (Z : Nat → Prop) (d : Dk) (s : Sx.St) (w : World) (h : DiskAt w Z d s) :
    Calls Try.prog 39 #[.pointer (some ⟨d.g, 0, none⟩)] w fun e w' => e = .returned (.int .i64 (Sx.spE s)) ∧ DiskAt w' Z d (Sx.spS s) ∧ Turned d.has w w' := by
  obtain ⟨c0, c1, c2, c3, c4⟩ := h.cells
  have f3 := h.frozen 3
  have f4 := h.frozen 4
  have HH := hid h
  have HL := hid h.left
  clear h
  cases ha : s.armed
  · rw [ha] at c2
    have hd : s.dead = false := by simp [Sx.St.dead, ha]
    cases ho : s.down
    · rw [ho] at c4
      have HA := hid ha; have HO := hid ho; have HD := hid hd
      clear ha ho hd
      go_enter Try.func39, Try.ntmps39
      go_wp2
      go_ret
      have e1 : Sx.spE s = 0 := by simp [Sx.spE, HD.out, HO.out]
      have e2 : Sx.spS s = s := by
        unfold Sx.spS
        rw [HD.out, HO.out, if_neg (by simp), if_neg (by simp)]
        unfold Sx.St.spent
        rw [HA.out]
        have := HA.out
        obtain ⟨n, du, ca, ar, le, dn⟩ := s
        simp only at this
        subst this
        rfl
      rw [e1, e2]
      exact ⟨rfl, HH.out, Turned.refl _ _⟩
    · rw [ho] at c4
      have HA := hid ha; have HO := hid ho; have HD := hid hd
      clear ha ho hd
      go_enter Try.func39, Try.ntmps39
      go_wp2
      go_ret
      have e1 : Sx.spE s = 10 := by simp [Sx.spE, HD.out, HO.out]
      have e2 : Sx.spS s = s := by simp [Sx.spS, HD.out, HO.out]
      rw [e1, e2]
      exact ⟨rfl, HH.out, Turned.refl _ _⟩
  · rw [ha] at c2
    by_cases hz : s.left = 0
    · rw [hz] at c3
      have HA := hid ha; have HZ := hid hz
      clear ha hz
      go_enter Try.func39, Try.ntmps39
      go_wp2
      go_ret
      have hd : s.dead = true := by simp [Sx.St.dead, HA.out, HZ.out]
      have e1 : Sx.spE s = 10 := by simp [Sx.spE, hd]
      have e2 : Sx.spS s = s.off := by simp [Sx.spS, hd]
      rw [e1, e2]
      have ht : Turned (fun k => k = d.g) w (w.setCell ⟨d.g, 4, none⟩ (.bool true)) := Turned.one _ _ _ _
      refine ⟨rfl, HH.out.head ht rfl rfl rfl HL.out ?_, ht.mono (fun _ h => .inl h)⟩
      simp [World.setCell, Array.getElem?_modify, HH.out.disk, Sx.St.off]
    · have hd : s.dead = false := by simp [Sx.St.dead, hz]
      cases ho : s.down
      · rw [ho] at c4
        have hl2 := HL.out.2 ha
        have HA := hid ha; have HO := hid ho; have HD := hid hd
        have HL2 := hid hl2
        have hb := HL.out.1
        unfold InInt at hb
        obtain ⟨hb1, hb2⟩ := hb
        clear ha ho hd hl2
        go_enter Try.func39, Try.ntmps39
        go_wp2
        go_ret
        have hl0 := HL2.out
        have e0 : wrap64 (s.left - 1) = s.left - 1 := IntWalk.wrap64_in (s.left - 1) ⟨by omega, by omega⟩
        have e1 : Sx.spE s = 0 := by simp [Sx.spE, HD.out, HO.out]
        have e2 : Sx.spS s = s.spent := by simp [Sx.spS, HD.out, HO.out]
        have hsl : s.spent.left = s.left - 1 := by simp [Sx.St.spent, HA.out]
        rw [e0, e1, e2]
        have ht : Turned (fun k => k = d.g) w (w.setCell ⟨d.g, 3, none⟩ (.int .i64 (s.left - 1))) := Turned.one _ _ _ _
        refine ⟨rfl, HH.out.head ht rfl rfl rfl ⟨?_, fun _ => ?_⟩ ?_, ht.mono (fun _ h => .inl h)⟩
        · rw [hsl]; exact ⟨by omega, by omega⟩
        · rw [hsl]; omega
        · rw [hsl]; simp [World.setCell, Array.getElem?_modify, HH.out.disk, Sx.St.spent]
      · rw [ho] at c4
        have HA := hid ha; have HO := hid ho; have HD := hid hd
        clear ha ho hd
        go_enter Try.func39, Try.ntmps39
        go_wp2
        go_ret
        have e1 : Sx.spE s = 10 := by simp [Sx.spE, HD.out, HO.out]
        have e2 : Sx.spS s = s := by simp [Sx.spS, HD.out, HO.out]
        rw [e1, e2]
        exact ⟨rfl, HH.out, Turned.refl _ _⟩
end Go.Proofs.Ytdgijnolpjaheaa
