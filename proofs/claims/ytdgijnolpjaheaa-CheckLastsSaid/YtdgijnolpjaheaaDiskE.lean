/- The walk through a disk's Write. -/
import Derived.Test.YtdgijnolpjaheaaDiskC
import Derived.Deep.RegionHeld3
import Derived.Deep.RegionWith
namespace Go.Proofs.Ytdgijnolpjaheaa
open Go.RowKit

set_option maxRecDepth 100000 in
/-- the map has something for a sector -/
theorem DiskAt.put {w : World} {Z : Nat → Prop} {d : Dk} {s : Sx.St} (h : DiskAt w Z d s) (k : Nat) (hk : k < s.n) (A : Option Addr) (c : Nat) (b : List Nat) (hb : b.length ≤ 64) (hA : OwnsZ w Z A c b) :
    ∃ w', (Instr.mapUpdate 64 (.map (some d.m)) (.int .i64 (k : Int)) (.slice A b.length c)).run Try.prog w = .ok () w' ∧ DiskAt w' Z d { s with cache := Sx.upd s.cache k (some b) } ∧ Turned (fun j => j = d.m) w w' := by
  obtain ⟨f, hown, hf⟩ := h.map
  have hbd := h.bound
  have hkey : keyOf Try.prog 3 (.int .i64 (k : Int)) = some (.int .i64 (k : Int)) := Maps.keyOf_int_mk Try.underlying3 (WalkArith.wf_i64 (by omega))
  obtain ⟨w', hrun, hown', hg⟩ := hown.update (Maps.int_keyed Try.underlying3) Try.underlying64 (by unfold maxLen; omega) (val := .slice A b.length c) (d := .held (.slice A b.length c)) (ps := []) hkey rfl
  rw [Sx.put_of _ _ _ hk] at hown'
  have ht : Turned (fun j => j = d.m) w w' := Turned.ofGrown hg (fun j e => by injection e with e; exact e.symm)
  have hz : ∀ A c l, OwnsZ w Z A c l → OwnsZ w' Z A c l := fun A c l hA => by
    obtain ⟨es, clock, h1, _⟩ := hown
    refine (((hA.shunTag h1 ?_).keep (w' := w') (ht.mono (fun _ h => .inr h))).mono (fun _ h => .inl h))
    intro cur e
    cases e
  refine ⟨w', hrun, ⟨hbd, h.off, h.left, (ht.block _ h.glt h.g_ne_m).trans h.disk, ?_, ?_⟩, ht⟩
  · obtain ⟨cur, h1, h2, h3⟩ := h.row
    refine ⟨cur, (ht.block _ h.hlt h.h_ne_m).trans h1, h2, fun i hi' => ?_⟩
    obtain ⟨h4, A, c, h5, h6, h7⟩ := h3 i hi'
    exact ⟨h4, A, c, h5, h6, hz _ _ _ h7⟩
  · refine ⟨_, ownsMap_tight hown' (Sx.size_of _ _), fun i hi => ?_⟩
    show ElemAt w' Z (Sx.upd f k (some (.slice A b.length c)) i) (Sx.upd s.cache k (some b) i)
    by_cases e : i = k
    · subst e
      rw [Sx.upd_same, Sx.upd_same]
      exact ⟨hb, A, c, rfl, hz _ _ _ hA⟩
    · rw [Sx.upd_other _ _ _ _ e, Sx.upd_other _ _ _ _ e]
      exact (hf i hi).imp hz

set_option maxRecDepth 100000 in
theorem write_any (Z : Nat → Prop) (d : Dk) (s : Sx.St) (i : Int) (A : Option Addr) (c : Nat) (l : List Nat) (n : Nat) (hn : l.length = n) (hz : A = none → c = 0) (w : World) (hZ : ∀ k, Z k → k < w.heap.size) (h : DiskAt w Z d s)
    (hin : ∀ w', Turned d.has w w' → IsBytes w' w'.heap.size A l) :
    Calls Try.prog 19 #[.pointer (some ⟨d.g, 0, none⟩), .int .i64 i, .slice A n c] w fun e w' => e = .returned (.int .i64 (Sx.wrE s i l)) ∧ DiskAt w' Z d (Sx.wrS s i l) ∧ Turned d.has w w' := by
  subst hn
  have HH := hid h
  obtain ⟨c0, c1, c2, c3, c4⟩ := h.cells
  cases ho : s.down
  · rw [ho] at c4
    by_cases hi : 0 ≤ i ∧ i < s.n
    · have HA := hid (has_any Z d s i w h)
      rw [show decide (0 ≤ i ∧ i < s.n) = true from decide_eq_true hi] at HA
      by_cases hl : 64 < l.length
      · have e1 : Sx.wrE s i l = 2 := by unfold Sx.wrE; rw [ho, if_pos hi, if_pos hl]; rfl
        have e2 : Sx.wrS s i l = s := by unfold Sx.wrS; rw [ho, if_pos hi, if_pos hl]; rfl
        rw [e1, e2]
        clear h hin e1 e2 hi ho
        go_enter Try.func19, Try.ntmps19
        go_wp2_with fail
        refine HA.out.mono ?_
        rintro e w1 ⟨rfl, rfl⟩
        go_wp2
        go_ret
        exact ⟨rfl, HH.out, Turned.refl _ _⟩
      · have HS := hid (spend_any Z d s w h)
        cases hd : s.dead
        · have e0 : Sx.spE s = 0 := by simp [Sx.spE, hd, ho]
          have e0' : Sx.spS s = s.spent := by simp [Sx.spS, hd, ho]
          rw [e0, e0'] at HS
          obtain ⟨k, rfl⟩ := Int.eq_ofNat_of_zero_le hi.1
          have hk : k < s.n := by omega
          have e1 : Sx.wrE s k l = 0 := by unfold Sx.wrE; rw [ho, if_pos hi, if_neg hl, e0]; rfl
          have e2 : Sx.wrS s k l = { s.spent with cache := Sx.upd s.cache k (some l) } := by unfold Sx.wrS; rw [ho, if_pos hi, if_neg hl, hd]; simp
          rw [e1, e2]
          have HP := hid (And.intro hk hin)
          have hl' : l.length ≤ 64 := by omega
          clear h hin e1 e2 hi ho hd e0 e0' hk hl
          go_enter Try.func19, Try.ntmps19
          go_wp2_with fail
          refine HA.out.mono ?_
          rintro e w1 ⟨rfl, rfl⟩
          go_wp2_with fail
          refine HS.out.mono ?_
          rintro e w2 ⟨rfl, hD2, ht2⟩
          obtain ⟨b0, b1, b2, b3, b4⟩ := hD2.cells
          have HD2 := hid hD2
          have HT2 := hid ht2
          have HC := hid (clone_any w2.drew.heap.size A c l l.length rfl (by omega) hz w2.drew (HP.out.2 _ ht2.drew) (Nat.le_refl _))
          clear hD2 c0 c1 c2 c3 c4
          have hsz := ht2.size
          clear ht2 HS HA HH
          go_wp2_with fail
          go_region_with (go_at_call 40; refine HC.out.mono ?_; rintro e w3 ⟨A3, c3, rfl, hown3, hb3⟩; have hD3 : DiskAt w3 Z d s.spent := HD2.out.drew.below hb3; have b1' := hD3.cells.2.1; have hZ3 : OwnsZ w3 Z A3 c3 l := ⟨hown3.weaken (Nat.zero_le _), fun j hj e => by have h1 := (hown3.blkLt j hj).1; have h2 := hZ j e; have h3 : w2.drew.heap.size = w2.heap.size := rfl; omega⟩; obtain ⟨w4, hrun4, hD4, ht4⟩ := hD3.put k HP.out.1 A3 c3 l hl' hZ3; have H4 := hid (And.intro hD4 (ht4.mono (S' := d.has) (fun _ h => .inr (.inr h)))); have H3 := hid (Turned.ofBelow d.has hb3); clear hD3 hZ3 hD4 ht4 hown3 hb3)
          all_goals
            (go_wp2
             go_ret
             exact ⟨rfl, H4.out.1, (HT2.out.drew.trans H3.out).trans H4.out.2⟩)
        · have e0 : Sx.spE s = 10 := by simp [Sx.spE, hd]
          have e0' : Sx.spS s = s.off := by simp [Sx.spS, hd]
          rw [e0, e0'] at HS
          have e1 : Sx.wrE s i l = 10 := by unfold Sx.wrE; rw [ho, if_pos hi, if_neg hl, e0]; rfl
          have e2 : Sx.wrS s i l = s.off := by unfold Sx.wrS; rw [ho, if_pos hi, if_neg hl, hd]; rfl
          rw [e1, e2]
          have hl' : (l.length : Int) ≤ 64 := by omega
          clear h hin e1 e2 hi ho hd e0 e0' hl
          go_enter Try.func19, Try.ntmps19
          go_wp2_with fail
          refine HA.out.mono ?_
          rintro e w1 ⟨rfl, rfl⟩
          go_wp2_with fail
          refine HS.out.mono ?_
          rintro e w2 ⟨rfl, hD2, ht2⟩
          go_wp2
          go_ret
          exact ⟨rfl, hD2, ht2⟩
    · have HA := hid (has_any Z d s i w h)
      rw [show decide (0 ≤ i ∧ i < s.n) = false from decide_eq_false hi] at HA
      have e1 : Sx.wrE s i l = 3 := by unfold Sx.wrE; rw [ho, if_neg hi]; rfl
      have e2 : Sx.wrS s i l = s := by unfold Sx.wrS; rw [ho, if_neg hi]; rfl
      rw [e1, e2]
      clear h hin e1 e2 hi ho
      go_enter Try.func19, Try.ntmps19
      go_wp2_with fail
      refine HA.out.mono ?_
      rintro e w1 ⟨rfl, rfl⟩
      go_wp2
      go_ret
      exact ⟨rfl, HH.out, Turned.refl _ _⟩
  · rw [ho] at c4
    have e1 : Sx.wrE s i l = 10 := by unfold Sx.wrE; rw [ho]; rfl
    have e2 : Sx.wrS s i l = s := by unfold Sx.wrS; rw [ho]; rfl
    rw [e1, e2]
    clear h hin e1 e2 ho
    go_enter Try.func19, Try.ntmps19
    go_wp2
    go_ret
    exact ⟨rfl, HH.out, Turned.refl _ _⟩
end Go.Proofs.Ytdgijnolpjaheaa
