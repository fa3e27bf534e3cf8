/- The walks through a disk's Read and Dirty. -/
import Derived.Test.YtdgijnolpjaheaaDiskA
import Derived.Test.YtdgijnolpjaheaaDiskB
import Derived.Test.YtdgijnolpjaheaaSorted
namespace Go.Proofs.Ytdgijnolpjaheaa
open Go.RowKit

theorem dirty_any (Z : Nat → Prop) (d : Dk) (s : Sx.St) (w : World) (h : DiskAt w Z d s) :
    Calls Try.prog 35 #[.pointer (some ⟨d.g, 0, none⟩)] w fun e w' => ∃ A c, e = .returned (.slice A (Sx.dirty s).length c) ∧ OwnsI 3 w' w.heap.size A c ((Sx.dirty s).map fun (i : Nat) => (i : Int)) ∧ Below w.heap.size w w' := by
  obtain ⟨c0, c1, c2, c3, c4⟩ := h.cells
  obtain ⟨f, hown, hf⟩ := h.map
  have hb := h.bound
  have hs := Sx.size_of s.n f
  have hsome : ∀ i, i < s.n → (f i).isSome = (s.cache i).isSome := fun i hi => by
    have := hf i hi
    rcases h1 : f i with _ | v <;> rcases h2 : s.cache i with _ | l <;> rw [h1, h2] at this
    · rfl
    · exact this.elim
    · exact this.elim
    · rfl
  have hds : ((List.range s.n).filter fun i => (f i).isSome) = Sx.dirty s := by
    unfold Sx.dirty Sx.dirtyTo
    refine List.filter_congr fun i hi => ?_
    exact hsome i (List.mem_range.1 hi)
  have HS := hid (sorted_call d.m s.n (Sx.mapOf s.n f) Sx.valR w hown (by unfold maxLen; omega) (by omega))
  have HF := hid (And.intro hds hb)
  clear hown hf hsome hs hb hds
  go_enter Try.func35, Try.ntmps35
  go_wp2_with fail
  refine (keys_call _ w).mono ?_
  rintro e w1 ⟨rfl, rfl⟩
  go_wp2_with fail
  refine HS.out.mono ?_
  rintro e w2 ⟨v, ss, rfl, hp, hrow, hbel⟩
  obtain ⟨A, c, rfl⟩ := own_slice hrow
  rw [Sx.sorted_of _ _ hp, HF.out.1] at hrow
  have hl : ss.length = (Sx.dirty s).length := by
    have := hp.length_eq
    rw [this, Sx.keys_of, HF.out.1, List.length_map]
  go_wp2
  go_ret
  have hI : OwnsI 3 w2 (w.heap.size + 1) A c ((Sx.dirty s).map fun (i : Nat) => (i : Int)) := by
    refine ⟨?_, ?_⟩
    · intro x hx
      obtain ⟨i, hi, rfl⟩ := List.mem_map.1 hx
      have := (Sx.mem_dirtyTo.1 hi).1
      have := HF.out.2
      exact ⟨by omega, by omega⟩
    · rw [List.length_map]
      rw [hl] at hrow
      exact hrow
  exact ⟨A, c, rfl, hI.weaken (by omega), hbel⟩
theorem read_any (Z : Nat → Prop) (d : Dk) (s : Sx.St) (i : Int) (w : World) (h : DiskAt w Z d s) :
    Calls Try.prog 55 #[.pointer (some ⟨d.g, 0, none⟩), .int .i64 i] w fun e w' => ∃ A c, e = .returned (.tuple #[.slice A (Sx.rdB s i).length c, .int .i64 (Sx.rdE s i)]) ∧ OwnsB 5 w' w.heap.size A c (Sx.rdB s i) ∧ Below w.heap.size w w' := by
  by_cases hi : 0 ≤ i ∧ i < s.n
  · obtain ⟨k, rfl⟩ := Int.eq_ofNat_of_zero_le hi.1
    have hk : k < s.n := by omega
    obtain ⟨c0, c1, c2, c3, c4⟩ := h.cells
    have HB := hid h.bound
    obtain ⟨f, hown, hf⟩ := h.map
    have hfk := hf k hk
    have hkey : keyOf Try.prog 3 (.int .i64 (k : Int)) = some (.int .i64 (k : Int)) := Maps.keyOf_int_mk Try.underlying3 (WalkArith.wf_i64 (by have := HB.out; omega))
    have hlook := hown.look_ok (Maps.int_keyed Try.underlying3) Try.underlying64 (Try.zeroValue32 w) (zd := .held (.slice none 0 0)) (zp := []) rfl hkey
    rw [Sx.has_of _ _ _ hk, Sx.atKey_of _ _ _ hk] at hlook
    obtain ⟨v, ps, hrun, hv⟩ := hlook
    have hv : v = (f k).getD (.slice none 0 0) := by
      have h1 := (Prod.mk.inj (Option.some.inj hv)).1
      exact DataW.held.inj h1
    subst hv
    have HA := hid (has_any Z d s (k : Int) w h)
    rw [show decide (0 ≤ (k : Int) ∧ (k : Int) < s.n) = true from decide_eq_true hi] at HA
    have hk0 : (k : Int) < s.n := hi.2
    have hk00 : 0 ≤ (k : Int) := hi.1
    rcases hc : s.cache k with _ | b
    · rw [hc] at hfk
      have hfn : f k = none := by
        rcases h1 : f k with _ | v
        · rfl
        · rw [h1] at hfk; exact hfk.elim
      rw [hfn] at hrun
      have hrun : (Instr.lookup 64 (.map (some d.m)) (.int .i64 (k : Int)) true).run Try.prog w = .ok (.tuple #[.slice none 0 0, .bool false]) w := hrun
      obtain ⟨hlen, A, c, s0, s1, hA⟩ := h.sec hk
      cases ht : (s.dur k).2
      · rw [ht] at s1
        have e1 : Sx.rdB s (k : Int) = (s.dur k).1 := by unfold Sx.rdB; rw [if_pos hi]; simp [hc, ht]
        have e2 : Sx.rdE s (k : Int) = 0 := by unfold Sx.rdE; rw [if_pos hi]; simp [hc, ht]
        rw [e1, e2]
        have HC := hid (clone_any w.heap.size A c (s.dur k).1 _ rfl (by omega) hA.own.none_ w hA.reads (Nat.le_refl _))
        have HE := hid (And.intro e1 e2)
        clear hfk hown hf hA hlen e1 e2 h hc ht hfn
        go_enter Try.func55, Try.ntmps55
        go_wp2_with fail
        refine HA.out.mono ?_
        rintro e w1 ⟨rfl, rfl⟩
        go_wp2_with fail
        refine HC.out.mono ?_
        rintro e w2 ⟨A2, c2, rfl, hown2, hb2⟩
        go_wp2
        go_ret2
        exact ⟨A2, c2, rfl, hown2, hb2⟩
      · rw [ht] at s1
        have e1 : Sx.rdB s (k : Int) = [] := by unfold Sx.rdB; rw [if_pos hi]; simp [hc, ht]
        have e2 : Sx.rdE s (k : Int) = 9 := by unfold Sx.rdE; rw [if_pos hi]; simp [hc, ht]
        rw [e1, e2]
        clear hfk hown hf hA hlen e1 e2 h hc ht hfn
        go_enter Try.func55, Try.ntmps55
        go_wp2_with fail
        refine HA.out.mono ?_
        rintro e w1 ⟨rfl, rfl⟩
        go_wp2
        go_ret2
        exact ⟨none, 0, rfl, OwnsB.nil _ _ _, Below.refl _ _⟩
    · rw [hc] at hfk
      rcases hfn : f k with _ | v
      · rw [hfn] at hfk; exact hfk.elim
      rw [hfn] at hfk hrun
      obtain ⟨hlen, A, c, rfl, hA⟩ := hfk
      have hrun : (Instr.lookup 64 (.map (some d.m)) (.int .i64 (k : Int)) true).run Try.prog w = .ok (.tuple #[.slice A b.length c, .bool true]) w := hrun
      have e1 : Sx.rdB s (k : Int) = b := by unfold Sx.rdB; rw [if_pos hi]; simp [hc]
      have e2 : Sx.rdE s (k : Int) = 0 := by unfold Sx.rdE; rw [if_pos hi]; simp [hc]
      rw [e1, e2]
      have HC := hid (clone_any w.heap.size A c b _ rfl (by omega) hA.own.none_ w hA.reads (Nat.le_refl _))
      clear hown hf hA hlen e1 e2 h hc hfn
      go_enter Try.func55, Try.ntmps55
      go_wp2_with fail
      refine HA.out.mono ?_
      rintro e w1 ⟨rfl, rfl⟩
      go_wp2_with fail
      refine HC.out.mono ?_
      rintro e w2 ⟨A2, c2, rfl, hown2, hb2⟩
      go_wp2
      go_ret2
      exact ⟨A2, c2, rfl, hown2, hb2⟩
  · have HI := hid hi
    have e1 : Sx.rdB s i = [] := by unfold Sx.rdB; rw [if_neg hi]
    have e2 : Sx.rdE s i = 3 := by unfold Sx.rdE; rw [if_neg hi]
    have hd : decide (0 ≤ i ∧ i < s.n) = false := decide_eq_false hi
    have HA := hid (has_any Z d s i w h)
    rw [hd] at HA
    clear hi hd h
    go_enter Try.func55, Try.ntmps55
    go_wp2_with fail
    refine HA.out.mono ?_
    rintro e w1 ⟨rfl, rfl⟩
    go_wp2
    go_ret2
    rw [e1, e2]
    exact ⟨none, 0, rfl, OwnsB.nil _ _ _, Below.refl _ _⟩
end Go.Proofs.Ytdgijnolpjaheaa
