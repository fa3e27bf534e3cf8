/- Facts about armed disks, and about crashes. -/
import Derived.Test.YtbfbnpbonoapnaaLawD
import Derived.Test.YtbfbnpbonoapnaaKitN
namespace Go.Proofs.Ytbfbnpbonoapnaa
open Go.RowKit

namespace Sx
/-- armed for so many operations more -/
structure Inv (s : St) (n : Nat) : Prop where
  armed : s.armed = true
  left : s.left = n
  down : s.down = true → n = 0
theorem Inv.dead {s : St} {n : Nat} (h : Inv s n) : s.dead = decide (n = 0) := by
  unfold St.dead
  rw [h.armed, h.left, Bool.true_and]
  exact decide_eq_decide.2 (by omega)
/-- what a write or a flush of an armed disk comes to -/
theorem inv_run {s : St} {n : Nat} (h : Inv s n) (t : Op) (hk : t.kind = 0 ∨ t.kind = 1) :
    (runE s t = 0 ∧ (runS s t).down = false ∧ ∃ m, n = m + 1 ∧ Inv (runS s t) m) ∨
    (runE s t = 10 ∧ (runS s t).down = true ∧ n = 0 ∧ Inv (runS s t) n ∧ shows (runS s t) = shows s ∧ dirty (runS s t) = dirty s) ∨
    (runE s t ≠ 0 ∧ runE s t ≠ 10 ∧ (runS s t).down = false ∧ Inv (runS s t) n ∧ shows (runS s t) = shows s ∧ dirty (runS s t) = dirty s) := by
  have hd := h.dead
  rcases hk with hk | hk
  · have e1 : runE s t = wrE s t.i t.data := by unfold runE; rw [if_pos hk]
    have e2 : runS s t = wrS s t.i t.data := by unfold runS; rw [if_pos hk]
    rw [e1, e2]
    cases ho : s.down
    · by_cases hi : 0 ≤ t.i ∧ t.i < s.n
      · by_cases hl : 64 < t.data.length
        · refine .inr (.inr ?_)
          have e3 : wrE s t.i t.data = 2 := by unfold wrE; rw [ho, if_pos hi, if_pos hl]; rfl
          have e4 : wrS s t.i t.data = s := by unfold wrS; rw [ho, if_pos hi, if_pos hl]; rfl
          rw [e3, e4]
          exact ⟨by decide, by decide, ho, h, rfl, rfl⟩
        · rcases n with _ | m
          · refine .inr (.inl ?_)
            have hdd : s.dead = true := by rw [hd]; rfl
            have e3 : wrE s t.i t.data = 10 := by unfold wrE spE; rw [ho, if_pos hi, if_neg hl, hdd]; rfl
            have e4 : wrS s t.i t.data = s.off := by unfold wrS; rw [ho, if_pos hi, if_neg hl, hdd]; rfl
            rw [e3, e4]
            exact ⟨rfl, rfl, rfl, ⟨h.armed, h.left, fun _ => rfl⟩, shows_congr rfl (fun _ _ => rfl), rfl⟩
          · refine .inl ?_
            have hdd : s.dead = false := by rw [hd]; simp
            have e3 : wrE s t.i t.data = 0 := by unfold wrE spE; rw [ho, if_pos hi, if_neg hl, hdd]; rfl
            have e4 : wrS s t.i t.data = { s.spent with cache := upd s.cache t.i.toNat (some t.data) } := by unfold wrS; rw [ho, if_pos hi, if_neg hl, hdd]; simp
            rw [e3, e4]
            refine ⟨rfl, ho, m, rfl, ⟨h.armed, ?_, fun e => ?_⟩⟩
            · show (if s.armed then s.left - 1 else s.left) = _
              rw [h.armed, h.left]; simp
            · have e : s.down = true := e
              rw [ho] at e; cases e
      · refine .inr (.inr ?_)
        have e3 : wrE s t.i t.data = 3 := by unfold wrE; rw [ho, if_neg hi]; rfl
        have e4 : wrS s t.i t.data = s := by unfold wrS; rw [ho, if_neg hi]; rfl
        rw [e3, e4]
        exact ⟨by decide, by decide, ho, h, rfl, rfl⟩
    · refine .inr (.inl ?_)
      have e3 : wrE s t.i t.data = 10 := by unfold wrE; rw [ho]; rfl
      have e4 : wrS s t.i t.data = s := by unfold wrS; rw [ho]; rfl
      rw [e3, e4]
      exact ⟨rfl, ho, h.down ho, h, rfl, rfl⟩
  · have h0 : ¬ t.kind = 0 := by omega
    have e1 : runE s t = spE s := by unfold runE; rw [if_neg h0, if_pos hk]
    have e2 : runS s t = flS s := by unfold runS; rw [if_neg h0, if_pos hk]
    rw [e1, e2]
    rcases n with _ | m
    · refine .inr (.inl ?_)
      have hdd : s.dead = true := by rw [hd]; rfl
      have e3 : spE s = 10 := by unfold spE; rw [hdd]; rfl
      have e4 : flS s = s.off := by unfold flS; rw [hdd]; rfl
      rw [e3, e4]
      exact ⟨rfl, rfl, rfl, ⟨h.armed, h.left, fun _ => rfl⟩, shows_congr rfl (fun _ _ => rfl), rfl⟩
    · refine .inl ?_
      have hdd : s.dead = false := by rw [hd]; simp
      have ho : s.down = false := by
        cases ho : s.down
        · rfl
        · have := h.down ho; omega
      have e3 : spE s = 0 := by unfold spE; rw [hdd, ho]; rfl
      have e4 := flS_ok s hdd ho
      rw [e3, e4]
      refine ⟨rfl, ho, m, rfl, ⟨h.armed, ?_, fun e => ?_⟩⟩
      · show (if s.armed then s.left - 1 else s.left) = _
        rw [h.armed, h.left]; simp
      · have e : s.down = true := e
        rw [ho] at e; cases e
theorem inv_new (n p : Nat) : Inv (arm (new n) p) p := ⟨by simp [arm], rfl, fun e => by cases e⟩
end Sx
theorem sameI_T {w : World} {B B' : Nat} {A A' : Option Addr} {c c' n m : Nat} {l l' : List Int} (hn : l.length = n) (hm : l'.length = m) (hn2 : n ≤ 100000) (he : l' = l) (h : IsInts w B A l) (h' : IsInts w B' A' l') :
    Calls Try.prog 28 #[.slice A n c, .slice A' m c'] w fun e w' => e = .returned (.bool true) ∧ ∃ j, w' = w.drewN j := by
  have hm2 : m ≤ 100000 := by rw [← hm, he, hn]; exact hn2
  have := sameI_N B B' A A' c c' l l' n m hn hm (by unfold maxLen; omega) (by unfold maxLen; omega) w h h'
  rw [show decide (l = l') = true from decide_eq_true he.symm] at this
  exact this
theorem IsInts.on {w w' : World} {A : Option Addr} {l : List Int} (h : IsInts w w.heap.size A l) (hb : Below w.heap.size w w') : IsInts w' w'.heap.size A l := (h.below hb).more hb.size
end Go.Proofs.Ytbfbnpbonoapnaa
