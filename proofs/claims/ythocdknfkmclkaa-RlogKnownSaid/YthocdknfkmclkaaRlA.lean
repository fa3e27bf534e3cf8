/- The walks through the small functions of package rlog. -/
import Derived.Test.YthocdknfkmclkaaEnts
import Derived.StillTailTactics
import Derived.Deep.QuietTactic
import Derived.BigQuiet
import Derived.Handy
namespace Go.Proofs.Ythocdknfkmclkaa
open Go.RowKit

theorem ret_b {a b : Bool} (h : a = b) : Ending.returned (.bool a) = .returned (.bool b) := by rw [h]
/-- a log that is handed over: its entries lie below B -/
structure LgIs (w : World) (B : Nat) (g : Rl.Lg) (A : Option Addr) (c : Nat) : Prop where
  es : IsEnts w B A g.es
  room : g.es.length ≤ c ∧ c ≤ maxLen
  none_ : A = none → c = 0
  num : InInt g.base ∧ InInt g.term
namespace LgIs
variable {w w' : World} {B B' : Nat} {g : Rl.Lg} {A : Option Addr} {c : Nat}
theorem below (h : LgIs w B g A c) (hb : Below B w w') : LgIs w' B g A c := ⟨h.es.below hb, h.room, h.none_, h.num⟩
theorem more (h : LgIs w B g A c) (hB : B ≤ B') : LgIs w B' g A c := ⟨h.es.more hB, h.room, h.none_, h.num⟩
theorem drewN (h : LgIs w B g A c) (n : Nat) : LgIs (w.drewN n) B g A c := ⟨h.es.drewN n, h.room, h.none_, h.num⟩
end LgIs

set_option maxHeartbeats 800000 in
set_option maxRecDepth 100000 in
theorem last_any (B : Nat) (g : Rl.Lg) (A : Option Addr) (c : Nat) (hg : Rl.Ok g) (w : World) (h : LgIs w B g A c) (hB : B ≤ w.heap.size) :
    Calls Try.prog 12 #[.agg #[.int .i64 g.base, .int .i64 g.term, .slice A g.es.length c]] w fun e w' => e = .returned (.tuple #[.int .i64 g.last, .int .i64 g.lastT]) ∧ Below w.heap.size w w' := by
  obtain ⟨⟨hb0, hb1⟩, _, hl⟩ := hg
  have HB : Hid (∀ n, Below w.heap.size w ((w.alloc (.cells #[.int .i64 g.base, .int .i64 g.term, .slice A g.es.length c] 24)).drewN n)) := hid (fun n => below_drewN ((Below.refl _ w).alloc (Nat.le_refl _) _) n)
  by_cases h0 : g.es.length = 0
  · have HE : Hid (g.last = g.base ∧ g.lastT = g.term) := hid (by unfold Rl.Lg.last Rl.Lg.lastT; rw [h0]; exact ⟨by omega, rfl⟩)
    have h00 : (g.es.length : Int) = 0 := by omega
    clear h
    go_enter Try.func12, Try.ntmps12
    go_wp2_with fail
    go_quiet (fail)
    go_wp2_with fail
    go_ret2
    exact ⟨by rw [HE.out.1, HE.out.2]; rfl, below_drewN ((Below.refl _ w).alloc (Nat.le_refl _) _) _⟩
  · have hlt : g.es.length - 1 < g.es.length := by omega
    obtain ⟨b, off, rfl, hbl, hc⟩ := h.es.cells (g.es.length - 1) hlt
    obtain ⟨A1, c1, d0, d1, d2, _, _⟩ := hc (g.es.length - 1) hlt
    have HE : Hid (g.last = g.base + (g.es.length : Nat) ∧ g.lastT = g.es[g.es.length - 1].t) := hid ⟨rfl, by
      unfold Rl.Lg.lastT
      have := g.at_succ (g.es.length - 1) hlt
      rw [show g.es.length - 1 + 1 = g.es.length by omega] at this
      exact this⟩
    have e0 : (w.alloc (.cells #[.int .i64 g.base, .int .i64 g.term, .slice (some ⟨b, off, none⟩) g.es.length c] 24)).cell? ⟨b, off + (g.es.length - 1) * 3, none⟩ = some (.int .i64 g.es[g.es.length - 1].t) := by rw [((Below.refl _ w).alloc (Nat.le_refl _) _).cell (by show b < _; omega)]; exact d0
    obtain ⟨x, hx⟩ : ∃ x, x = g.es[g.es.length - 1].t := ⟨_, rfl⟩
    rw [← hx] at e0 HE
    obtain ⟨k, hk⟩ : ∃ k, k = g.es.length - 1 := ⟨_, rfl⟩
    rw [← hk] at e0
    have hk1 : ((g.es.length : Nat) : Int) - 1 = (k : Int) := by omega
    have hk2 : (k : Int) < (g.es.length : Int) := by omega
    have h00 : ¬ (g.es.length : Int) = 0 := by omega
    clear h hc d0 d1 d2 hx hk
    go_enter Try.func12, Try.ntmps12
    go_wp2_with fail
    go_quiet (fail)
    go_wp2_with fail
    go_ret2
    exact ⟨by rw [HE.out.1, HE.out.2]; rfl, HB.out _⟩

set_option maxHeartbeats 800000 in
set_option maxRecDepth 100000 in
theorem newer_any (B : Nat) (g : Rl.Lg) (A : Option Addr) (c : Nat) (i t : Int) (hg : Rl.Ok g) (w : World) (h : LgIs w B g A c) (hB : B ≤ w.heap.size) :
    Calls Try.prog 17 #[.agg #[.int .i64 g.base, .int .i64 g.term, .slice A g.es.length c], .int .i64 i, .int .i64 t] w fun e w' => e = .returned (.bool (g.newer i t)) ∧ Below w.heap.size w w' := by
  have hb1 : Below w.heap.size w (w.alloc (.cells #[.int .i64 g.base, .int .i64 g.term, .slice A g.es.length c] 24)) := (Below.refl _ w).alloc (Nat.le_refl _) _
  have HC := hid (last_any w.heap.size g A c hg _ ((h.more hB).below hb1) hb1.size)
  have HB := hid hb1
  clear h hb1
  obtain ⟨la, hla⟩ : ∃ la, la = g.last := ⟨_, rfl⟩
  obtain ⟨lt, hlt⟩ : ∃ lt, lt = g.lastT := ⟨_, rfl⟩
  have HE : Hid (g.newer i t = (decide (lt < t) || (decide (t = lt) && decide (la ≤ i)))) := hid (by unfold Rl.Lg.newer; rw [hla, hlt])
  rw [← hla, ← hlt] at HC
  rw [HE.out]
  clear hla hlt HE
  by_cases h1 : lt < t
  · have HD : Hid ((decide (lt < t) || (decide (t = lt) && decide (la ≤ i))) = true) := hid (by simp [h1])
    rw [HD.out]
    go_enter Try.func17, Try.ntmps17
    go_wp2_with fail
    refine HC.out.mono ?_
    rintro e w2 ⟨rfl, hb2⟩
    have HB2 := hid (HB.out.trans (hb2.mono HB.out.size))
    clear hb2
    go_wp2_with fail
    go_ret
    exact ⟨ret_b (by simp [*]), HB2.out⟩
  · by_cases h2 : t = lt
    · by_cases h3 : la ≤ i
      · have HD : Hid ((decide (lt < t) || (decide (t = lt) && decide (la ≤ i))) = true) := hid (by simp [h2, h3])
        rw [HD.out]
        go_enter Try.func17, Try.ntmps17
        go_wp2_with fail
        refine HC.out.mono ?_
        rintro e w2 ⟨rfl, hb2⟩
        have HB2 := hid (HB.out.trans (hb2.mono HB.out.size))
        clear hb2
        go_wp2_with fail
        go_ret
        exact ⟨ret_b (by simp [*]), HB2.out⟩
      · have HD : Hid ((decide (lt < t) || (decide (t = lt) && decide (la ≤ i))) = false) := hid (by simp [h1, h3])
        rw [HD.out]
        go_enter Try.func17, Try.ntmps17
        go_wp2_with fail
        refine HC.out.mono ?_
        rintro e w2 ⟨rfl, hb2⟩
        have HB2 := hid (HB.out.trans (hb2.mono HB.out.size))
        clear hb2
        go_wp2_with fail
        go_ret
        exact ⟨ret_b (by simp [*]), HB2.out⟩
    · have HD : Hid ((decide (lt < t) || (decide (t = lt) && decide (la ≤ i))) = false) := hid (by simp [h1, h2])
      rw [HD.out]
      go_enter Try.func17, Try.ntmps17
      go_wp2_with fail
      refine HC.out.mono ?_
      rintro e w2 ⟨rfl, hb2⟩
      have HB2 := hid (HB.out.trans (hb2.mono HB.out.size))
      clear hb2
      go_wp2_with fail
      go_ret
      exact ⟨ret_b (by simp [*]), HB2.out⟩
end Go.Proofs.Ythocdknfkmclkaa
