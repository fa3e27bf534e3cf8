/- The walk through a disk's settle. -/
import Derived.Test.YtdgijnolpjaheaaDiskC
import Derived.Deep.RegionHeld3
namespace Go.Proofs.Ytdgijnolpjaheaa
open Go.RowKit

/-- the sectors' row is written at one place -/
theorem DiskAt.rowSet {w w' : World} {Z : Nat → Prop} {d : Dk} {s : Sx.St} (h : DiskAt w Z d s) (k : Nat) (hk : k < s.n) (A : Option Addr) (c : Nat) (x : List Nat × Bool) (hx : x.1.length ≤ 64) (hA : OwnsZ w Z A c x.1)
    (hw : w' = (w.setCell ⟨d.h, k * 2, none⟩ (.slice A x.1.length c)).setCell ⟨d.h, k * 2 + 1, none⟩ (.bool x.2)) :
    DiskAt w' Z d { s with dur := Sx.upd s.dur k x } ∧ Turned (fun j => j = d.h) w w' := by
  have ht : Turned (fun j => j = d.h) w w' := by rw [hw]; exact Turned.two _ _ _ _ _ _
  refine ⟨?_, ht⟩
  obtain ⟨cur, h1, h2, h3⟩ := h.row
  have hz : ∀ A c l, OwnsZ w Z A c l → OwnsZ w' Z A c l := fun A c l hA => by
    refine (((hA.shunTag h1 ?_).keep (w' := w') (ht.mono (fun _ h => .inr h))).mono (fun _ h => .inl h))
    intro cur e
    have h3 := (Obj.cells.inj e).2.1
    revert h3; decide
  refine ⟨h.bound, h.off, h.left, (ht.block _ h.glt h.g_ne_h).trans h.disk, ?_, ?_⟩
  · refine ⟨(cur.setIfInBounds (k * 2) (.slice A x.1.length c)).setIfInBounds (k * 2 + 1) (.bool x.2), ?_, by simp [h2], fun i hi => ?_⟩
    · rw [hw]; simp [World.setCell, Array.getElem?_modify, h1]
    · simp only
      by_cases e : i = k
      · subst e
        rw [Sx.upd_same]
        have hi' : i < s.n := hi
        refine ⟨hx, A, c, ?_, ?_, hz _ _ _ hA⟩
        · rw [Array.getElem?_setIfInBounds_ne (by omega), Array.getElem?_setIfInBounds_self_of_lt (by omega)]
        · rw [Array.getElem?_setIfInBounds_self_of_lt (by simp; omega)]
      · rw [Sx.upd_other _ _ _ _ e]
        obtain ⟨h4, A', c', h5, h6, h7⟩ := h3 i hi
        refine ⟨h4, A', c', ?_, ?_, hz _ _ _ h7⟩
        · rw [Array.getElem?_setIfInBounds_ne (by omega), Array.getElem?_setIfInBounds_ne (by omega)]; exact h5
        · rw [Array.getElem?_setIfInBounds_ne (by omega), Array.getElem?_setIfInBounds_ne (by omega)]; exact h6
  · obtain ⟨f, ⟨es, clock, h4, h5⟩, h6⟩ := h.map
    exact ⟨f, ⟨es, clock, (ht.block _ (Array.getElem?_eq_some_iff.1 h4).1 h.h_ne_m.symm).trans h4, h5⟩, fun i hi' => (h6 i hi').imp hz⟩

set_option maxRecDepth 100000 in
theorem settle_any (Z : Nat → Prop) (d : Dk) (s : Sx.St) (k : Nat) (hk : k < s.n) (b : List Nat) (hc : s.cache k = some b) (fate : Int) (w : World) (h : DiskAt w Z d s) :
    Calls Try.prog 36 #[.pointer (some ⟨d.g, 0, none⟩), .int .i64 (k : Int), .int .i64 fate] w fun e w' => e = .returned (.tuple #[]) ∧ DiskAt w' Z d (Sx.settled s k fate) ∧ Turned d.has w w' := by
  obtain ⟨c0, c1, c2, c3, c4⟩ := h.cells
  have HB := hid h.bound
  obtain ⟨f, hown, hf⟩ := h.map
  have hfk := hf k hk
  rw [hc] at hfk
  have hkey : keyOf Try.prog 3 (.int .i64 (k : Int)) = some (.int .i64 (k : Int)) := Maps.keyOf_int_mk Try.underlying3 (WalkArith.wf_i64 (by have := HB.out; omega))
  have hlook := fun w' (hw' : w'.ownsMap Try.prog 3 Sx.valR d.m s.n (Sx.mapOf s.n f)) => World.ownsMap.lookup hw' (Maps.int_keyed Try.underlying3) Try.underlying64 (Try.zeroValue32 w') (zd := .held (.slice none 0 0)) (zp := []) rfl hkey
  rcases hfn : f k with _ | v
  · rw [hfn] at hfk; exact hfk.elim
  rw [hfn] at hfk
  obtain ⟨hlen, A, c, rfl, hA⟩ := hfk
  obtain ⟨_, _, _, s0, s1, _⟩ := h.sec hk
  have f0 := h.frozenH (k * 2)
  have f1 := h.frozenH (k * 2 + 1)
  have HH := hid h
  have hk0 : (k : Int) < s.n := by omega
  have hk00 : 0 ≤ (k : Int) := by omega
  by_cases h0 : fate = 0
  · subst h0
    have e : Sx.settled s k 0 = s := by
      have : Sx.settle1 (s.cache k) (s.dur k) 0 = s.dur k := by rw [hc]; rfl
      unfold Sx.settled
      rw [this]
      have : Sx.upd s.dur k (s.dur k) = s.dur := by funext j; unfold Sx.upd; split <;> simp [*]
      rw [this]
    rw [e]
    clear hlook hown hf hA h hc hlen
    go_enter Try.func36, Try.ntmps36
    go_wp2
    go_end0
    exact ⟨rfl, HH.out, Turned.refl _ _⟩
  · by_cases h1 : fate = 1
    · subst h1
      have e : Sx.settled s k 1 = { s with dur := Sx.upd s.dur k (b, false) } := by unfold Sx.settled; rw [hc]; rfl
      rw [e]
      have hrun : (Instr.lookup 64 (.map (some d.m)) (.int .i64 (k : Int)) false).run Try.prog w.drew = .ok (.slice A b.length c) w.drew := by
        obtain ⟨v, ps, hr, hv⟩ := hlook w.drew hown.drew
        rw [Sx.atKey_of _ _ _ hk, hfn] at hv
        have hv := DataW.held.inj (Prod.mk.inj (Option.some.inj hv)).1
        rw [hr, hv]; rfl
      have HR := hid (fun w' hw' => h.rowSet (w' := w') k hk A c (b, false) hlen hA hw')
      clear hlook hown hf hA h hc hlen
      go_enter Try.func36, Try.ntmps36
      go_wp2
      go_region
      go_wp2
      go_end0
      obtain ⟨h2, h3⟩ := HR.out _ rfl
      exact ⟨rfl, h2.drew, h3.drew.mono (fun _ h => .inr (.inl h))⟩
    · have e : Sx.settled s k fate = { s with dur := Sx.upd s.dur k ([], true) } := by unfold Sx.settled; rw [hc]; simp [Sx.settle1, h0, h1]
      rw [e]
      have HR := hid (fun w' hw' => h.rowSet (w' := w') k hk none 0 ([], true) (by simp) (OwnsZ.nil _ _) hw')
      clear hlook hown hf hA h hc hlen
      go_enter Try.func36, Try.ntmps36
      go_wp2
      go_end0
      obtain ⟨h2, h3⟩ := HR.out _ rfl
      exact ⟨rfl, h2, h3.mono (fun _ h => .inr (.inl h))⟩
end Go.Proofs.Ytdgijnolpjaheaa
