/- The walks through a disk's Flush and Crash. -/
import Derived.Test.YtdgijnolpjaheaaDiskD
namespace Go.Proofs.Ytdgijnolpjaheaa
open Go.RowKit

set_option maxRecDepth 100000 in
/-- the cache is emptied -/
theorem DiskAt.clear_ {w : World} {Z : Nat → Prop} {d : Dk} {s : Sx.St} (h : DiskAt w Z d s) :
    ∃ w', (∀ ty, (Builtin.clear_ #[64] ty #[.map (some d.m)]).run Try.prog w = .ok (.tuple #[]) w') ∧ DiskAt w' Z d { s with cache := fun _ => none } ∧ Turned (fun j => j = d.m) w w' := by
  obtain ⟨f, ⟨es, clock, hb, F, hs, hD⟩, hf⟩ := h.map
  have hbd := h.bound
  have ht : Turned (fun j => j = d.m) w (ChangeMaps.setBlock w d.m (.map #[] clock)) :=
    ⟨rfl, rfl, rfl, by simp [ChangeMaps.setBlock], fun k _ hne => ChangeMaps.heap_setBlock_other hb _ hne⟩
  have hz : ∀ A c l, OwnsZ w Z A c l → OwnsZ (ChangeMaps.setBlock w d.m (.map #[] clock)) Z A c l := fun A c l hA => by
    refine (((hA.shunTag hb ?_).keep (ht.mono (fun _ h => .inr h))).mono (fun _ h => .inl h))
    intro cur e
    cases e
  refine ⟨ChangeMaps.setBlock w d.m (.map #[] clock), fun ty => ?_, ⟨hbd, h.off, h.left, (ht.block _ h.glt h.g_ne_m).trans h.disk, ?_, ?_⟩, ht⟩
  · simp [Builtin.clear_, run_underlying Try.underlying64, MapKept.run_getObj_map hb, MapKept.run_setObj_map _ hb, Result.andThen, ChangeMaps.setBlock]
  · obtain ⟨cur, h1, h2, h3⟩ := h.row
    refine ⟨cur, (ht.block _ h.hlt h.h_ne_m).trans h1, h2, fun i hi' => ?_⟩
    obtain ⟨h4, A, c, h5, h6, h7⟩ := h3 i hi'
    exact ⟨h4, A, c, h5, h6, hz _ _ _ h7⟩
  · refine ⟨fun _ => none, ⟨#[], clock, ChangeMaps.heap_setBlock_same hb _, ⟨by simp, MapKept.stamped_empty clock, by simp⟩, by simp, ?_⟩, fun i _ => trivial⟩
    unfold Sx.mapOf
    rw [Sx.ents_none]
    rfl
/-- what was told of the dirty sectors, read again -/
theorem dirty_cells {w w' : World} {d : Dk} {base : Nat} {A : Option Addr} {c : Nat} {ds : List Nat} (h : OwnsI 3 w base A c (ds.map fun (i : Nat) => (i : Int))) (hd : ∀ k, d.has k → k < base) (ht : Turned d.has w w') (k : Nat) (hk : k < ds.length) :
    ∃ g, A = some ⟨g, 0, none⟩ ∧ w'.cell? ⟨g, k, none⟩ = some (.int .i64 (ds[k] : Nat)) := by
  obtain ⟨g, hA, hb, hlt, hc, _⟩ := h.at_ (k := k) (by simpa using hk)
  refine ⟨g, hA, ?_⟩
  rw [ht.cell hlt (fun e => by have := hd g e; omega), hc]
  simp

set_option maxRecDepth 100000 in
theorem flush_any (Z : Nat → Prop) (d : Dk) (s : Sx.St) (w : World) (h : DiskAt w Z d s) :
    Calls Try.prog 51 #[.pointer (some ⟨d.g, 0, none⟩)] w fun e w' => e = .returned (.int .i64 (Sx.spE s)) ∧ DiskAt w' Z d (Sx.flS s) ∧ Turned d.has w w' := by
  have HS := hid (spend_any Z d s w h)
  by_cases h0 : s.dead = false ∧ s.down = false
  · have e0 : Sx.spE s = 0 := by simp [Sx.spE, h0.1, h0.2]
    have e0' : Sx.spS s = s.spent := by simp [Sx.spS, h0.1, h0.2]
    have e1 : Sx.flS s = { s.spent with dur := fun i => Sx.settle1 (s.cache i) (s.dur i) 1, cache := fun _ => none } := by simp [Sx.flS, h0.1, h0.2]
    rw [e0, e0'] at HS
    rw [e0, e1]
    clear e0 e0' e1 h0 h
    go_enter Try.func51, Try.ntmps51
    go_wp2_with fail
    refine HS.out.mono ?_
    rintro e w1 ⟨rfl, hD1, ht1⟩
    have HD := hid (dirty_any Z d s.spent w1 hD1)
    have HD1 := hid (And.intro hD1 ht1)
    clear hD1 ht1 HS
    go_wp2_with fail
    refine HD.out.mono ?_
    rintro e w2 ⟨A, c, rfl, hI, hb2⟩
    have hD2 : DiskAt w2 Z d (Sx.part s.spent (fun _ => 1) 0) := by rw [Sx.part_zero]; exact HD1.out.1.below hb2
    have hlt : ∀ k, d.has k → k < w1.heap.size := HD1.out.1.lt
    have ht2 : Turned d.has w w2 := HD1.out.2.then_ (Turned.ofBelow d.has hb2) (fun _ _ h => h)
    have HI := hid (fun w' ht k hk => dirty_cells (w' := w') hI hlt ht k hk)
    have hn := Sx.dirtyTo_length s.cache s.n
    have hbn := HD1.out.1.bound
    have hln : (Sx.dirty s.spent).length ≤ 16384 := by
      have : (Sx.dirty s.spent).length ≤ s.spent.n := Sx.dirtyTo_length s.spent.cache s.spent.n
      omega
    have HS2 := hid (And.intro hD2 ht2)
    clear hI hb2 hD2 hlt ht2 HD HD1 hn hbn
    go_wp2_with fail
    go_loopw [14] (fun i wr => ∃ k : Nat, k ≤ (Sx.dirty s.spent).length ∧ i = .int .i64 k ∧ Hid (DiskAt wr Z d (Sx.part s.spent (fun _ => 1) k) ∧ Turned d.has w wr) ∧ Hid (Turned d.has w2 wr)) (fun i _ => (Sx.dirty s.spent).length - (RowKit.intOf i).toNat)
    case atStart => exact ⟨0, by omega, rfl, HS2, hid (Turned.refl _ _)⟩
    case round =>
      clear HS2
      obtain ⟨k, hk, rfl, hS, hT⟩ := hrel
      by_cases hlt : k < (Sx.dirty s.spent).length
      · obtain ⟨g, hA, hcell⟩ := HI.out wr hT.out k hlt
        subst hA
        obtain ⟨hlk, b, hb⟩ := Sx.dirty_lt s.spent k hlt
        have HC := hid (settle_any Z d (Sx.part s.spent (fun _ => 1) k) (Sx.dirty s.spent)[k] hlk b hb 1 wr hS.out.1)
        rw [Sx.part_step s.spent (fun _ => 1) k hlt] at HC
        have hk0 : (k : Int) < ((Sx.dirty s.spent).length : Int) := by omega
        clear hlk hb
        go_wp2_with fail
        refine HC.out.mono ?_
        rintro e w3 ⟨rfl, hD3, ht3⟩
        have H3 := hid (And.intro hD3 ht3)
        clear hD3 ht3
        go_wp2_with fail
        go_roundw
        case rel => exact ⟨k + 1, by omega, by go_num, hid ⟨H3.out.1, hS.out.2.trans H3.out.2⟩, hid (hT.out.trans H3.out.2)⟩
        case measure => simp [RowKit.intOf]; omega
      · obtain rfl : k = (Sx.dirty s.spent).length := by omega
        obtain ⟨w4, hcl, hD4, ht4⟩ := hS.out.1.clear_
        obtain ⟨c0, c1, c2, c3, c4⟩ := hS.out.1.cells
        have H4 := hid (And.intro hD4 ht4)
        clear hD4 ht4 hk c0 c2 c3 c4
        go_wp2_with fail
        go_ret
        refine ⟨rfl, H4.out.1.congr rfl (fun i hi => ?_) (fun _ _ => rfl) rfl rfl rfl, hS.out.2.then_ H4.out.2 (fun _ _ h => .inr (.inr h))⟩
        exact (Sx.part_end s.spent (fun _ => 1) i hi).symm
  · have e0 : Sx.spE s = 10 := by
      unfold Sx.spE
      cases hd : s.dead <;> cases ho : s.down <;> simp_all
    have e1 : Sx.flS s = Sx.spS s := by
      unfold Sx.flS Sx.spS
      cases hd : s.dead <;> cases ho : s.down <;> simp_all
    rw [e0] at HS
    rw [e0, e1]
    clear e0 e1 h0 h
    go_enter Try.func51, Try.ntmps51
    go_wp2_with fail
    refine HS.out.mono ?_
    rintro e w1 ⟨rfl, hD1, ht1⟩
    go_wp2
    go_ret
    exact ⟨rfl, hD1, ht1⟩
end Go.Proofs.Ytdgijnolpjaheaa
