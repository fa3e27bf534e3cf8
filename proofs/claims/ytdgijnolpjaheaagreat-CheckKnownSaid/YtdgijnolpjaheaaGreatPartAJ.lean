/- Texts of the proof, one behind the other: DiskF, CkC, CkD. -/
import Derived.Test.YtdgijnolpjaheaaGreatPartAI
namespace Go.Proofs.YtdgijnolpjaheaaGreat
open Go.RowKit

set_option maxRecDepth 100000 in
/-- the cache is emptied -/
theorem DiskAt.clear_ {w : World} {Z : Nat → Prop} {d : Dk} {s : Sx.St} (h : DiskAt w Z d s) :
    ∃ w', (∀ ty, (Builtin.clear_ #[54] ty #[.map (some d.m)]).run Tryz.prog w = .ok (.tuple #[]) w') ∧ DiskAt w' Z d { s with cache := fun _ => none } ∧ Turned (fun j => j = d.m) w w' := by
  obtain ⟨f, ⟨es, clock, hb, F, hs, hD⟩, hf⟩ := h.map
  have hbd := h.bound
  have ht : Turned (fun j => j = d.m) w (ChangeMaps.setBlock w d.m (.map #[] clock)) :=
    ⟨rfl, rfl, rfl, by simp [ChangeMaps.setBlock], fun k _ hne => ChangeMaps.heap_setBlock_other hb _ hne⟩
  have hz : ∀ A c l, OwnsZ w Z A c l → OwnsZ (ChangeMaps.setBlock w d.m (.map #[] clock)) Z A c l := fun A c l hA => by
    refine (((hA.shunTag hb ?_).keep (ht.mono (fun _ h => .inr h))).mono (fun _ h => .inl h))
    intro cur e
    cases e
  refine ⟨ChangeMaps.setBlock w d.m (.map #[] clock), fun ty => ?_, ⟨hbd, h.off, h.left, (ht.block _ h.glt h.g_ne_m).trans h.disk, ?_, ?_⟩, ht⟩
  · simp [Builtin.clear_, run_underlying Tryz.underlying54, MapKept.run_getObj_map hb, MapKept.run_setObj_map _ hb, Result.andThen, ChangeMaps.setBlock]
  · obtain ⟨cur, h1, h2, h3⟩ := h.row
    refine ⟨cur, (ht.block _ h.hlt h.h_ne_m).trans h1, h2, fun i hi' => ?_⟩
    obtain ⟨h4, A, c, h5, h6, h7⟩ := h3 i hi'
    exact ⟨h4, A, c, h5, h6, hz _ _ _ h7⟩
  · refine ⟨fun _ => none, ⟨#[], clock, ChangeMaps.heap_setBlock_same hb _, ⟨by simp, MapKept.stamped_empty clock, by simp⟩, by simp, ?_⟩, fun i _ => trivial⟩
    unfold Sx.mapOf
    rw [Sx.ents_none]
    rfl
/-- what was told of the dirty sectors, read again -/
theorem dirty_cells {w w' : World} {d : Dk} {base : Nat} {A : Option Addr} {c : Nat} {ds : List Nat} (h : OwnsI 3 w base A c (ds.map fun (i : Nat) => (i : Int))) (hd : ∀ k, d.has k → k < base) (ht : Turned d.has w w') (k : Nat) (hk : k < ds.length) :
    ∃ g, A = some ⟨g, 0, none⟩ ∧ w'.cell? ⟨g, k, none⟩ = some (.int .i64 (ds[k] : Nat)) := by
  obtain ⟨g, hA, hb, hlt, hc, _⟩ := h.at_ (k := k) (by simpa using hk)
  refine ⟨g, hA, ?_⟩
  rw [ht.cell hlt (fun e => by have := hd g e; omega), hc]
  simp

set_option maxRecDepth 100000 in
theorem flush_any (Z : Nat → Prop) (d : Dk) (s : Sx.St) (w : World) (h : DiskAt w Z d s) :
    Calls Tryz.prog 33 #[.pointer (some ⟨d.g, 0, none⟩)] w fun e w' => e = .returned (.int .i64 (Sx.spE s)) ∧ DiskAt w' Z d (Sx.flS s) ∧ Turned d.has w w' := by
  have HS := hid (spend_any Z d s w h)
  by_cases h0 : s.dead = false ∧ s.down = false
  · have e0 : Sx.spE s = 0 := by simp [Sx.spE, h0.1, h0.2]
    have e0' : Sx.spS s = s.spent := by simp [Sx.spS, h0.1, h0.2]
    have e1 : Sx.flS s = { s.spent with dur := fun i => Sx.settle1 (s.cache i) (s.dur i) 1, cache := fun _ => none } := by simp [Sx.flS, h0.1, h0.2]
    rw [e0, e0'] at HS
    rw [e0, e1]
    clear e0 e0' e1 h0 h
    go_enter Tryz.func33, Tryz.ntmps33
    go_wp2_with fail
    refine HS.out.mono ?_
    rintro e w1 ⟨rfl, hD1, ht1⟩
    have HD := hid (dirty_any Z d s.spent w1 hD1)
    have HD1 := hid (And.intro hD1 ht1)
    clear hD1 ht1 HS
    go_wp2_with fail
    refine HD.out.mono ?_
    rintro e w2 ⟨A, c, rfl, hI, hb2⟩
    have hD2 : DiskAt w2 Z d (Sx.part s.spent (fun _ => 1) 0) := by rw [Sx.part_zero]; exact HD1.out.1.below hb2
    have hlt : ∀ k, d.has k → k < w1.heap.size := HD1.out.1.lt
    have ht2 : Turned d.has w w2 := HD1.out.2.then_ (Turned.ofBelow d.has hb2) (fun _ _ h => h)
    have HI := hid (fun w' ht k hk => dirty_cells (w' := w') hI hlt ht k hk)
    have hn := Sx.dirtyTo_length s.cache s.n
    have hbn := HD1.out.1.bound
    have hln : (Sx.dirty s.spent).length ≤ 16384 := by
      have : (Sx.dirty s.spent).length ≤ s.spent.n := Sx.dirtyTo_length s.spent.cache s.spent.n
      omega
    have HS2 := hid (And.intro hD2 ht2)
    clear hI hb2 hD2 hlt ht2 HD HD1 hn hbn
    go_wp2_with fail
    go_loopw [14] (fun i wr => ∃ k : Nat, k ≤ (Sx.dirty s.spent).length ∧ i = .int .i64 k ∧ Hid (DiskAt wr Z d (Sx.part s.spent (fun _ => 1) k) ∧ Turned d.has w wr) ∧ Hid (Turned d.has w2 wr)) (fun i _ => (Sx.dirty s.spent).length - (RowKit.intOf i).toNat)
    case atStart => exact ⟨0, by omega, rfl, HS2, hid (Turned.refl _ _)⟩
    case round =>
      clear HS2
      obtain ⟨k, hk, rfl, hS, hT⟩ := hrel
      by_cases hlt : k < (Sx.dirty s.spent).length
      · obtain ⟨g, hA, hcell⟩ := HI.out wr hT.out k hlt
        subst hA
        obtain ⟨hlk, b, hb⟩ := Sx.dirty_lt s.spent k hlt
        have HC := hid (settle_any Z d (Sx.part s.spent (fun _ => 1) k) (Sx.dirty s.spent)[k] hlk b hb 1 wr hS.out.1)
        rw [Sx.part_step s.spent (fun _ => 1) k hlt] at HC
        have hk0 : (k : Int) < ((Sx.dirty s.spent).length : Int) := by omega
        clear hlk hb
        go_wp2_with fail
        refine HC.out.mono ?_
        rintro e w3 ⟨rfl, hD3, ht3⟩
        have H3 := hid (And.intro hD3 ht3)
        clear hD3 ht3
        go_wp2_with fail
        go_roundw
        case rel => exact ⟨k + 1, by omega, by go_num, hid ⟨H3.out.1, hS.out.2.trans H3.out.2⟩, hid (hT.out.trans H3.out.2)⟩
        case measure => simp [RowKit.intOf]; omega
      · obtain rfl : k = (Sx.dirty s.spent).length := by omega
        obtain ⟨w4, hcl, hD4, ht4⟩ := hS.out.1.clear_
        obtain ⟨c0, c1, c2, c3, c4⟩ := hS.out.1.cells
        have H4 := hid (And.intro hD4 ht4)
        clear hD4 ht4 hk c0 c2 c3 c4
        go_wp2_with fail
        go_ret
        refine ⟨rfl, H4.out.1.congr rfl (fun i hi => ?_) (fun _ _ => rfl) rfl rfl rfl, hS.out.2.then_ H4.out.2 (fun _ _ h => .inr (.inr h))⟩
        exact (Sx.part_end s.spent (fun _ => 1) i hi).symm
  · have e0 : Sx.spE s = 10 := by
      unfold Sx.spE
      cases hd : s.dead <;> cases ho : s.down <;> simp_all
    have e1 : Sx.flS s = Sx.spS s := by
      unfold Sx.flS Sx.spS
      cases hd : s.dead <;> cases ho : s.down <;> simp_all
    rw [e0] at HS
    rw [e0, e1]
    clear e0 e1 h0 h
    go_enter Tryz.func33, Tryz.ntmps33
    go_wp2_with fail
    refine HS.out.mono ?_
    rintro e w1 ⟨rfl, hD1, ht1⟩
    go_wp2
    go_ret
    exact ⟨rfl, hD1, ht1⟩
end Go.Proofs.YtdgijnolpjaheaaGreat
namespace Go.Proofs.YtdgijnolpjaheaaGreat
open Go.RowKit

/-- bytes' slices that lie from A on, whatever blocks of S turn -/
def RowsFor (w : World) (S : Nat → Prop) (A : Option Addr) (T : List (List Nat)) : Prop :=
  ∃ (As : Nat → Option Addr) (cs : Nat → Nat), ∀ w', Turned S w w' → ∀ i (h : i < T.length), ∃ b off, A = some ⟨b, off, none⟩ ∧ w'.cell? ⟨b, off + i, none⟩ = some (.slice (As i) T[i].length (cs i)) ∧ (As i = none → cs i = 0) ∧ IsBytes w' w'.heap.size (As i) T[i]
namespace RowsFor
variable {w w' : World} {S : Nat → Prop} {A : Option Addr} {T : List (List Nat)}
theorem step (h : RowsFor w S A T) (ht : Turned S w w') : RowsFor w' S A T := by
  obtain ⟨As, cs, h1⟩ := h
  exact ⟨As, cs, fun w2 h2 => h1 w2 (ht.trans h2)⟩
theorem nil : RowsFor w S A [] := ⟨fun _ => none, fun _ => 0, fun _ _ i h => by simp at h⟩
end RowsFor
namespace C
set_option maxRecDepth 100000 in
set_option maxHeartbeats 1000000 in
theorem writes_any (Z : Nat → Prop) (d : Dk) (s : Sx.St) (f : Nat) (hf : f ≤ 100000) (A : Option Addr) (c m : Nat) (T : List (List Nat)) (hm : T.length = m) (hm2 : m ≤ 100000) (w : World) (hZ : ∀ k, Z k → k < w.heap.size) (h : DiskAt w Z d s) (hT : RowsFor w d.has A T) :
    Calls Tryz.prog 48 #[.pointer (some ⟨d.g, 0, none⟩), .int .i64 (f : Int), .slice A m c] w fun e' w' => e' = .returned (.int .i64 (Jo.run s f T).1) ∧ Hid (DiskAt w' Z d (Jo.run s f T).2 ∧ Turned d.has w w') := by
  obtain ⟨As, cs, hrow⟩ := hT
  have HX := hid (And.intro hm (And.intro hZ (And.intro h hrow)))
  clear hm hZ h hrow
  go_enter Tryz.func48, Tryz.ntmps48
  go_wp2_with fail
  go_loopw [12] (fun i wr => ∃ k : Nat, k ≤ m ∧ i = .int .i64 (k : Int) ∧ Hid (Jo.okL s f (T.take k) ∧ DiskAt wr Z d (Jo.wrL s f (T.take k)) ∧ Turned d.has w wr)) (fun i _ => (m - RowKit.intOf i).toNat)
  case atStart => exact ⟨0, by omega, rfl, hid ⟨trivial, HX.out.2.2.1, Turned.refl _ _⟩⟩
  case round =>
    obtain ⟨k, hk, rfl, HI⟩ := hrel
    by_cases hlt : k < m
    · have hk0 : (k : Int) < (m : Int) := by omega
      have hkT : k < T.length := by rw [HX.out.1]; exact hlt
      obtain ⟨b, off, rfl, hcell, _, _⟩ := HX.out.2.2.2 wr HI.out.2.2 k hkT
      obtain ⟨t, ht⟩ : ∃ t, t = Jo.wrL s f (T.take k) := ⟨_, rfl⟩
      have hlen : (T.take k).length = k := by rw [List.length_take]; omega
      have HW := hid (write_any Z d t ((f : Int) + k) (As k) (cs k) T[k] _ rfl (fun hn => ((HX.out.2.2.2 wr HI.out.2.2 k hkT).elim fun _ h => h.elim fun _ h => h.2.2.1 hn)) wr (fun j hj => Nat.lt_of_lt_of_le (HX.out.2.1 j hj) HI.out.2.2.size) (by rw [ht]; exact HI.out.2.1)
        (fun w' ht' => (HX.out.2.2.2 w' (HI.out.2.2.trans ht') k hkT).elim fun _ h => h.elim fun _ h => h.2.2.2))
      obtain ⟨E, hE⟩ : ∃ E, E = Sx.wrE t ((f : Int) + k) T[k] := ⟨_, rfl⟩
      rw [← hE] at HW
      have htk : T.take (k + 1) = T.take k ++ [T[k]] := List.take_succ_eq_append_getElem hkT
      have HS : Hid (Jo.wrL s f (T.take (k + 1)) = Sx.wrS t ((f : Int) + k) T[k] ∧ (E = 0 → Jo.okL s f (T.take (k + 1))) ∧ (E ≠ 0 → Jo.run s f T = (E, Sx.wrS t ((f : Int) + k) T[k]))) := by
        refine hid ⟨?_, fun h0 => ?_, fun h0 => ?_⟩
        · rw [htk, Jo.wrL_snoc, hlen, ← ht, Int.natCast_add]
        · rw [htk, Jo.okL_snoc]
          refine ⟨HI.out.1, ?_⟩
          rw [← ht, hlen, Int.natCast_add, ← hE]; exact h0
        · have hs := Jo.run_stop (T.take k) T[k] (T.drop (k + 1)) s f HI.out.1 (by rw [← ht, hlen, Int.natCast_add, ← hE]; exact h0)
          rw [← ht, hlen, Int.natCast_add, ← hE, Jo.wrL_snoc, ← ht, hlen, Int.natCast_add, ← List.drop_eq_getElem_cons hkT, List.take_append_drop] at hs
          exact hs
      clear htk hlen hE ht
      by_cases h0 : E = 0
      · subst h0
        have HK := hid (And.intro HS.out.1 (HS.out.2.1 rfl))
        clear HS
        go_wp2_with fail
        refine HW.out.mono ?_
        rintro e1 w1 ⟨rfl, hd1, ht1⟩
        have H1 : Hid (Jo.okL s f (T.take (k + 1)) ∧ DiskAt w1 Z d (Jo.wrL s f (T.take (k + 1))) ∧ Turned d.has w w1) := hid ⟨HK.out.2, by rw [HK.out.1]; exact hd1, HI.out.2.2.trans ht1⟩
        clear hd1 ht1
        go_wp2
        go_roundw
        case rel => exact ⟨k + 1, by omega, by go_num, H1⟩
        case measure => simp [RowKit.intOf]; omega
      · have hEb : (E != 0) = true := by rw [bne_iff_ne]; exact h0
        have HR := hid (HS.out.2.2 h0)
        clear h0
        go_wp2_with fail
        refine HW.out.mono ?_
        rintro e1 w1 ⟨rfl, hd1, ht1⟩
        have H1 := hid (And.intro hd1 (HI.out.2.2.trans ht1))
        clear hd1 ht1
        go_wp2
        go_ret
        rw [HR.out]
        exact ⟨rfl, H1⟩
    · have hk0 : ¬ (k : Int) < (m : Int) := by omega
      obtain rfl : k = m := by omega
      have hall : T.take k = T := List.take_of_length_le (by rw [HX.out.1]; exact Nat.le_refl _)
      have HF := hid (flush_any Z d (Jo.wrL s f T) wr (by have := HI.out.2.1; rwa [hall] at this))
      have HR : Hid (Jo.run s f T = (Sx.spE (Jo.wrL s f T), Sx.flS (Jo.wrL s f T))) := hid (Jo.run_done T s f (by have := HI.out.1; rwa [hall] at this))
      clear hall
      go_wp2_with fail
      refine HF.out.mono ?_
      rintro e1 w1 ⟨rfl, hd1, ht1⟩
      have H1 := hid (And.intro hd1 (HI.out.2.2.trans ht1))
      clear hd1 ht1
      go_wp2
      go_ret
      rw [HR.out]
      exact ⟨rfl, H1⟩
end C
end Go.Proofs.YtdgijnolpjaheaaGreat
namespace Go.Proofs.YtdgijnolpjaheaaGreat
open Go.RowKit

def sliceAt : Option Value → Option Addr × Nat
  | some (.slice A _ c) => (A, c)
  | _ => (none, 0)
theorem part_rows {w : World} {Z S : Nat → Prop} {g m : Nat} {T : Nat → List Nat} (h : PartRows w Z g m m T) (hS : ∀ k, S k → Z k) (hg : ¬ Z g) (o : Nat) (L : List (List Nat)) (hL : ∀ i (hi : i < L.length), o + i < m ∧ L[i] = T (o + i)) : RowsFor w S (some ⟨g, o, none⟩) L := by
  obtain ⟨vs, h1, h2, h3⟩ := h.row
  refine ⟨fun i => (sliceAt vs[o + i]?).1, fun i => (sliceAt vs[o + i]?).2, fun w' ht i hi => ?_⟩
  obtain ⟨h4, h5⟩ := hL i hi
  obtain ⟨A, c, h6, h7⟩ := h3 (o + i) h4
  have h8 := h7.keep (ht.mono hS)
  have h9 : w'.heap[g]? = some (.cells vs 23 (0, 0)) := (ht.block g (row_lt h1) (fun e => hg (hS g e))).trans h1
  refine ⟨g, o, rfl, ?_, ?_, ?_⟩
  · show _ = some (Value.slice (sliceAt vs[o + i]?).1 L[i].length (sliceAt vs[o + i]?).2)
    rw [row_cell h9, h6, h5]; rfl
  · show (sliceAt vs[o + i]?).1 = none → (sliceAt vs[o + i]?).2 = 0
    rw [h6]; exact h8.own.none_
  · show IsBytes w' w'.heap.size (sliceAt vs[o + i]?).1 L[i]
    rw [h6, h5]; exact h8.reads
theorem RowsFor.empty {w : World} {S : Nat → Prop} {A : Option Addr} {T : List (List Nat)} (h : T.length = 0) : RowsFor w S A T := by
  rw [List.eq_nil_of_length_eq_zero h]; exact RowsFor.nil
namespace C
theorem save_single (s : Sx.St) (f : Nat) (e : Int) (p : List Nat) (h1 : ¬ 1 < Jo.secs p.length) : Ck.save false s f e p = Jo.run s f [Jo.sec e 0 p 0] := by
  unfold Ck.save
  exact if_neg (fun h => h.elim (fun h => by cases h) h1)
theorem save_eq (s : Sx.St) (f : Nat) (e : Int) (p : List Nat) (E : Int) (t : Sx.St) (h1 : 1 < Jo.secs p.length) (hE : E = (Jo.run s (f + 1) (Jo.secsOf e 0 p).tail).1) (ht : t = (Jo.run s (f + 1) (Jo.secsOf e 0 p).tail).2) :
    (E = 0 → Ck.save false s f e p = Jo.run t f [Jo.sec e 0 p 0]) ∧ (E ≠ 0 → Ck.save false s f e p = (E, t)) := by
  subst hE
  subst ht
  unfold Ck.save
  rw [if_pos (.inr h1)]
  exact ⟨fun h => if_pos h, fun h => by rw [if_neg h]⟩
theorem writes_N (Z : Nat → Prop) (d : Dk) (s : Sx.St) (f : Nat) (F : Int) (hF : F = (f : Int)) (hf : f ≤ 100000) (A : Option Addr) (c m : Nat) (T : List (List Nat)) (hm : T.length = m) (hm2 : m ≤ 100000) (w : World) (hZ : ∀ k, Z k → k < w.heap.size) (h : DiskAt w Z d s) (hT : RowsFor w d.has A T) :
    Calls Tryz.prog 48 #[.pointer (some ⟨d.g, 0, none⟩), .int .i64 F, .slice A m c] w fun e' w' => e' = .returned (.int .i64 (Jo.run s f T).1) ∧ Hid (DiskAt w' Z d (Jo.run s f T).2 ∧ Turned d.has w w') := by
  subst hF
  exact writes_any Z d s f hf A c m T hm hm2 w hZ h hT
set_option maxRecDepth 100000 in
theorem save_wrong (Z : Nat → Prop) (d : Dk) (s : Sx.St) (f n e : Int) (hf : InInt f) (A : Option Addr) (m c : Nat) (hr : ¬ (Ck.Right s.n f n ∧ Ck.Epoch e)) (w : World) (h : DiskAt w Z d s) :
    Calls Tryz.prog 16 #[.pointer (some ⟨d.g, 0, none⟩), .int .i64 f, .int .i64 n, .int .i64 e, .slice A m c] w fun e' w' => e' = .returned (.int .i64 3) ∧ w' = w := by
  have HV := hid (valid_any Z d s f n hf w h)
  have HE := hid (fun w' => epoch_any e w')
  by_cases h1 : Ck.Right s.n f n
  · rw [decide_eq_true h1] at HV
    rw [decide_eq_false (fun h2 => hr ⟨h1, h2⟩)] at HE
    clear h hr h1
    go_enter Tryz.func16, Tryz.ntmps16
    go_wp2_with fail
    refine HV.out.mono ?_
    rintro e1 w1 ⟨rfl, rfl⟩
    go_wp2_with fail
    refine (HE.out _).mono ?_
    rintro e2 w2 ⟨rfl, rfl⟩
    go_wp2
    go_ret
    exact ⟨rfl, rfl⟩
  · rw [decide_eq_false h1] at HV
    clear h hr h1
    go_enter Tryz.func16, Tryz.ntmps16
    go_wp2_with fail
    refine HV.out.mono ?_
    rintro e1 w1 ⟨rfl, rfl⟩
    go_wp2
    go_ret
    exact ⟨rfl, rfl⟩
set_option maxRecDepth 100000 in
theorem save_long (Z : Nat → Prop) (d : Dk) (s : Sx.St) (f : Int) (n : Nat) (e : Int) (hf : InInt f) (A : Option Addr) (m c : Nat) (hm : m ≤ 140737488355328) (hr : Ck.Right s.n f n) (he : Ck.Epoch e) (hl : n < Jo.secs m) (w : World) (h : DiskAt w Z d s) :
    Calls Tryz.prog 16 #[.pointer (some ⟨d.g, 0, none⟩), .int .i64 f, .int .i64 (n : Int), .int .i64 e, .slice A m c] w fun e' w' => e' = .returned (.int .i64 2) ∧ w' = w := by
  have HV := hid (valid_any Z d s f n hf w h)
  have HE := hid (fun w' => epoch_any e w')
  have HP := hid (fun w' => pieces_any m hm w')
  rw [decide_eq_true hr] at HV
  rw [decide_eq_true he] at HE
  have hl0 : (n : Int) < ((Jo.secs m : Nat) : Int) := by omega
  clear h hr he
  go_enter Tryz.func16, Tryz.ntmps16
  go_wp2_with fail
  refine HV.out.mono ?_
  rintro e1 w1 ⟨rfl, rfl⟩
  go_wp2_with fail
  refine (HE.out _).mono ?_
  rintro e2 w2 ⟨rfl, rfl⟩
  go_wp2_with fail
  refine (HP.out _).mono ?_
  rintro e3 w3 ⟨rfl, rfl⟩
  go_wp2
  go_ret
  exact ⟨rfl, rfl⟩
/-- what a Save that is right does -/
structure Saved (Z : Nat → Prop) (d : Dk) (s : Sx.St) (f n : Nat) (e : Int) (p : List Nat) (w : World) (e' : Ending) (w' : World) : Prop where
  ret : e' = .returned (.int .i64 (Ck.save false s (Ck.slot f n e) e p).1)
  disk : DiskAt w' Z d (Ck.save false s (Ck.slot f n e) e p).2
  turned : Turned d.has w w'
set_option maxRecDepth 100000 in
set_option maxHeartbeats 2000000 in
theorem save_any (Z : Nat → Prop) (d : Dk) (s : Sx.St) (f n : Nat) (e : Int) (hr : Ck.Right s.n f n) (he : Ck.Epoch e) (A : Option Addr) (c : Nat) (p : List Nat) (m : Nat) (hm : p.length = m) (hc : m ≤ c) (hcm : c ≤ maxLen) (hz : A = none → c = 0) (hl : Jo.secs m ≤ n) (w : World) (hZ : ∀ k, Z k → k < w.heap.size) (h : DiskAt w Z d s) (hp : IsBytes w w.heap.size A p) :
    Calls Tryz.prog 16 #[.pointer (some ⟨d.g, 0, none⟩), .int .i64 (f : Int), .int .i64 (n : Int), .int .i64 e, .slice A m c] w (Saved Z d s f n e p w) := by
  have hbd := h.bound
  have hfn : f + 2 * n ≤ s.n := by have := hr.2.2; omega
  have hsp := Jo.secs_pos m
  have hm6 : m ≤ 1000000 := by unfold Jo.secs at hl; omega
  have hin : InInt e := by obtain ⟨h1, h2⟩ := he; unfold InInt; omega
  have HV := hid (valid_any Z d s f n (by unfold InInt; omega) w h)
  have HE := hid (fun w' => epoch_any e w')
  have HP := hid (fun w' => pieces_any m (by omega) w')
  have HSl := hid (fun w' => slot_any e he w')
  have HSe := hid (sectors_any e hin A c p m hm hc hcm hz hm6 w hp)
  rw [decide_eq_true hr] at HV
  rw [decide_eq_true he] at HE
  have hl0 : ¬ (n : Int) < ((Jo.secs m : Nat) : Int) := by omega
  obtain ⟨F, hF⟩ : ∃ F, F = Ck.slot f n e := ⟨_, rfl⟩
  have hFb : F ≤ 40000 ∧ (e % 2 = 1 ∧ (f : Int) + n = F ∨ e % 2 = 0 ∧ (f : Int) = F) := by
    rcases Ck.slot_cases f n e with ⟨h1, h2⟩ | ⟨h1, h2⟩ <;> rw [hF, h1] <;> omega
  obtain ⟨t1, t2, t3⟩ := Ck.secsOf_tail e p
  rw [hm] at t1 t3
  have HX := hid (And.intro (And.intro hF hFb.1) (And.intro (And.intro t1 t3) (And.intro hZ (And.intro h hm))))
  have HF := hid hFb.2
  have key : ∀ w1 : World, PartRows w1 (fun k => k < w.heap.size) w.heap.size (Jo.secs m) (Jo.secs m) (Jo.sec e 0 p) → Below w.heap.size w w1 → Hid (RowsFor w1 d.has (some ⟨w.heap.size, 1, none⟩) (Jo.secsOf e 0 p).tail ∧ RowsFor w1 d.has (some ⟨w.heap.size, 0, none⟩) [Jo.sec e 0 p 0] ∧ DiskAt w1 Z d s ∧ Turned d.has w w1 ∧ ∀ k, Z k → k < w1.heap.size) := fun w1 h1 h2 => by
    have hd : ∀ k, d.has k → k < w.heap.size := HX.out.2.2.2.1.lt
    refine hid ⟨part_rows h1 hd (by omega) 1 _ (fun i hi => ?_), part_rows h1 hd (by omega) 0 _ (fun i hi => ?_), HX.out.2.2.2.1.below h2, Turned.ofBelow _ h2, fun k hk => Nat.lt_of_lt_of_le (HX.out.2.2.1 k hk) h2.size⟩
    · rw [HX.out.2.1.1] at hi
      refine ⟨by omega, ?_⟩
      have := HX.out.2.1.2 i (by omega)
      rw [List.getD_eq_getElem?_getD, List.getElem?_eq_getElem (by rw [HX.out.2.1.1]; exact hi)] at this
      rw [show 1 + i = i + 1 from by omega]
      exact this
    · simp at hi
      subst hi
      exact ⟨by omega, rfl⟩
  have HK := hid key
  have HT := hid t2
  clear h hr he hF hFb t1 t2 t3 hZ hm hc hcm hz hp hin key
  rcases HF.out with ⟨hpar, hFe⟩ | ⟨hpar, hFe⟩
  · have HS1 : Hid (∀ w', Calls Tryz.prog 46 #[.int .i64 e] w' fun e' w2 => e' = .returned (.int .i64 1) ∧ w2 = w') := hid (fun w' => by have := HSl.out w'; rwa [hpar] at this)
    clear HSl
    by_cases hs1 : 1 < Jo.secs m
    · have hs1i : (1 : Int) < ((Jo.secs m : Nat) : Int) := by omega
      go_enter Tryz.func16, Tryz.ntmps16
      go_wp2_with fail
      refine HV.out.mono ?_
      rintro e1 w1 ⟨rfl, rfl⟩
      go_wp2_with fail
      refine (HE.out _).mono ?_
      rintro e2 w2 ⟨rfl, rfl⟩
      go_wp2_with fail
      refine (HP.out _).mono ?_
      rintro e3 w3 ⟨rfl, rfl⟩
      go_wp2_with fail
      refine (HS1.out _).mono ?_
      rintro e4 w4 ⟨rfl, rfl⟩
      go_wp2_with fail
      refine HSe.out.mono ?_
      rintro e5 w5 ⟨rfl, h5⟩
      have H5 := HK.out w5 h5.out.1 h5.out.2
      clear h5
      go_wp2_with fail
      refine (writes_N Z d s (F + 1) ((F : Int) + 1) (by omega) (by omega) (some ⟨w4.heap.size, 1, none⟩) (Jo.secs m - 1) (Jo.secs m - 1) (Jo.secsOf e 0 p).tail HX.out.2.1.1 (by omega) w5 H5.out.2.2.2.2 H5.out.2.2.1 H5.out.1).mono ?_
      rintro e6 w6 ⟨rfl, h6⟩
      obtain ⟨E, hE⟩ : ∃ E, E = (Jo.run s (F + 1) (Jo.secsOf e 0 p).tail).1 := ⟨_, rfl⟩
      obtain ⟨t, ht⟩ : ∃ t, t = (Jo.run s (F + 1) (Jo.secsOf e 0 p).tail).2 := ⟨_, rfl⟩
      rw [← ht] at h6
      have HQ := hid (save_eq s F e p E t (by rw [HX.out.2.2.2.2]; exact hs1) hE ht)
      have H6 := hid (And.intro h6.out.1 (And.intro (H5.out.2.2.2.1.trans h6.out.2) (H5.out.2.1.step h6.out.2)))
      have HZ6 : Hid (∀ k, Z k → k < w6.heap.size) := hid (fun k hk => Nat.lt_of_lt_of_le (H5.out.2.2.2.2 k hk) h6.out.2.size)
      rw [← hE]
      clear h6 H5 hE ht
      by_cases hE0 : E = 0
      · subst hE0
        have HQ0 := hid (HQ.out.1 rfl)
        clear HQ
        go_wp2_with fail
        refine (writes_N Z d t F (F : Int) rfl (by omega) (some ⟨w4.heap.size, 0, none⟩) (Jo.secs m) 1 [Jo.sec e 0 p 0] rfl (by omega) w6 HZ6.out H6.out.1 H6.out.2.2).mono ?_
        rintro e7 w7 ⟨rfl, h7⟩
        have H7 := hid (And.intro h7.out.1 (H6.out.2.1.trans h7.out.2))
        clear h7 H6
        go_wp2
        go_ret
        exact ⟨by rw [← HX.out.1.1, HQ0.out]; rfl, by rw [← HX.out.1.1, HQ0.out]; exact H7.out.1, H7.out.2⟩
      · have hEb : (E != 0) = true := by rw [bne_iff_ne]; exact hE0
        have HQ0 := hid (HQ.out.2 hE0)
        clear HQ hE0
        go_wp2
        go_ret
        exact ⟨by rw [← HX.out.1.1, HQ0.out]; rfl, by rw [← HX.out.1.1, HQ0.out]; exact H6.out.1, H6.out.2.1⟩
    · have hs1i : ¬ (1 : Int) < ((Jo.secs m : Nat) : Int) := by omega
      go_enter Tryz.func16, Tryz.ntmps16
      go_wp2_with fail
      refine HV.out.mono ?_
      rintro e1 w1 ⟨rfl, rfl⟩
      go_wp2_with fail
      refine (HE.out _).mono ?_
      rintro e2 w2 ⟨rfl, rfl⟩
      go_wp2_with fail
      refine (HP.out _).mono ?_
      rintro e3 w3 ⟨rfl, rfl⟩
      go_wp2_with fail
      refine (HS1.out _).mono ?_
      rintro e4 w4 ⟨rfl, rfl⟩
      go_wp2_with fail
      refine HSe.out.mono ?_
      rintro e5 w5 ⟨rfl, h5⟩
      have H5 := HK.out w5 h5.out.1 h5.out.2
      clear h5
      have HQ0 := hid (save_single s F e p (by rw [HX.out.2.2.2.2]; exact hs1))
      go_wp2_with fail
      refine (writes_N Z d s F (F : Int) rfl (by omega) (some ⟨w4.heap.size, 0, none⟩) (Jo.secs m) 1 [Jo.sec e 0 p 0] rfl (by omega) w5 H5.out.2.2.2.2 H5.out.2.2.1 H5.out.2.1).mono ?_
      rintro e7 w7 ⟨rfl, h7⟩
      have H7 := hid (And.intro h7.out.1 (H5.out.2.2.2.1.trans h7.out.2))
      clear h7 H5
      go_wp2
      go_ret
      exact ⟨by rw [← HX.out.1.1, HQ0.out]; rfl, by rw [← HX.out.1.1, HQ0.out]; exact H7.out.1, H7.out.2⟩
  · have HS1 : Hid (∀ w', Calls Tryz.prog 46 #[.int .i64 e] w' fun e' w2 => e' = .returned (.int .i64 0) ∧ w2 = w') := hid (fun w' => by have := HSl.out w'; rwa [hpar] at this)
    clear HSl
    obtain rfl : f = F := by omega
    clear hFe
    by_cases hs1 : 1 < Jo.secs m
    · have hs1i : (1 : Int) < ((Jo.secs m : Nat) : Int) := by omega
      go_enter Tryz.func16, Tryz.ntmps16
      go_wp2_with fail
      refine HV.out.mono ?_
      rintro e1 w1 ⟨rfl, rfl⟩
      go_wp2_with fail
      refine (HE.out _).mono ?_
      rintro e2 w2 ⟨rfl, rfl⟩
      go_wp2_with fail
      refine (HP.out _).mono ?_
      rintro e3 w3 ⟨rfl, rfl⟩
      go_wp2_with fail
      refine (HS1.out _).mono ?_
      rintro e4 w4 ⟨rfl, rfl⟩
      go_wp2_with fail
      refine HSe.out.mono ?_
      rintro e5 w5 ⟨rfl, h5⟩
      have H5 := HK.out w5 h5.out.1 h5.out.2
      clear h5
      go_wp2_with fail
      refine (writes_N Z d s (f + 1) ((f : Int) + 1) (by omega) (by omega) (some ⟨w4.heap.size, 1, none⟩) (Jo.secs m - 1) (Jo.secs m - 1) (Jo.secsOf e 0 p).tail HX.out.2.1.1 (by omega) w5 H5.out.2.2.2.2 H5.out.2.2.1 H5.out.1).mono ?_
      rintro e6 w6 ⟨rfl, h6⟩
      obtain ⟨E, hE⟩ : ∃ E, E = (Jo.run s (f + 1) (Jo.secsOf e 0 p).tail).1 := ⟨_, rfl⟩
      obtain ⟨t, ht⟩ : ∃ t, t = (Jo.run s (f + 1) (Jo.secsOf e 0 p).tail).2 := ⟨_, rfl⟩
      rw [← ht] at h6
      have HQ := hid (save_eq s f e p E t (by rw [HX.out.2.2.2.2]; exact hs1) hE ht)
      have H6 := hid (And.intro h6.out.1 (And.intro (H5.out.2.2.2.1.trans h6.out.2) (H5.out.2.1.step h6.out.2)))
      have HZ6 : Hid (∀ k, Z k → k < w6.heap.size) := hid (fun k hk => Nat.lt_of_lt_of_le (H5.out.2.2.2.2 k hk) h6.out.2.size)
      rw [← hE]
      clear h6 H5 hE ht
      by_cases hE0 : E = 0
      · subst hE0
        have HQ0 := hid (HQ.out.1 rfl)
        clear HQ
        go_wp2_with fail
        refine (writes_N Z d t f (f : Int) rfl (by omega) (some ⟨w4.heap.size, 0, none⟩) (Jo.secs m) 1 [Jo.sec e 0 p 0] rfl (by omega) w6 HZ6.out H6.out.1 H6.out.2.2).mono ?_
        rintro e7 w7 ⟨rfl, h7⟩
        have H7 := hid (And.intro h7.out.1 (H6.out.2.1.trans h7.out.2))
        clear h7 H6
        go_wp2
        go_ret
        exact ⟨by rw [← HX.out.1.1, HQ0.out]; rfl, by rw [← HX.out.1.1, HQ0.out]; exact H7.out.1, H7.out.2⟩
      · have hEb : (E != 0) = true := by rw [bne_iff_ne]; exact hE0
        have HQ0 := hid (HQ.out.2 hE0)
        clear HQ hE0
        go_wp2
        go_ret
        exact ⟨by rw [← HX.out.1.1, HQ0.out]; rfl, by rw [← HX.out.1.1, HQ0.out]; exact H6.out.1, H6.out.2.1⟩
    · have hs1i : ¬ (1 : Int) < ((Jo.secs m : Nat) : Int) := by omega
      go_enter Tryz.func16, Tryz.ntmps16
      go_wp2_with fail
      refine HV.out.mono ?_
      rintro e1 w1 ⟨rfl, rfl⟩
      go_wp2_with fail
      refine (HE.out _).mono ?_
      rintro e2 w2 ⟨rfl, rfl⟩
      go_wp2_with fail
      refine (HP.out _).mono ?_
      rintro e3 w3 ⟨rfl, rfl⟩
      go_wp2_with fail
      refine (HS1.out _).mono ?_
      rintro e4 w4 ⟨rfl, rfl⟩
      go_wp2_with fail
      refine HSe.out.mono ?_
      rintro e5 w5 ⟨rfl, h5⟩
      have H5 := HK.out w5 h5.out.1 h5.out.2
      clear h5
      have HQ0 := hid (save_single s f e p (by rw [HX.out.2.2.2.2]; exact hs1))
      go_wp2_with fail
      refine (writes_N Z d s f (f : Int) rfl (by omega) (some ⟨w4.heap.size, 0, none⟩) (Jo.secs m) 1 [Jo.sec e 0 p 0] rfl (by omega) w5 H5.out.2.2.2.2 H5.out.2.2.1 H5.out.2.1).mono ?_
      rintro e7 w7 ⟨rfl, h7⟩
      have H7 := hid (And.intro h7.out.1 (H5.out.2.2.2.1.trans h7.out.2))
      clear h7 H5
      go_wp2
      go_ret
      exact ⟨by rw [← HX.out.1.1, HQ0.out]; rfl, by rw [← HX.out.1.1, HQ0.out]; exact H7.out.1, H7.out.2⟩
end C
end Go.Proofs.YtdgijnolpjaheaaGreat
