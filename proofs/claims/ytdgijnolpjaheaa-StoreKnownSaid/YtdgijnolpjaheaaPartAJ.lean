/- Texts of the proof, one behind the other: DiskD, DiskF, JoF. -/
import Derived.Test.YtdgijnolpjaheaaPartAC
import Derived.Deep.RegionHeld3
import Derived.Test.YtdgijnolpjaheaaPartAI
import Derived.Test.YtdgijnolpjaheaaPartAD
namespace Go.Proofs.Ytdgijnolpjaheaa
open Go.RowKit

/-- the sectors' row is written at one place -/
theorem DiskAt.rowSet {w w' : World} {Z : Nat → Prop} {d : Dk} {s : Sx.St} (h : DiskAt w Z d s) (k : Nat) (hk : k < s.n) (A : Option Addr) (c : Nat) (x : List Nat × Bool) (hx : x.1.length ≤ 64) (hA : OwnsZ w Z A c x.1)
    (hw : w' = (w.setCell ⟨d.h, k * 2, none⟩ (.slice A x.1.length c)).setCell ⟨d.h, k * 2 + 1, none⟩ (.bool x.2)) :
    DiskAt w' Z d { s with dur := Sx.upd s.dur k x } ∧ Turned (fun j => j = d.h) w w' := by
  have ht : Turned (fun j => j = d.h) w w' := by rw [hw]; exact Turned.two _ _ _ _ _ _
  refine ⟨?_, ht⟩
  obtain ⟨cur, h1, h2, h3⟩ := h.row
  have hz : ∀ A c l, OwnsZ w Z A c l → OwnsZ w' Z A c l := fun A c l hA => by
    refine (((hA.shunTag h1 ?_).keep (w' := w') (ht.mono (fun _ h => .inr h))).mono (fun _ h => .inl h))
    intro cur e
    have h3 := (Obj.cells.inj e).2.1
    revert h3; decide
  refine ⟨h.bound, h.off, h.left, (ht.block _ h.glt h.g_ne_h).trans h.disk, ?_, ?_⟩
  · refine ⟨(cur.setIfInBounds (k * 2) (.slice A x.1.length c)).setIfInBounds (k * 2 + 1) (.bool x.2), ?_, by simp [h2], fun i hi => ?_⟩
    · rw [hw]; simp [World.setCell, Array.getElem?_modify, h1]
    · simp only
      by_cases e : i = k
      · subst e
        rw [Sx.upd_same]
        have hi' : i < s.n := hi
        refine ⟨hx, A, c, ?_, ?_, hz _ _ _ hA⟩
        · rw [Array.getElem?_setIfInBounds_ne (by omega), Array.getElem?_setIfInBounds_self_of_lt (by omega)]
        · rw [Array.getElem?_setIfInBounds_self_of_lt (by simp; omega)]
      · rw [Sx.upd_other _ _ _ _ e]
        obtain ⟨h4, A', c', h5, h6, h7⟩ := h3 i hi
        refine ⟨h4, A', c', ?_, ?_, hz _ _ _ h7⟩
        · rw [Array.getElem?_setIfInBounds_ne (by omega), Array.getElem?_setIfInBounds_ne (by omega)]; exact h5
        · rw [Array.getElem?_setIfInBounds_ne (by omega), Array.getElem?_setIfInBounds_ne (by omega)]; exact h6
  · obtain ⟨f, ⟨es, clock, h4, h5⟩, h6⟩ := h.map
    exact ⟨f, ⟨es, clock, (ht.block _ (Array.getElem?_eq_some_iff.1 h4).1 h.h_ne_m.symm).trans h4, h5⟩, fun i hi' => (h6 i hi').imp hz⟩

set_option maxRecDepth 100000 in
theorem settle_any (Z : Nat → Prop) (d : Dk) (s : Sx.St) (k : Nat) (hk : k < s.n) (b : List Nat) (hc : s.cache k = some b) (fate : Int) (w : World) (h : DiskAt w Z d s) :
    Calls Try.prog 36 #[.pointer (some ⟨d.g, 0, none⟩), .int .i64 (k : Int), .int .i64 fate] w fun e w' => e = .returned (.tuple #[]) ∧ DiskAt w' Z d (Sx.settled s k fate) ∧ Turned d.has w w' := by
  obtain ⟨c0, c1, c2, c3, c4⟩ := h.cells
  have HB := hid h.bound
  obtain ⟨f, hown, hf⟩ := h.map
  have hfk := hf k hk
  rw [hc] at hfk
  have hkey : keyOf Try.prog 3 (.int .i64 (k : Int)) = some (.int .i64 (k : Int)) := Maps.keyOf_int_mk Try.underlying3 (WalkArith.wf_i64 (by have := HB.out; omega))
  have hlook := fun w' (hw' : w'.ownsMap Try.prog 3 Sx.valR d.m s.n (Sx.mapOf s.n f)) => World.ownsMap.lookup hw' (Maps.int_keyed Try.underlying3) Try.underlying64 (Try.zeroValue32 w') (zd := .held (.slice none 0 0)) (zp := []) rfl hkey
  rcases hfn : f k with _ | v
  · rw [hfn] at hfk; exact hfk.elim
  rw [hfn] at hfk
  obtain ⟨hlen, A, c, rfl, hA⟩ := hfk
  obtain ⟨_, _, _, s0, s1, _⟩ := h.sec hk
  have f0 := h.frozenH (k * 2)
  have f1 := h.frozenH (k * 2 + 1)
  have HH := hid h
  have hk0 : (k : Int) < s.n := by omega
  have hk00 : 0 ≤ (k : Int) := by omega
  by_cases h0 : fate = 0
  · subst h0
    have e : Sx.settled s k 0 = s := by
      have : Sx.settle1 (s.cache k) (s.dur k) 0 = s.dur k := by rw [hc]; rfl
      unfold Sx.settled
      rw [this]
      have : Sx.upd s.dur k (s.dur k) = s.dur := by funext j; unfold Sx.upd; split <;> simp [*]
      rw [this]
    rw [e]
    clear hlook hown hf hA h hc hlen
    go_enter Try.func36, Try.ntmps36
    go_wp2
    go_end0
    exact ⟨rfl, HH.out, Turned.refl _ _⟩
  · by_cases h1 : fate = 1
    · subst h1
      have e : Sx.settled s k 1 = { s with dur := Sx.upd s.dur k (b, false) } := by unfold Sx.settled; rw [hc]; rfl
      rw [e]
      have hrun : (Instr.lookup 64 (.map (some d.m)) (.int .i64 (k : Int)) false).run Try.prog w.drew = .ok (.slice A b.length c) w.drew := by
        obtain ⟨v, ps, hr, hv⟩ := hlook w.drew hown.drew
        rw [Sx.atKey_of _ _ _ hk, hfn] at hv
        have hv := DataW.held.inj (Prod.mk.inj (Option.some.inj hv)).1
        rw [hr, hv]; rfl
      have HR := hid (fun w' hw' => h.rowSet (w' := w') k hk A c (b, false) hlen hA hw')
      clear hlook hown hf hA h hc hlen
      go_enter Try.func36, Try.ntmps36
      go_wp2
      go_region
      go_wp2
      go_end0
      obtain ⟨h2, h3⟩ := HR.out _ rfl
      exact ⟨rfl, h2.drew, h3.drew.mono (fun _ h => .inr (.inl h))⟩
    · have e : Sx.settled s k fate = { s with dur := Sx.upd s.dur k ([], true) } := by unfold Sx.settled; rw [hc]; simp [Sx.settle1, h0, h1]
      rw [e]
      have HR := hid (fun w' hw' => h.rowSet (w' := w') k hk none 0 ([], true) (by simp) (OwnsZ.nil _ _) hw')
      clear hlook hown hf hA h hc hlen
      go_enter Try.func36, Try.ntmps36
      go_wp2
      go_end0
      obtain ⟨h2, h3⟩ := HR.out _ rfl
      exact ⟨rfl, h2, h3.mono (fun _ h => .inr (.inl h))⟩
end Go.Proofs.Ytdgijnolpjaheaa
namespace Go.Proofs.Ytdgijnolpjaheaa
open Go.RowKit

set_option maxRecDepth 100000 in
/-- the cache is emptied -/
theorem DiskAt.clear_ {w : World} {Z : Nat → Prop} {d : Dk} {s : Sx.St} (h : DiskAt w Z d s) :
    ∃ w', (∀ ty, (Builtin.clear_ #[64] ty #[.map (some d.m)]).run Try.prog w = .ok (.tuple #[]) w') ∧ DiskAt w' Z d { s with cache := fun _ => none } ∧ Turned (fun j => j = d.m) w w' := by
  obtain ⟨f, ⟨es, clock, hb, F, hs, hD⟩, hf⟩ := h.map
  have hbd := h.bound
  have ht : Turned (fun j => j = d.m) w (ChangeMaps.setBlock w d.m (.map #[] clock)) :=
    ⟨rfl, rfl, rfl, by simp [ChangeMaps.setBlock], fun k _ hne => ChangeMaps.heap_setBlock_other hb _ hne⟩
  have hz : ∀ A c l, OwnsZ w Z A c l → OwnsZ (ChangeMaps.setBlock w d.m (.map #[] clock)) Z A c l := fun A c l hA => by
    refine (((hA.shunTag hb ?_).keep (ht.mono (fun _ h => .inr h))).mono (fun _ h => .inl h))
    intro cur e
    cases e
  refine ⟨ChangeMaps.setBlock w d.m (.map #[] clock), fun ty => ?_, ⟨hbd, h.off, h.left, (ht.block _ h.glt h.g_ne_m).trans h.disk, ?_, ?_⟩, ht⟩
  · simp [Builtin.clear_, run_underlying Try.underlying64, MapKept.run_getObj_map hb, MapKept.run_setObj_map _ hb, Result.andThen, ChangeMaps.setBlock]
  · obtain ⟨cur, h1, h2, h3⟩ := h.row
    refine ⟨cur, (ht.block _ h.hlt h.h_ne_m).trans h1, h2, fun i hi' => ?_⟩
    obtain ⟨h4, A, c, h5, h6, h7⟩ := h3 i hi'
    exact ⟨h4, A, c, h5, h6, hz _ _ _ h7⟩
  · refine ⟨fun _ => none, ⟨#[], clock, ChangeMaps.heap_setBlock_same hb _, ⟨by simp, MapKept.stamped_empty clock, by simp⟩, by simp, ?_⟩, fun i _ => trivial⟩
    unfold Sx.mapOf
    rw [Sx.ents_none]
    rfl
/-- what was told of the dirty sectors, read again -/
theorem dirty_cells {w w' : World} {d : Dk} {base : Nat} {A : Option Addr} {c : Nat} {ds : List Nat} (h : OwnsI 3 w base A c (ds.map fun (i : Nat) => (i : Int))) (hd : ∀ k, d.has k → k < base) (ht : Turned d.has w w') (k : Nat) (hk : k < ds.length) :
    ∃ g, A = some ⟨g, 0, none⟩ ∧ w'.cell? ⟨g, k, none⟩ = some (.int .i64 (ds[k] : Nat)) := by
  obtain ⟨g, hA, hb, hlt, hc, _⟩ := h.at_ (k := k) (by simpa using hk)
  refine ⟨g, hA, ?_⟩
  rw [ht.cell hlt (fun e => by have := hd g e; omega), hc]
  simp

set_option maxRecDepth 100000 in
theorem flush_any (Z : Nat → Prop) (d : Dk) (s : Sx.St) (w : World) (h : DiskAt w Z d s) :
    Calls Try.prog 51 #[.pointer (some ⟨d.g, 0, none⟩)] w fun e w' => e = .returned (.int .i64 (Sx.spE s)) ∧ DiskAt w' Z d (Sx.flS s) ∧ Turned d.has w w' := by
  have HS := hid (spend_any Z d s w h)
  by_cases h0 : s.dead = false ∧ s.down = false
  · have e0 : Sx.spE s = 0 := by simp [Sx.spE, h0.1, h0.2]
    have e0' : Sx.spS s = s.spent := by simp [Sx.spS, h0.1, h0.2]
    have e1 : Sx.flS s = { s.spent with dur := fun i => Sx.settle1 (s.cache i) (s.dur i) 1, cache := fun _ => none } := by simp [Sx.flS, h0.1, h0.2]
    rw [e0, e0'] at HS
    rw [e0, e1]
    clear e0 e0' e1 h0 h
    go_enter Try.func51, Try.ntmps51
    go_wp2_with fail
    refine HS.out.mono ?_
    rintro e w1 ⟨rfl, hD1, ht1⟩
    have HD := hid (dirty_any Z d s.spent w1 hD1)
    have HD1 := hid (And.intro hD1 ht1)
    clear hD1 ht1 HS
    go_wp2_with fail
    refine HD.out.mono ?_
    rintro e w2 ⟨A, c, rfl, hI, hb2⟩
    have hD2 : DiskAt w2 Z d (Sx.part s.spent (fun _ => 1) 0) := by rw [Sx.part_zero]; exact HD1.out.1.below hb2
    have hlt : ∀ k, d.has k → k < w1.heap.size := HD1.out.1.lt
    have ht2 : Turned d.has w w2 := HD1.out.2.then_ (Turned.ofBelow d.has hb2) (fun _ _ h => h)
    have HI := hid (fun w' ht k hk => dirty_cells (w' := w') hI hlt ht k hk)
    have hn := Sx.dirtyTo_length s.cache s.n
    have hbn := HD1.out.1.bound
    have hln : (Sx.dirty s.spent).length ≤ 16384 := by
      have : (Sx.dirty s.spent).length ≤ s.spent.n := Sx.dirtyTo_length s.spent.cache s.spent.n
      omega
    have HS2 := hid (And.intro hD2 ht2)
    clear hI hb2 hD2 hlt ht2 HD HD1 hn hbn
    go_wp2_with fail
    go_loopw [14] (fun i wr => ∃ k : Nat, k ≤ (Sx.dirty s.spent).length ∧ i = .int .i64 k ∧ Hid (DiskAt wr Z d (Sx.part s.spent (fun _ => 1) k) ∧ Turned d.has w wr) ∧ Hid (Turned d.has w2 wr)) (fun i _ => (Sx.dirty s.spent).length - (RowKit.intOf i).toNat)
    case atStart => exact ⟨0, by omega, rfl, HS2, hid (Turned.refl _ _)⟩
    case round =>
      clear HS2
      obtain ⟨k, hk, rfl, hS, hT⟩ := hrel
      by_cases hlt : k < (Sx.dirty s.spent).length
      · obtain ⟨g, hA, hcell⟩ := HI.out wr hT.out k hlt
        subst hA
        obtain ⟨hlk, b, hb⟩ := Sx.dirty_lt s.spent k hlt
        have HC := hid (settle_any Z d (Sx.part s.spent (fun _ => 1) k) (Sx.dirty s.spent)[k] hlk b hb 1 wr hS.out.1)
        rw [Sx.part_step s.spent (fun _ => 1) k hlt] at HC
        have hk0 : (k : Int) < ((Sx.dirty s.spent).length : Int) := by omega
        clear hlk hb
        go_wp2_with fail
        refine HC.out.mono ?_
        rintro e w3 ⟨rfl, hD3, ht3⟩
        have H3 := hid (And.intro hD3 ht3)
        clear hD3 ht3
        go_wp2_with fail
        go_roundw
        case rel => exact ⟨k + 1, by omega, by go_num, hid ⟨H3.out.1, hS.out.2.trans H3.out.2⟩, hid (hT.out.trans H3.out.2)⟩
        case measure => simp [RowKit.intOf]; omega
      · obtain rfl : k = (Sx.dirty s.spent).length := by omega
        obtain ⟨w4, hcl, hD4, ht4⟩ := hS.out.1.clear_
        obtain ⟨c0, c1, c2, c3, c4⟩ := hS.out.1.cells
        have H4 := hid (And.intro hD4 ht4)
        clear hD4 ht4 hk c0 c2 c3 c4
        go_wp2_with fail
        go_ret
        refine ⟨rfl, H4.out.1.congr rfl (fun i hi => ?_) (fun _ _ => rfl) rfl rfl rfl, hS.out.2.then_ H4.out.2 (fun _ _ h => .inr (.inr h))⟩
        exact (Sx.part_end s.spent (fun _ => 1) i hi).symm
  · have e0 : Sx.spE s = 10 := by
      unfold Sx.spE
      cases hd : s.dead <;> cases ho : s.down <;> simp_all
    have e1 : Sx.flS s = Sx.spS s := by
      unfold Sx.flS Sx.spS
      cases hd : s.dead <;> cases ho : s.down <;> simp_all
    rw [e0] at HS
    rw [e0, e1]
    clear e0 e1 h0 h
    go_enter Try.func51, Try.ntmps51
    go_wp2_with fail
    refine HS.out.mono ?_
    rintro e w1 ⟨rfl, hD1, ht1⟩
    go_wp2
    go_ret
    exact ⟨rfl, hD1, ht1⟩
end Go.Proofs.Ytdgijnolpjaheaa
namespace Go.Proofs.Ytdgijnolpjaheaa
open Go.RowKit

attribute [local go_sem] Oper.semAt_some

theorem bytes_turned {w w' : World} {S : Nat → Prop} {A : Option Addr} {l : List Nat} (h : IsBytes w w.heap.size A l) (hA : l ≠ [] → ∀ a, A = some a → ¬ S a.block) (ht : Turned S w w') : IsBytes w' w'.heap.size A l := by
  refine ⟨h.small, fun k hk => ?_⟩
  obtain ⟨b, off, e, hb, hc⟩ := h.cells k hk
  refine ⟨b, off, e, Nat.lt_of_lt_of_le hb ht.size, fun i hi => ?_⟩
  rw [ht.cell (p := ⟨b, off + i, none⟩) hb (hA (by rintro rfl; simp at hk) ⟨b, off, none⟩ e)]
  exact hc i hi
/-- a block that is no cells turns -/
theorem OwnsZ.others {w w' : World} {Z : Nat → Prop} {A : Option Addr} {c : Nat} {l : List Nat} {row : Option Nat} (h : OwnsZ w Z A c l) (hg : w.grownBy w' row) (hr : ∀ r, row = some r → ∃ o : Obj, w.heap[r]? = some o ∧ o.isCells = false) : OwnsZ w' Z A c l := by
  refine ⟨⟨h.own.small, h.own.row.1, ?_⟩, h.off⟩
  rcases h.own.row.2 with h0 | ⟨g, cap, cur, h1, h2, h3, h4⟩
  · exact .inl h0
  · refine .inr ⟨g, cap, cur, h1, h2, ?_, h4⟩
    rw [hg.block g (Array.getElem?_eq_some_iff.1 h3).1 (fun e => by
      obtain ⟨o, ho, hc⟩ := hr g e.symm
      rw [h3] at ho; cases ho; cases hc)]
    exact h3
theorem DiskAt.others {w w' : World} {Z : Nat → Prop} {d : Dk} {s : Sx.St} {row : Option Nat} {B : Nat} (h : DiskAt w Z d s) (hd : ∀ k, d.has k → k < B) (hg : w.grownBy w' row) (hr : ∀ r, row = some r → B ≤ r ∧ ∃ o : Obj, w.heap[r]? = some o ∧ o.isCells = false) : DiskAt w' Z d s :=
  h.imp (fun k hk => hg.block k (h.lt k hk) (fun e => by have := (hr k e.symm).1; have := hd k hk; omega)) h.off (fun A c l hA => hA.others hg (fun r e => (hr r e).2))
theorem DiskAt.elsewhere {w w' : World} {Z : Nat → Prop} {d : Dk} {s : Sx.St} (h : DiskAt w Z d s) {g : Nat} {cs : Array Value} {t : TypeId} (hg : w.heap[g]? = some (.cells cs t (0, 0))) (ho : t ≠ 5) (hn : ¬ d.has g) (ht : Turned (fun k => k = g) w w') : DiskAt w' Z d s :=
  h.imp (fun k hk => ht.block k (h.lt k hk) (fun e => by subst e; exact hn hk)) h.off (fun A c l hA => ((hA.shunTag hg (fun cur e => ho (Obj.cells.inj e).2.1)).keep (w' := w') (ht.mono (fun _ h => .inr h))).mono (fun _ h => .inl h))
theorem Turned.others {a b c : World} {S : Nat → Prop} {row : Option Nat} {B : Nat} (h : Turned S a b) (hB : a.heap.size ≤ B) (hg : b.grownBy c row) (hr : ∀ r, row = some r → B ≤ r) : Turned S a c :=
  h.then_ (S' := fun k => row = some k) (Turned.ofGrown hg (fun k e => e)) (fun k hk e => by have := hr k e; omega)

theorem JAt.set2 {w : World} {g : Nat} {j : Jn} (h : JAt w g j) (v : Int) : JAt (w.setCell ⟨g, 2, none⟩ (.int .i64 v)) g { j with nx := v } := by
  have h' : w.heap[g]? = _ := h
  unfold JAt
  simp [World.setCell, Array.getElem?_modify, h']
theorem JAt.set3 {w : World} {g : Nat} {j : Jn} (h : JAt w g j) (v : Int) : JAt (w.setCell ⟨g, 3, none⟩ (.int .i64 v)) g { j with rm := v } := by
  have h' : w.heap[g]? = _ := h
  unfold JAt
  simp [World.setCell, Array.getElem?_modify, h']
theorem JAt.set4 {w : World} {g : Nat} {j : Jn} (h : JAt w g j) (v : Int) : JAt (w.setCell ⟨g, 4, none⟩ (.int .i64 v)) g { j with ct := v } := by
  have h' : w.heap[g]? = _ := h
  unfold JAt
  simp [World.setCell, Array.getElem?_modify, h']
theorem JAt.disk {w : World} {g : Nat} {j : Jn} (h : JAt w g j) {Z : Nat → Prop} {d : Dk} {s : Sx.St} (hd : DiskAt w Z d s) (k : Nat) (v : Value) : DiskAt (w.setCell ⟨g, k, none⟩ v) Z d s :=
  hd.elsewhere h (by decide) (h.not_disk hd) (Turned.one _ _ _ _)
theorem keepsFrom_turned {W W' : World} {B : Nat} (h : Turned (fun k => k < B) W W') : KeepsFrom B W W' :=
  ⟨h.size, fun k o hB hk _ => (h.block k (Array.getElem?_eq_some_iff.1 hk).1 (by omega)).trans hk⟩
namespace J
theorem piece_is {W : World} {B : Nat} {A : Option Addr} {l : List Nat} {n c : Nat} (h : IsBytes W B A l) (hn : l.length = n) (hz : A = none → c = 0) (i : Nat) :
    ∃ A', pieceV A n c i = .slice A' (min 40 (n - 40 * i)) (c - 40 * i) ∧ IsBytes W B A' (Jo.piece l i) ∧ (A' = none → c - 40 * i = 0) := by
  rcases A with _ | a
  · exact ⟨none, rfl, by rw [h.of_none]; unfold Jo.piece; simp; exact IsBytes.nil, fun _ => by rw [hz rfl]; omega⟩
  · refine ⟨some ⟨a.block, a.off + 40 * i, a.spot⟩, rfl, ?_, fun h => by cases h⟩
    rcases l with _ | ⟨x, l⟩
    · unfold Jo.piece; simp; exact IsBytes.nil
    · obtain ⟨b, off, e, _, _⟩ := h.cells 0 (by simp)
      injection e with e
      subst e
      exact (h.from (40 * i)).take 40

/-- what the variables of Append hold, amid the loop -/
structure Vs (w W : World) (d : Dk) (g : Nat) (nx rv : Int) : Prop where
  turned : Turned d.has w W
  jb : W.heap[w.heap.size]? = some (.cells #[.pointer (some ⟨g, 0, none⟩)] 58 (0, 0))
  rb : W.heap[w.heap.size + 1]? = some (.cells #[.int .i64 rv] 29 (0, 0))
  nb : W.heap[w.heap.size + 1 + 1]? = some (.cells #[.int .i64 nx] 3 (0, 0))
namespace Vs
variable {w W W' : World} {d : Dk} {g : Nat} {nx rv : Int}
theorem cells (h : Vs w W d g nx rv) : W.cell? ⟨w.heap.size, 0, none⟩ = some (.pointer (some ⟨g, 0, none⟩)) ∧ W.cell? ⟨w.heap.size + 1, 0, none⟩ = some (.int .i64 rv) ∧ W.frozen? ⟨w.heap.size + 1, 0, none⟩ = false ∧
    W.cell? ⟨w.heap.size + 1 + 1, 0, none⟩ = some (.int .i64 nx) ∧ W.frozen? ⟨w.heap.size + 1 + 1, 0, none⟩ = false := by
  simp [World.cell?, World.frozen?, h.jb, h.rb, h.nb]
theorem lt (h : Vs w W d g nx rv) : w.heap.size + 1 + 1 < W.heap.size := (Array.getElem?_eq_some_iff.1 h.nb).1
theorem others {row : Option Nat} {B : Nat} (h : Vs w W d g nx rv) (hB : w.heap.size + 1 + 1 < B) (hg : W.grownBy W' row) (hr : ∀ r, row = some r → B ≤ r) : Vs w W' d g nx rv := by
  have hk : ∀ k, k < B → k < W.heap.size → W'.heap[k]? = W.heap[k]? := fun k h1 h2 => hg.block k h2 (fun e => by have := hr k e.symm; omega)
  have hl := h.lt
  exact ⟨h.turned.others (by omega) hg hr, (hk _ (by omega) (by omega)).trans h.jb, (hk _ (by omega) (by omega)).trans h.rb, (hk _ (by omega) (by omega)).trans h.nb⟩
theorem below (h : Vs w W d g nx rv) (hb : Below W.heap.size W W') : Vs w W' d g nx rv := by
  have hl := h.lt
  exact ⟨h.turned.trans (Turned.ofBelow _ hb), (hb.block _ (by omega)).trans h.jb, (hb.block _ (by omega)).trans h.rb, (hb.block _ (by omega)).trans h.nb⟩
theorem disk (h : Vs w W d g nx rv) (hd : ∀ k, d.has k → k < w.heap.size) (ht : Turned d.has W W') : Vs w W' d g nx rv := by
  have hl := h.lt
  have hk : ∀ k, w.heap.size ≤ k → k < W.heap.size → W'.heap[k]? = W.heap[k]? := fun k h1 h2 => ht.block k h2 (fun e => by have := hd k e; omega)
  exact ⟨h.turned.trans ht, (hk _ (by omega) (by omega)).trans h.jb, (hk _ (by omega) (by omega)).trans h.rb, (hk _ (by omega) (by omega)).trans h.nb⟩
theorem next (h : Vs w W d g nx rv) (nx' : Int) : Vs w (W.setCell ⟨w.heap.size + 1 + 1, 0, none⟩ (.int .i64 nx')) d g nx' rv := by
  have hl := h.lt
  have hs := Below.heap_setCell W ⟨w.heap.size + 1 + 1, 0, none⟩ (.int .i64 nx')
  refine ⟨h.turned.setCell _ _ _ (fun e => by omega), (hs _ (by show w.heap.size ≠ _ + 1; omega)).trans h.jb, (hs _ (by show w.heap.size + 1 ≠ _ + 1 + 1; omega)).trans h.rb, ?_⟩
  simp [World.setCell, Array.getElem?_modify, h.nb]
theorem res (h : Vs w W d g nx rv) (rv' : Int) : Vs w (W.setCell ⟨w.heap.size + 1, 0, none⟩ (.int .i64 rv')) d g nx rv' := by
  have hl := h.lt
  have hs := Below.heap_setCell W ⟨w.heap.size + 1, 0, none⟩ (.int .i64 rv')
  refine ⟨h.turned.setCell _ _ _ (fun e => by omega), (hs _ (by show w.heap.size ≠ _ + 1; omega)).trans h.jb, ?_, (hs _ (by show w.heap.size + 1 + 1 ≠ w.heap.size + 1; omega)).trans h.nb⟩
  simp [World.setCell, Array.getElem?_modify, h.rb]
theorem jn (h : Vs w W d g nx rv) {j : Jn} (hj : JAt w g j) (hn : ¬ d.has g) : JAt W g j := hj.keep h.turned hn
end Vs
end J
end Go.Proofs.Ytdgijnolpjaheaa
