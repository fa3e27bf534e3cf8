/- Texts of the proof, one behind the other: SpoilEn, MsKit, ImRows, VoI, CopyInts, KitIntN, KitConf, ImRd3, ImRdA, ImRdB, ImRdC, ImRdD, ImRdE, ImRdF, ImRdG, RegInv, ImReg, ImRdH0, ImRdH, ImRdJ, ImRdI, ImRdK, ImRdL, KitHard, ImSet, ImOwnE, ImEachE, ImEach2, RegCalls, ImOwnHard, ImChg, ImChg3, ImCmp, ImOr, ImAsc, ImBsH, ImOwnH, ImPlH, ImAscV, ImBsV, ImOwnV, ImPlV, ImEachH, ImOwnIm, ImApply, ImApplyB, ImRdM, QuB, QuD, ImGet, PackPut, ImPutA, ImPutB, ImPutC, ImPutD, ImPutE, ImPutF, ImPutG, ImPutH, ImPutI, ImFirst, ImKnown, ImFew, ImInD, Spoil, ImSpoil, VoM, FlA. -/
import Derived.Test.YtkmbkihfdilmbaaFlowSendsPartAA
import Derived.Test.YtkmbkihfdilmbaaFlowSendsPartAB
import Derived.Laws.AppendOwnNone
import Derived.Lib.AppendZeros
import Derived.StillTailTactics
import Derived.Deep.RegionHeld3
import Derived.Deep.Upon
import Derived.Deep.CutRange
import Derived.Deep.RegionWith
import Derived.Great.BuildSlice
import Derived.Shelf.Abstract
import Derived.Test.YtkmbkihfdilmbaaRows
namespace Go.Proofs.Ytkmbkihfdilmbaa
open Go.RowKit
def deadE (_ : El) : El := ⟨⟨-77, 0, []⟩, none, 0⟩
structure BytesE (w : World) (F : Nat → Prop) (L : List El) : Prop where
  own : ∀ q ∈ L, OwnsB 5 w 0 q.A q.c q.e.d ∧ ∀ k, blk q.A = some k → F k
  apart : Apart (L.map fun q => blk q.A)
theorem BytesE.keep {w w' : World} {F S : Nat → Prop} {L : List El} (h : BytesE w F L) (ht : Turned S w w') (hd : ∀ q ∈ L, ∀ k, blk q.A = some k → ¬ S k) : BytesE w' F L :=
  ⟨fun q hq => ⟨(h.own q hq).1.turned ht (hd q hq), (h.own q hq).2⟩, h.apart⟩
def halfE (L : List El) (k : Nat) : List El := (L.take k).map deadE ++ L.drop k
theorem halfE_length (L : List El) (k : Nat) (h : k ≤ L.length) : (halfE L k).length = L.length := by unfold halfE; rw [List.length_append, List.length_map, List.length_take, List.length_drop]; omega
theorem halfE_get (L : List El) (k : Nat) (h : k < L.length) : (halfE L k)[k]'(by rw [halfE_length L k (by omega)]; exact h) = L[k] := by
  have : (halfE L k)[k]? = some L[k] := by
    unfold halfE
    rw [List.getElem?_append_right (by rw [List.length_map, List.length_take]; omega), List.length_map, List.length_take, List.getElem?_drop, show k + (k - min k L.length) = k by omega, List.getElem?_eq_getElem h]
  rw [List.getElem?_eq_getElem (by rw [halfE_length L k (by omega)]; exact h)] at this
  exact Option.some.inj this
theorem halfE_set (L : List El) (k : Nat) (h : k < L.length) : (halfE L k).set k (deadE L[k]) = halfE L (k + 1) := by
  unfold halfE
  have hl : ((L.take k).map deadE).length = k := by rw [List.length_map, List.length_take]; omega
  rw [List.set_append_right _ _ (by omega), hl, Nat.sub_self, List.drop_eq_getElem_cons h, List.set_cons_zero, List.take_succ_eq_append_getElem h, List.map_append, List.append_assoc]
  rfl
structure SpToE (w wr : World) (F : Nat → Prop) (A : Option Addr) (c : Nat) (L : List El) (k : Nat) : Prop where
  row : RowIn cellsE 3 64 wr F A c (halfE L k)
  byt : BytesE wr F (L.drop k)
  tur : Turned F w wr
set_option maxHeartbeats 1600000 in
set_option maxRecDepth 100000 in
theorem spoilEs_any (F : Nat → Prop) (A : Option Addr) (c : Nat) (L : List El) (hL : L.length ≤ 100000) (w : World) (h : RowIn cellsE 3 64 w F A c L) (hb : BytesE w F L) :
    Calls Try.prog 58 #[.slice A L.length c] w fun e w' => e = .returned (.tuple #[]) ∧ Turned F w w' := by
  have H0 : Hid (SpToE w w F A c L 0) := hid ⟨by unfold halfE; simpa using h, by simpa using hb, Turned.refl _ _⟩
  clear h hb
  go_enter Try.func58, Try.ntmps58
  go_wp2_with fail
  go_loopw [2] (fun i wr => ∃ k : Nat, k ≤ L.length ∧ i = .int .i64 k ∧ Hid (SpToE w wr F A c L k)) (fun i _ => L.length - (RowKit.intOf i).toNat)
  case atStart => exact ⟨0, by omega, rfl, H0⟩
  case round =>
    clear H0
    obtain ⟨k, hk, rfl, hS⟩ := hrel
    by_cases hlt : k < L.length
    · have hlt' : k < (halfE L k).length := by rw [halfE_length L k hk]; exact hlt
      obtain ⟨g, rfl, hg, hFg, hc, hf⟩ := hS.out.row.get k hlt'
      rw [halfE_get L k hlt] at hc
      have c2 : wr.cell? ⟨g, k * 3 + 2, none⟩ = some (.slice L[k].A L[k].e.d.length L[k].c) := hc 2 (by omega)
      have hk0 : (k : Int) < (L.length : Int) := by omega
      have hdk : L.drop k = L[k] :: L.drop (k + 1) := List.drop_eq_getElem_cons hlt
      have hmem : L[k] ∈ L.drop k := by rw [hdk]; exact List.mem_cons_self
      have ho := hS.out.byt.own L[k] hmem
      have HSp := hid (spoil_N 0 L[k].A L[k].c L[k].e.d L[k].e.d.length rfl (Nat.le_trans ho.1.room.1 ho.1.room.2) wr ho.1)
      have HI := hid (And.intro ho (And.intro hdk (And.intro hlt' (And.intro hg (And.intro hFg hf)))))
      have cc : Hid (∀ j, j < 3 → wr.cell? ⟨g, k * 3 + j, none⟩ = (cellsE L[k])[j]?) := hid hc
      clear hc hf ho hdk hmem hlt' hFg
      go_wp2_with fail
      refine HSp.out.mono ?_
      rintro e w2 ⟨rfl, hg2⟩
      obtain ⟨ho, hdk, hlt', hg', hFg, hf⟩ := HI.out
      have T2 : Turned (fun j => blk L[k].A = some j) wr w2 := Turned.ofGrown hg2 (fun j hj => hj)
      have hnb : ¬ blk L[k].A = some g := fun e => by
        obtain ⟨cur, hcur⟩ := hS.out.row.tag (k := g) rfl
        exact ho.1.ne hcur (by decide) e
      have r2 := hS.out.row.keep T2 (fun j hj e => hnb (by have hj : g = j := (by injection hj); rw [hj]; exact e))
      have d0 : w2.cell? ⟨g, k * 3, none⟩ = some (.int .i64 L[k].e.t) := (T2.cell (p := ⟨g, k * 3, none⟩) hg' hnb).trans (cc.out 0 (by omega))
      have d1 : w2.cell? ⟨g, k * 3 + 1, none⟩ = some (.int .i64 L[k].e.k) := (T2.cell (p := ⟨g, k * 3 + 1, none⟩) hg' hnb).trans (cc.out 1 (by omega))
      have d2 : w2.cell? ⟨g, k * 3 + 2, none⟩ = some (.slice L[k].A L[k].e.d.length L[k].c) := (T2.cell (p := ⟨g, k * 3 + 2, none⟩) hg' hnb).trans (cc.out 2 (by omega))
      have f2 : ∀ j, w2.frozen? ⟨g, j, none⟩ = false := fun j => (World.frozen?_of_block (a := ⟨g, j, none⟩) (T2.block g hg' hnb)).trans (hf j)
      have hget := halfE_get L k hlt
      have p1 := r2.put rfl k 0 hlt' (by omega) (.int .i64 (-77)) ⟨⟨-77, L[k].e.k, L[k].e.d⟩, L[k].A, L[k].c⟩ (by rw [hget]; rfl)
      have p2 := p1.put rfl k 1 (by rw [List.length_set]; exact hlt') (by omega) (.int .i64 0) ⟨⟨-77, 0, L[k].e.d⟩, L[k].A, L[k].c⟩ (by rw [List.getElem_set_self]; rfl)
      have p3 := p2.put rfl k 2 (by rw [List.length_set, List.length_set]; exact hlt') (by omega) (.slice none 0 0) (deadE L[k]) (by rw [List.getElem_set_self]; rfl)
      rw [List.set_set, List.set_set, halfE_set L k hlt, Nat.add_zero] at p3
      have T3 := Turned.three w2 g (k * 3) (k * 3 + 1) (k * 3 + 2) (.int .i64 (-77)) (.int .i64 0) (.slice none 0 0)
      have HS : Hid (SpToE w (((w2.setCell ⟨g, k * 3, none⟩ (.int .i64 (-77))).setCell ⟨g, k * 3 + 1, none⟩ (.int .i64 0)).setCell ⟨g, k * 3 + 2, none⟩ (.slice none 0 0)) F (some ⟨g, 0, none⟩) c L (k + 1)) := hid (by
        refine ⟨p3, ?_, (hS.out.tur.then_ T2 (fun j _ hj => ho.2 j hj)).then_ T3 (fun j _ hj => by rw [hj]; exact hFg)⟩
        have hb := hS.out.byt
        rw [hdk] at hb
        have hown := hb.own
        have hap := hb.apart
        unfold Apart at hap
        rw [List.map_cons, List.pairwise_cons] at hap
        have hb2 : BytesE wr F (L.drop (k + 1)) := ⟨fun q hq => hown q (List.mem_cons_of_mem _ hq), hap.2⟩
        have hb3 := hb2.keep T2 (fun q hq j hj e => hap.1 _ (List.mem_map.2 ⟨q, hq, rfl⟩) j e hj)
        refine hb3.keep T3 (fun q hq j hj e => ?_)
        obtain ⟨cur, hcur⟩ := r2.tag (k := g) rfl
        exact (hb3.own q hq).1.ne hcur (by decide) (by rw [hj, e]))
      clear p1 p2 p3 T3 T2 hg2 r2 hget cc HI HSp hS c2 hnb ho hdk hf hg' hlt' hFg
      go_wp2_with fail
      go_roundw
      case rel => exact ⟨k + 1, by omega, by go_num, HS⟩
      case measure => simp [RowKit.intOf]; omega
    · obtain rfl : k = L.length := by omega
      have hkk : ¬ (L.length : Int) < (L.length : Int) := by omega
      go_wp2_with fail
      go_end0
      exact ⟨rfl, hS.out.tur⟩
theorem spoilE_any (B N : Nat) (A : Option Addr) (c n : Nat) (L : List Rl.En) (hn : L.length = n) (hL : n ≤ 100000) (w : World) (h : OwnE w B N A c L) :
    Calls Try.prog 58 #[.slice A n c] w fun e w' => e = .returned (.tuple #[]) ∧ Turned (Bl B N) w w' := by
  obtain ⟨M, h1, h2⟩ := h
  have e : n = M.length := by rw [← hn, ← h1, List.length_map]
  rw [e]
  exact spoilEs_any (Bl B N) A c M (by omega) w h2.row ⟨h2.own, h2.apart⟩
end Go.Proofs.Ytkmbkihfdilmbaa
namespace Go.Proofs.Ytkmbkihfdilmbaa.Ms
open Go.RowKit
set_option maxRecDepth 100000
set_option linter.unusedVariables false
attribute [local go_sem ↓] loadAt_msg storeAt_msg
theorem two_cells (w : World) (x y : Array Value) (t : TypeId) (i : Nat) : ((w.alloc (.cells x t)).alloc (.cells y t)).cell? ⟨w.heap.size, i, none⟩ = x[i]? ∧ ((w.alloc (.cells x t)).alloc (.cells y t)).cell? ⟨w.heap.size + 1, i, none⟩ = y[i]? := by
  refine ⟨(World.cell?_alloc_past _ _ _ (by simp)).trans (cell_of_row _ w.heap.size i _ _ (0, 0) (heap_alloc_new w _)), ?_⟩
  have h1 := heap_alloc_new (w.alloc (.cells x t)) (.cells y t)
  rw [World.size_alloc] at h1
  exact cell_of_row _ (w.heap.size + 1) i _ _ (0, 0) h1
theorem diff {m m' : M} (h : m ≠ m') : Ending.returned (.bool false) = .returned (.bool (decide (m = m'))) := by
  rw [decide_eq_false h]
set_option maxHeartbeats 6400000 in
theorem same_any (m m' : M) (A : Option Addr) (c : Nat) (A' : Option Addr) (c' : Nat) (A2 : Option Addr) (c2 : Nat) (A3 : Option Addr) (c3 : Nat) (w : World) (h : IsEnts w w.heap.size A m.es) (h' : IsEnts w w.heap.size A2 m'.es) (g : IsBytes w w.heap.size A' m.d) (g' : IsBytes w w.heap.size A3 m'.d) (hs : Small m) (hs' : Small m') :
    Calls Try.prog 27 #[.agg #[.int .i64 m.K, .int .i64 m.F, .int .i64 m.T, .int .i64 m.g, .int .i64 m.t, .int .i64 m.i, .int .i64 m.p, .int .i64 m.c, .int .i64 m.r, .int .i64 m.x, .int .i64 m.a, .int .i64 m.b, .int .i64 m.v, .int .i64 m.s, .bool m.ok, .slice A m.es.length c, .slice A' m.d.length c'], .agg #[.int .i64 m'.K, .int .i64 m'.F, .int .i64 m'.T, .int .i64 m'.g, .int .i64 m'.t, .int .i64 m'.i, .int .i64 m'.p, .int .i64 m'.c, .int .i64 m'.r, .int .i64 m'.x, .int .i64 m'.a, .int .i64 m'.b, .int .i64 m'.v, .int .i64 m'.s, .bool m'.ok, .slice A2 m'.es.length c2, .slice A3 m'.d.length c3]] w fun e w' => e = .returned (.bool (decide (m = m'))) ∧ Below w.heap.size w w' := by
  have HB : Hid (∀ x y : Array Value, Below w.heap.size w ((w.alloc (.cells x 31)).alloc (.cells y 31))) := hid fun x y => ((Below.refl _ w).alloc (Nat.le_refl _) _).alloc (by simp) _
  have HE := hid fun (wz : World) (hb : Below w.heap.size w wz) => ents_same A A2 c c2 _ _ m.es m'.es rfl rfl hs.es wz ((h.below hb).more hb.size) ((h'.below hb).more hb.size)
  have HS := hid fun (wz : World) (hb : Below w.heap.size w wz) => same_N w.heap.size w.heap.size A' A3 c' c3 m.d m'.d _ _ rfl rfl (by have := hs.d; unfold maxLen; omega) (by have := hs'.d; unfold maxLen; omega) wz (g.below hb) (g'.below hb)
  clear h h' g g' hs hs'
  go_enter Try.func27, Try.ntmps27
  go_wp2_with fail
  all_goals try (go_ret; exact ⟨diff (by rintro rfl; simp_all), HB.out _ _⟩)
  refine (HE.out _ (HB.out _ _)).mono ?_
  rintro e w2 ⟨rfl, hb⟩
  have q1 : w2.cell? ⟨w.heap.size, 16, none⟩ = some (.slice A' m.d.length c') := (hb.cell (p := ⟨w.heap.size, 16, none⟩) (by simp; omega)).trans (two_cells w _ _ _ 16).1
  have q2 : w2.cell? ⟨w.heap.size + 1, 16, none⟩ = some (.slice A3 m'.d.length c3) := (hb.cell (p := ⟨w.heap.size + 1, 16, none⟩) (by simp)).trans (two_cells w _ _ _ 16).2
  have HB2 := hid ((HB.out _ _).trans (hb.mono (by simp; omega)))
  clear hb
  by_cases he : m.es = m'.es
  · rw [decide_eq_true he]
    have HEQ := hid he
    clear he
    go_wp2_with fail
    refine (HS.out w2 HB2.out).mono ?_
    rintro e w3 ⟨rfl, n, rfl⟩
    by_cases hd : m.d = m'.d
    · rw [decide_eq_true hd]
      have HM : Hid (m = m') := by
        have h1 := HEQ.out
        show m = m'
        cases m; cases m'; simp_all
      go_wp2_with fail
      go_ret
      rw [decide_eq_true HM.out]
      exact ⟨rfl, below_drewN HB2.out n⟩
    · rw [decide_eq_false hd]
      have HD := hid hd
      clear hd
      go_wp2_with fail
      go_ret
      exact ⟨diff (fun e => HD.out (by rw [e])), below_drewN HB2.out n⟩
  · rw [decide_eq_false he]
    have HD := hid he
    clear he
    go_wp2_with fail
    go_ret
    exact ⟨diff (fun e => HD.out (by rw [e])), HB2.out⟩
end Go.Proofs.Ytkmbkihfdilmbaa.Ms
namespace Go.Proofs.Ytkmbkihfdilmbaa.Im
open Go.RowKit
set_option maxRecDepth 100000
section
variable {P : Program} {α : Type} {f : α → List Value} {size bytes : Nat} {e : TypeId} {w : World} {F : Nat → Prop} {A : Option Addr} {c : Nat} {L : List α}
theorem IsRow.news {B : Nat} {ad : Addr} {M : List α} (hf : ∀ x, (f x).length = size) (h : IsRow f size w B (some ad) M) (j : Nat) (u : Value) (hj : (M.flatMap f)[j]? = some u) : w.cell? (ad.add j) = some u := by
  have hl : j < M.length * size := by
    have := (List.getElem?_eq_some_iff.1 hj).1
    rwa [flat_len f size hf] at this
  have hs : 0 < size := by
    rcases Nat.eq_zero_or_pos size with e | e
    · rw [e, Nat.mul_zero] at hl; omega
    · exact e
  have hi : j / size < M.length := Nat.div_lt_of_lt_mul (by rw [Nat.mul_comm]; exact hl)
  have hk : j % size < size := Nat.mod_lt _ hs
  have hjk : j = j / size * size + j % size := by rw [Nat.mul_comm]; exact (Nat.div_add_mod j size).symm
  obtain ⟨b, off, e1, _, hc⟩ := h.at_ (j / size) hi
  injection e1 with e1
  subst e1
  rw [hjk, flat_get f size hf M (j / size) hi (j % size) hk] at hj
  have := hc (j / size) hi (j % size) u hj
  rw [add_off, hjk, ← Nat.add_assoc]
  exact this
end
structure SRows {α : Type} (f : α → List Value) (size : Nat) (w : World) (B b : Nat) (L : List (List α)) : Prop where
  at_ : ∀ i (h : i < L.length), ∃ a k, w.cell? ⟨b, i, none⟩ = some (.slice a L[i].length k) ∧ IsRow f size w B a L[i] ∧ (a = none → k = 0)
theorem RowIn.isRow {α : Type} {f : α → List Value} {size : Nat} {e : TypeId} {w : World} {F : Nat → Prop} {A : Option Addr} {c : Nat} {L : List α} (h : RowIn f size e w F A c L) : IsRow f size w w.heap.size A L := ⟨fun k hk => by
  obtain ⟨g, hA, hg, hF, hc, _⟩ := h.get k hk
  refine ⟨g, 0, hA, hg, fun j hj n v hv => ?_⟩
  obtain ⟨g', hA', _, _, hc', _⟩ := h.get j hj
  obtain rfl : g = g' := by rw [hA] at hA'; injection hA' with e; injection e
  have hn : n < size := by have := (List.getElem?_eq_some_iff.1 hv).1; rwa [h.fits] at this
  rw [Nat.zero_add, hc' n hn]; exact hv⟩
theorem IsRow.sl {α : Type} {f : α → List Value} {size : Nat} {w : World} {B : Nat} {A : Option Addr} {L : List α} (h : IsRow f size w B A L) {c i : Nat} (hc : L.length ≤ c) : IsRow f size w B (if c = i then A else A.map (fun x => x.add (i * size))) (L.drop i) := by
  by_cases hi : L.length ≤ i
  · rw [List.drop_of_length_le hi]; exact IsRow.nil
  · rw [if_neg (by omega)]
    refine ⟨fun k hk => ?_⟩
    rw [List.length_drop] at hk
    obtain ⟨b, off, rfl, hlt, hcs⟩ := h.at_ k (by omega)
    refine ⟨b, off + i * size, by simp [add_off], hlt, fun j hj n v hv => ?_⟩
    rw [List.length_drop] at hj
    rw [List.getElem_drop] at hv
    rw [show off + i * size + j * size = off + (i + j) * size by rw [Nat.add_mul]; omega]
    exact hcs (i + j) (by omega) n v hv
theorem IsRow.from {α : Type} {f : α → List Value} {size : Nat} {w : World} {B b off : Nat} {L : List α} (h : IsRow f size w B (some ⟨b, off, none⟩) L) (i : Nat) : IsRow f size w B (some ⟨b, off + i * size, none⟩) (L.drop i) := ⟨fun k hk => by
  rw [List.length_drop] at hk
  obtain ⟨b', off', e, hlt, hcs⟩ := h.at_ (i + k) (by omega)
  injection e with e
  injection e with e1 e2
  subst e1
  subst e2
  refine ⟨b, off + i * size, rfl, hlt, fun j hj n v hv => ?_⟩
  rw [List.length_drop] at hj
  rw [List.getElem_drop] at hv
  rw [show off + i * size + j * size = off + (i + j) * size by rw [Nat.add_mul]; omega]
  exact hcs (i + j) (by omega) n v hv⟩
theorem IsRow.take {α : Type} {f : α → List Value} {size : Nat} {w : World} {B : Nat} {A : Option Addr} {L : List α} (h : IsRow f size w B A L) (n : Nat) : IsRow f size w B A (L.take n) := ⟨fun k hk => by
  have hk' : k < L.length := by rw [List.length_take] at hk; omega
  obtain ⟨b, off, e, hlt, hc⟩ := h.at_ k hk'
  refine ⟨b, off, e, hlt, fun i hi j v hv => ?_⟩
  have hi' : i < L.length := by rw [List.length_take] at hi; omega
  rw [List.getElem_take] at hv
  exact hc i hi' j v hv⟩
end Go.Proofs.Ytkmbkihfdilmbaa.Im
namespace Go.Proofs.Ytkmbkihfdilmbaa.Vo
open Go Go.RowKit
open Rl (En Lg)
open Ms (M)
open Im (ldX stX IsRow)
set_option maxRecDepth 100000
set_option linter.unusedVariables false
attribute [local go_sem ↓] loadAt_msgV storeAt_msgV
end Go.Proofs.Ytkmbkihfdilmbaa.Vo
namespace Go.Proofs.Ytkmbkihfdilmbaa.I
open Go.RowKit
theorem ints_snoc (l : List Int) (k : Nat) (h : k < l.length) : ints (l.take k) ++ [Value.int .i64 l[k]] = ints (l.take (k + 1)) := by
  unfold ints; rw [List.take_succ_eq_append_getElem h, List.map_append]; rfl
set_option maxHeartbeats 400000 in
theorem copy_any (B : Nat) (A : Option Addr) (c : Nat) (l : List Int) (hl : l.length ≤ 17592186044000) (w : World) (h : IsInts w B A l) (hB : B ≤ w.heap.size) :
    Calls Try.prog 61 #[.slice A l.length c] w fun e w' => ∃ A' c', e = .returned (.slice A' l.length c') ∧ OwnsI 3 w' w.heap.size A' c' l ∧ Below w.heap.size w w' := by
  obtain ⟨i0, hi, hz0, hz1, hz2⟩ := info_parts info_int
  go_enter Try.func61, Try.ntmps61
  go_wp2
  go_loopw [3, 4] (fun v i wr => ∃ k : Nat, k ≤ l.length ∧ i = .int .i64 k ∧ wr.ownsRow w.heap.size 3 1 v k (ints (l.take k)) ∧ Below w.heap.size w wr) (fun _ i _ => l.length - (RowKit.intOf i).toNat)
  case atStart => exact ⟨0, by omega, rfl, World.ownsRow_nil _ _ _ _, Below.refl _ _⟩
  case round =>
    obtain ⟨k, hk, rfl, hown, hbel⟩ := hrel
    by_cases hlt : k < l.length
    · have h1 := (h.below (hbel.mono hB))
      obtain ⟨b, off, rfl, _, hc⟩ := h1.cells k hlt
      have hck := hc k hlt
      clear hc
      go_wp2_with (at_builtin; refine wpList_append_own _ rfl _ _ 22 rfl w.heap.size 3 i0 (.int .i64 0) 1 8 Try.underlying22 hi hz0 hz1 hz2 rfl (by decide) _ _ _ rfl (hown.alloc _) ⟨wr.heap.size, 0, none⟩ 1 1 [.int .i64 l[k]] rfl rfl ?c1 ?c2 ?c3 ?c4 ?c5 ?_)
      case c1 =>
        intro j u hj
        match j, hj with
        | 0, hj => simp at hj; subst hj; simp [Addr.add]
      case c2 => intro u hu; simp at hu; subst hu; rfl
      case c3 => unfold maxLen; omega
      case c4 => omega
      case c5 => have := hbel.size; simp; omega
      intro v' w1 hown' hgrow _
      rw [ints_snoc l k hlt] at hown'
      have hb1 : Below w.heap.size w w1 := (hbel.alloc hbel.size _).grown hgrow (by have := hbel.size; simp; omega) (fun g hg => (hown.lt g hg).1)
      clear hgrow hown hbel hck
      go_wp2
      go_roundw
      case rel => exact ⟨k + 1, by omega, by go_num, hown', hb1⟩
      case measure => simp [RowKit.intOf]; omega
    · obtain rfl : k = l.length := by omega
      rw [List.take_length] at hown
      obtain ⟨A', c', rfl⟩ := own_slice hown
      go_wp2
      go_ret
      exact ⟨A', c', rfl, ⟨h.small, hown⟩, hbel⟩
end Go.Proofs.Ytkmbkihfdilmbaa.I
namespace Go.Proofs.Ytkmbkihfdilmbaa
open Go.RowKit
theorem sameI_N (B B' : Nat) (A A' : Option Addr) (c c' : Nat) (l m : List Int) (n k : Nat) (hn : l.length = n) (hk : m.length = k) (hl : n ≤ maxLen) (hm : k ≤ maxLen) (w : World) (h : IsInts w B A l) (h' : IsInts w B' A' m) :
    Calls Try.prog 65 #[.slice A n c, .slice A' k c'] w fun e w' => e = .returned (.bool (decide (l = m))) ∧ ∃ j, w' = w.drewN j := by
  subst hn; subst hk; exact I.same_any B B' A A' c c' l m hl hm w h h'
theorem sameI_T {w : World} {B B' : Nat} {A A' : Option Addr} {c c' n m : Nat} {l l' : List Int} (hn : l.length = n) (hm : l'.length = m) (hn2 : n ≤ 100000) (he : l' = l) (h : IsInts w B A l) (h' : IsInts w B' A' l') :
    Calls Try.prog 65 #[.slice A n c, .slice A' m c'] w fun e w' => e = .returned (.bool true) ∧ ∃ j, w' = w.drewN j := by
  have hm2 : m ≤ 100000 := by rw [← hm, he, hn]; exact hn2
  have := sameI_N B B' A A' c c' l l' n m hn hm (by unfold maxLen; omega) (by unfold maxLen; omega) w h h'
  rw [show decide (l = l') = true from decide_eq_true he.symm] at this
  exact this
end Go.Proofs.Ytkmbkihfdilmbaa
namespace Go.Proofs.Ytkmbkihfdilmbaa
open Go.RowKit
set_option maxHeartbeats 1000000 in
theorem sameConf_any (B B' : Nat) (c d : Qu.Cf) (hs0 : Short c) (hd0 : Short d) (a0 a1 a2 b0 b1 b2 : Option Addr) (k0 k1 k2 m0 m1 m2 : Nat) (w : World) (h0 : CIs w B c a0 a1 a2 k0 k1 k2) (h0' : CIs w B' d b0 b1 b2 m0 m1 m2) (hB : B ≤ w.heap.size) (hB' : B' ≤ w.heap.size) (he : c = d) :
    Calls Try.prog 43 #[.agg #[.slice a0 c.old.length k0, .slice a1 c.new.length k1, .slice a2 c.lrn.length k2], .agg #[.slice b0 d.old.length m0, .slice b1 d.new.length m1, .slice b2 d.lrn.length m2]] w fun e w' => e = .returned (.bool true) ∧ Below w.heap.size w w' := by
  subst he
  have hbel : Below w.heap.size w ((w.alloc (.cells #[.slice a0 c.old.length k0, .slice a1 c.new.length k1, .slice a2 c.lrn.length k2] 37)).alloc (.cells #[.slice b0 c.old.length m0, .slice b1 c.new.length m1, .slice b2 c.lrn.length m2] 37)) := ((Below.refl _ _).alloc (Nat.le_refl _) _).alloc (by simp) _
  have HO := hid (fun j : Nat => sameI_T (n := c.old.length) (m := c.old.length) (c := k0) (c' := m0) rfl rfl (by have := hs0.1; omega) rfl (((h0.below (hbel.mono hB)).o).drewN j) (((h0'.below (hbel.mono hB')).o).drewN j))
  have HN := hid (fun j : Nat => sameI_T (n := c.new.length) (m := c.new.length) (c := k1) (c' := m1) rfl rfl (by have := hs0.2.1; omega) rfl (((h0.below (hbel.mono hB)).n).drewN j) (((h0'.below (hbel.mono hB')).n).drewN j))
  have HL := hid (fun j : Nat => sameI_T (n := c.lrn.length) (m := c.lrn.length) (c := k2) (c' := m2) rfl rfl (by have := hs0.2.2; omega) rfl (((h0.below (hbel.mono hB)).l).drewN j) (((h0'.below (hbel.mono hB')).l).drewN j))
  have HB := hid hbel
  clear hbel h0 h0' hs0 hd0
  go_enter Try.func43, Try.ntmps43
  go_wp2_with fail
  refine (HO.out 0).mono ?_
  rintro e w1 ⟨rfl, n1, rfl⟩
  go_wp2_with fail
  refine (HN.out _).mono ?_
  rintro e w1 ⟨rfl, n2, rfl⟩
  go_wp2_with fail
  refine (HL.out (n1 + n2)).mono ?_
  rintro e w1 ⟨rfl, n3, rfl⟩
  go_wp2
  go_ret
  exact ⟨rfl, below_drewN HB.out _⟩
theorem ownsI_cap {e : TypeId} {w : World} {base c : Nat} {A : Option Addr} {l : List Int} (h : OwnsI e w base A c l) : (A = none → c = 0) ∧ l.length ≤ c ∧ c ≤ maxLen := by
  rcases h.row.2 with ⟨hv, h0⟩ | ⟨g, cap, cur, hv, _, _, h1, h2, _, _⟩
  · have h2 : c = 0 := by injection hv
    exact ⟨fun _ => h2, by omega, by omega⟩
  · have h3 : c = cap := by injection hv
    refine ⟨fun e => ?_, by omega, by omega⟩
    subst e
    cases hv
set_option maxRecDepth 100000 in
set_option maxHeartbeats 2000000 in
theorem copyConf_sep (B : Nat) (c : Qu.Cf) (hs0 : Short c) (a0 a1 a2 : Option Addr) (k0 k1 k2 : Nat) (w : World) (h0 : CIs w B c a0 a1 a2 k0 k1 k2) (hB : B ≤ w.heap.size) :
    Calls Try.prog 39 #[.agg #[.slice a0 c.old.length k0, .slice a1 c.new.length k1, .slice a2 c.lrn.length k2]] w fun e w' => ∃ A0 A1 A2 p0 p1 p2, e = .returned (.agg #[.slice A0 c.old.length p0, .slice A1 c.new.length p1, .slice A2 c.lrn.length p2]) ∧ (∃ m1 m2, (w.heap.size ≤ m1 ∧ m1 ≤ m2 ∧ m2 ≤ w'.heap.size) ∧ (OwnsI 3 w' w.heap.size A0 p0 c.old ∧ ∀ k, blk A0 = some k → k < m1) ∧ (OwnsI 3 w' m1 A1 p1 c.new ∧ ∀ k, blk A1 = some k → k < m2) ∧ OwnsI 3 w' m2 A2 p2 c.lrn) ∧ CIs w' w'.heap.size c A0 A1 A2 p0 p1 p2 ∧ Below w.heap.size w w' := by
  obtain ⟨wb, hwb⟩ : ∃ wb, wb = (w.alloc (.cells #[.slice a0 c.old.length k0, .slice a1 c.new.length k1, .slice a2 c.lrn.length k2] 37)).alloc (.cells #[.slice none 0 0, .slice none 0 0, .slice none 0 0] 37) := ⟨_, rfl⟩
  have hbel : Below w.heap.size w wb := by rw [hwb]; exact ((Below.refl _ _).alloc (Nat.le_refl _) _).alloc (by simp) _
  have hsz : wb.heap.size = w.heap.size + 2 := by rw [hwb]; simp
  have hrow : wb.heap[w.heap.size]? = some (.cells #[.slice a0 c.old.length k0, .slice a1 c.new.length k1, .slice a2 c.lrn.length k2] 37 (0, 0)) := by rw [hwb, Below.heap_alloc _ _ _ (by simp)]; exact heap_alloc_new w _
  have hrow2 : wb.heap[w.heap.size + 1]? = some (.cells #[.slice none 0 0, .slice none 0 0, .slice none 0 0] 37 (0, 0)) := by
    rw [hwb]
    have := heap_alloc_new (w.alloc (.cells #[.slice a0 c.old.length k0, .slice a1 c.new.length k1, .slice a2 c.lrn.length k2] 37)) (.cells #[.slice none 0 0, .slice none 0 0, .slice none 0 0] 37)
    rwa [World.size_alloc] at this
  have hI := h0.below (hbel.mono hB)
  have HX : Hid (∀ w', Below wb.drew.heap.size wb.drew w' → w'.cell? ⟨w.heap.size, 0, none⟩ = some (.slice a0 c.old.length k0) ∧ w'.cell? ⟨w.heap.size, 1, none⟩ = some (.slice a1 c.new.length k1) ∧ w'.cell? ⟨w.heap.size, 2, none⟩ = some (.slice a2 c.lrn.length k2)) := hid fun w' hb => by
    have h1 : w'.heap[w.heap.size]? = _ := (hb.block w.heap.size (by show w.heap.size < wb.heap.size; omega)).trans hrow
    exact ⟨cell_of_row w' w.heap.size 0 _ _ _ h1, cell_of_row w' w.heap.size 1 _ _ _ h1, cell_of_row w' w.heap.size 2 _ _ _ h1⟩
  have HK : Hid (∀ w' v0 v1 v2, Below wb.drew.heap.size wb.drew w' → (((w'.setCell ⟨w.heap.size + 1, 0, none⟩ v0).setCell ⟨w.heap.size + 1, 1, none⟩ v1).setCell ⟨w.heap.size + 1, 2, none⟩ v2).cell? ⟨w.heap.size, 0, none⟩ = some (.slice a0 c.old.length k0) ∧ (((w'.setCell ⟨w.heap.size + 1, 0, none⟩ v0).setCell ⟨w.heap.size + 1, 1, none⟩ v1).setCell ⟨w.heap.size + 1, 2, none⟩ v2).cell? ⟨w.heap.size, 1, none⟩ = some (.slice a1 c.new.length k1) ∧ (((w'.setCell ⟨w.heap.size + 1, 0, none⟩ v0).setCell ⟨w.heap.size + 1, 1, none⟩ v1).setCell ⟨w.heap.size + 1, 2, none⟩ v2).cell? ⟨w.heap.size, 2, none⟩ = some (.slice a2 c.lrn.length k2)) := hid fun w' v0 v1 v2 hb => by
    have h1 : w'.heap[w.heap.size]? = _ := (hb.block w.heap.size (by show w.heap.size < wb.heap.size; omega)).trans hrow
    have h2 : (((w'.setCell ⟨w.heap.size + 1, 0, none⟩ v0).setCell ⟨w.heap.size + 1, 1, none⟩ v1).setCell ⟨w.heap.size + 1, 2, none⟩ v2).heap[w.heap.size]? = w'.heap[w.heap.size]? := by
      rw [Below.heap_setCell _ _ _ _ (show w.heap.size ≠ w.heap.size + 1 by omega), Below.heap_setCell _ _ _ _ (show w.heap.size ≠ w.heap.size + 1 by omega), Below.heap_setCell _ _ _ _ (show w.heap.size ≠ w.heap.size + 1 by omega)]
    have h2 := h2.trans h1
    exact ⟨cell_of_row _ w.heap.size 0 _ _ _ h2, cell_of_row _ w.heap.size 1 _ _ _ h2, cell_of_row _ w.heap.size 2 _ _ _ h2⟩
  have HZ : Hid (∀ w', Below wb.drew.heap.size wb.drew w' → (w'.cell? ⟨w.heap.size + 1, 0, none⟩ = some (.slice none 0 0) ∧ w'.cell? ⟨w.heap.size + 1, 1, none⟩ = some (.slice none 0 0) ∧ w'.cell? ⟨w.heap.size + 1, 2, none⟩ = some (.slice none 0 0)) ∧ (∀ k, w'.frozen? ⟨w.heap.size + 1, k, none⟩ = false)) := hid fun w' hb => by
    have h1 : w'.heap[w.heap.size + 1]? = _ := (hb.block (w.heap.size + 1) (by show w.heap.size + 1 < wb.heap.size; omega)).trans hrow2
    exact ⟨⟨cell_of_row w' (w.heap.size + 1) 0 _ _ _ h1, cell_of_row w' (w.heap.size + 1) 1 _ _ _ h1, cell_of_row w' (w.heap.size + 1) 2 _ _ _ h1⟩, fun k => by simp [World.frozen?, h1]⟩
  have HZR : Hid (∀ w', Below wb.drew.heap.size wb.drew w' → w'.heap[w.heap.size + 1]? = some (.cells #[.slice none 0 0, .slice none 0 0, .slice none 0 0] 37 (0, 0))) := hid fun w' hb => (hb.block (w.heap.size + 1) (by show w.heap.size + 1 < wb.heap.size; omega)).trans hrow2
  have hd : wb.drew.heap.size = wb.heap.size := rfl
  have HD := hid (And.intro hd hsz)
  have CP : ∀ (A : Option Addr) (k : Nat) (l : List Int), l.length ≤ 20000 → IsInts wb B A l → ∀ w', Below wb.drew.heap.size wb.drew w' → Calls Try.prog 61 #[.slice A l.length k] w' fun e w'' => ∃ A' p, e = .returned (.slice A' l.length p) ∧ Hid (OwnsI 3 w'' w'.heap.size A' p l) ∧ Hid (Below wb.drew.heap.size wb.drew w'') ∧ Hid (Below w'.heap.size w' w'') := fun A k l hl hi w' hb =>
    (I.copy_any B A k l (by omega) w' (hi.drew.below (hb.mono (by show B ≤ wb.heap.size; omega))) (by have := hb.size; omega)).mono fun e w'' ⟨A', p, he, ho, hb2⟩ => ⟨A', p, he, hid ho, hid (bthen hb hb2 hb.size), hid hb2⟩
  have HC0 := hid (CP a0 k0 c.old hs0.1 hI.o wb.drew (Below.refl _ _))
  have HC1 := hid (CP a1 k1 c.new hs0.2.1 hI.n)
  have HC2 := hid (CP a2 k2 c.lrn hs0.2.2 hI.l)
  have c0 := (HX.out wb.drew (Below.refl _ _)).1
  have c1 := (HX.out wb.drew (Below.refl _ _)).2.1
  have c2 := (HX.out wb.drew (Below.refl _ _)).2.2
  have HB := hid hbel
  clear hbel hI h0 hs0 hsz hrow hrow2 hd CP
  go_enter Try.func39, Try.ntmps39
  go_wp2_with fail
  rw [← hwb]; clear hwb
  go_region_held3 (fun w' => w'.cell? ⟨w.heap.size, 0, none⟩ = some (.slice a0 c.old.length k0) ∧ w'.cell? ⟨w.heap.size, 1, none⟩ = some (.slice a1 c.new.length k1) ∧ w'.cell? ⟨w.heap.size, 2, none⟩ = some (.slice a2 c.lrn.length k2))
    (first | exact ⟨c0, c1, c2⟩ | exact HK.out _ _ _ _ hb3.out | exact HX.out _ hb3.out | exact HX.out _ hb2.out | exact HX.out _ hb1.out | fail)
    (first
      | (go_at_call 61; refine HY2.out.mono ?_; rintro e3 w3 ⟨A2, p2, rfl, ho2, hb3, hbb3⟩; obtain ⟨⟨z0, z1, z2⟩, fz⟩ := HZ.out w3 hb3.out; have f0 := fz 0; have f1 := fz 1; have f2 := fz 2)
      | (go_at_call 61; refine HY1.out.mono ?_; rintro e2 w2 ⟨A1, p1, rfl, ho1, hb2, hbb2⟩; have HY2 := hid (HC2.out w2 hb2.out))
      | (go_at_call 61; refine HC0.out.mono ?_; rintro e1 w1 ⟨A0, p0, rfl, ho0, hb1, hbb1⟩; have HY1 := hid (HC1.out w1 hb1.out)))
  obtain ⟨w4, hw4⟩ : ∃ w4, w4 = ((w3.setCell ⟨w.heap.size + 1, 0, none⟩ (.slice A0 c.old.length p0)).setCell ⟨w.heap.size + 1, 1, none⟩ (.slice A1 c.new.length p1)).setCell ⟨w.heap.size + 1, 2, none⟩ (.slice A2 c.lrn.length p2) := ⟨_, rfl⟩
  rw [← hw4]
  have hx3 := HZR.out w3 hb3.out
  have hx4 : w4.heap[w.heap.size + 1]? = some (.cells #[.slice A0 c.old.length p0, .slice A1 c.new.length p1, .slice A2 c.lrn.length p2] 37 (0, 0)) := by
    rw [hw4]
    simp [World.setCell, Array.getElem?_modify, hx3]
  have hg : w3.grownBy w4 (some (w.heap.size + 1)) := by
    rw [hw4]
    refine ⟨rfl, rfl, rfl, by simp [World.setCell], fun k hk hne => ?_⟩
    have hne' : k ≠ w.heap.size + 1 := fun e => hne (by rw [e])
    rw [Below.heap_setCell _ _ _ _ hne', Below.heap_setCell _ _ _ _ hne', Below.heap_setCell _ _ _ _ hne']
  have r0 : w4.cell? ⟨w.heap.size + 1, 0, none⟩ = some (.slice A0 c.old.length p0) := by simp [World.cell?, hx4]
  have r1 : w4.cell? ⟨w.heap.size + 1, 1, none⟩ = some (.slice A1 c.new.length p1) := by simp [World.cell?, hx4]
  have r2 : w4.cell? ⟨w.heap.size + 1, 2, none⟩ = some (.slice A2 c.lrn.length p2) := by simp [World.cell?, hx4]
  have HG := hid hg
  clear hw4 hx3 hx4 hg HK fz f0 f1 f2 z0 z1 z2
  go_wp2
  refine bodyPost_ret (by simp [results, Try.results39, go_sem, r0, r1, r2]; try rfl) rfl ?_
  have hs0 := HD.out.1
  have hs1 := HD.out.2
  have hz1 := hb1.out.size
  have hz2 := hb2.out.size
  have o0 := ((ho0.out.below (hbb2.out)).below hbb3.out).grown HG.out (fun k e => by injection e with e; omega)
  have o1 := (ho1.out.below hbb3.out).grown HG.out (fun k e => by injection e with e; omega)
  have o2 := ho2.out.grown HG.out (fun k e => by injection e with e; omega)
  have hz4 := HG.out.size
  have hz3 := hb3.out.size
  have hzb2 := hbb2.out.size
  have hzb3 := hbb3.out.size
  refine ⟨A0, A1, A2, p0, p1, p2, rfl, ⟨w1.heap.size, w2.heap.size, ⟨by omega, hzb2, by omega⟩, ⟨o0.weaken (by omega), fun k hk => (ho0.out.blkLt k hk).2⟩, ⟨o1, fun k hk => (ho1.out.blkLt k hk).2⟩, o2⟩, ⟨o0.reads, o1.reads, o2.reads, (ownsI_cap o0).1, (ownsI_cap o1).1, (ownsI_cap o2).1, (ownsI_cap o0).2, (ownsI_cap o1).2, (ownsI_cap o2).2⟩, ?_⟩
  exact ((Below.drew HB.out).trans (hb3.out.mono (by omega))).grown HG.out (by have := hb3.out.size; omega) (fun k e => by injection e with e; omega)
end Go.Proofs.Ytkmbkihfdilmbaa
namespace Go.Proofs.Ytkmbkihfdilmbaa
open Go.RowKit
set_option maxRecDepth 100000
end Go.Proofs.Ytkmbkihfdilmbaa
namespace Go.Proofs.Ytkmbkihfdilmbaa.Im
open Go.RowKit
open Rl (En Lg)
open Qu (Cf)
set_option maxRecDepth 100000
set_option linter.unusedVariables false
class Lo where
  n : Nat
set_option linter.unusedSectionVars false
variable [Lo]
namespace Kq
variable {B B' : Nat} {a b c : World}
end Kq
namespace Ro
variable {w w' : World} {G g : Nat} {s : Pk.St}
end Ro
namespace Rt
variable {w w' : World} {G g : Nat} {s : Pk.St}
end Rt
end Go.Proofs.Ytkmbkihfdilmbaa.Im
namespace Go.Proofs.Ytkmbkihfdilmbaa.Im
open Go.RowKit
open Rl (En Lg)
open Qu (Cf)
set_option linter.unusedSectionVars false
variable [Lo]
set_option maxRecDepth 100000
set_option linter.unusedVariables false
attribute [local go_sem ↓] loadAt_hard storeAt_hard
namespace Sp
variable {w W W' : World} {G g R : Nat} {cs : Array Value} {t : TypeId} {s s' : Pk.St}
end Sp
end Go.Proofs.Ytkmbkihfdilmbaa.Im
namespace Go.Proofs.Ytkmbkihfdilmbaa.Im
open Go.RowKit
open Rl (En Lg)
open Qu (Cf)
set_option linter.unusedSectionVars false
variable [Lo]
set_option maxRecDepth 100000
set_option linter.unusedVariables false
theorem storeAt_entry (a v : Value) : Instr.storeAt 64 a v = stX 64 a v := rfl
theorem storeAt_conf (a v : Value) : Instr.storeAt 37 a v = stX 37 a v := rfl
attribute [local go_sem ↓] storeAt_entry storeAt_conf
section
variable {w W : World} {G g R : Nat} {cs : Array Value} {t : TypeId} {S0 S1 : Pk.St}
end
end Go.Proofs.Ytkmbkihfdilmbaa.Im
namespace Go.Proofs.Ytkmbkihfdilmbaa.Im
open Go.RowKit
open Rl (En Lg)
open Qu (Cf)
set_option linter.unusedSectionVars false
variable [Lo]
set_option maxRecDepth 100000
set_option linter.unusedVariables false
attribute [local go_sem ↓] storeAt_conf
end Go.Proofs.Ytkmbkihfdilmbaa.Im
namespace Go.Proofs.Ytkmbkihfdilmbaa.Im
open Go.RowKit
open Rl (En Lg)
open Qu (Cf)
set_option linter.unusedSectionVars false
variable [Lo]
set_option maxRecDepth 100000
set_option linter.unusedVariables false
section
variable {α : Type} {f : α → List Value} {size : Nat} {e : TypeId} {W W' : World} {F : Nat → Prop} {A : Option Addr} {c : Nat} {L : List α} {G g n : Nat} {s : Pk.St}
end
end Go.Proofs.Ytkmbkihfdilmbaa.Im
namespace Go.Proofs.Ytkmbkihfdilmbaa.Im
open Go.RowKit
open Rl (En Lg)
open Qu (Cf)
set_option linter.unusedSectionVars false
variable [Lo]
set_option maxRecDepth 100000
set_option linter.unusedVariables false
end Go.Proofs.Ytkmbkihfdilmbaa.Im
namespace Go.Proofs.Ytkmbkihfdilmbaa.Im
open Go.RowKit
open Rl (En Lg)
open Qu (Cf)
set_option linter.unusedSectionVars false
variable [Lo]
set_option maxRecDepth 100000
set_option linter.unusedVariables false
theorem storeAt_log (a v : Value) : Instr.storeAt 25 a v = stX 25 a v := rfl
attribute [local go_sem ↓] storeAt_log
end Go.Proofs.Ytkmbkihfdilmbaa.Im
namespace Go.Proofs.Ytkmbkihfdilmbaa
open Go
def AllFrom {α : Type} (p : Nat → α → Prop) : Nat → List α → Prop
  | _, [] => True
  | n, x :: xs => p n x ∧ AllFrom p (n + 1) xs
theorem AllFrom.get {α : Type} {p : Nat → α → Prop} : ∀ {n : Nat} {l : List α}, AllFrom p n l → ∀ (i : Nat) (x : α), l[i]? = some x → p (n + i) x
  | _, [], _, i, x, h => by simp at h
  | n, y :: ys, ⟨h0, h1⟩, i, x, h => by
    rcases i with _ | i
    · simp at h; subst h; exact h0
    · simp at h
      have := AllFrom.get h1 i x h
      rwa [show n + 1 + i = n + (i + 1) by omega] at this
end Go.Proofs.Ytkmbkihfdilmbaa
namespace Go.Proofs.Ytkmbkihfdilmbaa.Im
open Go Go.RowKit
open Rl (En Lg)
open Qu (Cf)
set_option linter.unusedSectionVars false
variable [Lo]
set_option maxRecDepth 100000
set_option linter.unusedVariables false
inductive Cl where
  | g | ld | num (k : Nat) | log | conf | blob | vote | agg
deriving DecidableEq
structure Pl where
  pt : Pt
  a : Ad
  m0 : Nat
  m1 : Nat
  m2 : Nat
  m3 : Nat
structure Cx where
  G : Nat
  g : Nat
  R : Nat
  w0 : World
  K : Nat
  nc : Nat
  V : Nat → Int
  s : Nat → Pk.St
  vt : Vt
  T : TypeId
  sz : Nat
  fin : Pt → Ad → List Value
def callNo (K : Nat) : Cl → Option Nat
  | .num k => some k
  | .log => some K
  | .conf => some (K + 1)
  | .blob => some (K + 2)
  | .vote => some (K + 3)
  | _ => none
structure Sh where
  n : Nat
  nt : Nat
  cls : List Cl
def Sh.c (S : Sh) (j : Nat) : Cl := (S.cls[j]?).getD .g
structure Sh.Ok (C : Cx) (S : Sh) : Prop where
  nt : S.n + 2 ≤ S.nt
  pos : 0 < S.n
  uniq : ∀ i j k, i + 1 < S.n → j + 1 < S.n → callNo C.K (S.c i) = some k → callNo C.K (S.c j) = some k → i = j
section
variable {C : Cx} {S : Sh} {X X' : Pl} {p p' : Nat} {listed : Array Bool} {a : Act} {w w' : World}
end
section
variable {C : Cx} {S : Sh} {listed : Array Bool} {a : Act} {w : World} {ops : Array Oper} {Q : Exit → Act → World → Prop}
end
end Go.Proofs.Ytkmbkihfdilmbaa.Im
namespace Go.Proofs.Ytkmbkihfdilmbaa.Im
open Go Go.RowKit
open Rl (En Lg)
open Qu (Cf)
set_option linter.unusedSectionVars false
variable [Lo]
set_option maxRecDepth 100000
set_option linter.unusedVariables false
theorem ownsI_room {e : TypeId} {w : World} {base c : Nat} {A : Option Addr} {l : List Int} (h : OwnsI e w base A c l) : Room l.length c A := by
  rcases h.row.2 with ⟨hv, h0⟩ | ⟨g, cap, cur, hv, _, _, h1, h2, _, _⟩
  · injection hv with e1 e2 e3
    refine ⟨⟨by omega, by unfold maxLen; omega⟩, fun _ => e3⟩
  · have h3 : c = cap := by injection hv
    refine ⟨⟨by omega, by omega⟩, fun e => ?_⟩
    rw [e] at hv; injection hv with h4; cases h4
theorem ownsB_room {e : TypeId} {w : World} {base c : Nat} {A : Option Addr} {l : List Nat} (h : OwnsB e w base A c l) : Room l.length c A := ⟨h.room, h.none_⟩
structure Kp (P : TypeId → Prop) (w w' : World) : Prop where
  os : w'.os = w.os
  tape : w'.tape = w.tape
  output : w'.output = w.output
  size : w.heap.size ≤ w'.heap.size
  keep : ∀ (k : Nat) (cs : Array Value) (t : TypeId) (fr : Nat × Nat), w.heap[k]? = some (.cells cs t fr) → P t → w'.heap[k]? = some (.cells cs t fr)
namespace Kp
variable {P : TypeId → Prop} {w w' : World}
theorem ofGrown {g : Nat} {cs : Array Value} {t : TypeId} {fr : Nat × Nat} (hg : w.heap[g]? = some (.cells cs t fr)) (ht : ¬ P t) (h : w.grownBy w' (some g)) : Kp P w w' :=
  ⟨h.os, h.tape, h.output, h.size, fun k cs' t' fr' h1 h2 => (h.block k (row_lt h1) (fun e => by
    injection e with e
    subst e
    rw [h1] at hg
    have := (Obj.cells.inj (Option.some.inj hg)).2.1
    exact ht (this ▸ h2))).trans h1⟩
theorem ofBelow (h : Below w.heap.size w w') : Kp P w w' := ⟨h.os, h.tape, h.output, h.size, fun k cs t fr h1 _ => (h.block k (row_lt h1)).trans h1⟩
theorem row (h : Kp P w w') {base n size : Nat} {e : TypeId} {v : Value} {xs : List Value} (hr : w.ownsRow base e size v n xs) (h1 : P e) : w'.ownsRow base e size v n xs := by
  refine ⟨hr.1, ?_⟩
  rcases hr.2 with h0 | ⟨g, cap, cur, q1, q2, q3, q4⟩
  · exact .inl h0
  · exact .inr ⟨g, cap, cur, q1, q2, h.keep g _ _ _ q3 h1, q4⟩
theorem ownB (h : Kp P w w') (hP : P 5) {base c : Nat} {A : Option Addr} {l : List Nat} (ho : OwnsB 5 w base A c l) : OwnsB 5 w' base A c l := ⟨ho.small, h.row ho.row hP⟩
theorem ownI (h : Kp P w w') (hP : P 3) {base c : Nat} {A : Option Addr} {l : List Int} (ho : OwnsI 3 w base A c l) : OwnsI 3 w' base A c l := ⟨ho.small, h.row ho.row hP⟩
theorem rowIn {α : Type} {f : α → List Value} {size : Nat} {e : TypeId} {F : Nat → Prop} {A : Option Addr} {c : Nat} {L : List α} (h : Kp P w w') (hP : P e) (hr : RowIn f size e w F A c L) : RowIn f size e w' F A c L := ⟨hr.fits, h.row hr.row hP, hr.blk⟩
theorem ownE (h : Kp P w w') (hE : P 64) (hB : P 5) {B N c : Nat} {A : Option Addr} {L : List En} (ho : OwnE w B N A c L) : OwnE w' B N A c L := by
  obtain ⟨M, h1, h2⟩ := ho
  exact ⟨M, h1, h.rowIn hE h2.row, fun q hq => ⟨h.ownB hB (h2.own q hq).1, (h2.own q hq).2⟩, h2.apart, h2.num⟩
end Kp
def Parts (t : TypeId) : Prop := t = 64 ∨ t = 5 ∨ t = 3
def OwnPt (w : World) (B N : Nat) (p : Pt) (a : Ad) : Prop := ∃ m0 m1 m2 m3, (B ≤ m0 ∧ m0 ≤ m1 ∧ m1 ≤ m2 ∧ m2 ≤ m3 ∧ m3 ≤ N) ∧ OwnE w B m0 a.e a.ce p.log.es ∧ (OwnsI 3 w m0 a.o a.co p.cf.old ∧ ∀ k, blk a.o = some k → k < m1) ∧ (OwnsI 3 w m1 a.n a.cn p.cf.new ∧ ∀ k, blk a.n = some k → k < m2) ∧ (OwnsI 3 w m2 a.l a.cl p.cf.lrn ∧ ∀ k, blk a.l = some k → k < m3) ∧ (OwnsB 5 w m3 a.s a.cs p.sn ∧ ∀ k, blk a.s = some k → k < N) ∧ InInt p.log.base ∧ InInt p.log.term
theorem ownsI_turned {e : TypeId} {w w' : World} {S : Nat → Prop} {base c : Nat} {A : Option Addr} {l : List Int} (h : OwnsI e w base A c l) (ht : Turned S w w') (hd : ∀ k, blk A = some k → ¬ S k) : OwnsI e w' base A c l :=
  ⟨h.small, ownsRow_turned h.row ht (fun k hk => hd k (by rw [← ownBlock_slice A l.length c]; exact hk))⟩
theorem isBytes_lower {w : World} {B : Nat} {A : Option Addr} {l : List Nat} {B' : Nat} (h : IsBytes w B A l) (hb : ∀ k, blk A = some k → k < B') : IsBytes w B' A l := by
  refine ⟨h.small, fun k hk => ?_⟩
  obtain ⟨b, off, e, _, hc⟩ := h.cells k hk
  exact ⟨b, off, e, hb b (by rw [e]; rfl), hc⟩
theorem isInts_lower {w : World} {B : Nat} {A : Option Addr} {l : List Int} {B' : Nat} (h : IsInts w B A l) (hb : ∀ k, blk A = some k → k < B') : IsInts w B' A l := by
  refine ⟨h.small, fun k hk => ?_⟩
  obtain ⟨b, off, e, _, hc⟩ := h.cells k hk
  exact ⟨b, off, e, hb b (by rw [e]; rfl), hc⟩
namespace OwnPt
variable {w w' : World} {B B' N N' : Nat} {p : Pt} {a : Ad}
theorem kp (h : OwnPt w B N p a) (hk : Kp Parts w w') : OwnPt w' B N p a := by
  obtain ⟨m0, m1, m2, m3, hm, h1, h2, h3, h4, h5, h6⟩ := h
  exact ⟨m0, m1, m2, m3, hm, hk.ownE (.inl rfl) (.inr (.inl rfl)) h1, ⟨hk.ownI (.inr (.inr rfl)) h2.1, h2.2⟩, ⟨hk.ownI (.inr (.inr rfl)) h3.1, h3.2⟩, ⟨hk.ownI (.inr (.inr rfl)) h4.1, h4.2⟩, ⟨hk.ownB (.inr (.inl rfl)) h5.1, h5.2⟩, h6⟩
theorem wide (h : OwnPt w B N p a) (hB : B' ≤ B) (hN : N ≤ N') : OwnPt w B' N' p a := by
  obtain ⟨m0, m1, m2, m3, ⟨c0, c1, c2, c3, c4⟩, h1, h2, h3, h4, h5, h6⟩ := h
  exact ⟨m0, m1, m2, m3, ⟨by omega, c1, c2, c3, by omega⟩, h1.wide hB (Nat.le_refl _), h2, h3, h4, ⟨h5.1, fun k hk => by have := h5.2 k hk; omega⟩, h6⟩
theorem keep {S : Nat → Prop} (h : OwnPt w B N p a) (ht : Turned S w w') (hs : ∀ k, S k → ¬ Bl B N k) : OwnPt w' B N p a := by
  obtain ⟨m0, m1, m2, m3, ⟨c0, c1, c2, c3, c4⟩, h1, h2, h3, h4, h5, h6⟩ := h
  have kB : ∀ {lo hi : Nat} {A : Option Addr}, B ≤ lo → hi ≤ N → (∀ k, blk A = some k → lo ≤ k) → (∀ k, blk A = some k → k < hi) → ∀ k, blk A = some k → ¬ S k := fun h1 h2 h3 h4 k hk hS => hs k hS ⟨by have := h3 k hk; omega, by have := h4 k hk; omega⟩
  refine ⟨m0, m1, m2, m3, ⟨c0, c1, c2, c3, c4⟩, h1.keep ht (fun k hk hb => hs k hk ⟨hb.1, by have := hb.2; omega⟩), ⟨ownsI_turned h2.1 ht (kB (lo := m0) (hi := m1) c0 (by omega) (fun k hk => (h2.1.blkLt k hk).1) h2.2), h2.2⟩, ⟨ownsI_turned h3.1 ht (kB (lo := m1) (hi := m2) (by omega) (by omega) (fun k hk => (h3.1.blkLt k hk).1) h3.2), h3.2⟩, ⟨ownsI_turned h4.1 ht (kB (lo := m2) (hi := m3) (by omega) (by omega) (fun k hk => (h4.1.blkLt k hk).1) h4.2), h4.2⟩, ⟨h5.1.turned ht (kB (lo := m3) (hi := N) (by omega) (by omega) (fun k hk => (h5.1.blkLt k hk).1) h5.2), h5.2⟩, h6⟩
theorem below (h : OwnPt w B N p a) (hb : Below N w w') : OwnPt w' B N p a :=
  h.keep (S := fun k => N ≤ k) ⟨hb.os, hb.tape, hb.output, hb.size, fun k _ hn => hb.block k (by omega)⟩ (fun k hk hB => by have := hB.2; omega)
theorem reads (h : OwnPt w B N p a) : IsPt w N p a := by
  obtain ⟨m0, m1, m2, m3, ⟨c0, c1, c2, c3, c4⟩, h1, h2, h3, h4, h5, h6⟩ := h
  exact ⟨h1.reads.more (by omega), isInts_lower h2.1.reads (fun k hk => by have := h2.2 k hk; omega), isInts_lower h3.1.reads (fun k hk => by have := h3.2 k hk; omega), isInts_lower h4.1.reads (fun k hk => by have := h4.2 k hk; omega), isBytes_lower h5.1.reads h5.2, ⟨h1.room, h1.none_⟩, ownsI_room h2.1, ownsI_room h3.1, ownsI_room h4.1, ownsB_room h5.1, h6⟩
end OwnPt
end Go.Proofs.Ytkmbkihfdilmbaa.Im
namespace Go.Proofs.Ytkmbkihfdilmbaa.Im
open Go Go.RowKit
open Rl (En Lg)
open Qu (Cf)
set_option linter.unusedSectionVars false
variable [Lo]
set_option maxRecDepth 100000
set_option linter.unusedVariables false
attribute [local go_sem ↓] loadAt_hard storeAt_hard
end Go.Proofs.Ytkmbkihfdilmbaa.Im
namespace Go.Proofs.Ytkmbkihfdilmbaa.Im
open Go.RowKit
open Rl (En Lg)
open Qu (Cf)
set_option linter.unusedSectionVars false
variable [Lo]
set_option maxRecDepth 100000
set_option linter.unusedVariables false
def OwnPts (w : World) : Nat → Nat → List (Pt × Ad) → Prop
  | B, N, [] => B ≤ N
  | B, N, q :: l => ∃ m, B ≤ m ∧ OwnPt w B m q.1 q.2 ∧ OwnPts w m N l
theorem OwnPt.le {w : World} {B N : Nat} {p : Pt} {a : Ad} (h : OwnPt w B N p a) : B ≤ N := by
  obtain ⟨m0, m1, m2, m3, ⟨c0, c1, c2, c3, c4⟩, _⟩ := h; omega
namespace OwnPts
variable {w w' : World}
theorem le : ∀ {l : List (Pt × Ad)} {B N : Nat}, OwnPts w B N l → B ≤ N
  | [], _, _, h => h
  | q :: l, _, _, ⟨m, h1, _, h3⟩ => Nat.le_trans h1 (le h3)
theorem kp (hk : Kp Parts w w') : ∀ {l : List (Pt × Ad)} {B N : Nat}, OwnPts w B N l → OwnPts w' B N l
  | [], _, _, h => h
  | q :: l, _, _, ⟨m, h1, h2, h3⟩ => ⟨m, h1, h2.kp hk, kp hk h3⟩
theorem keep {S : Nat → Prop} (ht : Turned S w w') : ∀ {l : List (Pt × Ad)} {B N : Nat}, OwnPts w B N l → (∀ k, S k → ¬ Bl B N k) → OwnPts w' B N l
  | [], _, _, h, _ => h
  | q :: l, _, _, ⟨m, h1, h2, h3⟩, hs => ⟨m, h1, h2.keep ht (fun k hk hB => hs k hk ⟨hB.1, by have := hB.2; have := le h3; omega⟩), keep ht h3 (fun k hk hB => hs k hk ⟨by have := hB.1; omega, hB.2⟩)⟩
theorem wide {l : List (Pt × Ad)} : ∀ {B N B' N' : Nat}, OwnPts w B N l → B' ≤ B → N ≤ N' → OwnPts w B' N' l := by
  induction l with
  | nil => intro B N B' N' h h1 h2; exact Nat.le_trans h1 (Nat.le_trans h h2)
  | cons q l ih => rintro B N B' N' ⟨m, h1, h2, h3⟩ hB hN; exact ⟨m, Nat.le_trans hB h1, h2.wide hB (Nat.le_refl _), ih h3 (Nat.le_refl _) hN⟩
theorem mem {q : Pt × Ad} : ∀ {l : List (Pt × Ad)} {B N : Nat}, OwnPts w B N l → q ∈ l → OwnPt w B N q.1 q.2
  | p :: l, _, _, ⟨m, h1, h2, h3⟩, hq => by
    rcases List.mem_cons.1 hq with rfl | hq
    · exact h2.wide (Nat.le_refl _) (le h3)
    · exact (mem h3 hq).wide h1 (Nat.le_refl _)
end OwnPts
theorem OwnPts.keep_ {w w' : World} {B N : Nat} {l : List (Pt × Ad)} {S : Nat → Prop} (h : OwnPts w B N l) (ht : Turned S w w') (hs : ∀ k, S k → ¬ Bl B N k) : OwnPts w' B N l := OwnPts.keep ht h hs
theorem cellsH_fits (q : Hq) : (cellsH q).length = 10 := rfl
structure OwnHs (w : World) (B N : Nat) (A : Option Addr) (c : Nat) (M : List Hq) : Prop where
  row : RowIn cellsH 10 52 w (Bl B N) A c M
  pts : OwnPts w B N (M.map fun q => (q.h.p, q.a))
  num : ∀ q ∈ M, InInt q.h.g ∧ InInt q.h.t ∧ InInt q.h.v
namespace OwnHs
variable {w w' : World} {B B' N N' : Nat} {A : Option Addr} {c : Nat} {M : List Hq}
theorem nil (w : World) {B N : Nat} (h : B ≤ N) : OwnHs w B N none 0 [] := ⟨RowIn.nil cellsH_fits _ _ _, h, fun q hq => by cases hq⟩
theorem keep {S : Nat → Prop} (h : OwnHs w B N A c M) (ht : Turned S w w') (hs : ∀ k, S k → ¬ Bl B N k) : OwnHs w' B N A c M := ⟨h.row.keep ht (fun k hk hS => hs k hS (h.row.blk k hk)), h.pts.keep_ ht hs, h.num⟩
theorem below (h : OwnHs w B N A c M) (hb : Below N w w') : OwnHs w' B N A c M :=
  h.keep (S := fun k => N ≤ k) ⟨hb.os, hb.tape, hb.output, hb.size, fun k _ hn => hb.block k (by omega)⟩ (fun k hk hB => by have := hB.2; omega)
theorem wide (h : OwnHs w B N A c M) (hB : B' ≤ B) (hN : N ≤ N') : OwnHs w B' N' A c M := ⟨h.row.mono (fun k hk => ⟨Nat.le_trans hB (h.row.blk k hk).1, Nat.lt_of_lt_of_le (h.row.blk k hk).2 hN⟩), h.pts.wide hB hN, h.num⟩
theorem reads (h : OwnHs w B N A c M) : IsHds w N A M := by
  refine ⟨⟨fun k hk => ?_⟩, fun q hq => ?_, h.num⟩
  · obtain ⟨g, hA, hg, hF, hc, _⟩ := h.row.get k hk
    refine ⟨g, 0, hA, hF.2, fun i hi j v hv => ?_⟩
    obtain ⟨g', hA', _, _, hc', _⟩ := h.row.get i hi
    obtain rfl : g = g' := by rw [hA] at hA'; injection hA' with e; injection e
    have hj : j < 10 := (List.getElem?_eq_some_iff.1 hv).1
    rw [Nat.zero_add, hc' j hj]; exact hv
  · exact (OwnPts.mem h.pts (List.mem_map.2 ⟨q, hq, rfl⟩)).reads
end OwnHs
end Go.Proofs.Ytkmbkihfdilmbaa.Im
namespace Go.Proofs.Ytkmbkihfdilmbaa.Im
open Go Go.RowKit
open Rl (En Lg)
open Qu (Cf)
set_option linter.unusedSectionVars false
variable [Lo]
set_option maxRecDepth 100000
set_option linter.unusedVariables false
attribute [local go_sem ↓] loadAt_hard storeAt_hard
end Go.Proofs.Ytkmbkihfdilmbaa.Im
namespace Go.Proofs.Ytkmbkihfdilmbaa.Im
open Go.RowKit
open Rl (En Lg)
open Qu (Cf)
set_option linter.unusedSectionVars false
variable [Lo]
set_option maxRecDepth 100000
set_option linter.unusedVariables false
namespace OwnCs
variable {w w' : World} {B B' N N' : Nat} {A : Option Addr} {c : Nat} {M : List Cq}
end OwnCs
end Go.Proofs.Ytkmbkihfdilmbaa.Im
namespace Go.Proofs.Ytkmbkihfdilmbaa.Im
open Go.RowKit
open Rl (En Lg)
open Qu (Cf)
set_option linter.unusedSectionVars false
variable [Lo]
set_option maxRecDepth 100000
set_option linter.unusedVariables false
structure Ia where
  h : Option Addr
  ch : Nat
  v : Option Addr
  cv : Nat
namespace OwnIm
variable {w w' : World} {B B' N N' : Nat} {i : Ia} {Q : List Hq} {L : List Vt}
end OwnIm
end Go.Proofs.Ytkmbkihfdilmbaa.Im
namespace Go.Proofs.Ytkmbkihfdilmbaa.Im
open Go Go.RowKit
open Rl (En Lg)
open Qu (Cf)
set_option maxRecDepth 100000
set_option linter.unusedVariables false
attribute [local go_sem ↓] loadAt_hard storeAt_hard loadAt_log1 storeAt_log1 loadAt_conf3 storeAt_conf3
theorem IsPt.cis {w : World} {B : Nat} {p : Pt} {a : Ad} (h : IsPt w B p a) : CIs w B p.cf a.o a.n a.l a.co a.cn a.cl :=
  ⟨h.o, h.n, h.l, h.ro.2, h.rn.2, h.rl.2, h.ro.1, h.rn.1, h.rl.1⟩
structure FewK (p : Pt) : Prop where
  es : p.log.es.length ≤ 90000
  sh : Short p.cf
theorem ldLogH {w : World} {cs : Array Value} {t : TypeId} {b k : Nat} {v1 v2 v3 : Value} (h : w.heap[b]? = some (.cells cs t (0, 0))) (h1 : cs[k]? = some v1) (h2 : cs[k + 1]? = some v2) (h3 : cs[k + 2]? = some v3) :
    (ldX 25 (.pointer (some ⟨b, k, none⟩))).run Try.prog w = .ok (.agg #[v1, v2, v3]) w :=
  run_loadAt_mid w b k 25 [v1, v2, v3] _ (fun j v hv => by
    rw [row_cell h (k + j)]
    rcases j with _ | _ | _ | j
    · simpa using h1.trans (by simpa using hv)
    · simpa using h2.trans (by simpa using hv)
    · simpa using h3.trans (by simpa using hv)
    · simp at hv) Try.underlying25 rfl (by rw [info_log33]; rfl)
theorem ldConfH {w : World} {cs : Array Value} {t : TypeId} {b k : Nat} {v1 v2 v3 : Value} (h : w.heap[b]? = some (.cells cs t (0, 0))) (h1 : cs[k]? = some v1) (h2 : cs[k + 1]? = some v2) (h3 : cs[k + 2]? = some v3) :
    (ldX 37 (.pointer (some ⟨b, k, none⟩))).run Try.prog w = .ok (.agg #[v1, v2, v3]) w :=
  run_loadAt_mid w b k 37 [v1, v2, v3] _ (fun j v hv => by
    rw [row_cell h (k + j)]
    rcases j with _ | _ | _ | j
    · simpa using h1.trans (by simpa using hv)
    · simpa using h2.trans (by simpa using hv)
    · simpa using h3.trans (by simpa using hv)
    · simp at hv) Try.underlying37 rfl (by rw [info_conf33]; rfl)
set_option maxHeartbeats 1600000 in
theorem sameH_any (x : Hd) (a a' : Ad) (hf : FewK x.p) (w : World) (h : IsPt w w.heap.size x.p a) (h' : IsPt w w.heap.size x.p a') :
    Calls Try.prog 30 #[.agg #[.int .i64 x.g, .int .i64 x.t, .int .i64 x.v, .int .i64 x.p.log.base, .int .i64 x.p.log.term, .slice a.e x.p.log.es.length a.ce, .slice a.o x.p.cf.old.length a.co, .slice a.n x.p.cf.new.length a.cn, .slice a.l x.p.cf.lrn.length a.cl, .slice a.s x.p.sn.length a.cs], .agg #[.int .i64 x.g, .int .i64 x.t, .int .i64 x.v, .int .i64 x.p.log.base, .int .i64 x.p.log.term, .slice a'.e x.p.log.es.length a'.ce, .slice a'.o x.p.cf.old.length a'.co, .slice a'.n x.p.cf.new.length a'.cn, .slice a'.l x.p.cf.lrn.length a'.cl, .slice a'.s x.p.sn.length a'.cs]] w fun e w' => e = .returned (.bool true) ∧ Below w.heap.size w w' := by
  obtain ⟨wA, hwA⟩ : ∃ wA, wA = (w.alloc (.cells #[.int .i64 x.g, .int .i64 x.t, .int .i64 x.v, .int .i64 x.p.log.base, .int .i64 x.p.log.term, .slice a.e x.p.log.es.length a.ce, .slice a.o x.p.cf.old.length a.co, .slice a.n x.p.cf.new.length a.cn, .slice a.l x.p.cf.lrn.length a.cl, .slice a.s x.p.sn.length a.cs] 52)).alloc (.cells #[.int .i64 x.g, .int .i64 x.t, .int .i64 x.v, .int .i64 x.p.log.base, .int .i64 x.p.log.term, .slice a'.e x.p.log.es.length a'.ce, .slice a'.o x.p.cf.old.length a'.co, .slice a'.n x.p.cf.new.length a'.cn, .slice a'.l x.p.cf.lrn.length a'.cl, .slice a'.s x.p.sn.length a'.cs] 52) := ⟨_, rfl⟩
  have hbA : Below w.heap.size w wA := by rw [hwA]; exact ((Below.refl _ w).alloc (Nat.le_refl _) _).alloc (by simp) _
  have r0 : wA.heap[w.heap.size]? = some (.cells #[.int .i64 x.g, .int .i64 x.t, .int .i64 x.v, .int .i64 x.p.log.base, .int .i64 x.p.log.term, .slice a.e x.p.log.es.length a.ce, .slice a.o x.p.cf.old.length a.co, .slice a.n x.p.cf.new.length a.cn, .slice a.l x.p.cf.lrn.length a.cl, .slice a.s x.p.sn.length a.cs] 52 (0, 0)) := by rw [hwA, heap_alloc_old _ _ (by simp)]; exact heap_alloc_new w _
  have r1 : wA.heap[w.heap.size + 1]? = some (.cells #[.int .i64 x.g, .int .i64 x.t, .int .i64 x.v, .int .i64 x.p.log.base, .int .i64 x.p.log.term, .slice a'.e x.p.log.es.length a'.ce, .slice a'.o x.p.cf.old.length a'.co, .slice a'.n x.p.cf.new.length a'.cn, .slice a'.l x.p.cf.lrn.length a'.cl, .slice a'.s x.p.sn.length a'.cs] 52 (0, 0)) := by
    have := heap_alloc_new (w.alloc (.cells #[.int .i64 x.g, .int .i64 x.t, .int .i64 x.v, .int .i64 x.p.log.base, .int .i64 x.p.log.term, .slice a.e x.p.log.es.length a.ce, .slice a.o x.p.cf.old.length a.co, .slice a.n x.p.cf.new.length a.cn, .slice a.l x.p.cf.lrn.length a.cl, .slice a.s x.p.sn.length a.cs] 52)) (.cells #[.int .i64 x.g, .int .i64 x.t, .int .i64 x.v, .int .i64 x.p.log.base, .int .i64 x.p.log.term, .slice a'.e x.p.log.es.length a'.ce, .slice a'.o x.p.cf.old.length a'.co, .slice a'.n x.p.cf.new.length a'.cn, .slice a'.l x.p.cf.lrn.length a'.cl, .slice a'.s x.p.sn.length a'.cs] 52)
    rw [World.size_alloc, ← hwA] at this
    exact this
  have hA := (h.below hbA).more hbA.size
  have hA' := (h'.below hbA).more hbA.size
  have HL := hid ((log_same x.p.log x.p.log a.e a'.e a.ce a'.ce (by have := hf.es; omega) wA hA.es hA'.es).mono (fun e w' hh => (⟨by rw [hh.1, decide_eq_true rfl], hh.2⟩ : e = .returned (.bool true) ∧ Below wA.heap.size wA w')))
  have c0 := row_cell r0 0
  have c1 := row_cell r0 1
  have c2 := row_cell r0 2
  have d0 := row_cell r1 0
  have d1 := row_cell r1 1
  have d2 := row_cell r1 2
  have l0 := ldLogH (k := 3) r0 rfl rfl rfl
  have l1 := ldLogH (k := 3) r1 rfl rfl rfl
  rw [hwA] at c0 c1 c2 d0 d1 d2 l0 l1
  have HX := hid (And.intro r0 (And.intro r1 (And.intro hbA (And.intro h (And.intro h' hf)))))
  clear r0 r1 hbA h h' hA hA' hf
  go_enter Try.func30, Try.ntmps30
  go_wp2_with fail
  rw [← hwA]
  clear hwA c0 c1 c2 d0 d1 d2 l0 l1
  refine HL.out.mono ?_
  rintro e w1 ⟨rfl, hb1⟩
  have r01 := (hb1.block _ (row_lt HX.out.1)).trans HX.out.1
  have r11 := (hb1.block _ (row_lt HX.out.2.1)).trans HX.out.2.1
  have hbw1 := HX.out.2.2.1.trans (hb1.mono HX.out.2.2.1.size)
  have l2 := ldConfH (k := 6) r01 rfl rfl rfl
  have l3 := ldConfH (k := 6) r11 rfl rfl rfl
  have HC := hid (sameConf_any w1.heap.size w1.heap.size x.p.cf x.p.cf HX.out.2.2.2.2.2.sh HX.out.2.2.2.2.2.sh _ _ _ _ _ _ _ _ _ _ _ _ w1 ((HX.out.2.2.2.1.below hbw1).more hbw1.size).cis ((HX.out.2.2.2.2.1.below hbw1).more hbw1.size).cis (Nat.le_refl _) (Nat.le_refl _) rfl)
  have HB1 := hid (And.intro r01 (And.intro r11 hbw1))
  clear r01 r11 hbw1 hb1
  go_wp2_with fail
  refine HC.out.mono ?_
  rintro e w2 ⟨rfl, hb2⟩
  have r02 := (hb2.block _ (row_lt HB1.out.1)).trans HB1.out.1
  have r12 := (hb2.block _ (row_lt HB1.out.2.1)).trans HB1.out.2.1
  have hbw2 := HB1.out.2.2.trans (hb2.mono HB1.out.2.2.size)
  have c9 : w2.cell? ⟨w.heap.size, 9, none⟩ = some (.slice a.s x.p.sn.length a.cs) := row_cell r02 9
  have d9 : w2.cell? ⟨w.heap.size + 1, 9, none⟩ = some (.slice a'.s x.p.sn.length a'.cs) := row_cell r12 9
  have hrs := HX.out.2.2.2.1.rs.1
  have HS := hid (same_T w2.heap.size w2.heap.size a.s a'.s a.cs a'.cs x.p.sn x.p.sn.length rfl (Nat.le_trans hrs.1 hrs.2) w2 ((HX.out.2.2.2.1.below hbw2).more hbw2.size).s ((HX.out.2.2.2.2.1.below hbw2).more hbw2.size).s)
  have HB2 := hid hbw2
  clear r02 r12 hbw2 hb2 hrs l2 l3
  go_wp2_with fail
  refine HS.out.mono ?_
  rintro e w3 ⟨rfl, n3, rfl⟩
  go_wp2_with fail
  go_ret
  exact ⟨rfl, below_drewN HB2.out _⟩
end Go.Proofs.Ytkmbkihfdilmbaa.Im
namespace Go.Proofs.Ytkmbkihfdilmbaa.Im
open Go.RowKit
set_option maxRecDepth 100000
def over (xs : List Value) : Nat → List Value → List Value
  | _, [] => xs
  | o, v :: vs => over (xs.set o v) (o + 1) vs
section
variable {α : Type} {f : α → List Value} {size : Nat} {e : TypeId} {w : World} {F : Nat → Prop} {c g : Nat} {L : List α}
theorem RowIn.there (h : RowIn f size e w F (some ⟨g, 0, none⟩) c L) (i : Nat) (hi : i < L.length) : w.there g (i * size) size := fun j hj => by
  obtain ⟨g', hA, _, _, hc, hf⟩ := h.get i hi
  obtain rfl : g = g' := by injection hA with e; injection e
  refine ⟨?_, hf _⟩
  rw [hc j hj, List.getElem?_eq_getElem (by rw [h.fits]; exact hj)]
  rfl
theorem RowIn.range (h : RowIn f size e w F (some ⟨g, 0, none⟩) c L) (i : Nat) (hi : i < L.length) : w.rangeAt g (i * size) (f L[i]) := fun j v hv => by
  obtain ⟨g', hA, _, _, hc, hf⟩ := h.get i hi
  obtain rfl : g = g' := by injection hA with e; injection e
  have hj : j < size := by have := (List.getElem?_eq_some_iff.1 hv).1; rwa [h.fits] at this
  rw [hc j hj]; exact hv
end
theorem stAt {t : TypeId} {n : Nat} (hi : (Try.prog.info? t).map (·.size) = some n) {w : World} {b o : Nat} (ht : w.there b o n) (cs : Array Value) (hn : cs.size = n) (h1 : cs.all (·.oneCell') = true) : (stX t (.pointer (some ⟨b, o, none⟩)) (.agg cs)).run Try.prog w = .ok () (w.setCells b o cs.toList) :=
  run_storeAt_mid w b o t cs (hn ▸ ht) (by rw [hi, hn]) h1
end Go.Proofs.Ytkmbkihfdilmbaa.Im
namespace Go.Proofs.Ytkmbkihfdilmbaa.Im
open Go.RowKit
set_option maxRecDepth 100000
set_option linter.unusedVariables false
end Go.Proofs.Ytkmbkihfdilmbaa.Im
namespace Go.Proofs.Ytkmbkihfdilmbaa.Im
open Go.RowKit
open Rl (En Lg)
set_option maxRecDepth 100000
set_option linter.unusedVariables false
theorem loadAt_entry1 (a : Value) : Instr.loadAt 64 a = ldX 64 a := rfl
theorem storeAt_entry1 (a v : Value) : Instr.storeAt 64 a v = stX 64 a v := rfl
attribute [local go_sem ↓] loadAt_entry1 storeAt_entry1
end Go.Proofs.Ytkmbkihfdilmbaa.Im
namespace Go.Proofs.Ytkmbkihfdilmbaa.Im
open Go.RowKit
open Rl (En Lg)
set_option maxRecDepth 100000
set_option linter.unusedVariables false
attribute [local go_sem ↓] loadAt_entry1 storeAt_entry1
theorem isEnts_row {w : World} {B : Nat} {A : Option Addr} {L : List En} (h : IsEnts w B A L) : ∃ M : List El, M.map (·.e) = L ∧ Reads w B M ∧ IsRow cellsE 3 w B A M := by
  obtain ⟨M, h1, h2, h3⟩ := h.flat
  refine ⟨M, h1, h2, ⟨fun k hk => ?_⟩⟩
  have hkL : k < L.length := by rw [← h1, List.length_map]; exact hk
  obtain ⟨b, off, e, hb, _⟩ := h.cells k hkL
  refine ⟨b, off, e, hb, fun i hi j v hv => ?_⟩
  have hj : j < 3 := (List.getElem?_eq_some_iff.1 hv).1
  have h4 := h3 ⟨b, off, none⟩ e (i * 3 + j) v (by rw [flat_get cellsE 3 (fun _ => rfl) M i hi j hj]; exact hv)
  rw [add_off, ← Nat.add_assoc] at h4
  exact h4
def Chain {α : Type} (R : Nat → Nat → α → Prop) : Nat → Nat → List α → Prop
  | B, N, [] => B ≤ N
  | B, N, q :: l => ∃ m, B ≤ m ∧ R B m q ∧ Chain R m N l
section
variable {α : Type} {R R' : Nat → Nat → α → Prop}
theorem Chain.le : ∀ {l : List α} {B N : Nat}, Chain R B N l → B ≤ N
  | [], _, _, h => h
  | _ :: _, _, _, ⟨_, h1, _, h3⟩ => Nat.le_trans h1 (Chain.le h3)
theorem Chain.mem {q : α} : ∀ {l : List α} {B N : Nat}, Chain R B N l → q ∈ l → ∃ a b, B ≤ a ∧ b ≤ N ∧ R a b q
  | _ :: _, _, _, ⟨m, h1, h2, h3⟩, hq => by
    rcases List.mem_cons.1 hq with rfl | hq
    · exact ⟨_, m, Nat.le_refl _, Chain.le h3, h2⟩
    · obtain ⟨a, b, q1, q2, q3⟩ := Chain.mem h3 hq
      exact ⟨a, b, by omega, q2, q3⟩
end
def OwnEl (w : World) (B N : Nat) (q : El) : Prop := OwnsB 5 w B q.A q.c q.e.d ∧ ∀ k, blk q.A = some k → k < N
structure EvE (w : World) (lo : Nat) (A : Option Addr) (c : Nat) (M : List El) (k : Nat) (W : World) (M1 : List El) : Prop where
  len : M1.length = k
  row : RowIn cellsE 3 64 W (fun k => w.heap.size ≤ k) A c (M1 ++ M.drop k)
  ch : Chain (OwnEl W) lo W.heap.size M1
  val : M1.map (·.e) = (M.map (·.e)).take k
  bel : Below w.heap.size w W
  lo : w.heap.size ≤ lo
end Go.Proofs.Ytkmbkihfdilmbaa.Im
namespace Go.Proofs.Ytkmbkihfdilmbaa
open Go
set_option maxRecDepth 100000
structure Rc (δ : Type) where
  ops : Array Oper
  nt : Nat
  step : Nat → Option Nat
  val : δ → Nat → Value
  inv : δ → Nat → World → Prop
structure Jc {δ : Type} (C : Rc δ) (a0 : Act) (X : δ) (p : Nat) (listed : Array Bool) (a : Act) (w : World) : Prop where
  size : a.tmps.size = C.nt
  defers : a.defers = a0.defers
  keep : ∀ s : Nat, (∀ (j : Nat) (o : Oper), C.ops[j]? = some o → o.dst ≠ some s) → a.eval (.tmp s) = a0.eval (.tmp s)
  lsize : listed.size = C.ops.size
  clos : ∀ (j : Nat) (o : Oper), C.ops[j]? = some o → listed.getD j false = true → ∀ e ∈ o.after, Region.binds .any e = true → listed.getD e.on false = true
  slots : ∀ (j : Nat) (o : Oper) (d : Nat), C.ops[j]? = some o → o.dst = some d → listed.getD j false = true → a.eval (.tmp d) = C.val X j
  call : ∀ j, j < C.ops.size → ∀ k, C.step j = some k → (listed.getD j false = true ↔ k < p)
  inv : C.inv X p w
structure Rc.Ok {δ : Type} (C : Rc δ) : Prop where
  nt : ∀ (j : Nat) (o : Oper) (d : Nat), C.ops[j]? = some o → o.dst = some d → d < C.nt
  once : ∀ (i j : Nat) (o o' : Oper) (d : Nat), C.ops[i]? = some o → C.ops[j]? = some o' → o.dst = some d → o'.dst = some d → i = j
  uniq : ∀ i j k, i < C.ops.size → j < C.ops.size → C.step i = some k → C.step j = some k → i = j
theorem evput_ne (a : Act) {d : Option Tmp} {t : Nat} (v : Value) (h : d ≠ some t) : (a.put d v).eval (.tmp t) = a.eval (.tmp t) := by
  rcases d with _ | d
  · rfl
  · have : d ≠ t := fun e => h (by rw [e])
    simp [Act.put, Act.eval, Array.getElem?_setIfInBounds_ne this]
theorem evput_self (a : Act) {d : Nat} (v : Value) (h : d < a.tmps.size) : (a.put (some d) v).eval (.tmp d) = v := by
  simp [Act.put, Act.eval, h]
theorem listed_set (l : Array Bool) (j m : Nat) (hj : j < l.size) : (l.setIfInBounds j true).getD m false = if m = j then true else l.getD m false := by
  rw [Array.getD_eq_getD_getElem?, Array.getD_eq_getD_getElem?]
  by_cases e : m = j
  · subst e
    rw [if_pos rfl, Array.getElem?_setIfInBounds_self_of_lt hj]; rfl
  · rw [if_neg e, Array.getElem?_setIfInBounds_ne (by omega)]
theorem listed_no {l : Array Bool} {j : Nat} (h : l.getD j true = false) : l.getD j false = false := by
  rw [Array.getD_eq_getD_getElem?] at h ⊢
  rcases hl : l[j]? with _ | b
  · rfl
  · rw [hl] at h; exact h
section
variable {δ : Type} {C : Rc δ} {a0 a : Act} {X X' : δ} {p p' : Nat} {listed : Array Bool} {w w' : World}
theorem Jc.put (hC : C.Ok) (h : Jc C a0 X p listed a w) (j : Nat) (o : Oper) (hj : C.ops[j]? = some o) (ha : ∀ e ∈ o.after, Region.binds .any e = true → listed.getD e.on false = true) (v : Value) (hinv : C.inv X' p' w')
    (hk : ∀ (m : Nat), m < C.ops.size → listed.getD m false = true → C.val X' m = C.val X m) (hu : listed.getD j true = false) (hv : ∀ d, o.dst = some d → v = C.val X' j)
    (hc : ∀ m, m < C.ops.size → ∀ k, C.step m = some k → ((if m = j then true else listed.getD m false) = true ↔ k < p')) :
    Jc C a0 X' p' (listed.setIfInBounds j true) (a.put o.dst v) w' := by
  have hjs : j < C.ops.size := (Array.getElem?_eq_some_iff.1 hj).1
  have hjl : j < listed.size := by rw [h.lsize]; exact hjs
  refine ⟨?_, ?_, fun s hs => ?_, by simp [h.lsize], fun m om hm hl e he hb => ?_, fun m om d hm hd hl => ?_, fun m hm k hmk => ?_, hinv⟩
  · rcases hd : o.dst with _ | d
    · exact h.size
    · simp [Act.put, h.size]
  · rcases hd : o.dst with _ | d
    · exact h.defers
    · exact h.defers
  · rw [evput_ne a v (hs j o hj)]; exact h.keep s hs
  · rw [listed_set _ _ _ hjl] at hl ⊢
    by_cases e1 : e.on = j
    · rw [if_pos e1]
    · rw [if_neg e1]
      by_cases e2 : m = j
      · subst e2
        rw [hj] at hm
        obtain rfl := Option.some.inj hm
        exact ha e he hb
      · rw [if_neg e2] at hl
        exact h.clos m om hm hl e he hb
  · rw [listed_set _ _ _ hjl] at hl
    by_cases e2 : m = j
    · subst e2
      rw [hj] at hm
      obtain rfl := Option.some.inj hm
      rw [hd, evput_self a v (by rw [h.size]; exact hC.nt m o d hj hd)]
      exact hv d hd
    · rw [if_neg e2] at hl
      rw [evput_ne a v (fun e => e2 (hC.once m j om o d hm hj hd e)), hk m (Array.getElem?_eq_some_iff.1 hm).1 hl]
      exact h.slots m om d hm hd hl
  · rw [listed_set _ _ _ hjl]; exact hc m hm k hmk
theorem Jc.next (h : Jc C a0 X p listed a w) {j k : Nat} (hj : j < C.ops.size) (hk : C.step j = some k) (hu : listed.getD j true = false) (hb : k = 0 ∨ ∃ i, i < C.ops.size ∧ C.step i = some (k - 1) ∧ listed.getD i false = true) : k = p := by
  have h1 : p ≤ k := by
    rcases Nat.lt_or_ge k p with h' | h'
    · have := (h.call j hj k hk).2 h'
      rw [listed_no hu] at this; cases this
    · exact h'
  rcases hb with h0 | ⟨i, hi, hik, hil⟩
  · omega
  · have := (h.call i hi _ hik).1 hil
    omega
theorem Jc.ahead (h : Jc C a0 X p listed a w) {j m k : Nat} {om : Oper} (hm : C.ops[m]? = some om) (hk : C.step m = some k) (hu : listed.getD j true = false) (hw : ∃ e ∈ om.after, Region.binds .any e = true ∧ e.on = j) : p ≤ k := by
  rcases Nat.lt_or_ge k p with h' | h'
  · have hl := (h.call m (Array.getElem?_eq_some_iff.1 hm).1 k hk).2 h'
    obtain ⟨e, he, hb, rfl⟩ := hw
    have := h.clos m om hm hl e he hb
    rw [listed_no hu] at this; cases this
  · exact h'
end
theorem Jc.kept {δ : Type} {C : Rc δ} {a0 a : Act} {X : δ} {p : Nat} {listed : Array Bool} {w : World} (h : Jc C a0 X p listed a w) (s : Nat) (hb : (C.ops.all fun o => decide (o.dst ≠ some s)) = true) : a.eval (.tmp s) = a0.eval (.tmp s) :=
  h.keep s (fun j o hj => by
    have := (Array.all_eq_true_iff_forall_mem.1 hb) o (Array.mem_of_getElem? hj)
    simpa using this)
section
variable {δ : Type} {P : Program} {C : Rc δ} {a0 a : Act} {X : δ} {p : Nat} {listed : Array Bool} {w : World} {Q : Exit → Act → World → Prop}
end
end Go.Proofs.Ytkmbkihfdilmbaa
namespace Go.Proofs.Ytkmbkihfdilmbaa.Im
open Go Go.RowKit
open Rl (En Lg)
open Qu (Cf)
set_option maxRecDepth 100000
set_option linter.unusedVariables false
attribute [local go_sem ↓] loadAt_hard storeAt_hard loadAt_conf3 storeAt_conf3
local instance lo1 : Lo := ⟨0⟩
structure FewP (p : Pt) : Prop where
  es : p.log.es.length ≤ 100000
  d : ∀ e ∈ p.log.es, e.d.length ≤ 1000000000
  o : p.cf.old.length ≤ 100000
  n : p.cf.new.length ≤ 100000
  l : p.cf.lrn.length ≤ 100000
  s : p.sn.length ≤ 1000000000
structure RH (ad : Ad) (x : Hd) (b0 b1 lo hi : Nat) (w0 : World) (A5 : Option Addr) (c5 : Nat) (X : Pl) (p : Nat) (w : World) : Prop where
  bel : Below b0 w0 w
  sz : hi ≤ w.heap.size
  rowL : p ≤ 3 → w.heap[b0]? = some (.cells #[.int .i64 x.g, .int .i64 x.t, .int .i64 x.v, .int .i64 x.p.log.base, .int .i64 x.p.log.term, .slice A5 x.p.log.es.length c5, .slice ad.o x.p.cf.old.length ad.co, .slice ad.n x.p.cf.new.length ad.cn, .slice ad.l x.p.cf.lrn.length ad.cl, .slice ad.s x.p.sn.length ad.cs] 52 (0, 0))
  rowS : 3 < p → w.heap[b0]? = some (.cells #[.int .i64 x.g, .int .i64 x.t, .int .i64 x.v, .int .i64 x.p.log.base, .int .i64 x.p.log.term, .slice A5 x.p.log.es.length c5, .slice X.a.o x.p.cf.old.length X.a.co, .slice X.a.n x.p.cf.new.length X.a.cn, .slice X.a.l x.p.cf.lrn.length X.a.cl, .slice ad.s x.p.sn.length ad.cs] 52 (0, 0))
  res : w.heap[b1]? = some (.cells #[.int .i64 0, .int .i64 0, .int .i64 0, .int .i64 0, .int .i64 0, .slice none 0 0, .slice none 0 0, .slice none 0 0, .slice none 0 0, .slice none 0 0] 52 (0, 0))
  es : OwnE w lo hi A5 c5 x.p.log.es
  o1 : 0 < p → (OwnsI 3 w hi X.a.o X.a.co x.p.cf.old ∧ ∀ k, blk X.a.o = some k → k < X.m1) ∧ hi ≤ X.m1 ∧ X.m1 ≤ w.heap.size
  o2 : 1 < p → (OwnsI 3 w X.m1 X.a.n X.a.cn x.p.cf.new ∧ ∀ k, blk X.a.n = some k → k < X.m2) ∧ X.m1 ≤ X.m2 ∧ X.m2 ≤ w.heap.size
  o3 : 2 < p → (OwnsI 3 w X.m2 X.a.l X.a.cl x.p.cf.lrn ∧ ∀ k, blk X.a.l = some k → k < X.m3) ∧ X.m2 ≤ X.m3 ∧ X.m3 ≤ w.heap.size
section
variable {ad : Ad} {x : Hd} {b0 b1 lo hi : Nat} {w0 : World} {A5 : Option Addr} {c5 : Nat} {X : Pl} {p : Nat} {w w' : World}
end
theorem conf_there {w : World} {b : Nat} {cs : Array Value} {t : TypeId} (h : w.heap[b]? = some (.cells cs t (0, 0))) (o n : Nat) (hn : o + n ≤ cs.size) : w.there b o n := fun j hj => by
  rw [row_cell h (o + j), row_free h (o + j)]
  exact ⟨by rw [Array.getElem?_eq_getElem (by omega)]; rfl, rfl⟩
end Go.Proofs.Ytkmbkihfdilmbaa.Im
namespace Go.Proofs.Ytkmbkihfdilmbaa.Im
open Go Go.RowKit
open Rl (En Lg)
open Qu (Cf)
set_option maxRecDepth 100000
set_option linter.unusedVariables false
attribute [local go_sem ↓] loadAt_hard storeAt_hard loadAt_log1 storeAt_log1 loadAt_conf3 storeAt_conf3
local instance lo5 : Lo := ⟨0⟩
def chgd (h : Hd) (c : Ch) : Option Hd :=
  if c.k = 1 then some { h with t := c.t, v := c.v }
  else if c.k = 2 then (if c.f ≤ h.p.log.base ∨ h.p.log.last < c.f - 1 then none else some { h with p := { h.p with log := { h.p.log with es := h.p.log.es.take (c.f - h.p.log.base - 1).toNat ++ c.p.log.es } } })
  else some { h with p := ⟨sinceM h.p.log c.p.log.base c.p.log.term, c.p.cf, c.p.sn⟩ }
end Go.Proofs.Ytkmbkihfdilmbaa.Im
namespace Go.Proofs.Ytkmbkihfdilmbaa.Im
open Go Go.RowKit
open Rl (En Lg)
open Qu (Cf)
set_option maxRecDepth 100000
set_option linter.unusedVariables false
attribute [local go_sem ↓] loadAt_hard storeAt_hard loadAt_log1 storeAt_log1 loadAt_conf3 storeAt_conf3
local instance lo6 : Lo := ⟨0⟩
end Go.Proofs.Ytkmbkihfdilmbaa.Im
namespace Go.Proofs.Ytkmbkihfdilmbaa.Im
open Go.RowKit
open Rl (En Lg)
open Qu (Cf)
set_option maxRecDepth 100000
set_option linter.unusedVariables false
end Go.Proofs.Ytkmbkihfdilmbaa.Im
namespace Go.Proofs.Ytkmbkihfdilmbaa.Im
open Go.RowKit
open Rl (En Lg)
open Qu (Cf)
set_option maxRecDepth 100000
set_option linter.unusedVariables false
end Go.Proofs.Ytkmbkihfdilmbaa.Im
namespace Go.Proofs.Ytkmbkihfdilmbaa.Im
open Go.RowKit
open Rl (En Lg)
open Qu (Cf)
set_option maxRecDepth 100000
set_option linter.unusedVariables false
attribute [local go_sem ↓] loadAt_hard storeAt_hard
end Go.Proofs.Ytkmbkihfdilmbaa.Im
namespace Go.Proofs.Ytkmbkihfdilmbaa.Im
open Go Go.RowKit
set_option maxRecDepth 100000
set_option linter.unusedVariables false
attribute [local go_sem ↓] loadAt_hard storeAt_hard
structure At {α : Type} (lt : α → α → Bool) (L : List α) (x : α) (k : Nat) : Prop where
  le : k ≤ L.length
  ahead : ∀ i (h : i < L.length), i < k → lt L[i] x = true
  behind : ∀ i (h : i < L.length), k ≤ i → lt L[i] x = false
structure Bs {α : Type} (lt : α → α → Bool) (L : List α) (x : α) (i j : Nat) : Prop where
  ahead : ∀ a (h : a < L.length), a < i → lt L[a] x = true
  behind : ∀ a (h : a < L.length), j ≤ a → lt L[a] x = false
end Go.Proofs.Ytkmbkihfdilmbaa.Im
namespace Go.Proofs.Ytkmbkihfdilmbaa.Im
open Go.RowKit
set_option maxRecDepth 100000
set_option linter.unusedVariables false
end Go.Proofs.Ytkmbkihfdilmbaa.Im
namespace Go.Proofs.Ytkmbkihfdilmbaa.Im
open Go Go.RowKit
set_option maxRecDepth 100000
set_option linter.unusedVariables false
attribute [local go_sem ↓] loadAt_hard storeAt_hard
def ins {α : Type} (lt : α → α → Bool) (L : List α) (x : α) : List α := L.filter (fun y => lt y x) ++ x :: L.filter (fun y => lt x y)
end Go.Proofs.Ytkmbkihfdilmbaa.Im
namespace Go.Proofs.Ytkmbkihfdilmbaa.Im
open Go.RowKit
open Rl (En Lg)
open Qu (Cf)
set_option maxRecDepth 100000
set_option linter.unusedVariables false
attribute [local go_sem ↓] loadAt_hard storeAt_hard
end Go.Proofs.Ytkmbkihfdilmbaa.Im
namespace Go.Proofs.Ytkmbkihfdilmbaa.Im
open Go Go.RowKit
set_option maxRecDepth 100000
set_option linter.unusedVariables false
end Go.Proofs.Ytkmbkihfdilmbaa.Im
namespace Go.Proofs.Ytkmbkihfdilmbaa.Im
open Go.RowKit
set_option maxRecDepth 100000
set_option linter.unusedVariables false
end Go.Proofs.Ytkmbkihfdilmbaa.Im
namespace Go.Proofs.Ytkmbkihfdilmbaa.Im
open Go Go.RowKit
set_option maxRecDepth 100000
set_option linter.unusedVariables false
end Go.Proofs.Ytkmbkihfdilmbaa.Im
namespace Go.Proofs.Ytkmbkihfdilmbaa.Im
open Go.RowKit
open Rl (En Lg)
open Qu (Cf)
set_option maxRecDepth 100000
set_option linter.unusedVariables false
attribute [local go_sem ↓] loadAt_hard storeAt_hard
local instance lo2 : Lo := ⟨0⟩
structure EvH (w : World) (lo : Nat) (A : Option Addr) (c : Nat) (M : List Hq) (k : Nat) (W : World) (M1 : List Hq) : Prop where
  len : M1.length = k
  row : RowIn cellsH 10 52 W (fun k => w.heap.size ≤ k) A c (M1 ++ M.drop k)
  ch : OwnPts W lo W.heap.size (M1.map fun q => (q.h.p, q.a))
  val : M1.map (·.h) = (M.map (·.h)).take k
  bel : Below w.heap.size w W
  lo : w.heap.size ≤ lo
end Go.Proofs.Ytkmbkihfdilmbaa.Im
namespace Go.Proofs.Ytkmbkihfdilmbaa.Im
open Go.RowKit
open Rl (En Lg)
open Qu (Cf)
set_option maxRecDepth 100000
set_option linter.unusedVariables false
local instance lo3 : Lo := ⟨0⟩
end Go.Proofs.Ytkmbkihfdilmbaa.Im
namespace Go.Proofs.Ytkmbkihfdilmbaa.Im
open Go Go.RowKit
open Rl (En Lg)
open Qu (Cf)
set_option maxRecDepth 100000
set_option linter.unusedVariables false
attribute [local go_sem ↓] loadAt_hard storeAt_hard
local instance lo7 : Lo := ⟨0⟩
def apply (x : Im) (c : Ch) : Im × Int :=
  if c.k = 1 ∨ c.k = 2 ∨ c.k = 3 then
    match x.hs.find? (fun h => decide (h.g = c.g)) with
    | none => (⟨[], []⟩, 6)
    | some h => match chgd h c with
      | none => (⟨[], []⟩, 3)
      | some y => (⟨ins ltH x.hs y, x.vs⟩, 0)
  else if c.k = 4 then (⟨x.hs, ins ltV x.vs c.a⟩, 0)
  else (⟨[], []⟩, 13)
section
variable {w W W' : World} {v1 v2 : Value} {c : Ch} {ac : Ad}
end
end Go.Proofs.Ytkmbkihfdilmbaa.Im
namespace Go.Proofs.Ytkmbkihfdilmbaa.Im
open Go Go.RowKit
open Rl (En Lg)
open Qu (Cf)
set_option maxRecDepth 100000
set_option linter.unusedVariables false
attribute [local go_sem ↓] loadAt_hard storeAt_hard
local instance lo8 : Lo := ⟨0⟩
end Go.Proofs.Ytkmbkihfdilmbaa.Im
namespace Go.Proofs.Ytkmbkihfdilmbaa.Im
open Go.RowKit
open Rl (En Lg)
open Qu (Cf)
set_option maxRecDepth 100000
set_option linter.unusedVariables false
attribute [local go_sem ↓] loadAt_conf3 storeAt_conf3
instance lo0 : Lo := ⟨0⟩
def OwnCf (w : World) (B N : Nat) (c : Cf) (a : Ad) : Prop := ∃ m1 m2, (B ≤ m1 ∧ m1 ≤ m2 ∧ m2 ≤ N) ∧ (OwnsI 3 w B a.o a.co c.old ∧ ∀ k, blk a.o = some k → k < m1) ∧ (OwnsI 3 w m1 a.n a.cn c.new ∧ ∀ k, blk a.n = some k → k < m2) ∧ OwnsI 3 w m2 a.l a.cl c.lrn
theorem OwnCf.nil (w : World) {B N : Nat} (h : B ≤ N) : OwnCf w B N ⟨[], [], []⟩ A0 := ⟨B, B, ⟨Nat.le_refl _, Nat.le_refl _, h⟩, ⟨OwnsI.nil _ _ _, fun k hk => by cases hk⟩, ⟨OwnsI.nil _ _ _, fun k hk => by cases hk⟩, OwnsI.nil _ _ _⟩
theorem OwnsI.below_ {e : TypeId} {w w' : World} {base c : Nat} {A : Option Addr} {l : List Int} (h : OwnsI e w base A c l) (hb : Below w.heap.size w w') : OwnsI e w' base A c l := ownsI_turned h (S := fun _ => False) (Turned.ofBelow _ hb) (fun _ _ h => h)
end Go.Proofs.Ytkmbkihfdilmbaa.Im
namespace Go.Proofs.Ytkmbkihfdilmbaa
open Go.RowKit
end Go.Proofs.Ytkmbkihfdilmbaa
namespace Go.Proofs.Ytkmbkihfdilmbaa
open Go.RowKit
structure Box3 (w : World) (b : Nat) (v0 v1 v2 : Value) : Prop where
  c0 : w.cell? ⟨b, 0, none⟩ = some v0
  c1 : w.cell? ⟨b, 1, none⟩ = some v1
  c2 : w.cell? ⟨b, 2, none⟩ = some v2
theorem Box3.below {w w' : World} {B b : Nat} {v0 v1 v2 : Value} (h : Box3 w b v0 v1 v2) (hb : Below B w w') (hlt : b < B) : Box3 w' b v0 v1 v2 :=
  ⟨(hb.cell (p := ⟨b, 0, none⟩) hlt).trans h.c0, (hb.cell (p := ⟨b, 1, none⟩) hlt).trans h.c1, (hb.cell (p := ⟨b, 2, none⟩) hlt).trans h.c2⟩
end Go.Proofs.Ytkmbkihfdilmbaa
namespace Go.Proofs.Ytkmbkihfdilmbaa.Im
open Go.RowKit
open Rl (En Lg)
open Qu (Cf)
set_option maxRecDepth 100000
set_option linter.unusedVariables false
attribute [local go_sem ↓] loadAt_conf3 storeAt_conf3
theorem OwnCf.cis {w : World} {B N : Nat} {c : Cf} {a : Ad} (h : OwnCf w B N c a) : CIs w w.heap.size c a.o a.n a.l a.co a.cn a.cl := by
  obtain ⟨m1, m2, _, ⟨h1, _⟩, ⟨h2, _⟩, h3⟩ := h
  have r1 := ownsI_room h1
  have r2 := ownsI_room h2
  have r3 := ownsI_room h3
  exact ⟨h1.reads, h2.reads, h3.reads, r1.2, r2.2, r3.2, r1.1, r2.1, r3.1⟩
theorem OwnCf.below {w w' : World} {B N : Nat} {c : Cf} {a : Ad} (h : OwnCf w B N c a) (hb : Below w.heap.size w w') : OwnCf w' B N c a := by
  obtain ⟨m1, m2, hm, ⟨h1, b1⟩, ⟨h2, b2⟩, h3⟩ := h
  exact ⟨m1, m2, hm, ⟨OwnsI.below_ h1 hb, b1⟩, ⟨OwnsI.below_ h2 hb, b2⟩, OwnsI.below_ h3 hb⟩
theorem OwnCf.wide {w : World} {B B' N N' : Nat} {c : Cf} {a : Ad} (h : OwnCf w B N c a) (hB : B' ≤ B) (hN : N ≤ N') : OwnCf w B' N' c a := by
  obtain ⟨m1, m2, hm, ⟨h1, b1⟩, h2, h3⟩ := h
  exact ⟨m1, m2, ⟨by omega, hm.2.1, by omega⟩, ⟨h1.weaken hB, b1⟩, h2, h3⟩
theorem OwnCf.keep {S : Nat → Prop} {w w' : World} {B N : Nat} {c : Cf} {a : Ad} (h : OwnCf w B N c a) (ht : Turned S w w') (hs : ∀ k, S k → k < B) : OwnCf w' B N c a := by
  obtain ⟨m1, m2, hm, ⟨h1, b1⟩, ⟨h2, b2⟩, h3⟩ := h
  exact ⟨m1, m2, hm, ⟨ownsI_turned h1 ht (fun k hk e => by have := (h1.blkLt k hk).1; have := hs k e; omega), b1⟩, ⟨ownsI_turned h2 ht (fun k hk e => by have := (h2.blkLt k hk).1; have := hs k e; omega), b2⟩, ownsI_turned h3 ht (fun k hk e => by have := (h3.blkLt k hk).1; have := hs k e; omega)⟩
end Go.Proofs.Ytkmbkihfdilmbaa.Im
namespace Go.Proofs.Ytkmbkihfdilmbaa
open Go.RowKit
set_option maxHeartbeats 400000 in
theorem packInts_any (B : Nat) (A : Option Addr) (c : Nat) (l : List Nat) (B' : Nat) (A' : Option Addr) (c' : Nat) (m : List Int) (hl : l.length + 8 * m.length ≤ 140737488354000) (w : World) (h : IsBytes w B A l) (hB : B ≤ w.heap.size) (hn : A = none → c = 0)
    (h' : IsInts w B' A' m) (hB' : B' ≤ w.heap.size) :
    Calls Try.prog 85 #[.slice A l.length c, .slice A' m.length c'] w fun e w' => ∃ A2 c2, e = .returned (.slice A2 (l.length + 8 + 8 * m.length) c2) ∧ OwnsB 5 w' w.heap.size A2 c2 (l ++ (Pk.enc m.length ++ Pk.encs m)) ∧ Below w.heap.size w w' := by
  have hf := fun w' => fresh_any B A c l (8 + 8 * m.length) (by omega) w'
  rw [show (((8 + 8 * m.length : Nat) : Int)) = 8 + 8 * (m.length : Int) from by omega] at hf
  have HF := hid hf
  clear hf
  go_enter Try.func85, Try.ntmps85
  go_wp2_with fail
  refine (HF.out _ h hB hn).mono ?_
  rintro e w1 ⟨A1, c1, rfl, hown, hbel⟩
  go_wp2_with fail
  refine (put_any w.heap.size A1 c1 l (m.length : Int) (by unfold InInt; omega) (by omega) _ hown hbel.size).mono ?_
  rintro e w2 ⟨A3, c3, rfl, hown2, hbel2⟩
  have hb2 : Below w.heap.size w w2 := hbel.trans hbel2
  clear hbel hbel2 hown
  go_wp2_with fail
  go_loopw [5, 19] (fun b i wr => ∃ k : Nat, ∃ A5 : Option Addr, ∃ c5 : Nat, k ≤ m.length ∧ i = .int .i64 k ∧ b = .slice A5 (l.length + 8 + 8 * k) c5 ∧ OwnsB 5 wr w.heap.size A5 c5 (l ++ (Pk.enc m.length ++ Pk.encs (m.take k))) ∧ Below w.heap.size w wr) (fun _ i _ => m.length - (RowKit.intOf i).toNat)
  case atStart => exact ⟨0, A3, c3, by omega, rfl, rfl, by simpa [Pk.encs] using hown2, hb2⟩
  case round =>
    clear hown2 hb2
    obtain ⟨k, A5, c5, hk, rfl, rfl, hown, hbel⟩ := hrel
    have hlen : (l ++ (Pk.enc m.length ++ Pk.encs (m.take k))).length = l.length + 8 + 8 * k := by
      rw [List.length_append, List.length_append, Pk.enc_length, Pk.encs_length, List.length_take]; omega
    have HL := hid hlen
    clear hlen
    by_cases hlt : k < m.length
    · have h1 := (h'.more hB').below hbel
      obtain ⟨b, off, rfl, _, hc⟩ := h1.cells k hlt
      have hck := hc k hlt
      have hv := h1.small m[k] (List.getElem_mem _)
      have C := put_any w.heap.size A5 c5 (l ++ (Pk.enc m.length ++ Pk.encs (m.take k))) m[k] hv (by have := HL.out; omega) wr hown hbel.size
      rw [HL.out] at C
      have HC := hid C
      have hv1 := hv.1
      have hv2 := hv.2
      clear hc h1 C hown hv
      go_wp2_with fail
      refine HC.out.mono ?_
      rintro e w3 ⟨A6, c6, rfl, hown3, hbel3⟩
      rw [List.append_assoc, List.append_assoc, ← Pk.encs_snoc, ← List.take_succ_eq_append_getElem hlt] at hown3
      have hb3 : Below w.heap.size w w3 := hbel.trans hbel3
      clear hbel3 HC
      have HB := hid hb3
      clear hb3 hbel
      go_wp2_with fail
      go_roundw
      case rel => exact ⟨k + 1, A6, c6, by omega, by go_num, by rw [show l.length + 8 + 8 * (k + 1) = l.length + 8 + 8 * k + 8 from by omega], hown3, HB.out⟩
      case measure => simp [RowKit.intOf]; omega
    · obtain rfl : k = m.length := by omega
      rw [List.take_length] at hown
      go_wp2_with fail
      go_ret
      exact ⟨A5, c5, rfl, hown, hbel⟩
end Go.Proofs.Ytkmbkihfdilmbaa
namespace Go.Proofs.Ytkmbkihfdilmbaa.Im
open Go.RowKit
open Rl (En Lg)
open Qu (Cf)
open Pk (enc encs)
set_option maxRecDepth 100000
set_option linter.unusedVariables false
attribute [local go_sem ↓] loadAt_hard storeAt_hard
structure Putp (B : Nat) (w w' : World) : Prop where
  bel : Below B w w'
  tag : ∀ (k : Nat) (cs : Array Value) (t : TypeId) (fr : Nat × Nat), w.heap[k]? = some (.cells cs t fr) → t ≠ 5 → w'.heap[k]? = some (.cells cs t fr)
theorem Putp.refl (B : Nat) (w : World) : Putp B w w := ⟨Below.refl B w, fun _ _ _ _ h _ => h⟩
theorem Putp.trans {B : Nat} {a b c : World} (h : Putp B a b) (h' : Putp B b c) : Putp B a c := ⟨h.bel.trans h'.bel, fun k cs t fr h1 h2 => h'.tag k cs t fr (h.tag k cs t fr h1 h2) h2⟩
theorem Putp.of {B : Nat} {a b : World} (h : Below a.heap.size a b) (hB : B ≤ a.heap.size) : Putp B a b := ⟨h.mono hB, fun k cs t fr h1 _ => (h.block k (row_lt h1)).trans h1⟩
theorem Putp.grown {B c : Nat} {A : Option Addr} {l : List Nat} {a b : World} (ho : OwnsB 5 a B A c l) (hg : a.grownBy b (blk A)) (hB : B ≤ a.heap.size) : Putp B a b :=
  ⟨below_grown hg hB (fun k hk => (ho.blkLt k hk).1), fun k cs t fr h1 h2 => (hg.block k (row_lt h1) (fun e => by
    rcases ho.row.2 with ⟨h0, _⟩ | ⟨g', cap, cur, hv, _, hh, _⟩
    · injection h0 with h0; rw [h0] at e; cases e
    · have hA : A = some ⟨g', 0, none⟩ := by injection hv
      rw [hA] at e
      obtain rfl : k = g' := by injection e
      rw [hh] at h1
      have := Option.some.inj h1
      injection this with _ h3
      exact h2 h3.symm)).trans h1⟩
structure Bq (B : Nat) (w w' : World) (A : Option Addr) (c : Nat) (l : List Nat) (q : Nat) : Prop where
  own : OwnsB 5 w' B A c l
  len : l.length = q
  put : Putp B w w'
  base : B ≤ w'.heap.size
theorem Bq.then_ {B : Nat} {a b c : World} {A A' : Option Addr} {k k' q q' : Nat} {l l' : List Nat} (h : Bq B a b A k l q) (h' : Bq B b c A' k' l' q') : Bq B a c A' k' l' q' := ⟨h'.own, h'.len, h.put.trans h'.put, h'.base⟩
def Told (B : Nat) (w : World) (l : List Nat) (q : Nat) (e : Ending) (w' : World) : Prop := ∃ A' c', e = .returned (.slice A' q c') ∧ Bq B w w' A' c' l q
theorem wpList_append_bytesG {w : World} {ops : Array Oper} {rest : List Oper} {o : Oper} {a : Act} {Q : Exit → Act → World → Prop} (hgd : o.guard = none) (s x : Operand)
    (ho : o.op = .call { callee := .builtin .append, args := #[s, x], argTypes := #[29, 29] })
    (B : Nat) (A : Option Addr) (c : Nat) (l : List Nat) (n : Nat) (hln : l.length = n) (hs : a.eval s = .slice A n c) (hown : OwnsB 5 w B A c l)
    (B' : Nat) (A' : Option Addr) (c' : Nat) (m : List Nat) (k : Nat) (hmk : m.length = k) (hx : a.eval x = .slice A' k c') (hnil : A' = none → c' = 0) (hr : IsBytes w B' A' m)
    (R : List Nat) (hR : l ++ m = R) (hbytes : n + k ≤ 140737488355328) (hbase : B ≤ w.heap.size)
    (h : ∀ A2 c2 w', Bq B w w' A2 c2 R (n + k) → wpList Try.prog ops Q rest (a.put o.dst (.slice A2 (n + k) c2)) w') : wpList Try.prog ops Q (o :: rest) a w := by
  obtain ⟨i0, hi, hz0, hz1, hz2⟩ := info_parts info_u8
  subst hln
  subst hmk
  subst hR
  refine wpList_append_bytes hgd s x 29 ho B 5 i0 Try.underlying29 hi hz0 hz1 hz2 A c l hs hown B' A' c' m hx hnil hr hbytes hbase fun A2 c2 w' h1 h2 => h A2 c2 w' ⟨h1, by rw [List.length_append], ?_, Nat.le_trans hbase h2.size⟩
  rw [ownBlock_slice] at h2
  exact Putp.grown hown h2 hbase
theorem encI_length (l : List Int) : (encI l).length = 8 + 8 * l.length := by unfold encI; rw [List.length_append, Pk.enc_length, Pk.encs_length]
def confTo (c : Cf) (j : Nat) : List Nat := if j = 0 then [] else if j = 1 then encI c.old else if j = 2 then encI c.old ++ encI c.new else encCf c
def confLen (n0 n1 n2 : Nat) (j : Nat) : Nat := if j = 0 then 0 else if j = 1 then 8 + 8 * n0 else if j = 2 then 8 + 8 * n0 + (8 + 8 * n1) else 8 + 8 * n0 + (8 + 8 * n1) + (8 + 8 * n2)
theorem info_sl : (Try.prog.info? 22).map (·.size) = some 1 := by kernel_rfl
theorem info_sl' : ∃ i, Try.prog.info? 22 = some i ∧ i.size = 1 := by
  have := info_sl
  cases h : Try.prog.info? 22 with
  | none => rw [h] at this; cases this
  | some i => rw [h] at this; exact ⟨i, rfl, by simpa using this⟩
theorem idx3_0 (x0 x1 x2 : Value) (w : World) : (Instr.index 105 (.agg #[x0, x1, x2]) (.int .i64 0)).run Try.prog w = .ok x0 w := by
  obtain ⟨i0, hi, hs⟩ := info_sl'
  simp [Instr.index, go_sem, sizeOf, typeInfo, hi, hs]
theorem idx3_1 (x0 x1 x2 : Value) (w : World) : (Instr.index 105 (.agg #[x0, x1, x2]) (.int .i64 1)).run Try.prog w = .ok x1 w := by
  obtain ⟨i0, hi, hs⟩ := info_sl'
  simp [Instr.index, go_sem, sizeOf, typeInfo, hi, hs]
theorem idx3_2 (x0 x1 x2 : Value) (w : World) : (Instr.index 105 (.agg #[x0, x1, x2]) (.int .i64 2)).run Try.prog w = .ok x2 w := by
  obtain ⟨i0, hi, hs⟩ := info_sl'
  simp [Instr.index, go_sem, sizeOf, typeInfo, hi, hs]
theorem encCf_length (c : Cf) : (encCf c).length = confLen c.old.length c.new.length c.lrn.length 3 := by
  unfold encCf
  rw [List.length_append, List.length_append, encI_length, encI_length, encI_length]; rfl
set_option maxHeartbeats 3200000 in
theorem putConf_any (B : Nat) (A : Option Addr) (c : Nat) (l : List Nat) (q : Nat) (hl : l.length = q) (f : Cf) (a0 a1 a2 : Option Addr) (k0 k1 k2 : Nat) (hq : q ≤ 100000000000) (w : World) (ho : OwnsB 5 w B A c l) (hB : B ≤ w.heap.size) (B' : Nat) (hB' : B' ≤ B)
    (h0 : IsInts w B' a0 f.old) (h1 : IsInts w B' a1 f.new) (h2 : IsInts w B' a2 f.lrn) (n0 n1 n2 : Nat) (hn0 : f.old.length = n0) (hn1 : f.new.length = n1) (hn2 : f.lrn.length = n2) (hs : n0 ≤ 1000000 ∧ n1 ≤ 1000000 ∧ n2 ≤ 1000000) :
    Calls Try.prog 78 #[.slice A q c, .agg #[.slice a0 n0 k0, .slice a1 n1 k1, .slice a2 n2 k2]] w fun e w' => Told B w (l ++ encCf f) (q + (8 + 8 * n0 + (8 + 8 * n1) + (8 + 8 * n2))) e w' := by
  have HP : Hid (∀ wz (ad : Option Addr) (k n : Nat) (L : List Int), L.length = n → n ≤ 1000000 → IsInts wz B' ad L → B' ≤ wz.heap.size → Calls Try.prog 85 #[.slice none 0 0, .slice ad n k] wz fun e w' => ∃ A2 c2, e = .returned (.slice A2 (8 + 8 * n) c2) ∧ OwnsB 5 w' wz.heap.size A2 c2 (encI L) ∧ Below wz.heap.size wz w') := hid fun wz ad k n L hn hL hi hb => by
    subst hn
    refine (packInts_any 0 none 0 [] B' ad k L (by simp; omega) wz IsBytes.nil (Nat.zero_le _) (fun _ => rfl) hi hb).mono ?_
    rintro e w' ⟨A2, c2, rfl, ho, hbb⟩
    exact ⟨A2, c2, ret_len (by simp), by unfold encI; simpa using ho, hbb⟩
  have HI := hid (And.intro h0 (And.intro h1 h2))
  have HN := hid (And.intro hn0 (And.intro hn1 hn2))
  have HL := hid hl
  have hbox : Below w.heap.size w (w.alloc (.cells #[.slice a0 n0 k0, .slice a1 n1 k1, .slice a2 n2 k2] 37)) := (Below.refl _ w).alloc (Nat.le_refl _) _
  have H0 : Hid (Bq B w (w.alloc (.cells #[.slice a0 n0 k0, .slice a1 n1 k1, .slice a2 n2 k2] 37)) A c (l ++ confTo f 0) (q + 0)) := hid (by
    have e : l ++ confTo f 0 = l := by unfold confTo; simp
    rw [e]
    exact ⟨ho.below hbox, hl, Putp.of hbox hB, Nat.le_trans hB hbox.size⟩)
  have HS := hid hB'
  -- one list is put behind
  have STEP : Hid (∀ (wr w2 : World) (A1 : Option Addr) (c1 : Nat) (l1 : List Nat) (q1 : Nat) (A2 : Option Addr) (c2 n : Nat) (L : List Int), Bq B w wr A1 c1 l1 q1 → L.length = n → OwnsB 5 w2 wr.heap.size A2 c2 (encI L) → Below wr.heap.size wr w2 → OwnsB 5 w2 B A1 c1 l1 ∧ B ≤ w2.heap.size ∧ (encI L).length = 8 + 8 * n ∧ Putp B w w2) := hid fun wr w2 A1 c1 l1 q1 A2 c2 n L h1 h2 h3 h4 => ⟨h1.own.below h4, Nat.le_trans h1.base h4.size, by rw [encI_length, h2], h1.put.trans (Putp.of h4 h1.base)⟩
  clear h0 h1 h2 hn0 hn1 hn2 hbox ho hB hl hB'
  have hx0 := fun w => idx3_0 (.slice a0 n0 k0) (.slice a1 n1 k1) (.slice a2 n2 k2) w
  have hx1 := fun w => idx3_1 (.slice a0 n0 k0) (.slice a1 n1 k1) (.slice a2 n2 k2) w
  have hx2 := fun w => idx3_2 (.slice a0 n0 k0) (.slice a1 n1 k1) (.slice a2 n2 k2) w
  go_enter Try.func78, Try.ntmps78
  go_upto_region 2 with fail
  generalize (w.alloc _) = w1 at H0 ⊢
  go_wp2_with fail
  go_loopw [0, 6, 14] (fun v _ i wr => ∃ (j : Nat) (A1 : Option Addr) (c1 q1 : Nat), j ≤ 3 ∧ v = .slice A1 (q + q1) c1 ∧ i = .int .i64 (j : Int) ∧ Hid (q1 = confLen n0 n1 n2 j) ∧ Hid (Bq B w wr A1 c1 (l ++ confTo f j) (q + q1))) (fun _ _ i _ => 3 - (RowKit.intOf i).toNat)
  case atStart => exact ⟨0, A, c, 0, by omega, by simp, rfl, hid rfl, H0⟩
  case round =>
    clear H0
    obtain ⟨j, A1, c1, q1, hj, rfl, rfl, HQ1, HQ⟩ := hrel
    have hcs : j = 0 ∨ j = 1 ∨ j = 2 ∨ j = 3 := by omega
    clear hj
    have hq1 : q1 ≤ 100000000 := by rw [HQ1.out]; unfold confLen; split <;> (try split) <;> (try split) <;> omega
    rcases hcs with rfl | rfl | rfl | rfl
    · have HX := hid (HP.out wr a0 k0 n0 f.old HN.out.1 hs.1 (HI.out.1.below (HQ.out.put.bel.mono HS.out)) (Nat.le_trans HS.out HQ.out.base))
      have HT : Hid ((l ++ confTo f 0) ++ encI f.old = l ++ confTo f 1) := hid (by unfold confTo encCf; simp)
      go_wp2_with fail
      refine HX.out.mono ?_
      rintro e w2 ⟨A2, c2, rfl, ho2, hb2⟩
      have HO := hid (And.intro ho2 (STEP.out wr w2 A1 c1 _ _ A2 c2 n0 f.old HQ.out HN.out.1 ho2 hb2))
      have hqk : q + q1 + (8 + 8 * n0) ≤ 140737488355328 := by omega
      have HQK := hid hqk
      clear ho2 hb2 hqk HX
      go_wp2_with (at_builtin; refine wpList_append_bytesG (by rfl) _ _ (by rfl) B A1 c1 (l ++ confTo f 0) (q + q1) HQ.out.len (by rfl) HO.out.2.1 w2.heap.size A2 c2 (encI f.old) (8 + 8 * n0) HO.out.2.2.2.1 (by rfl) HO.out.1.none_ HO.out.1.reads (l ++ confTo f 1) HT.out HQK.out HO.out.2.2.1 ?_)
      intro A3 c3 w3 hb3
      have H3 : Hid (Bq B w w3 A3 c3 (l ++ confTo f 1) (q + (q1 + (8 + 8 * n0)))) := hid ⟨hb3.own, by have := hb3.len; omega, HO.out.2.2.2.2.trans hb3.put, hb3.base⟩
      have HN3 : Hid (q1 + (8 + 8 * n0) = confLen n0 n1 n2 1) := hid (by rw [HQ1.out]; unfold confLen; simp)
      clear hb3 hq1
      go_wp2_with fail
      go_roundw
      case rel => exact ⟨1, A3, c3, q1 + (8 + 8 * n0), by omega, by rw [Nat.add_assoc], by go_num, HN3, H3⟩
      case measure => simp [RowKit.intOf]
    · have HX := hid (HP.out wr a1 k1 n1 f.new HN.out.2.1 hs.2.1 (HI.out.2.1.below (HQ.out.put.bel.mono HS.out)) (Nat.le_trans HS.out HQ.out.base))
      have HT : Hid ((l ++ confTo f 1) ++ encI f.new = l ++ confTo f 2) := hid (by unfold confTo encCf; simp)
      go_wp2_with fail
      refine HX.out.mono ?_
      rintro e w2 ⟨A2, c2, rfl, ho2, hb2⟩
      have HO := hid (And.intro ho2 (STEP.out wr w2 A1 c1 _ _ A2 c2 n1 f.new HQ.out HN.out.2.1 ho2 hb2))
      have hqk : q + q1 + (8 + 8 * n1) ≤ 140737488355328 := by omega
      have HQK := hid hqk
      clear ho2 hb2 hqk HX
      go_wp2_with (at_builtin; refine wpList_append_bytesG (by rfl) _ _ (by rfl) B A1 c1 (l ++ confTo f 1) (q + q1) HQ.out.len (by rfl) HO.out.2.1 w2.heap.size A2 c2 (encI f.new) (8 + 8 * n1) HO.out.2.2.2.1 (by rfl) HO.out.1.none_ HO.out.1.reads (l ++ confTo f 2) HT.out HQK.out HO.out.2.2.1 ?_)
      intro A3 c3 w3 hb3
      have H3 : Hid (Bq B w w3 A3 c3 (l ++ confTo f 2) (q + (q1 + (8 + 8 * n1)))) := hid ⟨hb3.own, by have := hb3.len; omega, HO.out.2.2.2.2.trans hb3.put, hb3.base⟩
      have HN3 : Hid (q1 + (8 + 8 * n1) = confLen n0 n1 n2 2) := hid (by rw [HQ1.out]; unfold confLen; simp)
      clear hb3 hq1
      go_wp2_with fail
      go_roundw
      case rel => exact ⟨2, A3, c3, q1 + (8 + 8 * n1), by omega, by rw [Nat.add_assoc], by go_num, HN3, H3⟩
      case measure => simp [RowKit.intOf]
    · have HX := hid (HP.out wr a2 k2 n2 f.lrn HN.out.2.2 hs.2.2 (HI.out.2.2.below (HQ.out.put.bel.mono HS.out)) (Nat.le_trans HS.out HQ.out.base))
      have HT : Hid ((l ++ confTo f 2) ++ encI f.lrn = l ++ confTo f 3) := hid (by unfold confTo encCf; simp)
      go_wp2_with fail
      refine HX.out.mono ?_
      rintro e w2 ⟨A2, c2, rfl, ho2, hb2⟩
      have HO := hid (And.intro ho2 (STEP.out wr w2 A1 c1 _ _ A2 c2 n2 f.lrn HQ.out HN.out.2.2 ho2 hb2))
      have hqk : q + q1 + (8 + 8 * n2) ≤ 140737488355328 := by omega
      have HQK := hid hqk
      clear ho2 hb2 hqk HX
      go_wp2_with (at_builtin; refine wpList_append_bytesG (by rfl) _ _ (by rfl) B A1 c1 (l ++ confTo f 2) (q + q1) HQ.out.len (by rfl) HO.out.2.1 w2.heap.size A2 c2 (encI f.lrn) (8 + 8 * n2) HO.out.2.2.2.1 (by rfl) HO.out.1.none_ HO.out.1.reads (l ++ confTo f 3) HT.out HQK.out HO.out.2.2.1 ?_)
      intro A3 c3 w3 hb3
      have H3 : Hid (Bq B w w3 A3 c3 (l ++ confTo f 3) (q + (q1 + (8 + 8 * n2)))) := hid ⟨hb3.own, by have := hb3.len; omega, HO.out.2.2.2.2.trans hb3.put, hb3.base⟩
      have HN3 : Hid (q1 + (8 + 8 * n2) = confLen n0 n1 n2 3) := hid (by rw [HQ1.out]; unfold confLen; simp)
      clear hb3 hq1
      go_wp2_with fail
      go_roundw
      case rel => exact ⟨3, A3, c3, q1 + (8 + 8 * n2), by omega, by rw [Nat.add_assoc], by go_num, HN3, H3⟩
      case measure => simp [RowKit.intOf]
    · have HE : Hid (l ++ confTo f 3 = l ++ encCf f ∧ q1 = 8 + 8 * n0 + (8 + 8 * n1) + (8 + 8 * n2)) := hid ⟨rfl, HQ1.out⟩
      have H9 := HQ.out
      rw [HE.out.1] at H9
      have HQ9 := hid H9
      have e9 := HE.out.2
      clear HQ H9
      subst e9
      go_wp2_with fail
      go_ret
      exact ⟨A1, c1, rfl, HQ9.out⟩
end Go.Proofs.Ytkmbkihfdilmbaa.Im
namespace Go.Proofs.Ytkmbkihfdilmbaa.Im
open Go.RowKit
open Rl (En Lg)
open Qu (Cf)
open Pk (enc encs)
set_option maxRecDepth 100000
set_option linter.unusedVariables false
attribute [local go_sem ↓] loadAt_hard storeAt_hard
theorem encE_length (x : En) : (encE x).length = 24 + x.d.length := by unfold encE encB; simp [Pk.enc_length]; omega
end Go.Proofs.Ytkmbkihfdilmbaa.Im
namespace Go.Proofs.Ytkmbkihfdilmbaa.Im
open Go.RowKit
open Rl (En Lg)
open Qu (Cf)
open Pk (enc encs)
set_option maxRecDepth 100000
set_option linter.unusedVariables false
attribute [local go_sem ↓] loadAt_hard storeAt_hard
end Go.Proofs.Ytkmbkihfdilmbaa.Im
namespace Go.Proofs.Ytkmbkihfdilmbaa.Im
open Go.RowKit
open Rl (En Lg)
open Qu (Cf)
open Pk (enc encs)
set_option maxRecDepth 100000
set_option linter.unusedVariables false
attribute [local go_sem ↓] loadAt_hard storeAt_hard
structure Sz (p : Pt) : Prop where
  e : p.log.es.length ≤ 1000000
  d : ∀ e ∈ p.log.es, e.d.length ≤ 1000000000
  o : p.cf.old.length ≤ 1000000
  n : p.cf.new.length ≤ 1000000
  l : p.cf.lrn.length ≤ 1000000
  s : p.sn.length ≤ 1000000000
end Go.Proofs.Ytkmbkihfdilmbaa.Im
namespace Go.Proofs.Ytkmbkihfdilmbaa.Im
open Go.RowKit
open Rl (En Lg)
open Qu (Cf)
open Pk (enc encs)
set_option maxRecDepth 100000
set_option linter.unusedVariables false
attribute [local go_sem ↓] loadAt_hard storeAt_hard
end Go.Proofs.Ytkmbkihfdilmbaa.Im
namespace Go.Proofs.Ytkmbkihfdilmbaa.Im
open Go.RowKit
open Rl (En Lg)
open Qu (Cf)
open Pk (enc encs)
set_option maxRecDepth 100000
set_option linter.unusedVariables false
attribute [local go_sem ↓] loadAt_hard storeAt_hard
end Go.Proofs.Ytkmbkihfdilmbaa.Im
namespace Go.Proofs.Ytkmbkihfdilmbaa.Im
open Go.RowKit
open Rl (En Lg)
open Qu (Cf)
open Pk (enc encs)
set_option maxRecDepth 100000
set_option linter.unusedVariables false
attribute [local go_sem ↓] loadAt_hard storeAt_hard
end Go.Proofs.Ytkmbkihfdilmbaa.Im
namespace Go.Proofs.Ytkmbkihfdilmbaa.Im
open Go.RowKit
open Rl (En Lg)
open Qu (Cf)
open Pk (enc encs)
set_option maxRecDepth 100000
set_option linter.unusedVariables false
attribute [local go_sem ↓] loadAt_hard storeAt_hard
end Go.Proofs.Ytkmbkihfdilmbaa.Im
namespace Go.Proofs.Ytkmbkihfdilmbaa.Im
open Go.RowKit
open Rl (En Lg)
open Qu (Cf)
open Pk (enc encs)
set_option maxRecDepth 100000
set_option linter.unusedVariables false
set_option maxHeartbeats 3200000 in
theorem putCf_any (B' : Nat) (w : World) (hB' : B' ≤ w.heap.size) (f : Cf) (a0 a1 a2 : Option Addr) (k0 k1 k2 : Nat) (h0 : IsInts w B' a0 f.old) (h1 : IsInts w B' a1 f.new) (h2 : IsInts w B' a2 f.lrn) (n0 n1 n2 : Nat) (hn0 : f.old.length = n0) (hn1 : f.new.length = n1) (hn2 : f.lrn.length = n2) (hs : n0 ≤ 1000000 ∧ n1 ≤ 1000000 ∧ n2 ≤ 1000000) :
    Calls Try.prog 67 #[.agg #[.slice a0 n0 k0, .slice a1 n1 k1, .slice a2 n2 k2]] w fun e w' => Told w.heap.size w (encCf f) (8 + 8 * n0 + (8 + 8 * n1) + (8 + 8 * n2)) e w' := by
  obtain ⟨w1, hw1⟩ : ∃ w1, w1 = w.alloc (.cells #[.slice a0 n0 k0, .slice a1 n1 k1, .slice a2 n2 k2] 37) := ⟨_, rfl⟩
  have b1 : Below w.heap.size w w1 := by rw [hw1]; exact (Below.refl _ w).alloc (Nat.le_refl _) _
  obtain ⟨qq, hqq⟩ : ∃ qq, 8 + 8 * n0 + (8 + 8 * n1) + (8 + 8 * n2) = qq := ⟨_, rfl⟩
  have HP := putConf_any w.heap.size none 0 [] 0 rfl f a0 a1 a2 k0 k1 k2 (by omega) w1 (OwnsB.nil _ _ _) b1.size B' hB' (h0.below (b1.mono hB')) (h1.below (b1.mono hB')) (h2.below (b1.mono hB')) n0 n1 n2 hn0 hn1 hn2 hs
  rw [Nat.zero_add, hqq] at HP
  rw [hqq]
  replace HP := hid HP
  have HB := hid b1
  clear b1 h0 h1 h2 hn0 hn1 hn2 hs hqq hB'
  go_enter Try.func67, Try.ntmps67
  go_wp2_with fail
  rw [← hw1]
  clear hw1
  refine HP.out.mono ?_
  rintro e w4 ⟨A4, c4, rfl, hb4⟩
  have HF : Hid (Bq w.heap.size w w4 A4 c4 (encCf f) qq) := hid (by
    rw [List.nil_append] at hb4
    exact ⟨hb4.own, hb4.len, (Putp.of HB.out (Nat.le_refl _)).trans hb4.put, hb4.base⟩)
  clear hb4
  go_wp2_with fail
  go_ret
  exact ⟨A4, c4, rfl, HF.out⟩
end Go.Proofs.Ytkmbkihfdilmbaa.Im
namespace Go.Proofs.Ytkmbkihfdilmbaa.Im
open Go Go.RowKit
open Rl (En Lg)
open Qu (Cf)
set_option maxRecDepth 100000
set_option linter.unusedVariables false
local instance lo9 : Lo := ⟨0⟩
theorem at_old {w : World} {o : Obj} {k : Nat} {v : Obj} (h : w.heap[k]? = some v) : (w.alloc o).heap[k]? = some v := by
  rw [heap_alloc_old _ _ (Array.getElem?_eq_some_iff.1 h).1]; exact h
theorem at_new {w : World} {o : Obj} {k : Nat} (h : k = w.heap.size) : (w.alloc o).heap[k]? = some o := by
  rw [h]; exact heap_alloc_new w o
theorem bytes_at {w : World} {b : Nat} (l : List Nat) (hs : ∀ x ∈ l, x < 256) {t : TypeId} (h : w.heap[b]? = some (.cells (bytes l).toArray t (0, 0))) : IsBytes w w.heap.size (some ⟨b, 0, none⟩) l :=
  ⟨hs, fun _ _ => ⟨b, 0, rfl, row_lt h, fun i hi => by
    rw [cell_of_row w b (0 + i) (bytes l).toArray t _ h, Nat.zero_add, List.getElem?_toArray]
    exact bytes_get l i hi⟩⟩
end Go.Proofs.Ytkmbkihfdilmbaa.Im
namespace Go.Proofs.Ytkmbkihfdilmbaa.Im
open Go Go.RowKit
open Rl (En Lg)
open Qu (Cf)
set_option maxRecDepth 100000
set_option linter.unusedVariables false
local instance lo10 : Lo := ⟨0⟩
end Go.Proofs.Ytkmbkihfdilmbaa.Im
namespace Go.Proofs.Ytkmbkihfdilmbaa.Im
open Go Go.RowKit
open Rl (En Lg)
open Qu (Cf)
set_option maxRecDepth 100000
set_option linter.unusedVariables false
local instance lo12 : Lo := ⟨0⟩
attribute [local go_sem ↓] loadAt_hard storeAt_hard
theorem bigConf_any (A0 A1 A2 : Option Addr) (n0 n1 n2 k0 k1 k2 n : Nat) (hn : n ≤ 1000000) (w : World) :
    Calls Try.prog 38 #[.agg #[.slice A0 n0 k0, .slice A1 n1 k1, .slice A2 n2 k2], .int .i64 (n : Int)] w fun e w' => e = .returned (.bool (decide (n < n0) || decide (n < n1) || decide (n < n2))) ∧ Below w.heap.size w w' := by
  have hb : Below w.heap.size w (w.alloc (.cells #[.slice A0 n0 k0, .slice A1 n1 k1, .slice A2 n2 k2] 37)) := (Below.refl _ w).alloc (Nat.le_refl _) _
  have HB := hid hb
  clear hb
  by_cases h0 : n < n0
  · have h0' : (n : Int) < (n0 : Int) := by omega
    have HE : Hid ((decide (n < n0) || decide (n < n1) || decide (n < n2)) = true) := hid (by simp [h0])
    rw [HE.out]
    clear h0
    go_enter Try.func38, Try.ntmps38
    go_wp2_with fail
    go_ret
    exact ⟨rfl, HB.out⟩
  · have h0' : ¬ (n : Int) < (n0 : Int) := by omega
    by_cases h1 : n < n1
    · have h1' : (n : Int) < (n1 : Int) := by omega
      have HE : Hid ((decide (n < n0) || decide (n < n1) || decide (n < n2)) = true) := hid (by simp [h1])
      rw [HE.out]
      clear h0 h1
      go_enter Try.func38, Try.ntmps38
      go_wp2_with fail
      go_ret
      exact ⟨rfl, HB.out⟩
    · have h1' : ¬ (n : Int) < (n1 : Int) := by omega
      by_cases h2 : n < n2
      · have h2' : (n : Int) < (n2 : Int) := by omega
        have HE : Hid ((decide (n < n0) || decide (n < n1) || decide (n < n2)) = true) := hid (by simp [h2])
        rw [HE.out]
        clear h0 h1 h2
        go_enter Try.func38, Try.ntmps38
        go_wp2_with fail
        go_ret
        exact ⟨rfl, HB.out⟩
      · have h2' : ¬ (n : Int) < (n2 : Int) := by omega
        have HE : Hid ((decide (n < n0) || decide (n < n1) || decide (n < n2)) = false) := hid (by simp [h0, h1, h2])
        rw [HE.out]
        clear h0 h1 h2
        go_enter Try.func38, Try.ntmps38
        go_wp2_with fail
        go_ret
        exact ⟨rfl, HB.out⟩
def bigCf (f : Cf) (n : Nat) : Bool := decide (n < f.old.length) || decide (n < f.new.length) || decide (n < f.lrn.length)
theorem hard_new (w : World) (x : Hd) (ad : Ad) : Below w.heap.size w (w.alloc (.cells #[.int .i64 x.g, .int .i64 x.t, .int .i64 x.v, .int .i64 x.p.log.base, .int .i64 x.p.log.term, .slice ad.e x.p.log.es.length ad.ce, .slice ad.o x.p.cf.old.length ad.co, .slice ad.n x.p.cf.new.length ad.cn, .slice ad.l x.p.cf.lrn.length ad.cl, .slice ad.s x.p.sn.length ad.cs] 52)) := (Below.refl _ w).alloc (Nat.le_refl _) _
end Go.Proofs.Ytkmbkihfdilmbaa.Im
namespace Go.Proofs.Ytkmbkihfdilmbaa.Im
open Go Go.RowKit
open Rl (En Lg)
open Qu (Cf)
set_option maxRecDepth 100000
set_option linter.unusedVariables false
local instance lo15 : Lo := ⟨0⟩
attribute [local go_sem ↓] loadAt_hard storeAt_hard
def PtIn (w : World) (B N : Nat) (p : Pt) (a : Ad) : Prop := OwnE w B N a.e a.ce p.log.es ∧ (OwnsI 3 w B a.o a.co p.cf.old ∧ ∀ k, blk a.o = some k → k < N) ∧ (OwnsI 3 w B a.n a.cn p.cf.new ∧ ∀ k, blk a.n = some k → k < N) ∧ (OwnsI 3 w B a.l a.cl p.cf.lrn ∧ ∀ k, blk a.l = some k → k < N) ∧ (OwnsB 5 w B a.s a.cs p.sn ∧ ∀ k, blk a.s = some k → k < N) ∧ (InInt p.log.base ∧ InInt p.log.term)
theorem OwnPt.ptIn {w : World} {B N : Nat} {p : Pt} {a : Ad} (h : OwnPt w B N p a) : PtIn w B N p a := by
  obtain ⟨m0, m1, m2, m3, ⟨c0, c1, c2, c3, c4⟩, h1, h2, h3, h4, h5, h6⟩ := h
  exact ⟨h1.wide (Nat.le_refl _) (by omega), ⟨h2.1.weaken c0, fun k hk => by have := h2.2 k hk; omega⟩, ⟨h3.1.weaken (by omega), fun k hk => by have := h3.2 k hk; omega⟩, ⟨h4.1.weaken (by omega), fun k hk => by have := h4.2 k hk; omega⟩, ⟨h5.1.weaken (by omega), h5.2⟩, h6⟩
namespace PtIn
variable {w w' : World} {B B' N N' : Nat} {p : Pt} {a : Ad}
theorem kp (h : PtIn w B N p a) (hk : Kp Parts w w') : PtIn w' B N p a := by
  obtain ⟨h1, h2, h3, h4, h5, h6⟩ := h
  exact ⟨hk.ownE (.inl rfl) (.inr (.inl rfl)) h1, ⟨hk.ownI (.inr (.inr rfl)) h2.1, h2.2⟩, ⟨hk.ownI (.inr (.inr rfl)) h3.1, h3.2⟩, ⟨hk.ownI (.inr (.inr rfl)) h4.1, h4.2⟩, ⟨hk.ownB (.inr (.inl rfl)) h5.1, h5.2⟩, h6⟩
theorem wide (h : PtIn w B N p a) (hB : B' ≤ B) (hN : N ≤ N') : PtIn w B' N' p a := by
  obtain ⟨h1, h2, h3, h4, h5, h6⟩ := h
  exact ⟨h1.wide hB hN, ⟨h2.1.weaken hB, fun k hk => by have := h2.2 k hk; omega⟩, ⟨h3.1.weaken hB, fun k hk => by have := h3.2 k hk; omega⟩, ⟨h4.1.weaken hB, fun k hk => by have := h4.2 k hk; omega⟩, ⟨h5.1.weaken hB, fun k hk => by have := h5.2 k hk; omega⟩, h6⟩
theorem keep {S : Nat → Prop} (h : PtIn w B N p a) (ht : Turned S w w') (hs : ∀ k, S k → ¬ Bl B N k) : PtIn w' B N p a := by
  obtain ⟨h1, h2, h3, h4, h5, h6⟩ := h
  have kB : ∀ {A : Option Addr}, (∀ k, blk A = some k → B ≤ k) → (∀ k, blk A = some k → k < N) → ∀ k, blk A = some k → ¬ S k := fun h3 h4 k hk hS => hs k hS ⟨h3 k hk, h4 k hk⟩
  exact ⟨h1.keep ht hs, ⟨ownsI_turned h2.1 ht (kB (fun k hk => (h2.1.blkLt k hk).1) h2.2), h2.2⟩, ⟨ownsI_turned h3.1 ht (kB (fun k hk => (h3.1.blkLt k hk).1) h3.2), h3.2⟩, ⟨ownsI_turned h4.1 ht (kB (fun k hk => (h4.1.blkLt k hk).1) h4.2), h4.2⟩, ⟨h5.1.turned ht (kB (fun k hk => (h5.1.blkLt k hk).1) h5.2), h5.2⟩, h6⟩
theorem below (h : PtIn w B N p a) (hb : Below N w w') : PtIn w' B N p a :=
  h.keep (S := fun k => N ≤ k) ⟨hb.os, hb.tape, hb.output, hb.size, fun k _ hn => hb.block k (by omega)⟩ (fun k hk hB => by have := hB.2; omega)
theorem reads (h : PtIn w B N p a) : IsPt w N p a := by
  obtain ⟨h1, h2, h3, h4, h5, h6⟩ := h
  exact ⟨h1.reads, isInts_lower h2.1.reads h2.2, isInts_lower h3.1.reads h3.2, isInts_lower h4.1.reads h4.2, isBytes_lower h5.1.reads h5.2, ⟨h1.room, h1.none_⟩, ownsI_room h2.1, ownsI_room h3.1, ownsI_room h4.1, ownsB_room h5.1, h6⟩
end PtIn
structure InHs (w : World) (B N : Nat) (A : Option Addr) (c : Nat) (M : List Hq) : Prop where
  row : RowIn cellsH 10 52 w (Bl B N) A c M
  pts : ∀ q ∈ M, PtIn w B N q.h.p q.a
  num : ∀ q ∈ M, InInt q.h.g ∧ InInt q.h.t ∧ InInt q.h.v
namespace InHs
variable {w w' : World} {B B' N N' : Nat} {A : Option Addr} {c : Nat} {M : List Hq}
theorem nil (w : World) (B N : Nat) : InHs w B N none 0 [] := ⟨RowIn.nil cellsH_fits _ _ _, by simp, by simp⟩
theorem keep {S : Nat → Prop} (h : InHs w B N A c M) (ht : Turned S w w') (hs : ∀ k, S k → ¬ Bl B N k) : InHs w' B N A c M := ⟨h.row.keep ht (fun k hk hS => hs k hS (h.row.blk k hk)), fun q hq => (h.pts q hq).keep ht hs, h.num⟩
theorem below (h : InHs w B N A c M) (hb : Below N w w') : InHs w' B N A c M :=
  h.keep (S := fun k => N ≤ k) ⟨hb.os, hb.tape, hb.output, hb.size, fun k _ hn => hb.block k (by omega)⟩ (fun k hk hB => by have := hB.2; omega)
theorem wide (h : InHs w B N A c M) (hB : B' ≤ B) (hN : N ≤ N') : InHs w B' N' A c M := ⟨h.row.mono (fun k hk => ⟨Nat.le_trans hB (h.row.blk k hk).1, Nat.lt_of_lt_of_le (h.row.blk k hk).2 hN⟩), fun q hq => (h.pts q hq).wide hB hN, h.num⟩
theorem reads (h : InHs w B N A c M) : IsHds w N A M := by
  refine ⟨⟨fun k hk => ?_⟩, fun q hq => (h.pts q hq).reads, h.num⟩
  obtain ⟨g, hA, hg, hF, hc, _⟩ := h.row.get k hk
  refine ⟨g, 0, hA, hF.2, fun i hi j v hv => ?_⟩
  obtain ⟨g', hA', _, _, hc', _⟩ := h.row.get i hi
  obtain rfl : g = g' := by rw [hA] at hA'; injection hA' with e; injection e
  have hj : j < 10 := (List.getElem?_eq_some_iff.1 hv).1
  rw [Nat.zero_add, hc' j hj]; exact hv
theorem put {wr w4 w5 w6 : World} {n4 n5 c1 c6 : Nat} {A1 A6 : Option Addr} {L : List Hq} {x : Hq} (h : InHs wr B wr.heap.size A1 c1 L) (hB : B ≤ wr.heap.size) (hb4 : Below wr.heap.size wr w4) (ho : PtIn w4 wr.heap.size n4 x.h.p x.a) (hn4 : n4 ≤ w4.heap.size) (hn : InInt x.h.g ∧ InInt x.h.t ∧ InInt x.h.v)
    (hb5 : Below w4.heap.size w4 w5) (hrow5 : RowIn cellsH 10 52 w5 (Bl B wr.heap.size) A1 c1 L) (hn5 : w5.heap.size = n5) (hrow6 : RowIn cellsH 10 52 w6 (fun k => Bl B wr.heap.size k ∨ n5 ≤ k) A6 c6 (L ++ [x])) (hg6 : w5.grownBy w6 (Go.Proofs.Ytkmbkihfdilmbaa.blk A1)) :
    InHs w6 B w6.heap.size A6 c6 (L ++ [x]) := by
  have hw4 := hb4.size
  have hw5 := hb5.size
  have hw6 := hg6.size
  have kp56 : Kp Parts w5 w6 := by
    rcases hb : Go.Proofs.Ytkmbkihfdilmbaa.blk A1 with _ | k
    · rw [hb] at hg6
      exact Kp.ofBelow (below_grown hg6 (Nat.le_refl _) (fun j e => by cases e))
    · rw [hb] at hg6
      obtain ⟨cur, hc⟩ := hrow5.tag hb
      exact Kp.ofGrown hc (by rintro (e | e | e) <;> exact absurd e (by decide)) hg6
  refine ⟨hrow6.mono (fun k hk => ⟨?_, hrow6.lt k hk⟩), fun q hq => ?_, fun q hq => ?_⟩
  · rcases hrow6.blk k hk with e | e
    · exact e.1
    · omega
  · rcases List.mem_append.1 hq with hq | hq
    · exact ((((h.pts q hq).kp (Kp.ofBelow hb4)).kp (Kp.ofBelow hb5)).kp kp56).wide (Nat.le_refl _) (by omega)
    · obtain rfl := List.mem_singleton.1 hq
      exact ((ho.kp (Kp.ofBelow hb5)).kp kp56).wide hB (by omega)
  · rcases List.mem_append.1 hq with hq | hq
    · exact h.num q hq
    · obtain rfl := List.mem_singleton.1 hq; exact hn
end InHs
namespace InCs
variable {w w' : World} {B B' N N' : Nat} {A : Option Addr} {c : Nat} {M : List Cq}
end InCs
namespace InVs
variable {w w' : World} {B B' N N' : Nat} {A : Option Addr} {c : Nat} {L : List Vt}
end InVs
end Go.Proofs.Ytkmbkihfdilmbaa.Im
namespace Go.Proofs.Ytkmbkihfdilmbaa
open Go.RowKit
end Go.Proofs.Ytkmbkihfdilmbaa
namespace Go.Proofs.Ytkmbkihfdilmbaa.Im
open Go Go.RowKit
open Rl (En Lg)
open Qu (Cf)
set_option maxRecDepth 100000
set_option linter.unusedVariables false
local instance lo27 : Lo := ⟨0⟩
attribute [local go_sem ↓] loadAt_hard storeAt_hard loadAt_conf3 storeAt_conf3
structure Pc (w : World) (B N : Nat) (p : Pt) (a : Ad) (m0 m1 m2 m3 : Nat) : Prop where
  m : B ≤ m0 ∧ m0 ≤ m1 ∧ m1 ≤ m2 ∧ m2 ≤ m3 ∧ m3 ≤ N
  e : OwnE w B m0 a.e a.ce p.log.es
  o : OwnsI 3 w m0 a.o a.co p.cf.old
  bo : ∀ k, blk a.o = some k → k < m1
  n : OwnsI 3 w m1 a.n a.cn p.cf.new
  bn : ∀ k, blk a.n = some k → k < m2
  l : OwnsI 3 w m2 a.l a.cl p.cf.lrn
  bl : ∀ k, blk a.l = some k → k < m3
  s : OwnsB 5 w m3 a.s a.cs p.sn
  bs : ∀ k, blk a.s = some k → k < N
theorem Pc.of {w : World} {B N : Nat} {p : Pt} {a : Ad} (h : OwnPt w B N p a) : ∃ m0 m1 m2 m3, Pc w B N p a m0 m1 m2 m3 := by
  obtain ⟨m0, m1, m2, m3, hm, h1, h2, h3, h4, h5, h6⟩ := h
  exact ⟨m0, m1, m2, m3, hm, h1, h2.1, h2.2, h3.1, h3.2, h4.1, h4.2, h5.1, h5.2⟩
theorem Pc.two {w w1 : World} {B N m0 m1 m2 m3 : Nat} {p : Pt} {a : Ad} (h : Pc w B N p a m0 m1 m2 m3) (ht : Turned (Bl B m0) w w1) :
    OwnsI 3 w1 m0 a.o a.co p.cf.old ∧ OwnsI 3 w1 m1 a.n a.cn p.cf.new ∧ OwnsI 3 w1 m2 a.l a.cl p.cf.lrn ∧ OwnsB 5 w1 m3 a.s a.cs p.sn := by
  have hm := h.m
  exact ⟨ownsI_turned h.o ht (fun k hk e => by have := (h.o.blkLt k hk).1; have := e.2; omega), ownsI_turned h.n ht (fun k hk e => by have := (h.n.blkLt k hk).1; have := e.2; omega), ownsI_turned h.l ht (fun k hk e => by have := (h.l.blkLt k hk).1; have := e.2; omega), h.s.turned ht (fun k hk e => by have := (h.s.blkLt k hk).1; have := e.2; omega)⟩
def Tg (w : World) (B N : Nat) : Nat → Prop := fun k => Bl B N k ∧ ∃ cs t fr, w.heap[k]? = some (.cells cs t fr) ∧ Parts t
theorem Tg.mono {w : World} {B B' N N' : Nat} (hB : B' ≤ B) (hN : N ≤ N') : ∀ k, Tg w B N k → Tg w B' N' k := fun k h => ⟨⟨Nat.le_trans hB h.1.1, Nat.lt_of_lt_of_le h.1.2 hN⟩, h.2⟩
theorem Pc.below {w w1 : World} {B N m0 m1 m2 m3 : Nat} {p : Pt} {a : Ad} (h : Pc w B N p a m0 m1 m2 m3) (hb : Below w.heap.size w w1) : Pc w1 B N p a m0 m1 m2 m3 :=
  ⟨h.m, h.e.keep (Turned.ofBelow (fun _ => False) hb) (fun k hk => hk.elim), h.o.below hb, h.bo, h.n.below hb, h.bn, h.l.below hb, h.bl, h.s.below hb, h.bs⟩
theorem Tg.old {w w1 : World} {B N : Nat} (hb : Below w.heap.size w w1) (hN : N ≤ w.heap.size) : ∀ k, Tg w1 B N k → Tg w B N k := fun k h => by
  obtain ⟨h1, cs, t, fr, h2, h3⟩ := h
  exact ⟨h1, cs, t, fr, (hb.block k (by have := h1.2; omega)).symm.trans h2, h3⟩
def halfD {α : Type} (f : α → α) (L : List α) (k : Nat) : List α := (L.take k).map f ++ L.drop k
section
variable {α : Type} (f : α → α) (L : List α) (k : Nat)
theorem halfD_length (h : k ≤ L.length) : (halfD f L k).length = L.length := by unfold halfD; rw [List.length_append, List.length_map, List.length_take, List.length_drop]; omega
theorem halfD_get (h : k < L.length) : (halfD f L k)[k]'(by rw [halfD_length f L k (by omega)]; exact h) = L[k] := by
  have : (halfD f L k)[k]? = some L[k] := by
    unfold halfD
    rw [List.getElem?_append_right (by rw [List.length_map, List.length_take]; omega), List.length_map, List.length_take, List.getElem?_drop, show k + (k - min k L.length) = k by omega, List.getElem?_eq_getElem h]
  rw [List.getElem?_eq_getElem (by rw [halfD_length f L k (by omega)]; exact h)] at this
  exact Option.some.inj this
theorem halfD_set (h : k < L.length) : (halfD f L k).set k (f L[k]) = halfD f L (k + 1) := by
  unfold halfD
  have hl : ((L.take k).map f).length = k := by rw [List.length_map, List.length_take]; omega
  rw [List.set_append_right _ _ (by omega), hl, Nat.sub_self, List.drop_eq_getElem_cons h, List.set_cons_zero, List.take_succ_eq_append_getElem h, List.map_append, List.append_assoc]
  rfl
end
end Go.Proofs.Ytkmbkihfdilmbaa.Im
namespace Go.Proofs.Ytkmbkihfdilmbaa.Vo
open Go Go.RowKit
open Rl (En Lg)
open Ms (M)
open Im (ldX stX IsRow halfD halfD_length halfD_get halfD_set stAt)
set_option maxRecDepth 100000
set_option linter.unusedVariables false
attribute [local go_sem ↓] loadAt_msgV storeAt_msgV Im.loadAt_log1 Im.storeAt_log1 Im.loadAt_conf3 Im.storeAt_conf3
def gone (_ : Option Int) : Option Int := none
end Go.Proofs.Ytkmbkihfdilmbaa.Vo
namespace Go.Proofs.Ytkmbkihfdilmbaa.Fw
open Go Go.RowKit
open Ms (M)
open Im (ldX stX)
open Vo (Rw loadAt_msgV storeAt_msgV info_msgV boxes)
set_option maxRecDepth 100000
set_option linter.unusedVariables false
structure Fl where
  n : Int
  x : Int
  m : Int
  r : Int
deriving DecidableEq
theorem loadAt_flow (a : Value) : Instr.loadAt 42 a = ldX 42 a := rfl
theorem storeAt_flow (a v : Value) : Instr.storeAt 42 a v = stX 42 a v := rfl
theorem info_flow : (Try.prog.info? 42).map (·.size) = some 4 := by kernel_rfl
attribute [local go_sem ↓] loadAt_msgV storeAt_msgV loadAt_flow storeAt_flow
theorem ldF {w : World} {b : Nat} {cs : Array Value} (h : Rw w b cs 42) (hn : cs.size = 4) : (ldX 42 (.pointer (some ⟨b, 0, none⟩))).run Try.prog w = .ok (.agg cs) w :=
  Im.ldRow info_flow Try.underlying42 rfl h hn
def heard (f : Fl) (K F i R : Int) (ok : Bool) : Fl :=
  if K = 4 ∧ F = f.n then (if ok = true then ⟨f.n, max f.x (max f.m i + 1), max f.m i, max f.r R⟩ else ⟨f.n, max f.m (min (f.x - 2) i) + 1, f.m, f.r⟩) else f
structure Pl (f : Fl) : Prop where
  n : 0 ≤ f.n ∧ f.n ≤ 1099511627777
  x : 0 ≤ f.x ∧ f.x ≤ 1099511627777
  m : 0 ≤ f.m ∧ f.m ≤ 1099511627777
  r : 0 ≤ f.r ∧ f.r ≤ 1099511627777
theorem heard_ok {f : Fl} {K F i R : Int} (h1 : K = 4) (h2 : F = f.n) : heard f K F i R true = ⟨f.n, max f.x (max f.m i + 1), max f.m i, max f.r R⟩ := by unfold heard; rw [if_pos ⟨h1, h2⟩, if_pos rfl]
theorem heard_not {f : Fl} {K F i R : Int} (h1 : K = 4) (h2 : F = f.n) : heard f K F i R false = ⟨f.n, max f.m (min (f.x - 2) i) + 1, f.m, f.r⟩ := by unfold heard; rw [if_pos ⟨h1, h2⟩, if_neg (by simp)]
theorem heard_no {f : Fl} {K F i R : Int} {ok : Bool} (h : ¬ (K = 4 ∧ F = f.n)) : heard f K F i R ok = f := by unfold heard; rw [if_neg h]
set_option maxHeartbeats 6400000 in
theorem heard_any (f : Fl) (hp : Pl f) (m : M) (hi : 0 ≤ m.i ∧ m.i ≤ 1099511627776) (A : Option Addr) (c : Nat) (A' : Option Addr) (c' : Nat) (w : World) :
    Calls Try.prog 19 #[.agg #[.int .i64 f.n, .int .i64 f.x, .int .i64 f.m, .int .i64 f.r], .agg #[.int .i64 m.K, .int .i64 m.F, .int .i64 m.T, .int .i64 m.g, .int .i64 m.t, .int .i64 m.i, .int .i64 m.p, .int .i64 m.c, .int .i64 m.r, .int .i64 m.x, .int .i64 m.a, .int .i64 m.b, .int .i64 m.v, .int .i64 m.s, .bool m.ok, .slice A m.es.length c, .slice A' m.d.length c']] w fun e w' => e = .returned (.agg #[.int .i64 (heard f m.K m.F m.i m.r m.ok).n, .int .i64 (heard f m.K m.F m.i m.r m.ok).x, .int .i64 (heard f m.K m.F m.i m.r m.ok).m, .int .i64 (heard f m.K m.F m.i m.r m.ok).r]) ∧ Below w.heap.size w w' := by
  obtain ⟨w1, hw1⟩ : ∃ w1, w1 = ((w.alloc (.cells #[.int .i64 f.n, .int .i64 f.x, .int .i64 f.m, .int .i64 f.r] 42)).alloc (.cells #[.int .i64 m.K, .int .i64 m.F, .int .i64 m.T, .int .i64 m.g, .int .i64 m.t, .int .i64 m.i, .int .i64 m.p, .int .i64 m.c, .int .i64 m.r, .int .i64 m.x, .int .i64 m.a, .int .i64 m.b, .int .i64 m.v, .int .i64 m.s, .bool m.ok, .slice A m.es.length c, .slice A' m.d.length c'] 31)).alloc (.cells #[.int .i64 0, .int .i64 0, .int .i64 0, .int .i64 0] 42) := ⟨_, rfl⟩
  obtain ⟨r0, r1, r2, hb⟩ := Vo.Rw.three w #[.int .i64 f.n, .int .i64 f.x, .int .i64 f.m, .int .i64 f.r] #[.int .i64 m.K, .int .i64 m.F, .int .i64 m.T, .int .i64 m.g, .int .i64 m.t, .int .i64 m.i, .int .i64 m.p, .int .i64 m.c, .int .i64 m.r, .int .i64 m.x, .int .i64 m.a, .int .i64 m.b, .int .i64 m.v, .int .i64 m.s, .bool m.ok, .slice A m.es.length c, .slice A' m.d.length c'] #[.int .i64 0, .int .i64 0, .int .i64 0, .int .i64 0] 42 31 42
  obtain ⟨ok, hok⟩ : ∃ b, m.ok = b := ⟨_, rfl⟩
  rw [← hw1] at r0 r1 r2 hb
  rw [hok] at hw1 r1
  have R1 := hid (And.intro r0 (And.intro r1 r2))
  have B1 := hid hb
  have HW1 := hid hw1
  obtain ⟨⟨pn1, pn2⟩, ⟨px1, px2⟩, ⟨pm1, pm2⟩, ⟨pr1, pr2⟩⟩ := hp
  obtain ⟨i1, i2⟩ := hi
  have x0 := row_cell r1 0
  have x1 := row_cell r1 1
  have x5 := row_cell r1 5
  have x8 := row_cell r1 8
  have x14 : w1.cell? ⟨w.heap.size + 1, 14, none⟩ = some (.bool ok) := row_cell r1 14
  have y0 := row_cell r0 0
  have y1 := row_cell r0 1
  have y2 := row_cell r0 2
  have y3 := row_cell r0 3
  have yf := row_free r0
  have yf1 := yf 1
  have yf2 := yf 2
  have yf3 := yf 3
  rw [hok]
  clear hok hb r0 r1 r2 hw1 yf
  by_cases hK : m.K = 4
  · by_cases hF : m.F = f.n
    · have b1 : (m.K == 4) = true := by simpa using hK
      have b2 : (m.F == f.n) = true := by simpa using hF
      have c1 : (m.K != 4) = false := by simpa using hK
      have c2 : (m.F != f.n) = false := by simpa using hF
      cases ok with
      | true =>
        rw [heard_ok hK hF]
        clear hK hF
        obtain ⟨a, ha⟩ : ∃ a, max f.m m.i = a := ⟨_, rfl⟩
        have a1 : 0 ≤ a := by omega
        have a2 : a ≤ 1099511627777 := by omega
        rw [ha]
        obtain ⟨b, hbb⟩ : ∃ b, max f.x (a + 1) = b := ⟨_, rfl⟩
        rw [hbb]
        obtain ⟨d, hd⟩ : ∃ d, max f.r m.r = d := ⟨_, rfl⟩
        rw [hd]
        have HE := hid (And.intro ha (And.intro hbb hd))
        obtain ⟨w2, hw2⟩ : ∃ w2, w2 = w1.setCell ⟨w.heap.size, 2, none⟩ (.int .i64 a) := ⟨_, rfl⟩
        have s2 : Rw w2 w.heap.size #[.int .i64 f.n, .int .i64 f.x, .int .i64 a, .int .i64 f.r] 42 := by rw [hw2]; exact R1.out.1.put 2 _
        obtain ⟨w3, hw3⟩ : ∃ w3, w3 = w2.setCell ⟨w.heap.size, 1, none⟩ (.int .i64 b) := ⟨_, rfl⟩
        have s3 : Rw w3 w.heap.size #[.int .i64 f.n, .int .i64 b, .int .i64 a, .int .i64 f.r] 42 := by rw [hw3]; exact s2.put 1 _
        obtain ⟨w4, hw4⟩ : ∃ w4, w4 = w3.setCell ⟨w.heap.size, 3, none⟩ (.int .i64 d) := ⟨_, rfl⟩
        have s4 : Rw w4 w.heap.size #[.int .i64 f.n, .int .i64 b, .int .i64 a, .int .i64 d] 42 := by rw [hw4]; exact s3.put 3 _
        have t2 : Turned (fun k => k = w.heap.size) w1 w2 := by rw [hw2]; exact Turned.one _ _ _ _
        have t3 : Turned (fun k => k = w.heap.size) w1 w3 := t2.trans (by rw [hw3]; exact Turned.one _ _ _ _)
        have t4 : Turned (fun k => k = w.heap.size) w1 w4 := t3.trans (by rw [hw4]; exact Turned.one _ _ _ _)
        have up : ∀ {W : World} {k : Nat} {cs : Array Value} {t : TypeId}, Turned (fun k => k = w.heap.size) w1 W → k ≠ w.heap.size → Rw w1 k cs t → Rw W k cs t := fun ht hk h => (ht.block _ (Vo.row_lt' h) hk).trans h
        have q1 := fun {W : World} (ht : Turned (fun k => k = w.heap.size) w1 W) => up ht (by omega) R1.out.2.1
        have q2 := fun {W : World} (ht : Turned (fun k => k = w.heap.size) w1 W) => up ht (by omega) R1.out.2.2
        have hst := Im.stRow info_flow (cs' := #[.int .i64 f.n, .int .i64 b, .int .i64 a, .int .i64 d]) (q2 t4) rfl rfl (by simp [Value.oneCell'])
        obtain ⟨w5, hw5⟩ : ∃ w5, w5 = w4.setRow (w.heap.size + 2) #[.int .i64 f.n, .int .i64 b, .int .i64 a, .int .i64 d] := ⟨_, rfl⟩
        rw [← hw5] at hst
        have HF5 : Hid (Rw w5 (w.heap.size + 2) #[.int .i64 f.n, .int .i64 b, .int .i64 a, .int .i64 d] 42 ∧ Below w.heap.size w w5) := hid (by
          rw [hw5]
          refine ⟨setRow_heap w4 (w.heap.size + 2) _ _ _ _ (q2 t4), ?_⟩
          have hz := B1.out.size
          exact (B1.out.trans (t4.below hz (fun k hk => by omega))).trans ((Im.row_turned w4 (w.heap.size + 2) _).below (Nat.le_trans hz t4.size) (fun k hk => by omega))
          )
        have Z2 := hid (And.intro (row_cell s2 1) (And.intro (row_cell s2 2) (row_free s2 1)))
        have Z3 := hid (And.intro (row_cell s3 3) (And.intro (row_free s3 3) (row_cell (q1 t3) 8)))
        have Z4 := hid (And.intro (ldF s4 rfl) hst)
        have HW2 := hid hw2
        have HW3 := hid hw3
        have HW4 := hid hw4
        clear hw2 hw3 hw4 hw5 s2 s3 s4 t2 t3 t4 up q1 q2 hst hbb hd
        go_enter Try.func19, Try.ntmps19
        go_upto_region 1 with fail
        rw [← HW1.out]
        go_upto_region 4 with fail
        rw [← HW2.out]
        clear x0 x1 x5 x8 x14 y0 y1 y2 y3 yf1 yf2 yf3 ha
        obtain ⟨z1, z2, z3⟩ := Z2.out
        have hbb := HE.out.2.1
        go_upto_region 5 with fail
        rw [← HW3.out]
        clear z1 z2 z3 hbb
        obtain ⟨z1, z2, z3⟩ := Z3.out
        have hd := HE.out.2.2
        go_upto_region 8 with fail
        rw [← HW4.out]
        clear z1 z2 z3 hd
        obtain ⟨z1, z2⟩ := Z4.out
        go_wp2_with fail
        refine bodyPost_ret (results_cell_row rfl _ _ (w.heap.size + 2) _ _ _ _ rfl HF5.out.1 Try.underlying42 rfl (by rw [info_flow]; rfl)) rfl ?_
        exact ⟨rfl, HF5.out.2⟩
      | false =>
        rw [heard_not hK hF]
        clear hK hF
        obtain ⟨u, hu⟩ : ∃ u, min (f.x - 2) m.i = u := ⟨_, rfl⟩
        have u1 : -2 ≤ u := by omega
        have u2 : u ≤ 1099511627777 := by omega
        rw [hu]
        obtain ⟨t, ht⟩ : ∃ t, max f.m u = t := ⟨_, rfl⟩
        have t1 : 0 ≤ t := by omega
        have t2' : t ≤ 1099511627777 := by omega
        rw [ht]
        obtain ⟨w2, hw2⟩ : ∃ w2, w2 = w1.setCell ⟨w.heap.size, 1, none⟩ (.int .i64 (t + 1)) := ⟨_, rfl⟩
        have s2 : Rw w2 w.heap.size #[.int .i64 f.n, .int .i64 (t + 1), .int .i64 f.m, .int .i64 f.r] 42 := by rw [hw2]; exact R1.out.1.put 1 _
        have t2 : Turned (fun k => k = w.heap.size) w1 w2 := by rw [hw2]; exact Turned.one _ _ _ _
        have q2 : Rw w2 (w.heap.size + 2) #[.int .i64 0, .int .i64 0, .int .i64 0, .int .i64 0] 42 := (t2.block _ (Vo.row_lt' R1.out.2.2) (by omega)).trans R1.out.2.2
        have hst := Im.stRow info_flow (cs' := #[.int .i64 f.n, .int .i64 (t + 1), .int .i64 f.m, .int .i64 f.r]) q2 rfl rfl (by simp [Value.oneCell'])
        obtain ⟨w5, hw5⟩ : ∃ w5, w5 = w2.setRow (w.heap.size + 2) #[.int .i64 f.n, .int .i64 (t + 1), .int .i64 f.m, .int .i64 f.r] := ⟨_, rfl⟩
        rw [← hw5] at hst
        have HF5 : Hid (Rw w5 (w.heap.size + 2) #[.int .i64 f.n, .int .i64 (t + 1), .int .i64 f.m, .int .i64 f.r] 42 ∧ Below w.heap.size w w5) := hid (by
          rw [hw5]
          refine ⟨setRow_heap w2 (w.heap.size + 2) _ _ _ _ q2, ?_⟩
          have hz := B1.out.size
          exact (B1.out.trans (t2.below hz (fun k hk => by omega))).trans ((Im.row_turned w2 (w.heap.size + 2) _).below (Nat.le_trans hz t2.size) (fun k hk => by omega)))
        have Z4 := hid (And.intro (ldF s2 rfl) hst)
        have HW2 := hid hw2
        clear hw2 hw5 s2 t2 q2 hst
        go_enter Try.func19, Try.ntmps19
        go_upto_region 1 with fail
        rw [← HW1.out]
        go_upto_region 8 with fail
        rw [← HW2.out]
        clear x0 x1 x5 x8 x14 y0 y1 y2 y3 yf1 yf2 yf3
        obtain ⟨z1, z2⟩ := Z4.out
        go_wp2_with fail
        refine bodyPost_ret (results_cell_row rfl _ _ (w.heap.size + 2) _ _ _ _ rfl HF5.out.1 Try.underlying42 rfl (by rw [info_flow]; rfl)) rfl ?_
        exact ⟨rfl, HF5.out.2⟩
    · have b1 : (m.K == 4) = true := by simpa using hK
      have b2 : (m.F == f.n) = false := by simpa using hF
      have c1 : (m.K != 4) = false := by simpa using hK
      have c2 : (m.F != f.n) = true := by simpa using hF
      rw [heard_no (fun h => hF h.2)]
      clear hK hF
      have hst := Im.stRow info_flow (cs' := #[.int .i64 f.n, .int .i64 f.x, .int .i64 f.m, .int .i64 f.r]) R1.out.2.2 rfl rfl (by simp [Value.oneCell'])
      obtain ⟨w5, hw5⟩ : ∃ w5, w5 = w1.setRow (w.heap.size + 2) #[.int .i64 f.n, .int .i64 f.x, .int .i64 f.m, .int .i64 f.r] := ⟨_, rfl⟩
      rw [← hw5] at hst
      have HF5 : Hid (Rw w5 (w.heap.size + 2) #[.int .i64 f.n, .int .i64 f.x, .int .i64 f.m, .int .i64 f.r] 42 ∧ Below w.heap.size w w5) := hid (by
        rw [hw5]
        exact ⟨setRow_heap w1 (w.heap.size + 2) _ _ _ _ R1.out.2.2, B1.out.trans ((Im.row_turned w1 (w.heap.size + 2) _).below B1.out.size (fun k hk => by omega))⟩)
      have ld := ldF R1.out.1 rfl
      clear hw5
      go_enter Try.func19, Try.ntmps19
      go_upto_region 1 with fail
      rw [← HW1.out]
      go_wp2_with fail
      refine bodyPost_ret (results_cell_row rfl _ _ (w.heap.size + 2) _ _ _ _ rfl HF5.out.1 Try.underlying42 rfl (by rw [info_flow]; rfl)) rfl ?_
      exact ⟨rfl, HF5.out.2⟩
  · have b1 : (m.K == 4) = false := by simpa using hK
    have c1 : (m.K != 4) = true := by simpa using hK
    rw [heard_no (fun h => hK h.1)]
    clear hK
    have hst := Im.stRow info_flow (cs' := #[.int .i64 f.n, .int .i64 f.x, .int .i64 f.m, .int .i64 f.r]) R1.out.2.2 rfl rfl (by simp [Value.oneCell'])
    obtain ⟨w5, hw5⟩ : ∃ w5, w5 = w1.setRow (w.heap.size + 2) #[.int .i64 f.n, .int .i64 f.x, .int .i64 f.m, .int .i64 f.r] := ⟨_, rfl⟩
    rw [← hw5] at hst
    have HF5 : Hid (Rw w5 (w.heap.size + 2) #[.int .i64 f.n, .int .i64 f.x, .int .i64 f.m, .int .i64 f.r] 42 ∧ Below w.heap.size w w5) := hid (by
      rw [hw5]
      exact ⟨setRow_heap w1 (w.heap.size + 2) _ _ _ _ R1.out.2.2, B1.out.trans ((Im.row_turned w1 (w.heap.size + 2) _).below B1.out.size (fun k hk => by omega))⟩)
    have ld := ldF R1.out.1 rfl
    clear hw5
    go_enter Try.func19, Try.ntmps19
    go_upto_region 1 with fail
    rw [← HW1.out]
    go_wp2_with fail
    refine bodyPost_ret (results_cell_row rfl _ _ (w.heap.size + 2) _ _ _ _ rfl HF5.out.1 Try.underlying42 rfl (by rw [info_flow]; rfl)) rfl ?_
    exact ⟨rfl, HF5.out.2⟩
end Go.Proofs.Ytkmbkihfdilmbaa.Fw
