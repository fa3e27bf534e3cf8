/- Texts of the proof, one behind the other: SpoilEn, MsKit, MsWorks, MsLaw. -/
import Derived.Test.YtpigekbfngalbaaDoorPartAC
import Derived.Test.YtpigekbfngalbaaDoorPartAH
import Derived.Test.YtpigekbfngalbaaDoorPartAE
import Derived.Deep.RegionHeld3
namespace Go.Proofs.YtpigekbfngalbaaDoor
open Go.RowKit

def deadE (_ : El) : El := ⟨⟨-77, 0, []⟩, none, 0⟩
/-- the bytes of entries: each its own block, all of them in F -/
structure BytesE (w : World) (F : Nat → Prop) (L : List El) : Prop where
  own : ∀ q ∈ L, OwnsB 5 w 0 q.A q.c q.e.d ∧ ∀ k, blk q.A = some k → F k
  apart : Apart (L.map fun q => blk q.A)
theorem BytesE.keep {w w' : World} {F S : Nat → Prop} {L : List El} (h : BytesE w F L) (ht : Turned S w w') (hd : ∀ q ∈ L, ∀ k, blk q.A = some k → ¬ S k) : BytesE w' F L :=
  ⟨fun q hq => ⟨(h.own q hq).1.turned ht (hd q hq), (h.own q hq).2⟩, h.apart⟩
/-- the first k of them are written over -/
def halfE (L : List El) (k : Nat) : List El := (L.take k).map deadE ++ L.drop k
theorem halfE_length (L : List El) (k : Nat) (h : k ≤ L.length) : (halfE L k).length = L.length := by unfold halfE; rw [List.length_append, List.length_map, List.length_take, List.length_drop]; omega
theorem halfE_get (L : List El) (k : Nat) (h : k < L.length) : (halfE L k)[k]'(by rw [halfE_length L k (by omega)]; exact h) = L[k] := by
  have : (halfE L k)[k]? = some L[k] := by
    unfold halfE
    rw [List.getElem?_append_right (by rw [List.length_map, List.length_take]; omega), List.length_map, List.length_take, List.getElem?_drop, show k + (k - min k L.length) = k by omega, List.getElem?_eq_getElem h]
  rw [List.getElem?_eq_getElem (by rw [halfE_length L k (by omega)]; exact h)] at this
  exact Option.some.inj this
theorem halfE_set (L : List El) (k : Nat) (h : k < L.length) : (halfE L k).set k (deadE L[k]) = halfE L (k + 1) := by
  unfold halfE
  have hl : ((L.take k).map deadE).length = k := by rw [List.length_map, List.length_take]; omega
  rw [List.set_append_right _ _ (by omega), hl, Nat.sub_self, List.drop_eq_getElem_cons h, List.set_cons_zero, List.take_succ_eq_append_getElem h, List.map_append, List.append_assoc]
  rfl
/-- so far -/
structure SpToE (w wr : World) (F : Nat → Prop) (A : Option Addr) (c : Nat) (L : List El) (k : Nat) : Prop where
  row : RowIn cellsE 3 61 wr F A c (halfE L k)
  byt : BytesE wr F (L.drop k)
  tur : Turned F w wr

set_option maxHeartbeats 1600000 in
set_option maxRecDepth 100000 in
theorem spoilEs_any (F : Nat → Prop) (A : Option Addr) (c : Nat) (L : List El) (hL : L.length ≤ 100000) (w : World) (h : RowIn cellsE 3 61 w F A c L) (hb : BytesE w F L) :
    Calls Tryd.prog 55 #[.slice A L.length c] w fun e w' => e = .returned (.tuple #[]) ∧ Turned F w w' := by
  have H0 : Hid (SpToE w w F A c L 0) := hid ⟨by unfold halfE; simpa using h, by simpa using hb, Turned.refl _ _⟩
  clear h hb
  go_enter Tryd.func55, Tryd.ntmps55
  go_wp2_with fail
  go_loopw [2] (fun i wr => ∃ k : Nat, k ≤ L.length ∧ i = .int .i64 k ∧ Hid (SpToE w wr F A c L k)) (fun i _ => L.length - (RowKit.intOf i).toNat)
  case atStart => exact ⟨0, by omega, rfl, H0⟩
  case round =>
    clear H0
    obtain ⟨k, hk, rfl, hS⟩ := hrel
    by_cases hlt : k < L.length
    · have hlt' : k < (halfE L k).length := by rw [halfE_length L k hk]; exact hlt
      obtain ⟨g, rfl, hg, hFg, hc, hf⟩ := hS.out.row.get k hlt'
      rw [halfE_get L k hlt] at hc
      have c2 : wr.cell? ⟨g, k * 3 + 2, none⟩ = some (.slice L[k].A L[k].e.d.length L[k].c) := hc 2 (by omega)
      have hk0 : (k : Int) < (L.length : Int) := by omega
      have hdk : L.drop k = L[k] :: L.drop (k + 1) := List.drop_eq_getElem_cons hlt
      have hmem : L[k] ∈ L.drop k := by rw [hdk]; exact List.mem_cons_self
      have ho := hS.out.byt.own L[k] hmem
      have HSp := hid (spoil_N 0 L[k].A L[k].c L[k].e.d L[k].e.d.length rfl (Nat.le_trans ho.1.room.1 ho.1.room.2) wr ho.1)
      have HI := hid (And.intro ho (And.intro hdk (And.intro hlt' (And.intro hg (And.intro hFg hf)))))
      have cc : Hid (∀ j, j < 3 → wr.cell? ⟨g, k * 3 + j, none⟩ = (cellsE L[k])[j]?) := hid hc
      clear hc hf ho hdk hmem hlt' hFg
      go_wp2_with fail
      refine HSp.out.mono ?_
      rintro e w2 ⟨rfl, hg2⟩
      obtain ⟨ho, hdk, hlt', hg', hFg, hf⟩ := HI.out
      have T2 : Turned (fun j => blk L[k].A = some j) wr w2 := Turned.ofGrown hg2 (fun j hj => hj)
      have hnb : ¬ blk L[k].A = some g := fun e => by
        obtain ⟨cur, hcur⟩ := hS.out.row.tag (k := g) rfl
        exact ho.1.ne hcur (by decide) e
      have r2 := hS.out.row.keep T2 (fun j hj e => hnb (by have hj : g = j := (by injection hj); rw [hj]; exact e))
      have d0 : w2.cell? ⟨g, k * 3, none⟩ = some (.int .i64 L[k].e.t) := (T2.cell (p := ⟨g, k * 3, none⟩) hg' hnb).trans (cc.out 0 (by omega))
      have d1 : w2.cell? ⟨g, k * 3 + 1, none⟩ = some (.int .i64 L[k].e.k) := (T2.cell (p := ⟨g, k * 3 + 1, none⟩) hg' hnb).trans (cc.out 1 (by omega))
      have d2 : w2.cell? ⟨g, k * 3 + 2, none⟩ = some (.slice L[k].A L[k].e.d.length L[k].c) := (T2.cell (p := ⟨g, k * 3 + 2, none⟩) hg' hnb).trans (cc.out 2 (by omega))
      have f2 : ∀ j, w2.frozen? ⟨g, j, none⟩ = false := fun j => (World.frozen?_of_block (a := ⟨g, j, none⟩) (T2.block g hg' hnb)).trans (hf j)
      have hget := halfE_get L k hlt
      have p1 := r2.put rfl k 0 hlt' (by omega) (.int .i64 (-77)) ⟨⟨-77, L[k].e.k, L[k].e.d⟩, L[k].A, L[k].c⟩ (by rw [hget]; rfl)
      have p2 := p1.put rfl k 1 (by rw [List.length_set]; exact hlt') (by omega) (.int .i64 0) ⟨⟨-77, 0, L[k].e.d⟩, L[k].A, L[k].c⟩ (by rw [List.getElem_set_self]; rfl)
      have p3 := p2.put rfl k 2 (by rw [List.length_set, List.length_set]; exact hlt') (by omega) (.slice none 0 0) (deadE L[k]) (by rw [List.getElem_set_self]; rfl)
      rw [List.set_set, List.set_set, halfE_set L k hlt, Nat.add_zero] at p3
      have T3 := Turned.three w2 g (k * 3) (k * 3 + 1) (k * 3 + 2) (.int .i64 (-77)) (.int .i64 0) (.slice none 0 0)
      have HS : Hid (SpToE w (((w2.setCell ⟨g, k * 3, none⟩ (.int .i64 (-77))).setCell ⟨g, k * 3 + 1, none⟩ (.int .i64 0)).setCell ⟨g, k * 3 + 2, none⟩ (.slice none 0 0)) F (some ⟨g, 0, none⟩) c L (k + 1)) := hid (by
        refine ⟨p3, ?_, (hS.out.tur.then_ T2 (fun j _ hj => ho.2 j hj)).then_ T3 (fun j _ hj => by rw [hj]; exact hFg)⟩
        have hb := hS.out.byt
        rw [hdk] at hb
        have hown := hb.own
        have hap := hb.apart
        unfold Apart at hap
        rw [List.map_cons, List.pairwise_cons] at hap
        have hb2 : BytesE wr F (L.drop (k + 1)) := ⟨fun q hq => hown q (List.mem_cons_of_mem _ hq), hap.2⟩
        have hb3 := hb2.keep T2 (fun q hq j hj e => hap.1 _ (List.mem_map.2 ⟨q, hq, rfl⟩) j e hj)
        refine hb3.keep T3 (fun q hq j hj e => ?_)
        obtain ⟨cur, hcur⟩ := r2.tag (k := g) rfl
        exact (hb3.own q hq).1.ne hcur (by decide) (by rw [hj, e]))
      clear p1 p2 p3 T3 T2 hg2 r2 hget cc HI HSp hS c2 hnb ho hdk hf hg' hlt' hFg
      go_wp2_with fail
      go_roundw
      case rel => exact ⟨k + 1, by omega, by go_num, HS⟩
      case measure => simp [RowKit.intOf]; omega
    · obtain rfl : k = L.length := by omega
      have hkk : ¬ (L.length : Int) < (L.length : Int) := by omega
      go_wp2_with fail
      go_end0
      exact ⟨rfl, hS.out.tur⟩
/-- entries that the call has made are written over: nothing but their blocks has turned -/
theorem spoilE_any (B N : Nat) (A : Option Addr) (c n : Nat) (L : List Rl.En) (hn : L.length = n) (hL : n ≤ 100000) (w : World) (h : OwnE w B N A c L) :
    Calls Tryd.prog 55 #[.slice A n c] w fun e w' => e = .returned (.tuple #[]) ∧ Turned (Bl B N) w w' := by
  obtain ⟨M, h1, h2⟩ := h
  have e : n = M.length := by rw [← hn, ← h1, List.length_map]
  rw [e]
  exact spoilEs_any (Bl B N) A c M (by omega) w h2.row ⟨h2.own, h2.apart⟩
end Go.Proofs.YtpigekbfngalbaaDoor
namespace Go.Proofs.YtpigekbfngalbaaDoor.Ms
open Go.RowKit
set_option maxRecDepth 100000
set_option linter.unusedVariables false
attribute [local go_sem ↓] loadAt_msg storeAt_msg

theorem two_cells (w : World) (x y : Array Value) (t : TypeId) (i : Nat) : ((w.alloc (.cells x t)).alloc (.cells y t)).cell? ⟨w.heap.size, i, none⟩ = x[i]? ∧ ((w.alloc (.cells x t)).alloc (.cells y t)).cell? ⟨w.heap.size + 1, i, none⟩ = y[i]? := by
  refine ⟨(World.cell?_alloc_past _ _ _ (by simp)).trans (cell_of_row _ w.heap.size i _ _ (0, 0) (heap_alloc_new w _)), ?_⟩
  have h1 := heap_alloc_new (w.alloc (.cells x t)) (.cells y t)
  rw [World.size_alloc] at h1
  exact cell_of_row _ (w.heap.size + 1) i _ _ (0, 0) h1
theorem diff {m m' : M} (h : m ≠ m') : Ending.returned (.bool false) = .returned (.bool (decide (m = m'))) := by
  rw [decide_eq_false h]
set_option maxHeartbeats 6400000 in
theorem same_any (m m' : M) (A : Option Addr) (c : Nat) (A' : Option Addr) (c' : Nat) (A2 : Option Addr) (c2 : Nat) (A3 : Option Addr) (c3 : Nat) (w : World) (h : IsEnts w w.heap.size A m.es) (h' : IsEnts w w.heap.size A2 m'.es) (g : IsBytes w w.heap.size A' m.d) (g' : IsBytes w w.heap.size A3 m'.d) (hs : Small m) (hs' : Small m') :
    Calls Tryd.prog 20 #[.agg #[.int .i64 m.K, .int .i64 m.F, .int .i64 m.T, .int .i64 m.g, .int .i64 m.t, .int .i64 m.i, .int .i64 m.p, .int .i64 m.c, .int .i64 m.r, .int .i64 m.x, .int .i64 m.a, .int .i64 m.b, .int .i64 m.v, .int .i64 m.s, .bool m.ok, .slice A m.es.length c, .slice A' m.d.length c'], .agg #[.int .i64 m'.K, .int .i64 m'.F, .int .i64 m'.T, .int .i64 m'.g, .int .i64 m'.t, .int .i64 m'.i, .int .i64 m'.p, .int .i64 m'.c, .int .i64 m'.r, .int .i64 m'.x, .int .i64 m'.a, .int .i64 m'.b, .int .i64 m'.v, .int .i64 m'.s, .bool m'.ok, .slice A2 m'.es.length c2, .slice A3 m'.d.length c3]] w fun e w' => e = .returned (.bool (decide (m = m'))) ∧ Below w.heap.size w w' := by
  have HB : Hid (∀ x y : Array Value, Below w.heap.size w ((w.alloc (.cells x 25)).alloc (.cells y 25))) := hid fun x y => ((Below.refl _ w).alloc (Nat.le_refl _) _).alloc (by simp) _
  have HE := hid fun (wz : World) (hb : Below w.heap.size w wz) => ents_same A A2 c c2 _ _ m.es m'.es rfl rfl hs.es wz ((h.below hb).more hb.size) ((h'.below hb).more hb.size)
  have HS := hid fun (wz : World) (hb : Below w.heap.size w wz) => same_N w.heap.size w.heap.size A' A3 c' c3 m.d m'.d _ _ rfl rfl (by have := hs.d; unfold maxLen; omega) (by have := hs'.d; unfold maxLen; omega) wz (g.below hb) (g'.below hb)
  clear h h' g g' hs hs'
  go_enter Tryd.func20, Tryd.ntmps20
  go_wp2_with fail
  all_goals try (go_ret; exact ⟨diff (by rintro rfl; simp_all), HB.out _ _⟩)
  refine (HE.out _ (HB.out _ _)).mono ?_
  rintro e w2 ⟨rfl, hb⟩
  have q1 : w2.cell? ⟨w.heap.size, 16, none⟩ = some (.slice A' m.d.length c') := (hb.cell (p := ⟨w.heap.size, 16, none⟩) (by simp; omega)).trans (two_cells w _ _ _ 16).1
  have q2 : w2.cell? ⟨w.heap.size + 1, 16, none⟩ = some (.slice A3 m'.d.length c3) := (hb.cell (p := ⟨w.heap.size + 1, 16, none⟩) (by simp)).trans (two_cells w _ _ _ 16).2
  have HB2 := hid ((HB.out _ _).trans (hb.mono (by simp; omega)))
  clear hb
  by_cases he : m.es = m'.es
  · rw [decide_eq_true he]
    have HEQ := hid he
    clear he
    go_wp2_with fail
    refine (HS.out w2 HB2.out).mono ?_
    rintro e w3 ⟨rfl, n, rfl⟩
    by_cases hd : m.d = m'.d
    · rw [decide_eq_true hd]
      have HM : Hid (m = m') := by
        have h1 := HEQ.out
        show m = m'
        cases m; cases m'; simp_all
      go_wp2_with fail
      go_ret
      rw [decide_eq_true HM.out]
      exact ⟨rfl, below_drewN HB2.out n⟩
    · rw [decide_eq_false hd]
      have HD := hid hd
      clear hd
      go_wp2_with fail
      go_ret
      exact ⟨diff (fun e => HD.out (by rw [e])), below_drewN HB2.out n⟩
  · rw [decide_eq_false he]
    have HD := hid he
    clear he
    go_wp2_with fail
    go_ret
    exact ⟨diff (fun e => HD.out (by rw [e])), HB2.out⟩
end Go.Proofs.YtpigekbfngalbaaDoor.Ms
namespace Go.Proofs.YtpigekbfngalbaaDoor.Ms
open Go.RowKit
set_option maxRecDepth 100000
set_option linter.unusedVariables false
attribute [local go_sem ↓] loadAt_msg storeAt_msg

/-- greater than the statements go through -/
def bigM (m : M) : Bool := big m.es 2000 131072 || decide (131072 < m.d.length)
theorem big_small {m : M} (h : bigM m = false) : Small m ∧ m.es.length ≤ 2000 ∧ weigh m.es ≤ 131072 ∧ m.d.length ≤ 131072 := by
  unfold bigM big at h
  rw [Bool.or_eq_false_iff, Bool.or_eq_false_iff, decide_eq_false_iff_not, decide_eq_false_iff_not, decide_eq_false_iff_not] at h
  exact ⟨⟨by omega, by omega, by omega⟩, by omega, by omega, by omega⟩
set_option maxHeartbeats 1600000 in
theorem bigMsg_any (m : M) (A : Option Addr) (c : Nat) (A' : Option Addr) (c' : Nat) (w : World) (h : IsEnts w w.heap.size A m.es) (hd : m.d.length ≤ maxLen) :
    Calls Tryd.prog 31 #[.agg #[.int .i64 m.K, .int .i64 m.F, .int .i64 m.T, .int .i64 m.g, .int .i64 m.t, .int .i64 m.i, .int .i64 m.p, .int .i64 m.c, .int .i64 m.r, .int .i64 m.x, .int .i64 m.a, .int .i64 m.b, .int .i64 m.v, .int .i64 m.s, .bool m.ok, .slice A m.es.length c, .slice A' m.d.length c'], .int .i64 2000, .int .i64 131072] w fun e w' => e = .returned (.bool (bigM m)) ∧ Below w.heap.size w w' := by
  have hb : Below w.heap.size w (w.alloc (.cells #[.int .i64 m.K, .int .i64 m.F, .int .i64 m.T, .int .i64 m.g, .int .i64 m.t, .int .i64 m.i, .int .i64 m.p, .int .i64 m.c, .int .i64 m.r, .int .i64 m.x, .int .i64 m.a, .int .i64 m.b, .int .i64 m.v, .int .i64 m.s, .bool m.ok, .slice A m.es.length c, .slice A' m.d.length c'] 25)) := (Below.refl _ w).alloc (Nat.le_refl _) _
  have HB := hid hb
  have HE := hid (big_any w.heap.size A c _ m.es rfl 2000 131072 (by omega) (by omega) _ (h.below hb))
  clear hb h
  obtain ⟨b, hbb⟩ : ∃ b, b = big m.es 2000 131072 := ⟨_, rfl⟩
  have HBB : Hid (∀ x : Bool, decide (131072 < m.d.length) = x → bigM m = (b || x)) := hid fun x hx => by unfold bigM; rw [hx, hbb]
  rw [← hbb] at HE
  clear hbb
  unfold maxLen at hd
  go_enter Tryd.func31, Tryd.ntmps31
  go_wp2_with fail
  refine HE.out.mono ?_
  rintro e w1 ⟨rfl, hw1⟩
  rw [hw1]
  clear hw1
  cases b
  · by_cases hl : 131072 < m.d.length
    · have HR := hid (HBB.out true (decide_eq_true hl))
      have hl' : decide ((131072 : Int) < (m.d.length : Int)) = true := decide_eq_true (by omega)
      have HL := hid hl'
      clear hl'
      go_wp2_with fail
      go_ret
      rw [HR.out]
      exact ⟨congrArg (fun b => Ending.returned (.bool b)) HL.out, HB.out⟩
    · have HR := hid (HBB.out false (decide_eq_false hl))
      have hl' : decide ((131072 : Int) < (m.d.length : Int)) = false := decide_eq_false (by omega)
      have HL := hid hl'
      clear hl'
      go_wp2_with fail
      go_ret
      rw [HR.out]
      exact ⟨congrArg (fun b => Ending.returned (.bool b)) HL.out, HB.out⟩
  · have HR := hid (HBB.out _ rfl)
    go_wp2_with fail
    go_ret
    rw [HR.out]
    exact ⟨rfl, HB.out⟩
set_option maxHeartbeats 1600000 in
theorem bigL_any (m : M) (A : Option Addr) (c : Nat) (A' : Option Addr) (c' : Nat) (w : World) (h : IsEnts w w.heap.size A m.es) (hd : m.d.length ≤ maxLen) :
    Calls Tryd.prog 11 #[.agg #[.int .i64 m.K, .int .i64 m.F, .int .i64 m.T, .int .i64 m.g, .int .i64 m.t, .int .i64 m.i, .int .i64 m.p, .int .i64 m.c, .int .i64 m.r, .int .i64 m.x, .int .i64 m.a, .int .i64 m.b, .int .i64 m.v, .int .i64 m.s, .bool m.ok, .slice A m.es.length c, .slice A' m.d.length c']] w fun e w' => e = .returned (.bool (bigM m)) ∧ Below w.heap.size w w' := by
  have hb : Below w.heap.size w (w.alloc (.cells #[.int .i64 m.K, .int .i64 m.F, .int .i64 m.T, .int .i64 m.g, .int .i64 m.t, .int .i64 m.i, .int .i64 m.p, .int .i64 m.c, .int .i64 m.r, .int .i64 m.x, .int .i64 m.a, .int .i64 m.b, .int .i64 m.v, .int .i64 m.s, .bool m.ok, .slice A m.es.length c, .slice A' m.d.length c'] 25)) := (Below.refl _ w).alloc (Nat.le_refl _) _
  have HB := hid hb
  have HE := hid (bigMsg_any m A c A' c' _ ((h.below hb).more hb.size) hd)
  have hld := ld_new w 25 #[.int .i64 m.K, .int .i64 m.F, .int .i64 m.T, .int .i64 m.g, .int .i64 m.t, .int .i64 m.i, .int .i64 m.p, .int .i64 m.c, .int .i64 m.r, .int .i64 m.x, .int .i64 m.a, .int .i64 m.b, .int .i64 m.v, .int .i64 m.s, .bool m.ok, .slice A m.es.length c, .slice A' m.d.length c'] rfl
  clear hb h
  go_enter Tryd.func11, Tryd.ntmps11
  go_wp2_with fail
  refine HE.out.mono ?_
  rintro e w1 ⟨rfl, hw1⟩
  have HB2 := hid (HB.out.trans (hw1.mono HB.out.size))
  clear hw1 hld
  go_wp2_with fail
  go_ret
  exact ⟨rfl, HB2.out⟩
/-- the chapter's message -/
def askM : M := { M0 with K := 8, F := 1, T := 2, x := 9, a := 3, b := 5 }
theorem results_one {fn : Func} {p : Tmp} (h : fn.results = #[.cell p 25]) (tmps : Array Value) (w : World) (g : Nat) (t : TypeId) (cs : Array Value) (fr : Nat × Nat)
    (hp : tmps.getD p undef = .pointer (some ⟨g, 0, none⟩)) (hg : w.heap[g]? = some (.cells cs t fr)) (hs : cs.size = 17) :
    (results fn tmps).run Tryd.prog w = .ok (.agg cs) w :=
  results_cell_row h tmps w g t cs fr _ hp hg Tryd.underlying25 rfl (by rw [info_msg, hs])
set_option maxHeartbeats 1600000 in
theorem ask_any (w : World) :
    Calls Tryd.prog 32 #[] w fun e w' => e = .returned (.agg #[.int .i64 askM.K, .int .i64 askM.F, .int .i64 askM.T, .int .i64 askM.g, .int .i64 askM.t, .int .i64 askM.i, .int .i64 askM.p, .int .i64 askM.c, .int .i64 askM.r, .int .i64 askM.x, .int .i64 askM.a, .int .i64 askM.b, .int .i64 askM.v, .int .i64 askM.s, .bool askM.ok, .slice none askM.es.length 0, .slice none askM.d.length 0]) ∧ Below w.heap.size w w' := by
  have hst := st_new w #[.int .i64 0, .int .i64 0, .int .i64 0, .int .i64 0, .int .i64 0, .int .i64 0, .int .i64 0, .int .i64 0, .int .i64 0, .int .i64 0, .int .i64 0, .int .i64 0, .int .i64 0, .int .i64 0, .bool false, .slice none 0 0, .slice none 0 0]
    #[.int .i64 8, .int .i64 1, .int .i64 2, .int .i64 0, .int .i64 0, .int .i64 0, .int .i64 0, .int .i64 0, .int .i64 0, .int .i64 9, .int .i64 3, .int .i64 5, .int .i64 0, .int .i64 0, .bool false, .slice none 0 0, .slice none 0 0] rfl rfl (by simp [Value.oneCell'])
  go_enter Tryd.func32, Tryd.ntmps32
  go_wp2_with fail
  refine bodyPost_ret (results_one rfl _ _ w.heap.size _ _ _ rfl (heap_alloc_new w _) rfl) rfl ?_
  exact ⟨rfl, (Below.refl _ w).alloc (Nat.le_refl _) _⟩
theorem ask_wf : Wf askM := by
  refine ⟨?_, ?_, ?_⟩
  · intro r hr
    simp only [nums, List.mem_cons, List.not_mem_nil, or_false] at hr
    rcases hr with rfl | rfl | rfl | rfl | rfl | rfl | rfl | rfl | rfl | rfl | rfl | rfl | rfl | rfl <;> exact ⟨by decide, by decide⟩
  · intro e he; cases he
  · intro e he; cases he
theorem ask_small : Small askM := ⟨by decide, by decide, by decide⟩
theorem ask_check : check askM = 0 := by decide
theorem ask_is (w : World) : Is w w.heap.size askM none 0 none 0 := ⟨fun r hr => ask_wf.num r hr, IsEnts.nil, ⟨Nat.le_refl _, Nat.zero_le _⟩, fun _ => rfl, IsBytes.nil, ⟨Nat.le_refl _, Nat.zero_le _⟩, fun _ => rfl⟩
theorem encF_lt (m : M) (r : Nat) (hd : ∀ x ∈ m.d, x < 256) (he : ∀ e ∈ m.es, ∀ x ∈ e.d, x < 256) : ∀ x ∈ m.encF r, x < 256 := by
  intro x hx
  unfold M.encF at hx
  split at hx
  · exact Pk.enc_small _ x hx
  · split at hx
    · rcases List.mem_append.1 hx with h | h
      · exact Pk.enc_small _ x h
      · obtain ⟨e, h1, h2⟩ := List.mem_flatMap.1 h
        unfold encE at h2
        rcases List.mem_append.1 h2 with h | h
        · exact Pk.enc_small _ x h
        · rcases List.mem_append.1 h with h | h
          · exact Pk.enc_small _ x h
          · rcases List.mem_append.1 h with h | h
            · exact Pk.enc_small _ x h
            · exact he e h1 x h
    · split at hx
      · rcases List.mem_append.1 hx with h | h
        · exact Pk.enc_small _ x h
        · exact hd x h
      · exact Pk.enc_small _ x hx
theorem enc_lt (m : M) (hw : Wf m) : ∀ x ∈ m.enc, x < 256 := by
  intro x hx
  obtain ⟨r, _, h⟩ := List.mem_flatMap.1 hx
  exact encF_lt m r hw.d (fun e he => (hw.es e he).2.2) x h
theorem ask_len : (Fr.frame askM.enc).length = 56 := by
  obtain ⟨h1, h2, _⟩ := check_zero ask_check
  rw [Fr.frame_length, enc_length askM h1 h2]; rfl
theorem ask_back : get (Fr.frame askM.enc) = (askM, 0) := by
  have := back askM ask_wf ask_small ask_check [] (enc_lt askM ask_wf)
  rwa [List.append_nil] at this
theorem put_ask (w : World) (hT : Tab w) : Calls Tryd.prog 16 #[.agg #[.int .i64 askM.K, .int .i64 askM.F, .int .i64 askM.T, .int .i64 askM.g, .int .i64 askM.t, .int .i64 askM.i, .int .i64 askM.p, .int .i64 askM.c, .int .i64 askM.r, .int .i64 askM.x, .int .i64 askM.a, .int .i64 askM.b, .int .i64 askM.v, .int .i64 askM.s, .bool askM.ok, .slice none askM.es.length 0, .slice none askM.d.length 0]] w fun e w' => ∃ A2 c2, e = .returned (.tuple #[.slice A2 56 c2, .int .i64 0]) ∧ OwnsB 5 w' w.heap.size A2 c2 (Fr.frame askM.enc) ∧ Below w.heap.size w w' := by
  refine (put_any askM none 0 none 0 w (ask_is w) hT ask_small).mono ?_
  rintro e w' ⟨A2, c2, he, ho, hb⟩
  have hp : put askM = (Fr.frame askM.enc, 0) := if_pos ask_check
  rw [hp] at he ho
  refine ⟨A2, c2, ?_, ho, hb⟩
  rw [he, ask_len]; rfl
theorem get_ask (w : World) (hT : Tab w) (A : Option Addr) (c base : Nat) (h : OwnsB 5 w base A c (Fr.frame askM.enc)) : Calls Tryd.prog 22 #[.slice A 56 c] w fun e w' => ∃ A1 c1 A2 c2, e = .returned (.tuple #[.agg #[.int .i64 askM.K, .int .i64 askM.F, .int .i64 askM.T, .int .i64 askM.g, .int .i64 askM.t, .int .i64 askM.i, .int .i64 askM.p, .int .i64 askM.c, .int .i64 askM.r, .int .i64 askM.x, .int .i64 askM.a, .int .i64 askM.b, .int .i64 askM.v, .int .i64 askM.s, .bool askM.ok, .slice A1 askM.es.length c1, .slice A2 askM.d.length c2], .int .i64 0]) ∧ Below w.heap.size w w' := by
  have hcap := h.cap
  rw [ask_len] at hcap
  refine (get_any _ A c 56 ask_len w h.reads h.none_ hcap (by omega) hT).mono ?_
  rintro e w' ⟨A1, c1, A2, c2, he, ho, hb⟩
  rw [ask_back] at he ho
  exact ⟨A1, c1, A2, c2, he, hb⟩
theorem same_ask (w : World) (A : Option Addr) (c : Nat) (A' : Option Addr) (c' : Nat) : Calls Tryd.prog 20 #[.agg #[.int .i64 askM.K, .int .i64 askM.F, .int .i64 askM.T, .int .i64 askM.g, .int .i64 askM.t, .int .i64 askM.i, .int .i64 askM.p, .int .i64 askM.c, .int .i64 askM.r, .int .i64 askM.x, .int .i64 askM.a, .int .i64 askM.b, .int .i64 askM.v, .int .i64 askM.s, .bool askM.ok, .slice A askM.es.length c, .slice A' askM.d.length c'], .agg #[.int .i64 askM.K, .int .i64 askM.F, .int .i64 askM.T, .int .i64 askM.g, .int .i64 askM.t, .int .i64 askM.i, .int .i64 askM.p, .int .i64 askM.c, .int .i64 askM.r, .int .i64 askM.x, .int .i64 askM.a, .int .i64 askM.b, .int .i64 askM.v, .int .i64 askM.s, .bool askM.ok, .slice none askM.es.length 0, .slice none askM.d.length 0]] w fun e w' => e = .returned (.bool true) ∧ Below w.heap.size w w' := by
  refine (same_any askM askM A c A' c' none 0 none 0 w IsEnts.nil IsEnts.nil IsBytes.nil IsBytes.nil ask_small ask_small).mono ?_
  rintro e w' ⟨he, hb⟩
  exact ⟨by rw [he, decide_eq_true rfl], hb⟩
/-- a load that a region must not take first -/
def loadM : Op := Op.load 25 (Operand.tmp 3)
set_option maxHeartbeats 3200000 in
theorem works_any (w : World) (hT : Tab w) :
    Calls Tryd.prog 12 #[] w fun e w' => e = .returned (.bool true) ∧ Below w.heap.size w w' := by
  have HT := hid hT
  have hpos := hT.pos
  clear hT
  go_enter Tryd.func12, Tryd.ntmps12
  go_wp2_with fail
  refine (ask_any w).mono ?_
  rintro e w1 ⟨rfl, hb1⟩
  have HB1 := hid hb1
  have HP := hid (put_ask w1 (HT.out.below hb1 hpos))
  clear hb1
  go_wp2_with fail
  refine HP.out.mono ?_
  rintro e w2 ⟨A2, c2, rfl, ho, hb2⟩
  have HB2 := hid (HB1.out.trans (hb2.mono HB1.out.size))
  have HG := hid (get_ask w2 (HT.out.below HB2.out hpos) A2 c2 _ ho)
  clear ho hb2
  go_wp2_with fail
  refine HG.out.mono ?_
  rintro e w3 ⟨A3, c3, A4, c4, rfl, hb3⟩
  have HB3 := hid (HB2.out.trans (hb3.mono HB2.out.size))
  have hst := st_new w3 #[.int .i64 0, .int .i64 0, .int .i64 0, .int .i64 0, .int .i64 0, .int .i64 0, .int .i64 0, .int .i64 0, .int .i64 0, .int .i64 0, .int .i64 0, .int .i64 0, .int .i64 0, .int .i64 0, .bool false, .slice none 0 0, .slice none 0 0] #[.int .i64 askM.K, .int .i64 askM.F, .int .i64 askM.T, .int .i64 askM.g, .int .i64 askM.t, .int .i64 askM.i, .int .i64 askM.p, .int .i64 askM.c, .int .i64 askM.r, .int .i64 askM.x, .int .i64 askM.a, .int .i64 askM.b, .int .i64 askM.v, .int .i64 askM.s, .bool askM.ok, .slice A3 askM.es.length c3, .slice A4 askM.d.length c4] rfl rfl (msg_one askM A3 c3 A4 c4)
  have hbx : Bx (w3.alloc (.cells #[.int .i64 askM.K, .int .i64 askM.F, .int .i64 askM.T, .int .i64 askM.g, .int .i64 askM.t, .int .i64 askM.i, .int .i64 askM.p, .int .i64 askM.c, .int .i64 askM.r, .int .i64 askM.x, .int .i64 askM.a, .int .i64 askM.b, .int .i64 askM.v, .int .i64 askM.s, .bool askM.ok, .slice A3 askM.es.length c3, .slice A4 askM.d.length c4] 25)) w3.heap.size askM A3 c3 A4 c4 := ⟨heap_alloc_new w3 _⟩
  have hb4 : Below w.heap.size w (w3.alloc (.cells #[.int .i64 askM.K, .int .i64 askM.F, .int .i64 askM.T, .int .i64 askM.g, .int .i64 askM.t, .int .i64 askM.i, .int .i64 askM.p, .int .i64 askM.c, .int .i64 askM.r, .int .i64 askM.x, .int .i64 askM.a, .int .i64 askM.b, .int .i64 askM.v, .int .i64 askM.s, .bool askM.ok, .slice A3 askM.es.length c3, .slice A4 askM.d.length c4] 25)) := HB3.out.alloc HB3.out.size _
  clear hb3
  generalize hw4 : (w3.alloc (.cells #[.int .i64 askM.K, .int .i64 askM.F, .int .i64 askM.T, .int .i64 askM.g, .int .i64 askM.t, .int .i64 askM.i, .int .i64 askM.p, .int .i64 askM.c, .int .i64 askM.r, .int .i64 askM.x, .int .i64 askM.a, .int .i64 askM.b, .int .i64 askM.v, .int .i64 askM.s, .bool askM.ok, .slice A3 askM.es.length c3, .slice A4 askM.d.length c4] 25)) = w4 at hst hbx hb4
  have HX := hid (And.intro hbx hb4)
  clear hbx hb4
  go_wp2_with fail
  have hopM : loadM = Op.load 25 (Operand.tmp 3) := rfl
  rw [← hopM]
  have hbd : Below w.heap.size w w4.drew := HX.out.2.drew
  have hld1 : (ldMsg (.pointer (some ⟨w3.heap.size, 0, none⟩))).run Tryd.prog w4.drew = .ok (.agg #[.int .i64 askM.K, .int .i64 askM.F, .int .i64 askM.T, .int .i64 askM.g, .int .i64 askM.t, .int .i64 askM.i, .int .i64 askM.p, .int .i64 askM.c, .int .i64 askM.r, .int .i64 askM.x, .int .i64 askM.a, .int .i64 askM.b, .int .i64 askM.v, .int .i64 askM.s, .bool askM.ok, .slice A3 askM.es.length c3, .slice A4 askM.d.length c4]) w4.drew := Bx.load ⟨HX.out.1.row⟩
  have HBD := hid hbd
  have HLD : Hid (∀ w5, Below w4.drew.heap.size w4.drew w5 → (ldMsg (.pointer (some ⟨w3.heap.size, 0, none⟩))).run Tryd.prog w5 = .ok (.agg #[.int .i64 askM.K, .int .i64 askM.F, .int .i64 askM.T, .int .i64 askM.g, .int .i64 askM.t, .int .i64 askM.i, .int .i64 askM.p, .int .i64 askM.c, .int .i64 askM.r, .int .i64 askM.x, .int .i64 askM.a, .int .i64 askM.b, .int .i64 askM.v, .int .i64 askM.s, .bool askM.ok, .slice A3 askM.es.length c3, .slice A4 askM.d.length c4]) w5) := hid fun w5 hb => Bx.load ((Bx.mk (w := w4.drew) HX.out.1.row).below hb (row_lt HX.out.1.row))
  clear hbd hw4 hst
  go_region_held3 (fun w' => True)
    (first | exact trivial | fail)
    (first
      | (go_at_call 20; refine (same_ask w5 A3 c3 A4 c4).mono ?_; rintro e w6 ⟨rfl, hb6⟩; have HB6 := hid (HB5.out.trans (hb6.mono HB5.out.size)); clear hb6)
      | (go_at_call 32; refine (ask_any _).mono ?_; rintro e w5 ⟨rfl, hb5⟩; have HB5 := hid (HBD.out.trans (hb5.mono HBD.out.size)); have hld2 := HLD.out w5 hb5; clear hb5))
  all_goals
    clear hld1 hld2 hopM
    go_wp2_with fail
    go_ret
    exact ⟨rfl, HB6.out⟩
end Go.Proofs.YtpigekbfngalbaaDoor.Ms
namespace Go.Proofs.YtpigekbfngalbaaDoor.Ms
open Go.RowKit
set_option maxRecDepth 100000
set_option linter.unusedVariables false

theorem Is.wf {w : World} {B : Nat} {m : M} {A A' : Option Addr} {c c' : Nat} (h : Is w B m A c A' c') : Wf m := by
  refine ⟨fun r hr => h.num r hr, fun e he => ?_, h.d.small⟩
  obtain ⟨i, hi, rfl⟩ := List.getElem_of_mem he
  have h1 := h.es.num _ he
  obtain ⟨b, off, _, _, hc⟩ := h.es.cells i hi
  obtain ⟨_, _, _, _, _, h2, _⟩ := hc i hi
  exact ⟨h1.1, h1.2, h2.small⟩
theorem Is.ents {w : World} {m : M} {A A' : Option Addr} {c c' : Nat} (h : Is w w.heap.size m A c A' c') {w' : World} (hb : Below w.heap.size w w') : IsEnts w' w'.heap.size A m.es := (h.es.below hb).more hb.size
theorem Is.data {w : World} {m : M} {A A' : Option Addr} {c c' : Nat} (h : Is w w.heap.size m A c A' c') {w' : World} (hb : Below w.heap.size w w') : IsBytes w' w'.heap.size A' m.d := (h.d.below hb).more hb.size
theorem Is.inp {w : World} {m : M} {A A' : Option Addr} {c c' : Nat} (h : Is w w.heap.size m A c A' c') (hs : Small m) {w' : World} (hT : Tab w') (hb : Below w.heap.size w w') : Inp w' m A := ⟨hT, h.ents hb, hs⟩
theorem put_zero {m : M} (h : check m = 0) : put m = (Fr.frame m.enc, 0) := if_pos h
theorem put_not {m : M} (h : check m ≠ 0) : put m = ([], check m) := if_neg h
theorem same_yes (m : M) (A : Option Addr) (c : Nat) (A' : Option Addr) (c' : Nat) (A2 : Option Addr) (c2 : Nat) (A3 : Option Addr) (c3 : Nat) (w : World) (h : IsEnts w w.heap.size A m.es) (h' : IsEnts w w.heap.size A2 m.es) (g : IsBytes w w.heap.size A' m.d) (g' : IsBytes w w.heap.size A3 m.d) (hs : Small m) :
    Calls Tryd.prog 20 #[.agg #[.int .i64 m.K, .int .i64 m.F, .int .i64 m.T, .int .i64 m.g, .int .i64 m.t, .int .i64 m.i, .int .i64 m.p, .int .i64 m.c, .int .i64 m.r, .int .i64 m.x, .int .i64 m.a, .int .i64 m.b, .int .i64 m.v, .int .i64 m.s, .bool m.ok, .slice A m.es.length c, .slice A' m.d.length c'], .agg #[.int .i64 m.K, .int .i64 m.F, .int .i64 m.T, .int .i64 m.g, .int .i64 m.t, .int .i64 m.i, .int .i64 m.p, .int .i64 m.c, .int .i64 m.r, .int .i64 m.x, .int .i64 m.a, .int .i64 m.b, .int .i64 m.v, .int .i64 m.s, .bool m.ok, .slice A2 m.es.length c2, .slice A3 m.d.length c3]] w fun e w' => e = .returned (.bool true) ∧ Below w.heap.size w w' :=
  (same_any m m A c A' c' A2 c2 A3 c3 w h h' g g' hs hs).mono fun e w' ⟨he, hb⟩ => ⟨by rw [he, decide_eq_true rfl], hb⟩
/-- what Put tells, by cases -/
theorem put_ok (m : M) (A : Option Addr) (c : Nat) (A' : Option Addr) (c' : Nat) (w : World) (h : Is w w.heap.size m A c A' c') (hT : Tab w) (hs : Small m) (hc : check m = 0) (n : Nat) (hn : (Fr.frame m.enc).length = n) :
    Calls Tryd.prog 16 #[.agg #[.int .i64 m.K, .int .i64 m.F, .int .i64 m.T, .int .i64 m.g, .int .i64 m.t, .int .i64 m.i, .int .i64 m.p, .int .i64 m.c, .int .i64 m.r, .int .i64 m.x, .int .i64 m.a, .int .i64 m.b, .int .i64 m.v, .int .i64 m.s, .bool m.ok, .slice A m.es.length c, .slice A' m.d.length c']] w fun e w' => ∃ A2 c2, e = .returned (.tuple #[.slice A2 n c2, .int .i64 0]) ∧ OwnsB 5 w' w.heap.size A2 c2 (Fr.frame m.enc) ∧ Below w.heap.size w w' := by
  refine (put_any m A c A' c' w h hT hs).mono ?_
  rintro e w' ⟨A2, c2, he, ho, hb⟩
  rw [put_zero hc] at he ho
  subst hn
  exact ⟨A2, c2, he, ho, hb⟩
theorem put_err (m : M) (A : Option Addr) (c : Nat) (A' : Option Addr) (c' : Nat) (w : World) (h : Is w w.heap.size m A c A' c') (hT : Tab w) (hs : Small m) (hc : check m ≠ 0) (v : Int) (hv : ((check m : Nat) : Int) = v) :
    Calls Tryd.prog 16 #[.agg #[.int .i64 m.K, .int .i64 m.F, .int .i64 m.T, .int .i64 m.g, .int .i64 m.t, .int .i64 m.i, .int .i64 m.p, .int .i64 m.c, .int .i64 m.r, .int .i64 m.x, .int .i64 m.a, .int .i64 m.b, .int .i64 m.v, .int .i64 m.s, .bool m.ok, .slice A m.es.length c, .slice A' m.d.length c']] w fun e w' => ∃ A2 c2, e = .returned (.tuple #[.slice A2 0 c2, .int .i64 v]) ∧ Below w.heap.size w w' := by
  refine (put_any m A c A' c' w h hT hs).mono ?_
  rintro e w' ⟨A2, c2, he, ho, hb⟩
  rw [put_not hc] at he ho
  subst hv
  exact ⟨A2, c2, he, hb⟩
/-- what Get tells, what it comes to given -/
theorem get_is (l : List Nat) (A0 : Option Addr) (c0 n0 : Nat) (hn0 : l.length = n0) (w : World) (h : IsBytes w w.heap.size A0 l) (hn : A0 = none → c0 = 0) (hc : n0 ≤ c0) (hl : n0 ≤ 140737488355000) (hT : Tab w) (m : M) (e0 : Nat) (hg : get l = (m, e0)) (v : Int) (hv : (e0 : Int) = v) :
    Calls Tryd.prog 22 #[.slice A0 n0 c0] w fun e w' => ∃ A c A' c', e = .returned (.tuple #[.agg #[.int .i64 m.K, .int .i64 m.F, .int .i64 m.T, .int .i64 m.g, .int .i64 m.t, .int .i64 m.i, .int .i64 m.p, .int .i64 m.c, .int .i64 m.r, .int .i64 m.x, .int .i64 m.a, .int .i64 m.b, .int .i64 m.v, .int .i64 m.s, .bool m.ok, .slice A m.es.length c, .slice A' m.d.length c'], .int .i64 v]) ∧ OwnM w' w.heap.size m A c A' c' ∧ Below w.heap.size w w' := by
  refine (get_any l A0 c0 n0 hn0 w h hn hc hl hT).mono ?_
  rintro e w' ⟨A, c, A', c', he, ho, hb⟩
  rw [hg] at he ho
  subst hv
  exact ⟨A, c, A', c', he, ho, hb⟩
theorem back0 {m : M} (hw : Wf m) (hs : Small m) (hc : check m = 0) : get (Fr.frame m.enc) = (m, 0) := by
  have := back m hw hs hc [] (enc_lt m hw)
  rwa [List.append_nil] at this
theorem frame_le {m : M} (hc : check m = 0) : (Fr.frame m.enc).length ≤ 65544 := by
  obtain ⟨h1, h2, _, _, h5⟩ := check_zero hc
  rw [Fr.frame_length, enc_length m h1 h2]; omega
theorem works_N (w0 w : World) (hT : Tab w0) (hb : Below w0.heap.size w0 w) : Calls Tryd.prog 12 #[] w fun e w' => e = .returned (.bool true) ∧ Below w0.heap.size w0 w' :=
  (works_any w (hT.below hb hT.pos)).mono fun e w' ⟨he, hb'⟩ => ⟨he, hb.trans (hb'.mono hb.size)⟩
end Go.Proofs.YtpigekbfngalbaaDoor.Ms
