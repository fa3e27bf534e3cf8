/- The walk through the function that writes entries over. -/
import Derived.Test.YtmaebemhephcmaaDoorEnts
import Derived.Test.YtmaebemhephcmaaDoorSpoilB
namespace Go.Proofs.YtmaebemhephcmaaDoor
open Go.RowKit

def deadE (_ : El) : El := ⟨⟨-77, 0, []⟩, none, 0⟩
/-- the bytes of entries: each its own block, all of them in F -/
structure BytesE (w : World) (F : Nat → Prop) (L : List El) : Prop where
  own : ∀ q ∈ L, OwnsB 5 w 0 q.A q.c q.e.d ∧ ∀ k, blk q.A = some k → F k
  apart : Apart (L.map fun q => blk q.A)
theorem BytesE.keep {w w' : World} {F S : Nat → Prop} {L : List El} (h : BytesE w F L) (ht : Turned S w w') (hd : ∀ q ∈ L, ∀ k, blk q.A = some k → ¬ S k) : BytesE w' F L :=
  ⟨fun q hq => ⟨(h.own q hq).1.turned ht (hd q hq), (h.own q hq).2⟩, h.apart⟩
/-- the first k of them are written over -/
def halfE (L : List El) (k : Nat) : List El := (L.take k).map deadE ++ L.drop k
theorem halfE_length (L : List El) (k : Nat) (h : k ≤ L.length) : (halfE L k).length = L.length := by unfold halfE; rw [List.length_append, List.length_map, List.length_take, List.length_drop]; omega
theorem halfE_get (L : List El) (k : Nat) (h : k < L.length) : (halfE L k)[k]'(by rw [halfE_length L k (by omega)]; exact h) = L[k] := by
  have : (halfE L k)[k]? = some L[k] := by
    unfold halfE
    rw [List.getElem?_append_right (by rw [List.length_map, List.length_take]; omega), List.length_map, List.length_take, List.getElem?_drop, show k + (k - min k L.length) = k by omega, List.getElem?_eq_getElem h]
  rw [List.getElem?_eq_getElem (by rw [halfE_length L k (by omega)]; exact h)] at this
  exact Option.some.inj this
theorem halfE_set (L : List El) (k : Nat) (h : k < L.length) : (halfE L k).set k (deadE L[k]) = halfE L (k + 1) := by
  unfold halfE
  have hl : ((L.take k).map deadE).length = k := by rw [List.length_map, List.length_take]; omega
  rw [List.set_append_right _ _ (by omega), hl, Nat.sub_self, List.drop_eq_getElem_cons h, List.set_cons_zero, List.take_succ_eq_append_getElem h, List.map_append, List.append_assoc]
  rfl
/-- so far -/
structure SpToE (w wr : World) (F : Nat → Prop) (A : Option Addr) (c : Nat) (L : List El) (k : Nat) : Prop where
  row : RowIn cellsE 3 61 wr F A c (halfE L k)
  byt : BytesE wr F (L.drop k)
  tur : Turned F w wr

set_option maxHeartbeats 1600000 in
set_option maxRecDepth 100000 in
theorem spoilEs_any (F : Nat → Prop) (A : Option Addr) (c : Nat) (L : List El) (hL : L.length ≤ 100000) (w : World) (h : RowIn cellsE 3 61 w F A c L) (hb : BytesE w F L) :
    Calls Tryd.prog 55 #[.slice A L.length c] w fun e w' => e = .returned (.tuple #[]) ∧ Turned F w w' := by
  have H0 : Hid (SpToE w w F A c L 0) := hid ⟨by unfold halfE; simpa using h, by simpa using hb, Turned.refl _ _⟩
  clear h hb
  go_enter Tryd.func55, Tryd.ntmps55
  go_wp2_with fail
  go_loopw [2] (fun i wr => ∃ k : Nat, k ≤ L.length ∧ i = .int .i64 k ∧ Hid (SpToE w wr F A c L k)) (fun i _ => L.length - (RowKit.intOf i).toNat)
  case atStart => exact ⟨0, by omega, rfl, H0⟩
  case round =>
    clear H0
    obtain ⟨k, hk, rfl, hS⟩ := hrel
    by_cases hlt : k < L.length
    · have hlt' : k < (halfE L k).length := by rw [halfE_length L k hk]; exact hlt
      obtain ⟨g, rfl, hg, hFg, hc, hf⟩ := hS.out.row.get k hlt'
      rw [halfE_get L k hlt] at hc
      have c2 : wr.cell? ⟨g, k * 3 + 2, none⟩ = some (.slice L[k].A L[k].e.d.length L[k].c) := hc 2 (by omega)
      have hk0 : (k : Int) < (L.length : Int) := by omega
      have hdk : L.drop k = L[k] :: L.drop (k + 1) := List.drop_eq_getElem_cons hlt
      have hmem : L[k] ∈ L.drop k := by rw [hdk]; exact List.mem_cons_self
      have ho := hS.out.byt.own L[k] hmem
      have HSp := hid (spoil_N 0 L[k].A L[k].c L[k].e.d L[k].e.d.length rfl (Nat.le_trans ho.1.room.1 ho.1.room.2) wr ho.1)
      have HI := hid (And.intro ho (And.intro hdk (And.intro hlt' (And.intro hg (And.intro hFg hf)))))
      have cc : Hid (∀ j, j < 3 → wr.cell? ⟨g, k * 3 + j, none⟩ = (cellsE L[k])[j]?) := hid hc
      clear hc hf ho hdk hmem hlt' hFg
      go_wp2_with fail
      refine HSp.out.mono ?_
      rintro e w2 ⟨rfl, hg2⟩
      obtain ⟨ho, hdk, hlt', hg', hFg, hf⟩ := HI.out
      have T2 : Turned (fun j => blk L[k].A = some j) wr w2 := Turned.ofGrown hg2 (fun j hj => hj)
      have hnb : ¬ blk L[k].A = some g := fun e => by
        obtain ⟨cur, hcur⟩ := hS.out.row.tag (k := g) rfl
        exact ho.1.ne hcur (by decide) e
      have r2 := hS.out.row.keep T2 (fun j hj e => hnb (by have hj : g = j := (by injection hj); rw [hj]; exact e))
      have d0 : w2.cell? ⟨g, k * 3, none⟩ = some (.int .i64 L[k].e.t) := (T2.cell (p := ⟨g, k * 3, none⟩) hg' hnb).trans (cc.out 0 (by omega))
      have d1 : w2.cell? ⟨g, k * 3 + 1, none⟩ = some (.int .i64 L[k].e.k) := (T2.cell (p := ⟨g, k * 3 + 1, none⟩) hg' hnb).trans (cc.out 1 (by omega))
      have d2 : w2.cell? ⟨g, k * 3 + 2, none⟩ = some (.slice L[k].A L[k].e.d.length L[k].c) := (T2.cell (p := ⟨g, k * 3 + 2, none⟩) hg' hnb).trans (cc.out 2 (by omega))
      have f2 : ∀ j, w2.frozen? ⟨g, j, none⟩ = false := fun j => (World.frozen?_of_block (a := ⟨g, j, none⟩) (T2.block g hg' hnb)).trans (hf j)
      have hget := halfE_get L k hlt
      have p1 := r2.put rfl k 0 hlt' (by omega) (.int .i64 (-77)) ⟨⟨-77, L[k].e.k, L[k].e.d⟩, L[k].A, L[k].c⟩ (by rw [hget]; rfl)
      have p2 := p1.put rfl k 1 (by rw [List.length_set]; exact hlt') (by omega) (.int .i64 0) ⟨⟨-77, 0, L[k].e.d⟩, L[k].A, L[k].c⟩ (by rw [List.getElem_set_self]; rfl)
      have p3 := p2.put rfl k 2 (by rw [List.length_set, List.length_set]; exact hlt') (by omega) (.slice none 0 0) (deadE L[k]) (by rw [List.getElem_set_self]; rfl)
      rw [List.set_set, List.set_set, halfE_set L k hlt, Nat.add_zero] at p3
      have T3 := Turned.three w2 g (k * 3) (k * 3 + 1) (k * 3 + 2) (.int .i64 (-77)) (.int .i64 0) (.slice none 0 0)
      have HS : Hid (SpToE w (((w2.setCell ⟨g, k * 3, none⟩ (.int .i64 (-77))).setCell ⟨g, k * 3 + 1, none⟩ (.int .i64 0)).setCell ⟨g, k * 3 + 2, none⟩ (.slice none 0 0)) F (some ⟨g, 0, none⟩) c L (k + 1)) := hid (by
        refine ⟨p3, ?_, (hS.out.tur.then_ T2 (fun j _ hj => ho.2 j hj)).then_ T3 (fun j _ hj => by rw [hj]; exact hFg)⟩
        have hb := hS.out.byt
        rw [hdk] at hb
        have hown := hb.own
        have hap := hb.apart
        unfold Apart at hap
        rw [List.map_cons, List.pairwise_cons] at hap
        have hb2 : BytesE wr F (L.drop (k + 1)) := ⟨fun q hq => hown q (List.mem_cons_of_mem _ hq), hap.2⟩
        have hb3 := hb2.keep T2 (fun q hq j hj e => hap.1 _ (List.mem_map.2 ⟨q, hq, rfl⟩) j e hj)
        refine hb3.keep T3 (fun q hq j hj e => ?_)
        obtain ⟨cur, hcur⟩ := r2.tag (k := g) rfl
        exact (hb3.own q hq).1.ne hcur (by decide) (by rw [hj, e]))
      clear p1 p2 p3 T3 T2 hg2 r2 hget cc HI HSp hS c2 hnb ho hdk hf hg' hlt' hFg
      go_wp2_with fail
      go_roundw
      case rel => exact ⟨k + 1, by omega, by go_num, HS⟩
      case measure => simp [RowKit.intOf]; omega
    · obtain rfl : k = L.length := by omega
      have hkk : ¬ (L.length : Int) < (L.length : Int) := by omega
      go_wp2_with fail
      go_end0
      exact ⟨rfl, hS.out.tur⟩
/-- entries that the call has made are written over: nothing but their blocks has turned -/
theorem spoilE_any (B N : Nat) (A : Option Addr) (c n : Nat) (L : List Rl.En) (hn : L.length = n) (hL : n ≤ 100000) (w : World) (h : OwnE w B N A c L) :
    Calls Tryd.prog 55 #[.slice A n c] w fun e w' => e = .returned (.tuple #[]) ∧ Turned (Bl B N) w w' := by
  obtain ⟨M, h1, h2⟩ := h
  have e : n = M.length := by rw [← hn, ← h1, List.length_map]
  rw [e]
  exact spoilEs_any (Bl B N) A c M (by omega) w h2.row ⟨h2.own, h2.apart⟩
end Go.Proofs.YtmaebemhephcmaaDoor
