/- The walk through the function that writes packets over. -/
import Derived.Test.YtckfjkhjnpkobaaKitPk
import Derived.Test.YtckfjkhjnpkobaaSpoilB
namespace Go.Proofs.Ytckfjkhjnpkobaa
open Go.RowKit

def deadP (q : Pl × Bool) : Pl × Bool := (⟨⟨-77, 0, []⟩, none, 0⟩, q.2)
/-- the first k of them are written over -/
def half (L : List (Pl × Bool)) (k : Nat) : List (Pl × Bool) := (L.take k).map deadP ++ L.drop k
theorem half_length (L : List (Pl × Bool)) (k : Nat) (h : k ≤ L.length) : (half L k).length = L.length := by unfold half; rw [List.length_append, List.length_map, List.length_take, List.length_drop]; omega
theorem half_get (L : List (Pl × Bool)) (k : Nat) (h : k < L.length) : (half L k)[k]'(by rw [half_length L k (by omega)]; exact h) = L[k] := by
  have : (half L k)[k]? = some L[k] := by
    unfold half
    rw [List.getElem?_append_right (by rw [List.length_map, List.length_take]; omega), List.length_map, List.length_take, List.getElem?_drop, show k + (k - min k L.length) = k by omega, List.getElem?_eq_getElem h]
  rw [List.getElem?_eq_getElem (by rw [half_length L k (by omega)]; exact h)] at this
  exact Option.some.inj this
theorem half_set (L : List (Pl × Bool)) (k : Nat) (h : k < L.length) : (half L k).set k (deadP L[k]) = half L (k + 1) := by
  unfold half
  have hl : ((L.take k).map deadP).length = k := by rw [List.length_map, List.length_take]; omega
  rw [List.set_append_right _ _ (by omega), hl, Nat.sub_self, List.drop_eq_getElem_cons h, List.set_cons_zero, List.take_succ_eq_append_getElem h, List.map_append, List.append_assoc]
  rfl
/-- so far -/
structure SpTo (w wr : World) (F : Nat → Prop) (A : Option Addr) (c : Nat) (L : List (Pl × Bool)) (k : Nat) : Prop where
  row : RowIn cellsP 3 42 wr F A c (half L k)
  byt : BytesIn wr F (L.drop k)
  tur : Turned F w wr

set_option maxHeartbeats 1600000 in
set_option maxRecDepth 100000 in
theorem spoilPks_any (F : Nat → Prop) (A : Option Addr) (c : Nat) (L : List (Pl × Bool)) (hL : L.length ≤ 100000) (w : World) (h : PksAt w F A c L) :
    Calls Try.prog 15 #[.slice A L.length c] w fun e w' => e = .returned (.tuple #[]) ∧ Turned F w w' := by
  have H0 : Hid (SpTo w w F A c L 0) := hid ⟨by unfold half; simpa using h.row, by simpa using h.byt, Turned.refl _ _⟩
  clear h
  go_enter Try.func15, Try.ntmps15
  go_wp2_with fail
  go_loopw [2] (fun i wr => ∃ k : Nat, k ≤ L.length ∧ i = .int .i64 k ∧ Hid (SpTo w wr F A c L k)) (fun i _ => L.length - (RowKit.intOf i).toNat)
  case atStart => exact ⟨0, by omega, rfl, H0⟩
  case round =>
    clear H0
    obtain ⟨k, hk, rfl, hS⟩ := hrel
    by_cases hlt : k < L.length
    · have hlt' : k < (half L k).length := by rw [half_length L k hk]; exact hlt
      obtain ⟨g, rfl, hg, hFg, hc, hf⟩ := hS.out.row.get k hlt'
      rw [half_get L k hlt] at hc
      have c2 : wr.cell? ⟨g, k * 3 + 2, none⟩ = some (.slice L[k].1.A L[k].1.p.d.length L[k].1.c) := hc 2 (by omega)
      have hk0 : (k : Int) < (L.length : Int) := by omega
      have hdk : L.drop k = L[k] :: L.drop (k + 1) := List.drop_eq_getElem_cons hlt
      have hmem : L[k] ∈ L.drop k := by rw [hdk]; exact List.mem_cons_self
      have ho := hS.out.byt.own L[k] hmem
      have HSp := hid (spoil_N 0 L[k].1.A L[k].1.c L[k].1.p.d L[k].1.p.d.length rfl (by have := ho.2.1; unfold maxLen; omega) wr ho.1)
      have HI := hid (And.intro ho (And.intro hdk (And.intro hlt' (And.intro hg (And.intro hFg hf)))))
      have cc : Hid (∀ j, j < 3 → wr.cell? ⟨g, k * 3 + j, none⟩ = (cellsP L[k])[j]?) := hid hc
      clear hc hf ho hdk hmem hlt' hFg
      go_wp2_with fail
      refine HSp.out.mono ?_
      rintro e w2 ⟨rfl, hg2⟩
      obtain ⟨ho, hdk, hlt', hg', hFg, hf⟩ := HI.out
      have T2 : Turned (fun j => blk L[k].1.A = some j) wr w2 := Turned.ofGrown hg2 (fun j hj => hj)
      have hnb : ¬ blk L[k].1.A = some g := fun e => by
        obtain ⟨cur, hcur⟩ := hS.out.row.tag (k := g) rfl
        exact ho.1.ne hcur (by decide) e
      have r2 := hS.out.row.keep T2 (fun j hj e => hnb (by have hj : g = j := (by injection hj); rw [hj]; exact e))
      have d0 : w2.cell? ⟨g, k * 3, none⟩ = some (.int .i64 L[k].1.p.a) := (T2.cell (p := ⟨g, k * 3, none⟩) hg' hnb).trans (cc.out 0 (by omega))
      have d1 : w2.cell? ⟨g, k * 3 + 1, none⟩ = some (.int .i64 L[k].1.p.b) := (T2.cell (p := ⟨g, k * 3 + 1, none⟩) hg' hnb).trans (cc.out 1 (by omega))
      have d2 : w2.cell? ⟨g, k * 3 + 2, none⟩ = some (.slice L[k].1.A L[k].1.p.d.length L[k].1.c) := (T2.cell (p := ⟨g, k * 3 + 2, none⟩) hg' hnb).trans (cc.out 2 (by omega))
      have f2 : ∀ j, w2.frozen? ⟨g, j, none⟩ = false := fun j => (World.frozen?_of_block (a := ⟨g, j, none⟩) (T2.block g hg' hnb)).trans (hf j)
      have hget := half_get L k hlt
      have p1 := r2.put rfl k 0 hlt' (by omega) (.int .i64 (-77)) (⟨⟨-77, L[k].1.p.b, L[k].1.p.d⟩, L[k].1.A, L[k].1.c⟩, L[k].2) (by rw [hget]; rfl)
      have p2 := p1.put rfl k 1 (by rw [List.length_set]; exact hlt') (by omega) (.int .i64 0) (⟨⟨-77, 0, L[k].1.p.d⟩, L[k].1.A, L[k].1.c⟩, L[k].2) (by rw [List.getElem_set_self]; rfl)
      have p3 := p2.put rfl k 2 (by rw [List.length_set, List.length_set]; exact hlt') (by omega) (.slice none 0 0) (deadP L[k]) (by rw [List.getElem_set_self]; rfl)
      rw [List.set_set, List.set_set, half_set L k hlt, Nat.add_zero] at p3
      have T3 := Turned.three w2 g (k * 3) (k * 3 + 1) (k * 3 + 2) (.int .i64 (-77)) (.int .i64 0) (.slice none 0 0)
      have HS : Hid (SpTo w (((w2.setCell ⟨g, k * 3, none⟩ (.int .i64 (-77))).setCell ⟨g, k * 3 + 1, none⟩ (.int .i64 0)).setCell ⟨g, k * 3 + 2, none⟩ (.slice none 0 0)) F (some ⟨g, 0, none⟩) c L (k + 1)) := hid (by
        refine ⟨p3, ?_, (hS.out.tur.then_ T2 (fun j _ hj => ho.2.2 j hj)).then_ T3 (fun j _ hj => by rw [hj]; exact hFg)⟩
        have hb := hS.out.byt
        rw [hdk] at hb
        have hown := hb.own
        have hap := hb.apart
        unfold Apart at hap
        rw [List.map_cons, List.pairwise_cons] at hap
        have hb2 : BytesIn wr F (L.drop (k + 1)) := ⟨fun q hq => hown q (List.mem_cons_of_mem _ hq), hap.2⟩
        have hb3 := hb2.keep T2 (fun q hq j hj e => hap.1 _ (List.mem_map.2 ⟨q, hq, rfl⟩) j e hj)
        refine hb3.keep T3 (fun q hq j hj e => ?_)
        obtain ⟨cur, hcur⟩ := r2.tag (k := g) rfl
        exact (hb3.own q hq).1.ne hcur (by decide) (by rw [hj, e]))
      clear p1 p2 p3 T3 T2 hg2 r2 hget cc HI HSp hS c2 hnb ho hdk hf hg' hlt' hFg
      go_wp2_with fail
      go_roundw
      case rel => exact ⟨k + 1, by omega, by go_num, HS⟩
      case measure => simp [RowKit.intOf]; omega
    · obtain rfl : k = L.length := by omega
      have hkk : ¬ (L.length : Int) < (L.length : Int) := by omega
      go_wp2_with fail
      go_end0
      exact ⟨rfl, hS.out.tur⟩
end Go.Proofs.Ytckfjkhjnpkobaa
