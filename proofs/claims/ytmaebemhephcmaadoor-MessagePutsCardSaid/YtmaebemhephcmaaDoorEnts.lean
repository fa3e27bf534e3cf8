/- What the walks say of memory: entries of a log, those that are read and those that the call has made. -/
import Derived.Test.YtmaebemhephcmaaDoorRows
import Derived.Test.YtmaebemhephcmaaDoorRlMath
import Derived.Test.YtmaebemhephcmaaDoorFlat
namespace Go.Proofs.YtmaebemhephcmaaDoor
open Go.RowKit

/-- an entry lies at ⟨b, o⟩, its bytes below B -/
def EnAt (w : World) (B b o : Nat) (e : Rl.En) : Prop :=
  ∃ A c, w.cell? ⟨b, o, none⟩ = some (.int .i64 e.t) ∧ w.cell? ⟨b, o + 1, none⟩ = some (.int .i64 e.k) ∧ w.cell? ⟨b, o + 2, none⟩ = some (.slice A e.d.length c) ∧ IsBytes w B A e.d ∧ (e.d.length ≤ c ∧ c ≤ maxLen) ∧ (A = none → c = 0)
/-- Below block B a slice at A holds these entries. -/
structure IsEnts (w : World) (B : Nat) (A : Option Addr) (L : List Rl.En) : Prop where
  num : ∀ e ∈ L, InInt e.t ∧ InInt e.k
  cells : ∀ k, k < L.length → ∃ b off, A = some ⟨b, off, none⟩ ∧ b < B ∧ ∀ i (h : i < L.length), EnAt w B b (off + i * 3) L[i]
theorem EnAt.below {w w' : World} {B b o : Nat} {e : Rl.En} (h : EnAt w B b o e) (hb : b < B) (hB : Below B w w') : EnAt w' B b o e := by
  obtain ⟨A, c, h0, h1, h2, h3, h4, h5⟩ := h
  exact ⟨A, c, (hB.cell hb).trans h0, (hB.cell hb).trans h1, (hB.cell hb).trans h2, h3.below hB, h4, h5⟩
namespace IsEnts
variable {w w' : World} {B B' : Nat} {A : Option Addr} {L : List Rl.En}
theorem nil : IsEnts w B A [] := ⟨by simp, fun k h => by simp at h⟩
theorem below (h : IsEnts w B A L) (hb : Below B w w') : IsEnts w' B A L := ⟨h.num, fun k hk => by
  obtain ⟨b, off, e, hlt, hc⟩ := h.cells k hk
  exact ⟨b, off, e, hlt, fun i hi => (hc i hi).below hlt hb⟩⟩
theorem more (h : IsEnts w B A L) (hB : B ≤ B') : IsEnts w B' A L := ⟨h.num, fun k hk => by
  obtain ⟨b, off, e, hlt, hc⟩ := h.cells k hk
  refine ⟨b, off, e, by omega, fun i hi => ?_⟩
  obtain ⟨A, c, h0, h1, h2, h3, h4⟩ := hc i hi
  exact ⟨A, c, h0, h1, h2, h3.more hB, h4⟩⟩
theorem drewN (h : IsEnts w B A L) (n : Nat) : IsEnts (w.drewN n) B A L := h.below (below_drewN (Below.refl _ _) n)
theorem drew (h : IsEnts w B A L) : IsEnts w.drew B A L := h.below (Below.refl _ _).drew
theorem take (h : IsEnts w B A L) (n : Nat) : IsEnts w B A (L.take n) := ⟨fun e he => h.num e (List.mem_of_mem_take he), fun k hk => by
  have hk' : k < L.length := by rw [List.length_take] at hk; omega
  obtain ⟨b, off, e, hlt, hc⟩ := h.cells k hk'
  refine ⟨b, off, e, hlt, fun i hi => ?_⟩
  have hi' : i < L.length := by rw [List.length_take] at hi; omega
  rw [List.getElem_take]
  exact hc i hi'⟩
/-- the entries from the i-th one on: what 's[i:]' tells -/
theorem sl (h : IsEnts w B A L) {c i : Nat} (hc : L.length ≤ c) : IsEnts w B (if c = i then A else A.map (fun x => x.add (i * 3))) (L.drop i) := by
  by_cases hi : L.length ≤ i
  · rw [List.drop_of_length_le hi]; exact IsEnts.nil
  · rw [if_neg (by omega)]
    refine ⟨fun e he => h.num e (List.mem_of_mem_drop he), fun k hk => ?_⟩
    rw [List.length_drop] at hk
    obtain ⟨b, off, rfl, hlt, hcs⟩ := h.cells k (by omega)
    refine ⟨b, off + i * 3, by simp [add_off], hlt, fun j hj => ?_⟩
    rw [List.length_drop] at hj
    rw [List.getElem_drop, show off + i * 3 + j * 3 = off + (i + j) * 3 by omega]
    exact hcs (i + j) (by omega)
theorem few (h : IsEnts w B A L) (k : Nat) (hk : k < L.length) : L[k].d.length ≤ maxLen := by
  obtain ⟨b, off, _, _, hc⟩ := h.cells k hk
  obtain ⟨_, _, _, _, _, _, h4, _⟩ := hc k hk
  omega
end IsEnts
theorem slA_none {A : Option Addr} {c i : Nat} (h : A = none → c = 0) : (if c = i then A else A.map (fun x => x.add (i * 3))) = none → c - i = 0 := by
  intro e
  split at e
  · omega
  · rcases A with _ | a
    · have := h rfl; omega
    · cases e

/-- an entry where it lies: its bytes' address and room -/
structure El where
  e : Rl.En
  A : Option Addr
  c : Nat
def cellsE (q : El) : List Value := [.int .i64 q.e.t, .int .i64 q.e.k, .slice q.A q.e.d.length q.c]
theorem cellsE_one (y : El) : ∀ u ∈ cellsE y, u.oneCell' = true := by
  intro u hu
  simp [cellsE] at hu
  rcases hu with rfl | rfl | rfl <;> rfl
theorem info_entry : (Tryd.prog.info? 61).map (fun i => (i.zero, i.size, i.bytes)) = some (some (.agg #[.int .i64 0, .int .i64 0, .slice none 0 0]), 3, 40) := by kernel_rfl

theorem OwnsB.turned {e : TypeId} {w w' : World} {S : Nat → Prop} {base c : Nat} {A : Option Addr} {l : List Nat} (h : OwnsB e w base A c l) (ht : Turned S w w') (hd : ∀ k, blk A = some k → ¬ S k) : OwnsB e w' base A c l :=
  ⟨h.small, ownsRow_turned h.row ht (fun k hk => hd k (by rw [← ownBlock_slice A l.length c]; exact hk))⟩
theorem OwnsB.ne {e : TypeId} {w : World} {base c g : Nat} {A : Option Addr} {l : List Nat} {cs : Array Value} {t : TypeId} (h : OwnsB e w base A c l) (hg : w.heap[g]? = some (.cells cs t (0, 0))) (hne : e ≠ t) : blk A ≠ some g := by
  intro hk
  rcases h.row.2 with ⟨h0, _⟩ | ⟨g', cap, cur, hv, _, hh, _⟩
  · injection h0 with h0; rw [h0] at hk; cases hk
  · have hA : A = some ⟨g', 0, none⟩ := by injection hv
    rw [hA] at hk
    obtain rfl : g' = g := by injection hk
    rw [hh] at hg
    exact hne (Obj.cells.inj (Option.some.inj hg)).2.1
theorem OwnsB.room {e : TypeId} {w : World} {base c : Nat} {A : Option Addr} {l : List Nat} (h : OwnsB e w base A c l) : l.length ≤ c ∧ c ≤ maxLen := by
  refine ⟨h.cap, ?_⟩
  rcases h.row.2 with ⟨h1, _⟩ | ⟨g, cap, cur, h1, _, _, _, h2, _⟩
  · injection h1 with h1 h2 h3; omega
  · injection h1 with h3 h4 h5; omega
/-- no two of these blocks are one -/
def Apart (l : List (Option Nat)) : Prop := l.Pairwise fun x y => ∀ k, x = some k → y ≠ some k
/-- the blocks from B on, below N -/
def Bl (B N : Nat) : Nat → Prop := fun k => B ≤ k ∧ k < N
/-- Entries that the call has made: their row, and the bytes of each, in blocks of their own from B on, below N. -/
structure EntsAt (w : World) (B N : Nat) (A : Option Addr) (c : Nat) (M : List El) : Prop where
  row : RowIn cellsE 3 61 w (Bl B N) A c M
  own : ∀ q ∈ M, OwnsB 5 w 0 q.A q.c q.e.d ∧ ∀ k, blk q.A = some k → Bl B N k
  apart : Apart (M.map fun q => blk q.A)
  num : ∀ q ∈ M, InInt q.e.t ∧ InInt q.e.k
namespace EntsAt
variable {w w' : World} {B B' N N' : Nat} {A : Option Addr} {c : Nat} {M : List El}
theorem keep {S : Nat → Prop} (h : EntsAt w B N A c M) (ht : Turned S w w') (hs : ∀ k, S k → ¬ Bl B N k) : EntsAt w' B N A c M :=
  ⟨h.row.keep ht (fun k hk hS => hs k hS (h.row.blk k hk)), fun q hq => ⟨(h.own q hq).1.turned ht (fun k hk hS => hs k hS ((h.own q hq).2 k hk)), (h.own q hq).2⟩, h.apart, h.num⟩
theorem below (h : EntsAt w B N A c M) (hb : Below N w w') : EntsAt w' B N A c M :=
  h.keep (S := fun k => N ≤ k) ⟨hb.os, hb.tape, hb.output, hb.size, fun k _ hn => hb.block k (by omega)⟩ (fun k hk hB => by have := hB.2; omega)
theorem wide (h : EntsAt w B N A c M) (hB : B' ≤ B) (hN : N ≤ N') : EntsAt w B' N' A c M :=
  ⟨h.row.mono (fun k hk => ⟨by have := (h.row.blk k hk).1; omega, by have := (h.row.blk k hk).2; omega⟩), fun q hq => ⟨(h.own q hq).1, fun k hk => ⟨by have := ((h.own q hq).2 k hk).1; omega, by have := ((h.own q hq).2 k hk).2; omega⟩⟩, h.apart, h.num⟩
theorem reads (h : EntsAt w B N A c M) : IsEnts w N A (M.map (·.e)) := ⟨fun e he => by
  obtain ⟨q, hq, rfl⟩ := List.mem_map.1 he
  exact h.num q hq, fun k hk => by
  rw [List.length_map] at hk
  obtain ⟨g, hA, hg, hF, _, _⟩ := h.row.get k hk
  refine ⟨g, 0, hA, hF.2, fun i hi => ?_⟩
  rw [List.length_map] at hi
  obtain ⟨g', hA', _, _, hc, _⟩ := h.row.get i hi
  obtain rfl : g = g' := by rw [hA] at hA'; injection hA' with e; injection e
  have ho := h.own M[i] (List.getElem_mem hi)
  rw [List.getElem_map, Nat.zero_add]
  have hr : IsBytes w N M[i].A M[i].e.d := by
    refine ⟨ho.1.small, fun k hk => ?_⟩
    obtain ⟨b, off, e, _, hc⟩ := ho.1.reads.cells k hk
    exact ⟨b, off, e, (ho.2 b (by rw [e]; rfl)).2, hc⟩
  exact ⟨M[i].A, M[i].c, hc 0 (by omega), hc 1 (by omega), hc 2 (by omega), hr, ho.1.room, ho.1.none_⟩⟩
theorem nil (w : World) (B N : Nat) : EntsAt w B N none 0 [] := ⟨RowIn.nil (f := cellsE) (fun _ => rfl) _ _ _, by simp, List.Pairwise.nil, by simp⟩
end EntsAt
/-- .. as the entries that they are -/
def OwnE (w : World) (B N : Nat) (A : Option Addr) (c : Nat) (L : List Rl.En) : Prop := ∃ M : List El, M.map (·.e) = L ∧ EntsAt w B N A c M
namespace OwnE
variable {w w' : World} {B B' N N' : Nat} {A : Option Addr} {c : Nat} {L : List Rl.En}
theorem nil (w : World) (B N : Nat) : OwnE w B N none 0 [] := ⟨[], rfl, EntsAt.nil w B N⟩
theorem keep {S : Nat → Prop} (h : OwnE w B N A c L) (ht : Turned S w w') (hs : ∀ k, S k → ¬ Bl B N k) : OwnE w' B N A c L := by
  obtain ⟨M, h1, h2⟩ := h; exact ⟨M, h1, h2.keep ht hs⟩
theorem below (h : OwnE w B N A c L) (hb : Below N w w') : OwnE w' B N A c L := by
  obtain ⟨M, h1, h2⟩ := h; exact ⟨M, h1, h2.below hb⟩
theorem wide (h : OwnE w B N A c L) (hB : B' ≤ B) (hN : N ≤ N') : OwnE w B' N' A c L := by
  obtain ⟨M, h1, h2⟩ := h; exact ⟨M, h1, h2.wide hB hN⟩
theorem reads (h : OwnE w B N A c L) : IsEnts w N A L := by
  obtain ⟨M, h1, h2⟩ := h; rw [← h1]; exact h2.reads
theorem room (h : OwnE w B N A c L) : L.length ≤ c ∧ c ≤ maxLen := by
  obtain ⟨M, h1, h2⟩ := h; rw [← h1, List.length_map]; exact ⟨h2.row.cap, h2.row.capLe⟩
theorem none_ (h : OwnE w B N A c L) : A = none → c = 0 := by
  obtain ⟨M, h1, h2⟩ := h; exact h2.row.none_
end OwnE

/-- An entry is put behind entries that the call has made: its bytes were made from block N on. -/
theorem ent_put {w w' : World} {B N c c2 c' : Nat} {A A2 A' : Option Addr} {L : List Rl.En} {M : List El} (hM : M.map (·.e) = L) (h : EntsAt w B N A c M) (hBN : B ≤ N) (hN : N ≤ w.heap.size) (x : Rl.En) (hb : OwnsB 5 w N A' c' x.d) (hx : InInt x.t ∧ InInt x.k)
    (hrow : RowIn cellsE 3 61 w' (fun k => Bl B N k ∨ w.heap.size ≤ k) A2 c2 (M ++ [⟨x, A', c'⟩])) (hg : w.grownBy w' (blk A)) :
    OwnE w' B w'.heap.size A2 c2 (L ++ [x]) ∧ Below B w w' := by
  have hT : Turned (fun k => blk A = some k) w w' := Turned.ofGrown hg (fun k hk => hk)
  have hown : ∀ q : El, OwnsB 5 w 0 q.A q.c q.e.d → OwnsB 5 w' 0 q.A q.c q.e.d := fun q hq => hq.turned hT (fun k hk e => by
    obtain ⟨cur, hc⟩ := h.row.tag e
    exact hq.ne hc (by decide) hk)
  refine ⟨⟨M ++ [⟨x, A', c'⟩], by rw [List.map_append, hM]; rfl, ?_, ?_, ?_, ?_⟩, below_grown hg (by omega) (fun k hk => (h.row.blk k hk).1)⟩
  · refine hrow.mono (fun k hk => ⟨?_, hrow.lt k hk⟩)
    rcases hrow.blk k hk with e | e
    · exact e.1
    · omega
  · intro q hq
    rcases List.mem_append.1 hq with hq | hq
    · refine ⟨hown q (h.own q hq).1, fun k hk => ⟨((h.own q hq).2 k hk).1, ?_⟩⟩
      have := ((h.own q hq).2 k hk).2
      have := hT.size
      omega
    · obtain rfl := List.mem_singleton.1 hq
      have h0 : OwnsB 5 w 0 A' c' x.d := hb.weaken (Nat.zero_le _)
      refine ⟨hown _ h0, fun k hk => ?_⟩
      have := hb.blkLt k hk
      have := hT.size
      exact ⟨by omega, by omega⟩
  · unfold Apart
    rw [List.map_append, List.pairwise_append]
    refine ⟨h.apart, List.pairwise_singleton _ _, fun a ha b hb' k hk e => ?_⟩
    obtain ⟨q, hq, rfl⟩ := List.mem_map.1 ha
    obtain ⟨q', hq', rfl⟩ := List.mem_map.1 hb'
    obtain rfl := List.mem_singleton.1 hq'
    have h1 := ((h.own q hq).2 k hk).2
    have h2 := (hb.blkLt k e).1
    omega
  · intro q hq
    rcases List.mem_append.1 hq with hq | hq
    · exact h.num q hq
    · obtain rfl := List.mem_singleton.1 hq; exact hx
/-- .. as the walk meets it: an append of a literal of one entry -/
theorem wpList_append_ent {w : World} {ops : Array Oper} {rest : List Oper} {o : Oper} {a : Act} {Q : Exit → Act → World → Prop} (hgd : o.guard = none) (s y : Operand)
    (ho : o.op = .call { callee := .builtin .append, args := #[s, y], argTypes := #[22, 22] }) {B N c : Nat} {A : Option Addr} {L : List Rl.En} (h : OwnE w B N A c L) (hBN : B ≤ N) (hN : N ≤ w.heap.size)
    (n : Nat) (hn : L.length = n) (hs : a.eval s = .slice A n c) (x : Rl.En) (hx : InInt x.t ∧ InInt x.k) (A' : Option Addr) (c' : Nat) (hb : OwnsB 5 w N A' c' x.d) (ad : Addr) (ce : Nat) (hy : a.eval y = .slice (some ad) 1 ce) (hc : ∀ k, k < 3 → w.cell? (ad.add k) = (cellsE ⟨x, A', c'⟩)[k]?)
    (hl : n + 1 ≤ 100000)
    (hK : ∀ A2 c2 w', OwnE w' B w'.heap.size A2 c2 (L ++ [x]) → Below B w w' → wpList Tryd.prog ops Q rest (a.put o.dst (.slice A2 (n + 1) c2)) w') : wpList Tryd.prog ops Q (o :: rest) a w := by
  obtain ⟨i0, hi, hz0, hz1, hz2⟩ := info_parts info_entry
  obtain ⟨M, hM, hE⟩ := h
  exact wpList_append_row hgd s y 22 ho i0 _ Tryd.underlying22 hi hz0 hz1 hz2 rfl (by decide) hE.row n (by rw [← hn, ← hM, List.length_map]) hs ⟨x, A', c'⟩ ad ce hy hc (cellsE_one _) (by omega) hl
    fun A2 c2 w' h1 h2 _ => by
      obtain ⟨h4, h5⟩ := ent_put hM hE hBN hN x hb hx h1 h2
      exact hK A2 c2 w' h4 h5
theorem step_append_ent {w : World} {ops : Array Oper} {o : Oper} {a : Act} {K : Act → World → Prop} {Q : Exit → Act → World → Prop} {E : Prop} (hgd : o.guard = none) (s y : Operand)
    (ho : o.op = .call { callee := .builtin .append, args := #[s, y], argTypes := #[22, 22] }) {B N c : Nat} {A : Option Addr} {L : List Rl.En} (h : OwnE w B N A c L) (hBN : B ≤ N) (hN : N ≤ w.heap.size)
    (n : Nat) (hn : L.length = n) (hs : a.eval s = .slice A n c) (x : Rl.En) (hx : InInt x.t ∧ InInt x.k) (A' : Option Addr) (c' : Nat) (hb : OwnsB 5 w N A' c' x.d) (ad : Addr) (ce : Nat) (hy : a.eval y = .slice (some ad) 1 ce) (hc : ∀ k, k < 3 → w.cell? (ad.add k) = (cellsE ⟨x, A', c'⟩)[k]?)
    (hl : n + 1 ≤ 100000)
    (hK : ∀ A2 c2 w', OwnE w' B w'.heap.size A2 c2 (L ++ [x]) → Below B w w' → K (a.put o.dst (.slice A2 (n + 1) c2)) w') :
    if Region.wanted o (yielded ops a.tmps) = true then Oper.wp Tryd.prog o a w K Q else E := by
  obtain ⟨i0, hi, hz0, hz1, hz2⟩ := info_parts info_entry
  obtain ⟨M, hM, hE⟩ := h
  exact step_append_row hgd s y 22 ho i0 _ Tryd.underlying22 hi hz0 hz1 hz2 rfl (by decide) hE.row n (by rw [← hn, ← hM, List.length_map]) hs ⟨x, A', c'⟩ ad ce hy hc (cellsE_one _) (by omega) hl
    fun A2 c2 w' h1 h2 _ => by
      obtain ⟨h4, h5⟩ := ent_put hM hE hBN hN x hb hx h1 h2
      exact hK A2 c2 w' h4 h5
/-- a literal of one entry, just made -/
theorem cellsE_new (w : World) (N : Nat) (h : w.heap.size = N) (q : El) (t : TypeId) (k : Nat) : (w.alloc (.cells #[.int .i64 q.e.t, .int .i64 q.e.k, .slice q.A q.e.d.length q.c] t)).cell? ((⟨N, 0, none⟩ : Addr).add k) = (cellsE q)[k]? := by
  subst h
  rw [add_off, Nat.zero_add, cell_of_row _ w.heap.size k #[.int .i64 q.e.t, .int .i64 q.e.k, .slice q.A q.e.d.length q.c] t (0, 0) (heap_alloc_new w _)]
  exact List.getElem?_toArray (xs := cellsE q) ..
end Go.Proofs.YtmaebemhephcmaaDoor
