/- Texts of the proof, one behind the other: Ents, BigEn, MsMath, MsA, MsB, EntsMore, MsC. -/
import Derived.Test.YtpigekbfngalbaaDoorRows
import Derived.Test.YtpigekbfngalbaaDoorPartAA
import Derived.Test.YtpigekbfngalbaaDoorPartAB
import Derived.WalkKit
import Derived.Lib.Bytealg
import Derived.Lib.OthersKept
import Derived.ArgAppend
import Derived.OwnWalk
namespace Go.Proofs.YtpigekbfngalbaaDoor
open Go.RowKit

/-- an entry lies at ⟨b, o⟩, its bytes below B -/
def EnAt (w : World) (B b o : Nat) (e : Rl.En) : Prop :=
  ∃ A c, w.cell? ⟨b, o, none⟩ = some (.int .i64 e.t) ∧ w.cell? ⟨b, o + 1, none⟩ = some (.int .i64 e.k) ∧ w.cell? ⟨b, o + 2, none⟩ = some (.slice A e.d.length c) ∧ IsBytes w B A e.d ∧ (e.d.length ≤ c ∧ c ≤ maxLen) ∧ (A = none → c = 0)
/-- Below block B a slice at A holds these entries. -/
structure IsEnts (w : World) (B : Nat) (A : Option Addr) (L : List Rl.En) : Prop where
  num : ∀ e ∈ L, InInt e.t ∧ InInt e.k
  cells : ∀ k, k < L.length → ∃ b off, A = some ⟨b, off, none⟩ ∧ b < B ∧ ∀ i (h : i < L.length), EnAt w B b (off + i * 3) L[i]
theorem EnAt.below {w w' : World} {B b o : Nat} {e : Rl.En} (h : EnAt w B b o e) (hb : b < B) (hB : Below B w w') : EnAt w' B b o e := by
  obtain ⟨A, c, h0, h1, h2, h3, h4, h5⟩ := h
  exact ⟨A, c, (hB.cell hb).trans h0, (hB.cell hb).trans h1, (hB.cell hb).trans h2, h3.below hB, h4, h5⟩
namespace IsEnts
variable {w w' : World} {B B' : Nat} {A : Option Addr} {L : List Rl.En}
theorem nil : IsEnts w B A [] := ⟨by simp, fun k h => by simp at h⟩
theorem below (h : IsEnts w B A L) (hb : Below B w w') : IsEnts w' B A L := ⟨h.num, fun k hk => by
  obtain ⟨b, off, e, hlt, hc⟩ := h.cells k hk
  exact ⟨b, off, e, hlt, fun i hi => (hc i hi).below hlt hb⟩⟩
theorem more (h : IsEnts w B A L) (hB : B ≤ B') : IsEnts w B' A L := ⟨h.num, fun k hk => by
  obtain ⟨b, off, e, hlt, hc⟩ := h.cells k hk
  refine ⟨b, off, e, by omega, fun i hi => ?_⟩
  obtain ⟨A, c, h0, h1, h2, h3, h4⟩ := hc i hi
  exact ⟨A, c, h0, h1, h2, h3.more hB, h4⟩⟩
theorem drewN (h : IsEnts w B A L) (n : Nat) : IsEnts (w.drewN n) B A L := h.below (below_drewN (Below.refl _ _) n)
theorem drew (h : IsEnts w B A L) : IsEnts w.drew B A L := h.below (Below.refl _ _).drew
theorem take (h : IsEnts w B A L) (n : Nat) : IsEnts w B A (L.take n) := ⟨fun e he => h.num e (List.mem_of_mem_take he), fun k hk => by
  have hk' : k < L.length := by rw [List.length_take] at hk; omega
  obtain ⟨b, off, e, hlt, hc⟩ := h.cells k hk'
  refine ⟨b, off, e, hlt, fun i hi => ?_⟩
  have hi' : i < L.length := by rw [List.length_take] at hi; omega
  rw [List.getElem_take]
  exact hc i hi'⟩
/-- the entries from the i-th one on: what 's[i:]' tells -/
theorem sl (h : IsEnts w B A L) {c i : Nat} (hc : L.length ≤ c) : IsEnts w B (if c = i then A else A.map (fun x => x.add (i * 3))) (L.drop i) := by
  by_cases hi : L.length ≤ i
  · rw [List.drop_of_length_le hi]; exact IsEnts.nil
  · rw [if_neg (by omega)]
    refine ⟨fun e he => h.num e (List.mem_of_mem_drop he), fun k hk => ?_⟩
    rw [List.length_drop] at hk
    obtain ⟨b, off, rfl, hlt, hcs⟩ := h.cells k (by omega)
    refine ⟨b, off + i * 3, by simp [add_off], hlt, fun j hj => ?_⟩
    rw [List.length_drop] at hj
    rw [List.getElem_drop, show off + i * 3 + j * 3 = off + (i + j) * 3 by omega]
    exact hcs (i + j) (by omega)
theorem few (h : IsEnts w B A L) (k : Nat) (hk : k < L.length) : L[k].d.length ≤ maxLen := by
  obtain ⟨b, off, _, _, hc⟩ := h.cells k hk
  obtain ⟨_, _, _, _, _, _, h4, _⟩ := hc k hk
  omega
end IsEnts
theorem slA_none {A : Option Addr} {c i : Nat} (h : A = none → c = 0) : (if c = i then A else A.map (fun x => x.add (i * 3))) = none → c - i = 0 := by
  intro e
  split at e
  · omega
  · rcases A with _ | a
    · have := h rfl; omega
    · cases e

/-- an entry where it lies: its bytes' address and room -/
structure El where
  e : Rl.En
  A : Option Addr
  c : Nat
def cellsE (q : El) : List Value := [.int .i64 q.e.t, .int .i64 q.e.k, .slice q.A q.e.d.length q.c]
theorem cellsE_one (y : El) : ∀ u ∈ cellsE y, u.oneCell' = true := by
  intro u hu
  simp [cellsE] at hu
  rcases hu with rfl | rfl | rfl <;> rfl
theorem info_entry : (Tryd.prog.info? 61).map (fun i => (i.zero, i.size, i.bytes)) = some (some (.agg #[.int .i64 0, .int .i64 0, .slice none 0 0]), 3, 40) := by kernel_rfl

theorem OwnsB.turned {e : TypeId} {w w' : World} {S : Nat → Prop} {base c : Nat} {A : Option Addr} {l : List Nat} (h : OwnsB e w base A c l) (ht : Turned S w w') (hd : ∀ k, blk A = some k → ¬ S k) : OwnsB e w' base A c l :=
  ⟨h.small, ownsRow_turned h.row ht (fun k hk => hd k (by rw [← ownBlock_slice A l.length c]; exact hk))⟩
theorem OwnsB.ne {e : TypeId} {w : World} {base c g : Nat} {A : Option Addr} {l : List Nat} {cs : Array Value} {t : TypeId} (h : OwnsB e w base A c l) (hg : w.heap[g]? = some (.cells cs t (0, 0))) (hne : e ≠ t) : blk A ≠ some g := by
  intro hk
  rcases h.row.2 with ⟨h0, _⟩ | ⟨g', cap, cur, hv, _, hh, _⟩
  · injection h0 with h0; rw [h0] at hk; cases hk
  · have hA : A = some ⟨g', 0, none⟩ := by injection hv
    rw [hA] at hk
    obtain rfl : g' = g := by injection hk
    rw [hh] at hg
    exact hne (Obj.cells.inj (Option.some.inj hg)).2.1
theorem OwnsB.room {e : TypeId} {w : World} {base c : Nat} {A : Option Addr} {l : List Nat} (h : OwnsB e w base A c l) : l.length ≤ c ∧ c ≤ maxLen := by
  refine ⟨h.cap, ?_⟩
  rcases h.row.2 with ⟨h1, _⟩ | ⟨g, cap, cur, h1, _, _, _, h2, _⟩
  · injection h1 with h1 h2 h3; omega
  · injection h1 with h3 h4 h5; omega
/-- no two of these blocks are one -/
def Apart (l : List (Option Nat)) : Prop := l.Pairwise fun x y => ∀ k, x = some k → y ≠ some k
/-- the blocks from B on, below N -/
def Bl (B N : Nat) : Nat → Prop := fun k => B ≤ k ∧ k < N
/-- Entries that the call has made: their row, and the bytes of each, in blocks of their own from B on, below N. -/
structure EntsAt (w : World) (B N : Nat) (A : Option Addr) (c : Nat) (M : List El) : Prop where
  row : RowIn cellsE 3 61 w (Bl B N) A c M
  own : ∀ q ∈ M, OwnsB 5 w 0 q.A q.c q.e.d ∧ ∀ k, blk q.A = some k → Bl B N k
  apart : Apart (M.map fun q => blk q.A)
  num : ∀ q ∈ M, InInt q.e.t ∧ InInt q.e.k
namespace EntsAt
variable {w w' : World} {B B' N N' : Nat} {A : Option Addr} {c : Nat} {M : List El}
theorem keep {S : Nat → Prop} (h : EntsAt w B N A c M) (ht : Turned S w w') (hs : ∀ k, S k → ¬ Bl B N k) : EntsAt w' B N A c M :=
  ⟨h.row.keep ht (fun k hk hS => hs k hS (h.row.blk k hk)), fun q hq => ⟨(h.own q hq).1.turned ht (fun k hk hS => hs k hS ((h.own q hq).2 k hk)), (h.own q hq).2⟩, h.apart, h.num⟩
theorem below (h : EntsAt w B N A c M) (hb : Below N w w') : EntsAt w' B N A c M :=
  h.keep (S := fun k => N ≤ k) ⟨hb.os, hb.tape, hb.output, hb.size, fun k _ hn => hb.block k (by omega)⟩ (fun k hk hB => by have := hB.2; omega)
theorem wide (h : EntsAt w B N A c M) (hB : B' ≤ B) (hN : N ≤ N') : EntsAt w B' N' A c M :=
  ⟨h.row.mono (fun k hk => ⟨by have := (h.row.blk k hk).1; omega, by have := (h.row.blk k hk).2; omega⟩), fun q hq => ⟨(h.own q hq).1, fun k hk => ⟨by have := ((h.own q hq).2 k hk).1; omega, by have := ((h.own q hq).2 k hk).2; omega⟩⟩, h.apart, h.num⟩
theorem reads (h : EntsAt w B N A c M) : IsEnts w N A (M.map (·.e)) := ⟨fun e he => by
  obtain ⟨q, hq, rfl⟩ := List.mem_map.1 he
  exact h.num q hq, fun k hk => by
  rw [List.length_map] at hk
  obtain ⟨g, hA, hg, hF, _, _⟩ := h.row.get k hk
  refine ⟨g, 0, hA, hF.2, fun i hi => ?_⟩
  rw [List.length_map] at hi
  obtain ⟨g', hA', _, _, hc, _⟩ := h.row.get i hi
  obtain rfl : g = g' := by rw [hA] at hA'; injection hA' with e; injection e
  have ho := h.own M[i] (List.getElem_mem hi)
  rw [List.getElem_map, Nat.zero_add]
  have hr : IsBytes w N M[i].A M[i].e.d := by
    refine ⟨ho.1.small, fun k hk => ?_⟩
    obtain ⟨b, off, e, _, hc⟩ := ho.1.reads.cells k hk
    exact ⟨b, off, e, (ho.2 b (by rw [e]; rfl)).2, hc⟩
  exact ⟨M[i].A, M[i].c, hc 0 (by omega), hc 1 (by omega), hc 2 (by omega), hr, ho.1.room, ho.1.none_⟩⟩
theorem nil (w : World) (B N : Nat) : EntsAt w B N none 0 [] := ⟨RowIn.nil (f := cellsE) (fun _ => rfl) _ _ _, by simp, List.Pairwise.nil, by simp⟩
end EntsAt
/-- .. as the entries that they are -/
def OwnE (w : World) (B N : Nat) (A : Option Addr) (c : Nat) (L : List Rl.En) : Prop := ∃ M : List El, M.map (·.e) = L ∧ EntsAt w B N A c M
namespace OwnE
variable {w w' : World} {B B' N N' : Nat} {A : Option Addr} {c : Nat} {L : List Rl.En}
theorem nil (w : World) (B N : Nat) : OwnE w B N none 0 [] := ⟨[], rfl, EntsAt.nil w B N⟩
theorem keep {S : Nat → Prop} (h : OwnE w B N A c L) (ht : Turned S w w') (hs : ∀ k, S k → ¬ Bl B N k) : OwnE w' B N A c L := by
  obtain ⟨M, h1, h2⟩ := h; exact ⟨M, h1, h2.keep ht hs⟩
theorem below (h : OwnE w B N A c L) (hb : Below N w w') : OwnE w' B N A c L := by
  obtain ⟨M, h1, h2⟩ := h; exact ⟨M, h1, h2.below hb⟩
theorem wide (h : OwnE w B N A c L) (hB : B' ≤ B) (hN : N ≤ N') : OwnE w B' N' A c L := by
  obtain ⟨M, h1, h2⟩ := h; exact ⟨M, h1, h2.wide hB hN⟩
theorem reads (h : OwnE w B N A c L) : IsEnts w N A L := by
  obtain ⟨M, h1, h2⟩ := h; rw [← h1]; exact h2.reads
theorem room (h : OwnE w B N A c L) : L.length ≤ c ∧ c ≤ maxLen := by
  obtain ⟨M, h1, h2⟩ := h; rw [← h1, List.length_map]; exact ⟨h2.row.cap, h2.row.capLe⟩
theorem none_ (h : OwnE w B N A c L) : A = none → c = 0 := by
  obtain ⟨M, h1, h2⟩ := h; exact h2.row.none_
end OwnE

/-- An entry is put behind entries that the call has made: its bytes were made from block N on. -/
theorem ent_put {w w' : World} {B N c c2 c' : Nat} {A A2 A' : Option Addr} {L : List Rl.En} {M : List El} (hM : M.map (·.e) = L) (h : EntsAt w B N A c M) (hBN : B ≤ N) (hN : N ≤ w.heap.size) (x : Rl.En) (hb : OwnsB 5 w N A' c' x.d) (hx : InInt x.t ∧ InInt x.k)
    (hrow : RowIn cellsE 3 61 w' (fun k => Bl B N k ∨ w.heap.size ≤ k) A2 c2 (M ++ [⟨x, A', c'⟩])) (hg : w.grownBy w' (blk A)) :
    OwnE w' B w'.heap.size A2 c2 (L ++ [x]) ∧ Below B w w' := by
  have hT : Turned (fun k => blk A = some k) w w' := Turned.ofGrown hg (fun k hk => hk)
  have hown : ∀ q : El, OwnsB 5 w 0 q.A q.c q.e.d → OwnsB 5 w' 0 q.A q.c q.e.d := fun q hq => hq.turned hT (fun k hk e => by
    obtain ⟨cur, hc⟩ := h.row.tag e
    exact hq.ne hc (by decide) hk)
  refine ⟨⟨M ++ [⟨x, A', c'⟩], by rw [List.map_append, hM]; rfl, ?_, ?_, ?_, ?_⟩, below_grown hg (by omega) (fun k hk => (h.row.blk k hk).1)⟩
  · refine hrow.mono (fun k hk => ⟨?_, hrow.lt k hk⟩)
    rcases hrow.blk k hk with e | e
    · exact e.1
    · omega
  · intro q hq
    rcases List.mem_append.1 hq with hq | hq
    · refine ⟨hown q (h.own q hq).1, fun k hk => ⟨((h.own q hq).2 k hk).1, ?_⟩⟩
      have := ((h.own q hq).2 k hk).2
      have := hT.size
      omega
    · obtain rfl := List.mem_singleton.1 hq
      have h0 : OwnsB 5 w 0 A' c' x.d := hb.weaken (Nat.zero_le _)
      refine ⟨hown _ h0, fun k hk => ?_⟩
      have := hb.blkLt k hk
      have := hT.size
      exact ⟨by omega, by omega⟩
  · unfold Apart
    rw [List.map_append, List.pairwise_append]
    refine ⟨h.apart, List.pairwise_singleton _ _, fun a ha b hb' k hk e => ?_⟩
    obtain ⟨q, hq, rfl⟩ := List.mem_map.1 ha
    obtain ⟨q', hq', rfl⟩ := List.mem_map.1 hb'
    obtain rfl := List.mem_singleton.1 hq'
    have h1 := ((h.own q hq).2 k hk).2
    have h2 := (hb.blkLt k e).1
    omega
  · intro q hq
    rcases List.mem_append.1 hq with hq | hq
    · exact h.num q hq
    · obtain rfl := List.mem_singleton.1 hq; exact hx
/-- .. as the walk meets it: an append of a literal of one entry -/
theorem wpList_append_ent {w : World} {ops : Array Oper} {rest : List Oper} {o : Oper} {a : Act} {Q : Exit → Act → World → Prop} (hgd : o.guard = none) (s y : Operand)
    (ho : o.op = .call { callee := .builtin .append, args := #[s, y], argTypes := #[22, 22] }) {B N c : Nat} {A : Option Addr} {L : List Rl.En} (h : OwnE w B N A c L) (hBN : B ≤ N) (hN : N ≤ w.heap.size)
    (n : Nat) (hn : L.length = n) (hs : a.eval s = .slice A n c) (x : Rl.En) (hx : InInt x.t ∧ InInt x.k) (A' : Option Addr) (c' : Nat) (hb : OwnsB 5 w N A' c' x.d) (ad : Addr) (ce : Nat) (hy : a.eval y = .slice (some ad) 1 ce) (hc : ∀ k, k < 3 → w.cell? (ad.add k) = (cellsE ⟨x, A', c'⟩)[k]?)
    (hl : n + 1 ≤ 100000)
    (hK : ∀ A2 c2 w', OwnE w' B w'.heap.size A2 c2 (L ++ [x]) → Below B w w' → wpList Tryd.prog ops Q rest (a.put o.dst (.slice A2 (n + 1) c2)) w') : wpList Tryd.prog ops Q (o :: rest) a w := by
  obtain ⟨i0, hi, hz0, hz1, hz2⟩ := info_parts info_entry
  obtain ⟨M, hM, hE⟩ := h
  exact wpList_append_row hgd s y 22 ho i0 _ Tryd.underlying22 hi hz0 hz1 hz2 rfl (by decide) hE.row n (by rw [← hn, ← hM, List.length_map]) hs ⟨x, A', c'⟩ ad ce hy hc (cellsE_one _) (by omega) hl
    fun A2 c2 w' h1 h2 _ => by
      obtain ⟨h4, h5⟩ := ent_put hM hE hBN hN x hb hx h1 h2
      exact hK A2 c2 w' h4 h5
theorem step_append_ent {w : World} {ops : Array Oper} {o : Oper} {a : Act} {K : Act → World → Prop} {Q : Exit → Act → World → Prop} {E : Prop} (hgd : o.guard = none) (s y : Operand)
    (ho : o.op = .call { callee := .builtin .append, args := #[s, y], argTypes := #[22, 22] }) {B N c : Nat} {A : Option Addr} {L : List Rl.En} (h : OwnE w B N A c L) (hBN : B ≤ N) (hN : N ≤ w.heap.size)
    (n : Nat) (hn : L.length = n) (hs : a.eval s = .slice A n c) (x : Rl.En) (hx : InInt x.t ∧ InInt x.k) (A' : Option Addr) (c' : Nat) (hb : OwnsB 5 w N A' c' x.d) (ad : Addr) (ce : Nat) (hy : a.eval y = .slice (some ad) 1 ce) (hc : ∀ k, k < 3 → w.cell? (ad.add k) = (cellsE ⟨x, A', c'⟩)[k]?)
    (hl : n + 1 ≤ 100000)
    (hK : ∀ A2 c2 w', OwnE w' B w'.heap.size A2 c2 (L ++ [x]) → Below B w w' → K (a.put o.dst (.slice A2 (n + 1) c2)) w') :
    if Region.wanted o (yielded ops a.tmps) = true then Oper.wp Tryd.prog o a w K Q else E := by
  obtain ⟨i0, hi, hz0, hz1, hz2⟩ := info_parts info_entry
  obtain ⟨M, hM, hE⟩ := h
  exact step_append_row hgd s y 22 ho i0 _ Tryd.underlying22 hi hz0 hz1 hz2 rfl (by decide) hE.row n (by rw [← hn, ← hM, List.length_map]) hs ⟨x, A', c'⟩ ad ce hy hc (cellsE_one _) (by omega) hl
    fun A2 c2 w' h1 h2 _ => by
      obtain ⟨h4, h5⟩ := ent_put hM hE hBN hN x hb hx h1 h2
      exact hK A2 c2 w' h4 h5
/-- a literal of one entry, just made -/
theorem cellsE_new (w : World) (N : Nat) (h : w.heap.size = N) (q : El) (t : TypeId) (k : Nat) : (w.alloc (.cells #[.int .i64 q.e.t, .int .i64 q.e.k, .slice q.A q.e.d.length q.c] t)).cell? ((⟨N, 0, none⟩ : Addr).add k) = (cellsE q)[k]? := by
  subst h
  rw [add_off, Nat.zero_add, cell_of_row _ w.heap.size k #[.int .i64 q.e.t, .int .i64 q.e.k, .slice q.A q.e.d.length q.c] t (0, 0) (heap_alloc_new w _)]
  exact List.getElem?_toArray (xs := cellsE q) ..
end Go.Proofs.YtpigekbfngalbaaDoor
namespace Go.Proofs.YtpigekbfngalbaaDoor
open Go.RowKit

/-- how many bytes they have -/
def weigh (L : List Rl.En) : Nat := (L.map (fun e => e.d.length)).sum
theorem weigh_take (L : List Rl.En) (k : Nat) (h : k < L.length) : weigh (L.take (k + 1)) = weigh (L.take k) + L[k].d.length := by
  unfold weigh
  rw [List.take_succ_eq_append_getElem h, List.map_append, List.sum_append]; simp
theorem weigh_le (L : List Rl.En) (k : Nat) : weigh (L.take k) ≤ weigh L := by
  conv => rhs; rw [← List.take_append_drop k L]
  unfold weigh
  rw [List.map_append, List.sum_append]; omega
theorem weigh_mem {L : List Rl.En} {e : Rl.En} (h : e ∈ L) : e.d.length ≤ weigh L := by
  induction L with
  | nil => cases h
  | cons a r ih =>
    have e1 : weigh (a :: r) = a.d.length + weigh r := by unfold weigh; simp
    rcases List.mem_cons.1 h with rfl | h
    · omega
    · have := ih h; omega
/-- many entries, or many bytes -/
def big (L : List Rl.En) (n m : Nat) : Bool := decide (n < L.length) || decide (m < weigh L)
theorem big_few {L : List Rl.En} {n : Nat} (h : big L n 65536 = false) : L.length ≤ n ∧ Rl.Few L := by
  unfold big at h
  rw [Bool.or_eq_false_iff, decide_eq_false_iff_not, decide_eq_false_iff_not] at h
  exact ⟨by omega, fun e he => by have := weigh_mem he; omega⟩

set_option maxHeartbeats 800000 in
set_option maxRecDepth 100000 in
theorem big_any (B : Nat) (A : Option Addr) (c n : Nat) (L : List Rl.En) (hn : L.length = n) (p q : Nat) (hp : p ≤ 1000000) (hq : q ≤ 1000000) (w : World) (h : IsEnts w B A L) :
    Calls Tryd.prog 58 #[.slice A n c, .int .i64 (p : Int), .int .i64 (q : Int)] w fun e w' => e = .returned (.bool (big L p q)) ∧ w' = w := by
  subst hn
  by_cases h0 : p < L.length
  · have e : big L p q = true := by simp [big, h0]
    rw [e]
    have h01 : (p : Int) < (L.length : Int) := by omega
    clear e h0 h
    go_enter Tryd.func58, Tryd.ntmps58
    go_wp2
    go_ret
    exact ⟨rfl, rfl⟩
  · have h01 : ¬ (p : Int) < (L.length : Int) := by omega
    have HL := hid h0
    have HH := hid h
    clear h0 h
    go_enter Tryd.func58, Tryd.ntmps58
    go_wp2_with fail
    go_loopw [7, 8] (fun s i wr => ∃ k v : Nat, k ≤ L.length ∧ s = .int .i64 v ∧ i = .int .i64 k ∧ v ≤ q ∧ Hid (v = weigh (L.take k)) ∧ wr = w) (fun _ i _ => L.length - (RowKit.intOf i).toNat)
    case atStart => exact ⟨0, 0, by omega, rfl, rfl, by omega, hid rfl, rfl⟩
    case round =>
      obtain ⟨k, v, hk, rfl, rfl, hv, hS, rfl⟩ := hrel
      by_cases hlt : k < L.length
      · obtain ⟨b, off, rfl, _, hc⟩ := HH.out.cells k hlt
        obtain ⟨Ad, cd, d0, d1, d2, hd, hd2, _⟩ := hc k hlt
        have hk0 : (k : Int) < (L.length : Int) := by omega
        have hw := weigh_take L k hlt
        have hw2 := weigh_le L (k + 1)
        have hw3 := hS.out
        obtain ⟨m, hm⟩ : ∃ m, m = L[k].d.length := ⟨_, rfl⟩
        rw [← hm] at d2 hw
        have HM := hid (And.intro hw (And.intro hw2 hw3))
        clear hc d0 d1 hd hd2 hw hw2 hw3 hm
        by_cases hmq : m ≤ q + 1
        · have hmq0 : (m : Int) ≤ (q : Int) + 1 := by omega
          by_cases hb : q < v + m
          · have HE : Hid (big L p q = true) := hid (by
              obtain ⟨hw, hw2, hw3⟩ := HM.out
              unfold big; rw [Bool.or_eq_true, decide_eq_true_iff, decide_eq_true_iff]; right; omega)
            have hb0 : (q : Int) < (v : Int) + (m : Int) := by omega
            go_wp2_with fail
            go_ret
            rw [HE.out]
            exact ⟨rfl, rfl⟩
          · have HV : Hid (v + m = weigh (L.take (k + 1))) := hid (by obtain ⟨hw, hw2, hw3⟩ := HM.out; omega)
            have hb0 : ¬ (q : Int) < (v : Int) + (m : Int) := by omega
            go_wp2_with fail
            go_roundw
            case rel => exact ⟨k + 1, v + m, by omega, by go_num, by go_num, by omega, HV, trivial⟩
            case measure => simp [RowKit.intOf]; omega
        · have hmq0 : ¬ (m : Int) ≤ (q : Int) + 1 := by omega
          have HE : Hid (big L p q = true) := hid (by
            obtain ⟨hw, hw2, hw3⟩ := HM.out
            unfold big; rw [Bool.or_eq_true, decide_eq_true_iff, decide_eq_true_iff]; right; omega)
          go_wp2_with fail
          go_ret
          rw [HE.out]
          exact ⟨rfl, rfl⟩
      · obtain rfl : k = L.length := by omega
        have HE : Hid (big L p q = false) := hid (by
          have e := hS.out
          rw [List.take_length] at e
          have := HL.out
          unfold big; rw [Bool.or_eq_false_iff, decide_eq_false_iff_not, decide_eq_false_iff_not]; omega)
        clear hS
        go_wp2_with fail
        go_ret
        rw [HE.out]
        exact ⟨rfl, rfl⟩
end Go.Proofs.YtpigekbfngalbaaDoor
namespace Go.Proofs.YtpigekbfngalbaaDoor.Ms
open Rl (En)

/-- a message -/
structure M where
  K : Int
  F : Int
  T : Int
  g : Int
  t : Int
  i : Int
  p : Int
  c : Int
  r : Int
  x : Int
  a : Int
  b : Int
  v : Int
  s : Int
  ok : Bool
  es : List En
  d : List Nat
deriving DecidableEq
def M0 : M := ⟨0, 0, 0, 0, 0, 0, 0, 0, 0, 0, 0, 0, 0, 0, false, [], []⟩
/-- which fields a kind has besides the head, each by its letter -/
def tab : Nat → List Nat
  | 1 => [103, 116, 105, 112]
  | 2 => [103, 116, 111]
  | 3 => [103, 116, 105, 112, 99, 114, 101]
  | 4 => [103, 116, 111, 105, 114]
  | 5 => [103, 116, 105, 112, 114, 100]
  | 6 => [103, 115, 100]
  | 7 => [103, 115, 111, 105, 100]
  | 8 => [120, 97, 98]
  | 9 => [120, 97, 98, 111, 105, 118]
  | 10 => [120, 97, 98, 118]
  | 11 => [120, 97, 98, 111, 105, 118]
  | _ => []
def head : List Nat := [75, 70, 84]
def all : List Nat := [103, 116, 105, 112, 99, 114, 120, 97, 98, 118, 115, 111, 101, 100]
/-- the letters of the numbers, in the order of the struct -/
def nums : List Nat := [75, 70, 84, 103, 116, 105, 112, 99, 114, 120, 97, 98, 118, 115]
/-- where a number lies in the struct -/
def ix (r : Nat) : Nat := nums.idxOf r
def isNum (r : Nat) : Bool := nums.contains r
def M.num (m : M) (r : Nat) : Int :=
  if r = 75 then m.K else if r = 70 then m.F else if r = 84 then m.T else if r = 103 then m.g else if r = 116 then m.t else if r = 105 then m.i else if r = 112 then m.p else if r = 99 then m.c else
  if r = 114 then m.r else if r = 120 then m.x else if r = 97 then m.a else if r = 98 then m.b else if r = 118 then m.v else if r = 115 then m.s else 0
def M.set (m : M) (r : Nat) (n : Int) : M :=
  if r = 75 then { m with K := n } else if r = 70 then { m with F := n } else if r = 84 then { m with T := n } else if r = 103 then { m with g := n } else if r = 116 then { m with t := n } else
  if r = 105 then { m with i := n } else if r = 112 then { m with p := n } else if r = 99 then { m with c := n } else if r = 114 then { m with r := n } else if r = 120 then { m with x := n } else
  if r = 97 then { m with a := n } else if r = 98 then { m with b := n } else if r = 118 then { m with v := n } else if r = 115 then { m with s := n } else m
def M.kind (m : M) : Nat := m.K.toNat
def M.isKind (m : M) : Bool := decide (1 ≤ m.K) && decide (m.K ≤ 11)
def M.blank (m : M) (r : Nat) : Bool :=
  if r = 111 then !m.ok else if r = 101 then decide (m.es.length = 0) else if r = 100 then decide (m.d.length = 0) else decide (m.num r = 0)
def least (r : Nat) : Int := if r = 70 ∨ r = 84 ∨ r = 120 ∨ r = 97 then 1 else 0
def most (r : Nat) : Int := if r = 70 ∨ r = 84 then 199 else if r = 103 ∨ r = 97 then 4 else if r = 118 then 2 else 1099511627776
def within (v : Int) (r : Nat) : Bool := decide (least r ≤ v) && decide (v ≤ most r)
/-- does a field that its kind doesn't have say something? -/
def M.foreign (m : M) : Bool := all.any fun r => !(tab m.kind).contains r && !m.blank r
def enOk (e : En) : Bool := within e.t 116 && (decide (0 ≤ e.k) && decide (e.k ≤ 2))
def M.fine (m : M) (r : Nat) : Bool := !isNum r || within (m.num r) r
def M.inRange (m : M) : Bool := (head ++ tab m.kind).all m.fine && m.es.all enOk
def M.size (m : M) : Nat := 8 * (head ++ tab m.kind).length + (24 * m.es.length + weigh m.es) + m.d.length
/-- what is wrong with it: 0 OK, 2 ErrLong, 3 ErrRange, 13 ErrKind, 14 ErrField -/
def check (m : M) : Nat :=
  if m.isKind = false then 13 else if m.foreign = true then 14 else if m.inRange = false then 3 else if 1024 < m.es.length ∨ 65536 < m.size then 2 else 0
def encE (e : En) : List Nat := Pk.enc e.t ++ (Pk.enc e.k ++ (Pk.enc e.d.length ++ e.d))
def M.encF (m : M) (r : Nat) : List Nat :=
  if r = 111 then Pk.enc (if m.ok = true then 1 else 0) else if r = 101 then Pk.enc m.es.length ++ m.es.flatMap encE else if r = 100 then Pk.enc m.d.length ++ m.d else Pk.enc (m.num r)
def M.enc (m : M) : List Nat := (head ++ tab m.kind).flatMap m.encF
def put (m : M) : List Nat × Nat := if check m = 0 then (Fr.frame m.enc, 0) else ([], check m)
/-- an entry that is read; entries that are -/
def rdE (s : Pk.St) : En × Pk.St := (⟨(Pk.rdInt s).1, (Pk.rdInt (Pk.rdInt s).2).1, (Pk.rdBlob (Pk.rdInt (Pk.rdInt s).2).2).1⟩, (Pk.rdBlob (Pk.rdInt (Pk.rdInt s).2).2).2)
def rdEs : Nat → Pk.St → List En × Pk.St
  | 0, s => ([], s)
  | n + 1, s => ((rdE s).1 :: (rdEs n (rdE s).2).1, (rdEs n (rdE s).2).2)
/-- a field that is read; none: it can't be one -/
def rdF (m : M) (s : Pk.St) (r : Nat) : Option (M × Pk.St) :=
  if r = 111 then (if (Pk.rdInt s).1 = 0 ∨ (Pk.rdInt s).1 = 1 then some ({ m with ok := decide ((Pk.rdInt s).1 = 1) }, (Pk.rdInt s).2) else none)
  else if r = 101 then (if (Pk.rdInt s).1 < 0 ∨ (((Pk.rdInt s).2.rest.length / 24 : Nat) : Int) < (Pk.rdInt s).1 then none
    else some ({ m with es := m.es ++ (rdEs (Pk.rdInt s).1.toNat (Pk.rdInt s).2).1 }, (rdEs (Pk.rdInt s).1.toNat (Pk.rdInt s).2).2))
  else if r = 100 then some ({ m with d := (Pk.rdBlob s).1 }, (Pk.rdBlob s).2)
  else some (m.set r (Pk.rdInt s).1, (Pk.rdInt s).2)
def rdFs : List Nat → M → Pk.St → Option (M × Pk.St)
  | [], m, s => some (m, s)
  | r :: l, m, s => match rdF m s r with
    | none => none
    | some (m', s') => rdFs l m' s'
def head3 (p : List Nat) : M × Pk.St :=
  let s0 : Pk.St := ⟨p, false⟩
  let s1 := (Pk.rdInt s0).2
  let s2 := (Pk.rdInt s1).2
  ({ M0 with K := (Pk.rdInt s0).1, F := (Pk.rdInt s1).1, T := (Pk.rdInt s2).1 }, (Pk.rdInt s2).2)
/-- the end of what is read: 0 OK -/
def over (s : Pk.St) : Bool := !s.bad && decide (s.rest.length = 0)
def body (p : List Nat) : Option M :=
  match rdFs (tab (head3 p).1.kind) (head3 p).1 (head3 p).2 with
  | none => none
  | some (m, s) => if over s = true then some m else none
/-- the message whose encoding is p; 4 ErrForm, 13 ErrKind -/
def dec (p : List Nat) : M × Nat :=
  if (head3 p).2.bad = true then (M0, 4) else if (head3 p).1.isKind = false then (M0, 13) else
  match body p with
  | none => (M0, 4)
  | some m => (m, 0)
def checked (x : M × Nat) : M × Nat := if x.2 ≠ 0 then (M0, x.2) else if check x.1 ≠ 0 then (M0, check x.1) else (x.1, 0)
def get (b : List Nat) : M × Nat :=
  if (Fr.get b).2.2 ≠ 0 then (M0, (Fr.get b).2.2) else if (Fr.get b).2.1 < b.length then (M0, 2) else checked (dec (Fr.get b).1)

theorem set_out (m : M) (r : Nat) (n : Int) (h : r ∉ nums) : m.set r n = m := by
  simp only [nums, List.mem_cons, List.not_mem_nil, or_false, not_or] at h
  obtain ⟨h1, h2, h3, h4, h5, h6, h7, h8, h9, h10, h11, h12, h13, h14⟩ := h
  unfold M.set
  rw [if_neg h1, if_neg h2, if_neg h3, if_neg h4, if_neg h5, if_neg h6, if_neg h7, if_neg h8, if_neg h9, if_neg h10, if_neg h11, if_neg h12, if_neg h13, if_neg h14]
theorem num_set (m : M) (r q : Nat) (n : Int) (h : q ∈ nums) : (m.set r n).num q = if r = q then n else m.num q := by
  by_cases hr : r ∈ nums
  · simp only [nums, List.mem_cons, List.not_mem_nil, or_false] at h hr
    rcases hr with rfl | rfl | rfl | rfl | rfl | rfl | rfl | rfl | rfl | rfl | rfl | rfl | rfl | rfl <;>
      rcases h with rfl | rfl | rfl | rfl | rfl | rfl | rfl | rfl | rfl | rfl | rfl | rfl | rfl | rfl <;> rfl
  · rw [set_out m r n hr, if_neg (fun e : r = q => hr (by rw [e]; exact h))]
end Go.Proofs.YtpigekbfngalbaaDoor.Ms
namespace Go.Proofs.YtpigekbfngalbaaDoor.Ms
open Go.RowKit
set_option maxRecDepth 100000

/-- the pointer to a field -/
def ptr (g : Nat) (r : Nat) : Option Addr := if r ∈ nums then some ⟨g, ix r, none⟩ else none

set_option maxHeartbeats 1600000 in
theorem number_any (g : Nat) (r : Nat) (hr : r < 128) (w : World) :
    Calls Tryd.prog 61 #[.pointer (some ⟨g, 0, none⟩), .int .i32 (r : Int)] w fun e w' => e = .returned (.pointer (ptr g r)) ∧ w' = w := by
  by_cases hn : r ∈ nums
  · have hp : ptr g r = some ⟨g, ix r, none⟩ := if_pos hn
    rw [hp]
    simp only [nums, List.mem_cons, List.not_mem_nil, or_false] at hn
    rcases hn with rfl | rfl | rfl | rfl | rfl | rfl | rfl | rfl | rfl | rfl | rfl | rfl | rfl | rfl <;>
    · go_enter Tryd.func61, Tryd.ntmps61
      go_wp2
      go_ret
      exact ⟨rfl, rfl⟩
  · have hp : ptr g r = none := if_neg hn
    rw [hp]
    simp only [nums, List.mem_cons, List.not_mem_nil, or_false, not_or] at hn
    obtain ⟨h1, h2, h3, h4, h5, h6, h7, h8, h9, h10, h11, h12, h13, h14⟩ := hn
    have k1 : (r : Int) ≠ 75 := by omega
    have k2 : (r : Int) ≠ 70 := by omega
    have k3 : (r : Int) ≠ 84 := by omega
    have k4 : (r : Int) ≠ 103 := by omega
    have k5 : (r : Int) ≠ 116 := by omega
    have k6 : (r : Int) ≠ 105 := by omega
    have k7 : (r : Int) ≠ 112 := by omega
    have k8 : (r : Int) ≠ 99 := by omega
    have k9 : (r : Int) ≠ 114 := by omega
    have k10 : (r : Int) ≠ 120 := by omega
    have k11 : (r : Int) ≠ 97 := by omega
    have k12 : (r : Int) ≠ 98 := by omega
    have k13 : (r : Int) ≠ 118 := by omega
    have k14 : (r : Int) ≠ 115 := by omega
    clear h1 h2 h3 h4 h5 h6 h7 h8 h9 h10 h11 h12 h13 h14
    go_enter Tryd.func61, Tryd.ntmps61
    go_wp2
    go_ret
    exact ⟨rfl, rfl⟩

end Go.Proofs.YtpigekbfngalbaaDoor.Ms
namespace Go.Proofs.YtpigekbfngalbaaDoor.Ms
open Go.RowKit
set_option maxRecDepth 100000

/-- letters as a string -/
def strOf (l : List Nat) : ByteArray := ⟨(l.map Nat.toUInt8).toArray⟩
theorem strOf_size (l : List Nat) : (strOf l).size = l.length := by unfold strOf; simp [ByteArray.size]
theorem strOf_append (l k : List Nat) : strOf l ++ strOf k = strOf (l ++ k) := by
  unfold strOf
  rw [List.map_append]
  apply ByteArray.ext
  simp [ByteArray.data_append]
theorem strOf_get (l : List Nat) (hl : ∀ x ∈ l, x < 128) (k : Nat) (h : k < (strOf l).size) : ((strOf l)[k]'h).toNat = l[k]'(by rw [← strOf_size]; exact h) := by
  have hk : k < l.length := by rw [← strOf_size]; exact h
  have hx := hl l[k] (List.getElem_mem hk)
  show ((strOf l).data[k]).toNat = _
  simp only [strOf, List.getElem_toArray, List.getElem_map]
  exact Nat.mod_eq_of_lt (by omega)
theorem has_index (l : List Nat) (hl : ∀ x ∈ l, x < 128) (r : Nat) (hr : r < 128) : decide (0 ≤ Lib.indexByte (l.map Nat.toUInt8) ((r : Int).toNat.toUInt8)) = l.contains r := by
  induction l with
  | nil => simp [Lib.indexByte]
  | cons a l ih =>
    have ih := ih (fun x hx => hl x (List.mem_cons_of_mem _ hx))
    have ha := hl a List.mem_cons_self
    have he : (a.toUInt8 == (r : Int).toNat.toUInt8) = (r == a) := by
      rw [Int.toNat_natCast, Bool.eq_iff_iff, beq_iff_eq, beq_iff_eq]
      constructor
      · intro e
        have := congrArg UInt8.toNat e
        simp at this
        omega
      · rintro rfl; rfl
    have hg := Lib.indexByte_ge (l.map Nat.toUInt8) ((r : Int).toNat.toUInt8)
    rw [List.map_cons, Lib.indexByte, he, List.contains_cons, ← ih]
    by_cases e : r = a
    · simp [e]
    · have e2 : (r == a) = false := by simpa using e
      rw [e2]
      simp only [Bool.false_eq_true, if_false, Bool.false_or]
      by_cases h1 : Lib.indexByte (l.map Nat.toUInt8) ((r : Int).toNat.toUInt8) = -1
      · rw [h1]; rfl
      · have : (Lib.indexByte (l.map Nat.toUInt8) ((r : Int).toNat.toUInt8) == -1) = false := by simpa using h1
        rw [this]
        simp only [Bool.false_eq_true, if_false]
        congr 1
        apply propext
        constructor <;> intro <;> omega

set_option maxHeartbeats 1000000 in
theorem sIndex_any (s : ByteArray) (c : Int) (w : World) :
    Calls Tryd.prog 101 #[.string s, .int .u8 c] w fun e w' => e = .returned (.int .i64 (Lib.indexByte s.data.toList c.toNat.toUInt8)) ∧ w' = w := by
  go_enter Tryd.func101, Tryd.ntmps101
  go_wp2
  rw [run_callFunc_extern Tryd.func103 (by kernel_rfl) (by kernel_rfl) (by kernel_rfl) (e := Extern.BytealgIndexByte.indexByte) (by kernel_rfl), Lib.run_indexByteString]
  simp only [Result.andThen]
  rw [Oper.upon_value]
  go_wp2
  go_ret
  exact ⟨rfl, rfl⟩
set_option maxHeartbeats 1000000 in
theorem index_any (s : ByteArray) (c : Int) (w : World) :
    Calls Tryd.prog 92 #[.string s, .int .u8 c] w fun e w' => e = .returned (.int .i64 (Lib.indexByte s.data.toList c.toNat.toUInt8)) ∧ w' = w := by
  go_enter Tryd.func92, Tryd.ntmps92
  go_wp2_with fail
  refine (sIndex_any _ _ _).mono ?_
  rintro e w' ⟨rfl, rfl⟩
  go_wp2
  go_ret
  exact ⟨rfl, rfl⟩
set_option maxHeartbeats 4000000 in
theorem rune_any (s : ByteArray) (r : Nat) (hr : r < 128) (w : World) :
    Calls Tryd.prog 83 #[.string s, .int .i32 (r : Int)] w fun e w' => e = .returned (.int .i64 (Lib.indexByte s.data.toList (r : Int).toNat.toUInt8)) ∧ w' = w := by
  have h0 : (0 : Int) ≤ r := by omega
  have h1 : (r : Int) < 128 := by omega
  go_enter Tryd.func83, Tryd.ntmps83
  go_wp2_with fail
  refine (index_any _ _ _).mono ?_
  rintro e w' ⟨rfl, rfl⟩
  go_wp2
  go_ret
  exact ⟨rfl, rfl⟩
set_option maxHeartbeats 1000000 in
theorem contains_any (l : List Nat) (hl : ∀ x ∈ l, x < 128) (r : Nat) (hr : r < 128) (w : World) :
    Calls Tryd.prog 59 #[.string (strOf l), .int .i32 (r : Int)] w fun e w' => e = .returned (.bool (l.contains r)) ∧ w' = w := by
  go_enter Tryd.func59, Tryd.ntmps59
  go_wp2_with fail
  refine (rune_any _ r hr _).mono ?_
  rintro e w' ⟨rfl, rfl⟩
  go_wp2
  go_ret
  refine ⟨?_, rfl⟩
  rw [← has_index l hl r hr]
  simp [strOf]
  congr
end Go.Proofs.YtpigekbfngalbaaDoor.Ms
namespace Go.Proofs.YtpigekbfngalbaaDoor
open Go.RowKit

/-- entries that lie anywhere, each with its bytes' place -/
def Reads (w : World) (B : Nat) (M : List El) : Prop := ∀ q ∈ M, IsBytes w B q.A q.e.d ∧ (q.e.d.length ≤ q.c ∧ q.c ≤ maxLen) ∧ (q.A = none → q.c = 0)
theorem IsEnts.flat {w : World} {B : Nat} {A : Option Addr} {L : List Rl.En} (h : IsEnts w B A L) : ∃ M : List El, M.map (·.e) = L ∧ Reads w B M ∧ ∀ ad, A = some ad → ∀ j u, (M.flatMap cellsE)[j]? = some u → w.cell? (ad.add j) = some u := by
  have hq : ∀ i : Fin L.length, ∃ q : El, q.e = L[i] ∧ (IsBytes w B q.A q.e.d ∧ (q.e.d.length ≤ q.c ∧ q.c ≤ maxLen) ∧ (q.A = none → q.c = 0)) ∧ ∀ ad, A = some ad → ∀ k, k < 3 → w.cell? (ad.add (i.1 * 3 + k)) = (cellsE q)[k]? := by
    intro i
    obtain ⟨b, off, rfl, _, hc⟩ := h.cells i.1 i.2
    obtain ⟨A1, c1, d0, d1, d2, d3, d4, d5⟩ := hc i.1 i.2
    refine ⟨⟨L[i], A1, c1⟩, rfl, ⟨d3, d4, d5⟩, fun ad he k hk => ?_⟩
    injection he with he
    subst he
    rw [add_off, ← Nat.add_assoc]
    match k, hk with
    | 0, _ => exact d0
    | 1, _ => exact d1
    | 2, _ => exact d2
  refine ⟨List.ofFn (fun i => (hq i).choose), ?_, ?_, ?_⟩
  · apply List.ext_getElem
    · simp
    · intro i h1 h2
      rw [List.getElem_map, List.getElem_ofFn]
      exact (hq ⟨i, h2⟩).choose_spec.1
  · intro q hm
    obtain ⟨i, rfl⟩ := List.mem_ofFn.1 hm
    exact (hq i).choose_spec.2.1
  · intro ad he j u hu
    have hlt := (List.getElem?_eq_some_iff.1 hu).1
    rw [flat_len cellsE 3 (fun _ => rfl)] at hlt
    have hj : j / 3 < (List.ofFn (fun i => (hq i).choose)).length := by omega
    have e := flat_get cellsE 3 (fun _ => rfl) _ (j / 3) hj (j % 3) (by omega)
    rw [show j / 3 * 3 + j % 3 = j by omega, hu, List.getElem_ofFn] at e
    have := (hq ⟨j / 3, by simpa using hj⟩).choose_spec.2.2 ad he (j % 3) (by omega)
    rw [show j / 3 * 3 + j % 3 = j by omega] at this
    rw [this, ← e]
theorem Reads.below {w w' : World} {B : Nat} {M : List El} (h : Reads w B M) (hb : Below B w w') : Reads w' B M := fun q hq => ⟨(h q hq).1.below hb, (h q hq).2⟩
/-- a row of entries whose bytes lie elsewhere -/
theorem isEnts_row {w : World} {B B' : Nat} {F : Nat → Prop} {A : Option Addr} {c : Nat} {M : List El} (hrow : RowIn cellsE 3 61 w F A c M) (hr : Reads w B M) (hB : B ≤ B') (hF : ∀ k, F k → k < w.heap.size → k < B') (hn : ∀ q ∈ M, InInt q.e.t ∧ InInt q.e.k) : IsEnts w B' A (M.map (·.e)) := ⟨fun e he => by
  obtain ⟨q, hq, rfl⟩ := List.mem_map.1 he
  exact hn q hq, fun k hk => by
  rw [List.length_map] at hk
  obtain ⟨g, hA, hg, hFg, _, _⟩ := hrow.get k hk
  refine ⟨g, 0, hA, hF g hFg hg, fun i hi => ?_⟩
  rw [List.length_map] at hi
  obtain ⟨g', hA', _, _, hc, _⟩ := hrow.get i hi
  obtain rfl : g = g' := by rw [hA] at hA'; injection hA' with e; injection e
  have ho := hr M[i] (List.getElem_mem hi)
  rw [List.getElem_map, Nat.zero_add]
  exact ⟨M[i].A, M[i].c, hc 0 (by omega), hc 1 (by omega), hc 2 (by omega), ho.1.more hB, ho.2⟩⟩

/-- Entries in a row of the call's own, from block lo on, whose bytes lie below block B. -/
def SharE (w : World) (B lo : Nat) (A : Option Addr) (c : Nat) (L : List Rl.En) : Prop :=
  ∃ M : List El, M.map (·.e) = L ∧ RowIn cellsE 3 61 w (fun k => lo ≤ k) A c M ∧ Reads w B M ∧ ∀ q ∈ M, InInt q.e.t ∧ InInt q.e.k
namespace SharE
variable {w w' : World} {B lo : Nat} {A : Option Addr} {c : Nat} {L : List Rl.En}
theorem nil (w : World) (B lo : Nat) : SharE w B lo none 0 [] := ⟨[], rfl, RowIn.nil (f := cellsE) (fun _ => rfl) _ _ _, fun q hq => by simp at hq, by simp⟩
theorem reads (h : SharE w B lo A c L) (hB : B ≤ w.heap.size) : IsEnts w w.heap.size A L := by
  obtain ⟨M, h1, h2, h3, h4⟩ := h
  rw [← h1]
  exact isEnts_row h2 h3 hB (fun k _ hk => hk) h4
theorem keep {S : Nat → Prop} (h : SharE w B lo A c L) (ht : Turned S w w') (hB : B ≤ w.heap.size) (hs : ∀ k, S k → B ≤ k ∧ k < lo) : SharE w' B lo A c L := by
  obtain ⟨M, h1, h2, h3, h4⟩ := h
  exact ⟨M, h1, h2.keep ht (fun k hk hS => by have := h2.blk k hk; have := (hs k hS).2; omega), h3.below (ht.below hB (fun k hk => (hs k hk).1)), h4⟩
theorem below (h : SharE w B lo A c L) (hb : Below w.heap.size w w') (hB : B ≤ w.heap.size) : SharE w' B lo A c L := h.keep (S := fun _ => False) (Turned.ofBelow _ hb) hB (fun _ h => h.elim)
theorem room (h : SharE w B lo A c L) : L.length ≤ c ∧ c ≤ maxLen := by
  obtain ⟨M, h1, h2⟩ := h; rw [← h1, List.length_map]; exact ⟨h2.1.cap, h2.1.capLe⟩
theorem none_ (h : SharE w B lo A c L) : A = none → c = 0 := by
  obtain ⟨M, h1, h2⟩ := h; exact h2.1.none_
end SharE
/-- both lie in a new row then -/
theorem run_append_full {w : World} (ty : TypeId) {B : Nat} {A A' : Option Addr} {L M : List Rl.En} (h : IsEnts w B A L) (h' : IsEnts w B A' M) (hB : B ≤ w.heap.size) (n m c' : Nat) (hn : L.length = n) (hm : M.length = m) (h0 : A = none → n = 0) (hpos : 0 < m) (hl : n + m ≤ 100000) :
    ∃ A2 c2 w', (Builtin.append_ #[22, 22] ty #[.slice A n n, .slice A' m c']).run Tryd.prog w = .ok (.slice A2 (n + m) c2) w' ∧ SharE w' B w.heap.size A2 c2 (L ++ M) ∧ Below w.heap.size w w' := by
  subst hn
  subst hm
  obtain ⟨i0, hi, hz0, hz1, hz2⟩ := info_parts info_entry
  obtain ⟨ML, e1, r1, c1⟩ := h.flat
  obtain ⟨MM, e2, r2, c2⟩ := h'.flat
  have l1 : ML.length = L.length := by rw [← e1, List.length_map]
  have l2 : MM.length = M.length := by rw [← e2, List.length_map]
  obtain ⟨b', off', rfl, _⟩ := h'.cells 0 hpos
  have hex : ∃ v' w', (Builtin.append_ #[22, 22] ty #[.slice A L.length L.length, .slice (some ⟨b', off', none⟩) M.length c']).run Tryd.prog w = .ok v' w' ∧ w'.ownsRow w.heap.size 61 3 v' (L.length + M.length) (ML.flatMap cellsE ++ MM.flatMap cellsE) ∧ w.grownBy w' none := by
    rcases A with _ | b
    · have hl0 := h0 rfl
      have hnil : ML = [] := List.eq_nil_of_length_eq_zero (by omega)
      subst hnil
      rw [hl0]
      obtain ⟨v', w', hrun, q1, q2, _⟩ := run_append_own (P := Tryd.prog) w w.heap.size 22 ty 61 i0 _ 3 40 Tryd.underlying22 hi hz0 hz1 hz2 rfl (by decide) (.slice none 0 0) 0 [] (World.ownsRow_nil w _ _ 3) ⟨b', off', none⟩ M.length c' (MM.flatMap cellsE) (by rw [flat_len cellsE 3 (fun _ => rfl), l2]) (c2 _ rfl) (by intro u hu; obtain ⟨d, _, hu⟩ := List.mem_flatMap.1 hu; exact cellsE_one d u hu) (by unfold maxLen; omega) (by omega) (Nat.le_refl _)
      exact ⟨v', w', hrun, by simpa using q1, q2⟩
    · obtain ⟨v', w', hrun, q1, q2⟩ := run_append_arg_grows (P := Tryd.prog) w 22 ty 61 i0 _ 3 40 Tryd.underlying22 hi hz0 hz1 hz2 rfl (by decide) b L.length L.length (ML.flatMap cellsE) (by rw [flat_len cellsE 3 (fun _ => rfl), l1]) (c1 _ rfl) ⟨b', off', none⟩ M.length c' (MM.flatMap cellsE) (by rw [flat_len cellsE 3 (fun _ => rfl), l2]) (c2 _ rfl) (by omega) (by unfold maxLen; omega) (by omega)
      exact ⟨v', w', hrun, q1, q2⟩
  obtain ⟨v', w', hrun, q1, q2⟩ := hex
  obtain ⟨A2, c2', rfl⟩ := own_slice q1
  have hbel : Below w.heap.size w w' := below_grown q2 (Nat.le_refl _) (fun k hk => by cases hk)
  have hrow : RowIn cellsE 3 61 w' (fun k => w.heap.size ≤ k) A2 c2' (ML ++ MM) := by
    refine ⟨fun _ => rfl, ?_, fun k hk => (q1.lt k (by rw [ownBlock_slice]; exact hk)).1⟩
    rw [List.length_append, l1, l2, List.flatMap_append]
    refine ⟨q1.1, ?_⟩
    rcases q1.2 with h0 | ⟨g, cap, cur, k1, k2, k3⟩
    · exact .inl h0
    · exact .inr ⟨g, cap, cur, k1, Nat.zero_le _, k3⟩
  have hmap : (ML ++ MM).map (·.e) = L ++ M := by rw [List.map_append, e1, e2]
  refine ⟨A2, c2', w', hrun, ⟨ML ++ MM, hmap, hrow, fun q hq => ?_, fun q hq => ?_⟩, hbel⟩
  · rcases List.mem_append.1 hq with hq | hq
    · exact r1.below (hbel.mono hB) q hq
    · exact r2.below (hbel.mono hB) q hq
  · have : q.e ∈ L ++ M := by rw [← hmap]; exact List.mem_map.2 ⟨q, hq, rfl⟩
    rcases List.mem_append.1 this with h1 | h1
    · exact h.num _ h1
    · exact h'.num _ h1
theorem step_append_full {w : World} {ops : Array Oper} {o : Oper} {a : Act} {K : Act → World → Prop} {Q : Exit → Act → World → Prop} {E : Prop} (hgd : o.guard = none) (s y : Operand)
    (ho : o.op = .call { callee := .builtin .append, args := #[s, y], argTypes := #[22, 22] }) {B : Nat} {A A' : Option Addr} {L M : List Rl.En} (h : IsEnts w B A L) (h' : IsEnts w B A' M) (hB : B ≤ w.heap.size) (n m c' : Nat) (hn : L.length = n) (hm : M.length = m) (h0 : A = none → n = 0) (hpos : 0 < m) (hl : n + m ≤ 100000)
    (hs : a.eval s = .slice A n n) (hy : a.eval y = .slice A' m c')
    (hK : ∀ A2 c2 w', SharE w' B w.heap.size A2 c2 (L ++ M) → Below w.heap.size w w' → K (a.put o.dst (.slice A2 (n + m) c2)) w') :
    if Region.wanted o (yielded ops a.tmps) = true then Oper.wp Tryd.prog o a w K Q else E := by
  have hw : Region.wanted o (yielded ops a.tmps) = true := by simp [Region.wanted, hgd]
  rw [if_pos hw]
  obtain ⟨A2, c2, w', hr, h1, h4⟩ := run_append_full o.type h h' hB n m c' hn hm h0 hpos hl
  unfold Oper.wp execOp
  simp only [ho, resolve, invoke, builtin, Sem.run_bind, Sem.run_pure, Result.andThen_ok, List.map_toArray, List.map_cons, List.map_nil, hs, hy, hr]
  exact hK A2 c2 w' h1 h4
/-- an entry is put behind entries of the call's own row; its bytes stay where they lie -/
theorem wpList_append_share {w : World} {ops : Array Oper} {rest : List Oper} {o : Oper} {a : Act} {Q : Exit → Act → World → Prop} (hgd : o.guard = none) (s y : Operand)
    (ho : o.op = .call { callee := .builtin .append, args := #[s, y], argTypes := #[22, 22] }) {B lo c : Nat} {A : Option Addr} {L : List Rl.En} (h : SharE w B lo A c L) (hB : B ≤ lo) (hlo : lo ≤ w.heap.size)
    (n : Nat) (hn : L.length = n) (hs : a.eval s = .slice A n c) (x : Rl.En) (hx : InInt x.t ∧ InInt x.k) (A' : Option Addr) (c' : Nat) (hb : IsBytes w B A' x.d ∧ (x.d.length ≤ c' ∧ c' ≤ maxLen) ∧ (A' = none → c' = 0)) (ad : Addr) (ce : Nat) (hy : a.eval y = .slice (some ad) 1 ce) (hc : ∀ k, k < 3 → w.cell? (ad.add k) = (cellsE ⟨x, A', c'⟩)[k]?)
    (hl : n + 1 ≤ 100000)
    (hK : ∀ A2 c2 w', SharE w' B lo A2 c2 (L ++ [x]) → Below lo w w' → wpList Tryd.prog ops Q rest (a.put o.dst (.slice A2 (n + 1) c2)) w') : wpList Tryd.prog ops Q (o :: rest) a w := by
  obtain ⟨i0, hi, hz0, hz1, hz2⟩ := info_parts info_entry
  obtain ⟨M, hM, hr, hrd, hnum⟩ := h
  refine wpList_append_row hgd s y 22 ho i0 _ Tryd.underlying22 hi hz0 hz1 hz2 rfl (by decide) hr n (by rw [← hn, ← hM, List.length_map]) hs ⟨x, A', c'⟩ ad ce hy hc (cellsE_one _) (by omega) hl ?_
  intro A2 c2 w' h1 h2 _
  have hbel : Below lo w w' := below_grown h2 hlo (fun k hk => hr.blk k hk)
  refine hK A2 c2 w' ⟨M ++ [⟨x, A', c'⟩], by rw [List.map_append, hM]; rfl, h1.mono (fun k hk => ?_), fun q hq => ?_, fun q hq => ?_⟩ hbel
  · rcases h1.blk k hk with e | e
    · exact e
    · omega
  · rcases List.mem_append.1 hq with hq | hq
    · exact hrd.below (hbel.mono hB) q hq
    · obtain rfl := List.mem_singleton.1 hq
      exact ⟨hb.1.below (hbel.mono hB), hb.2⟩
  · rcases List.mem_append.1 hq with hq | hq
    · exact hnum q hq
    · obtain rfl := List.mem_singleton.1 hq; exact hx
/-- what a region carries out -/
theorem step_of_wp {c : Bool} {X E : Prop} (hc : c = true) (h : X) : if c = true then X else E := by rw [if_pos hc]; exact h
theorem wp_append_ent {w : World} {o : Oper} {a : Act} {K : Act → World → Prop} {Q : Exit → Act → World → Prop} (s y : Operand)
    (ho : o.op = .call { callee := .builtin .append, args := #[s, y], argTypes := #[22, 22] }) {B N c : Nat} {A : Option Addr} {L : List Rl.En} (h : OwnE w B N A c L) (hBN : B ≤ N) (hN : N ≤ w.heap.size)
    (n : Nat) (hn : L.length = n) (hs : a.eval s = .slice A n c) (x : Rl.En) (hx : InInt x.t ∧ InInt x.k) (A' : Option Addr) (c' : Nat) (hb : OwnsB 5 w N A' c' x.d) (ad : Addr) (ce : Nat) (hy : a.eval y = .slice (some ad) 1 ce) (hc : ∀ k, k < 3 → w.cell? (ad.add k) = (cellsE ⟨x, A', c'⟩)[k]?)
    (hl : n + 1 ≤ 100000)
    (hK : ∀ A2 c2 w', OwnE w' B w'.heap.size A2 c2 (L ++ [x]) → Below B w w' → K (a.put o.dst (.slice A2 (n + 1) c2)) w') : Oper.wp Tryd.prog o a w K Q := by
  obtain ⟨i0, hi, hz0, hz1, hz2⟩ := info_parts info_entry
  obtain ⟨M, hM, hE⟩ := h
  exact wp_append_row s y 22 ho i0 _ Tryd.underlying22 hi hz0 hz1 hz2 rfl (by decide) hE.row n (by rw [← hn, ← hM, List.length_map]) hs ⟨x, A', c'⟩ ad ce hy hc (cellsE_one _) (by omega) hl
    fun A2 c2 w' h1 h2 _ => by
      obtain ⟨h4, h5⟩ := ent_put hM hE hBN hN x hb hx h1 h2
      exact hK A2 c2 w' h4 h5
end Go.Proofs.YtpigekbfngalbaaDoor
namespace Go.Proofs.YtpigekbfngalbaaDoor.Ms
open Go.RowKit
set_option maxRecDepth 100000

/-- the table of the fields lies where the program's text lays it -/
def Tab (w : World) : Prop := ∀ k, k < 12 → w.cell? ⟨0, k, none⟩ = some (.string (strOf (tab k)))
theorem Tab.below {w w' : World} {B : Nat} (h : Tab w) (hb : Below B w w') (hB : 0 < B) : Tab w' := fun k hk => (hb.cell hB).trans (h k hk)
theorem Tab.pos {w : World} (h : Tab w) : 0 < w.heap.size := World.block_lt_of_cell? _ _ (h 0 (by decide))
/-- the message whose entries lie at A, its data at A', below B -/
structure Is (w : World) (B : Nat) (m : M) (A : Option Addr) (c : Nat) (A' : Option Addr) (c' : Nat) : Prop where
  num : ∀ r ∈ nums, InInt (m.num r)
  es : IsEnts w B A m.es
  ec : m.es.length ≤ c ∧ c ≤ maxLen
  en : A = none → c = 0
  d : IsBytes w B A' m.d
  dc : m.d.length ≤ c' ∧ c' ≤ maxLen
  dn : A' = none → c' = 0
theorem Is.below {w w' : World} {B : Nat} {m : M} {A A' : Option Addr} {c c' : Nat} (h : Is w B m A c A' c') (hb : Below B w w') : Is w' B m A c A' c' := ⟨h.num, h.es.below hb, h.ec, h.en, h.d.below hb, h.dc, h.dn⟩
theorem Is.more {w : World} {B B' : Nat} {m : M} {A A' : Option Addr} {c c' : Nat} (h : Is w B m A c A' c') (hB : B ≤ B') : Is w B' m A c A' c' := ⟨h.num, h.es.more hB, h.ec, h.en, h.d.more hB, h.dc, h.dn⟩
theorem Is.low {w w' : World} {m : M} {A A' : Option Addr} {c c' : Nat} (h : Is w w.heap.size m A c A' c') (hb : Below w.heap.size w w') : Is w' w'.heap.size m A c A' c' := (h.below hb).more hb.size
/-- a number of a message where it lies -/
theorem num_cell (m : M) (A : Option Addr) (c : Nat) (A' : Option Addr) (c' : Nat) (r : Nat) (hr : r ∈ nums) : (#[.int .i64 m.K, .int .i64 m.F, .int .i64 m.T, .int .i64 m.g, .int .i64 m.t, .int .i64 m.i, .int .i64 m.p, .int .i64 m.c, .int .i64 m.r, .int .i64 m.x, .int .i64 m.a, .int .i64 m.b, .int .i64 m.v, .int .i64 m.s, .bool m.ok, .slice A m.es.length c, .slice A' m.d.length c'] : Array Value)[ix r]? = some (.int .i64 (m.num r)) := by
  simp only [nums, List.mem_cons, List.not_mem_nil, or_false] at hr
  rcases hr with rfl | rfl | rfl | rfl | rfl | rfl | rfl | rfl | rfl | rfl | rfl | rfl | rfl | rfl <;> rfl
theorem ix_lt (r : Nat) (hr : r ∈ nums) : ix r < 14 := by
  simp only [nums, List.mem_cons, List.not_mem_nil, or_false] at hr
  rcases hr with rfl | rfl | rfl | rfl | rfl | rfl | rfl | rfl | rfl | rfl | rfl | rfl | rfl | rfl <;> decide

set_option maxHeartbeats 1600000 in
theorem within_any (v : Int) (r : Nat) (w : World) :
    Calls Tryd.prog 62 #[.int .i64 v, .int .i32 (r : Int)] w fun e w' => e = .returned (.bool (within v r)) ∧ w' = w := by
  have fin : ∀ lo hi : Int, ∀ b : Bool, least r = lo → most r = hi → b = (decide (lo ≤ v) && decide (v ≤ hi)) → Ending.returned (.bool b) = .returned (.bool (within v r)) := fun lo hi b h1 h2 h3 => by unfold within; rw [h1, h2, h3]
  have hl : least r = if r = 70 ∨ r = 84 ∨ r = 120 ∨ r = 97 then 1 else 0 := rfl
  have hm : most r = if r = 70 ∨ r = 84 then 199 else if r = 103 ∨ r = 97 then 4 else if r = 118 then 2 else 1099511627776 := rfl
  have F := hid (And.intro fin (And.intro hl hm))
  clear fin hl hm
  by_cases h1 : r = 70 ∨ r = 84
  · have hL : least r = 1 := by rw [F.out.2.1]; first | rw [if_pos (by omega)] | rw [if_neg (by omega)]
    have hM : most r = 199 := by rw [F.out.2.2]; first | rw [if_pos (by omega)] | (rw [if_neg (by omega)]; first | rw [if_pos (by omega)] | (rw [if_neg (by omega)]; first | rw [if_pos (by omega)] | rw [if_neg (by omega)]))
    have G := hid (F.out.1 _ _ · hL hM)
    clear F hL hM
    rcases h1 with rfl | rfl <;>
    · by_cases hv : 1 ≤ v <;> by_cases hv2 : v ≤ 199 <;>
      · go_enter Tryd.func62, Tryd.ntmps62
        go_wp2
        all_goals (go_ret; exact ⟨G.out _ (by simp [*]), rfl⟩)
  by_cases h2 : r = 103
  · have hL : least r = 0 := by rw [F.out.2.1]; first | rw [if_pos (by omega)] | rw [if_neg (by omega)]
    have hM : most r = 4 := by rw [F.out.2.2]; first | rw [if_pos (by omega)] | (rw [if_neg (by omega)]; first | rw [if_pos (by omega)] | (rw [if_neg (by omega)]; first | rw [if_pos (by omega)] | rw [if_neg (by omega)]))
    have G := hid (F.out.1 _ _ · hL hM)
    clear F hL hM
    subst h2
    · by_cases hv : 0 ≤ v <;> by_cases hv2 : v ≤ 4 <;>
      · go_enter Tryd.func62, Tryd.ntmps62
        go_wp2
        all_goals (go_ret; exact ⟨G.out _ (by simp [*]), rfl⟩)
  by_cases h3 : r = 120
  · have hL : least r = 1 := by rw [F.out.2.1]; first | rw [if_pos (by omega)] | rw [if_neg (by omega)]
    have hM : most r = 1099511627776 := by rw [F.out.2.2]; first | rw [if_pos (by omega)] | (rw [if_neg (by omega)]; first | rw [if_pos (by omega)] | (rw [if_neg (by omega)]; first | rw [if_pos (by omega)] | rw [if_neg (by omega)]))
    have G := hid (F.out.1 _ _ · hL hM)
    clear F hL hM
    subst h3
    · by_cases hv : 1 ≤ v <;> by_cases hv2 : v ≤ 1099511627776 <;>
      · go_enter Tryd.func62, Tryd.ntmps62
        go_wp2
        all_goals (go_ret; exact ⟨G.out _ (by simp [*]), rfl⟩)
  by_cases h4 : r = 97
  · have hL : least r = 1 := by rw [F.out.2.1]; first | rw [if_pos (by omega)] | rw [if_neg (by omega)]
    have hM : most r = 4 := by rw [F.out.2.2]; first | rw [if_pos (by omega)] | (rw [if_neg (by omega)]; first | rw [if_pos (by omega)] | (rw [if_neg (by omega)]; first | rw [if_pos (by omega)] | rw [if_neg (by omega)]))
    have G := hid (F.out.1 _ _ · hL hM)
    clear F hL hM
    subst h4
    · by_cases hv : 1 ≤ v <;> by_cases hv2 : v ≤ 4 <;>
      · go_enter Tryd.func62, Tryd.ntmps62
        go_wp2
        all_goals (go_ret; exact ⟨G.out _ (by simp [*]), rfl⟩)
  by_cases h5 : r = 118
  · have hL : least r = 0 := by rw [F.out.2.1]; first | rw [if_pos (by omega)] | rw [if_neg (by omega)]
    have hM : most r = 2 := by rw [F.out.2.2]; first | rw [if_pos (by omega)] | (rw [if_neg (by omega)]; first | rw [if_pos (by omega)] | (rw [if_neg (by omega)]; first | rw [if_pos (by omega)] | rw [if_neg (by omega)]))
    have G := hid (F.out.1 _ _ · hL hM)
    clear F hL hM
    subst h5
    · by_cases hv : 0 ≤ v <;> by_cases hv2 : v ≤ 2 <;>
      · go_enter Tryd.func62, Tryd.ntmps62
        go_wp2
        all_goals (go_ret; exact ⟨G.out _ (by simp [*]), rfl⟩)
  · have hL : least r = 0 := by rw [F.out.2.1, if_neg (by omega)]
    have hM : most r = 1099511627776 := by rw [F.out.2.2, if_neg (by omega), if_neg (by omega), if_neg (by omega)]
    have G := hid (F.out.1 _ _ · hL hM)
    clear F hL hM
    have k1 : (r : Int) ≠ 70 := by omega
    have k2 : (r : Int) ≠ 84 := by omega
    have k3 : (r : Int) ≠ 103 := by omega
    have k4 : (r : Int) ≠ 120 := by omega
    have k5 : (r : Int) ≠ 97 := by omega
    have k6 : (r : Int) ≠ 118 := by omega
    clear h1 h2 h3 h4 h5
    · by_cases hv : 0 ≤ v <;> by_cases hv2 : v ≤ 1099511627776 <;>
      · go_enter Tryd.func62, Tryd.ntmps62
        go_wp2
        all_goals (go_ret; exact ⟨G.out _ (by simp [*]), rfl⟩)

set_option maxHeartbeats 1600000 in
theorem blank_any (m : M) (A : Option Addr) (c : Nat) (A' : Option Addr) (c' : Nat) (r : Nat) (hr : r ∈ nums ∨ r = 111 ∨ r = 101 ∨ r = 100) (w : World) :
    Calls Tryd.prog 60 #[.agg #[.int .i64 m.K, .int .i64 m.F, .int .i64 m.T, .int .i64 m.g, .int .i64 m.t, .int .i64 m.i, .int .i64 m.p, .int .i64 m.c, .int .i64 m.r, .int .i64 m.x, .int .i64 m.a, .int .i64 m.b, .int .i64 m.v, .int .i64 m.s, .bool m.ok, .slice A m.es.length c, .slice A' m.d.length c'], .int .i32 (r : Int)] w fun e w' => e = .returned (.bool (m.blank r)) ∧ Below w.heap.size w w' := by
  by_cases h1 : r = 111
  · subst h1
    go_enter Tryd.func60, Tryd.ntmps60
    go_wp2
    go_ret
    exact ⟨rfl, (Below.refl _ w).alloc (Nat.le_refl _) _⟩
  by_cases h2 : r = 101
  · subst h2
    by_cases h0 : m.es.length = 0 <;>
    · go_enter Tryd.func60, Tryd.ntmps60
      go_wp2
      go_ret
      exact ⟨by simp [M.blank, h0], (Below.refl _ w).alloc (Nat.le_refl _) _⟩
  by_cases h3 : r = 100
  · subst h3
    by_cases h0 : m.d.length = 0 <;>
    · go_enter Tryd.func60, Tryd.ntmps60
      go_wp2
      go_ret
      exact ⟨by simp [M.blank, h0], (Below.refl _ w).alloc (Nat.le_refl _) _⟩
  · have hn : r ∈ nums := by rcases hr with h | h | h | h <;> first | exact h | omega
    have hlt : r < 128 := by
      simp only [nums, List.mem_cons, List.not_mem_nil, or_false] at hn
      omega
    have HB : Hid (m.blank r = decide (m.num r = 0)) := by show _ = _; unfold M.blank; rw [if_neg h1, if_neg h2, if_neg h3]
    have k1 : (r : Int) ≠ 111 := by omega
    have k2 : (r : Int) ≠ 101 := by omega
    have k3 : (r : Int) ≠ 100 := by omega
    have hp : ptr w.heap.size r = some ⟨w.heap.size, ix r, none⟩ := if_pos hn
    have hc : (w.alloc (.cells #[.int .i64 m.K, .int .i64 m.F, .int .i64 m.T, .int .i64 m.g, .int .i64 m.t, .int .i64 m.i, .int .i64 m.p, .int .i64 m.c, .int .i64 m.r, .int .i64 m.x, .int .i64 m.a, .int .i64 m.b, .int .i64 m.v, .int .i64 m.s, .bool m.ok, .slice A m.es.length c, .slice A' m.d.length c'] 25)).cell? ⟨w.heap.size, ix r, none⟩ = some (.int .i64 (m.num r)) := by
      rw [cell_of_row _ w.heap.size (ix r) _ _ (0, 0) (heap_alloc_new w _)]; exact num_cell m A c A' c' r hn
    have hN := number_any w.heap.size r hlt
    rw [hp] at hN
    have HN := hid hN
    clear hN hp h1 h2 h3 hn hr
    go_enter Tryd.func60, Tryd.ntmps60
    go_wp2_with fail
    refine (HN.out _).mono ?_
    rintro e w1 ⟨rfl, rfl⟩
    go_wp2_with fail
    go_ret
    refine ⟨?_, (Below.refl _ w).alloc (Nat.le_refl _) _⟩
    rw [HB.out]
    rfl
end Go.Proofs.YtpigekbfngalbaaDoor.Ms
