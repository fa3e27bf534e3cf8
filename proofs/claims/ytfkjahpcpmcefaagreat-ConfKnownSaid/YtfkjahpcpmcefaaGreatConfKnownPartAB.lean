/- Texts of the proof, one behind the other: Ents, KitEq, Reader, ImMem, ImBox, Spoil, CfO, CfBk, CloneI, QuB, ImGrow, SortI, Compact, QuC, QuD, QuM, CfA, CfD. -/
import Derived.Test.YtfkjahpcpmcefaaGreatRows
import Derived.Test.YtfkjahpcpmcefaaGreatConfKnownPartAA
import Derived.Deep.QuietTactic
import Derived.BigQuiet
import Derived.StillTailTactics
import Derived.Deep.MidRow
import Derived.Deep.WholeRow
import Derived.RangeFuncNested
import Derived.RangeFuncBound
import Derived.RangeFuncCalls
import Derived.RangeFuncLeaves
import Derived.Shelf.Abstract
import Derived.Shelf.RegionOpen
import Derived.OwnWalkIn
import Derived.TacticsInMore
import Derived.LoopNIn
import Derived.LoopIn
import Derived.Lib.SliceRun
import Derived.Lib.AppendZeros
import Derived.Lib.SlKeysI
import Derived.Shelf.SortM.Plain
import Derived.Shelf.SortM.SortNone
import Derived.Shelf.SlicesG.CompactI
import Derived.Deep.RegionHeld3
namespace Go.Proofs.YtfkjahpcpmcefaaGreat
open Go.RowKit
def EnAt (w : World) (B b o : Nat) (e : Rl.En) : Prop :=
  ∃ A c, w.cell? ⟨b, o, none⟩ = some (.int .i64 e.t) ∧ w.cell? ⟨b, o + 1, none⟩ = some (.int .i64 e.k) ∧ w.cell? ⟨b, o + 2, none⟩ = some (.slice A e.d.length c) ∧ IsBytes w B A e.d ∧ (e.d.length ≤ c ∧ c ≤ maxLen) ∧ (A = none → c = 0)
structure IsEnts (w : World) (B : Nat) (A : Option Addr) (L : List Rl.En) : Prop where
  num : ∀ e ∈ L, InInt e.t ∧ InInt e.k
  cells : ∀ k, k < L.length → ∃ b off, A = some ⟨b, off, none⟩ ∧ b < B ∧ ∀ i (h : i < L.length), EnAt w B b (off + i * 3) L[i]
theorem EnAt.below {w w' : World} {B b o : Nat} {e : Rl.En} (h : EnAt w B b o e) (hb : b < B) (hB : Below B w w') : EnAt w' B b o e := by
  obtain ⟨A, c, h0, h1, h2, h3, h4, h5⟩ := h
  exact ⟨A, c, (hB.cell hb).trans h0, (hB.cell hb).trans h1, (hB.cell hb).trans h2, h3.below hB, h4, h5⟩
namespace IsEnts
variable {w w' : World} {B B' : Nat} {A : Option Addr} {L : List Rl.En}
theorem nil : IsEnts w B A [] := ⟨by simp, fun k h => by simp at h⟩
theorem below (h : IsEnts w B A L) (hb : Below B w w') : IsEnts w' B A L := ⟨h.num, fun k hk => by
  obtain ⟨b, off, e, hlt, hc⟩ := h.cells k hk
  exact ⟨b, off, e, hlt, fun i hi => (hc i hi).below hlt hb⟩⟩
theorem more (h : IsEnts w B A L) (hB : B ≤ B') : IsEnts w B' A L := ⟨h.num, fun k hk => by
  obtain ⟨b, off, e, hlt, hc⟩ := h.cells k hk
  refine ⟨b, off, e, by omega, fun i hi => ?_⟩
  obtain ⟨A, c, h0, h1, h2, h3, h4⟩ := hc i hi
  exact ⟨A, c, h0, h1, h2, h3.more hB, h4⟩⟩
theorem drewN (h : IsEnts w B A L) (n : Nat) : IsEnts (w.drewN n) B A L := h.below (below_drewN (Below.refl _ _) n)
theorem drew (h : IsEnts w B A L) : IsEnts w.drew B A L := h.below (Below.refl _ _).drew
theorem take (h : IsEnts w B A L) (n : Nat) : IsEnts w B A (L.take n) := ⟨fun e he => h.num e (List.mem_of_mem_take he), fun k hk => by
  have hk' : k < L.length := by rw [List.length_take] at hk; omega
  obtain ⟨b, off, e, hlt, hc⟩ := h.cells k hk'
  refine ⟨b, off, e, hlt, fun i hi => ?_⟩
  have hi' : i < L.length := by rw [List.length_take] at hi; omega
  rw [List.getElem_take]
  exact hc i hi'⟩
theorem few (h : IsEnts w B A L) (k : Nat) (hk : k < L.length) : L[k].d.length ≤ maxLen := by
  obtain ⟨b, off, _, _, hc⟩ := h.cells k hk
  obtain ⟨_, _, _, _, _, _, h4, _⟩ := hc k hk
  omega
end IsEnts
structure El where
  e : Rl.En
  A : Option Addr
  c : Nat
def cellsE (q : El) : List Value := [.int .i64 q.e.t, .int .i64 q.e.k, .slice q.A q.e.d.length q.c]
theorem cellsE_one (y : El) : ∀ u ∈ cellsE y, u.oneCell' = true := by
  intro u hu
  simp [cellsE] at hu
  rcases hu with rfl | rfl | rfl <;> rfl
theorem info_entry : (Tryz.prog.info? 33).map (fun i => (i.zero, i.size, i.bytes)) = some (some (.agg #[.int .i64 0, .int .i64 0, .slice none 0 0]), 3, 40) := by kernel_rfl
theorem OwnsB.turned {e : TypeId} {w w' : World} {S : Nat → Prop} {base c : Nat} {A : Option Addr} {l : List Nat} (h : OwnsB e w base A c l) (ht : Turned S w w') (hd : ∀ k, blk A = some k → ¬ S k) : OwnsB e w' base A c l :=
  ⟨h.small, ownsRow_turned h.row ht (fun k hk => hd k (by rw [← ownBlock_slice A l.length c]; exact hk))⟩
theorem OwnsB.ne {e : TypeId} {w : World} {base c g : Nat} {A : Option Addr} {l : List Nat} {cs : Array Value} {t : TypeId} (h : OwnsB e w base A c l) (hg : w.heap[g]? = some (.cells cs t (0, 0))) (hne : e ≠ t) : blk A ≠ some g := by
  intro hk
  rcases h.row.2 with ⟨h0, _⟩ | ⟨g', cap, cur, hv, _, hh, _⟩
  · injection h0 with h0; rw [h0] at hk; cases hk
  · have hA : A = some ⟨g', 0, none⟩ := by injection hv
    rw [hA] at hk
    obtain rfl : g' = g := by injection hk
    rw [hh] at hg
    exact hne (Obj.cells.inj (Option.some.inj hg)).2.1
theorem OwnsB.room {e : TypeId} {w : World} {base c : Nat} {A : Option Addr} {l : List Nat} (h : OwnsB e w base A c l) : l.length ≤ c ∧ c ≤ maxLen := by
  refine ⟨h.cap, ?_⟩
  rcases h.row.2 with ⟨h1, _⟩ | ⟨g, cap, cur, h1, _, _, _, h2, _⟩
  · injection h1 with h1 h2 h3; omega
  · injection h1 with h3 h4 h5; omega
def Apart (l : List (Option Nat)) : Prop := l.Pairwise fun x y => ∀ k, x = some k → y ≠ some k
def Bl (B N : Nat) : Nat → Prop := fun k => B ≤ k ∧ k < N
structure EntsAt (w : World) (B N : Nat) (A : Option Addr) (c : Nat) (M : List El) : Prop where
  row : RowIn cellsE 3 33 w (Bl B N) A c M
  own : ∀ q ∈ M, OwnsB 5 w 0 q.A q.c q.e.d ∧ ∀ k, blk q.A = some k → Bl B N k
  apart : Apart (M.map fun q => blk q.A)
  num : ∀ q ∈ M, InInt q.e.t ∧ InInt q.e.k
namespace EntsAt
variable {w w' : World} {B B' N N' : Nat} {A : Option Addr} {c : Nat} {M : List El}
theorem keep {S : Nat → Prop} (h : EntsAt w B N A c M) (ht : Turned S w w') (hs : ∀ k, S k → ¬ Bl B N k) : EntsAt w' B N A c M :=
  ⟨h.row.keep ht (fun k hk hS => hs k hS (h.row.blk k hk)), fun q hq => ⟨(h.own q hq).1.turned ht (fun k hk hS => hs k hS ((h.own q hq).2 k hk)), (h.own q hq).2⟩, h.apart, h.num⟩
theorem below (h : EntsAt w B N A c M) (hb : Below N w w') : EntsAt w' B N A c M :=
  h.keep (S := fun k => N ≤ k) ⟨hb.os, hb.tape, hb.output, hb.size, fun k _ hn => hb.block k (by omega)⟩ (fun k hk hB => by have := hB.2; omega)
theorem wide (h : EntsAt w B N A c M) (hB : B' ≤ B) (hN : N ≤ N') : EntsAt w B' N' A c M :=
  ⟨h.row.mono (fun k hk => ⟨by have := (h.row.blk k hk).1; omega, by have := (h.row.blk k hk).2; omega⟩), fun q hq => ⟨(h.own q hq).1, fun k hk => ⟨by have := ((h.own q hq).2 k hk).1; omega, by have := ((h.own q hq).2 k hk).2; omega⟩⟩, h.apart, h.num⟩
theorem reads (h : EntsAt w B N A c M) : IsEnts w N A (M.map (·.e)) := ⟨fun e he => by
  obtain ⟨q, hq, rfl⟩ := List.mem_map.1 he
  exact h.num q hq, fun k hk => by
  rw [List.length_map] at hk
  obtain ⟨g, hA, hg, hF, _, _⟩ := h.row.get k hk
  refine ⟨g, 0, hA, hF.2, fun i hi => ?_⟩
  rw [List.length_map] at hi
  obtain ⟨g', hA', _, _, hc, _⟩ := h.row.get i hi
  obtain rfl : g = g' := by rw [hA] at hA'; injection hA' with e; injection e
  have ho := h.own M[i] (List.getElem_mem hi)
  rw [List.getElem_map, Nat.zero_add]
  have hr : IsBytes w N M[i].A M[i].e.d := by
    refine ⟨ho.1.small, fun k hk => ?_⟩
    obtain ⟨b, off, e, _, hc⟩ := ho.1.reads.cells k hk
    exact ⟨b, off, e, (ho.2 b (by rw [e]; rfl)).2, hc⟩
  exact ⟨M[i].A, M[i].c, hc 0 (by omega), hc 1 (by omega), hc 2 (by omega), hr, ho.1.room, ho.1.none_⟩⟩
theorem nil (w : World) (B N : Nat) : EntsAt w B N none 0 [] := ⟨RowIn.nil (f := cellsE) (fun _ => rfl) _ _ _, by simp, List.Pairwise.nil, by simp⟩
end EntsAt
def OwnE (w : World) (B N : Nat) (A : Option Addr) (c : Nat) (L : List Rl.En) : Prop := ∃ M : List El, M.map (·.e) = L ∧ EntsAt w B N A c M
namespace OwnE
variable {w w' : World} {B B' N N' : Nat} {A : Option Addr} {c : Nat} {L : List Rl.En}
theorem nil (w : World) (B N : Nat) : OwnE w B N none 0 [] := ⟨[], rfl, EntsAt.nil w B N⟩
theorem keep {S : Nat → Prop} (h : OwnE w B N A c L) (ht : Turned S w w') (hs : ∀ k, S k → ¬ Bl B N k) : OwnE w' B N A c L := by
  obtain ⟨M, h1, h2⟩ := h; exact ⟨M, h1, h2.keep ht hs⟩
theorem below (h : OwnE w B N A c L) (hb : Below N w w') : OwnE w' B N A c L := by
  obtain ⟨M, h1, h2⟩ := h; exact ⟨M, h1, h2.below hb⟩
theorem wide (h : OwnE w B N A c L) (hB : B' ≤ B) (hN : N ≤ N') : OwnE w B' N' A c L := by
  obtain ⟨M, h1, h2⟩ := h; exact ⟨M, h1, h2.wide hB hN⟩
theorem reads (h : OwnE w B N A c L) : IsEnts w N A L := by
  obtain ⟨M, h1, h2⟩ := h; rw [← h1]; exact h2.reads
theorem room (h : OwnE w B N A c L) : L.length ≤ c ∧ c ≤ maxLen := by
  obtain ⟨M, h1, h2⟩ := h; rw [← h1, List.length_map]; exact ⟨h2.row.cap, h2.row.capLe⟩
theorem none_ (h : OwnE w B N A c L) : A = none → c = 0 := by
  obtain ⟨M, h1, h2⟩ := h; exact h2.row.none_
end OwnE
theorem ent_put {w w' : World} {B N c c2 c' : Nat} {A A2 A' : Option Addr} {L : List Rl.En} {M : List El} (hM : M.map (·.e) = L) (h : EntsAt w B N A c M) (hBN : B ≤ N) (hN : N ≤ w.heap.size) (x : Rl.En) (hb : OwnsB 5 w N A' c' x.d) (hx : InInt x.t ∧ InInt x.k)
    (hrow : RowIn cellsE 3 33 w' (fun k => Bl B N k ∨ w.heap.size ≤ k) A2 c2 (M ++ [⟨x, A', c'⟩])) (hg : w.grownBy w' (blk A)) :
    OwnE w' B w'.heap.size A2 c2 (L ++ [x]) ∧ Below B w w' := by
  have hT : Turned (fun k => blk A = some k) w w' := Turned.ofGrown hg (fun k hk => hk)
  have hown : ∀ q : El, OwnsB 5 w 0 q.A q.c q.e.d → OwnsB 5 w' 0 q.A q.c q.e.d := fun q hq => hq.turned hT (fun k hk e => by
    obtain ⟨cur, hc⟩ := h.row.tag e
    exact hq.ne hc (by decide) hk)
  refine ⟨⟨M ++ [⟨x, A', c'⟩], by rw [List.map_append, hM]; rfl, ?_, ?_, ?_, ?_⟩, below_grown hg (by omega) (fun k hk => (h.row.blk k hk).1)⟩
  · refine hrow.mono (fun k hk => ⟨?_, hrow.lt k hk⟩)
    rcases hrow.blk k hk with e | e
    · exact e.1
    · omega
  · intro q hq
    rcases List.mem_append.1 hq with hq | hq
    · refine ⟨hown q (h.own q hq).1, fun k hk => ⟨((h.own q hq).2 k hk).1, ?_⟩⟩
      have := ((h.own q hq).2 k hk).2
      have := hT.size
      omega
    · obtain rfl := List.mem_singleton.1 hq
      have h0 : OwnsB 5 w 0 A' c' x.d := hb.weaken (Nat.zero_le _)
      refine ⟨hown _ h0, fun k hk => ?_⟩
      have := hb.blkLt k hk
      have := hT.size
      exact ⟨by omega, by omega⟩
  · unfold Apart
    rw [List.map_append, List.pairwise_append]
    refine ⟨h.apart, List.pairwise_singleton _ _, fun a ha b hb' k hk e => ?_⟩
    obtain ⟨q, hq, rfl⟩ := List.mem_map.1 ha
    obtain ⟨q', hq', rfl⟩ := List.mem_map.1 hb'
    obtain rfl := List.mem_singleton.1 hq'
    have h1 := ((h.own q hq).2 k hk).2
    have h2 := (hb.blkLt k e).1
    omega
  · intro q hq
    rcases List.mem_append.1 hq with hq | hq
    · exact h.num q hq
    · obtain rfl := List.mem_singleton.1 hq; exact hx
theorem step_append_ent {w : World} {ops : Array Oper} {o : Oper} {a : Act} {K : Act → World → Prop} {Q : Exit → Act → World → Prop} {E : Prop} (hgd : o.guard = none) (s y : Operand)
    (ho : o.op = .call { callee := .builtin .append, args := #[s, y], argTypes := #[34, 34] }) {B N c : Nat} {A : Option Addr} {L : List Rl.En} (h : OwnE w B N A c L) (hBN : B ≤ N) (hN : N ≤ w.heap.size)
    (n : Nat) (hn : L.length = n) (hs : a.eval s = .slice A n c) (x : Rl.En) (hx : InInt x.t ∧ InInt x.k) (A' : Option Addr) (c' : Nat) (hb : OwnsB 5 w N A' c' x.d) (ad : Addr) (ce : Nat) (hy : a.eval y = .slice (some ad) 1 ce) (hc : ∀ k, k < 3 → w.cell? (ad.add k) = (cellsE ⟨x, A', c'⟩)[k]?)
    (hl : n + 1 ≤ 100000)
    (hK : ∀ A2 c2 w', OwnE w' B w'.heap.size A2 c2 (L ++ [x]) → Below B w w' → K (a.put o.dst (.slice A2 (n + 1) c2)) w') :
    if Region.wanted o (yielded ops a.tmps) = true then Oper.wp Tryz.prog o a w K Q else E := by
  obtain ⟨i0, hi, hz0, hz1, hz2⟩ := info_parts info_entry
  obtain ⟨M, hM, hE⟩ := h
  exact step_append_row hgd s y 34 ho i0 _ Tryz.underlying34 hi hz0 hz1 hz2 rfl (by decide) hE.row n (by rw [← hn, ← hM, List.length_map]) hs ⟨x, A', c'⟩ ad ce hy hc (cellsE_one _) (by omega) hl
    fun A2 c2 w' h1 h2 _ => by
      obtain ⟨h4, h5⟩ := ent_put hM hE hBN hN x hb hx h1 h2
      exact hK A2 c2 w' h4 h5
theorem cellsE_new (w : World) (N : Nat) (h : w.heap.size = N) (q : El) (t : TypeId) (k : Nat) : (w.alloc (.cells #[.int .i64 q.e.t, .int .i64 q.e.k, .slice q.A q.e.d.length q.c] t)).cell? ((⟨N, 0, none⟩ : Addr).add k) = (cellsE q)[k]? := by
  subst h
  rw [add_off, Nat.zero_add, cell_of_row _ w.heap.size k #[.int .i64 q.e.t, .int .i64 q.e.k, .slice q.A q.e.d.length q.c] t (0, 0) (heap_alloc_new w _)]
  exact List.getElem?_toArray (xs := cellsE q) ..
end Go.Proofs.YtfkjahpcpmcefaaGreat
namespace Go.Proofs.YtfkjahpcpmcefaaGreat
open Go.RowKit
theorem take_succ_eq (l m : List Nat) (k : Nat) (h1 : k < l.length) (h2 : k < m.length) (h : l.take k = m.take k) (he : l[k] = m[k]) : l.take (k + 1) = m.take (k + 1) := by
  rw [List.take_succ_eq_append_getElem h1, List.take_succ_eq_append_getElem h2, h, he]
set_option maxHeartbeats 400000 in
theorem same_any (B B' : Nat) (A A' : Option Addr) (c c' : Nat) (l m : List Nat) (hl : l.length ≤ maxLen) (hm : m.length ≤ maxLen) (w : World) (h : IsBytes w B A l) (h' : IsBytes w B' A' m) :
    Calls Tryz.prog 60 #[.slice A l.length c, .slice A' m.length c'] w fun e w' => e = .returned (.bool (decide (l = m))) ∧ ∃ n, w' = w.drewN n := by
  unfold maxLen at hl hm
  by_cases hne : l.length = m.length
  · have hb : ((l.length : Int) != (m.length : Int)) = false := by rw [bne_eq_false_iff_eq]; omega
    have HN := hid hne
    clear hne
    go_enter Tryz.func60, Tryz.ntmps60
    go_wp2
    go_loopw [5] (fun i wr => ∃ k n : Nat, k ≤ l.length ∧ i = .int .i64 k ∧ wr = w.drewN n ∧ Hid (l.take k = m.take k)) (fun i _ => l.length - (RowKit.intOf i).toNat)
    case atStart => exact ⟨0, 0, by omega, rfl, rfl, hid rfl⟩
    case round =>
      obtain ⟨k, n, hk, rfl, rfl, hs⟩ := hrel
      by_cases hlt : k < l.length
      · have hlt' : k < m.length := by have := HN.out; omega
        obtain ⟨b, off, rfl, _, hc⟩ := h.cells k hlt
        obtain ⟨b', off', rfl, _, hc'⟩ := h'.cells k hlt'
        have hck := hc k hlt
        have hck' := hc' k hlt'
        clear hc hc'
        by_cases he : l[k] = m[k]
        · have hbe : (((l[k] : Nat) : Int) != ((m[k] : Nat) : Int)) = false := by rw [bne_eq_false_iff_eq]; omega
          have HE := hid he
          clear he
          go_wp2
          go_quiet (fail)
          go_wp2
          go_roundw
          case rel => exact ⟨k + 1, _, by omega, by go_num, rfl, hid (take_succ_eq l m k hlt hlt' hs.out HE.out)⟩
          case measure => simp [RowKit.intOf]; omega
        · have hbe : (((l[k] : Nat) : Int) != ((m[k] : Nat) : Int)) = true := by rw [bne_iff_ne]; omega
          have hfin : decide (l = m) = false := by
            rw [decide_eq_false_iff_not]; rintro rfl; exact he rfl
          have HF := hid hfin
          clear he hfin
          go_wp2
          go_quiet (fail)
          go_wp2
          go_ret
          exact ⟨by rw [HF.out]; rfl, _, by rw [World.drewN_drewN]⟩
      · obtain rfl : k = l.length := by omega
        have hfin : decide (l = m) = true := by
          rw [decide_eq_true_iff]
          have e := hs.out
          rw [List.take_length, HN.out, List.take_length] at e
          exact e
        have HF := hid hfin
        clear hfin
        go_wp2
        go_ret
        exact ⟨by rw [HF.out]; rfl, _, rfl⟩
  · have hb : ((l.length : Int) != (m.length : Int)) = true := by rw [bne_iff_ne]; omega
    have hfin : decide (l = m) = false := by
      rw [decide_eq_false_iff_not]; rintro rfl; exact hne rfl
    have HF := hid hfin
    clear hfin hne
    go_enter Tryz.func60, Tryz.ntmps60
    go_wp2
    go_ret
    exact ⟨by rw [HF.out]; rfl, 0, rfl⟩
theorem info_u8 : (Tryz.prog.info? 5).map (fun i => (i.zero, i.size, i.bytes)) = some (some (.int .u8 0), 1, 1) := by kernel_rfl
theorem bytes_snoc (l : List Nat) (k : Nat) (h : k < l.length) : bytes (l.take k) ++ [Value.int .u8 (l[k] : Nat)] = bytes (l.take (k + 1)) := by
  unfold bytes; rw [List.take_succ_eq_append_getElem h, List.map_append]; rfl
theorem same_N (B B' : Nat) (A A' : Option Addr) (c c' : Nat) (l m : List Nat) (n k : Nat) (hn : l.length = n) (hk : m.length = k) (hl : n ≤ maxLen) (hm : k ≤ maxLen) (w : World) (h : IsBytes w B A l) (h' : IsBytes w B' A' m) :
    Calls Tryz.prog 60 #[.slice A n c, .slice A' k c'] w fun e w' => e = .returned (.bool (decide (l = m))) ∧ ∃ j, w' = w.drewN j := by
  subst hn; subst hk; exact same_any B B' A A' c c' l m hl hm w h h'
theorem same_T (B B' : Nat) (A A' : Option Addr) (c c' : Nat) (l : List Nat) (n : Nat) (hn : l.length = n) (hl : n ≤ maxLen) (w : World) (h : IsBytes w B A l) (h' : IsBytes w B' A' l) :
    Calls Tryz.prog 60 #[.slice A n c, .slice A' n c'] w fun e w' => e = .returned (.bool true) ∧ ∃ j, w' = w.drewN j :=
  (same_N B B' A A' c c' l l n n hn hn hl hl w h h').mono fun _ _ ⟨h1, h2⟩ => ⟨by rw [h1, decide_eq_true rfl], h2⟩
end Go.Proofs.YtfkjahpcpmcefaaGreat
namespace Go.Proofs.YtfkjahpcpmcefaaGreat
open Go.RowKit
structure Rdr (w : World) (g : Nat) (s : Pk.St) : Prop where
  small : s.small
  ok : s.ok
  at_ : ∃ A c, w.heap[g]? = some (.cells #[.slice A s.rest.length c, .bool s.bad] 138 (0, 0)) ∧ IsBytes w g A s.rest ∧ s.rest.length ≤ c ∧ c ≤ maxLen ∧ (A = none → c = 0)
theorem row_cell {w : World} {g : Nat} {cs : Array Value} {t : TypeId} (h : w.heap[g]? = some (.cells cs t (0, 0))) (i : Nat) : w.cell? ⟨g, i, none⟩ = cs[i]? := cell_of_row w g i cs t (0, 0) h
theorem row_free {w : World} {g : Nat} {cs : Array Value} {t : TypeId} (h : w.heap[g]? = some (.cells cs t (0, 0))) (i : Nat) : w.frozen? ⟨g, i, none⟩ = false := by simp [World.frozen?, h]
theorem row_lt {w : World} {g : Nat} {o : Obj} (h : w.heap[g]? = some o) : g < w.heap.size := by
  rcases Nat.lt_or_ge g w.heap.size with hlt | hge
  · exact hlt
  · rw [Array.getElem?_eq_none hge] at h; cases h
theorem row_set {w : World} {g : Nat} {cs : Array Value} {t : TypeId} (h : w.heap[g]? = some (.cells cs t (0, 0))) (i : Nat) (u : Value) :
    (w.setCell ⟨g, i, none⟩ u).heap[g]? = some (.cells (cs.setIfInBounds i u) t (0, 0)) := by
  simp [World.setCell, Array.getElem?_modify, h]
namespace Rdr
variable {w w' : World} {g : Nat} {s : Pk.St}
theorem lt (h : Rdr w g s) : g < w.heap.size := by obtain ⟨A, c, h1, _⟩ := h.at_; exact row_lt h1
theorem below (h : Rdr w g s) (hb : Below (g + 1) w w') : Rdr w' g s := by
  obtain ⟨A, c, h1, h2, h3⟩ := h.at_
  exact ⟨h.small, h.ok, A, c, (hb.block g (by omega)).trans h1, h2.below (hb.mono (by omega)), h3⟩
theorem drewN (h : Rdr w g s) (n : Nat) : Rdr (w.drewN n) g s := h.below (below_drewN (Below.refl _ _) n)
end Rdr
theorem rdr_gone {w' : World} {g : Nat} (h : w'.heap[g]? = some (.cells #[.slice none 0 0, .bool true] 138 (0, 0))) : Rdr w' g Pk.gone :=
  ⟨Pk.gone_small, Pk.gone_ok, none, 0, h, IsBytes.nil, Nat.le_refl _, Nat.zero_le _, fun _ => rfl⟩
theorem IsBytes.drop {w : World} {B : Nat} {ad : Addr} {l : List Nat} (h : IsBytes w B (some ad) l) (m : Nat) (hm : m < l.length) : IsBytes w B (some (ad.add m)) (l.drop m) := by
  refine ⟨fun x hx => h.small x (List.mem_of_mem_drop hx), fun k hk => ?_⟩
  obtain ⟨b, off, e, hb, hc⟩ := h.cells m hm
  injection e with e
  subst e
  refine ⟨b, off + m, by rw [add_off], hb, fun i hi => ?_⟩
  rw [List.length_drop] at hi
  rw [List.getElem_drop, Nat.add_assoc]
  exact hc (m + i) (by omega)
theorem IsBytes.put {w : World} {g : Nat} {A : Option Addr} {l : List Nat} (h : IsBytes w g A l) (k : Nat) (u : Value) : IsBytes (w.setCell ⟨g, k, none⟩ u).drew g A l := (h.below ((Below.refl g w).setCell (Nat.le_refl _) _)).drew
theorem Rdr.put {w : World} {g : Nat} {s : Pk.St} {A : Option Addr} {c : Nat} (h : w.heap[g]? = some (.cells #[.slice A s.rest.length c, .bool s.bad] 138 (0, 0)))
    (rest : List Nat) (A' : Option Addr) (n c' : Nat) (hn : rest.length = n) (hb : IsBytes w g A' rest) (hc : n ≤ c') (hm : c' ≤ maxLen) (hnil : A' = none → c' = 0) (hok : s.bad = true → rest = []) :
    Rdr (w.setCell ⟨g, 0, none⟩ (.slice A' n c')).drew g ⟨rest, s.bad⟩ ∧ w.grownBy (w.setCell ⟨g, 0, none⟩ (.slice A' n c')).drew (some g) := by
  subst hn
  refine ⟨⟨hb.small, hok, A', c', (row_set h 0 _), ?_, hc, hm, hnil⟩, grown_drew (grown_setCell _ _ _ _)⟩
  exact (hb.below ((Below.refl g w).setCell (Nat.le_refl _) _)).drew
set_option maxRecDepth 100000 in
set_option maxHeartbeats 400000 in
theorem spoil_rdr (g : Nat) (s : Pk.St) (w : World) (h : Rdr w g s) :
    Calls Tryz.prog 122 #[.pointer (some ⟨g, 0, none⟩)] w fun e w' => e = .returned (.tuple #[]) ∧ Rdr w' g Pk.gone ∧ w.grownBy w' (some g) := by
  obtain ⟨A, c, h1, _, _⟩ := h.at_
  have hc0 : w.cell? ⟨g, 0, none⟩ = some (.slice A s.rest.length c) := row_cell h1 0
  have hc1 : w.cell? ⟨g, 1, none⟩ = some (.bool s.bad) := row_cell h1 1
  have hf0 := row_free h1 0
  have hf1 := row_free h1 1
  have HR : Hid (((w.setCell ⟨g, 0, none⟩ (.slice none 0 0)).setCell ⟨g, 1, none⟩ (.bool true)).heap[g]? = some (.cells #[.slice none 0 0, .bool true] 138 (0, 0))) :=
    row_set (row_set h1 0 _) 1 _
  have HG : Hid (w.grownBy ((w.setCell ⟨g, 0, none⟩ (.slice none 0 0)).setCell ⟨g, 1, none⟩ (.bool true)) (some g)) :=
    (grown_setCell _ _ _ _).trans (grown_setCell _ _ _ _)
  clear h h1
  go_enter Tryz.func122, Tryz.ntmps122
  go_wp2
  go_end0
  exact ⟨rfl, rdr_gone HR.out, HG.out⟩
set_option maxRecDepth 100000 in
set_option maxHeartbeats 800000 in
theorem take_rdr (g : Nat) (s : Pk.St) (n : Int) (hn : InInt n) (w : World) (h : Rdr w g s) :
    Calls Tryz.prog 125 #[.pointer (some ⟨g, 0, none⟩), .int .i64 n] w fun e w' =>
      ∃ A' c', e = .returned (.slice A' (Pk.taken s n).1.length c') ∧ IsBytes w' g A' (Pk.taken s n).1 ∧ (A' = none → c' = 0) ∧ Rdr w' g (Pk.taken s n).2 ∧ w.grownBy w' (some g) := by
  have hn1 := hn.1
  have hn2 := hn.2
  obtain ⟨A, c, h1, h2, h3, h4, h5⟩ := h.at_
  have hc0 : w.cell? ⟨g, 0, none⟩ = some (.slice A s.rest.length c) := row_cell h1 0
  have hc1 : w.cell? ⟨g, 1, none⟩ = some (.bool s.bad) := row_cell h1 1
  have hf0 := row_free h1 0
  have hf1 := row_free h1 1
  unfold maxLen at h4
  by_cases hbad : n < 0 ∨ (s.rest.length : Int) < n
  · have HT : Hid (Pk.taken s n = ([], Pk.gone)) := by unfold Pk.taken; rw [if_pos hbad]; exact hid rfl
    have HS := hid (spoil_rdr g s w h)
    clear h1 h2 hn
    by_cases hneg : n < 0
    · clear hbad
      go_enter Tryz.func125, Tryz.ntmps125
      go_wp2_with fail
      refine HS.out.mono ?_
      rintro e w1 ⟨rfl, hR, hG⟩
      go_wp2_with fail
      go_ret
      rw [HT.out]
      exact ⟨none, 0, rfl, IsBytes.nil, fun _ => rfl, hR, hG⟩
    · have hlt : (s.rest.length : Int) < n := by omega
      clear hbad
      go_enter Tryz.func125, Tryz.ntmps125
      go_wp2_with fail
      refine HS.out.mono ?_
      rintro e w1 ⟨rfl, hR, hG⟩
      go_wp2_with fail
      go_ret
      rw [HT.out]
      exact ⟨none, 0, rfl, IsBytes.nil, fun _ => rfl, hR, hG⟩
  · obtain ⟨m, rfl⟩ : ∃ m : Nat, n = (m : Int) := ⟨n.toNat, by omega⟩
    have hm : m ≤ s.rest.length := by omega
    have HT : Hid (Pk.taken s m = (s.rest.take m, ⟨s.rest.drop m, s.bad⟩)) := by unfold Pk.taken; rw [if_neg hbad]; exact hid rfl
    clear hbad hn
    have hok := h.ok
    clear h
    obtain ⟨rest, bad⟩ := s
    dsimp only at hm h1 hc0 hc1 h2 h3 HT
    rcases A with _ | ad
    · obtain rfl : rest = [] := h2.of_none
      obtain rfl := h5 rfl
      simp only [List.length_nil] at hm h1 hc0 h3
      obtain rfl : m = 0 := by omega
      have HP := hid (Rdr.put (s := ⟨[], bad⟩) h1 [] none 0 0 rfl IsBytes.nil (Nat.le_refl _) (Nat.zero_le _) (fun _ => rfl) (fun _ => rfl))
      clear h1 h2 hok
      go_enter Tryz.func125, Tryz.ntmps125
      go_wp2_with fail
      go_still_tail 19, (by kernel_rfl)
      go_wp2_with fail
      go_ret
      rw [HT.out]
      exact ⟨none, 0, rfl, IsBytes.nil, fun _ => rfl, HP.out⟩
    · have HT1 : Hid (rest.length = m → Rdr (w.setCell ⟨g, 0, none⟩ (.slice (some ad) 0 0)).drew g ⟨rest.drop m, bad⟩ ∧ w.grownBy (w.setCell ⟨g, 0, none⟩ (.slice (some ad) 0 0)).drew (some g)) := fun e => by
        have e2 : rest.drop m = [] := List.drop_of_length_le (by omega)
        rw [e2]
        exact Rdr.put (s := ⟨rest, bad⟩) h1 [] (some ad) 0 0 rfl IsBytes.nil (Nat.le_refl _) (Nat.zero_le _) (fun h => by cases h) (fun _ => rfl)
      have HT2 : Hid (¬ rest.length = m → Rdr (w.setCell ⟨g, 0, none⟩ (.slice (some (ad.add m)) (rest.length - m) (rest.length - m))).drew g ⟨rest.drop m, bad⟩ ∧ w.grownBy (w.setCell ⟨g, 0, none⟩ (.slice (some (ad.add m)) (rest.length - m) (rest.length - m))).drew (some g)) := fun e =>
        Rdr.put (s := ⟨rest, bad⟩) h1 (rest.drop m) (some (ad.add m)) _ _ (by rw [List.length_drop]) (h2.drop m (by omega)) (Nat.le_refl _) (by unfold maxLen; omega) (fun h => by cases h) (fun hb => by have : rest = [] := hok hb; rw [this]; simp)
      have HB : Hid (IsBytes w g (some ad) (rest.take m)) := h2.take m
      have HL : Hid ((rest.take m).length = m) := by show _ = _; rw [List.length_take]; omega
      clear h1 h2 hok
      go_enter Tryz.func125, Tryz.ntmps125
      go_wp2_with fail
      go_still_tail 19, (by kernel_rfl)
      go_wp2_with fail
      all_goals
        go_ret
        rw [HT.out]
        first
          | exact ⟨some ad, m, ret_len HL.out.symm, HB.out.put _ _, (fun h => by cases h), HT2.out (by omega)⟩
          | exact ⟨some ad, m, ret_len HL.out.symm, HB.out.put _ _, (fun h => by cases h), HT1.out (by omega)⟩
end Go.Proofs.YtfkjahpcpmcefaaGreat
namespace Go.Proofs.YtfkjahpcpmcefaaGreat.Im
open Go.RowKit
open Rl (En Lg)
open Qu (Cf)
set_option maxRecDepth 100000
set_option linter.unusedVariables false
structure Ad where
  e : Option Addr
  ce : Nat
  o : Option Addr
  co : Nat
  n : Option Addr
  cn : Nat
  l : Option Addr
  cl : Nat
  s : Option Addr
  cs : Nat
def A0 : Ad := ⟨none, 0, none, 0, none, 0, none, 0, none, 0⟩
def Room (n c : Nat) (A : Option Addr) : Prop := (n ≤ c ∧ c ≤ maxLen) ∧ (A = none → c = 0)
structure IsPt (w : World) (B : Nat) (p : Pt) (a : Ad) : Prop where
  es : IsEnts w B a.e p.log.es
  o : IsInts w B a.o p.cf.old
  n : IsInts w B a.n p.cf.new
  l : IsInts w B a.l p.cf.lrn
  s : IsBytes w B a.s p.sn
  re : Room p.log.es.length a.ce a.e
  ro : Room p.cf.old.length a.co a.o
  rn : Room p.cf.new.length a.cn a.n
  rl : Room p.cf.lrn.length a.cl a.l
  rs : Room p.sn.length a.cs a.s
  num : InInt p.log.base ∧ InInt p.log.term
namespace IsPt
variable {w w' : World} {B B' : Nat} {p : Pt} {a : Ad}
theorem below (h : IsPt w B p a) (hb : Below B w w') : IsPt w' B p a := ⟨h.es.below hb, h.o.below hb, h.n.below hb, h.l.below hb, h.s.below hb, h.re, h.ro, h.rn, h.rl, h.rs, h.num⟩
theorem more (h : IsPt w B p a) (hB : B ≤ B') : IsPt w B' p a := ⟨h.es.more hB, h.o.more hB, h.n.more hB, h.l.more hB, h.s.more hB, h.re, h.ro, h.rn, h.rl, h.rs, h.num⟩
theorem low (h : IsPt w w.heap.size p a) (hb : Below w.heap.size w w') : IsPt w' w'.heap.size p a := (h.below hb).more hb.size
end IsPt
structure Hq where
  h : Hd
  a : Ad
structure Cq where
  c : Ch
  a : Ad
def cellsH (q : Hq) : List Value := [.int .i64 q.h.g, .int .i64 q.h.t, .int .i64 q.h.v, .int .i64 q.h.p.log.base, .int .i64 q.h.p.log.term, .slice q.a.e q.h.p.log.es.length q.a.ce, .slice q.a.o q.h.p.cf.old.length q.a.co, .slice q.a.n q.h.p.cf.new.length q.a.cn, .slice q.a.l q.h.p.cf.lrn.length q.a.cl, .slice q.a.s q.h.p.sn.length q.a.cs]
def cellsV (v : Vt) : List Value := [.int .i64 v.x, .int .i64 v.p, .int .i64 v.r, .int .i64 v.b, .int .i64 v.v]
def cellsC (q : Cq) : List Value := [.int .i64 q.c.k, .int .i64 q.c.g, .int .i64 q.c.t, .int .i64 q.c.v, .int .i64 q.c.f, .int .i64 q.c.p.log.base, .int .i64 q.c.p.log.term, .slice q.a.e q.c.p.log.es.length q.a.ce, .slice q.a.o q.c.p.cf.old.length q.a.co, .slice q.a.n q.c.p.cf.new.length q.a.cn, .slice q.a.l q.c.p.cf.lrn.length q.a.cl, .slice q.a.s q.c.p.sn.length q.a.cs, .int .i64 q.c.a.x, .int .i64 q.c.a.p, .int .i64 q.c.a.r, .int .i64 q.c.a.b, .int .i64 q.c.a.v]
structure IsRow {α : Type} (f : α → List Value) (size : Nat) (w : World) (B : Nat) (A : Option Addr) (L : List α) : Prop where
  at_ : ∀ k, k < L.length → ∃ b off, A = some ⟨b, off, none⟩ ∧ b < B ∧ ∀ i (h : i < L.length), w.rangeAt b (off + i * size) (f L[i])
namespace IsRow
variable {α : Type} {f : α → List Value} {size : Nat} {w w' : World} {B B' : Nat} {A : Option Addr} {L : List α}
theorem nil : IsRow f size w B A ([] : List α) := ⟨fun k h => by simp at h⟩
theorem below (h : IsRow f size w B A L) (hb : Below B w w') : IsRow f size w' B A L := ⟨fun k hk => by
  obtain ⟨b, off, e, hlt, hc⟩ := h.at_ k hk
  exact ⟨b, off, e, hlt, fun i hi j v hv => (hb.cell (p := ⟨b, off + i * size + j, none⟩) hlt).trans (hc i hi j v hv)⟩⟩
theorem more (h : IsRow f size w B A L) (hB : B ≤ B') : IsRow f size w B' A L := ⟨fun k hk => by
  obtain ⟨b, off, e, hlt, hc⟩ := h.at_ k hk
  exact ⟨b, off, e, by omega, hc⟩⟩
end IsRow
structure IsHds (w : World) (B : Nat) (A : Option Addr) (Q : List Hq) : Prop where
  row : IsRow cellsH 10 w B A Q
  pt : ∀ q ∈ Q, IsPt w B q.h.p q.a
  num : ∀ q ∈ Q, InInt q.h.g ∧ InInt q.h.t ∧ InInt q.h.v
structure IsVs (w : World) (B : Nat) (A : Option Addr) (L : List Vt) : Prop where
  row : IsRow cellsV 5 w B A L
  num : ∀ v ∈ L, okV v
structure IsCs (w : World) (B : Nat) (A : Option Addr) (Q : List Cq) : Prop where
  row : IsRow cellsC 17 w B A Q
  pt : ∀ q ∈ Q, IsPt w B q.c.p q.a
  num : ∀ q ∈ Q, (InInt q.c.k ∧ InInt q.c.g ∧ InInt q.c.t ∧ InInt q.c.v ∧ InInt q.c.f) ∧ okV q.c.a
theorem IsHds.below {w w' : World} {B : Nat} {A : Option Addr} {Q : List Hq} (h : IsHds w B A Q) (hb : Below B w w') : IsHds w' B A Q := ⟨h.row.below hb, fun q hq => (h.pt q hq).below hb, h.num⟩
theorem IsHds.more {w : World} {B B' : Nat} {A : Option Addr} {Q : List Hq} (h : IsHds w B A Q) (hB : B ≤ B') : IsHds w B' A Q := ⟨h.row.more hB, fun q hq => (h.pt q hq).more hB, h.num⟩
theorem IsVs.below {w w' : World} {B : Nat} {A : Option Addr} {Q : List Vt} (h : IsVs w B A Q) (hb : Below B w w') : IsVs w' B A Q := ⟨h.row.below hb, h.num⟩
theorem IsVs.more {w : World} {B B' : Nat} {A : Option Addr} {Q : List Vt} (h : IsVs w B A Q) (hB : B ≤ B') : IsVs w B' A Q := ⟨h.row.more hB, h.num⟩
theorem IsCs.below {w w' : World} {B : Nat} {A : Option Addr} {Q : List Cq} (h : IsCs w B A Q) (hb : Below B w w') : IsCs w' B A Q := ⟨h.row.below hb, fun q hq => (h.pt q hq).below hb, h.num⟩
theorem IsCs.more {w : World} {B B' : Nat} {A : Option Addr} {Q : List Cq} (h : IsCs w B A Q) (hB : B ≤ B') : IsCs w B' A Q := ⟨h.row.more hB, fun q hq => (h.pt q hq).more hB, h.num⟩
def ldX (t : TypeId) (a : Value) : Sem Value := Instr.loadAt t a
def stX (t : TypeId) (a v : Value) : Sem Unit := Instr.storeAt t a v
theorem loadAt_hard (a : Value) : Instr.loadAt 38 a = ldX 38 a := rfl
theorem storeAt_hard (a v : Value) : Instr.storeAt 38 a v = stX 38 a v := rfl
theorem info_hard : (Tryz.prog.info? 38).map (·.size) = some 10 := by kernel_rfl
theorem range_row {w : World} {b : Nat} {cs : List Value} {t : TypeId} {fr : Nat × Nat} (h : w.heap[b]? = some (.cells cs.toArray t fr)) : w.rangeAt b 0 cs := fun j v hv => by
  rw [Nat.zero_add, cell_of_row w b j _ _ fr h, List.getElem?_toArray]; exact hv
theorem stNew (w : World) (t : TypeId) (n : Nat) (hi : (Tryz.prog.info? t).map (·.size) = some n) (cs cs' : Array Value) (h : cs.size = n) (h' : cs'.size = n) (h1 : cs'.all (·.oneCell') = true) : (stX t (.pointer (some ⟨w.heap.size, 0, none⟩)) (.agg cs')).run Tryz.prog (w.alloc (.cells cs t)) = .ok () (w.alloc (.cells cs' t)) :=
  run_storeVar_new w _ cs cs' (by rw [hi, h']) (by rw [h, h']) h1
end Go.Proofs.YtfkjahpcpmcefaaGreat.Im
namespace Go.Proofs.YtfkjahpcpmcefaaGreat.Im
open Go.RowKit
set_option maxRecDepth 100000
theorem ldRow {t : TypeId} {n : Nat} {d : TypeDesc} (hi : (Tryz.prog.info? t).map (·.size) = some n) (hu : Tryz.prog.underlying t = some d) (hd : d.isRow = true) {w : World} {b : Nat} {cs : Array Value} {t' : TypeId} {fr : Nat × Nat} (hg : w.heap[b]? = some (.cells cs t' fr)) (h : cs.size = n) : (ldX t (.pointer (some ⟨b, 0, none⟩))).run Tryz.prog w = .ok (.agg cs) w :=
  run_loadVar_row w b t' t cs fr d hg hu (by cases d <;> first | rfl | cases hd) (by rw [hi, h])
theorem stRow {t : TypeId} {n : Nat} (hi : (Tryz.prog.info? t).map (·.size) = some n) {w : World} {b : Nat} {cs cs' : Array Value} {t' : TypeId} (hg : w.heap[b]? = some (.cells cs t' (0, 0))) (h : cs.size = n) (h' : cs'.size = n) (h1 : cs'.all (·.oneCell') = true) : (stX t (.pointer (some ⟨b, 0, none⟩)) (.agg cs')).run Tryz.prog w = .ok () (w.setRow b cs') :=
  run_storeVar_row w b t' t cs cs' hg (by rw [hi, h']) (by rw [h, h']) h1
theorem stSame {t : TypeId} {n : Nat} (hi : (Tryz.prog.info? t).map (·.size) = some n) {w : World} {b : Nat} {cs : Array Value} {t' : TypeId} (hg : w.heap[b]? = some (.cells cs t' (0, 0))) (h : cs.size = n) (h1 : cs.all (·.oneCell') = true) : (stX t (.pointer (some ⟨b, 0, none⟩)) (.agg cs)).run Tryz.prog w = .ok () w := by
  have := stRow hi hg h h h1
  rw [setRow_self w b cs _ _ hg] at this
  exact this
theorem row_turned (w : World) (b : Nat) (cs : Array Value) : Turned (fun k => k = b) w (w.setRow b cs) := ⟨rfl, rfl, rfl, by simp, fun k _ hk => setRow_other w b k cs hk⟩
theorem results_two {fn : Func} {p q : Tmp} {ty : TypeId} {n : Nat} {d : TypeDesc} (h : fn.results = #[.cell p ty, .tmp q]) (hi : (Tryz.prog.info? ty).map (·.size) = some n) (hu : Tryz.prog.underlying ty = some d) (hd : d.isRow = true) (tmps : Array Value) (w : World) (g : Nat) (t : TypeId) (cs : Array Value) (fr : Nat × Nat)
    (hp : tmps.getD p undef = .pointer (some ⟨g, 0, none⟩)) (hg : w.heap[g]? = some (.cells cs t fr)) (hs : cs.size = n) :
    (results fn tmps).run Tryz.prog w = .ok (.tuple #[.agg cs, tmps.getD q undef]) w := by
  have hl := run_loadVar_row w g t ty cs fr _ hg hu (by cases d <;> first | rfl | cases hd) (by rw [hi, hs])
  have hp' : tmps[p]?.getD undef = .pointer (some ⟨g, 0, none⟩) := by simpa using hp
  simp [results, h, hp', asAddr, hl]
theorem loadAt_conf3 (a : Value) : Instr.loadAt 24 a = ldX 24 a := rfl
theorem storeAt_conf3 (a v : Value) : Instr.storeAt 24 a v = stX 24 a v := rfl
theorem info_conf33 : (Tryz.prog.info? 24).map (·.size) = some 3 := by kernel_rfl
end Go.Proofs.YtfkjahpcpmcefaaGreat.Im
namespace Go.Proofs.YtfkjahpcpmcefaaGreat
open Go.RowKit
theorem i64_xor_in (a b : Int) : InInt (bits .xor .i64 a b) := by
  unfold InInt bits IntKind.wrap
  simp [IntKind.signed, IntKind.bits]
  omega
set_option maxHeartbeats 400000 in
theorem spoilInts_any (base : Nat) (A : Option Addr) (c : Nat) (l : List Int) (hl : l.length ≤ maxLen) (w : World) (h : OwnsI 3 w base A c l) :
    Calls Tryz.prog 45 #[.slice A l.length c] w fun e w' => e = .returned (.tuple #[]) ∧ w.grownBy w' (Value.slice A l.length c).ownBlock := by
  unfold maxLen at hl
  go_enter Tryz.func45, Tryz.ntmps45
  go_wp2
  go_loopw [2] (fun i wr => ∃ k : Nat, ∃ L : List Int, k ≤ l.length ∧ i = .int .i64 k ∧ L.length = l.length ∧ OwnsI 3 wr base A c L ∧ w.grownBy wr (Value.slice A l.length c).ownBlock) (fun i _ => l.length - (RowKit.intOf i).toNat)
  case atStart => exact ⟨0, l, by omega, rfl, rfl, h, grown_refl _ _⟩
  case round =>
    clear h
    obtain ⟨k, L, hk, rfl, hL, hown, hgr⟩ := hrel
    have HL := hid hL
    by_cases hlt : k < l.length
    · have hkl : k < L.length := by rw [hL]; exact hlt
      obtain ⟨g, rfl, _, _, hcg, hfg⟩ := hown.at_ hkl
      have hs1 := hown.set_ k (bits .xor .i64 L[k] 77) (i64_xor_in _ _)
      have hg1 : w.grownBy (wr.setCell ⟨g, k, none⟩ (.int .i64 (bits .xor .i64 L[k] 77))) (some g) := grown_trans hgr (grown_setCell _ _ _ _) (fun _ e _ => by injection e with e; rw [e])
      have HS := hid (And.intro hs1 hg1)
      clear hs1 hg1 hown hgr hL
      go_wp2
      go_roundw
      case rel => exact ⟨k + 1, _, by omega, by go_num, by rw [List.length_set]; exact HL.out, HS.out.1, HS.out.2⟩
      case measure => simp [RowKit.intOf]; omega
    · clear hL
      go_wp2
      go_end0
      exact ⟨rfl, hgr⟩
theorem spoilI_N (base : Nat) (A : Option Addr) (c : Nat) (l : List Int) (n : Nat) (hn : l.length = n) (hl : n ≤ maxLen) (w : World) (h : OwnsI 3 w base A c l) :
    Calls Tryz.prog 45 #[.slice A n c] w fun e w' => e = .returned (.tuple #[]) ∧ w.grownBy w' (blk A) := by
  subst hn; rw [← ownBlock_slice A l.length c]; exact spoilInts_any base A c l hl w h
end Go.Proofs.YtfkjahpcpmcefaaGreat
namespace Go.Proofs.YtfkjahpcpmcefaaGreat.Co
open Go Go.RowKit
open Qu (Cf)
set_option maxRecDepth 100000
set_option linter.unusedVariables false
structure M3 where
  a0 : Option Addr
  n0 : Nat
  k0 : Nat
  a1 : Option Addr
  n1 : Nat
  k1 : Nat
  a2 : Option Addr
  n2 : Nat
  k2 : Nat
structure InC (w : World) (B : Nat) (c : Cf) (m : M3) : Prop where
  cis : CIs w B c m.a0 m.a1 m.a2 m.k0 m.k1 m.k2
  e0 : m.n0 = c.old.length
  e1 : m.n1 = c.new.length
  e2 : m.n2 = c.lrn.length
namespace InC
variable {w w' : World} {B B' : Nat} {c : Cf} {m : M3}
theorem below (h : InC w B c m) (hb : Below B w w') : InC w' B c m := ⟨h.cis.below hb, h.e0, h.e1, h.e2⟩
theorem more (h : InC w B c m) (hB : B ≤ B') : InC w B' c m := ⟨h.cis.more hB, h.e0, h.e1, h.e2⟩
theorem drewN (h : InC w B c m) (j : Nat) : InC (w.drewN j) B c m := ⟨h.cis.drewN j, h.e0, h.e1, h.e2⟩
theorem drew (h : InC w B c m) : InC w.drew B c m := h.drewN 1
theorem val (h : InC w B c m) : (.agg #[.slice m.a0 m.n0 m.k0, .slice m.a1 m.n1 m.k1, .slice m.a2 m.n2 m.k2] : Value) = .agg #[.slice m.a0 c.old.length m.k0, .slice m.a1 c.new.length m.k1, .slice m.a2 c.lrn.length m.k2] := by rw [h.e0, h.e1, h.e2]
theorem o (h : InC w B c m) : IsInts w B m.a0 c.old := h.cis.o
theorem n (h : InC w B c m) : IsInts w B m.a1 c.new := h.cis.n
theorem l (h : InC w B c m) : IsInts w B m.a2 c.lrn := h.cis.l
end InC
structure OwnC (w : World) (B N : Nat) (c : Cf) (m : M3) : Prop where
  o : OwnsI 3 w B m.a0 m.k0 c.old
  n : OwnsI 3 w B m.a1 m.k1 c.new
  l : OwnsI 3 w B m.a2 m.k2 c.lrn
  e0 : m.n0 = c.old.length
  e1 : m.n1 = c.new.length
  e2 : m.n2 = c.lrn.length
  b0 : ∀ k, blk m.a0 = some k → k < N
  b1 : ∀ k, blk m.a1 = some k → k < N
  b2 : ∀ k, blk m.a2 = some k → k < N
  d1 : ∀ k, blk m.a0 = some k → blk m.a1 ≠ some k
  d2 : ∀ k, blk m.a0 = some k → blk m.a2 ≠ some k
  d3 : ∀ k, blk m.a1 = some k → blk m.a2 ≠ some k
theorem ownsI_turn {e : TypeId} {w w' : World} {S : Nat → Prop} {base c : Nat} {A : Option Addr} {l : List Int} (h : OwnsI e w base A c l) (ht : Turned S w w') (hd : ∀ k, blk A = some k → ¬ S k) : OwnsI e w' base A c l :=
  ⟨h.small, ownsRow_turned h.row ht (fun k hk => hd k (by rw [← ownBlock_slice A l.length c]; exact hk))⟩
theorem isInts_low {w : World} {B B' : Nat} {A : Option Addr} {l : List Int} (h : IsInts w B A l) (hb : ∀ k, blk A = some k → k < B') : IsInts w B' A l := by
  refine ⟨h.small, fun k hk => ?_⟩
  obtain ⟨b, off, e, _, hc⟩ := h.cells k hk
  exact ⟨b, off, e, hb b (by rw [e]; rfl), hc⟩
namespace OwnC
variable {w w' : World} {B B' N N' : Nat} {c : Cf} {m : M3}
theorem inC (h : OwnC w B N c m) : InC w N c m :=
  ⟨⟨isInts_low h.o.reads h.b0, isInts_low h.n.reads h.b1, isInts_low h.l.reads h.b2, (ownsI_cap h.o).1, (ownsI_cap h.n).1, (ownsI_cap h.l).1, (ownsI_cap h.o).2, (ownsI_cap h.n).2, (ownsI_cap h.l).2⟩, h.e0, h.e1, h.e2⟩
theorem turned {S : Nat → Prop} (h : OwnC w B N c m) (ht : Turned S w w') (hs : ∀ k, S k → ¬ (B ≤ k ∧ k < N)) : OwnC w' B N c m :=
  ⟨ownsI_turn h.o ht (fun k hk e => hs k e ⟨(h.o.blkLt k hk).1, h.b0 k hk⟩), ownsI_turn h.n ht (fun k hk e => hs k e ⟨(h.n.blkLt k hk).1, h.b1 k hk⟩), ownsI_turn h.l ht (fun k hk e => hs k e ⟨(h.l.blkLt k hk).1, h.b2 k hk⟩), h.e0, h.e1, h.e2, h.b0, h.b1, h.b2, h.d1, h.d2, h.d3⟩
theorem below (h : OwnC w B N c m) (hb : Below w.heap.size w w') : OwnC w' B N c m := h.turned (Turned.ofBelow (fun _ => False) hb) (fun _ h => h.elim)
theorem wide (h : OwnC w B N c m) (hB : B' ≤ B) (hN : N ≤ N') : OwnC w B' N' c m :=
  ⟨h.o.weaken hB, h.n.weaken hB, h.l.weaken hB, h.e0, h.e1, h.e2, fun k e => Nat.lt_of_lt_of_le (h.b0 k e) hN, fun k e => Nat.lt_of_lt_of_le (h.b1 k e) hN, fun k e => Nat.lt_of_lt_of_le (h.b2 k e) hN, h.d1, h.d2, h.d3⟩
theorem drewN (h : OwnC w B N c m) (j : Nat) : OwnC (w.drewN j) B N c m := ⟨h.o.drewN j, h.n.drewN j, h.l.drewN j, h.e0, h.e1, h.e2, h.b0, h.b1, h.b2, h.d1, h.d2, h.d3⟩
end OwnC
def mNil : M3 := ⟨none, 0, 0, none, 0, 0, none, 0, 0⟩
theorem ownNil (w : World) (B N : Nat) : OwnC w B N nil mNil :=
  ⟨OwnsI.nil _ _ _, OwnsI.nil _ _ _, OwnsI.nil _ _ _, rfl, rfl, rfl, (fun k e => by cases e), (fun k e => by cases e), (fun k e => by cases e), (fun k e => by cases e), (fun k e => by cases e), (fun k e => by cases e)⟩
def Bx (w : World) (b : Nat) (t : TypeId) (m : M3) : Prop := w.heap[b]? = some (.cells #[.slice m.a0 m.n0 m.k0, .slice m.a1 m.n1 m.k1, .slice m.a2 m.n2 m.k2] t (0, 0))
namespace Bx
variable {w w' : World} {b : Nat} {t : TypeId} {m : M3}
theorem new (w : World) (t : TypeId) (m : M3) : Bx (w.alloc (.cells #[.slice m.a0 m.n0 m.k0, .slice m.a1 m.n1 m.k1, .slice m.a2 m.n2 m.k2] t)) w.heap.size t m := heap_alloc_new w _
theorem lt (h : Bx w b t m) : b < w.heap.size := (Array.getElem?_eq_some_iff.1 h).1
theorem c0 (h : Bx w b t m) : w.cell? ⟨b, 0, none⟩ = some (.slice m.a0 m.n0 m.k0) := cell_of_row w b 0 _ _ _ h
theorem c1 (h : Bx w b t m) : w.cell? ⟨b, 1, none⟩ = some (.slice m.a1 m.n1 m.k1) := cell_of_row w b 1 _ _ _ h
theorem c2 (h : Bx w b t m) : w.cell? ⟨b, 2, none⟩ = some (.slice m.a2 m.n2 m.k2) := cell_of_row w b 2 _ _ _ h
theorem keep (h : Bx w b t m) (hk : w'.heap[b]? = w.heap[b]?) : Bx w' b t m := hk.trans h
theorem below {B : Nat} (h : Bx w b t m) (hb : Below B w w') (hlt : b < B) : Bx w' b t m := h.keep (hb.block b hlt)
theorem turned {S : Nat → Prop} (h : Bx w b t m) (ht : Turned S w w') (hs : ¬ S b) : Bx w' b t m := h.keep (ht.block b h.lt hs)
theorem ld (h : Bx w b t m) : (Im.ldX 24 (.pointer (some ⟨b, 0, none⟩))).run Tryz.prog w = .ok (.agg #[.slice m.a0 m.n0 m.k0, .slice m.a1 m.n1 m.k1, .slice m.a2 m.n2 m.k2]) w := Im.ldRow Im.info_conf33 Tryz.underlying24 rfl h rfl
theorem ldM (h : Bx w b t m) : (Im.ldX 61 (.pointer (some ⟨b, 0, none⟩))).run Tryz.prog w = .ok (.agg #[.slice m.a0 m.n0 m.k0, .slice m.a1 m.n1 m.k1, .slice m.a2 m.n2 m.k2]) w := Im.ldRow (by kernel_rfl) Tryz.underlying61 rfl h rfl
theorem st {m' : M3} (h : Bx w b t m) : (Im.stX 24 (.pointer (some ⟨b, 0, none⟩)) (.agg #[.slice m'.a0 m'.n0 m'.k0, .slice m'.a1 m'.n1 m'.k1, .slice m'.a2 m'.n2 m'.k2])).run Tryz.prog w = .ok () (w.setRow b #[.slice m'.a0 m'.n0 m'.k0, .slice m'.a1 m'.n1 m'.k1, .slice m'.a2 m'.n2 m'.k2]) := Im.stRow Im.info_conf33 h rfl rfl (by simp [Value.oneCell'])
theorem set (h : Bx w b t m) (m' : M3) : Bx (w.setRow b #[.slice m'.a0 m'.n0 m'.k0, .slice m'.a1 m'.n1 m'.k1, .slice m'.a2 m'.n2 m'.k2]) b t m' := setRow_heap w b _ _ _ _ h
theorem tur (w : World) (b : Nat) (m' : M3) : Turned (fun k => k = b) w (w.setRow b #[.slice m'.a0 m'.n0 m'.k0, .slice m'.a1 m'.n1 m'.k1, .slice m'.a2 m'.n2 m'.k2]) := Im.row_turned w b _
end Bx
theorem loadAt_mem (a : Value) : Instr.loadAt 61 a = Im.ldX 61 a := rfl
theorem storeAt_mem (a v : Value) : Instr.storeAt 61 a v = Im.stX 61 a v := rfl
set_option maxHeartbeats 1600000 in
theorem spoil_any (F : Nat → Prop) (B N : Nat) (x : Cf) (m : M3) (w : World) (h : OwnC w B N x m) (hF : ∀ k, B ≤ k → k < N → F k) :
    Calls Tryz.prog 20 #[.agg #[.slice m.a0 m.n0 m.k0, .slice m.a1 m.n1 m.k1, .slice m.a2 m.n2 m.k2]] w fun e w' => e = .returned (.tuple #[]) ∧ Turned F w w' := by
  obtain ⟨wA, hwA⟩ : ∃ wA, wA = w.alloc (.cells #[.slice m.a0 m.n0 m.k0, .slice m.a1 m.n1 m.k1, .slice m.a2 m.n2 m.k2] 24) := ⟨_, rfl⟩
  have hbA : Below w.heap.size w wA := by rw [hwA]; exact (Below.refl _ w).alloc (Nat.le_refl _) _
  have rA : Bx wA w.heap.size 24 m := by rw [hwA]; exact Bx.new _ _ _
  have r0 := (ownsI_cap h.o).2
  have r1 := (ownsI_cap h.n).2
  have r2 := (ownsI_cap h.l).2
  have HP0 := hid (spoilI_N B m.a0 m.k0 x.old m.n0 h.e0.symm (by have := h.e0; omega) wA (h.o.below hbA))
  have HP1 := hid (fun W (g : OwnsI 3 W B m.a1 m.k1 x.new) => spoilI_N B m.a1 m.k1 x.new m.n1 h.e1.symm (by have := h.e1; omega) W g)
  have HP2 := hid (fun W (g : OwnsI 3 W B m.a2 m.k2 x.lrn) => spoilI_N B m.a2 m.k2 x.lrn m.n2 h.e2.symm (by have := h.e2; omega) W g)
  have H0 := hid (And.intro (h.below hbA) (And.intro (Turned.ofBelow F hbA) rA))
  have HL := hid (And.intro h.o.blkLt (And.intro h.n.blkLt h.l.blkLt))
  have HF := hid hF
  have s0 := rA.c0
  rw [hwA] at s0
  clear h r0 r1 r2 hbA rA hF
  go_enter Tryz.func20, Tryz.ntmps20
  go_wp2_with fail
  rw [← hwA]
  clear hwA s0
  refine HP0.out.mono ?_
  rintro e w1 ⟨rfl, hg1⟩
  have H1 : Hid (OwnsI 3 w1 B m.a1 m.k1 x.new ∧ OwnsI 3 w1 B m.a2 m.k2 x.lrn ∧ Turned F w w1 ∧ Bx w1 w.heap.size 24 m) := hid (by
    obtain ⟨h, ht, rA⟩ := H0.out
    have t1 : Turned (fun j => blk m.a0 = some j) wA w1 := Turned.ofGrown hg1 (fun j hj => hj)
    exact ⟨ownsI_turn h.n t1 (fun k hk e => h.d1 k e hk), ownsI_turn h.l t1 (fun k hk e => h.d2 k e hk), ht.trans (t1.mono (fun k hk => HF.out k (h.o.blkLt k hk).1 (h.b0 k hk))), rA.turned t1 (fun e => by have := (HL.out.1 _ e).2; omega)⟩)
  have HQ1 := hid (HP1.out w1 H1.out.1)
  have s1 := H1.out.2.2.2.c1
  clear hg1 HP0 HP1
  go_wp2_with fail
  refine HQ1.out.mono ?_
  rintro e w2 ⟨rfl, hg2⟩
  have H2 : Hid (OwnsI 3 w2 B m.a2 m.k2 x.lrn ∧ Turned F w w2 ∧ Bx w2 w.heap.size 24 m) := hid (by
    obtain ⟨h, ht, rA⟩ := H0.out
    have t1 : Turned (fun j => blk m.a1 = some j) w1 w2 := Turned.ofGrown hg2 (fun j hj => hj)
    exact ⟨ownsI_turn H1.out.2.1 t1 (fun k hk e => h.d3 k e hk), H1.out.2.2.1.trans (t1.mono (fun k hk => HF.out k (h.n.blkLt k hk).1 (h.b1 k hk))), H1.out.2.2.2.turned t1 (fun e => by have := (HL.out.2.1 _ e).2; omega)⟩)
  have HQ2 := hid (HP2.out w2 H2.out.1)
  have s2 := H2.out.2.2.c2
  clear hg2 HP2 HQ1 s1
  go_wp2_with fail
  refine HQ2.out.mono ?_
  rintro e w3 ⟨rfl, hg3⟩
  have H3 : Hid (Turned F w w3) := hid (H2.out.2.1.trans (Turned.ofGrown hg3 (fun j hj => HF.out j (H0.out.1.l.blkLt j hj).1 (H0.out.1.b2 j hj))))
  clear hg3 HQ2 H2 H1 s2
  go_wp2_with fail
  go_end0
  exact ⟨rfl, H3.out⟩
end Go.Proofs.YtfkjahpcpmcefaaGreat.Co
namespace Go.Proofs.YtfkjahpcpmcefaaGreat.Co
open Go Go.RowKit
open Qu (Cf)
set_option maxRecDepth 100000
set_option linter.unusedVariables false
attribute [local go_sem] Oper.semAt_some
def dn {m : Nat} (k : Nat) : List (Fin m) := (List.finRange m).reverse.take k
theorem dn_length {m : Nat} (k : Nat) (h : k ≤ m) : (dn k : List (Fin m)).length = k := by simp [dn, h]
theorem dn_succ {m : Nat} (k : Nat) (h : k < m) : (dn (k + 1) : List (Fin m)) = dn k ++ [⟨m - 1 - k, by omega⟩] := by
  unfold dn
  rw [List.take_succ_eq_append_getElem (by simpa using h)]
  simp
theorem dn_all {m : Nat} : (dn m : List (Fin m)) = (List.finRange m).reverse := by
  unfold dn; rw [List.take_of_length_le (by simp)]
structure EvAt (W : World) (n₀ : Nat) (A : Option Addr) (m : Nat) (T K : Nat → Int) (D : Nat → Value) : Prop where
  at_ : ∀ x, x < m → ∃ b off, A = some ⟨b, off, none⟩ ∧ b < n₀ ∧ W.cell? ⟨b, off + x * 3, none⟩ = some (.int .i64 (T x)) ∧ W.cell? ⟨b, off + x * 3 + 1, none⟩ = some (.int .i64 (K x)) ∧ W.cell? ⟨b, off + x * 3 + 2, none⟩ = some (D x)
theorem EvAt.below {W W' : World} {n₀ m : Nat} {A : Option Addr} {T K : Nat → Int} {D : Nat → Value} (h : EvAt W n₀ A m T K D) (hb : Below n₀ W W') : EvAt W' n₀ A m T K D :=
  ⟨fun x hx => by
    obtain ⟨b, off, e, hlt, h1, h2, h3⟩ := h.at_ x hx
    exact ⟨b, off, e, hlt, (hb.cell (p := ⟨b, _, none⟩) hlt).trans h1, (hb.cell (p := ⟨b, _, none⟩) hlt).trans h2, (hb.cell (p := ⟨b, _, none⟩) hlt).trans h3⟩⟩
def encB (T K : Nat → Int) (D : Nat → Value) {m : Nat} (x : Fin m) : Array Value := #[.int .i64 (x.1 : Int), .agg #[.int .i64 (T x.1), .int .i64 (K x.1), D x.1]]
theorem backward_any (A : Option Addr) (n c : Nat) (w : World) :
    Calls Tryz.prog 55 #[.slice A n c] w fun e w' => e = .returned (.func (.func 80) #[] #[.pointer (some ⟨w.heap.size, 0, none⟩)]) ∧ w' = w.alloc (.cells #[.slice A n c] 34) := by
  have hmf : ∀ (fn : Fn) (first cap : Array Value) (w : World), (Instr.makeFunc fn first cap).run Tryz.prog w = .ok (.func fn first cap) w := fun _ _ _ _ => rfl
  go_enter Tryz.func55, Tryz.ntmps55
  go_wp2_with fail
  go_ret
  exact ⟨rfl, rfl⟩
set_option maxHeartbeats 2000000 in
theorem back1_in (kk l Bx n₀ : Nat) (A : Option Addr) (m c : Nat) (hm : m ≤ 100000) (hmc : m ≤ c) (hcm : c ≤ maxLen) (T K : Nat → Int) (D : Nat → Value) (J Jx : List (Fin m) → World → Prop)
    (hY : ∀ pre x W, J pre W → pre.length < m → YieldAt Fence.wide kk Tryz.prog l (encB T K D x) W fun e W' => (e = .returned (.bool true) ∧ J (pre ++ [x]) W' ∧ Below n₀ W W') ∨ (e = .returned (.bool false) ∧ Jx (pre ++ [x]) W'))
    (W : World) (hB : W.cell? ⟨Bx, 0, none⟩ = some (.slice A m c)) (hBn : Bx < n₀) (hE : EvAt W n₀ A m T K D) (h0 : J [] W) :
    CallsIn Fence.wide (kk + 1) Tryz.prog 80 #[.func (.yield l) #[] #[], .pointer (some ⟨Bx, 0, none⟩)] W fun e W' => (∃ v, e = .returned v) ∧
      ((∃ ys, ys = (List.finRange m).reverse ∧ J ys W') ∨ (∃ pre, (∃ k, k ≤ m ∧ pre = dn k) ∧ Jx pre W')) := by
  unfold maxLen at hcm
  have HY := hid hY
  have HJ := hid h0
  have HE := hid hE
  have HB := hid hB
  clear hY h0 hE
  refine callsIn_of_wp Tryz.func80 rfl trivial ?_
  simp only [Tryz.ntmps80, List.size_toArray, List.length_cons, List.length_nil, Nat.reduceAdd, Nat.reduceSub, Array.replicate_succ, Array.replicate_zero, List.push_toArray, List.append_toArray, List.nil_append, List.cons_append]
  gi_wp2
  gi_loopw [3] (fun i wr => ∃ k : Nat, k ≤ m ∧ i = .int .i64 ((m : Int) - 1 - (k : Int)) ∧ Hid (J (dn k) wr ∧ EvAt wr n₀ A m T K D ∧ wr.cell? ⟨Bx, 0, none⟩ = some (.slice A m c))) (fun i _ => (RowKit.intOf i + 1).toNat)
  case atStart => exact ⟨0, by omega, by go_num, hid ⟨HJ.out, HE.out, HB.out⟩⟩
  case round =>
    obtain ⟨k, hk, rfl, HR⟩ := hrel
    by_cases hlt : k < m
    · have ej : (m : Int) - 1 - (k : Int) = ((m - 1 - k : Nat) : Int) := by omega
      have hjm : m - 1 - k < m := by omega
      obtain ⟨x, hx⟩ : ∃ x : Fin m, x = ⟨m - 1 - k, hjm⟩ := ⟨_, rfl⟩
      have hsc := dn_succ k hlt
      rw [← hx] at hsc
      have HSC := hid hsc
      obtain ⟨j, hj⟩ : ∃ j : Nat, j = x.1 := ⟨_, rfl⟩
      have hjk : m - 1 - k = j := by rw [hj, hx]
      obtain ⟨fn, tmps, assign, body, hy, hR⟩ := HY.out (dn k) x wr HR.out.1 (by rw [dn_length k hk]; exact hlt)
      simp only [encB] at hy
      obtain ⟨b, off, rfl, hb, c0, c1, c2⟩ := HR.out.2.1.at_ j (by omega)
      have hcB := HR.out.2.2
      have HKB : Hid (∀ W, Below n₀ wr W → EvAt W n₀ (some ⟨b, off, none⟩) m T K D ∧ W.cell? ⟨Bx, 0, none⟩ = some (.slice (some ⟨b, off, none⟩) m c)) := hid (fun W hb => ⟨HR.out.2.1.below hb, (hb.cell (p := ⟨Bx, 0, none⟩) hBn).trans HR.out.2.2⟩)
      rw [ej, hjk]
      rw [← hj] at hy
      have HJK := hid (And.intro ej hjk)
      have HR2 := hid hR
      clear ej hsc hx hj hR
      have hjc0 : j < m := by omega
      clear hjk
      have hjc : (j : Int) < (m : Int) := by omega
      have hj0 : (0 : Int) ≤ (j : Int) := by omega
      gi_wp2
      refine HR2.out.mono ?_
      rintro e3 W3 (⟨rfl, h3, hk3⟩ | ⟨rfl, h3⟩)
      · have H3 := hid (And.intro h3 (HKB.out W3 hk3))
        clear hy h3 hk3 c0 c1 c2 hcB
        gi_wp2
        go_roundw
        case rel => exact ⟨k + 1, by omega, by have h1 := HJK.out.1; have h2 := HJK.out.2; congr 1; go_num, hid ⟨by rw [HSC.out]; exact H3.out.1, H3.out.2.1, H3.out.2.2⟩⟩
        case measure => simp [RowKit.intOf]
      · have H3 := hid h3
        clear hy h3 c0 c1 c2 hcB
        gi_wp2
        refine bodyPost_ret (results_none rfl _ _ _) rfl ?_
        exact ⟨⟨_, rfl⟩, .inr ⟨dn (k + 1), ⟨k + 1, by omega, rfl⟩, by rw [HSC.out]; exact H3.out⟩⟩
    · obtain rfl : k = m := by omega
      have hge : ¬ (0 : Int) ≤ (k : Int) - 1 - (k : Int) := by omega
      gi_wp2
      go_end0
      refine ⟨⟨_, rfl⟩, .inl ?_⟩
      rw [← dn_all]; exact HR.out.1
end Go.Proofs.YtfkjahpcpmcefaaGreat.Co
namespace Go.Proofs.YtfkjahpcpmcefaaGreat.I
open Go.RowKit
theorem info_i64c : (Tryz.prog.info? 3).map (fun i => (i.zero, i.size, i.bytes)) = some (some (.int .i64 0), 1, 8) := by kernel_rfl
set_option maxHeartbeats 400000 in
theorem iclone_any (B : Nat) (A : Option Addr) (c : Nat) (l : List Int) (hl : l.length * 8 ≤ 140737488354000) (w : World) (h : IsInts w B A l) (hB : B ≤ w.heap.size) (hn : A = none → c = 0) :
    Calls Tryz.prog 64 #[.slice A l.length c] w fun e w' => ∃ A' c', e = .returned (.slice A' l.length c') ∧ OwnsI 3 w' w.heap.size A' c' l ∧ Below w.heap.size w w' := by
  obtain ⟨i0, hi, hz0, hz1, hz2⟩ := info_parts info_i64c
  have hq := fun (w : World) (a : Option Addr) (n c : Nat) => Lib.run_eql_slice_nil (P := Tryz.prog) w 22 3 a n c 0 0 Tryz.underlying22
  rcases A with _ | ad
  · obtain rfl := hn rfl
    obtain rfl := h.of_none
    go_enter Tryz.func64, Tryz.ntmps64
    go_wp2
    go_ret
    exact ⟨none, 0, rfl, OwnsI.nil _ _ _, Below.refl _ _⟩
  · have hbel : Below w.heap.size w (w.alloc (.cells #[] 3)) := (Below.refl _ _).alloc (Nat.le_refl _) _
    have hown : OwnsI 3 (w.alloc (.cells #[] 3)) w.heap.size (some ⟨w.heap.size, 0, none⟩) 0 [] := by
      refine ⟨by simp, by simp [ints], .inr ⟨w.heap.size, 0, _, rfl, Nat.le_refl _, heap_alloc_new w _, Nat.zero_le _, by unfold maxLen; omega, by simp, by simp [ints]⟩⟩
    have hs : IsInts (w.alloc (.cells #[] 3)) w.heap.size (some ad) l := (h.more hB).below hbel
    have HB := hid hbel
    have hsz := hbel.size
    have HS := hid hsz
    clear hbel hsz
    go_enter Tryz.func64, Tryz.ntmps64
    go_wp2_with (at_builtin; refine wpList_append_intsN rfl _ _ 22 rfl w.heap.size 3 i0 Tryz.underlying22 hi hz0 hz1 hz2 (some ⟨w.heap.size, 0, none⟩) 0 [] 0 rfl rfl hown w.heap.size (some ad) c l l.length rfl rfl hn hs l (List.nil_append _) (by omega) HS.out ?_)
    intro A3 c3 w2 hown2 hbel2
    have HB2 := hid (HB.out.trans hbel2)
    clear hown hs hbel2
    go_wp2
    go_ret
    exact ⟨A3, c3, ret_len (by simp), hown2, HB2.out⟩
end Go.Proofs.YtfkjahpcpmcefaaGreat.I
namespace Go.Proofs.YtfkjahpcpmcefaaGreat
open Go.RowKit
set_option maxHeartbeats 400000 in
theorem index_any (B : Nat) (A : Option Addr) (c : Nat) (l : List Int) (hl : l.length ≤ 100000) (x : Int) (w : World) (h : IsInts w B A l) :
    Calls Tryz.prog 86 #[.slice A l.length c, .int .i64 x] w fun e w' => ∃ i : Int, e = .returned (.int .i64 i) ∧ (InInt i ∧ decide (0 ≤ i) = decide (x ∈ l)) ∧ w' = w := by
  go_enter Tryz.func86, Tryz.ntmps86
  go_wp2
  go_loopw [8] (fun i wr => ∃ k : Nat, k ≤ l.length ∧ i = .int .i64 k ∧ wr = w ∧ Hid (x ∉ l.take k)) (fun i _ => l.length - (RowKit.intOf i).toNat)
  case atStart => exact ⟨0, by omega, rfl, rfl, hid (by simp)⟩
  case round =>
    obtain ⟨k, hk, rfl, rfl, hs⟩ := hrel
    by_cases hlt : k < l.length
    · obtain ⟨b, off, rfl, _, hc⟩ := h.cells k hlt
      have hck := hc k hlt
      clear hc h
      by_cases he : x = l[k]
      · have hbe : (x == l[k]) = true := by rw [beq_iff_eq]; exact he
        have HE := hid he
        clear he
        go_wp2
        go_ret
        exact ⟨(k : Int), rfl, ⟨⟨by omega, by omega⟩, by rw [decide_eq_true (show (0 : Int) ≤ k by omega)]; exact (decide_eq_true (by rw [HE.out]; exact List.getElem_mem hlt)).symm⟩, rfl⟩
      · have hbe : (x == l[k]) = false := by rw [beq_eq_false_iff_ne]; exact he
        have HE := hid he
        clear he
        go_wp2
        go_roundw
        case rel =>
          refine ⟨k + 1, by omega, by go_num, trivial, hid ?_⟩
          rw [List.take_succ_eq_append_getElem hlt, List.mem_append, List.mem_singleton]
          rintro (h1 | h1)
          · exact hs.out h1
          · exact HE.out h1
        case measure => simp [RowKit.intOf]; omega
    · obtain rfl : k = l.length := by omega
      go_wp2
      go_ret
      refine ⟨-1, rfl, ⟨⟨by omega, by omega⟩, ?_⟩, rfl⟩
      have := hs.out
      rw [List.take_length] at this
      simp [this]
theorem contains_any (B : Nat) (A : Option Addr) (c : Nat) (l : List Int) (hl : l.length ≤ 100000) (x : Int) (w : World) (h : IsInts w B A l) :
    Calls Tryz.prog 63 #[.slice A l.length c, .int .i64 x] w fun e w' => e = .returned (.bool (decide (x ∈ l))) ∧ w' = w := by
  have hc := hid (index_any B A c l hl x w h)
  clear h
  go_enter Tryz.func63, Tryz.ntmps63
  go_wp2_with fail
  refine hc.out.mono ?_
  rintro e w' ⟨i, rfl, hi, rfl⟩
  have HI := hid hi
  clear hi
  go_wp2
  go_ret
  exact ⟨by rw [← HI.out.2]; rfl, rfl⟩
set_option maxHeartbeats 400000 in
theorem indexFunc_any (g : FuncId) (cb : Array Value) (p : Int → Bool) (w0 : World) (ht0 : Tells g cb p w0) (eg : ∀ args w, (callFunc g args).run Tryz.prog w = .ok (.enter g args) w)
    (B : Nat) (A : Option Addr) (c : Nat) (l : List Int) (hl : l.length ≤ 100000) (w : World) (hw0 : Below w0.heap.size w0 w) (h0 : IsInts w B A l) (hB : B ≤ w.heap.size) :
    Calls Tryz.prog 87 #[.slice A l.length c, .func (.func g) #[] cb] w fun e w' => ∃ i : Int, e = .returned (.int .i64 i) ∧ (InInt i ∧ decide (0 ≤ i) = l.any p) ∧ Below w.heap.size w w' := by
  have ht := hid ht0
  have hw := hid hw0
  have h := hid h0
  clear ht0 hw0 h0
  go_enter Tryz.func87, Tryz.ntmps87
  go_wp2
  go_loopw [8] (fun i wr => ∃ k : Nat, k ≤ l.length ∧ i = .int .i64 k ∧ Hid ((l.take k).any p = false) ∧ Hid (Below w.heap.size w wr)) (fun i _ => l.length - (RowKit.intOf i).toNat)
  case atStart => exact ⟨0, by omega, rfl, hid (by simp), hid (Below.refl _ _)⟩
  case round =>
    obtain ⟨k, hk, rfl, hs, hbel⟩ := hrel
    by_cases hlt : k < l.length
    · obtain ⟨b, off, rfl, hb, hcell⟩ := h.out.cells k hlt
      have hck : wr.cell? ⟨b, off + k, none⟩ = some (.int .i64 l[k]) := (hbel.out.cell (p := ⟨b, off + k, none⟩) (by show b < _; omega)).trans (hcell k hlt)
      have hcall := ht.out l[k] (h.out.small _ (List.getElem_mem hlt)) wr (hw.out.trans (hbel.out.mono hw.out.size))
      clear hcell
      cases hp : p l[k]
      · rw [hp] at hcall
        have HP := hid hp
        clear hp
        go_wp2_with (go_at_fn g; refine hcall.mono ?_; rintro e w' ⟨rfl, hb'⟩)
        go_roundw
        case rel =>
          refine ⟨k + 1, by omega, by go_num, hid ?_, hid (bthen hbel.out hb' hbel.out.size)⟩
          rw [List.take_succ_eq_append_getElem hlt, List.any_append, hs.out, Bool.false_or]
          simpa using HP.out
        case measure => simp [RowKit.intOf]; omega
      · rw [hp] at hcall
        have HP := hid hp
        clear hp
        go_wp2_with (go_at_fn g; refine hcall.mono ?_; rintro e w' ⟨rfl, hb'⟩)
        go_ret
        refine ⟨(k : Int), rfl, ⟨⟨by omega, by omega⟩, ?_⟩, bthen hbel.out hb' hbel.out.size⟩
        rw [decide_eq_true (show (0 : Int) ≤ k by omega)]
        exact (List.any_eq_true.2 ⟨_, List.getElem_mem hlt, HP.out⟩).symm
    · obtain rfl : k = l.length := by omega
      go_wp2
      go_ret
      refine ⟨-1, rfl, ⟨⟨by omega, by omega⟩, ?_⟩, hbel.out⟩
      have := hs.out
      rw [List.take_length] at this
      rw [this]; rfl
theorem containsFunc_any (g : FuncId) (cb : Array Value) (p : Int → Bool) (w0 : World) (ht : Tells g cb p w0) (eg : ∀ args w, (callFunc g args).run Tryz.prog w = .ok (.enter g args) w)
    (B : Nat) (A : Option Addr) (c : Nat) (l : List Int) (hl : l.length ≤ 100000) (w : World) (hw : Below w0.heap.size w0 w) (h : IsInts w B A l) (hB : B ≤ w.heap.size) :
    Calls Tryz.prog 73 #[.slice A l.length c, .func (.func g) #[] cb] w fun e w' => e = .returned (.bool (l.any p)) ∧ Below w.heap.size w w' := by
  have hc := hid (indexFunc_any g cb p w0 ht eg B A c l hl w hw h hB)
  clear h ht hw
  go_enter Tryz.func73, Tryz.ntmps73
  go_wp2_with fail
  refine hc.out.mono ?_
  rintro e w' ⟨i, rfl, hi, hb⟩
  have HI := hid hi
  clear hi
  go_wp2
  go_ret
  exact ⟨by rw [← HI.out.2]; rfl, hb⟩
theorem overlap1_any (b B : Nat) (A : Option Addr) (c : Nat) (l : List Int) (hl : l.length ≤ 100000) (x : Int) (w : World) (hb : w.cell? ⟨b, 0, none⟩ = some (.slice A l.length c)) (h : IsInts w B A l) :
    Calls Tryz.prog 74 #[.int .i64 x, .pointer (some ⟨b, 0, none⟩)] w fun e w' => e = .returned (.bool (decide (x ∈ l))) ∧ w' = w := by
  have hc := hid (contains_any B A c l hl x w h)
  clear h
  go_enter Tryz.func74, Tryz.ntmps74
  go_wp2_with fail
  refine hc.out.mono ?_
  rintro e w' ⟨rfl, rfl⟩
  go_wp2
  go_ret
  exact ⟨rfl, rfl⟩
theorem overlap_any (B : Nat) (A A' : Option Addr) (c c' : Nat) (l m : List Int) (hl : l.length ≤ 100000) (hm : m.length ≤ 100000) (w : World) (h : IsInts w B A l) (h' : IsInts w B A' m) (hB : B ≤ w.heap.size) :
    Calls Tryz.prog 48 #[.slice A l.length c, .slice A' m.length c'] w fun e w' => e = .returned (.bool (l.any fun x => decide (x ∈ m))) ∧ Below w.heap.size w w' := by
  have hbel : Below w.heap.size w (w.alloc (.cells #[.slice A' m.length c'] 22)) := (Below.refl _ _).alloc (Nat.le_refl _) _
  have hcell : (w.alloc (.cells #[.slice A' m.length c'] 22)).cell? ⟨w.heap.size, 0, none⟩ = some (.slice A' m.length c') := cell_of_row _ w.heap.size 0 _ _ _ (heap_alloc_new w _)
  have ht : Tells 74 #[.pointer (some ⟨w.heap.size, 0, none⟩)] (fun x => decide (x ∈ m)) (w.alloc (.cells #[.slice A' m.length c'] 22)) := fun x _ w2 hb2 =>
    (overlap1_any w.heap.size B A' c' m hm x w2 ((hb2.cell (by simp)).trans hcell) ((h'.below (hbel.mono hB)).below (hb2.mono (by simp; omega)))).mono fun e w' ⟨he, hw⟩ => ⟨he, by rw [hw]; exact Below.refl _ _⟩
  have hc := hid (containsFunc_any _ _ _ _ ht (enters_of Tryz.func74 (by kernel_rfl) rfl) B A c l hl _ (Below.refl _ _) (h.below (hbel.mono hB)) (by simp; omega))
  have HB := hid hbel
  clear h h' hbel hcell ht
  go_enter Tryz.func48, Tryz.ntmps48
  go_wp2_with fail
  refine hc.out.mono ?_
  rintro e w' ⟨rfl, hb⟩
  have HB2 := hid hb
  clear hb
  go_wp2
  go_ret
  exact ⟨rfl, HB.out.trans (HB2.out.mono (by simp))⟩
set_option maxHeartbeats 400000 in
theorem ordered_any (B : Nat) (A : Option Addr) (c : Nat) (l : List Int) (hl : l.length ≤ 100000) (w : World) (h : IsInts w B A l) :
    Calls Tryz.prog 47 #[.slice A l.length c] w fun e w' => e = .returned (.bool (Qu.node l)) ∧ w' = w := by
  go_enter Tryz.func47, Tryz.ntmps47
  go_wp2
  go_loopw [3, 8] (fun v i wr => ∃ k : Nat, ∃ y : Int, k ≤ l.length ∧ v = .int .i64 y ∧ i = .int .i64 k ∧ wr = w ∧ 0 ≤ y ∧ Hid (y = Qu.last l k) ∧ Hid (Qu.node (l.take k) = true)) (fun _ i _ => l.length - (RowKit.intOf i).toNat)
  case atStart => exact ⟨0, 0, by omega, rfl, rfl, rfl, by omega, hid (Qu.last_zero l).symm, hid (by simp [Qu.node])⟩
  case round =>
    obtain ⟨k, y, hk, rfl, rfl, rfl, hy, hy0, hs⟩ := hrel
    by_cases hlt : k < l.length
    · obtain ⟨b, off, rfl, _, hc⟩ := h.cells k hlt
      have hck := hc k hlt
      have HST := hid (Qu.node_step_last hlt hs.out)
      have HLS := hid (Qu.last_succ l k hlt)
      clear hc h
      generalize hz : l[k] = z at *
      clear hz
      by_cases h1 : y < z
      · by_cases h2 : z ≤ 7
        · have h1' : ¬ z ≤ y := by omega
          have h2' : ¬ 7 < z := by omega
          go_wp2
          go_roundw
          case rel => exact ⟨k + 1, z, by omega, rfl, by go_num, trivial, by omega, hid HLS.out.symm, hid (by rw [HST.out]; exact decide_eq_true ⟨by rw [← hy0.out]; exact h1, by omega, h2⟩)⟩
          case measure => simp [RowKit.intOf]; omega
        · have h1' : ¬ z ≤ y := by omega
          have h2' : 7 < z := by omega
          go_wp2
          go_ret
          refine ⟨?_, rfl⟩
          rw [Qu.node_false (l := l) (k := k + 1) (by rw [HST.out]; exact decide_eq_false (by rintro ⟨_, _, h⟩; omega))]; rfl
      · have h1' : z ≤ y := by omega
        go_wp2
        go_ret
        refine ⟨?_, rfl⟩
        rw [Qu.node_false (l := l) (k := k + 1) (by rw [HST.out]; exact decide_eq_false (by rintro ⟨h, _⟩; rw [← hy0.out] at h; omega))]; rfl
    · obtain rfl : k = l.length := by omega
      have := hs.out
      rw [List.take_length] at this
      have HF := hid this
      clear this
      go_wp2
      go_ret
      exact ⟨by rw [HF.out]; rfl, rfl⟩
end Go.Proofs.YtfkjahpcpmcefaaGreat
namespace Go.Proofs.YtfkjahpcpmcefaaGreat
open Go.RowKit
theorem under_int : Tryz.prog.underlying 3 = some (.int .i64) := by kernel_rfl
set_option maxRecDepth 100000 in
set_option maxHeartbeats 400000 in
theorem grow_none (n : Nat) (hn : n ≤ 17592186044000) (w : World) :
    Calls Tryz.prog 91 #[.slice none 0 0, .int .i64 (n : Int)] w fun e w' => ∃ A' c', e = .returned (.slice A' 0 c') ∧ OwnsI 3 w' w.heap.size A' c' [] ∧ Below w.heap.size w w' := by
  obtain ⟨i0, hi, hz0, hz1, hz2⟩ := info_parts I.info_int
  by_cases h0 : 0 < n
  · go_enter Tryz.func91, Tryz.ntmps91
    go_wp2_with (at_builtin; refine Lib.wpList_append_run _ rfl _ _ 22 3 rfl (.slice none 0 0) (.int .i64 (n : Int)) rfl rfl _ _ (Lib.run_append_nil_zeros _ 22 3 _ 3 i0 (.int .i64 0) .i64 .i64 Tryz.underlying22 under_int hi hz0 n h0 (by rw [hz1]; decide) (by omega) (by rw [hz2]; omega)) ?_)
    have hcap1 := grownCap_ge w n 0 3
    have hcap2 := grownCap_le_maxLen w n 0 3 (by unfold maxLen; omega)
    obtain ⟨cap, hcap⟩ : ∃ cap, cap = grownCap w n 0 3 := ⟨_, rfl⟩
    rw [← hcap] at hcap1 hcap2 ⊢
    have HO : Hid (OwnsI 3 (w.drew.alloc (.cells (Builtin.zeroCells (Value.int .i64 0).cells n ++ Builtin.zeroCells (Value.int .i64 0).cells (cap - n)) 3)) w.heap.size (some ⟨w.heap.size, 0, none⟩) cap []) := by
      refine ⟨by simp, by simp [ints], .inr ⟨w.heap.size, cap, _, rfl, Nat.le_refl _, heap_alloc_new w.drew _, Nat.zero_le _, hcap2, ?_, by simp [ints]⟩⟩
      rw [Array.size_append, size_zeroCells, size_zeroCells]
      show n * 1 + (cap - n) * 1 = cap * 1
      omega
    have HB : Hid (Below w.heap.size w (w.drew.alloc (.cells (Builtin.zeroCells (Value.int .i64 0).cells n ++ Builtin.zeroCells (Value.int .i64 0).cells (cap - n)) 3))) :=
      (Below.refl _ _).drew.alloc (Nat.le_refl _) _
    unfold maxLen at hcap2
    have HC := hid hcap
    clear hcap
    go_wp2
    go_ret
    exact ⟨_, _, rfl, HO.out, HB.out⟩
  · obtain rfl : n = 0 := by omega
    go_enter Tryz.func91, Tryz.ntmps91
    go_wp2
    go_ret
    exact ⟨none, 0, rfl, OwnsI.nil _ _ _, Below.refl _ _⟩
end Go.Proofs.YtfkjahpcpmcefaaGreat
namespace Go.Proofs.YtfkjahpcpmcefaaGreat
open Go.RowKit Go.Maps Go.Sort Go.Shelf
def sortA_ren : Go.Shelf.Ren := ⟨fun | 5 => 77 | 8 => 93 | 7 => 92 | 19 => 108 | 20 => 109 | 10 => 99 | 11 => 100 | 12 => 101 | 13 => 102 | 14 => 103 | 15 => 104 | 16 => 105 | 17 => 106 | 18 => 107 | 30 => 114 | 31 => 115 | 32 => 116 | 33 => 117 | 34 => 118 | 35 => 119 | 40 => 123 | n => n, fun | 23 => 22 | 25 => 3 | 3 => 3 | 32 => 105 | 22 => 22 | 0 => 0 | 44 => 124 | 46 => 126 | 4 => 4 | 36 => 116 | 35 => 115 | 41 => 121 | 5 => 5 | 9 => 9 | 53 => 131 | 57 => 135 | 63 => 139 | 64 => 140 | n => n, fun n => n⟩
theorem sortA : Go.Proofs.SlLaysM.n5 Tryz.prog sortA_ren := {
  mixed := by kernel_rfl
  f5 := ⟨Tryz.f77.name, by decide, Tryz.func77.trans (congrArg some (by kernel_rfl))⟩
  f7 := ⟨Tryz.f92.name, by decide, Tryz.func92.trans (congrArg some (by kernel_rfl))⟩
  f8 := Tryz.func93.trans (congrArg some (by kernel_rfl))
  f10 := ⟨Tryz.f99.name, by decide, Tryz.func99.trans (congrArg some (by kernel_rfl))⟩
  f11 := ⟨Tryz.f100.name, by decide, Tryz.func100.trans (congrArg some (by kernel_rfl))⟩
  f12 := ⟨Tryz.f101.name, by decide, Tryz.func101.trans (congrArg some (by kernel_rfl))⟩
  f13 := ⟨Tryz.f102.name, by decide, Tryz.func102.trans (congrArg some (by kernel_rfl))⟩
  f14 := ⟨Tryz.f103.name, by decide, Tryz.func103.trans (congrArg some (by kernel_rfl))⟩
  f15 := ⟨Tryz.f104.name, by decide, Tryz.func104.trans (congrArg some (by kernel_rfl))⟩
  f16 := ⟨Tryz.f105.name, by decide, Tryz.func105.trans (congrArg some (by kernel_rfl))⟩
  f17 := ⟨Tryz.f106.name, by decide, Tryz.func106.trans (congrArg some (by kernel_rfl))⟩
  f18 := ⟨Tryz.f107.name, by decide, Tryz.func107.trans (congrArg some (by kernel_rfl))⟩
  f19 := Tryz.func108.trans (congrArg some (by kernel_rfl))
  f20 := Tryz.func109.trans (congrArg some (by kernel_rfl))
  f30 := ⟨Tryz.f114.name, by decide, Tryz.func114.trans (congrArg some (by kernel_rfl))⟩
  f31 := Tryz.func115.trans (congrArg some (by kernel_rfl))
  f32 := Tryz.func116.trans (congrArg some (by kernel_rfl))
  f33 := ⟨Tryz.f117.name, by decide, Tryz.func117.trans (congrArg some (by kernel_rfl))⟩
  f34 := ⟨Tryz.f118.name, by decide, Tryz.func118.trans (congrArg some (by kernel_rfl))⟩
  f35 := ⟨Tryz.f119.name, by decide, Tryz.func119.trans (congrArg some (by kernel_rfl))⟩
  f40 := ⟨Tryz.f123.name, by decide, Tryz.func123.trans (congrArg some (by kernel_rfl))⟩
  t0 := Tryz.underlying0
  a0 := Tryz.isAgg0
  z0 := Tryz.sizeOf0
  v0 := Tryz.zeroValue0
  t3 := Tryz.underlying3
  a3 := Tryz.isAgg3
  z3 := Tryz.sizeOf3
  v3 := Tryz.zeroValue3
  t4 := Tryz.underlying4
  a4 := Tryz.isAgg4
  z4 := Tryz.sizeOf4
  v4 := Tryz.zeroValue4
  t5 := Tryz.underlying5
  a5 := Tryz.isAgg5
  z5 := Tryz.sizeOf5
  v5 := Tryz.zeroValue5
  t9 := Tryz.underlying9
  a9 := Tryz.isAgg9
  z9 := Tryz.sizeOf9
  v9 := Tryz.zeroValue9
  t22 := Tryz.underlying22
  a22 := Tryz.isAgg22
  z22 := Tryz.sizeOf22
  v22 := Tryz.zeroValue22
  t23 := Tryz.underlying22
  a23 := Tryz.isAgg22
  z23 := Tryz.sizeOf22
  v23 := Tryz.zeroValue22
  t25 := Tryz.underlying3
  a25 := Tryz.isAgg3
  z25 := Tryz.sizeOf3
  v25 := Tryz.zeroValue3
  t32 := Tryz.underlying105
  a32 := Tryz.isAgg105
  z32 := Tryz.sizeOf105
  v32 := Tryz.zeroValue105
  t35 := Tryz.underlying115
  a35 := Tryz.isAgg115
  z35 := Tryz.sizeOf115
  v35 := Tryz.zeroValue115
  t36 := Tryz.underlying116
  a36 := Tryz.isAgg116
  z36 := Tryz.sizeOf116
  v36 := Tryz.zeroValue116
  t41 := Tryz.underlying121
  a41 := Tryz.isAgg121
  z41 := Tryz.sizeOf121
  v41 := Tryz.zeroValue121
  t44 := Tryz.underlying124
  a44 := Tryz.isAgg124
  z44 := Tryz.sizeOf124
  v44 := Tryz.zeroValue124
  t46 := Tryz.underlying126
  a46 := Tryz.isAgg126
  z46 := Tryz.sizeOf126
  v46 := Tryz.zeroValue126
  t53 := Tryz.underlying131
  a53 := Tryz.isAgg131
  z53 := Tryz.sizeOf131
  v53 := Tryz.zeroValue131
  t57 := Tryz.underlying135
  a57 := Tryz.isAgg135
  z57 := Tryz.sizeOf135
  v57 := Tryz.zeroValue135
  t63 := Tryz.underlying139
  a63 := Tryz.isAgg139
  z63 := Tryz.sizeOf139
  v63 := Tryz.zeroValue139
  t64 := Tryz.underlying140
  a64 := Tryz.isAgg140
  z64 := Tryz.sizeOf140
  v64 := Tryz.zeroValue140 }
set_option maxRecDepth 100000 in
theorem sort_own (base : Nat) (A : Option Addr) (c : Nat) (l : List Int) (hl : l.length ≤ 17592186044000) (w : World) (h : OwnsI 3 w base A c l) :
    Calls Tryz.prog 77 #[.slice A l.length c] w fun e w' => e = .returned (.tuple #[]) ∧ OwnsI 3 w' base A c (l.mergeSort (fun x y => decide (x ≤ y))) ∧ w.grownBy w' (blk A) := by
  have hsm : ∀ x ∈ l.mergeSort (fun x y => decide (x ≤ y)), InInt x := fun x hx => h.small x ((List.mergeSort_perm l _).mem_iff.1 hx)
  rcases h.row.2 with ⟨hv, h0⟩ | ⟨g, cap, cur, hv, hg, hgb, hc, h2, h3, h4⟩
  · have hl0 : l = [] := List.eq_nil_of_length_eq_zero h0
    subst hl0
    refine (AnyM.slices_Sort_int_none sortA A c w).mono ?_
    rintro e w' ⟨rfl, rfl⟩
    exact ⟨rfl, by simpa using h, grown_refl _ _⟩
  · obtain ⟨rfl, rfl⟩ : A = some ⟨g, 0, none⟩ ∧ c = cap := by injection hv with h1 h2 h3; exact ⟨h1, h3⟩
    have hH : Holds encZ w g 0 l.toArray := holds_of_block_i hgb (by rw [Nat.mul_one] at h4; exact h4)
    refine (AnyM.slices_Sort_int sortA g 0 c l w hH (Array.getElem?_eq_some_iff.1 hgb).1 (by omega)).mono ?_
    rintro e w' ⟨rfl, n, os, rfl⟩
    refine ⟨rfl, ⟨hsm, ?_⟩, grownBy_sorted_i _⟩
    have hlen : (l.mergeSort (fun x y => decide (x ≤ y))).length = l.length := by simp
    rw [hlen]
    exact ownsRow_sorted_i hlen hg hgb hc h2 h3
end Go.Proofs.YtfkjahpcpmcefaaGreat
namespace Go.Proofs.YtfkjahpcpmcefaaGreat
open Go.RowKit Go.Maps Go.Sort Go.Shelf
def compA_ren : Go.Shelf.Ren := ⟨fun | 43 => 78 | n => n, fun | 0 => 0 | 3 => 3 | 4 => 4 | 22 => 22 | 23 => 3 | n => n, fun n => n⟩
theorem compA : Go.Proofs.SlLaysN.n43 Tryz.prog compA_ren := {
  mixed := by kernel_rfl
  f43 := ⟨Tryz.f78.name, by decide, Tryz.func78.trans (congrArg some (by kernel_rfl))⟩
  t0 := Tryz.underlying0
  a0 := Tryz.isAgg0
  z0 := Tryz.sizeOf0
  v0 := Tryz.zeroValue0
  t3 := Tryz.underlying3
  a3 := Tryz.isAgg3
  z3 := Tryz.sizeOf3
  v3 := Tryz.zeroValue3
  t4 := Tryz.underlying4
  a4 := Tryz.isAgg4
  z4 := Tryz.sizeOf4
  v4 := Tryz.zeroValue4
  t22 := Tryz.underlying22
  a22 := Tryz.isAgg22
  z22 := Tryz.sizeOf22
  v22 := Tryz.zeroValue22
  t23 := Tryz.underlying3
  a23 := Tryz.isAgg3
  z23 := Tryz.sizeOf3
  v23 := Tryz.zeroValue3
  i23 := by kernel_rfl }
theorem sub_compact (l : List Int) : ∀ x ∈ Lib.compact l, x ∈ l := by
  intro x hx
  unfold Lib.compact Lib.compactUpTo at hx
  obtain ⟨j, hj, rfl⟩ := List.mem_map.1 hx
  have hj := List.mem_range.1 (List.mem_filter.1 hj).1
  have : l.toArray[j]! = l[j] := by simp [hj]
  rw [this]
  exact List.getElem_mem hj
theorem compact_len (l : List Int) : (Lib.compact l).length ≤ l.length := by
  unfold Lib.compact Lib.compactUpTo
  rw [List.length_map]
  have := List.length_filter_le (Lib.keeps l.toArray) (List.range l.length)
  simpa using this
theorem uni_compact {l : List Int} (hs : l.Pairwise (· ≤ ·)) : Qu.Uni (Lib.compact l) l := by
  have hg : ∀ j (h : j < l.length), l.toArray[j]! = l[j] := fun j h => by simp [h]
  constructor
  · unfold Lib.compact Lib.compactUpTo
    rw [List.pairwise_map]
    refine List.Pairwise.imp_of_mem ?_ ((List.pairwise_lt_range (n := l.length)).filter (Lib.keeps l.toArray))
    intro a b ha hb hab
    have hb1 := List.mem_range.1 (List.mem_filter.1 hb).1
    have hb2 := (List.mem_filter.1 hb).2
    unfold Lib.keeps at hb2
    rw [hg a (by omega), hg b hb1]
    rcases of_decide_eq_true hb2 with h0 | h0
    · omega
    · rw [hg b hb1, hg (b - 1) (by omega)] at h0
      have h1 : l[a] ≤ l[b - 1] := by
        rcases Nat.lt_or_eq_of_le (show a ≤ b - 1 by omega) with h2 | h2
        · exact (List.pairwise_iff_getElem.1 hs) a (b - 1) (by omega) (by omega) h2
        · subst h2; omega
      have h2 : l[b - 1] ≤ l[b] := (List.pairwise_iff_getElem.1 hs) (b - 1) b (by omega) hb1 (by omega)
      omega
  · intro x
    refine ⟨sub_compact l x, fun hx => ?_⟩
    obtain ⟨j, hj, rfl⟩ := List.getElem_of_mem hx
    -- the first place that holds it
    have key : ∀ j, ∀ (hj : j < l.length), l[j] ∈ Lib.compact l := by
      intro j
      induction j with
      | zero =>
        intro hj
        unfold Lib.compact Lib.compactUpTo
        exact List.mem_map.2 ⟨0, List.mem_filter.2 ⟨List.mem_range.2 hj, by simp [Lib.keeps]⟩, hg 0 hj⟩
      | succ j ih =>
        intro hj
        by_cases he : l[j + 1] = l[j]
        · rw [he]; exact ih (by omega)
        · unfold Lib.compact Lib.compactUpTo
          refine List.mem_map.2 ⟨j + 1, List.mem_filter.2 ⟨List.mem_range.2 hj, ?_⟩, hg _ hj⟩
          unfold Lib.keeps
          refine decide_eq_true (.inr ?_)
          rw [hg _ hj, show j + 1 - 1 = j from rfl, hg _ (by omega)]
          exact he
    exact key j hj
theorem heap_putRow_g {w : World} {g n : Nat} {cur : Array Value} {e : TypeId} {fr : Nat × Nat} (d : Array Int) (hb : w.heap[g]? = some (.cells cur e fr)) :
    (putRow encZ (Sort.ahead w n) g 0 d).heap[g]? = some (.cells (putCells encZ 0 d cur) e fr) := by
  have := heap_sorted_i (n := n) (os := #[]) d hb
  rwa [grow_empty] at this
set_option maxRecDepth 100000 in
theorem compact_own (base : Nat) (A : Option Addr) (c : Nat) (l : List Int) (hl : l.length ≤ 17592186044000) (w : World) (h : OwnsI 3 w base A c l) :
    Calls Tryz.prog 78 #[.slice A l.length c] w fun e w' => e = .returned (.slice A (Lib.compact l).length c) ∧ OwnsI 3 w' base A c (Lib.compact l) ∧ w.grownBy w' (blk A) := by
  have hsm : ∀ x ∈ Lib.compact l, InInt x := fun x hx => h.small x (sub_compact l x hx)
  rcases h.row.2 with ⟨hv, h0⟩ | ⟨g, cap, cur, hv, hg, hgb, hc, h2, h3, h4⟩
  · have hl0 : l = [] := List.eq_nil_of_length_eq_zero h0
    subst hl0
    refine (AnyG.slices_Compact_int_empty compA A c w).mono ?_
    rintro e w' ⟨rfl, rfl⟩
    exact ⟨rfl, h, grown_refl _ _⟩
  · obtain ⟨rfl, rfl⟩ : A = some ⟨g, 0, none⟩ ∧ c = cap := by injection hv with h1 h2 h3; exact ⟨h1, h3⟩
    have hH : Holds encZ w g 0 l.toArray := holds_of_block_i hgb (by rw [Nat.mul_one] at h4; exact h4)
    refine (AnyG.slices_Compact_int compA g 0 c l w hH (by omega) hc).mono ?_
    rintro e w' ⟨rfl, n, rfl⟩
    have hle := compact_len l
    refine ⟨rfl, ⟨hsm, ?_⟩, by have := grownBy_sorted_i (w := w) (g := g) (n := n) (os := #[]) (Lib.compact l ++ List.replicate (l.length - (Lib.compact l).length) 0).toArray; rwa [grow_empty] at this⟩
    refine ⟨by simp [ints], .inr ⟨g, c, _, rfl, hg, heap_putRow_g _ hgb, by omega, h2, by simp [putCells, h3], ?_⟩⟩
    rw [Nat.mul_one]
    have hts : (Lib.compact l ++ List.replicate (l.length - (Lib.compact l).length) (0 : Int)).length = l.length := by simp; omega
    have ht := take_putCells_i cur (Lib.compact l ++ List.replicate (l.length - (Lib.compact l).length) (0 : Int)) (by rw [hts]; omega)
    have h5 := congrArg (fun xs => xs.take (Lib.compact l).length) ht
    simp only [List.take_take] at h5
    rw [hts, Nat.min_eq_left hle] at h5
    rw [h5, ← List.map_take, List.take_left']
    · rfl
    · rfl
end Go.Proofs.YtfkjahpcpmcefaaGreat
namespace Go.Proofs.YtfkjahpcpmcefaaGreat
open Go.RowKit
structure IRows (w : World) (B b : Nat) (L : List (List Int)) : Prop where
  at_ : ∀ i (h : i < L.length), ∃ a k, w.cell? ⟨b, i, none⟩ = some (.slice a L[i].length k) ∧ IsInts w B a L[i] ∧ (a = none → k = 0)
theorem flat_step (L : List (List Int)) (k : Nat) (h : k < L.length) : (L.take (k + 1)).flatten = (L.take k).flatten ++ L[k] := by
  rw [List.take_succ_eq_append_getElem h, List.flatten_append]; simp
theorem flat_le (L : List (List Int)) (k : Nat) : (L.take k).flatten.length ≤ L.flatten.length := by
  have h : L.flatten.length = (L.take k ++ L.drop k).flatten.length := by rw [List.take_append_drop]
  rw [List.flatten_append, List.length_append] at h
  omega
set_option maxRecDepth 100000 in
set_option maxHeartbeats 1000000 in
theorem concat_any (B b : Nat) (L : List (List Int)) (c : Nat) (hL : L.length ≤ 1000) (hF : L.flatten.length ≤ 100000) (w : World) (h0 : IRows w B b L) (hb : b < w.heap.size) (hB : B ≤ w.heap.size) :
    Calls Tryz.prog 76 #[.slice (some ⟨b, 0, none⟩) L.length c] w fun e w' => ∃ A c', e = .returned (.slice A L.flatten.length c') ∧ OwnsI 3 w' w.heap.size A c' L.flatten ∧ Below w.heap.size w w' := by
  obtain ⟨i0, hi, hz0, hz1, hz2⟩ := info_parts I.info_int
  have h := hid h0
  have HF := hid hF
  clear h0 hF
  go_enter Tryz.func76, Tryz.ntmps76
  go_wp2_with fail
  go_loopw [3, 11] (fun v i wr => ∃ k m : Nat, k ≤ L.length ∧ m ≤ 100000 ∧ v = .int .i64 m ∧ i = .int .i64 k ∧ w = wr ∧ Hid (m = (L.take k).flatten.length)) (fun _ i _ => L.length - (RowKit.intOf i).toNat)
  case atStart => exact ⟨0, 0, by omega, by omega, rfl, rfl, rfl, hid (by simp)⟩
  case round =>
    obtain ⟨k, m, hk, hm, rfl, rfl, rfl, hs⟩ := hrel
    by_cases hlt : k < L.length
    · obtain ⟨a, ka, hcell, _, _⟩ := h.out.at_ k hlt
      have hst := flat_step L k hlt
      have hle := flat_le L (k + 1)
      rw [hst, List.length_append, ← hs.out] at hle
      have hm2 : m + L[k].length ≤ 100000 := by have := HF.out; omega
      have HS := hid hst
      clear hst hle
      generalize hn : L[k].length = n at *
      have HN := hid hn
      clear hn
      have hneg : ¬ ((m : Int) + (n : Int) < 0) := by omega
      go_wp2_with fail
      go_roundw
      case rel => exact ⟨k + 1, m + n, by omega, hm2, by go_num, by go_num, trivial, hid (by rw [HS.out, List.length_append, ← hs.out, HN.out])⟩
      case measure => simp [RowKit.intOf]; omega
    · obtain rfl : k = L.length := by omega
      have HG := hid (grow_none m (by omega) w)
      go_wp2_with fail
      refine HG.out.mono ?_
      rintro e w1 ⟨A1, c1, rfl, hown1, hbel1⟩
      have HO := hid hown1
      have HB := hid hbel1
      clear hown1 hbel1 HG
      go_wp2_with fail
      go_loopw [6, 27] (fun v i wr => ∃ (k : Nat) (A : Option Addr) (c2 : Nat), k ≤ L.length ∧ v = .slice A (L.take k).flatten.length c2 ∧ i = .int .i64 k ∧ OwnsI 3 wr w.heap.size A c2 (L.take k).flatten ∧ Below w.heap.size w wr) (fun _ i _ => L.length - (RowKit.intOf i).toNat)
      case atStart => exact ⟨0, A1, c1, by omega, by simp, rfl, by simpa using HO.out, HB.out⟩
      case round =>
        clear HO HB
        obtain ⟨k, A, c2, hk, rfl, rfl, hown, hbel⟩ := hrel
        by_cases hlt : k < L.length
        · obtain ⟨a, ka, hcell0, hrow, hnil⟩ := h.out.at_ k hlt
          have hcell : wr.cell? ⟨b, k, none⟩ = some (.slice a L[k].length ka) := (hbel.cell (by exact hb)).trans hcell0
          have hrow2 : IsInts wr w.heap.size a L[k] := (hrow.more hB).below hbel
          have hst := flat_step L k hlt
          have hle := flat_le L (k + 1)
          rw [hst, List.length_append] at hle
          have hbase := hbel.size
          have H3 := hid (And.intro hown hbel)
          have hsum : ((L.take k).flatten.length + L[k].length) * 8 ≤ 140737488355328 := by have := HF.out; omega
          have HL := hid hst
          have hlen : (L.take (k + 1)).flatten.length = (L.take k).flatten.length + L[k].length := by rw [hst, List.length_append]
          have HN := hid hlen
          clear hst hle hrow hcell0 hlen
          go_wp2_with (at_builtin; refine wpList_append_intsN rfl _ _ 22 rfl w.heap.size 3 i0 Tryz.underlying22 hi hz0 hz1 hz2 A c2 (L.take k).flatten _ rfl rfl hown w.heap.size a ka L[k] _ rfl rfl hnil hrow2 (L.take (k + 1)).flatten HL.out.symm hsum hbase ?_)
          intro A3 c3 w3 hown3 hbel3
          have H4 := hid (And.intro hown3 (H3.out.2.trans hbel3))
          clear hown3 hbel3 hown hbel
          go_wp2_with fail
          go_roundw
          case rel => exact ⟨k + 1, A3, c3, by omega, by rw [HN.out]; simp, by go_num, H4.out.1, H4.out.2⟩
          case measure => simp [RowKit.intOf]; omega
        · obtain rfl : k = L.length := by omega
          rw [List.take_length] at hown
          have H3 := hid (And.intro hown hbel)
          clear hown hbel
          go_wp2_with fail
          go_ret
          exact ⟨A, c2, ret_len (by rw [List.take_length]), H3.out.1, H3.out.2⟩
theorem merge_sorted (l : List Int) : (l.mergeSort (fun x y => decide (x ≤ y))).Pairwise (· ≤ ·) := by
  have := List.pairwise_mergeSort (le := fun (x y : Int) => decide (x ≤ y)) (fun a b c h1 h2 => by simp at *; omega) (fun a b => by simp; omega) l
  exact this.imp (fun h => by simpa using h)
theorem merged_any (B b : Nat) (L : List (List Int)) (c : Nat) (hL : L.length ≤ 1000) (hF : L.flatten.length ≤ 100000) (w : World) (h0 : IRows w B b L) (hb : b < w.heap.size) (hB : B ≤ w.heap.size) :
    Calls Tryz.prog 51 #[.slice (some ⟨b, 0, none⟩) L.length c] w fun e w' => ∃ A c', e = .returned (.slice A (Qu.uni L.flatten).length c') ∧ OwnsI 3 w' w.heap.size A c' (Qu.uni L.flatten) ∧ Below w.heap.size w w' := by
  have hc := hid (concat_any B b L c hL hF w h0 hb hB)
  have HF := hid hF
  have hu0 : Lib.compact (L.flatten.mergeSort (fun x y => decide (x ≤ y))) = Qu.uni L.flatten := by
    have h1 := uni_compact (merge_sorted L.flatten)
    refine Qu.Uni.unique (l := L.flatten) ⟨h1.1, fun x => (h1.2 x).trans (List.mergeSort_perm _ _).mem_iff⟩ (Qu.uni_is _)
  have hsz0 : (L.flatten.mergeSort (fun x y => decide (x ≤ y))).length = L.flatten.length := by simp
  have hs0 := fun A c1 w1 hown => sort_own w.heap.size A c1 L.flatten (by have := HF.out; omega) w1 hown
  generalize L.flatten.mergeSort (fun x y => decide (x ≤ y)) = M at *
  generalize Qu.uni L.flatten = U at *
  generalize L.flatten = F at *
  subst hu0
  have HS0 := hid hs0
  clear h0 hF hs0
  go_enter Tryz.func51, Tryz.ntmps51
  go_wp2_with fail
  refine hc.out.mono ?_
  rintro e w1 ⟨A, c1, rfl, hown, hbel⟩
  have HB := hid hbel
  have hs := hid (HS0.out A c1 w1 hown)
  have hlt := hown.blkLt
  have HLT := hid hlt
  clear hown hbel hlt hc
  go_wp2_with fail
  refine hs.out.mono ?_
  rintro e w2 ⟨rfl, hown2, hg2⟩
  have HB2 := hid (below_grown hg2 HB.out.size (fun k e => (HLT.out k e).1))
  have hcomp := compact_own w.heap.size A c1 M (by rw [hsz0]; have := HF.out; omega) w2 hown2
  rw [hsz0] at hcomp
  have hc2 := hid hcomp
  clear hown2 hg2 hs hcomp
  go_wp2_with fail
  refine hc2.out.mono ?_
  rintro e w3 ⟨rfl, hown3, hg3⟩
  have HB3 := hid (below_grown hg3 (Nat.le_trans HB.out.size HB2.out.size) (fun k e => (HLT.out k e).1))
  have HO3 := hid hown3
  clear hown3 hg3
  go_wp2_with fail
  go_ret
  exact ⟨A, c1, rfl, HO3.out, HB.out.trans (HB2.out.trans HB3.out)⟩
set_option maxHeartbeats 400000 in
theorem voters_any (B : Nat) (c : Qu.Cf) (hs : Short c) (a0 a1 a2 : Option Addr) (k0 k1 k2 : Nat) (w : World) (h : CIs w B c a0 a1 a2 k0 k1 k2) (hB : B ≤ w.heap.size) :
    Calls Tryz.prog 26 #[.agg #[.slice a0 c.old.length k0, .slice a1 c.new.length k1, .slice a2 c.lrn.length k2]] w fun e w' => ∃ A c', e = .returned (.slice A (Qu.uni (c.old ++ c.new)).length c') ∧ OwnsI 3 w' w.heap.size A c' (Qu.uni (c.old ++ c.new)) ∧ Below w.heap.size w w' := by
  have hb1 : Below w.heap.size w ((w.alloc (.cells #[.slice a0 c.old.length k0, .slice a1 c.new.length k1, .slice a2 c.lrn.length k2] 24)).alloc (.cells #[.slice a0 c.old.length k0, .slice a1 c.new.length k1] 22)) :=
    ((Below.refl _ _).alloc (Nat.le_refl _) _).alloc (by simp) _
  have hR : IRows ((w.alloc (.cells #[.slice a0 c.old.length k0, .slice a1 c.new.length k1, .slice a2 c.lrn.length k2] 24)).alloc (.cells #[.slice a0 c.old.length k0, .slice a1 c.new.length k1] 22)) B (w.heap.size + 1) [c.old, c.new] := by
    refine ⟨fun i hi => ?_⟩
    have hrow : ∀ j, ((w.alloc (.cells #[.slice a0 c.old.length k0, .slice a1 c.new.length k1, .slice a2 c.lrn.length k2] 24)).alloc (.cells #[.slice a0 c.old.length k0, .slice a1 c.new.length k1] 22)).cell? ⟨w.heap.size + 1, j, none⟩ = (#[.slice a0 c.old.length k0, .slice a1 c.new.length k1] : Array Value)[j]? := fun j => by
      have := cell_of_row ((w.alloc (.cells #[.slice a0 c.old.length k0, .slice a1 c.new.length k1, .slice a2 c.lrn.length k2] 24)).alloc (.cells #[.slice a0 c.old.length k0, .slice a1 c.new.length k1] 22)) (w.heap.size + 1) j #[.slice a0 c.old.length k0, .slice a1 c.new.length k1] 22 (0, 0) (by have := heap_alloc_new (w.alloc (.cells #[.slice a0 c.old.length k0, .slice a1 c.new.length k1, .slice a2 c.lrn.length k2] 24)) (.cells #[.slice a0 c.old.length k0, .slice a1 c.new.length k1] 22); rwa [World.size_alloc] at this)
      exact this
    match i, hi with
    | 0, _ => exact ⟨a0, k0, hrow 0, h.o.below (hb1.mono hB), h.zo⟩
    | 1, _ => exact ⟨a1, k1, hrow 1, h.n.below (hb1.mono hB), h.zn⟩
  have hfl : [c.old, c.new].flatten = c.old ++ c.new := by simp
  have hlen : [c.old, c.new].flatten.length ≤ 100000 := by rw [hfl, List.length_append]; have := hs.1; have := hs.2.1; omega
  have hM := merged_any B (w.heap.size + 1) [c.old, c.new] 2 (by simp) hlen _ hR (by simp) (by simp; omega)
  rw [hfl] at hM
  have HM := hid hM
  have HB := hid hb1
  clear hM hb1 hR h hfl hlen
  go_enter Tryz.func26, Tryz.ntmps26
  go_wp2_with fail
  refine HM.out.mono ?_
  rintro e w3 ⟨A, c1, rfl, hown, hbel⟩
  have HO := hid hown
  have HB2 := hid hbel
  clear hown hbel HM
  go_wp2_with fail
  go_ret
  exact ⟨A, c1, rfl, HO.out.weaken (by simp; omega), HB.out.trans (HB2.out.mono (by simp; omega))⟩
end Go.Proofs.YtfkjahpcpmcefaaGreat
namespace Go.Proofs.YtfkjahpcpmcefaaGreat
open Go.RowKit
theorem any_dec (l m : List Int) : (l.any fun x => decide (x ∈ m)) = !decide (∀ x ∈ l, ¬ x ∈ m) := by
  rw [Bool.eq_iff_iff, List.any_eq_true]
  simp
theorem Qu.err_of {c : Qu.Cf} (h0 : c.old ≠ []) (h1 : Qu.node c.old = true) (h2 : Qu.node c.new = true) (h3 : Qu.node c.lrn = true) : Qu.err c = if c.lrn.any (fun x => decide (x ∈ Qu.uni (c.old ++ c.new))) then 29 else 0 := by
  unfold Qu.err Qu.ok
  rw [h1, h2, h3, any_dec]
  have h4 : c.old.isEmpty = false := by rw [← Bool.not_eq_true, List.isEmpty_iff]; exact h0
  rw [h4]
  have h5 : decide (∀ x ∈ c.lrn, ¬ x ∈ Qu.uni (c.old ++ c.new)) = decide (∀ x ∈ c.lrn, ¬ (x ∈ c.old ∨ x ∈ c.new)) :=
    decide_eq_decide.2 ⟨fun h x hx hm => h x hx (Qu.uni_mem.2 (List.mem_append.2 hm)), fun h x hx hm => h x hx (List.mem_append.1 (Qu.uni_mem.1 hm))⟩
  rw [h5]
  cases decide (∀ x ∈ c.lrn, ¬ (x ∈ c.old ∨ x ∈ c.new)) <;> rfl
theorem Qu.err_29 {c : Qu.Cf} (h : c.old = [] ∨ Qu.node c.old = false ∨ Qu.node c.new = false ∨ Qu.node c.lrn = false) : Qu.err c = 29 := by
  unfold Qu.err Qu.ok
  rcases h with h | h | h | h <;> rw [h] <;> simp
structure Box3 (w : World) (b : Nat) (v0 v1 v2 : Value) : Prop where
  c0 : w.cell? ⟨b, 0, none⟩ = some v0
  c1 : w.cell? ⟨b, 1, none⟩ = some v1
  c2 : w.cell? ⟨b, 2, none⟩ = some v2
theorem Box3.below {w w' : World} {B b : Nat} {v0 v1 v2 : Value} (h : Box3 w b v0 v1 v2) (hb : Below B w w') (hlt : b < B) : Box3 w' b v0 v1 v2 :=
  ⟨(hb.cell (p := ⟨b, 0, none⟩) hlt).trans h.c0, (hb.cell (p := ⟨b, 1, none⟩) hlt).trans h.c1, (hb.cell (p := ⟨b, 2, none⟩) hlt).trans h.c2⟩
set_option maxRecDepth 100000 in
set_option maxHeartbeats 1000000 in
theorem check_any (B : Nat) (c : Qu.Cf) (hs0 : Short c) (a0 a1 a2 : Option Addr) (k0 k1 k2 : Nat) (w : World) (h0 : CIs w B c a0 a1 a2 k0 k1 k2) (hB : B ≤ w.heap.size) :
    Calls Tryz.prog 23 #[.agg #[.slice a0 c.old.length k0, .slice a1 c.new.length k1, .slice a2 c.lrn.length k2]] w fun e w' => e = .returned (.int .i64 (Qu.err c)) ∧ Below w.heap.size w w' := by
  obtain ⟨wb, hwb⟩ : ∃ wb, wb = w.alloc (.cells #[.slice a0 c.old.length k0, .slice a1 c.new.length k1, .slice a2 c.lrn.length k2] 24) := ⟨_, rfl⟩
  have hbel : Below w.heap.size w wb := by rw [hwb]; exact (Below.refl _ _).alloc (Nat.le_refl _) _
  have hsz : wb.heap.size = w.heap.size + 1 := by rw [hwb]; simp
  have hrow : wb.heap[w.heap.size]? = some (.cells #[.slice a0 c.old.length k0, .slice a1 c.new.length k1, .slice a2 c.lrn.length k2] 24 (0, 0)) := by rw [hwb]; exact heap_alloc_new w _
  have c0 : wb.cell? ⟨w.heap.size, 0, none⟩ = some (.slice a0 c.old.length k0) := cell_of_row wb w.heap.size 0 _ _ _ hrow
  have c1 : wb.cell? ⟨w.heap.size, 1, none⟩ = some (.slice a1 c.new.length k1) := cell_of_row wb w.heap.size 1 _ _ _ hrow
  have c2 : wb.cell? ⟨w.heap.size, 2, none⟩ = some (.slice a2 c.lrn.length k2) := cell_of_row wb w.heap.size 2 _ _ _ hrow
  have hI := h0.below (hbel.mono hB)
  have HB := hid hbel
  have HI := hid hI
  have hs := hid hs0
  have HO := hid (ordered_any B a0 k0 c.old (by have := hs0.1; omega) wb hI.o)
  have HN := hid (ordered_any B a1 k1 c.new (by have := hs0.2.1; omega) wb hI.n)
  have HL := hid (ordered_any B a2 k2 c.lrn (by have := hs0.2.2; omega) wb hI.l)
  have HV := hid (voters_any B c hs0 a0 a1 a2 k0 k1 k2 wb.drew (hI.drewN 1) (by show B ≤ wb.heap.size; omega))
  have HF := hid (And.intro hB hsz)
  clear hbel hI h0 hs0 hsz hrow hB
  by_cases hz : c.old = []
  · have HE := hid (Qu.err_29 (c := c) (.inl hz))
    have hl : c.old.length = 0 := by rw [hz]; rfl
    rw [HE.out]
    clear hz HO HN HL HV
    rw [hl] at c0
    rw [hl] at hwb ⊢
    clear hl
    go_enter Tryz.func23, Tryz.ntmps23
    go_wp2
    rw [← hwb]; clear hwb
    go_ret
    exact ⟨rfl, HB.out⟩
  have hzl : 0 < c.old.length := List.length_pos_iff.2 hz
  have hzb : ((c.old.length : Int) == 0) = false := by rw [beq_eq_false_iff_ne]; omega
  have HZ := hid hz
  clear hz
  cases ho : Qu.node c.old
  · have HE := hid (Qu.err_29 (c := c) (.inr (.inl ho)))
    rw [ho] at HO
    rw [HE.out]
    clear ho HN HL HV
    go_enter Tryz.func23, Tryz.ntmps23
    go_wp2_with fail
    rw [← hwb]; clear hwb
    refine HO.out.mono ?_
    rintro e w1 ⟨rfl, rfl⟩
    go_wp2
    go_ret
    exact ⟨rfl, HB.out⟩
  cases hn : Qu.node c.new
  · have HE := hid (Qu.err_29 (c := c) (.inr (.inr (.inl hn))))
    rw [ho] at HO
    rw [hn] at HN
    rw [HE.out]
    clear ho hn HL HV
    go_enter Tryz.func23, Tryz.ntmps23
    go_wp2_with fail
    rw [← hwb]; clear hwb
    refine HO.out.mono ?_
    rintro e w1 ⟨rfl, rfl⟩
    go_wp2_with fail
    refine HN.out.mono ?_
    rintro e w1 ⟨rfl, rfl⟩
    go_wp2
    go_ret
    exact ⟨rfl, HB.out⟩
  cases hl : Qu.node c.lrn
  · have HE := hid (Qu.err_29 (c := c) (.inr (.inr (.inr hl))))
    rw [ho] at HO
    rw [hn] at HN
    rw [hl] at HL
    rw [HE.out]
    clear ho hn hl HV
    go_enter Tryz.func23, Tryz.ntmps23
    go_wp2_with fail
    rw [← hwb]; clear hwb
    refine HO.out.mono ?_
    rintro e w1 ⟨rfl, rfl⟩
    go_wp2_with fail
    refine HN.out.mono ?_
    rintro e w1 ⟨rfl, rfl⟩
    go_wp2_with fail
    refine HL.out.mono ?_
    rintro e w1 ⟨rfl, rfl⟩
    go_wp2
    go_ret
    exact ⟨rfl, HB.out⟩
  · have HE := hid (Qu.err_of HZ.out ho hn hl)
    rw [ho] at HO
    rw [hn] at HN
    rw [hl] at HL
    rw [HE.out]
    clear ho hn hl
    have hul : (Qu.uni (c.old ++ c.new)).length ≤ 40000 := by
      have := (Qu.uni_is (c.old ++ c.new)).length_le
      rw [List.length_append] at this
      have := hs.out.1; have := hs.out.2.1; omega
    obtain ⟨U, hU⟩ : ∃ U, U = Qu.uni (c.old ++ c.new) := ⟨_, rfl⟩
    rw [← hU] at HV hul ⊢
    have HU := hid hU
    clear hU HE
    obtain ⟨ov, hov⟩ : ∃ ov, ov = c.lrn.any fun x => decide (x ∈ U) := ⟨_, rfl⟩
    rw [← hov]
    have HOV := hid hov
    clear hov
    have hbox : Box3 wb.drew w.heap.size (.slice a0 c.old.length k0) (.slice a1 c.new.length k1) (.slice a2 c.lrn.length k2) := ⟨c0, c1, c2⟩
    have HX : Hid (∀ w3 A cp, OwnsI 3 w3 wb.drew.heap.size A cp U → Below wb.drew.heap.size wb.drew w3 → Hid (Box3 w3 w.heap.size (.slice a0 c.old.length k0) (.slice a1 c.new.length k1) (.slice a2 c.lrn.length k2)) ∧
        Hid (Calls Tryz.prog 48 #[.slice a2 c.lrn.length k2, .slice A U.length cp] w3 fun e w' => e = .returned (.bool ov) ∧ Hid (Box3 w' w.heap.size (.slice a0 c.old.length k0) (.slice a1 c.new.length k1) (.slice a2 c.lrn.length k2)) ∧ Hid (Below w.heap.size w w'))) := hid fun w3 A cp hown3 hbel3 => by
      have h1 := HF.out.1
      have h2 := HF.out.2
      have h3 : wb.drew.heap.size = wb.heap.size := rfl
      have h4 := hbel3.size
      have hK3 := hbox.below hbel3 (by omega)
      have hB3 : Below B wb.drew w3 := hbel3.mono (by omega)
      have h5 : B ≤ w3.heap.size := by omega
      refine ⟨hid hK3, hid ((overlap_any w3.heap.size a2 A k2 cp c.lrn U (by have := hs.out.2.2; omega) (by omega) w3 ((HI.out.l.drew.below hB3).more h5) hown3.reads (Nat.le_refl _)).mono ?_)⟩
      rintro e4 w4 ⟨he, hb4⟩
      exact ⟨by rw [he, HOV.out], hid (hK3.below hb4 (by omega)), hid (bthen (bthen (Below.drew HB.out) hbel3 (by omega)) hb4 (by omega))⟩
    have c0d : wb.drew.cell? ⟨w.heap.size, 0, none⟩ = some (.slice a0 c.old.length k0) := c0
    have c1d : wb.drew.cell? ⟨w.heap.size, 1, none⟩ = some (.slice a1 c.new.length k1) := c1
    have c2d : wb.drew.cell? ⟨w.heap.size, 2, none⟩ = some (.slice a2 c.lrn.length k2) := c2
    go_enter Tryz.func23, Tryz.ntmps23
    go_wp2_with fail
    rw [← hwb]; clear hwb
    refine HO.out.mono ?_
    rintro e w1 ⟨rfl, rfl⟩
    go_wp2_with fail
    refine HN.out.mono ?_
    rintro e w1 ⟨rfl, rfl⟩
    go_wp2_with fail
    refine HL.out.mono ?_
    rintro e w1 ⟨rfl, rfl⟩
    go_wp2_with fail
    go_region_held3 (fun w' => w'.cell? ⟨w.heap.size, 0, none⟩ = some (.slice a0 c.old.length k0) ∧ w'.cell? ⟨w.heap.size, 1, none⟩ = some (.slice a1 c.new.length k1) ∧ w'.cell? ⟨w.heap.size, 2, none⟩ = some (.slice a2 c.lrn.length k2))
      (first | exact ⟨c0d, c1d, c2d⟩ | exact ⟨HK3.out.c0, HK3.out.c1, HK3.out.c2⟩ | exact ⟨HK4.out.c0, HK4.out.c1, HK4.out.c2⟩ | fail)
      (first
        | (go_at_call 26; refine HV.out.mono ?_; rintro e3 w3 ⟨A, cp, rfl, hown3, hbel3⟩; obtain ⟨HK3, HO3⟩ := HX.out w3 A cp hown3 hbel3; clear hown3 hbel3)
        | (go_at_call 48; refine HO3.out.mono ?_; rintro e4 w4 ⟨rfl, HK4, HB4⟩))
    cases ov
    · go_wp2
      go_ret
      exact ⟨rfl, HB4.out⟩
    · go_wp2
      go_ret
      exact ⟨rfl, HB4.out⟩
end Go.Proofs.YtfkjahpcpmcefaaGreat
namespace Go.Proofs.YtfkjahpcpmcefaaGreat
open Go.RowKit
set_option maxHeartbeats 400000 in
theorem members_any (B : Nat) (c : Qu.Cf) (hs : Short c) (a0 a1 a2 : Option Addr) (k0 k1 k2 : Nat) (w : World) (h : CIs w B c a0 a1 a2 k0 k1 k2) (hB : B ≤ w.heap.size) :
    Calls Tryz.prog 89 #[.agg #[.slice a0 c.old.length k0, .slice a1 c.new.length k1, .slice a2 c.lrn.length k2]] w fun e w' => ∃ A c', e = .returned (.slice A (Qu.uni (c.old ++ c.new ++ c.lrn)).length c') ∧ OwnsI 3 w' w.heap.size A c' (Qu.uni (c.old ++ c.new ++ c.lrn)) ∧ Below w.heap.size w w' := by
  have hb1 : Below w.heap.size w ((w.alloc (.cells #[.slice a0 c.old.length k0, .slice a1 c.new.length k1, .slice a2 c.lrn.length k2] 24)).alloc (.cells #[.slice a0 c.old.length k0, .slice a1 c.new.length k1, .slice a2 c.lrn.length k2] 22)) :=
    ((Below.refl _ _).alloc (Nat.le_refl _) _).alloc (by simp) _
  have hR : IRows ((w.alloc (.cells #[.slice a0 c.old.length k0, .slice a1 c.new.length k1, .slice a2 c.lrn.length k2] 24)).alloc (.cells #[.slice a0 c.old.length k0, .slice a1 c.new.length k1, .slice a2 c.lrn.length k2] 22)) B (w.heap.size + 1) [c.old, c.new, c.lrn] := by
    refine ⟨fun i hi => ?_⟩
    have hrow : ∀ j, ((w.alloc (.cells #[.slice a0 c.old.length k0, .slice a1 c.new.length k1, .slice a2 c.lrn.length k2] 24)).alloc (.cells #[.slice a0 c.old.length k0, .slice a1 c.new.length k1, .slice a2 c.lrn.length k2] 22)).cell? ⟨w.heap.size + 1, j, none⟩ = (#[.slice a0 c.old.length k0, .slice a1 c.new.length k1, .slice a2 c.lrn.length k2] : Array Value)[j]? := fun j => by
      have := cell_of_row ((w.alloc (.cells #[.slice a0 c.old.length k0, .slice a1 c.new.length k1, .slice a2 c.lrn.length k2] 24)).alloc (.cells #[.slice a0 c.old.length k0, .slice a1 c.new.length k1, .slice a2 c.lrn.length k2] 22)) (w.heap.size + 1) j #[.slice a0 c.old.length k0, .slice a1 c.new.length k1, .slice a2 c.lrn.length k2] 22 (0, 0) (by have := heap_alloc_new (w.alloc (.cells #[.slice a0 c.old.length k0, .slice a1 c.new.length k1, .slice a2 c.lrn.length k2] 24)) (.cells #[.slice a0 c.old.length k0, .slice a1 c.new.length k1, .slice a2 c.lrn.length k2] 22); rwa [World.size_alloc] at this)
      exact this
    match i, hi with
    | 0, _ => exact ⟨a0, k0, hrow 0, h.o.below (hb1.mono hB), h.zo⟩
    | 1, _ => exact ⟨a1, k1, hrow 1, h.n.below (hb1.mono hB), h.zn⟩
    | 2, _ => exact ⟨a2, k2, hrow 2, h.l.below (hb1.mono hB), h.zl⟩
  have hfl : [c.old, c.new, c.lrn].flatten = c.old ++ c.new ++ c.lrn := by simp
  have hlen : [c.old, c.new, c.lrn].flatten.length ≤ 100000 := by rw [hfl, List.length_append, List.length_append]; have := hs.1; have := hs.2.1; have := hs.2.2; omega
  have hM := merged_any B (w.heap.size + 1) [c.old, c.new, c.lrn] 3 (by simp) hlen _ hR (by simp) (by simp; omega)
  rw [hfl] at hM
  have HM := hid hM
  have HB := hid hb1
  clear hM hb1 hR h hfl hlen
  go_enter Tryz.func89, Tryz.ntmps89
  go_wp2_with fail
  refine HM.out.mono ?_
  rintro e w3 ⟨A, c1, rfl, hown, hbel⟩
  have HO := hid hown
  have HB2 := hid hbel
  clear hown hbel HM
  go_wp2_with fail
  go_ret
  exact ⟨A, c1, ret_len (by rw [List.append_assoc]), HO.out.weaken (by simp; omega), HB.out.trans (HB2.out.mono (by simp; omega))⟩
end Go.Proofs.YtfkjahpcpmcefaaGreat
namespace Go.Proofs.YtfkjahpcpmcefaaGreat.Co
open Go Go.RowKit
open Qu (Cf)
set_option maxRecDepth 100000
set_option linter.unusedVariables false
attribute [local go_sem ↓] Im.loadAt_conf3 Im.storeAt_conf3 loadAt_mem storeAt_mem
theorem check_M (B : Nat) (c : Cf) (hs : Short c) (m : M3) (w : World) (h : InC w B c m) (hB : B ≤ w.heap.size) :
    Calls Tryz.prog 23 #[.agg #[.slice m.a0 m.n0 m.k0, .slice m.a1 m.n1 m.k1, .slice m.a2 m.n2 m.k2]] w fun e w' => e = .returned (.int .i64 (Qu.err c)) ∧ Below w.heap.size w w' := by
  rw [h.val]; exact check_any B c hs _ _ _ _ _ _ w h.cis hB
theorem err_t {c : Cf} (h : Qu.ok c = true) : Qu.err c = 0 := by unfold Qu.err; rw [h]; rfl
theorem err_f {c : Cf} (h : Qu.ok c = false) : Qu.err c = 29 := by unfold Qu.err; rw [h]; rfl
theorem below_new (w : World) (o : Obj) : Below w.heap.size w (w.alloc o) := (Below.refl _ w).alloc (Nat.le_refl _) _
theorem invalid_any (B : Nat) (c : Cf) (hs : Short c) (m : M3) (w : World) (h : InC w B c m) (hB : B ≤ w.heap.size) :
    Calls Tryz.prog 67 #[.agg #[.slice m.a0 m.n0 m.k0, .slice m.a1 m.n1 m.k1, .slice m.a2 m.n2 m.k2]] w fun e w' => e = .returned (.bool (!Qu.ok c)) ∧ Below w.heap.size w w' := by
  obtain ⟨w1, hw1⟩ : ∃ w1, w1 = w.alloc (.cells #[.slice m.a0 m.n0 m.k0, .slice m.a1 m.n1 m.k1, .slice m.a2 m.n2 m.k2] 61) := ⟨_, rfl⟩
  have hb1 : Below w.heap.size w w1 := by rw [hw1]; exact below_new w _
  have hs1 : w1.heap.size = w.heap.size + 1 := by rw [hw1]; simp
  have hld := (Bx.new w 61 m).ldM
  have HC := hid (check_M B c hs m w1 (h.below (hb1.mono hB)) (by omega))
  have HB := hid hb1
  clear h hb1 hs1
  cases ho : Qu.ok c
  · rw [err_f ho] at HC
    clear ho
    go_enter Tryz.func67, Tryz.ntmps67
    go_wp2_with fail
    rw [← hw1]
    clear hw1
    refine HC.out.mono ?_
    rintro e w2 ⟨rfl, hb2⟩
    have H2 := hid hb2
    clear hb2
    go_wp2_with fail
    go_ret
    exact ⟨rfl, HB.out.trans (H2.out.mono HB.out.size)⟩
  · rw [err_t ho] at HC
    clear ho
    go_enter Tryz.func67, Tryz.ntmps67
    go_wp2_with fail
    rw [← hw1]
    clear hw1
    refine HC.out.mono ?_
    rintro e w2 ⟨rfl, hb2⟩
    have H2 := hid hb2
    clear hb2
    go_wp2_with fail
    go_ret
    exact ⟨rfl, HB.out.trans (H2.out.mono HB.out.size)⟩
def chgM (m : M3) : Bool := decide (0 < m.n1) || decide (0 < m.n2)
theorem InC.chg {w : World} {B : Nat} {c : Cf} {m : M3} (h : InC w B c m) : chgM m = chg c := by unfold chgM Co.chg; rw [h.e1, h.e2]
theorem changing_any (m : M3) (w : World) :
    Calls Tryz.prog 68 #[.agg #[.slice m.a0 m.n0 m.k0, .slice m.a1 m.n1 m.k1, .slice m.a2 m.n2 m.k2]] w fun e w' => e = .returned (.bool (chgM m)) ∧ Below w.heap.size w w' := by
  obtain ⟨a0, n0, k0, a1, n1, k1, a2, n2, k2⟩ := m
  show Calls Tryz.prog 68 #[.agg #[.slice a0 n0 k0, .slice a1 n1 k1, .slice a2 n2 k2]] w fun e w' => e = .returned (.bool (decide (0 < n1) || decide (0 < n2))) ∧ Below w.heap.size w w'
  by_cases h1 : n1 = 0
  · subst h1
    have HE : Hid ((decide (0 < 0) || decide (0 < n2)) = decide (0 < n2)) := hid (by simp)
    rw [HE.out]
    have HB := hid (below_new w (.cells #[.slice a0 n0 k0, .slice a1 0 k1, .slice a2 n2 k2] 61))
    have c1 := (Bx.new w 61 ⟨a0, n0, k0, a1, 0, k1, a2, n2, k2⟩).c1
    have c2 := (Bx.new w 61 ⟨a0, n0, k0, a1, 0, k1, a2, n2, k2⟩).c2
    go_enter Tryz.func68, Tryz.ntmps68
    go_wp2_with fail
    go_ret
    exact ⟨rfl, HB.out⟩
  · have h1' : (0 : Int) < (n1 : Int) := by omega
    have HE : Hid ((decide (0 < n1) || decide (0 < n2)) = true) := hid (by simp; omega)
    rw [HE.out]
    have HB := hid (below_new w (.cells #[.slice a0 n0 k0, .slice a1 n1 k1, .slice a2 n2 k2] 61))
    have c1 := (Bx.new w 61 ⟨a0, n0, k0, a1, n1, k1, a2, n2, k2⟩).c1
    clear h1
    go_enter Tryz.func68, Tryz.ntmps68
    go_wp2_with fail
    go_ret
    exact ⟨rfl, HB.out⟩
theorem refChanging_any (m : M3) (w : World) :
    Calls Tryz.prog 42 #[.agg #[.slice m.a0 m.n0 m.k0, .slice m.a1 m.n1 m.k1, .slice m.a2 m.n2 m.k2]] w fun e w' => e = .returned (.bool (chgM m)) ∧ Below w.heap.size w w' := by
  obtain ⟨a0, n0, k0, a1, n1, k1, a2, n2, k2⟩ := m
  show Calls Tryz.prog 42 #[.agg #[.slice a0 n0 k0, .slice a1 n1 k1, .slice a2 n2 k2]] w fun e w' => e = .returned (.bool (decide (0 < n1) || decide (0 < n2))) ∧ Below w.heap.size w w'
  by_cases h1 : n1 = 0
  · subst h1
    have HE : Hid ((decide (0 < 0) || decide (0 < n2)) = decide (0 < n2)) := hid (by simp)
    rw [HE.out]
    have HB := hid (below_new w (.cells #[.slice a0 n0 k0, .slice a1 0 k1, .slice a2 n2 k2] 24))
    have c1 := (Bx.new w 24 ⟨a0, n0, k0, a1, 0, k1, a2, n2, k2⟩).c1
    have c2 := (Bx.new w 24 ⟨a0, n0, k0, a1, 0, k1, a2, n2, k2⟩).c2
    go_enter Tryz.func42, Tryz.ntmps42
    go_wp2_with fail
    go_ret
    exact ⟨rfl, HB.out⟩
  · have h1' : (0 : Int) < (n1 : Int) := by omega
    have HE : Hid ((decide (0 < n1) || decide (0 < n2)) = true) := hid (by simp; omega)
    rw [HE.out]
    have HB := hid (below_new w (.cells #[.slice a0 n0 k0, .slice a1 n1 k1, .slice a2 n2 k2] 24))
    have c1 := (Bx.new w 24 ⟨a0, n0, k0, a1, n1, k1, a2, n2, k2⟩).c1
    clear h1
    go_enter Tryz.func42, Tryz.ntmps42
    go_wp2_with fail
    go_ret
    exact ⟨rfl, HB.out⟩
theorem fixed_any (B : Nat) (c : Cf) (hs : Short c) (m : M3) (n : Int) (hn : InInt n) (w : World) (h : InC w B c m) (hB : B ≤ w.heap.size) :
    Calls Tryz.prog 62 #[.agg #[.slice m.a0 m.n0 m.k0, .slice m.a1 m.n1 m.k1, .slice m.a2 m.n2 m.k2], .int .i64 n] w fun e w' => e = .returned (.int .i64 (forb c n)) ∧ Below w.heap.size w w' := by
  obtain ⟨w1, hw1⟩ : ∃ w1, w1 = w.alloc (.cells #[.slice m.a0 m.n0 m.k0, .slice m.a1 m.n1 m.k1, .slice m.a2 m.n2 m.k2] 61) := ⟨_, rfl⟩
  have hb1 : Below w.heap.size w w1 := by rw [hw1]; exact below_new w _
  have hs1 : w1.heap.size = w.heap.size + 1 := by rw [hw1]; simp
  have hx1 : Bx w1 w.heap.size 61 m := by rw [hw1]; exact Bx.new _ _ _
  have hld := (Bx.new w 61 m).ldM
  have HI := hid (invalid_any B c hs m w1 (h.below (hb1.mono hB)) (by omega))
  have HX := hid (And.intro hx1 hs1)
  have HB := hid hb1
  have HG := hid h.chg
  clear h hb1 hs1 hx1
  cases ho : Qu.ok c
  · have HF : Hid (forb c n = 29) := hid (by unfold forb; rw [if_pos ho])
    rw [ho] at HI
    rw [HF.out]
    clear ho
    go_enter Tryz.func62, Tryz.ntmps62
    go_wp2_with fail
    rw [← hw1]
    clear hw1
    refine HI.out.mono ?_
    rintro e w2 ⟨rfl, hb2⟩
    have H2 := hid hb2
    clear hb2
    go_wp2_with fail
    go_ret
    exact ⟨rfl, HB.out.trans (H2.out.mono HB.out.size)⟩
  have ho' : ¬ Qu.ok c = false := by rw [ho]; decide
  have HO := hid ho'
  rw [ho] at HI
  clear ho ho'
  by_cases hq : n < 1 ∨ 7 < n
  · have HF : Hid (forb c n = 28) := hid (by unfold forb; rw [if_neg HO.out, if_pos hq])
    rw [HF.out]
    by_cases h1 : n < 1
    · clear hq
      go_enter Tryz.func62, Tryz.ntmps62
      go_wp2_with fail
      rw [← hw1]
      clear hw1
      refine HI.out.mono ?_
      rintro e w2 ⟨rfl, hb2⟩
      have H2 := hid hb2
      clear hb2
      go_wp2_with fail
      go_ret
      exact ⟨rfl, HB.out.trans (H2.out.mono HB.out.size)⟩
    · have h7 : 7 < n := by omega
      clear hq
      go_enter Tryz.func62, Tryz.ntmps62
      go_wp2_with fail
      rw [← hw1]
      clear hw1
      refine HI.out.mono ?_
      rintro e w2 ⟨rfl, hb2⟩
      have H2 := hid hb2
      clear hb2
      go_wp2_with fail
      go_ret
      exact ⟨rfl, HB.out.trans (H2.out.mono HB.out.size)⟩
  · have h1 : ¬ n < 1 := by omega
    have h7 : ¬ 7 < n := by omega
    have HQ := hid hq
    clear hq
    go_enter Tryz.func62, Tryz.ntmps62
    go_wp2_with fail
    rw [← hw1]
    clear hw1
    refine HI.out.mono ?_
    rintro e w2 ⟨rfl, hb2⟩
    have hx2 := HX.out.1.below hb2 (by rw [HX.out.2]; omega)
    have hld2 := hx2.ldM
    have H2 := hid (HB.out.trans (hb2.mono HB.out.size))
    clear hb2 hld
    go_wp2_with fail
    refine (changing_any m w2).mono ?_
    rintro e w3 ⟨rfl, hb3⟩
    have H3 := hid (H2.out.trans (hb3.mono H2.out.size))
    clear hb3
    rw [HG.out]
    cases hc : chg c
    · have HF : Hid (forb c n = 0) := hid (by unfold forb; rw [if_neg HO.out, if_neg HQ.out, if_neg (by rw [hc]; decide)])
      clear hc
      go_wp2_with fail
      go_ret
      exact ⟨ret_int HF.out.symm, H3.out⟩
    · have HF : Hid (forb c n = 11) := hid (by unfold forb; rw [if_neg HO.out, if_neg HQ.out, if_pos hc])
      clear hc
      go_wp2_with fail
      go_ret
      exact ⟨ret_int HF.out.symm, H3.out⟩
theorem mayCome_any (B : Nat) (c : Cf) (hs : Short c) (m : M3) (n : Int) (w : World) (h : InC w B c m) (hB : B ≤ w.heap.size) :
    Calls Tryz.prog 34 #[.agg #[.slice m.a0 m.n0 m.k0, .slice m.a1 m.n1 m.k1, .slice m.a2 m.n2 m.k2], .int .i64 n] w fun e w' => e = .returned (.int .i64 (if n ∈ c.old then 7 else 0)) ∧ Below w.heap.size w w' := by
  obtain ⟨w1, hw1⟩ : ∃ w1, w1 = w.alloc (.cells #[.slice m.a0 m.n0 m.k0, .slice m.a1 m.n1 m.k1, .slice m.a2 m.n2 m.k2] 61) := ⟨_, rfl⟩
  have hb1 : Below w.heap.size w w1 := by rw [hw1]; exact below_new w _
  have hld := (Bx.new w 61 m).c0
  have HC := contains_any B m.a0 m.k0 c.old (by have := hs.1; omega) n w1 ((h.below (hb1.mono hB)).o)
  rw [← h.e0] at HC
  have HC := hid HC
  have HB := hid hb1
  clear h hb1
  by_cases hi : n ∈ c.old
  · rw [decide_eq_true hi] at HC
    rw [if_pos hi]
    clear hi
    go_enter Tryz.func34, Tryz.ntmps34
    go_wp2_with fail
    rw [← hw1]
    clear hw1
    refine HC.out.mono ?_
    rintro e w2 ⟨rfl, rfl⟩
    go_wp2_with fail
    go_ret
    exact ⟨rfl, HB.out⟩
  · rw [decide_eq_false hi] at HC
    rw [if_neg hi]
    clear hi
    go_enter Tryz.func34, Tryz.ntmps34
    go_wp2_with fail
    rw [← hw1]
    clear hw1
    refine HC.out.mono ?_
    rintro e w2 ⟨rfl, rfl⟩
    go_wp2_with fail
    go_ret
    exact ⟨rfl, HB.out⟩
theorem mayGo_any (B : Nat) (c : Cf) (hs : Short c) (m : M3) (n : Int) (w : World) (h : InC w B c m) (hB : B ≤ w.heap.size) :
    Calls Tryz.prog 36 #[.agg #[.slice m.a0 m.n0 m.k0, .slice m.a1 m.n1 m.k1, .slice m.a2 m.n2 m.k2], .int .i64 n] w fun e w' => e = .returned (.int .i64 (if n ∉ c.old then 6 else if c.old.length = 1 then 29 else 0)) ∧ Below w.heap.size w w' := by
  obtain ⟨w1, hw1⟩ : ∃ w1, w1 = w.alloc (.cells #[.slice m.a0 m.n0 m.k0, .slice m.a1 m.n1 m.k1, .slice m.a2 m.n2 m.k2] 61) := ⟨_, rfl⟩
  have hb1 : Below w.heap.size w w1 := by rw [hw1]; exact below_new w _
  have hx1 : Bx w1 w.heap.size 61 m := by rw [hw1]; exact Bx.new _ _ _
  have hld := (Bx.new w 61 m).c0
  have HC := contains_any B m.a0 m.k0 c.old (by have := hs.1; omega) n w1 ((h.below (hb1.mono hB)).o)
  rw [← h.e0] at HC
  have HC := hid HC
  have HB := hid hb1
  have he := hid h.e0
  clear h hb1
  by_cases hi : n ∈ c.old
  · rw [decide_eq_true hi] at HC
    rw [if_neg (by simpa using hi)]
    clear hi
    by_cases h1 : m.n0 = 1
    · rw [if_pos (by rw [← he.out]; exact h1)]
      have h1' : ((m.n0 : Int) == 1) = true := by rw [beq_iff_eq]; omega
      clear h1
      have hld1 := hx1.c0
      go_enter Tryz.func36, Tryz.ntmps36
      go_wp2_with fail
      rw [← hw1]
      clear hw1
      refine HC.out.mono ?_
      rintro e w2 ⟨rfl, rfl⟩
      go_wp2_with fail
      go_ret
      exact ⟨rfl, HB.out⟩
    · rw [if_neg (by rw [← he.out]; exact h1)]
      have h1' : ((m.n0 : Int) == 1) = false := by rw [beq_eq_false_iff_ne]; omega
      clear h1
      have hld1 := hx1.c0
      go_enter Tryz.func36, Tryz.ntmps36
      go_wp2_with fail
      rw [← hw1]
      clear hw1
      refine HC.out.mono ?_
      rintro e w2 ⟨rfl, rfl⟩
      go_wp2_with fail
      go_ret
      exact ⟨rfl, HB.out⟩
  · rw [decide_eq_false hi] at HC
    rw [if_pos hi]
    clear hi
    go_enter Tryz.func36, Tryz.ntmps36
    go_wp2_with fail
    rw [← hw1]
    clear hw1
    refine HC.out.mono ?_
    rintro e w2 ⟨rfl, rfl⟩
    go_wp2_with fail
    go_ret
    exact ⟨rfl, HB.out⟩
end Go.Proofs.YtfkjahpcpmcefaaGreat.Co
namespace Go.Proofs.YtfkjahpcpmcefaaGreat.Co
open Go Go.RowKit
open Qu (Cf)
set_option maxRecDepth 100000
set_option linter.unusedVariables false
set_option maxHeartbeats 400000 in
theorem indexFirst_any (g : FuncId) (cb : Array Value) (p : Int → Bool) (w0 : World) (ht0 : Tells g cb p w0) (eg : ∀ args w, (callFunc g args).run Tryz.prog w = .ok (.enter g args) w)
    (B : Nat) (A : Option Addr) (c n : Nat) (l : List Int) (hn : n = l.length) (hl : n ≤ 100000) (w : World) (hw0 : Below w0.heap.size w0 w) (h0 : IsInts w B A l) (hB : B ≤ w.heap.size) :
    Calls Tryz.prog 87 #[.slice A n c, .func (.func g) #[] cb] w fun e w' => ∃ i : Int, e = .returned (.int .i64 i) ∧ Hid ((i = -1 ∧ l.any p = false) ∨ ∃ (k : Nat) (h : k < l.length), i = k ∧ (l.take k).any p = false ∧ p l[k] = true) ∧ Below w.heap.size w w' := by
  subst hn
  have ht := hid ht0
  have hw := hid hw0
  have h := hid h0
  clear ht0 hw0 h0
  go_enter Tryz.func87, Tryz.ntmps87
  go_wp2
  go_loopw [8] (fun i wr => ∃ k : Nat, k ≤ l.length ∧ i = .int .i64 k ∧ Hid ((l.take k).any p = false) ∧ Hid (Below w.heap.size w wr)) (fun i _ => l.length - (RowKit.intOf i).toNat)
  case atStart => exact ⟨0, by omega, rfl, hid (by simp), hid (Below.refl _ _)⟩
  case round =>
    obtain ⟨k, hk, rfl, hs, hbel⟩ := hrel
    by_cases hlt : k < l.length
    · obtain ⟨b, off, rfl, hb, hcell⟩ := h.out.cells k hlt
      have hck : wr.cell? ⟨b, off + k, none⟩ = some (.int .i64 l[k]) := (hbel.out.cell (p := ⟨b, off + k, none⟩) (by show b < _; omega)).trans (hcell k hlt)
      have hcall := ht.out l[k] (h.out.small _ (List.getElem_mem hlt)) wr (hw.out.trans (hbel.out.mono hw.out.size))
      clear hcell
      cases hp : p l[k]
      · rw [hp] at hcall
        have HP := hid hp
        clear hp
        go_wp2_with (go_at_fn g; refine hcall.mono ?_; rintro e w' ⟨rfl, hb'⟩)
        go_roundw
        case rel =>
          refine ⟨k + 1, by omega, by go_num, hid ?_, hid (bthen hbel.out hb' hbel.out.size)⟩
          rw [List.take_succ_eq_append_getElem hlt, List.any_append, hs.out, Bool.false_or]
          simpa using HP.out
        case measure => simp [RowKit.intOf]; omega
      · rw [hp] at hcall
        have HP := hid hp
        clear hp
        go_wp2_with (go_at_fn g; refine hcall.mono ?_; rintro e w' ⟨rfl, hb'⟩)
        go_ret
        exact ⟨(k : Int), rfl, hid (.inr ⟨k, hlt, rfl, hs.out, HP.out⟩), bthen hbel.out hb' hbel.out.size⟩
    · obtain rfl : k = l.length := by omega
      go_wp2
      go_ret
      refine ⟨-1, rfl, hid (.inl ⟨rfl, ?_⟩), hbel.out⟩
      have := hs.out
      rwa [List.take_length] at this
theorem df_skip {l : List Int} {p : Int → Bool} {j : Nat} (h : j < l.length) (hp : p l[j] = true) : (l.take (j + 1)).filter (fun x => !p x) = (l.take j).filter (fun x => !p x) := by
  rw [List.take_succ_eq_append_getElem h, List.filter_append]; simp [hp]
theorem df_keep {l : List Int} {p : Int → Bool} {j : Nat} (h : j < l.length) (hp : p l[j] = false) : (l.take (j + 1)).filter (fun x => !p x) = (l.take j).filter (fun x => !p x) ++ [l[j]] := by
  rw [List.take_succ_eq_append_getElem h, List.filter_append]; simp [hp]
theorem df_none {l : List Int} {p : Int → Bool} (h : l.any p = false) : l.filter (fun x => !p x) = l := by
  rw [List.filter_eq_self]
  intro x hx
  have := List.any_eq_false.1 h x hx
  simpa using this
structure Df (l : List Int) (p : Int → Bool) (i j : Nat) (L : List Int) : Prop where
  len : L.length = l.length
  ij : i < j
  jn : j ≤ l.length
  ahead : L.take i = (l.take j).filter (fun x => !p x)
  behind : L.drop j = l.drop j
theorem Df.first {l : List Int} {p : Int → Bool} {k : Nat} (h : k < l.length) (ha : (l.take k).any p = false) (hp : p l[k] = true) : Df l p k (k + 1) l :=
  ⟨rfl, by omega, h, by rw [df_skip h hp, df_none ha], rfl⟩
theorem Df.at_ {l : List Int} {p : Int → Bool} {i j : Nat} {L : List Int} (h : Df l p i j L) (hj : j < l.length) : L[j]'(by rw [h.len]; exact hj) = l[j] := by
  have h1 := congrArg (fun q => q[0]?) h.behind
  simp only [List.getElem?_drop, Nat.add_zero] at h1
  rw [List.getElem?_eq_getElem (by rw [h.len]; exact hj), List.getElem?_eq_getElem hj] at h1
  exact Option.some.inj h1
theorem Df.skip {l : List Int} {p : Int → Bool} {i j : Nat} {L : List Int} (h : Df l p i j L) (hj : j < l.length) (hp : p l[j] = true) : Df l p i (j + 1) L :=
  ⟨h.len, by have := h.ij; omega, hj, by rw [h.ahead, df_skip hj hp], by rw [← List.drop_drop, h.behind, List.drop_drop]⟩
theorem Df.keep {l : List Int} {p : Int → Bool} {i j : Nat} {L : List Int} (h : Df l p i j L) (hj : j < l.length) (hp : p l[j] = false) : Df l p (i + 1) (j + 1) (L.set i l[j]) := by
  have hi := h.ij
  have hl := h.len
  refine ⟨by simp [h.len], by omega, hj, ?_, ?_⟩
  · rw [df_keep hj hp, ← h.ahead, List.take_succ_eq_append_getElem (by simp; omega)]
    simp [List.take_set_of_le]
  · rw [List.drop_set_of_lt (by omega), ← List.drop_drop, h.behind, List.drop_drop]
theorem Df.end_ {l : List Int} {p : Int → Bool} {i : Nat} {L : List Int} (h : Df l p i l.length L) : L.take i = l.filter (fun x => !p x) := by
  rw [h.ahead, List.take_length]
set_option maxHeartbeats 1600000 in
theorem deleteFunc_any (g : FuncId) (cb : Array Value) (p : Int → Bool) (w0 : World) (ht0 : Tells g cb p w0) (eg : ∀ args w, (callFunc g args).run Tryz.prog w = .ok (.enter g args) w)
    (A : Option Addr) (c n : Nat) (l : List Int) (hn0 : n = l.length) (hl : n ≤ 100000) (w : World) (hw0 : Below w0.heap.size w0 w) (h0 : OwnsI 3 w w0.heap.size A c l) :
    Calls Tryz.prog 65 #[.slice A n c, .func (.func g) #[] cb] w fun e w' => ∃ n' : Nat, e = .returned (.slice A n' c) ∧ Hid (n' = (l.filter (fun x => !p x)).length) ∧ OwnsI 3 w' w0.heap.size A c (l.filter (fun x => !p x)) ∧ Turned (fun k => blk A = some k) w w' := by
  have HI := hid (indexFirst_any g cb p w0 ht0 eg w.heap.size A c n l hn0 hl w hw0 h0.reads (Nat.le_refl _))
  have hcap := (ownsI_cap h0).2
  have HN := hid hn0
  have H0 := hid (And.intro h0 (And.intro hw0 ht0))
  have hcn : n ≤ c := by omega
  clear h0 hn0 hw0 ht0
  go_enter Tryz.func65, Tryz.ntmps65
  go_wp2_with fail
  refine HI.out.mono ?_
  rintro e w1 ⟨i, rfl, HC, hb1⟩
  have h1 := H0.out.1.below hb1
  have t1 := Turned.ofBelow (fun k => blk A = some k) hb1
  have H1 := hid (And.intro h1 t1)
  clear hb1 h1 t1 HI
  rcases HC.out with ⟨rfl, ha⟩ | ⟨k, hk, rfl, ha, hp⟩
  · have HA := hid ha
    clear ha HC
    go_wp2_with fail
    go_ret
    have e := df_none HA.out
    exact ⟨n, rfl, hid (by rw [e]; exact HN.out), by rw [e]; exact H1.out.1, H1.out.2⟩
  · have HD := hid (Df.first hk ha hp)
    have hneg : ¬ (k : Int) = -1 := by omega
    have hkn : k < n := by rw [HN.out]; exact hk
    clear HC ha hp hk
    go_wp2_with fail
    go_loopw [5, 6] (fun i j wr => ∃ (a b : Nat) (L : List Int), (a < b ∧ b ≤ n) ∧ i = .int .i64 a ∧ j = .int .i64 b ∧ Hid (Df l p a b L ∧ OwnsI 3 wr w0.heap.size A c L ∧ Turned (fun k => blk A = some k) w wr)) (fun _ j _ => n - (RowKit.intOf j).toNat)
    case atStart => exact ⟨k, k + 1, l, ⟨by omega, by omega⟩, rfl, by go_num, hid ⟨HD.out, H1.out.1, H1.out.2⟩⟩
    case round =>
      clear HD H1
      obtain ⟨a, b, L, ⟨hab, hbn⟩, rfl, rfl, HR⟩ := hrel
      have hlow : ∀ W, Turned (fun k => blk A = some k) w W → Below w0.heap.size w0 W := fun W hT => H0.out.2.1.trans (hT.below H0.out.2.1.size (fun k hk => (H0.out.1.blkLt k hk).1))
      by_cases hlt : b < n
      · have hLb : b < L.length := by rw [HR.out.1.len, ← HN.out]; exact hlt
        have hlb : b < l.length := by rw [← HN.out]; exact hlt
        obtain ⟨g0, rfl, hg1, hg2, hck, hfz⟩ := HR.out.2.1.at_ hLb
        have hxx := HR.out.1.at_ hlb
        obtain ⟨x, hx⟩ : ∃ x, x = l[b] := ⟨_, rfl⟩
        rw [hxx, ← hx] at hck
        have hxi : InInt x := by rw [hx]; exact H0.out.1.small _ (List.getElem_mem hlb)
        have hcall := H0.out.2.2 x hxi wr (hlow wr HR.out.2.2)
        cases hp : p x
        · rw [hp] at hcall
          have HP : Hid (p l[b] = false) := hid (by rw [← hx]; exact hp)
          have HX := hid hx
          clear hp hx hxx hfz
          go_wp2_with (go_at_fn g; refine hcall.mono ?_; rintro e w' ⟨rfl, hb'⟩; have HO := hid (And.intro (HR.out.2.1.below hb') hb'); obtain ⟨g9, e9, _, _, hca, hfa⟩ := HO.out.1.at_ (k := a) (by omega); obtain rfl : g0 = g9 := (by injection e9 with e9; injection e9))
          go_roundw
          case rel =>
            refine ⟨_, _, _, _, _, _, _, _, _, _, _, _, _, _, _, _, _, _, _, _, _, _, _, ?_, rfl⟩
            refine ⟨a + 1, b + 1, L.set a x, ⟨by omega, by omega⟩, by go_num, by go_num, hid ⟨by rw [HX.out]; exact HR.out.1.keep hlb HP.out, HO.out.1.set_ a x hxi, ?_⟩⟩
            exact (HR.out.2.2.trans (Turned.ofBelow _ HO.out.2)).trans ((Turned.one _ g0 a _).mono (fun k hk => by rw [hk]; rfl))
          case measure => simp [RowKit.intOf]; omega
        · rw [hp] at hcall
          have HP : Hid (p l[b] = true) := hid (by rw [← hx]; exact hp)
          clear hp hx hxx hfz
          go_wp2_with (go_at_fn g; refine hcall.mono ?_; rintro e w' ⟨rfl, hb'⟩; have HO := hid hb')
          go_roundw
          case rel =>
            refine ⟨_, _, _, _, _, _, _, _, _, _, _, _, _, _, _, _, _, _, _, _, _, _, _, ?_, rfl⟩
            exact ⟨a, b + 1, L, ⟨by omega, by omega⟩, rfl, by go_num, hid ⟨HR.out.1.skip hlb HP.out, HR.out.2.1.below HO.out, HR.out.2.2.trans (Turned.ofBelow _ HO.out)⟩⟩
          case measure => simp [RowKit.intOf]; omega
      · obtain rfl : b = n := by omega
        have hLa : a < L.length := by rw [HR.out.1.len, ← HN.out]; exact hab
        have hLn : L.length = b := by rw [HR.out.1.len, ← HN.out]
        obtain ⟨g0, rfl, hg1, hg2, hck, hfz⟩ := HR.out.2.1.at_ hLa
        have hca : ¬ c = a := by omega
        have hac : a ≤ c := by omega
        obtain ⟨zs, hzs⟩ : ∃ zs : List Value, (Builtin.zeroCells (Value.cells (.int .i64 0)) (b - a)).toList = zs := ⟨_, rfl⟩
        have hzl : zs.length = b - a := by rw [← hzs, Array.length_toList, size_zeroCells]; simp [Value.cells]
        have hz1 : ∀ u ∈ zs, u.oneCell' = true := by
          intro u hu
          rw [← hzs] at hu
          obtain ⟨i, _, rfl⟩ : ∃ i, i < b - a ∧ (Value.cells (.int .i64 0))[i % 1]! = u := by simpa [Builtin.zeroCells, Value.cells] using hu
          rw [Nat.mod_one]; rfl
        have hat : ∀ j, j < zs.length → (wr.cell? ⟨g0, a + j, none⟩).isSome = true ∧ wr.frozen? ⟨g0, a + j, none⟩ = false := fun j hj => by
          obtain ⟨g9, e9, _, _, hc9, hf9⟩ := HR.out.2.1.at_ (k := a + j) (by omega)
          obtain rfl : g0 = g9 := (by injection e9 with e9; injection e9)
          exact ⟨by rw [hc9]; rfl, hf9⟩
        have hcl2 : ∀ ty, (Builtin.clear_ #[22] ty #[.slice (some ⟨g0, a, none⟩) (b - a) (c - a)]).run Tryz.prog wr = .ok (.tuple #[]) (wr.setCells g0 a zs) := fun ty =>
          run_clear_sliceN wr _ 3 ty (.int .i64 0) zs _ _ Tryz.underlying22 (fun w => by kernel_rfl) hzs hz1 g0 a (by omega) (fun j hj => (hat j hj).1) (fun j hj => (hat j hj).2)
        have hrow := HR.out.2.1.row
        rw [hLn] at hrow
        have hrow2 := ownsRow_shrink (ownsRow_setCells zs wr _ a hrow) (show a ≤ b by omega)
        rw [setL_ahead _ _ _ _ (by omega)] at hrow2
        have hfin : (ints L).take (a * 1) = ints (l.filter (fun x => !p x)) := by
          have hd := HR.out.1
          rw [HN.out] at hd
          rw [Nat.mul_one, ← hd.end_]
          unfold ints
          rw [List.map_take]
        have hla : a = (l.filter (fun x => !p x)).length := by
          have hd := HR.out.1
          rw [HN.out] at hd
          rw [← hd.end_, List.length_take]; omega
        rw [hfin] at hrow2
        have ht2 := HR.out.2.2.trans ((turned_setCells g0 zs wr a).mono (fun k hk => by rw [hk]; rfl))
        have HZ := hid (And.intro hrow2 (And.intro ht2 hla))
        clear hck hfz hrow hrow2 hfin ht2 hla hat hz1 hzl hzs hLn
        go_wp2_with fail
        go_ret
        refine ⟨a, rfl, hid HZ.out.2.2, ⟨fun x hx => H0.out.1.small x (List.mem_filter.1 hx).1, ?_⟩, HZ.out.2.1⟩
        rw [← HZ.out.2.2]
        exact HZ.out.1
end Go.Proofs.YtfkjahpcpmcefaaGreat.Co
