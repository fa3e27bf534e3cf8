/- Appends of a byte in a region whose order is open. -/
import Derived.Test.YtdmghnfnmgkigaaGrown
import Derived.Deep.RegionHeld3
import Derived.Deep.AppendLies
import Derived.Deep.MidRow
import Derived.Deep.RegionLaw
namespace Go.Proofs.Ytdmghnfnmgkigaa
open Go.RowKit

theorem wp_append_byteN {P : Program} {w : World} {o : Oper} {a : Act} {K : Act → World → Prop} {Q : Exit → Act → World → Prop} (s x : Operand) (t : TypeId)
    (ho : o.op = .call { callee := .builtin .append, args := #[s, x], argTypes := #[t, t] })
    (base : Nat) (e : TypeId) (i : TypeInfo) (ht : P.underlying t = some (.slice e)) (hi : P.info? e = some i) (hz : i.zero = some (.int .u8 0)) (hsize : i.size = 1) (hby : i.bytes = 1)
    (A : Option Addr) (c : Nat) (l : List Nat) (n : Nat) (hln : l.length = n) (hs : a.eval s = .slice A n c) (hown : OwnsB e w base A c l)
    (ad : Addr) (c' : Nat) (y : Nat) (v : Int) (hyv : v = (y : Int)) (hy : y < 256) (hx : a.eval x = .slice (some ad) 1 c') (hc : w.cell? ad = some (.int .u8 v))
    (L : List Nat) (hL : l ++ [y] = L) (hbytes : n + 1 ≤ 140737488355328) (hbase : base ≤ w.heap.size)
    (h : ∀ A2 c2 w', OwnsB e w' base A2 c2 L → Below base w w' → w.grownBy w' (blk A) → (blk A2 = blk A ∨ blk A2 = some w.heap.size) → K (a.put o.dst (.slice A2 (n + 1) c2)) w') : o.wp P a w K Q := by
  subst hln
  subst hL
  subst hyv
  obtain ⟨v', w', hr, h1, h2, _, h4⟩ := run_append_own_at (P := P) w base t o.type e i (.int .u8 0) 1 1 ht hi hz hsize hby rfl (by decide) _ l.length (bytes l) hown.row ad 1 c' [.int .u8 (y : Int)] rfl
    (fun j u hj => by
      match j, hj with
      | 0, hj => simp at hj; subst hj; simpa [Addr.add] using hc) (fun u hu => by simp at hu; subst hu; rfl) (by unfold maxLen; omega) (by omega) hbase
  obtain ⟨A2, c2, rfl⟩ := own_slice h1
  have e2 : bytes l ++ [Value.int .u8 (y : Int)] = bytes (l ++ [y]) := by unfold bytes; simp
  rw [e2] at h1
  rw [ownBlock_slice, ownBlock_slice] at h4
  unfold Oper.wp execOp
  simp only [ho, resolve, invoke, builtin, Sem.run_bind, Sem.run_pure, Result.andThen_ok, List.map_toArray, List.map_cons, List.map_nil, hs, hx, hr]
  refine h A2 c2 w' ⟨fun z hz => ?_, by rw [List.length_append]; exact h1⟩ (below_grown h2 hbase fun k hk => (hown.row.lt k hk).1) (by rw [← ownBlock_slice A l.length c]; exact h2) h4
  rcases List.mem_append.1 hz with hz | hz
  · exact hown.small z hz
  · simp at hz; subst hz; exact hy
theorem step_append_byteN {P : Program} {w : World} {ops : Array Oper} {o : Oper} {a : Act} {K : Act → World → Prop} {Q : Exit → Act → World → Prop} {E : Prop} (hgd : o.guard = none) (s x : Operand) (t : TypeId)
    (ho : o.op = .call { callee := .builtin .append, args := #[s, x], argTypes := #[t, t] })
    (base : Nat) (e : TypeId) (i : TypeInfo) (ht : P.underlying t = some (.slice e)) (hi : P.info? e = some i) (hz : i.zero = some (.int .u8 0)) (hsize : i.size = 1) (hby : i.bytes = 1)
    (A : Option Addr) (c : Nat) (l : List Nat) (n : Nat) (hln : l.length = n) (hs : a.eval s = .slice A n c) (hown : OwnsB e w base A c l)
    (ad : Addr) (c' : Nat) (y : Nat) (v : Int) (hyv : v = (y : Int)) (hy : y < 256) (hx : a.eval x = .slice (some ad) 1 c') (hc : w.cell? ad = some (.int .u8 v))
    (L : List Nat) (hL : l ++ [y] = L) (hbytes : n + 1 ≤ 140737488355328) (hbase : base ≤ w.heap.size)
    (h : ∀ A2 c2 w', OwnsB e w' base A2 c2 L → Below base w w' → w.grownBy w' (blk A) → (blk A2 = blk A ∨ blk A2 = some w.heap.size) → K (a.put o.dst (.slice A2 (n + 1) c2)) w') :
    if Region.wanted o (yielded ops a.tmps) = true then Oper.wp P o a w K Q else E := by
  have hw : Region.wanted o (yielded ops a.tmps) = true := by simp [Region.wanted, hgd]
  rw [if_pos hw]
  exact wp_append_byteN s x t ho base e i ht hi hz hsize hby A c l n hln hs hown ad c' y v hyv hy hx hc L hL hbytes hbase h
theorem OwnsB.readsB {e : TypeId} {w : World} {base c top : Nat} {A : Option Addr} {l : List Nat} (h : OwnsB e w base A c l) (ht : ∀ k, blk A = some k → k < top) : IsBytes w top A l := by
  refine ⟨h.small, fun k hk => ?_⟩
  obtain ⟨b, off, e, _, hc⟩ := h.reads.cells k hk
  exact ⟨b, off, e, ht b (by rw [e]; rfl), hc⟩
end Go.Proofs.Ytdmghnfnmgkigaa
