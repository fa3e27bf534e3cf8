/- Texts of the proof, one behind the other: Region, RefRd, RefReader2, RefRdInt, RefReader, RefReader3, RefRdNew, RefReader4, RfGetA, RfGetB, RfGetC, ImInD, RfGetF, RqI, RqD, RfGetE, RfAhead, RfOrd. -/
import Derived.Test.YtaeoccpjdjafnaaGreatBaseAA
import Derived.Deep.RegionHeld3
import Derived.Deep.AppendLies
import Derived.Deep.MidRow
import Derived.Deep.RegionLaw
import Derived.Test.YtaeoccpjdjafnaaGreatBaseAB
import Derived.IntWalk
import Derived.Test.YtaeoccpjdjafnaaGreatBaseAC
import Derived.Test.YtaeoccpjdjafnaaGreatBaseAD
import Derived.StillTailTactics
import Derived.BigQuiet
import Derived.Test.YtaeoccpjdjafnaaGreatBaseAF
namespace Go.Proofs.YtaeoccpjdjafnaaGreat
open Go.RowKit

theorem wp_append_byteN {P : Program} {w : World} {o : Oper} {a : Act} {K : Act → World → Prop} {Q : Exit → Act → World → Prop} (s x : Operand) (t : TypeId)
    (ho : o.op = .call { callee := .builtin .append, args := #[s, x], argTypes := #[t, t] })
    (base : Nat) (e : TypeId) (i : TypeInfo) (ht : P.underlying t = some (.slice e)) (hi : P.info? e = some i) (hz : i.zero = some (.int .u8 0)) (hsize : i.size = 1) (hby : i.bytes = 1)
    (A : Option Addr) (c : Nat) (l : List Nat) (n : Nat) (hln : l.length = n) (hs : a.eval s = .slice A n c) (hown : OwnsB e w base A c l)
    (ad : Addr) (c' : Nat) (y : Nat) (v : Int) (hyv : v = (y : Int)) (hy : y < 256) (hx : a.eval x = .slice (some ad) 1 c') (hc : w.cell? ad = some (.int .u8 v))
    (L : List Nat) (hL : l ++ [y] = L) (hbytes : n + 1 ≤ 140737488355328) (hbase : base ≤ w.heap.size)
    (h : ∀ A2 c2 w', OwnsB e w' base A2 c2 L → Below base w w' → w.grownBy w' (blk A) → (blk A2 = blk A ∨ blk A2 = some w.heap.size) → K (a.put o.dst (.slice A2 (n + 1) c2)) w') : o.wp P a w K Q := by
  subst hln
  subst hL
  subst hyv
  obtain ⟨v', w', hr, h1, h2, _, h4⟩ := run_append_own_at (P := P) w base t o.type e i (.int .u8 0) 1 1 ht hi hz hsize hby rfl (by decide) _ l.length (bytes l) hown.row ad 1 c' [.int .u8 (y : Int)] rfl
    (fun j u hj => by
      match j, hj with
      | 0, hj => simp at hj; subst hj; simpa [Addr.add] using hc) (fun u hu => by simp at hu; subst hu; rfl) (by unfold maxLen; omega) (by omega) hbase
  obtain ⟨A2, c2, rfl⟩ := own_slice h1
  have e2 : bytes l ++ [Value.int .u8 (y : Int)] = bytes (l ++ [y]) := by unfold bytes; simp
  rw [e2] at h1
  rw [ownBlock_slice, ownBlock_slice] at h4
  unfold Oper.wp execOp
  simp only [ho, resolve, invoke, builtin, Sem.run_bind, Sem.run_pure, Result.andThen_ok, List.map_toArray, List.map_cons, List.map_nil, hs, hx, hr]
  refine h A2 c2 w' ⟨fun z hz => ?_, by rw [List.length_append]; exact h1⟩ (below_grown h2 hbase fun k hk => (hown.row.lt k hk).1) (by rw [← ownBlock_slice A l.length c]; exact h2) h4
  rcases List.mem_append.1 hz with hz | hz
  · exact hown.small z hz
  · simp at hz; subst hz; exact hy
theorem step_append_byteN {P : Program} {w : World} {ops : Array Oper} {o : Oper} {a : Act} {K : Act → World → Prop} {Q : Exit → Act → World → Prop} {E : Prop} (hgd : o.guard = none) (s x : Operand) (t : TypeId)
    (ho : o.op = .call { callee := .builtin .append, args := #[s, x], argTypes := #[t, t] })
    (base : Nat) (e : TypeId) (i : TypeInfo) (ht : P.underlying t = some (.slice e)) (hi : P.info? e = some i) (hz : i.zero = some (.int .u8 0)) (hsize : i.size = 1) (hby : i.bytes = 1)
    (A : Option Addr) (c : Nat) (l : List Nat) (n : Nat) (hln : l.length = n) (hs : a.eval s = .slice A n c) (hown : OwnsB e w base A c l)
    (ad : Addr) (c' : Nat) (y : Nat) (v : Int) (hyv : v = (y : Int)) (hy : y < 256) (hx : a.eval x = .slice (some ad) 1 c') (hc : w.cell? ad = some (.int .u8 v))
    (L : List Nat) (hL : l ++ [y] = L) (hbytes : n + 1 ≤ 140737488355328) (hbase : base ≤ w.heap.size)
    (h : ∀ A2 c2 w', OwnsB e w' base A2 c2 L → Below base w w' → w.grownBy w' (blk A) → (blk A2 = blk A ∨ blk A2 = some w.heap.size) → K (a.put o.dst (.slice A2 (n + 1) c2)) w') :
    if Region.wanted o (yielded ops a.tmps) = true then Oper.wp P o a w K Q else E := by
  have hw : Region.wanted o (yielded ops a.tmps) = true := by simp [Region.wanted, hgd]
  rw [if_pos hw]
  exact wp_append_byteN s x t ho base e i ht hi hz hsize hby A c l n hln hs hown ad c' y v hyv hy hx hc L hL hbytes hbase h
theorem OwnsB.readsB {e : TypeId} {w : World} {base c top : Nat} {A : Option Addr} {l : List Nat} (h : OwnsB e w base A c l) (ht : ∀ k, blk A = some k → k < top) : IsBytes w top A l := by
  refine ⟨h.small, fun k hk => ?_⟩
  obtain ⟨b, off, e, _, hc⟩ := h.reads.cells k hk
  exact ⟨b, off, e, ht b (by rw [e]; rfl), hc⟩
end Go.Proofs.YtaeoccpjdjafnaaGreat
namespace Go.Proofs.YtaeoccpjdjafnaaGreat
open Go.RowKit
set_option maxRecDepth 100000

/-- what is left of bytes, read up to a place -/
def leftOf (B : List Nat) (at' : Nat) (bad : Bool) : List Nat := if bad = true then [] else B.drop at'
/-- the document's reader at block g: its bytes lie behind it, ahead of top -/
structure RefR (w : World) (g top : Nat) (B : List Nat) (at' : Nat) (bad : Bool) : Prop where
  at_ : ∃ A c, w.heap[g]? = some (.cells #[.slice A B.length c, .int .i64 (at' : Int), .bool bad] 103 (0, 0)) ∧ OwnsB 5 w (g + 1) A c B ∧ (∀ k, blk A = some k → k < top)
  le : at' ≤ B.length
  short : B.length ≤ 1000000
  top_ : g < top ∧ top ≤ w.heap.size

namespace RefR
variable {w w' : World} {g top : Nat} {B : List Nat} {at' : Nat} {bad : Bool}
theorem other {row : Option Nat} (h : RefR w g top B at' bad) (hG : w.grownBy w' row) (hr : ∀ k, row = some k → k < g ∨ top ≤ k) : RefR w' g top B at' bad := by
  obtain ⟨A, c, h1, h2, h3⟩ := h.at_
  refine ⟨⟨A, c, ?_, ⟨h2.small, h2.row.kept hG ?_⟩, h3⟩, h.le, h.short, h.top_.1, Nat.le_trans h.top_.2 hG.size⟩
  · rw [hG.block g (by have := h.top_; omega) (fun e => by have := hr g e.symm; have := h.top_; omega)]
    exact h1
  · rw [ownBlock_slice]
    rcases hb : blk A with _ | k
    · exact .inl rfl
    · refine .inr (fun e => ?_)
      have h4 := hr k e.symm
      have h5 := h3 k hb
      have h6 := h2.blkLt k hb
      omega
theorem below (h : RefR w g top B at' bad) (hb : Below w.heap.size w w') : RefR w' g top B at' bad := h.other (grown_below hb none) (fun k e => by cases e)
theorem belowB {b0 : Nat} (h : RefR w g top B at' bad) (hb : Below b0 w w') (h0 : top ≤ b0) : RefR w' g top B at' bad := by
  obtain ⟨A, c, h1, h2, h3⟩ := h.at_
  refine ⟨⟨A, c, (hb.block g (by have := h.top_; omega)).trans h1, ⟨h2.small, h2.row.1, ?_⟩, h3⟩, h.le, h.short, h.top_.1, Nat.le_trans h.top_.2 hb.size⟩
  rcases h2.row.2 with hn | ⟨g', cap, cur, hv, hb', hh, rest⟩
  · exact .inl hn
  · refine .inr ⟨g', cap, cur, hv, hb', (hb.block g' ?_).trans hh, rest⟩
    have : blk A = some g' := by
      injection hv with hv
      rw [hv]; rfl
    have := h3 g' this
    omega
theorem drewN (h : RefR w g top B at' bad) (n : Nat) : RefR (w.drewN n) g top B at' bad := h.below (below_drewN (Below.refl _ _) n)
theorem cells (h : RefR w g top B at' bad) : ∃ A c, w.cell? ⟨g, 0, none⟩ = some (.slice A B.length c) ∧ w.cell? ⟨g, 1, none⟩ = some (.int .i64 (at' : Int)) ∧ w.cell? ⟨g, 2, none⟩ = some (.bool bad) ∧ IsBytes w top A B ∧ B.length ≤ c := by
  obtain ⟨A, c, h1, h2, h3⟩ := h.at_
  exact ⟨A, c, row_cell h1 0, row_cell h1 1, row_cell h1 2, h2.readsB h3, h2.cap⟩
theorem free (h : RefR w g top B at' bad) (i : Nat) : w.frozen? ⟨g, i, none⟩ = false := by
  obtain ⟨A, c, h1, h2, h3⟩ := h.at_
  exact row_free h1 i
theorem setBad (h : RefR w g top B at' bad) (b : Bool) : RefR (w.setCell ⟨g, 2, none⟩ (.bool b)) g top B at' b ∧ w.grownBy (w.setCell ⟨g, 2, none⟩ (.bool b)) (some g) := by
  obtain ⟨A, c, h1, h2, h3⟩ := h.at_
  have hG := grown_setCell w g 2 (.bool b)
  exact ⟨⟨⟨A, c, row_set h1 2 _, h2.grown hG (fun k hk => by injection hk with hk; omega), h3⟩, h.le, h.short, h.top_.1, Nat.le_trans h.top_.2 hG.size⟩, hG⟩
theorem setAt (h : RefR w g top B at' bad) (a2 : Nat) (ha : a2 ≤ B.length) : RefR (w.setCell ⟨g, 1, none⟩ (.int .i64 (a2 : Int))) g top B a2 bad ∧ w.grownBy (w.setCell ⟨g, 1, none⟩ (.int .i64 (a2 : Int))) (some g) := by
  obtain ⟨A, c, h1, h2, h3⟩ := h.at_
  have hG := grown_setCell w g 1 (.int .i64 (a2 : Int))
  exact ⟨⟨⟨A, c, row_set h1 1 _, h2.grown hG (fun k hk => by injection hk with hk; omega), h3⟩, ha, h.short, h.top_.1, Nat.le_trans h.top_.2 hG.size⟩, hG⟩
end RefR

set_option maxRecDepth 100000 in
set_option maxHeartbeats 400000 in
theorem refLeft_any (g top : Nat) (B : List Nat) (at' : Nat) (bad : Bool) (w : World) (h : RefR w g top B at' bad) :
    Calls Tryz.prog 115 #[.pointer (some ⟨g, 0, none⟩)] w fun e w' => e = .returned (.int .i64 ((leftOf B at' bad).length : Nat)) ∧ ∃ n, w' = w.drewN n := by
  obtain ⟨A, c, hc0, hc1, hc2, _, hc⟩ := h.cells
  have hle := h.le
  have hsh := h.short
  clear h
  cases bad
  · go_enter Tryz.func115, Tryz.ntmps115
    go_wp2
    go_quiet (fail)
    go_wp2
    go_ret
    exact ⟨ret_int (by simp [leftOf]; omega), _, rfl⟩
  · go_enter Tryz.func115, Tryz.ntmps115
    go_wp2
    go_ret
    exact ⟨ret_int (by simp [leftOf]), 0, rfl⟩

end Go.Proofs.YtaeoccpjdjafnaaGreat
namespace Go.Proofs.YtaeoccpjdjafnaaGreat
open Go.RowKit
set_option maxRecDepth 100000

theorem u64_wrap' (v : Int) : IntKind.u64.wrap v = v % 18446744073709551616 := by simp [IntKind.wrap, IntKind.signed, IntKind.bits]
theorem leftOf_get (B : List Nat) (at' k : Nat) (h : at' + k < B.length) : (B.drop at').take (k + 1) = (B.drop at').take k ++ [B[at' + k]] := by
  rw [List.take_succ_eq_append_getElem (by rw [List.length_drop]; omega), List.getElem_drop]

set_option maxRecDepth 100000 in
set_option maxHeartbeats 800000 in
theorem refRInt_short (g top : Nat) (B : List Nat) (at' : Nat) (bad : Bool) (w : World) (h : RefR w g top B at' bad) (hl : (leftOf B at' bad).length < 8) :
    Calls Tryz.prog 72 #[.pointer (some ⟨g, 0, none⟩)] w fun e w' => e = .returned (.int .i64 0) ∧ RefR w' g top B at' true ∧ w.grownBy w' (some g) := by
  have HL := hid (refLeft_any g top B at' bad w h)
  have HE := hid hl
  have H := hid h
  obtain ⟨A, c, hc0, hc1, hc2, _, hc⟩ := h.cells
  have hf2 := h.free 2
  clear h
  go_enter Tryz.func72, Tryz.ntmps72
  go_wp2_with fail
  refine HL.out.mono ?_
  rintro e w1 ⟨rfl, n, rfl⟩
  have HB := hid ((H.out.drewN n).setBad true)
  go_wp2_with fail
  go_ret
  exact ⟨rfl, HB.out.1, (grown_drewN (grown_refl _ _) n).trans HB.out.2⟩

set_option maxRecDepth 100000 in
set_option maxHeartbeats 1600000 in
theorem refRInt_long (g top : Nat) (B : List Nat) (at' : Nat) (w : World) (h : RefR w g top B at' false) (hl : at' + 8 ≤ B.length) :
    Calls Tryz.prog 72 #[.pointer (some ⟨g, 0, none⟩)] w fun e w' => e = .returned (.int .i64 (Pk.sgn (Pk.num ((B.drop at').take 8)))) ∧ RefR w' g top B (at' + 8) false ∧ w.grownBy w' (some g) := by
  have HL := hid (refLeft_any g top B at' false w h)
  have hll : (leftOf B at' false).length = B.length - at' := by simp [leftOf]
  rw [hll] at HL
  have H := hid h
  have hle := h.le
  have hsh := h.short
  clear h hll
  go_enter Tryz.func72, Tryz.ntmps72
  go_wp2_with fail
  refine HL.out.mono ?_
  rintro e w1 ⟨rfl, n1, rfl⟩
  go_wp2_with fail
  go_loopw [3, 4] (fun v i wr => ∃ k n m : Nat, k ≤ 8 ∧ i = .int .i64 k ∧ v = .int .u64 (n : Int) ∧ wr = w.drewN m ∧ Hid (n = Pk.num ((B.drop at').take k))) (fun _ i _ => 8 - (RowKit.intOf i).toNat)
  case atStart => exact ⟨0, 0, n1, by omega, rfl, rfl, rfl, hid rfl⟩
  case round =>
    obtain ⟨k, n, m, hk, rfl, rfl, rfl, hs⟩ := hrel
    by_cases hlt : k < 8
    · obtain ⟨A, c, hc0, hc1, hc2, hb, hc⟩ := H.out.cells
      obtain ⟨b, off, rfl, _, hcell⟩ := hb.cells (at' + k) (by omega)
      have hck := hcell (at' + k) (by omega)
      have hb8 := hb.small B[at' + k] (List.getElem_mem _)
      have hn7 : n < 72057594037927936 := by
        rw [hs.out]
        have h1 := Pk.num_lt ((B.drop at').take k) (fun x hx => hb.small x (List.mem_of_mem_drop (List.mem_of_mem_take hx)))
        have h2 : ((B.drop at').take k).length ≤ 7 := by rw [List.length_take]; omega
        have h3 : 256 ^ ((B.drop at').take k).length ≤ 256 ^ 7 := Nat.pow_le_pow_right (by decide) h2
        have h4 : 256 ^ 7 = 72057594037927936 := by decide
        omega
      have hkl : at' + k < B.length := by omega
      have e1 : IntKind.i64.wrap ((at' : Int) + (k : Int)) = (at' : Int) + (k : Int) := IntWalk.i64_in _ (by omega)
      have e2 : IntKind.u64.wrap ((n : Int) * 256) = (n : Int) * 256 := by rw [u64_wrap']; omega
      have e3 : IntKind.u64.wrap ((n : Int) * 256 + (B[at' + k] : Int)) = (n : Int) * 256 + (B[at' + k] : Int) := by rw [u64_wrap']; omega
      have e4 : ((at' : Int) + (k : Int)).toNat = at' + k := by omega
      have e5 : 0 ≤ (at' : Int) + (k : Int) := by omega
      clear hcell hb
      go_wp2
      go_quiet (fail)
      clear e1 e2 e3 e4 e5
      go_wp2
      go_roundw
      case rel => exact ⟨k + 1, n * 256 + B[at' + k], _, by omega, by go_num, by go_num, rfl, by
        show _ = _
        rw [leftOf_get B at' k hkl, Pk.num_snoc, ← hs.out]⟩
      case measure => simp [RowKit.intOf] <;> omega
    · obtain rfl : k = 8 := by omega
      have hw := H.out.drewN m
      obtain ⟨A, c, hc0, hc1, hc2, hb, hc⟩ := hw.cells
      have hf1 := hw.free 1
      have HA : Hid (RefR ((w.drewN m).setCell ⟨g, 1, none⟩ (.int .i64 ((at' : Int) + 8))) g top B (at' + 8) false ∧ (w.drewN m).grownBy ((w.drewN m).setCell ⟨g, 1, none⟩ (.int .i64 ((at' : Int) + 8))) (some g)) := hw.setAt (at' + 8) hl
      have hn : n < 18446744073709551616 := by
        rw [hs.out]
        exact Pk.take_num_lt _ (fun x hx => hb.small x (List.mem_of_mem_drop hx))
      have hv : wrap64 (n : Int) = Pk.sgn (Pk.num ((B.drop at').take 8)) := by rw [wrap64_sgn n hn, hs.out]
      have HV := hid hv
      clear hw hb hn hv
      go_wp2
      go_ret
      exact ⟨ret_int HV.out, HA.out.1, (grown_drewN (grown_refl _ _) m).trans HA.out.2⟩
end Go.Proofs.YtaeoccpjdjafnaaGreat
namespace Go.Proofs.YtaeoccpjdjafnaaGreat
open Go.RowKit
set_option maxRecDepth 100000

/-- the document's reader as a reader -/
def stOf (B : List Nat) (at' : Nat) (bad : Bool) : Pk.St := ⟨leftOf B at' bad, bad⟩

theorem stOf_short (B : List Nat) (at' : Nat) (bad : Bool) (hl : (leftOf B at' bad).length < 8) : Pk.rdInt (stOf B at' bad) = (0, Pk.gone) := by
  unfold Pk.rdInt stOf; rw [if_pos hl]
theorem stOf_long (B : List Nat) (at' : Nat) (hl : at' + 8 ≤ B.length) : Pk.rdInt (stOf B at' false) = (Pk.sgn (Pk.num ((B.drop at').take 8)), stOf B (at' + 8) false) := by
  unfold Pk.rdInt stOf leftOf
  rw [if_neg (by simp; omega)]
  simp
theorem stOf_cases (B : List Nat) (at' : Nat) (bad : Bool) : (leftOf B at' bad).length < 8 ∨ (bad = false ∧ at' + 8 ≤ B.length) := by
  cases bad
  · by_cases h : at' + 8 ≤ B.length
    · exact .inr ⟨rfl, h⟩
    · left; simp [leftOf]; omega
  · left; simp [leftOf]
theorem stOf_bad (B : List Nat) (at' : Nat) : stOf B at' true = Pk.gone := rfl

set_option maxRecDepth 100000 in
set_option maxHeartbeats 400000 in
theorem refRInt_any (g top : Nat) (B : List Nat) (at' : Nat) (bad : Bool) (w : World) (h : RefR w g top B at' bad) :
    Calls Tryz.prog 72 #[.pointer (some ⟨g, 0, none⟩)] w fun e w' => ∃ a2 b2, e = .returned (.int .i64 (Pk.rdInt (stOf B at' bad)).1) ∧ RefR w' g top B a2 b2 ∧ stOf B a2 b2 = (Pk.rdInt (stOf B at' bad)).2 ∧ w.grownBy w' (some g) := by
  rcases stOf_cases B at' bad with hl | ⟨rfl, hl⟩
  · refine (refRInt_short g top B at' bad w h hl).mono fun e w' ⟨he, hR, hG⟩ => ⟨at', true, ?_, hR, ?_, hG⟩
    · rw [stOf_short B at' bad hl]; exact he
    · rw [stOf_short B at' bad hl]; rfl
  · refine (refRInt_long g top B at' w h hl).mono fun e w' ⟨he, hR, hG⟩ => ⟨at' + 8, false, ?_, hR, ?_, hG⟩
    · rw [stOf_long B at' hl]; exact he
    · rw [stOf_long B at' hl]

end Go.Proofs.YtaeoccpjdjafnaaGreat
namespace Go.Proofs.YtaeoccpjdjafnaaGreat
open Go.RowKit

set_option maxHeartbeats 400000 in
theorem refEnd_any (g top : Nat) (B : List Nat) (at' : Nat) (bad : Bool) (w : World) (h : RefR w g top B at' bad) :
    Calls Tryz.prog 77 #[.pointer (some ⟨g, 0, none⟩)] w fun e w' => e = .returned (.int .i64 (endOf ⟨leftOf B at' bad, bad⟩)) ∧ ∃ n, w' = w.drewN n := by
  obtain ⟨A, c, hc0, hc1, hc2, _, hc⟩ := h.cells
  have HL := hid (refLeft_any g top B at' bad w h)
  clear h
  cases bad
  · by_cases hl : 0 < (leftOf B at' false).length
    · have HE := hid hl
      go_enter Tryz.func77, Tryz.ntmps77
      go_wp2_with fail
      refine HL.out.mono ?_
      rintro e w1 ⟨rfl, n, rfl⟩
      go_wp2_with fail
      go_ret
      exact ⟨ret_int (by simp [endOf, HE.out]), n, rfl⟩
    · have hl' : (leftOf B at' false).length = 0 := by omega
      have HE := hid hl'
      clear hl'
      go_enter Tryz.func77, Tryz.ntmps77
      go_wp2_with fail
      refine HL.out.mono ?_
      rintro e w1 ⟨rfl, n, rfl⟩
      go_wp2_with fail
      go_ret
      exact ⟨ret_int (by simp [endOf, HE.out]), n, rfl⟩
  · go_enter Tryz.func77, Tryz.ntmps77
    go_wp2_with fail
    go_ret
    exact ⟨ret_int (by simp [endOf]), 0, rfl⟩
end Go.Proofs.YtaeoccpjdjafnaaGreat
namespace Go.Proofs.YtaeoccpjdjafnaaGreat
open Go.RowKit

theorem drop_take_snoc (B : List Nat) (p k : Nat) (h : p + k < B.length) : (B.drop p).take k ++ [B[p + k]] = (B.drop p).take (k + 1) := (leftOf_get B p k h).symm

set_option maxRecDepth 100000 in
set_option maxHeartbeats 1600000 in
theorem refRBlob_any (g top : Nat) (B : List Nat) (at' : Nat) (bad : Bool) (w : World) (h : RefR w g top B at' bad) :
    Calls Tryz.prog 75 #[.pointer (some ⟨g, 0, none⟩)] w fun e w' => ∃ a2 b2 A' c', e = .returned (.slice A' (Pk.rdBlob (stOf B at' bad)).1.length c') ∧ OwnsB 5 w' w.heap.size A' c' (Pk.rdBlob (stOf B at' bad)).1 ∧
      RefR w' g top B a2 b2 ∧ stOf B a2 b2 = (Pk.rdBlob (stOf B at' bad)).2 ∧ w.grownBy w' (some g) := by
  obtain ⟨i0, hi, hz0, hz1, hz2⟩ := info_parts info_u8
  have hgt := h.top_
  rcases stOf_cases B at' bad with hl | ⟨rfl, hl⟩
  · have HE : Hid (Pk.rdBlob (stOf B at' bad) = ([], Pk.gone)) := by
      show _ = _
      unfold Pk.rdBlob; rw [stOf_short B at' bad hl]; rfl
    have HI := hid (refRInt_short g top B at' bad w h hl)
    clear h hl
    go_enter Tryz.func75, Tryz.ntmps75
    go_wp2_with fail
    refine HI.out.mono ?_
    rintro e w1 ⟨rfl, hR, hG⟩
    obtain ⟨A, c, hc0, hc1, hc2, _, hc⟩ := hR.cells
    have hf2 := hR.free 2
    have HB := hid (hR.setBad true)
    clear hR
    go_wp2_with fail
    go_ret
    rw [HE.out]
    exact ⟨at', true, none, 0, rfl, OwnsB.nil _ _ _, HB.out.1, rfl, hG.trans HB.out.2⟩
  · have HI := hid (refRInt_long g top B at' w h hl)
    have HBL : Hid (Pk.rdInt (stOf B at' false) = (Pk.sgn (Pk.num ((B.drop at').take 8)), stOf B (at' + 8) false)) := stOf_long B at' hl
    have hsm := h.cells
    obtain ⟨_, _, _, _, _, hbs, _⟩ := hsm
    have hvin := Pk.sgn_in _ (Pk.take_num_lt (B.drop at') (fun x hx => hbs.small x (List.mem_of_mem_drop hx)))
    have hsmall := hbs.small
    have HSM := hid hsmall
    have hsh := h.short
    clear h hbs hsmall
    obtain ⟨v, hv⟩ : ∃ v, v = Pk.sgn (Pk.num ((B.drop at').take 8)) := ⟨_, rfl⟩
    rw [← hv] at HI HBL hvin
    clear hv
    have hv1 := hvin.1
    have hv2 := hvin.2
    have hll : (leftOf B (at' + 8) false).length = B.length - (at' + 8) := by simp [leftOf]
    have HLL := hid hll
    clear hvin hll
    by_cases hneg : v < 0
    · have HE : Hid (Pk.rdBlob (stOf B at' false) = ([], Pk.gone)) := by
        show _ = _
        unfold Pk.rdBlob; rw [HBL.out, if_pos (Or.inr (Or.inl hneg))]
      go_enter Tryz.func75, Tryz.ntmps75
      go_wp2_with fail
      refine HI.out.mono ?_
      rintro e w1 ⟨rfl, hR, hG⟩
      obtain ⟨A, c, hc0, hc1, hc2, _, hc⟩ := hR.cells
      have hf2 := hR.free 2
      have HB := hid (hR.setBad true)
      clear hR
      go_wp2_with fail
      go_ret
      rw [HE.out]
      exact ⟨_, true, none, 0, rfl, OwnsB.nil _ _ _, HB.out.1, rfl, hG.trans HB.out.2⟩
    · obtain ⟨m, rfl⟩ : ∃ m : Nat, v = (m : Int) := ⟨v.toNat, by omega⟩
      by_cases hbig : B.length - (at' + 8) < m
      · have HE : Hid (Pk.rdBlob (stOf B at' false) = ([], Pk.gone)) := by
          show _ = _
          unfold Pk.rdBlob; rw [HBL.out, if_pos (Or.inr (Or.inr (by show (((leftOf B (at' + 8) false).length : Nat) : Int) < _; rw [HLL.out]; omega)))]
        go_enter Tryz.func75, Tryz.ntmps75
        go_wp2_with fail
        refine HI.out.mono ?_
        rintro e w1 ⟨rfl, hR, hG⟩
        obtain ⟨A, c, hc0, hc1, hc2, _, hc⟩ := hR.cells
        have HL := hid (refLeft_any g top B (at' + 8) false w1 hR)
        have HR := hid hR
        clear hR
        go_wp2_with fail
        refine HL.out.mono ?_
        rintro e w2 ⟨rfl, n, rfl⟩
        rw [HLL.out]
        have hf2 := (HR.out.drewN n).free 2
        have HB := hid ((HR.out.drewN n).setBad true)
        go_wp2_with fail
        go_ret
        rw [HE.out]
        exact ⟨_, true, none, 0, rfl, OwnsB.nil _ _ _, HB.out.1, rfl, (grown_drewN hG n).trans HB.out.2⟩
      · have HE : Hid (Pk.rdBlob (stOf B at' false) = ((B.drop (at' + 8)).take m, stOf B (at' + 8 + m) false)) := by
          show _ = _
          unfold Pk.rdBlob; rw [HBL.out, if_neg (by
            rintro (h | h | h)
            · simp [stOf] at h
            · omega
            · have h2 : (((leftOf B (at' + 8) false).length : Nat) : Int) < (m : Int) := h
              rw [HLL.out] at h2; omega)]
          simp [stOf, leftOf]
        go_enter Tryz.func75, Tryz.ntmps75
        go_wp2_with fail
        refine HI.out.mono ?_
        rintro e w1 ⟨rfl, hR, hG⟩
        obtain ⟨A, c, hc0, hc1, hc2, _, hc⟩ := hR.cells
        have HL := hid (refLeft_any g top B (at' + 8) false w1 hR)
        have HR := hid hR
        have hsz1 := hG.size
        have HG := hid hG
        clear hR hG
        go_wp2_with fail
        refine HL.out.mono ?_
        rintro e w2 ⟨rfl, n, rfl⟩
        rw [HLL.out]
        go_wp2_with fail
        go_loopw [4, 5] (fun b i wr => ∃ k : Nat, ∃ A5 : Option Addr, ∃ c5 : Nat, k ≤ m ∧ i = .int .i64 k ∧ b = .slice A5 k c5 ∧ OwnsB 5 wr w.heap.size A5 c5 ((B.drop (at' + 8)).take k) ∧ RefR wr g top B (at' + 8) false ∧ w.grownBy wr (some g)) (fun _ i _ => m - (RowKit.intOf i).toNat)
        case atStart => exact ⟨0, none, 0, by omega, rfl, rfl, OwnsB.nil _ _ _, HR.out.drewN n, grown_drewN HG.out n⟩
        case round =>
          clear hc0 hc1 hc2 HR HG HI HL hc
          obtain ⟨k, A5, c5, hk, rfl, rfl, hown, hR, hG⟩ := hrel
          have hlk : ((B.drop (at' + 8)).take k).length = k := by rw [List.length_take, List.length_drop]; omega
          have HLK := hid hlk
          clear hlk
          by_cases hlt : k < m
          · obtain ⟨A, c, hc0, hc1, hc2, hb, hc⟩ := hR.cells
            obtain ⟨b, off, rfl, hbt, hcell⟩ := hb.cells (at' + 8 + k) (by omega)
            have hck := hcell (at' + 8 + k) (by omega)
            have hb8 := hb.small B[at' + 8 + k] (List.getElem_mem _)
            have e1 : IntKind.i64.wrap ((at' : Int) + 8 + (k : Int)) = (at' : Int) + 8 + (k : Int) := IntWalk.i64_in _ (by omega)
            have e4 : ((at' : Int) + 8 + (k : Int)).toNat = at' + 8 + k := by omega
            have e5 : 0 ≤ (at' : Int) + 8 + (k : Int) := by omega
            have e6 : at' + 8 + k < B.length := by omega
            have e7 : (at' : Int) + 8 + (k : Int) < (B.length : Int) := by omega
            have HD := hid (drop_take_snoc B (at' + 8) k e6)
            have HR := hid hR
            have HG := hid hG
            have hsz := hG.size
            have hgw : g < w.heap.size := by omega
            have hbw : b < w.heap.size := by omega
            have hk5 : k + 1 ≤ 140737488355328 := by omega
            clear hcell hb hR hG
            go_wp2
            go_region_held3 (fun w' => w'.cell? ⟨g, 0, none⟩ = some (.slice (some ⟨b, off, none⟩) B.length c) ∧ w'.cell? ⟨g, 1, none⟩ = some (.int .i64 ((at' : Int) + 8)) ∧ w'.cell? ⟨b, off + (at' + 8 + k), none⟩ = some (.int .u8 (B[at' + 8 + k] : Nat)))
              (first
                | go_keep
                | (go_split_ands
                   refine ⟨?_, ?_, ?_⟩
                   · (rw [hbel.cell (by simp; omega)]; assumption)
                   · (rw [hbel.cell (by simp; omega)]; assumption)
                   · (rw [hbel.cell (by simp; omega)]; assumption)))
              ((refine step_append_byteN (by rfl) _ _ 35 (by rfl) w.heap.size 5 i0 Tryz.underlying35 hi hz0 hz1 hz2 A5 c5 ((B.drop (at' + 8)).take k) k HLK.out (by rfl) ((hown.alloc _).drew) ⟨wr.heap.size, 0, none⟩ 1 B[at' + 8 + k] _ (by rfl) hb8 (by rfl) (by simp) ((B.drop (at' + 8)).take (k + 1)) HD.out hk5 (by simp; omega) ?_; intro A6 c6 w6 hown6 hbel hgr6 hat6))
            have hb6 : Below w.heap.size wr w6 := (((Below.refl _ wr).alloc hsz _).drew).trans hbel
            have hlt5 := hown.blkLt
            have HO : Hid (OwnsB 5 w6 w.heap.size A6 c6 ((B.drop (at' + 8)).take (k + 1)) ∧ RefR w6 g top B (at' + 8) false ∧ w.grownBy w6 (some g)) :=
              ⟨hown6, ((HR.out.other (grown_drew (World.grownBy_alloc wr _ none)) (fun k e => by cases e)).other hgr6 (fun k e => by have := hlt5 k e; omega)), grown_then HG.out hb6⟩
            clear hown hown6 hbel hgr6 hat6 hb6 hlt5 hc0 hc1 hc2 hck e1 e4 e5 e7
            go_wp2
            go_roundw
            case rel => exact ⟨k + 1, A6, c6, by omega, by go_num, rfl, HO.out.1, HO.out.2.1, HO.out.2.2⟩
            case measure => simp [RowKit.intOf] <;> omega
          · obtain rfl : k = m := by omega
            obtain ⟨A, c, hc0, hc1, hc2, hb, hc⟩ := hR.cells
            have hf1 := hR.free 1
            have HA : Hid (RefR (wr.setCell ⟨g, 1, none⟩ (.int .i64 ((at' : Int) + 8 + (k : Int)))) g top B (at' + 8 + k) false ∧ wr.grownBy (wr.setCell ⟨g, 1, none⟩ (.int .i64 ((at' : Int) + 8 + (k : Int)))) (some g)) := hR.setAt (at' + 8 + k) (by omega)
            have HO := hid (hown.grown HA.out.2 (fun j hj => by injection hj with hj; omega))
            have HG := hid hG
            clear hown hb hR hG
            go_wp2
            go_ret
            rw [HE.out]
            exact ⟨_, _, A5, c5, ret_len HLK.out.symm, HO.out, HA.out.1, rfl, HG.out.trans HA.out.2⟩
end Go.Proofs.YtaeoccpjdjafnaaGreat
namespace Go.Proofs.YtaeoccpjdjafnaaGreat
open Go.RowKit
set_option maxRecDepth 100000

theorem frozen_alloc_lt (w : World) (o : Obj) (p : Addr) (h : p.block < w.heap.size) : (w.alloc o).frozen? p = w.frozen? p := ((Below.refl w.heap.size w).alloc (Nat.le_refl _) o).frozen h
set_option maxRecDepth 100000 in
set_option maxHeartbeats 1600000 in
theorem refReader_any (B0 : Nat) (A : Option Addr) (c : Nat) (l : List Nat) (hl : l.length ≤ 1000000) (w : World) (h : IsBytes w B0 A l) (hB : B0 ≤ w.heap.size) :
    Calls Tryz.prog 70 #[.slice A l.length c] w fun e w' => e = .returned (.pointer (some ⟨w.heap.size, 0, none⟩)) ∧ RefR w' w.heap.size w'.heap.size l 0 false ∧ Below w.heap.size w w' := by
  obtain ⟨i0, hi, hz0, hz1, hz2⟩ := info_parts info_u8
  go_enter Tryz.func70, Tryz.ntmps70
  go_wp2
  go_loopw [4] (fun i wr => ∃ k : Nat, ∃ A5 : Option Addr, ∃ c5 : Nat, k ≤ l.length ∧ i = .int .i64 k ∧ Hid (wr.heap[w.heap.size]? = some (.cells #[.slice A5 k c5, .int .i64 0, .bool false] 103 (0, 0))) ∧ OwnsB 5 wr (w.heap.size + 1) A5 c5 (l.take k) ∧ Below w.heap.size w wr ∧ w.heap.size < wr.heap.size) (fun i _ => l.length - (RowKit.intOf i).toNat)
  case atStart => exact ⟨0, none, 0, by omega, rfl, heap_alloc_new w _, OwnsB.nil _ _ _, (Below.refl _ _).alloc (Nat.le_refl _) _, by simp⟩
  case round =>
    obtain ⟨k, A5, c5, hk, rfl, hh, hown, hbel, hsz⟩ := hrel
    have hlk : (l.take k).length = k := by rw [List.length_take]; omega
    have HLK := hid hlk
    clear hlk
    by_cases hlt : k < l.length
    · have hc0 : wr.cell? ⟨w.heap.size, 0, none⟩ = some (.slice A5 k c5) := row_cell hh.out 0
      have hf0 : wr.frozen? ⟨w.heap.size, 0, none⟩ = false := row_free hh.out 0
      obtain ⟨b, off, rfl, hb, hcell⟩ := (h.below (hbel.mono hB)).cells k hlt
      have hck := hcell k hlt
      have hb8 := h.small l[k] (List.getElem_mem _)
      have hk0 : (k : Int) < (l.length : Int) := by omega
      have hk00 : 0 ≤ (k : Int) := by omega
      have hk5 : k + 1 ≤ 140737488355328 := by omega
      have HD : Hid (l.take k ++ [l[k]] = l.take (k + 1)) := (List.take_succ_eq_append_getElem hlt).symm
      clear hcell
      go_wp2
      have hcA : Hid (∀ o, (wr.alloc o).drew.cell? ⟨w.heap.size, 0, none⟩ = some (.slice A5 k c5)) := fun o => (World.cell?_alloc_lt wr o ⟨w.heap.size, 0, none⟩ hsz).trans hc0
      have hfA : Hid (∀ o, (wr.alloc o).drew.frozen? ⟨w.heap.size, 0, none⟩ = false) := fun o => (frozen_alloc_lt wr o ⟨w.heap.size, 0, none⟩ hsz).trans hf0
      have HHA : Hid (∀ o, (wr.alloc o).drew.heap[w.heap.size]? = some (.cells #[.slice A5 k c5, .int .i64 0, .bool false] 103 (0, 0))) := fun o => (Below.heap_alloc wr o _ hsz).trans hh.out
      go_region_law ((refine step_append_byteN (by rfl) _ _ 35 (by rfl) (w.heap.size + 1) 5 i0 Tryz.underlying35 hi hz0 hz1 hz2 A5 c5 (l.take k) k HLK.out (by rfl) ((hown.alloc _).drew) ⟨wr.heap.size, 0, none⟩ 1 l[k] _ (by rfl) hb8 (by rfl) (by simp) (l.take (k + 1)) HD.out hk5 (by simp; omega) ?_; intro A6 c6 w6 hown6 hbel6 hgr6 hat6; have hc6 := (hbel6.cell (p := ⟨w.heap.size, 0, none⟩) (by simp)).trans (hcA.out _); have hf6 := (hbel6.frozen (p := ⟨w.heap.size, 0, none⟩) (by simp)).trans (hfA.out _)))
      all_goals
        have hh6 : w6.heap[w.heap.size]? = some (.cells #[.slice A5 k c5, .int .i64 0, .bool false] 103 (0, 0)) := (hbel6.block w.heap.size (by omega)).trans (HHA.out _)
        have HO : Hid ((w6.setCell ⟨w.heap.size, 0, none⟩ (.slice A6 (k + 1) c6)).heap[w.heap.size]? = some (.cells #[.slice A6 (k + 1) c6, .int .i64 0, .bool false] 103 (0, 0))) := row_set hh6 0 _
        have hb6 : Below w.heap.size w w6 := (((hbel.alloc hbel.size _).drew).trans (hbel6.mono (by omega)))
        have hsz6 : w.heap.size < w6.heap.size := row_lt hh6
        have HP : Hid (OwnsB 5 (w6.setCell ⟨w.heap.size, 0, none⟩ (.slice A6 (k + 1) c6)) (w.heap.size + 1) A6 c6 (l.take (k + 1)) ∧ Below w.heap.size w (w6.setCell ⟨w.heap.size, 0, none⟩ (.slice A6 (k + 1) c6)) ∧ w.heap.size < (w6.setCell ⟨w.heap.size, 0, none⟩ (.slice A6 (k + 1) c6)).heap.size) :=
          ⟨hown6.grown (grown_setCell w6 w.heap.size 0 _) (fun k hk => by injection hk with hk; omega), hb6.setCell (Nat.le_refl _) _, by simp [World.setCell]; exact hsz6⟩
        clear hown hown6 hbel6 hgr6 hat6 hc6 hf6 hh6 hb6 hbel hc0 hf0 hck HHA hcA hfA
        go_wp2
        go_roundw
        case rel => exact ⟨k + 1, A6, c6, by omega, by go_num, HO.out, HP.out.1, HP.out.2.1, HP.out.2.2⟩
        case measure => simp [RowKit.intOf] <;> omega
    · obtain rfl : k = l.length := by omega
      have HO : Hid (RefR wr w.heap.size wr.heap.size l 0 false) := by
        rw [List.take_length] at hown
        exact ⟨⟨A5, c5, hh.out, hown, fun k hk => (hown.blkLt k hk).2⟩, Nat.zero_le _, hl, hsz, Nat.le_refl _⟩
      clear hown hlt hk
      go_wp2
      go_ret
      exact ⟨rfl, HO.out, hbel⟩
end Go.Proofs.YtaeoccpjdjafnaaGreat
namespace Go.Proofs.YtaeoccpjdjafnaaGreat
open Go.RowKit
set_option maxRecDepth 100000

set_option maxHeartbeats 1600000 in
theorem refRInts_any (g top : Nat) (B : List Nat) (at' : Nat) (bad : Bool) (w : World) (h : RefR w g top B at' bad) :
    Calls Tryz.prog 116 #[.pointer (some ⟨g, 0, none⟩)] w fun e w' => ∃ a2 b2 A' c', e = .returned (.slice A' (Pk.rdInts (stOf B at' bad)).1.length c') ∧ OwnsI 3 w' w.heap.size A' c' (Pk.rdInts (stOf B at' bad)).1 ∧
      RefR w' g top B a2 b2 ∧ stOf B a2 b2 = (Pk.rdInts (stOf B at' bad)).2 ∧ w.grownBy w' (some g) := by
  obtain ⟨i0, hi, hz0, hz1, hz2⟩ := info_parts I.info_int
  have hgt := h.top_
  rcases stOf_cases B at' bad with hl | ⟨rfl, hl⟩
  · have HE : Hid (Pk.rdInts (stOf B at' bad) = ([], Pk.gone)) := by
      show _ = _
      unfold Pk.rdInts; rw [stOf_short B at' bad hl]; rfl
    have HI := hid (refRInt_short g top B at' bad w h hl)
    clear h hl
    go_enter Tryz.func116, Tryz.ntmps116
    go_wp2_with fail
    refine HI.out.mono ?_
    rintro e w1 ⟨rfl, hR, hG⟩
    obtain ⟨A, c, hc0, hc1, hc2, _, hc⟩ := hR.cells
    have hf2 := hR.free 2
    have HB := hid (hR.setBad true)
    clear hR
    go_wp2_with fail
    go_ret
    rw [HE.out]
    exact ⟨at', true, none, 0, rfl, OwnsI.nil _ _ _, HB.out.1, rfl, hG.trans HB.out.2⟩
  · have HI := hid (refRInt_long g top B at' w h hl)
    have HBL : Hid (Pk.rdInt (stOf B at' false) = (Pk.sgn (Pk.num ((B.drop at').take 8)), stOf B (at' + 8) false)) := stOf_long B at' hl
    have hsm := h.cells
    obtain ⟨_, _, _, _, _, hbs, _⟩ := hsm
    have hvin := Pk.sgn_in _ (Pk.take_num_lt (B.drop at') (fun x hx => hbs.small x (List.mem_of_mem_drop hx)))
    have hsmall := hbs.small
    have HSM := hid hsmall
    have hsh := h.short
    clear h hbs hsmall
    obtain ⟨v, hv⟩ : ∃ v, v = Pk.sgn (Pk.num ((B.drop at').take 8)) := ⟨_, rfl⟩
    rw [← hv] at HI HBL hvin
    clear hv
    have hv1 := hvin.1
    have hv2 := hvin.2
    have hll : (leftOf B (at' + 8) false).length = B.length - (at' + 8) := by simp [leftOf]
    have HLL := hid hll
    clear hvin hll
    by_cases hneg : v < 0
    · have HE : Hid (Pk.rdInts (stOf B at' false) = ([], Pk.gone)) := by
        show _ = _
        unfold Pk.rdInts; rw [HBL.out, if_pos (Or.inr (Or.inl hneg))]
      go_enter Tryz.func116, Tryz.ntmps116
      go_wp2_with fail
      refine HI.out.mono ?_
      rintro e w1 ⟨rfl, hR, hG⟩
      obtain ⟨A, c, hc0, hc1, hc2, _, hc⟩ := hR.cells
      have hf2 := hR.free 2
      have HB := hid (hR.setBad true)
      clear hR
      go_wp2_with fail
      go_ret
      rw [HE.out]
      exact ⟨_, true, none, 0, rfl, OwnsI.nil _ _ _, HB.out.1, rfl, hG.trans HB.out.2⟩
    · obtain ⟨m, rfl⟩ : ∃ m : Nat, v = (m : Int) := ⟨v.toNat, by omega⟩
      by_cases hbig : (B.length - (at' + 8)) / 8 < m
      · have HE : Hid (Pk.rdInts (stOf B at' false) = ([], Pk.gone)) := by
          show _ = _
          unfold Pk.rdInts; rw [HBL.out, if_pos (Or.inr (Or.inr (by show (((leftOf B (at' + 8) false).length : Nat) : Int) / 8 < _; rw [HLL.out]; omega)))]
        go_enter Tryz.func116, Tryz.ntmps116
        go_wp2_with fail
        refine HI.out.mono ?_
        rintro e w1 ⟨rfl, hR, hG⟩
        obtain ⟨A, c, hc0, hc1, hc2, _, hc⟩ := hR.cells
        have HL := hid (refLeft_any g top B (at' + 8) false w1 hR)
        have HR := hid hR
        clear hR
        go_wp2_with fail
        refine HL.out.mono ?_
        rintro e w2 ⟨rfl, n, rfl⟩
        rw [HLL.out]
        have hf2 := (HR.out.drewN n).free 2
        have HB := hid ((HR.out.drewN n).setBad true)
        go_wp2_with fail
        go_ret
        rw [HE.out]
        exact ⟨_, true, none, 0, rfl, OwnsI.nil _ _ _, HB.out.1, rfl, (grown_drewN hG n).trans HB.out.2⟩
      · have HE : Hid (Pk.rdInts (stOf B at' false) = (Pk.nums m (B.drop (at' + 8)), stOf B (at' + 8 + 8 * m) false)) := by
          show _ = _
          unfold Pk.rdInts; rw [HBL.out, if_neg (by
            rintro (h | h | h)
            · simp [stOf] at h
            · omega
            · have h2 : (((leftOf B (at' + 8) false).length : Nat) : Int) / 8 < (m : Int) := h
              rw [HLL.out] at h2; omega)]
          simp [stOf, leftOf]
        have hm8 : at' + 8 + 8 * m ≤ B.length := by omega
        go_enter Tryz.func116, Tryz.ntmps116
        go_wp2_with fail
        refine HI.out.mono ?_
        rintro e w1 ⟨rfl, hR, hG⟩
        obtain ⟨A, c, hc0, hc1, hc2, _, hc⟩ := hR.cells
        have HL := hid (refLeft_any g top B (at' + 8) false w1 hR)
        have HR := hid hR
        have hsz1 := hG.size
        have HG := hid hG
        clear hR hG
        go_wp2_with fail
        refine HL.out.mono ?_
        rintro e w2 ⟨rfl, n, rfl⟩
        rw [HLL.out]
        go_wp2_with fail
        go_loopw [4, 5] (fun b i wr => ∃ k : Nat, ∃ A5 : Option Addr, ∃ c5 : Nat, k ≤ m ∧ i = .int .i64 k ∧ b = .slice A5 k c5 ∧ OwnsI 3 wr w.heap.size A5 c5 (Pk.nums k (B.drop (at' + 8))) ∧ RefR wr g top B (at' + 8 + 8 * k) false ∧ w.grownBy wr (some g)) (fun _ i _ => m - (RowKit.intOf i).toNat)
        case atStart => exact ⟨0, none, 0, by omega, rfl, rfl, OwnsI.nil _ _ _, HR.out.drewN n, grown_drewN HG.out n⟩
        case round =>
          clear hc0 hc1 hc2 HR HG HI HL hc
          obtain ⟨k, A5, c5, hk, rfl, rfl, hown, hR, hG⟩ := hrel
          by_cases hlt : k < m
          · have C := refRInt_long g top B (at' + 8 + 8 * k) wr hR (by omega)
            have hv : InInt (Pk.sgn (Pk.num ((B.drop (at' + 8 + 8 * k)).take 8))) := Pk.sgn_in _ (Pk.take_num_lt _ (fun x hx => HSM.out x (List.mem_of_mem_drop hx)))
            have hnum : Pk.nums k (B.drop (at' + 8)) ++ [Pk.sgn (Pk.num ((B.drop (at' + 8 + 8 * k)).take 8))] = Pk.nums (k + 1) (B.drop (at' + 8)) := by rw [Pk.nums_snoc, List.drop_drop]
            have HC := hid C
            obtain ⟨v, hveq⟩ : ∃ v, v = Pk.sgn (Pk.num ((B.drop (at' + 8 + 8 * k)).take 8)) := ⟨_, rfl⟩
            rw [← hveq] at HC hv hnum
            have HN := hid hnum
            have hgw := hG.size
            clear C hR hnum hveq
            go_wp2_with fail
            refine HC.out.mono ?_
            rintro e w3 ⟨rfl, hR3, hG3⟩
            have hown3 : OwnsI 3 w3 w.heap.size A5 c5 (Pk.nums k (B.drop (at' + 8))) := hown.grown hG3 (fun j hj => by injection hj with hj; omega)
            have hG4 : w.grownBy w3 (some g) := hG.trans hG3
            have hsz := hG4.size
            clear hown hG hG3
            go_wp2_with (at_builtin; refine wpList_append_intN rfl _ _ 26 rfl w.heap.size 3 i0 Tryz.underlying26 hi hz0 hz1 hz2 A5 c5 (Pk.nums k (B.drop (at' + 8))) k (Pk.nums_length _ _) rfl (hown3.alloc _) ⟨w3.heap.size, 0, none⟩ 1 v hv rfl ?c1 (Pk.nums (k + 1) (B.drop (at' + 8))) HN.out (by omega) ?c2 ?_)
            case c1 => simp
            case c2 => simp; omega
            intro A6 c6 w4 hown4 hgr4
            have hb4 : Below w.heap.size w3 w4 := ((Below.refl _ _).alloc hsz _).trans hgr4
            have HO := hid (And.intro hown4 (And.intro (hR3.belowB hb4 hgt.2) (grown_then hG4 hb4)))
            have HQ : Hid (at' + 8 + 8 * (k + 1) = at' + 8 + 8 * k + 8) := by show _ = _; omega
            clear hown4 hgr4 hb4 hown3 hG4 hR3
            go_wp2_with fail
            go_roundw
            case rel => exact ⟨k + 1, A6, c6, by omega, by go_num, rfl, HO.out.1, by rw [HQ.out]; exact HO.out.2.1, HO.out.2.2⟩
            case measure => simp [RowKit.intOf] <;> omega
          · obtain rfl : k = m := by omega
            clear hlt hk
            go_wp2_with fail
            go_ret
            rw [HE.out]
            exact ⟨_, _, A5, c5, ret_len (Pk.nums_length _ _).symm, hown, hR, rfl, hG⟩

theorem refRead_any (B0 : Nat) (A : Option Addr) (c : Nat) (l : List Nat) (hl : l.length ≤ 16384) (w : World) (h : IsBytes w B0 A l) (hB : B0 ≤ w.heap.size) :
    Calls Tryz.prog 70 #[.slice A l.length c] w fun e w' => e = .returned (.pointer (some ⟨w.heap.size, 0, none⟩)) ∧ RefR w' w.heap.size w'.heap.size l 0 false ∧ Below w.heap.size w w' := refReader_any B0 A c l (by omega) w h hB
end Go.Proofs.YtaeoccpjdjafnaaGreat
namespace Go.Proofs.YtaeoccpjdjafnaaGreat.Im
open Go Go.RowKit
open Rl (En Lg)
open Qu (Cf)
open Pk (enc encs rdInt rdInts rdBlob St)
set_option maxRecDepth 100000
set_option linter.unusedVariables false
local instance lo20 : Lo := ⟨0⟩
/-- amid a reading: the reader, a box for what is answered, a box that is filled -/
structure Rg (w W : World) (g top : Nat) (B : List Nat) (a : Nat) (b : Bool) (b1 : Nat) (c1 : Array Value) (t : TypeId) (b3 : Nat) (c3 : Array Value) : Prop where
  rd : RefR W g top B a b
  gr : w.grownBy W (some g)
  r1 : W.heap[b1]? = some (.cells c1 t (0, 0))
  r3 : W.heap[b3]? = some (.cells c3 t (0, 0))
  lt : w.heap.size ≤ b1 ∧ b1 < b3 ∧ top ≤ w.heap.size
namespace Rg
variable {w W W' : World} {g top a a2 : Nat} {B : List Nat} {b b2 : Bool} {b1 b3 : Nat} {c1 c3 : Array Value} {t : TypeId}
theorem row_lt' {k : Nat} {o : Obj} (h : W.heap[k]? = some o) : k < W.heap.size := (Array.getElem?_eq_some_iff.1 h).1
theorem call (h : Rg w W g top B a b b1 c1 t b3 c3) (hr : RefR W' g top B a2 b2) (hg : W.grownBy W' (some g)) : Rg w W' g top B a2 b2 b1 c1 t b3 c3 := by
  have hl := h.lt
  have ht := h.rd.top_
  exact ⟨hr, grown_trans h.gr hg (fun k e _ => e), (hg.block _ (row_lt' h.r1) (fun e => by injection e; omega)).trans h.r1, (hg.block _ (row_lt' h.r3) (fun e => by injection e; omega)).trans h.r3, h.lt⟩
theorem set (h : Rg w W g top B a b b1 c1 t b3 c3) (k : Nat) (u : Value) : Rg w (W.setCell ⟨b3, k, none⟩ u) g top B a b b1 c1 t b3 (c3.setIfInBounds k u) := by
  have hl := h.lt
  have hg := grown_setCell W b3 k u
  exact ⟨h.rd.other hg (fun j e => by injection e; omega), grown_trans h.gr hg (fun j e hj => by injection e; omega), (hg.block _ (row_lt' h.r1) (fun e => by injection e; omega)).trans h.r1, row_set h.r3 k u, h.lt⟩
theorem last (h : Rg w W g top B a b b1 c1 t b3 c3) (L : List Value) (hL : L.length = c1.size) : RefR (W.setCells b1 0 L) g top B a b ∧ w.grownBy (W.setCells b1 0 L) (some g) ∧ (W.setCells b1 0 L).heap[b1]? = some (.cells L.toArray t (0, 0)) := by
  have hl := h.lt
  have hT := turned_setCells b1 L W 0
  have hg : W.grownBy (W.setCells b1 0 L) (some b1) := ⟨hT.os, hT.tape, hT.output, hT.size, fun k hk hn => hT.block k hk (fun e => hn (by rw [e]))⟩
  exact ⟨h.rd.other hg (fun j e => by injection e; omega), grown_trans h.gr hg (fun j e hj => by injection e; omega), setCells_all h.r1 L hL⟩
end Rg
theorem Rg.new {w w1 w2 w3 : World} {g top a a2 : Nat} {B : List Nat} {b b2 : Bool} {c1 c3 : Array Value} {t : TypeId} (h0 : RefR w g top B a b) (hw1 : w1 = w.alloc (.cells c1 t)) (hr : RefR w2 g top B a2 b2) (hg : w1.grownBy w2 (some g)) (hw3 : w3 = w2.alloc (.cells c3 t)) : Rg w w3 g top B a2 b2 w.heap.size c1 t w2.heap.size c3 := by
  have ht := h0.top_
  have z1 : w1.heap.size = w.heap.size + 1 := by rw [hw1]; simp
  have z2 := hg.size
  have b12 : Below w.heap.size w w1 := by rw [hw1]; exact (Below.refl _ _).alloc (Nat.le_refl _) _
  have b23 : Below w2.heap.size w2 w3 := by rw [hw3]; exact (Below.refl _ _).alloc (Nat.le_refl _) _
  have r1 : w1.heap[w.heap.size]? = some (.cells c1 t (0, 0)) := by rw [hw1]; exact heap_alloc_new _ _
  have g12 : w.grownBy w2 (some g) := grown_trans (grown_below b12 (some g)) hg (fun k e _ => e)
  have r12 : w2.heap[w.heap.size]? = some (.cells c1 t (0, 0)) := (hg.block _ (by omega) (fun e => by injection e; omega)).trans r1
  exact ⟨hr.below b23, grown_then g12 (b23.mono (by have := g12.size; omega)), (b23.block _ (by omega)).trans r12, by rw [hw3]; exact heap_alloc_new _ _, ⟨Nat.le_refl _, by omega, by omega⟩⟩
theorem refR_new {w w1 : World} {g top a : Nat} {B : List Nat} {b : Bool} (h : RefR w g top B a b) (o : Obj) (hw1 : w1 = w.alloc o) : RefR w1 g top B a b := h.below (by rw [hw1]; exact (Below.refl _ _).alloc (Nat.le_refl _) _)
/-- the number of a list's elements -/
def rdMany (s : St) : Int × St := if (rdInt s).1 < 0 ∨ (((rdInt s).2.rest.length / 8 : Nat) : Int) < (rdInt s).1 then (0, Pk.gone) else rdInt s
theorem rdL_many {α : Type} (one : St → α × St) (s : St) : rdL one s = rdN one (rdMany s).1.toNat (rdMany s).2 := by
  unfold rdL rdMany
  split
  · rfl
  · rfl
set_option maxHeartbeats 1600000 in
theorem rgMany_any (g top : Nat) (B : List Nat) (a : Nat) (b : Bool) (w : World) (h : RefR w g top B a b) :
    Calls Tryz.prog 71 #[.pointer (some ⟨g, 0, none⟩)] w fun e w' => ∃ a2 b2, e = .returned (.int .i64 (rdMany (stOf B a b)).1) ∧ RefR w' g top B a2 b2 ∧ stOf B a2 b2 = (rdMany (stOf B a b)).2 ∧ w.grownBy w' (some g) := by
  have HP := hid (refRInt_any g top B a b w h)
  clear h
  go_enter Tryz.func71, Tryz.ntmps71
  go_wp2_with fail
  refine HP.out.mono ?_
  rintro e w2 ⟨a2, b2, rfl, hr2, hs2, hg2⟩
  obtain ⟨v, hv⟩ : ∃ v, (rdInt (stOf B a b)).1 = v := ⟨_, rfl⟩
  rw [hv]
  have H2 := hid (And.intro hr2 (And.intro hs2 (And.intro hg2 hv)))
  have z := hr2.free 2
  obtain ⟨_, _, _, _, hc, _⟩ := hr2.cells
  have HL := hid (refLeft_any g top B a2 b2 w2 hr2)
  clear hr2 hs2 hg2 hv HP
  have HBAD : Hid ((v < 0 ∨ (((leftOf B a2 b2).length / 8 : Nat) : Int) < v) → ∀ n, rdMany (stOf B a b) = (0, Pk.gone) ∧ RefR ((w2.drewN n).setCell ⟨g, 2, none⟩ (.bool true)) g top B a2 true ∧ w.grownBy ((w2.drewN n).setCell ⟨g, 2, none⟩ (.bool true)) (some g)) := hid (fun hb n => by
    obtain ⟨k1, k2⟩ := (H2.out.1.drewN n).setBad true
    refine ⟨?_, k1, grown_trans (grown_drewN H2.out.2.2.1 n) k2 (fun k e _ => e)⟩
    unfold rdMany
    rw [H2.out.2.2.2, ← H2.out.2.1]
    exact if_pos hb)
  by_cases hn : v < 0
  · have HB := hid (HBAD.out (.inl hn))
    go_wp2_with fail
    go_ret
    obtain ⟨e1, e2, e3⟩ := HB.out 0
    exact ⟨a2, true, by rw [e1]; rfl, e2, by rw [e1]; rfl, e3⟩
  · have hn' : ¬ v < 0 := hn
    go_wp2_with fail
    refine HL.out.mono ?_
    rintro e w3 ⟨rfl, n, rfl⟩
    obtain ⟨ln, hln⟩ : ∃ ln, (leftOf B a2 b2).length = ln := ⟨_, rfl⟩
    rw [hln]
    have hlm : ln ≤ 1000000 := by
      rw [← hln]
      unfold leftOf
      have := H2.out.1.short
      split
      · simp
      · rw [List.length_drop]; omega
    by_cases hm : (ln : Int) / 8 < v
    · have HB := hid (HBAD.out (.inr (by rw [hln]; omega)) n)
      have hm' : ¬ v ≤ (ln : Int) / 8 := by omega
      clear HL HBAD
      go_wp2_with fail
      go_ret
      obtain ⟨e1, e2, e3⟩ := HB.out
      exact ⟨a2, true, by rw [e1]; rfl, e2, by rw [e1]; rfl, e3⟩
    · have HM : Hid (rdMany (stOf B a b) = (v, stOf B a2 b2)) := hid (by
        unfold rdMany
        rw [if_neg (by
          rw [H2.out.2.2.2, ← H2.out.2.1]
          show ¬ (v < 0 ∨ (((leftOf B a2 b2).length / 8 : Nat) : Int) < v)
          rw [hln]
          omega), ← H2.out.2.2.2, H2.out.2.1])
      have hm' : v ≤ (ln : Int) / 8 := by omega
      clear HL HBAD
      go_wp2_with fail
      go_ret
      exact ⟨a2, b2, by rw [HM.out]; rfl, H2.out.1.drewN n, by rw [HM.out], grown_drewN H2.out.2.2.1 n⟩
attribute [local go_sem ↓] loadAt_vote storeAt_vote
set_option maxHeartbeats 6400000 in
theorem rgVote_any (g top : Nat) (B : List Nat) (a : Nat) (b : Bool) (w : World) (h : RefR w g top B a b) :
    Calls Tryz.prog 76 #[.pointer (some ⟨g, 0, none⟩)] w fun e w' => ∃ a2 b2, e = .returned (.agg #[.int .i64 ((rdV (stOf B a b)).1).x, .int .i64 ((rdV (stOf B a b)).1).p, .int .i64 ((rdV (stOf B a b)).1).r, .int .i64 ((rdV (stOf B a b)).1).b, .int .i64 ((rdV (stOf B a b)).1).v]) ∧ RefR w' g top B a2 b2 ∧ stOf B a2 b2 = (rdV (stOf B a b)).2 ∧ w.grownBy w' (some g) := by
  obtain ⟨w1, hw1⟩ : ∃ w1, w1 = w.alloc (.cells #[.int .i64 0, .int .i64 0, .int .i64 0, .int .i64 0, .int .i64 0] 60) := ⟨_, rfl⟩
  have HP := hid (refRInt_any g top B a b w1 (refR_new h _ hw1))
  have HH := hid h
  clear h
  go_enter Tryz.func76, Tryz.ntmps76
  go_wp2_with fail
  rw [← hw1]
  refine HP.out.mono ?_
  rintro e v0 ⟨a0, b0, rfl, hr0, hs0, hg0⟩
  obtain ⟨x0, hx0⟩ : ∃ x, (rdInt (stOf B a b)).1 = x := ⟨_, rfl⟩
  rw [hx0]
  obtain ⟨w2, hw2⟩ : ∃ w2, w2 = v0.alloc (.cells #[.int .i64 x0, .int .i64 0, .int .i64 0, .int .i64 0, .int .i64 0] 60) := ⟨_, rfl⟩
  have hst := stNew v0 60 5 info_vote #[.int .i64 0, .int .i64 0, .int .i64 0, .int .i64 0, .int .i64 0] #[.int .i64 x0, .int .i64 0, .int .i64 0, .int .i64 0, .int .i64 0] rfl rfl (by simp [Value.oneCell'])
  have R := Rg.new HH.out hw1 hr0 hg0 hw2
  obtain ⟨b1, hb1⟩ : ∃ b, b = w.heap.size := ⟨_, rfl⟩
  obtain ⟨b3, hb3⟩ : ∃ b, b = v0.heap.size := ⟨_, rfl⟩
  rw [← hb1, ← hb3] at R
  have H0 := hid R
  have S0 := hid (And.intro hx0 hs0)
  have HP0 := hid (refRInt_any g top B a0 b0 w2 R.rd)
  clear HH hr0 hg0 hw1 hx0 hs0 R HP
  go_wp2_with fail
  rw [← hw2, ← hb1, ← hb3]
  clear hw2 hb1 hb3 hst
  refine HP0.out.mono ?_
  rintro e v1 ⟨a1, b1', rfl, hr, hs, hg⟩
  obtain ⟨x1, hx⟩ : ∃ x, (rdInt (stOf B a0 b0)).1 = x := ⟨_, rfl⟩
  rw [hx]
  have R := H0.out.call hr hg
  have z := row_free R.r3 1
  have c := row_cell R.r3 1
  obtain ⟨u1, hu⟩ : ∃ u, u = v1.setCell ⟨b3, 1, none⟩ (.int .i64 x1) := ⟨_, rfl⟩
  have H1 : Hid (Rg w u1 g top B a1 b1' b1 #[.int .i64 0, .int .i64 0, .int .i64 0, .int .i64 0, .int .i64 0] 60 b3 #[.int .i64 x0, .int .i64 x1, .int .i64 0, .int .i64 0, .int .i64 0]) := hid (by rw [hu]; exact R.set 1 _)
  have S1 := hid (And.intro hx hs)
  have HP1 := hid (refRInt_any g top B a1 b1' u1 H1.out.rd)
  clear hr hs hg hx R H0 HP0
  go_wp2_with fail
  rw [← hu]
  clear hu z c
  refine HP1.out.mono ?_
  rintro e v2 ⟨a2, b2', rfl, hr, hs, hg⟩
  obtain ⟨x2, hx⟩ : ∃ x, (rdInt (stOf B a1 b1')).1 = x := ⟨_, rfl⟩
  rw [hx]
  have R := H1.out.call hr hg
  have z := row_free R.r3 2
  have c := row_cell R.r3 2
  obtain ⟨u2, hu⟩ : ∃ u, u = v2.setCell ⟨b3, 2, none⟩ (.int .i64 x2) := ⟨_, rfl⟩
  have H2 : Hid (Rg w u2 g top B a2 b2' b1 #[.int .i64 0, .int .i64 0, .int .i64 0, .int .i64 0, .int .i64 0] 60 b3 #[.int .i64 x0, .int .i64 x1, .int .i64 x2, .int .i64 0, .int .i64 0]) := hid (by rw [hu]; exact R.set 2 _)
  have S2 := hid (And.intro hx hs)
  have HP2 := hid (refRInt_any g top B a2 b2' u2 H2.out.rd)
  clear hr hs hg hx R H1 HP1
  go_wp2_with fail
  rw [← hu]
  clear hu z c
  refine HP2.out.mono ?_
  rintro e v3 ⟨a3, b3', rfl, hr, hs, hg⟩
  obtain ⟨x3, hx⟩ : ∃ x, (rdInt (stOf B a2 b2')).1 = x := ⟨_, rfl⟩
  rw [hx]
  have R := H2.out.call hr hg
  have z := row_free R.r3 3
  have c := row_cell R.r3 3
  obtain ⟨u3, hu⟩ : ∃ u, u = v3.setCell ⟨b3, 3, none⟩ (.int .i64 x3) := ⟨_, rfl⟩
  have H3 : Hid (Rg w u3 g top B a3 b3' b1 #[.int .i64 0, .int .i64 0, .int .i64 0, .int .i64 0, .int .i64 0] 60 b3 #[.int .i64 x0, .int .i64 x1, .int .i64 x2, .int .i64 x3, .int .i64 0]) := hid (by rw [hu]; exact R.set 3 _)
  have S3 := hid (And.intro hx hs)
  have HP3 := hid (refRInt_any g top B a3 b3' u3 H3.out.rd)
  clear hr hs hg hx R H2 HP2
  go_wp2_with fail
  rw [← hu]
  clear hu z c
  refine HP3.out.mono ?_
  rintro e v4 ⟨a4, b4', rfl, hr, hs, hg⟩
  obtain ⟨x4, hx⟩ : ∃ x, (rdInt (stOf B a3 b3')).1 = x := ⟨_, rfl⟩
  rw [hx]
  have R := H3.out.call hr hg
  have z := row_free R.r3 4
  have c := row_cell R.r3 4
  obtain ⟨u4, hu⟩ : ∃ u, u = v4.setCell ⟨b3, 4, none⟩ (.int .i64 x4) := ⟨_, rfl⟩
  have H4 : Hid (Rg w u4 g top B a4 b4' b1 #[.int .i64 0, .int .i64 0, .int .i64 0, .int .i64 0, .int .i64 0] 60 b3 #[.int .i64 x0, .int .i64 x1, .int .i64 x2, .int .i64 x3, .int .i64 x4]) := hid (by rw [hu]; exact R.set 4 _)
  have S4 := hid (And.intro hx hs)
  have ld := ldRow info_vote Tryz.underlying60 rfl H4.out.r3 rfl
  have st := stThere info_vote u4 b1 #[.int .i64 x0, .int .i64 x1, .int .i64 x2, .int .i64 x3, .int .i64 x4] (show u4.there b1 0 5 from there_row H4.out.r1) rfl (by simp [Value.oneCell'])
  rw [hu] at ld st
  clear hr hs hg hx R H3 HP3
  go_wp2_with fail
  rw [← hu]
  clear hu z c ld st
  have HR := hid (H4.out.last [.int .i64 x0, .int .i64 x1, .int .i64 x2, .int .i64 x3, .int .i64 x4] rfl)
  have HM : Hid (rdV (stOf B a b) = (⟨x0, x1, x2, x3, x4⟩, stOf B a4 b4')) := hid (by
    unfold rdV rdM rdP
    simp only [S0.out.1, ← S0.out.2, S1.out.1, ← S1.out.2, S2.out.1, ← S2.out.2, S3.out.1, ← S3.out.2, S4.out.1, ← S4.out.2])
  refine bodyPost_ret (results_cell_row rfl _ _ b1 _ _ _ _ rfl HR.out.2.2 Tryz.underlying60 rfl (by rw [info_vote]; rfl)) rfl ?_
  exact ⟨a4, b4', by rw [HM.out], HR.out.1, by rw [HM.out], HR.out.2.1⟩
end Go.Proofs.YtaeoccpjdjafnaaGreat.Im
namespace Go.Proofs.YtaeoccpjdjafnaaGreat.Im
open Go Go.RowKit
open Rl (En Lg)
open Qu (Cf)
open Pk (enc encs rdInt rdInts rdBlob St)
set_option maxRecDepth 100000
set_option linter.unusedVariables false
local instance lo21 : Lo := ⟨0⟩
attribute [local go_sem ↓] loadAt_conf3 storeAt_conf3
set_option maxHeartbeats 6400000 in
theorem rgConf_any (g top : Nat) (B : List Nat) (a : Nat) (b : Bool) (w : World) (h : RefR w g top B a b) :
    Calls Tryz.prog 74 #[.pointer (some ⟨g, 0, none⟩)] w fun e w' => ∃ a2 b2 A0 A1 A2 c0 c1 c2, e = .returned (.agg #[.slice A0 (rdCf (stOf B a b)).1.old.length c0, .slice A1 (rdCf (stOf B a b)).1.new.length c1, .slice A2 (rdCf (stOf B a b)).1.lrn.length c2]) ∧ (OwnsI 3 w' w.heap.size A0 c0 (rdCf (stOf B a b)).1.old ∧ OwnsI 3 w' w.heap.size A1 c1 (rdCf (stOf B a b)).1.new ∧ OwnsI 3 w' w.heap.size A2 c2 (rdCf (stOf B a b)).1.lrn) ∧ RefR w' g top B a2 b2 ∧ stOf B a2 b2 = (rdCf (stOf B a b)).2 ∧ w.grownBy w' (some g) := by
  obtain ⟨w1, hw1⟩ : ∃ w1, w1 = w.alloc (.cells #[.slice none 0 0, .slice none 0 0, .slice none 0 0] 28) := ⟨_, rfl⟩
  have HP := hid (refRInts_any g top B a b w1 (refR_new h _ hw1))
  have HH := hid h
  have HZ := hid (show w1.heap.size = w.heap.size + 1 by rw [hw1]; simp)
  clear h
  go_enter Tryz.func74, Tryz.ntmps74
  go_wp2_with fail
  rw [← hw1]
  refine HP.out.mono ?_
  rintro e v0 ⟨a0, b0, A0, c0, rfl, ho0, hr0, hs0, hg0⟩
  obtain ⟨x0, hx0⟩ : ∃ x, (rdInts (stOf B a b)).1 = x := ⟨_, rfl⟩
  rw [hx0] at ho0
  rw [hx0]
  obtain ⟨n0, hn0⟩ : ∃ n, x0.length = n := ⟨_, rfl⟩
  rw [hn0]
  obtain ⟨w2, hw2⟩ : ∃ w2, w2 = v0.alloc (.cells #[.slice A0 n0 c0, .slice none 0 0, .slice none 0 0] 28) := ⟨_, rfl⟩
  have hst := stNew v0 28 3 info_conf33 #[.slice none 0 0, .slice none 0 0, .slice none 0 0] #[.slice A0 n0 c0, .slice none 0 0, .slice none 0 0] rfl rfl (by simp [Value.oneCell'])
  have R := Rg.new HH.out hw1 hr0 hg0 hw2
  obtain ⟨b1, hb1⟩ : ∃ b, b = w.heap.size := ⟨_, rfl⟩
  obtain ⟨b3, hb3⟩ : ∃ b, b = v0.heap.size := ⟨_, rfl⟩
  rw [← hb1, ← hb3] at R
  have T0 : Hid (Turned (fun k => k = g ∨ k = b1 ∨ k = b3) v0 w2) := hid (by rw [hw2]; exact (Turned.refl _ v0).alloc _)
  have HBB := hid (And.intro hb1 (And.intro hb3 (show w2.heap.size = v0.heap.size + 1 by rw [hw2]; simp)))
  have O0 := hid ho0
  have H0 := hid R
  have S0 := hid (And.intro hx0 (And.intro hs0 hn0))
  have HP0 := hid (refRInts_any g top B a0 b0 w2 R.rd)
  clear ho0 hr0 hg0 hw1 hx0 hs0 hn0 R HP
  go_wp2_with fail
  rw [← hw2, ← hb1, ← hb3]
  clear hw2 hb1 hb3 hst
  refine HP0.out.mono ?_
  rintro e v1 ⟨a1, b1', A1, c1, rfl, ho, hr, hs, hg⟩
  obtain ⟨x1, hx⟩ : ∃ x, (rdInts (stOf B a0 b0)).1 = x := ⟨_, rfl⟩
  rw [hx] at ho
  rw [hx]
  obtain ⟨n1, hn⟩ : ∃ n, x1.length = n := ⟨_, rfl⟩
  rw [hn]
  have R := H0.out.call hr hg
  have z := row_free R.r3 1
  have c := row_cell R.r3 1
  obtain ⟨u1, hu⟩ : ∃ u, u = v1.setCell ⟨b3, 1, none⟩ (.slice A1 n1 c1) := ⟨_, rfl⟩
  have H1 : Hid (Rg w u1 g top B a1 b1' b1 #[.slice none 0 0, .slice none 0 0, .slice none 0 0] 28 b3 #[.slice A0 n0 c0, .slice A1 n1 c1, .slice none 0 0]) := hid (by rw [hu]; exact R.set 1 _)
  have T1 : Hid (Turned (fun k => k = g ∨ k = b1 ∨ k = b3) v1 u1) := hid (by rw [hu]; exact (Turned.refl _ v1).setCell b3 1 _ (fun _ => .inr (.inr rfl)))
  have G1 : Hid (Turned (fun k => k = g ∨ k = b1 ∨ k = b3) w2 v1) := hid (Turned.ofGrown hg (fun k e => by injection e with e; exact .inl e.symm))
  have O1 := hid ho
  have S1 := hid (And.intro hx (And.intro hs hn))
  have HP1 := hid (refRInts_any g top B a1 b1' u1 H1.out.rd)
  clear ho hr hs hg hx hn R HP0
  go_wp2_with fail
  rw [← hu]
  clear hu z c
  refine HP1.out.mono ?_
  rintro e v2 ⟨a2, b2', A2, c2, rfl, ho, hr, hs, hg⟩
  obtain ⟨x2, hx⟩ : ∃ x, (rdInts (stOf B a1 b1')).1 = x := ⟨_, rfl⟩
  rw [hx] at ho
  rw [hx]
  obtain ⟨n2, hn⟩ : ∃ n, x2.length = n := ⟨_, rfl⟩
  rw [hn]
  have R := H1.out.call hr hg
  have z := row_free R.r3 2
  have c := row_cell R.r3 2
  obtain ⟨u2, hu⟩ : ∃ u, u = v2.setCell ⟨b3, 2, none⟩ (.slice A2 n2 c2) := ⟨_, rfl⟩
  have H2 : Hid (Rg w u2 g top B a2 b2' b1 #[.slice none 0 0, .slice none 0 0, .slice none 0 0] 28 b3 #[.slice A0 n0 c0, .slice A1 n1 c1, .slice A2 n2 c2]) := hid (by rw [hu]; exact R.set 2 _)
  have T2 : Hid (Turned (fun k => k = g ∨ k = b1 ∨ k = b3) v2 u2) := hid (by rw [hu]; exact (Turned.refl _ v2).setCell b3 2 _ (fun _ => .inr (.inr rfl)))
  have G2 : Hid (Turned (fun k => k = g ∨ k = b1 ∨ k = b3) u1 v2) := hid (Turned.ofGrown hg (fun k e => by injection e with e; exact .inl e.symm))
  have O2 := hid ho
  have S2 := hid (And.intro hx (And.intro hs hn))
  have ld := ldRow info_conf33 Tryz.underlying28 rfl H2.out.r3 rfl
  have st := stThere info_conf33 u2 b1 #[.slice A0 n0 c0, .slice A1 n1 c1, .slice A2 n2 c2] (show u2.there b1 0 3 from there_row H2.out.r1) rfl (by simp [Value.oneCell'])
  rw [hu] at ld st
  clear ho hr hs hg hx hn R HP1
  go_wp2_with fail
  rw [← hu]
  clear hu z c ld st
  have HR := hid (H2.out.last [.slice A0 n0 c0, .slice A1 n1 c1, .slice A2 n2 c2] rfl)
  have HM : Hid (rdCf (stOf B a b) = (⟨x0, x1, x2⟩, stOf B a2 b2')) := hid (by
    unfold rdCf rdM rdP
    simp only [S0.out.1, ← S0.out.2.1, S1.out.1, ← S1.out.2.1, S2.out.1, ← S2.out.2.1])
  have HO : Hid (OwnsI 3 (u2.setCells b1 0 [.slice A0 n0 c0, .slice A1 n1 c1, .slice A2 n2 c2]) w.heap.size A0 c0 x0 ∧ OwnsI 3 (u2.setCells b1 0 [.slice A0 n0 c0, .slice A1 n1 c1, .slice A2 n2 c2]) w.heap.size A1 c1 x1 ∧ OwnsI 3 (u2.setCells b1 0 [.slice A0 n0 c0, .slice A1 n1 c1, .slice A2 n2 c2]) w.heap.size A2 c2 x2) := hid (by
    have TL : Turned (fun k => k = g ∨ k = b1 ∨ k = b3) u2 (u2.setCells b1 0 [.slice A0 n0 c0, .slice A1 n1 c1, .slice A2 n2 c2]) := (turned_setCells b1 [.slice A0 n0 c0, .slice A1 n1 c1, .slice A2 n2 c2] u2 0).mono (fun k e => .inr (.inl e))
    have T2L := T2.out.trans TL
    have T1L := T1.out.trans (G2.out.trans T2L)
    have T0L := T0.out.trans (G1.out.trans T1L)
    have ht := HH.out.top_
    obtain ⟨hb1, hb3, hz2⟩ := HBB.out
    have hz1 := HZ.out
    have z1 := G1.out.size
    have z2 := T1.out.size
    have hz3 : b1 < b3 := H0.out.lt.2.1
    exact ⟨(ownsI_turned O0.out T0L (fun k hk e => by have := O0.out.blkLt k hk; omega)).weaken (by omega), (ownsI_turned O1.out T1L (fun k hk e => by have := O1.out.blkLt k hk; omega)).weaken (by omega), (ownsI_turned O2.out T2L (fun k hk e => by have := O2.out.blkLt k hk; omega)).weaken (by omega)⟩)
  refine bodyPost_ret (results_cell_row rfl _ _ b1 _ _ _ _ rfl HR.out.2.2 Tryz.underlying28 rfl (by rw [info_conf33]; rfl)) rfl ?_
  rw [HM.out]
  exact ⟨a2, b2', A0, A1, A2, c0, c1, c2, by rw [← S0.out.2.2, ← S1.out.2.2, ← S2.out.2.2], HO.out, HR.out.1, rfl, HR.out.2.1⟩
end Go.Proofs.YtaeoccpjdjafnaaGreat.Im
namespace Go.Proofs.YtaeoccpjdjafnaaGreat.Im
open Go Go.RowKit
open Rl (En Lg)
open Qu (Cf)
open Pk (enc encs rdInt rdInts rdBlob St)
set_option maxRecDepth 100000
set_option linter.unusedVariables false
local instance lo22 : Lo := ⟨0⟩
attribute [local go_sem ↓] loadAt_log1 storeAt_log1 loadAt_entry1 storeAt_entry1
namespace Rg
variable {w W W' : World} {g top a a2 : Nat} {B : List Nat} {b b2 : Bool} {b1 b3 : Nat} {c1 c3 : Array Value} {t : TypeId}
theorem belowB (h : Rg w W g top B a b b1 c1 t b3 c3) (hb : Below (b3 + 1) W W') : Rg w W' g top B a b b1 c1 t b3 c3 := by
  have hl := h.lt
  have ht := h.rd.top_
  exact ⟨h.rd.belowB hb (by omega), ⟨hb.os.trans h.gr.os, hb.tape.trans h.gr.tape, hb.output.trans h.gr.output, Nat.le_trans h.gr.size hb.size, fun k hk hn => (hb.block k (by omega)).trans (h.gr.block k hk hn)⟩, (hb.block _ (by omega)).trans h.r1, (hb.block _ (by omega)).trans h.r3, h.lt⟩
theorem more (h : Rg w W g top B a b b1 c1 t b3 c3) (hb : Below W.heap.size W W') : Rg w W' g top B a b b1 c1 t b3 c3 := h.belowB (hb.mono (by have := row_lt' h.r3; omega))
theorem other (h : Rg w W g top B a b b1 c1 t b3 c3) (be k : Nat) (u : Value) (hb : b3 < be) : Rg w (W.setCell ⟨be, k, none⟩ u) g top B a b b1 c1 t b3 c3 :=
  h.belowB (below_grown (grown_setCell W be k u) (by have := row_lt' h.r3; omega) (fun j e => by injection e; omega))
end Rg
theorem rdN_end {α : Type} (one : St → α × St) (n : Nat) (s : St) (h : n = 0 ∨ s.bad = true) : rdN one n s = ([], s) := by
  rcases h with rfl | h
  · rfl
  · cases n with
    | zero => rfl
    | succ n => unfold rdN; rw [if_pos h]
theorem sz_set (w : World) (a : Addr) (v : Value) : (w.setCell a v).heap.size = w.heap.size := by simp [World.setCell]
theorem refR_small {w : World} {g top a : Nat} {B : List Nat} {b : Bool} (h : RefR w g top B a b) : (stOf B a b).small := by
  obtain ⟨A, c, _, ho, _⟩ := h.at_
  intro x hx
  unfold stOf leftOf at hx
  dsimp only at hx
  split at hx
  · cases hx
  · exact ho.small x (List.mem_of_mem_drop hx)
/-- amid the entries -/
structure Rl5 (w wr : World) (g top : Nat) (B : List Nat) (a : Nat) (b : Bool) (b1 b3 : Nat) (x0 x1 : Int) (A : Option Addr) (c : Nat) (L : List En) (k n : Nat) (s : St) : Prop where
  rg : Rg w wr g top B a b b1 #[.int .i64 0, .int .i64 0, .slice none 0 0] 58 b3 #[.int .i64 x0, .int .i64 x1, .slice A k c]
  own : OwnE wr (b3 + 1) wr.heap.size A c L
  len : L.length = k
  eq : rdN rdE n s = (L ++ (rdN rdE (n - k) (stOf B a b)).1, (rdN rdE (n - k) (stOf B a b)).2)
/-- what is told of a log that is read -/
def LgPost (g top : Nat) (B : List Nat) (a : Nat) (b : Bool) (w : World) (e : Ending) (w' : World) : Prop := ∃ a2 b2 A c, e = .returned (.agg #[.int .i64 (rdLg (stOf B a b)).1.base, .int .i64 (rdLg (stOf B a b)).1.term, .slice A (rdLg (stOf B a b)).1.es.length c]) ∧ OwnE w' w.heap.size w'.heap.size A c (rdLg (stOf B a b)).1.es ∧ RefR w' g top B a2 b2 ∧ stOf B a2 b2 = (rdLg (stOf B a b)).2 ∧ w.grownBy w' (some g)
set_option maxHeartbeats 12800000 in
theorem rgLog_any (g top : Nat) (B : List Nat) (a : Nat) (b : Bool) (w : World) (h : RefR w g top B a b) :
    Calls Tryz.prog 73 #[.pointer (some ⟨g, 0, none⟩)] w (LgPost g top B a b w) := by
  obtain ⟨w1, hw1⟩ : ∃ w1, w1 = w.alloc (.cells #[.int .i64 0, .int .i64 0, .slice none 0 0] 58) := ⟨_, rfl⟩
  have HP := hid (refRInt_any g top B a b w1 (refR_new h _ hw1))
  have HH := hid h
  clear h
  go_enter Tryz.func73, Tryz.ntmps73
  go_wp2_with fail
  rw [← hw1]
  refine HP.out.mono ?_
  rintro e v0 ⟨a0, b0, rfl, hr0, hs0, hg0⟩
  obtain ⟨x0, hx0⟩ : ∃ x, (rdInt (stOf B a b)).1 = x := ⟨_, rfl⟩
  rw [hx0]
  obtain ⟨w2, hw2⟩ : ∃ w2, w2 = v0.alloc (.cells #[.int .i64 x0, .int .i64 0, .slice none 0 0] 58) := ⟨_, rfl⟩
  have hst := stNew v0 58 3 info_log33 #[.int .i64 0, .int .i64 0, .slice none 0 0] #[.int .i64 x0, .int .i64 0, .slice none 0 0] rfl rfl (by simp [Value.oneCell'])
  have R := Rg.new HH.out hw1 hr0 hg0 hw2
  obtain ⟨b1, hb1⟩ : ∃ b, b = w.heap.size := ⟨_, rfl⟩
  obtain ⟨b3, hb3⟩ : ∃ b, b = v0.heap.size := ⟨_, rfl⟩
  rw [← hb1, ← hb3] at R
  have H0 := hid R
  have HB1 := hid hb1
  have S0 := hid (And.intro hx0 hs0)
  have HP0 := hid (refRInt_any g top B a0 b0 w2 R.rd)
  clear hr0 hg0 hw1 hx0 hs0 R HP
  go_wp2_with fail
  rw [← hw2, ← hb1, ← hb3]
  clear hw2 hb1 hb3 hst
  refine HP0.out.mono ?_
  rintro e v1 ⟨a1, b1', rfl, hr, hs, hg⟩
  obtain ⟨x1, hx⟩ : ∃ x, (rdInt (stOf B a0 b0)).1 = x := ⟨_, rfl⟩
  rw [hx]
  have R := H0.out.call hr hg
  have z := row_free R.r3 1
  have c := row_cell R.r3 1
  obtain ⟨u1, hu⟩ : ∃ u, u = v1.setCell ⟨b3, 1, none⟩ (.int .i64 x1) := ⟨_, rfl⟩
  have H1 : Hid (Rg w u1 g top B a1 b1' b1 #[.int .i64 0, .int .i64 0, .slice none 0 0] 58 b3 #[.int .i64 x0, .int .i64 x1, .slice none 0 0]) := hid (by rw [hu]; exact R.set 1 _)
  have S1 := hid (And.intro hx hs)
  have HP1 := hid (rgMany_any g top B a1 b1' u1 H1.out.rd)
  clear hr hs hg hx R H0 HP0
  go_wp2_with fail
  rw [← hu]
  clear hu z c
  refine HP1.out.mono ?_
  rintro e v2 ⟨a2, b2', rfl, hr, hs, hg⟩
  obtain ⟨m, hm⟩ : ∃ x, (rdMany (stOf B a1 b1')).1 = x := ⟨_, rfl⟩
  rw [hm]
  have HM0 : Hid (0 ≤ m ∧ m ≤ 1000000) := hid (by
    rw [← hm]
    unfold rdMany
    have hs5 : (rdInt (stOf B a1 b1')).2.rest.length ≤ 1000000 := by
      have h1 : (rdInt (stOf B a1 b1')).2.rest.length ≤ (stOf B a1 b1').rest.length := by
        unfold Pk.rdInt
        split
        · simp [Pk.gone]
        · show (List.drop 8 _).length ≤ _
          rw [List.length_drop]; omega
      have h2 : (stOf B a1 b1').rest.length ≤ B.length := by
        unfold stOf leftOf
        dsimp only
        split
        · simp
        · rw [List.length_drop]; omega
      have := H1.out.rd.short
      omega
    split
    · exact ⟨by decide, by decide⟩
    · rename_i h; omega)
  obtain ⟨n, rfl⟩ : ∃ n : Nat, m = (n : Int) := ⟨m.toNat, by have := HM0.out; omega⟩
  have hn1 : n ≤ 1000000 := by have := HM0.out; omega
  have H2 : Hid (Rl5 w v2 g top B a2 b2' b1 b3 x0 x1 none 0 [] 0 n (stOf B a2 b2')) := hid ⟨H1.out.call hr hg, OwnE.nil _ _ _, rfl, by simp⟩
  have S2 := hid (And.intro hm hs)
  clear hr hs hg hm H1 HP1 HM0
  go_wp2_with fail
  go_loopw [5] (fun i wr => ∃ k : Nat, k ≤ n ∧ i = .int .i64 (k : Int) ∧ Hid (∃ a5 b5 A c L, Rl5 w wr g top B a5 b5 b1 b3 x0 x1 A c L k n (stOf B a2 b2'))) (fun i _ => n - (RowKit.intOf i).toNat)
  case atStart => exact ⟨0, Nat.zero_le _, rfl, hid ⟨_, _, _, _, _, H2.out⟩⟩
  case round =>
    clear H2
    obtain ⟨k, hk, rfl, HQ0⟩ := hrel
    obtain ⟨a5, b5, A, c, L, hQ⟩ := HQ0.out
    have HQ := hid hQ
    obtain ⟨_, _, _, _, cb, _⟩ := hQ.rg.rd.cells
    clear hQ HQ0
    by_cases hlt : k < n
    · have hlt0 : (k : Int) < (n : Int) := by omega
      cases b5 with
      | true =>
        have hend : rdN rdE n (stOf B a2 b2') = (L, stOf B a5 true) := by
          rw [HQ.out.eq, rdN_end rdE _ _ (.inr rfl), List.append_nil]
        have HM : Hid (rdLg (stOf B a b) = (⟨x0, x1, L⟩, stOf B a5 true)) := hid (by
          unfold rdLg rdM rdP
          simp only [S0.out.1, ← S0.out.2, S1.out.1, ← S1.out.2, rdL_many, S2.out.1, ← S2.out.2, Int.toNat_natCast, hend])
        have ld := ldRow info_log33 Tryz.underlying58 rfl HQ.out.rg.r3 rfl
        have st := stThere info_log33 wr b1 #[.int .i64 x0, .int .i64 x1, .slice A k c] (show wr.there b1 0 3 from there_row HQ.out.rg.r1) rfl (by simp [Value.oneCell'])
        have HR := hid (HQ.out.rg.last [.int .i64 x0, .int .i64 x1, .slice A k c] rfl)
        have HO : Hid (OwnE (wr.setCells b1 0 [.int .i64 x0, .int .i64 x1, .slice A k c]) w.heap.size (wr.setCells b1 0 [.int .i64 x0, .int .i64 x1, .slice A k c]).heap.size A c L ∧ L.length = k) := hid (by
          have hT := turned_setCells b1 [.int .i64 x0, .int .i64 x1, .slice A k c] wr 0
          have hl := HQ.out.rg.lt
          exact ⟨(HQ.out.own.keep hT (fun k hk hB => by have := hB.1; omega)).wide (by omega) hT.size, HQ.out.len⟩)
        clear hend hlt HQ S0 S1 S2
        go_wp2_with fail
        refine bodyPost_ret (results_cell_row rfl _ _ b1 _ _ _ _ rfl HR.out.2.2 Tryz.underlying58 rfl (by rw [info_log33]; rfl)) rfl ?_
        unfold LgPost
        rw [HM.out]
        exact ⟨a5, true, A, c, by rw [← HO.out.2], HO.out.1, HR.out.1, rfl, HR.out.2.1⟩
      | false =>
        have HP := hid (refRInt_any g top B a5 false wr HQ.out.rg.rd)
        clear hlt
        go_wp2_with fail
        refine HP.out.mono ?_
        rintro e v5 ⟨a6, b6, rfl, hr, hs, hg⟩
        obtain ⟨t0, ht0⟩ : ∃ x, (rdInt (stOf B a5 false)).1 = x := ⟨_, rfl⟩
        rw [ht0]
        have hi0 : InInt t0 := by rw [← ht0]; exact Pk.rdInt_in _ (refR_small HQ.out.rg.rd)
        obtain ⟨w6, hw6⟩ : ∃ w6, w6 = v5.alloc (.cells #[.int .i64 t0, .int .i64 0, .slice none 0 0] 73) := ⟨_, rfl⟩
        have hst6 := stNew v5 73 3 info_entry33 #[.int .i64 0, .int .i64 0, .slice none 0 0] #[.int .i64 t0, .int .i64 0, .slice none 0 0] rfl rfl (by simp [Value.oneCell'])
        obtain ⟨be, hbe⟩ : ∃ be, be = v5.heap.size := ⟨_, rfl⟩
        have b56 : Below v5.heap.size v5 w6 := by rw [hw6]; exact (Below.refl _ _).alloc (Nat.le_refl _) _
        have hlt3 := HQ.out.rg.lt
        have htop := HQ.out.rg.rd.top_
        have hb3w : b3 < wr.heap.size := Rg.row_lt' HQ.out.rg.r3
        have hbe3 : b3 < be := by have := hg.size; omega
        have H6 := hid ((HQ.out.rg.call hr hg).more b56)
        have E6 := hid (show w6.heap[be]? = some (.cells #[.int .i64 t0, .int .i64 0, .slice none 0 0] 73 (0, 0)) by rw [hw6, hbe]; exact heap_alloc_new _ _)
        have T6 : Hid (Turned (fun k => k = g ∨ k = be) wr w6) := hid ((Turned.ofGrown hg (fun k e => by injection e with e; exact .inl e.symm)).trans (Turned.ofBelow _ b56))
        have HBE := hid (And.intro hbe3 (And.intro hb3w (And.intro hlt3 (And.intro htop (show wr.heap.size ≤ be by rw [hbe]; exact hg.size)))))
        have S5 := hid (And.intro ht0 (And.intro hs hi0))
        have HP6 := hid (refRInt_any g top B a6 b6 w6 H6.out.rd)
        clear hr hs hg hi0 ht0 b56 hlt3 htop hb3w hbe3 HP cb
        go_wp2_with fail
        rw [← hw6, ← hbe]
        clear hw6 hbe hst6
        refine HP6.out.mono ?_
        rintro e v7 ⟨a7, b7, rfl, hr, hs, hg⟩
        obtain ⟨t1, ht1⟩ : ∃ x, (rdInt (stOf B a6 b6)).1 = x := ⟨_, rfl⟩
        rw [ht1]
        have hi1 : InInt t1 := by rw [← ht1]; exact Pk.rdInt_in _ (refR_small H6.out.rd)
        have e7 := (hg.block _ (Rg.row_lt' E6.out) (fun e => by injection e; have := HBE.out; omega)).trans E6.out
        have z := row_free e7 1
        have c7 := row_cell e7 1
        obtain ⟨u7, hu⟩ : ∃ u, u = v7.setCell ⟨be, 1, none⟩ (.int .i64 t1) := ⟨_, rfl⟩
        have H7 : Hid (Rg w u7 g top B a7 b7 b1 #[.int .i64 0, .int .i64 0, .slice none 0 0] 58 b3 #[.int .i64 x0, .int .i64 x1, .slice A k c]) := hid (by rw [hu]; exact (H6.out.call hr hg).other be 1 _ HBE.out.1)
        have E7 : Hid (u7.heap[be]? = some (.cells #[.int .i64 t0, .int .i64 t1, .slice none 0 0] 73 (0, 0))) := hid (by rw [hu]; exact row_set e7 1 _)
        have T7 : Hid (Turned (fun k => k = g ∨ k = be) wr u7) := hid (by rw [hu]; exact (T6.out.trans (Turned.ofGrown hg (fun k e => by injection e with e; exact .inl e.symm))).setCell be 1 _ (fun _ => .inr rfl))
        have S7 := hid (And.intro ht1 (And.intro hs hi1))
        have HP7 := hid (refRBlob_any g top B a7 b7 u7 H7.out.rd)
        clear hr hs hg hi1 ht1 e7 H6 E6 T6 HP6
        go_wp2_with fail
        rw [← hu]
        clear hu z c7
        refine HP7.out.mono ?_
        rintro e v8 ⟨a8, b8, A8, c8, rfl, ho, hr, hs, hg⟩
        obtain ⟨d8, hd8⟩ : ∃ x, (rdBlob (stOf B a7 b7)).1 = x := ⟨_, rfl⟩
        rw [hd8] at ho
        rw [hd8]
        have e8 := (hg.block _ (Rg.row_lt' E7.out) (fun e => by injection e; have := HBE.out; omega)).trans E7.out
        have z := row_free e8 2
        have c9 := row_cell e8 2
        obtain ⟨u8, hu⟩ : ∃ u, u = v8.setCell ⟨be, 2, none⟩ (.slice A8 d8.length c8) := ⟨_, rfl⟩
        have H8 : Hid (Rg w u8 g top B a8 b8 b1 #[.int .i64 0, .int .i64 0, .slice none 0 0] 58 b3 #[.int .i64 x0, .int .i64 x1, .slice A k c]) := hid (by rw [hu]; exact (H7.out.call hr hg).other be 2 _ HBE.out.1)
        have E8 : Hid (u8.heap[be]? = some (.cells #[.int .i64 t0, .int .i64 t1, .slice A8 d8.length c8] 73 (0, 0))) := hid (by rw [hu]; exact row_set e8 2 _)
        have T8 : Hid (Turned (fun k => k = g ∨ k = be) wr u8) := hid (by rw [hu]; exact (T7.out.trans (Turned.ofGrown hg (fun k e => by injection e with e; exact .inl e.symm))).setCell be 2 _ (fun _ => .inr rfl))
        obtain ⟨w9, hw9⟩ : ∃ w9, w9 = u8.alloc (.cells #[.int .i64 t0, .int .i64 t1, .slice A8 d8.length c8] 73) := ⟨_, rfl⟩
        have b89 : Below u8.heap.size u8 w9 := by rw [hw9]; exact (Below.refl _ _).alloc (Nat.le_refl _) _
        have HOB : Hid (OwnsB 5 w9 wr.heap.size A8 c8 d8) := hid (((by
          rw [hu]
          have hs7 : wr.heap.size ≤ u7.heap.size := T7.out.size
          have he7 := Rg.row_lt' E7.out
          exact (ho.turned ((Turned.refl (fun k => k = be) v8).setCell be 2 _ (fun _ => rfl)) (fun k hk e => by have := (ho.blkLt k hk).1; omega)).weaken hs7 : OwnsB 5 u8 wr.heap.size A8 c8 d8)).below b89)
        have OW : Hid (OwnE w9 (b3 + 1) wr.heap.size A c L) := hid ((HQ.out.own.keep T8.out (fun k hk hB => by have := HBE.out; have := hB.1; have := hB.2; omega)).keep (Turned.ofBelow (fun _ => False) b89) (fun k hk => hk.elim))
        have hz8 : v8.heap.size = u8.heap.size := by rw [hu, sz_set]
        have hc9 : ∀ j, j < 3 → w9.cell? ((⟨v8.heap.size, 0, none⟩ : Addr).add j) = (cellsE ⟨⟨t0, t1, d8⟩, A8, c8⟩)[j]? := fun j hj => by
          rw [add_off, Nat.zero_add, hz8, hw9, row_cell (heap_alloc_new u8 _) j]; simp [cellsE]
        have S8 := hid (And.intro hd8 hs)
        have H9 : Hid (Rg w w9 g top B a8 b8 b1 #[.int .i64 0, .int .i64 0, .slice none 0 0] 58 b3 #[.int .i64 x0, .int .i64 x1, .slice A k c]) := hid (H8.out.more b89)
        have HS9 := hid (show wr.heap.size ≤ w9.heap.size from Nat.le_trans T8.out.size b89.size)
        have k8 := row_cell H8.out.r3 2
        have ld8 := ldRow info_entry33 Tryz.underlying73 rfl E8.out rfl
        rw [hu] at k8 ld8
        have hown := OW.out
        have hob := HOB.out
        have hs9 := HS9.out
        rw [hw9, hu] at hown hob hs9 hc9
        have OWr := hid hown
        have HOBr := hid hob
        have HSr := hid hs9
        have HCr := hid hc9
        have HUW := hid (And.intro hu hw9)
        clear hr hs hg hd8 e8 H7 E7 T7 HP7 ho b89 H8 E8 T8 hown hob hs9 hc9 hu hw9 OW HOB HS9 hz8
        go_wp2_with (at_builtin; refine wpList_append_entM rfl _ _ rfl OWr.out (by have := HBE.out; omega) HSr.out k HQ.out.len rfl ⟨t0, t1, d8⟩ ⟨S5.out.2.2, S7.out.2.2⟩ A8 c8 HOBr.out ⟨v8.heap.size, 0, none⟩ 1 rfl HCr.out (by omega) ?_)
        rw [← HUW.out.1, ← HUW.out.2]
        intro A9 c9' w10 hown10 hb10
        have R10 := H9.out.belowB hb10
        have z10 := row_free R10.r3 2
        have k10 := row_cell R10.r3 2
        have H10 := hid (R10.set 2 (.slice A9 (k + 1) c9'))
        have HO10 : Hid (OwnE (w10.setCell ⟨b3, 2, none⟩ (.slice A9 (k + 1) c9')) (b3 + 1) (w10.setCell ⟨b3, 2, none⟩ (.slice A9 (k + 1) c9')).heap.size A9 c9' (L ++ [⟨t0, t1, d8⟩])) := hid (by
          rw [sz_set]
          exact hown10.keep ((Turned.refl (fun k => k = b3) w10).setCell b3 2 _ (fun _ => rfl)) (fun k hk hB => by have := hB.1; omega))
        have HEQ : Hid (rdN rdE n (stOf B a2 b2') = ((L ++ [⟨t0, t1, d8⟩]) ++ (rdN rdE (n - (k + 1)) (stOf B a8 b8)).1, (rdN rdE (n - (k + 1)) (stOf B a8 b8)).2)) := hid (by
          have he : rdE (stOf B a5 false) = (⟨t0, t1, d8⟩, stOf B a8 b8) := by
            unfold rdE rdM rdP
            simp only [S5.out.1, ← S5.out.2.1, S7.out.1, ← S7.out.2.1, S8.out.1, ← S8.out.2]
          rw [HQ.out.eq, show n - k = (n - (k + 1)) + 1 by omega, rdN_one rdE _ _ rfl, he]
          simp)
        have HL1 := hid (show (L ++ [(⟨t0, t1, d8⟩ : En)]).length = k + 1 by rw [List.length_append, HQ.out.len]; rfl)
        clear R10 hown10 hb10 H9 OWr HOBr HSr HCr HUW HQ S5 S7 S8 k8 ld8 z c9
        go_wp2_with fail
        go_roundw
        case rel => exact ⟨k + 1, by omega, by go_num, hid ⟨a8, b8, A9, c9', _, ⟨H10.out, HO10.out, HL1.out, HEQ.out⟩⟩⟩
        case measure => simp [RowKit.intOf]; omega
    · obtain rfl : k = n := by omega
      have hlt0 : ¬ (k : Int) < (k : Int) := by omega
      have hend : rdN rdE k (stOf B a2 b2') = (L, stOf B a5 b5) := by
        rw [HQ.out.eq, rdN_end rdE _ _ (.inl (Nat.sub_self k)), List.append_nil]
      have HM : Hid (rdLg (stOf B a b) = (⟨x0, x1, L⟩, stOf B a5 b5)) := hid (by
        unfold rdLg rdM rdP
        simp only [S0.out.1, ← S0.out.2, S1.out.1, ← S1.out.2, rdL_many, S2.out.1, ← S2.out.2, Int.toNat_natCast, hend])
      have ld := ldRow info_log33 Tryz.underlying58 rfl HQ.out.rg.r3 rfl
      have st := stThere info_log33 wr b1 #[.int .i64 x0, .int .i64 x1, .slice A k c] (show wr.there b1 0 3 from there_row HQ.out.rg.r1) rfl (by simp [Value.oneCell'])
      have HR := hid (HQ.out.rg.last [.int .i64 x0, .int .i64 x1, .slice A k c] rfl)
      have HO : Hid (OwnE (wr.setCells b1 0 [.int .i64 x0, .int .i64 x1, .slice A k c]) w.heap.size (wr.setCells b1 0 [.int .i64 x0, .int .i64 x1, .slice A k c]).heap.size A c L ∧ L.length = k) := hid (by
        have hT := turned_setCells b1 [.int .i64 x0, .int .i64 x1, .slice A k c] wr 0
        have hl := HQ.out.rg.lt
        exact ⟨(HQ.out.own.keep hT (fun k hk hB => by have := hB.1; omega)).wide (by omega) hT.size, HQ.out.len⟩)
      clear hend hlt HQ S0 S1 S2
      go_wp2_with fail
      refine bodyPost_ret (results_cell_row rfl _ _ b1 _ _ _ _ rfl HR.out.2.2 Tryz.underlying58 rfl (by rw [info_log33]; rfl)) rfl ?_
      unfold LgPost
      rw [HM.out]
      exact ⟨a5, b5, A, c, by rw [← HO.out.2], HO.out.1, HR.out.1, rfl, HR.out.2.1⟩
end Go.Proofs.YtaeoccpjdjafnaaGreat.Im
namespace Go.Proofs.YtaeoccpjdjafnaaGreat.Im
open Go Go.RowKit
open Rl (En Lg)
open Qu (Cf)
set_option maxRecDepth 100000
set_option linter.unusedVariables false
local instance lo15 : Lo := ⟨0⟩
attribute [local go_sem ↓] loadAt_vote storeAt_vote loadAt_hard storeAt_hard loadAt_change storeAt_change
def PtIn (w : World) (B N : Nat) (p : Pt) (a : Ad) : Prop := OwnE w B N a.e a.ce p.log.es ∧ (OwnsI 3 w B a.o a.co p.cf.old ∧ ∀ k, blk a.o = some k → k < N) ∧ (OwnsI 3 w B a.n a.cn p.cf.new ∧ ∀ k, blk a.n = some k → k < N) ∧ (OwnsI 3 w B a.l a.cl p.cf.lrn ∧ ∀ k, blk a.l = some k → k < N) ∧ (OwnsB 5 w B a.s a.cs p.sn ∧ ∀ k, blk a.s = some k → k < N) ∧ (InInt p.log.base ∧ InInt p.log.term)
theorem OwnPt.ptIn {w : World} {B N : Nat} {p : Pt} {a : Ad} (h : OwnPt w B N p a) : PtIn w B N p a := by
  obtain ⟨m0, m1, m2, m3, ⟨c0, c1, c2, c3, c4⟩, h1, h2, h3, h4, h5, h6⟩ := h
  exact ⟨h1.wide (Nat.le_refl _) (by omega), ⟨h2.1.weaken c0, fun k hk => by have := h2.2 k hk; omega⟩, ⟨h3.1.weaken (by omega), fun k hk => by have := h3.2 k hk; omega⟩, ⟨h4.1.weaken (by omega), fun k hk => by have := h4.2 k hk; omega⟩, ⟨h5.1.weaken (by omega), h5.2⟩, h6⟩
namespace PtIn
variable {w w' : World} {B B' N N' : Nat} {p : Pt} {a : Ad}
theorem kp (h : PtIn w B N p a) (hk : Kp Parts w w') : PtIn w' B N p a := by
  obtain ⟨h1, h2, h3, h4, h5, h6⟩ := h
  exact ⟨hk.ownE (.inl rfl) (.inr (.inl rfl)) h1, ⟨hk.ownI (.inr (.inr rfl)) h2.1, h2.2⟩, ⟨hk.ownI (.inr (.inr rfl)) h3.1, h3.2⟩, ⟨hk.ownI (.inr (.inr rfl)) h4.1, h4.2⟩, ⟨hk.ownB (.inr (.inl rfl)) h5.1, h5.2⟩, h6⟩
theorem wide (h : PtIn w B N p a) (hB : B' ≤ B) (hN : N ≤ N') : PtIn w B' N' p a := by
  obtain ⟨h1, h2, h3, h4, h5, h6⟩ := h
  exact ⟨h1.wide hB hN, ⟨h2.1.weaken hB, fun k hk => by have := h2.2 k hk; omega⟩, ⟨h3.1.weaken hB, fun k hk => by have := h3.2 k hk; omega⟩, ⟨h4.1.weaken hB, fun k hk => by have := h4.2 k hk; omega⟩, ⟨h5.1.weaken hB, fun k hk => by have := h5.2 k hk; omega⟩, h6⟩
theorem keep {S : Nat → Prop} (h : PtIn w B N p a) (ht : Turned S w w') (hs : ∀ k, S k → ¬ Bl B N k) : PtIn w' B N p a := by
  obtain ⟨h1, h2, h3, h4, h5, h6⟩ := h
  have kB : ∀ {A : Option Addr}, (∀ k, blk A = some k → B ≤ k) → (∀ k, blk A = some k → k < N) → ∀ k, blk A = some k → ¬ S k := fun h3 h4 k hk hS => hs k hS ⟨h3 k hk, h4 k hk⟩
  exact ⟨h1.keep ht hs, ⟨ownsI_turned h2.1 ht (kB (fun k hk => (h2.1.blkLt k hk).1) h2.2), h2.2⟩, ⟨ownsI_turned h3.1 ht (kB (fun k hk => (h3.1.blkLt k hk).1) h3.2), h3.2⟩, ⟨ownsI_turned h4.1 ht (kB (fun k hk => (h4.1.blkLt k hk).1) h4.2), h4.2⟩, ⟨h5.1.turned ht (kB (fun k hk => (h5.1.blkLt k hk).1) h5.2), h5.2⟩, h6⟩
theorem below (h : PtIn w B N p a) (hb : Below N w w') : PtIn w' B N p a :=
  h.keep (S := fun k => N ≤ k) ⟨hb.os, hb.tape, hb.output, hb.size, fun k _ hn => hb.block k (by omega)⟩ (fun k hk hB => by have := hB.2; omega)
theorem reads (h : PtIn w B N p a) : IsPt w N p a := by
  obtain ⟨h1, h2, h3, h4, h5, h6⟩ := h
  exact ⟨h1.reads, isInts_lower h2.1.reads h2.2, isInts_lower h3.1.reads h3.2, isInts_lower h4.1.reads h4.2, isBytes_lower h5.1.reads h5.2, ⟨h1.room, h1.none_⟩, ownsI_room h2.1, ownsI_room h3.1, ownsI_room h4.1, ownsB_room h5.1, h6⟩
end PtIn
/-- a list of these, with all their parts -/
structure InHs (w : World) (B N : Nat) (A : Option Addr) (c : Nat) (M : List Hq) : Prop where
  row : RowIn cellsH 10 75 w (Bl B N) A c M
  pts : ∀ q ∈ M, PtIn w B N q.h.p q.a
  num : ∀ q ∈ M, InInt q.h.g ∧ InInt q.h.t ∧ InInt q.h.v
namespace InHs
variable {w w' : World} {B B' N N' : Nat} {A : Option Addr} {c : Nat} {M : List Hq}
theorem nil (w : World) (B N : Nat) : InHs w B N none 0 [] := ⟨RowIn.nil cellsH_fits _ _ _, by simp, by simp⟩
theorem keep {S : Nat → Prop} (h : InHs w B N A c M) (ht : Turned S w w') (hs : ∀ k, S k → ¬ Bl B N k) : InHs w' B N A c M := ⟨h.row.keep ht (fun k hk hS => hs k hS (h.row.blk k hk)), fun q hq => (h.pts q hq).keep ht hs, h.num⟩
theorem below (h : InHs w B N A c M) (hb : Below N w w') : InHs w' B N A c M :=
  h.keep (S := fun k => N ≤ k) ⟨hb.os, hb.tape, hb.output, hb.size, fun k _ hn => hb.block k (by omega)⟩ (fun k hk hB => by have := hB.2; omega)
theorem wide (h : InHs w B N A c M) (hB : B' ≤ B) (hN : N ≤ N') : InHs w B' N' A c M := ⟨h.row.mono (fun k hk => ⟨Nat.le_trans hB (h.row.blk k hk).1, Nat.lt_of_lt_of_le (h.row.blk k hk).2 hN⟩), fun q hq => (h.pts q hq).wide hB hN, h.num⟩
theorem reads (h : InHs w B N A c M) : IsHds w N A M := by
  refine ⟨⟨fun k hk => ?_⟩, fun q hq => (h.pts q hq).reads, h.num⟩
  obtain ⟨g, hA, hg, hF, hc, _⟩ := h.row.get k hk
  refine ⟨g, 0, hA, hF.2, fun i hi j v hv => ?_⟩
  obtain ⟨g', hA', _, _, hc', _⟩ := h.row.get i hi
  obtain rfl : g = g' := by rw [hA] at hA'; injection hA' with e; injection e
  have hj : j < 10 := (List.getElem?_eq_some_iff.1 hv).1
  rw [Nat.zero_add, hc' j hj]; exact hv
/-- one more -/
theorem put {wr w4 w5 w6 : World} {n4 n5 c1 c6 : Nat} {A1 A6 : Option Addr} {L : List Hq} {x : Hq} (h : InHs wr B wr.heap.size A1 c1 L) (hB : B ≤ wr.heap.size) (hb4 : Below wr.heap.size wr w4) (ho : PtIn w4 wr.heap.size n4 x.h.p x.a) (hn4 : n4 ≤ w4.heap.size) (hn : InInt x.h.g ∧ InInt x.h.t ∧ InInt x.h.v)
    (hb5 : Below w4.heap.size w4 w5) (hrow5 : RowIn cellsH 10 75 w5 (Bl B wr.heap.size) A1 c1 L) (hn5 : w5.heap.size = n5) (hrow6 : RowIn cellsH 10 75 w6 (fun k => Bl B wr.heap.size k ∨ n5 ≤ k) A6 c6 (L ++ [x])) (hg6 : w5.grownBy w6 (Go.Proofs.YtaeoccpjdjafnaaGreat.blk A1)) :
    InHs w6 B w6.heap.size A6 c6 (L ++ [x]) := by
  have hw4 := hb4.size
  have hw5 := hb5.size
  have hw6 := hg6.size
  have kp56 : Kp Parts w5 w6 := by
    rcases hb : Go.Proofs.YtaeoccpjdjafnaaGreat.blk A1 with _ | k
    · rw [hb] at hg6
      exact Kp.ofBelow (below_grown hg6 (Nat.le_refl _) (fun j e => by cases e))
    · rw [hb] at hg6
      obtain ⟨cur, hc⟩ := hrow5.tag hb
      exact Kp.ofGrown hc (by rintro (e | e | e) <;> exact absurd e (by decide)) hg6
  refine ⟨hrow6.mono (fun k hk => ⟨?_, hrow6.lt k hk⟩), fun q hq => ?_, fun q hq => ?_⟩
  · rcases hrow6.blk k hk with e | e
    · exact e.1
    · omega
  · rcases List.mem_append.1 hq with hq | hq
    · exact ((((h.pts q hq).kp (Kp.ofBelow hb4)).kp (Kp.ofBelow hb5)).kp kp56).wide (Nat.le_refl _) (by omega)
    · obtain rfl := List.mem_singleton.1 hq
      exact ((ho.kp (Kp.ofBelow hb5)).kp kp56).wide hB (by omega)
  · rcases List.mem_append.1 hq with hq | hq
    · exact h.num q hq
    · obtain rfl := List.mem_singleton.1 hq; exact hn
end InHs
/-- a list of these, with all their parts -/
structure InCs (w : World) (B N : Nat) (A : Option Addr) (c : Nat) (M : List Cq) : Prop where
  row : RowIn cellsC 17 62 w (Bl B N) A c M
  pts : ∀ q ∈ M, PtIn w B N q.c.p q.a
  num : ∀ q ∈ M, (InInt q.c.k ∧ InInt q.c.g ∧ InInt q.c.t ∧ InInt q.c.v ∧ InInt q.c.f) ∧ okV q.c.a
namespace InCs
variable {w w' : World} {B B' N N' : Nat} {A : Option Addr} {c : Nat} {M : List Cq}
theorem nil (w : World) (B N : Nat) : InCs w B N none 0 [] := ⟨RowIn.nil cellsC_fits _ _ _, by simp, by simp⟩
theorem keep {S : Nat → Prop} (h : InCs w B N A c M) (ht : Turned S w w') (hs : ∀ k, S k → ¬ Bl B N k) : InCs w' B N A c M := ⟨h.row.keep ht (fun k hk hS => hs k hS (h.row.blk k hk)), fun q hq => (h.pts q hq).keep ht hs, h.num⟩
theorem below (h : InCs w B N A c M) (hb : Below N w w') : InCs w' B N A c M :=
  h.keep (S := fun k => N ≤ k) ⟨hb.os, hb.tape, hb.output, hb.size, fun k _ hn => hb.block k (by omega)⟩ (fun k hk hB => by have := hB.2; omega)
theorem wide (h : InCs w B N A c M) (hB : B' ≤ B) (hN : N ≤ N') : InCs w B' N' A c M := ⟨h.row.mono (fun k hk => ⟨Nat.le_trans hB (h.row.blk k hk).1, Nat.lt_of_lt_of_le (h.row.blk k hk).2 hN⟩), fun q hq => (h.pts q hq).wide hB hN, h.num⟩
theorem reads (h : InCs w B N A c M) : IsCs w N A M := by
  refine ⟨⟨fun k hk => ?_⟩, fun q hq => (h.pts q hq).reads, h.num⟩
  obtain ⟨g, hA, hg, hF, hc, _⟩ := h.row.get k hk
  refine ⟨g, 0, hA, hF.2, fun i hi j v hv => ?_⟩
  obtain ⟨g', hA', _, _, hc', _⟩ := h.row.get i hi
  obtain rfl : g = g' := by rw [hA] at hA'; injection hA' with e; injection e
  have hj : j < 17 := (List.getElem?_eq_some_iff.1 hv).1
  rw [Nat.zero_add, hc' j hj]; exact hv
/-- one more -/
theorem put {wr w4 w5 w6 : World} {n4 n5 c1 c6 : Nat} {A1 A6 : Option Addr} {L : List Cq} {x : Cq} (h : InCs wr B wr.heap.size A1 c1 L) (hB : B ≤ wr.heap.size) (hb4 : Below wr.heap.size wr w4) (ho : PtIn w4 wr.heap.size n4 x.c.p x.a) (hn4 : n4 ≤ w4.heap.size) (hn : (InInt x.c.k ∧ InInt x.c.g ∧ InInt x.c.t ∧ InInt x.c.v ∧ InInt x.c.f) ∧ okV x.c.a)
    (hb5 : Below w4.heap.size w4 w5) (hrow5 : RowIn cellsC 17 62 w5 (Bl B wr.heap.size) A1 c1 L) (hn5 : w5.heap.size = n5) (hrow6 : RowIn cellsC 17 62 w6 (fun k => Bl B wr.heap.size k ∨ n5 ≤ k) A6 c6 (L ++ [x])) (hg6 : w5.grownBy w6 (Go.Proofs.YtaeoccpjdjafnaaGreat.blk A1)) :
    InCs w6 B w6.heap.size A6 c6 (L ++ [x]) := by
  have hw4 := hb4.size
  have hw5 := hb5.size
  have hw6 := hg6.size
  have kp56 : Kp Parts w5 w6 := by
    rcases hb : Go.Proofs.YtaeoccpjdjafnaaGreat.blk A1 with _ | k
    · rw [hb] at hg6
      exact Kp.ofBelow (below_grown hg6 (Nat.le_refl _) (fun j e => by cases e))
    · rw [hb] at hg6
      obtain ⟨cur, hc⟩ := hrow5.tag hb
      exact Kp.ofGrown hc (by rintro (e | e | e) <;> exact absurd e (by decide)) hg6
  refine ⟨hrow6.mono (fun k hk => ⟨?_, hrow6.lt k hk⟩), fun q hq => ?_, fun q hq => ?_⟩
  · rcases hrow6.blk k hk with e | e
    · exact e.1
    · omega
  · rcases List.mem_append.1 hq with hq | hq
    · exact ((((h.pts q hq).kp (Kp.ofBelow hb4)).kp (Kp.ofBelow hb5)).kp kp56).wide (Nat.le_refl _) (by omega)
    · obtain rfl := List.mem_singleton.1 hq
      exact ((ho.kp (Kp.ofBelow hb5)).kp kp56).wide hB (by omega)
  · rcases List.mem_append.1 hq with hq | hq
    · exact h.num q hq
    · obtain rfl := List.mem_singleton.1 hq; exact hn
end InCs
/-- votes that the call has made -/
def InVs (w : World) (B N : Nat) (A : Option Addr) (c : Nat) (L : List Vt) : Prop := RowIn cellsV 5 60 w (Bl B N) A c L ∧ ∀ v ∈ L, okV v
namespace InVs
variable {w w' : World} {B B' N N' : Nat} {A : Option Addr} {c : Nat} {L : List Vt}
theorem nil (w : World) (B N : Nat) : InVs w B N none 0 [] := ⟨RowIn.nil cellsV_fits _ _ _, by simp⟩
theorem keep {S : Nat → Prop} (h : InVs w B N A c L) (ht : Turned S w w') (hs : ∀ k, S k → ¬ Bl B N k) : InVs w' B N A c L := ⟨h.1.keep ht (fun k hk hS => hs k hS (h.1.blk k hk)), h.2⟩
theorem below (h : InVs w B N A c L) (hb : Below N w w') : InVs w' B N A c L :=
  h.keep (S := fun k => N ≤ k) ⟨hb.os, hb.tape, hb.output, hb.size, fun k _ hn => hb.block k (by omega)⟩ (fun k hk hB => by have := hB.2; omega)
theorem wide (h : InVs w B N A c L) (hB : B' ≤ B) (hN : N ≤ N') : InVs w B' N' A c L := ⟨h.1.mono (fun k hk => ⟨Nat.le_trans hB (h.1.blk k hk).1, Nat.lt_of_lt_of_le (h.1.blk k hk).2 hN⟩), h.2⟩
theorem reads (h : InVs w B N A c L) : IsVs w N A L := by
  refine ⟨⟨fun k hk => ?_⟩, h.2⟩
  obtain ⟨g, hA, hg, hF, hc, _⟩ := h.1.get k hk
  refine ⟨g, 0, hA, hF.2, fun i hi j v hv => ?_⟩
  obtain ⟨g', hA', _, _, hc', _⟩ := h.1.get i hi
  obtain rfl : g = g' := by rw [hA] at hA'; injection hA' with e; injection e
  have hj : j < 5 := (List.getElem?_eq_some_iff.1 hv).1
  rw [Nat.zero_add, hc' j hj]; exact hv
end InVs
end Go.Proofs.YtaeoccpjdjafnaaGreat.Im
namespace Go.Proofs.YtaeoccpjdjafnaaGreat.Im
open Go Go.RowKit
open Rl (En Lg)
open Qu (Cf)
open Pk (enc encs rdInt rdInts rdBlob St)
set_option maxRecDepth 100000
set_option linter.unusedVariables false
local instance lo24 : Lo := ⟨0⟩
attribute [local go_sem ↓] loadAt_log1 storeAt_log1 loadAt_conf3 storeAt_conf3 loadAt_hard storeAt_hard loadAt_image storeAt_image
theorem InHs.put2 {B N N' : Nat} {w5 w6 : World} {n5 c1 c6 : Nat} {A1 A6 : Option Addr} {L : List Hq} {x : Hq} (h : InHs w5 B N A1 c1 L) (ho : PtIn w5 B N' x.h.p x.a) (hN' : N' ≤ n5) (hn : InInt x.h.g ∧ InInt x.h.t ∧ InInt x.h.v) (hN : N ≤ n5) (hBN : B ≤ N) (hn5 : w5.heap.size = n5) (hrow6 : RowIn cellsH 10 75 w6 (fun k => Bl B N k ∨ n5 ≤ k) A6 c6 (L ++ [x])) (hg6 : w5.grownBy w6 (Go.Proofs.YtaeoccpjdjafnaaGreat.blk A1)) :
    InHs w6 B w6.heap.size A6 c6 (L ++ [x]) := by
  have hw6 := hg6.size
  have kp56 : Kp Parts w5 w6 := by
    rcases hb : Go.Proofs.YtaeoccpjdjafnaaGreat.blk A1 with _ | k
    · rw [hb] at hg6
      exact Kp.ofBelow (below_grown hg6 (Nat.le_refl _) (fun j e => by cases e))
    · rw [hb] at hg6
      obtain ⟨cur, hc⟩ := h.row.tag hb
      exact Kp.ofGrown hc (by rintro (e | e | e) <;> exact absurd e (by decide)) hg6
  refine ⟨hrow6.mono (fun k hk => ⟨?_, hrow6.lt k hk⟩), fun q hq => ?_, fun q hq => ?_⟩
  · rcases hrow6.blk k hk with e | e
    · exact e.1
    · omega
  · rcases List.mem_append.1 hq with hq | hq
    · exact ((h.pts q hq).kp kp56).wide (Nat.le_refl _) (by omega)
    · obtain rfl := List.mem_singleton.1 hq
      exact (ho.kp kp56).wide (Nat.le_refl _) (by omega)
  · rcases List.mem_append.1 hq with hq | hq
    · exact h.num q hq
    · obtain rfl := List.mem_singleton.1 hq; exact hn
theorem rdMany_in {l : List Nat} {a : Nat} {b : Bool} (h : l.length ≤ 65536) : 0 ≤ (rdMany (stOf l a b)).1 ∧ (rdMany (stOf l a b)).1 ≤ 65536 := by
  unfold rdMany
  have hs5 : (rdInt (stOf l a b)).2.rest.length ≤ 65536 := by
    have h1 : (rdInt (stOf l a b)).2.rest.length ≤ (stOf l a b).rest.length := by
      unfold Pk.rdInt
      split
      · simp [Pk.gone]
      · show (List.drop 8 _).length ≤ _
        rw [List.length_drop]; omega
    have h2 : (stOf l a b).rest.length ≤ l.length := by
      unfold stOf leftOf
      dsimp only
      split
      · simp
      · rw [List.length_drop]; omega
    omega
  split
  · exact ⟨by decide, by decide⟩
  · rename_i h; omega
theorem rdLg_num {s : St} (h : s.small) : InInt (rdLg s).1.base ∧ InInt (rdLg s).1.term := ⟨Pk.rdInt_in s h, Pk.rdInt_in _ (Pk.rdInt_small s h)⟩
/-- amid the groups' states -/
structure Rh (w wr : World) (g top : Nat) (B : List Nat) (a : Nat) (b : Bool) (b5 : Nat) (A : Option Addr) (c : Nat) (M : List Hq) (k n : Nat) (s : St) : Prop where
  rd : RefR wr g top B a b
  gr : w.grownBy wr (some g)
  r5 : wr.heap[b5]? = some (.cells #[.slice A k c, .slice none 0 0] 25 (0, 0))
  own : InHs wr (b5 + 1) wr.heap.size A c M
  len : M.length = k
  eq : rdN rdH n s = (M.map (·.h) ++ (rdN rdH (n - k) (stOf B a b)).1, (rdN rdH (n - k) (stOf B a b)).2)
  lt : w.heap.size ≤ b5 ∧ top ≤ w.heap.size
/-- amid one of them: the reader, the image's box, the box that is filled -/
structure RkB (w W : World) (g top : Nat) (B : List Nat) (a : Nat) (b : Bool) (b1 : Nat) (o1 : Obj) (b3 : Nat) (c3 : Array Value) (t : TypeId) : Prop where
  rd : RefR W g top B a b
  gr : w.grownBy W (some g)
  r1 : W.heap[b1]? = some o1
  r3 : W.heap[b3]? = some (.cells c3 t (0, 0))
  lt : w.heap.size ≤ b1 ∧ b1 < b3 ∧ top ≤ w.heap.size
namespace RkB
variable {w W W' : World} {g top a a2 : Nat} {B : List Nat} {b b2 : Bool} {b1 b3 : Nat} {o1 : Obj} {c3 : Array Value} {t : TypeId}
theorem call (h : RkB w W g top B a b b1 o1 b3 c3 t) (hr : RefR W' g top B a2 b2) (hg : W.grownBy W' (some g)) : RkB w W' g top B a2 b2 b1 o1 b3 c3 t := by
  have hl := h.lt
  have ht := h.rd.top_
  exact ⟨hr, grown_trans h.gr hg (fun k e _ => e), (hg.block _ (Rg.row_lt' h.r1) (fun e => by injection e; omega)).trans h.r1, (hg.block _ (Rg.row_lt' h.r3) (fun e => by injection e; omega)).trans h.r3, h.lt⟩
theorem set (h : RkB w W g top B a b b1 o1 b3 c3 t) (k : Nat) (u : Value) : RkB w (W.setCell ⟨b3, k, none⟩ u) g top B a b b1 o1 b3 (c3.setIfInBounds k u) t := by
  have hl := h.lt
  have hg := grown_setCell W b3 k u
  exact ⟨h.rd.other hg (fun j e => by injection e; omega), grown_trans h.gr hg (fun j e hj => by injection e; omega), (hg.block _ (Rg.row_lt' h.r1) (fun e => by injection e; omega)).trans h.r1, row_set h.r3 k u, h.lt⟩
theorem belowB (h : RkB w W g top B a b b1 o1 b3 c3 t) (hb : Below (b1 + 1) W W') : RefR W' g top B a b ∧ w.grownBy W' (some g) ∧ W'.heap[b1]? = some o1 := by
  have hl := h.lt
  have ht := h.rd.top_
  exact ⟨h.rd.belowB hb (by omega), ⟨hb.os.trans h.gr.os, hb.tape.trans h.gr.tape, hb.output.trans h.gr.output, Nat.le_trans h.gr.size hb.size, fun k hk hn => (hb.block k (by omega)).trans (h.gr.block k hk hn)⟩, (hb.block _ (by omega)).trans h.r1⟩
end RkB
theorem Rh.box {w wr v u : World} {g top a a2 k n : Nat} {B : List Nat} {b b2 : Bool} {b5 c : Nat} {A : Option Addr} {M : List Hq} {s : St} {cs : Array Value} {t : TypeId} (h : Rh w wr g top B a b b5 A c M k n s) (hr : RefR v g top B a2 b2) (hg : wr.grownBy v (some g)) (hu : u = v.alloc (.cells cs t)) : RkB w u g top B a2 b2 b5 (.cells #[.slice A k c, .slice none 0 0] 25 (0, 0)) v.heap.size cs t := by
  have hlt := h.lt
  have ht := h.rd.top_
  have hb5 := Rg.row_lt' h.r5
  have hz := hg.size
  have b34 : Below v.heap.size v u := by rw [hu]; exact (Below.refl _ _).alloc (Nat.le_refl _) _
  exact ⟨hr.below b34, grown_then (grown_trans h.gr hg (fun k e _ => e)) (b34.mono (by have := h.gr.size; omega)), (b34.block _ (by omega)).trans ((hg.block _ hb5 (fun e => by injection e; omega)).trans h.r5), by rw [hu]; exact heap_alloc_new _ _, ⟨hlt.1, by omega, hlt.2⟩⟩
/-- what a group's state's reading leaves, piece by piece -/
theorem rdH_of {s s1 s2 s3 s4 s5 s6 : St} {x0 x1 x2 : Int} {lg : Lg} {cf : Cf} {d : List Nat} (h0 : (rdInt s).1 = x0) (e0 : s1 = (rdInt s).2) (h1 : (rdInt s1).1 = x1) (e1 : s2 = (rdInt s1).2) (h2 : (rdInt s2).1 = x2) (e2 : s3 = (rdInt s2).2) (h3 : (rdLg s3).1 = lg) (e3 : s4 = (rdLg s3).2) (h4 : (rdCf s4).1 = cf) (e4 : s5 = (rdCf s4).2) (h5 : (rdBlob s5).1 = d) (e5 : s6 = (rdBlob s5).2) : rdH s = (⟨x0, x1, x2, ⟨lg, cf, d⟩⟩, s6) := by
  unfold rdH rdPt rdM rdP
  simp only [h0, ← e0, h1, ← e1, h2, ← e2, h3, ← e3, h4, ← e4, h5, ← e5]
end Go.Proofs.YtaeoccpjdjafnaaGreat.Im
namespace Go.Proofs.YtaeoccpjdjafnaaGreat
open Go.RowKit
set_option maxRecDepth 100000

set_option maxHeartbeats 400000 in
theorem in_any (B : Nat) (A : Option Addr) (c : Nat) (l : List Int) (hl : l.length ≤ 100000) (x : Int) (w : World) (h : IsInts w B A l) :
    Calls Tryz.prog 124 #[.slice A l.length c, .int .i64 x] w fun e w' => e = .returned (.bool (decide (x ∈ l))) ∧ w' = w := by
  go_enter Tryz.func124, Tryz.ntmps124
  go_wp2
  go_loopw [5] (fun i wr => ∃ k : Nat, k ≤ l.length ∧ i = .int .i64 k ∧ wr = w ∧ Hid (x ∉ l.take k)) (fun i _ => l.length - (RowKit.intOf i).toNat)
  case atStart => exact ⟨0, by omega, rfl, rfl, hid (by simp)⟩
  case round =>
    obtain ⟨k, hk, rfl, rfl, hs⟩ := hrel
    by_cases hlt : k < l.length
    · obtain ⟨b, off, rfl, _, hc⟩ := h.cells k hlt
      have hck := hc k hlt
      clear hc h
      by_cases he : l[k] = x
      · have hbe : (l[k] == x) = true := by rw [beq_iff_eq]; exact he
        have HE := hid he
        clear he
        go_wp2
        go_ret
        exact ⟨by rw [decide_eq_true (show x ∈ l by rw [← HE.out]; exact List.getElem_mem hlt)]; rfl, rfl⟩
      · have hbe : (l[k] == x) = false := by rw [beq_eq_false_iff_ne]; exact he
        have HE := hid he
        clear he
        go_wp2
        go_roundw
        case rel =>
          refine ⟨k + 1, by omega, by go_num, trivial, hid ?_⟩
          rw [List.take_succ_eq_append_getElem hlt, List.mem_append, List.mem_singleton]
          rintro (h1 | h1)
          · exact hs.out h1
          · exact HE.out h1.symm
        case measure => simp [RowKit.intOf]; omega
    · obtain rfl : k = l.length := by omega
      have := hs.out
      rw [List.take_length] at this
      have HF := hid this
      clear this
      go_wp2
      go_ret
      exact ⟨by rw [decide_eq_false HF.out]; rfl, rfl⟩

set_option maxHeartbeats 1000000 in
theorem rising_any (B : Nat) (A : Option Addr) (c : Nat) (l : List Int) (hl : l.length ≤ 100000) (w : World) (h : IsInts w B A l) :
    Calls Tryz.prog 123 #[.slice A l.length c] w fun e w' => e = .returned (.bool (Qu.node l)) ∧ ∃ n, w' = w.drewN n := by
  go_enter Tryz.func123, Tryz.ntmps123
  go_wp2
  go_loopw [3] (fun i wr => ∃ k n : Nat, k ≤ l.length ∧ i = .int .i64 k ∧ wr = w.drewN n ∧ Hid (Qu.node (l.take k) = true)) (fun i _ => l.length - (RowKit.intOf i).toNat)
  case atStart => exact ⟨0, 0, by omega, rfl, rfl, hid (by simp [Qu.node])⟩
  case round =>
    obtain ⟨k, n, hk, rfl, rfl, hs⟩ := hrel
    by_cases hlt : k < l.length
    · obtain ⟨b, off, rfl, _, hc⟩ := h.cells k hlt
      have hck := hc k hlt
      have HST := hid (Qu.node_step_last hlt hs.out)
      have HL0 := hid (Qu.last_zero l)
      have HLP := hid (Qu.last_pred l k hlt)
      have HLN := hid (Qu.last_nonneg (by omega) hs.out)
      have HC := hid hc
      clear hc
      generalize hz : l[k] = z at *
      clear hz
      by_cases h1 : 1 ≤ z
      · by_cases h2 : z ≤ 7
        · have h1' : ¬ z < 1 := by omega
          have h2' : ¬ 7 < z := by omega
          by_cases hk0 : 0 < k
          · have hkp : (0 : Int) < (k : Int) := by omega
            have hck1 := HC.out (k - 1) (by omega)
            have hix : ((k : Int) - 1).toNat = k - 1 := by omega
            have hi0 : (0 : Int) ≤ (k : Int) - 1 := by omega
            have hi1 : (k : Int) - 1 < (l.length : Int) := by omega
            have hwr : IntKind.i64.wrap ((k : Int) - 1) = (k : Int) - 1 := IntWalk.i64_in _ ⟨by omega, by omega⟩
            have hy := HLP.out hk0
            have HY := hid hy
            generalize l[k - 1] = y at *
            clear hy
            by_cases h3 : y < z
            · have h3' : ¬ z ≤ y := by omega
              go_wp2
              go_quiet (fail)
              go_wp2
              go_roundw
              case rel => exact ⟨k + 1, _, by omega, by go_num, rfl, hid (by rw [HST.out]; exact decide_eq_true ⟨by rw [HY.out]; exact h3, h1, h2⟩)⟩
              case measure => simp [RowKit.intOf]; omega
            · have h3' : z ≤ y := by omega
              go_wp2
              go_quiet (fail)
              go_wp2
              go_ret
              refine ⟨?_, _, World.drewN_drewN _ _ _⟩
              rw [Qu.node_false (l := l) (k := k + 1) (by rw [HST.out]; exact decide_eq_false (by rintro ⟨h, _⟩; rw [HY.out] at h; omega))]; rfl
          · obtain rfl : k = 0 := by omega
            rw [Nat.add_zero] at hck
            go_wp2
            go_quiet (fail)
            go_wp2
            go_roundw
            case rel => exact ⟨0 + 1, _, by omega, by go_num, rfl, hid (by rw [HST.out]; exact decide_eq_true ⟨by rw [HL0.out]; omega, h1, h2⟩)⟩
            case measure => simp [RowKit.intOf]; omega
        · have h1' : ¬ z < 1 := by omega
          have h2' : 7 < z := by omega
          go_wp2
          go_ret
          refine ⟨?_, _, rfl⟩
          rw [Qu.node_false (l := l) (k := k + 1) (by rw [HST.out]; exact decide_eq_false (by rintro ⟨_, _, h⟩; omega))]; rfl
      · have h1' : z < 1 := by omega
        go_wp2
        go_ret
        refine ⟨?_, _, rfl⟩
        rw [Qu.node_false (l := l) (k := k + 1) (by rw [HST.out]; exact decide_eq_false (by rintro ⟨_, h, _⟩; omega))]; rfl
    · obtain rfl : k = l.length := by omega
      have := hs.out
      rw [List.take_length] at this
      have HF := hid this
      clear this
      go_wp2
      go_ret
      exact ⟨by rw [HF.out]; rfl, _, rfl⟩

end Go.Proofs.YtaeoccpjdjafnaaGreat
namespace Go.Proofs.YtaeoccpjdjafnaaGreat
open Go.RowKit

theorem Qu.refErr_29 {c : Qu.Cf} (h : c.old = [] ∨ Qu.node c.old = false ∨ Qu.node c.new = false ∨ Qu.node c.lrn = false) : Qu.err c = 29 := by
  unfold Qu.err Qu.ok
  rcases h with h | h | h | h <;> rw [h] <;> simp
theorem Qu.refErr_0 {c : Qu.Cf} (h0 : c.old ≠ []) (h1 : Qu.node c.old = true) (h2 : Qu.node c.new = true) (h3 : Qu.node c.lrn = true) (h : ∀ x ∈ c.lrn, ¬ (x ∈ c.old ∨ x ∈ c.new)) : Qu.err c = 0 := by
  rw [Qu.err_ok]
  unfold Qu.ok
  rw [h1, h2, h3, decide_eq_true h]
  have h4 : c.old.isEmpty = false := by rw [← Bool.not_eq_true, List.isEmpty_iff]; exact h0
  rw [h4]; rfl
theorem Qu.refErr_in {c : Qu.Cf} {x : Int} (hx : x ∈ c.lrn) (h : x ∈ c.old ∨ x ∈ c.new) : Qu.err c = 29 := by
  unfold Qu.err
  have : Qu.ok c = false := by
    unfold Qu.ok
    rw [decide_eq_false (fun hh => hh x hx h)]; simp
  rw [this]; rfl
theorem inQ_any (B : Nat) (A : Option Addr) (c : Nat) (l : List Int) (hl : l.length ≤ 100000) (x : Int) (p : Bool) (hp : decide (x ∈ l) = p) (w : World) (h : IsInts w B A l) :
    ∀ j, Calls Tryz.prog 124 #[.slice A l.length c, .int .i64 x] (w.drewN j) fun e w' => e = .returned (.bool p) ∧ ∃ n, w' = (w.drewN j).drewN n := fun j =>
  (in_any B A c l hl x (w.drewN j) (h.drewN j)).mono fun e w' ⟨he, hw⟩ => ⟨by rw [← hp]; exact he, 0, hw⟩

set_option maxRecDepth 100000 in
set_option maxHeartbeats 1000000 in
theorem refCheck_any (B : Nat) (c : Qu.Cf) (hs0 : Short c) (a0 a1 a2 : Option Addr) (k0 k1 k2 : Nat) (w : World) (h0 : CIs w B c a0 a1 a2 k0 k1 k2) (hB : B ≤ w.heap.size) :
    Calls Tryz.prog 83 #[.agg #[.slice a0 c.old.length k0, .slice a1 c.new.length k1, .slice a2 c.lrn.length k2]] w fun e w' => e = .returned (.int .i64 (Qu.err c)) ∧ Below w.heap.size w w' := by
  obtain ⟨wb, hwb⟩ : ∃ wb, wb = w.alloc (.cells #[.slice a0 c.old.length k0, .slice a1 c.new.length k1, .slice a2 c.lrn.length k2] 28) := ⟨_, rfl⟩
  have hbel : Below w.heap.size w wb := by rw [hwb]; exact (Below.refl _ _).alloc (Nat.le_refl _) _
  have hsz : wb.heap.size = w.heap.size + 1 := by rw [hwb]; simp
  have hrow : wb.heap[w.heap.size]? = some (.cells #[.slice a0 c.old.length k0, .slice a1 c.new.length k1, .slice a2 c.lrn.length k2] 28 (0, 0)) := by rw [hwb]; exact heap_alloc_new w _
  have c0 : wb.cell? ⟨w.heap.size, 0, none⟩ = some (.slice a0 c.old.length k0) := cell_of_row wb w.heap.size 0 _ _ _ hrow
  have c1 : wb.cell? ⟨w.heap.size, 1, none⟩ = some (.slice a1 c.new.length k1) := cell_of_row wb w.heap.size 1 _ _ _ hrow
  have c2 : wb.cell? ⟨w.heap.size, 2, none⟩ = some (.slice a2 c.lrn.length k2) := cell_of_row wb w.heap.size 2 _ _ _ hrow
  have hI := h0.below (hbel.mono hB)
  have HB := hid hbel
  have HI := hid hI
  have hs := hid hs0
  have HO := hid (fun j => rising_any B a0 k0 c.old (by have := hs0.1; omega) (wb.drewN j) (hI.o.drewN j))
  have HN := hid (fun j => rising_any B a1 k1 c.new (by have := hs0.2.1; omega) (wb.drewN j) (hI.n.drewN j))
  have HL := hid (fun j => rising_any B a2 k2 c.lrn (by have := hs0.2.2; omega) (wb.drewN j) (hI.l.drewN j))
  have hll := hs0.2.2
  clear hbel hI h0 hs0 hsz hrow hB
  by_cases hz : c.old = []
  · have HE := hid (Qu.refErr_29 (c := c) (.inl hz))
    have hl : c.old.length = 0 := by rw [hz]; rfl
    rw [HE.out]
    clear hz HO HN HL
    rw [hl] at c0
    rw [hl] at hwb ⊢
    clear hl
    go_enter Tryz.func83, Tryz.ntmps83
    go_wp2
    rw [← hwb]; clear hwb
    go_ret
    exact ⟨rfl, HB.out⟩
  have hzl : 0 < c.old.length := List.length_pos_iff.2 hz
  have hzb : ((c.old.length : Int) == 0) = false := by rw [beq_eq_false_iff_ne]; omega
  have HZ := hid hz
  clear hz
  cases ho : Qu.node c.old
  · have HE := hid (Qu.refErr_29 (c := c) (.inr (.inl ho)))
    rw [ho] at HO
    rw [HE.out]
    clear ho HN HL
    go_enter Tryz.func83, Tryz.ntmps83
    go_wp2_with fail
    rw [← hwb]; clear hwb
    refine (HO.out 0).mono ?_
    rintro e w1 ⟨rfl, n, rfl⟩
    go_wp2
    go_ret
    exact ⟨rfl, below_drewN HB.out _⟩
  cases hn : Qu.node c.new
  · have HE := hid (Qu.refErr_29 (c := c) (.inr (.inr (.inl hn))))
    rw [ho] at HO
    rw [hn] at HN
    rw [HE.out]
    clear ho hn HL
    go_enter Tryz.func83, Tryz.ntmps83
    go_wp2_with fail
    rw [← hwb]; clear hwb
    refine (HO.out 0).mono ?_
    rintro e w1 ⟨rfl, n, rfl⟩
    go_wp2_with fail
    refine (HN.out _).mono ?_
    rintro e w1 ⟨rfl, n2, rfl⟩
    go_wp2
    go_ret
    exact ⟨rfl, below_drewN HB.out _⟩
  cases hl : Qu.node c.lrn
  · have HE := hid (Qu.refErr_29 (c := c) (.inr (.inr (.inr hl))))
    rw [ho] at HO
    rw [hn] at HN
    rw [hl] at HL
    rw [HE.out]
    clear ho hn hl
    go_enter Tryz.func83, Tryz.ntmps83
    go_wp2_with fail
    rw [← hwb]; clear hwb
    refine (HO.out 0).mono ?_
    rintro e w1 ⟨rfl, n, rfl⟩
    go_wp2_with fail
    refine (HN.out _).mono ?_
    rintro e w1 ⟨rfl, n2, rfl⟩
    go_wp2_with fail
    refine (HL.out (n + n2)).mono ?_
    rintro e w1 ⟨rfl, n3, rfl⟩
    go_wp2
    go_ret
    exact ⟨rfl, below_drewN HB.out _⟩
  · have HE0 := hid (fun h => Qu.refErr_0 (c := c) HZ.out ho hn hl h)
    have HE1 := hid (fun x hx h => Qu.refErr_in (c := c) (x := x) hx h)
    rw [ho] at HO
    rw [hn] at HN
    rw [hl] at HL
    clear ho hn hl
    go_enter Tryz.func83, Tryz.ntmps83
    go_wp2_with fail
    rw [← hwb]; clear hwb
    refine (HO.out 0).mono ?_
    rintro e w1 ⟨rfl, n, rfl⟩
    go_wp2_with fail
    refine (HN.out _).mono ?_
    rintro e w1 ⟨rfl, n2, rfl⟩
    go_wp2_with fail
    refine (HL.out (n + n2)).mono ?_
    rintro e w1 ⟨rfl, n3, rfl⟩
    go_wp2_with fail
    go_loopw [3] (fun i wr => ∃ k m : Nat, k ≤ c.lrn.length ∧ i = .int .i64 k ∧ wr = wb.drewN m ∧ Hid (∀ x ∈ c.lrn.take k, ¬ (x ∈ c.old ∨ x ∈ c.new))) (fun i _ => c.lrn.length - (RowKit.intOf i).toNat)
    case atStart => exact ⟨0, n + n2 + n3, by omega, rfl, rfl, hid (by simp)⟩
    case round =>
      obtain ⟨k, m, hk, rfl, rfl, HR⟩ := hrel
      by_cases hlt : k < c.lrn.length
      · obtain ⟨b, off, rfl, hb, hcell⟩ := HI.out.l.cells k hlt
        have hck := hcell k hlt
        have hmem : c.lrn[k] ∈ c.lrn := List.getElem_mem hlt
        have HT := hid (List.take_succ_eq_append_getElem hlt)
        have HM := hid hmem
        obtain ⟨p, hp⟩ : ∃ p, decide (c.lrn[k] ∈ c.old) = p := ⟨_, rfl⟩
        obtain ⟨q, hq⟩ : ∃ q, decide (c.lrn[k] ∈ c.new) = q := ⟨_, rfl⟩
        have HIO := hid (inQ_any B a0 k0 c.old (by have := hs.out.1; omega) c.lrn[k] p hp (wb.drewN m) (HI.out.o.drewN m))
        have HIN := hid (inQ_any B a1 k1 c.new (by have := hs.out.2.1; omega) c.lrn[k] q hq (wb.drewN m) (HI.out.n.drewN m))
        have HBD := hid (below_drewN HB.out m)
        have HP := hid hp
        have HQ := hid hq
        clear hcell hmem hp hq
        generalize c.lrn[k] = x at *
        have c0m : (wb.drewN m).cell? ⟨w.heap.size, 0, none⟩ = some (.slice a0 c.old.length k0) := c0
        have c1m : (wb.drewN m).cell? ⟨w.heap.size, 1, none⟩ = some (.slice a1 c.new.length k1) := c1
        have c2m : (wb.drewN m).cell? ⟨w.heap.size, 2, none⟩ = some (.slice (some ⟨b, off, none⟩) c.lrn.length k2) := c2
        have hckm : (wb.drewN m).cell? ⟨b, off + k, none⟩ = some (.int .i64 x) := hck
        have hrd : ∀ j, (wb.drewN m).drewN j = wb.drewN (m + j) := fun j => World.drewN_drewN _ _ _
        have HRD := hid hrd
        clear c0 c1 c2 hck hrd
        generalize wb.drewN m = w9 at *
        cases p
        · cases q
          · go_wp2
            go_quiet (first
              | (go_at_call 124; with_reducible exact Calls.quiet_of (HIO.out _))
              | (go_at_call 124; with_reducible exact Calls.quiet_of (HIN.out _)))
            go_wp2
            go_roundw
            case rel =>
              refine ⟨k + 1, _, by omega, by go_num, HRD.out _, hid fun y hy => ?_⟩
              rw [HT.out] at hy
              rcases List.mem_append.1 hy with hy | hy
              · exact HR.out y hy
              · simp at hy
                subst hy
                rintro (h | h)
                · exact absurd h (of_decide_eq_false HP.out)
                · exact absurd h (of_decide_eq_false HQ.out)
            case measure => simp [RowKit.intOf]; omega
          · go_wp2
            go_quiet (first
              | (go_at_call 124; with_reducible exact Calls.quiet_of (HIO.out _))
              | (go_at_call 124; with_reducible exact Calls.quiet_of (HIN.out _)))
            go_wp2
            go_ret
            exact ⟨by rw [HE1.out x HM.out (.inr (of_decide_eq_true HQ.out))]; rfl, below_drewN HBD.out _⟩
        · go_wp2
          go_quiet (first
            | (go_at_call 124; with_reducible exact Calls.quiet_of (HIO.out _))
            | (go_at_call 124; with_reducible exact Calls.quiet_of (HIN.out _)))
          go_wp2
          go_ret
          exact ⟨by rw [HE1.out x HM.out (.inl (of_decide_eq_true HP.out))]; rfl, below_drewN HBD.out _⟩
      · obtain rfl : k = c.lrn.length := by omega
        have hr := HR.out
        rw [List.take_length] at hr
        have HE := hid (HE0.out hr)
        clear hr
        go_wp2
        go_ret
        exact ⟨by rw [HE.out]; rfl, below_drewN HB.out _⟩
end Go.Proofs.YtaeoccpjdjafnaaGreat
namespace Go.Proofs.YtaeoccpjdjafnaaGreat.Im
open Go Go.RowKit
open Rl (En Lg)
open Qu (Cf)
open Pk (enc encs rdInt rdInts rdBlob St)
set_option maxRecDepth 100000
set_option linter.unusedVariables false
local instance lo23 : Lo := ⟨0⟩
attribute [local go_sem ↓] loadAt_conf3 storeAt_conf3
/-- what is told of members that are read -/
def CfPost (l : List Nat) (w : World) (e : Ending) (w' : World) : Prop := ∃ A0 A1 A2 c0 c1 c2, e = .returned (.tuple #[.agg #[.slice A0 (getCf l).1.old.length c0, .slice A1 (getCf l).1.new.length c1, .slice A2 (getCf l).1.lrn.length c2], .int .i64 (getCf l).2]) ∧ CIs w' w'.heap.size (getCf l).1 A0 A1 A2 c0 c1 c2 ∧ Below w.heap.size w w'
theorem cis_own {w : World} {B : Nat} {x : Cf} {A0 A1 A2 : Option Addr} {c0 c1 c2 : Nat} (h : OwnsI 3 w B A0 c0 x.old ∧ OwnsI 3 w B A1 c1 x.new ∧ OwnsI 3 w B A2 c2 x.lrn) : CIs w w.heap.size x A0 A1 A2 c0 c1 c2 :=
  ⟨h.1.reads, h.2.1.reads, h.2.2.reads, (ownsI_cap h.1).1, (ownsI_cap h.2.1).1, (ownsI_cap h.2.2).1, (ownsI_cap h.1).2, (ownsI_cap h.2.1).2, (ownsI_cap h.2.2).2⟩
theorem cis_nil (w : World) (B : Nat) : CIs w B ⟨[], [], []⟩ none none none 0 0 0 := ⟨IsInts.nil, IsInts.nil, IsInts.nil, fun _ => rfl, fun _ => rfl, fun _ => rfl, ⟨Nat.le_refl _, Nat.zero_le _⟩, ⟨Nat.le_refl _, Nat.zero_le _⟩, ⟨Nat.le_refl _, Nat.zero_le _⟩⟩
theorem stOf_new (l : List Nat) : stOf l 0 false = ⟨l, false⟩ := by unfold stOf leftOf; simp
set_option maxHeartbeats 6400000 in
theorem rGetConf_any (l : List Nat) (A : Option Addr) (c n0 : Nat) (hn0 : l.length = n0) (hl : n0 ≤ 65536) (w : World) (h : IsBytes w w.heap.size A l) :
    Calls Tryz.prog 27 #[.slice A n0 c] w (CfPost l w) := by
  obtain ⟨w1, hw1⟩ : ∃ w1, w1 = w.alloc (.cells #[.slice none 0 0, .slice none 0 0, .slice none 0 0] 28) := ⟨_, rfl⟩
  have hb01 : Below w.heap.size w w1 := by rw [hw1]; exact (Below.refl _ _).alloc (Nat.le_refl _) _
  have z1 : w1.heap.size = w.heap.size + 1 := by rw [hw1]; simp
  have r1 : w1.heap[w.heap.size]? = some (.cells #[.slice none 0 0, .slice none 0 0, .slice none 0 0] 28 (0, 0)) := by rw [hw1]; exact heap_alloc_new _ _
  have HR0 := refReader_any w1.heap.size A c l (by omega) w1 ((h.below hb01).more hb01.size) (Nat.le_refl _)
  rw [hn0] at HR0
  replace HR0 := hid HR0
  have H1 := hid (And.intro hb01 (And.intro z1 (And.intro r1 (And.intro hn0 hl))))
  have HSM : Hid (∀ x ∈ l, x < 256) := hid h.small
  clear h hb01 z1 r1
  go_enter Tryz.func27, Tryz.ntmps27
  go_wp2_with fail
  rw [← hw1]
  clear hw1
  refine HR0.out.mono ?_
  rintro e w2 ⟨rfl, hr2, hb2⟩
  obtain ⟨g, hg⟩ : ∃ g, g = w1.heap.size := ⟨_, rfl⟩
  rw [← hg] at hr2
  have HC := hid (rgConf_any g w2.heap.size l 0 false w2 hr2)
  have H2 := hid (And.intro hb2 (And.intro hg hr2.top_))
  clear hb2 hr2 HR0
  go_wp2_with fail
  rw [← hg]
  clear hg
  refine HC.out.mono ?_
  rintro e w3 ⟨a2, b2, A0, A1, A2, c0, c1, c2, rfl, ho, hr3, hs3, hg3⟩
  obtain ⟨x, hx⟩ : ∃ x, (rdCf (stOf l 0 false)).1 = x := ⟨_, rfl⟩
  rw [hx] at ho
  rw [hx]
  obtain ⟨n1, hn1⟩ : ∃ n, x.old.length = n := ⟨_, rfl⟩
  obtain ⟨n2, hn2⟩ : ∃ n, x.new.length = n := ⟨_, rfl⟩
  obtain ⟨n3, hn3⟩ : ∃ n, x.lrn.length = n := ⟨_, rfl⟩
  rw [hn1, hn2, hn3]
  obtain ⟨w4, hw4⟩ : ∃ w4, w4 = w3.alloc (.cells #[.slice A0 n1 c0, .slice A1 n2 c1, .slice A2 n3 c2] 28) := ⟨_, rfl⟩
  have hst4 := stNew w3 28 3 info_conf33 #[.slice none 0 0, .slice none 0 0, .slice none 0 0] #[.slice A0 n1 c0, .slice A1 n2 c1, .slice A2 n3 c2] rfl rfl (by simp [Value.oneCell'])
  obtain ⟨b5, hb5⟩ : ∃ b, b = w3.heap.size := ⟨_, rfl⟩
  have r4 : w4.heap[b5]? = some (.cells #[.slice A0 n1 c0, .slice A1 n2 c1, .slice A2 n3 c2] 28 (0, 0)) := by rw [hw4, hb5]; exact heap_alloc_new _ _
  have hb34 : Below w3.heap.size w3 w4 := by rw [hw4]; exact (Below.refl _ _).alloc (Nat.le_refl _) _
  have hr4 := hr3.below hb34
  have HE := hid (refEnd_any g w2.heap.size l a2 b2 w4 hr4)
  have z4 : w4.heap[w.heap.size]? = some (.cells #[.slice none 0 0, .slice none 0 0, .slice none 0 0] 28 (0, 0)) := by
    obtain ⟨k1, k2, k3, k4⟩ := H1.out
    obtain ⟨k5, k6, k7⟩ := H2.out
    have := k5.size
    have := hg3.size
    exact (hb34.block _ (by omega)).trans ((hg3.block _ (by omega) (fun e => by injection e; omega)).trans ((k5.block _ (by omega)).trans k3))
  have low4 : Below w.heap.size w w4 := by
    obtain ⟨k1, k2, k3, k4⟩ := H1.out
    obtain ⟨k5, k6, k7⟩ := H2.out
    have h5 := k5.size
    have h6 := hg3.size
    exact k1.trans ((k5.mono (by omega)).trans ((below_grown hg3 (by omega) (fun k e => by injection e; omega) : Below w.heap.size w2 w3).trans (hb34.mono (by omega))))
  obtain ⟨ee, hee⟩ : ∃ ee, endOf ⟨leftOf l a2 b2, b2⟩ = ee := ⟨_, rfl⟩
  rw [hee] at HE
  have HW : Hid (whole rdCf ⟨[], [], []⟩ l = if ee ≠ 0 then (⟨[], [], []⟩, ee) else (x, 0)) := hid (by
    have e2 : fin (rdCf ⟨l, false⟩).2 = ee := by
      rw [← hee, ← stOf_new, ← hs3]; rfl
    unfold whole
    rw [e2, ← stOf_new l, hx])
  have hec : ee = 0 ∨ ee = 2 ∨ ee = 4 := by
    rw [← hee]; unfold endOf
    split
    · exact .inr (.inr rfl)
    · split
      · exact .inr (.inl rfl)
      · exact .inl rfl
  have HO : Hid (w.heap.size < w2.heap.size ∧ OwnsI 3 w4 w2.heap.size A0 c0 x.old ∧ OwnsI 3 w4 w2.heap.size A1 c1 x.new ∧ OwnsI 3 w4 w2.heap.size A2 c2 x.lrn) := hid ⟨by have := H1.out.2.1; have := H2.out.1.size; omega, ho.1.below hb34, ho.2.1.below hb34, ho.2.2.below hb34⟩
  have H4 := hid (And.intro z4 (And.intro low4 (And.intro r4 (And.intro hn1 (And.intro hn2 hn3)))))
  have HL : Hid (ee = 0 → Short x) := hid (fun he => by
    have h := rdCf_lens l HSM.out (by have := H1.out.2.2.2; omega)
    rw [HW.out, if_neg (fun h => h he)] at h
    exact h)
  clear ho hr3 hs3 hg3 hx hn1 hn2 hn3 r4 hb34 hr4 z4 low4 hee HC H2
  go_wp2_with fail
  rw [← hw4, ← hb5]
  clear hw4 hb5 hst4
  refine HE.out.mono ?_
  rintro e w5 ⟨rfl, n, hw5⟩
  have z5 : w5.heap[w.heap.size]? = some (.cells #[.slice none 0 0, .slice none 0 0, .slice none 0 0] 28 (0, 0)) := by rw [hw5]; exact H4.out.1
  have b45 : Below w4.heap.size w4 w5 := by rw [hw5]; exact below_drewN (Below.refl _ _) n
  have low5 : Below w.heap.size w w5 := H4.out.2.1.trans (b45.mono H4.out.2.1.size)
  have r5 : w5.heap[b5]? = some (.cells #[.slice A0 n1 c0, .slice A1 n2 c1, .slice A2 n3 c2] 28 (0, 0)) := by rw [hw5]; exact H4.out.2.2.1
  have o5 : OwnsI 3 w5 w2.heap.size A0 c0 x.old ∧ OwnsI 3 w5 w2.heap.size A1 c1 x.new ∧ OwnsI 3 w5 w2.heap.size A2 c2 x.lrn := ⟨HO.out.2.1.below b45, HO.out.2.2.1.below b45, HO.out.2.2.2.below b45⟩
  have HLT := hid HO.out.1
  have H5 := hid (And.intro z5 (And.intro low5 (And.intro r5 o5)))
  have HN := hid H4.out.2.2.2
  clear hw5 z5 b45 low5 r5 o5 H4 HO HE HSM H1
  by_cases he : ee = 0
  · subst he
    have hsx := HL.out rfl
    obtain ⟨f, hf⟩ : ∃ f, f = Qu.err x := ⟨_, rfl⟩
    have HCK : Hid (Calls Tryz.prog 83 #[.agg #[.slice A0 n1 c0, .slice A1 n2 c1, .slice A2 n3 c2]] w5 fun e w' => e = .returned (.int .i64 f) ∧ Below w5.heap.size w5 w') := hid (by
      have h := refCheck_any w5.heap.size x hsx A0 A1 A2 c0 c1 c2 w5 (cis_own H5.out.2.2.2) (Nat.le_refl _)
      rw [HN.out.1, HN.out.2.1, HN.out.2.2, ← hf] at h
      exact h)
    have HF := hid hf
    have hfi : f = 0 ∨ f = 29 := by rw [hf]; unfold Qu.err; split <;> simp
    have HX : Hid (whole rdCf ⟨[], [], []⟩ l = (x, 0)) := hid (by rw [HW.out]; rfl)
    have ld5 := ldRow info_conf33 Tryz.underlying28 rfl H5.out.2.2.1 rfl
    clear hf hec hsx HL HW
    by_cases hf0 : f = 0
    · subst hf0
      have HG : Hid (getCf l = (x, 0)) := hid (by rw [getCf_yes (by rw [HX.out]) (by rw [HX.out]; exact HF.out.symm), HX.out])
      clear hfi
      go_wp2_with fail
      refine HCK.out.mono ?_
      rintro e w6 ⟨rfl, hb6⟩
      have hz6 := (hb6.block _ (row_lt H5.out.1)).trans H5.out.1
      have hx6 := (hb6.block _ (row_lt H5.out.2.2.1)).trans H5.out.2.2.1
      have hlow6 := H5.out.2.1.trans (hb6.mono H5.out.2.1.size)
      have hld6 := ldRow info_conf33 Tryz.underlying28 rfl hx6 rfl
      have hst6 := stRow info_conf33 (cs' := #[.slice A0 n1 c0, .slice A1 n2 c1, .slice A2 n3 c2]) hz6 rfl rfl (by simp [Value.oneCell'])
      have hro7 := setRow_heap w6 w.heap.size _ #[.slice A0 n1 c0, .slice A1 n2 c1, .slice A2 n3 c2] _ _ hz6
      have ht7 := row_turned w6 w.heap.size #[.slice A0 n1 c0, .slice A1 n2 c1, .slice A2 n3 c2]
      generalize w6.setRow w.heap.size #[.slice A0 n1 c0, .slice A1 n2 c1, .slice A2 n3 c2] = w7 at hst6 hro7 ht7
      have H7 := hid (And.intro hro7 (And.intro ht7 (And.intro hlow6 hb6)))
      clear hb6 hz6 hx6 hlow6 hro7 ht7 ld5
      go_wp2_with fail
      refine bodyPost_ret (results_two rfl info_conf33 Tryz.underlying28 rfl _ _ w.heap.size _ _ _ rfl H7.out.1 rfl) rfl ?_
      unfold CfPost
      rw [HG.out]
      have hbw : Below w.heap.size w w7 := H7.out.2.2.1.trans (H7.out.2.1.below H7.out.2.2.1.size (fun k hk => by omega))
      refine ⟨A0, A1, A2, c0, c1, c2, by rw [← HN.out.1, ← HN.out.2.1, ← HN.out.2.2]; rfl, ?_, hbw⟩
      have hlt := HLT.out
      obtain ⟨p0, p1, p2⟩ := H5.out.2.2.2
      have hb56 := H7.out.2.2.2
      have hT := H7.out.2.1
      exact cis_own ⟨ownsI_turned (p0.below hb56) hT (fun k hk e => by have := (p0.blkLt k hk).1; omega), ownsI_turned (p1.below hb56) hT (fun k hk e => by have := (p1.blkLt k hk).1; omega), ownsI_turned (p2.below hb56) hT (fun k hk e => by have := (p2.blkLt k hk).1; omega)⟩
    · obtain rfl : f = 29 := hfi.resolve_left hf0
      have HG : Hid (getCf l = (⟨[], [], []⟩, 29)) := hid (by rw [getCf_err (by rw [HX.out]) (by rw [HX.out, ← HF.out]; decide), HX.out, ← HF.out])
      clear hfi hf0
      go_wp2_with fail
      refine HCK.out.mono ?_
      rintro e w6 ⟨rfl, hb6⟩
      have hz6 := (hb6.block _ (row_lt H5.out.1)).trans H5.out.1
      have hlow6 := H5.out.2.1.trans (hb6.mono H5.out.2.1.size)
      have hst6 := stSame info_conf33 hz6 rfl (by simp [Value.oneCell'])
      have H7 := hid (And.intro hz6 hlow6)
      clear hb6 hz6 hlow6 ld5
      go_wp2_with fail
      refine bodyPost_ret (results_two rfl info_conf33 Tryz.underlying28 rfl _ _ w.heap.size _ _ _ rfl H7.out.1 rfl) rfl ?_
      unfold CfPost
      rw [HG.out]
      exact ⟨none, none, none, 0, 0, 0, rfl, cis_nil _ _, H7.out.2⟩
  · have HG : Hid (getCf l = (⟨[], [], []⟩, ee)) := hid (by rw [getCf_bad (by rw [HW.out, if_pos he]; exact he), HW.out, if_pos he])
    have hst5 := stSame info_conf33 H5.out.1 rfl (by simp [Value.oneCell'])
    clear HL HW
    go_wp2_with fail
    refine bodyPost_ret (results_two rfl info_conf33 Tryz.underlying28 rfl _ _ w.heap.size _ _ _ rfl H5.out.1 rfl) rfl ?_
    unfold CfPost
    rw [HG.out]
    exact ⟨none, none, none, 0, 0, 0, rfl, cis_nil _ _, H5.out.2.1⟩
end Go.Proofs.YtaeoccpjdjafnaaGreat.Im
namespace Go.Proofs.YtaeoccpjdjafnaaGreat.Im
open Go Go.RowKit
set_option maxRecDepth 100000
set_option linter.unusedVariables false
/-- is a vote ahead of another? -/
def aheadV (a b : Vt) : Bool := decide (a.x < b.x) || (decide (a.x = b.x) && decide (a.p < b.p))
set_option maxHeartbeats 3200000 in
theorem ahead_any (a b : Vt) (w : World) :
    Calls Tryz.prog 89 #[.agg #[.int .i64 a.x, .int .i64 a.p, .int .i64 a.r, .int .i64 a.b, .int .i64 a.v], .agg #[.int .i64 b.x, .int .i64 b.p, .int .i64 b.r, .int .i64 b.b, .int .i64 b.v]] w fun e w' => e = .returned (.bool (aheadV a b)) ∧ Below w.heap.size w w' := by
  obtain ⟨p1, p2, p3⟩ := twoNew w (.cells #[.int .i64 a.x, .int .i64 a.p, .int .i64 a.r, .int .i64 a.b, .int .i64 a.v] 60) (.cells #[.int .i64 b.x, .int .i64 b.p, .int .i64 b.r, .int .i64 b.b, .int .i64 b.v] 60)
  have HB := hid p1
  have c0 := row_cell p2 0
  have c1 := row_cell p2 1
  have d0 := row_cell p3 0
  have d1 := row_cell p3 1
  clear p1 p2 p3
  by_cases h1 : a.x < b.x
  · have HV : Hid (aheadV a b = true) := hid (by unfold aheadV; simp [h1])
    go_enter Tryz.func89, Tryz.ntmps89
    go_wp2_with fail
    go_ret
    exact ⟨by rw [HV.out]; rfl, ((Below.refl _ w).alloc (Nat.le_refl _) _).alloc (by simp) _⟩
  · by_cases h2 : a.x = b.x
    · by_cases h3 : a.p < b.p
      · have HV : Hid (aheadV a b = true) := hid (by unfold aheadV; simp [h2, h3])
        go_enter Tryz.func89, Tryz.ntmps89
        go_wp2_with fail
        go_ret
        exact ⟨by rw [HV.out]; rfl, ((Below.refl _ w).alloc (Nat.le_refl _) _).alloc (by simp) _⟩
      · have HV : Hid (aheadV a b = false) := hid (by unfold aheadV; simp [h2, h3] <;> omega)
        go_enter Tryz.func89, Tryz.ntmps89
        go_wp2_with fail
        go_ret
        exact ⟨by rw [HV.out]; rfl, ((Below.refl _ w).alloc (Nat.le_refl _) _).alloc (by simp) _⟩
    · have HV : Hid (aheadV a b = false) := hid (by unfold aheadV; simp [h2] <;> omega)
      go_enter Tryz.func89, Tryz.ntmps89
      go_wp2_with fail
      go_ret
      exact ⟨by rw [HV.out]; rfl, ((Below.refl _ w).alloc (Nat.le_refl _) _).alloc (by simp) _⟩
end Go.Proofs.YtaeoccpjdjafnaaGreat.Im
namespace Go.Proofs.YtaeoccpjdjafnaaGreat.Im
open Go Go.RowKit
open Rl (En Lg)
open Qu (Cf)
set_option maxRecDepth 100000
set_option linter.unusedVariables false
attribute [local go_sem ↓] loadAt_vote
set_option maxHeartbeats 6400000 in
theorem refOrdered_any (i : Ia) (nh nv : Nat) (Q : List Hq) (L : List Vt) (hnh : Q.length = nh) (hnv : L.length = nv) (hlh : nh ≤ 100000) (hlv : nv ≤ 100000) (w : World) (h : IsHds w w.heap.size i.h Q) (hv : IsVs w w.heap.size i.v L) :
    Calls Tryz.prog 33 #[.agg #[.slice i.h nh i.ch, .slice i.v nv i.cv]] w fun e w' => e = .returned (.bool (sorted ⟨Q.map (·.h), L⟩)) ∧ Below w.heap.size w w' := by
  obtain ⟨w1, hw1⟩ : ∃ w1, w1 = w.alloc (.cells #[.slice i.h nh i.ch, .slice i.v nv i.cv] 25) := ⟨_, rfl⟩
  have hb1 : Below w.heap.size w w1 := by rw [hw1]; exact (Below.refl _ w).alloc (Nat.le_refl _) _
  have r1 : w1.heap[w.heap.size]? = some (.cells #[.slice i.h nh i.ch, .slice i.v nv i.cv] 25 (0, 0)) := by rw [hw1]; exact heap_alloc_new w _
  have HA := hid (asc_iff ltH (Q.map (·.h)))
  have HAV := hid (asc_iff ltV L)
  have HH := hid (And.intro h (And.intro hnh (And.intro hv (And.intro hnv (And.intro hb1 r1)))))
  obtain ⟨b0, hb0⟩ : ∃ b, b = w.heap.size := ⟨_, rfl⟩
  have HB0 := hid hb0
  clear h hv hnh hnv hb1 r1
  go_enter Tryz.func33, Tryz.ntmps33
  go_wp2_with fail
  rw [← hw1, ← hb0]
  clear hw1 hb0
  go_loopw [3] (fun i wr => ∃ k : Nat, k ≤ nh ∧ i = .int .i64 ((k : Int) + 1) ∧ Hid (Below w1.heap.size w1 wr ∧ ∀ j (hj : j + 1 < Q.length), j < k → (Q[j]'(by omega)).h.g < (Q[j + 1]'hj).h.g)) (fun i _ => nh + 1 - (RowKit.intOf i).toNat)
  case atStart => exact ⟨0, Nat.zero_le _, rfl, hid ⟨Below.refl _ _, fun j hj hlt => absurd hlt (Nat.not_lt_zero _)⟩⟩
  case round =>
    obtain ⟨k, hk, rfl, HK⟩ := hrel
    have c0 : wr.cell? ⟨b0, 0, none⟩ = some (.slice i.h nh i.ch) := row_cell ((HK.out.1.block b0 (by rw [HB0.out]; exact row_lt HH.out.2.2.2.2.2)).trans (by rw [HB0.out]; exact HH.out.2.2.2.2.2)) 0
    by_cases hlt : k + 1 < nh
    · have hQ : k + 1 < Q.length := by rw [HH.out.2.1]; exact hlt
      have hI := HH.out.1.below (HH.out.2.2.2.2.1.trans (HK.out.1.mono HH.out.2.2.2.2.1.size))
      obtain ⟨b, off, hA, hbb, hcs⟩ := hI.row.at_ k (by omega)
      rw [hA] at c0
      obtain ⟨x, hx⟩ : ∃ x, x = Q[k]'(by omega) := ⟨_, rfl⟩
      obtain ⟨y, hy⟩ : ∃ y, y = Q[k + 1]'hQ := ⟨_, rfl⟩
      have hr0 := hcs k (by omega) 0 _ rfl
      have hr1 := hcs (k + 1) hQ 0 _ rfl
      rw [← hx] at hr0
      rw [← hy] at hr1
      have l0 : wr.cell? ⟨b, off + k * 10, none⟩ = some (.int .i64 x.h.g) := hr0
      have l1 : wr.cell? ⟨b, off + (k + 1) * 10, none⟩ = some (.int .i64 y.h.g) := hr1
      have HST : Hid (∀ j (hj : j + 1 < Q.length), j < k + 1 → x.h.g < y.h.g → (Q[j]'(by omega)).h.g < (Q[j + 1]'hj).h.g) := hid (by
        intro j hj hlt2 hxy
        by_cases e : j = k
        · subst e; rw [← hx, ← hy]; exact hxy
        · exact HK.out.2 j hj (by omega))
      have HNO : Hid (¬ x.h.g < y.h.g → sorted ⟨Q.map (·.h), L⟩ = false) := hid (by
        intro hno
        have : asc ltH (Q.map (·.h)) = false := by
          rw [Bool.eq_false_iff]
          intro hb
          have := HA.out.1 hb k (by simpa using hQ)
          rw [List.getElem_map, List.getElem_map, ← hx, ← hy] at this
          exact absurd (by simpa [ltH] using this) hno
        unfold sorted
        rw [this]; rfl)
      have HBW := hid HK.out.1.drew
      have w0 : (k : Int) + 1 - 1 = (k : Int) := by omega
      have w1 : IntKind.i64.wrap (k : Int) = (k : Int) := by rw [IntKind.wrap_i64]; omega
      have w2 : IntKind.i64.wrap ((k : Int) + 1 - 1) = (k : Int) := by rw [IntKind.wrap_i64]; omega
      have b3 : (0 : Int) ≤ (k : Int) + 1 := by omega
      have t0 : ((k : Int) + 1).toNat = k + 1 := by omega
      have b00 : (0 : Int) ≤ (k : Int) := by omega
      have b1 : (k : Int) < (nh : Int) := by omega
      have b2 : (k : Int) + 1 < (nh : Int) := by omega
      clear hI hcs hr0 hr1 hx hy hQ hA hbb
      by_cases hxy : x.h.g < y.h.g
      · have hd : decide (x.h.g < y.h.g) = true := decide_eq_true hxy
        have hd2 : ¬ y.h.g ≤ x.h.g := by omega
        have HN := hid (fun j hj hl => HST.out j hj hl hxy)
        clear hxy
        go_wp2_with fail
        go_still_tail 13, (by kernel_rfl)
        go_wp2_with fail
        go_roundw
        case rel => exact ⟨k + 1, by omega, by go_num, hid ⟨HBW.out, HN.out⟩⟩
        case measure => simp [RowKit.intOf]; omega
      · have hd2 : y.h.g ≤ x.h.g := by omega
        have HN := hid (HNO.out hxy)
        clear hxy
        go_wp2_with fail
        go_still_tail 13, (by kernel_rfl)
        go_wp2_with fail
        go_ret
        rw [HN.out]
        exact ⟨rfl, HH.out.2.2.2.2.1.trans (HBW.out.mono HH.out.2.2.2.2.1.size)⟩
    · have HAS : Hid (asc ltH (Q.map (·.h)) = true) := hid (HA.out.2 (fun j hj => by
        rw [List.length_map] at hj
        rw [List.getElem_map, List.getElem_map]
        have := HK.out.2 j hj (by have := HH.out.2.1; omega)
        simpa [ltH] using this))
      have HB1 := hid HK.out.1
      clear HK
      go_wp2_with fail
      go_loopw [4] (fun i wr => ∃ k : Nat, k ≤ nv ∧ i = .int .i64 ((k : Int) + 1) ∧ Hid (Below w1.heap.size w1 wr ∧ ∀ j (hj : j + 1 < L.length), j < k → ltV (L[j]'(by omega)) (L[j + 1]'hj) = true)) (fun i _ => nv + 1 - (RowKit.intOf i).toNat)
      case atStart => exact ⟨0, Nat.zero_le _, rfl, hid ⟨HB1.out, fun j hj hlt => absurd hlt (Nat.not_lt_zero _)⟩⟩
      case round =>
        clear HB1 c0 hlt
        obtain ⟨k, hk, rfl, HK⟩ := hrel
        have c1 : wr.cell? ⟨b0, 1, none⟩ = some (.slice i.v nv i.cv) := row_cell ((HK.out.1.block b0 (by rw [HB0.out]; exact row_lt HH.out.2.2.2.2.2)).trans (by rw [HB0.out]; exact HH.out.2.2.2.2.2)) 1
        by_cases hlt : k + 1 < nv
        · have hQ : k + 1 < L.length := by rw [HH.out.2.2.2.1]; exact hlt
          have hI := HH.out.2.2.1.row.below (HH.out.2.2.2.2.1.trans (HK.out.1.mono HH.out.2.2.2.2.1.size))
          obtain ⟨b, off, hA, hbb, hcs⟩ := hI.at_ k (by omega)
          rw [hA] at c1
          obtain ⟨x, hx⟩ : ∃ x, x = L[k]'(by omega) := ⟨_, rfl⟩
          obtain ⟨y, hy⟩ : ∃ y, y = L[k + 1]'hQ := ⟨_, rfl⟩
          have hr0 := hcs k (by omega)
          have hr1 := hcs (k + 1) hQ
          rw [← hx] at hr0
          rw [← hy] at hr1
          have hbwr : b < wr.heap.size := by have := HH.out.2.2.2.2.1.size; have := HK.out.1.size; omega
          have LD : Hid (∀ W, Below wr.heap.size wr W → (ldX 60 (.pointer (some ⟨b, off + k * 5, none⟩))).run Tryz.prog W = .ok (.agg #[.int .i64 x.x, .int .i64 x.p, .int .i64 x.r, .int .i64 x.b, .int .i64 x.v]) W ∧ (ldX 60 (.pointer (some ⟨b, off + (k + 1) * 5, none⟩))).run Tryz.prog W = .ok (.agg #[.int .i64 y.x, .int .i64 y.p, .int .i64 y.r, .int .i64 y.b, .int .i64 y.v]) W ∧ W.cell? ⟨b0, 1, none⟩ = some (.slice (some ⟨b, off, none⟩) nv i.cv)) := hid (fun W hb =>
            ⟨ldV W b (off + k * 5) (cellsV x) rfl (fun j v hv => (hb.cell (p := ⟨b, off + k * 5 + j, none⟩) hbwr).trans (hr0 j v hv)), ldV W b (off + (k + 1) * 5) (cellsV y) rfl (fun j v hv => (hb.cell (p := ⟨b, off + (k + 1) * 5 + j, none⟩) hbwr).trans (hr1 j v hv)), (hb.cell (p := ⟨b0, 1, none⟩) (by have := row_lt HH.out.2.2.2.2.2; have := HK.out.1.size; have := HB0.out; show b0 < _; omega)).trans c1⟩)
          obtain ⟨l0, l1, l2⟩ := LD.out wr.drew (Below.refl _ _).drew
          have HST : Hid (∀ j (hj : j + 1 < L.length), j < k + 1 → ltV x y = true → ltV (L[j]'(by omega)) (L[j + 1]'hj) = true) := hid (by
            intro j hj hlt2 hxy
            by_cases e : j = k
            · subst e; rw [← hx, ← hy]; exact hxy
            · exact HK.out.2 j hj (by omega))
          have HNO : Hid (ltV x y = false → sorted ⟨Q.map (·.h), L⟩ = false) := hid (by
            intro hno
            have : asc ltV L = false := by
              rw [Bool.eq_false_iff]
              intro hb
              have := HAV.out.1 hb k hQ
              rw [← hx, ← hy, hno] at this
              cases this
            unfold sorted
            show (asc ltH (Q.map (·.h)) && asc ltV L) = false
            rw [this, Bool.and_false])
          have HBK := hid HK.out.1
          have w0 : (k : Int) + 1 - 1 = (k : Int) := by omega
          have w1 : IntKind.i64.wrap (k : Int) = (k : Int) := by rw [IntKind.wrap_i64]; omega
          have w2 : IntKind.i64.wrap ((k : Int) + 1 - 1) = (k : Int) := by rw [IntKind.wrap_i64]; omega
          have b3 : (0 : Int) ≤ (k : Int) + 1 := by omega
          have t0 : ((k : Int) + 1).toNat = k + 1 := by omega
          have b00 : (0 : Int) ≤ (k : Int) := by omega
          have b1 : (k : Int) < (nv : Int) := by omega
          have b2 : (k : Int) + 1 < (nv : Int) := by omega
          clear hI hcs hr0 hr1 hx hy hQ hA hbb hbwr
          obtain ⟨bb, hbb⟩ : ∃ bb, ltV x y = bb := ⟨_, rfl⟩
          have HAD : Hid (∀ W : World, Calls Tryz.prog 89 #[.agg #[.int .i64 x.x, .int .i64 x.p, .int .i64 x.r, .int .i64 x.b, .int .i64 x.v], .agg #[.int .i64 y.x, .int .i64 y.p, .int .i64 y.r, .int .i64 y.b, .int .i64 y.v]] W fun e w' => e = .returned (.bool bb) ∧ Below W.heap.size W w') := hid (fun W => by rw [← hbb]; exact ahead_any x y W)
          have HBB := hid hbb
          clear hbb
          cases bb with
          | false =>
            have HN := hid (HNO.out HBB.out)
            go_wp2_with fail
            go_region_held3 (fun W => (ldX 60 (.pointer (some ⟨b, off + k * 5, none⟩))).run Tryz.prog W = .ok (.agg #[.int .i64 x.x, .int .i64 x.p, .int .i64 x.r, .int .i64 x.b, .int .i64 x.v]) W ∧ (ldX 60 (.pointer (some ⟨b, off + (k + 1) * 5, none⟩))).run Tryz.prog W = .ok (.agg #[.int .i64 y.x, .int .i64 y.p, .int .i64 y.r, .int .i64 y.b, .int .i64 y.v]) W ∧ W.cell? ⟨b0, 1, none⟩ = some (.slice (some ⟨b, off, none⟩) nv i.cv))
              (first | with_reducible exact s4 | exact ⟨l0, l1, l2⟩ | exact LD.out wr (Below.refl _ _) | fail)
              (first | (go_at_call 89; refine (HAD.out _).mono ?_; rintro e w4 ⟨rfl, hb4⟩; have B4 := hid ((Below.refl _ wr).drew.trans hb4); have s4 := LD.out _ B4.out; clear hb4) | fail)
            all_goals
              clear l0 l1 l2 s4
              go_wp2_with fail
              go_ret
              rw [HN.out]
              exact ⟨rfl, HH.out.2.2.2.2.1.trans ((HBK.out.trans (B4.out.mono HBK.out.size)).mono HH.out.2.2.2.2.1.size)⟩
          | true =>
            have HN := hid (fun j hj hl => HST.out j hj hl HBB.out)
            go_wp2_with fail
            go_region_held3 (fun W => (ldX 60 (.pointer (some ⟨b, off + k * 5, none⟩))).run Tryz.prog W = .ok (.agg #[.int .i64 x.x, .int .i64 x.p, .int .i64 x.r, .int .i64 x.b, .int .i64 x.v]) W ∧ (ldX 60 (.pointer (some ⟨b, off + (k + 1) * 5, none⟩))).run Tryz.prog W = .ok (.agg #[.int .i64 y.x, .int .i64 y.p, .int .i64 y.r, .int .i64 y.b, .int .i64 y.v]) W ∧ W.cell? ⟨b0, 1, none⟩ = some (.slice (some ⟨b, off, none⟩) nv i.cv))
              (first | with_reducible exact s4 | exact ⟨l0, l1, l2⟩ | exact LD.out wr (Below.refl _ _) | fail)
              (first | (go_at_call 89; refine (HAD.out _).mono ?_; rintro e w4 ⟨rfl, hb4⟩; have B4 := hid ((Below.refl _ wr).drew.trans hb4); have s4 := LD.out _ B4.out; clear hb4) | fail)
            all_goals
              have HBF := hid (HBK.out.trans (B4.out.mono HBK.out.size))
              clear l0 l1 l2 s4
              go_wp2_with fail
              go_roundw
              all_goals first | exact ⟨k + 1, by omega, by go_num, hid ⟨HBF.out, HN.out⟩⟩ | (simp [RowKit.intOf]; omega)
        · have HAS2 : Hid (asc ltV L = true) := hid (HAV.out.2 (fun j hj => HK.out.2 j hj (by have := HH.out.2.2.2.1; omega)))
          have HBW := hid HK.out.1
          clear HK
          go_wp2_with fail
          go_ret
          unfold sorted
          rw [HAS.out, HAS2.out]
          exact ⟨rfl, HH.out.2.2.2.2.1.trans (HBW.out.mono HH.out.2.2.2.2.1.size)⟩
end Go.Proofs.YtaeoccpjdjafnaaGreat.Im
