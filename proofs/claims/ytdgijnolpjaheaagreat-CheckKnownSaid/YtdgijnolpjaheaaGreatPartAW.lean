/- Texts of the proof, one behind the other: KitBytes, SpoilB, Both08, Both08R, Both08W, Both08L. -/
import Derived.Test.YtdgijnolpjaheaaGreatPartAP
import Derived.Test.YtdgijnolpjaheaaGreatRows
import Derived.Test.YtdgijnolpjaheaaGreatPartAB
import Derived.Test.YtdgijnolpjaheaaGreatPartAV
import Derived.Test.YtdgijnolpjaheaaGreatPartAJ
import Derived.Test.YtdgijnolpjaheaaGreatPartAT
import Derived.Test.YtdgijnolpjaheaaGreatPartAM
import Derived.Deep.RegionWith
import Derived.Deep.RegionHeld3
import Derived.StillTailTactics
namespace Go.Proofs.YtdgijnolpjaheaaGreat
open Go.RowKit

/-- what LentBytes makes: the bytes, and five marks behind them -/
def lent (l : List Nat) : List Nat := l ++ List.replicate 5 165
theorem lent_length (l : List Nat) : (lent l).length = l.length + 5 := by simp [lent]
theorem lent_small (l : List Nat) (h : ∀ x ∈ l, x < 256) : ∀ x ∈ lent l, x < 256 := by
  intro x hx
  unfold lent at hx
  rcases List.mem_append.1 hx with hx | hx
  · exact h x hx
  · have := (List.mem_replicate.1 hx).2; omega
/-- the same, amid the work: the first k items are there -/
def lentTo (l : List Nat) (k : Nat) : List Nat := (lent l).take k ++ List.replicate (l.length + 5 - k) 0
theorem lentTo_length (l : List Nat) (k : Nat) (h : k ≤ l.length + 5) : (lentTo l k).length = l.length + 5 := by
  unfold lentTo; rw [List.length_append, List.length_take, lent_length, List.length_replicate]; omega
theorem lentTo_end (l : List Nat) : lentTo l (l.length + 5) = lent l := by
  unfold lentTo
  rw [List.take_of_length_le (by rw [lent_length]; omega)]; simp
theorem lentTo_set (l : List Nat) (k : Nat) (h : k < l.length + 5) (x : Nat) (hx : (lent l)[k]? = some x) : (lentTo l k).set k x = lentTo l (k + 1) := by
  unfold lentTo
  have hl : k < (lent l).length := by rw [lent_length]; exact h
  have hk : ((lent l).take k).length = k := by rw [List.length_take]; omega
  rw [List.set_append_right _ _ (by omega), hk, Nat.sub_self, show l.length + 5 - k = (l.length + 5 - (k + 1)) + 1 from by omega, List.replicate_succ, List.set_cons_zero,
    List.take_succ_eq_append_getElem hl, List.append_assoc]
  have : (lent l)[k] = x := by rw [List.getElem?_eq_getElem hl] at hx; injection hx
  rw [this]; rfl
theorem lent_mark (l : List Nat) (k : Nat) (h1 : l.length ≤ k) (h2 : k < l.length + 5) : (lent l)[k]? = some 165 := by
  unfold lent
  rw [List.getElem?_append_right h1, List.getElem?_replicate, if_pos (by omega)]
theorem lent_item (l : List Nat) (k : Nat) (h : k < l.length) : (lent l)[k]? = some l[k] := by
  unfold lent
  rw [List.getElem?_append_left h, List.getElem?_eq_getElem h]

set_option maxRecDepth 100000 in
set_option maxHeartbeats 400000 in
theorem lent_any (B : Nat) (A : Option Addr) (c : Nat) (l : List Nat) (hl : l.length ≤ 140737488355328) (w : World) (h : IsBytes w B A l) (hB : B ≤ w.heap.size) :
    Calls Tryz.prog 23 #[.slice A l.length c] w fun e w' => ∃ g c', e = .returned (.slice (some ⟨g, 0, none⟩) (l.length + 5) c') ∧ OwnsB 5 w' w.heap.size (some ⟨g, 0, none⟩) c' (lent l) ∧ Below w.heap.size w w' := by
  obtain ⟨i0, hi, hz0, hz1, hz2⟩ := info_parts info_u8
  go_enter Tryz.func23, Tryz.ntmps23
  go_wp2_with (at_make; refine wpList_make_full _ rfl _ _ 23 rfl w.heap.size 5 i0 (.int .u8 0) 1 Tryz.underlying23 hi hz0 hz1 .i64 .i64 (l.length + 5) (l.length + 5) (l.length + 5) rfl rfl (by omega) (by omega) ?c1 ?c2 (Nat.le_refl _) ?_)
  case c1 => rw [hz2]; omega
  case c2 => unfold maxLen; omega
  intro w1 hown hgrow
  have hrow : OwnsB 5 w1 w.heap.size (some ⟨w.heap.size, 0, none⟩) (l.length + 5) (lentTo l 0) := by
    refine ⟨?_, ?_⟩
    · intro x hx
      have : lentTo l 0 = List.replicate (l.length + 5) 0 := by simp [lentTo]
      rw [this] at hx
      have := (List.mem_replicate.1 hx).2; omega
    · rw [lentTo_length l 0 (by omega)]
      have e : (madeCells #[Value.int .u8 0] (l.length + 5)).toList = bytes (lentTo l 0) := by
        rw [toList_madeCells_one]
        simp [lentTo, bytes]
      rw [e] at hown
      exact hown
  have hbel : Below w.heap.size w w1 := (Below.refl _ _).grown hgrow (Nat.le_refl _) (fun g hg => by cases hg)
  clear hown hgrow
  go_wp2
  go_loopw [4] (fun i wr => ∃ k : Nat, k ≤ l.length + 5 ∧ i = .int .i64 k ∧ OwnsB 5 wr w.heap.size (some ⟨w.heap.size, 0, none⟩) (l.length + 5) (lentTo l k) ∧ Below w.heap.size w wr) (fun i _ => l.length + 5 - (RowKit.intOf i).toNat)
  case atStart => exact ⟨0, by omega, rfl, hrow, hbel⟩
  case round =>
    clear hrow hbel
    obtain ⟨k, hk, rfl, hown, hbel⟩ := hrel
    by_cases hlt : k < l.length + 5
    · have hkl : k < (lentTo l k).length := by rw [lentTo_length l k hk]; exact hlt
      obtain ⟨g, hg, _, _, hcg, hfg⟩ := hown.at_ hkl
      obtain rfl : w.heap.size = g := by injection hg with hg; injection hg
      clear hg
      by_cases hin : k < l.length
      · have h1 := (h.below (hbel.mono hB))
        obtain ⟨b, off, rfl, hb, hc⟩ := h1.cells k hin
        have hck := hc k hin
        clear hc
        have hs1 := hown.set_ k 165 (by omega)
        have hs2 := hs1.set_ k l[k] (h.small _ (List.getElem_mem hin))
        rw [List.set_set, lentTo_set l k hlt _ (lent_item l k hin)] at hs2
        have hb2 : Below w.heap.size w ((wr.setCell ⟨w.heap.size, k, none⟩ (.int .u8 (165 : Nat))).setCell ⟨w.heap.size, k, none⟩ (.int .u8 (l[k] : Nat))) := (hbel.setCell (Nat.le_refl _) _).setCell (Nat.le_refl _) _
        have HS := hid (And.intro hs2 hb2)
        clear hs1 hs2 hb2 hown hbel
        go_wp2
        go_roundw
        case rel => exact ⟨k + 1, by omega, by go_num, HS.out.1, HS.out.2⟩
        case measure => simp [RowKit.intOf]; omega
      · have hs1 := hown.set_ k 165 (by omega)
        rw [lentTo_set l k hlt _ (lent_mark l k (by omega) hlt)] at hs1
        have hb1 : Below w.heap.size w (wr.setCell ⟨w.heap.size, k, none⟩ (.int .u8 (165 : Nat))) := hbel.setCell (Nat.le_refl _) _
        have HS := hid (And.intro hs1 hb1)
        clear hs1 hb1 hown hbel
        go_wp2
        go_roundw
        case rel => exact ⟨k + 1, by omega, by go_num, HS.out.1, HS.out.2⟩
        case measure => simp [RowKit.intOf]; omega
    · obtain rfl : k = l.length + 5 := by omega
      rw [lentTo_end] at hown
      go_wp2
      go_ret
      exact ⟨w.heap.size, l.length + 5, rfl, hown, hbel⟩
theorem take_lent (l : List Nat) : (lent l).take l.length = l := by
  unfold lent; rw [List.take_left']; rfl
theorem lent_get (l : List Nat) (k : Nat) (h1 : l.length ≤ k) (h2 : k < (lent l).length) : (lent l)[k] = 165 := by
  have := lent_mark l k h1 (by rw [lent_length] at h2; exact h2)
  rw [List.getElem?_eq_getElem h2] at this
  injection this

set_option maxHeartbeats 400000 in
theorem kept_any (B B' g : Nat) (A' : Option Addr) (c c' : Nat) (l : List Nat) (hl : l.length ≤ 140737488355328) (hcap : l.length + 5 ≤ c) (w : World) (h : IsBytes w B (some ⟨g, 0, none⟩) (lent l)) (h' : IsBytes w B' A' l) :
    Calls Tryz.prog 25 #[.slice (some ⟨g, 0, none⟩) (l.length + 5) c, .slice A' l.length c'] w fun e w' => e = .returned (.bool true) ∧ ∃ n, w' = w.drewN n := by
  have hb : ((l.length : Int) + 5 != (l.length : Int) + 5) = false := by simp
  have h0 : IsBytes w B (some ⟨g, 0, none⟩) l := by have := h.take l.length; rw [take_lent] at this; exact this
  go_enter Tryz.func25, Tryz.ntmps25
  go_wp2_with fail
  refine (same_any B B' _ _ _ _ l l (by unfold maxLen; omega) (by unfold maxLen; omega) _ h0 h').mono ?_
  rintro e w' ⟨rfl, n, rfl⟩
  have hd : (!decide (l = l)) = false := by simp
  go_wp2
  go_loopw [5] (fun i wr => ∃ k n : Nat, l.length ≤ k ∧ k ≤ l.length + 5 ∧ i = .int .i64 k ∧ wr = w.drewN n) (fun i _ => l.length + 5 - (RowKit.intOf i).toNat)
  case atStart => exact ⟨l.length, n, by omega, by omega, rfl, rfl⟩
  case round =>
    obtain ⟨k, n, hk1, hk, rfl, rfl⟩ := hrel
    by_cases hlt : k < l.length + 5
    · have hkl : k < (lent l).length := by rw [lent_length]; exact hlt
      obtain ⟨b, off, hg, _, hc⟩ := h.cells k hkl
      obtain ⟨rfl, rfl⟩ : g = b ∧ 0 = off := by injection hg with hg; injection hg with h1 h2; exact ⟨h1, h2⟩
      have hck := hc k hkl
      rw [lent_get l k hk1 hkl, Nat.zero_add] at hck
      clear hc hg
      go_wp2
      go_roundw
      case rel => exact ⟨k + 1, _, by omega, by omega, by go_num, rfl⟩
      case measure => simp [RowKit.intOf]; omega
    · obtain rfl : k = l.length + 5 := by omega
      go_wp2
      go_ret
      exact ⟨rfl, _, rfl⟩
end Go.Proofs.YtdgijnolpjaheaaGreat
namespace Go.Proofs.YtdgijnolpjaheaaGreat
open Go.RowKit

set_option maxHeartbeats 400000 in
theorem spoil_any (base : Nat) (A : Option Addr) (c : Nat) (l : List Nat) (hl : l.length ≤ maxLen) (w : World) (h : OwnsB 5 w base A c l) :
    Calls Tryz.prog 26 #[.slice A l.length c] w fun e w' => e = .returned (.tuple #[]) ∧ w.grownBy w' (Value.slice A l.length c).ownBlock := by
  unfold maxLen at hl
  go_enter Tryz.func26, Tryz.ntmps26
  go_wp2
  go_loopw [2] (fun i wr => ∃ k : Nat, ∃ L : List Nat, k ≤ l.length ∧ i = .int .i64 k ∧ L.length = l.length ∧ OwnsB 5 wr base A c L ∧ w.grownBy wr (Value.slice A l.length c).ownBlock) (fun i _ => l.length - (RowKit.intOf i).toNat)
  case atStart => exact ⟨0, l, by omega, rfl, rfl, h, grown_refl _ _⟩
  case round =>
    clear h
    obtain ⟨k, L, hk, rfl, hL, hown, hgr⟩ := hrel
    have HL := hid hL
    by_cases hlt : k < l.length
    · have hkl : k < L.length := by rw [hL]; exact hlt
      obtain ⟨g, rfl, _, _, hcg, hfg⟩ := hown.at_ hkl
      have h8 := hown.small L[k] (List.getElem_mem _)
      have HX : Hid (bits .xor .u8 (L[k] : Int) 90 = ((L[k] ^^^ 90 : Nat) : Int)) := hid (u8_xor_nat L[k] 90 h8 (by decide))
      have hs1 := hown.set_ k (L[k] ^^^ 90) (by have := Nat.xor_lt_two_pow (n := 8) h8 (show 90 < 2 ^ 8 by decide); simpa using this)
      have hg1 : w.grownBy (wr.setCell ⟨g, k, none⟩ (.int .u8 (L[k] ^^^ 90 : Nat))) (some g) := grown_trans hgr (grown_setCell _ _ _ _) (fun _ e _ => by injection e with e; rw [e])
      have HS := hid (And.intro hs1 hg1)
      clear hs1 hg1 hown hgr hL
      go_wp2
      rw [HX.out]
      go_roundw
      case rel => exact ⟨k + 1, _, by omega, by go_num, by rw [List.length_set]; exact HL.out, HS.out.1, HS.out.2⟩
      case measure => simp [RowKit.intOf]; omega
    · clear hL
      go_wp2
      go_end0
      exact ⟨rfl, hgr⟩
theorem spoil_N (base : Nat) (A : Option Addr) (c : Nat) (l : List Nat) (n : Nat) (hn : l.length = n) (hl : n ≤ maxLen) (w : World) (h : OwnsB 5 w base A c l) :
    Calls Tryz.prog 26 #[.slice A n c] w fun e w' => e = .returned (.tuple #[]) ∧ w.grownBy w' (blk A) := by
  subst hn; rw [← ownBlock_slice A l.length c]; exact spoil_any base A c l hl w h
end Go.Proofs.YtdgijnolpjaheaaGreat
namespace Go.Proofs.YtdgijnolpjaheaaGreat
open Go.RowKit

namespace Ck
structure Op where
  kind : Int
  at_ : Int
  n : Int
  ep : Int
  data : List Nat
  lst : List Int
/-- what a thing makes of a disk -/
def step (s : Sx.St) (t : Op) : Sx.St :=
  if t.kind = 0 then (if (Right s.n t.at_ t.n ∧ Epoch t.ep) ∧ (Jo.secs t.data.length : Int) ≤ t.n then (save false s (slot t.at_.toNat t.n.toNat t.ep) t.ep t.data).2 else s)
  else if t.kind = 1 then Sx.crash s t.lst
  else if t.kind = 2 then Sx.arm s t.n
  else if t.kind = 3 then Sx.flS (Sx.wrS s t.at_ t.data)
  else s
/-- does it make no difference whether a Save of one piece flushes ahead of it? -/
def Agree (s : Sx.St) (t : Op) : Prop := t.kind = 0 → (Right s.n t.at_ t.n ∧ Epoch t.ep) → (Jo.secs t.data.length : Int) ≤ t.n → save false s (slot t.at_.toNat t.n.toNat t.ep) t.ep t.data = save false s (slot t.at_.toNat t.n.toNat t.ep) t.ep t.data
end Ck
/-- what an operation's walk has to show -/
def BothTo (w : World) (Z : Nat → Prop) (d : Dk) (g : Nat) (s' : Sx.St) (e : Ending) (w' : World) : Prop :=
  e = .returned (.bool true) ∧ ∃ x', DX w' Z d g s' x' ∧ Turned (own2 d g) w w'
theorem own2_lt {w : World} {Z : Nat → Prop} {d : Dk} {g : Nat} {s : Sx.St} {x : Sx.Xs} (h : DX w Z d g s x) : ∀ k, own2 d g k → k < w.heap.size := by
  rintro k (hk | rfl)
  · exact h.da.lt k hk
  · exact h.xa.lt
theorem op_cell {w w1 w2 : World} {d : Dk} {g : Nat} {cur : Array Value} (hlt : ∀ k, own2 d g k → k < w.heap.size) (hw : w1 = w.alloc (.cells cur 25)) (ht : Turned (own2 d g) w1 w2) (k : Nat) : w2.cell? ⟨w.heap.size, k, none⟩ = cur[k]? := by
  subst hw
  rw [ht.cell (by simp) (fun h => Nat.lt_irrefl _ (hlt _ h))]
  exact World.cell?_alloc_new ..
/-- bytes, numbers that lie below what the disks turn -/
theorem low_bytes {w w' : World} {B0 : Nat} {A : Option Addr} {l : List Nat} {S : Nat → Prop} (h : IsBytes w B0 A l) (hB : ∀ k, S k → B0 ≤ k) (hB0 : B0 ≤ w.heap.size) (ht : Turned S w w') : IsBytes w' B0 A l :=
  h.keep (fun p hp => ht.cell (by omega) (fun e => by have := hB _ e; omega))
theorem low_ints {w w' : World} {B0 : Nat} {A : Option Addr} {l : List Int} {S : Nat → Prop} (h : IsInts w B0 A l) (hB : ∀ k, S k → B0 ≤ k) (hB0 : B0 ≤ w.heap.size) (ht : Turned S w w') : IsInts w' w'.heap.size A l := by
  refine ⟨h.small, fun k hk => ?_⟩
  obtain ⟨b, off, e, hb, hc⟩ := h.cells k hk
  refine ⟨b, off, e, by have := ht.size; omega, fun i hi => ?_⟩
  rw [ht.cell (p := ⟨b, off + i, none⟩) (show b < _ by omega) (fun e => by have := hB _ e; have h2 : B0 ≤ b := this; omega)]
  exact hc i hi
set_option maxRecDepth 100000 in
theorem both_arm (Z : Nat → Prop) (d : Dk) (g : Nat) (s : Sx.St) (x : Sx.Xs) (f n e : Int) (hi : InInt n) (v4 v5 : Value) (w : World) (h : DX w Z d g s x) :
    Calls Tryz.prog 12 #[.pointer (some ⟨d.g, 0, none⟩), .pointer (some ⟨g, 0, none⟩), .agg #[.int .i64 2, .int .i64 f, .int .i64 n, .int .i64 e, v4, v5]] w (BothTo w Z d g (Sx.arm s n)) := by
  obtain ⟨w1, hw1⟩ : ∃ w1, w1 = w.alloc (.cells #[.int .i64 2, .int .i64 f, .int .i64 n, .int .i64 e, v4, v5] 25) := ⟨_, rfl⟩
  have hb1 : Below w.heap.size w w1 := by rw [hw1]; exact (Below.refl _ w).alloc (Nat.le_refl _) _
  have ht1 : Turned (own2 d g) w w1 := Turned.ofBelow _ hb1
  have h1 : DX w1 Z d g s x := h.below hb1
  have hlt := own2_lt h
  have HC := hid (arm_any _ d s n hi w1 h1.da)
  have H := hid (And.intro h1 (And.intro ht1 (And.intro (Sx.rel_arm h.rel n) hi)))
  have HOP := hid (fun w2 ht k => op_cell (w2 := w2) hlt hw1 ht k)
  rw [hw1] at HC H HOP
  clear h h1 ht1 hb1 hlt hw1 hi
  go_enter Tryz.func12, Tryz.ntmps12
  go_wp2_with fail
  refine HC.out.mono ?_
  rintro e w2 ⟨rfl, hD2, ht2⟩
  have HR := hid (refArm_any _ g x n H.out.2.2.2 w2 (H.out.1.xafter ht2))
  have H2 := hid (And.intro hD2 ht2)
  have q1 := HOP.out w2 (ht2.mono (fun _ h => .inl h)) 2
  clear hD2 ht2
  go_wp2_with fail
  refine HR.out.mono ?_
  rintro e w3 ⟨rfl, hX3, ht3⟩
  have H3 := hid (H.out.1.step H2.out.1 H2.out.2 hX3 ht3 H.out.2.2.1)
  clear hX3 ht3
  go_wp2
  go_ret
  exact ⟨rfl, _, H3.out.1, H.out.2.1.trans H3.out.2⟩
set_option maxRecDepth 100000 in
theorem both_crash (Z : Nat → Prop) (d : Dk) (g : Nat) (s : Sx.St) (x : Sx.Xs) (f n e : Int) (v4 : Value) (al : Option Addr) (cl : Nat) (l : List Int) (k : Nat) (hk : l.length = k) (B0 : Nat) (w : World) (h : DX w Z d g s x) (hB : ∀ k, own2 d g k → B0 ≤ k) (hB0 : B0 ≤ w.heap.size) (hl : IsInts w B0 al l) :
    Calls Tryz.prog 12 #[.pointer (some ⟨d.g, 0, none⟩), .pointer (some ⟨g, 0, none⟩), .agg #[.int .i64 1, .int .i64 f, .int .i64 n, .int .i64 e, v4, .slice al k cl]] w (BothTo w Z d g (Sx.crash s l)) := by
  obtain ⟨w1, hw1⟩ : ∃ w1, w1 = w.alloc (.cells #[.int .i64 1, .int .i64 f, .int .i64 n, .int .i64 e, v4, .slice al k cl] 25) := ⟨_, rfl⟩
  have hb1 : Below w.heap.size w w1 := by rw [hw1]; exact (Below.refl _ w).alloc (Nat.le_refl _) _
  have ht1 : Turned (own2 d g) w w1 := Turned.ofBelow _ hb1
  have h1 : DX w1 Z d g s x := h.below hb1
  have hlt := own2_lt h
  have HI := hid (fun w2 (ht : Turned (own2 d g) w1 w2) => low_ints hl hB hB0 (ht1.trans ht))
  have HC := hid (crash_any _ d s al cl l k hk w1 h1.da (fun w' ht => HI.out w' (ht.mono (fun _ h => .inl h))))
  have H := hid (And.intro h1 (And.intro ht1 (And.intro (Sx.rel_crash h.rel l) hk)))
  have HOP := hid (fun w2 ht k => op_cell (w2 := w2) hlt hw1 ht k)
  rw [hw1] at HC H HOP HI
  clear h h1 ht1 hb1 hlt hw1 hk hl hB
  go_enter Tryz.func12, Tryz.ntmps12
  go_wp2_with fail
  refine HC.out.mono ?_
  rintro e w2 ⟨rfl, hD2, ht2⟩
  have HR := hid (refCrash_any _ g x al cl l k H.out.2.2.2 w2 (fun j hj => Nat.lt_of_lt_of_le (H.out.1.zx j hj) ht2.size) (H.out.1.xafter ht2) (fun w' ht => HI.out w' ((ht2.mono (fun _ h => .inl h)).trans (ht.mono (fun _ h => .inr h)))))
  have H2 := hid (And.intro hD2 ht2)
  have q1 := HOP.out w2 (ht2.mono (fun _ h => .inl h)) 5
  clear hD2 ht2
  go_wp2_with fail
  refine HR.out.mono ?_
  rintro e w3 ⟨rfl, hX3, ht3⟩
  have H3 := hid (H.out.1.step H2.out.1 H2.out.2 hX3 ht3 H.out.2.2.1)
  clear hX3 ht3
  go_wp2
  go_ret
  exact ⟨rfl, _, H3.out.1, H.out.2.1.trans H3.out.2⟩
set_option maxRecDepth 100000 in
theorem both_none (Z : Nat → Prop) (d : Dk) (g : Nat) (s : Sx.St) (x : Sx.Xs) (k f n e : Int) (k0 : k ≠ 0) (k1 : k ≠ 1) (k2 : k ≠ 2) (k3 : k ≠ 3) (v4 v5 : Value) (w : World) (h : DX w Z d g s x) :
    Calls Tryz.prog 12 #[.pointer (some ⟨d.g, 0, none⟩), .pointer (some ⟨g, 0, none⟩), .agg #[.int .i64 k, .int .i64 f, .int .i64 n, .int .i64 e, v4, v5]] w (BothTo w Z d g s) := by
  have hb1 : Below w.heap.size w (w.alloc (.cells #[.int .i64 k, .int .i64 f, .int .i64 n, .int .i64 e, v4, v5] 25)) := (Below.refl _ w).alloc (Nat.le_refl _) _
  have H := hid (And.intro (h.below hb1) (Turned.ofBelow (own2 d g) hb1))
  have q0 : (k == 0) = false := by rw [beq_eq_false_iff_ne]; exact k0
  have q1 : (k == 1) = false := by rw [beq_eq_false_iff_ne]; exact k1
  have q2 : (k == 2) = false := by rw [beq_eq_false_iff_ne]; exact k2
  have q3 : (k == 3) = false := by rw [beq_eq_false_iff_ne]; exact k3
  clear h hb1 k0 k1 k2 k3
  go_enter Tryz.func12, Tryz.ntmps12
  go_wp2
  go_ret
  exact ⟨rfl, _, H.out.1, H.out.2⟩
end Go.Proofs.YtdgijnolpjaheaaGreat
namespace Go.Proofs.YtdgijnolpjaheaaGreat
open Go.RowKit
set_option maxRecDepth 100000 in
set_option maxHeartbeats 1600000 in
theorem both_raw (Z : Nat → Prop) (d : Dk) (g : Nat) (s : Sx.St) (x : Sx.Xs) (f n e : Int) (ap : Option Addr) (cp : Nat) (l : List Nat) (k : Nat) (hk : l.length = k) (hz : ap = none → cp = 0) (v5 : Value) (B0 : Nat) (w : World) (h : DX w Z d g s x) (hB : ∀ k, own2 d g k → B0 ≤ k) (hB0 : B0 ≤ w.heap.size) (hl : IsBytes w B0 ap l) :
    Calls Tryz.prog 12 #[.pointer (some ⟨d.g, 0, none⟩), .pointer (some ⟨g, 0, none⟩), .agg #[.int .i64 3, .int .i64 f, .int .i64 n, .int .i64 e, .slice ap k cp, v5]] w (BothTo w Z d g (Sx.flS (Sx.wrS s f l))) := by
  obtain ⟨w1, hw1⟩ : ∃ w1, w1 = w.alloc (.cells #[.int .i64 3, .int .i64 f, .int .i64 n, .int .i64 e, .slice ap k cp, v5] 25) := ⟨_, rfl⟩
  have hb1 : Below w.heap.size w w1 := by rw [hw1]; exact (Below.refl _ w).alloc (Nat.le_refl _) _
  have ht1 : Turned (own2 d g) w w1 := Turned.ofBelow _ hb1
  have h1 : DX w1 Z d g s x := h.below hb1
  have hlt := own2_lt h
  have HI := hid (fun w2 (ht : Turned (own2 d g) w1 w2) => ((low_bytes hl hB hB0 (ht1.trans ht)).more (Nat.le_trans hB0 (ht1.trans ht).size)))
  have HW := hid (write_any _ d s f ap cp l k hk hz w1.drew h1.drew.zd h1.drew.da (fun w' ht => HI.out w' ((Turned.refl _ w1).drew.trans (ht.mono (fun _ h => .inl h)))))
  obtain ⟨hre, hrs⟩ := Sx.rel_write h.rel f l
  rw [hre] at HW
  have H := hid (And.intro h1.drew (And.intro ht1.drew (And.intro hrs hk)))
  have HR : Hid (∀ w3, DiskAt w3 (fun k => Z k ∨ k = g) d (Sx.wrS s f l) → Turned d.has w1.drew w3 → _) := hid (fun w3 hD3 ht3 => refWrite_any _ g x f ap cp l k H.out.2.2.2 w3 (fun j hj => Nat.lt_of_lt_of_le (H.out.1.zx j hj) ht3.size) (H.out.1.xafter ht3) (fun w' ht => HI.out w' (((Turned.refl (own2 d g) _).drew.trans (ht3.mono (fun _ h => .inl h))).trans (ht.mono (fun _ h => .inr h)))))
  have HS : Hid (∀ w2, Turned (own2 d g) w1 w2 → w2.cell? ⟨w.heap.size, 1, none⟩ = some (.int .i64 f) ∧ w2.cell? ⟨w.heap.size, 4, none⟩ = some (.slice ap k cp)) := hid (fun w2 ht => ⟨op_cell (w2 := w2) hlt hw1 ht 1, op_cell (w2 := w2) hlt hw1 ht 4⟩)
  have hE : (Sx.wrXE x f l != Sx.wrXE x f l) = false := by simp
  have HW1 := hid hw1
  clear h h1 ht1 hb1 hlt hw1 hk hl hB hz hre hrs HI
  go_enter Tryz.func12, Tryz.ntmps12
  go_wp2_with fail
  rw [← HW1.out]
  go_region_held3 (fun w' => w'.cell? ⟨w.heap.size, 1, none⟩ = some (.int .i64 f) ∧ w'.cell? ⟨w.heap.size, 4, none⟩ = some (.slice ap k cp))
    (first | exact HS.out _ (Turned.refl _ w1).drew | exact HS.out _ t3 | exact HS.out _ (t3.trans (ht4.mono (fun _ h => .inr h))) | fail)
    (first
      | (go_at_call 32; refine HR3.mono ?_; rintro e w4 ⟨rfl, hX4, ht4⟩)
      | (go_at_call 31; refine HW.out.mono ?_; rintro e w3 ⟨rfl, hD3, ht3⟩; have t3 := (Turned.refl (own2 d g) w1).drew.trans (ht3.mono (fun _ h => .inl h)); have HR3 := HR.out w3 hD3 ht3))
  have H4 := hid (H.out.1.step hD3 ht3 hX4 ht4 H.out.2.2.1)
  clear hX4 ht4 hD3 ht3 t3 HW HR HR3 HS
  go_wp2_with fail
  refine (flush_any _ d (Sx.wrS s f l) w4 H4.out.1.da).mono ?_
  rintro e w5 ⟨rfl, hD5, ht5⟩
  obtain ⟨hfe, hfs⟩ := Sx.rel_flush H4.out.1.rel
  rw [hfe]
  have HR5 := hid (refFlush_any _ g (Sx.wrXS x f l) w5 (fun j hj => Nat.lt_of_lt_of_le (H4.out.1.zx j hj) ht5.size) (H4.out.1.xafter ht5))
  have H5 := hid (And.intro hD5 (And.intro ht5 hfs))
  have hE5 : (Sx.flXE (Sx.wrXS x f l) == Sx.flXE (Sx.wrXS x f l)) = true := by simp
  clear hD5 ht5 hfe hfs
  go_wp2_with fail
  refine HR5.out.mono ?_
  rintro e w6 ⟨rfl, hX6, ht6⟩
  have H6 := hid (H4.out.1.step H5.out.1 H5.out.2.1 hX6 ht6 H5.out.2.2)
  clear hX6 ht6
  go_wp2
  go_ret
  exact ⟨rfl, _, H6.out.1, (H.out.2.1.trans H4.out.2).trans H6.out.2⟩
end Go.Proofs.YtdgijnolpjaheaaGreat
namespace Go.Proofs.YtdgijnolpjaheaaGreat
open Go.RowKit
set_option maxRecDepth 100000 in
set_option maxHeartbeats 3200000 in
theorem both_wrong (Z : Nat → Prop) (d : Dk) (g : Nat) (s : Sx.St) (x : Sx.Xs) (ap : Option Addr) (cp : Nat) (l : List Nat) (f n e : Int) (hf : InInt f) (hr : ¬ (Ck.Right s.n f n ∧ Ck.Epoch e)) (hc : l.length ≤ cp) (hcm : cp ≤ maxLen) (hz : ap = none → cp = 0) (hl : l.length ≤ 4096) (v5 : Value) (B0 : Nat) (w : World) (h : DX w Z d g s x) (hB : ∀ k, own2 d g k → B0 ≤ k) (hB0 : B0 ≤ w.heap.size) (hp : IsBytes w B0 ap l) :
    Calls Tryz.prog 12 #[.pointer (some ⟨d.g, 0, none⟩), .pointer (some ⟨g, 0, none⟩), .agg #[.int .i64 0, .int .i64 f, .int .i64 n, .int .i64 e, .slice ap l.length cp, v5]] w (BothTo w Z d g s) := by
  obtain ⟨w1, hw1⟩ : ∃ w1, w1 = w.alloc (.cells #[.int .i64 0, .int .i64 f, .int .i64 n, .int .i64 e, .slice ap l.length cp, v5] 25) := ⟨_, rfl⟩
  have hb1 : Below w.heap.size w w1 := by rw [hw1]; exact (Below.refl _ w).alloc (Nat.le_refl _) _
  have ht1 : Turned (own2 d g) w w1 := Turned.ofBelow _ hb1
  have h1 : DX w1 Z d g s x := h.below hb1
  have hlt := own2_lt h
  have HI := hid (fun w2 (ht : Turned (own2 d g) w1 w2) => (low_bytes hp hB hB0 (ht1.trans ht)))
  have HL := hid (lent_any w1.heap.size ap cp l (by omega) w1 ((HI.out w1 (Turned.refl _ _)).more (Nat.le_trans hB0 hb1.size)) (Nat.le_refl _))
  have H := hid (And.intro h1 (And.intro ht1 (And.intro h.rel (And.intro hB (And.intro hB0 (Nat.le_trans hB0 hb1.size))))))
  have HC := hid (And.intro hc (And.intro hcm hz))
  have HFR : Hid (InInt f ∧ ¬ (Ck.Right x.n f n ∧ Ck.Epoch e)) := hid ⟨hf, by rw [← h.rel.n]; exact hr⟩
  have HOP := hid (fun w2 ht k => op_cell (w2 := w2) hlt hw1 ht k)
  have HLT : Hid (∀ k, own2 d g k → k < w1.heap.size) := hid (own2_lt h1)
  have HW1 := hid hw1
  rw [hw1] at HL H HOP HI HLT
  clear h h1 ht1 hb1 hlt hw1 hp hB hz hc hcm
  go_enter Tryz.func12, Tryz.ntmps12
  go_wp2_with fail
  refine HL.out.mono ?_
  rintro e0 w2 ⟨gb, c2, rfl, ho2, hb2⟩
  have hgb := ho2.blkLt gb rfl
  have hcap := ho2.cap
  rw [lent_length] at hcap
  have HCL := hid ho2.capLe
  have hDX := H.out.1.shunB hb2 gb hgb.1 hgb.2
  have hO : OwnsZ w2 (own2 d g) (some ⟨gb, 0, none⟩) c2 (lent l) := ⟨ho2.weaken (Nat.zero_le _), fun k hk e => by
    injection hk with hk
    have hk' : gb = k := hk
    subst hk'
    have := HLT.out gb e
    omega⟩
  have ht2 : Turned (own2 d g) _ w2.drew := (Turned.ofBelow (own2 d g) hb2).drew
  have q1 := HOP.out w2.drew ht2 1
  have q2 := HOP.out w2.drew ht2 2
  have q3 := HOP.out w2.drew ht2 3
  have q4 := HOP.out w2.drew ht2 4
  have hby : IsBytes w2.drew w2.drew.heap.size (some ⟨gb, 0, none⟩) l := by
    have h1 := (hO.keep (w' := w2.drew) (Turned.refl _ w2).drew).reads.take l.length
    rwa [take_lent] at h1
  have HW := hid (C.save_wrong _ d s f n e hf (some ⟨gb, 0, none⟩) l.length c2 hr w2.drew hDX.drew.da)
  have H2 := hid (And.intro hDX.drew (And.intro (hO.keep (w' := w2.drew) (Turned.refl _ w2).drew) ht2))
  have HGB : Hid (w.heap.size ≤ gb) := hid (by have h1 := hgb.1; rw [World.size_alloc] at h1; omega)
  clear hDX hO ht2 ho2 hb2 hgb HL HLT hby
  have hln : l.length ≤ c2 := by omega
  have hln0 : (0 : Int) ≤ (l.length : Int) := by omega
  have hln1 : (l.length : Int) ≤ ((l.length + 5 : Nat) : Int) := by omega
  have hln2 : (l.length : Int) ≤ (c2 : Int) := by omega
  have HCP := hid hcap
  go_wp2_with fail
  go_still_tail 12, (by kernel_rfl)
  go_wp2_with fail
  refine HW.out.mono ?_
  rintro e3 w3 ⟨rfl, hw3⟩; rw [← hw3] at H2; clear hw3
  all_goals
    (clear hln0 hln1 hln2
     have HT3 := hid H2.out.2.2
     have r1 := HOP.out w3 HT3.out 1
     have r2 := HOP.out w3 HT3.out 2
     have r3 := HOP.out w3 HT3.out 3
     have r4 := HOP.out w3 HT3.out 4
     clear q1 q2 q3 q4
     go_wp2_with fail
     refine (C.refSave_wrong _ g x f n e HFR.out.1 ap l.length cp HFR.out.2 w3 H2.out.1.xa).mono ?_
     rintro e4 w4 ⟨rfl, hw4⟩
     subst hw4
     have HT4 := HT3
     have HS4 := hid H2.out.1
     have HO4 := H2.out.2.1
     have p4 := HOP.out w4 HT4.out 4
     have hO4 := HO4
     have HK := hid (kept_any _ _ gb ap c2 cp l (by omega) (by omega) w4 hO4.reads (HI.out w4 HT4.out))
     have H4 := hid (And.intro HS4.out (And.intro hO4 HT4.out))
     clear r1 r2 r3 r4 HW HOP hO4 HO4
     go_wp2_with fail
     refine HK.out.mono ?_
     rintro e5 w5 ⟨rfl, n5, rfl⟩
     have HS := hid (spoil_N 0 (some ⟨gb, 0, none⟩) c2 (lent l) (l.length + 5) (lent_length l) (by unfold maxLen; omega) (w4.drewN n5) (H4.out.2.1.own.drewN n5))
     clear HK
     go_wp2_with fail
     refine HS.out.mono ?_
     rintro e6 w6 ⟨rfl, hg6⟩
     have ht6 : Turned (fun k => Z k ∨ k = gb) (w4.drewN n5) w6 := Turned.ofGrown hg6 (fun k hk => by injection hk with hk; exact .inr hk.symm)
     have ht6' : Turned (fun k => k = gb) (w4.drewN n5) w6 := Turned.ofGrown hg6 (fun k hk => by injection hk with hk; exact hk.symm)
     have HF := hid (And.intro (((H4.out.1.drewN n5).keep ht6).mono (fun _ h => .inl h)) (((H.out.2.1.trans H4.out.2.2).drewN n5).then_ ht6' (fun k hk e => by subst e; have := HGB.out; omega)))
     clear hg6 ht6 ht6' HS
     go_wp2
     go_ret
     exact ⟨rfl, _, HF.out.1, HF.out.2⟩)
end Go.Proofs.YtdgijnolpjaheaaGreat
namespace Go.Proofs.YtdgijnolpjaheaaGreat
open Go.RowKit
set_option maxRecDepth 100000 in
set_option maxHeartbeats 3200000 in
theorem both_long (Z : Nat → Prop) (d : Dk) (g : Nat) (s : Sx.St) (x : Sx.Xs) (ap : Option Addr) (cp : Nat) (l : List Nat) (f : Int) (n : Nat) (e : Int) (hf : InInt f) (hr : Ck.Right s.n f n) (he : Ck.Epoch e) (hlg : n < Jo.secs l.length) (hc : l.length ≤ cp) (hcm : cp ≤ maxLen) (hz : ap = none → cp = 0) (hl : l.length ≤ 4096) (v5 : Value) (B0 : Nat) (w : World) (h : DX w Z d g s x) (hB : ∀ k, own2 d g k → B0 ≤ k) (hB0 : B0 ≤ w.heap.size) (hp : IsBytes w B0 ap l) :
    Calls Tryz.prog 12 #[.pointer (some ⟨d.g, 0, none⟩), .pointer (some ⟨g, 0, none⟩), .agg #[.int .i64 0, .int .i64 f, .int .i64 (n : Int), .int .i64 e, .slice ap l.length cp, v5]] w (BothTo w Z d g s) := by
  obtain ⟨w1, hw1⟩ : ∃ w1, w1 = w.alloc (.cells #[.int .i64 0, .int .i64 f, .int .i64 (n : Int), .int .i64 e, .slice ap l.length cp, v5] 25) := ⟨_, rfl⟩
  have hb1 : Below w.heap.size w w1 := by rw [hw1]; exact (Below.refl _ w).alloc (Nat.le_refl _) _
  have ht1 : Turned (own2 d g) w w1 := Turned.ofBelow _ hb1
  have h1 : DX w1 Z d g s x := h.below hb1
  have hlt := own2_lt h
  have HI := hid (fun w2 (ht : Turned (own2 d g) w1 w2) => (low_bytes hp hB hB0 (ht1.trans ht)))
  have HL := hid (lent_any w1.heap.size ap cp l (by omega) w1 ((HI.out w1 (Turned.refl _ _)).more (Nat.le_trans hB0 hb1.size)) (Nat.le_refl _))
  have H := hid (And.intro h1 (And.intro ht1 (And.intro h.rel (And.intro hB (And.intro hB0 (Nat.le_trans hB0 hb1.size))))))
  have HC := hid (And.intro hc (And.intro hcm hz))
  have HFR : Hid (InInt f ∧ Ck.Right x.n f n) := hid ⟨hf, by rw [← h.rel.n]; exact hr⟩
  have HOP := hid (fun w2 ht k => op_cell (w2 := w2) hlt hw1 ht k)
  have HLT : Hid (∀ k, own2 d g k → k < w1.heap.size) := hid (own2_lt h1)
  have HW1 := hid hw1
  rw [hw1] at HL H HOP HI HLT
  clear h h1 ht1 hb1 hlt hw1 hp hB hz hc hcm
  go_enter Tryz.func12, Tryz.ntmps12
  go_wp2_with fail
  refine HL.out.mono ?_
  rintro e0 w2 ⟨gb, c2, rfl, ho2, hb2⟩
  have hgb := ho2.blkLt gb rfl
  have hcap := ho2.cap
  rw [lent_length] at hcap
  have HCL := hid ho2.capLe
  have hDX := H.out.1.shunB hb2 gb hgb.1 hgb.2
  have hO : OwnsZ w2 (own2 d g) (some ⟨gb, 0, none⟩) c2 (lent l) := ⟨ho2.weaken (Nat.zero_le _), fun k hk e => by
    injection hk with hk
    have hk' : gb = k := hk
    subst hk'
    have := HLT.out gb e
    omega⟩
  have ht2 : Turned (own2 d g) _ w2.drew := (Turned.ofBelow (own2 d g) hb2).drew
  have q1 := HOP.out w2.drew ht2 1
  have q2 := HOP.out w2.drew ht2 2
  have q3 := HOP.out w2.drew ht2 3
  have q4 := HOP.out w2.drew ht2 4
  have hby : IsBytes w2.drew w2.drew.heap.size (some ⟨gb, 0, none⟩) l := by
    have h1 := (hO.keep (w' := w2.drew) (Turned.refl _ w2).drew).reads.take l.length
    rwa [take_lent] at h1
  have HW := hid (C.save_long _ d s f n e hf (some ⟨gb, 0, none⟩) l.length c2 (by omega) hr he hlg w2.drew hDX.drew.da)
  have H2 := hid (And.intro hDX.drew (And.intro (hO.keep (w' := w2.drew) (Turned.refl _ w2).drew) ht2))
  have HGB : Hid (w.heap.size ≤ gb) := hid (by have h1 := hgb.1; rw [World.size_alloc] at h1; omega)
  clear hDX hO ht2 ho2 hb2 hgb HL HLT hby
  have hln : l.length ≤ c2 := by omega
  have hln0 : (0 : Int) ≤ (l.length : Int) := by omega
  have hln1 : (l.length : Int) ≤ ((l.length + 5 : Nat) : Int) := by omega
  have hln2 : (l.length : Int) ≤ (c2 : Int) := by omega
  have HCP := hid hcap
  go_wp2_with fail
  go_still_tail 12, (by kernel_rfl)
  go_wp2_with fail
  refine HW.out.mono ?_
  rintro e3 w3 ⟨rfl, hw3⟩; rw [← hw3] at H2; clear hw3
  all_goals
    (clear hln0 hln1 hln2
     have HT3 := hid H2.out.2.2
     have r1 := HOP.out w3 HT3.out 1
     have r2 := HOP.out w3 HT3.out 2
     have r3 := HOP.out w3 HT3.out 3
     have r4 := HOP.out w3 HT3.out 4
     clear q1 q2 q3 q4
     go_wp2_with fail
     refine (C.refSave_long _ g x f n e HFR.out.1 ap cp l l.length rfl HC.out.1 HC.out.2.1 HC.out.2.2 (by omega) HFR.out.2 he hlg w3 H2.out.1.xa ((HI.out w3 HT3.out).more (Nat.le_trans H.out.2.2.2.2.2 HT3.out.size))).mono ?_
     rintro e4 w4 ⟨rfl, hb4⟩
     have HT4 := hid (HT3.out.trans (Turned.ofBelow _ hb4.out))
     have HS4 := hid (H2.out.1.below hb4.out)
     have HO4 := H2.out.2.1.keep (Turned.ofBelow _ hb4.out)
     have p4 := HOP.out w4 HT4.out 4
     have hO4 := HO4
     have HK := hid (kept_any _ _ gb ap c2 cp l (by omega) (by omega) w4 hO4.reads (HI.out w4 HT4.out))
     have H4 := hid (And.intro HS4.out (And.intro hO4 HT4.out))
     clear r1 r2 r3 r4 HW HOP hO4 HO4
     go_wp2_with fail
     refine HK.out.mono ?_
     rintro e5 w5 ⟨rfl, n5, rfl⟩
     have HS := hid (spoil_N 0 (some ⟨gb, 0, none⟩) c2 (lent l) (l.length + 5) (lent_length l) (by unfold maxLen; omega) (w4.drewN n5) (H4.out.2.1.own.drewN n5))
     clear HK
     go_wp2_with fail
     refine HS.out.mono ?_
     rintro e6 w6 ⟨rfl, hg6⟩
     have ht6 : Turned (fun k => Z k ∨ k = gb) (w4.drewN n5) w6 := Turned.ofGrown hg6 (fun k hk => by injection hk with hk; exact .inr hk.symm)
     have ht6' : Turned (fun k => k = gb) (w4.drewN n5) w6 := Turned.ofGrown hg6 (fun k hk => by injection hk with hk; exact hk.symm)
     have HF := hid (And.intro (((H4.out.1.drewN n5).keep ht6).mono (fun _ h => .inl h)) (((H.out.2.1.trans H4.out.2.2).drewN n5).then_ ht6' (fun k hk e => by subst e; have := HGB.out; omega)))
     clear hg6 ht6 ht6' HS
     go_wp2
     go_ret
     exact ⟨rfl, _, HF.out.1, HF.out.2⟩)
end Go.Proofs.YtdgijnolpjaheaaGreat
