/- Texts of the proof, one behind the other: KitSame, KitBytes, PackBlob, MsG, MsH, SumWalks, FramePut. -/
import Derived.Test.YtpigekbfngalbaaDoorPartAD
import Derived.Deep.RegionHeld3
import Derived.Test.YtpigekbfngalbaaDoorRows
import Derived.Test.YtpigekbfngalbaaDoorPartAA
import Derived.Test.YtpigekbfngalbaaDoorPartAB
namespace Go.Proofs.YtpigekbfngalbaaDoor
open Go.RowKit

set_option maxHeartbeats 400000 in
theorem copy_any (B : Nat) (A : Option Addr) (c : Nat) (l : List Nat) (hl : l.length ≤ 140737488355328) (w : World) (h : IsBytes w B A l) (hB : B ≤ w.heap.size) :
    Calls Tryd.prog 27 #[.slice A l.length c] w fun e w' => ∃ A' c', e = .returned (.slice A' l.length c') ∧ OwnsB 5 w' w.heap.size A' c' l ∧ Below w.heap.size w w' := by
  obtain ⟨i0, hi, hz0, hz1, hz2⟩ := info_parts info_u8
  go_enter Tryd.func27, Tryd.ntmps27
  go_wp2
  go_loopw [3, 4] (fun v i wr => ∃ k : Nat, k ≤ l.length ∧ i = .int .i64 k ∧ wr.ownsRow w.heap.size 5 1 v k (bytes (l.take k)) ∧ Below w.heap.size w wr) (fun _ i _ => l.length - (RowKit.intOf i).toNat)
  case atStart => exact ⟨0, by omega, rfl, World.ownsRow_nil _ _ _ _, Below.refl _ _⟩
  case round =>
    obtain ⟨k, hk, rfl, hown, hbel⟩ := hrel
    by_cases hlt : k < l.length
    · have h1 := (h.below (hbel.mono hB))
      obtain ⟨b, off, rfl, _, hc⟩ := h1.cells k hlt
      have hck := hc k hlt
      clear hc
      go_wp2_with (at_builtin; refine wpList_append_own _ rfl _ _ 23 rfl w.heap.size 5 i0 (.int .u8 0) 1 1 Tryd.underlying23 hi hz0 hz1 hz2 rfl (by decide) _ _ _ rfl (hown.alloc _) ⟨wr.heap.size, 0, none⟩ 1 1 [.int .u8 (l[k] : Nat)] rfl rfl ?c1 ?c2 ?c3 ?c4 ?c5 ?_)
      case c1 =>
        intro j u hj
        match j, hj with
        | 0, hj => simp at hj; subst hj; simp [Addr.add]
      case c2 => intro u hu; simp at hu; subst hu; rfl
      case c3 => unfold maxLen; omega
      case c4 => omega
      case c5 => have := hbel.size; simp; omega
      intro v' w1 hown' hgrow _
      rw [bytes_snoc l k hlt] at hown'
      have hb1 : Below w.heap.size w w1 := (hbel.alloc hbel.size _).grown hgrow (by have := hbel.size; simp; omega) (fun g hg => (hown.lt g hg).1)
      clear hgrow hown hbel hck
      go_wp2
      go_roundw
      case rel => exact ⟨k + 1, by omega, by go_num, hown', hb1⟩
      case measure => simp [RowKit.intOf]; omega
    · obtain rfl : k = l.length := by omega
      rw [List.take_length] at hown
      obtain ⟨A', c', rfl⟩ := own_slice hown
      go_wp2
      go_ret
      exact ⟨A', c', rfl, ⟨h.small, hown⟩, hbel⟩
theorem copy_N (B : Nat) (A : Option Addr) (c : Nat) (l : List Nat) (n : Nat) (hn : l.length = n) (hl : n ≤ 140737488355328) (w : World) (h : IsBytes w B A l) (hB : B ≤ w.heap.size) :
    Calls Tryd.prog 27 #[.slice A n c] w fun e w' => ∃ A' c', e = .returned (.slice A' n c') ∧ OwnsB 5 w' w.heap.size A' c' l ∧ Below w.heap.size w w' := by
  subst hn; exact copy_any B A c l hl w h hB
end Go.Proofs.YtpigekbfngalbaaDoor
namespace Go.Proofs.YtpigekbfngalbaaDoor
open Go.RowKit

/-- what LentBytes makes: the bytes, and five marks behind them -/
def lent (l : List Nat) : List Nat := l ++ List.replicate 5 165
theorem lent_length (l : List Nat) : (lent l).length = l.length + 5 := by simp [lent]
theorem lent_small (l : List Nat) (h : ∀ x ∈ l, x < 256) : ∀ x ∈ lent l, x < 256 := by
  intro x hx
  unfold lent at hx
  rcases List.mem_append.1 hx with hx | hx
  · exact h x hx
  · have := (List.mem_replicate.1 hx).2; omega
/-- the same, amid the work: the first k items are there -/
def lentTo (l : List Nat) (k : Nat) : List Nat := (lent l).take k ++ List.replicate (l.length + 5 - k) 0
theorem lentTo_length (l : List Nat) (k : Nat) (h : k ≤ l.length + 5) : (lentTo l k).length = l.length + 5 := by
  unfold lentTo; rw [List.length_append, List.length_take, lent_length, List.length_replicate]; omega
theorem lentTo_end (l : List Nat) : lentTo l (l.length + 5) = lent l := by
  unfold lentTo
  rw [List.take_of_length_le (by rw [lent_length]; omega)]; simp
theorem lentTo_set (l : List Nat) (k : Nat) (h : k < l.length + 5) (x : Nat) (hx : (lent l)[k]? = some x) : (lentTo l k).set k x = lentTo l (k + 1) := by
  unfold lentTo
  have hl : k < (lent l).length := by rw [lent_length]; exact h
  have hk : ((lent l).take k).length = k := by rw [List.length_take]; omega
  rw [List.set_append_right _ _ (by omega), hk, Nat.sub_self, show l.length + 5 - k = (l.length + 5 - (k + 1)) + 1 from by omega, List.replicate_succ, List.set_cons_zero,
    List.take_succ_eq_append_getElem hl, List.append_assoc]
  have : (lent l)[k] = x := by rw [List.getElem?_eq_getElem hl] at hx; injection hx
  rw [this]; rfl
theorem lent_mark (l : List Nat) (k : Nat) (h1 : l.length ≤ k) (h2 : k < l.length + 5) : (lent l)[k]? = some 165 := by
  unfold lent
  rw [List.getElem?_append_right h1, List.getElem?_replicate, if_pos (by omega)]
theorem lent_item (l : List Nat) (k : Nat) (h : k < l.length) : (lent l)[k]? = some l[k] := by
  unfold lent
  rw [List.getElem?_append_left h, List.getElem?_eq_getElem h]

set_option maxRecDepth 100000 in
set_option maxHeartbeats 400000 in
theorem lent_any (B : Nat) (A : Option Addr) (c : Nat) (l : List Nat) (hl : l.length ≤ 140737488355328) (w : World) (h : IsBytes w B A l) (hB : B ≤ w.heap.size) :
    Calls Tryd.prog 21 #[.slice A l.length c] w fun e w' => ∃ g c', e = .returned (.slice (some ⟨g, 0, none⟩) (l.length + 5) c') ∧ OwnsB 5 w' w.heap.size (some ⟨g, 0, none⟩) c' (lent l) ∧ Below w.heap.size w w' := by
  obtain ⟨i0, hi, hz0, hz1, hz2⟩ := info_parts info_u8
  go_enter Tryd.func21, Tryd.ntmps21
  go_wp2_with (at_make; refine wpList_make_full _ rfl _ _ 23 rfl w.heap.size 5 i0 (.int .u8 0) 1 Tryd.underlying23 hi hz0 hz1 .i64 .i64 (l.length + 5) (l.length + 5) (l.length + 5) rfl rfl (by omega) (by omega) ?c1 ?c2 (Nat.le_refl _) ?_)
  case c1 => rw [hz2]; omega
  case c2 => unfold maxLen; omega
  intro w1 hown hgrow
  have hrow : OwnsB 5 w1 w.heap.size (some ⟨w.heap.size, 0, none⟩) (l.length + 5) (lentTo l 0) := by
    refine ⟨?_, ?_⟩
    · intro x hx
      have : lentTo l 0 = List.replicate (l.length + 5) 0 := by simp [lentTo]
      rw [this] at hx
      have := (List.mem_replicate.1 hx).2; omega
    · rw [lentTo_length l 0 (by omega)]
      have e : (madeCells #[Value.int .u8 0] (l.length + 5)).toList = bytes (lentTo l 0) := by
        rw [toList_madeCells_one]
        simp [lentTo, bytes]
      rw [e] at hown
      exact hown
  have hbel : Below w.heap.size w w1 := (Below.refl _ _).grown hgrow (Nat.le_refl _) (fun g hg => by cases hg)
  clear hown hgrow
  go_wp2
  go_loopw [4] (fun i wr => ∃ k : Nat, k ≤ l.length + 5 ∧ i = .int .i64 k ∧ OwnsB 5 wr w.heap.size (some ⟨w.heap.size, 0, none⟩) (l.length + 5) (lentTo l k) ∧ Below w.heap.size w wr) (fun i _ => l.length + 5 - (RowKit.intOf i).toNat)
  case atStart => exact ⟨0, by omega, rfl, hrow, hbel⟩
  case round =>
    clear hrow hbel
    obtain ⟨k, hk, rfl, hown, hbel⟩ := hrel
    by_cases hlt : k < l.length + 5
    · have hkl : k < (lentTo l k).length := by rw [lentTo_length l k hk]; exact hlt
      obtain ⟨g, hg, _, _, hcg, hfg⟩ := hown.at_ hkl
      obtain rfl : w.heap.size = g := by injection hg with hg; injection hg
      clear hg
      by_cases hin : k < l.length
      · have h1 := (h.below (hbel.mono hB))
        obtain ⟨b, off, rfl, hb, hc⟩ := h1.cells k hin
        have hck := hc k hin
        clear hc
        have hs1 := hown.set_ k 165 (by omega)
        have hs2 := hs1.set_ k l[k] (h.small _ (List.getElem_mem hin))
        rw [List.set_set, lentTo_set l k hlt _ (lent_item l k hin)] at hs2
        have hb2 : Below w.heap.size w ((wr.setCell ⟨w.heap.size, k, none⟩ (.int .u8 (165 : Nat))).setCell ⟨w.heap.size, k, none⟩ (.int .u8 (l[k] : Nat))) := (hbel.setCell (Nat.le_refl _) _).setCell (Nat.le_refl _) _
        have HS := hid (And.intro hs2 hb2)
        clear hs1 hs2 hb2 hown hbel
        go_wp2
        go_roundw
        case rel => exact ⟨k + 1, by omega, by go_num, HS.out.1, HS.out.2⟩
        case measure => simp [RowKit.intOf]; omega
      · have hs1 := hown.set_ k 165 (by omega)
        rw [lentTo_set l k hlt _ (lent_mark l k (by omega) hlt)] at hs1
        have hb1 : Below w.heap.size w (wr.setCell ⟨w.heap.size, k, none⟩ (.int .u8 (165 : Nat))) := hbel.setCell (Nat.le_refl _) _
        have HS := hid (And.intro hs1 hb1)
        clear hs1 hb1 hown hbel
        go_wp2
        go_roundw
        case rel => exact ⟨k + 1, by omega, by go_num, HS.out.1, HS.out.2⟩
        case measure => simp [RowKit.intOf]; omega
    · obtain rfl : k = l.length + 5 := by omega
      rw [lentTo_end] at hown
      go_wp2
      go_ret
      exact ⟨w.heap.size, l.length + 5, rfl, hown, hbel⟩
theorem take_lent (l : List Nat) : (lent l).take l.length = l := by
  unfold lent; rw [List.take_left']; rfl
theorem lent_get (l : List Nat) (k : Nat) (h1 : l.length ≤ k) (h2 : k < (lent l).length) : (lent l)[k] = 165 := by
  have := lent_mark l k h1 (by rw [lent_length] at h2; exact h2)
  rw [List.getElem?_eq_getElem h2] at this
  injection this

set_option maxHeartbeats 400000 in
theorem kept_any (B B' g : Nat) (A' : Option Addr) (c c' : Nat) (l : List Nat) (hl : l.length ≤ 140737488355328) (hcap : l.length + 5 ≤ c) (w : World) (h : IsBytes w B (some ⟨g, 0, none⟩) (lent l)) (h' : IsBytes w B' A' l) :
    Calls Tryd.prog 24 #[.slice (some ⟨g, 0, none⟩) (l.length + 5) c, .slice A' l.length c'] w fun e w' => e = .returned (.bool true) ∧ ∃ n, w' = w.drewN n := by
  have hb : ((l.length : Int) + 5 != (l.length : Int) + 5) = false := by simp
  have h0 : IsBytes w B (some ⟨g, 0, none⟩) l := by have := h.take l.length; rw [take_lent] at this; exact this
  go_enter Tryd.func24, Tryd.ntmps24
  go_wp2_with fail
  refine (same_any B B' _ _ _ _ l l (by unfold maxLen; omega) (by unfold maxLen; omega) _ h0 h').mono ?_
  rintro e w' ⟨rfl, n, rfl⟩
  have hd : (!decide (l = l)) = false := by simp
  go_wp2
  go_loopw [5] (fun i wr => ∃ k n : Nat, l.length ≤ k ∧ k ≤ l.length + 5 ∧ i = .int .i64 k ∧ wr = w.drewN n) (fun i _ => l.length + 5 - (RowKit.intOf i).toNat)
  case atStart => exact ⟨l.length, n, by omega, by omega, rfl, rfl⟩
  case round =>
    obtain ⟨k, n, hk1, hk, rfl, rfl⟩ := hrel
    by_cases hlt : k < l.length + 5
    · have hkl : k < (lent l).length := by rw [lent_length]; exact hlt
      obtain ⟨b, off, hg, _, hc⟩ := h.cells k hkl
      obtain ⟨rfl, rfl⟩ : g = b ∧ 0 = off := by injection hg with hg; injection hg with h1 h2; exact ⟨h1, h2⟩
      have hck := hc k hkl
      rw [lent_get l k hk1 hkl, Nat.zero_add] at hck
      clear hc hg
      go_wp2
      go_roundw
      case rel => exact ⟨k + 1, _, by omega, by omega, by go_num, rfl⟩
      case measure => simp [RowKit.intOf]; omega
    · obtain rfl : k = l.length + 5 := by omega
      go_wp2
      go_ret
      exact ⟨rfl, _, rfl⟩
end Go.Proofs.YtpigekbfngalbaaDoor
namespace Go.Proofs.YtpigekbfngalbaaDoor
open Go.RowKit

set_option maxHeartbeats 400000 in
theorem packBlob_any (B : Nat) (A : Option Addr) (c : Nat) (l : List Nat) (B' : Nat) (A' : Option Addr) (c' : Nat) (m : List Nat) (hl : l.length + m.length ≤ 140737488354000) (w : World) (h : IsBytes w B A l) (hB : B ≤ w.heap.size) (hn : A = none → c = 0)
    (h' : IsBytes w B' A' m) (hB' : B' ≤ w.heap.size) (hn' : A' = none → c' = 0) :
    Calls Tryd.prog 85 #[.slice A l.length c, .slice A' m.length c'] w fun e w' => ∃ A2 c2, e = .returned (.slice A2 (l.length + 8 + m.length) c2) ∧ OwnsB 5 w' w.heap.size A2 c2 (l ++ (Pk.enc m.length ++ m)) ∧ Below w.heap.size w w' := by
  obtain ⟨i0, hi, hz0, hz1, hz2⟩ := info_parts info_u8
  have hf := fun w' => fresh_any B A c l (8 + m.length) (by omega) w'
  rw [show (((8 + m.length : Nat) : Int)) = 8 + (m.length : Int) from by omega] at hf
  have HF := hid hf
  clear hf
  go_enter Tryd.func85, Tryd.ntmps85
  go_wp2_with fail
  refine (HF.out _ h hB hn).mono ?_
  rintro e w1 ⟨A1, c1, rfl, hown, hbel⟩
  go_wp2_with fail
  refine (put_any w.heap.size A1 c1 l (m.length : Int) (by unfold InInt; omega) (by omega) _ hown hbel.size).mono ?_
  rintro e w2 ⟨A3, c3, rfl, hown2, hbel2⟩
  have hb2 : Below w.heap.size w w2 := hbel.trans hbel2
  have hs : IsBytes w2 w.heap.size A' m := (h'.more hB').below hb2
  have hlen : (l ++ Pk.enc m.length).length = l.length + 8 := by rw [List.length_append, Pk.enc_length]
  have HL := hid hlen
  clear hbel hbel2 hown hlen
  go_wp2_with (at_builtin; refine wpList_append_bytesN rfl _ _ 23 rfl w.heap.size 5 i0 Tryd.underlying23 hi hz0 hz1 hz2 A3 c3 (l ++ Pk.enc m.length) (l.length + 8) HL.out rfl hown2 w.heap.size A' c' m m.length rfl rfl hn' hs (l ++ (Pk.enc m.length ++ m)) (List.append_assoc _ _ _) (by omega) hb2.size ?_)
  intro A4 c4 w3 hown3 hgrow
  have hb3 : Below w.heap.size w w3 := hb2.trans hgrow
  clear hgrow hb2 hs hown2
  go_wp2
  go_ret
  exact ⟨A4, c4, rfl, hown3, hb3⟩
end Go.Proofs.YtpigekbfngalbaaDoor
namespace Go.Proofs.YtpigekbfngalbaaDoor.Ms
open Go.RowKit
set_option maxRecDepth 100000
attribute [local go_sem ↓] loadAt_msg

/-- only rows of bytes from the block base on are turned, and new blocks made -/
structure Thru (base : Nat) (w w' : World) : Prop where
  bel : Below base w w'
  oth : ∀ k, k < w.heap.size → (∀ cs fr, w.heap[k]? ≠ some (.cells cs 5 fr)) → w'.heap[k]? = w.heap[k]?
namespace Thru
variable {base : Nat} {a b c : World}
theorem size (h : Thru base a b) : a.heap.size ≤ b.heap.size := h.bel.size
theorem trans (h : Thru base a b) (h' : Thru base b c) : Thru base a c := ⟨h.bel.trans h'.bel, fun k hk hn => by
  have e := h.oth k hk hn
  exact (h'.oth k (Nat.lt_of_lt_of_le hk h.size) (fun cs fr => by rw [e]; exact hn cs fr)).trans e⟩
theorem new (h : Below a.heap.size a b) (hB : base ≤ a.heap.size) : Thru base a b := ⟨h.mono hB, fun k hk _ => h.block k hk⟩
theorem own {A : Option Addr} {cp : Nat} {l : List Nat} (h : OwnsB 5 a base A cp l) (hB : base ≤ a.heap.size) (hg : a.grownBy b (blk A)) : Thru base a b :=
  ⟨below_grown hg hB (fun k hk => (h.blkLt k hk).1), fun k hk hn => hg.block k hk (fun e => by
    rcases h.row.2 with ⟨h0, _⟩ | ⟨g', cap, cur, hv, _, hh, _⟩
    · injection h0 with h0; rw [h0] at e; cases e
    · have hA : A = some ⟨g', 0, none⟩ := by injection hv
      rw [hA] at e
      obtain rfl : k = g' := by injection e
      exact hn _ _ hh)⟩
theorem keep {k : Nat} {o : Obj} (h : Thru base a b) (ho : a.heap[k]? = some o) (hn : ∀ cs fr, o ≠ .cells cs 5 fr) : b.heap[k]? = some o :=
  (h.oth k (row_lt ho) (fun cs fr e => by rw [ho] at e; exact hn cs fr (Option.some.inj e))).trans ho
end Thru
/-- append of bytes, the lengths said apart; nothing else that was there is turned -/
theorem wpList_append_bytesG {P : Program} {w : World} {ops : Array Oper} {rest : List Oper} {o : Oper} {a : Act} {Q : Exit → Act → World → Prop} (hgd : o.guard = none) (s x : Operand) (t : TypeId)
    (ho : o.op = .call { callee := .builtin .append, args := #[s, x], argTypes := #[t, t] })
    (base : Nat) (e : TypeId) (i : TypeInfo) (ht : P.underlying t = some (.slice e)) (hi : P.info? e = some i) (hz : i.zero = some (.int .u8 0)) (hsize : i.size = 1) (hby : i.bytes = 1)
    (A : Option Addr) (c : Nat) (l : List Nat) (n : Nat) (hln : l.length = n) (hs : a.eval s = .slice A n c) (hown : OwnsB e w base A c l)
    (B : Nat) (A' : Option Addr) (c' : Nat) (m : List Nat) (k : Nat) (hmk : m.length = k) (hx : a.eval x = .slice A' k c') (hnil : A' = none → c' = 0) (hr : IsBytes w B A' m)
    (L : List Nat) (hL : l ++ m = L) (hbytes : n + k ≤ 140737488355328) (hbase : base ≤ w.heap.size)
    (h : ∀ A2 c2 w', OwnsB e w' base A2 c2 L → w.grownBy w' (blk A) → wpList P ops Q rest (a.put o.dst (.slice A2 (n + k) c2)) w') : wpList P ops Q (o :: rest) a w := by
  subst hln
  subst hmk
  subst hL
  exact wpList_append_bytes hgd s x t ho base e i ht hi hz hsize hby A c l hs hown B A' c' m hx hnil hr hbytes hbase fun A2 c2 w' h1 h2 => h A2 c2 w' h1 (by rw [← ownBlock_slice A l.length c]; exact h2)
set_option maxHeartbeats 400000 in
theorem putInt_any (base : Nat) (A : Option Addr) (c : Nat) (l : List Nat) (n : Nat) (hn : l.length = n) (v : Int) (hv : InInt v) (hl : n ≤ 140737488300000) (w : World) (h : OwnsB 5 w base A c l) (hB : base ≤ w.heap.size) :
    Calls Tryd.prog 64 #[.slice A n c, .int .i64 v] w fun e w' => ∃ A' c', e = .returned (.slice A' (n + 8) c') ∧ OwnsB 5 w' base A' c' (l ++ Pk.enc v) ∧ Thru base w w' := by
  obtain ⟨i0, hi, hz0, hz1, hz2⟩ := info_parts info_u8
  have HP := hid (packInt_any 0 none 0 [] v hv (by simp) w IsBytes.nil (Nat.zero_le _) (fun _ => rfl))
  go_enter Tryd.func64, Tryd.ntmps64
  go_wp2_with fail
  refine HP.out.mono ?_
  rintro e w1 ⟨A1, c1, rfl, ho, hb⟩
  have ho1 := h.below hb
  have hb1 : Below base w w1 := hb.mono hB
  rw [List.nil_append] at ho
  rw [List.length_nil, Nat.zero_add]
  have hr := ho.reads
  have hn1 := ho.none_
  have hb0 := hb
  clear HP hb h
  go_wp2_with (at_builtin; refine wpList_append_bytesG rfl _ _ 23 rfl base 5 i0 Tryd.underlying23 hi hz0 hz1 hz2 A c l n hn rfl ho1 w1.heap.size A1 c1 (Pk.enc v) 8 rfl rfl hn1 hr _ rfl (by omega) (Nat.le_trans hB hb1.size) ?_)
  intro A2 c2 w2 ho2 hg2
  have hT := hid ((Thru.new hb0 hB).trans (Thru.own ho1 (Nat.le_trans hB hb1.size) hg2))
  clear ho1 hr hb1 hg2 ho hb0
  go_wp2
  go_ret
  exact ⟨A2, c2, rfl, ho2, hT.out⟩
set_option maxHeartbeats 400000 in
theorem putBlob_any (base : Nat) (A : Option Addr) (c : Nat) (l : List Nat) (n : Nat) (hn : l.length = n) (B' : Nat) (A' : Option Addr) (c' : Nat) (p : List Nat) (k : Nat) (hk : p.length = k) (hl : n ≤ 70000000000000) (hl' : k ≤ 70000000000000) (w : World) (h : OwnsB 5 w base A c l) (hB : base ≤ w.heap.size) (h' : IsBytes w B' A' p) (hB' : B' ≤ w.heap.size) (hn' : A' = none → c' = 0) :
    Calls Tryd.prog 65 #[.slice A n c, .slice A' k c'] w fun e w' => ∃ A2 c2, e = .returned (.slice A2 (n + (8 + k)) c2) ∧ OwnsB 5 w' base A2 c2 (l ++ (Pk.enc k ++ p)) ∧ Thru base w w' := by
  subst hk
  obtain ⟨i0, hi, hz0, hz1, hz2⟩ := info_parts info_u8
  have HP := hid (packBlob_any 0 none 0 [] B' A' c' p (by simp; omega) w IsBytes.nil (Nat.zero_le _) (fun _ => rfl) h' hB' hn')
  go_enter Tryd.func65, Tryd.ntmps65
  go_wp2_with fail
  refine HP.out.mono ?_
  rintro e w1 ⟨A1, c1, rfl, ho, hb⟩
  have ho1 := h.below hb
  have hb1 : Below base w w1 := hb.mono hB
  rw [List.nil_append] at ho
  rw [List.length_nil, Nat.zero_add]
  have hr := ho.reads
  have hn1 := ho.none_
  have hb0 := hb
  clear HP hb h
  go_wp2_with (at_builtin; refine wpList_append_bytesG rfl _ _ 23 rfl base 5 i0 Tryd.underlying23 hi hz0 hz1 hz2 A c l n hn rfl ho1 w1.heap.size A1 c1 (Pk.enc p.length ++ p) (8 + p.length) (by rw [List.length_append, Pk.enc_length]) rfl hn1 hr _ rfl (by omega) (Nat.le_trans hB hb1.size) ?_)
  intro A2 c2 w2 ho2 hg2
  have hT := hid ((Thru.new hb0 hB).trans (Thru.own ho1 (Nat.le_trans hB hb1.size) hg2))
  clear ho1 hr hb1 hg2 ho hb0
  go_wp2
  go_ret
  exact ⟨A2, c2, rfl, ho2, hT.out⟩
theorem encE_length (e : Rl.En) : (encE e).length = 24 + e.d.length := by unfold encE; simp [Pk.enc_length]; omega
theorem encEs_length (L : List Rl.En) : (L.flatMap encE).length = 24 * L.length + weigh L := by
  induction L with
  | nil => rfl
  | cons e L ih =>
    rw [List.flatMap_cons, List.length_append, ih, encE_length]
    unfold weigh
    rw [List.map_cons, List.sum_cons, List.length_cons]; omega
/-- how many bytes a field has -/
def M.len (m : M) (r : Nat) : Nat := if r = 111 then 8 else if r = 101 then 8 + (24 * m.es.length + weigh m.es) else if r = 100 then 8 + m.d.length else 8
theorem encF_length (m : M) (r : Nat) : (m.encF r).length = m.len r := by
  unfold M.encF M.len
  split
  · rw [Pk.enc_length]
  · split
    · rw [List.length_append, Pk.enc_length, encEs_length]
    · split
      · rw [List.length_append, Pk.enc_length]
      · rw [Pk.enc_length]
theorem len_le (m : M) (r : Nat) (hs : Small m) : m.len r ≤ 1010000000 := by
  have h1 := hs.es
  have h2 := hs.wt
  have h3 := hs.d
  unfold M.len
  split
  · omega
  · split
    · omega
    · split <;> omega
set_option maxHeartbeats 1600000 in
theorem putNum_any (base : Nat) (A0 : Option Addr) (c0 : Nat) (l : List Nat) (n : Nat) (hn : l.length = n) (hl : n ≤ 100000000000) (m : M) (A : Option Addr) (c : Nat) (A' : Option Addr) (c' : Nat) (r : Nat) (hr : r ∈ nums) (w : World) (h0 : OwnsB 5 w base A0 c0 l) (hB : base ≤ w.heap.size) (hv : InInt (m.num r)) :
    Calls Tryd.prog 43 #[.slice A0 n c0, .agg #[.int .i64 m.K, .int .i64 m.F, .int .i64 m.T, .int .i64 m.g, .int .i64 m.t, .int .i64 m.i, .int .i64 m.p, .int .i64 m.c, .int .i64 m.r, .int .i64 m.x, .int .i64 m.a, .int .i64 m.b, .int .i64 m.v, .int .i64 m.s, .bool m.ok, .slice A m.es.length c, .slice A' m.d.length c'], .int .i32 (r : Int)] w fun e w' => ∃ A2 c2, e = .returned (.slice A2 (n + m.len r) c2) ∧ OwnsB 5 w' base A2 c2 (l ++ m.encF r) ∧ Thru base w w' := by
  have hlt : r < 128 := by
    simp only [nums, List.mem_cons, List.not_mem_nil, or_false] at hr
    omega
  have h111 : (r : Int) ≠ 111 := by
    simp only [nums, List.mem_cons, List.not_mem_nil, or_false] at hr
    omega
  have h101 : (r : Int) ≠ 101 := by
    simp only [nums, List.mem_cons, List.not_mem_nil, or_false] at hr
    omega
  have h100 : (r : Int) ≠ 100 := by
    simp only [nums, List.mem_cons, List.not_mem_nil, or_false] at hr
    omega
  have HE : Hid (m.encF r = Pk.enc (m.num r) ∧ m.len r = 8) := by
    refine ⟨?_, ?_⟩
    · unfold M.encF; rw [if_neg (by omega), if_neg (by omega), if_neg (by omega)]
    · unfold M.len; rw [if_neg (by omega), if_neg (by omega), if_neg (by omega)]
  have hp : ptr w.heap.size r = some ⟨w.heap.size, ix r, none⟩ := if_pos hr
  have hc : (w.alloc (.cells #[.int .i64 m.K, .int .i64 m.F, .int .i64 m.T, .int .i64 m.g, .int .i64 m.t, .int .i64 m.i, .int .i64 m.p, .int .i64 m.c, .int .i64 m.r, .int .i64 m.x, .int .i64 m.a, .int .i64 m.b, .int .i64 m.v, .int .i64 m.s, .bool m.ok, .slice A m.es.length c, .slice A' m.d.length c'] 25)).cell? ⟨w.heap.size, ix r, none⟩ = some (.int .i64 (m.num r)) := by
    rw [cell_of_row _ w.heap.size (ix r) _ _ (0, 0) (heap_alloc_new w _)]; exact num_cell m A c A' c' r hr
  have hN := number_any w.heap.size r hlt
  rw [hp] at hN
  have HN := hid hN
  have HB : Hid (Thru base w (w.alloc (.cells #[.int .i64 m.K, .int .i64 m.F, .int .i64 m.T, .int .i64 m.g, .int .i64 m.t, .int .i64 m.i, .int .i64 m.p, .int .i64 m.c, .int .i64 m.r, .int .i64 m.x, .int .i64 m.a, .int .i64 m.b, .int .i64 m.v, .int .i64 m.s, .bool m.ok, .slice A m.es.length c, .slice A' m.d.length c'] 25))) := Thru.new ((Below.refl _ w).alloc (Nat.le_refl _) _) hB
  have HP := hid (putInt_any base A0 c0 l n hn (m.num r) hv (by omega) (w.alloc (.cells #[.int .i64 m.K, .int .i64 m.F, .int .i64 m.T, .int .i64 m.g, .int .i64 m.t, .int .i64 m.i, .int .i64 m.p, .int .i64 m.c, .int .i64 m.r, .int .i64 m.x, .int .i64 m.a, .int .i64 m.b, .int .i64 m.v, .int .i64 m.s, .bool m.ok, .slice A m.es.length c, .slice A' m.d.length c'] 25)) (h0.alloc _) (Nat.le_trans hB HB.out.size))
  clear hN hp hr h0 hn hv hB
  go_enter Tryd.func43, Tryd.ntmps43
  go_wp2_with fail
  refine (HN.out _).mono ?_
  rintro e w1 ⟨rfl, rfl⟩
  go_wp2_with fail
  refine HP.out.mono ?_
  rintro e w1 ⟨A1, c1, rfl, ho, hb⟩
  have HO := hid ho
  have HB1 := hid (HB.out.trans hb)
  clear ho hb hc
  go_wp2_with fail
  go_ret
  rw [HE.out.1, HE.out.2]
  exact ⟨A1, c1, rfl, HO.out, HB1.out⟩
set_option maxHeartbeats 1600000 in
theorem putOk_any (base : Nat) (A0 : Option Addr) (c0 : Nat) (l : List Nat) (n : Nat) (hn : l.length = n) (hl : n ≤ 100000000000) (m : M) (A : Option Addr) (c : Nat) (A' : Option Addr) (c' : Nat) (w : World) (h0 : OwnsB 5 w base A0 c0 l) (hB : base ≤ w.heap.size) :
    Calls Tryd.prog 43 #[.slice A0 n c0, .agg #[.int .i64 m.K, .int .i64 m.F, .int .i64 m.T, .int .i64 m.g, .int .i64 m.t, .int .i64 m.i, .int .i64 m.p, .int .i64 m.c, .int .i64 m.r, .int .i64 m.x, .int .i64 m.a, .int .i64 m.b, .int .i64 m.v, .int .i64 m.s, .bool m.ok, .slice A m.es.length c, .slice A' m.d.length c'], .int .i32 ((111 : Nat) : Int)] w fun e w' => ∃ A2 c2, e = .returned (.slice A2 (n + m.len 111) c2) ∧ OwnsB 5 w' base A2 c2 (l ++ m.encF 111) ∧ Thru base w w' := by
  have HB : Hid (Thru base w (w.alloc (.cells #[.int .i64 m.K, .int .i64 m.F, .int .i64 m.T, .int .i64 m.g, .int .i64 m.t, .int .i64 m.i, .int .i64 m.p, .int .i64 m.c, .int .i64 m.r, .int .i64 m.x, .int .i64 m.a, .int .i64 m.b, .int .i64 m.v, .int .i64 m.s, .bool m.ok, .slice A m.es.length c, .slice A' m.d.length c'] 25))) := Thru.new ((Below.refl _ w).alloc (Nat.le_refl _) _) hB
  have HE : Hid (m.encF 111 = Pk.enc (if m.ok = true then 1 else 0) ∧ m.len 111 = 8) := ⟨rfl, rfl⟩
  have HP := fun v hv => putInt_any base A0 c0 l n hn v hv (by omega) (w.alloc (.cells #[.int .i64 m.K, .int .i64 m.F, .int .i64 m.T, .int .i64 m.g, .int .i64 m.t, .int .i64 m.i, .int .i64 m.p, .int .i64 m.c, .int .i64 m.r, .int .i64 m.x, .int .i64 m.a, .int .i64 m.b, .int .i64 m.v, .int .i64 m.s, .bool m.ok, .slice A m.es.length c, .slice A' m.d.length c'] 25)) (h0.alloc _) (Nat.le_trans hB HB.out.size)
  have HPP := hid (And.intro (HP 0 (by unfold InInt; omega)) (HP 1 (by unfold InInt; omega)))
  clear HP h0 hn hB
  rcases hok : m.ok with _ | _
  · have HO := hid hok
    go_enter Tryd.func43, Tryd.ntmps43
    rw [hok] at HPP HB
    go_wp2_with fail
    refine HPP.out.1.mono ?_
    rintro e w1 ⟨A1, c1, rfl, ho, hb⟩
    have HO1 := hid (And.intro ho (HB.out.trans hb))
    clear ho hb
    go_wp2_with fail
    go_ret
    rw [HE.out.1, HE.out.2, HO.out]
    exact ⟨A1, c1, rfl, HO1.out.1, HO1.out.2⟩
  · have HO := hid hok
    go_enter Tryd.func43, Tryd.ntmps43
    rw [hok] at HPP HB
    go_wp2_with fail
    refine HPP.out.2.mono ?_
    rintro e w1 ⟨A1, c1, rfl, ho, hb⟩
    have HO1 := hid (And.intro ho (HB.out.trans hb))
    clear ho hb
    go_wp2_with fail
    go_ret
    rw [HE.out.1, HE.out.2, HO.out]
    exact ⟨A1, c1, rfl, HO1.out.1, HO1.out.2⟩
set_option maxHeartbeats 1600000 in
theorem putData_any (base : Nat) (A0 : Option Addr) (c0 : Nat) (l : List Nat) (n : Nat) (hn : l.length = n) (hl : n ≤ 100000000000) (m : M) (A : Option Addr) (c : Nat) (A' : Option Addr) (c' : Nat) (w : World) (h0 : OwnsB 5 w base A0 c0 l) (hB : base ≤ w.heap.size) (hd : IsBytes w base A' m.d) (hdl : m.d.length ≤ 1000000000) (hdn : A' = none → c' = 0) :
    Calls Tryd.prog 43 #[.slice A0 n c0, .agg #[.int .i64 m.K, .int .i64 m.F, .int .i64 m.T, .int .i64 m.g, .int .i64 m.t, .int .i64 m.i, .int .i64 m.p, .int .i64 m.c, .int .i64 m.r, .int .i64 m.x, .int .i64 m.a, .int .i64 m.b, .int .i64 m.v, .int .i64 m.s, .bool m.ok, .slice A m.es.length c, .slice A' m.d.length c'], .int .i32 ((100 : Nat) : Int)] w fun e w' => ∃ A2 c2, e = .returned (.slice A2 (n + m.len 100) c2) ∧ OwnsB 5 w' base A2 c2 (l ++ m.encF 100) ∧ Thru base w w' := by
  have HB : Hid (Thru base w (w.alloc (.cells #[.int .i64 m.K, .int .i64 m.F, .int .i64 m.T, .int .i64 m.g, .int .i64 m.t, .int .i64 m.i, .int .i64 m.p, .int .i64 m.c, .int .i64 m.r, .int .i64 m.x, .int .i64 m.a, .int .i64 m.b, .int .i64 m.v, .int .i64 m.s, .bool m.ok, .slice A m.es.length c, .slice A' m.d.length c'] 25))) := Thru.new ((Below.refl _ w).alloc (Nat.le_refl _) _) hB
  have HE : Hid (m.encF 100 = Pk.enc m.d.length ++ m.d ∧ m.len 100 = 8 + m.d.length) := ⟨rfl, rfl⟩
  have HP := hid (putBlob_any base A0 c0 l n hn base A' c' m.d m.d.length rfl (by omega) (by omega) (w.alloc (.cells #[.int .i64 m.K, .int .i64 m.F, .int .i64 m.T, .int .i64 m.g, .int .i64 m.t, .int .i64 m.i, .int .i64 m.p, .int .i64 m.c, .int .i64 m.r, .int .i64 m.x, .int .i64 m.a, .int .i64 m.b, .int .i64 m.v, .int .i64 m.s, .bool m.ok, .slice A m.es.length c, .slice A' m.d.length c'] 25)) (h0.alloc _) (Nat.le_trans hB HB.out.size) (hd.below HB.out.bel) (Nat.le_trans hB HB.out.size) hdn)
  clear h0 hn hB hd hdn
  go_enter Tryd.func43, Tryd.ntmps43
  go_wp2_with fail
  refine HP.out.mono ?_
  rintro e w1 ⟨A1, c1, rfl, ho, hb⟩
  have HO1 := hid (And.intro ho (HB.out.trans hb))
  clear ho hb
  go_wp2_with fail
  go_ret
  rw [HE.out.1, HE.out.2]
  exact ⟨A1, c1, rfl, HO1.out.1, HO1.out.2⟩
end Go.Proofs.YtpigekbfngalbaaDoor.Ms
namespace Go.Proofs.YtpigekbfngalbaaDoor.Ms
open Go.RowKit
set_option maxRecDepth 100000
attribute [local go_sem ↓] loadAt_msg

/-- the entries up to a place, behind what was there -/
def esTo (l : List Nat) (m : M) (j : Nat) : List Nat := l ++ (Pk.enc m.es.length ++ (m.es.take j).flatMap encE)
theorem esTo_length (l : List Nat) (m : M) (j : Nat) (n : Nat) (hn : l.length = n) (h : j ≤ m.es.length) : (esTo l m j).length = n + (8 + (24 * j + weigh (m.es.take j))) := by
  unfold esTo
  rw [List.length_append, List.length_append, Pk.enc_length, encEs_length, List.length_take, hn, Nat.min_eq_left h]
theorem esTo_next (l : List Nat) (m : M) (j : Nat) (h : j < m.es.length) : esTo l m j ++ Pk.enc m.es[j].t ++ Pk.enc m.es[j].k ++ (Pk.enc m.es[j].d.length ++ m.es[j].d) = esTo l m (j + 1) := by
  unfold esTo
  rw [List.take_succ_eq_append_getElem h, List.flatMap_append]
  simp [encE]
/-- bytes that are being put, beside an entry's box at block g -/
structure Stp (w0 : World) (base g : Nat) (cs : Array Value) (W : World) (A : Option Addr) (c : Nat) (l : List Nat) (q : Nat) : Prop where
  own : OwnsB 5 W base A c l
  len : l.length = q
  bel : Thru base w0 W
  le : base ≤ W.heap.size
  row : W.heap[g]? = some (.cells cs 61 (0, 0))
theorem Stp.step {w0 W w' : World} {base g : Nat} {cs : Array Value} {A A' : Option Addr} {c c' : Nat} {l l' : List Nat} {q q' : Nat} (h : Stp w0 base g cs W A c l q) (ho : OwnsB 5 w' base A' c' l') (hl : l'.length = q') (hb : Thru base W w') : Stp w0 base g cs w' A' c' l' q' :=
  ⟨ho, hl, h.bel.trans hb, Nat.le_trans h.le hb.size, hb.keep h.row (fun cs fr e => by injection e with _ e _; exact absurd e (by decide))⟩
theorem Stp.int {w0 W : World} {base g : Nat} {cs : Array Value} {A : Option Addr} {c : Nat} {l : List Nat} {q : Nat} (h : Stp w0 base g cs W A c l q) (v : Int) (hv : InInt v) (hq : q ≤ 140737488300000) :
    Calls Tryd.prog 64 #[.slice A q c, .int .i64 v] W fun e w' => ∃ A' c', e = .returned (.slice A' (q + 8) c') ∧ Stp w0 base g cs w' A' c' (l ++ Pk.enc v) (q + 8) := by
  refine (putInt_any base A c l q h.len v hv hq W h.own h.le).mono ?_
  rintro e w' ⟨A', c', he, ho, hb⟩
  exact ⟨A', c', he, h.step ho (by rw [List.length_append, h.len, Pk.enc_length]) hb⟩
theorem Stp.blob {w0 W : World} {base g : Nat} {cs : Array Value} {A A' : Option Addr} {c c' : Nat} {l p : List Nat} {q : Nat} (h : Stp w0 base g cs W A c l q) (hq : q ≤ 70000000000000) (hp : IsBytes w0 base A' p) (hpl : p.length ≤ 1000000000) (hn : A' = none → c' = 0) :
    Calls Tryd.prog 65 #[.slice A q c, .slice A' p.length c'] W fun e w' => ∃ A2 c2, e = .returned (.slice A2 (q + (8 + p.length)) c2) ∧ Stp w0 base g cs w' A2 c2 (l ++ (Pk.enc p.length ++ p)) (q + (8 + p.length)) := by
  refine (putBlob_any base A c l q h.len base A' c' p p.length rfl (by omega) (by omega) W h.own h.le (hp.below h.bel.bel) h.le hn).mono ?_
  rintro e w' ⟨A2, c2, he, ho, hb⟩
  exact ⟨A2, c2, he, h.step ho (by rw [List.length_append, h.len, List.length_append, Pk.enc_length]) hb⟩
/-- an entry's three cells -/
def EnC (w : World) (g : Nat) (x : Rl.En) (A : Option Addr) (c : Nat) : Prop := w.cell? ⟨g, 0, none⟩ = some (.int .i64 x.t) ∧ w.cell? ⟨g, 1, none⟩ = some (.int .i64 x.k) ∧ w.cell? ⟨g, 2, none⟩ = some (.slice A x.d.length c)
theorem Stp.cells {w0 W : World} {base g : Nat} {A A4 : Option Addr} {c c4 : Nat} {l : List Nat} {q : Nat} {x : Rl.En} (h : Stp w0 base g #[.int .i64 x.t, .int .i64 x.k, .slice A4 x.d.length c4] W A c l q) : EnC W g x A4 c4 :=
  ⟨cell_of_row _ g 0 _ _ (0, 0) h.row, cell_of_row _ g 1 _ _ (0, 0) h.row, cell_of_row _ g 2 _ _ (0, 0) h.row⟩
set_option maxHeartbeats 3200000 in
theorem putEs_any (base : Nat) (A0 : Option Addr) (c0 : Nat) (l : List Nat) (n : Nat) (hn : l.length = n) (hl : n ≤ 100000000000) (m : M) (A : Option Addr) (c : Nat) (A' : Option Addr) (c' : Nat) (w : World) (h0 : OwnsB 5 w base A0 c0 l) (hB : base ≤ w.heap.size) (he : IsEnts w base A m.es) (hs : Small m) :
    Calls Tryd.prog 43 #[.slice A0 n c0, .agg #[.int .i64 m.K, .int .i64 m.F, .int .i64 m.T, .int .i64 m.g, .int .i64 m.t, .int .i64 m.i, .int .i64 m.p, .int .i64 m.c, .int .i64 m.r, .int .i64 m.x, .int .i64 m.a, .int .i64 m.b, .int .i64 m.v, .int .i64 m.s, .bool m.ok, .slice A m.es.length c, .slice A' m.d.length c'], .int .i32 ((101 : Nat) : Int)] w fun e w' => ∃ A2 c2, e = .returned (.slice A2 (n + m.len 101) c2) ∧ OwnsB 5 w' base A2 c2 (l ++ m.encF 101) ∧ Thru base w w' := by
  have HB : Hid (Thru base w (w.alloc (.cells #[.int .i64 m.K, .int .i64 m.F, .int .i64 m.T, .int .i64 m.g, .int .i64 m.t, .int .i64 m.i, .int .i64 m.p, .int .i64 m.c, .int .i64 m.r, .int .i64 m.x, .int .i64 m.a, .int .i64 m.b, .int .i64 m.v, .int .i64 m.s, .bool m.ok, .slice A m.es.length c, .slice A' m.d.length c'] 25))) := Thru.new ((Below.refl _ w).alloc (Nat.le_refl _) _) hB
  have HE : Hid (l ++ m.encF 101 = esTo l m m.es.length ∧ m.len 101 = 8 + (24 * m.es.length + weigh m.es)) := ⟨by unfold esTo; rw [List.take_length]; rfl, rfl⟩
  have hes := hs.es
  have HP := hid (putInt_any base A0 c0 l n hn (m.es.length : Int) (by unfold InInt; omega) (by omega) (w.alloc (.cells #[.int .i64 m.K, .int .i64 m.F, .int .i64 m.T, .int .i64 m.g, .int .i64 m.t, .int .i64 m.i, .int .i64 m.p, .int .i64 m.c, .int .i64 m.r, .int .i64 m.x, .int .i64 m.a, .int .i64 m.b, .int .i64 m.v, .int .i64 m.s, .bool m.ok, .slice A m.es.length c, .slice A' m.d.length c'] 25)) (h0.alloc _) (Nat.le_trans hB HB.out.size))
  have HBx : Hid (Bx (w.alloc (.cells #[.int .i64 m.K, .int .i64 m.F, .int .i64 m.T, .int .i64 m.g, .int .i64 m.t, .int .i64 m.i, .int .i64 m.p, .int .i64 m.c, .int .i64 m.r, .int .i64 m.x, .int .i64 m.a, .int .i64 m.b, .int .i64 m.v, .int .i64 m.s, .bool m.ok, .slice A m.es.length c, .slice A' m.d.length c'] 25)) w.heap.size m A c A' c') := ⟨heap_alloc_new w _⟩
  have HI := hid (And.intro he hs)
  have HL := hid hn
  clear h0 he hs hn
  go_enter Tryd.func43, Tryd.ntmps43
  go_wp2_with fail
  refine HP.out.mono ?_
  rintro e w1 ⟨A1, c1, rfl, ho, hb⟩
  have HO1 := hid (And.intro ho (HB.out.trans hb))
  have HX1 : Hid (Bx w1 w.heap.size m A c A' c') := ⟨hb.keep HBx.out.row (fun cs fr e => by injection e with _ e _; exact absurd e (by decide))⟩
  have hc15 := HX1.out.c15
  clear ho hb
  go_wp2_with fail
  go_loopw [0, 8, 28] (fun b _ i wr => ∃ j : Nat, ∃ A3 : Option Addr, ∃ c3 : Nat, ∃ q : Nat, j ≤ m.es.length ∧ i = .int .i64 (j : Int) ∧ b = .slice A3 q c3 ∧ Hid (q = n + (8 + (24 * j + weigh (m.es.take j)))) ∧ Hid (OwnsB 5 wr base A3 c3 (esTo l m j)) ∧ Hid (Thru base w wr)) (fun _ _ i _ => m.es.length - (RowKit.intOf i).toNat)
  case atStart => exact ⟨0, A1, c1, n + 8, Nat.zero_le _, rfl, rfl, hid (by simp [weigh]), hid (by simpa [esTo] using HO1.out.1), hid HO1.out.2⟩
  case round =>
    clear hc15 HP
    obtain ⟨j, A3, c3, q, hj, rfl, rfl, HQ, HO, HBr⟩ := hrel
    by_cases hlt : j < m.es.length
    · obtain ⟨b, off, hA, hbb, hcs⟩ := HI.out.1.cells j hlt
      obtain ⟨A4, c4, f0, f1, f2, hby, _, hn4⟩ := hcs j hlt
      have e0 := (HBr.out.bel.cell hbb).trans f0
      have e1 := (HBr.out.bel.cell hbb).trans f1
      have e2 := (HBr.out.bel.cell hbb).trans f2
      clear f0 f1 f2
      have hnum := HI.out.1.num _ (List.getElem_mem hlt)
      subst hA
      have HNU := hid hnum
      have hdl := Nat.le_trans (weigh_mem (List.getElem_mem hlt)) HI.out.2.wt
      have hwl := Nat.le_trans (weigh_le m.es j) HI.out.2.wt
      have hq : q ≤ 100000000000 + 1000000000 * 10 := by have := HQ.out; omega
      have HWT := hid (weigh_take m.es j hlt)
      have HEX := hid (esTo_next l m j hlt)
      have HLN : Hid ((esTo l m j).length = q) := hid (by rw [HQ.out]; exact esTo_length l m j n HL.out (by omega))
      generalize m.es[j] = x at e0 e1 e2 hby HNU hdl HWT HEX
      have HBY := hid (And.intro hby hn4)
      clear hcs hby hn4 hnum
      go_wp2_with fail
      have HZ : Hid (Stp w base wr.heap.size #[.int .i64 x.t, .int .i64 x.k, .slice A4 x.d.length c4] (wr.alloc (.cells #[.int .i64 x.t, .int .i64 x.k, .slice A4 x.d.length c4] 61)).drew A3 c3 (esTo l m j) q) :=
        ⟨(HO.out.alloc _).drew, HLN.out, (HBr.out.trans (Thru.new ((Below.refl _ wr).alloc (Nat.le_refl _) _).drew (Nat.le_trans hB HBr.out.size))), Nat.le_trans (Nat.le_trans hB HBr.out.size) (by show wr.heap.size ≤ (wr.alloc _).heap.size; simp), heap_alloc_new wr _⟩
      obtain ⟨hz0, hz1, hz2⟩ := HZ.out.cells
      clear HO HBr
      go_region_held3 (fun w' => w'.cell? ⟨wr.heap.size, 0, none⟩ = some (.int .i64 x.t) ∧ w'.cell? ⟨wr.heap.size, 1, none⟩ = some (.int .i64 x.k) ∧ w'.cell? ⟨wr.heap.size, 2, none⟩ = some (.slice A4 x.d.length c4))
        (first
          | exact H4.out.cells
          | exact H3.out.cells
          | exact H2.out.cells
          | exact ⟨hz0, hz1, hz2⟩
          | fail)
        (first
          | (go_at_call 65; refine (H3.out.blob (by omega) HBY.out.1 hdl HBY.out.2).mono ?_; rintro e w4 ⟨A7, c7, rfl, h4⟩; have H4 := hid h4; clear h4)
          | (go_at_call 64; refine (H2.out.int x.k HNU.out.2 (by omega)).mono ?_; rintro e w3 ⟨A6, c6, rfl, h3⟩; have H3 := hid h3; clear h3)
          | (go_at_call 64; refine (HZ.out.int x.t HNU.out.1 (by omega)).mono ?_; rintro e w2 ⟨A5, c5, rfl, h2⟩; have H2 := hid h2; clear h2))
      all_goals
        have HF : Hid (q + 8 + 8 + (8 + x.d.length) = n + (8 + (24 * (j + 1) + weigh (m.es.take (j + 1))))) := hid (by have := HQ.out; have := HWT.out; omega)
        have HOW : Hid (OwnsB 5 w4 base A7 c7 (esTo l m (j + 1))) := hid (by rw [← HEX.out]; exact H4.out.own)
        have HBE := hid H4.out.bel
        clear hz0 hz1 hz2 e0 e1 e2
        go_wp2_with fail
        go_roundw
        case rel => exact ⟨j + 1, A7, c7, _, by omega, by go_num, rfl, HF, HOW, HBE⟩
        case measure => simp [RowKit.intOf]; omega
    · obtain rfl : j = m.es.length := by omega
      have HF : Hid (q = n + m.len 101) := hid (by rw [HQ.out, HE.out.2, List.take_length])
      go_wp2_with fail
      go_ret
      rw [HE.out.1, ← HF.out]
      exact ⟨A3, c3, rfl, HO.out, HBr.out⟩
/-- any field -/
theorem putField_any (base : Nat) (A0 : Option Addr) (c0 : Nat) (l : List Nat) (n : Nat) (hn : l.length = n) (hl : n ≤ 100000000000) (m : M) (A : Option Addr) (c : Nat) (A' : Option Addr) (c' : Nat) (r : Nat) (hr : r ∈ nums ∨ r = 111 ∨ r = 101 ∨ r = 100) (w : World) (h0 : OwnsB 5 w base A0 c0 l) (hB : base ≤ w.heap.size) (h : Is w base m A c A' c') (hs : Small m) :
    Calls Tryd.prog 43 #[.slice A0 n c0, .agg #[.int .i64 m.K, .int .i64 m.F, .int .i64 m.T, .int .i64 m.g, .int .i64 m.t, .int .i64 m.i, .int .i64 m.p, .int .i64 m.c, .int .i64 m.r, .int .i64 m.x, .int .i64 m.a, .int .i64 m.b, .int .i64 m.v, .int .i64 m.s, .bool m.ok, .slice A m.es.length c, .slice A' m.d.length c'], .int .i32 (r : Int)] w fun e w' => ∃ A2 c2, e = .returned (.slice A2 (n + m.len r) c2) ∧ OwnsB 5 w' base A2 c2 (l ++ m.encF r) ∧ Thru base w w' := by
  rcases hr with hr | rfl | rfl | rfl
  · exact putNum_any base A0 c0 l n hn hl m A c A' c' r hr w h0 hB (h.num r hr)
  · exact putOk_any base A0 c0 l n hn hl m A c A' c' w h0 hB
  · exact putEs_any base A0 c0 l n hn hl m A c A' c' w h0 hB h.es hs
  · exact putData_any base A0 c0 l n hn hl m A c A' c' w h0 hB h.d hs.d h.dn
end Go.Proofs.YtpigekbfngalbaaDoor.Ms
namespace Go.Proofs.YtpigekbfngalbaaDoor
open Go.RowKit

theorem and_one (r : Nat) (h : r < 4294967296) : bits .and .u32 (r : Int) 1 = ((r % 2 : Nat) : Int) := by
  have := u32_and_nat r 1 h (by omega)
  rw [Nat.and_one_is_mod] at this
  exact this
theorem xor_poly (r : Nat) (h : r < 4294967296) : bits .xor .u32 ((r : Int) / 2) 2197175160 = ((r / 2 ^^^ 2197175160 : Nat) : Int) := by
  have := u32_xor_nat (r / 2) 2197175160 (by omega) (by omega)
  exact this

set_option maxHeartbeats 400000 in
theorem process_any (r c : Nat) (hr : r < 4294967296) (hc : c < 256) (w : World) :
    Calls Tryd.prog 98 #[.int .u32 r, .int .u8 c] w fun e w' => e = .returned (.int .u32 (Crc.byte r c : Nat)) ∧ w = w' := by
  have hx : bits .xor .u32 (r : Int) (c : Int) = ((r ^^^ c : Nat) : Int) := u32_xor_nat r c hr (by omega)
  have HX := hid hx
  clear hx
  go_enter Tryd.func98, Tryd.ntmps98
  go_wp2
  go_loop [0, 10] (fun x i => ∃ k y : Nat, k ≤ 8 ∧ y < 4294967296 ∧ i = .int .i64 k ∧ x = .int .u32 (y : Int) ∧ Hid (Crc.steps (8 - k) y = Crc.byte r c)) (fun _ i => 8 - (RowKit.intOf i).toNat)
  case atStart => exact ⟨0, r ^^^ c, by omega, Crc.xor_lt r c hr (by omega), rfl, by rw [HX.out], hid rfl⟩
  case round =>
    obtain ⟨k, y, hk, hy, rfl, rfl, hs⟩ := hrel
    by_cases hlt : k < 8
    · have ha := and_one y hy
      by_cases ho : y % 2 = 1
      · have hb : (bits .and .u32 (y : Int) 1 == 1) = true := by rw [ha, ho]; rfl
        have HO := hid ho
        clear ha ho
        go_wp2
        go_round
        case rel => exact ⟨k + 1, y / 2 ^^^ 2197175160, by omega, Crc.xor_lt _ _ (by omega) (by omega), by go_num, by rw [xor_poly y hy], by
          have e := hs.out
          rw [show 8 - k = (8 - (k + 1)) + 1 from by omega] at e
          simp only [Crc.steps] at e
          rw [show Crc.step y = y / 2 ^^^ 2197175160 from by unfold Crc.step; rw [if_pos HO.out]] at e
          exact hid e⟩
        case measure => simp [RowKit.intOf]; omega
      · have hb : (bits .and .u32 (y : Int) 1 == 1) = false := by rw [ha, show y % 2 = 0 by omega]; rfl
        have HO := hid ho
        clear ha ho
        go_wp2
        go_round
        case rel => exact ⟨k + 1, y / 2, by omega, by omega, by go_num, by go_num, by
          have e := hs.out
          rw [show 8 - k = (8 - (k + 1)) + 1 from by omega] at e
          simp only [Crc.steps] at e
          rw [show Crc.step y = y / 2 from by unfold Crc.step; rw [if_neg HO.out]] at e
          exact hid e⟩
        case measure => simp [RowKit.intOf]; omega
    · obtain rfl : k = 8 := by omega
      have e : y = Crc.byte r c := hs.out
      subst e
      go_wp2
      go_ret
      exact ⟨rfl, rfl⟩
theorem cpl_walk (r : Nat) (h : r < 4294967296) : bits .xor .u32 (IntKind.max .u32) (r : Int) = (Crc.cpl r : Int) := by
  have h1 : (4294967295 : Nat) < 4294967296 := by omega
  exact u32_xor_nat 4294967295 r h1 h

set_option maxHeartbeats 400000 in
theorem more_any (s : Nat) (hs : s < 4294967296) (B : Nat) (A : Option Addr) (c : Nat) (l : List Nat) (hm : l.length ≤ maxLen) (w : World) (hl : IsBytes w B A l) :
    Calls Tryd.prog 86 #[.int .u32 s, .slice A l.length c] w fun e w' => e = .returned (.int .u32 (Crc.more s l : Nat)) ∧ w = w' := by
  unfold maxLen at hm
  have hx := cpl_walk s hs
  have HX := hid hx
  have hc := Crc.cpl_lt s hs
  clear hx
  go_enter Tryd.func86, Tryd.ntmps86
  go_wp2
  go_loop [5, 12] (fun x i => ∃ k y : Nat, k ≤ l.length ∧ y < 4294967296 ∧ i = .int .i64 k ∧ x = .int .u32 (y : Int) ∧ Hid (Crc.feed y (l.drop k) = Crc.feed (Crc.cpl s) l)) (fun _ i => l.length - (RowKit.intOf i).toNat)
  case atStart => exact ⟨0, Crc.cpl s, by omega, hc, rfl, by rw [HX.out], hid rfl⟩
  case round =>
    obtain ⟨k, y, hk, hy, rfl, rfl, hs⟩ := hrel
    by_cases hlt : k < l.length
    · obtain ⟨b, off, rfl, hb, hcell⟩ := hl.cells k hlt
      have hck := hcell k hlt
      have h8 : l[k] < 256 := hl.small _ (List.getElem_mem hlt)
      clear hcell
      go_wp2_with (go_at_call 98; refine (process_any y l[k] hy h8 _).mono ?_; rintro e w' ⟨rfl, rfl⟩)
      go_round
      case rel => exact ⟨k + 1, Crc.byte y l[k], by omega, Crc.byte_lt _ _ hy h8, by go_num, rfl, by
        have e := hs.out
        rw [List.drop_eq_getElem_cons hlt] at e
        exact hid e⟩
      case measure => simp [RowKit.intOf]; omega
    · obtain rfl : k = l.length := by omega
      have e : y = Crc.feed (Crc.cpl s) l := by have e := hs.out; rw [List.drop_length] at e; exact e
      have hz := cpl_walk y hy
      have HZ := hid hz
      have HE := hid e
      clear hz e
      go_wp2
      go_ret
      exact ⟨by rw [HZ.out, HE.out]; rfl, rfl⟩
set_option maxHeartbeats 400000 in
theorem of_any (B : Nat) (A : Option Addr) (c : Nat) (l : List Nat) (hm : l.length ≤ maxLen) (w : World) (hl : IsBytes w B A l) :
    Calls Tryd.prog 87 #[.slice A l.length c] w fun e w' => e = .returned (.int .u32 (Crc.more 0 l : Nat)) ∧ w = w' := by
  go_enter Tryd.func87, Tryd.ntmps87
  go_wp2_with (go_at_call 86; refine (more_any 0 (by omega) B A c l hm _ hl).mono ?_; rintro e w' ⟨rfl, rfl⟩)
  go_ret
  exact ⟨rfl, rfl⟩

set_option maxHeartbeats 400000 in
theorem ref_more_any (s : Nat) (hs : s < 4294967296) (B : Nat) (A : Option Addr) (c : Nat) (l : List Nat) (hm : l.length ≤ maxLen) (w : World) (hl : IsBytes w B A l) :
    Calls Tryd.prog 69 #[.int .u32 s, .slice A l.length c] w fun e w' => e = .returned (.int .u32 (Crc.more s l : Nat)) ∧ w = w' := by
  unfold maxLen at hm
  have hx := cpl_walk s hs
  have HX := hid hx
  have hc := Crc.cpl_lt s hs
  clear hx
  go_enter Tryd.func69, Tryd.ntmps69
  go_wp2
  go_loop [5, 6] (fun x i => ∃ k y : Nat, k ≤ l.length ∧ y < 4294967296 ∧ i = .int .i64 k ∧ x = .int .u32 (y : Int) ∧ Hid (Crc.feed y (l.drop k) = Crc.feed (Crc.cpl s) l)) (fun _ i => l.length - (RowKit.intOf i).toNat)
  case atStart => exact ⟨0, Crc.cpl s, by omega, hc, rfl, by rw [HX.out], hid rfl⟩
  case round =>
    obtain ⟨k, y, hk, hy, rfl, rfl, hs⟩ := hrel
    by_cases hlt : k < l.length
    · obtain ⟨b, off, rfl, hb, hcell⟩ := hl.cells k hlt
      have hck := hcell k hlt
      have h8 : l[k] < 256 := hl.small _ (List.getElem_mem hlt)
      have h8y : bits .xor .u32 (y : Int) (l[k] : Nat) = ((y ^^^ l[k] : Nat) : Int) := u32_xor_nat y _ hy (by omega)
      have H8y := hid h8y
      clear hcell h8y
      go_wp2
      go_loop [5, 7] (fun x i => ∃ j z : Nat, j ≤ 8 ∧ z < 4294967296 ∧ i = .int .i64 j ∧ x = .int .u32 (z : Int) ∧ Hid (Crc.steps (8 - j) z = Crc.byte y l[k])) (fun _ i => 8 - (RowKit.intOf i).toNat)
      case atStart => exact ⟨0, y ^^^ l[k], by omega, Crc.xor_lt _ _ hy (by omega), rfl, by rw [H8y.out], hid rfl⟩
      case round =>
        obtain ⟨j, z, hj, hz, rfl, rfl, hst⟩ := hrel
        by_cases hj8 : j < 8
        · by_cases ho : z % 2 = 1
          · have hb : ((z : Int) % 2 == 1) = true := by rw [beq_iff_eq]; omega
            have HO := hid ho
            clear ho
            go_wp2
            go_round
            case rel => exact ⟨j + 1, z / 2 ^^^ 2197175160, by omega, Crc.xor_lt _ _ (by omega) (by omega), by go_num, by rw [xor_poly z hz], by
              have e := hst.out
              rw [show 8 - j = (8 - (j + 1)) + 1 from by omega] at e
              simp only [Crc.steps] at e
              rw [show Crc.step z = z / 2 ^^^ 2197175160 from by unfold Crc.step; rw [if_pos HO.out]] at e
              exact hid e⟩
            case measure => simp [RowKit.intOf]; omega
          · have hb : ((z : Int) % 2 == 1) = false := by rw [beq_eq_false_iff_ne]; omega
            have HO := hid ho
            clear ho
            go_wp2
            go_round
            case rel => exact ⟨j + 1, z / 2, by omega, by omega, by go_num, by go_num, by
              have e := hst.out
              rw [show 8 - j = (8 - (j + 1)) + 1 from by omega] at e
              simp only [Crc.steps] at e
              rw [show Crc.step z = z / 2 from by unfold Crc.step; rw [if_neg HO.out]] at e
              exact hid e⟩
            case measure => simp [RowKit.intOf]; omega
        · obtain rfl : j = 8 := by omega
          have e : z = Crc.byte y l[k] := hst.out
          subst e
          go_wp2
          go_round
          case rel => exact ⟨k + 1, Crc.byte y l[k], by omega, Crc.byte_lt _ _ hy h8, by go_num, rfl, by
            have e := hs.out
            rw [List.drop_eq_getElem_cons hlt] at e
            exact hid e⟩
          case measure => simp [RowKit.intOf]; omega
    · obtain rfl : k = l.length := by omega
      have e : y = Crc.feed (Crc.cpl s) l := by have e := hs.out; rw [List.drop_length] at e; exact e
      have hz := cpl_walk y hy
      have HZ := hid hz
      have HE := hid e
      clear hz e
      go_wp2
      go_ret
      exact ⟨by rw [HZ.out, HE.out]; rfl, rfl⟩
set_option maxHeartbeats 400000 in
theorem ref_of_any (B : Nat) (A : Option Addr) (c : Nat) (l : List Nat) (hm : l.length ≤ maxLen) (w : World) (hl : IsBytes w B A l) :
    Calls Tryd.prog 70 #[.slice A l.length c] w fun e w' => e = .returned (.int .u32 (Crc.more 0 l : Nat)) ∧ w = w' := by
  go_enter Tryd.func70, Tryd.ntmps70
  go_wp2_with (go_at_call 69; refine (ref_more_any 0 (by omega) B A c l hm _ hl).mono ?_; rintro e w' ⟨rfl, rfl⟩)
  go_ret
  exact ⟨rfl, rfl⟩
end Go.Proofs.YtpigekbfngalbaaDoor
namespace Go.Proofs.YtpigekbfngalbaaDoor.Frame
open Go.RowKit

theorem sum_any (B : Nat) (A : Option Addr) (c : Nat) (l : List Nat) (n : Nat) (hn : l.length = n) (A' : Option Addr) (c' : Nat) (m : List Nat) (k : Nat) (hk : m.length = k) (hl : n ≤ maxLen) (hm : k ≤ maxLen) (w : World) (h : IsBytes w B A l) (B' : Nat) (h' : IsBytes w B' A' m) :
    Calls Tryd.prog 67 #[.slice A n c, .slice A' k c'] w fun e w' => e = .returned (.int .u32 (Fr.sum l m : Nat)) ∧ w = w' := by
  subst hn
  subst hk
  have hs := Crc.more_lt 0 l (by omega) h.small
  go_enter Tryd.func67, Tryd.ntmps67
  go_wp2_with fail
  refine (of_any B A c l hl _ h).mono ?_
  rintro e w' ⟨rfl, rfl⟩
  go_wp2_with fail
  refine (more_any _ hs B' A' c' m hm _ h').mono ?_
  rintro e w' ⟨rfl, rfl⟩
  go_wp2_with fail
  go_ret
  exact ⟨rfl, rfl⟩

/-- four bytes that the text makes of a number, in a block of their own -/
theorem four_new (v : Nat) (hv : v < 4294967296) (w : World) :
    IsBytes (w.alloc (.cells #[.int .u8 ((v : Int) / 16777216), .int .u8 ((v : Int) / 65536 % 256), .int .u8 ((v : Int) / 256 % 256), .int .u8 ((v : Int) % 256)] 5)) (w.heap.size + 1) (some ⟨w.heap.size, 0, none⟩) (Fr.be4 v) := by
  have e : (bytes (Fr.be4 v)).toArray = #[.int .u8 ((v : Int) / 16777216), .int .u8 ((v : Int) / 65536 % 256), .int .u8 ((v : Int) / 256 % 256), .int .u8 ((v : Int) % 256)] := by
    have h1 : ((v / 16777216 % 256 : Nat) : Int) = (v : Int) / 16777216 := by omega
    simp [bytes, Fr.be4]
    omega
  rw [← e]
  exact isBytes_new w (Fr.be4 v) (Fr.be4_lt v) _ (0, 0)
set_option maxRecDepth 100000 in
set_option maxHeartbeats 400000 in
theorem number_any (base : Nat) (A : Option Addr) (c : Nat) (l : List Nat) (n : Nat) (hn : l.length = n) (v : Nat) (hv : v < 4294967296) (hl : n ≤ 140737488355000) (w : World) (h : OwnsB 5 w base A c l) (hB : base ≤ w.heap.size) (L : List Nat) (hL : l ++ Fr.be4 v = L) :
    Calls Tryd.prog 66 #[.slice A n c, .int .u32 v] w fun e w' => ∃ A' c', e = .returned (.slice A' (n + 4) c') ∧ OwnsB 5 w' base A' c' L ∧ Below base w w' := by
  obtain ⟨i0, hi, hz0, hz1, hz2⟩ := info_parts info_u8
  have HF := hid (four_new v hv w)
  go_enter Tryd.func66, Tryd.ntmps66
  go_wp2_with (at_builtin; refine wpList_append_bytesN rfl _ _ 23 rfl base 5 i0 Tryd.underlying23 hi hz0 hz1 hz2 A c l n hn rfl (h.alloc _) (w.heap.size + 1) (some ⟨w.heap.size, 0, none⟩) 4 (Fr.be4 v) 4 rfl rfl (fun h => by cases h) HF.out L hL (by omega) (by simp; omega) ?_)
  intro A2 c2 w2 hown hbel
  have hb2 : Below base w w2 := ((Below.refl base w).alloc hB _).trans hbel
  clear hbel
  go_wp2
  go_ret
  exact ⟨A2, c2, rfl, hown, hb2⟩

/-- what Put tells: the frame, or nothing and ErrLong -/
def putOf (l : List Nat) : List Nat × Nat := if 65536 < l.length then ([], 2) else (Fr.frame l, 0)
set_option maxRecDepth 100000 in
set_option maxHeartbeats 400000 in
theorem put_long (A : Option Addr) (c : Nat) (n : Nat) (h : 65536 < n) (w : World) :
    Calls Tryd.prog 44 #[.slice A n c] w fun e w' => e = .returned (.tuple #[.slice none 0 0, .int .i64 2]) ∧ w = w' := by
  go_enter Tryd.func44, Tryd.ntmps44
  go_wp2
  go_ret2
  exact ⟨rfl, rfl⟩
set_option maxRecDepth 100000 in
set_option maxHeartbeats 400000 in
theorem put_any (B : Nat) (A : Option Addr) (c : Nat) (l : List Nat) (n : Nat) (hn : l.length = n) (hl : n ≤ 65536) (w : World) (h : IsBytes w B A l) (hB : B ≤ w.heap.size) (hnil : A = none → c = 0) :
    Calls Tryd.prog 44 #[.slice A n c] w fun e w' => ∃ A' c', e = .returned (.tuple #[.slice A' (8 + n) c', .int .i64 0]) ∧ OwnsB 5 w' w.heap.size A' c' (Fr.frame l) ∧ Below w.heap.size w w' := by
  obtain ⟨i0, hi, hz0, hz1, hz2⟩ := info_parts info_u8
  have hx : Fr.sum (Fr.be4 n) l < 4294967296 := Fr.sum_lt _ _ (Fr.be4_lt n) h.small
  have HX := hid hx
  have HF : Hid (Fr.be4 n ++ Fr.be4 (Fr.sum (Fr.be4 n) l) ++ l = Fr.frame l) := by show _ = _; subst hn; unfold Fr.frame; rw [List.append_assoc]
  clear hx
  go_enter Tryd.func44, Tryd.ntmps44
  go_wp2_with (at_make; refine wpList_make_own _ rfl _ _ 23 rfl w.heap.size 5 i0 (.int .u8 0) 1 Tryd.underlying23 hi hz0 hz1 .i64 .i64 (8 + (n : Int)) (8 + n) rfl rfl (by omega) ?c1 ?c2 (Nat.le_refl _) ?_)
  case c1 => rw [hz2]; omega
  case c2 => unfold maxLen; omega
  intro w1 hown hgrow
  have hrow : OwnsB 5 w1 w.heap.size (some ⟨w.heap.size, 0, none⟩) (8 + n) [] := ⟨by simp, hown⟩
  have hb1 : Below w.heap.size w w1 := (Below.refl _ _).grown hgrow (Nat.le_refl _) (fun g hg => by cases hg)
  clear hown hgrow
  go_wp2_with fail
  refine (number_any w.heap.size _ _ [] 0 rfl n (by omega) (by omega) _ hrow hb1.size (Fr.be4 n) (List.nil_append _)).mono ?_
  rintro e w2 ⟨A2, c2, rfl, ho2, hb2⟩
  have hb2' := hb1.trans hb2
  clear hrow hb1 hb2
  go_wp2_with fail
  refine (sum_any w2.heap.size A2 c2 (Fr.be4 n) 4 rfl A c l n hn (by unfold maxLen; omega) (by unfold maxLen; omega) _ ho2.reads w.heap.size ((h.more hB).below hb2')).mono ?_
  rintro e w3 ⟨rfl, rfl⟩
  go_wp2_with fail
  refine (number_any w.heap.size A2 c2 (Fr.be4 n) 4 rfl _ HX.out (by omega) _ ho2 hb2'.size _ rfl).mono ?_
  rintro e w3 ⟨A3, c3, rfl, ho3, hb3⟩
  have hb3' := hb2'.trans hb3
  clear ho2 hb2' hb3
  have hs3 : IsBytes w3 w.heap.size A l := (h.more hB).below hb3'
  go_wp2_with (at_builtin; refine wpList_append_bytesN rfl _ _ 23 rfl w.heap.size 5 i0 Tryd.underlying23 hi hz0 hz1 hz2 A3 c3 _ 8 rfl rfl ho3 w.heap.size A c l n hn rfl hnil hs3 _ HF.out (by omega) hb3'.size ?_)
  intro A4 c4 w4 hown4 hgrow
  have hb4 : Below w.heap.size w w4 := hb3'.trans hgrow
  clear hgrow ho3 hb3' hs3
  go_wp2
  go_ret2
  exact ⟨A4, c4, rfl, hown4, hb4⟩
end Go.Proofs.YtpigekbfngalbaaDoor.Frame
