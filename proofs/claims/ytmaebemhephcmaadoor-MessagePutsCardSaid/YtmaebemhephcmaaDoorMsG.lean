/- The walks through package message: what a field is put as. -/
import Derived.Test.YtmaebemhephcmaaDoorMsF
import Derived.Test.YtmaebemhephcmaaDoorPackBlob
namespace Go.Proofs.YtmaebemhephcmaaDoor.Ms
open Go.RowKit
set_option maxRecDepth 100000
attribute [local go_sem ↓] loadAt_msg

/-- only rows of bytes from the block base on are turned, and new blocks made -/
structure Thru (base : Nat) (w w' : World) : Prop where
  bel : Below base w w'
  oth : ∀ k, k < w.heap.size → (∀ cs fr, w.heap[k]? ≠ some (.cells cs 5 fr)) → w'.heap[k]? = w.heap[k]?
namespace Thru
variable {base : Nat} {a b c : World}
theorem size (h : Thru base a b) : a.heap.size ≤ b.heap.size := h.bel.size
theorem trans (h : Thru base a b) (h' : Thru base b c) : Thru base a c := ⟨h.bel.trans h'.bel, fun k hk hn => by
  have e := h.oth k hk hn
  exact (h'.oth k (Nat.lt_of_lt_of_le hk h.size) (fun cs fr => by rw [e]; exact hn cs fr)).trans e⟩
theorem new (h : Below a.heap.size a b) (hB : base ≤ a.heap.size) : Thru base a b := ⟨h.mono hB, fun k hk _ => h.block k hk⟩
theorem own {A : Option Addr} {cp : Nat} {l : List Nat} (h : OwnsB 5 a base A cp l) (hB : base ≤ a.heap.size) (hg : a.grownBy b (blk A)) : Thru base a b :=
  ⟨below_grown hg hB (fun k hk => (h.blkLt k hk).1), fun k hk hn => hg.block k hk (fun e => by
    rcases h.row.2 with ⟨h0, _⟩ | ⟨g', cap, cur, hv, _, hh, _⟩
    · injection h0 with h0; rw [h0] at e; cases e
    · have hA : A = some ⟨g', 0, none⟩ := by injection hv
      rw [hA] at e
      obtain rfl : k = g' := by injection e
      exact hn _ _ hh)⟩
theorem keep {k : Nat} {o : Obj} (h : Thru base a b) (ho : a.heap[k]? = some o) (hn : ∀ cs fr, o ≠ .cells cs 5 fr) : b.heap[k]? = some o :=
  (h.oth k (row_lt ho) (fun cs fr e => by rw [ho] at e; exact hn cs fr (Option.some.inj e))).trans ho
end Thru
/-- append of bytes, the lengths said apart; nothing else that was there is turned -/
theorem wpList_append_bytesG {P : Program} {w : World} {ops : Array Oper} {rest : List Oper} {o : Oper} {a : Act} {Q : Exit → Act → World → Prop} (hgd : o.guard = none) (s x : Operand) (t : TypeId)
    (ho : o.op = .call { callee := .builtin .append, args := #[s, x], argTypes := #[t, t] })
    (base : Nat) (e : TypeId) (i : TypeInfo) (ht : P.underlying t = some (.slice e)) (hi : P.info? e = some i) (hz : i.zero = some (.int .u8 0)) (hsize : i.size = 1) (hby : i.bytes = 1)
    (A : Option Addr) (c : Nat) (l : List Nat) (n : Nat) (hln : l.length = n) (hs : a.eval s = .slice A n c) (hown : OwnsB e w base A c l)
    (B : Nat) (A' : Option Addr) (c' : Nat) (m : List Nat) (k : Nat) (hmk : m.length = k) (hx : a.eval x = .slice A' k c') (hnil : A' = none → c' = 0) (hr : IsBytes w B A' m)
    (L : List Nat) (hL : l ++ m = L) (hbytes : n + k ≤ 140737488355328) (hbase : base ≤ w.heap.size)
    (h : ∀ A2 c2 w', OwnsB e w' base A2 c2 L → w.grownBy w' (blk A) → wpList P ops Q rest (a.put o.dst (.slice A2 (n + k) c2)) w') : wpList P ops Q (o :: rest) a w := by
  subst hln
  subst hmk
  subst hL
  exact wpList_append_bytes hgd s x t ho base e i ht hi hz hsize hby A c l hs hown B A' c' m hx hnil hr hbytes hbase fun A2 c2 w' h1 h2 => h A2 c2 w' h1 (by rw [← ownBlock_slice A l.length c]; exact h2)
set_option maxHeartbeats 400000 in
theorem putInt_any (base : Nat) (A : Option Addr) (c : Nat) (l : List Nat) (n : Nat) (hn : l.length = n) (v : Int) (hv : InInt v) (hl : n ≤ 140737488300000) (w : World) (h : OwnsB 5 w base A c l) (hB : base ≤ w.heap.size) :
    Calls Tryd.prog 64 #[.slice A n c, .int .i64 v] w fun e w' => ∃ A' c', e = .returned (.slice A' (n + 8) c') ∧ OwnsB 5 w' base A' c' (l ++ Pk.enc v) ∧ Thru base w w' := by
  obtain ⟨i0, hi, hz0, hz1, hz2⟩ := info_parts info_u8
  have HP := hid (packInt_any 0 none 0 [] v hv (by simp) w IsBytes.nil (Nat.zero_le _) (fun _ => rfl))
  go_enter Tryd.func64, Tryd.ntmps64
  go_wp2_with fail
  refine HP.out.mono ?_
  rintro e w1 ⟨A1, c1, rfl, ho, hb⟩
  have ho1 := h.below hb
  have hb1 : Below base w w1 := hb.mono hB
  rw [List.nil_append] at ho
  rw [List.length_nil, Nat.zero_add]
  have hr := ho.reads
  have hn1 := ho.none_
  have hb0 := hb
  clear HP hb h
  go_wp2_with (at_builtin; refine wpList_append_bytesG rfl _ _ 23 rfl base 5 i0 Tryd.underlying23 hi hz0 hz1 hz2 A c l n hn rfl ho1 w1.heap.size A1 c1 (Pk.enc v) 8 rfl rfl hn1 hr _ rfl (by omega) (Nat.le_trans hB hb1.size) ?_)
  intro A2 c2 w2 ho2 hg2
  have hT := hid ((Thru.new hb0 hB).trans (Thru.own ho1 (Nat.le_trans hB hb1.size) hg2))
  clear ho1 hr hb1 hg2 ho hb0
  go_wp2
  go_ret
  exact ⟨A2, c2, rfl, ho2, hT.out⟩
set_option maxHeartbeats 400000 in
theorem putBlob_any (base : Nat) (A : Option Addr) (c : Nat) (l : List Nat) (n : Nat) (hn : l.length = n) (B' : Nat) (A' : Option Addr) (c' : Nat) (p : List Nat) (k : Nat) (hk : p.length = k) (hl : n ≤ 70000000000000) (hl' : k ≤ 70000000000000) (w : World) (h : OwnsB 5 w base A c l) (hB : base ≤ w.heap.size) (h' : IsBytes w B' A' p) (hB' : B' ≤ w.heap.size) (hn' : A' = none → c' = 0) :
    Calls Tryd.prog 65 #[.slice A n c, .slice A' k c'] w fun e w' => ∃ A2 c2, e = .returned (.slice A2 (n + (8 + k)) c2) ∧ OwnsB 5 w' base A2 c2 (l ++ (Pk.enc k ++ p)) ∧ Thru base w w' := by
  subst hk
  obtain ⟨i0, hi, hz0, hz1, hz2⟩ := info_parts info_u8
  have HP := hid (packBlob_any 0 none 0 [] B' A' c' p (by simp; omega) w IsBytes.nil (Nat.zero_le _) (fun _ => rfl) h' hB' hn')
  go_enter Tryd.func65, Tryd.ntmps65
  go_wp2_with fail
  refine HP.out.mono ?_
  rintro e w1 ⟨A1, c1, rfl, ho, hb⟩
  have ho1 := h.below hb
  have hb1 : Below base w w1 := hb.mono hB
  rw [List.nil_append] at ho
  rw [List.length_nil, Nat.zero_add]
  have hr := ho.reads
  have hn1 := ho.none_
  have hb0 := hb
  clear HP hb h
  go_wp2_with (at_builtin; refine wpList_append_bytesG rfl _ _ 23 rfl base 5 i0 Tryd.underlying23 hi hz0 hz1 hz2 A c l n hn rfl ho1 w1.heap.size A1 c1 (Pk.enc p.length ++ p) (8 + p.length) (by rw [List.length_append, Pk.enc_length]) rfl hn1 hr _ rfl (by omega) (Nat.le_trans hB hb1.size) ?_)
  intro A2 c2 w2 ho2 hg2
  have hT := hid ((Thru.new hb0 hB).trans (Thru.own ho1 (Nat.le_trans hB hb1.size) hg2))
  clear ho1 hr hb1 hg2 ho hb0
  go_wp2
  go_ret
  exact ⟨A2, c2, rfl, ho2, hT.out⟩
theorem encE_length (e : Rl.En) : (encE e).length = 24 + e.d.length := by unfold encE; simp [Pk.enc_length]; omega
theorem encEs_length (L : List Rl.En) : (L.flatMap encE).length = 24 * L.length + weigh L := by
  induction L with
  | nil => rfl
  | cons e L ih =>
    rw [List.flatMap_cons, List.length_append, ih, encE_length]
    unfold weigh
    rw [List.map_cons, List.sum_cons, List.length_cons]; omega
/-- how many bytes a field has -/
def M.len (m : M) (r : Nat) : Nat := if r = 111 then 8 else if r = 101 then 8 + (24 * m.es.length + weigh m.es) else if r = 100 then 8 + m.d.length else 8
theorem encF_length (m : M) (r : Nat) : (m.encF r).length = m.len r := by
  unfold M.encF M.len
  split
  · rw [Pk.enc_length]
  · split
    · rw [List.length_append, Pk.enc_length, encEs_length]
    · split
      · rw [List.length_append, Pk.enc_length]
      · rw [Pk.enc_length]
theorem len_le (m : M) (r : Nat) (hs : Small m) : m.len r ≤ 1010000000 := by
  have h1 := hs.es
  have h2 := hs.wt
  have h3 := hs.d
  unfold M.len
  split
  · omega
  · split
    · omega
    · split <;> omega
set_option maxHeartbeats 1600000 in
theorem putNum_any (base : Nat) (A0 : Option Addr) (c0 : Nat) (l : List Nat) (n : Nat) (hn : l.length = n) (hl : n ≤ 100000000000) (m : M) (A : Option Addr) (c : Nat) (A' : Option Addr) (c' : Nat) (r : Nat) (hr : r ∈ nums) (w : World) (h0 : OwnsB 5 w base A0 c0 l) (hB : base ≤ w.heap.size) (hv : InInt (m.num r)) :
    Calls Tryd.prog 43 #[.slice A0 n c0, .agg #[.int .i64 m.K, .int .i64 m.F, .int .i64 m.T, .int .i64 m.g, .int .i64 m.t, .int .i64 m.i, .int .i64 m.p, .int .i64 m.c, .int .i64 m.r, .int .i64 m.x, .int .i64 m.a, .int .i64 m.b, .int .i64 m.v, .int .i64 m.s, .bool m.ok, .slice A m.es.length c, .slice A' m.d.length c'], .int .i32 (r : Int)] w fun e w' => ∃ A2 c2, e = .returned (.slice A2 (n + m.len r) c2) ∧ OwnsB 5 w' base A2 c2 (l ++ m.encF r) ∧ Thru base w w' := by
  have hlt : r < 128 := by
    simp only [nums, List.mem_cons, List.not_mem_nil, or_false] at hr
    omega
  have h111 : (r : Int) ≠ 111 := by
    simp only [nums, List.mem_cons, List.not_mem_nil, or_false] at hr
    omega
  have h101 : (r : Int) ≠ 101 := by
    simp only [nums, List.mem_cons, List.not_mem_nil, or_false] at hr
    omega
  have h100 : (r : Int) ≠ 100 := by
    simp only [nums, List.mem_cons, List.not_mem_nil, or_false] at hr
    omega
  have HE : Hid (m.encF r = Pk.enc (m.num r) ∧ m.len r = 8) := by
    refine ⟨?_, ?_⟩
    · unfold M.encF; rw [if_neg (by omega), if_neg (by omega), if_neg (by omega)]
    · unfold M.len; rw [if_neg (by omega), if_neg (by omega), if_neg (by omega)]
  have hp : ptr w.heap.size r = some ⟨w.heap.size, ix r, none⟩ := if_pos hr
  have hc : (w.alloc (.cells #[.int .i64 m.K, .int .i64 m.F, .int .i64 m.T, .int .i64 m.g, .int .i64 m.t, .int .i64 m.i, .int .i64 m.p, .int .i64 m.c, .int .i64 m.r, .int .i64 m.x, .int .i64 m.a, .int .i64 m.b, .int .i64 m.v, .int .i64 m.s, .bool m.ok, .slice A m.es.length c, .slice A' m.d.length c'] 25)).cell? ⟨w.heap.size, ix r, none⟩ = some (.int .i64 (m.num r)) := by
    rw [cell_of_row _ w.heap.size (ix r) _ _ (0, 0) (heap_alloc_new w _)]; exact num_cell m A c A' c' r hr
  have hN := number_any w.heap.size r hlt
  rw [hp] at hN
  have HN := hid hN
  have HB : Hid (Thru base w (w.alloc (.cells #[.int .i64 m.K, .int .i64 m.F, .int .i64 m.T, .int .i64 m.g, .int .i64 m.t, .int .i64 m.i, .int .i64 m.p, .int .i64 m.c, .int .i64 m.r, .int .i64 m.x, .int .i64 m.a, .int .i64 m.b, .int .i64 m.v, .int .i64 m.s, .bool m.ok, .slice A m.es.length c, .slice A' m.d.length c'] 25))) := Thru.new ((Below.refl _ w).alloc (Nat.le_refl _) _) hB
  have HP := hid (putInt_any base A0 c0 l n hn (m.num r) hv (by omega) (w.alloc (.cells #[.int .i64 m.K, .int .i64 m.F, .int .i64 m.T, .int .i64 m.g, .int .i64 m.t, .int .i64 m.i, .int .i64 m.p, .int .i64 m.c, .int .i64 m.r, .int .i64 m.x, .int .i64 m.a, .int .i64 m.b, .int .i64 m.v, .int .i64 m.s, .bool m.ok, .slice A m.es.length c, .slice A' m.d.length c'] 25)) (h0.alloc _) (Nat.le_trans hB HB.out.size))
  clear hN hp hr h0 hn hv hB
  go_enter Tryd.func43, Tryd.ntmps43
  go_wp2_with fail
  refine (HN.out _).mono ?_
  rintro e w1 ⟨rfl, rfl⟩
  go_wp2_with fail
  refine HP.out.mono ?_
  rintro e w1 ⟨A1, c1, rfl, ho, hb⟩
  have HO := hid ho
  have HB1 := hid (HB.out.trans hb)
  clear ho hb hc
  go_wp2_with fail
  go_ret
  rw [HE.out.1, HE.out.2]
  exact ⟨A1, c1, rfl, HO.out, HB1.out⟩
set_option maxHeartbeats 1600000 in
theorem putOk_any (base : Nat) (A0 : Option Addr) (c0 : Nat) (l : List Nat) (n : Nat) (hn : l.length = n) (hl : n ≤ 100000000000) (m : M) (A : Option Addr) (c : Nat) (A' : Option Addr) (c' : Nat) (w : World) (h0 : OwnsB 5 w base A0 c0 l) (hB : base ≤ w.heap.size) :
    Calls Tryd.prog 43 #[.slice A0 n c0, .agg #[.int .i64 m.K, .int .i64 m.F, .int .i64 m.T, .int .i64 m.g, .int .i64 m.t, .int .i64 m.i, .int .i64 m.p, .int .i64 m.c, .int .i64 m.r, .int .i64 m.x, .int .i64 m.a, .int .i64 m.b, .int .i64 m.v, .int .i64 m.s, .bool m.ok, .slice A m.es.length c, .slice A' m.d.length c'], .int .i32 ((111 : Nat) : Int)] w fun e w' => ∃ A2 c2, e = .returned (.slice A2 (n + m.len 111) c2) ∧ OwnsB 5 w' base A2 c2 (l ++ m.encF 111) ∧ Thru base w w' := by
  have HB : Hid (Thru base w (w.alloc (.cells #[.int .i64 m.K, .int .i64 m.F, .int .i64 m.T, .int .i64 m.g, .int .i64 m.t, .int .i64 m.i, .int .i64 m.p, .int .i64 m.c, .int .i64 m.r, .int .i64 m.x, .int .i64 m.a, .int .i64 m.b, .int .i64 m.v, .int .i64 m.s, .bool m.ok, .slice A m.es.length c, .slice A' m.d.length c'] 25))) := Thru.new ((Below.refl _ w).alloc (Nat.le_refl _) _) hB
  have HE : Hid (m.encF 111 = Pk.enc (if m.ok = true then 1 else 0) ∧ m.len 111 = 8) := ⟨rfl, rfl⟩
  have HP := fun v hv => putInt_any base A0 c0 l n hn v hv (by omega) (w.alloc (.cells #[.int .i64 m.K, .int .i64 m.F, .int .i64 m.T, .int .i64 m.g, .int .i64 m.t, .int .i64 m.i, .int .i64 m.p, .int .i64 m.c, .int .i64 m.r, .int .i64 m.x, .int .i64 m.a, .int .i64 m.b, .int .i64 m.v, .int .i64 m.s, .bool m.ok, .slice A m.es.length c, .slice A' m.d.length c'] 25)) (h0.alloc _) (Nat.le_trans hB HB.out.size)
  have HPP := hid (And.intro (HP 0 (by unfold InInt; omega)) (HP 1 (by unfold InInt; omega)))
  clear HP h0 hn hB
  rcases hok : m.ok with _ | _
  · have HO := hid hok
    go_enter Tryd.func43, Tryd.ntmps43
    rw [hok] at HPP HB
    go_wp2_with fail
    refine HPP.out.1.mono ?_
    rintro e w1 ⟨A1, c1, rfl, ho, hb⟩
    have HO1 := hid (And.intro ho (HB.out.trans hb))
    clear ho hb
    go_wp2_with fail
    go_ret
    rw [HE.out.1, HE.out.2, HO.out]
    exact ⟨A1, c1, rfl, HO1.out.1, HO1.out.2⟩
  · have HO := hid hok
    go_enter Tryd.func43, Tryd.ntmps43
    rw [hok] at HPP HB
    go_wp2_with fail
    refine HPP.out.2.mono ?_
    rintro e w1 ⟨A1, c1, rfl, ho, hb⟩
    have HO1 := hid (And.intro ho (HB.out.trans hb))
    clear ho hb
    go_wp2_with fail
    go_ret
    rw [HE.out.1, HE.out.2, HO.out]
    exact ⟨A1, c1, rfl, HO1.out.1, HO1.out.2⟩
set_option maxHeartbeats 1600000 in
theorem putData_any (base : Nat) (A0 : Option Addr) (c0 : Nat) (l : List Nat) (n : Nat) (hn : l.length = n) (hl : n ≤ 100000000000) (m : M) (A : Option Addr) (c : Nat) (A' : Option Addr) (c' : Nat) (w : World) (h0 : OwnsB 5 w base A0 c0 l) (hB : base ≤ w.heap.size) (hd : IsBytes w base A' m.d) (hdl : m.d.length ≤ 1000000000) (hdn : A' = none → c' = 0) :
    Calls Tryd.prog 43 #[.slice A0 n c0, .agg #[.int .i64 m.K, .int .i64 m.F, .int .i64 m.T, .int .i64 m.g, .int .i64 m.t, .int .i64 m.i, .int .i64 m.p, .int .i64 m.c, .int .i64 m.r, .int .i64 m.x, .int .i64 m.a, .int .i64 m.b, .int .i64 m.v, .int .i64 m.s, .bool m.ok, .slice A m.es.length c, .slice A' m.d.length c'], .int .i32 ((100 : Nat) : Int)] w fun e w' => ∃ A2 c2, e = .returned (.slice A2 (n + m.len 100) c2) ∧ OwnsB 5 w' base A2 c2 (l ++ m.encF 100) ∧ Thru base w w' := by
  have HB : Hid (Thru base w (w.alloc (.cells #[.int .i64 m.K, .int .i64 m.F, .int .i64 m.T, .int .i64 m.g, .int .i64 m.t, .int .i64 m.i, .int .i64 m.p, .int .i64 m.c, .int .i64 m.r, .int .i64 m.x, .int .i64 m.a, .int .i64 m.b, .int .i64 m.v, .int .i64 m.s, .bool m.ok, .slice A m.es.length c, .slice A' m.d.length c'] 25))) := Thru.new ((Below.refl _ w).alloc (Nat.le_refl _) _) hB
  have HE : Hid (m.encF 100 = Pk.enc m.d.length ++ m.d ∧ m.len 100 = 8 + m.d.length) := ⟨rfl, rfl⟩
  have HP := hid (putBlob_any base A0 c0 l n hn base A' c' m.d m.d.length rfl (by omega) (by omega) (w.alloc (.cells #[.int .i64 m.K, .int .i64 m.F, .int .i64 m.T, .int .i64 m.g, .int .i64 m.t, .int .i64 m.i, .int .i64 m.p, .int .i64 m.c, .int .i64 m.r, .int .i64 m.x, .int .i64 m.a, .int .i64 m.b, .int .i64 m.v, .int .i64 m.s, .bool m.ok, .slice A m.es.length c, .slice A' m.d.length c'] 25)) (h0.alloc _) (Nat.le_trans hB HB.out.size) (hd.below HB.out.bel) (Nat.le_trans hB HB.out.size) hdn)
  clear h0 hn hB hd hdn
  go_enter Tryd.func43, Tryd.ntmps43
  go_wp2_with fail
  refine HP.out.mono ?_
  rintro e w1 ⟨A1, c1, rfl, ho, hb⟩
  have HO1 := hid (And.intro ho (HB.out.trans hb))
  clear ho hb
  go_wp2_with fail
  go_ret
  rw [HE.out.1, HE.out.2]
  exact ⟨A1, c1, rfl, HO1.out.1, HO1.out.2⟩
end Go.Proofs.YtmaebemhephcmaaDoor.Ms
