/- What the walks say of memory: entries put behind others where there is no room: both lie in a new row then. -/
import Derived.Test.YtmaebemhephcmaaDoorEnts
import Derived.ArgAppend
import Derived.OwnWalk
namespace Go.Proofs.YtmaebemhephcmaaDoor
open Go.RowKit

/-- entries that lie anywhere, each with its bytes' place -/
def Reads (w : World) (B : Nat) (M : List El) : Prop := ∀ q ∈ M, IsBytes w B q.A q.e.d ∧ (q.e.d.length ≤ q.c ∧ q.c ≤ maxLen) ∧ (q.A = none → q.c = 0)
theorem IsEnts.flat {w : World} {B : Nat} {A : Option Addr} {L : List Rl.En} (h : IsEnts w B A L) : ∃ M : List El, M.map (·.e) = L ∧ Reads w B M ∧ ∀ ad, A = some ad → ∀ j u, (M.flatMap cellsE)[j]? = some u → w.cell? (ad.add j) = some u := by
  have hq : ∀ i : Fin L.length, ∃ q : El, q.e = L[i] ∧ (IsBytes w B q.A q.e.d ∧ (q.e.d.length ≤ q.c ∧ q.c ≤ maxLen) ∧ (q.A = none → q.c = 0)) ∧ ∀ ad, A = some ad → ∀ k, k < 3 → w.cell? (ad.add (i.1 * 3 + k)) = (cellsE q)[k]? := by
    intro i
    obtain ⟨b, off, rfl, _, hc⟩ := h.cells i.1 i.2
    obtain ⟨A1, c1, d0, d1, d2, d3, d4, d5⟩ := hc i.1 i.2
    refine ⟨⟨L[i], A1, c1⟩, rfl, ⟨d3, d4, d5⟩, fun ad he k hk => ?_⟩
    injection he with he
    subst he
    rw [add_off, ← Nat.add_assoc]
    match k, hk with
    | 0, _ => exact d0
    | 1, _ => exact d1
    | 2, _ => exact d2
  refine ⟨List.ofFn (fun i => (hq i).choose), ?_, ?_, ?_⟩
  · apply List.ext_getElem
    · simp
    · intro i h1 h2
      rw [List.getElem_map, List.getElem_ofFn]
      exact (hq ⟨i, h2⟩).choose_spec.1
  · intro q hm
    obtain ⟨i, rfl⟩ := List.mem_ofFn.1 hm
    exact (hq i).choose_spec.2.1
  · intro ad he j u hu
    have hlt := (List.getElem?_eq_some_iff.1 hu).1
    rw [flat_len cellsE 3 (fun _ => rfl)] at hlt
    have hj : j / 3 < (List.ofFn (fun i => (hq i).choose)).length := by omega
    have e := flat_get cellsE 3 (fun _ => rfl) _ (j / 3) hj (j % 3) (by omega)
    rw [show j / 3 * 3 + j % 3 = j by omega, hu, List.getElem_ofFn] at e
    have := (hq ⟨j / 3, by simpa using hj⟩).choose_spec.2.2 ad he (j % 3) (by omega)
    rw [show j / 3 * 3 + j % 3 = j by omega] at this
    rw [this, ← e]
theorem Reads.below {w w' : World} {B : Nat} {M : List El} (h : Reads w B M) (hb : Below B w w') : Reads w' B M := fun q hq => ⟨(h q hq).1.below hb, (h q hq).2⟩
/-- a row of entries whose bytes lie elsewhere -/
theorem isEnts_row {w : World} {B B' : Nat} {F : Nat → Prop} {A : Option Addr} {c : Nat} {M : List El} (hrow : RowIn cellsE 3 61 w F A c M) (hr : Reads w B M) (hB : B ≤ B') (hF : ∀ k, F k → k < w.heap.size → k < B') (hn : ∀ q ∈ M, InInt q.e.t ∧ InInt q.e.k) : IsEnts w B' A (M.map (·.e)) := ⟨fun e he => by
  obtain ⟨q, hq, rfl⟩ := List.mem_map.1 he
  exact hn q hq, fun k hk => by
  rw [List.length_map] at hk
  obtain ⟨g, hA, hg, hFg, _, _⟩ := hrow.get k hk
  refine ⟨g, 0, hA, hF g hFg hg, fun i hi => ?_⟩
  rw [List.length_map] at hi
  obtain ⟨g', hA', _, _, hc, _⟩ := hrow.get i hi
  obtain rfl : g = g' := by rw [hA] at hA'; injection hA' with e; injection e
  have ho := hr M[i] (List.getElem_mem hi)
  rw [List.getElem_map, Nat.zero_add]
  exact ⟨M[i].A, M[i].c, hc 0 (by omega), hc 1 (by omega), hc 2 (by omega), ho.1.more hB, ho.2⟩⟩

/-- Entries in a row of the call's own, from block lo on, whose bytes lie below block B. -/
def SharE (w : World) (B lo : Nat) (A : Option Addr) (c : Nat) (L : List Rl.En) : Prop :=
  ∃ M : List El, M.map (·.e) = L ∧ RowIn cellsE 3 61 w (fun k => lo ≤ k) A c M ∧ Reads w B M ∧ ∀ q ∈ M, InInt q.e.t ∧ InInt q.e.k
namespace SharE
variable {w w' : World} {B lo : Nat} {A : Option Addr} {c : Nat} {L : List Rl.En}
theorem nil (w : World) (B lo : Nat) : SharE w B lo none 0 [] := ⟨[], rfl, RowIn.nil (f := cellsE) (fun _ => rfl) _ _ _, fun q hq => by simp at hq, by simp⟩
theorem reads (h : SharE w B lo A c L) (hB : B ≤ w.heap.size) : IsEnts w w.heap.size A L := by
  obtain ⟨M, h1, h2, h3, h4⟩ := h
  rw [← h1]
  exact isEnts_row h2 h3 hB (fun k _ hk => hk) h4
theorem keep {S : Nat → Prop} (h : SharE w B lo A c L) (ht : Turned S w w') (hB : B ≤ w.heap.size) (hs : ∀ k, S k → B ≤ k ∧ k < lo) : SharE w' B lo A c L := by
  obtain ⟨M, h1, h2, h3, h4⟩ := h
  exact ⟨M, h1, h2.keep ht (fun k hk hS => by have := h2.blk k hk; have := (hs k hS).2; omega), h3.below (ht.below hB (fun k hk => (hs k hk).1)), h4⟩
theorem below (h : SharE w B lo A c L) (hb : Below w.heap.size w w') (hB : B ≤ w.heap.size) : SharE w' B lo A c L := h.keep (S := fun _ => False) (Turned.ofBelow _ hb) hB (fun _ h => h.elim)
theorem room (h : SharE w B lo A c L) : L.length ≤ c ∧ c ≤ maxLen := by
  obtain ⟨M, h1, h2⟩ := h; rw [← h1, List.length_map]; exact ⟨h2.1.cap, h2.1.capLe⟩
theorem none_ (h : SharE w B lo A c L) : A = none → c = 0 := by
  obtain ⟨M, h1, h2⟩ := h; exact h2.1.none_
end SharE
/-- both lie in a new row then -/
theorem run_append_full {w : World} (ty : TypeId) {B : Nat} {A A' : Option Addr} {L M : List Rl.En} (h : IsEnts w B A L) (h' : IsEnts w B A' M) (hB : B ≤ w.heap.size) (n m c' : Nat) (hn : L.length = n) (hm : M.length = m) (h0 : A = none → n = 0) (hpos : 0 < m) (hl : n + m ≤ 100000) :
    ∃ A2 c2 w', (Builtin.append_ #[22, 22] ty #[.slice A n n, .slice A' m c']).run Tryd.prog w = .ok (.slice A2 (n + m) c2) w' ∧ SharE w' B w.heap.size A2 c2 (L ++ M) ∧ Below w.heap.size w w' := by
  subst hn
  subst hm
  obtain ⟨i0, hi, hz0, hz1, hz2⟩ := info_parts info_entry
  obtain ⟨ML, e1, r1, c1⟩ := h.flat
  obtain ⟨MM, e2, r2, c2⟩ := h'.flat
  have l1 : ML.length = L.length := by rw [← e1, List.length_map]
  have l2 : MM.length = M.length := by rw [← e2, List.length_map]
  obtain ⟨b', off', rfl, _⟩ := h'.cells 0 hpos
  have hex : ∃ v' w', (Builtin.append_ #[22, 22] ty #[.slice A L.length L.length, .slice (some ⟨b', off', none⟩) M.length c']).run Tryd.prog w = .ok v' w' ∧ w'.ownsRow w.heap.size 61 3 v' (L.length + M.length) (ML.flatMap cellsE ++ MM.flatMap cellsE) ∧ w.grownBy w' none := by
    rcases A with _ | b
    · have hl0 := h0 rfl
      have hnil : ML = [] := List.eq_nil_of_length_eq_zero (by omega)
      subst hnil
      rw [hl0]
      obtain ⟨v', w', hrun, q1, q2, _⟩ := run_append_own (P := Tryd.prog) w w.heap.size 22 ty 61 i0 _ 3 40 Tryd.underlying22 hi hz0 hz1 hz2 rfl (by decide) (.slice none 0 0) 0 [] (World.ownsRow_nil w _ _ 3) ⟨b', off', none⟩ M.length c' (MM.flatMap cellsE) (by rw [flat_len cellsE 3 (fun _ => rfl), l2]) (c2 _ rfl) (by intro u hu; obtain ⟨d, _, hu⟩ := List.mem_flatMap.1 hu; exact cellsE_one d u hu) (by unfold maxLen; omega) (by omega) (Nat.le_refl _)
      exact ⟨v', w', hrun, by simpa using q1, q2⟩
    · obtain ⟨v', w', hrun, q1, q2⟩ := run_append_arg_grows (P := Tryd.prog) w 22 ty 61 i0 _ 3 40 Tryd.underlying22 hi hz0 hz1 hz2 rfl (by decide) b L.length L.length (ML.flatMap cellsE) (by rw [flat_len cellsE 3 (fun _ => rfl), l1]) (c1 _ rfl) ⟨b', off', none⟩ M.length c' (MM.flatMap cellsE) (by rw [flat_len cellsE 3 (fun _ => rfl), l2]) (c2 _ rfl) (by omega) (by unfold maxLen; omega) (by omega)
      exact ⟨v', w', hrun, q1, q2⟩
  obtain ⟨v', w', hrun, q1, q2⟩ := hex
  obtain ⟨A2, c2', rfl⟩ := own_slice q1
  have hbel : Below w.heap.size w w' := below_grown q2 (Nat.le_refl _) (fun k hk => by cases hk)
  have hrow : RowIn cellsE 3 61 w' (fun k => w.heap.size ≤ k) A2 c2' (ML ++ MM) := by
    refine ⟨fun _ => rfl, ?_, fun k hk => (q1.lt k (by rw [ownBlock_slice]; exact hk)).1⟩
    rw [List.length_append, l1, l2, List.flatMap_append]
    refine ⟨q1.1, ?_⟩
    rcases q1.2 with h0 | ⟨g, cap, cur, k1, k2, k3⟩
    · exact .inl h0
    · exact .inr ⟨g, cap, cur, k1, Nat.zero_le _, k3⟩
  have hmap : (ML ++ MM).map (·.e) = L ++ M := by rw [List.map_append, e1, e2]
  refine ⟨A2, c2', w', hrun, ⟨ML ++ MM, hmap, hrow, fun q hq => ?_, fun q hq => ?_⟩, hbel⟩
  · rcases List.mem_append.1 hq with hq | hq
    · exact r1.below (hbel.mono hB) q hq
    · exact r2.below (hbel.mono hB) q hq
  · have : q.e ∈ L ++ M := by rw [← hmap]; exact List.mem_map.2 ⟨q, hq, rfl⟩
    rcases List.mem_append.1 this with h1 | h1
    · exact h.num _ h1
    · exact h'.num _ h1
theorem step_append_full {w : World} {ops : Array Oper} {o : Oper} {a : Act} {K : Act → World → Prop} {Q : Exit → Act → World → Prop} {E : Prop} (hgd : o.guard = none) (s y : Operand)
    (ho : o.op = .call { callee := .builtin .append, args := #[s, y], argTypes := #[22, 22] }) {B : Nat} {A A' : Option Addr} {L M : List Rl.En} (h : IsEnts w B A L) (h' : IsEnts w B A' M) (hB : B ≤ w.heap.size) (n m c' : Nat) (hn : L.length = n) (hm : M.length = m) (h0 : A = none → n = 0) (hpos : 0 < m) (hl : n + m ≤ 100000)
    (hs : a.eval s = .slice A n n) (hy : a.eval y = .slice A' m c')
    (hK : ∀ A2 c2 w', SharE w' B w.heap.size A2 c2 (L ++ M) → Below w.heap.size w w' → K (a.put o.dst (.slice A2 (n + m) c2)) w') :
    if Region.wanted o (yielded ops a.tmps) = true then Oper.wp Tryd.prog o a w K Q else E := by
  have hw : Region.wanted o (yielded ops a.tmps) = true := by simp [Region.wanted, hgd]
  rw [if_pos hw]
  obtain ⟨A2, c2, w', hr, h1, h4⟩ := run_append_full o.type h h' hB n m c' hn hm h0 hpos hl
  unfold Oper.wp execOp
  simp only [ho, resolve, invoke, builtin, Sem.run_bind, Sem.run_pure, Result.andThen_ok, List.map_toArray, List.map_cons, List.map_nil, hs, hy, hr]
  exact hK A2 c2 w' h1 h4
/-- an entry is put behind entries of the call's own row; its bytes stay where they lie -/
theorem wpList_append_share {w : World} {ops : Array Oper} {rest : List Oper} {o : Oper} {a : Act} {Q : Exit → Act → World → Prop} (hgd : o.guard = none) (s y : Operand)
    (ho : o.op = .call { callee := .builtin .append, args := #[s, y], argTypes := #[22, 22] }) {B lo c : Nat} {A : Option Addr} {L : List Rl.En} (h : SharE w B lo A c L) (hB : B ≤ lo) (hlo : lo ≤ w.heap.size)
    (n : Nat) (hn : L.length = n) (hs : a.eval s = .slice A n c) (x : Rl.En) (hx : InInt x.t ∧ InInt x.k) (A' : Option Addr) (c' : Nat) (hb : IsBytes w B A' x.d ∧ (x.d.length ≤ c' ∧ c' ≤ maxLen) ∧ (A' = none → c' = 0)) (ad : Addr) (ce : Nat) (hy : a.eval y = .slice (some ad) 1 ce) (hc : ∀ k, k < 3 → w.cell? (ad.add k) = (cellsE ⟨x, A', c'⟩)[k]?)
    (hl : n + 1 ≤ 100000)
    (hK : ∀ A2 c2 w', SharE w' B lo A2 c2 (L ++ [x]) → Below lo w w' → wpList Tryd.prog ops Q rest (a.put o.dst (.slice A2 (n + 1) c2)) w') : wpList Tryd.prog ops Q (o :: rest) a w := by
  obtain ⟨i0, hi, hz0, hz1, hz2⟩ := info_parts info_entry
  obtain ⟨M, hM, hr, hrd, hnum⟩ := h
  refine wpList_append_row hgd s y 22 ho i0 _ Tryd.underlying22 hi hz0 hz1 hz2 rfl (by decide) hr n (by rw [← hn, ← hM, List.length_map]) hs ⟨x, A', c'⟩ ad ce hy hc (cellsE_one _) (by omega) hl ?_
  intro A2 c2 w' h1 h2 _
  have hbel : Below lo w w' := below_grown h2 hlo (fun k hk => hr.blk k hk)
  refine hK A2 c2 w' ⟨M ++ [⟨x, A', c'⟩], by rw [List.map_append, hM]; rfl, h1.mono (fun k hk => ?_), fun q hq => ?_, fun q hq => ?_⟩ hbel
  · rcases h1.blk k hk with e | e
    · exact e
    · omega
  · rcases List.mem_append.1 hq with hq | hq
    · exact hrd.below (hbel.mono hB) q hq
    · obtain rfl := List.mem_singleton.1 hq
      exact ⟨hb.1.below (hbel.mono hB), hb.2⟩
  · rcases List.mem_append.1 hq with hq | hq
    · exact hnum q hq
    · obtain rfl := List.mem_singleton.1 hq; exact hx
/-- what a region carries out -/
theorem step_of_wp {c : Bool} {X E : Prop} (hc : c = true) (h : X) : if c = true then X else E := by rw [if_pos hc]; exact h
theorem wp_append_ent {w : World} {o : Oper} {a : Act} {K : Act → World → Prop} {Q : Exit → Act → World → Prop} (s y : Operand)
    (ho : o.op = .call { callee := .builtin .append, args := #[s, y], argTypes := #[22, 22] }) {B N c : Nat} {A : Option Addr} {L : List Rl.En} (h : OwnE w B N A c L) (hBN : B ≤ N) (hN : N ≤ w.heap.size)
    (n : Nat) (hn : L.length = n) (hs : a.eval s = .slice A n c) (x : Rl.En) (hx : InInt x.t ∧ InInt x.k) (A' : Option Addr) (c' : Nat) (hb : OwnsB 5 w N A' c' x.d) (ad : Addr) (ce : Nat) (hy : a.eval y = .slice (some ad) 1 ce) (hc : ∀ k, k < 3 → w.cell? (ad.add k) = (cellsE ⟨x, A', c'⟩)[k]?)
    (hl : n + 1 ≤ 100000)
    (hK : ∀ A2 c2 w', OwnE w' B w'.heap.size A2 c2 (L ++ [x]) → Below B w w' → K (a.put o.dst (.slice A2 (n + 1) c2)) w') : Oper.wp Tryd.prog o a w K Q := by
  obtain ⟨i0, hi, hz0, hz1, hz2⟩ := info_parts info_entry
  obtain ⟨M, hM, hE⟩ := h
  exact wp_append_row s y 22 ho i0 _ Tryd.underlying22 hi hz0 hz1 hz2 rfl (by decide) hE.row n (by rw [← hn, ← hM, List.length_map]) hs ⟨x, A', c'⟩ ad ce hy hc (cellsE_one _) (by omega) hl
    fun A2 c2 w' h1 h2 _ => by
      obtain ⟨h4, h5⟩ := ent_put hM hE hBN hN x hb hx h1 h2
      exact hK A2 c2 w' h4 h5
end Go.Proofs.YtmaebemhephcmaaDoor
