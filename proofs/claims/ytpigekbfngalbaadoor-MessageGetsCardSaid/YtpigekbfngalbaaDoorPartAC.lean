/- Texts of the proof, one behind the other: Turned, Flat, Ents, BigEn. -/
import Derived.Test.YtpigekbfngalbaaDoorPartAB
import Derived.Maps.AppendAt
import Derived.Laws.OwnMore
import Derived.Lib.SliceRun
import Derived.Test.YtpigekbfngalbaaDoorRows
namespace Go.Proofs.YtpigekbfngalbaaDoor
open Go.RowKit

/-- of the blocks that there were none but those of S has turned -/
structure Turned (S : Nat → Prop) (w w' : World) : Prop where
  os : w'.os = w.os
  tape : w'.tape = w.tape
  output : w'.output = w.output
  size : w.heap.size ≤ w'.heap.size
  block : ∀ k, k < w.heap.size → ¬ S k → w'.heap[k]? = w.heap[k]?
namespace Turned
variable {S S' : Nat → Prop} {a b c w w' : World}
theorem refl (S : Nat → Prop) (w : World) : Turned S w w := ⟨rfl, rfl, rfl, Nat.le_refl _, fun _ _ _ => rfl⟩
theorem then_ (h : Turned S a b) (h' : Turned S' b c) (hs : ∀ k, k < a.heap.size → S' k → S k) : Turned S a c :=
  ⟨h'.os.trans h.os, h'.tape.trans h.tape, h'.output.trans h.output, Nat.le_trans h.size h'.size, fun k hk hn => (h'.block k (Nat.lt_of_lt_of_le hk h.size) (fun e => hn (hs k hk e))).trans (h.block k hk hn)⟩
theorem trans (h : Turned S a b) (h' : Turned S b c) : Turned S a c := h.then_ h' (fun _ _ h => h)
theorem mono (h : Turned S a b) (hs : ∀ k, S k → S' k) : Turned S' a b := ⟨h.os, h.tape, h.output, h.size, fun k hk hn => h.block k hk (fun e => hn (hs k e))⟩
theorem ofBelow (S : Nat → Prop) (h : Below a.heap.size a b) : Turned S a b := ⟨h.os, h.tape, h.output, h.size, fun k hk _ => h.block k hk⟩
theorem ofBelowB (S : Nat → Prop) {B : Nat} (h : Below B a b) (hs : ∀ k, B ≤ k → k < a.heap.size → S k) : Turned S a b :=
  ⟨h.os, h.tape, h.output, h.size, fun k hk hn => h.block k (by by_cases hb : k < B; exact hb; exact absurd (hs k (by omega) hk) hn)⟩
theorem ofGrown {row : Option Nat} (h : a.grownBy b row) (hs : ∀ k, row = some k → S k) : Turned S a b := ⟨h.os, h.tape, h.output, h.size, fun k hk hn => h.block k hk (fun e => hn (hs k e.symm))⟩
theorem drewN (h : Turned S a b) (n : Nat) : Turned S a (b.drewN n) := ⟨h.os, h.tape, h.output, h.size, h.block⟩
theorem drew (h : Turned S a b) : Turned S a b.drew := ⟨h.os, h.tape, h.output, h.size, h.block⟩
theorem ofDrewN (S : Nat → Prop) (a : World) (n : Nat) : Turned S a (a.drewN n) := (refl S a).drewN n
theorem alloc (h : Turned S a b) (o : Obj) : Turned S a (b.alloc o) := h.then_ (S' := S) (ofGrown (World.grownBy_alloc b o none) (fun k e => by cases e)) (fun _ _ h => h)
theorem setCell (h : Turned S a b) (g k : Nat) (u : Value) (hg : g < a.heap.size → S g) : Turned S a (b.setCell ⟨g, k, none⟩ u) :=
  h.then_ (S' := fun j => j = g) (ofGrown (grown_setCell b g k u) (fun j e => by injection e with e; exact e.symm)) (fun j hj e => by subst e; exact hg hj)
theorem one (w : World) (g k : Nat) (u : Value) : Turned (fun j => j = g) w (w.setCell ⟨g, k, none⟩ u) := ofGrown (grown_setCell w g k u) (fun j e => by injection e with e; exact e.symm)
theorem two (w : World) (g k k' : Nat) (u u' : Value) : Turned (fun j => j = g) w ((w.setCell ⟨g, k, none⟩ u).setCell ⟨g, k', none⟩ u') := (one w g k u).trans (one _ g k' u')
theorem three (w : World) (g k k' k'' : Nat) (u u' u'' : Value) : Turned (fun j => j = g) w (((w.setCell ⟨g, k, none⟩ u).setCell ⟨g, k', none⟩ u').setCell ⟨g, k'', none⟩ u'') := (two w g k k' u u').trans (one _ g k'' u'')
theorem below {B : Nat} (h : Turned S a b) (hB : B ≤ a.heap.size) (hs : ∀ k, S k → B ≤ k) : Below B a b :=
  ⟨h.os, h.tape, h.output, h.size, fun k hk => h.block k (by omega) (fun e => by have := hs k e; omega)⟩
theorem cell (h : Turned S a b) {p : Addr} (hp : p.block < a.heap.size) (hn : ¬ S p.block) : b.cell? p = a.cell? p := World.cell?_of_block (h.block p.block hp hn)
end Turned

theorem ownsRow_turned {w w' : World} {Z : Nat → Prop} {base : Nat} {e : TypeId} {size n : Nat} {v : Value} {xs : List Value} (h : w.ownsRow base e size v n xs) (ht : Turned Z w w') (ho : ∀ k, v.ownBlock = some k → ¬ Z k) : w'.ownsRow base e size v n xs := by
  refine ⟨h.1, ?_⟩
  rcases h.2 with h0 | ⟨g, cap, cur, h1, h2, h3, h4⟩
  · exact .inl h0
  · refine .inr ⟨g, cap, cur, h1, h2, ?_, h4⟩
    rw [ht.block g (Array.getElem?_eq_some_iff.1 h3).1 (ho g (by rw [h1]; rfl))]
    exact h3
end Go.Proofs.YtpigekbfngalbaaDoor
namespace Go.Proofs.YtpigekbfngalbaaDoor
open Go.RowKit

section
variable {α : Type} (f : α → List Value) (n : Nat) (hf : ∀ x, (f x).length = n)
include hf
theorem flat_len : ∀ L : List α, (L.flatMap f).length = L.length * n
  | [] => by simp
  | x :: r => by rw [List.flatMap_cons, List.length_append, hf, flat_len r, List.length_cons, Nat.succ_mul, Nat.add_comm]
theorem flat_get : ∀ (L : List α) (i : Nat) (hi : i < L.length) (k : Nat), k < n → (L.flatMap f)[i * n + k]? = (f L[i])[k]?
  | x :: r, 0, _, k, hk => by rw [List.flatMap_cons, Nat.zero_mul, Nat.zero_add, List.getElem?_append_left (by rw [hf]; exact hk)]; rfl
  | x :: r, i + 1, hi, k, hk => by
    rw [List.flatMap_cons, List.getElem?_append_right (by rw [hf, Nat.succ_mul]; omega), hf, show (i + 1) * n + k - n = i * n + k by rw [Nat.succ_mul]; omega]
    exact flat_get r i (by simpa using hi) k hk
theorem flat_erase : ∀ (L : List α) (i : Nat), i < L.length → (L.flatMap f).take (i * n) ++ (L.flatMap f).drop ((i + 1) * n) = (L.eraseIdx i).flatMap f
  | x :: r, 0, _ => by rw [List.flatMap_cons, Nat.zero_mul, List.take_zero, List.nil_append, Nat.zero_add, Nat.one_mul, List.drop_left' (hf x)]; rfl
  | x :: r, i + 1, hi => by
    have e1 : (i + 1) * n = (f x).length + i * n := by rw [hf, Nat.succ_mul]; omega
    have e2 : (i + 1 + 1) * n = (f x).length + (i + 1) * n := by rw [hf, Nat.succ_mul (i + 1)]; omega
    rw [List.flatMap_cons, e1, e2, List.take_length_add_append, List.drop_length_add_append, List.append_assoc, flat_erase r i (by simpa using hi)]
    rfl
theorem flat_set (x' : α) (k : Nat) (v : Value) : ∀ (L : List α) (i : Nat) (hi : i < L.length), k < n → f x' = (f L[i]).set k v → (L.set i x').flatMap f = (L.flatMap f).set (i * n + k) v
  | x :: r, 0, _, hk, he => by
    rw [List.set_cons_zero, List.flatMap_cons, List.flatMap_cons, Nat.zero_mul, Nat.zero_add, List.set_append_left _ _ (by rw [hf]; exact hk)]
    rw [he]; rfl
  | x :: r, i + 1, hi, hk, he => by
    have e1 : (i + 1) * n + k = (f x).length + (i * n + k) := by rw [hf, Nat.succ_mul]; omega
    rw [List.set_cons_succ, List.flatMap_cons, List.flatMap_cons, e1, List.set_append_right _ _ (by omega), Nat.add_sub_cancel_left, flat_set x' k v r i (by simpa using hi) hk (by simpa using he)]
end

/-- A row of the call's own, whose elements are laid flat by f, each in so many cells; its block is one of F. -/
structure RowIn {α : Type} (f : α → List Value) (size : Nat) (e : TypeId) (w : World) (F : Nat → Prop) (A : Option Addr) (c : Nat) (L : List α) : Prop where
  fits : ∀ x, (f x).length = size
  row : w.ownsRow 0 e size (.slice A L.length c) L.length (L.flatMap f)
  blk : ∀ k, blk A = some k → F k

namespace RowIn
variable {α : Type} {f : α → List Value} {size : Nat} {e : TypeId} {w w' : World} {F F' S : Nat → Prop} {A : Option Addr} {c : Nat} {L : List α}
theorem nil (hf : ∀ x, (f x).length = size) (e : TypeId) (w : World) (F : Nat → Prop) : RowIn f size e w F none 0 ([] : List α) :=
  ⟨hf, World.ownsRow_nil _ _ _ _, fun k h => by cases h⟩
theorem keep (h : RowIn f size e w F A c L) (ht : Turned S w w') (hd : ∀ k, Go.Proofs.YtpigekbfngalbaaDoor.blk A = some k → ¬ S k) : RowIn f size e w' F A c L :=
  ⟨h.fits, ownsRow_turned h.row ht (fun k hk => hd k (by rw [← ownBlock_slice A L.length c]; exact hk)), h.blk⟩
theorem mono (h : RowIn f size e w F A c L) (hF : ∀ k, Go.Proofs.YtpigekbfngalbaaDoor.blk A = some k → F' k) : RowIn f size e w F' A c L := ⟨h.fits, h.row, hF⟩
theorem lt (h : RowIn f size e w F A c L) : ∀ k, Go.Proofs.YtpigekbfngalbaaDoor.blk A = some k → k < w.heap.size := fun k hk => (h.row.lt k (by rw [ownBlock_slice]; exact hk)).2
theorem tag (h : RowIn f size e w F A c L) {k : Nat} (hk : Go.Proofs.YtpigekbfngalbaaDoor.blk A = some k) : ∃ cur, w.heap[k]? = some (.cells cur e (0, 0)) := by
  rcases h.row.2 with ⟨h0, _⟩ | ⟨g, cap, cur, hv, _, hh, _⟩
  · injection h0 with h0; rw [h0] at hk; cases hk
  · have hA : A = some ⟨g, 0, none⟩ := by injection hv
    rw [hA] at hk
    obtain rfl : g = k := by injection hk
    exact ⟨cur, hh⟩
theorem ne (h : RowIn f size e w F A c L) {g : Nat} {cs : Array Value} {t : TypeId} (hg : w.heap[g]? = some (.cells cs t (0, 0))) (hne : e ≠ t) : Go.Proofs.YtpigekbfngalbaaDoor.blk A ≠ some g := by
  intro hk
  obtain ⟨cur, hc⟩ := h.tag hk
  rw [hc] at hg
  exact hne (Obj.cells.inj (Option.some.inj hg)).2.1
theorem get (h : RowIn f size e w F A c L) (i : Nat) (hi : i < L.length) : ∃ g, A = some ⟨g, 0, none⟩ ∧ g < w.heap.size ∧ F g ∧ (∀ k, k < size → w.cell? ⟨g, i * size + k, none⟩ = (f L[i])[k]?) ∧ ∀ k, w.frozen? ⟨g, k, none⟩ = false := by
  rcases h.row.2 with ⟨_, h0⟩ | ⟨g, cap, cur, hv, _, hh, _⟩
  · omega
  · have hA : A = some ⟨g, 0, none⟩ := by injection hv
    subst hA
    refine ⟨g, rfl, (Array.getElem?_eq_some_iff.1 hh).1, h.blk g rfl, fun k hk => ?_, fun k => h.row.frozenAt k⟩
    have hlt : i * size + k < L.length * size := by
      have := Nat.mul_le_mul_right size (show i + 1 ≤ L.length by omega)
      rw [Nat.succ_mul] at this
      omega
    rw [h.row.cellAt _ hlt]
    exact flat_get f size h.fits L i hi k hk
theorem cap (h : RowIn f size e w F A c L) : L.length ≤ c := by
  rcases h.row.2 with ⟨h0, h1⟩ | ⟨g, cap, cur, hv, _, _, hc, _⟩
  · omega
  · have : c = cap := by injection hv
    omega
theorem capLe (h : RowIn f size e w F A c L) : c ≤ maxLen := by
  rcases h.row.2 with ⟨h0, h1⟩ | ⟨g, cap, cur, hv, _, _, hc, hm, _⟩
  · have : c = 0 := by injection h0
    omega
  · have : c = cap := by injection hv
    omega
theorem none_ (h : RowIn f size e w F A c L) : A = none → c = 0 := by
  rintro rfl
  rcases h.row.2 with ⟨h0, h1⟩ | ⟨g, cap, cur, hv, _⟩
  · injection h0
  · cases hv
theorem put (h : RowIn f size e w F A c L) {g : Nat} (hA : A = some ⟨g, 0, none⟩) (i k : Nat) (hi : i < L.length) (hk : k < size) (v : Value) (x' : α) (hx : f x' = (f L[i]).set k v) : RowIn f size e (w.setCell ⟨g, i * size + k, none⟩ v) F A c (L.set i x') := by
  subst hA
  refine ⟨h.fits, ?_, h.blk⟩
  rw [List.length_set, flat_set f size h.fits x' k v L i hi hk hx]
  exact (h.row.stored _ v).1
theorem below (h : RowIn f size e w F A c L) (hb : Below w.heap.size w w') : RowIn f size e w' F A c L := h.keep (S := fun _ => False) (Turned.ofBelow _ hb) (fun _ _ h => h)
end RowIn

/-- one element more -/
theorem run_append_row {P : Program} {α : Type} {f : α → List Value} {size bytes : Nat} {e : TypeId} {w : World} {F : Nat → Prop} {A : Option Addr} {c : Nat} {L : List α} (t ty : TypeId) (i : TypeInfo) (z : Value)
    (ht : P.underlying t = some (.slice e)) (hi : P.info? e = some i) (hz : i.zero = some z) (hsize : i.size = size) (hby : i.bytes = bytes) (hzs : z.cells.size = size) (hsz : 0 < size)
    (h : RowIn f size e w F A c L) (y : α) (ad : Addr) (c' : Nat) (hy : ∀ k, k < size → w.cell? (ad.add k) = (f y)[k]?) (h1 : ∀ u ∈ f y, u.oneCell' = true)
    (hb : (L.length + 1) * bytes ≤ 140737488355328) (hl : L.length + 1 ≤ 100000) :
    ∃ A2 c2 w', (Builtin.append_ #[t, t] ty #[.slice A L.length c, .slice (some ad) 1 c']).run P w = .ok (.slice A2 (L.length + 1) c2) w' ∧ RowIn f size e w' (fun k => F k ∨ w.heap.size ≤ k) A2 c2 (L ++ [y]) ∧ w.grownBy w' (blk A) ∧ (blk A2 = blk A ∨ blk A2 = some w.heap.size) := by
  obtain ⟨v', w', hr, h2, h3, _, h4⟩ := run_append_own_at (P := P) w 0 t ty e i z size bytes ht hi hz hsize hby hzs hsz _ L.length (L.flatMap f) h.row ad 1 c' (f y) (by rw [h.fits, Nat.one_mul])
    (fun j u hj => by
      have hlt : j < size := by have := (List.getElem?_eq_some_iff.1 hj).1; rwa [h.fits] at this
      rw [hy j hlt]; exact hj) h1 (by unfold maxLen; omega) hb (Nat.zero_le _)
  obtain ⟨A2, c2, rfl⟩ := own_slice h2
  rw [ownBlock_slice] at h3
  rw [ownBlock_slice, ownBlock_slice] at h4
  refine ⟨A2, c2, w', hr, ⟨h.fits, ?_, fun k hk => ?_⟩, h3, h4⟩
  · rw [List.length_append, List.flatMap_append]
    simpa using h2
  · rcases h4 with h4 | h4
    · exact .inl (h.blk k (by rw [← h4]; exact hk))
    · rw [h4] at hk
      injection hk with hk
      exact .inr (by omega)
/-- .. as an operation -/
theorem wp_append_row {P : Program} {w : World} {o : Oper} {a : Act} {K : Act → World → Prop} {Q : Exit → Act → World → Prop} (s x : Operand) (t : TypeId)
    (ho : o.op = .call { callee := .builtin .append, args := #[s, x], argTypes := #[t, t] }) {α : Type} {f : α → List Value} {size bytes : Nat} {e : TypeId} {F : Nat → Prop} {A : Option Addr} {c : Nat} {L : List α} (i : TypeInfo) (z : Value)
    (ht : P.underlying t = some (.slice e)) (hi : P.info? e = some i) (hz : i.zero = some z) (hsize : i.size = size) (hby : i.bytes = bytes) (hzs : z.cells.size = size) (hsz : 0 < size)
    (h : RowIn f size e w F A c L) (n : Nat) (hn : L.length = n) (hs : a.eval s = .slice A n c) (y : α) (ad : Addr) (c' : Nat) (hx : a.eval x = .slice (some ad) 1 c') (hy : ∀ k, k < size → w.cell? (ad.add k) = (f y)[k]?) (h1 : ∀ u ∈ f y, u.oneCell' = true)
    (hb : (n + 1) * bytes ≤ 140737488355328) (hl : n + 1 ≤ 100000)
    (hK : ∀ A2 c2 w', RowIn f size e w' (fun k => F k ∨ w.heap.size ≤ k) A2 c2 (L ++ [y]) → w.grownBy w' (blk A) → (blk A2 = blk A ∨ blk A2 = some w.heap.size) → K (a.put o.dst (.slice A2 (n + 1) c2)) w') : o.wp P a w K Q := by
  subst hn
  obtain ⟨A2, c2, w', hr, h2, h3, h4⟩ := run_append_row (P := P) t o.type i z ht hi hz hsize hby hzs hsz h y ad c' hy h1 hb hl
  unfold Oper.wp execOp
  simp only [ho, resolve, invoke, builtin, Sem.run_bind, Sem.run_pure, Result.andThen_ok, List.map_toArray, List.map_cons, List.map_nil, hs, hx, hr]
  exact hK A2 c2 w' h2 h3 h4
theorem step_append_row {P : Program} {w : World} {ops : Array Oper} {o : Oper} {a : Act} {K : Act → World → Prop} {Q : Exit → Act → World → Prop} {E : Prop} (hgd : o.guard = none) (s x : Operand) (t : TypeId)
    (ho : o.op = .call { callee := .builtin .append, args := #[s, x], argTypes := #[t, t] }) {α : Type} {f : α → List Value} {size bytes : Nat} {e : TypeId} {F : Nat → Prop} {A : Option Addr} {c : Nat} {L : List α} (i : TypeInfo) (z : Value)
    (ht : P.underlying t = some (.slice e)) (hi : P.info? e = some i) (hz : i.zero = some z) (hsize : i.size = size) (hby : i.bytes = bytes) (hzs : z.cells.size = size) (hsz : 0 < size)
    (h : RowIn f size e w F A c L) (n : Nat) (hn : L.length = n) (hs : a.eval s = .slice A n c) (y : α) (ad : Addr) (c' : Nat) (hx : a.eval x = .slice (some ad) 1 c') (hy : ∀ k, k < size → w.cell? (ad.add k) = (f y)[k]?) (h1 : ∀ u ∈ f y, u.oneCell' = true)
    (hb : (n + 1) * bytes ≤ 140737488355328) (hl : n + 1 ≤ 100000)
    (hK : ∀ A2 c2 w', RowIn f size e w' (fun k => F k ∨ w.heap.size ≤ k) A2 c2 (L ++ [y]) → w.grownBy w' (blk A) → (blk A2 = blk A ∨ blk A2 = some w.heap.size) → K (a.put o.dst (.slice A2 (n + 1) c2)) w') :
    if Region.wanted o (yielded ops a.tmps) = true then Oper.wp P o a w K Q else E := by
  have hw : Region.wanted o (yielded ops a.tmps) = true := by simp [Region.wanted, hgd]
  rw [if_pos hw]
  exact wp_append_row s x t ho i z ht hi hz hsize hby hzs hsz h n hn hs y ad c' hx hy h1 hb hl hK
theorem wpList_append_row {P : Program} {w : World} {ops : Array Oper} {rest : List Oper} {o : Oper} {a : Act} {Q : Exit → Act → World → Prop} (hgd : o.guard = none) (s x : Operand) (t : TypeId)
    (ho : o.op = .call { callee := .builtin .append, args := #[s, x], argTypes := #[t, t] }) {α : Type} {f : α → List Value} {size bytes : Nat} {e : TypeId} {F : Nat → Prop} {A : Option Addr} {c : Nat} {L : List α} (i : TypeInfo) (z : Value)
    (ht : P.underlying t = some (.slice e)) (hi : P.info? e = some i) (hz : i.zero = some z) (hsize : i.size = size) (hby : i.bytes = bytes) (hzs : z.cells.size = size) (hsz : 0 < size)
    (h : RowIn f size e w F A c L) (n : Nat) (hn : L.length = n) (hs : a.eval s = .slice A n c) (y : α) (ad : Addr) (c' : Nat) (hx : a.eval x = .slice (some ad) 1 c') (hy : ∀ k, k < size → w.cell? (ad.add k) = (f y)[k]?) (h1 : ∀ u ∈ f y, u.oneCell' = true)
    (hb : (n + 1) * bytes ≤ 140737488355328) (hl : n + 1 ≤ 100000)
    (hK : ∀ A2 c2 w', RowIn f size e w' (fun k => F k ∨ w.heap.size ≤ k) A2 c2 (L ++ [y]) → w.grownBy w' (blk A) → (blk A2 = blk A ∨ blk A2 = some w.heap.size) → wpList P ops Q rest (a.put o.dst (.slice A2 (n + 1) c2)) w') : wpList P ops Q (o :: rest) a w :=
  wpList_plain hgd fun _ hKK => wp_append_row s x t ho i z ht hi hz hsize hby hzs hsz h n hn hs y ad c' hx hy h1 hb hl fun A2 c2 w' h1 h2 h3 => hKK _ _ (hK A2 c2 w' h1 h2 h3)

/-- 'clear' of a part of a row, whatever its elements -/
theorem run_clear_sliceN {P : Program} (w : World) (t e ty : TypeId) (z : Value) (zs : List Value) (n c : Nat) (ht : P.underlying t = some (.slice e)) (hv : ∀ w, (zeroValue e).run P w = .ok z w) (hz : (Builtin.zeroCells z.cells n).toList = zs) (h1 : ∀ u ∈ zs, u.oneCell' = true) (b o : Nat) (hn : 0 < n)
    (hc : ∀ j, j < zs.length → (w.cell? ⟨b, o + j, none⟩).isSome = true) (hf : ∀ j, j < zs.length → w.frozen? ⟨b, o + j, none⟩ = false) :
    (Builtin.clear_ #[t] ty #[.slice (some ⟨b, o, none⟩) n c]).run P w = .ok (.tuple #[]) (w.setCells b o zs) := by
  have hst := run_storeCells_cells (P := P) b o zs 0 w (by simpa using hc) (by simpa using hf) h1
  simp only [Nat.add_zero] at hst
  obtain ⟨m, rfl⟩ : ∃ m, n = m + 1 := ⟨n - 1, by omega⟩
  simp [Builtin.clear_, run_underlying ht, hv, hz, hst]

/-- cells laid over a list -/
def setL : List Value → Nat → List Value → List Value
  | xs, _, [] => xs
  | xs, o, v :: r => setL (xs.set o v) (o + 1) r
theorem take_set_le {α : Type} (l : List α) (o j : Nat) (v : α) (h : o ≤ j) : (l.set j v).take o = l.take o := by
  apply List.ext_getElem?
  intro k
  rw [List.getElem?_take, List.getElem?_take]
  split
  · rw [List.getElem?_set_ne (by omega)]
  · rfl
theorem setL_ahead : ∀ (vs xs : List Value) (o j : Nat), j ≤ o → (setL xs o vs).take j = xs.take j
  | [], _, _, _, _ => rfl
  | v :: r, xs, o, j, h => by
    unfold setL
    rw [setL_ahead r _ _ _ (by omega), take_set_le _ _ _ _ h]
theorem setL_take : ∀ (vs xs : List Value) (o : Nat), o + vs.length ≤ xs.length → (setL xs o vs).take (o + vs.length) = xs.take o ++ vs
  | [], xs, o, _ => by simp [setL]
  | v :: r, xs, o, h => by
    rw [List.length_cons] at h
    unfold setL
    rw [List.length_cons, show o + (r.length + 1) = o + 1 + r.length by omega, setL_take r _ _ (by rw [List.length_set]; omega), List.take_succ_eq_append_getElem (by rw [List.length_set]; omega), take_set_le _ _ _ _ (Nat.le_refl _), List.getElem_set_self]
    simp
theorem ownsRow_setCells {base size n cap g : Nat} {e : TypeId} : ∀ (vs : List Value) (w : World) (xs : List Value) (o : Nat), w.ownsRow base e size (.slice (some ⟨g, 0, none⟩) n cap) n xs → (w.setCells g o vs).ownsRow base e size (.slice (some ⟨g, 0, none⟩) n cap) n (setL xs o vs)
  | [], _, _, _, h => h
  | v :: r, _, _, o, h => ownsRow_setCells r _ _ _ (h.stored o v).1
theorem ownsRow_shrink {w : World} {base size n m cap : Nat} {A : Option Addr} {e : TypeId} {xs : List Value} (h : w.ownsRow base e size (.slice A n cap) n xs) (hm : m ≤ n) : w.ownsRow base e size (.slice A m cap) m (xs.take (m * size)) := by
  have hle : m * size ≤ n * size := Nat.mul_le_mul_right _ hm
  refine ⟨by rw [List.length_take, h.1]; omega, ?_⟩
  rcases h.2 with ⟨h0, h1⟩ | ⟨g, cap', cur, hv, hg, hh, hc, hm2, hs, ht⟩
  · refine .inl ⟨?_, by omega⟩
    injection h0 with e1 e2 e3
    rw [e1, e3, show m = 0 by omega]
  · injection hv with e1 e2 e3
    subst e1
    subst e3
    refine .inr ⟨g, cap, cur, rfl, hg, hh, by omega, hm2, hs, ?_⟩
    rw [← ht, List.take_take, Nat.min_eq_left hle]
theorem turned_setCells (g : Nat) : ∀ (vs : List Value) (w : World) (o : Nat), Turned (fun k => k = g) w (w.setCells g o vs)
  | [], w, _ => Turned.refl _ w
  | v :: r, w, o => (Turned.one w g o v).trans (turned_setCells g r _ _)
end Go.Proofs.YtpigekbfngalbaaDoor
namespace Go.Proofs.YtpigekbfngalbaaDoor
open Go.RowKit

/-- an entry lies at ⟨b, o⟩, its bytes below B -/
def EnAt (w : World) (B b o : Nat) (e : Rl.En) : Prop :=
  ∃ A c, w.cell? ⟨b, o, none⟩ = some (.int .i64 e.t) ∧ w.cell? ⟨b, o + 1, none⟩ = some (.int .i64 e.k) ∧ w.cell? ⟨b, o + 2, none⟩ = some (.slice A e.d.length c) ∧ IsBytes w B A e.d ∧ (e.d.length ≤ c ∧ c ≤ maxLen) ∧ (A = none → c = 0)
/-- Below block B a slice at A holds these entries. -/
structure IsEnts (w : World) (B : Nat) (A : Option Addr) (L : List Rl.En) : Prop where
  num : ∀ e ∈ L, InInt e.t ∧ InInt e.k
  cells : ∀ k, k < L.length → ∃ b off, A = some ⟨b, off, none⟩ ∧ b < B ∧ ∀ i (h : i < L.length), EnAt w B b (off + i * 3) L[i]
theorem EnAt.below {w w' : World} {B b o : Nat} {e : Rl.En} (h : EnAt w B b o e) (hb : b < B) (hB : Below B w w') : EnAt w' B b o e := by
  obtain ⟨A, c, h0, h1, h2, h3, h4, h5⟩ := h
  exact ⟨A, c, (hB.cell hb).trans h0, (hB.cell hb).trans h1, (hB.cell hb).trans h2, h3.below hB, h4, h5⟩
namespace IsEnts
variable {w w' : World} {B B' : Nat} {A : Option Addr} {L : List Rl.En}
theorem nil : IsEnts w B A [] := ⟨by simp, fun k h => by simp at h⟩
theorem below (h : IsEnts w B A L) (hb : Below B w w') : IsEnts w' B A L := ⟨h.num, fun k hk => by
  obtain ⟨b, off, e, hlt, hc⟩ := h.cells k hk
  exact ⟨b, off, e, hlt, fun i hi => (hc i hi).below hlt hb⟩⟩
theorem more (h : IsEnts w B A L) (hB : B ≤ B') : IsEnts w B' A L := ⟨h.num, fun k hk => by
  obtain ⟨b, off, e, hlt, hc⟩ := h.cells k hk
  refine ⟨b, off, e, by omega, fun i hi => ?_⟩
  obtain ⟨A, c, h0, h1, h2, h3, h4⟩ := hc i hi
  exact ⟨A, c, h0, h1, h2, h3.more hB, h4⟩⟩
theorem drewN (h : IsEnts w B A L) (n : Nat) : IsEnts (w.drewN n) B A L := h.below (below_drewN (Below.refl _ _) n)
theorem drew (h : IsEnts w B A L) : IsEnts w.drew B A L := h.below (Below.refl _ _).drew
theorem take (h : IsEnts w B A L) (n : Nat) : IsEnts w B A (L.take n) := ⟨fun e he => h.num e (List.mem_of_mem_take he), fun k hk => by
  have hk' : k < L.length := by rw [List.length_take] at hk; omega
  obtain ⟨b, off, e, hlt, hc⟩ := h.cells k hk'
  refine ⟨b, off, e, hlt, fun i hi => ?_⟩
  have hi' : i < L.length := by rw [List.length_take] at hi; omega
  rw [List.getElem_take]
  exact hc i hi'⟩
/-- the entries from the i-th one on: what 's[i:]' tells -/
theorem sl (h : IsEnts w B A L) {c i : Nat} (hc : L.length ≤ c) : IsEnts w B (if c = i then A else A.map (fun x => x.add (i * 3))) (L.drop i) := by
  by_cases hi : L.length ≤ i
  · rw [List.drop_of_length_le hi]; exact IsEnts.nil
  · rw [if_neg (by omega)]
    refine ⟨fun e he => h.num e (List.mem_of_mem_drop he), fun k hk => ?_⟩
    rw [List.length_drop] at hk
    obtain ⟨b, off, rfl, hlt, hcs⟩ := h.cells k (by omega)
    refine ⟨b, off + i * 3, by simp [add_off], hlt, fun j hj => ?_⟩
    rw [List.length_drop] at hj
    rw [List.getElem_drop, show off + i * 3 + j * 3 = off + (i + j) * 3 by omega]
    exact hcs (i + j) (by omega)
theorem few (h : IsEnts w B A L) (k : Nat) (hk : k < L.length) : L[k].d.length ≤ maxLen := by
  obtain ⟨b, off, _, _, hc⟩ := h.cells k hk
  obtain ⟨_, _, _, _, _, _, h4, _⟩ := hc k hk
  omega
end IsEnts
theorem slA_none {A : Option Addr} {c i : Nat} (h : A = none → c = 0) : (if c = i then A else A.map (fun x => x.add (i * 3))) = none → c - i = 0 := by
  intro e
  split at e
  · omega
  · rcases A with _ | a
    · have := h rfl; omega
    · cases e

/-- an entry where it lies: its bytes' address and room -/
structure El where
  e : Rl.En
  A : Option Addr
  c : Nat
def cellsE (q : El) : List Value := [.int .i64 q.e.t, .int .i64 q.e.k, .slice q.A q.e.d.length q.c]
theorem cellsE_one (y : El) : ∀ u ∈ cellsE y, u.oneCell' = true := by
  intro u hu
  simp [cellsE] at hu
  rcases hu with rfl | rfl | rfl <;> rfl
theorem info_entry : (Tryd.prog.info? 61).map (fun i => (i.zero, i.size, i.bytes)) = some (some (.agg #[.int .i64 0, .int .i64 0, .slice none 0 0]), 3, 40) := by kernel_rfl

theorem OwnsB.turned {e : TypeId} {w w' : World} {S : Nat → Prop} {base c : Nat} {A : Option Addr} {l : List Nat} (h : OwnsB e w base A c l) (ht : Turned S w w') (hd : ∀ k, blk A = some k → ¬ S k) : OwnsB e w' base A c l :=
  ⟨h.small, ownsRow_turned h.row ht (fun k hk => hd k (by rw [← ownBlock_slice A l.length c]; exact hk))⟩
theorem OwnsB.ne {e : TypeId} {w : World} {base c g : Nat} {A : Option Addr} {l : List Nat} {cs : Array Value} {t : TypeId} (h : OwnsB e w base A c l) (hg : w.heap[g]? = some (.cells cs t (0, 0))) (hne : e ≠ t) : blk A ≠ some g := by
  intro hk
  rcases h.row.2 with ⟨h0, _⟩ | ⟨g', cap, cur, hv, _, hh, _⟩
  · injection h0 with h0; rw [h0] at hk; cases hk
  · have hA : A = some ⟨g', 0, none⟩ := by injection hv
    rw [hA] at hk
    obtain rfl : g' = g := by injection hk
    rw [hh] at hg
    exact hne (Obj.cells.inj (Option.some.inj hg)).2.1
theorem OwnsB.room {e : TypeId} {w : World} {base c : Nat} {A : Option Addr} {l : List Nat} (h : OwnsB e w base A c l) : l.length ≤ c ∧ c ≤ maxLen := by
  refine ⟨h.cap, ?_⟩
  rcases h.row.2 with ⟨h1, _⟩ | ⟨g, cap, cur, h1, _, _, _, h2, _⟩
  · injection h1 with h1 h2 h3; omega
  · injection h1 with h3 h4 h5; omega
/-- no two of these blocks are one -/
def Apart (l : List (Option Nat)) : Prop := l.Pairwise fun x y => ∀ k, x = some k → y ≠ some k
/-- the blocks from B on, below N -/
def Bl (B N : Nat) : Nat → Prop := fun k => B ≤ k ∧ k < N
/-- Entries that the call has made: their row, and the bytes of each, in blocks of their own from B on, below N. -/
structure EntsAt (w : World) (B N : Nat) (A : Option Addr) (c : Nat) (M : List El) : Prop where
  row : RowIn cellsE 3 61 w (Bl B N) A c M
  own : ∀ q ∈ M, OwnsB 5 w 0 q.A q.c q.e.d ∧ ∀ k, blk q.A = some k → Bl B N k
  apart : Apart (M.map fun q => blk q.A)
  num : ∀ q ∈ M, InInt q.e.t ∧ InInt q.e.k
namespace EntsAt
variable {w w' : World} {B B' N N' : Nat} {A : Option Addr} {c : Nat} {M : List El}
theorem keep {S : Nat → Prop} (h : EntsAt w B N A c M) (ht : Turned S w w') (hs : ∀ k, S k → ¬ Bl B N k) : EntsAt w' B N A c M :=
  ⟨h.row.keep ht (fun k hk hS => hs k hS (h.row.blk k hk)), fun q hq => ⟨(h.own q hq).1.turned ht (fun k hk hS => hs k hS ((h.own q hq).2 k hk)), (h.own q hq).2⟩, h.apart, h.num⟩
theorem below (h : EntsAt w B N A c M) (hb : Below N w w') : EntsAt w' B N A c M :=
  h.keep (S := fun k => N ≤ k) ⟨hb.os, hb.tape, hb.output, hb.size, fun k _ hn => hb.block k (by omega)⟩ (fun k hk hB => by have := hB.2; omega)
theorem wide (h : EntsAt w B N A c M) (hB : B' ≤ B) (hN : N ≤ N') : EntsAt w B' N' A c M :=
  ⟨h.row.mono (fun k hk => ⟨by have := (h.row.blk k hk).1; omega, by have := (h.row.blk k hk).2; omega⟩), fun q hq => ⟨(h.own q hq).1, fun k hk => ⟨by have := ((h.own q hq).2 k hk).1; omega, by have := ((h.own q hq).2 k hk).2; omega⟩⟩, h.apart, h.num⟩
theorem reads (h : EntsAt w B N A c M) : IsEnts w N A (M.map (·.e)) := ⟨fun e he => by
  obtain ⟨q, hq, rfl⟩ := List.mem_map.1 he
  exact h.num q hq, fun k hk => by
  rw [List.length_map] at hk
  obtain ⟨g, hA, hg, hF, _, _⟩ := h.row.get k hk
  refine ⟨g, 0, hA, hF.2, fun i hi => ?_⟩
  rw [List.length_map] at hi
  obtain ⟨g', hA', _, _, hc, _⟩ := h.row.get i hi
  obtain rfl : g = g' := by rw [hA] at hA'; injection hA' with e; injection e
  have ho := h.own M[i] (List.getElem_mem hi)
  rw [List.getElem_map, Nat.zero_add]
  have hr : IsBytes w N M[i].A M[i].e.d := by
    refine ⟨ho.1.small, fun k hk => ?_⟩
    obtain ⟨b, off, e, _, hc⟩ := ho.1.reads.cells k hk
    exact ⟨b, off, e, (ho.2 b (by rw [e]; rfl)).2, hc⟩
  exact ⟨M[i].A, M[i].c, hc 0 (by omega), hc 1 (by omega), hc 2 (by omega), hr, ho.1.room, ho.1.none_⟩⟩
theorem nil (w : World) (B N : Nat) : EntsAt w B N none 0 [] := ⟨RowIn.nil (f := cellsE) (fun _ => rfl) _ _ _, by simp, List.Pairwise.nil, by simp⟩
end EntsAt
/-- .. as the entries that they are -/
def OwnE (w : World) (B N : Nat) (A : Option Addr) (c : Nat) (L : List Rl.En) : Prop := ∃ M : List El, M.map (·.e) = L ∧ EntsAt w B N A c M
namespace OwnE
variable {w w' : World} {B B' N N' : Nat} {A : Option Addr} {c : Nat} {L : List Rl.En}
theorem nil (w : World) (B N : Nat) : OwnE w B N none 0 [] := ⟨[], rfl, EntsAt.nil w B N⟩
theorem keep {S : Nat → Prop} (h : OwnE w B N A c L) (ht : Turned S w w') (hs : ∀ k, S k → ¬ Bl B N k) : OwnE w' B N A c L := by
  obtain ⟨M, h1, h2⟩ := h; exact ⟨M, h1, h2.keep ht hs⟩
theorem below (h : OwnE w B N A c L) (hb : Below N w w') : OwnE w' B N A c L := by
  obtain ⟨M, h1, h2⟩ := h; exact ⟨M, h1, h2.below hb⟩
theorem wide (h : OwnE w B N A c L) (hB : B' ≤ B) (hN : N ≤ N') : OwnE w B' N' A c L := by
  obtain ⟨M, h1, h2⟩ := h; exact ⟨M, h1, h2.wide hB hN⟩
theorem reads (h : OwnE w B N A c L) : IsEnts w N A L := by
  obtain ⟨M, h1, h2⟩ := h; rw [← h1]; exact h2.reads
theorem room (h : OwnE w B N A c L) : L.length ≤ c ∧ c ≤ maxLen := by
  obtain ⟨M, h1, h2⟩ := h; rw [← h1, List.length_map]; exact ⟨h2.row.cap, h2.row.capLe⟩
theorem none_ (h : OwnE w B N A c L) : A = none → c = 0 := by
  obtain ⟨M, h1, h2⟩ := h; exact h2.row.none_
end OwnE

/-- An entry is put behind entries that the call has made: its bytes were made from block N on. -/
theorem ent_put {w w' : World} {B N c c2 c' : Nat} {A A2 A' : Option Addr} {L : List Rl.En} {M : List El} (hM : M.map (·.e) = L) (h : EntsAt w B N A c M) (hBN : B ≤ N) (hN : N ≤ w.heap.size) (x : Rl.En) (hb : OwnsB 5 w N A' c' x.d) (hx : InInt x.t ∧ InInt x.k)
    (hrow : RowIn cellsE 3 61 w' (fun k => Bl B N k ∨ w.heap.size ≤ k) A2 c2 (M ++ [⟨x, A', c'⟩])) (hg : w.grownBy w' (blk A)) :
    OwnE w' B w'.heap.size A2 c2 (L ++ [x]) ∧ Below B w w' := by
  have hT : Turned (fun k => blk A = some k) w w' := Turned.ofGrown hg (fun k hk => hk)
  have hown : ∀ q : El, OwnsB 5 w 0 q.A q.c q.e.d → OwnsB 5 w' 0 q.A q.c q.e.d := fun q hq => hq.turned hT (fun k hk e => by
    obtain ⟨cur, hc⟩ := h.row.tag e
    exact hq.ne hc (by decide) hk)
  refine ⟨⟨M ++ [⟨x, A', c'⟩], by rw [List.map_append, hM]; rfl, ?_, ?_, ?_, ?_⟩, below_grown hg (by omega) (fun k hk => (h.row.blk k hk).1)⟩
  · refine hrow.mono (fun k hk => ⟨?_, hrow.lt k hk⟩)
    rcases hrow.blk k hk with e | e
    · exact e.1
    · omega
  · intro q hq
    rcases List.mem_append.1 hq with hq | hq
    · refine ⟨hown q (h.own q hq).1, fun k hk => ⟨((h.own q hq).2 k hk).1, ?_⟩⟩
      have := ((h.own q hq).2 k hk).2
      have := hT.size
      omega
    · obtain rfl := List.mem_singleton.1 hq
      have h0 : OwnsB 5 w 0 A' c' x.d := hb.weaken (Nat.zero_le _)
      refine ⟨hown _ h0, fun k hk => ?_⟩
      have := hb.blkLt k hk
      have := hT.size
      exact ⟨by omega, by omega⟩
  · unfold Apart
    rw [List.map_append, List.pairwise_append]
    refine ⟨h.apart, List.pairwise_singleton _ _, fun a ha b hb' k hk e => ?_⟩
    obtain ⟨q, hq, rfl⟩ := List.mem_map.1 ha
    obtain ⟨q', hq', rfl⟩ := List.mem_map.1 hb'
    obtain rfl := List.mem_singleton.1 hq'
    have h1 := ((h.own q hq).2 k hk).2
    have h2 := (hb.blkLt k e).1
    omega
  · intro q hq
    rcases List.mem_append.1 hq with hq | hq
    · exact h.num q hq
    · obtain rfl := List.mem_singleton.1 hq; exact hx
/-- .. as the walk meets it: an append of a literal of one entry -/
theorem wpList_append_ent {w : World} {ops : Array Oper} {rest : List Oper} {o : Oper} {a : Act} {Q : Exit → Act → World → Prop} (hgd : o.guard = none) (s y : Operand)
    (ho : o.op = .call { callee := .builtin .append, args := #[s, y], argTypes := #[22, 22] }) {B N c : Nat} {A : Option Addr} {L : List Rl.En} (h : OwnE w B N A c L) (hBN : B ≤ N) (hN : N ≤ w.heap.size)
    (n : Nat) (hn : L.length = n) (hs : a.eval s = .slice A n c) (x : Rl.En) (hx : InInt x.t ∧ InInt x.k) (A' : Option Addr) (c' : Nat) (hb : OwnsB 5 w N A' c' x.d) (ad : Addr) (ce : Nat) (hy : a.eval y = .slice (some ad) 1 ce) (hc : ∀ k, k < 3 → w.cell? (ad.add k) = (cellsE ⟨x, A', c'⟩)[k]?)
    (hl : n + 1 ≤ 100000)
    (hK : ∀ A2 c2 w', OwnE w' B w'.heap.size A2 c2 (L ++ [x]) → Below B w w' → wpList Tryd.prog ops Q rest (a.put o.dst (.slice A2 (n + 1) c2)) w') : wpList Tryd.prog ops Q (o :: rest) a w := by
  obtain ⟨i0, hi, hz0, hz1, hz2⟩ := info_parts info_entry
  obtain ⟨M, hM, hE⟩ := h
  exact wpList_append_row hgd s y 22 ho i0 _ Tryd.underlying22 hi hz0 hz1 hz2 rfl (by decide) hE.row n (by rw [← hn, ← hM, List.length_map]) hs ⟨x, A', c'⟩ ad ce hy hc (cellsE_one _) (by omega) hl
    fun A2 c2 w' h1 h2 _ => by
      obtain ⟨h4, h5⟩ := ent_put hM hE hBN hN x hb hx h1 h2
      exact hK A2 c2 w' h4 h5
theorem step_append_ent {w : World} {ops : Array Oper} {o : Oper} {a : Act} {K : Act → World → Prop} {Q : Exit → Act → World → Prop} {E : Prop} (hgd : o.guard = none) (s y : Operand)
    (ho : o.op = .call { callee := .builtin .append, args := #[s, y], argTypes := #[22, 22] }) {B N c : Nat} {A : Option Addr} {L : List Rl.En} (h : OwnE w B N A c L) (hBN : B ≤ N) (hN : N ≤ w.heap.size)
    (n : Nat) (hn : L.length = n) (hs : a.eval s = .slice A n c) (x : Rl.En) (hx : InInt x.t ∧ InInt x.k) (A' : Option Addr) (c' : Nat) (hb : OwnsB 5 w N A' c' x.d) (ad : Addr) (ce : Nat) (hy : a.eval y = .slice (some ad) 1 ce) (hc : ∀ k, k < 3 → w.cell? (ad.add k) = (cellsE ⟨x, A', c'⟩)[k]?)
    (hl : n + 1 ≤ 100000)
    (hK : ∀ A2 c2 w', OwnE w' B w'.heap.size A2 c2 (L ++ [x]) → Below B w w' → K (a.put o.dst (.slice A2 (n + 1) c2)) w') :
    if Region.wanted o (yielded ops a.tmps) = true then Oper.wp Tryd.prog o a w K Q else E := by
  obtain ⟨i0, hi, hz0, hz1, hz2⟩ := info_parts info_entry
  obtain ⟨M, hM, hE⟩ := h
  exact step_append_row hgd s y 22 ho i0 _ Tryd.underlying22 hi hz0 hz1 hz2 rfl (by decide) hE.row n (by rw [← hn, ← hM, List.length_map]) hs ⟨x, A', c'⟩ ad ce hy hc (cellsE_one _) (by omega) hl
    fun A2 c2 w' h1 h2 _ => by
      obtain ⟨h4, h5⟩ := ent_put hM hE hBN hN x hb hx h1 h2
      exact hK A2 c2 w' h4 h5
/-- a literal of one entry, just made -/
theorem cellsE_new (w : World) (N : Nat) (h : w.heap.size = N) (q : El) (t : TypeId) (k : Nat) : (w.alloc (.cells #[.int .i64 q.e.t, .int .i64 q.e.k, .slice q.A q.e.d.length q.c] t)).cell? ((⟨N, 0, none⟩ : Addr).add k) = (cellsE q)[k]? := by
  subst h
  rw [add_off, Nat.zero_add, cell_of_row _ w.heap.size k #[.int .i64 q.e.t, .int .i64 q.e.k, .slice q.A q.e.d.length q.c] t (0, 0) (heap_alloc_new w _)]
  exact List.getElem?_toArray (xs := cellsE q) ..
end Go.Proofs.YtpigekbfngalbaaDoor
namespace Go.Proofs.YtpigekbfngalbaaDoor
open Go.RowKit

/-- how many bytes they have -/
def weigh (L : List Rl.En) : Nat := (L.map (fun e => e.d.length)).sum
theorem weigh_take (L : List Rl.En) (k : Nat) (h : k < L.length) : weigh (L.take (k + 1)) = weigh (L.take k) + L[k].d.length := by
  unfold weigh
  rw [List.take_succ_eq_append_getElem h, List.map_append, List.sum_append]; simp
theorem weigh_le (L : List Rl.En) (k : Nat) : weigh (L.take k) ≤ weigh L := by
  conv => rhs; rw [← List.take_append_drop k L]
  unfold weigh
  rw [List.map_append, List.sum_append]; omega
theorem weigh_mem {L : List Rl.En} {e : Rl.En} (h : e ∈ L) : e.d.length ≤ weigh L := by
  induction L with
  | nil => cases h
  | cons a r ih =>
    have e1 : weigh (a :: r) = a.d.length + weigh r := by unfold weigh; simp
    rcases List.mem_cons.1 h with rfl | h
    · omega
    · have := ih h; omega
/-- many entries, or many bytes -/
def big (L : List Rl.En) (n m : Nat) : Bool := decide (n < L.length) || decide (m < weigh L)
theorem big_few {L : List Rl.En} {n : Nat} (h : big L n 65536 = false) : L.length ≤ n ∧ Rl.Few L := by
  unfold big at h
  rw [Bool.or_eq_false_iff, decide_eq_false_iff_not, decide_eq_false_iff_not] at h
  exact ⟨by omega, fun e he => by have := weigh_mem he; omega⟩

set_option maxHeartbeats 800000 in
set_option maxRecDepth 100000 in
theorem big_any (B : Nat) (A : Option Addr) (c n : Nat) (L : List Rl.En) (hn : L.length = n) (p q : Nat) (hp : p ≤ 1000000) (hq : q ≤ 1000000) (w : World) (h : IsEnts w B A L) :
    Calls Tryd.prog 58 #[.slice A n c, .int .i64 (p : Int), .int .i64 (q : Int)] w fun e w' => e = .returned (.bool (big L p q)) ∧ w' = w := by
  subst hn
  by_cases h0 : p < L.length
  · have e : big L p q = true := by simp [big, h0]
    rw [e]
    have h01 : (p : Int) < (L.length : Int) := by omega
    clear e h0 h
    go_enter Tryd.func58, Tryd.ntmps58
    go_wp2
    go_ret
    exact ⟨rfl, rfl⟩
  · have h01 : ¬ (p : Int) < (L.length : Int) := by omega
    have HL := hid h0
    have HH := hid h
    clear h0 h
    go_enter Tryd.func58, Tryd.ntmps58
    go_wp2_with fail
    go_loopw [7, 8] (fun s i wr => ∃ k v : Nat, k ≤ L.length ∧ s = .int .i64 v ∧ i = .int .i64 k ∧ v ≤ q ∧ Hid (v = weigh (L.take k)) ∧ wr = w) (fun _ i _ => L.length - (RowKit.intOf i).toNat)
    case atStart => exact ⟨0, 0, by omega, rfl, rfl, by omega, hid rfl, rfl⟩
    case round =>
      obtain ⟨k, v, hk, rfl, rfl, hv, hS, rfl⟩ := hrel
      by_cases hlt : k < L.length
      · obtain ⟨b, off, rfl, _, hc⟩ := HH.out.cells k hlt
        obtain ⟨Ad, cd, d0, d1, d2, hd, hd2, _⟩ := hc k hlt
        have hk0 : (k : Int) < (L.length : Int) := by omega
        have hw := weigh_take L k hlt
        have hw2 := weigh_le L (k + 1)
        have hw3 := hS.out
        obtain ⟨m, hm⟩ : ∃ m, m = L[k].d.length := ⟨_, rfl⟩
        rw [← hm] at d2 hw
        have HM := hid (And.intro hw (And.intro hw2 hw3))
        clear hc d0 d1 hd hd2 hw hw2 hw3 hm
        by_cases hmq : m ≤ q + 1
        · have hmq0 : (m : Int) ≤ (q : Int) + 1 := by omega
          by_cases hb : q < v + m
          · have HE : Hid (big L p q = true) := hid (by
              obtain ⟨hw, hw2, hw3⟩ := HM.out
              unfold big; rw [Bool.or_eq_true, decide_eq_true_iff, decide_eq_true_iff]; right; omega)
            have hb0 : (q : Int) < (v : Int) + (m : Int) := by omega
            go_wp2_with fail
            go_ret
            rw [HE.out]
            exact ⟨rfl, rfl⟩
          · have HV : Hid (v + m = weigh (L.take (k + 1))) := hid (by obtain ⟨hw, hw2, hw3⟩ := HM.out; omega)
            have hb0 : ¬ (q : Int) < (v : Int) + (m : Int) := by omega
            go_wp2_with fail
            go_roundw
            case rel => exact ⟨k + 1, v + m, by omega, by go_num, by go_num, by omega, HV, trivial⟩
            case measure => simp [RowKit.intOf]; omega
        · have hmq0 : ¬ (m : Int) ≤ (q : Int) + 1 := by omega
          have HE : Hid (big L p q = true) := hid (by
            obtain ⟨hw, hw2, hw3⟩ := HM.out
            unfold big; rw [Bool.or_eq_true, decide_eq_true_iff, decide_eq_true_iff]; right; omega)
          go_wp2_with fail
          go_ret
          rw [HE.out]
          exact ⟨rfl, rfl⟩
      · obtain rfl : k = L.length := by omega
        have HE : Hid (big L p q = false) := hid (by
          have e := hS.out
          rw [List.take_length] at e
          have := HL.out
          unfold big; rw [Bool.or_eq_false_iff, decide_eq_false_iff_not, decide_eq_false_iff_not]; omega)
        clear hS
        go_wp2_with fail
        go_ret
        rw [HE.out]
        exact ⟨rfl, rfl⟩
end Go.Proofs.YtpigekbfngalbaaDoor
