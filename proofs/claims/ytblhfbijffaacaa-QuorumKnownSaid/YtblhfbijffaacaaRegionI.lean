/- Appends of ints in a region whose order is open, also behind a guard. -/
import Derived.Test.YtblhfbijffaacaaGrown
import Derived.Deep.RegionHeld3
import Derived.Deep.AppendLies
import Derived.Deep.MidRow
import Derived.Deep.RegionLaw
namespace Go.Proofs.Ytblhfbijffaacaa
open Go.RowKit

theorem wp_append_ints {P : Program} {w : World} {o : Oper} {a : Act} {K : Act → World → Prop} {Q : Exit → Act → World → Prop} (s x : Operand) (t : TypeId)
    (ho : o.op = .call { callee := .builtin .append, args := #[s, x], argTypes := #[t, t] })
    (base : Nat) (e : TypeId) (i : TypeInfo) (ht : P.underlying t = some (.slice e)) (hi : P.info? e = some i) (hz : i.zero = some (.int .i64 0)) (hsize : i.size = 1) (hby : i.bytes = 8)
    (A : Option Addr) (c : Nat) (l : List Int) (n : Nat) (hln : l.length = n) (hs : a.eval s = .slice A n c) (hown : OwnsI e w base A c l)
    (B : Nat) (A' : Option Addr) (c' : Nat) (m : List Int) (k : Nat) (hmk : m.length = k) (hx : a.eval x = .slice A' k c') (hnil : A' = none → c' = 0) (hr : IsInts w B A' m)
    (L : List Int) (hL : l ++ m = L) (hbytes : (n + k) * 8 ≤ 140737488355328) (hbase : base ≤ w.heap.size)
    (h : ∀ A2 c2 w', OwnsI e w' base A2 c2 L → Below base w w' → K (a.put o.dst (.slice A2 (n + k) c2)) w') : o.wp P a w K Q := by
  subst hln
  subst hmk
  subst hL
  have hsm : ∀ y ∈ l ++ m, InInt y := fun y hy => by
    rcases List.mem_append.1 hy with hy | hy
    · exact hown.small y hy
    · exact hr.small y hy
  unfold Oper.wp execOp
  rcases A' with _ | ad
  · obtain rfl : m = [] := by
      rcases m with _ | ⟨y, m⟩
      · rfl
      · obtain ⟨b, off, e, _⟩ := hr.cells 0 (by simp)
        cases e
    obtain rfl := hnil rfl
    have hr' := run_append_owned_none (P := P) (w := w) base t o.type e i 1 ht hi _ l.length (ints l) hown.row
    simp only [ho, resolve, invoke, builtin, Sem.run_bind, Sem.run_pure, Result.andThen_ok, List.map_toArray, List.map_cons, List.map_nil, hs, hx, List.length_nil, hr']
    exact h A c w (by simpa using hown) (Below.refl _ _)
  · have hadd : ∀ j, (⟨ad.block, ad.off, ad.spot⟩ : Addr).add j = ad.add j := fun j => rfl
    obtain ⟨v', w', hr', h1, h2, _⟩ := run_append_own_at (P := P) w base t o.type e i (.int .i64 0) 1 8 ht hi hz hsize hby rfl (by decide) _ l.length (ints l) hown.row ad m.length c' (ints m) (by simp [ints])
      (fun j u hj => by
        have hj2 : j < m.length := by
          have := (List.getElem?_eq_some_iff.1 hj).1
          simpa [ints] using this
        obtain ⟨b, off, e, _, hc⟩ := hr.cells j hj2
        injection e with e
        subst e
        rw [ints_get m j hj2] at hj
        rw [add_off, hc j hj2]
        exact hj) (fun u hu => by
        unfold ints at hu
        obtain ⟨x, _, rfl⟩ := List.mem_map.1 hu
        rfl) (by unfold maxLen; omega) (by omega) hbase
    obtain ⟨A2, c2, rfl⟩ := own_slice h1
    have e2 : ints l ++ ints m = ints (l ++ m) := by unfold ints; rw [List.map_append]
    rw [e2] at h1
    simp only [ho, resolve, invoke, builtin, Sem.run_bind, Sem.run_pure, Result.andThen_ok, List.map_toArray, List.map_cons, List.map_nil, hs, hx, hr']
    exact h A2 c2 w' ⟨hsm, by rw [List.length_append]; exact h1⟩ (below_grown h2 hbase fun k hk => (hown.row.lt k hk).1)
theorem step_append_intsG {P : Program} {w : World} {ops : Array Oper} {o : Oper} {a : Act} {K : Act → World → Prop} {Q : Exit → Act → World → Prop} {E : Prop} (hw : Region.wanted o (yielded ops a.tmps) = true) (s x : Operand) (t : TypeId)
    (ho : o.op = .call { callee := .builtin .append, args := #[s, x], argTypes := #[t, t] })
    (base : Nat) (e : TypeId) (i : TypeInfo) (ht : P.underlying t = some (.slice e)) (hi : P.info? e = some i) (hz : i.zero = some (.int .i64 0)) (hsize : i.size = 1) (hby : i.bytes = 8)
    (A : Option Addr) (c : Nat) (l : List Int) (n : Nat) (hln : l.length = n) (hs : a.eval s = .slice A n c) (hown : OwnsI e w base A c l)
    (B : Nat) (A' : Option Addr) (c' : Nat) (m : List Int) (k : Nat) (hmk : m.length = k) (hx : a.eval x = .slice A' k c') (hnil : A' = none → c' = 0) (hr : IsInts w B A' m)
    (L : List Int) (hL : l ++ m = L) (hbytes : (n + k) * 8 ≤ 140737488355328) (hbase : base ≤ w.heap.size)
    (h : ∀ A2 c2 w', OwnsI e w' base A2 c2 L → Below base w w' → K (a.put o.dst (.slice A2 (n + k) c2)) w') :
    if Region.wanted o (yielded ops a.tmps) = true then Oper.wp P o a w K Q else E := by
  rw [if_pos hw]
  exact wp_append_ints s x t ho base e i ht hi hz hsize hby A c l n hln hs hown B A' c' m k hmk hx hnil hr L hL hbytes hbase h
end Go.Proofs.Ytblhfbijffaacaa
