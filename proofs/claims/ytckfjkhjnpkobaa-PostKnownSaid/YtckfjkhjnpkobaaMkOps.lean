/- A list of calls that the call itself is making, some behind others (PostKnown's knownFull). -/
import Derived.Test.YtckfjkhjnpkobaaKnown06
import Derived.Test.YtckfjkhjnpkobaaFlat
import Derived.Test.YtckfjkhjnpkobaaPostC
namespace Go.Proofs.Ytckfjkhjnpkobaa
open Go Go.RowKit

/-- from block B on a row of calls; the bytes of each are the call's own -/
structure Mk (w : World) (B : Nat) (A : Option Addr) (c : Nat) (L : List OpD) : Prop where
  row : RowIn OpD.cells 4 36 w (fun k => B ≤ k) A c L
  byt : ∀ d ∈ L, OwnsB 5 w 0 d.ap d.cp d.t.d
  num : ∀ d ∈ L, InInt d.t.kind ∧ InInt d.t.a ∧ InInt d.t.b
theorem opd_one (x : OpD) : ∀ u ∈ x.cells, u.oneCell' = true := by
  intro u hu
  simp [OpD.cells] at hu
  rcases hu with rfl | rfl | rfl | rfl <;> rfl
theorem capLe6 {e : TypeId} {w : World} {base c : Nat} {A : Option Addr} {l : List Nat} (h : OwnsB e w base A c l) : c ≤ maxLen := by
  rcases h.row.2 with ⟨h0, _⟩ | ⟨g, cap, cur, h1, _, _, h4, h5, _⟩
  · injection h0 with _ _ h0; subst h0; exact Nat.zero_le _
  · injection h1 with _ _ h1; subst h1; exact h5
namespace Mk
variable {w w' : World} {B : Nat} {A : Option Addr} {c : Nat} {L : List OpD}
theorem nil (w : World) (B : Nat) : Mk w B none 0 [] := ⟨RowIn.nil (f := OpD.cells) (fun _ => rfl) _ _ _, by simp, by simp⟩
theorem below (h : Mk w B A c L) (hb : Below w.heap.size w w') : Mk w' B A c L := ⟨h.row.below hb, fun d hd => (h.byt d hd).below hb, h.num⟩
theorem ops (h : Mk w B A c L) : IsOps w w.heap.size A (L.map (·.t)) := ⟨fun k hk => by
  have hk' : k < L.length := by simpa using hk
  obtain ⟨g, hA, hg, _, _, _⟩ := h.row.get k hk'
  refine ⟨g, 0, hA, hg, fun i hi => ?_⟩
  have hi' : i < L.length := by simpa using hi
  obtain ⟨g', hA', _, _, hc, _⟩ := h.row.get i hi'
  rw [hA] at hA'
  injection hA' with hA'
  injection hA' with hA'
  subst hA'
  have e : (L.map (·.t))[i] = L[i].t := by simp
  rw [e]
  have ho := h.byt _ (List.getElem_mem hi')
  have hn := h.num _ (List.getElem_mem hi')
  refine ⟨L[i].ap, L[i].cp, ?_, ?_, ?_, ?_, ho.reads, ⟨ho.cap, capLe6 ho⟩, ho.none_, hn.1, hn.2.1, hn.2.2⟩
  · rw [Nat.zero_add]; exact hc 0 (by decide)
  · rw [Nat.zero_add]; exact hc 1 (by decide)
  · rw [Nat.zero_add]; exact hc 2 (by decide)
  · rw [Nat.zero_add]; exact hc 3 (by decide)⟩
end Mk
/-- the calls of a literal, behind it -/
theorem wpList_append_ops {w : World} {ops : Array Oper} {rest : List Oper} {o : Oper} {a : Act} {Q : Exit → Act → World → Prop} (hgd : o.guard = none) (s x : Operand)
    (ho : o.op = .call { callee := .builtin .append, args := #[s, x], argTypes := #[22, 22] }) {B : Nat} {A : Option Addr} {c : Nat} {L : List OpD} (h : Mk w B A c L) (hB : B ≤ w.heap.size)
    (n : Nat) (hn : L.length = n) (hs : a.eval s = .slice A n c) (ys : List OpD) (m : Nat) (hm : ys.length = m) (ad : Addr) (c' : Nat) (hx : a.eval x = .slice (some ad) m c')
    (hy : ∀ j u, (ys.flatMap OpD.cells)[j]? = some u → w.cell? (ad.add j) = some u) (hyb : ∀ d ∈ ys, OwnsB 5 w 0 d.ap d.cp d.t.d) (hyn : ∀ d ∈ ys, InInt d.t.kind ∧ InInt d.t.a ∧ InInt d.t.b) (hl : n + m ≤ 100000)
    (hK : ∀ A2 c2 w', Mk w' B A2 c2 (L ++ ys) → Below B w w' → wpList Try.prog ops Q rest (a.put o.dst (.slice A2 (n + m) c2)) w') : wpList Try.prog ops Q (o :: rest) a w := by
  subst hn
  subst hm
  obtain ⟨i0, hi, hz0, hz1, hz2⟩ := info_parts info_op
  obtain ⟨v', w', hr, h2, h3, _, h4⟩ := run_append_own_at (P := Try.prog) w 0 22 o.type 36 i0 _ 4 48 Try.underlying22 hi hz0 hz1 hz2 rfl (by decide) _ L.length (L.flatMap OpD.cells) h.row.row ad ys.length c' (ys.flatMap OpD.cells) (flat_len OpD.cells 4 (fun _ => rfl) ys) hy
    (by intro u hu; obtain ⟨d, _, hu⟩ := List.mem_flatMap.1 hu; exact opd_one d u hu) (by unfold maxLen; omega) (by omega) (Nat.zero_le _)
  obtain ⟨A2, c2, rfl⟩ := own_slice h2
  rw [ownBlock_slice] at h3
  rw [ownBlock_slice, ownBlock_slice] at h4
  have hT : Turned (fun k => blk A = some k) w w' := Turned.ofGrown h3 (fun k hk => hk)
  have hkeep : ∀ d : OpD, OwnsB 5 w 0 d.ap d.cp d.t.d → OwnsB 5 w' 0 d.ap d.cp d.t.d := fun d hd => hd.turned hT (fun k hk e => by
    obtain ⟨cur, hc⟩ := h.row.tag e
    exact OwnsB.ne hd hc (by decide) hk)
  have hM : Mk w' B A2 c2 (L ++ ys) := by
    refine ⟨⟨fun _ => rfl, ?_, fun k hk => ?_⟩, fun d hd => ?_, fun d hd => ?_⟩
    · rw [List.length_append, List.flatMap_append]
      exact h2
    · rcases h4 with h4 | h4
      · exact h.row.blk k (by rw [← h4]; exact hk)
      · rw [h4] at hk
        injection hk with hk
        omega
    · rcases List.mem_append.1 hd with hd | hd
      · exact hkeep d (h.byt d hd)
      · exact hkeep d (hyb d hd)
    · rcases List.mem_append.1 hd with hd | hd
      · exact h.num d hd
      · exact hyn d hd
  have hBel : Below B w w' := below_grown h3 hB (fun k hk => h.row.blk k hk)
  refine wpList_plain hgd fun _ hKK => ?_
  unfold Oper.wp execOp
  simp only [ho, resolve, invoke, builtin, Sem.run_bind, Sem.run_pure, Result.andThen_ok, List.map_toArray, List.map_cons, List.map_nil, hs, hx, hr]
  exact hKK _ _ (hK A2 c2 w' hM hBel)
/-- a call without bytes; one with one byte, just made -/
def plain (kind a b : Int) : OpD := ⟨⟨kind, a, b, []⟩, none, 0⟩
theorem plain_own (w : World) (kind a b : Int) : OwnsB 5 w 0 (plain kind a b).ap (plain kind a b).cp (plain kind a b).t.d := OwnsB.nil _ _ _
theorem byte_own (w : World) (x : Nat) (hx : x < 256) : OwnsB 5 (w.alloc (.cells (bytes [x]).toArray 5)) 0 (some ⟨w.heap.size, 0, none⟩) 1 [x] :=
  ⟨by simpa using hx, World.ownsRow_lit (base := 0) (e := 5) (size := 1) w (bytes [x]).toArray 1 (Nat.zero_le _) (by unfold maxLen; omega) (by simp [bytes])⟩
theorem wrap_byte (k : Nat) : IntKind.u8.wrap (k : Int) = ((k % 256 : Nat) : Int) := by
  rw [IntKind.wrap_u8]
  omega
end Go.Proofs.Ytckfjkhjnpkobaa
