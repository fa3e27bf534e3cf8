/- What the walks say of memory: more of rows; an append of bytes. -/
import Derived.Test.YtdgijnolpjaheaaRowAt
import Derived.Test.YtdgijnolpjaheaaDiskC
namespace Go.Proofs.Ytdgijnolpjaheaa
open Go.RowKit

theorem RowsAt.shun {w : World} {Z : Nat → Prop} {v : Value} {L : List (List Nat)} (h : RowsAt w Z v L) : RowsAt w (fun k => Z k ∨ w.heap.size ≤ k) v L := by
  obtain ⟨vs, h1, h2⟩ := h.row
  refine ⟨⟨vs, h1, fun i hi => ?_⟩, fun k hk e => e.elim (h.off k hk) (fun e => by have := (h1.lt k hk).2; omega)⟩
  obtain ⟨h3, A, c, h4, h5⟩ := h2 i hi
  exact ⟨h3, A, c, h4, h5.shun⟩
theorem OwnsB.capLe {e : TypeId} {w : World} {base c : Nat} {A : Option Addr} {l : List Nat} (h : OwnsB e w base A c l) : c ≤ maxLen := by
  rcases h.row.2 with ⟨h0, h1⟩ | ⟨g, cap, cur, hv, _, _, hc, hm, _⟩
  · have : c = 0 := by injection h0
    rw [this]; exact Nat.zero_le _
  · have : c = cap := by injection hv
    rw [this]; exact hm
theorem DiskAt.rd_len {w : World} {Z : Nat → Prop} {d : Dk} {s : Sx.St} (h : DiskAt w Z d s) (i : Int) : (Sx.rdB s i).length ≤ 64 := by
  unfold Sx.rdB
  by_cases hi : 0 ≤ i ∧ i < s.n
  · rw [if_pos hi]
    obtain ⟨f, _, hf⟩ := h.map
    have h1 := hf i.toNat (by omega)
    obtain ⟨cur, _, _, hr⟩ := h.row
    have h2 := (hr i.toNat (by omega)).1
    cases hc : s.cache i.toNat with
    | none =>
      simp only
      split
      · simp
      · exact h2
    | some b =>
      simp only
      rw [hc] at h1
      cases hfi : f i.toNat with
      | none => rw [hfi] at h1; exact h1.elim
      | some v => rw [hfi] at h1; exact h1.1
  · rw [if_neg hi]; simp
/-- append of bytes, and where the row lies then -/
theorem wpList_append_bytesAt {P : Program} {w : World} {ops : Array Oper} {rest : List Oper} {o : Oper} {a : Act} {Q : Exit → Act → World → Prop} (hgd : o.guard = none) (s x : Operand) (t : TypeId)
    (ho : o.op = .call { callee := .builtin .append, args := #[s, x], argTypes := #[t, t] })
    (base : Nat) (e : TypeId) (i : TypeInfo) (ht : P.underlying t = some (.slice e)) (hi : P.info? e = some i) (hz : i.zero = some (.int .u8 0)) (hsize : i.size = 1) (hby : i.bytes = 1)
    (A : Option Addr) (c : Nat) (l : List Nat) (hs : a.eval s = .slice A l.length c) (hown : OwnsB e w base A c l)
    (B : Nat) (A' : Option Addr) (c' : Nat) (m : List Nat) (hx : a.eval x = .slice A' m.length c') (hnil : A' = none → c' = 0) (hr : IsBytes w B A' m)
    (hbytes : l.length + m.length ≤ 140737488355328) (hbase : base ≤ w.heap.size)
    (h : ∀ A2 c2 w', OwnsB e w' base A2 c2 (l ++ m) → w.grownBy w' (blk A) → (blk A2 = blk A ∨ blk A2 = some w.heap.size) → wpList P ops Q rest (a.put o.dst (.slice A2 (l.length + m.length) c2)) w') : wpList P ops Q (o :: rest) a w := by
  have hsm : ∀ y ∈ l ++ m, y < 256 := fun y hy => by
    rcases List.mem_append.1 hy with hy | hy
    · exact hown.small y hy
    · exact hr.small y hy
  rcases A' with _ | ad
  · obtain rfl := hr.of_none
    obtain rfl := hnil rfl
    refine wpList_append_own_none hgd s x t ho base e i 1 ht hi _ l.length (bytes l) hs hown.row hx ?_
    exact h A c w ⟨hsm, by simpa using hown.row⟩ (World.grownBy.refl w _) (.inl rfl)
  · refine wpList_append_own_at w hgd s x t ho base e i (.int .u8 0) 1 1 ht hi hz hsize hby rfl (by decide) _ l.length (bytes l) hs hown.row ad m.length c' (bytes m) hx (by rw [bytes_length]; omega) hr.news (bytes_oneCell m) (by unfold maxLen; omega) (by omega) hbase ?_
    intro v' w' h1 h2 _ h4
    obtain ⟨A2, c2, rfl⟩ := own_slice h1
    rw [bytes_append] at h1
    rw [ownBlock_slice, ownBlock_slice] at h4
    rw [ownBlock_slice] at h2
    exact h A2 c2 w' ⟨hsm, by rw [List.length_append]; exact h1⟩ h2 h4
end Go.Proofs.Ytdgijnolpjaheaa
