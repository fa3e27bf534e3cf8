/- In how many bits two rows are unlike, in plain words; what was sent. -/
import Derived.Test.YtckfjkhjnpkobaaPoInv
namespace Go.Proofs.Ytckfjkhjnpkobaa.Po

/-- how many bits of a number are set, of its f lowest -/
def popc : Nat → Nat → Nat
  | 0, _ => 0
  | f + 1, x => x % 2 + popc f (x / 2)
theorem popc_zero : ∀ f, popc f 0 = 0
  | 0 => rfl
  | f + 1 => by unfold popc; rw [Nat.zero_div, popc_zero f]
theorem popc_le : ∀ f x, popc f x ≤ f
  | 0, _ => Nat.le_refl _
  | f + 1, x => by unfold popc; have := popc_le f (x / 2); omega
/-- the bits in which the items of two rows are unlike -/
def unlike (l m : List Nat) : List Nat := List.zipWith (fun x y => popc 8 (x ^^^ y)) l m
theorem unlike_length (l m : List Nat) (h : l.length = m.length) : (unlike l m).length = l.length := by unfold unlike; rw [List.length_zipWith]; omega
theorem unlike_get (l m : List Nat) (k : Nat) (h1 : k < l.length) (h2 : k < m.length) : (unlike l m)[k]'(by unfold unlike; rw [List.length_zipWith]; omega) = popc 8 (l[k] ^^^ m[k]) := by unfold unlike; rw [List.getElem_zipWith]
def apart (l m : List Nat) : Int := if l.length = m.length then ((unlike l m).sum : Nat) else -1
theorem sum_take_succ (Z : List Nat) (k : Nat) (h : k < Z.length) : (Z.take (k + 1)).sum = (Z.take k).sum + Z[k] := by
  rw [List.take_succ_eq_append_getElem h, List.sum_append]; simp
theorem sum_le (l m : List Nat) : ∀ k, ((unlike l m).take k).sum ≤ 8 * k
  | 0 => by simp
  | k + 1 => by
    have ih := sum_le l m k
    by_cases h : k < (unlike l m).length
    · rw [sum_take_succ _ _ h]
      have hl : k < l.length ∧ k < m.length := by unfold unlike at h; rw [List.length_zipWith] at h; omega
      have : (unlike l m)[k] ≤ 8 := by rw [unlike_get l m k hl.1 hl.2]; exact popc_le 8 _
      omega
    · rw [List.take_of_length_le (by omega)]
      rw [List.take_of_length_le (by omega)] at ih
      omega
theorem zip_same (f : Nat → Nat → Nat) (hf : ∀ x, f x x = 0) : ∀ l : List Nat, (List.zipWith f l l).sum = 0
  | [] => rfl
  | x :: r => by rw [List.zipWith_cons_cons, List.sum_cons, hf, zip_same f hf r]
theorem zip_set (f : Nat → Nat → Nat) (hf : ∀ x, f x x = 0) (v : Nat) : ∀ (l : List Nat) (i : Nat) (h : i < l.length), (List.zipWith f l (l.set i v)).sum = f l[i] v
  | x :: r, 0, _ => by rw [List.set_cons_zero, List.zipWith_cons_cons, List.sum_cons, zip_same f hf r]; rfl
  | x :: r, i + 1, h => by rw [List.set_cons_succ, List.zipWith_cons_cons, List.sum_cons, hf, zip_set f hf v r i (by simpa using h), Nat.zero_add]; rfl
theorem apart_same (l : List Nat) : apart l l = 0 := by
  unfold apart unlike
  rw [if_pos rfl, zip_same _ (fun x => by rw [Nat.xor_self]; exact popc_zero 8)]
  rfl
theorem popc_pow (j : Nat) (h : j < 8) : popc 8 (2 ^ j) = 1 := by
  have : j = 0 ∨ j = 1 ∨ j = 2 ∨ j = 3 ∨ j = 4 ∨ j = 5 ∨ j = 6 ∨ j = 7 := by omega
  rcases this with rfl | rfl | rfl | rfl | rfl | rfl | rfl | rfl <;> decide
theorem apart_flip (l : List Nat) (bit : Nat) (h : bit / 8 < l.length) : apart l (flip l bit) = 1 := by
  unfold apart unlike
  rw [flip_length, if_pos rfl]
  unfold flip
  rw [List.getElem?_eq_getElem h, Option.getD_some, zip_set _ (fun x => by rw [Nat.xor_self]; exact popc_zero 8) _ l _ h, ← Nat.xor_assoc, Nat.xor_self, Nat.zero_xor, popc_pow _ (Nat.mod_lt _ (by decide))]
  rfl

/-- this packet was sent by one of these calls, but for one bit where it is turned -/
def Sent (ops : List Op) (x : Pk × Bool) : Prop := ∃ o ∈ ops, o.kind = 0 ∧ o.a = x.1.a ∧ o.b = x.1.b ∧ (x.2 = false → x.1.d = o.d) ∧ (x.2 = true → ∃ bit, bit / 8 < o.d.length ∧ x.1.d = flip o.d bit)
def AllSent (ops : List Op) (s : St) : Prop := ∀ x ∈ s.l, Sent ops x
theorem lay_sent {ops : List Op} {s : St} {x : Pk} {t : Bool} (h : AllSent ops s) (hx : Sent ops (x, t)) : AllSent ops (layS s x t) := by
  unfold layS
  split
  · exact h
  · intro y hy
    rcases List.mem_append.1 hy with hy | hy
    · exact h y hy
    · rw [List.mem_singleton.1 hy]; exact hx
theorem take_sent {ops : List Op} {s : St} (i : Int) (h : AllSent ops s) : AllSent ops (takeS s i) := by
  unfold takeS
  split
  · intro y hy; exact h y (List.mem_of_mem_eraseIdx hy)
  · exact h
theorem pkt_mem {s : St} {i : Int} (h : has s i = true) : pkt s i ∈ s.l := by
  have := has_iff.1 h
  unfold pkt
  rw [List.getElem?_eq_getElem (by omega), Option.getD_some]
  exact List.getElem_mem _
theorem turn_sent {ops : List Op} {s : St} (i bit : Int) (h : AllSent ops s) : AllSent ops (turnS s i bit) := by
  unfold turnS
  split
  · rename_i hc
    simp only [Bool.and_eq_true, Bool.not_eq_true'] at hc
    obtain ⟨⟨h1, h2⟩, h3⟩ := hc
    intro y hy
    rcases List.mem_or_eq_of_mem_set hy with hy | rfl
    · exact h y hy
    · obtain ⟨o, ho, k1, k2, k3, k4, _⟩ := h _ (pkt_mem h1)
      obtain ⟨n, rfl⟩ := Int.eq_ofNat_of_zero_le (has_iff.1 h1).1
      have hb : 0 ≤ bit ∧ bit / 8 < ((pkt s n).1.d.length : Int) := by unfold bitIn at h2; simpa using h2
      obtain ⟨m, rfl⟩ := Int.eq_ofNat_of_zero_le hb.1
      have e := k4 h3
      refine ⟨o, ho, k1, k2, k3, (fun e => by cases e), fun _ => ⟨m, ?_, ?_⟩⟩
      · rw [← e]; have := hb.2; omega
      · show flip (pkt s n).1.d m = flip o.d m
        rw [e]
  · exact h
theorem step_sent {ops : List Op} {s : St} {o : Op} (ho : o ∈ ops) (h : AllSent ops s) : AllSent ops (step s o) := by
  unfold step
  by_cases k0 : o.kind = 0
  · rw [if_pos k0]
    unfold sendS
    split
    · exact h
    · exact lay_sent h ⟨o, ho, k0, rfl, rfl, (fun _ => rfl), fun e => by cases e⟩
  · rw [if_neg k0]
    repeat' split
    · exact take_sent _ h
    · exact take_sent _ h
    · unfold dblS
      split
      · rename_i hh
        exact lay_sent h (h _ (pkt_mem hh))
      · exact h
    · exact turn_sent _ _ h
    · unfold cutS; repeat' split
      all_goals exact h
    · unfold joinS; split
      all_goals exact h
    · exact h
theorem fold_sent (ops : List Op) : ∀ (l : List Op) (s : St), (∀ o ∈ l, o ∈ ops) → AllSent ops s → AllSent ops (l.foldl step s)
  | [], _, _, h => h
  | o :: r, _, hl, h => fold_sent ops r _ (fun o' ho' => hl o' (List.mem_cons_of_mem _ ho')) (step_sent (hl o List.mem_cons_self) h)
theorem all_sent (ops : List Op) : AllSent ops (ops.foldl step new) := fold_sent ops ops new (fun _ h => h) (fun _ h => by cases h)
theorem sent_near {ops : List Op} {x : Pk × Bool} (h : Sent ops x) : ∃ j, ∃ h : j < ops.length, ops[j].kind = 0 ∧ ops[j].a = x.1.a ∧ ops[j].b = x.1.b ∧ (apart ops[j].d x.1.d = 0 ∨ apart ops[j].d x.1.d = 1) := by
  obtain ⟨o, ho, k1, k2, k3, k4, k5⟩ := h
  obtain ⟨j, hj, rfl⟩ := List.getElem_of_mem ho
  refine ⟨j, hj, k1, k2, k3, ?_⟩
  rcases hx : x.2 with _ | _
  · rw [k4 hx, apart_same]; exact .inl rfl
  · obtain ⟨bit, hb, e⟩ := k5 hx
    rw [e, apart_flip _ _ hb]; exact .inr rfl
end Go.Proofs.Ytckfjkhjnpkobaa.Po
