/- What is read of a message's bytes, in plain words: it is not great; what was put is read again; what is read was put so. -/
import Derived.Test.YtmaebemhephcmaaDoorMsL
namespace Go.Proofs.YtmaebemhephcmaaDoor.Ms
open Rl (En)
open Pk (St rdInt rdBlob)
set_option maxRecDepth 100000
set_option linter.unusedVariables false

/-! Not great. -/
theorem rdBlob_eats (s : St) : (rdBlob s).1.length + (rdBlob s).2.rest.length ≤ s.rest.length := by
  have := Pk.rdInt_short s
  unfold rdBlob Pk.gone
  split
  · simp
  · simp; omega
theorem rdE_eats (s : St) : (rdE s).1.d.length + (rdE s).2.rest.length ≤ s.rest.length := by
  have h1 := Pk.rdInt_short s
  have h2 := Pk.rdInt_short (rdInt s).2
  have h3 := rdBlob_eats (rdInt (rdInt s).2).2
  show (rdBlob (rdInt (rdInt s).2).2).1.length + (rdBlob (rdInt (rdInt s).2).2).2.rest.length ≤ _; omega
theorem weigh_cons (e : En) (L : List En) : weigh (e :: L) = e.d.length + weigh L := by unfold weigh; simp
theorem weigh_append (L K : List En) : weigh (L ++ K) = weigh L + weigh K := by unfold weigh; simp
theorem rdEs_eats (n : Nat) : ∀ s : St, weigh (rdEs n s).1 + (rdEs n s).2.rest.length ≤ s.rest.length := by
  induction n with
  | zero => intro s; simp [rdEs, weigh]
  | succ n ih =>
    intro s
    have h1 := rdE_eats s
    have h2 := ih (rdE s).2
    show weigh ((rdE s).1 :: (rdEs n (rdE s).2).1) + (rdEs n (rdE s).2).2.rest.length ≤ _
    rw [weigh_cons]; omega
theorem rdEs_length (n : Nat) : ∀ s : St, (rdEs n s).1.length = n := by
  induction n with
  | zero => intro s; rfl
  | succ n ih => intro s; show ((rdE s).1 :: (rdEs n (rdE s).2).1).length = _; rw [List.length_cons, ih]
theorem rdF_small {m m' : M} {s s' : St} {r N : Nat} (h : rdF m s r = some (m', s')) (hs : weigh m.es + s.rest.length ≤ 65536) (hd : m.d.length ≤ 65536) (he : m.es.length ≤ N) :
    weigh m'.es + s'.rest.length ≤ 65536 ∧ m'.d.length ≤ 65536 ∧ m'.es.length ≤ N + 2800 := by
  have h1 := Pk.rdInt_short s
  unfold rdF at h
  split at h
  · split at h
    · injection h with h; injection h with h2 h3; subst h2; subst h3
      exact ⟨by show weigh m.es + _ ≤ _; omega, hd, by show m.es.length ≤ _; omega⟩
    · cases h
  · split at h
    · split at h
      · cases h
      · rename_i hn
        injection h with h; injection h with h2 h3; subst h2; subst h3
        have h4 := rdEs_eats (rdInt s).1.toNat (rdInt s).2
        have h5 := rdEs_length (rdInt s).1.toNat (rdInt s).2
        refine ⟨?_, hd, ?_⟩
        · show weigh (m.es ++ _) + _ ≤ _
          rw [weigh_append]; omega
        · show (m.es ++ _).length ≤ _
          rw [List.length_append, h5]; omega
    · split at h
      · injection h with h; injection h with h2 h3; subst h2; subst h3
        have h4 := rdBlob_eats s
        exact ⟨by show weigh m.es + _ ≤ _; omega, by show (rdBlob s).1.length ≤ _; omega, by show m.es.length ≤ _; omega⟩
      · injection h with h; injection h with h2 h3; subst h2; subst h3
        have h4 := set_es m r (rdInt s).1
        rw [h4.1, h4.2]
        exact ⟨by omega, hd, by omega⟩
theorem rdFs_small : ∀ (L : List Nat) {m m' : M} {s s' : St} {N : Nat} (h : rdFs L m s = some (m', s')) (hs : weigh m.es + s.rest.length ≤ 65536) (hd : m.d.length ≤ 65536) (he : m.es.length ≤ N),
    weigh m'.es + s'.rest.length ≤ 65536 ∧ m'.d.length ≤ 65536 ∧ m'.es.length ≤ N + 2800 * L.length := by
  intro L
  induction L with
  | nil =>
    intro m m' s s' N h hs hd he
    injection h with h; injection h with h2 h3; subst h2; subst h3
    exact ⟨hs, hd, by simpa using he⟩
  | cons r L ih =>
    intro m m' s s' N h hs hd he
    have h' : (match rdF m s r with | none => none | some (m', s') => rdFs L m' s') = some (m', s') := h
    rcases hr : rdF m s r with _ | ⟨m1, s1⟩
    · rw [hr] at h'; cases h'
    · rw [hr] at h'
      obtain ⟨h1, h2, h3⟩ := rdF_small hr hs hd he
      obtain ⟨h4, h5, h6⟩ := ih h' h1 h2 h3
      exact ⟨h4, h5, by rw [List.length_cons]; omega⟩
theorem head3_parts (p : List Nat) : (head3 p).1.es = [] ∧ (head3 p).1.d = [] ∧ (head3 p).2.rest.length ≤ p.length := by
  refine ⟨rfl, rfl, ?_⟩
  have h1 := Pk.rdInt_short ⟨p, false⟩
  have h2 := Pk.rdInt_short (rdInt ⟨p, false⟩).2
  have h3 := Pk.rdInt_short (rdInt (rdInt ⟨p, false⟩).2).2
  have h4 : (⟨p, false⟩ : St).rest.length = p.length := rfl
  show (rdInt (rdInt (rdInt ⟨p, false⟩).2).2).2.rest.length ≤ _
  omega
theorem M0_small : Small M0 := ⟨Nat.zero_le _, by unfold weigh; exact Nat.zero_le _, Nat.zero_le _⟩
theorem dec_small (p : List Nat) (hp : p.length ≤ 65536) : Small (dec p).1 := by
  unfold dec
  split
  · exact M0_small
  · split
    · exact M0_small
    · split
      · exact M0_small
      · rename_i m hb
        unfold body at hb
        rcases hr : rdFs (tab (head3 p).1.kind) (head3 p).1 (head3 p).2 with _ | ⟨m1, s1⟩
        · rw [hr] at hb; cases hb
        · rw [hr] at hb
          simp only [] at hb
          split at hb
          · injection hb with hb; subst hb
            obtain ⟨h1, h2, h3⟩ := head3_parts p
            obtain ⟨h4, h5, h6⟩ := rdFs_small (N := 0) _ hr (by rw [h1]; unfold weigh; simp; omega) (by rw [h2]; simp) (by rw [h1]; simp)
            have := tab_length (head3 p).1.kind
            exact ⟨by show m1.es.length ≤ _; omega, by show weigh m1.es ≤ _; omega, by show m1.d.length ≤ _; omega⟩
          · cases hb
end Go.Proofs.YtmaebemhephcmaaDoor.Ms
