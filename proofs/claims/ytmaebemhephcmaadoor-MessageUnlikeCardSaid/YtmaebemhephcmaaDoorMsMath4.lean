/- Messages and their bytes, in plain words: what is read was put so; unlike messages have unlike bytes. -/
import Derived.Test.YtmaebemhephcmaaDoorMsLaw
namespace Go.Proofs.YtmaebemhephcmaaDoor.Ms
open Rl (En)
open Pk (St rdInt rdBlob)
set_option maxRecDepth 100000
set_option linter.unusedVariables false

/-! What is read has just these bytes. -/
theorem rdInt_bad (s : St) (h : s.bad = true) (ho : s.ok) : (rdInt s).2.bad = true := by
  unfold rdInt
  rw [ho h]; rfl
theorem rdBlob_bad (s : St) (h : s.bad = true) (ho : s.ok) : (rdBlob s).2.bad = true := by
  unfold rdBlob
  rw [if_pos (Or.inl (rdInt_bad s h ho))]; rfl
/-- a reader that is well, and stays so -/
structure Well (s : St) : Prop where
  bad : s.bad = false
  small : s.small
theorem enc_sgn (l : List Nat) (h : l.length = 8) (hs : ∀ x ∈ l, x < 256) : Pk.enc (Pk.sgn (Pk.num l)) = l := by
  have h1 : Pk.num l < 18446744073709551616 := by
    have := Pk.num_lt l hs
    rw [h] at this
    exact this
  match l, h, hs with
  | [a, b, c, d, e, f, g, i], _, hs =>
    have ha := hs a (by simp)
    have hb := hs b (by simp)
    have hc := hs c (by simp)
    have hd := hs d (by simp)
    have he := hs e (by simp)
    have hf := hs f (by simp)
    have hg := hs g (by simp)
    have hi := hs i (by simp)
    have hn : Pk.num [a, b, c, d, e, f, g, i] = ((((((a * 256 + b) * 256 + c) * 256 + d) * 256 + e) * 256 + f) * 256 + g) * 256 + i := by simp [Pk.num]
    rw [hn] at h1 ⊢
    unfold Pk.sgn Pk.enc Pk.byteOf
    simp only [List.cons.injEq, and_true]
    refine ⟨?_, ?_, ?_, ?_, ?_, ?_, ?_, ?_⟩ <;> (split <;> omega)
theorem rdInt_only (s : St) (hs : s.small) (hb : (rdInt s).2.bad = false) : s.rest = Pk.enc (rdInt s).1 ++ (rdInt s).2.rest ∧ s.bad = false := by
  unfold rdInt at hb ⊢
  split at hb
  · cases hb
  · rename_i h
    rw [if_neg h]
    refine ⟨?_, hb⟩
    show s.rest = Pk.enc (Pk.sgn (Pk.num (s.rest.take 8))) ++ s.rest.drop 8
    rw [enc_sgn _ (by rw [List.length_take]; omega) (fun x hx => hs x (List.mem_of_mem_take hx)), List.take_append_drop]
theorem rdBlob_only (s : St) (hs : s.small) (hb : (rdBlob s).2.bad = false) : s.rest = Pk.enc (rdBlob s).1.length ++ ((rdBlob s).1 ++ (rdBlob s).2.rest) ∧ s.bad = false := by
  have h1 := Pk.rdInt_small s hs
  unfold rdBlob at hb ⊢
  split at hb
  · cases hb
  · rename_i h
    rw [if_neg h]
    have hbad : (rdInt s).2.bad = false := by
      rcases hh : (rdInt s).2.bad with _ | _
      · rfl
      · exact absurd (Or.inl hh) h
    obtain ⟨h2, h3⟩ := rdInt_only s hs hbad
    refine ⟨?_, h3⟩
    have hl : ((((rdInt s).2.rest.take (rdInt s).1.toNat).length : Nat) : Int) = (rdInt s).1 := by rw [List.length_take]; omega
    show s.rest = Pk.enc ((((rdInt s).2.rest.take (rdInt s).1.toNat).length : Nat) : Int) ++ ((rdInt s).2.rest.take (rdInt s).1.toNat ++ (rdInt s).2.rest.drop (rdInt s).1.toNat)
    rw [hl, List.take_append_drop]; exact h2
theorem rdE_only (s : St) (hs : s.small) (hb : (rdE s).2.bad = false) : s.rest = encE (rdE s).1 ++ (rdE s).2.rest ∧ s.bad = false ∧ (rdE s).2.small := by
  have s1 := Pk.rdInt_small s hs
  have s2 := Pk.rdInt_small _ s1
  have s3 := Pk.rdBlob_small _ s2
  obtain ⟨h3, b3⟩ := rdBlob_only (rdInt (rdInt s).2).2 s2 hb
  obtain ⟨h2, b2⟩ := rdInt_only (rdInt s).2 s1 b3
  obtain ⟨h1, b1⟩ := rdInt_only s hs b2
  refine ⟨?_, b1, s3.1⟩
  unfold encE rdE
  rw [h1, h2, h3]
  simp
theorem rdEs_only (n : Nat) : ∀ s : St, s.small → (rdEs n s).2.bad = false → s.rest = (rdEs n s).1.flatMap encE ++ (rdEs n s).2.rest ∧ s.bad = false ∧ (rdEs n s).2.small := by
  induction n with
  | zero => intro s hs hb; exact ⟨rfl, hb, hs⟩
  | succ n ih =>
    intro s hs hb
    have hs1 : (rdE s).2.small := (Pk.rdBlob_small _ (Pk.rdInt_small _ (Pk.rdInt_small s hs))).1
    obtain ⟨h1, h2, h3⟩ := ih (rdE s).2 hs1 hb
    obtain ⟨h4, h5, _⟩ := rdE_only s hs h2
    refine ⟨?_, h5, h3⟩
    show s.rest = ((rdE s).1 :: (rdEs n (rdE s).2).1).flatMap encE ++ (rdEs n (rdE s).2).2.rest
    rw [List.flatMap_cons, List.append_assoc, ← h1]; exact h4
/-- a field that is read: what stands there is its encoding -/
theorem rdF_only {m m' : M} {s s' : St} {r : Nat} (hr : r ∈ nums ∨ r = 111 ∨ r = 101 ∨ r = 100) (h : rdF m s r = some (m', s')) (hs : s.small) (hb : s'.bad = false) (he : r = 101 → m.es = []) :
    s.rest = m'.encF r ++ s'.rest ∧ s.bad = false ∧ s'.small := by
  rcases hr with hr | rfl | rfl | rfl
  · rw [rdF_num m s r hr] at h
    injection h with h; injection h with h2 h3; subst h2; subst h3
    obtain ⟨h1, h2⟩ := rdInt_only s hs hb
    have hne : r ≠ 111 ∧ r ≠ 101 ∧ r ≠ 100 := by
      simp only [nums, List.mem_cons, List.not_mem_nil, or_false] at hr
      omega
    refine ⟨?_, h2, Pk.rdInt_small s hs⟩
    unfold M.encF
    rw [if_neg hne.1, if_neg hne.2.1, if_neg hne.2.2, num_set _ _ _ _ hr, if_pos rfl]
    exact h1
  · have hq : rdF m s 111 = if (rdInt s).1 = 0 ∨ (rdInt s).1 = 1 then some ({ m with ok := decide ((rdInt s).1 = 1) }, (rdInt s).2) else none := rfl
    rw [hq] at h
    split at h
    · rename_i h01
      injection h with h; injection h with h2 h3; subst h2; subst h3
      obtain ⟨h1, h2⟩ := rdInt_only s hs hb
      refine ⟨?_, h2, Pk.rdInt_small s hs⟩
      show s.rest = Pk.enc (if decide ((rdInt s).1 = 1) = true then 1 else 0) ++ _
      rcases h01 with e | e <;> (rw [e] at h1 ⊢; exact h1)
    · cases h
  · have hq : rdF m s 101 = if (rdInt s).1 < 0 ∨ (((rdInt s).2.rest.length / 24 : Nat) : Int) < (rdInt s).1 then none else some ({ m with es := m.es ++ (rdEs (rdInt s).1.toNat (rdInt s).2).1 }, (rdEs (rdInt s).1.toNat (rdInt s).2).2) := rfl
    rw [hq] at h
    split at h
    · cases h
    · rename_i hn
      injection h with h; injection h with h2 h3; subst h2; subst h3
      obtain ⟨h1, h2, h3⟩ := rdEs_only (rdInt s).1.toNat (rdInt s).2 (Pk.rdInt_small s hs) hb
      obtain ⟨h4, h5⟩ := rdInt_only s hs h2
      refine ⟨?_, h5, h3⟩
      show s.rest = Pk.enc (((m.es ++ (rdEs (rdInt s).1.toNat (rdInt s).2).1).length : Nat) : Int) ++ (m.es ++ (rdEs (rdInt s).1.toNat (rdInt s).2).1).flatMap encE ++ _
      rw [he rfl, List.nil_append, rdEs_length, List.append_assoc, ← h1, Int.toNat_of_nonneg (by omega)]
      exact h4
  · have hq : rdF m s 100 = some ({ m with d := (rdBlob s).1 }, (rdBlob s).2) := rfl
    rw [hq] at h
    injection h with h; injection h with h2 h3; subst h2; subst h3
    obtain ⟨h1, h2⟩ := rdBlob_only s hs hb
    refine ⟨?_, h2, (Pk.rdBlob_small s hs).1⟩
    show s.rest = Pk.enc (rdBlob s).1.length ++ (rdBlob s).1 ++ _
    rw [List.append_assoc]; exact h1
/-- .. and the other fields stay -/
theorem rdF_keep {m m' : M} {s s' : St} {r q : Nat} (hne : q ≠ r) (hq : q ∈ nums ∨ q = 111 ∨ q = 101 ∨ q = 100) (h : rdF m s r = some (m', s')) : m'.encF q = m.encF q ∧ (q ∈ nums → m'.num q = m.num q) ∧ (r ≠ 101 → m'.es = m.es) := by
  by_cases h111 : r = 111
  · subst h111
    have hr : rdF m s 111 = if (rdInt s).1 = 0 ∨ (rdInt s).1 = 1 then some ({ m with ok := decide ((rdInt s).1 = 1) }, (rdInt s).2) else none := rfl
    rw [hr] at h
    split at h
    · injection h with h; injection h with h2 h3; subst h2; subst h3
      refine ⟨?_, fun _ => rfl, fun _ => rfl⟩
      unfold M.encF
      rw [if_neg hne, if_neg hne]; rfl
    · cases h
  by_cases h101 : r = 101
  · subst h101
    have hr : rdF m s 101 = if (rdInt s).1 < 0 ∨ (((rdInt s).2.rest.length / 24 : Nat) : Int) < (rdInt s).1 then none else some ({ m with es := m.es ++ (rdEs (rdInt s).1.toNat (rdInt s).2).1 }, (rdEs (rdInt s).1.toNat (rdInt s).2).2) := rfl
    rw [hr] at h
    split at h
    · cases h
    · injection h with h; injection h with h2 h3; subst h2; subst h3
      refine ⟨?_, fun _ => rfl, fun e => absurd rfl e⟩
      unfold M.encF
      by_cases e : q = 111
      · rw [if_pos e, if_pos e]
      · rw [if_neg e, if_neg e, if_neg hne, if_neg hne]; rfl
  by_cases h100 : r = 100
  · subst h100
    have hr : rdF m s 100 = some ({ m with d := (rdBlob s).1 }, (rdBlob s).2) := rfl
    rw [hr] at h
    injection h with h; injection h with h2 h3; subst h2; subst h3
    refine ⟨?_, fun _ => rfl, fun _ => rfl⟩
    unfold M.encF
    by_cases e : q = 111
    · rw [if_pos e, if_pos e]
    · by_cases e2 : q = 101
      · rw [if_neg e, if_neg e, if_pos e2, if_pos e2]
      · rw [if_neg e, if_neg e, if_neg e2, if_neg e2, if_neg hne, if_neg hne]; rfl
  · have hr : rdF m s r = some (m.set r (rdInt s).1, (rdInt s).2) := by unfold rdF; rw [if_neg h111, if_neg h101, if_neg h100]
    rw [hr] at h
    injection h with h; injection h with h2 h3; subst h2; subst h3
    have h4 := set_es m r (rdInt s).1
    have hok : (m.set r (rdInt s).1).ok = m.ok := by
      by_cases hr : r ∈ nums
      · simp only [nums, List.mem_cons, List.not_mem_nil, or_false] at hr
        rcases hr with rfl | rfl | rfl | rfl | rfl | rfl | rfl | rfl | rfl | rfl | rfl | rfl | rfl | rfl <;> rfl
      · rw [set_out m r _ hr]
    have hnum : q ∈ nums → (m.set r (rdInt s).1).num q = m.num q := fun hq => by rw [num_set _ _ _ _ hq, if_neg (fun e => hne e.symm)]
    refine ⟨?_, hnum, fun _ => h4.1⟩
    unfold M.encF
    by_cases e : q = 111
    · rw [if_pos e, if_pos e, hok]
    · by_cases e2 : q = 101
      · rw [if_neg e, if_neg e, if_pos e2, if_pos e2, h4.1]
      · by_cases e3 : q = 100
        · rw [if_neg e, if_neg e, if_neg e2, if_neg e2, if_pos e3, if_pos e3, h4.2]
        · rw [if_neg e, if_neg e, if_neg e2, if_neg e2, if_neg e3, if_neg e3, hnum (by rcases hq with h | h | h | h <;> first | exact h | contradiction)]
theorem rdFs_keep : ∀ (L : List Nat) {m m' : M} {s s' : St} {q : Nat}, q ∉ L → (q ∈ nums ∨ q = 111 ∨ q = 101 ∨ q = 100) → rdFs L m s = some (m', s') → m'.encF q = m.encF q ∧ (q ∈ nums → m'.num q = m.num q) := by
  intro L
  induction L with
  | nil => intro m m' s s' q _ _ h; injection h with h; injection h with h2 h3; subst h2; exact ⟨rfl, fun _ => rfl⟩
  | cons r L ih =>
    intro m m' s s' q hn hq h
    have h' : (match rdF m s r with | none => none | some (m', s') => rdFs L m' s') = some (m', s') := h
    rcases hr : rdF m s r with _ | ⟨m1, s1⟩
    · rw [hr] at h'; cases h'
    · rw [hr] at h'
      have h1 := rdF_keep (q := q) (fun e => hn (by rw [e]; exact List.mem_cons_self)) hq hr
      have h2 := ih (fun hin => hn (List.mem_cons_of_mem _ hin)) hq h'
      exact ⟨h2.1.trans h1.1, fun hh => (h2.2 hh).trans (h1.2.1 hh)⟩
theorem rdFs_only : ∀ (L : List Nat) {m m' : M} {s s' : St}, L.Nodup → (∀ r ∈ L, r ∈ nums ∨ r = 111 ∨ r = 101 ∨ r = 100) → rdFs L m s = some (m', s') → s.small → s'.bad = false → (101 ∈ L → m.es = []) → s.rest = L.flatMap m'.encF ++ s'.rest ∧ s.bad = false ∧ s'.small := by
  intro L
  induction L with
  | nil => intro m m' s s' _ _ h hs hb _; injection h with h; injection h with h2 h3; subst h2; subst h3; exact ⟨rfl, hb, hs⟩
  | cons r L ih =>
    intro m m' s s' hd hf h hs hb he
    have h' : (match rdF m s r with | none => none | some (m', s') => rdFs L m' s') = some (m', s') := h
    obtain ⟨hd1, hd2⟩ := List.nodup_cons.1 hd
    rcases hr : rdF m s r with _ | ⟨m1, s1⟩
    · rw [hr] at h'; cases h'
    · rw [hr] at h'
      have hrf := hf r List.mem_cons_self
      have hs1 : s1.small := by
        rcases hrf with hn | rfl | rfl | rfl
        · rw [rdF_num m s r hn] at hr
          injection hr with hr; injection hr with _ h3; subst h3; exact Pk.rdInt_small s hs
        · have hq : rdF m s 111 = if (rdInt s).1 = 0 ∨ (rdInt s).1 = 1 then some ({ m with ok := decide ((rdInt s).1 = 1) }, (rdInt s).2) else none := rfl
          rw [hq] at hr
          split at hr
          · injection hr with hr; injection hr with _ h3; subst h3; exact Pk.rdInt_small s hs
          · cases hr
        · have hq : rdF m s 101 = if (rdInt s).1 < 0 ∨ (((rdInt s).2.rest.length / 24 : Nat) : Int) < (rdInt s).1 then none else some ({ m with es := m.es ++ (rdEs (rdInt s).1.toNat (rdInt s).2).1 }, (rdEs (rdInt s).1.toNat (rdInt s).2).2) := rfl
          rw [hq] at hr
          split at hr
          · cases hr
          · injection hr with hr; injection hr with _ h3; subst h3
            have : ∀ n (t : St), t.small → (rdEs n t).2.small := by
              intro n
              induction n with
              | zero => intro t ht; exact ht
              | succ n ih => intro t ht; exact ih _ (Pk.rdBlob_small _ (Pk.rdInt_small _ (Pk.rdInt_small t ht))).1
            exact this _ _ (Pk.rdInt_small s hs)
        · have hq : rdF m s 100 = some ({ m with d := (rdBlob s).1 }, (rdBlob s).2) := rfl
          rw [hq] at hr
          injection hr with hr; injection hr with _ h3; subst h3; exact (Pk.rdBlob_small s hs).1
      have he1 : 101 ∈ L → m1.es = [] := fun hin => by
        have hne : r ≠ 101 := fun e => hd1 (by rw [e]; exact hin)
        have := (rdF_keep (q := if r = 75 then 70 else 75) (by split <;> omega) (by split <;> (left; decide)) hr).2.2 hne
        rw [this]; exact he (List.mem_cons_of_mem _ hin)
      obtain ⟨h1, h2, h3⟩ := ih hd2 (fun x hx => hf x (List.mem_cons_of_mem _ hx)) h' hs1 hb he1
      obtain ⟨h4, h5, _⟩ := rdF_only hrf hr hs h2 (fun e => he (by rw [e]; exact List.mem_cons_self))
      refine ⟨?_, h5, h3⟩
      rw [List.flatMap_cons, List.append_assoc, ← h1, (rdFs_keep L hd1 hrf h').1]; exact h4
theorem full_nodup (k : Nat) : (head ++ tab k).Nodup := by
  unfold tab
  split <;> decide
/-- what is read of bytes is put as these bytes -/
theorem dec_only {p : List Nat} {m : M} (h : dec p = (m, 0)) (hp : ∀ x ∈ p, x < 256) : m.enc = p := by
  obtain ⟨m0, s0, h3⟩ : ∃ m0 s0, head3 p = (m0, s0) := ⟨_, _, rfl⟩
  unfold dec body at h
  rw [h3] at h
  simp only [] at h
  split at h
  · injection h with _ h; cases h
  · rename_i hb
    split at h
    · injection h with _ h; cases h
    · rename_i hk
      rcases hr : rdFs (tab m0.kind) m0 s0 with _ | ⟨m1, s1⟩
      · rw [hr] at h; simp at h
      · rw [hr] at h
        simp only [] at h
        by_cases ho : over s1 = true
        · rw [if_pos ho] at h
          injection h with h _
          subst h
          have hh : rdFs head M0 ⟨p, false⟩ = some (m0, s0) := by rw [rdFs_head, h3]
          have hall : rdFs (head ++ tab m0.kind) M0 ⟨p, false⟩ = some (m1, s1) := by
            have happ : ∀ (L K : List Nat) (m : M) (s : St), rdFs (L ++ K) m s = match rdFs L m s with | none => none | some (m', s') => rdFs K m' s' := by
              intro L K
              induction L with
              | nil => intro m s; rfl
              | cons q L ih =>
                intro m s
                show (match rdF m s q with | none => none | some (m', s') => rdFs (L ++ K) m' s') = match (match rdF m s q with | none => none | some (m', s') => rdFs L m' s') with | none => none | some (m', s') => rdFs K m' s'
                rcases rdF m s q with _ | ⟨m', s'⟩
                · rfl
                · exact ih m' s'
            rw [happ, hh]; exact hr
          have hov : s1.bad = false ∧ s1.rest = [] := by
            unfold over at ho
            simp at ho
            exact ho
          obtain ⟨h1, _, _⟩ := rdFs_only (head ++ tab m0.kind) (full_nodup _) (full_field _) hall hp hov.1 (fun _ => rfl)
          have hkind : m1.kind = m0.kind := by
            have hK := (rdFs_keep (tab m0.kind) (q := 75) (by unfold tab; split <;> decide) (by left; decide) hr).2 (by decide)
            have i1 : m1.num 75 = m1.K := rfl
            have i2 : m0.num 75 = m0.K := rfl
            unfold M.kind
            rw [← i1, ← i2, hK]
          unfold M.enc
          rw [hkind]
          rw [hov.2, List.append_nil] at h1
          exact h1.symm
        · rw [if_neg ho] at h; simp at h
theorem get_only {b : List Nat} {m : M} (h : get b = (m, 0)) (hb : ∀ x ∈ b, x < 256) : Fr.frame m.enc = b ∧ check m = 0 := by
  obtain ⟨p, n, e, hg⟩ : ∃ p n e, Fr.get b = (p, n, e) := ⟨_, _, _, rfl⟩
  unfold get checked at h
  rw [hg] at h
  simp only [] at h
  split at h
  · rename_i he; injection h with _ h; exact absurd h he
  · rename_i he
    have he0 : e = 0 := by omega
    subst he0
    split at h
    · injection h with _ h; cases h
    · rename_i hn
      split at h
      · rename_i hd; injection h with _ h; exact absurd h hd
      · rename_i hd
        split at h
        · rename_i hc; injection h with _ h; exact absurd h hc
        · rename_i hc
          injection h with h _
          obtain ⟨h1, h2, h3⟩ := Fr.only b p n hb hg
          have hp : ∀ x ∈ p, x < 256 := by
            rcases Fr.get_cases b with hh | ⟨_, _, _, _, hh⟩
            · rcases hh with hh | hh | hh <;> (rw [hg] at hh; injection hh with _ hh; injection hh with _ hh; cases hh)
            · rw [hg] at hh
              injection hh with hh _
              rw [hh]
              exact fun x hx => hb x (List.mem_of_mem_drop (List.mem_of_mem_take hx))
          have hd2 : dec p = (m, 0) := by
            rw [← h]
            exact Prod.ext rfl (by omega)
          rw [dec_only hd2 hp, h3, List.take_of_length_le (by omega)]
          exact ⟨rfl, by rw [← h]; omega⟩
/-- unlike ones have unlike bytes -/
theorem unlike {a b : M} (ha : Wf a) (hb : Wf b) (sa : Small a) (sb : Small b) (ca : check a = 0) (cb : check b = 0) (n : Nat) (hn : n = min (Fr.frame a.enc).length (Fr.frame b.enc).length) :
    decide ((Fr.frame a.enc).take n = (Fr.frame b.enc).take n) = decide (a = b) := by
  have key : ∀ {a b : M}, Wf a → Wf b → Small a → Small b → check a = 0 → check b = 0 → (Fr.frame a.enc).length ≤ (Fr.frame b.enc).length → Fr.frame a.enc = (Fr.frame b.enc).take (Fr.frame a.enc).length → a = b := by
    intro a b ha hb sa sb ca cb hl he
    have e1 : Fr.frame b.enc = Fr.frame a.enc ++ (Fr.frame b.enc).drop (Fr.frame a.enc).length := by
      conv => lhs; rw [← List.take_append_drop (Fr.frame a.enc).length (Fr.frame b.enc)]
      rw [← he]
    have h1 := back a ha sa ca ((Fr.frame b.enc).drop (Fr.frame a.enc).length) (enc_lt a ha)
    rw [← e1, back0 hb sb cb] at h1
    split at h1
    · injection h1 with h1 _; exact h1.symm
    · injection h1 with _ h1; cases h1
  rw [decide_eq_decide]
  constructor
  · intro h
    by_cases hl : (Fr.frame a.enc).length ≤ (Fr.frame b.enc).length
    · rw [hn, Nat.min_eq_left hl, List.take_of_length_le (Nat.le_refl _)] at h
      exact key ha hb sa sb ca cb hl h
    · rw [hn, Nat.min_eq_right (by omega), List.take_of_length_le (l := Fr.frame b.enc) (Nat.le_refl _)] at h
      exact (key hb ha sb sa cb ca (by omega) h.symm).symm
  · rintro rfl; rfl
end Go.Proofs.YtmaebemhephcmaaDoor.Ms
