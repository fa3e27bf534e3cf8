/- Messages and their bytes, in plain words: what was put is read again; what is read was put so. -/
import Derived.Test.YtmaebemhephcmaaDoorMsN
namespace Go.Proofs.YtmaebemhephcmaaDoor.Ms
open Rl (En)
open Pk (St rdInt rdBlob)
set_option maxRecDepth 100000
set_option linter.unusedVariables false

/-- a message that a program may have -/
structure Wf (m : M) : Prop where
  num : ∀ r ∈ nums, -9223372036854775808 ≤ m.num r ∧ m.num r ≤ 9223372036854775807
  es : ∀ e ∈ m.es, (-9223372036854775808 ≤ e.t ∧ e.t ≤ 9223372036854775807) ∧ (-9223372036854775808 ≤ e.k ∧ e.k ≤ 9223372036854775807) ∧ ∀ x ∈ e.d, x < 256
  d : ∀ x ∈ m.d, x < 256
/-! There and back. -/
theorem rdBlob_put (l t : List Nat) (h : l.length ≤ 1000000000000) : rdBlob ⟨Pk.enc l.length ++ (l ++ t), false⟩ = (l, ⟨t, false⟩) := by
  have e := Pk.rdInt_enc (l.length : Int) (l ++ t) false (by omega)
  unfold rdBlob
  rw [e, if_neg (by simp; omega)]
  simp
theorem rdE_put (e : En) (t : List Nat) (h : (-9223372036854775808 ≤ e.t ∧ e.t ≤ 9223372036854775807) ∧ (-9223372036854775808 ≤ e.k ∧ e.k ≤ 9223372036854775807)) (hd : e.d.length ≤ 1000000000000) : rdE ⟨encE e ++ t, false⟩ = (e, ⟨t, false⟩) := by
  have e1 : encE e ++ t = Pk.enc e.t ++ (Pk.enc e.k ++ (Pk.enc e.d.length ++ (e.d ++ t))) := by unfold encE; simp
  unfold rdE
  rw [e1, Pk.rdInt_enc _ _ _ h.1, Pk.rdInt_enc _ _ _ h.2, rdBlob_put _ _ hd]
theorem rdEs_put : ∀ (L : List En) (t : List Nat), (∀ e ∈ L, (-9223372036854775808 ≤ e.t ∧ e.t ≤ 9223372036854775807) ∧ (-9223372036854775808 ≤ e.k ∧ e.k ≤ 9223372036854775807)) → (∀ e ∈ L, e.d.length ≤ 1000000000000) → rdEs L.length ⟨L.flatMap encE ++ t, false⟩ = (L, ⟨t, false⟩) := by
  intro L
  induction L with
  | nil => intro t _ _; rfl
  | cons e L ih =>
    intro t h hd
    show ((rdE _).1 :: (rdEs L.length (rdE _).2).1, (rdEs L.length (rdE _).2).2) = _
    rw [List.flatMap_cons, List.append_assoc, rdE_put e _ (h e List.mem_cons_self) (hd e List.mem_cons_self)]
    simp only []
    rw [ih t (fun x hx => h x (List.mem_cons_of_mem _ hx)) (fun x hx => hd x (List.mem_cons_of_mem _ hx))]
/-- a field of one message, in another -/
def cpy (m m0 : M) (r : Nat) : M :=
  if r = 111 then { m0 with ok := m.ok } else if r = 101 then { m0 with es := m0.es ++ m.es } else if r = 100 then { m0 with d := m.d } else m0.set r (m.num r)
theorem rdF_put (m m0 : M) (r : Nat) (hr : r ∈ nums ∨ r = 111 ∨ r = 101 ∨ r = 100) (hw : Wf m) (hs : Small m) (t : List Nat) : rdF m0 ⟨m.encF r ++ t, false⟩ r = some (cpy m m0 r, ⟨t, false⟩) := by
  rcases hr with hr | rfl | rfl | rfl
  · have hne : r ≠ 111 ∧ r ≠ 101 ∧ r ≠ 100 := by
      simp only [nums, List.mem_cons, List.not_mem_nil, or_false] at hr
      omega
    have he : m.encF r = Pk.enc (m.num r) := by unfold M.encF; rw [if_neg hne.1, if_neg hne.2.1, if_neg hne.2.2]
    rw [rdF_num _ _ _ hr, he, Pk.rdInt_enc _ _ _ (hw.num r hr)]
    unfold cpy; rw [if_neg hne.1, if_neg hne.2.1, if_neg hne.2.2]
  · have he : m.encF 111 = Pk.enc (if m.ok = true then 1 else 0) := rfl
    unfold rdF cpy
    rw [if_pos rfl, if_pos rfl, he]
    rcases m.ok with _ | _
    · rw [Pk.rdInt_enc _ _ _ (by simp)]; simp
    · rw [Pk.rdInt_enc _ _ _ (by simp)]; simp
  · have he : m.encF 101 = Pk.enc m.es.length ++ m.es.flatMap encE := rfl
    have h1 := hs.es
    have hd : ∀ e ∈ m.es, e.d.length ≤ 1000000000000 := fun e he => by have := weigh_mem he; have := hs.wt; omega
    have hlen : 24 * m.es.length ≤ (m.es.flatMap encE ++ t).length := by rw [List.length_append, encEs_length]; omega
    have hc : cpy m m0 101 = { m0 with es := m0.es ++ m.es } := rfl
    have hq : ∀ s : St, rdF m0 s 101 = if (rdInt s).1 < 0 ∨ (((rdInt s).2.rest.length / 24 : Nat) : Int) < (rdInt s).1 then none else some ({ m0 with es := m0.es ++ (rdEs (rdInt s).1.toNat (rdInt s).2).1 }, (rdEs (rdInt s).1.toNat (rdInt s).2).2) := fun s => rfl
    rw [hq, hc, he, List.append_assoc, Pk.rdInt_enc _ _ _ (by omega)]
    simp only []
    rw [if_neg (by omega), Int.toNat_natCast, rdEs_put m.es t (fun e he => ⟨(hw.es e he).1, (hw.es e he).2.1⟩) hd]
  · have he : m.encF 100 = Pk.enc m.d.length ++ m.d := rfl
    have h1 := hs.d
    unfold rdF cpy
    rw [if_neg (by decide), if_neg (by decide), if_pos rfl, if_neg (by decide), if_neg (by decide), if_pos rfl, he, List.append_assoc, rdBlob_put _ _ (by omega)]
theorem rdFs_put (m : M) (hw : Wf m) (hs : Small m) : ∀ (L : List Nat) (m0 : M) (t : List Nat), (∀ r ∈ L, r ∈ nums ∨ r = 111 ∨ r = 101 ∨ r = 100) → rdFs L m0 ⟨L.flatMap m.encF ++ t, false⟩ = some (L.foldl (cpy m) m0, ⟨t, false⟩) := by
  intro L
  induction L with
  | nil => intro m0 t _; rfl
  | cons r L ih =>
    intro m0 t h
    show (match rdF m0 _ r with | none => none | some (m', s') => rdFs L m' s') = _
    rw [List.flatMap_cons, List.append_assoc, rdF_put m m0 r (h r List.mem_cons_self) hw hs]
    exact ih _ t (fun x hx => h x (List.mem_cons_of_mem _ hx))
/-- all its fields make a message -/
theorem fold_all (m : M) (hk : m.isKind = true) (hf : m.foreign = false) : (tab m.kind).foldl (cpy m) { M0 with K := m.K, F := m.F, T := m.T } = m := by
  have key : ∀ r ∈ all, (tab m.kind).contains r = false → m.blank r = true := fun r hr h => blank_of hf r hr h
  obtain ⟨k, _, k1, k2, hk⟩ := kind_of hk
  rw [hk] at key ⊢
  have h103 := key 103 (by decide)
  have h116 := key 116 (by decide)
  have h105 := key 105 (by decide)
  have h112 := key 112 (by decide)
  have h99 := key 99 (by decide)
  have h114 := key 114 (by decide)
  have h120 := key 120 (by decide)
  have h97 := key 97 (by decide)
  have h98 := key 98 (by decide)
  have h118 := key 118 (by decide)
  have h115 := key 115 (by decide)
  have h111 := key 111 (by decide)
  have h101 := key 101 (by decide)
  have h100 := key 100 (by decide)
  clear key hk hf
  cases m
  match k, k1, k2 with
  | 1, _, _ | 2, _, _ | 3, _, _ | 4, _, _ | 5, _, _ | 6, _, _ | 7, _, _ | 8, _, _ | 9, _, _ | 10, _, _ | 11, _, _ =>
    simp [tab, M.blank, M.num] at h103 h116 h105 h112 h99 h114 h120 h97 h98 h118 h115 h111 h101 h100
    simp [tab, cpy, M.set, M.num, M0, *]
theorem head3_put (m : M) (hw : Wf m) (t : List Nat) : head3 (head.flatMap m.encF ++ t) = ({ M0 with K := m.K, F := m.F, T := m.T }, ⟨t, false⟩) := by
  have e : head.flatMap m.encF ++ t = Pk.enc m.K ++ (Pk.enc m.F ++ (Pk.enc m.T ++ t)) := by simp [head, M.encF, M.num]
  have h1 := hw.num 75 (by decide)
  have h2 := hw.num 70 (by decide)
  have h3 := hw.num 84 (by decide)
  have i1 : m.num 75 = m.K := rfl
  have i2 : m.num 70 = m.F := rfl
  have i3 : m.num 84 = m.T := rfl
  rw [i1] at h1
  rw [i2] at h2
  rw [i3] at h3
  rw [e]
  unfold head3
  simp only [Pk.rdInt_enc _ _ _ h1, Pk.rdInt_enc _ _ _ h2, Pk.rdInt_enc _ _ _ h3]
theorem dec_enc (m : M) (hw : Wf m) (hs : Small m) (hk : m.isKind = true) (hf : m.foreign = false) : dec m.enc = (m, 0) := by
  have h3 := head3_put m hw ((tab m.kind).flatMap m.encF)
  have e : m.enc = head.flatMap m.encF ++ (tab m.kind).flatMap m.encF := by unfold M.enc; rw [List.flatMap_append]
  rw [← e] at h3
  have hr := rdFs_put m hw hs (tab m.kind) { M0 with K := m.K, F := m.F, T := m.T } [] (tab_field _)
  rw [List.append_nil, fold_all m hk hf] at hr
  exact dec_some h3 rfl hk hr rfl
theorem back (m : M) (hw : Wf m) (hs : Small m) (hc : check m = 0) (more : List Nat) (hm : ∀ x ∈ m.enc, x < 256) : get (Fr.frame m.enc ++ more) = if more.length = 0 then (m, 0) else (M0, 2) := by
  obtain ⟨h1, h2, h3, h4, h5⟩ := check_zero hc
  have hl := enc_length m h1 h2
  have hb := Fr.back m.enc more hm (by omega)
  split
  · rename_i h0
    refine get_ok hb ?_ (dec_enc m hw hs h1 h2) hc
    rw [List.length_append, Fr.frame_length]; omega
  · refine get_long hb ?_
    rw [List.length_append, Fr.frame_length]; omega
end Go.Proofs.YtmaebemhephcmaaDoor.Ms
