/- What a checkpoint lays on sectors, and what is read of them, in plain words. -/
import Derived.Test.YtdgijnolpjaheaaJoMath2
namespace Go.Proofs.Ytdgijnolpjaheaa
namespace Ck
open Sx Jo

/-- may bytes be the last piece, where piece i is due? -/
def fits (_ : List Nat) (_ : Nat) : Bool := true
theorem fits_piece (p : List Nat) (i : Nat) (_ : i + 1 = secs p.length) : fits (piece p i) i = true := rfl
/-- what a reading makes of a sector's bytes, where piece i of the epoch is due -/
def due (b : List Nat) (e : Int) (i : Nat) : List Nat × Bool × Bool :=
  if head e 0 (Jo.mark i false) <+: b then (b.drop 24, false, decide ((b.drop 24).length = 40))
  else if head e 0 (Jo.mark i true) <+: b then (b.drop 24, true, fits (b.drop 24) i)
  else ([], false, false)
theorem due_len (b : List Nat) (e : Int) (i : Nat) : (due b e i).1.length ≤ b.length := by
  unfold due
  split
  · simp
  · split <;> simp
theorem due_sec (e : Int) (p : List Nat) (i : Nat) (h : i < secs p.length) (hp : secs p.length ≤ 40000) : due (sec e 0 p i) e i = (piece p i, lastAt p i, true) := by
  have hd : (sec e 0 p i).drop 24 = piece p i := by
    unfold sec; rw [List.drop_left' (head_length _ _ _)]
  by_cases hl : i + 1 = secs p.length
  · have el : lastAt p i = true := decide_eq_true hl
    unfold due
    rw [if_neg, if_pos, hd, el, fits_piece p i hl]
    · unfold sec; rw [el]; exact List.prefix_append _ _
    · intro hp
      unfold sec at hp
      rw [el] at hp
      have := head_mark (by simp [Jo.mark]; omega) (by simp [Jo.mark]; omega) hp
      simp [Jo.mark] at this
  · have el : lastAt p i = false := decide_eq_false hl
    unfold due
    rw [if_pos, hd, el]
    · congr 2
      exact decide_eq_true (piece_full p i (by omega))
    · unfold sec; rw [el]; exact List.prefix_append _ _
theorem due_head {b : List Nat} {e : Int} {i : Nat} (h : (due b e i).2.2 = true) : Pk.enc e <+: b := by
  have hh : ∀ m : Int, head e 0 m <+: b → Pk.enc e <+: b := fun m hm => List.IsPrefix.trans ⟨Pk.enc 0 ++ Pk.enc m, by simp [head]⟩ hm
  unfold due at h
  split at h
  · rename_i h1; exact hh _ h1
  · split at h
    · rename_i h1; exact hh _ h1
    · cases h

/-- the reading of a slot: l sectors are left, the next one is at; r: the pieces so far -/
def take (rd : Nat → Int × List Nat) (e : Int) : Nat → Nat → List Nat → Option (List Nat)
  | 0, _, _ => none
  | l + 1, at_, r =>
    let x := due (rd at_).2 e (r.length / 40)
    if (rd at_).1 ≠ 0 ∨ x.2.2 = false then none
    else if x.2.1 then some (r ++ x.1)
    else take rd e l (at_ + 1) (r ++ x.1)
/-- from the sector at on the slot of n sectors holds p, of the epoch e -/
def Comp (rd : Nat → Int × List Nat) (at_ n : Nat) (e : Int) (p : List Nat) : Prop := secs p.length ≤ n ∧ ∀ i, i < secs p.length → rd (at_ + i) = (0, sec e 0 p i)
theorem take_from (rd : Nat → Int × List Nat) (e : Int) (at_ : Nat) (p : List Nat) (hp : secs p.length ≤ 40000) (h : ∀ i, i < secs p.length → rd (at_ + i) = (0, sec e 0 p i)) :
    ∀ k l i, i + k = secs p.length → 1 ≤ k → k ≤ l → take rd e l (at_ + i) (p.take (40 * i)) = some p := by
  intro k
  induction k with
  | zero => intro l i _ h1; omega
  | succ k ih =>
    intro l i hi _ hl
    obtain ⟨l, rfl⟩ : ∃ m, l = m + 1 := ⟨l - 1, by omega⟩
    rw [take]
    simp only [(take_div p i (by omega)).1, h i (by omega), due_sec e p i (by omega) hp]
    rw [if_neg (by simp)]
    by_cases hlast : i + 1 = secs p.length
    · rw [if_pos (show lastAt p i = true from decide_eq_true hlast), take_piece, List.take_of_length_le]
      unfold secs at hlast; omega
    · rw [if_neg (show ¬ lastAt p i = true from by simp [lastAt, hlast]), take_piece]
      exact ih l (i + 1) (by omega) (by omega) (by omega)
theorem take_comp {rd : Nat → Int × List Nat} {e : Int} {at_ n : Nat} {p : List Nat} (hn : n ≤ 40000) (h : Comp rd at_ n e p) : take rd e n at_ [] = some p := by
  have h1 := secs_pos p.length
  have := take_from rd e at_ p (by have := h.1; omega) h.2 (secs p.length) n 0 (by omega) h1 h.1
  simpa using this

/-- what the first number of a sector is -/
def epoch (b : List Nat) : Int := (Pk.rdInt ⟨b, false⟩).1
theorem epoch_enc {e : Int} (he : -9223372036854775808 ≤ e ∧ e ≤ 9223372036854775807) (t : List Nat) : epoch (Pk.enc e ++ t) = e := by
  unfold epoch; rw [Pk.rdInt_enc e t false he]
theorem epoch_sec {e : Int} (he : -9223372036854775808 ≤ e ∧ e ≤ 9223372036854775807) (p : List Nat) (i : Nat) : epoch (sec e 0 p i) = e := by
  unfold sec head
  rw [List.append_assoc, List.append_assoc]
  exact epoch_enc he _
/-- the bytes and the epoch of a slot, where it is complete -/
def whole (rd : Nat → Int × List Nat) (at_ n : Nat) (par : Int) : Option (Int × List Nat) :=
  if (rd at_).1 = 0 ∧ 1 ≤ epoch (rd at_).2 ∧ epoch (rd at_).2 ≤ 1099511627776 ∧ epoch (rd at_).2 % 2 = par then (take rd (epoch (rd at_).2) n at_ []).map fun p => (epoch (rd at_).2, p) else none
theorem whole_comp {rd : Nat → Int × List Nat} {e : Int} {at_ n : Nat} {p : List Nat} {par : Int} (he : 1 ≤ e ∧ e ≤ 1099511627776) (hpar : e % 2 = par) (hn : n ≤ 40000) (h : Comp rd at_ n e p) : whole rd at_ n par = some (e, p) := by
  have h0 := h.2 0 (secs_pos _)
  rw [Nat.add_zero] at h0
  have h1 : epoch (rd at_).2 = e := by rw [h0]; exact epoch_sec (by omega) p 0
  unfold whole
  rw [h1, if_pos ⟨by rw [h0], he.1, he.2, hpar⟩, take_comp hn h]
  rfl
theorem whole_head {rd : Nat → Int × List Nat} {e : Int} {at_ n : Nat} {p : List Nat} {par : Int} (h : whole rd at_ n par = some (e, p)) : (rd at_).1 = 0 ∧ Pk.enc e <+: (rd at_).2 ∧ (1 ≤ e ∧ e ≤ 1099511627776) ∧ e % 2 = par := by
  unfold whole at h
  split at h
  · rename_i hc
    obtain ⟨h0, h1, h2, h3⟩ := hc
    cases n with
    | zero => simp [take] at h
    | succ n =>
      rw [take] at h
      by_cases hb : (rd at_).1 ≠ 0 ∨ (due (rd at_).2 (epoch (rd at_).2) 0).2.2 = false
      · rw [if_pos (by simpa using hb)] at h; simp at h
      · have hd : (due (rd at_).2 (epoch (rd at_).2) 0).2.2 = true := by
          by_cases hx : (due (rd at_).2 (epoch (rd at_).2) 0).2.2 = true
          · exact hx
          · exact absurd (.inr (by simpa using hx)) hb
        have hh := due_head hd
        obtain ⟨p', _, hp'⟩ := Option.map_eq_some_iff.1 h
        obtain ⟨rfl, rfl⟩ := Prod.mk.inj hp'
        exact ⟨h0, hh, ⟨h1, h2⟩, h3⟩
  · cases h
/-- what is loaded -/
def load (rd : Nat → Int × List Nat) (at_ n : Nat) : Option (Int × List Nat) :=
  match whole rd at_ n 0, whole rd (at_ + n) n 1 with
  | none, none => none
  | some a, none => some a
  | none, some b => some b
  | some a, some b => if b.1 < a.1 then some a else some b
/-- where the slot of an epoch begins -/
def slot (at_ n : Nat) (e : Int) : Nat := if e % 2 = 1 then at_ + n else at_
theorem load_of {rd : Nat → Int × List Nat} {e : Int} {at_ n : Nat} {p : List Nat} (he : 1 ≤ e ∧ e ≤ 1099511627776) (hn : n ≤ 40000) (h : Comp rd (slot at_ n e) n e p)
    (ho : ∀ e', e < e' → e' ≤ 1099511627776 → ¬ ((rd (slot at_ n (e + 1))).1 = 0 ∧ Pk.enc e' <+: (rd (slot at_ n (e + 1))).2)) : load rd at_ n = some (e, p) := by
  have hno : ∀ e' p' par, whole rd (slot at_ n (e + 1)) n par = some (e', p') → e' % 2 = (e + 1) % 2 → e' < e := fun e' p' par hw hpe => by
    obtain ⟨h1, h2, h3, h4⟩ := whole_head hw
    by_cases hlt : e < e'
    · exact absurd ⟨h1, h2⟩ (ho e' hlt h3.2)
    · have : e' ≠ e := fun h => by subst h; omega
      omega
  by_cases hpar : e % 2 = 1
  · have hs : slot at_ n e = at_ + n := if_pos hpar
    have hs' : slot at_ n (e + 1) = at_ := if_neg (by omega)
    rw [hs] at h
    rw [hs'] at hno
    have hw := whole_comp he hpar hn h
    unfold load
    rw [hw]
    cases hx : whole rd at_ n 0 with
    | none => rfl
    | some a =>
      obtain ⟨e', p'⟩ := a
      have := hno e' p' 0 hx (by have := (whole_head hx).2.2.2; omega)
      show (if e < e' then _ else _) = _
      rw [if_neg (by omega)]
  · have hs : slot at_ n e = at_ := if_neg hpar
    have hs' : slot at_ n (e + 1) = at_ + n := if_pos (by omega)
    rw [hs] at h
    rw [hs'] at hno
    have hw := whole_comp he (show e % 2 = 0 by omega) hn h
    unfold load
    rw [hw]
    cases hx : whole rd (at_ + n) n 1 with
    | none => rfl
    | some a =>
      obtain ⟨e', p'⟩ := a
      have := hno e' p' 1 hx (by have := (whole_head hx).2.2.2; omega)
      show (if e' < e then _ else _) = _
      rw [if_pos this]
theorem load_none {rd : Nat → Int × List Nat} {at_ n : Nat} (h : ∀ e', 0 < e' → e' ≤ 1099511627776 → ¬ ((rd at_).1 = 0 ∧ Pk.enc e' <+: (rd at_).2) ∧ ¬ ((rd (at_ + n)).1 = 0 ∧ Pk.enc e' <+: (rd (at_ + n)).2)) : load rd at_ n = none := by
  unfold load
  cases hx : whole rd at_ n 0 with
  | some a =>
    obtain ⟨e', p'⟩ := a
    obtain ⟨h1, h2, h3, _⟩ := whole_head hx
    exact absurd ⟨h1, h2⟩ (h e' (by omega) h3.2).1
  | none =>
    cases hy : whole rd (at_ + n) n 1 with
    | some a =>
      obtain ⟨e', p'⟩ := a
      obtain ⟨h1, h2, h3, _⟩ := whole_head hy
      exact absurd ⟨h1, h2⟩ (h e' (by omega) h3.2).2
    | none => rfl
end Ck
end Go.Proofs.Ytdgijnolpjaheaa
