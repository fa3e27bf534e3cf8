/- Texts of the proof, one behind the other: CkMath2, CkRd, CkA. -/
import Derived.Test.YtdgijnolpjaheaaPartAD
import Derived.Test.YtdgijnolpjaheaaPartAC
namespace Go.Proofs.Ytdgijnolpjaheaa
namespace Ck
open Sx Jo

/-- rows that are written from a on and flushed, where nothing fails -/
theorem ran {s : St} {a : Nat} {T : List (List Nat)} (hc : ∀ i, s.cache i = none) (hn : a + T.length ≤ s.n) (hb : ∀ b ∈ T, b.length ≤ 64) (h0 : (run s a T).1 = 0) :
    (∀ i, (run s a T).2.cache i = none) ∧ (run s a T).2.n = s.n ∧ (run s a T).2.armed = s.armed ∧ (run s a T).2.down = false ∧ ∀ i, (run s a T).2.dur i = if a ≤ i ∧ i < a + T.length then (T.getD (i - a) [], false) else s.dur i := by
  rcases run_cases T s a hn hb with ⟨_, g2, g3, g4, g5, g6⟩ | ⟨g1, _⟩
  · refine ⟨fun i => by rw [g3], g2, g5, g6, fun i => ?_⟩
    rw [g4]
    show settle1 (laid s.cache a T T.length i) (s.dur i) 1 = _
    unfold laid
    by_cases hi : a ≤ i ∧ i < a + T.length
    · rw [if_pos hi, if_pos hi, List.getElem?_eq_getElem (by omega), List.getD_eq_getElem?_getD, List.getElem?_eq_getElem (by omega)]
      rfl
    · rw [if_neg hi, if_neg hi, hc]; rfl
  · rw [h0] at g1; cases g1
/-- .. and where the power fails: behind a crash each of their sectors is as it was, or written, or torn -/
theorem failed {s : St} {a : Nat} {T : List (List Nat)} (hc : ∀ i, s.cache i = none) (hn : a + T.length ≤ s.n) (hb : ∀ b ∈ T, b.length ≤ 64) (h0 : (run s a T).1 ≠ 0) :
    (run s a T).1 = 10 ∧ (run s a T).2.down = true ∧ (run s a T).2.n = s.n ∧ ∀ l i, (crash (run s a T).2 l).dur i = s.dur i ∨ (a ≤ i ∧ i < a + T.length ∧ ((crash (run s a T).2 l).dur i = (T.getD (i - a) [], false) ∨ (crash (run s a T).2 l).dur i = ([], true))) := by
  rcases run_cases T s a hn hb with ⟨g1, _⟩ | ⟨g1, g2, g3, g4, m, g5, g6⟩
  · exact absurd g1 h0
  · refine ⟨g1, g2, g3, fun l i => ?_⟩
    have he : (crash (run s a T).2 l).dur i = settle1 (laid s.cache a T m i) (s.dur i) (fateAt (run s a T).2 l i) := by
      show settle1 ((run s a T).2.cache i) ((run s a T).2.dur i) _ = _
      rw [g6, g4]
    rw [he]
    unfold laid
    by_cases hi : a ≤ i ∧ i < a + m
    · rw [if_pos hi, List.getElem?_eq_getElem (by omega), List.getD_eq_getElem?_getD, List.getElem?_eq_getElem (by omega)]
      unfold settle1
      simp only
      by_cases h1 : fateAt (run s a T).2 l i = 0
      · rw [if_pos h1]; exact .inl rfl
      · rw [if_neg h1]
        right
        refine ⟨hi.1, by omega, ?_⟩
        by_cases h2 : fateAt (run s a T).2 l i = 1
        · rw [if_pos h2]; exact .inl rfl
        · rw [if_neg h2]; exact .inr rfl
    · rw [if_neg hi, hc]; exact .inl rfl

theorem slot_cases (at_ n : Nat) (e : Int) : (slot at_ n e = at_ ∧ e % 2 ≠ 1) ∨ (slot at_ n e = at_ + n ∧ e % 2 = 1) := by
  unfold slot
  by_cases h : e % 2 = 1
  · rw [if_pos h]; exact .inr ⟨rfl, h⟩
  · rw [if_neg h]; exact .inl ⟨rfl, h⟩
/-- the area of two slots of n sectors from the sector at on holds p, of the epoch e, and none of a later one; e = 0: nothing -/
structure Inv (s : St) (at_ n : Nat) (e : Int) (p : List Nat) : Prop where
  area : at_ + 2 * n ≤ s.n
  one : 1 ≤ n
  few : n ≤ 40000
  clean : ∀ i, s.cache i = none
  ep : 0 ≤ e ∧ e ≤ 1099511627776
  held : e ≠ 0 → Comp (rdOf s) (slot at_ n e) n e p
  old : ∀ e', e < e' → e' ≤ 1099511627776 → Old e' (s.dur (slot at_ n (e + 1))) ∧ (e = 0 → Old e' (s.dur (slot at_ n 0)))
theorem inv_new (N at_ n : Nat) (h1 : at_ + 2 * n ≤ N) (h2 : 1 ≤ n) (h3 : n ≤ 40000) (p : List Nat) : Inv (new N) at_ n 0 p := by
  have ho : ∀ e', ∀ i, Old e' ((new N).dur i) := fun e' i => by
    right
    show ¬ Pk.enc e' <+: []
    intro h
    have := h.length_le
    simp [Pk.enc_length] at this
  exact ⟨h1, h2, h3, fun _ => rfl, by omega, fun h => absurd rfl h, fun e' _ _ => ⟨ho _ _, fun _ => ho _ _⟩⟩
theorem old_not {s : St} {e : Int} {i : Nat} (hi : i < s.n) (hc : s.cache i = none) (h : Old e (s.dur i)) : ¬ ((rdOf s i).1 = 0 ∧ Pk.enc e <+: (rdOf s i).2) := by
  rw [rdOf_clean s i hi hc]
  by_cases ht : (s.dur i).2 = true
  · rw [if_pos ht]; rintro ⟨h1, _⟩; cases h1
  · rw [if_neg ht]
    rintro ⟨_, h2⟩
    exact h.resolve_left ht h2
theorem inv_load {s : St} {at_ n : Nat} {e : Int} {p : List Nat} (h : Inv s at_ n e p) : load (rdOf s) at_ n = if e = 0 then none else some (e, p) := by
  have ha := h.area
  have h1 := h.one
  by_cases h0 : e = 0
  · rw [if_pos h0]
    subst h0
    refine load_none (fun e' h2 h3 => ?_)
    have ho := h.old e' h2 h3
    have e1 : slot at_ n (0 + 1) = at_ + n := rfl
    have e2 : slot at_ n 0 = at_ := rfl
    rw [e1, e2] at ho
    exact ⟨old_not (by omega) (h.clean _) (ho.2 rfl), old_not (by omega) (h.clean _) ho.1⟩
  · rw [if_neg h0]
    refine load_of ⟨by have := h.ep; omega, h.ep.2⟩ h.few (h.held h0) (fun e' h2 h3 => old_not ?_ (h.clean _) (h.old e' h2 h3).1)
    rcases slot_cases at_ n (e + 1) with ⟨hs, _⟩ | ⟨hs, _⟩ <;> rw [hs] <;> omega
/-- sectors of the other slot change, its first one stays or becomes one of no later epoch -/
theorem inv_keep {s t : St} {at_ n : Nat} {e e1 : Int} {p : List Nat} (h : Inv s at_ n e p) (hf : slot at_ n e1 = slot at_ n (e + 1) ∨ e = 0) (hn : t.n = s.n) (hc : ∀ i, t.cache i = none)
    (hd : ∀ i, ¬ (slot at_ n e1 < i ∧ i < slot at_ n e1 + n) → t.dur i = s.dur i ∨ (i = slot at_ n e1 ∧ ∀ e', e < e' → e' ≤ 1099511627776 → Old e' (t.dur i))) : Inv t at_ n e p := by
  have ha := h.area
  have h1 := h.one
  refine ⟨by rw [hn]; exact ha, h1, h.few, hc, h.ep, fun h0 => ⟨(h.held h0).1, fun i hi => ?_⟩, fun e' h2 h3 => ⟨?_, fun h0 => ?_⟩⟩
  · have hl := (h.held h0).1
    have hr := (h.held h0).2 i hi
    have hf' := hf.resolve_right h0
    have hx : slot at_ n e + i < s.n ∧ ¬ (slot at_ n e1 < slot at_ n e + i ∧ slot at_ n e + i < slot at_ n e1 + n) ∧ slot at_ n e + i ≠ slot at_ n e1 := by
      rw [hf']
      rcases slot_cases at_ n e with ⟨hs, hp⟩ | ⟨hs, hp⟩ <;> rcases slot_cases at_ n (e + 1) with ⟨hs', hp'⟩ | ⟨hs', hp'⟩ <;> rw [hs, hs'] <;> omega
    have hdi := (hd _ hx.2.1).resolve_right (fun hh => hx.2.2 hh.1)
    rw [rdOf_clean t _ (by rw [hn]; exact hx.1) (hc _), hdi]
    rw [rdOf_clean s _ hx.1 (h.clean _)] at hr
    exact hr
  · have hx : ¬ (slot at_ n e1 < slot at_ n (e + 1) ∧ slot at_ n (e + 1) < slot at_ n e1 + n) := by
      rcases slot_cases at_ n e1 with ⟨hs, hp⟩ | ⟨hs, hp⟩ <;> rcases slot_cases at_ n (e + 1) with ⟨hs', hp'⟩ | ⟨hs', hp'⟩ <;> rw [hs, hs'] <;> omega
    rcases hd _ hx with hh | ⟨_, hh⟩
    · rw [hh]; exact (h.old e' h2 h3).1
    · exact hh e' h2 h3
  · have hx : ¬ (slot at_ n e1 < slot at_ n 0 ∧ slot at_ n 0 < slot at_ n e1 + n) := by
      rcases slot_cases at_ n e1 with ⟨hs, hp⟩ | ⟨hs, hp⟩ <;> rcases slot_cases at_ n 0 with ⟨hs', hp'⟩ | ⟨hs', hp'⟩ <;> rw [hs, hs'] <;> omega
    rcases hd _ hx with hh | ⟨_, hh⟩
    · rw [hh]; exact (h.old e' h2 h3).2 h0
    · exact hh e' h2 h3
/-- all sectors of a later epoch lie in the other slot -/
theorem inv_next {s t : St} {at_ n : Nat} {e e1 : Int} {p q : List Nat} (h : Inv s at_ n e p) (he : e < e1 ∧ e1 ≤ 1099511627776) (hf : slot at_ n e1 = slot at_ n (e + 1) ∨ e = 0) (hq : secs q.length ≤ n) (hn : t.n = s.n) (hc : ∀ i, t.cache i = none)
    (hd : ∀ i, t.dur i = if slot at_ n e1 ≤ i ∧ i < slot at_ n e1 + secs q.length then (sec e1 0 q (i - slot at_ n e1), false) else s.dur i) : Inv t at_ n e1 q := by
  have ha := h.area
  have h1 := h.one
  have hep := h.ep
  refine ⟨by rw [hn]; exact ha, h1, h.few, hc, by omega, fun _ => ⟨hq, fun i hi => ?_⟩, fun e' h2 h3 => ⟨?_, fun h0 => by omega⟩⟩
  · have hx : slot at_ n e1 + i < s.n := by
      rcases slot_cases at_ n e1 with ⟨hs, hp⟩ | ⟨hs, hp⟩ <;> rw [hs] <;> omega
    have hdi : t.dur (slot at_ n e1 + i) = (sec e1 0 q i, false) := by rw [hd, if_pos ⟨by omega, by omega⟩, Nat.add_sub_cancel_left]
    rw [rdOf_clean t _ (by rw [hn]; exact hx) (hc _), hdi]
    rfl
  · have hx : ¬ (slot at_ n e1 ≤ slot at_ n (e1 + 1) ∧ slot at_ n (e1 + 1) < slot at_ n e1 + secs q.length) := by
      rcases slot_cases at_ n e1 with ⟨hs, hp⟩ | ⟨hs, hp⟩ <;> rcases slot_cases at_ n (e1 + 1) with ⟨hs', hp'⟩ | ⟨hs', hp'⟩ <;> rw [hs, hs'] <;> omega
    rw [hd, if_neg hx]
    by_cases h0 : e = 0
    · subst h0
      have ho := h.old e' (by omega) h3
      rcases slot_cases at_ n (e1 + 1) with ⟨hs', hp'⟩ | ⟨hs', hp'⟩
      · rw [hs']; exact ho.2 rfl
      · rw [hs']; exact ho.1
    · have hf' := hf.resolve_right h0
      have hse : slot at_ n (e1 + 1) = slot at_ n e := by
        rcases slot_cases at_ n e1 with ⟨hs, hp⟩ | ⟨hs, hp⟩ <;> rcases slot_cases at_ n (e1 + 1) with ⟨hs', hp'⟩ | ⟨hs', hp'⟩ <;> rcases slot_cases at_ n e with ⟨ht, hu⟩ | ⟨ht, hu⟩ <;> rcases slot_cases at_ n (e + 1) with ⟨ht', hu'⟩ | ⟨ht', hu'⟩ <;> omega
      rw [hse]
      have hr := (h.held h0).2 0 (secs_pos _)
      rw [Nat.add_zero, rdOf_clean s _ (by rcases slot_cases at_ n e with ⟨hs, hp⟩ | ⟨hs, hp⟩ <;> rw [hs] <;> omega) (h.clean _)] at hr
      by_cases ht : (s.dur (slot at_ n e)).2 = true
      · exact .inl ht
      · rw [if_neg ht] at hr
        have h5 : (s.dur (slot at_ n e)).1 = sec e 0 p 0 := (Prod.mk.inj hr).2
        have h6 := old_sec hep.1 (show e < e' by omega) h3 0 p 0
        right
        have h7 := h6.resolve_left (by simp)
        rw [h5]; exact h7
theorem inv_crash {s : St} {at_ n : Nat} {e : Int} {p : List Nat} (h : Inv s at_ n e p) (l : List Int) : Inv (crash s l) at_ n e p :=
  inv_keep (e1 := e + 1) h (.inl rfl) rfl (fun _ => rfl) (fun i _ => .inl (by
    show settle1 (s.cache i) (s.dur i) _ = _
    rw [h.clean]; rfl))
theorem inv_arm {s : St} {at_ n : Nat} {e : Int} {p : List Nat} (h : Inv s at_ n e p) (k : Int) : Inv (arm s k) at_ n e p :=
  ⟨h.area, h.one, h.few, h.clean, h.ep, h.held, h.old⟩

/-- a Save into the slot from f on: all sectors but the first one, then that one; b: it flushes ahead of that one also where it is the only one -/
def save (b : Bool) (s : St) (f : Nat) (e : Int) (p : List Nat) : Int × St :=
  if b = true ∨ 1 < secs p.length then
    if (run s (f + 1) (secsOf e 0 p).tail).1 = 0 then run (run s (f + 1) (secsOf e 0 p).tail).2 f [sec e 0 p 0] else run s (f + 1) (secsOf e 0 p).tail
  else run s f [sec e 0 p 0]
theorem secsOf_tail (e : Int) (p : List Nat) : (secsOf e 0 p).tail.length = secs p.length - 1 ∧ (∀ b ∈ (secsOf e 0 p).tail, b.length ≤ 64) ∧ ∀ i, i + 1 < secs p.length → (secsOf e 0 p).tail.getD i [] = sec e 0 p (i + 1) := by
  refine ⟨by rw [List.length_tail, secsOf_length], fun b hb => secsOf_small _ _ _ b (List.mem_of_mem_tail hb), fun i hi => ?_⟩
  rw [List.getD_eq_getElem?_getD, List.getElem?_tail, secsOf_get _ _ _ _ hi]
  rfl
/-- the first part of a Save: it leaves what is loaded as it was -/
theorem save_rest {s : St} {at_ n : Nat} {e e1 : Int} {p q : List Nat} (h : Inv s at_ n e p) (hf : slot at_ n e1 = slot at_ n (e + 1) ∨ e = 0) (hq : secs q.length ≤ n)
    (h0 : (run s (slot at_ n e1 + 1) (secsOf e1 0 q).tail).1 = 0) :
    Inv (run s (slot at_ n e1 + 1) (secsOf e1 0 q).tail).2 at_ n e p ∧ (run s (slot at_ n e1 + 1) (secsOf e1 0 q).tail).2.n = s.n ∧ (run s (slot at_ n e1 + 1) (secsOf e1 0 q).tail).2.armed = s.armed ∧ (run s (slot at_ n e1 + 1) (secsOf e1 0 q).tail).2.down = false ∧
    ∀ i, (run s (slot at_ n e1 + 1) (secsOf e1 0 q).tail).2.dur i = if slot at_ n e1 < i ∧ i < slot at_ n e1 + secs q.length then (sec e1 0 q (i - slot at_ n e1), false) else s.dur i := by
  have ha := h.area
  have h1 := h.one
  have hp := secs_pos q.length
  obtain ⟨t1, t2, t3⟩ := secsOf_tail e1 q
  have hb : slot at_ n e1 + n ≤ s.n := by rcases slot_cases at_ n e1 with ⟨hs, _⟩ | ⟨hs, _⟩ <;> rw [hs] <;> omega
  obtain ⟨g1, g2, g3, g4, g5⟩ := ran h.clean (by rw [t1]; omega) t2 h0
  have hd : ∀ i, (run s (slot at_ n e1 + 1) (secsOf e1 0 q).tail).2.dur i = if slot at_ n e1 < i ∧ i < slot at_ n e1 + secs q.length then (sec e1 0 q (i - slot at_ n e1), false) else s.dur i := fun i => by
    rw [g5, t1]
    by_cases hi : slot at_ n e1 < i ∧ i < slot at_ n e1 + secs q.length
    · rw [if_pos ⟨by omega, by omega⟩, if_pos hi, t3 _ (by omega), show i - (slot at_ n e1 + 1) + 1 = i - slot at_ n e1 from by omega]
    · rw [if_neg (by omega), if_neg hi]
  exact ⟨inv_keep h hf g2 g1 (fun i hi => .inl (by rw [hd, if_neg (fun hh => hi ⟨hh.1, by omega⟩)])), g2, g3, g4, hd⟩
/-- .. its second part, where nothing fails -/
theorem save_first {s t : St} {at_ n : Nat} {e e1 : Int} {p q : List Nat} (h : Inv s at_ n e p) (he : e < e1 ∧ e1 ≤ 1099511627776) (hf : slot at_ n e1 = slot at_ n (e + 1) ∨ e = 0) (hq : secs q.length ≤ n)
    (ht : Inv t at_ n e p) (hn : t.n = s.n) (hd : ∀ i, t.dur i = if slot at_ n e1 < i ∧ i < slot at_ n e1 + secs q.length then (sec e1 0 q (i - slot at_ n e1), false) else s.dur i) :
    ((run t (slot at_ n e1) [sec e1 0 q 0]).1 = 0 → Inv (run t (slot at_ n e1) [sec e1 0 q 0]).2 at_ n e1 q ∧ (run t (slot at_ n e1) [sec e1 0 q 0]).2.n = s.n ∧ (run t (slot at_ n e1) [sec e1 0 q 0]).2.armed = t.armed ∧ (run t (slot at_ n e1) [sec e1 0 q 0]).2.down = false) ∧
    ((run t (slot at_ n e1) [sec e1 0 q 0]).1 ≠ 0 → (run t (slot at_ n e1) [sec e1 0 q 0]).1 = 10 ∧ (run t (slot at_ n e1) [sec e1 0 q 0]).2.down = true ∧ (run t (slot at_ n e1) [sec e1 0 q 0]).2.n = s.n ∧
      ∀ l, Inv (crash (run t (slot at_ n e1) [sec e1 0 q 0]).2 l) at_ n e p ∨ Inv (crash (run t (slot at_ n e1) [sec e1 0 q 0]).2 l) at_ n e1 q) := by
  have ha := h.area
  have h1 := h.one
  have hp := secs_pos q.length
  have hb : slot at_ n e1 + n ≤ t.n := by rw [hn]; rcases slot_cases at_ n e1 with ⟨hs, _⟩ | ⟨hs, _⟩ <;> rw [hs] <;> omega
  have hsm : ∀ b ∈ [sec e1 0 q 0], b.length ≤ 64 := fun b hb => by rw [List.mem_singleton.1 hb]; exact sec_length_le _ _ _ _
  constructor
  · intro h0
    obtain ⟨g1, g2, g3, g4, g5⟩ := ran ht.clean (by simp; omega) hsm h0
    refine ⟨inv_next h he hf hq (g2.trans hn) g1 (fun i => ?_), g2.trans hn, g3, g4⟩
    rw [g5]
    by_cases h2 : i = slot at_ n e1
    · subst h2
      rw [if_pos ⟨by omega, by simp⟩, if_pos ⟨by omega, by omega⟩, Nat.sub_self]; rfl
    · rw [if_neg (by simp; omega), hd]
      by_cases h3 : slot at_ n e1 < i ∧ i < slot at_ n e1 + secs q.length
      · rw [if_pos h3, if_pos ⟨by omega, by omega⟩]
      · rw [if_neg h3, if_neg (by omega)]
  · intro h0
    obtain ⟨g1, g2, g3, g4⟩ := failed ht.clean (by simp; omega) hsm h0
    refine ⟨g1, g2, g3.trans hn, fun l => ?_⟩
    have hcl : ∀ i, (crash (run t (slot at_ n e1) [sec e1 0 q 0]).2 l).cache i = none := fun _ => rfl
    have hcn : (crash (run t (slot at_ n e1) [sec e1 0 q 0]).2 l).n = t.n := g3
    have hoth : ∀ i, i ≠ slot at_ n e1 → (crash (run t (slot at_ n e1) [sec e1 0 q 0]).2 l).dur i = t.dur i := fun i hi => by
      rcases g4 l i with h2 | ⟨h2, h3, _⟩
      · exact h2
      · simp at h3; omega
    rcases g4 l (slot at_ n e1) with h2 | ⟨_, _, h2 | h2⟩
    · exact .inl (inv_keep (e1 := e1) ht hf hcn hcl (fun i _ => by
        by_cases hi : i = slot at_ n e1
        · subst hi; exact .inl h2
        · exact .inl (hoth i hi)))
    · right
      refine inv_next h he hf hq (hcn.trans hn) hcl (fun i => ?_)
      by_cases hi : i = slot at_ n e1
      · subst hi
        rw [h2, if_pos ⟨by omega, by omega⟩, Nat.sub_self]; rfl
      · rw [hoth i hi, hd]
        by_cases h3 : slot at_ n e1 < i ∧ i < slot at_ n e1 + secs q.length
        · rw [if_pos h3, if_pos ⟨by omega, by omega⟩]
        · rw [if_neg h3, if_neg (by omega)]
    · exact .inl (inv_keep (e1 := e1) ht hf hcn hcl (fun i _ => by
        by_cases hi : i = slot at_ n e1
        · subst hi; exact .inr ⟨rfl, fun e' _ _ => .inl (by rw [h2])⟩
        · exact .inl (hoth i hi)))
/-- a Save that is right: what is loaded behind it, and behind a crash -/
theorem save_cases {b : Bool} {s : St} {at_ n : Nat} {e e1 : Int} {p q : List Nat} (h : Inv s at_ n e p) (he : e < e1 ∧ e1 ≤ 1099511627776) (hf : slot at_ n e1 = slot at_ n (e + 1) ∨ e = 0) (hq : secs q.length ≤ n) :
    ((save b s (slot at_ n e1) e1 q).1 = 0 ∧ Inv (save b s (slot at_ n e1) e1 q).2 at_ n e1 q ∧ (save b s (slot at_ n e1) e1 q).2.n = s.n ∧ (save b s (slot at_ n e1) e1 q).2.armed = s.armed ∧ (save b s (slot at_ n e1) e1 q).2.down = false) ∨
    ((save b s (slot at_ n e1) e1 q).1 = 10 ∧ (save b s (slot at_ n e1) e1 q).2.down = true ∧ (save b s (slot at_ n e1) e1 q).2.n = s.n ∧ ∀ l, Inv (crash (save b s (slot at_ n e1) e1 q).2 l) at_ n e p ∨ Inv (crash (save b s (slot at_ n e1) e1 q).2 l) at_ n e1 q) := by
  have ha := h.area
  have h1 := h.one
  have hp := secs_pos q.length
  unfold save
  by_cases hm : b = true ∨ 1 < secs q.length
  · rw [if_pos hm]
    by_cases h0 : (run s (slot at_ n e1 + 1) (secsOf e1 0 q).tail).1 = 0
    · rw [if_pos h0]
      obtain ⟨k1, k2, k3, k4, k5⟩ := save_rest h hf hq h0
      have := save_first h he hf hq k1 k2 k5
      by_cases h2 : (run (run s (slot at_ n e1 + 1) (secsOf e1 0 q).tail).2 (slot at_ n e1) [sec e1 0 q 0]).1 = 0
      · obtain ⟨m1, m2, m3, m4⟩ := this.1 h2
        exact .inl ⟨h2, m1, m2, m3.trans k3, m4⟩
      · obtain ⟨m1, m2, m3, m4⟩ := this.2 h2
        exact .inr ⟨m1, m2, m3, m4⟩
    · rw [if_neg h0]
      obtain ⟨t1, t2, t3⟩ := secsOf_tail e1 q
      have hb : slot at_ n e1 + n ≤ s.n := by rcases slot_cases at_ n e1 with ⟨hs, _⟩ | ⟨hs, _⟩ <;> rw [hs] <;> omega
      obtain ⟨g1, g2, g3, g4⟩ := failed h.clean (by rw [t1]; omega) t2 h0
      refine .inr ⟨g1, g2, g3, fun l => .inl (inv_keep h hf g3 (fun _ => rfl) (fun i hi => ?_))⟩
      rcases g4 l i with h2 | ⟨h2, h3, _⟩
      · exact .inl h2
      · rw [t1] at h3
        exact absurd ⟨by omega, by omega⟩ hi
  · rw [if_neg hm]
    have hone : secs q.length = 1 := by have := fun h => hm (.inr h); omega
    have := save_first h he hf hq h rfl (fun i => by rw [hone, if_neg (by omega)])
    by_cases h2 : (run s (slot at_ n e1) [sec e1 0 q 0]).1 = 0
    · obtain ⟨m1, m2, m3, m4⟩ := this.1 h2
      exact .inl ⟨h2, m1, m2, m3, m4⟩
    · obtain ⟨m1, m2, m3, m4⟩ := this.2 h2
      exact .inr ⟨m1, m2, m3, m4⟩
/-- a Save of a lesser epoch into the other slot, where nothing fails: what is loaded stays -/
theorem save_lesser {b : Bool} {s : St} {at_ n : Nat} {e e1 : Int} {p q : List Nat} (h : Inv s at_ n e p) (he : 0 ≤ e1 ∧ e1 < e) (hf : slot at_ n e1 = slot at_ n (e + 1)) (hq : secs q.length ≤ n) (h0 : (save b s (slot at_ n e1) e1 q).1 = 0) :
    Inv (save b s (slot at_ n e1) e1 q).2 at_ n e p ∧ (save b s (slot at_ n e1) e1 q).2.n = s.n ∧ (save b s (slot at_ n e1) e1 q).2.armed = s.armed ∧ (save b s (slot at_ n e1) e1 q).2.down = false := by
  have ha := h.area
  have h1 := h.one
  have hp := secs_pos q.length
  have hsm : ∀ x ∈ [sec e1 0 q 0], x.length ≤ 64 := fun x hb => by rw [List.mem_singleton.1 hb]; exact sec_length_le _ _ _ _
  have hb : slot at_ n e1 + n ≤ s.n := by rcases slot_cases at_ n e1 with ⟨hs, _⟩ | ⟨hs, _⟩ <;> rw [hs] <;> omega
  have key : ∀ t : St, Inv t at_ n e p → t.n = s.n → (run t (slot at_ n e1) [sec e1 0 q 0]).1 = 0 →
      Inv (run t (slot at_ n e1) [sec e1 0 q 0]).2 at_ n e p ∧ (run t (slot at_ n e1) [sec e1 0 q 0]).2.n = s.n ∧ (run t (slot at_ n e1) [sec e1 0 q 0]).2.armed = t.armed ∧ (run t (slot at_ n e1) [sec e1 0 q 0]).2.down = false := fun t ht hn hr => by
    obtain ⟨g1, g2, g3, g4, g5⟩ := ran ht.clean (by simp; omega) hsm hr
    refine ⟨inv_keep (e1 := e1) ht (.inl hf) g2 g1 (fun i _ => ?_), g2.trans hn, g3, g4⟩
    rw [g5]
    by_cases hi : i = slot at_ n e1
    · subst hi
      right
      refine ⟨rfl, fun e' h2 h3 => ?_⟩
      rw [if_pos ⟨by omega, by simp⟩, Nat.sub_self]
      exact old_sec he.1 (by omega) h3 0 q 0
    · left
      rw [if_neg (by simp; omega)]
  unfold save at h0 ⊢
  by_cases hm : b = true ∨ 1 < secs q.length
  · rw [if_pos hm] at h0 ⊢
    by_cases h2 : (run s (slot at_ n e1 + 1) (secsOf e1 0 q).tail).1 = 0
    · rw [if_pos h2] at h0 ⊢
      obtain ⟨k1, k2, k3, k4, k5⟩ := save_rest h (.inl hf) hq h2
      obtain ⟨m1, m2, m3, m4⟩ := key _ k1 k2 h0
      exact ⟨m1, m2, m3.trans k3, m4⟩
    · rw [if_neg h2] at h0
      exact absurd h0 h2
  · rw [if_neg hm] at h0 ⊢
    exact key s h rfl h0
/-- where the power cannot fail -/
theorem save_safe {b : Bool} {s : St} {f n : Nat} (e : Int) (q : List Nat) (hq : secs q.length ≤ n) (hf : f + n ≤ s.n) (hc : ∀ i, s.cache i = none) (h1 : s.armed = false) (h2 : s.down = false) : (save b s f e q).1 = 0 := by
  have hp := secs_pos q.length
  obtain ⟨t1, t2, t3⟩ := secsOf_tail e q
  have hsm : ∀ x ∈ [sec e 0 q 0], x.length ≤ 64 := fun x hb => by rw [List.mem_singleton.1 hb]; exact sec_length_le _ _ _ _
  unfold save
  by_cases hm : b = true ∨ 1 < secs q.length
  · rw [if_pos hm]
    have h0 := run_safe (secsOf e 0 q).tail s (f + 1) (by rw [t1]; omega) t2 h1 h2
    rw [if_pos h0]
    obtain ⟨g1, g2, g3, g4, g5⟩ := ran hc (by rw [t1]; omega) t2 h0
    exact run_safe _ _ _ (by rw [g2]; simp; omega) hsm (g3.trans h1) g4
  · rw [if_neg hm]
    exact run_safe _ _ _ (by simp; omega) hsm h1 h2

/-- what is loaded looks at nothing but the area -/
theorem take_congr {rd rd' : Nat → Int × List Nat} (e : Int) : ∀ (l at_ : Nat) (r : List Nat), (∀ i, at_ ≤ i → i < at_ + l → rd' i = rd i) → take rd' e l at_ r = take rd e l at_ r
  | 0, _, _, _ => rfl
  | l + 1, at_, r, h => by
    rw [take, take, h at_ (Nat.le_refl _) (by omega)]
    rw [take_congr e l (at_ + 1) _ (fun i h1 h2 => h i (by omega) (by omega))]
theorem whole_congr {rd rd' : Nat → Int × List Nat} {at_ n : Nat} (par : Int) (hn : 1 ≤ n) (h : ∀ i, at_ ≤ i → i < at_ + n → rd' i = rd i) : whole rd' at_ n par = whole rd at_ n par := by
  unfold whole
  rw [h at_ (Nat.le_refl _) (by omega), take_congr _ n at_ [] h]
theorem load_congr {rd rd' : Nat → Int × List Nat} {at_ n : Nat} (hn : 1 ≤ n) (h : ∀ i, at_ ≤ i → i < at_ + 2 * n → rd' i = rd i) : load rd' at_ n = load rd at_ n := by
  unfold load
  rw [whole_congr 0 hn (fun i h1 h2 => h i h1 (by omega)), whole_congr 1 hn (fun i h1 h2 => h i (by omega) (by omega))]
/-- the area is as it was, and lasts -/
structure Same (s t : St) (a m : Nat) : Prop where
  n : t.n = s.n
  area : a + m ≤ s.n
  clean : ∀ i, a ≤ i → i < a + m → t.cache i = none ∧ t.dur i = s.dur i
theorem Same.load {s t : St} {at_ n : Nat} (h : Same s t at_ (2 * n)) (hn : 1 ≤ n) (hc : ∀ i, s.cache i = none) : load (rdOf t) at_ n = load (rdOf s) at_ n :=
  load_congr hn (fun i h1 h2 => by
    obtain ⟨h3, h4⟩ := h.clean i h1 h2
    have ha := h.area
    rw [rdOf_clean t i (by rw [h.n]; omega) h3, rdOf_clean s i (by omega) (hc i), h4])
theorem Same.crash {s t : St} {a m : Nat} (h : Same s t a m) (l : List Int) : Same s (crash t l) a m :=
  ⟨h.n, h.area, fun i h1 h2 => ⟨rfl, by
    obtain ⟨h3, h4⟩ := h.clean i h1 h2
    show settle1 (t.cache i) (t.dur i) _ = _
    rw [h3]; exact h4⟩⟩
theorem Same.write {s t : St} {a m : Nat} (h : Same s t a m) (k : Nat) (b : List Nat) (hk : k < a ∨ a + m ≤ k) : Same s (wrS t (k : Int) b) a m := by
  unfold wrS
  by_cases h1 : t.down = true
  · rw [if_pos h1]; exact h
  · rw [if_neg h1]
    by_cases h2 : (0 : Int) ≤ k ∧ (k : Int) < t.n
    · rw [if_pos h2]
      by_cases h3 : 64 < b.length
      · rw [if_pos h3]; exact h
      · rw [if_neg h3]
        by_cases h4 : t.dead = true
        · rw [if_pos h4]; exact ⟨h.n, h.area, h.clean⟩
        · rw [if_neg h4]
          refine ⟨h.n, h.area, fun i h5 h6 => ⟨?_, (h.clean i h5 h6).2⟩⟩
          show upd t.cache (k : Int).toNat (some b) i = none
          rw [Int.toNat_natCast, upd_other _ _ _ _ (by omega)]
          exact (h.clean i h5 h6).1
    · rw [if_neg h2]; exact h
end Ck
end Go.Proofs.Ytdgijnolpjaheaa
namespace Go.Proofs.Ytdgijnolpjaheaa
namespace Pk
theorem num_inj (n : Nat) : ∀ a b : List Nat, a.length = n → b.length = n → (∀ x ∈ a, x < 256) → (∀ x ∈ b, x < 256) → num a = num b → a = b := by
  induction n with
  | zero => intro a b ha hb _ _ _; rw [List.eq_nil_of_length_eq_zero ha, List.eq_nil_of_length_eq_zero hb]
  | succ n ih =>
    intro a b hla hlb ha hb hn
    rcases List.eq_nil_or_concat a with rfl | ⟨a, x, rfl⟩
    · simp at hla
    · rcases List.eq_nil_or_concat b with rfl | ⟨b, y, rfl⟩
      · simp at hlb
      · simp only [List.concat_eq_append] at hla hlb ha hb hn ⊢
        rw [num_snoc, num_snoc] at hn
        have hx := ha x (by simp)
        have hy := hb y (by simp)
        have h1 := ih a b (by simpa using hla) (by simpa using hlb) (fun z hz => ha z (by simp [hz])) (fun z hz => hb z (by simp [hz])) (by omega)
        have h2 : x = y := by omega
        rw [h1, h2]
theorem sgn_inj {a b : Nat} (ha : a < 18446744073709551616) (hb : b < 18446744073709551616) (h : sgn a = sgn b) : a = b := by
  unfold sgn at h
  split at h <;> split at h <;> omega
theorem rd_is (l : List Nat) (h8 : 8 ≤ l.length) (hs : ∀ x ∈ l, x < 256) (e : Int) (he : -9223372036854775808 ≤ e ∧ e ≤ 9223372036854775807) : sgn (num (l.take 8)) = e ↔ enc e <+: l := by
  constructor
  · intro h
    have h1 : sgn (num (l.take 8)) = sgn (num (enc e)) := by rw [h, dec_enc e he]
    have h2 := sgn_inj (take_num_lt l hs) (by have := take_num_lt (enc e) (enc_small e); rwa [List.take_of_length_le (Nat.le_of_eq (enc_length e))] at this) h1
    have h3 := num_inj 8 (l.take 8) (enc e) (by rw [List.length_take]; omega) (enc_length e) (fun x hx => hs x (List.mem_of_mem_take hx)) (enc_small e) h2
    rw [← h3]
    exact List.take_prefix 8 l
  · rintro ⟨t, rfl⟩
    rw [List.take_left' (enc_length e), dec_enc e he]
end Pk
namespace Ck
open Sx Jo
/-- the states of a reader behind the first, the second, the third number -/
def rd1 (l : List Nat) : Int × Pk.St := Pk.rdInt ⟨l, false⟩
def rd2 (l : List Nat) : Int × Pk.St := Pk.rdInt (rd1 l).2
def rd3 (l : List Nat) : Int × Pk.St := Pk.rdInt (rd2 l).2
theorem rd_long (l : List Nat) (h : 24 ≤ l.length) : rd1 l = (Pk.sgn (Pk.num (l.take 8)), ⟨l.drop 8, false⟩) ∧ rd2 l = (Pk.sgn (Pk.num ((l.drop 8).take 8)), ⟨l.drop 16, false⟩) ∧ rd3 l = (Pk.sgn (Pk.num ((l.drop 16).take 8)), ⟨l.drop 24, false⟩) := by
  have h1 : rd1 l = (Pk.sgn (Pk.num (l.take 8)), ⟨l.drop 8, false⟩) := Pk.rdInt_drop l false 0 3 (by omega) h
  have h2 : rd2 l = (Pk.sgn (Pk.num ((l.drop 8).take 8)), ⟨l.drop 16, false⟩) := by
    unfold rd2; rw [h1]; exact Pk.rdInt_drop l false 1 3 (by omega) h
  have h3 : rd3 l = (Pk.sgn (Pk.num ((l.drop 16).take 8)), ⟨l.drop 24, false⟩) := by
    unfold rd3; rw [h2]; exact Pk.rdInt_drop l false 2 3 (by omega) h
  exact ⟨h1, h2, h3⟩
theorem rd_short (l : List Nat) (h : l.length < 24) : (rd3 l).2.bad = true := by
  have hg : ∀ s : Pk.St, s.bad = true → s.rest = [] → (Pk.rdInt s).2.bad = true ∧ (Pk.rdInt s).2.rest = [] := fun s h1 h2 => by
    unfold Pk.rdInt
    rw [if_pos (by rw [h2]; simp)]
    exact ⟨rfl, rfl⟩
  by_cases h1 : l.length < 8
  · have e1 : rd1 l = (0, Pk.gone) := by unfold rd1 Pk.rdInt; rw [if_pos h1]
    have e2 : rd2 l = (0, Pk.gone) := by unfold rd2; rw [e1]; rfl
    unfold rd3; rw [e2]; rfl
  · have e1 : rd1 l = (Pk.sgn (Pk.num (l.take 8)), ⟨l.drop 8, false⟩) := by unfold rd1 Pk.rdInt; rw [if_neg h1]
    by_cases h2 : l.length < 16
    · have e2 : rd2 l = (0, Pk.gone) := by unfold rd2 Pk.rdInt; rw [e1, if_pos (by simp; omega)]
      unfold rd3; rw [e2]; rfl
    · have e2 : rd2 l = (Pk.sgn (Pk.num ((l.drop 8).take 8)), ⟨l.drop 16, false⟩) := by
        unfold rd2 Pk.rdInt; rw [e1, if_neg (by simp; omega), List.drop_drop]
      have e3 : rd3 l = (0, Pk.gone) := by unfold rd3 Pk.rdInt; rw [e2, if_pos (by simp; omega)]
      rw [e3]; rfl
theorem head_iff (l : List Nat) (h : 24 ≤ l.length) (hs : ∀ x ∈ l, x < 256) (e z m : Int) (he : -9223372036854775808 ≤ e ∧ e ≤ 9223372036854775807) (hz : -9223372036854775808 ≤ z ∧ z ≤ 9223372036854775807) (hm : -9223372036854775808 ≤ m ∧ m ≤ 9223372036854775807) :
    head e z m <+: l ↔ (rd1 l).1 = e ∧ (rd2 l).1 = z ∧ (rd3 l).1 = m := by
  obtain ⟨h1, h2, h3⟩ := rd_long l h
  rw [h1, h2, h3]
  have s8 : ∀ x ∈ l.drop 8, x < 256 := fun x hx => hs x (List.mem_of_mem_drop hx)
  have s16 : ∀ x ∈ l.drop 16, x < 256 := fun x hx => hs x (List.mem_of_mem_drop hx)
  show _ ↔ (Pk.sgn (Pk.num (l.take 8)) = e ∧ Pk.sgn (Pk.num ((l.drop 8).take 8)) = z ∧ Pk.sgn (Pk.num ((l.drop 16).take 8)) = m)
  rw [Pk.rd_is l (by omega) hs e he, Pk.rd_is (l.drop 8) (by simp; omega) s8 z hz, Pk.rd_is (l.drop 16) (by simp; omega) s16 m hm]
  unfold head
  constructor
  · rintro ⟨t, rfl⟩
    refine ⟨⟨Pk.enc z ++ (Pk.enc m ++ t), by simp⟩, ⟨Pk.enc m ++ t, ?_⟩, ⟨t, ?_⟩⟩
    · rw [List.append_assoc, List.append_assoc, List.drop_left' (Pk.enc_length e)]
    · rw [List.append_assoc, show (16 : Nat) = (Pk.enc e ++ Pk.enc z).length from rfl, List.drop_left]
  · rintro ⟨⟨t, ht⟩, ⟨t2, ht2⟩, ⟨t3, ht3⟩⟩
    have e1 : l.drop 8 = t := by rw [← ht, List.drop_left' (Pk.enc_length e)]
    rw [e1] at ht2
    have e2 : l.drop 16 = t2 := by rw [show (16 : Nat) = 8 + 8 from rfl, ← List.drop_drop, e1, ← ht2, List.drop_left' (Pk.enc_length z)]
    rw [e2] at ht3
    exact ⟨t3, by rw [← ht, ← ht2, ← ht3]; simp⟩
/-- 'due', by the three numbers -/
theorem due_none (l : List Nat) (hs : ∀ x ∈ l, x < 256) (e : Int) (he : -9223372036854775808 ≤ e ∧ e ≤ 9223372036854775807) (i : Nat) (hi : i ≤ 1000000)
    (h : (rd3 l).2.bad = true ∨ (rd1 l).1 ≠ e ∨ (rd2 l).1 ≠ 0 ∨ ((rd3 l).1 ≠ (Jo.mark i false : Nat) ∧ (rd3 l).1 ≠ (Jo.mark i true : Nat))) : due l e i = ([], false, false) := by
  have hk : ∀ b : Bool, ¬ head e 0 (Jo.mark i b : Nat) <+: l := fun b hp => by
    have hl : 24 ≤ l.length := by have := hp.length_le; rwa [head_length] at this
    have hb : (rd3 l).2.bad = false := by rw [(rd_long l hl).2.2]
    have hm : -9223372036854775808 ≤ ((Jo.mark i b : Nat) : Int) ∧ ((Jo.mark i b : Nat) : Int) ≤ 9223372036854775807 := by unfold Jo.mark; cases b <;> simp <;> omega
    obtain ⟨h1, h2, h3⟩ := (head_iff l hl hs e 0 _ he (by omega) hm).1 hp
    rcases h with h | h | h | ⟨h, h'⟩
    · rw [hb] at h; cases h
    · exact h h1
    · exact h h2
    · cases b
      · exact h h3
      · exact h' h3
  unfold due
  rw [if_neg (hk false), if_neg (hk true)]
theorem rd_bad (l : List Nat) (h : (rd3 l).2.bad = false) : 24 ≤ l.length := by
  by_cases hl : l.length < 24
  · rw [rd_short l hl] at h; cases h
  · omega
theorem due_mid (l : List Nat) (hs : ∀ x ∈ l, x < 256) (e : Int) (he : -9223372036854775808 ≤ e ∧ e ≤ 9223372036854775807) (i : Nat) (hi : i ≤ 1000000)
    (h0 : (rd3 l).2.bad = false) (h1 : (rd1 l).1 = e) (h2 : (rd2 l).1 = 0) (h3 : (rd3 l).1 = (Jo.mark i false : Nat)) : due l e i = (l.drop 24, false, decide ((l.drop 24).length = 40)) := by
  have hm : -9223372036854775808 ≤ ((Jo.mark i false : Nat) : Int) ∧ ((Jo.mark i false : Nat) : Int) ≤ 9223372036854775807 := by simp [Jo.mark]; omega
  unfold due
  rw [if_pos ((head_iff l (rd_bad l h0) hs e 0 _ he (by omega) hm).2 ⟨h1, h2, h3⟩)]
theorem due_last (l : List Nat) (hs : ∀ x ∈ l, x < 256) (e : Int) (he : -9223372036854775808 ≤ e ∧ e ≤ 9223372036854775807) (i : Nat) (hi : i ≤ 1000000)
    (h0 : (rd3 l).2.bad = false) (h1 : (rd1 l).1 = e) (h2 : (rd2 l).1 = 0) (h3 : (rd3 l).1 = (Jo.mark i true : Nat)) : due l e i = (l.drop 24, true, fits (l.drop 24) i) := by
  have hm : ∀ b : Bool, -9223372036854775808 ≤ ((Jo.mark i b : Nat) : Int) ∧ ((Jo.mark i b : Nat) : Int) ≤ 9223372036854775807 := fun b => by unfold Jo.mark; cases b <;> simp <;> omega
  unfold due
  rw [if_neg, if_pos ((head_iff l (rd_bad l h0) hs e 0 _ he (by omega) (hm true)).2 ⟨h1, h2, h3⟩)]
  intro hp
  have := ((head_iff l (rd_bad l h0) hs e 0 _ he (by omega) (hm false)).1 hp).2.2
  rw [h3] at this
  simp [Jo.mark] at this
  omega
/-- the first number -/
theorem epoch_rd (l : List Nat) : epoch l = (rd1 l).1 := rfl
end Ck
end Go.Proofs.Ytdgijnolpjaheaa
namespace Go.Proofs.Ytdgijnolpjaheaa
open Go.RowKit

namespace Ck
/-- may an area be? -/
def Right (N : Nat) (f n : Int) : Prop := 0 ≤ f ∧ 1 ≤ n ∧ f + 2 * n ≤ N
instance (N : Nat) (f n : Int) : Decidable (Right N f n) := by unfold Right; infer_instance
def Epoch (e : Int) : Prop := 1 ≤ e ∧ e ≤ 1099511627776
instance (e : Int) : Decidable (Epoch e) := by unfold Epoch; infer_instance
end Ck
namespace C
theorem half (a : Int) : (0 ≤ a ∧ a.tdiv 2 = a / 2) ∨ (a < 0 ∧ a.tdiv 2 = -((-a) / 2)) := by
  by_cases h : 0 ≤ a
  · exact .inl ⟨h, Int.tdiv_eq_ediv_of_nonneg h⟩
  · obtain ⟨k, rfl⟩ : ∃ k, a = -k := ⟨-a, by omega⟩
    refine .inr ⟨by omega, ?_⟩
    rw [Int.neg_tdiv, Int.tdiv_eq_ediv_of_nonneg (by omega), Int.neg_neg]
set_option maxRecDepth 100000 in
theorem valid_any (Z : Nat → Prop) (d : Dk) (s : Sx.St) (f n : Int) (hf : InInt f) (w : World) (h : DiskAt w Z d s) :
    Calls Try.prog 29 #[.pointer (some ⟨d.g, 0, none⟩), .int .i64 f, .int .i64 n] w fun e' w' => e' = .returned (.bool (decide (Ck.Right s.n f n))) ∧ w' = w := by
  have hb := h.bound
  have HF := hid hf
  unfold InInt at hf
  by_cases h1 : 0 ≤ f
  · by_cases h2 : 1 ≤ n
    · have hw : IntKind.i64.wrap ((s.n : Int) - f) = (s.n : Int) - f := by rw [IntKind.wrap_i64]; omega
      have HL := hid (len_any Z d s w h)
      have hh := half ((s.n : Int) - f)
      have hq1 : -9223372036854775808 ≤ ((s.n : Int) - f).tdiv 2 := by omega
      have hq2 : ((s.n : Int) - f).tdiv 2 ≤ 9223372036854775807 := by omega
      by_cases h3 : n ≤ ((s.n : Int) - f).tdiv 2
      · have hq : f + 2 * n ≤ s.n := by
          omega
        have HE : Hid (decide (Ck.Right s.n f n) = true) := hid (decide_eq_true ⟨h1, h2, hq⟩)
        rw [HE.out]
        clear h hf hb hq hh
        go_enter Try.func29, Try.ntmps29
        go_wp2_with fail
        refine HL.out.mono ?_
        rintro e1 w1 ⟨rfl, rfl⟩
        go_wp2
        go_ret
        exact ⟨rfl, rfl⟩
      · have hq : ¬ f + 2 * n ≤ s.n := fun _ => h3 (by omega)
        have HE : Hid (decide (Ck.Right s.n f n) = false) := hid (decide_eq_false (fun hh => hq hh.2.2))
        rw [HE.out]
        clear h hf hb hq hh
        go_enter Try.func29, Try.ntmps29
        go_wp2_with fail
        refine HL.out.mono ?_
        rintro e1 w1 ⟨rfl, rfl⟩
        go_wp2
        go_ret
        exact ⟨by simp [h3], rfl⟩
    · have HE : Hid (decide (Ck.Right s.n f n) = false) := hid (decide_eq_false (fun hh => h2 hh.2.1))
      rw [HE.out]
      clear h hf hb
      go_enter Try.func29, Try.ntmps29
      go_wp2
      go_ret
      exact ⟨rfl, rfl⟩
  · have HE : Hid (decide (Ck.Right s.n f n) = false) := hid (decide_eq_false (fun hh => h1 hh.1))
    rw [HE.out]
    clear h hf hb
    go_enter Try.func29, Try.ntmps29
    go_wp2
    go_ret
    exact ⟨rfl, rfl⟩
theorem epoch_any (e : Int) (w : World) :
    Calls Try.prog 30 #[.int .i64 e] w fun e' w' => e' = .returned (.bool (decide (Ck.Epoch e))) ∧ w' = w := by
  by_cases h1 : 1 ≤ e
  · by_cases h2 : e ≤ 1099511627776
    · rw [decide_eq_true (show Ck.Epoch e from ⟨h1, h2⟩)]
      go_enter Try.func30, Try.ntmps30
      go_wp2
      go_ret
      exact ⟨rfl, rfl⟩
    · rw [decide_eq_false (show ¬ Ck.Epoch e from fun h => h2 h.2)]
      go_enter Try.func30, Try.ntmps30
      go_wp2
      go_ret
      exact ⟨rfl, rfl⟩
  · rw [decide_eq_false (show ¬ Ck.Epoch e from fun h => h1 h.1)]
    go_enter Try.func30, Try.ntmps30
    go_wp2
    go_ret
    exact ⟨rfl, rfl⟩
theorem slot_any (e : Int) (he : Ck.Epoch e) (w : World) :
    Calls Try.prog 32 #[.int .i64 e] w fun e' w' => e' = .returned (.int .i64 (e % 2)) ∧ w' = w := by
  obtain ⟨k, rfl⟩ := Int.eq_ofNat_of_zero_le (show 0 ≤ e by have := he.1; omega)
  have h2 := he.2
  clear he
  go_enter Try.func32, Try.ntmps32
  go_wp2
  go_ret
  exact ⟨rfl, rfl⟩
theorem pieces_any (k : Nat) (hk : k ≤ 140737488355328) (w : World) :
    Calls Try.prog 31 #[.int .i64 (k : Int)] w fun e w' => e = .returned (.int .i64 (Jo.secs k : Nat)) ∧ w' = w := by
  have he : ((Jo.secs k : Nat) : Int) = max 1 (((k : Int) + 40 - 1) / 40) := by
    unfold Jo.secs; omega
  have HE := hid he
  clear he
  go_enter Try.func31, Try.ntmps31
  go_wp2
  go_ret
  rw [HE.out]
  refine ⟨?_, rfl⟩
  simp
theorem mark_any (i : Nat) (b : Bool) (hi : i ≤ 1000000) (w : World) :
    Calls Try.prog 50 #[.int .i64 (i : Int), .bool b] w fun e w' => e = .returned (.int .i64 (Jo.mark i b : Nat)) ∧ w' = w := by
  cases b
  · go_enter Try.func50, Try.ntmps50
    go_wp2
    go_ret
    simp [Jo.mark]
  · go_enter Try.func50, Try.ntmps50
    go_wp2
    go_ret
    simp [Jo.mark]
end C
end Go.Proofs.Ytdgijnolpjaheaa
