/- Texts of the proof, one behind the other: ImMath, Reader, ImMem, ImBox, ImSince, ReadInt, Reader2, KitIntEq, ImGrow, ReadNew, ImRd3, ImRdA, ImRdB, ImRdC, ImRdD, ImRdE. -/
import Derived.Test.YtaeoccpjdjafnaaImageApartPartAA
import Derived.Test.YtaeoccpjdjafnaaRows
import Derived.StillTailTactics
import Derived.Deep.MidRow
import Derived.Deep.WholeRow
import Derived.Deep.QuietTactic
import Derived.BigQuiet
import Derived.Lib.AppendZeros
import Derived.Deep.Upon
import Derived.Deep.RegionHeld3
import Derived.Deep.CutRange
namespace Go.Proofs.Ytaeoccpjdjafnaa.Im
open Rl (En Lg)
open Qu (Cf)
open Pk (St rdInt rdBlob rdInts enc encs)
set_option linter.unusedVariables false
def InI (v : Int) : Prop := -9223372036854775808 ≤ v ∧ v ≤ 9223372036854775807
structure Codec {α : Type} (N : Nat) (one : St → α × St) (en : α → List Nat) (ok : α → Prop) : Prop where
  back : ∀ x t, ok x → one ⟨en x ++ t, false⟩ = (x, ⟨t, false⟩)
  cut : ∀ x n, ok x → n < (en x).length → (one ⟨(en x).take n, false⟩).2 = Pk.gone
  gone : (one Pk.gone).2 = Pk.gone
  only : ∀ s, s.small → (one s).2.bad = false → s.rest = en (one s).1 ++ (one s).2.rest ∧ s.bad = false
  small : ∀ s, s.small → (one s).2.small
  sok : ∀ s, s.ok → (one s).2.ok
  short : ∀ s, (one s).2.rest.length ≤ s.rest.length
  good : ∀ s, s.small → s.rest.length ≤ N → ok (one s).1
  tiny : ∀ x, ok x → ∀ y ∈ en x, y < 256
  eight : ∀ x, 8 ≤ (en x).length
def rdP {α β : Type} (f : St → α × St) (g : St → β × St) (s : St) : (α × β) × St := (((f s).1, (g (f s).2).1), (g (f s).2).2)
def rdM {α β : Type} (h : α → β) (f : St → α × St) (s : St) : β × St := (h (f s).1, (f s).2)
def rdN {α : Type} (one : St → α × St) : Nat → St → List α × St
  | 0, s => ([], s)
  | n + 1, s => if s.bad = true then ([], s) else ((one s).1 :: (rdN one n (one s).2).1, (rdN one n (one s).2).2)
def rdL {α : Type} (one : St → α × St) (s : St) : List α × St :=
  if (rdInt s).1 < 0 ∨ (((rdInt s).2.rest.length / 8 : Nat) : Int) < (rdInt s).1 then ([], Pk.gone) else rdN one (rdInt s).1.toNat (rdInt s).2
def encL {α : Type} (one : α → List Nat) (l : List α) : List Nat := enc l.length ++ l.flatMap one
def encB (d : List Nat) : List Nat := enc d.length ++ d
def encI (l : List Int) : List Nat := enc l.length ++ encs l
theorem take_app (a b : List Nat) (n : Nat) (h : a.length ≤ n) : (a ++ b).take n = a ++ b.take (n - a.length) := by
  rw [List.take_append, List.take_of_length_le h]
theorem take_app_lt (a b : List Nat) (n : Nat) (h : n < a.length) : (a ++ b).take n = a.take n := by
  rw [List.take_append, show n - a.length = 0 by omega]; simp
theorem enc_sgn (l : List Nat) (h : l.length = 8) (hs : ∀ x ∈ l, x < 256) : enc (Pk.sgn (Pk.num l)) = l := by
  have h1 : Pk.num l < 18446744073709551616 := by
    have := Pk.num_lt l hs
    rw [h] at this
    exact this
  match l, h, hs with
  | [a, b, c, d, e, f, g, i], _, hs =>
    have ha := hs a (by simp)
    have hb := hs b (by simp)
    have hc := hs c (by simp)
    have hd := hs d (by simp)
    have he := hs e (by simp)
    have hf := hs f (by simp)
    have hg := hs g (by simp)
    have hi := hs i (by simp)
    have hn : Pk.num [a, b, c, d, e, f, g, i] = ((((((a * 256 + b) * 256 + c) * 256 + d) * 256 + e) * 256 + f) * 256 + g) * 256 + i := by simp [Pk.num]
    rw [hn] at h1 ⊢
    unfold Pk.sgn Pk.enc Pk.byteOf
    simp only [List.cons.injEq, and_true]
    refine ⟨?_, ?_, ?_, ?_, ?_, ?_, ?_, ?_⟩ <;> (split <;> omega)
theorem rdInt_only (s : St) (hs : s.small) (hb : (rdInt s).2.bad = false) : s.rest = enc (rdInt s).1 ++ (rdInt s).2.rest ∧ s.bad = false := by
  unfold rdInt at hb ⊢
  split at hb
  · cases hb
  · rename_i h
    rw [if_neg h]
    refine ⟨?_, hb⟩
    show s.rest = enc (Pk.sgn (Pk.num (s.rest.take 8))) ++ s.rest.drop 8
    rw [enc_sgn _ (by rw [List.length_take]; omega) (fun x hx => hs x (List.mem_of_mem_take hx)), List.take_append_drop]
theorem rdInt_cut (v : Int) (n : Nat) (h : n < 8) : rdInt ⟨(enc v).take n, false⟩ = (0, Pk.gone) := by
  unfold rdInt; rw [if_pos (by simp only [List.length_take, Pk.enc_length]; omega)]
theorem Codec.int (N : Nat) : Codec N rdInt enc InI where
  back := fun x t hx => Pk.rdInt_enc x t false hx
  cut := fun x n _ hn => by rw [rdInt_cut x n (by rw [Pk.enc_length] at hn; exact hn)]
  gone := rfl
  only := rdInt_only
  small := Pk.rdInt_small
  sok := Pk.rdInt_ok
  short := Pk.rdInt_short
  good := fun s hs _ => Pk.rdInt_in s hs
  tiny := fun x _ => Pk.enc_small x
  eight := fun x => by rw [Pk.enc_length]; exact Nat.le_refl _
theorem well_of {s : St} {P : Prop} (h : ¬ (s.bad = true ∨ P)) : s.bad = false := by
  rcases hh : s.bad with _ | _
  · rfl
  · exact absurd (Or.inl hh) h
theorem Codec.blob (N : Nat) (hN : N ≤ 1000000000000) : Codec N rdBlob encB (fun d => (∀ x ∈ d, x < 256) ∧ d.length ≤ N) where
  back := fun l t ⟨_, h⟩ => by
    have e := Pk.rdInt_enc (l.length : Int) (l ++ t) false ⟨by omega, by omega⟩
    unfold rdBlob encB
    rw [List.append_assoc, e, if_neg (by simp; omega)]
    simp
  cut := fun l n ⟨_, h⟩ hn => by
    unfold encB at hn ⊢
    rw [List.length_append, Pk.enc_length] at hn
    by_cases h8 : n < 8
    · rw [take_app_lt _ _ _ (by rw [Pk.enc_length]; exact h8)]
      unfold rdBlob
      rw [rdInt_cut _ _ h8]; rfl
    · rw [take_app _ _ _ (by rw [Pk.enc_length]; omega)]
      have e := Pk.rdInt_enc (l.length : Int) (l.take (n - (enc (l.length : Int)).length)) false ⟨by omega, by omega⟩
      unfold rdBlob
      rw [e, if_pos (Or.inr (Or.inr (by simp only [List.length_take, Pk.enc_length]; omega)))]
  gone := rfl
  only := fun s hs hb => by
    have h1 := Pk.rdInt_small s hs
    unfold rdBlob at hb ⊢
    split at hb
    · cases hb
    · rename_i h
      rw [if_neg h]
      obtain ⟨h2, h3⟩ := rdInt_only s hs (well_of h)
      refine ⟨?_, h3⟩
      have hl : ((((rdInt s).2.rest.take (rdInt s).1.toNat).length : Nat) : Int) = (rdInt s).1 := by rw [List.length_take]; omega
      show s.rest = (enc ((((rdInt s).2.rest.take (rdInt s).1.toNat).length : Nat) : Int) ++ (rdInt s).2.rest.take (rdInt s).1.toNat) ++ (rdInt s).2.rest.drop (rdInt s).1.toNat
      rw [hl, List.append_assoc, List.take_append_drop]; exact h2
  small := fun s hs => (Pk.rdBlob_small s hs).1
  sok := fun s _ => Pk.rdBlob_ok s
  short := fun s => (Pk.rdBlob_short s).1
  good := fun s hs hl => ⟨(Pk.rdBlob_small s hs).2, Nat.le_trans (Pk.rdBlob_short s).2 hl⟩
  tiny := fun l ⟨h, _⟩ y hy => by
    unfold encB at hy
    rcases List.mem_append.1 hy with hy | hy
    · exact Pk.enc_small _ y hy
    · exact h y hy
  eight := fun l => by unfold encB; rw [List.length_append, Pk.enc_length]; omega
theorem encs_nums : ∀ (n : Nat) (l : List Nat), (∀ x ∈ l, x < 256) → 8 * n ≤ l.length → encs (Pk.nums n l) = l.take (8 * n) := by
  intro n
  induction n with
  | zero => intro l _ _; rfl
  | succ n ih =>
    intro l hs hl
    rw [Pk.nums_snoc, Pk.encs_snoc, ih l hs (by omega), enc_sgn _ (by rw [List.length_take, List.length_drop]; omega) (fun x hx => hs x (List.mem_of_mem_drop (List.mem_of_mem_take hx)))]
    rw [show 8 * (n + 1) = 8 * n + 8 by omega, List.take_add]
theorem Codec.ints (N : Nat) (hN : N ≤ 1000000000000) : Codec N rdInts encI (fun l => (∀ v ∈ l, InI v) ∧ l.length ≤ N) where
  back := fun l t ⟨hv, h⟩ => by
    have e := Pk.rdInt_enc (l.length : Int) (encs l ++ t) false ⟨by omega, by omega⟩
    have el := Pk.encs_length l
    unfold rdInts encI
    rw [List.append_assoc, e, if_neg (by simp [el]; omega)]
    simp only [Int.toNat_natCast]
    rw [Pk.nums_encs l t hv, List.drop_left' el]
  cut := fun l n ⟨_, h⟩ hn => by
    have el := Pk.encs_length l
    unfold encI at hn ⊢
    rw [List.length_append, Pk.enc_length, el] at hn
    by_cases h8 : n < 8
    · rw [take_app_lt _ _ _ (by rw [Pk.enc_length]; exact h8)]
      unfold rdInts
      rw [rdInt_cut _ _ h8]; rfl
    · rw [take_app _ _ _ (by rw [Pk.enc_length]; omega)]
      have e := Pk.rdInt_enc (l.length : Int) ((encs l).take (n - (enc (l.length : Int)).length)) false ⟨by omega, by omega⟩
      unfold rdInts
      rw [e, if_pos (Or.inr (Or.inr (by simp only [List.length_take, Pk.enc_length, el]; omega)))]
  gone := rfl
  only := fun s hs hb => by
    have h1 := Pk.rdInt_small s hs
    unfold rdInts at hb ⊢
    split at hb
    · cases hb
    · rename_i h
      rw [if_neg h]
      obtain ⟨h2, h3⟩ := rdInt_only s hs (well_of h)
      refine ⟨?_, h3⟩
      show s.rest = (enc (((Pk.nums (rdInt s).1.toNat (rdInt s).2.rest).length : Nat) : Int) ++ encs (Pk.nums (rdInt s).1.toNat (rdInt s).2.rest)) ++ (rdInt s).2.rest.drop (8 * (rdInt s).1.toNat)
      rw [Pk.nums_length, encs_nums _ _ h1 (by omega), List.append_assoc, List.take_append_drop, show (((rdInt s).1.toNat : Nat) : Int) = (rdInt s).1 by omega]
      exact h2
  small := Pk.rdInts_small
  sok := fun s _ => Pk.rdInts_ok s
  short := fun s => (Pk.rdInts_short s).1
  good := fun s hs hl => ⟨Pk.rdInts_in s hs, by have := (Pk.rdInts_short s).2; omega⟩
  tiny := fun l _ y hy => by
    unfold encI at hy
    rcases List.mem_append.1 hy with hy | hy
    · exact Pk.enc_small _ y hy
    · exact Pk.encs_small l y hy
  eight := fun l => by unfold encI; rw [List.length_append, Pk.enc_length]; omega
section
variable {α β : Type} {N : Nat} {f : St → α × St} {g : St → β × St} {e1 : α → List Nat} {e2 : β → List Nat} {o1 : α → Prop} {o2 : β → Prop}
theorem Codec.pair (h1 : Codec N f e1 o1) (h2 : Codec N g e2 o2) : Codec N (rdP f g) (fun p => e1 p.1 ++ e2 p.2) (fun p => o1 p.1 ∧ o2 p.2) where
  back := by
    rintro ⟨x, y⟩ t ⟨hx, hy⟩
    unfold rdP
    simp only [List.append_assoc]
    rw [h1.back x _ hx]
    simp only []
    rw [h2.back y _ hy]
  cut := by
    rintro ⟨x, y⟩ n ⟨hx, hy⟩ hn
    simp only [] at hn ⊢
    unfold rdP
    simp only []
    rw [List.length_append] at hn
    by_cases h : n < (e1 x).length
    · rw [take_app_lt _ _ _ h, h1.cut x n hx h, h2.gone]
    · rw [take_app _ _ _ (by omega), h1.back x _ hx]
      exact h2.cut y _ hy (by omega)
  gone := by unfold rdP; simp only []; rw [h1.gone, h2.gone]
  only := by
    intro s hs hb
    have hb' : (g (f s).2).2.bad = false := hb
    obtain ⟨q1, q2⟩ := h2.only _ (h1.small s hs) hb'
    obtain ⟨q3, q4⟩ := h1.only s hs q2
    refine ⟨?_, q4⟩
    show s.rest = (e1 (f s).1 ++ e2 (g (f s).2).1) ++ (g (f s).2).2.rest
    rw [List.append_assoc, ← q1, ← q3]
  small := fun s hs => h2.small _ (h1.small s hs)
  sok := fun s hs => h2.sok _ (h1.sok s hs)
  short := fun s => Nat.le_trans (h2.short _) (h1.short s)
  good := fun s hs hl => ⟨h1.good s hs hl, h2.good _ (h1.small s hs) (Nat.le_trans (h1.short s) hl)⟩
  tiny := by
    rintro ⟨x, y⟩ ⟨hx, hy⟩ z hz
    rcases List.mem_append.1 hz with hz | hz
    · exact h1.tiny x hx z hz
    · exact h2.tiny y hy z hz
  eight := fun p => by have := h1.eight p.1; show 8 ≤ (e1 p.1 ++ e2 p.2).length; rw [List.length_append]; omega
theorem Codec.map (h1 : Codec N f e1 o1) (h : α → β) (k : β → α) (hk : ∀ a, k (h a) = a) (hh : ∀ b, h (k b) = b) : Codec N (rdM h f) (fun b => e1 (k b)) (fun b => o1 (k b)) where
  back := fun x t hx => by unfold rdM; rw [h1.back _ t hx]; simp only []; rw [hh]
  cut := fun x n hx hn => h1.cut _ n hx hn
  gone := h1.gone
  only := fun s hs hb => by
    have := h1.only s hs hb
    unfold rdM
    simp only [hk]
    exact this
  small := h1.small
  sok := h1.sok
  short := h1.short
  good := fun s hs hl => by show o1 (k (h (f s).1)); rw [hk]; exact h1.good s hs hl
  tiny := fun x hx => h1.tiny _ hx
  eight := fun x => h1.eight _
theorem rdN_back (h1 : Codec N f e1 o1) : ∀ (L : List α) (t : List Nat), (∀ x ∈ L, o1 x) → rdN f L.length ⟨L.flatMap e1 ++ t, false⟩ = (L, ⟨t, false⟩) := by
  intro L
  induction L with
  | nil => intro t _; rfl
  | cons x L ih =>
    intro t h
    show (if false = true then _ else _) = _
    rw [if_neg (by decide)]
    simp only [List.flatMap_cons, List.append_assoc]
    rw [h1.back x _ (h x List.mem_cons_self)]
    simp only []
    rw [ih t (fun y hy => h y (List.mem_cons_of_mem _ hy))]
theorem rdN_gone (n : Nat) : rdN f n Pk.gone = ([], Pk.gone) := by
  cases n with
  | zero => rfl
  | succ n => show (if true = true then _ else _) = _; rw [if_pos rfl]
theorem rdN_cut (h1 : Codec N f e1 o1) : ∀ (L : List α) (n : Nat), (∀ x ∈ L, o1 x) → n < (L.flatMap e1).length → (rdN f L.length ⟨(L.flatMap e1).take n, false⟩).2 = Pk.gone := by
  intro L
  induction L with
  | nil => intro n _ h; simp at h
  | cons x L ih =>
    intro n h hn
    show (if false = true then _ else _ : List α × St).2 = _
    rw [if_neg (by decide)]
    simp only []
    rw [List.flatMap_cons] at hn ⊢
    rw [List.length_append] at hn
    by_cases hc : n < (e1 x).length
    · rw [take_app_lt _ _ _ hc, h1.cut x n (h x List.mem_cons_self) hc, rdN_gone]
    · rw [take_app _ _ _ (by omega), h1.back x _ (h x List.mem_cons_self)]
      exact ih _ (fun y hy => h y (List.mem_cons_of_mem _ hy)) (by omega)
theorem rdN_only (h1 : Codec N f e1 o1) : ∀ (n : Nat) (s : St), s.small → (rdN f n s).2.bad = false → s.rest = (rdN f n s).1.flatMap e1 ++ (rdN f n s).2.rest ∧ s.bad = false ∧ (rdN f n s).1.length = n := by
  intro n
  induction n with
  | zero => intro s hs hb; exact ⟨rfl, hb, rfl⟩
  | succ n ih =>
    intro s hs hb
    rcases hsb : s.bad with _ | _
    · have e : rdN f (n + 1) s = ((f s).1 :: (rdN f n (f s).2).1, (rdN f n (f s).2).2) := by show (if s.bad = true then _ else _) = _; rw [hsb, if_neg (by decide)]
      rw [e] at hb ⊢
      obtain ⟨q1, q2, q3⟩ := ih _ (h1.small s hs) hb
      obtain ⟨q4, q5⟩ := h1.only s hs q2
      refine ⟨?_, rfl, by simp [q3]⟩
      show s.rest = ((f s).1 :: (rdN f n (f s).2).1).flatMap e1 ++ (rdN f n (f s).2).2.rest
      rw [List.flatMap_cons, List.append_assoc, ← q1, ← q4]
    · have e : rdN f (n + 1) s = ([], s) := by show (if s.bad = true then _ else _) = _; rw [hsb, if_pos rfl]
      rw [e] at hb
      have hb' : s.bad = false := hb
      rw [hsb] at hb'; cases hb'
theorem rdN_keeps {P : St → Prop} (h : ∀ s, P s → P (f s).2) : ∀ (n : Nat) (s : St), P s → P (rdN f n s).2 := by
  intro n
  induction n with
  | zero => intro s hs; exact hs
  | succ n ih =>
    intro s hs
    show P (if s.bad = true then _ else _ : List α × St).2
    split
    · exact hs
    · exact ih _ (h s hs)
theorem rdN_all {P : St → Prop} {Q : α → Prop} (h : ∀ s, P s → P (f s).2) (hq : ∀ s, P s → Q (f s).1) : ∀ (n : Nat) (s : St), P s → (∀ x ∈ (rdN f n s).1, Q x) ∧ (rdN f n s).1.length ≤ n := by
  intro n
  induction n with
  | zero => intro s hs; exact ⟨fun x hx => (by cases hx), Nat.zero_le _⟩
  | succ n ih =>
    intro s hs
    have e : rdN f (n + 1) s = if s.bad = true then ([], s) else ((f s).1 :: (rdN f n (f s).2).1, (rdN f n (f s).2).2) := rfl
    rw [e]
    split
    · exact ⟨fun x hx => (by cases hx), Nat.zero_le _⟩
    · obtain ⟨q1, q2⟩ := ih _ (h s hs)
      refine ⟨fun x hx => ?_, by simp; exact q2⟩
      rcases List.mem_cons.1 hx with rfl | hx
      · exact hq s hs
      · exact q1 x hx
theorem rdL_gone : rdL f Pk.gone = ([], Pk.gone) := by
  have e : rdInt Pk.gone = (0, Pk.gone) := rfl
  unfold rdL
  rw [e]; rfl
theorem enc_tiny (v : Int) : ∀ y ∈ enc v, y < 256 := Pk.enc_small v
theorem flat_eight (h1 : Codec N f e1 o1) (L : List α) : 8 * L.length ≤ (L.flatMap e1).length := by
  induction L with
  | nil => simp
  | cons x L ih => rw [List.flatMap_cons, List.length_append, List.length_cons]; have := h1.eight x; omega
theorem Codec.list (h1 : Codec N f e1 o1) (hN : N ≤ 1000000000000) : Codec N (rdL f) (encL e1) (fun l => (∀ x ∈ l, o1 x) ∧ l.length ≤ N) where
  back := fun L t ⟨hL, hl⟩ => by
    have h8 := flat_eight h1 L
    unfold rdL encL
    rw [List.append_assoc, Pk.rdInt_enc _ _ _ ⟨by omega, by omega⟩]
    simp only []
    rw [if_neg (by rw [List.length_append]; omega)]
    exact rdN_back h1 L t hL
  cut := fun L n ⟨hL, hl⟩ hn => by
    unfold encL at hn ⊢
    rw [List.length_append, Pk.enc_length] at hn
    unfold rdL
    by_cases h : n < 8
    · have e : (enc (L.length : Int) ++ L.flatMap e1).take n = (enc (L.length : Int)).take n := take_app_lt _ _ _ h
      have e2 : rdInt ⟨(enc (L.length : Int)).take n, false⟩ = (0, Pk.gone) := by
        unfold rdInt; rw [if_pos (by simp only [List.length_take, Pk.enc_length]; omega)]
      rw [e, e2]; rfl
    · rw [take_app _ _ _ (by rw [Pk.enc_length]; omega), Pk.rdInt_enc _ _ _ ⟨by omega, by omega⟩]
      simp only []
      split
      · rfl
      · exact rdN_cut h1 L _ hL (by rw [Pk.enc_length]; omega)
  gone := by rw [rdL_gone]
  only := fun s hs hb => by
    have e : rdL f s = if (rdInt s).1 < 0 ∨ (((rdInt s).2.rest.length / 8 : Nat) : Int) < (rdInt s).1 then ([], Pk.gone) else rdN f (rdInt s).1.toNat (rdInt s).2 := rfl
    rw [e] at hb ⊢
    split at hb
    · cases hb
    · rename_i hc
      rw [if_neg hc]
      obtain ⟨q1, q2, q3⟩ := rdN_only h1 _ _ (Pk.rdInt_small s hs) hb
      obtain ⟨q4, q5⟩ := rdInt_only s hs q2
      refine ⟨?_, q5⟩
      unfold encL
      rw [q3, List.append_assoc, ← q1, show (((rdInt s).1.toNat : Nat) : Int) = (rdInt s).1 by omega]
      exact q4
  small := fun s hs => by
    unfold rdL
    split
    · exact Pk.gone_small
    · exact rdN_keeps h1.small _ _ (Pk.rdInt_small s hs)
  sok := fun s hs => by
    unfold rdL
    split
    · exact Pk.gone_ok
    · exact rdN_keeps h1.sok _ _ (Pk.rdInt_ok s hs)
  short := fun s => by
    have h := Pk.rdInt_short s
    unfold rdL
    split
    · exact Nat.zero_le _
    · exact rdN_keeps (P := fun x => x.rest.length ≤ s.rest.length) (fun x hx => Nat.le_trans (h1.short x) hx) _ _ h
  good := fun s hs hl => by
    have h := Pk.rdInt_short s
    unfold rdL
    split
    · exact ⟨fun x hx => (by cases hx), Nat.zero_le _⟩
    · rename_i hc
      obtain ⟨q1, q2⟩ := rdN_all (P := fun x => x.small ∧ x.rest.length ≤ N) (Q := o1) (fun x hx => ⟨h1.small x hx.1, Nat.le_trans (h1.short x) hx.2⟩) (fun x hx => h1.good x hx.1 hx.2) (rdInt s).1.toNat (rdInt s).2 ⟨Pk.rdInt_small s hs, Nat.le_trans h hl⟩
      exact ⟨q1, by omega⟩
  tiny := fun L ⟨hL, _⟩ y hy => by
    unfold encL at hy
    rcases List.mem_append.1 hy with hy | hy
    · exact enc_tiny _ y hy
    · obtain ⟨x, hx, hy⟩ := List.mem_flatMap.1 hy
      exact h1.tiny x (hL x hx) y hy
  eight := fun L => by unfold encL; rw [List.length_append, Pk.enc_length]; omega
end
structure Pt where
  log : Lg
  cf : Cf
  sn : List Nat
deriving DecidableEq
structure Hd where
  g : Int
  t : Int
  v : Int
  p : Pt
deriving DecidableEq
structure Vt where
  x : Int
  p : Int
  r : Int
  b : Int
  v : Int
deriving DecidableEq
structure Im where
  hs : List Hd
  vs : List Vt
deriving DecidableEq
structure Ch where
  k : Int
  g : Int
  t : Int
  v : Int
  f : Int
  p : Pt
  a : Vt
deriving DecidableEq
def P0 : Pt := ⟨⟨0, 0, []⟩, ⟨[], [], []⟩, []⟩
def rdE : St → En × St := rdM (fun p => ⟨p.1.1, p.1.2, p.2⟩) (rdP (rdP rdInt rdInt) rdBlob)
def rdLg : St → Lg × St := rdM (fun p => ⟨p.1.1, p.1.2, p.2⟩) (rdP (rdP rdInt rdInt) (rdL rdE))
def rdCf : St → Cf × St := rdM (fun p => ⟨p.1.1, p.1.2, p.2⟩) (rdP (rdP rdInts rdInts) rdInts)
def rdPt : St → Pt × St := rdM (fun p => ⟨p.1.1, p.1.2, p.2⟩) (rdP (rdP rdLg rdCf) rdBlob)
def rdH : St → Hd × St := rdM (fun p => ⟨p.1.1.1, p.1.1.2, p.1.2, p.2⟩) (rdP (rdP (rdP rdInt rdInt) rdInt) rdPt)
def rdV : St → Vt × St := rdM (fun p => ⟨p.1.1.1.1, p.1.1.1.2, p.1.1.2, p.1.2, p.2⟩) (rdP (rdP (rdP (rdP rdInt rdInt) rdInt) rdInt) rdInt)
def rdC : St → Ch × St := rdM (fun p => ⟨p.1.1.1.1.1.1, p.1.1.1.1.1.2, p.1.1.1.1.2, p.1.1.1.2, p.1.1.2, p.1.2, p.2⟩) (rdP (rdP (rdP (rdP (rdP (rdP rdInt rdInt) rdInt) rdInt) rdInt) rdPt) rdV)
def rdIm : St → Im × St := rdM (fun p => ⟨p.1, p.2⟩) (rdP (rdL rdH) (rdL rdV))
def encE (e : En) : List Nat := (enc e.t ++ enc e.k) ++ encB e.d
def encLg (g : Lg) : List Nat := (enc g.base ++ enc g.term) ++ encL encE g.es
def encCf (c : Cf) : List Nat := (encI c.old ++ encI c.new) ++ encI c.lrn
def encPt (p : Pt) : List Nat := (encLg p.log ++ encCf p.cf) ++ encB p.sn
def encH (h : Hd) : List Nat := ((enc h.g ++ enc h.t) ++ enc h.v) ++ encPt h.p
def encV (v : Vt) : List Nat := (((enc v.x ++ enc v.p) ++ enc v.r) ++ enc v.b) ++ enc v.v
def encC (c : Ch) : List Nat := (((((enc c.k ++ enc c.g) ++ enc c.t) ++ enc c.v) ++ enc c.f) ++ encPt c.p) ++ encV c.a
def encIm (x : Im) : List Nat := encL encH x.hs ++ encL encV x.vs
def okE (N : Nat) (e : En) : Prop := (InI e.t ∧ InI e.k) ∧ (∀ x ∈ e.d, x < 256) ∧ e.d.length ≤ N
def okLg (N : Nat) (g : Lg) : Prop := (InI g.base ∧ InI g.term) ∧ (∀ e ∈ g.es, okE N e) ∧ g.es.length ≤ N
def okI (N : Nat) (l : List Int) : Prop := (∀ v ∈ l, InI v) ∧ l.length ≤ N
def okCf (N : Nat) (c : Cf) : Prop := (okI N c.old ∧ okI N c.new) ∧ okI N c.lrn
def okPt (N : Nat) (p : Pt) : Prop := (okLg N p.log ∧ okCf N p.cf) ∧ (∀ x ∈ p.sn, x < 256) ∧ p.sn.length ≤ N
def okH (N : Nat) (h : Hd) : Prop := ((InI h.g ∧ InI h.t) ∧ InI h.v) ∧ okPt N h.p
def okV (v : Vt) : Prop := (((InI v.x ∧ InI v.p) ∧ InI v.r) ∧ InI v.b) ∧ InI v.v
def okC (N : Nat) (c : Ch) : Prop := (((((InI c.k ∧ InI c.g) ∧ InI c.t) ∧ InI c.v) ∧ InI c.f) ∧ okPt N c.p) ∧ okV c.a
def okHs (N : Nat) (l : List Hd) : Prop := (∀ h ∈ l, okH N h) ∧ l.length ≤ N
def okVs (N : Nat) (l : List Vt) : Prop := (∀ v ∈ l, okV v) ∧ l.length ≤ N
def okIm (N : Nat) (x : Im) : Prop := okHs N x.hs ∧ okVs N x.vs
def okCs (N : Nat) (l : List Ch) : Prop := (∀ c ∈ l, okC N c) ∧ l.length ≤ N
section
variable (N : Nat) (hN : N ≤ 1000000000000)
include hN
theorem codE : Codec N rdE encE (okE N) := (((Codec.int N).pair (Codec.int N)).pair (Codec.blob N hN)).map (fun p => (⟨p.1.1, p.1.2, p.2⟩ : En)) (fun (e : En) => ((e.t, e.k), e.d)) (fun _ => rfl) (fun _ => rfl)
theorem codLg : Codec N rdLg encLg (okLg N) := (((Codec.int N).pair (Codec.int N)).pair ((codE N hN).list hN)).map (fun p => (⟨p.1.1, p.1.2, p.2⟩ : Lg)) (fun (g : Lg) => ((g.base, g.term), g.es)) (fun _ => rfl) (fun _ => rfl)
theorem codCf : Codec N rdCf encCf (okCf N) := (((Codec.ints N hN).pair (Codec.ints N hN)).pair (Codec.ints N hN)).map (fun p => (⟨p.1.1, p.1.2, p.2⟩ : Cf)) (fun (c : Cf) => ((c.old, c.new), c.lrn)) (fun _ => rfl) (fun _ => rfl)
theorem codPt : Codec N rdPt encPt (okPt N) := (((codLg N hN).pair (codCf N hN)).pair (Codec.blob N hN)).map (fun p => (⟨p.1.1, p.1.2, p.2⟩ : Pt)) (fun (p : Pt) => ((p.log, p.cf), p.sn)) (fun _ => rfl) (fun _ => rfl)
theorem codH : Codec N rdH encH (okH N) := ((((Codec.int N).pair (Codec.int N)).pair (Codec.int N)).pair (codPt N hN)).map (fun p => (⟨p.1.1.1, p.1.1.2, p.1.2, p.2⟩ : Hd)) (fun (h : Hd) => (((h.g, h.t), h.v), h.p)) (fun _ => rfl) (fun _ => rfl)
theorem codV : Codec N rdV encV okV := by
  have _ := hN
  exact (((((Codec.int N).pair (Codec.int N)).pair (Codec.int N)).pair (Codec.int N)).pair (Codec.int N)).map (fun p => (⟨p.1.1.1.1, p.1.1.1.2, p.1.1.2, p.1.2, p.2⟩ : Vt)) (fun (v : Vt) => ((((v.x, v.p), v.r), v.b), v.v)) (fun _ => rfl) (fun _ => rfl)
theorem codIm : Codec N rdIm encIm (okIm N) := (((codH N hN).list hN).pair ((codV N hN).list hN)).map (fun p => (⟨p.1, p.2⟩ : Im)) (fun (x : Im) => (x.hs, x.vs)) (fun _ => rfl) (fun _ => rfl)
end
def fin (s : St) : Int := if s.bad = true then 4 else if 0 < s.rest.length then 2 else 0
def whole {α : Type} (one : St → α × St) (no : α) (b : List Nat) : α × Int := if fin (one ⟨b, false⟩).2 ≠ 0 then (no, fin (one ⟨b, false⟩).2) else ((one ⟨b, false⟩).1, 0)
section
variable {α : Type} {N : Nat} {f : St → α × St} {e1 : α → List Nat} {o1 : α → Prop} (h1 : Codec N f e1 o1) (no : α)
include h1
theorem whole_good (b : List Nat) (hb : ∀ x ∈ b, x < 256) (hl : b.length ≤ N) (hno : o1 no) : o1 (whole f no b).1 := by
  unfold whole
  split
  · exact hno
  · exact h1.good ⟨b, false⟩ hb hl
end
def asc {α : Type} (lt : α → α → Bool) : List α → Bool
  | [] => true
  | [_] => true
  | a :: b :: l => lt a b && asc lt (b :: l)
theorem asc_iff {α : Type} (lt : α → α → Bool) : ∀ l : List α, asc lt l = true ↔ ∀ i (h : i + 1 < l.length), lt (l[i]'(by omega)) l[i + 1] = true
  | [] => ⟨fun _ i h => by simp at h, fun _ => rfl⟩
  | [a] => ⟨fun _ i h => by simp at h, fun _ => rfl⟩
  | a :: b :: l => by
    have ih := asc_iff lt (b :: l)
    unfold asc
    rw [Bool.and_eq_true, ih]
    constructor
    · rintro ⟨h1, h2⟩ i h
      cases i with
      | zero => exact h1
      | succ i => exact h2 i (by simpa using h)
    · intro h
      exact ⟨h 0 (by simp), fun i hi => h (i + 1) (by simpa using hi)⟩
def ltH (a b : Hd) : Bool := decide (a.g < b.g)
def ltV (a b : Vt) : Bool := decide (a.x < b.x) || (decide (a.x = b.x) && decide (a.p < b.p))
def sorted (x : Im) : Bool := asc ltH x.hs && asc ltV x.vs
def get (b : List Nat) : Im × Int := if (whole rdIm ⟨[], []⟩ b).2 = 0 ∧ sorted (whole rdIm ⟨[], []⟩ b).1 = false then (⟨[], []⟩, 15) else whole rdIm ⟨[], []⟩ b
end Go.Proofs.Ytaeoccpjdjafnaa.Im
namespace Go.Proofs.Ytaeoccpjdjafnaa
open Go.RowKit
structure Rdr (w : World) (g : Nat) (s : Pk.St) : Prop where
  small : s.small
  ok : s.ok
  at_ : ∃ A c, w.heap[g]? = some (.cells #[.slice A s.rest.length c, .bool s.bad] 147 (0, 0)) ∧ IsBytes w g A s.rest ∧ s.rest.length ≤ c ∧ c ≤ maxLen ∧ (A = none → c = 0)
theorem row_cell {w : World} {g : Nat} {cs : Array Value} {t : TypeId} (h : w.heap[g]? = some (.cells cs t (0, 0))) (i : Nat) : w.cell? ⟨g, i, none⟩ = cs[i]? := cell_of_row w g i cs t (0, 0) h
theorem row_free {w : World} {g : Nat} {cs : Array Value} {t : TypeId} (h : w.heap[g]? = some (.cells cs t (0, 0))) (i : Nat) : w.frozen? ⟨g, i, none⟩ = false := by simp [World.frozen?, h]
theorem row_lt {w : World} {g : Nat} {o : Obj} (h : w.heap[g]? = some o) : g < w.heap.size := by
  rcases Nat.lt_or_ge g w.heap.size with hlt | hge
  · exact hlt
  · rw [Array.getElem?_eq_none hge] at h; cases h
theorem row_set {w : World} {g : Nat} {cs : Array Value} {t : TypeId} (h : w.heap[g]? = some (.cells cs t (0, 0))) (i : Nat) (u : Value) :
    (w.setCell ⟨g, i, none⟩ u).heap[g]? = some (.cells (cs.setIfInBounds i u) t (0, 0)) := by
  simp [World.setCell, Array.getElem?_modify, h]
namespace Rdr
variable {w w' : World} {g : Nat} {s : Pk.St}
theorem lt (h : Rdr w g s) : g < w.heap.size := by obtain ⟨A, c, h1, _⟩ := h.at_; exact row_lt h1
theorem below (h : Rdr w g s) (hb : Below (g + 1) w w') : Rdr w' g s := by
  obtain ⟨A, c, h1, h2, h3⟩ := h.at_
  exact ⟨h.small, h.ok, A, c, (hb.block g (by omega)).trans h1, h2.below (hb.mono (by omega)), h3⟩
theorem drewN (h : Rdr w g s) (n : Nat) : Rdr (w.drewN n) g s := h.below (below_drewN (Below.refl _ _) n)
end Rdr
theorem rdr_gone {w' : World} {g : Nat} (h : w'.heap[g]? = some (.cells #[.slice none 0 0, .bool true] 147 (0, 0))) : Rdr w' g Pk.gone :=
  ⟨Pk.gone_small, Pk.gone_ok, none, 0, h, IsBytes.nil, Nat.le_refl _, Nat.zero_le _, fun _ => rfl⟩
theorem IsBytes.drop {w : World} {B : Nat} {ad : Addr} {l : List Nat} (h : IsBytes w B (some ad) l) (m : Nat) (hm : m < l.length) : IsBytes w B (some (ad.add m)) (l.drop m) := by
  refine ⟨fun x hx => h.small x (List.mem_of_mem_drop hx), fun k hk => ?_⟩
  obtain ⟨b, off, e, hb, hc⟩ := h.cells m hm
  injection e with e
  subst e
  refine ⟨b, off + m, by rw [add_off], hb, fun i hi => ?_⟩
  rw [List.length_drop] at hi
  rw [List.getElem_drop, Nat.add_assoc]
  exact hc (m + i) (by omega)
theorem IsBytes.put {w : World} {g : Nat} {A : Option Addr} {l : List Nat} (h : IsBytes w g A l) (k : Nat) (u : Value) : IsBytes (w.setCell ⟨g, k, none⟩ u).drew g A l := (h.below ((Below.refl g w).setCell (Nat.le_refl _) _)).drew
theorem Rdr.put {w : World} {g : Nat} {s : Pk.St} {A : Option Addr} {c : Nat} (h : w.heap[g]? = some (.cells #[.slice A s.rest.length c, .bool s.bad] 147 (0, 0)))
    (rest : List Nat) (A' : Option Addr) (n c' : Nat) (hn : rest.length = n) (hb : IsBytes w g A' rest) (hc : n ≤ c') (hm : c' ≤ maxLen) (hnil : A' = none → c' = 0) (hok : s.bad = true → rest = []) :
    Rdr (w.setCell ⟨g, 0, none⟩ (.slice A' n c')).drew g ⟨rest, s.bad⟩ ∧ w.grownBy (w.setCell ⟨g, 0, none⟩ (.slice A' n c')).drew (some g) := by
  subst hn
  refine ⟨⟨hb.small, hok, A', c', (row_set h 0 _), ?_, hc, hm, hnil⟩, grown_drew (grown_setCell _ _ _ _)⟩
  exact (hb.below ((Below.refl g w).setCell (Nat.le_refl _) _)).drew
set_option maxRecDepth 100000 in
set_option maxHeartbeats 400000 in
theorem spoil_rdr (g : Nat) (s : Pk.St) (w : World) (h : Rdr w g s) :
    Calls Try.prog 135 #[.pointer (some ⟨g, 0, none⟩)] w fun e w' => e = .returned (.tuple #[]) ∧ Rdr w' g Pk.gone ∧ w.grownBy w' (some g) := by
  obtain ⟨A, c, h1, _, _⟩ := h.at_
  have hc0 : w.cell? ⟨g, 0, none⟩ = some (.slice A s.rest.length c) := row_cell h1 0
  have hc1 : w.cell? ⟨g, 1, none⟩ = some (.bool s.bad) := row_cell h1 1
  have hf0 := row_free h1 0
  have hf1 := row_free h1 1
  have HR : Hid (((w.setCell ⟨g, 0, none⟩ (.slice none 0 0)).setCell ⟨g, 1, none⟩ (.bool true)).heap[g]? = some (.cells #[.slice none 0 0, .bool true] 147 (0, 0))) :=
    row_set (row_set h1 0 _) 1 _
  have HG : Hid (w.grownBy ((w.setCell ⟨g, 0, none⟩ (.slice none 0 0)).setCell ⟨g, 1, none⟩ (.bool true)) (some g)) :=
    (grown_setCell _ _ _ _).trans (grown_setCell _ _ _ _)
  clear h h1
  go_enter Try.func135, Try.ntmps135
  go_wp2
  go_end0
  exact ⟨rfl, rdr_gone HR.out, HG.out⟩
set_option maxRecDepth 100000 in
set_option maxHeartbeats 800000 in
theorem take_rdr (g : Nat) (s : Pk.St) (n : Int) (hn : InInt n) (w : World) (h : Rdr w g s) :
    Calls Try.prog 123 #[.pointer (some ⟨g, 0, none⟩), .int .i64 n] w fun e w' =>
      ∃ A' c', e = .returned (.slice A' (Pk.taken s n).1.length c') ∧ IsBytes w' g A' (Pk.taken s n).1 ∧ (A' = none → c' = 0) ∧ Rdr w' g (Pk.taken s n).2 ∧ w.grownBy w' (some g) := by
  have hn1 := hn.1
  have hn2 := hn.2
  obtain ⟨A, c, h1, h2, h3, h4, h5⟩ := h.at_
  have hc0 : w.cell? ⟨g, 0, none⟩ = some (.slice A s.rest.length c) := row_cell h1 0
  have hc1 : w.cell? ⟨g, 1, none⟩ = some (.bool s.bad) := row_cell h1 1
  have hf0 := row_free h1 0
  have hf1 := row_free h1 1
  unfold maxLen at h4
  by_cases hbad : n < 0 ∨ (s.rest.length : Int) < n
  · have HT : Hid (Pk.taken s n = ([], Pk.gone)) := by unfold Pk.taken; rw [if_pos hbad]; exact hid rfl
    have HS := hid (spoil_rdr g s w h)
    clear h1 h2 hn
    by_cases hneg : n < 0
    · clear hbad
      go_enter Try.func123, Try.ntmps123
      go_wp2_with fail
      refine HS.out.mono ?_
      rintro e w1 ⟨rfl, hR, hG⟩
      go_wp2_with fail
      go_ret
      rw [HT.out]
      exact ⟨none, 0, rfl, IsBytes.nil, fun _ => rfl, hR, hG⟩
    · have hlt : (s.rest.length : Int) < n := by omega
      clear hbad
      go_enter Try.func123, Try.ntmps123
      go_wp2_with fail
      refine HS.out.mono ?_
      rintro e w1 ⟨rfl, hR, hG⟩
      go_wp2_with fail
      go_ret
      rw [HT.out]
      exact ⟨none, 0, rfl, IsBytes.nil, fun _ => rfl, hR, hG⟩
  · obtain ⟨m, rfl⟩ : ∃ m : Nat, n = (m : Int) := ⟨n.toNat, by omega⟩
    have hm : m ≤ s.rest.length := by omega
    have HT : Hid (Pk.taken s m = (s.rest.take m, ⟨s.rest.drop m, s.bad⟩)) := by unfold Pk.taken; rw [if_neg hbad]; exact hid rfl
    clear hbad hn
    have hok := h.ok
    clear h
    obtain ⟨rest, bad⟩ := s
    dsimp only at hm h1 hc0 hc1 h2 h3 HT
    rcases A with _ | ad
    · obtain rfl : rest = [] := h2.of_none
      obtain rfl := h5 rfl
      simp only [List.length_nil] at hm h1 hc0 h3
      obtain rfl : m = 0 := by omega
      have HP := hid (Rdr.put (s := ⟨[], bad⟩) h1 [] none 0 0 rfl IsBytes.nil (Nat.le_refl _) (Nat.zero_le _) (fun _ => rfl) (fun _ => rfl))
      clear h1 h2 hok
      go_enter Try.func123, Try.ntmps123
      go_wp2_with fail
      go_still_tail 19, (by kernel_rfl)
      go_wp2_with fail
      go_ret
      rw [HT.out]
      exact ⟨none, 0, rfl, IsBytes.nil, fun _ => rfl, HP.out⟩
    · have HT1 : Hid (rest.length = m → Rdr (w.setCell ⟨g, 0, none⟩ (.slice (some ad) 0 0)).drew g ⟨rest.drop m, bad⟩ ∧ w.grownBy (w.setCell ⟨g, 0, none⟩ (.slice (some ad) 0 0)).drew (some g)) := fun e => by
        have e2 : rest.drop m = [] := List.drop_of_length_le (by omega)
        rw [e2]
        exact Rdr.put (s := ⟨rest, bad⟩) h1 [] (some ad) 0 0 rfl IsBytes.nil (Nat.le_refl _) (Nat.zero_le _) (fun h => by cases h) (fun _ => rfl)
      have HT2 : Hid (¬ rest.length = m → Rdr (w.setCell ⟨g, 0, none⟩ (.slice (some (ad.add m)) (rest.length - m) (rest.length - m))).drew g ⟨rest.drop m, bad⟩ ∧ w.grownBy (w.setCell ⟨g, 0, none⟩ (.slice (some (ad.add m)) (rest.length - m) (rest.length - m))).drew (some g)) := fun e =>
        Rdr.put (s := ⟨rest, bad⟩) h1 (rest.drop m) (some (ad.add m)) _ _ (by rw [List.length_drop]) (h2.drop m (by omega)) (Nat.le_refl _) (by unfold maxLen; omega) (fun h => by cases h) (fun hb => by have : rest = [] := hok hb; rw [this]; simp)
      have HB : Hid (IsBytes w g (some ad) (rest.take m)) := h2.take m
      have HL : Hid ((rest.take m).length = m) := by show _ = _; rw [List.length_take]; omega
      clear h1 h2 hok
      go_enter Try.func123, Try.ntmps123
      go_wp2_with fail
      go_still_tail 19, (by kernel_rfl)
      go_wp2_with fail
      all_goals
        go_ret
        rw [HT.out]
        first
          | exact ⟨some ad, m, ret_len HL.out.symm, HB.out.put _ _, (fun h => by cases h), HT2.out (by omega)⟩
          | exact ⟨some ad, m, ret_len HL.out.symm, HB.out.put _ _, (fun h => by cases h), HT1.out (by omega)⟩
end Go.Proofs.Ytaeoccpjdjafnaa
namespace Go.Proofs.Ytaeoccpjdjafnaa.Im
open Go.RowKit
open Rl (En Lg)
open Qu (Cf)
set_option maxRecDepth 100000
set_option linter.unusedVariables false
structure Ad where
  e : Option Addr
  ce : Nat
  o : Option Addr
  co : Nat
  n : Option Addr
  cn : Nat
  l : Option Addr
  cl : Nat
  s : Option Addr
  cs : Nat
def A0 : Ad := ⟨none, 0, none, 0, none, 0, none, 0, none, 0⟩
def Room (n c : Nat) (A : Option Addr) : Prop := (n ≤ c ∧ c ≤ maxLen) ∧ (A = none → c = 0)
structure IsPt (w : World) (B : Nat) (p : Pt) (a : Ad) : Prop where
  es : IsEnts w B a.e p.log.es
  o : IsInts w B a.o p.cf.old
  n : IsInts w B a.n p.cf.new
  l : IsInts w B a.l p.cf.lrn
  s : IsBytes w B a.s p.sn
  re : Room p.log.es.length a.ce a.e
  ro : Room p.cf.old.length a.co a.o
  rn : Room p.cf.new.length a.cn a.n
  rl : Room p.cf.lrn.length a.cl a.l
  rs : Room p.sn.length a.cs a.s
  num : InInt p.log.base ∧ InInt p.log.term
namespace IsPt
variable {w w' : World} {B B' : Nat} {p : Pt} {a : Ad}
theorem below (h : IsPt w B p a) (hb : Below B w w') : IsPt w' B p a := ⟨h.es.below hb, h.o.below hb, h.n.below hb, h.l.below hb, h.s.below hb, h.re, h.ro, h.rn, h.rl, h.rs, h.num⟩
theorem more (h : IsPt w B p a) (hB : B ≤ B') : IsPt w B' p a := ⟨h.es.more hB, h.o.more hB, h.n.more hB, h.l.more hB, h.s.more hB, h.re, h.ro, h.rn, h.rl, h.rs, h.num⟩
theorem low (h : IsPt w w.heap.size p a) (hb : Below w.heap.size w w') : IsPt w' w'.heap.size p a := (h.below hb).more hb.size
end IsPt
structure Hq where
  h : Hd
  a : Ad
structure Cq where
  c : Ch
  a : Ad
def cellsH (q : Hq) : List Value := [.int .i64 q.h.g, .int .i64 q.h.t, .int .i64 q.h.v, .int .i64 q.h.p.log.base, .int .i64 q.h.p.log.term, .slice q.a.e q.h.p.log.es.length q.a.ce, .slice q.a.o q.h.p.cf.old.length q.a.co, .slice q.a.n q.h.p.cf.new.length q.a.cn, .slice q.a.l q.h.p.cf.lrn.length q.a.cl, .slice q.a.s q.h.p.sn.length q.a.cs]
def cellsV (v : Vt) : List Value := [.int .i64 v.x, .int .i64 v.p, .int .i64 v.r, .int .i64 v.b, .int .i64 v.v]
def cellsC (q : Cq) : List Value := [.int .i64 q.c.k, .int .i64 q.c.g, .int .i64 q.c.t, .int .i64 q.c.v, .int .i64 q.c.f, .int .i64 q.c.p.log.base, .int .i64 q.c.p.log.term, .slice q.a.e q.c.p.log.es.length q.a.ce, .slice q.a.o q.c.p.cf.old.length q.a.co, .slice q.a.n q.c.p.cf.new.length q.a.cn, .slice q.a.l q.c.p.cf.lrn.length q.a.cl, .slice q.a.s q.c.p.sn.length q.a.cs, .int .i64 q.c.a.x, .int .i64 q.c.a.p, .int .i64 q.c.a.r, .int .i64 q.c.a.b, .int .i64 q.c.a.v]
structure IsRow {α : Type} (f : α → List Value) (size : Nat) (w : World) (B : Nat) (A : Option Addr) (L : List α) : Prop where
  at_ : ∀ k, k < L.length → ∃ b off, A = some ⟨b, off, none⟩ ∧ b < B ∧ ∀ i (h : i < L.length), w.rangeAt b (off + i * size) (f L[i])
namespace IsRow
variable {α : Type} {f : α → List Value} {size : Nat} {w w' : World} {B B' : Nat} {A : Option Addr} {L : List α}
theorem nil : IsRow f size w B A ([] : List α) := ⟨fun k h => by simp at h⟩
theorem below (h : IsRow f size w B A L) (hb : Below B w w') : IsRow f size w' B A L := ⟨fun k hk => by
  obtain ⟨b, off, e, hlt, hc⟩ := h.at_ k hk
  exact ⟨b, off, e, hlt, fun i hi j v hv => (hb.cell (p := ⟨b, off + i * size + j, none⟩) hlt).trans (hc i hi j v hv)⟩⟩
theorem more (h : IsRow f size w B A L) (hB : B ≤ B') : IsRow f size w B' A L := ⟨fun k hk => by
  obtain ⟨b, off, e, hlt, hc⟩ := h.at_ k hk
  exact ⟨b, off, e, by omega, hc⟩⟩
end IsRow
structure IsHds (w : World) (B : Nat) (A : Option Addr) (Q : List Hq) : Prop where
  row : IsRow cellsH 10 w B A Q
  pt : ∀ q ∈ Q, IsPt w B q.h.p q.a
  num : ∀ q ∈ Q, InInt q.h.g ∧ InInt q.h.t ∧ InInt q.h.v
structure IsVs (w : World) (B : Nat) (A : Option Addr) (L : List Vt) : Prop where
  row : IsRow cellsV 5 w B A L
  num : ∀ v ∈ L, okV v
structure IsCs (w : World) (B : Nat) (A : Option Addr) (Q : List Cq) : Prop where
  row : IsRow cellsC 17 w B A Q
  pt : ∀ q ∈ Q, IsPt w B q.c.p q.a
  num : ∀ q ∈ Q, (InInt q.c.k ∧ InInt q.c.g ∧ InInt q.c.t ∧ InInt q.c.v ∧ InInt q.c.f) ∧ okV q.c.a
theorem IsHds.below {w w' : World} {B : Nat} {A : Option Addr} {Q : List Hq} (h : IsHds w B A Q) (hb : Below B w w') : IsHds w' B A Q := ⟨h.row.below hb, fun q hq => (h.pt q hq).below hb, h.num⟩
theorem IsHds.more {w : World} {B B' : Nat} {A : Option Addr} {Q : List Hq} (h : IsHds w B A Q) (hB : B ≤ B') : IsHds w B' A Q := ⟨h.row.more hB, fun q hq => (h.pt q hq).more hB, h.num⟩
theorem IsVs.below {w w' : World} {B : Nat} {A : Option Addr} {Q : List Vt} (h : IsVs w B A Q) (hb : Below B w w') : IsVs w' B A Q := ⟨h.row.below hb, h.num⟩
theorem IsVs.more {w : World} {B B' : Nat} {A : Option Addr} {Q : List Vt} (h : IsVs w B A Q) (hB : B ≤ B') : IsVs w B' A Q := ⟨h.row.more hB, h.num⟩
theorem IsCs.below {w w' : World} {B : Nat} {A : Option Addr} {Q : List Cq} (h : IsCs w B A Q) (hb : Below B w w') : IsCs w' B A Q := ⟨h.row.below hb, fun q hq => (h.pt q hq).below hb, h.num⟩
theorem IsCs.more {w : World} {B B' : Nat} {A : Option Addr} {Q : List Cq} (h : IsCs w B A Q) (hB : B ≤ B') : IsCs w B' A Q := ⟨h.row.more hB, fun q hq => (h.pt q hq).more hB, h.num⟩
def ldX (t : TypeId) (a : Value) : Sem Value := Instr.loadAt t a
def stX (t : TypeId) (a v : Value) : Sem Unit := Instr.storeAt t a v
theorem loadAt_hard (a : Value) : Instr.loadAt 59 a = ldX 59 a := rfl
theorem storeAt_hard (a v : Value) : Instr.storeAt 59 a v = stX 59 a v := rfl
theorem loadAt_vote (a : Value) : Instr.loadAt 34 a = ldX 34 a := rfl
theorem storeAt_vote (a v : Value) : Instr.storeAt 34 a v = stX 34 a v := rfl
theorem loadAt_change (a : Value) : Instr.loadAt 36 a = ldX 36 a := rfl
theorem storeAt_change (a v : Value) : Instr.storeAt 36 a v = stX 36 a v := rfl
theorem info_hard : (Try.prog.info? 59).map (·.size) = some 10 := by kernel_rfl
theorem info_vote : (Try.prog.info? 34).map (·.size) = some 5 := by kernel_rfl
theorem info_change : (Try.prog.info? 36).map (·.size) = some 17 := by kernel_rfl
theorem ldH (w : World) (b o : Nat) (cs : List Value) (h : cs.length = 10) (hc : w.rangeAt b o cs) : (ldX 59 (.pointer (some ⟨b, o, none⟩))).run Try.prog w = .ok (.agg cs.toArray) w :=
  run_loadAt_mid w b o 59 cs _ hc Try.underlying59 rfl (by rw [info_hard, h])
theorem ldV (w : World) (b o : Nat) (cs : List Value) (h : cs.length = 5) (hc : w.rangeAt b o cs) : (ldX 34 (.pointer (some ⟨b, o, none⟩))).run Try.prog w = .ok (.agg cs.toArray) w :=
  run_loadAt_mid w b o 34 cs _ hc Try.underlying34 rfl (by rw [info_vote, h])
theorem range_row {w : World} {b : Nat} {cs : List Value} {t : TypeId} {fr : Nat × Nat} (h : w.heap[b]? = some (.cells cs.toArray t fr)) : w.rangeAt b 0 cs := fun j v hv => by
  rw [Nat.zero_add, cell_of_row w b j _ _ fr h, List.getElem?_toArray]; exact hv
theorem stNew (w : World) (t : TypeId) (n : Nat) (hi : (Try.prog.info? t).map (·.size) = some n) (cs cs' : Array Value) (h : cs.size = n) (h' : cs'.size = n) (h1 : cs'.all (·.oneCell') = true) : (stX t (.pointer (some ⟨w.heap.size, 0, none⟩)) (.agg cs')).run Try.prog (w.alloc (.cells cs t)) = .ok () (w.alloc (.cells cs' t)) :=
  run_storeVar_new w _ cs cs' (by rw [hi, h']) (by rw [h, h']) h1
end Go.Proofs.Ytaeoccpjdjafnaa.Im
namespace Go.Proofs.Ytaeoccpjdjafnaa.Im
open Go.RowKit
set_option maxRecDepth 100000
theorem ldRow {t : TypeId} {n : Nat} {d : TypeDesc} (hi : (Try.prog.info? t).map (·.size) = some n) (hu : Try.prog.underlying t = some d) (hd : d.isRow = true) {w : World} {b : Nat} {cs : Array Value} {t' : TypeId} {fr : Nat × Nat} (hg : w.heap[b]? = some (.cells cs t' fr)) (h : cs.size = n) : (ldX t (.pointer (some ⟨b, 0, none⟩))).run Try.prog w = .ok (.agg cs) w :=
  run_loadVar_row w b t' t cs fr d hg hu (by cases d <;> first | rfl | cases hd) (by rw [hi, h])
theorem stRow {t : TypeId} {n : Nat} (hi : (Try.prog.info? t).map (·.size) = some n) {w : World} {b : Nat} {cs cs' : Array Value} {t' : TypeId} (hg : w.heap[b]? = some (.cells cs t' (0, 0))) (h : cs.size = n) (h' : cs'.size = n) (h1 : cs'.all (·.oneCell') = true) : (stX t (.pointer (some ⟨b, 0, none⟩)) (.agg cs')).run Try.prog w = .ok () (w.setRow b cs') :=
  run_storeVar_row w b t' t cs cs' hg (by rw [hi, h']) (by rw [h, h']) h1
theorem stSame {t : TypeId} {n : Nat} (hi : (Try.prog.info? t).map (·.size) = some n) {w : World} {b : Nat} {cs : Array Value} {t' : TypeId} (hg : w.heap[b]? = some (.cells cs t' (0, 0))) (h : cs.size = n) (h1 : cs.all (·.oneCell') = true) : (stX t (.pointer (some ⟨b, 0, none⟩)) (.agg cs)).run Try.prog w = .ok () w := by
  have := stRow hi hg h h h1
  rw [setRow_self w b cs _ _ hg] at this
  exact this
theorem row_turned (w : World) (b : Nat) (cs : Array Value) : Turned (fun k => k = b) w (w.setRow b cs) := ⟨rfl, rfl, rfl, by simp, fun k _ hk => setRow_other w b k cs hk⟩
theorem results_two {fn : Func} {p q : Tmp} {ty : TypeId} {n : Nat} {d : TypeDesc} (h : fn.results = #[.cell p ty, .tmp q]) (hi : (Try.prog.info? ty).map (·.size) = some n) (hu : Try.prog.underlying ty = some d) (hd : d.isRow = true) (tmps : Array Value) (w : World) (g : Nat) (t : TypeId) (cs : Array Value) (fr : Nat × Nat)
    (hp : tmps.getD p undef = .pointer (some ⟨g, 0, none⟩)) (hg : w.heap[g]? = some (.cells cs t fr)) (hs : cs.size = n) :
    (results fn tmps).run Try.prog w = .ok (.tuple #[.agg cs, tmps.getD q undef]) w := by
  have hl := run_loadVar_row w g t ty cs fr _ hg hu (by cases d <;> first | rfl | cases hd) (by rw [hi, hs])
  have hp' : tmps[p]?.getD undef = .pointer (some ⟨g, 0, none⟩) := by simpa using hp
  simp [results, h, hp', asAddr, hl]
theorem loadAt_image (a : Value) : Instr.loadAt 25 a = ldX 25 a := rfl
theorem storeAt_image (a v : Value) : Instr.storeAt 25 a v = stX 25 a v := rfl
theorem loadAt_conf3 (a : Value) : Instr.loadAt 31 a = ldX 31 a := rfl
theorem storeAt_conf3 (a v : Value) : Instr.storeAt 31 a v = stX 31 a v := rfl
theorem info_image2 : (Try.prog.info? 25).map (·.size) = some 2 := by kernel_rfl
theorem info_conf33 : (Try.prog.info? 31).map (·.size) = some 3 := by kernel_rfl
end Go.Proofs.Ytaeoccpjdjafnaa.Im
namespace Go.Proofs.Ytaeoccpjdjafnaa.Im
open Go.RowKit
open Rl (En Lg)
set_option maxRecDepth 100000
set_option linter.unusedVariables false
theorem loadAt_log1 (a : Value) : Instr.loadAt 28 a = ldX 28 a := rfl
theorem storeAt_log1 (a v : Value) : Instr.storeAt 28 a v = stX 28 a v := rfl
theorem info_log33 : (Try.prog.info? 28).map (·.size) = some 3 := by kernel_rfl
attribute [local go_sem ↓] loadAt_log1 storeAt_log1
def sinceM (g : Lg) (b t : Int) : Lg := if g.cutE b = 0 ∧ (g.cut b).term = t then g.cut b else ⟨b, t, []⟩
set_option maxHeartbeats 3200000 in
theorem since_any (g : Lg) (A : Option Addr) (c : Nat) (b t : Int) (n : Nat) (hn : n = g.es.length) (hg : Rl.Ok g) (hf : Rl.Few g.es) (hb : InInt b ∧ InInt t) (w : World) (h : LgIs w w.heap.size g A c) :
    Calls Try.prog 60 #[.agg #[.int .i64 g.base, .int .i64 g.term, .slice A n c], .int .i64 b, .int .i64 t] w fun e w' => ∃ A' c' m, e = .returned (.agg #[.int .i64 (sinceM g b t).base, .int .i64 (sinceM g b t).term, .slice A' m c']) ∧ m = (sinceM g b t).es.length ∧ OwnE w' w.heap.size w'.heap.size A' c' (sinceM g b t).es ∧ Below w.heap.size w w' := by
  obtain ⟨wA, hwA⟩ : ∃ wA, wA = (w.alloc (.cells #[.int .i64 g.base, .int .i64 g.term, .slice A n c] 28)).alloc (.cells #[.int .i64 0, .int .i64 0, .slice none 0 0] 28) := ⟨_, rfl⟩
  obtain ⟨b0, hb0⟩ : ∃ b, b = w.heap.size := ⟨_, rfl⟩
  obtain ⟨b1, hb1⟩ : ∃ b, b = w.heap.size + 1 := ⟨_, rfl⟩
  have hsA : wA.heap.size = w.heap.size + 2 := by rw [hwA]; simp
  have hbA : Below w.heap.size w wA := by rw [hwA]; exact ((Below.refl _ w).alloc (Nat.le_refl _) _).alloc (by simp) _
  have hr0 : wA.heap[b0]? = some (.cells #[.int .i64 g.base, .int .i64 g.term, .slice A n c] 28 (0, 0)) := by rw [hwA, heap_alloc_old _ _ (by rw [hb0]; simp), hb0]; exact heap_alloc_new w _
  have hr1 : wA.heap[b1]? = some (.cells #[.int .i64 0, .int .i64 0, .slice none 0 0] 28 (0, 0)) := by
    have := heap_alloc_new (w.alloc (.cells #[.int .i64 g.base, .int .i64 g.term, .slice A n c] 28)) (.cells #[.int .i64 0, .int .i64 0, .slice none 0 0] 28)
    rw [World.size_alloc, ← hwA, ← hb1] at this
    exact this
  have HC : Hid (Calls Try.prog 89 #[.agg #[.int .i64 g.base, .int .i64 g.term, .slice A n c], .int .i64 b] wA fun e w' => ∃ A' c', e = .returned (.tuple #[.agg #[.int .i64 (g.cut b).base, .int .i64 (g.cut b).term, .slice A' (g.cut b).es.length c'], .int .i64 (g.cutE b)]) ∧ OwnE w' wA.heap.size w'.heap.size A' c' (g.cut b).es ∧ Below wA.heap.size wA w') := hid (by
    rw [hn]
    exact cut_any wA.heap.size g A c b hg hf wA ((h.below hbA).more (by omega)) (Nat.le_refl _))
  have hld := ldRow info_log33 Try.underlying28 rfl hr0 rfl
  have H0 := hid (And.intro hr0 (And.intro hr1 (And.intro hbA (And.intro hsA (And.intro hb0 hb1)))))
  have hb01 := hb.1.1
  have hb02 := hb.1.2
  obtain ⟨e0, he0⟩ : ∃ e, e = g.cutE b := ⟨_, rfl⟩
  obtain ⟨g', hg'⟩ : ∃ x, x = g.cut b := ⟨_, rfl⟩
  have HS : Hid (sinceM g b t = if e0 = 0 ∧ g'.term = t then g' else ⟨b, t, []⟩) := hid (by rw [he0, hg']; rfl)
  rw [← he0, ← hg'] at HC
  obtain ⟨m, hm⟩ : ∃ m, m = g'.es.length := ⟨_, rfl⟩
  rw [← hm] at HC
  have HM := hid hm
  rw [hwA, hb0] at hld
  clear hr0 hr1 hbA hsA h hn hg hf hb he0 hg' hm
  go_enter Try.func60, Try.ntmps60
  go_wp2_with fail
  rw [← hwA]
  refine HC.out.mono ?_
  rintro e w1 ⟨A1, c1, rfl, ho1, hbl1⟩
  obtain ⟨w2, hw2⟩ : ∃ w2, w2 = w1.alloc (.cells #[.int .i64 g'.base, .int .i64 g'.term, .slice A1 m c1] 28) := ⟨_, rfl⟩
  have hb2 : Below w1.heap.size w1 w2 := by rw [hw2]; exact (Below.refl _ w1).alloc (Nat.le_refl _) _
  have hro2 : w2.heap[w1.heap.size]? = some (.cells #[.int .i64 g'.base, .int .i64 g'.term, .slice A1 m c1] 28 (0, 0)) := by rw [hw2]; exact heap_alloc_new w1 _
  have hst2 := stNew w1 28 3 info_log33 #[.int .i64 0, .int .i64 0, .slice none 0 0] #[.int .i64 g'.base, .int .i64 g'.term, .slice A1 m c1] rfl rfl (by simp [Value.oneCell'])
  rw [← hw2] at hst2
  have hz2 : w2.heap[b1]? = some (.cells #[.int .i64 0, .int .i64 0, .slice none 0 0] 28 (0, 0)) := by
    have z0 := H0.out.2.2.2.1
    have z1 := H0.out.2.2.2.2.2
    have zb := hbl1.size
    exact (hb2.block _ (by omega)).trans ((hbl1.block _ (by omega)).trans H0.out.2.1)
  have hlow2 : Below w.heap.size w w2 := H0.out.2.2.1.trans ((hbl1.mono (by have := H0.out.2.2.2.1; omega)).trans (hb2.mono (by have := H0.out.2.2.2.1; have := hbl1.size; omega)))
  have own2 : OwnE w2 wA.heap.size w2.heap.size A1 c1 g'.es := (ho1.below hb2).wide (Nat.le_refl _) hb2.size
  have hc1 : w2.cell? ⟨w1.heap.size, 1, none⟩ = some (.int .i64 g'.term) := row_cell hro2 1
  have hld2 := ldRow info_log33 Try.underlying28 rfl hro2 rfl
  have hstA := stRow info_log33 (cs' := #[.int .i64 g'.base, .int .i64 g'.term, .slice A1 m c1]) hz2 rfl rfl (by simp [Value.oneCell'])
  have hstB := stRow info_log33 (cs' := #[.int .i64 b, .int .i64 t, .slice none 0 0]) hz2 rfl rfl (by simp [Value.oneCell'])
  have rA := setRow_heap w2 b1 _ #[.int .i64 g'.base, .int .i64 g'.term, .slice A1 m c1] _ _ hz2
  have tA := row_turned w2 b1 #[.int .i64 g'.base, .int .i64 g'.term, .slice A1 m c1]
  have rB := setRow_heap w2 b1 _ #[.int .i64 b, .int .i64 t, .slice none 0 0] _ _ hz2
  have tB := row_turned w2 b1 #[.int .i64 b, .int .i64 t, .slice none 0 0]
  generalize w2.setRow b1 #[.int .i64 g'.base, .int .i64 g'.term, .slice A1 m c1] = w3 at *
  generalize w2.setRow b1 #[.int .i64 b, .int .i64 t, .slice none 0 0] = w4 at *
  have FA : Hid (w3.heap[b1]? = some (.cells #[.int .i64 g'.base, .int .i64 g'.term, .slice A1 m c1] 28 (0, 0)) ∧ OwnE w3 w.heap.size w3.heap.size A1 c1 g'.es ∧ Below w.heap.size w w3) := hid (by
    have z0 := H0.out.2.2.2.1
    have z1 := H0.out.2.2.2.2.2
    exact ⟨rA, (own2.keep tA (fun k hk hB => by have := hB.1; omega)).wide (by omega) tA.size, hlow2.trans (tA.below hlow2.size (fun k hk => by omega))⟩)
  have FB : Hid (w4.heap[b1]? = some (.cells #[.int .i64 b, .int .i64 t, .slice none 0 0] 28 (0, 0)) ∧ Below w.heap.size w w4) := hid (by
    have z1 := H0.out.2.2.2.2.2
    exact ⟨rB, hlow2.trans (tB.below hlow2.size (fun k hk => by omega))⟩)
  have hb1' := H0.out.2.2.2.2.2
  clear ho1 hbl1 hb2 hro2 hz2 hlow2 own2 rA tA rB tB hw2 hwA
  show _
  simp only []
  by_cases he : e0 = 0
  · subst he
    by_cases ht : g'.term = t
    · have HV : Hid (sinceM g b t = g') := hid (by rw [HS.out, if_pos ⟨rfl, ht⟩])
      subst ht
      subst hb1'
      go_wp2_with fail
      refine bodyPost_ret (results_cell_row rfl _ _ (w.heap.size + 1) _ _ _ _ rfl FA.out.1 Try.underlying28 rfl (by rw [info_log33]; rfl)) rfl ?_
      rw [HV.out]
      exact ⟨A1, c1, m, rfl, HM.out, FA.out.2⟩
    · have HV : Hid (sinceM g b t = ⟨b, t, []⟩) := hid (by rw [HS.out, if_neg (fun h => ht h.2)])
      subst hb1'
      go_wp2_with fail
      refine bodyPost_ret (results_cell_row rfl _ _ (w.heap.size + 1) _ _ _ _ rfl FB.out.1 Try.underlying28 rfl (by rw [info_log33]; rfl)) rfl ?_
      rw [HV.out]
      exact ⟨none, 0, 0, rfl, rfl, OwnE.nil _ _ _, FB.out.2⟩
  · have HV : Hid (sinceM g b t = ⟨b, t, []⟩) := hid (by rw [HS.out, if_neg (fun h => he h.1)])
    subst hb1'
    go_wp2_with fail
    refine bodyPost_ret (results_cell_row rfl _ _ (w.heap.size + 1) _ _ _ _ rfl FB.out.1 Try.underlying28 rfl (by rw [info_log33]; rfl)) rfl ?_
    rw [HV.out]
    exact ⟨none, 0, 0, rfl, rfl, OwnE.nil _ _ _, FB.out.2⟩
end Go.Proofs.Ytaeoccpjdjafnaa.Im
namespace Go.Proofs.Ytaeoccpjdjafnaa
open Go.RowKit
theorem or_add (v c : Nat) (hc : c < 256) : v * 256 ||| c = v * 256 + c := by
  rw [show v * 256 = 2 ^ 8 * v from by omega, ← Nat.two_pow_add_eq_or_of_lt hc]
theorem wrap64_sgn (n : Nat) (h : n < 18446744073709551616) : wrap64 (n : Int) = Pk.sgn n := by
  unfold wrap64 Pk.sgn
  split <;> omega
theorem num_take_lt (l : List Nat) (k : Nat) (hl : l.length ≤ 8) (hk : k < l.length) (h : ∀ x ∈ l, x < 256) : Pk.num (l.take k) < 72057594037927936 := by
  have h1 := Pk.num_lt (l.take k) (fun x hx => h x (List.mem_of_mem_take hx))
  have h2 : (l.take k).length ≤ 7 := by rw [List.length_take]; omega
  have h3 : 256 ^ (l.take k).length ≤ 256 ^ 7 := Nat.pow_le_pow_right (by decide) h2
  have h4 : 256 ^ 7 = 72057594037927936 := by decide
  omega
set_option maxRecDepth 100000 in
set_option maxHeartbeats 400000 in
theorem number_any (B : Nat) (A : Option Addr) (c : Nat) (l : List Nat) (hl : l.length ≤ 8) (w : World) (h : IsBytes w B A l) :
    Calls Try.prog 122 #[.slice A l.length c] w fun e w' => e = .returned (.int .i64 (Pk.sgn (Pk.num l))) ∧ w = w' := by
  go_enter Try.func122, Try.ntmps122
  go_wp2
  go_loop [3, 8] (fun v i => ∃ k n : Nat, k ≤ l.length ∧ i = .int .i64 k ∧ v = .int .u64 (n : Int) ∧ n < 18446744073709551616 ∧ Hid (n = Pk.num (l.take k))) (fun _ i => l.length - (RowKit.intOf i).toNat)
  case atStart => exact ⟨0, 0, by omega, rfl, rfl, by omega, hid rfl⟩
  case round =>
    obtain ⟨k, n, hk, rfl, rfl, hn, hs⟩ := hrel
    by_cases hlt : k < l.length
    · obtain ⟨b, off, rfl, _, hc⟩ := h.cells k hlt
      have hck := hc k hlt
      have hb8 := h.small l[k] (List.getElem_mem _)
      have hn7 : n < 72057594037927936 := by rw [hs.out]; exact num_take_lt l k hl hlt h.small
      have HO : Hid (bits .or .u64 ((n : Int) * 256) (l[k] : Nat) = ((n * 256 + l[k] : Nat) : Int)) := by
        show _ = _
        rw [show (n : Int) * 256 = ((n * 256 : Nat) : Int) from by omega, u64_or_nat _ _ (by omega) (by omega), or_add _ _ hb8]
      clear hc
      go_wp2
      go_round
      case rel => exact ⟨k + 1, n * 256 + l[k], by omega, by go_num, by rw [HO.out], by omega, by
        show _ = _
        rw [List.take_succ_eq_append_getElem hlt, Pk.num_snoc, ← hs.out]⟩
      case measure => simp [RowKit.intOf] <;> omega
    · go_wp2
      go_ret
      obtain rfl : k = l.length := by omega
      exact ⟨ret_int (by rw [wrap64_sgn n hn, hs.out, List.take_length]), rfl⟩
set_option maxRecDepth 100000 in
set_option maxHeartbeats 400000 in
theorem int_rdr (g : Nat) (s : Pk.St) (w : World) (h : Rdr w g s) :
    Calls Try.prog 103 #[.pointer (some ⟨g, 0, none⟩)] w fun e w' => e = .returned (.int .i64 (Pk.rdInt s).1) ∧ Rdr w' g (Pk.rdInt s).2 ∧ w.grownBy w' (some g) := by
  have HT := hid (take_rdr g s 8 (by unfold InInt; omega) w h)
  have h8 : (Pk.taken s 8).1.length ≤ 8 := by
    unfold Pk.taken
    split
    · simp
    · exact List.length_take_le _ _
  clear h
  go_enter Try.func103, Try.ntmps103
  go_wp2_with fail
  refine HT.out.mono ?_
  rintro e w1 ⟨A1, c1, rfl, hb, _, hR, hG⟩
  go_wp2_with fail
  refine (number_any g A1 c1 _ h8 _ hb).mono ?_
  rintro e w2 ⟨rfl, rfl⟩
  go_wp2_with fail
  go_ret
  exact ⟨ret_int (Pk.rdInt_num s).symm, by rw [Pk.rdInt_st]; exact hR, hG⟩
set_option maxRecDepth 100000 in
set_option maxHeartbeats 400000 in
theorem bad_rdr (g : Nat) (s : Pk.St) (w : World) (h : Rdr w g s) :
    Calls Try.prog 106 #[.pointer (some ⟨g, 0, none⟩)] w fun e w' => e = .returned (.bool s.bad) ∧ w = w' := by
  obtain ⟨A, c, h1, h2, h3, h4, h5⟩ := h.at_
  have hc1 : w.cell? ⟨g, 1, none⟩ = some (.bool s.bad) := row_cell h1 1
  clear h h1 h2
  go_enter Try.func106, Try.ntmps106
  go_wp2
  go_ret
  exact ⟨rfl, rfl⟩
end Go.Proofs.Ytaeoccpjdjafnaa
namespace Go.Proofs.Ytaeoccpjdjafnaa
open Go.RowKit
set_option maxRecDepth 100000
set_option maxHeartbeats 400000 in
theorem left_rdr (g : Nat) (s : Pk.St) (w : World) (h : Rdr w g s) :
    Calls Try.prog 104 #[.pointer (some ⟨g, 0, none⟩)] w fun e w' => e = .returned (.int .i64 (s.rest.length : Nat)) ∧ w = w' := by
  obtain ⟨A, c, h1, h2, h3, h4, h5⟩ := h.at_
  have hc0 : w.cell? ⟨g, 0, none⟩ = some (.slice A s.rest.length c) := row_cell h1 0
  clear h h1 h2
  go_enter Try.func104, Try.ntmps104
  go_wp2
  go_ret
  exact ⟨rfl, rfl⟩
def endOf (s : Pk.St) : Int := if s.bad = true then 4 else if 0 < s.rest.length then 2 else 0
set_option maxHeartbeats 400000 in
theorem end_rdr (g : Nat) (s : Pk.St) (w : World) (h : Rdr w g s) :
    Calls Try.prog 78 #[.pointer (some ⟨g, 0, none⟩)] w fun e w' => e = .returned (.int .i64 (endOf s)) ∧ w = w' := by
  obtain ⟨A, c, h1, h2, h3, h4, h5⟩ := h.at_
  have hc0 : w.cell? ⟨g, 0, none⟩ = some (.slice A s.rest.length c) := row_cell h1 0
  have hc1 : w.cell? ⟨g, 1, none⟩ = some (.bool s.bad) := row_cell h1 1
  clear h h1 h2
  obtain ⟨rest, bad⟩ := s
  dsimp only at *
  by_cases hl : 0 < rest.length
  · cases bad
    all_goals
      have HE := hid hl
      go_enter Try.func78, Try.ntmps78
      go_wp2
      go_ret
      exact ⟨ret_int (by simp [endOf, HE.out]), rfl⟩
  · obtain rfl : rest = [] := List.eq_nil_of_length_eq_zero (by omega)
    clear hl
    cases bad
    all_goals
      go_enter Try.func78, Try.ntmps78
      go_wp2
      go_ret
      exact ⟨ret_int (by simp [endOf]), rfl⟩
set_option maxHeartbeats 400000 in
theorem blob_rdr (g : Nat) (s : Pk.St) (w : World) (h : Rdr w g s) (hl : s.rest.length ≤ 140737488354000) :
    Calls Try.prog 109 #[.pointer (some ⟨g, 0, none⟩)] w fun e w' => ∃ A' c', e = .returned (.slice A' (Pk.rdBlob s).1.length c') ∧ OwnsB 5 w' w.heap.size A' c' (Pk.rdBlob s).1 ∧ Rdr w' g (Pk.rdBlob s).2 ∧ w.grownBy w' (some g) := by
  obtain ⟨i0, hi, hz0, hz1, hz2⟩ := info_parts info_u8
  have HI := hid (int_rdr g s w h)
  have hin := Pk.rdInt_in s h.small
  have hsh := Pk.rdInt_short s
  have hgl := h.lt
  have HE : Hid (Pk.taken (Pk.rdInt s).2 (Pk.rdInt s).1 = Pk.rdBlob s) := by
    show _ = _
    exact Pk.taken_rdInt s h.ok
  clear h
  have hlen : (Pk.rdBlob s).1.length ≤ s.rest.length := (Pk.rdBlob_short s).2
  go_enter Try.func109, Try.ntmps109
  go_wp2_with fail
  refine HI.out.mono ?_
  rintro e w1 ⟨rfl, hR, hG⟩
  have C := take_rdr g _ _ hin w1 hR
  rw [HE.out] at C
  have HC := hid C
  clear C hR
  go_wp2_with fail
  refine HC.out.mono ?_
  rintro e w2 ⟨A1, c1, rfl, hb, hn, hR, hG2⟩
  have hG3 : w.grownBy w2 (some g) := hG.trans hG2
  have hsz := hG3.size
  clear hG hG2
  go_wp2_with (at_builtin; refine wpList_append_bytesN rfl _ _ 32 rfl w.heap.size 5 i0 Try.underlying32 hi hz0 hz1 hz2 none 0 [] 0 rfl rfl (OwnsB.nil _ _ _) g A1 c1 (Pk.rdBlob s).1 (Pk.rdBlob s).1.length rfl rfl hn hb _ (List.nil_append _) (by omega) hsz ?_)
  intro A3 c3 w3 hown hbel
  have hR3 : Rdr w3 g (Pk.rdBlob s).2 := hR.below (hbel.mono (by omega))
  have hG4 : w.grownBy w3 (some g) := grown_then hG3 hbel
  clear hR hG3 hb hbel
  go_wp2_with fail
  go_ret
  exact ⟨A3, c3, ret_len (by simp), hown, hR3, hG4⟩
end Go.Proofs.Ytaeoccpjdjafnaa
namespace Go.Proofs.Ytaeoccpjdjafnaa.I
open Go.RowKit
theorem take_succ_eq (l m : List Int) (k : Nat) (h1 : k < l.length) (h2 : k < m.length) (h : l.take k = m.take k) (he : l[k] = m[k]) : l.take (k + 1) = m.take (k + 1) := by
  rw [List.take_succ_eq_append_getElem h1, List.take_succ_eq_append_getElem h2, h, he]
set_option maxHeartbeats 400000 in
theorem same_any (B B' : Nat) (A A' : Option Addr) (c c' : Nat) (l m : List Int) (hl : l.length ≤ maxLen) (hm : m.length ≤ maxLen) (w : World) (h : IsInts w B A l) (h' : IsInts w B' A' m) :
    Calls Try.prog 76 #[.slice A l.length c, .slice A' m.length c'] w fun e w' => e = .returned (.bool (decide (l = m))) ∧ ∃ n, w' = w.drewN n := by
  unfold maxLen at hl hm
  by_cases hne : l.length = m.length
  · have hb : ((l.length : Int) != (m.length : Int)) = false := by rw [bne_eq_false_iff_eq]; omega
    have HN := hid hne
    clear hne
    go_enter Try.func76, Try.ntmps76
    go_wp2
    go_loopw [5] (fun i wr => ∃ k n : Nat, k ≤ l.length ∧ i = .int .i64 k ∧ wr = w.drewN n ∧ Hid (l.take k = m.take k)) (fun i _ => l.length - (RowKit.intOf i).toNat)
    case atStart => exact ⟨0, 0, by omega, rfl, rfl, hid rfl⟩
    case round =>
      obtain ⟨k, n, hk, rfl, rfl, hs⟩ := hrel
      by_cases hlt : k < l.length
      · have hlt' : k < m.length := by have := HN.out; omega
        obtain ⟨b, off, rfl, _, hc⟩ := h.cells k hlt
        obtain ⟨b', off', rfl, _, hc'⟩ := h'.cells k hlt'
        have hck := hc k hlt
        have hck' := hc' k hlt'
        clear hc hc'
        by_cases he : l[k] = m[k]
        · have hbe : (l[k] != m[k]) = false := by rw [bne_eq_false_iff_eq]; omega
          have HE := hid he
          clear he
          go_wp2
          go_quiet (fail)
          go_wp2
          go_roundw
          case rel => exact ⟨k + 1, _, by omega, by go_num, rfl, hid (take_succ_eq l m k hlt hlt' hs.out HE.out)⟩
          case measure => simp [RowKit.intOf]; omega
        · have hbe : (l[k] != m[k]) = true := by rw [bne_iff_ne]; omega
          have hfin : decide (l = m) = false := by
            rw [decide_eq_false_iff_not]; rintro rfl; exact he rfl
          have HF := hid hfin
          clear he hfin
          go_wp2
          go_quiet (fail)
          go_wp2
          go_ret
          exact ⟨by rw [HF.out]; rfl, _, by rw [World.drewN_drewN]⟩
      · obtain rfl : k = l.length := by omega
        have hfin : decide (l = m) = true := by
          rw [decide_eq_true_iff]
          have e := hs.out
          rw [List.take_length, HN.out, List.take_length] at e
          exact e
        have HF := hid hfin
        clear hfin
        go_wp2
        go_ret
        exact ⟨by rw [HF.out]; rfl, _, rfl⟩
  · have hb : ((l.length : Int) != (m.length : Int)) = true := by rw [bne_iff_ne]; omega
    have hfin : decide (l = m) = false := by
      rw [decide_eq_false_iff_not]; rintro rfl; exact hne rfl
    have HF := hid hfin
    clear hfin hne
    go_enter Try.func76, Try.ntmps76
    go_wp2
    go_ret
    exact ⟨by rw [HF.out]; rfl, 0, rfl⟩
theorem info_int : (Try.prog.info? 3).map (fun i => (i.zero, i.size, i.bytes)) = some (some (.int .i64 0), 1, 8) := by kernel_rfl
end Go.Proofs.Ytaeoccpjdjafnaa.I
namespace Go.Proofs.Ytaeoccpjdjafnaa
open Go.RowKit
theorem under_int : Try.prog.underlying 3 = some (.int .i64) := by kernel_rfl
set_option maxRecDepth 100000 in
set_option maxHeartbeats 400000 in
theorem grow_none (n : Nat) (hn : n ≤ 17592186044000) (w : World) :
    Calls Try.prog 131 #[.slice none 0 0, .int .i64 (n : Int)] w fun e w' => ∃ A' c', e = .returned (.slice A' 0 c') ∧ OwnsI 3 w' w.heap.size A' c' [] ∧ Below w.heap.size w w' := by
  obtain ⟨i0, hi, hz0, hz1, hz2⟩ := info_parts I.info_int
  by_cases h0 : 0 < n
  · go_enter Try.func131, Try.ntmps131
    go_wp2_with (at_builtin; refine Lib.wpList_append_run _ rfl _ _ 29 3 rfl (.slice none 0 0) (.int .i64 (n : Int)) rfl rfl _ _ (Lib.run_append_nil_zeros _ 29 3 _ 3 i0 (.int .i64 0) .i64 .i64 Try.underlying29 under_int hi hz0 n h0 (by rw [hz1]; decide) (by omega) (by rw [hz2]; omega)) ?_)
    have hcap1 := grownCap_ge w n 0 3
    have hcap2 := grownCap_le_maxLen w n 0 3 (by unfold maxLen; omega)
    obtain ⟨cap, hcap⟩ : ∃ cap, cap = grownCap w n 0 3 := ⟨_, rfl⟩
    rw [← hcap] at hcap1 hcap2 ⊢
    have HO : Hid (OwnsI 3 (w.drew.alloc (.cells (Builtin.zeroCells (Value.int .i64 0).cells n ++ Builtin.zeroCells (Value.int .i64 0).cells (cap - n)) 3)) w.heap.size (some ⟨w.heap.size, 0, none⟩) cap []) := by
      refine ⟨by simp, by simp [ints], .inr ⟨w.heap.size, cap, _, rfl, Nat.le_refl _, heap_alloc_new w.drew _, Nat.zero_le _, hcap2, ?_, by simp [ints]⟩⟩
      rw [Array.size_append, size_zeroCells, size_zeroCells]
      show n * 1 + (cap - n) * 1 = cap * 1
      omega
    have HB : Hid (Below w.heap.size w (w.drew.alloc (.cells (Builtin.zeroCells (Value.int .i64 0).cells n ++ Builtin.zeroCells (Value.int .i64 0).cells (cap - n)) 3))) :=
      (Below.refl _ _).drew.alloc (Nat.le_refl _) _
    unfold maxLen at hcap2
    have HC := hid hcap
    clear hcap
    go_wp2
    go_ret
    exact ⟨_, _, rfl, HO.out, HB.out⟩
  · obtain rfl : n = 0 := by omega
    go_enter Try.func131, Try.ntmps131
    go_wp2
    go_ret
    exact ⟨none, 0, rfl, OwnsI.nil _ _ _, Below.refl _ _⟩
end Go.Proofs.Ytaeoccpjdjafnaa
namespace Go.Proofs.Ytaeoccpjdjafnaa
open Go.RowKit
theorem OwnsB.capZ {e : TypeId} {w : World} {base c : Nat} {A : Option Addr} {l : List Nat} (h : OwnsB e w base A c l) : c ≤ maxLen ∧ (A = none → c = 0) := by
  rcases h.row.2 with ⟨h1, _⟩ | ⟨g, cap, cur, h1, _, _, _, h2, _⟩
  · injection h1 with h1 h2 h3
    exact ⟨by omega, fun _ => h3⟩
  · injection h1 with h3 h4 h5
    exact ⟨by omega, fun h6 => by rw [h3] at h6; cases h6⟩
set_option maxRecDepth 100000 in
set_option maxHeartbeats 400000 in
theorem sclone_any (B : Nat) (A : Option Addr) (c : Nat) (l : List Nat) (hl : l.length ≤ 140737488354000) (w : World) (h : IsBytes w B A l) (hB : B ≤ w.heap.size) (hn : A = none → c = 0) :
    Calls Try.prog 102 #[.slice A l.length c] w fun e w' => ∃ A' c', e = .returned (.slice A' l.length c') ∧ OwnsB 5 w' w.heap.size A' c' l ∧ Below w.heap.size w w' := by
  obtain ⟨i0, hi, hz0, hz1, hz2⟩ := info_parts info_u8
  have hq := fun (w : World) (a : Option Addr) (n c : Nat) => Lib.run_eql_slice_nil (P := Try.prog) w 32 5 a n c 0 0 Try.underlying32
  rcases A with _ | ad
  · obtain rfl := hn rfl
    obtain rfl := h.of_none
    go_enter Try.func102, Try.ntmps102
    go_wp2
    go_ret
    exact ⟨none, 0, rfl, OwnsB.nil _ _ _, Below.refl _ _⟩
  · have hbel : Below w.heap.size w (w.alloc (.cells #[] 5)) := (Below.refl _ _).alloc (Nat.le_refl _) _
    have hown : OwnsB 5 (w.alloc (.cells #[] 5)) w.heap.size (some ⟨w.heap.size, 0, none⟩) 0 [] := by
      refine ⟨by simp, by simp [bytes], .inr ⟨w.heap.size, 0, _, rfl, Nat.le_refl _, heap_alloc_new w _, Nat.zero_le _, by unfold maxLen; omega, by simp, by simp [bytes]⟩⟩
    have hs : IsBytes (w.alloc (.cells #[] 5)) w.heap.size (some ad) l := (h.more hB).below hbel
    have HB := hid hbel
    have hsz := hbel.size
    have HS := hid hsz
    clear hbel hsz
    go_enter Try.func102, Try.ntmps102
    go_wp2_with (at_builtin; refine wpList_append_bytesN rfl _ _ 32 rfl w.heap.size 5 i0 Try.underlying32 hi hz0 hz1 hz2 (some ⟨w.heap.size, 0, none⟩) 0 [] 0 rfl rfl hown w.heap.size (some ad) c l l.length rfl rfl hn hs l (List.nil_append _) (by omega) HS.out ?_)
    intro A3 c3 w2 hown2 hbel2
    have HB2 := hid (HB.out.trans hbel2)
    clear hown hs hbel2
    go_wp2
    go_ret
    exact ⟨A3, c3, ret_len (by simp), hown2, HB2.out⟩
def Fresh (w : World) (l : List Nat) (e : Ending) (w' : World) : Prop :=
  ∃ g, e = .returned (.pointer (some ⟨g, 0, none⟩)) ∧ w.heap.size ≤ g ∧ (∀ w2 row, w'.grownBy w2 row → (∀ k, row = some k → k < w.heap.size) → Rdr w2 g ⟨l, false⟩) ∧ Below w.heap.size w w'
set_option maxRecDepth 100000 in
set_option maxHeartbeats 400000 in
theorem read_keep (B : Nat) (A : Option Addr) (c : Nat) (l : List Nat) (hl : l.length ≤ 140737488354000) (w : World) (h : IsBytes w B A l) (hB : B ≤ w.heap.size) (hn : A = none → c = 0) :
    Calls Try.prog 77 #[.slice A l.length c] w (Fresh w l) := by
  have HC := hid (sclone_any B A c l hl w h hB hn)
  have hsm := h.small
  clear h hn
  go_enter Try.func77, Try.ntmps77
  go_wp2_with fail
  refine HC.out.mono ?_
  rintro e w1 ⟨A1, c1, rfl, hown, hbel⟩
  have hcap := hown.cap
  have hcap2 := hown.capZ
  have hm : l.length ≤ 9223372036854775807 := by have := hcap2.1; unfold maxLen at this; omega
  have hm2 : c1 ≤ 9223372036854775807 := by have := hcap2.1; unfold maxLen at this; omega
  have hsz := hbel.size
  have hblk := hown.blkLt
  clear HC
  have HR : Hid (∀ A2, (l = [] ∨ A2 = A1) → (A2 = none → l.length = 0) → ∀ w2 row, (w1.alloc (.cells #[.slice A2 l.length l.length, .bool false] 147)).grownBy w2 row → (∀ k, row = some k → k < w.heap.size) → Rdr w2 w1.heap.size ⟨l, false⟩) := by
    intro A2 hA hn2 w2 row hG hr
    have hr1 : some w1.heap.size ≠ row := fun e => by have := hr _ e.symm; omega
    refine ⟨hsm, fun h => (by cases h), A2, l.length, (hG.block w1.heap.size (by simp) hr1).trans (heap_alloc_new w1 _), ?_, Nat.le_refl _, by unfold maxLen; omega, hn2⟩
    rcases hA with rfl | rfl
    · exact IsBytes.nil
    · have h3 : OwnsB 5 w2 w.heap.size A2 c1 l := (hown.alloc _).grown hG hr
      refine ⟨h3.small, fun k hk => ?_⟩
      obtain ⟨b, off, e, _, hc⟩ := h3.reads.cells k hk
      exact ⟨b, off, e, (hblk b (by rw [e]; rfl)).2, hc⟩
  have HB : Hid (∀ o, Below w.heap.size w (w1.alloc o)) := fun o => hbel.alloc hsz o
  have hl0 := fun e => (hcap2.2 e)
  clear hbel hcap2 hown hblk
  rcases A1 with _ | ad
  · have hc0 : c1 = 0 := hl0 rfl
    obtain rfl := hc0
    obtain rfl : l = [] := List.eq_nil_of_length_eq_zero (by omega)
    clear hl0
    go_wp2
    go_ret
    exact ⟨_, rfl, hsz, HR.out none (by simp) (by simp), HB.out _⟩
  · clear hl0
    go_wp2
    go_ret
    exact ⟨_, rfl, hsz, HR.out (some ad) (.inr rfl) (fun h => by cases h), HB.out _⟩
theorem packRead_any (B : Nat) (A : Option Addr) (c : Nat) (l : List Nat) (hl : l.length ≤ 140737488354000) (w : World) (h : IsBytes w B A l) (hB : B ≤ w.heap.size) (hn : A = none → c = 0) :
    Calls Try.prog 77 #[.slice A l.length c] w fun e w' => ∃ g, e = .returned (.pointer (some ⟨g, 0, none⟩)) ∧ w.heap.size ≤ g ∧ Rdr w' g ⟨l, false⟩ ∧ Below w.heap.size w w' :=
  (read_keep B A c l hl w h hB hn).mono fun e w' ⟨g, he, hg, hR, hb⟩ => ⟨g, he, hg, hR w' none (grown_refl _ _) (fun k hk => by cases hk), hb⟩
end Go.Proofs.Ytaeoccpjdjafnaa
namespace Go.Proofs.Ytaeoccpjdjafnaa
open Go.RowKit
set_option maxRecDepth 100000
set_option maxHeartbeats 800000 in
theorem ints_rdr (g : Nat) (s : Pk.St) (w : World) (h : Rdr w g s) (hl : s.rest.length ≤ 140737488352000) :
    Calls Try.prog 126 #[.pointer (some ⟨g, 0, none⟩)] w fun e w' => ∃ A' c', e = .returned (.slice A' (Pk.rdInts s).1.length c') ∧ OwnsI 3 w' w.heap.size A' c' (Pk.rdInts s).1 ∧ Rdr w' g (Pk.rdInts s).2 ∧ w.grownBy w' (some g) := by
  obtain ⟨i0, hi, hz0, hz1, hz2⟩ := info_parts I.info_int
  have HI := hid (int_rdr g s w h)
  have hin := Pk.rdInt_in s h.small
  have hsh := Pk.rdInt_short s
  have hgl := h.lt
  have HBAD := hid (Pk.rdInt_bad s h.ok)
  have HSB := hid (Pk.rdInts_bad s)
  have HSW := hid (Pk.rdInts_wrong s)
  have HSR := hid (Pk.rdInts_right s)
  clear h
  obtain ⟨s1, hs1⟩ : ∃ s1, s1 = (Pk.rdInt s).2 := ⟨_, rfl⟩
  obtain ⟨n, hn⟩ : ∃ n, n = (Pk.rdInt s).1 := ⟨_, rfl⟩
  rw [← hs1, ← hn] at HI HBAD HSW HSR
  rw [← hs1] at HSB
  rw [← hs1] at hsh
  rw [← hn] at hin
  clear hs1 hn
  have hin1 := hin.1
  have hin2 := hin.2
  by_cases hwrong : n < 0 ∨ ((s1.rest.length : Int) / 8) < n
  · have HE := hid (HSW.out hwrong)
    clear HSW HSB HSR HBAD hin
    by_cases hneg : n < 0
    · clear hwrong
      go_enter Try.func126, Try.ntmps126
      go_wp2_with fail
      refine HI.out.mono ?_
      rintro e w1 ⟨rfl, hR, hG⟩
      have HS := hid (spoil_rdr g s1 w1 hR)
      obtain ⟨A, c, h1, _, hc, hm, _⟩ := hR.at_
      have hc0 : w1.cell? ⟨g, 0, none⟩ = some (.slice A s1.rest.length c) := row_cell h1 0
      clear hR h1
      go_wp2_with fail
      refine HS.out.mono ?_
      rintro e w2 ⟨rfl, hR, hG2⟩
      go_wp2_with fail
      go_ret
      rw [HE.out]
      exact ⟨none, 0, rfl, OwnsI.nil _ _ _, hR, hG.trans hG2⟩
    · have hlt : ((s1.rest.length : Int) / 8) < n := by omega
      clear hwrong
      go_enter Try.func126, Try.ntmps126
      go_wp2_with fail
      refine HI.out.mono ?_
      rintro e w1 ⟨rfl, hR, hG⟩
      have HS := hid (spoil_rdr g s1 w1 hR)
      obtain ⟨A, c, h1, _, hc, hm, _⟩ := hR.at_
      have hc0 : w1.cell? ⟨g, 0, none⟩ = some (.slice A s1.rest.length c) := row_cell h1 0
      clear hR h1
      go_wp2_with fail
      refine HS.out.mono ?_
      rintro e w2 ⟨rfl, hR, hG2⟩
      go_wp2_with fail
      go_ret
      rw [HE.out]
      exact ⟨none, 0, rfl, OwnsI.nil _ _ _, hR, hG.trans hG2⟩
  · obtain ⟨m, rfl⟩ : ∃ m : Nat, n = (m : Int) := ⟨n.toNat, by omega⟩
    have hm8 : 8 * m ≤ s1.rest.length := by omega
    have HE : Hid (Pk.rdInts s = (Pk.nums m s1.rest, ⟨s1.rest.drop (8 * m), s1.bad⟩)) := by
      show _ = _
      by_cases hb : s1.bad = true
      · obtain ⟨h0, hg⟩ := HBAD.out hb
        obtain rfl : m = 0 := by omega
        rw [HSB.out hb, hg]
        simp [Pk.gone, Pk.nums]
      · have hb' : s1.bad = false := by simpa using hb
        rw [HSR.out m hb' rfl hm8, hb']
    clear HSW HSB HSR HBAD hin hwrong
    go_enter Try.func126, Try.ntmps126
    go_wp2_with fail
    refine HI.out.mono ?_
    rintro e w1 ⟨rfl, hR, hG⟩
    obtain ⟨A, c, h1, _, hc, hm, _⟩ := hR.at_
    have hc0 : w1.cell? ⟨g, 0, none⟩ = some (.slice A s1.rest.length c) := row_cell h1 0
    clear h1
    go_wp2_with fail
    refine (grow_none m (by omega) w1).mono ?_
    rintro e w2 ⟨A2, c2, rfl, hown, hbel⟩
    have hR2 : Rdr w2 g s1 := hR.below (hbel.mono hR.lt)
    have hG2 : w.grownBy w2 (some g) := grown_then hG (hbel.mono hG.size)
    have hown2 := hown.weaken hG.size
    clear hR hG hown hbel hc0
    go_wp2_with fail
    go_loopw [4, 24] (fun b i wr => ∃ k : Nat, ∃ A5 : Option Addr, ∃ c5 : Nat, k ≤ m ∧ i = .int .i64 k ∧ b = .slice A5 k c5 ∧ OwnsI 3 wr w.heap.size A5 c5 (Pk.nums k s1.rest) ∧ Rdr wr g ⟨s1.rest.drop (8 * k), s1.bad⟩ ∧ w.grownBy wr (some g)) (fun _ i _ => m - (RowKit.intOf i).toNat)
    case atStart => exact ⟨0, A2, c2, by omega, rfl, rfl, by simpa [Pk.nums] using hown2, by simpa using hR2, hG2⟩
    case round =>
      clear hown2 hR2 hG2
      obtain ⟨k, A5, c5, hk, rfl, rfl, hown, hR, hG⟩ := hrel
      by_cases hlt : k < m
      · have C := int_rdr g ⟨s1.rest.drop (8 * k), s1.bad⟩ wr hR
        rw [Pk.rdInt_drop s1.rest s1.bad k m hlt hm8] at C
        have hv := Pk.sgn_in _ (Pk.take_num_lt (s1.rest.drop (8 * k)) hR.small)
        have HC := hid C
        obtain ⟨v, hveq⟩ : ∃ v, v = Pk.sgn (Pk.num ((s1.rest.drop (8 * k)).take 8)) := ⟨_, rfl⟩
        rw [← hveq] at HC hv
        have hnum : Pk.nums k s1.rest ++ [v] = Pk.nums (k + 1) s1.rest := by rw [hveq, Pk.nums_snoc]
        have HN := hid hnum
        have hgw := hG.size
        clear C hR hnum hveq
        go_wp2_with fail
        refine HC.out.mono ?_
        rintro e w3 ⟨rfl, hR3, hG3⟩
        have hown3 : OwnsI 3 w3 w.heap.size A5 c5 (Pk.nums k s1.rest) := hown.grown hG3 (fun j hj => by injection hj with hj; omega)
        have hG4 : w.grownBy w3 (some g) := hG.trans hG3
        have hsz := hG4.size
        clear hown hG hG3
        go_wp2_with (at_builtin; refine wpList_append_intN rfl _ _ 29 rfl w.heap.size 3 i0 Try.underlying29 hi hz0 hz1 hz2 A5 c5 (Pk.nums k s1.rest) k (Pk.nums_length _ _) rfl (hown3.alloc _) ⟨w3.heap.size, 0, none⟩ 1 v hv rfl ?c1 (Pk.nums (k + 1) s1.rest) HN.out (by omega) ?c2 ?_)
        case c1 => simp
        case c2 => simp; omega
        intro A6 c6 w4 hown4 hbel4
        have hb4 : Below w.heap.size w3 w4 := ((Below.refl _ _).alloc hsz _).trans hbel4
        have HO := hid (And.intro hown4 (And.intro (hR3.below (hb4.mono (by omega))) (grown_then hG4 hb4)))
        clear hown4 hbel4 hb4 hown3 hG4 hR3
        go_wp2_with fail
        go_roundw
        case rel => exact ⟨k + 1, A6, c6, by omega, by go_num, rfl, HO.out.1, HO.out.2.1, HO.out.2.2⟩
        case measure => simp [RowKit.intOf] <;> omega
      · obtain rfl : k = m := by omega
        clear hlt hk
        go_wp2_with fail
        go_ret
        rw [HE.out]
        exact ⟨A5, c5, ret_len (Pk.nums_length _ _).symm, hown, hR, hG⟩
end Go.Proofs.Ytaeoccpjdjafnaa
namespace Go.Proofs.Ytaeoccpjdjafnaa.Im
open Go.RowKit
open Rl (En Lg)
open Qu (Cf)
set_option maxRecDepth 100000
set_option linter.unusedVariables false
class Lo where
  n : Nat
set_option linter.unusedSectionVars false
variable [Lo]
structure Kq (B : Nat) (w w' : World) : Prop where
  os : w'.os = w.os
  tape : w'.tape = w.tape
  output : w'.output = w.output
  size : w.heap.size ≤ w'.heap.size
  keep : ∀ (k : Nat) (cs : Array Value) (t : TypeId) (fr : Nat × Nat), k < B → w.heap[k]? = some (.cells cs t fr) → t ≠ 147 → t ≠ 119 → w'.heap[k]? = some (.cells cs t fr)
  low : ∀ k, k < Lo.n → k < B → w'.heap[k]? = w.heap[k]?
namespace Kq
variable {B B' : Nat} {a b c : World}
theorem refl (B : Nat) (a : World) : Kq B a a := ⟨rfl, rfl, rfl, Nat.le_refl _, fun _ _ _ _ _ h _ _ => h, fun _ _ _ => rfl⟩
theorem trans (h : Kq B a b) (h' : Kq B b c) : Kq B a c := ⟨h'.os.trans h.os, h'.tape.trans h.tape, h'.output.trans h.output, Nat.le_trans h.size h'.size, fun k cs t fr hk h1 h2 h3 => h'.keep k cs t fr hk (h.keep k cs t fr hk h1 h2 h3) h2 h3, fun k h1 h2 => (h'.low k h1 h2).trans (h.low k h1 h2)⟩
theorem mono (h : Kq B a b) (hB : B' ≤ B) : Kq B' a b := ⟨h.os, h.tape, h.output, h.size, fun k cs t fr hk => h.keep k cs t fr (by omega), fun k h1 h2 => h.low k h1 (by omega)⟩
theorem then_ (h : Kq a.heap.size a b) (h' : Kq b.heap.size b c) : Kq a.heap.size a c := h.trans (h'.mono h.size)
theorem drewN (h : Kq B a b) (n : Nat) : Kq B a (b.drewN n) := ⟨h.os, h.tape, h.output, h.size, h.keep, h.low⟩
theorem drew (h : Kq B a b) : Kq B a b.drew := ⟨h.os, h.tape, h.output, h.size, h.keep, h.low⟩
theorem ofBelow (h : Below B a b) : Kq B a b := ⟨h.os, h.tape, h.output, h.size, fun k cs t fr hk h1 _ _ => (h.block k hk).trans h1, fun k _ hk => h.block k hk⟩
theorem ofGrown {g : Nat} {cs : Array Value} {t : TypeId} {fr : Nat × Nat} (hg : a.heap[g]? = some (.cells cs t fr)) (ht : t = 147 ∨ t = 119) (hl : Lo.n ≤ g) (h : a.grownBy b (some g)) : Kq a.heap.size a b :=
  ⟨h.os, h.tape, h.output, h.size, fun k cs' t' fr' hk h1 h2 h3 => (h.block k hk (fun e => by
    injection e with e
    subst e
    rw [h1] at hg
    have := (Obj.cells.inj (Option.some.inj hg)).2.1
    rcases ht with ht | ht
    · exact h2 (this.trans ht)
    · exact h3 (this.trans ht))).trans h1, fun k h1 h2 => h.block k h2 (fun e => by injection e with e; omega)⟩
theorem ofRow {k : Nat} (h : a.grownBy b (some k)) (hk : B ≤ k) (hB : B ≤ a.heap.size) : Kq B a b := ofBelow (below_grown h hB (fun j e => by injection e with e; omega))
theorem row (h : Kq a.heap.size a b) {base n size : Nat} {e : TypeId} {v : Value} {xs : List Value} (hr : a.ownsRow base e size v n xs) (h1 : e ≠ 147) (h2 : e ≠ 119) : b.ownsRow base e size v n xs := by
  refine ⟨hr.1, ?_⟩
  rcases hr.2 with h0 | ⟨g, cap, cur, q1, q2, q3, q4⟩
  · exact .inl h0
  · exact .inr ⟨g, cap, cur, q1, q2, h.keep g _ _ _ (row_lt q3) q3 h1 h2, q4⟩
theorem ownB (h : Kq a.heap.size a b) {base c : Nat} {A : Option Addr} {l : List Nat} (ho : OwnsB 5 a base A c l) : OwnsB 5 b base A c l := ⟨ho.small, h.row ho.row (by decide) (by decide)⟩
theorem ownI (h : Kq a.heap.size a b) {base c : Nat} {A : Option Addr} {l : List Int} (ho : OwnsI 3 a base A c l) : OwnsI 3 b base A c l := ⟨ho.small, h.row ho.row (by decide) (by decide)⟩
end Kq
structure Ro (w : World) (G g : Nat) (s : Pk.St) : Prop where
  rdr : Rdr w g s
  ord : g < G ∨ s = Pk.gone
  lo : Lo.n ≤ g
structure Rt (w : World) (G g : Nat) (s : Pk.St) : Prop where
  box : w.heap[G]? = some (.cells #[.pointer (some ⟨g, 0, none⟩)] 119 (0, 0))
  ro : Ro w G g s
  lo : Lo.n ≤ G
theorem Rdr.tag {w : World} {g : Nat} {s : Pk.St} (h : Rdr w g s) {k : Nat} {cs : Array Value} {t : TypeId} {fr : Nat × Nat} (hk : w.heap[k]? = some (.cells cs t fr)) (ht : t ≠ 147) : k ≠ g := fun e => by
  obtain ⟨A, c, h1, _⟩ := h.at_
  rw [e, h1] at hk
  exact ht (Obj.cells.inj (Option.some.inj hk)).2.1.symm
namespace Ro
variable {w w' : World} {G g : Nat} {s : Pk.St}
theorem below (h : Ro w G g s) (hb : Below w.heap.size w w') : Ro w' G g s := ⟨h.rdr.below (hb.mono h.rdr.lt), h.ord, h.lo⟩
theorem drew (h : Ro w G g s) : Ro w.drew G g s := ⟨h.rdr.drewN 1, h.ord, h.lo⟩
theorem fill (h : Ro w G g s) {k : Nat} (hg : w.grownBy w' (some k)) (hG : G < w.heap.size) (hk : G < k) (hne : k ≠ g) : Ro w' G g s := by
  refine ⟨?_, h.ord, h.lo⟩
  rcases h.ord with ho | ho
  · exact h.rdr.below (below_grown hg (by have := h.rdr.lt; omega) (fun j e => by injection e with e; omega))
  · obtain ⟨A, c, h1, h2, h3⟩ := h.rdr.at_
    subst ho
    have hn : ([] : List Nat).length = 0 := rfl
    refine ⟨h.rdr.small, h.rdr.ok, A, c, (hg.block g h.rdr.lt (fun e => by injection e with e; exact hne e.symm)).trans h1, ⟨h2.small, fun j hj => by exact absurd hj (Nat.not_lt_zero _)⟩, h3⟩
end Ro
namespace Rt
variable {w w' : World} {G g : Nat} {s : Pk.St}
theorem cell (h : Rt w G g s) : w.cell? ⟨G, 0, none⟩ = some (.pointer (some ⟨g, 0, none⟩)) := row_cell h.box 0
theorem free (h : Rt w G g s) : w.frozen? ⟨G, 0, none⟩ = false := row_free h.box 0
theorem lt (h : Rt w G g s) : G < w.heap.size := row_lt h.box
theorem ne (h : Rt w G g s) : G ≠ g := Rdr.tag h.ro.rdr h.box (by decide)
theorem below (h : Rt w G g s) (hb : Below w.heap.size w w') : Rt w' G g s := ⟨(hb.block G h.lt).trans h.box, h.ro.below hb, h.lo⟩
theorem drew (h : Rt w G g s) : Rt w.drew G g s := ⟨h.box, h.ro.drew, h.lo⟩
theorem fill (h : Rt w G g s) {k : Nat} (hg : w.grownBy w' (some k)) (hk : G < k) (hne : k ≠ g) : Rt w' G g s :=
  ⟨(hg.block G h.lt (fun e => by injection e with e; omega)).trans h.box, h.ro.fill hg h.lt hk hne, h.lo⟩
theorem step (h : Rt w G g s) {s' : Pk.St} (hr : Rdr w' g s') (hg : w.grownBy w' (some g)) (hgone : s = Pk.gone → s' = Pk.gone) : Rt w' G g s' ∧ Kq w.heap.size w w' := by
  obtain ⟨A, c, h1, _⟩ := h.ro.rdr.at_
  exact ⟨⟨(hg.block G h.lt (fun e => by injection e with e; exact h.ne e)).trans h.box, ⟨hr, h.ro.ord.imp id hgone, h.ro.lo⟩, h.lo⟩, Kq.ofGrown h1 (.inl rfl) h.ro.lo hg⟩
end Rt
structure Rk (G g n : Nat) (s' : Pk.St) (w w' : World) : Prop where
  at_ : ∃ g', Rt w' G g' s' ∧ (g' = g ∨ s' = Pk.gone)
  old : ∃ s0, Ro w' G g s0 ∧ s0.rest.length ≤ n
  kq : Kq w.heap.size w w'
theorem Rk.of {G g n : Nat} {s s' : Pk.St} {w w' : World} (h : Rt w' G g s') (hn : s'.rest.length ≤ n) (hk : Kq w.heap.size w w') : Rk G g n s' w w' := ⟨⟨g, h, .inl rfl⟩, ⟨s', h.ro, hn⟩, hk⟩
set_option maxHeartbeats 800000 in
theorem spoilR_any (G g n : Nat) (s : Pk.St) (hn : s.rest.length ≤ n) (w : World) (h : Rt w G g s) :
    Calls Try.prog 105 #[.pointer (some ⟨G, 0, none⟩)] w fun e w' => e = .returned (.tuple #[]) ∧ Rk G g n Pk.gone w w' := by
  have HP : Hid (Calls Try.prog 77 #[.slice none 0 0] w fun e w' => ∃ g, e = .returned (.pointer (some ⟨g, 0, none⟩)) ∧ w.heap.size ≤ g ∧ Rdr w' g ⟨[], false⟩ ∧ Below w.heap.size w w') := hid (packRead_any 0 none 0 [] (Nat.zero_le _) w IsBytes.nil (Nat.zero_le _) (fun _ => rfl))
  have H := hid h
  have HN := hid hn
  clear h hn
  go_enter Try.func105, Try.ntmps105
  go_wp2_with fail
  refine HP.out.mono ?_
  rintro e w1 ⟨g1, rfl, hg1, hr1, hb1⟩
  have hR1 := H.out.below hb1
  have hc := hR1.cell
  have hf := hR1.free
  have hG := H.out.lt
  obtain ⟨w2, hw2⟩ : ∃ w2, w2 = w1.setCell ⟨G, 0, none⟩ (.pointer (some ⟨g1, 0, none⟩)) := ⟨_, rfl⟩
  have hg2 : w1.grownBy w2 (some G) := by rw [hw2]; exact grown_setCell _ _ _ _
  have hbox : w2.heap[G]? = some (.cells #[.pointer (some ⟨g1, 0, none⟩)] 119 (0, 0)) := by rw [hw2]; exact row_set hR1.box 0 _
  have hc2 := row_cell hbox 0
  have hcc : w2.cell? ⟨G, 0, none⟩ = some (.pointer (some ⟨g1, 0, none⟩)) := hc2
  have hr2 : Rdr w2 g1 ⟨[], false⟩ := by
    obtain ⟨A, c, q1, q2, q3⟩ := hr1.at_
    exact ⟨hr1.small, hr1.ok, A, c, (hg2.block g1 hr1.lt (fun e => by injection e with e; omega)).trans q1, ⟨q2.small, fun j hj => absurd hj (Nat.not_lt_zero _)⟩, q3⟩
  have ho2 : Ro w2 G g s := by
    have hro := hR1.ro
    refine ⟨?_, hro.ord, hro.lo⟩
    rcases hro.ord with ho | ho
    · exact hro.rdr.below (below_grown hg2 (by have := hro.rdr.lt; omega) (fun j e => by injection e with e; omega))
    · obtain ⟨A, c, q1, q2, q3⟩ := hro.rdr.at_
      subst ho
      exact ⟨hro.rdr.small, hro.rdr.ok, A, c, (hg2.block g hro.rdr.lt (fun e => by injection e with e; exact hR1.ne e.symm)).trans q1, ⟨q2.small, fun j hj => absurd hj (Nat.not_lt_zero _)⟩, q3⟩
  have HI := hid (int_rdr g1 ⟨[], false⟩ w2 hr2)
  have HK : Hid (Kq w.heap.size w w2 ∧ (w2.heap[G]? = some (.cells #[.pointer (some ⟨g1, 0, none⟩)] 119 (0, 0)) ∧ (Ro w2 G g s ∧ (w.heap.size ≤ g1 ∧ g1 < w2.heap.size)))) :=
    hid ⟨(Kq.ofBelow hb1).trans ((Kq.ofGrown hR1.box (.inr rfl) hR1.lo hg2).mono hb1.size), hbox, ho2, hg1, hr2.lt⟩
  have HG := hid hr2
  clear hg2 hbox hc2 hr2 ho2 hr1 hb1 hR1 hG
  go_wp2_with fail
  rw [← hw2]
  go_wp2_with fail
  refine HI.out.mono ?_
  rintro e w3 ⟨rfl, hr3, hg3⟩
  have HF : Hid (Rk G g n Pk.gone w w3) := hid (by
    obtain ⟨k1, k2, k3, k4, k5⟩ := HK.out
    obtain ⟨A, c, q1, _⟩ := HG.out.at_
    have hG : G < w2.heap.size := row_lt k2
    have hlt := H.out.lt
    have hgg : g < w.heap.size := H.out.ro.rdr.lt
    have hr3' : Rdr w3 g1 Pk.gone := hr3
    have hlo := H.out.lo
    refine ⟨⟨g1, ⟨(hg3.block G hG (fun e => by injection e with e; omega)).trans k2, ⟨hr3', .inr rfl, by omega⟩, hlo⟩, .inr rfl⟩, ⟨s, ?_, HN.out⟩, k1.trans ((Kq.ofGrown q1 (.inl rfl) (by omega) hg3).mono k1.size)⟩
    exact k3.fill hg3 hG (by omega) (by omega))
  clear hr3 hg3
  go_wp2_with fail
  go_end0
  exact ⟨rfl, HF.out⟩
end Go.Proofs.Ytaeoccpjdjafnaa.Im
namespace Go.Proofs.Ytaeoccpjdjafnaa.Im
open Go.RowKit
open Rl (En Lg)
open Qu (Cf)
set_option linter.unusedSectionVars false
variable [Lo]
set_option maxRecDepth 100000
set_option linter.unusedVariables false
attribute [local go_sem ↓] loadAt_hard storeAt_hard loadAt_vote storeAt_vote loadAt_change storeAt_change
theorem there_row {w : World} {b : Nat} {cs : Array Value} {t : TypeId} (h : w.heap[b]? = some (.cells cs t (0, 0))) : w.there b 0 cs.size := fun j hj => by
  rw [Nat.zero_add]
  exact ⟨by rw [row_cell h j]; simp [hj], row_free h j⟩
structure Sp (w : World) (G g R : Nat) (cs : Array Value) (t : TypeId) (s : Pk.St) (W : World) : Prop where
  rt : Rt W G g s
  kq : Kq w.heap.size w W
  row : W.heap[R]? = some (.cells cs t (0, 0))
theorem setCells_row {R : Nat} {t : TypeId} : ∀ (vs : List Value) (W : World) (cs : Array Value) (o : Nat), W.heap[R]? = some (.cells cs t (0, 0)) → ∃ cs', (W.setCells R o vs).heap[R]? = some (.cells cs' t (0, 0)) ∧ cs'.size = cs.size
  | [], W, cs, o, h => ⟨cs, h, rfl⟩
  | v :: r, W, cs, o, h => by
    obtain ⟨cs', h1, h2⟩ := setCells_row r (W.setCell ⟨R, o, none⟩ v) _ (o + 1) (row_set h o v)
    exact ⟨cs', h1, by rw [h2]; simp⟩
theorem setCells_all {R : Nat} {t : TypeId} {W : World} {cs : Array Value} (h : W.heap[R]? = some (.cells cs t (0, 0))) (L : List Value) (hL : L.length = cs.size) : (W.setCells R 0 L).heap[R]? = some (.cells L.toArray t (0, 0)) := by
  obtain ⟨cs', h1, h2⟩ := setCells_row L W cs 0 h
  have hr := World.rangeAt_setCells_same W R 0 L (hL ▸ there_row h)
  have e : cs' = L.toArray := by
    apply Array.ext_getElem?
    intro j
    by_cases hj : j < L.length
    · have q := hr j L[j] (List.getElem?_eq_getElem hj)
      rw [Nat.zero_add, row_cell h1 j] at q
      rw [q]; simp [hj]
    · rw [Array.getElem?_eq_none (by omega)]; simp; omega
  rw [h1, e]
namespace Sp
variable {w W W' : World} {G g R : Nat} {cs : Array Value} {t : TypeId} {s s' : Pk.St}
theorem step (h : Sp w G g R cs t s W) (hr : Rdr W' g s') (hg : W.grownBy W' (some g)) (hgone : s = Pk.gone → s' = Pk.gone) (ht : t ≠ 147 := by decide) : Sp w G g R cs t s' W' := by
  obtain ⟨h1, h2⟩ := h.rt.step hr hg hgone
  exact ⟨h1, h.kq.trans (h2.mono h.kq.size), (hg.block R (row_lt h.row) (fun e => by injection e with e; exact Rdr.tag h.rt.ro.rdr h.row ht e)).trans h.row⟩
theorem start (h : Rt w G g s) (w1 : World) (hw1 : w1 = w.alloc (.cells cs t)) : Sp w G g w.heap.size cs t s w1.drew ∧ Sp w G g w.heap.size cs t s w1 := by
  have b1 : Below w.heap.size w w1 := by rw [hw1]; exact (Below.refl _ w).alloc (Nat.le_refl _) _
  have r1 : w1.heap[w.heap.size]? = some (.cells cs t (0, 0)) := by rw [hw1]; exact heap_alloc_new w _
  exact ⟨⟨(h.below b1).drew, (Kq.ofBelow b1).drew, r1⟩, ⟨h.below b1, Kq.ofBelow b1, r1⟩⟩
theorem facts (h : Sp w G g R cs t s W) (n : Nat) (hn : cs.size = n) : W.cell? ⟨G, 0, none⟩ = some (.pointer (some ⟨g, 0, none⟩)) ∧ W.there R 0 n := ⟨h.rt.cell, hn ▸ there_row h.row⟩
theorem done (h : Sp w G g R cs t s W) (hR : R = w.heap.size) (hG : G < w.heap.size) (L : List Value) (hL : L.length = cs.size) (ht : t ≠ 147 := by decide) :
    Rt (W.setCells R 0 L) G g s ∧ Kq w.heap.size w (W.setCells R 0 L) ∧ (W.setCells R 0 L).heap[R]? = some (.cells L.toArray t (0, 0)) := by
  have hT := turned_setCells R L W 0
  have hg : W.grownBy (W.setCells R 0 L) (some R) := ⟨hT.os, hT.tape, hT.output, hT.size, fun k hk hne => hT.block k hk (fun e => hne (by rw [e]))⟩
  exact ⟨h.rt.fill hg (by omega) (Rdr.tag h.rt.ro.rdr h.row ht), h.kq.trans (Kq.ofRow hg (by omega) h.kq.size), setCells_all h.row L hL⟩
end Sp
theorem cell_set {W : World} {R G : Nat} {v : Value} (h : W.cell? ⟨G, 0, none⟩ = some v) (hne : G ≠ R) (L : List Value) : (W.setCells R 0 L).cell? ⟨G, 0, none⟩ = some v :=
  (World.cell?_setCells_out R L 0 W _ (fun e => absurd e hne)).trans h
theorem stThere {t : TypeId} {n : Nat} (hi : (Try.prog.info? t).map (·.size) = some n) (W : World) (R : Nat) (cs : Array Value) (ht : W.there R 0 n) (hn : cs.size = n) (h1 : cs.all (·.oneCell') = true) : (stX t (.pointer (some ⟨R, 0, none⟩)) (.agg cs)).run Try.prog W = .ok () (W.setCells R 0 cs.toList) :=
  run_storeAt_mid W R 0 t cs (hn ▸ ht) (by rw [hi, hn]) h1
theorem rdV_eq (s : Pk.St) : (rdV s).1 = ⟨(Pk.rdInt s).1, (Pk.rdInt (Pk.rdInt s).2).1, (Pk.rdInt (Pk.rdInt (Pk.rdInt s).2).2).1, (Pk.rdInt (Pk.rdInt (Pk.rdInt (Pk.rdInt s).2).2).2).1, (Pk.rdInt (Pk.rdInt (Pk.rdInt (Pk.rdInt (Pk.rdInt s).2).2).2).2).1⟩ ∧ (rdV s).2 = (Pk.rdInt (Pk.rdInt (Pk.rdInt (Pk.rdInt (Pk.rdInt s).2).2).2).2).2 := by
  simp only [rdV, rdM, rdP, and_self]
set_option maxHeartbeats 3200000 in
theorem rvote_any (G g : Nat) (s : Pk.St) (w : World) (h : Rt w G g s) :
    Calls Try.prog 82 #[.pointer (some ⟨G, 0, none⟩)] w fun e w' => e = .returned (.agg #[.int .i64 ((rdV s).1).x, .int .i64 ((rdV s).1).p, .int .i64 ((rdV s).1).r, .int .i64 ((rdV s).1).b, .int .i64 ((rdV s).1).v]) ∧ Rt w' G g (rdV s).2 ∧ Kq w.heap.size w w' := by
  obtain ⟨R, hR⟩ : ∃ R, R = w.heap.size := ⟨_, rfl⟩
  obtain ⟨w1, hw1⟩ : ∃ w1, w1 = w.alloc (.cells #[.int .i64 0, .int .i64 0, .int .i64 0, .int .i64 0, .int .i64 0] 34) := ⟨_, rfl⟩
  obtain ⟨p1, p0⟩ := Sp.start h w1 hw1
  rw [← hR] at p1 p0
  obtain ⟨v1, hv1⟩ : ∃ v, v = (Pk.rdInt s).1 := ⟨_, rfl⟩
  obtain ⟨s1, hs1⟩ : ∃ x, x = (Pk.rdInt s).2 := ⟨_, rfl⟩
  obtain ⟨v2, hv2⟩ : ∃ v, v = (Pk.rdInt s1).1 := ⟨_, rfl⟩
  obtain ⟨s2, hs2⟩ : ∃ x, x = (Pk.rdInt s1).2 := ⟨_, rfl⟩
  obtain ⟨v3, hv3⟩ : ∃ v, v = (Pk.rdInt s2).1 := ⟨_, rfl⟩
  obtain ⟨s3, hs3⟩ : ∃ x, x = (Pk.rdInt s2).2 := ⟨_, rfl⟩
  obtain ⟨v4, hv4⟩ : ∃ v, v = (Pk.rdInt s3).1 := ⟨_, rfl⟩
  obtain ⟨s4, hs4⟩ : ∃ x, x = (Pk.rdInt s3).2 := ⟨_, rfl⟩
  obtain ⟨v5, hv5⟩ : ∃ v, v = (Pk.rdInt s4).1 := ⟨_, rfl⟩
  obtain ⟨s5, hs5⟩ : ∃ x, x = (Pk.rdInt s4).2 := ⟨_, rfl⟩
  have HV : Hid ((rdV s).1 = ⟨v1, v2, v3, v4, v5⟩ ∧ (rdV s).2 = s5) := hid (by rw [hs5, hv5, hs4, hv4, hs3, hv3, hs2, hv2, hs1, hv1]; exact rdV_eq s)
  have ST : Hid (∀ (S0 S1 : Pk.St) (V0 : Int), V0 = (Pk.rdInt S0).1 → S1 = (Pk.rdInt S0).2 → ∀ W, Sp w G g R #[.int .i64 0, .int .i64 0, .int .i64 0, .int .i64 0, .int .i64 0] 34 S0 W → Calls Try.prog 103 #[.pointer (some ⟨g, 0, none⟩)] W fun e w' => e = .returned (.int .i64 V0) ∧ Sp w G g R #[.int .i64 0, .int .i64 0, .int .i64 0, .int .i64 0, .int .i64 0] 34 S1 w') := hid (by
    rintro S0 S1 V0 rfl rfl W hW
    refine (int_rdr g S0 W hW.rt.ro.rdr).mono ?_
    rintro e w' ⟨rfl, hr, hg⟩
    exact ⟨rfl, hW.step hr hg (fun e => by subst e; rfl)⟩)
  have E1 := hid (And.intro hv1 hs1)
  have E2 := hid (And.intro hv2 hs2)
  have E3 := hid (And.intro hv3 hs3)
  have E4 := hid (And.intro hv4 hs4)
  have E5 := hid (And.intro hv5 hs5)
  have P1 := hid p1
  have HG := hid (And.intro hR h.lt)
  have NE : G ≠ R := by have := h.lt; omega
  obtain ⟨c0, t0⟩ := p0.facts 5 rfl
  obtain ⟨c1, t1⟩ := p1.facts 5 rfl
  have STV : ∀ W, W.there R 0 5 → (stX 34 (.pointer (some ⟨R, 0, none⟩)) (.agg #[.int .i64 v1, .int .i64 v2, .int .i64 v3, .int .i64 v4, .int .i64 v5])).run Try.prog W = .ok () (W.setCells R 0 [.int .i64 v1, .int .i64 v2, .int .i64 v3, .int .i64 v4, .int .i64 v5]) := fun W hW => stThere info_vote W R _ hW rfl (by simp [Value.oneCell'])
  rw [HV.out.1, HV.out.2]
  clear p1 p0 hv1 hs1 hv2 hs2 hv3 hs3 hv4 hs4 hv5 hs5 h
  go_enter Try.func82, Try.ntmps82
  go_wp2_with fail
  rw [← hR, ← hw1]
  clear hw1 hR
  go_region_held3 (fun W => W.cell? ⟨G, 0, none⟩ = some (.pointer (some ⟨g, 0, none⟩)) ∧ W.there R 0 5)
    (first | exact ⟨cell_set f6.1 NE _, World.there_setCells f6.2 _ _ _⟩ | with_reducible exact f6 | with_reducible exact f5 | with_reducible exact f4 | with_reducible exact f3 | with_reducible exact f2 | exact ⟨c1, t1⟩ | exact ⟨c0, t0⟩ | fail)
    (first
      | (go_at_call 103; refine (ST.out s4 s5 v5 E5.out.1 E5.out.2 _ P5.out).mono ?_; rintro e w6 ⟨rfl, q6⟩; have f6 := q6.facts 5 rfl; have P6 := hid q6; clear q6)
      | (go_at_call 103; refine (ST.out s3 s4 v4 E4.out.1 E4.out.2 _ P4.out).mono ?_; rintro e w5 ⟨rfl, q5⟩; have f5 := q5.facts 5 rfl; have P5 := hid q5; clear q5)
      | (go_at_call 103; refine (ST.out s2 s3 v3 E3.out.1 E3.out.2 _ P3.out).mono ?_; rintro e w4 ⟨rfl, q4⟩; have f4 := q4.facts 5 rfl; have P4 := hid q4; clear q4)
      | (go_at_call 103; refine (ST.out s1 s2 v2 E2.out.1 E2.out.2 _ P2.out).mono ?_; rintro e w3 ⟨rfl, q3⟩; have f3 := q3.facts 5 rfl; have P3 := hid q3; clear q3)
      | (go_at_call 103; refine (ST.out s s1 v1 E1.out.1 E1.out.2 _ P1.out).mono ?_; rintro e w2 ⟨rfl, q2⟩; have f2 := q2.facts 5 rfl; have P2 := hid q2; clear q2))
  all_goals
    have HF := hid (P6.out.done HG.out.1 HG.out.2 [.int .i64 v1, .int .i64 v2, .int .i64 v3, .int .i64 v4, .int .i64 v5] rfl)
    go_wp2_with fail
    refine bodyPost_ret (results_cell_row rfl _ _ R _ _ _ _ rfl HF.out.2.2 Try.underlying34 rfl (by rw [info_vote]; rfl)) rfl ?_
    exact ⟨rfl, HF.out.1, HF.out.2.1⟩
end Go.Proofs.Ytaeoccpjdjafnaa.Im
namespace Go.Proofs.Ytaeoccpjdjafnaa.Im
open Go.RowKit
open Rl (En Lg)
open Qu (Cf)
set_option linter.unusedSectionVars false
variable [Lo]
set_option maxRecDepth 100000
set_option linter.unusedVariables false
theorem storeAt_entry (a v : Value) : Instr.storeAt 77 a v = stX 77 a v := rfl
theorem storeAt_conf (a v : Value) : Instr.storeAt 31 a v = stX 31 a v := rfl
attribute [local go_sem ↓] storeAt_entry storeAt_conf
theorem info_entry3 : (Try.prog.info? 77).map (·.size) = some 3 := by kernel_rfl
theorem info_conf3 : (Try.prog.info? 31).map (·.size) = some 3 := by kernel_rfl
section
variable {w W : World} {G g R : Nat} {cs : Array Value} {t : TypeId} {S0 S1 : Pk.St}
theorem spInt (h : Sp w G g R cs t S0 W) (V0 : Int) (hv : V0 = (Pk.rdInt S0).1) (hs : S1 = (Pk.rdInt S0).2) (ht : t ≠ 147 := by decide) :
    Calls Try.prog 103 #[.pointer (some ⟨g, 0, none⟩)] W fun e w' => e = .returned (.int .i64 V0) ∧ Sp w G g R cs t S1 w' := by
  subst hv; subst hs
  refine (int_rdr g S0 W h.rt.ro.rdr).mono ?_
  rintro e w' ⟨rfl, hr, hg⟩
  exact ⟨rfl, h.step hr hg (fun e => by subst e; rfl) ht⟩
theorem spBlob (h : Sp w G g R cs t S0 W) (hl : S0.rest.length ≤ 140737488352000) (D : List Nat) (n : Nat) (hn : n = D.length) (hv : D = (Pk.rdBlob S0).1) (hs : S1 = (Pk.rdBlob S0).2) (ht : t ≠ 147 := by decide) :
    Calls Try.prog 109 #[.pointer (some ⟨g, 0, none⟩)] W fun e w' => ∃ A c, e = .returned (.slice A n c) ∧ OwnsB 5 w' W.heap.size A c D ∧ Sp w G g R cs t S1 w' := by
  subst hn; subst hv; subst hs
  refine (blob_rdr g S0 W h.rt.ro.rdr (by omega)).mono ?_
  rintro e w' ⟨A, c, rfl, ho, hr, hg⟩
  exact ⟨A, c, rfl, ho, h.step hr hg (fun e => by subst e; rfl) ht⟩
theorem spInts (h : Sp w G g R cs t S0 W) (hl : S0.rest.length ≤ 140737488352000) (D : List Int) (n : Nat) (hn : n = D.length) (hv : D = (Pk.rdInts S0).1) (hs : S1 = (Pk.rdInts S0).2) (ht : t ≠ 147 := by decide) :
    Calls Try.prog 126 #[.pointer (some ⟨g, 0, none⟩)] W fun e w' => ∃ A c, e = .returned (.slice A n c) ∧ OwnsI 3 w' W.heap.size A c D ∧ Sp w G g R cs t S1 w' ∧ W.grownBy w' (some g) := by
  subst hn; subst hv; subst hs
  refine (ints_rdr g S0 W h.rt.ro.rdr (by omega)).mono ?_
  rintro e w' ⟨A, c, rfl, ho, hr, hg⟩
  exact ⟨A, c, rfl, ho, h.step hr hg (fun e => by subst e; rfl) ht, hg⟩
theorem Sp.grown (h : Sp w G g R cs t S0 W) (L : List Value) : W.grownBy (W.setCells R 0 L) (some R) := by
  have hT := turned_setCells R L W 0
  exact ⟨hT.os, hT.tape, hT.output, hT.size, fun k hk hne => hT.block k hk (fun e => hne (by rw [e]))⟩
end
theorem rdE_eq (s : Pk.St) : (rdE s).1 = ⟨(Pk.rdInt s).1, (Pk.rdInt (Pk.rdInt s).2).1, (Pk.rdBlob (Pk.rdInt (Pk.rdInt s).2).2).1⟩ ∧ (rdE s).2 = (Pk.rdBlob (Pk.rdInt (Pk.rdInt s).2).2).2 := by
  simp only [rdE, rdM, rdP, and_self]
theorem rdCf_eq (s : Pk.St) : (rdCf s).1 = ⟨(Pk.rdInts s).1, (Pk.rdInts (Pk.rdInts s).2).1, (Pk.rdInts (Pk.rdInts (Pk.rdInts s).2).2).1⟩ ∧ (rdCf s).2 = (Pk.rdInts (Pk.rdInts (Pk.rdInts s).2).2).2 := by
  simp only [rdCf, rdM, rdP, and_self]
set_option maxHeartbeats 3200000 in
theorem rentry_any (G g : Nat) (s : Pk.St) (hl : s.rest.length ≤ 140737488352000) (w : World) (h : Rt w G g s) :
    Calls Try.prog 125 #[.pointer (some ⟨G, 0, none⟩)] w fun e w' => ∃ A c n, e = .returned (.agg #[.int .i64 (rdE s).1.t, .int .i64 (rdE s).1.k, .slice A n c]) ∧ n = (rdE s).1.d.length ∧ Rt w' G g (rdE s).2 ∧ Kq w.heap.size w w' ∧ OwnsB 5 w' w.heap.size A c (rdE s).1.d := by
  obtain ⟨R, hR⟩ : ∃ R, R = w.heap.size := ⟨_, rfl⟩
  obtain ⟨w1, hw1⟩ : ∃ w1, w1 = w.alloc (.cells #[.int .i64 0, .int .i64 0, .slice none 0 0] 77) := ⟨_, rfl⟩
  obtain ⟨p1, p0⟩ := Sp.start h w1 hw1
  rw [← hR] at p1 p0
  have q1 := Pk.rdInt_short s
  have q2 := Pk.rdInt_short (Pk.rdInt s).2
  obtain ⟨v1, hv1⟩ : ∃ v, v = (Pk.rdInt s).1 := ⟨_, rfl⟩
  obtain ⟨s1, hs1⟩ : ∃ x, x = (Pk.rdInt s).2 := ⟨_, rfl⟩
  obtain ⟨v2, hv2⟩ : ∃ v, v = (Pk.rdInt s1).1 := ⟨_, rfl⟩
  obtain ⟨s2, hs2⟩ : ∃ x, x = (Pk.rdInt s1).2 := ⟨_, rfl⟩
  obtain ⟨D, hD⟩ : ∃ v, v = (Pk.rdBlob s2).1 := ⟨_, rfl⟩
  obtain ⟨n, hn⟩ : ∃ n, n = D.length := ⟨_, rfl⟩
  obtain ⟨s3, hs3⟩ : ∃ x, x = (Pk.rdBlob s2).2 := ⟨_, rfl⟩
  rw [← hs1] at q2 q1
  rw [← hs2] at q2
  have HV : Hid ((rdE s).1 = ⟨v1, v2, D⟩ ∧ (rdE s).2 = s3) := hid (by rw [hs3, hD, hs2, hv2, hs1, hv1]; exact rdE_eq s)
  have E1 := hid (And.intro hv1 hs1)
  have E2 := hid (And.intro hv2 hs2)
  have E3 := hid (And.intro hn (And.intro hD hs3))
  have HL : Hid (s2.rest.length ≤ 140737488352000) := hid (by omega)
  have P1 := hid p1
  have HG := hid (And.intro hR h.lt)
  have NE : G ≠ R := by have := h.lt; omega
  obtain ⟨c0, t0⟩ := p0.facts 3 rfl
  obtain ⟨c1, t1⟩ := p1.facts 3 rfl
  have STV : ∀ W (A : Option Addr) (c : Nat), W.there R 0 3 → (stX 77 (.pointer (some ⟨R, 0, none⟩)) (.agg #[.int .i64 v1, .int .i64 v2, .slice A n c])).run Try.prog W = .ok () (W.setCells R 0 [.int .i64 v1, .int .i64 v2, .slice A n c]) := fun W A c hW => stThere info_entry3 W R _ hW rfl (by simp [Value.oneCell'])
  rw [HV.out.1, HV.out.2]
  clear p1 p0 hv1 hs1 hv2 hs2 hD hn hs3 q1 q2 h hl
  go_enter Try.func125, Try.ntmps125
  go_wp2_with fail
  rw [← hR, ← hw1]
  clear hw1 hR
  go_region_held3 (fun W => W.cell? ⟨G, 0, none⟩ = some (.pointer (some ⟨g, 0, none⟩)) ∧ W.there R 0 3)
    (first | exact ⟨cell_set f4.1 NE _, World.there_setCells f4.2 _ _ _⟩ | with_reducible exact f4 | with_reducible exact f3 | with_reducible exact f2 | exact ⟨c1, t1⟩ | exact ⟨c0, t0⟩ | fail)
    (first
      | (go_at_call 109; refine (spBlob P3.out HL.out D n E3.out.1 E3.out.2.1 E3.out.2.2).mono ?_; rintro e w4 ⟨A4, k4, rfl, o4, q4⟩; have f4 := q4.facts 3 rfl; have P4 := hid (And.intro q4 (And.intro o4 P3.out.row)); clear q4 o4)
      | (go_at_call 103; refine (spInt P2.out v2 E2.out.1 E2.out.2).mono ?_; rintro e w3 ⟨rfl, q3⟩; have f3 := q3.facts 3 rfl; have P3 := hid q3; clear q3)
      | (go_at_call 103; refine (spInt P1.out v1 E1.out.1 E1.out.2).mono ?_; rintro e w2 ⟨rfl, q2⟩; have f2 := q2.facts 3 rfl; have P2 := hid q2; clear q2))
  all_goals
    have HF := hid (P4.out.1.done HG.out.1 HG.out.2 [.int .i64 v1, .int .i64 v2, .slice A4 n k4] rfl)
    have HO := hid ((P4.out.2.1.grown (P4.out.1.grown [.int .i64 v1, .int .i64 v2, .slice A4 n k4]) (fun j e => by injection e with e; have := row_lt P4.out.2.2; omega)).weaken P3.out.kq.size)
    go_wp2_with fail
    refine bodyPost_ret (results_cell_row rfl _ _ R _ _ _ _ rfl HF.out.2.2 Try.underlying77 rfl (by rw [info_entry3]; rfl)) rfl ?_
    exact ⟨A4, k4, n, rfl, E3.out.1, HF.out.1, HF.out.2.1, HO.out⟩
end Go.Proofs.Ytaeoccpjdjafnaa.Im
namespace Go.Proofs.Ytaeoccpjdjafnaa.Im
open Go.RowKit
open Rl (En Lg)
open Qu (Cf)
set_option linter.unusedSectionVars false
variable [Lo]
set_option maxRecDepth 100000
set_option linter.unusedVariables false
attribute [local go_sem ↓] storeAt_conf
theorem grown_box {w w1 w2 w3 w4 w5 : World} {g R : Nat} (hR : R = w.heap.size) (b1 : Below w.heap.size w w1) (y2 : w1.grownBy w2 (some g)) (y3 : w2.grownBy w3 (some g)) (y4 : w3.grownBy w4 (some g)) (y5 : w4.grownBy w5 (some R)) : w.grownBy w5 (some g) := by
  have h1 : w.grownBy w1 (some g) := grown_below b1 _
  have h2 := grown_trans h1 y2 (fun k e _ => e)
  have h3 := grown_trans h2 y3 (fun k e _ => e)
  have h4 := grown_trans h3 y4 (fun k e _ => e)
  exact grown_trans h4 y5 (fun k e hk => by injection e with e; omega)
set_option maxHeartbeats 3200000 in
theorem rconf_any (G g : Nat) (s : Pk.St) (hl : s.rest.length ≤ 140737488352000) (w : World) (h : Rt w G g s) :
    Calls Try.prog 108 #[.pointer (some ⟨G, 0, none⟩)] w fun e w' => ∃ A1 c1 A2 c2 A3 c3 n1 n2 n3, e = .returned (.agg #[.slice A1 n1 c1, .slice A2 n2 c2, .slice A3 n3 c3]) ∧ (n1 = (rdCf s).1.old.length ∧ n2 = (rdCf s).1.new.length ∧ n3 = (rdCf s).1.lrn.length) ∧ Rt w' G g (rdCf s).2 ∧ (Kq w.heap.size w w' ∧ w.grownBy w' (some g)) ∧
      ∃ m1 m2, (w.heap.size ≤ m1 ∧ m1 ≤ m2 ∧ m2 ≤ w'.heap.size) ∧ OwnsI 3 w' w.heap.size A1 c1 (rdCf s).1.old ∧ OwnsI 3 w' m1 A2 c2 (rdCf s).1.new ∧ OwnsI 3 w' m2 A3 c3 (rdCf s).1.lrn ∧ (∀ k, blk A1 = some k → k < m1) ∧ (∀ k, blk A2 = some k → k < m2) := by
  obtain ⟨R, hR⟩ : ∃ R, R = w.heap.size := ⟨_, rfl⟩
  obtain ⟨w1, hw1⟩ : ∃ w1, w1 = w.alloc (.cells #[.slice none 0 0, .slice none 0 0, .slice none 0 0] 31) := ⟨_, rfl⟩
  obtain ⟨p1, p0⟩ := Sp.start h w1 hw1
  rw [← hR] at p1 p0
  have q1 := (Pk.rdInts_short s).1
  have q2 := (Pk.rdInts_short (Pk.rdInts s).2).1
  obtain ⟨D1, hD1⟩ : ∃ v, v = (Pk.rdInts s).1 := ⟨_, rfl⟩
  obtain ⟨n1, hn1⟩ : ∃ n, n = D1.length := ⟨_, rfl⟩
  obtain ⟨s1, hs1⟩ : ∃ x, x = (Pk.rdInts s).2 := ⟨_, rfl⟩
  obtain ⟨D2, hD2⟩ : ∃ v, v = (Pk.rdInts s1).1 := ⟨_, rfl⟩
  obtain ⟨n2, hn2⟩ : ∃ n, n = D2.length := ⟨_, rfl⟩
  obtain ⟨s2, hs2⟩ : ∃ x, x = (Pk.rdInts s1).2 := ⟨_, rfl⟩
  obtain ⟨D3, hD3⟩ : ∃ v, v = (Pk.rdInts s2).1 := ⟨_, rfl⟩
  obtain ⟨n3, hn3⟩ : ∃ n, n = D3.length := ⟨_, rfl⟩
  obtain ⟨s3, hs3⟩ : ∃ x, x = (Pk.rdInts s2).2 := ⟨_, rfl⟩
  rw [← hs1] at q2 q1
  rw [← hs2] at q2
  have HV : Hid ((rdCf s).1 = ⟨D1, D2, D3⟩ ∧ (rdCf s).2 = s3) := hid (by rw [hs3, hD3, hs2, hD2, hs1, hD1]; exact rdCf_eq s)
  have E1 := hid (And.intro hn1 (And.intro hD1 hs1))
  have E2 := hid (And.intro hn2 (And.intro hD2 hs2))
  have E3 := hid (And.intro hn3 (And.intro hD3 hs3))
  have HL : Hid (s.rest.length ≤ 140737488352000 ∧ s1.rest.length ≤ 140737488352000 ∧ s2.rest.length ≤ 140737488352000) := hid (by omega)
  have P1 := hid p1
  have BW : Hid (Below w.heap.size w w1.drew) := hid (by rw [hw1]; exact ((Below.refl _ w).alloc (Nat.le_refl _) _).drew)
  have HG := hid (And.intro hR h.lt)
  have NE : G ≠ R := by have := h.lt; omega
  obtain ⟨c0, t0⟩ := p0.facts 3 rfl
  obtain ⟨c1, t1⟩ := p1.facts 3 rfl
  have STV : ∀ W (A1 A2 A3 : Option Addr) (c1 c2 c3 : Nat), W.there R 0 3 → (stX 31 (.pointer (some ⟨R, 0, none⟩)) (.agg #[.slice A1 n1 c1, .slice A2 n2 c2, .slice A3 n3 c3])).run Try.prog W = .ok () (W.setCells R 0 [.slice A1 n1 c1, .slice A2 n2 c2, .slice A3 n3 c3]) := fun W A1 A2 A3 c1 c2 c3 hW => stThere info_conf3 W R _ hW rfl (by simp [Value.oneCell'])
  rw [HV.out.1, HV.out.2]
  clear p1 p0 hn1 hD1 hs1 hn2 hD2 hs2 hn3 hD3 hs3 q1 q2 h hl
  go_enter Try.func108, Try.ntmps108
  go_wp2_with fail
  rw [← hR, ← hw1]
  clear hw1 hR
  go_region_held3 (fun W => W.cell? ⟨G, 0, none⟩ = some (.pointer (some ⟨g, 0, none⟩)) ∧ W.there R 0 3)
    (first | exact ⟨cell_set f4.1 NE _, World.there_setCells f4.2 _ _ _⟩ | with_reducible exact f4 | with_reducible exact f3 | with_reducible exact f2 | exact ⟨c1, t1⟩ | exact ⟨c0, t0⟩ | fail)
    (first
      | (go_at_call 126; refine (spInts P3.out HL.out.2.2 D3 n3 E3.out.1 E3.out.2.1 E3.out.2.2).mono ?_; rintro e w4 ⟨A4, k4, rfl, o4, q4, y4⟩; have f4 := q4.facts 3 rfl; have P4 := hid q4; have O4 := hid (And.intro o4 y4); clear q4 o4 y4)
      | (go_at_call 126; refine (spInts P2.out HL.out.2.1 D2 n2 E2.out.1 E2.out.2.1 E2.out.2.2).mono ?_; rintro e w3 ⟨A3, k3, rfl, o3, q3, y3⟩; have f3 := q3.facts 3 rfl; have P3 := hid q3; have O3 := hid (And.intro o3 y3); clear q3 o3 y3)
      | (go_at_call 126; refine (spInts P1.out HL.out.1 D1 n1 E1.out.1 E1.out.2.1 E1.out.2.2).mono ?_; rintro e w2 ⟨A2, k2, rfl, o2, q2, y2⟩; have f2 := q2.facts 3 rfl; have P2 := hid q2; have O2 := hid (And.intro o2 y2); clear q2 o2 y2))
  all_goals
    have HF := hid (P4.out.done HG.out.1 HG.out.2 [.slice A2 n1 k2, .slice A3 n2 k3, .slice A4 n3 k4] rfl)
    have HO : Hid (∃ m1 m2, (w.heap.size ≤ m1 ∧ m1 ≤ m2 ∧ m2 ≤ (w4.setCells R 0 [.slice A2 n1 k2, .slice A3 n2 k3, .slice A4 n3 k4]).heap.size) ∧ OwnsI 3 (w4.setCells R 0 [.slice A2 n1 k2, .slice A3 n2 k3, .slice A4 n3 k4]) w.heap.size A2 k2 D1 ∧ OwnsI 3 (w4.setCells R 0 [.slice A2 n1 k2, .slice A3 n2 k3, .slice A4 n3 k4]) m1 A3 k3 D2 ∧ OwnsI 3 (w4.setCells R 0 [.slice A2 n1 k2, .slice A3 n2 k3, .slice A4 n3 k4]) m2 A4 k4 D3 ∧ (∀ k, blk A2 = some k → k < m1) ∧ (∀ k, blk A3 = some k → k < m2)) := hid (by
      have hg := P4.out.grown [.slice A2 n1 k2, .slice A3 n2 k3, .slice A4 n3 k4]
      have r1 := row_lt P1.out.row
      have r2 := row_lt P2.out.row
      have r3 := row_lt P3.out.row
      have hGR := HG.out.1
      have hlt := HG.out.2
      have g1 : g < w1.drew.heap.size := P1.out.rt.ro.rdr.lt
      have z2 := P2.out.rt.ro.rdr.lt
      have z3 := P3.out.rt.ro.rdr.lt
      have u2 := O3.out.2.size
      have u1 := O2.out.2.size
      have a1 : OwnsI 3 w4 w1.drew.heap.size A2 k2 D1 := (O2.out.1.grown O3.out.2 (fun j e => by injection e with e; omega)).grown O4.out.2 (fun j e => by injection e with e; omega)
      have a2 : OwnsI 3 w4 w2.heap.size A3 k3 D2 := O3.out.1.grown O4.out.2 (fun j e => by injection e with e; omega)
      refine ⟨w2.heap.size, w3.heap.size, ⟨P2.out.kq.size, u2, Nat.le_trans O4.out.2.size hg.size⟩, ?_, ?_, ?_, fun k hk => (O2.out.1.blkLt k hk).2, fun k hk => (O3.out.1.blkLt k hk).2⟩
      · exact (a1.grown hg (fun j e => by injection e with e; omega)).weaken P1.out.kq.size
      · exact a2.grown hg (fun j e => by injection e with e; omega)
      · exact O4.out.1.grown hg (fun j e => by injection e with e; omega))
    have HB := hid (grown_box HG.out.1 BW.out O2.out.2 O3.out.2 O4.out.2 (P4.out.grown [.slice A2 n1 k2, .slice A3 n2 k3, .slice A4 n3 k4]))
    go_wp2_with fail
    refine bodyPost_ret (results_cell_row rfl _ _ R _ _ _ _ rfl HF.out.2.2 Try.underlying31 rfl (by rw [info_conf3]; rfl)) rfl ?_
    exact ⟨A2, k2, A3, k3, A4, k4, n1, n2, n3, rfl, ⟨E1.out.1, E2.out.1, E3.out.1⟩, HF.out.1, ⟨HF.out.2.1, HB.out⟩, HO.out⟩
end Go.Proofs.Ytaeoccpjdjafnaa.Im
namespace Go.Proofs.Ytaeoccpjdjafnaa.Im
open Go.RowKit
open Rl (En Lg)
open Qu (Cf)
set_option linter.unusedSectionVars false
variable [Lo]
set_option maxRecDepth 100000
set_option linter.unusedVariables false
section
variable {α : Type} {f : α → List Value} {size : Nat} {e : TypeId} {W W' : World} {F : Nat → Prop} {A : Option Addr} {c : Nat} {L : List α} {G g n : Nat} {s : Pk.St}
theorem Kq.rowIn (h : Kq W.heap.size W W') (hr : RowIn f size e W F A c L) (h1 : e ≠ 147) (h2 : e ≠ 119) : RowIn f size e W' F A c L := ⟨hr.fits, h.row hr.row h1 h2, hr.blk⟩
theorem Rt.grow (h : Rt W G g s) (hr : RowIn f size e W F A c L) (he : e ≠ 147) (hF : ∀ k, F k → G < k) (hg : W.grownBy W' (Go.Proofs.Ytaeoccpjdjafnaa.blk A)) : Rt W' G g s := by
  rcases hb : Go.Proofs.Ytaeoccpjdjafnaa.blk A with _ | k
  · rw [hb] at hg
    exact h.below (below_grown hg (Nat.le_refl _) (fun j e => by cases e))
  · rw [hb] at hg
    obtain ⟨cur, hc⟩ := hr.tag hb
    exact h.fill hg (hF k (hr.blk k hb)) (Rdr.tag h.ro.rdr hc he)
theorem Kq.grow {B : Nat} (hr : RowIn f size e W F A c L) (hF : ∀ k, F k → B ≤ k) (hB : B ≤ W.heap.size) (hg : W.grownBy W' (Go.Proofs.Ytaeoccpjdjafnaa.blk A)) : Kq B W W' :=
  Kq.ofBelow (below_grown hg hB (fun k hk => hF k (hr.blk k hk)))
end
theorem rdV_short (s : Pk.St) : (rdV s).2.rest.length ≤ s.rest.length := (codV 100000000 (by decide)).short s
theorem rdN_zero {α : Type} (one : Pk.St → α × Pk.St) (s : Pk.St) : rdN one 0 s = ([], s) := rfl
theorem rdN_bad {α : Type} (one : Pk.St → α × Pk.St) (n : Nat) (s : Pk.St) (h : s.bad = true) : rdN one n s = ([], s) := by
  cases n with
  | zero => rfl
  | succ n => unfold rdN; rw [if_pos h]
theorem rdN_one {α : Type} (one : Pk.St → α × Pk.St) (n : Nat) (s : Pk.St) (h : s.bad = false) : rdN one (n + 1) s = ((one s).1 :: (rdN one n (one s).2).1, (rdN one n (one s).2).2) := by
  rw [rdN, if_neg (by rw [h]; simp)]
theorem cellsV_fits (v : Vt) : (cellsV v).length = 5 := rfl
theorem cellsV_one (v : Vt) : ∀ u ∈ cellsV v, u.oneCell' = true := by
  intro u hu
  simp [cellsV] at hu
  rcases hu with rfl | rfl | rfl | rfl | rfl <;> rfl
theorem info_vote3 : (Try.prog.info? 34).map (fun i => (i.zero, i.size, i.bytes)) = some (some (.agg #[.int .i64 0, .int .i64 0, .int .i64 0, .int .i64 0, .int .i64 0]), 5, 40) := by kernel_rfl
structure Lp {α : Type} (f : α → List Value) (size : Nat) (e : TypeId) (one : Pk.St → α × Pk.St) (w : World) (G g : Nat) (s : Pk.St) (A : Option Addr) (c : Nat) (L : List α) (m : Int) (s' : Pk.St) (W : World) : Prop where
  rk : Rk G g 10000000 s' w W
  row : RowIn f size e W (fun k => w.heap.size ≤ k) A c L
  val : L ++ (rdN one m.toNat s').1 = (rdL one s).1 ∧ (rdN one m.toNat s').2 = (rdL one s).2
  few : 0 < m → s'.bad = false → (L.length : Int) + m ≤ 1250000
  rest : s'.rest.length ≤ 10000000
set_option maxHeartbeats 3200000 in
theorem rVs_any (G g : Nat) (s : Pk.St) (hl : s.rest.length ≤ 10000000) (w : World) (h : Rt w G g s) :
    Calls Try.prog 81 #[.pointer (some ⟨G, 0, none⟩), .func (.func 82) #[.pointer (some ⟨G, 0, none⟩)] #[]] w fun e w' => ∃ A c n, e = .returned (.slice A n c) ∧ n = (rdL rdV s).1.length ∧
      RowIn cellsV 5 34 w' (fun k => w.heap.size ≤ k) A c (rdL rdV s).1 ∧ Rk G g 10000000 (rdL rdV s).2 w w' := by
  obtain ⟨i0, hi, hz0, hz1, hz2⟩ := info_parts info_vote3
  have HI := hid (int_rdr g s w h.ro.rdr)
  have hin := Pk.rdInt_in s h.ro.rdr.small
  have hsh := Pk.rdInt_short s
  have H := hid h
  have HD : Hid (∀ (v : Int) (s1 : Pk.St), v = (Pk.rdInt s).1 → s1 = (Pk.rdInt s).2 → rdL rdV s = if v < 0 ∨ ((s1.rest.length / 8 : Nat) : Int) < v then ([], Pk.gone) else rdN rdV v.toNat s1) := hid (by rintro v s1 rfl rfl; rfl)
  have ST : Hid (∀ (v : Int) (s1 : Pk.St) (w1 : World), v = (Pk.rdInt s).1 → s1 = (Pk.rdInt s).2 → Rdr w1 g (Pk.rdInt s).2 → w.grownBy w1 (some g) → Rt w1 G g s1 ∧ Kq w.heap.size w w1) := hid (by
    rintro v s1 w1 rfl rfl hr hg
    exact H.out.step hr hg (fun e => by subst e; rfl))
  obtain ⟨s1, hs1⟩ : ∃ s1, s1 = (Pk.rdInt s).2 := ⟨_, rfl⟩
  obtain ⟨v, hv⟩ : ∃ v, v = (Pk.rdInt s).1 := ⟨_, rfl⟩
  rw [← hs1] at HI hsh
  rw [← hv] at HI hin
  have HD2 := hid (HD.out v s1 hv hs1)
  have ST2 : Hid (∀ (w1 : World), Rdr w1 g s1 → w.grownBy w1 (some g) → Rt w1 G g s1 ∧ Kq w.heap.size w w1) := hid (fun w1 hr hg => ST.out v s1 w1 hv hs1 (hs1 ▸ hr) hg)
  clear hs1 hv HD ST h
  have hin1 := hin.1
  have hin2 := hin.2
  have HS : Hid (s1.rest.length ≤ 10000000) := hid (by omega)
  have hs1l : s1.rest.length ≤ 10000000 := HS.out
  by_cases hneg : v < 0
  · skip
    have HF : Hid (rdL rdV s = ([], Pk.gone)) := hid (by rw [HD2.out, if_pos (by omega)])
    have hcell := H.out.cell
    clear hin hl hsh
    go_enter Try.func81, Try.ntmps81
    go_wp2_with fail
    refine HI.out.mono ?_
    rintro e w1 ⟨rfl, hR, hG⟩
    obtain ⟨hrt, hkq⟩ := ST2.out w1 hR hG
    have hc1 := hrt.cell
    have HSP := hid (spoilR_any G g 10000000 s1 HS.out w1 hrt)
    have HKQ := hid hkq
    clear hR hG hrt hkq hcell
    go_wp2_with fail
    refine HSP.out.mono ?_
    rintro e w3 ⟨rfl, hk3⟩
    have HR3 : Hid (Rk G g 10000000 Pk.gone w w3) := hid ⟨hk3.at_, hk3.old, HKQ.out.trans (hk3.kq.mono HKQ.out.size)⟩
    clear hk3 hc1 HSP
    go_wp2_with fail
    go_loopw [5, 6] (fun i l wr => i = .int .i64 v ∧ l = .slice none 0 0 ∧ Hid (Rk G g 10000000 Pk.gone w wr)) (fun _ _ _ => 0)
    case atStart => exact ⟨rfl, rfl, HR3⟩
    case round =>
      clear HR3
      obtain ⟨rfl, rfl, HR⟩ := hrel
      go_wp2_with fail
      go_ret
      rw [HF.out]
      exact ⟨none, 0, 0, rfl, rfl, RowIn.nil cellsV_fits _ _ _, HR.out⟩
  · by_cases hgt : ((s1.rest.length : Int) / 8) < v
    · skip
      have hv0 : 0 < v := by omega
      have HF : Hid (rdL rdV s = ([], Pk.gone)) := hid (by rw [HD2.out, if_pos (by omega)])
      have hcell := H.out.cell
      clear hin hl hsh
      go_enter Try.func81, Try.ntmps81
      go_wp2_with fail
      refine HI.out.mono ?_
      rintro e w1 ⟨rfl, hR, hG⟩
      obtain ⟨hrt, hkq⟩ := ST2.out w1 hR hG
      have hc1 := hrt.cell
      have HLF := hid (left_rdr g s1 w1 hR)
      have HSP := hid (spoilR_any G g 10000000 s1 HS.out w1 hrt)
      have HKQ := hid hkq
      clear hR hG hrt hkq hcell
      go_wp2_with fail
      refine HLF.out.mono ?_
      rintro e w2 ⟨rfl, rfl⟩
      go_wp2_with fail
      refine HSP.out.mono ?_
      rintro e w3 ⟨rfl, hk3⟩
      have HR3 : Hid (Rk G g 10000000 Pk.gone w w3) := hid ⟨hk3.at_, hk3.old, HKQ.out.trans (hk3.kq.mono HKQ.out.size)⟩
      clear hk3 hc1 HSP
      go_wp2_with fail
      go_loopw [5, 6] (fun i l wr => i = .int .i64 v ∧ l = .slice none 0 0 ∧ Hid (Rk G g 10000000 Pk.gone w wr)) (fun _ _ _ => 0)
      case atStart => exact ⟨rfl, rfl, HR3⟩
      case round =>
        clear HR3
        obtain ⟨rfl, rfl, HR⟩ := hrel
        obtain ⟨g', hrt, hgg⟩ := HR.out.at_
        have hc := hrt.cell
        have HB : Hid (Calls Try.prog 106 #[.pointer (some ⟨g', 0, none⟩)] wr fun e w' => e = .returned (.bool true) ∧ wr = w') := hid (bad_rdr g' Pk.gone wr hrt.ro.rdr)
        clear hrt hgg
        go_wp2_with fail
        refine HB.out.mono ?_
        rintro e w4 ⟨rfl, rfl⟩
        go_wp2_with fail
        go_ret
        rw [HF.out]
        exact ⟨none, 0, 0, rfl, rfl, RowIn.nil cellsV_fits _ _ _, HR.out⟩
    · have hv0 : 0 ≤ v := by omega
      have START : Hid (∀ W, Rt W G g s1 → Kq w.heap.size w W → Lp cellsV 5 34 rdV w G g s none 0 [] v s1 W) := hid (fun W hr hk => ⟨Rk.of (s := s1) hr HS.out hk, RowIn.nil cellsV_fits _ _ _, by rw [HD2.out, if_neg (by omega)]; exact ⟨rfl, rfl⟩, fun _ _ => by show ((0 : Nat) : Int) + v ≤ 1250000; omega, HS.out⟩)
      have hcell := H.out.cell
      clear hin hl hsh
      go_enter Try.func81, Try.ntmps81
      go_wp2_with fail
      refine HI.out.mono ?_
      rintro e w1 ⟨rfl, hR, hG⟩
      obtain ⟨hrt, hkq⟩ := ST2.out w1 hR hG
      have hc1 := hrt.cell
      have HLF := hid (left_rdr g s1 w1 hR)
      have HS1 := hid (START.out w1 hrt hkq)
      clear hR hG hrt hkq hcell
      go_wp2_with fail
      refine HLF.out.mono ?_
      rintro e w2 ⟨rfl, rfl⟩
      go_wp2_with fail
      go_loopw [5, 6] (fun i l wr => ∃ (m : Int) (A1 : Option Addr) (c1 q1 : Nat) (L : List Vt) (s' : Pk.St), (m ≤ 9223372036854775807 ∧ -9223372036854775808 ≤ m) ∧ i = .int .i64 m ∧ l = .slice A1 q1 c1 ∧ q1 = L.length ∧ Hid (Lp cellsV 5 34 rdV w G g s A1 c1 L m s' wr)) (fun i _ _ => (RowKit.intOf i).toNat)
      case atStart => exact ⟨v, none, 0, 0, [], s1, ⟨by omega, by omega⟩, rfl, rfl, rfl, HS1⟩
      case round =>
        clear HS1 hc1
        obtain ⟨m, A1, c1, q1, L, s', ⟨hm1, hm2⟩, rfl, rfl, hq, HL⟩ := hrel
        have HQ := hid hq
        obtain ⟨g', hrt, hgg⟩ := HL.out.rk.at_
        have hc := hrt.cell
        have HB := bad_rdr g' s' wr hrt.ro.rdr
        by_cases hm : 0 < m
        · by_cases hb : s'.bad = true
          · have HF : Hid (L = (rdL rdV s).1 ∧ s' = (rdL rdV s).2) := hid (by
              have h := HL.out.val
              rw [rdN_bad _ _ _ hb, List.append_nil] at h
              exact h)
            rw [hb] at HB
            replace HB := hid HB
            clear hrt hgg hb hq
            go_wp2_with fail
            refine HB.out.mono ?_
            rintro e w3 ⟨rfl, rfl⟩
            go_wp2_with fail
            go_ret
            exact ⟨A1, c1, q1, rfl, by rw [← HF.out.1]; exact HQ.out, by rw [← HF.out.1]; exact HL.out.row, by rw [← HF.out.2]; exact HL.out.rk⟩
          · have hb' : s'.bad = false := by simpa using hb
            obtain rfl : g' = g := by
              rcases hgg with h | h
              · exact h
              · rw [h] at hb'; cases hb'
            rw [hb'] at HB
            replace HB := hid HB
            have HV := hid (rvote_any G g' s' wr hrt)
            obtain ⟨x, hx⟩ : ∃ x, x = (rdV s').1 := ⟨_, rfl⟩
            obtain ⟨s2, hs2⟩ : ∃ y, y = (rdV s').2 := ⟨_, rfl⟩
            rw [← hx, ← hs2] at HV
            have hfew := HL.out.few hm hb'
            have hq1 : q1 + 1 ≤ 10000000 := by omega
            obtain ⟨k, hk⟩ : ∃ k : Nat, m = (k : Int) + 1 := ⟨(m - 1).toNat, by omega⟩
            have HN : Hid ((L ++ [x]) ++ (rdN rdV (m - 1).toNat s2).1 = (rdL rdV s).1 ∧ (rdN rdV (m - 1).toNat s2).2 = (rdL rdV s).2) := hid (by
              have h := HL.out.val
              rw [show m.toNat = k + 1 by omega, rdN_one _ _ _ hb', ← hx, ← hs2] at h
              rw [show (m - 1).toNat = k by omega, List.append_assoc]
              exact h)
            have HW : Hid (((L.length + 1 : Nat) : Int) + (m - 1) ≤ 1250000 ∧ s2.rest.length ≤ 10000000) := hid ⟨by omega, by rw [hs2]; exact Nat.le_trans (rdV_short s') HL.out.rest⟩
            have HK := hid hq1
            clear hrt hgg hb hb' hq hx hs2 hfew hk hq1
            go_wp2_with fail
            refine HB.out.mono ?_
            rintro e w3 ⟨rfl, rfl⟩
            go_wp2_with fail
            refine HV.out.mono ?_
            rintro e w4 ⟨rfl, hr4, hk4⟩
            have hrow4 := hk4.rowIn HL.out.row (by decide) (by decide)
            have hb5 : Below w4.heap.size w4 (w4.alloc (.cells #[.int .i64 x.x, .int .i64 x.p, .int .i64 x.r, .int .i64 x.b, .int .i64 x.v] 34)) := (Below.refl _ w4).alloc (Nat.le_refl _) _
            have hrow5 := hrow4.below hb5
            have hr5 := hr4.below hb5
            have hk5 := hk4.trans ((Kq.ofBelow hb5).mono hk4.size)
            have hcells : ∀ k, k < 5 → (w4.alloc (.cells #[.int .i64 x.x, .int .i64 x.p, .int .i64 x.r, .int .i64 x.b, .int .i64 x.v] 34)).cell? ((⟨w4.heap.size, 0, none⟩ : Addr).add k) = (cellsV x)[k]? := fun k hk => by
              rw [add_off, Nat.zero_add, row_cell (heap_alloc_new w4 _) k]; simp [cellsV]
            have hsz5 := hb5.size
            have H5 := hid (And.intro hr5 (And.intro hk5 (And.intro hrow5 hsz5)))
            clear hr4 hk4 hrow4 hb5 hr5 hk5 HB HV
            go_wp2_with (at_builtin; refine wpList_append_rowM rfl _ _ 23 rfl i0 _ Try.underlying23 hi hz0 hz1 hz2 rfl (by decide) hrow5 q1 HQ.out.symm rfl x ⟨w4.heap.size, 0, none⟩ 1 rfl hcells (cellsV_one x) (by have := HK.out; omega) HK.out ?_)
            intro A6 c6 w6 hrow6 hg6 hbl6
            have H6 : Hid (Lp cellsV 5 34 rdV w G g' s A6 c6 (L ++ [x]) (m - 1) s2 w6) := hid (by
              have hR := HL.out.rk
              have hG : G < w.heap.size := H.out.lt
              have hws : w.heap.size ≤ wr.heap.size := hR.kq.size
              have hrt6 : Rt w6 G g' s2 := H5.out.1.grow H5.out.2.2.1 (by decide) (fun k hk => by omega) hg6
              have hkq5 : Kq w.heap.size w _ := hR.kq.trans (H5.out.2.1.mono hws)
              have hkq6 := hkq5.trans (Kq.grow H5.out.2.2.1 (fun k hk => hk) hkq5.size hg6)
              exact ⟨Rk.of (s := s2) hrt6 HW.out.2 hkq6, hrow6.mono (fun k hk => by
                rcases hrow6.blk k hk with h | h
                · exact h
                · exact Nat.le_trans hkq5.size (by simpa using h)), HN.out, fun _ _ => by have := HW.out.1; rw [List.length_append]; simp only [List.length_cons, List.length_nil]; omega, HW.out.2⟩)
            have HQ6 : Hid (q1 + 1 = (L ++ [x]).length) := hid (by rw [List.length_append, ← HQ.out]; rfl)
            clear hrow5 hcells hsz5 hrow6 hg6 hbl6
            go_wp2_with fail
            go_roundw
            case rel => exact ⟨m - 1, A6, c6, q1 + 1, L ++ [x], s2, ⟨by omega, by omega⟩, by go_num, rfl, HQ6.out, H6⟩
            case measure => simp [RowKit.intOf]; omega
        · have HF : Hid (L = (rdL rdV s).1 ∧ s' = (rdL rdV s).2) := hid (by
            have h := HL.out.val
            rw [show m.toNat = 0 by omega, rdN_zero, List.append_nil] at h
            exact h)
          clear hrt hgg hq HB
          go_wp2_with fail
          go_ret
          exact ⟨A1, c1, q1, rfl, by rw [← HF.out.1]; exact HQ.out, by rw [← HF.out.1]; exact HL.out.row, by rw [← HF.out.2]; exact HL.out.rk⟩
end Go.Proofs.Ytaeoccpjdjafnaa.Im
