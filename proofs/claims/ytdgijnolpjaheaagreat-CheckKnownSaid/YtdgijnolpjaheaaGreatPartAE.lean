/- Texts of the proof, one behind the other: PackInt, JoMath. -/
import Derived.Test.YtdgijnolpjaheaaGreatRows
import Derived.Test.YtdgijnolpjaheaaGreatPartAC
import Derived.Test.YtdgijnolpjaheaaGreatPartAD
import Derived.Test.YtdgijnolpjaheaaGreatPartAB
namespace Go.Proofs.YtdgijnolpjaheaaGreat
open Go.RowKit

theorem enc_take (v : Int) (k : Nat) (h : k < 8) : (Pk.enc v).take (k + 1) = (Pk.enc v).take k ++ [Pk.byteOf v (7 - k)] := by
  match k, h with
  | 0, _ => rfl
  | 1, _ => rfl
  | 2, _ => rfl
  | 3, _ => rfl
  | 4, _ => rfl
  | 5, _ => rfl
  | 6, _ => rfl
  | 7, _ => rfl
theorem byteOf_val (v : Int) (k : Nat) : ((Pk.byteOf v k : Nat) : Int) = v / 2 ^ (8 * k) % 256 := by
  unfold Pk.byteOf
  have := Int.emod_nonneg (v / 2 ^ (8 * k)) (show (256 : Int) ≠ 0 by decide)
  omega
theorem bytes_one (l : List Nat) (x : Nat) : bytes l ++ [Value.int .u8 (x : Int)] = bytes (l ++ [x]) := by unfold bytes; simp

set_option maxHeartbeats 400000 in
theorem put_any (base : Nat) (A : Option Addr) (c : Nat) (l : List Nat) (v : Int) (hv : InInt v) (hl : l.length ≤ 140737488355000) (w : World) (h : OwnsB 5 w base A c l) (hB : base ≤ w.heap.size) :
    Calls Tryz.prog 76 #[.slice A l.length c, .int .i64 v] w fun e w' => ∃ A' c', e = .returned (.slice A' (l.length + 8) c') ∧ OwnsB 5 w' base A' c' (l ++ Pk.enc v) ∧ Below base w w' := by
  obtain ⟨i0, hi, hz0, hz1, hz2⟩ := info_parts info_u8
  have hv1 := hv.1
  have hv2 := hv.2
  go_enter Tryz.func76, Tryz.ntmps76
  go_wp2
  go_loopw [0, 5] (fun b i wr => ∃ k : Nat, ∃ A1 : Option Addr, ∃ c1 : Nat, k ≤ 8 ∧ i = .int .i64 (56 - 8 * (k : Int)) ∧ b = .slice A1 (l.length + k) c1 ∧ OwnsB 5 wr base A1 c1 (l ++ (Pk.enc v).take k) ∧ Below base w wr) (fun _ i _ => (RowKit.intOf i + 8).toNat)
  case atStart => exact ⟨0, A, c, by omega, rfl, rfl, by simpa using h, Below.refl _ _⟩
  case round =>
    clear h
    obtain ⟨k, A1, c1, hk, rfl, rfl, hown, hbel⟩ := hrel
    have hlen : (l ++ (Pk.enc v).take k).length = l.length + k := by rw [List.length_append, List.length_take, Pk.enc_length]; omega
    have hrow := hown.row
    rw [hlen] at hrow
    have HR := hid (And.intro hown.small hlen)
    clear hown hlen
    by_cases hlt : k < 8
    · obtain ⟨m, hm⟩ : ∃ m : Nat, 56 - 8 * (k : Int) = (m : Int) := ⟨56 - 8 * k, by omega⟩
      have HM := hid hm
      rw [hm]
      have hm0 : m ≤ 56 := by omega
      clear hm
      have hx := byteOf_val v (7 - k)
      rw [show 8 * (7 - k) = m from by have := HM.out; omega] at hx
      have HX := hid hx
      clear hx
      go_wp2_with (at_builtin; refine wpList_append_own _ rfl _ _ 23 rfl base 5 i0 (.int .u8 0) 1 1 Tryz.underlying23 hi hz0 hz1 hz2 rfl (by decide) _ _ _ rfl (hrow.alloc _) ⟨wr.heap.size, 0, none⟩ 1 1 [.int .u8 (v / 2 ^ m % 256)] rfl rfl ?c1 ?c2 ?c3 ?c4 ?c5 ?_)
      case c1 =>
        intro j u hj
        match j, hj with
        | 0, hj => simp at hj; subst hj; simp [Addr.add]
      case c2 => intro u hu; simp at hu; subst hu; rfl
      case c3 => unfold maxLen; omega
      case c4 => omega
      case c5 => have := hbel.size; simp; omega
      intro v' w1 hown' hgrow _
      obtain ⟨A2, c2, rfl⟩ := own_slice hown'
      rw [← HX.out, bytes_one, List.append_assoc, ← enc_take v k hlt] at hown'
      have hb1 : Below base w w1 := (hbel.alloc (by have := hbel.size; omega) _).grown hgrow (by have := hbel.size; simp; omega) (fun g hg => (hrow.lt g hg).1)
      have HO : Hid (OwnsB 5 w1 base A2 c2 (l ++ (Pk.enc v).take (k + 1))) := by
        refine ⟨?_, ?_⟩
        · intro x hx
          rw [enc_take v k hlt, ← List.append_assoc] at hx
          rcases List.mem_append.1 hx with hx | hx
          · exact HR.out.1 x hx
          · simp at hx; subst hx; exact Pk.byteOf_lt _ _
        · rw [show (l ++ (Pk.enc v).take (k + 1)).length = l.length + k + 1 from by rw [List.length_append, List.length_take, Pk.enc_length]; omega]
          exact hown'
      clear hgrow hown' hrow
      have HB := hid hb1
      clear hb1 hbel
      go_wp2
      go_roundw
      case rel => exact ⟨k + 1, A2, c2, by omega, by rw [← HM.out]; go_num, rfl, HO.out, HB.out⟩
      case measure => simp [RowKit.intOf]; omega
    · obtain rfl : k = 8 := by omega
      have HO : Hid (OwnsB 5 wr base A1 c1 (l ++ Pk.enc v)) := by
        have e : (Pk.enc v).take 8 = Pk.enc v := rfl
        have h1 := HR.out.1
        rw [e] at h1 hrow
        exact ⟨h1, by rw [show (l ++ Pk.enc v).length = l.length + 8 from by rw [List.length_append, Pk.enc_length]]; exact hrow⟩
      clear hrow
      go_wp2
      go_ret
      exact ⟨A1, c1, rfl, HO.out, hbel⟩
set_option maxHeartbeats 400000 in
theorem fresh_any (B : Nat) (A : Option Addr) (c : Nat) (l : List Nat) (r : Nat) (hl : l.length + r ≤ 140737488355000) (w : World) (h : IsBytes w B A l) (hB : B ≤ w.heap.size) (hn : A = none → c = 0) :
    Calls Tryz.prog 77 #[.slice A l.length c, .int .i64 (r : Int)] w fun e w' => ∃ A' c', e = .returned (.slice A' l.length c') ∧ OwnsB 5 w' w.heap.size A' c' l ∧ Below w.heap.size w w' := by
  obtain ⟨i0, hi, hz0, hz1, hz2⟩ := info_parts info_u8
  go_enter Tryz.func77, Tryz.ntmps77
  go_wp2_with (at_make; refine wpList_make_own _ rfl _ _ 23 rfl w.heap.size 5 i0 (.int .u8 0) 1 Tryz.underlying23 hi hz0 hz1 .i64 .i64 ((l.length : Int) + r) (l.length + r) rfl rfl (by omega) ?c1 ?c2 (Nat.le_refl _) ?_)
  case c1 => rw [hz2]; omega
  case c2 => unfold maxLen; omega
  intro w1 hown hgrow
  have hrow : OwnsB 5 w1 w.heap.size (some ⟨w.heap.size, 0, none⟩) (l.length + r) [] := ⟨by simp, hown⟩
  have hbel : Below w.heap.size w w1 := (Below.refl _ _).grown hgrow (Nat.le_refl _) (fun g hg => by cases hg)
  have hs : IsBytes w1 w.heap.size A l := (h.more hB).below hbel
  clear hown hgrow
  go_wp2_with (at_builtin; refine wpList_append_bytesN rfl _ _ 23 rfl w.heap.size 5 i0 Tryz.underlying23 hi hz0 hz1 hz2 (some ⟨w.heap.size, 0, none⟩) (l.length + r) [] 0 rfl rfl hrow w.heap.size A c l l.length rfl rfl hn hs l (List.nil_append _) (by omega) hbel.size ?_)
  intro A3 c3 w2 hown2 hgrow
  have hb2 : Below w.heap.size w w2 := hbel.trans hgrow
  clear hgrow hrow hbel hs
  go_wp2
  go_ret
  exact ⟨A3, c3, rfl, hown2, hb2⟩

set_option maxHeartbeats 400000 in
theorem packInt_any (B : Nat) (A : Option Addr) (c : Nat) (l : List Nat) (v : Int) (hv : InInt v) (hl : l.length ≤ 140737488354000) (w : World) (h : IsBytes w B A l) (hB : B ≤ w.heap.size) (hn : A = none → c = 0) :
    Calls Tryz.prog 65 #[.slice A l.length c, .int .i64 v] w fun e w' => ∃ A' c', e = .returned (.slice A' (l.length + 8) c') ∧ OwnsB 5 w' w.heap.size A' c' (l ++ Pk.enc v) ∧ Below w.heap.size w w' := by
  go_enter Tryz.func65, Tryz.ntmps65
  go_wp2_with fail
  refine (fresh_any B A c l 8 (by omega) _ h hB hn).mono ?_
  rintro e w1 ⟨A1, c1, rfl, hown, hbel⟩
  go_wp2_with fail
  refine (put_any w.heap.size A1 c1 l v hv (by omega) _ hown hbel.size).mono ?_
  rintro e w2 ⟨A2, c2, rfl, hown2, hbel2⟩
  go_wp2
  go_ret
  exact ⟨A2, c2, rfl, hown2, hbel.trans hbel2⟩

end Go.Proofs.YtdgijnolpjaheaaGreat
namespace Go.Proofs.YtdgijnolpjaheaaGreat
namespace Jo
open Sx

/-- how many sectors a record of k bytes has -/
def secs (k : Nat) : Nat := max 1 ((k + 39) / 40)
/-- the mark of a piece -/
def mark (i : Nat) (last : Bool) : Nat := if last then 2 * i + 1 else 2 * i
/-- what stands ahead of a piece -/
def head (e n m : Int) : List Nat := Pk.enc e ++ Pk.enc n ++ Pk.enc m
def piece (p : List Nat) (i : Nat) : List Nat := (p.drop (40 * i)).take 40
def lastAt (p : List Nat) (i : Nat) : Bool := decide (i + 1 = secs p.length)
/-- the sector of piece i -/
def sec (e n : Int) (p : List Nat) (i : Nat) : List Nat := head e n (mark i (lastAt p i)) ++ piece p i
/-- those of a record -/
def secsOf (e n : Int) (p : List Nat) : List (List Nat) := (List.range (secs p.length)).map (sec e n p)

theorem head_length (e n m : Int) : (head e n m).length = 24 := rfl
theorem head_small (e n m : Int) : ∀ x ∈ head e n m, x < 256 := by
  intro x hx
  simp only [head, List.mem_append] at hx
  rcases hx with (hx | hx) | hx <;> exact Pk.enc_small _ x hx
theorem secs_pos (k : Nat) : 1 ≤ secs k := by unfold secs; omega
theorem secs_le (k : Nat) (h : k ≤ 32768) : secs k ≤ 820 := by unfold secs; omega
theorem piece_length (p : List Nat) (i : Nat) : (piece p i).length = min 40 (p.length - 40 * i) := by simp [piece]
theorem piece_full (p : List Nat) (i : Nat) (h : i + 1 < secs p.length) : (piece p i).length = 40 := by
  rw [piece_length]; unfold secs at h; omega
theorem piece_last (p : List Nat) (i : Nat) (h : i + 1 = secs p.length) : piece p i = p.drop (40 * i) ∧ (0 < (piece p i).length ∨ i = 0) := by
  constructor
  · unfold piece
    rw [List.take_of_length_le]
    rw [List.length_drop]; unfold secs at h; omega
  · rw [piece_length]; unfold secs at h; omega
theorem piece_small (p : List Nat) (i : Nat) (h : ∀ x ∈ p, x < 256) : ∀ x ∈ piece p i, x < 256 := fun x hx => h x (List.mem_of_mem_drop (List.mem_of_mem_take hx))
theorem sec_length (e n : Int) (p : List Nat) (i : Nat) : (sec e n p i).length = 24 + (piece p i).length := by simp [sec, head_length]
theorem sec_length_le (e n : Int) (p : List Nat) (i : Nat) : (sec e n p i).length ≤ 64 := by rw [sec_length, piece_length]; omega
theorem secsOf_length (e n : Int) (p : List Nat) : (secsOf e n p).length = secs p.length := by simp [secsOf]
theorem secsOf_get (e n : Int) (p : List Nat) (i : Nat) (h : i < secs p.length) : (secsOf e n p)[i]? = some (sec e n p i) := by simp [secsOf, h]
theorem take_piece (p : List Nat) (i : Nat) : p.take (40 * i) ++ piece p i = p.take (40 * (i + 1)) := by
  unfold piece
  rw [show 40 * (i + 1) = 40 * i + 40 from by omega, List.take_add]

/-- what a reading makes of a sector's bytes, where piece i of record n is due -/
def due (b : List Nat) (e n : Int) (i : Nat) : List Nat × Bool × Bool :=
  if head e n (mark i false) <+: b then (b.drop 24, false, decide ((b.drop 24).length = 40))
  else if head e n (mark i true) <+: b then (b.drop 24, true, decide (0 < (b.drop 24).length ∨ i = 0))
  else ([], false, false)

theorem due_len (b : List Nat) (e n : Int) (i : Nat) : (due b e n i).1.length ≤ b.length := by
  unfold due
  split
  · simp
  · split <;> simp
theorem enc_inj {a b : Int} (ha : -9223372036854775808 ≤ a ∧ a ≤ 9223372036854775807) (hb : -9223372036854775808 ≤ b ∧ b ≤ 9223372036854775807) (h : Pk.enc a = Pk.enc b) : a = b := by
  rw [← Pk.dec_enc a ha, ← Pk.dec_enc b hb, h]
theorem head_mark {e n : Int} {a b : Nat} (ha : a ≤ 100000) (hb : b ≤ 100000) {t : List Nat} (h : head e n a <+: head e n b ++ t) : a = b := by
  have h1 : head e n a = head e n b := by
    have := List.prefix_iff_eq_take.1 h
    rw [head_length, List.take_left' (head_length e n b)] at this
    exact this
  unfold head at h1
  have h2 := List.append_cancel_left h1
  have := enc_inj (by omega) (by omega) h2
  omega
theorem due_sec (e n : Int) (p : List Nat) (i : Nat) (h : i < secs p.length) (hp : p.length ≤ 32768) : due (sec e n p i) e n i = (piece p i, lastAt p i, true) := by
  have hi := secs_le _ hp
  have hd : (sec e n p i).drop 24 = piece p i := by
    unfold sec; rw [List.drop_left' (head_length _ _ _)]
  by_cases hl : i + 1 = secs p.length
  · have el : lastAt p i = true := decide_eq_true hl
    unfold due
    rw [if_neg, if_pos, hd, el]
    · congr 2
      exact decide_eq_true (piece_last p i hl).2
    · unfold sec; rw [el]; exact List.prefix_append _ _
    · intro hp
      unfold sec at hp
      rw [el] at hp
      have := head_mark (by simp [mark]; omega) (by simp [mark]; omega) hp
      simp [mark] at this
  · have el : lastAt p i = false := decide_eq_false hl
    unfold due
    rw [if_pos, hd, el]
    · congr 2
      exact decide_eq_true (piece_full p i (by omega))
    · unfold sec; rw [el]; exact List.prefix_append _ _
/-- a sector that does not begin with the epoch is no piece that is due -/
theorem due_old {b : List Nat} {e n : Int} {i : Nat} (h : ¬ Pk.enc e <+: b) : due b e n i = ([], false, false) := by
  have hh : ∀ m : Int, ¬ head e n m <+: b := fun m hm => h (List.IsPrefix.trans ⟨Pk.enc n ++ Pk.enc m, by simp [head]⟩ hm)
  unfold due
  rw [if_neg (hh _), if_neg (hh _)]

/-- the reading: l sectors are left, the next one is at; R: the records so far; r: the pieces so far of the one that is being read -/
def scan (rd : Nat → Int × List Nat) (e : Int) : Nat → Nat → List (List Nat) → List Nat → List (List Nat)
  | 0, _, R, _ => R
  | l + 1, at_, R, r =>
    let x := due (rd at_).2 e (R.length + 1 : Nat) (r.length / 40)
    if (rd at_).1 ≠ 0 ∨ x.2.2 = false ∨ 32768 < r.length + x.1.length then R
    else if x.2.1 then scan rd e l (at_ + 1) (R ++ [r ++ x.1]) []
    else scan rd e l (at_ + 1) R (r ++ x.1)


/-- the sector is not the one that is due -/
def Bad (rd : Nat → Int × List Nat) (e : Int) (at_ : Nat) (n i : Nat) : Prop := (rd at_).1 ≠ 0 ∨ (due (rd at_).2 e n i).2.2 = false

theorem take_div (p : List Nat) (i : Nat) (h : i < secs p.length) : (p.take (40 * i)).length / 40 = i ∧ (p.take (40 * i)).length = 40 * i := by
  have : (p.take (40 * i)).length = 40 * i := by rw [List.length_take]; unfold secs at h; omega
  rw [this]; omega
theorem scan_bad (rd : Nat → Int × List Nat) (e : Int) (l at_ : Nat) (R : List (List Nat)) (p : List Nat) (i : Nat) (hi : i < secs p.length) (h : Bad rd e at_ (R.length + 1) i) : scan rd e l at_ R (p.take (40 * i)) = R := by
  cases l with
  | zero => rfl
  | succ l =>
    unfold scan
    simp only [(take_div p i hi).1]
    rw [if_pos]
    rcases h with h | h
    · exact .inl h
    · exact .inr (.inl h)
theorem scan_none (rd : Nat → Int × List Nat) (e : Int) (l at_ : Nat) (R : List (List Nat)) (h : Bad rd e at_ (R.length + 1) 0) : scan rd e l at_ R [] = R := by
  have := scan_bad rd e l at_ R [] 0 (secs_pos _) h
  simpa using this
/-- one sector that is right -/
theorem scan_step (rd : Nat → Int × List Nat) (e : Int) (l at_ : Nat) (R : List (List Nat)) (p : List Nat) (i : Nat) (hi : i < secs p.length) (hp : p.length ≤ 32768) (h : rd at_ = (0, sec e (R.length + 1 : Nat) p i)) :
    scan rd e (l + 1) at_ R (p.take (40 * i)) = if i + 1 = secs p.length then scan rd e l (at_ + 1) (R ++ [p]) [] else scan rd e l (at_ + 1) R (p.take (40 * (i + 1))) := by
  rw [scan]
  simp only [(take_div p i hi).1, h, due_sec e _ p i hi hp]
  have h1 : ¬ 32768 < (p.take (40 * i)).length + (piece p i).length := by
    have := congrArg List.length (take_piece p i)
    rw [List.length_append, List.length_take (i := 40 * (i + 1))] at this
    omega
  rw [if_neg (by simp only [ne_eq, not_true_eq_false, false_or, Bool.true_eq_false]; exact h1)]
  by_cases hl : i + 1 = secs p.length
  · rw [if_pos hl, if_pos (show lastAt p i = true from decide_eq_true hl)]
    rw [take_piece]
    congr 3
    rw [List.take_of_length_le]
    unfold secs at hl; omega
  · rw [if_neg hl, if_neg (show ¬ lastAt p i = true from by simp [lastAt, hl])]
    rw [take_piece]
/-- some sectors of a record that are right -/
theorem scan_some (rd : Nat → Int × List Nat) (e : Int) (R : List (List Nat)) (p : List Nat) (hp : p.length ≤ 32768) (at_ : Nat) : ∀ (k l : Nat), k < secs p.length → k ≤ l → (∀ i, i < k → rd (at_ + i) = (0, sec e (R.length + 1 : Nat) p i)) →
    scan rd e l at_ R [] = scan rd e (l - k) (at_ + k) R (p.take (40 * k)) := by
  intro k
  induction k with
  | zero => intro l _ _ _; simp
  | succ k ih =>
    intro l hk hl h
    rw [ih l (by omega) (by omega) (fun i hi => h i (by omega)), show l - k = (l - (k + 1)) + 1 from by omega, scan_step rd e _ _ R p k (by omega) hp (h k (by omega)), if_neg (by omega)]
    rfl
/-- all sectors of a record are right -/
theorem scan_record (rd : Nat → Int × List Nat) (e : Int) (R : List (List Nat)) (p : List Nat) (hp : p.length ≤ 32768) (at_ l : Nat) (hl : secs p.length ≤ l) (h : ∀ i, i < secs p.length → rd (at_ + i) = (0, sec e (R.length + 1 : Nat) p i)) :
    scan rd e l at_ R [] = scan rd e (l - secs p.length) (at_ + secs p.length) (R ++ [p]) [] := by
  have h1 := secs_pos p.length
  rw [scan_some rd e R p hp at_ (secs p.length - 1) l (by omega) (by omega) (fun i hi => h i (by omega)), show l - (secs p.length - 1) = (l - secs p.length) + 1 from by omega, scan_step rd e _ _ R p _ (by omega) hp (h _ (by omega)), if_pos (by omega)]
  congr 1
  omega
/-- a record of which a sector is not right -/
theorem scan_broken (rd : Nat → Int × List Nat) (e : Int) (R : List (List Nat)) (p : List Nat) (hp : p.length ≤ 32768) (at_ l k : Nat) (hk : k < secs p.length) (h : ∀ i, i < k → rd (at_ + i) = (0, sec e (R.length + 1 : Nat) p i)) (hb : Bad rd e (at_ + k) (R.length + 1) k) :
    scan rd e l at_ R [] = R := by
  by_cases hl : k ≤ l
  · rw [scan_some rd e R p hp at_ k l hk hl h]
    exact scan_bad rd e _ _ R p k hk hb
  · rw [show l = l from rfl]
    have : ∀ (l : Nat), l < k → scan rd e l at_ R [] = R := by
      intro l hl
      rw [scan_some rd e R p hp at_ l l (by omega) (Nat.le_refl _) (fun i hi => h i (by omega)), Nat.sub_self]
      rfl
    exact this l (by omega)

/-- the sectors of all records, from number n on -/
def total : List (List Nat) → Nat
  | [] => 0
  | p :: L => secs p.length + total L
theorem total_snoc (L : List (List Nat)) (p : List Nat) : total (L ++ [p]) = total L + secs p.length := by
  induction L with
  | nil => simp [total]
  | cons q L ih => simp only [List.cons_append, total, ih]; omega
/-- from the sector at on lie the records L, the first of which has number n + 1 -/
def Lie (rd : Nat → Int × List Nat) (e : Int) : Nat → Nat → List (List Nat) → Prop
  | _, _, [] => True
  | at_, n, p :: L => (∀ i, i < secs p.length → rd (at_ + i) = (0, sec e (n + 1 : Nat) p i)) ∧ Lie rd e (at_ + secs p.length) (n + 1) L
theorem lie_snoc (rd : Nat → Int × List Nat) (e : Int) (L : List (List Nat)) (p : List Nat) : ∀ at_ n, Lie rd e at_ n (L ++ [p]) ↔ Lie rd e at_ n L ∧ ∀ i, i < secs p.length → rd (at_ + total L + i) = (0, sec e (n + L.length + 1 : Nat) p i) := by
  induction L with
  | nil => intro at_ n; simp [Lie, total]
  | cons q L ih =>
    intro at_ n
    simp only [List.cons_append, Lie, ih, total, List.length_cons]
    rw [show at_ + secs q.length + total L = at_ + (secs q.length + total L) from by omega, show n + 1 + L.length + 1 = n + (L.length + 1) + 1 from by omega]
    exact ⟨fun ⟨a, b, c⟩ => ⟨⟨a, b⟩, c⟩, fun ⟨⟨a, b⟩, c⟩ => ⟨a, b, c⟩⟩
theorem lie_congr (rd rd' : Nat → Int × List Nat) (e : Int) (L : List (List Nat)) : ∀ at_ n, (∀ i, i < total L → rd' (at_ + i) = rd (at_ + i)) → Lie rd e at_ n L → Lie rd' e at_ n L := by
  induction L with
  | nil => intros; trivial
  | cons q L ih =>
    rintro at_ n h ⟨h1, h2⟩
    refine ⟨fun i hi => (h i (by simp only [total]; omega)).trans (h1 i hi), ih _ _ (fun i hi => ?_) h2⟩
    rw [show at_ + secs q.length + i = at_ + (secs q.length + i) from by omega]
    exact h _ (by simp only [total]; omega)
theorem scan_lie (rd : Nat → Int × List Nat) (e : Int) (L : List (List Nat)) : ∀ (at_ l : Nat) (R : List (List Nat)), (∀ p ∈ L, p.length ≤ 32768) → total L ≤ l → Lie rd e at_ R.length L →
    scan rd e l at_ R [] = scan rd e (l - total L) (at_ + total L) (R ++ L) [] := by
  induction L with
  | nil => intro at_ l R _ _ _; simp [total]
  | cons q L ih =>
    rintro at_ l R hp hl ⟨h1, h2⟩
    simp only [total] at hl ⊢
    rw [scan_record rd e R q (hp q (List.mem_cons_self ..)) at_ l (by omega) h1, ih _ _ _ (fun p h => hp p (List.mem_cons_of_mem _ h)) (by omega) (by rw [List.length_append]; exact h2), List.append_assoc, List.singleton_append]
    congr 1 <;> omega
/-- all records, and nothing behind them -/
theorem scan_all (rd : Nat → Int × List Nat) (e : Int) (L : List (List Nat)) (at_ l : Nat) (hp : ∀ p ∈ L, p.length ≤ 32768) (hl : total L ≤ l) (h : Lie rd e at_ 0 L) (hb : total L < l → Bad rd e (at_ + total L) (L.length + 1) 0) : scan rd e l at_ [] [] = L := by
  rw [scan_lie rd e L at_ l [] hp hl h, List.nil_append]
  by_cases hlt : total L < l
  · exact scan_none rd e _ _ L (hb hlt)
  · rw [show l - total L = 0 from by omega]; rfl
/-- all records, and one behind them of which a sector is not right -/
theorem scan_all_broken (rd : Nat → Int × List Nat) (e : Int) (L : List (List Nat)) (at_ l : Nat) (hp : ∀ p ∈ L, p.length ≤ 32768) (hl : total L ≤ l) (h : Lie rd e at_ 0 L) (p : List Nat) (hp' : p.length ≤ 32768) (k : Nat) (hk : k < secs p.length)
    (h1 : ∀ i, i < k → rd (at_ + total L + i) = (0, sec e (L.length + 1 : Nat) p i)) (hb : Bad rd e (at_ + total L + k) (L.length + 1) k) : scan rd e l at_ [] [] = L := by
  rw [scan_lie rd e L at_ l [] hp hl h, List.nil_append]
  exact scan_broken rd e L p hp' _ _ k hk h1 hb
end Jo
end Go.Proofs.YtdgijnolpjaheaaGreat
