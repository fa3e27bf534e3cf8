/- Texts of the proof, one behind the other: JoMath, JoMath2, CkMath. -/
import Derived.Test.YtdgijnolpjaheaaPartAA
import Derived.Test.YtdgijnolpjaheaaPartAC
namespace Go.Proofs.Ytdgijnolpjaheaa
namespace Jo
open Sx

/-- how many sectors a record of k bytes has -/
def secs (k : Nat) : Nat := max 1 ((k + 39) / 40)
/-- the mark of a piece -/
def mark (i : Nat) (last : Bool) : Nat := if last then 2 * i + 1 else 2 * i
/-- what stands ahead of a piece -/
def head (e n m : Int) : List Nat := Pk.enc e ++ Pk.enc n ++ Pk.enc m
def piece (p : List Nat) (i : Nat) : List Nat := (p.drop (40 * i)).take 40
def lastAt (p : List Nat) (i : Nat) : Bool := decide (i + 1 = secs p.length)
/-- the sector of piece i -/
def sec (e n : Int) (p : List Nat) (i : Nat) : List Nat := head e n (mark i (lastAt p i)) ++ piece p i
/-- those of a record -/
def secsOf (e n : Int) (p : List Nat) : List (List Nat) := (List.range (secs p.length)).map (sec e n p)

theorem head_length (e n m : Int) : (head e n m).length = 24 := rfl
theorem head_small (e n m : Int) : ∀ x ∈ head e n m, x < 256 := by
  intro x hx
  simp only [head, List.mem_append] at hx
  rcases hx with (hx | hx) | hx <;> exact Pk.enc_small _ x hx
theorem secs_pos (k : Nat) : 1 ≤ secs k := by unfold secs; omega
theorem secs_le (k : Nat) (h : k ≤ 32768) : secs k ≤ 820 := by unfold secs; omega
theorem piece_length (p : List Nat) (i : Nat) : (piece p i).length = min 40 (p.length - 40 * i) := by simp [piece]
theorem piece_full (p : List Nat) (i : Nat) (h : i + 1 < secs p.length) : (piece p i).length = 40 := by
  rw [piece_length]; unfold secs at h; omega
theorem piece_last (p : List Nat) (i : Nat) (h : i + 1 = secs p.length) : piece p i = p.drop (40 * i) ∧ (0 < (piece p i).length ∨ i = 0) := by
  constructor
  · unfold piece
    rw [List.take_of_length_le]
    rw [List.length_drop]; unfold secs at h; omega
  · rw [piece_length]; unfold secs at h; omega
theorem piece_small (p : List Nat) (i : Nat) (h : ∀ x ∈ p, x < 256) : ∀ x ∈ piece p i, x < 256 := fun x hx => h x (List.mem_of_mem_drop (List.mem_of_mem_take hx))
theorem sec_length (e n : Int) (p : List Nat) (i : Nat) : (sec e n p i).length = 24 + (piece p i).length := by simp [sec, head_length]
theorem sec_length_le (e n : Int) (p : List Nat) (i : Nat) : (sec e n p i).length ≤ 64 := by rw [sec_length, piece_length]; omega
theorem secsOf_length (e n : Int) (p : List Nat) : (secsOf e n p).length = secs p.length := by simp [secsOf]
theorem secsOf_get (e n : Int) (p : List Nat) (i : Nat) (h : i < secs p.length) : (secsOf e n p)[i]? = some (sec e n p i) := by simp [secsOf, h]
theorem take_piece (p : List Nat) (i : Nat) : p.take (40 * i) ++ piece p i = p.take (40 * (i + 1)) := by
  unfold piece
  rw [show 40 * (i + 1) = 40 * i + 40 from by omega, List.take_add]

/-- what a reading makes of a sector's bytes, where piece i of record n is due -/
def due (b : List Nat) (e n : Int) (i : Nat) : List Nat × Bool × Bool :=
  if head e n (mark i false) <+: b then (b.drop 24, false, decide ((b.drop 24).length = 40))
  else if head e n (mark i true) <+: b then (b.drop 24, true, decide (0 < (b.drop 24).length ∨ i = 0))
  else ([], false, false)

theorem due_len (b : List Nat) (e n : Int) (i : Nat) : (due b e n i).1.length ≤ b.length := by
  unfold due
  split
  · simp
  · split <;> simp
theorem enc_inj {a b : Int} (ha : -9223372036854775808 ≤ a ∧ a ≤ 9223372036854775807) (hb : -9223372036854775808 ≤ b ∧ b ≤ 9223372036854775807) (h : Pk.enc a = Pk.enc b) : a = b := by
  rw [← Pk.dec_enc a ha, ← Pk.dec_enc b hb, h]
theorem head_mark {e n : Int} {a b : Nat} (ha : a ≤ 100000) (hb : b ≤ 100000) {t : List Nat} (h : head e n a <+: head e n b ++ t) : a = b := by
  have h1 : head e n a = head e n b := by
    have := List.prefix_iff_eq_take.1 h
    rw [head_length, List.take_left' (head_length e n b)] at this
    exact this
  unfold head at h1
  have h2 := List.append_cancel_left h1
  have := enc_inj (by omega) (by omega) h2
  omega
theorem due_sec (e n : Int) (p : List Nat) (i : Nat) (h : i < secs p.length) (hp : p.length ≤ 32768) : due (sec e n p i) e n i = (piece p i, lastAt p i, true) := by
  have hi := secs_le _ hp
  have hd : (sec e n p i).drop 24 = piece p i := by
    unfold sec; rw [List.drop_left' (head_length _ _ _)]
  by_cases hl : i + 1 = secs p.length
  · have el : lastAt p i = true := decide_eq_true hl
    unfold due
    rw [if_neg, if_pos, hd, el]
    · congr 2
      exact decide_eq_true (piece_last p i hl).2
    · unfold sec; rw [el]; exact List.prefix_append _ _
    · intro hp
      unfold sec at hp
      rw [el] at hp
      have := head_mark (by simp [mark]; omega) (by simp [mark]; omega) hp
      simp [mark] at this
  · have el : lastAt p i = false := decide_eq_false hl
    unfold due
    rw [if_pos, hd, el]
    · congr 2
      exact decide_eq_true (piece_full p i (by omega))
    · unfold sec; rw [el]; exact List.prefix_append _ _
/-- a sector that does not begin with the epoch is no piece that is due -/
theorem due_old {b : List Nat} {e n : Int} {i : Nat} (h : ¬ Pk.enc e <+: b) : due b e n i = ([], false, false) := by
  have hh : ∀ m : Int, ¬ head e n m <+: b := fun m hm => h (List.IsPrefix.trans ⟨Pk.enc n ++ Pk.enc m, by simp [head]⟩ hm)
  unfold due
  rw [if_neg (hh _), if_neg (hh _)]

/-- the reading: l sectors are left, the next one is at; R: the records so far; r: the pieces so far of the one that is being read -/
def scan (rd : Nat → Int × List Nat) (e : Int) : Nat → Nat → List (List Nat) → List Nat → List (List Nat)
  | 0, _, R, _ => R
  | l + 1, at_, R, r =>
    let x := due (rd at_).2 e (R.length + 1 : Nat) (r.length / 40)
    if (rd at_).1 ≠ 0 ∨ x.2.2 = false ∨ 32768 < r.length + x.1.length then R
    else if x.2.1 then scan rd e l (at_ + 1) (R ++ [r ++ x.1]) []
    else scan rd e l (at_ + 1) R (r ++ x.1)


/-- the sector is not the one that is due -/
def Bad (rd : Nat → Int × List Nat) (e : Int) (at_ : Nat) (n i : Nat) : Prop := (rd at_).1 ≠ 0 ∨ (due (rd at_).2 e n i).2.2 = false

theorem take_div (p : List Nat) (i : Nat) (h : i < secs p.length) : (p.take (40 * i)).length / 40 = i ∧ (p.take (40 * i)).length = 40 * i := by
  have : (p.take (40 * i)).length = 40 * i := by rw [List.length_take]; unfold secs at h; omega
  rw [this]; omega
theorem scan_bad (rd : Nat → Int × List Nat) (e : Int) (l at_ : Nat) (R : List (List Nat)) (p : List Nat) (i : Nat) (hi : i < secs p.length) (h : Bad rd e at_ (R.length + 1) i) : scan rd e l at_ R (p.take (40 * i)) = R := by
  cases l with
  | zero => rfl
  | succ l =>
    unfold scan
    simp only [(take_div p i hi).1]
    rw [if_pos]
    rcases h with h | h
    · exact .inl h
    · exact .inr (.inl h)
theorem scan_none (rd : Nat → Int × List Nat) (e : Int) (l at_ : Nat) (R : List (List Nat)) (h : Bad rd e at_ (R.length + 1) 0) : scan rd e l at_ R [] = R := by
  have := scan_bad rd e l at_ R [] 0 (secs_pos _) h
  simpa using this
/-- one sector that is right -/
theorem scan_step (rd : Nat → Int × List Nat) (e : Int) (l at_ : Nat) (R : List (List Nat)) (p : List Nat) (i : Nat) (hi : i < secs p.length) (hp : p.length ≤ 32768) (h : rd at_ = (0, sec e (R.length + 1 : Nat) p i)) :
    scan rd e (l + 1) at_ R (p.take (40 * i)) = if i + 1 = secs p.length then scan rd e l (at_ + 1) (R ++ [p]) [] else scan rd e l (at_ + 1) R (p.take (40 * (i + 1))) := by
  rw [scan]
  simp only [(take_div p i hi).1, h, due_sec e _ p i hi hp]
  have h1 : ¬ 32768 < (p.take (40 * i)).length + (piece p i).length := by
    have := congrArg List.length (take_piece p i)
    rw [List.length_append, List.length_take (i := 40 * (i + 1))] at this
    omega
  rw [if_neg (by simp only [ne_eq, not_true_eq_false, false_or, Bool.true_eq_false]; exact h1)]
  by_cases hl : i + 1 = secs p.length
  · rw [if_pos hl, if_pos (show lastAt p i = true from decide_eq_true hl)]
    rw [take_piece]
    congr 3
    rw [List.take_of_length_le]
    unfold secs at hl; omega
  · rw [if_neg hl, if_neg (show ¬ lastAt p i = true from by simp [lastAt, hl])]
    rw [take_piece]
/-- some sectors of a record that are right -/
theorem scan_some (rd : Nat → Int × List Nat) (e : Int) (R : List (List Nat)) (p : List Nat) (hp : p.length ≤ 32768) (at_ : Nat) : ∀ (k l : Nat), k < secs p.length → k ≤ l → (∀ i, i < k → rd (at_ + i) = (0, sec e (R.length + 1 : Nat) p i)) →
    scan rd e l at_ R [] = scan rd e (l - k) (at_ + k) R (p.take (40 * k)) := by
  intro k
  induction k with
  | zero => intro l _ _ _; simp
  | succ k ih =>
    intro l hk hl h
    rw [ih l (by omega) (by omega) (fun i hi => h i (by omega)), show l - k = (l - (k + 1)) + 1 from by omega, scan_step rd e _ _ R p k (by omega) hp (h k (by omega)), if_neg (by omega)]
    rfl
/-- all sectors of a record are right -/
theorem scan_record (rd : Nat → Int × List Nat) (e : Int) (R : List (List Nat)) (p : List Nat) (hp : p.length ≤ 32768) (at_ l : Nat) (hl : secs p.length ≤ l) (h : ∀ i, i < secs p.length → rd (at_ + i) = (0, sec e (R.length + 1 : Nat) p i)) :
    scan rd e l at_ R [] = scan rd e (l - secs p.length) (at_ + secs p.length) (R ++ [p]) [] := by
  have h1 := secs_pos p.length
  rw [scan_some rd e R p hp at_ (secs p.length - 1) l (by omega) (by omega) (fun i hi => h i (by omega)), show l - (secs p.length - 1) = (l - secs p.length) + 1 from by omega, scan_step rd e _ _ R p _ (by omega) hp (h _ (by omega)), if_pos (by omega)]
  congr 1
  omega
/-- a record of which a sector is not right -/
theorem scan_broken (rd : Nat → Int × List Nat) (e : Int) (R : List (List Nat)) (p : List Nat) (hp : p.length ≤ 32768) (at_ l k : Nat) (hk : k < secs p.length) (h : ∀ i, i < k → rd (at_ + i) = (0, sec e (R.length + 1 : Nat) p i)) (hb : Bad rd e (at_ + k) (R.length + 1) k) :
    scan rd e l at_ R [] = R := by
  by_cases hl : k ≤ l
  · rw [scan_some rd e R p hp at_ k l hk hl h]
    exact scan_bad rd e _ _ R p k hk hb
  · rw [show l = l from rfl]
    have : ∀ (l : Nat), l < k → scan rd e l at_ R [] = R := by
      intro l hl
      rw [scan_some rd e R p hp at_ l l (by omega) (Nat.le_refl _) (fun i hi => h i (by omega)), Nat.sub_self]
      rfl
    exact this l (by omega)

/-- the sectors of all records, from number n on -/
def total : List (List Nat) → Nat
  | [] => 0
  | p :: L => secs p.length + total L
theorem total_snoc (L : List (List Nat)) (p : List Nat) : total (L ++ [p]) = total L + secs p.length := by
  induction L with
  | nil => simp [total]
  | cons q L ih => simp only [List.cons_append, total, ih]; omega
/-- from the sector at on lie the records L, the first of which has number n + 1 -/
def Lie (rd : Nat → Int × List Nat) (e : Int) : Nat → Nat → List (List Nat) → Prop
  | _, _, [] => True
  | at_, n, p :: L => (∀ i, i < secs p.length → rd (at_ + i) = (0, sec e (n + 1 : Nat) p i)) ∧ Lie rd e (at_ + secs p.length) (n + 1) L
theorem lie_snoc (rd : Nat → Int × List Nat) (e : Int) (L : List (List Nat)) (p : List Nat) : ∀ at_ n, Lie rd e at_ n (L ++ [p]) ↔ Lie rd e at_ n L ∧ ∀ i, i < secs p.length → rd (at_ + total L + i) = (0, sec e (n + L.length + 1 : Nat) p i) := by
  induction L with
  | nil => intro at_ n; simp [Lie, total]
  | cons q L ih =>
    intro at_ n
    simp only [List.cons_append, Lie, ih, total, List.length_cons]
    rw [show at_ + secs q.length + total L = at_ + (secs q.length + total L) from by omega, show n + 1 + L.length + 1 = n + (L.length + 1) + 1 from by omega]
    exact ⟨fun ⟨a, b, c⟩ => ⟨⟨a, b⟩, c⟩, fun ⟨⟨a, b⟩, c⟩ => ⟨a, b, c⟩⟩
theorem lie_congr (rd rd' : Nat → Int × List Nat) (e : Int) (L : List (List Nat)) : ∀ at_ n, (∀ i, i < total L → rd' (at_ + i) = rd (at_ + i)) → Lie rd e at_ n L → Lie rd' e at_ n L := by
  induction L with
  | nil => intros; trivial
  | cons q L ih =>
    rintro at_ n h ⟨h1, h2⟩
    refine ⟨fun i hi => (h i (by simp only [total]; omega)).trans (h1 i hi), ih _ _ (fun i hi => ?_) h2⟩
    rw [show at_ + secs q.length + i = at_ + (secs q.length + i) from by omega]
    exact h _ (by simp only [total]; omega)
theorem scan_lie (rd : Nat → Int × List Nat) (e : Int) (L : List (List Nat)) : ∀ (at_ l : Nat) (R : List (List Nat)), (∀ p ∈ L, p.length ≤ 32768) → total L ≤ l → Lie rd e at_ R.length L →
    scan rd e l at_ R [] = scan rd e (l - total L) (at_ + total L) (R ++ L) [] := by
  induction L with
  | nil => intro at_ l R _ _ _; simp [total]
  | cons q L ih =>
    rintro at_ l R hp hl ⟨h1, h2⟩
    simp only [total] at hl ⊢
    rw [scan_record rd e R q (hp q (List.mem_cons_self ..)) at_ l (by omega) h1, ih _ _ _ (fun p h => hp p (List.mem_cons_of_mem _ h)) (by omega) (by rw [List.length_append]; exact h2), List.append_assoc, List.singleton_append]
    congr 1 <;> omega
/-- all records, and nothing behind them -/
theorem scan_all (rd : Nat → Int × List Nat) (e : Int) (L : List (List Nat)) (at_ l : Nat) (hp : ∀ p ∈ L, p.length ≤ 32768) (hl : total L ≤ l) (h : Lie rd e at_ 0 L) (hb : total L < l → Bad rd e (at_ + total L) (L.length + 1) 0) : scan rd e l at_ [] [] = L := by
  rw [scan_lie rd e L at_ l [] hp hl h, List.nil_append]
  by_cases hlt : total L < l
  · exact scan_none rd e _ _ L (hb hlt)
  · rw [show l - total L = 0 from by omega]; rfl
/-- all records, and one behind them of which a sector is not right -/
theorem scan_all_broken (rd : Nat → Int × List Nat) (e : Int) (L : List (List Nat)) (at_ l : Nat) (hp : ∀ p ∈ L, p.length ≤ 32768) (hl : total L ≤ l) (h : Lie rd e at_ 0 L) (p : List Nat) (hp' : p.length ≤ 32768) (k : Nat) (hk : k < secs p.length)
    (h1 : ∀ i, i < k → rd (at_ + total L + i) = (0, sec e (L.length + 1 : Nat) p i)) (hb : Bad rd e (at_ + total L + k) (L.length + 1) k) : scan rd e l at_ [] [] = L := by
  rw [scan_lie rd e L at_ l [] hp hl h, List.nil_append]
  exact scan_broken rd e L p hp' _ _ k hk h1 hb
end Jo
end Go.Proofs.Ytdgijnolpjaheaa
namespace Go.Proofs.Ytdgijnolpjaheaa
namespace Jo
open Sx

/-- rows are written one after the other -/
def wrL (s : St) (a : Nat) : List (List Nat) → St
  | [] => s
  | b :: T => wrL (wrS s (a : Int) b) (a + 1) T
def okL (s : St) (a : Nat) : List (List Nat) → Prop
  | [] => True
  | b :: T => wrE s (a : Int) b = 0 ∧ okL (wrS s (a : Int) b) (a + 1) T
/-- .. and the disk is flushed; the first that fails ends it -/
def run (s : St) (a : Nat) : List (List Nat) → Int × St
  | [] => (spE s, flS s)
  | b :: T => if wrE s (a : Int) b = 0 then run (wrS s (a : Int) b) (a + 1) T else (wrE s (a : Int) b, wrS s (a : Int) b)

theorem wrL_snoc (T : List (List Nat)) (b : List Nat) : ∀ (s : St) (a : Nat), wrL s a (T ++ [b]) = wrS (wrL s a T) ((a + T.length : Nat) : Int) b := by
  induction T with
  | nil => intro s a; rfl
  | cons c T ih => intro s a; simp only [List.cons_append, wrL, ih, List.length_cons]; rw [show a + 1 + T.length = a + (T.length + 1) from by omega]
theorem okL_snoc (T : List (List Nat)) (b : List Nat) : ∀ (s : St) (a : Nat), okL s a (T ++ [b]) ↔ okL s a T ∧ wrE (wrL s a T) ((a + T.length : Nat) : Int) b = 0 := by
  induction T with
  | nil => intro s a; simp [okL, wrL]
  | cons c T ih => intro s a; simp only [List.cons_append, okL, wrL, ih, List.length_cons, and_assoc]; rw [show a + 1 + T.length = a + (T.length + 1) from by omega]
theorem run_done (T : List (List Nat)) : ∀ (s : St) (a : Nat), okL s a T → run s a T = (spE (wrL s a T), flS (wrL s a T)) := by
  induction T with
  | nil => intro s a _; rfl
  | cons c T ih => rintro s a ⟨h1, h2⟩; simp only [run, wrL]; rw [if_pos h1]; exact ih _ _ h2
theorem run_stop (T : List (List Nat)) (b : List Nat) (M : List (List Nat)) : ∀ (s : St) (a : Nat), okL s a T → wrE (wrL s a T) ((a + T.length : Nat) : Int) b ≠ 0 → run s a (T ++ b :: M) = (wrE (wrL s a T) ((a + T.length : Nat) : Int) b, wrL s a (T ++ [b])) := by
  induction T with
  | nil => intro s a _ h; simp only [List.nil_append, run, wrL, List.length_nil, Nat.add_zero] at h ⊢; rw [if_neg h]
  | cons c T ih =>
    rintro s a ⟨h1, h2⟩ h
    simp only [List.cons_append, run, wrL, List.length_cons] at h ⊢
    rw [if_pos h1]
    rw [show a + (T.length + 1) = a + 1 + T.length from by omega] at h ⊢
    exact ih _ _ h2 h

/-- what the power makes of a write that is right -/
theorem wr_cases (s : St) (a : Nat) (b : List Nat) (ha : a < s.n) (hb : b.length ≤ 64) :
    (wrE s a b = 0 ∧ s.down = false ∧ s.dead = false ∧ wrS s a b = { s.spent with cache := upd s.cache a (some b) }) ∨ (wrE s a b = 10 ∧ (wrS s a b).down = true ∧ (wrS s a b).n = s.n ∧ (wrS s a b).dur = s.dur ∧ (wrS s a b).cache = s.cache) := by
  have h0 : (0 : Int) ≤ a ∧ (a : Int) < s.n := by omega
  by_cases hd : s.down = true
  · right
    simp [wrE, wrS, hd]
  · have hd' : s.down = false := by simpa using hd
    by_cases hx : s.dead = true
    · right
      simp [wrE, wrS, hd', h0, Nat.not_lt.2 hb, spE, hx, St.off]
    · have hx' : s.dead = false := by simpa using hx
      left
      simp [wrE, wrS, hd', h0, Nat.not_lt.2 hb, spE, hx']
theorem fl_cases (s : St) : (spE s = 0 ∧ s.down = false ∧ s.dead = false ∧ flS s = { s.spent with dur := fun i => settle1 (s.cache i) (s.dur i) 1, cache := fun _ => none }) ∨ (spE s = 10 ∧ (flS s).down = true ∧ (flS s).n = s.n ∧ (flS s).dur = s.dur ∧ (flS s).cache = s.cache) := by
  by_cases hx : s.dead = true
  · right; simp [spE, flS, hx, St.off]
  · have hx' : s.dead = false := by simpa using hx
    by_cases hd : s.down = true
    · right; simp [spE, flS, hx', hd]
    · have hd' : s.down = false := by simpa using hd
      left; simp [spE, flS, hx', hd']

/-- what the cache holds where m of the rows T have been written from a on -/
def laid (c : Nat → Option (List Nat)) (a : Nat) (T : List (List Nat)) (m : Nat) : Nat → Option (List Nat) := fun i => if a ≤ i ∧ i < a + m then T[i - a]? else c i
theorem laid_zero (c : Nat → Option (List Nat)) (a : Nat) (T : List (List Nat)) : laid c a T 0 = c := by
  funext i; unfold laid; rw [if_neg (by omega)]
theorem laid_cons (c : Nat → Option (List Nat)) (a : Nat) (b : List Nat) (T : List (List Nat)) (m : Nat) : laid (upd c a (some b)) (a + 1) T m = laid c a (b :: T) (m + 1) := by
  funext i
  unfold laid upd
  by_cases h1 : i = a
  · subst h1
    rw [if_neg (by omega), if_pos rfl, if_pos (by omega), Nat.sub_self]; rfl
  · by_cases h2 : a + 1 ≤ i ∧ i < a + 1 + m
    · rw [if_pos h2, if_pos (by omega), show i - a = (i - (a + 1)) + 1 from by omega, List.getElem?_cons_succ]
    · rw [if_neg h2, if_neg h1, if_neg (by omega)]
theorem run_cases (T : List (List Nat)) : ∀ (s : St) (a : Nat), a + T.length ≤ s.n → (∀ b ∈ T, b.length ≤ 64) →
    ((run s a T).1 = 0 ∧ (run s a T).2.n = s.n ∧ (run s a T).2.cache = (fun _ => none) ∧ (run s a T).2.dur = (fun i => settle1 (laid s.cache a T T.length i) (s.dur i) 1) ∧ (run s a T).2.armed = s.armed ∧ (run s a T).2.down = false) ∨
    ((run s a T).1 = 10 ∧ (run s a T).2.down = true ∧ (run s a T).2.n = s.n ∧ (run s a T).2.dur = s.dur ∧ ∃ m, m ≤ T.length ∧ (run s a T).2.cache = laid s.cache a T m) := by
  induction T with
  | nil =>
    intro s a _ _
    simp only [run]
    rcases fl_cases s with ⟨h1, h2, h3, h4⟩ | ⟨h1, h2, h3, h4, h5⟩
    · left
      refine ⟨h1, ?_, ?_, ?_, ?_, ?_⟩ <;> rw [h4]
      · rfl
      · simp only [List.length_nil, laid_zero]
      · rfl
      · exact h2
    · right
      exact ⟨h1, h2, h3, h4, 0, Nat.le_refl _, by rw [laid_zero]; exact h5⟩
  | cons b T ih =>
    intro s a hn hb
    simp only [List.length_cons] at hn
    simp only [run]
    rcases wr_cases s a b (by omega) (hb b (List.mem_cons_self ..)) with ⟨h1, h2, h3, h4⟩ | ⟨h1, h2, h3, h4, h5⟩
    · rw [if_pos h1]
      have hn' : (wrS s a b).n = s.n := by rw [h4]; rfl
      have hd' : (wrS s a b).dur = s.dur := by rw [h4]; rfl
      have hc' : (wrS s a b).cache = upd s.cache a (some b) := by rw [h4]
      have ha' : (wrS s a b).armed = s.armed := by rw [h4]; rfl
      rcases ih (wrS s a b) (a + 1) (by omega) (fun c hc => hb c (List.mem_cons_of_mem _ hc)) with ⟨g1, g2, g3, g4, g5, g6⟩ | ⟨g1, g2, g3, g4, m, g5, g6⟩
      · left
        refine ⟨g1, g2.trans hn', g3, ?_, g5.trans ha', g6⟩
        rw [g4, hc', hd', laid_cons]; rfl
      · right
        refine ⟨g1, g2, g3.trans hn', g4.trans hd', m + 1, by simp only [List.length_cons]; omega, ?_⟩
        rw [g6, hc', laid_cons]
    · rw [if_neg (by omega)]
      right
      exact ⟨h1, h2, h3, h4, 0, Nat.zero_le _, by rw [laid_zero]; exact h5⟩
/-- where the power cannot fail -/
theorem run_safe (T : List (List Nat)) (s : St) (a : Nat) (hn : a + T.length ≤ s.n) (hb : ∀ b ∈ T, b.length ≤ 64) (h1 : s.armed = false) (h2 : s.down = false) : (run s a T).1 = 0 := by
  induction T generalizing s a with
  | nil => simp [run, spE, St.dead, h1, h2]
  | cons b T ih =>
    simp only [List.length_cons] at hn
    have h0 : (0 : Int) ≤ a ∧ (a : Int) < s.n := by omega
    have hx : s.dead = false := by simp [St.dead, h1]
    have he : wrE s a b = 0 := by simp [wrE, h2, h0, Nat.not_lt.2 (hb b (List.mem_cons_self ..)), spE, hx]
    have hs : wrS s a b = { s.spent with cache := upd s.cache a (some b) } := by simp [wrS, h2, h0, Nat.not_lt.2 (hb b (List.mem_cons_self ..)), hx]
    simp only [run]
    rw [if_pos he]
    refine ih _ _ ?_ (fun c hc => hb c (List.mem_cons_of_mem _ hc)) ?_ ?_
    · rw [hs]; show a + 1 + T.length ≤ s.n; omega
    · rw [hs]; exact h1
    · rw [hs]; exact h2

/-- what is read -/
def rdOf (s : St) : Nat → Int × List Nat := fun i => (rdE s i, rdB s i)
theorem rdOf_clean (s : St) (i : Nat) (hi : i < s.n) (hc : s.cache i = none) : rdOf s i = if (s.dur i).2 then (9, []) else (0, (s.dur i).1) := by
  have h0 : (0 : Int) ≤ i ∧ (i : Int) < s.n := by omega
  unfold rdOf rdE rdB
  simp only [h0, if_true, and_self, Int.toNat_natCast, hc]
  by_cases h : (s.dur i).2 = true <;> simp [h]
/-- nothing of the epoch -/
def Old (e : Int) (d : List Nat × Bool) : Prop := d.2 = true ∨ ¬ Pk.enc e <+: d.1
theorem old_bad {s : St} {e : Int} {i n k : Nat} (hi : i < s.n) (hc : s.cache i = none) (h : Old e (s.dur i)) : Bad (rdOf s) e i n k := by
  unfold Bad
  rw [rdOf_clean s i hi hc]
  by_cases ht : (s.dur i).2 = true
  · left; simp [ht]
  · right
    rw [if_neg ht]
    rw [due_old (h.resolve_left ht)]

/-- the area from f on, of n sectors, holds the records L of the epoch and nothing more of it, all durable -/
structure Good (s : St) (e : Int) (f n : Nat) (L : List (List Nat)) : Prop where
  area : f + n ≤ s.n
  clean : ∀ i, s.cache i = none
  fit : total L ≤ n
  small : ∀ p ∈ L, p.length ≤ 32768
  lie : Lie (rdOf s) e f 0 L
  rest : ∀ i, total L ≤ i → i < n → Old e (s.dur (f + i))
theorem Good.scan {s : St} {e : Int} {f n : Nat} {L : List (List Nat)} (h : Good s e f n L) : Jo.scan (rdOf s) e n f [] [] = L :=
  scan_all _ e L f n h.small h.fit h.lie (fun hl => old_bad (by have := h.area; omega) (h.clean _) (h.rest _ (Nat.le_refl _) hl))

/-- nothing of this epoch, nor of a later one -/
structure Fresh (e : Int) (s : St) : Prop where
  clean : ∀ i, s.cache i = none
  old : ∀ e', e ≤ e' → e' ≤ 1099511627776 → ∀ i, Old e' (s.dur i)
theorem Fresh.good {s : St} {e : Int} (h : Fresh e s) (he : e ≤ 1099511627776) {f n : Nat} (ha : f + n ≤ s.n) : Good s e f n [] :=
  ⟨ha, h.clean, Nat.zero_le _, by simp, trivial, fun i _ _ => h.old e (Int.le_refl _) he _⟩
theorem Fresh.more {s : St} {e e' : Int} (h : Fresh e s) (he : e ≤ e') : Fresh e' s := ⟨h.clean, fun x hx => h.old x (by omega)⟩
theorem fresh_new (n : Nat) (e : Int) : Fresh e (new n) := by
  refine ⟨fun _ => rfl, fun e' _ _ i => .inr ?_⟩
  show ¬ Pk.enc e' <+: []
  intro h
  have := h.length_le
  simp [Pk.enc_length] at this
theorem old_sec {e e' : Int} (h0 : 0 ≤ e) (h1 : e < e') (h2 : e' ≤ 1099511627776) (n : Int) (p : List Nat) (i : Nat) : Old e' (sec e n p i, false) := by
  right
  intro h
  have h3 : Pk.enc e' = Pk.enc e := by
    have := List.prefix_iff_eq_take.1 h
    rw [this, Pk.enc_length]
    show ((Pk.enc e ++ Pk.enc n ++ Pk.enc _) ++ piece p i).take 8 = _
    rw [List.append_assoc, List.append_assoc, List.take_left' (Pk.enc_length e)]
  have := enc_inj (by omega) (by omega) h3
  omega

theorem laid_none (s : St) (hc : ∀ i, s.cache i = none) (a : Nat) (e n : Int) (p : List Nat) (m : Nat) (hm : m ≤ secs p.length) (i : Nat) : laid s.cache a (secsOf e n p) m i = if a ≤ i ∧ i < a + m then some (sec e n p (i - a)) else none := by
  unfold laid
  by_cases h : a ≤ i ∧ i < a + m
  · rw [if_pos h, if_pos h, secsOf_get _ _ _ _ (by omega)]
  · rw [if_neg h, if_neg h, hc]
theorem secsOf_small (e n : Int) (p : List Nat) : ∀ b ∈ secsOf e n p, b.length ≤ 64 := by
  intro b hb
  obtain ⟨i, _, rfl⟩ := List.mem_map.1 hb
  exact sec_length_le e n p i

/-- an append that is done -/
theorem run_good {s : St} {e : Int} {f n : Nat} {L : List (List Nat)} (h : Good s e f n L) (p : List Nat) (hp : p.length ≤ 32768) (hr : secs p.length ≤ n - total L)
    (h0 : (run s (f + total L) (secsOf e (L.length + 1 : Nat) p)).1 = 0) :
    Good (run s (f + total L) (secsOf e (L.length + 1 : Nat) p)).2 e f n (L ++ [p]) ∧ (0 ≤ e → Fresh (e + 1) s → Fresh (e + 1) (run s (f + total L) (secsOf e (L.length + 1 : Nat) p)).2) ∧
    (run s (f + total L) (secsOf e (L.length + 1 : Nat) p)).2.n = s.n ∧ (run s (f + total L) (secsOf e (L.length + 1 : Nat) p)).2.armed = s.armed ∧ (run s (f + total L) (secsOf e (L.length + 1 : Nat) p)).2.down = false := by
  have ha := h.area
  have hf := h.fit
  have hpos := secs_pos p.length
  rcases run_cases (secsOf e (L.length + 1 : Nat) p) s (f + total L) (by rw [secsOf_length]; omega) (secsOf_small _ _ _) with ⟨_, g2, g3, g4, g5, g6⟩ | ⟨g1, _⟩
  · generalize hs : (run s (f + total L) (secsOf e (L.length + 1 : Nat) p)).2 = s' at *
    have hd : ∀ i, s'.dur i = if f + total L ≤ i ∧ i < f + total L + secs p.length then (sec e (L.length + 1 : Nat) p (i - (f + total L)), false) else s.dur i := by
      intro i
      rw [g4, secsOf_length]
      show settle1 (laid _ _ _ _ i) _ 1 = _
      rw [laid_none s h.clean _ _ _ _ _ (Nat.le_refl _)]
      by_cases hi : f + total L ≤ i ∧ i < f + total L + secs p.length
      · rw [if_pos hi, if_pos hi]; rfl
      · rw [if_neg hi, if_neg hi]; rfl
    have hc : ∀ i, s'.cache i = none := fun i => by rw [g3]
    have hsame : ∀ i, i < f + total L → rdOf s' i = rdOf s i := fun i hi => by
      have h1 := hd i
      rw [if_neg (by omega)] at h1
      rw [rdOf_clean s' i (by omega) (hc i), rdOf_clean s i (by omega) (h.clean i), h1]
    refine ⟨⟨by omega, hc, by rw [total_snoc]; omega, ?_, ?_, ?_⟩, ?_, g2, g5, g6⟩
    · intro q hq
      rcases List.mem_append.1 hq with hq | hq
      · exact h.small q hq
      · simp only [List.mem_singleton] at hq; subst hq; exact hp
    · rw [lie_snoc]
      refine ⟨lie_congr _ _ e L f 0 (fun i hi => hsame _ (by omega)) h.lie, fun i hi => ?_⟩
      have h1 := hd (f + total L + i)
      rw [if_pos (by omega), show f + total L + i - (f + total L) = i from by omega] at h1
      rw [rdOf_clean s' _ (by omega) (hc _), h1, Nat.zero_add]
      rfl
    · intro i h1 h2
      rw [total_snoc] at h1
      rw [hd, if_neg (by omega)]
      exact h.rest i (by omega) h2
    · intro he hF
      refine ⟨hc, fun e' h1 h2 i => ?_⟩
      rw [hd]
      by_cases hi : f + total L ≤ i ∧ i < f + total L + secs p.length
      · rw [if_pos hi]; exact old_sec he (by omega) h2 _ _ _
      · rw [if_neg hi]; exact hF.old e' h1 h2 i
  · rw [h0] at g1; cases g1
/-- .. and what is read behind a crash, where it is not -/
theorem run_broken {s : St} {e : Int} {f n : Nat} {L : List (List Nat)} (h : Good s e f n L) (p : List Nat) (hp : p.length ≤ 32768) (hr : secs p.length ≤ n - total L)
    (h0 : (run s (f + total L) (secsOf e (L.length + 1 : Nat) p)).1 ≠ 0) :
    (run s (f + total L) (secsOf e (L.length + 1 : Nat) p)).1 = 10 ∧ (run s (f + total L) (secsOf e (L.length + 1 : Nat) p)).2.down = true ∧ (run s (f + total L) (secsOf e (L.length + 1 : Nat) p)).2.n = s.n ∧
    ∀ l, (scan (rdOf (crash (run s (f + total L) (secsOf e (L.length + 1 : Nat) p)).2 l)) e n f [] [] = L ∨ scan (rdOf (crash (run s (f + total L) (secsOf e (L.length + 1 : Nat) p)).2 l)) e n f [] [] = L ++ [p]) ∧
      (0 ≤ e → Fresh (e + 1) s → Fresh (e + 1) (crash (run s (f + total L) (secsOf e (L.length + 1 : Nat) p)).2 l)) := by
  have ha := h.area
  have hf := h.fit
  have hpos := secs_pos p.length
  rcases run_cases (secsOf e (L.length + 1 : Nat) p) s (f + total L) (by rw [secsOf_length]; omega) (secsOf_small _ _ _) with ⟨g1, _⟩ | ⟨g1, g2, g3, g4, m, g5, g6⟩
  · exact absurd g1 h0
  · generalize hs : (run s (f + total L) (secsOf e (L.length + 1 : Nat) p)).2 = s' at *
    refine ⟨g1, g2, g3, fun l => ?_⟩
    rw [secsOf_length] at g5
    have hn : (crash s' l).n = s.n := g3
    have hc : ∀ i, (crash s' l).cache i = none := fun i => rfl
    have hout : ∀ i, ¬ (f + total L ≤ i ∧ i < f + total L + m) → (crash s' l).dur i = s.dur i := by
      intro i hi
      show settle1 (s'.cache i) (s'.dur i) _ = _
      rw [g6, laid_none s h.clean _ _ _ _ _ g5, if_neg hi, g4]; rfl
    have hin : ∀ i, i < m → (crash s' l).dur (f + total L + i) = s.dur (f + total L + i) ∨ (crash s' l).dur (f + total L + i) = (sec e (L.length + 1 : Nat) p i, false) ∨ (crash s' l).dur (f + total L + i) = ([], true) := by
      intro i hi
      have e1 : (crash s' l).dur (f + total L + i) = settle1 (some (sec e (L.length + 1 : Nat) p i)) (s.dur (f + total L + i)) (fateAt s' l (f + total L + i)) := by
        show settle1 (s'.cache _) (s'.dur _) _ = _
        rw [g6, laid_none s h.clean _ _ _ _ _ g5, if_pos (by omega), g4, show f + total L + i - (f + total L) = i from by omega]
      rw [e1]
      unfold settle1
      simp only
      by_cases h1 : fateAt s' l (f + total L + i) = 0
      · rw [if_pos h1]; exact .inl rfl
      · rw [if_neg h1]
        by_cases h2 : fateAt s' l (f + total L + i) = 1
        · rw [if_pos h2]; exact .inr (.inl rfl)
        · rw [if_neg h2]; exact .inr (.inr rfl)
    have hlie : Lie (rdOf (crash s' l)) e f 0 L := lie_congr _ _ e L f 0 (fun i hi => by
      rw [rdOf_clean _ _ (by omega) (hc _), rdOf_clean s _ (by omega) (h.clean _), hout _ (by omega)]) h.lie
    refine ⟨?_, ?_⟩
    · by_cases hall : ∀ i, i < secs p.length → rdOf (crash s' l) (f + total L + i) = (0, sec e (L.length + 1 : Nat) p i)
      · right
        refine scan_all _ e (L ++ [p]) f n ?_ (by rw [total_snoc]; omega) ?_ ?_
        · intro q hq
          rcases List.mem_append.1 hq with hq | hq
          · exact h.small q hq
          · simp only [List.mem_singleton] at hq; subst hq; exact hp
        · rw [lie_snoc]; exact ⟨hlie, fun i hi => by rw [hall i hi, Nat.zero_add]⟩
        · intro hlt
          rw [total_snoc] at hlt ⊢
          refine old_bad (by omega) (hc _) ?_
          rw [hout _ (by omega)]
          exact h.rest _ (by omega) hlt
      · left
        have hex : ∃ k, k < secs p.length ∧ rdOf (crash s' l) (f + total L + k) ≠ (0, sec e (L.length + 1 : Nat) p k) ∧ ∀ i, i < k → rdOf (crash s' l) (f + total L + i) = (0, sec e (L.length + 1 : Nat) p i) := by
          have hmin : ∀ N, N ≤ secs p.length → (∀ i, i < N → rdOf (crash s' l) (f + total L + i) = (0, sec e (L.length + 1 : Nat) p i)) ∨ ∃ k, k < N ∧ rdOf (crash s' l) (f + total L + k) ≠ (0, sec e (L.length + 1 : Nat) p k) ∧ ∀ i, i < k → rdOf (crash s' l) (f + total L + i) = (0, sec e (L.length + 1 : Nat) p i) := by
            intro N
            induction N with
            | zero => intro _; left; intro i hi; omega
            | succ N ih =>
              intro hN
              rcases ih (by omega) with h1 | ⟨k, h1, h2, h3⟩
              · by_cases h2 : rdOf (crash s' l) (f + total L + N) = (0, sec e (L.length + 1 : Nat) p N)
                · left
                  intro i hi
                  by_cases e1 : i = N
                  · subst e1; exact h2
                  · exact h1 i (by omega)
                · exact .inr ⟨N, by omega, h2, h1⟩
              · exact .inr ⟨k, by omega, h2, h3⟩
          rcases hmin _ (Nat.le_refl _) with h1 | h1
          · exact absurd h1 hall
          · exact h1
        obtain ⟨k, hk, hk1, hk2⟩ := hex
        refine scan_all_broken _ e L f n h.small hf hlie p hp k hk hk2 ?_
        have hold : Old e (s.dur (f + total L + k)) := by
          rw [Nat.add_assoc]; exact h.rest _ (by omega) (by omega)
        refine old_bad (by omega) (hc _) ?_
        by_cases hkm : k < m
        · rcases hin k hkm with h1 | h1 | h1
          · rw [h1]; exact hold
          · exact absurd (by rw [rdOf_clean _ _ (by omega) (hc _), h1]; rfl) hk1
          · rw [h1]; exact .inl rfl
        · rw [hout _ (by omega)]; exact hold
    · intro he hF
      refine ⟨hc, fun e' h1 h2 i => ?_⟩
      by_cases hi : f + total L ≤ i ∧ i < f + total L + m
      · obtain ⟨j, rfl⟩ : ∃ j, i = f + total L + j := ⟨i - (f + total L), by omega⟩
        rcases hin j (by omega) with h3 | h3 | h3
        · rw [h3]; exact hF.old e' h1 h2 _
        · rw [h3]; exact old_sec he (by omega) h2 _ _ _
        · rw [h3]; exact .inl rfl
      · rw [hout i hi]; exact hF.old e' h1 h2 i
/-- a crash where nothing is dirty -/
theorem good_crash {s : St} {e : Int} {f n : Nat} {L : List (List Nat)} (h : Good s e f n L) (l : List Int) : Good (crash s l) e f n L := by
  have hd : (crash s l).dur = s.dur := by
    funext i
    show settle1 (s.cache i) (s.dur i) _ = _
    rw [h.clean]; rfl
  have hr : ∀ i, i < s.n → rdOf (crash s l) i = rdOf s i := fun i hi => by
    rw [rdOf_clean (crash s l) _ hi rfl, rdOf_clean s _ hi (h.clean _), hd]
  have ha := h.area
  have hf := h.fit
  exact ⟨h.area, fun _ => rfl, h.fit, h.small, lie_congr _ _ e L f 0 (fun i hi => hr _ (by omega)) h.lie, fun i h1 h2 => by rw [hd]; exact h.rest i h1 h2⟩
theorem fresh_crash {s : St} {e : Int} (h : Fresh e s) (l : List Int) : Fresh e (crash s l) := by
  refine ⟨fun _ => rfl, fun e' h1 h2 i => ?_⟩
  have hd : (crash s l).dur i = s.dur i := by
    show settle1 (s.cache i) (s.dur i) _ = _
    rw [h.clean]; rfl
  rw [hd]; exact h.old e' h1 h2 i
theorem good_arm {s : St} {e : Int} {f n : Nat} {L : List (List Nat)} (h : Good s e f n L) (k : Int) : Good (arm s k) e f n L := ⟨h.area, h.clean, h.fit, h.small, h.lie, h.rest⟩
theorem fresh_arm {s : St} {e : Int} (h : Fresh e s) (k : Int) : Fresh e (arm s k) := ⟨h.clean, h.old⟩
end Jo
end Go.Proofs.Ytdgijnolpjaheaa
namespace Go.Proofs.Ytdgijnolpjaheaa
namespace Ck
open Sx Jo

/-- may bytes be the last piece, where piece i is due? -/
def fits (_ : List Nat) (_ : Nat) : Bool := true
theorem fits_piece (p : List Nat) (i : Nat) (_ : i + 1 = secs p.length) : fits (piece p i) i = true := rfl
/-- what a reading makes of a sector's bytes, where piece i of the epoch is due -/
def due (b : List Nat) (e : Int) (i : Nat) : List Nat × Bool × Bool :=
  if head e 0 (Jo.mark i false) <+: b then (b.drop 24, false, decide ((b.drop 24).length = 40))
  else if head e 0 (Jo.mark i true) <+: b then (b.drop 24, true, fits (b.drop 24) i)
  else ([], false, false)
theorem due_len (b : List Nat) (e : Int) (i : Nat) : (due b e i).1.length ≤ b.length := by
  unfold due
  split
  · simp
  · split <;> simp
theorem due_sec (e : Int) (p : List Nat) (i : Nat) (h : i < secs p.length) (hp : secs p.length ≤ 40000) : due (sec e 0 p i) e i = (piece p i, lastAt p i, true) := by
  have hd : (sec e 0 p i).drop 24 = piece p i := by
    unfold sec; rw [List.drop_left' (head_length _ _ _)]
  by_cases hl : i + 1 = secs p.length
  · have el : lastAt p i = true := decide_eq_true hl
    unfold due
    rw [if_neg, if_pos, hd, el, fits_piece p i hl]
    · unfold sec; rw [el]; exact List.prefix_append _ _
    · intro hp
      unfold sec at hp
      rw [el] at hp
      have := head_mark (by simp [Jo.mark]; omega) (by simp [Jo.mark]; omega) hp
      simp [Jo.mark] at this
  · have el : lastAt p i = false := decide_eq_false hl
    unfold due
    rw [if_pos, hd, el]
    · congr 2
      exact decide_eq_true (piece_full p i (by omega))
    · unfold sec; rw [el]; exact List.prefix_append _ _
theorem due_head {b : List Nat} {e : Int} {i : Nat} (h : (due b e i).2.2 = true) : Pk.enc e <+: b := by
  have hh : ∀ m : Int, head e 0 m <+: b → Pk.enc e <+: b := fun m hm => List.IsPrefix.trans ⟨Pk.enc 0 ++ Pk.enc m, by simp [head]⟩ hm
  unfold due at h
  split at h
  · rename_i h1; exact hh _ h1
  · split at h
    · rename_i h1; exact hh _ h1
    · cases h

/-- the reading of a slot: l sectors are left, the next one is at; r: the pieces so far -/
def take (rd : Nat → Int × List Nat) (e : Int) : Nat → Nat → List Nat → Option (List Nat)
  | 0, _, _ => none
  | l + 1, at_, r =>
    let x := due (rd at_).2 e (r.length / 40)
    if (rd at_).1 ≠ 0 ∨ x.2.2 = false then none
    else if x.2.1 then some (r ++ x.1)
    else take rd e l (at_ + 1) (r ++ x.1)
/-- from the sector at on the slot of n sectors holds p, of the epoch e -/
def Comp (rd : Nat → Int × List Nat) (at_ n : Nat) (e : Int) (p : List Nat) : Prop := secs p.length ≤ n ∧ ∀ i, i < secs p.length → rd (at_ + i) = (0, sec e 0 p i)
theorem take_from (rd : Nat → Int × List Nat) (e : Int) (at_ : Nat) (p : List Nat) (hp : secs p.length ≤ 40000) (h : ∀ i, i < secs p.length → rd (at_ + i) = (0, sec e 0 p i)) :
    ∀ k l i, i + k = secs p.length → 1 ≤ k → k ≤ l → take rd e l (at_ + i) (p.take (40 * i)) = some p := by
  intro k
  induction k with
  | zero => intro l i _ h1; omega
  | succ k ih =>
    intro l i hi _ hl
    obtain ⟨l, rfl⟩ : ∃ m, l = m + 1 := ⟨l - 1, by omega⟩
    rw [take]
    simp only [(take_div p i (by omega)).1, h i (by omega), due_sec e p i (by omega) hp]
    rw [if_neg (by simp)]
    by_cases hlast : i + 1 = secs p.length
    · rw [if_pos (show lastAt p i = true from decide_eq_true hlast), take_piece, List.take_of_length_le]
      unfold secs at hlast; omega
    · rw [if_neg (show ¬ lastAt p i = true from by simp [lastAt, hlast]), take_piece]
      exact ih l (i + 1) (by omega) (by omega) (by omega)
theorem take_comp {rd : Nat → Int × List Nat} {e : Int} {at_ n : Nat} {p : List Nat} (hn : n ≤ 40000) (h : Comp rd at_ n e p) : take rd e n at_ [] = some p := by
  have h1 := secs_pos p.length
  have := take_from rd e at_ p (by have := h.1; omega) h.2 (secs p.length) n 0 (by omega) h1 h.1
  simpa using this

/-- what the first number of a sector is -/
def epoch (b : List Nat) : Int := (Pk.rdInt ⟨b, false⟩).1
theorem epoch_enc {e : Int} (he : -9223372036854775808 ≤ e ∧ e ≤ 9223372036854775807) (t : List Nat) : epoch (Pk.enc e ++ t) = e := by
  unfold epoch; rw [Pk.rdInt_enc e t false he]
theorem epoch_sec {e : Int} (he : -9223372036854775808 ≤ e ∧ e ≤ 9223372036854775807) (p : List Nat) (i : Nat) : epoch (sec e 0 p i) = e := by
  unfold sec head
  rw [List.append_assoc, List.append_assoc]
  exact epoch_enc he _
/-- the bytes and the epoch of a slot, where it is complete -/
def whole (rd : Nat → Int × List Nat) (at_ n : Nat) (par : Int) : Option (Int × List Nat) :=
  if (rd at_).1 = 0 ∧ 1 ≤ epoch (rd at_).2 ∧ epoch (rd at_).2 ≤ 1099511627776 ∧ epoch (rd at_).2 % 2 = par then (take rd (epoch (rd at_).2) n at_ []).map fun p => (epoch (rd at_).2, p) else none
theorem whole_comp {rd : Nat → Int × List Nat} {e : Int} {at_ n : Nat} {p : List Nat} {par : Int} (he : 1 ≤ e ∧ e ≤ 1099511627776) (hpar : e % 2 = par) (hn : n ≤ 40000) (h : Comp rd at_ n e p) : whole rd at_ n par = some (e, p) := by
  have h0 := h.2 0 (secs_pos _)
  rw [Nat.add_zero] at h0
  have h1 : epoch (rd at_).2 = e := by rw [h0]; exact epoch_sec (by omega) p 0
  unfold whole
  rw [h1, if_pos ⟨by rw [h0], he.1, he.2, hpar⟩, take_comp hn h]
  rfl
theorem whole_head {rd : Nat → Int × List Nat} {e : Int} {at_ n : Nat} {p : List Nat} {par : Int} (h : whole rd at_ n par = some (e, p)) : (rd at_).1 = 0 ∧ Pk.enc e <+: (rd at_).2 ∧ (1 ≤ e ∧ e ≤ 1099511627776) ∧ e % 2 = par := by
  unfold whole at h
  split at h
  · rename_i hc
    obtain ⟨h0, h1, h2, h3⟩ := hc
    cases n with
    | zero => simp [take] at h
    | succ n =>
      rw [take] at h
      by_cases hb : (rd at_).1 ≠ 0 ∨ (due (rd at_).2 (epoch (rd at_).2) 0).2.2 = false
      · rw [if_pos (by simpa using hb)] at h; simp at h
      · have hd : (due (rd at_).2 (epoch (rd at_).2) 0).2.2 = true := by
          by_cases hx : (due (rd at_).2 (epoch (rd at_).2) 0).2.2 = true
          · exact hx
          · exact absurd (.inr (by simpa using hx)) hb
        have hh := due_head hd
        obtain ⟨p', _, hp'⟩ := Option.map_eq_some_iff.1 h
        obtain ⟨rfl, rfl⟩ := Prod.mk.inj hp'
        exact ⟨h0, hh, ⟨h1, h2⟩, h3⟩
  · cases h
/-- what is loaded -/
def load (rd : Nat → Int × List Nat) (at_ n : Nat) : Option (Int × List Nat) :=
  match whole rd at_ n 0, whole rd (at_ + n) n 1 with
  | none, none => none
  | some a, none => some a
  | none, some b => some b
  | some a, some b => if b.1 < a.1 then some a else some b
/-- where the slot of an epoch begins -/
def slot (at_ n : Nat) (e : Int) : Nat := if e % 2 = 1 then at_ + n else at_
theorem load_of {rd : Nat → Int × List Nat} {e : Int} {at_ n : Nat} {p : List Nat} (he : 1 ≤ e ∧ e ≤ 1099511627776) (hn : n ≤ 40000) (h : Comp rd (slot at_ n e) n e p)
    (ho : ∀ e', e < e' → e' ≤ 1099511627776 → ¬ ((rd (slot at_ n (e + 1))).1 = 0 ∧ Pk.enc e' <+: (rd (slot at_ n (e + 1))).2)) : load rd at_ n = some (e, p) := by
  have hno : ∀ e' p' par, whole rd (slot at_ n (e + 1)) n par = some (e', p') → e' % 2 = (e + 1) % 2 → e' < e := fun e' p' par hw hpe => by
    obtain ⟨h1, h2, h3, h4⟩ := whole_head hw
    by_cases hlt : e < e'
    · exact absurd ⟨h1, h2⟩ (ho e' hlt h3.2)
    · have : e' ≠ e := fun h => by subst h; omega
      omega
  by_cases hpar : e % 2 = 1
  · have hs : slot at_ n e = at_ + n := if_pos hpar
    have hs' : slot at_ n (e + 1) = at_ := if_neg (by omega)
    rw [hs] at h
    rw [hs'] at hno
    have hw := whole_comp he hpar hn h
    unfold load
    rw [hw]
    cases hx : whole rd at_ n 0 with
    | none => rfl
    | some a =>
      obtain ⟨e', p'⟩ := a
      have := hno e' p' 0 hx (by have := (whole_head hx).2.2.2; omega)
      show (if e < e' then _ else _) = _
      rw [if_neg (by omega)]
  · have hs : slot at_ n e = at_ := if_neg hpar
    have hs' : slot at_ n (e + 1) = at_ + n := if_pos (by omega)
    rw [hs] at h
    rw [hs'] at hno
    have hw := whole_comp he (show e % 2 = 0 by omega) hn h
    unfold load
    rw [hw]
    cases hx : whole rd (at_ + n) n 1 with
    | none => rfl
    | some a =>
      obtain ⟨e', p'⟩ := a
      have := hno e' p' 1 hx (by have := (whole_head hx).2.2.2; omega)
      show (if e' < e then _ else _) = _
      rw [if_pos this]
theorem load_none {rd : Nat → Int × List Nat} {at_ n : Nat} (h : ∀ e', 0 < e' → e' ≤ 1099511627776 → ¬ ((rd at_).1 = 0 ∧ Pk.enc e' <+: (rd at_).2) ∧ ¬ ((rd (at_ + n)).1 = 0 ∧ Pk.enc e' <+: (rd (at_ + n)).2)) : load rd at_ n = none := by
  unfold load
  cases hx : whole rd at_ n 0 with
  | some a =>
    obtain ⟨e', p'⟩ := a
    obtain ⟨h1, h2, h3, _⟩ := whole_head hx
    exact absurd ⟨h1, h2⟩ (h e' (by omega) h3.2).1
  | none =>
    cases hy : whole rd (at_ + n) n 1 with
    | some a =>
      obtain ⟨e', p'⟩ := a
      obtain ⟨h1, h2, h3, _⟩ := whole_head hy
      exact absurd ⟨h1, h2⟩ (h e' (by omega) h3.2).2
    | none => rfl
end Ck
end Go.Proofs.Ytdgijnolpjaheaa
