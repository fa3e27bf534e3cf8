/- Plain facts about frames, over lists of numbers: no Go in sight. -/
import Derived.Test.YtmaebemhephcmaaDoorCrc
namespace Go.Proofs.YtmaebemhephcmaaDoor.Fr

def be4 (v : Nat) : List Nat := [v / 16777216 % 256, v / 65536 % 256, v / 256 % 256, v % 256]
/-- the number that bytes say, the highest first -/
def n4 (l : List Nat) : Nat := l.foldl (fun v x => v * 256 + x) 0
def sum (h p : List Nat) : Nat := Crc.more (Crc.more 0 h) p
def frame (p : List Nat) : List Nat := be4 p.length ++ (be4 (sum (be4 p.length) p) ++ p)
/-- what is told of bytes: the payload, the number of bytes, the error -/
def get (b : List Nat) : List Nat × Nat × Nat :=
  if b.length < 8 then ([], 0, 1)
  else if 65536 < n4 (b.take 4) then ([], 0, 2)
  else if b.length - 8 < n4 (b.take 4) then ([], 0, 1)
  else if n4 ((b.drop 4).take 4) ≠ sum (b.take 4) ((b.drop 8).take (n4 (b.take 4))) then ([], 0, 5)
  else ((b.drop 8).take (n4 (b.take 4)), 8 + n4 (b.take 4), 0)

theorem be4_length (v : Nat) : (be4 v).length = 4 := rfl
theorem be4_lt (v : Nat) : ∀ x ∈ be4 v, x < 256 := by
  intro x hx
  simp only [be4, List.mem_cons, List.not_mem_nil, or_false] at hx
  omega
theorem n4_be4 (v : Nat) (h : v < 4294967296) : n4 (be4 v) = v := by
  simp only [n4, be4, List.foldl_cons, List.foldl_nil]
  omega
theorem n4_snoc (l : List Nat) (x : Nat) : n4 (l ++ [x]) = n4 l * 256 + x := by unfold n4; rw [List.foldl_append]; rfl
theorem four (l : List Nat) (h : l.length = 4) : ∃ a b c d, l = [a, b, c, d] := by
  match l, h with
  | [a, b, c, d], _ => exact ⟨a, b, c, d, rfl⟩
theorem n4_four (a b c d : Nat) : n4 [a, b, c, d] = ((a * 256 + b) * 256 + c) * 256 + d := by simp [n4]
theorem n4_lt (l : List Nat) (hl : l.length = 4) (h : ∀ x ∈ l, x < 256) : n4 l < 4294967296 := by
  obtain ⟨a, b, c, d, rfl⟩ := four l hl
  rw [n4_four]
  have h1 := h a (by simp)
  have h2 := h b (by simp)
  have h3 := h c (by simp)
  have h4 := h d (by simp)
  omega
theorem be4_n4 (l : List Nat) (hl : l.length = 4) (h : ∀ x ∈ l, x < 256) : be4 (n4 l) = l := by
  obtain ⟨a, b, c, d, rfl⟩ := four l hl
  rw [n4_four]
  have h1 := h a (by simp)
  have h2 := h b (by simp)
  have h3 := h c (by simp)
  have h4 := h d (by simp)
  unfold be4
  rw [show (((a * 256 + b) * 256 + c) * 256 + d) / 16777216 % 256 = a by omega, show (((a * 256 + b) * 256 + c) * 256 + d) / 65536 % 256 = b by omega,
    show (((a * 256 + b) * 256 + c) * 256 + d) / 256 % 256 = c by omega, show (((a * 256 + b) * 256 + c) * 256 + d) % 256 = d by omega]
theorem sum_lt (h p : List Nat) (hh : ∀ x ∈ h, x < 256) (hp : ∀ x ∈ p, x < 256) : sum h p < 4294967296 := Crc.more_lt _ _ (Crc.more_lt 0 h (by omega) hh) hp
theorem frame_length (p : List Nat) : (frame p).length = 8 + p.length := by
  unfold frame; rw [List.length_append, List.length_append, be4_length, be4_length]; omega
theorem frame_lt (p : List Nat) (hp : ∀ x ∈ p, x < 256) : ∀ x ∈ frame p, x < 256 := by
  intro x hx
  unfold frame at hx
  rcases List.mem_append.1 hx with hx | hx
  · exact be4_lt _ x hx
  · rcases List.mem_append.1 hx with hx | hx
    · exact be4_lt _ x hx
    · exact hp x hx
/-- bytes by their parts: a length, a checksum, what follows -/
theorem get_parts (h s r : List Nat) (hh : h.length = 4) (hs : s.length = 4) : get (h ++ (s ++ r)) =
    if 65536 < n4 h then ([], 0, 2) else if r.length < n4 h then ([], 0, 1) else if n4 s ≠ sum h (r.take (n4 h)) then ([], 0, 5) else (r.take (n4 h), 8 + n4 h, 0) := by
  have e1 : (h ++ (s ++ r)).take 4 = h := by rw [← hh]; exact List.take_left' rfl
  have e2 : (h ++ (s ++ r)).drop 4 = s ++ r := by rw [← hh]; exact List.drop_left' rfl
  have e3 : (h ++ (s ++ r)).drop 8 = r := by
    rw [show 8 = 4 + 4 from rfl, ← List.drop_drop, e2, ← hs]; exact List.drop_left' rfl
  have e4 : (s ++ r).take 4 = s := by rw [← hs]; exact List.take_left' rfl
  have e5 : (h ++ (s ++ r)).length = 8 + r.length := by rw [List.length_append, List.length_append]; omega
  unfold get
  rw [e1, e2, e3, e4, e5, if_neg (by omega), Nat.add_sub_cancel_left]
theorem parts (b : List Nat) : b = b.take 4 ++ ((b.drop 4).take 4 ++ b.drop 8) := by
  have e : b.drop 8 = (b.drop 4).drop 4 := by rw [List.drop_drop]
  rw [e, List.take_append_drop, List.take_append_drop]
/-- what is told with no error is a payload, else nothing -/
theorem get_cases (b : List Nat) : (get b = ([], 0, 1) ∨ get b = ([], 0, 2) ∨ get b = ([], 0, 5)) ∨
    (8 ≤ b.length ∧ n4 (b.take 4) ≤ 65536 ∧ n4 (b.take 4) ≤ b.length - 8 ∧ n4 ((b.drop 4).take 4) = sum (b.take 4) ((b.drop 8).take (n4 (b.take 4))) ∧
      get b = ((b.drop 8).take (n4 (b.take 4)), 8 + n4 (b.take 4), 0)) := by
  unfold get
  split
  · exact .inl (.inl rfl)
  · split
    · exact .inl (.inr (.inl rfl))
    · split
      · exact .inl (.inl rfl)
      · split
        · exact .inl (.inr (.inr rfl))
        · rename_i h1 h2 h3 h4
          exact .inr ⟨by omega, by omega, by omega, Classical.not_not.1 h4, rfl⟩
/-- P3.3: there and back, whatever follows -/
theorem back (p more : List Nat) (hp : ∀ x ∈ p, x < 256) (hl : p.length ≤ 65536) : get (frame p ++ more) = (p, 8 + p.length, 0) := by
  unfold frame
  rw [List.append_assoc, List.append_assoc, get_parts _ _ _ (be4_length _) (be4_length _), n4_be4 _ (by omega), n4_be4 _ (sum_lt _ _ (be4_lt _) hp),
    if_neg (by omega), if_neg (by rw [List.length_append]; omega), List.take_left' rfl, if_neg (by simp)]
/-- P3.3: what was read, framed again -/
theorem only (b p : List Nat) (n : Nat) (hb : ∀ x ∈ b, x < 256) (h : get b = (p, n, 0)) : n ≤ b.length ∧ p.length ≤ 65536 ∧ frame p = b.take n := by
  rcases get_cases b with (e | e | e) | ⟨h8, h1, h2, h3, e⟩
  · rw [h] at e; injection e with _ e; injection e with _ e; cases e
  · rw [h] at e; injection e with _ e; injection e with _ e; cases e
  · rw [h] at e; injection e with _ e; injection e with _ e; cases e
  · rw [h] at e
    injection e with e1 e
    injection e with e2 _
    have l4 : (b.take 4).length = 4 := by rw [List.length_take]; omega
    have s4 : ∀ x ∈ b.take 4, x < 256 := fun x hx => hb x (List.mem_of_mem_take hx)
    have l8 : ((b.drop 4).take 4).length = 4 := by rw [List.length_take, List.length_drop]; omega
    have s8 : ∀ x ∈ (b.drop 4).take 4, x < 256 := fun x hx => hb x (List.mem_of_mem_drop (List.mem_of_mem_take hx))
    have hpl : p.length = n4 (b.take 4) := by rw [e1, List.length_take, List.length_drop]; omega
    refine ⟨by omega, by omega, ?_⟩
    unfold frame
    rw [hpl, be4_n4 _ l4 s4, e1, ← h3, be4_n4 _ l8 s8, e2]
    have e3 : b.take (8 + n4 (b.take 4)) = b.take 8 ++ (b.drop 8).take (n4 (b.take 4)) := by rw [List.take_add]
    have e4 : b.take 8 = b.take 4 ++ (b.drop 4).take 4 := by rw [show 8 = 4 + 4 from rfl, List.take_add]
    rw [e3, e4, List.append_assoc]
/-- P3.3: no beginning of a frame is one -/
theorem cut (p : List Nat) (k : Nat) (hl : p.length ≤ 65536) (hk : k < 8 + p.length) : get ((frame p).take k) = ([], 0, 1) := by
  have e : ((frame p).take k).length = k := by rw [List.length_take, frame_length]; omega
  by_cases h8 : k < 8
  · unfold get; rw [e, if_pos h8]
  · have e1 : (frame p).take k = be4 p.length ++ (be4 (sum (be4 p.length) p) ++ p.take (k - 8)) := by
      unfold frame
      rw [List.take_append, be4_length, List.take_of_length_le (by rw [be4_length]; omega), List.take_append, be4_length, List.take_of_length_le (by rw [be4_length]; omega), show k - 4 - 4 = k - 8 from by omega]
    rw [e1, get_parts _ _ _ (be4_length _) (be4_length _), n4_be4 _ (by omega), if_neg (by omega), if_pos (by rw [List.length_take]; omega)]

theorem num_append (a b : List Nat) : Crc.num (a ++ b) = Crc.num a ^^^ 2 ^ (8 * a.length) * Crc.num b := by
  induction a with
  | nil => simp [Crc.num]
  | cons c a ih =>
    show c ^^^ 256 * Crc.num (a ++ b) = (c ^^^ 256 * Crc.num a) ^^^ 2 ^ (8 * (a.length + 1)) * Crc.num b
    rw [ih, Crc.mul_xor, Nat.xor_assoc]
    congr 2
    rw [← Nat.mul_assoc]
    congr 1
    rw [show 8 * (a.length + 1) = 8 + 8 * a.length from by omega, Nat.pow_add]
theorem num_inj (a : List Nat) : ∀ b, a.length = b.length → (∀ x ∈ a, x < 256) → (∀ x ∈ b, x < 256) → Crc.num a = Crc.num b → a = b := by
  induction a with
  | nil => intro b h _ _ _; cases b with
    | nil => rfl
    | cons => simp at h
  | cons x a ih =>
    intro b h ha hb e
    cases b with
    | nil => simp at h
    | cons y b =>
      have e' : x ^^^ 256 * Crc.num a = y ^^^ 256 * Crc.num b := e
      have hx := ha x (by simp)
      have hy := hb y (by simp)
      have m : (x ^^^ 2 ^ 8 * Crc.num a) % 2 ^ 8 = (y ^^^ 2 ^ 8 * Crc.num b) % 2 ^ 8 := by rw [show (2 : Nat) ^ 8 = 256 from rfl, e']
      have d : (x ^^^ 2 ^ 8 * Crc.num a) / 2 ^ 8 = (y ^^^ 2 ^ 8 * Crc.num b) / 2 ^ 8 := by rw [show (2 : Nat) ^ 8 = 256 from rfl, e']
      rw [Nat.xor_mod_two_pow, Nat.xor_mod_two_pow, Nat.mul_mod_right, Nat.mul_mod_right, Nat.xor_zero, Nat.xor_zero, Nat.mod_eq_of_lt (by simpa using hx), Nat.mod_eq_of_lt (by simpa using hy)] at m
      rw [Nat.xor_div_two_pow, Nat.xor_div_two_pow, Nat.mul_div_cancel_left _ (by decide), Nat.mul_div_cancel_left _ (by decide), Nat.div_eq_of_lt (by simpa using hx), Nat.div_eq_of_lt (by simpa using hy), Nat.zero_xor, Nat.zero_xor] at d
      rw [m, ih b (by simpa using h) (fun z hz => ha z (by simp [hz])) (fun z hz => hb z (by simp [hz])) d]
theorem xor_zero_of (a b : Nat) (h : a = a ^^^ b) : b = 0 := by
  have := congrArg (a ^^^ ·) h
  simp only [Nat.xor_self, Crc.xor_cancel] at this
  exact this.symm
/-- P3.4: a length of which something is turned -/
theorem turned_length (h p s : List Nat) (hh : h.length = 4) (hs : s.length = 4) (sh : ∀ x ∈ h, x < 256) (hne : h ≠ be4 p.length) :
    ((get (h ++ (s ++ p))).2.2 ≠ 0 ∧ (get (h ++ (s ++ p))).2.1 = 0 ∧ (get (h ++ (s ++ p))).1 = []) ∨ ((get (h ++ (s ++ p))).2.2 = 0 ∧ (get (h ++ (s ++ p))).2.1 < 8 + p.length) := by
  have hn : n4 h ≠ p.length := fun e => hne (by rw [← e, be4_n4 h hh sh])
  rw [get_parts h s p hh hs]
  split
  · exact .inl ⟨by decide, rfl, rfl⟩
  · split
    · exact .inl ⟨by decide, rfl, rfl⟩
    · split
      · exact .inl ⟨by decide, rfl, rfl⟩
      · exact .inr ⟨rfl, by show 8 + n4 h < 8 + p.length; omega⟩
/-- P3.4: a checksum of which something is turned -/
theorem turned_sum (p m : List Nat) (q E : Nat) (hl : p.length ≤ 65536) (hm : m.length = 4) (sm : ∀ x ∈ m, x < 256)
    (hn : Crc.num m = Crc.num (be4 (sum (be4 p.length) p)) ^^^ 2 ^ q * E) :
    (E = 0 → be4 p.length ++ (m ++ p) = frame p) ∧ (E ≠ 0 → get (be4 p.length ++ (m ++ p)) = ([], 0, 5)) := by
  constructor
  · rintro rfl
    rw [Nat.mul_zero, Nat.xor_zero] at hn
    rw [num_inj m _ (by rw [hm, be4_length]) sm (be4_lt _) hn]
    rfl
  · intro h0
    have hne : n4 m ≠ sum (be4 p.length) p := by
      intro e
      have : be4 (n4 m) = m := be4_n4 m hm sm
      rw [e] at this
      rw [this] at hn
      have := xor_zero_of _ _ hn
      have h2 : 0 < 2 ^ q := Nat.pow_pos (by decide)
      rcases Nat.mul_eq_zero.1 this with h | h
      · omega
      · exact h0 h
    rw [get_parts _ _ _ (be4_length _) hm, n4_be4 _ (by omega), if_neg (by omega), if_neg (by omega), List.take_of_length_le (Nat.le_refl _), if_pos hne]
/-- P3.4: a payload of which something is turned -/
theorem turned_payload (p m : List Nat) (q E : Nat) (hl : p.length ≤ 65536) (hp : ∀ x ∈ p, x < 256) (hm : m.length = p.length) (sm : ∀ x ∈ m, x < 256) (hE : E < 4294967296) (hq : E ≠ 0 → q ≤ 8 * p.length)
    (hn : Crc.num m = Crc.num p ^^^ 2 ^ q * E) :
    (E = 0 → be4 p.length ++ (be4 (sum (be4 p.length) p) ++ m) = frame p) ∧ (E ≠ 0 → get (be4 p.length ++ (be4 (sum (be4 p.length) p) ++ m)) = ([], 0, 5)) := by
  constructor
  · rintro rfl
    rw [Nat.mul_zero, Nat.xor_zero] at hn
    rw [num_inj m p hm sm hp hn]
    rfl
  · intro h0
    have hne : sum (be4 p.length) p ≠ sum (be4 p.length) m := by
      intro e
      unfold sum at e
      rw [← Crc.more_append, ← Crc.more_append] at e
      refine h0 ((Crc.seen (be4 p.length ++ p) (be4 p.length ++ m) (32 + q) E (by simp [hm]) hE (fun h => ?_) ?_).1 e.symm)
      · have := hq h
        rw [List.length_append, be4_length]; omega
      · rw [num_append, num_append, hn, be4_length, Crc.pow_mul_xor, ← Nat.mul_assoc, ← Nat.pow_add, Nat.xor_assoc]
    rw [get_parts _ _ _ (be4_length _) (be4_length _), n4_be4 _ (by omega), n4_be4 _ (sum_lt _ _ (be4_lt _) hp), if_neg (by omega), if_neg (by omega), List.take_of_length_le (by omega), if_pos hne]
theorem set_mid (X m Y : List Nat) (j v : Nat) (hj : j < m.length) : (X ++ (m ++ Y)).set (X.length + j) v = X ++ (m.set j v ++ Y) := by
  rw [List.set_append_right _ _ (by omega), Nat.add_sub_cancel_left, List.set_append_left _ _ hj]
theorem get_mid (X m Y : List Nat) (j k : Nat) (hj : j < m.length) (hk : k = X.length + j) (h : k < (X ++ (m ++ Y)).length) : (X ++ (m ++ Y))[k] = m[j] := by
  subst hk
  rw [List.getElem_append_right (by omega), List.getElem_append_left (by omega)]
  congr 1
  omega
/-- P3.4: one bit of the length -/
theorem turned_one (p : List Nat) (j b : Nat) (hj : j < 4) (hb : b < 8) (h : j < (frame p).length) :
    ∃ Q m e, get ((frame p).set j ((frame p)[j] ^^^ 2 ^ b)) = (Q, m, e) ∧ ((e ≠ 0 ∧ m = 0 ∧ Q = []) ∨ (e = 0 ∧ m < 8 + p.length)) := by
  have hj4 : j < (be4 p.length).length := hj
  have e1 : (frame p)[j] = (be4 p.length)[j] := List.getElem_append_left hj4
  have e2 : (frame p).set j ((frame p)[j] ^^^ 2 ^ b) = (be4 p.length).set j ((be4 p.length)[j] ^^^ 2 ^ b) ++ (be4 (sum (be4 p.length) p) ++ p) := by
    rw [e1]; unfold frame; rw [List.set_append_left _ _ hj4]
  rw [e2]
  have hs : ∀ x ∈ (be4 p.length).set j ((be4 p.length)[j] ^^^ 2 ^ b), x < 256 := by
    intro x hx
    rcases List.mem_or_eq_of_mem_set hx with hx | rfl
    · exact be4_lt _ x hx
    · exact Crc.byte_flip_lt _ _ (be4_lt _ _ (List.getElem_mem hj4)) hb
  have hne : (be4 p.length).set j ((be4 p.length)[j] ^^^ 2 ^ b) ≠ be4 p.length := by
    intro e
    have e3 : ((be4 p.length).set j ((be4 p.length)[j] ^^^ 2 ^ b))[j]'(by rw [List.length_set]; exact hj4) = (be4 p.length)[j] := by
      simp only [e]
    rw [List.getElem_set_self] at e3
    have := xor_zero_of _ _ e3.symm
    have h2 : 0 < 2 ^ b := Nat.pow_pos (by decide)
    omega
  rcases turned_length _ p (be4 (sum (be4 p.length) p)) (by rw [List.length_set]; rfl) rfl hs hne with ⟨h1, h2, h3⟩ | ⟨h1, h2⟩
  · exact ⟨_, _, _, rfl, .inl ⟨h1, h2, h3⟩⟩
  · exact ⟨_, _, _, rfl, .inr ⟨h1, h2⟩⟩
/-- a frame by the part that bits are turned in -/
def Ends (p X m0 Y : List Nat) (q : Nat) : Prop := ∀ m E, m.length = m0.length → (∀ x ∈ m, x < 256) → E < 4294967296 → Crc.num m = Crc.num m0 ^^^ 2 ^ q * E →
  (E = 0 → X ++ (m ++ Y) = frame p) ∧ (E ≠ 0 → get (X ++ (m ++ Y)) = ([], 0, 5))
theorem ends_sum (p : List Nat) (q : Nat) (hl : p.length ≤ 65536) : ∃ X m0 Y : List Nat, X.length = 4 ∧ m0.length = 4 ∧ X ++ (m0 ++ Y) = frame p ∧ Ends p X m0 Y q :=
  ⟨be4 p.length, be4 (sum (be4 p.length) p), p, rfl, rfl, rfl, fun m E hm sm _ hn => turned_sum p m q E hl hm sm hn⟩
theorem ends_payload (p : List Nat) (q : Nat) (hl : p.length ≤ 65536) (hp : ∀ x ∈ p, x < 256) (hq : q ≤ 8 * p.length) : ∃ X m0 Y : List Nat, X.length = 8 ∧ m0.length = p.length ∧ X ++ (m0 ++ Y) = frame p ∧ Ends p X m0 Y q :=
  ⟨be4 p.length ++ be4 (sum (be4 p.length) p), p, [], rfl, rfl, by rw [List.append_nil, List.append_assoc]; rfl, fun m E hm sm hE hn => by
    rw [List.append_nil, List.append_assoc]
    exact turned_payload p m q E hl hp hm sm hE (fun _ => hq) hn⟩
end Go.Proofs.YtmaebemhephcmaaDoor.Fr
