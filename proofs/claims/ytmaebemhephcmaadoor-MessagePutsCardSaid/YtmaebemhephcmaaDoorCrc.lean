/- Plain facts about the register of CRC-32C, over natural numbers: no Go in sight. -/
import Derived.Laws.BitsAllLaws
namespace Go.Proofs.YtmaebemhephcmaaDoor.Crc

def step (r : Nat) : Nat := if r % 2 = 1 then (r / 2) ^^^ 2197175160 else r / 2
def steps : Nat → Nat → Nat
  | 0, r => r
  | n + 1, r => steps n (step r)
def byte (r c : Nat) : Nat := steps 8 (r ^^^ c)
def feed (r : Nat) (l : List Nat) : Nat := l.foldl byte r
def cplK (k r : Nat) : Nat := k ^^^ r
def cpl (r : Nat) : Nat := cplK 4294967295 r
def more (s : Nat) (l : List Nat) : Nat := cpl (feed (cpl s) l)
/-- the bytes as one number, the first byte lowest -/
def num : List Nat → Nat
  | [] => 0
  | c :: l => c ^^^ (256 * num l)

theorem xor_mod2 (a b : Nat) : (a ^^^ b) % 2 = (a % 2 + b % 2) % 2 := by
  have := Nat.testBit_xor a b 0
  simp only [Nat.testBit_zero] at this
  rcases Nat.mod_two_eq_zero_or_one a with ha | ha <;> rcases Nat.mod_two_eq_zero_or_one b with hb | hb <;>
    rcases Nat.mod_two_eq_zero_or_one (a ^^^ b) with hc | hc <;> simp_all
theorem xor_div2 (a b : Nat) : (a ^^^ b) / 2 = (a / 2) ^^^ (b / 2) := by
  have := Nat.shiftRight_xor_distrib (a := a) (b := b) (i := 1)
  simpa [Nat.shiftRight_succ] using this
theorem xor_left_comm (a b c : Nat) : a ^^^ (b ^^^ c) = b ^^^ (a ^^^ c) := by
  rw [← Nat.xor_assoc, Nat.xor_comm a b, Nat.xor_assoc]
theorem xor_cancel (a b : Nat) : a ^^^ (a ^^^ b) = b := by rw [← Nat.xor_assoc, Nat.xor_self, Nat.zero_xor]
theorem cplK2 (k r : Nat) : cplK k (cplK k r) = r := xor_cancel k r
theorem step_xor (a b : Nat) : step (a ^^^ b) = step a ^^^ step b := by
  unfold step
  rw [xor_mod2, xor_div2]
  rcases Nat.mod_two_eq_zero_or_one a with ha | ha <;> rcases Nat.mod_two_eq_zero_or_one b with hb | hb <;>
    simp [ha, hb, Nat.xor_assoc, Nat.xor_comm, xor_left_comm]
theorem steps_xor (n : Nat) : ∀ a b, steps n (a ^^^ b) = steps n a ^^^ steps n b := by
  induction n with
  | zero => intro a b; rfl
  | succ n ih => intro a b; simp only [steps]; rw [step_xor, ih]
theorem steps_add (m n : Nat) : ∀ a, steps (m + n) a = steps n (steps m a) := by
  induction m with
  | zero => intro a; simp [steps]
  | succ m ih => intro a; rw [show m + 1 + n = (m + n) + 1 from by omega]; simp only [steps]; rw [ih]
theorem steps_up (k : Nat) : ∀ a, steps k (2 ^ k * a) = a := by
  induction k with
  | zero => intro a; simp [steps]
  | succ k ih =>
    intro a
    simp only [steps]
    have e : 2 ^ (k + 1) * a = 2 * (2 ^ k * a) := by rw [Nat.pow_succ]; simp [Nat.mul_comm, Nat.mul_left_comm]
    have : step (2 ^ (k + 1) * a) = 2 ^ k * a := by
      rw [e]; unfold step; rw [if_neg (by omega)]; omega
    rw [this, ih]
theorem step_lt (a : Nat) (h : a < 4294967296) : step a < 4294967296 := by
  unfold step
  split
  · have h1 : a / 2 < 2 ^ 32 := by omega
    have := Nat.xor_lt_two_pow h1 (show 2197175160 < 2 ^ 32 by decide)
    simpa using this
  · omega
theorem steps_lt (n : Nat) : ∀ a, a < 4294967296 → steps n a < 4294967296 := by
  induction n with
  | zero => intro a h; exact h
  | succ n ih => intro a h; exact ih _ (step_lt a h)
theorem xor_lt (a b : Nat) (ha : a < 4294967296) (hb : b < 4294967296) : a ^^^ b < 4294967296 := by
  have := Nat.xor_lt_two_pow (n := 32) (by simpa using ha) (by simpa using hb)
  simpa using this
theorem step_ne (a : Nat) (h : a < 4294967296) (h0 : a ≠ 0) : step a ≠ 0 := by
  unfold step
  split
  · intro e
    have e2 : (a / 2 ^^^ 2197175160) ^^^ 2197175160 = 2197175160 := by rw [e]; simp
    rw [Nat.xor_assoc, Nat.xor_self, Nat.xor_zero] at e2
    omega
  · omega
theorem steps_ne (n : Nat) : ∀ a, a < 4294967296 → a ≠ 0 → steps n a ≠ 0 := by
  induction n with
  | zero => intro a _ h; exact h
  | succ n ih => intro a h h0; exact ih _ (step_lt a h) (step_ne a h h0)
theorem steps_zero (n : Nat) : steps n 0 = 0 := by
  induction n with
  | zero => rfl
  | succ n ih => simp only [steps]; exact ih

theorem byte_lt (r c : Nat) (hr : r < 4294967296) (hc : c < 256) : byte r c < 4294967296 :=
  steps_lt 8 _ (xor_lt r c hr (by omega))
theorem feed_lt (l : List Nat) : ∀ r, r < 4294967296 → (∀ x ∈ l, x < 256) → feed r l < 4294967296 := by
  induction l with
  | nil => intro r h _; exact h
  | cons c l ih =>
    intro r h hl
    exact ih _ (byte_lt r c h (hl c (by simp))) (fun x hx => hl x (by simp [hx]))
theorem cpl_lt (r : Nat) (h : r < 4294967296) : cpl r < 4294967296 := by
  have h1 : (4294967295 : Nat) < 2 ^ 32 := by omega
  have := Nat.xor_lt_two_pow (n := 32) h1 (show r < 2 ^ 32 by omega)
  unfold cpl cplK; omega
theorem cpl_cpl (r : Nat) : cpl (cpl r) = r := cplK2 4294967295 r
theorem more_lt (s : Nat) (l : List Nat) (hs : s < 4294967296) (hl : ∀ x ∈ l, x < 256) : more s l < 4294967296 := by
  unfold more
  exact cpl_lt _ (feed_lt l _ (cpl_lt s hs) hl)
theorem feed_append (r : Nat) (a b : List Nat) : feed r (a ++ b) = feed (feed r a) b := by
  unfold feed; rw [List.foldl_append]
theorem feed_snoc (r : Nat) (a : List Nat) (c : Nat) : feed r (a ++ [c]) = byte (feed r a) c := by
  unfold feed; rw [List.foldl_append]; rfl
/-- P1.3 -/
theorem more_append (s : Nat) (a b : List Nat) : more s (a ++ b) = more (more s a) b := by
  unfold more; rw [feed_append, cpl_cpl]

/-- to feed bytes: the whole number is combined with the register, then so many steps -/
theorem feed_num (l : List Nat) : ∀ r, feed r l = steps (8 * l.length) (r ^^^ num l) := by
  induction l with
  | nil => intro r; simp [feed, num, steps]
  | cons c l ih =>
    intro r
    have h1 : feed r (c :: l) = feed (byte r c) l := rfl
    have h2 : steps 8 (r ^^^ num (c :: l)) = byte r c ^^^ num l := by
      have e : r ^^^ num (c :: l) = (r ^^^ c) ^^^ (2 ^ 8 * num l) := by
        show r ^^^ (c ^^^ 256 * num l) = _
        rw [Nat.xor_assoc]
      rw [e, steps_xor, steps_up]; rfl
    rw [h1, ih, List.length_cons, show 8 * (l.length + 1) = 8 + 8 * l.length from by omega, steps_add, h2]

theorem num_zeros (n : Nat) : num (List.replicate n 0) = 0 := by
  induction n with
  | zero => rfl
  | succ n ih => rw [List.replicate_succ]; show 0 ^^^ 256 * num (List.replicate n 0) = 0; rw [ih]; rfl

/-- two rows laid over one another -/
def over : List Nat → List Nat → List Nat
  | a :: l, b :: m => (a ^^^ b) :: over l m
  | _, _ => []
theorem over_length (a : List Nat) : ∀ b, a.length = b.length → (over a b).length = a.length := by
  induction a with
  | nil => intro b _; cases b <;> rfl
  | cons x a ih =>
    intro b h
    cases b with
    | nil => simp at h
    | cons y b => simp only [over, List.length_cons]; rw [ih b (by simpa using h)]
theorem over_get (a : List Nat) : ∀ (b : List Nat) (k : Nat) (ha : k < a.length) (hb : k < b.length) {h : k < (over a b).length}, (over a b)[k] = a[k] ^^^ b[k] := by
  induction a with
  | nil => intro b k ha; simp at ha
  | cons u a ih =>
    intro b k ha hb h
    cases b with
    | nil => simp at hb
    | cons v b =>
      cases k with
      | zero => rfl
      | succ k => exact ih b k (by simpa using ha) (by simpa using hb)
theorem over_lt (a : List Nat) : ∀ b, (∀ x ∈ a, x < 256) → (∀ x ∈ b, x < 256) → ∀ x ∈ over a b, x < 256 := by
  induction a with
  | nil => intro b _ _ x hx; cases b <;> simp [over] at hx
  | cons u a ih =>
    intro b ha hb x hx
    cases b with
    | nil => simp [over] at hx
    | cons v b =>
      simp only [over, List.mem_cons] at hx
      rcases hx with rfl | hx
      · have := Nat.xor_lt_two_pow (n := 8) (ha u (by simp)) (hb v (by simp))
        simpa using this
      · exact ih b (fun y hy => ha y (by simp [hy])) (fun y hy => hb y (by simp [hy])) x hx
theorem mul_xor (a b : Nat) : 256 * (a ^^^ b) = 256 * a ^^^ 256 * b := by
  have := Nat.shiftLeft_xor_distrib (a := a) (b := b) (i := 8)
  simpa [Nat.shiftLeft_eq, Nat.mul_comm] using this
theorem num_over (a : List Nat) : ∀ b, a.length = b.length → num (over a b) = num a ^^^ num b := by
  induction a with
  | nil => intro b h; cases b with
    | nil => rfl
    | cons => simp at h
  | cons x a ih =>
    intro b h
    cases b with
    | nil => simp at h
    | cons y b =>
      show (x ^^^ y) ^^^ 256 * num (over a b) = (x ^^^ 256 * num a) ^^^ (y ^^^ 256 * num b)
      rw [ih b (by simpa using h), mul_xor]
      simp [Nat.xor_assoc, xor_left_comm]
/-- P1.5 -/
theorem laid (a b : List Nat) (h : a.length = b.length) :
    (more 0 a ^^^ more 0 b) ^^^ more 0 (over a b) = more 0 (List.replicate a.length 0) := by
  unfold more
  rw [feed_num, feed_num, feed_num, feed_num, over_length a b h, num_over a b h, num_zeros, List.length_replicate, ← h]
  simp only [steps_xor, cpl, cplK]
  generalize steps (8 * a.length) (4294967295 ^^^ 0) = p
  generalize steps (8 * a.length) (num a) = q
  generalize steps (8 * a.length) (num b) = s
  rw [steps_zero]
  simp [Nat.xor_assoc, Nat.xor_comm, xor_left_comm, xor_cancel]

theorem num_set (l : List Nat) : ∀ (k j : Nat) (h : k < l.length),
    num (l.set k (l[k] ^^^ 2 ^ j)) = num l ^^^ 2 ^ (8 * k + j) := by
  induction l with
  | nil => intro k j h; simp at h
  | cons c l ih =>
    intro k j h
    cases k with
    | zero =>
      show (c ^^^ 2 ^ j) ^^^ 256 * num l = (c ^^^ 256 * num l) ^^^ 2 ^ (8 * 0 + j)
      rw [show 8 * 0 + j = j from by omega, Nat.xor_assoc, Nat.xor_assoc, Nat.xor_comm (2 ^ j)]
    | succ k =>
      have h' : k < l.length := by simpa using h
      show c ^^^ 256 * num (l.set k (l[k] ^^^ 2 ^ j)) = (c ^^^ 256 * num l) ^^^ 2 ^ (8 * (k + 1) + j)
      rw [ih k j h', mul_xor, show 256 * 2 ^ (8 * k + j) = 2 ^ (8 * (k + 1) + j) from by
        rw [show 8 * (k + 1) + j = 8 + (8 * k + j) from by omega, Nat.pow_add 2 8]]
      rw [Nat.xor_assoc]
theorem byte_flip_lt (c j : Nat) (hc : c < 256) (hj : j < 8) : c ^^^ 2 ^ j < 256 := by
  have h2 : 2 ^ j < 2 ^ 8 := Nat.pow_lt_pow_right (by decide) hj
  have := Nat.xor_lt_two_pow (n := 8) hc h2
  simpa using this
/-- P1.4 -/
theorem seen (b c : List Nat) (at' E : Nat) (hl : c.length = b.length) (hE : E < 4294967296) (ha : E ≠ 0 → at' ≤ 8 * b.length)
    (hn : num c = num b ^^^ 2 ^ at' * E) : (more 0 c = more 0 b) ↔ E = 0 := by
  have key : feed (cpl 0) c = feed (cpl 0) b ^^^ steps (8 * b.length) (2 ^ at' * E) := by
    rw [feed_num, feed_num, hl, hn, ← steps_xor, ← Nat.xor_assoc]
  constructor
  · intro h
    rcases Nat.eq_zero_or_pos E with h0 | h0
    · exact h0
    · exfalso
      have h1 : feed (cpl 0) c = feed (cpl 0) b := by
        have := congrArg cpl h
        simpa [more, cpl_cpl] using this
      rw [h1] at key
      have h2 : steps (8 * b.length) (2 ^ at' * E) = 0 := by
        have := congrArg (feed (cpl 0) b ^^^ ·) key
        simp only [Nat.xor_self] at this
        rw [← Nat.xor_assoc, Nat.xor_self, Nat.zero_xor] at this
        exact this.symm
      have h3 := ha (by omega)
      rw [show 8 * b.length = at' + (8 * b.length - at') from by omega, steps_add, steps_up] at h2
      exact steps_ne _ E hE (by omega) h2
  · rintro rfl
    unfold more
    rw [key]
    simp [steps_zero]
theorem xor_pow (E i : Nat) (h : E < 2 ^ i) : E ^^^ 2 ^ i = E + 2 ^ i := by
  have := Nat.two_pow_add_eq_or_of_lt h 1
  apply Nat.eq_of_testBit_eq
  intro j
  rw [Nat.testBit_xor, Nat.add_comm, show 2 ^ i + E = 2 ^ i * 1 + E from by omega, this, Nat.testBit_or]
  rw [Nat.mul_one]
  rcases Nat.lt_trichotomy j i with hj | hj | hj
  · simp [show i ≠ j by omega]
  · subst hj
    simp [Nat.testBit_lt_two_pow h]
  · have : E < 2 ^ j := Nat.lt_of_lt_of_le h (Nat.pow_le_pow_right (by decide) (by omega))
    simp [show i ≠ j by omega]
theorem pow_mul_xor (p a b : Nat) : 2 ^ p * (a ^^^ b) = 2 ^ p * a ^^^ 2 ^ p * b := by
  have := Nat.shiftLeft_xor_distrib (a := a) (b := b) (i := p)
  simpa [Nat.shiftLeft_eq, Nat.mul_comm] using this
theorem flip (l0 L : List Nat) (p i E : Nat) (hq : (p + i) / 8 < L.length) (hE : E < 2 ^ i) (h : num L = num l0 ^^^ 2 ^ p * E) :
    num (L.set ((p + i) / 8) (L[(p + i) / 8] ^^^ 2 ^ ((p + i) % 8))) = num l0 ^^^ 2 ^ p * (E + 2 ^ i) := by
  rw [num_set L _ _ hq, h, ← xor_pow E i hE, pow_mul_xor, Nat.xor_assoc, ← Nat.pow_add, show 8 * ((p + i) / 8) + (p + i) % 8 = p + i from by omega]
end Go.Proofs.YtmaebemhephcmaaDoor.Crc
