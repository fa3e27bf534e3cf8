/- The messages between nodes and clients, in plain words. -/
import Derived.Test.YtmaebemhephcmaaDoorPackMath
import Derived.Test.YtmaebemhephcmaaDoorFrameMath
import Derived.Test.YtmaebemhephcmaaDoorBigEn
namespace Go.Proofs.YtmaebemhephcmaaDoor.Ms
open Rl (En)

/-- a message -/
structure M where
  K : Int
  F : Int
  T : Int
  g : Int
  t : Int
  i : Int
  p : Int
  c : Int
  r : Int
  x : Int
  a : Int
  b : Int
  v : Int
  s : Int
  ok : Bool
  es : List En
  d : List Nat
deriving DecidableEq
def M0 : M := ⟨0, 0, 0, 0, 0, 0, 0, 0, 0, 0, 0, 0, 0, 0, false, [], []⟩
/-- which fields a kind has besides the head, each by its letter -/
def tab : Nat → List Nat
  | 1 => [103, 116, 105, 112]
  | 2 => [103, 116, 111]
  | 3 => [103, 116, 105, 112, 99, 114, 101]
  | 4 => [103, 116, 111, 105, 114]
  | 5 => [103, 116, 105, 112, 114, 100]
  | 6 => [103, 115, 100]
  | 7 => [103, 115, 111, 105, 100]
  | 8 => [120, 97, 98]
  | 9 => [120, 97, 98, 111, 105, 118]
  | 10 => [120, 97, 98, 118]
  | 11 => [120, 97, 98, 111, 105, 118]
  | _ => []
def head : List Nat := [75, 70, 84]
def all : List Nat := [103, 116, 105, 112, 99, 114, 120, 97, 98, 118, 115, 111, 101, 100]
/-- the letters of the numbers, in the order of the struct -/
def nums : List Nat := [75, 70, 84, 103, 116, 105, 112, 99, 114, 120, 97, 98, 118, 115]
/-- where a number lies in the struct -/
def ix (r : Nat) : Nat := nums.idxOf r
def isNum (r : Nat) : Bool := nums.contains r
def M.num (m : M) (r : Nat) : Int :=
  if r = 75 then m.K else if r = 70 then m.F else if r = 84 then m.T else if r = 103 then m.g else if r = 116 then m.t else if r = 105 then m.i else if r = 112 then m.p else if r = 99 then m.c else
  if r = 114 then m.r else if r = 120 then m.x else if r = 97 then m.a else if r = 98 then m.b else if r = 118 then m.v else if r = 115 then m.s else 0
def M.set (m : M) (r : Nat) (n : Int) : M :=
  if r = 75 then { m with K := n } else if r = 70 then { m with F := n } else if r = 84 then { m with T := n } else if r = 103 then { m with g := n } else if r = 116 then { m with t := n } else
  if r = 105 then { m with i := n } else if r = 112 then { m with p := n } else if r = 99 then { m with c := n } else if r = 114 then { m with r := n } else if r = 120 then { m with x := n } else
  if r = 97 then { m with a := n } else if r = 98 then { m with b := n } else if r = 118 then { m with v := n } else if r = 115 then { m with s := n } else m
def M.kind (m : M) : Nat := m.K.toNat
def M.isKind (m : M) : Bool := decide (1 ≤ m.K) && decide (m.K ≤ 11)
def M.blank (m : M) (r : Nat) : Bool :=
  if r = 111 then !m.ok else if r = 101 then decide (m.es.length = 0) else if r = 100 then decide (m.d.length = 0) else decide (m.num r = 0)
def least (r : Nat) : Int := if r = 70 ∨ r = 84 ∨ r = 120 ∨ r = 97 then 1 else 0
def most (r : Nat) : Int := if r = 70 ∨ r = 84 then 199 else if r = 103 ∨ r = 97 then 4 else if r = 118 then 2 else 1099511627776
def within (v : Int) (r : Nat) : Bool := decide (least r ≤ v) && decide (v ≤ most r)
/-- does a field that its kind doesn't have say something? -/
def M.foreign (m : M) : Bool := all.any fun r => !(tab m.kind).contains r && !m.blank r
def enOk (e : En) : Bool := within e.t 116 && (decide (0 ≤ e.k) && decide (e.k ≤ 2))
def M.fine (m : M) (r : Nat) : Bool := !isNum r || within (m.num r) r
def M.inRange (m : M) : Bool := (head ++ tab m.kind).all m.fine && m.es.all enOk
def M.size (m : M) : Nat := 8 * (head ++ tab m.kind).length + (24 * m.es.length + weigh m.es) + m.d.length
/-- what is wrong with it: 0 OK, 2 ErrLong, 3 ErrRange, 13 ErrKind, 14 ErrField -/
def check (m : M) : Nat :=
  if m.isKind = false then 13 else if m.foreign = true then 14 else if m.inRange = false then 3 else if 1024 < m.es.length ∨ 65536 < m.size then 2 else 0
def encE (e : En) : List Nat := Pk.enc e.t ++ (Pk.enc e.k ++ (Pk.enc e.d.length ++ e.d))
def M.encF (m : M) (r : Nat) : List Nat :=
  if r = 111 then Pk.enc (if m.ok = true then 1 else 0) else if r = 101 then Pk.enc m.es.length ++ m.es.flatMap encE else if r = 100 then Pk.enc m.d.length ++ m.d else Pk.enc (m.num r)
def M.enc (m : M) : List Nat := (head ++ tab m.kind).flatMap m.encF
def put (m : M) : List Nat × Nat := if check m = 0 then (Fr.frame m.enc, 0) else ([], check m)
/-- an entry that is read; entries that are -/
def rdE (s : Pk.St) : En × Pk.St := (⟨(Pk.rdInt s).1, (Pk.rdInt (Pk.rdInt s).2).1, (Pk.rdBlob (Pk.rdInt (Pk.rdInt s).2).2).1⟩, (Pk.rdBlob (Pk.rdInt (Pk.rdInt s).2).2).2)
def rdEs : Nat → Pk.St → List En × Pk.St
  | 0, s => ([], s)
  | n + 1, s => ((rdE s).1 :: (rdEs n (rdE s).2).1, (rdEs n (rdE s).2).2)
/-- a field that is read; none: it can't be one -/
def rdF (m : M) (s : Pk.St) (r : Nat) : Option (M × Pk.St) :=
  if r = 111 then (if (Pk.rdInt s).1 = 0 ∨ (Pk.rdInt s).1 = 1 then some ({ m with ok := decide ((Pk.rdInt s).1 = 1) }, (Pk.rdInt s).2) else none)
  else if r = 101 then (if (Pk.rdInt s).1 < 0 ∨ (((Pk.rdInt s).2.rest.length / 24 : Nat) : Int) < (Pk.rdInt s).1 then none
    else some ({ m with es := m.es ++ (rdEs (Pk.rdInt s).1.toNat (Pk.rdInt s).2).1 }, (rdEs (Pk.rdInt s).1.toNat (Pk.rdInt s).2).2))
  else if r = 100 then some ({ m with d := (Pk.rdBlob s).1 }, (Pk.rdBlob s).2)
  else some (m.set r (Pk.rdInt s).1, (Pk.rdInt s).2)
def rdFs : List Nat → M → Pk.St → Option (M × Pk.St)
  | [], m, s => some (m, s)
  | r :: l, m, s => match rdF m s r with
    | none => none
    | some (m', s') => rdFs l m' s'
def head3 (p : List Nat) : M × Pk.St :=
  let s0 : Pk.St := ⟨p, false⟩
  let s1 := (Pk.rdInt s0).2
  let s2 := (Pk.rdInt s1).2
  ({ M0 with K := (Pk.rdInt s0).1, F := (Pk.rdInt s1).1, T := (Pk.rdInt s2).1 }, (Pk.rdInt s2).2)
/-- the end of what is read: 0 OK -/
def over (s : Pk.St) : Bool := !s.bad && decide (s.rest.length = 0)
def body (p : List Nat) : Option M :=
  match rdFs (tab (head3 p).1.kind) (head3 p).1 (head3 p).2 with
  | none => none
  | some (m, s) => if over s = true then some m else none
/-- the message whose encoding is p; 4 ErrForm, 13 ErrKind -/
def dec (p : List Nat) : M × Nat :=
  if (head3 p).2.bad = true then (M0, 4) else if (head3 p).1.isKind = false then (M0, 13) else
  match body p with
  | none => (M0, 4)
  | some m => (m, 0)
def checked (x : M × Nat) : M × Nat := if x.2 ≠ 0 then (M0, x.2) else if check x.1 ≠ 0 then (M0, check x.1) else (x.1, 0)
def get (b : List Nat) : M × Nat :=
  if (Fr.get b).2.2 ≠ 0 then (M0, (Fr.get b).2.2) else if (Fr.get b).2.1 < b.length then (M0, 2) else checked (dec (Fr.get b).1)

theorem set_out (m : M) (r : Nat) (n : Int) (h : r ∉ nums) : m.set r n = m := by
  simp only [nums, List.mem_cons, List.not_mem_nil, or_false, not_or] at h
  obtain ⟨h1, h2, h3, h4, h5, h6, h7, h8, h9, h10, h11, h12, h13, h14⟩ := h
  unfold M.set
  rw [if_neg h1, if_neg h2, if_neg h3, if_neg h4, if_neg h5, if_neg h6, if_neg h7, if_neg h8, if_neg h9, if_neg h10, if_neg h11, if_neg h12, if_neg h13, if_neg h14]
theorem num_set (m : M) (r q : Nat) (n : Int) (h : q ∈ nums) : (m.set r n).num q = if r = q then n else m.num q := by
  by_cases hr : r ∈ nums
  · simp only [nums, List.mem_cons, List.not_mem_nil, or_false] at h hr
    rcases hr with rfl | rfl | rfl | rfl | rfl | rfl | rfl | rfl | rfl | rfl | rfl | rfl | rfl | rfl <;>
      rcases h with rfl | rfl | rfl | rfl | rfl | rfl | rfl | rfl | rfl | rfl | rfl | rfl | rfl | rfl <;> rfl
  · rw [set_out m r n hr, if_neg (fun e : r = q => hr (by rw [e]; exact h))]
end Go.Proofs.YtmaebemhephcmaaDoor.Ms
