/- Packets under way and ways that are cut, in plain words. -/
import Derived.Test.YtckfjkhjnpkobaaMem
namespace Go.Proofs.Ytckfjkhjnpkobaa.Po

/-- a packet -/
structure Pk where
  a : Int
  b : Int
  d : List Nat
deriving DecidableEq
/-- what is under way, and whether it is turned; the ways that are cut -/
structure St where
  l : List (Pk × Bool)
  c : List (Int × Int)
def new : St := ⟨[], []⟩
/-- a way: the lesser number first -/
def norm (a b : Int) : Int × Int := (min a b, max a b)
theorem norm_swap (a b : Int) : norm a b = norm b a := by unfold norm; rw [Int.min_comm, Int.max_comm]
theorem norm_eq {a b x y : Int} : norm a b = norm x y ↔ (a = x ∧ b = y) ∨ (a = y ∧ b = x) := by
  unfold norm
  rw [Prod.mk.injEq]
  omega
theorem norm_self {a b c : Int} (h : norm a b = norm c c) : a = b := by
  rcases norm_eq.1 h with ⟨h1, h2⟩ | ⟨h1, h2⟩ <;> omega
def lay (s : St) (x : Pk) (t : Bool) : St := { s with l := s.l ++ [(x, t)] }
def layE (s : St) : Int := if s.l.length = 256 then 8 else 0
def layS (s : St) (x : Pk) (t : Bool) : St := if s.l.length = 256 then s else lay s x t
def isCut (s : St) (a b : Int) : Bool := decide (norm a b ∈ s.c)
def sendE (s : St) (x : Pk) : Int := if isCut s x.a x.b then 0 else layE s
def sendS (s : St) (x : Pk) : St := if isCut s x.a x.b then s else layS s x false
def has (s : St) (i : Int) : Bool := decide (0 ≤ i) && decide (i < s.l.length)
theorem has_iff {s : St} {i : Int} : has s i = true ↔ 0 ≤ i ∧ i < s.l.length := by unfold has; simp
def pkt (s : St) (i : Int) : Pk × Bool := (s.l[i.toNat]?).getD (⟨0, 0, []⟩, false)
def del (s : St) (i : Nat) : St := { s with l := s.l.eraseIdx i }
def takeE (s : St) (i : Int) : Int := if has s i then 0 else 6
def takeS (s : St) (i : Int) : St := if has s i then del s i.toNat else s
def takeP (s : St) (i : Int) : Pk := if has s i then (pkt s i).1 else ⟨0, 0, []⟩
def dblE (s : St) (i : Int) : Int := if has s i then layE s else 6
def dblS (s : St) (i : Int) : St := if has s i then layS s (pkt s i).1 (pkt s i).2 else s
/-- a bit is turned -/
def flip (d : List Nat) (bit : Nat) : List Nat := d.set (bit / 8) (((d[bit / 8]?).getD 0) ^^^ 2 ^ (bit % 8))
theorem flip_length (d : List Nat) (bit : Nat) : (flip d bit).length = d.length := by unfold flip; rw [List.length_set]
def flipP (p : Pk) (bit : Nat) : Pk := { p with d := flip p.d bit }
def turn (s : St) (i bit : Nat) : St := { s with l := s.l.set i (flipP (pkt s i).1 bit, true) }
/-- is there such a bit? -/
def bitIn (s : St) (i bit : Int) : Bool := decide (0 ≤ bit) && decide (bit / 8 < (pkt s i).1.d.length)
def turnE (s : St) (i bit : Int) : Int := if has s i then (if bitIn s i bit then (if (pkt s i).2 then 7 else 0) else 3) else 6
def turnS (s : St) (i bit : Int) : St := if has s i && bitIn s i bit && !(pkt s i).2 then turn s i.toNat bit.toNat else s
def cutE (s : St) (a b : Int) : Int := if a = b then 3 else if isCut s a b then 7 else if s.c.length = 64 then 17 else 0
def cutS (s : St) (a b : Int) : St := if a = b then s else if isCut s a b then s else if s.c.length = 64 then s else { s with c := s.c ++ [norm a b] }
def joinE (s : St) (a b : Int) : Int := if isCut s a b then 0 else 6
def joinS (s : St) (a b : Int) : St := if isCut s a b then { s with c := s.c.eraseIdx (s.c.idxOf (norm a b)) } else s

/-- a call -/
structure Op where
  kind : Int
  a : Int
  b : Int
  d : List Nat
def step (s : St) (o : Op) : St :=
  if o.kind = 0 then sendS s ⟨o.a, o.b, o.d⟩ else if o.kind = 1 then takeS s o.a else if o.kind = 2 then takeS s o.a else if o.kind = 3 then dblS s o.a
  else if o.kind = 4 then turnS s o.a o.b else if o.kind = 5 then cutS s o.a o.b else if o.kind = 6 then joinS s o.a o.b else s
def long (l : List Op) : Bool := decide (400 < l.length) || l.any fun t => decide (1024 < t.d.length)
theorem long_iff {l : List Op} : long l = false ↔ l.length ≤ 400 ∧ ∀ t ∈ l, t.d.length ≤ 1024 := by
  unfold long
  simp [List.any_eq_false]
/-- the place of a way among those that are cut; -1: it is not -/
def ixOf (x : Int × Int) (C : List (Int × Int)) : Int := if x ∈ C then ((C.idxOf x : Nat) : Int) else -1
theorem ixOf_in {x : Int × Int} {C : List (Int × Int)} (h : x ∈ C) : ixOf x C = (C.idxOf x : Nat) := by unfold ixOf; rw [if_pos h]
theorem ixOf_out {x : Int × Int} {C : List (Int × Int)} (h : x ∉ C) : ixOf x C = -1 := by unfold ixOf; rw [if_neg h]
end Go.Proofs.Ytckfjkhjnpkobaa.Po
