/- Texts of the proof, one behind the other: MsMath, MsA, MsB, EntsMore, MsC, KitEq. -/
import Derived.Test.YtpigekbfngalbaaDoorPartAA
import Derived.Test.YtpigekbfngalbaaDoorPartAC
import Derived.WalkKit
import Derived.Lib.Bytealg
import Derived.Lib.OthersKept
import Derived.ArgAppend
import Derived.OwnWalk
import Derived.Test.YtpigekbfngalbaaDoorRows
import Derived.Test.YtpigekbfngalbaaDoorPartAB
import Derived.Deep.QuietTactic
import Derived.BigQuiet
namespace Go.Proofs.YtpigekbfngalbaaDoor.Ms
open Rl (En)

/-- a message -/
structure M where
  K : Int
  F : Int
  T : Int
  g : Int
  t : Int
  i : Int
  p : Int
  c : Int
  r : Int
  x : Int
  a : Int
  b : Int
  v : Int
  s : Int
  ok : Bool
  es : List En
  d : List Nat
deriving DecidableEq
def M0 : M := ⟨0, 0, 0, 0, 0, 0, 0, 0, 0, 0, 0, 0, 0, 0, false, [], []⟩
/-- which fields a kind has besides the head, each by its letter -/
def tab : Nat → List Nat
  | 1 => [103, 116, 105, 112]
  | 2 => [103, 116, 111]
  | 3 => [103, 116, 105, 112, 99, 114, 101]
  | 4 => [103, 116, 111, 105, 114]
  | 5 => [103, 116, 105, 112, 114, 100]
  | 6 => [103, 115, 100]
  | 7 => [103, 115, 111, 105, 100]
  | 8 => [120, 97, 98]
  | 9 => [120, 97, 98, 111, 105, 118]
  | 10 => [120, 97, 98, 118]
  | 11 => [120, 97, 98, 111, 105, 118]
  | _ => []
def head : List Nat := [75, 70, 84]
def all : List Nat := [103, 116, 105, 112, 99, 114, 120, 97, 98, 118, 115, 111, 101, 100]
/-- the letters of the numbers, in the order of the struct -/
def nums : List Nat := [75, 70, 84, 103, 116, 105, 112, 99, 114, 120, 97, 98, 118, 115]
/-- where a number lies in the struct -/
def ix (r : Nat) : Nat := nums.idxOf r
def isNum (r : Nat) : Bool := nums.contains r
def M.num (m : M) (r : Nat) : Int :=
  if r = 75 then m.K else if r = 70 then m.F else if r = 84 then m.T else if r = 103 then m.g else if r = 116 then m.t else if r = 105 then m.i else if r = 112 then m.p else if r = 99 then m.c else
  if r = 114 then m.r else if r = 120 then m.x else if r = 97 then m.a else if r = 98 then m.b else if r = 118 then m.v else if r = 115 then m.s else 0
def M.set (m : M) (r : Nat) (n : Int) : M :=
  if r = 75 then { m with K := n } else if r = 70 then { m with F := n } else if r = 84 then { m with T := n } else if r = 103 then { m with g := n } else if r = 116 then { m with t := n } else
  if r = 105 then { m with i := n } else if r = 112 then { m with p := n } else if r = 99 then { m with c := n } else if r = 114 then { m with r := n } else if r = 120 then { m with x := n } else
  if r = 97 then { m with a := n } else if r = 98 then { m with b := n } else if r = 118 then { m with v := n } else if r = 115 then { m with s := n } else m
def M.kind (m : M) : Nat := m.K.toNat
def M.isKind (m : M) : Bool := decide (1 ≤ m.K) && decide (m.K ≤ 11)
def M.blank (m : M) (r : Nat) : Bool :=
  if r = 111 then !m.ok else if r = 101 then decide (m.es.length = 0) else if r = 100 then decide (m.d.length = 0) else decide (m.num r = 0)
def least (r : Nat) : Int := if r = 70 ∨ r = 84 ∨ r = 120 ∨ r = 97 then 1 else 0
def most (r : Nat) : Int := if r = 70 ∨ r = 84 then 199 else if r = 103 ∨ r = 97 then 4 else if r = 118 then 2 else 1099511627776
def within (v : Int) (r : Nat) : Bool := decide (least r ≤ v) && decide (v ≤ most r)
/-- does a field that its kind doesn't have say something? -/
def M.foreign (m : M) : Bool := all.any fun r => !(tab m.kind).contains r && !m.blank r
def enOk (e : En) : Bool := within e.t 116 && (decide (0 ≤ e.k) && decide (e.k ≤ 2))
def M.fine (m : M) (r : Nat) : Bool := !isNum r || within (m.num r) r
def M.inRange (m : M) : Bool := (head ++ tab m.kind).all m.fine && m.es.all enOk
def M.size (m : M) : Nat := 8 * (head ++ tab m.kind).length + (24 * m.es.length + weigh m.es) + m.d.length
/-- what is wrong with it: 0 OK, 2 ErrLong, 3 ErrRange, 13 ErrKind, 14 ErrField -/
def check (m : M) : Nat :=
  if m.isKind = false then 13 else if m.foreign = true then 14 else if m.inRange = false then 3 else if 1024 < m.es.length ∨ 65536 < m.size then 2 else 0
def encE (e : En) : List Nat := Pk.enc e.t ++ (Pk.enc e.k ++ (Pk.enc e.d.length ++ e.d))
def M.encF (m : M) (r : Nat) : List Nat :=
  if r = 111 then Pk.enc (if m.ok = true then 1 else 0) else if r = 101 then Pk.enc m.es.length ++ m.es.flatMap encE else if r = 100 then Pk.enc m.d.length ++ m.d else Pk.enc (m.num r)
def M.enc (m : M) : List Nat := (head ++ tab m.kind).flatMap m.encF
def put (m : M) : List Nat × Nat := if check m = 0 then (Fr.frame m.enc, 0) else ([], check m)
/-- an entry that is read; entries that are -/
def rdE (s : Pk.St) : En × Pk.St := (⟨(Pk.rdInt s).1, (Pk.rdInt (Pk.rdInt s).2).1, (Pk.rdBlob (Pk.rdInt (Pk.rdInt s).2).2).1⟩, (Pk.rdBlob (Pk.rdInt (Pk.rdInt s).2).2).2)
def rdEs : Nat → Pk.St → List En × Pk.St
  | 0, s => ([], s)
  | n + 1, s => ((rdE s).1 :: (rdEs n (rdE s).2).1, (rdEs n (rdE s).2).2)
/-- a field that is read; none: it can't be one -/
def rdF (m : M) (s : Pk.St) (r : Nat) : Option (M × Pk.St) :=
  if r = 111 then (if (Pk.rdInt s).1 = 0 ∨ (Pk.rdInt s).1 = 1 then some ({ m with ok := decide ((Pk.rdInt s).1 = 1) }, (Pk.rdInt s).2) else none)
  else if r = 101 then (if (Pk.rdInt s).1 < 0 ∨ (((Pk.rdInt s).2.rest.length / 24 : Nat) : Int) < (Pk.rdInt s).1 then none
    else some ({ m with es := m.es ++ (rdEs (Pk.rdInt s).1.toNat (Pk.rdInt s).2).1 }, (rdEs (Pk.rdInt s).1.toNat (Pk.rdInt s).2).2))
  else if r = 100 then some ({ m with d := (Pk.rdBlob s).1 }, (Pk.rdBlob s).2)
  else some (m.set r (Pk.rdInt s).1, (Pk.rdInt s).2)
def rdFs : List Nat → M → Pk.St → Option (M × Pk.St)
  | [], m, s => some (m, s)
  | r :: l, m, s => match rdF m s r with
    | none => none
    | some (m', s') => rdFs l m' s'
def head3 (p : List Nat) : M × Pk.St :=
  let s0 : Pk.St := ⟨p, false⟩
  let s1 := (Pk.rdInt s0).2
  let s2 := (Pk.rdInt s1).2
  ({ M0 with K := (Pk.rdInt s0).1, F := (Pk.rdInt s1).1, T := (Pk.rdInt s2).1 }, (Pk.rdInt s2).2)
/-- the end of what is read: 0 OK -/
def over (s : Pk.St) : Bool := !s.bad && decide (s.rest.length = 0)
def body (p : List Nat) : Option M :=
  match rdFs (tab (head3 p).1.kind) (head3 p).1 (head3 p).2 with
  | none => none
  | some (m, s) => if over s = true then some m else none
/-- the message whose encoding is p; 4 ErrForm, 13 ErrKind -/
def dec (p : List Nat) : M × Nat :=
  if (head3 p).2.bad = true then (M0, 4) else if (head3 p).1.isKind = false then (M0, 13) else
  match body p with
  | none => (M0, 4)
  | some m => (m, 0)
def checked (x : M × Nat) : M × Nat := if x.2 ≠ 0 then (M0, x.2) else if check x.1 ≠ 0 then (M0, check x.1) else (x.1, 0)
def get (b : List Nat) : M × Nat :=
  if (Fr.get b).2.2 ≠ 0 then (M0, (Fr.get b).2.2) else if (Fr.get b).2.1 < b.length then (M0, 2) else checked (dec (Fr.get b).1)

theorem set_out (m : M) (r : Nat) (n : Int) (h : r ∉ nums) : m.set r n = m := by
  simp only [nums, List.mem_cons, List.not_mem_nil, or_false, not_or] at h
  obtain ⟨h1, h2, h3, h4, h5, h6, h7, h8, h9, h10, h11, h12, h13, h14⟩ := h
  unfold M.set
  rw [if_neg h1, if_neg h2, if_neg h3, if_neg h4, if_neg h5, if_neg h6, if_neg h7, if_neg h8, if_neg h9, if_neg h10, if_neg h11, if_neg h12, if_neg h13, if_neg h14]
theorem num_set (m : M) (r q : Nat) (n : Int) (h : q ∈ nums) : (m.set r n).num q = if r = q then n else m.num q := by
  by_cases hr : r ∈ nums
  · simp only [nums, List.mem_cons, List.not_mem_nil, or_false] at h hr
    rcases hr with rfl | rfl | rfl | rfl | rfl | rfl | rfl | rfl | rfl | rfl | rfl | rfl | rfl | rfl <;>
      rcases h with rfl | rfl | rfl | rfl | rfl | rfl | rfl | rfl | rfl | rfl | rfl | rfl | rfl | rfl <;> rfl
  · rw [set_out m r n hr, if_neg (fun e : r = q => hr (by rw [e]; exact h))]
end Go.Proofs.YtpigekbfngalbaaDoor.Ms
namespace Go.Proofs.YtpigekbfngalbaaDoor.Ms
open Go.RowKit
set_option maxRecDepth 100000

/-- the pointer to a field -/
def ptr (g : Nat) (r : Nat) : Option Addr := if r ∈ nums then some ⟨g, ix r, none⟩ else none

set_option maxHeartbeats 1600000 in
theorem number_any (g : Nat) (r : Nat) (hr : r < 128) (w : World) :
    Calls Tryd.prog 61 #[.pointer (some ⟨g, 0, none⟩), .int .i32 (r : Int)] w fun e w' => e = .returned (.pointer (ptr g r)) ∧ w' = w := by
  by_cases hn : r ∈ nums
  · have hp : ptr g r = some ⟨g, ix r, none⟩ := if_pos hn
    rw [hp]
    simp only [nums, List.mem_cons, List.not_mem_nil, or_false] at hn
    rcases hn with rfl | rfl | rfl | rfl | rfl | rfl | rfl | rfl | rfl | rfl | rfl | rfl | rfl | rfl <;>
    · go_enter Tryd.func61, Tryd.ntmps61
      go_wp2
      go_ret
      exact ⟨rfl, rfl⟩
  · have hp : ptr g r = none := if_neg hn
    rw [hp]
    simp only [nums, List.mem_cons, List.not_mem_nil, or_false, not_or] at hn
    obtain ⟨h1, h2, h3, h4, h5, h6, h7, h8, h9, h10, h11, h12, h13, h14⟩ := hn
    have k1 : (r : Int) ≠ 75 := by omega
    have k2 : (r : Int) ≠ 70 := by omega
    have k3 : (r : Int) ≠ 84 := by omega
    have k4 : (r : Int) ≠ 103 := by omega
    have k5 : (r : Int) ≠ 116 := by omega
    have k6 : (r : Int) ≠ 105 := by omega
    have k7 : (r : Int) ≠ 112 := by omega
    have k8 : (r : Int) ≠ 99 := by omega
    have k9 : (r : Int) ≠ 114 := by omega
    have k10 : (r : Int) ≠ 120 := by omega
    have k11 : (r : Int) ≠ 97 := by omega
    have k12 : (r : Int) ≠ 98 := by omega
    have k13 : (r : Int) ≠ 118 := by omega
    have k14 : (r : Int) ≠ 115 := by omega
    clear h1 h2 h3 h4 h5 h6 h7 h8 h9 h10 h11 h12 h13 h14
    go_enter Tryd.func61, Tryd.ntmps61
    go_wp2
    go_ret
    exact ⟨rfl, rfl⟩

end Go.Proofs.YtpigekbfngalbaaDoor.Ms
namespace Go.Proofs.YtpigekbfngalbaaDoor.Ms
open Go.RowKit
set_option maxRecDepth 100000

/-- letters as a string -/
def strOf (l : List Nat) : ByteArray := ⟨(l.map Nat.toUInt8).toArray⟩
theorem strOf_size (l : List Nat) : (strOf l).size = l.length := by unfold strOf; simp [ByteArray.size]
theorem strOf_append (l k : List Nat) : strOf l ++ strOf k = strOf (l ++ k) := by
  unfold strOf
  rw [List.map_append]
  apply ByteArray.ext
  simp [ByteArray.data_append]
theorem strOf_get (l : List Nat) (hl : ∀ x ∈ l, x < 128) (k : Nat) (h : k < (strOf l).size) : ((strOf l)[k]'h).toNat = l[k]'(by rw [← strOf_size]; exact h) := by
  have hk : k < l.length := by rw [← strOf_size]; exact h
  have hx := hl l[k] (List.getElem_mem hk)
  show ((strOf l).data[k]).toNat = _
  simp only [strOf, List.getElem_toArray, List.getElem_map]
  exact Nat.mod_eq_of_lt (by omega)
theorem has_index (l : List Nat) (hl : ∀ x ∈ l, x < 128) (r : Nat) (hr : r < 128) : decide (0 ≤ Lib.indexByte (l.map Nat.toUInt8) ((r : Int).toNat.toUInt8)) = l.contains r := by
  induction l with
  | nil => simp [Lib.indexByte]
  | cons a l ih =>
    have ih := ih (fun x hx => hl x (List.mem_cons_of_mem _ hx))
    have ha := hl a List.mem_cons_self
    have he : (a.toUInt8 == (r : Int).toNat.toUInt8) = (r == a) := by
      rw [Int.toNat_natCast, Bool.eq_iff_iff, beq_iff_eq, beq_iff_eq]
      constructor
      · intro e
        have := congrArg UInt8.toNat e
        simp at this
        omega
      · rintro rfl; rfl
    have hg := Lib.indexByte_ge (l.map Nat.toUInt8) ((r : Int).toNat.toUInt8)
    rw [List.map_cons, Lib.indexByte, he, List.contains_cons, ← ih]
    by_cases e : r = a
    · simp [e]
    · have e2 : (r == a) = false := by simpa using e
      rw [e2]
      simp only [Bool.false_eq_true, if_false, Bool.false_or]
      by_cases h1 : Lib.indexByte (l.map Nat.toUInt8) ((r : Int).toNat.toUInt8) = -1
      · rw [h1]; rfl
      · have : (Lib.indexByte (l.map Nat.toUInt8) ((r : Int).toNat.toUInt8) == -1) = false := by simpa using h1
        rw [this]
        simp only [Bool.false_eq_true, if_false]
        congr 1
        apply propext
        constructor <;> intro <;> omega

set_option maxHeartbeats 1000000 in
theorem sIndex_any (s : ByteArray) (c : Int) (w : World) :
    Calls Tryd.prog 101 #[.string s, .int .u8 c] w fun e w' => e = .returned (.int .i64 (Lib.indexByte s.data.toList c.toNat.toUInt8)) ∧ w' = w := by
  go_enter Tryd.func101, Tryd.ntmps101
  go_wp2
  rw [run_callFunc_extern Tryd.func103 (by kernel_rfl) (by kernel_rfl) (by kernel_rfl) (e := Extern.BytealgIndexByte.indexByte) (by kernel_rfl), Lib.run_indexByteString]
  simp only [Result.andThen]
  rw [Oper.upon_value]
  go_wp2
  go_ret
  exact ⟨rfl, rfl⟩
set_option maxHeartbeats 1000000 in
theorem index_any (s : ByteArray) (c : Int) (w : World) :
    Calls Tryd.prog 92 #[.string s, .int .u8 c] w fun e w' => e = .returned (.int .i64 (Lib.indexByte s.data.toList c.toNat.toUInt8)) ∧ w' = w := by
  go_enter Tryd.func92, Tryd.ntmps92
  go_wp2_with fail
  refine (sIndex_any _ _ _).mono ?_
  rintro e w' ⟨rfl, rfl⟩
  go_wp2
  go_ret
  exact ⟨rfl, rfl⟩
set_option maxHeartbeats 4000000 in
theorem rune_any (s : ByteArray) (r : Nat) (hr : r < 128) (w : World) :
    Calls Tryd.prog 83 #[.string s, .int .i32 (r : Int)] w fun e w' => e = .returned (.int .i64 (Lib.indexByte s.data.toList (r : Int).toNat.toUInt8)) ∧ w' = w := by
  have h0 : (0 : Int) ≤ r := by omega
  have h1 : (r : Int) < 128 := by omega
  go_enter Tryd.func83, Tryd.ntmps83
  go_wp2_with fail
  refine (index_any _ _ _).mono ?_
  rintro e w' ⟨rfl, rfl⟩
  go_wp2
  go_ret
  exact ⟨rfl, rfl⟩
set_option maxHeartbeats 1000000 in
theorem contains_any (l : List Nat) (hl : ∀ x ∈ l, x < 128) (r : Nat) (hr : r < 128) (w : World) :
    Calls Tryd.prog 59 #[.string (strOf l), .int .i32 (r : Int)] w fun e w' => e = .returned (.bool (l.contains r)) ∧ w' = w := by
  go_enter Tryd.func59, Tryd.ntmps59
  go_wp2_with fail
  refine (rune_any _ r hr _).mono ?_
  rintro e w' ⟨rfl, rfl⟩
  go_wp2
  go_ret
  refine ⟨?_, rfl⟩
  rw [← has_index l hl r hr]
  simp [strOf]
  congr
end Go.Proofs.YtpigekbfngalbaaDoor.Ms
namespace Go.Proofs.YtpigekbfngalbaaDoor
open Go.RowKit

/-- entries that lie anywhere, each with its bytes' place -/
def Reads (w : World) (B : Nat) (M : List El) : Prop := ∀ q ∈ M, IsBytes w B q.A q.e.d ∧ (q.e.d.length ≤ q.c ∧ q.c ≤ maxLen) ∧ (q.A = none → q.c = 0)
theorem IsEnts.flat {w : World} {B : Nat} {A : Option Addr} {L : List Rl.En} (h : IsEnts w B A L) : ∃ M : List El, M.map (·.e) = L ∧ Reads w B M ∧ ∀ ad, A = some ad → ∀ j u, (M.flatMap cellsE)[j]? = some u → w.cell? (ad.add j) = some u := by
  have hq : ∀ i : Fin L.length, ∃ q : El, q.e = L[i] ∧ (IsBytes w B q.A q.e.d ∧ (q.e.d.length ≤ q.c ∧ q.c ≤ maxLen) ∧ (q.A = none → q.c = 0)) ∧ ∀ ad, A = some ad → ∀ k, k < 3 → w.cell? (ad.add (i.1 * 3 + k)) = (cellsE q)[k]? := by
    intro i
    obtain ⟨b, off, rfl, _, hc⟩ := h.cells i.1 i.2
    obtain ⟨A1, c1, d0, d1, d2, d3, d4, d5⟩ := hc i.1 i.2
    refine ⟨⟨L[i], A1, c1⟩, rfl, ⟨d3, d4, d5⟩, fun ad he k hk => ?_⟩
    injection he with he
    subst he
    rw [add_off, ← Nat.add_assoc]
    match k, hk with
    | 0, _ => exact d0
    | 1, _ => exact d1
    | 2, _ => exact d2
  refine ⟨List.ofFn (fun i => (hq i).choose), ?_, ?_, ?_⟩
  · apply List.ext_getElem
    · simp
    · intro i h1 h2
      rw [List.getElem_map, List.getElem_ofFn]
      exact (hq ⟨i, h2⟩).choose_spec.1
  · intro q hm
    obtain ⟨i, rfl⟩ := List.mem_ofFn.1 hm
    exact (hq i).choose_spec.2.1
  · intro ad he j u hu
    have hlt := (List.getElem?_eq_some_iff.1 hu).1
    rw [flat_len cellsE 3 (fun _ => rfl)] at hlt
    have hj : j / 3 < (List.ofFn (fun i => (hq i).choose)).length := by omega
    have e := flat_get cellsE 3 (fun _ => rfl) _ (j / 3) hj (j % 3) (by omega)
    rw [show j / 3 * 3 + j % 3 = j by omega, hu, List.getElem_ofFn] at e
    have := (hq ⟨j / 3, by simpa using hj⟩).choose_spec.2.2 ad he (j % 3) (by omega)
    rw [show j / 3 * 3 + j % 3 = j by omega] at this
    rw [this, ← e]
theorem Reads.below {w w' : World} {B : Nat} {M : List El} (h : Reads w B M) (hb : Below B w w') : Reads w' B M := fun q hq => ⟨(h q hq).1.below hb, (h q hq).2⟩
/-- a row of entries whose bytes lie elsewhere -/
theorem isEnts_row {w : World} {B B' : Nat} {F : Nat → Prop} {A : Option Addr} {c : Nat} {M : List El} (hrow : RowIn cellsE 3 61 w F A c M) (hr : Reads w B M) (hB : B ≤ B') (hF : ∀ k, F k → k < w.heap.size → k < B') (hn : ∀ q ∈ M, InInt q.e.t ∧ InInt q.e.k) : IsEnts w B' A (M.map (·.e)) := ⟨fun e he => by
  obtain ⟨q, hq, rfl⟩ := List.mem_map.1 he
  exact hn q hq, fun k hk => by
  rw [List.length_map] at hk
  obtain ⟨g, hA, hg, hFg, _, _⟩ := hrow.get k hk
  refine ⟨g, 0, hA, hF g hFg hg, fun i hi => ?_⟩
  rw [List.length_map] at hi
  obtain ⟨g', hA', _, _, hc, _⟩ := hrow.get i hi
  obtain rfl : g = g' := by rw [hA] at hA'; injection hA' with e; injection e
  have ho := hr M[i] (List.getElem_mem hi)
  rw [List.getElem_map, Nat.zero_add]
  exact ⟨M[i].A, M[i].c, hc 0 (by omega), hc 1 (by omega), hc 2 (by omega), ho.1.more hB, ho.2⟩⟩

/-- Entries in a row of the call's own, from block lo on, whose bytes lie below block B. -/
def SharE (w : World) (B lo : Nat) (A : Option Addr) (c : Nat) (L : List Rl.En) : Prop :=
  ∃ M : List El, M.map (·.e) = L ∧ RowIn cellsE 3 61 w (fun k => lo ≤ k) A c M ∧ Reads w B M ∧ ∀ q ∈ M, InInt q.e.t ∧ InInt q.e.k
namespace SharE
variable {w w' : World} {B lo : Nat} {A : Option Addr} {c : Nat} {L : List Rl.En}
theorem nil (w : World) (B lo : Nat) : SharE w B lo none 0 [] := ⟨[], rfl, RowIn.nil (f := cellsE) (fun _ => rfl) _ _ _, fun q hq => by simp at hq, by simp⟩
theorem reads (h : SharE w B lo A c L) (hB : B ≤ w.heap.size) : IsEnts w w.heap.size A L := by
  obtain ⟨M, h1, h2, h3, h4⟩ := h
  rw [← h1]
  exact isEnts_row h2 h3 hB (fun k _ hk => hk) h4
theorem keep {S : Nat → Prop} (h : SharE w B lo A c L) (ht : Turned S w w') (hB : B ≤ w.heap.size) (hs : ∀ k, S k → B ≤ k ∧ k < lo) : SharE w' B lo A c L := by
  obtain ⟨M, h1, h2, h3, h4⟩ := h
  exact ⟨M, h1, h2.keep ht (fun k hk hS => by have := h2.blk k hk; have := (hs k hS).2; omega), h3.below (ht.below hB (fun k hk => (hs k hk).1)), h4⟩
theorem below (h : SharE w B lo A c L) (hb : Below w.heap.size w w') (hB : B ≤ w.heap.size) : SharE w' B lo A c L := h.keep (S := fun _ => False) (Turned.ofBelow _ hb) hB (fun _ h => h.elim)
theorem room (h : SharE w B lo A c L) : L.length ≤ c ∧ c ≤ maxLen := by
  obtain ⟨M, h1, h2⟩ := h; rw [← h1, List.length_map]; exact ⟨h2.1.cap, h2.1.capLe⟩
theorem none_ (h : SharE w B lo A c L) : A = none → c = 0 := by
  obtain ⟨M, h1, h2⟩ := h; exact h2.1.none_
end SharE
/-- both lie in a new row then -/
theorem run_append_full {w : World} (ty : TypeId) {B : Nat} {A A' : Option Addr} {L M : List Rl.En} (h : IsEnts w B A L) (h' : IsEnts w B A' M) (hB : B ≤ w.heap.size) (n m c' : Nat) (hn : L.length = n) (hm : M.length = m) (h0 : A = none → n = 0) (hpos : 0 < m) (hl : n + m ≤ 100000) :
    ∃ A2 c2 w', (Builtin.append_ #[22, 22] ty #[.slice A n n, .slice A' m c']).run Tryd.prog w = .ok (.slice A2 (n + m) c2) w' ∧ SharE w' B w.heap.size A2 c2 (L ++ M) ∧ Below w.heap.size w w' := by
  subst hn
  subst hm
  obtain ⟨i0, hi, hz0, hz1, hz2⟩ := info_parts info_entry
  obtain ⟨ML, e1, r1, c1⟩ := h.flat
  obtain ⟨MM, e2, r2, c2⟩ := h'.flat
  have l1 : ML.length = L.length := by rw [← e1, List.length_map]
  have l2 : MM.length = M.length := by rw [← e2, List.length_map]
  obtain ⟨b', off', rfl, _⟩ := h'.cells 0 hpos
  have hex : ∃ v' w', (Builtin.append_ #[22, 22] ty #[.slice A L.length L.length, .slice (some ⟨b', off', none⟩) M.length c']).run Tryd.prog w = .ok v' w' ∧ w'.ownsRow w.heap.size 61 3 v' (L.length + M.length) (ML.flatMap cellsE ++ MM.flatMap cellsE) ∧ w.grownBy w' none := by
    rcases A with _ | b
    · have hl0 := h0 rfl
      have hnil : ML = [] := List.eq_nil_of_length_eq_zero (by omega)
      subst hnil
      rw [hl0]
      obtain ⟨v', w', hrun, q1, q2, _⟩ := run_append_own (P := Tryd.prog) w w.heap.size 22 ty 61 i0 _ 3 40 Tryd.underlying22 hi hz0 hz1 hz2 rfl (by decide) (.slice none 0 0) 0 [] (World.ownsRow_nil w _ _ 3) ⟨b', off', none⟩ M.length c' (MM.flatMap cellsE) (by rw [flat_len cellsE 3 (fun _ => rfl), l2]) (c2 _ rfl) (by intro u hu; obtain ⟨d, _, hu⟩ := List.mem_flatMap.1 hu; exact cellsE_one d u hu) (by unfold maxLen; omega) (by omega) (Nat.le_refl _)
      exact ⟨v', w', hrun, by simpa using q1, q2⟩
    · obtain ⟨v', w', hrun, q1, q2⟩ := run_append_arg_grows (P := Tryd.prog) w 22 ty 61 i0 _ 3 40 Tryd.underlying22 hi hz0 hz1 hz2 rfl (by decide) b L.length L.length (ML.flatMap cellsE) (by rw [flat_len cellsE 3 (fun _ => rfl), l1]) (c1 _ rfl) ⟨b', off', none⟩ M.length c' (MM.flatMap cellsE) (by rw [flat_len cellsE 3 (fun _ => rfl), l2]) (c2 _ rfl) (by omega) (by unfold maxLen; omega) (by omega)
      exact ⟨v', w', hrun, q1, q2⟩
  obtain ⟨v', w', hrun, q1, q2⟩ := hex
  obtain ⟨A2, c2', rfl⟩ := own_slice q1
  have hbel : Below w.heap.size w w' := below_grown q2 (Nat.le_refl _) (fun k hk => by cases hk)
  have hrow : RowIn cellsE 3 61 w' (fun k => w.heap.size ≤ k) A2 c2' (ML ++ MM) := by
    refine ⟨fun _ => rfl, ?_, fun k hk => (q1.lt k (by rw [ownBlock_slice]; exact hk)).1⟩
    rw [List.length_append, l1, l2, List.flatMap_append]
    refine ⟨q1.1, ?_⟩
    rcases q1.2 with h0 | ⟨g, cap, cur, k1, k2, k3⟩
    · exact .inl h0
    · exact .inr ⟨g, cap, cur, k1, Nat.zero_le _, k3⟩
  have hmap : (ML ++ MM).map (·.e) = L ++ M := by rw [List.map_append, e1, e2]
  refine ⟨A2, c2', w', hrun, ⟨ML ++ MM, hmap, hrow, fun q hq => ?_, fun q hq => ?_⟩, hbel⟩
  · rcases List.mem_append.1 hq with hq | hq
    · exact r1.below (hbel.mono hB) q hq
    · exact r2.below (hbel.mono hB) q hq
  · have : q.e ∈ L ++ M := by rw [← hmap]; exact List.mem_map.2 ⟨q, hq, rfl⟩
    rcases List.mem_append.1 this with h1 | h1
    · exact h.num _ h1
    · exact h'.num _ h1
theorem step_append_full {w : World} {ops : Array Oper} {o : Oper} {a : Act} {K : Act → World → Prop} {Q : Exit → Act → World → Prop} {E : Prop} (hgd : o.guard = none) (s y : Operand)
    (ho : o.op = .call { callee := .builtin .append, args := #[s, y], argTypes := #[22, 22] }) {B : Nat} {A A' : Option Addr} {L M : List Rl.En} (h : IsEnts w B A L) (h' : IsEnts w B A' M) (hB : B ≤ w.heap.size) (n m c' : Nat) (hn : L.length = n) (hm : M.length = m) (h0 : A = none → n = 0) (hpos : 0 < m) (hl : n + m ≤ 100000)
    (hs : a.eval s = .slice A n n) (hy : a.eval y = .slice A' m c')
    (hK : ∀ A2 c2 w', SharE w' B w.heap.size A2 c2 (L ++ M) → Below w.heap.size w w' → K (a.put o.dst (.slice A2 (n + m) c2)) w') :
    if Region.wanted o (yielded ops a.tmps) = true then Oper.wp Tryd.prog o a w K Q else E := by
  have hw : Region.wanted o (yielded ops a.tmps) = true := by simp [Region.wanted, hgd]
  rw [if_pos hw]
  obtain ⟨A2, c2, w', hr, h1, h4⟩ := run_append_full o.type h h' hB n m c' hn hm h0 hpos hl
  unfold Oper.wp execOp
  simp only [ho, resolve, invoke, builtin, Sem.run_bind, Sem.run_pure, Result.andThen_ok, List.map_toArray, List.map_cons, List.map_nil, hs, hy, hr]
  exact hK A2 c2 w' h1 h4
/-- an entry is put behind entries of the call's own row; its bytes stay where they lie -/
theorem wpList_append_share {w : World} {ops : Array Oper} {rest : List Oper} {o : Oper} {a : Act} {Q : Exit → Act → World → Prop} (hgd : o.guard = none) (s y : Operand)
    (ho : o.op = .call { callee := .builtin .append, args := #[s, y], argTypes := #[22, 22] }) {B lo c : Nat} {A : Option Addr} {L : List Rl.En} (h : SharE w B lo A c L) (hB : B ≤ lo) (hlo : lo ≤ w.heap.size)
    (n : Nat) (hn : L.length = n) (hs : a.eval s = .slice A n c) (x : Rl.En) (hx : InInt x.t ∧ InInt x.k) (A' : Option Addr) (c' : Nat) (hb : IsBytes w B A' x.d ∧ (x.d.length ≤ c' ∧ c' ≤ maxLen) ∧ (A' = none → c' = 0)) (ad : Addr) (ce : Nat) (hy : a.eval y = .slice (some ad) 1 ce) (hc : ∀ k, k < 3 → w.cell? (ad.add k) = (cellsE ⟨x, A', c'⟩)[k]?)
    (hl : n + 1 ≤ 100000)
    (hK : ∀ A2 c2 w', SharE w' B lo A2 c2 (L ++ [x]) → Below lo w w' → wpList Tryd.prog ops Q rest (a.put o.dst (.slice A2 (n + 1) c2)) w') : wpList Tryd.prog ops Q (o :: rest) a w := by
  obtain ⟨i0, hi, hz0, hz1, hz2⟩ := info_parts info_entry
  obtain ⟨M, hM, hr, hrd, hnum⟩ := h
  refine wpList_append_row hgd s y 22 ho i0 _ Tryd.underlying22 hi hz0 hz1 hz2 rfl (by decide) hr n (by rw [← hn, ← hM, List.length_map]) hs ⟨x, A', c'⟩ ad ce hy hc (cellsE_one _) (by omega) hl ?_
  intro A2 c2 w' h1 h2 _
  have hbel : Below lo w w' := below_grown h2 hlo (fun k hk => hr.blk k hk)
  refine hK A2 c2 w' ⟨M ++ [⟨x, A', c'⟩], by rw [List.map_append, hM]; rfl, h1.mono (fun k hk => ?_), fun q hq => ?_, fun q hq => ?_⟩ hbel
  · rcases h1.blk k hk with e | e
    · exact e
    · omega
  · rcases List.mem_append.1 hq with hq | hq
    · exact hrd.below (hbel.mono hB) q hq
    · obtain rfl := List.mem_singleton.1 hq
      exact ⟨hb.1.below (hbel.mono hB), hb.2⟩
  · rcases List.mem_append.1 hq with hq | hq
    · exact hnum q hq
    · obtain rfl := List.mem_singleton.1 hq; exact hx
/-- what a region carries out -/
theorem step_of_wp {c : Bool} {X E : Prop} (hc : c = true) (h : X) : if c = true then X else E := by rw [if_pos hc]; exact h
theorem wp_append_ent {w : World} {o : Oper} {a : Act} {K : Act → World → Prop} {Q : Exit → Act → World → Prop} (s y : Operand)
    (ho : o.op = .call { callee := .builtin .append, args := #[s, y], argTypes := #[22, 22] }) {B N c : Nat} {A : Option Addr} {L : List Rl.En} (h : OwnE w B N A c L) (hBN : B ≤ N) (hN : N ≤ w.heap.size)
    (n : Nat) (hn : L.length = n) (hs : a.eval s = .slice A n c) (x : Rl.En) (hx : InInt x.t ∧ InInt x.k) (A' : Option Addr) (c' : Nat) (hb : OwnsB 5 w N A' c' x.d) (ad : Addr) (ce : Nat) (hy : a.eval y = .slice (some ad) 1 ce) (hc : ∀ k, k < 3 → w.cell? (ad.add k) = (cellsE ⟨x, A', c'⟩)[k]?)
    (hl : n + 1 ≤ 100000)
    (hK : ∀ A2 c2 w', OwnE w' B w'.heap.size A2 c2 (L ++ [x]) → Below B w w' → K (a.put o.dst (.slice A2 (n + 1) c2)) w') : Oper.wp Tryd.prog o a w K Q := by
  obtain ⟨i0, hi, hz0, hz1, hz2⟩ := info_parts info_entry
  obtain ⟨M, hM, hE⟩ := h
  exact wp_append_row s y 22 ho i0 _ Tryd.underlying22 hi hz0 hz1 hz2 rfl (by decide) hE.row n (by rw [← hn, ← hM, List.length_map]) hs ⟨x, A', c'⟩ ad ce hy hc (cellsE_one _) (by omega) hl
    fun A2 c2 w' h1 h2 _ => by
      obtain ⟨h4, h5⟩ := ent_put hM hE hBN hN x hb hx h1 h2
      exact hK A2 c2 w' h4 h5
end Go.Proofs.YtpigekbfngalbaaDoor
namespace Go.Proofs.YtpigekbfngalbaaDoor.Ms
open Go.RowKit
set_option maxRecDepth 100000

/-- the table of the fields lies where the program's text lays it -/
def Tab (w : World) : Prop := ∀ k, k < 12 → w.cell? ⟨0, k, none⟩ = some (.string (strOf (tab k)))
theorem Tab.below {w w' : World} {B : Nat} (h : Tab w) (hb : Below B w w') (hB : 0 < B) : Tab w' := fun k hk => (hb.cell hB).trans (h k hk)
theorem Tab.pos {w : World} (h : Tab w) : 0 < w.heap.size := World.block_lt_of_cell? _ _ (h 0 (by decide))
/-- the message whose entries lie at A, its data at A', below B -/
structure Is (w : World) (B : Nat) (m : M) (A : Option Addr) (c : Nat) (A' : Option Addr) (c' : Nat) : Prop where
  num : ∀ r ∈ nums, InInt (m.num r)
  es : IsEnts w B A m.es
  ec : m.es.length ≤ c ∧ c ≤ maxLen
  en : A = none → c = 0
  d : IsBytes w B A' m.d
  dc : m.d.length ≤ c' ∧ c' ≤ maxLen
  dn : A' = none → c' = 0
theorem Is.below {w w' : World} {B : Nat} {m : M} {A A' : Option Addr} {c c' : Nat} (h : Is w B m A c A' c') (hb : Below B w w') : Is w' B m A c A' c' := ⟨h.num, h.es.below hb, h.ec, h.en, h.d.below hb, h.dc, h.dn⟩
theorem Is.more {w : World} {B B' : Nat} {m : M} {A A' : Option Addr} {c c' : Nat} (h : Is w B m A c A' c') (hB : B ≤ B') : Is w B' m A c A' c' := ⟨h.num, h.es.more hB, h.ec, h.en, h.d.more hB, h.dc, h.dn⟩
theorem Is.low {w w' : World} {m : M} {A A' : Option Addr} {c c' : Nat} (h : Is w w.heap.size m A c A' c') (hb : Below w.heap.size w w') : Is w' w'.heap.size m A c A' c' := (h.below hb).more hb.size
/-- a number of a message where it lies -/
theorem num_cell (m : M) (A : Option Addr) (c : Nat) (A' : Option Addr) (c' : Nat) (r : Nat) (hr : r ∈ nums) : (#[.int .i64 m.K, .int .i64 m.F, .int .i64 m.T, .int .i64 m.g, .int .i64 m.t, .int .i64 m.i, .int .i64 m.p, .int .i64 m.c, .int .i64 m.r, .int .i64 m.x, .int .i64 m.a, .int .i64 m.b, .int .i64 m.v, .int .i64 m.s, .bool m.ok, .slice A m.es.length c, .slice A' m.d.length c'] : Array Value)[ix r]? = some (.int .i64 (m.num r)) := by
  simp only [nums, List.mem_cons, List.not_mem_nil, or_false] at hr
  rcases hr with rfl | rfl | rfl | rfl | rfl | rfl | rfl | rfl | rfl | rfl | rfl | rfl | rfl | rfl <;> rfl
theorem ix_lt (r : Nat) (hr : r ∈ nums) : ix r < 14 := by
  simp only [nums, List.mem_cons, List.not_mem_nil, or_false] at hr
  rcases hr with rfl | rfl | rfl | rfl | rfl | rfl | rfl | rfl | rfl | rfl | rfl | rfl | rfl | rfl <;> decide

set_option maxHeartbeats 1600000 in
theorem within_any (v : Int) (r : Nat) (w : World) :
    Calls Tryd.prog 62 #[.int .i64 v, .int .i32 (r : Int)] w fun e w' => e = .returned (.bool (within v r)) ∧ w' = w := by
  have fin : ∀ lo hi : Int, ∀ b : Bool, least r = lo → most r = hi → b = (decide (lo ≤ v) && decide (v ≤ hi)) → Ending.returned (.bool b) = .returned (.bool (within v r)) := fun lo hi b h1 h2 h3 => by unfold within; rw [h1, h2, h3]
  have hl : least r = if r = 70 ∨ r = 84 ∨ r = 120 ∨ r = 97 then 1 else 0 := rfl
  have hm : most r = if r = 70 ∨ r = 84 then 199 else if r = 103 ∨ r = 97 then 4 else if r = 118 then 2 else 1099511627776 := rfl
  have F := hid (And.intro fin (And.intro hl hm))
  clear fin hl hm
  by_cases h1 : r = 70 ∨ r = 84
  · have hL : least r = 1 := by rw [F.out.2.1]; first | rw [if_pos (by omega)] | rw [if_neg (by omega)]
    have hM : most r = 199 := by rw [F.out.2.2]; first | rw [if_pos (by omega)] | (rw [if_neg (by omega)]; first | rw [if_pos (by omega)] | (rw [if_neg (by omega)]; first | rw [if_pos (by omega)] | rw [if_neg (by omega)]))
    have G := hid (F.out.1 _ _ · hL hM)
    clear F hL hM
    rcases h1 with rfl | rfl <;>
    · by_cases hv : 1 ≤ v <;> by_cases hv2 : v ≤ 199 <;>
      · go_enter Tryd.func62, Tryd.ntmps62
        go_wp2
        all_goals (go_ret; exact ⟨G.out _ (by simp [*]), rfl⟩)
  by_cases h2 : r = 103
  · have hL : least r = 0 := by rw [F.out.2.1]; first | rw [if_pos (by omega)] | rw [if_neg (by omega)]
    have hM : most r = 4 := by rw [F.out.2.2]; first | rw [if_pos (by omega)] | (rw [if_neg (by omega)]; first | rw [if_pos (by omega)] | (rw [if_neg (by omega)]; first | rw [if_pos (by omega)] | rw [if_neg (by omega)]))
    have G := hid (F.out.1 _ _ · hL hM)
    clear F hL hM
    subst h2
    · by_cases hv : 0 ≤ v <;> by_cases hv2 : v ≤ 4 <;>
      · go_enter Tryd.func62, Tryd.ntmps62
        go_wp2
        all_goals (go_ret; exact ⟨G.out _ (by simp [*]), rfl⟩)
  by_cases h3 : r = 120
  · have hL : least r = 1 := by rw [F.out.2.1]; first | rw [if_pos (by omega)] | rw [if_neg (by omega)]
    have hM : most r = 1099511627776 := by rw [F.out.2.2]; first | rw [if_pos (by omega)] | (rw [if_neg (by omega)]; first | rw [if_pos (by omega)] | (rw [if_neg (by omega)]; first | rw [if_pos (by omega)] | rw [if_neg (by omega)]))
    have G := hid (F.out.1 _ _ · hL hM)
    clear F hL hM
    subst h3
    · by_cases hv : 1 ≤ v <;> by_cases hv2 : v ≤ 1099511627776 <;>
      · go_enter Tryd.func62, Tryd.ntmps62
        go_wp2
        all_goals (go_ret; exact ⟨G.out _ (by simp [*]), rfl⟩)
  by_cases h4 : r = 97
  · have hL : least r = 1 := by rw [F.out.2.1]; first | rw [if_pos (by omega)] | rw [if_neg (by omega)]
    have hM : most r = 4 := by rw [F.out.2.2]; first | rw [if_pos (by omega)] | (rw [if_neg (by omega)]; first | rw [if_pos (by omega)] | (rw [if_neg (by omega)]; first | rw [if_pos (by omega)] | rw [if_neg (by omega)]))
    have G := hid (F.out.1 _ _ · hL hM)
    clear F hL hM
    subst h4
    · by_cases hv : 1 ≤ v <;> by_cases hv2 : v ≤ 4 <;>
      · go_enter Tryd.func62, Tryd.ntmps62
        go_wp2
        all_goals (go_ret; exact ⟨G.out _ (by simp [*]), rfl⟩)
  by_cases h5 : r = 118
  · have hL : least r = 0 := by rw [F.out.2.1]; first | rw [if_pos (by omega)] | rw [if_neg (by omega)]
    have hM : most r = 2 := by rw [F.out.2.2]; first | rw [if_pos (by omega)] | (rw [if_neg (by omega)]; first | rw [if_pos (by omega)] | (rw [if_neg (by omega)]; first | rw [if_pos (by omega)] | rw [if_neg (by omega)]))
    have G := hid (F.out.1 _ _ · hL hM)
    clear F hL hM
    subst h5
    · by_cases hv : 0 ≤ v <;> by_cases hv2 : v ≤ 2 <;>
      · go_enter Tryd.func62, Tryd.ntmps62
        go_wp2
        all_goals (go_ret; exact ⟨G.out _ (by simp [*]), rfl⟩)
  · have hL : least r = 0 := by rw [F.out.2.1, if_neg (by omega)]
    have hM : most r = 1099511627776 := by rw [F.out.2.2, if_neg (by omega), if_neg (by omega), if_neg (by omega)]
    have G := hid (F.out.1 _ _ · hL hM)
    clear F hL hM
    have k1 : (r : Int) ≠ 70 := by omega
    have k2 : (r : Int) ≠ 84 := by omega
    have k3 : (r : Int) ≠ 103 := by omega
    have k4 : (r : Int) ≠ 120 := by omega
    have k5 : (r : Int) ≠ 97 := by omega
    have k6 : (r : Int) ≠ 118 := by omega
    clear h1 h2 h3 h4 h5
    · by_cases hv : 0 ≤ v <;> by_cases hv2 : v ≤ 1099511627776 <;>
      · go_enter Tryd.func62, Tryd.ntmps62
        go_wp2
        all_goals (go_ret; exact ⟨G.out _ (by simp [*]), rfl⟩)

set_option maxHeartbeats 1600000 in
theorem blank_any (m : M) (A : Option Addr) (c : Nat) (A' : Option Addr) (c' : Nat) (r : Nat) (hr : r ∈ nums ∨ r = 111 ∨ r = 101 ∨ r = 100) (w : World) :
    Calls Tryd.prog 60 #[.agg #[.int .i64 m.K, .int .i64 m.F, .int .i64 m.T, .int .i64 m.g, .int .i64 m.t, .int .i64 m.i, .int .i64 m.p, .int .i64 m.c, .int .i64 m.r, .int .i64 m.x, .int .i64 m.a, .int .i64 m.b, .int .i64 m.v, .int .i64 m.s, .bool m.ok, .slice A m.es.length c, .slice A' m.d.length c'], .int .i32 (r : Int)] w fun e w' => e = .returned (.bool (m.blank r)) ∧ Below w.heap.size w w' := by
  by_cases h1 : r = 111
  · subst h1
    go_enter Tryd.func60, Tryd.ntmps60
    go_wp2
    go_ret
    exact ⟨rfl, (Below.refl _ w).alloc (Nat.le_refl _) _⟩
  by_cases h2 : r = 101
  · subst h2
    by_cases h0 : m.es.length = 0 <;>
    · go_enter Tryd.func60, Tryd.ntmps60
      go_wp2
      go_ret
      exact ⟨by simp [M.blank, h0], (Below.refl _ w).alloc (Nat.le_refl _) _⟩
  by_cases h3 : r = 100
  · subst h3
    by_cases h0 : m.d.length = 0 <;>
    · go_enter Tryd.func60, Tryd.ntmps60
      go_wp2
      go_ret
      exact ⟨by simp [M.blank, h0], (Below.refl _ w).alloc (Nat.le_refl _) _⟩
  · have hn : r ∈ nums := by rcases hr with h | h | h | h <;> first | exact h | omega
    have hlt : r < 128 := by
      simp only [nums, List.mem_cons, List.not_mem_nil, or_false] at hn
      omega
    have HB : Hid (m.blank r = decide (m.num r = 0)) := by show _ = _; unfold M.blank; rw [if_neg h1, if_neg h2, if_neg h3]
    have k1 : (r : Int) ≠ 111 := by omega
    have k2 : (r : Int) ≠ 101 := by omega
    have k3 : (r : Int) ≠ 100 := by omega
    have hp : ptr w.heap.size r = some ⟨w.heap.size, ix r, none⟩ := if_pos hn
    have hc : (w.alloc (.cells #[.int .i64 m.K, .int .i64 m.F, .int .i64 m.T, .int .i64 m.g, .int .i64 m.t, .int .i64 m.i, .int .i64 m.p, .int .i64 m.c, .int .i64 m.r, .int .i64 m.x, .int .i64 m.a, .int .i64 m.b, .int .i64 m.v, .int .i64 m.s, .bool m.ok, .slice A m.es.length c, .slice A' m.d.length c'] 25)).cell? ⟨w.heap.size, ix r, none⟩ = some (.int .i64 (m.num r)) := by
      rw [cell_of_row _ w.heap.size (ix r) _ _ (0, 0) (heap_alloc_new w _)]; exact num_cell m A c A' c' r hn
    have hN := number_any w.heap.size r hlt
    rw [hp] at hN
    have HN := hid hN
    clear hN hp h1 h2 h3 hn hr
    go_enter Tryd.func60, Tryd.ntmps60
    go_wp2_with fail
    refine (HN.out _).mono ?_
    rintro e w1 ⟨rfl, rfl⟩
    go_wp2_with fail
    go_ret
    refine ⟨?_, (Below.refl _ w).alloc (Nat.le_refl _) _⟩
    rw [HB.out]
    rfl
end Go.Proofs.YtpigekbfngalbaaDoor.Ms
namespace Go.Proofs.YtpigekbfngalbaaDoor
open Go.RowKit

theorem take_succ_eq (l m : List Nat) (k : Nat) (h1 : k < l.length) (h2 : k < m.length) (h : l.take k = m.take k) (he : l[k] = m[k]) : l.take (k + 1) = m.take (k + 1) := by
  rw [List.take_succ_eq_append_getElem h1, List.take_succ_eq_append_getElem h2, h, he]

set_option maxHeartbeats 400000 in
theorem same_any (B B' : Nat) (A A' : Option Addr) (c c' : Nat) (l m : List Nat) (hl : l.length ≤ maxLen) (hm : m.length ≤ maxLen) (w : World) (h : IsBytes w B A l) (h' : IsBytes w B' A' m) :
    Calls Tryd.prog 18 #[.slice A l.length c, .slice A' m.length c'] w fun e w' => e = .returned (.bool (decide (l = m))) ∧ ∃ n, w' = w.drewN n := by
  unfold maxLen at hl hm
  by_cases hne : l.length = m.length
  · have hb : ((l.length : Int) != (m.length : Int)) = false := by rw [bne_eq_false_iff_eq]; omega
    have HN := hid hne
    clear hne
    go_enter Tryd.func18, Tryd.ntmps18
    go_wp2
    go_loopw [5] (fun i wr => ∃ k n : Nat, k ≤ l.length ∧ i = .int .i64 k ∧ wr = w.drewN n ∧ Hid (l.take k = m.take k)) (fun i _ => l.length - (RowKit.intOf i).toNat)
    case atStart => exact ⟨0, 0, by omega, rfl, rfl, hid rfl⟩
    case round =>
      obtain ⟨k, n, hk, rfl, rfl, hs⟩ := hrel
      by_cases hlt : k < l.length
      · have hlt' : k < m.length := by have := HN.out; omega
        obtain ⟨b, off, rfl, _, hc⟩ := h.cells k hlt
        obtain ⟨b', off', rfl, _, hc'⟩ := h'.cells k hlt'
        have hck := hc k hlt
        have hck' := hc' k hlt'
        clear hc hc'
        by_cases he : l[k] = m[k]
        · have hbe : (((l[k] : Nat) : Int) != ((m[k] : Nat) : Int)) = false := by rw [bne_eq_false_iff_eq]; omega
          have HE := hid he
          clear he
          go_wp2
          go_quiet (fail)
          go_wp2
          go_roundw
          case rel => exact ⟨k + 1, _, by omega, by go_num, rfl, hid (take_succ_eq l m k hlt hlt' hs.out HE.out)⟩
          case measure => simp [RowKit.intOf]; omega
        · have hbe : (((l[k] : Nat) : Int) != ((m[k] : Nat) : Int)) = true := by rw [bne_iff_ne]; omega
          have hfin : decide (l = m) = false := by
            rw [decide_eq_false_iff_not]; rintro rfl; exact he rfl
          have HF := hid hfin
          clear he hfin
          go_wp2
          go_quiet (fail)
          go_wp2
          go_ret
          exact ⟨by rw [HF.out]; rfl, _, by rw [World.drewN_drewN]⟩
      · obtain rfl : k = l.length := by omega
        have hfin : decide (l = m) = true := by
          rw [decide_eq_true_iff]
          have e := hs.out
          rw [List.take_length, HN.out, List.take_length] at e
          exact e
        have HF := hid hfin
        clear hfin
        go_wp2
        go_ret
        exact ⟨by rw [HF.out]; rfl, _, rfl⟩
  · have hb : ((l.length : Int) != (m.length : Int)) = true := by rw [bne_iff_ne]; omega
    have hfin : decide (l = m) = false := by
      rw [decide_eq_false_iff_not]; rintro rfl; exact hne rfl
    have HF := hid hfin
    clear hfin hne
    go_enter Tryd.func18, Tryd.ntmps18
    go_wp2
    go_ret
    exact ⟨by rw [HF.out]; rfl, 0, rfl⟩
theorem info_u8 : (Tryd.prog.info? 5).map (fun i => (i.zero, i.size, i.bytes)) = some (some (.int .u8 0), 1, 1) := by kernel_rfl

theorem bytes_snoc (l : List Nat) (k : Nat) (h : k < l.length) : bytes (l.take k) ++ [Value.int .u8 (l[k] : Nat)] = bytes (l.take (k + 1)) := by
  unfold bytes; rw [List.take_succ_eq_append_getElem h, List.map_append]; rfl
theorem same_N (B B' : Nat) (A A' : Option Addr) (c c' : Nat) (l m : List Nat) (n k : Nat) (hn : l.length = n) (hk : m.length = k) (hl : n ≤ maxLen) (hm : k ≤ maxLen) (w : World) (h : IsBytes w B A l) (h' : IsBytes w B' A' m) :
    Calls Tryd.prog 18 #[.slice A n c, .slice A' k c'] w fun e w' => e = .returned (.bool (decide (l = m))) ∧ ∃ j, w' = w.drewN j := by
  subst hn; subst hk; exact same_any B B' A A' c c' l m hl hm w h h'
/-- two lists that are the same -/
theorem same_T (B B' : Nat) (A A' : Option Addr) (c c' : Nat) (l : List Nat) (n : Nat) (hn : l.length = n) (hl : n ≤ maxLen) (w : World) (h : IsBytes w B A l) (h' : IsBytes w B' A' l) :
    Calls Tryd.prog 18 #[.slice A n c, .slice A' n c'] w fun e w' => e = .returned (.bool true) ∧ ∃ j, w' = w.drewN j :=
  (same_N B B' A A' c c' l l n n hn hn hl hl w h h').mono fun _ _ ⟨h1, h2⟩ => ⟨by rw [h1, decide_eq_true rfl], h2⟩
end Go.Proofs.YtpigekbfngalbaaDoor
