/- What layer 7's closed statement asks of the plain words: areas that are others than those of the records. -/
import Derived.Test.YtomnbaeokmpobaaWorks07
import Derived.OwnWalk
import Derived.Deep.Slices
namespace Go.Proofs.Ytomnbaeokmpobaa
open Go.RowKit

namespace Jo
open Sx
/-- an area that ends amid the last record -/
theorem scan_short {s : St} {e : Int} {f n : Nat} {L : List (List Nat)} {p : List Nat} (h : Good s e f n (L ++ [p])) (l : Nat) (h1 : total L ≤ l) (h2 : l < total L + secs p.length) : scan (rdOf s) e l f [] [] = L := by
  have hl := (lie_snoc (rdOf s) e L p f 0).1 h.lie
  have hp : p.length ≤ 32768 := h.small p (by simp)
  rw [scan_lie (rdOf s) e L f l [] (fun q hq => h.small q (by simp [hq])) h1 hl.1, List.nil_append]
  rw [scan_some (rdOf s) e L p hp (f + total L) (l - total L) (l - total L) (by omega) (Nat.le_refl _) (fun i hi => by have := hl.2 i (by omega); rw [Nat.zero_add] at this; exact this), Nat.sub_self]
  rfl
/-- .. and one that begins with the second record -/
theorem scan_second {s : St} {e : Int} {f n l : Nat} {p q : List Nat} {L : List (List Nat)} (h : Good s e f n (p :: q :: L)) (hb : (due (sec e 2 q 0) e 1 0).2.2 = false) : scan (rdOf s) e l (f + secs p.length) [] [] = [] := by
  have h1 := h.lie.2.1 0 (secs_pos _)
  refine scan_none _ e _ _ [] (.inr ?_)
  rw [Nat.add_zero] at h1
  rw [h1]
  exact hb
theorem first_sec {s : St} {e : Int} {f n : Nat} {p : List Nat} {L : List (List Nat)} (h : Good s e f n (p :: L)) : rdE s (f : Int) = 0 ∧ rdB s (f : Int) = sec e 1 p 0 := by
  have h1 := h.lie.1 0 (secs_pos _)
  rw [Nat.add_zero] at h1
  exact ⟨congrArg Prod.fst h1, congrArg Prod.snd h1⟩
/-- the places that the statement asks about -/
def places : List (Int × Int × Int) := [(4, 5, 7), (0, 8, 0), (-1, 2, 7), (0, 0, 7), (9, 1, 7), (8, 1, 7), (0, 8, 1099511627776), (0, 8, 1099511627777), (7, 1, 1), (9223372036854775807, 9223372036854775807, 1), (0, 9223372036854775807, 1), (-9223372036854775808, 1, 1)]
def place (k : Nat) : Int × Int × Int := places.getD k (0, 0, 0)
theorem place_in : ∀ k, k < 12 → (-9223372036854775808 ≤ (place k).1 ∧ (place k).1 ≤ 9223372036854775807) ∧ (Right 8 (place k).1 (place k).2.1 (place k).2.2 ↔ k = 6 ∨ k = 8) := by decide +kernel
end Jo
theorem second_not : (Jo.due (Jo.sec 7 2 [] 0) 7 1 0).2.2 = false := by decide +kernel
theorem first_is : Jo.sec 7 1 [1, 2] 0 = [0, 0, 0, 0, 0, 0, 0, 7, 0, 0, 0, 0, 0, 0, 0, 1, 0, 0, 0, 0, 0, 0, 0, 1, 1, 2] := by decide +kernel

theorem info_u8k : (Try.prog.info? 5).map (fun i => (i.zero, i.size, i.bytes)) = some (some (.int .u8 0), 1, 1) := by kernel_rfl
/-- a row of so many noughts -/
def zeros (n : Nat) : List Nat := List.replicate n 0
theorem zeros_length (n : Nat) : (zeros n).length = n := by simp [zeros]
theorem zeros_small (n : Nat) : ∀ x ∈ zeros n, x < 256 := by intro x hx; have := (List.mem_replicate.1 hx).2; omega
def zeroRow (n : Nat) : Array Value := (bytes (zeros n)).toArray
theorem make_any (n : Nat) (hn : n ≤ 65536) (W : World) : (Instr.makeSlice 43 (.int .i64 (n : Int)) (.int .i64 (n : Int))).run Try.prog W = .ok (.slice (some ⟨W.heap.size, 0, none⟩) n n) (W.alloc (.cells (zeroRow n) 5)) := by
  obtain ⟨i0, hi, hz0, hz1, hz2⟩ := info_parts info_u8k
  have h := run_make (P := Try.prog) W 43 5 i0 (.int .u8 0) Try.underlying43 hi hz0 .i64 .i64 n n (by omega) (by omega) (by rw [hz2]; omega) (by omega)
  rw [Int.toNat_natCast, hz1, Nat.mul_one] at h
  rw [h]
  have e : madeCells (Value.int .u8 0).cells n = zeroRow n := by
    apply Array.toList_inj.1
    rw [show (Value.int .u8 0).cells = #[Value.int .u8 0] from rfl, toList_madeCells_one]
    simp [zeroRow, zeros, bytes]
  rw [e]

/-- blocks that are made one after the other -/
theorem allocs_at : ∀ (os : List Obj) (w : World), (∀ k, (os.foldl World.alloc w).heap[w.heap.size + k]? = os[k]?) ∧ Below w.heap.size w (os.foldl World.alloc w)
  | [], w => ⟨fun k => by simp, Below.refl _ _⟩
  | o :: os, w => by
    obtain ⟨h1, h2⟩ := allocs_at os (w.alloc o)
    rw [World.size_alloc] at h1 h2
    refine ⟨fun k => ?_, ((Below.refl _ _).alloc (Nat.le_refl _) o).trans (h2.mono (by omega))⟩
    rcases k with _ | k
    · have h3 := h2.block w.heap.size (by omega)
      exact h3.trans (heap_alloc_new w o)
    · have h3 := h1 k
      rw [show w.heap.size + 1 + k = w.heap.size + (k + 1) from by omega] at h3
      exact h3
def placeObjs (B : Nat) : List Obj := [.cells #[.int .i64 4, .int .i64 5, .int .i64 7] 3, .cells #[.int .i64 0, .int .i64 8, .int .i64 0] 3, .cells #[.int .i64 (-1), .int .i64 2, .int .i64 7] 3, .cells #[.int .i64 0, .int .i64 0, .int .i64 7] 3, .cells #[.int .i64 9, .int .i64 1, .int .i64 7] 3, .cells #[.int .i64 8, .int .i64 1, .int .i64 7] 3, .cells #[.int .i64 0, .int .i64 8, .int .i64 1099511627776] 3, .cells #[.int .i64 0, .int .i64 8, .int .i64 1099511627777] 3, .cells #[.int .i64 7, .int .i64 1, .int .i64 1] 3, .cells #[.int .i64 9223372036854775807, .int .i64 9223372036854775807, .int .i64 1] 3, .cells #[.int .i64 0, .int .i64 9223372036854775807, .int .i64 1] 3, .cells #[.int .i64 (-9223372036854775808), .int .i64 1, .int .i64 1] 3, .cells #[.slice (some ⟨B, 0, none⟩) 3 3, .slice (some ⟨B + 1, 0, none⟩) 3 3, .slice (some ⟨B + 1 + 1, 0, none⟩) 3 3, .slice (some ⟨B + 1 + 1 + 1, 0, none⟩) 3 3, .slice (some ⟨B + 1 + 1 + 1 + 1, 0, none⟩) 3 3, .slice (some ⟨B + 1 + 1 + 1 + 1 + 1, 0, none⟩) 3 3, .slice (some ⟨B + 1 + 1 + 1 + 1 + 1 + 1, 0, none⟩) 3 3, .slice (some ⟨B + 1 + 1 + 1 + 1 + 1 + 1 + 1, 0, none⟩) 3 3, .slice (some ⟨B + 1 + 1 + 1 + 1 + 1 + 1 + 1 + 1, 0, none⟩) 3 3, .slice (some ⟨B + 1 + 1 + 1 + 1 + 1 + 1 + 1 + 1 + 1, 0, none⟩) 3 3, .slice (some ⟨B + 1 + 1 + 1 + 1 + 1 + 1 + 1 + 1 + 1 + 1, 0, none⟩) 3 3, .slice (some ⟨B + 1 + 1 + 1 + 1 + 1 + 1 + 1 + 1 + 1 + 1 + 1, 0, none⟩) 3 3] 28]
theorem placeObjs_in (B : Nat) : ∀ k, k < 12 → (placeObjs B)[k]? = some (.cells #[.int .i64 (Jo.place k).1, .int .i64 (Jo.place k).2.1, .int .i64 (Jo.place k).2.2] 3)
  | 0, _ => rfl
  | 1, _ => rfl
  | 2, _ => rfl
  | 3, _ => rfl
  | 4, _ => rfl
  | 5, _ => rfl
  | 6, _ => rfl
  | 7, _ => rfl
  | 8, _ => rfl
  | 9, _ => rfl
  | 10, _ => rfl
  | 11, _ => rfl
  | k + 12, h => by omega
theorem placeObjs_out (B : Nat) : ∃ vs, (placeObjs B)[12]? = some (.cells vs 28) ∧ ∀ k, k < 12 → vs[k]? = some (.slice (some ⟨B + k, 0, none⟩) 3 3) :=
  ⟨_, rfl, fun
  | 0, _ => rfl
  | 1, _ => rfl
  | 2, _ => rfl
  | 3, _ => rfl
  | 4, _ => rfl
  | 5, _ => rfl
  | 6, _ => rfl
  | 7, _ => rfl
  | 8, _ => rfl
  | 9, _ => rfl
  | 10, _ => rfl
  | 11, _ => rfl
  | k + 12, h => by omega⟩
/-- where the places lie -/
theorem places_at (w1 w2 : World) (h : w2 = (placeObjs w1.heap.size).foldl World.alloc w1) : Below w1.heap.size w1 w2 ∧ w1.heap.size + 13 ≤ w2.heap.size ∧ ∀ k, k < 12 → w2.cell? ⟨w1.heap.size + 1 + 1 + 1 + 1 + 1 + 1 + 1 + 1 + 1 + 1 + 1 + 1, k, none⟩ = some (.slice (some ⟨w1.heap.size + k, 0, none⟩) 3 3) ∧
    w2.cell? ⟨w1.heap.size + k, 0, none⟩ = some (.int .i64 (Jo.place k).1) ∧ w2.cell? ⟨w1.heap.size + k, 1, none⟩ = some (.int .i64 (Jo.place k).2.1) ∧ w2.cell? ⟨w1.heap.size + k, 2, none⟩ = some (.int .i64 (Jo.place k).2.2) := by
  obtain ⟨h1, h2⟩ := allocs_at (placeObjs w1.heap.size) w1
  rw [← h] at h1 h2
  obtain ⟨vs, h3, h4⟩ := placeObjs_out w1.heap.size
  have h12 := h1 12
  rw [h3] at h12
  refine ⟨h2, (Array.getElem?_eq_some_iff.1 h12).1, fun k hk => ?_⟩
  have hk0 := h1 k
  rw [placeObjs_in _ k hk] at hk0
  refine ⟨?_, ?_, ?_, ?_⟩
  · have : w2.heap[w1.heap.size + 1 + 1 + 1 + 1 + 1 + 1 + 1 + 1 + 1 + 1 + 1 + 1]? = _ := h12
    simp only [World.cell?, this]
    simpa using h4 k hk
  · simp [World.cell?, hk0]
  · simp [World.cell?, hk0]
  · simp [World.cell?, hk0]
theorem make120 (W : World) : (Instr.makeSlice 43 (.int .i64 120) (.int .i64 120)).run Try.prog W = .ok (.slice (some ⟨W.heap.size, 0, none⟩) 120 120) (W.alloc (.cells (zeroRow 120) 5)) := make_any 120 (by omega) W
theorem make121 (W : World) : (Instr.makeSlice 43 (.int .i64 121) (.int .i64 121)).run Try.prog W = .ok (.slice (some ⟨W.heap.size, 0, none⟩) 121 121) (W.alloc (.cells (zeroRow 121) 5)) := make_any 121 (by omega) W
theorem make32768 (W : World) : (Instr.makeSlice 43 (.int .i64 32768) (.int .i64 32768)).run Try.prog W = .ok (.slice (some ⟨W.heap.size, 0, none⟩) 32768 32768) (W.alloc (.cells (zeroRow 32768) 5)) := make_any 32768 (by omega) W
theorem make32769 (W : World) : (Instr.makeSlice 43 (.int .i64 32769) (.int .i64 32769)).run Try.prog W = .ok (.slice (some ⟨W.heap.size, 0, none⟩) 32769 32769) (W.alloc (.cells (zeroRow 32769) 5)) := make_any 32769 (by omega) W
theorem total3 : Jo.total [[1, 2], [], zeros 120] = 5 := by simp [Jo.total, Jo.secs, zeros_length]
theorem total900 : Jo.total [zeros 32768] = 820 := by simp [Jo.total, Jo.secs, zeros_length]
theorem below_made (w : World) (o : Obj) : Below w.heap.size w (w.alloc o) := (Below.refl _ _).alloc (Nat.le_refl _) o
theorem read_first (w0 : World) (d : Dk) (s : Sx.St) (g n : Nat) (L : List (List Nat)) (w : World) (H : JG w0 w d s g 7 2 n ([1, 2] :: L)) :
    Calls Try.prog 17 #[.pointer (some ⟨d.g, 0, none⟩), .int .i64 2] w fun e w' => Hid (∃ b c, e = .returned (.tuple #[.slice (some ⟨b, 0, none⟩) 26 c, .int .i64 0]) ∧
      (w'.cell? ⟨b, 7, none⟩ = some (.int .u8 7) ∧ w'.cell? ⟨b, 15, none⟩ = some (.int .u8 1) ∧ w'.cell? ⟨b, 23, none⟩ = some (.int .u8 1) ∧ w'.cell? ⟨b, 24, none⟩ = some (.int .u8 1) ∧ w'.cell? ⟨b, 25, none⟩ = some (.int .u8 2)) ∧ Below w.heap.size w w') := by
  have h1 : Sx.rdE s 2 = 0 := (Jo.first_sec H.good).1
  have h2 : Sx.rdB s 2 = [0, 0, 0, 0, 0, 0, 0, 7, 0, 0, 0, 0, 0, 0, 0, 1, 0, 0, 0, 0, 0, 0, 0, 1, 1, 2] := (Jo.first_sec H.good).2.trans first_is
  have h := read_any _ d s 2 w H.disk.at_
  rw [h1, h2] at h
  refine h.mono ?_
  rintro e w' ⟨A, c, he, ho, hb⟩
  obtain ⟨b, rfl, _, _, h7, _⟩ := ho.at_ (k := 7) (by simp)
  have key : ∀ k (hk : k < [0, 0, 0, 0, 0, 0, 0, 7, 0, 0, 0, 0, 0, 0, 0, 1, 0, 0, 0, 0, 0, 0, 0, 1, 1, 2].length), w'.cell? ⟨b, k, none⟩ = some (.int .u8 ([0, 0, 0, 0, 0, 0, 0, 7, 0, 0, 0, 0, 0, 0, 0, 1, 0, 0, 0, 0, 0, 0, 0, 1, 1, 2][k] : Nat)) := fun k hk => by
    obtain ⟨b', hA, _, _, h8, _⟩ := ho.at_ hk
    injection hA with hA
    injection hA with hA
    subst hA
    exact h8
  exact ⟨b, c, he, ⟨key 7 (by simp), key 15 (by simp), key 23 (by simp), key 24 (by simp), key 25 (by simp)⟩, hb⟩
theorem scan_is (w0 : World) (d : Dk) (s : Sx.St) (e : Int) (f n : Nat) (w : World) (H : DM w0 w d s) (hr : Jo.Right s.n f n e) (X : List (List Nat)) (hX : Jo.scan (Jo.rdOf s) e n f [] [] = X) (m : Nat) (hm : X.length = m) :
    Calls Try.prog 10 #[.pointer (some ⟨d.g, 0, none⟩), .int .i64 (f : Int), .int .i64 (n : Int), .int .i64 e] w fun e' w' => Hid (∃ A c, e' = .returned (.tuple #[.slice A m c, .int .i64 0]) ∧ Below w.heap.size w w') := by
  subst hm
  have h := J.scan_any _ d s f n e hr w H.at_
  rw [hX] at h
  refine h.mono ?_
  rintro e' w' ⟨A, c, h1, h2⟩
  exact ⟨A, c, h1, h2.2⟩
theorem scan_one (w0 : World) (d : Dk) (s : Sx.St) (g : Nat) (w : World) (H : JG w0 w d s g 1 0 900 [zeros 32768]) :
    Calls Try.prog 10 #[.pointer (some ⟨d.g, 0, none⟩), .int .i64 0, .int .i64 900, .int .i64 1] w fun e' w' => Hid (∃ b o c A' c', e' = .returned (.tuple #[.slice (some ⟨b, o, none⟩) 1 c, .int .i64 0]) ∧ w'.cell? ⟨b, o, none⟩ = some (.slice A' 32768 c') ∧ Below w.heap.size w w') := by
  refine (J.scan_JG w0 d s g 1 0 900 [zeros 32768] w H (by omega) (by omega) 1 rfl).mono ?_
  rintro e' w' ⟨A, c, he, hR, hb⟩
  obtain ⟨b, o, rfl, hc⟩ := hR.reads 0 (by simp)
  obtain ⟨_, A', c', h1, _⟩ := hc 0 (by simp)
  refine ⟨b, o, c, A', c', he, ?_, hb⟩
  simp only [List.getElem_cons_zero, zeros_length, Nat.add_zero] at h1
  exact h1
end Go.Proofs.Ytomnbaeokmpobaa
