/- Texts of the proof, one behind the other: MsKnE. -/
import Derived.Test.YtpigekbfngalbaaDoorPartAL
import Derived.Test.YtpigekbfngalbaaDoorPartAN
namespace Go.Proofs.YtpigekbfngalbaaDoor.Ms
open Go.RowKit
set_option maxRecDepth 100000
set_option linter.unusedVariables false
attribute [local go_sem ↓] loadAt_msg storeAt_msg

def entZ (n : Nat) : Array Value := madeCells #[.int .i64 0, .int .i64 0, .slice none 0 0] (n * 3)
theorem entZ_get (n i j : Nat) (hi : i < n) (hj : j < 3) : (entZ n)[i * 3 + j]? = (#[.int .i64 0, .int .i64 0, .slice none 0 0] : Array Value)[j]? := by
  have h : i * 3 + j < n * 3 := by omega
  have e : (i * 3 + j) % 3 = j := by omega
  unfold entZ madeCells
  have hz : (#[.int .i64 0, .int .i64 0, .slice none 0 0] : Array Value).size = 3 := rfl
  have hr : (Array.range (n * 3))[i * 3 + j]? = some (i * 3 + j) := by simp [h]
  rw [Array.getElem?_map, hr]
  show some ((#[.int .i64 0, .int .i64 0, .slice none 0 0] : Array Value)[(i * 3 + j) % 3]!) = _
  rw [e]
  match j, hj with
  | 0, _ | 1, _ | 2, _ => rfl
theorem makeE_any (n : Nat) (hn : n ≤ 2000) (W : World) : (Instr.makeSlice 22 (.int .i64 (n : Int)) (.int .i64 (n : Int))).run Tryd.prog W = .ok (.slice (some ⟨W.heap.size, 0, none⟩) n n) (W.alloc (.cells (entZ n) 61)) := by
  obtain ⟨i0, hi, hz0, hz1, hz2⟩ := info_parts info_entry
  have h := run_make (P := Tryd.prog) W 22 61 i0 (.agg #[.int .i64 0, .int .i64 0, .slice none 0 0]) Tryd.underlying22 hi hz0 .i64 .i64 n n (by omega) (by omega) (by rw [hz2]; omega) (by omega)
  rw [Int.toNat_natCast, hz1] at h
  exact h
def longM (n : Nat) : M := { M0 with K := 6, F := 101, T := 1, s := 1, d := zeros n }
def manyM (n : Nat) : M := { M0 with K := 3, F := 1, T := 2, es := List.replicate n ⟨0, 0, []⟩ }
def fatM (n : Nat) : M := { M0 with K := 3, F := 1, T := 2, es := [⟨0, 0, zeros n⟩] }
theorem cells_long (n : Nat) (A : Option Addr) : (#[.int .i64 ((longM n)).K, .int .i64 ((longM n)).F, .int .i64 ((longM n)).T, .int .i64 ((longM n)).g, .int .i64 ((longM n)).t, .int .i64 ((longM n)).i, .int .i64 ((longM n)).p, .int .i64 ((longM n)).c, .int .i64 ((longM n)).r, .int .i64 ((longM n)).x, .int .i64 ((longM n)).a, .int .i64 ((longM n)).b, .int .i64 ((longM n)).v, .int .i64 ((longM n)).s, .bool ((longM n)).ok, .slice none ((longM n)).es.length 0, .slice A ((longM n)).d.length n] : Array Value) = #[.int .i64 6, .int .i64 101, .int .i64 1, .int .i64 0, .int .i64 0, .int .i64 0, .int .i64 0, .int .i64 0, .int .i64 0, .int .i64 0, .int .i64 0, .int .i64 0, .int .i64 0, .int .i64 1, .bool false, .slice none 0 0, .slice A n n] := by
  simp [longM, M0, zeros_length]
theorem cells_many (n : Nat) (A : Option Addr) : (#[.int .i64 ((manyM n)).K, .int .i64 ((manyM n)).F, .int .i64 ((manyM n)).T, .int .i64 ((manyM n)).g, .int .i64 ((manyM n)).t, .int .i64 ((manyM n)).i, .int .i64 ((manyM n)).p, .int .i64 ((manyM n)).c, .int .i64 ((manyM n)).r, .int .i64 ((manyM n)).x, .int .i64 ((manyM n)).a, .int .i64 ((manyM n)).b, .int .i64 ((manyM n)).v, .int .i64 ((manyM n)).s, .bool ((manyM n)).ok, .slice A ((manyM n)).es.length n, .slice none ((manyM n)).d.length 0] : Array Value) = #[.int .i64 3, .int .i64 1, .int .i64 2, .int .i64 0, .int .i64 0, .int .i64 0, .int .i64 0, .int .i64 0, .int .i64 0, .int .i64 0, .int .i64 0, .int .i64 0, .int .i64 0, .int .i64 0, .bool false, .slice A n n, .slice none 0 0] := by
  simp [manyM, M0]
theorem cells_fat (n : Nat) (A : Option Addr) : (#[.int .i64 ((fatM n)).K, .int .i64 ((fatM n)).F, .int .i64 ((fatM n)).T, .int .i64 ((fatM n)).g, .int .i64 ((fatM n)).t, .int .i64 ((fatM n)).i, .int .i64 ((fatM n)).p, .int .i64 ((fatM n)).c, .int .i64 ((fatM n)).r, .int .i64 ((fatM n)).x, .int .i64 ((fatM n)).a, .int .i64 ((fatM n)).b, .int .i64 ((fatM n)).v, .int .i64 ((fatM n)).s, .bool ((fatM n)).ok, .slice A ((fatM n)).es.length 1, .slice none ((fatM n)).d.length 0] : Array Value) = #[.int .i64 3, .int .i64 1, .int .i64 2, .int .i64 0, .int .i64 0, .int .i64 0, .int .i64 0, .int .i64 0, .int .i64 0, .int .i64 0, .int .i64 0, .int .i64 0, .int .i64 0, .int .i64 0, .bool false, .slice A 1 1, .slice none 0 0] := by
  simp [fatM, M0]
theorem flat_num (K F T s : Int) (es : List Rl.En) (d : List Nat) (h : InInt K ∧ InInt F ∧ InInt T ∧ InInt s) : ∀ r ∈ nums, InInt (({ M0 with K := K, F := F, T := T, s := s, es := es, d := d } : M).num r) := by
  have hz : InInt 0 := ⟨by decide, by decide⟩
  intro r hr
  simp only [nums, List.mem_cons, List.not_mem_nil, or_false] at hr
  rcases hr with rfl | rfl | rfl | rfl | rfl | rfl | rfl | rfl | rfl | rfl | rfl | rfl | rfl | rfl <;> first | exact h.1 | exact h.2.1 | exact h.2.2.1 | exact h.2.2.2 | exact hz
theorem zero_is (W : World) (b n : Nat) (hb : b < W.heap.size) (h : W.heap[b]? = some (.cells (zeroRow n) 5 (0, 0))) : IsBytes W W.heap.size (some ⟨b, 0, none⟩) (zeros n) :=
  ⟨zeros_small n, fun q hq => ⟨b, 0, rfl, hb, fun i hi => by
    rw [cell_of_row W b (0 + i) _ _ (0, 0) h, Nat.zero_add]
    unfold zeroRow bytes
    rw [List.getElem?_toArray, List.getElem?_map, List.getElem?_eq_getElem hi]; rfl⟩⟩
theorem long_is (W : World) (b n : Nat) (hn : n ≤ 65536) (hb : b < W.heap.size) (h : W.heap[b]? = some (.cells (zeroRow n) 5 (0, 0))) : Is W W.heap.size (longM n) none 0 (some ⟨b, 0, none⟩) n :=
  ⟨flat_num 6 101 1 1 _ _ ⟨⟨by decide, by decide⟩, ⟨by decide, by decide⟩, ⟨by decide, by decide⟩, ⟨by decide, by decide⟩⟩, IsEnts.nil, ⟨Nat.le_refl _, Nat.zero_le _⟩, fun _ => rfl, zero_is W b n hb h, ⟨by show (zeros n).length ≤ n; rw [zeros_length]; exact Nat.le_refl _, by unfold maxLen; omega⟩, fun e => by cases e⟩
theorem many_is (W : World) (b n : Nat) (hn : n ≤ 2000) (hb : b < W.heap.size) (h : W.heap[b]? = some (.cells (entZ n) 61 (0, 0))) : Is W W.heap.size (manyM n) (some ⟨b, 0, none⟩) n none 0 := by
  have hl : (manyM n).es.length = n := by show (List.replicate n _).length = n; simp
  have he : ∀ e ∈ (manyM n).es, e = ⟨0, 0, []⟩ := fun e he => (List.mem_replicate.1 he).2
  refine ⟨flat_num 3 1 2 0 _ _ ⟨⟨by decide, by decide⟩, ⟨by decide, by decide⟩, ⟨by decide, by decide⟩, ⟨by decide, by decide⟩⟩, ⟨fun e h => ?_, fun q hq => ⟨b, 0, rfl, hb, fun i hi => ?_⟩⟩, ⟨by rw [hl]; exact Nat.le_refl _, by unfold maxLen; omega⟩, (fun e => by cases e), IsBytes.nil, ⟨Nat.le_refl _, Nat.zero_le _⟩, fun _ => rfl⟩
  · rw [he e h]; exact ⟨⟨by decide, by decide⟩, ⟨by decide, by decide⟩⟩
  · rw [he _ (List.getElem_mem hi)]
    rw [hl] at hi
    have hc := fun j (hj : j < 3) => (cell_of_row W b (i * 3 + j) _ _ (0, 0) h).trans (entZ_get n i j hi hj)
    rw [Nat.zero_add]
    exact ⟨none, 0, hc 0 (by omega), hc 1 (by omega), hc 2 (by omega), IsBytes.nil, ⟨Nat.le_refl _, Nat.zero_le _⟩, fun _ => rfl⟩
theorem fat_is (W : World) (b g n : Nat) (hn : n ≤ 65536) (hb : b < W.heap.size) (hg : g < W.heap.size) (h : W.heap[b]? = some (.cells (zeroRow n) 5 (0, 0))) (h' : W.heap[g]? = some (.cells #[.int .i64 0, .int .i64 0, .slice (some ⟨b, 0, none⟩) n n] 61 (0, 0))) : Is W W.heap.size (fatM n) (some ⟨g, 0, none⟩) 1 none 0 := by
  refine ⟨flat_num 3 1 2 0 _ _ ⟨⟨by decide, by decide⟩, ⟨by decide, by decide⟩, ⟨by decide, by decide⟩, ⟨by decide, by decide⟩⟩, ⟨fun e h => ?_, fun q hq => ⟨g, 0, rfl, hg, fun i hi => ?_⟩⟩, ⟨Nat.le_refl _, by unfold maxLen; omega⟩, (fun e => by cases e), IsBytes.nil, ⟨Nat.le_refl _, Nat.zero_le _⟩, fun _ => rfl⟩
  · rw [List.mem_singleton.1 h]
    have hz : InInt 0 := ⟨by decide, by decide⟩
    exact ⟨hz, hz⟩
  · have hi1 : i < 1 := hi
    obtain rfl : i = 0 := by omega
    have hc := fun j => cell_of_row W g j _ _ (0, 0) h'
    have hz := zeros_length n
    refine ⟨some ⟨b, 0, none⟩, n, hc 0, hc 1, ?_, zero_is W b n hb h, ⟨by show (zeros n).length ≤ n; omega, by unfold maxLen; omega⟩, fun e => by cases e⟩
    show W.cell? ⟨g, 2, none⟩ = some (.slice (some ⟨b, 0, none⟩) (zeros n).length n)
    rw [hz]; exact hc 2
theorem long_check (n : Nat) : check (longM n) = if 65488 < n then 2 else 0 := by
  have h1 : (longM n).isKind = true := rfl
  have h2 : (longM n).foreign = false := rfl
  have h3 : (longM n).inRange = true := rfl
  have h4 : (longM n).size = 48 + n := by
    show 8 * 6 + (24 * 0 + weigh []) + (zeros n).length = _
    rw [zeros_length]; show 48 + 0 + n = _; omega
  have h5 : (longM n).es.length = 0 := rfl
  unfold check
  rw [h1, h2, h3, h4, h5]
  simp only [Bool.true_eq_false, Bool.false_eq_true, if_false]
  by_cases h : 65488 < n
  · rw [if_pos (by omega), if_pos h]
  · rw [if_neg (by omega), if_neg h]
def wrongM : M := { M0 with K := 3, F := 1, T := 2, es := [⟨0, 3, []⟩] }
theorem wrong_check : check wrongM = 3 := by decide +kernel
/-- the three messages, where they lie -/
structure L3 (wr W : World) (W2 W4 n1 n2 n3 : Nat) : Prop where
  bel : Below wr.heap.size wr W
  b1 : Bx W (wr.heap.size + 1) (longM n1) none 0 (some ⟨wr.heap.size, 0, none⟩) n1
  i1 : Is W W.heap.size (longM n1) none 0 (some ⟨wr.heap.size, 0, none⟩) n1
  b2 : Bx W (W2 + 1) (manyM n2) (some ⟨W2, 0, none⟩) n2 none 0
  i2 : Is W W.heap.size (manyM n2) (some ⟨W2, 0, none⟩) n2 none 0
  b3 : Bx W (W4 + 2) (fatM n3) (some ⟨W4 + 1, 0, none⟩) 1 none 0
  i3 : Is W W.heap.size (fatM n3) (some ⟨W4 + 1, 0, none⟩) 1 none 0
theorem L3.low {wr W W' : World} {W2 W4 n1 n2 n3 : Nat} (h : L3 wr W W2 W4 n1 n2 n3) (hb : Below W.heap.size W W') : L3 wr W' W2 W4 n1 n2 n3 :=
  ⟨h.bel.trans (hb.mono h.bel.size), h.b1.below hb (row_lt h.b1.row), h.i1.low hb, h.b2.below hb (row_lt h.b2.row), h.i2.low hb, h.b3.below hb (row_lt h.b3.row), h.i3.low hb⟩
theorem pair (w : World) (o1 o2 : Obj) : ((w.alloc o1).alloc o2).heap.size = w.heap.size + 2 ∧ Below w.heap.size w ((w.alloc o1).alloc o2) ∧ ((w.alloc o1).alloc o2).heap[w.heap.size]? = some o1 ∧ ((w.alloc o1).alloc o2).heap[w.heap.size + 1]? = some o2 := by
  have s1 : (w.alloc o1).heap.size = w.heap.size + 1 := by simp
  have h2 := heap_alloc_new (w.alloc o1) o2
  have b2 : Below (w.alloc o1).heap.size (w.alloc o1) ((w.alloc o1).alloc o2) := (Below.refl _ _).alloc (Nat.le_refl _) _
  rw [s1] at h2 b2
  exact ⟨by simp, ((Below.refl _ w).alloc (Nat.le_refl _) _).alloc (by simp) _, (b2.block _ (by omega)).trans (heap_alloc_new w o1), h2⟩
theorem three (w : World) (o1 o2 o3 : Obj) : (((w.alloc o1).alloc o2).alloc o3).heap.size = w.heap.size + 3 ∧ Below w.heap.size w (((w.alloc o1).alloc o2).alloc o3) ∧ (((w.alloc o1).alloc o2).alloc o3).heap[w.heap.size]? = some o1 ∧ (((w.alloc o1).alloc o2).alloc o3).heap[w.heap.size + 1]? = some o2 ∧ (((w.alloc o1).alloc o2).alloc o3).heap[w.heap.size + 2]? = some o3 := by
  obtain ⟨p1, p2, p3, p4⟩ := pair w o1 o2
  have h2 := heap_alloc_new ((w.alloc o1).alloc o2) o3
  have b2 : Below ((w.alloc o1).alloc o2).heap.size ((w.alloc o1).alloc o2) (((w.alloc o1).alloc o2).alloc o3) := (Below.refl _ _).alloc (Nat.le_refl _) _
  rw [p1] at h2 b2
  exact ⟨by simp, p2.trans (b2.mono (by omega)), (b2.block _ (by omega)).trans p3, (b2.block _ (by omega)).trans p4, h2⟩
def Four (i : Value) : Prop := i = .int .i64 (-1) ∨ i = .int .i64 0 ∨ i = .int .i64 1 ∨ i = .int .i64 2
set_option maxHeartbeats 12800000 in
theorem knownLong_any (w : World) (T : Tab w) :
    Calls Tryd.prog 30 #[] w fun e w' => e = .returned (.bool true) ∧ Below w.heap.size w w' := by
  have HT := hid T
  have hpos := T.pos
  clear T
  go_enter Tryd.func30, Tryd.ntmps30
  go_wp2_with fail
  go_loopw [1, 2, 3, 4] (fun i _ _ _ wr => Four i ∧ Hid (Below w.heap.size w wr)) (fun i _ _ _ _ => (2 - RowKit.intOf i).toNat)
  case atStart => exact ⟨.inl rfl, hid (Below.refl _ w)⟩
  case round =>
    obtain ⟨hcs, HB⟩ := hrel
    rcases hcs with rfl | rfl | rfl | rfl
    · have mk1 : ∀ W : World, (Instr.makeSlice 23 (.int .i64 65487) (.int .i64 65487)).run Tryd.prog W = .ok (.slice (some ⟨W.heap.size, 0, none⟩) 65487 65487) (W.alloc (.cells (zeroRow 65487) 5)) := fun W => make_any 65487 (by decide) W
      have mk2 : ∀ W : World, (Instr.makeSlice 22 (.int .i64 1023) (.int .i64 1023)).run Tryd.prog W = .ok (.slice (some ⟨W.heap.size, 0, none⟩) 1023 1023) (W.alloc (.cells (entZ 1023) 61)) := fun W => makeE_any 1023 (by decide) W
      have mk3 : ∀ W : World, (Instr.makeSlice 23 (.int .i64 65431) (.int .i64 65431)).run Tryd.prog W = .ok (.slice (some ⟨W.heap.size, 0, none⟩) 65431 65431) (W.alloc (.cells (zeroRow 65431) 5)) := fun W => make_any 65431 (by decide) W
      obtain ⟨W2, hW2⟩ : ∃ W2, W2 = (wr.alloc (.cells (zeroRow 65487) 5)).alloc (.cells #[.int .i64 ((longM 65487)).K, .int .i64 ((longM 65487)).F, .int .i64 ((longM 65487)).T, .int .i64 ((longM 65487)).g, .int .i64 ((longM 65487)).t, .int .i64 ((longM 65487)).i, .int .i64 ((longM 65487)).p, .int .i64 ((longM 65487)).c, .int .i64 ((longM 65487)).r, .int .i64 ((longM 65487)).x, .int .i64 ((longM 65487)).a, .int .i64 ((longM 65487)).b, .int .i64 ((longM 65487)).v, .int .i64 ((longM 65487)).s, .bool ((longM 65487)).ok, .slice none ((longM 65487)).es.length 0, .slice (some ⟨wr.heap.size, 0, none⟩) ((longM 65487)).d.length 65487] 25) := ⟨_, rfl⟩
      obtain ⟨p1, p2, p3, p4⟩ := pair wr (.cells (zeroRow 65487) 5) (.cells #[.int .i64 ((longM 65487)).K, .int .i64 ((longM 65487)).F, .int .i64 ((longM 65487)).T, .int .i64 ((longM 65487)).g, .int .i64 ((longM 65487)).t, .int .i64 ((longM 65487)).i, .int .i64 ((longM 65487)).p, .int .i64 ((longM 65487)).c, .int .i64 ((longM 65487)).r, .int .i64 ((longM 65487)).x, .int .i64 ((longM 65487)).a, .int .i64 ((longM 65487)).b, .int .i64 ((longM 65487)).v, .int .i64 ((longM 65487)).s, .bool ((longM 65487)).ok, .slice none ((longM 65487)).es.length 0, .slice (some ⟨wr.heap.size, 0, none⟩) ((longM 65487)).d.length 65487] 25)
      have hst1 := st_new (wr.alloc (.cells (zeroRow 65487) 5)) #[.int .i64 0, .int .i64 0, .int .i64 0, .int .i64 0, .int .i64 0, .int .i64 0, .int .i64 0, .int .i64 0, .int .i64 0, .int .i64 0, .int .i64 0, .int .i64 0, .int .i64 0, .int .i64 0, .bool false, .slice none 0 0, .slice none 0 0] (#[.int .i64 ((longM 65487)).K, .int .i64 ((longM 65487)).F, .int .i64 ((longM 65487)).T, .int .i64 ((longM 65487)).g, .int .i64 ((longM 65487)).t, .int .i64 ((longM 65487)).i, .int .i64 ((longM 65487)).p, .int .i64 ((longM 65487)).c, .int .i64 ((longM 65487)).r, .int .i64 ((longM 65487)).x, .int .i64 ((longM 65487)).a, .int .i64 ((longM 65487)).b, .int .i64 ((longM 65487)).v, .int .i64 ((longM 65487)).s, .bool ((longM 65487)).ok, .slice none ((longM 65487)).es.length 0, .slice (some ⟨wr.heap.size, 0, none⟩) ((longM 65487)).d.length 65487]) rfl rfl (msg_one (longM 65487) _ _ _ _)
      rw [← hW2] at p1 p2 p3 p4 hst1
      rw [cells_long, World.size_alloc] at hst1
      obtain ⟨W4, hW4⟩ : ∃ W4, W4 = (W2.alloc (.cells (entZ 1023) 61)).alloc (.cells #[.int .i64 ((manyM 1023)).K, .int .i64 ((manyM 1023)).F, .int .i64 ((manyM 1023)).T, .int .i64 ((manyM 1023)).g, .int .i64 ((manyM 1023)).t, .int .i64 ((manyM 1023)).i, .int .i64 ((manyM 1023)).p, .int .i64 ((manyM 1023)).c, .int .i64 ((manyM 1023)).r, .int .i64 ((manyM 1023)).x, .int .i64 ((manyM 1023)).a, .int .i64 ((manyM 1023)).b, .int .i64 ((manyM 1023)).v, .int .i64 ((manyM 1023)).s, .bool ((manyM 1023)).ok, .slice (some ⟨W2.heap.size, 0, none⟩) ((manyM 1023)).es.length 1023, .slice none ((manyM 1023)).d.length 0] 25) := ⟨_, rfl⟩
      obtain ⟨q1, q2, q3, q4⟩ := pair W2 (.cells (entZ 1023) 61) (.cells #[.int .i64 ((manyM 1023)).K, .int .i64 ((manyM 1023)).F, .int .i64 ((manyM 1023)).T, .int .i64 ((manyM 1023)).g, .int .i64 ((manyM 1023)).t, .int .i64 ((manyM 1023)).i, .int .i64 ((manyM 1023)).p, .int .i64 ((manyM 1023)).c, .int .i64 ((manyM 1023)).r, .int .i64 ((manyM 1023)).x, .int .i64 ((manyM 1023)).a, .int .i64 ((manyM 1023)).b, .int .i64 ((manyM 1023)).v, .int .i64 ((manyM 1023)).s, .bool ((manyM 1023)).ok, .slice (some ⟨W2.heap.size, 0, none⟩) ((manyM 1023)).es.length 1023, .slice none ((manyM 1023)).d.length 0] 25)
      have hst2 := st_new (W2.alloc (.cells (entZ 1023) 61)) #[.int .i64 0, .int .i64 0, .int .i64 0, .int .i64 0, .int .i64 0, .int .i64 0, .int .i64 0, .int .i64 0, .int .i64 0, .int .i64 0, .int .i64 0, .int .i64 0, .int .i64 0, .int .i64 0, .bool false, .slice none 0 0, .slice none 0 0] (#[.int .i64 ((manyM 1023)).K, .int .i64 ((manyM 1023)).F, .int .i64 ((manyM 1023)).T, .int .i64 ((manyM 1023)).g, .int .i64 ((manyM 1023)).t, .int .i64 ((manyM 1023)).i, .int .i64 ((manyM 1023)).p, .int .i64 ((manyM 1023)).c, .int .i64 ((manyM 1023)).r, .int .i64 ((manyM 1023)).x, .int .i64 ((manyM 1023)).a, .int .i64 ((manyM 1023)).b, .int .i64 ((manyM 1023)).v, .int .i64 ((manyM 1023)).s, .bool ((manyM 1023)).ok, .slice (some ⟨W2.heap.size, 0, none⟩) ((manyM 1023)).es.length 1023, .slice none ((manyM 1023)).d.length 0]) rfl rfl (msg_one (manyM 1023) _ _ _ _)
      rw [← hW4] at q1 q2 q3 q4 hst2
      rw [cells_many, World.size_alloc] at hst2
      obtain ⟨W7, hW7⟩ : ∃ W7, W7 = ((W4.alloc (.cells (zeroRow 65431) 5)).alloc (.cells #[.int .i64 0, .int .i64 0, .slice (some ⟨W4.heap.size, 0, none⟩) 65431 65431] 61)).alloc (.cells #[.int .i64 ((fatM 65431)).K, .int .i64 ((fatM 65431)).F, .int .i64 ((fatM 65431)).T, .int .i64 ((fatM 65431)).g, .int .i64 ((fatM 65431)).t, .int .i64 ((fatM 65431)).i, .int .i64 ((fatM 65431)).p, .int .i64 ((fatM 65431)).c, .int .i64 ((fatM 65431)).r, .int .i64 ((fatM 65431)).x, .int .i64 ((fatM 65431)).a, .int .i64 ((fatM 65431)).b, .int .i64 ((fatM 65431)).v, .int .i64 ((fatM 65431)).s, .bool ((fatM 65431)).ok, .slice (some ⟨W4.heap.size + 1, 0, none⟩) ((fatM 65431)).es.length 1, .slice none ((fatM 65431)).d.length 0] 25) := ⟨_, rfl⟩
      obtain ⟨r1, r2, r3, r4, r5⟩ := three W4 (.cells (zeroRow 65431) 5) (.cells #[.int .i64 0, .int .i64 0, .slice (some ⟨W4.heap.size, 0, none⟩) 65431 65431] 61) (.cells #[.int .i64 ((fatM 65431)).K, .int .i64 ((fatM 65431)).F, .int .i64 ((fatM 65431)).T, .int .i64 ((fatM 65431)).g, .int .i64 ((fatM 65431)).t, .int .i64 ((fatM 65431)).i, .int .i64 ((fatM 65431)).p, .int .i64 ((fatM 65431)).c, .int .i64 ((fatM 65431)).r, .int .i64 ((fatM 65431)).x, .int .i64 ((fatM 65431)).a, .int .i64 ((fatM 65431)).b, .int .i64 ((fatM 65431)).v, .int .i64 ((fatM 65431)).s, .bool ((fatM 65431)).ok, .slice (some ⟨W4.heap.size + 1, 0, none⟩) ((fatM 65431)).es.length 1, .slice none ((fatM 65431)).d.length 0] 25)
      have hst3 := st_new ((W4.alloc (.cells (zeroRow 65431) 5)).alloc (.cells #[.int .i64 0, .int .i64 0, .slice (some ⟨W4.heap.size, 0, none⟩) 65431 65431] 61)) #[.int .i64 0, .int .i64 0, .int .i64 0, .int .i64 0, .int .i64 0, .int .i64 0, .int .i64 0, .int .i64 0, .int .i64 0, .int .i64 0, .int .i64 0, .int .i64 0, .int .i64 0, .int .i64 0, .bool false, .slice none 0 0, .slice none 0 0] (#[.int .i64 ((fatM 65431)).K, .int .i64 ((fatM 65431)).F, .int .i64 ((fatM 65431)).T, .int .i64 ((fatM 65431)).g, .int .i64 ((fatM 65431)).t, .int .i64 ((fatM 65431)).i, .int .i64 ((fatM 65431)).p, .int .i64 ((fatM 65431)).c, .int .i64 ((fatM 65431)).r, .int .i64 ((fatM 65431)).x, .int .i64 ((fatM 65431)).a, .int .i64 ((fatM 65431)).b, .int .i64 ((fatM 65431)).v, .int .i64 ((fatM 65431)).s, .bool ((fatM 65431)).ok, .slice (some ⟨W4.heap.size + 1, 0, none⟩) ((fatM 65431)).es.length 1, .slice none ((fatM 65431)).d.length 0]) rfl rfl (msg_one (fatM 65431) _ _ _ _)
      rw [← hW7] at r1 r2 r3 r4 r5 hst3
      rw [cells_fat, World.size_alloc, World.size_alloc] at hst3
      have b27 : Below W2.heap.size W2 W7 := q2.trans (r2.mono q2.size)
      have HL : Hid (L3 wr W7 W2.heap.size W4.heap.size 65487 1023 65431) := hid ⟨p2.trans (b27.mono p2.size), ⟨(b27.block _ (by omega)).trans p4⟩, long_is W7 _ 65487 (by decide) (by omega) ((b27.block _ (by omega)).trans p3), ⟨(r2.block _ (by omega)).trans q4⟩, many_is W7 _ 1023 (by decide) (by omega) ((r2.block _ (by omega)).trans q3), ⟨r5⟩, fat_is W7 _ _ 65431 (by decide) (by omega) (by omega) r3 r4⟩
      have HTZ : Hid (∀ wz, Below wr.heap.size wr wz → Tab wz) := hid fun wz hb => HT.out.below (HB.out.trans (hb.mono HB.out.size)) hpos
      have HCK : Hid (check (longM 65487) = 0) := hid (by rw [long_check]; decide)
      obtain ⟨ma, hma⟩ : ∃ m, m = longM 65487 := ⟨_, rfl⟩
      obtain ⟨mb, hmb⟩ : ∃ m, m = manyM 1023 := ⟨_, rfl⟩
      obtain ⟨mc, hmc⟩ : ∃ m, m = fatM 65431 := ⟨_, rfl⟩
      have HLD : Hid (∀ wz, L3 wr wz W2.heap.size W4.heap.size 65487 1023 65431 → ((ldMsg (.pointer (some ⟨wr.heap.size + 1, 0, none⟩))).run Tryd.prog wz = .ok (.agg #[.int .i64 ma.K, .int .i64 ma.F, .int .i64 ma.T, .int .i64 ma.g, .int .i64 ma.t, .int .i64 ma.i, .int .i64 ma.p, .int .i64 ma.c, .int .i64 ma.r, .int .i64 ma.x, .int .i64 ma.a, .int .i64 ma.b, .int .i64 ma.v, .int .i64 ma.s, .bool ma.ok, .slice none ma.es.length 0, .slice (some ⟨wr.heap.size, 0, none⟩) ma.d.length 65487]) wz ∧ (ldMsg (.pointer (some ⟨W2.heap.size + 1, 0, none⟩))).run Tryd.prog wz = .ok (.agg #[.int .i64 mb.K, .int .i64 mb.F, .int .i64 mb.T, .int .i64 mb.g, .int .i64 mb.t, .int .i64 mb.i, .int .i64 mb.p, .int .i64 mb.c, .int .i64 mb.r, .int .i64 mb.x, .int .i64 mb.a, .int .i64 mb.b, .int .i64 mb.v, .int .i64 mb.s, .bool mb.ok, .slice (some ⟨W2.heap.size, 0, none⟩) mb.es.length 1023, .slice none mb.d.length 0]) wz ∧ (ldMsg (.pointer (some ⟨W4.heap.size + 2, 0, none⟩))).run Tryd.prog wz = .ok (.agg #[.int .i64 mc.K, .int .i64 mc.F, .int .i64 mc.T, .int .i64 mc.g, .int .i64 mc.t, .int .i64 mc.i, .int .i64 mc.p, .int .i64 mc.c, .int .i64 mc.r, .int .i64 mc.x, .int .i64 mc.a, .int .i64 mc.b, .int .i64 mc.v, .int .i64 mc.s, .bool mc.ok, .slice (some ⟨W4.heap.size + 1, 0, none⟩) mc.es.length 1, .slice none mc.d.length 0]) wz)) := hid fun wz h => ⟨by rw [hma]; exact h.b1.load, by rw [hmb]; exact h.b2.load, by rw [hmc]; exact h.b3.load⟩
      have HP1 : Hid (∀ wz, L3 wr wz W2.heap.size W4.heap.size 65487 1023 65431 → Calls Tryd.prog 4 #[.agg #[.int .i64 ma.K, .int .i64 ma.F, .int .i64 ma.T, .int .i64 ma.g, .int .i64 ma.t, .int .i64 ma.i, .int .i64 ma.p, .int .i64 ma.c, .int .i64 ma.r, .int .i64 ma.x, .int .i64 ma.a, .int .i64 ma.b, .int .i64 ma.v, .int .i64 ma.s, .bool ma.ok, .slice none ma.es.length 0, .slice (some ⟨wr.heap.size, 0, none⟩) ma.d.length 65487]] wz fun e w' => e = .returned (.bool true) ∧ Below wz.heap.size wz w') := hid fun wz h => by rw [hma]; exact messagePuts.walk _ _ _ _ _ wz (HTZ.out wz h.bel) h.i1
      have HP2 : Hid (∀ wz, L3 wr wz W2.heap.size W4.heap.size 65487 1023 65431 → Calls Tryd.prog 4 #[.agg #[.int .i64 mb.K, .int .i64 mb.F, .int .i64 mb.T, .int .i64 mb.g, .int .i64 mb.t, .int .i64 mb.i, .int .i64 mb.p, .int .i64 mb.c, .int .i64 mb.r, .int .i64 mb.x, .int .i64 mb.a, .int .i64 mb.b, .int .i64 mb.v, .int .i64 mb.s, .bool mb.ok, .slice (some ⟨W2.heap.size, 0, none⟩) mb.es.length 1023, .slice none mb.d.length 0]] wz fun e w' => e = .returned (.bool true) ∧ Below wz.heap.size wz w') := hid fun wz h => by rw [hmb]; exact messagePuts.walk _ _ _ _ _ wz (HTZ.out wz h.bel) h.i2
      have HP3 : Hid (∀ wz, L3 wr wz W2.heap.size W4.heap.size 65487 1023 65431 → Calls Tryd.prog 4 #[.agg #[.int .i64 mc.K, .int .i64 mc.F, .int .i64 mc.T, .int .i64 mc.g, .int .i64 mc.t, .int .i64 mc.i, .int .i64 mc.p, .int .i64 mc.c, .int .i64 mc.r, .int .i64 mc.x, .int .i64 mc.a, .int .i64 mc.b, .int .i64 mc.v, .int .i64 mc.s, .bool mc.ok, .slice (some ⟨W4.heap.size + 1, 0, none⟩) mc.es.length 1, .slice none mc.d.length 0]] wz fun e w' => e = .returned (.bool true) ∧ Below wz.heap.size wz w') := hid fun wz h => by rw [hmc]; exact messagePuts.walk _ _ _ _ _ wz (HTZ.out wz h.bel) h.i3
      have HB2 : Hid (∀ wz, L3 wr wz W2.heap.size W4.heap.size 65487 1023 65431 → Calls Tryd.prog 6 #[.agg #[.int .i64 mb.K, .int .i64 mb.F, .int .i64 mb.T, .int .i64 mb.g, .int .i64 mb.t, .int .i64 mb.i, .int .i64 mb.p, .int .i64 mb.c, .int .i64 mb.r, .int .i64 mb.x, .int .i64 mb.a, .int .i64 mb.b, .int .i64 mb.v, .int .i64 mb.s, .bool mb.ok, .slice (some ⟨W2.heap.size, 0, none⟩) mb.es.length 1023, .slice none mb.d.length 0]] wz fun e w' => e = .returned (.bool true) ∧ Below wz.heap.size wz w') := hid fun wz h => by rw [hmb]; exact messageBack.walk _ _ _ _ _ wz (HTZ.out wz h.bel) h.i2
      have HB3 : Hid (∀ wz, L3 wr wz W2.heap.size W4.heap.size 65487 1023 65431 → Calls Tryd.prog 6 #[.agg #[.int .i64 mc.K, .int .i64 mc.F, .int .i64 mc.T, .int .i64 mc.g, .int .i64 mc.t, .int .i64 mc.i, .int .i64 mc.p, .int .i64 mc.c, .int .i64 mc.r, .int .i64 mc.x, .int .i64 mc.a, .int .i64 mc.b, .int .i64 mc.v, .int .i64 mc.s, .bool mc.ok, .slice (some ⟨W4.heap.size + 1, 0, none⟩) mc.es.length 1, .slice none mc.d.length 0]] wz fun e w' => e = .returned (.bool true) ∧ Below wz.heap.size wz w') := hid fun wz h => by rw [hmc]; exact messageBack.walk _ _ _ _ _ wz (HTZ.out wz h.bel) h.i3
      have HC1 : Hid (∀ wz, L3 wr wz W2.heap.size W4.heap.size 65487 1023 65431 → Calls Tryd.prog 13 #[.agg #[.int .i64 ma.K, .int .i64 ma.F, .int .i64 ma.T, .int .i64 ma.g, .int .i64 ma.t, .int .i64 ma.i, .int .i64 ma.p, .int .i64 ma.c, .int .i64 ma.r, .int .i64 ma.x, .int .i64 ma.a, .int .i64 ma.b, .int .i64 ma.v, .int .i64 ma.s, .bool ma.ok, .slice none ma.es.length 0, .slice (some ⟨wr.heap.size, 0, none⟩) ma.d.length 65487]] wz fun e w' => e = .returned (.int .i64 0) ∧ Below wz.heap.size wz w') := hid fun wz h => by
        have hsm : Small (longM 65487) := ⟨Nat.zero_le _, by unfold weigh; exact Nat.zero_le _, by show (zeros 65487).length ≤ _; rw [zeros_length]; decide⟩
        have := check_any (longM 65487) none 0 (some ⟨wr.heap.size, 0, none⟩) 65487 wz (h.i1.inp hsm (HTZ.out wz h.bel) (Below.refl _ wz))
        rw [HCK.out] at this
        rw [hma]; exact this
      obtain ⟨l1, l2, l3⟩ := HLD.out W7 HL.out
      clear p1 p2 p3 p4 q1 q2 q3 q4 r1 r2 r3 r4 r5 b27 hma hmb hmc
      clear hW2 hW4 hW7 l2 l3
      go_wp2_with fail
      refine (HP1.out W7 HL.out).mono ?_
      rintro e v1 ⟨rfl, hb⟩
      have H1 := hid (HL.out.low hb)
      obtain ⟨_, l2, _⟩ := HLD.out v1 H1.out
      clear hb l1 hst1 hst2 hst3 mk1 mk2 mk3
      go_wp2_with fail
      refine (HP2.out v1 H1.out).mono ?_
      rintro e v2 ⟨rfl, hb⟩
      have H2 := hid (H1.out.low hb)
      clear hb l2
      obtain ⟨_, l2, _⟩ := HLD.out v2 H2.out
      go_wp2_with fail
      refine (HB2.out v2 H2.out).mono ?_
      rintro e v3 ⟨rfl, hb⟩
      have H3 := hid (H2.out.low hb)
      clear hb l2
      obtain ⟨_, _, l3⟩ := HLD.out v3 H3.out
      go_wp2_with fail
      refine (HP3.out v3 H3.out).mono ?_
      rintro e v4 ⟨rfl, hb⟩
      have H4 := hid (H3.out.low hb)
      clear hb l3
      obtain ⟨_, _, l3⟩ := HLD.out v4 H4.out
      go_wp2_with fail
      refine (HB3.out v4 H4.out).mono ?_
      rintro e v5 ⟨rfl, hb⟩
      have H5 := hid (H4.out.low hb)
      clear hb l3
      obtain ⟨l1, _, _⟩ := HLD.out v5 H5.out
      go_wp2_with fail
      refine (HC1.out v5 H5.out).mono ?_
      rintro e v6 ⟨rfl, hb⟩
      have H6 := hid (HB.out.trans ((H5.out.low hb).bel.mono HB.out.size))
      clear hb l1
      go_wp2_with fail
      go_roundw
      case rel => exact ⟨by unfold Four; simp, H6⟩
      case measure => simp [RowKit.intOf]
    · have mk1 : ∀ W : World, (Instr.makeSlice 23 (.int .i64 65488) (.int .i64 65488)).run Tryd.prog W = .ok (.slice (some ⟨W.heap.size, 0, none⟩) 65488 65488) (W.alloc (.cells (zeroRow 65488) 5)) := fun W => make_any 65488 (by decide) W
      have mk2 : ∀ W : World, (Instr.makeSlice 22 (.int .i64 1024) (.int .i64 1024)).run Tryd.prog W = .ok (.slice (some ⟨W.heap.size, 0, none⟩) 1024 1024) (W.alloc (.cells (entZ 1024) 61)) := fun W => makeE_any 1024 (by decide) W
      have mk3 : ∀ W : World, (Instr.makeSlice 23 (.int .i64 65432) (.int .i64 65432)).run Tryd.prog W = .ok (.slice (some ⟨W.heap.size, 0, none⟩) 65432 65432) (W.alloc (.cells (zeroRow 65432) 5)) := fun W => make_any 65432 (by decide) W
      obtain ⟨W2, hW2⟩ : ∃ W2, W2 = (wr.alloc (.cells (zeroRow 65488) 5)).alloc (.cells #[.int .i64 ((longM 65488)).K, .int .i64 ((longM 65488)).F, .int .i64 ((longM 65488)).T, .int .i64 ((longM 65488)).g, .int .i64 ((longM 65488)).t, .int .i64 ((longM 65488)).i, .int .i64 ((longM 65488)).p, .int .i64 ((longM 65488)).c, .int .i64 ((longM 65488)).r, .int .i64 ((longM 65488)).x, .int .i64 ((longM 65488)).a, .int .i64 ((longM 65488)).b, .int .i64 ((longM 65488)).v, .int .i64 ((longM 65488)).s, .bool ((longM 65488)).ok, .slice none ((longM 65488)).es.length 0, .slice (some ⟨wr.heap.size, 0, none⟩) ((longM 65488)).d.length 65488] 25) := ⟨_, rfl⟩
      obtain ⟨p1, p2, p3, p4⟩ := pair wr (.cells (zeroRow 65488) 5) (.cells #[.int .i64 ((longM 65488)).K, .int .i64 ((longM 65488)).F, .int .i64 ((longM 65488)).T, .int .i64 ((longM 65488)).g, .int .i64 ((longM 65488)).t, .int .i64 ((longM 65488)).i, .int .i64 ((longM 65488)).p, .int .i64 ((longM 65488)).c, .int .i64 ((longM 65488)).r, .int .i64 ((longM 65488)).x, .int .i64 ((longM 65488)).a, .int .i64 ((longM 65488)).b, .int .i64 ((longM 65488)).v, .int .i64 ((longM 65488)).s, .bool ((longM 65488)).ok, .slice none ((longM 65488)).es.length 0, .slice (some ⟨wr.heap.size, 0, none⟩) ((longM 65488)).d.length 65488] 25)
      have hst1 := st_new (wr.alloc (.cells (zeroRow 65488) 5)) #[.int .i64 0, .int .i64 0, .int .i64 0, .int .i64 0, .int .i64 0, .int .i64 0, .int .i64 0, .int .i64 0, .int .i64 0, .int .i64 0, .int .i64 0, .int .i64 0, .int .i64 0, .int .i64 0, .bool false, .slice none 0 0, .slice none 0 0] (#[.int .i64 ((longM 65488)).K, .int .i64 ((longM 65488)).F, .int .i64 ((longM 65488)).T, .int .i64 ((longM 65488)).g, .int .i64 ((longM 65488)).t, .int .i64 ((longM 65488)).i, .int .i64 ((longM 65488)).p, .int .i64 ((longM 65488)).c, .int .i64 ((longM 65488)).r, .int .i64 ((longM 65488)).x, .int .i64 ((longM 65488)).a, .int .i64 ((longM 65488)).b, .int .i64 ((longM 65488)).v, .int .i64 ((longM 65488)).s, .bool ((longM 65488)).ok, .slice none ((longM 65488)).es.length 0, .slice (some ⟨wr.heap.size, 0, none⟩) ((longM 65488)).d.length 65488]) rfl rfl (msg_one (longM 65488) _ _ _ _)
      rw [← hW2] at p1 p2 p3 p4 hst1
      rw [cells_long, World.size_alloc] at hst1
      obtain ⟨W4, hW4⟩ : ∃ W4, W4 = (W2.alloc (.cells (entZ 1024) 61)).alloc (.cells #[.int .i64 ((manyM 1024)).K, .int .i64 ((manyM 1024)).F, .int .i64 ((manyM 1024)).T, .int .i64 ((manyM 1024)).g, .int .i64 ((manyM 1024)).t, .int .i64 ((manyM 1024)).i, .int .i64 ((manyM 1024)).p, .int .i64 ((manyM 1024)).c, .int .i64 ((manyM 1024)).r, .int .i64 ((manyM 1024)).x, .int .i64 ((manyM 1024)).a, .int .i64 ((manyM 1024)).b, .int .i64 ((manyM 1024)).v, .int .i64 ((manyM 1024)).s, .bool ((manyM 1024)).ok, .slice (some ⟨W2.heap.size, 0, none⟩) ((manyM 1024)).es.length 1024, .slice none ((manyM 1024)).d.length 0] 25) := ⟨_, rfl⟩
      obtain ⟨q1, q2, q3, q4⟩ := pair W2 (.cells (entZ 1024) 61) (.cells #[.int .i64 ((manyM 1024)).K, .int .i64 ((manyM 1024)).F, .int .i64 ((manyM 1024)).T, .int .i64 ((manyM 1024)).g, .int .i64 ((manyM 1024)).t, .int .i64 ((manyM 1024)).i, .int .i64 ((manyM 1024)).p, .int .i64 ((manyM 1024)).c, .int .i64 ((manyM 1024)).r, .int .i64 ((manyM 1024)).x, .int .i64 ((manyM 1024)).a, .int .i64 ((manyM 1024)).b, .int .i64 ((manyM 1024)).v, .int .i64 ((manyM 1024)).s, .bool ((manyM 1024)).ok, .slice (some ⟨W2.heap.size, 0, none⟩) ((manyM 1024)).es.length 1024, .slice none ((manyM 1024)).d.length 0] 25)
      have hst2 := st_new (W2.alloc (.cells (entZ 1024) 61)) #[.int .i64 0, .int .i64 0, .int .i64 0, .int .i64 0, .int .i64 0, .int .i64 0, .int .i64 0, .int .i64 0, .int .i64 0, .int .i64 0, .int .i64 0, .int .i64 0, .int .i64 0, .int .i64 0, .bool false, .slice none 0 0, .slice none 0 0] (#[.int .i64 ((manyM 1024)).K, .int .i64 ((manyM 1024)).F, .int .i64 ((manyM 1024)).T, .int .i64 ((manyM 1024)).g, .int .i64 ((manyM 1024)).t, .int .i64 ((manyM 1024)).i, .int .i64 ((manyM 1024)).p, .int .i64 ((manyM 1024)).c, .int .i64 ((manyM 1024)).r, .int .i64 ((manyM 1024)).x, .int .i64 ((manyM 1024)).a, .int .i64 ((manyM 1024)).b, .int .i64 ((manyM 1024)).v, .int .i64 ((manyM 1024)).s, .bool ((manyM 1024)).ok, .slice (some ⟨W2.heap.size, 0, none⟩) ((manyM 1024)).es.length 1024, .slice none ((manyM 1024)).d.length 0]) rfl rfl (msg_one (manyM 1024) _ _ _ _)
      rw [← hW4] at q1 q2 q3 q4 hst2
      rw [cells_many, World.size_alloc] at hst2
      obtain ⟨W7, hW7⟩ : ∃ W7, W7 = ((W4.alloc (.cells (zeroRow 65432) 5)).alloc (.cells #[.int .i64 0, .int .i64 0, .slice (some ⟨W4.heap.size, 0, none⟩) 65432 65432] 61)).alloc (.cells #[.int .i64 ((fatM 65432)).K, .int .i64 ((fatM 65432)).F, .int .i64 ((fatM 65432)).T, .int .i64 ((fatM 65432)).g, .int .i64 ((fatM 65432)).t, .int .i64 ((fatM 65432)).i, .int .i64 ((fatM 65432)).p, .int .i64 ((fatM 65432)).c, .int .i64 ((fatM 65432)).r, .int .i64 ((fatM 65432)).x, .int .i64 ((fatM 65432)).a, .int .i64 ((fatM 65432)).b, .int .i64 ((fatM 65432)).v, .int .i64 ((fatM 65432)).s, .bool ((fatM 65432)).ok, .slice (some ⟨W4.heap.size + 1, 0, none⟩) ((fatM 65432)).es.length 1, .slice none ((fatM 65432)).d.length 0] 25) := ⟨_, rfl⟩
      obtain ⟨r1, r2, r3, r4, r5⟩ := three W4 (.cells (zeroRow 65432) 5) (.cells #[.int .i64 0, .int .i64 0, .slice (some ⟨W4.heap.size, 0, none⟩) 65432 65432] 61) (.cells #[.int .i64 ((fatM 65432)).K, .int .i64 ((fatM 65432)).F, .int .i64 ((fatM 65432)).T, .int .i64 ((fatM 65432)).g, .int .i64 ((fatM 65432)).t, .int .i64 ((fatM 65432)).i, .int .i64 ((fatM 65432)).p, .int .i64 ((fatM 65432)).c, .int .i64 ((fatM 65432)).r, .int .i64 ((fatM 65432)).x, .int .i64 ((fatM 65432)).a, .int .i64 ((fatM 65432)).b, .int .i64 ((fatM 65432)).v, .int .i64 ((fatM 65432)).s, .bool ((fatM 65432)).ok, .slice (some ⟨W4.heap.size + 1, 0, none⟩) ((fatM 65432)).es.length 1, .slice none ((fatM 65432)).d.length 0] 25)
      have hst3 := st_new ((W4.alloc (.cells (zeroRow 65432) 5)).alloc (.cells #[.int .i64 0, .int .i64 0, .slice (some ⟨W4.heap.size, 0, none⟩) 65432 65432] 61)) #[.int .i64 0, .int .i64 0, .int .i64 0, .int .i64 0, .int .i64 0, .int .i64 0, .int .i64 0, .int .i64 0, .int .i64 0, .int .i64 0, .int .i64 0, .int .i64 0, .int .i64 0, .int .i64 0, .bool false, .slice none 0 0, .slice none 0 0] (#[.int .i64 ((fatM 65432)).K, .int .i64 ((fatM 65432)).F, .int .i64 ((fatM 65432)).T, .int .i64 ((fatM 65432)).g, .int .i64 ((fatM 65432)).t, .int .i64 ((fatM 65432)).i, .int .i64 ((fatM 65432)).p, .int .i64 ((fatM 65432)).c, .int .i64 ((fatM 65432)).r, .int .i64 ((fatM 65432)).x, .int .i64 ((fatM 65432)).a, .int .i64 ((fatM 65432)).b, .int .i64 ((fatM 65432)).v, .int .i64 ((fatM 65432)).s, .bool ((fatM 65432)).ok, .slice (some ⟨W4.heap.size + 1, 0, none⟩) ((fatM 65432)).es.length 1, .slice none ((fatM 65432)).d.length 0]) rfl rfl (msg_one (fatM 65432) _ _ _ _)
      rw [← hW7] at r1 r2 r3 r4 r5 hst3
      rw [cells_fat, World.size_alloc, World.size_alloc] at hst3
      have b27 : Below W2.heap.size W2 W7 := q2.trans (r2.mono q2.size)
      have HL : Hid (L3 wr W7 W2.heap.size W4.heap.size 65488 1024 65432) := hid ⟨p2.trans (b27.mono p2.size), ⟨(b27.block _ (by omega)).trans p4⟩, long_is W7 _ 65488 (by decide) (by omega) ((b27.block _ (by omega)).trans p3), ⟨(r2.block _ (by omega)).trans q4⟩, many_is W7 _ 1024 (by decide) (by omega) ((r2.block _ (by omega)).trans q3), ⟨r5⟩, fat_is W7 _ _ 65432 (by decide) (by omega) (by omega) r3 r4⟩
      have HTZ : Hid (∀ wz, Below wr.heap.size wr wz → Tab wz) := hid fun wz hb => HT.out.below (HB.out.trans (hb.mono HB.out.size)) hpos
      have HCK : Hid (check (longM 65488) = 0) := hid (by rw [long_check]; decide)
      obtain ⟨ma, hma⟩ : ∃ m, m = longM 65488 := ⟨_, rfl⟩
      obtain ⟨mb, hmb⟩ : ∃ m, m = manyM 1024 := ⟨_, rfl⟩
      obtain ⟨mc, hmc⟩ : ∃ m, m = fatM 65432 := ⟨_, rfl⟩
      have HLD : Hid (∀ wz, L3 wr wz W2.heap.size W4.heap.size 65488 1024 65432 → ((ldMsg (.pointer (some ⟨wr.heap.size + 1, 0, none⟩))).run Tryd.prog wz = .ok (.agg #[.int .i64 ma.K, .int .i64 ma.F, .int .i64 ma.T, .int .i64 ma.g, .int .i64 ma.t, .int .i64 ma.i, .int .i64 ma.p, .int .i64 ma.c, .int .i64 ma.r, .int .i64 ma.x, .int .i64 ma.a, .int .i64 ma.b, .int .i64 ma.v, .int .i64 ma.s, .bool ma.ok, .slice none ma.es.length 0, .slice (some ⟨wr.heap.size, 0, none⟩) ma.d.length 65488]) wz ∧ (ldMsg (.pointer (some ⟨W2.heap.size + 1, 0, none⟩))).run Tryd.prog wz = .ok (.agg #[.int .i64 mb.K, .int .i64 mb.F, .int .i64 mb.T, .int .i64 mb.g, .int .i64 mb.t, .int .i64 mb.i, .int .i64 mb.p, .int .i64 mb.c, .int .i64 mb.r, .int .i64 mb.x, .int .i64 mb.a, .int .i64 mb.b, .int .i64 mb.v, .int .i64 mb.s, .bool mb.ok, .slice (some ⟨W2.heap.size, 0, none⟩) mb.es.length 1024, .slice none mb.d.length 0]) wz ∧ (ldMsg (.pointer (some ⟨W4.heap.size + 2, 0, none⟩))).run Tryd.prog wz = .ok (.agg #[.int .i64 mc.K, .int .i64 mc.F, .int .i64 mc.T, .int .i64 mc.g, .int .i64 mc.t, .int .i64 mc.i, .int .i64 mc.p, .int .i64 mc.c, .int .i64 mc.r, .int .i64 mc.x, .int .i64 mc.a, .int .i64 mc.b, .int .i64 mc.v, .int .i64 mc.s, .bool mc.ok, .slice (some ⟨W4.heap.size + 1, 0, none⟩) mc.es.length 1, .slice none mc.d.length 0]) wz)) := hid fun wz h => ⟨by rw [hma]; exact h.b1.load, by rw [hmb]; exact h.b2.load, by rw [hmc]; exact h.b3.load⟩
      have HP1 : Hid (∀ wz, L3 wr wz W2.heap.size W4.heap.size 65488 1024 65432 → Calls Tryd.prog 4 #[.agg #[.int .i64 ma.K, .int .i64 ma.F, .int .i64 ma.T, .int .i64 ma.g, .int .i64 ma.t, .int .i64 ma.i, .int .i64 ma.p, .int .i64 ma.c, .int .i64 ma.r, .int .i64 ma.x, .int .i64 ma.a, .int .i64 ma.b, .int .i64 ma.v, .int .i64 ma.s, .bool ma.ok, .slice none ma.es.length 0, .slice (some ⟨wr.heap.size, 0, none⟩) ma.d.length 65488]] wz fun e w' => e = .returned (.bool true) ∧ Below wz.heap.size wz w') := hid fun wz h => by rw [hma]; exact messagePuts.walk _ _ _ _ _ wz (HTZ.out wz h.bel) h.i1
      have HP2 : Hid (∀ wz, L3 wr wz W2.heap.size W4.heap.size 65488 1024 65432 → Calls Tryd.prog 4 #[.agg #[.int .i64 mb.K, .int .i64 mb.F, .int .i64 mb.T, .int .i64 mb.g, .int .i64 mb.t, .int .i64 mb.i, .int .i64 mb.p, .int .i64 mb.c, .int .i64 mb.r, .int .i64 mb.x, .int .i64 mb.a, .int .i64 mb.b, .int .i64 mb.v, .int .i64 mb.s, .bool mb.ok, .slice (some ⟨W2.heap.size, 0, none⟩) mb.es.length 1024, .slice none mb.d.length 0]] wz fun e w' => e = .returned (.bool true) ∧ Below wz.heap.size wz w') := hid fun wz h => by rw [hmb]; exact messagePuts.walk _ _ _ _ _ wz (HTZ.out wz h.bel) h.i2
      have HP3 : Hid (∀ wz, L3 wr wz W2.heap.size W4.heap.size 65488 1024 65432 → Calls Tryd.prog 4 #[.agg #[.int .i64 mc.K, .int .i64 mc.F, .int .i64 mc.T, .int .i64 mc.g, .int .i64 mc.t, .int .i64 mc.i, .int .i64 mc.p, .int .i64 mc.c, .int .i64 mc.r, .int .i64 mc.x, .int .i64 mc.a, .int .i64 mc.b, .int .i64 mc.v, .int .i64 mc.s, .bool mc.ok, .slice (some ⟨W4.heap.size + 1, 0, none⟩) mc.es.length 1, .slice none mc.d.length 0]] wz fun e w' => e = .returned (.bool true) ∧ Below wz.heap.size wz w') := hid fun wz h => by rw [hmc]; exact messagePuts.walk _ _ _ _ _ wz (HTZ.out wz h.bel) h.i3
      have HB2 : Hid (∀ wz, L3 wr wz W2.heap.size W4.heap.size 65488 1024 65432 → Calls Tryd.prog 6 #[.agg #[.int .i64 mb.K, .int .i64 mb.F, .int .i64 mb.T, .int .i64 mb.g, .int .i64 mb.t, .int .i64 mb.i, .int .i64 mb.p, .int .i64 mb.c, .int .i64 mb.r, .int .i64 mb.x, .int .i64 mb.a, .int .i64 mb.b, .int .i64 mb.v, .int .i64 mb.s, .bool mb.ok, .slice (some ⟨W2.heap.size, 0, none⟩) mb.es.length 1024, .slice none mb.d.length 0]] wz fun e w' => e = .returned (.bool true) ∧ Below wz.heap.size wz w') := hid fun wz h => by rw [hmb]; exact messageBack.walk _ _ _ _ _ wz (HTZ.out wz h.bel) h.i2
      have HB3 : Hid (∀ wz, L3 wr wz W2.heap.size W4.heap.size 65488 1024 65432 → Calls Tryd.prog 6 #[.agg #[.int .i64 mc.K, .int .i64 mc.F, .int .i64 mc.T, .int .i64 mc.g, .int .i64 mc.t, .int .i64 mc.i, .int .i64 mc.p, .int .i64 mc.c, .int .i64 mc.r, .int .i64 mc.x, .int .i64 mc.a, .int .i64 mc.b, .int .i64 mc.v, .int .i64 mc.s, .bool mc.ok, .slice (some ⟨W4.heap.size + 1, 0, none⟩) mc.es.length 1, .slice none mc.d.length 0]] wz fun e w' => e = .returned (.bool true) ∧ Below wz.heap.size wz w') := hid fun wz h => by rw [hmc]; exact messageBack.walk _ _ _ _ _ wz (HTZ.out wz h.bel) h.i3
      have HC1 : Hid (∀ wz, L3 wr wz W2.heap.size W4.heap.size 65488 1024 65432 → Calls Tryd.prog 13 #[.agg #[.int .i64 ma.K, .int .i64 ma.F, .int .i64 ma.T, .int .i64 ma.g, .int .i64 ma.t, .int .i64 ma.i, .int .i64 ma.p, .int .i64 ma.c, .int .i64 ma.r, .int .i64 ma.x, .int .i64 ma.a, .int .i64 ma.b, .int .i64 ma.v, .int .i64 ma.s, .bool ma.ok, .slice none ma.es.length 0, .slice (some ⟨wr.heap.size, 0, none⟩) ma.d.length 65488]] wz fun e w' => e = .returned (.int .i64 0) ∧ Below wz.heap.size wz w') := hid fun wz h => by
        have hsm : Small (longM 65488) := ⟨Nat.zero_le _, by unfold weigh; exact Nat.zero_le _, by show (zeros 65488).length ≤ _; rw [zeros_length]; decide⟩
        have := check_any (longM 65488) none 0 (some ⟨wr.heap.size, 0, none⟩) 65488 wz (h.i1.inp hsm (HTZ.out wz h.bel) (Below.refl _ wz))
        rw [HCK.out] at this
        rw [hma]; exact this
      obtain ⟨l1, l2, l3⟩ := HLD.out W7 HL.out
      clear p1 p2 p3 p4 q1 q2 q3 q4 r1 r2 r3 r4 r5 b27 hma hmb hmc
      clear hW2 hW4 hW7 l2 l3
      go_wp2_with fail
      refine (HP1.out W7 HL.out).mono ?_
      rintro e v1 ⟨rfl, hb⟩
      have H1 := hid (HL.out.low hb)
      obtain ⟨_, l2, _⟩ := HLD.out v1 H1.out
      clear hb l1 hst1 hst2 hst3 mk1 mk2 mk3
      go_wp2_with fail
      refine (HP2.out v1 H1.out).mono ?_
      rintro e v2 ⟨rfl, hb⟩
      have H2 := hid (H1.out.low hb)
      clear hb l2
      obtain ⟨_, l2, _⟩ := HLD.out v2 H2.out
      go_wp2_with fail
      refine (HB2.out v2 H2.out).mono ?_
      rintro e v3 ⟨rfl, hb⟩
      have H3 := hid (H2.out.low hb)
      clear hb l2
      obtain ⟨_, _, l3⟩ := HLD.out v3 H3.out
      go_wp2_with fail
      refine (HP3.out v3 H3.out).mono ?_
      rintro e v4 ⟨rfl, hb⟩
      have H4 := hid (H3.out.low hb)
      clear hb l3
      obtain ⟨_, _, l3⟩ := HLD.out v4 H4.out
      go_wp2_with fail
      refine (HB3.out v4 H4.out).mono ?_
      rintro e v5 ⟨rfl, hb⟩
      have H5 := hid (H4.out.low hb)
      clear hb l3
      obtain ⟨l1, _, _⟩ := HLD.out v5 H5.out
      go_wp2_with fail
      refine (HC1.out v5 H5.out).mono ?_
      rintro e v6 ⟨rfl, hb⟩
      have H6 := hid (HB.out.trans ((H5.out.low hb).bel.mono HB.out.size))
      clear hb l1
      go_wp2_with fail
      go_roundw
      case rel => exact ⟨by unfold Four; simp, H6⟩
      case measure => simp [RowKit.intOf]
    · have mk1 : ∀ W : World, (Instr.makeSlice 23 (.int .i64 65489) (.int .i64 65489)).run Tryd.prog W = .ok (.slice (some ⟨W.heap.size, 0, none⟩) 65489 65489) (W.alloc (.cells (zeroRow 65489) 5)) := fun W => make_any 65489 (by decide) W
      have mk2 : ∀ W : World, (Instr.makeSlice 22 (.int .i64 1025) (.int .i64 1025)).run Tryd.prog W = .ok (.slice (some ⟨W.heap.size, 0, none⟩) 1025 1025) (W.alloc (.cells (entZ 1025) 61)) := fun W => makeE_any 1025 (by decide) W
      have mk3 : ∀ W : World, (Instr.makeSlice 23 (.int .i64 65433) (.int .i64 65433)).run Tryd.prog W = .ok (.slice (some ⟨W.heap.size, 0, none⟩) 65433 65433) (W.alloc (.cells (zeroRow 65433) 5)) := fun W => make_any 65433 (by decide) W
      obtain ⟨W2, hW2⟩ : ∃ W2, W2 = (wr.alloc (.cells (zeroRow 65489) 5)).alloc (.cells #[.int .i64 ((longM 65489)).K, .int .i64 ((longM 65489)).F, .int .i64 ((longM 65489)).T, .int .i64 ((longM 65489)).g, .int .i64 ((longM 65489)).t, .int .i64 ((longM 65489)).i, .int .i64 ((longM 65489)).p, .int .i64 ((longM 65489)).c, .int .i64 ((longM 65489)).r, .int .i64 ((longM 65489)).x, .int .i64 ((longM 65489)).a, .int .i64 ((longM 65489)).b, .int .i64 ((longM 65489)).v, .int .i64 ((longM 65489)).s, .bool ((longM 65489)).ok, .slice none ((longM 65489)).es.length 0, .slice (some ⟨wr.heap.size, 0, none⟩) ((longM 65489)).d.length 65489] 25) := ⟨_, rfl⟩
      obtain ⟨p1, p2, p3, p4⟩ := pair wr (.cells (zeroRow 65489) 5) (.cells #[.int .i64 ((longM 65489)).K, .int .i64 ((longM 65489)).F, .int .i64 ((longM 65489)).T, .int .i64 ((longM 65489)).g, .int .i64 ((longM 65489)).t, .int .i64 ((longM 65489)).i, .int .i64 ((longM 65489)).p, .int .i64 ((longM 65489)).c, .int .i64 ((longM 65489)).r, .int .i64 ((longM 65489)).x, .int .i64 ((longM 65489)).a, .int .i64 ((longM 65489)).b, .int .i64 ((longM 65489)).v, .int .i64 ((longM 65489)).s, .bool ((longM 65489)).ok, .slice none ((longM 65489)).es.length 0, .slice (some ⟨wr.heap.size, 0, none⟩) ((longM 65489)).d.length 65489] 25)
      have hst1 := st_new (wr.alloc (.cells (zeroRow 65489) 5)) #[.int .i64 0, .int .i64 0, .int .i64 0, .int .i64 0, .int .i64 0, .int .i64 0, .int .i64 0, .int .i64 0, .int .i64 0, .int .i64 0, .int .i64 0, .int .i64 0, .int .i64 0, .int .i64 0, .bool false, .slice none 0 0, .slice none 0 0] (#[.int .i64 ((longM 65489)).K, .int .i64 ((longM 65489)).F, .int .i64 ((longM 65489)).T, .int .i64 ((longM 65489)).g, .int .i64 ((longM 65489)).t, .int .i64 ((longM 65489)).i, .int .i64 ((longM 65489)).p, .int .i64 ((longM 65489)).c, .int .i64 ((longM 65489)).r, .int .i64 ((longM 65489)).x, .int .i64 ((longM 65489)).a, .int .i64 ((longM 65489)).b, .int .i64 ((longM 65489)).v, .int .i64 ((longM 65489)).s, .bool ((longM 65489)).ok, .slice none ((longM 65489)).es.length 0, .slice (some ⟨wr.heap.size, 0, none⟩) ((longM 65489)).d.length 65489]) rfl rfl (msg_one (longM 65489) _ _ _ _)
      rw [← hW2] at p1 p2 p3 p4 hst1
      rw [cells_long, World.size_alloc] at hst1
      obtain ⟨W4, hW4⟩ : ∃ W4, W4 = (W2.alloc (.cells (entZ 1025) 61)).alloc (.cells #[.int .i64 ((manyM 1025)).K, .int .i64 ((manyM 1025)).F, .int .i64 ((manyM 1025)).T, .int .i64 ((manyM 1025)).g, .int .i64 ((manyM 1025)).t, .int .i64 ((manyM 1025)).i, .int .i64 ((manyM 1025)).p, .int .i64 ((manyM 1025)).c, .int .i64 ((manyM 1025)).r, .int .i64 ((manyM 1025)).x, .int .i64 ((manyM 1025)).a, .int .i64 ((manyM 1025)).b, .int .i64 ((manyM 1025)).v, .int .i64 ((manyM 1025)).s, .bool ((manyM 1025)).ok, .slice (some ⟨W2.heap.size, 0, none⟩) ((manyM 1025)).es.length 1025, .slice none ((manyM 1025)).d.length 0] 25) := ⟨_, rfl⟩
      obtain ⟨q1, q2, q3, q4⟩ := pair W2 (.cells (entZ 1025) 61) (.cells #[.int .i64 ((manyM 1025)).K, .int .i64 ((manyM 1025)).F, .int .i64 ((manyM 1025)).T, .int .i64 ((manyM 1025)).g, .int .i64 ((manyM 1025)).t, .int .i64 ((manyM 1025)).i, .int .i64 ((manyM 1025)).p, .int .i64 ((manyM 1025)).c, .int .i64 ((manyM 1025)).r, .int .i64 ((manyM 1025)).x, .int .i64 ((manyM 1025)).a, .int .i64 ((manyM 1025)).b, .int .i64 ((manyM 1025)).v, .int .i64 ((manyM 1025)).s, .bool ((manyM 1025)).ok, .slice (some ⟨W2.heap.size, 0, none⟩) ((manyM 1025)).es.length 1025, .slice none ((manyM 1025)).d.length 0] 25)
      have hst2 := st_new (W2.alloc (.cells (entZ 1025) 61)) #[.int .i64 0, .int .i64 0, .int .i64 0, .int .i64 0, .int .i64 0, .int .i64 0, .int .i64 0, .int .i64 0, .int .i64 0, .int .i64 0, .int .i64 0, .int .i64 0, .int .i64 0, .int .i64 0, .bool false, .slice none 0 0, .slice none 0 0] (#[.int .i64 ((manyM 1025)).K, .int .i64 ((manyM 1025)).F, .int .i64 ((manyM 1025)).T, .int .i64 ((manyM 1025)).g, .int .i64 ((manyM 1025)).t, .int .i64 ((manyM 1025)).i, .int .i64 ((manyM 1025)).p, .int .i64 ((manyM 1025)).c, .int .i64 ((manyM 1025)).r, .int .i64 ((manyM 1025)).x, .int .i64 ((manyM 1025)).a, .int .i64 ((manyM 1025)).b, .int .i64 ((manyM 1025)).v, .int .i64 ((manyM 1025)).s, .bool ((manyM 1025)).ok, .slice (some ⟨W2.heap.size, 0, none⟩) ((manyM 1025)).es.length 1025, .slice none ((manyM 1025)).d.length 0]) rfl rfl (msg_one (manyM 1025) _ _ _ _)
      rw [← hW4] at q1 q2 q3 q4 hst2
      rw [cells_many, World.size_alloc] at hst2
      obtain ⟨W7, hW7⟩ : ∃ W7, W7 = ((W4.alloc (.cells (zeroRow 65433) 5)).alloc (.cells #[.int .i64 0, .int .i64 0, .slice (some ⟨W4.heap.size, 0, none⟩) 65433 65433] 61)).alloc (.cells #[.int .i64 ((fatM 65433)).K, .int .i64 ((fatM 65433)).F, .int .i64 ((fatM 65433)).T, .int .i64 ((fatM 65433)).g, .int .i64 ((fatM 65433)).t, .int .i64 ((fatM 65433)).i, .int .i64 ((fatM 65433)).p, .int .i64 ((fatM 65433)).c, .int .i64 ((fatM 65433)).r, .int .i64 ((fatM 65433)).x, .int .i64 ((fatM 65433)).a, .int .i64 ((fatM 65433)).b, .int .i64 ((fatM 65433)).v, .int .i64 ((fatM 65433)).s, .bool ((fatM 65433)).ok, .slice (some ⟨W4.heap.size + 1, 0, none⟩) ((fatM 65433)).es.length 1, .slice none ((fatM 65433)).d.length 0] 25) := ⟨_, rfl⟩
      obtain ⟨r1, r2, r3, r4, r5⟩ := three W4 (.cells (zeroRow 65433) 5) (.cells #[.int .i64 0, .int .i64 0, .slice (some ⟨W4.heap.size, 0, none⟩) 65433 65433] 61) (.cells #[.int .i64 ((fatM 65433)).K, .int .i64 ((fatM 65433)).F, .int .i64 ((fatM 65433)).T, .int .i64 ((fatM 65433)).g, .int .i64 ((fatM 65433)).t, .int .i64 ((fatM 65433)).i, .int .i64 ((fatM 65433)).p, .int .i64 ((fatM 65433)).c, .int .i64 ((fatM 65433)).r, .int .i64 ((fatM 65433)).x, .int .i64 ((fatM 65433)).a, .int .i64 ((fatM 65433)).b, .int .i64 ((fatM 65433)).v, .int .i64 ((fatM 65433)).s, .bool ((fatM 65433)).ok, .slice (some ⟨W4.heap.size + 1, 0, none⟩) ((fatM 65433)).es.length 1, .slice none ((fatM 65433)).d.length 0] 25)
      have hst3 := st_new ((W4.alloc (.cells (zeroRow 65433) 5)).alloc (.cells #[.int .i64 0, .int .i64 0, .slice (some ⟨W4.heap.size, 0, none⟩) 65433 65433] 61)) #[.int .i64 0, .int .i64 0, .int .i64 0, .int .i64 0, .int .i64 0, .int .i64 0, .int .i64 0, .int .i64 0, .int .i64 0, .int .i64 0, .int .i64 0, .int .i64 0, .int .i64 0, .int .i64 0, .bool false, .slice none 0 0, .slice none 0 0] (#[.int .i64 ((fatM 65433)).K, .int .i64 ((fatM 65433)).F, .int .i64 ((fatM 65433)).T, .int .i64 ((fatM 65433)).g, .int .i64 ((fatM 65433)).t, .int .i64 ((fatM 65433)).i, .int .i64 ((fatM 65433)).p, .int .i64 ((fatM 65433)).c, .int .i64 ((fatM 65433)).r, .int .i64 ((fatM 65433)).x, .int .i64 ((fatM 65433)).a, .int .i64 ((fatM 65433)).b, .int .i64 ((fatM 65433)).v, .int .i64 ((fatM 65433)).s, .bool ((fatM 65433)).ok, .slice (some ⟨W4.heap.size + 1, 0, none⟩) ((fatM 65433)).es.length 1, .slice none ((fatM 65433)).d.length 0]) rfl rfl (msg_one (fatM 65433) _ _ _ _)
      rw [← hW7] at r1 r2 r3 r4 r5 hst3
      rw [cells_fat, World.size_alloc, World.size_alloc] at hst3
      have b27 : Below W2.heap.size W2 W7 := q2.trans (r2.mono q2.size)
      have HL : Hid (L3 wr W7 W2.heap.size W4.heap.size 65489 1025 65433) := hid ⟨p2.trans (b27.mono p2.size), ⟨(b27.block _ (by omega)).trans p4⟩, long_is W7 _ 65489 (by decide) (by omega) ((b27.block _ (by omega)).trans p3), ⟨(r2.block _ (by omega)).trans q4⟩, many_is W7 _ 1025 (by decide) (by omega) ((r2.block _ (by omega)).trans q3), ⟨r5⟩, fat_is W7 _ _ 65433 (by decide) (by omega) (by omega) r3 r4⟩
      have HTZ : Hid (∀ wz, Below wr.heap.size wr wz → Tab wz) := hid fun wz hb => HT.out.below (HB.out.trans (hb.mono HB.out.size)) hpos
      have HCK : Hid (check (longM 65489) = 2) := hid (by rw [long_check]; decide)
      obtain ⟨ma, hma⟩ : ∃ m, m = longM 65489 := ⟨_, rfl⟩
      obtain ⟨mb, hmb⟩ : ∃ m, m = manyM 1025 := ⟨_, rfl⟩
      obtain ⟨mc, hmc⟩ : ∃ m, m = fatM 65433 := ⟨_, rfl⟩
      have HLD : Hid (∀ wz, L3 wr wz W2.heap.size W4.heap.size 65489 1025 65433 → ((ldMsg (.pointer (some ⟨wr.heap.size + 1, 0, none⟩))).run Tryd.prog wz = .ok (.agg #[.int .i64 ma.K, .int .i64 ma.F, .int .i64 ma.T, .int .i64 ma.g, .int .i64 ma.t, .int .i64 ma.i, .int .i64 ma.p, .int .i64 ma.c, .int .i64 ma.r, .int .i64 ma.x, .int .i64 ma.a, .int .i64 ma.b, .int .i64 ma.v, .int .i64 ma.s, .bool ma.ok, .slice none ma.es.length 0, .slice (some ⟨wr.heap.size, 0, none⟩) ma.d.length 65489]) wz ∧ (ldMsg (.pointer (some ⟨W2.heap.size + 1, 0, none⟩))).run Tryd.prog wz = .ok (.agg #[.int .i64 mb.K, .int .i64 mb.F, .int .i64 mb.T, .int .i64 mb.g, .int .i64 mb.t, .int .i64 mb.i, .int .i64 mb.p, .int .i64 mb.c, .int .i64 mb.r, .int .i64 mb.x, .int .i64 mb.a, .int .i64 mb.b, .int .i64 mb.v, .int .i64 mb.s, .bool mb.ok, .slice (some ⟨W2.heap.size, 0, none⟩) mb.es.length 1025, .slice none mb.d.length 0]) wz ∧ (ldMsg (.pointer (some ⟨W4.heap.size + 2, 0, none⟩))).run Tryd.prog wz = .ok (.agg #[.int .i64 mc.K, .int .i64 mc.F, .int .i64 mc.T, .int .i64 mc.g, .int .i64 mc.t, .int .i64 mc.i, .int .i64 mc.p, .int .i64 mc.c, .int .i64 mc.r, .int .i64 mc.x, .int .i64 mc.a, .int .i64 mc.b, .int .i64 mc.v, .int .i64 mc.s, .bool mc.ok, .slice (some ⟨W4.heap.size + 1, 0, none⟩) mc.es.length 1, .slice none mc.d.length 0]) wz)) := hid fun wz h => ⟨by rw [hma]; exact h.b1.load, by rw [hmb]; exact h.b2.load, by rw [hmc]; exact h.b3.load⟩
      have HP1 : Hid (∀ wz, L3 wr wz W2.heap.size W4.heap.size 65489 1025 65433 → Calls Tryd.prog 4 #[.agg #[.int .i64 ma.K, .int .i64 ma.F, .int .i64 ma.T, .int .i64 ma.g, .int .i64 ma.t, .int .i64 ma.i, .int .i64 ma.p, .int .i64 ma.c, .int .i64 ma.r, .int .i64 ma.x, .int .i64 ma.a, .int .i64 ma.b, .int .i64 ma.v, .int .i64 ma.s, .bool ma.ok, .slice none ma.es.length 0, .slice (some ⟨wr.heap.size, 0, none⟩) ma.d.length 65489]] wz fun e w' => e = .returned (.bool true) ∧ Below wz.heap.size wz w') := hid fun wz h => by rw [hma]; exact messagePuts.walk _ _ _ _ _ wz (HTZ.out wz h.bel) h.i1
      have HP2 : Hid (∀ wz, L3 wr wz W2.heap.size W4.heap.size 65489 1025 65433 → Calls Tryd.prog 4 #[.agg #[.int .i64 mb.K, .int .i64 mb.F, .int .i64 mb.T, .int .i64 mb.g, .int .i64 mb.t, .int .i64 mb.i, .int .i64 mb.p, .int .i64 mb.c, .int .i64 mb.r, .int .i64 mb.x, .int .i64 mb.a, .int .i64 mb.b, .int .i64 mb.v, .int .i64 mb.s, .bool mb.ok, .slice (some ⟨W2.heap.size, 0, none⟩) mb.es.length 1025, .slice none mb.d.length 0]] wz fun e w' => e = .returned (.bool true) ∧ Below wz.heap.size wz w') := hid fun wz h => by rw [hmb]; exact messagePuts.walk _ _ _ _ _ wz (HTZ.out wz h.bel) h.i2
      have HP3 : Hid (∀ wz, L3 wr wz W2.heap.size W4.heap.size 65489 1025 65433 → Calls Tryd.prog 4 #[.agg #[.int .i64 mc.K, .int .i64 mc.F, .int .i64 mc.T, .int .i64 mc.g, .int .i64 mc.t, .int .i64 mc.i, .int .i64 mc.p, .int .i64 mc.c, .int .i64 mc.r, .int .i64 mc.x, .int .i64 mc.a, .int .i64 mc.b, .int .i64 mc.v, .int .i64 mc.s, .bool mc.ok, .slice (some ⟨W4.heap.size + 1, 0, none⟩) mc.es.length 1, .slice none mc.d.length 0]] wz fun e w' => e = .returned (.bool true) ∧ Below wz.heap.size wz w') := hid fun wz h => by rw [hmc]; exact messagePuts.walk _ _ _ _ _ wz (HTZ.out wz h.bel) h.i3
      have HB2 : Hid (∀ wz, L3 wr wz W2.heap.size W4.heap.size 65489 1025 65433 → Calls Tryd.prog 6 #[.agg #[.int .i64 mb.K, .int .i64 mb.F, .int .i64 mb.T, .int .i64 mb.g, .int .i64 mb.t, .int .i64 mb.i, .int .i64 mb.p, .int .i64 mb.c, .int .i64 mb.r, .int .i64 mb.x, .int .i64 mb.a, .int .i64 mb.b, .int .i64 mb.v, .int .i64 mb.s, .bool mb.ok, .slice (some ⟨W2.heap.size, 0, none⟩) mb.es.length 1025, .slice none mb.d.length 0]] wz fun e w' => e = .returned (.bool true) ∧ Below wz.heap.size wz w') := hid fun wz h => by rw [hmb]; exact messageBack.walk _ _ _ _ _ wz (HTZ.out wz h.bel) h.i2
      have HB3 : Hid (∀ wz, L3 wr wz W2.heap.size W4.heap.size 65489 1025 65433 → Calls Tryd.prog 6 #[.agg #[.int .i64 mc.K, .int .i64 mc.F, .int .i64 mc.T, .int .i64 mc.g, .int .i64 mc.t, .int .i64 mc.i, .int .i64 mc.p, .int .i64 mc.c, .int .i64 mc.r, .int .i64 mc.x, .int .i64 mc.a, .int .i64 mc.b, .int .i64 mc.v, .int .i64 mc.s, .bool mc.ok, .slice (some ⟨W4.heap.size + 1, 0, none⟩) mc.es.length 1, .slice none mc.d.length 0]] wz fun e w' => e = .returned (.bool true) ∧ Below wz.heap.size wz w') := hid fun wz h => by rw [hmc]; exact messageBack.walk _ _ _ _ _ wz (HTZ.out wz h.bel) h.i3
      have HC1 : Hid (∀ wz, L3 wr wz W2.heap.size W4.heap.size 65489 1025 65433 → Calls Tryd.prog 13 #[.agg #[.int .i64 ma.K, .int .i64 ma.F, .int .i64 ma.T, .int .i64 ma.g, .int .i64 ma.t, .int .i64 ma.i, .int .i64 ma.p, .int .i64 ma.c, .int .i64 ma.r, .int .i64 ma.x, .int .i64 ma.a, .int .i64 ma.b, .int .i64 ma.v, .int .i64 ma.s, .bool ma.ok, .slice none ma.es.length 0, .slice (some ⟨wr.heap.size, 0, none⟩) ma.d.length 65489]] wz fun e w' => e = .returned (.int .i64 2) ∧ Below wz.heap.size wz w') := hid fun wz h => by
        have hsm : Small (longM 65489) := ⟨Nat.zero_le _, by unfold weigh; exact Nat.zero_le _, by show (zeros 65489).length ≤ _; rw [zeros_length]; decide⟩
        have := check_any (longM 65489) none 0 (some ⟨wr.heap.size, 0, none⟩) 65489 wz (h.i1.inp hsm (HTZ.out wz h.bel) (Below.refl _ wz))
        rw [HCK.out] at this
        rw [hma]; exact this
      obtain ⟨l1, l2, l3⟩ := HLD.out W7 HL.out
      clear p1 p2 p3 p4 q1 q2 q3 q4 r1 r2 r3 r4 r5 b27 hma hmb hmc
      clear hW2 hW4 hW7 l2 l3
      go_wp2_with fail
      refine (HP1.out W7 HL.out).mono ?_
      rintro e v1 ⟨rfl, hb⟩
      have H1 := hid (HL.out.low hb)
      obtain ⟨_, l2, _⟩ := HLD.out v1 H1.out
      clear hb l1 hst1 hst2 hst3 mk1 mk2 mk3
      go_wp2_with fail
      refine (HP2.out v1 H1.out).mono ?_
      rintro e v2 ⟨rfl, hb⟩
      have H2 := hid (H1.out.low hb)
      clear hb l2
      obtain ⟨_, l2, _⟩ := HLD.out v2 H2.out
      go_wp2_with fail
      refine (HB2.out v2 H2.out).mono ?_
      rintro e v3 ⟨rfl, hb⟩
      have H3 := hid (H2.out.low hb)
      clear hb l2
      obtain ⟨_, _, l3⟩ := HLD.out v3 H3.out
      go_wp2_with fail
      refine (HP3.out v3 H3.out).mono ?_
      rintro e v4 ⟨rfl, hb⟩
      have H4 := hid (H3.out.low hb)
      clear hb l3
      obtain ⟨_, _, l3⟩ := HLD.out v4 H4.out
      go_wp2_with fail
      refine (HB3.out v4 H4.out).mono ?_
      rintro e v5 ⟨rfl, hb⟩
      have H5 := hid (H4.out.low hb)
      clear hb l3
      obtain ⟨l1, _, _⟩ := HLD.out v5 H5.out
      go_wp2_with fail
      refine (HC1.out v5 H5.out).mono ?_
      rintro e v6 ⟨rfl, hb⟩
      have H6 := hid (HB.out.trans ((H5.out.low hb).bel.mono HB.out.size))
      clear hb l1
      go_wp2_with fail
      go_roundw
      case rel => exact ⟨by unfold Four; simp, H6⟩
      case measure => simp [RowKit.intOf]
    · obtain ⟨wl, hwl⟩ : ∃ wl, wl = wr.alloc (.cells #[.int .i64 0, .int .i64 3, .slice none 0 0] 61) := ⟨_, rfl⟩
      have hbl : Below wr.heap.size wr wl := by rw [hwl]; exact (Below.refl _ wr).alloc (Nat.le_refl _) _
      have hbw := HB.out.trans (hbl.mono HB.out.size)
      have hrow : wl.heap[wr.heap.size]? = some (.cells #[.int .i64 0, .int .i64 3, .slice none 0 0] 61 (0, 0)) := by rw [hwl]; exact heap_alloc_new wr _
      have hlt := row_lt hrow
      have hes : IsEnts wl wl.heap.size (some ⟨wr.heap.size, 0, none⟩) wrongM.es := ⟨fun e h => by
        rw [List.mem_singleton.1 h]; exact ⟨⟨by decide, by decide⟩, ⟨by decide, by decide⟩⟩, fun q hq => ⟨wr.heap.size, 0, rfl, hlt, fun i hi => by
        have hi1 : i < 1 := hi
        obtain rfl : i = 0 := by omega
        have hc := fun j => cell_of_row wl wr.heap.size j _ _ (0, 0) hrow
        exact ⟨none, 0, hc 0, hc 1, hc 2, IsBytes.nil, ⟨Nat.le_refl _, Nat.zero_le _⟩, fun _ => rfl⟩⟩⟩
      have hck := check_any wrongM (some ⟨wr.heap.size, 0, none⟩) 1 none 0 wl ⟨HT.out.below hbw hpos, hes, ⟨by decide, by decide, by decide⟩⟩
      rw [wrong_check] at hck
      have HCK := hid hck
      have HBW := hid hbw
      clear hbl hbw hrow hlt hes hck
      go_wp2_with fail
      rw [← hwl]
      clear hwl
      refine HCK.out.mono ?_
      rintro e v6 ⟨rfl, hb⟩
      have HB6 := hid (HBW.out.trans (hb.mono HBW.out.size))
      clear hb
      go_wp2_with fail
      go_ret
      exact ⟨rfl, HB6.out⟩
end Go.Proofs.YtpigekbfngalbaaDoor.Ms
