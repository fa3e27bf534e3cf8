/- The walks through package message: does a foreign field say something, may the numbers be, how long is the encoding? -/
import Derived.Test.YtmaebemhephcmaaDoorMsLoad
namespace Go.Proofs.YtmaebemhephcmaaDoor.Ms
open Go.RowKit
set_option maxRecDepth 100000
attribute [local go_sem ↓] loadAt_msg

theorem tab_small (k : Nat) : ∀ x ∈ tab k, x < 128 := by
  intro x hx
  unfold tab at hx
  split at hx <;> simp at hx <;> omega
theorem tab_field (k : Nat) : ∀ x ∈ tab k, x ∈ nums ∨ x = 111 ∨ x = 101 ∨ x = 100 := by
  intro x hx
  unfold tab at hx
  split at hx <;> simp at hx <;> simp only [nums, List.mem_cons, List.not_mem_nil, or_false] <;> omega
theorem all_small : ∀ x ∈ all, x < 128 := by decide
theorem all_field : ∀ x ∈ all, x ∈ nums ∨ x = 111 ∨ x = 101 ∨ x = 100 := by decide
theorem kind_of {m : M} (h : m.isKind = true) : ∃ k : Nat, m.K = (k : Int) ∧ 1 ≤ k ∧ k ≤ 11 ∧ m.kind = k := by
  unfold M.isKind at h
  simp at h
  exact ⟨m.K.toNat, by omega, by omega, by omega, rfl⟩
/-- a letter that a string's iterator comes to -/
theorem next_at {P : Program} (w : World) (k : Nat) (l : List Nat) (hl : ∀ x ∈ l, x < 128) (pos : Nat) (ty : TypeId) (hk : w.heap[k]? = some (.stringIter (strOf l) pos)) (h : pos < l.length) :
    (Instr.next (.pointer (some ⟨k, 0, none⟩)) true ty).run P w = .ok (.tuple #[.bool true, .int .i64 pos, .int .i32 ((l[pos] : Nat) : Int)]) (w.iterAt k (strOf l) (pos + 1)) := by
  have hs : pos < (strOf l).size := by rw [strOf_size]; exact h
  have e := strOf_get l hl pos hs
  rw [Lib.run_next_ascii_at w k (strOf l) pos ty hk hs (by rw [e]; exact hl _ (List.getElem_mem h)), e]
theorem next_end {P : Program} (w : World) (k : Nat) (l : List Nat) (pos : Nat) (ty : TypeId) (hk : w.heap[k]? = some (.stringIter (strOf l) pos)) (h : ¬ pos < l.length) :
    (Instr.next (.pointer (some ⟨k, 0, none⟩)) true ty).run P w = .ok (.tuple #[.bool false]) w :=
  Lib.run_next_end_at w k (strOf l) pos ty hk (by rw [strOf_size]; exact h)

set_option maxHeartbeats 1600000 in
theorem isKind_any (m : M) (w : World) :
    Calls Tryd.prog 33 #[.int .i64 m.K] w fun e w' => e = .returned (.bool m.isKind) ∧ w' = w := by
  by_cases h1 : 1 ≤ m.K <;> by_cases h2 : m.K ≤ 11 <;>
  · have HK : Hid (m.isKind = (decide (1 ≤ m.K) && decide (m.K ≤ 11))) := rfl
    go_enter Tryd.func33, Tryd.ntmps33
    go_wp2
    all_goals
      go_ret
      refine ⟨?_, rfl⟩
      rw [HK.out]
      simp [*]

theorem strOf_all : ByteArray.mk #[103, 116, 105, 112, 99, 114, 120, 97, 98, 118, 115, 111, 101, 100] = strOf all := rfl
theorem iter_start (w : World) (m : M) (A : Option Addr) (c : Nat) (A' : Option Addr) (c' : Nat) (s : ByteArray) :
    Bx ((w.alloc (.cells #[.int .i64 m.K, .int .i64 m.F, .int .i64 m.T, .int .i64 m.g, .int .i64 m.t, .int .i64 m.i, .int .i64 m.p, .int .i64 m.c, .int .i64 m.r, .int .i64 m.x, .int .i64 m.a, .int .i64 m.b, .int .i64 m.v, .int .i64 m.s, .bool m.ok, .slice A m.es.length c, .slice A' m.d.length c'] 25)).iter s 0) w.heap.size m A c A' c' ∧ ((w.alloc (.cells #[.int .i64 m.K, .int .i64 m.F, .int .i64 m.T, .int .i64 m.g, .int .i64 m.t, .int .i64 m.i, .int .i64 m.p, .int .i64 m.c, .int .i64 m.r, .int .i64 m.x, .int .i64 m.a, .int .i64 m.b, .int .i64 m.v, .int .i64 m.s, .bool m.ok, .slice A m.es.length c, .slice A' m.d.length c'] 25)).iter s 0).heap[w.heap.size + 1]? = some (.stringIter s 0) ∧ Below w.heap.size w ((w.alloc (.cells #[.int .i64 m.K, .int .i64 m.F, .int .i64 m.T, .int .i64 m.g, .int .i64 m.t, .int .i64 m.i, .int .i64 m.p, .int .i64 m.c, .int .i64 m.r, .int .i64 m.x, .int .i64 m.a, .int .i64 m.b, .int .i64 m.v, .int .i64 m.s, .bool m.ok, .slice A m.es.length c, .slice A' m.d.length c'] 25)).iter s 0) := by
  obtain ⟨x, hx⟩ : ∃ x, x = (#[.int .i64 m.K, .int .i64 m.F, .int .i64 m.T, .int .i64 m.g, .int .i64 m.t, .int .i64 m.i, .int .i64 m.p, .int .i64 m.c, .int .i64 m.r, .int .i64 m.x, .int .i64 m.a, .int .i64 m.b, .int .i64 m.v, .int .i64 m.s, .bool m.ok, .slice A m.es.length c, .slice A' m.d.length c'] : Array Value) := ⟨_, rfl⟩
  have h1 : (w.alloc (.cells x 25)).heap.size = w.heap.size + 1 := by simp
  refine ⟨⟨?_⟩, ?_, ?_⟩
  · rw [← hx]
    exact (Below.heap_alloc (w.alloc (.cells x 25)) (.stringIter s 0) _ (by rw [h1]; omega)).trans (heap_alloc_new w _)
  · rw [← hx]
    have h0 := World.iter_heap (w.alloc (.cells x 25)) s 0
    rw [h1] at h0
    exact h0
  · rw [← hx]
    exact ((Below.refl _ w).alloc (Nat.le_refl _) _).alloc (by rw [h1]; omega) _
/-- up to a place no foreign field says something -/
def M.still (m : M) (pos : Nat) : Prop := ∀ r ∈ all.take pos, (!(tab m.kind).contains r && !m.blank r) = false
theorem still_next {m : M} {pos : Nat} (h : m.still pos) (hp : pos < all.length) (hb : (!(tab m.kind).contains all[pos] && !m.blank all[pos]) = false) : m.still (pos + 1) := by
  intro r hr
  rw [List.take_succ_eq_append_getElem hp] at hr
  rcases List.mem_append.1 hr with hr | hr
  · exact h r hr
  · obtain rfl := List.mem_singleton.1 hr; exact hb
theorem still_all {m : M} {pos : Nat} (h : m.still pos) (hp : ¬ pos < all.length) : m.foreign = false := by
  unfold M.foreign
  rw [List.any_eq_false]
  intro r hr
  have := h r (by rw [List.take_of_length_le (by omega)]; exact hr)
  simpa using this
theorem foreign_of {m : M} {pos : Nat} (hp : pos < all.length) (hb : (!(tab m.kind).contains all[pos] && !m.blank all[pos]) = true) : m.foreign = true := by
  unfold M.foreign
  rw [List.any_eq_true]
  exact ⟨_, List.getElem_mem hp, hb⟩
set_option maxHeartbeats 1600000 in
theorem foreign_any (m : M) (A : Option Addr) (c : Nat) (A' : Option Addr) (c' : Nat) (w : World) (hk : m.isKind = true) (hT : Tab w) :
    Calls Tryd.prog 34 #[.agg #[.int .i64 m.K, .int .i64 m.F, .int .i64 m.T, .int .i64 m.g, .int .i64 m.t, .int .i64 m.i, .int .i64 m.p, .int .i64 m.c, .int .i64 m.r, .int .i64 m.x, .int .i64 m.a, .int .i64 m.b, .int .i64 m.v, .int .i64 m.s, .bool m.ok, .slice A m.es.length c, .slice A' m.d.length c']] w fun e w' => e = .returned (.bool m.foreign) ∧ Below w.heap.size w w' := by
  obtain ⟨k, hK, hk1, hk2, hkind⟩ := kind_of hk
  have hpos := hT.pos
  have k0 : 0 ≤ m.K := by omega
  have k12 : m.K < 12 := by omega
  have HT : Hid (Tab w) := hT
  have HKK : Hid (m.kind = m.K.toNat ∧ m.K.toNat < 12) := ⟨rfl, by omega⟩
  clear hK hk1 hk2 hkind hk hT
  go_enter Tryd.func34, Tryd.ntmps34
  go_wp2
  rw [strOf_all]
  obtain ⟨h1, h2, h3⟩ := iter_start w m A c A' c' (strOf all)
  generalize ((w.alloc (.cells #[.int .i64 m.K, .int .i64 m.F, .int .i64 m.T, .int .i64 m.g, .int .i64 m.t, .int .i64 m.i, .int .i64 m.p, .int .i64 m.c, .int .i64 m.r, .int .i64 m.x, .int .i64 m.a, .int .i64 m.b, .int .i64 m.v, .int .i64 m.s, .bool m.ok, .slice A m.es.length c, .slice A' m.d.length c'] 25)).iter (strOf all) 0) = w0 at h1 h2 h3 ⊢
  go_loopw [4] (fun _ wr => ∃ pos : Nat, Hid (Bx wr w.heap.size m A c A' c') ∧ Hid (wr.heap[w.heap.size + 1]? = some (.stringIter (strOf all) pos)) ∧ Hid (Below w.heap.size w wr) ∧ Hid (m.still pos)) (fun _ wr => 14 - wr.iterPos (w.heap.size + 1))
  case atStart =>
    exact ⟨0, h1, h2, h3, fun r hr => by simp at hr⟩
  case round =>
    clear h1 h2 h3
    obtain ⟨pos, HB, HI, HBel, HS⟩ := hrel
    by_cases hp : pos < all.length
    · have hnx : ∀ ty, (Instr.next (.pointer (some ⟨w.heap.size + 1, 0, none⟩)) true ty).run Tryd.prog wr = _ := fun ty => next_at wr (w.heap.size + 1) all all_small pos ty HI.out hp
      have hiI := Lib.iterAt_heap wr (w.heap.size + 1) (strOf all) pos (pos + 1) HI.out
      have hbI := Lib.below_iterAt HBel.out (k := w.heap.size + 1) (by omega) (strOf all) (pos + 1)
      have hBI : Bx (wr.iterAt (w.heap.size + 1) (strOf all) (pos + 1)) w.heap.size m A c A' c' := ⟨(Lib.iterAt_other wr _ _ _ _ (by omega)).trans HB.out.row⟩
      obtain ⟨wi, hwi⟩ : ∃ wi, wi = wr.iterAt (w.heap.size + 1) (strOf all) (pos + 1) := ⟨_, rfl⟩
      rw [← hwi] at hiI hbI hBI
      rw [← hwi] at hnx
      have c0 := hBI.c0
      have hld := hBI.load
      have ht : wi.cell? ⟨0, m.K.toNat, none⟩ = some (.string (strOf (tab m.kind))) := (HT.out.below hbI hpos) _ HKK.out.2
      have HX := hid (And.intro hwi (And.intro hiI (And.intro hbI hBI)))
      clear hwi hiI hbI hBI
      have hr := all_field _ (List.getElem_mem hp)
      have h128 := all_small _ (List.getElem_mem hp)
      have HF := hid hr
      clear hr
      obtain ⟨q, hq⟩ : ∃ q, q = all[pos] := ⟨_, rfl⟩
      rw [← hq] at h128 hnx HF
      have HQ := hid hq
      clear hq
      obtain ⟨bc, hbc⟩ : ∃ bc, bc = (tab m.kind).contains q := ⟨_, rfl⟩
      have HC := hid hbc
      go_wp2_with fail
      refine (contains_any _ (tab_small _) _ h128 _).mono ?_
      rw [← hbc]
      rintro e w2 ⟨rfl, rfl⟩
      clear hbc
      cases bc
      · go_wp2_with fail
        refine (blank_any m A c A' c' q HF.out _).mono ?_
        obtain ⟨bb, hbb⟩ : ∃ bb, bb = m.blank q := ⟨_, rfl⟩
        rw [← hbb]
        rintro e w3 ⟨rfl, hb3⟩
        have HBB := hid (And.intro hbb hb3)
        clear hbb hb3
        cases bb
        · go_wp2_with fail
          go_ret
          have e : m.foreign = true := foreign_of hp (by rw [← HQ.out, ← HC.out, ← HBB.out.1]; rfl)
          rw [e]
          exact ⟨rfl, HX.out.2.2.1.trans (HBB.out.2.mono HX.out.2.2.1.size)⟩
        · go_wp2_with fail
          go_roundw
          case rel =>
            refine ⟨pos + 1, hid (HX.out.2.2.2.below HBB.out.2 ?_), ?_, hid (HX.out.2.2.1.trans (HBB.out.2.mono HX.out.2.2.1.size)), hid (still_next HS.out hp (by rw [← HQ.out, ← HC.out, ← HBB.out.1]; rfl))⟩
            · rw [HX.out.1, Lib.iterAt_size]; have := row_lt HB.out.row; exact this
            · exact hid ((HBB.out.2.block _ (row_lt HX.out.2.1)).trans HX.out.2.1)
          case measure =>
            simp only [World.iterPos, (HBB.out.2.block _ (row_lt HX.out.2.1)).trans HX.out.2.1, HI.out]
            have : all.length = 14 := rfl
            omega
      · go_wp2_with fail
        go_roundw
        case rel => exact ⟨pos + 1, hid HX.out.2.2.2, hid HX.out.2.1, hid HX.out.2.2.1, hid (still_next HS.out hp (by rw [← HQ.out, ← HC.out]; rfl))⟩
        case measure =>
          simp only [World.iterPos, HX.out.2.1, HI.out]
          have : all.length = 14 := rfl
          omega
    · have hnx : ∀ ty, (Instr.next (.pointer (some ⟨w.heap.size + 1, 0, none⟩)) true ty).run Tryd.prog wr = _ := fun ty => next_end wr (w.heap.size + 1) all pos ty HI.out hp
      go_wp2_with fail
      go_ret
      rw [still_all HS.out hp]
      exact ⟨rfl, HBel.out⟩
end Go.Proofs.YtmaebemhephcmaaDoor.Ms
