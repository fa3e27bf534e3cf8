/- knownFull: as many packets, and as many cut ways, as may be, and one more. -/
import Derived.Test.YtckfjkhjnpkobaaMkOps
import Derived.Test.YtckfjkhjnpkobaaPostRuns
import Derived.Test.YtckfjkhjnpkobaaPostKeeps
namespace Go.Proofs.Ytckfjkhjnpkobaa
open Go Go.RowKit

theorem cells_new2 (w : World) (o : Obj) (l : List Value) (t : TypeId) (k : Nat) : ((w.alloc o).alloc (.cells l.toArray t)).cell? ((⟨w.heap.size + 1, 0, none⟩ : Addr).add k) = l[k]? := by
  rw [← World.size_alloc w o]
  exact cells_new _ l t k
theorem two_below6 (w : World) (o1 o2 : Obj) : Below w.heap.size w ((w.alloc o1).alloc o2) := ((Below.refl _ w).alloc (Nat.le_refl _) _).alloc (by rw [World.size_alloc]; omega) _
theorem one_below6 (w : World) (o1 : Obj) : Below w.heap.size w (w.alloc o1) := (Below.refl _ w).alloc (Nat.le_refl _) _
theorem runs_at (A : Option Addr) (c n : Nat) (ts : List Po.Op) (hts : ts.length = n) (w : World) (h : IsOps w w.heap.size A ts) :
    Calls Try.prog 3 #[.slice A n c] w fun e w' => e = .returned (.bool true) ∧ Below w.heap.size w w' := by
  subst hts
  exact postRuns.core A c ts w h
theorem keeps_at (A : Option Addr) (c n : Nat) (ts : List Po.Op) (hts : ts.length = n) (w : World) (h : IsOps w w.heap.size A ts) :
    Calls Try.prog 5 #[.slice A n c] w fun e w' => e = .returned (.bool true) ∧ Below w.heap.size w w' := by
  subst hts
  exact postKeeps.core A c ts w h
/-- the list under way -/
structure Mkn (w wr : World) (A : Option Addr) (c n : Nat) (L : List OpD) : Prop where
  len : L.length = n
  row : Mk wr w.heap.size A c L
  bel : Below w.heap.size w wr
def plainsOf (l : List (Nat × Nat × Nat)) : List OpD := l.map fun q => plain q.1 q.2.1 q.2.2
theorem plains_own (w : World) (l : List (Nat × Nat × Nat)) : ∀ d ∈ plainsOf l, OwnsB 5 w 0 d.ap d.cp d.t.d := by
  intro d hd
  obtain ⟨q, _, rfl⟩ := List.mem_map.1 hd
  exact plain_own w _ _ _
theorem plains_num (l : List (Nat × Nat × Nat)) (h : ∀ q ∈ l, q.1 < 1000 ∧ q.2.1 < 1000 ∧ q.2.2 < 1000) : ∀ d ∈ plainsOf l, InInt d.t.kind ∧ InInt d.t.a ∧ InInt d.t.b := by
  intro d hd
  obtain ⟨q, hq, rfl⟩ := List.mem_map.1 hd
  have := h q hq
  show InInt (q.1 : Int) ∧ InInt (q.2.1 : Int) ∧ InInt (q.2.2 : Int)
  unfold InInt
  omega
theorem small3 (a b c : Nat) (ha : a < 1000) (hb : b < 1000) (hc : c < 1000) : InInt (a : Int) ∧ InInt (b : Int) ∧ InInt (c : Int) := by
  unfold InInt
  omega
theorem byte_own2 (w : World) (o : Obj) (x : Nat) (hx : x < 256) : OwnsB 5 ((w.alloc (.cells #[.int .u8 (x : Nat)] 5)).alloc o) 0 (some ⟨w.heap.size, 0, none⟩) 1 [x] := (byte_own w x hx).below (one_below6 _ _)
theorem Mkn.more {w wr wz w' : World} {A A2 : Option Addr} {c c2 n m : Nat} {L ys : List OpD} (h : Mkn w wr A c n L) (hM : Mk w' w.heap.size A2 c2 (L ++ ys)) (hm : ys.length = m) (hz : Below wr.heap.size wr wz) (hb : Below w.heap.size wz w') : Mkn w w' A2 c2 (n + m) (L ++ ys) :=
  ⟨by rw [List.length_append, h.len, hm], hM, h.bel.trans ((hz.mono h.bel.size).trans hb)⟩

set_option maxRecDepth 100000 in
set_option maxHeartbeats 1600000 in
theorem full_any (w : World) : Calls Try.prog 23 #[] w fun e w' => e = .returned (.bool true) ∧ Below w.heap.size w w' := by
  go_enter Try.func23, Try.ntmps23
  go_wp2_with fail
  go_loopw [1, 2] (fun l i wr => ∃ (k n : Nat) (A : Option Addr) (c : Nat) (L : List OpD), i = .int .i64 k ∧ k ≤ 258 ∧ l = .slice A n c ∧ n ≤ k ∧ Hid (Mkn w wr A c n L)) (fun _ i _ => 258 - (RowKit.intOf i).toNat)
  case atStart => exact ⟨0, 0, none, 0, [], rfl, by omega, rfl, by omega, hid ⟨rfl, Mk.nil _ _, Below.refl _ _⟩⟩
  case round =>
    obtain ⟨k, n, A, c, L, rfl, hk, rfl, hn, hM⟩ := hrel
    by_cases hlt : k < 258
    · have hi : (k : Int) < 258 := by omega
      have hwb := wrap_byte k
      have HR : Hid (k % 256 < 256) := hid (Nat.mod_lt _ (by decide))
      go_wp2_with (at_builtin; refine wpList_append_ops (by rfl) _ _ (by rfl) (hM.out.row.below (two_below6 wr _ _)) (Nat.le_trans hM.out.bel.size (two_below6 wr _ _).size) n hM.out.len (by rfl) [⟨⟨0, 1, 2, [k % 256]⟩, some ⟨wr.heap.size, 0, none⟩, 1⟩] 1 rfl ⟨wr.heap.size + 1, 0, none⟩ 1 (by rfl) (fun j u hj => (cells_new2 wr _ _ _ j).trans hj) (by intro d hd; obtain rfl := List.mem_singleton.1 hd; exact byte_own2 wr _ _ HR.out) (by intro d hd; obtain rfl := List.mem_singleton.1 hd; exact small3 0 1 2 (by decide) (by decide) (by decide)) (by omega) ?_)
      intro A2 c2 w2 hM2 hb2
      have HM2 : Hid (Mkn w w2 A2 c2 (n + 1) _) := hid (hM.out.more hM2 rfl (two_below6 wr _ _) hb2)
      clear hM2 hb2
      go_wp2_with fail
      go_roundw
      case rel => exact ⟨k + 1, n + 1, A2, c2, _, by go_num, by omega, rfl, by omega, HM2⟩
      case measure => simp [RowKit.intOf]; omega
    · have hi : ¬ ((k : Int) < 258) := by omega
      go_wp2_with (at_builtin; refine wpList_append_ops (by rfl) _ _ (by rfl) (hM.out.row.below (one_below6 wr _)) (Nat.le_trans hM.out.bel.size (one_below6 wr _).size) n hM.out.len (by rfl) (plainsOf [(3, 3, 0), (2, 3, 0), (3, 3, 0), (3, 256, 0), (1, 255, 0)]) 5 rfl ⟨wr.heap.size, 0, none⟩ 5 (by rfl) (fun j u hj => (cells_new wr _ _ j).trans hj) (plains_own _ _) (plains_num _ (by decide)) (by omega) ?_)
      intro A2 c2 w2 hM2 hb2
      have HM2 : Hid (Mkn w w2 A2 c2 (n + 5) _) := hid (hM.out.more hM2 rfl (one_below6 wr _) hb2)
      clear hM2 hb2
      go_wp2_with fail
      go_loopw [1, 3] (fun l i wr => ∃ (k n : Nat) (A : Option Addr) (c : Nat) (L : List OpD), i = .int .i64 k ∧ k ≤ 66 ∧ l = .slice A n c ∧ n ≤ 263 + k ∧ Hid (Mkn w wr A c n L)) (fun _ i _ => 66 - (RowKit.intOf i).toNat)
      case atStart => exact ⟨0, n + 5, A2, c2, _, rfl, by omega, rfl, by omega, HM2⟩
      case round =>
        clear HM2 hM
        obtain ⟨j, m, A3, c3, L3, rfl, hj, rfl, hm, hM⟩ := hrel
        by_cases hlt : j < 66
        · have hi : (j : Int) < 66 := by omega
          go_wp2_with (at_builtin; refine wpList_append_ops (by rfl) _ _ (by rfl) (hM.out.row.below (one_below6 wr _)) (Nat.le_trans hM.out.bel.size (one_below6 wr _).size) m hM.out.len (by rfl) (plainsOf [(5, 200, j)]) 1 rfl ⟨wr.heap.size, 0, none⟩ 1 (by rfl) (fun j u hj => (cells_new wr _ _ j).trans hj) (plains_own _ _) (plains_num _ (by intro q hq; obtain rfl := List.mem_singleton.1 hq; show 5 < 1000 ∧ 200 < 1000 ∧ j < 1000; omega)) (by omega) ?_)
          intro A4 c4 w4 hM4 hb4
          have HM4 : Hid (Mkn w w4 A4 c4 (m + 1) _) := hid (hM.out.more hM4 rfl (one_below6 wr _) hb4)
          clear hM4 hb4
          go_wp2_with fail
          go_roundw
          case rel => exact ⟨j + 1, m + 1, A4, c4, _, by go_num, by omega, rfl, by omega, HM4⟩
          case measure => simp [RowKit.intOf]; omega
        · have hi : ¬ ((j : Int) < 66) := by omega
          go_wp2_with (at_builtin; refine wpList_append_ops (by rfl) _ _ (by rfl) (hM.out.row.below (one_below6 wr _)) (Nat.le_trans hM.out.bel.size (one_below6 wr _).size) m hM.out.len (by rfl) (plainsOf [(5, 200, 3), (6, 3, 200), (5, 7, 8), (5, 7, 9)]) 4 rfl ⟨wr.heap.size, 0, none⟩ 4 (by rfl) (fun j u hj => (cells_new wr _ _ j).trans hj) (plains_own _ _) (plains_num _ (by decide)) (by omega) ?_)
          intro A4 c4 w4 hM4 hb4
          have HM4 : Hid (Mkn w w4 A4 c4 (m + 4) _) := hid (hM.out.more hM4 rfl (one_below6 wr _) hb4)
          clear hM4 hb4
          go_wp2_with fail
          refine (runs_at A4 c4 (m + 4) _ (by simpa using HM4.out.len) w4 HM4.out.row.ops).mono ?_
          rintro e w5 ⟨rfl, hb5⟩
          have HB5 := hid hb5
          clear hb5
          go_wp2_with fail
          refine (keeps_at A4 c4 (m + 4) _ (by simpa using HM4.out.len) w5 ((HM4.out.row.ops.below HB5.out).more HB5.out.size)).mono ?_
          rintro e w6 ⟨rfl, hb6⟩
          have HB6 := hid (HB5.out.trans (hb6.mono HB5.out.size))
          clear hb6
          go_wp2_with fail
          go_ret
          exact ⟨rfl, HM4.out.bel.trans (HB6.out.mono HM4.out.bel.size)⟩
end Go.Proofs.Ytckfjkhjnpkobaa
