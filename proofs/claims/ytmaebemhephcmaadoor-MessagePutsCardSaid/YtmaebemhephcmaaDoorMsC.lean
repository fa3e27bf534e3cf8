/- The walks through package message: is a field blank, is a number within its bounds, does a foreign field say something? -/
import Derived.Test.YtmaebemhephcmaaDoorMsB
import Derived.Test.YtmaebemhephcmaaDoorEntsMore
namespace Go.Proofs.YtmaebemhephcmaaDoor.Ms
open Go.RowKit
set_option maxRecDepth 100000

/-- the table of the fields lies where the program's text lays it -/
def Tab (w : World) : Prop := ∀ k, k < 12 → w.cell? ⟨0, k, none⟩ = some (.string (strOf (tab k)))
theorem Tab.below {w w' : World} {B : Nat} (h : Tab w) (hb : Below B w w') (hB : 0 < B) : Tab w' := fun k hk => (hb.cell hB).trans (h k hk)
theorem Tab.pos {w : World} (h : Tab w) : 0 < w.heap.size := World.block_lt_of_cell? _ _ (h 0 (by decide))
/-- the message whose entries lie at A, its data at A', below B -/
structure Is (w : World) (B : Nat) (m : M) (A : Option Addr) (c : Nat) (A' : Option Addr) (c' : Nat) : Prop where
  num : ∀ r ∈ nums, InInt (m.num r)
  es : IsEnts w B A m.es
  ec : m.es.length ≤ c ∧ c ≤ maxLen
  en : A = none → c = 0
  d : IsBytes w B A' m.d
  dc : m.d.length ≤ c' ∧ c' ≤ maxLen
  dn : A' = none → c' = 0
theorem Is.below {w w' : World} {B : Nat} {m : M} {A A' : Option Addr} {c c' : Nat} (h : Is w B m A c A' c') (hb : Below B w w') : Is w' B m A c A' c' := ⟨h.num, h.es.below hb, h.ec, h.en, h.d.below hb, h.dc, h.dn⟩
theorem Is.more {w : World} {B B' : Nat} {m : M} {A A' : Option Addr} {c c' : Nat} (h : Is w B m A c A' c') (hB : B ≤ B') : Is w B' m A c A' c' := ⟨h.num, h.es.more hB, h.ec, h.en, h.d.more hB, h.dc, h.dn⟩
theorem Is.low {w w' : World} {m : M} {A A' : Option Addr} {c c' : Nat} (h : Is w w.heap.size m A c A' c') (hb : Below w.heap.size w w') : Is w' w'.heap.size m A c A' c' := (h.below hb).more hb.size
/-- a number of a message where it lies -/
theorem num_cell (m : M) (A : Option Addr) (c : Nat) (A' : Option Addr) (c' : Nat) (r : Nat) (hr : r ∈ nums) : (#[.int .i64 m.K, .int .i64 m.F, .int .i64 m.T, .int .i64 m.g, .int .i64 m.t, .int .i64 m.i, .int .i64 m.p, .int .i64 m.c, .int .i64 m.r, .int .i64 m.x, .int .i64 m.a, .int .i64 m.b, .int .i64 m.v, .int .i64 m.s, .bool m.ok, .slice A m.es.length c, .slice A' m.d.length c'] : Array Value)[ix r]? = some (.int .i64 (m.num r)) := by
  simp only [nums, List.mem_cons, List.not_mem_nil, or_false] at hr
  rcases hr with rfl | rfl | rfl | rfl | rfl | rfl | rfl | rfl | rfl | rfl | rfl | rfl | rfl | rfl <;> rfl
theorem ix_lt (r : Nat) (hr : r ∈ nums) : ix r < 14 := by
  simp only [nums, List.mem_cons, List.not_mem_nil, or_false] at hr
  rcases hr with rfl | rfl | rfl | rfl | rfl | rfl | rfl | rfl | rfl | rfl | rfl | rfl | rfl | rfl <;> decide

set_option maxHeartbeats 1600000 in
theorem within_any (v : Int) (r : Nat) (w : World) :
    Calls Tryd.prog 62 #[.int .i64 v, .int .i32 (r : Int)] w fun e w' => e = .returned (.bool (within v r)) ∧ w' = w := by
  have fin : ∀ lo hi : Int, ∀ b : Bool, least r = lo → most r = hi → b = (decide (lo ≤ v) && decide (v ≤ hi)) → Ending.returned (.bool b) = .returned (.bool (within v r)) := fun lo hi b h1 h2 h3 => by unfold within; rw [h1, h2, h3]
  have hl : least r = if r = 70 ∨ r = 84 ∨ r = 120 ∨ r = 97 then 1 else 0 := rfl
  have hm : most r = if r = 70 ∨ r = 84 then 199 else if r = 103 ∨ r = 97 then 4 else if r = 118 then 2 else 1099511627776 := rfl
  have F := hid (And.intro fin (And.intro hl hm))
  clear fin hl hm
  by_cases h1 : r = 70 ∨ r = 84
  · have hL : least r = 1 := by rw [F.out.2.1]; first | rw [if_pos (by omega)] | rw [if_neg (by omega)]
    have hM : most r = 199 := by rw [F.out.2.2]; first | rw [if_pos (by omega)] | (rw [if_neg (by omega)]; first | rw [if_pos (by omega)] | (rw [if_neg (by omega)]; first | rw [if_pos (by omega)] | rw [if_neg (by omega)]))
    have G := hid (F.out.1 _ _ · hL hM)
    clear F hL hM
    rcases h1 with rfl | rfl <;>
    · by_cases hv : 1 ≤ v <;> by_cases hv2 : v ≤ 199 <;>
      · go_enter Tryd.func62, Tryd.ntmps62
        go_wp2
        all_goals (go_ret; exact ⟨G.out _ (by simp [*]), rfl⟩)
  by_cases h2 : r = 103
  · have hL : least r = 0 := by rw [F.out.2.1]; first | rw [if_pos (by omega)] | rw [if_neg (by omega)]
    have hM : most r = 4 := by rw [F.out.2.2]; first | rw [if_pos (by omega)] | (rw [if_neg (by omega)]; first | rw [if_pos (by omega)] | (rw [if_neg (by omega)]; first | rw [if_pos (by omega)] | rw [if_neg (by omega)]))
    have G := hid (F.out.1 _ _ · hL hM)
    clear F hL hM
    subst h2
    · by_cases hv : 0 ≤ v <;> by_cases hv2 : v ≤ 4 <;>
      · go_enter Tryd.func62, Tryd.ntmps62
        go_wp2
        all_goals (go_ret; exact ⟨G.out _ (by simp [*]), rfl⟩)
  by_cases h3 : r = 120
  · have hL : least r = 1 := by rw [F.out.2.1]; first | rw [if_pos (by omega)] | rw [if_neg (by omega)]
    have hM : most r = 1099511627776 := by rw [F.out.2.2]; first | rw [if_pos (by omega)] | (rw [if_neg (by omega)]; first | rw [if_pos (by omega)] | (rw [if_neg (by omega)]; first | rw [if_pos (by omega)] | rw [if_neg (by omega)]))
    have G := hid (F.out.1 _ _ · hL hM)
    clear F hL hM
    subst h3
    · by_cases hv : 1 ≤ v <;> by_cases hv2 : v ≤ 1099511627776 <;>
      · go_enter Tryd.func62, Tryd.ntmps62
        go_wp2
        all_goals (go_ret; exact ⟨G.out _ (by simp [*]), rfl⟩)
  by_cases h4 : r = 97
  · have hL : least r = 1 := by rw [F.out.2.1]; first | rw [if_pos (by omega)] | rw [if_neg (by omega)]
    have hM : most r = 4 := by rw [F.out.2.2]; first | rw [if_pos (by omega)] | (rw [if_neg (by omega)]; first | rw [if_pos (by omega)] | (rw [if_neg (by omega)]; first | rw [if_pos (by omega)] | rw [if_neg (by omega)]))
    have G := hid (F.out.1 _ _ · hL hM)
    clear F hL hM
    subst h4
    · by_cases hv : 1 ≤ v <;> by_cases hv2 : v ≤ 4 <;>
      · go_enter Tryd.func62, Tryd.ntmps62
        go_wp2
        all_goals (go_ret; exact ⟨G.out _ (by simp [*]), rfl⟩)
  by_cases h5 : r = 118
  · have hL : least r = 0 := by rw [F.out.2.1]; first | rw [if_pos (by omega)] | rw [if_neg (by omega)]
    have hM : most r = 2 := by rw [F.out.2.2]; first | rw [if_pos (by omega)] | (rw [if_neg (by omega)]; first | rw [if_pos (by omega)] | (rw [if_neg (by omega)]; first | rw [if_pos (by omega)] | rw [if_neg (by omega)]))
    have G := hid (F.out.1 _ _ · hL hM)
    clear F hL hM
    subst h5
    · by_cases hv : 0 ≤ v <;> by_cases hv2 : v ≤ 2 <;>
      · go_enter Tryd.func62, Tryd.ntmps62
        go_wp2
        all_goals (go_ret; exact ⟨G.out _ (by simp [*]), rfl⟩)
  · have hL : least r = 0 := by rw [F.out.2.1, if_neg (by omega)]
    have hM : most r = 1099511627776 := by rw [F.out.2.2, if_neg (by omega), if_neg (by omega), if_neg (by omega)]
    have G := hid (F.out.1 _ _ · hL hM)
    clear F hL hM
    have k1 : (r : Int) ≠ 70 := by omega
    have k2 : (r : Int) ≠ 84 := by omega
    have k3 : (r : Int) ≠ 103 := by omega
    have k4 : (r : Int) ≠ 120 := by omega
    have k5 : (r : Int) ≠ 97 := by omega
    have k6 : (r : Int) ≠ 118 := by omega
    clear h1 h2 h3 h4 h5
    · by_cases hv : 0 ≤ v <;> by_cases hv2 : v ≤ 1099511627776 <;>
      · go_enter Tryd.func62, Tryd.ntmps62
        go_wp2
        all_goals (go_ret; exact ⟨G.out _ (by simp [*]), rfl⟩)

set_option maxHeartbeats 1600000 in
theorem blank_any (m : M) (A : Option Addr) (c : Nat) (A' : Option Addr) (c' : Nat) (r : Nat) (hr : r ∈ nums ∨ r = 111 ∨ r = 101 ∨ r = 100) (w : World) :
    Calls Tryd.prog 60 #[.agg #[.int .i64 m.K, .int .i64 m.F, .int .i64 m.T, .int .i64 m.g, .int .i64 m.t, .int .i64 m.i, .int .i64 m.p, .int .i64 m.c, .int .i64 m.r, .int .i64 m.x, .int .i64 m.a, .int .i64 m.b, .int .i64 m.v, .int .i64 m.s, .bool m.ok, .slice A m.es.length c, .slice A' m.d.length c'], .int .i32 (r : Int)] w fun e w' => e = .returned (.bool (m.blank r)) ∧ Below w.heap.size w w' := by
  by_cases h1 : r = 111
  · subst h1
    go_enter Tryd.func60, Tryd.ntmps60
    go_wp2
    go_ret
    exact ⟨rfl, (Below.refl _ w).alloc (Nat.le_refl _) _⟩
  by_cases h2 : r = 101
  · subst h2
    by_cases h0 : m.es.length = 0 <;>
    · go_enter Tryd.func60, Tryd.ntmps60
      go_wp2
      go_ret
      exact ⟨by simp [M.blank, h0], (Below.refl _ w).alloc (Nat.le_refl _) _⟩
  by_cases h3 : r = 100
  · subst h3
    by_cases h0 : m.d.length = 0 <;>
    · go_enter Tryd.func60, Tryd.ntmps60
      go_wp2
      go_ret
      exact ⟨by simp [M.blank, h0], (Below.refl _ w).alloc (Nat.le_refl _) _⟩
  · have hn : r ∈ nums := by rcases hr with h | h | h | h <;> first | exact h | omega
    have hlt : r < 128 := by
      simp only [nums, List.mem_cons, List.not_mem_nil, or_false] at hn
      omega
    have HB : Hid (m.blank r = decide (m.num r = 0)) := by show _ = _; unfold M.blank; rw [if_neg h1, if_neg h2, if_neg h3]
    have k1 : (r : Int) ≠ 111 := by omega
    have k2 : (r : Int) ≠ 101 := by omega
    have k3 : (r : Int) ≠ 100 := by omega
    have hp : ptr w.heap.size r = some ⟨w.heap.size, ix r, none⟩ := if_pos hn
    have hc : (w.alloc (.cells #[.int .i64 m.K, .int .i64 m.F, .int .i64 m.T, .int .i64 m.g, .int .i64 m.t, .int .i64 m.i, .int .i64 m.p, .int .i64 m.c, .int .i64 m.r, .int .i64 m.x, .int .i64 m.a, .int .i64 m.b, .int .i64 m.v, .int .i64 m.s, .bool m.ok, .slice A m.es.length c, .slice A' m.d.length c'] 25)).cell? ⟨w.heap.size, ix r, none⟩ = some (.int .i64 (m.num r)) := by
      rw [cell_of_row _ w.heap.size (ix r) _ _ (0, 0) (heap_alloc_new w _)]; exact num_cell m A c A' c' r hn
    have hN := number_any w.heap.size r hlt
    rw [hp] at hN
    have HN := hid hN
    clear hN hp h1 h2 h3 hn hr
    go_enter Tryd.func60, Tryd.ntmps60
    go_wp2_with fail
    refine (HN.out _).mono ?_
    rintro e w1 ⟨rfl, rfl⟩
    go_wp2_with fail
    go_ret
    refine ⟨?_, (Below.refl _ w).alloc (Nat.le_refl _) _⟩
    rw [HB.out]
    rfl
end Go.Proofs.YtmaebemhephcmaaDoor.Ms
