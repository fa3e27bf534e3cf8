/- The walk through the chapter's log and what it becomes. -/
import Derived.Test.YthocdknfkmclkaaRlTerms
import Derived.Test.YthocdknfkmclkaaRlE
import Derived.Deep.RegionHeld3
namespace Go.Proofs.Ythocdknfkmclkaa
open Go.RowKit

def lg3 : Rl.Lg := ⟨4, 2, tms [2, 3, 3]⟩
def es4 : List Rl.En := lg3.appE 5 (tms [3, 4, 4])
theorem es4_len : (lg3.appE 5 (tms [3, 4, 4])).length = 4 := by decide
theorem es4_ix : lg3.appI 5 (tms [3, 4, 4]) = 7 := by decide
theorem es4_last : Rl.Lg.last ⟨4, 2, es4⟩ = 8 := by decide
theorem es4_lastT : Rl.Lg.lastT ⟨4, 2, es4⟩ = 4 := by decide
theorem lg3_ok : Rl.Ok lg3 := ⟨⟨by decide, by decide⟩, trivial, by decide⟩
theorem tms_few (l : List Int) : Rl.Few (tms l) := fun e he => by
  unfold tms at he
  rw [List.mem_mapIdx] at he
  obtain ⟨i, h, rfl⟩ := he
  show 1 ≤ 65536
  omega
theorem appE_few {g : Rl.Lg} {i : Int} {M : List Rl.En} (h : Rl.Few g.es) (h' : Rl.Few M) : Rl.Few (g.appE i M) := fun e he => by
  unfold Rl.Lg.appE at he
  split at he
  · rcases List.mem_append.1 he with he | he
    · exact h e (List.mem_of_mem_take he)
    · exact h' e (List.mem_of_mem_drop he)
  · exact h e he
theorem small3 {a b c : Int} (ha : 0 ≤ a ∧ a < 100) (hb : 0 ≤ b ∧ b < 100) (hc : 0 ≤ c ∧ c < 100) : ∀ x ∈ [a, b, c], InInt x := by
  intro x hx
  simp at hx
  unfold InInt
  omega
theorem room3 {w : World} {B N c : Nat} {A : Option Addr} {x y z : Int} (h : OwnE w B N A c (tms [x, y, z])) : 3 ≤ c ∧ c ≤ maxLen := by
  have := h.room
  rw [tms_len] at this
  exact this
theorem room4 {w : World} {B N c : Nat} {A : Option Addr} (h : OwnE w B N A c es4) : 4 ≤ c ∧ c ≤ maxLen := by
  have := h.room
  have e : es4.length = 4 := es4_len
  rw [e] at this
  exact this
/-- a list of three numbers that the text spells out -/
theorem terms_lit (a b c : Int) (ha : 0 ≤ a ∧ a < 100) (hb : 0 ≤ b ∧ b < 100) (hc : 0 ≤ c ∧ c < 100) (w : World) (w' : World) (hw : Below (w.heap.size + 1) (w.alloc (.cells #[.int .i64 a, .int .i64 b, .int .i64 c] 3)) w') :
    Calls Try.prog 29 #[.slice (some ⟨w.heap.size, 0, none⟩) 3 3] w' fun e w'' => ∃ A' c', e = .returned (.slice A' 3 c') ∧ OwnE w'' w'.heap.size w''.heap.size A' c' (tms [a, b, c]) ∧ Below w'.heap.size w' w'' :=
  terms_any (w.heap.size + 1) _ 3 3 [a, b, c] rfl (by omega) w' ((isInts_new w [a, b, c] (small3 ha hb hc) 3 (0, 0)).below hw) (by have := hw.size; simpa using this)

/-- the chapter's log, and entries put behind its index 5 -/
theorem app_lit (w5 : World) (A2 A5 : Option Addr) (c2 c5 : Nat) (h : IsEnts w5 w5.heap.size A2 lg3.es) (hr : 3 ≤ c2 ∧ c2 ≤ maxLen) (hz : A2 = none → c2 = 0) (hE : IsEnts w5 w5.heap.size A5 (tms [3, 4, 4])) (hc : 3 ≤ c5 ∧ c5 ≤ maxLen) :
    Calls Try.prog 25 #[.agg #[.int .i64 4, .int .i64 2, .slice A2 3 c2], .int .i64 5, .slice A5 3 c5] w5 fun e w' => ∃ A6 c6, e = .returned (.tuple #[.agg #[.int .i64 4, .int .i64 2, .slice A6 4 c6], .int .i64 7]) ∧ OwnE w' w5.heap.size w'.heap.size A6 c6 es4 ∧ Below w5.heap.size w5 w' := by
  have h0 := app_any w5.heap.size lg3 A2 A5 c2 c5 5 3 (tms [3, 4, 4]) (tms_len _) (by omega) lg3_ok (tms_few _) (tms_few _) w5 ⟨h, hr, hz, ⟨by show InInt (4 : Int); unfold InInt; omega, by show InInt (2 : Int); unfold InInt; omega⟩⟩ hE hc (Nat.le_refl _)
  rw [es4_len, es4_ix] at h0
  exact h0
theorem last_lit (w5 : World) (A2 : Option Addr) (c2 : Nat) (h : IsEnts w5 w5.heap.size A2 es4) (hr : 4 ≤ c2 ∧ c2 ≤ maxLen) (hz : A2 = none → c2 = 0) :
    Calls Try.prog 12 #[.agg #[.int .i64 4, .int .i64 2, .slice A2 4 c2]] w5 fun e w' => e = .returned (.tuple #[.int .i64 8, .int .i64 4]) ∧ Below w5.heap.size w5 w' := by
  have h0 := last_any w5.heap.size ⟨4, 2, es4⟩ A2 c2 ⟨⟨by decide, by decide⟩, trivial, by show (lg3.appE 5 (tms [3, 4, 4])).length ≤ 50000; rw [es4_len]; omega⟩ w5 ⟨h, by show (lg3.appE 5 (tms [3, 4, 4])).length ≤ c2 ∧ _; rw [es4_len]; exact hr, hz, ⟨by show InInt (4 : Int); unfold InInt; omega, by show InInt (2 : Int); unfold InInt; omega⟩⟩ (Nat.le_refl _)
  rw [es4_last, es4_lastT] at h0
  have e : (⟨4, 2, es4⟩ : Rl.Lg).es.length = 4 := es4_len
  rw [e] at h0
  exact h0

theorem isInts_heap (w : World) (N : Nat) (l : List Int) (hs : ∀ x ∈ l, InInt x) (t : TypeId) (h : w.heap[N]? = some (.cells (ints l).toArray t (0, 0))) : IsInts w w.heap.size (some ⟨N, 0, none⟩) l :=
  ⟨hs, fun _ _ => ⟨N, 0, rfl, (Array.getElem?_eq_some_iff.1 h).1, fun i hi => by
    rw [cell_of_row _ N (0 + i) (ints l).toArray t (0, 0) h, Nat.zero_add, List.getElem?_toArray]
    exact ints_get l i hi⟩⟩
theorem heapA (w : World) (o : Obj) : (w.alloc o).heap[w.heap.size]? = some o := heap_alloc_new w o
theorem heapB (w : World) (o o' : Obj) : ((w.alloc o).alloc o').heap[w.heap.size]? = some o := (heap_alloc_old (w.alloc o) o' (by simp)).trans (heap_alloc_new w o)
theorem heapC (w : World) (o o' : Obj) : ((w.alloc o').alloc o).heap[w.heap.size + 1]? = some o := by
  have := heap_alloc_new (w.alloc o') o
  rwa [World.size_alloc] at this
/-- a box that was made stays while a call makes other memory -/
theorem box_facts {W w5 : World} (hb : Below W.heap.size W w5) (b : Nat) {u0 u1 u2 : Value} {t : TypeId} (h : W.heap[b]? = some (.cells #[u0, u1, u2] t (0, 0))) : (w5.cell? ⟨b, 0, none⟩ = some u0 ∧ w5.cell? ⟨b, 1, none⟩ = some u1 ∧ w5.cell? ⟨b, 2, none⟩ = some u2) ∧ (∀ k, w5.frozen? ⟨b, k, none⟩ = false) ∧ b < w5.heap.size := by
  have hlt := (Array.getElem?_eq_some_iff.1 h).1
  have h5 : w5.heap[b]? = some (.cells #[u0, u1, u2] t (0, 0)) := (hb.block b hlt).trans h
  refine ⟨⟨?_, ?_, ?_⟩, fun k => by simp [World.frozen?, h5], Nat.lt_of_lt_of_le hlt hb.size⟩
  · exact cell_of_row _ b 0 #[u0, u1, u2] t (0, 0) h5
  · exact cell_of_row _ b 1 #[u0, u1, u2] t (0, 0) h5
  · exact cell_of_row _ b 2 #[u0, u1, u2] t (0, 0) h5

/-- the box of a log, and its entries -/
def Leaf (w W : World) (b : Nat) (u0 u1 : Value) (A : Option Addr) (n c : Nat) (L : List Rl.En) : Prop :=
  (W.cell? ⟨b, 0, none⟩ = some u0 ∧ W.cell? ⟨b, 1, none⟩ = some u1 ∧ W.cell? ⟨b, 2, none⟩ = some (.slice A n c)) ∧ IsEnts W W.heap.size A L ∧ Below w.heap.size w W ∧ b < W.heap.size
theorem Leaf.after {w W w7 : World} {b n c : Nat} {u0 u1 : Value} {A : Option Addr} {L : List Rl.En} (h : Leaf w W b u0 u1 A n c L) (hb : Below W.heap.size W w7) : w7.cell? ⟨b, 2, none⟩ = some (.slice A n c) := by
  rw [hb.cell h.2.2.2]; exact h.1.2.2
theorem leaf_alloc {w w3 w6 : World} {N n c : Nat} {A : Option Addr} {L : List Rl.En} (hW : Below w.heap.size w w3) (h6 : Below w3.heap.size w3 w6) (ho : OwnE w6 N w6.heap.size A c L) (u0 u1 : Value) (t : TypeId) : Leaf w (w6.alloc (.cells #[u0, u1, .slice A n c] t)) w6.heap.size u0 u1 A n c L := by
  have h := heap_alloc_new w6 (.cells #[u0, u1, .slice A n c] t)
  refine ⟨⟨cell_of_row _ w6.heap.size 0 _ t (0, 0) h, cell_of_row _ w6.heap.size 1 _ t (0, 0) h, cell_of_row _ w6.heap.size 2 _ t (0, 0) h⟩, (ho.reads.below ((Below.refl _ w6).alloc (Nat.le_refl _) _)).more (by simp), ?_, by simp⟩
  exact (hW.trans (h6.mono hW.size)).alloc (hW.trans (h6.mono hW.size)).size _
theorem leaf_set {w w3 w6 : World} {N n c b : Nat} {A : Option Addr} {L : List Rl.En} {u0 u1 v0 v1 v2 : Value} (hW : Below w.heap.size w w3) (h6 : Below w3.heap.size w3 w6) (ho : OwnE w6 N w6.heap.size A c L) (hb : w3.heap.size ≤ b) (hbN : b < N) (x0 : w6.cell? ⟨b, 0, none⟩ = some v0) (x1 : w6.cell? ⟨b, 1, none⟩ = some v1) (x2 : w6.cell? ⟨b, 2, none⟩ = some v2) :
    Leaf w (((w6.setCell ⟨b, 0, none⟩ u0).setCell ⟨b, 1, none⟩ u1).setCell ⟨b, 2, none⟩ (.slice A n c)) b u0 u1 A n c L := by
  have T := Turned.three w6 b 0 1 2 u0 u1 (.slice A n c)
  have hlt : b < w6.heap.size := World.block_lt_of_cell? _ _ x0
  have n1 : ∀ (i j : Nat), i ≠ j → (⟨b, i, none⟩ : Addr) ≠ ⟨b, j, none⟩ := fun i j h e => by injection e with _ e; exact h e
  have k1 : (w6.setCell ⟨b, 0, none⟩ u0).cell? ⟨b, 0, none⟩ = some u0 := World.cell?_setCell_same _ _ _ x0
  have k2 : ((w6.setCell ⟨b, 0, none⟩ u0).setCell ⟨b, 1, none⟩ u1).cell? ⟨b, 1, none⟩ = some u1 := World.cell?_setCell_same _ _ _ ((World.cell?_setCell_other _ _ _ _ (n1 0 1 (by decide))).trans x1)
  refine ⟨⟨?_, ?_, ?_⟩, ?_, ?_, Nat.lt_of_lt_of_le hlt T.size⟩
  · rw [World.cell?_setCell_other _ _ _ _ (n1 2 0 (by decide)), World.cell?_setCell_other _ _ _ _ (n1 1 0 (by decide)), k1]
  · rw [World.cell?_setCell_other _ _ _ _ (n1 2 1 (by decide)), k2]
  · exact World.cell?_setCell_same _ _ _ ((World.cell?_setCell_other _ _ _ _ (n1 1 2 (by decide))).trans ((World.cell?_setCell_other _ _ _ _ (n1 0 2 (by decide))).trans x2))
  · exact ((ho.keep T (fun k hk hB => by have hk : k = b := hk; have := hB.1; omega)).reads).more T.size
  · exact (hW.trans (h6.mono hW.size)).trans (T.below (hW.trans (h6.mono hW.size)).size (fun k hk => by have hk : k = b := hk; have := hW.size; omega))

set_option maxHeartbeats 1600000 in
set_option maxRecDepth 100000 in
theorem known_any (w : World) : Calls Try.prog 10 #[] w fun e w' => e = .returned (.bool true) ∧ Below w.heap.size w w' := by
  have HT := hid (terms_lit 2 3 3 (by omega) (by omega) (by omega) w _ (Below.refl _ _))
  have HB1 := hid (show Below w.heap.size w (w.alloc (.cells #[.int .i64 2, .int .i64 3, .int .i64 3] 3)) from (Below.refl _ w).alloc (Nat.le_refl _) _)
  go_enter Try.func10, Try.ntmps10
  go_wp2_with fail
  refine HT.out.mono ?_
  rintro e w2 ⟨A2, c2, rfl, ho2, hb2⟩
  have HO2 := hid ho2
  have HR2 := hid (room3 ho2)
  have HB2 := hid (HB1.out.trans (hb2.mono HB1.out.size))
  clear ho2 hb2 HT HB1
  go_wp2_with fail
  obtain ⟨w3, hw3⟩ : ∃ w3, w3 = w2.alloc (.cells #[.int .i64 4, .int .i64 2, .slice A2 3 c2] 24) := ⟨_, rfl⟩
  rw [← hw3]
  have hb3 : Below w2.heap.size w2 w3 := by rw [hw3]; exact (Below.refl _ w2).alloc (Nat.le_refl _) _
  have hs3 : w3.heap.size = w2.heap.size + 1 := by rw [hw3]; simp
  have HK : Hid (∀ w', Below w3.heap.size w3 w' → w'.cell? ⟨w2.heap.size, 0, none⟩ = some (.int .i64 4) ∧ w'.cell? ⟨w2.heap.size, 1, none⟩ = some (.int .i64 2) ∧ w'.cell? ⟨w2.heap.size, 2, none⟩ = some (.slice A2 3 c2)) := hid (fun w' hb => by
    refine ⟨?_, ?_, ?_⟩
    · rw [hb.cell (by show w2.heap.size < _; omega), hw3]; simp
    · rw [hb.cell (by show w2.heap.size < _; omega), hw3]; simp
    · rw [hb.cell (by show w2.heap.size < _; omega), hw3]; simp)
  have HT3 : Hid (∀ w' N, Below w3.heap.size w3 w' → w'.heap[N]? = some (.cells #[.int .i64 3, .int .i64 4, .int .i64 4] 3 (0, 0)) → Calls Try.prog 29 #[.slice (some ⟨N, 0, none⟩) 3 3] w' fun e w'' => ∃ A' c', e = .returned (.slice A' 3 c') ∧ OwnE w'' w'.heap.size w''.heap.size A' c' (tms [3, 4, 4]) ∧ Below w'.heap.size w' w'' ∧ Below w3.heap.size w3 w'') := hid (fun w' N hb hi => (terms_any w'.heap.size _ 3 3 [3, 4, 4] rfl (by omega) w' (isInts_heap w' N [3, 4, 4] (small3 (by omega) (by omega) (by omega)) 3 hi) (Nat.le_refl _)).mono fun e w'' ⟨A', c', h1, h2, h3⟩ => ⟨A', c', h1, h2, h3, hb.trans (h3.mono hb.size)⟩)
  have HA : Hid (∀ w5, Below w3.heap.size w3 w5 → ∀ A5 c5, IsEnts w5 w5.heap.size A5 (tms [3, 4, 4]) → (3 ≤ c5 ∧ c5 ≤ maxLen) → Calls Try.prog 25 #[.agg #[.int .i64 4, .int .i64 2, .slice A2 3 c2], .int .i64 5, .slice A5 3 c5] w5 fun e w' => ∃ A6 c6, e = .returned (.tuple #[.agg #[.int .i64 4, .int .i64 2, .slice A6 4 c6], .int .i64 7]) ∧ OwnE w' w5.heap.size w'.heap.size A6 c6 es4 ∧ Below w5.heap.size w5 w') := hid (fun w5 h5 A5 c5 hE hc => app_lit w5 A2 A5 c2 c5 (((HO2.out.below (hb3.trans (h5.mono (by omega)))).reads).more (by have := h5.size; omega)) HR2.out HO2.out.none_ hE hc)
  have HK3 : Hid (∀ w' b u v x, Below w3.heap.size w3 w' → w3.heap.size ≤ b → (((w'.setCell ⟨b, 0, none⟩ u).setCell ⟨b, 1, none⟩ v).setCell ⟨b, 2, none⟩ x).cell? ⟨w2.heap.size, 0, none⟩ = some (.int .i64 4) ∧ (((w'.setCell ⟨b, 0, none⟩ u).setCell ⟨b, 1, none⟩ v).setCell ⟨b, 2, none⟩ x).cell? ⟨w2.heap.size, 1, none⟩ = some (.int .i64 2) ∧ (((w'.setCell ⟨b, 0, none⟩ u).setCell ⟨b, 1, none⟩ v).setCell ⟨b, 2, none⟩ x).cell? ⟨w2.heap.size, 2, none⟩ = some (.slice A2 3 c2)) := hid (fun w' b u v x hb hl => HK.out _ (hb.trans ((Turned.three w' b 0 1 2 u v x).below hb.size (fun k hk => by have hk : k = b := hk; omega))))
  have HBW := hid (HB2.out.trans (hb3.mono HB2.out.size))
  clear hw3 hb3 hs3
  go_region_held3 (fun w' => w'.cell? ⟨w2.heap.size, 0, none⟩ = some (.int .i64 4) ∧ w'.cell? ⟨w2.heap.size, 1, none⟩ = some (.int .i64 2) ∧ w'.cell? ⟨w2.heap.size, 2, none⟩ = some (.slice A2 3 c2))
    (first | (refine HK.out _ ?_; go_grown; done) | exact HK.out _ hb6.out | exact HK.out _ hb5.out | exact HK.out _ (hb5.out.alloc hb5.out.size _) | exact HK.out _ (hb6.out.alloc hb6.out.size _) | exact HK3.out _ _ _ _ _ hb6.out (Nat.le_refl _) | exact HK3.out _ _ _ _ _ hb6.out (Nat.le_succ _) | exact HK3.out _ _ _ _ _ hb6.out hb5.out.size | fail)
    (first
      | (go_at_call 29; (with_reducible refine (HT3.out _ _ ?hx1 ?hx2).mono ?_); (case hx1 => go_grown); (case hx2 => first | exact heapA _ _ | exact heapB _ _ _ | exact heapC _ _ _); rintro e w5 ⟨A5, c5, rfl, ho5', hb5', hb5''⟩; have hE5 := hid ho5'.reads; have hc5 := hid (room3 ho5'); have hb5 := hid hb5''; (try (have bx := box_facts hb5' w3.heap.size (u0 := .int .i64 0) (u1 := .int .i64 0) (u2 := .slice none 0 0) (t := 24) (by first | exact heapB _ _ _ | exact heapC _ _ _); obtain ⟨⟨xa0, xa1, xa2⟩, xaf, xal⟩ := bx)); (try (have bx := box_facts hb5' (w3.heap.size + 1) (u0 := .int .i64 0) (u1 := .int .i64 0) (u2 := .slice none 0 0) (t := 24) (by first | exact heapB _ _ _ | exact heapC _ _ _); obtain ⟨⟨xa0, xa1, xa2⟩, xaf, xal⟩ := bx)); clear ho5' hb5' hb5'')
      | (go_at_call 25; (with_reducible refine (HA.out w5 hb5.out A5 c5 hE5.out hc5.out).mono ?_); rintro e w6 ⟨A6, c6, rfl, ho6', hb6'⟩; have ho6 := hid ho6'; have hr6 := hid (room4 ho6'); have hz6 := hid ho6'.none_; have hb6 := hid (hb5.out.trans (hb6'.mono hb5.out.size)); (try (have xb0 := (hb6'.cell (p := ⟨w3.heap.size, 0, none⟩) xal).trans xa0; have xb1 := (hb6'.cell (p := ⟨w3.heap.size, 1, none⟩) xal).trans xa1; have xb2 := (hb6'.cell (p := ⟨w3.heap.size, 2, none⟩) xal).trans xa2; have xbf := fun k => (hb6'.frozen (p := ⟨w3.heap.size, k, none⟩) xal).trans (xaf k))); (try (have xb0 := (hb6'.cell (p := ⟨w3.heap.size + 1, 0, none⟩) xal).trans xa0; have xb1 := (hb6'.cell (p := ⟨w3.heap.size + 1, 1, none⟩) xal).trans xa1; have xb2 := (hb6'.cell (p := ⟨w3.heap.size + 1, 2, none⟩) xal).trans xa2; have xbf := fun k => (hb6'.frozen (p := ⟨w3.heap.size + 1, k, none⟩) xal).trans (xaf k))); clear ho6' hb6')
      | (go_at_call 25; (with_reducible refine (HA.out (w5.alloc (.cells #[.int .i64 0, .int .i64 0, .slice none 0 0] 24)) (hb5.out.alloc hb5.out.size _) A5 c5 ((hE5.out.below ((Below.refl _ w5).alloc (Nat.le_refl _) _)).more (by simp)) hc5.out).mono ?_); rintro e w6 ⟨A6, c6, rfl, ho6', hb6'⟩; have ho6 := hid ho6'; have hr6 := hid (room4 ho6'); have hz6 := hid ho6'.none_; have hb6 := hid ((hb5.out.alloc hb5.out.size _).trans (hb6'.mono (hb5.out.alloc hb5.out.size (.cells #[.int .i64 0, .int .i64 0, .slice none 0 0] 24)).size)); (have bx := box_facts hb6' w5.heap.size (u0 := .int .i64 0) (u1 := .int .i64 0) (u2 := .slice none 0 0) (t := 24) (heapA _ _); obtain ⟨⟨xb0, xb1, xb2⟩, xbf, xbl⟩ := bx); clear ho6' hb6'))
  all_goals
    (first
      | (have HL0 := leaf_set (n := 4) (b := w5.heap.size) (u0 := .int .i64 4) (u1 := .int .i64 2) HBW.out hb6.out ho6.out hb5.out.size (by simp) xb0 xb1 xb2
         generalize ((w6.setCell ⟨w5.heap.size, 0, none⟩ (.int .i64 4)).setCell ⟨w5.heap.size, 1, none⟩ (.int .i64 2)).setCell ⟨w5.heap.size, 2, none⟩ (.slice A6 4 c6) = W at HL0 ⊢)
      | (have HL0 := leaf_set (n := 4) (b := w3.heap.size) (u0 := .int .i64 4) (u1 := .int .i64 2) HBW.out hb6.out ho6.out (Nat.le_refl _) xal xb0 xb1 xb2
         generalize ((w6.setCell ⟨w3.heap.size, 0, none⟩ (.int .i64 4)).setCell ⟨w3.heap.size, 1, none⟩ (.int .i64 2)).setCell ⟨w3.heap.size, 2, none⟩ (.slice A6 4 c6) = W at HL0 ⊢)
      | (have HL0 := leaf_set (n := 4) (b := w3.heap.size + 1) (u0 := .int .i64 4) (u1 := .int .i64 2) HBW.out hb6.out ho6.out (Nat.le_succ _) xal xb0 xb1 xb2
         generalize ((w6.setCell ⟨w3.heap.size + 1, 0, none⟩ (.int .i64 4)).setCell ⟨w3.heap.size + 1, 1, none⟩ (.int .i64 2)).setCell ⟨w3.heap.size + 1, 2, none⟩ (.slice A6 4 c6) = W at HL0 ⊢)
      | (have HL0 := leaf_alloc (n := 4) HBW.out hb6.out ho6.out (.int .i64 4) (.int .i64 2) 24
         generalize w6.alloc (.cells #[.int .i64 4, .int .i64 2, .slice A6 4 c6] 24) = W at HL0 ⊢))
  all_goals
    (have HLF := hid HL0
     obtain ⟨⟨l0, l1, l2⟩, hI, hBW, _⟩ := HL0
     have HC := hid (last_lit W A6 c6 hI hr6.out hz6.out)
     have HQ := hid hBW
     clear hI hBW
     go_wp2_with fail
     refine HC.out.mono ?_
     rintro e w7 ⟨rfl, hb7⟩
     have q2 := HLF.out.after hb7
     have H7 := hid (HQ.out.trans (hb7.mono HQ.out.size))
     clear hb7 l0 l1 l2
     go_wp2_with fail
     go_ret
     exact ⟨rfl, H7.out⟩)
end Go.Proofs.Ythocdknfkmclkaa
