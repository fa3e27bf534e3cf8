/- Texts of the proof, one behind the other: CkB, DiskE, DiskD. -/
import Derived.Test.YtdgijnolpjaheaaGreatPartAH
import Derived.Test.YtdgijnolpjaheaaGreatPartAD
import Derived.Deep.RegionHeld3
import Derived.Deep.RegionWith
namespace Go.Proofs.YtdgijnolpjaheaaGreat
open Go.RowKit

/-- a row of bytes' slices at block g, of which the first k have the bytes that T says, which lie in no block of Z -/
structure PartRows (w : World) (Z : Nat → Prop) (g n k : Nat) (T : Nat → List Nat) : Prop where
  row : ∃ vs : Array Value, w.heap[g]? = some (.cells vs 23 (0, 0)) ∧ vs.size = n ∧ ∀ i, i < k → ∃ A c, vs[i]? = some (.slice A (T i).length c) ∧ OwnsZ w Z A c (T i)
namespace PartRows
variable {w w' : World} {Z Z' : Nat → Prop} {g n k : Nat} {T : Nat → List Nat}
theorem lt (h : PartRows w Z g n k T) : g < w.heap.size := by obtain ⟨vs, h1, _⟩ := h.row; exact row_lt h1
theorem keep (h : PartRows w Z g n k T) (ht : Turned Z w w') (hg : ¬ Z g) : PartRows w' Z g n k T := by
  obtain ⟨vs, h1, h2, h3⟩ := h.row
  refine ⟨vs, (ht.block g (row_lt h1) hg).trans h1, h2, fun i hi => ?_⟩
  obtain ⟨A, c, h4, h5⟩ := h3 i hi
  exact ⟨A, c, h4, h5.keep ht⟩
theorem mono (h : PartRows w Z g n k T) (hz : ∀ j, Z' j → Z j) : PartRows w Z' g n k T := by
  obtain ⟨vs, h1, h2, h3⟩ := h.row
  refine ⟨vs, h1, h2, fun i hi => ?_⟩
  obtain ⟨A, c, h4, h5⟩ := h3 i hi
  exact ⟨A, c, h4, h5.mono hz⟩
theorem shun (h : PartRows w Z g n k T) : PartRows w (fun j => Z j ∨ w.heap.size ≤ j) g n k T := by
  obtain ⟨vs, h1, h2, h3⟩ := h.row
  refine ⟨vs, h1, h2, fun i hi => ?_⟩
  obtain ⟨A, c, h4, h5⟩ := h3 i hi
  exact ⟨A, c, h4, h5.shun⟩
/-- behind what has turned new blocks alone -/
theorem later (h : PartRows w Z g n k T) (hb : Below w.heap.size w w') : PartRows w' Z g n k T := by
  obtain ⟨vs, h1, h2, h3⟩ := h.row
  refine ⟨vs, (hb.block g (row_lt h1)).trans h1, h2, fun i hi => ?_⟩
  obtain ⟨A, c, h4, h5⟩ := h3 i hi
  exact ⟨A, c, h4, h5.keep (Turned.ofBelow _ hb)⟩
theorem set_ (h : PartRows w Z g n k T) (hk : k < n) {A : Option Addr} {c m : Nat} (hm : (T k).length = m) (hA : OwnsZ w Z A c (T k)) : PartRows (w.setCell ⟨g, k, none⟩ (.slice A m c)) Z g n (k + 1) T := by
  subst hm
  obtain ⟨vs, h1, h2, h3⟩ := h.row
  have hel : ∀ A c l, OwnsZ w Z A c l → OwnsZ (w.setCell ⟨g, k, none⟩ (.slice A (T k).length c)) Z A c l := fun A c l hA =>
    ((hA.shunTag h1 (fun cur e => by have h6 := (Obj.cells.inj e).2.1; revert h6; decide)).keep ((Turned.one _ _ _ _).mono (fun j e => .inr e))).mono (fun _ h => .inl h)
  have hel2 : ∀ (v : Value) A c l, OwnsZ w Z A c l → OwnsZ (w.setCell ⟨g, k, none⟩ v) Z A c l := fun v A c l hA =>
    ((hA.shunTag h1 (fun cur e => by have h6 := (Obj.cells.inj e).2.1; revert h6; decide)).keep ((Turned.one _ _ _ _).mono (fun j e => .inr e))).mono (fun _ h => .inl h)
  refine ⟨_, row_set h1 k _, by simp [h2], fun i hi => ?_⟩
  by_cases hik : i = k
  · subst hik
    exact ⟨A, c, by simp [h2, hk], hel2 _ _ _ _ hA⟩
  · obtain ⟨A', c', h4, h5⟩ := h3 i (by omega)
    refine ⟨A', c', ?_, hel2 _ _ _ _ h5⟩
    rw [Array.getElem?_setIfInBounds_ne (by omega)]
    exact h4
end PartRows
theorem part_made {w w1 : World} {B n : Nat} {T : Nat → List Nat} {Z : Nat → Prop} (h : w1.ownsRow B 23 1 (.slice (some ⟨w.heap.size, 0, none⟩) n n) n (madeCells #[Value.slice none 0 0] n).toList) : PartRows w1 Z w.heap.size n 0 T := by
  rcases h.2 with ⟨h0, _⟩ | ⟨g, cap, cur, h1, _, h3, _, _, h4, _⟩
  · cases h0
  · have e1 : w.heap.size = g := by injection h1 with h1; injection h1 with h1; injection h1
    have e2 : n = cap := by injection h1
    subst e1
    subst e2
    exact ⟨cur, h3, by omega, fun i hi => by omega⟩
namespace C
theorem piece_is {w : World} {B b off : Nat} {p : List Nat} (h : IsBytes w B (some ⟨b, off, none⟩) p) (k : Nat) : IsBytes w B (some ⟨b, off + 40 * k, none⟩) (Jo.piece p k) := (h.from (40 * k)).take 40
theorem piece_at {w : World} {B : Nat} {a : Addr} {p : List Nat} (h : IsBytes w B (some a) p) (k : Nat) : IsBytes w B (some (a.add (40 * k))) (Jo.piece p k) := by
  rcases p with _ | ⟨x, p⟩
  · rw [show Jo.piece [] k = [] from by simp [Jo.piece]]; exact IsBytes.nil
  · obtain ⟨b, off, e, _, _⟩ := h.cells 0 (by simp)
    injection e with e
    subst e
    rw [add_off]
    exact piece_is h k
theorem packInt_N (B : Nat) (A : Option Addr) (c : Nat) (l : List Nat) (n m : Nat) (hl : l.length = n) (hm : n + 8 = m) (hn : n ≤ 1000) (v : Int) (hv : InInt v) (w : World) (h : IsBytes w B A l) (hB : B ≤ w.heap.size) (hz : A = none → c = 0) :
    Calls Tryz.prog 65 #[.slice A n c, .int .i64 v] w fun e w' => ∃ A' c', e = .returned (.slice A' m c') ∧ OwnsB 5 w' w.heap.size A' c' (l ++ Pk.enc v) ∧ Below w.heap.size w w' := by
  subst hl
  subst hm
  exact packInt_any B A c l v hv (by omega) w h hB hz
set_option maxRecDepth 100000 in
set_option maxHeartbeats 2000000 in
theorem sectors_none (e : Int) (he : InInt e) (A : Option Addr) (w : World) :
    Calls Tryz.prog 47 #[.int .i64 e, .slice A 0 0] w fun e' w' => e' = .returned (.slice (some ⟨w.heap.size, 0, none⟩) 1 1) ∧
      Hid (PartRows w' (fun k => k < w.heap.size) w.heap.size 1 1 (Jo.sec e 0 []) ∧ Below w.heap.size w w') := by
  obtain ⟨i0, hi, hz0, hz1, hz2⟩ := info_parts info_bytes
  obtain ⟨i1, hj, hj0, hj1, hj2⟩ := info_parts info_u8
  have HX := hid he
  have HPI := hid (pieces_any 0 (by omega) w)
  clear he
  go_enter Tryz.func47, Tryz.ntmps47
  go_wp2_with fail
  refine HPI.out.mono ?_
  rintro e1 w1 ⟨rfl, rfl⟩
  go_wp2_with (at_make; refine wpList_make_full _ rfl _ _ 46 rfl w1.heap.size 23 i0 (.slice none 0 0) 1 Tryz.underlying46 hi hz0 hz1 .i64 .i64 1 1 1 rfl rfl rfl rfl ?c1 ?c2 (Nat.le_refl _) ?_)
  case c1 => rw [hz2]; omega
  case c2 => unfold maxLen; omega
  intro w2 hown hgrow
  have HP := hid (And.intro (part_made (w := w1) (T := Jo.sec e 0 []) (Z := fun k => k < w1.heap.size) hown) ((Below.refl w1.heap.size w1).grown hgrow (Nat.le_refl _) (fun g hg => by cases hg)))
  clear hown hgrow
  go_wp2_with fail
  go_loopw [15] (fun i wr => (i = .int .i64 0 ∧ Hid (PartRows wr (fun j => j < w1.heap.size) w1.heap.size 1 0 (Jo.sec e 0 []) ∧ Below w1.heap.size w1 wr)) ∨ (i = .int .i64 1 ∧ Hid (PartRows wr (fun j => j < w1.heap.size) w1.heap.size 1 1 (Jo.sec e 0 []) ∧ Below w1.heap.size w1 wr))) (fun i _ => (1 - RowKit.intOf i).toNat)
  case atStart => exact .inl ⟨rfl, HP⟩
  case round =>
    rcases hrel with ⟨rfl, HI⟩ | ⟨rfl, HI⟩
    · rcases A with _ | a
      · go_wp2_with fail
        refine (packInt_N wr.heap.size none 0 [] 0 8 rfl rfl (by omega) e HX.out wr IsBytes.nil (Nat.le_refl _) (fun _ => rfl)).mono ?_
        rintro e3 w3 ⟨A3, c3, rfl, hown3, hb3⟩
        have HB3 := hid hb3
        have H4 := hid (packInt_N w3.heap.size A3 c3 ([] ++ Pk.enc e) 8 16 rfl rfl (by omega) 0 (by unfold InInt; omega) w3 hown3.reads (Nat.le_refl _) hown3.none_)
        clear hown3 hb3
        go_wp2_with fail
        refine H4.out.mono ?_
        rintro e4 w4 ⟨A4, c4, rfl, hown4, hb4⟩
        have HB4 := hid (HB3.out.trans (hb4.mono HB3.out.size))
        have HO4 := hid hown4
        clear hown4 hb4 H4
        go_wp2_with fail
        refine (mark_any 0 true (by omega) w4).mono ?_
        rintro e5 w5 ⟨rfl, rfl⟩
        have H6 := hid (packInt_N w5.heap.size A4 c4 ([] ++ Pk.enc e ++ Pk.enc 0) 16 24 rfl rfl (by omega) (Jo.mark 0 true : Nat) (by unfold InInt Jo.mark; split <;> omega) w5 HO4.out.reads (Nat.le_refl _) HO4.out.none_)
        clear HO4
        go_wp2_with fail
        refine H6.out.mono ?_
        rintro e6 w6 ⟨A6, c6, rfl, hown6, hb6⟩
        have HB6 := hid (HB4.out.trans (hb6.mono HB4.out.size))
        have HO6 := hid (hown6.weaken (base' := wr.heap.size) HB4.out.size)
        clear hown6 hb6 H6
        have HPc : Hid (IsBytes w6 w1.heap.size none []) := hid IsBytes.nil
        go_wp2_with (at_builtin; refine wpList_append_bytesN rfl _ _ 23 rfl wr.heap.size 5 i1 Tryz.underlying23 hj hj0 hj1 hj2 A6 c6 ([] ++ Pk.enc e ++ Pk.enc 0 ++ Pk.enc (Jo.mark 0 true : Nat)) 24 rfl rfl HO6.out w1.heap.size none 0 [] 0 rfl rfl (fun _ => rfl) HPc.out (Jo.sec e 0 [] 0) (by simp [Jo.sec, Jo.head, Jo.piece, show Jo.lastAt [] 0 = true from rfl]) ?m2 HB6.out.size ?_)
        case m2 => omega
        intro A7 c7 w7 hown7 hb7
        have hb7' : Below wr.heap.size wr w7 := HB6.out.trans hb7
        have hP7 := HI.out.1.later hb7'
        have hg7 : w1.heap.size < wr.heap.size := HI.out.1.lt
        obtain ⟨vs, hv1, hv2, _⟩ := hP7.row
        have hcell : w7.cell? ⟨w1.heap.size, 0, none⟩ = some (vs[0]'(by omega)) := by rw [row_cell hv1]; exact Array.getElem?_eq_getElem _
        have hfr : w7.frozen? ⟨w1.heap.size, 0, none⟩ = false := row_free hv1 0
        have hlen : (Jo.sec e 0 [] 0).length = 24 := rfl
        have HS := hid (And.intro (hP7.set_ (by omega) hlen ((OwnsZ.of hown7).mono (fun j hj => by omega))) ((HI.out.2.trans (hb7'.mono HI.out.2.size)).setCell (p := ⟨w1.heap.size, 0, none⟩) (Nat.le_refl _) (.slice A7 (24) c7)))
        clear hown7 hb7 hb7' hP7 hv1 hlen
        go_wp2_with fail
        go_roundw
        case rel => exact .inr ⟨rfl, HS⟩
        case measure => simp [RowKit.intOf]
      · go_wp2_with fail
        refine (packInt_N wr.heap.size none 0 [] 0 8 rfl rfl (by omega) e HX.out wr IsBytes.nil (Nat.le_refl _) (fun _ => rfl)).mono ?_
        rintro e3 w3 ⟨A3, c3, rfl, hown3, hb3⟩
        have HB3 := hid hb3
        have H4 := hid (packInt_N w3.heap.size A3 c3 ([] ++ Pk.enc e) 8 16 rfl rfl (by omega) 0 (by unfold InInt; omega) w3 hown3.reads (Nat.le_refl _) hown3.none_)
        clear hown3 hb3
        go_wp2_with fail
        refine H4.out.mono ?_
        rintro e4 w4 ⟨A4, c4, rfl, hown4, hb4⟩
        have HB4 := hid (HB3.out.trans (hb4.mono HB3.out.size))
        have HO4 := hid hown4
        clear hown4 hb4 H4
        go_wp2_with fail
        refine (mark_any 0 true (by omega) w4).mono ?_
        rintro e5 w5 ⟨rfl, rfl⟩
        have H6 := hid (packInt_N w5.heap.size A4 c4 ([] ++ Pk.enc e ++ Pk.enc 0) 16 24 rfl rfl (by omega) (Jo.mark 0 true : Nat) (by unfold InInt Jo.mark; split <;> omega) w5 HO4.out.reads (Nat.le_refl _) HO4.out.none_)
        clear HO4
        go_wp2_with fail
        refine H6.out.mono ?_
        rintro e6 w6 ⟨A6, c6, rfl, hown6, hb6⟩
        have HB6 := hid (HB4.out.trans (hb6.mono HB4.out.size))
        have HO6 := hid (hown6.weaken (base' := wr.heap.size) HB4.out.size)
        clear hown6 hb6 H6
        have HPc : Hid (IsBytes w6 w1.heap.size (some a) []) := hid IsBytes.nil
        go_wp2_with (at_builtin; refine wpList_append_bytesN rfl _ _ 23 rfl wr.heap.size 5 i1 Tryz.underlying23 hj hj0 hj1 hj2 A6 c6 ([] ++ Pk.enc e ++ Pk.enc 0 ++ Pk.enc (Jo.mark 0 true : Nat)) 24 rfl rfl HO6.out w1.heap.size (some a) 0 [] 0 rfl rfl (fun _ => rfl) HPc.out (Jo.sec e 0 [] 0) (by simp [Jo.sec, Jo.head, Jo.piece, show Jo.lastAt [] 0 = true from rfl]) ?m2 HB6.out.size ?_)
        case m2 => omega
        intro A7 c7 w7 hown7 hb7
        have hb7' : Below wr.heap.size wr w7 := HB6.out.trans hb7
        have hP7 := HI.out.1.later hb7'
        have hg7 : w1.heap.size < wr.heap.size := HI.out.1.lt
        obtain ⟨vs, hv1, hv2, _⟩ := hP7.row
        have hcell : w7.cell? ⟨w1.heap.size, 0, none⟩ = some (vs[0]'(by omega)) := by rw [row_cell hv1]; exact Array.getElem?_eq_getElem _
        have hfr : w7.frozen? ⟨w1.heap.size, 0, none⟩ = false := row_free hv1 0
        have hlen : (Jo.sec e 0 [] 0).length = 24 := rfl
        have HS := hid (And.intro (hP7.set_ (by omega) hlen ((OwnsZ.of hown7).mono (fun j hj => by omega))) ((HI.out.2.trans (hb7'.mono HI.out.2.size)).setCell (p := ⟨w1.heap.size, 0, none⟩) (Nat.le_refl _) (.slice A7 (24) c7)))
        clear hown7 hb7 hb7' hP7 hv1 hlen
        go_wp2_with fail
        go_roundw
        case rel => exact .inr ⟨rfl, HS⟩
        case measure => simp [RowKit.intOf]
    · go_wp2_with fail
      go_ret
      exact ⟨rfl, HI⟩
set_option maxRecDepth 100000 in
set_option maxHeartbeats 2000000 in
theorem sectors_some (e : Int) (he : InInt e) (a : Addr) (c : Nat) (p : List Nat) (n : Nat) (hn : p.length = n) (hc : n ≤ c) (hcm : c ≤ maxLen) (hz : 0 < c) (hl : n ≤ 1000000) (w : World) (h : IsBytes w w.heap.size (some a) p) :
    Calls Tryz.prog 47 #[.int .i64 e, .slice (some a) n c] w fun e' w' => e' = .returned (.slice (some ⟨w.heap.size, 0, none⟩) (Jo.secs n) (Jo.secs n)) ∧
      Hid (PartRows w' (fun k => k < w.heap.size) w.heap.size (Jo.secs n) (Jo.secs n) (Jo.sec e 0 p) ∧ Below w.heap.size w w') := by
  obtain ⟨i0, hi, hz0, hz1, hz2⟩ := info_parts info_bytes
  obtain ⟨i1, hj, hj0, hj1, hj2⟩ := info_parts info_u8
  have hsn : Jo.secs n ≤ 30000 := by unfold Jo.secs; omega
  have hsp := Jo.secs_pos n
  have HX := hid (And.intro (And.intro hn (And.intro hc (And.intro hcm hz))) (And.intro he h))
  clear hn hcm h
  go_enter Tryz.func47, Tryz.ntmps47
  go_wp2_with fail
  refine (pieces_any n (by omega) w).mono ?_
  rintro e1 w1 ⟨rfl, rfl⟩
  go_wp2_with (at_make; refine wpList_make_full _ rfl _ _ 46 rfl w1.heap.size 23 i0 (.slice none 0 0) 1 Tryz.underlying46 hi hz0 hz1 .i64 .i64 (Jo.secs n : Nat) (Jo.secs n : Nat) (Jo.secs n) rfl rfl rfl rfl ?c1 ?c2 (Nat.le_refl _) ?_)
  case c1 => rw [hz2]; omega
  case c2 => unfold maxLen; omega
  intro w2 hown hgrow
  have HP := hid (And.intro (part_made (w := w1) (T := Jo.sec e 0 p) (Z := fun k => k < w1.heap.size) hown) ((Below.refl w1.heap.size w1).grown hgrow (Nat.le_refl _) (fun g hg => by cases hg)))
  clear hown hgrow
  go_wp2_with fail
  go_loopw [15] (fun i wr => ∃ k : Nat, k ≤ Jo.secs n ∧ i = .int .i64 (k : Int) ∧ Hid (PartRows wr (fun j => j < w1.heap.size) w1.heap.size (Jo.secs n) k (Jo.sec e 0 p) ∧ Below w1.heap.size w1 wr)) (fun i _ => ((Jo.secs n : Nat) - RowKit.intOf i).toNat)
  case atStart => exact ⟨0, by omega, rfl, HP⟩
  case round =>
    obtain ⟨k, hk, rfl, HI⟩ := hrel
    by_cases hlt : k < Jo.secs n
    · have hk0 : (k : Int) < ((Jo.secs n : Nat) : Int) := by omega
      have hkn : 40 * k ≤ n := by unfold Jo.secs at hlt; omega
      have hck2 : 40 * k < c := by unfold Jo.secs at hlt; omega
      go_wp2_with fail
      refine (packInt_N wr.heap.size none 0 [] 0 8 rfl rfl (by omega) e HX.out.2.1 wr IsBytes.nil (Nat.le_refl _) (fun _ => rfl)).mono ?_
      rintro e3 w3 ⟨A3, c3, rfl, hown3, hb3⟩
      have HB3 := hid hb3
      have H4 := hid (packInt_N w3.heap.size A3 c3 ([] ++ Pk.enc e) 8 16 rfl rfl (by omega) 0 (by unfold InInt; omega) w3 hown3.reads (Nat.le_refl _) hown3.none_)
      clear hown3 hb3
      go_wp2_with fail
      refine H4.out.mono ?_
      rintro e4 w4 ⟨A4, c4, rfl, hown4, hb4⟩
      have HB4 := hid (HB3.out.trans (hb4.mono HB3.out.size))
      have HO4 := hid hown4
      clear hown4 hb4 H4
      have hdec : ((k : Int) == ((Jo.secs n : Nat) : Int) - 1) = Jo.lastAt p k := by
        unfold Jo.lastAt
        rw [HX.out.1.1, Bool.eq_iff_iff]
        simp only [beq_iff_eq, decide_eq_true_eq]
        omega
      have HD := hid hdec
      clear hdec
      go_wp2_with fail
      rw [HD.out]
      refine (mark_any k (Jo.lastAt p k) (by omega) w4).mono ?_
      rintro e5 w5 ⟨rfl, rfl⟩
      have H6 := hid (packInt_N w5.heap.size A4 c4 ([] ++ Pk.enc e ++ Pk.enc 0) 16 24 rfl rfl (by omega) (Jo.mark k (Jo.lastAt p k) : Nat) (by unfold InInt Jo.mark; split <;> omega) w5 HO4.out.reads (Nat.le_refl _) HO4.out.none_)
      clear HO4
      go_wp2_with fail
      refine H6.out.mono ?_
      rintro e6 w6 ⟨A6, c6, rfl, hown6, hb6⟩
      have HB6 := hid (HB4.out.trans (hb6.mono HB4.out.size))
      have HO6 := hid (hown6.weaken (base' := wr.heap.size) HB4.out.size)
      clear hown6 hb6 H6
      have HPc := hid (piece_at ((HX.out.2.2.below HI.out.2).below (HB6.out.mono HI.out.2.size)) k)
      go_wp2_with (at_builtin; refine wpList_append_bytesN rfl _ _ 23 rfl wr.heap.size 5 i1 Tryz.underlying23 hj hj0 hj1 hj2 A6 c6 ([] ++ Pk.enc e ++ Pk.enc 0 ++ Pk.enc (Jo.mark k (Jo.lastAt p k) : Nat)) 24 rfl rfl HO6.out w1.heap.size (some (a.add (40 * k))) (c - 40 * k) (Jo.piece p k) _ ?m1 (by rw [Nat.mul_comm 40 k]; rfl) (fun h => by cases h) HPc.out (Jo.sec e 0 p k) (by simp [Jo.sec, Jo.head]) ?m2 HB6.out.size ?_)
      case m1 => rw [Jo.piece_length, HX.out.1.1]; omega
      case m2 => omega
      intro A7 c7 w7 hown7 hb7
      have hb7' : Below wr.heap.size wr w7 := HB6.out.trans hb7
      have hP7 := HI.out.1.later hb7'
      have hg7 : w1.heap.size < wr.heap.size := HI.out.1.lt
      obtain ⟨vs, hv1, hv2, _⟩ := hP7.row
      have hcell : w7.cell? ⟨w1.heap.size, k, none⟩ = some (vs[k]'(by omega)) := by rw [row_cell hv1]; exact Array.getElem?_eq_getElem _
      have hfr : w7.frozen? ⟨w1.heap.size, k, none⟩ = false := row_free hv1 k
      have hlen : (Jo.sec e 0 p k).length = 24 + (min ((n - k * 40 : Nat) : Int) 40).toNat := by rw [Jo.sec_length, Jo.piece_length, HX.out.1.1]; omega
      have HS := hid (And.intro (hP7.set_ hlt hlen ((OwnsZ.of hown7).mono (fun j hj => by omega))) ((HI.out.2.trans (hb7'.mono HI.out.2.size)).setCell (p := ⟨w1.heap.size, k, none⟩) (Nat.le_refl _) (.slice A7 (24 + (min ((n - k * 40 : Nat) : Int) 40).toNat) c7)))
      clear hown7 hb7 hb7' hP7 hv1 hlen
      go_wp2_with fail
      go_roundw
      case rel => exact ⟨k + 1, by omega, by go_num, HS⟩
      case measure => simp [RowKit.intOf]; omega
    · have hk0 : ¬ (k : Int) < ((Jo.secs n : Nat) : Int) := by omega
      obtain rfl : k = Jo.secs n := by omega
      go_wp2_with fail
      go_ret
      exact ⟨rfl, HI⟩
theorem sectors_any (e : Int) (he : InInt e) (A : Option Addr) (c : Nat) (p : List Nat) (n : Nat) (hn : p.length = n) (hc : n ≤ c) (hcm : c ≤ maxLen) (hz : A = none → c = 0) (hl : n ≤ 1000000) (w : World) (h : IsBytes w w.heap.size A p) :
    Calls Tryz.prog 47 #[.int .i64 e, .slice A n c] w fun e' w' => e' = .returned (.slice (some ⟨w.heap.size, 0, none⟩) (Jo.secs n) (Jo.secs n)) ∧
      Hid (PartRows w' (fun k => k < w.heap.size) w.heap.size (Jo.secs n) (Jo.secs n) (Jo.sec e 0 p) ∧ Below w.heap.size w w') := by
  by_cases h0 : c = 0
  · subst h0
    obtain rfl : n = 0 := by omega
    obtain rfl : p = [] := List.eq_nil_of_length_eq_zero hn
    exact sectors_none e he A w
  · rcases A with _ | a
    · exact absurd (hz rfl) h0
    · exact sectors_some e he a c p n hn hc hcm (by omega) hl w h
end C
end Go.Proofs.YtdgijnolpjaheaaGreat
namespace Go.Proofs.YtdgijnolpjaheaaGreat
open Go.RowKit

set_option maxRecDepth 100000 in
/-- the map has something for a sector -/
theorem DiskAt.put {w : World} {Z : Nat → Prop} {d : Dk} {s : Sx.St} (h : DiskAt w Z d s) (k : Nat) (hk : k < s.n) (A : Option Addr) (c : Nat) (b : List Nat) (hb : b.length ≤ 64) (hA : OwnsZ w Z A c b) :
    ∃ w', (Instr.mapUpdate 54 (.map (some d.m)) (.int .i64 (k : Int)) (.slice A b.length c)).run Tryz.prog w = .ok () w' ∧ DiskAt w' Z d { s with cache := Sx.upd s.cache k (some b) } ∧ Turned (fun j => j = d.m) w w' := by
  obtain ⟨f, hown, hf⟩ := h.map
  have hbd := h.bound
  have hkey : keyOf Tryz.prog 3 (.int .i64 (k : Int)) = some (.int .i64 (k : Int)) := Maps.keyOf_int_mk Tryz.underlying3 (WalkArith.wf_i64 (by omega))
  obtain ⟨w', hrun, hown', hg⟩ := hown.update (Maps.int_keyed Tryz.underlying3) Tryz.underlying54 (by unfold maxLen; omega) (val := .slice A b.length c) (d := .held (.slice A b.length c)) (ps := []) hkey rfl
  rw [Sx.put_of _ _ _ hk] at hown'
  have ht : Turned (fun j => j = d.m) w w' := Turned.ofGrown hg (fun j e => by injection e with e; exact e.symm)
  have hz : ∀ A c l, OwnsZ w Z A c l → OwnsZ w' Z A c l := fun A c l hA => by
    obtain ⟨es, clock, h1, _⟩ := hown
    refine (((hA.shunTag h1 ?_).keep (w' := w') (ht.mono (fun _ h => .inr h))).mono (fun _ h => .inl h))
    intro cur e
    cases e
  refine ⟨w', hrun, ⟨hbd, h.off, h.left, (ht.block _ h.glt h.g_ne_m).trans h.disk, ?_, ?_⟩, ht⟩
  · obtain ⟨cur, h1, h2, h3⟩ := h.row
    refine ⟨cur, (ht.block _ h.hlt h.h_ne_m).trans h1, h2, fun i hi' => ?_⟩
    obtain ⟨h4, A, c, h5, h6, h7⟩ := h3 i hi'
    exact ⟨h4, A, c, h5, h6, hz _ _ _ h7⟩
  · refine ⟨_, ownsMap_tight hown' (Sx.size_of _ _), fun i hi => ?_⟩
    show ElemAt w' Z (Sx.upd f k (some (.slice A b.length c)) i) (Sx.upd s.cache k (some b) i)
    by_cases e : i = k
    · subst e
      rw [Sx.upd_same, Sx.upd_same]
      exact ⟨hb, A, c, rfl, hz _ _ _ hA⟩
    · rw [Sx.upd_other _ _ _ _ e, Sx.upd_other _ _ _ _ e]
      exact (hf i hi).imp hz

set_option maxRecDepth 100000 in
theorem write_any (Z : Nat → Prop) (d : Dk) (s : Sx.St) (i : Int) (A : Option Addr) (c : Nat) (l : List Nat) (n : Nat) (hn : l.length = n) (hz : A = none → c = 0) (w : World) (hZ : ∀ k, Z k → k < w.heap.size) (h : DiskAt w Z d s)
    (hin : ∀ w', Turned d.has w w' → IsBytes w' w'.heap.size A l) :
    Calls Tryz.prog 31 #[.pointer (some ⟨d.g, 0, none⟩), .int .i64 i, .slice A n c] w fun e w' => e = .returned (.int .i64 (Sx.wrE s i l)) ∧ DiskAt w' Z d (Sx.wrS s i l) ∧ Turned d.has w w' := by
  subst hn
  have HH := hid h
  obtain ⟨c0, c1, c2, c3, c4⟩ := h.cells
  cases ho : s.down
  · rw [ho] at c4
    by_cases hi : 0 ≤ i ∧ i < s.n
    · have HA := hid (has_any Z d s i w h)
      rw [show decide (0 ≤ i ∧ i < s.n) = true from decide_eq_true hi] at HA
      by_cases hl : 64 < l.length
      · have e1 : Sx.wrE s i l = 2 := by unfold Sx.wrE; rw [ho, if_pos hi, if_pos hl]; rfl
        have e2 : Sx.wrS s i l = s := by unfold Sx.wrS; rw [ho, if_pos hi, if_pos hl]; rfl
        rw [e1, e2]
        clear h hin e1 e2 hi ho
        go_enter Tryz.func31, Tryz.ntmps31
        go_wp2_with fail
        refine HA.out.mono ?_
        rintro e w1 ⟨rfl, rfl⟩
        go_wp2
        go_ret
        exact ⟨rfl, HH.out, Turned.refl _ _⟩
      · have HS := hid (spend_any Z d s w h)
        cases hd : s.dead
        · have e0 : Sx.spE s = 0 := by simp [Sx.spE, hd, ho]
          have e0' : Sx.spS s = s.spent := by simp [Sx.spS, hd, ho]
          rw [e0, e0'] at HS
          obtain ⟨k, rfl⟩ := Int.eq_ofNat_of_zero_le hi.1
          have hk : k < s.n := by omega
          have e1 : Sx.wrE s k l = 0 := by unfold Sx.wrE; rw [ho, if_pos hi, if_neg hl, e0]; rfl
          have e2 : Sx.wrS s k l = { s.spent with cache := Sx.upd s.cache k (some l) } := by unfold Sx.wrS; rw [ho, if_pos hi, if_neg hl, hd]; simp
          rw [e1, e2]
          have HP := hid (And.intro hk hin)
          have hl' : l.length ≤ 64 := by omega
          clear h hin e1 e2 hi ho hd e0 e0' hk hl
          go_enter Tryz.func31, Tryz.ntmps31
          go_wp2_with fail
          refine HA.out.mono ?_
          rintro e w1 ⟨rfl, rfl⟩
          go_wp2_with fail
          refine HS.out.mono ?_
          rintro e w2 ⟨rfl, hD2, ht2⟩
          obtain ⟨b0, b1, b2, b3, b4⟩ := hD2.cells
          have HD2 := hid hD2
          have HT2 := hid ht2
          have HC := hid (clone_any w2.drew.heap.size A c l l.length rfl (by omega) hz w2.drew (HP.out.2 _ ht2.drew) (Nat.le_refl _))
          clear hD2 c0 c1 c2 c3 c4
          have hsz := ht2.size
          clear ht2 HS HA HH
          go_wp2_with fail
          go_region_with (go_at_call 50; refine HC.out.mono ?_; rintro e w3 ⟨A3, c3, rfl, hown3, hb3⟩; have hD3 : DiskAt w3 Z d s.spent := HD2.out.drew.below hb3; have b1' := hD3.cells.2.1; have hZ3 : OwnsZ w3 Z A3 c3 l := ⟨hown3.weaken (Nat.zero_le _), fun j hj e => by have h1 := (hown3.blkLt j hj).1; have h2 := hZ j e; have h3 : w2.drew.heap.size = w2.heap.size := rfl; omega⟩; obtain ⟨w4, hrun4, hD4, ht4⟩ := hD3.put k HP.out.1 A3 c3 l hl' hZ3; have H4 := hid (And.intro hD4 (ht4.mono (S' := d.has) (fun _ h => .inr (.inr h)))); have H3 := hid (Turned.ofBelow d.has hb3); clear hD3 hZ3 hD4 ht4 hown3 hb3)
          all_goals
            (go_wp2
             go_ret
             exact ⟨rfl, H4.out.1, (HT2.out.drew.trans H3.out).trans H4.out.2⟩)
        · have e0 : Sx.spE s = 10 := by simp [Sx.spE, hd]
          have e0' : Sx.spS s = s.off := by simp [Sx.spS, hd]
          rw [e0, e0'] at HS
          have e1 : Sx.wrE s i l = 10 := by unfold Sx.wrE; rw [ho, if_pos hi, if_neg hl, e0]; rfl
          have e2 : Sx.wrS s i l = s.off := by unfold Sx.wrS; rw [ho, if_pos hi, if_neg hl, hd]; rfl
          rw [e1, e2]
          have hl' : (l.length : Int) ≤ 64 := by omega
          clear h hin e1 e2 hi ho hd e0 e0' hl
          go_enter Tryz.func31, Tryz.ntmps31
          go_wp2_with fail
          refine HA.out.mono ?_
          rintro e w1 ⟨rfl, rfl⟩
          go_wp2_with fail
          refine HS.out.mono ?_
          rintro e w2 ⟨rfl, hD2, ht2⟩
          go_wp2
          go_ret
          exact ⟨rfl, hD2, ht2⟩
    · have HA := hid (has_any Z d s i w h)
      rw [show decide (0 ≤ i ∧ i < s.n) = false from decide_eq_false hi] at HA
      have e1 : Sx.wrE s i l = 3 := by unfold Sx.wrE; rw [ho, if_neg hi]; rfl
      have e2 : Sx.wrS s i l = s := by unfold Sx.wrS; rw [ho, if_neg hi]; rfl
      rw [e1, e2]
      clear h hin e1 e2 hi ho
      go_enter Tryz.func31, Tryz.ntmps31
      go_wp2_with fail
      refine HA.out.mono ?_
      rintro e w1 ⟨rfl, rfl⟩
      go_wp2
      go_ret
      exact ⟨rfl, HH.out, Turned.refl _ _⟩
  · rw [ho] at c4
    have e1 : Sx.wrE s i l = 10 := by unfold Sx.wrE; rw [ho]; rfl
    have e2 : Sx.wrS s i l = s := by unfold Sx.wrS; rw [ho]; rfl
    rw [e1, e2]
    clear h hin e1 e2 ho
    go_enter Tryz.func31, Tryz.ntmps31
    go_wp2
    go_ret
    exact ⟨rfl, HH.out, Turned.refl _ _⟩
end Go.Proofs.YtdgijnolpjaheaaGreat
namespace Go.Proofs.YtdgijnolpjaheaaGreat
open Go.RowKit

/-- the sectors' row is written at one place -/
theorem DiskAt.rowSet {w w' : World} {Z : Nat → Prop} {d : Dk} {s : Sx.St} (h : DiskAt w Z d s) (k : Nat) (hk : k < s.n) (A : Option Addr) (c : Nat) (x : List Nat × Bool) (hx : x.1.length ≤ 64) (hA : OwnsZ w Z A c x.1)
    (hw : w' = (w.setCell ⟨d.h, k * 2, none⟩ (.slice A x.1.length c)).setCell ⟨d.h, k * 2 + 1, none⟩ (.bool x.2)) :
    DiskAt w' Z d { s with dur := Sx.upd s.dur k x } ∧ Turned (fun j => j = d.h) w w' := by
  have ht : Turned (fun j => j = d.h) w w' := by rw [hw]; exact Turned.two _ _ _ _ _ _
  refine ⟨?_, ht⟩
  obtain ⟨cur, h1, h2, h3⟩ := h.row
  have hz : ∀ A c l, OwnsZ w Z A c l → OwnsZ w' Z A c l := fun A c l hA => by
    refine (((hA.shunTag h1 ?_).keep (w' := w') (ht.mono (fun _ h => .inr h))).mono (fun _ h => .inl h))
    intro cur e
    have h3 := (Obj.cells.inj e).2.1
    revert h3; decide
  refine ⟨h.bound, h.off, h.left, (ht.block _ h.glt h.g_ne_h).trans h.disk, ?_, ?_⟩
  · refine ⟨(cur.setIfInBounds (k * 2) (.slice A x.1.length c)).setIfInBounds (k * 2 + 1) (.bool x.2), ?_, by simp [h2], fun i hi => ?_⟩
    · rw [hw]; simp [World.setCell, Array.getElem?_modify, h1]
    · simp only
      by_cases e : i = k
      · subst e
        rw [Sx.upd_same]
        have hi' : i < s.n := hi
        refine ⟨hx, A, c, ?_, ?_, hz _ _ _ hA⟩
        · rw [Array.getElem?_setIfInBounds_ne (by omega), Array.getElem?_setIfInBounds_self_of_lt (by omega)]
        · rw [Array.getElem?_setIfInBounds_self_of_lt (by simp; omega)]
      · rw [Sx.upd_other _ _ _ _ e]
        obtain ⟨h4, A', c', h5, h6, h7⟩ := h3 i hi
        refine ⟨h4, A', c', ?_, ?_, hz _ _ _ h7⟩
        · rw [Array.getElem?_setIfInBounds_ne (by omega), Array.getElem?_setIfInBounds_ne (by omega)]; exact h5
        · rw [Array.getElem?_setIfInBounds_ne (by omega), Array.getElem?_setIfInBounds_ne (by omega)]; exact h6
  · obtain ⟨f, ⟨es, clock, h4, h5⟩, h6⟩ := h.map
    exact ⟨f, ⟨es, clock, (ht.block _ (Array.getElem?_eq_some_iff.1 h4).1 h.h_ne_m.symm).trans h4, h5⟩, fun i hi' => (h6 i hi').imp hz⟩

set_option maxRecDepth 100000 in
theorem settle_any (Z : Nat → Prop) (d : Dk) (s : Sx.St) (k : Nat) (hk : k < s.n) (b : List Nat) (hc : s.cache k = some b) (fate : Int) (w : World) (h : DiskAt w Z d s) :
    Calls Tryz.prog 57 #[.pointer (some ⟨d.g, 0, none⟩), .int .i64 (k : Int), .int .i64 fate] w fun e w' => e = .returned (.tuple #[]) ∧ DiskAt w' Z d (Sx.settled s k fate) ∧ Turned d.has w w' := by
  obtain ⟨c0, c1, c2, c3, c4⟩ := h.cells
  have HB := hid h.bound
  obtain ⟨f, hown, hf⟩ := h.map
  have hfk := hf k hk
  rw [hc] at hfk
  have hkey : keyOf Tryz.prog 3 (.int .i64 (k : Int)) = some (.int .i64 (k : Int)) := Maps.keyOf_int_mk Tryz.underlying3 (WalkArith.wf_i64 (by have := HB.out; omega))
  have hlook := fun w' (hw' : w'.ownsMap Tryz.prog 3 Sx.valR d.m s.n (Sx.mapOf s.n f)) => World.ownsMap.lookup hw' (Maps.int_keyed Tryz.underlying3) Tryz.underlying54 (Tryz.zeroValue23 w') (zd := .held (.slice none 0 0)) (zp := []) rfl hkey
  rcases hfn : f k with _ | v
  · rw [hfn] at hfk; exact hfk.elim
  rw [hfn] at hfk
  obtain ⟨hlen, A, c, rfl, hA⟩ := hfk
  obtain ⟨_, _, _, s0, s1, _⟩ := h.sec hk
  have f0 := h.frozenH (k * 2)
  have f1 := h.frozenH (k * 2 + 1)
  have HH := hid h
  have hk0 : (k : Int) < s.n := by omega
  have hk00 : 0 ≤ (k : Int) := by omega
  by_cases h0 : fate = 0
  · subst h0
    have e : Sx.settled s k 0 = s := by
      have : Sx.settle1 (s.cache k) (s.dur k) 0 = s.dur k := by rw [hc]; rfl
      unfold Sx.settled
      rw [this]
      have : Sx.upd s.dur k (s.dur k) = s.dur := by funext j; unfold Sx.upd; split <;> simp [*]
      rw [this]
    rw [e]
    clear hlook hown hf hA h hc hlen
    go_enter Tryz.func57, Tryz.ntmps57
    go_wp2
    go_end0
    exact ⟨rfl, HH.out, Turned.refl _ _⟩
  · by_cases h1 : fate = 1
    · subst h1
      have e : Sx.settled s k 1 = { s with dur := Sx.upd s.dur k (b, false) } := by unfold Sx.settled; rw [hc]; rfl
      rw [e]
      have hrun : (Instr.lookup 54 (.map (some d.m)) (.int .i64 (k : Int)) false).run Tryz.prog w.drew = .ok (.slice A b.length c) w.drew := by
        obtain ⟨v, ps, hr, hv⟩ := hlook w.drew hown.drew
        rw [Sx.atKey_of _ _ _ hk, hfn] at hv
        have hv := DataW.held.inj (Prod.mk.inj (Option.some.inj hv)).1
        rw [hr, hv]; rfl
      have HR := hid (fun w' hw' => h.rowSet (w' := w') k hk A c (b, false) hlen hA hw')
      clear hlook hown hf hA h hc hlen
      go_enter Tryz.func57, Tryz.ntmps57
      go_wp2
      go_region
      go_wp2
      go_end0
      obtain ⟨h2, h3⟩ := HR.out _ rfl
      exact ⟨rfl, h2.drew, h3.drew.mono (fun _ h => .inr (.inl h))⟩
    · have e : Sx.settled s k fate = { s with dur := Sx.upd s.dur k ([], true) } := by unfold Sx.settled; rw [hc]; simp [Sx.settle1, h0, h1]
      rw [e]
      have HR := hid (fun w' hw' => h.rowSet (w' := w') k hk none 0 ([], true) (by simp) (OwnsZ.nil _ _) hw')
      clear hlook hown hf hA h hc hlen
      go_enter Tryz.func57, Tryz.ntmps57
      go_wp2
      go_end0
      obtain ⟨h2, h3⟩ := HR.out _ rfl
      exact ⟨rfl, h2, h3.mono (fun _ h => .inr (.inl h))⟩
end Go.Proofs.YtdgijnolpjaheaaGreat
