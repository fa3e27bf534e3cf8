/- The walk through what makes a checkpoint's sectors. -/
import Derived.Test.YtdgijnolpjaheaaCkA
import Derived.Test.YtdgijnolpjaheaaRowMore
import Derived.Test.YtdgijnolpjaheaaReadNew
namespace Go.Proofs.Ytdgijnolpjaheaa
open Go.RowKit

/-- a row of bytes' slices at block g, of which the first k have the bytes that T says, which lie in no block of Z -/
structure PartRows (w : World) (Z : Nat → Prop) (g n k : Nat) (T : Nat → List Nat) : Prop where
  row : ∃ vs : Array Value, w.heap[g]? = some (.cells vs 32 (0, 0)) ∧ vs.size = n ∧ ∀ i, i < k → ∃ A c, vs[i]? = some (.slice A (T i).length c) ∧ OwnsZ w Z A c (T i)
namespace PartRows
variable {w w' : World} {Z Z' : Nat → Prop} {g n k : Nat} {T : Nat → List Nat}
theorem lt (h : PartRows w Z g n k T) : g < w.heap.size := by obtain ⟨vs, h1, _⟩ := h.row; exact row_lt h1
theorem keep (h : PartRows w Z g n k T) (ht : Turned Z w w') (hg : ¬ Z g) : PartRows w' Z g n k T := by
  obtain ⟨vs, h1, h2, h3⟩ := h.row
  refine ⟨vs, (ht.block g (row_lt h1) hg).trans h1, h2, fun i hi => ?_⟩
  obtain ⟨A, c, h4, h5⟩ := h3 i hi
  exact ⟨A, c, h4, h5.keep ht⟩
theorem mono (h : PartRows w Z g n k T) (hz : ∀ j, Z' j → Z j) : PartRows w Z' g n k T := by
  obtain ⟨vs, h1, h2, h3⟩ := h.row
  refine ⟨vs, h1, h2, fun i hi => ?_⟩
  obtain ⟨A, c, h4, h5⟩ := h3 i hi
  exact ⟨A, c, h4, h5.mono hz⟩
theorem shun (h : PartRows w Z g n k T) : PartRows w (fun j => Z j ∨ w.heap.size ≤ j) g n k T := by
  obtain ⟨vs, h1, h2, h3⟩ := h.row
  refine ⟨vs, h1, h2, fun i hi => ?_⟩
  obtain ⟨A, c, h4, h5⟩ := h3 i hi
  exact ⟨A, c, h4, h5.shun⟩
/-- behind what has turned new blocks alone -/
theorem later (h : PartRows w Z g n k T) (hb : Below w.heap.size w w') : PartRows w' Z g n k T := by
  obtain ⟨vs, h1, h2, h3⟩ := h.row
  refine ⟨vs, (hb.block g (row_lt h1)).trans h1, h2, fun i hi => ?_⟩
  obtain ⟨A, c, h4, h5⟩ := h3 i hi
  exact ⟨A, c, h4, h5.keep (Turned.ofBelow _ hb)⟩
theorem set_ (h : PartRows w Z g n k T) (hk : k < n) {A : Option Addr} {c m : Nat} (hm : (T k).length = m) (hA : OwnsZ w Z A c (T k)) : PartRows (w.setCell ⟨g, k, none⟩ (.slice A m c)) Z g n (k + 1) T := by
  subst hm
  obtain ⟨vs, h1, h2, h3⟩ := h.row
  have hel : ∀ A c l, OwnsZ w Z A c l → OwnsZ (w.setCell ⟨g, k, none⟩ (.slice A (T k).length c)) Z A c l := fun A c l hA =>
    ((hA.shunTag h1 (fun cur e => by have h6 := (Obj.cells.inj e).2.1; revert h6; decide)).keep ((Turned.one _ _ _ _).mono (fun j e => .inr e))).mono (fun _ h => .inl h)
  have hel2 : ∀ (v : Value) A c l, OwnsZ w Z A c l → OwnsZ (w.setCell ⟨g, k, none⟩ v) Z A c l := fun v A c l hA =>
    ((hA.shunTag h1 (fun cur e => by have h6 := (Obj.cells.inj e).2.1; revert h6; decide)).keep ((Turned.one _ _ _ _).mono (fun j e => .inr e))).mono (fun _ h => .inl h)
  refine ⟨_, row_set h1 k _, by simp [h2], fun i hi => ?_⟩
  by_cases hik : i = k
  · subst hik
    exact ⟨A, c, by simp [h2, hk], hel2 _ _ _ _ hA⟩
  · obtain ⟨A', c', h4, h5⟩ := h3 i (by omega)
    refine ⟨A', c', ?_, hel2 _ _ _ _ h5⟩
    rw [Array.getElem?_setIfInBounds_ne (by omega)]
    exact h4
end PartRows
theorem part_made {w w1 : World} {B n : Nat} {T : Nat → List Nat} {Z : Nat → Prop} (h : w1.ownsRow B 32 1 (.slice (some ⟨w.heap.size, 0, none⟩) n n) n (madeCells #[Value.slice none 0 0] n).toList) : PartRows w1 Z w.heap.size n 0 T := by
  rcases h.2 with ⟨h0, _⟩ | ⟨g, cap, cur, h1, _, h3, _, _, h4, _⟩
  · cases h0
  · have e1 : w.heap.size = g := by injection h1 with h1; injection h1 with h1; injection h1
    have e2 : n = cap := by injection h1
    subst e1
    subst e2
    exact ⟨cur, h3, by omega, fun i hi => by omega⟩
namespace C
theorem piece_is {w : World} {B b off : Nat} {p : List Nat} (h : IsBytes w B (some ⟨b, off, none⟩) p) (k : Nat) : IsBytes w B (some ⟨b, off + 40 * k, none⟩) (Jo.piece p k) := (h.from (40 * k)).take 40
theorem piece_at {w : World} {B : Nat} {a : Addr} {p : List Nat} (h : IsBytes w B (some a) p) (k : Nat) : IsBytes w B (some (a.add (40 * k))) (Jo.piece p k) := by
  rcases p with _ | ⟨x, p⟩
  · rw [show Jo.piece [] k = [] from by simp [Jo.piece]]; exact IsBytes.nil
  · obtain ⟨b, off, e, _, _⟩ := h.cells 0 (by simp)
    injection e with e
    subst e
    rw [add_off]
    exact piece_is h k
theorem packInt_N (B : Nat) (A : Option Addr) (c : Nat) (l : List Nat) (n m : Nat) (hl : l.length = n) (hm : n + 8 = m) (hn : n ≤ 1000) (v : Int) (hv : InInt v) (w : World) (h : IsBytes w B A l) (hB : B ≤ w.heap.size) (hz : A = none → c = 0) :
    Calls Try.prog 49 #[.slice A n c, .int .i64 v] w fun e w' => ∃ A' c', e = .returned (.slice A' m c') ∧ OwnsB 5 w' w.heap.size A' c' (l ++ Pk.enc v) ∧ Below w.heap.size w w' := by
  subst hl
  subst hm
  exact packInt_any B A c l v hv (by omega) w h hB hz
set_option maxRecDepth 100000 in
set_option maxHeartbeats 2000000 in
theorem sectors_none (e : Int) (he : InInt e) (A : Option Addr) (w : World) :
    Calls Try.prog 33 #[.int .i64 e, .slice A 0 0] w fun e' w' => e' = .returned (.slice (some ⟨w.heap.size, 0, none⟩) 1 1) ∧
      Hid (PartRows w' (fun k => k < w.heap.size) w.heap.size 1 1 (Jo.sec e 0 []) ∧ Below w.heap.size w w') := by
  obtain ⟨i0, hi, hz0, hz1, hz2⟩ := info_parts info_bytes
  obtain ⟨i1, hj, hj0, hj1, hj2⟩ := info_parts info_u8
  have HX := hid he
  have HPI := hid (pieces_any 0 (by omega) w)
  clear he
  go_enter Try.func33, Try.ntmps33
  go_wp2_with fail
  refine HPI.out.mono ?_
  rintro e1 w1 ⟨rfl, rfl⟩
  go_wp2_with (at_make; refine wpList_make_full _ rfl _ _ 22 rfl w1.heap.size 32 i0 (.slice none 0 0) 1 Try.underlying22 hi hz0 hz1 .i64 .i64 1 1 1 rfl rfl rfl rfl ?c1 ?c2 (Nat.le_refl _) ?_)
  case c1 => rw [hz2]; omega
  case c2 => unfold maxLen; omega
  intro w2 hown hgrow
  have HP := hid (And.intro (part_made (w := w1) (T := Jo.sec e 0 []) (Z := fun k => k < w1.heap.size) hown) ((Below.refl w1.heap.size w1).grown hgrow (Nat.le_refl _) (fun g hg => by cases hg)))
  clear hown hgrow
  go_wp2_with fail
  go_loopw [15] (fun i wr => (i = .int .i64 0 ∧ Hid (PartRows wr (fun j => j < w1.heap.size) w1.heap.size 1 0 (Jo.sec e 0 []) ∧ Below w1.heap.size w1 wr)) ∨ (i = .int .i64 1 ∧ Hid (PartRows wr (fun j => j < w1.heap.size) w1.heap.size 1 1 (Jo.sec e 0 []) ∧ Below w1.heap.size w1 wr))) (fun i _ => (1 - RowKit.intOf i).toNat)
  case atStart => exact .inl ⟨rfl, HP⟩
  case round =>
    rcases hrel with ⟨rfl, HI⟩ | ⟨rfl, HI⟩
    · rcases A with _ | a
      · go_wp2_with fail
        refine (packInt_N wr.heap.size none 0 [] 0 8 rfl rfl (by omega) e HX.out wr IsBytes.nil (Nat.le_refl _) (fun _ => rfl)).mono ?_
        rintro e3 w3 ⟨A3, c3, rfl, hown3, hb3⟩
        have HB3 := hid hb3
        have H4 := hid (packInt_N w3.heap.size A3 c3 ([] ++ Pk.enc e) 8 16 rfl rfl (by omega) 0 (by unfold InInt; omega) w3 hown3.reads (Nat.le_refl _) hown3.none_)
        clear hown3 hb3
        go_wp2_with fail
        refine H4.out.mono ?_
        rintro e4 w4 ⟨A4, c4, rfl, hown4, hb4⟩
        have HB4 := hid (HB3.out.trans (hb4.mono HB3.out.size))
        have HO4 := hid hown4
        clear hown4 hb4 H4
        go_wp2_with fail
        refine (mark_any 0 true (by omega) w4).mono ?_
        rintro e5 w5 ⟨rfl, rfl⟩
        have H6 := hid (packInt_N w5.heap.size A4 c4 ([] ++ Pk.enc e ++ Pk.enc 0) 16 24 rfl rfl (by omega) (Jo.mark 0 true : Nat) (by unfold InInt Jo.mark; split <;> omega) w5 HO4.out.reads (Nat.le_refl _) HO4.out.none_)
        clear HO4
        go_wp2_with fail
        refine H6.out.mono ?_
        rintro e6 w6 ⟨A6, c6, rfl, hown6, hb6⟩
        have HB6 := hid (HB4.out.trans (hb6.mono HB4.out.size))
        have HO6 := hid (hown6.weaken (base' := wr.heap.size) HB4.out.size)
        clear hown6 hb6 H6
        have HPc : Hid (IsBytes w6 w1.heap.size none []) := hid IsBytes.nil
        go_wp2_with (at_builtin; refine wpList_append_bytesN rfl _ _ 32 rfl wr.heap.size 5 i1 Try.underlying32 hj hj0 hj1 hj2 A6 c6 ([] ++ Pk.enc e ++ Pk.enc 0 ++ Pk.enc (Jo.mark 0 true : Nat)) 24 rfl rfl HO6.out w1.heap.size none 0 [] 0 rfl rfl (fun _ => rfl) HPc.out (Jo.sec e 0 [] 0) (by simp [Jo.sec, Jo.head, Jo.piece, show Jo.lastAt [] 0 = true from rfl]) ?m2 HB6.out.size ?_)
        case m2 => omega
        intro A7 c7 w7 hown7 hb7
        have hb7' : Below wr.heap.size wr w7 := HB6.out.trans hb7
        have hP7 := HI.out.1.later hb7'
        have hg7 : w1.heap.size < wr.heap.size := HI.out.1.lt
        obtain ⟨vs, hv1, hv2, _⟩ := hP7.row
        have hcell : w7.cell? ⟨w1.heap.size, 0, none⟩ = some (vs[0]'(by omega)) := by rw [row_cell hv1]; exact Array.getElem?_eq_getElem _
        have hfr : w7.frozen? ⟨w1.heap.size, 0, none⟩ = false := row_free hv1 0
        have hlen : (Jo.sec e 0 [] 0).length = 24 := rfl
        have HS := hid (And.intro (hP7.set_ (by omega) hlen ((OwnsZ.of hown7).mono (fun j hj => by omega))) ((HI.out.2.trans (hb7'.mono HI.out.2.size)).setCell (p := ⟨w1.heap.size, 0, none⟩) (Nat.le_refl _) (.slice A7 (24) c7)))
        clear hown7 hb7 hb7' hP7 hv1 hlen
        go_wp2_with fail
        go_roundw
        case rel => exact .inr ⟨rfl, HS⟩
        case measure => simp [RowKit.intOf]
      · go_wp2_with fail
        refine (packInt_N wr.heap.size none 0 [] 0 8 rfl rfl (by omega) e HX.out wr IsBytes.nil (Nat.le_refl _) (fun _ => rfl)).mono ?_
        rintro e3 w3 ⟨A3, c3, rfl, hown3, hb3⟩
        have HB3 := hid hb3
        have H4 := hid (packInt_N w3.heap.size A3 c3 ([] ++ Pk.enc e) 8 16 rfl rfl (by omega) 0 (by unfold InInt; omega) w3 hown3.reads (Nat.le_refl _) hown3.none_)
        clear hown3 hb3
        go_wp2_with fail
        refine H4.out.mono ?_
        rintro e4 w4 ⟨A4, c4, rfl, hown4, hb4⟩
        have HB4 := hid (HB3.out.trans (hb4.mono HB3.out.size))
        have HO4 := hid hown4
        clear hown4 hb4 H4
        go_wp2_with fail
        refine (mark_any 0 true (by omega) w4).mono ?_
        rintro e5 w5 ⟨rfl, rfl⟩
        have H6 := hid (packInt_N w5.heap.size A4 c4 ([] ++ Pk.enc e ++ Pk.enc 0) 16 24 rfl rfl (by omega) (Jo.mark 0 true : Nat) (by unfold InInt Jo.mark; split <;> omega) w5 HO4.out.reads (Nat.le_refl _) HO4.out.none_)
        clear HO4
        go_wp2_with fail
        refine H6.out.mono ?_
        rintro e6 w6 ⟨A6, c6, rfl, hown6, hb6⟩
        have HB6 := hid (HB4.out.trans (hb6.mono HB4.out.size))
        have HO6 := hid (hown6.weaken (base' := wr.heap.size) HB4.out.size)
        clear hown6 hb6 H6
        have HPc : Hid (IsBytes w6 w1.heap.size (some a) []) := hid IsBytes.nil
        go_wp2_with (at_builtin; refine wpList_append_bytesN rfl _ _ 32 rfl wr.heap.size 5 i1 Try.underlying32 hj hj0 hj1 hj2 A6 c6 ([] ++ Pk.enc e ++ Pk.enc 0 ++ Pk.enc (Jo.mark 0 true : Nat)) 24 rfl rfl HO6.out w1.heap.size (some a) 0 [] 0 rfl rfl (fun _ => rfl) HPc.out (Jo.sec e 0 [] 0) (by simp [Jo.sec, Jo.head, Jo.piece, show Jo.lastAt [] 0 = true from rfl]) ?m2 HB6.out.size ?_)
        case m2 => omega
        intro A7 c7 w7 hown7 hb7
        have hb7' : Below wr.heap.size wr w7 := HB6.out.trans hb7
        have hP7 := HI.out.1.later hb7'
        have hg7 : w1.heap.size < wr.heap.size := HI.out.1.lt
        obtain ⟨vs, hv1, hv2, _⟩ := hP7.row
        have hcell : w7.cell? ⟨w1.heap.size, 0, none⟩ = some (vs[0]'(by omega)) := by rw [row_cell hv1]; exact Array.getElem?_eq_getElem _
        have hfr : w7.frozen? ⟨w1.heap.size, 0, none⟩ = false := row_free hv1 0
        have hlen : (Jo.sec e 0 [] 0).length = 24 := rfl
        have HS := hid (And.intro (hP7.set_ (by omega) hlen ((OwnsZ.of hown7).mono (fun j hj => by omega))) ((HI.out.2.trans (hb7'.mono HI.out.2.size)).setCell (p := ⟨w1.heap.size, 0, none⟩) (Nat.le_refl _) (.slice A7 (24) c7)))
        clear hown7 hb7 hb7' hP7 hv1 hlen
        go_wp2_with fail
        go_roundw
        case rel => exact .inr ⟨rfl, HS⟩
        case measure => simp [RowKit.intOf]
    · go_wp2_with fail
      go_ret
      exact ⟨rfl, HI⟩
set_option maxRecDepth 100000 in
set_option maxHeartbeats 2000000 in
theorem sectors_some (e : Int) (he : InInt e) (a : Addr) (c : Nat) (p : List Nat) (n : Nat) (hn : p.length = n) (hc : n ≤ c) (hcm : c ≤ maxLen) (hz : 0 < c) (hl : n ≤ 1000000) (w : World) (h : IsBytes w w.heap.size (some a) p) :
    Calls Try.prog 33 #[.int .i64 e, .slice (some a) n c] w fun e' w' => e' = .returned (.slice (some ⟨w.heap.size, 0, none⟩) (Jo.secs n) (Jo.secs n)) ∧
      Hid (PartRows w' (fun k => k < w.heap.size) w.heap.size (Jo.secs n) (Jo.secs n) (Jo.sec e 0 p) ∧ Below w.heap.size w w') := by
  obtain ⟨i0, hi, hz0, hz1, hz2⟩ := info_parts info_bytes
  obtain ⟨i1, hj, hj0, hj1, hj2⟩ := info_parts info_u8
  have hsn : Jo.secs n ≤ 30000 := by unfold Jo.secs; omega
  have hsp := Jo.secs_pos n
  have HX := hid (And.intro (And.intro hn (And.intro hc (And.intro hcm hz))) (And.intro he h))
  clear hn hcm h
  go_enter Try.func33, Try.ntmps33
  go_wp2_with fail
  refine (pieces_any n (by omega) w).mono ?_
  rintro e1 w1 ⟨rfl, rfl⟩
  go_wp2_with (at_make; refine wpList_make_full _ rfl _ _ 22 rfl w1.heap.size 32 i0 (.slice none 0 0) 1 Try.underlying22 hi hz0 hz1 .i64 .i64 (Jo.secs n : Nat) (Jo.secs n : Nat) (Jo.secs n) rfl rfl rfl rfl ?c1 ?c2 (Nat.le_refl _) ?_)
  case c1 => rw [hz2]; omega
  case c2 => unfold maxLen; omega
  intro w2 hown hgrow
  have HP := hid (And.intro (part_made (w := w1) (T := Jo.sec e 0 p) (Z := fun k => k < w1.heap.size) hown) ((Below.refl w1.heap.size w1).grown hgrow (Nat.le_refl _) (fun g hg => by cases hg)))
  clear hown hgrow
  go_wp2_with fail
  go_loopw [15] (fun i wr => ∃ k : Nat, k ≤ Jo.secs n ∧ i = .int .i64 (k : Int) ∧ Hid (PartRows wr (fun j => j < w1.heap.size) w1.heap.size (Jo.secs n) k (Jo.sec e 0 p) ∧ Below w1.heap.size w1 wr)) (fun i _ => ((Jo.secs n : Nat) - RowKit.intOf i).toNat)
  case atStart => exact ⟨0, by omega, rfl, HP⟩
  case round =>
    obtain ⟨k, hk, rfl, HI⟩ := hrel
    by_cases hlt : k < Jo.secs n
    · have hk0 : (k : Int) < ((Jo.secs n : Nat) : Int) := by omega
      have hkn : 40 * k ≤ n := by unfold Jo.secs at hlt; omega
      have hck2 : 40 * k < c := by unfold Jo.secs at hlt; omega
      go_wp2_with fail
      refine (packInt_N wr.heap.size none 0 [] 0 8 rfl rfl (by omega) e HX.out.2.1 wr IsBytes.nil (Nat.le_refl _) (fun _ => rfl)).mono ?_
      rintro e3 w3 ⟨A3, c3, rfl, hown3, hb3⟩
      have HB3 := hid hb3
      have H4 := hid (packInt_N w3.heap.size A3 c3 ([] ++ Pk.enc e) 8 16 rfl rfl (by omega) 0 (by unfold InInt; omega) w3 hown3.reads (Nat.le_refl _) hown3.none_)
      clear hown3 hb3
      go_wp2_with fail
      refine H4.out.mono ?_
      rintro e4 w4 ⟨A4, c4, rfl, hown4, hb4⟩
      have HB4 := hid (HB3.out.trans (hb4.mono HB3.out.size))
      have HO4 := hid hown4
      clear hown4 hb4 H4
      have hdec : ((k : Int) == ((Jo.secs n : Nat) : Int) - 1) = Jo.lastAt p k := by
        unfold Jo.lastAt
        rw [HX.out.1.1, Bool.eq_iff_iff]
        simp only [beq_iff_eq, decide_eq_true_eq]
        omega
      have HD := hid hdec
      clear hdec
      go_wp2_with fail
      rw [HD.out]
      refine (mark_any k (Jo.lastAt p k) (by omega) w4).mono ?_
      rintro e5 w5 ⟨rfl, rfl⟩
      have H6 := hid (packInt_N w5.heap.size A4 c4 ([] ++ Pk.enc e ++ Pk.enc 0) 16 24 rfl rfl (by omega) (Jo.mark k (Jo.lastAt p k) : Nat) (by unfold InInt Jo.mark; split <;> omega) w5 HO4.out.reads (Nat.le_refl _) HO4.out.none_)
      clear HO4
      go_wp2_with fail
      refine H6.out.mono ?_
      rintro e6 w6 ⟨A6, c6, rfl, hown6, hb6⟩
      have HB6 := hid (HB4.out.trans (hb6.mono HB4.out.size))
      have HO6 := hid (hown6.weaken (base' := wr.heap.size) HB4.out.size)
      clear hown6 hb6 H6
      have HPc := hid (piece_at ((HX.out.2.2.below HI.out.2).below (HB6.out.mono HI.out.2.size)) k)
      go_wp2_with (at_builtin; refine wpList_append_bytesN rfl _ _ 32 rfl wr.heap.size 5 i1 Try.underlying32 hj hj0 hj1 hj2 A6 c6 ([] ++ Pk.enc e ++ Pk.enc 0 ++ Pk.enc (Jo.mark k (Jo.lastAt p k) : Nat)) 24 rfl rfl HO6.out w1.heap.size (some (a.add (40 * k))) (c - 40 * k) (Jo.piece p k) _ ?m1 (by rw [Nat.mul_comm 40 k]; rfl) (fun h => by cases h) HPc.out (Jo.sec e 0 p k) (by simp [Jo.sec, Jo.head]) ?m2 HB6.out.size ?_)
      case m1 => rw [Jo.piece_length, HX.out.1.1]; omega
      case m2 => omega
      intro A7 c7 w7 hown7 hb7
      have hb7' : Below wr.heap.size wr w7 := HB6.out.trans hb7
      have hP7 := HI.out.1.later hb7'
      have hg7 : w1.heap.size < wr.heap.size := HI.out.1.lt
      obtain ⟨vs, hv1, hv2, _⟩ := hP7.row
      have hcell : w7.cell? ⟨w1.heap.size, k, none⟩ = some (vs[k]'(by omega)) := by rw [row_cell hv1]; exact Array.getElem?_eq_getElem _
      have hfr : w7.frozen? ⟨w1.heap.size, k, none⟩ = false := row_free hv1 k
      have hlen : (Jo.sec e 0 p k).length = 24 + (min ((n - k * 40 : Nat) : Int) 40).toNat := by rw [Jo.sec_length, Jo.piece_length, HX.out.1.1]; omega
      have HS := hid (And.intro (hP7.set_ hlt hlen ((OwnsZ.of hown7).mono (fun j hj => by omega))) ((HI.out.2.trans (hb7'.mono HI.out.2.size)).setCell (p := ⟨w1.heap.size, k, none⟩) (Nat.le_refl _) (.slice A7 (24 + (min ((n - k * 40 : Nat) : Int) 40).toNat) c7)))
      clear hown7 hb7 hb7' hP7 hv1 hlen
      go_wp2_with fail
      go_roundw
      case rel => exact ⟨k + 1, by omega, by go_num, HS⟩
      case measure => simp [RowKit.intOf]; omega
    · have hk0 : ¬ (k : Int) < ((Jo.secs n : Nat) : Int) := by omega
      obtain rfl : k = Jo.secs n := by omega
      go_wp2_with fail
      go_ret
      exact ⟨rfl, HI⟩
theorem sectors_any (e : Int) (he : InInt e) (A : Option Addr) (c : Nat) (p : List Nat) (n : Nat) (hn : p.length = n) (hc : n ≤ c) (hcm : c ≤ maxLen) (hz : A = none → c = 0) (hl : n ≤ 1000000) (w : World) (h : IsBytes w w.heap.size A p) :
    Calls Try.prog 33 #[.int .i64 e, .slice A n c] w fun e' w' => e' = .returned (.slice (some ⟨w.heap.size, 0, none⟩) (Jo.secs n) (Jo.secs n)) ∧
      Hid (PartRows w' (fun k => k < w.heap.size) w.heap.size (Jo.secs n) (Jo.secs n) (Jo.sec e 0 p) ∧ Below w.heap.size w w') := by
  by_cases h0 : c = 0
  · subst h0
    obtain rfl : n = 0 := by omega
    obtain rfl : p = [] := List.eq_nil_of_length_eq_zero hn
    exact sectors_none e he A w
  · rcases A with _ | a
    · exact absurd (hz rfl) h0
    · exact sectors_some e he a c p n hn hc hcm (by omega) hl w h
end C
end Go.Proofs.Ytdgijnolpjaheaa
