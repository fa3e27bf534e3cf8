/- Texts of the proof, one behind the other: Rf8A, Rf8B, Region. -/
import Derived.Test.YtdgijnolpjaheaaGreatPartAI
import Derived.Test.YtdgijnolpjaheaaGreatPartAP
import Derived.Test.YtdgijnolpjaheaaGreatPartAB
import Derived.Deep.RegionHeld3
import Derived.Deep.AppendLies
import Derived.Deep.MidRow
import Derived.Deep.RegionLaw
namespace Go.Proofs.YtdgijnolpjaheaaGreat
open Go.RowKit

namespace Ck
def pieces (p : List Nat) : List (List Nat) := (List.range (Jo.secs p.length)).map (Jo.piece p)
theorem pieces_length (p : List Nat) : (pieces p).length = Jo.secs p.length := by simp [pieces]
theorem pieces_get (p : List Nat) (k : Nat) (h : k < (pieces p).length) : (pieces p)[k] = Jo.piece p k := by simp [pieces]
theorem pieces_step (p : List Nat) (k : Nat) (h : k < Jo.secs p.length) : (pieces p).take k ++ [Jo.piece p k] = (pieces p).take (k + 1) := by
  rw [List.take_succ_eq_append_getElem (by rw [pieces_length]; exact h), pieces_get]
end Ck
def sliceLen : Value → Nat
  | .slice _ n _ => n
  | _ => 0
namespace C
set_option maxRecDepth 100000 in
theorem refMay_any (Z : Nat → Prop) (g : Nat) (x : Sx.Xs) (f n : Int) (hf : InInt f) (w : World) (h : RefAt w Z g x) :
    Calls Tryz.prog 54 #[.pointer (some ⟨g, 0, none⟩), .int .i64 f, .int .i64 n] w fun e' w' => e' = .returned (.bool (decide (Ck.Right x.n f n))) ∧ w' = w := by
  have hb := h.bound
  obtain ⟨A1, c1, A2, c2, c0, _, _, _, _, _, _⟩ := h.cells
  unfold InInt at hf
  obtain ⟨hf1, hf2⟩ := hf
  clear h
  by_cases h1 : 0 ≤ f
  · by_cases h2 : f < (x.n : Int)
    · by_cases h3 : 1 ≤ n
      · by_cases h4 : n ≤ (x.n : Int)
        · by_cases h5 : f + 2 * n ≤ (x.n : Int)
          · rw [decide_eq_true (show Ck.Right x.n f n from ⟨h1, h3, h5⟩)]
            go_enter Tryz.func54, Tryz.ntmps54
            go_wp2
            go_ret
            exact ⟨rfl, rfl⟩
          · rw [decide_eq_false (show ¬ Ck.Right x.n f n from fun h => h5 h.2.2)]
            go_enter Tryz.func54, Tryz.ntmps54
            go_wp2
            go_ret
            exact ⟨rfl, rfl⟩
        · rw [decide_eq_false (show ¬ Ck.Right x.n f n from fun h => by have := h.2.2; omega)]
          go_enter Tryz.func54, Tryz.ntmps54
          go_wp2
          go_ret
          exact ⟨rfl, rfl⟩
      · rw [decide_eq_false (show ¬ Ck.Right x.n f n from fun h => h3 h.2.1)]
        go_enter Tryz.func54, Tryz.ntmps54
        go_wp2
        go_ret
        exact ⟨rfl, rfl⟩
    · rw [decide_eq_false (show ¬ Ck.Right x.n f n from fun h => by have := h.2.1; have := h.2.2; omega)]
      go_enter Tryz.func54, Tryz.ntmps54
      go_wp2
      go_ret
      exact ⟨rfl, rfl⟩
  · rw [decide_eq_false (show ¬ Ck.Right x.n f n from fun h => h1 h.1)]
    go_enter Tryz.func54, Tryz.ntmps54
    go_wp2
    go_ret
    exact ⟨rfl, rfl⟩
theorem refInt_N (B : Nat) (A : Option Addr) (c : Nat) (l : List Nat) (n m : Nat) (hl : l.length = n) (hm : n + 8 = m) (hn : n ≤ 1000) (v : Int) (hv : InInt v) (w : World) (h : IsBytes w B A l) (hB : B ≤ w.heap.size) :
    Calls Tryz.prog 69 #[.slice A n c, .int .i64 v] w fun e w' => ∃ A' c', e = .returned (.slice A' m c') ∧ OwnsB 5 w' w.heap.size A' c' (l ++ Pk.enc v) ∧ Below w.heap.size w w' := by
  subst hl
  subst hm
  exact refInt_any B A c l v hv (by omega) w h hB
set_option maxRecDepth 100000 in
theorem refPiece_any (e z : Int) (he : InInt e) (hz : InInt z) (k : Nat) (hk : k ≤ 1000000) (b : Bool) (A : Option Addr) (c : Nat) (p : List Nat) (n : Nat) (hn : p.length = n) (hn2 : n ≤ 100000) (hz0 : A = none → c = 0) (w : World) (h : IsBytes w w.heap.size A p) :
    Calls Tryz.prog 56 #[.int .i64 e, .int .i64 z, .int .i64 (k : Int), .bool b, .slice A n c] w fun e' w' => ∃ A' c', e' = .returned (.slice A' (24 + n) c') ∧ Hid (OwnsB 5 w' w.heap.size A' c' (Jo.head e z (Jo.mark k b) ++ p) ∧ Below w.heap.size w w') := by
  obtain ⟨i1, hj, hj0, hj1, hj2⟩ := info_parts info_u8
  have HX := hid (And.intro (And.intro he hz) (And.intro hn (And.intro hz0 h)))
  have hmi : ∀ b : Bool, InInt ((Jo.mark k b : Nat) : Int) := fun b => by unfold InInt Jo.mark; split <;> omega
  have HMI := hid hmi
  clear he hz hn hz0 h hmi
  have key : ∀ (mk : Int) (b : Bool), mk = (Jo.mark k b : Nat) → Hid (InInt mk ∧ Pk.enc mk = Pk.enc (Jo.mark k b : Nat)) := fun mk b hmk => hid ⟨by rw [hmk]; exact HMI.out b, by rw [hmk]⟩
  have HK0 := key (2 * (k : Int)) false (by simp [Jo.mark])
  have HK1 := key (2 * (k : Int) + 1) true (by simp [Jo.mark])
  clear key
  cases b
  · go_enter Tryz.func56, Tryz.ntmps56
    go_wp2_with fail
    refine (refInt_N w.heap.size none 0 [] 0 8 rfl rfl (by omega) e HX.out.1.1 w IsBytes.nil (Nat.le_refl _)).mono ?_
    rintro e3 w3 ⟨A3, c3, rfl, hown3, hb3⟩
    have HB3 := hid hb3
    have H4 := hid (refInt_N w3.heap.size A3 c3 ([] ++ Pk.enc e) 8 16 rfl rfl (by omega) z HX.out.1.2 w3 hown3.reads (Nat.le_refl _))
    clear hown3 hb3
    go_wp2_with fail
    refine H4.out.mono ?_
    rintro e4 w4 ⟨A4, c4, rfl, hown4, hb4⟩
    have HB4 := hid (HB3.out.trans (hb4.mono HB3.out.size))
    have H5 := hid (refInt_N w4.heap.size A4 c4 ([] ++ Pk.enc e ++ Pk.enc z) 16 24 rfl rfl (by omega) (2 * (k : Int)) HK0.out.1 w4 hown4.reads (Nat.le_refl _))
    clear hown4 hb4 H4
    go_wp2_with fail
    refine H5.out.mono ?_
    rintro e5 w5 ⟨A5, c5, rfl, hown5, hb5⟩
    have HB5 := hid (And.intro (hown5.weaken (base' := w.heap.size) HB4.out.size) (HB4.out.trans (hb5.mono HB4.out.size)))
    clear hown5 hb5 H5
    go_wp2_with (at_builtin; refine wpList_append_bytesN rfl _ _ 23 rfl w.heap.size 5 i1 Tryz.underlying23 hj hj0 hj1 hj2 A5 c5 ([] ++ Pk.enc e ++ Pk.enc z ++ Pk.enc (2 * (k : Int))) 24 rfl rfl HB5.out.1 w.heap.size A c p n HX.out.2.1 rfl HX.out.2.2.1 (HX.out.2.2.2.below HB5.out.2) (Jo.head e z (Jo.mark k false) ++ p) (by rw [HK0.out.2]; simp [Jo.head]) (by omega) HB5.out.2.size ?_)
    intro A6 c6 w6 hown6 hb6
    have HO := hid (And.intro hown6 (HB5.out.2.trans hb6))
    clear hown6 hb6
    go_wp2
    go_ret
    exact ⟨A6, c6, rfl, HO⟩
  · go_enter Tryz.func56, Tryz.ntmps56
    go_wp2_with fail
    refine (refInt_N w.heap.size none 0 [] 0 8 rfl rfl (by omega) e HX.out.1.1 w IsBytes.nil (Nat.le_refl _)).mono ?_
    rintro e3 w3 ⟨A3, c3, rfl, hown3, hb3⟩
    have HB3 := hid hb3
    have H4 := hid (refInt_N w3.heap.size A3 c3 ([] ++ Pk.enc e) 8 16 rfl rfl (by omega) z HX.out.1.2 w3 hown3.reads (Nat.le_refl _))
    clear hown3 hb3
    go_wp2_with fail
    refine H4.out.mono ?_
    rintro e4 w4 ⟨A4, c4, rfl, hown4, hb4⟩
    have HB4 := hid (HB3.out.trans (hb4.mono HB3.out.size))
    have H5 := hid (refInt_N w4.heap.size A4 c4 ([] ++ Pk.enc e ++ Pk.enc z) 16 24 rfl rfl (by omega) (2 * (k : Int) + 1) HK1.out.1 w4 hown4.reads (Nat.le_refl _))
    clear hown4 hb4 H4
    go_wp2_with fail
    refine H5.out.mono ?_
    rintro e5 w5 ⟨A5, c5, rfl, hown5, hb5⟩
    have HB5 := hid (And.intro (hown5.weaken (base' := w.heap.size) HB4.out.size) (HB4.out.trans (hb5.mono HB4.out.size)))
    clear hown5 hb5 H5
    go_wp2_with (at_builtin; refine wpList_append_bytesN rfl _ _ 23 rfl w.heap.size 5 i1 Tryz.underlying23 hj hj0 hj1 hj2 A5 c5 ([] ++ Pk.enc e ++ Pk.enc z ++ Pk.enc (2 * (k : Int) + 1)) 24 rfl rfl HB5.out.1 w.heap.size A c p n HX.out.2.1 rfl HX.out.2.2.1 (HX.out.2.2.2.below HB5.out.2) (Jo.head e z (Jo.mark k true) ++ p) (by rw [HK1.out.2]; simp [Jo.head]) (by omega) HB5.out.2.size ?_)
    intro A6 c6 w6 hown6 hb6
    have HO := hid (And.intro hown6 (HB5.out.2.trans hb6))
    clear hown6 hb6
    go_wp2
    go_ret
    exact ⟨A6, c6, rfl, HO⟩
set_option maxRecDepth 100000 in
set_option maxHeartbeats 1000000 in
theorem cut_any (A : Option Addr) (c : Nat) (p : List Nat) (n : Nat) (hn : p.length = n) (hc : n ≤ c) (hcm : c ≤ maxLen) (hz : A = none → c = 0) (hl : n ≤ 100000) (B0 : Nat) (w : World) (hB0 : B0 ≤ w.heap.size) (h : IsBytes w B0 A p) :
    Calls Tryz.prog 55 #[.slice A n c] w fun e' w' => ∃ A' c', e' = .returned (.slice A' (Jo.secs n) c') ∧ Hid (RowsB w' B0 w.heap.size (.slice A' (Jo.secs n) c') (Ck.pieces p) ∧ Below w.heap.size w w') := by
  unfold maxLen at hcm
  have HX := hid (And.intro hn (And.intro hz h))
  clear hn hz h
  go_enter Tryz.func55, Tryz.ntmps55
  go_wp2_with fail
  go_loopw [0, 3] (fun v0 v3 wr => ∃ (k r cr : Nat) (A' AR : Option Addr) (cR : Nat), v0 = .slice A' r cr ∧ v3 = .slice AR k cR ∧ r + 40 * k = n ∧ r ≤ cr ∧ cr ≤ c ∧ (k = 0 ∨ 0 < r) ∧
    Hid (IsBytes wr B0 A' (p.drop (40 * k)) ∧ (A' = none → cr = 0) ∧ RowsB wr B0 w.heap.size (.slice AR k cR) ((Ck.pieces p).take k) ∧ Below w.heap.size w wr)) (fun v0 _ _ => sliceLen v0)
  case atStart => exact ⟨0, n, c, A, none, 0, rfl, rfl, by omega, hc, Nat.le_refl _, .inl rfl, hid ⟨HX.out.2.2, HX.out.2.1, RowsB.nil _ _ _, Below.refl _ _⟩⟩
  case round =>
    obtain ⟨k, r, cr, A', AR, cR, rfl, rfl, hrk, hrc, hcc, hk0, HI⟩ := hrel
    by_cases hgt : 40 < r
    · have hgti : (40 : Int) < (r : Int) := by omega
      have hcr : 40 < cr := by omega
      obtain ⟨b, off, rfl, _, _⟩ := HI.out.1.cells 0 (by rw [List.length_drop, HX.out.1]; omega)
      have hks : k < Jo.secs n := by unfold Jo.secs; omega
      have hk5 : k + 1 ≤ 100000 := by unfold Jo.secs at hks; omega
      have HE : Hid (Elm (wr.alloc (.cells #[.slice (some ⟨b, off, none⟩) 40 cr] 23)) B0 w.heap.size (some ⟨b, off, none⟩) cr (Jo.piece p k)) := hid ⟨(fun h => by cases h), by rw [Jo.piece_length]; omega, .inl ((HI.out.1.take 40).below (((Below.refl _ _).alloc (Nat.le_refl _) _).mono (Nat.le_trans hB0 HI.out.2.2.2.size)))⟩
      have HPL : Hid ((Jo.piece p k).length = 40) := hid (by rw [Jo.piece_length, HX.out.1]; omega)
      have HTK : Hid (((Ck.pieces p).take k).length = k) := hid (by rw [List.length_take, Ck.pieces_length, HX.out.1]; omega)
      have HST := hid (Ck.pieces_step p k (by rw [HX.out.1]; exact hks))
      go_wp2_with (at_builtin; refine wpList_append_rowB rfl _ _ rfl B0 w.heap.size ⟨hB0, by have := HI.out.2.2.2.size; simp; omega⟩ _ ((Ck.pieces p).take k) rfl (HI.out.2.2.1.below ((Below.refl _ _).alloc (Nat.le_refl _) _) (Nat.le_trans hB0 HI.out.2.2.2.size)) ⟨wr.heap.size, 0, none⟩ 1 (some ⟨b, off, none⟩) cr (Jo.piece p k) 40 HPL.out rfl (one_new _ _ _) HE.out ((Ck.pieces p).take (k + 1)) HST.out k HTK.out hk5 ?_; intro A2 c2 w2 hR2 hb2)
      have hbel : Below w.heap.size w w2 := (HI.out.2.2.2.alloc HI.out.2.2.2.size _).trans (hb2.below (by have := HI.out.2.2.2.size; simp; omega))
      have HP2 : Hid (IsBytes w2 B0 (some ⟨b, off + 40, none⟩) (p.drop (40 * (k + 1))) ∧ RowsB w2 B0 w.heap.size (.slice A2 (k + 1) c2) ((Ck.pieces p).take (k + 1)) ∧ Below w.heap.size w w2) := hid ⟨by
        have h2 := (HI.out.1.from 40)
        rw [List.drop_drop, show 40 * k + 40 = 40 * (k + 1) from by omega] at h2
        exact h2.below (((((Below.refl _ _).alloc (Nat.le_refl _) _).mono HI.out.2.2.2.size).trans (hb2.below (by have := HI.out.2.2.2.size; simp; omega))).mono hB0), hR2, hbel⟩
      clear hR2 hb2 hbel
      go_wp2
      go_roundw
      case rel => exact ⟨k + 1, r - 40, cr - 40, _, A2, c2, rfl, rfl, by omega, by omega, by omega, .inr (by omega), hid ⟨HP2.out.1, (fun h => by cases h), HP2.out.2.1, HP2.out.2.2⟩⟩
      case measure => simp [sliceLen]; omega
    · have hgti : ¬ (40 : Int) < (r : Int) := by omega
      have hks : k + 1 = Jo.secs n := by unfold Jo.secs; omega
      have hk5 : k + 1 ≤ 100000 := by unfold Jo.secs at hks; omega
      have hpd : Jo.piece p k = p.drop (40 * k) := (Jo.piece_last p k (by rw [HX.out.1]; exact hks)).1
      have HE : Hid (Elm (wr.alloc (.cells #[.slice A' r cr] 23)) B0 w.heap.size A' cr (Jo.piece p k)) := hid ⟨HI.out.2.1, by rw [Jo.piece_length]; omega, .inl (by rw [hpd]; exact HI.out.1.below (((Below.refl _ _).alloc (Nat.le_refl _) _).mono (Nat.le_trans hB0 HI.out.2.2.2.size)))⟩
      have HPL : Hid ((Jo.piece p k).length = r) := hid (by rw [hpd, List.length_drop, HX.out.1]; omega)
      have HTK : Hid (((Ck.pieces p).take k).length = k) := hid (by rw [List.length_take, Ck.pieces_length, HX.out.1]; omega)
      have HST : Hid ((Ck.pieces p).take k ++ [Jo.piece p k] = Ck.pieces p) := hid (by rw [Ck.pieces_step p k (by rw [HX.out.1]; omega), List.take_of_length_le (by rw [Ck.pieces_length, HX.out.1]; omega)])
      have HKS := hid hks
      clear hpd hks
      go_wp2_with (at_builtin; refine wpList_append_rowB rfl _ _ rfl B0 w.heap.size ⟨hB0, by have := HI.out.2.2.2.size; simp; omega⟩ _ ((Ck.pieces p).take k) rfl (HI.out.2.2.1.below ((Below.refl _ _).alloc (Nat.le_refl _) _) (Nat.le_trans hB0 HI.out.2.2.2.size)) ⟨wr.heap.size, 0, none⟩ 1 A' cr (Jo.piece p k) r HPL.out rfl (one_new _ _ _) HE.out (Ck.pieces p) HST.out k HTK.out hk5 ?_; intro A2 c2 w2 hR2 hb2)
      have HP2 := hid (And.intro hR2 ((HI.out.2.2.2.alloc HI.out.2.2.2.size _).trans (hb2.below (by have := HI.out.2.2.2.size; simp; omega))))
      clear hR2 hb2
      go_wp2
      go_ret
      rw [← HKS.out]
      exact ⟨A2, c2, rfl, HP2⟩
end C
end Go.Proofs.YtdgijnolpjaheaaGreat
namespace Go.Proofs.YtdgijnolpjaheaaGreat
open Go.RowKit

namespace Ck
def head' (e : Int) (i : Nat) (b : Bool) : List Nat := Jo.head e 0 (Jo.mark i b : Nat)
theorem head'_length (e : Int) (i : Nat) (b : Bool) : (head' e i b).length = 24 := rfl
theorem two_heads (l : List Nat) (e : Int) (i : Nat) (hi : i ≤ 40000) (h0 : head' e i false <+: l) (h1 : head' e i true <+: l) : False := by
  obtain ⟨t, rfl⟩ := h1
  have := Jo.head_mark (by simp [Jo.mark]; omega) (by simp [Jo.mark]; omega) h0
  simp [Jo.mark] at this
theorem due_first {l : List Nat} {e : Int} {i : Nat} (h0 : head' e i false <+: l) (hl : l.length = 64) : due l e i = (l.drop 24, false, true) := by
  unfold due
  rw [if_pos (show Jo.head e 0 (Jo.mark i false : Nat) <+: l from h0), decide_eq_true (by rw [List.length_drop]; omega)]
theorem due_second {l : List Nat} {e : Int} {i : Nat} (hi : i ≤ 40000) (h1 : head' e i true <+: l) : due l e i = (l.drop 24, true, true) := by
  unfold due
  rw [if_neg (show ¬ Jo.head e 0 (Jo.mark i false : Nat) <+: l from fun h0 => two_heads l e i hi h0 h1), if_pos (show Jo.head e 0 (Jo.mark i true : Nat) <+: l from h1)]
  rfl
theorem due_not {l : List Nat} {e : Int} {i : Nat} (h0 : ¬ (head' e i false <+: l ∧ l.length = 64)) (h1 : ¬ head' e i true <+: l) : (due l e i).2.2 = false := by
  unfold due
  by_cases h : Jo.head e 0 (Jo.mark i false : Nat) <+: l
  · rw [if_pos h]
    refine decide_eq_false (fun h2 => h0 ⟨h, ?_⟩)
    rw [List.length_drop] at h2
    have := h.length_le
    rw [Jo.head_length] at this
    omega
  · rw [if_neg h, if_neg (show ¬ Jo.head e 0 (Jo.mark i true : Nat) <+: l from h1)]
theorem take24 (H l : List Nat) (h : H.length = 24) : l.take 24 = H.take 24 ↔ H <+: l := by
  rw [List.take_of_length_le (Nat.le_of_eq h), List.prefix_iff_eq_take, h]
  exact ⟨Eq.symm, Eq.symm⟩
end Ck
namespace C
/-- what Is tells -/
def Tells (w : World) (x : List Nat × Bool × Bool) (e' : Ending) (w' : World) : Prop :=
  ∃ A' c' x1 lst, e' = .returned (.tuple #[.slice A' (List.length x1) c', .bool lst, .bool x.2.2]) ∧ Hid ((x.2.2 = true → x1 = x.1 ∧ lst = x.2.1) ∧ IsBytes w' w'.heap.size A' x1 ∧ (A' = none → c' = 0) ∧ Below w.heap.size w w')
set_option maxRecDepth 100000 in
set_option maxHeartbeats 4000000 in
theorem refIs_any (A : Option Addr) (c : Nat) (l : List Nat) (N : Nat) (hN : l.length = N) (hN2 : N ≤ 64) (hc : N ≤ c) (hcm : c ≤ maxLen) (e : Int) (he : InInt e) (i : Nat) (hi : i ≤ 40000) (w : World) (h : IsBytes w w.heap.size A l) :
    Calls Tryz.prog 72 #[.slice A N c, .int .i64 e, .int .i64 0, .int .i64 (i : Int)] w (Tells w (Ck.due l e i)) := by
  unfold maxLen at hcm
  obtain ⟨x, hx⟩ : ∃ x, x = Ck.due l e i := ⟨_, rfl⟩
  rw [← hx]
  have D0 := hid (fun a b => hx.trans (Ck.due_first (l := l) (e := e) (i := i) a b))
  have D1 := hid (fun a => hx.trans (Ck.due_second (l := l) (e := e) hi a))
  have D2 : Hid (∀ a b, x.2.2 = false) := hid (fun a b => by rw [hx]; exact Ck.due_not (l := l) (e := e) (i := i) a b)
  have HX := hid (And.intro hN (And.intro he h))
  have HP := hid (fun (b : Bool) (w' : World) => refPiece_any e 0 he (by unfold InInt; omega) i (by omega) b none 0 [] 0 rfl (by omega) (fun _ => rfl) w' IsBytes.nil)
  clear hx he h
  by_cases h24 : N < 24
  · have h24i : (N : Int) < 24 := by omega
    have HD : Hid (x.2.2 = false) := hid (D2.out (fun hh => by have := hh.1.length_le; rw [Ck.head'_length, HX.out.1] at this; omega) (fun hh => by have := hh.length_le; rw [Ck.head'_length, HX.out.1] at this; omega))
    clear hN
    go_enter Tryz.func72, Tryz.ntmps72
    go_wp2
    go_ret3
    exact ⟨none, 0, [], false, by rw [HD.out]; rfl, hid ⟨fun h => (by rw [HD.out] at h; cases h), IsBytes.nil, fun _ => rfl, Below.refl _ _⟩⟩
  · have h24i : ¬ (N : Int) < 24 := by omega
    have h64i : ¬ (64 : Int) < (N : Int) := by omega
    obtain ⟨b, off, rfl, _, _⟩ := HX.out.2.2.cells 0 (by rw [HX.out.1]; omega)
    clear hN
    go_enter Tryz.func72, Tryz.ntmps72
    go_wp2_with fail
    go_loopw [11] (fun v wr => (v = .int .i64 0 ∧ Hid (Below w.heap.size w wr)) ∨ (v = .int .i64 1 ∧ Hid (Below w.heap.size w wr ∧ ¬ (Ck.head' e i false <+: l ∧ l.length = 64))) ∨ (v = .int .i64 2 ∧ Hid (Below w.heap.size w wr ∧ ¬ (Ck.head' e i false <+: l ∧ l.length = 64) ∧ ¬ Ck.head' e i true <+: l))) (fun v _ => (2 - RowKit.intOf v).toNat)
    case atStart => exact .inl ⟨rfl, hid (Below.refl _ _)⟩
    case round =>
      rcases hrel with ⟨rfl, HB⟩ | ⟨rfl, HB⟩ | ⟨rfl, HB⟩
      · go_wp2_with fail
        refine (HP.out false wr).mono ?_
        rintro e2 w2 ⟨A2, c2, rfl, H2⟩
        obtain ⟨H, hH⟩ : ∃ H, H = Ck.head' e i false := ⟨_, rfl⟩
        have hHl : H.length = 24 := by rw [hH]; rfl
        have H2' : Hid (IsBytes w2 w2.heap.size A2 H ∧ Below w.heap.size w w2) := hid ⟨by have h1 := H2.out.1.reads; rw [List.append_nil] at h1; rw [hH]; exact h1, HB.out.trans (H2.out.2.mono HB.out.size)⟩
        have HH := hid (And.intro hH hHl)
        clear H2 hH hHl
        go_wp2_with fail
        go_loopw [13, 14] (fun v13 v14 wy => ∃ (j : Nat) (s : Bool), j ≤ 24 ∧ v13 = .bool s ∧ v14 = .int .i64 (j : Int) ∧ Hid ((s = true ↔ ((N = 64) ∧ l.take j = H.take j)) ∧ ∃ q, wy = w2.drewN q)) (fun _ v14 _ => (24 - RowKit.intOf v14).toNat)
        case atStart => exact ⟨0, ((N : Int) == 64), by omega, rfl, rfl, hid ⟨by rw [beq_iff_eq]; simp; omega, 0, rfl⟩⟩
        case round =>
          obtain ⟨j, s, hj, rfl, rfl, HI⟩ := hrel
          obtain ⟨q, hq⟩ := HI.out.2
          have HQ := hid hq
          clear hq
          by_cases hlt : j < 24
          · have hlti : (j : Int) < 24 := by omega
            cases s with
            | false =>
              have HN : Hid ((false = true ↔ ((N = 64) ∧ l.take (j + 1) = H.take (j + 1)))) := hid ⟨fun h => (by cases h), fun hh => HI.out.1.2 ⟨hh.1, by
                have h1 := congrArg (List.take j) hh.2
                rwa [List.take_take, List.take_take, Nat.min_eq_left (by omega)] at h1⟩⟩
              go_wp2
              go_quiet (fail)
              go_wp2
              go_roundw
              case rel => exact ⟨j + 1, false, by omega, rfl, by go_num, hid ⟨HN.out, q + nq, by rw [HQ.out, World.drewN_drewN]⟩⟩
              case measure => simp [RowKit.intOf]; omega
            | true =>
              have hjl : j < l.length := by rw [HX.out.1]; omega
              have hjH : j < H.length := by rw [HH.out.2]; omega
              have hbel : Below w.heap.size w wr := by rw [HQ.out]; exact below_drewN H2'.out.2 q
              have hcell := ((HX.out.2.2.below hbel).cells j hjl)
              obtain ⟨b1, o1, e1, _, hc1⟩ := hcell
              injection e1 with e1
              injection e1 with e1 e2
              subst e1
              subst e2
              have hck1 := hc1 j hjl
              have hr2 : IsBytes wr wr.heap.size A2 H := by rw [HQ.out]; exact H2'.out.1.drewN q
              obtain ⟨b2, o2, rfl, _, hc2⟩ := hr2.cells j hjH
              have hck2 := hc2 j hjH
              obtain ⟨u, hu⟩ : ∃ u, u = l[j] := ⟨_, rfl⟩
              obtain ⟨v, hv⟩ : ∃ v, v = H[j] := ⟨_, rfl⟩
              rw [← hu] at hck1
              rw [← hv] at hck2
              have HUV := hid (And.intro hu hv)
              have hj24 : (j : Int) < (N : Int) := by omega
              clear hc1 hc2 hr2 hu hv hbel
              by_cases huv : u = v
              · have HN : Hid ((true = true ↔ ((N = 64) ∧ l.take (j + 1) = H.take (j + 1)))) := hid ⟨fun _ => ⟨(HI.out.1.1 rfl).1, by
                  rw [List.take_succ_eq_append_getElem hjl, List.take_succ_eq_append_getElem hjH, (HI.out.1.1 rfl).2, ← HUV.out.1, ← HUV.out.2, huv]⟩, fun _ => rfl⟩
                have huvb : ((u : Int) == (v : Int)) = true := by rw [beq_iff_eq]; omega
                clear huv
                go_wp2
                go_quiet (fail)
                go_wp2
                go_roundw
                case rel => exact ⟨j + 1, true, by omega, rfl, by go_num, hid ⟨⟨fun _ => HN.out.1 trivial, fun _ => rfl⟩, q + nq, by rw [HQ.out, World.drewN_drewN]⟩⟩
                case measure => simp [RowKit.intOf]; omega
              · have HN : Hid ((false = true ↔ ((N = 64) ∧ l.take (j + 1) = H.take (j + 1)))) := hid ⟨fun h => (by cases h), fun hh => by
                  have h1 := hh.2
                  rw [List.take_succ_eq_append_getElem hjl, List.take_succ_eq_append_getElem hjH, ← HUV.out.1, ← HUV.out.2] at h1
                  have h2 := (List.append_inj' h1 rfl).2
                  injection h2 with h2
                  exact absurd h2 huv⟩
                have huvb : ((u : Int) == (v : Int)) = false := by rw [beq_eq_false_iff_ne]; omega
                clear huv
                go_wp2
                go_quiet (fail)
                go_wp2
                go_roundw
                case rel => exact ⟨j + 1, false, by omega, rfl, by go_num, hid ⟨HN.out, q + nq, by rw [HQ.out, World.drewN_drewN]⟩⟩
                case measure => simp [RowKit.intOf]; omega
          · have hlti : ¬ (j : Int) < 24 := by omega
            have hbel : Below w.heap.size w wr := by rw [HQ.out]; exact below_drewN H2'.out.2 q
            have HBL := hid hbel
            clear hbel
            cases s with
            | true =>
              have hpre : (N = 64) ∧ Ck.head' e i false <+: l := by
                obtain ⟨h1, h2⟩ := HI.out.1.1 rfl
                have hj24 : j = 24 := by omega
                rw [hj24] at h2
                refine ⟨h1, ?_⟩
                rw [← HH.out.1]
                exact (Ck.take24 H l HH.out.2).1 h2
              have HD := hid (D0.out hpre.2 (HX.out.1.trans hpre.1))
              clear hpre
              by_cases hc24 : c ≤ 24
              · have HN24 : Hid (l.drop 24 = [] ∧ N = 24) := hid ⟨List.drop_of_length_le (by rw [HX.out.1]; omega), by omega⟩
                go_wp2
                go_ret3
                refine ⟨some ⟨b, off, none⟩, 0, [], false, ?_, hid ⟨fun _ => ?_, IsBytes.nil, fun _ => rfl, HBL.out⟩⟩
                · rw [HD.out]
                  have := HN24.out.2
                  first | rfl | (simp; omega)
                · rw [HD.out]; exact ⟨HN24.out.1.symm, rfl⟩
              · have hc24' : 24 < c := by omega
                go_wp2
                go_ret3
                refine ⟨some ⟨b, off + 24, none⟩, c - 24, l.drop 24, false, ?_, hid ⟨fun _ => ?_, ?_, (fun h => by cases h), HBL.out⟩⟩
                · rw [HD.out, List.length_drop, HX.out.1]; rfl
                · rw [HD.out]; exact ⟨rfl, rfl⟩
                · exact ((HX.out.2.2.from 24).below HBL.out).more HBL.out.size
            | false =>
              have hnot : ¬ ((N = 64) ∧ Ck.head' e i false <+: l) := fun hh => by
                have h2 : false = true := HI.out.1.2 ⟨hh.1, by
                  have hj24 : j = 24 := by omega
                  rw [hj24]
                  exact (Ck.take24 H l HH.out.2).2 (by rw [HH.out.1]; exact hh.2)⟩
                cases h2
              have HNOT := hid hnot
              clear hnot
              go_wp2
              go_roundw
              case rel => exact .inr (.inl ⟨rfl, hid ⟨HBL.out, fun hh => HNOT.out ⟨HX.out.1.symm.trans hh.2, hh.1⟩⟩⟩)
              case measure => simp [RowKit.intOf]
      · go_wp2_with fail
        refine (HP.out true wr).mono ?_
        rintro e2 w2 ⟨A2, c2, rfl, H2⟩
        obtain ⟨H, hH⟩ : ∃ H, H = Ck.head' e i true := ⟨_, rfl⟩
        have hHl : H.length = 24 := by rw [hH]; rfl
        have H2' : Hid (IsBytes w2 w2.heap.size A2 H ∧ Below w.heap.size w w2) := hid ⟨by have h1 := H2.out.1.reads; rw [List.append_nil] at h1; rw [hH]; exact h1, HB.out.1.trans (H2.out.2.mono HB.out.1.size)⟩
        have HH := hid (And.intro hH hHl)
        clear H2 hH hHl
        have HBOLD := hid HB.out.2
        go_wp2_with fail
        go_loopw [13, 14] (fun v13 v14 wy => ∃ (j : Nat) (s : Bool), j ≤ 24 ∧ v13 = .bool s ∧ v14 = .int .i64 (j : Int) ∧ Hid ((s = true ↔ (True ∧ l.take j = H.take j)) ∧ ∃ q, wy = w2.drewN q)) (fun _ v14 _ => (24 - RowKit.intOf v14).toNat)
        case atStart => exact ⟨0, true, by omega, rfl, rfl, hid ⟨by simp, 0, rfl⟩⟩
        case round =>
          obtain ⟨j, s, hj, rfl, rfl, HI⟩ := hrel
          obtain ⟨q, hq⟩ := HI.out.2
          have HQ := hid hq
          clear hq
          by_cases hlt : j < 24
          · have hlti : (j : Int) < 24 := by omega
            cases s with
            | false =>
              have HN : Hid ((false = true ↔ (True ∧ l.take (j + 1) = H.take (j + 1)))) := hid ⟨fun h => (by cases h), fun hh => HI.out.1.2 ⟨hh.1, by
                have h1 := congrArg (List.take j) hh.2
                rwa [List.take_take, List.take_take, Nat.min_eq_left (by omega)] at h1⟩⟩
              go_wp2
              go_quiet (fail)
              go_wp2
              go_roundw
              case rel => exact ⟨j + 1, false, by omega, rfl, by go_num, hid ⟨HN.out, q + nq, by rw [HQ.out, World.drewN_drewN]⟩⟩
              case measure => simp [RowKit.intOf]; omega
            | true =>
              have hjl : j < l.length := by rw [HX.out.1]; omega
              have hjH : j < H.length := by rw [HH.out.2]; omega
              have hbel : Below w.heap.size w wr := by rw [HQ.out]; exact below_drewN H2'.out.2 q
              have hcell := ((HX.out.2.2.below hbel).cells j hjl)
              obtain ⟨b1, o1, e1, _, hc1⟩ := hcell
              injection e1 with e1
              injection e1 with e1 e2
              subst e1
              subst e2
              have hck1 := hc1 j hjl
              have hr2 : IsBytes wr wr.heap.size A2 H := by rw [HQ.out]; exact H2'.out.1.drewN q
              obtain ⟨b2, o2, rfl, _, hc2⟩ := hr2.cells j hjH
              have hck2 := hc2 j hjH
              obtain ⟨u, hu⟩ : ∃ u, u = l[j] := ⟨_, rfl⟩
              obtain ⟨v, hv⟩ : ∃ v, v = H[j] := ⟨_, rfl⟩
              rw [← hu] at hck1
              rw [← hv] at hck2
              have HUV := hid (And.intro hu hv)
              have hj24 : (j : Int) < (N : Int) := by omega
              clear hc1 hc2 hr2 hu hv hbel
              by_cases huv : u = v
              · have HN : Hid ((true = true ↔ (True ∧ l.take (j + 1) = H.take (j + 1)))) := hid ⟨fun _ => ⟨(HI.out.1.1 rfl).1, by
                  rw [List.take_succ_eq_append_getElem hjl, List.take_succ_eq_append_getElem hjH, (HI.out.1.1 rfl).2, ← HUV.out.1, ← HUV.out.2, huv]⟩, fun _ => rfl⟩
                have huvb : ((u : Int) == (v : Int)) = true := by rw [beq_iff_eq]; omega
                clear huv
                go_wp2
                go_quiet (fail)
                go_wp2
                go_roundw
                case rel => exact ⟨j + 1, true, by omega, rfl, by go_num, hid ⟨⟨fun _ => HN.out.1 trivial, fun _ => rfl⟩, q + nq, by rw [HQ.out, World.drewN_drewN]⟩⟩
                case measure => simp [RowKit.intOf]; omega
              · have HN : Hid ((false = true ↔ (True ∧ l.take (j + 1) = H.take (j + 1)))) := hid ⟨fun h => (by cases h), fun hh => by
                  have h1 := hh.2
                  rw [List.take_succ_eq_append_getElem hjl, List.take_succ_eq_append_getElem hjH, ← HUV.out.1, ← HUV.out.2] at h1
                  have h2 := (List.append_inj' h1 rfl).2
                  injection h2 with h2
                  exact absurd h2 huv⟩
                have huvb : ((u : Int) == (v : Int)) = false := by rw [beq_eq_false_iff_ne]; omega
                clear huv
                go_wp2
                go_quiet (fail)
                go_wp2
                go_roundw
                case rel => exact ⟨j + 1, false, by omega, rfl, by go_num, hid ⟨HN.out, q + nq, by rw [HQ.out, World.drewN_drewN]⟩⟩
                case measure => simp [RowKit.intOf]; omega
          · have hlti : ¬ (j : Int) < 24 := by omega
            have hbel : Below w.heap.size w wr := by rw [HQ.out]; exact below_drewN H2'.out.2 q
            have HBL := hid hbel
            clear hbel
            cases s with
            | true =>
              have hpre : True ∧ Ck.head' e i true <+: l := by
                obtain ⟨h1, h2⟩ := HI.out.1.1 rfl
                have hj24 : j = 24 := by omega
                rw [hj24] at h2
                refine ⟨h1, ?_⟩
                rw [← HH.out.1]
                exact (Ck.take24 H l HH.out.2).1 h2
              have HD := hid (D1.out hpre.2)
              clear hpre
              by_cases hc24 : c ≤ 24
              · have HN24 : Hid (l.drop 24 = [] ∧ N = 24) := hid ⟨List.drop_of_length_le (by rw [HX.out.1]; omega), by omega⟩
                go_wp2
                go_ret3
                refine ⟨some ⟨b, off, none⟩, 0, [], true, ?_, hid ⟨fun _ => ?_, IsBytes.nil, fun _ => rfl, HBL.out⟩⟩
                · rw [HD.out]
                  have := HN24.out.2
                  first | rfl | (simp; omega)
                · rw [HD.out]; exact ⟨HN24.out.1.symm, rfl⟩
              · have hc24' : 24 < c := by omega
                go_wp2
                go_ret3
                refine ⟨some ⟨b, off + 24, none⟩, c - 24, l.drop 24, true, ?_, hid ⟨fun _ => ?_, ?_, (fun h => by cases h), HBL.out⟩⟩
                · rw [HD.out, List.length_drop, HX.out.1]; rfl
                · rw [HD.out]; exact ⟨rfl, rfl⟩
                · exact ((HX.out.2.2.from 24).below HBL.out).more HBL.out.size
            | false =>
              have hnot : ¬ (True ∧ Ck.head' e i true <+: l) := fun hh => by
                have h2 : false = true := HI.out.1.2 ⟨hh.1, by
                  have hj24 : j = 24 := by omega
                  rw [hj24]
                  exact (Ck.take24 H l HH.out.2).2 (by rw [HH.out.1]; exact hh.2)⟩
                cases h2
              have HNOT := hid hnot
              clear hnot
              go_wp2
              go_roundw
              case rel => exact .inr (.inr ⟨rfl, hid ⟨HBL.out, HBOLD.out, fun hh => HNOT.out ⟨trivial, hh⟩⟩⟩)
              case measure => simp [RowKit.intOf]
      · have HD : Hid (x.2.2 = false) := hid (D2.out HB.out.2.1 HB.out.2.2)
        go_wp2
        go_ret3
        exact ⟨none, 0, [], false, by rw [HD.out]; rfl, hid ⟨fun h => (by rw [HD.out] at h; cases h), IsBytes.nil, fun _ => rfl, HB.out.1⟩⟩
end C
end Go.Proofs.YtdgijnolpjaheaaGreat
namespace Go.Proofs.YtdgijnolpjaheaaGreat
open Go.RowKit

theorem wp_append_byteN {P : Program} {w : World} {o : Oper} {a : Act} {K : Act → World → Prop} {Q : Exit → Act → World → Prop} (s x : Operand) (t : TypeId)
    (ho : o.op = .call { callee := .builtin .append, args := #[s, x], argTypes := #[t, t] })
    (base : Nat) (e : TypeId) (i : TypeInfo) (ht : P.underlying t = some (.slice e)) (hi : P.info? e = some i) (hz : i.zero = some (.int .u8 0)) (hsize : i.size = 1) (hby : i.bytes = 1)
    (A : Option Addr) (c : Nat) (l : List Nat) (n : Nat) (hln : l.length = n) (hs : a.eval s = .slice A n c) (hown : OwnsB e w base A c l)
    (ad : Addr) (c' : Nat) (y : Nat) (v : Int) (hyv : v = (y : Int)) (hy : y < 256) (hx : a.eval x = .slice (some ad) 1 c') (hc : w.cell? ad = some (.int .u8 v))
    (L : List Nat) (hL : l ++ [y] = L) (hbytes : n + 1 ≤ 140737488355328) (hbase : base ≤ w.heap.size)
    (h : ∀ A2 c2 w', OwnsB e w' base A2 c2 L → Below base w w' → w.grownBy w' (blk A) → (blk A2 = blk A ∨ blk A2 = some w.heap.size) → K (a.put o.dst (.slice A2 (n + 1) c2)) w') : o.wp P a w K Q := by
  subst hln
  subst hL
  subst hyv
  obtain ⟨v', w', hr, h1, h2, _, h4⟩ := run_append_own_at (P := P) w base t o.type e i (.int .u8 0) 1 1 ht hi hz hsize hby rfl (by decide) _ l.length (bytes l) hown.row ad 1 c' [.int .u8 (y : Int)] rfl
    (fun j u hj => by
      match j, hj with
      | 0, hj => simp at hj; subst hj; simpa [Addr.add] using hc) (fun u hu => by simp at hu; subst hu; rfl) (by unfold maxLen; omega) (by omega) hbase
  obtain ⟨A2, c2, rfl⟩ := own_slice h1
  have e2 : bytes l ++ [Value.int .u8 (y : Int)] = bytes (l ++ [y]) := by unfold bytes; simp
  rw [e2] at h1
  rw [ownBlock_slice, ownBlock_slice] at h4
  unfold Oper.wp execOp
  simp only [ho, resolve, invoke, builtin, Sem.run_bind, Sem.run_pure, Result.andThen_ok, List.map_toArray, List.map_cons, List.map_nil, hs, hx, hr]
  refine h A2 c2 w' ⟨fun z hz => ?_, by rw [List.length_append]; exact h1⟩ (below_grown h2 hbase fun k hk => (hown.row.lt k hk).1) (by rw [← ownBlock_slice A l.length c]; exact h2) h4
  rcases List.mem_append.1 hz with hz | hz
  · exact hown.small z hz
  · simp at hz; subst hz; exact hy
theorem step_append_byteN {P : Program} {w : World} {ops : Array Oper} {o : Oper} {a : Act} {K : Act → World → Prop} {Q : Exit → Act → World → Prop} {E : Prop} (hgd : o.guard = none) (s x : Operand) (t : TypeId)
    (ho : o.op = .call { callee := .builtin .append, args := #[s, x], argTypes := #[t, t] })
    (base : Nat) (e : TypeId) (i : TypeInfo) (ht : P.underlying t = some (.slice e)) (hi : P.info? e = some i) (hz : i.zero = some (.int .u8 0)) (hsize : i.size = 1) (hby : i.bytes = 1)
    (A : Option Addr) (c : Nat) (l : List Nat) (n : Nat) (hln : l.length = n) (hs : a.eval s = .slice A n c) (hown : OwnsB e w base A c l)
    (ad : Addr) (c' : Nat) (y : Nat) (v : Int) (hyv : v = (y : Int)) (hy : y < 256) (hx : a.eval x = .slice (some ad) 1 c') (hc : w.cell? ad = some (.int .u8 v))
    (L : List Nat) (hL : l ++ [y] = L) (hbytes : n + 1 ≤ 140737488355328) (hbase : base ≤ w.heap.size)
    (h : ∀ A2 c2 w', OwnsB e w' base A2 c2 L → Below base w w' → w.grownBy w' (blk A) → (blk A2 = blk A ∨ blk A2 = some w.heap.size) → K (a.put o.dst (.slice A2 (n + 1) c2)) w') :
    if Region.wanted o (yielded ops a.tmps) = true then Oper.wp P o a w K Q else E := by
  have hw : Region.wanted o (yielded ops a.tmps) = true := by simp [Region.wanted, hgd]
  rw [if_pos hw]
  exact wp_append_byteN s x t ho base e i ht hi hz hsize hby A c l n hln hs hown ad c' y v hyv hy hx hc L hL hbytes hbase h
theorem OwnsB.readsB {e : TypeId} {w : World} {base c top : Nat} {A : Option Addr} {l : List Nat} (h : OwnsB e w base A c l) (ht : ∀ k, blk A = some k → k < top) : IsBytes w top A l := by
  refine ⟨h.small, fun k hk => ?_⟩
  obtain ⟨b, off, e, _, hc⟩ := h.reads.cells k hk
  exact ⟨b, off, e, ht b (by rw [e]; rfl), hc⟩
end Go.Proofs.YtdgijnolpjaheaaGreat
