/- Texts of the proof, one behind the other: Rf8C. -/
import Derived.Test.YtdgijnolpjaheaaGreatPartAQ
import Derived.Test.YtdgijnolpjaheaaGreatPartAR
import Derived.Test.YtdgijnolpjaheaaGreatPartAL
namespace Go.Proofs.YtdgijnolpjaheaaGreat
open Go.RowKit

/-- the document's disk is read as the state s -/
def ReadsAs (x : Sx.Xs) (s : Sx.St) : Prop := ∀ i : Int, Sx.rdX x i = (Sx.rdB s i, Sx.rdE s i) ∧ (Sx.rdB s i).length ≤ 64
namespace C
theorem refRead_N (Z : Nat → Prop) (g : Nat) (x : Sx.Xs) (s : Sx.St) (hs : ReadsAs x s) (i : Int) (w : World) (h : RefAt w Z g x) :
    Calls Tryz.prog 36 #[.pointer (some ⟨g, 0, none⟩), .int .i64 i] w fun e w' => ∃ A c, e = .returned (.tuple #[.slice A (Sx.rdB s i).length c, .int .i64 (Sx.rdE s i)]) ∧ Hid (OwnsB 5 w' w.heap.size A c (Sx.rdB s i) ∧ Below w.heap.size w w') := by
  have h1 := refRead_any Z g x i w h
  rw [(hs i).1] at h1
  exact h1.mono fun _ _ ⟨A, c, h2, h3, h4⟩ => ⟨A, c, h2, h3, h4⟩
theorem refEpoch_any (A : Option Addr) (c : Nat) (l : List Nat) (hl : l.length ≤ 64) (w : World) (h : IsBytes w w.heap.size A l) :
    Calls Tryz.prog 70 #[.slice A l.length c] w fun e w' => e = .returned (.pointer (some ⟨w.heap.size, 0, none⟩)) ∧ Hid (RefR w' w.heap.size w'.heap.size l 0 false ∧ Below w.heap.size w w') :=
  (refReader_any w.heap.size A c l (by omega) w h (Nat.le_refl _)).mono fun _ _ ⟨h1, h2, h3⟩ => ⟨h1, h2, h3⟩
theorem refNum_any (g top : Nat) (l : List Nat) (w w0 : World) (hw : w0.heap.size ≤ g) (hb : Below w0.heap.size w0 w) (h : RefR w g top l 0 false) (o : Int) (ho : Ck.epoch l = o) :
    Calls Tryz.prog 71 #[.pointer (some ⟨g, 0, none⟩)] w fun e w' => e = .returned (.int .i64 o) ∧ Hid (Below w0.heap.size w0 w') := by
  refine (refRInt_any g top l 0 false w h).mono ?_
  rintro e w' ⟨a2, b2, h1, _, _, h4⟩
  refine ⟨?_, hb.trans (below_grown h4 hb.size (fun k ek => by injection ek with ek; omega))⟩
  rw [h1, ← ho]
  rfl
set_option maxRecDepth 100000 in
set_option maxHeartbeats 2000000 in
theorem refWhole0_any (Z : Nat → Prop) (g : Nat) (x : Sx.Xs) (s : Sx.St) (hs : ReadsAs x s) (F n : Nat) (hF : F ≤ 100000) (hn : 1 ≤ n ∧ n ≤ 20000) (w : World) (h : RefAt w Z g x) :
    Calls Tryz.prog 61 #[.pointer (some ⟨g, 0, none⟩), .int .i64 (F : Int), .int .i64 (n : Int), .int .i64 0] w fun e' w' => ∃ A c, e' = .returned (.tuple #[.slice A (Ck.told (Ck.whole (Jo.rdOf s) F n 0)).2.length c, .int .i64 (Ck.told (Ck.whole (Jo.rdOf s) F n 0)).1]) ∧
      Hid (OwnsB 5 w' w.heap.size A c (Ck.told (Ck.whole (Jo.rdOf s) F n 0)).2 ∧ Below w.heap.size w w') := by
  obtain ⟨hn1, hn2⟩ := hn
  have HR0 := hid (refRead_N Z g x s hs (F : Int) w h)
  obtain ⟨b0, hb0⟩ : ∃ b0, b0 = Sx.rdB s (F : Int) := ⟨_, rfl⟩
  obtain ⟨E0, hE0⟩ : ∃ E0, E0 = Sx.rdE s (F : Int) := ⟨_, rfl⟩
  have hb64 : b0.length ≤ 64 := by rw [hb0]; exact (hs (F : Int)).2
  rw [← hb0, ← hE0] at HR0
  have hrd : Jo.rdOf s F = (E0, b0) := by rw [hE0, hb0]; rfl
  obtain ⟨X, hX⟩ : ∃ X, X = Ck.told (Ck.whole (Jo.rdOf s) F n 0) := ⟨_, rfl⟩
  rw [← hX]
  obtain ⟨e, he⟩ : ∃ e, Ck.epoch b0 = e := ⟨_, rfl⟩
  have HE := hid he
  have HH := hid (And.intro hs h)
  clear hb0 hE0 hs h
  by_cases h0 : E0 = 0
  · have hEb : (E0 != 0) = false := by rw [h0]; rfl
    by_cases hok : Ck.Epoch e ∧ e % 2 = 0
    · obtain ⟨en, hen⟩ := Int.eq_ofNat_of_zero_le (show 0 ≤ e by have := hok.1.1; omega)
      have hL : Ck.whole (Jo.rdOf s) F n 0 = (Ck.take (Jo.rdOf s) e n F []).map fun p => (e, p) := by
        unfold Ck.whole
        rw [hrd]
        show (if E0 = 0 ∧ 1 ≤ Ck.epoch b0 ∧ Ck.epoch b0 ≤ 1099511627776 ∧ Ck.epoch b0 % 2 = 0 then _ else _) = _
        rw [he, if_pos ⟨h0, hok.1.1, hok.1.2, hok.2⟩]
      rw [hL, hen] at hX
      rw [hen] at hok HE
      have HX := hid hX
      have hlo : 1 ≤ (en : Int) := hok.1.1
      have hhi : (en : Int) ≤ 1099511627776 := hok.1.2
      have hpb : ((en : Int) % 2 != 0) = false := by rw [bne_eq_false_iff_eq]; exact hok.2
      have HIN : Hid (InInt (en : Int)) := hid ⟨by omega, by omega⟩
      obtain ⟨i1, hj, hj0, hj1, hj2⟩ := info_parts info_u8
      clear hL hX hrd he hen hok h0
      go_enter Tryz.func61, Tryz.ntmps61
      go_wp2_with fail
      refine HR0.out.mono ?_
      rintro e1 w1 ⟨A1, c1, rfl, H1⟩
      go_wp2_with fail
      refine (refEpoch_any A1 c1 b0 hb64 w1 H1.out.1.reads).mono ?_
      rintro e2 w2 ⟨rfl, H2⟩
      go_wp2_with fail
      refine (refNum_any _ _ b0 w2 w1 (Nat.le_refl _) H2.out.2 H2.out.1 (en : Int) HE.out).mono ?_
      rintro e3 w3 ⟨rfl, H3⟩
      have HB3 := hid (H1.out.2.trans (H3.out.mono H1.out.2.size))
      go_wp2_with fail
      go_loopw [13, 14] (fun vr i wr => ∃ (k : Nat) (r : List Nat) (A : Option Addr) (c : Nat), k ≤ n ∧ i = .int .i64 (k : Int) ∧ vr = .slice A r.length c ∧ r.length ≤ 1000000 ∧ Hid (r.length = 40 * k) ∧ Hid (OwnsB 5 wr w.heap.size A c r ∧ Below w.heap.size w wr ∧ Ck.take (Jo.rdOf s) (en : Int) (n - k) (F + k) r = Ck.take (Jo.rdOf s) (en : Int) n F [])) (fun _ i _ => (n - RowKit.intOf i).toNat)
      case atStart => exact ⟨0, [], none, 0, by omega, rfl, rfl, by simp, hid rfl, hid ⟨OwnsB.nil _ _ _, HB3.out, rfl⟩⟩
      case round =>
        obtain ⟨k, r, A, c, hk, rfl, rfl, hrb, HR40, HI⟩ := hrel
        by_cases hlt : k < n
        · have hk0 : (k : Int) < (n : Int) := by omega
          obtain ⟨m, hm⟩ : ∃ m, n - k = m + 1 := ⟨n - k - 1, by omega⟩
          have HRd := hid (refRead_N Z g x s HH.out.1 ((F : Int) + k) wr (HH.out.2.below HI.out.2.1))
          have hb64k : (Sx.rdB s ((F : Int) + k)).length ≤ 64 := (HH.out.1 ((F : Int) + k)).2
          obtain ⟨b, hbB⟩ : ∃ b, b = Sx.rdB s ((F : Int) + k) := ⟨_, rfl⟩
          obtain ⟨E, hE⟩ : ∃ E, E = Sx.rdE s ((F : Int) + k) := ⟨_, rfl⟩
          obtain ⟨y, hy⟩ : ∃ y, Hid (y = Ck.due b (en : Int) k) := ⟨_, hid rfl⟩
          obtain ⟨x1, lst, ok⟩ := y
          rw [← hbB, ← hE] at HRd
          rw [← hbB] at hb64k
          have HT : Hid ((if E ≠ 0 ∨ ok = false then none else if lst then some (r ++ x1) else Ck.take (Jo.rdOf s) (en : Int) m (F + k + 1) (r ++ x1)) = Ck.take (Jo.rdOf s) (en : Int) n F []) := by
            have h1 := HI.out.2.2
            rw [hm, Ck.take] at h1
            have h2 : Jo.rdOf s (F + k) = (E, b) := by rw [hE, hbB]; unfold Jo.rdOf; rw [Int.natCast_add]
            have h3 : r.length / 40 = k := by have := HR40.out; omega
            simp only [h2, h3, ← hy.out] at h1
            exact hid h1
          have hx64 : x1.length ≤ 64 := by have := Ck.due_x_len hy.out.symm; omega
          clear hbB hE
          go_wp2_with fail
          refine HRd.out.mono ?_
          rintro e4 w4 ⟨A1, c1, rfl, H4⟩
          have HP := hid (refIs_any A1 c1 b b.length rfl hb64k H4.out.1.cap H4.out.1.capLe (en : Int) HIN.out k (by omega) w4 H4.out.1.reads)
          have HB4 := hid (HI.out.2.1.trans (H4.out.2.mono HI.out.2.1.size))
          rw [← hy.out] at HP
          go_wp2_with fail
          refine HP.out.mono ?_
          rintro e5 w5 ⟨A2, c2, y1, yl, rfl, H5⟩
          have HB5 := hid (HB4.out.trans (H5.out.2.2.2.mono HB4.out.size))
          by_cases hE0 : E = 0
          · subst hE0
            cases ok with
            | false =>
              have HN : Hid (Ck.take (Jo.rdOf s) (en : Int) n F [] = none) := hid (by have := HT.out; rw [if_pos (.inr rfl)] at this; exact this.symm)
              clear HT
              go_wp2
              go_ret2
              have hxx : X = (0, []) := by rw [HX.out, HN.out]; rfl
              subst hxx
              exact ⟨none, 0, rfl, hid ⟨OwnsB.nil _ _ _, HB5.out⟩⟩
            | true =>
              have HT2 : Hid ((if lst then some (r ++ x1) else Ck.take (Jo.rdOf s) (en : Int) m (F + k + 1) (r ++ x1)) = Ck.take (Jo.rdOf s) (en : Int) n F []) := hid (by have := HT.out; rwa [if_neg (by simp)] at this)
              clear HT
              obtain ⟨hy1, hyl⟩ := H5.out.1 rfl
              have hy1' : y1 = x1 := hy1
              have hyl' : yl = lst := hyl
              subst hy1'
              subst hyl'
              clear hy1 hyl
              have hrr : r.length + y1.length ≤ 1000000 := by have := HR40.out; omega
              have HO := hid (And.intro (HI.out.1.below (H4.out.2.trans (H5.out.2.2.2.mono H4.out.2.size))) HB5.out)
              cases yl with
              | true =>
                go_wp2_with (at_builtin; refine wpList_append_bytesAt rfl _ _ 23 rfl w.heap.size 5 i1 Tryz.underlying23 hj hj0 hj1 hj2 A c r rfl HO.out.1 w5.heap.size A2 c2 y1 rfl H5.out.2.2.1 H5.out.2.1 (by omega) HO.out.2.size ?_)
                intro A3 c3 w6 hown6 hgr6 _
                have HO6 := hid (And.intro hown6 (HO.out.2.trans (below_grown hgr6 HO.out.2.size (fun j ej => (HO.out.1.blkLt j ej).1))))
                clear hown6 hgr6
                go_wp2
                go_ret2
                have hxx : X = ((en : Int), r ++ y1) := by
                  have := HT2.out
                  rw [if_pos trivial] at this
                  rw [HX.out, ← this]; rfl
                subst hxx
                exact ⟨A3, c3, by rw [List.length_append]; rfl, HO6⟩
              | false =>
                have H40 := hid (Ck.due_mid_len hy.out.symm)
                go_wp2_with (at_builtin; refine wpList_append_bytesAt rfl _ _ 23 rfl w.heap.size 5 i1 Tryz.underlying23 hj hj0 hj1 hj2 A c r rfl HO.out.1 w5.heap.size A2 c2 y1 rfl H5.out.2.2.1 H5.out.2.1 (by omega) HO.out.2.size ?_)
                intro A3 c3 w6 hown6 hgr6 _
                have HO6 : Hid (OwnsB 5 w6 w.heap.size A3 c3 (r ++ y1) ∧ Below w.heap.size w w6 ∧ Ck.take (Jo.rdOf s) (en : Int) (n - (k + 1)) (F + (k + 1)) (r ++ y1) = Ck.take (Jo.rdOf s) (en : Int) n F []) := hid ⟨hown6, HO.out.2.trans (below_grown hgr6 HO.out.2.size (fun j ej => (HO.out.1.blkLt j ej).1)), by
                  have := HT2.out
                  rw [if_neg (by simp)] at this
                  rw [show n - (k + 1) = m from by omega, show F + (k + 1) = F + k + 1 from by omega]
                  exact this⟩
                clear hown6 hgr6
                go_wp2
                go_roundw
                case rel => exact ⟨k + 1, r ++ y1, A3, c3, by omega, by go_num, by rw [List.length_append], by rw [List.length_append]; exact hrr, hid (by rw [List.length_append, HR40.out, H40.out]; omega), HO6⟩
                case measure => simp [RowKit.intOf]; omega
          · have hEbk : (E != 0) = true := by rw [bne_iff_ne]; exact hE0
            have HN : Hid (Ck.take (Jo.rdOf s) (en : Int) n F [] = none) := hid (by have := HT.out; rw [if_pos (.inl hE0)] at this; exact this.symm)
            clear HT hE0
            go_wp2
            go_ret2
            have hxx : X = (0, []) := by rw [HX.out, HN.out]; rfl
            subst hxx
            exact ⟨none, 0, rfl, hid ⟨OwnsB.nil _ _ _, HB5.out⟩⟩
        · have hk0 : ¬ (k : Int) < (n : Int) := by omega
          obtain rfl : k = n := by omega
          have HN : Hid (Ck.take (Jo.rdOf s) (en : Int) k F [] = none) := hid (by have := HI.out.2.2; rw [Nat.sub_self] at this; exact this.symm)
          go_wp2
          go_ret2
          have hxx : X = (0, []) := by rw [HX.out, HN.out]; rfl
          subst hxx
          exact ⟨none, 0, rfl, hid ⟨OwnsB.nil _ _ _, HI.out.2.1⟩⟩
    · have hxx : X = (0, []) := by
        rw [hX]; unfold Ck.whole; rw [hrd]
        show Ck.told (if E0 = 0 ∧ 1 ≤ Ck.epoch b0 ∧ Ck.epoch b0 ≤ 1099511627776 ∧ Ck.epoch b0 % 2 = 0 then _ else _) = _
        rw [he, if_neg (fun hh => hok ⟨⟨hh.2.1, hh.2.2.1⟩, hh.2.2.2⟩)]; rfl
      subst hxx
      by_cases h1 : e < 1
      · clear hrd he hok h0 hX
        go_enter Tryz.func61, Tryz.ntmps61
        go_wp2_with fail
        refine HR0.out.mono ?_
        rintro e1 w1 ⟨A1, c1, rfl, H1⟩
        go_wp2_with fail
        refine (refEpoch_any A1 c1 b0 hb64 w1 H1.out.1.reads).mono ?_
        rintro e2 w2 ⟨rfl, H2⟩
        go_wp2_with fail
        refine (refNum_any _ _ b0 w2 w1 (Nat.le_refl _) H2.out.2 H2.out.1 e HE.out).mono ?_
        rintro e3 w3 ⟨rfl, H3⟩
        have HB3 := hid (H1.out.2.trans (H3.out.mono H1.out.2.size))
        go_wp2
        go_ret2
        exact ⟨none, 0, rfl, hid ⟨OwnsB.nil _ _ _, HB3.out⟩⟩
      · by_cases h2 : 1099511627776 < e
        · clear hrd he hok h0 hX
          go_enter Tryz.func61, Tryz.ntmps61
          go_wp2_with fail
          refine HR0.out.mono ?_
          rintro e1 w1 ⟨A1, c1, rfl, H1⟩
          go_wp2_with fail
          refine (refEpoch_any A1 c1 b0 hb64 w1 H1.out.1.reads).mono ?_
          rintro e2 w2 ⟨rfl, H2⟩
          go_wp2_with fail
          refine (refNum_any _ _ b0 w2 w1 (Nat.le_refl _) H2.out.2 H2.out.1 e HE.out).mono ?_
          rintro e3 w3 ⟨rfl, H3⟩
          have HB3 := hid (H1.out.2.trans (H3.out.mono H1.out.2.size))
          go_wp2
          go_ret2
          exact ⟨none, 0, rfl, hid ⟨OwnsB.nil _ _ _, HB3.out⟩⟩
        · obtain ⟨en, hen⟩ := Int.eq_ofNat_of_zero_le (show 0 ≤ e by omega)
          have hpb : ((en : Int) % 2 != 0) = true := by rw [bne_iff_ne, ← hen]; exact fun hh => hok ⟨⟨by omega, by omega⟩, hh⟩
          rw [hen] at HE h1 h2
          have h1' : 1 ≤ (en : Int) := by omega
          have h2' : (en : Int) ≤ 1099511627776 := by omega
          clear hrd he hok h0 hX hen h1 h2
          go_enter Tryz.func61, Tryz.ntmps61
          go_wp2_with fail
          refine HR0.out.mono ?_
          rintro e1 w1 ⟨A1, c1, rfl, H1⟩
          go_wp2_with fail
          refine (refEpoch_any A1 c1 b0 hb64 w1 H1.out.1.reads).mono ?_
          rintro e2 w2 ⟨rfl, H2⟩
          go_wp2_with fail
          refine (refNum_any _ _ b0 w2 w1 (Nat.le_refl _) H2.out.2 H2.out.1 (en : Int) HE.out).mono ?_
          rintro e3 w3 ⟨rfl, H3⟩
          have HB3 := hid (H1.out.2.trans (H3.out.mono H1.out.2.size))
          go_wp2
          go_ret2
          exact ⟨none, 0, rfl, hid ⟨OwnsB.nil _ _ _, HB3.out⟩⟩
  · have hEb : (E0 != 0) = true := by rw [bne_iff_ne]; exact h0
    have hxx : X = (0, []) := by
      rw [hX]; unfold Ck.whole; rw [hrd]
      show Ck.told (if E0 = 0 ∧ 1 ≤ Ck.epoch b0 ∧ Ck.epoch b0 ≤ 1099511627776 ∧ Ck.epoch b0 % 2 = 0 then _ else _) = _
      rw [if_neg (fun hh => h0 hh.1)]; rfl
    subst hxx
    clear hrd he h0 hX
    go_enter Tryz.func61, Tryz.ntmps61
    go_wp2_with fail
    refine HR0.out.mono ?_
    rintro e1 w1 ⟨A1, c1, rfl, H1⟩
    go_wp2
    go_ret2
    exact ⟨none, 0, rfl, hid ⟨OwnsB.nil _ _ _, H1.out.2⟩⟩
set_option maxRecDepth 100000 in
set_option maxHeartbeats 2000000 in
theorem refWhole1_any (Z : Nat → Prop) (g : Nat) (x : Sx.Xs) (s : Sx.St) (hs : ReadsAs x s) (F n : Nat) (hF : F ≤ 100000) (hn : 1 ≤ n ∧ n ≤ 20000) (w : World) (h : RefAt w Z g x) :
    Calls Tryz.prog 61 #[.pointer (some ⟨g, 0, none⟩), .int .i64 (F : Int), .int .i64 (n : Int), .int .i64 1] w fun e' w' => ∃ A c, e' = .returned (.tuple #[.slice A (Ck.told (Ck.whole (Jo.rdOf s) F n 1)).2.length c, .int .i64 (Ck.told (Ck.whole (Jo.rdOf s) F n 1)).1]) ∧
      Hid (OwnsB 5 w' w.heap.size A c (Ck.told (Ck.whole (Jo.rdOf s) F n 1)).2 ∧ Below w.heap.size w w') := by
  obtain ⟨hn1, hn2⟩ := hn
  have HR0 := hid (refRead_N Z g x s hs (F : Int) w h)
  obtain ⟨b0, hb0⟩ : ∃ b0, b0 = Sx.rdB s (F : Int) := ⟨_, rfl⟩
  obtain ⟨E0, hE0⟩ : ∃ E0, E0 = Sx.rdE s (F : Int) := ⟨_, rfl⟩
  have hb64 : b0.length ≤ 64 := by rw [hb0]; exact (hs (F : Int)).2
  rw [← hb0, ← hE0] at HR0
  have hrd : Jo.rdOf s F = (E0, b0) := by rw [hE0, hb0]; rfl
  obtain ⟨X, hX⟩ : ∃ X, X = Ck.told (Ck.whole (Jo.rdOf s) F n 1) := ⟨_, rfl⟩
  rw [← hX]
  obtain ⟨e, he⟩ : ∃ e, Ck.epoch b0 = e := ⟨_, rfl⟩
  have HE := hid he
  have HH := hid (And.intro hs h)
  clear hb0 hE0 hs h
  by_cases h0 : E0 = 0
  · have hEb : (E0 != 0) = false := by rw [h0]; rfl
    by_cases hok : Ck.Epoch e ∧ e % 2 = 1
    · obtain ⟨en, hen⟩ := Int.eq_ofNat_of_zero_le (show 0 ≤ e by have := hok.1.1; omega)
      have hL : Ck.whole (Jo.rdOf s) F n 1 = (Ck.take (Jo.rdOf s) e n F []).map fun p => (e, p) := by
        unfold Ck.whole
        rw [hrd]
        show (if E0 = 0 ∧ 1 ≤ Ck.epoch b0 ∧ Ck.epoch b0 ≤ 1099511627776 ∧ Ck.epoch b0 % 2 = 1 then _ else _) = _
        rw [he, if_pos ⟨h0, hok.1.1, hok.1.2, hok.2⟩]
      rw [hL, hen] at hX
      rw [hen] at hok HE
      have HX := hid hX
      have hlo : 1 ≤ (en : Int) := hok.1.1
      have hhi : (en : Int) ≤ 1099511627776 := hok.1.2
      have hpb : ((en : Int) % 2 != 1) = false := by rw [bne_eq_false_iff_eq]; exact hok.2
      have HIN : Hid (InInt (en : Int)) := hid ⟨by omega, by omega⟩
      obtain ⟨i1, hj, hj0, hj1, hj2⟩ := info_parts info_u8
      clear hL hX hrd he hen hok h0
      go_enter Tryz.func61, Tryz.ntmps61
      go_wp2_with fail
      refine HR0.out.mono ?_
      rintro e1 w1 ⟨A1, c1, rfl, H1⟩
      go_wp2_with fail
      refine (refEpoch_any A1 c1 b0 hb64 w1 H1.out.1.reads).mono ?_
      rintro e2 w2 ⟨rfl, H2⟩
      go_wp2_with fail
      refine (refNum_any _ _ b0 w2 w1 (Nat.le_refl _) H2.out.2 H2.out.1 (en : Int) HE.out).mono ?_
      rintro e3 w3 ⟨rfl, H3⟩
      have HB3 := hid (H1.out.2.trans (H3.out.mono H1.out.2.size))
      go_wp2_with fail
      go_loopw [13, 14] (fun vr i wr => ∃ (k : Nat) (r : List Nat) (A : Option Addr) (c : Nat), k ≤ n ∧ i = .int .i64 (k : Int) ∧ vr = .slice A r.length c ∧ r.length ≤ 1000000 ∧ Hid (r.length = 40 * k) ∧ Hid (OwnsB 5 wr w.heap.size A c r ∧ Below w.heap.size w wr ∧ Ck.take (Jo.rdOf s) (en : Int) (n - k) (F + k) r = Ck.take (Jo.rdOf s) (en : Int) n F [])) (fun _ i _ => (n - RowKit.intOf i).toNat)
      case atStart => exact ⟨0, [], none, 0, by omega, rfl, rfl, by simp, hid rfl, hid ⟨OwnsB.nil _ _ _, HB3.out, rfl⟩⟩
      case round =>
        obtain ⟨k, r, A, c, hk, rfl, rfl, hrb, HR40, HI⟩ := hrel
        by_cases hlt : k < n
        · have hk0 : (k : Int) < (n : Int) := by omega
          obtain ⟨m, hm⟩ : ∃ m, n - k = m + 1 := ⟨n - k - 1, by omega⟩
          have HRd := hid (refRead_N Z g x s HH.out.1 ((F : Int) + k) wr (HH.out.2.below HI.out.2.1))
          have hb64k : (Sx.rdB s ((F : Int) + k)).length ≤ 64 := (HH.out.1 ((F : Int) + k)).2
          obtain ⟨b, hbB⟩ : ∃ b, b = Sx.rdB s ((F : Int) + k) := ⟨_, rfl⟩
          obtain ⟨E, hE⟩ : ∃ E, E = Sx.rdE s ((F : Int) + k) := ⟨_, rfl⟩
          obtain ⟨y, hy⟩ : ∃ y, Hid (y = Ck.due b (en : Int) k) := ⟨_, hid rfl⟩
          obtain ⟨x1, lst, ok⟩ := y
          rw [← hbB, ← hE] at HRd
          rw [← hbB] at hb64k
          have HT : Hid ((if E ≠ 0 ∨ ok = false then none else if lst then some (r ++ x1) else Ck.take (Jo.rdOf s) (en : Int) m (F + k + 1) (r ++ x1)) = Ck.take (Jo.rdOf s) (en : Int) n F []) := by
            have h1 := HI.out.2.2
            rw [hm, Ck.take] at h1
            have h2 : Jo.rdOf s (F + k) = (E, b) := by rw [hE, hbB]; unfold Jo.rdOf; rw [Int.natCast_add]
            have h3 : r.length / 40 = k := by have := HR40.out; omega
            simp only [h2, h3, ← hy.out] at h1
            exact hid h1
          have hx64 : x1.length ≤ 64 := by have := Ck.due_x_len hy.out.symm; omega
          clear hbB hE
          go_wp2_with fail
          refine HRd.out.mono ?_
          rintro e4 w4 ⟨A1, c1, rfl, H4⟩
          have HP := hid (refIs_any A1 c1 b b.length rfl hb64k H4.out.1.cap H4.out.1.capLe (en : Int) HIN.out k (by omega) w4 H4.out.1.reads)
          have HB4 := hid (HI.out.2.1.trans (H4.out.2.mono HI.out.2.1.size))
          rw [← hy.out] at HP
          go_wp2_with fail
          refine HP.out.mono ?_
          rintro e5 w5 ⟨A2, c2, y1, yl, rfl, H5⟩
          have HB5 := hid (HB4.out.trans (H5.out.2.2.2.mono HB4.out.size))
          by_cases hE0 : E = 0
          · subst hE0
            cases ok with
            | false =>
              have HN : Hid (Ck.take (Jo.rdOf s) (en : Int) n F [] = none) := hid (by have := HT.out; rw [if_pos (.inr rfl)] at this; exact this.symm)
              clear HT
              go_wp2
              go_ret2
              have hxx : X = (0, []) := by rw [HX.out, HN.out]; rfl
              subst hxx
              exact ⟨none, 0, rfl, hid ⟨OwnsB.nil _ _ _, HB5.out⟩⟩
            | true =>
              have HT2 : Hid ((if lst then some (r ++ x1) else Ck.take (Jo.rdOf s) (en : Int) m (F + k + 1) (r ++ x1)) = Ck.take (Jo.rdOf s) (en : Int) n F []) := hid (by have := HT.out; rwa [if_neg (by simp)] at this)
              clear HT
              obtain ⟨hy1, hyl⟩ := H5.out.1 rfl
              have hy1' : y1 = x1 := hy1
              have hyl' : yl = lst := hyl
              subst hy1'
              subst hyl'
              clear hy1 hyl
              have hrr : r.length + y1.length ≤ 1000000 := by have := HR40.out; omega
              have HO := hid (And.intro (HI.out.1.below (H4.out.2.trans (H5.out.2.2.2.mono H4.out.2.size))) HB5.out)
              cases yl with
              | true =>
                go_wp2_with (at_builtin; refine wpList_append_bytesAt rfl _ _ 23 rfl w.heap.size 5 i1 Tryz.underlying23 hj hj0 hj1 hj2 A c r rfl HO.out.1 w5.heap.size A2 c2 y1 rfl H5.out.2.2.1 H5.out.2.1 (by omega) HO.out.2.size ?_)
                intro A3 c3 w6 hown6 hgr6 _
                have HO6 := hid (And.intro hown6 (HO.out.2.trans (below_grown hgr6 HO.out.2.size (fun j ej => (HO.out.1.blkLt j ej).1))))
                clear hown6 hgr6
                go_wp2
                go_ret2
                have hxx : X = ((en : Int), r ++ y1) := by
                  have := HT2.out
                  rw [if_pos trivial] at this
                  rw [HX.out, ← this]; rfl
                subst hxx
                exact ⟨A3, c3, by rw [List.length_append]; rfl, HO6⟩
              | false =>
                have H40 := hid (Ck.due_mid_len hy.out.symm)
                go_wp2_with (at_builtin; refine wpList_append_bytesAt rfl _ _ 23 rfl w.heap.size 5 i1 Tryz.underlying23 hj hj0 hj1 hj2 A c r rfl HO.out.1 w5.heap.size A2 c2 y1 rfl H5.out.2.2.1 H5.out.2.1 (by omega) HO.out.2.size ?_)
                intro A3 c3 w6 hown6 hgr6 _
                have HO6 : Hid (OwnsB 5 w6 w.heap.size A3 c3 (r ++ y1) ∧ Below w.heap.size w w6 ∧ Ck.take (Jo.rdOf s) (en : Int) (n - (k + 1)) (F + (k + 1)) (r ++ y1) = Ck.take (Jo.rdOf s) (en : Int) n F []) := hid ⟨hown6, HO.out.2.trans (below_grown hgr6 HO.out.2.size (fun j ej => (HO.out.1.blkLt j ej).1)), by
                  have := HT2.out
                  rw [if_neg (by simp)] at this
                  rw [show n - (k + 1) = m from by omega, show F + (k + 1) = F + k + 1 from by omega]
                  exact this⟩
                clear hown6 hgr6
                go_wp2
                go_roundw
                case rel => exact ⟨k + 1, r ++ y1, A3, c3, by omega, by go_num, by rw [List.length_append], by rw [List.length_append]; exact hrr, hid (by rw [List.length_append, HR40.out, H40.out]; omega), HO6⟩
                case measure => simp [RowKit.intOf]; omega
          · have hEbk : (E != 0) = true := by rw [bne_iff_ne]; exact hE0
            have HN : Hid (Ck.take (Jo.rdOf s) (en : Int) n F [] = none) := hid (by have := HT.out; rw [if_pos (.inl hE0)] at this; exact this.symm)
            clear HT hE0
            go_wp2
            go_ret2
            have hxx : X = (0, []) := by rw [HX.out, HN.out]; rfl
            subst hxx
            exact ⟨none, 0, rfl, hid ⟨OwnsB.nil _ _ _, HB5.out⟩⟩
        · have hk0 : ¬ (k : Int) < (n : Int) := by omega
          obtain rfl : k = n := by omega
          have HN : Hid (Ck.take (Jo.rdOf s) (en : Int) k F [] = none) := hid (by have := HI.out.2.2; rw [Nat.sub_self] at this; exact this.symm)
          go_wp2
          go_ret2
          have hxx : X = (0, []) := by rw [HX.out, HN.out]; rfl
          subst hxx
          exact ⟨none, 0, rfl, hid ⟨OwnsB.nil _ _ _, HI.out.2.1⟩⟩
    · have hxx : X = (0, []) := by
        rw [hX]; unfold Ck.whole; rw [hrd]
        show Ck.told (if E0 = 0 ∧ 1 ≤ Ck.epoch b0 ∧ Ck.epoch b0 ≤ 1099511627776 ∧ Ck.epoch b0 % 2 = 1 then _ else _) = _
        rw [he, if_neg (fun hh => hok ⟨⟨hh.2.1, hh.2.2.1⟩, hh.2.2.2⟩)]; rfl
      subst hxx
      by_cases h1 : e < 1
      · clear hrd he hok h0 hX
        go_enter Tryz.func61, Tryz.ntmps61
        go_wp2_with fail
        refine HR0.out.mono ?_
        rintro e1 w1 ⟨A1, c1, rfl, H1⟩
        go_wp2_with fail
        refine (refEpoch_any A1 c1 b0 hb64 w1 H1.out.1.reads).mono ?_
        rintro e2 w2 ⟨rfl, H2⟩
        go_wp2_with fail
        refine (refNum_any _ _ b0 w2 w1 (Nat.le_refl _) H2.out.2 H2.out.1 e HE.out).mono ?_
        rintro e3 w3 ⟨rfl, H3⟩
        have HB3 := hid (H1.out.2.trans (H3.out.mono H1.out.2.size))
        go_wp2
        go_ret2
        exact ⟨none, 0, rfl, hid ⟨OwnsB.nil _ _ _, HB3.out⟩⟩
      · by_cases h2 : 1099511627776 < e
        · clear hrd he hok h0 hX
          go_enter Tryz.func61, Tryz.ntmps61
          go_wp2_with fail
          refine HR0.out.mono ?_
          rintro e1 w1 ⟨A1, c1, rfl, H1⟩
          go_wp2_with fail
          refine (refEpoch_any A1 c1 b0 hb64 w1 H1.out.1.reads).mono ?_
          rintro e2 w2 ⟨rfl, H2⟩
          go_wp2_with fail
          refine (refNum_any _ _ b0 w2 w1 (Nat.le_refl _) H2.out.2 H2.out.1 e HE.out).mono ?_
          rintro e3 w3 ⟨rfl, H3⟩
          have HB3 := hid (H1.out.2.trans (H3.out.mono H1.out.2.size))
          go_wp2
          go_ret2
          exact ⟨none, 0, rfl, hid ⟨OwnsB.nil _ _ _, HB3.out⟩⟩
        · obtain ⟨en, hen⟩ := Int.eq_ofNat_of_zero_le (show 0 ≤ e by omega)
          have hpb : ((en : Int) % 2 != 1) = true := by rw [bne_iff_ne, ← hen]; exact fun hh => hok ⟨⟨by omega, by omega⟩, hh⟩
          rw [hen] at HE h1 h2
          have h1' : 1 ≤ (en : Int) := by omega
          have h2' : (en : Int) ≤ 1099511627776 := by omega
          clear hrd he hok h0 hX hen h1 h2
          go_enter Tryz.func61, Tryz.ntmps61
          go_wp2_with fail
          refine HR0.out.mono ?_
          rintro e1 w1 ⟨A1, c1, rfl, H1⟩
          go_wp2_with fail
          refine (refEpoch_any A1 c1 b0 hb64 w1 H1.out.1.reads).mono ?_
          rintro e2 w2 ⟨rfl, H2⟩
          go_wp2_with fail
          refine (refNum_any _ _ b0 w2 w1 (Nat.le_refl _) H2.out.2 H2.out.1 (en : Int) HE.out).mono ?_
          rintro e3 w3 ⟨rfl, H3⟩
          have HB3 := hid (H1.out.2.trans (H3.out.mono H1.out.2.size))
          go_wp2
          go_ret2
          exact ⟨none, 0, rfl, hid ⟨OwnsB.nil _ _ _, HB3.out⟩⟩
  · have hEb : (E0 != 0) = true := by rw [bne_iff_ne]; exact h0
    have hxx : X = (0, []) := by
      rw [hX]; unfold Ck.whole; rw [hrd]
      show Ck.told (if E0 = 0 ∧ 1 ≤ Ck.epoch b0 ∧ Ck.epoch b0 ≤ 1099511627776 ∧ Ck.epoch b0 % 2 = 1 then _ else _) = _
      rw [if_neg (fun hh => h0 hh.1)]; rfl
    subst hxx
    clear hrd he h0 hX
    go_enter Tryz.func61, Tryz.ntmps61
    go_wp2_with fail
    refine HR0.out.mono ?_
    rintro e1 w1 ⟨A1, c1, rfl, H1⟩
    go_wp2
    go_ret2
    exact ⟨none, 0, rfl, hid ⟨OwnsB.nil _ _ _, H1.out.2⟩⟩
end C
end Go.Proofs.YtdgijnolpjaheaaGreat
