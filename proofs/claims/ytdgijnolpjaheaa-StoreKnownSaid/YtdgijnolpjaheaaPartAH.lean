/- Texts of the proof, one behind the other: CkF, CkG, JoA. -/
import Derived.Test.YtdgijnolpjaheaaPartAG
import Derived.Test.YtdgijnolpjaheaaPartAC
import Derived.Test.YtdgijnolpjaheaaPartAD
namespace Go.Proofs.Ytdgijnolpjaheaa
open Go.RowKit

namespace Ck
theorem due_mid_len {b : List Nat} {e : Int} {i : Nat} {x1 : List Nat} (h : due b e i = (x1, false, true)) : x1.length = 40 := by
  unfold due at h
  split at h
  · obtain ⟨h1, h2⟩ := Prod.mk.inj h
    obtain ⟨_, h3⟩ := Prod.mk.inj h2
    rw [← h1]
    exact of_decide_eq_true h3
  · split at h
    · obtain ⟨_, h2⟩ := Prod.mk.inj h
      cases (Prod.mk.inj h2).1
    · obtain ⟨_, h2⟩ := Prod.mk.inj h
      cases (Prod.mk.inj h2).2
theorem due_x_len {b : List Nat} {e : Int} {i : Nat} {x1 : List Nat} {l o : Bool} (h : due b e i = (x1, l, o)) : x1.length ≤ b.length := by
  have := due_len b e i
  rw [h] at this
  exact this
/-- what a slot holds, as the program tells it -/
def told (o : Option (Int × List Nat)) : Int × List Nat := o.getD (0, [])
end Ck
namespace C
theorem epochAt_any (Z : Nat → Prop) (d : Dk) (s : Sx.St) (i : Int) (w : World) (h : DiskAt w Z d s) :
    Calls Try.prog 54 #[.pointer (some ⟨d.g, 0, none⟩), .int .i64 i] w fun e' w' => e' = .returned (.int .i64 (Ck.epoch (Sx.rdB s i))) ∧ Below w.heap.size w w' := by
  have HR := hid (read_any Z d s i w h)
  obtain ⟨b, hb⟩ : ∃ b, b = Sx.rdB s i := ⟨_, rfl⟩
  have hl : b.length ≤ 64 := by rw [hb]; exact h.rd_len i
  rw [← hb] at HR
  rw [← hb]
  obtain ⟨o, t, ho⟩ : ∃ o t, Pk.rdInt ⟨b, false⟩ = (o, t) := ⟨_, _, rfl⟩
  have HO : Hid (Ck.epoch b = o ∧ Pk.rdInt ⟨b, false⟩ = (o, t)) := hid ⟨by unfold Ck.epoch; rw [ho], ho⟩
  rw [HO.out.1]
  clear hb ho h
  go_enter Try.func54, Try.ntmps54
  go_wp2_with fail
  refine HR.out.mono ?_
  rintro e1 w1 ⟨A, c, rfl, hown, hb1⟩
  have HP := hid (packRead_N A c b b.length rfl (by omega) w1 hown.reads hown.none_)
  have HB := hid hb1
  clear hown hb1
  go_wp2_with fail
  refine HP.out.mono ?_
  rintro e2 w2 ⟨g, rfl, hg, hR, hb2⟩
  have H2 := hid (And.intro hg (And.intro hR hb2))
  clear hg hR hb2
  go_wp2_with fail
  refine (num_at w1 w2 g _ o t HO.out.2 H2.out.1 H2.out.2.2 H2.out.2.1).mono ?_
  rintro e3 w3 ⟨rfl, H3⟩
  go_wp2
  go_ret
  exact ⟨rfl, HB.out.trans (H3.out.2.mono HB.out.size)⟩
theorem piece_N (A : Option Addr) (c : Nat) (l : List Nat) (N : Nat) (hN : l.length = N) (hc : N ≤ c) (hc2 : c ≤ maxLen) (hz : A = none → c = 0) (hl : N ≤ 100000) (e : Int) (he : InInt e) (i : Nat) (hi : i ≤ 1000000) (x1 : List Nat) (lst ok : Bool) (hx : Ck.due l e i = (x1, lst, ok)) (w : World) (h : IsBytes w w.heap.size A l) :
    Calls Try.prog 56 #[.slice A N c, .int .i64 e, .int .i64 (i : Int)] w fun e' w' => ∃ A' c', e' = .returned (.tuple #[.slice A' x1.length c', .bool lst, .bool ok]) ∧ Hid (IsBytes w' w'.heap.size A' x1 ∧ (A' = none → c' = 0) ∧ Below w.heap.size w w') := by
  have h1 := piece_any A c l N hN hc hc2 hz hl e he i hi w h
  rw [hx] at h1
  refine h1.mono ?_
  rintro e' w' ⟨A', c', n', h2, h3, h4⟩
  subst h3
  exact ⟨A', c', h2, h4⟩
/-- the walk through read, slots -/
theorem rd_none (s : Sx.St) (i : Int) (h : Sx.rdE s i ≠ 0) : Sx.rdB s i = [] := by
  unfold Sx.rdE at h
  unfold Sx.rdB
  by_cases hi : 0 ≤ i ∧ i < s.n
  · rw [if_pos hi] at h ⊢
    cases hc : s.cache i.toNat with
    | some b => rw [hc] at h; exact absurd rfl h
    | none =>
      rw [hc] at h
      simp only at h ⊢
      by_cases ht : (s.dur i.toNat).2 = true
      · rw [if_pos ht]
      · rw [if_neg ht] at h; exact absurd rfl h
  · rw [if_neg hi]
set_option maxRecDepth 100000 in
set_option maxHeartbeats 2000000 in
theorem read0_any (Z : Nat → Prop) (d : Dk) (s : Sx.St) (f n : Nat) (hr : Ck.Right s.n f n) (w : World) (h : DiskAt w Z d s) :
    Calls Try.prog 37 #[.pointer (some ⟨d.g, 0, none⟩), .int .i64 (f : Int), .int .i64 (n : Int), .int .i64 0] w fun e' w' => ∃ A c, e' = .returned (.tuple #[.slice A (Ck.told (Ck.whole (Jo.rdOf s) f n 0)).2.length c, .int .i64 (Ck.told (Ck.whole (Jo.rdOf s) f n 0)).1]) ∧
      Hid (OwnsB 5 w' w.heap.size A c (Ck.told (Ck.whole (Jo.rdOf s) f n 0)).2 ∧ Below w.heap.size w w') := by
  have hbd := h.bound
  have hfn : f + 2 * n ≤ s.n := by have := hr.2.2; omega
  have hFn : f + n ≤ s.n := by omega
  have HA := hid (epochAt_any Z d s (f : Int) w h)
  obtain ⟨e, he⟩ : ∃ e, e = Ck.epoch (Sx.rdB s (f : Int)) := ⟨_, rfl⟩
  rw [← he] at HA
  have HE := hid (fun w' => epoch_any e w')
  obtain ⟨x, hx⟩ : ∃ x, x = Ck.told (Ck.whole (Jo.rdOf s) f n 0) := ⟨_, rfl⟩
  rw [← hx]
  have HH := hid h
  have hrd : Jo.rdOf s f = (Sx.rdE s (f : Int), Sx.rdB s (f : Int)) := rfl
  have hepo : (Jo.rdOf s f).2 = Sx.rdB s (f : Int) := rfl
  clear h
  by_cases hep : Ck.Epoch e
  · by_cases hpar : e % 2 = 0
    · have hE0 : (Jo.rdOf s f).1 = 0 := by
        show Sx.rdE s (f : Int) = 0
        by_cases h0 : Sx.rdE s (f : Int) = 0
        · exact h0
        · have hb : Sx.rdB s (f : Int) = [] := rd_none s _ h0
          rw [hb] at he
          have : Ck.epoch [] = 0 := rfl
          rw [this] at he
          rw [he] at hep
          exact absurd hep.1 (by omega)
      have hL : Ck.whole (Jo.rdOf s) f n 0 = (Ck.take (Jo.rdOf s) e n f []).map fun p => (e, p) := by
        unfold Ck.whole
        rw [hepo, ← he, if_pos ⟨hE0, hep.1, hep.2, hpar⟩]
      rw [hL] at hx
      have HS1 : Hid (∀ w', Calls Try.prog 32 #[.int .i64 e] w' fun e' w2 => e' = .returned (.int .i64 0) ∧ w2 = w') := hid (fun w' => by have := slot_any e hep w'; rwa [hpar] at this)
      rw [decide_eq_true hep] at HE
      have HIN : Hid (InInt e) := hid (by obtain ⟨h1, h2⟩ := hep; unfold InInt; omega)
      have HX := hid (And.intro hx hep)
      obtain ⟨i1, hj, hj0, hj1, hj2⟩ := info_parts info_u8
      clear hL hE0 hrd hepo he hx hpar hep hr
      go_enter Try.func37, Try.ntmps37
      go_wp2_with fail
      refine HA.out.mono ?_
      rintro e1 w1 ⟨rfl, hb1⟩
      have HB1 := hid hb1
      clear hb1
      go_wp2_with fail
      refine (HE.out _).mono ?_
      rintro e2 w2 ⟨rfl, rfl⟩
      go_wp2_with fail
      refine (HS1.out _).mono ?_
      rintro e3 w3 ⟨rfl, rfl⟩
      go_wp2_with fail
      go_loopw [12, 37] (fun vr i wr => ∃ (k : Nat) (r : List Nat) (A : Option Addr) (c : Nat), k ≤ n ∧ i = .int .i64 (k : Int) ∧ vr = .slice A r.length c ∧ r.length ≤ 1000000 ∧ Hid (r.length = 40 * k) ∧ Hid (OwnsB 5 wr w.heap.size A c r ∧ Below w.heap.size w wr ∧ Ck.take (Jo.rdOf s) e (n - k) (f + k) r = Ck.take (Jo.rdOf s) e n f [])) (fun _ i _ => (n - RowKit.intOf i).toNat)
      case atStart => exact ⟨0, [], none, 0, by omega, rfl, rfl, by simp, hid rfl, hid ⟨OwnsB.nil _ _ _, HB1.out, rfl⟩⟩
      case round =>
        obtain ⟨k, r, A, c, hk, rfl, rfl, hrb, HR40, HI⟩ := hrel
        by_cases hlt : k < n
        · have hk0 : (k : Int) < (n : Int) := by omega
          obtain ⟨m, hm⟩ : ∃ m, n - k = m + 1 := ⟨n - k - 1, by omega⟩
          obtain ⟨b, hbB⟩ : ∃ b, b = Sx.rdB s ((f : Int) + k) := ⟨_, rfl⟩
          obtain ⟨E, hE⟩ : ∃ E, E = Sx.rdE s ((f : Int) + k) := ⟨_, rfl⟩
          obtain ⟨x1, lst, ok, hx⟩ : ∃ x1 lst ok, Hid (Ck.due b e k = (x1, lst, ok)) := ⟨_, _, _, hid rfl⟩
          have HRd := hid (read_any Z d s ((f : Int) + k) wr (HH.out.below HI.out.2.1))
          rw [← hbB, ← hE] at HRd
          have hb64 : b.length ≤ 64 := by rw [hbB]; exact HH.out.rd_len _
          have hx64 : x1.length ≤ 64 := by have := Ck.due_x_len hx.out; omega
          have HT : Hid ((if E ≠ 0 ∨ ok = false then none else if lst then some (r ++ x1) else Ck.take (Jo.rdOf s) e m (f + k + 1) (r ++ x1)) = Ck.take (Jo.rdOf s) e n f []) := by
            have h1 := HI.out.2.2
            rw [hm, Ck.take] at h1
            have h2 : Jo.rdOf s (f + k) = (E, b) := by rw [hE, hbB]; unfold Jo.rdOf; rw [Int.natCast_add]
            have h3 : r.length / 40 = k := by have := HR40.out; omega
            simp only [h2, h3, hx.out] at h1
            exact hid h1
          clear hbB hE
          by_cases hE0 : E = 0
          · subst hE0
            cases ok with
            | false =>
              have HN : Hid (Ck.take (Jo.rdOf s) e n f [] = none) := hid (by have := HT.out; rw [if_pos (.inr rfl)] at this; exact this.symm)
              clear HT
              go_wp2_with fail
              refine HRd.out.mono ?_
              rintro e4 w4 ⟨A1, c1, rfl, hown1, hb4⟩
              have HP := hid (piece_N A1 c1 b b.length rfl hown1.cap hown1.capLe hown1.none_ (by omega) e HIN.out k (by omega) x1 lst false hx.out w4 hown1.reads)
              have HB4 := hid (HI.out.2.1.trans (hb4.mono HI.out.2.1.size))
              clear hown1 hb4
              go_wp2_with fail
              refine HP.out.mono ?_
              rintro e5 w5 ⟨A2, c2, rfl, H5⟩
              go_wp2
              go_ret2
              have hxx : x = (0, []) := by rw [HX.out.1, HN.out]; rfl
              subst hxx
              exact ⟨none, 0, rfl, hid ⟨OwnsB.nil _ _ _, HB4.out.trans (H5.out.2.2.mono HB4.out.size)⟩⟩
            | true =>
              have HT2 : Hid ((if lst then some (r ++ x1) else Ck.take (Jo.rdOf s) e m (f + k + 1) (r ++ x1)) = Ck.take (Jo.rdOf s) e n f []) := hid (by have := HT.out; rwa [if_neg (by simp)] at this)
              clear HT
              have hrr : r.length + x1.length ≤ 1000000 := by have := HR40.out; omega
              cases lst with
              | true =>
                go_wp2_with fail
                refine HRd.out.mono ?_
                rintro e4 w4 ⟨A1, c1, rfl, hown1, hb4⟩
                have HP := hid (piece_N A1 c1 b b.length rfl hown1.cap hown1.capLe hown1.none_ (by omega) e HIN.out k (by omega) x1 true true hx.out w4 hown1.reads)
                have HB4 := hid hb4
                clear hown1 hb4
                go_wp2_with fail
                refine HP.out.mono ?_
                rintro e5 w5 ⟨A2, c2, rfl, H5⟩
                have hb5 : Below wr.heap.size wr w5 := HB4.out.trans (H5.out.2.2.mono HB4.out.size)
                have HO := hid (And.intro (HI.out.1.below hb5) (HI.out.2.1.trans (hb5.mono HI.out.2.1.size)))
                clear hb5
                go_wp2_with (at_builtin; refine wpList_append_bytesAt rfl _ _ 32 rfl w.heap.size 5 i1 Try.underlying32 hj hj0 hj1 hj2 A c r rfl HO.out.1 w5.heap.size A2 c2 x1 rfl H5.out.2.1 H5.out.1 (by omega) HO.out.2.size ?_)
                intro A3 c3 w6 hown6 hgr6 _
                have HO6 := hid (And.intro hown6 (HO.out.2.trans (below_grown hgr6 HO.out.2.size (fun j ej => (HO.out.1.blkLt j ej).1))))
                clear hown6 hgr6
                go_wp2
                go_ret2
                have hxx : x = (e, r ++ x1) := by
                  have := HT2.out
                  rw [if_pos trivial] at this
                  rw [HX.out.1, ← this]; rfl
                subst hxx
                exact ⟨A3, c3, by rw [List.length_append]; rfl, HO6⟩
              | false =>
                have h40 := Ck.due_mid_len hx.out
                have H40 := hid h40
                clear h40
                go_wp2_with fail
                refine HRd.out.mono ?_
                rintro e4 w4 ⟨A1, c1, rfl, hown1, hb4⟩
                have HP := hid (piece_N A1 c1 b b.length rfl hown1.cap hown1.capLe hown1.none_ (by omega) e HIN.out k (by omega) x1 false true hx.out w4 hown1.reads)
                have HB4 := hid hb4
                clear hown1 hb4
                go_wp2_with fail
                refine HP.out.mono ?_
                rintro e5 w5 ⟨A2, c2, rfl, H5⟩
                have hb5 : Below wr.heap.size wr w5 := HB4.out.trans (H5.out.2.2.mono HB4.out.size)
                have HO := hid (And.intro (HI.out.1.below hb5) (HI.out.2.1.trans (hb5.mono HI.out.2.1.size)))
                clear hb5
                go_wp2_with (at_builtin; refine wpList_append_bytesAt rfl _ _ 32 rfl w.heap.size 5 i1 Try.underlying32 hj hj0 hj1 hj2 A c r rfl HO.out.1 w5.heap.size A2 c2 x1 rfl H5.out.2.1 H5.out.1 (by omega) HO.out.2.size ?_)
                intro A3 c3 w6 hown6 hgr6 _
                have HO6 : Hid (OwnsB 5 w6 w.heap.size A3 c3 (r ++ x1) ∧ Below w.heap.size w w6 ∧ Ck.take (Jo.rdOf s) e (n - (k + 1)) (f + (k + 1)) (r ++ x1) = Ck.take (Jo.rdOf s) e n f []) := hid ⟨hown6, HO.out.2.trans (below_grown hgr6 HO.out.2.size (fun j ej => (HO.out.1.blkLt j ej).1)), by
                  have := HT2.out
                  rw [if_neg (by simp)] at this
                  rw [show n - (k + 1) = m from by omega, show f + (k + 1) = f + k + 1 from by omega]
                  exact this⟩
                clear hown6 hgr6
                go_wp2
                go_roundw
                case rel => exact ⟨k + 1, r ++ x1, A3, c3, by omega, by go_num, by rw [List.length_append], by rw [List.length_append]; exact hrr, hid (by rw [List.length_append, HR40.out, H40.out]; omega), HO6⟩
                case measure => simp [RowKit.intOf]; omega
          · have hEb : (E != 0) = true := by rw [bne_iff_ne]; exact hE0
            have HN : Hid (Ck.take (Jo.rdOf s) e n f [] = none) := hid (by have := HT.out; rw [if_pos (.inl hE0)] at this; exact this.symm)
            clear HT hE0
            go_wp2_with fail
            refine HRd.out.mono ?_
            rintro e4 w4 ⟨A1, c1, rfl, hown1, hb4⟩
            have HP := hid (piece_N A1 c1 b b.length rfl hown1.cap hown1.capLe hown1.none_ (by omega) e HIN.out k (by omega) x1 lst ok hx.out w4 hown1.reads)
            have HB4 := hid (HI.out.2.1.trans (hb4.mono HI.out.2.1.size))
            clear hown1 hb4
            go_wp2_with fail
            refine HP.out.mono ?_
            rintro e5 w5 ⟨A2, c2, rfl, H5⟩
            go_wp2
            go_ret2
            have hxx : x = (0, []) := by rw [HX.out.1, HN.out]; rfl
            subst hxx
            exact ⟨none, 0, rfl, hid ⟨OwnsB.nil _ _ _, HB4.out.trans (H5.out.2.2.mono HB4.out.size)⟩⟩
        · have hk0 : ¬ (k : Int) < (n : Int) := by omega
          obtain rfl : k = n := by omega
          have HN : Hid (Ck.take (Jo.rdOf s) e k f [] = none) := hid (by have := HI.out.2.2; rw [Nat.sub_self] at this; exact this.symm)
          go_wp2
          go_ret2
          have hxx : x = (0, []) := by rw [HX.out.1, HN.out]; rfl
          subst hxx
          exact ⟨none, 0, rfl, hid ⟨OwnsB.nil _ _ _, HI.out.2.1⟩⟩
    · have HS1 := hid (fun w' => slot_any e hep w')
      have hxx : x = (0, []) := by
        rw [hx]; unfold Ck.whole; rw [hepo, ← he, if_neg (fun hh => hpar hh.2.2.2)]; rfl
      subst hxx
      have hpb : (e % 2 != 0) = true := by rw [bne_iff_ne]; exact hpar
      rw [decide_eq_true hep] at HE
      clear hrd hepo he hx hpar hep hr
      go_enter Try.func37, Try.ntmps37
      go_wp2_with fail
      refine HA.out.mono ?_
      rintro e1 w1 ⟨rfl, hb1⟩
      have HB1 := hid hb1
      clear hb1
      go_wp2_with fail
      refine (HE.out _).mono ?_
      rintro e2 w2 ⟨rfl, rfl⟩
      go_wp2_with fail
      refine (HS1.out _).mono ?_
      rintro e3 w3 ⟨rfl, rfl⟩
      go_wp2
      go_ret2
      exact ⟨none, 0, rfl, hid ⟨OwnsB.nil _ _ _, HB1.out⟩⟩
  · have hxx : x = (0, []) := by
      rw [hx]; unfold Ck.whole; rw [hepo, ← he, if_neg (fun hh => hep ⟨hh.2.1, hh.2.2.1⟩)]; rfl
    subst hxx
    rw [decide_eq_false hep] at HE
    clear hrd hepo he hx hep hr
    go_enter Try.func37, Try.ntmps37
    go_wp2_with fail
    refine HA.out.mono ?_
    rintro e1 w1 ⟨rfl, hb1⟩
    have HB1 := hid hb1
    clear hb1
    go_wp2_with fail
    refine (HE.out _).mono ?_
    rintro e2 w2 ⟨rfl, rfl⟩
    go_wp2
    go_ret2
    exact ⟨none, 0, rfl, hid ⟨OwnsB.nil _ _ _, HB1.out⟩⟩
set_option maxRecDepth 100000 in
set_option maxHeartbeats 2000000 in
theorem read1_any (Z : Nat → Prop) (d : Dk) (s : Sx.St) (f n : Nat) (hr : Ck.Right s.n f n) (w : World) (h : DiskAt w Z d s) :
    Calls Try.prog 37 #[.pointer (some ⟨d.g, 0, none⟩), .int .i64 (f : Int), .int .i64 (n : Int), .int .i64 1] w fun e' w' => ∃ A c, e' = .returned (.tuple #[.slice A (Ck.told (Ck.whole (Jo.rdOf s) (f + n) n 1)).2.length c, .int .i64 (Ck.told (Ck.whole (Jo.rdOf s) (f + n) n 1)).1]) ∧
      Hid (OwnsB 5 w' w.heap.size A c (Ck.told (Ck.whole (Jo.rdOf s) (f + n) n 1)).2 ∧ Below w.heap.size w w') := by
  have hbd := h.bound
  have hfn : f + 2 * n ≤ s.n := by have := hr.2.2; omega
  obtain ⟨F, hF⟩ : ∃ F : Nat, F = (f + n) := ⟨_, rfl⟩
  have hFi : (f : Int) + n = (F : Int) := by omega
  have hFn : F + n ≤ s.n := by omega
  rw [← hF]
  have HA := hid (epochAt_any Z d s (F : Int) w h)
  obtain ⟨e, he⟩ : ∃ e, e = Ck.epoch (Sx.rdB s (F : Int)) := ⟨_, rfl⟩
  rw [← he] at HA
  have HE := hid (fun w' => epoch_any e w')
  obtain ⟨x, hx⟩ : ∃ x, x = Ck.told (Ck.whole (Jo.rdOf s) F n 1) := ⟨_, rfl⟩
  rw [← hx]
  have HH := hid h
  have hrd : Jo.rdOf s F = (Sx.rdE s (F : Int), Sx.rdB s (F : Int)) := rfl
  have hepo : (Jo.rdOf s F).2 = Sx.rdB s (F : Int) := rfl
  clear h hF
  by_cases hep : Ck.Epoch e
  · by_cases hpar : e % 2 = 1
    · have hE0 : (Jo.rdOf s F).1 = 0 := by
        show Sx.rdE s (F : Int) = 0
        by_cases h0 : Sx.rdE s (F : Int) = 0
        · exact h0
        · have hb : Sx.rdB s (F : Int) = [] := rd_none s _ h0
          rw [hb] at he
          have : Ck.epoch [] = 0 := rfl
          rw [this] at he
          rw [he] at hep
          exact absurd hep.1 (by omega)
      have hL : Ck.whole (Jo.rdOf s) F n 1 = (Ck.take (Jo.rdOf s) e n F []).map fun p => (e, p) := by
        unfold Ck.whole
        rw [hepo, ← he, if_pos ⟨hE0, hep.1, hep.2, hpar⟩]
      rw [hL] at hx
      have HS1 : Hid (∀ w', Calls Try.prog 32 #[.int .i64 e] w' fun e' w2 => e' = .returned (.int .i64 1) ∧ w2 = w') := hid (fun w' => by have := slot_any e hep w'; rwa [hpar] at this)
      rw [decide_eq_true hep] at HE
      have HIN : Hid (InInt e) := hid (by obtain ⟨h1, h2⟩ := hep; unfold InInt; omega)
      have HX := hid (And.intro hx hep)
      obtain ⟨i1, hj, hj0, hj1, hj2⟩ := info_parts info_u8
      clear hL hE0 hrd hepo he hx hpar hep hr
      go_enter Try.func37, Try.ntmps37
      go_wp2_with fail
      refine HA.out.mono ?_
      rintro e1 w1 ⟨rfl, hb1⟩
      have HB1 := hid hb1
      clear hb1
      go_wp2_with fail
      refine (HE.out _).mono ?_
      rintro e2 w2 ⟨rfl, rfl⟩
      go_wp2_with fail
      refine (HS1.out _).mono ?_
      rintro e3 w3 ⟨rfl, rfl⟩
      go_wp2_with fail
      go_loopw [12, 37] (fun vr i wr => ∃ (k : Nat) (r : List Nat) (A : Option Addr) (c : Nat), k ≤ n ∧ i = .int .i64 (k : Int) ∧ vr = .slice A r.length c ∧ r.length ≤ 1000000 ∧ Hid (r.length = 40 * k) ∧ Hid (OwnsB 5 wr w.heap.size A c r ∧ Below w.heap.size w wr ∧ Ck.take (Jo.rdOf s) e (n - k) (F + k) r = Ck.take (Jo.rdOf s) e n F [])) (fun _ i _ => (n - RowKit.intOf i).toNat)
      case atStart => exact ⟨0, [], none, 0, by omega, rfl, rfl, by simp, hid rfl, hid ⟨OwnsB.nil _ _ _, HB1.out, rfl⟩⟩
      case round =>
        obtain ⟨k, r, A, c, hk, rfl, rfl, hrb, HR40, HI⟩ := hrel
        by_cases hlt : k < n
        · have hk0 : (k : Int) < (n : Int) := by omega
          obtain ⟨m, hm⟩ : ∃ m, n - k = m + 1 := ⟨n - k - 1, by omega⟩
          obtain ⟨b, hbB⟩ : ∃ b, b = Sx.rdB s ((F : Int) + k) := ⟨_, rfl⟩
          obtain ⟨E, hE⟩ : ∃ E, E = Sx.rdE s ((F : Int) + k) := ⟨_, rfl⟩
          obtain ⟨x1, lst, ok, hx⟩ : ∃ x1 lst ok, Hid (Ck.due b e k = (x1, lst, ok)) := ⟨_, _, _, hid rfl⟩
          have HRd := hid (read_any Z d s ((F : Int) + k) wr (HH.out.below HI.out.2.1))
          rw [← hbB, ← hE] at HRd
          have hb64 : b.length ≤ 64 := by rw [hbB]; exact HH.out.rd_len _
          have hx64 : x1.length ≤ 64 := by have := Ck.due_x_len hx.out; omega
          have HT : Hid ((if E ≠ 0 ∨ ok = false then none else if lst then some (r ++ x1) else Ck.take (Jo.rdOf s) e m (F + k + 1) (r ++ x1)) = Ck.take (Jo.rdOf s) e n F []) := by
            have h1 := HI.out.2.2
            rw [hm, Ck.take] at h1
            have h2 : Jo.rdOf s (F + k) = (E, b) := by rw [hE, hbB]; unfold Jo.rdOf; rw [Int.natCast_add]
            have h3 : r.length / 40 = k := by have := HR40.out; omega
            simp only [h2, h3, hx.out] at h1
            exact hid h1
          clear hbB hE
          by_cases hE0 : E = 0
          · subst hE0
            cases ok with
            | false =>
              have HN : Hid (Ck.take (Jo.rdOf s) e n F [] = none) := hid (by have := HT.out; rw [if_pos (.inr rfl)] at this; exact this.symm)
              clear HT
              go_wp2_with fail
              refine HRd.out.mono ?_
              rintro e4 w4 ⟨A1, c1, rfl, hown1, hb4⟩
              have HP := hid (piece_N A1 c1 b b.length rfl hown1.cap hown1.capLe hown1.none_ (by omega) e HIN.out k (by omega) x1 lst false hx.out w4 hown1.reads)
              have HB4 := hid (HI.out.2.1.trans (hb4.mono HI.out.2.1.size))
              clear hown1 hb4
              go_wp2_with fail
              refine HP.out.mono ?_
              rintro e5 w5 ⟨A2, c2, rfl, H5⟩
              go_wp2
              go_ret2
              have hxx : x = (0, []) := by rw [HX.out.1, HN.out]; rfl
              subst hxx
              exact ⟨none, 0, rfl, hid ⟨OwnsB.nil _ _ _, HB4.out.trans (H5.out.2.2.mono HB4.out.size)⟩⟩
            | true =>
              have HT2 : Hid ((if lst then some (r ++ x1) else Ck.take (Jo.rdOf s) e m (F + k + 1) (r ++ x1)) = Ck.take (Jo.rdOf s) e n F []) := hid (by have := HT.out; rwa [if_neg (by simp)] at this)
              clear HT
              have hrr : r.length + x1.length ≤ 1000000 := by have := HR40.out; omega
              cases lst with
              | true =>
                go_wp2_with fail
                refine HRd.out.mono ?_
                rintro e4 w4 ⟨A1, c1, rfl, hown1, hb4⟩
                have HP := hid (piece_N A1 c1 b b.length rfl hown1.cap hown1.capLe hown1.none_ (by omega) e HIN.out k (by omega) x1 true true hx.out w4 hown1.reads)
                have HB4 := hid hb4
                clear hown1 hb4
                go_wp2_with fail
                refine HP.out.mono ?_
                rintro e5 w5 ⟨A2, c2, rfl, H5⟩
                have hb5 : Below wr.heap.size wr w5 := HB4.out.trans (H5.out.2.2.mono HB4.out.size)
                have HO := hid (And.intro (HI.out.1.below hb5) (HI.out.2.1.trans (hb5.mono HI.out.2.1.size)))
                clear hb5
                go_wp2_with (at_builtin; refine wpList_append_bytesAt rfl _ _ 32 rfl w.heap.size 5 i1 Try.underlying32 hj hj0 hj1 hj2 A c r rfl HO.out.1 w5.heap.size A2 c2 x1 rfl H5.out.2.1 H5.out.1 (by omega) HO.out.2.size ?_)
                intro A3 c3 w6 hown6 hgr6 _
                have HO6 := hid (And.intro hown6 (HO.out.2.trans (below_grown hgr6 HO.out.2.size (fun j ej => (HO.out.1.blkLt j ej).1))))
                clear hown6 hgr6
                go_wp2
                go_ret2
                have hxx : x = (e, r ++ x1) := by
                  have := HT2.out
                  rw [if_pos trivial] at this
                  rw [HX.out.1, ← this]; rfl
                subst hxx
                exact ⟨A3, c3, by rw [List.length_append]; rfl, HO6⟩
              | false =>
                have h40 := Ck.due_mid_len hx.out
                have H40 := hid h40
                clear h40
                go_wp2_with fail
                refine HRd.out.mono ?_
                rintro e4 w4 ⟨A1, c1, rfl, hown1, hb4⟩
                have HP := hid (piece_N A1 c1 b b.length rfl hown1.cap hown1.capLe hown1.none_ (by omega) e HIN.out k (by omega) x1 false true hx.out w4 hown1.reads)
                have HB4 := hid hb4
                clear hown1 hb4
                go_wp2_with fail
                refine HP.out.mono ?_
                rintro e5 w5 ⟨A2, c2, rfl, H5⟩
                have hb5 : Below wr.heap.size wr w5 := HB4.out.trans (H5.out.2.2.mono HB4.out.size)
                have HO := hid (And.intro (HI.out.1.below hb5) (HI.out.2.1.trans (hb5.mono HI.out.2.1.size)))
                clear hb5
                go_wp2_with (at_builtin; refine wpList_append_bytesAt rfl _ _ 32 rfl w.heap.size 5 i1 Try.underlying32 hj hj0 hj1 hj2 A c r rfl HO.out.1 w5.heap.size A2 c2 x1 rfl H5.out.2.1 H5.out.1 (by omega) HO.out.2.size ?_)
                intro A3 c3 w6 hown6 hgr6 _
                have HO6 : Hid (OwnsB 5 w6 w.heap.size A3 c3 (r ++ x1) ∧ Below w.heap.size w w6 ∧ Ck.take (Jo.rdOf s) e (n - (k + 1)) (F + (k + 1)) (r ++ x1) = Ck.take (Jo.rdOf s) e n F []) := hid ⟨hown6, HO.out.2.trans (below_grown hgr6 HO.out.2.size (fun j ej => (HO.out.1.blkLt j ej).1)), by
                  have := HT2.out
                  rw [if_neg (by simp)] at this
                  rw [show n - (k + 1) = m from by omega, show F + (k + 1) = F + k + 1 from by omega]
                  exact this⟩
                clear hown6 hgr6
                go_wp2
                go_roundw
                case rel => exact ⟨k + 1, r ++ x1, A3, c3, by omega, by go_num, by rw [List.length_append], by rw [List.length_append]; exact hrr, hid (by rw [List.length_append, HR40.out, H40.out]; omega), HO6⟩
                case measure => simp [RowKit.intOf]; omega
          · have hEb : (E != 0) = true := by rw [bne_iff_ne]; exact hE0
            have HN : Hid (Ck.take (Jo.rdOf s) e n F [] = none) := hid (by have := HT.out; rw [if_pos (.inl hE0)] at this; exact this.symm)
            clear HT hE0
            go_wp2_with fail
            refine HRd.out.mono ?_
            rintro e4 w4 ⟨A1, c1, rfl, hown1, hb4⟩
            have HP := hid (piece_N A1 c1 b b.length rfl hown1.cap hown1.capLe hown1.none_ (by omega) e HIN.out k (by omega) x1 lst ok hx.out w4 hown1.reads)
            have HB4 := hid (HI.out.2.1.trans (hb4.mono HI.out.2.1.size))
            clear hown1 hb4
            go_wp2_with fail
            refine HP.out.mono ?_
            rintro e5 w5 ⟨A2, c2, rfl, H5⟩
            go_wp2
            go_ret2
            have hxx : x = (0, []) := by rw [HX.out.1, HN.out]; rfl
            subst hxx
            exact ⟨none, 0, rfl, hid ⟨OwnsB.nil _ _ _, HB4.out.trans (H5.out.2.2.mono HB4.out.size)⟩⟩
        · have hk0 : ¬ (k : Int) < (n : Int) := by omega
          obtain rfl : k = n := by omega
          have HN : Hid (Ck.take (Jo.rdOf s) e k F [] = none) := hid (by have := HI.out.2.2; rw [Nat.sub_self] at this; exact this.symm)
          go_wp2
          go_ret2
          have hxx : x = (0, []) := by rw [HX.out.1, HN.out]; rfl
          subst hxx
          exact ⟨none, 0, rfl, hid ⟨OwnsB.nil _ _ _, HI.out.2.1⟩⟩
    · have HS1 := hid (fun w' => slot_any e hep w')
      have hxx : x = (0, []) := by
        rw [hx]; unfold Ck.whole; rw [hepo, ← he, if_neg (fun hh => hpar hh.2.2.2)]; rfl
      subst hxx
      have hpb : (e % 2 != 1) = true := by rw [bne_iff_ne]; exact hpar
      rw [decide_eq_true hep] at HE
      clear hrd hepo he hx hpar hep hr
      go_enter Try.func37, Try.ntmps37
      go_wp2_with fail
      refine HA.out.mono ?_
      rintro e1 w1 ⟨rfl, hb1⟩
      have HB1 := hid hb1
      clear hb1
      go_wp2_with fail
      refine (HE.out _).mono ?_
      rintro e2 w2 ⟨rfl, rfl⟩
      go_wp2_with fail
      refine (HS1.out _).mono ?_
      rintro e3 w3 ⟨rfl, rfl⟩
      go_wp2
      go_ret2
      exact ⟨none, 0, rfl, hid ⟨OwnsB.nil _ _ _, HB1.out⟩⟩
  · have hxx : x = (0, []) := by
      rw [hx]; unfold Ck.whole; rw [hepo, ← he, if_neg (fun hh => hep ⟨hh.2.1, hh.2.2.1⟩)]; rfl
    subst hxx
    rw [decide_eq_false hep] at HE
    clear hrd hepo he hx hep hr
    go_enter Try.func37, Try.ntmps37
    go_wp2_with fail
    refine HA.out.mono ?_
    rintro e1 w1 ⟨rfl, hb1⟩
    have HB1 := hid hb1
    clear hb1
    go_wp2_with fail
    refine (HE.out _).mono ?_
    rintro e2 w2 ⟨rfl, rfl⟩
    go_wp2
    go_ret2
    exact ⟨none, 0, rfl, hid ⟨OwnsB.nil _ _ _, HB1.out⟩⟩
end C
end Go.Proofs.Ytdgijnolpjaheaa
namespace Go.Proofs.Ytdgijnolpjaheaa
open Go.RowKit

namespace Ck
/-- what Load tells: the bytes, the epoch, the error -/
def loaded (o : Option (Int × List Nat)) : List Nat × Int × Int :=
  match o with
  | some (e, p) => (p, e, 0)
  | none => ([], 0, 6)
theorem whole_ep {rd : Nat → Int × List Nat} {at_ n : Nat} {par : Int} {e : Int} {p : List Nat} (h : whole rd at_ n par = some (e, p)) : 1 ≤ e ∧ e % 2 = par := by
  unfold whole at h
  split at h
  · rename_i hc
    obtain ⟨p', _, h2⟩ := Option.map_eq_some_iff.1 h
    obtain ⟨h3, _⟩ := Prod.mk.inj h2
    rw [← h3]
    exact ⟨hc.2.1, hc.2.2.2⟩
  · cases h
/-- the better one of two -/
theorem load_told (rd : Nat → Int × List Nat) (at_ n : Nat) :
    loaded (load rd at_ n) = if (told (whole rd (at_ + n) n 1)).1 = 0 ∧ (told (whole rd at_ n 0)).1 = 0 then ([], 0, 6)
      else if (told (whole rd at_ n 0)).1 < (told (whole rd (at_ + n) n 1)).1 then ((told (whole rd (at_ + n) n 1)).2, (told (whole rd (at_ + n) n 1)).1, 0)
      else ((told (whole rd at_ n 0)).2, (told (whole rd at_ n 0)).1, 0) := by
  unfold load
  rcases h0 : whole rd at_ n 0 with _ | ⟨e0, p0⟩ <;> rcases h1 : whole rd (at_ + n) n 1 with _ | ⟨e1, p1⟩
  · rfl
  · have := whole_ep h1
    show ((p1, e1, 0) : List Nat × Int × Int) = if e1 = 0 ∧ (0 : Int) = 0 then ([], 0, 6) else if (0 : Int) < e1 then (p1, e1, 0) else ([], 0, 0)
    rw [if_neg (by omega), if_pos (by omega)]
  · have := whole_ep h0
    show ((p0, e0, 0) : List Nat × Int × Int) = if (0 : Int) = 0 ∧ e0 = 0 then ([], 0, 6) else if e0 < (0 : Int) then ([], 0, 0) else (p0, e0, 0)
    rw [if_neg (by omega), if_neg (by omega)]
  · have g0 := whole_ep h0
    have g1 := whole_ep h1
    show loaded (if e1 < e0 then some (e0, p0) else some (e1, p1)) = if e1 = 0 ∧ e0 = 0 then ([], 0, 6) else if e0 < e1 then (p1, e1, 0) else (p0, e0, 0)
    rw [if_neg (show ¬ (e1 = 0 ∧ e0 = 0) by omega)]
    by_cases hlt : e1 < e0
    · rw [if_pos hlt, if_neg (by omega)]; rfl
    · rw [if_neg hlt, if_pos (by omega)]; rfl
theorem told_pos (rd : Nat → Int × List Nat) (at_ n : Nat) (par : Int) : 0 ≤ (told (whole rd at_ n par)).1 ∧ (told (whole rd at_ n par)).1 ≤ 1099511627776 ∧ ((told (whole rd at_ n par)).1 = 0 → (told (whole rd at_ n par)).2 = []) := by
  rcases h : whole rd at_ n par with _ | ⟨e, p⟩
  · exact ⟨Int.le_refl _, by decide, fun _ => rfl⟩
  · have h1 := whole_head h
    refine ⟨by show 0 ≤ e; omega, h1.2.2.1.2, fun h0 => ?_⟩
    have : e = 0 := h0
    omega
end Ck
namespace C
set_option maxRecDepth 100000 in
theorem load_wrong (Z : Nat → Prop) (d : Dk) (s : Sx.St) (f n : Int) (hf : InInt f) (hr : ¬ Ck.Right s.n f n) (w : World) (h : DiskAt w Z d s) :
    Calls Try.prog 17 #[.pointer (some ⟨d.g, 0, none⟩), .int .i64 f, .int .i64 n] w fun e' w' => e' = .returned (.tuple #[.slice none 0 0, .int .i64 0, .int .i64 3]) ∧ w' = w := by
  have HV := hid (valid_any Z d s f n hf w h)
  rw [decide_eq_false hr] at HV
  clear h hr
  go_enter Try.func17, Try.ntmps17
  go_wp2_with fail
  refine HV.out.mono ?_
  rintro e1 w1 ⟨rfl, rfl⟩
  go_wp2
  go_ret3
  exact ⟨rfl, rfl⟩
set_option maxRecDepth 100000 in
set_option maxHeartbeats 2000000 in
theorem load_any (Z : Nat → Prop) (d : Dk) (s : Sx.St) (f n : Nat) (hr : Ck.Right s.n f n) (w : World) (h : DiskAt w Z d s) (x : List Nat × Int × Int) (hx : Ck.loaded (Ck.load (Jo.rdOf s) f n) = x) :
    Calls Try.prog 17 #[.pointer (some ⟨d.g, 0, none⟩), .int .i64 (f : Int), .int .i64 (n : Int)] w fun e' w' => ∃ A c, e' = .returned (.tuple #[.slice A x.1.length c, .int .i64 x.2.1, .int .i64 x.2.2]) ∧
      Hid (OwnsB 5 w' w.heap.size A c x.1 ∧ Below w.heap.size w w') := by
  have HV := hid (valid_any Z d s f n (by obtain ⟨h1, h2, h3⟩ := hr; have := h.bound; unfold InInt; omega) w h)
  rw [decide_eq_true hr] at HV
  have hlt := Ck.load_told (Jo.rdOf s) f n
  have hp0 := Ck.told_pos (Jo.rdOf s) f n 0
  have hp1 := Ck.told_pos (Jo.rdOf s) (f + n) n 1
  have H0 := hid (fun w' h' => read0_any Z d s f n hr w' h')
  have H1 := hid (fun w' h' => read1_any Z d s f n hr w' h')
  obtain ⟨x0, hx0⟩ : ∃ x0, x0 = Ck.told (Ck.whole (Jo.rdOf s) f n 0) := ⟨_, rfl⟩
  obtain ⟨x1, hx1⟩ : ∃ x1, x1 = Ck.told (Ck.whole (Jo.rdOf s) (f + n) n 1) := ⟨_, rfl⟩
  rw [← hx0] at hlt hp0 H0
  rw [← hx1] at hlt hp1 H1
  rw [hx] at hlt
  obtain ⟨e0, p0⟩ := x0
  obtain ⟨e1, p1⟩ := x1
  simp only at hlt hp0 hp1 H0 H1
  have HLT := hid hlt
  have HP := hid (And.intro hp0.2.2 hp1.2.2)
  obtain ⟨a0, _, _⟩ := hp0
  obtain ⟨a1, _, _⟩ := hp1
  have HH := hid h
  clear h hr hx hlt hx0 hx1
  go_enter Try.func17, Try.ntmps17
  go_wp2_with fail
  refine HV.out.mono ?_
  rintro e2 w2 ⟨rfl, rfl⟩
  go_wp2_with fail
  go_loopw [9, 10, 19] (fun vp ve i wr =>
      (vp = .slice none 0 0 ∧ ve = .int .i64 0 ∧ i = .int .i64 0 ∧ Hid (Below w2.heap.size w2 wr)) ∨
      (∃ A c, vp = .slice A p0.length c ∧ ve = .int .i64 e0 ∧ i = .int .i64 1 ∧ Hid (OwnsB 5 wr w2.heap.size A c p0 ∧ Below w2.heap.size w2 wr)) ∨
      (∃ A c, ∃ q : List Nat, ∃ E : Int, vp = .slice A q.length c ∧ ve = .int .i64 E ∧ i = .int .i64 2 ∧ Hid (OwnsB 5 wr w2.heap.size A c q ∧ Below w2.heap.size w2 wr ∧ x = if E = 0 then ([], 0, 6) else (q, E, 0)))) (fun _ _ i _ => (2 - RowKit.intOf i).toNat)
  case atStart => exact .inl ⟨rfl, rfl, rfl, hid (Below.refl _ _)⟩
  case round =>
    rcases hrel with ⟨rfl, rfl, rfl, HB⟩ | ⟨A, c, rfl, rfl, rfl, HB⟩ | ⟨A, c, q, E, rfl, rfl, rfl, HB⟩
    · by_cases hgt : 0 < e0
      · go_wp2_with fail
        refine (H0.out wr (HH.out.below HB.out)).mono ?_
        rintro e3 w3 ⟨A, c, rfl, h3⟩
        have H3 := hid (And.intro (h3.out.1.weaken (base' := w2.heap.size) HB.out.size) (HB.out.trans (h3.out.2.mono HB.out.size)))
        clear h3
        go_wp2
        go_roundw
        case rel => exact .inr (.inl ⟨A, c, rfl, rfl, rfl, H3⟩)
        case measure => simp [RowKit.intOf]
      · have he0 : e0 = 0 := by omega
        have hp0 : p0 = [] := HP.out.1 he0
        subst he0
        subst hp0
        go_wp2_with fail
        refine (H0.out wr (HH.out.below HB.out)).mono ?_
        rintro e3 w3 ⟨A, c, rfl, h3⟩
        have H3 := hid (And.intro (OwnsB.nil 5 w3 w2.heap.size) (HB.out.trans (h3.out.2.mono HB.out.size)))
        clear h3
        go_wp2
        go_roundw
        case rel => exact .inr (.inl ⟨none, 0, rfl, rfl, rfl, H3⟩)
        case measure => simp [RowKit.intOf]
    · by_cases hgt : e0 < e1
      · have hxx : x = if e1 = 0 then ([], 0, 6) else (p1, e1, 0) := by
          rw [HLT.out, if_neg (by omega), if_pos hgt, if_neg (by omega)]
        have HXX := hid hxx
        clear hxx
        go_wp2_with fail
        refine (H1.out wr (HH.out.below HB.out.2)).mono ?_
        rintro e3 w3 ⟨A3, c3, rfl, h3⟩
        have H3 := hid (And.intro (h3.out.1.weaken (base' := w2.heap.size) HB.out.2.size) (And.intro (HB.out.2.trans (h3.out.2.mono HB.out.2.size)) HXX.out))
        clear h3
        go_wp2
        go_roundw
        case rel => exact .inr (.inr ⟨A3, c3, p1, e1, rfl, rfl, rfl, H3⟩)
        case measure => simp [RowKit.intOf]
      · have hxx : x = if e0 = 0 then ([], 0, 6) else (p0, e0, 0) := by
          rw [HLT.out]
          by_cases h0 : e0 = 0
          · rw [if_pos h0, if_pos ⟨by omega, h0⟩]
          · rw [if_neg h0, if_neg (fun hh => h0 hh.2), if_neg hgt]
        have HXX := hid hxx
        clear hxx
        go_wp2_with fail
        refine (H1.out wr (HH.out.below HB.out.2)).mono ?_
        rintro e3 w3 ⟨A3, c3, rfl, h3⟩
        have H3 := hid (And.intro (HB.out.1.below h3.out.2) (And.intro (HB.out.2.trans (h3.out.2.mono HB.out.2.size)) HXX.out))
        clear h3
        go_wp2
        go_roundw
        case rel => exact .inr (.inr ⟨A, c, p0, e0, rfl, rfl, rfl, H3⟩)
        case measure => simp [RowKit.intOf]
    · by_cases hE : E = 0
      · have hxx : x = ([], 0, 6) := by have := HB.out.2.2; rwa [if_pos hE] at this
        subst hxx
        have hEb : (E == 0) = true := by rw [beq_iff_eq]; exact hE
        clear hE
        go_wp2
        go_ret3
        exact ⟨none, 0, rfl, hid ⟨OwnsB.nil _ _ _, HB.out.2.1⟩⟩
      · have hxx : x = (q, E, 0) := by have := HB.out.2.2; rwa [if_neg hE] at this
        subst hxx
        have hEb : (E == 0) = false := by rw [beq_eq_false_iff_ne]; exact hE
        clear hE
        go_wp2
        go_ret3
        exact ⟨A, c, rfl, hid ⟨HB.out.1, HB.out.2.1⟩⟩
end C
end Go.Proofs.Ytdgijnolpjaheaa
namespace Go.Proofs.Ytdgijnolpjaheaa
open Go.RowKit

namespace Jo
/-- may an area and an epoch be? -/
def Right (N : Nat) (f n e : Int) : Prop := 0 ≤ f ∧ 1 ≤ n ∧ n ≤ N - f ∧ 1 ≤ e ∧ e ≤ 1099511627776
instance (N : Nat) (f n e : Int) : Decidable (Right N f n e) := by unfold Right; infer_instance
end Jo
namespace J
set_option maxRecDepth 100000 in
theorem valid_any (Z : Nat → Prop) (d : Dk) (s : Sx.St) (f n e : Int) (hf : InInt f) (w : World) (h : DiskAt w Z d s) :
    Calls Try.prog 72 #[.pointer (some ⟨d.g, 0, none⟩), .int .i64 f, .int .i64 n, .int .i64 e] w fun e' w' => e' = .returned (.bool (decide (Jo.Right s.n f n e))) ∧ w' = w := by
  have hb := h.bound
  have HF := hid hf
  unfold InInt at hf
  by_cases h1 : 0 ≤ f
  · by_cases h2 : 1 ≤ n
    · have hw : IntKind.i64.wrap ((s.n : Int) - f) = (s.n : Int) - f := by rw [IntKind.wrap_i64]; omega
      have HL := hid (len_any Z d s w h)
      by_cases h3 : n ≤ (s.n : Int) - f
      · by_cases h4 : 1 ≤ e
        · by_cases h5 : e ≤ 1099511627776
          · have HE : Hid (decide (Jo.Right s.n f n e) = true) := hid (decide_eq_true ⟨h1, h2, h3, h4, h5⟩)
            rw [HE.out]
            clear h hf hb
            go_enter Try.func72, Try.ntmps72
            go_wp2_with fail
            refine HL.out.mono ?_
            rintro e1 w1 ⟨rfl, rfl⟩
            go_wp2
            go_ret
            exact ⟨rfl, rfl⟩
          · have HE : Hid (decide (Jo.Right s.n f n e) = false) := hid (decide_eq_false (fun hh => h5 hh.2.2.2.2))
            rw [HE.out]
            clear h hf hb
            go_enter Try.func72, Try.ntmps72
            go_wp2_with fail
            refine HL.out.mono ?_
            rintro e1 w1 ⟨rfl, rfl⟩
            go_wp2
            go_ret
            exact ⟨by simp [h5], rfl⟩
        · have HE : Hid (decide (Jo.Right s.n f n e) = false) := hid (decide_eq_false (fun hh => h4 hh.2.2.2.1))
          rw [HE.out]
          clear h hf hb
          go_enter Try.func72, Try.ntmps72
          go_wp2_with fail
          refine HL.out.mono ?_
          rintro e1 w1 ⟨rfl, rfl⟩
          go_wp2
          go_ret
          exact ⟨rfl, rfl⟩
      · have HE : Hid (decide (Jo.Right s.n f n e) = false) := hid (decide_eq_false (fun hh => h3 hh.2.2.1))
        rw [HE.out]
        clear h hf hb
        go_enter Try.func72, Try.ntmps72
        go_wp2_with fail
        refine HL.out.mono ?_
        rintro e1 w1 ⟨rfl, rfl⟩
        go_wp2
        go_ret
        exact ⟨rfl, rfl⟩
    · have HE : Hid (decide (Jo.Right s.n f n e) = false) := hid (decide_eq_false (fun hh => h2 hh.2.1))
      rw [HE.out]
      clear h hf hb
      go_enter Try.func72, Try.ntmps72
      go_wp2
      go_ret
      exact ⟨rfl, rfl⟩
  · have HE : Hid (decide (Jo.Right s.n f n e) = false) := hid (decide_eq_false (fun hh => h1 hh.1))
    rw [HE.out]
    clear h hf hb
    go_enter Try.func72, Try.ntmps72
    go_wp2
    go_ret
    exact ⟨rfl, rfl⟩
theorem sectors_any (k : Nat) (hk : k ≤ 140737488355328) (w : World) :
    Calls Try.prog 61 #[.int .i64 (k : Int)] w fun e w' => e = .returned (.int .i64 (Jo.secs k : Nat)) ∧ w' = w := by
  have he : ((Jo.secs k : Nat) : Int) = max 1 (((k : Int) + 40 - 1) / 40) := by
    unfold Jo.secs; omega
  have HE := hid he
  clear he
  go_enter Try.func61, Try.ntmps61
  go_wp2
  go_ret
  rw [HE.out]
  refine ⟨?_, rfl⟩
  simp
theorem mark_any (i : Nat) (b : Bool) (hi : i ≤ 1000000) (w : World) :
    Calls Try.prog 75 #[.int .i64 (i : Int), .bool b] w fun e w' => e = .returned (.int .i64 (Jo.mark i b : Nat)) ∧ w' = w := by
  cases b
  · go_enter Try.func75, Try.ntmps75
    go_wp2
    go_ret
    simp [Jo.mark]
  · go_enter Try.func75, Try.ntmps75
    go_wp2
    go_ret
    simp [Jo.mark]
theorem head_any (e n m : Int) (he : InInt e) (hn : InInt n) (hm : InInt m) (w : World) :
    Calls Try.prog 63 #[.int .i64 e, .int .i64 n, .int .i64 m] w fun e' w' => ∃ A c, e' = .returned (.slice A 24 c) ∧ OwnsB 5 w' w.heap.size A c (Jo.head e n m) ∧ Below w.heap.size w w' := by
  have H1 := hid (packInt_any w.heap.size none 0 [] e he (by simp) w IsBytes.nil (Nat.le_refl _) (fun _ => rfl))
  have HN := hid hn
  have HM := hid hm
  clear he hn hm
  go_enter Try.func63, Try.ntmps63
  go_wp2_with fail
  refine H1.out.mono ?_
  rintro e1 w1 ⟨A1, c1, rfl, hown1, hb1⟩
  have Hb1 := hid hb1
  have H2 := hid (packInt_any w1.heap.size A1 c1 ([] ++ Pk.enc e) n HN.out (by simp [Pk.enc_length]) w1 hown1.reads (Nat.le_refl _) hown1.none_)
  clear hb1 hown1
  go_wp2_with fail
  refine H2.out.mono ?_
  rintro e2 w2 ⟨A2, c2, rfl, hown2, hb2⟩
  have Hb2 := hid (Hb1.out.trans (hb2.mono Hb1.out.size))
  have H3 := hid (packInt_any w2.heap.size A2 c2 ([] ++ Pk.enc e ++ Pk.enc n) m HM.out (by simp [Pk.enc_length]) w2 hown2.reads (Nat.le_refl _) hown2.none_)
  clear hb2 hown2
  go_wp2_with fail
  refine H3.out.mono ?_
  rintro e3 w3 ⟨A3, c3, rfl, hown3, hb3⟩
  have HO := hid (And.intro (hown3.weaken (base' := w.heap.size) Hb2.out.size) (Hb2.out.trans (hb3.mono Hb2.out.size)))
  clear hb3 hown3
  go_wp2
  go_ret
  exact ⟨A3, c3, rfl, HO.out.1, HO.out.2⟩
end J
end Go.Proofs.Ytdgijnolpjaheaa
