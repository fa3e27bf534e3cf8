/- The walk through an epoch's life. -/
import Derived.Test.YtomnbaeokmpobaaWorks07
import Derived.Test.YtomnbaeokmpobaaJoIn
import Derived.Test.YtomnbaeokmpobaaCopyRows
import Derived.Test.YtomnbaeokmpobaaKitPick
import Derived.StillTailTactics
namespace Go.Proofs.Ytomnbaeokmpobaa
open Go.RowKit

theorem JG.arm {w0 w w' : World} {d : Dk} {s : Sx.St} {g : Nat} {e : Int} {f n : Nat} {L : List (List Nat)} (h : JG w0 w d s g e f n L) (k : Int) (hd : DiskAt w' (fun b => b < w0.heap.size) d (Sx.arm s k)) (ht : Turned d.has w w') : JG w0 w' d (Sx.arm s k) g e f n L :=
  ⟨h.disk.next hd ht, h.ge, h.jn.keep ht (h.jn.not_disk h.disk.at_), Jo.good_arm h.good k, h.ep, h.sz, h.len⟩
/-- what an epoch's life leaves: L must be told, or M -/
structure Lived (w0 w w' : World) (d : Dk) (e : Int) (L M : List (List Nat)) (A1 : Option Addr) (c1 : Nat) (A2 : Option Addr) (c2 : Nat) (s' : Sx.St) : Prop where
  disk : DM w0 w' d s'
  n : s'.n = 42
  must : RowsB w' w0.heap.size w.heap.size (.slice A1 L.length c1) L
  may : RowsB w' w0.heap.size w.heap.size (.slice A2 M.length c2) M
  told : ∀ l, (Jo.scan (Jo.rdOf (Sx.crash s' l)) e 40 1 [] [] = L ∨ Jo.scan (Jo.rdOf (Sx.crash s' l)) e 40 1 [] [] = M) ∧ Jo.Fresh (e + 1) (Sx.crash s' l)
  len : L.length ≤ 50 ∧ M.length ≤ 51

set_option maxRecDepth 100000 in
set_option maxHeartbeats 2000000 in
theorem lives_any (w0 w : World) (d : Dk) (s : Sx.St) (e : Int) (H : DM w0 w d s) (hn : s.n = 42) (hF : Jo.Fresh e s) (he : 1 ≤ e ∧ e ≤ 1000) (ar : Option Addr) (cr : Nat) (R : List (List Nat)) (cut : Int) (al : Option Addr) (nl cl : Nat) (hR : IsRowsIn w0 w0.heap.size ar R) (hcut : InInt cut) :
    Calls Try.prog 8 #[.pointer (some ⟨d.g, 0, none⟩), .int .i64 e, .agg #[.slice ar R.length cr, .int .i64 cut, .slice al nl cl]] w fun e' w' => Hid (∃ L M A1 c1 A2 c2, e' = .returned (.tuple #[.slice A1 L.length c1, .slice A2 M.length c2, .bool true]) ∧ ∃ s', Lived w0 w w' d e L M A1 c1 A2 c2 s') := by
  have HX := hid (And.intro H (And.intro hn (And.intro hF (And.intro hR hcut))))
  clear H hn hF hR
  go_enter Try.func8, Try.ntmps8
  go_wp2_with fail
  obtain ⟨wb, hwb⟩ : ∃ wb, wb = w.alloc (.cells #[.slice ar R.length cr, .int .i64 cut, .slice al nl cl] 30) := ⟨_, rfl⟩
  rw [← hwb]
  have hsb : wb.heap.size = w.heap.size + 1 := by rw [hwb]; simp
  have hbb : Below w.heap.size w wb := by rw [hwb]; exact (Below.refl _ _).alloc (Nat.le_refl _) _
  have hxb : wb.heap[w.heap.size]? = some (.cells #[.slice ar R.length cr, .int .i64 cut, .slice al nl cl] 30 (0, 0)) := by rw [hwb]; exact heap_alloc_new w _
  have HB := hid (And.intro hsb (And.intro hbb hxb))
  clear hwb hsb hbb hxb
  refine (J.new_JG w0 d s 1 40 e wb (HX.out.1.below HB.out.2.1) HX.out.2.2.1 (by omega) (by have := HX.out.2.1; omega) (by omega)).mono ?_
  rintro e1 w2 ⟨rfl, h2⟩
  have hx2 : w2.heap[w.heap.size]? = some (.cells #[.slice ar R.length cr, .int .i64 cut, .slice al nl cl] 30 (0, 0)) := (h2.out.2.1.block _ (by have := HB.out.1; omega)).trans HB.out.2.2
  have H2 := hid (And.intro h2.out.1 (And.intro h2.out.2.2 hx2))
  have hcb : w2.cell? ⟨w.heap.size, 1, none⟩ = some (.int .i64 cut) := by simp [World.cell?, hx2]
  clear h2 hx2
  have hcut1 := hcut.1
  have hcut2 := hcut.2
  go_wp2_with fail
  refine (pick_lt cut 150 (by omega) (by omega) w2).mono ?_
  rintro e1 w2' ⟨⟨p, rfl, hp⟩, rfl⟩
  go_wp2_with fail
  refine (arm_any _ d s (p : Int) (by unfold InInt; omega) w2 H2.out.1.disk.at_).mono ?_
  rintro e1 w3 ⟨rfl, hd3, ht3⟩
  have hwd : ∀ j, d.has j → j < w.heap.size := HX.out.1.at_.lt
  have HG : Hid (JG w0 w3 d (Sx.arm s p) wb.heap.size e 1 40 [] ∧ w3.heap[w.heap.size]? = some (.cells #[.slice ar R.length cr, .int .i64 cut, .slice al nl cl] 30 (0, 0)) ∧ (∀ j, d.has j → j < w.heap.size) ∧ wb.heap.size = w.heap.size + 1 ∧ wb.heap.size + 1 ≤ w3.heap.size ∧ w0.heap.size ≤ w.heap.size) :=
    hid ⟨H2.out.1.arm p hd3 ht3, (ht3.block _ (by have := H2.out.2.1; have := HB.out.1; omega) (fun hh => by have := hwd _ hh; omega)).trans H2.out.2.2, hwd, HB.out.1, by have := H2.out.2.1; have := ht3.size; omega, HX.out.1.bel.size⟩
  clear hd3 ht3 hcb H2 HB hwd hp
  go_wp2_with fail
  go_loopw [11, 12] (fun vM i wr => ∃ (k : Nat) (s' : Sx.St) (L : List (List Nat)) (AM : Option Addr) (cM : Nat), k ≤ R.length ∧ k ≤ 50 ∧ L.length ≤ k ∧ i = .int .i64 (k : Int) ∧ vM = .slice AM L.length cM ∧
    Hid (JG w0 wr d s' wb.heap.size e 1 40 L ∧ s'.n = 42 ∧ Jo.Fresh (e + 1) s' ∧ RowsB wr w0.heap.size w3.heap.size (.slice AM L.length cM) L ∧ w3.heap.size ≤ wr.heap.size ∧ wr.heap[w.heap.size]? = some (.cells #[.slice ar R.length cr, .int .i64 cut, .slice al nl cl] 30 (0, 0)))) (fun _ i _ => R.length - (RowKit.intOf i).toNat)
  case atStart => exact ⟨0, Sx.arm s p, [], none, 0, by omega, by omega, by simp, rfl, rfl, hid ⟨HG.out.1, HX.out.2.1, (Jo.fresh_arm (HX.out.2.2.1.more (by omega)) p), RowsB.nil _ _ _, Nat.le_refl _, HG.out.2.1⟩⟩
  case round =>
    obtain ⟨k, s', L, AM, cM, hk, hk50, hLk, rfl, rfl, HI⟩ := hrel
    have hx0 : wr.cell? ⟨w.heap.size, 0, none⟩ = some (.slice ar R.length cr) := by simp [World.cell?, HI.out.2.2.2.2.2]
    by_cases hlt : k < R.length
    · have hlt0 : (k : Int) < (R.length : Int) := by omega
      by_cases hlt50 : k < 50
      · have hlt50i : (k : Int) < 50 := by omega
        obtain ⟨b, off, rfl, hbB, hcs⟩ := (HX.out.2.2.2.1) k hlt
        obtain ⟨A', c', hck0, hpb, hpc, hpz⟩ := hcs k hlt
        have hck := (HI.out.1.disk.bel.cell (p := ⟨b, off + k, none⟩) hbB).trans hck0
        obtain ⟨pl, hpl⟩ : ∃ pl, pl = R[k] := ⟨_, rfl⟩
        rw [← hpl] at hck hpb hpc
        obtain ⟨q, hq⟩ : ∃ q, pl.length = q := ⟨_, rfl⟩
        rw [hq] at hck hpc
        have hpc1 := hpc.1
        have hpc2 : c' ≤ 9223372036854775807 := by have := hpc.2; unfold maxLen at this; omega
        have HP0 := hid (And.intro hq (And.intro hpb (And.intro hpz hpc)))
        clear hq hpb hpz hpl hcs hpc hck0
        go_wp2_with fail
        go_quiet (fail)
        obtain ⟨m, hm⟩ : ∃ m : Nat, (min (q : Int) 300).toNat = m := ⟨_, rfl⟩
        rw [hm]
        have hmq : m ≤ q ∧ m ≤ 300 := by omega
        have hm1 := hmq.1
        have hm2 := hmq.2
        obtain ⟨pm, hpm⟩ : ∃ pm, pl.take m = pm := ⟨_, rfl⟩
        have hpml : pm.length = m := by rw [← hpm, List.length_take, HP0.out.1]; omega
        have HP : Hid (pm.length = m ∧ IsBytes w0 w0.heap.size A' pm ∧ (A' = none → c' = 0) ∧ c' ≤ maxLen) := hid ⟨hpml, by rw [← hpm]; exact HP0.out.2.1.take m, HP0.out.2.2.1, HP0.out.2.2.2.2⟩
        obtain ⟨w4, hw4⟩ : ∃ w4, w4 = wr.drewN nq := ⟨_, rfl⟩
        rw [← hw4]
        have hb4 : Below wr.heap.size wr w4 := by rw [hw4]; exact below_drewN (Below.refl _ _) nq
        have H4 := hid (And.intro (HI.out.1.below hb4) (And.intro HI.out.2.1 (And.intro HI.out.2.2.1 (And.intro (HI.out.2.2.2.1.below hb4 (by have := HI.out.1.disk.bel.size; omega)) (And.intro (Nat.le_trans HI.out.2.2.2.2.1 hb4.size) ((hb4.block _ (by have := HI.out.2.2.2.2.1; have := HG.out.2.2.2; omega)).trans HI.out.2.2.2.2.2))))))
        clear hw4 hb4 hck hpml hpm hm hx0 HI HP0
        obtain ⟨rm, hrm⟩ : ∃ rm, 40 - Jo.total L = rm := ⟨_, rfl⟩
        have hrm40 : rm ≤ 40 := by omega
        go_wp2_with fail
        refine (J.room_JG w0 d s' wb.heap.size e 1 40 L w4 H4.out.1 rm hrm).mono ?_
        rintro e4 w5 ⟨rfl, rfl⟩
        go_wp2_with fail
        refine (J.append_JG w0 d s' wb.heap.size e 1 40 L w5 H4.out.1 A' c' pm m HP.out.1 (by omega) HP.out.2.2.2 HP.out.2.2.1 ((HP.out.2.1.below H4.out.1.disk.bel).more H4.out.1.disk.bel.size)
          (fun hne a ha hh => by
            have h0 : 0 < pm.length := by rcases pm with _ | ⟨x, y⟩; exact absurd rfl hne; simp
            obtain ⟨b', off', hA', hlt', _⟩ := HP.out.2.1.cells 0 h0
            rw [ha] at hA'
            injection hA' with hA'
            subst hA'
            have := H4.out.1.disk.ge _ hh
            simp at this
            omega)).mono ?_
        rintro e5 w6 ⟨hdid, ht6⟩
        have hT6 : ∀ j, d.has j ∨ j = wb.heap.size → w0.heap.size ≤ j ∧ j < w3.heap.size := fun j hj => by
          have h1 := HG.out.2.2
          rcases hj with hj | hj
          · have := h1.1 _ hj; have := H4.out.1.disk.ge _ hj; omega
          · omega
        have H6 := hid (And.intro (H4.out.2.2.2.1.keep ht6 hT6 H4.out.1.disk.bel.size) (And.intro (Nat.le_trans H4.out.2.2.2.2.1 ht6.size) (And.intro ((ht6.block _ (by have := H4.out.2.2.2.2.1; have := HG.out.2.2.2; omega) (fun hh => by have h1 := HG.out.2.2; rcases hh with hh | hh; (have := h1.1 _ hh; omega); omega)).trans H4.out.2.2.2.2.2) hT6)))
        clear ht6 hT6
        rcases hdid with ⟨h1, he5, hj⟩ | ⟨h1, h2, he5, hj⟩ | ⟨s2, h1, h2, he5, hj, hn2, ha2, hd2, hf2⟩ | ⟨s2, h1, h2, hs2, he5, hj, hn2, hd2, hc2⟩
        · exfalso; have := HP.out.1; omega
        · subst he5
          have hfull : ¬ (max (m : Int) 1 ≤ (rm : Int) * 40) := by rw [HP.out.1] at h2; unfold Jo.secs at h2; omega
          have HJ := hid (And.intro hj (And.intro H4.out.2.1 H4.out.2.2.1))
          clear hj h1 h2 H4
          go_wp2_with fail
          refine (J.room_JG w0 d s' wb.heap.size e 1 40 L w6 HJ.out.1 rm hrm).mono ?_
          rintro e6 w7 ⟨rfl, rfl⟩
          go_wp2
          go_roundw
          case rel => exact ⟨k + 1, s', L, AM, cM, by omega, by omega, by omega, by go_num, rfl, hid ⟨HJ.out.1, HJ.out.2.1, HJ.out.2.2, H6.out.1, H6.out.2.1, H6.out.2.2.1⟩⟩
          case measure => simp [RowKit.intOf]; omega
        · subst he5
          obtain ⟨rm2, hrm2⟩ : ∃ x, 40 - Jo.total (L ++ [pm]) = x := ⟨_, rfl⟩
          have hrlt : rm2 < rm := by rw [Jo.total_snoc] at hrm2; have := Jo.secs_pos pm.length; omega
          have HJ := hid (And.intro hj (And.intro (hn2.trans H4.out.2.1) (hf2 H4.out.2.2.1)))
          clear hj h1 h2 hn2 ha2 hd2 hf2 H4
          have hsz6 : w0.heap.size ≤ w6.heap.size := HJ.out.1.disk.bel.size
          have hsz3 : w0.heap.size ≤ w3.heap.size := by have := HG.out.2.2.2; omega
          have hb6 : Below w6.heap.size w6 (w6.alloc (.cells #[.slice A' m c'] 43)) := (Below.refl _ _).alloc (Nat.le_refl _) _
          have HE : Hid (Elm (w6.alloc (.cells #[.slice A' m c'] 43)) w0.heap.size w3.heap.size A' c' pm) := hid ⟨HP.out.2.2.1, by have := HP.out.1; omega, .inl ((HP.out.2.1.below HJ.out.1.disk.bel).below (hb6.mono hsz6))⟩
          have HB6 := hid (And.intro hb6 (And.intro hsz6 hsz3))
          clear hb6 hsz6 hsz3
          go_wp2_with (at_builtin; refine wpList_append_rowB rfl _ _ rfl w0.heap.size w3.heap.size ⟨HB6.out.2.2, by have := H6.out.2.1; simp; omega⟩ _ L rfl (H6.out.1.below HB6.out.1 HB6.out.2.1) ⟨w6.heap.size, 0, none⟩ 1 A' c' pm m HP.out.1 rfl (row_put _ _ _) HE.out _ rfl L.length rfl (by omega) ?_; intro A7 c7 w7 hR7 hg7)
          have hb7 := hg7.below (by have := H6.out.2.1; simp; omega)
          have H7 : Hid (JG w0 w7 d s2 wb.heap.size e 1 40 (L ++ [pm]) ∧ RowsB w7 w0.heap.size w3.heap.size (.slice A7 (L.length + 1) c7) (L ++ [pm]) ∧ w3.heap.size ≤ w7.heap.size ∧ w7.heap[w.heap.size]? = some (.cells #[.slice (some ⟨b, off, none⟩) R.length cr, .int .i64 cut, .slice al nl cl] 30 (0, 0))) :=
            hid ⟨(HJ.out.1.below HB6.out.1).rowGrown (fun j hj => (H6.out.2.2.2 j hj).2) hg7 (by have := H6.out.2.1; simp; omega) HB6.out.2.2, hR7, Nat.le_trans H6.out.2.1 (Nat.le_trans HB6.out.1.size hb7.size), (hb7.block _ (by have := HG.out.2.2.2; omega)).trans ((HB6.out.1.block _ (by have := HG.out.2.2.2; have := H6.out.2.1; omega)).trans H6.out.2.2.1)⟩
          clear hb7 hg7 hR7 HE HB6
          go_wp2_with fail
          refine (J.room_JG w0 d s2 wb.heap.size e 1 40 (L ++ [pm]) w7 H7.out.1 rm2 hrm2).mono ?_
          rintro e8 w8 ⟨rfl, rfl⟩
          go_wp2_with fail
          refine (J.count_JG w0 d s2 wb.heap.size e 1 40 (L ++ [pm]) w8 H7.out.1 (L.length + 1) (by simp)).mono ?_
          rintro e9 w9 ⟨rfl, rfl⟩
          go_wp2
          go_roundw
          case rel => exact ⟨k + 1, s2, L ++ [pm], A7, c7, by omega, by omega, by simp; omega, by go_num, by simp, hid ⟨H7.out.1, HJ.out.2.1, HJ.out.2.2, by rw [List.length_append, List.length_singleton]; exact H7.out.2.1, H7.out.2.2.1, H7.out.2.2.2⟩⟩
          case measure => simp [RowKit.intOf]; omega
        · subst he5
          have HJ := hid (And.intro hj (And.intro (hn2.trans H4.out.2.1) (And.intro hd2 (fun l => And.intro (hc2 l).1 ((hc2 l).2 H4.out.2.2.1)))))
          clear hj h1 h2 hn2 hd2 hc2 hs2 H4
          have HC := hid (copy_rows AM cM L L.length rfl (by omega) w6 (H6.out.1.reads HJ.out.1.bel.size) w0.heap.size HJ.out.1.bel.size)
          go_wp2_with fail
          refine HC.out.mono ?_
          rintro e7 w7 ⟨A7, c7, rfl, hR7, hb7⟩
          have hb7a : Below w6.heap.size w6 (w7.alloc (.cells #[.slice A' m c'] 43)) := hb7.alloc hb7.size _
          have HE : Hid (Elm (w7.alloc (.cells #[.slice A' m c'] 43)) w0.heap.size w6.heap.size A' c' pm) := hid ⟨HP.out.2.2.1, by have := HP.out.1; omega, .inl ((HP.out.2.1.below HJ.out.1.bel).below (hb7a.mono HJ.out.1.bel.size))⟩
          have H7 := hid (And.intro hb7a (And.intro hb7.size (hR7.below ((Below.refl _ _).alloc (Nat.le_refl _) (.cells #[.slice A' m c'] 43)) (Nat.le_trans HJ.out.1.bel.size hb7.size))))
          clear hb7 hR7 HC hb7a
          go_wp2_with (at_builtin; refine wpList_append_rowB rfl _ _ rfl w0.heap.size w6.heap.size ⟨HJ.out.1.bel.size, H7.out.1.size⟩ _ L rfl H7.out.2.2 ⟨w7.heap.size, 0, none⟩ 1 A' c' pm m HP.out.1 rfl (row_put _ _ _) HE.out _ rfl L.length rfl (by omega) ?_; intro A8 c8 w8 hR8 hg8)
          have H8 := hid (And.intro hR8 (H7.out.1.trans (hg8.below H7.out.1.size)))
          clear hR8 hg8 H7 HE
          go_wp2_with fail
          refine (down_any _ d s2 w8 (HJ.out.1.below H8.out.2).at_).mono ?_
          rintro e9 w9 ⟨rfl, rfl⟩
          rw [HJ.out.2.2.1]
          go_wp2_with fail
          go_ret3
          refine ⟨L, L ++ [pm], AM, cM, A8, c8, by simp, s2, ?_⟩
          exact ⟨HJ.out.1.below H8.out.2, HJ.out.2.1, (H6.out.1.below H8.out.2 HJ.out.1.bel.size).mono (by have := HG.out.2.2.2; omega), by
            have := H8.out.1
            rw [List.length_append, List.length_singleton]
            exact this.mono (by have := HG.out.2.2.2; have := H6.out.2.1; omega), fun l => HJ.out.2.2.2 l, by omega, by simp; omega⟩
      · have hlt50i : ¬ (k : Int) < 50 := by omega
        go_wp2_with fail
        go_ret3
        refine ⟨L, L, AM, cM, AM, cM, rfl, s', ?_⟩
        exact ⟨HI.out.1.disk, HI.out.2.1, HI.out.2.2.2.1.mono (by have := HG.out.2.2.2; omega), HI.out.2.2.2.1.mono (by have := HG.out.2.2.2; omega), fun l => ⟨.inl (Jo.good_crash HI.out.1.good l).scan, Jo.fresh_crash HI.out.2.2.1 l⟩, by omega, by omega⟩
    · have hlt0 : ¬ (k : Int) < (R.length : Int) := by omega
      go_wp2_with fail
      go_ret3
      refine ⟨L, L, AM, cM, AM, cM, rfl, s', ?_⟩
      exact ⟨HI.out.1.disk, HI.out.2.1, HI.out.2.2.2.1.mono (by have := HG.out.2.2.2; omega), HI.out.2.2.2.1.mono (by have := HG.out.2.2.2; omega), fun l => ⟨.inl (Jo.good_crash HI.out.1.good l).scan, Jo.fresh_crash HI.out.2.2.1 l⟩, by omega, by omega⟩
end Go.Proofs.Ytomnbaeokmpobaa
