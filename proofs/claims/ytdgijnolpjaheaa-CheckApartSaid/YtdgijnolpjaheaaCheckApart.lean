/- What is done to other sectors changes nothing of what is loaded. Conditions: none. -/
import Derived.Test.YtdgijnolpjaheaaRows
import Derived.Test.YtdgijnolpjaheaaWorks08
import Derived.Test.YtdgijnolpjaheaaKitPick
import Derived.WalkKit
import Derived.WalkLawsBesides
import Derived.ProofKit
import Derived.OpenShut
import Derived.ShutString
import Derived.ChangeOld
import Derived.Below
import Derived.SizedLaws
namespace Go.Proofs.Ytdgijnolpjaheaa.checkApart
open Go.ChangeShapes Go.WideShapes Go.ChangeAt Go.RowKit
open Go.ChangeMaps (open_string shut_string)
set_option linter.unusedVariables false

theorem own : ownKnob Try.prog.godebug = none := by kernel_rfl
theorem laidOut : laidOutB Try.prog = true := by kernel_rfl
theorem bytesOf : Try.prog.bytesOf 5 = 1 := by kernel_rfl
theorem bytesOfI : Try.prog.bytesOf 3 = 8 := by kernel_rfl

theorem lit_ints {S : Nat → Prop} (w : World) (l : List Int) (hl : ∀ x ∈ l, InInt x) (hS : ¬ S w.heap.size) {w' : World} (ht : Turned S (w.alloc (.cells (ints l).toArray 3)) w') : IsInts w' w'.heap.size (some ⟨w.heap.size, 0, none⟩) l := by
  have h := isInts_new w l hl 3 (0, 0)
  refine ⟨h.small, fun k hk => ?_⟩
  obtain ⟨b, off, e, hb, hc⟩ := h.cells k hk
  injection e with e
  injection e with e1 e2
  subst e1
  subst e2
  refine ⟨w.heap.size, 0, rfl, Nat.lt_of_lt_of_le (by rw [World.size_alloc]; omega) ht.size, fun i hi => ?_⟩
  rw [ht.cell (p := ⟨w.heap.size, 0 + i, none⟩) (by rw [World.size_alloc]; show w.heap.size < _; omega) hS]
  exact hc i hi
set_option maxRecDepth 100000 in
set_option maxHeartbeats 2000000 in
theorem walk (a0 : Int) (a1 : Option Addr) (cap1 : Nat) (l1 : List Nat) (a2 : Option Addr) (cap2 : Nat) (l2 : List (List Nat)) (a3 : Option Addr) (cap3 : Nat) (l3 : List Int) (w : World) (b0 : -9223372036854775808 ≤ a0 ∧ a0 ≤ 9223372036854775807)
    (k1 : IsBytes w w.heap.size a1 l1) (n1 : l1.length ≤ cap1) (r1 : cap1 ≤ 140737488351232) (z1 : a1 = none → cap1 = 0) (k2 : IsRowsIn w w.heap.size a2 l2) (n2 : l2.length ≤ cap2) (r2 : cap2 ≤ maxLen) (z2 : a2 = none → cap2 = 0) (k3 : IsInts w w.heap.size a3 l3) (n3 : l3.length ≤ cap3) (r3 : cap3 * 8 ≤ 140737488351232) (z3 : a3 = none → cap3 = 0) :
    Calls Try.prog 4 #[.int .i64 a0, .slice a1 l1.length cap1, .slice a2 l2.length cap2, .slice a3 l3.length cap3] w fun e w' => e = .returned (.bool true) ∧ Below w.heap.size w w' := by
  obtain ⟨m, hm⟩ : ∃ m, l1.length = m := ⟨_, rfl⟩
  rw [hm] at n1 ⊢
  have HX := hid (And.intro (And.intro hm (And.intro n1 (And.intro (show cap1 ≤ maxLen by unfold maxLen; omega) z1))) (And.intro k1 (And.intro k2 k3)))
  have hsmall := k3.small
  have HSM := hid hsmall
  clear k1 k2 k3 r1 r2 r3 z1 z2 z3 n1 n2 n3 hm hsmall
  obtain ⟨b0l, b0h⟩ := b0
  go_enter Try.func4, Try.ntmps4
  go_wp2_with fail
  refine (works_any w).mono ?_
  rintro e w1 ⟨rfl, hb1⟩
  have HB1 := hid hb1
  clear hb1
  by_cases hp : 4096 < m
  · have hpi : (4096 : Int) < (m : Int) := by omega
    go_wp2
    go_ret
    exact ⟨rfl, HB1.out⟩
  · have hpi : ¬ (4096 : Int) < (m : Int) := by omega
    by_cases hl : 100 < l2.length
    · have hli : (100 : Int) < (l2.length : Int) := by omega
      go_wp2
      go_ret
      exact ⟨rfl, HB1.out⟩
    · have hli : ¬ (100 : Int) < (l2.length : Int) := by omega
      go_wp2_with fail
      refine (new_any 400 (by omega) w1).mono ?_
      rintro e w3 ⟨d, rfl, hD, hb⟩
      have H3 : Hid (CK w w3 d (Sx.new 400) 50 103 0 []) := hid ⟨⟨hD.mono (fun k hk => Nat.lt_of_lt_of_le hk HB1.out.size), HB1.out.trans (hb.mono HB1.out.size)⟩, Ck.inv_new 400 50 103 (by omega) (by omega) (by omega) []⟩
      clear hD hb
      go_wp2_with fail
      by_cases hlo : a0 < 1
      · refine (C.save_wrong _ d (Sx.new 400) 50 103 a0 (by unfold InInt; omega) a1 m cap1 (fun hh => by have := hh.2.1; omega) w3 H3.out.disk.at_).mono ?_
        rintro e w4 ⟨rfl, rfl⟩
        go_wp2
        go_ret
        exact ⟨rfl, H3.out.disk.bel⟩
      · by_cases hhi : 1099511627776 < a0
        · refine (C.save_wrong _ d (Sx.new 400) 50 103 a0 (by unfold InInt; omega) a1 m cap1 (fun hh => by have := hh.2.2; omega) w3 H3.out.disk.at_).mono ?_
          rintro e w4 ⟨rfl, rfl⟩
          go_wp2
          go_ret
          exact ⟨rfl, H3.out.disk.bel⟩
        · refine (C.save_ok w w3 d (Sx.new 400) 50 103 0 a0 [] H3.out ⟨rfl, rfl⟩ (by omega) (.inr rfl) a1 cap1 l1 m HX.out.1.1 (by omega) (by unfold Jo.secs; omega) HX.out.1.2.1 HX.out.1.2.2.1 HX.out.1.2.2.2 ((HX.out.2.1.below H3.out.disk.bel).more H3.out.disk.bel.size)).mono ?_
          rintro e w4 ⟨rfl, h4⟩
          have ⟨s4, h40, h41, h42, h43, h44⟩ := h4.out
          have hn4 : s4.n = 400 := h43
          have H4 := hid (And.intro h40 hn4)
          clear h4 h40 h41 h42 h43 h44 hn4
          have HL : Hid (∀ s, Ck.Same s4 s 50 206 → Ck.loaded (Ck.load (Jo.rdOf s) 50 103) = (l1, a0, 0)) := hid (fun s hs => by
            have h1 := Ck.Same.load (n := 103) hs (by omega) H4.out.1.inv.clean
            have h2 := Ck.inv_load H4.out.1.inv
            rw [if_neg (by omega)] at h2
            rw [h1, h2]; rfl)
          go_wp2_with fail
          go_loopw [12] (fun i wr => ∃ (k : Nat) (s : Sx.St), k ≤ l2.length ∧ i = .int .i64 (k : Int) ∧ Hid (DM w wr d s ∧ Ck.Same s4 s 50 206)) (fun i _ => l2.length - (RowKit.intOf i).toNat)
          case atStart => exact ⟨0, s4, by omega, rfl, hid ⟨H4.out.1.disk, ⟨rfl, by rw [H4.out.2]; omega, fun i _ _ => ⟨H4.out.1.inv.clean i, rfl⟩⟩⟩⟩
          case round =>
            obtain ⟨k, s, hk, rfl, HI⟩ := hrel
            have HSn : Hid (s.n = 400) := hid (HI.out.2.n.trans H4.out.2)
            by_cases hlt : k < l2.length
            · have hlt0 : (k : Int) < (l2.length : Int) := by omega
              by_cases hlt3 : k < l3.length
              · have hlt30 : (k : Int) < (l3.length : Int) := by omega
                obtain ⟨b3, o3, rfl, hb3, hc3⟩ := HX.out.2.2.2.cells k hlt3
                have hcell3 : wr.cell? ⟨b3, o3 + k, none⟩ = some (.int .i64 l3[k]) := (HI.out.1.bel.cell (p := ⟨b3, o3 + k, none⟩) hb3).trans (hc3 k hlt3)
                obtain ⟨v, hv⟩ : ∃ v, v = l3[k] := ⟨_, rfl⟩
                rw [← hv] at hcell3
                obtain ⟨b, off, rfl, hbB, hcs⟩ := HX.out.2.2.1 k hlt
                obtain ⟨A', c', hck, hpb, hpc, hpz⟩ := hcs k hlt
                have hcell : wr.cell? ⟨b, off + k, none⟩ = some (.slice A' l2[k].length c') := (HI.out.1.bel.cell (p := ⟨b, off + k, none⟩) hbB).trans hck
                have HC : Hid (∀ w', Turned d.has wr w' → IsBytes w' w'.heap.size A' l2[k]) := hid (fun w' ht => by
                  have h1 : Below w.heap.size w w' := HI.out.1.bel.trans (ht.below HI.out.1.bel.size HI.out.1.ge)
                  exact (hpb.below h1).more h1.size)
                obtain ⟨pl, hpl⟩ : ∃ pl, pl = l2[k] := ⟨_, rfl⟩
                rw [← hpl] at hcell HC
                have HZ := hid hpz
                clear hc3 hv hcs hck hpb hpc hpz hpl
                go_wp2_with fail
                refine (pick_lt v 194 (by omega) (by omega) wr).mono ?_
                rintro e w5 ⟨⟨p, rfl, hp194⟩, rfl⟩
                by_cases h50 : 50 ≤ p
                · have h50i : (50 : Int) ≤ (p : Int) := by omega
                  go_wp2_with fail
                  refine (write_any _ d s ((p + 206 : Nat) : Int) A' c' pl pl.length rfl HZ.out wr (fun j hj => Nat.lt_of_lt_of_le hj HI.out.1.bel.size) HI.out.1.at_ HC.out).mono ?_
                  rintro e w6 ⟨rfl, hd6, ht6⟩
                  have H6 := hid (And.intro (HI.out.1.next hd6 ht6) (HI.out.2.write (p + 206) pl (.inr (by omega))))
                  clear hd6 ht6
                  go_wp2
                  go_roundw
                  case rel => exact ⟨k + 1, _, by omega, by go_num, H6⟩
                  case measure => simp [RowKit.intOf]; omega
                · have h50i : ¬ (50 : Int) ≤ (p : Int) := by omega
                  go_wp2_with fail
                  refine (write_any _ d s (p : Int) A' c' pl pl.length rfl HZ.out wr (fun j hj => Nat.lt_of_lt_of_le hj HI.out.1.bel.size) HI.out.1.at_ HC.out).mono ?_
                  rintro e w6 ⟨rfl, hd6, ht6⟩
                  have H6 := hid (And.intro (HI.out.1.next hd6 ht6) (HI.out.2.write p pl (.inl (by omega))))
                  clear hd6 ht6
                  go_wp2
                  go_roundw
                  case rel => exact ⟨k + 1, _, by omega, by go_num, H6⟩
                  case measure => simp [RowKit.intOf]; omega
              · have hlt30 : ¬ (k : Int) < (l3.length : Int) := by omega
                have HR : Hid (Ck.Right s.n 50 103) := hid (by rw [HSn.out]; exact ⟨by omega, by omega, by omega⟩)
                go_wp2_with fail
                refine (C.load_any _ d s 50 103 HR.out wr HI.out.1.at_ (l1, a0, 0) (HL.out s HI.out.2)).mono ?_
                rintro e w6 ⟨A6, c6, rfl, H6⟩
                rw [show (l1, a0, (0 : Int)).1.length = m from HX.out.1.1]
                have HB6 := hid (And.intro (HI.out.1.bel.trans (H6.out.2.mono HI.out.1.bel.size)) (HI.out.1.below H6.out.2))
                go_wp2_with fail
                refine (same_B A6 a1 c6 cap1 l1 m HX.out.1.1 (by unfold maxLen; omega) w6 H6.out.1.reads ((HX.out.2.1.below HB6.out.1).more HB6.out.1.size)).mono ?_
                rintro e w7 ⟨rfl, hb7⟩
                have H7 := hid (HB6.out.2.below hb7)
                clear hb7
                go_wp2_with fail
                have hb8 : Below w7.heap.size w7 (w7.alloc (.cells #[.int .i64 2, .int .i64 1, .int .i64 0, .int .i64 2] 3)) := (Below.refl _ _).alloc (Nat.le_refl _) _
                have HCR := hid (crash_any _ d s (some ⟨w7.heap.size, 0, none⟩) 4 [2, 1, 0, 2] 4 rfl _ (H7.out.below hb8).at_ (fun w' ht => lit_ints w7 [2, 1, 0, 2] (by intro x hx; simp at hx; unfold InInt; omega) (fun h => by have := H7.out.at_.lt _ h; exact Nat.lt_irrefl _ this) ht))
                have HB8 := hid (H7.out.below hb8)
                clear hb8
                refine HCR.out.mono ?_
                rintro e w8 ⟨rfl, hd8, ht8⟩
                have H8 := hid (HB8.out.next hd8 ht8)
                clear hd8 ht8 HCR
                go_wp2_with fail
                refine (C.load_any _ d (Sx.crash s [2, 1, 0, 2]) 50 103 HR.out w8 H8.out.at_ (l1, a0, 0) (HL.out _ (HI.out.2.crash _))).mono ?_
                rintro e w9 ⟨A9, c9, rfl, H9⟩
                rw [show (l1, a0, (0 : Int)).1.length = m from HX.out.1.1]
                have HB9 := hid (H8.out.bel.trans (H9.out.2.mono H8.out.bel.size))
                go_wp2_with fail
                refine (same_B A9 a1 c9 cap1 l1 m HX.out.1.1 (by unfold maxLen; omega) w9 H9.out.1.reads ((HX.out.2.1.below HB9.out).more HB9.out.size)).mono ?_
                rintro e w10 ⟨rfl, hb10⟩
                have HB10 := hid (HB9.out.trans (hb10.mono HB9.out.size))
                clear hb10
                go_wp2
                go_ret
                exact ⟨rfl, HB10.out⟩
            · have hlt0 : ¬ (k : Int) < (l2.length : Int) := by omega
              have HR : Hid (Ck.Right s.n 50 103) := hid (by rw [HSn.out]; exact ⟨by omega, by omega, by omega⟩)
              go_wp2_with fail
              refine (C.load_any _ d s 50 103 HR.out wr HI.out.1.at_ (l1, a0, 0) (HL.out s HI.out.2)).mono ?_
              rintro e w6 ⟨A6, c6, rfl, H6⟩
              rw [show (l1, a0, (0 : Int)).1.length = m from HX.out.1.1]
              have HB6 := hid (And.intro (HI.out.1.bel.trans (H6.out.2.mono HI.out.1.bel.size)) (HI.out.1.below H6.out.2))
              go_wp2_with fail
              refine (same_B A6 a1 c6 cap1 l1 m HX.out.1.1 (by unfold maxLen; omega) w6 H6.out.1.reads ((HX.out.2.1.below HB6.out.1).more HB6.out.1.size)).mono ?_
              rintro e w7 ⟨rfl, hb7⟩
              have H7 := hid (HB6.out.2.below hb7)
              clear hb7
              go_wp2_with fail
              have hb8 : Below w7.heap.size w7 (w7.alloc (.cells #[.int .i64 2, .int .i64 1, .int .i64 0, .int .i64 2] 3)) := (Below.refl _ _).alloc (Nat.le_refl _) _
              have HCR := hid (crash_any _ d s (some ⟨w7.heap.size, 0, none⟩) 4 [2, 1, 0, 2] 4 rfl _ (H7.out.below hb8).at_ (fun w' ht => lit_ints w7 [2, 1, 0, 2] (by intro x hx; simp at hx; unfold InInt; omega) (fun h => by have := H7.out.at_.lt _ h; exact Nat.lt_irrefl _ this) ht))
              have HB8 := hid (H7.out.below hb8)
              clear hb8
              refine HCR.out.mono ?_
              rintro e w8 ⟨rfl, hd8, ht8⟩
              have H8 := hid (HB8.out.next hd8 ht8)
              clear hd8 ht8 HCR
              go_wp2_with fail
              refine (C.load_any _ d (Sx.crash s [2, 1, 0, 2]) 50 103 HR.out w8 H8.out.at_ (l1, a0, 0) (HL.out _ (HI.out.2.crash _))).mono ?_
              rintro e w9 ⟨A9, c9, rfl, H9⟩
              rw [show (l1, a0, (0 : Int)).1.length = m from HX.out.1.1]
              have HB9 := hid (H8.out.bel.trans (H9.out.2.mono H8.out.bel.size))
              go_wp2_with fail
              refine (same_B A9 a1 c9 cap1 l1 m HX.out.1.1 (by unfold maxLen; omega) w9 H9.out.1.reads ((HX.out.2.1.below HB9.out).more HB9.out.size)).mono ?_
              rintro e w10 ⟨rfl, hb10⟩
              have HB10 := hid (HB9.out.trans (hb10.mono HB9.out.size))
              clear hb10
              go_wp2
              go_ret
              exact ⟨rfl, HB10.out⟩

set_option maxRecDepth 100000 in
theorem lifted (os : Os) (started : os.Started) (H : Type) (enc : TypeId × Value → H) :
    ReturnsInHanded {} Try.checked os 4 .any (Rows.checkApartSpec.pre6 enc Try.prog Try.f4 Rows.checkApartRow.domain false) (Rows.checkApartSpec.post enc Try.prog Try.f4 false true false false) := by
  refine returnsInHanded_of_change_sized (C := Try.checked) own started (by kernel_rfl) Try.func4
    (ChangeSpec.witness6 (enc := enc) (C := Try.checked) false ⟨#[], #[.int .i64 0, .slice none 0 0, .slice none 0 0, .slice none 0 0], []⟩ 8 (by kernel_rfl) (by kernel_rfl) (by kernel_rfl) (by kernel_rfl)) ?_
  intro W base args ds gs before hval0 hW hcnd hsz0 _
  have hsz : (DataW.weightsEach Try.prog (Try.f4.params.toList ++ Rows.checkApartSpec.plain.varTypes Try.prog) (ds ++ gs)).all (· ≤ reachBytes) = true := hsz0
  clear hsz0
  have hval : ∀ (j : Nat) t v, Try.f4.params[j]? = some t → args[j]? = some v → Value.okWide Try.prog W .any base t v := hval0
  have hW' := hW
  obtain ⟨p, q, hA0, hV, rfl, hfz, hnd⟩ := hW
  have hA : DataW.TrodAll enc Try.prog W 0 (fun _ => true) true Try.f4.params.toList args.toList ds p := hA0
  rw [Try.params4] at hA hval hsz
  obtain ⟨v0, vs0, d0, ds0, p0, q0, hargs, rfl, rfl, g0, t0⟩ := trodAll_cons hA
  obtain ⟨v1, vs1, d1, ds1, p1, q1, rfl, rfl, rfl, g1, t1⟩ := trodAll_cons t0
  obtain ⟨v2, vs2, d2, ds2, p2, q2, rfl, rfl, rfl, g2, t2⟩ := trodAll_cons t1
  obtain ⟨v3, vs3, d3, ds3, p3, q3, rfl, rfl, rfl, g3, t3⟩ := trodAll_cons t2
  obtain ⟨rfl, rfl, rfl⟩ := trodAll_nil t3
  obtain rfl : args = #[v0, v1, v2, v3] := by cases args; simp_all
  obtain ⟨rfl, rfl⟩ := trodVars_none hV
  obtain ⟨a0, rfl, rfl, rfl, w0⟩ := open_int Try.underlying3 (hval 0 3 v0 rfl rfl) g0
  have b0 := bounds_i64 w0
  obtain ⟨a1, len1, cap1, rfl⟩ := okWide_slice Try.underlying32 (hval 1 32 v1 rfl rfl)
  have m1 := g1
  have lt1 : ∀ x ∈ p1, x.block < W.heap.size := by obtain ⟨m, hm⟩ := m1; exact DataW.trod_lt m _ _ _ hm
  obtain ⟨l1, k1, rfl, n1, r1, z1⟩ : ∃ l, IsBytes W W.heap.size a1 l ∧ len1 = l.length ∧ l.length ≤ cap1 ∧ cap1 ≤ 140737488351232 ∧ (a1 = none → cap1 = 0) := by
    obtain ⟨fuel, hf⟩ := g1
    rcases open_ints Try.underlying32 Try.underlying5 (by kernel_rfl) hf with ⟨hcs, _⟩ | ⟨x, l, c, zs, hcs, _, hl, hm, hz, hx, hcell, hwz⟩
    · simp [Value.cells] at hcs
      obtain ⟨rfl, rfl, rfl⟩ := hcs
      exact ⟨[], IsBytes.nil, rfl, by simp, by omega, fun _ => rfl⟩
    · simp [Value.cells] at hcs
      obtain ⟨rfl, rfl, rfl⟩ := hcs
      simp only [Prod.mk.injEq] at hx
      obtain ⟨rfl, rfl⟩ := hx
      simp only [if_true] at hz
      have hr := sized_slice hsz (j := 1) (t := 32) (e := 5) rfl rfl Try.underlying32
      rw [bytesOf] at hr
      simp only [lits, List.length_map, List.length_take, List.length_drop, reachBytes] at hr
      obtain ⟨l, h1, h2⟩ := isBytes_of_ints hl hz hcell hwz
      exact ⟨l, h1, h2, by omega, by omega, fun h => by cases h⟩
  obtain ⟨a2, len2, cap2, rfl⟩ := okWide_slice Try.underlying22 (hval 2 22 v2 rfl rfl)
  have m2 := g2
  have lt2 : ∀ x ∈ p2, x.block < W.heap.size := by obtain ⟨m, hm⟩ := m2; exact DataW.trod_lt m _ _ _ hm
  obtain ⟨l2, k2, rfl, n2, r2, z2⟩ : ∃ l, IsRowsIn W W.heap.size a2 l ∧ len2 = l.length ∧ l.length ≤ cap2 ∧ cap2 ≤ maxLen ∧ (a2 = none → cap2 = 0) := by
    obtain ⟨fuel, hf⟩ := g2
    obtain ⟨a, c, ts, hcs, h1, h2, h3⟩ := rows_of_trod hf
    simp [Value.cells] at hcs
    obtain ⟨rfl, rfl, rfl⟩ := hcs
    exact ⟨ts, h1, rfl, h2.1, h2.2, h3⟩
  obtain ⟨a3, len3, cap3, rfl⟩ := okWide_slice Try.underlying23 (hval 3 23 v3 rfl rfl)
  have m3 := g3
  have lt3 : ∀ x ∈ p3, x.block < W.heap.size := by obtain ⟨m, hm⟩ := m3; exact DataW.trod_lt m _ _ _ hm
  obtain ⟨l3, k3, rfl, n3, r3, z3⟩ : ∃ l, IsInts W W.heap.size a3 l ∧ len3 = l.length ∧ l.length ≤ cap3 ∧ cap3 * 8 ≤ 140737488351232 ∧ (a3 = none → cap3 = 0) := by
    obtain ⟨fuel, hf⟩ := g3
    rcases open_ints Try.underlying23 Try.underlying3 (by kernel_rfl) hf with ⟨hcs, _⟩ | ⟨x, l, c, zs, hcs, _, hl, hm, hz, hx, hcell, hwz⟩
    · simp [Value.cells] at hcs
      obtain ⟨rfl, rfl, rfl⟩ := hcs
      exact ⟨[], IsInts.nil, rfl, by simp, by omega, fun _ => rfl⟩
    · simp [Value.cells] at hcs
      obtain ⟨rfl, rfl, rfl⟩ := hcs
      simp only [Prod.mk.injEq] at hx
      obtain ⟨rfl, rfl⟩ := hx
      simp only [if_true] at hz
      have hr := sized_slice hsz (j := 3) (t := 23) (e := 3) rfl rfl Try.underlying23
      rw [bytesOfI] at hr
      simp only [lits, List.length_map, List.length_take, List.length_drop, reachBytes] at hr
      obtain ⟨l, h1, h2⟩ := isInts_of_ints hl hz hcell hwz
      exact ⟨l, h1, h2, by omega, by omega, fun h => by cases h⟩
  clear hA0 hval0
  refine (walk a0 a1 cap1 l1 a2 cap2 l2 a3 cap3 l3 W b0 k1 n1 r1 z1 k2 n2 r2 z2 k3 n3 r3 z3).mono fun e W' ⟨he, bel⟩ => ?_
  subst he
  exact ⟨_, rfl, _, _, _, [], _, [], hW', trodAll_mk1 (shut_bool Try.underlying4 _), (trodAll_cons_mk (shut_int Try.underlying3 w0) (trodAll_cons_mk (Below.trod laidOut (by kernel_rfl) (of_decide_eq_true (by kernel_rfl)) m1 bel lt1) (trodAll_cons_mk (Below.trod laidOut (by kernel_rfl) (of_decide_eq_true (by kernel_rfl)) m2 bel lt2) (trodAll_cons_mk (Below.trod laidOut (by kernel_rfl) (of_decide_eq_true (by kernel_rfl)) m3 bel lt3) trodAll_mk0)))), rfl, bel.frame _, fun h => by cases h⟩

theorem over : Rows.checkApartRow.holds Try.pinned (OpenSpec.ofChange Rows.checkApartSpec) :=
  OpenClaim.holds_of_wide 4 Try.f4 rfl rfl rfl rfl rfl rfl rfl ⟨rfl, rfl, rfl, rfl, rfl⟩ rfl rfl rfl rfl rfl (by kernel_rfl) Try.func4 (by kernel_rfl)
    (of_decide_eq_true (by kernel_rfl)) (by unfold Func.isWrapper; first | (rw [if_pos (by decide +kernel)]; kernel_rfl) | (rw [if_neg (by decide +kernel)]; exact ⟨rfl, rfl⟩))
    (fun os started H enc _ => lifted os started H enc)

theorem proved : Rows.CheckApartSaid := over
end Go.Proofs.Ytdgijnolpjaheaa.checkApart
