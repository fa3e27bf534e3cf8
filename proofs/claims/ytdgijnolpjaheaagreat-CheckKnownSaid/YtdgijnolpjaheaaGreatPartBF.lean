/- Texts of the proof, one behind the other: WalkApart08, Cuts08. -/
import Derived.Test.YtdgijnolpjaheaaGreatPartAN
import Derived.Test.YtdgijnolpjaheaaGreatPartBD
import Derived.WalkKit
import Derived.WalkLawsBesides
import Derived.ProofKit
import Derived.OpenShut
import Derived.ShutString
import Derived.ChangeOld
import Derived.Below
import Derived.SizedLaws
import Derived.Test.YtdgijnolpjaheaaGreatPartBE
import Derived.Test.YtdgijnolpjaheaaGreatPartBA
namespace Go.Proofs.YtdgijnolpjaheaaGreat.checkApart
open Go.ChangeShapes Go.WideShapes Go.ChangeAt Go.RowKit
open Go.ChangeMaps (open_string shut_string)
set_option linter.unusedVariables false

theorem own : ownKnob Tryz.prog.godebug = none := by kernel_rfl
theorem laidOut : laidOutB Tryz.prog = true := by kernel_rfl
theorem bytesOf : Tryz.prog.bytesOf 5 = 1 := by kernel_rfl
theorem bytesOfI : Tryz.prog.bytesOf 3 = 8 := by kernel_rfl

theorem lit_ints {S : Nat → Prop} (w : World) (l : List Int) (hl : ∀ x ∈ l, InInt x) (hS : ¬ S w.heap.size) {w' : World} (ht : Turned S (w.alloc (.cells (ints l).toArray 3)) w') : IsInts w' w'.heap.size (some ⟨w.heap.size, 0, none⟩) l := by
  have h := isInts_new w l hl 3 (0, 0)
  refine ⟨h.small, fun k hk => ?_⟩
  obtain ⟨b, off, e, hb, hc⟩ := h.cells k hk
  injection e with e
  injection e with e1 e2
  subst e1
  subst e2
  refine ⟨w.heap.size, 0, rfl, Nat.lt_of_lt_of_le (by rw [World.size_alloc]; omega) ht.size, fun i hi => ?_⟩
  rw [ht.cell (p := ⟨w.heap.size, 0 + i, none⟩) (by rw [World.size_alloc]; show w.heap.size < _; omega) hS]
  exact hc i hi
set_option maxRecDepth 100000 in
set_option maxHeartbeats 2000000 in
theorem walk (a0 : Int) (a1 : Option Addr) (cap1 : Nat) (l1 : List Nat) (a2 : Option Addr) (cap2 : Nat) (l2 : List (List Nat)) (a3 : Option Addr) (cap3 : Nat) (l3 : List Int) (w : World) (b0 : -9223372036854775808 ≤ a0 ∧ a0 ≤ 9223372036854775807)
    (k1 : IsBytes w w.heap.size a1 l1) (n1 : l1.length ≤ cap1) (r1 : cap1 ≤ 140737488351232) (z1 : a1 = none → cap1 = 0) (k2 : IsRowsIn w w.heap.size a2 l2) (n2 : l2.length ≤ cap2) (r2 : cap2 ≤ maxLen) (z2 : a2 = none → cap2 = 0) (k3 : IsInts w w.heap.size a3 l3) (n3 : l3.length ≤ cap3) (r3 : cap3 * 8 ≤ 140737488351232) (z3 : a3 = none → cap3 = 0) :
    Calls Tryz.prog 20 #[.int .i64 a0, .slice a1 l1.length cap1, .slice a2 l2.length cap2, .slice a3 l3.length cap3] w fun e w' => e = .returned (.bool true) ∧ Below w.heap.size w w' := by
  obtain ⟨m, hm⟩ : ∃ m, l1.length = m := ⟨_, rfl⟩
  rw [hm] at n1 ⊢
  have HX := hid (And.intro (And.intro hm (And.intro n1 (And.intro (show cap1 ≤ maxLen by unfold maxLen; omega) z1))) (And.intro k1 (And.intro k2 k3)))
  have hsmall := k3.small
  have HSM := hid hsmall
  clear k1 k2 k3 r1 r2 r3 z1 z2 z3 n1 n2 n3 hm hsmall
  obtain ⟨b0l, b0h⟩ := b0
  go_enter Tryz.func20, Tryz.ntmps20
  go_wp2_with fail
  refine (works_any w).mono ?_
  rintro e w1 ⟨rfl, hb1⟩
  have HB1 := hid hb1
  clear hb1
  by_cases hp : 4096 < m
  · have hpi : (4096 : Int) < (m : Int) := by omega
    go_wp2
    go_ret
    exact ⟨rfl, HB1.out⟩
  · have hpi : ¬ (4096 : Int) < (m : Int) := by omega
    by_cases hl : 100 < l2.length
    · have hli : (100 : Int) < (l2.length : Int) := by omega
      go_wp2
      go_ret
      exact ⟨rfl, HB1.out⟩
    · have hli : ¬ (100 : Int) < (l2.length : Int) := by omega
      go_wp2_with fail
      refine (new_any 400 (by omega) w1).mono ?_
      rintro e w3 ⟨d, rfl, hD, hb⟩
      have H3 : Hid (CK w w3 d (Sx.new 400) 50 103 0 []) := hid ⟨⟨hD.mono (fun k hk => Nat.lt_of_lt_of_le hk HB1.out.size), HB1.out.trans (hb.mono HB1.out.size)⟩, Ck.inv_new 400 50 103 (by omega) (by omega) (by omega) []⟩
      clear hD hb
      go_wp2_with fail
      by_cases hlo : a0 < 1
      · refine (C.save_wrong _ d (Sx.new 400) 50 103 a0 (by unfold InInt; omega) a1 m cap1 (fun hh => by have := hh.2.1; omega) w3 H3.out.disk.at_).mono ?_
        rintro e w4 ⟨rfl, rfl⟩
        go_wp2
        go_ret
        exact ⟨rfl, H3.out.disk.bel⟩
      · by_cases hhi : 1099511627776 < a0
        · refine (C.save_wrong _ d (Sx.new 400) 50 103 a0 (by unfold InInt; omega) a1 m cap1 (fun hh => by have := hh.2.2; omega) w3 H3.out.disk.at_).mono ?_
          rintro e w4 ⟨rfl, rfl⟩
          go_wp2
          go_ret
          exact ⟨rfl, H3.out.disk.bel⟩
        · refine (C.save_ok w w3 d (Sx.new 400) 50 103 0 a0 [] H3.out ⟨rfl, rfl⟩ (by omega) (.inr rfl) a1 cap1 l1 m HX.out.1.1 (by omega) (by unfold Jo.secs; omega) HX.out.1.2.1 HX.out.1.2.2.1 HX.out.1.2.2.2 ((HX.out.2.1.below H3.out.disk.bel).more H3.out.disk.bel.size)).mono ?_
          rintro e w4 ⟨rfl, h4⟩
          have ⟨s4, h40, h41, h42, h43, h44⟩ := h4.out
          have hn4 : s4.n = 400 := h43
          have H4 := hid (And.intro h40 hn4)
          clear h4 h40 h41 h42 h43 h44 hn4
          have HL : Hid (∀ s, Ck.Same s4 s 50 206 → Ck.loaded (Ck.load (Jo.rdOf s) 50 103) = (l1, a0, 0)) := hid (fun s hs => by
            have h1 := Ck.Same.load (n := 103) hs (by omega) H4.out.1.inv.clean
            have h2 := Ck.inv_load H4.out.1.inv
            rw [if_neg (by omega)] at h2
            rw [h1, h2]; rfl)
          go_wp2_with fail
          go_loopw [12] (fun i wr => ∃ (k : Nat) (s : Sx.St), k ≤ l2.length ∧ i = .int .i64 (k : Int) ∧ Hid (DM w wr d s ∧ Ck.Same s4 s 50 206)) (fun i _ => l2.length - (RowKit.intOf i).toNat)
          case atStart => exact ⟨0, s4, by omega, rfl, hid ⟨H4.out.1.disk, ⟨rfl, by rw [H4.out.2]; omega, fun i _ _ => ⟨H4.out.1.inv.clean i, rfl⟩⟩⟩⟩
          case round =>
            obtain ⟨k, s, hk, rfl, HI⟩ := hrel
            have HSn : Hid (s.n = 400) := hid (HI.out.2.n.trans H4.out.2)
            by_cases hlt : k < l2.length
            · have hlt0 : (k : Int) < (l2.length : Int) := by omega
              by_cases hlt3 : k < l3.length
              · have hlt30 : (k : Int) < (l3.length : Int) := by omega
                obtain ⟨b3, o3, rfl, hb3, hc3⟩ := HX.out.2.2.2.cells k hlt3
                have hcell3 : wr.cell? ⟨b3, o3 + k, none⟩ = some (.int .i64 l3[k]) := (HI.out.1.bel.cell (p := ⟨b3, o3 + k, none⟩) hb3).trans (hc3 k hlt3)
                obtain ⟨v, hv⟩ : ∃ v, v = l3[k] := ⟨_, rfl⟩
                rw [← hv] at hcell3
                obtain ⟨b, off, rfl, hbB, hcs⟩ := HX.out.2.2.1 k hlt
                obtain ⟨A', c', hck, hpb, hpc, hpz⟩ := hcs k hlt
                have hcell : wr.cell? ⟨b, off + k, none⟩ = some (.slice A' l2[k].length c') := (HI.out.1.bel.cell (p := ⟨b, off + k, none⟩) hbB).trans hck
                have HC : Hid (∀ w', Turned d.has wr w' → IsBytes w' w'.heap.size A' l2[k]) := hid (fun w' ht => by
                  have h1 : Below w.heap.size w w' := HI.out.1.bel.trans (ht.below HI.out.1.bel.size HI.out.1.ge)
                  exact (hpb.below h1).more h1.size)
                obtain ⟨pl, hpl⟩ : ∃ pl, pl = l2[k] := ⟨_, rfl⟩
                rw [← hpl] at hcell HC
                have HZ := hid hpz
                clear hc3 hv hcs hck hpb hpc hpz hpl
                go_wp2_with fail
                refine (pick_lt v 194 (by omega) (by omega) wr).mono ?_
                rintro e w5 ⟨⟨p, rfl, hp194⟩, rfl⟩
                by_cases h50 : 50 ≤ p
                · have h50i : (50 : Int) ≤ (p : Int) := by omega
                  go_wp2_with fail
                  refine (write_any _ d s ((p + 206 : Nat) : Int) A' c' pl pl.length rfl HZ.out wr (fun j hj => Nat.lt_of_lt_of_le hj HI.out.1.bel.size) HI.out.1.at_ HC.out).mono ?_
                  rintro e w6 ⟨rfl, hd6, ht6⟩
                  have H6 := hid (And.intro (HI.out.1.next hd6 ht6) (HI.out.2.write (p + 206) pl (.inr (by omega))))
                  clear hd6 ht6
                  go_wp2
                  go_roundw
                  case rel => exact ⟨k + 1, _, by omega, by go_num, H6⟩
                  case measure => simp [RowKit.intOf]; omega
                · have h50i : ¬ (50 : Int) ≤ (p : Int) := by omega
                  go_wp2_with fail
                  refine (write_any _ d s (p : Int) A' c' pl pl.length rfl HZ.out wr (fun j hj => Nat.lt_of_lt_of_le hj HI.out.1.bel.size) HI.out.1.at_ HC.out).mono ?_
                  rintro e w6 ⟨rfl, hd6, ht6⟩
                  have H6 := hid (And.intro (HI.out.1.next hd6 ht6) (HI.out.2.write p pl (.inl (by omega))))
                  clear hd6 ht6
                  go_wp2
                  go_roundw
                  case rel => exact ⟨k + 1, _, by omega, by go_num, H6⟩
                  case measure => simp [RowKit.intOf]; omega
              · have hlt30 : ¬ (k : Int) < (l3.length : Int) := by omega
                have HR : Hid (Ck.Right s.n 50 103) := hid (by rw [HSn.out]; exact ⟨by omega, by omega, by omega⟩)
                go_wp2_with fail
                refine (C.load_any _ d s 50 103 HR.out wr HI.out.1.at_ (l1, a0, 0) (HL.out s HI.out.2)).mono ?_
                rintro e w6 ⟨A6, c6, rfl, H6⟩
                rw [show (l1, a0, (0 : Int)).1.length = m from HX.out.1.1]
                have HB6 := hid (And.intro (HI.out.1.bel.trans (H6.out.2.mono HI.out.1.bel.size)) (HI.out.1.below H6.out.2))
                go_wp2_with fail
                refine (same_B A6 a1 c6 cap1 l1 m HX.out.1.1 (by unfold maxLen; omega) w6 H6.out.1.reads ((HX.out.2.1.below HB6.out.1).more HB6.out.1.size)).mono ?_
                rintro e w7 ⟨rfl, hb7⟩
                have H7 := hid (HB6.out.2.below hb7)
                clear hb7
                go_wp2_with fail
                have hb8 : Below w7.heap.size w7 (w7.alloc (.cells #[.int .i64 2, .int .i64 1, .int .i64 0, .int .i64 2] 3)) := (Below.refl _ _).alloc (Nat.le_refl _) _
                have HCR := hid (crash_any _ d s (some ⟨w7.heap.size, 0, none⟩) 4 [2, 1, 0, 2] 4 rfl _ (H7.out.below hb8).at_ (fun w' ht => lit_ints w7 [2, 1, 0, 2] (by intro x hx; simp at hx; unfold InInt; omega) (fun h => by have := H7.out.at_.lt _ h; exact Nat.lt_irrefl _ this) ht))
                have HB8 := hid (H7.out.below hb8)
                clear hb8
                refine HCR.out.mono ?_
                rintro e w8 ⟨rfl, hd8, ht8⟩
                have H8 := hid (HB8.out.next hd8 ht8)
                clear hd8 ht8 HCR
                go_wp2_with fail
                refine (C.load_any _ d (Sx.crash s [2, 1, 0, 2]) 50 103 HR.out w8 H8.out.at_ (l1, a0, 0) (HL.out _ (HI.out.2.crash _))).mono ?_
                rintro e w9 ⟨A9, c9, rfl, H9⟩
                rw [show (l1, a0, (0 : Int)).1.length = m from HX.out.1.1]
                have HB9 := hid (H8.out.bel.trans (H9.out.2.mono H8.out.bel.size))
                go_wp2_with fail
                refine (same_B A9 a1 c9 cap1 l1 m HX.out.1.1 (by unfold maxLen; omega) w9 H9.out.1.reads ((HX.out.2.1.below HB9.out).more HB9.out.size)).mono ?_
                rintro e w10 ⟨rfl, hb10⟩
                have HB10 := hid (HB9.out.trans (hb10.mono HB9.out.size))
                clear hb10
                go_wp2
                go_ret
                exact ⟨rfl, HB10.out⟩
            · have hlt0 : ¬ (k : Int) < (l2.length : Int) := by omega
              have HR : Hid (Ck.Right s.n 50 103) := hid (by rw [HSn.out]; exact ⟨by omega, by omega, by omega⟩)
              go_wp2_with fail
              refine (C.load_any _ d s 50 103 HR.out wr HI.out.1.at_ (l1, a0, 0) (HL.out s HI.out.2)).mono ?_
              rintro e w6 ⟨A6, c6, rfl, H6⟩
              rw [show (l1, a0, (0 : Int)).1.length = m from HX.out.1.1]
              have HB6 := hid (And.intro (HI.out.1.bel.trans (H6.out.2.mono HI.out.1.bel.size)) (HI.out.1.below H6.out.2))
              go_wp2_with fail
              refine (same_B A6 a1 c6 cap1 l1 m HX.out.1.1 (by unfold maxLen; omega) w6 H6.out.1.reads ((HX.out.2.1.below HB6.out.1).more HB6.out.1.size)).mono ?_
              rintro e w7 ⟨rfl, hb7⟩
              have H7 := hid (HB6.out.2.below hb7)
              clear hb7
              go_wp2_with fail
              have hb8 : Below w7.heap.size w7 (w7.alloc (.cells #[.int .i64 2, .int .i64 1, .int .i64 0, .int .i64 2] 3)) := (Below.refl _ _).alloc (Nat.le_refl _) _
              have HCR := hid (crash_any _ d s (some ⟨w7.heap.size, 0, none⟩) 4 [2, 1, 0, 2] 4 rfl _ (H7.out.below hb8).at_ (fun w' ht => lit_ints w7 [2, 1, 0, 2] (by intro x hx; simp at hx; unfold InInt; omega) (fun h => by have := H7.out.at_.lt _ h; exact Nat.lt_irrefl _ this) ht))
              have HB8 := hid (H7.out.below hb8)
              clear hb8
              refine HCR.out.mono ?_
              rintro e w8 ⟨rfl, hd8, ht8⟩
              have H8 := hid (HB8.out.next hd8 ht8)
              clear hd8 ht8 HCR
              go_wp2_with fail
              refine (C.load_any _ d (Sx.crash s [2, 1, 0, 2]) 50 103 HR.out w8 H8.out.at_ (l1, a0, 0) (HL.out _ (HI.out.2.crash _))).mono ?_
              rintro e w9 ⟨A9, c9, rfl, H9⟩
              rw [show (l1, a0, (0 : Int)).1.length = m from HX.out.1.1]
              have HB9 := hid (H8.out.bel.trans (H9.out.2.mono H8.out.bel.size))
              go_wp2_with fail
              refine (same_B A9 a1 c9 cap1 l1 m HX.out.1.1 (by unfold maxLen; omega) w9 H9.out.1.reads ((HX.out.2.1.below HB9.out).more HB9.out.size)).mono ?_
              rintro e w10 ⟨rfl, hb10⟩
              have HB10 := hid (HB9.out.trans (hb10.mono HB9.out.size))
              clear hb10
              go_wp2
              go_ret
              exact ⟨rfl, HB10.out⟩
end Go.Proofs.YtdgijnolpjaheaaGreat.checkApart
namespace Go.Proofs.YtdgijnolpjaheaaGreat
open Go.RowKit
namespace KC
structure RowD where
  A : Option Addr
  n : Nat
  c : Nat
  l : List Nat
structure RowD.Ok (d : RowD) (w : World) : Prop where
  len : d.l.length = d.n
  reads : IsBytes w w.heap.size d.A d.l
  cap : d.n ≤ d.c ∧ d.c ≤ maxLen
  nil : d.A = none → d.c = 0
theorem rows_lit {w : World} (s : List RowD) (h : ∀ d ∈ s, d.Ok w) :
    IsRowsIn (w.alloc (.cells (s.map fun d => Value.slice d.A d.n d.c).toArray 23)) (w.heap.size + 1) (some ⟨w.heap.size, 0, none⟩) (s.map RowD.l) := fun k hk => by
  refine ⟨w.heap.size, 0, rfl, by omega, fun i hi => ?_⟩
  have hi' : i < s.length := by simpa using hi
  have ho := h _ (List.getElem_mem hi')
  have e : (s.map RowD.l)[i] = s[i].l := by simp
  rw [e]
  have hb : Below w.heap.size w (w.alloc (.cells (s.map fun d => Value.slice d.A d.n d.c).toArray 23)) := (Below.refl _ w).alloc (Nat.le_refl _) _
  refine ⟨s[i].A, s[i].c, ?_, (ho.reads.below hb).more (by omega), by rw [ho.len]; exact ho.cap, ho.nil⟩
  rw [World.cell?_alloc_new, List.getElem?_toArray, Nat.zero_add, List.getElem?_map, List.getElem?_eq_getElem hi', ho.len]
  rfl
theorem lists_lit {w : World} (A : Option Addr) (n c : Nat) (l : List Int) (hn : l.length = n) (h : IsInts w w.heap.size A l) (hc : n ≤ c ∧ c ≤ maxLen) (hz : A = none → c = 0) (m : Nat) :
    IsIntRows (w.alloc (.cells (List.replicate m (Value.slice A n c)).toArray 22)) (w.heap.size + 1) (some ⟨w.heap.size, 0, none⟩) (List.replicate m l) := fun k hk => by
  refine ⟨w.heap.size, 0, rfl, by omega, fun i hi => ?_⟩
  have hi' : i < m := by simpa using hi
  have hb : Below w.heap.size w (w.alloc (.cells (List.replicate m (Value.slice A n c)).toArray 22)) := (Below.refl _ w).alloc (Nat.le_refl _) _
  have e : (List.replicate m l)[i] = l := by simp
  rw [e]
  refine ⟨A, c, ?_, (h.below hb).more (by omega), by rw [hn]; exact hc, hz⟩
  rw [World.cell?_alloc_new, List.getElem?_toArray, Nat.zero_add, List.getElem?_replicate, if_pos hi', hn]
theorem lasts_6 (a1 : Option Addr) (l1 : List (List Nat)) (a2 : Option Addr) (l2 : List Int) (a3 : Option Addr) (l3 : List (List Int)) (w : World) (n1 : l1.length = 6) (n2 : l2.length = 6) (n3 : l3.length = 6) (z1 : a1 ≠ none) (z2 : a2 ≠ none) (z3 : a3 ≠ none)
    (k1 : IsRowsIn w w.heap.size a1 l1) (k2 : IsInts w w.heap.size a2 l2) (k3 : IsIntRows w w.heap.size a3 l3) :
    Calls Tryz.prog 19 #[.int .i64 2, .slice a1 6 6, .slice a2 6 6, .slice a3 6 6] w fun e w' => e = .returned (.bool true) ∧ Below w.heap.size w w' := by
  have := checkLasts.walk 2 a1 6 l1 a2 6 l2 a3 6 l3 w (by omega) k1 (by omega) (by unfold maxLen; omega) (fun h => absurd h z1) k2 (by omega) (by omega) (fun h => absurd h z2) k3 (by omega) (by unfold maxLen; omega) (fun h => absurd h z3)
  rwa [n1, n2, n3] at this
theorem apart_6 (a1 : Option Addr) (c1 : Nat) (l1 : List Nat) (a2 : Option Addr) (l2 : List (List Nat)) (a3 : Option Addr) (l3 : List Int) (w : World) (n1 : l1.length = 300) (c1c : 300 ≤ c1 ∧ c1 ≤ 140737488351232) (n2 : l2.length = 6) (n3 : l3.length = 6) (z1 : a1 = none → c1 = 0) (z2 : a2 ≠ none) (z3 : a3 ≠ none)
    (k1 : IsBytes w w.heap.size a1 l1) (k2 : IsRowsIn w w.heap.size a2 l2) (k3 : IsInts w w.heap.size a3 l3) :
    Calls Tryz.prog 20 #[.int .i64 7, .slice a1 300 c1, .slice a2 6 6, .slice a3 6 6] w fun e w' => e = .returned (.bool true) ∧ Below w.heap.size w w' := by
  have := checkApart.walk 7 a1 c1 l1 a2 6 l2 a3 6 l3 w (by omega) k1 (by omega) c1c.2 z1 k2 (by omega) (by unfold maxLen; omega) (fun h => absurd h z2) k3 (by omega) (by omega) (fun h => absurd h z3)
  rwa [n1, n2, n3] at this
theorem rows_more {w : World} {B B' : Nat} {A : Option Addr} {L : List (List Nat)} (h : IsRowsIn w B A L) (hB : B ≤ B') : IsRowsIn w B' A L := fun k hk => by
  obtain ⟨b, off, e, hlt, hc⟩ := h k hk
  refine ⟨b, off, e, by omega, fun i hi => ?_⟩
  obtain ⟨A', c', h1, h2, h3⟩ := hc i hi
  exact ⟨A', c', h1, h2.more hB, h3⟩
theorem ints_lit (w : World) (l : List Int) (hl : ∀ x ∈ l, InInt x) : IsInts (w.alloc (.cells (ints l).toArray 3)) (w.alloc (.cells (ints l).toArray 3)).heap.size (some ⟨w.heap.size, 0, none⟩) l :=
  (isInts_new w l hl 3 (0, 0)).more (by simp)
/-- CheckLasts at lists that are spelled out -/
theorem lasts_at (w : World) (G : Nat) (R : List (List Nat)) (g : Nat) (L3 : List Int) (h3 : L3.length = 3) (hl : IsInts w w.heap.size (some ⟨g, 0, none⟩) L3) (a b c d e f : Int) (h6 : ∀ x ∈ [a, b, c, d, e, f], InInt x) (hrw : IsRowsIn w w.heap.size (some ⟨G, 0, none⟩) R) (hR : R.length = 6) :
    Calls Tryz.prog 19 #[.int .i64 2, .slice (some ⟨G, 0, none⟩) 6 6, .slice (some ⟨w.heap.size, 0, none⟩) 6 6, .slice (some ⟨w.heap.size + 1, 0, none⟩) 6 6]
      ((w.alloc (.cells #[.int .i64 a, .int .i64 b, .int .i64 c, .int .i64 d, .int .i64 e, .int .i64 f] 3)).alloc (.cells #[.slice (some ⟨g, 0, none⟩) 3 3, .slice (some ⟨g, 0, none⟩) 3 3, .slice (some ⟨g, 0, none⟩) 3 3, .slice (some ⟨g, 0, none⟩) 3 3, .slice (some ⟨g, 0, none⟩) 3 3, .slice (some ⟨g, 0, none⟩) 3 3] 22))
      fun e w' => e = .returned (.bool true) ∧ Below w.heap.size w w' := by
  have hb1 : Below w.heap.size w (w.alloc (.cells (ints [a, b, c, d, e, f]).toArray 3)) := (Below.refl _ w).alloc (Nat.le_refl _) _
  have hi := ints_lit w [a, b, c, d, e, f] h6
  have hs1 : (w.alloc (.cells (ints [a, b, c, d, e, f]).toArray 3)).heap.size = w.heap.size + 1 := by simp
  obtain ⟨w1, hw1⟩ : ∃ w1, w1 = w.alloc (.cells (ints [a, b, c, d, e, f]).toArray 3) := ⟨_, rfl⟩
  rw [← hw1] at hb1 hi hs1
  have hll := lists_lit (w := w1) (some ⟨g, 0, none⟩) 3 3 L3 h3 ((hl.below hb1).more hb1.size) ⟨Nat.le_refl _, by unfold maxLen; omega⟩ (fun h => by cases h) 6
  have hb2 : Below w1.heap.size w1 (w1.alloc (.cells (List.replicate 6 (Value.slice (some ⟨g, 0, none⟩) 3 3)).toArray 22)) := (Below.refl _ w1).alloc (Nat.le_refl _) _
  have hs2 : (w1.alloc (.cells (List.replicate 6 (Value.slice (some ⟨g, 0, none⟩) 3 3)).toArray 22)).heap.size = w1.heap.size + 1 := by simp
  rw [← hs2] at hll
  have hb := hb1.trans (hb2.mono hb1.size)
  have H := lasts_6 (some ⟨G, 0, none⟩) R (some ⟨w.heap.size, 0, none⟩) [a, b, c, d, e, f] (some ⟨w1.heap.size, 0, none⟩) (List.replicate 6 L3) _ hR rfl (by simp) (fun h => by cases h) (fun h => by cases h) (fun h => by cases h) (rows_more (hrw.below hb) hb.size) ((hi.below hb2).more hb2.size) hll
  rw [hs1] at H
  rw [hw1] at H hb
  exact H.mono fun e w' ⟨he, hb'⟩ => ⟨he, hb.trans (hb'.mono hb.size)⟩
end KC
set_option maxRecDepth 100000 in
set_option maxHeartbeats 3200000 in
theorem cuts_any (w : World) : Calls Tryz.prog 7 #[] w fun e w' => e = .returned (.bool true) ∧ Below w.heap.size w w' := by
  have HR1 := hid (row_any 1 (by omega) w)
  go_enter Tryz.func7, Tryz.ntmps7
  go_wp2_with fail
  refine HR1.out.mono ?_
  rintro e w1 ⟨A1, c1, L1, rfl, hL1, ho1, hb1⟩
  have H1 := hid (And.intro hL1 (And.intro ho1 hb1))
  have HR2 := hid (row_any 100 (by omega) w1)
  clear hL1 ho1 hb1 HR1
  go_wp2_with fail
  refine HR2.out.mono ?_
  rintro e w2 ⟨A2, c2, L2, rfl, hL2, ho2, hb2⟩
  have H2 := hid (And.intro hL2 (And.intro ho2 hb2))
  have HR3 := hid (row_any 30 (by omega) w2)
  clear hL2 ho2 hb2 HR2
  go_wp2_with fail
  refine HR3.out.mono ?_
  rintro e w3 ⟨A3, c3, L3, rfl, hL3, ho3, hb3⟩
  have H3 := hid (And.intro hL3 (And.intro ho3 hb3))
  have HR4 := hid (row_any 120 (by omega) w3)
  clear hL3 ho3 hb3 HR3
  go_wp2_with fail
  refine HR4.out.mono ?_
  rintro e w4 ⟨A4, c4, L4, rfl, hL4, ho4, hb4⟩
  have H4 := hid (And.intro hL4 (And.intro ho4 hb4))
  have HR5 := hid (row_any 41 (by omega) w4)
  clear hL4 ho4 hb4 HR4
  go_wp2_with fail
  refine HR5.out.mono ?_
  rintro e w5 ⟨A5, c5, L5, rfl, hL5, ho5, hb5⟩
  have HB : Hid (Below w.heap.size w w5) := hid ((((H1.out.2.2.trans (H2.out.2.2.mono H1.out.2.2.size)).trans (H3.out.2.2.mono (Nat.le_trans H1.out.2.2.size H2.out.2.2.size))).trans (H4.out.2.2.mono (Nat.le_trans (Nat.le_trans H1.out.2.2.size H2.out.2.2.size) H3.out.2.2.size))).trans (hb5.mono (Nat.le_trans (Nat.le_trans (Nat.le_trans H1.out.2.2.size H2.out.2.2.size) H3.out.2.2.size) H4.out.2.2.size)))
  have hok : ∀ d ∈ [KC.RowD.mk A1 1 c1 L1, ⟨A2, 100, c2, L2⟩, ⟨A3, 30, c3, L3⟩, ⟨none, 0, 0, []⟩, ⟨A4, 120, c4, L4⟩, ⟨A5, 41, c5, L5⟩], d.Ok w5 := by
    have o1 := (((H1.out.2.1.below H2.out.2.2).below H3.out.2.2).below H4.out.2.2).below hb5
    have o2 := ((H2.out.2.1.below H3.out.2.2).below H4.out.2.2).below hb5
    have o3 := (H3.out.2.1.below H4.out.2.2).below hb5
    have o4 := H4.out.2.1.below hb5
    have e1 := H1.out.1
    have e2 := H2.out.1
    have e3 := H3.out.1
    have e4 := H4.out.1
    intro d hd
    simp only [List.mem_cons, List.not_mem_nil, or_false] at hd
    rcases hd with rfl | rfl | rfl | rfl | rfl | rfl
    · exact ⟨e1, o1.reads, ⟨by rw [← e1]; exact o1.cap, o1.capLe⟩, o1.none_⟩
    · exact ⟨e2, o2.reads, ⟨by rw [← e2]; exact o2.cap, o2.capLe⟩, o2.none_⟩
    · exact ⟨e3, o3.reads, ⟨by rw [← e3]; exact o3.cap, o3.capLe⟩, o3.none_⟩
    · exact ⟨rfl, IsBytes.nil, ⟨Nat.le_refl _, Nat.zero_le _⟩, fun _ => rfl⟩
    · exact ⟨e4, o4.reads, ⟨by rw [← e4]; exact o4.cap, o4.capLe⟩, o4.none_⟩
    · exact ⟨hL5, ho5.reads, ⟨by rw [← hL5]; exact ho5.cap, ho5.capLe⟩, ho5.none_⟩
  have hrl := KC.rows_lit _ hok
  have hba : Below w5.heap.size w5 (w5.alloc (.cells ([KC.RowD.mk A1 1 c1 L1, ⟨A2, 100, c2, L2⟩, ⟨A3, 30, c3, L3⟩, ⟨none, 0, 0, []⟩, ⟨A4, 120, c4, L4⟩, ⟨A5, 41, c5, L5⟩].map fun d => Value.slice d.A d.n d.c).toArray 23)) := (Below.refl _ _).alloc (Nat.le_refl _) _
  have hsz : (w5.alloc (.cells ([KC.RowD.mk A1 1 c1 L1, ⟨A2, 100, c2, L2⟩, ⟨A3, 30, c3, L3⟩, ⟨none, 0, 0, []⟩, ⟨A4, 120, c4, L4⟩, ⟨A5, 41, c5, L5⟩].map fun d => Value.slice d.A d.n d.c).toArray 23)).heap.size = w5.heap.size + 1 := by simp
  obtain ⟨wn, hwn⟩ : ∃ wn : World, wn = w5.alloc (.cells ([KC.RowD.mk A1 1 c1 L1, ⟨A2, 100, c2, L2⟩, ⟨A3, 30, c3, L3⟩, ⟨none, 0, 0, []⟩, ⟨A4, 120, c4, L4⟩, ⟨A5, 41, c5, L5⟩].map fun d => Value.slice d.A d.n d.c).toArray 23) := ⟨_, rfl⟩
  rw [← hwn] at hrl hba hsz
  obtain ⟨G, hG⟩ : ∃ G, G = w5.heap.size := ⟨_, rfl⟩
  obtain ⟨R, hR⟩ : ∃ R, R = ([KC.RowD.mk A1 1 c1 L1, ⟨A2, 100, c2, L2⟩, ⟨A3, 30, c3, L3⟩, ⟨none, 0, 0, []⟩, ⟨A4, 120, c4, L4⟩, ⟨A5, 41, c5, L5⟩] : List KC.RowD).map KC.RowD.l := ⟨_, rfl⟩
  have hRl : R.length = 6 := by rw [hR]; rfl
  rw [← hsz, ← hG, ← hR] at hrl
  have HRW := hid (And.intro hrl (And.intro hRl (HB.out.trans (hba.mono HB.out.size))))
  have HWN : Hid (wn = w5.alloc (.cells #[.slice A1 1 c1, .slice A2 100 c2, .slice A3 30 c3, .slice none 0 0, .slice A4 120 c4, .slice A5 41 c5] 23)) := hid hwn
  have HG := hid hG
  clear hok hrl hba hsz hwn hR hRl hL5 ho5 hb5 H1 H2 H3 H4 HR5 HB hG
  go_wp2_with fail
  rw [← HWN.out, ← HG.out]
  clear HWN HG
  go_loopw [2] (fun iv wr => ∃ i : Nat, i ≤ 7 ∧ iv = .int .i64 i ∧ Hid (Below wn.heap.size wn wr)) (fun i _ => 7 - (RowKit.intOf i).toNat)
  case atStart => exact ⟨0, by omega, rfl, hid (Below.refl _ _)⟩
  case round =>
    obtain ⟨i, hi7, rfl, HQ⟩ := hrel
    by_cases hlt : i < 7
    · have hi0 : (i : Int) < 7 := by omega
      go_wp2_with fail
      go_loopw [3] (fun kv wq => ∃ k : Nat, k ≤ 27 ∧ kv = .int .i64 k ∧ Hid (Below wn.heap.size wn wq)) (fun k _ => 27 - (RowKit.intOf k).toNat)
      case atStart => exact ⟨0, by omega, rfl, HQ⟩
      case round =>
        clear HQ
        obtain ⟨k, hk, rfl, HQ⟩ := hrel
        by_cases hkb : k < 27
        · have hk0 : (k : Int) < 27 := by omega
          have h3i : ∀ x ∈ [(k : Int) % 3, (k : Int) / 3 % 3, (k : Int) / 9], InInt x := by
            intro x hx
            simp only [List.mem_cons, List.not_mem_nil, or_false] at hx
            rcases hx with rfl | rfl | rfl <;> (unfold InInt; omega)
          have h3 := KC.ints_lit wr _ h3i
          have hb3 : Below wr.heap.size wr (wr.alloc (.cells (ints [(k : Int) % 3, (k : Int) / 3 % 3, (k : Int) / 9]).toArray 3)) := (Below.refl _ wr).alloc (Nat.le_refl _) _
          have hB3 := HQ.out.trans (hb3.mono HQ.out.size)
          have hA := KC.lasts_at _ G R wr.heap.size [(k : Int) % 3, (k : Int) / 3 % 3, (k : Int) / 9] rfl h3 5 (i : Int) 5 (i : Int) (i : Int) 2 (by
            intro x hx
            simp only [List.mem_cons, List.not_mem_nil, or_false] at hx
            rcases hx with rfl | rfl | rfl | rfl | rfl | rfl <;> (unfold InInt; omega)) (KC.rows_more (HRW.out.1.below hB3) hB3.size) HRW.out.2.1
          simp only [World.size_alloc] at hA h3
          have HA := hid hA
          have H3 := hid (And.intro h3 hB3)
          clear h3i h3 hb3 hB3 hA
          go_wp2_with fail
          refine HA.out.mono ?_
          rintro e w9 ⟨rfl, hb9⟩
          have hz9 := hb9.size
          rw [World.size_alloc] at hz9
          have hB9 := H3.out.2.trans (hb9.mono (Nat.le_succ_of_le HQ.out.size))
          have hA2 := KC.lasts_at w9 G R wr.heap.size [(k : Int) % 3, (k : Int) / 3 % 3, (k : Int) / 9] rfl ((H3.out.1.below hb9).more hz9) 6 6 (i : Int) (i : Int) ((k : Int) % 7) (i : Int) (by
            intro x hx
            simp only [List.mem_cons, List.not_mem_nil, or_false] at hx
            rcases hx with rfl | rfl | rfl | rfl | rfl | rfl <;> (unfold InInt; omega)) (KC.rows_more (HRW.out.1.below hB9) hB9.size) HRW.out.2.1
          have HA2 := hid hA2
          have HB9 := hid hB9
          clear hb9 hz9 hB9 hA2 HA H3
          go_wp2_with fail
          refine HA2.out.mono ?_
          rintro e w10 ⟨rfl, hb10⟩
          have HB10 := hid (HB9.out.trans (hb10.mono HB9.out.size))
          clear hb10 HA2 HB9
          go_wp2_with fail
          go_roundw
          case rel => exact ⟨k + 1, by omega, by go_num, HB10⟩
          case measure => simp [RowKit.intOf]; omega
        · obtain rfl : k = 27 := by omega
          go_wp2_with fail
          go_roundw
          case rel => exact ⟨i + 1, by omega, by go_num, HQ⟩
          case measure => simp [RowKit.intOf]; omega
    · obtain rfl : i = 7 := by omega
      have HRL := hid (row_cap 300 (by omega) (by omega) wr)
      go_wp2_with fail
      refine HRL.out.mono ?_
      rintro e w6 ⟨A6, L6, rfl, hL6, ho6, hb6⟩
      have hil : ∀ x ∈ ([0, 49, 50, 193, 3, 4] : List Int), InInt x := by
        intro x hx
        simp only [List.mem_cons, List.not_mem_nil, or_false] at hx
        rcases hx with rfl | rfl | rfl | rfl | rfl | rfl <;> (unfold InInt; omega)
      have h7 := isInts_new w6 [0, 49, 50, 193, 3, 4] hil 3 (0, 0)
      have hb7 : Below w6.heap.size w6 (w6.alloc (.cells (ints [0, 49, 50, 193, 3, 4]).toArray 3)) := (Below.refl _ _).alloc (Nat.le_refl _) _
      have hs7 : (w6.alloc (.cells (ints [0, 49, 50, 193, 3, 4]).toArray 3)).heap.size = w6.heap.size + 1 := by simp
      obtain ⟨w7, hw7⟩ : ∃ w7 : World, w7 = w6.alloc (.cells (ints [0, 49, 50, 193, 3, 4]).toArray 3) := ⟨_, rfl⟩
      rw [← hw7] at h7 hb7 hs7
      rw [← hs7] at h7
      unfold ints at hw7
      simp only [List.map_cons, List.map_nil] at hw7
      obtain ⟨G7, hG7⟩ : ∃ G7, G7 = w6.heap.size := ⟨_, rfl⟩
      rw [← hG7] at h7
      have hB7 : Below wn.heap.size wn w7 := HQ.out.trans ((hb6.trans (hb7.mono hb6.size)).mono HQ.out.size)
      have HAP := hid (KC.apart_6 A6 300 L6 (some ⟨G, 0, none⟩) R (some ⟨G7, 0, none⟩) [0, 49, 50, 193, 3, 4] w7 hL6 (by omega) HRW.out.2.1 rfl ho6.none_ (fun h => by cases h) (fun h => by cases h) (((ho6.below hb7).reads)) (KC.rows_more (HRW.out.1.below hB7) hB7.size) h7)
      have HW7 := hid hw7
      have HG7 := hid hG7
      have HBN := hid (HRW.out.2.2.trans (hB7.mono HRW.out.2.2.size))
      clear hw7 hG7 h7 hb7 hs7 hL6 ho6 hb6 hil hB7 HRL HQ HRW
      go_wp2_with fail
      rw [← HW7.out, ← HG7.out]
      refine HAP.out.mono ?_
      rintro e w8 ⟨rfl, hb8⟩
      have HB8 := hid (HBN.out.trans (hb8.mono HBN.out.size))
      clear hb8 HAP HBN
      go_wp2
      go_ret
      exact ⟨rfl, HB8.out⟩
end Go.Proofs.YtdgijnolpjaheaaGreat
