/- Texts of the proof, one behind the other: Looks. -/
import Derived.Test.YtdgijnolpjaheaaGreatPartAU
import Derived.Test.YtdgijnolpjaheaaGreatPartAX
import Derived.Test.YtdgijnolpjaheaaGreatPartAW
import Derived.Deep.RegionHeld3
import Derived.Deep.RegionWith
import Derived.StillTailTactics
namespace Go.Proofs.YtdgijnolpjaheaaGreat
open Go.RowKit

theorem IsBytes.on {w w' : World} {A : Option Addr} {l : List Nat} (h : IsBytes w w.heap.size A l) (hb : Below w.heap.size w w') : IsBytes w' w'.heap.size A l := (h.below hb).more hb.size
/-- numbers that were told, while another row is written over -/
theorem IsInts.grownOwn {w w' : World} {base c : Nat} {A : Option Addr} {l : List Int} {row : Option Nat} (h : OwnsI 3 w base A c l) (hg : w.grownBy w' row) (hr : ∀ k, row = some k → k < base) : IsInts w' w'.heap.size A l := (h.grown hg hr).reads

set_option maxRecDepth 100000 in
set_option maxHeartbeats 3200000 in
theorem looks_any (Z : Nat → Prop) (d : Dk) (g : Nat) (s : Sx.St) (x : Sx.Xs) (i : Int) (w : World) (h : DX w Z d g s x) :
    Calls Tryz.prog 14 #[.pointer (some ⟨d.g, 0, none⟩), .pointer (some ⟨g, 0, none⟩), .int .i64 i] w fun e w' => e = .returned (.bool true) ∧ DX w' Z d g s x ∧ Below w.heap.size w w' := by
  obtain ⟨e1, e2⟩ := Sx.rel_read h.rel i
  have e3 := Sx.rel_dirty h.rel
  have hlen := h.da.rdLen i
  rw [e1] at hlen
  have hdl : (Sx.dirty s).length ≤ 100000 := by
    have h1 : (Sx.dirty s).length ≤ s.n := Sx.dirtyTo_length s.cache s.n
    have := h.da.bound
    omega
  rw [e3] at hdl
  obtain ⟨⟨l, v⟩, hlv⟩ : ∃ lv : List Nat × Int, lv = Sx.rdX x i := ⟨_, rfl⟩
  have HX := hid h
  have hR := read_any _ d s i w h.da
  rw [e1, e2, ← hlv] at hR
  rw [← hlv] at hlen
  have HR := hid hR
  have HLV := hid hlv
  have HE := hid (And.intro e1 (And.intro e2 e3))
  obtain ⟨D, hD⟩ : ∃ D, D = Sx.dirtyX x := ⟨_, rfl⟩
  rw [← hD] at hdl
  have HD := hid hD
  have hlen : l.length ≤ 64 := hlen
  clear h hR hlv e1 e2 e3 hD
  go_enter Tryz.func14, Tryz.ntmps14
  go_wp2_with fail
  refine HR.out.mono ?_
  rintro e w1 ⟨A1, c1, rfl, ho1, hb1⟩
  have H1 := hid (And.intro ho1 hb1)
  have hR := read_any _ d s i w1 (HX.out.below hb1).da
  rw [HE.out.1, HE.out.2.1, ← HLV.out] at hR
  have HR1 := hid hR
  clear ho1 hb1 hR HR
  go_wp2_with fail
  refine HR1.out.mono ?_
  rintro e w2 ⟨A2, c2, rfl, ho2, hb2⟩
  have hw2 : Below w.heap.size w w2 := H1.out.2.trans (hb2.mono H1.out.2.size)
  have H2 := hid (And.intro (H1.out.1.below hb2) (And.intro ho2 hw2))
  have HSZ : Hid (w.heap.size ≤ w1.heap.size ∧ w1.heap.size ≤ w2.heap.size) := hid ⟨H1.out.2.size, hb2.size⟩
  have hlt1 : ∀ k, blk A1 = some k → k < w1.heap.size := fun k hk => (H1.out.1.blkLt k hk).2
  have HL1 := hid hlt1
  have hR := refRead_any _ g x i w2 (HX.out.below hw2).xa
  rw [← HLV.out] at hR
  have HR2 := hid hR
  clear ho2 hb2 hR HR1 hw2 H1 hlt1
  go_wp2_with fail
  refine HR2.out.mono ?_
  rintro e w3 ⟨A3, c3, rfl, ho3, hb3⟩
  have hw3 : Below w.heap.size w w3 := H2.out.2.2.trans (hb3.mono H2.out.2.2.size)
  have H3 := hid (And.intro (H2.out.1.below hb3) (And.intro (H2.out.2.1.below hb3) (And.intro ho3 hw3)))
  clear ho3 hb3 hw3 H2 HR2
  have HS1 := hid (same_T w3.heap.size w3.heap.size A1 A3 c1 c3 l l.length rfl (by unfold maxLen; omega) w3 H3.out.1.reads H3.out.2.2.1.reads)
  go_wp2_with fail
  refine HS1.out.mono ?_
  rintro e w4 ⟨rfl, n4, hw4⟩
  have hb4 : Below w3.heap.size w3 w4 := by rw [hw4]; exact below_drewN (Below.refl _ _) n4
  have H4 := hid (And.intro (H3.out.1.below hb4) (And.intro (H3.out.2.1.below hb4) (And.intro (H3.out.2.2.1.below hb4) (H3.out.2.2.2.trans (hb4.mono H3.out.2.2.2.size)))))
  clear hw4 hb4 H3 HS1
  have HS2 := hid (same_T w4.heap.size w4.heap.size A2 A3 c2 c3 l l.length rfl (by unfold maxLen; omega) w4 H4.out.2.1.reads H4.out.2.2.1.reads)
  go_wp2_with fail
  refine HS2.out.mono ?_
  rintro e w5 ⟨rfl, n5, hw5⟩
  have hb5 : Below w4.heap.size w4 w5 := by rw [hw5]; exact below_drewN (Below.refl _ _) n5
  have H5 := hid (And.intro (H4.out.1.below hb5) (And.intro (H4.out.2.1.below hb5) (And.intro (H4.out.2.2.1.below hb5) (H4.out.2.2.2.trans (hb5.mono H4.out.2.2.2.size)))))
  clear hw5 hb5 H4 HS2
  have HP := hid (spoil_N w.heap.size A1 c1 l l.length rfl (by unfold maxLen; omega) w5 H5.out.1)
  go_wp2_with fail
  refine HP.out.mono ?_
  rintro e w6 ⟨rfl, hg6⟩
  have h6b : Below w.heap.size w w6 := H5.out.2.2.2.grown hg6 H5.out.2.2.2.size (fun k hk => (H5.out.1.blkLt k hk).1)
  have H6 := hid (And.intro (H5.out.2.1.grown hg6 (fun k hk => HL1.out k hk)) (And.intro (H5.out.2.2.1.grown hg6 (fun k hk => Nat.lt_of_lt_of_le (HL1.out k hk) HSZ.out.2)) h6b))
  clear hg6 h6b H5 HP HL1
  have hDy := dirty_any _ d s w6 (HX.out.below H6.out.2.2).da
  rw [HE.out.2.2, ← HD.out] at hDy
  have HDy := hid hDy
  clear hDy
  go_wp2_with fail
  refine HDy.out.mono ?_
  rintro e w7 ⟨A7, c7, rfl, ho7, hb7⟩
  have hlt7 : ∀ k, blk A7 = some k → k < w7.heap.size := fun k hk => (ho7.blkLt k hk).2
  have hge7 : ∀ k, blk A7 = some k → w.heap.size ≤ k := fun k hk => Nat.le_trans H6.out.2.2.size (ho7.blkLt k hk).1
  have HL7 := hid (And.intro hlt7 hge7)
  have H7 := hid (And.intro (H6.out.1.below hb7) (And.intro (H6.out.2.1.below hb7) (And.intro ho7 (H6.out.2.2.trans (hb7.mono H6.out.2.2.size)))))
  clear hlt7 hge7 ho7 hb7 H6 HDy
  have hDx := refDirty_any _ g x w7 (HX.out.below H7.out.2.2.2).xa
  rw [← HD.out] at hDx
  have HDx := hid hDx
  clear hDx
  go_wp2_with fail
  refine HDx.out.mono ?_
  rintro e w8 ⟨A8, c8, rfl, ho8, hb8⟩
  have H8 := hid (And.intro (H7.out.1.below hb8) (And.intro (H7.out.2.1.below hb8) (And.intro (H7.out.2.2.1.below hb8) (And.intro ho8 (H7.out.2.2.2.trans (hb8.mono H7.out.2.2.2.size))))))
  clear ho8 hb8 H7 HDx
  have HS3 := hid (same_T w8.heap.size w8.heap.size A2 A3 c2 c3 l l.length rfl (by unfold maxLen; omega) w8 H8.out.1.reads H8.out.2.1.reads)
  go_wp2_with fail
  refine HS3.out.mono ?_
  rintro e w9 ⟨rfl, n9, hw9⟩
  have hb9 : Below w8.heap.size w8 w9 := by rw [hw9]; exact below_drewN (Below.refl _ _) n9
  have H9 := hid (And.intro (H8.out.2.2.1.below hb9) (And.intro (H8.out.2.2.2.1.below hb9) (H8.out.2.2.2.2.trans (hb9.mono H8.out.2.2.2.2.size))))
  clear hw9 hb9 H8 HS3
  have HS4 := hid (sameI_T (c := c7) (c' := c8) (n := D.length) (m := D.length) (l := D.map fun (i : Nat) => (i : Int)) (l' := D.map fun (i : Nat) => (i : Int)) (by simp) (by simp) hdl rfl H9.out.1.reads H9.out.2.1.reads)
  go_wp2_with fail
  refine HS4.out.mono ?_
  rintro e w10 ⟨rfl, n10, hw10⟩
  have hb10 : Below w9.heap.size w9 w10 := by rw [hw10]; exact below_drewN (Below.refl _ _) n10
  have H10 := hid (And.intro (H9.out.1.below hb10) (And.intro (H9.out.2.1.below hb10) (H9.out.2.2.trans (hb10.mono H9.out.2.2.size))))
  clear hw10 hb10 H9 HS4
  have HP2 := hid (spoilI_N _ A7 c7 (D.map fun (i : Nat) => (i : Int)) D.length (by simp) (by unfold maxLen; omega) w10 H10.out.1)
  go_wp2_with fail
  refine HP2.out.mono ?_
  rintro e w11 ⟨rfl, hg11⟩
  have h11b : Below w.heap.size w w11 := H10.out.2.2.grown hg11 H10.out.2.2.size (fun k hk => HL7.out.2 k hk)
  have h11o := H10.out.2.1.grown hg11 (fun k hk => HL7.out.1 k hk)
  have hDX := HX.out.below h11b
  have H11 := hid (And.intro h11o h11b)
  have HDX := hid hDX
  obtain ⟨B1, j1, B2, j2, b0, b1, b2, b3, b4, _, _⟩ := hDX.xa.cells
  have hglt := hDX.xa.lt
  have hDy := dirty_any _ d s w11.drew hDX.da.drew
  rw [HE.out.2.2, ← HD.out] at hDy
  have HDy := hid hDy
  clear hDy hg11 h11b h11o H10 HP2 HL7 HSZ hDX
  have HLEN : Hid (∀ W, DX W Z d g s x → Calls Tryz.prog 41 #[.pointer (some ⟨d.g, 0, none⟩)] W fun e w' => e = .returned (.int .i64 (x.n : Nat)) ∧ w' = W) := hid (fun W hW => by
    have := len_any _ d s W hW.da
    rw [hW.rel.n] at this
    exact this)
  have HDOWN : Hid (∀ W, DX W Z d g s x → Calls Tryz.prog 42 #[.pointer (some ⟨d.g, 0, none⟩)] W fun e w' => e = .returned (.bool x.off) ∧ w' = W) := hid (fun W hW => by
    have := down_any _ d s W hW.da
    rw [hW.rel.down] at this
    exact this)
  clear b1 b3 b4
  go_wp2_with fail
  go_region_with (first
    | (go_at_call 37; refine HDy.out.mono ?_; rintro e w12 ⟨A12, c12, rfl, ho12, hb12⟩; have q0 := (hb12.cell (p := ⟨g, 0, none⟩) hglt).trans b0; have q2 := (hb12.cell (p := ⟨g, 2, none⟩) hglt).trans b2; have hDX12 := HDX.out.drew.below hb12; have HS := hid (sameI_T (c := c12) (c' := c8) (n := D.length) (m := D.length) (l := D.map fun (i : Nat) => (i : Int)) (l' := D.map fun (i : Nat) => (i : Int)) (by simp) (by simp) hdl rfl ho12.reads (H11.out.1.drew.below hb12).reads); have H12 := hid (And.intro hDX12 (H11.out.2.drew.trans (hb12.mono H11.out.2.size))); clear ho12 hb12 hDX12)
    | (go_at_call 39; refine HS.out.mono ?_; rintro e w13 ⟨rfl, n13, rfl⟩)
    | (go_at_call 41; refine (HLEN.out _ (by first | exact H12.out.1 | exact H12.out.1.drewN _)).mono ?_; rintro e w14 ⟨rfl, rfl⟩)
    | (go_at_call 42; refine (HDOWN.out _ (by first | exact H12.out.1 | exact H12.out.1.drewN _)).mono ?_; rintro e w15 ⟨rfl, rfl⟩))
  all_goals (go_wp2; go_ret; exact ⟨rfl, H12.out.1.drewN n13, below_drewN H12.out.2 n13⟩)
end Go.Proofs.YtdgijnolpjaheaaGreat
