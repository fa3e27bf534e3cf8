/- Texts of the proof, one behind the other: CfW, RegInv, RegCalls, RegGrow, RegArms, RegStore, CfX, CfY, QuA, QuE, CfZ, RegAll, CfSf, CfSg, CfCk, CfCm, ConfIn. -/
import Derived.Test.YtfkjahpcpmcefaaConfComesPartAB
import Derived.Deep.RegionHeld3
import Derived.Great.BuildSlice
import Derived.Test.YtfkjahpcpmcefaaConfComesPartAA
import Derived.StillTail
import Derived.Below
import Derived.WalkKit
import Derived.Deep.CutRange
import Derived.Shelf.Abstract
import Derived.Maps.OwnSet
import Derived.Maps.OwnOps
import Derived.Maps.AppendAt
import Derived.BigQuiet
import Derived.Deep.Slices
import Derived.Deep.Fields
import Derived.ChangeSame
import Derived.WalkLawsBesides
import Derived.ProofKit
import Derived.OpenShut
namespace Go.Proofs.Ytfkjahpcpmcefaa.Co
open Go Go.RowKit
open Qu (Cf)
set_option maxRecDepth 100000
set_option linter.unusedVariables false
attribute [local go_sem ↓] Im.loadAt_conf3 Im.storeAt_conf3 loadAt_mem storeAt_mem
theorem ownsI_lit (w : World) (l : List Int) (hl : ∀ x ∈ l, InInt x) (hm : l.length ≤ maxLen) : OwnsI 3 (w.alloc (.cells (ints l).toArray 3)) w.heap.size (some ⟨w.heap.size, 0, none⟩) l.length l := by
  refine ⟨hl, by simp [ints], .inr ⟨w.heap.size, l.length, _, rfl, Nat.le_refl _, heap_alloc_new w _, Nat.le_refl _, hm, by simp [ints], by rw [List.toList_toArray, Nat.mul_one, List.take_of_length_le (by simp [ints])]⟩⟩
theorem small_of (l : List Int) (h : (l.all fun x => decide (-9223372036854775808 ≤ x ∧ x ≤ 9223372036854775807)) = true) : ∀ x ∈ l, InInt x := fun x hx => by
  have := List.all_eq_true.1 h x hx
  have := of_decide_eq_true this
  exact ⟨by omega, by omega⟩
theorem lit_in (w : World) (l : List Int) (h : (l.all fun x => decide (-9223372036854775808 ≤ x ∧ x ≤ 9223372036854775807)) = true) (hm : l.length ≤ 1000) : IsInts (w.alloc (.cells (ints l).toArray 3)) (w.heap.size + 1) (some ⟨w.heap.size, 0, none⟩) l := by
  have := (ownsI_lit w l (small_of l h) (by unfold maxLen; omega)).reads
  rwa [World.size_alloc] at this
def c3 : Cf := ⟨[1, 2, 3], [], []⟩
def c34 : Cf := ⟨[1, 2, 3], [], [4]⟩
def c3t4 : Cf := ⟨[1, 2, 3], [1, 2, 3, 4], []⟩
def c4 : Cf := ⟨[1, 2, 3, 4], [], []⟩
theorem k_add : add c3 4 = (c34, 0) := by kernel_rfl
theorem k_no : next c34 [1, 2] = (c34, false) := by kernel_rfl
theorem k_b : next c34 [4] = (c3t4, true) := by kernel_rfl
theorem k_c : next c3t4 [] = (c4, true) := by kernel_rfl
theorem short_c3 : Short c3 := ⟨by decide, by decide, by decide⟩
theorem short_c34 : Short c34 := ⟨by decide, by decide, by decide⟩
theorem short_c3t4 : Short c3t4 := ⟨by decide, by decide, by decide⟩
theorem short_c4 : Short c4 := ⟨by decide, by decide, by decide⟩
theorem three_any (w : World) : Calls Try.prog 24 #[] w (Got w c3) := by
  obtain ⟨w1, hw1⟩ : ∃ w1, w1 = w.alloc (.cells #[.slice none 0 0, .slice none 0 0, .slice none 0 0] 24) := ⟨_, rfl⟩
  obtain ⟨w2, hw2⟩ : ∃ w2, w2 = w1.alloc (.cells #[.int .i64 1, .int .i64 2, .int .i64 3] 3) := ⟨_, rfl⟩
  have hb1 : Below w.heap.size w w1 := by rw [hw1]; exact below_new w _
  have hs1 : w1.heap.size = w.heap.size + 1 := by rw [hw1]; simp
  have hx1 : Bx w1 w.heap.size 24 mNil := by rw [hw1]; exact heap_alloc_new w _
  have hb2 : Below w1.heap.size w1 w2 := by rw [hw2]; exact below_new w1 _
  have ho : OwnsI 3 w2 w1.heap.size (some ⟨w1.heap.size, 0, none⟩) 3 [1, 2, 3] := by rw [hw2]; exact ownsI_lit w1 [1, 2, 3] (small_of _ (by decide)) (by decide)
  have hx2 := hx1.below hb2 hx1.lt
  have ho' : OwnsI 3 w2 w1.heap.size (some ⟨w.heap.size + 1, 0, none⟩) 3 [1, 2, 3] := by rw [hs1] at ho ⊢; exact ho
  have hst := hx2.st (m' := ⟨some ⟨w.heap.size + 1, 0, none⟩, 3, 3, none, 0, 0, none, 0, 0⟩)
  have H := hid (And.intro (hx2.set ⟨some ⟨w.heap.size + 1, 0, none⟩, 3, 3, none, 0, 0, none, 0, 0⟩) (got_box (w2 := w1) (b := w.heap.size) (own1 (n := 3) ho' rfl) (hb1.trans (hb2.mono hb1.size)) ⟨Nat.le_refl _, by omega⟩))
  have HW := hid hw2
  rw [hw2, hw1] at hst
  clear hb1 hs1 hx1 hb2 ho ho' hx2
  go_enter Try.func24, Try.ntmps24
  go_wp2_with fail
  rw [← hw1, ← HW.out]
  refine bodyPost_ret (results_cell_row rfl _ _ w.heap.size _ _ _ _ rfl H.out.1 Try.underlying24 rfl (by rw [Im.info_conf33]; rfl)) rfl ?_
  exact ⟨_, rfl, H.out.2.1, H.out.2.2⟩
theorem box_new {w v : World} {m : M3} (h : v = w.alloc (.cells #[.slice m.a0 m.n0 m.k0, .slice m.a1 m.n1 m.k1, .slice m.a2 m.n2 m.k2] 24)) : Bx v w.heap.size 24 m ∧ Below w.heap.size w v ∧ v.heap.size = w.heap.size + 1 ∧
    (Im.stX 24 (.pointer (some ⟨w.heap.size, 0, none⟩)) (.agg #[.slice m.a0 m.n0 m.k0, .slice m.a1 m.n1 m.k1, .slice m.a2 m.n2 m.k2])).run Try.prog (w.alloc (.cells #[.slice none 0 0, .slice none 0 0, .slice none 0 0] 24)) = .ok () v := by
  subst h
  exact ⟨Bx.new _ _ _, below_new _ _, by simp, Im.stNew w _ 3 Im.info_conf33 _ _ rfl rfl (by simp [Value.oneCell'])⟩
set_option maxHeartbeats 6400000 in
theorem works_any (w : World) : Calls Try.prog 7 #[] w fun e w' => e = .returned (.bool true) ∧ Below w.heap.size w w' := by
  have H0 := hid (three_any w)
  go_enter Try.func7, Try.ntmps7
  go_wp2_with fail
  refine H0.out.mono ?_
  rintro e w1 ⟨m1, rfl, ho1, hb1⟩
  have HA := add_any w1.heap.size c3 short_c3 m1 4 (by exact ⟨by decide, by decide⟩) w1 ho1.inC (Nat.le_refl _)
  rw [k_add] at HA
  have HA := hid HA
  have B1 := hid hb1
  clear ho1 hb1 H0
  go_wp2_with fail
  refine HA.out.mono ?_
  rintro e w2 ⟨ma, rfl, hoa, hb2⟩
  obtain ⟨v2, hv2⟩ : ∃ v2, v2 = w2.alloc (.cells #[.slice ma.a0 ma.n0 ma.k0, .slice ma.a1 ma.n1 ma.k1, .slice ma.a2 ma.n2 ma.k2] 24) := ⟨_, rfl⟩
  obtain ⟨hx2, hbv2, hs2, hst2⟩ := box_new hv2
  obtain ⟨u2, hu2⟩ : ∃ u2, u2 = v2.alloc (.cells #[.int .i64 1, .int .i64 2] 3) := ⟨_, rfl⟩
  have hbu2 : Below v2.heap.size v2 u2 := by rw [hu2]; exact below_new _ _
  have hil : IsInts u2 (v2.heap.size + 1) (some ⟨v2.heap.size, 0, none⟩) [1, 2] := by rw [hu2]; exact lit_in v2 [1, 2] (by decide) (by decide)
  have hsu : u2.heap.size = v2.heap.size + 1 := by rw [hu2]; simp
  have hia := ((hoa.below hbv2).below hbu2).inC
  have HN := next_any w2.heap.size (v2.heap.size + 1) c34 short_c34 ma (some ⟨v2.heap.size, 0, none⟩) 2 2 [1, 2] rfl (by decide) u2 hia hil (by omega) (by omega)
  rw [k_no] at HN
  have HN := hid HN
  have hk : ∀ W, Below v2.heap.size v2 W → Bx W w2.heap.size 24 ma ∧ InC W w2.heap.size c34 ma ∧ Below w.heap.size w W ∧ w2.heap.size + 1 ≤ W.heap.size := fun W hb =>
    ⟨hx2.below hb hx2.lt, ((hoa.below hbv2).below hb).inC, (B1.out.trans ((hb2.mono B1.out.size).trans (hbv2.mono (by have := B1.out.size; have := hb2.size; omega)))).trans (hb.mono (by have := B1.out.size; have := hb2.size; omega)), by have := hb.size; omega⟩
  have HK := hid hk
  have BU := hid (And.intro hbu2 hsu)
  have hld2 := hx2.ld
  have HU2 := hid hu2
  clear hv2 hoa hb2 hx2 hbv2 hs2 hbu2 hil hsu hia HA hu2 hk
  go_wp2_with fail
  rw [← HU2.out]
  refine HN.out.mono ?_
  rintro e w3 ⟨mx, rfl, hox, hb3⟩
  have hb23 := BU.out.1.trans (hb3.mono BU.out.1.size)
  obtain ⟨v3, hv3⟩ : ∃ v3, v3 = w3.alloc (.cells #[.slice mx.a0 mx.n0 mx.k0, .slice mx.a1 mx.n1 mx.k1, .slice mx.a2 mx.n2 mx.k2] 24) := ⟨_, rfl⟩
  obtain ⟨hx3, hbv3, hs3, hst3⟩ := box_new hv3
  obtain ⟨u3, hu3⟩ : ∃ u3, u3 = v3.alloc (.cells #[.int .i64 4] 3) := ⟨_, rfl⟩
  have hbu3 : Below v3.heap.size v3 u3 := by rw [hu3]; exact below_new _ _
  have hil : IsInts u3 (v3.heap.size + 1) (some ⟨v3.heap.size, 0, none⟩) [4] := by rw [hu3]; exact lit_in v3 [4] (by decide) (by decide)
  have hsu : u3.heap.size = v3.heap.size + 1 := by rw [hu3]; simp
  have hb2v3 := hb23.trans (hbv3.mono hb23.size)
  have hb2u3 := hb2v3.trans (hbu3.mono hb2v3.size)
  have HN3 := next_any w2.heap.size (v3.heap.size + 1) c34 short_c34 ma (some ⟨v3.heap.size, 0, none⟩) 1 1 [4] rfl (by decide) u3 (HK.out u3 hb2u3).2.1 hil (by have := (HK.out u3 hb2u3).2.2.2; omega) (by omega)
  rw [k_b] at HN3
  have HN3 := hid HN3
  have hld3 := (HK.out v3 hb2v3).1.ld
  have BU3 := hid hb2u3
  have HU3 := hid hu3
  clear hv3 hox hb3 hx3 hbv3 hs3 hbu3 hil hsu hu3 hb23 hb2v3 hb2u3 HN hld2 hst2
  go_wp2_with fail
  rw [← HU3.out]
  refine HN3.out.mono ?_
  rintro e w4 ⟨mb, rfl, hob, hb4⟩
  obtain ⟨v4, hv4⟩ : ∃ v4, v4 = w4.alloc (.cells #[.slice mb.a0 mb.n0 mb.k0, .slice mb.a1 mb.n1 mb.k1, .slice mb.a2 mb.n2 mb.k2] 24) := ⟨_, rfl⟩
  obtain ⟨hx4, hbv4, hs4, hst4⟩ := box_new hv4
  have hb24 := BU3.out.trans (hb4.mono BU3.out.size)
  have hb2v4 := hb24.trans (hbv4.mono hb24.size)
  have hk4 : ∀ W, Below v4.heap.size v4 W → Bx W w4.heap.size 24 mb ∧ InC W w4.heap.size c3t4 mb ∧ Below v2.heap.size v2 W ∧ w4.heap.size + 1 ≤ W.heap.size := fun W hb =>
    ⟨hx4.below hb hx4.lt, ((hob.below hbv4).below hb).inC, hb2v4.trans (hb.mono hb2v4.size), by have := hb.size; omega⟩
  have HN4 := next_any w4.heap.size 0 c3t4 short_c3t4 mb none 0 0 [] rfl (by decide) v4 (hk4 v4 (Below.refl _ _)).2.1 IsInts.nil (by omega) (by omega)
  rw [k_c] at HN4
  have HN4 := hid HN4
  have HK4 := hid hk4
  have hld4 := hx4.ld
  clear hv4 hob hb4 hx4 hbv4 hs4 hb24 hb2v4 hk4 HN3 hld3 hst3
  go_wp2_with fail
  refine HN4.out.mono ?_
  rintro e w5 ⟨mc, rfl, hoc, hb5⟩
  obtain ⟨v5, hv5⟩ : ∃ v5, v5 = w5.alloc (.cells #[.slice mc.a0 mc.n0 mc.k0, .slice mc.a1 mc.n1 mc.k1, .slice mc.a2 mc.n2 mc.k2] 24) := ⟨_, rfl⟩
  obtain ⟨hx5, hbv5, hs5, hst5⟩ := box_new hv5
  have hb4v5 := hb5.trans (hbv5.mono hb5.size)
  have hk5 : ∀ W, Below v5.heap.size v5 W → Bx W w5.heap.size 24 mc ∧ InC W w5.heap.size c4 mc ∧ Below v4.heap.size v4 W ∧ w5.heap.size + 1 ≤ W.heap.size := fun W hb =>
    ⟨hx5.below hb hx5.lt, ((hoc.below hbv5).below hb).inC, hb4v5.trans (hb.mono hb4v5.size), by have := hb.size; omega⟩
  obtain ⟨a5, ha5⟩ : ∃ a5, a5 = v5.alloc (.cells #[.int .i64 1, .int .i64 2, .int .i64 3] 3) := ⟨_, rfl⟩
  have hba : Below v5.heap.size v5 a5 := by rw [ha5]; exact below_new _ _
  have hia : IsInts a5 (v5.heap.size + 1) (some ⟨v5.heap.size, 0, none⟩) [1, 2, 3] := by rw [ha5]; exact lit_in v5 [1, 2, 3] (by decide) (by decide)
  have hsa : a5.heap.size = v5.heap.size + 1 := by rw [ha5]; simp
  obtain ⟨d5, hd5⟩ : ∃ d5, d5 = a5.alloc (.cells #[.int .i64 1, .int .i64 2, .int .i64 3, .int .i64 4] 3) := ⟨_, rfl⟩
  have hbd : Below a5.heap.size a5 d5 := by rw [hd5]; exact below_new _ _
  have hid5 : IsInts d5 (a5.heap.size + 1) (some ⟨v5.heap.size + 1, 0, none⟩) [1, 2, 3, 4] := by
    have := lit_in a5 [1, 2, 3, 4] (by decide) (by decide)
    rw [hd5]
    rw [hsa] at this ⊢
    exact this
  have hsd : d5.heap.size = a5.heap.size + 1 := by rw [hd5]; simp
  have hb5d := hba.trans (hbd.mono hba.size)
  have hin : InC d5 (a5.heap.size + 1) c3t4 ⟨some ⟨v5.heap.size, 0, none⟩, 3, 3, some ⟨v5.heap.size + 1, 0, none⟩, 4, 4, none, 0, 0⟩ :=
    ⟨⟨(hia.below (hbd.mono (by omega))).more (by omega), hid5, IsInts.nil, (fun e => by cases e), (fun e => by cases e), (fun _ => rfl), (show 3 ≤ 3 ∧ 3 ≤ maxLen by decide), (show 4 ≤ 4 ∧ 4 ≤ maxLen by decide), (show 0 ≤ 0 ∧ 0 ≤ maxLen by decide)⟩, rfl, rfl, rfl⟩
  have HS1 := hid (sameConf_M w4.heap.size (a5.heap.size + 1) c3t4 short_c3t4 mb _ d5 (HK4.out d5 (hk5 d5 hb5d).2.2.1).2.1 hin (by have := (HK4.out d5 (hk5 d5 hb5d).2.2.1).2.2.2; omega) (by omega))
  have hld5 := (HK4.out v5 (hk5 v5 (Below.refl _ _)).2.2.1).1.ld
  have HK5 := hid hk5
  have HU5 := hid (And.intro ha5 hd5)
  have HBD := hid hb5d
  clear hv5 hoc hb5 hx5 hbv5 hs5 hb4v5 hk5 ha5 hd5 hba hia hsa hbd hid5 hsd hin hb5d HN4 hld4 hst4
  go_wp2_with fail
  rw [← HU5.out.1, ← HU5.out.2]
  refine HS1.out.mono ?_
  rintro e w6 ⟨rfl, hb6⟩
  have hb56 := HBD.out.trans (hb6.mono HBD.out.size)
  obtain ⟨a6, ha6⟩ : ∃ a6, a6 = w6.alloc (.cells #[.int .i64 1, .int .i64 2, .int .i64 3, .int .i64 4] 3) := ⟨_, rfl⟩
  have hba : Below w6.heap.size w6 a6 := by rw [ha6]; exact below_new _ _
  have hia : IsInts a6 (w6.heap.size + 1) (some ⟨w6.heap.size, 0, none⟩) [1, 2, 3, 4] := by rw [ha6]; exact lit_in w6 [1, 2, 3, 4] (by decide) (by decide)
  have hsa : a6.heap.size = w6.heap.size + 1 := by rw [ha6]; simp
  have hb5a := hb56.trans (hba.mono hb56.size)
  have hin : InC a6 (w6.heap.size + 1) c4 ⟨some ⟨w6.heap.size, 0, none⟩, 4, 4, none, 0, 0, none, 0, 0⟩ :=
    ⟨⟨hia, IsInts.nil, IsInts.nil, (fun e => by cases e), (fun _ => rfl), (fun _ => rfl), (show 4 ≤ 4 ∧ 4 ≤ maxLen by decide), (show 0 ≤ 0 ∧ 0 ≤ maxLen by decide), (show 0 ≤ 0 ∧ 0 ≤ maxLen by decide)⟩, rfl, rfl, rfl⟩
  have HS2 := hid (sameConf_M w5.heap.size (w6.heap.size + 1) c4 short_c4 mc _ a6 (HK5.out a6 hb5a).2.1 hin (by have := (HK5.out a6 hb5a).2.2.2; omega) (by omega))
  have hld6 := (HK5.out w6 hb56).1.ld
  have HU6 := hid ha6
  have HBA := hid hb5a
  clear ha6 hba hia hsa hin hb5a hb6 hb56 HS1 hld5 hst5
  go_wp2_with fail
  rw [← HU6.out]
  refine HS2.out.mono ?_
  rintro e w7 ⟨rfl, hb7⟩
  have hb57 := HBA.out.trans (hb7.mono HBA.out.size)
  have HE := hid ((HK.out w7 (HK4.out w7 (HK5.out w7 hb57).2.2.1).2.2.1).2.2.1)
  clear hb7 hb57 HS2 hld6
  go_wp2_with fail
  go_ret
  exact ⟨rfl, HE.out⟩
end Go.Proofs.Ytfkjahpcpmcefaa.Co
namespace Go.Proofs.Ytfkjahpcpmcefaa
open Go
def unl (listed : Array Bool) : Nat := listed.toList.count false
theorem unl_set {listed : Array Bool} {i : Nat} (h : listed.getD i true = false) : unl (listed.setIfInBounds i true) + 1 = unl listed := by
  have hi : i < listed.size := by
    rcases Nat.lt_or_ge i listed.size with h' | h'
    · exact h'
    · rw [Array.getD_eq_getD_getElem?, Array.getElem?_eq_none h'] at h; cases h
  have hv : listed.toList[i] = false := by
    rw [Array.getD_eq_getD_getElem?, Array.getElem?_eq_getElem hi] at h
    exact h
  unfold unl
  rw [Array.toList_setIfInBounds, List.count_set (by simpa using hi)]
  have hm : 0 < listed.toList.count false := List.count_pos_iff.2 (hv ▸ List.getElem_mem _)
  have hv2 : (listed.toList[i]'(by simpa using hi) == false) = true := by rw [hv]; rfl
  rw [if_pos hv2, if_neg (by decide)]
  omega
theorem all_listed {ops : Array Oper} {listed : Array Bool} (hsz : listed.size = ops.size) (hacyc : ∀ (i : Nat) (o : Oper), ops[i]? = some o → ∀ e ∈ o.after, Region.binds .any e = true → e.on < i) (hr : Region.ready .any ops listed = []) :
    ∀ i, i < ops.size → listed.getD i false = true := by
  intro i
  induction i using Nat.strongRecOn with
  | ind i ih =>
    intro hi
    have hi' : i < listed.size := by omega
    cases hl : listed[i]
    · exfalso
      have hm : i ∈ Region.ready .any ops listed := mem_ready.2 ⟨by rw [Array.getD_eq_getD_getElem?, Array.getElem?_eq_getElem hi', hl]; rfl, ops[i], Array.getElem?_eq_getElem hi, fun e he hb => ih e.on (hacyc i _ (Array.getElem?_eq_getElem hi) e he hb) (by have := hacyc i _ (Array.getElem?_eq_getElem hi) e he hb; omega)⟩
      rw [hr] at hm
      cases hm
    · rw [Array.getD_eq_getD_getElem?, Array.getElem?_eq_getElem hi', hl]; rfl
def sop (op : Op) (ty : TypeId) : Oper := ⟨none, op, ty, "", #[], none⟩
theorem exec_sop (ρ : Operand → Value) (o : Oper) : execOp ρ o = execOp ρ (sop o.op o.type) := rfl
def Goes (P : Program) (a : Act) (w : World) (op : Op) (ty : TypeId) (R : Value → World → Prop) : Prop :=
  (∃ v w', (execOp a.eval (sop op ty)).run P w = .ok (.value v) w' ∧ R v w') ∨
  (∃ f args, (execOp a.eval (sop op ty)).run P w = .ok (.enter f args) w ∧ Calls P f args w fun e w' => ∃ v, e = .returned v ∧ R v w')
theorem Goes.wpOp {P : Program} {ops : Array Oper} {Q : Exit → Act → World → Prop} {K : Act → World → Prop} {a : Act} {w : World} {i : Nat} {o : Oper} {R : Value → World → Prop} (hi : ops[i]? = some o) (hg : o.guard = none) (h : Goes P a w o.op o.type R)
    (hk : ∀ v w', R v w' → K (a.put o.dst v) w') : wpOp P ops Q i K a w := by
  unfold Go.wpOp
  simp only [hi]
  have hw : Region.wanted o (yielded ops a.tmps) = true := by simp [Region.wanted, hg]
  rw [if_pos hw]
  left
  unfold Oper.wp
  rw [exec_sop]
  rcases h with ⟨v, w', hr, hR⟩ | ⟨f, args, hr, hC⟩
  · rw [hr, Oper.upon_value]
    exact hk v w' hR
  · rw [hr, Oper.upon_enter]
    refine hC.mono ?_
    rintro e w' ⟨v, rfl, hR⟩
    exact hk v w' hR
theorem x_move {P : Program} (ρ : Operand → Value) (x : Operand) (ty : TypeId) (w : World) : (execOp ρ (sop (.move x) ty)).run P w = .ok (.value (ρ x)) w := by simp [execOp, sop]
theorem x_slice {P : Program} (ρ : Operand → Value) (t : TypeId) (n : Nat) (parts : Array (Nat × Operand)) (ty : TypeId) (v : Value) (w w' : World) (h : (Instr.buildSlice t n (parts.map fun (i, x) => (i, ρ x))).run P w = .ok v w') : (execOp ρ (sop (.buildSlice t n parts) ty)).run P w = .ok (.value v) w' := by simp [execOp, sop, h]
theorem x_load {P : Program} (ρ : Operand → Value) (t : TypeId) (x : Operand) (ty : TypeId) (v : Value) (w : World) (h : (Instr.loadAt t (ρ x)).run P w = .ok v w) : (execOp ρ (sop (.load t x) ty)).run P w = .ok (.value v) w := by simp [execOp, sop, h]
def AllFrom {α : Type} (p : Nat → α → Prop) : Nat → List α → Prop
  | _, [] => True
  | n, x :: xs => p n x ∧ AllFrom p (n + 1) xs
theorem AllFrom.get {α : Type} {p : Nat → α → Prop} : ∀ {n : Nat} {l : List α}, AllFrom p n l → ∀ (i : Nat) (x : α), l[i]? = some x → p (n + i) x
  | _, [], _, i, x, h => by simp at h
  | n, y :: ys, ⟨h0, h1⟩, i, x, h => by
    rcases i with _ | i
    · simp at h; subst h; exact h0
    · simp at h
      have := AllFrom.get h1 i x h
      rwa [show n + 1 + i = n + (i + 1) by omega] at this
end Go.Proofs.Ytfkjahpcpmcefaa
namespace Go.Proofs.Ytfkjahpcpmcefaa
open Go
set_option maxRecDepth 100000
structure Rc (δ : Type) where
  ops : Array Oper
  nt : Nat
  step : Nat → Option Nat
  val : δ → Nat → Value
  inv : δ → Nat → World → Prop
structure Jc {δ : Type} (C : Rc δ) (a0 : Act) (X : δ) (p : Nat) (listed : Array Bool) (a : Act) (w : World) : Prop where
  size : a.tmps.size = C.nt
  defers : a.defers = a0.defers
  keep : ∀ s : Nat, (∀ (j : Nat) (o : Oper), C.ops[j]? = some o → o.dst ≠ some s) → a.eval (.tmp s) = a0.eval (.tmp s)
  lsize : listed.size = C.ops.size
  clos : ∀ (j : Nat) (o : Oper), C.ops[j]? = some o → listed.getD j false = true → ∀ e ∈ o.after, Region.binds .any e = true → listed.getD e.on false = true
  slots : ∀ (j : Nat) (o : Oper) (d : Nat), C.ops[j]? = some o → o.dst = some d → listed.getD j false = true → a.eval (.tmp d) = C.val X j
  call : ∀ j, j < C.ops.size → ∀ k, C.step j = some k → (listed.getD j false = true ↔ k < p)
  inv : C.inv X p w
structure Rc.Ok {δ : Type} (C : Rc δ) : Prop where
  nt : ∀ (j : Nat) (o : Oper) (d : Nat), C.ops[j]? = some o → o.dst = some d → d < C.nt
  once : ∀ (i j : Nat) (o o' : Oper) (d : Nat), C.ops[i]? = some o → C.ops[j]? = some o' → o.dst = some d → o'.dst = some d → i = j
  uniq : ∀ i j k, i < C.ops.size → j < C.ops.size → C.step i = some k → C.step j = some k → i = j
theorem evput_ne (a : Act) {d : Option Tmp} {t : Nat} (v : Value) (h : d ≠ some t) : (a.put d v).eval (.tmp t) = a.eval (.tmp t) := by
  rcases d with _ | d
  · rfl
  · have : d ≠ t := fun e => h (by rw [e])
    simp [Act.put, Act.eval, Array.getElem?_setIfInBounds_ne this]
theorem evput_self (a : Act) {d : Nat} (v : Value) (h : d < a.tmps.size) : (a.put (some d) v).eval (.tmp d) = v := by
  simp [Act.put, Act.eval, h]
theorem listed_set (l : Array Bool) (j m : Nat) (hj : j < l.size) : (l.setIfInBounds j true).getD m false = if m = j then true else l.getD m false := by
  rw [Array.getD_eq_getD_getElem?, Array.getD_eq_getD_getElem?]
  by_cases e : m = j
  · subst e
    rw [if_pos rfl, Array.getElem?_setIfInBounds_self_of_lt hj]; rfl
  · rw [if_neg e, Array.getElem?_setIfInBounds_ne (by omega)]
theorem listed_no {l : Array Bool} {j : Nat} (h : l.getD j true = false) : l.getD j false = false := by
  rw [Array.getD_eq_getD_getElem?] at h ⊢
  rcases hl : l[j]? with _ | b
  · rfl
  · rw [hl] at h; exact h
section
variable {δ : Type} {C : Rc δ} {a0 a : Act} {X X' : δ} {p p' : Nat} {listed : Array Bool} {w w' : World}
theorem Jc.put (hC : C.Ok) (h : Jc C a0 X p listed a w) (j : Nat) (o : Oper) (hj : C.ops[j]? = some o) (ha : ∀ e ∈ o.after, Region.binds .any e = true → listed.getD e.on false = true) (v : Value) (hinv : C.inv X' p' w')
    (hk : ∀ (m : Nat), m < C.ops.size → listed.getD m false = true → C.val X' m = C.val X m) (hu : listed.getD j true = false) (hv : ∀ d, o.dst = some d → v = C.val X' j)
    (hc : ∀ m, m < C.ops.size → ∀ k, C.step m = some k → ((if m = j then true else listed.getD m false) = true ↔ k < p')) :
    Jc C a0 X' p' (listed.setIfInBounds j true) (a.put o.dst v) w' := by
  have hjs : j < C.ops.size := (Array.getElem?_eq_some_iff.1 hj).1
  have hjl : j < listed.size := by rw [h.lsize]; exact hjs
  refine ⟨?_, ?_, fun s hs => ?_, by simp [h.lsize], fun m om hm hl e he hb => ?_, fun m om d hm hd hl => ?_, fun m hm k hmk => ?_, hinv⟩
  · rcases hd : o.dst with _ | d
    · exact h.size
    · simp [Act.put, h.size]
  · rcases hd : o.dst with _ | d
    · exact h.defers
    · exact h.defers
  · rw [evput_ne a v (hs j o hj)]; exact h.keep s hs
  · rw [listed_set _ _ _ hjl] at hl ⊢
    by_cases e1 : e.on = j
    · rw [if_pos e1]
    · rw [if_neg e1]
      by_cases e2 : m = j
      · subst e2
        rw [hj] at hm
        obtain rfl := Option.some.inj hm
        exact ha e he hb
      · rw [if_neg e2] at hl
        exact h.clos m om hm hl e he hb
  · rw [listed_set _ _ _ hjl] at hl
    by_cases e2 : m = j
    · subst e2
      rw [hj] at hm
      obtain rfl := Option.some.inj hm
      rw [hd, evput_self a v (by rw [h.size]; exact hC.nt m o d hj hd)]
      exact hv d hd
    · rw [if_neg e2] at hl
      rw [evput_ne a v (fun e => e2 (hC.once m j om o d hm hj hd e)), hk m (Array.getElem?_eq_some_iff.1 hm).1 hl]
      exact h.slots m om d hm hd hl
  · rw [listed_set _ _ _ hjl]; exact hc m hm k hmk
theorem Jc.next (h : Jc C a0 X p listed a w) {j k : Nat} (hj : j < C.ops.size) (hk : C.step j = some k) (hu : listed.getD j true = false) (hb : k = 0 ∨ ∃ i, i < C.ops.size ∧ C.step i = some (k - 1) ∧ listed.getD i false = true) : k = p := by
  have h1 : p ≤ k := by
    rcases Nat.lt_or_ge k p with h' | h'
    · have := (h.call j hj k hk).2 h'
      rw [listed_no hu] at this; cases this
    · exact h'
  rcases hb with h0 | ⟨i, hi, hik, hil⟩
  · omega
  · have := (h.call i hi _ hik).1 hil
    omega
theorem Jc.ahead (h : Jc C a0 X p listed a w) {j m k : Nat} {om : Oper} (hm : C.ops[m]? = some om) (hk : C.step m = some k) (hu : listed.getD j true = false) (hw : ∃ e ∈ om.after, Region.binds .any e = true ∧ e.on = j) : p ≤ k := by
  rcases Nat.lt_or_ge k p with h' | h'
  · have hl := (h.call m (Array.getElem?_eq_some_iff.1 hm).1 k hk).2 h'
    obtain ⟨e, he, hb, rfl⟩ := hw
    have := h.clos m om hm hl e he hb
    rw [listed_no hu] at this; cases this
  · exact h'
end
theorem Jc.kept {δ : Type} {C : Rc δ} {a0 a : Act} {X : δ} {p : Nat} {listed : Array Bool} {w : World} (h : Jc C a0 X p listed a w) (s : Nat) (hb : (C.ops.all fun o => decide (o.dst ≠ some s)) = true) : a.eval (.tmp s) = a0.eval (.tmp s) :=
  h.keep s (fun j o hj => by
    have := (Array.all_eq_true_iff_forall_mem.1 hb) o (Array.mem_of_getElem? hj)
    simpa using this)
theorem run_pick {P : Program} {ρ : Operand → Value} {c x y : Operand} {ty : TypeId} {w : World} {b : Bool} {v : Value} (hc : ρ c = .bool b) (h : (if b = true then ρ x else ρ y) = v) : (execOp ρ (sop (.pick c x y) ty)).run P w = .ok (.value v) w := by subst h; simp [execOp, sop, hc, asBool]
theorem run_bin {P : Program} {ρ : Operand → Value} {op : BinOp} {t u : TypeId} {x y : Operand} {ty : TypeId} {w : World} {v1 v2 v : Value} (h1 : ρ x = v1) (h2 : ρ y = v2) (h : (do eqGuard op t x y v1 v2; binOp op t v1 v2 : Sem Value).run P w = .ok v w) : (execOp ρ (sop (.binOp op t x y u) ty)).run P w = .ok (.value v) w := by
  subst h1
  subst h2
  unfold execOp sop
  simp only [Sem.run_bind, Sem.run_pure] at h ⊢
  rw [h]
  rfl
theorem run_fad {P : Program} {ρ : Operand → Value} {t : TypeId} {x : Operand} {f : Nat} {ty : TypeId} {v0 v : Value} {w : World} (h0 : ρ x = v0) (h : (Instr.fieldAt t v0 f).run P w = .ok v w) : (execOp ρ (sop (.fieldAddr t x f) ty)).run P w = .ok (.value v) w := by subst h0; simp [execOp, sop, h]
section
variable {δ : Type} {P : Program} {C : Rc δ} {a0 a : Act} {X : δ} {p : Nat} {listed : Array Bool} {w : World} {Q : Exit → Act → World → Prop}
theorem wanted_of {ops : Array Oper} {a : Act} {o og : Oper} {g d : Nat} {b c : Bool} (hg : o.guard = some (g, b)) (ho : ops[g]? = some og) (hd : og.dst = some d) (hlt : d < a.tmps.size) (h : a.eval (.tmp d) = .bool c) : Region.wanted o (yielded ops a.tmps) = (c == b) := by
  have h2 : a.tmps[d]? = some (.bool c) := by
    have h3 : a.tmps.getD d undef = .bool c := h
    rw [Array.getD_eq_getD_getElem?, Array.getElem?_eq_getElem hlt] at h3
    rw [Array.getElem?_eq_getElem hlt]
    exact congrArg some h3
  unfold Region.wanted
  rw [hg]
  simp only [yielded, ho, Option.bind_some, hd, h2]
  cases b <;> cases c <;> rfl
theorem goes_wpOpG {P : Program} {ops : Array Oper} {Q : Exit → Act → World → Prop} {K : Act → World → Prop} {a : Act} {w : World} {i : Nat} {o : Oper} {R : Value → World → Prop} (hi : ops[i]? = some o) (hw : Region.wanted o (yielded ops a.tmps) = true) (h : Goes P a w o.op o.type R)
    (hk : ∀ v w', R v w' → K (a.put o.dst v) w') : wpOp P ops Q i K a w := by
  unfold Go.wpOp
  simp only [hi]
  rw [if_pos hw]
  left
  unfold Oper.wp
  rw [exec_sop]
  rcases h with ⟨v, w', hr, hR⟩ | ⟨f, args, hr, hC⟩
  · rw [hr, Oper.upon_value]
    exact hk v w' hR
  · rw [hr, Oper.upon_enter]
    refine hC.mono ?_
    rintro e w' ⟨v, rfl, hR⟩
    exact hk v w' hR
def acyc (ops : Array Oper) : Bool := (List.range ops.size).all fun i => match ops[i]? with
  | some o => o.after.all fun e => !Region.binds .any e || decide (e.on < i)
  | none => true
theorem acyc_spec {ops : Array Oper} (h : acyc ops = true) (i : Nat) (o : Oper) (hi : ops[i]? = some o) (e : _) (he : e ∈ o.after) (hb : Region.binds .any e = true) : e.on < i := by
  have hlt : i < ops.size := (Array.getElem?_eq_some_iff.1 hi).1
  have := List.all_eq_true.1 h i (List.mem_range.2 hlt)
  rw [hi] at this
  have h2 := (Array.all_eq_true_iff_forall_mem.1 this) e he
  rw [hb] at h2
  simpa using h2
end
end Go.Proofs.Ytfkjahpcpmcefaa
namespace Go.Proofs.Ytfkjahpcpmcefaa
open Go Go.RowKit
set_option maxRecDepth 100000
set_option linter.unusedVariables false
structure Gp where
  p : World → Value → Prop
  mono : ∀ w w' v, p w v → Below w.heap.size w w' → p w' v
def Gp.any : Gp := ⟨fun _ _ => True, fun _ _ _ _ _ => trivial⟩
def Gp.is (v0 : Value) : Gp := ⟨fun _ v => v = v0, fun _ _ _ h _ => h⟩
def Gp.row (lo : Nat) (n : Nat) (cs : Array Value) (t : TypeId) : Gp := ⟨fun w v => ∃ b, lo ≤ b ∧ v = .slice (some ⟨b, 0, none⟩) n n ∧ w.heap[b]? = some (.cells cs t (0, 0)), fun w w' v ⟨b, h0, h1, h2⟩ hb => ⟨b, h0, h1, (hb.block b (Array.getElem?_eq_some_iff.1 h2).1).trans h2⟩⟩
def dstsN (ops : Array Oper) (n : Nat) : List Nat := (ops.toList.take n).filterMap (·.dst)
def putAll (u : Nat → Value) (ds : List Nat) (a : Act) : Act := ds.foldl (fun a d => a.put (some d) (u d)) a
theorem putAll_size (u : Nat → Value) : ∀ (ds : List Nat) (a : Act), (putAll u ds a).tmps.size = a.tmps.size := by
  intro ds
  induction ds with
  | nil => intro a; rfl
  | cons d ds ih => intro a; show (putAll u ds (a.put (some d) (u d))).tmps.size = _; rw [ih]; simp [Act.put]
theorem putAll_defers (u : Nat → Value) : ∀ (ds : List Nat) (a : Act), (putAll u ds a).defers = a.defers := by
  intro ds
  induction ds with
  | nil => intro a; rfl
  | cons d ds ih => intro a; show (putAll u ds (a.put (some d) (u d))).defers = _; rw [ih]; rfl
theorem putAll_get (u : Nat → Value) : ∀ (ds : List Nat) (a : Act) (i : Nat), i < a.tmps.size → (putAll u ds a).tmps[i]? = if i ∈ ds then some (u i) else a.tmps[i]? := by
  intro ds
  induction ds with
  | nil => intro a i _; simp [putAll]
  | cons d ds ih =>
    intro a i hi
    show (putAll u ds (a.put (some d) (u d))).tmps[i]? = _
    rw [ih _ _ (by simp [Act.put]; exact hi)]
    by_cases h : i ∈ ds
    · rw [if_pos h, if_pos (List.mem_cons_of_mem _ h)]
    · rw [if_neg h]
      by_cases e : i = d
      · subst e
        rw [if_pos List.mem_cons_self]
        simp [Act.put, hi]
      · rw [if_neg (by simp [e, h])]
        simp [Act.put, Array.getElem?_setIfInBounds_ne (Ne.symm e)]
theorem act_putAll {a a0 : Act} {ds : List Nat} (hsz : a.tmps.size = a0.tmps.size) (hdf : a.defers = a0.defers) (hk : ∀ s, s ∉ ds → a.eval (.tmp s) = a0.eval (.tmp s)) : a = putAll (fun d => a.eval (.tmp d)) ds a0 := by
  obtain ⟨t, df⟩ := a
  obtain ⟨t0, df0⟩ := a0
  have h1 : t = (putAll (fun d => (⟨t, df⟩ : Act).eval (.tmp d)) ds ⟨t0, df0⟩).tmps := by
    apply Array.ext_getElem?
    intro i
    by_cases hi : i < t0.size
    · rw [putAll_get _ _ _ _ hi]
      have hi' : i < t.size := by have : t.size = t0.size := hsz; omega
      by_cases h : i ∈ ds
      · rw [if_pos h]
        simp [Act.eval, hi']
      · rw [if_neg h]
        have := hk i h
        simp only [Act.eval, Array.getD_eq_getD_getElem?] at this
        rw [Array.getElem?_eq_getElem hi', Array.getElem?_eq_getElem hi] at this ⊢
        exact congrArg some this
    · rw [Array.getElem?_eq_none (by have : t.size = t0.size := hsz; omega), Array.getElem?_eq_none (by rw [putAll_size]; show t0.size ≤ i; omega)]
  have h2 : df = (putAll (fun d => (⟨t, df⟩ : Act).eval (.tmp d)) ds ⟨t0, df0⟩).defers := by rw [putAll_defers]; exact hdf
  rcases hp : putAll (fun d => (⟨t, df⟩ : Act).eval (.tmp d)) ds ⟨t0, df0⟩ with ⟨t1, d1⟩
  rw [hp] at h1 h2
  rw [h1, h2]
def listedN (n m : Nat) : Array Bool := (List.replicate n true ++ List.replicate m false).toArray
def reachB (ops : Array Oper) : Nat → Nat → Nat → Bool
  | 0, _, _ => false
  | f + 1, i, j => match ops[i]? with
    | some o => o.after.any fun e => Region.binds .any e && (decide (e.on = j) || reachB ops f e.on j)
    | none => false
def onceG (ops : Array Oper) (n nt : Nat) : Bool := (dstsN ops n).all (fun d => decide (d < nt)) && decide (dstsN ops n).Nodup && (List.range n).all fun j => match ops[j]? with
  | some o => o.dst.isSome
  | none => true
def edgeB (ops : Array Oper) (o : Oper) (i d : Nat) : Bool := (o.after.any fun e => Region.binds .any e && decide (e.on = i)) && decide (ops[i]?.bind (·.dst) = some d)
structure Jg (H : Nat → Gp) (ops : Array Oper) (n : Nat) (a0 : Act) (w0 : World) (listed : Array Bool) (a : Act) (w : World) : Prop where
  size : a.tmps.size = a0.tmps.size
  defers : a.defers = a0.defers
  keep : ∀ s, s ∉ dstsN ops n → a.eval (.tmp s) = a0.eval (.tmp s)
  lsize : listed.size = ops.size
  slots : ∀ j o d, ops[j]? = some o → o.dst = some d → listed.getD j false = true → (H j).p w (a.eval (.tmp d))
  clos : ∀ j o, ops[j]? = some o → listed.getD j false = true → ∀ e ∈ o.after, Region.binds .any e = true → listed.getD e.on false = true
  bel : Below w0.heap.size w0 w
  tail : ∀ j, n ≤ j → listed.getD j false = false
theorem mem_dsts {ops : Array Oper} {n j d : Nat} {o : Oper} (hj : ops[j]? = some o) (hd : o.dst = some d) (hn : j < n) : d ∈ dstsN ops n := by
  refine List.mem_filterMap.2 ⟨o, ?_, hd⟩
  have : (ops.toList.take n)[j]? = some o := by rw [List.getElem?_take, if_pos hn, Array.getElem?_toList]; exact hj
  exact List.mem_of_getElem? this
theorem dst_once {l : List Oper} (h : (l.filterMap (·.dst)).Nodup) : ∀ {i j : Nat} {o o' : Oper} {d : Nat}, l[i]? = some o → l[j]? = some o' → o.dst = some d → o'.dst = some d → i = j := by
  induction l with
  | nil => intro i j o o' d h1; simp at h1
  | cons x l ih =>
    intro i j o o' d h1 h2 h3 h4
    have hm : ∀ {k : Nat} {y : Oper}, l[k]? = some y → y.dst = some d → d ∈ l.filterMap (·.dst) := fun hk hy => List.mem_filterMap.2 ⟨_, List.mem_of_getElem? hk, hy⟩
    have hl : (l.filterMap (·.dst)).Nodup := by
      rcases hx : x.dst with _ | dx
      · rw [List.filterMap_cons_none hx] at h; exact h
      · rw [List.filterMap_cons_some hx] at h; exact (List.nodup_cons.1 h).2
    rcases i with _ | i
    · rcases j with _ | j
      · rfl
      · simp at h1 h2
        subst h1
        rw [List.filterMap_cons_some h3] at h
        exact absurd (hm h2 h4) (List.nodup_cons.1 h).1
    · rcases j with _ | j
      · simp at h1 h2
        subst h2
        rw [List.filterMap_cons_some h4] at h
        exact absurd (hm h1 h3) (List.nodup_cons.1 h).1
      · simp at h1 h2
        rw [ih hl h1 h2 h3 h4]
theorem once_of {ops : Array Oper} {n i j d : Nat} {o o' : Oper} (h : (dstsN ops n).Nodup) (hi : ops[i]? = some o) (hj : ops[j]? = some o') (hin : i < n) (hjn : j < n) (h1 : o.dst = some d) (h2 : o'.dst = some d) : i = j := by
  have t : ∀ {k : Nat} {y : Oper}, ops[k]? = some y → k < n → (ops.toList.take n)[k]? = some y := fun hk hn => by rw [List.getElem?_take, if_pos hn, Array.getElem?_toList]; exact hk
  exact dst_once h (t hi hin) (t hj hjn) h1 h2
section
variable {P : Program} {H : Nat → Gp} {ops : Array Oper} {n : Nat} {a0 : Act} {w0 : World} {Q : Exit → Act → World → Prop}
theorem Jg.step (hn : (dstsN ops n).Nodup) (hb : ∀ d ∈ dstsN ops n, d < a0.tmps.size) {listed : Array Bool} {a : Act} {w w' : World} {v : Value} (h : Jg H ops n a0 w0 listed a w) {i : Nat} {o : Oper} (hi : ops[i]? = some o) (hin : i < n) {d : Nat} (hd : o.dst = some d) (ha : ∀ e ∈ o.after, Region.binds .any e = true → listed.getD e.on false = true)
    (hv : (H i).p w' v) (hw : Below w.heap.size w w') : Jg H ops n a0 w0 (listed.setIfInBounds i true) (a.put o.dst v) w' := by
  have his : i < listed.size := by rw [h.lsize]; exact (Array.getElem?_eq_some_iff.1 hi).1
  have hdm := mem_dsts hi hd hin
  refine ⟨by rw [hd]; simp [Act.put, h.size], by rw [hd]; exact h.defers, fun s hs => ?_, by simp [h.lsize], fun m om dm hm hdm' hl => ?_, fun m om hm hl e he hb => ?_, h.bel.trans (hw.mono h.bel.size), fun m hm => ?_⟩
  · rw [evput_ne a v (by rw [hd]; intro e; injection e with e; subst e; exact hs hdm)]
    exact h.keep s hs
  · rw [listed_set _ _ _ his] at hl
    by_cases e : m = i
    · subst e
      rw [hi] at hm
      obtain rfl := Option.some.inj hm
      rw [hd] at hdm'
      obtain rfl := Option.some.inj hdm'
      rw [hd, evput_self a v (by rw [h.size]; exact hb _ hdm)]
      exact hv
    · rw [if_neg e] at hl
      have hmn : m < n := by
        rcases Nat.lt_or_ge m n with h' | h'
        · exact h'
        · rw [h.tail m h'] at hl; cases hl
      rw [evput_ne a v (fun e' => e (once_of hn hm hi hmn hin hdm' (by rw [e'])))]
      exact (H m).mono _ _ _ (h.slots m om dm hm hdm' hl) hw
  · rw [listed_set _ _ _ his] at hl ⊢
    by_cases e1 : e.on = i
    · rw [if_pos e1]
    · rw [if_neg e1]
      by_cases e2 : m = i
      · subst e2
        rw [hi] at hm
        obtain rfl := Option.some.inj hm
        exact ha e he hb
      · rw [if_neg e2] at hl
        exact h.clos m om hm hl e he hb
  · rw [listed_set _ _ _ his, if_neg (by omega)]; exact h.tail m hm
theorem reach_listed {listed : Array Bool} (hc : ∀ j o, ops[j]? = some o → listed.getD j false = true → ∀ e ∈ o.after, Region.binds .any e = true → listed.getD e.on false = true) {j : Nat} : ∀ (f i : Nat) (o : Oper), ops[i]? = some o → (∀ e ∈ o.after, Region.binds .any e = true → listed.getD e.on false = true) → reachB ops f i j = true → listed.getD j false = true := by
  intro f
  induction f with
  | zero => intro i o _ _ h; cases h
  | succ f ih =>
    intro i o hi ha h
    unfold reachB at h
    rw [hi] at h
    obtain ⟨k, hk, h3⟩ := Array.any_eq_true.1 h
    rw [Bool.and_eq_true, Bool.or_eq_true, decide_eq_true_eq] at h3
    have hl := ha _ (Array.getElem_mem hk) h3.1
    rcases h3.2 with h4 | h4
    · rw [← h4]; exact hl
    · rcases ho : ops[(o.after[k]).on]? with _ | o2
      · cases f with
        | zero => cases h4
        | succ f => unfold reachB at h4; rw [ho] at h4; cases h4
      · exact ih _ o2 ho (fun e he hb => hc _ o2 ho hl e he hb) h4
theorem listed_is {listed : Array Bool} (hsz : listed.size = ops.size) (hn : n ≤ ops.size) (h1 : ∀ j, j < n → listed.getD j false = true) (h2 : ∀ j, n ≤ j → listed.getD j false = false) : listed = listedN n (ops.size - n) := by
  apply Array.ext_getElem?
  intro i
  rw [show (listedN n (ops.size - n))[i]? = (List.replicate n true ++ List.replicate (ops.size - n) false)[i]? from List.getElem?_toArray]
  by_cases hi : i < n
  · rw [List.getElem?_append_left (by simpa using hi), List.getElem?_replicate, if_pos hi]
    have := h1 i hi
    have hl : i < listed.size := by omega
    rw [Array.getD_eq_getD_getElem?, Array.getElem?_eq_getElem hl] at this
    rw [Array.getElem?_eq_getElem hl]
    exact congrArg some this
  · rw [List.getElem?_append_right (by simp; omega), List.length_replicate, List.getElem?_replicate]
    have := h2 i (by omega)
    by_cases hl : i < listed.size
    · rw [Array.getD_eq_getD_getElem?, Array.getElem?_eq_getElem hl] at this
      rw [Array.getElem?_eq_getElem hl, if_pos (by omega)]
      exact congrArg some this
    · rw [Array.getElem?_eq_none (by omega), if_neg (by omega)]
end
end Go.Proofs.Ytfkjahpcpmcefaa
namespace Go.Proofs.Ytfkjahpcpmcefaa
open Go Go.RowKit
set_option maxRecDepth 100000
set_option linter.unusedVariables false
section
variable {P : Program} {a : Act} {w w' : World} {ty : TypeId} {R : Value → World → Prop} {op : Op} {v : Value}
theorem goes_val (h : (execOp a.eval (sop op ty)).run P w = .ok (.value v) w) (hR : R v w) : Goes P a w op ty (fun v w' => R v w' ∧ Below w.heap.size w w') := .inl ⟨v, w, h, hR, Below.refl _ _⟩
theorem goes_new {o : Obj} (h : (execOp a.eval (sop op ty)).run P w = .ok (.value v) (w.alloc o)) (hR : R v (w.alloc o)) : Goes P a w op ty (fun v w' => R v w' ∧ Below w.heap.size w w') := .inl ⟨v, _, h, hR, (Below.refl _ w).alloc (Nat.le_refl _) _⟩
theorem goes_move {x : Operand} (h : a.eval x = v) (hR : R v w) : Goes P a w (.move x) ty (fun v w' => R v w' ∧ Below w.heap.size w w') := by
  subst h; exact goes_val (x_move _ _ _ _) hR
theorem goes_load {t : TypeId} {x : Operand} {v1 : Value} (h1 : a.eval x = v1) (h : (Instr.loadAt t v1).run P w = .ok v w) (hR : R v w) : Goes P a w (.load t x) ty (fun v w' => R v w' ∧ Below w.heap.size w w') := by
  subst h1; exact goes_val (x_load _ _ _ _ _ _ h) hR
theorem goes_fad {t : TypeId} {x : Operand} {f : Nat} {v1 : Value} (h1 : a.eval x = v1) (h : (Instr.fieldAt t v1 f).run P w = .ok v w) (hR : R v w) : Goes P a w (.fieldAddr t x f) ty (fun v w' => R v w' ∧ Below w.heap.size w w') :=
  goes_val (run_fad h1 h) hR
theorem goes_slice {t e : TypeId} {n : Nat} {parts : Array (Nat × Operand)} (cs : Array Value) {i0 : TypeInfo} {z : Value} (sz : Nat) (hs : i0.size = sz) (hu : P.underlying t = some (.slice e)) (hi : P.info? e = some i0) (hz : i0.zero = some z) (hn : ¬ n * sz > 2 ^ 24) (hp : n * sz ≠ 0)
    (pv : List (Nat × Value)) (hpv : (parts.map fun (i, x) => (i, a.eval x)).toList = pv) (hf : Instr.fill (fun i => some (i * sz, sz)) ((Array.range (n * sz)).map (z.cells[· % z.cells.size]!)) pv = some cs) (hR : R (.slice (some ⟨w.heap.size, 0, none⟩) n n) (w.alloc (.cells cs e))) :
    Goes P a w (.buildSlice t n parts) ty (fun v w' => R v w' ∧ Below w.heap.size w w') := by
  subst hs hpv
  exact goes_new (x_slice _ _ _ _ _ _ _ _ (run_buildSlice w t e n _ cs i0 z hu hi hz hn hp hf)) hR
theorem run_call2 {f : FuncId} {x y : Operand} {t u : TypeId} {v v2 : Value} (h : a.eval x = v) (h2 : a.eval y = v2) (hcf : (callFunc f #[v, v2]).run P w = .ok (.enter f #[v, v2]) w) : (execOp a.eval (sop (.call { callee := .value (.func f), args := #[x, y], argTypes := #[t, u] }) ty)).run P w = .ok (.enter f #[v, v2]) w := by
  generalize hρ : a.eval = ρ at h h2 ⊢
  have hf : ρ (.func f) = .func (.func f) #[] #[] := by rw [← hρ]; rfl
  clear hρ
  unfold execOp sop
  simp [resolve, invoke, h, h2, hf, Deferred.ofValue, hcf]
theorem goes_call2 {f : FuncId} {x y : Operand} {t u : TypeId} {v1 v2 : Value} (h1 : a.eval x = v1) (h2 : a.eval y = v2) (hcf : (callFunc f #[v1, v2]).run P w = .ok (.enter f #[v1, v2]) w) (h : Calls P f #[v1, v2] w fun e w' => ∃ v, e = .returned v ∧ R v w' ∧ Below w.heap.size w w') : Goes P a w (.call { callee := .value (.func f), args := #[x, y], argTypes := #[t, u] }) ty (fun v w' => R v w' ∧ Below w.heap.size w w') := .inr ⟨f, #[v1, v2], run_call2 h1 h2 hcf, h⟩
end
end Go.Proofs.Ytfkjahpcpmcefaa
namespace Go.Proofs.Ytfkjahpcpmcefaa
open Go Go.RowKit
set_option maxRecDepth 100000
set_option linter.unusedVariables false
structure Gs where
  H : Nat → Gp
  H2 : Nat → Value → Prop
  K : Value → World → Prop
  le : ∀ j w v, (H j).p w v → H2 j v
structure Js (C : Gs) (ops : Array Oper) (s m db : Nat) (a0 : Act) (w0 : World) (listed : Array Bool) (a : Act) (w : World) : Prop where
  size : a.tmps.size = a0.tmps.size
  defers : a.defers = a0.defers
  keep : ∀ s, s ∉ dstsN ops m → a.eval (.tmp s) = a0.eval (.tmp s)
  lsize : listed.size = ops.size
  pre : listed.getD s false = false → (∀ j o d, ops[j]? = some o → o.dst = some d → listed.getD j false = true → (C.H j).p w (a.eval (.tmp d))) ∧ Below w0.heap.size w0 w
  post : listed.getD s false = true → (∀ j o d, ops[j]? = some o → o.dst = some d → listed.getD j false = true → C.H2 j (a.eval (.tmp d))) ∧ C.K (a.eval (.tmp db)) w
  clos : ∀ j o, ops[j]? = some o → listed.getD j false = true → ∀ e ∈ o.after, Region.binds .any e = true → listed.getD e.on false = true
  tail : ∀ j, m ≤ j → listed.getD j false = false
section
variable {P : Program} {C : Gs} {ops : Array Oper} {s m db : Nat} {a0 : Act} {w0 : World} {Q : Exit → Act → World → Prop}
theorem Js.step (hn : (dstsN ops m).Nodup) (hb : ∀ d ∈ dstsN ops m, d < a0.tmps.size) {jb : Nat} {ob : Oper} (hjb : ops[jb]? = some ob) (hdb : ob.dst = some db) (hjbm : jb < m) (hjbs : reachB ops ops.size s jb = true) {so : Oper} (hs : ops[s]? = some so)
    {listed : Array Bool} {a : Act} {w w' : World} {v : Value} (h : Js C ops s m db a0 w0 listed a w) {i : Nat} {o : Oper} (hi : ops[i]? = some o) (hin : i < m) (his : i ≠ s) {d : Nat} (hd : o.dst = some d) (ha : ∀ e ∈ o.after, Region.binds .any e = true → listed.getD e.on false = true) (hu : listed.getD i true = false)
    (hpre : listed.getD s false = false → (C.H i).p w' v ∧ Below w.heap.size w w') (hpost : listed.getD s false = true → C.H2 i v ∧ w' = w) : Js C ops s m db a0 w0 (listed.setIfInBounds i true) (a.put o.dst v) w' := by
  have hil : i < listed.size := by rw [h.lsize]; exact (Array.getElem?_eq_some_iff.1 hi).1
  have hdm := mem_dsts hi hd hin
  have hsl : (listed.setIfInBounds i true).getD s false = listed.getD s false := by rw [listed_set _ _ _ hil, if_neg (Ne.symm his)]
  have old : ∀ m' om dm, ops[m']? = some om → om.dst = some dm → (listed.setIfInBounds i true).getD m' false = true → m' ≠ i → listed.getD m' false = true ∧ (a.put o.dst v).eval (.tmp dm) = a.eval (.tmp dm) := fun m' om dm hm hdm' hl e => by
    rw [listed_set _ _ _ hil, if_neg e] at hl
    have hmn : m' < m := by
      rcases Nat.lt_or_ge m' m with h' | h'
      · exact h'
      · rw [h.tail m' h'] at hl; cases hl
    exact ⟨hl, evput_ne a v (fun e' => e (once_of hn hm hi hmn hin hdm' (by rw [e'])))⟩
  have new : (a.put o.dst v).eval (.tmp d) = v := by rw [hd]; exact evput_self a v (by rw [h.size]; exact hb _ hdm)
  refine ⟨by rw [hd]; simp [Act.put, h.size], by rw [hd]; exact h.defers, fun s' hs' => ?_, by simp [h.lsize], fun hf => ?_, fun hf => ?_, fun m' om hm hl e he hb => ?_, fun m' hm => ?_⟩
  · rw [evput_ne a v (by rw [hd]; intro e; injection e with e; subst e; exact hs' hdm)]
    exact h.keep s' hs'
  · rw [hsl] at hf
    obtain ⟨p1, p2⟩ := h.pre hf
    obtain ⟨q1, q2⟩ := hpre hf
    refine ⟨fun m' om dm hm hdm' hl => ?_, p2.trans (q2.mono p2.size)⟩
    by_cases e : m' = i
    · subst e
      rw [hi] at hm
      obtain rfl := Option.some.inj hm
      rw [hd] at hdm'
      obtain rfl := Option.some.inj hdm'
      rw [new]; exact q1
    · obtain ⟨r1, r2⟩ := old m' om dm hm hdm' hl e
      rw [r2]
      exact (C.H m').mono _ _ _ (p1 m' om dm hm hdm' r1) q2
  · rw [hsl] at hf
    obtain ⟨p1, p2⟩ := h.post hf
    obtain ⟨q1, rfl⟩ := hpost hf
    refine ⟨fun m' om dm hm hdm' hl => ?_, ?_⟩
    · by_cases e : m' = i
      · subst e
        rw [hi] at hm
        obtain rfl := Option.some.inj hm
        rw [hd] at hdm'
        obtain rfl := Option.some.inj hdm'
        rw [new]; exact q1
      · obtain ⟨r1, r2⟩ := old m' om dm hm hdm' hl e
        rw [r2]
        exact p1 m' om dm hm hdm' r1
    · have hjl : listed.getD jb false = true := reach_listed h.clos _ s so hs (fun e he hb => h.clos s so hs hf e he hb) hjbs
      have hne : jb ≠ i := fun e => by
        subst e
        rw [listed_no hu] at hjl; cases hjl
      rw [evput_ne a v (fun e' => hne (once_of hn hjb hi hjbm hin hdb (by rw [e'])))]
      exact p2
  · rw [listed_set _ _ _ hil] at hl ⊢
    by_cases e1 : e.on = i
    · rw [if_pos e1]
    · rw [if_neg e1]
      by_cases e2 : m' = i
      · subst e2
        rw [hi] at hm
        obtain rfl := Option.some.inj hm
        exact ha e he hb
      · rw [if_neg e2] at hl
        exact h.clos m' om hm hl e he hb
  · rw [listed_set _ _ _ hil, if_neg (by omega)]; exact h.tail m' hm
theorem Js.stored {listed : Array Bool} {a : Act} {w w' : World} (h : Js C ops s m db a0 w0 listed a w) {o : Oper} (hs : ops[s]? = some o) (hsm : s < m) (hd : o.dst = none) (hu : listed.getD s true = false) (ha : ∀ e ∈ o.after, Region.binds .any e = true → listed.getD e.on false = true)
    (hK : C.K (a.eval (.tmp db)) w') : Js C ops s m db a0 w0 (listed.setIfInBounds s true) (a.put o.dst undef) w' := by
  have hil : s < listed.size := by rw [h.lsize]; exact (Array.getElem?_eq_some_iff.1 hs).1
  have e0 : ∀ t : Nat, (a.put o.dst undef).eval (.tmp t) = a.eval (.tmp t) := fun t => by rw [hd]; rfl
  refine ⟨by rw [hd]; exact h.size, by rw [hd]; exact h.defers, fun s' hs' => by rw [e0]; exact h.keep s' hs', by simp [h.lsize], fun hf => ?_, fun _ => ?_, fun m' om hm hl e he hb => ?_, fun m' hm => ?_⟩
  · rw [listed_set _ _ _ hil, if_pos rfl] at hf; cases hf
  · refine ⟨fun m' om dm hm hdm' hl => ?_, by rw [e0]; exact hK⟩
    rw [listed_set _ _ _ hil] at hl
    by_cases e : m' = s
    · subst e
      rw [hs] at hm
      obtain rfl := Option.some.inj hm
      rw [hd] at hdm'; cases hdm'
    · rw [if_neg e] at hl
      rw [e0]
      exact C.le _ _ _ ((h.pre (listed_no hu)).1 m' om dm hm hdm' hl)
  · rw [listed_set _ _ _ hil] at hl ⊢
    by_cases e1 : e.on = s
    · rw [if_pos e1]
    · rw [if_neg e1]
      by_cases e2 : m' = s
      · subst e2
        rw [hs] at hm
        obtain rfl := Option.some.inj hm
        exact ha e he hb
      · rw [if_neg e2] at hl
        exact h.clos m' om hm hl e he hb
  · rw [listed_set _ _ _ hil, if_neg (by omega)]; exact h.tail m' hm
end
end Go.Proofs.Ytfkjahpcpmcefaa
namespace Go.Proofs.Ytfkjahpcpmcefaa.Co
open Go Go.RowKit
open Qu (Cf)
set_option maxRecDepth 100000
set_option linter.unusedVariables false
theorem bigC_any (A0 A1 A2 : Option Addr) (n0 n1 n2 k0 k1 k2 n : Nat) (hn : n ≤ 1000000) (w : World) :
    Calls Try.prog 6 #[.agg #[.slice A0 n0 k0, .slice A1 n1 k1, .slice A2 n2 k2], .int .i64 (n : Int)] w fun e w' => e = .returned (.bool (decide (n < n0) || decide (n < n1) || decide (n < n2))) ∧ Below w.heap.size w w' := by
  have hb : Below w.heap.size w (w.alloc (.cells #[.slice A0 n0 k0, .slice A1 n1 k1, .slice A2 n2 k2] 24)) := (Below.refl _ w).alloc (Nat.le_refl _) _
  have HB := hid hb
  clear hb
  by_cases h0 : n < n0
  · have h0' : (n : Int) < (n0 : Int) := by omega
    have HE : Hid ((decide (n < n0) || decide (n < n1) || decide (n < n2)) = true) := hid (by simp [h0])
    rw [HE.out]
    clear h0
    go_enter Try.func6, Try.ntmps6
    go_wp2_with fail
    go_ret
    exact ⟨rfl, HB.out⟩
  · have h0' : ¬ (n : Int) < (n0 : Int) := by omega
    by_cases h1 : n < n1
    · have h1' : (n : Int) < (n1 : Int) := by omega
      have HE : Hid ((decide (n < n0) || decide (n < n1) || decide (n < n2)) = true) := hid (by simp [h1])
      rw [HE.out]
      clear h0 h1
      go_enter Try.func6, Try.ntmps6
      go_wp2_with fail
      go_ret
      exact ⟨rfl, HB.out⟩
    · have h1' : ¬ (n : Int) < (n1 : Int) := by omega
      by_cases h2 : n < n2
      · have h2' : (n : Int) < (n2 : Int) := by omega
        have HE : Hid ((decide (n < n0) || decide (n < n1) || decide (n < n2)) = true) := hid (by simp [h2])
        rw [HE.out]
        clear h0 h1 h2
        go_enter Try.func6, Try.ntmps6
        go_wp2_with fail
        go_ret
        exact ⟨rfl, HB.out⟩
      · have h2' : ¬ (n : Int) < (n2 : Int) := by omega
        have HE : Hid ((decide (n < n0) || decide (n < n1) || decide (n < n2)) = false) := hid (by simp [h0, h1, h2])
        rw [HE.out]
        clear h0 h1 h2
        go_enter Try.func6, Try.ntmps6
        go_wp2_with fail
        go_ret
        exact ⟨rfl, HB.out⟩
theorem run_lenI {ρ : Operand → Value} {ty : TypeId} {w : World} {x : Operand} {A : Option Addr} {n c : Nat} (h : ρ x = .slice A n c) : (execOp ρ (sop (.call { callee := .builtin .len, args := #[x], argTypes := #[22] }) ty)).run Try.prog w = .ok (.value (.int .i64 n)) w := by
  unfold execOp sop; simp only []; go_simp
end Go.Proofs.Ytfkjahpcpmcefaa.Co
namespace Go.Proofs.Ytfkjahpcpmcefaa.Co
open Go Go.RowKit
open Qu (Cf)
set_option maxRecDepth 100000
set_option linter.unusedVariables false
attribute [local go_sem ↓] Im.loadAt_conf3 Im.storeAt_conf3 loadAt_mem storeAt_mem
def bigM (m : M3) : Bool := decide (300 < m.n0) || decide (300 < m.n1) || decide (300 < m.n2)
theorem bigM_any (m : M3) (w : World) : Calls Try.prog 6 #[.agg #[.slice m.a0 m.n0 m.k0, .slice m.a1 m.n1 m.k1, .slice m.a2 m.n2 m.k2], .int .i64 300] w fun e w' => e = .returned (.bool (bigM m)) ∧ Below w.heap.size w w' := bigC_any m.a0 m.a1 m.a2 m.n0 m.n1 m.n2 m.k0 m.k1 m.k2 300 (by decide) w
theorem bigM_no {m : M3} (h : bigM m = false) : m.n0 ≤ 300 ∧ m.n1 ≤ 300 ∧ m.n2 ≤ 300 := by
  unfold bigM at h
  simp only [Bool.or_eq_false_iff, decide_eq_false_iff_not] at h
  omega
theorem box_keep {w5 v5 : World} {B : Nat} {x : Cf} {m : M3} (ho : OwnC w5 B w5.heap.size x m) (h : v5 = w5.alloc (.cells #[.slice m.a0 m.n0 m.k0, .slice m.a1 m.n1 m.k1, .slice m.a2 m.n2 m.k2] 24)) : ∀ W, Below v5.heap.size v5 W → Bx W w5.heap.size 24 m ∧ OwnC W B w5.heap.size x m ∧ Below w5.heap.size w5 W ∧ w5.heap.size + 1 ≤ W.heap.size := fun W hb => by
  obtain ⟨q1, q2, q3, _⟩ := box_new h
  exact ⟨q1.below hb q1.lt, (ho.below q2).below hb, q2.trans (hb.mono q2.size), by have := hb.size; omega⟩
end Go.Proofs.Ytfkjahpcpmcefaa.Co
namespace Go.Proofs.Ytfkjahpcpmcefaa
open Go.RowKit
end Go.Proofs.Ytfkjahpcpmcefaa
namespace Go.Proofs.Ytfkjahpcpmcefaa
open Go.RowKit Go.Maps
def SetAt (w : World) (b : Nat) (l : List Int) : Prop := ∃ D : DataW Unit, w.ownsMap Try.prog 3 unitElem b l.length D ∧ ∀ x, Maps.has D (.int .i64 x) = decide (x ∈ l)
theorem SetAt.lt {w : World} {b : Nat} {l : List Int} (h : SetAt w b l) : b < w.heap.size := by obtain ⟨D, h1, _⟩ := h; exact h1.lt
theorem SetAt.keep {w w' : World} {b : Nat} {l : List Int} (h : SetAt w b l) (hk : w'.heap[b]? = w.heap[b]?) : SetAt w' b l := by
  obtain ⟨D, ⟨es, clock, hb, r⟩, h2⟩ := h
  exact ⟨D, ⟨es, clock, hk.trans hb, r⟩, h2⟩
theorem SetAt.below {w w' : World} {B b : Nat} {l : List Int} (h : SetAt w b l) (hb : Below B w w') (hlt : b < B) : SetAt w' b l := h.keep (hb.block b hlt)
end Go.Proofs.Ytfkjahpcpmcefaa
namespace Go.Proofs.Ytfkjahpcpmcefaa.Co
open Go Go.RowKit
open Qu (Cf)
set_option maxRecDepth 100000
set_option linter.unusedVariables false
attribute [local go_sem ↓] Im.loadAt_conf3 Im.storeAt_conf3 loadAt_mem storeAt_mem
def eqs (b : List Int) (x : Int) (j : Nat) : List Int := (b.take j).filter (fun y => decide (x = y))
theorem eqs_yes {b : List Int} {x : Int} {j : Nat} (h : j < b.length) (he : x = b[j]) : eqs b x (j + 1) = eqs b x j ++ [x] := by
  unfold eqs; rw [List.take_succ_eq_append_getElem h, List.filter_append]; simp [he]
theorem eqs_no {b : List Int} {x : Int} {j : Nat} (h : j < b.length) (he : x ≠ b[j]) : eqs b x (j + 1) = eqs b x j := by
  unfold eqs; rw [List.take_succ_eq_append_getElem h, List.filter_append]; simp [he]
theorem eqs_le (b : List Int) (x : Int) (j : Nat) : (eqs b x j).length ≤ j := Nat.le_trans (List.length_filter_le _ _) (by simp; omega)
theorem both_succ {a b : List Int} {k : Nat} (h : k < a.length) : both (a.take (k + 1)) b = both (a.take k) b ++ eqs b a[k] b.length := by
  unfold both eqs
  rw [List.take_succ_eq_append_getElem h, List.flatMap_append, List.take_length]
  simp
theorem both_len (a b : List Int) : (both a b).length ≤ a.length * b.length := by
  induction a with
  | nil => simp [both]
  | cons x a ih =>
    have : both (x :: a) b = b.filter (fun y => decide (x = y)) ++ both a b := rfl
    rw [this, List.length_append, List.length_cons, Nat.add_mul, Nat.one_mul]
    have := List.length_filter_le (fun y => decide (x = y)) b
    omega
set_option maxHeartbeats 3200000 in
theorem bothL_any (B B' : Nat) (A A' : Option Addr) (c c' n n' : Nat) (l l' : List Int) (hn : n = l.length) (hn' : n' = l'.length) (hl : n * n' ≤ 17000000000000) (hl1 : n ≤ 100000000) (hl2 : n' ≤ 100000000) (w : World) (h : IsInts w B A l) (h' : IsInts w B' A' l') (hB : B ≤ w.heap.size) (hB' : B' ≤ w.heap.size) :
    Calls Try.prog 22 #[.slice A n c, .slice A' n' c'] w fun e w' => ∃ A2 c2 q, e = .returned (.slice A2 q c2) ∧ q = (both l l').length ∧ OwnsI 3 w' w.heap.size A2 c2 (both l l') ∧ Below w.heap.size w w' := by
  obtain ⟨i0, hi, hz0, hz1, hz2⟩ := info_parts I.info_int
  have H := hid (And.intro h (And.intro h' (And.intro hB hB')))
  have HN := hid (And.intro hn hn')
  have HLL : Hid (∀ k, k ≤ n → k * n' ≤ 17000000000000) := hid (fun k hk => Nat.le_trans (Nat.mul_le_mul_right _ hk) hl)
  clear h h' hB hB' hn hn' hl
  go_enter Try.func22, Try.ntmps22
  go_wp2_with fail
  go_loopw [5, 6] (fun v i wr => ∃ (k q : Nat) (A2 : Option Addr) (c2 : Nat), k ≤ n ∧ v = .slice A2 q c2 ∧ i = .int .i64 k ∧ Hid (q = (both (l.take k) l').length ∧ OwnsI 3 wr w.heap.size A2 c2 (both (l.take k) l') ∧ Below w.heap.size w wr)) (fun _ i _ => n - (RowKit.intOf i).toNat)
  case atStart => exact ⟨0, 0, none, 0, by omega, rfl, rfl, hid ⟨rfl, OwnsI.nil _ _ _, Below.refl _ _⟩⟩
  case round =>
    obtain ⟨k, q, A2, c2, hk, rfl, rfl, HR⟩ := hrel
    by_cases hlt : k < n
    · have hkl : k < l.length := by rw [← HN.out.1]; exact hlt
      go_wp2_with fail
      go_loopw [5, 7] (fun v j wx => ∃ (d q : Nat) (A2 : Option Addr) (c2 : Nat), d ≤ n' ∧ v = .slice A2 q c2 ∧ j = .int .i64 d ∧ Hid (q = (both (l.take k) l' ++ eqs l' l[k] d).length ∧ OwnsI 3 wx w.heap.size A2 c2 (both (l.take k) l' ++ eqs l' l[k] d) ∧ Below w.heap.size w wx)) (fun _ j _ => n' - (RowKit.intOf j).toNat)
      case atStart => exact ⟨0, q, A2, c2, by omega, rfl, rfl, hid (by simpa [eqs] using HR.out)⟩
      case round =>
        clear HR
        obtain ⟨d, q, A2, c2, hd, rfl, rfl, HR⟩ := hrel
        by_cases hlt2 : d < n'
        · have hdl : d < l'.length := by rw [← HN.out.2]; exact hlt2
          have hA := (H.out.1.below (HR.out.2.2.mono H.out.2.2.1)).cells k hkl
          have hA' := (H.out.2.1.below (HR.out.2.2.mono H.out.2.2.2)).cells d hdl
          obtain ⟨b, off, rfl, hb, hcell⟩ := hA
          obtain ⟨b', off', rfl, hb', hcell'⟩ := hA'
          have hc1 := hcell k hkl
          have hc2 := hcell' d hdl
          obtain ⟨x, hx⟩ : ∃ x, x = l[k] := ⟨_, rfl⟩
          obtain ⟨y, hy⟩ : ∃ y, y = l'[d] := ⟨_, rfl⟩
          rw [← hx] at hc1
          rw [← hy] at hc2
          have HX := hid (And.intro hx hy)
          clear hcell hcell' hx hy
          by_cases he : x = y
          · have he' : (x == y) = true := by rw [beq_iff_eq]; exact he
            have HE := hid he
            clear he
            go_wp2_with fail
            go_quiet (fail)
            obtain ⟨w9, hw9⟩ : ∃ w9, w9 = wr.drewN nq := ⟨_, rfl⟩
            have hc9 : w9.cell? ⟨b, off + k, none⟩ = some (.int .i64 x) := by rw [hw9]; exact hc1
            have hown : OwnsI 3 w9 w.heap.size A2 c2 (both (l.take k) l' ++ eqs l' l[k] d) := by rw [hw9]; exact HR.out.2.1.drewN _
            have hbel : Below w.heap.size w w9 := by rw [hw9]; exact below_drewN HR.out.2.2 _
            have hbase := hbel.size
            have hln := HR.out.1.symm
            have hxi : InInt x := by rw [HX.out.1]; exact H.out.1.small _ (List.getElem_mem hkl)
            have HS := hid (eqs_yes (x := l[k]) hdl (by rw [← HX.out.1, ← HX.out.2]; exact HE.out))
            have hql : q + 1 ≤ 17000000000000 + 1 + 100000000 := by
              have h1 := both_len (l.take k) l'
              have h2 := eqs_le l' l[k] d
              have h3 := HLL.out k hk
              rw [List.length_take, Nat.min_eq_left (by omega), ← HN.out.2] at h1
              rw [List.length_append] at hln
              omega
            have HXI := hid hxi
            have HBL := hid hbel
            rw [← hw9]
            clear hw9 hc1 hc2 he' hxi hbel
            go_wp2_with (at_builtin; refine wpList_append_intN rfl _ _ 22 rfl w.heap.size 3 i0 Try.underlying22 hi hz0 hz1 hz2 A2 c2 (both (l.take k) l' ++ eqs l' l[k] d) q hln rfl (hown.alloc _) ⟨w9.heap.size, 0, none⟩ 1 x HXI.out rfl (by simp) (both (l.take k) l' ++ eqs l' l[k] d ++ [x]) rfl (by omega) (by simp; omega) ?_)
            intro A3 c3 w5 hown5 hbel5
            have H5 := hid (And.intro hown5 ((HBL.out.alloc HBL.out.size _).trans hbel5))
            have HLN := hid hln
            clear hown hown5 hbel5 hc9 hln
            go_wp2
            go_roundw
            case rel => exact ⟨d + 1, q + 1, A3, c3, by omega, rfl, by go_num, hid ⟨by rw [HS.out, ← List.append_assoc, List.length_append, HLN.out]; rfl, by rw [HS.out]; have := H5.out.1; rw [← HX.out.1] at this ⊢; exact this, H5.out.2⟩⟩
            case measure => simp [RowKit.intOf]; omega
          · have he' : (x == y) = false := by rw [beq_eq_false_iff_ne]; exact he
            have HE := hid (eqs_no (x := l[k]) hdl (by rw [← HX.out.1, ← HX.out.2]; exact he))
            clear he
            go_wp2_with fail
            go_quiet (fail)
            go_wp2
            go_roundw
            case rel => exact ⟨d + 1, q, A2, c2, by omega, rfl, by go_num, hid ⟨by rw [HE.out]; exact HR.out.1, by rw [HE.out]; exact HR.out.2.1.drewN _, below_drewN HR.out.2.2 _⟩⟩
            case measure => simp [RowKit.intOf]; omega
        · obtain rfl : d = n' := by omega
          have hend : both (l.take (k + 1)) l' = both (l.take k) l' ++ eqs l' l[k] d := by rw [both_succ hkl, HN.out.2]
          rw [← hend] at HR
          go_wp2_with fail
          go_roundw
          case rel => exact ⟨k + 1, q, A2, c2, by omega, rfl, by go_num, HR⟩
          case measure => simp [RowKit.intOf]; omega
    · obtain rfl : k = n := by omega
      rw [HN.out.1, List.take_length] at HR
      go_wp2_with fail
      go_ret
      exact ⟨A2, c2, q, rfl, HR.out.1, HR.out.2.1, HR.out.2.2⟩
end Go.Proofs.Ytfkjahpcpmcefaa.Co
namespace Go.Proofs.Ytfkjahpcpmcefaa
open Go Go.RowKit
set_option maxRecDepth 100000
set_option linter.unusedVariables false
def ArmO (P : Program) (H : Nat → Gp) (ops : Array Oper) (ds : List Nat) (a0 : Act) (w0 : World) (j : Nat) (o : Oper) : Prop :=
  (o.guard = none ∨ ∃ g d b, o.guard = some (g, b) ∧ edgeB ops o g d = true ∧ ∀ w v, (H g).p w v → v = .bool b) ∧ ∀ a w, Below w0.heap.size w0 w → (∀ s, s ∉ ds → a.eval (.tmp s) = a0.eval (.tmp s)) → (∀ i d, edgeB ops o i d = true → (H i).p w (a.eval (.tmp d))) →
    Goes P a w o.op o.type (fun v w' => (H j).p w' v ∧ Below w.heap.size w w')
section
variable {P : Program} {H : Nat → Gp} {ops : Array Oper} {n : Nat} {a0 : Act} {w0 : World} {Q : Exit → Act → World → Prop}
theorem edge_at {listed : Array Bool} {a : Act} {w : World} (h : Jg H ops n a0 w0 listed a w) {o : Oper} (ha : ∀ e ∈ o.after, Region.binds .any e = true → listed.getD e.on false = true) {k dk : Nat} (hk : edgeB ops o k dk = true) : ∃ ok, ops[k]? = some ok ∧ ok.dst = some dk ∧ listed.getD k false = true := by
  unfold edgeB at hk
  rw [Bool.and_eq_true, decide_eq_true_eq] at hk
  obtain ⟨q, hq, h3⟩ := Array.any_eq_true.1 hk.1
  rw [Bool.and_eq_true, decide_eq_true_eq] at h3
  obtain ⟨ok, hok, hdk⟩ := Option.bind_eq_some_iff.1 hk.2
  exact ⟨ok, hok, hdk, h3.2 ▸ ha _ (Array.getElem_mem hq) h3.1⟩
theorem wpAny_all (hac : acyc ops = true) (hn : (dstsN ops ops.size).Nodup) (hb : ∀ d ∈ dstsN ops ops.size, d < a0.tmps.size) (hd : ∀ (j : Nat) (o : Oper), ops[j]? = some o → ∃ d, o.dst = some d)
    (arms : ∀ (j : Nat) (o : Oper), ops[j]? = some o → ArmO P H ops (dstsN ops ops.size) a0 w0 j o)
    (he : ∀ a w, Jg H ops ops.size a0 w0 (listedN ops.size 0) a w → Q .normal a w) :
    ∀ fuel listed a w, Jg H ops ops.size a0 w0 listed a w → unl listed = fuel → wpAny P .any ops Q fuel listed a w := by
  intro fuel
  induction fuel with
  | zero =>
    intro listed a w h hu
    have hall : ∀ j, j < ops.size → listed.getD j false = true := fun j hj => by
      have hjl : j < listed.size := by rw [h.lsize]; omega
      rcases hb' : listed.getD j false with _ | _
      · exfalso
        have hm : false ∈ listed.toList := by
          rw [Array.getD_eq_getD_getElem?, Array.getElem?_eq_getElem hjl] at hb'
          have hb'' : listed[j] = false := hb'
          rw [← hb'']
          exact Array.mem_toList_iff.2 (Array.getElem_mem hjl)
        have := List.count_pos_iff.2 hm
        unfold unl at hu
        omega
      · rfl
    have e := listed_is h.lsize (Nat.le_refl _) hall (fun j hj => h.tail j hj)
    rw [Nat.sub_self] at e
    refine ⟨?_, he a w (e ▸ h)⟩
    rcases hl : Region.ready .any ops listed with _ | ⟨i, rest⟩
    · rfl
    · obtain ⟨h0, o, ho, _⟩ := (mem_ready (j := i)).1 (by rw [hl]; exact List.mem_cons_self)
      have := unl_set h0
      omega
  | succ fuel ih =>
    intro listed a w h hu
    refine ⟨fun hr => ?_, fun i hi => ?_⟩
    · have hall : ∀ j, j < ops.size → listed.getD j false = true := fun j hj => all_listed h.lsize (fun i o hi e he hb => acyc_spec hac i o hi e he hb) hr j hj
      have e := listed_is h.lsize (Nat.le_refl _) hall (fun j hj => h.tail j hj)
      rw [Nat.sub_self] at e
      exact he a w (e ▸ h)
    · obtain ⟨h0, o, ho, ha⟩ := mem_ready.1 hi
      have hin : i < ops.size := (Array.getElem?_eq_some_iff.1 ho).1
      obtain ⟨d, hd'⟩ := hd i o ho
      obtain ⟨hg, harm⟩ := arms i o ho
      have hw : Region.wanted o (yielded ops a.tmps) = true := by
        rcases hg with hg | ⟨g, dg, b, hg, hgd, hgb⟩
        · simp [Region.wanted, hg]
        · obtain ⟨og, hog, hdg, hlg⟩ := edge_at h ha hgd
          have hgn : g < ops.size := (Array.getElem?_eq_some_iff.1 hog).1
          rw [wanted_of hg hog hdg (by rw [h.size]; exact hb _ (mem_dsts hog hdg hgn)) (hgb _ _ (h.slots g og dg hog hdg hlg))]
          cases b <;> rfl
      refine goes_wpOpG ho hw (harm a w h.bel h.keep (fun k dk hk => ?_)) (fun v w' hv => ?_)
      · obtain ⟨ok, hok, hdk, hlk⟩ := edge_at h ha hk
        exact h.slots k ok dk hok hdk hlk
      · refine ih _ _ _ (h.step hn hb ho hin hd' ha hv.1 hv.2) ?_
        have := unl_set h0
        omega
theorem wp_region_all {id : Nat} (N : Nat) (H : Nat → Gp) (ds : List Nat) (hN : ops.size = N) (hds : dstsN ops N = ds) (hm : P.follows .mixedOrders = true) (hac : acyc ops = true) (hon : onceG ops N a0.tmps.size = true)
    (arms : AllFrom (ArmO P H ops ds a0 w0) 0 ops.toList)
    (he : ∀ (u : Nat → Value) w, (∀ j d, j < N → ops[j]?.bind (·.dst) = some d → (H j).p w (u d)) → Below w0.heap.size w0 w → Q .normal (putAll u ds a0) w) : (Code.region id ops true).wp P Q a0 w0 := by
  subst hN
  subst hds
  unfold onceG at hon
  rw [Bool.and_eq_true, Bool.and_eq_true, decide_eq_true_eq] at hon
  obtain ⟨⟨hon1, hon2⟩, hon3⟩ := hon
  have hb : ∀ d ∈ dstsN ops ops.size, d < a0.tmps.size := fun d hd => by simpa using List.all_eq_true.1 hon1 d hd
  have hdd : ∀ (j : Nat) (o : Oper), ops[j]? = some o → ∃ d, o.dst = some d := fun j o hj => by
    have := List.all_eq_true.1 hon3 j (List.mem_range.2 (Array.getElem?_eq_some_iff.1 hj).1)
    rw [hj] at this
    exact Option.isSome_iff_exists.1 this
  have hl : ∀ j, (Array.replicate ops.size false).getD j false = false := fun j => by
    rw [Array.getD_eq_getD_getElem?, Array.getElem?_replicate]
    split <;> rfl
  refine wp_region_any hm (wpAny_all (H := H) (w0 := w0) hac hon2 hb hdd (fun j o hj => ?_) (fun a w h => ?_) ops.size _ a0 _ ⟨rfl, rfl, fun _ _ => rfl, by simp, fun j o d hj hd h => ?_, fun j o hj h => ?_, (Below.refl _ w0).drew, fun j _ => hl j⟩ ?_)
  · have := AllFrom.get arms j o (by rw [Array.getElem?_toList]; exact hj)
    rwa [Nat.zero_add] at this
  · have e := act_putAll h.size h.defers h.keep
    rw [e]
    refine he _ w (fun j d hj hjd => ?_) h.bel
    obtain ⟨o, ho, hod⟩ := Option.bind_eq_some_iff.1 hjd
    refine h.slots j o d ho hod ?_
    unfold listedN
    rw [Array.getD_eq_getD_getElem?, List.getElem?_toArray, List.getElem?_append_left (by simpa using hj), List.getElem?_replicate, if_pos hj]
    rfl
  · rw [hl] at h; cases h
  · rw [hl] at h; cases h
  · unfold unl
    rw [Array.toList_replicate, List.count_replicate]
    simp
end
section
variable {P : Program} {a : Act} {w : World} {ty : TypeId} {R : Value → World → Prop}
theorem run_notV {ρ : Operand → Value} {x : Operand} {t : TypeId} {b : Bool} (h : ρ x = .bool b) : (execOp ρ (sop (.unOp .not t x) ty)).run P w = .ok (.value (.bool !b)) w := by
  unfold execOp sop
  simp only [h]
  go_simp
end
end Go.Proofs.Ytfkjahpcpmcefaa
namespace Go.Proofs.Ytfkjahpcpmcefaa.Co
open Go Go.RowKit
open Qu (Cf)
set_option maxRecDepth 100000
set_option linter.unusedVariables false
attribute [local go_sem ↓] Im.loadAt_conf3 Im.storeAt_conf3 loadAt_mem storeAt_mem
def lstP (L : List Int) : Gp := ⟨fun w v => ∃ (A : Option Addr) (q k : Nat), v = .slice A q k ∧ q = L.length ∧ IsInts w w.heap.size A L, fun w w' v ⟨A, q, k, h0, h1, h2⟩ hb => ⟨A, q, k, h0, h1, (h2.below hb).more hb.size⟩⟩
end Go.Proofs.Ytfkjahpcpmcefaa.Co
namespace Go.Proofs.Ytfkjahpcpmcefaa.Co
open Go Go.RowKit
open Qu (Cf)
set_option maxRecDepth 100000
set_option linter.unusedVariables false
attribute [local go_sem ↓] Im.loadAt_conf3 Im.storeAt_conf3 loadAt_mem storeAt_mem
def lenP (n : Nat) : Gp := ⟨fun _ v => ∃ q : Nat, v = .int .i64 q ∧ q = n, fun _ _ _ h _ => h⟩
end Go.Proofs.Ytfkjahpcpmcefaa.Co
namespace Go.Proofs.Ytfkjahpcpmcefaa.Co
open Go Go.RowKit
open Qu (Cf)
set_option maxRecDepth 100000
set_option linter.unusedVariables false
attribute [local go_sem ↓] Im.loadAt_conf3 Im.storeAt_conf3 loadAt_mem storeAt_mem
section
variable {ρ : Operand → Value} {ty : TypeId} {w : World} {x y : Operand}
theorem run_gt0 {n : Nat} (h : ρ x = .int .i64 (n : Nat)) (h2 : ρ (.const (.int .i64 0)) = .int .i64 0) (hn : n = 0) : (execOp ρ (sop (.binOp .gtr 3 x (.const (.int .i64 0)) 3) ty)).run Try.prog w = .ok (.value (.bool false)) w := by
  subst hn; exact run_bin h h2 (by go_simp)
theorem run_neF {n m : Int} (h : ρ x = .int .i64 n) (h2 : ρ y = .int .i64 m) (hnm : n = m) : (execOp ρ (sop (.binOp .neq 3 x y 3) ty)).run Try.prog w = .ok (.value (.bool false)) w := by
  subst hnm; exact run_bin h h2 (by go_simp)
theorem run_add1 {n : Nat} (h : ρ x = .int .i64 (n : Nat)) (h2 : ρ (.const (.int .i64 1)) = .int .i64 1) (hn : n ≤ 1000) : (execOp ρ (sop (.binOp .add 3 x (.const (.int .i64 1)) 3) ty)).run Try.prog w = .ok (.value (.int .i64 ((n + 1 : Nat) : Nat))) w :=
  run_bin h h2 (by
    have e : IntKind.i64.wrap ((n : Int) + 1) = ((n + 1 : Nat) : Int) := by rw [IntKind.wrap_i64]; omega
    rw [← e]
    go_simp)
theorem run_sub1 {n : Nat} (h : ρ x = .int .i64 (n : Nat)) (h2 : ρ (.const (.int .i64 1)) = .int .i64 1) (hn : 1 ≤ n ∧ n ≤ 1000) : (execOp ρ (sop (.binOp .sub 3 x (.const (.int .i64 1)) 3) ty)).run Try.prog w = .ok (.value (.int .i64 ((n - 1 : Nat) : Nat))) w :=
  run_bin h h2 (by
    have e : IntKind.i64.wrap ((n : Int) - 1) = ((n - 1 : Nat) : Int) := by rw [IntKind.wrap_i64]; omega
    rw [← e]
    go_simp)
end
def H9 (b10 b2 : Nat) (md m : M3) (n : Int) (U : List Int) (c : Cf) : Nat → Gp
  | 0 => Gp.is (.bool true)
  | 1 => Gp.is (.bool false)
  | 2 => Gp.is (.bool false)
  | 3 => Gp.is (.bool true)
  | 4 => Gp.is (.bool false)
  | 5 => Gp.is (.bool false)
  | 6 => Gp.is (.bool false)
  | 7 => Gp.is (.bool false)
  | 8 => Gp.is (.bool false)
  | 9 => Gp.is (.bool false)
  | 10 => Gp.is (.pointer (some ⟨b10, 1, none⟩))
  | 11 => Gp.is (.slice md.a1 md.n1 md.k1)
  | 12 => Gp.is (.int .i64 (md.n1 : Nat))
  | 13 => Gp.is (.bool false)
  | 14 => Gp.is (.bool false)
  | 15 => Gp.is (.bool false)
  | 16 => Gp.is (.pointer (some ⟨b10, 2, none⟩))
  | 17 => Gp.is (.slice md.a2 md.n2 md.k2)
  | 18 => Gp.is (.int .i64 (md.n2 : Nat))
  | 19 => Gp.is (.bool false)
  | 20 => Gp.is (.bool false)
  | 21 => Gp.is (.bool false)
  | 22 => Gp.is (.pointer (some ⟨b10, 0, none⟩))
  | 23 => Gp.is (.slice md.a0 md.n0 md.k0)
  | 24 => Gp.is (.int .i64 (md.n0 : Nat))
  | 25 => Gp.is (.pointer (some ⟨b2, 0, none⟩))
  | 26 => Gp.is (.slice m.a0 m.n0 m.k0)
  | 27 => Gp.is (.int .i64 (m.n0 : Nat))
  | 28 => Gp.is (.int .i64 ((m.n0 + 1 : Nat) : Nat))
  | 29 => Gp.is (.bool false)
  | 30 => Gp.is (.bool false)
  | 31 => Gp.is (.bool false)
  | 32 => Gp.is (.pointer (some ⟨b10, 0, none⟩))
  | 33 => Gp.is (.slice md.a0 md.n0 md.k0)
  | 34 => Gp.is (.int .i64 n)
  | 35 => Gp.row 0 1 #[.int .i64 n] 3
  | 36 => lstP (both U [n])
  | 37 => lenP (both U [n]).length
  | 38 => Gp.is (.bool false)
  | 39 => Gp.is (.bool false)
  | 40 => Gp.is (.bool false)
  | 41 => Gp.is (.pointer (some ⟨b10, 0, none⟩))
  | 42 => Gp.is (.slice md.a0 md.n0 md.k0)
  | 43 => Gp.is (.pointer (some ⟨b2, 0, none⟩))
  | 44 => Gp.is (.slice m.a0 m.n0 m.k0)
  | 45 => lstP (both U c.old)
  | 46 => lenP (both U c.old).length
  | 47 => Gp.is (.pointer (some ⟨b2, 0, none⟩))
  | 48 => Gp.is (.slice m.a0 m.n0 m.k0)
  | 49 => Gp.is (.int .i64 (m.n0 : Nat))
  | 50 => Gp.is (.bool false)
  | 51 => Gp.is (.bool false)
  | _ => Gp.any
def H18 (b17 b2 : Nat) (md m : M3) (n : Int) (U : List Int) (c : Cf) : Nat → Gp
  | 0 => Gp.is (.bool true)
  | 1 => Gp.is (.bool false)
  | 2 => Gp.is (.bool false)
  | 3 => Gp.is (.pointer (some ⟨b17, 1, none⟩))
  | 4 => Gp.is (.slice md.a1 md.n1 md.k1)
  | 5 => Gp.is (.int .i64 (md.n1 : Nat))
  | 6 => Gp.is (.bool false)
  | 7 => Gp.is (.bool false)
  | 8 => Gp.is (.bool false)
  | 9 => Gp.is (.pointer (some ⟨b17, 2, none⟩))
  | 10 => Gp.is (.slice md.a2 md.n2 md.k2)
  | 11 => Gp.is (.int .i64 (md.n2 : Nat))
  | 12 => Gp.is (.bool false)
  | 13 => Gp.is (.bool false)
  | 14 => Gp.is (.bool false)
  | 15 => Gp.is (.pointer (some ⟨b17, 0, none⟩))
  | 16 => Gp.is (.slice md.a0 md.n0 md.k0)
  | 17 => Gp.is (.int .i64 (md.n0 : Nat))
  | 18 => Gp.is (.pointer (some ⟨b2, 0, none⟩))
  | 19 => Gp.is (.slice m.a0 m.n0 m.k0)
  | 20 => Gp.is (.int .i64 (m.n0 : Nat))
  | 21 => Gp.is (.int .i64 ((m.n0 - 1 : Nat) : Nat))
  | 22 => Gp.is (.bool false)
  | 23 => Gp.is (.bool false)
  | 24 => Gp.is (.bool false)
  | 25 => Gp.is (.pointer (some ⟨b17, 0, none⟩))
  | 26 => Gp.is (.slice md.a0 md.n0 md.k0)
  | 27 => Gp.is (.int .i64 n)
  | 28 => Gp.row 0 1 #[.int .i64 n] 3
  | 29 => lstP (both U [n])
  | 30 => lenP (both U [n]).length
  | 31 => Gp.is (.bool false)
  | 32 => Gp.is (.bool false)
  | 33 => Gp.is (.bool false)
  | 34 => Gp.is (.pointer (some ⟨b17, 0, none⟩))
  | 35 => Gp.is (.slice md.a0 md.n0 md.k0)
  | 36 => Gp.is (.pointer (some ⟨b2, 0, none⟩))
  | 37 => Gp.is (.slice m.a0 m.n0 m.k0)
  | 38 => lstP (both U c.old)
  | 39 => lenP (both U c.old).length
  | 40 => Gp.is (.pointer (some ⟨b17, 0, none⟩))
  | 41 => Gp.is (.slice md.a0 md.n0 md.k0)
  | 42 => Gp.is (.int .i64 (md.n0 : Nat))
  | 43 => Gp.is (.bool false)
  | 44 => Gp.is (.bool false)
  | _ => Gp.any
end Go.Proofs.Ytfkjahpcpmcefaa.Co
namespace Go.Proofs.Ytfkjahpcpmcefaa.Co
open Go Go.RowKit
open Qu (Cf)
set_option maxRecDepth 100000
set_option linter.unusedVariables false
attribute [local go_sem ↓] Im.loadAt_conf3 Im.storeAt_conf3 loadAt_mem storeAt_mem
def all7 : List Int := [1, 2, 3, 4, 5, 6, 7]
theorem all7_has {n : Int} (h : 1 ≤ n ∧ n ≤ 7) : n ∈ all7 := by
  obtain ⟨h1, h2⟩ := h
  simp [all7]
  omega
theorem row_one {W : World} {b : Nat} {n : Int} {t : TypeId} (h : W.heap[b]? = some (.cells #[.int .i64 n] t (0, 0))) (hn : InInt n) : IsInts W W.heap.size (some ⟨b, 0, none⟩) [n] := by
  refine ⟨fun z hz => by simp at hz; subst hz; exact hn, fun k hk => ⟨b, 0, rfl, (Array.getElem?_eq_some_iff.1 h).1, fun i hi => ?_⟩⟩
  have hi1 : i < 1 := hi
  obtain rfl : i = 0 := by omega
  exact cell_of_row W b 0 _ _ _ h
theorem add_not_drop {c : Cf} {n : Int} (h : (add c n).2 = 0) : (drop c n).2 ≠ 0 := fun hd => (add_yes h).2.2.2.2.2 (drop_yes hd).2.2.2.2.2.1
set_option maxHeartbeats 12800000 in
theorem comes_any (B : Nat) (c : Cf) (m : M3) (n : Int) (hn : InInt n) (w : World) (h : InC w B c m) (hB : B ≤ w.heap.size) :
    Calls Try.prog 5 #[.agg #[.slice m.a0 m.n0 m.k0, .slice m.a1 m.n1 m.k1, .slice m.a2 m.n2 m.k2], .int .i64 n] w fun e w' => e = .returned (.bool true) ∧ Below w.heap.size w w' := by
  obtain ⟨w1, hw1⟩ : ∃ w1, w1 = w.alloc (.cells #[.slice m.a0 m.n0 m.k0, .slice m.a1 m.n1 m.k1, .slice m.a2 m.n2 m.k2] 24) := ⟨_, rfl⟩
  have hb1 : Below w.heap.size w w1 := by rw [hw1]; exact below_new w _
  have hx1 : Bx w1 w.heap.size 24 m := by rw [hw1]; exact Bx.new _ _ _
  have hld := (Bx.new w 24 m).ld
  have HKM : Hid (∀ W, Below w.heap.size w W → InC W B c m ∧ B ≤ W.heap.size) := hid (fun W hq => ⟨h.below (hq.mono hB), by have := hq.size; omega⟩)
  have HK1 : Hid (∀ W, Below w1.heap.size w1 W → Bx W w.heap.size 24 m ∧ InC W B c m ∧ Below w.heap.size w W ∧ B ≤ W.heap.size) := hid (fun W hq => by
    have hl := hb1.trans (hq.mono hb1.size)
    exact ⟨hx1.below hq hx1.lt, (HKM.out W hl).1, hl, (HKM.out W hl).2⟩)
  have HL : Hid (m.n0 = c.old.length ∧ m.n1 = c.new.length ∧ m.n2 = c.lrn.length) := hid ⟨h.e0, h.e1, h.e2⟩
  clear h hb1 hx1 hB
  obtain ⟨bg, hbg⟩ : ∃ bg, bg = bigM m := ⟨_, rfl⟩
  have HG := hid (bigM_any m w1)
  rw [← hbg] at HG
  have HBG := hid hbg
  clear hbg
  cases bg
  case true =>
    go_enter Try.func5, Try.ntmps5
    go_wp2_with fail
    rw [← hw1]
    clear hw1 hld
    refine HG.out.mono ?_
    rintro e w2 ⟨rfl, hb2⟩
    have HLL := hid (HK1.out w2 hb2).2.2.1
    clear hb2
    go_wp2_with fail
    refine (works_any w2).mono ?_
    rintro e w3 ⟨rfl, hb3⟩
    have HB3 := hid (HLL.out.trans (hb3.mono HLL.out.size))
    clear hb3
    go_wp2_with fail
    go_ret
    exact ⟨rfl, HB3.out⟩
  have hbn := bigM_no HBG.out.symm
  have hn0 := hbn.1
  have hsh : Short c := ⟨by have := HL.out.1; omega, by have := HL.out.2.1; omega, by have := HL.out.2.2; omega⟩
  have HS := hid hsh
  have HA := hid (fun W hq => add_any B c hsh m n hn W (HK1.out W hq).2.1 (HK1.out W hq).2.2.2)
  have HD := hid (fun W (hi : InC W B c m) (hq : B ≤ W.heap.size) => drop_any B c hsh m n hn W hi hq)
  clear hbn hsh
  by_cases hA : (add c n).2 = 0
  · have HCM := hid (comes hA)
    obtain ⟨y1, y2, y3, y4, y5, y6⟩ := add_yes hA
    have HNN := hid y3
    have hD := add_not_drop hA
    rw [hA, y1] at HA
    obtain ⟨xa, hxa⟩ : ∃ xa : Cf, xa = ⟨c.old, [], [n]⟩ := ⟨_, rfl⟩
    obtain ⟨U, hU⟩ : ∃ U, U = Qu.uni (c.old ++ [n]) := ⟨_, rfl⟩
    rw [← hU] at HCM
    have hlU : U.length ≤ 301 := by have := HCM.out.len; have := HL.out.1; omega
    have HSA : Hid (Short xa) := hid (by rw [hxa]; exact ⟨HS.out.1, by simp, by simp⟩)
    have HSB : Hid (Short ⟨c.old, U, []⟩) := hid ⟨HS.out.1, by show U.length ≤ 20000; omega, by simp⟩
    have HSD : Hid (Short ⟨U, [], []⟩) := hid ⟨by show U.length ≤ 20000; omega, by simp, by simp⟩
    have HSE : Hid (Short ⟨U, c.old, []⟩) := hid ⟨by show U.length ≤ 20000; omega, HS.out.1, by simp⟩
    have hCb : ∀ far, n ∈ far → next xa far = (⟨c.old, U, []⟩, true) := by rw [hxa]; exact HCM.out.b
    have HCB := hid hCb
    rw [← hxa] at HA
    obtain ⟨rd, hrd⟩ : ∃ rd, rd = drop c n := ⟨_, rfl⟩
    rw [← hrd] at HD hD
    have hz : (rd.2 == 0) = false := by rw [beq_eq_false_iff_ne]; exact hD
    clear hA y1 y2 y3 y4 y5 y6 hD hxa hU hlU hCb hrd
    go_enter Try.func5, Try.ntmps5
    go_wp2_with fail
    rw [← hw1]
    clear hw1 hld
    refine HG.out.mono ?_
    rintro e w2 ⟨rfl, hb2⟩
    obtain ⟨w3, hw3⟩ : ∃ w3, w3 = w2.alloc (.cells #[.int .i64 1, .int .i64 2, .int .i64 3, .int .i64 4, .int .i64 5, .int .i64 6, .int .i64 7] 3) := ⟨_, rfl⟩
    have hb3 : Below w2.heap.size w2 w3 := by rw [hw3]; exact below_new _ _
    have hal : IsInts w3 (w2.heap.size + 1) (some ⟨w2.heap.size, 0, none⟩) all7 := by rw [hw3]; exact lit_in w2 all7 (by decide) (by decide)
    have hs3 : w3.heap.size = w2.heap.size + 1 := by rw [hw3]; simp
    have hb13 := hb2.trans (hb3.mono hb2.size)
    have hld3 := (HK1.out w3 hb13).1.ld
    rw [hw3] at hld3
    have HADD := hid (HA.out w3 hb13)
    have HW3 := hid hw3
    have HL3 := hid (And.intro hal (And.intro hs3 hb13))
    clear hb2 hb3 hw3 hal hs3 hb13 HG HA
    go_wp2_with fail
    rw [← HW3.out]
    refine HADD.out.mono ?_
    rintro e w4 ⟨ma, rfl, hoa, hb4⟩
    obtain ⟨v4, hv4⟩ : ∃ v4, v4 = w4.alloc (.cells #[.slice ma.a0 ma.n0 ma.k0, .slice ma.a1 ma.n1 ma.k1, .slice ma.a2 ma.n2 ma.k2] 24) := ⟨_, rfl⟩
    have hst4 := (box_new hv4).2.2.2
    have HK4 : Hid (∀ W, Below v4.heap.size v4 W → Bx W w4.heap.size 24 ma ∧ InC W w4.heap.size xa ma ∧ w4.heap.size + 1 ≤ W.heap.size ∧ Bx W w.heap.size 24 m ∧ InC W B c m ∧ IsInts W (w2.heap.size + 1) (some ⟨w2.heap.size, 0, none⟩) all7 ∧ Below w.heap.size w W ∧ B ≤ W.heap.size ∧ w2.heap.size + 1 ≤ W.heap.size) := hid (fun W hb => by
      have q := box_keep hoa hv4 W hb
      have q3 := hb4.trans (q.2.2.1.mono hb4.size)
      have q1 := HK1.out W (HL3.out.2.2.trans (q3.mono HL3.out.2.2.size))
      exact ⟨q.1, q.2.1.inC, q.2.2.2, q1.1, q1.2.1, HL3.out.1.below (q3.mono (by have := HL3.out.2.1; omega)), q1.2.2.1, q1.2.2.2, by have := HL3.out.2.1; have := q3.size; omega⟩)
    have HLO4 : Hid (w.heap.size < w4.heap.size ∧ w4.heap.size < v4.heap.size) := hid ⟨by have := (HK1.out w3 HL3.out.2.2).1.lt; have := hb4.size; omega, (HK4.out v4 (Below.refl _ _)).1.lt⟩
    clear hoa hb4 hv4 hld3 HADD
    have hq5 := HK4.out v4 (Below.refl _ _)
    have hl5 := hq5.1.ld
    have hn5 := next_any w4.heap.size (w2.heap.size + 1) xa HSA.out ma (some ⟨w2.heap.size, 0, none⟩) 7 7 all7 rfl (by decide) v4 hq5.2.1 hq5.2.2.2.2.2.1 (by have := hq5.2.2.1; omega) hq5.2.2.2.2.2.2.2.2
    rw [HCB.out all7 (all7_has HNN.out)] at hn5
    have HN5 := hid hn5
    clear hq5 hn5
    go_wp2_with fail
    refine HN5.out.mono ?_
    rintro e w5 ⟨m5, rfl, ho5, hb5⟩
    obtain ⟨v5, hv5⟩ : ∃ v5, v5 = w5.alloc (.cells #[.slice m5.a0 m5.n0 m5.k0, .slice m5.a1 m5.n1 m5.k1, .slice m5.a2 m5.n2 m5.k2] 24) := ⟨_, rfl⟩
    have hst5 := (box_new hv5).2.2.2
    have HK5 : Hid (∀ W, Below v5.heap.size v5 W → Bx W w5.heap.size 24 m5 ∧ InC W w5.heap.size ⟨c.old, U, []⟩ m5 ∧ w5.heap.size + 1 ≤ W.heap.size ∧ Below v4.heap.size v4 W) := hid (fun W hb => by
      have q := box_keep ho5 hv5 W hb
      exact ⟨q.1, q.2.1.inC, q.2.2.2, hb5.trans (q.2.2.1.mono hb5.size)⟩)
    clear ho5 hb5 hv5 hl5 HN5
    have hq6 := HK5.out v5 (Below.refl _ _)
    have hl6 := hq6.1.ld
    have hn6 := next_any w5.heap.size 0 ⟨c.old, U, []⟩ HSB.out m5 none 0 0 [] rfl (by decide) v5 hq6.2.1 IsInts.nil (by have := hq6.2.2.1; omega) (Nat.zero_le _)
    rw [HCM.out.d []] at hn6
    have HN6 := hid hn6
    clear hq6 hn6
    go_wp2_with fail
    refine HN6.out.mono ?_
    rintro e w6 ⟨m6, rfl, ho6, hb6⟩
    obtain ⟨v6, hv6⟩ : ∃ v6, v6 = w6.alloc (.cells #[.slice m6.a0 m6.n0 m6.k0, .slice m6.a1 m6.n1 m6.k1, .slice m6.a2 m6.n2 m6.k2] 24) := ⟨_, rfl⟩
    have hst6 := (box_new hv6).2.2.2
    have HK6 : Hid (∀ W, Below v6.heap.size v6 W → Bx W w6.heap.size 24 m6 ∧ InC W w6.heap.size ⟨U, [], []⟩ m6 ∧ w6.heap.size + 1 ≤ W.heap.size ∧ Below v5.heap.size v5 W) := hid (fun W hb => by
      have q := box_keep ho6 hv6 W hb
      exact ⟨q.1, q.2.1.inC, q.2.2.2, hb6.trans (q.2.2.1.mono hb6.size)⟩)
    clear ho6 hb6 hv6 hl6 HN6
    have hq7 := HK6.out v6 (Below.refl _ _)
    have hl7 := hq7.1.ld
    have hn7 := next_any w6.heap.size (w2.heap.size + 1) ⟨U, [], []⟩ HSD.out m6 (some ⟨w2.heap.size, 0, none⟩) 7 7 all7 rfl (by decide) v6 hq7.2.1 (HK4.out v6 (HK5.out v6 (HK6.out v6 (Below.refl _ _)).2.2.2).2.2.2).2.2.2.2.2.1 (by have := hq7.2.2.1; omega) (HK4.out v6 (HK5.out v6 (HK6.out v6 (Below.refl _ _)).2.2.2).2.2.2).2.2.2.2.2.2.2.2
    rw [HCM.out.no all7] at hn7
    have HN7 := hid hn7
    clear hq7 hn7
    go_wp2_with fail
    refine HN7.out.mono ?_
    rintro e w7 ⟨m7, rfl, ho7, hb7⟩
    obtain ⟨v7, hv7⟩ : ∃ v7, v7 = w7.alloc (.cells #[.slice m7.a0 m7.n0 m7.k0, .slice m7.a1 m7.n1 m7.k1, .slice m7.a2 m7.n2 m7.k2] 24) := ⟨_, rfl⟩
    have hst7 := (box_new hv7).2.2.2
    have HK7 : Hid (∀ W, Below v7.heap.size v7 W → Bx W w7.heap.size 24 m7 ∧ InC W w7.heap.size ⟨U, [], []⟩ m7 ∧ w7.heap.size + 1 ≤ W.heap.size ∧ Below v6.heap.size v6 W) := hid (fun W hb => by
      have q := box_keep ho7 hv7 W hb
      exact ⟨q.1, q.2.1.inC, q.2.2.2, hb7.trans (q.2.2.1.mono hb7.size)⟩)
    clear ho7 hb7 hv7 hl7 HN7
    have HV : Hid (∀ W, Below v7.heap.size v7 W → Below v6.heap.size v6 W ∧ Below v4.heap.size v4 W) := hid (fun W hb => by
      have q := (HK7.out W hb).2.2.2
      exact ⟨q, (HK5.out W (HK6.out W q).2.2.2).2.2.2⟩)
    have hq9 := (HK6.out v7 (HV.out v7 (Below.refl _ _)).1).2.1
    have e0 : m6.n0 = U.length := hq9.e0
    have e1 : m6.n1 = 0 := hq9.e1
    have e2 : m6.n2 = 0 := hq9.e2
    have HQ : Hid (m6.n1 = 0 ∧ m6.n2 = 0 ∧ m.n0 ≤ 1000 ∧ ((m6.n0 : Nat) : Int) = ((m.n0 + 1 : Nat) : Int) ∧ (∀ z : Nat, z = (both U [n]).length → (z : Int) = 1) ∧ (∀ z : Nat, z = (both U c.old).length → (z : Int) = ((m.n0 : Nat) : Int))) := hid ⟨e1, e2, by omega, by have := HCM.out.len; have := HL.out.1; omega, fun z hz => by rw [hz, HCM.out.one]; rfl, fun z hz => by rw [hz, HCM.out.all, HL.out.1]⟩
    have HF0 : Hid (m6.n0 ≤ 1000) := hid (by have := HCM.out.len; have := HL.out.1; omega)
    have FX : Hid (∀ W, Below v7.heap.size v7 W → Bx W w6.heap.size 24 m6 ∧ Bx W w.heap.size 24 m) := hid (fun W hb => ⟨(HK6.out W (HV.out W hb).1).1, (HK4.out W (HV.out W hb).2).2.2.2.1⟩)
    have CB1 : Hid (∀ W, Below v7.heap.size v7 W → ∀ b3, W.heap[b3]? = some (.cells #[.int .i64 n] 3 (0, 0)) → Calls Try.prog 22 #[.slice m6.a0 m6.n0 m6.k0, .slice (some ⟨b3, 0, none⟩) 1 1] W fun e w' => ∃ A2 c2 q, e = .returned (.slice A2 q c2) ∧ q = (both U [n]).length ∧ OwnsI 3 w' W.heap.size A2 c2 (both U [n]) ∧ Below W.heap.size W w') := hid (fun W hb b3 h3 => by
      obtain ⟨i1, i2⟩ := (show InC W w6.heap.size ⟨U, [], []⟩ m6 ∧ w6.heap.size ≤ W.heap.size from ⟨(HK6.out W (HV.out W hb).1).2.1, by have := (HK6.out W (HV.out W hb).1).2.2.1; omega⟩)
      exact bothL_any _ W.heap.size m6.a0 (some ⟨b3, 0, none⟩) m6.k0 1 m6.n0 1 U [n] i1.e0 rfl (by have := HF0.out; omega) (by have := HF0.out; omega) (by omega) W i1.o (row_one h3 hn) i2 (Nat.le_refl _))
    have CB2 : Hid (∀ W, Below v7.heap.size v7 W → Calls Try.prog 22 #[.slice m6.a0 m6.n0 m6.k0, .slice m.a0 m.n0 m.k0] W fun e w' => ∃ A2 c2 q, e = .returned (.slice A2 q c2) ∧ q = (both U c.old).length ∧ OwnsI 3 w' W.heap.size A2 c2 (both U c.old) ∧ Below W.heap.size W w') := hid (fun W hb => by
      obtain ⟨i1, i2⟩ := (show InC W w6.heap.size ⟨U, [], []⟩ m6 ∧ w6.heap.size ≤ W.heap.size from ⟨(HK6.out W (HV.out W hb).1).2.1, by have := (HK6.out W (HV.out W hb).1).2.2.1; omega⟩)
      obtain ⟨j1, j2⟩ := HKM.out W (HK4.out W (HV.out W hb).2).2.2.2.2.2.2.1
      exact bothL_any _ B m6.a0 m.a0 m6.k0 m.k0 m6.n0 m.n0 U c.old i1.e0 HL.out.1 (by have := Nat.mul_le_mul (show m6.n0 ≤ 1000 by have := HF0.out; omega) (show m.n0 ≤ 300 from hn0); omega) (by have := HF0.out; omega) (by omega) W i1.o j1.o i2 j2)
    clear hq9 e0 e1 e2 hst4 hst5 hst6
    go_wp2_with fail
    go_cut [99] from 48 to 99 (fun s W => s = .bool false ∧ Hid (Below v7.heap.size v7 W))
    case first =>
      rename_i J9 K9 h1 h2
      refine wp_region_all (w0 := v7) 52 (H9 w6.heap.size w.heap.size m6 m n U c) [48, 49, 50, 51, 52, 53, 54, 55, 56, 57, 58, 59, 60, 61, 62, 63, 64, 65, 66, 67, 68, 69, 70, 71, 72, 73, 74, 75, 76, 77, 78, 79, 80, 81, 82, 83, 84, 85, 86, 87, 88, 89, 90, 91, 92, 93, 94, 95, 96, 97, 98, 99] (by kernel_rfl) (by kernel_rfl) rfl (by kernel_rfl) (by kernel_rfl) ?arms ?he
      case arms =>
        obtain ⟨i0, hi0, hz0, hz1, hz2⟩ := info_parts I.info_int
        exact ⟨
          ⟨.inl rfl, fun q W hb hkp hw => goes_move (hkp 9 (by decide)) rfl⟩,
          ⟨.inl rfl, fun q W hb hkp hw => goes_val (run_notV (hw 0 48 (by kernel_rfl))) rfl⟩,
          ⟨.inl rfl, fun q W hb hkp hw => goes_move rfl (hw 1 49 (by kernel_rfl))⟩,
          ⟨.inr ⟨2, 50, false, rfl, by kernel_rfl, fun _ _ h => h⟩, fun q W hb hkp hw => goes_move (hkp 11 (by decide)) rfl⟩,
          ⟨.inr ⟨2, 50, false, rfl, by kernel_rfl, fun _ _ h => h⟩, fun q W hb hkp hw => goes_val (run_notV (hw 3 51 (by kernel_rfl))) rfl⟩,
          ⟨.inl rfl, fun q W hb hkp hw => goes_val (run_pick (hw 2 50 (by kernel_rfl)) (show _ = .bool false from hw 4 52 (by kernel_rfl))) rfl⟩,
          ⟨.inl rfl, fun q W hb hkp hw => goes_move rfl (hw 5 53 (by kernel_rfl))⟩,
          ⟨.inr ⟨6, 54, false, rfl, by kernel_rfl, fun _ _ h => h⟩, fun q W hb hkp hw => goes_move (hkp 13 (by decide)) rfl⟩,
          ⟨.inl rfl, fun q W hb hkp hw => goes_val (run_pick (hw 6 54 (by kernel_rfl)) (show _ = .bool false from hw 7 55 (by kernel_rfl))) rfl⟩,
          ⟨.inl rfl, fun q W hb hkp hw => goes_move rfl (hw 8 56 (by kernel_rfl))⟩,
          ⟨.inr ⟨9, 57, false, rfl, by kernel_rfl, fun _ _ h => h⟩, fun q W hb hkp hw => goes_fad (hkp 10 (by decide)) (show (Instr.fieldAt _ _ _).run _ W = .ok (.pointer (some ⟨w6.heap.size, 1, none⟩)) W by clear hkp hw hb; go_simp) rfl⟩,
          ⟨.inr ⟨9, 57, false, rfl, by kernel_rfl, fun _ _ h => h⟩, fun q W hb hkp hw => goes_load (v1 := .pointer (some ⟨w6.heap.size, 1, none⟩)) (hw 10 58 (by kernel_rfl)) (show (Instr.loadAt _ _).run _ W = .ok (.slice m6.a1 m6.n1 m6.k1) W by have hc := ((FX.out W hb).1).c1; clear hkp hw hb; go_simp) rfl⟩,
          ⟨.inr ⟨9, 57, false, rfl, by kernel_rfl, fun _ _ h => h⟩, fun q W hb hkp hw => goes_val (run_lenI (hw 11 59 (by kernel_rfl))) rfl⟩,
          ⟨.inr ⟨9, 57, false, rfl, by kernel_rfl, fun _ _ h => h⟩, fun q W hb hkp hw => goes_val (run_gt0 (hw 12 60 (by kernel_rfl)) rfl HQ.out.1) rfl⟩,
          ⟨.inl rfl, fun q W hb hkp hw => goes_val (run_pick (hw 9 57 (by kernel_rfl)) (show _ = .bool false from hw 13 61 (by kernel_rfl))) rfl⟩,
          ⟨.inl rfl, fun q W hb hkp hw => goes_move rfl (hw 14 62 (by kernel_rfl))⟩,
          ⟨.inr ⟨15, 63, false, rfl, by kernel_rfl, fun _ _ h => h⟩, fun q W hb hkp hw => goes_fad (hkp 10 (by decide)) (show (Instr.fieldAt _ _ _).run _ W = .ok (.pointer (some ⟨w6.heap.size, 2, none⟩)) W by clear hkp hw hb; go_simp) rfl⟩,
          ⟨.inr ⟨15, 63, false, rfl, by kernel_rfl, fun _ _ h => h⟩, fun q W hb hkp hw => goes_load (v1 := .pointer (some ⟨w6.heap.size, 2, none⟩)) (hw 16 64 (by kernel_rfl)) (show (Instr.loadAt _ _).run _ W = .ok (.slice m6.a2 m6.n2 m6.k2) W by have hc := ((FX.out W hb).1).c2; clear hkp hw hb; go_simp) rfl⟩,
          ⟨.inr ⟨15, 63, false, rfl, by kernel_rfl, fun _ _ h => h⟩, fun q W hb hkp hw => goes_val (run_lenI (hw 17 65 (by kernel_rfl))) rfl⟩,
          ⟨.inr ⟨15, 63, false, rfl, by kernel_rfl, fun _ _ h => h⟩, fun q W hb hkp hw => goes_val (run_gt0 (hw 18 66 (by kernel_rfl)) rfl HQ.out.2.1) rfl⟩,
          ⟨.inl rfl, fun q W hb hkp hw => goes_val (run_pick (hw 15 63 (by kernel_rfl)) (show _ = .bool false from hw 19 67 (by kernel_rfl))) rfl⟩,
          ⟨.inl rfl, fun q W hb hkp hw => goes_move rfl (hw 20 68 (by kernel_rfl))⟩,
          ⟨.inr ⟨21, 69, false, rfl, by kernel_rfl, fun _ _ h => h⟩, fun q W hb hkp hw => goes_fad (hkp 10 (by decide)) (show (Instr.fieldAt _ _ _).run _ W = .ok (.pointer (some ⟨w6.heap.size, 0, none⟩)) W by clear hkp hw hb; go_simp) rfl⟩,
          ⟨.inr ⟨21, 69, false, rfl, by kernel_rfl, fun _ _ h => h⟩, fun q W hb hkp hw => goes_load (v1 := .pointer (some ⟨w6.heap.size, 0, none⟩)) (hw 22 70 (by kernel_rfl)) (show (Instr.loadAt _ _).run _ W = .ok (.slice m6.a0 m6.n0 m6.k0) W by have hc := ((FX.out W hb).1).c0; clear hkp hw hb; go_simp) rfl⟩,
          ⟨.inr ⟨21, 69, false, rfl, by kernel_rfl, fun _ _ h => h⟩, fun q W hb hkp hw => goes_val (run_lenI (hw 23 71 (by kernel_rfl))) rfl⟩,
          ⟨.inr ⟨21, 69, false, rfl, by kernel_rfl, fun _ _ h => h⟩, fun q W hb hkp hw => goes_fad (hkp 2 (by decide)) (show (Instr.fieldAt _ _ _).run _ W = .ok (.pointer (some ⟨w.heap.size, 0, none⟩)) W by clear hkp hw hb; go_simp) rfl⟩,
          ⟨.inr ⟨21, 69, false, rfl, by kernel_rfl, fun _ _ h => h⟩, fun q W hb hkp hw => goes_load (v1 := .pointer (some ⟨w.heap.size, 0, none⟩)) (hw 25 73 (by kernel_rfl)) (show (Instr.loadAt _ _).run _ W = .ok (.slice m.a0 m.n0 m.k0) W by have hc := ((FX.out W hb).2).c0; clear hkp hw hb; go_simp) rfl⟩,
          ⟨.inr ⟨21, 69, false, rfl, by kernel_rfl, fun _ _ h => h⟩, fun q W hb hkp hw => goes_val (run_lenI (hw 26 74 (by kernel_rfl))) rfl⟩,
          ⟨.inr ⟨21, 69, false, rfl, by kernel_rfl, fun _ _ h => h⟩, fun q W hb hkp hw => goes_val (run_add1 (hw 27 75 (by kernel_rfl)) rfl HQ.out.2.2.1) rfl⟩,
          ⟨.inr ⟨21, 69, false, rfl, by kernel_rfl, fun _ _ h => h⟩, fun q W hb hkp hw => goes_val (run_neF (hw 24 72 (by kernel_rfl)) (hw 28 76 (by kernel_rfl)) HQ.out.2.2.2.1) rfl⟩,
          ⟨.inl rfl, fun q W hb hkp hw => goes_val (run_pick (hw 21 69 (by kernel_rfl)) (show _ = .bool false from hw 29 77 (by kernel_rfl))) rfl⟩,
          ⟨.inl rfl, fun q W hb hkp hw => goes_move rfl (hw 30 78 (by kernel_rfl))⟩,
          ⟨.inr ⟨31, 79, false, rfl, by kernel_rfl, fun _ _ h => h⟩, fun q W hb hkp hw => goes_fad (hkp 10 (by decide)) (show (Instr.fieldAt _ _ _).run _ W = .ok (.pointer (some ⟨w6.heap.size, 0, none⟩)) W by clear hkp hw hb; go_simp) rfl⟩,
          ⟨.inr ⟨31, 79, false, rfl, by kernel_rfl, fun _ _ h => h⟩, fun q W hb hkp hw => goes_load (v1 := .pointer (some ⟨w6.heap.size, 0, none⟩)) (hw 32 80 (by kernel_rfl)) (show (Instr.loadAt _ _).run _ W = .ok (.slice m6.a0 m6.n0 m6.k0) W by have hc := ((FX.out W hb).1).c0; clear hkp hw hb; go_simp) rfl⟩,
          ⟨.inr ⟨31, 79, false, rfl, by kernel_rfl, fun _ _ h => h⟩, fun q W hb hkp hw => goes_move (hkp 1 (by decide)) rfl⟩,
          ⟨.inr ⟨31, 79, false, rfl, by kernel_rfl, fun _ _ h => h⟩, fun q W hb hkp hw => by (have e3 : q.eval (.tmp 82) = .int .i64 n := hw 34 82 (by kernel_rfl); exact goes_slice #[.int .i64 n] 1 hz1 Try.underlying22 hi0 hz0 (by decide) (by decide) [(0, .int .i64 n)] (by simp [e3]) (by kernel_rfl) ⟨W.heap.size, Nat.zero_le _, rfl, heap_alloc_new _ _⟩)⟩,
          ⟨.inr ⟨31, 79, false, rfl, by kernel_rfl, fun _ _ h => h⟩, fun q W hb hkp hw => by (obtain ⟨b3, _, e3, h3⟩ := hw 35 83 (by kernel_rfl); exact goes_call2 (hw 33 81 (by kernel_rfl)) e3 (by go_simp) ((CB1.out W hb b3 h3).mono (by rintro e w' ⟨A2, c2, z, rfl, hz, ho, hb'⟩; exact ⟨_, rfl, ⟨A2, z, c2, rfl, hz, ho.reads⟩, hb'⟩)))⟩,
          ⟨.inr ⟨31, 79, false, rfl, by kernel_rfl, fun _ _ h => h⟩, fun q W hb hkp hw => by (obtain ⟨A3, z3, c3, e3, hz3, hi3⟩ := hw 36 84 (by kernel_rfl); exact goes_val (run_lenI e3) ⟨z3, rfl, hz3⟩)⟩,
          ⟨.inr ⟨31, 79, false, rfl, by kernel_rfl, fun _ _ h => h⟩, fun q W hb hkp hw => by (obtain ⟨z3, e3, hz3⟩ := hw 37 85 (by kernel_rfl); exact goes_val (run_neF e3 (show _ = Value.int .i64 1 from rfl) (HQ.out.2.2.2.2.1 z3 hz3)) rfl)⟩,
          ⟨.inl rfl, fun q W hb hkp hw => goes_val (run_pick (hw 31 79 (by kernel_rfl)) (show _ = .bool false from hw 38 86 (by kernel_rfl))) rfl⟩,
          ⟨.inl rfl, fun q W hb hkp hw => goes_move rfl (hw 39 87 (by kernel_rfl))⟩,
          ⟨.inr ⟨40, 88, false, rfl, by kernel_rfl, fun _ _ h => h⟩, fun q W hb hkp hw => goes_fad (hkp 10 (by decide)) (show (Instr.fieldAt _ _ _).run _ W = .ok (.pointer (some ⟨w6.heap.size, 0, none⟩)) W by clear hkp hw hb; go_simp) rfl⟩,
          ⟨.inr ⟨40, 88, false, rfl, by kernel_rfl, fun _ _ h => h⟩, fun q W hb hkp hw => goes_load (v1 := .pointer (some ⟨w6.heap.size, 0, none⟩)) (hw 41 89 (by kernel_rfl)) (show (Instr.loadAt _ _).run _ W = .ok (.slice m6.a0 m6.n0 m6.k0) W by have hc := ((FX.out W hb).1).c0; clear hkp hw hb; go_simp) rfl⟩,
          ⟨.inr ⟨40, 88, false, rfl, by kernel_rfl, fun _ _ h => h⟩, fun q W hb hkp hw => goes_fad (hkp 2 (by decide)) (show (Instr.fieldAt _ _ _).run _ W = .ok (.pointer (some ⟨w.heap.size, 0, none⟩)) W by clear hkp hw hb; go_simp) rfl⟩,
          ⟨.inr ⟨40, 88, false, rfl, by kernel_rfl, fun _ _ h => h⟩, fun q W hb hkp hw => goes_load (v1 := .pointer (some ⟨w.heap.size, 0, none⟩)) (hw 43 91 (by kernel_rfl)) (show (Instr.loadAt _ _).run _ W = .ok (.slice m.a0 m.n0 m.k0) W by have hc := ((FX.out W hb).2).c0; clear hkp hw hb; go_simp) rfl⟩,
          ⟨.inr ⟨40, 88, false, rfl, by kernel_rfl, fun _ _ h => h⟩, fun q W hb hkp hw => goes_call2 (hw 42 90 (by kernel_rfl)) (hw 44 92 (by kernel_rfl)) (by go_simp) ((CB2.out W hb).mono (by rintro e w' ⟨A2, c2, z, rfl, hz, ho, hb'⟩; exact ⟨_, rfl, ⟨A2, z, c2, rfl, hz, ho.reads⟩, hb'⟩))⟩,
          ⟨.inr ⟨40, 88, false, rfl, by kernel_rfl, fun _ _ h => h⟩, fun q W hb hkp hw => by (obtain ⟨A3, z3, c3, e3, hz3, hi3⟩ := hw 45 93 (by kernel_rfl); exact goes_val (run_lenI e3) ⟨z3, rfl, hz3⟩)⟩,
          ⟨.inr ⟨40, 88, false, rfl, by kernel_rfl, fun _ _ h => h⟩, fun q W hb hkp hw => goes_fad (hkp 2 (by decide)) (show (Instr.fieldAt _ _ _).run _ W = .ok (.pointer (some ⟨w.heap.size, 0, none⟩)) W by clear hkp hw hb; go_simp) rfl⟩,
          ⟨.inr ⟨40, 88, false, rfl, by kernel_rfl, fun _ _ h => h⟩, fun q W hb hkp hw => goes_load (v1 := .pointer (some ⟨w.heap.size, 0, none⟩)) (hw 47 95 (by kernel_rfl)) (show (Instr.loadAt _ _).run _ W = .ok (.slice m.a0 m.n0 m.k0) W by have hc := ((FX.out W hb).2).c0; clear hkp hw hb; go_simp) rfl⟩,
          ⟨.inr ⟨40, 88, false, rfl, by kernel_rfl, fun _ _ h => h⟩, fun q W hb hkp hw => goes_val (run_lenI (hw 48 96 (by kernel_rfl))) rfl⟩,
          ⟨.inr ⟨40, 88, false, rfl, by kernel_rfl, fun _ _ h => h⟩, fun q W hb hkp hw => by (obtain ⟨z3, e3, hz3⟩ := hw 46 94 (by kernel_rfl); exact goes_val (run_neF e3 (hw 49 97 (by kernel_rfl)) (HQ.out.2.2.2.2.2 z3 hz3)) rfl)⟩,
          ⟨.inl rfl, fun q W hb hkp hw => goes_val (run_pick (hw 40 88 (by kernel_rfl)) (show _ = .bool false from hw 50 98 (by kernel_rfl))) rfl⟩, trivial⟩
      case he =>
        intro u wq hH hq
        have eF : u 99 = .bool false := hH 51 99 (by decide) (by kernel_rfl)
        have G9 := hid hq
        exact h2 _ _ (Met.intro (h1 _ _ ⟨u 48, u 49, u 50, u 51, u 52, u 53, u 54, u 55, u 56, u 57, u 58, u 59, u 60, u 61, u 62, u 63, u 64, u 65, u 66, u 67, u 68, u 69, u 70, u 71, u 72, u 73, u 74, u 75, u 76, u 77, u 78, u 79, u 80, u 81, u 82, u 83, u 84, u 85, u 86, u 87, u 88, u 89, u 90, u 91, u 92, u 93, u 94, u 95, u 96, u 97, u 98, u 99, ⟨eF, G9⟩, by kernel_rfl⟩))
    case rest =>
      obtain ⟨rfl, G9⟩ := hcut
      rename_i w9
      have hq10 := HK6.out _ (HV.out _ G9.out).1
      have hl10 := hq10.1.ld
      have hn10 := drop_any w6.heap.size ⟨U, [], []⟩ HSD.out m6 n hn _ hq10.2.1 (by have := hq10.2.2.1; omega)
      rw [HCM.out.f] at hn10
      have HN10 := hid hn10
      clear hq10 hn10 FX CB1 CB2
      go_wp2_with fail
      refine HN10.out.mono ?_
      rintro e w10 ⟨m10, rfl, ho10, hb10⟩
      obtain ⟨v10, hv10⟩ : ∃ v10, v10 = w10.alloc (.cells #[.slice m10.a0 m10.n0 m10.k0, .slice m10.a1 m10.n1 m10.k1, .slice m10.a2 m10.n2 m10.k2] 24) := ⟨_, rfl⟩
      have hst10 := (box_new hv10).2.2.2
      have HK10 : Hid (∀ W, Below v10.heap.size v10 W → Bx W w10.heap.size 24 m10 ∧ InC W w10.heap.size ⟨U, c.old, []⟩ m10 ∧ w10.heap.size + 1 ≤ W.heap.size ∧ Below v7.heap.size v7 W) := hid (fun W hb => by
        have q := box_keep ho10 hv10 W hb
        exact ⟨q.1, q.2.1.inC, q.2.2.2, G9.out.trans ((hb10.trans (q.2.2.1.mono hb10.size)).mono G9.out.size)⟩)
      clear ho10 hb10 hv10 hl10 HN10
      have hq11 := HK10.out v10 (Below.refl _ _)
      have hl11 := hq11.1.ld
      have hn11 := next_any w10.heap.size 0 ⟨U, c.old, []⟩ HSE.out m10 none 0 0 [] rfl (by decide) v10 hq11.2.1 IsInts.nil (by have := hq11.2.2.1; omega) (Nat.zero_le _)
      rw [HCM.out.h []] at hn11
      have HN11 := hid hn11
      clear hq11 hn11
      go_wp2_with fail
      refine HN11.out.mono ?_
      rintro e w11 ⟨m11, rfl, ho11, hb11⟩
      obtain ⟨v11, hv11⟩ : ∃ v11, v11 = w11.alloc (.cells #[.slice m11.a0 m11.n0 m11.k0, .slice m11.a1 m11.n1 m11.k1, .slice m11.a2 m11.n2 m11.k2] 24) := ⟨_, rfl⟩
      have hst11 := (box_new hv11).2.2.2
      have HK11 : Hid (∀ W, Below v11.heap.size v11 W → Bx W w11.heap.size 24 m11 ∧ InC W w11.heap.size c m11 ∧ w11.heap.size + 1 ≤ W.heap.size ∧ Below v10.heap.size v10 W) := hid (fun W hb => by
        have q := box_keep ho11 hv11 W hb
        exact ⟨q.1, q.2.1.inC, q.2.2.2, hb11.trans (q.2.2.1.mono hb11.size)⟩)
      clear ho11 hb11 hv11 hl11 HN11
      have hq12 := HK11.out v11 (Below.refl _ _)
      have hqm := HK4.out v11 (HV.out v11 (HK10.out v11 hq12.2.2.2).2.2.2).2
      have hl12 := hq12.1.ld
      have hlm := hqm.2.2.2.1.ld
      have HN12 := hid (sameConf_M w11.heap.size B c HS.out m11 m v11 hq12.2.1 hqm.2.2.2.2.1 (by have := hq12.2.2.1; omega) hqm.2.2.2.2.2.2.2.1)
      clear hq12 hqm hst10
      go_wp2_with fail
      refine HN12.out.mono ?_
      rintro e w12 ⟨rfl, hb12⟩
      have HB12 := hid (HV.out w12 (HK10.out w12 (HK11.out w12 hb12).2.2.2).2.2.2).2
      clear hb12 hl12 hlm HN12 hst11
      have hr0 := HK4.out w12 HB12.out
      have hldm := hr0.2.2.2.1.ld
      have HDD := hid (HD.out w12 hr0.2.2.2.2.1 hr0.2.2.2.2.2.2.2.1)
      have HR0 := hid (And.intro hr0.1 (And.intro hr0.2.2.2.1 hr0.2.2.2.2.2.2.1))
      clear hr0
      go_wp2_with fail
      refine HDD.out.mono ?_
      rintro e w20 ⟨mr, rfl, hor, hb20⟩
      have hbx := HR0.out.1.below hb20 HR0.out.1.lt
      obtain ⟨w21, hw21⟩ : ∃ w21, w21 = w20.setRow w4.heap.size #[.slice mr.a0 mr.n0 mr.k0, .slice mr.a1 mr.n1 mr.k1, .slice mr.a2 mr.n2 mr.k2] := ⟨_, rfl⟩
      have hst20 : (Im.stX 24 (.pointer (some ⟨w4.heap.size, 0, none⟩)) (.agg #[.slice mr.a0 mr.n0 mr.k0, .slice mr.a1 mr.n1 mr.k1, .slice mr.a2 mr.n2 mr.k2])).run Try.prog w20 = .ok () w21 := by rw [hw21]; exact hbx.st (m' := mr)
      have ht21 : Turned (fun k => k = w4.heap.size) w20 w21 := by rw [hw21]; exact Bx.tur w20 _ mr
      have hl20 := HR0.out.2.2.trans (hb20.mono HR0.out.2.2.size)
      have HLW := hid (hl20.trans (ht21.below hl20.size (fun k hk => by rw [hk]; exact Nat.le_of_lt HLO4.out.1)))
      clear hbx hw21 ht21 hl20 hor hb20
      go_wp2_with fail
      refine (works_any w21).mono ?_
      rintro e wz ⟨rfl, hbz⟩
      have HBZ := hid (HLW.out.trans (hbz.mono HLW.out.size))
      clear hbz
      go_wp2_with fail
      go_ret
      exact ⟨rfl, HBZ.out⟩
  · obtain ⟨ra, hra⟩ : ∃ ra, ra = add c n := ⟨_, rfl⟩
    rw [← hra] at HA hA
    obtain ⟨xa, ea⟩ := ra
    have hza : (ea == 0) = false := by rw [beq_eq_false_iff_ne]; exact hA
    clear hA hra
    by_cases hD : (drop c n).2 = 0
    · have HG1 := hid (goes1 hD)
      have y1 := (drop_yes hD).1
      rw [hD, y1] at HD
      obtain ⟨F, hF⟩ : ∃ F, F = c.old.filter (fun x => decide (x ≠ n)) := ⟨_, rfl⟩
      rw [← hF] at HG1 HD
      have HSF : Hid (Short ⟨c.old, F, []⟩) := hid ⟨HS.out.1, by show F.length ≤ 20000; have := HG1.out.len; have := HL.out.1; omega, by simp⟩
      clear hD y1 hF
      go_enter Try.func5, Try.ntmps5
      go_wp2_with fail
      rw [← hw1]
      clear hw1 hld
      refine HG.out.mono ?_
      rintro e w2 ⟨rfl, hb2⟩
      obtain ⟨w3, hw3⟩ : ∃ w3, w3 = w2.alloc (.cells #[.int .i64 1, .int .i64 2, .int .i64 3, .int .i64 4, .int .i64 5, .int .i64 6, .int .i64 7] 3) := ⟨_, rfl⟩
      have hb3 : Below w2.heap.size w2 w3 := by rw [hw3]; exact below_new _ _
      have hal : IsInts w3 (w2.heap.size + 1) (some ⟨w2.heap.size, 0, none⟩) all7 := by rw [hw3]; exact lit_in w2 all7 (by decide) (by decide)
      have hs3 : w3.heap.size = w2.heap.size + 1 := by rw [hw3]; simp
      have hb13 := hb2.trans (hb3.mono hb2.size)
      have hld3 := (HK1.out w3 hb13).1.ld
      rw [hw3] at hld3
      have HADD := hid (HA.out w3 hb13)
      have HW3 := hid hw3
      have HL3 := hid (And.intro hal (And.intro hs3 hb13))
      clear hb2 hb3 hw3 hal hs3 hb13 HG HA
      go_wp2_with fail
      rw [← HW3.out]
      refine HADD.out.mono ?_
      rintro e w4 ⟨ma, rfl, hoa, hb4⟩
      obtain ⟨v4, hv4⟩ : ∃ v4, v4 = w4.alloc (.cells #[.slice ma.a0 ma.n0 ma.k0, .slice ma.a1 ma.n1 ma.k1, .slice ma.a2 ma.n2 ma.k2] 24) := ⟨_, rfl⟩
      have hst4 := (box_new hv4).2.2.2
      have HK4 : Hid (∀ W, Below v4.heap.size v4 W → Bx W w4.heap.size 24 ma ∧ InC W w4.heap.size xa ma ∧ w4.heap.size + 1 ≤ W.heap.size ∧ Bx W w.heap.size 24 m ∧ InC W B c m ∧ IsInts W (w2.heap.size + 1) (some ⟨w2.heap.size, 0, none⟩) all7 ∧ Below w.heap.size w W ∧ B ≤ W.heap.size ∧ w2.heap.size + 1 ≤ W.heap.size) := hid (fun W hb => by
        have q := box_keep hoa hv4 W hb
        have q3 := hb4.trans (q.2.2.1.mono hb4.size)
        have q1 := HK1.out W (HL3.out.2.2.trans (q3.mono HL3.out.2.2.size))
        exact ⟨q.1, q.2.1.inC, q.2.2.2, q1.1, q1.2.1, HL3.out.1.below (q3.mono (by have := HL3.out.2.1; omega)), q1.2.2.1, q1.2.2.2, by have := HL3.out.2.1; have := q3.size; omega⟩)
      have HLO4 : Hid (w.heap.size < w4.heap.size ∧ w4.heap.size < v4.heap.size) := hid ⟨by have := (HK1.out w3 HL3.out.2.2).1.lt; have := hb4.size; omega, (HK4.out v4 (Below.refl _ _)).1.lt⟩
      clear hoa hb4 hv4 hld3 HADD
      have hr0 := HK4.out v4 (Below.refl _ _)
      have hldm := hr0.2.2.2.1.ld
      have HDD := hid (HD.out v4 hr0.2.2.2.2.1 hr0.2.2.2.2.2.2.2.1)
      have HR0 := hid (And.intro hr0.1 (And.intro hr0.2.2.2.1 hr0.2.2.2.2.2.2.1))
      clear hr0
      go_wp2_with fail
      refine HDD.out.mono ?_
      rintro e w20 ⟨mr, rfl, hor, hb20⟩
      have hbx := HR0.out.1.below hb20 HR0.out.1.lt
      obtain ⟨w21, hw21⟩ : ∃ w21, w21 = w20.setRow w4.heap.size #[.slice mr.a0 mr.n0 mr.k0, .slice mr.a1 mr.n1 mr.k1, .slice mr.a2 mr.n2 mr.k2] := ⟨_, rfl⟩
      have hst20 : (Im.stX 24 (.pointer (some ⟨w4.heap.size, 0, none⟩)) (.agg #[.slice mr.a0 mr.n0 mr.k0, .slice mr.a1 mr.n1 mr.k1, .slice mr.a2 mr.n2 mr.k2])).run Try.prog w20 = .ok () w21 := by rw [hw21]; exact hbx.st (m' := mr)
      have ht21 : Turned (fun k => k = w4.heap.size) w20 w21 := by rw [hw21]; exact Bx.tur w20 _ mr
      have hl20 := HR0.out.2.2.trans (hb20.mono HR0.out.2.2.size)
      have HLW := hid (hl20.trans (ht21.below hl20.size (fun k hk => by rw [hk]; exact Nat.le_of_lt HLO4.out.1)))
      have hx21 : Bx w21 w4.heap.size 24 mr := by rw [hw21]; exact hbx.set mr
      have hm21 := (HR0.out.2.1.below hb20 HR0.out.2.1.lt).turned ht21 (fun e => by have := HLO4.out.1; omega)
      have hor21 := hor.turned ht21 (fun k hk => by have := HR0.out.1.lt; omega)
      have hsz21 := ht21.size
      have hl21 := hx21.ld
      have hn22 := next_any w20.heap.size 0 ⟨c.old, F, []⟩ HSF.out mr none 0 0 [] rfl (by decide) w21 hor21.inC IsInts.nil hsz21 (Nat.zero_le _)
      rw [HG1.out.d []] at hn22
      have HN22 := hid hn22
      have HM21 := hid hm21
      clear hbx hw21 ht21 hl20 hor hb20 hm21 hor21 hsz21 hx21 hn22
      go_wp2_with fail
      refine HN22.out.mono ?_
      rintro e w22 ⟨m22, rfl, ho22, hb22⟩
      obtain ⟨v22, hv22⟩ : ∃ v22, v22 = w22.alloc (.cells #[.slice m22.a0 m22.n0 m22.k0, .slice m22.a1 m22.n1 m22.k1, .slice m22.a2 m22.n2 m22.k2] 24) := ⟨_, rfl⟩
      have hst22 := (box_new hv22).2.2.2
      have HK22 : Hid (∀ W, Below v22.heap.size v22 W → Bx W w22.heap.size 24 m22 ∧ InC W w22.heap.size ⟨F, [], []⟩ m22 ∧ w22.heap.size + 1 ≤ W.heap.size ∧ Bx W w.heap.size 24 m ∧ Below w.heap.size w W) := hid (fun W hb => by
        have q := box_keep ho22 hv22 W hb
        have q2 := hb22.trans (q.2.2.1.mono hb22.size)
        exact ⟨q.1, q.2.1.inC, q.2.2.2, HM21.out.below q2 HM21.out.lt, HLW.out.trans (q2.mono HLW.out.size)⟩)
      have hq22 := (HK22.out v22 (Below.refl _ _)).2.1
      have e0 : m22.n0 = F.length := hq22.e0
      have e1 : m22.n1 = 0 := hq22.e1
      have e2 : m22.n2 = 0 := hq22.e2
      have HQ : Hid (m22.n1 = 0 ∧ m22.n2 = 0 ∧ (1 ≤ m.n0 ∧ m.n0 ≤ 1000) ∧ ((m22.n0 : Nat) : Int) = ((m.n0 - 1 : Nat) : Int) ∧ (∀ z : Nat, z = (both F [n]).length → (z : Int) = 0) ∧ (∀ z : Nat, z = (both F c.old).length → (z : Int) = ((m22.n0 : Nat) : Int))) := hid ⟨e1, e2, ⟨by have := HG1.out.len; have := HL.out.1; omega, by omega⟩, by have := HG1.out.len; have := HL.out.1; omega, fun z hz => by rw [hz, HG1.out.one]; rfl, fun z hz => by rw [hz, HG1.out.all, e0]⟩
      have HF0 : Hid (m22.n0 ≤ 1000) := hid (by have := HG1.out.len; have := HL.out.1; omega)
      have FX : Hid (∀ W, Below v22.heap.size v22 W → Bx W w22.heap.size 24 m22 ∧ Bx W w.heap.size 24 m) := hid (fun W hb => ⟨(HK22.out W hb).1, (HK22.out W hb).2.2.2.1⟩)
      have CB1 : Hid (∀ W, Below v22.heap.size v22 W → ∀ b3, W.heap[b3]? = some (.cells #[.int .i64 n] 3 (0, 0)) → Calls Try.prog 22 #[.slice m22.a0 m22.n0 m22.k0, .slice (some ⟨b3, 0, none⟩) 1 1] W fun e w' => ∃ A2 c2 q, e = .returned (.slice A2 q c2) ∧ q = (both F [n]).length ∧ OwnsI 3 w' W.heap.size A2 c2 (both F [n]) ∧ Below W.heap.size W w') := hid (fun W hb b3 h3 => by
        obtain ⟨i1, i2⟩ := (show InC W w22.heap.size ⟨F, [], []⟩ m22 ∧ w22.heap.size ≤ W.heap.size from ⟨(HK22.out W hb).2.1, by have := (HK22.out W hb).2.2.1; omega⟩)
        exact bothL_any _ W.heap.size m22.a0 (some ⟨b3, 0, none⟩) m22.k0 1 m22.n0 1 F [n] i1.e0 rfl (by have := HF0.out; omega) (by have := HF0.out; omega) (by omega) W i1.o (row_one h3 hn) i2 (Nat.le_refl _))
      have CB2 : Hid (∀ W, Below v22.heap.size v22 W → Calls Try.prog 22 #[.slice m22.a0 m22.n0 m22.k0, .slice m.a0 m.n0 m.k0] W fun e w' => ∃ A2 c2 q, e = .returned (.slice A2 q c2) ∧ q = (both F c.old).length ∧ OwnsI 3 w' W.heap.size A2 c2 (both F c.old) ∧ Below W.heap.size W w') := hid (fun W hb => by
        obtain ⟨i1, i2⟩ := (show InC W w22.heap.size ⟨F, [], []⟩ m22 ∧ w22.heap.size ≤ W.heap.size from ⟨(HK22.out W hb).2.1, by have := (HK22.out W hb).2.2.1; omega⟩)
        obtain ⟨j1, j2⟩ := HKM.out W (HK22.out W hb).2.2.2.2
        exact bothL_any _ B m22.a0 m.a0 m22.k0 m.k0 m22.n0 m.n0 F c.old i1.e0 HL.out.1 (by have := Nat.mul_le_mul (show m22.n0 ≤ 1000 by have := HF0.out; omega) (show m.n0 ≤ 300 from hn0); omega) (by have := HF0.out; omega) (by omega) W i1.o j1.o i2 j2)
      clear ho22 hb22 hv22 hq22 e0 e1 e2 HN22 hl21
      go_wp2_with fail
      go_cut [180] from 136 to 180 (fun s W => s = .bool false ∧ Hid (Below v22.heap.size v22 W))
      case first =>
        rename_i J9 K9 h1 h2
        refine wp_region_all (w0 := v22) 45 (H18 w22.heap.size w.heap.size m22 m n F c) [136, 137, 138, 139, 140, 141, 142, 143, 144, 145, 146, 147, 148, 149, 150, 151, 152, 153, 154, 155, 156, 157, 158, 159, 160, 161, 162, 163, 164, 165, 166, 167, 168, 169, 170, 171, 172, 173, 174, 175, 176, 177, 178, 179, 180] (by kernel_rfl) (by kernel_rfl) rfl (by kernel_rfl) (by kernel_rfl) ?arms ?he
        case arms =>
          obtain ⟨i0, hi0, hz0, hz1, hz2⟩ := info_parts I.info_int
          exact ⟨
            ⟨.inl rfl, fun q W hb hkp hw => goes_move (hkp 18 (by decide)) rfl⟩,
            ⟨.inl rfl, fun q W hb hkp hw => goes_val (run_notV (hw 0 136 (by kernel_rfl))) rfl⟩,
            ⟨.inl rfl, fun q W hb hkp hw => goes_move rfl (hw 1 137 (by kernel_rfl))⟩,
            ⟨.inr ⟨2, 138, false, rfl, by kernel_rfl, fun _ _ h => h⟩, fun q W hb hkp hw => goes_fad (hkp 17 (by decide)) (show (Instr.fieldAt _ _ _).run _ W = .ok (.pointer (some ⟨w22.heap.size, 1, none⟩)) W by clear hkp hw hb; go_simp) rfl⟩,
            ⟨.inr ⟨2, 138, false, rfl, by kernel_rfl, fun _ _ h => h⟩, fun q W hb hkp hw => goes_load (v1 := .pointer (some ⟨w22.heap.size, 1, none⟩)) (hw 3 139 (by kernel_rfl)) (show (Instr.loadAt _ _).run _ W = .ok (.slice m22.a1 m22.n1 m22.k1) W by have hc := ((FX.out W hb).1).c1; clear hkp hw hb; go_simp) rfl⟩,
            ⟨.inr ⟨2, 138, false, rfl, by kernel_rfl, fun _ _ h => h⟩, fun q W hb hkp hw => goes_val (run_lenI (hw 4 140 (by kernel_rfl))) rfl⟩,
            ⟨.inr ⟨2, 138, false, rfl, by kernel_rfl, fun _ _ h => h⟩, fun q W hb hkp hw => goes_val (run_gt0 (hw 5 141 (by kernel_rfl)) rfl HQ.out.1) rfl⟩,
            ⟨.inl rfl, fun q W hb hkp hw => goes_val (run_pick (hw 2 138 (by kernel_rfl)) (show _ = .bool false from hw 6 142 (by kernel_rfl))) rfl⟩,
            ⟨.inl rfl, fun q W hb hkp hw => goes_move rfl (hw 7 143 (by kernel_rfl))⟩,
            ⟨.inr ⟨8, 144, false, rfl, by kernel_rfl, fun _ _ h => h⟩, fun q W hb hkp hw => goes_fad (hkp 17 (by decide)) (show (Instr.fieldAt _ _ _).run _ W = .ok (.pointer (some ⟨w22.heap.size, 2, none⟩)) W by clear hkp hw hb; go_simp) rfl⟩,
            ⟨.inr ⟨8, 144, false, rfl, by kernel_rfl, fun _ _ h => h⟩, fun q W hb hkp hw => goes_load (v1 := .pointer (some ⟨w22.heap.size, 2, none⟩)) (hw 9 145 (by kernel_rfl)) (show (Instr.loadAt _ _).run _ W = .ok (.slice m22.a2 m22.n2 m22.k2) W by have hc := ((FX.out W hb).1).c2; clear hkp hw hb; go_simp) rfl⟩,
            ⟨.inr ⟨8, 144, false, rfl, by kernel_rfl, fun _ _ h => h⟩, fun q W hb hkp hw => goes_val (run_lenI (hw 10 146 (by kernel_rfl))) rfl⟩,
            ⟨.inr ⟨8, 144, false, rfl, by kernel_rfl, fun _ _ h => h⟩, fun q W hb hkp hw => goes_val (run_gt0 (hw 11 147 (by kernel_rfl)) rfl HQ.out.2.1) rfl⟩,
            ⟨.inl rfl, fun q W hb hkp hw => goes_val (run_pick (hw 8 144 (by kernel_rfl)) (show _ = .bool false from hw 12 148 (by kernel_rfl))) rfl⟩,
            ⟨.inl rfl, fun q W hb hkp hw => goes_move rfl (hw 13 149 (by kernel_rfl))⟩,
            ⟨.inr ⟨14, 150, false, rfl, by kernel_rfl, fun _ _ h => h⟩, fun q W hb hkp hw => goes_fad (hkp 17 (by decide)) (show (Instr.fieldAt _ _ _).run _ W = .ok (.pointer (some ⟨w22.heap.size, 0, none⟩)) W by clear hkp hw hb; go_simp) rfl⟩,
            ⟨.inr ⟨14, 150, false, rfl, by kernel_rfl, fun _ _ h => h⟩, fun q W hb hkp hw => goes_load (v1 := .pointer (some ⟨w22.heap.size, 0, none⟩)) (hw 15 151 (by kernel_rfl)) (show (Instr.loadAt _ _).run _ W = .ok (.slice m22.a0 m22.n0 m22.k0) W by have hc := ((FX.out W hb).1).c0; clear hkp hw hb; go_simp) rfl⟩,
            ⟨.inr ⟨14, 150, false, rfl, by kernel_rfl, fun _ _ h => h⟩, fun q W hb hkp hw => goes_val (run_lenI (hw 16 152 (by kernel_rfl))) rfl⟩,
            ⟨.inr ⟨14, 150, false, rfl, by kernel_rfl, fun _ _ h => h⟩, fun q W hb hkp hw => goes_fad (hkp 2 (by decide)) (show (Instr.fieldAt _ _ _).run _ W = .ok (.pointer (some ⟨w.heap.size, 0, none⟩)) W by clear hkp hw hb; go_simp) rfl⟩,
            ⟨.inr ⟨14, 150, false, rfl, by kernel_rfl, fun _ _ h => h⟩, fun q W hb hkp hw => goes_load (v1 := .pointer (some ⟨w.heap.size, 0, none⟩)) (hw 18 154 (by kernel_rfl)) (show (Instr.loadAt _ _).run _ W = .ok (.slice m.a0 m.n0 m.k0) W by have hc := ((FX.out W hb).2).c0; clear hkp hw hb; go_simp) rfl⟩,
            ⟨.inr ⟨14, 150, false, rfl, by kernel_rfl, fun _ _ h => h⟩, fun q W hb hkp hw => goes_val (run_lenI (hw 19 155 (by kernel_rfl))) rfl⟩,
            ⟨.inr ⟨14, 150, false, rfl, by kernel_rfl, fun _ _ h => h⟩, fun q W hb hkp hw => goes_val (run_sub1 (hw 20 156 (by kernel_rfl)) rfl HQ.out.2.2.1) rfl⟩,
            ⟨.inr ⟨14, 150, false, rfl, by kernel_rfl, fun _ _ h => h⟩, fun q W hb hkp hw => goes_val (run_neF (hw 17 153 (by kernel_rfl)) (hw 21 157 (by kernel_rfl)) HQ.out.2.2.2.1) rfl⟩,
            ⟨.inl rfl, fun q W hb hkp hw => goes_val (run_pick (hw 14 150 (by kernel_rfl)) (show _ = .bool false from hw 22 158 (by kernel_rfl))) rfl⟩,
            ⟨.inl rfl, fun q W hb hkp hw => goes_move rfl (hw 23 159 (by kernel_rfl))⟩,
            ⟨.inr ⟨24, 160, false, rfl, by kernel_rfl, fun _ _ h => h⟩, fun q W hb hkp hw => goes_fad (hkp 17 (by decide)) (show (Instr.fieldAt _ _ _).run _ W = .ok (.pointer (some ⟨w22.heap.size, 0, none⟩)) W by clear hkp hw hb; go_simp) rfl⟩,
            ⟨.inr ⟨24, 160, false, rfl, by kernel_rfl, fun _ _ h => h⟩, fun q W hb hkp hw => goes_load (v1 := .pointer (some ⟨w22.heap.size, 0, none⟩)) (hw 25 161 (by kernel_rfl)) (show (Instr.loadAt _ _).run _ W = .ok (.slice m22.a0 m22.n0 m22.k0) W by have hc := ((FX.out W hb).1).c0; clear hkp hw hb; go_simp) rfl⟩,
            ⟨.inr ⟨24, 160, false, rfl, by kernel_rfl, fun _ _ h => h⟩, fun q W hb hkp hw => goes_move (hkp 1 (by decide)) rfl⟩,
            ⟨.inr ⟨24, 160, false, rfl, by kernel_rfl, fun _ _ h => h⟩, fun q W hb hkp hw => by (have e3 : q.eval (.tmp 163) = .int .i64 n := hw 27 163 (by kernel_rfl); exact goes_slice #[.int .i64 n] 1 hz1 Try.underlying22 hi0 hz0 (by decide) (by decide) [(0, .int .i64 n)] (by simp [e3]) (by kernel_rfl) ⟨W.heap.size, Nat.zero_le _, rfl, heap_alloc_new _ _⟩)⟩,
            ⟨.inr ⟨24, 160, false, rfl, by kernel_rfl, fun _ _ h => h⟩, fun q W hb hkp hw => by (obtain ⟨b3, _, e3, h3⟩ := hw 28 164 (by kernel_rfl); exact goes_call2 (hw 26 162 (by kernel_rfl)) e3 (by go_simp) ((CB1.out W hb b3 h3).mono (by rintro e w' ⟨A2, c2, z, rfl, hz, ho, hb'⟩; exact ⟨_, rfl, ⟨A2, z, c2, rfl, hz, ho.reads⟩, hb'⟩)))⟩,
            ⟨.inr ⟨24, 160, false, rfl, by kernel_rfl, fun _ _ h => h⟩, fun q W hb hkp hw => by (obtain ⟨A3, z3, c3, e3, hz3, hi3⟩ := hw 29 165 (by kernel_rfl); exact goes_val (run_lenI e3) ⟨z3, rfl, hz3⟩)⟩,
            ⟨.inr ⟨24, 160, false, rfl, by kernel_rfl, fun _ _ h => h⟩, fun q W hb hkp hw => by (obtain ⟨z3, e3, hz3⟩ := hw 30 166 (by kernel_rfl); exact goes_val (run_neF e3 (show _ = Value.int .i64 0 from rfl) (HQ.out.2.2.2.2.1 z3 hz3)) rfl)⟩,
            ⟨.inl rfl, fun q W hb hkp hw => goes_val (run_pick (hw 24 160 (by kernel_rfl)) (show _ = .bool false from hw 31 167 (by kernel_rfl))) rfl⟩,
            ⟨.inl rfl, fun q W hb hkp hw => goes_move rfl (hw 32 168 (by kernel_rfl))⟩,
            ⟨.inr ⟨33, 169, false, rfl, by kernel_rfl, fun _ _ h => h⟩, fun q W hb hkp hw => goes_fad (hkp 17 (by decide)) (show (Instr.fieldAt _ _ _).run _ W = .ok (.pointer (some ⟨w22.heap.size, 0, none⟩)) W by clear hkp hw hb; go_simp) rfl⟩,
            ⟨.inr ⟨33, 169, false, rfl, by kernel_rfl, fun _ _ h => h⟩, fun q W hb hkp hw => goes_load (v1 := .pointer (some ⟨w22.heap.size, 0, none⟩)) (hw 34 170 (by kernel_rfl)) (show (Instr.loadAt _ _).run _ W = .ok (.slice m22.a0 m22.n0 m22.k0) W by have hc := ((FX.out W hb).1).c0; clear hkp hw hb; go_simp) rfl⟩,
            ⟨.inr ⟨33, 169, false, rfl, by kernel_rfl, fun _ _ h => h⟩, fun q W hb hkp hw => goes_fad (hkp 2 (by decide)) (show (Instr.fieldAt _ _ _).run _ W = .ok (.pointer (some ⟨w.heap.size, 0, none⟩)) W by clear hkp hw hb; go_simp) rfl⟩,
            ⟨.inr ⟨33, 169, false, rfl, by kernel_rfl, fun _ _ h => h⟩, fun q W hb hkp hw => goes_load (v1 := .pointer (some ⟨w.heap.size, 0, none⟩)) (hw 36 172 (by kernel_rfl)) (show (Instr.loadAt _ _).run _ W = .ok (.slice m.a0 m.n0 m.k0) W by have hc := ((FX.out W hb).2).c0; clear hkp hw hb; go_simp) rfl⟩,
            ⟨.inr ⟨33, 169, false, rfl, by kernel_rfl, fun _ _ h => h⟩, fun q W hb hkp hw => goes_call2 (hw 35 171 (by kernel_rfl)) (hw 37 173 (by kernel_rfl)) (by go_simp) ((CB2.out W hb).mono (by rintro e w' ⟨A2, c2, z, rfl, hz, ho, hb'⟩; exact ⟨_, rfl, ⟨A2, z, c2, rfl, hz, ho.reads⟩, hb'⟩))⟩,
            ⟨.inr ⟨33, 169, false, rfl, by kernel_rfl, fun _ _ h => h⟩, fun q W hb hkp hw => by (obtain ⟨A3, z3, c3, e3, hz3, hi3⟩ := hw 38 174 (by kernel_rfl); exact goes_val (run_lenI e3) ⟨z3, rfl, hz3⟩)⟩,
            ⟨.inr ⟨33, 169, false, rfl, by kernel_rfl, fun _ _ h => h⟩, fun q W hb hkp hw => goes_fad (hkp 17 (by decide)) (show (Instr.fieldAt _ _ _).run _ W = .ok (.pointer (some ⟨w22.heap.size, 0, none⟩)) W by clear hkp hw hb; go_simp) rfl⟩,
            ⟨.inr ⟨33, 169, false, rfl, by kernel_rfl, fun _ _ h => h⟩, fun q W hb hkp hw => goes_load (v1 := .pointer (some ⟨w22.heap.size, 0, none⟩)) (hw 40 176 (by kernel_rfl)) (show (Instr.loadAt _ _).run _ W = .ok (.slice m22.a0 m22.n0 m22.k0) W by have hc := ((FX.out W hb).1).c0; clear hkp hw hb; go_simp) rfl⟩,
            ⟨.inr ⟨33, 169, false, rfl, by kernel_rfl, fun _ _ h => h⟩, fun q W hb hkp hw => goes_val (run_lenI (hw 41 177 (by kernel_rfl))) rfl⟩,
            ⟨.inr ⟨33, 169, false, rfl, by kernel_rfl, fun _ _ h => h⟩, fun q W hb hkp hw => by (obtain ⟨z3, e3, hz3⟩ := hw 39 175 (by kernel_rfl); exact goes_val (run_neF e3 (hw 42 178 (by kernel_rfl)) (HQ.out.2.2.2.2.2 z3 hz3)) rfl)⟩,
            ⟨.inl rfl, fun q W hb hkp hw => goes_val (run_pick (hw 33 169 (by kernel_rfl)) (show _ = .bool false from hw 43 179 (by kernel_rfl))) rfl⟩, trivial⟩
        case he =>
          intro u wq hH hq
          have eF : u 180 = .bool false := hH 44 180 (by decide) (by kernel_rfl)
          have G9 := hid hq
          exact h2 _ _ (Met.intro (h1 _ _ ⟨u 136, u 137, u 138, u 139, u 140, u 141, u 142, u 143, u 144, u 145, u 146, u 147, u 148, u 149, u 150, u 151, u 152, u 153, u 154, u 155, u 156, u 157, u 158, u 159, u 160, u 161, u 162, u 163, u 164, u 165, u 166, u 167, u 168, u 169, u 170, u 171, u 172, u 173, u 174, u 175, u 176, u 177, u 178, u 179, u 180, ⟨eF, G9⟩, by kernel_rfl⟩))
      case rest =>
        obtain ⟨rfl, G9⟩ := hcut
        have HLW := hid (HK22.out _ G9.out).2.2.2.2
        clear G9
        go_wp2_with fail
        refine (works_any _).mono ?_
        rintro e wz ⟨rfl, hbz⟩
        have HBZ := hid (HLW.out.trans (hbz.mono HLW.out.size))
        clear hbz
        go_wp2_with fail
        go_ret
        exact ⟨rfl, HBZ.out⟩
    · obtain ⟨rd, hrd⟩ : ∃ rd, rd = drop c n := ⟨_, rfl⟩
      rw [← hrd] at HD hD
      have hz : (rd.2 == 0) = false := by rw [beq_eq_false_iff_ne]; exact hD
      clear hD hrd
      go_enter Try.func5, Try.ntmps5
      go_wp2_with fail
      rw [← hw1]
      clear hw1 hld
      refine HG.out.mono ?_
      rintro e w2 ⟨rfl, hb2⟩
      obtain ⟨w3, hw3⟩ : ∃ w3, w3 = w2.alloc (.cells #[.int .i64 1, .int .i64 2, .int .i64 3, .int .i64 4, .int .i64 5, .int .i64 6, .int .i64 7] 3) := ⟨_, rfl⟩
      have hb3 : Below w2.heap.size w2 w3 := by rw [hw3]; exact below_new _ _
      have hal : IsInts w3 (w2.heap.size + 1) (some ⟨w2.heap.size, 0, none⟩) all7 := by rw [hw3]; exact lit_in w2 all7 (by decide) (by decide)
      have hs3 : w3.heap.size = w2.heap.size + 1 := by rw [hw3]; simp
      have hb13 := hb2.trans (hb3.mono hb2.size)
      have hld3 := (HK1.out w3 hb13).1.ld
      rw [hw3] at hld3
      have HADD := hid (HA.out w3 hb13)
      have HW3 := hid hw3
      have HL3 := hid (And.intro hal (And.intro hs3 hb13))
      clear hb2 hb3 hw3 hal hs3 hb13 HG HA
      go_wp2_with fail
      rw [← HW3.out]
      refine HADD.out.mono ?_
      rintro e w4 ⟨ma, rfl, hoa, hb4⟩
      obtain ⟨v4, hv4⟩ : ∃ v4, v4 = w4.alloc (.cells #[.slice ma.a0 ma.n0 ma.k0, .slice ma.a1 ma.n1 ma.k1, .slice ma.a2 ma.n2 ma.k2] 24) := ⟨_, rfl⟩
      have hst4 := (box_new hv4).2.2.2
      have HK4 : Hid (∀ W, Below v4.heap.size v4 W → Bx W w4.heap.size 24 ma ∧ InC W w4.heap.size xa ma ∧ w4.heap.size + 1 ≤ W.heap.size ∧ Bx W w.heap.size 24 m ∧ InC W B c m ∧ IsInts W (w2.heap.size + 1) (some ⟨w2.heap.size, 0, none⟩) all7 ∧ Below w.heap.size w W ∧ B ≤ W.heap.size ∧ w2.heap.size + 1 ≤ W.heap.size) := hid (fun W hb => by
        have q := box_keep hoa hv4 W hb
        have q3 := hb4.trans (q.2.2.1.mono hb4.size)
        have q1 := HK1.out W (HL3.out.2.2.trans (q3.mono HL3.out.2.2.size))
        exact ⟨q.1, q.2.1.inC, q.2.2.2, q1.1, q1.2.1, HL3.out.1.below (q3.mono (by have := HL3.out.2.1; omega)), q1.2.2.1, q1.2.2.2, by have := HL3.out.2.1; have := q3.size; omega⟩)
      have HLO4 : Hid (w.heap.size < w4.heap.size ∧ w4.heap.size < v4.heap.size) := hid ⟨by have := (HK1.out w3 HL3.out.2.2).1.lt; have := hb4.size; omega, (HK4.out v4 (Below.refl _ _)).1.lt⟩
      clear hoa hb4 hv4 hld3 HADD
      have hr0 := HK4.out v4 (Below.refl _ _)
      have hldm := hr0.2.2.2.1.ld
      have HDD := hid (HD.out v4 hr0.2.2.2.2.1 hr0.2.2.2.2.2.2.2.1)
      have HR0 := hid (And.intro hr0.1 (And.intro hr0.2.2.2.1 hr0.2.2.2.2.2.2.1))
      clear hr0
      go_wp2_with fail
      refine HDD.out.mono ?_
      rintro e w20 ⟨mr, rfl, hor, hb20⟩
      have hbx := HR0.out.1.below hb20 HR0.out.1.lt
      obtain ⟨w21, hw21⟩ : ∃ w21, w21 = w20.setRow w4.heap.size #[.slice mr.a0 mr.n0 mr.k0, .slice mr.a1 mr.n1 mr.k1, .slice mr.a2 mr.n2 mr.k2] := ⟨_, rfl⟩
      have hst20 : (Im.stX 24 (.pointer (some ⟨w4.heap.size, 0, none⟩)) (.agg #[.slice mr.a0 mr.n0 mr.k0, .slice mr.a1 mr.n1 mr.k1, .slice mr.a2 mr.n2 mr.k2])).run Try.prog w20 = .ok () w21 := by rw [hw21]; exact hbx.st (m' := mr)
      have ht21 : Turned (fun k => k = w4.heap.size) w20 w21 := by rw [hw21]; exact Bx.tur w20 _ mr
      have hl20 := HR0.out.2.2.trans (hb20.mono HR0.out.2.2.size)
      have HLW := hid (hl20.trans (ht21.below hl20.size (fun k hk => by rw [hk]; exact Nat.le_of_lt HLO4.out.1)))
      clear hbx hw21 ht21 hl20 hor hb20
      go_wp2_with fail
      refine (works_any w21).mono ?_
      rintro e wz ⟨rfl, hbz⟩
      have HBZ := hid (HLW.out.trans (hbz.mono HLW.out.size))
      clear hbz
      go_wp2_with fail
      go_ret
      exact ⟨rfl, HBZ.out⟩
end Go.Proofs.Ytfkjahpcpmcefaa.Co
namespace Go.Proofs.Ytfkjahpcpmcefaa
open Go.RowKit Go.ChangeShapes Go.WideShapes Go.Deep
set_option maxRecDepth 100000
theorem intsIn_of_trod {H : Type} {enc : TypeId × Value → H} {W : World} {fuel : Nat} {cs : List Value} {x : DataW H × List MemPlace} (h : DataW.trod enc Try.prog W 0 (fun _ => true) true fuel 22 cs = some x) :
    ∃ (a : Option Addr) (c : Nat) (l : List Int), cs = [.slice a l.length c] ∧ IsInts W W.heap.size a l ∧ (l.length ≤ c ∧ c ≤ maxLen) ∧ (a = none → c = 0) := by
  rcases open_ints Try.underlying22 Try.underlying3 (by kernel_rfl) h with ⟨hcs, _⟩ | ⟨x, l, c, zs, hcs, _, hl, hm, hz, hx, hcell, hwz⟩
  · exact ⟨none, 0, [], hcs, IsInts.nil, ⟨Nat.le_refl _, Nat.zero_le _⟩, fun _ => rfl⟩
  · simp only [if_true] at hz
    obtain ⟨m, h1, h2⟩ := isInts_of_ints hl hz hcell hwz
    subst h2
    exact ⟨some x, c, m, hcs, h1, ⟨hl, hm⟩, fun h => by cases h⟩
theorem one_cell3 {cs : List Value} (h : cs.length = 3) (j : Nat) (hj : j < 3) : (cs.drop j).take 1 = [cs[j]'(by omega)] := by
  rw [List.drop_eq_getElem_cons (by omega)]
  rfl
theorem cellsOf_conf : Try.prog.cellsOf 24 = 3 := by kernel_rfl
theorem conf_of_trod {H : Type} {enc : TypeId × Value → H} {W : World} {fuel : Nat} {cs : List Value} {x : DataW H × List MemPlace} (hcl : cs.length = 3) (h : DataW.trod enc Try.prog W 0 (fun _ => true) true fuel 24 cs = some x) :
    ∃ (c : Qu.Cf) (a0 a1 a2 : Option Addr) (k0 k1 k2 : Nat), cs = [.slice a0 c.old.length k0, .slice a1 c.new.length k1, .slice a2 c.lrn.length k2] ∧ CIs W W.heap.size c a0 a1 a2 k0 k1 k2 := by
  obtain ⟨ys, n, _, _, _, hyl, hf⟩ := DataW.trod_struct Try.underlying24 h
  have hyl3 : ys.length = 3 := hyl
  have e0 : DataW.trod enc Try.prog W 0 (fun _ => true) true n 22 ((cs.drop 0).take (Try.prog.cellsOf 22)) = ys[0]? := hf 0 _ rfl
  have e1 : DataW.trod enc Try.prog W 0 (fun _ => true) true n 22 ((cs.drop 1).take (Try.prog.cellsOf 22)) = ys[1]? := hf 1 _ rfl
  have e2 : DataW.trod enc Try.prog W 0 (fun _ => true) true n 22 ((cs.drop 2).take (Try.prog.cellsOf 22)) = ys[2]? := hf 2 _ rfl
  have c3 : Try.prog.cellsOf 22 = 1 := by kernel_rfl
  rw [c3] at e0 e1 e2
  rw [one_cell3 hcl 0 (by omega), List.getElem?_eq_getElem (by omega)] at e0
  rw [one_cell3 hcl 1 (by omega), List.getElem?_eq_getElem (by omega)] at e1
  rw [one_cell3 hcl 2 (by omega), List.getElem?_eq_getElem (by omega)] at e2
  obtain ⟨a0, k0, l0, p1, p2, p3, p4⟩ := intsIn_of_trod e0
  obtain ⟨a1, k1, l1, q1, q2, q3, q4⟩ := intsIn_of_trod e1
  obtain ⟨a2, k2, l2, r1, r2, r3, r4⟩ := intsIn_of_trod e2
  have p1 := (List.cons.inj p1).1
  have q1 := (List.cons.inj q1).1
  have r1 := (List.cons.inj r1).1
  refine ⟨⟨l0, l1, l2⟩, a0, a1, a2, k0, k1, k2, ?_, ⟨p2, q2, r2, p4, q4, r4, p3, q3, r3⟩⟩
  match cs, hcl with
  | [x0, x1, x2], _ =>
    simp at p1 q1 r1
    rw [p1, q1, r1]
theorem conf_open {H : Type} {enc : TypeId × Value → H} {W : World} {cs : Array Value} {d : DataW H} {p : List MemPlace} (hsz : cs.size = Try.prog.cellsOf 24) (h : DataW.Trod enc Try.prog W 0 (fun _ => true) true 24 (.agg cs) d p) :
    ∃ (c : Qu.Cf) (a0 a1 a2 : Option Addr) (k0 k1 k2 : Nat), cs = #[.slice a0 c.old.length k0, .slice a1 c.new.length k1, .slice a2 c.lrn.length k2] ∧ CIs W W.heap.size c a0 a1 a2 k0 k1 k2 := by
  obtain ⟨fuel, hf⟩ := h
  rw [cellsOf_conf] at hsz
  obtain ⟨c, a0, a1, a2, k0, k1, k2, e, hc⟩ := conf_of_trod (cs := cs.toList) (by simpa using hsz) hf
  refine ⟨c, a0, a1, a2, k0, k1, k2, ?_, hc⟩
  rw [← Array.toArray_toList (xs := cs), e]
end Go.Proofs.Ytfkjahpcpmcefaa
