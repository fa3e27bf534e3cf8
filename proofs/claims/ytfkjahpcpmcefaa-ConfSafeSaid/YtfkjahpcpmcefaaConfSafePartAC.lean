/- Texts of the proof, one behind the other: CfW, RegInv, RegCalls, RegGrow, RegArms, RegStore, CfX, CfY, QuA, QuE, CfZ, RegAll, CfSf, CfSg, ConfIn. -/
import Derived.Test.YtfkjahpcpmcefaaConfSafePartAB
import Derived.Deep.RegionHeld3
import Derived.Great.BuildSlice
import Derived.Test.YtfkjahpcpmcefaaConfSafePartAA
import Derived.StillTail
import Derived.Below
import Derived.WalkKit
import Derived.Deep.CutRange
import Derived.Shelf.Abstract
import Derived.Maps.OwnSet
import Derived.Maps.OwnOps
import Derived.Maps.AppendAt
import Derived.BigQuiet
import Derived.Deep.Slices
import Derived.Deep.Fields
import Derived.ChangeSame
import Derived.WalkLawsBesides
import Derived.ProofKit
import Derived.OpenShut
namespace Go.Proofs.Ytfkjahpcpmcefaa.Co
open Go Go.RowKit
open Qu (Cf)
set_option maxRecDepth 100000
set_option linter.unusedVariables false
attribute [local go_sem ↓] Im.loadAt_conf3 Im.storeAt_conf3 loadAt_mem storeAt_mem
theorem ownsI_lit (w : World) (l : List Int) (hl : ∀ x ∈ l, InInt x) (hm : l.length ≤ maxLen) : OwnsI 3 (w.alloc (.cells (ints l).toArray 3)) w.heap.size (some ⟨w.heap.size, 0, none⟩) l.length l := by
  refine ⟨hl, by simp [ints], .inr ⟨w.heap.size, l.length, _, rfl, Nat.le_refl _, heap_alloc_new w _, Nat.le_refl _, hm, by simp [ints], by rw [List.toList_toArray, Nat.mul_one, List.take_of_length_le (by simp [ints])]⟩⟩
theorem small_of (l : List Int) (h : (l.all fun x => decide (-9223372036854775808 ≤ x ∧ x ≤ 9223372036854775807)) = true) : ∀ x ∈ l, InInt x := fun x hx => by
  have := List.all_eq_true.1 h x hx
  have := of_decide_eq_true this
  exact ⟨by omega, by omega⟩
theorem lit_in (w : World) (l : List Int) (h : (l.all fun x => decide (-9223372036854775808 ≤ x ∧ x ≤ 9223372036854775807)) = true) (hm : l.length ≤ 1000) : IsInts (w.alloc (.cells (ints l).toArray 3)) (w.heap.size + 1) (some ⟨w.heap.size, 0, none⟩) l := by
  have := (ownsI_lit w l (small_of l h) (by unfold maxLen; omega)).reads
  rwa [World.size_alloc] at this
def c3 : Cf := ⟨[1, 2, 3], [], []⟩
def c34 : Cf := ⟨[1, 2, 3], [], [4]⟩
def c3t4 : Cf := ⟨[1, 2, 3], [1, 2, 3, 4], []⟩
def c4 : Cf := ⟨[1, 2, 3, 4], [], []⟩
theorem k_add : add c3 4 = (c34, 0) := by kernel_rfl
theorem k_no : next c34 [1, 2] = (c34, false) := by kernel_rfl
theorem k_b : next c34 [4] = (c3t4, true) := by kernel_rfl
theorem k_c : next c3t4 [] = (c4, true) := by kernel_rfl
theorem short_c3 : Short c3 := ⟨by decide, by decide, by decide⟩
theorem short_c34 : Short c34 := ⟨by decide, by decide, by decide⟩
theorem short_c3t4 : Short c3t4 := ⟨by decide, by decide, by decide⟩
theorem short_c4 : Short c4 := ⟨by decide, by decide, by decide⟩
theorem three_any (w : World) : Calls Try.prog 24 #[] w (Got w c3) := by
  obtain ⟨w1, hw1⟩ : ∃ w1, w1 = w.alloc (.cells #[.slice none 0 0, .slice none 0 0, .slice none 0 0] 24) := ⟨_, rfl⟩
  obtain ⟨w2, hw2⟩ : ∃ w2, w2 = w1.alloc (.cells #[.int .i64 1, .int .i64 2, .int .i64 3] 3) := ⟨_, rfl⟩
  have hb1 : Below w.heap.size w w1 := by rw [hw1]; exact below_new w _
  have hs1 : w1.heap.size = w.heap.size + 1 := by rw [hw1]; simp
  have hx1 : Bx w1 w.heap.size 24 mNil := by rw [hw1]; exact heap_alloc_new w _
  have hb2 : Below w1.heap.size w1 w2 := by rw [hw2]; exact below_new w1 _
  have ho : OwnsI 3 w2 w1.heap.size (some ⟨w1.heap.size, 0, none⟩) 3 [1, 2, 3] := by rw [hw2]; exact ownsI_lit w1 [1, 2, 3] (small_of _ (by decide)) (by decide)
  have hx2 := hx1.below hb2 hx1.lt
  have ho' : OwnsI 3 w2 w1.heap.size (some ⟨w.heap.size + 1, 0, none⟩) 3 [1, 2, 3] := by rw [hs1] at ho ⊢; exact ho
  have hst := hx2.st (m' := ⟨some ⟨w.heap.size + 1, 0, none⟩, 3, 3, none, 0, 0, none, 0, 0⟩)
  have H := hid (And.intro (hx2.set ⟨some ⟨w.heap.size + 1, 0, none⟩, 3, 3, none, 0, 0, none, 0, 0⟩) (got_box (w2 := w1) (b := w.heap.size) (own1 (n := 3) ho' rfl) (hb1.trans (hb2.mono hb1.size)) ⟨Nat.le_refl _, by omega⟩))
  have HW := hid hw2
  rw [hw2, hw1] at hst
  clear hb1 hs1 hx1 hb2 ho ho' hx2
  go_enter Try.func24, Try.ntmps24
  go_wp2_with fail
  rw [← hw1, ← HW.out]
  refine bodyPost_ret (results_cell_row rfl _ _ w.heap.size _ _ _ _ rfl H.out.1 Try.underlying24 rfl (by rw [Im.info_conf33]; rfl)) rfl ?_
  exact ⟨_, rfl, H.out.2.1, H.out.2.2⟩
theorem box_new {w v : World} {m : M3} (h : v = w.alloc (.cells #[.slice m.a0 m.n0 m.k0, .slice m.a1 m.n1 m.k1, .slice m.a2 m.n2 m.k2] 24)) : Bx v w.heap.size 24 m ∧ Below w.heap.size w v ∧ v.heap.size = w.heap.size + 1 ∧
    (Im.stX 24 (.pointer (some ⟨w.heap.size, 0, none⟩)) (.agg #[.slice m.a0 m.n0 m.k0, .slice m.a1 m.n1 m.k1, .slice m.a2 m.n2 m.k2])).run Try.prog (w.alloc (.cells #[.slice none 0 0, .slice none 0 0, .slice none 0 0] 24)) = .ok () v := by
  subst h
  exact ⟨Bx.new _ _ _, below_new _ _, by simp, Im.stNew w _ 3 Im.info_conf33 _ _ rfl rfl (by simp [Value.oneCell'])⟩
set_option maxHeartbeats 6400000 in
theorem works_any (w : World) : Calls Try.prog 7 #[] w fun e w' => e = .returned (.bool true) ∧ Below w.heap.size w w' := by
  have H0 := hid (three_any w)
  go_enter Try.func7, Try.ntmps7
  go_wp2_with fail
  refine H0.out.mono ?_
  rintro e w1 ⟨m1, rfl, ho1, hb1⟩
  have HA := add_any w1.heap.size c3 short_c3 m1 4 (by exact ⟨by decide, by decide⟩) w1 ho1.inC (Nat.le_refl _)
  rw [k_add] at HA
  have HA := hid HA
  have B1 := hid hb1
  clear ho1 hb1 H0
  go_wp2_with fail
  refine HA.out.mono ?_
  rintro e w2 ⟨ma, rfl, hoa, hb2⟩
  obtain ⟨v2, hv2⟩ : ∃ v2, v2 = w2.alloc (.cells #[.slice ma.a0 ma.n0 ma.k0, .slice ma.a1 ma.n1 ma.k1, .slice ma.a2 ma.n2 ma.k2] 24) := ⟨_, rfl⟩
  obtain ⟨hx2, hbv2, hs2, hst2⟩ := box_new hv2
  obtain ⟨u2, hu2⟩ : ∃ u2, u2 = v2.alloc (.cells #[.int .i64 1, .int .i64 2] 3) := ⟨_, rfl⟩
  have hbu2 : Below v2.heap.size v2 u2 := by rw [hu2]; exact below_new _ _
  have hil : IsInts u2 (v2.heap.size + 1) (some ⟨v2.heap.size, 0, none⟩) [1, 2] := by rw [hu2]; exact lit_in v2 [1, 2] (by decide) (by decide)
  have hsu : u2.heap.size = v2.heap.size + 1 := by rw [hu2]; simp
  have hia := ((hoa.below hbv2).below hbu2).inC
  have HN := next_any w2.heap.size (v2.heap.size + 1) c34 short_c34 ma (some ⟨v2.heap.size, 0, none⟩) 2 2 [1, 2] rfl (by decide) u2 hia hil (by omega) (by omega)
  rw [k_no] at HN
  have HN := hid HN
  have hk : ∀ W, Below v2.heap.size v2 W → Bx W w2.heap.size 24 ma ∧ InC W w2.heap.size c34 ma ∧ Below w.heap.size w W ∧ w2.heap.size + 1 ≤ W.heap.size := fun W hb =>
    ⟨hx2.below hb hx2.lt, ((hoa.below hbv2).below hb).inC, (B1.out.trans ((hb2.mono B1.out.size).trans (hbv2.mono (by have := B1.out.size; have := hb2.size; omega)))).trans (hb.mono (by have := B1.out.size; have := hb2.size; omega)), by have := hb.size; omega⟩
  have HK := hid hk
  have BU := hid (And.intro hbu2 hsu)
  have hld2 := hx2.ld
  have HU2 := hid hu2
  clear hv2 hoa hb2 hx2 hbv2 hs2 hbu2 hil hsu hia HA hu2 hk
  go_wp2_with fail
  rw [← HU2.out]
  refine HN.out.mono ?_
  rintro e w3 ⟨mx, rfl, hox, hb3⟩
  have hb23 := BU.out.1.trans (hb3.mono BU.out.1.size)
  obtain ⟨v3, hv3⟩ : ∃ v3, v3 = w3.alloc (.cells #[.slice mx.a0 mx.n0 mx.k0, .slice mx.a1 mx.n1 mx.k1, .slice mx.a2 mx.n2 mx.k2] 24) := ⟨_, rfl⟩
  obtain ⟨hx3, hbv3, hs3, hst3⟩ := box_new hv3
  obtain ⟨u3, hu3⟩ : ∃ u3, u3 = v3.alloc (.cells #[.int .i64 4] 3) := ⟨_, rfl⟩
  have hbu3 : Below v3.heap.size v3 u3 := by rw [hu3]; exact below_new _ _
  have hil : IsInts u3 (v3.heap.size + 1) (some ⟨v3.heap.size, 0, none⟩) [4] := by rw [hu3]; exact lit_in v3 [4] (by decide) (by decide)
  have hsu : u3.heap.size = v3.heap.size + 1 := by rw [hu3]; simp
  have hb2v3 := hb23.trans (hbv3.mono hb23.size)
  have hb2u3 := hb2v3.trans (hbu3.mono hb2v3.size)
  have HN3 := next_any w2.heap.size (v3.heap.size + 1) c34 short_c34 ma (some ⟨v3.heap.size, 0, none⟩) 1 1 [4] rfl (by decide) u3 (HK.out u3 hb2u3).2.1 hil (by have := (HK.out u3 hb2u3).2.2.2; omega) (by omega)
  rw [k_b] at HN3
  have HN3 := hid HN3
  have hld3 := (HK.out v3 hb2v3).1.ld
  have BU3 := hid hb2u3
  have HU3 := hid hu3
  clear hv3 hox hb3 hx3 hbv3 hs3 hbu3 hil hsu hu3 hb23 hb2v3 hb2u3 HN hld2 hst2
  go_wp2_with fail
  rw [← HU3.out]
  refine HN3.out.mono ?_
  rintro e w4 ⟨mb, rfl, hob, hb4⟩
  obtain ⟨v4, hv4⟩ : ∃ v4, v4 = w4.alloc (.cells #[.slice mb.a0 mb.n0 mb.k0, .slice mb.a1 mb.n1 mb.k1, .slice mb.a2 mb.n2 mb.k2] 24) := ⟨_, rfl⟩
  obtain ⟨hx4, hbv4, hs4, hst4⟩ := box_new hv4
  have hb24 := BU3.out.trans (hb4.mono BU3.out.size)
  have hb2v4 := hb24.trans (hbv4.mono hb24.size)
  have hk4 : ∀ W, Below v4.heap.size v4 W → Bx W w4.heap.size 24 mb ∧ InC W w4.heap.size c3t4 mb ∧ Below v2.heap.size v2 W ∧ w4.heap.size + 1 ≤ W.heap.size := fun W hb =>
    ⟨hx4.below hb hx4.lt, ((hob.below hbv4).below hb).inC, hb2v4.trans (hb.mono hb2v4.size), by have := hb.size; omega⟩
  have HN4 := next_any w4.heap.size 0 c3t4 short_c3t4 mb none 0 0 [] rfl (by decide) v4 (hk4 v4 (Below.refl _ _)).2.1 IsInts.nil (by omega) (by omega)
  rw [k_c] at HN4
  have HN4 := hid HN4
  have HK4 := hid hk4
  have hld4 := hx4.ld
  clear hv4 hob hb4 hx4 hbv4 hs4 hb24 hb2v4 hk4 HN3 hld3 hst3
  go_wp2_with fail
  refine HN4.out.mono ?_
  rintro e w5 ⟨mc, rfl, hoc, hb5⟩
  obtain ⟨v5, hv5⟩ : ∃ v5, v5 = w5.alloc (.cells #[.slice mc.a0 mc.n0 mc.k0, .slice mc.a1 mc.n1 mc.k1, .slice mc.a2 mc.n2 mc.k2] 24) := ⟨_, rfl⟩
  obtain ⟨hx5, hbv5, hs5, hst5⟩ := box_new hv5
  have hb4v5 := hb5.trans (hbv5.mono hb5.size)
  have hk5 : ∀ W, Below v5.heap.size v5 W → Bx W w5.heap.size 24 mc ∧ InC W w5.heap.size c4 mc ∧ Below v4.heap.size v4 W ∧ w5.heap.size + 1 ≤ W.heap.size := fun W hb =>
    ⟨hx5.below hb hx5.lt, ((hoc.below hbv5).below hb).inC, hb4v5.trans (hb.mono hb4v5.size), by have := hb.size; omega⟩
  obtain ⟨a5, ha5⟩ : ∃ a5, a5 = v5.alloc (.cells #[.int .i64 1, .int .i64 2, .int .i64 3] 3) := ⟨_, rfl⟩
  have hba : Below v5.heap.size v5 a5 := by rw [ha5]; exact below_new _ _
  have hia : IsInts a5 (v5.heap.size + 1) (some ⟨v5.heap.size, 0, none⟩) [1, 2, 3] := by rw [ha5]; exact lit_in v5 [1, 2, 3] (by decide) (by decide)
  have hsa : a5.heap.size = v5.heap.size + 1 := by rw [ha5]; simp
  obtain ⟨d5, hd5⟩ : ∃ d5, d5 = a5.alloc (.cells #[.int .i64 1, .int .i64 2, .int .i64 3, .int .i64 4] 3) := ⟨_, rfl⟩
  have hbd : Below a5.heap.size a5 d5 := by rw [hd5]; exact below_new _ _
  have hid5 : IsInts d5 (a5.heap.size + 1) (some ⟨v5.heap.size + 1, 0, none⟩) [1, 2, 3, 4] := by
    have := lit_in a5 [1, 2, 3, 4] (by decide) (by decide)
    rw [hd5]
    rw [hsa] at this ⊢
    exact this
  have hsd : d5.heap.size = a5.heap.size + 1 := by rw [hd5]; simp
  have hb5d := hba.trans (hbd.mono hba.size)
  have hin : InC d5 (a5.heap.size + 1) c3t4 ⟨some ⟨v5.heap.size, 0, none⟩, 3, 3, some ⟨v5.heap.size + 1, 0, none⟩, 4, 4, none, 0, 0⟩ :=
    ⟨⟨(hia.below (hbd.mono (by omega))).more (by omega), hid5, IsInts.nil, (fun e => by cases e), (fun e => by cases e), (fun _ => rfl), (show 3 ≤ 3 ∧ 3 ≤ maxLen by decide), (show 4 ≤ 4 ∧ 4 ≤ maxLen by decide), (show 0 ≤ 0 ∧ 0 ≤ maxLen by decide)⟩, rfl, rfl, rfl⟩
  have HS1 := hid (sameConf_M w4.heap.size (a5.heap.size + 1) c3t4 short_c3t4 mb _ d5 (HK4.out d5 (hk5 d5 hb5d).2.2.1).2.1 hin (by have := (HK4.out d5 (hk5 d5 hb5d).2.2.1).2.2.2; omega) (by omega))
  have hld5 := (HK4.out v5 (hk5 v5 (Below.refl _ _)).2.2.1).1.ld
  have HK5 := hid hk5
  have HU5 := hid (And.intro ha5 hd5)
  have HBD := hid hb5d
  clear hv5 hoc hb5 hx5 hbv5 hs5 hb4v5 hk5 ha5 hd5 hba hia hsa hbd hid5 hsd hin hb5d HN4 hld4 hst4
  go_wp2_with fail
  rw [← HU5.out.1, ← HU5.out.2]
  refine HS1.out.mono ?_
  rintro e w6 ⟨rfl, hb6⟩
  have hb56 := HBD.out.trans (hb6.mono HBD.out.size)
  obtain ⟨a6, ha6⟩ : ∃ a6, a6 = w6.alloc (.cells #[.int .i64 1, .int .i64 2, .int .i64 3, .int .i64 4] 3) := ⟨_, rfl⟩
  have hba : Below w6.heap.size w6 a6 := by rw [ha6]; exact below_new _ _
  have hia : IsInts a6 (w6.heap.size + 1) (some ⟨w6.heap.size, 0, none⟩) [1, 2, 3, 4] := by rw [ha6]; exact lit_in w6 [1, 2, 3, 4] (by decide) (by decide)
  have hsa : a6.heap.size = w6.heap.size + 1 := by rw [ha6]; simp
  have hb5a := hb56.trans (hba.mono hb56.size)
  have hin : InC a6 (w6.heap.size + 1) c4 ⟨some ⟨w6.heap.size, 0, none⟩, 4, 4, none, 0, 0, none, 0, 0⟩ :=
    ⟨⟨hia, IsInts.nil, IsInts.nil, (fun e => by cases e), (fun _ => rfl), (fun _ => rfl), (show 4 ≤ 4 ∧ 4 ≤ maxLen by decide), (show 0 ≤ 0 ∧ 0 ≤ maxLen by decide), (show 0 ≤ 0 ∧ 0 ≤ maxLen by decide)⟩, rfl, rfl, rfl⟩
  have HS2 := hid (sameConf_M w5.heap.size (w6.heap.size + 1) c4 short_c4 mc _ a6 (HK5.out a6 hb5a).2.1 hin (by have := (HK5.out a6 hb5a).2.2.2; omega) (by omega))
  have hld6 := (HK5.out w6 hb56).1.ld
  have HU6 := hid ha6
  have HBA := hid hb5a
  clear ha6 hba hia hsa hin hb5a hb6 hb56 HS1 hld5 hst5
  go_wp2_with fail
  rw [← HU6.out]
  refine HS2.out.mono ?_
  rintro e w7 ⟨rfl, hb7⟩
  have hb57 := HBA.out.trans (hb7.mono HBA.out.size)
  have HE := hid ((HK.out w7 (HK4.out w7 (HK5.out w7 hb57).2.2.1).2.2.1).2.2.1)
  clear hb7 hb57 HS2 hld6
  go_wp2_with fail
  go_ret
  exact ⟨rfl, HE.out⟩
end Go.Proofs.Ytfkjahpcpmcefaa.Co
namespace Go.Proofs.Ytfkjahpcpmcefaa
open Go
def unl (listed : Array Bool) : Nat := listed.toList.count false
theorem unl_set {listed : Array Bool} {i : Nat} (h : listed.getD i true = false) : unl (listed.setIfInBounds i true) + 1 = unl listed := by
  have hi : i < listed.size := by
    rcases Nat.lt_or_ge i listed.size with h' | h'
    · exact h'
    · rw [Array.getD_eq_getD_getElem?, Array.getElem?_eq_none h'] at h; cases h
  have hv : listed.toList[i] = false := by
    rw [Array.getD_eq_getD_getElem?, Array.getElem?_eq_getElem hi] at h
    exact h
  unfold unl
  rw [Array.toList_setIfInBounds, List.count_set (by simpa using hi)]
  have hm : 0 < listed.toList.count false := List.count_pos_iff.2 (hv ▸ List.getElem_mem _)
  have hv2 : (listed.toList[i]'(by simpa using hi) == false) = true := by rw [hv]; rfl
  rw [if_pos hv2, if_neg (by decide)]
  omega
theorem all_listed {ops : Array Oper} {listed : Array Bool} (hsz : listed.size = ops.size) (hacyc : ∀ (i : Nat) (o : Oper), ops[i]? = some o → ∀ e ∈ o.after, Region.binds .any e = true → e.on < i) (hr : Region.ready .any ops listed = []) :
    ∀ i, i < ops.size → listed.getD i false = true := by
  intro i
  induction i using Nat.strongRecOn with
  | ind i ih =>
    intro hi
    have hi' : i < listed.size := by omega
    cases hl : listed[i]
    · exfalso
      have hm : i ∈ Region.ready .any ops listed := mem_ready.2 ⟨by rw [Array.getD_eq_getD_getElem?, Array.getElem?_eq_getElem hi', hl]; rfl, ops[i], Array.getElem?_eq_getElem hi, fun e he hb => ih e.on (hacyc i _ (Array.getElem?_eq_getElem hi) e he hb) (by have := hacyc i _ (Array.getElem?_eq_getElem hi) e he hb; omega)⟩
      rw [hr] at hm
      cases hm
    · rw [Array.getD_eq_getD_getElem?, Array.getElem?_eq_getElem hi', hl]; rfl
def sop (op : Op) (ty : TypeId) : Oper := ⟨none, op, ty, "", #[], none⟩
theorem exec_sop (ρ : Operand → Value) (o : Oper) : execOp ρ o = execOp ρ (sop o.op o.type) := rfl
def Goes (P : Program) (a : Act) (w : World) (op : Op) (ty : TypeId) (R : Value → World → Prop) : Prop :=
  (∃ v w', (execOp a.eval (sop op ty)).run P w = .ok (.value v) w' ∧ R v w') ∨
  (∃ f args, (execOp a.eval (sop op ty)).run P w = .ok (.enter f args) w ∧ Calls P f args w fun e w' => ∃ v, e = .returned v ∧ R v w')
theorem Goes.wpOp {P : Program} {ops : Array Oper} {Q : Exit → Act → World → Prop} {K : Act → World → Prop} {a : Act} {w : World} {i : Nat} {o : Oper} {R : Value → World → Prop} (hi : ops[i]? = some o) (hg : o.guard = none) (h : Goes P a w o.op o.type R)
    (hk : ∀ v w', R v w' → K (a.put o.dst v) w') : wpOp P ops Q i K a w := by
  unfold Go.wpOp
  simp only [hi]
  have hw : Region.wanted o (yielded ops a.tmps) = true := by simp [Region.wanted, hg]
  rw [if_pos hw]
  left
  unfold Oper.wp
  rw [exec_sop]
  rcases h with ⟨v, w', hr, hR⟩ | ⟨f, args, hr, hC⟩
  · rw [hr, Oper.upon_value]
    exact hk v w' hR
  · rw [hr, Oper.upon_enter]
    refine hC.mono ?_
    rintro e w' ⟨v, rfl, hR⟩
    exact hk v w' hR
theorem x_move {P : Program} (ρ : Operand → Value) (x : Operand) (ty : TypeId) (w : World) : (execOp ρ (sop (.move x) ty)).run P w = .ok (.value (ρ x)) w := by simp [execOp, sop]
theorem x_assign {P : Program} (ρ : Operand → Value) (x : Operand) (ty : TypeId) (w : World) : (execOp ρ (sop (.assign x) ty)).run P w = .ok (.value (ρ x)) w := by simp [execOp, sop]
theorem x_load {P : Program} (ρ : Operand → Value) (t : TypeId) (x : Operand) (ty : TypeId) (v : Value) (w : World) (h : (Instr.loadAt t (ρ x)).run P w = .ok v w) : (execOp ρ (sop (.load t x) ty)).run P w = .ok (.value v) w := by simp [execOp, sop, h]
def AllFrom {α : Type} (p : Nat → α → Prop) : Nat → List α → Prop
  | _, [] => True
  | n, x :: xs => p n x ∧ AllFrom p (n + 1) xs
theorem AllFrom.get {α : Type} {p : Nat → α → Prop} : ∀ {n : Nat} {l : List α}, AllFrom p n l → ∀ (i : Nat) (x : α), l[i]? = some x → p (n + i) x
  | _, [], _, i, x, h => by simp at h
  | n, y :: ys, ⟨h0, h1⟩, i, x, h => by
    rcases i with _ | i
    · simp at h; subst h; exact h0
    · simp at h
      have := AllFrom.get h1 i x h
      rwa [show n + 1 + i = n + (i + 1) by omega] at this
end Go.Proofs.Ytfkjahpcpmcefaa
namespace Go.Proofs.Ytfkjahpcpmcefaa
open Go
set_option maxRecDepth 100000
structure Rc (δ : Type) where
  ops : Array Oper
  nt : Nat
  step : Nat → Option Nat
  val : δ → Nat → Value
  inv : δ → Nat → World → Prop
structure Jc {δ : Type} (C : Rc δ) (a0 : Act) (X : δ) (p : Nat) (listed : Array Bool) (a : Act) (w : World) : Prop where
  size : a.tmps.size = C.nt
  defers : a.defers = a0.defers
  keep : ∀ s : Nat, (∀ (j : Nat) (o : Oper), C.ops[j]? = some o → o.dst ≠ some s) → a.eval (.tmp s) = a0.eval (.tmp s)
  lsize : listed.size = C.ops.size
  clos : ∀ (j : Nat) (o : Oper), C.ops[j]? = some o → listed.getD j false = true → ∀ e ∈ o.after, Region.binds .any e = true → listed.getD e.on false = true
  slots : ∀ (j : Nat) (o : Oper) (d : Nat), C.ops[j]? = some o → o.dst = some d → listed.getD j false = true → a.eval (.tmp d) = C.val X j
  call : ∀ j, j < C.ops.size → ∀ k, C.step j = some k → (listed.getD j false = true ↔ k < p)
  inv : C.inv X p w
structure Rc.Ok {δ : Type} (C : Rc δ) : Prop where
  nt : ∀ (j : Nat) (o : Oper) (d : Nat), C.ops[j]? = some o → o.dst = some d → d < C.nt
  once : ∀ (i j : Nat) (o o' : Oper) (d : Nat), C.ops[i]? = some o → C.ops[j]? = some o' → o.dst = some d → o'.dst = some d → i = j
  uniq : ∀ i j k, i < C.ops.size → j < C.ops.size → C.step i = some k → C.step j = some k → i = j
theorem evput_ne (a : Act) {d : Option Tmp} {t : Nat} (v : Value) (h : d ≠ some t) : (a.put d v).eval (.tmp t) = a.eval (.tmp t) := by
  rcases d with _ | d
  · rfl
  · have : d ≠ t := fun e => h (by rw [e])
    simp [Act.put, Act.eval, Array.getElem?_setIfInBounds_ne this]
theorem evput_self (a : Act) {d : Nat} (v : Value) (h : d < a.tmps.size) : (a.put (some d) v).eval (.tmp d) = v := by
  simp [Act.put, Act.eval, h]
theorem listed_set (l : Array Bool) (j m : Nat) (hj : j < l.size) : (l.setIfInBounds j true).getD m false = if m = j then true else l.getD m false := by
  rw [Array.getD_eq_getD_getElem?, Array.getD_eq_getD_getElem?]
  by_cases e : m = j
  · subst e
    rw [if_pos rfl, Array.getElem?_setIfInBounds_self_of_lt hj]; rfl
  · rw [if_neg e, Array.getElem?_setIfInBounds_ne (by omega)]
theorem listed_no {l : Array Bool} {j : Nat} (h : l.getD j true = false) : l.getD j false = false := by
  rw [Array.getD_eq_getD_getElem?] at h ⊢
  rcases hl : l[j]? with _ | b
  · rfl
  · rw [hl] at h; exact h
section
variable {δ : Type} {C : Rc δ} {a0 a : Act} {X X' : δ} {p p' : Nat} {listed : Array Bool} {w w' : World}
theorem Jc.put (hC : C.Ok) (h : Jc C a0 X p listed a w) (j : Nat) (o : Oper) (hj : C.ops[j]? = some o) (ha : ∀ e ∈ o.after, Region.binds .any e = true → listed.getD e.on false = true) (v : Value) (hinv : C.inv X' p' w')
    (hk : ∀ (m : Nat), m < C.ops.size → listed.getD m false = true → C.val X' m = C.val X m) (hu : listed.getD j true = false) (hv : ∀ d, o.dst = some d → v = C.val X' j)
    (hc : ∀ m, m < C.ops.size → ∀ k, C.step m = some k → ((if m = j then true else listed.getD m false) = true ↔ k < p')) :
    Jc C a0 X' p' (listed.setIfInBounds j true) (a.put o.dst v) w' := by
  have hjs : j < C.ops.size := (Array.getElem?_eq_some_iff.1 hj).1
  have hjl : j < listed.size := by rw [h.lsize]; exact hjs
  refine ⟨?_, ?_, fun s hs => ?_, by simp [h.lsize], fun m om hm hl e he hb => ?_, fun m om d hm hd hl => ?_, fun m hm k hmk => ?_, hinv⟩
  · rcases hd : o.dst with _ | d
    · exact h.size
    · simp [Act.put, h.size]
  · rcases hd : o.dst with _ | d
    · exact h.defers
    · exact h.defers
  · rw [evput_ne a v (hs j o hj)]; exact h.keep s hs
  · rw [listed_set _ _ _ hjl] at hl ⊢
    by_cases e1 : e.on = j
    · rw [if_pos e1]
    · rw [if_neg e1]
      by_cases e2 : m = j
      · subst e2
        rw [hj] at hm
        obtain rfl := Option.some.inj hm
        exact ha e he hb
      · rw [if_neg e2] at hl
        exact h.clos m om hm hl e he hb
  · rw [listed_set _ _ _ hjl] at hl
    by_cases e2 : m = j
    · subst e2
      rw [hj] at hm
      obtain rfl := Option.some.inj hm
      rw [hd, evput_self a v (by rw [h.size]; exact hC.nt m o d hj hd)]
      exact hv d hd
    · rw [if_neg e2] at hl
      rw [evput_ne a v (fun e => e2 (hC.once m j om o d hm hj hd e)), hk m (Array.getElem?_eq_some_iff.1 hm).1 hl]
      exact h.slots m om d hm hd hl
  · rw [listed_set _ _ _ hjl]; exact hc m hm k hmk
theorem Jc.next (h : Jc C a0 X p listed a w) {j k : Nat} (hj : j < C.ops.size) (hk : C.step j = some k) (hu : listed.getD j true = false) (hb : k = 0 ∨ ∃ i, i < C.ops.size ∧ C.step i = some (k - 1) ∧ listed.getD i false = true) : k = p := by
  have h1 : p ≤ k := by
    rcases Nat.lt_or_ge k p with h' | h'
    · have := (h.call j hj k hk).2 h'
      rw [listed_no hu] at this; cases this
    · exact h'
  rcases hb with h0 | ⟨i, hi, hik, hil⟩
  · omega
  · have := (h.call i hi _ hik).1 hil
    omega
theorem Jc.ahead (h : Jc C a0 X p listed a w) {j m k : Nat} {om : Oper} (hm : C.ops[m]? = some om) (hk : C.step m = some k) (hu : listed.getD j true = false) (hw : ∃ e ∈ om.after, Region.binds .any e = true ∧ e.on = j) : p ≤ k := by
  rcases Nat.lt_or_ge k p with h' | h'
  · have hl := (h.call m (Array.getElem?_eq_some_iff.1 hm).1 k hk).2 h'
    obtain ⟨e, he, hb, rfl⟩ := hw
    have := h.clos m om hm hl e he hb
    rw [listed_no hu] at this; cases this
  · exact h'
end
theorem Jc.kept {δ : Type} {C : Rc δ} {a0 a : Act} {X : δ} {p : Nat} {listed : Array Bool} {w : World} (h : Jc C a0 X p listed a w) (s : Nat) (hb : (C.ops.all fun o => decide (o.dst ≠ some s)) = true) : a.eval (.tmp s) = a0.eval (.tmp s) :=
  h.keep s (fun j o hj => by
    have := (Array.all_eq_true_iff_forall_mem.1 hb) o (Array.mem_of_getElem? hj)
    simpa using this)
theorem run_pick {P : Program} {ρ : Operand → Value} {c x y : Operand} {ty : TypeId} {w : World} {b : Bool} {v : Value} (hc : ρ c = .bool b) (h : (if b = true then ρ x else ρ y) = v) : (execOp ρ (sop (.pick c x y) ty)).run P w = .ok (.value v) w := by subst h; simp [execOp, sop, hc, asBool]
theorem run_bin {P : Program} {ρ : Operand → Value} {op : BinOp} {t u : TypeId} {x y : Operand} {ty : TypeId} {w : World} {v1 v2 v : Value} (h1 : ρ x = v1) (h2 : ρ y = v2) (h : (do eqGuard op t x y v1 v2; binOp op t v1 v2 : Sem Value).run P w = .ok v w) : (execOp ρ (sop (.binOp op t x y u) ty)).run P w = .ok (.value v) w := by
  subst h1
  subst h2
  unfold execOp sop
  simp only [Sem.run_bind, Sem.run_pure] at h ⊢
  rw [h]
  rfl
theorem run_call1 {P : Program} {a : Act} {f : FuncId} {x : Operand} {ty t : TypeId} {v : Value} {w : World} (h : a.eval x = v) (hcf : (callFunc f #[v]).run P w = .ok (.enter f #[v]) w) : (execOp a.eval (sop (.call { callee := .value (.func f), args := #[x], argTypes := #[t] }) ty)).run P w = .ok (.enter f #[v]) w := by
  generalize hρ : a.eval = ρ at h ⊢
  have hf : ρ (.func f) = .func (.func f) #[] #[] := by rw [← hρ]; rfl
  clear hρ
  unfold execOp sop
  simp [resolve, invoke, h, hf, Deferred.ofValue, hcf]
section
variable {δ : Type} {P : Program} {C : Rc δ} {a0 a : Act} {X : δ} {p : Nat} {listed : Array Bool} {w : World} {Q : Exit → Act → World → Prop}
theorem wanted_of {ops : Array Oper} {a : Act} {o og : Oper} {g d : Nat} {b c : Bool} (hg : o.guard = some (g, b)) (ho : ops[g]? = some og) (hd : og.dst = some d) (hlt : d < a.tmps.size) (h : a.eval (.tmp d) = .bool c) : Region.wanted o (yielded ops a.tmps) = (c == b) := by
  have h2 : a.tmps[d]? = some (.bool c) := by
    have h3 : a.tmps.getD d undef = .bool c := h
    rw [Array.getD_eq_getD_getElem?, Array.getElem?_eq_getElem hlt] at h3
    rw [Array.getElem?_eq_getElem hlt]
    exact congrArg some h3
  unfold Region.wanted
  rw [hg]
  simp only [yielded, ho, Option.bind_some, hd, h2]
  cases b <;> cases c <;> rfl
theorem goes_wpOpG {P : Program} {ops : Array Oper} {Q : Exit → Act → World → Prop} {K : Act → World → Prop} {a : Act} {w : World} {i : Nat} {o : Oper} {R : Value → World → Prop} (hi : ops[i]? = some o) (hw : Region.wanted o (yielded ops a.tmps) = true) (h : Goes P a w o.op o.type R)
    (hk : ∀ v w', R v w' → K (a.put o.dst v) w') : wpOp P ops Q i K a w := by
  unfold Go.wpOp
  simp only [hi]
  rw [if_pos hw]
  left
  unfold Oper.wp
  rw [exec_sop]
  rcases h with ⟨v, w', hr, hR⟩ | ⟨f, args, hr, hC⟩
  · rw [hr, Oper.upon_value]
    exact hk v w' hR
  · rw [hr, Oper.upon_enter]
    refine hC.mono ?_
    rintro e w' ⟨v, rfl, hR⟩
    exact hk v w' hR
def acyc (ops : Array Oper) : Bool := (List.range ops.size).all fun i => match ops[i]? with
  | some o => o.after.all fun e => !Region.binds .any e || decide (e.on < i)
  | none => true
theorem acyc_spec {ops : Array Oper} (h : acyc ops = true) (i : Nat) (o : Oper) (hi : ops[i]? = some o) (e : _) (he : e ∈ o.after) (hb : Region.binds .any e = true) : e.on < i := by
  have hlt : i < ops.size := (Array.getElem?_eq_some_iff.1 hi).1
  have := List.all_eq_true.1 h i (List.mem_range.2 hlt)
  rw [hi] at this
  have h2 := (Array.all_eq_true_iff_forall_mem.1 this) e he
  rw [hb] at h2
  simpa using h2
end
end Go.Proofs.Ytfkjahpcpmcefaa
namespace Go.Proofs.Ytfkjahpcpmcefaa
open Go Go.RowKit
set_option maxRecDepth 100000
set_option linter.unusedVariables false
structure Gp where
  p : World → Value → Prop
  mono : ∀ w w' v, p w v → Below w.heap.size w w' → p w' v
def Gp.any : Gp := ⟨fun _ _ => True, fun _ _ _ _ _ => trivial⟩
def Gp.is (v0 : Value) : Gp := ⟨fun _ v => v = v0, fun _ _ _ h _ => h⟩
def Gp.row (lo : Nat) (n : Nat) (cs : Array Value) (t : TypeId) : Gp := ⟨fun w v => ∃ b, lo ≤ b ∧ v = .slice (some ⟨b, 0, none⟩) n n ∧ w.heap[b]? = some (.cells cs t (0, 0)), fun w w' v ⟨b, h0, h1, h2⟩ hb => ⟨b, h0, h1, (hb.block b (Array.getElem?_eq_some_iff.1 h2).1).trans h2⟩⟩
def Gp.box (lo : Nat) (cs : Array Value) (t : TypeId) : Gp := ⟨fun w v => ∃ b, lo ≤ b ∧ v = .pointer (some ⟨b, 0, none⟩) ∧ w.heap[b]? = some (.cells cs t (0, 0)), fun w w' v ⟨b, h0, h1, h2⟩ hb => ⟨b, h0, h1, (hb.block b (Array.getElem?_eq_some_iff.1 h2).1).trans h2⟩⟩
def dstsN (ops : Array Oper) (n : Nat) : List Nat := (ops.toList.take n).filterMap (·.dst)
def putAll (u : Nat → Value) (ds : List Nat) (a : Act) : Act := ds.foldl (fun a d => a.put (some d) (u d)) a
theorem putAll_size (u : Nat → Value) : ∀ (ds : List Nat) (a : Act), (putAll u ds a).tmps.size = a.tmps.size := by
  intro ds
  induction ds with
  | nil => intro a; rfl
  | cons d ds ih => intro a; show (putAll u ds (a.put (some d) (u d))).tmps.size = _; rw [ih]; simp [Act.put]
theorem putAll_defers (u : Nat → Value) : ∀ (ds : List Nat) (a : Act), (putAll u ds a).defers = a.defers := by
  intro ds
  induction ds with
  | nil => intro a; rfl
  | cons d ds ih => intro a; show (putAll u ds (a.put (some d) (u d))).defers = _; rw [ih]; rfl
theorem putAll_get (u : Nat → Value) : ∀ (ds : List Nat) (a : Act) (i : Nat), i < a.tmps.size → (putAll u ds a).tmps[i]? = if i ∈ ds then some (u i) else a.tmps[i]? := by
  intro ds
  induction ds with
  | nil => intro a i _; simp [putAll]
  | cons d ds ih =>
    intro a i hi
    show (putAll u ds (a.put (some d) (u d))).tmps[i]? = _
    rw [ih _ _ (by simp [Act.put]; exact hi)]
    by_cases h : i ∈ ds
    · rw [if_pos h, if_pos (List.mem_cons_of_mem _ h)]
    · rw [if_neg h]
      by_cases e : i = d
      · subst e
        rw [if_pos List.mem_cons_self]
        simp [Act.put, hi]
      · rw [if_neg (by simp [e, h])]
        simp [Act.put, Array.getElem?_setIfInBounds_ne (Ne.symm e)]
theorem act_putAll {a a0 : Act} {ds : List Nat} (hsz : a.tmps.size = a0.tmps.size) (hdf : a.defers = a0.defers) (hk : ∀ s, s ∉ ds → a.eval (.tmp s) = a0.eval (.tmp s)) : a = putAll (fun d => a.eval (.tmp d)) ds a0 := by
  obtain ⟨t, df⟩ := a
  obtain ⟨t0, df0⟩ := a0
  have h1 : t = (putAll (fun d => (⟨t, df⟩ : Act).eval (.tmp d)) ds ⟨t0, df0⟩).tmps := by
    apply Array.ext_getElem?
    intro i
    by_cases hi : i < t0.size
    · rw [putAll_get _ _ _ _ hi]
      have hi' : i < t.size := by have : t.size = t0.size := hsz; omega
      by_cases h : i ∈ ds
      · rw [if_pos h]
        simp [Act.eval, hi']
      · rw [if_neg h]
        have := hk i h
        simp only [Act.eval, Array.getD_eq_getD_getElem?] at this
        rw [Array.getElem?_eq_getElem hi', Array.getElem?_eq_getElem hi] at this ⊢
        exact congrArg some this
    · rw [Array.getElem?_eq_none (by have : t.size = t0.size := hsz; omega), Array.getElem?_eq_none (by rw [putAll_size]; show t0.size ≤ i; omega)]
  have h2 : df = (putAll (fun d => (⟨t, df⟩ : Act).eval (.tmp d)) ds ⟨t0, df0⟩).defers := by rw [putAll_defers]; exact hdf
  rcases hp : putAll (fun d => (⟨t, df⟩ : Act).eval (.tmp d)) ds ⟨t0, df0⟩ with ⟨t1, d1⟩
  rw [hp] at h1 h2
  rw [h1, h2]
def listedN (n m : Nat) : Array Bool := (List.replicate n true ++ List.replicate m false).toArray
def reachB (ops : Array Oper) : Nat → Nat → Nat → Bool
  | 0, _, _ => false
  | f + 1, i, j => match ops[i]? with
    | some o => o.after.any fun e => Region.binds .any e && (decide (e.on = j) || reachB ops f e.on j)
    | none => false
def onceG (ops : Array Oper) (n nt : Nat) : Bool := (dstsN ops n).all (fun d => decide (d < nt)) && decide (dstsN ops n).Nodup && (List.range n).all fun j => match ops[j]? with
  | some o => o.dst.isSome
  | none => true
def edgeB (ops : Array Oper) (o : Oper) (i d : Nat) : Bool := (o.after.any fun e => Region.binds .any e && decide (e.on = i)) && decide (ops[i]?.bind (·.dst) = some d)
structure Jg (H : Nat → Gp) (ops : Array Oper) (n : Nat) (a0 : Act) (w0 : World) (listed : Array Bool) (a : Act) (w : World) : Prop where
  size : a.tmps.size = a0.tmps.size
  defers : a.defers = a0.defers
  keep : ∀ s, s ∉ dstsN ops n → a.eval (.tmp s) = a0.eval (.tmp s)
  lsize : listed.size = ops.size
  slots : ∀ j o d, ops[j]? = some o → o.dst = some d → listed.getD j false = true → (H j).p w (a.eval (.tmp d))
  clos : ∀ j o, ops[j]? = some o → listed.getD j false = true → ∀ e ∈ o.after, Region.binds .any e = true → listed.getD e.on false = true
  bel : Below w0.heap.size w0 w
  tail : ∀ j, n ≤ j → listed.getD j false = false
theorem mem_dsts {ops : Array Oper} {n j d : Nat} {o : Oper} (hj : ops[j]? = some o) (hd : o.dst = some d) (hn : j < n) : d ∈ dstsN ops n := by
  refine List.mem_filterMap.2 ⟨o, ?_, hd⟩
  have : (ops.toList.take n)[j]? = some o := by rw [List.getElem?_take, if_pos hn, Array.getElem?_toList]; exact hj
  exact List.mem_of_getElem? this
theorem dst_once {l : List Oper} (h : (l.filterMap (·.dst)).Nodup) : ∀ {i j : Nat} {o o' : Oper} {d : Nat}, l[i]? = some o → l[j]? = some o' → o.dst = some d → o'.dst = some d → i = j := by
  induction l with
  | nil => intro i j o o' d h1; simp at h1
  | cons x l ih =>
    intro i j o o' d h1 h2 h3 h4
    have hm : ∀ {k : Nat} {y : Oper}, l[k]? = some y → y.dst = some d → d ∈ l.filterMap (·.dst) := fun hk hy => List.mem_filterMap.2 ⟨_, List.mem_of_getElem? hk, hy⟩
    have hl : (l.filterMap (·.dst)).Nodup := by
      rcases hx : x.dst with _ | dx
      · rw [List.filterMap_cons_none hx] at h; exact h
      · rw [List.filterMap_cons_some hx] at h; exact (List.nodup_cons.1 h).2
    rcases i with _ | i
    · rcases j with _ | j
      · rfl
      · simp at h1 h2
        subst h1
        rw [List.filterMap_cons_some h3] at h
        exact absurd (hm h2 h4) (List.nodup_cons.1 h).1
    · rcases j with _ | j
      · simp at h1 h2
        subst h2
        rw [List.filterMap_cons_some h4] at h
        exact absurd (hm h1 h3) (List.nodup_cons.1 h).1
      · simp at h1 h2
        rw [ih hl h1 h2 h3 h4]
theorem once_of {ops : Array Oper} {n i j d : Nat} {o o' : Oper} (h : (dstsN ops n).Nodup) (hi : ops[i]? = some o) (hj : ops[j]? = some o') (hin : i < n) (hjn : j < n) (h1 : o.dst = some d) (h2 : o'.dst = some d) : i = j := by
  have t : ∀ {k : Nat} {y : Oper}, ops[k]? = some y → k < n → (ops.toList.take n)[k]? = some y := fun hk hn => by rw [List.getElem?_take, if_pos hn, Array.getElem?_toList]; exact hk
  exact dst_once h (t hi hin) (t hj hjn) h1 h2
section
variable {P : Program} {H : Nat → Gp} {ops : Array Oper} {n : Nat} {a0 : Act} {w0 : World} {Q : Exit → Act → World → Prop}
theorem Jg.step (hn : (dstsN ops n).Nodup) (hb : ∀ d ∈ dstsN ops n, d < a0.tmps.size) {listed : Array Bool} {a : Act} {w w' : World} {v : Value} (h : Jg H ops n a0 w0 listed a w) {i : Nat} {o : Oper} (hi : ops[i]? = some o) (hin : i < n) {d : Nat} (hd : o.dst = some d) (ha : ∀ e ∈ o.after, Region.binds .any e = true → listed.getD e.on false = true)
    (hv : (H i).p w' v) (hw : Below w.heap.size w w') : Jg H ops n a0 w0 (listed.setIfInBounds i true) (a.put o.dst v) w' := by
  have his : i < listed.size := by rw [h.lsize]; exact (Array.getElem?_eq_some_iff.1 hi).1
  have hdm := mem_dsts hi hd hin
  refine ⟨by rw [hd]; simp [Act.put, h.size], by rw [hd]; exact h.defers, fun s hs => ?_, by simp [h.lsize], fun m om dm hm hdm' hl => ?_, fun m om hm hl e he hb => ?_, h.bel.trans (hw.mono h.bel.size), fun m hm => ?_⟩
  · rw [evput_ne a v (by rw [hd]; intro e; injection e with e; subst e; exact hs hdm)]
    exact h.keep s hs
  · rw [listed_set _ _ _ his] at hl
    by_cases e : m = i
    · subst e
      rw [hi] at hm
      obtain rfl := Option.some.inj hm
      rw [hd] at hdm'
      obtain rfl := Option.some.inj hdm'
      rw [hd, evput_self a v (by rw [h.size]; exact hb _ hdm)]
      exact hv
    · rw [if_neg e] at hl
      have hmn : m < n := by
        rcases Nat.lt_or_ge m n with h' | h'
        · exact h'
        · rw [h.tail m h'] at hl; cases hl
      rw [evput_ne a v (fun e' => e (once_of hn hm hi hmn hin hdm' (by rw [e'])))]
      exact (H m).mono _ _ _ (h.slots m om dm hm hdm' hl) hw
  · rw [listed_set _ _ _ his] at hl ⊢
    by_cases e1 : e.on = i
    · rw [if_pos e1]
    · rw [if_neg e1]
      by_cases e2 : m = i
      · subst e2
        rw [hi] at hm
        obtain rfl := Option.some.inj hm
        exact ha e he hb
      · rw [if_neg e2] at hl
        exact h.clos m om hm hl e he hb
  · rw [listed_set _ _ _ his, if_neg (by omega)]; exact h.tail m hm
theorem reach_listed {listed : Array Bool} (hc : ∀ j o, ops[j]? = some o → listed.getD j false = true → ∀ e ∈ o.after, Region.binds .any e = true → listed.getD e.on false = true) {j : Nat} : ∀ (f i : Nat) (o : Oper), ops[i]? = some o → (∀ e ∈ o.after, Region.binds .any e = true → listed.getD e.on false = true) → reachB ops f i j = true → listed.getD j false = true := by
  intro f
  induction f with
  | zero => intro i o _ _ h; cases h
  | succ f ih =>
    intro i o hi ha h
    unfold reachB at h
    rw [hi] at h
    obtain ⟨k, hk, h3⟩ := Array.any_eq_true.1 h
    rw [Bool.and_eq_true, Bool.or_eq_true, decide_eq_true_eq] at h3
    have hl := ha _ (Array.getElem_mem hk) h3.1
    rcases h3.2 with h4 | h4
    · rw [← h4]; exact hl
    · rcases ho : ops[(o.after[k]).on]? with _ | o2
      · cases f with
        | zero => cases h4
        | succ f => unfold reachB at h4; rw [ho] at h4; cases h4
      · exact ih _ o2 ho (fun e he hb => hc _ o2 ho hl e he hb) h4
theorem listed_is {listed : Array Bool} (hsz : listed.size = ops.size) (hn : n ≤ ops.size) (h1 : ∀ j, j < n → listed.getD j false = true) (h2 : ∀ j, n ≤ j → listed.getD j false = false) : listed = listedN n (ops.size - n) := by
  apply Array.ext_getElem?
  intro i
  rw [show (listedN n (ops.size - n))[i]? = (List.replicate n true ++ List.replicate (ops.size - n) false)[i]? from List.getElem?_toArray]
  by_cases hi : i < n
  · rw [List.getElem?_append_left (by simpa using hi), List.getElem?_replicate, if_pos hi]
    have := h1 i hi
    have hl : i < listed.size := by omega
    rw [Array.getD_eq_getD_getElem?, Array.getElem?_eq_getElem hl] at this
    rw [Array.getElem?_eq_getElem hl]
    exact congrArg some this
  · rw [List.getElem?_append_right (by simp; omega), List.length_replicate, List.getElem?_replicate]
    have := h2 i (by omega)
    by_cases hl : i < listed.size
    · rw [Array.getD_eq_getD_getElem?, Array.getElem?_eq_getElem hl] at this
      rw [Array.getElem?_eq_getElem hl, if_pos (by omega)]
      exact congrArg some this
    · rw [Array.getElem?_eq_none (by omega), if_neg (by omega)]
end
end Go.Proofs.Ytfkjahpcpmcefaa
namespace Go.Proofs.Ytfkjahpcpmcefaa
open Go Go.RowKit
set_option maxRecDepth 100000
set_option linter.unusedVariables false
section
variable {P : Program} {a : Act} {w w' : World} {ty : TypeId} {R : Value → World → Prop} {op : Op} {v : Value}
theorem goes_val (h : (execOp a.eval (sop op ty)).run P w = .ok (.value v) w) (hR : R v w) : Goes P a w op ty (fun v w' => R v w' ∧ Below w.heap.size w w') := .inl ⟨v, w, h, hR, Below.refl _ _⟩
theorem goes_move {x : Operand} (h : a.eval x = v) (hR : R v w) : Goes P a w (.move x) ty (fun v w' => R v w' ∧ Below w.heap.size w w') := by
  subst h; exact goes_val (x_move _ _ _ _) hR
theorem goes_load {t : TypeId} {x : Operand} {v1 : Value} (h1 : a.eval x = v1) (h : (Instr.loadAt t v1).run P w = .ok v w) (hR : R v w) : Goes P a w (.load t x) ty (fun v w' => R v w' ∧ Below w.heap.size w w') := by
  subst h1; exact goes_val (x_load _ _ _ _ _ _ h) hR
theorem run_call0 {f : FuncId} (hcf : (callFunc f #[]).run P w = .ok (.enter f #[]) w) : (execOp a.eval (sop (.call { callee := .value (.func f), args := #[], argTypes := #[] }) ty)).run P w = .ok (.enter f #[]) w := by
  generalize hρ : a.eval = ρ
  have hf : ρ (.func f) = .func (.func f) #[] #[] := by rw [← hρ]; rfl
  clear hρ
  unfold execOp sop
  simp [resolve, invoke, hf, Deferred.ofValue, hcf]
theorem run_call2 {f : FuncId} {x y : Operand} {t u : TypeId} {v v2 : Value} (h : a.eval x = v) (h2 : a.eval y = v2) (hcf : (callFunc f #[v, v2]).run P w = .ok (.enter f #[v, v2]) w) : (execOp a.eval (sop (.call { callee := .value (.func f), args := #[x, y], argTypes := #[t, u] }) ty)).run P w = .ok (.enter f #[v, v2]) w := by
  generalize hρ : a.eval = ρ at h h2 ⊢
  have hf : ρ (.func f) = .func (.func f) #[] #[] := by rw [← hρ]; rfl
  clear hρ
  unfold execOp sop
  simp [resolve, invoke, h, h2, hf, Deferred.ofValue, hcf]
theorem goes_call0 {f : FuncId} (hcf : (callFunc f #[]).run P w = .ok (.enter f #[]) w) (h : Calls P f #[] w fun e w' => ∃ v, e = .returned v ∧ R v w' ∧ Below w.heap.size w w') : Goes P a w (.call { callee := .value (.func f), args := #[], argTypes := #[] }) ty (fun v w' => R v w' ∧ Below w.heap.size w w') := .inr ⟨f, #[], run_call0 hcf, h⟩
theorem goes_call1 {f : FuncId} {x : Operand} {t : TypeId} {v1 : Value} (h1 : a.eval x = v1) (hcf : (callFunc f #[v1]).run P w = .ok (.enter f #[v1]) w) (h : Calls P f #[v1] w fun e w' => ∃ v, e = .returned v ∧ R v w' ∧ Below w.heap.size w w') : Goes P a w (.call { callee := .value (.func f), args := #[x], argTypes := #[t] }) ty (fun v w' => R v w' ∧ Below w.heap.size w w') := .inr ⟨f, #[v1], run_call1 h1 hcf, h⟩
theorem goes_call2 {f : FuncId} {x y : Operand} {t u : TypeId} {v1 v2 : Value} (h1 : a.eval x = v1) (h2 : a.eval y = v2) (hcf : (callFunc f #[v1, v2]).run P w = .ok (.enter f #[v1, v2]) w) (h : Calls P f #[v1, v2] w fun e w' => ∃ v, e = .returned v ∧ R v w' ∧ Below w.heap.size w w') : Goes P a w (.call { callee := .value (.func f), args := #[x, y], argTypes := #[t, u] }) ty (fun v w' => R v w' ∧ Below w.heap.size w w') := .inr ⟨f, #[v1, v2], run_call2 h1 h2 hcf, h⟩
end
end Go.Proofs.Ytfkjahpcpmcefaa
namespace Go.Proofs.Ytfkjahpcpmcefaa
open Go Go.RowKit
set_option maxRecDepth 100000
set_option linter.unusedVariables false
structure Gs where
  H : Nat → Gp
  H2 : Nat → Value → Prop
  K : Value → World → Prop
  le : ∀ j w v, (H j).p w v → H2 j v
structure Js (C : Gs) (ops : Array Oper) (s m db : Nat) (a0 : Act) (w0 : World) (listed : Array Bool) (a : Act) (w : World) : Prop where
  size : a.tmps.size = a0.tmps.size
  defers : a.defers = a0.defers
  keep : ∀ s, s ∉ dstsN ops m → a.eval (.tmp s) = a0.eval (.tmp s)
  lsize : listed.size = ops.size
  pre : listed.getD s false = false → (∀ j o d, ops[j]? = some o → o.dst = some d → listed.getD j false = true → (C.H j).p w (a.eval (.tmp d))) ∧ Below w0.heap.size w0 w
  post : listed.getD s false = true → (∀ j o d, ops[j]? = some o → o.dst = some d → listed.getD j false = true → C.H2 j (a.eval (.tmp d))) ∧ C.K (a.eval (.tmp db)) w
  clos : ∀ j o, ops[j]? = some o → listed.getD j false = true → ∀ e ∈ o.after, Region.binds .any e = true → listed.getD e.on false = true
  tail : ∀ j, m ≤ j → listed.getD j false = false
section
variable {P : Program} {C : Gs} {ops : Array Oper} {s m db : Nat} {a0 : Act} {w0 : World} {Q : Exit → Act → World → Prop}
theorem Js.step (hn : (dstsN ops m).Nodup) (hb : ∀ d ∈ dstsN ops m, d < a0.tmps.size) {jb : Nat} {ob : Oper} (hjb : ops[jb]? = some ob) (hdb : ob.dst = some db) (hjbm : jb < m) (hjbs : reachB ops ops.size s jb = true) {so : Oper} (hs : ops[s]? = some so)
    {listed : Array Bool} {a : Act} {w w' : World} {v : Value} (h : Js C ops s m db a0 w0 listed a w) {i : Nat} {o : Oper} (hi : ops[i]? = some o) (hin : i < m) (his : i ≠ s) {d : Nat} (hd : o.dst = some d) (ha : ∀ e ∈ o.after, Region.binds .any e = true → listed.getD e.on false = true) (hu : listed.getD i true = false)
    (hpre : listed.getD s false = false → (C.H i).p w' v ∧ Below w.heap.size w w') (hpost : listed.getD s false = true → C.H2 i v ∧ w' = w) : Js C ops s m db a0 w0 (listed.setIfInBounds i true) (a.put o.dst v) w' := by
  have hil : i < listed.size := by rw [h.lsize]; exact (Array.getElem?_eq_some_iff.1 hi).1
  have hdm := mem_dsts hi hd hin
  have hsl : (listed.setIfInBounds i true).getD s false = listed.getD s false := by rw [listed_set _ _ _ hil, if_neg (Ne.symm his)]
  have old : ∀ m' om dm, ops[m']? = some om → om.dst = some dm → (listed.setIfInBounds i true).getD m' false = true → m' ≠ i → listed.getD m' false = true ∧ (a.put o.dst v).eval (.tmp dm) = a.eval (.tmp dm) := fun m' om dm hm hdm' hl e => by
    rw [listed_set _ _ _ hil, if_neg e] at hl
    have hmn : m' < m := by
      rcases Nat.lt_or_ge m' m with h' | h'
      · exact h'
      · rw [h.tail m' h'] at hl; cases hl
    exact ⟨hl, evput_ne a v (fun e' => e (once_of hn hm hi hmn hin hdm' (by rw [e'])))⟩
  have new : (a.put o.dst v).eval (.tmp d) = v := by rw [hd]; exact evput_self a v (by rw [h.size]; exact hb _ hdm)
  refine ⟨by rw [hd]; simp [Act.put, h.size], by rw [hd]; exact h.defers, fun s' hs' => ?_, by simp [h.lsize], fun hf => ?_, fun hf => ?_, fun m' om hm hl e he hb => ?_, fun m' hm => ?_⟩
  · rw [evput_ne a v (by rw [hd]; intro e; injection e with e; subst e; exact hs' hdm)]
    exact h.keep s' hs'
  · rw [hsl] at hf
    obtain ⟨p1, p2⟩ := h.pre hf
    obtain ⟨q1, q2⟩ := hpre hf
    refine ⟨fun m' om dm hm hdm' hl => ?_, p2.trans (q2.mono p2.size)⟩
    by_cases e : m' = i
    · subst e
      rw [hi] at hm
      obtain rfl := Option.some.inj hm
      rw [hd] at hdm'
      obtain rfl := Option.some.inj hdm'
      rw [new]; exact q1
    · obtain ⟨r1, r2⟩ := old m' om dm hm hdm' hl e
      rw [r2]
      exact (C.H m').mono _ _ _ (p1 m' om dm hm hdm' r1) q2
  · rw [hsl] at hf
    obtain ⟨p1, p2⟩ := h.post hf
    obtain ⟨q1, rfl⟩ := hpost hf
    refine ⟨fun m' om dm hm hdm' hl => ?_, ?_⟩
    · by_cases e : m' = i
      · subst e
        rw [hi] at hm
        obtain rfl := Option.some.inj hm
        rw [hd] at hdm'
        obtain rfl := Option.some.inj hdm'
        rw [new]; exact q1
      · obtain ⟨r1, r2⟩ := old m' om dm hm hdm' hl e
        rw [r2]
        exact p1 m' om dm hm hdm' r1
    · have hjl : listed.getD jb false = true := reach_listed h.clos _ s so hs (fun e he hb => h.clos s so hs hf e he hb) hjbs
      have hne : jb ≠ i := fun e => by
        subst e
        rw [listed_no hu] at hjl; cases hjl
      rw [evput_ne a v (fun e' => hne (once_of hn hjb hi hjbm hin hdb (by rw [e'])))]
      exact p2
  · rw [listed_set _ _ _ hil] at hl ⊢
    by_cases e1 : e.on = i
    · rw [if_pos e1]
    · rw [if_neg e1]
      by_cases e2 : m' = i
      · subst e2
        rw [hi] at hm
        obtain rfl := Option.some.inj hm
        exact ha e he hb
      · rw [if_neg e2] at hl
        exact h.clos m' om hm hl e he hb
  · rw [listed_set _ _ _ hil, if_neg (by omega)]; exact h.tail m' hm
theorem Js.stored {listed : Array Bool} {a : Act} {w w' : World} (h : Js C ops s m db a0 w0 listed a w) {o : Oper} (hs : ops[s]? = some o) (hsm : s < m) (hd : o.dst = none) (hu : listed.getD s true = false) (ha : ∀ e ∈ o.after, Region.binds .any e = true → listed.getD e.on false = true)
    (hK : C.K (a.eval (.tmp db)) w') : Js C ops s m db a0 w0 (listed.setIfInBounds s true) (a.put o.dst undef) w' := by
  have hil : s < listed.size := by rw [h.lsize]; exact (Array.getElem?_eq_some_iff.1 hs).1
  have e0 : ∀ t : Nat, (a.put o.dst undef).eval (.tmp t) = a.eval (.tmp t) := fun t => by rw [hd]; rfl
  refine ⟨by rw [hd]; exact h.size, by rw [hd]; exact h.defers, fun s' hs' => by rw [e0]; exact h.keep s' hs', by simp [h.lsize], fun hf => ?_, fun _ => ?_, fun m' om hm hl e he hb => ?_, fun m' hm => ?_⟩
  · rw [listed_set _ _ _ hil, if_pos rfl] at hf; cases hf
  · refine ⟨fun m' om dm hm hdm' hl => ?_, by rw [e0]; exact hK⟩
    rw [listed_set _ _ _ hil] at hl
    by_cases e : m' = s
    · subst e
      rw [hs] at hm
      obtain rfl := Option.some.inj hm
      rw [hd] at hdm'; cases hdm'
    · rw [if_neg e] at hl
      rw [e0]
      exact C.le _ _ _ ((h.pre (listed_no hu)).1 m' om dm hm hdm' hl)
  · rw [listed_set _ _ _ hil] at hl ⊢
    by_cases e1 : e.on = s
    · rw [if_pos e1]
    · rw [if_neg e1]
      by_cases e2 : m' = s
      · subst e2
        rw [hs] at hm
        obtain rfl := Option.some.inj hm
        exact ha e he hb
      · rw [if_neg e2] at hl
        exact h.clos m' om hm hl e he hb
  · rw [listed_set _ _ _ hil, if_neg (by omega)]; exact h.tail m' hm
end
end Go.Proofs.Ytfkjahpcpmcefaa
namespace Go.Proofs.Ytfkjahpcpmcefaa.Co
open Go Go.RowKit
open Qu (Cf)
set_option maxRecDepth 100000
set_option linter.unusedVariables false
theorem bigC_any (A0 A1 A2 : Option Addr) (n0 n1 n2 k0 k1 k2 n : Nat) (hn : n ≤ 1000000) (w : World) :
    Calls Try.prog 6 #[.agg #[.slice A0 n0 k0, .slice A1 n1 k1, .slice A2 n2 k2], .int .i64 (n : Int)] w fun e w' => e = .returned (.bool (decide (n < n0) || decide (n < n1) || decide (n < n2))) ∧ Below w.heap.size w w' := by
  have hb : Below w.heap.size w (w.alloc (.cells #[.slice A0 n0 k0, .slice A1 n1 k1, .slice A2 n2 k2] 24)) := (Below.refl _ w).alloc (Nat.le_refl _) _
  have HB := hid hb
  clear hb
  by_cases h0 : n < n0
  · have h0' : (n : Int) < (n0 : Int) := by omega
    have HE : Hid ((decide (n < n0) || decide (n < n1) || decide (n < n2)) = true) := hid (by simp [h0])
    rw [HE.out]
    clear h0
    go_enter Try.func6, Try.ntmps6
    go_wp2_with fail
    go_ret
    exact ⟨rfl, HB.out⟩
  · have h0' : ¬ (n : Int) < (n0 : Int) := by omega
    by_cases h1 : n < n1
    · have h1' : (n : Int) < (n1 : Int) := by omega
      have HE : Hid ((decide (n < n0) || decide (n < n1) || decide (n < n2)) = true) := hid (by simp [h1])
      rw [HE.out]
      clear h0 h1
      go_enter Try.func6, Try.ntmps6
      go_wp2_with fail
      go_ret
      exact ⟨rfl, HB.out⟩
    · have h1' : ¬ (n : Int) < (n1 : Int) := by omega
      by_cases h2 : n < n2
      · have h2' : (n : Int) < (n2 : Int) := by omega
        have HE : Hid ((decide (n < n0) || decide (n < n1) || decide (n < n2)) = true) := hid (by simp [h2])
        rw [HE.out]
        clear h0 h1 h2
        go_enter Try.func6, Try.ntmps6
        go_wp2_with fail
        go_ret
        exact ⟨rfl, HB.out⟩
      · have h2' : ¬ (n : Int) < (n2 : Int) := by omega
        have HE : Hid ((decide (n < n0) || decide (n < n1) || decide (n < n2)) = false) := hid (by simp [h0, h1, h2])
        rw [HE.out]
        clear h0 h1 h2
        go_enter Try.func6, Try.ntmps6
        go_wp2_with fail
        go_ret
        exact ⟨rfl, HB.out⟩
def nxP (lo : Nat) (x : Cf) (b : Bool) : Gp := ⟨fun w v => ∃ (m : M3) (B N : Nat), v = .tuple #[.agg #[.slice m.a0 m.n0 m.k0, .slice m.a1 m.n1 m.k1, .slice m.a2 m.n2 m.k2], .bool b] ∧ lo ≤ B ∧ N ≤ w.heap.size ∧ OwnC w B N x m, fun w w' v ⟨m, B, N, h0, h1, h2, h3⟩ hb => ⟨m, B, N, h0, h1, Nat.le_trans h2 hb.size, h3.below hb⟩⟩
def mP (lo : Nat) (x : Cf) : Gp := ⟨fun w v => ∃ (m : M3) (B N : Nat), v = .agg #[.slice m.a0 m.n0 m.k0, .slice m.a1 m.n1 m.k1, .slice m.a2 m.n2 m.k2] ∧ lo ≤ B ∧ N ≤ w.heap.size ∧ OwnC w B N x m, fun w w' v ⟨m, B, N, h0, h1, h2, h3⟩ hb => ⟨m, B, N, h0, h1, Nat.le_trans h2 hb.size, h3.below hb⟩⟩
def zero3 : Array Value := #[.slice none 0 0, .slice none 0 0, .slice none 0 0]
def H7 (mx : M3) (gy n cy cap : Nat) (A : Option Addr) (lo : Nat) (x : Cf) (b : Bool) : Nat → Gp
  | 0 => Gp.is (.agg #[.slice mx.a0 mx.n0 mx.k0, .slice mx.a1 mx.n1 mx.k1, .slice mx.a2 mx.n2 mx.k2])
  | 1 => Gp.is (.slice (some ⟨gy, 0, none⟩) (n + 5) cy)
  | 2 => Gp.is (.slice A n cap)
  | 3 => Gp.is (.int .i64 n)
  | 4 => Gp.is (.slice (some ⟨gy, 0, none⟩) n cy)
  | 5 => nxP lo x b
  | 6 => nxP lo x b
  | 7 => mP lo x
  | 8 => Gp.is (.bool b)
  | 9 => Gp.box lo zero3 24
  | _ => Gp.any
theorem run_lenI {ρ : Operand → Value} {ty : TypeId} {w : World} {x : Operand} {A : Option Addr} {n c : Nat} (h : ρ x = .slice A n c) : (execOp ρ (sop (.call { callee := .builtin .len, args := #[x], argTypes := #[22] }) ty)).run Try.prog w = .ok (.value (.int .i64 n)) w := by
  unfold execOp sop; simp only []; go_simp
end Go.Proofs.Ytfkjahpcpmcefaa.Co
namespace Go.Proofs.Ytfkjahpcpmcefaa.Co
open Go Go.RowKit
open Qu (Cf)
set_option maxRecDepth 100000
set_option linter.unusedVariables false
attribute [local go_sem ↓] Im.loadAt_conf3 Im.storeAt_conf3 loadAt_mem storeAt_mem
def bigM (m : M3) : Bool := decide (300 < m.n0) || decide (300 < m.n1) || decide (300 < m.n2)
theorem bigM_any (m : M3) (w : World) : Calls Try.prog 6 #[.agg #[.slice m.a0 m.n0 m.k0, .slice m.a1 m.n1 m.k1, .slice m.a2 m.n2 m.k2], .int .i64 300] w fun e w' => e = .returned (.bool (bigM m)) ∧ Below w.heap.size w w' := bigC_any m.a0 m.a1 m.a2 m.n0 m.n1 m.n2 m.k0 m.k1 m.k2 300 (by decide) w
theorem bigM_no {m : M3} (h : bigM m = false) : m.n0 ≤ 300 ∧ m.n1 ≤ 300 ∧ m.n2 ≤ 300 := by
  unfold bigM at h
  simp only [Bool.or_eq_false_iff, decide_eq_false_iff_not] at h
  omega
theorem box_keep {w5 v5 : World} {B : Nat} {x : Cf} {m : M3} (ho : OwnC w5 B w5.heap.size x m) (h : v5 = w5.alloc (.cells #[.slice m.a0 m.n0 m.k0, .slice m.a1 m.n1 m.k1, .slice m.a2 m.n2 m.k2] 24)) : ∀ W, Below v5.heap.size v5 W → Bx W w5.heap.size 24 m ∧ OwnC W B w5.heap.size x m ∧ Below w5.heap.size w5 W ∧ w5.heap.size + 1 ≤ W.heap.size := fun W hb => by
  obtain ⟨q1, q2, q3, _⟩ := box_new h
  exact ⟨q1.below hb q1.lt, (ho.below q2).below hb, q2.trans (hb.mono q2.size), by have := hb.size; omega⟩
theorem short_add {c : Cf} (h : Short c) (n : Int) : Short (add c n).1 := by
  rw [add_is]
  dsimp only
  split
  · exact ⟨h.1, by simp, by simp⟩
  · exact ⟨by simp [nil], by simp [nil], by simp [nil]⟩
theorem short_drop {c : Cf} (h : Short c) (n : Int) : Short (drop c n).1 := by
  rw [drop_is]
  dsimp only
  split
  · exact ⟨h.1, Nat.le_trans (List.length_filter_le _ _) h.1, by simp⟩
  · exact ⟨by simp [nil], by simp [nil], by simp [nil]⟩
theorem short_next {c : Cf} (h : Short c) (h3 : c.old.length ≤ 3000 ∧ c.lrn.length ≤ 3000) (f : List Int) : Short (next c f).1 := by
  unfold next
  split
  · exact h
  · split
    · exact ⟨h.2.1, by simp, by simp⟩
    · split
      · refine ⟨h.1, ?_, by simp⟩
        have := (Qu.uni_is (c.old ++ c.lrn)).length_le
        rw [List.length_append] at this
        show (Qu.uni (c.old ++ c.lrn)).length ≤ 20000
        omega
      · exact h
end Go.Proofs.Ytfkjahpcpmcefaa.Co
namespace Go.Proofs.Ytfkjahpcpmcefaa
open Go.RowKit
set_option maxHeartbeats 400000 in
theorem count_any (g : FuncId) (cb : Array Value) (p : Int → Bool) (w0 : World) (ht0 : Tells g cb p w0) (eg : ∀ args w, (callFunc g args).run Try.prog w = .ok (.enter g args) w)
    (B : Nat) (A : Option Addr) (c : Nat) (l : List Int) (hl : l.length ≤ 100000) (w : World) (hw0 : Below w0.heap.size w0 w) (h0 : IsInts w B A l) (hB : B ≤ w.heap.size) :
    Calls Try.prog 68 #[.slice A l.length c, .func (.func g) #[] cb] w fun e w' => e = .returned (.int .i64 (l.countP p : Nat)) ∧ Below w.heap.size w w' := by
  have ht := hid ht0
  have hw := hid hw0
  have h := hid h0
  clear ht0 hw0 h0
  go_enter Try.func68, Try.ntmps68
  go_wp2
  go_loopw [5, 10] (fun n i wr => ∃ k m : Nat, k ≤ l.length ∧ m ≤ k ∧ n = .int .i64 m ∧ i = .int .i64 k ∧ Hid (m = (l.take k).countP p) ∧ Below w.heap.size w wr) (fun _ i _ => l.length - (RowKit.intOf i).toNat)
  case atStart => exact ⟨0, 0, by omega, by omega, rfl, rfl, hid (by simp), Below.refl _ _⟩
  case round =>
    obtain ⟨k, m, hk, hm, rfl, rfl, hc, hbel0⟩ := hrel
    have hbel := hid hbel0
    clear hbel0
    by_cases hlt : k < l.length
    · obtain ⟨b, off, rfl, hb, hcell⟩ := h.out.cells k hlt
      have hck : wr.cell? ⟨b, off + k, none⟩ = some (.int .i64 l[k]) := (hbel.out.cell (p := ⟨b, off + k, none⟩) (by show b < _; omega)).trans (hcell k hlt)
      have hcall := ht.out l[k] (h.out.small _ (List.getElem_mem hlt)) wr (hw.out.trans (hbel.out.mono hw.out.size))
      have hs : (l.take (k + 1)).countP p = (l.take k).countP p + if p l[k] then 1 else 0 := by
        rw [List.take_succ_eq_append_getElem hlt, List.countP_append]; simp
      have HS := hid hs
      clear hcell hs
      cases hp : p l[k]
      · rw [hp] at hcall
        have HP := hid hp
        clear hp
        go_wp2_with (go_at_fn g; refine hcall.mono ?_; rintro e w' ⟨rfl, hb'⟩)
        go_roundw
        case rel => exact ⟨k + 1, m, by omega, by omega, rfl, by go_num, hid (by rw [HS.out, HP.out]; simpa using hc.out), bthen hbel.out hb' hbel.out.size⟩
        case measure => simp [RowKit.intOf]; omega
      · rw [hp] at hcall
        have HP := hid hp
        clear hp
        go_wp2_with (go_at_fn g; refine hcall.mono ?_; rintro e w' ⟨rfl, hb'⟩)
        go_roundw
        case rel => exact ⟨k + 1, m + 1, by omega, by omega, by go_num, by go_num, hid (by rw [HS.out, HP.out, ← hc.out]; rfl), bthen hbel.out hb' hbel.out.size⟩
        case measure => simp [RowKit.intOf]; omega
    · obtain rfl : k = l.length := by omega
      go_wp2
      go_ret
      exact ⟨by rw [hc.out, List.take_length]; rfl, hbel.out⟩
theorem majority_any (g : FuncId) (cb : Array Value) (p : Int → Bool) (w0 : World) (ht : Tells g cb p w0) (eg : ∀ args w, (callFunc g args).run Try.prog w = .ok (.enter g args) w)
    (B : Nat) (A : Option Addr) (c : Nat) (l : List Int) (hl : l.length ≤ 100000) (w : World) (hw : Below w0.heap.size w0 w) (h : IsInts w B A l) (hB : B ≤ w.heap.size) :
    Calls Try.prog 60 #[.slice A l.length c, .func (.func g) #[] cb] w fun e w' => e = .returned (.bool (Qu.maj l p)) ∧ Below w.heap.size w w' := by
  have hc := count_any g cb p w0 ht eg B A c l hl w hw h hB
  have hle := List.countP_le_length (p := p) (l := l)
  have hmaj : Qu.maj l p = decide ((l.length : Int).tdiv 2 < (l.countP p : Nat)) := by
    unfold Qu.maj
    refine decide_eq_decide.2 ?_
    rw [show ((l.length : Int).tdiv 2) = ((l.length / 2 : Nat) : Int) from rfl]
    omega
  rw [hmaj]
  generalize l.countP p = m at *
  clear hmaj
  go_enter Try.func60, Try.ntmps60
  go_wp2_with fail
  refine hc.mono ?_
  rintro e w' ⟨rfl, hb⟩
  go_wp2
  go_ret
  exact ⟨rfl, hb⟩
theorem quorum_any (g : FuncId) (cb : Array Value) (p : Int → Bool) (w0 : World) (ht0 : Tells g cb p w0) (eg : ∀ args w, (callFunc g args).run Try.prog w = .ok (.enter g args) w)
    (B : Nat) (c : Qu.Cf) (hs0 : Short c) (a0 a1 a2 : Option Addr) (k0 k1 k2 : Nat) (w : World) (hw0 : Below w0.heap.size w0 w) (h0 : CIs w B c a0 a1 a2 k0 k1 k2) (hB : B ≤ w.heap.size) :
    Calls Try.prog 42 #[.agg #[.slice a0 c.old.length k0, .slice a1 c.new.length k1, .slice a2 c.lrn.length k2], .func (.func g) #[] cb] w fun e w' => e = .returned (.bool (Qu.quo c p)) ∧ Below w.heap.size w w' := by
  have ht := hid ht0
  have hw := hid hw0
  have h := hid h0
  have hs := hid hs0
  clear ht0 hw0 h0 hs0
  have hq : Qu.quo c p = (Qu.maj c.old p && (c.new.isEmpty || Qu.maj c.new p)) := rfl
  have HQ := hid hq
  clear hq
  go_enter Try.func42, Try.ntmps42
  go_wp2_with fail
  refine (majority_any g cb p w0 ht.out eg B a0 k0 c.old (by have := hs.out.1; omega) _ (hw.out.alloc hw.out.size _) (h.out.o.below ((Below.refl _ _).alloc hB _)) (by simp; omega)).mono ?_
  rintro e w1 ⟨rfl, hb10⟩
  have hb1 : Hid (Below w.heap.size w w1) := hid (((Below.refl _ _).alloc (Nat.le_refl _) _).trans (hb10.mono (by simp)))
  have hn1 := h.out.n.below (hb1.out.mono hB)
  have hcell : w1.cell? ⟨w.heap.size, 1, none⟩ = some (.slice a1 c.new.length k1) := by
    rw [hb10.cell (by simp)]
    exact cell_of_row _ w.heap.size 1 _ _ _ (heap_alloc_new w _)
  have HM := hid (majority_any g cb p w0 ht.out eg B a1 k1 c.new (by have := hs.out.2.1; omega) w1 (hw.out.trans (hb1.out.mono hw.out.size)) hn1 (by have := hb1.out.size; omega))
  have hlen := hs.out.2.1
  clear hb10 hn1
  cases hm : Qu.maj c.old p
  · have HE := hid hm
    clear hm
    go_wp2
    go_ret
    exact ⟨by rw [HQ.out, HE.out]; rfl, hb1.out⟩
  · have HE := hid hm
    clear hm
    by_cases hn : c.new = []
    · have h00 : c.new.length = 0 := by rw [hn]; rfl
      have HN := hid hn
      clear hn
      rw [h00] at hcell
      go_wp2
      go_ret
      exact ⟨by rw [HQ.out, HE.out, HN.out]; rfl, hb1.out⟩
    · have h00 : 0 < c.new.length := List.length_pos_iff.2 hn
      have h01 : ((c.new.length : Int) == 0) = false := by rw [beq_eq_false_iff_ne]; omega
      have HN := hid hn
      clear hn
      go_wp2_with fail
      refine HM.out.mono ?_
      rintro e w2 ⟨rfl, hb2⟩
      have H2 := hid hb2
      clear hb2
      go_wp2
      go_ret
      exact ⟨by rw [HQ.out, HE.out]; cases hne : c.new with | nil => exact absurd hne HN.out | cons y ys => rfl, bthen hb1.out H2.out hb1.out.size⟩
end Go.Proofs.Ytfkjahpcpmcefaa
namespace Go.Proofs.Ytfkjahpcpmcefaa
open Go.RowKit Go.Maps
theorem keyI : Keyed Try.prog 3 := int_keyed Try.underlying3
theorem wfI {x : Int} (h : InInt x) : (Lit.int .i64 x).wf = true := by
  obtain ⟨h1, h2⟩ := h
  simp [Lit.wf, IntKind.min, IntKind.max, IntKind.signed, IntKind.bits]; omega
theorem keyOfI {x : Int} (h : InInt x) : keyOf Try.prog 3 (.int .i64 x) = some (.int .i64 x) := keyOf_int_mk Try.underlying3 (wfI h)
theorem keyLitI (x : Int) : WideAt.IsKeyLit (.int .i64 x) := by simp [WideAt.IsKeyLit]
theorem zeroUnit (w : World) : (zeroValue 59).run Try.prog w = .ok (.agg #[]) w := by kernel_rfl
def SetAt (w : World) (b : Nat) (l : List Int) : Prop := ∃ D : DataW Unit, w.ownsMap Try.prog 3 unitElem b l.length D ∧ ∀ x, Maps.has D (.int .i64 x) = decide (x ∈ l)
theorem SetAt.lt {w : World} {b : Nat} {l : List Int} (h : SetAt w b l) : b < w.heap.size := by obtain ⟨D, h1, _⟩ := h; exact h1.lt
theorem SetAt.keep {w w' : World} {b : Nat} {l : List Int} (h : SetAt w b l) (hk : w'.heap[b]? = w.heap[b]?) : SetAt w' b l := by
  obtain ⟨D, ⟨es, clock, hb, r⟩, h2⟩ := h
  exact ⟨D, ⟨es, clock, hk.trans hb, r⟩, h2⟩
theorem SetAt.below {w w' : World} {B b : Nat} {l : List Int} (h : SetAt w b l) (hb : Below B w w') (hlt : b < B) : SetAt w' b l := h.keep (hb.block b hlt)
theorem SetAt.made (w : World) : SetAt (w.alloc (.map #[] 0)) w.heap.size [] := ⟨.map [], World.ownsMap_made _ _ _ _, fun x => by simp [has_eq]⟩
set_option maxRecDepth 100000 in
theorem won1_any (bx b : Nat) (l : List Int) (x : Int) (hx : InInt x) (w : World) (hc : w.cell? ⟨bx, 0, none⟩ = some (.map (some b))) (h : SetAt w b l) :
    Calls Try.prog 43 #[.int .i64 x, .pointer (some ⟨bx, 0, none⟩)] w fun e w' => e = .returned (.bool (decide (x ∈ l))) ∧ Below w.heap.size w w' := by
  obtain ⟨D, hown, hD⟩ := h
  have hkey := keyOfI hx
  have hx' := hD x
  have HX := hid hx'
  have HB := hid ((Below.refl w.heap.size w).alloc (Nat.le_refl _) (.cells #[] 59))
  clear hD hx'
  go_enter Try.func43, Try.ntmps43
  go_wp2_with (first
    | (at_lookup; refine wpList_lookup_own_unit _ rfl _ _ 58 rfl 3 59 keyI Try.underlying58 (zeroUnit _) b l.length D rfl hown _ _ rfl hkey ?_)
    | go_in)
  go_ret
  exact ⟨by rw [← HX.out]; rfl, HB.out⟩
theorem three_new (w : World) (o1 o2 o3 : Obj) : (((w.alloc o1).alloc o2).alloc o3).heap[w.heap.size]? = some o1 ∧ (((w.alloc o1).alloc o2).alloc o3).heap[w.heap.size + 1]? = some o2 ∧ (((w.alloc o1).alloc o2).alloc o3).heap[w.heap.size + 2]? = some o3 ∧
    (((w.alloc o1).alloc o2).alloc o3).heap.size = w.heap.size + 3 ∧ Below w.heap.size w (((w.alloc o1).alloc o2).alloc o3) := by
  refine ⟨?_, ?_, ?_, by simp, (((Below.refl _ w).alloc (Nat.le_refl _) _).alloc (by simp) _).alloc (by simp; omega) _⟩
  · rw [Below.heap_alloc _ _ _ (by simp; omega), Below.heap_alloc _ _ _ (by simp)]; exact heap_alloc_new w o1
  · rw [Below.heap_alloc _ _ _ (by simp)]
    have := heap_alloc_new (w.alloc o1) o2
    rwa [World.size_alloc] at this
  · have := heap_alloc_new ((w.alloc o1).alloc o2) o3
    rwa [World.size_alloc, World.size_alloc] at this
set_option maxRecDepth 100000 in
set_option maxHeartbeats 1000000 in
theorem won_any (B : Nat) (c : Qu.Cf) (hs0 : Short c) (a0 a1 a2 ay : Option Addr) (k0 k1 k2 ky : Nat) (yes : List Int) (hy0 : yes.length ≤ 2000) (w : World) (h0 : CIs w B c a0 a1 a2 k0 k1 k2) (hY0 : IsInts w B ay yes) (hB : B ≤ w.heap.size) :
    Calls Try.prog 21 #[.agg #[.slice a0 c.old.length k0, .slice a1 c.new.length k1, .slice a2 c.lrn.length k2], .slice ay yes.length ky] w fun e w' => e = .returned (.bool (Qu.won c yes)) ∧ Below w.heap.size w w' := by
  have h := hid h0
  have hs := hid hs0
  have hY := hid hY0
  have hmm := @run_makeMap Try.prog
  have hq : Qu.won c yes = Qu.quo c (fun x => decide (x ∈ yes)) := rfl
  rw [hq]
  clear h0 hs0 hY0 hq
  go_enter Try.func21, Try.ntmps21
  go_wp2_with fail
  obtain ⟨q0, q1, q2, q3, q4⟩ := three_new w (.cells #[.slice a0 c.old.length k0, .slice a1 c.new.length k1, .slice a2 c.lrn.length k2] 24) (.map #[] 0) (.cells #[.map (some (w.heap.size + 1))] 58)
  have qs : SetAt (((w.alloc (.cells #[.slice a0 c.old.length k0, .slice a1 c.new.length k1, .slice a2 c.lrn.length k2] 24)).alloc (.map #[] 0)).alloc (.cells #[.map (some (w.heap.size + 1))] 58)) (w.heap.size + 1) [] := by
    have := SetAt.made (w.alloc (.cells #[.slice a0 c.old.length k0, .slice a1 c.new.length k1, .slice a2 c.lrn.length k2] 24))
    rw [World.size_alloc] at this
    exact this.keep (Below.heap_alloc _ _ _ (by simp))
  have H0 := hid q0
  have H2 := hid q2
  have H3 := hid q3
  have H4 := hid q4
  have HS := hid qs
  clear q0 q1 q2 q3 q4 qs
  go_loopw [11] (fun i wr => ∃ k : Nat, k ≤ yes.length ∧ i = .int .i64 k ∧ Hid (Below w.heap.size w wr) ∧ Hid (w.heap.size + 3 ≤ wr.heap.size) ∧ Hid (wr.heap[w.heap.size]? = some (.cells #[.slice a0 c.old.length k0, .slice a1 c.new.length k1, .slice a2 c.lrn.length k2] 24 (0, 0))) ∧
    Hid (wr.heap[w.heap.size + 2]? = some (.cells #[.map (some (w.heap.size + 1))] 58 (0, 0))) ∧ Hid (SetAt wr (w.heap.size + 1) (yes.take k))) (fun i _ => yes.length - (RowKit.intOf i).toNat)
  case atStart => exact ⟨0, by omega, rfl, H4, hid (Nat.le_of_eq H3.out.symm), H0, H2, by simpa using HS⟩
  case round =>
    clear H0 H2 H3 H4 HS
    obtain ⟨k, hk, rfl, hbel, hsz, hc, hm, hset⟩ := hrel
    have cm : wr.cell? ⟨w.heap.size + 2, 0, none⟩ = some (.map (some (w.heap.size + 1))) := cell_of_row wr (w.heap.size + 2) 0 _ _ _ hm.out
    by_cases hlt : k < yes.length
    · obtain ⟨b, off, rfl, hb, hcell⟩ := hY.out.cells k hlt
      have hck : wr.cell? ⟨b, off + k, none⟩ = some (.int .i64 yes[k]) := (hbel.out.cell (p := ⟨b, off + k, none⟩) (by show b < _; omega)).trans (hcell k hlt)
      obtain ⟨D, hown, hD⟩ := hset.out
      have HD := hid hD
      have HIM := hid hown.isMap
      have hkey := keyOfI (hY.out.small _ (List.getElem_mem hlt))
      have hlen : (yes.take k).length = k := by rw [List.length_take]; omega
      rw [hlen] at hown
      have hbnd : k < maxLen := by unfold maxLen; omega
      have HST := hid (List.take_succ_eq_append_getElem hlt)
      have HLT := hid hlt
      have hkx := keyLitI yes[k]
      generalize yes[k] = x at *
      clear hcell hD hlen hlt
      go_wp2_with (first
        | (at_mapUpdate; refine wpList_mapUpdate_own _ rfl _ _ _ 58 rfl 3 59 keyI Try.underlying58 (unitElem (H := Unit)) (w.heap.size + 1) k D rfl hown hbnd _ _ _ rfl rfl hkey _ [] unitElem_mk ?_; intro w1 hown1 hgrow1)
        | go_in)
      have hblk : ∀ j, j < w.heap.size + 3 → j ≠ w.heap.size + 1 → w1.heap[j]? = wr.heap[j]? := fun j hj hne => hgrow1.block j (by have := hsz.out; omega) (fun e => hne (by injection e))
      have HB := hid hblk
      have HO := hid hown1
      have HG := hid hgrow1
      clear hblk hown1 hgrow1 hown
      go_roundw
      case rel =>
        refine ⟨k + 1, by have := HLT.out; omega, by go_num, hid (hbel.out.grown HG.out (by have := hsz.out; omega) (fun j e => by injection e with e; omega)), ?_, hid ((HB.out _ (by omega) (by omega)).trans hc.out), hid ((HB.out _ (by omega) (by omega)).trans hm.out), hid ?_⟩
        · exact hid (Nat.le_trans hsz.out HG.out.size)
        · refine ⟨_, by rw [List.length_take, Nat.min_eq_left (by have := HLT.out; omega)]; exact HO.out, fun y => ?_⟩
          rw [HST.out]
          by_cases hxy : y = x
          · subst hxy
            rw [has_put_same HIM.out hkx]
            simp
          · rw [has_put_other (fun e => hxy (by injection e)), HD.out y]
            simp [hxy]
      case measure => simp [RowKit.intOf]; have := HLT.out; omega
    · obtain rfl : k = yes.length := by omega
      have hset2 : SetAt wr (w.heap.size + 1) yes := by have := hset.out; rwa [List.take_length] at this
      have c0 : wr.cell? ⟨w.heap.size, 0, none⟩ = some (.slice a0 c.old.length k0) := cell_of_row wr w.heap.size 0 _ _ _ hc.out
      have c1 : wr.cell? ⟨w.heap.size, 1, none⟩ = some (.slice a1 c.new.length k1) := cell_of_row wr w.heap.size 1 _ _ _ hc.out
      have c2 : wr.cell? ⟨w.heap.size, 2, none⟩ = some (.slice a2 c.lrn.length k2) := cell_of_row wr w.heap.size 2 _ _ _ hc.out
      have ht : Tells 43 #[.pointer (some ⟨w.heap.size + 2, 0, none⟩)] (fun x => decide (x ∈ yes)) wr := fun x hx w2 hb2 =>
        won1_any (w.heap.size + 2) (w.heap.size + 1) yes x hx w2 ((hb2.cell (by have := hsz.out; show w.heap.size + 2 < _; omega)).trans cm) (hset2.below hb2 hset2.lt)
      have HQ := hid (quorum_any _ _ _ wr ht (enters_of Try.func43 (by kernel_rfl) rfl) B c hs.out a0 a1 a2 k0 k1 k2 wr (Below.refl _ _) (h.out.below (hbel.out.mono hB)) (by have := hsz.out; omega))
      clear hset2 ht
      go_wp2_with fail
      refine HQ.out.mono ?_
      rintro e w3 ⟨rfl, hb3⟩
      have HB3 := hid (bthen hbel.out hb3 hbel.out.size)
      clear hb3
      go_wp2
      go_ret
      exact ⟨rfl, HB3.out⟩
end Go.Proofs.Ytfkjahpcpmcefaa
namespace Go.Proofs.Ytfkjahpcpmcefaa.Co
open Go Go.RowKit
open Qu (Cf)
set_option maxRecDepth 100000
set_option linter.unusedVariables false
attribute [local go_sem ↓] Im.loadAt_conf3 Im.storeAt_conf3 loadAt_mem storeAt_mem
def eqs (b : List Int) (x : Int) (j : Nat) : List Int := (b.take j).filter (fun y => decide (x = y))
theorem eqs_yes {b : List Int} {x : Int} {j : Nat} (h : j < b.length) (he : x = b[j]) : eqs b x (j + 1) = eqs b x j ++ [x] := by
  unfold eqs; rw [List.take_succ_eq_append_getElem h, List.filter_append]; simp [he]
theorem eqs_no {b : List Int} {x : Int} {j : Nat} (h : j < b.length) (he : x ≠ b[j]) : eqs b x (j + 1) = eqs b x j := by
  unfold eqs; rw [List.take_succ_eq_append_getElem h, List.filter_append]; simp [he]
theorem eqs_le (b : List Int) (x : Int) (j : Nat) : (eqs b x j).length ≤ j := Nat.le_trans (List.length_filter_le _ _) (by simp; omega)
theorem both_succ {a b : List Int} {k : Nat} (h : k < a.length) : both (a.take (k + 1)) b = both (a.take k) b ++ eqs b a[k] b.length := by
  unfold both eqs
  rw [List.take_succ_eq_append_getElem h, List.flatMap_append, List.take_length]
  simp
theorem both_len (a b : List Int) : (both a b).length ≤ a.length * b.length := by
  induction a with
  | nil => simp [both]
  | cons x a ih =>
    have : both (x :: a) b = b.filter (fun y => decide (x = y)) ++ both a b := rfl
    rw [this, List.length_append, List.length_cons, Nat.add_mul, Nat.one_mul]
    have := List.length_filter_le (fun y => decide (x = y)) b
    omega
set_option maxHeartbeats 3200000 in
theorem bothL_any (B B' : Nat) (A A' : Option Addr) (c c' n n' : Nat) (l l' : List Int) (hn : n = l.length) (hn' : n' = l'.length) (hl : n * n' ≤ 17000000000000) (hl1 : n ≤ 100000000) (hl2 : n' ≤ 100000000) (w : World) (h : IsInts w B A l) (h' : IsInts w B' A' l') (hB : B ≤ w.heap.size) (hB' : B' ≤ w.heap.size) :
    Calls Try.prog 22 #[.slice A n c, .slice A' n' c'] w fun e w' => ∃ A2 c2 q, e = .returned (.slice A2 q c2) ∧ q = (both l l').length ∧ OwnsI 3 w' w.heap.size A2 c2 (both l l') ∧ Below w.heap.size w w' := by
  obtain ⟨i0, hi, hz0, hz1, hz2⟩ := info_parts I.info_int
  have H := hid (And.intro h (And.intro h' (And.intro hB hB')))
  have HN := hid (And.intro hn hn')
  have HLL : Hid (∀ k, k ≤ n → k * n' ≤ 17000000000000) := hid (fun k hk => Nat.le_trans (Nat.mul_le_mul_right _ hk) hl)
  clear h h' hB hB' hn hn' hl
  go_enter Try.func22, Try.ntmps22
  go_wp2_with fail
  go_loopw [5, 6] (fun v i wr => ∃ (k q : Nat) (A2 : Option Addr) (c2 : Nat), k ≤ n ∧ v = .slice A2 q c2 ∧ i = .int .i64 k ∧ Hid (q = (both (l.take k) l').length ∧ OwnsI 3 wr w.heap.size A2 c2 (both (l.take k) l') ∧ Below w.heap.size w wr)) (fun _ i _ => n - (RowKit.intOf i).toNat)
  case atStart => exact ⟨0, 0, none, 0, by omega, rfl, rfl, hid ⟨rfl, OwnsI.nil _ _ _, Below.refl _ _⟩⟩
  case round =>
    obtain ⟨k, q, A2, c2, hk, rfl, rfl, HR⟩ := hrel
    by_cases hlt : k < n
    · have hkl : k < l.length := by rw [← HN.out.1]; exact hlt
      go_wp2_with fail
      go_loopw [5, 7] (fun v j wx => ∃ (d q : Nat) (A2 : Option Addr) (c2 : Nat), d ≤ n' ∧ v = .slice A2 q c2 ∧ j = .int .i64 d ∧ Hid (q = (both (l.take k) l' ++ eqs l' l[k] d).length ∧ OwnsI 3 wx w.heap.size A2 c2 (both (l.take k) l' ++ eqs l' l[k] d) ∧ Below w.heap.size w wx)) (fun _ j _ => n' - (RowKit.intOf j).toNat)
      case atStart => exact ⟨0, q, A2, c2, by omega, rfl, rfl, hid (by simpa [eqs] using HR.out)⟩
      case round =>
        clear HR
        obtain ⟨d, q, A2, c2, hd, rfl, rfl, HR⟩ := hrel
        by_cases hlt2 : d < n'
        · have hdl : d < l'.length := by rw [← HN.out.2]; exact hlt2
          have hA := (H.out.1.below (HR.out.2.2.mono H.out.2.2.1)).cells k hkl
          have hA' := (H.out.2.1.below (HR.out.2.2.mono H.out.2.2.2)).cells d hdl
          obtain ⟨b, off, rfl, hb, hcell⟩ := hA
          obtain ⟨b', off', rfl, hb', hcell'⟩ := hA'
          have hc1 := hcell k hkl
          have hc2 := hcell' d hdl
          obtain ⟨x, hx⟩ : ∃ x, x = l[k] := ⟨_, rfl⟩
          obtain ⟨y, hy⟩ : ∃ y, y = l'[d] := ⟨_, rfl⟩
          rw [← hx] at hc1
          rw [← hy] at hc2
          have HX := hid (And.intro hx hy)
          clear hcell hcell' hx hy
          by_cases he : x = y
          · have he' : (x == y) = true := by rw [beq_iff_eq]; exact he
            have HE := hid he
            clear he
            go_wp2_with fail
            go_quiet (fail)
            obtain ⟨w9, hw9⟩ : ∃ w9, w9 = wr.drewN nq := ⟨_, rfl⟩
            have hc9 : w9.cell? ⟨b, off + k, none⟩ = some (.int .i64 x) := by rw [hw9]; exact hc1
            have hown : OwnsI 3 w9 w.heap.size A2 c2 (both (l.take k) l' ++ eqs l' l[k] d) := by rw [hw9]; exact HR.out.2.1.drewN _
            have hbel : Below w.heap.size w w9 := by rw [hw9]; exact below_drewN HR.out.2.2 _
            have hbase := hbel.size
            have hln := HR.out.1.symm
            have hxi : InInt x := by rw [HX.out.1]; exact H.out.1.small _ (List.getElem_mem hkl)
            have HS := hid (eqs_yes (x := l[k]) hdl (by rw [← HX.out.1, ← HX.out.2]; exact HE.out))
            have hql : q + 1 ≤ 17000000000000 + 1 + 100000000 := by
              have h1 := both_len (l.take k) l'
              have h2 := eqs_le l' l[k] d
              have h3 := HLL.out k hk
              rw [List.length_take, Nat.min_eq_left (by omega), ← HN.out.2] at h1
              rw [List.length_append] at hln
              omega
            have HXI := hid hxi
            have HBL := hid hbel
            rw [← hw9]
            clear hw9 hc1 hc2 he' hxi hbel
            go_wp2_with (at_builtin; refine wpList_append_intN rfl _ _ 22 rfl w.heap.size 3 i0 Try.underlying22 hi hz0 hz1 hz2 A2 c2 (both (l.take k) l' ++ eqs l' l[k] d) q hln rfl (hown.alloc _) ⟨w9.heap.size, 0, none⟩ 1 x HXI.out rfl (by simp) (both (l.take k) l' ++ eqs l' l[k] d ++ [x]) rfl (by omega) (by simp; omega) ?_)
            intro A3 c3 w5 hown5 hbel5
            have H5 := hid (And.intro hown5 ((HBL.out.alloc HBL.out.size _).trans hbel5))
            have HLN := hid hln
            clear hown hown5 hbel5 hc9 hln
            go_wp2
            go_roundw
            case rel => exact ⟨d + 1, q + 1, A3, c3, by omega, rfl, by go_num, hid ⟨by rw [HS.out, ← List.append_assoc, List.length_append, HLN.out]; rfl, by rw [HS.out]; have := H5.out.1; rw [← HX.out.1] at this ⊢; exact this, H5.out.2⟩⟩
            case measure => simp [RowKit.intOf]; omega
          · have he' : (x == y) = false := by rw [beq_eq_false_iff_ne]; exact he
            have HE := hid (eqs_no (x := l[k]) hdl (by rw [← HX.out.1, ← HX.out.2]; exact he))
            clear he
            go_wp2_with fail
            go_quiet (fail)
            go_wp2
            go_roundw
            case rel => exact ⟨d + 1, q, A2, c2, by omega, rfl, by go_num, hid ⟨by rw [HE.out]; exact HR.out.1, by rw [HE.out]; exact HR.out.2.1.drewN _, below_drewN HR.out.2.2 _⟩⟩
            case measure => simp [RowKit.intOf]; omega
        · obtain rfl : d = n' := by omega
          have hend : both (l.take (k + 1)) l' = both (l.take k) l' ++ eqs l' l[k] d := by rw [both_succ hkl, HN.out.2]
          rw [← hend] at HR
          go_wp2_with fail
          go_roundw
          case rel => exact ⟨k + 1, q, A2, c2, by omega, rfl, by go_num, HR⟩
          case measure => simp [RowKit.intOf]; omega
    · obtain rfl : k = n := by omega
      rw [HN.out.1, List.take_length] at HR
      go_wp2_with fail
      go_ret
      exact ⟨A2, c2, q, rfl, HR.out.1, HR.out.2.1, HR.out.2.2⟩
def stp (p : Int) (c : Cf) (n : Int) (f : List Int) : Cf × Bool := if p = 0 then ((add c n).1, (add c n).2 == 0) else if p = 1 then ((drop c n).1, (drop c n).2 == 0) else next c f
set_option maxHeartbeats 3200000 in
theorem stepped_any (B B' : Nat) (c : Cf) (hs : Short c) (m : M3) (how node : Int) (hnode : InInt node) (A' : Option Addr) (n' k' : Nat) (f : List Int) (hn' : n' = f.length) (hl' : n' ≤ 100000) (w : World) (h : InC w B c m) (h' : IsInts w B' A' f) (hB : B ≤ w.heap.size) (hB' : B' ≤ w.heap.size) :
    Calls Try.prog 19 #[.agg #[.slice m.a0 m.n0 m.k0, .slice m.a1 m.n1 m.k1, .slice m.a2 m.n2 m.k2], .int .i64 how, .int .i64 node, .slice A' n' k'] w (GotB w (stp (how % 3) c node f).1 (stp (how % 3) c node f).2) := by
  obtain ⟨w2, hw2⟩ : ∃ w2, w2 = (w.alloc (.cells #[.slice m.a0 m.n0 m.k0, .slice m.a1 m.n1 m.k1, .slice m.a2 m.n2 m.k2] 24)).alloc (.cells #[.slice none 0 0, .slice none 0 0, .slice none 0 0] 24) := ⟨_, rfl⟩
  have hq := box2 w 24 m
  rw [← hw2] at hq
  have hld := hq.2.2.1.ld
  have HQ := hid hq
  have HP := hid (pick_some how 3 (by decide) (by decide) w2)
  have hi2 := h.below (hq.1.mono hB)
  have hf2 := h'.below (hq.1.mono hB')
  have hB2 : B ≤ w2.heap.size := by have := hq.2.1; omega
  have hB2' : B' ≤ w2.heap.size := by have := hq.2.1; omega
  have hp0 := Int.emod_nonneg how (show (3 : Int) ≠ 0 by decide)
  have hp1 := Int.emod_lt_of_pos how (show (0 : Int) < 3 by decide)
  obtain ⟨p, hp⟩ : ∃ p, p = how % 3 := ⟨_, rfl⟩
  rw [← hp] at HP hp0 hp1 ⊢
  have HW2 := hid hw2
  have h3 : p = 0 ∨ p = 1 ∨ p = 2 := by omega
  clear h h' hq hB hB' hp hw2 hp0 hp1
  rcases h3 with rfl | rfl | rfl
  · obtain ⟨r, hr⟩ : ∃ r, r = add c node := ⟨_, rfl⟩
    have HC := add_any B c hs m node hnode w2 hi2 hB2
    rw [← hr] at HC
    have HC := hid HC
    have HR : Hid (stp 0 c node f = (r.1, r.2 == 0)) := hid (by unfold stp; rw [if_pos rfl, hr])
    clear hr hi2 hf2
    go_enter Try.func19, Try.ntmps19
    go_wp2_with fail
    rw [← HW2.out]
    refine HP.out.mono ?_
    rintro e w9 ⟨rfl, rfl⟩
    go_wp2_with fail
    refine HC.out.mono ?_
    rintro e w3 ⟨mr, rfl, hor, hb3⟩
    obtain ⟨v3, hv3⟩ : ∃ v3, v3 = w3.alloc (.cells #[.slice mr.a0 mr.n0 mr.k0, .slice mr.a1 mr.n1 mr.k1, .slice mr.a2 mr.n2 mr.k2] 24) := ⟨_, rfl⟩
    have hst3 := (box_new hv3).2.2.2
    have hk := box_keep hor hv3 v3 (Below.refl _ _)
    have hld3 := hk.1.ld
    have hbx := (HQ.out.2.2.2.below hb3 HQ.out.2.2.2.lt).below hk.2.2.1 (by have := hb3.size; have := HQ.out.2.2.2.lt; omega)
    have hst := hbx.st (m' := mr)
    have H3 := hid (And.intro (hbx.set mr) (got_box (w2 := w2) (b := w.heap.size + 1) (hk.2.1.wide (Nat.le_refl _) (by have := hk.2.2.2; omega)) (HQ.out.1.trans ((hb3.trans (hk.2.2.1.mono hb3.size)).mono HQ.out.1.size)) ⟨by omega, HQ.out.2.2.2.lt⟩))
    clear hor hb3 hv3 hk hbx
    go_wp2_with fail
    refine bodyPost_ret (Im.results_two rfl Im.info_conf33 Try.underlying24 rfl _ _ (w.heap.size + 1) _ _ _ rfl H3.out.1 rfl) rfl ?_
    rw [HR.out]
    exact ⟨mr, rfl, H3.out.2.1, H3.out.2.2⟩
  · obtain ⟨r, hr⟩ : ∃ r, r = drop c node := ⟨_, rfl⟩
    have HC := drop_any B c hs m node hnode w2 hi2 hB2
    rw [← hr] at HC
    have HC := hid HC
    have HR : Hid (stp 1 c node f = (r.1, r.2 == 0)) := hid (by unfold stp; rw [if_neg (by decide), if_pos rfl, hr])
    clear hr hi2 hf2
    go_enter Try.func19, Try.ntmps19
    go_wp2_with fail
    rw [← HW2.out]
    refine HP.out.mono ?_
    rintro e w9 ⟨rfl, rfl⟩
    go_wp2_with fail
    refine HC.out.mono ?_
    rintro e w3 ⟨mr, rfl, hor, hb3⟩
    obtain ⟨v3, hv3⟩ : ∃ v3, v3 = w3.alloc (.cells #[.slice mr.a0 mr.n0 mr.k0, .slice mr.a1 mr.n1 mr.k1, .slice mr.a2 mr.n2 mr.k2] 24) := ⟨_, rfl⟩
    have hst3 := (box_new hv3).2.2.2
    have hk := box_keep hor hv3 v3 (Below.refl _ _)
    have hld3 := hk.1.ld
    have hbx := (HQ.out.2.2.2.below hb3 HQ.out.2.2.2.lt).below hk.2.2.1 (by have := hb3.size; have := HQ.out.2.2.2.lt; omega)
    have hst := hbx.st (m' := mr)
    have H3 := hid (And.intro (hbx.set mr) (got_box (w2 := w2) (b := w.heap.size + 1) (hk.2.1.wide (Nat.le_refl _) (by have := hk.2.2.2; omega)) (HQ.out.1.trans ((hb3.trans (hk.2.2.1.mono hb3.size)).mono HQ.out.1.size)) ⟨by omega, HQ.out.2.2.2.lt⟩))
    clear hor hb3 hv3 hk hbx
    go_wp2_with fail
    refine bodyPost_ret (Im.results_two rfl Im.info_conf33 Try.underlying24 rfl _ _ (w.heap.size + 1) _ _ _ rfl H3.out.1 rfl) rfl ?_
    rw [HR.out]
    exact ⟨mr, rfl, H3.out.2.1, H3.out.2.2⟩
  · obtain ⟨r, hr⟩ : ∃ r, r = next c f := ⟨_, rfl⟩
    have HC := next_any B B' c hs m A' n' k' f hn' hl' w2 hi2 hf2 hB2 hB2'
    rw [← hr] at HC
    have HC := hid HC
    have HR : Hid (stp 2 c node f = r) := hid (by unfold stp; rw [if_neg (by decide), if_neg (by decide), hr])
    clear hr hi2 hf2 hn'
    go_enter Try.func19, Try.ntmps19
    go_wp2_with fail
    rw [← HW2.out]
    refine HP.out.mono ?_
    rintro e w9 ⟨rfl, rfl⟩
    go_wp2_with fail
    refine HC.out.mono ?_
    rintro e w3 ⟨mr, rfl, hor, hb3⟩
    have hbx := HQ.out.2.2.2.below hb3 HQ.out.2.2.2.lt
    have hst := hbx.st (m' := mr)
    have H3 := hid (And.intro (hbx.set mr) (got_box (w2 := w2) (b := w.heap.size + 1) hor (HQ.out.1.trans (hb3.mono HQ.out.1.size)) ⟨by omega, HQ.out.2.2.2.lt⟩))
    clear hor hb3 hbx
    go_wp2_with fail
    refine bodyPost_ret (Im.results_two rfl Im.info_conf33 Try.underlying24 rfl _ _ (w.heap.size + 1) _ _ _ rfl H3.out.1 rfl) rfl ?_
    rw [HR.out]
    exact ⟨mr, rfl, H3.out.2.1, H3.out.2.2⟩
end Go.Proofs.Ytfkjahpcpmcefaa.Co
namespace Go.Proofs.Ytfkjahpcpmcefaa
open Go Go.RowKit
set_option maxRecDepth 100000
set_option linter.unusedVariables false
def ArmO (P : Program) (H : Nat → Gp) (ops : Array Oper) (ds : List Nat) (a0 : Act) (w0 : World) (j : Nat) (o : Oper) : Prop :=
  (o.guard = none ∨ ∃ g d b, o.guard = some (g, b) ∧ edgeB ops o g d = true ∧ ∀ w v, (H g).p w v → v = .bool b) ∧ ∀ a w, Below w0.heap.size w0 w → (∀ s, s ∉ ds → a.eval (.tmp s) = a0.eval (.tmp s)) → (∀ i d, edgeB ops o i d = true → (H i).p w (a.eval (.tmp d))) →
    Goes P a w o.op o.type (fun v w' => (H j).p w' v ∧ Below w.heap.size w w')
section
variable {P : Program} {H : Nat → Gp} {ops : Array Oper} {n : Nat} {a0 : Act} {w0 : World} {Q : Exit → Act → World → Prop}
theorem edge_at {listed : Array Bool} {a : Act} {w : World} (h : Jg H ops n a0 w0 listed a w) {o : Oper} (ha : ∀ e ∈ o.after, Region.binds .any e = true → listed.getD e.on false = true) {k dk : Nat} (hk : edgeB ops o k dk = true) : ∃ ok, ops[k]? = some ok ∧ ok.dst = some dk ∧ listed.getD k false = true := by
  unfold edgeB at hk
  rw [Bool.and_eq_true, decide_eq_true_eq] at hk
  obtain ⟨q, hq, h3⟩ := Array.any_eq_true.1 hk.1
  rw [Bool.and_eq_true, decide_eq_true_eq] at h3
  obtain ⟨ok, hok, hdk⟩ := Option.bind_eq_some_iff.1 hk.2
  exact ⟨ok, hok, hdk, h3.2 ▸ ha _ (Array.getElem_mem hq) h3.1⟩
theorem wpAny_all (hac : acyc ops = true) (hn : (dstsN ops ops.size).Nodup) (hb : ∀ d ∈ dstsN ops ops.size, d < a0.tmps.size) (hd : ∀ (j : Nat) (o : Oper), ops[j]? = some o → ∃ d, o.dst = some d)
    (arms : ∀ (j : Nat) (o : Oper), ops[j]? = some o → ArmO P H ops (dstsN ops ops.size) a0 w0 j o)
    (he : ∀ a w, Jg H ops ops.size a0 w0 (listedN ops.size 0) a w → Q .normal a w) :
    ∀ fuel listed a w, Jg H ops ops.size a0 w0 listed a w → unl listed = fuel → wpAny P .any ops Q fuel listed a w := by
  intro fuel
  induction fuel with
  | zero =>
    intro listed a w h hu
    have hall : ∀ j, j < ops.size → listed.getD j false = true := fun j hj => by
      have hjl : j < listed.size := by rw [h.lsize]; omega
      rcases hb' : listed.getD j false with _ | _
      · exfalso
        have hm : false ∈ listed.toList := by
          rw [Array.getD_eq_getD_getElem?, Array.getElem?_eq_getElem hjl] at hb'
          have hb'' : listed[j] = false := hb'
          rw [← hb'']
          exact Array.mem_toList_iff.2 (Array.getElem_mem hjl)
        have := List.count_pos_iff.2 hm
        unfold unl at hu
        omega
      · rfl
    have e := listed_is h.lsize (Nat.le_refl _) hall (fun j hj => h.tail j hj)
    rw [Nat.sub_self] at e
    refine ⟨?_, he a w (e ▸ h)⟩
    rcases hl : Region.ready .any ops listed with _ | ⟨i, rest⟩
    · rfl
    · obtain ⟨h0, o, ho, _⟩ := (mem_ready (j := i)).1 (by rw [hl]; exact List.mem_cons_self)
      have := unl_set h0
      omega
  | succ fuel ih =>
    intro listed a w h hu
    refine ⟨fun hr => ?_, fun i hi => ?_⟩
    · have hall : ∀ j, j < ops.size → listed.getD j false = true := fun j hj => all_listed h.lsize (fun i o hi e he hb => acyc_spec hac i o hi e he hb) hr j hj
      have e := listed_is h.lsize (Nat.le_refl _) hall (fun j hj => h.tail j hj)
      rw [Nat.sub_self] at e
      exact he a w (e ▸ h)
    · obtain ⟨h0, o, ho, ha⟩ := mem_ready.1 hi
      have hin : i < ops.size := (Array.getElem?_eq_some_iff.1 ho).1
      obtain ⟨d, hd'⟩ := hd i o ho
      obtain ⟨hg, harm⟩ := arms i o ho
      have hw : Region.wanted o (yielded ops a.tmps) = true := by
        rcases hg with hg | ⟨g, dg, b, hg, hgd, hgb⟩
        · simp [Region.wanted, hg]
        · obtain ⟨og, hog, hdg, hlg⟩ := edge_at h ha hgd
          have hgn : g < ops.size := (Array.getElem?_eq_some_iff.1 hog).1
          rw [wanted_of hg hog hdg (by rw [h.size]; exact hb _ (mem_dsts hog hdg hgn)) (hgb _ _ (h.slots g og dg hog hdg hlg))]
          cases b <;> rfl
      refine goes_wpOpG ho hw (harm a w h.bel h.keep (fun k dk hk => ?_)) (fun v w' hv => ?_)
      · obtain ⟨ok, hok, hdk, hlk⟩ := edge_at h ha hk
        exact h.slots k ok dk hok hdk hlk
      · refine ih _ _ _ (h.step hn hb ho hin hd' ha hv.1 hv.2) ?_
        have := unl_set h0
        omega
theorem wp_region_all {id : Nat} (N : Nat) (H : Nat → Gp) (ds : List Nat) (hN : ops.size = N) (hds : dstsN ops N = ds) (hm : P.follows .mixedOrders = true) (hac : acyc ops = true) (hon : onceG ops N a0.tmps.size = true)
    (arms : AllFrom (ArmO P H ops ds a0 w0) 0 ops.toList)
    (he : ∀ (u : Nat → Value) w, (∀ j d, j < N → ops[j]?.bind (·.dst) = some d → (H j).p w (u d)) → Below w0.heap.size w0 w → Q .normal (putAll u ds a0) w) : (Code.region id ops true).wp P Q a0 w0 := by
  subst hN
  subst hds
  unfold onceG at hon
  rw [Bool.and_eq_true, Bool.and_eq_true, decide_eq_true_eq] at hon
  obtain ⟨⟨hon1, hon2⟩, hon3⟩ := hon
  have hb : ∀ d ∈ dstsN ops ops.size, d < a0.tmps.size := fun d hd => by simpa using List.all_eq_true.1 hon1 d hd
  have hdd : ∀ (j : Nat) (o : Oper), ops[j]? = some o → ∃ d, o.dst = some d := fun j o hj => by
    have := List.all_eq_true.1 hon3 j (List.mem_range.2 (Array.getElem?_eq_some_iff.1 hj).1)
    rw [hj] at this
    exact Option.isSome_iff_exists.1 this
  have hl : ∀ j, (Array.replicate ops.size false).getD j false = false := fun j => by
    rw [Array.getD_eq_getD_getElem?, Array.getElem?_replicate]
    split <;> rfl
  refine wp_region_any hm (wpAny_all (H := H) (w0 := w0) hac hon2 hb hdd (fun j o hj => ?_) (fun a w h => ?_) ops.size _ a0 _ ⟨rfl, rfl, fun _ _ => rfl, by simp, fun j o d hj hd h => ?_, fun j o hj h => ?_, (Below.refl _ w0).drew, fun j _ => hl j⟩ ?_)
  · have := AllFrom.get arms j o (by rw [Array.getElem?_toList]; exact hj)
    rwa [Nat.zero_add] at this
  · have e := act_putAll h.size h.defers h.keep
    rw [e]
    refine he _ w (fun j d hj hjd => ?_) h.bel
    obtain ⟨o, ho, hod⟩ := Option.bind_eq_some_iff.1 hjd
    refine h.slots j o d ho hod ?_
    unfold listedN
    rw [Array.getD_eq_getD_getElem?, List.getElem?_toArray, List.getElem?_append_left (by simpa using hj), List.getElem?_replicate, if_pos hj]
    rfl
  · rw [hl] at h; cases h
  · rw [hl] at h; cases h
  · unfold unl
    rw [Array.toList_replicate, List.count_replicate]
    simp
end
section
variable {P : Program} {a : Act} {w : World} {ty : TypeId} {R : Value → World → Prop}
theorem goes_assign {x : Operand} {v : Value} (h : a.eval x = v) (hR : R v w) : Goes P a w (.assign x) ty (fun v w' => R v w' ∧ Below w.heap.size w w') := by
  subst h; exact goes_val (x_assign _ _ _ _) hR
end
end Go.Proofs.Ytfkjahpcpmcefaa
namespace Go.Proofs.Ytfkjahpcpmcefaa.Co
open Go Go.RowKit
open Qu (Cf)
set_option maxRecDepth 100000
set_option linter.unusedVariables false
attribute [local go_sem ↓] Im.loadAt_conf3 Im.storeAt_conf3 loadAt_mem storeAt_mem
theorem sameF_M (B B' : Nat) (c d : Cf) (hs : Short c) (hd : Short d) (hne : c ≠ d) (m m' : M3) (w : World) (h : InC w B c m) (h' : InC w B' d m') (hB : B ≤ w.heap.size) (hB' : B' ≤ w.heap.size) :
    Calls Try.prog 16 #[.agg #[.slice m.a0 m.n0 m.k0, .slice m.a1 m.n1 m.k1, .slice m.a2 m.n2 m.k2], .agg #[.slice m'.a0 m'.n0 m'.k0, .slice m'.a1 m'.n1 m'.k1, .slice m'.a2 m'.n2 m'.k2]] w fun e w' => e = .returned (.bool false) ∧ Below w.heap.size w w' := by
  obtain ⟨w2, hw2⟩ : ∃ w2, w2 = (w.alloc (.cells #[.slice m.a0 m.n0 m.k0, .slice m.a1 m.n1 m.k1, .slice m.a2 m.n2 m.k2] 24)).alloc (.cells #[.slice m'.a0 m'.n0 m'.k0, .slice m'.a1 m'.n1 m'.k1, .slice m'.a2 m'.n2 m'.k2] 24) := ⟨_, rfl⟩
  have hb : Below w.heap.size w w2 := by rw [hw2]; exact ((Below.refl _ _).alloc (Nat.le_refl _) _).alloc (by simp) _
  have hx : Bx w2 w.heap.size 24 m := by unfold Bx; rw [hw2, Below.heap_alloc _ _ _ (by simp)]; exact heap_alloc_new w _
  have hy : Bx w2 (w.heap.size + 1) 24 m' := by
    have q := heap_alloc_new (w.alloc (.cells #[.slice m.a0 m.n0 m.k0, .slice m.a1 m.n1 m.k1, .slice m.a2 m.n2 m.k2] 24)) (.cells #[.slice m'.a0 m'.n0 m'.k0, .slice m'.a1 m'.n1 m'.k1, .slice m'.a2 m'.n2 m'.k2] 24)
    rw [World.size_alloc] at q
    rw [hw2]; exact q
  have HH : Hid (∀ W, Below w2.heap.size w2 W → Bx W w.heap.size 24 m ∧ Bx W (w.heap.size + 1) 24 m' ∧ InC W B c m ∧ InC W B' d m' ∧ Below w.heap.size w W) := hid (fun W hq => by
    have hl := hb.trans (hq.mono hb.size)
    exact ⟨hx.below hq hx.lt, hy.below hq hy.lt, h.below (hl.mono hB), h'.below (hl.mono hB'), hl⟩)
  have H0 := fun W (hq : Below w2.heap.size w2 W) => sameI_N B B' m.a0 m'.a0 m.k0 m'.k0 c.old d.old m.n0 m'.n0 (HH.out W hq).2.2.1.e0.symm (HH.out W hq).2.2.2.1.e0.symm (by have := (HH.out W hq).2.2.1.e0; have := hs.1; unfold maxLen; omega) (by have := (HH.out W hq).2.2.2.1.e0; have := hd.1; unfold maxLen; omega) W (HH.out W hq).2.2.1.o (HH.out W hq).2.2.2.1.o
  have H1 := fun W (hq : Below w2.heap.size w2 W) => sameI_N B B' m.a1 m'.a1 m.k1 m'.k1 c.new d.new m.n1 m'.n1 (HH.out W hq).2.2.1.e1.symm (HH.out W hq).2.2.2.1.e1.symm (by have := (HH.out W hq).2.2.1.e1; have := hs.2.1; unfold maxLen; omega) (by have := (HH.out W hq).2.2.2.1.e1; have := hd.2.1; unfold maxLen; omega) W (HH.out W hq).2.2.1.n (HH.out W hq).2.2.2.1.n
  have H2 := fun W (hq : Below w2.heap.size w2 W) => sameI_N B B' m.a2 m'.a2 m.k2 m'.k2 c.lrn d.lrn m.n2 m'.n2 (HH.out W hq).2.2.1.e2.symm (HH.out W hq).2.2.2.1.e2.symm (by have := (HH.out W hq).2.2.1.e2; have := hs.2.2; unfold maxLen; omega) (by have := (HH.out W hq).2.2.2.1.e2; have := hd.2.2; unfold maxLen; omega) W (HH.out W hq).2.2.1.l (HH.out W hq).2.2.2.1.l
  have x0 := hx.c0
  have y0 := hy.c0
  rw [hw2] at x0 y0
  have HW := hid hw2
  clear h h' hb hx hy hB hB' hs hd hw2
  by_cases q0 : c.old = d.old
  · rw [decide_eq_true q0] at H0
    by_cases q1 : c.new = d.new
    · rw [decide_eq_true q1] at H1
      have q2 : c.lrn ≠ d.lrn := fun q2 => hne (by cases c; cases d; simp_all)
      rw [decide_eq_false q2] at H2
      have h0 := hid H0
      have h1 := hid H1
      have h2 := hid H2
      clear H0 H1 H2 q0 q1 q2 hne
      go_enter Try.func16, Try.ntmps16
      go_wp2_with fail
      rw [← HW.out]
      refine (h0.out w2 (Below.refl _ _)).mono ?_
      rintro e w3 ⟨rfl, j, rfl⟩
      have B3 := hid (below_drewN (Below.refl w2.heap.size w2) j)
      have x1 := (HH.out _ B3.out).1.c1
      have y1 := (HH.out _ B3.out).2.1.c1
      obtain ⟨w4, hw4⟩ : ∃ w4, w4 = w2.drewN j := ⟨_, rfl⟩
      rw [← hw4] at x1 y1 B3 ⊢
      clear hw4 x0 y0
      go_wp2_with fail
      refine (h1.out w4 B3.out).mono ?_
      rintro e w5 ⟨rfl, j5, hw5⟩
      have B5 : Hid (Below w2.heap.size w2 w5) := hid (by rw [hw5]; exact below_drewN B3.out j5)
      have x2 := (HH.out _ B5.out).1.c2
      have y2 := (HH.out _ B5.out).2.1.c2
      clear hw5 x1 y1
      go_wp2_with fail
      refine (h2.out w5 B5.out).mono ?_
      rintro e w6 ⟨rfl, j6, hw6⟩
      have B6 : Hid (Below w.heap.size w w6) := hid (by rw [hw6]; exact (HH.out _ (below_drewN B5.out j6)).2.2.2.2)
      clear hw6 x2 y2
      go_wp2_with fail
      go_ret
      exact ⟨rfl, B6.out⟩
    · rw [decide_eq_false q1] at H1
      have h0 := hid H0
      have h1 := hid H1
      clear H0 H1 H2 q0 q1 hne
      go_enter Try.func16, Try.ntmps16
      go_wp2_with fail
      rw [← HW.out]
      refine (h0.out w2 (Below.refl _ _)).mono ?_
      rintro e w3 ⟨rfl, j, rfl⟩
      have B3 := hid (below_drewN (Below.refl w2.heap.size w2) j)
      have x1 := (HH.out _ B3.out).1.c1
      have y1 := (HH.out _ B3.out).2.1.c1
      obtain ⟨w4, hw4⟩ : ∃ w4, w4 = w2.drewN j := ⟨_, rfl⟩
      rw [← hw4] at x1 y1 B3 ⊢
      clear hw4 x0 y0
      go_wp2_with fail
      refine (h1.out w4 B3.out).mono ?_
      rintro e w5 ⟨rfl, j5, hw5⟩
      have B5 : Hid (Below w.heap.size w w5) := hid (by rw [hw5]; exact (HH.out _ (below_drewN B3.out j5)).2.2.2.2)
      clear hw5 x1 y1
      go_wp2_with fail
      go_ret
      exact ⟨rfl, B5.out⟩
  · rw [decide_eq_false q0] at H0
    have h0 := hid H0
    clear H0 H1 H2 q0 hne
    go_enter Try.func16, Try.ntmps16
    go_wp2_with fail
    rw [← HW.out]
    refine (h0.out w2 (Below.refl _ _)).mono ?_
    rintro e w3 ⟨rfl, j, hw3⟩
    have B3 : Hid (Below w.heap.size w w3) := hid (by rw [hw3]; exact (HH.out _ (below_drewN (Below.refl w2.heap.size w2) j)).2.2.2.2)
    clear hw3 x0 y0
    go_wp2_with fail
    go_ret
    exact ⟨rfl, B3.out⟩
theorem voters_M (B : Nat) (c : Cf) (hs : Short c) (m : M3) (w : World) (h : InC w B c m) (hB : B ≤ w.heap.size) :
    Calls Try.prog 23 #[.agg #[.slice m.a0 m.n0 m.k0, .slice m.a1 m.n1 m.k1, .slice m.a2 m.n2 m.k2]] w fun e w' => ∃ A q k, e = .returned (.slice A q k) ∧ q = (Qu.uni (c.old ++ c.new)).length ∧ IsInts w' w'.heap.size A (Qu.uni (c.old ++ c.new)) ∧ Below w.heap.size w w' := by
  rw [h.val]
  exact (voters_any B c hs _ _ _ _ _ _ w h.cis hB).mono fun e w' ⟨A, k, he, ho, hb⟩ => ⟨A, _, k, he, rfl, ho.reads, hb⟩
theorem won_M (B : Nat) (c : Cf) (hs : Short c) (m : M3) (ay : Option Addr) (n ky : Nat) (yes : List Int) (hn : n = yes.length) (hy : n ≤ 2000) (w : World) (h : InC w B c m) (h' : IsInts w B ay yes) (hB : B ≤ w.heap.size) :
    Calls Try.prog 21 #[.agg #[.slice m.a0 m.n0 m.k0, .slice m.a1 m.n1 m.k1, .slice m.a2 m.n2 m.k2], .slice ay n ky] w fun e w' => e = .returned (.bool (Qu.won c yes)) ∧ Below w.heap.size w w' := by
  subst hn; rw [h.val]; exact won_any B c hs _ _ _ ay _ _ _ ky yes hy w h.cis h' hB
theorem stp_step {p : Int} {c : Cf} {n : Int} {f : List Int} (h : (stp p c n f).2 = true) : Step c (stp p c n f).1 := by
  unfold stp at h ⊢
  split at h
  · next hp => rw [if_pos hp]; exact add_step (by simpa using h)
  · next hp =>
    rw [if_neg hp]
    split at h
    · next hq => rw [if_pos hq]; exact drop_step (by simpa using h)
    · next hq => rw [if_neg hq]; exact next_step h
theorem short_stp {c : Cf} (h : Short c) (h3 : c.old.length ≤ 3000 ∧ c.lrn.length ≤ 3000) (p n : Int) (f : List Int) : Short (stp p c n f).1 := by
  unfold stp
  split
  · exact short_add h n
  · split
    · exact short_drop h n
    · exact short_next h h3 f
def lstP (L : List Int) : Gp := ⟨fun w v => ∃ (A : Option Addr) (q k : Nat), v = .slice A q k ∧ q = L.length ∧ IsInts w w.heap.size A L, fun w w' v ⟨A, q, k, h0, h1, h2⟩ hb => ⟨A, q, k, h0, h1, (h2.below hb).more hb.size⟩⟩
end Go.Proofs.Ytfkjahpcpmcefaa.Co
namespace Go.Proofs.Ytfkjahpcpmcefaa.Co
open Go Go.RowKit
open Qu (Cf)
set_option maxRecDepth 100000
set_option linter.unusedVariables false
attribute [local go_sem ↓] Im.loadAt_conf3 Im.storeAt_conf3 loadAt_mem storeAt_mem
def lenP (n : Nat) : Gp := ⟨fun _ v => ∃ q : Nat, v = .int .i64 q ∧ q = n, fun _ _ _ h _ => h⟩
def H10 (Aa Ab : Option Addr) (na nb ka kb : Nat) (a b : List Int) (m mx : M3) (c x : Cf) : Nat → Gp
  | 0 => Gp.is (.slice Aa na ka)
  | 1 => Gp.is (.slice Ab nb kb)
  | 2 => lstP (both a b)
  | 3 => Gp.is (.agg #[.slice m.a0 m.n0 m.k0, .slice m.a1 m.n1 m.k1, .slice m.a2 m.n2 m.k2])
  | 4 => lstP (Qu.uni (c.old ++ c.new))
  | 5 => Gp.is (.agg #[.slice mx.a0 mx.n0 mx.k0, .slice mx.a1 mx.n1 mx.k1, .slice mx.a2 mx.n2 mx.k2])
  | 6 => lstP (Qu.uni (x.old ++ x.new))
  | 7 => lstP (both (Qu.uni (c.old ++ c.new)) (Qu.uni (x.old ++ x.new)))
  | 8 => lstP (both (both a b) (both (Qu.uni (c.old ++ c.new)) (Qu.uni (x.old ++ x.new))))
  | 9 => lenP (both (both a b) (both (Qu.uni (c.old ++ c.new)) (Qu.uni (x.old ++ x.new)))).length
  | 10 => Gp.is (.bool true)
  | 11 => Gp.is (.bool true)
  | 12 => Gp.is (.bool true)
  | 13 => Gp.is (.bool true)
  | 14 => Gp.is (.bool true)
  | _ => Gp.any
theorem node_len {l : List Int} (h : Qu.node l = true) : l.length ≤ 7 := by
  obtain ⟨h1, h2⟩ := node_is.1 h
  have := Qu.length_le_of h1 [1, 2, 3, 4, 5, 6, 7] (fun x hx => by
    have h3 := (h2 x hx).1
    have h4 := (h2 x hx).2
    simp
    omega)
  simpa using this
theorem voters_few {c : Cf} (h : Qu.ok c = true) : (Qu.uni (c.old ++ c.new)).length ≤ 14 := by
  obtain ⟨_, h1, h2, _, _⟩ := ok_parts h
  have := (Qu.uni_is (c.old ++ c.new)).length_le
  rw [List.length_append] at this
  have := node_len h1
  have := node_len h2
  omega
set_option maxHeartbeats 6400000 in
theorem safe_any (B : Nat) (c : Cf) (m : M3) (how node : Int) (hnode : InInt node) (Af : Option Addr) (nf kf : Nat) (f : List Int) (hnf : nf = f.length) (Aa : Option Addr) (na ka : Nat) (a : List Int) (hna : na = a.length) (Ab : Option Addr) (nb kb : Nat) (b : List Int) (hnb : nb = b.length) (w : World) (h : InC w B c m) (hf : IsInts w B Af f) (ha : IsInts w B Aa a) (hb : IsInts w B Ab b) (hB : B ≤ w.heap.size) :
    Calls Try.prog 4 #[.agg #[.slice m.a0 m.n0 m.k0, .slice m.a1 m.n1 m.k1, .slice m.a2 m.n2 m.k2], .int .i64 how, .int .i64 node, .slice Af nf kf, .slice Aa na ka, .slice Ab nb kb] w fun e w' => e = .returned (.bool true) ∧ Below w.heap.size w w' := by
  obtain ⟨w1, hw1⟩ : ∃ w1, w1 = w.alloc (.cells #[.slice m.a0 m.n0 m.k0, .slice m.a1 m.n1 m.k1, .slice m.a2 m.n2 m.k2] 24) := ⟨_, rfl⟩
  have hb1 : Below w.heap.size w w1 := by rw [hw1]; exact below_new w _
  have hx1 : Bx w1 w.heap.size 24 m := by rw [hw1]; exact Bx.new _ _ _
  have hld := (Bx.new w 24 m).ld
  have HK1 : Hid (∀ W, Below w1.heap.size w1 W → Bx W w.heap.size 24 m ∧ InC W B c m ∧ IsInts W B Af f ∧ IsInts W B Aa a ∧ IsInts W B Ab b ∧ Below w.heap.size w W ∧ B ≤ W.heap.size) := hid (fun W hq => by
    have hl := hb1.trans (hq.mono hb1.size)
    exact ⟨hx1.below hq hx1.lt, h.below (hl.mono hB), hf.below (hl.mono hB), ha.below (hl.mono hB), hb.below (hl.mono hB), hl, by have := hl.size; omega⟩)
  have HL : Hid (m.n0 = c.old.length ∧ m.n1 = c.new.length ∧ m.n2 = c.lrn.length) := hid ⟨h.e0, h.e1, h.e2⟩
  have HE := hid (And.intro hna hnb)
  have HNF := hid hnf
  clear h hf ha hb hb1 hx1 hB hna hnb hnf
  obtain ⟨bg, hbg⟩ : ∃ bg, bg = bigM m := ⟨_, rfl⟩
  have HG := hid (bigM_any m w1)
  rw [← hbg] at HG
  have HBG := hid hbg
  clear hbg
  cases bg
  case true =>
    go_enter Try.func4, Try.ntmps4
    go_wp2_with fail
    rw [← hw1]
    clear hw1 hld
    refine HG.out.mono ?_
    rintro e w2 ⟨rfl, hb2⟩
    have HL := hid (HK1.out w2 hb2).2.2.2.2.2.1
    clear hb2
    go_wp2_with fail
    refine (works_any w2).mono ?_
    rintro e w3 ⟨rfl, hb3⟩
    have HB3 := hid (HL.out.trans (hb3.mono HL.out.size))
    clear hb3
    go_wp2_with fail
    go_ret
    exact ⟨rfl, HB3.out⟩
  by_cases h1 : 300 < nf
  · have h1' : (300 : Int) < (nf : Int) := by omega
    clear h1
    go_enter Try.func4, Try.ntmps4
    go_wp2_with fail
    rw [← hw1]
    clear hw1 hld
    refine HG.out.mono ?_
    rintro e w2 ⟨rfl, hb2⟩
    have HL := hid (HK1.out w2 hb2).2.2.2.2.2.1
    clear hb2
    go_wp2_with fail
    refine (works_any w2).mono ?_
    rintro e w3 ⟨rfl, hb3⟩
    have HB3 := hid (HL.out.trans (hb3.mono HL.out.size))
    clear hb3
    go_wp2_with fail
    go_ret
    exact ⟨rfl, HB3.out⟩
  have h1' : ¬ (300 : Int) < (nf : Int) := by omega
  by_cases h2 : 300 < na
  · have h2' : (300 : Int) < (na : Int) := by omega
    clear h2
    go_enter Try.func4, Try.ntmps4
    go_wp2_with fail
    rw [← hw1]
    clear hw1 hld
    refine HG.out.mono ?_
    rintro e w2 ⟨rfl, hb2⟩
    have HL := hid (HK1.out w2 hb2).2.2.2.2.2.1
    clear hb2
    go_wp2_with fail
    refine (works_any w2).mono ?_
    rintro e w3 ⟨rfl, hb3⟩
    have HB3 := hid (HL.out.trans (hb3.mono HL.out.size))
    clear hb3
    go_wp2_with fail
    go_ret
    exact ⟨rfl, HB3.out⟩
  have h2' : ¬ (300 : Int) < (na : Int) := by omega
  by_cases h3 : 300 < nb
  · have h3' : (300 : Int) < (nb : Int) := by omega
    clear h3
    go_enter Try.func4, Try.ntmps4
    go_wp2_with fail
    rw [← hw1]
    clear hw1 hld
    refine HG.out.mono ?_
    rintro e w2 ⟨rfl, hb2⟩
    have HL := hid (HK1.out w2 hb2).2.2.2.2.2.1
    clear hb2
    go_wp2_with fail
    refine (works_any w2).mono ?_
    rintro e w3 ⟨rfl, hb3⟩
    have HB3 := hid (HL.out.trans (hb3.mono HL.out.size))
    clear hb3
    go_wp2_with fail
    go_ret
    exact ⟨rfl, HB3.out⟩
  have h3' : ¬ (300 : Int) < (nb : Int) := by omega
  have hnf3 : nf ≤ 300 := by omega
  have hna3 : na ≤ 300 := by omega
  have hnb3 : nb ≤ 300 := by omega
  clear h1 h2 h3
  have hbn := bigM_no HBG.out.symm
  have hsh : Short c := ⟨by have := HL.out.1; omega, by have := HL.out.2.1; omega, by have := HL.out.2.2; omega⟩
  have h300 : c.old.length ≤ 3000 ∧ c.lrn.length ≤ 3000 := ⟨by have := HL.out.1; omega, by have := HL.out.2.2; omega⟩
  have HS := hid (And.intro hsh h300)
  have HST := hid (fun W hq => stepped_any B B c hsh m how node hnode Af nf kf f HNF.out (by omega) W (HK1.out W hq).2.1 (HK1.out W hq).2.2.1 (HK1.out W hq).2.2.2.2.2.2 (HK1.out W hq).2.2.2.2.2.2)
  obtain ⟨r, hr⟩ : ∃ r, r = stp (how % 3) c node f := ⟨_, rfl⟩
  have hsr : Short r.1 := by rw [hr]; exact short_stp hsh h300 _ _ _
  have HSR := hid hsr
  have hstep : r.2 = true → Step c r.1 := by rw [hr]; exact stp_step
  rw [← hr] at HST
  clear hbn hsh h300 hr hsr
  obtain ⟨b2, hb2⟩ : ∃ b2, b2 = r.2 := ⟨_, rfl⟩
  rw [← hb2] at HST hstep
  clear hb2
  cases b2
  · clear hstep
    go_enter Try.func4, Try.ntmps4
    go_wp2_with fail
    rw [← hw1]
    clear hw1 hld
    refine HG.out.mono ?_
    rintro e w2 ⟨rfl, hb2⟩
    have hld2 := (HK1.out w2 hb2).1.ld
    have H2 := hid hb2
    clear hb2 HG
    go_wp2_with fail
    have k2 := hid (HK1.out w2 H2.out)
    refine (HST.out w2 H2.out).mono ?_
    rintro e w3 ⟨mx, rfl, hox, hb3⟩
    obtain ⟨v3, hv3⟩ : ∃ v3, v3 = w3.alloc (.cells #[.slice mx.a0 mx.n0 mx.k0, .slice mx.a1 mx.n1 mx.k1, .slice mx.a2 mx.n2 mx.k2] 24) := ⟨_, rfl⟩
    have hst3 := (box_new hv3).2.2.2
    have HK3 : Hid (∀ W, Below v3.heap.size v3 W → Bx W w3.heap.size 24 mx ∧ InC W w3.heap.size r.1 mx ∧ w3.heap.size + 1 ≤ W.heap.size ∧ Bx W w.heap.size 24 m ∧ InC W B c m ∧ IsInts W B Aa a ∧ IsInts W B Ab b ∧ Below w.heap.size w W ∧ B ≤ W.heap.size) := hid (fun W hb => by
      have q := box_keep hox hv3 W hb
      have q1 := HK1.out W (H2.out.trans ((hb3.mono H2.out.size).trans (q.2.2.1.mono (by have := H2.out.size; have := hb3.size; omega))))
      exact ⟨q.1, q.2.1.inC, q.2.2.2, q1.1, q1.2.1, q1.2.2.2.1, q1.2.2.2.2.1, q1.2.2.2.2.2.1, q1.2.2.2.2.2.2⟩)
    clear hox hb3 hv3 hld2 HST k2
    have HLW := hid (HK3.out v3 (Below.refl _ _)).2.2.2.2.2.2.2.1
    go_wp2_with fail
    clear hst3
    refine (works_any v3).mono ?_
    rintro e wz ⟨rfl, hbz⟩
    have HBZ := hid (HLW.out.trans (hbz.mono HLW.out.size))
    clear hbz
    go_wp2_with fail
    go_ret
    exact ⟨rfl, HBZ.out⟩
  · have HSTP := hid (hstep rfl)
    clear hstep
    cases hwa : Qu.won c a
    · have HWN := hid hwa
      clear hwa
      go_enter Try.func4, Try.ntmps4
      go_wp2_with fail
      rw [← hw1]
      clear hw1 hld
      refine HG.out.mono ?_
      rintro e w2 ⟨rfl, hb2⟩
      have hld2 := (HK1.out w2 hb2).1.ld
      have H2 := hid hb2
      clear hb2 HG
      go_wp2_with fail
      have k2 := hid (HK1.out w2 H2.out)
      refine (HST.out w2 H2.out).mono ?_
      rintro e w3 ⟨mx, rfl, hox, hb3⟩
      obtain ⟨v3, hv3⟩ : ∃ v3, v3 = w3.alloc (.cells #[.slice mx.a0 mx.n0 mx.k0, .slice mx.a1 mx.n1 mx.k1, .slice mx.a2 mx.n2 mx.k2] 24) := ⟨_, rfl⟩
      have hst3 := (box_new hv3).2.2.2
      have HK3 : Hid (∀ W, Below v3.heap.size v3 W → Bx W w3.heap.size 24 mx ∧ InC W w3.heap.size r.1 mx ∧ w3.heap.size + 1 ≤ W.heap.size ∧ Bx W w.heap.size 24 m ∧ InC W B c m ∧ IsInts W B Aa a ∧ IsInts W B Ab b ∧ Below w.heap.size w W ∧ B ≤ W.heap.size) := hid (fun W hb => by
        have q := box_keep hox hv3 W hb
        have q1 := HK1.out W (H2.out.trans ((hb3.mono H2.out.size).trans (q.2.2.1.mono (by have := H2.out.size; have := hb3.size; omega))))
        exact ⟨q.1, q.2.1.inC, q.2.2.2, q1.1, q1.2.1, q1.2.2.2.1, q1.2.2.2.2.1, q1.2.2.2.2.2.1, q1.2.2.2.2.2.2⟩)
      clear hox hb3 hv3 hld2 HST k2
      have hx0 := HK3.out v3 (Below.refl _ _)
      have hldc := hx0.2.2.2.1.ld
      have HC1 := hid (check_M B c HS.out.1 m v3 hx0.2.2.2.2.1 hx0.2.2.2.2.2.2.2.2)
      rw [err_t HSTP.out.ok1] at HC1
      clear hx0
      go_wp2_with fail
      refine HC1.out.mono ?_
      rintro e w4 ⟨rfl, hb4⟩
      have hx4 := HK3.out w4 hb4
      have hldx := hx4.1.ld
      have HC2 := hid (check_M w3.heap.size r.1 HSR.out mx w4 hx4.2.1 (by have := hx4.2.2.1; omega))
      rw [err_t HSTP.out.ok2] at HC2
      have H4 := hid hb4
      clear hx4 hldc hb4 HC1 hst3
      go_wp2_with fail
      refine HC2.out.mono ?_
      rintro e w5 ⟨rfl, hb5⟩
      have H5 := hid (H4.out.trans (hb5.mono H4.out.size))
      have hx5 := HK3.out w5 H5.out
      have hldx := hx5.1.ld
      have hldc := hx5.2.2.2.1.ld
      have HSF := hid (sameF_M w3.heap.size B r.1 c HSR.out HS.out.1 HSTP.out.ne mx m w5 hx5.2.1 hx5.2.2.2.2.1 (by have := hx5.2.2.1; omega) hx5.2.2.2.2.2.2.2.2)
      clear hx5 hb5 HC2 H4
      go_wp2_with fail
      refine HSF.out.mono ?_
      rintro e w6 ⟨rfl, hb6⟩
      have H6 := hid (H5.out.trans (hb6.mono H5.out.size))
      have hx6 := HK3.out w6 H6.out
      have hldc := hx6.2.2.2.1.ld
      have HWA := won_M B c HS.out.1 m Aa na ka a HE.out.1 (by omega) w6 hx6.2.2.2.2.1 hx6.2.2.2.2.2.1 hx6.2.2.2.2.2.2.2.2
      clear hx6 hb6 hldx HSF H5
      rw [HWN.out] at HWA
      have HWA := hid HWA
      go_wp2_with fail
      refine HWA.out.mono ?_
      rintro e w7 ⟨rfl, hb7⟩
      have HLW := hid (HK3.out w7 (H6.out.trans (hb7.mono H6.out.size))).2.2.2.2.2.2.2.1
      clear hb7 hldc
      go_wp2_with fail
      refine (works_any w7).mono ?_
      rintro e wz ⟨rfl, hbz⟩
      have HBZ := hid (HLW.out.trans (hbz.mono HLW.out.size))
      clear hbz
      go_wp2_with fail
      go_ret
      exact ⟨rfl, HBZ.out⟩
    · have HWN := hid hwa
      clear hwa
      cases hwb : Qu.won r.1 b
      · have HWN2 := hid hwb
        clear hwb
        go_enter Try.func4, Try.ntmps4
        go_wp2_with fail
        rw [← hw1]
        clear hw1 hld
        refine HG.out.mono ?_
        rintro e w2 ⟨rfl, hb2⟩
        have hld2 := (HK1.out w2 hb2).1.ld
        have H2 := hid hb2
        clear hb2 HG
        go_wp2_with fail
        have k2 := hid (HK1.out w2 H2.out)
        refine (HST.out w2 H2.out).mono ?_
        rintro e w3 ⟨mx, rfl, hox, hb3⟩
        obtain ⟨v3, hv3⟩ : ∃ v3, v3 = w3.alloc (.cells #[.slice mx.a0 mx.n0 mx.k0, .slice mx.a1 mx.n1 mx.k1, .slice mx.a2 mx.n2 mx.k2] 24) := ⟨_, rfl⟩
        have hst3 := (box_new hv3).2.2.2
        have HK3 : Hid (∀ W, Below v3.heap.size v3 W → Bx W w3.heap.size 24 mx ∧ InC W w3.heap.size r.1 mx ∧ w3.heap.size + 1 ≤ W.heap.size ∧ Bx W w.heap.size 24 m ∧ InC W B c m ∧ IsInts W B Aa a ∧ IsInts W B Ab b ∧ Below w.heap.size w W ∧ B ≤ W.heap.size) := hid (fun W hb => by
          have q := box_keep hox hv3 W hb
          have q1 := HK1.out W (H2.out.trans ((hb3.mono H2.out.size).trans (q.2.2.1.mono (by have := H2.out.size; have := hb3.size; omega))))
          exact ⟨q.1, q.2.1.inC, q.2.2.2, q1.1, q1.2.1, q1.2.2.2.1, q1.2.2.2.2.1, q1.2.2.2.2.2.1, q1.2.2.2.2.2.2⟩)
        clear hox hb3 hv3 hld2 HST k2
        have hx0 := HK3.out v3 (Below.refl _ _)
        have hldc := hx0.2.2.2.1.ld
        have HC1 := hid (check_M B c HS.out.1 m v3 hx0.2.2.2.2.1 hx0.2.2.2.2.2.2.2.2)
        rw [err_t HSTP.out.ok1] at HC1
        clear hx0
        go_wp2_with fail
        refine HC1.out.mono ?_
        rintro e w4 ⟨rfl, hb4⟩
        have hx4 := HK3.out w4 hb4
        have hldx := hx4.1.ld
        have HC2 := hid (check_M w3.heap.size r.1 HSR.out mx w4 hx4.2.1 (by have := hx4.2.2.1; omega))
        rw [err_t HSTP.out.ok2] at HC2
        have H4 := hid hb4
        clear hx4 hldc hb4 HC1 hst3
        go_wp2_with fail
        refine HC2.out.mono ?_
        rintro e w5 ⟨rfl, hb5⟩
        have H5 := hid (H4.out.trans (hb5.mono H4.out.size))
        have hx5 := HK3.out w5 H5.out
        have hldx := hx5.1.ld
        have hldc := hx5.2.2.2.1.ld
        have HSF := hid (sameF_M w3.heap.size B r.1 c HSR.out HS.out.1 HSTP.out.ne mx m w5 hx5.2.1 hx5.2.2.2.2.1 (by have := hx5.2.2.1; omega) hx5.2.2.2.2.2.2.2.2)
        clear hx5 hb5 HC2 H4
        go_wp2_with fail
        refine HSF.out.mono ?_
        rintro e w6 ⟨rfl, hb6⟩
        have H6 := hid (H5.out.trans (hb6.mono H5.out.size))
        have hx6 := HK3.out w6 H6.out
        have hldc := hx6.2.2.2.1.ld
        have HWA := won_M B c HS.out.1 m Aa na ka a HE.out.1 (by omega) w6 hx6.2.2.2.2.1 hx6.2.2.2.2.2.1 hx6.2.2.2.2.2.2.2.2
        clear hx6 hb6 hldx HSF H5
        rw [HWN.out] at HWA
        have HWA := hid HWA
        go_wp2_with fail
        refine HWA.out.mono ?_
        rintro e w7 ⟨rfl, hb7⟩
        have H7 := hid (H6.out.trans (hb7.mono H6.out.size))
        have hx7 := HK3.out w7 H7.out
        have hldx := hx7.1.ld
        have HWB := won_M w7.heap.size r.1 HSR.out mx Ab nb kb b HE.out.2 (by omega) w7 (hx7.2.1.more (by have := hx7.2.2.1; omega)) (hx7.2.2.2.2.2.2.1.more hx7.2.2.2.2.2.2.2.2) (Nat.le_refl _)
        clear hx7 hb7 hldc HWA H6
        rw [HWN2.out] at HWB
        have HWB := hid HWB
        go_wp2_with fail
        refine HWB.out.mono ?_
        rintro e w8 ⟨rfl, hb8⟩
        have HLW := hid (HK3.out w8 (H7.out.trans (hb8.mono H7.out.size))).2.2.2.2.2.2.2.1
        clear hb8 hldx
        go_wp2_with fail
        refine (works_any w8).mono ?_
        rintro e wz ⟨rfl, hbz⟩
        have HBZ := hid (HLW.out.trans (hbz.mono HLW.out.size))
        clear hbz
        go_wp2_with fail
        go_ret
        exact ⟨rfl, HBZ.out⟩
      · have HPOS := hid (safe_both HSTP.out HWN.out hwb)
        have HWN2 := hid hwb
        clear hwb
        go_enter Try.func4, Try.ntmps4
        go_wp2_with fail
        rw [← hw1]
        clear hw1 hld
        refine HG.out.mono ?_
        rintro e w2 ⟨rfl, hb2⟩
        have hld2 := (HK1.out w2 hb2).1.ld
        have H2 := hid hb2
        clear hb2 HG
        go_wp2_with fail
        have k2 := hid (HK1.out w2 H2.out)
        refine (HST.out w2 H2.out).mono ?_
        rintro e w3 ⟨mx, rfl, hox, hb3⟩
        obtain ⟨v3, hv3⟩ : ∃ v3, v3 = w3.alloc (.cells #[.slice mx.a0 mx.n0 mx.k0, .slice mx.a1 mx.n1 mx.k1, .slice mx.a2 mx.n2 mx.k2] 24) := ⟨_, rfl⟩
        have hst3 := (box_new hv3).2.2.2
        have HK3 : Hid (∀ W, Below v3.heap.size v3 W → Bx W w3.heap.size 24 mx ∧ InC W w3.heap.size r.1 mx ∧ w3.heap.size + 1 ≤ W.heap.size ∧ Bx W w.heap.size 24 m ∧ InC W B c m ∧ IsInts W B Aa a ∧ IsInts W B Ab b ∧ Below w.heap.size w W ∧ B ≤ W.heap.size) := hid (fun W hb => by
          have q := box_keep hox hv3 W hb
          have q1 := HK1.out W (H2.out.trans ((hb3.mono H2.out.size).trans (q.2.2.1.mono (by have := H2.out.size; have := hb3.size; omega))))
          exact ⟨q.1, q.2.1.inC, q.2.2.2, q1.1, q1.2.1, q1.2.2.2.1, q1.2.2.2.2.1, q1.2.2.2.2.2.1, q1.2.2.2.2.2.2⟩)
        clear hox hb3 hv3 hld2 HST k2
        have hx0 := HK3.out v3 (Below.refl _ _)
        have hldc := hx0.2.2.2.1.ld
        have HC1 := hid (check_M B c HS.out.1 m v3 hx0.2.2.2.2.1 hx0.2.2.2.2.2.2.2.2)
        rw [err_t HSTP.out.ok1] at HC1
        clear hx0
        go_wp2_with fail
        refine HC1.out.mono ?_
        rintro e w4 ⟨rfl, hb4⟩
        have hx4 := HK3.out w4 hb4
        have hldx := hx4.1.ld
        have HC2 := hid (check_M w3.heap.size r.1 HSR.out mx w4 hx4.2.1 (by have := hx4.2.2.1; omega))
        rw [err_t HSTP.out.ok2] at HC2
        have H4 := hid hb4
        clear hx4 hldc hb4 HC1 hst3
        go_wp2_with fail
        refine HC2.out.mono ?_
        rintro e w5 ⟨rfl, hb5⟩
        have H5 := hid (H4.out.trans (hb5.mono H4.out.size))
        have hx5 := HK3.out w5 H5.out
        have hldx := hx5.1.ld
        have hldc := hx5.2.2.2.1.ld
        have HSF := hid (sameF_M w3.heap.size B r.1 c HSR.out HS.out.1 HSTP.out.ne mx m w5 hx5.2.1 hx5.2.2.2.2.1 (by have := hx5.2.2.1; omega) hx5.2.2.2.2.2.2.2.2)
        clear hx5 hb5 HC2 H4
        go_wp2_with fail
        refine HSF.out.mono ?_
        rintro e w6 ⟨rfl, hb6⟩
        have H6 := hid (H5.out.trans (hb6.mono H5.out.size))
        have hx6 := HK3.out w6 H6.out
        have hldc := hx6.2.2.2.1.ld
        have HWA := won_M B c HS.out.1 m Aa na ka a HE.out.1 (by omega) w6 hx6.2.2.2.2.1 hx6.2.2.2.2.2.1 hx6.2.2.2.2.2.2.2.2
        clear hx6 hb6 hldx HSF H5
        rw [HWN.out] at HWA
        have HWA := hid HWA
        go_wp2_with fail
        refine HWA.out.mono ?_
        rintro e w7 ⟨rfl, hb7⟩
        have H7 := hid (H6.out.trans (hb7.mono H6.out.size))
        have hx7 := HK3.out w7 H7.out
        have hldx := hx7.1.ld
        have HWB := won_M w7.heap.size r.1 HSR.out mx Ab nb kb b HE.out.2 (by omega) w7 (hx7.2.1.more (by have := hx7.2.2.1; omega)) (hx7.2.2.2.2.2.2.1.more hx7.2.2.2.2.2.2.2.2) (Nat.le_refl _)
        clear hx7 hb7 hldc HWA H6
        rw [HWN2.out] at HWB
        have HWB := hid HWB
        go_wp2_with fail
        refine HWB.out.mono ?_
        rintro e w8 ⟨rfl, hb8⟩
        have H8 := hid (H7.out.trans (hb8.mono H7.out.size))
        have HK8 : Hid (∀ W, Below w8.heap.size w8 W → Bx W w3.heap.size 24 mx ∧ InC W w3.heap.size r.1 mx ∧ w3.heap.size + 1 ≤ W.heap.size ∧ Bx W w.heap.size 24 m ∧ InC W B c m ∧ IsInts W B Aa a ∧ IsInts W B Ab b ∧ Below w.heap.size w W ∧ B ≤ W.heap.size) := hid (fun W hq => HK3.out W (H8.out.trans (hq.mono H8.out.size)))
        have HB1 := hid (fun W (hq : Below w8.heap.size w8 W) => bothL_any B B Aa Ab ka kb na nb a b HE.out.1 HE.out.2 (by have := Nat.mul_le_mul hna3 hnb3; omega) (by omega) (by omega) W (HK8.out W hq).2.2.2.2.2.1 (HK8.out W hq).2.2.2.2.2.2.1 (HK8.out W hq).2.2.2.2.2.2.2.2 (HK8.out W hq).2.2.2.2.2.2.2.2)
        have HV1 := hid (fun W (hq : Below w8.heap.size w8 W) => voters_M B c HS.out.1 m W (HK8.out W hq).2.2.2.2.1 (HK8.out W hq).2.2.2.2.2.2.2.2)
        have HV2 := hid (fun W (hq : Below w8.heap.size w8 W) => voters_M w3.heap.size r.1 HSR.out mx W (HK8.out W hq).2.1 (by have := (HK8.out W hq).2.2.1; omega))
        have HSZ : Hid (∀ z3 z4, z3 = (Qu.uni (c.old ++ c.new)).length → z4 = (Qu.uni (r.1.old ++ r.1.new)).length → z3 * z4 ≤ 17000000000000 ∧ z3 ≤ 100000000 ∧ z4 ≤ 100000000) := hid (fun z3 z4 h3 h4 => by
          have q1 := voters_few HSTP.out.ok1
          have q2 := voters_few HSTP.out.ok2
          rw [← h3] at q1
          rw [← h4] at q2
          have := Nat.mul_le_mul q1 q2
          exact ⟨by omega, by omega, by omega⟩)
        have HSY : Hid (∀ z3 z4, z3 = (both a b).length → z4 = (both (Qu.uni (c.old ++ c.new)) (Qu.uni (r.1.old ++ r.1.new))).length → z3 * z4 ≤ 17000000000000 ∧ z3 ≤ 100000000 ∧ z4 ≤ 100000000) := hid (fun z3 z4 h3 h4 => by
          have q1 := both_len a b
          have q2 := both_len (Qu.uni (c.old ++ c.new)) (Qu.uni (r.1.old ++ r.1.new))
          have q3 := Nat.mul_le_mul (voters_few HSTP.out.ok1) (voters_few HSTP.out.ok2)
          have q4 : a.length * b.length ≤ 300 * 300 := Nat.mul_le_mul (by rw [← HE.out.1]; exact hna3) (by rw [← HE.out.2]; exact hnb3)
          have q5 : z3 ≤ 90000 := by omega
          have q6 : z4 ≤ 196 := by omega
          have := Nat.mul_le_mul q5 q6
          exact ⟨by omega, by omega, by omega⟩)
        clear hb8 hldx HWB
        go_wp2_with fail
        go_cut [12] from 68 to 81 (fun s W => s = .bool true ∧ Hid (Below w8.heap.size w8 W))
        case first =>
          rename_i J9 K9 h1 h2
          refine wp_region_all (w0 := w8) 15 (H10 Aa Ab na nb ka kb a b m mx c r.1) [68, 69, 70, 71, 72, 73, 74, 75, 76, 77, 78, 79, 80, 81, 12] (by kernel_rfl) (by kernel_rfl) rfl (by kernel_rfl) (by kernel_rfl) ?arms ?he
          case arms =>
            exact ⟨⟨.inl rfl, fun q W hb hkp hw => goes_move (hkp 4 (by decide)) rfl⟩,
              ⟨.inl rfl, fun q W hb hkp hw => goes_move (hkp 5 (by decide)) rfl⟩,
              ⟨.inl rfl, fun q W hb hkp hw => goes_call2 (hw 0 68 (by kernel_rfl)) (hw 1 69 (by kernel_rfl)) (by go_simp) ((HB1.out W hb).mono (by rintro e w' ⟨A2, c2, z, rfl, hz, ho, hb'⟩; exact ⟨_, rfl, ⟨A2, z, c2, rfl, hz, ho.reads⟩, hb'⟩))⟩,
              ⟨.inl rfl, fun q W hb hkp hw => goes_load (v1 := .pointer (some ⟨w.heap.size, 0, none⟩)) (hkp 6 (by decide)) (HK8.out W hb).2.2.2.1.ld rfl⟩,
              ⟨.inl rfl, fun q W hb hkp hw => goes_call1 (hw 3 71 (by kernel_rfl)) (by go_simp) ((HV1.out W hb).mono (by rintro e w' ⟨A2, z, c2, rfl, hz, ho, hb'⟩; exact ⟨_, rfl, ⟨A2, z, c2, rfl, hz, ho⟩, hb'⟩))⟩,
              ⟨.inl rfl, fun q W hb hkp hw => goes_load (v1 := .pointer (some ⟨w3.heap.size, 0, none⟩)) (hkp 13 (by decide)) (HK8.out W hb).1.ld rfl⟩,
              ⟨.inl rfl, fun q W hb hkp hw => goes_call1 (hw 5 73 (by kernel_rfl)) (by go_simp) ((HV2.out W hb).mono (by rintro e w' ⟨A2, z, c2, rfl, hz, ho, hb'⟩; exact ⟨_, rfl, ⟨A2, z, c2, rfl, hz, ho⟩, hb'⟩))⟩,
              ⟨.inl rfl, fun q W hb hkp hw => by
                obtain ⟨A3, z3, c3, e3, hz3, hi3⟩ := hw 4 72 (by kernel_rfl)
                obtain ⟨A4, z4, c4, e4, hz4, hi4⟩ := hw 6 74 (by kernel_rfl)
                exact goes_call2 e3 e4 (by go_simp) ((bothL_any _ _ A3 A4 c3 c4 z3 z4 _ _ hz3 hz4 (HSZ.out z3 z4 hz3 hz4).1 (HSZ.out z3 z4 hz3 hz4).2.1 (HSZ.out z3 z4 hz3 hz4).2.2 W hi3 hi4 (Nat.le_refl _) (Nat.le_refl _)).mono (by rintro e w' ⟨A2, c2, z, rfl, hz, ho, hb'⟩; exact ⟨_, rfl, ⟨A2, z, c2, rfl, hz, ho.reads⟩, hb'⟩))⟩,
              ⟨.inl rfl, fun q W hb hkp hw => by
                obtain ⟨A3, z3, c3, e3, hz3, hi3⟩ := hw 2 70 (by kernel_rfl)
                obtain ⟨A4, z4, c4, e4, hz4, hi4⟩ := hw 7 75 (by kernel_rfl)
                exact goes_call2 e3 e4 (by go_simp) ((bothL_any _ _ A3 A4 c3 c4 z3 z4 _ _ hz3 hz4 (HSY.out z3 z4 hz3 hz4).1 (HSY.out z3 z4 hz3 hz4).2.1 (HSY.out z3 z4 hz3 hz4).2.2 W hi3 hi4 (Nat.le_refl _) (Nat.le_refl _)).mono (by rintro e w' ⟨A2, c2, z, rfl, hz, ho, hb'⟩; exact ⟨_, rfl, ⟨A2, z, c2, rfl, hz, ho.reads⟩, hb'⟩))⟩,
              ⟨.inl rfl, fun q W hb hkp hw => by
                obtain ⟨A3, z3, c3, e3, hz3, hi3⟩ := hw 8 76 (by kernel_rfl)
                exact goes_val (run_lenI e3) ⟨z3, rfl, hz3⟩⟩,
              ⟨.inl rfl, fun q W hb hkp hw => by
                obtain ⟨z3, e3, hz3⟩ := hw 9 77 (by kernel_rfl)
                have hpos : (0 : Int) < (z3 : Int) := by have := HPOS.out; omega
                exact goes_val (run_bin e3 (show _ = .int .i64 0 from rfl) (by clear hw hkp hb e3 hz3; go_simp; omega)) rfl⟩,
              ⟨.inl rfl, fun q W hb hkp hw => goes_move rfl (hw 10 78 (by kernel_rfl))⟩,
              ⟨.inr ⟨11, 79, true, rfl, by kernel_rfl, fun _ _ h => h⟩, fun q W hb hkp hw => goes_call0 (by go_simp) ((works_any W).mono (by rintro e w' ⟨rfl, hb'⟩; exact ⟨_, rfl, rfl, hb'⟩))⟩,
              ⟨.inl rfl, fun q W hb hkp hw => goes_val (run_pick (hw 11 79 (by kernel_rfl)) (show _ = .bool true from hw 12 80 (by kernel_rfl))) rfl⟩,
              ⟨.inl rfl, fun q W hb hkp hw => goes_assign rfl (hw 13 81 (by kernel_rfl))⟩, trivial⟩
          case he =>
            intro u w9 hH hq
            have e12 : u 12 = .bool true := hH 14 12 (by decide) (by kernel_rfl)
            have G9 := hid hq
            exact h2 _ _ (Met.intro (h1 _ _ ⟨u 12, u 68, u 69, u 70, u 71, u 72, u 73, u 74, u 75, u 76, u 77, u 78, u 79, u 80, u 81, ⟨e12, G9⟩, by kernel_rfl⟩))
        case rest =>
          obtain ⟨rfl, G9⟩ := hcut
          have HEND := hid (HK8.out _ G9.out).2.2.2.2.2.2.2.1
          clear G9
          go_wp2_with fail
          go_ret
          exact ⟨rfl, HEND.out⟩
end Go.Proofs.Ytfkjahpcpmcefaa.Co
namespace Go.Proofs.Ytfkjahpcpmcefaa
open Go.RowKit Go.ChangeShapes Go.WideShapes Go.Deep
set_option maxRecDepth 100000
theorem intsIn_of_trod {H : Type} {enc : TypeId × Value → H} {W : World} {fuel : Nat} {cs : List Value} {x : DataW H × List MemPlace} (h : DataW.trod enc Try.prog W 0 (fun _ => true) true fuel 22 cs = some x) :
    ∃ (a : Option Addr) (c : Nat) (l : List Int), cs = [.slice a l.length c] ∧ IsInts W W.heap.size a l ∧ (l.length ≤ c ∧ c ≤ maxLen) ∧ (a = none → c = 0) := by
  rcases open_ints Try.underlying22 Try.underlying3 (by kernel_rfl) h with ⟨hcs, _⟩ | ⟨x, l, c, zs, hcs, _, hl, hm, hz, hx, hcell, hwz⟩
  · exact ⟨none, 0, [], hcs, IsInts.nil, ⟨Nat.le_refl _, Nat.zero_le _⟩, fun _ => rfl⟩
  · simp only [if_true] at hz
    obtain ⟨m, h1, h2⟩ := isInts_of_ints hl hz hcell hwz
    subst h2
    exact ⟨some x, c, m, hcs, h1, ⟨hl, hm⟩, fun h => by cases h⟩
theorem one_cell3 {cs : List Value} (h : cs.length = 3) (j : Nat) (hj : j < 3) : (cs.drop j).take 1 = [cs[j]'(by omega)] := by
  rw [List.drop_eq_getElem_cons (by omega)]
  rfl
theorem cellsOf_conf : Try.prog.cellsOf 24 = 3 := by kernel_rfl
theorem conf_of_trod {H : Type} {enc : TypeId × Value → H} {W : World} {fuel : Nat} {cs : List Value} {x : DataW H × List MemPlace} (hcl : cs.length = 3) (h : DataW.trod enc Try.prog W 0 (fun _ => true) true fuel 24 cs = some x) :
    ∃ (c : Qu.Cf) (a0 a1 a2 : Option Addr) (k0 k1 k2 : Nat), cs = [.slice a0 c.old.length k0, .slice a1 c.new.length k1, .slice a2 c.lrn.length k2] ∧ CIs W W.heap.size c a0 a1 a2 k0 k1 k2 := by
  obtain ⟨ys, n, _, _, _, hyl, hf⟩ := DataW.trod_struct Try.underlying24 h
  have hyl3 : ys.length = 3 := hyl
  have e0 : DataW.trod enc Try.prog W 0 (fun _ => true) true n 22 ((cs.drop 0).take (Try.prog.cellsOf 22)) = ys[0]? := hf 0 _ rfl
  have e1 : DataW.trod enc Try.prog W 0 (fun _ => true) true n 22 ((cs.drop 1).take (Try.prog.cellsOf 22)) = ys[1]? := hf 1 _ rfl
  have e2 : DataW.trod enc Try.prog W 0 (fun _ => true) true n 22 ((cs.drop 2).take (Try.prog.cellsOf 22)) = ys[2]? := hf 2 _ rfl
  have c3 : Try.prog.cellsOf 22 = 1 := by kernel_rfl
  rw [c3] at e0 e1 e2
  rw [one_cell3 hcl 0 (by omega), List.getElem?_eq_getElem (by omega)] at e0
  rw [one_cell3 hcl 1 (by omega), List.getElem?_eq_getElem (by omega)] at e1
  rw [one_cell3 hcl 2 (by omega), List.getElem?_eq_getElem (by omega)] at e2
  obtain ⟨a0, k0, l0, p1, p2, p3, p4⟩ := intsIn_of_trod e0
  obtain ⟨a1, k1, l1, q1, q2, q3, q4⟩ := intsIn_of_trod e1
  obtain ⟨a2, k2, l2, r1, r2, r3, r4⟩ := intsIn_of_trod e2
  have p1 := (List.cons.inj p1).1
  have q1 := (List.cons.inj q1).1
  have r1 := (List.cons.inj r1).1
  refine ⟨⟨l0, l1, l2⟩, a0, a1, a2, k0, k1, k2, ?_, ⟨p2, q2, r2, p4, q4, r4, p3, q3, r3⟩⟩
  match cs, hcl with
  | [x0, x1, x2], _ =>
    simp at p1 q1 r1
    rw [p1, q1, r1]
theorem conf_open {H : Type} {enc : TypeId × Value → H} {W : World} {cs : Array Value} {d : DataW H} {p : List MemPlace} (hsz : cs.size = Try.prog.cellsOf 24) (h : DataW.Trod enc Try.prog W 0 (fun _ => true) true 24 (.agg cs) d p) :
    ∃ (c : Qu.Cf) (a0 a1 a2 : Option Addr) (k0 k1 k2 : Nat), cs = #[.slice a0 c.old.length k0, .slice a1 c.new.length k1, .slice a2 c.lrn.length k2] ∧ CIs W W.heap.size c a0 a1 a2 k0 k1 k2 := by
  obtain ⟨fuel, hf⟩ := h
  rw [cellsOf_conf] at hsz
  obtain ⟨c, a0, a1, a2, k0, k1, k2, e, hc⟩ := conf_of_trod (cs := cs.toList) (by simpa using hsz) hf
  refine ⟨c, a0, a1, a2, k0, k1, k2, ?_, hc⟩
  rw [← Array.toArray_toList (xs := cs), e]
end Go.Proofs.Ytfkjahpcpmcefaa
