/- Texts of the proof, one behind the other: CfW, ReadInt, Reader2, ReadNew, ImRd3, ImRdA, ImRdB, ImRdC, ImRdD, ImRdE, ImRdF, ImRdG, RegInv, ImReg, ImRdH0, ImRdH, ImRdJ, ImRdI, ImRdK, ImRdL, ImRdM, ImCmp, ImOr, ImAsc, ImAscV, ImGet. -/
import Derived.Test.YtfkjahpcpmcefaaGreatConfKnownPartAC
import Derived.Test.YtfkjahpcpmcefaaGreatConfKnownPartAB
import Derived.Test.YtfkjahpcpmcefaaGreatConfKnownPartAA
import Derived.Deep.Upon
import Derived.Deep.RegionHeld3
import Derived.Deep.CutRange
import Derived.StillTailTactics
import Derived.Deep.RegionWith
import Derived.Great.BuildSlice
namespace Go.Proofs.YtfkjahpcpmcefaaGreat.Co
open Go Go.RowKit
open Qu (Cf)
set_option maxRecDepth 100000
set_option linter.unusedVariables false
attribute [local go_sem ↓] Im.loadAt_conf3 Im.storeAt_conf3 loadAt_mem storeAt_mem
theorem ownsI_lit (w : World) (l : List Int) (hl : ∀ x ∈ l, InInt x) (hm : l.length ≤ maxLen) : OwnsI 3 (w.alloc (.cells (ints l).toArray 3)) w.heap.size (some ⟨w.heap.size, 0, none⟩) l.length l := by
  refine ⟨hl, by simp [ints], .inr ⟨w.heap.size, l.length, _, rfl, Nat.le_refl _, heap_alloc_new w _, Nat.le_refl _, hm, by simp [ints], by rw [List.toList_toArray, Nat.mul_one, List.take_of_length_le (by simp [ints])]⟩⟩
theorem small_of (l : List Int) (h : (l.all fun x => decide (-9223372036854775808 ≤ x ∧ x ≤ 9223372036854775807)) = true) : ∀ x ∈ l, InInt x := fun x hx => by
  have := List.all_eq_true.1 h x hx
  have := of_decide_eq_true this
  exact ⟨by omega, by omega⟩
theorem lit_in (w : World) (l : List Int) (h : (l.all fun x => decide (-9223372036854775808 ≤ x ∧ x ≤ 9223372036854775807)) = true) (hm : l.length ≤ 1000) : IsInts (w.alloc (.cells (ints l).toArray 3)) (w.heap.size + 1) (some ⟨w.heap.size, 0, none⟩) l := by
  have := (ownsI_lit w l (small_of l h) (by unfold maxLen; omega)).reads
  rwa [World.size_alloc] at this
def c3 : Cf := ⟨[1, 2, 3], [], []⟩
def c34 : Cf := ⟨[1, 2, 3], [], [4]⟩
def c3t4 : Cf := ⟨[1, 2, 3], [1, 2, 3, 4], []⟩
def c4 : Cf := ⟨[1, 2, 3, 4], [], []⟩
theorem k_add : add c3 4 = (c34, 0) := by kernel_rfl
theorem k_no : next c34 [1, 2] = (c34, false) := by kernel_rfl
theorem k_b : next c34 [4] = (c3t4, true) := by kernel_rfl
theorem k_c : next c3t4 [] = (c4, true) := by kernel_rfl
theorem short_c3 : Short c3 := ⟨by decide, by decide, by decide⟩
theorem short_c34 : Short c34 := ⟨by decide, by decide, by decide⟩
theorem short_c3t4 : Short c3t4 := ⟨by decide, by decide, by decide⟩
theorem short_c4 : Short c4 := ⟨by decide, by decide, by decide⟩
theorem three_any (w : World) : Calls Tryz.prog 4 #[] w (Got w c3) := by
  obtain ⟨w1, hw1⟩ : ∃ w1, w1 = w.alloc (.cells #[.slice none 0 0, .slice none 0 0, .slice none 0 0] 24) := ⟨_, rfl⟩
  obtain ⟨w2, hw2⟩ : ∃ w2, w2 = w1.alloc (.cells #[.int .i64 1, .int .i64 2, .int .i64 3] 3) := ⟨_, rfl⟩
  have hb1 : Below w.heap.size w w1 := by rw [hw1]; exact below_new w _
  have hs1 : w1.heap.size = w.heap.size + 1 := by rw [hw1]; simp
  have hx1 : Bx w1 w.heap.size 24 mNil := by rw [hw1]; exact heap_alloc_new w _
  have hb2 : Below w1.heap.size w1 w2 := by rw [hw2]; exact below_new w1 _
  have ho : OwnsI 3 w2 w1.heap.size (some ⟨w1.heap.size, 0, none⟩) 3 [1, 2, 3] := by rw [hw2]; exact ownsI_lit w1 [1, 2, 3] (small_of _ (by decide)) (by decide)
  have hx2 := hx1.below hb2 hx1.lt
  have ho' : OwnsI 3 w2 w1.heap.size (some ⟨w.heap.size + 1, 0, none⟩) 3 [1, 2, 3] := by rw [hs1] at ho ⊢; exact ho
  have hst := hx2.st (m' := ⟨some ⟨w.heap.size + 1, 0, none⟩, 3, 3, none, 0, 0, none, 0, 0⟩)
  have H := hid (And.intro (hx2.set ⟨some ⟨w.heap.size + 1, 0, none⟩, 3, 3, none, 0, 0, none, 0, 0⟩) (got_box (w2 := w1) (b := w.heap.size) (own1 (n := 3) ho' rfl) (hb1.trans (hb2.mono hb1.size)) ⟨Nat.le_refl _, by omega⟩))
  have HW := hid hw2
  rw [hw2, hw1] at hst
  clear hb1 hs1 hx1 hb2 ho ho' hx2
  go_enter Tryz.func4, Tryz.ntmps4
  go_wp2_with fail
  rw [← hw1, ← HW.out]
  refine bodyPost_ret (results_cell_row rfl _ _ w.heap.size _ _ _ _ rfl H.out.1 Tryz.underlying24 rfl (by rw [Im.info_conf33]; rfl)) rfl ?_
  exact ⟨_, rfl, H.out.2.1, H.out.2.2⟩
theorem box_new {w v : World} {m : M3} (h : v = w.alloc (.cells #[.slice m.a0 m.n0 m.k0, .slice m.a1 m.n1 m.k1, .slice m.a2 m.n2 m.k2] 24)) : Bx v w.heap.size 24 m ∧ Below w.heap.size w v ∧ v.heap.size = w.heap.size + 1 ∧
    (Im.stX 24 (.pointer (some ⟨w.heap.size, 0, none⟩)) (.agg #[.slice m.a0 m.n0 m.k0, .slice m.a1 m.n1 m.k1, .slice m.a2 m.n2 m.k2])).run Tryz.prog (w.alloc (.cells #[.slice none 0 0, .slice none 0 0, .slice none 0 0] 24)) = .ok () v := by
  subst h
  exact ⟨Bx.new _ _ _, below_new _ _, by simp, Im.stNew w _ 3 Im.info_conf33 _ _ rfl rfl (by simp [Value.oneCell'])⟩
set_option maxHeartbeats 6400000 in
theorem works_any (w : World) : Calls Tryz.prog 9 #[] w fun e w' => e = .returned (.bool true) ∧ Below w.heap.size w w' := by
  have H0 := hid (three_any w)
  go_enter Tryz.func9, Tryz.ntmps9
  go_wp2_with fail
  refine H0.out.mono ?_
  rintro e w1 ⟨m1, rfl, ho1, hb1⟩
  have HA := add_any w1.heap.size c3 short_c3 m1 4 (by exact ⟨by decide, by decide⟩) w1 ho1.inC (Nat.le_refl _)
  rw [k_add] at HA
  have HA := hid HA
  have B1 := hid hb1
  clear ho1 hb1 H0
  go_wp2_with fail
  refine HA.out.mono ?_
  rintro e w2 ⟨ma, rfl, hoa, hb2⟩
  obtain ⟨v2, hv2⟩ : ∃ v2, v2 = w2.alloc (.cells #[.slice ma.a0 ma.n0 ma.k0, .slice ma.a1 ma.n1 ma.k1, .slice ma.a2 ma.n2 ma.k2] 24) := ⟨_, rfl⟩
  obtain ⟨hx2, hbv2, hs2, hst2⟩ := box_new hv2
  obtain ⟨u2, hu2⟩ : ∃ u2, u2 = v2.alloc (.cells #[.int .i64 1, .int .i64 2] 3) := ⟨_, rfl⟩
  have hbu2 : Below v2.heap.size v2 u2 := by rw [hu2]; exact below_new _ _
  have hil : IsInts u2 (v2.heap.size + 1) (some ⟨v2.heap.size, 0, none⟩) [1, 2] := by rw [hu2]; exact lit_in v2 [1, 2] (by decide) (by decide)
  have hsu : u2.heap.size = v2.heap.size + 1 := by rw [hu2]; simp
  have hia := ((hoa.below hbv2).below hbu2).inC
  have HN := next_any w2.heap.size (v2.heap.size + 1) c34 short_c34 ma (some ⟨v2.heap.size, 0, none⟩) 2 2 [1, 2] rfl (by decide) u2 hia hil (by omega) (by omega)
  rw [k_no] at HN
  have HN := hid HN
  have hk : ∀ W, Below v2.heap.size v2 W → Bx W w2.heap.size 24 ma ∧ InC W w2.heap.size c34 ma ∧ Below w.heap.size w W ∧ w2.heap.size + 1 ≤ W.heap.size := fun W hb =>
    ⟨hx2.below hb hx2.lt, ((hoa.below hbv2).below hb).inC, (B1.out.trans ((hb2.mono B1.out.size).trans (hbv2.mono (by have := B1.out.size; have := hb2.size; omega)))).trans (hb.mono (by have := B1.out.size; have := hb2.size; omega)), by have := hb.size; omega⟩
  have HK := hid hk
  have BU := hid (And.intro hbu2 hsu)
  have hld2 := hx2.ld
  have HU2 := hid hu2
  clear hv2 hoa hb2 hx2 hbv2 hs2 hbu2 hil hsu hia HA hu2 hk
  go_wp2_with fail
  rw [← HU2.out]
  refine HN.out.mono ?_
  rintro e w3 ⟨mx, rfl, hox, hb3⟩
  have hb23 := BU.out.1.trans (hb3.mono BU.out.1.size)
  obtain ⟨v3, hv3⟩ : ∃ v3, v3 = w3.alloc (.cells #[.slice mx.a0 mx.n0 mx.k0, .slice mx.a1 mx.n1 mx.k1, .slice mx.a2 mx.n2 mx.k2] 24) := ⟨_, rfl⟩
  obtain ⟨hx3, hbv3, hs3, hst3⟩ := box_new hv3
  obtain ⟨u3, hu3⟩ : ∃ u3, u3 = v3.alloc (.cells #[.int .i64 4] 3) := ⟨_, rfl⟩
  have hbu3 : Below v3.heap.size v3 u3 := by rw [hu3]; exact below_new _ _
  have hil : IsInts u3 (v3.heap.size + 1) (some ⟨v3.heap.size, 0, none⟩) [4] := by rw [hu3]; exact lit_in v3 [4] (by decide) (by decide)
  have hsu : u3.heap.size = v3.heap.size + 1 := by rw [hu3]; simp
  have hb2v3 := hb23.trans (hbv3.mono hb23.size)
  have hb2u3 := hb2v3.trans (hbu3.mono hb2v3.size)
  have HN3 := next_any w2.heap.size (v3.heap.size + 1) c34 short_c34 ma (some ⟨v3.heap.size, 0, none⟩) 1 1 [4] rfl (by decide) u3 (HK.out u3 hb2u3).2.1 hil (by have := (HK.out u3 hb2u3).2.2.2; omega) (by omega)
  rw [k_b] at HN3
  have HN3 := hid HN3
  have hld3 := (HK.out v3 hb2v3).1.ld
  have BU3 := hid hb2u3
  have HU3 := hid hu3
  clear hv3 hox hb3 hx3 hbv3 hs3 hbu3 hil hsu hu3 hb23 hb2v3 hb2u3 HN hld2 hst2
  go_wp2_with fail
  rw [← HU3.out]
  refine HN3.out.mono ?_
  rintro e w4 ⟨mb, rfl, hob, hb4⟩
  obtain ⟨v4, hv4⟩ : ∃ v4, v4 = w4.alloc (.cells #[.slice mb.a0 mb.n0 mb.k0, .slice mb.a1 mb.n1 mb.k1, .slice mb.a2 mb.n2 mb.k2] 24) := ⟨_, rfl⟩
  obtain ⟨hx4, hbv4, hs4, hst4⟩ := box_new hv4
  have hb24 := BU3.out.trans (hb4.mono BU3.out.size)
  have hb2v4 := hb24.trans (hbv4.mono hb24.size)
  have hk4 : ∀ W, Below v4.heap.size v4 W → Bx W w4.heap.size 24 mb ∧ InC W w4.heap.size c3t4 mb ∧ Below v2.heap.size v2 W ∧ w4.heap.size + 1 ≤ W.heap.size := fun W hb =>
    ⟨hx4.below hb hx4.lt, ((hob.below hbv4).below hb).inC, hb2v4.trans (hb.mono hb2v4.size), by have := hb.size; omega⟩
  have HN4 := next_any w4.heap.size 0 c3t4 short_c3t4 mb none 0 0 [] rfl (by decide) v4 (hk4 v4 (Below.refl _ _)).2.1 IsInts.nil (by omega) (by omega)
  rw [k_c] at HN4
  have HN4 := hid HN4
  have HK4 := hid hk4
  have hld4 := hx4.ld
  clear hv4 hob hb4 hx4 hbv4 hs4 hb24 hb2v4 hk4 HN3 hld3 hst3
  go_wp2_with fail
  refine HN4.out.mono ?_
  rintro e w5 ⟨mc, rfl, hoc, hb5⟩
  obtain ⟨v5, hv5⟩ : ∃ v5, v5 = w5.alloc (.cells #[.slice mc.a0 mc.n0 mc.k0, .slice mc.a1 mc.n1 mc.k1, .slice mc.a2 mc.n2 mc.k2] 24) := ⟨_, rfl⟩
  obtain ⟨hx5, hbv5, hs5, hst5⟩ := box_new hv5
  have hb4v5 := hb5.trans (hbv5.mono hb5.size)
  have hk5 : ∀ W, Below v5.heap.size v5 W → Bx W w5.heap.size 24 mc ∧ InC W w5.heap.size c4 mc ∧ Below v4.heap.size v4 W ∧ w5.heap.size + 1 ≤ W.heap.size := fun W hb =>
    ⟨hx5.below hb hx5.lt, ((hoc.below hbv5).below hb).inC, hb4v5.trans (hb.mono hb4v5.size), by have := hb.size; omega⟩
  obtain ⟨a5, ha5⟩ : ∃ a5, a5 = v5.alloc (.cells #[.int .i64 1, .int .i64 2, .int .i64 3] 3) := ⟨_, rfl⟩
  have hba : Below v5.heap.size v5 a5 := by rw [ha5]; exact below_new _ _
  have hia : IsInts a5 (v5.heap.size + 1) (some ⟨v5.heap.size, 0, none⟩) [1, 2, 3] := by rw [ha5]; exact lit_in v5 [1, 2, 3] (by decide) (by decide)
  have hsa : a5.heap.size = v5.heap.size + 1 := by rw [ha5]; simp
  obtain ⟨d5, hd5⟩ : ∃ d5, d5 = a5.alloc (.cells #[.int .i64 1, .int .i64 2, .int .i64 3, .int .i64 4] 3) := ⟨_, rfl⟩
  have hbd : Below a5.heap.size a5 d5 := by rw [hd5]; exact below_new _ _
  have hid5 : IsInts d5 (a5.heap.size + 1) (some ⟨v5.heap.size + 1, 0, none⟩) [1, 2, 3, 4] := by
    have := lit_in a5 [1, 2, 3, 4] (by decide) (by decide)
    rw [hd5]
    rw [hsa] at this ⊢
    exact this
  have hsd : d5.heap.size = a5.heap.size + 1 := by rw [hd5]; simp
  have hb5d := hba.trans (hbd.mono hba.size)
  have hin : InC d5 (a5.heap.size + 1) c3t4 ⟨some ⟨v5.heap.size, 0, none⟩, 3, 3, some ⟨v5.heap.size + 1, 0, none⟩, 4, 4, none, 0, 0⟩ :=
    ⟨⟨(hia.below (hbd.mono (by omega))).more (by omega), hid5, IsInts.nil, (fun e => by cases e), (fun e => by cases e), (fun _ => rfl), (show 3 ≤ 3 ∧ 3 ≤ maxLen by decide), (show 4 ≤ 4 ∧ 4 ≤ maxLen by decide), (show 0 ≤ 0 ∧ 0 ≤ maxLen by decide)⟩, rfl, rfl, rfl⟩
  have HS1 := hid (sameConf_M w4.heap.size (a5.heap.size + 1) c3t4 short_c3t4 mb _ d5 (HK4.out d5 (hk5 d5 hb5d).2.2.1).2.1 hin (by have := (HK4.out d5 (hk5 d5 hb5d).2.2.1).2.2.2; omega) (by omega))
  have hld5 := (HK4.out v5 (hk5 v5 (Below.refl _ _)).2.2.1).1.ld
  have HK5 := hid hk5
  have HU5 := hid (And.intro ha5 hd5)
  have HBD := hid hb5d
  clear hv5 hoc hb5 hx5 hbv5 hs5 hb4v5 hk5 ha5 hd5 hba hia hsa hbd hid5 hsd hin hb5d HN4 hld4 hst4
  go_wp2_with fail
  rw [← HU5.out.1, ← HU5.out.2]
  refine HS1.out.mono ?_
  rintro e w6 ⟨rfl, hb6⟩
  have hb56 := HBD.out.trans (hb6.mono HBD.out.size)
  obtain ⟨a6, ha6⟩ : ∃ a6, a6 = w6.alloc (.cells #[.int .i64 1, .int .i64 2, .int .i64 3, .int .i64 4] 3) := ⟨_, rfl⟩
  have hba : Below w6.heap.size w6 a6 := by rw [ha6]; exact below_new _ _
  have hia : IsInts a6 (w6.heap.size + 1) (some ⟨w6.heap.size, 0, none⟩) [1, 2, 3, 4] := by rw [ha6]; exact lit_in w6 [1, 2, 3, 4] (by decide) (by decide)
  have hsa : a6.heap.size = w6.heap.size + 1 := by rw [ha6]; simp
  have hb5a := hb56.trans (hba.mono hb56.size)
  have hin : InC a6 (w6.heap.size + 1) c4 ⟨some ⟨w6.heap.size, 0, none⟩, 4, 4, none, 0, 0, none, 0, 0⟩ :=
    ⟨⟨hia, IsInts.nil, IsInts.nil, (fun e => by cases e), (fun _ => rfl), (fun _ => rfl), (show 4 ≤ 4 ∧ 4 ≤ maxLen by decide), (show 0 ≤ 0 ∧ 0 ≤ maxLen by decide), (show 0 ≤ 0 ∧ 0 ≤ maxLen by decide)⟩, rfl, rfl, rfl⟩
  have HS2 := hid (sameConf_M w5.heap.size (w6.heap.size + 1) c4 short_c4 mc _ a6 (HK5.out a6 hb5a).2.1 hin (by have := (HK5.out a6 hb5a).2.2.2; omega) (by omega))
  have hld6 := (HK5.out w6 hb56).1.ld
  have HU6 := hid ha6
  have HBA := hid hb5a
  clear ha6 hba hia hsa hin hb5a hb6 hb56 HS1 hld5 hst5
  go_wp2_with fail
  rw [← HU6.out]
  refine HS2.out.mono ?_
  rintro e w7 ⟨rfl, hb7⟩
  have hb57 := HBA.out.trans (hb7.mono HBA.out.size)
  have HE := hid ((HK.out w7 (HK4.out w7 (HK5.out w7 hb57).2.2.1).2.2.1).2.2.1)
  clear hb7 hb57 HS2 hld6
  go_wp2_with fail
  go_ret
  exact ⟨rfl, HE.out⟩
end Go.Proofs.YtfkjahpcpmcefaaGreat.Co
namespace Go.Proofs.YtfkjahpcpmcefaaGreat
open Go.RowKit
theorem or_add (v c : Nat) (hc : c < 256) : v * 256 ||| c = v * 256 + c := by
  rw [show v * 256 = 2 ^ 8 * v from by omega, ← Nat.two_pow_add_eq_or_of_lt hc]
theorem wrap64_sgn (n : Nat) (h : n < 18446744073709551616) : wrap64 (n : Int) = Pk.sgn n := by
  unfold wrap64 Pk.sgn
  split <;> omega
theorem num_take_lt (l : List Nat) (k : Nat) (hl : l.length ≤ 8) (hk : k < l.length) (h : ∀ x ∈ l, x < 256) : Pk.num (l.take k) < 72057594037927936 := by
  have h1 := Pk.num_lt (l.take k) (fun x hx => h x (List.mem_of_mem_take hx))
  have h2 : (l.take k).length ≤ 7 := by rw [List.length_take]; omega
  have h3 : 256 ^ (l.take k).length ≤ 256 ^ 7 := Nat.pow_le_pow_right (by decide) h2
  have h4 : 256 ^ 7 = 72057594037927936 := by decide
  omega
set_option maxRecDepth 100000 in
set_option maxHeartbeats 400000 in
theorem number_any (B : Nat) (A : Option Addr) (c : Nat) (l : List Nat) (hl : l.length ≤ 8) (w : World) (h : IsBytes w B A l) :
    Calls Tryz.prog 124 #[.slice A l.length c] w fun e w' => e = .returned (.int .i64 (Pk.sgn (Pk.num l))) ∧ w = w' := by
  go_enter Tryz.func124, Tryz.ntmps124
  go_wp2
  go_loop [3, 8] (fun v i => ∃ k n : Nat, k ≤ l.length ∧ i = .int .i64 k ∧ v = .int .u64 (n : Int) ∧ n < 18446744073709551616 ∧ Hid (n = Pk.num (l.take k))) (fun _ i => l.length - (RowKit.intOf i).toNat)
  case atStart => exact ⟨0, 0, by omega, rfl, rfl, by omega, hid rfl⟩
  case round =>
    obtain ⟨k, n, hk, rfl, rfl, hn, hs⟩ := hrel
    by_cases hlt : k < l.length
    · obtain ⟨b, off, rfl, _, hc⟩ := h.cells k hlt
      have hck := hc k hlt
      have hb8 := h.small l[k] (List.getElem_mem _)
      have hn7 : n < 72057594037927936 := by rw [hs.out]; exact num_take_lt l k hl hlt h.small
      have HO : Hid (bits .or .u64 ((n : Int) * 256) (l[k] : Nat) = ((n * 256 + l[k] : Nat) : Int)) := by
        show _ = _
        rw [show (n : Int) * 256 = ((n * 256 : Nat) : Int) from by omega, u64_or_nat _ _ (by omega) (by omega), or_add _ _ hb8]
      clear hc
      go_wp2
      go_round
      case rel => exact ⟨k + 1, n * 256 + l[k], by omega, by go_num, by rw [HO.out], by omega, by
        show _ = _
        rw [List.take_succ_eq_append_getElem hlt, Pk.num_snoc, ← hs.out]⟩
      case measure => simp [RowKit.intOf] <;> omega
    · go_wp2
      go_ret
      obtain rfl : k = l.length := by omega
      exact ⟨ret_int (by rw [wrap64_sgn n hn, hs.out, List.take_length]), rfl⟩
set_option maxRecDepth 100000 in
set_option maxHeartbeats 400000 in
theorem int_rdr (g : Nat) (s : Pk.St) (w : World) (h : Rdr w g s) :
    Calls Tryz.prog 121 #[.pointer (some ⟨g, 0, none⟩)] w fun e w' => e = .returned (.int .i64 (Pk.rdInt s).1) ∧ Rdr w' g (Pk.rdInt s).2 ∧ w.grownBy w' (some g) := by
  have HT := hid (take_rdr g s 8 (by unfold InInt; omega) w h)
  have h8 : (Pk.taken s 8).1.length ≤ 8 := by
    unfold Pk.taken
    split
    · simp
    · exact List.length_take_le _ _
  clear h
  go_enter Tryz.func121, Tryz.ntmps121
  go_wp2_with fail
  refine HT.out.mono ?_
  rintro e w1 ⟨A1, c1, rfl, hb, _, hR, hG⟩
  go_wp2_with fail
  refine (number_any g A1 c1 _ h8 _ hb).mono ?_
  rintro e w2 ⟨rfl, rfl⟩
  go_wp2_with fail
  go_ret
  exact ⟨ret_int (Pk.rdInt_num s).symm, by rw [Pk.rdInt_st]; exact hR, hG⟩
end Go.Proofs.YtfkjahpcpmcefaaGreat
namespace Go.Proofs.YtfkjahpcpmcefaaGreat
open Go.RowKit
set_option maxRecDepth 100000
def endOf (s : Pk.St) : Int := if s.bad = true then 4 else if 0 < s.rest.length then 2 else 0
set_option maxHeartbeats 400000 in
theorem end_rdr (g : Nat) (s : Pk.St) (w : World) (h : Rdr w g s) :
    Calls Tryz.prog 111 #[.pointer (some ⟨g, 0, none⟩)] w fun e w' => e = .returned (.int .i64 (endOf s)) ∧ w = w' := by
  obtain ⟨A, c, h1, h2, h3, h4, h5⟩ := h.at_
  have hc0 : w.cell? ⟨g, 0, none⟩ = some (.slice A s.rest.length c) := row_cell h1 0
  have hc1 : w.cell? ⟨g, 1, none⟩ = some (.bool s.bad) := row_cell h1 1
  clear h h1 h2
  obtain ⟨rest, bad⟩ := s
  dsimp only at *
  by_cases hl : 0 < rest.length
  · cases bad
    all_goals
      have HE := hid hl
      go_enter Tryz.func111, Tryz.ntmps111
      go_wp2
      go_ret
      exact ⟨ret_int (by simp [endOf, HE.out]), rfl⟩
  · obtain rfl : rest = [] := List.eq_nil_of_length_eq_zero (by omega)
    clear hl
    cases bad
    all_goals
      go_enter Tryz.func111, Tryz.ntmps111
      go_wp2
      go_ret
      exact ⟨ret_int (by simp [endOf]), rfl⟩
end Go.Proofs.YtfkjahpcpmcefaaGreat
namespace Go.Proofs.YtfkjahpcpmcefaaGreat
open Go.RowKit
theorem OwnsB.capZ {e : TypeId} {w : World} {base c : Nat} {A : Option Addr} {l : List Nat} (h : OwnsB e w base A c l) : c ≤ maxLen ∧ (A = none → c = 0) := by
  rcases h.row.2 with ⟨h1, _⟩ | ⟨g, cap, cur, h1, _, _, _, h2, _⟩
  · injection h1 with h1 h2 h3
    exact ⟨by omega, fun _ => h3⟩
  · injection h1 with h3 h4 h5
    exact ⟨by omega, fun h6 => by rw [h3] at h6; cases h6⟩
set_option maxRecDepth 100000 in
set_option maxHeartbeats 400000 in
theorem sclone_any (B : Nat) (A : Option Addr) (c : Nat) (l : List Nat) (hl : l.length ≤ 140737488354000) (w : World) (h : IsBytes w B A l) (hB : B ≤ w.heap.size) (hn : A = none → c = 0) :
    Calls Tryz.prog 120 #[.slice A l.length c] w fun e w' => ∃ A' c', e = .returned (.slice A' l.length c') ∧ OwnsB 5 w' w.heap.size A' c' l ∧ Below w.heap.size w w' := by
  obtain ⟨i0, hi, hz0, hz1, hz2⟩ := info_parts info_u8
  have hq := fun (w : World) (a : Option Addr) (n c : Nat) => Lib.run_eql_slice_nil (P := Tryz.prog) w 31 5 a n c 0 0 Tryz.underlying31
  rcases A with _ | ad
  · obtain rfl := hn rfl
    obtain rfl := h.of_none
    go_enter Tryz.func120, Tryz.ntmps120
    go_wp2
    go_ret
    exact ⟨none, 0, rfl, OwnsB.nil _ _ _, Below.refl _ _⟩
  · have hbel : Below w.heap.size w (w.alloc (.cells #[] 5)) := (Below.refl _ _).alloc (Nat.le_refl _) _
    have hown : OwnsB 5 (w.alloc (.cells #[] 5)) w.heap.size (some ⟨w.heap.size, 0, none⟩) 0 [] := by
      refine ⟨by simp, by simp [bytes], .inr ⟨w.heap.size, 0, _, rfl, Nat.le_refl _, heap_alloc_new w _, Nat.zero_le _, by unfold maxLen; omega, by simp, by simp [bytes]⟩⟩
    have hs : IsBytes (w.alloc (.cells #[] 5)) w.heap.size (some ad) l := (h.more hB).below hbel
    have HB := hid hbel
    have hsz := hbel.size
    have HS := hid hsz
    clear hbel hsz
    go_enter Tryz.func120, Tryz.ntmps120
    go_wp2_with (at_builtin; refine wpList_append_bytesN rfl _ _ 31 rfl w.heap.size 5 i0 Tryz.underlying31 hi hz0 hz1 hz2 (some ⟨w.heap.size, 0, none⟩) 0 [] 0 rfl rfl hown w.heap.size (some ad) c l l.length rfl rfl hn hs l (List.nil_append _) (by omega) HS.out ?_)
    intro A3 c3 w2 hown2 hbel2
    have HB2 := hid (HB.out.trans hbel2)
    clear hown hs hbel2
    go_wp2
    go_ret
    exact ⟨A3, c3, ret_len (by simp), hown2, HB2.out⟩
def Fresh (w : World) (l : List Nat) (e : Ending) (w' : World) : Prop :=
  ∃ g, e = .returned (.pointer (some ⟨g, 0, none⟩)) ∧ w.heap.size ≤ g ∧ (∀ w2 row, w'.grownBy w2 row → (∀ k, row = some k → k < w.heap.size) → Rdr w2 g ⟨l, false⟩) ∧ Below w.heap.size w w'
set_option maxRecDepth 100000 in
set_option maxHeartbeats 400000 in
theorem read_keep (B : Nat) (A : Option Addr) (c : Nat) (l : List Nat) (hl : l.length ≤ 140737488354000) (w : World) (h : IsBytes w B A l) (hB : B ≤ w.heap.size) (hn : A = none → c = 0) :
    Calls Tryz.prog 110 #[.slice A l.length c] w (Fresh w l) := by
  have HC := hid (sclone_any B A c l hl w h hB hn)
  have hsm := h.small
  clear h hn
  go_enter Tryz.func110, Tryz.ntmps110
  go_wp2_with fail
  refine HC.out.mono ?_
  rintro e w1 ⟨A1, c1, rfl, hown, hbel⟩
  have hcap := hown.cap
  have hcap2 := hown.capZ
  have hm : l.length ≤ 9223372036854775807 := by have := hcap2.1; unfold maxLen at this; omega
  have hm2 : c1 ≤ 9223372036854775807 := by have := hcap2.1; unfold maxLen at this; omega
  have hsz := hbel.size
  have hblk := hown.blkLt
  clear HC
  have HR : Hid (∀ A2, (l = [] ∨ A2 = A1) → (A2 = none → l.length = 0) → ∀ w2 row, (w1.alloc (.cells #[.slice A2 l.length l.length, .bool false] 138)).grownBy w2 row → (∀ k, row = some k → k < w.heap.size) → Rdr w2 w1.heap.size ⟨l, false⟩) := by
    intro A2 hA hn2 w2 row hG hr
    have hr1 : some w1.heap.size ≠ row := fun e => by have := hr _ e.symm; omega
    refine ⟨hsm, fun h => (by cases h), A2, l.length, (hG.block w1.heap.size (by simp) hr1).trans (heap_alloc_new w1 _), ?_, Nat.le_refl _, by unfold maxLen; omega, hn2⟩
    rcases hA with rfl | rfl
    · exact IsBytes.nil
    · have h3 : OwnsB 5 w2 w.heap.size A2 c1 l := (hown.alloc _).grown hG hr
      refine ⟨h3.small, fun k hk => ?_⟩
      obtain ⟨b, off, e, _, hc⟩ := h3.reads.cells k hk
      exact ⟨b, off, e, (hblk b (by rw [e]; rfl)).2, hc⟩
  have HB : Hid (∀ o, Below w.heap.size w (w1.alloc o)) := fun o => hbel.alloc hsz o
  have hl0 := fun e => (hcap2.2 e)
  clear hbel hcap2 hown hblk
  rcases A1 with _ | ad
  · have hc0 : c1 = 0 := hl0 rfl
    obtain rfl := hc0
    obtain rfl : l = [] := List.eq_nil_of_length_eq_zero (by omega)
    clear hl0
    go_wp2
    go_ret
    exact ⟨_, rfl, hsz, HR.out none (by simp) (by simp), HB.out _⟩
  · clear hl0
    go_wp2
    go_ret
    exact ⟨_, rfl, hsz, HR.out (some ad) (.inr rfl) (fun h => by cases h), HB.out _⟩
theorem packRead_any (B : Nat) (A : Option Addr) (c : Nat) (l : List Nat) (hl : l.length ≤ 140737488354000) (w : World) (h : IsBytes w B A l) (hB : B ≤ w.heap.size) (hn : A = none → c = 0) :
    Calls Tryz.prog 110 #[.slice A l.length c] w fun e w' => ∃ g, e = .returned (.pointer (some ⟨g, 0, none⟩)) ∧ w.heap.size ≤ g ∧ Rdr w' g ⟨l, false⟩ ∧ Below w.heap.size w w' :=
  (read_keep B A c l hl w h hB hn).mono fun e w' ⟨g, he, hg, hR, hb⟩ => ⟨g, he, hg, hR w' none (grown_refl _ _) (fun k hk => by cases hk), hb⟩
end Go.Proofs.YtfkjahpcpmcefaaGreat
namespace Go.Proofs.YtfkjahpcpmcefaaGreat
open Go.RowKit
set_option maxRecDepth 100000
set_option maxHeartbeats 800000 in
theorem ints_rdr (g : Nat) (s : Pk.St) (w : World) (h : Rdr w g s) (hl : s.rest.length ≤ 140737488352000) :
    Calls Tryz.prog 112 #[.pointer (some ⟨g, 0, none⟩)] w fun e w' => ∃ A' c', e = .returned (.slice A' (Pk.rdInts s).1.length c') ∧ OwnsI 3 w' w.heap.size A' c' (Pk.rdInts s).1 ∧ Rdr w' g (Pk.rdInts s).2 ∧ w.grownBy w' (some g) := by
  obtain ⟨i0, hi, hz0, hz1, hz2⟩ := info_parts I.info_int
  have HI := hid (int_rdr g s w h)
  have hin := Pk.rdInt_in s h.small
  have hsh := Pk.rdInt_short s
  have hgl := h.lt
  have HBAD := hid (Pk.rdInt_bad s h.ok)
  have HSB := hid (Pk.rdInts_bad s)
  have HSW := hid (Pk.rdInts_wrong s)
  have HSR := hid (Pk.rdInts_right s)
  clear h
  obtain ⟨s1, hs1⟩ : ∃ s1, s1 = (Pk.rdInt s).2 := ⟨_, rfl⟩
  obtain ⟨n, hn⟩ : ∃ n, n = (Pk.rdInt s).1 := ⟨_, rfl⟩
  rw [← hs1, ← hn] at HI HBAD HSW HSR
  rw [← hs1] at HSB
  rw [← hs1] at hsh
  rw [← hn] at hin
  clear hs1 hn
  have hin1 := hin.1
  have hin2 := hin.2
  by_cases hwrong : n < 0 ∨ ((s1.rest.length : Int) / 8) < n
  · have HE := hid (HSW.out hwrong)
    clear HSW HSB HSR HBAD hin
    by_cases hneg : n < 0
    · clear hwrong
      go_enter Tryz.func112, Tryz.ntmps112
      go_wp2_with fail
      refine HI.out.mono ?_
      rintro e w1 ⟨rfl, hR, hG⟩
      have HS := hid (spoil_rdr g s1 w1 hR)
      obtain ⟨A, c, h1, _, hc, hm, _⟩ := hR.at_
      have hc0 : w1.cell? ⟨g, 0, none⟩ = some (.slice A s1.rest.length c) := row_cell h1 0
      clear hR h1
      go_wp2_with fail
      refine HS.out.mono ?_
      rintro e w2 ⟨rfl, hR, hG2⟩
      go_wp2_with fail
      go_ret
      rw [HE.out]
      exact ⟨none, 0, rfl, OwnsI.nil _ _ _, hR, hG.trans hG2⟩
    · have hlt : ((s1.rest.length : Int) / 8) < n := by omega
      clear hwrong
      go_enter Tryz.func112, Tryz.ntmps112
      go_wp2_with fail
      refine HI.out.mono ?_
      rintro e w1 ⟨rfl, hR, hG⟩
      have HS := hid (spoil_rdr g s1 w1 hR)
      obtain ⟨A, c, h1, _, hc, hm, _⟩ := hR.at_
      have hc0 : w1.cell? ⟨g, 0, none⟩ = some (.slice A s1.rest.length c) := row_cell h1 0
      clear hR h1
      go_wp2_with fail
      refine HS.out.mono ?_
      rintro e w2 ⟨rfl, hR, hG2⟩
      go_wp2_with fail
      go_ret
      rw [HE.out]
      exact ⟨none, 0, rfl, OwnsI.nil _ _ _, hR, hG.trans hG2⟩
  · obtain ⟨m, rfl⟩ : ∃ m : Nat, n = (m : Int) := ⟨n.toNat, by omega⟩
    have hm8 : 8 * m ≤ s1.rest.length := by omega
    have HE : Hid (Pk.rdInts s = (Pk.nums m s1.rest, ⟨s1.rest.drop (8 * m), s1.bad⟩)) := by
      show _ = _
      by_cases hb : s1.bad = true
      · obtain ⟨h0, hg⟩ := HBAD.out hb
        obtain rfl : m = 0 := by omega
        rw [HSB.out hb, hg]
        simp [Pk.gone, Pk.nums]
      · have hb' : s1.bad = false := by simpa using hb
        rw [HSR.out m hb' rfl hm8, hb']
    clear HSW HSB HSR HBAD hin hwrong
    go_enter Tryz.func112, Tryz.ntmps112
    go_wp2_with fail
    refine HI.out.mono ?_
    rintro e w1 ⟨rfl, hR, hG⟩
    obtain ⟨A, c, h1, _, hc, hm, _⟩ := hR.at_
    have hc0 : w1.cell? ⟨g, 0, none⟩ = some (.slice A s1.rest.length c) := row_cell h1 0
    clear h1
    go_wp2_with fail
    refine (grow_none m (by omega) w1).mono ?_
    rintro e w2 ⟨A2, c2, rfl, hown, hbel⟩
    have hR2 : Rdr w2 g s1 := hR.below (hbel.mono hR.lt)
    have hG2 : w.grownBy w2 (some g) := grown_then hG (hbel.mono hG.size)
    have hown2 := hown.weaken hG.size
    clear hR hG hown hbel hc0
    go_wp2_with fail
    go_loopw [4, 24] (fun b i wr => ∃ k : Nat, ∃ A5 : Option Addr, ∃ c5 : Nat, k ≤ m ∧ i = .int .i64 k ∧ b = .slice A5 k c5 ∧ OwnsI 3 wr w.heap.size A5 c5 (Pk.nums k s1.rest) ∧ Rdr wr g ⟨s1.rest.drop (8 * k), s1.bad⟩ ∧ w.grownBy wr (some g)) (fun _ i _ => m - (RowKit.intOf i).toNat)
    case atStart => exact ⟨0, A2, c2, by omega, rfl, rfl, by simpa [Pk.nums] using hown2, by simpa using hR2, hG2⟩
    case round =>
      clear hown2 hR2 hG2
      obtain ⟨k, A5, c5, hk, rfl, rfl, hown, hR, hG⟩ := hrel
      by_cases hlt : k < m
      · have C := int_rdr g ⟨s1.rest.drop (8 * k), s1.bad⟩ wr hR
        rw [Pk.rdInt_drop s1.rest s1.bad k m hlt hm8] at C
        have hv := Pk.sgn_in _ (Pk.take_num_lt (s1.rest.drop (8 * k)) hR.small)
        have HC := hid C
        obtain ⟨v, hveq⟩ : ∃ v, v = Pk.sgn (Pk.num ((s1.rest.drop (8 * k)).take 8)) := ⟨_, rfl⟩
        rw [← hveq] at HC hv
        have hnum : Pk.nums k s1.rest ++ [v] = Pk.nums (k + 1) s1.rest := by rw [hveq, Pk.nums_snoc]
        have HN := hid hnum
        have hgw := hG.size
        clear C hR hnum hveq
        go_wp2_with fail
        refine HC.out.mono ?_
        rintro e w3 ⟨rfl, hR3, hG3⟩
        have hown3 : OwnsI 3 w3 w.heap.size A5 c5 (Pk.nums k s1.rest) := hown.grown hG3 (fun j hj => by injection hj with hj; omega)
        have hG4 : w.grownBy w3 (some g) := hG.trans hG3
        have hsz := hG4.size
        clear hown hG hG3
        go_wp2_with (at_builtin; refine wpList_append_intN rfl _ _ 22 rfl w.heap.size 3 i0 Tryz.underlying22 hi hz0 hz1 hz2 A5 c5 (Pk.nums k s1.rest) k (Pk.nums_length _ _) rfl (hown3.alloc _) ⟨w3.heap.size, 0, none⟩ 1 v hv rfl ?c1 (Pk.nums (k + 1) s1.rest) HN.out (by omega) ?c2 ?_)
        case c1 => simp
        case c2 => simp; omega
        intro A6 c6 w4 hown4 hbel4
        have hb4 : Below w.heap.size w3 w4 := ((Below.refl _ _).alloc hsz _).trans hbel4
        have HO := hid (And.intro hown4 (And.intro (hR3.below (hb4.mono (by omega))) (grown_then hG4 hb4)))
        clear hown4 hbel4 hb4 hown3 hG4 hR3
        go_wp2_with fail
        go_roundw
        case rel => exact ⟨k + 1, A6, c6, by omega, by go_num, rfl, HO.out.1, HO.out.2.1, HO.out.2.2⟩
        case measure => simp [RowKit.intOf] <;> omega
      · obtain rfl : k = m := by omega
        clear hlt hk
        go_wp2_with fail
        go_ret
        rw [HE.out]
        exact ⟨A5, c5, ret_len (Pk.nums_length _ _).symm, hown, hR, hG⟩
end Go.Proofs.YtfkjahpcpmcefaaGreat
namespace Go.Proofs.YtfkjahpcpmcefaaGreat.Im
open Go.RowKit
open Rl (En Lg)
open Qu (Cf)
set_option maxRecDepth 100000
set_option linter.unusedVariables false
class Lo where
  n : Nat
set_option linter.unusedSectionVars false
variable [Lo]
structure Kq (B : Nat) (w w' : World) : Prop where
  os : w'.os = w.os
  tape : w'.tape = w.tape
  output : w'.output = w.output
  size : w.heap.size ≤ w'.heap.size
  keep : ∀ (k : Nat) (cs : Array Value) (t : TypeId) (fr : Nat × Nat), k < B → w.heap[k]? = some (.cells cs t fr) → t ≠ 138 → t ≠ 130 → w'.heap[k]? = some (.cells cs t fr)
  low : ∀ k, k < Lo.n → k < B → w'.heap[k]? = w.heap[k]?
namespace Kq
variable {B B' : Nat} {a b c : World}
theorem refl (B : Nat) (a : World) : Kq B a a := ⟨rfl, rfl, rfl, Nat.le_refl _, fun _ _ _ _ _ h _ _ => h, fun _ _ _ => rfl⟩
theorem trans (h : Kq B a b) (h' : Kq B b c) : Kq B a c := ⟨h'.os.trans h.os, h'.tape.trans h.tape, h'.output.trans h.output, Nat.le_trans h.size h'.size, fun k cs t fr hk h1 h2 h3 => h'.keep k cs t fr hk (h.keep k cs t fr hk h1 h2 h3) h2 h3, fun k h1 h2 => (h'.low k h1 h2).trans (h.low k h1 h2)⟩
theorem mono (h : Kq B a b) (hB : B' ≤ B) : Kq B' a b := ⟨h.os, h.tape, h.output, h.size, fun k cs t fr hk => h.keep k cs t fr (by omega), fun k h1 h2 => h.low k h1 (by omega)⟩
theorem then_ (h : Kq a.heap.size a b) (h' : Kq b.heap.size b c) : Kq a.heap.size a c := h.trans (h'.mono h.size)
theorem drewN (h : Kq B a b) (n : Nat) : Kq B a (b.drewN n) := ⟨h.os, h.tape, h.output, h.size, h.keep, h.low⟩
theorem drew (h : Kq B a b) : Kq B a b.drew := ⟨h.os, h.tape, h.output, h.size, h.keep, h.low⟩
theorem ofBelow (h : Below B a b) : Kq B a b := ⟨h.os, h.tape, h.output, h.size, fun k cs t fr hk h1 _ _ => (h.block k hk).trans h1, fun k _ hk => h.block k hk⟩
theorem ofGrown {g : Nat} {cs : Array Value} {t : TypeId} {fr : Nat × Nat} (hg : a.heap[g]? = some (.cells cs t fr)) (ht : t = 138 ∨ t = 130) (hl : Lo.n ≤ g) (h : a.grownBy b (some g)) : Kq a.heap.size a b :=
  ⟨h.os, h.tape, h.output, h.size, fun k cs' t' fr' hk h1 h2 h3 => (h.block k hk (fun e => by
    injection e with e
    subst e
    rw [h1] at hg
    have := (Obj.cells.inj (Option.some.inj hg)).2.1
    rcases ht with ht | ht
    · exact h2 (this.trans ht)
    · exact h3 (this.trans ht))).trans h1, fun k h1 h2 => h.block k h2 (fun e => by injection e with e; omega)⟩
theorem ofRow {k : Nat} (h : a.grownBy b (some k)) (hk : B ≤ k) (hB : B ≤ a.heap.size) : Kq B a b := ofBelow (below_grown h hB (fun j e => by injection e with e; omega))
theorem row (h : Kq a.heap.size a b) {base n size : Nat} {e : TypeId} {v : Value} {xs : List Value} (hr : a.ownsRow base e size v n xs) (h1 : e ≠ 138) (h2 : e ≠ 130) : b.ownsRow base e size v n xs := by
  refine ⟨hr.1, ?_⟩
  rcases hr.2 with h0 | ⟨g, cap, cur, q1, q2, q3, q4⟩
  · exact .inl h0
  · exact .inr ⟨g, cap, cur, q1, q2, h.keep g _ _ _ (row_lt q3) q3 h1 h2, q4⟩
theorem ownB (h : Kq a.heap.size a b) {base c : Nat} {A : Option Addr} {l : List Nat} (ho : OwnsB 5 a base A c l) : OwnsB 5 b base A c l := ⟨ho.small, h.row ho.row (by decide) (by decide)⟩
theorem ownI (h : Kq a.heap.size a b) {base c : Nat} {A : Option Addr} {l : List Int} (ho : OwnsI 3 a base A c l) : OwnsI 3 b base A c l := ⟨ho.small, h.row ho.row (by decide) (by decide)⟩
end Kq
structure Ro (w : World) (G g : Nat) (s : Pk.St) : Prop where
  rdr : Rdr w g s
  ord : g < G ∨ s = Pk.gone
  lo : Lo.n ≤ g
structure Rt (w : World) (G g : Nat) (s : Pk.St) : Prop where
  box : w.heap[G]? = some (.cells #[.pointer (some ⟨g, 0, none⟩)] 130 (0, 0))
  ro : Ro w G g s
  lo : Lo.n ≤ G
theorem Rdr.tag {w : World} {g : Nat} {s : Pk.St} (h : Rdr w g s) {k : Nat} {cs : Array Value} {t : TypeId} {fr : Nat × Nat} (hk : w.heap[k]? = some (.cells cs t fr)) (ht : t ≠ 138) : k ≠ g := fun e => by
  obtain ⟨A, c, h1, _⟩ := h.at_
  rw [e, h1] at hk
  exact ht (Obj.cells.inj (Option.some.inj hk)).2.1.symm
namespace Ro
variable {w w' : World} {G g : Nat} {s : Pk.St}
theorem below (h : Ro w G g s) (hb : Below w.heap.size w w') : Ro w' G g s := ⟨h.rdr.below (hb.mono h.rdr.lt), h.ord, h.lo⟩
theorem drew (h : Ro w G g s) : Ro w.drew G g s := ⟨h.rdr.drewN 1, h.ord, h.lo⟩
theorem fill (h : Ro w G g s) {k : Nat} (hg : w.grownBy w' (some k)) (hG : G < w.heap.size) (hk : G < k) (hne : k ≠ g) : Ro w' G g s := by
  refine ⟨?_, h.ord, h.lo⟩
  rcases h.ord with ho | ho
  · exact h.rdr.below (below_grown hg (by have := h.rdr.lt; omega) (fun j e => by injection e with e; omega))
  · obtain ⟨A, c, h1, h2, h3⟩ := h.rdr.at_
    subst ho
    have hn : ([] : List Nat).length = 0 := rfl
    refine ⟨h.rdr.small, h.rdr.ok, A, c, (hg.block g h.rdr.lt (fun e => by injection e with e; exact hne e.symm)).trans h1, ⟨h2.small, fun j hj => by exact absurd hj (Nat.not_lt_zero _)⟩, h3⟩
end Ro
namespace Rt
variable {w w' : World} {G g : Nat} {s : Pk.St}
theorem cell (h : Rt w G g s) : w.cell? ⟨G, 0, none⟩ = some (.pointer (some ⟨g, 0, none⟩)) := row_cell h.box 0
theorem free (h : Rt w G g s) : w.frozen? ⟨G, 0, none⟩ = false := row_free h.box 0
theorem lt (h : Rt w G g s) : G < w.heap.size := row_lt h.box
theorem ne (h : Rt w G g s) : G ≠ g := Rdr.tag h.ro.rdr h.box (by decide)
theorem below (h : Rt w G g s) (hb : Below w.heap.size w w') : Rt w' G g s := ⟨(hb.block G h.lt).trans h.box, h.ro.below hb, h.lo⟩
theorem drew (h : Rt w G g s) : Rt w.drew G g s := ⟨h.box, h.ro.drew, h.lo⟩
theorem fill (h : Rt w G g s) {k : Nat} (hg : w.grownBy w' (some k)) (hk : G < k) (hne : k ≠ g) : Rt w' G g s :=
  ⟨(hg.block G h.lt (fun e => by injection e with e; omega)).trans h.box, h.ro.fill hg h.lt hk hne, h.lo⟩
theorem step (h : Rt w G g s) {s' : Pk.St} (hr : Rdr w' g s') (hg : w.grownBy w' (some g)) (hgone : s = Pk.gone → s' = Pk.gone) : Rt w' G g s' ∧ Kq w.heap.size w w' := by
  obtain ⟨A, c, h1, _⟩ := h.ro.rdr.at_
  exact ⟨⟨(hg.block G h.lt (fun e => by injection e with e; exact h.ne e)).trans h.box, ⟨hr, h.ro.ord.imp id hgone, h.ro.lo⟩, h.lo⟩, Kq.ofGrown h1 (.inl rfl) h.ro.lo hg⟩
end Rt
structure Rk (G g n : Nat) (s' : Pk.St) (w w' : World) : Prop where
  at_ : ∃ g', Rt w' G g' s' ∧ (g' = g ∨ s' = Pk.gone)
  old : ∃ s0, Ro w' G g s0 ∧ s0.rest.length ≤ n
  kq : Kq w.heap.size w w'
end Go.Proofs.YtfkjahpcpmcefaaGreat.Im
namespace Go.Proofs.YtfkjahpcpmcefaaGreat.Im
open Go.RowKit
open Rl (En Lg)
open Qu (Cf)
set_option linter.unusedSectionVars false
variable [Lo]
set_option maxRecDepth 100000
set_option linter.unusedVariables false
attribute [local go_sem ↓] loadAt_hard storeAt_hard
theorem there_row {w : World} {b : Nat} {cs : Array Value} {t : TypeId} (h : w.heap[b]? = some (.cells cs t (0, 0))) : w.there b 0 cs.size := fun j hj => by
  rw [Nat.zero_add]
  exact ⟨by rw [row_cell h j]; simp [hj], row_free h j⟩
structure Sp (w : World) (G g R : Nat) (cs : Array Value) (t : TypeId) (s : Pk.St) (W : World) : Prop where
  rt : Rt W G g s
  kq : Kq w.heap.size w W
  row : W.heap[R]? = some (.cells cs t (0, 0))
theorem setCells_row {R : Nat} {t : TypeId} : ∀ (vs : List Value) (W : World) (cs : Array Value) (o : Nat), W.heap[R]? = some (.cells cs t (0, 0)) → ∃ cs', (W.setCells R o vs).heap[R]? = some (.cells cs' t (0, 0)) ∧ cs'.size = cs.size
  | [], W, cs, o, h => ⟨cs, h, rfl⟩
  | v :: r, W, cs, o, h => by
    obtain ⟨cs', h1, h2⟩ := setCells_row r (W.setCell ⟨R, o, none⟩ v) _ (o + 1) (row_set h o v)
    exact ⟨cs', h1, by rw [h2]; simp⟩
theorem setCells_all {R : Nat} {t : TypeId} {W : World} {cs : Array Value} (h : W.heap[R]? = some (.cells cs t (0, 0))) (L : List Value) (hL : L.length = cs.size) : (W.setCells R 0 L).heap[R]? = some (.cells L.toArray t (0, 0)) := by
  obtain ⟨cs', h1, h2⟩ := setCells_row L W cs 0 h
  have hr := World.rangeAt_setCells_same W R 0 L (hL ▸ there_row h)
  have e : cs' = L.toArray := by
    apply Array.ext_getElem?
    intro j
    by_cases hj : j < L.length
    · have q := hr j L[j] (List.getElem?_eq_getElem hj)
      rw [Nat.zero_add, row_cell h1 j] at q
      rw [q]; simp [hj]
    · rw [Array.getElem?_eq_none (by omega)]; simp; omega
  rw [h1, e]
namespace Sp
variable {w W W' : World} {G g R : Nat} {cs : Array Value} {t : TypeId} {s s' : Pk.St}
theorem step (h : Sp w G g R cs t s W) (hr : Rdr W' g s') (hg : W.grownBy W' (some g)) (hgone : s = Pk.gone → s' = Pk.gone) (ht : t ≠ 138 := by decide) : Sp w G g R cs t s' W' := by
  obtain ⟨h1, h2⟩ := h.rt.step hr hg hgone
  exact ⟨h1, h.kq.trans (h2.mono h.kq.size), (hg.block R (row_lt h.row) (fun e => by injection e with e; exact Rdr.tag h.rt.ro.rdr h.row ht e)).trans h.row⟩
theorem start (h : Rt w G g s) (w1 : World) (hw1 : w1 = w.alloc (.cells cs t)) : Sp w G g w.heap.size cs t s w1.drew ∧ Sp w G g w.heap.size cs t s w1 := by
  have b1 : Below w.heap.size w w1 := by rw [hw1]; exact (Below.refl _ w).alloc (Nat.le_refl _) _
  have r1 : w1.heap[w.heap.size]? = some (.cells cs t (0, 0)) := by rw [hw1]; exact heap_alloc_new w _
  exact ⟨⟨(h.below b1).drew, (Kq.ofBelow b1).drew, r1⟩, ⟨h.below b1, Kq.ofBelow b1, r1⟩⟩
theorem facts (h : Sp w G g R cs t s W) (n : Nat) (hn : cs.size = n) : W.cell? ⟨G, 0, none⟩ = some (.pointer (some ⟨g, 0, none⟩)) ∧ W.there R 0 n := ⟨h.rt.cell, hn ▸ there_row h.row⟩
theorem done (h : Sp w G g R cs t s W) (hR : R = w.heap.size) (hG : G < w.heap.size) (L : List Value) (hL : L.length = cs.size) (ht : t ≠ 138 := by decide) :
    Rt (W.setCells R 0 L) G g s ∧ Kq w.heap.size w (W.setCells R 0 L) ∧ (W.setCells R 0 L).heap[R]? = some (.cells L.toArray t (0, 0)) := by
  have hT := turned_setCells R L W 0
  have hg : W.grownBy (W.setCells R 0 L) (some R) := ⟨hT.os, hT.tape, hT.output, hT.size, fun k hk hne => hT.block k hk (fun e => hne (by rw [e]))⟩
  exact ⟨h.rt.fill hg (by omega) (Rdr.tag h.rt.ro.rdr h.row ht), h.kq.trans (Kq.ofRow hg (by omega) h.kq.size), setCells_all h.row L hL⟩
end Sp
theorem cell_set {W : World} {R G : Nat} {v : Value} (h : W.cell? ⟨G, 0, none⟩ = some v) (hne : G ≠ R) (L : List Value) : (W.setCells R 0 L).cell? ⟨G, 0, none⟩ = some v :=
  (World.cell?_setCells_out R L 0 W _ (fun e => absurd e hne)).trans h
theorem stThere {t : TypeId} {n : Nat} (hi : (Tryz.prog.info? t).map (·.size) = some n) (W : World) (R : Nat) (cs : Array Value) (ht : W.there R 0 n) (hn : cs.size = n) (h1 : cs.all (·.oneCell') = true) : (stX t (.pointer (some ⟨R, 0, none⟩)) (.agg cs)).run Tryz.prog W = .ok () (W.setCells R 0 cs.toList) :=
  run_storeAt_mid W R 0 t cs (hn ▸ ht) (by rw [hi, hn]) h1
end Go.Proofs.YtfkjahpcpmcefaaGreat.Im
namespace Go.Proofs.YtfkjahpcpmcefaaGreat.Im
open Go.RowKit
open Rl (En Lg)
open Qu (Cf)
set_option linter.unusedSectionVars false
variable [Lo]
set_option maxRecDepth 100000
set_option linter.unusedVariables false
theorem storeAt_entry (a v : Value) : Instr.storeAt 33 a v = stX 33 a v := rfl
theorem storeAt_conf (a v : Value) : Instr.storeAt 24 a v = stX 24 a v := rfl
attribute [local go_sem ↓] storeAt_entry storeAt_conf
theorem info_conf3 : (Tryz.prog.info? 24).map (·.size) = some 3 := by kernel_rfl
section
variable {w W : World} {G g R : Nat} {cs : Array Value} {t : TypeId} {S0 S1 : Pk.St}
theorem spInts (h : Sp w G g R cs t S0 W) (hl : S0.rest.length ≤ 140737488352000) (D : List Int) (n : Nat) (hn : n = D.length) (hv : D = (Pk.rdInts S0).1) (hs : S1 = (Pk.rdInts S0).2) (ht : t ≠ 138 := by decide) :
    Calls Tryz.prog 112 #[.pointer (some ⟨g, 0, none⟩)] W fun e w' => ∃ A c, e = .returned (.slice A n c) ∧ OwnsI 3 w' W.heap.size A c D ∧ Sp w G g R cs t S1 w' ∧ W.grownBy w' (some g) := by
  subst hn; subst hv; subst hs
  refine (ints_rdr g S0 W h.rt.ro.rdr (by omega)).mono ?_
  rintro e w' ⟨A, c, rfl, ho, hr, hg⟩
  exact ⟨A, c, rfl, ho, h.step hr hg (fun e => by subst e; rfl) ht, hg⟩
theorem Sp.grown (h : Sp w G g R cs t S0 W) (L : List Value) : W.grownBy (W.setCells R 0 L) (some R) := by
  have hT := turned_setCells R L W 0
  exact ⟨hT.os, hT.tape, hT.output, hT.size, fun k hk hne => hT.block k hk (fun e => hne (by rw [e]))⟩
end
theorem rdCf_eq (s : Pk.St) : (rdCf s).1 = ⟨(Pk.rdInts s).1, (Pk.rdInts (Pk.rdInts s).2).1, (Pk.rdInts (Pk.rdInts (Pk.rdInts s).2).2).1⟩ ∧ (rdCf s).2 = (Pk.rdInts (Pk.rdInts (Pk.rdInts s).2).2).2 := by
  simp only [rdCf, rdM, rdP, and_self]
end Go.Proofs.YtfkjahpcpmcefaaGreat.Im
namespace Go.Proofs.YtfkjahpcpmcefaaGreat.Im
open Go.RowKit
open Rl (En Lg)
open Qu (Cf)
set_option linter.unusedSectionVars false
variable [Lo]
set_option maxRecDepth 100000
set_option linter.unusedVariables false
attribute [local go_sem ↓] storeAt_conf
theorem grown_box {w w1 w2 w3 w4 w5 : World} {g R : Nat} (hR : R = w.heap.size) (b1 : Below w.heap.size w w1) (y2 : w1.grownBy w2 (some g)) (y3 : w2.grownBy w3 (some g)) (y4 : w3.grownBy w4 (some g)) (y5 : w4.grownBy w5 (some R)) : w.grownBy w5 (some g) := by
  have h1 : w.grownBy w1 (some g) := grown_below b1 _
  have h2 := grown_trans h1 y2 (fun k e _ => e)
  have h3 := grown_trans h2 y3 (fun k e _ => e)
  have h4 := grown_trans h3 y4 (fun k e _ => e)
  exact grown_trans h4 y5 (fun k e hk => by injection e with e; omega)
set_option maxHeartbeats 3200000 in
theorem rconf_any (G g : Nat) (s : Pk.St) (hl : s.rest.length ≤ 140737488352000) (w : World) (h : Rt w G g s) :
    Calls Tryz.prog 95 #[.pointer (some ⟨G, 0, none⟩)] w fun e w' => ∃ A1 c1 A2 c2 A3 c3 n1 n2 n3, e = .returned (.agg #[.slice A1 n1 c1, .slice A2 n2 c2, .slice A3 n3 c3]) ∧ (n1 = (rdCf s).1.old.length ∧ n2 = (rdCf s).1.new.length ∧ n3 = (rdCf s).1.lrn.length) ∧ Rt w' G g (rdCf s).2 ∧ (Kq w.heap.size w w' ∧ w.grownBy w' (some g)) ∧
      ∃ m1 m2, (w.heap.size ≤ m1 ∧ m1 ≤ m2 ∧ m2 ≤ w'.heap.size) ∧ OwnsI 3 w' w.heap.size A1 c1 (rdCf s).1.old ∧ OwnsI 3 w' m1 A2 c2 (rdCf s).1.new ∧ OwnsI 3 w' m2 A3 c3 (rdCf s).1.lrn ∧ (∀ k, blk A1 = some k → k < m1) ∧ (∀ k, blk A2 = some k → k < m2) := by
  obtain ⟨R, hR⟩ : ∃ R, R = w.heap.size := ⟨_, rfl⟩
  obtain ⟨w1, hw1⟩ : ∃ w1, w1 = w.alloc (.cells #[.slice none 0 0, .slice none 0 0, .slice none 0 0] 24) := ⟨_, rfl⟩
  obtain ⟨p1, p0⟩ := Sp.start h w1 hw1
  rw [← hR] at p1 p0
  have q1 := (Pk.rdInts_short s).1
  have q2 := (Pk.rdInts_short (Pk.rdInts s).2).1
  obtain ⟨D1, hD1⟩ : ∃ v, v = (Pk.rdInts s).1 := ⟨_, rfl⟩
  obtain ⟨n1, hn1⟩ : ∃ n, n = D1.length := ⟨_, rfl⟩
  obtain ⟨s1, hs1⟩ : ∃ x, x = (Pk.rdInts s).2 := ⟨_, rfl⟩
  obtain ⟨D2, hD2⟩ : ∃ v, v = (Pk.rdInts s1).1 := ⟨_, rfl⟩
  obtain ⟨n2, hn2⟩ : ∃ n, n = D2.length := ⟨_, rfl⟩
  obtain ⟨s2, hs2⟩ : ∃ x, x = (Pk.rdInts s1).2 := ⟨_, rfl⟩
  obtain ⟨D3, hD3⟩ : ∃ v, v = (Pk.rdInts s2).1 := ⟨_, rfl⟩
  obtain ⟨n3, hn3⟩ : ∃ n, n = D3.length := ⟨_, rfl⟩
  obtain ⟨s3, hs3⟩ : ∃ x, x = (Pk.rdInts s2).2 := ⟨_, rfl⟩
  rw [← hs1] at q2 q1
  rw [← hs2] at q2
  have HV : Hid ((rdCf s).1 = ⟨D1, D2, D3⟩ ∧ (rdCf s).2 = s3) := hid (by rw [hs3, hD3, hs2, hD2, hs1, hD1]; exact rdCf_eq s)
  have E1 := hid (And.intro hn1 (And.intro hD1 hs1))
  have E2 := hid (And.intro hn2 (And.intro hD2 hs2))
  have E3 := hid (And.intro hn3 (And.intro hD3 hs3))
  have HL : Hid (s.rest.length ≤ 140737488352000 ∧ s1.rest.length ≤ 140737488352000 ∧ s2.rest.length ≤ 140737488352000) := hid (by omega)
  have P1 := hid p1
  have BW : Hid (Below w.heap.size w w1.drew) := hid (by rw [hw1]; exact ((Below.refl _ w).alloc (Nat.le_refl _) _).drew)
  have HG := hid (And.intro hR h.lt)
  have NE : G ≠ R := by have := h.lt; omega
  obtain ⟨c0, t0⟩ := p0.facts 3 rfl
  obtain ⟨c1, t1⟩ := p1.facts 3 rfl
  have STV : ∀ W (A1 A2 A3 : Option Addr) (c1 c2 c3 : Nat), W.there R 0 3 → (stX 24 (.pointer (some ⟨R, 0, none⟩)) (.agg #[.slice A1 n1 c1, .slice A2 n2 c2, .slice A3 n3 c3])).run Tryz.prog W = .ok () (W.setCells R 0 [.slice A1 n1 c1, .slice A2 n2 c2, .slice A3 n3 c3]) := fun W A1 A2 A3 c1 c2 c3 hW => stThere info_conf3 W R _ hW rfl (by simp [Value.oneCell'])
  rw [HV.out.1, HV.out.2]
  clear p1 p0 hn1 hD1 hs1 hn2 hD2 hs2 hn3 hD3 hs3 q1 q2 h hl
  go_enter Tryz.func95, Tryz.ntmps95
  go_wp2_with fail
  rw [← hR, ← hw1]
  clear hw1 hR
  go_region_held3 (fun W => W.cell? ⟨G, 0, none⟩ = some (.pointer (some ⟨g, 0, none⟩)) ∧ W.there R 0 3)
    (first | exact ⟨cell_set f4.1 NE _, World.there_setCells f4.2 _ _ _⟩ | with_reducible exact f4 | with_reducible exact f3 | with_reducible exact f2 | exact ⟨c1, t1⟩ | exact ⟨c0, t0⟩ | fail)
    (first
      | (go_at_call 112; refine (spInts P3.out HL.out.2.2 D3 n3 E3.out.1 E3.out.2.1 E3.out.2.2).mono ?_; rintro e w4 ⟨A4, k4, rfl, o4, q4, y4⟩; have f4 := q4.facts 3 rfl; have P4 := hid q4; have O4 := hid (And.intro o4 y4); clear q4 o4 y4)
      | (go_at_call 112; refine (spInts P2.out HL.out.2.1 D2 n2 E2.out.1 E2.out.2.1 E2.out.2.2).mono ?_; rintro e w3 ⟨A3, k3, rfl, o3, q3, y3⟩; have f3 := q3.facts 3 rfl; have P3 := hid q3; have O3 := hid (And.intro o3 y3); clear q3 o3 y3)
      | (go_at_call 112; refine (spInts P1.out HL.out.1 D1 n1 E1.out.1 E1.out.2.1 E1.out.2.2).mono ?_; rintro e w2 ⟨A2, k2, rfl, o2, q2, y2⟩; have f2 := q2.facts 3 rfl; have P2 := hid q2; have O2 := hid (And.intro o2 y2); clear q2 o2 y2))
  all_goals
    have HF := hid (P4.out.done HG.out.1 HG.out.2 [.slice A2 n1 k2, .slice A3 n2 k3, .slice A4 n3 k4] rfl)
    have HO : Hid (∃ m1 m2, (w.heap.size ≤ m1 ∧ m1 ≤ m2 ∧ m2 ≤ (w4.setCells R 0 [.slice A2 n1 k2, .slice A3 n2 k3, .slice A4 n3 k4]).heap.size) ∧ OwnsI 3 (w4.setCells R 0 [.slice A2 n1 k2, .slice A3 n2 k3, .slice A4 n3 k4]) w.heap.size A2 k2 D1 ∧ OwnsI 3 (w4.setCells R 0 [.slice A2 n1 k2, .slice A3 n2 k3, .slice A4 n3 k4]) m1 A3 k3 D2 ∧ OwnsI 3 (w4.setCells R 0 [.slice A2 n1 k2, .slice A3 n2 k3, .slice A4 n3 k4]) m2 A4 k4 D3 ∧ (∀ k, blk A2 = some k → k < m1) ∧ (∀ k, blk A3 = some k → k < m2)) := hid (by
      have hg := P4.out.grown [.slice A2 n1 k2, .slice A3 n2 k3, .slice A4 n3 k4]
      have r1 := row_lt P1.out.row
      have r2 := row_lt P2.out.row
      have r3 := row_lt P3.out.row
      have hGR := HG.out.1
      have hlt := HG.out.2
      have g1 : g < w1.drew.heap.size := P1.out.rt.ro.rdr.lt
      have z2 := P2.out.rt.ro.rdr.lt
      have z3 := P3.out.rt.ro.rdr.lt
      have u2 := O3.out.2.size
      have u1 := O2.out.2.size
      have a1 : OwnsI 3 w4 w1.drew.heap.size A2 k2 D1 := (O2.out.1.grown O3.out.2 (fun j e => by injection e with e; omega)).grown O4.out.2 (fun j e => by injection e with e; omega)
      have a2 : OwnsI 3 w4 w2.heap.size A3 k3 D2 := O3.out.1.grown O4.out.2 (fun j e => by injection e with e; omega)
      refine ⟨w2.heap.size, w3.heap.size, ⟨P2.out.kq.size, u2, Nat.le_trans O4.out.2.size hg.size⟩, ?_, ?_, ?_, fun k hk => (O2.out.1.blkLt k hk).2, fun k hk => (O3.out.1.blkLt k hk).2⟩
      · exact (a1.grown hg (fun j e => by injection e with e; omega)).weaken P1.out.kq.size
      · exact a2.grown hg (fun j e => by injection e with e; omega)
      · exact O4.out.1.grown hg (fun j e => by injection e with e; omega))
    have HB := hid (grown_box HG.out.1 BW.out O2.out.2 O3.out.2 O4.out.2 (P4.out.grown [.slice A2 n1 k2, .slice A3 n2 k3, .slice A4 n3 k4]))
    go_wp2_with fail
    refine bodyPost_ret (results_cell_row rfl _ _ R _ _ _ _ rfl HF.out.2.2 Tryz.underlying24 rfl (by rw [info_conf3]; rfl)) rfl ?_
    exact ⟨A2, k2, A3, k3, A4, k4, n1, n2, n3, rfl, ⟨E1.out.1, E2.out.1, E3.out.1⟩, HF.out.1, ⟨HF.out.2.1, HB.out⟩, HO.out⟩
end Go.Proofs.YtfkjahpcpmcefaaGreat.Im
namespace Go.Proofs.YtfkjahpcpmcefaaGreat.Im
open Go.RowKit
open Rl (En Lg)
open Qu (Cf)
set_option linter.unusedSectionVars false
variable [Lo]
set_option maxRecDepth 100000
set_option linter.unusedVariables false
section
variable {α : Type} {f : α → List Value} {size : Nat} {e : TypeId} {W W' : World} {F : Nat → Prop} {A : Option Addr} {c : Nat} {L : List α} {G g n : Nat} {s : Pk.St}
theorem Kq.rowIn (h : Kq W.heap.size W W') (hr : RowIn f size e W F A c L) (h1 : e ≠ 138) (h2 : e ≠ 130) : RowIn f size e W' F A c L := ⟨hr.fits, h.row hr.row h1 h2, hr.blk⟩
end
structure Lp {α : Type} (f : α → List Value) (size : Nat) (e : TypeId) (one : Pk.St → α × Pk.St) (w : World) (G g : Nat) (s : Pk.St) (A : Option Addr) (c : Nat) (L : List α) (m : Int) (s' : Pk.St) (W : World) : Prop where
  rk : Rk G g 10000000 s' w W
  row : RowIn f size e W (fun k => w.heap.size ≤ k) A c L
  val : L ++ (rdN one m.toNat s').1 = (rdL one s).1 ∧ (rdN one m.toNat s').2 = (rdL one s).2
  few : 0 < m → s'.bad = false → (L.length : Int) + m ≤ 1250000
  rest : s'.rest.length ≤ 10000000
end Go.Proofs.YtfkjahpcpmcefaaGreat.Im
namespace Go.Proofs.YtfkjahpcpmcefaaGreat.Im
open Go.RowKit
open Rl (En Lg)
open Qu (Cf)
set_option linter.unusedSectionVars false
variable [Lo]
set_option maxRecDepth 100000
set_option linter.unusedVariables false
theorem Kq.ownE {W W' : World} (h : Kq W.heap.size W W') {B N c : Nat} {A : Option Addr} {L : List En} (ho : OwnE W B N A c L) : OwnE W' B N A c L := by
  obtain ⟨M, h1, h2⟩ := ho
  exact ⟨M, h1, h.rowIn h2.row (by decide) (by decide), fun q hq => ⟨h.ownB (h2.own q hq).1, (h2.own q hq).2⟩, h2.apart, h2.num⟩
theorem Rt.belowB {W W' : World} {G g B : Nat} {s : Pk.St} (h : Rt W G g s) (hG : G < B) (hg : g < B) (hb : Below B W W') : Rt W' G g s := ⟨(hb.block G hG).trans h.box, ⟨h.ro.rdr.below (hb.mono hg), h.ro.ord, h.ro.lo⟩, h.lo⟩
structure LpE (w : World) (G g : Nat) (s : Pk.St) (A : Option Addr) (c : Nat) (L : List En) (m : Int) (s' : Pk.St) (W : World) : Prop where
  rk : Rk G g 10000000 s' w W
  own : OwnE W w.heap.size W.heap.size A c L
  val : L ++ (rdN rdE m.toNat s').1 = (rdL rdE s).1 ∧ (rdN rdE m.toNat s').2 = (rdL rdE s).2
  few : 0 < m → s'.bad = false → (L.length : Int) + m ≤ 1250000
  rest : s'.rest.length ≤ 10000000
end Go.Proofs.YtfkjahpcpmcefaaGreat.Im
namespace Go.Proofs.YtfkjahpcpmcefaaGreat.Im
open Go.RowKit
open Rl (En Lg)
open Qu (Cf)
set_option linter.unusedSectionVars false
variable [Lo]
set_option maxRecDepth 100000
set_option linter.unusedVariables false
theorem storeAt_log (a v : Value) : Instr.storeAt 36 a v = stX 36 a v := rfl
attribute [local go_sem ↓] storeAt_log
theorem Rk.from {G g n : Nat} {s' : Pk.St} {w0 w W : World} (h : Rk G g n s' w W) (hk : Kq w0.heap.size w0 w) : Rk G g n s' w0 W := ⟨h.at_, h.old, hk.trans (h.kq.mono hk.size)⟩
end Go.Proofs.YtfkjahpcpmcefaaGreat.Im
namespace Go.Proofs.YtfkjahpcpmcefaaGreat
open Go
def unl (listed : Array Bool) : Nat := listed.toList.count false
theorem unl_set {listed : Array Bool} {i : Nat} (h : listed.getD i true = false) : unl (listed.setIfInBounds i true) + 1 = unl listed := by
  have hi : i < listed.size := by
    rcases Nat.lt_or_ge i listed.size with h' | h'
    · exact h'
    · rw [Array.getD_eq_getD_getElem?, Array.getElem?_eq_none h'] at h; cases h
  have hv : listed.toList[i] = false := by
    rw [Array.getD_eq_getD_getElem?, Array.getElem?_eq_getElem hi] at h
    exact h
  unfold unl
  rw [Array.toList_setIfInBounds, List.count_set (by simpa using hi)]
  have hm : 0 < listed.toList.count false := List.count_pos_iff.2 (hv ▸ List.getElem_mem _)
  have hv2 : (listed.toList[i]'(by simpa using hi) == false) = true := by rw [hv]; rfl
  rw [if_pos hv2, if_neg (by decide)]
  omega
theorem all_listed {ops : Array Oper} {listed : Array Bool} (hsz : listed.size = ops.size) (hacyc : ∀ (i : Nat) (o : Oper), ops[i]? = some o → ∀ e ∈ o.after, Region.binds .any e = true → e.on < i) (hr : Region.ready .any ops listed = []) :
    ∀ i, i < ops.size → listed.getD i false = true := by
  intro i
  induction i using Nat.strongRecOn with
  | ind i ih =>
    intro hi
    have hi' : i < listed.size := by omega
    cases hl : listed[i]
    · exfalso
      have hm : i ∈ Region.ready .any ops listed := mem_ready.2 ⟨by rw [Array.getD_eq_getD_getElem?, Array.getElem?_eq_getElem hi', hl]; rfl, ops[i], Array.getElem?_eq_getElem hi, fun e he hb => ih e.on (hacyc i _ (Array.getElem?_eq_getElem hi) e he hb) (by have := hacyc i _ (Array.getElem?_eq_getElem hi) e he hb; omega)⟩
      rw [hr] at hm
      cases hm
    · rw [Array.getD_eq_getD_getElem?, Array.getElem?_eq_getElem hi', hl]; rfl
def sop (op : Op) (ty : TypeId) : Oper := ⟨none, op, ty, "", #[], none⟩
theorem exec_sop (ρ : Operand → Value) (o : Oper) : execOp ρ o = execOp ρ (sop o.op o.type) := rfl
def Goes (P : Program) (a : Act) (w : World) (op : Op) (ty : TypeId) (R : Value → World → Prop) : Prop :=
  (∃ v w', (execOp a.eval (sop op ty)).run P w = .ok (.value v) w' ∧ R v w') ∨
  (∃ f args, (execOp a.eval (sop op ty)).run P w = .ok (.enter f args) w ∧ Calls P f args w fun e w' => ∃ v, e = .returned v ∧ R v w')
theorem Goes.wpOp {P : Program} {ops : Array Oper} {Q : Exit → Act → World → Prop} {K : Act → World → Prop} {a : Act} {w : World} {i : Nat} {o : Oper} {R : Value → World → Prop} (hi : ops[i]? = some o) (hg : o.guard = none) (h : Goes P a w o.op o.type R)
    (hk : ∀ v w', R v w' → K (a.put o.dst v) w') : wpOp P ops Q i K a w := by
  unfold Go.wpOp
  simp only [hi]
  have hw : Region.wanted o (yielded ops a.tmps) = true := by simp [Region.wanted, hg]
  rw [if_pos hw]
  left
  unfold Oper.wp
  rw [exec_sop]
  rcases h with ⟨v, w', hr, hR⟩ | ⟨f, args, hr, hC⟩
  · rw [hr, Oper.upon_value]
    exact hk v w' hR
  · rw [hr, Oper.upon_enter]
    refine hC.mono ?_
    rintro e w' ⟨v, rfl, hR⟩
    exact hk v w' hR
theorem x_move {P : Program} (ρ : Operand → Value) (x : Operand) (ty : TypeId) (w : World) : (execOp ρ (sop (.move x) ty)).run P w = .ok (.value (ρ x)) w := by simp [execOp, sop]
theorem x_assign {P : Program} (ρ : Operand → Value) (x : Operand) (ty : TypeId) (w : World) : (execOp ρ (sop (.assign x) ty)).run P w = .ok (.value (ρ x)) w := by simp [execOp, sop]
theorem x_slice {P : Program} (ρ : Operand → Value) (t : TypeId) (n : Nat) (parts : Array (Nat × Operand)) (ty : TypeId) (v : Value) (w w' : World) (h : (Instr.buildSlice t n (parts.map fun (i, x) => (i, ρ x))).run P w = .ok v w') : (execOp ρ (sop (.buildSlice t n parts) ty)).run P w = .ok (.value v) w' := by simp [execOp, sop, h]
theorem x_index {P : Program} (ρ : Operand → Value) (t : TypeId) (x y : Operand) (ty : TypeId) (v : Value) (w : World) (h : (Instr.indexAt t (ρ x) (ρ y)).run P w = .ok v w) : (execOp ρ (sop (.indexAddr t x y) ty)).run P w = .ok (.value v) w := by simp [execOp, sop, h]
theorem x_load {P : Program} (ρ : Operand → Value) (t : TypeId) (x : Operand) (ty : TypeId) (v : Value) (w : World) (h : (Instr.loadAt t (ρ x)).run P w = .ok v w) : (execOp ρ (sop (.load t x) ty)).run P w = .ok (.value v) w := by simp [execOp, sop, h]
def AllFrom {α : Type} (p : Nat → α → Prop) : Nat → List α → Prop
  | _, [] => True
  | n, x :: xs => p n x ∧ AllFrom p (n + 1) xs
theorem AllFrom.get {α : Type} {p : Nat → α → Prop} : ∀ {n : Nat} {l : List α}, AllFrom p n l → ∀ (i : Nat) (x : α), l[i]? = some x → p (n + i) x
  | _, [], _, i, x, h => by simp at h
  | n, y :: ys, ⟨h0, h1⟩, i, x, h => by
    rcases i with _ | i
    · simp at h; subst h; exact h0
    · simp at h
      have := AllFrom.get h1 i x h
      rwa [show n + 1 + i = n + (i + 1) by omega] at this
end Go.Proofs.YtfkjahpcpmcefaaGreat
namespace Go.Proofs.YtfkjahpcpmcefaaGreat.Im
open Go Go.RowKit
open Rl (En Lg)
open Qu (Cf)
set_option linter.unusedSectionVars false
variable [Lo]
set_option maxRecDepth 100000
set_option linter.unusedVariables false
theorem Rdr.other {w w' : World} {h k : Nat} {s s' : Pk.St} (hr : Rdr w h s) (hk : Rdr w k s') (hne : h ≠ k) (hg : w.grownBy w' (some k)) : Rdr w' h s := by
  obtain ⟨A, c, h1, h2, h3⟩ := hr.at_
  obtain ⟨A', c', q1, _⟩ := hk.at_
  refine ⟨hr.small, hr.ok, A, c, (hg.block h hr.lt (fun e => by injection e with e; exact hne e)).trans h1, ⟨h2.small, fun i hi => ?_⟩, h3⟩
  obtain ⟨b, off, e, hb, hc⟩ := h2.cells i hi
  refine ⟨b, off, e, hb, fun j hj => ?_⟩
  have hcj := hc j hj
  have hbk : b ≠ k := fun e => by
    subst e
    rw [row_cell q1] at hcj
    rcases hn : off + j with _ | _ | n
    · rw [hn] at hcj; simp at hcj
    · rw [hn] at hcj; simp at hcj
    · rw [hn] at hcj; simp at hcj
  have hbl : b < w.heap.size := by have := hr.lt; omega
  exact (World.cell?_of_block (a := ⟨b, off + j, none⟩) (hg.block b hbl (fun e => by injection e with e; exact hbk e))).trans hcj
inductive Cl where
  | g | ld | num (k : Nat) | log | conf | blob | vote | agg
deriving DecidableEq
structure Pl where
  pt : Pt
  a : Ad
  m0 : Nat
  m1 : Nat
  m2 : Nat
  m3 : Nat
structure Cx where
  G : Nat
  g : Nat
  R : Nat
  w0 : World
  K : Nat
  nc : Nat
  V : Nat → Int
  s : Nat → Pk.St
  vt : Vt
  T : TypeId
  sz : Nat
  fin : Pt → Ad → List Value
structure Cx.Ok (C : Cx) : Prop where
  hR : C.R = C.w0.heap.size
  hG : C.G < C.w0.heap.size
  nc : 3 ≤ C.nc
  four : C.nc = 3 ∨ C.nc = 4
  num : ∀ k, k < C.K → C.V k = (Pk.rdInt (C.s k)).1 ∧ C.s (k + 1) = (Pk.rdInt (C.s k)).2
  log : C.s (C.K + 1) = (rdLg (C.s C.K)).2
  conf : C.s (C.K + 1 + 1) = (rdCf (C.s (C.K + 1))).2
  blob : C.s (C.K + 2 + 1) = (Pk.rdBlob (C.s (C.K + 2))).2
  vote : C.vt = (rdV (C.s (C.K + 3))).1 ∧ C.s (C.K + 3 + 1) = (rdV (C.s (C.K + 3))).2
  len : ∀ k, (C.s k).rest.length ≤ 10000000
  tag : C.T ≠ 138 ∧ C.T ≠ 130
structure PW (C : Cx) (X : Pl) (p : Nat) (st : Bool) (w : World) : Prop where
  kq : Kq C.w0.heap.size C.w0 w
  rt : ∃ g', Rt w C.G g' (C.s p) ∧ (g' = C.g ∨ (C.K < p ∧ C.s (C.K + 1) = Pk.gone))
  row : ∃ Z, w.heap[C.R]? = some (.cells Z C.T (0, 0)) ∧ Z.size = C.sz ∧ (st = true → p = C.K + C.nc ∧ Z = (C.fin X.pt X.a).toArray)
  es : C.K < p → OwnE w (C.R + 1) X.m0 X.a.e X.a.ce X.pt.log.es ∧ X.m0 ≤ w.heap.size ∧ C.R + 1 ≤ X.m0
  cf : C.K + 1 < p → (X.m0 ≤ X.m1 ∧ X.m1 ≤ X.m2 ∧ X.m2 ≤ X.m3 ∧ X.m3 ≤ w.heap.size) ∧ OwnsI 3 w X.m0 X.a.o X.a.co X.pt.cf.old ∧ OwnsI 3 w X.m1 X.a.n X.a.cn X.pt.cf.new ∧ OwnsI 3 w X.m2 X.a.l X.a.cl X.pt.cf.lrn ∧ (∀ k, blk X.a.o = some k → k < X.m1) ∧ (∀ k, blk X.a.n = some k → k < X.m2) ∧ (∀ k, blk X.a.l = some k → k < X.m3)
  sn : C.K + 2 < p → OwnsB 5 w X.m3 X.a.s X.a.cs X.pt.sn
  val : C.s (C.K + 1) = Pk.gone ∨ ((C.K < p → X.pt.log = (rdLg (C.s C.K)).1) ∧ (C.K + 1 < p → X.pt.cf = (rdCf (C.s (C.K + 1))).1) ∧ (C.K + 2 < p → X.pt.sn = (Pk.rdBlob (C.s (C.K + 2))).1))
  num : C.K < p → InInt X.pt.log.base ∧ InInt X.pt.log.term
  le : p ≤ C.K + C.nc
def callNo (K : Nat) : Cl → Option Nat
  | .num k => some k
  | .log => some K
  | .conf => some (K + 1)
  | .blob => some (K + 2)
  | .vote => some (K + 3)
  | _ => none
def Has (C : Cx) (X : Pl) (p : Nat) (w : World) : Cl → Value → Prop
  | .g, v => v = .pointer (some ⟨C.G, 0, none⟩)
  | .ld, v => p ≤ C.K + 2 → ∃ h s0, v = .pointer (some ⟨h, 0, none⟩) ∧ Ro w C.G h s0 ∧ s0.rest.length ≤ 10000000 ∧ (h = C.g ∨ (C.K < p ∧ C.s (C.K + 1) = Pk.gone))
  | .num k, v => v = .int .i64 (C.V k)
  | .log, v => v = .agg #[.int .i64 X.pt.log.base, .int .i64 X.pt.log.term, .slice X.a.e X.pt.log.es.length X.a.ce]
  | .conf, v => v = .agg #[.slice X.a.o X.pt.cf.old.length X.a.co, .slice X.a.n X.pt.cf.new.length X.a.cn, .slice X.a.l X.pt.cf.lrn.length X.a.cl]
  | .blob, v => v = .slice X.a.s X.pt.sn.length X.a.cs
  | .vote, v => v = .agg #[.int .i64 C.vt.x, .int .i64 C.vt.p, .int .i64 C.vt.r, .int .i64 C.vt.b, .int .i64 C.vt.v]
  | .agg, v => v = .agg (C.fin X.pt X.a).toArray ∧ p = C.K + C.nc
structure Sh where
  n : Nat
  nt : Nat
  cls : List Cl
def Sh.c (S : Sh) (j : Nat) : Cl := (S.cls[j]?).getD .g
structure Jr (C : Cx) (S : Sh) (X : Pl) (p : Nat) (listed : Array Bool) (a : Act) (w : World) : Prop where
  size : a.tmps.size = S.nt
  defers : a.defers = []
  t0 : a.eval (.tmp 0) = .pointer (some ⟨C.G, 0, none⟩)
  t2 : a.eval (.tmp 2) = .pointer (some ⟨C.R, 0, none⟩)
  lsize : listed.size = S.n
  slots : ∀ j, j + 1 < S.n → listed.getD j false = true → Has C X p w (S.c j) (a.eval (.tmp (3 + j)))
  call : ∀ j, j + 1 < S.n → ∀ k, callNo C.K (S.c j) = some k → (listed.getD j false = true ↔ k < p)
  pw : PW C X p (listed.getD (S.n - 1) false) w
structure Sh.Ok (C : Cx) (S : Sh) : Prop where
  nt : S.n + 2 ≤ S.nt
  pos : 0 < S.n
  uniq : ∀ i j k, i + 1 < S.n → j + 1 < S.n → callNo C.K (S.c i) = some k → callNo C.K (S.c j) = some k → i = j
theorem ev_put_ne (a : Act) {d t : Nat} (v : Value) (h : d ≠ t) : (a.put (some d) v).eval (.tmp t) = a.eval (.tmp t) := by
  simp [Act.put, Act.eval, Array.getElem?_setIfInBounds_ne h]
theorem ev_put_self (a : Act) {d : Nat} (v : Value) (h : d < a.tmps.size) : (a.put (some d) v).eval (.tmp d) = v := by
  simp [Act.put, Act.eval, h]
theorem getD_set (l : Array Bool) (j m : Nat) (hj : j < l.size) : (l.setIfInBounds j true).getD m false = if m = j then true else l.getD m false := by
  rw [Array.getD_eq_getD_getElem?, Array.getD_eq_getD_getElem?]
  by_cases e : m = j
  · subst e
    rw [if_pos rfl, Array.getElem?_setIfInBounds_self_of_lt hj]; rfl
  · rw [if_neg e, Array.getElem?_setIfInBounds_ne (by omega)]
section
variable {C : Cx} {S : Sh} {X X' : Pl} {p p' : Nat} {listed : Array Bool} {a : Act} {w w' : World}
theorem Jr.put (hS : S.Ok C) (h : Jr C S X p listed a w) (j : Nat) (hj : j + 1 < S.n) (v : Value) (hw : PW C X' p' (listed.getD (S.n - 1) false) w')
    (hk : ∀ c v, (∀ k, callNo C.K c = some k → k < p) → Has C X p w c v → Has C X' p' w' c v) (hv : Has C X' p' w' (S.c j) v)
    (hc : ∀ m, m + 1 < S.n → ∀ k, callNo C.K (S.c m) = some k → ((if m = j then true else listed.getD m false) = true ↔ k < p')) :
    Jr C S X' p' (listed.setIfInBounds j true) (a.put (some (3 + j)) v) w' := by
  have hjl : j < listed.size := by rw [h.lsize]; omega
  have hnt := hS.nt
  refine ⟨by simp [Act.put, h.size], h.defers, (ev_put_ne a v (by omega)).trans h.t0, (ev_put_ne a v (by omega)).trans h.t2, by simp [h.lsize], fun m hm hl => ?_, fun m hm k hmk => ?_, ?_⟩
  · rw [getD_set _ _ _ hjl] at hl
    by_cases e : m = j
    · subst e
      rw [ev_put_self a v (by rw [h.size]; omega)]
      exact hv
    · rw [if_neg e] at hl
      rw [ev_put_ne a v (by omega)]
      exact hk _ _ (fun k hk => (h.call m hm k hk).1 hl) (h.slots m hm hl)
  · rw [getD_set _ _ _ hjl]; exact hc m hm k hmk
  · rw [getD_set _ _ _ hjl, if_neg (by omega)]; exact hw
theorem Jr.no (h : Jr C S X p listed a w) {j k : Nat} (hj : j + 1 < S.n) (hk : callNo C.K (S.c j) = some k) (hu : listed.getD j true = false) : p ≤ k := by
  have : listed.getD j false = false := by
    rw [Array.getD_eq_getD_getElem?] at hu ⊢
    rcases hl : listed[j]? with _ | b
    · rfl
    · rw [hl] at hu; exact hu
  rcases Nat.lt_or_ge k p with h' | h'
  · rw [(h.call j hj k hk).2 h'] at this; cases this
  · exact h'
theorem Jr.next (h : Jr C S X p listed a w) {j k : Nat} (hj : j + 1 < S.n) (hk : callNo C.K (S.c j) = some k) (hu : listed.getD j true = false) (hb : k = 0 ∨ ∃ i, i + 1 < S.n ∧ callNo C.K (S.c i) = some (k - 1) ∧ listed.getD i false = true) : k = p := by
  have h1 := h.no hj hk hu
  rcases hb with h0 | ⟨i, hi, hik, hil⟩
  · omega
  · have := (h.call i hi _ hik).1 hil
    omega
end
section
variable {C : Cx} {S : Sh} {listed : Array Bool} {a : Act} {w : World} {ops : Array Oper} {Q : Exit → Act → World → Prop}
end
end Go.Proofs.YtfkjahpcpmcefaaGreat.Im
namespace Go.Proofs.YtfkjahpcpmcefaaGreat.Im
open Go Go.RowKit
open Rl (En Lg)
open Qu (Cf)
set_option linter.unusedSectionVars false
variable [Lo]
set_option maxRecDepth 100000
set_option linter.unusedVariables false
theorem ownsI_room {e : TypeId} {w : World} {base c : Nat} {A : Option Addr} {l : List Int} (h : OwnsI e w base A c l) : Room l.length c A := by
  rcases h.row.2 with ⟨hv, h0⟩ | ⟨g, cap, cur, hv, _, _, h1, h2, _, _⟩
  · injection hv with e1 e2 e3
    refine ⟨⟨by omega, by unfold maxLen; omega⟩, fun _ => e3⟩
  · have h3 : c = cap := by injection hv
    refine ⟨⟨by omega, by omega⟩, fun e => ?_⟩
    rw [e] at hv; injection hv with h4; cases h4
theorem ownsB_room {e : TypeId} {w : World} {base c : Nat} {A : Option Addr} {l : List Nat} (h : OwnsB e w base A c l) : Room l.length c A := ⟨h.room, h.none_⟩
structure Kp (P : TypeId → Prop) (w w' : World) : Prop where
  os : w'.os = w.os
  tape : w'.tape = w.tape
  output : w'.output = w.output
  size : w.heap.size ≤ w'.heap.size
  keep : ∀ (k : Nat) (cs : Array Value) (t : TypeId) (fr : Nat × Nat), w.heap[k]? = some (.cells cs t fr) → P t → w'.heap[k]? = some (.cells cs t fr)
namespace Kp
variable {P : TypeId → Prop} {w w' : World}
theorem ofKq (h : Kq w.heap.size w w') (hP : ∀ t, P t → t ≠ 138 ∧ t ≠ 130) : Kp P w w' := ⟨h.os, h.tape, h.output, h.size, fun k cs t fr h1 h2 => h.keep k cs t fr (row_lt h1) h1 (hP t h2).1 (hP t h2).2⟩
theorem ofGrown {g : Nat} {cs : Array Value} {t : TypeId} {fr : Nat × Nat} (hg : w.heap[g]? = some (.cells cs t fr)) (ht : ¬ P t) (h : w.grownBy w' (some g)) : Kp P w w' :=
  ⟨h.os, h.tape, h.output, h.size, fun k cs' t' fr' h1 h2 => (h.block k (row_lt h1) (fun e => by
    injection e with e
    subst e
    rw [h1] at hg
    have := (Obj.cells.inj (Option.some.inj hg)).2.1
    exact ht (this ▸ h2))).trans h1⟩
theorem ofBelow (h : Below w.heap.size w w') : Kp P w w' := ⟨h.os, h.tape, h.output, h.size, fun k cs t fr h1 _ => (h.block k (row_lt h1)).trans h1⟩
theorem row (h : Kp P w w') {base n size : Nat} {e : TypeId} {v : Value} {xs : List Value} (hr : w.ownsRow base e size v n xs) (h1 : P e) : w'.ownsRow base e size v n xs := by
  refine ⟨hr.1, ?_⟩
  rcases hr.2 with h0 | ⟨g, cap, cur, q1, q2, q3, q4⟩
  · exact .inl h0
  · exact .inr ⟨g, cap, cur, q1, q2, h.keep g _ _ _ q3 h1, q4⟩
theorem ownB (h : Kp P w w') (hP : P 5) {base c : Nat} {A : Option Addr} {l : List Nat} (ho : OwnsB 5 w base A c l) : OwnsB 5 w' base A c l := ⟨ho.small, h.row ho.row hP⟩
theorem ownI (h : Kp P w w') (hP : P 3) {base c : Nat} {A : Option Addr} {l : List Int} (ho : OwnsI 3 w base A c l) : OwnsI 3 w' base A c l := ⟨ho.small, h.row ho.row hP⟩
theorem rowIn {α : Type} {f : α → List Value} {size : Nat} {e : TypeId} {F : Nat → Prop} {A : Option Addr} {c : Nat} {L : List α} (h : Kp P w w') (hP : P e) (hr : RowIn f size e w F A c L) : RowIn f size e w' F A c L := ⟨hr.fits, h.row hr.row hP, hr.blk⟩
theorem ownE (h : Kp P w w') (hE : P 33) (hB : P 5) {B N c : Nat} {A : Option Addr} {L : List En} (ho : OwnE w B N A c L) : OwnE w' B N A c L := by
  obtain ⟨M, h1, h2⟩ := ho
  exact ⟨M, h1, h.rowIn hE h2.row, fun q hq => ⟨h.ownB hB (h2.own q hq).1, (h2.own q hq).2⟩, h2.apart, h2.num⟩
end Kp
def Parts (t : TypeId) : Prop := t = 33 ∨ t = 5 ∨ t = 3
theorem parts_kq (t : TypeId) (h : Parts t) : t ≠ 138 ∧ t ≠ 130 := by
  rcases h with rfl | rfl | rfl <;> exact ⟨by decide, by decide⟩
def OwnPt (w : World) (B N : Nat) (p : Pt) (a : Ad) : Prop := ∃ m0 m1 m2 m3, (B ≤ m0 ∧ m0 ≤ m1 ∧ m1 ≤ m2 ∧ m2 ≤ m3 ∧ m3 ≤ N) ∧ OwnE w B m0 a.e a.ce p.log.es ∧ (OwnsI 3 w m0 a.o a.co p.cf.old ∧ ∀ k, blk a.o = some k → k < m1) ∧ (OwnsI 3 w m1 a.n a.cn p.cf.new ∧ ∀ k, blk a.n = some k → k < m2) ∧ (OwnsI 3 w m2 a.l a.cl p.cf.lrn ∧ ∀ k, blk a.l = some k → k < m3) ∧ (OwnsB 5 w m3 a.s a.cs p.sn ∧ ∀ k, blk a.s = some k → k < N) ∧ InInt p.log.base ∧ InInt p.log.term
theorem ownsI_turned {e : TypeId} {w w' : World} {S : Nat → Prop} {base c : Nat} {A : Option Addr} {l : List Int} (h : OwnsI e w base A c l) (ht : Turned S w w') (hd : ∀ k, blk A = some k → ¬ S k) : OwnsI e w' base A c l :=
  ⟨h.small, ownsRow_turned h.row ht (fun k hk => hd k (by rw [← ownBlock_slice A l.length c]; exact hk))⟩
theorem isBytes_lower {w : World} {B : Nat} {A : Option Addr} {l : List Nat} {B' : Nat} (h : IsBytes w B A l) (hb : ∀ k, blk A = some k → k < B') : IsBytes w B' A l := by
  refine ⟨h.small, fun k hk => ?_⟩
  obtain ⟨b, off, e, _, hc⟩ := h.cells k hk
  exact ⟨b, off, e, hb b (by rw [e]; rfl), hc⟩
theorem isInts_lower {w : World} {B : Nat} {A : Option Addr} {l : List Int} {B' : Nat} (h : IsInts w B A l) (hb : ∀ k, blk A = some k → k < B') : IsInts w B' A l := by
  refine ⟨h.small, fun k hk => ?_⟩
  obtain ⟨b, off, e, _, hc⟩ := h.cells k hk
  exact ⟨b, off, e, hb b (by rw [e]; rfl), hc⟩
namespace OwnPt
variable {w w' : World} {B B' N N' : Nat} {p : Pt} {a : Ad}
theorem kp (h : OwnPt w B N p a) (hk : Kp Parts w w') : OwnPt w' B N p a := by
  obtain ⟨m0, m1, m2, m3, hm, h1, h2, h3, h4, h5, h6⟩ := h
  exact ⟨m0, m1, m2, m3, hm, hk.ownE (.inl rfl) (.inr (.inl rfl)) h1, ⟨hk.ownI (.inr (.inr rfl)) h2.1, h2.2⟩, ⟨hk.ownI (.inr (.inr rfl)) h3.1, h3.2⟩, ⟨hk.ownI (.inr (.inr rfl)) h4.1, h4.2⟩, ⟨hk.ownB (.inr (.inl rfl)) h5.1, h5.2⟩, h6⟩
theorem kq (h : OwnPt w B N p a) (hk : Kq w.heap.size w w') : OwnPt w' B N p a := h.kp (Kp.ofKq hk parts_kq)
theorem wide (h : OwnPt w B N p a) (hB : B' ≤ B) (hN : N ≤ N') : OwnPt w B' N' p a := by
  obtain ⟨m0, m1, m2, m3, ⟨c0, c1, c2, c3, c4⟩, h1, h2, h3, h4, h5, h6⟩ := h
  exact ⟨m0, m1, m2, m3, ⟨by omega, c1, c2, c3, by omega⟩, h1.wide hB (Nat.le_refl _), h2, h3, h4, ⟨h5.1, fun k hk => by have := h5.2 k hk; omega⟩, h6⟩
theorem keep {S : Nat → Prop} (h : OwnPt w B N p a) (ht : Turned S w w') (hs : ∀ k, S k → ¬ Bl B N k) : OwnPt w' B N p a := by
  obtain ⟨m0, m1, m2, m3, ⟨c0, c1, c2, c3, c4⟩, h1, h2, h3, h4, h5, h6⟩ := h
  have kB : ∀ {lo hi : Nat} {A : Option Addr}, B ≤ lo → hi ≤ N → (∀ k, blk A = some k → lo ≤ k) → (∀ k, blk A = some k → k < hi) → ∀ k, blk A = some k → ¬ S k := fun h1 h2 h3 h4 k hk hS => hs k hS ⟨by have := h3 k hk; omega, by have := h4 k hk; omega⟩
  refine ⟨m0, m1, m2, m3, ⟨c0, c1, c2, c3, c4⟩, h1.keep ht (fun k hk hb => hs k hk ⟨hb.1, by have := hb.2; omega⟩), ⟨ownsI_turned h2.1 ht (kB (lo := m0) (hi := m1) c0 (by omega) (fun k hk => (h2.1.blkLt k hk).1) h2.2), h2.2⟩, ⟨ownsI_turned h3.1 ht (kB (lo := m1) (hi := m2) (by omega) (by omega) (fun k hk => (h3.1.blkLt k hk).1) h3.2), h3.2⟩, ⟨ownsI_turned h4.1 ht (kB (lo := m2) (hi := m3) (by omega) (by omega) (fun k hk => (h4.1.blkLt k hk).1) h4.2), h4.2⟩, ⟨h5.1.turned ht (kB (lo := m3) (hi := N) (by omega) (by omega) (fun k hk => (h5.1.blkLt k hk).1) h5.2), h5.2⟩, h6⟩
theorem below (h : OwnPt w B N p a) (hb : Below N w w') : OwnPt w' B N p a :=
  h.keep (S := fun k => N ≤ k) ⟨hb.os, hb.tape, hb.output, hb.size, fun k _ hn => hb.block k (by omega)⟩ (fun k hk hB => by have := hB.2; omega)
theorem reads (h : OwnPt w B N p a) : IsPt w N p a := by
  obtain ⟨m0, m1, m2, m3, ⟨c0, c1, c2, c3, c4⟩, h1, h2, h3, h4, h5, h6⟩ := h
  exact ⟨h1.reads.more (by omega), isInts_lower h2.1.reads (fun k hk => by have := h2.2 k hk; omega), isInts_lower h3.1.reads (fun k hk => by have := h3.2 k hk; omega), isInts_lower h4.1.reads (fun k hk => by have := h4.2 k hk; omega), isBytes_lower h5.1.reads h5.2, ⟨h1.room, h1.none_⟩, ownsI_room h2.1, ownsI_room h3.1, ownsI_room h4.1, ownsB_room h5.1, h6⟩
end OwnPt
def Rq (G g : Nat) (s' : Pk.St) (w w' : World) : Prop := (∃ g', Rt w' G g' s' ∧ (g' = g ∨ s' = Pk.gone)) ∧ Kq w.heap.size w w'
end Go.Proofs.YtfkjahpcpmcefaaGreat.Im
namespace Go.Proofs.YtfkjahpcpmcefaaGreat.Im
open Go Go.RowKit
open Rl (En Lg)
open Qu (Cf)
set_option linter.unusedSectionVars false
variable [Lo]
set_option maxRecDepth 100000
set_option linter.unusedVariables false
attribute [local go_sem ↓] loadAt_hard storeAt_hard
end Go.Proofs.YtfkjahpcpmcefaaGreat.Im
namespace Go.Proofs.YtfkjahpcpmcefaaGreat.Im
open Go.RowKit
open Rl (En Lg)
open Qu (Cf)
set_option linter.unusedSectionVars false
variable [Lo]
set_option maxRecDepth 100000
set_option linter.unusedVariables false
def OwnPts (w : World) : Nat → Nat → List (Pt × Ad) → Prop
  | B, N, [] => B ≤ N
  | B, N, q :: l => ∃ m, B ≤ m ∧ OwnPt w B m q.1 q.2 ∧ OwnPts w m N l
theorem OwnPt.le {w : World} {B N : Nat} {p : Pt} {a : Ad} (h : OwnPt w B N p a) : B ≤ N := by
  obtain ⟨m0, m1, m2, m3, ⟨c0, c1, c2, c3, c4⟩, _⟩ := h; omega
namespace OwnPts
variable {w w' : World}
theorem le : ∀ {l : List (Pt × Ad)} {B N : Nat}, OwnPts w B N l → B ≤ N
  | [], _, _, h => h
  | q :: l, _, _, ⟨m, h1, _, h3⟩ => Nat.le_trans h1 (le h3)
theorem kp (hk : Kp Parts w w') : ∀ {l : List (Pt × Ad)} {B N : Nat}, OwnPts w B N l → OwnPts w' B N l
  | [], _, _, h => h
  | q :: l, _, _, ⟨m, h1, h2, h3⟩ => ⟨m, h1, h2.kp hk, kp hk h3⟩
theorem keep {S : Nat → Prop} (ht : Turned S w w') : ∀ {l : List (Pt × Ad)} {B N : Nat}, OwnPts w B N l → (∀ k, S k → ¬ Bl B N k) → OwnPts w' B N l
  | [], _, _, h, _ => h
  | q :: l, _, _, ⟨m, h1, h2, h3⟩, hs => ⟨m, h1, h2.keep ht (fun k hk hB => hs k hk ⟨hB.1, by have := hB.2; have := le h3; omega⟩), keep ht h3 (fun k hk hB => hs k hk ⟨by have := hB.1; omega, hB.2⟩)⟩
theorem wide {l : List (Pt × Ad)} : ∀ {B N B' N' : Nat}, OwnPts w B N l → B' ≤ B → N ≤ N' → OwnPts w B' N' l := by
  induction l with
  | nil => intro B N B' N' h h1 h2; exact Nat.le_trans h1 (Nat.le_trans h h2)
  | cons q l ih => rintro B N B' N' ⟨m, h1, h2, h3⟩ hB hN; exact ⟨m, Nat.le_trans hB h1, h2.wide hB (Nat.le_refl _), ih h3 (Nat.le_refl _) hN⟩
theorem mem {q : Pt × Ad} : ∀ {l : List (Pt × Ad)} {B N : Nat}, OwnPts w B N l → q ∈ l → OwnPt w B N q.1 q.2
  | p :: l, _, _, ⟨m, h1, h2, h3⟩, hq => by
    rcases List.mem_cons.1 hq with rfl | hq
    · exact h2.wide (Nat.le_refl _) (le h3)
    · exact (mem h3 hq).wide h1 (Nat.le_refl _)
end OwnPts
theorem OwnPts.kp_ {w w' : World} {B N : Nat} {l : List (Pt × Ad)} (h : OwnPts w B N l) (hk : Kp Parts w w') : OwnPts w' B N l := OwnPts.kp hk h
theorem OwnPts.keep_ {w w' : World} {B N : Nat} {l : List (Pt × Ad)} {S : Nat → Prop} (h : OwnPts w B N l) (ht : Turned S w w') (hs : ∀ k, S k → ¬ Bl B N k) : OwnPts w' B N l := OwnPts.keep ht h hs
theorem cellsH_fits (q : Hq) : (cellsH q).length = 10 := rfl
structure OwnHs (w : World) (B N : Nat) (A : Option Addr) (c : Nat) (M : List Hq) : Prop where
  row : RowIn cellsH 10 38 w (Bl B N) A c M
  pts : OwnPts w B N (M.map fun q => (q.h.p, q.a))
  num : ∀ q ∈ M, InInt q.h.g ∧ InInt q.h.t ∧ InInt q.h.v
namespace OwnHs
variable {w w' : World} {B B' N N' : Nat} {A : Option Addr} {c : Nat} {M : List Hq}
theorem nil (w : World) {B N : Nat} (h : B ≤ N) : OwnHs w B N none 0 [] := ⟨RowIn.nil cellsH_fits _ _ _, h, fun q hq => by cases hq⟩
theorem kq (h : OwnHs w B N A c M) (hk : Kq w.heap.size w w') : OwnHs w' B N A c M := ⟨hk.rowIn h.row (by decide) (by decide), h.pts.kp_ (Kp.ofKq hk parts_kq), h.num⟩
theorem keep {S : Nat → Prop} (h : OwnHs w B N A c M) (ht : Turned S w w') (hs : ∀ k, S k → ¬ Bl B N k) : OwnHs w' B N A c M := ⟨h.row.keep ht (fun k hk hS => hs k hS (h.row.blk k hk)), h.pts.keep_ ht hs, h.num⟩
theorem below (h : OwnHs w B N A c M) (hb : Below N w w') : OwnHs w' B N A c M :=
  h.keep (S := fun k => N ≤ k) ⟨hb.os, hb.tape, hb.output, hb.size, fun k _ hn => hb.block k (by omega)⟩ (fun k hk hB => by have := hB.2; omega)
theorem wide (h : OwnHs w B N A c M) (hB : B' ≤ B) (hN : N ≤ N') : OwnHs w B' N' A c M := ⟨h.row.mono (fun k hk => ⟨Nat.le_trans hB (h.row.blk k hk).1, Nat.lt_of_lt_of_le (h.row.blk k hk).2 hN⟩), h.pts.wide hB hN, h.num⟩
theorem reads (h : OwnHs w B N A c M) : IsHds w N A M := by
  refine ⟨⟨fun k hk => ?_⟩, fun q hq => ?_, h.num⟩
  · obtain ⟨g, hA, hg, hF, hc, _⟩ := h.row.get k hk
    refine ⟨g, 0, hA, hF.2, fun i hi j v hv => ?_⟩
    obtain ⟨g', hA', _, _, hc', _⟩ := h.row.get i hi
    obtain rfl : g = g' := by rw [hA] at hA'; injection hA' with e; injection e
    have hj : j < 10 := (List.getElem?_eq_some_iff.1 hv).1
    rw [Nat.zero_add, hc' j hj]; exact hv
  · exact (OwnPts.mem h.pts (List.mem_map.2 ⟨q, hq, rfl⟩)).reads
end OwnHs
structure LpH (w : World) (G g : Nat) (s : Pk.St) (A : Option Addr) (c : Nat) (L : List Hq) (m : Int) (s' : Pk.St) (W : World) : Prop where
  rq : Rq G g s' w W
  own : OwnHs W w.heap.size W.heap.size A c L
  st : (rdN rdH m.toNat s').2 = (rdL rdH s).2
  val : s' = Pk.gone ∨ L.map (·.h) ++ (rdN rdH m.toNat s').1 = (rdL rdH s).1
  few : 0 < m → s'.bad = false → (L.length : Int) + m ≤ 1250000
  rest : s'.rest.length ≤ 10000000
theorem LpH.done {w W : World} {G g c : Nat} {s s' : Pk.St} {A : Option Addr} {L : List Hq} {m : Int} (h : LpH w G g s A c L m s' W) (he : rdN rdH m.toNat s' = ([], s')) :
    OwnHs W w.heap.size W.heap.size A c L ∧ Rq G g (rdL rdH s).2 w W ∧ ((rdL rdH s).2 = Pk.gone ∨ L.map (·.h) = (rdL rdH s).1) := by
  have h1 := h.st
  have h2 := h.val
  rw [he] at h1 h2
  have h1' : s' = (rdL rdH s).2 := h1
  rw [List.append_nil] at h2
  exact ⟨h.own, h1' ▸ h.rq, by rw [← h1']; exact h2⟩
end Go.Proofs.YtfkjahpcpmcefaaGreat.Im
namespace Go.Proofs.YtfkjahpcpmcefaaGreat.Im
open Go Go.RowKit
open Rl (En Lg)
open Qu (Cf)
set_option linter.unusedSectionVars false
variable [Lo]
set_option maxRecDepth 100000
set_option linter.unusedVariables false
attribute [local go_sem ↓] loadAt_hard storeAt_hard
end Go.Proofs.YtfkjahpcpmcefaaGreat.Im
namespace Go.Proofs.YtfkjahpcpmcefaaGreat.Im
open Go.RowKit
open Rl (En Lg)
open Qu (Cf)
set_option linter.unusedSectionVars false
variable [Lo]
set_option maxRecDepth 100000
set_option linter.unusedVariables false
namespace OwnCs
variable {w w' : World} {B B' N N' : Nat} {A : Option Addr} {c : Nat} {M : List Cq}
end OwnCs
end Go.Proofs.YtfkjahpcpmcefaaGreat.Im
namespace Go.Proofs.YtfkjahpcpmcefaaGreat.Im
open Go.RowKit
open Rl (En Lg)
open Qu (Cf)
set_option linter.unusedSectionVars false
variable [Lo]
set_option maxRecDepth 100000
set_option linter.unusedVariables false
structure Ia where
  h : Option Addr
  ch : Nat
  v : Option Addr
  cv : Nat
namespace OwnIm
variable {w w' : World} {B B' N N' : Nat} {i : Ia} {Q : List Hq} {L : List Vt}
end OwnIm
end Go.Proofs.YtfkjahpcpmcefaaGreat.Im
namespace Go.Proofs.YtfkjahpcpmcefaaGreat.Im
open Go.RowKit
open Rl (En Lg)
open Qu (Cf)
set_option maxRecDepth 100000
set_option linter.unusedVariables false
attribute [local go_sem ↓] loadAt_conf3 storeAt_conf3
theorem rt_rdr [Lo] {w : World} {G g : Nat} {s : Pk.St} (h : Rt w G g s) : Rdr w g s := h.ro.rdr
theorem kq_same [Lo] {B : Nat} {w w' : World} (h : Kq B w w') : w'.os = w.os ∧ w'.tape = w.tape ∧ w'.output = w.output := ⟨h.os, h.tape, h.output⟩
instance lo0 : Lo := ⟨0⟩
theorem fin_end (s : Pk.St) : endOf s = fin s := rfl
theorem fin_gone {s : Pk.St} (h : fin s = 0) : s ≠ Pk.gone := fun e => by rw [e] at h; cases h
theorem whole_no {α : Type} {one : Pk.St → α × Pk.St} {no : α} {b : List Nat} (h : fin (one ⟨b, false⟩).2 ≠ 0) : whole one no b = (no, fin (one ⟨b, false⟩).2) := if_pos h
theorem whole_yes {α : Type} {one : Pk.St → α × Pk.St} {no : α} {b : List Nat} (h : fin (one ⟨b, false⟩).2 = 0) : whole one no b = ((one ⟨b, false⟩).1, 0) := if_neg (fun e => e h)
theorem fin_in (s : Pk.St) : 0 ≤ fin s ∧ fin s ≤ 4 := by unfold fin; split; omega; split <;> omega
theorem rt_new {w w1 : World} {g : Nat} {l : List Nat} (hr : Rdr w1 g ⟨l, false⟩) (n : Nat) (hn : n ≤ g) (w2 : World) (hw2 : w2 = w1.alloc (.cells #[.pointer (some ⟨g, 0, none⟩)] 130)) : @Rt ⟨n⟩ w2 w1.heap.size g ⟨l, false⟩ := by
  have hb : Below w1.heap.size w1 w2 := by rw [hw2]; exact (Below.refl _ w1).alloc (Nat.le_refl _) _
  refine @Rt.mk ⟨n⟩ _ _ _ _ (by rw [hw2]; exact heap_alloc_new w1 _) (@Ro.mk ⟨n⟩ _ _ _ _ (hr.below (hb.mono hr.lt)) (.inl hr.lt) hn) ?_
  have := hr.lt
  show n ≤ w1.heap.size
  omega
def OwnCf (w : World) (B N : Nat) (c : Cf) (a : Ad) : Prop := ∃ m1 m2, (B ≤ m1 ∧ m1 ≤ m2 ∧ m2 ≤ N) ∧ (OwnsI 3 w B a.o a.co c.old ∧ ∀ k, blk a.o = some k → k < m1) ∧ (OwnsI 3 w m1 a.n a.cn c.new ∧ ∀ k, blk a.n = some k → k < m2) ∧ OwnsI 3 w m2 a.l a.cl c.lrn
theorem OwnCf.nil (w : World) {B N : Nat} (h : B ≤ N) : OwnCf w B N ⟨[], [], []⟩ A0 := ⟨B, B, ⟨Nat.le_refl _, Nat.le_refl _, h⟩, ⟨OwnsI.nil _ _ _, fun k hk => by cases hk⟩, ⟨OwnsI.nil _ _ _, fun k hk => by cases hk⟩, OwnsI.nil _ _ _⟩
theorem OwnsI.below_ {e : TypeId} {w w' : World} {base c : Nat} {A : Option Addr} {l : List Int} (h : OwnsI e w base A c l) (hb : Below w.heap.size w w') : OwnsI e w' base A c l := ownsI_turned h (S := fun _ => False) (Turned.ofBelow _ hb) (fun _ _ h => h)
set_option maxHeartbeats 3200000 in
theorem wholeCf_any (l : List Nat) (A00 : Option Addr) (c0 n0 : Nat) (hn0 : l.length = n0) (w : World) (h : IsBytes w w.heap.size A00 l) (hn : A00 = none → c0 = 0) (hl : n0 ≤ 10000000) :
    Calls Tryz.prog 94 #[.slice A00 n0 c0, .func (.func 95) #[] #[]] w fun e w' => ∃ (a : Ad) (n1 n2 n3 : Nat), e = .returned (.tuple #[.agg #[.slice a.o n1 a.co, .slice a.n n2 a.cn, .slice a.l n3 a.cl], .int .i64 ((whole rdCf ⟨[], [], []⟩ l).2)]) ∧ (∃ p : Cf, (n1 = p.old.length ∧ n2 = p.new.length ∧ n3 = p.lrn.length) ∧ OwnCf w' w.heap.size w'.heap.size p a ∧ p = (whole rdCf ⟨[], [], []⟩ l).1) ∧ Below w.heap.size w w' := by
  obtain ⟨wA, hwA⟩ : ∃ wA, wA = w.alloc (.cells #[.slice none 0 0, .slice none 0 0, .slice none 0 0] 24) := ⟨_, rfl⟩
  have hsA : wA.heap.size = w.heap.size + 1 := by rw [hwA]; simp
  have hbA : Below w.heap.size w wA := by rw [hwA]; exact (Below.refl _ w).alloc (Nat.le_refl _) _
  have hzA : wA.heap[w.heap.size]? = some (.cells #[.slice none 0 0, .slice none 0 0, .slice none 0 0] 24 (0, 0)) := by rw [hwA]; exact heap_alloc_new w _
  have HP : Hid (Calls Tryz.prog 110 #[.slice A00 n0 c0] wA fun e w' => ∃ g, e = .returned (.pointer (some ⟨g, 0, none⟩)) ∧ wA.heap.size ≤ g ∧ Rdr w' g ⟨l, false⟩ ∧ Below wA.heap.size wA w') := hid (by
    have := packRead_any w.heap.size A00 c0 l (by omega) wA (h.below hbA) (by omega) hn
    rw [hn0] at this
    exact this)
  have HL : Hid (l.length ≤ 10000000) := hid (by omega)
  have HW := hid (And.intro hbA (And.intro hzA hsA))
  clear h hn hn0 hbA hzA hl hsA
  go_enter Tryz.func94, Tryz.ntmps94
  go_wp2_with fail
  rw [← hwA]
  clear hwA
  refine HP.out.mono ?_
  rintro e w1 ⟨g, rfl, hg, hr1, hb1⟩
  obtain ⟨w2, hw2⟩ : ∃ w2, w2 = w1.alloc (.cells #[.pointer (some ⟨g, 0, none⟩)] 130) := ⟨_, rfl⟩
  have hb2 : Below w1.heap.size w1 w2 := by rw [hw2]; exact (Below.refl _ w1).alloc (Nat.le_refl _) _
  obtain ⟨G, hG⟩ : ∃ G, G = w1.heap.size := ⟨_, rfl⟩
  obtain ⟨n, hnn⟩ : ∃ n, n = wA.heap.size := ⟨_, rfl⟩
  have hrt := rt_new (w := w) hr1 n (by omega) w2 hw2
  rw [← hG] at hrt
  have HRD := hid (@rconf_any ⟨n⟩ G g ⟨l, false⟩ (by have := HL.out; show l.length ≤ _; omega) w2 hrt)
  have HR := hid (And.intro hb1 (And.intro hb2 (And.intro hG (And.intro hnn (And.intro hrt (And.intro hg hr1.lt))))))
  clear hr1 hb1 hb2 hrt hg hnn
  go_wp2_with fail
  rw [← hw2, ← hG]
  clear hw2 hG
  refine HRD.out.mono ?_
  rintro e w3 ⟨A1, c1, A2, c2, A3, c3, n1, n2, n3, rfl, hnl, hrt3, hkq, m1, m2, hm, o1, o2, o3, b1, b2⟩
  obtain ⟨s2, hs2⟩ : ∃ s2, s2 = (rdCf ⟨l, false⟩).2 := ⟨_, rfl⟩
  obtain ⟨hkq3, _⟩ := hkq
  obtain ⟨g', hg'⟩ : ∃ g', g' = g := ⟨_, rfl⟩
  rw [← hg'] at hrt3
  rw [← hs2] at hrt3
  obtain ⟨w4, hw4⟩ : ∃ w4, w4 = w3.alloc (.cells #[.slice A1 n1 c1, .slice A2 n2 c2, .slice A3 n3 c3] 24) := ⟨_, rfl⟩
  have hb4 : Below w3.heap.size w3 w4 := by rw [hw4]; exact (Below.refl _ w3).alloc (Nat.le_refl _) _
  have hro4 : w4.heap[w3.heap.size]? = some (.cells #[.slice A1 n1 c1, .slice A2 n2 c2, .slice A3 n3 c3] 24 (0, 0)) := by rw [hw4]; exact heap_alloc_new w3 _
  have hst4 := stNew w3 24 3 info_conf33 #[.slice none 0 0, .slice none 0 0, .slice none 0 0] #[.slice A1 n1 c1, .slice A2 n2 c2, .slice A3 n3 c3] rfl rfl (by simp [Value.oneCell'])
  rw [← hw4] at hst4
  have hrt4 := @Rt.below ⟨n⟩ _ _ _ _ _ hrt3 hb4
  have hcl4 := @Rt.cell ⟨n⟩ _ _ _ _ hrt4
  have HEND := hid (end_rdr g' s2 w4 (@rt_rdr ⟨n⟩ _ _ _ _ hrt4))
  have hz4 : w4.heap[w.heap.size]? = some (.cells #[.slice none 0 0, .slice none 0 0, .slice none 0 0] 24 (0, 0)) := by
    have z1 := HW.out.2.1
    have z0 := HW.out.2.2
    have zb1 := HR.out.1.size
    have zb2 := HR.out.2.1.size
    have zn := HR.out.2.2.2.1
    have z2 := (HR.out.2.1.block w.heap.size (by omega)).trans ((HR.out.1.block w.heap.size (by omega)).trans z1)
    have z3 : w3.heap[w.heap.size]? = w2.heap[w.heap.size]? := @Kq.low ⟨n⟩ _ _ _ hkq3 w.heap.size (by show w.heap.size < n; omega) (row_lt z2)
    have z4 := row_lt (z3.trans z2)
    exact (hb4.block _ z4).trans (z3.trans z2)
  have hlow : Below w.heap.size w w4 := by
    have z0 := HW.out.2.2
    have zb1 := HR.out.1.size
    have zb2 := HR.out.2.1.size
    have zn := HR.out.2.2.2.1
    have zk := @Kq.size ⟨n⟩ _ _ _ hkq3
    have zb4 := hb4.size
    refine ⟨?_, ?_, ?_, by omega, fun k hk => ?_⟩
    · exact hb4.os.trans ((@kq_same ⟨n⟩ _ _ _ hkq3).1.trans (HR.out.2.1.os.trans (HR.out.1.os.trans HW.out.1.os)))
    · exact hb4.tape.trans ((@kq_same ⟨n⟩ _ _ _ hkq3).2.1.trans (HR.out.2.1.tape.trans (HR.out.1.tape.trans HW.out.1.tape)))
    · exact hb4.output.trans ((@kq_same ⟨n⟩ _ _ _ hkq3).2.2.trans (HR.out.2.1.output.trans (HR.out.1.output.trans HW.out.1.output)))
    · have q1 := HW.out.1.block k hk
      have q2 := HR.out.1.block k (by omega)
      have q3 := HR.out.2.1.block k (by omega)
      have q4 := @Kq.low ⟨n⟩ _ _ _ hkq3 k (by show k < n; omega) (by omega)
      have q5 := hb4.block k (by omega)
      exact q5.trans (q4.trans (q3.trans (q2.trans q1)))
  have hsz2 : w.heap.size < w2.heap.size := by
    have z0 := HW.out.2.2
    have zb1 := HR.out.1.size
    have zb2 := HR.out.2.1.size
    omega
  have H4 := hid (And.intro hz4 (And.intro hlow (And.intro hro4 (And.intro hb4 (And.intro hsz2 (@Kq.size ⟨n⟩ _ _ _ hkq3))))))
  have H5 := hid (And.intro hnl (And.intro hm (And.intro o1 (And.intro o2 (And.intro o3 (And.intro b1 b2))))))
  obtain ⟨ee, hee⟩ : ∃ ee, ee = endOf s2 := ⟨_, rfl⟩
  have hein : 0 ≤ ee ∧ ee ≤ 4 := by rw [hee, fin_end]; exact fin_in _
  have HES := hid (And.intro hee hs2)
  rw [← hee] at HEND
  clear hrt3 hkq3 hb4 hro4 hrt4 hz4 hlow hee hs2 hw4 hsz2 hnl hm o1 o2 o3 b1 b2 hg'
  by_cases he : ee = 0
  · subst he
    have HV : Hid (fin (rdCf ⟨l, false⟩).2 = 0) := hid (by rw [← HES.out.2, ← fin_end]; exact HES.out.1.symm)
    have hld4 := ldRow info_conf33 Tryz.underlying24 rfl H4.out.2.2.1 rfl
    have hst5 := stRow info_conf33 (cs' := #[.slice A1 n1 c1, .slice A2 n2 c2, .slice A3 n3 c3]) H4.out.1 rfl rfl (by simp [Value.oneCell'])
    obtain ⟨w5, hw5⟩ : ∃ w5, w5 = w4.setRow w.heap.size #[.slice A1 n1 c1, .slice A2 n2 c2, .slice A3 n3 c3] := ⟨_, rfl⟩
    have hro5 : w5.heap[w.heap.size]? = some (.cells #[.slice A1 n1 c1, .slice A2 n2 c2, .slice A3 n3 c3] 24 (0, 0)) := by rw [hw5]; exact setRow_heap _ _ _ _ _ _ H4.out.1
    have ht5 : Turned (fun k => k = w.heap.size) w4 w5 := by rw [hw5]; exact row_turned _ _ _
    rw [← hw5] at hst5
    have H6 := hid (And.intro hro5 ht5)
    clear hro5 ht5 hw5 hein
    go_wp2_with fail
    refine HEND.out.mono ?_
    rintro e w6 ⟨rfl, rfl⟩
    go_wp2_with fail
    refine bodyPost_ret (results_two rfl info_conf33 Tryz.underlying24 rfl _ _ w.heap.size _ _ _ rfl H6.out.1 rfl) rfl ?_
    have hbw : Below w.heap.size w w5 := H4.out.2.1.trans (H6.out.2.below H4.out.2.1.size (fun k hk => by omega))
    have hg := fin_gone HV.out
    rw [whole_yes HV.out]
    refine ⟨⟨none, 0, A1, c1, A2, c2, A3, c3, none, 0⟩, n1, n2, n3, rfl, ⟨_, H5.out.1, ?_, rfl⟩, hbw⟩
    obtain ⟨q0, q1, q2, q3, q4, q5, q6⟩ := H5.out
    have z1 := H4.out.2.2.2.2.1
    have z2 := H4.out.2.2.2.2.2
    have z4 := H4.out.2.2.2.1.size
    have z5 := H6.out.2.size
    have o1' := (OwnsI.below_ q2 H4.out.2.2.2.1)
    have o2' := (OwnsI.below_ q3 H4.out.2.2.2.1)
    have o3' := (OwnsI.below_ q4 H4.out.2.2.2.1)
    exact ⟨m1, m2, ⟨by omega, q1.2.1, by omega⟩, ⟨(ownsI_turned o1' H6.out.2 (fun k hk e => by have := (o1'.blkLt k hk).1; omega)).weaken (by omega), q5⟩, ⟨ownsI_turned o2' H6.out.2 (fun k hk e => by have := (o2'.blkLt k hk).1; omega), q6⟩, ownsI_turned o3' H6.out.2 (fun k hk e => by have := (o3'.blkLt k hk).1; omega)⟩
  · have HV : Hid (fin (rdCf ⟨l, false⟩).2 ≠ 0 ∧ ee = fin (rdCf ⟨l, false⟩).2) := hid (by rw [← HES.out.2, ← fin_end, ← HES.out.1]; exact ⟨he, rfl⟩)
    obtain ⟨w5, hw5⟩ : ∃ w5, w5 = w4.alloc (.cells #[.slice none 0 0, .slice none 0 0, .slice none 0 0] 24) := ⟨_, rfl⟩
    have hb5 : Below w4.heap.size w4 w5 := by rw [hw5]; exact (Below.refl _ w4).alloc (Nat.le_refl _) _
    have hro5 : w5.heap[w4.heap.size]? = some (.cells #[.slice none 0 0, .slice none 0 0, .slice none 0 0] 24 (0, 0)) := by rw [hw5]; exact heap_alloc_new w4 _
    have hld5 := ldRow info_conf33 Tryz.underlying24 rfl hro5 rfl
    have hz5 := (hb5.block _ (row_lt H4.out.1)).trans H4.out.1
    have hst5 := stSame info_conf33 hz5 rfl (by simp [Value.oneCell'])
    have H6 := hid (And.intro hz5 (H4.out.2.1.trans (hb5.mono H4.out.2.1.size)))
    clear hro5 hb5 hz5
    subst hw5
    go_wp2_with fail
    refine HEND.out.mono ?_
    rintro e w6 ⟨rfl, rfl⟩
    go_wp2_with fail
    refine bodyPost_ret (results_two rfl info_conf33 Tryz.underlying24 rfl _ _ w.heap.size _ _ _ rfl H6.out.1 rfl) rfl ?_
    rw [whole_no HV.out.1]
    have he2 := HV.out.2
    exact ⟨A0, 0, 0, 0, by rw [he2]; rfl, ⟨⟨[], [], []⟩, ⟨rfl, rfl, rfl⟩, OwnCf.nil _ H6.out.2.size, rfl⟩, H6.out.2⟩
end Go.Proofs.YtfkjahpcpmcefaaGreat.Im
namespace Go.Proofs.YtfkjahpcpmcefaaGreat.Im
open Go.RowKit
open Rl (En Lg)
open Qu (Cf)
set_option maxRecDepth 100000
set_option linter.unusedVariables false
end Go.Proofs.YtfkjahpcpmcefaaGreat.Im
namespace Go.Proofs.YtfkjahpcpmcefaaGreat.Im
open Go.RowKit
open Rl (En Lg)
open Qu (Cf)
set_option maxRecDepth 100000
set_option linter.unusedVariables false
def orI : List Int → Int
  | [] => 0
  | x :: r => if x = 0 then orI r else x
theorem orI_next (L : List Int) (k : Nat) (h : k < L.length) : orI (L.drop k) = if L[k] = 0 then orI (L.drop (k + 1)) else L[k] := by
  rw [List.drop_eq_getElem_cons h]; rfl
end Go.Proofs.YtfkjahpcpmcefaaGreat.Im
namespace Go.Proofs.YtfkjahpcpmcefaaGreat.Im
open Go.RowKit
open Rl (En Lg)
open Qu (Cf)
set_option maxRecDepth 100000
set_option linter.unusedVariables false
attribute [local go_sem ↓] loadAt_hard storeAt_hard
end Go.Proofs.YtfkjahpcpmcefaaGreat.Im
namespace Go.Proofs.YtfkjahpcpmcefaaGreat.Im
open Go.RowKit
open Rl (En Lg)
open Qu (Cf)
set_option maxRecDepth 100000
set_option linter.unusedVariables false
attribute [local go_sem ↓] loadAt_hard storeAt_hard
end Go.Proofs.YtfkjahpcpmcefaaGreat.Im
namespace Go.Proofs.YtfkjahpcpmcefaaGreat.Im
open Go.RowKit
open Rl (En Lg)
open Qu (Cf)
set_option maxRecDepth 100000
set_option linter.unusedVariables false
attribute [local go_sem ↓] loadAt_conf3 storeAt_conf3
theorem whole_in {α : Type} (one : Pk.St → α × Pk.St) (no : α) (b : List Nat) : 0 ≤ (whole one no b).2 ∧ (whole one no b).2 ≤ 4 := by
  unfold whole
  split
  · exact fin_in _
  · exact ⟨Int.le_refl _, by show (0 : Int) ≤ 4; omega⟩
theorem OwnCf.cis {w : World} {B N : Nat} {c : Cf} {a : Ad} (h : OwnCf w B N c a) : CIs w w.heap.size c a.o a.n a.l a.co a.cn a.cl := by
  obtain ⟨m1, m2, _, ⟨h1, _⟩, ⟨h2, _⟩, h3⟩ := h
  have r1 := ownsI_room h1
  have r2 := ownsI_room h2
  have r3 := ownsI_room h3
  exact ⟨h1.reads, h2.reads, h3.reads, r1.2, r2.2, r3.2, r1.1, r2.1, r3.1⟩
theorem OwnCf.below {w w' : World} {B N : Nat} {c : Cf} {a : Ad} (h : OwnCf w B N c a) (hb : Below w.heap.size w w') : OwnCf w' B N c a := by
  obtain ⟨m1, m2, hm, ⟨h1, b1⟩, ⟨h2, b2⟩, h3⟩ := h
  exact ⟨m1, m2, hm, ⟨OwnsI.below_ h1 hb, b1⟩, ⟨OwnsI.below_ h2 hb, b2⟩, OwnsI.below_ h3 hb⟩
theorem OwnCf.wide {w : World} {B B' N N' : Nat} {c : Cf} {a : Ad} (h : OwnCf w B N c a) (hB : B' ≤ B) (hN : N ≤ N') : OwnCf w B' N' c a := by
  obtain ⟨m1, m2, hm, ⟨h1, b1⟩, h2, h3⟩ := h
  exact ⟨m1, m2, ⟨by omega, hm.2.1, by omega⟩, ⟨h1.weaken hB, b1⟩, h2, h3⟩
theorem OwnCf.keep {S : Nat → Prop} {w w' : World} {B N : Nat} {c : Cf} {a : Ad} (h : OwnCf w B N c a) (ht : Turned S w w') (hs : ∀ k, S k → k < B) : OwnCf w' B N c a := by
  obtain ⟨m1, m2, hm, ⟨h1, b1⟩, ⟨h2, b2⟩, h3⟩ := h
  exact ⟨m1, m2, hm, ⟨ownsI_turned h1 ht (fun k hk e => by have := (h1.blkLt k hk).1; have := hs k e; omega), b1⟩, ⟨ownsI_turned h2 ht (fun k hk e => by have := (h2.blkLt k hk).1; have := hs k e; omega), b2⟩, ownsI_turned h3 ht (fun k hk e => by have := (h3.blkLt k hk).1; have := hs k e; omega)⟩
theorem rdCf_lens (b : List Nat) (hb : ∀ x ∈ b, x < 256) (hl : b.length ≤ 100000) : Short (whole rdCf ⟨[], [], []⟩ b).1 := by
  have h1 : ∀ s : Pk.St, s.rest.length ≤ 100000 → (Pk.rdInts s).1.length ≤ 20000 := fun s hs => by have := (Pk.rdInts_short s).2; omega
  have h2 : ∀ s : Pk.St, s.rest.length ≤ 100000 → (Pk.rdInts s).2.rest.length ≤ 100000 := fun s hs => by have := (Pk.rdInts_short s).1; omega
  unfold whole
  split
  · exact ⟨Nat.zero_le _, Nat.zero_le _, Nat.zero_le _⟩
  · show Short (rdCf ⟨b, false⟩).1
    rw [(rdCf_eq _).1]
    exact ⟨h1 _ hl, h1 _ (h2 _ hl), h1 _ (h2 _ (h2 _ hl))⟩
theorem getCf_bad {b : List Nat} (h : (whole rdCf ⟨[], [], []⟩ b).2 ≠ 0) : getCf b = (⟨[], [], []⟩, (whole rdCf ⟨[], [], []⟩ b).2) := if_pos h
theorem getCf_err {b : List Nat} (h0 : (whole rdCf ⟨[], [], []⟩ b).2 = 0) (h : Qu.err (whole rdCf ⟨[], [], []⟩ b).1 ≠ 0) : getCf b = (⟨[], [], []⟩, Qu.err (whole rdCf ⟨[], [], []⟩ b).1) := by
  unfold getCf; rw [if_neg (fun e => e h0), if_pos h]
theorem getCf_yes {b : List Nat} (h0 : (whole rdCf ⟨[], [], []⟩ b).2 = 0) (h : Qu.err (whole rdCf ⟨[], [], []⟩ b).1 = 0) : getCf b = ((whole rdCf ⟨[], [], []⟩ b).1, 0) := by
  unfold getCf; rw [if_neg (fun e => e h0), if_neg (fun e => e h)]
set_option maxHeartbeats 3200000 in
theorem getCf_any (l : List Nat) (A00 : Option Addr) (c0 n0 : Nat) (hn0 : l.length = n0) (w : World) (h : IsBytes w w.heap.size A00 l) (hn : A00 = none → c0 = 0) (hl : n0 ≤ 100000) :
    Calls Tryz.prog 81 #[.slice A00 n0 c0] w fun e w' => ∃ (a : Ad) (n1 n2 n3 : Nat), e = .returned (.tuple #[.agg #[.slice a.o n1 a.co, .slice a.n n2 a.cn, .slice a.l n3 a.cl], .int .i64 ((getCf l).2)]) ∧ (∃ p : Cf, (n1 = p.old.length ∧ n2 = p.new.length ∧ n3 = p.lrn.length) ∧ OwnCf w' w.heap.size w'.heap.size p a ∧ p = (getCf l).1) ∧ Below w.heap.size w w' := by
  obtain ⟨wA, hwA⟩ : ∃ wA, wA = w.alloc (.cells #[.slice none 0 0, .slice none 0 0, .slice none 0 0] 24) := ⟨_, rfl⟩
  have hsA : wA.heap.size = w.heap.size + 1 := by rw [hwA]; simp
  have hbA : Below w.heap.size w wA := by rw [hwA]; exact (Below.refl _ w).alloc (Nat.le_refl _) _
  have hzA : wA.heap[w.heap.size]? = some (.cells #[.slice none 0 0, .slice none 0 0, .slice none 0 0] 24 (0, 0)) := by rw [hwA]; exact heap_alloc_new w _
  have HWH := hid (wholeCf_any l A00 c0 n0 hn0 wA ((h.below hbA).more (by omega)) hn (by omega))
  have hlens := rdCf_lens l h.small (by omega)
  obtain ⟨x, ee, hx⟩ : ∃ x ee, whole rdCf ⟨[], [], []⟩ l = (x, ee) := ⟨_, _, rfl⟩
  have hein := whole_in rdCf ⟨[], [], []⟩ l
  rw [hx] at HWH hein hlens
  have HLN : Hid (Short x) := hid hlens
  have hein1 : 0 ≤ ee := hein.1
  have hein2 : ee ≤ 4 := hein.2
  have HX := hid hx
  have HW := hid (And.intro hbA (And.intro hzA hsA))
  clear h hn hn0 hbA hzA hl hsA hx hein hlens
  go_enter Tryz.func81, Tryz.ntmps81
  go_wp2_with fail
  rw [← hwA]
  clear hwA
  refine HWH.out.mono ?_
  rintro e w1 ⟨a, n1, n2, n3, rfl, ⟨p, hnl, hown, hval⟩, hb1⟩
  obtain rfl : p = x := hval
  obtain ⟨w2, hw2⟩ : ∃ w2, w2 = w1.alloc (.cells #[.slice a.o n1 a.co, .slice a.n n2 a.cn, .slice a.l n3 a.cl] 24) := ⟨_, rfl⟩
  have hb2 : Below w1.heap.size w1 w2 := by rw [hw2]; exact (Below.refl _ w1).alloc (Nat.le_refl _) _
  have hro2 : w2.heap[w1.heap.size]? = some (.cells #[.slice a.o n1 a.co, .slice a.n n2 a.cn, .slice a.l n3 a.cl] 24 (0, 0)) := by rw [hw2]; exact heap_alloc_new w1 _
  have hst2 := stNew w1 24 3 info_conf33 #[.slice none 0 0, .slice none 0 0, .slice none 0 0] #[.slice a.o n1 a.co, .slice a.n n2 a.cn, .slice a.l n3 a.cl] rfl rfl (by simp [Value.oneCell'])
  rw [← hw2] at hst2
  have hz2 : w2.heap[w.heap.size]? = some (.cells #[.slice none 0 0, .slice none 0 0, .slice none 0 0] 24 (0, 0)) := by
    have z0 := HW.out.2.2
    have zb := hb1.size
    exact (hb2.block _ (by omega)).trans ((hb1.block _ (by omega)).trans HW.out.2.1)
  have hlow2 : Below w.heap.size w w2 := HW.out.1.trans ((hb1.mono (by have := HW.out.2.2; omega)).trans (hb2.mono (by have := HW.out.2.2; have := hb1.size; omega)))
  have own2 : OwnCf w2 wA.heap.size w2.heap.size p a := (hown.below hb2).wide (Nat.le_refl _) hb2.size
  have hrd := own2.cis
  have hb0 : w.heap.size < w1.heap.size := by have z0 := HW.out.2.2; have zb := hb1.size; omega
  have H2 := hid (And.intro hz2 (And.intro hro2 (And.intro hlow2 (And.intro own2 (And.intro hnl (And.intro hrd hb0))))))
  have hld2 := ldRow info_conf33 Tryz.underlying24 rfl hro2 rfl
  clear hown hb1 hb2 hro2 hz2 hlow2 own2 hrd hw2
  show _
  simp only []
  by_cases he : ee = 0
  · subst he
    obtain ⟨f, hf⟩ : ∃ f, f = Qu.err p := ⟨_, rfl⟩
    have HCK : Hid (Calls Tryz.prog 23 #[.agg #[.slice a.o n1 a.co, .slice a.n n2 a.cn, .slice a.l n3 a.cl]] w2 fun e w' => e = .returned (.int .i64 f) ∧ Below w2.heap.size w2 w') := hid (by
      rw [hf, hnl.1, hnl.2.1, hnl.2.2]
      exact check_any w2.heap.size p HLN.out a.o a.n a.l a.co a.cn a.cl w2 H2.out.2.2.2.2.2.1 (Nat.le_refl _))
    have HF := hid hf
    have hfi : f = 0 ∨ f = 29 := by rw [hf]; unfold Qu.err; split <;> simp
    have HNL := hid hnl
    clear hf hnl hein1 hein2
    by_cases hf0 : f = 0
    · subst hf0
      have HG : Hid (getCf l = (p, 0)) := hid (by rw [getCf_yes (by rw [HX.out]) (by rw [HX.out]; exact HF.out.symm), HX.out])
      clear hfi
      go_wp2_with fail
      refine HCK.out.mono ?_
      rintro e w4 ⟨rfl, hb4⟩
      have hz4 := (hb4.block _ (row_lt H2.out.1)).trans H2.out.1
      have hx4 := (hb4.block _ (row_lt H2.out.2.1)).trans H2.out.2.1
      have hlow4 := H2.out.2.2.1.trans (hb4.mono H2.out.2.2.1.size)
      have hld4 := ldRow info_conf33 Tryz.underlying24 rfl hx4 rfl
      have hst4 := stRow info_conf33 (cs' := #[.slice a.o n1 a.co, .slice a.n n2 a.cn, .slice a.l n3 a.cl]) hz4 rfl rfl (by simp [Value.oneCell'])
      have hro5 := setRow_heap w4 w.heap.size _ #[.slice a.o n1 a.co, .slice a.n n2 a.cn, .slice a.l n3 a.cl] _ _ hz4
      have ht5 := row_turned w4 w.heap.size #[.slice a.o n1 a.co, .slice a.n n2 a.cn, .slice a.l n3 a.cl]
      generalize w4.setRow w.heap.size #[.slice a.o n1 a.co, .slice a.n n2 a.cn, .slice a.l n3 a.cl] = w5 at hst4 hro5 ht5
      have H5 := hid (And.intro hro5 (And.intro ht5 (And.intro hlow4 hb4)))
      clear hb4 hz4 hx4 hlow4 hro5 ht5
      go_wp2_with fail
      refine bodyPost_ret (results_two rfl info_conf33 Tryz.underlying24 rfl _ _ w.heap.size _ _ _ rfl H5.out.1 rfl) rfl ?_
      rw [HG.out]
      have hbw : Below w.heap.size w w5 := H5.out.2.2.1.trans (H5.out.2.1.below H5.out.2.2.1.size (fun k hk => by omega))
      refine ⟨a, n1, n2, n3, rfl, ⟨p, HNL.out, ?_, rfl⟩, hbw⟩
      have z0 := HW.out.2.2
      have z4 := H5.out.2.2.2.size
      exact ((H2.out.2.2.2.1.below H5.out.2.2.2).keep H5.out.2.1 (fun k hk => by omega)).wide (by omega) (by have := H5.out.2.1.size; omega)
    · obtain rfl : f = 29 := hfi.resolve_left hf0
      have HG : Hid (getCf l = (⟨[], [], []⟩, 29)) := hid (by rw [getCf_err (by rw [HX.out]) (by rw [HX.out, ← HF.out]; decide), HX.out, ← HF.out])
      clear hfi hf0
      go_wp2_with fail
      refine HCK.out.mono ?_
      rintro e w4 ⟨rfl, hb4⟩
      have hz4 := (hb4.block _ (row_lt H2.out.1)).trans H2.out.1
      have hlow4 := H2.out.2.2.1.trans (hb4.mono H2.out.2.2.1.size)
      have hst4 := stSame info_conf33 hz4 rfl (by simp [Value.oneCell'])
      have H5 := hid (And.intro hz4 hlow4)
      clear hb4 hz4 hlow4
      go_wp2_with fail
      refine bodyPost_ret (results_two rfl info_conf33 Tryz.underlying24 rfl _ _ w.heap.size _ _ _ rfl H5.out.1 rfl) rfl ?_
      rw [HG.out]
      exact ⟨A0, 0, 0, 0, rfl, ⟨⟨[], [], []⟩, ⟨rfl, rfl, rfl⟩, OwnCf.nil _ H5.out.2.size, rfl⟩, H5.out.2⟩
  · have HG : Hid (getCf l = (⟨[], [], []⟩, ee)) := hid (by rw [getCf_bad (by rw [HX.out]; exact he), HX.out])
    have hst3 := stSame info_conf33 H2.out.1 rfl (by simp [Value.oneCell'])
    clear hnl
    go_wp2_with fail
    refine bodyPost_ret (results_two rfl info_conf33 Tryz.underlying24 rfl _ _ w.heap.size _ _ _ rfl H2.out.1 rfl) rfl ?_
    rw [HG.out]
    exact ⟨A0, 0, 0, 0, rfl, ⟨⟨[], [], []⟩, ⟨rfl, rfl, rfl⟩, OwnCf.nil _ H2.out.2.2.1.size, rfl⟩, H2.out.2.2.1⟩
end Go.Proofs.YtfkjahpcpmcefaaGreat.Im
