/- Texts of the proof, one behind the other: Both08D, Loads08, KitIntN, Spoil. -/
import Derived.Test.YtdgijnolpjaheaaGreatPartAW
import Derived.Deep.RegionHeld3
import Derived.StillTailTactics
import Derived.Test.YtdgijnolpjaheaaGreatPartAM
import Derived.Test.YtdgijnolpjaheaaGreatPartAU
import Derived.Test.YtdgijnolpjaheaaGreatPartAP
import Derived.Test.YtdgijnolpjaheaaGreatRows
import Derived.Test.YtdgijnolpjaheaaGreatPartAB
namespace Go.Proofs.YtdgijnolpjaheaaGreat
open Go.RowKit
set_option maxRecDepth 100000 in
set_option maxHeartbeats 3200000 in
theorem both_done (Z : Nat → Prop) (d : Dk) (g : Nat) (s : Sx.St) (x : Sx.Xs) (ap : Option Addr) (cp : Nat) (l : List Nat) (f n : Nat) (e : Int) (hr : Ck.Right s.n f n) (he : Ck.Epoch e) (hft : Jo.secs l.length ≤ n) (_ : Ck.save false s (Ck.slot f n e) e l = Ck.save false s (Ck.slot f n e) e l) (hc : l.length ≤ cp) (hcm : cp ≤ maxLen) (hz : ap = none → cp = 0) (hl : l.length ≤ 4096) (v5 : Value) (B0 : Nat) (w : World) (h : DX w Z d g s x) (hB : ∀ k, own2 d g k → B0 ≤ k) (hB0 : B0 ≤ w.heap.size) (hp : IsBytes w B0 ap l) :
    Calls Tryz.prog 12 #[.pointer (some ⟨d.g, 0, none⟩), .pointer (some ⟨g, 0, none⟩), .agg #[.int .i64 0, .int .i64 (f : Int), .int .i64 (n : Int), .int .i64 e, .slice ap l.length cp, v5]] w (BothTo w Z d g (Ck.save false s (Ck.slot f n e) e l).2) := by
  obtain ⟨w1, hw1⟩ : ∃ w1, w1 = w.alloc (.cells #[.int .i64 0, .int .i64 (f : Int), .int .i64 (n : Int), .int .i64 e, .slice ap l.length cp, v5] 25) := ⟨_, rfl⟩
  have hb1 : Below w.heap.size w w1 := by rw [hw1]; exact (Below.refl _ w).alloc (Nat.le_refl _) _
  have ht1 : Turned (own2 d g) w w1 := Turned.ofBelow _ hb1
  have h1 : DX w1 Z d g s x := h.below hb1
  have hlt := own2_lt h
  have HI := hid (fun w2 (ht : Turned (own2 d g) w1 w2) => (low_bytes hp hB hB0 (ht1.trans ht)))
  have HL := hid (lent_any w1.heap.size ap cp l (by omega) w1 ((HI.out w1 (Turned.refl _ _)).more (Nat.le_trans hB0 hb1.size)) (Nat.le_refl _))
  have H := hid (And.intro h1 (And.intro ht1 (And.intro h.rel (And.intro hB (And.intro hB0 (Nat.le_trans hB0 hb1.size))))))
  have HC := hid (And.intro hc (And.intro hcm hz))
  have HFR : Hid (Ck.Right x.n f n) := hid (by rw [← h.rel.n]; exact hr)
  have HOP := hid (fun w2 ht k => op_cell (w2 := w2) hlt hw1 ht k)
  have HLT : Hid (∀ k, own2 d g k → k < w1.heap.size) := hid (own2_lt h1)
  have HW1 := hid hw1
  rw [hw1] at HL H HOP HI HLT
  clear h h1 ht1 hb1 hlt hw1 hp hB hz hc hcm
  go_enter Tryz.func12, Tryz.ntmps12
  go_wp2_with fail
  refine HL.out.mono ?_
  rintro e0 w2 ⟨gb, c2, rfl, ho2, hb2⟩
  have hgb := ho2.blkLt gb rfl
  have hcap := ho2.cap
  rw [lent_length] at hcap
  have HCL := hid ho2.capLe
  have hDX := H.out.1.shunB hb2 gb hgb.1 hgb.2
  have hO : OwnsZ w2 (own2 d g) (some ⟨gb, 0, none⟩) c2 (lent l) := ⟨ho2.weaken (Nat.zero_le _), fun k hk e => by
    injection hk with hk
    have hk' : gb = k := hk
    subst hk'
    have := HLT.out gb e
    omega⟩
  have ht2 : Turned (own2 d g) _ w2.drew := (Turned.ofBelow (own2 d g) hb2).drew
  have q1 := HOP.out w2.drew ht2 1
  have q2 := HOP.out w2.drew ht2 2
  have q3 := HOP.out w2.drew ht2 3
  have q4 := HOP.out w2.drew ht2 4
  have hby : IsBytes w2.drew w2.drew.heap.size (some ⟨gb, 0, none⟩) l := by
    have h1 := (hO.keep (w' := w2.drew) (Turned.refl _ w2).drew).reads.take l.length
    rwa [take_lent] at h1
  have HW := hid (C.save_any _ d s f n e hr he (some ⟨gb, 0, none⟩) c2 l l.length rfl (by omega) HCL.out (fun h => by cases h) hft w2.drew hDX.drew.zd hDX.drew.da hby)
  have H2 := hid (And.intro hDX.drew (And.intro (hO.keep (w' := w2.drew) (Turned.refl _ w2).drew) ht2))
  have HGB : Hid (w.heap.size ≤ gb) := hid (by have h1 := hgb.1; rw [World.size_alloc] at h1; omega)
  clear hDX hO ht2 ho2 hb2 hgb HL HLT hby
  have hln : l.length ≤ c2 := by omega
  have hln0 : (0 : Int) ≤ (l.length : Int) := by omega
  have hln1 : (l.length : Int) ≤ ((l.length + 5 : Nat) : Int) := by omega
  have hln2 : (l.length : Int) ≤ (c2 : Int) := by omega
  have HCP := hid hcap
  go_wp2_with fail
  go_still_tail 12, (by kernel_rfl)
  go_wp2_with fail
  refine HW.out.mono ?_
  intro e3 w3 S3; have hret := S3.ret; subst hret; have H3 := hid (And.intro S3.disk S3.turned)
  all_goals
    (clear hln0 hln1 hln2
     have HT3 := hid (H2.out.2.2.trans (H3.out.2.mono (fun _ h => .inl h)))
     have r1 := HOP.out w3 HT3.out 1
     have r2 := HOP.out w3 HT3.out 2
     have r3 := HOP.out w3 HT3.out 3
     have r4 := HOP.out w3 HT3.out 4
     clear q1 q2 q3 q4
     go_wp2_with fail
     refine (C.refSave_any _ g s x H.out.2.2.1 f n e HFR.out he B0 ap cp l l.length rfl HC.out.1 HC.out.2.1 HC.out.2.2 hft (by omega) w3 (H.out.2.2.2.1 g (.inr rfl)) (fun k hk => Nat.lt_of_lt_of_le (H2.out.1.zx k hk) H3.out.2.size) (H2.out.1.xafter H3.out.2) (HI.out w3 HT3.out)).mono ?_
     rintro e4 w4 ⟨x4, rfl, h4⟩
     have HT4 := hid (HT3.out.trans (h4.out.2.2.mono (fun _ h => .inr h)))
     have hS4 := H2.out.1.step H3.out.1 H3.out.2 h4.out.1 h4.out.2.2 h4.out.2.1
     have HS4 := hid hS4.1
     have HO4 := H2.out.2.1.keep hS4.2
     have hEE : ((Ck.save false s (Ck.slot f n e) e l).1 != (Ck.save false s (Ck.slot f n e) e l).1) = false := by simp
     clear hS4 h4
     have p4 := HOP.out w4 HT4.out 4
     have hO4 := HO4
     have HK := hid (kept_any _ _ gb ap c2 cp l (by omega) (by omega) w4 hO4.reads (HI.out w4 HT4.out))
     have H4 := hid (And.intro HS4.out (And.intro hO4 HT4.out))
     clear r1 r2 r3 r4 HW HOP hO4 HO4
     go_wp2_with fail
     refine HK.out.mono ?_
     rintro e5 w5 ⟨rfl, n5, rfl⟩
     have HS := hid (spoil_N 0 (some ⟨gb, 0, none⟩) c2 (lent l) (l.length + 5) (lent_length l) (by unfold maxLen; omega) (w4.drewN n5) (H4.out.2.1.own.drewN n5))
     clear HK
     go_wp2_with fail
     refine HS.out.mono ?_
     rintro e6 w6 ⟨rfl, hg6⟩
     have ht6 : Turned (fun k => Z k ∨ k = gb) (w4.drewN n5) w6 := Turned.ofGrown hg6 (fun k hk => by injection hk with hk; exact .inr hk.symm)
     have ht6' : Turned (fun k => k = gb) (w4.drewN n5) w6 := Turned.ofGrown hg6 (fun k hk => by injection hk with hk; exact hk.symm)
     have HF := hid (And.intro (((H4.out.1.drewN n5).keep ht6).mono (fun _ h => .inl h)) (((H.out.2.1.trans H4.out.2.2).drewN n5).then_ ht6' (fun k hk e => by subst e; have := HGB.out; omega)))
     clear hg6 ht6 ht6' HS
     go_wp2
     go_ret
     exact ⟨rfl, _, HF.out.1, HF.out.2⟩)
end Go.Proofs.YtdgijnolpjaheaaGreat
namespace Go.Proofs.YtdgijnolpjaheaaGreat
open Go.RowKit

namespace Ck
/-- what is loaded from a place, right or not -/
def lds (s : Sx.St) (f n : Int) : List Nat × Int × Int := if Right s.n f n then loaded (load (Jo.rdOf s) f.toNat n.toNat) else ([], 0, 3)
end Ck
theorem Sx.Rel.reads {s : Sx.St} {x : Sx.Xs} (h : Sx.Rel s x) (hl : ∀ i, (Sx.rdB s i).length ≤ 64) : ReadsAs x s := fun i => by
  obtain ⟨e1, e2⟩ := Sx.rel_read h i
  exact ⟨by rw [e1, e2], hl i⟩
namespace C
theorem load_all (Z : Nat → Prop) (d : Dk) (s : Sx.St) (f n : Int) (hf : InInt f) (w : World) (h : DiskAt w Z d s) (y : List Nat × Int × Int) (hy : Ck.lds s f n = y) :
    Calls Tryz.prog 21 #[.pointer (some ⟨d.g, 0, none⟩), .int .i64 f, .int .i64 n] w fun e' w' => ∃ A c, e' = .returned (.tuple #[.slice A y.1.length c, .int .i64 y.2.1, .int .i64 y.2.2]) ∧
      Hid (OwnsB 5 w' w.heap.size A c y.1 ∧ Below w.heap.size w w') := by
  unfold Ck.lds at hy
  by_cases hr : Ck.Right s.n f n
  · rw [if_pos hr] at hy
    obtain ⟨F, rfl⟩ : ∃ F : Nat, f = (F : Int) := ⟨f.toNat, by have := hr.1; omega⟩
    obtain ⟨N, rfl⟩ : ∃ N : Nat, n = (N : Int) := ⟨n.toNat, by have := hr.2.1; omega⟩
    exact load_any Z d s F N hr w h y hy
  · rw [if_neg hr] at hy
    subst hy
    refine (load_wrong Z d s f n hf hr w h).mono ?_
    rintro e' w' ⟨rfl, rfl⟩
    exact ⟨none, 0, rfl, hid ⟨OwnsB.nil _ _ _, Below.refl _ _⟩⟩
theorem refLoad_wrong (Z : Nat → Prop) (g : Nat) (x : Sx.Xs) (f n : Int) (hf : InInt f) (hr : ¬ Ck.Right x.n f n) (w : World) (h : RefAt w Z g x) :
    Calls Tryz.prog 35 #[.pointer (some ⟨g, 0, none⟩), .int .i64 f, .int .i64 n] w fun e' w' => e' = .returned (.tuple #[.slice none 0 0, .int .i64 0, .int .i64 3]) ∧ w' = w := by
  have HM := hid (refMay_any Z g x f n hf w h)
  rw [decide_eq_false hr] at HM
  clear h hr
  go_enter Tryz.func35, Tryz.ntmps35
  go_wp2_with fail
  refine HM.out.mono ?_
  rintro e1 w1 ⟨rfl, rfl⟩
  go_wp2
  go_ret3
  exact ⟨rfl, rfl⟩
theorem refLoad_all (Z : Nat → Prop) (g : Nat) (x : Sx.Xs) (s : Sx.St) (hs : ReadsAs x s) (hn : s.n = x.n) (f n : Int) (hf : InInt f) (w : World) (h : RefAt w Z g x) (y : List Nat × Int × Int) (hy : Ck.lds s f n = y) :
    Calls Tryz.prog 35 #[.pointer (some ⟨g, 0, none⟩), .int .i64 f, .int .i64 n] w fun e' w' => ∃ A c, e' = .returned (.tuple #[.slice A y.1.length c, .int .i64 y.2.1, .int .i64 y.2.2]) ∧
      Hid (OwnsB 5 w' w.heap.size A c y.1 ∧ Below w.heap.size w w') := by
  unfold Ck.lds at hy
  rw [hn] at hy
  by_cases hr : Ck.Right x.n f n
  · rw [if_pos hr] at hy
    obtain ⟨F, rfl⟩ : ∃ F : Nat, f = (F : Int) := ⟨f.toNat, by have := hr.1; omega⟩
    obtain ⟨N, rfl⟩ : ∃ N : Nat, n = (N : Int) := ⟨n.toNat, by have := hr.2.1; omega⟩
    exact refLoad_any Z g x s hs F N hr w h y hy
  · rw [if_neg hr] at hy
    subst hy
    refine (refLoad_wrong Z g x f n hf hr w h).mono ?_
    rintro e' w' ⟨rfl, rfl⟩
    exact ⟨none, 0, rfl, hid ⟨OwnsB.nil _ _ _, Below.refl _ _⟩⟩
end C
set_option maxRecDepth 100000 in
set_option maxHeartbeats 1600000 in
theorem loads_any (Z : Nat → Prop) (d : Dk) (g : Nat) (s : Sx.St) (x : Sx.Xs) (f n : Int) (hf : InInt f) (w : World) (h : DX w Z d g s x) :
    Calls Tryz.prog 13 #[.pointer (some ⟨d.g, 0, none⟩), .pointer (some ⟨g, 0, none⟩), .int .i64 f, .int .i64 n] w fun e w' => e = .returned (.bool true) ∧ DX w' Z d g s x ∧ Below w.heap.size w w' := by
  have HX := hid h
  have HS := hid (h.rel.reads (fun i => h.da.rdLen i))
  obtain ⟨⟨l, e, v⟩, hy⟩ : ∃ y : List Nat × Int × Int, Ck.lds s f n = y := ⟨_, rfl⟩
  have HY := hid hy
  have HF := hid hf
  have HR := hid (C.load_all _ d s f n hf w h.da _ hy)
  have y1 : (e != e) = false := by simp
  have y2 : (v != v) = false := by simp
  clear h hy hf
  go_enter Tryz.func13, Tryz.ntmps13
  go_wp2_with fail
  refine HR.out.mono ?_
  rintro e1 w1 ⟨A1, c1, rfl, H1⟩
  have HR1 := hid (C.load_all _ d s f n HF.out w1 (HX.out.below H1.out.2).da _ HY.out)
  clear HR
  go_wp2_with fail
  refine HR1.out.mono ?_
  rintro e2 w2 ⟨A2, c2, rfl, Hq⟩
  have hw2 : Below w.heap.size w w2 := H1.out.2.trans (Hq.out.2.mono H1.out.2.size)
  have H2 := hid (And.intro (H1.out.1.below Hq.out.2) (And.intro Hq.out.1 hw2))
  have HSZ : Hid (w.heap.size ≤ w1.heap.size ∧ w1.heap.size ≤ w2.heap.size) := hid ⟨H1.out.2.size, Hq.out.2.size⟩
  have HL1 : Hid (∀ k, blk A1 = some k → k < w1.heap.size) := hid (fun k hk => (H1.out.1.blkLt k hk).2)
  have HR2 := hid (C.refLoad_all _ g x s HS.out HX.out.rel.n f n HF.out w2 (HX.out.below hw2).xa _ HY.out)
  clear Hq HR1 hw2 H1
  go_wp2_with fail
  refine HR2.out.mono ?_
  rintro e3 w3 ⟨A3, c3, rfl, Hq⟩
  have H3 := hid (And.intro (H2.out.1.below Hq.out.2) (And.intro (H2.out.2.1.below Hq.out.2) (And.intro Hq.out.1 (H2.out.2.2.trans (Hq.out.2.mono H2.out.2.2.size)))))
  clear Hq H2 HR2
  have hll : l.length ≤ maxLen := Nat.le_trans H3.out.1.cap H3.out.1.capLe
  have HLL := hid hll
  have HS1 := hid (same_T w3.heap.size w3.heap.size A1 A3 c1 c3 l l.length rfl hll w3 H3.out.1.reads H3.out.2.2.1.reads)
  clear hll
  go_wp2_with fail
  refine HS1.out.mono ?_
  rintro e4 w4 ⟨rfl, n4, hw4⟩
  have hb4 : Below w3.heap.size w3 w4 := by rw [hw4]; exact below_drewN (Below.refl _ _) n4
  have H4 := hid (And.intro (H3.out.1.below hb4) (And.intro (H3.out.2.1.below hb4) (And.intro (H3.out.2.2.1.below hb4) (H3.out.2.2.2.trans (hb4.mono H3.out.2.2.2.size)))))
  clear hw4 hb4 H3 HS1
  have HP := hid (spoil_N w.heap.size A1 c1 l l.length rfl HLL.out w4 H4.out.1)
  go_wp2_with fail
  refine HP.out.mono ?_
  rintro e6 w6 ⟨rfl, hg6⟩
  have h6b : Below w.heap.size w w6 := H4.out.2.2.2.grown hg6 H4.out.2.2.2.size (fun k hk => (H4.out.1.blkLt k hk).1)
  have H6 := hid (And.intro (H4.out.2.1.grown hg6 (fun k hk => HL1.out k hk)) (And.intro (H4.out.2.2.1.grown hg6 (fun k hk => Nat.lt_of_lt_of_le (HL1.out k hk) HSZ.out.2)) h6b))
  clear hg6 h6b H4 HP HL1
  have HS2 := hid (same_T w6.heap.size w6.heap.size A2 A3 c2 c3 l l.length rfl HLL.out w6 H6.out.1.reads H6.out.2.1.reads)
  go_wp2_with fail
  refine HS2.out.mono ?_
  rintro e7 w7 ⟨rfl, n7, hw7⟩
  have hb7 : Below w6.heap.size w6 w7 := by rw [hw7]; exact below_drewN (Below.refl _ _) n7
  have H7 := hid (H6.out.2.2.trans (hb7.mono H6.out.2.2.size))
  clear hw7 hb7 H6 HS2
  go_wp2
  go_ret
  exact ⟨rfl, HX.out.below H7.out, H7.out⟩
end Go.Proofs.YtdgijnolpjaheaaGreat
namespace Go.Proofs.YtdgijnolpjaheaaGreat
open Go.RowKit

theorem sameI_N (B B' : Nat) (A A' : Option Addr) (c c' : Nat) (l m : List Int) (n k : Nat) (hn : l.length = n) (hk : m.length = k) (hl : n ≤ maxLen) (hm : k ≤ maxLen) (w : World) (h : IsInts w B A l) (h' : IsInts w B' A' m) :
    Calls Tryz.prog 39 #[.slice A n c, .slice A' k c'] w fun e w' => e = .returned (.bool (decide (l = m))) ∧ ∃ j, w' = w.drewN j := by
  subst hn; subst hk; exact I.same_any B B' A A' c c' l m hl hm w h h'
theorem sameI_T {w : World} {B B' : Nat} {A A' : Option Addr} {c c' n m : Nat} {l l' : List Int} (hn : l.length = n) (hm : l'.length = m) (hn2 : n ≤ 100000) (he : l' = l) (h : IsInts w B A l) (h' : IsInts w B' A' l') :
    Calls Tryz.prog 39 #[.slice A n c, .slice A' m c'] w fun e w' => e = .returned (.bool true) ∧ ∃ j, w' = w.drewN j := by
  have hm2 : m ≤ 100000 := by rw [← hm, he, hn]; exact hn2
  have := sameI_N B B' A A' c c' l l' n m hn hm (by unfold maxLen; omega) (by unfold maxLen; omega) w h h'
  rw [show decide (l = l') = true from decide_eq_true he.symm] at this
  exact this
end Go.Proofs.YtdgijnolpjaheaaGreat
namespace Go.Proofs.YtdgijnolpjaheaaGreat
open Go.RowKit

theorem i64_xor_in (a b : Int) : InInt (bits .xor .i64 a b) := by
  unfold InInt bits IntKind.wrap
  simp [IntKind.signed, IntKind.bits]
  omega

set_option maxHeartbeats 400000 in
theorem spoilInts_any (base : Nat) (A : Option Addr) (c : Nat) (l : List Int) (hl : l.length ≤ maxLen) (w : World) (h : OwnsI 3 w base A c l) :
    Calls Tryz.prog 40 #[.slice A l.length c] w fun e w' => e = .returned (.tuple #[]) ∧ w.grownBy w' (Value.slice A l.length c).ownBlock := by
  unfold maxLen at hl
  go_enter Tryz.func40, Tryz.ntmps40
  go_wp2
  go_loopw [2] (fun i wr => ∃ k : Nat, ∃ L : List Int, k ≤ l.length ∧ i = .int .i64 k ∧ L.length = l.length ∧ OwnsI 3 wr base A c L ∧ w.grownBy wr (Value.slice A l.length c).ownBlock) (fun i _ => l.length - (RowKit.intOf i).toNat)
  case atStart => exact ⟨0, l, by omega, rfl, rfl, h, grown_refl _ _⟩
  case round =>
    clear h
    obtain ⟨k, L, hk, rfl, hL, hown, hgr⟩ := hrel
    have HL := hid hL
    by_cases hlt : k < l.length
    · have hkl : k < L.length := by rw [hL]; exact hlt
      obtain ⟨g, rfl, _, _, hcg, hfg⟩ := hown.at_ hkl
      have hs1 := hown.set_ k (bits .xor .i64 L[k] 77) (i64_xor_in _ _)
      have hg1 : w.grownBy (wr.setCell ⟨g, k, none⟩ (.int .i64 (bits .xor .i64 L[k] 77))) (some g) := grown_trans hgr (grown_setCell _ _ _ _) (fun _ e _ => by injection e with e; rw [e])
      have HS := hid (And.intro hs1 hg1)
      clear hs1 hg1 hown hgr hL
      go_wp2
      go_roundw
      case rel => exact ⟨k + 1, _, by omega, by go_num, by rw [List.length_set]; exact HL.out, HS.out.1, HS.out.2⟩
      case measure => simp [RowKit.intOf]; omega
    · clear hL
      go_wp2
      go_end0
      exact ⟨rfl, hgr⟩
theorem spoilI_N (base : Nat) (A : Option Addr) (c : Nat) (l : List Int) (n : Nat) (hn : l.length = n) (hl : n ≤ maxLen) (w : World) (h : OwnsI 3 w base A c l) :
    Calls Tryz.prog 40 #[.slice A n c] w fun e w' => e = .returned (.tuple #[]) ∧ w.grownBy w' (blk A) := by
  subst hn; rw [← ownBlock_slice A l.length c]; exact spoilInts_any base A c l hl w h
end Go.Proofs.YtdgijnolpjaheaaGreat
