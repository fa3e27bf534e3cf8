/- The walk through both: sending; whatever the call. -/
import Derived.Test.YtckfjkhjnpkobaaBothB06
import Derived.StillTailTactics
namespace Go.Proofs.Ytckfjkhjnpkobaa
open Go.RowKit

set_option maxHeartbeats 1600000 in
set_option maxRecDepth 100000 in
theorem both_send (Z : Nat → Prop) (g h : Nat) (s : Po.St) (a b : Int) (ap : Option Addr) (cp : Nat) (l : List Nat) (hl : l.length ≤ 1024) (w : World) (hT : TwoS w Z g h s s) (hZ : ∀ k, Z k → k < w.heap.size)
    (hp : ∀ w', Turned (fun k => ¬ Z k) w w' → IsBytes w' w'.heap.size ap l) :
    Calls Try.prog 11 #[.pointer (some ⟨g, 0, none⟩), .pointer (some ⟨h, 0, none⟩), .agg #[.int .i64 0, .int .i64 a, .int .i64 b, .slice ap l.length cp]] w (BothTo w Z g h (Po.sendS s ⟨a, b, l⟩)) := by
  obtain ⟨w1, hw1⟩ : ∃ w1, w1 = w.alloc (.cells #[.int .i64 0, .int .i64 a, .int .i64 b, .slice ap l.length cp] 36) := ⟨_, rfl⟩
  have hb1 : Below w.heap.size w w1 := by rw [hw1]; exact (Below.refl _ w).alloc (Nat.le_refl _) _
  have hs1 : w1.heap.size = w.heap.size + 1 := by rw [hw1]; simp
  have x1 : w1.cell? ⟨w.heap.size, 1, none⟩ = some (.int .i64 a) := by rw [hw1]; simp
  have x2 : w1.cell? ⟨w.heap.size, 2, none⟩ = some (.int .i64 b) := by rw [hw1]; simp
  have x3 : w1.cell? ⟨w.heap.size, 3, none⟩ = some (.slice ap l.length cp) := by rw [hw1]; simp
  obtain ⟨F, G, hP, hR, h1, h2, h3⟩ := hT
  have HLn := hid (lent_any _ ap cp l (by omega) w1 (hp w1 (Turned.ofBelow _ hb1)) (Nat.le_refl _))
  have HP := hid (And.intro (hP.below hb1) (And.intro (hR.below hb1) (And.intro h1 (And.intro h2 (And.intro h3 (And.intro hP.lt (And.intro hR.lt (And.intro hb1 hs1))))))))
  have HX := hid (And.intro x1 (And.intro x2 x3))
  have HDt := hid hp
  have HW := hid hw1
  have HZ := hid hZ
  have HLL := hid hl
  rw [hw1] at HLn
  obtain ⟨r, hr⟩ : ∃ r, r = Po.sendE s ⟨a, b, l⟩ := ⟨_, rfl⟩
  have hE : (r == r) = true := by simp
  have hE2 : (r != r) = false := by simp
  clear hP hR h1 h2 h3 hb1 hs1 hw1 hZ hp x1 x2 x3 hl
  go_enter Try.func11, Try.ntmps11
  go_wp2_with fail
  refine HLn.out.mono ?_
  rintro e w2 ⟨gb, c2, rfl, ho2, hb2⟩
  rw [← HW.out] at ho2 hb2
  obtain ⟨hP1, hR1, h1, h2, h3, hPl, hRl, hb1, hs1⟩ := HP.out
  have hgb := ho2.blkLt gb rfl
  have hcap := ho2.cap
  rw [lent_length] at hcap
  have hl1 : w.heap.size < w1.heap.size := by omega
  have y1 : w2.drew.cell? ⟨w.heap.size, 1, none⟩ = some (.int .i64 a) := (hb2.cell (p := ⟨w.heap.size, 1, none⟩) hl1).trans HX.out.1
  have y2 : w2.drew.cell? ⟨w.heap.size, 2, none⟩ = some (.int .i64 b) := (hb2.cell (p := ⟨w.heap.size, 2, none⟩) hl1).trans HX.out.2.1
  have y3 : w2.drew.cell? ⟨w.heap.size, 3, none⟩ = some (.slice ap l.length cp) := (hb2.cell (p := ⟨w.heap.size, 3, none⟩) hl1).trans HX.out.2.2
  have hO : OwnsB 5 w2.drew 0 (some ⟨gb, 0, none⟩) c2 (lent l) := (ho2.weaken (Nat.zero_le _)).drew
  have hSd := send_any F g s (some ⟨gb, 0, none⟩) c2 ⟨a, b, l⟩ HLL.out w2.drew ((hP1.below hb2).below (Below.refl _ w2).drew) (fun w' ht => by
    have q := (hO.turned ht (fun k hk e => by
      have hk : gb = k := by injection hk
      have := hPl k e
      omega)).reads.take l.length
    rwa [take_lent] at q) (fun h => by cases h)
  rw [← hr] at hSd
  have HSd := hid hSd
  have H2 := hid (And.intro ((hR1.below hb2).below (Below.refl _ w2).drew) (And.intro hO (And.intro (show Below w1.heap.size w1 w2.drew from hb2.drew) hgb)))
  have hln : l.length ≤ c2 := by omega
  have hln0 : (0 : Int) ≤ (l.length : Int) := by omega
  have hln1 : (l.length : Int) ≤ ((l.length + 5 : Nat) : Int) := by omega
  have hln2 : (l.length : Int) ≤ (c2 : Int) := by omega
  have HCP := hid hcap
  clear hP1 hR1 h1 h2 h3 hPl hRl hb1 hs1 ho2 hb2 hgb hO hSd HLn
  go_wp2_with fail
  go_still_tail 11, (by kernel_rfl)
  go_wp2_with fail
  refine HSd.out.mono ?_
  rintro e w3 ⟨rfl, F', hP3, hS3⟩
  obtain ⟨hP1, hR1, h1, h2, h3, hPl, hRl, hb1, hs1⟩ := HP.out
  obtain ⟨hR2, hO2, hbw, hgb⟩ := H2.out
  have T3 := hS3.turned
  have hl2 : w.heap.size < w2.drew.heap.size := Nat.lt_of_lt_of_le (by omega) hbw.size
  have hnF : ¬ F w.heap.size := fun e => by have := hPl _ e; omega
  have hnG : ¬ G w.heap.size := fun e => by have := hRl _ e; omega
  have hgF : ¬ F gb := fun e => by have := hPl _ e; have := hgb.1; omega
  have hgG : ¬ G gb := fun e => by have := hRl _ e; have := hgb.1; omega
  have hO3 := hO2.turned T3 (fun k hk e => hgF (by have hk : gb = k := (by injection hk); rw [hk]; exact e))
  have T13 : Turned (fun k => ¬ Z k) w w3 := ((Turned.ofBelow _ hb1).trans (Turned.ofBelow _ hbw)).trans (T3.mono h2)
  have hR3 := hR2.keep T3 (fun k hk e => h1 k e hk)
  have hl3 : w.heap.size < w3.heap.size := Nat.lt_of_lt_of_le hl2 T3.size
  have z1 : w3.cell? ⟨w.heap.size, 1, none⟩ = some (.int .i64 a) := (T3.cell (p := ⟨w.heap.size, 1, none⟩) hl2 hnF).trans y1
  have z2 : w3.cell? ⟨w.heap.size, 2, none⟩ = some (.int .i64 b) := (T3.cell (p := ⟨w.heap.size, 2, none⟩) hl2 hnF).trans y2
  have z3 : w3.cell? ⟨w.heap.size, 3, none⟩ = some (.slice ap l.length cp) := (T3.cell (p := ⟨w.heap.size, 3, none⟩) hl2 hnF).trans y3
  have hRS := refSend_any G h s ap cp ⟨a, b, l⟩ HLL.out w3 hR3 (HDt.out w3 T13)
  rw [← hr] at hRS
  have HRS := hid hRS
  have H3 := hid (And.intro hP3 (And.intro hS3 (And.intro hO3 (And.intro T13 (And.intro hl3 z3)))))
  have HG := hid (And.intro hnG hgG)
  have HGF := hid hgF
  clear hP1 hR1 h1 h2 h3 hPl hRl hb1 hs1 hR2 hO2 hbw hgb T3 hl2 hnF hnG hgF hgG hO3 T13 hR3 hl3 hRS hP3 hS3 y1 y2 y3 HSd hln hln0 hln1 hln2
  go_wp2_with fail
  refine HRS.out.mono ?_
  rintro e w4 ⟨rfl, G', hR4, hS4⟩
  obtain ⟨hP1, hR1, h1, h2, h3, hPl, hRl, hb1, hs1⟩ := HP.out
  obtain ⟨hP3, hS3, hO3, T13, hl3, z3'⟩ := H3.out
  have u3 := (hS4.turned.cell (p := ⟨w.heap.size, 3, none⟩) hl3 HG.out.1).trans z3'
  have hO4 := hO3.turned hS4.turned (fun k hk e => HG.out.2 (by have hk : gb = k := (by injection hk); rw [hk]; exact e))
  have T14 : Turned (fun k => ¬ Z k) w w4 := T13.trans (hS4.turned.mono h3)
  have HKp := hid (kept_any w4.heap.size w4.heap.size gb ap c2 cp l (by have := HLL.out; omega) HCP.out w4 hO4.reads (HDt.out w4 T14))
  have hF'G : ∀ k, F' k → ¬ G k := fun k hk e => (hS3.new k hk).elim (fun e2 => h1 k e2 e) (fun e2 => by have := hRl k e; have := H2.out.2.2.1.size; omega)
  have hgF' : ¬ F' gb := fun e => (hS3.new gb e).elim HGF.out (fun e2 => by have := H2.out.2.2.2.2; exact absurd this (by show ¬ gb < w2.heap.size; exact Nat.not_lt.2 e2))
  have hgG' : ¬ G' gb := fun e => (hS4.new gb e).elim HG.out.2 (fun e2 => by
    have q := H2.out.2.2.2.2
    have q2 : w2.heap.size ≤ w3.heap.size := hS3.turned.size
    omega)
  have H4 : Hid (OwnsB 5 w4 0 (some ⟨gb, 0, none⟩) c2 (lent l) ∧ Turned (fun k => ¬ Z k) w w4 ∧ PostAt w4 F' g (Po.sendS s ⟨a, b, l⟩) ∧ RefAt w4 G' h (Po.sendS s ⟨a, b, l⟩) ∧ (∀ k, F' k → ¬ G' k) ∧ (∀ k, F' k → ¬ Z k) ∧ (∀ k, G' k → ¬ Z k) ∧ ¬ F' gb ∧ ¬ G' gb ∧ ¬ Z gb) := hid
    ⟨hO4, T14, hP3.keep hS4.turned (fun k hk e => hF'G k hk e), hR4, fun k hk e => (hS4.new k e).elim (hF'G k hk) (fun e2 => by have := hP3.lt k hk; omega),
      fun k hk => (hS3.new k hk).elim (h2 k) (fun e hz => by have := HZ.out k hz; have := H2.out.2.2.1.size; omega), fun k hk => (hS4.new k hk).elim (h3 k) (fun e hz => by have := HZ.out k hz; omega), hgF', hgG', fun hz => by have := HZ.out gb hz; have := H2.out.2.2.2.1; omega⟩
  clear hP1 hR1 h1 h2 h3 hPl hRl hb1 hs1 hP3 hS3 hO3 T13 hl3 z3' hO4 T14 hF'G hgF' hgG' hR4 hS4 z1 z2 z3 HRS
  go_wp2_with fail
  refine HKp.out.mono ?_
  rintro e w5 ⟨rfl, n5, hw5⟩
  have hb5 : Below w4.heap.size w4 w5 := by rw [hw5]; exact below_drewN (Below.refl _ _) n5
  have HSp := hid (spoil_N 0 (some ⟨gb, 0, none⟩) c2 (lent l) (l.length + 5) (lent_length l) (by have := HLL.out; unfold maxLen; omega) w5 (H4.out.1.below hb5))
  have H5 := hid hb5
  clear hb5 hw5 u3 HKp
  go_wp2_with fail
  refine HSp.out.mono ?_
  rintro e w6 ⟨rfl, hg6⟩
  have T6 : Turned (fun k => k = gb) w5 w6 := Turned.ofGrown hg6 (fun k hk => (by have hk : gb = k := (by injection hk); exact hk.symm))
  obtain ⟨_, hTu, hP5, hR5, k1, k2, k3, k4, k5, k6⟩ := H4.out
  have HF : Hid (TwoS w6 Z g h (Po.sendS s ⟨a, b, l⟩) (Po.sendS s ⟨a, b, l⟩) ∧ Turned (fun k => ¬ Z k) w w6) := hid ⟨⟨F', G', (hP5.below H5.out).keep T6 (fun k hk e => k4 (by rw [← e]; exact hk)), (hR5.below H5.out).keep T6 (fun k hk e => k5 (by rw [← e]; exact hk)), k1, k2, k3⟩,
    (hTu.trans (Turned.ofBelow _ H5.out)).trans (T6.mono (fun k hk => by rw [hk]; exact k6))⟩
  clear T6 hg6 hTu hP5 hR5 k1 k2 k3 k4 k5 k6 HSp
  go_wp2_with fail
  go_ret
  exact ⟨rfl, HF.out.1, HF.out.2⟩

theorem takeP_small {F : Nat → Prop} {g : Nat} {s : Po.St} {w : World} (h : PostAt w F g s) (i : Int) : (Po.takeP s i).d.length ≤ 1024 := by
  unfold Po.takeP
  split
  · rename_i hh
    have := Po.has_iff.1 hh
    unfold Po.pkt
    rw [List.getElem?_eq_getElem (by omega), Option.getD_some]
    exact h.small _ (List.getElem_mem _)
  · simp
theorem both_any (Z : Nat → Prop) (g h : Nat) (s : Po.St) (t : Po.Op) (ap : Option Addr) (cp : Nat) (hb : InInt t.b) (hl : t.d.length ≤ 1024) (w : World) (hT : TwoS w Z g h s s) (hZ : ∀ k, Z k → k < w.heap.size)
    (hp : ∀ w', Turned (fun k => ¬ Z k) w w' → IsBytes w' w'.heap.size ap t.d) :
    Calls Try.prog 11 #[.pointer (some ⟨g, 0, none⟩), .pointer (some ⟨h, 0, none⟩), .agg #[.int .i64 t.kind, .int .i64 t.a, .int .i64 t.b, .slice ap t.d.length cp]] w (BothTo w Z g h (Po.step s t)) := by
  unfold Po.step
  by_cases k0 : t.kind = 0
  · rw [if_pos k0, k0]; exact both_send Z g h s t.a t.b ap cp t.d hl w hT hZ hp
  · by_cases k1 : t.kind = 1
    · rw [if_neg k0, if_pos k1, k1]
      exact both_take Z g h s t.a t.b _ w hT hZ (by obtain ⟨F, G, hP, _⟩ := hT; exact takeP_small hP t.a)
    · by_cases k2 : t.kind = 2
      · rw [if_neg k0, if_neg k1, if_pos k2, k2]; exact both_lose Z g h s t.a t.b _ w hT hZ
      · by_cases k3 : t.kind = 3
        · rw [if_neg k0, if_neg k1, if_neg k2, if_pos k3, k3]; exact both_double Z g h s t.a t.b _ w hT hZ
        · by_cases k4 : t.kind = 4
          · rw [if_neg k0, if_neg k1, if_neg k2, if_neg k3, if_pos k4, k4]; exact both_turn Z g h s t.a t.b hb _ w hT hZ
          · by_cases k5 : t.kind = 5
            · rw [if_neg k0, if_neg k1, if_neg k2, if_neg k3, if_neg k4, if_pos k5, k5]; exact both_cut Z g h s t.a t.b _ w hT hZ
            · by_cases k6 : t.kind = 6
              · rw [if_neg k0, if_neg k1, if_neg k2, if_neg k3, if_neg k4, if_neg k5, if_pos k6, k6]; exact both_join Z g h s t.a t.b _ w hT hZ
              · rw [if_neg k0, if_neg k1, if_neg k2, if_neg k3, if_neg k4, if_neg k5, if_neg k6]; exact both_none Z g h s _ t.a t.b k0 k1 k2 k3 k4 k5 k6 _ w hT
end Go.Proofs.Ytckfjkhjnpkobaa
