/- What any bytes are read as, an image, changes or members, or why as none, is the document's answer; the bytes are kept, and what is told is in memory of its own. Conditions: none. -/
import Derived.Test.YtaeoccpjdjafnaaGreatImageGetsPartAA
import Derived.Test.YtaeoccpjdjafnaaGreatRows
import Derived.Test.YtaeoccpjdjafnaaGreatBaseAA
import Derived.Test.YtaeoccpjdjafnaaGreatBaseAE
import Derived.Test.YtaeoccpjdjafnaaGreatBaseAC
import Derived.Test.YtaeoccpjdjafnaaGreatBaseAF
import Derived.WalkKit
import Derived.WalkLawsBesides
import Derived.ProofKit
import Derived.OpenShut
import Derived.ShutString
import Derived.ChangeOld
import Derived.Below
import Derived.SizedLaws
namespace Go.Proofs.YtaeoccpjdjafnaaGreat.Im
open Go Go.RowKit
open Rl (En Lg)
open Qu (Cf)
open Pk (enc encs rdInt rdInts rdBlob St)
set_option maxRecDepth 100000
set_option linter.unusedVariables false
local instance lo25 : Lo := ⟨0⟩
attribute [local go_sem ↓] loadAt_log1 storeAt_log1 loadAt_conf3 storeAt_conf3 loadAt_hard storeAt_hard loadAt_image storeAt_image
/-- amid the votes -/
structure Rv (w wr : World) (g top : Nat) (B : List Nat) (a : Nat) (b : Bool) (b5 : Nat) (A : Option Addr) (c : Nat) (M : List Hq) (k N : Nat) (Av : Option Addr) (cv : Nat) (L : List Vt) (kv nv : Nat) (s : St) : Prop where
  rd : RefR wr g top B a b
  gr : w.grownBy wr (some g)
  r5 : wr.heap[b5]? = some (.cells #[.slice A k c, .slice Av kv cv] 25 (0, 0))
  own : InHs wr (b5 + 1) N A c M
  vs : InVs wr N wr.heap.size Av cv L
  len : L.length = kv
  eq : rdN rdV nv s = (L ++ (rdN rdV (nv - kv) (stOf B a b)).1, (rdN rdV (nv - kv) (stOf B a b)).2)
  lt : w.heap.size ≤ b5 ∧ top ≤ w.heap.size ∧ b5 + 1 ≤ N ∧ N ≤ wr.heap.size
/-- what is told of an image that is read -/
def ImPost (l : List Nat) (w : World) (e : Ending) (w' : World) : Prop := ∃ (i : Ia) (M : List Hq), e = .returned (.tuple #[.agg #[.slice i.h (get l).1.hs.length i.ch, .slice i.v (get l).1.vs.length i.cv], .int .i64 (get l).2]) ∧ M.map (·.h) = (get l).1.hs ∧ IsHds w' w'.heap.size i.h M ∧ IsVs w' w'.heap.size i.v (get l).1.vs ∧ Below w.heap.size w w'
theorem imPost_nil {l : List Nat} {w w' : World} {e : Ending} {x : Int} (hg : get l = (⟨[], []⟩, x)) (he : e = .returned (.tuple #[.agg #[.slice none 0 0, .slice none 0 0], .int .i64 x])) (hb : Below w.heap.size w w') : ImPost l w e w' := by
  unfold ImPost
  rw [hg]
  exact ⟨⟨none, 0, none, 0⟩, [], he, rfl, (InHs.nil w' 0 w'.heap.size).reads, (InVs.nil w' 0 w'.heap.size).reads, hb⟩
def opL6 : Op := Op.load 23 (.tmp 66)
set_option maxHeartbeats 25600000 in
theorem rGet_any (l : List Nat) (A0 : Option Addr) (c0 n0 : Nat) (hn0 : l.length = n0) (hl : n0 ≤ 65536) (w : World) (h : IsBytes w w.heap.size A0 l) :
    Calls Tryz.prog 23 #[.slice A0 n0 c0] w (ImPost l w) := by
  obtain ⟨w1, hw1⟩ : ∃ w1, w1 = w.alloc (.cells #[.slice none 0 0, .slice none 0 0] 25) := ⟨_, rfl⟩
  have hb01 : Below w.heap.size w w1 := by rw [hw1]; exact (Below.refl _ _).alloc (Nat.le_refl _) _
  have z1 : w1.heap.size = w.heap.size + 1 := by rw [hw1]; simp
  have r1 : w1.heap[w.heap.size]? = some (.cells #[.slice none 0 0, .slice none 0 0] 25 (0, 0)) := by rw [hw1]; exact heap_alloc_new _ _
  have HR0 := refReader_any w1.heap.size A0 c0 l (by omega) w1 ((h.below hb01).more hb01.size) (Nat.le_refl _)
  rw [hn0] at HR0
  replace HR0 := hid HR0
  have H1 := hid (And.intro hb01 (And.intro z1 (And.intro r1 (And.intro hn0 hl))))
  have HSM : Hid (∀ x ∈ l, x < 256) := hid h.small
  obtain ⟨i0, hi, hz0, hz1, hz2⟩ := info_parts info_hard3
  obtain ⟨j0, hj, hy0, hy1, hy2⟩ := info_parts info_vote3
  obtain ⟨b1, hb1⟩ : ∃ b, b = w.heap.size := ⟨_, rfl⟩
  have HB1 := hid hb1
  clear h hb01 z1 r1
  go_enter Tryz.func23, Tryz.ntmps23
  go_wp2_with fail
  rw [← hw1, ← hb1]
  clear hw1 hb1
  refine HR0.out.mono ?_
  rintro e w2 ⟨rfl, hr2, hb2⟩
  obtain ⟨g, hg⟩ : ∃ g, g = w1.heap.size := ⟨_, rfl⟩
  rw [← hg] at hr2
  obtain ⟨top, htop⟩ : ∃ t, t = w2.heap.size := ⟨_, rfl⟩
  rw [← htop] at hr2
  obtain ⟨w3, hw3⟩ : ∃ w3, w3 = w2.alloc (.cells #[.slice none 0 0, .slice none 0 0] 25) := ⟨_, rfl⟩
  obtain ⟨b5, hb5⟩ : ∃ b, b = w2.heap.size := ⟨_, rfl⟩
  have b23 : Below w2.heap.size w2 w3 := by rw [hw3]; exact (Below.refl _ _).alloc (Nat.le_refl _) _
  have r3 : w3.heap[b5]? = some (.cells #[.slice none 0 0, .slice none 0 0] 25 (0, 0)) := by rw [hw3, hb5]; exact heap_alloc_new _ _
  have z3 : w3.heap.size = w2.heap.size + 1 := by rw [hw3]; simp
  have hr3 := hr2.below b23
  have HP := hid (rgMany_any g top l 0 false w3 hr3)
  have H3 := hid (And.intro hb2 (And.intro hg (And.intro htop (And.intro hb5 (And.intro b23 (And.intro r3 z3))))))
  clear hb2 hr2 b23 r3 z3 hr3 HR0 htop
  go_wp2_with fail
  rw [← hg, ← hw3, ← hb5]
  clear hg hw3 hb5
  refine HP.out.mono ?_
  rintro e v2 ⟨a2, b2, rfl, hr, hs, hg⟩
  obtain ⟨m, hm⟩ : ∃ x, (rdMany (stOf l 0 false)).1 = x := ⟨_, rfl⟩
  rw [hm]
  have HM0 : Hid (0 ≤ m ∧ m ≤ 65536) := hid (by rw [← hm]; exact rdMany_in (by have := H1.out.2.2.2; omega))
  obtain ⟨n, rfl⟩ : ∃ n : Nat, m = (n : Int) := ⟨m.toNat, by have := HM0.out; omega⟩
  have hn1 : n ≤ 65536 := by have := HM0.out; omega
  have H2 : Hid (Rh w2 v2 g top l a2 b2 b5 none 0 [] 0 n (stOf l a2 b2)) := hid (by
    obtain ⟨k1, k2, k3, k4, k5, k6, k7⟩ := H3.out
    have ht := hr.top_
    exact ⟨hr, grown_trans (grown_below k5 (some g)) hg (fun k e _ => e), (hg.block _ (by omega) (fun e => by injection e; omega)).trans k6, InHs.nil _ _ _, rfl, by simp, ⟨by omega, by omega⟩⟩)
  have S2 := hid (And.intro hm hs)
  clear hr hs hg hm HP HM0
  go_wp2_with fail
  go_loopw [7] (fun i wr => ∃ k : Nat, k ≤ n ∧ i = .int .i64 (k : Int) ∧ Hid (∃ a5 b6 A c M, Rh w2 wr g top l a5 b6 b5 A c M k n (stOf l a2 b2))) (fun i _ => n - (RowKit.intOf i).toNat)
  case atStart => exact ⟨0, Nat.zero_le _, rfl, hid ⟨_, _, _, _, _, H2.out⟩⟩
  case round =>
    clear H2
    obtain ⟨k, hk, rfl, HQ0⟩ := hrel
    obtain ⟨a5, b6, A, c, M, hQ⟩ := HQ0.out
    have HQ := hid hQ
    obtain ⟨_, _, _, _, cb, _⟩ := hQ.rd.cells
    clear hQ HQ0
    by_cases hlt : k < n
    · have hlt0 : (k : Int) < (n : Int) := by omega
      cases b6 with
      | true =>
        have HEND : Hid (rdN rdH n (stOf l a2 b2) = (M.map (·.h), stOf l a5 true)) := hid (by rw [HQ.out.eq, rdN_end rdH _ _ (.inr rfl), List.append_nil])
        have HPm := hid (rgMany_any g top l a5 true wr HQ.out.rd)
        clear hlt
        go_wp2_with fail
        refine HPm.out.mono ?_
        rintro e v10 ⟨a10, b10, rfl, hr, hs, hg⟩
        obtain ⟨m2, hm⟩ : ∃ x, (rdMany (stOf l a5 true)).1 = x := ⟨_, rfl⟩
        rw [hm]
        have HM2 : Hid (0 ≤ m2 ∧ m2 ≤ 65536) := hid (by rw [← hm]; exact rdMany_in (by have := H1.out.2.2.2; omega))
        obtain ⟨nv, rfl⟩ : ∃ n : Nat, m2 = (n : Int) := ⟨m2.toNat, by have := HM2.out; omega⟩
        have hnv1 : nv ≤ 65536 := by have := HM2.out; omega
        obtain ⟨N, hN⟩ : ∃ N, N = wr.heap.size := ⟨_, rfl⟩
        have HV0 : Hid (Rv w2 v10 g top l a10 b10 b5 A c M k N none 0 [] 0 nv (stOf l a10 b10)) := hid (by
          subst hN
          have h5 := Rg.row_lt' HQ.out.r5
          have hlt5 := HQ.out.lt
          have ht := HQ.out.rd.top_
          exact ⟨hr, grown_trans HQ.out.gr hg (fun k e _ => e), (hg.block _ h5 (fun e => by injection e; omega)).trans HQ.out.r5, HQ.out.own.keep (Turned.ofGrown (S := fun k => k = g) hg (fun k e => by injection e with e; exact e.symm)) (fun k hk hB => by have := hB.1; omega), InVs.nil _ _ _, rfl, by simp, ⟨hlt5.1, hlt5.2, by omega, hg.size⟩⟩)
        have SM2 := hid (And.intro hm hs)
        have HML := hid HQ.out.len
        clear hr hs hg hm HPm HM2 HQ hN
        go_wp2_with fail
        go_loopw [10] (fun i wr => ∃ kv : Nat, kv ≤ nv ∧ i = .int .i64 (kv : Int) ∧ Hid (∃ a7 b7 Av cv L, Rv w2 wr g top l a7 b7 b5 A c M k N Av cv L kv nv (stOf l a10 b10))) (fun i _ => nv - (RowKit.intOf i).toNat)
        case atStart => exact ⟨0, Nat.zero_le _, rfl, hid ⟨_, _, _, _, _, HV0.out⟩⟩
        case round =>
          clear HV0
          obtain ⟨kv, hkv, rfl, HQ0⟩ := hrel
          obtain ⟨a7, b7, Av, cv, L, hQ⟩ := HQ0.out
          have HQ := hid hQ
          obtain ⟨_, _, _, _, cb2, _⟩ := hQ.rd.cells
          clear hQ HQ0
          by_cases hltv : kv < nv
          · have hltv0 : (kv : Int) < (nv : Int) := by omega
            cases b7 with
            | true =>
              have HENDV : Hid (rdN rdV nv (stOf l a10 b10) = (L, stOf l a7 true)) := hid (by rw [HQ.out.eq, rdN_end rdV _ _ (.inr rfl), List.append_nil])
              have HE := refEnd_any g top l a7 true wr HQ.out.rd
              obtain ⟨ee, hee⟩ : ∃ ee, endOf ⟨leftOf l a7 true, true⟩ = ee := ⟨_, rfl⟩
              rw [hee] at HE
              replace HE := hid HE
              have HW : Hid (whole rdIm ⟨[], []⟩ l = if ee ≠ 0 then (⟨[], []⟩, ee) else (⟨M.map (·.h), L⟩, 0)) := hid (by
                have e1 : rdIm ⟨l, false⟩ = (⟨M.map (·.h), L⟩, stOf l a7 true) := by
                  unfold rdIm rdM rdP
                  simp only [rdL_many, ← stOf_new l, S2.out.1, ← S2.out.2, Int.toNat_natCast, HEND.out, SM2.out.1, ← SM2.out.2, HENDV.out]
                have e2 : fin (rdIm ⟨l, false⟩).2 = ee := by
                  rw [← hee, e1]; rfl
                unfold whole
                rw [e2, e1])
              have hec : ee = 0 ∨ ee = 2 ∨ ee = 4 := by
                rw [← hee]; unfold endOf
                split
                · exact .inr (.inr rfl)
                · split
                  · exact .inr (.inl rfl)
                  · exact .inl rfl
              have H5 : Hid (wr.heap[b1]? = some (.cells #[.slice none 0 0, .slice none 0 0] 25 (0, 0)) ∧ Below w.heap.size w wr ∧ b1 < b5) := hid (by
                obtain ⟨k1, k2, k3, k4⟩ := H1.out
                obtain ⟨j1, j2, j3, j4, j5, j6, j7⟩ := H3.out
                have hb1 := HB1.out
                have s1 := j1.size
                have ht := HQ.out.rd.top_
                rw [hb1]
                exact ⟨(HQ.out.gr.block _ (by omega) (fun e => by injection e; omega)).trans ((j1.block _ (by omega)).trans k3), k1.trans ((j1.mono (by omega)).trans (below_grown HQ.out.gr (by omega) (fun k e => by injection e; omega))), by omega⟩)
              have HVL := hid HQ.out.len
              clear hee hltv HEND HENDV SM2 S2
              go_wp2_with fail
              refine HE.out.mono ?_
              rintro e w5 ⟨rfl, nn, hw5⟩
              have b5r : Below wr.heap.size wr w5 := by rw [hw5]; exact below_drewN (Below.refl _ _) nn
              have z5 : w5.heap[b1]? = some (.cells #[.slice none 0 0, .slice none 0 0] 25 (0, 0)) := by rw [hw5]; exact H5.out.1
              have r5 : w5.heap[b5]? = some (.cells #[.slice A k c, .slice Av kv cv] 25 (0, 0)) := by rw [hw5]; exact HQ.out.r5
              have low5 : Below w.heap.size w w5 := H5.out.2.1.trans (b5r.mono H5.out.2.1.size)
              have hh5 : InHs w5 (b5 + 1) N A c M := HQ.out.own.keep (Turned.ofBelow (fun _ => False) b5r) (fun k hk => hk.elim)
              have hv5 : InVs w5 N wr.heap.size Av cv L := HQ.out.vs.below b5r
              have H6 := hid (And.intro z5 (And.intro r5 (And.intro low5 (And.intro hh5 (And.intro hv5 (And.intro HQ.out.lt.2.2 (And.intro b5r.size H5.out.2.2)))))))
              clear hw5 b5r z5 r5 low5 hh5 hv5 HQ HE H5
              by_cases he : ee = 0
              · subst he
                have HX : Hid (whole rdIm ⟨[], []⟩ l = (⟨M.map (·.h), L⟩, 0)) := hid (by rw [HW.out]; rfl)
                have ld5 := ldRow info_image2 Tryz.underlying25 rfl H6.out.2.1 rfl
                have HOR := refOrdered_any ⟨A, c, Av, cv⟩ k kv M L HML.out HVL.out (by omega) (by omega) w5 (H6.out.2.2.2.1.wide (Nat.le_refl _) (by have := H6.out.2.2.2.2.2; omega)).reads (H6.out.2.2.2.2.1.wide (Nat.le_refl _) (by have := H6.out.2.2.2.2.2; omega)).reads
                obtain ⟨bs, hbs⟩ : ∃ b, sorted ⟨M.map (·.h), L⟩ = b := ⟨_, rfl⟩
                rw [hbs] at HOR
                replace HOR := hid HOR
                have HBS := hid hbs
                clear hbs HW hec
                cases bs with
                | false =>
                  have HG : Hid (get l = (⟨[], []⟩, 15)) := hid (by unfold get; rw [HX.out, if_pos ⟨rfl, HBS.out⟩])
                  go_wp2_with fail
                  refine HOR.out.mono ?_
                  rintro e w6 ⟨rfl, hb6⟩
                  have z6 := (hb6.block _ (row_lt H6.out.1)).trans H6.out.1
                  have low6 := H6.out.2.2.1.trans (hb6.mono H6.out.2.2.1.size)
                  have hst6 := stSame info_image2 z6 rfl (by simp [Value.oneCell'])
                  have H7 := hid (And.intro z6 low6)
                  clear hb6 z6 low6 ld5
                  go_wp2_with fail
                  refine bodyPost_ret (results_two rfl info_image2 Tryz.underlying25 rfl _ _ b1 _ _ _ rfl H7.out.1 rfl) rfl ?_
                  exact imPost_nil HG.out rfl H7.out.2
                | true =>
                  have HG : Hid (get l = (⟨M.map (·.h), L⟩, 0)) := hid (by unfold get; rw [HX.out, if_neg (fun h => by have := h.2; rw [HBS.out] at this; cases this)])
                  go_wp2_with fail
                  refine HOR.out.mono ?_
                  rintro e w6 ⟨rfl, hb6⟩
                  have z6 := (hb6.block _ (row_lt H6.out.1)).trans H6.out.1
                  have x6 := (hb6.block _ (row_lt H6.out.2.1)).trans H6.out.2.1
                  have low6 := H6.out.2.2.1.trans (hb6.mono H6.out.2.2.1.size)
                  have ld6 := ldRow info_image2 Tryz.underlying25 rfl x6 rfl
                  have hst6 := stRow info_image2 (cs' := #[.slice A k c, .slice Av kv cv]) z6 rfl rfl (by simp [Value.oneCell'])
                  have hro7 := setRow_heap w6 b1 _ #[.slice A k c, .slice Av kv cv] _ _ z6
                  have ht7 := row_turned w6 b1 #[.slice A k c, .slice Av kv cv]
                  generalize w6.setRow b1 #[.slice A k c, .slice Av kv cv] = w7 at hst6 hro7 ht7
                  have H7 := hid (And.intro hro7 (And.intro ht7 (And.intro low6 hb6)))
                  clear hb6 z6 x6 low6 hro7 ht7 ld5
                  go_wp2_with fail
                  refine bodyPost_ret (results_two rfl info_image2 Tryz.underlying25 rfl _ _ b1 _ _ _ rfl H7.out.1 rfl) rfl ?_
                  unfold ImPost
                  rw [HG.out]
                  obtain ⟨_, ht7, low6, hb6⟩ := H7.out
                  obtain ⟨_, _, _, hh5, hv5, ⟨n1, n2⟩, n3, n4⟩ := H6.out
                  have n5 := hb6.size
                  have n6 := ht7.size
                  have hh7 := (InHs.keep (InHs.keep hh5 (Turned.ofBelow (fun _ => False) hb6) (fun k hk => hk.elim)) ht7 (fun k hk hB => by have h1 := hB.1; omega)).wide (Nat.le_refl _) (N' := w7.heap.size) (by omega)
                  have hv7 := (InVs.keep (InVs.keep hv5 (Turned.ofBelow (fun _ => False) hb6) (fun k hk => hk.elim)) ht7 (fun k hk hB => by have h1 := hB.1; omega)).wide (Nat.le_refl _) (N' := w7.heap.size) (by omega)
                  have hbw : Below w.heap.size w w7 := low6.trans (ht7.below low6.size (fun k hk => by have := HB1.out; omega))
                  exact ⟨⟨A, c, Av, cv⟩, M, by rw [List.length_map, HML.out, HVL.out]; rfl, rfl, hh7.reads, hv7.reads, hbw⟩
              · have HG : Hid (get l = (⟨[], []⟩, ee)) := hid (by rw [get_bad (by rw [HW.out, if_pos he]; exact he), HW.out, if_pos he])
                have hst5 := stSame info_image2 H6.out.1 rfl (by simp [Value.oneCell'])
                clear HW
                go_wp2_with fail
                refine bodyPost_ret (results_two rfl info_image2 Tryz.underlying25 rfl _ _ b1 _ _ _ rfl H6.out.1 rfl) rfl ?_
                exact imPost_nil HG.out rfl H6.out.2.2.1
            | false =>
              obtain ⟨v, hv⟩ : ∃ v, (rdV (stOf l a7 false)).1 = v := ⟨_, rfl⟩
              have HPv := rgVote_any g top l a7 false wr.drew (HQ.out.rd.drewN 1)
              rw [hv] at HPv
              replace HPv := hid HPv
              have HVV := hid hv
              have R1 : Hid (wr.drew.heap[b5]? = some (.cells #[.slice A k c, .slice Av kv cv] 25 (0, 0))) := hid HQ.out.r5
              have HLQ : Hid (b5 < wr.heap.size ∧ g < b5) := hid ⟨Rg.row_lt' HQ.out.r5, by have := HQ.out.lt; have := HQ.out.rd.top_; omega⟩
              clear hltv hv
              go_wp2_with fail
              clear cb2
              have hopL : opL6 = Op.load 23 (.tmp 66) := rfl
              rw [← hopL]
              have f1 := row_cell R1.out 1
              go_region_held3 (fun W => True)
                (exact trivial)
                (first
                  | (go_at_call 76; refine HPv.out.mono ?_; rintro e w4 ⟨a8, b8, rfl, hr, hs, hg⟩; have HG := hid (And.intro hr (And.intro hs hg)); have R4 := hid ((hg.block _ HLQ.out.1 (fun e => by injection e; have := HLQ.out.2; omega)).trans R1.out); have f4 := row_cell R4.out 1; have R5 := hid (((Below.refl _ w4).alloc (Nat.le_refl _) (.cells #[.int .i64 v.x, .int .i64 v.p, .int .i64 v.r, .int .i64 v.b, .int .i64 v.v] 60)).block _ (Rg.row_lt' R4.out) |>.trans R4.out); have f5 := row_cell R5.out 1; have V5 := hid ((HQ.out.vs.1.keep ((Turned.refl (fun k => k = g) wr).drew.trans (Turned.ofGrown (S := fun k => k = g) hg (fun k e => by injection e with e; exact e.symm))) (fun k hk e => by have h1 := (HQ.out.vs.1.blk k hk).1; have h2 := HQ.out.lt; have h3 := HLQ.out.2; omega)).below ((Below.refl _ w4).alloc (Nat.le_refl _) (.cells #[.int .i64 v.x, .int .i64 v.p, .int .i64 v.r, .int .i64 v.b, .int .i64 v.v] 60))); clear hr hs hg)
                  | (refine step_append_row (by rfl) _ _ 23 (by rfl) j0 _ Tryz.underlying23 hj hy0 hy1 hy2 (by rfl) (by decide) V5.out kv HQ.out.len rfl v ⟨w4.heap.size, 0, none⟩ 1 (by rfl) (fun j hj' => by rw [add_off, Nat.zero_add, row_cell (heap_alloc_new w4 _) j]; simp [cellsV]) (cellsV_one v) (by omega) (by omega) ?_; intro A9 c9 w9 hrow9 hg9 _; have R9 := hid ((hg9.block _ (Rg.row_lt' R5.out) (fun e => by have h1 := (HQ.out.vs.1.blk _ e.symm).1; have h2 := HQ.out.lt; omega)).trans R5.out); have f9 := row_cell R9.out 1; have z9 := row_free R9.out 1; have HG9 := hid (And.intro hrow9 hg9); clear hrow9 hg9)
                  | fail)
              all_goals
                (have HF : Hid (Rv w2 (w9.setCell ⟨b5, 1, none⟩ (.slice A9 (kv + 1) c9)) g top l a8 b8 b5 A c M k N A9 c9 (L ++ [v]) (kv + 1) nv (stOf l a10 b10)) := hid (by
                   obtain ⟨hr, hs, hg⟩ := HG.out
                   obtain ⟨hrow9, hg9⟩ := HG9.out
                   have hlt5 := HQ.out.lt
                   have h2 := HLQ.out
                   have ht := HQ.out.rd.top_
                   have hgs : wr.heap.size ≤ w4.heap.size := hg.size
                   have b45 : Below w4.heap.size w4 (w4.alloc (.cells #[.int .i64 v.x, .int .i64 v.p, .int .i64 v.r, .int .i64 v.b, .int .i64 v.v] 60)) := (Below.refl _ w4).alloc (Nat.le_refl _) _
                   have z45 := b45.size
                   have hblk : ∀ k, blk Av = some k → N ≤ k := fun k hk => (HQ.out.vs.1.blk k hk).1
                   have b59 : Below N (w4.alloc (.cells #[.int .i64 v.x, .int .i64 v.p, .int .i64 v.r, .int .i64 v.b, .int .i64 v.v] 60)) w9 := below_grown hg9 (by omega) hblk
                   have t4 : Turned (fun k => k = g ∨ N ≤ k) wr w4 := (Turned.refl _ wr).drew.trans (Turned.ofGrown hg (fun k e => by injection e with e; exact .inl e.symm))
                   have t9 : Turned (fun k => k = g ∨ N ≤ k) wr w9 := (t4.trans (Turned.ofBelow _ b45)).trans (Turned.ofGrown hg9 (fun k e => .inr (hblk k e)))
                   have hg24 := grown_then (grown_trans (grown_drew HQ.out.gr) hg (fun k e _ => e)) (b45.mono (by have := HQ.out.gr.size; omega))
                   have hg29 := grown_trans hg24 hg9 (fun k e hj => by have := hblk k e; omega)
                   refine ⟨((hr.below b45).belowB b59 (by omega)).other (grown_setCell w9 b5 1 _) (fun j e => by injection e; omega), grown_trans hg29 (grown_setCell w9 b5 1 _) (fun j e hj => by injection e; omega), row_set R9.out 1 _, (HQ.out.own.keep t9 (fun k hk hB => by have h1 := hB.1; have h3 := hB.2; omega)).keep ((Turned.refl (fun k => k = b5) w9).setCell b5 1 _ (fun _ => rfl)) (fun k hk hB => by have h1 := hB.1; omega), ?_, by rw [List.length_append, HQ.out.len]; rfl, ?_, ⟨hlt5.1, hlt5.2.1, hlt5.2.2.1, by rw [sz_set]; have := t9.size; omega⟩⟩
                   · rw [sz_set]
                     refine InVs.keep (w := w9) ⟨hrow9.mono (fun k hk => ⟨?_, hrow9.lt k hk⟩), fun x hx => ?_⟩ ((Turned.refl (fun k => k = b5) w9).setCell b5 1 _ (fun _ => rfl)) (fun k hk hB => by have h1 := hB.1; omega)
                     · rcases hrow9.blk k hk with e | e
                       · exact e.1
                       · have e' : (w4.alloc (.cells #[.int .i64 v.x, .int .i64 v.p, .int .i64 v.r, .int .i64 v.b, .int .i64 v.v] 60)).heap.size ≤ k := e
                         omega
                     · rcases List.mem_append.1 hx with hx | hx
                       · exact HQ.out.vs.2 x hx
                       · rw [List.mem_singleton.1 hx, ← HVV.out]; exact rdV_good _ (refR_small HQ.out.rd)
                   · rw [HQ.out.eq, show nv - kv = (nv - (kv + 1)) + 1 by omega, rdN_one rdV _ _ rfl, HVV.out, hs]
                     simp)
                 clear HQ HG HG9 R1 R4 R5 R9 V5 HPv HVV HLQ f1 f4 f5 f9 z9
                 go_wp2_with fail
                 go_roundw)
              all_goals first | exact ⟨kv + 1, by omega, by go_num, hid ⟨a8, b8, A9, c9, _, HF.out⟩⟩ | (simp [RowKit.intOf]; omega)
          · obtain rfl : kv = nv := by omega
            have hltv0 : ¬ (kv : Int) < (kv : Int) := by omega
            have HENDV : Hid (rdN rdV kv (stOf l a10 b10) = (L, stOf l a7 b7)) := hid (by rw [HQ.out.eq, rdN_end rdV _ _ (.inl (Nat.sub_self kv)), List.append_nil])
            have HE := refEnd_any g top l a7 b7 wr HQ.out.rd
            obtain ⟨ee, hee⟩ : ∃ ee, endOf ⟨leftOf l a7 b7, b7⟩ = ee := ⟨_, rfl⟩
            rw [hee] at HE
            replace HE := hid HE
            have HW : Hid (whole rdIm ⟨[], []⟩ l = if ee ≠ 0 then (⟨[], []⟩, ee) else (⟨M.map (·.h), L⟩, 0)) := hid (by
              have e1 : rdIm ⟨l, false⟩ = (⟨M.map (·.h), L⟩, stOf l a7 b7) := by
                unfold rdIm rdM rdP
                simp only [rdL_many, ← stOf_new l, S2.out.1, ← S2.out.2, Int.toNat_natCast, HEND.out, SM2.out.1, ← SM2.out.2, HENDV.out]
              have e2 : fin (rdIm ⟨l, false⟩).2 = ee := by
                rw [← hee, e1]; rfl
              unfold whole
              rw [e2, e1])
            have hec : ee = 0 ∨ ee = 2 ∨ ee = 4 := by
              rw [← hee]; unfold endOf
              split
              · exact .inr (.inr rfl)
              · split
                · exact .inr (.inl rfl)
                · exact .inl rfl
            have H5 : Hid (wr.heap[b1]? = some (.cells #[.slice none 0 0, .slice none 0 0] 25 (0, 0)) ∧ Below w.heap.size w wr ∧ b1 < b5) := hid (by
              obtain ⟨k1, k2, k3, k4⟩ := H1.out
              obtain ⟨j1, j2, j3, j4, j5, j6, j7⟩ := H3.out
              have hb1 := HB1.out
              have s1 := j1.size
              have ht := HQ.out.rd.top_
              rw [hb1]
              exact ⟨(HQ.out.gr.block _ (by omega) (fun e => by injection e; omega)).trans ((j1.block _ (by omega)).trans k3), k1.trans ((j1.mono (by omega)).trans (below_grown HQ.out.gr (by omega) (fun k e => by injection e; omega))), by omega⟩)
            have HVL := hid HQ.out.len
            clear hee hltv HEND HENDV SM2 S2
            go_wp2_with fail
            refine HE.out.mono ?_
            rintro e w5 ⟨rfl, nn, hw5⟩
            have b5r : Below wr.heap.size wr w5 := by rw [hw5]; exact below_drewN (Below.refl _ _) nn
            have z5 : w5.heap[b1]? = some (.cells #[.slice none 0 0, .slice none 0 0] 25 (0, 0)) := by rw [hw5]; exact H5.out.1
            have r5 : w5.heap[b5]? = some (.cells #[.slice A k c, .slice Av kv cv] 25 (0, 0)) := by rw [hw5]; exact HQ.out.r5
            have low5 : Below w.heap.size w w5 := H5.out.2.1.trans (b5r.mono H5.out.2.1.size)
            have hh5 : InHs w5 (b5 + 1) N A c M := HQ.out.own.keep (Turned.ofBelow (fun _ => False) b5r) (fun k hk => hk.elim)
            have hv5 : InVs w5 N wr.heap.size Av cv L := HQ.out.vs.below b5r
            have H6 := hid (And.intro z5 (And.intro r5 (And.intro low5 (And.intro hh5 (And.intro hv5 (And.intro HQ.out.lt.2.2 (And.intro b5r.size H5.out.2.2)))))))
            clear hw5 b5r z5 r5 low5 hh5 hv5 HQ HE H5
            by_cases he : ee = 0
            · subst he
              have HX : Hid (whole rdIm ⟨[], []⟩ l = (⟨M.map (·.h), L⟩, 0)) := hid (by rw [HW.out]; rfl)
              have ld5 := ldRow info_image2 Tryz.underlying25 rfl H6.out.2.1 rfl
              have HOR := refOrdered_any ⟨A, c, Av, cv⟩ k kv M L HML.out HVL.out (by omega) (by omega) w5 (H6.out.2.2.2.1.wide (Nat.le_refl _) (by have := H6.out.2.2.2.2.2; omega)).reads (H6.out.2.2.2.2.1.wide (Nat.le_refl _) (by have := H6.out.2.2.2.2.2; omega)).reads
              obtain ⟨bs, hbs⟩ : ∃ b, sorted ⟨M.map (·.h), L⟩ = b := ⟨_, rfl⟩
              rw [hbs] at HOR
              replace HOR := hid HOR
              have HBS := hid hbs
              clear hbs HW hec
              cases bs with
              | false =>
                have HG : Hid (get l = (⟨[], []⟩, 15)) := hid (by unfold get; rw [HX.out, if_pos ⟨rfl, HBS.out⟩])
                go_wp2_with fail
                refine HOR.out.mono ?_
                rintro e w6 ⟨rfl, hb6⟩
                have z6 := (hb6.block _ (row_lt H6.out.1)).trans H6.out.1
                have low6 := H6.out.2.2.1.trans (hb6.mono H6.out.2.2.1.size)
                have hst6 := stSame info_image2 z6 rfl (by simp [Value.oneCell'])
                have H7 := hid (And.intro z6 low6)
                clear hb6 z6 low6 ld5
                go_wp2_with fail
                refine bodyPost_ret (results_two rfl info_image2 Tryz.underlying25 rfl _ _ b1 _ _ _ rfl H7.out.1 rfl) rfl ?_
                exact imPost_nil HG.out rfl H7.out.2
              | true =>
                have HG : Hid (get l = (⟨M.map (·.h), L⟩, 0)) := hid (by unfold get; rw [HX.out, if_neg (fun h => by have := h.2; rw [HBS.out] at this; cases this)])
                go_wp2_with fail
                refine HOR.out.mono ?_
                rintro e w6 ⟨rfl, hb6⟩
                have z6 := (hb6.block _ (row_lt H6.out.1)).trans H6.out.1
                have x6 := (hb6.block _ (row_lt H6.out.2.1)).trans H6.out.2.1
                have low6 := H6.out.2.2.1.trans (hb6.mono H6.out.2.2.1.size)
                have ld6 := ldRow info_image2 Tryz.underlying25 rfl x6 rfl
                have hst6 := stRow info_image2 (cs' := #[.slice A k c, .slice Av kv cv]) z6 rfl rfl (by simp [Value.oneCell'])
                have hro7 := setRow_heap w6 b1 _ #[.slice A k c, .slice Av kv cv] _ _ z6
                have ht7 := row_turned w6 b1 #[.slice A k c, .slice Av kv cv]
                generalize w6.setRow b1 #[.slice A k c, .slice Av kv cv] = w7 at hst6 hro7 ht7
                have H7 := hid (And.intro hro7 (And.intro ht7 (And.intro low6 hb6)))
                clear hb6 z6 x6 low6 hro7 ht7 ld5
                go_wp2_with fail
                refine bodyPost_ret (results_two rfl info_image2 Tryz.underlying25 rfl _ _ b1 _ _ _ rfl H7.out.1 rfl) rfl ?_
                unfold ImPost
                rw [HG.out]
                obtain ⟨_, ht7, low6, hb6⟩ := H7.out
                obtain ⟨_, _, _, hh5, hv5, ⟨n1, n2⟩, n3, n4⟩ := H6.out
                have n5 := hb6.size
                have n6 := ht7.size
                have hh7 := (InHs.keep (InHs.keep hh5 (Turned.ofBelow (fun _ => False) hb6) (fun k hk => hk.elim)) ht7 (fun k hk hB => by have h1 := hB.1; omega)).wide (Nat.le_refl _) (N' := w7.heap.size) (by omega)
                have hv7 := (InVs.keep (InVs.keep hv5 (Turned.ofBelow (fun _ => False) hb6) (fun k hk => hk.elim)) ht7 (fun k hk hB => by have h1 := hB.1; omega)).wide (Nat.le_refl _) (N' := w7.heap.size) (by omega)
                have hbw : Below w.heap.size w w7 := low6.trans (ht7.below low6.size (fun k hk => by have := HB1.out; omega))
                exact ⟨⟨A, c, Av, cv⟩, M, by rw [List.length_map, HML.out, HVL.out]; rfl, rfl, hh7.reads, hv7.reads, hbw⟩
            · have HG : Hid (get l = (⟨[], []⟩, ee)) := hid (by rw [get_bad (by rw [HW.out, if_pos he]; exact he), HW.out, if_pos he])
              have hst5 := stSame info_image2 H6.out.1 rfl (by simp [Value.oneCell'])
              clear HW
              go_wp2_with fail
              refine bodyPost_ret (results_two rfl info_image2 Tryz.underlying25 rfl _ _ b1 _ _ _ rfl H6.out.1 rfl) rfl ?_
              exact imPost_nil HG.out rfl H6.out.2.2.1
      | false =>
        have HP := hid (refRInt_any g top l a5 false wr HQ.out.rd)
        clear hlt
        go_wp2_with fail
        refine HP.out.mono ?_
        rintro e v0 ⟨p0, q0, rfl, hr, hs, hg⟩
        obtain ⟨x0, hx⟩ : ∃ x, (rdInt (stOf l a5 false)).1 = x := ⟨_, rfl⟩
        rw [hx]
        obtain ⟨u0, hu⟩ : ∃ u, u = v0.alloc (.cells #[.int .i64 x0, .int .i64 0, .int .i64 0, .int .i64 0, .int .i64 0, .slice none 0 0, .slice none 0 0, .slice none 0 0, .slice none 0 0, .slice none 0 0] 75) := ⟨_, rfl⟩
        have hst := stNew v0 75 10 info_hard #[.int .i64 0, .int .i64 0, .int .i64 0, .int .i64 0, .int .i64 0, .slice none 0 0, .slice none 0 0, .slice none 0 0, .slice none 0 0, .slice none 0 0] #[.int .i64 x0, .int .i64 0, .int .i64 0, .int .i64 0, .int .i64 0, .slice none 0 0, .slice none 0 0, .slice none 0 0, .slice none 0 0, .slice none 0 0] rfl rfl (by simp [Value.oneCell'])
        obtain ⟨be, hbe⟩ : ∃ be, be = v0.heap.size := ⟨_, rfl⟩
        have R := HQ.out.box hr hg hu
        rw [← hbe] at R
        have K0 := hid R
        have HBE : Hid (wr.heap.size ≤ be ∧ b5 < wr.heap.size ∧ g < b5) := hid ⟨by rw [hbe]; exact hg.size, Rg.row_lt' HQ.out.r5, by have := HQ.out.lt; have := HQ.out.rd.top_; omega⟩
        have T0 : Hid (Turned (fun k => k = g ∨ k = be) wr u0) := hid ((Turned.ofGrown hg (fun k e => by injection e with e; exact .inl e.symm)).trans (by rw [hu]; exact (Turned.refl _ v0).alloc _))
        have S30 := hid (And.intro hx (And.intro hs (show InInt x0 by rw [← hx]; exact Pk.rdInt_in _ (refR_small HQ.out.rd))))
        have HP0 := hid (refRInt_any g top l p0 q0 u0 R.rd)
        clear hr hs hg hx R HP cb
        go_wp2_with fail
        rw [← hu, ← hbe]
        clear hu hst hbe
        refine HP0.out.mono ?_
        rintro e v1 ⟨p1, q1, rfl, hr, hs, hg⟩
        obtain ⟨x1, hx⟩ : ∃ x, (rdInt (stOf l p0 q0)).1 = x := ⟨_, rfl⟩
        rw [hx]
        have R := K0.out.call hr hg
        have z := row_free R.r3 1
        have cc := row_cell R.r3 1
        obtain ⟨u1, hu⟩ : ∃ u, u = v1.setCell ⟨be, 1, none⟩ (.int .i64 x1) := ⟨_, rfl⟩
        have K1 : Hid (RkB w2 u1 g top l p1 q1 b5 (.cells #[.slice A k c, .slice none 0 0] 25 (0, 0)) be #[.int .i64 x0, .int .i64 x1, .int .i64 0, .int .i64 0, .int .i64 0, .slice none 0 0, .slice none 0 0, .slice none 0 0, .slice none 0 0, .slice none 0 0] 75) := hid (by rw [hu]; exact R.set 1 _)
        have T1 : Hid (Turned (fun k => k = g ∨ k = be) wr u1) := hid (by rw [hu]; exact (T0.out.trans (Turned.ofGrown hg (fun k e => by injection e with e; exact .inl e.symm))).setCell be 1 _ (fun _ => .inr rfl))
        have S31 := hid (And.intro hx (And.intro hs (show InInt x1 by rw [← hx]; exact Pk.rdInt_in _ (refR_small K0.out.rd))))
        have HP1 := hid (refRInt_any g top l p1 q1 u1 K1.out.rd)
        clear hr hs hg hx R HP0
        go_wp2_with fail
        rw [← hu]
        clear hu z cc
        refine HP1.out.mono ?_
        rintro e v2 ⟨p2, q2, rfl, hr, hs, hg⟩
        obtain ⟨x2, hx⟩ : ∃ x, (rdInt (stOf l p1 q1)).1 = x := ⟨_, rfl⟩
        rw [hx]
        have R := K1.out.call hr hg
        have z := row_free R.r3 2
        have cc := row_cell R.r3 2
        obtain ⟨u2, hu⟩ : ∃ u, u = v2.setCell ⟨be, 2, none⟩ (.int .i64 x2) := ⟨_, rfl⟩
        have K2 : Hid (RkB w2 u2 g top l p2 q2 b5 (.cells #[.slice A k c, .slice none 0 0] 25 (0, 0)) be #[.int .i64 x0, .int .i64 x1, .int .i64 x2, .int .i64 0, .int .i64 0, .slice none 0 0, .slice none 0 0, .slice none 0 0, .slice none 0 0, .slice none 0 0] 75) := hid (by rw [hu]; exact R.set 2 _)
        have T2 : Hid (Turned (fun k => k = g ∨ k = be) wr u2) := hid (by rw [hu]; exact (T1.out.trans (Turned.ofGrown hg (fun k e => by injection e with e; exact .inl e.symm))).setCell be 2 _ (fun _ => .inr rfl))
        have S32 := hid (And.intro hx (And.intro hs (show InInt x2 by rw [← hx]; exact Pk.rdInt_in _ (refR_small K1.out.rd))))
        have HP2 := hid (rgLog_any g top l p2 q2 u2 K2.out.rd)
        clear hr hs hg hx R HP1
        go_wp2_with fail
        rw [← hu]
        clear hu z cc
        refine HP2.out.mono ?_
        rintro e v3 ⟨p3, q3, A3, c3, rfl, ho, hr, hs, hg⟩
        obtain ⟨lg, hx⟩ : ∃ x, (rdLg (stOf l p2 q2)).1 = x := ⟨_, rfl⟩
        rw [hx] at ho
        rw [hx]
        have R := K2.out.call hr hg
        have st := stAt info_log33 (conf_there R.r3 3 3 (by simp)) #[.int .i64 lg.base, .int .i64 lg.term, .slice A3 lg.es.length c3] rfl (by simp [Value.oneCell'])
        obtain ⟨u3, hu⟩ : ∃ u, u = v3.setCells be 3 [.int .i64 lg.base, .int .i64 lg.term, .slice A3 lg.es.length c3] := ⟨_, rfl⟩
        have K3 : Hid (RkB w2 u3 g top l p3 q3 b5 (.cells #[.slice A k c, .slice none 0 0] 25 (0, 0)) be #[.int .i64 x0, .int .i64 x1, .int .i64 x2, .int .i64 lg.base, .int .i64 lg.term, .slice A3 lg.es.length c3, .slice none 0 0, .slice none 0 0, .slice none 0 0, .slice none 0 0] 75) := hid (by rw [hu]; exact ((R.set 3 (.int .i64 lg.base)).set 4 (.int .i64 lg.term)).set 5 (.slice A3 lg.es.length c3))
        have tu : Turned (fun k => k = g ∨ k = be) v3 u3 := by rw [hu]; exact (turned_setCells be [.int .i64 lg.base, .int .i64 lg.term, .slice A3 lg.es.length c3] v3 3).mono (fun k e => .inr e)
        have T3 : Hid (Turned (fun k => k = g ∨ k = be) wr u3) := hid ((T2.out.trans (Turned.ofGrown hg (fun k e => by injection e with e; exact .inl e.symm))).trans tu)
        have O3 : Hid (OwnE u3 u2.heap.size v3.heap.size A3 c3 lg.es ∧ v3.heap.size ≤ u3.heap.size ∧ u2.heap.size ≤ v3.heap.size) := hid ⟨ho.keep tu (fun k hk hB => by have h1 := hB.1; have h2 := K2.out.rd.top_; have h3 := Rg.row_lt' K2.out.r3; omega), tu.size, hg.size⟩
        have S33 := hid (And.intro hx (And.intro hs (show InInt lg.base ∧ InInt lg.term by rw [← hx]; exact rdLg_num (refR_small K2.out.rd))))
        have HP3 := hid (rgConf_any g top l p3 q3 u3 K3.out.rd)
        rw [hu] at HP3
        rw [← hu] at HP3
        clear ho hr hs hg hx R HP2 tu
        go_wp2_with fail
        rw [← hu]
        clear hu st
        refine HP3.out.mono ?_
        rintro e v4 ⟨p4, q4, A4, A5, A6, c4, c5, c6, rfl, ho, hr, hs, hg⟩
        obtain ⟨cf, hx⟩ : ∃ x, (rdCf (stOf l p3 q3)).1 = x := ⟨_, rfl⟩
        rw [hx] at ho
        rw [hx]
        have R := K3.out.call hr hg
        have st := stAt info_conf33 (conf_there R.r3 6 3 (by simp)) #[.slice A4 cf.old.length c4, .slice A5 cf.new.length c5, .slice A6 cf.lrn.length c6] rfl (by simp [Value.oneCell'])
        obtain ⟨u4, hu⟩ : ∃ u, u = v4.setCells be 6 [.slice A4 cf.old.length c4, .slice A5 cf.new.length c5, .slice A6 cf.lrn.length c6] := ⟨_, rfl⟩
        have K4 : Hid (RkB w2 u4 g top l p4 q4 b5 (.cells #[.slice A k c, .slice none 0 0] 25 (0, 0)) be #[.int .i64 x0, .int .i64 x1, .int .i64 x2, .int .i64 lg.base, .int .i64 lg.term, .slice A3 lg.es.length c3, .slice A4 cf.old.length c4, .slice A5 cf.new.length c5, .slice A6 cf.lrn.length c6, .slice none 0 0] 75) := hid (by rw [hu]; exact ((R.set 6 (.slice A4 cf.old.length c4)).set 7 (.slice A5 cf.new.length c5)).set 8 (.slice A6 cf.lrn.length c6))
        have tu : Turned (fun k => k = g ∨ k = be) v4 u4 := by rw [hu]; exact (turned_setCells be [.slice A4 cf.old.length c4, .slice A5 cf.new.length c5, .slice A6 cf.lrn.length c6] v4 6).mono (fun k e => .inr e)
        have T4 : Hid (Turned (fun k => k = g ∨ k = be) wr u4) := hid ((T3.out.trans (Turned.ofGrown hg (fun k e => by injection e with e; exact .inl e.symm))).trans tu)
        have G4 : Hid (Turned (fun k => k = g ∨ k = be) u3 u4) := hid ((Turned.ofGrown hg (fun k e => by injection e with e; exact .inl e.symm)).trans tu)
        have O4 : Hid (OwnsI 3 u4 u3.heap.size A4 c4 cf.old ∧ OwnsI 3 u4 u3.heap.size A5 c5 cf.new ∧ OwnsI 3 u4 u3.heap.size A6 c6 cf.lrn) := hid (by
          have h2 := K3.out.rd.top_
          have h3 := Rg.row_lt' K3.out.r3
          exact ⟨ownsI_turned ho.1 tu (fun k hk e => by have := (ho.1.blkLt k hk).1; omega), ownsI_turned ho.2.1 tu (fun k hk e => by have := (ho.2.1.blkLt k hk).1; omega), ownsI_turned ho.2.2 tu (fun k hk e => by have := (ho.2.2.blkLt k hk).1; omega)⟩)
        have S34 := hid (And.intro hx hs)
        have HP4 := hid (refRBlob_any g top l p4 q4 u4 K4.out.rd)
        clear ho hr hs hg hx R HP3 tu
        go_wp2_with fail
        rw [← hu]
        clear hu st
        refine HP4.out.mono ?_
        rintro e v5 ⟨p5, q5, A7, c7, rfl, ho, hr, hs, hg⟩
        obtain ⟨d, hx⟩ : ∃ x, (rdBlob (stOf l p4 q4)).1 = x := ⟨_, rfl⟩
        rw [hx] at ho
        rw [hx]
        have R := K4.out.call hr hg
        have z := row_free R.r3 9
        have cc := row_cell R.r3 9
        obtain ⟨u5, hu⟩ : ∃ u, u = v5.setCell ⟨be, 9, none⟩ (.slice A7 d.length c7) := ⟨_, rfl⟩
        have K5 : Hid (RkB w2 u5 g top l p5 q5 b5 (.cells #[.slice A k c, .slice none 0 0] 25 (0, 0)) be #[.int .i64 x0, .int .i64 x1, .int .i64 x2, .int .i64 lg.base, .int .i64 lg.term, .slice A3 lg.es.length c3, .slice A4 cf.old.length c4, .slice A5 cf.new.length c5, .slice A6 cf.lrn.length c6, .slice A7 d.length c7] 75) := hid (by rw [hu]; exact R.set 9 _)
        have tu : Turned (fun k => k = g ∨ k = be) v5 u5 := by rw [hu]; exact (Turned.refl _ v5).setCell be 9 _ (fun _ => .inr rfl)
        have T5 : Turned (fun k => k = g ∨ k = be) wr u5 := (T4.out.trans (Turned.ofGrown hg (fun k e => by injection e with e; exact .inl e.symm))).trans tu
        have G5 : Turned (fun k => k = g ∨ k = be) u4 u5 := (Turned.ofGrown hg (fun k e => by injection e with e; exact .inl e.symm)).trans tu
        have hd5 : OwnsB 5 u5 u4.heap.size A7 c7 d := by
          have h2 := K4.out.rd.top_
          have h3 := Rg.row_lt' K4.out.r3
          exact ho.turned tu (fun k hk e => by have := (ho.blkLt k hk).1; omega)
        obtain ⟨hs34, hs45⟩ : u3.heap.size ≤ u4.heap.size ∧ u4.heap.size ≤ u5.heap.size := ⟨G4.out.size, G5.size⟩
        have hbe := HBE.out
        have hlt5 := HQ.out.lt
        have hbe2 : be < u2.heap.size := Rg.row_lt' K2.out.r3
        have hs23 : u2.heap.size ≤ v3.heap.size ∧ v3.heap.size ≤ u3.heap.size := ⟨O3.out.2.2, O3.out.2.1⟩
        obtain ⟨w6, hw6⟩ : ∃ w6, w6 = u5.alloc (.cells #[.int .i64 x0, .int .i64 x1, .int .i64 x2, .int .i64 lg.base, .int .i64 lg.term, .slice A3 lg.es.length c3, .slice A4 cf.old.length c4, .slice A5 cf.new.length c5, .slice A6 cf.lrn.length c6, .slice A7 d.length c7] 75) := ⟨_, rfl⟩
        have b56 : Below u5.heap.size u5 w6 := by rw [hw6]; exact (Below.refl _ _).alloc (Nat.le_refl _) _
        obtain ⟨ax, hax⟩ : ∃ ax : Ad, ax = ⟨A3, c3, A4, c4, A5, c5, A6, c6, A7, c7⟩ := ⟨_, rfl⟩
        have hpt : PtIn u5 (b5 + 1) u5.heap.size ⟨lg, cf, d⟩ ax := by
          obtain ⟨o1, o2, o3⟩ := O4.out
          have e3 := ((O3.out.1.keep (G4.out.trans G5) (fun k hk hB => by have h1 := hB.1; omega)).wide (B' := b5 + 1) (N' := u5.heap.size) (by omega) (by omega))
          have e4 := ownsI_turned o1 G5 (fun k hk e => by have := (o1.blkLt k hk).1; omega)
          have e5 := ownsI_turned o2 G5 (fun k hk e => by have := (o2.blkLt k hk).1; omega)
          have e6 := ownsI_turned o3 G5 (fun k hk e => by have := (o3.blkLt k hk).1; omega)
          rw [hax]
          exact ⟨e3, ⟨e4.weaken (by omega), fun k hk => (e4.blkLt k hk).2⟩, ⟨e5.weaken (by omega), fun k hk => (e5.blkLt k hk).2⟩, ⟨e6.weaken (by omega), fun k hk => (e6.blkLt k hk).2⟩, ⟨hd5.weaken (by omega), fun k hk => (hd5.blkLt k hk).2⟩, S33.out.2.2⟩
        have h6 : InHs w6 (b5 + 1) wr.heap.size A c M := (HQ.out.own.keep T5 (fun k hk hB => by have h1 := hB.1; have h2 := hB.2; omega)).keep (Turned.ofBelow (fun _ => False) b56) (fun k hk => hk.elim)
        have hz5 : v5.heap.size = u5.heap.size := by rw [hu, sz_set]
        have hc6 : ∀ j, j < 10 → w6.cell? ((⟨v5.heap.size, 0, none⟩ : Addr).add j) = (cellsH ⟨⟨x0, x1, x2, ⟨lg, cf, d⟩⟩, ax⟩)[j]? := fun j hj => by
          rw [add_off, Nat.zero_add, hz5, hw6, row_cell (heap_alloc_new u5 _) j, hax]; simp [cellsH]
        have hr6 := h6.row
        have k8 := row_cell K5.out.r1 0
        have ld8 := ldRow info_hard Tryz.underlying75 rfl K5.out.r3 rfl
        have H6 := hid (And.intro h6 (And.intro (hpt.below b56) (And.intro b56 (And.intro (show wr.heap.size ≤ u5.heap.size from T5.size) (show b5 < u5.heap.size from by omega)))))
        have S35 := hid (And.intro hx hs)
        rw [hw6, hu] at hr6 hc6
        rw [hu] at k8 ld8
        have HRr := hid hr6
        have HCr := hid hc6
        have HUW := hid (And.intro hu (And.intro hw6 hax))
        clear ho hr hs hg hx R HP4 tu T5 G5 hd5 hs34 hs45 hbe hlt5 hbe2 hs23 b56 hpt h6 hz5 hr6 hc6 hu hw6 hax
        go_wp2_with (at_builtin; refine wpList_append_rowM rfl _ _ 22 rfl i0 _ Tryz.underlying22 hi hz0 hz1 hz2 rfl (by decide) HRr.out k HQ.out.len rfl ⟨⟨x0, x1, x2, ⟨lg, cf, d⟩⟩, ax⟩ ⟨v5.heap.size, 0, none⟩ 1 rfl HCr.out (cellsH_one _) (by omega) (by omega) ?_)
        intro A9 c9 w7 hrow7 hg7 _
        rw [← HUW.out.1, ← HUW.out.2.1] at hg7
        have HF : Hid (Rh w2 (w7.setCell ⟨b5, 0, none⟩ (.slice A9 (k + 1) c9)) g top l p5 q5 b5 A9 c9 (M ++ [⟨⟨x0, x1, x2, ⟨lg, cf, d⟩⟩, ax⟩]) (k + 1) n (stOf l a2 b2)) := hid (by
          obtain ⟨h6, hpt6, b56, hs1, hs2⟩ := H6.out
          have hn5 : w6.heap.size = v5.heap.size + 1 := by rw [HUW.out.2.1, World.size_alloc, HUW.out.1, sz_set]
          have hz5 : v5.heap.size = u5.heap.size := by rw [HUW.out.1, sz_set]
          have hbe := HBE.out
          have hlt5 := HQ.out.lt
          have h7 := InHs.put2 h6 hpt6 (by omega) ⟨S30.out.2.2, S31.out.2.2, S32.out.2.2⟩ (by omega) (by omega) hn5 hrow7 hg7
          have hb57 : Below (b5 + 1) u5 w7 := (b56.mono (by omega)).trans (below_grown hg7 (by omega) (fun k hk => (h6.row.blk k hk).1))
          obtain ⟨rd7, gr7, r7⟩ := K5.out.belowB hb57
          have he := rdH_of S30.out.1 S30.out.2.1 S31.out.1 S31.out.2.1 S32.out.1 S32.out.2.1 S33.out.1 S33.out.2.1 S34.out.1 S34.out.2 S35.out.1 S35.out.2
          refine ⟨rd7.other (grown_setCell w7 b5 0 _) (fun j e => by injection e; omega), grown_trans gr7 (grown_setCell w7 b5 0 _) (fun j e hj => by injection e; omega), row_set r7 0 _, ?_, by rw [List.length_append, HQ.out.len]; rfl, ?_, hlt5⟩
          · rw [sz_set]
            exact h7.keep ((Turned.refl (fun k => k = b5) w7).setCell b5 0 _ (fun _ => rfl)) (fun k hk hB => by have := hB.1; omega)
          · rw [HQ.out.eq, show n - k = (n - (k + 1)) + 1 by omega, rdN_one rdH _ _ rfl, he]
            simp)
        have hk7 : w7.frozen? ⟨b5, 0, none⟩ = false ∧ w7.cell? ⟨b5, 0, none⟩ = some (.slice A k c) := by
          obtain ⟨h6, hpt6, b56, hs1, hs2⟩ := H6.out
          have hs6 := b56.size
          obtain ⟨rd7, gr7, r7⟩ := K5.out.belowB ((b56.mono (by omega)).trans (below_grown hg7 (by omega) (fun k hk => (h6.row.blk k hk).1)))
          exact ⟨row_free r7 0, row_cell r7 0⟩
        obtain ⟨z7, c7'⟩ := hk7
        clear HQ K0 K1 K2 K3 K4 K5 T0 T1 T2 T3 T4 G4 O3 O4 S30 S31 S32 S33 S34 S35 H6 HUW HRr HCr hrow7 hg7 HBE z cc k8 ld8
        go_wp2_with fail
        go_roundw
        case rel => exact ⟨k + 1, by omega, by go_num, hid ⟨p5, q5, A9, c9, _, HF.out⟩⟩
        case measure => simp [RowKit.intOf]; omega
    · obtain rfl : k = n := by omega
      have hlt0 : ¬ (k : Int) < (k : Int) := by omega
      have HEND : Hid (rdN rdH k (stOf l a2 b2) = (M.map (·.h), stOf l a5 b6)) := hid (by rw [HQ.out.eq, rdN_end rdH _ _ (.inl (Nat.sub_self k)), List.append_nil])
      have HPm := hid (rgMany_any g top l a5 b6 wr HQ.out.rd)
      clear hlt
      go_wp2_with fail
      refine HPm.out.mono ?_
      rintro e v10 ⟨a10, b10, rfl, hr, hs, hg⟩
      obtain ⟨m2, hm⟩ : ∃ x, (rdMany (stOf l a5 b6)).1 = x := ⟨_, rfl⟩
      rw [hm]
      have HM2 : Hid (0 ≤ m2 ∧ m2 ≤ 65536) := hid (by rw [← hm]; exact rdMany_in (by have := H1.out.2.2.2; omega))
      obtain ⟨nv, rfl⟩ : ∃ n : Nat, m2 = (n : Int) := ⟨m2.toNat, by have := HM2.out; omega⟩
      have hnv1 : nv ≤ 65536 := by have := HM2.out; omega
      obtain ⟨N, hN⟩ : ∃ N, N = wr.heap.size := ⟨_, rfl⟩
      have HV0 : Hid (Rv w2 v10 g top l a10 b10 b5 A c M k N none 0 [] 0 nv (stOf l a10 b10)) := hid (by
        subst hN
        have h5 := Rg.row_lt' HQ.out.r5
        have hlt5 := HQ.out.lt
        have ht := HQ.out.rd.top_
        exact ⟨hr, grown_trans HQ.out.gr hg (fun k e _ => e), (hg.block _ h5 (fun e => by injection e; omega)).trans HQ.out.r5, HQ.out.own.keep (Turned.ofGrown (S := fun k => k = g) hg (fun k e => by injection e with e; exact e.symm)) (fun k hk hB => by have := hB.1; omega), InVs.nil _ _ _, rfl, by simp, ⟨hlt5.1, hlt5.2, by omega, hg.size⟩⟩)
      have SM2 := hid (And.intro hm hs)
      have HML := hid HQ.out.len
      clear hr hs hg hm HPm HM2 HQ hN
      go_wp2_with fail
      go_loopw [10] (fun i wr => ∃ kv : Nat, kv ≤ nv ∧ i = .int .i64 (kv : Int) ∧ Hid (∃ a7 b7 Av cv L, Rv w2 wr g top l a7 b7 b5 A c M k N Av cv L kv nv (stOf l a10 b10))) (fun i _ => nv - (RowKit.intOf i).toNat)
      case atStart => exact ⟨0, Nat.zero_le _, rfl, hid ⟨_, _, _, _, _, HV0.out⟩⟩
      case round =>
        clear HV0
        obtain ⟨kv, hkv, rfl, HQ0⟩ := hrel
        obtain ⟨a7, b7, Av, cv, L, hQ⟩ := HQ0.out
        have HQ := hid hQ
        obtain ⟨_, _, _, _, cb2, _⟩ := hQ.rd.cells
        clear hQ HQ0
        by_cases hltv : kv < nv
        · have hltv0 : (kv : Int) < (nv : Int) := by omega
          cases b7 with
          | true =>
            have HENDV : Hid (rdN rdV nv (stOf l a10 b10) = (L, stOf l a7 true)) := hid (by rw [HQ.out.eq, rdN_end rdV _ _ (.inr rfl), List.append_nil])
            have HE := refEnd_any g top l a7 true wr HQ.out.rd
            obtain ⟨ee, hee⟩ : ∃ ee, endOf ⟨leftOf l a7 true, true⟩ = ee := ⟨_, rfl⟩
            rw [hee] at HE
            replace HE := hid HE
            have HW : Hid (whole rdIm ⟨[], []⟩ l = if ee ≠ 0 then (⟨[], []⟩, ee) else (⟨M.map (·.h), L⟩, 0)) := hid (by
              have e1 : rdIm ⟨l, false⟩ = (⟨M.map (·.h), L⟩, stOf l a7 true) := by
                unfold rdIm rdM rdP
                simp only [rdL_many, ← stOf_new l, S2.out.1, ← S2.out.2, Int.toNat_natCast, HEND.out, SM2.out.1, ← SM2.out.2, HENDV.out]
              have e2 : fin (rdIm ⟨l, false⟩).2 = ee := by
                rw [← hee, e1]; rfl
              unfold whole
              rw [e2, e1])
            have hec : ee = 0 ∨ ee = 2 ∨ ee = 4 := by
              rw [← hee]; unfold endOf
              split
              · exact .inr (.inr rfl)
              · split
                · exact .inr (.inl rfl)
                · exact .inl rfl
            have H5 : Hid (wr.heap[b1]? = some (.cells #[.slice none 0 0, .slice none 0 0] 25 (0, 0)) ∧ Below w.heap.size w wr ∧ b1 < b5) := hid (by
              obtain ⟨k1, k2, k3, k4⟩ := H1.out
              obtain ⟨j1, j2, j3, j4, j5, j6, j7⟩ := H3.out
              have hb1 := HB1.out
              have s1 := j1.size
              have ht := HQ.out.rd.top_
              rw [hb1]
              exact ⟨(HQ.out.gr.block _ (by omega) (fun e => by injection e; omega)).trans ((j1.block _ (by omega)).trans k3), k1.trans ((j1.mono (by omega)).trans (below_grown HQ.out.gr (by omega) (fun k e => by injection e; omega))), by omega⟩)
            have HVL := hid HQ.out.len
            clear hee hltv HEND HENDV SM2 S2
            go_wp2_with fail
            refine HE.out.mono ?_
            rintro e w5 ⟨rfl, nn, hw5⟩
            have b5r : Below wr.heap.size wr w5 := by rw [hw5]; exact below_drewN (Below.refl _ _) nn
            have z5 : w5.heap[b1]? = some (.cells #[.slice none 0 0, .slice none 0 0] 25 (0, 0)) := by rw [hw5]; exact H5.out.1
            have r5 : w5.heap[b5]? = some (.cells #[.slice A k c, .slice Av kv cv] 25 (0, 0)) := by rw [hw5]; exact HQ.out.r5
            have low5 : Below w.heap.size w w5 := H5.out.2.1.trans (b5r.mono H5.out.2.1.size)
            have hh5 : InHs w5 (b5 + 1) N A c M := HQ.out.own.keep (Turned.ofBelow (fun _ => False) b5r) (fun k hk => hk.elim)
            have hv5 : InVs w5 N wr.heap.size Av cv L := HQ.out.vs.below b5r
            have H6 := hid (And.intro z5 (And.intro r5 (And.intro low5 (And.intro hh5 (And.intro hv5 (And.intro HQ.out.lt.2.2 (And.intro b5r.size H5.out.2.2)))))))
            clear hw5 b5r z5 r5 low5 hh5 hv5 HQ HE H5
            by_cases he : ee = 0
            · subst he
              have HX : Hid (whole rdIm ⟨[], []⟩ l = (⟨M.map (·.h), L⟩, 0)) := hid (by rw [HW.out]; rfl)
              have ld5 := ldRow info_image2 Tryz.underlying25 rfl H6.out.2.1 rfl
              have HOR := refOrdered_any ⟨A, c, Av, cv⟩ k kv M L HML.out HVL.out (by omega) (by omega) w5 (H6.out.2.2.2.1.wide (Nat.le_refl _) (by have := H6.out.2.2.2.2.2; omega)).reads (H6.out.2.2.2.2.1.wide (Nat.le_refl _) (by have := H6.out.2.2.2.2.2; omega)).reads
              obtain ⟨bs, hbs⟩ : ∃ b, sorted ⟨M.map (·.h), L⟩ = b := ⟨_, rfl⟩
              rw [hbs] at HOR
              replace HOR := hid HOR
              have HBS := hid hbs
              clear hbs HW hec
              cases bs with
              | false =>
                have HG : Hid (get l = (⟨[], []⟩, 15)) := hid (by unfold get; rw [HX.out, if_pos ⟨rfl, HBS.out⟩])
                go_wp2_with fail
                refine HOR.out.mono ?_
                rintro e w6 ⟨rfl, hb6⟩
                have z6 := (hb6.block _ (row_lt H6.out.1)).trans H6.out.1
                have low6 := H6.out.2.2.1.trans (hb6.mono H6.out.2.2.1.size)
                have hst6 := stSame info_image2 z6 rfl (by simp [Value.oneCell'])
                have H7 := hid (And.intro z6 low6)
                clear hb6 z6 low6 ld5
                go_wp2_with fail
                refine bodyPost_ret (results_two rfl info_image2 Tryz.underlying25 rfl _ _ b1 _ _ _ rfl H7.out.1 rfl) rfl ?_
                exact imPost_nil HG.out rfl H7.out.2
              | true =>
                have HG : Hid (get l = (⟨M.map (·.h), L⟩, 0)) := hid (by unfold get; rw [HX.out, if_neg (fun h => by have := h.2; rw [HBS.out] at this; cases this)])
                go_wp2_with fail
                refine HOR.out.mono ?_
                rintro e w6 ⟨rfl, hb6⟩
                have z6 := (hb6.block _ (row_lt H6.out.1)).trans H6.out.1
                have x6 := (hb6.block _ (row_lt H6.out.2.1)).trans H6.out.2.1
                have low6 := H6.out.2.2.1.trans (hb6.mono H6.out.2.2.1.size)
                have ld6 := ldRow info_image2 Tryz.underlying25 rfl x6 rfl
                have hst6 := stRow info_image2 (cs' := #[.slice A k c, .slice Av kv cv]) z6 rfl rfl (by simp [Value.oneCell'])
                have hro7 := setRow_heap w6 b1 _ #[.slice A k c, .slice Av kv cv] _ _ z6
                have ht7 := row_turned w6 b1 #[.slice A k c, .slice Av kv cv]
                generalize w6.setRow b1 #[.slice A k c, .slice Av kv cv] = w7 at hst6 hro7 ht7
                have H7 := hid (And.intro hro7 (And.intro ht7 (And.intro low6 hb6)))
                clear hb6 z6 x6 low6 hro7 ht7 ld5
                go_wp2_with fail
                refine bodyPost_ret (results_two rfl info_image2 Tryz.underlying25 rfl _ _ b1 _ _ _ rfl H7.out.1 rfl) rfl ?_
                unfold ImPost
                rw [HG.out]
                obtain ⟨_, ht7, low6, hb6⟩ := H7.out
                obtain ⟨_, _, _, hh5, hv5, ⟨n1, n2⟩, n3, n4⟩ := H6.out
                have n5 := hb6.size
                have n6 := ht7.size
                have hh7 := (InHs.keep (InHs.keep hh5 (Turned.ofBelow (fun _ => False) hb6) (fun k hk => hk.elim)) ht7 (fun k hk hB => by have h1 := hB.1; omega)).wide (Nat.le_refl _) (N' := w7.heap.size) (by omega)
                have hv7 := (InVs.keep (InVs.keep hv5 (Turned.ofBelow (fun _ => False) hb6) (fun k hk => hk.elim)) ht7 (fun k hk hB => by have h1 := hB.1; omega)).wide (Nat.le_refl _) (N' := w7.heap.size) (by omega)
                have hbw : Below w.heap.size w w7 := low6.trans (ht7.below low6.size (fun k hk => by have := HB1.out; omega))
                exact ⟨⟨A, c, Av, cv⟩, M, by rw [List.length_map, HML.out, HVL.out]; rfl, rfl, hh7.reads, hv7.reads, hbw⟩
            · have HG : Hid (get l = (⟨[], []⟩, ee)) := hid (by rw [get_bad (by rw [HW.out, if_pos he]; exact he), HW.out, if_pos he])
              have hst5 := stSame info_image2 H6.out.1 rfl (by simp [Value.oneCell'])
              clear HW
              go_wp2_with fail
              refine bodyPost_ret (results_two rfl info_image2 Tryz.underlying25 rfl _ _ b1 _ _ _ rfl H6.out.1 rfl) rfl ?_
              exact imPost_nil HG.out rfl H6.out.2.2.1
          | false =>
            obtain ⟨v, hv⟩ : ∃ v, (rdV (stOf l a7 false)).1 = v := ⟨_, rfl⟩
            have HPv := rgVote_any g top l a7 false wr.drew (HQ.out.rd.drewN 1)
            rw [hv] at HPv
            replace HPv := hid HPv
            have HVV := hid hv
            have R1 : Hid (wr.drew.heap[b5]? = some (.cells #[.slice A k c, .slice Av kv cv] 25 (0, 0))) := hid HQ.out.r5
            have HLQ : Hid (b5 < wr.heap.size ∧ g < b5) := hid ⟨Rg.row_lt' HQ.out.r5, by have := HQ.out.lt; have := HQ.out.rd.top_; omega⟩
            clear hltv hv
            go_wp2_with fail
            clear cb2
            have hopL : opL6 = Op.load 23 (.tmp 66) := rfl
            rw [← hopL]
            have f1 := row_cell R1.out 1
            go_region_held3 (fun W => True)
              (exact trivial)
              (first
                | (go_at_call 76; refine HPv.out.mono ?_; rintro e w4 ⟨a8, b8, rfl, hr, hs, hg⟩; have HG := hid (And.intro hr (And.intro hs hg)); have R4 := hid ((hg.block _ HLQ.out.1 (fun e => by injection e; have := HLQ.out.2; omega)).trans R1.out); have f4 := row_cell R4.out 1; have R5 := hid (((Below.refl _ w4).alloc (Nat.le_refl _) (.cells #[.int .i64 v.x, .int .i64 v.p, .int .i64 v.r, .int .i64 v.b, .int .i64 v.v] 60)).block _ (Rg.row_lt' R4.out) |>.trans R4.out); have f5 := row_cell R5.out 1; have V5 := hid ((HQ.out.vs.1.keep ((Turned.refl (fun k => k = g) wr).drew.trans (Turned.ofGrown (S := fun k => k = g) hg (fun k e => by injection e with e; exact e.symm))) (fun k hk e => by have h1 := (HQ.out.vs.1.blk k hk).1; have h2 := HQ.out.lt; have h3 := HLQ.out.2; omega)).below ((Below.refl _ w4).alloc (Nat.le_refl _) (.cells #[.int .i64 v.x, .int .i64 v.p, .int .i64 v.r, .int .i64 v.b, .int .i64 v.v] 60))); clear hr hs hg)
                | (refine step_append_row (by rfl) _ _ 23 (by rfl) j0 _ Tryz.underlying23 hj hy0 hy1 hy2 (by rfl) (by decide) V5.out kv HQ.out.len rfl v ⟨w4.heap.size, 0, none⟩ 1 (by rfl) (fun j hj' => by rw [add_off, Nat.zero_add, row_cell (heap_alloc_new w4 _) j]; simp [cellsV]) (cellsV_one v) (by omega) (by omega) ?_; intro A9 c9 w9 hrow9 hg9 _; have R9 := hid ((hg9.block _ (Rg.row_lt' R5.out) (fun e => by have h1 := (HQ.out.vs.1.blk _ e.symm).1; have h2 := HQ.out.lt; omega)).trans R5.out); have f9 := row_cell R9.out 1; have z9 := row_free R9.out 1; have HG9 := hid (And.intro hrow9 hg9); clear hrow9 hg9)
                | fail)
            all_goals
              (have HF : Hid (Rv w2 (w9.setCell ⟨b5, 1, none⟩ (.slice A9 (kv + 1) c9)) g top l a8 b8 b5 A c M k N A9 c9 (L ++ [v]) (kv + 1) nv (stOf l a10 b10)) := hid (by
                 obtain ⟨hr, hs, hg⟩ := HG.out
                 obtain ⟨hrow9, hg9⟩ := HG9.out
                 have hlt5 := HQ.out.lt
                 have h2 := HLQ.out
                 have ht := HQ.out.rd.top_
                 have hgs : wr.heap.size ≤ w4.heap.size := hg.size
                 have b45 : Below w4.heap.size w4 (w4.alloc (.cells #[.int .i64 v.x, .int .i64 v.p, .int .i64 v.r, .int .i64 v.b, .int .i64 v.v] 60)) := (Below.refl _ w4).alloc (Nat.le_refl _) _
                 have z45 := b45.size
                 have hblk : ∀ k, blk Av = some k → N ≤ k := fun k hk => (HQ.out.vs.1.blk k hk).1
                 have b59 : Below N (w4.alloc (.cells #[.int .i64 v.x, .int .i64 v.p, .int .i64 v.r, .int .i64 v.b, .int .i64 v.v] 60)) w9 := below_grown hg9 (by omega) hblk
                 have t4 : Turned (fun k => k = g ∨ N ≤ k) wr w4 := (Turned.refl _ wr).drew.trans (Turned.ofGrown hg (fun k e => by injection e with e; exact .inl e.symm))
                 have t9 : Turned (fun k => k = g ∨ N ≤ k) wr w9 := (t4.trans (Turned.ofBelow _ b45)).trans (Turned.ofGrown hg9 (fun k e => .inr (hblk k e)))
                 have hg24 := grown_then (grown_trans (grown_drew HQ.out.gr) hg (fun k e _ => e)) (b45.mono (by have := HQ.out.gr.size; omega))
                 have hg29 := grown_trans hg24 hg9 (fun k e hj => by have := hblk k e; omega)
                 refine ⟨((hr.below b45).belowB b59 (by omega)).other (grown_setCell w9 b5 1 _) (fun j e => by injection e; omega), grown_trans hg29 (grown_setCell w9 b5 1 _) (fun j e hj => by injection e; omega), row_set R9.out 1 _, (HQ.out.own.keep t9 (fun k hk hB => by have h1 := hB.1; have h3 := hB.2; omega)).keep ((Turned.refl (fun k => k = b5) w9).setCell b5 1 _ (fun _ => rfl)) (fun k hk hB => by have h1 := hB.1; omega), ?_, by rw [List.length_append, HQ.out.len]; rfl, ?_, ⟨hlt5.1, hlt5.2.1, hlt5.2.2.1, by rw [sz_set]; have := t9.size; omega⟩⟩
                 · rw [sz_set]
                   refine InVs.keep (w := w9) ⟨hrow9.mono (fun k hk => ⟨?_, hrow9.lt k hk⟩), fun x hx => ?_⟩ ((Turned.refl (fun k => k = b5) w9).setCell b5 1 _ (fun _ => rfl)) (fun k hk hB => by have h1 := hB.1; omega)
                   · rcases hrow9.blk k hk with e | e
                     · exact e.1
                     · have e' : (w4.alloc (.cells #[.int .i64 v.x, .int .i64 v.p, .int .i64 v.r, .int .i64 v.b, .int .i64 v.v] 60)).heap.size ≤ k := e
                       omega
                   · rcases List.mem_append.1 hx with hx | hx
                     · exact HQ.out.vs.2 x hx
                     · rw [List.mem_singleton.1 hx, ← HVV.out]; exact rdV_good _ (refR_small HQ.out.rd)
                 · rw [HQ.out.eq, show nv - kv = (nv - (kv + 1)) + 1 by omega, rdN_one rdV _ _ rfl, HVV.out, hs]
                   simp)
               clear HQ HG HG9 R1 R4 R5 R9 V5 HPv HVV HLQ f1 f4 f5 f9 z9
               go_wp2_with fail
               go_roundw)
            all_goals first | exact ⟨kv + 1, by omega, by go_num, hid ⟨a8, b8, A9, c9, _, HF.out⟩⟩ | (simp [RowKit.intOf]; omega)
        · obtain rfl : kv = nv := by omega
          have hltv0 : ¬ (kv : Int) < (kv : Int) := by omega
          have HENDV : Hid (rdN rdV kv (stOf l a10 b10) = (L, stOf l a7 b7)) := hid (by rw [HQ.out.eq, rdN_end rdV _ _ (.inl (Nat.sub_self kv)), List.append_nil])
          have HE := refEnd_any g top l a7 b7 wr HQ.out.rd
          obtain ⟨ee, hee⟩ : ∃ ee, endOf ⟨leftOf l a7 b7, b7⟩ = ee := ⟨_, rfl⟩
          rw [hee] at HE
          replace HE := hid HE
          have HW : Hid (whole rdIm ⟨[], []⟩ l = if ee ≠ 0 then (⟨[], []⟩, ee) else (⟨M.map (·.h), L⟩, 0)) := hid (by
            have e1 : rdIm ⟨l, false⟩ = (⟨M.map (·.h), L⟩, stOf l a7 b7) := by
              unfold rdIm rdM rdP
              simp only [rdL_many, ← stOf_new l, S2.out.1, ← S2.out.2, Int.toNat_natCast, HEND.out, SM2.out.1, ← SM2.out.2, HENDV.out]
            have e2 : fin (rdIm ⟨l, false⟩).2 = ee := by
              rw [← hee, e1]; rfl
            unfold whole
            rw [e2, e1])
          have hec : ee = 0 ∨ ee = 2 ∨ ee = 4 := by
            rw [← hee]; unfold endOf
            split
            · exact .inr (.inr rfl)
            · split
              · exact .inr (.inl rfl)
              · exact .inl rfl
          have H5 : Hid (wr.heap[b1]? = some (.cells #[.slice none 0 0, .slice none 0 0] 25 (0, 0)) ∧ Below w.heap.size w wr ∧ b1 < b5) := hid (by
            obtain ⟨k1, k2, k3, k4⟩ := H1.out
            obtain ⟨j1, j2, j3, j4, j5, j6, j7⟩ := H3.out
            have hb1 := HB1.out
            have s1 := j1.size
            have ht := HQ.out.rd.top_
            rw [hb1]
            exact ⟨(HQ.out.gr.block _ (by omega) (fun e => by injection e; omega)).trans ((j1.block _ (by omega)).trans k3), k1.trans ((j1.mono (by omega)).trans (below_grown HQ.out.gr (by omega) (fun k e => by injection e; omega))), by omega⟩)
          have HVL := hid HQ.out.len
          clear hee hltv HEND HENDV SM2 S2
          go_wp2_with fail
          refine HE.out.mono ?_
          rintro e w5 ⟨rfl, nn, hw5⟩
          have b5r : Below wr.heap.size wr w5 := by rw [hw5]; exact below_drewN (Below.refl _ _) nn
          have z5 : w5.heap[b1]? = some (.cells #[.slice none 0 0, .slice none 0 0] 25 (0, 0)) := by rw [hw5]; exact H5.out.1
          have r5 : w5.heap[b5]? = some (.cells #[.slice A k c, .slice Av kv cv] 25 (0, 0)) := by rw [hw5]; exact HQ.out.r5
          have low5 : Below w.heap.size w w5 := H5.out.2.1.trans (b5r.mono H5.out.2.1.size)
          have hh5 : InHs w5 (b5 + 1) N A c M := HQ.out.own.keep (Turned.ofBelow (fun _ => False) b5r) (fun k hk => hk.elim)
          have hv5 : InVs w5 N wr.heap.size Av cv L := HQ.out.vs.below b5r
          have H6 := hid (And.intro z5 (And.intro r5 (And.intro low5 (And.intro hh5 (And.intro hv5 (And.intro HQ.out.lt.2.2 (And.intro b5r.size H5.out.2.2)))))))
          clear hw5 b5r z5 r5 low5 hh5 hv5 HQ HE H5
          by_cases he : ee = 0
          · subst he
            have HX : Hid (whole rdIm ⟨[], []⟩ l = (⟨M.map (·.h), L⟩, 0)) := hid (by rw [HW.out]; rfl)
            have ld5 := ldRow info_image2 Tryz.underlying25 rfl H6.out.2.1 rfl
            have HOR := refOrdered_any ⟨A, c, Av, cv⟩ k kv M L HML.out HVL.out (by omega) (by omega) w5 (H6.out.2.2.2.1.wide (Nat.le_refl _) (by have := H6.out.2.2.2.2.2; omega)).reads (H6.out.2.2.2.2.1.wide (Nat.le_refl _) (by have := H6.out.2.2.2.2.2; omega)).reads
            obtain ⟨bs, hbs⟩ : ∃ b, sorted ⟨M.map (·.h), L⟩ = b := ⟨_, rfl⟩
            rw [hbs] at HOR
            replace HOR := hid HOR
            have HBS := hid hbs
            clear hbs HW hec
            cases bs with
            | false =>
              have HG : Hid (get l = (⟨[], []⟩, 15)) := hid (by unfold get; rw [HX.out, if_pos ⟨rfl, HBS.out⟩])
              go_wp2_with fail
              refine HOR.out.mono ?_
              rintro e w6 ⟨rfl, hb6⟩
              have z6 := (hb6.block _ (row_lt H6.out.1)).trans H6.out.1
              have low6 := H6.out.2.2.1.trans (hb6.mono H6.out.2.2.1.size)
              have hst6 := stSame info_image2 z6 rfl (by simp [Value.oneCell'])
              have H7 := hid (And.intro z6 low6)
              clear hb6 z6 low6 ld5
              go_wp2_with fail
              refine bodyPost_ret (results_two rfl info_image2 Tryz.underlying25 rfl _ _ b1 _ _ _ rfl H7.out.1 rfl) rfl ?_
              exact imPost_nil HG.out rfl H7.out.2
            | true =>
              have HG : Hid (get l = (⟨M.map (·.h), L⟩, 0)) := hid (by unfold get; rw [HX.out, if_neg (fun h => by have := h.2; rw [HBS.out] at this; cases this)])
              go_wp2_with fail
              refine HOR.out.mono ?_
              rintro e w6 ⟨rfl, hb6⟩
              have z6 := (hb6.block _ (row_lt H6.out.1)).trans H6.out.1
              have x6 := (hb6.block _ (row_lt H6.out.2.1)).trans H6.out.2.1
              have low6 := H6.out.2.2.1.trans (hb6.mono H6.out.2.2.1.size)
              have ld6 := ldRow info_image2 Tryz.underlying25 rfl x6 rfl
              have hst6 := stRow info_image2 (cs' := #[.slice A k c, .slice Av kv cv]) z6 rfl rfl (by simp [Value.oneCell'])
              have hro7 := setRow_heap w6 b1 _ #[.slice A k c, .slice Av kv cv] _ _ z6
              have ht7 := row_turned w6 b1 #[.slice A k c, .slice Av kv cv]
              generalize w6.setRow b1 #[.slice A k c, .slice Av kv cv] = w7 at hst6 hro7 ht7
              have H7 := hid (And.intro hro7 (And.intro ht7 (And.intro low6 hb6)))
              clear hb6 z6 x6 low6 hro7 ht7 ld5
              go_wp2_with fail
              refine bodyPost_ret (results_two rfl info_image2 Tryz.underlying25 rfl _ _ b1 _ _ _ rfl H7.out.1 rfl) rfl ?_
              unfold ImPost
              rw [HG.out]
              obtain ⟨_, ht7, low6, hb6⟩ := H7.out
              obtain ⟨_, _, _, hh5, hv5, ⟨n1, n2⟩, n3, n4⟩ := H6.out
              have n5 := hb6.size
              have n6 := ht7.size
              have hh7 := (InHs.keep (InHs.keep hh5 (Turned.ofBelow (fun _ => False) hb6) (fun k hk => hk.elim)) ht7 (fun k hk hB => by have h1 := hB.1; omega)).wide (Nat.le_refl _) (N' := w7.heap.size) (by omega)
              have hv7 := (InVs.keep (InVs.keep hv5 (Turned.ofBelow (fun _ => False) hb6) (fun k hk => hk.elim)) ht7 (fun k hk hB => by have h1 := hB.1; omega)).wide (Nat.le_refl _) (N' := w7.heap.size) (by omega)
              have hbw : Below w.heap.size w w7 := low6.trans (ht7.below low6.size (fun k hk => by have := HB1.out; omega))
              exact ⟨⟨A, c, Av, cv⟩, M, by rw [List.length_map, HML.out, HVL.out]; rfl, rfl, hh7.reads, hv7.reads, hbw⟩
          · have HG : Hid (get l = (⟨[], []⟩, ee)) := hid (by rw [get_bad (by rw [HW.out, if_pos he]; exact he), HW.out, if_pos he])
            have hst5 := stSame info_image2 H6.out.1 rfl (by simp [Value.oneCell'])
            clear HW
            go_wp2_with fail
            refine bodyPost_ret (results_two rfl info_image2 Tryz.underlying25 rfl _ _ b1 _ _ _ rfl H6.out.1 rfl) rfl ?_
            exact imPost_nil HG.out rfl H6.out.2.2.1
end Go.Proofs.YtaeoccpjdjafnaaGreat.Im
namespace Go.Proofs.YtaeoccpjdjafnaaGreat.Im
open Go Go.RowKit
open Rl (En Lg)
open Qu (Cf)
open Pk (enc encs rdInt rdInts rdBlob St)
set_option maxRecDepth 100000
set_option linter.unusedVariables false
local instance lo26 : Lo := ⟨0⟩
attribute [local go_sem ↓] loadAt_log1 storeAt_log1 loadAt_conf3 storeAt_conf3 loadAt_vote storeAt_vote loadAt_change storeAt_change
theorem InCs.put2 {B N N' : Nat} {w5 w6 : World} {n5 c1 c6 : Nat} {A1 A6 : Option Addr} {L : List Cq} {x : Cq} (h : InCs w5 B N A1 c1 L) (ho : PtIn w5 B N' x.c.p x.a) (hN' : N' ≤ n5) (hn : (InInt x.c.k ∧ InInt x.c.g ∧ InInt x.c.t ∧ InInt x.c.v ∧ InInt x.c.f) ∧ okV x.c.a) (hN : N ≤ n5) (hBN : B ≤ N) (hn5 : w5.heap.size = n5) (hrow6 : RowIn cellsC 17 62 w6 (fun k => Bl B N k ∨ n5 ≤ k) A6 c6 (L ++ [x])) (hg6 : w5.grownBy w6 (Go.Proofs.YtaeoccpjdjafnaaGreat.blk A1)) :
    InCs w6 B w6.heap.size A6 c6 (L ++ [x]) := by
  have hw6 := hg6.size
  have kp56 : Kp Parts w5 w6 := by
    rcases hb : Go.Proofs.YtaeoccpjdjafnaaGreat.blk A1 with _ | k
    · rw [hb] at hg6
      exact Kp.ofBelow (below_grown hg6 (Nat.le_refl _) (fun j e => by cases e))
    · rw [hb] at hg6
      obtain ⟨cur, hc⟩ := h.row.tag hb
      exact Kp.ofGrown hc (by rintro (e | e | e) <;> exact absurd e (by decide)) hg6
  refine ⟨hrow6.mono (fun k hk => ⟨?_, hrow6.lt k hk⟩), fun q hq => ?_, fun q hq => ?_⟩
  · rcases hrow6.blk k hk with e | e
    · exact e.1
    · omega
  · rcases List.mem_append.1 hq with hq | hq
    · exact ((h.pts q hq).kp kp56).wide (Nat.le_refl _) (by omega)
    · obtain rfl := List.mem_singleton.1 hq
      exact (ho.kp kp56).wide (Nat.le_refl _) (by omega)
  · rcases List.mem_append.1 hq with hq | hq
    · exact h.num q hq
    · obtain rfl := List.mem_singleton.1 hq; exact hn
theorem sz_sets : ∀ (L : List Value) (w : World) (b o : Nat), (w.setCells b o L).heap.size = w.heap.size
  | [], _, _, _ => rfl
  | v :: L, w, b, o => (sz_sets L (w.setCell ⟨b, o, none⟩ v) b (o + 1)).trans (sz_set _ _ _)
/-- amid the changes -/
structure RhC (w wr : World) (g top : Nat) (B : List Nat) (a : Nat) (b : Bool) (A : Option Addr) (c : Nat) (M : List Cq) (k n : Nat) (s : St) : Prop where
  rd : RefR wr g top B a b
  gr : w.grownBy wr (some g)
  own : InCs wr w.heap.size wr.heap.size A c M
  len : M.length = k
  eq : rdN rdC n s = (M.map (·.c) ++ (rdN rdC (n - k) (stOf B a b)).1, (rdN rdC (n - k) (stOf B a b)).2)
  lt : top ≤ w.heap.size
/-- amid one of them: the reader, the box that is filled -/
structure RkC (w W : World) (g top : Nat) (B : List Nat) (a : Nat) (b : Bool) (b3 : Nat) (c3 : Array Value) (t : TypeId) : Prop where
  rd : RefR W g top B a b
  gr : w.grownBy W (some g)
  r3 : W.heap[b3]? = some (.cells c3 t (0, 0))
  lt : w.heap.size ≤ b3 ∧ top ≤ w.heap.size
namespace RkC
variable {w W W' : World} {g top a a2 : Nat} {B : List Nat} {b b2 : Bool} {b3 : Nat} {c3 : Array Value} {t : TypeId}
theorem call (h : RkC w W g top B a b b3 c3 t) (hr : RefR W' g top B a2 b2) (hg : W.grownBy W' (some g)) : RkC w W' g top B a2 b2 b3 c3 t := by
  have hl := h.lt
  have ht := h.rd.top_
  exact ⟨hr, grown_trans h.gr hg (fun k e _ => e), (hg.block _ (Rg.row_lt' h.r3) (fun e => by injection e; omega)).trans h.r3, h.lt⟩
theorem set (h : RkC w W g top B a b b3 c3 t) (k : Nat) (u : Value) : RkC w (W.setCell ⟨b3, k, none⟩ u) g top B a b b3 (c3.setIfInBounds k u) t := by
  have hl := h.lt
  have hg := grown_setCell W b3 k u
  exact ⟨h.rd.other hg (fun j e => by injection e; omega), grown_trans h.gr hg (fun j e hj => by injection e; omega), row_set h.r3 k u, h.lt⟩
theorem belowB (h : RkC w W g top B a b b3 c3 t) (hb : Below w.heap.size W W') : RefR W' g top B a b ∧ w.grownBy W' (some g) := by
  have hl := h.lt
  have ht := h.rd.top_
  exact ⟨h.rd.belowB hb (by omega), ⟨hb.os.trans h.gr.os, hb.tape.trans h.gr.tape, hb.output.trans h.gr.output, Nat.le_trans h.gr.size hb.size, fun k hk hn => (hb.block k (by omega)).trans (h.gr.block k hk hn)⟩⟩
end RkC
theorem RhC.box {w wr v u : World} {g top a a2 k n : Nat} {B : List Nat} {b b2 : Bool} {c : Nat} {A : Option Addr} {M : List Cq} {s : St} {cs : Array Value} {t : TypeId} (h : RhC w wr g top B a b A c M k n s) (hr : RefR v g top B a2 b2) (hg : wr.grownBy v (some g)) (hu : u = v.alloc (.cells cs t)) : RkC w u g top B a2 b2 v.heap.size cs t := by
  have hlt := h.lt
  have ht := h.rd.top_
  have hz := hg.size
  have hw := h.gr.size
  have b34 : Below v.heap.size v u := by rw [hu]; exact (Below.refl _ _).alloc (Nat.le_refl _) _
  exact ⟨hr.below b34, grown_then (grown_trans h.gr hg (fun k e _ => e)) (b34.mono (by have := h.gr.size; omega)), by rw [hu]; exact heap_alloc_new _ _, ⟨by omega, hlt⟩⟩
/-- what a change's reading leaves, piece by piece -/
theorem rdC_of {s s1 s2 s3 s4 s5 s6 s7 s8 s9 : St} {x0 x1 x2 x3 x4 : Int} {lg : Lg} {cf : Cf} {d : List Nat} {v : Vt} (h0 : (rdInt s).1 = x0) (e0 : s1 = (rdInt s).2) (h1 : (rdInt s1).1 = x1) (e1 : s2 = (rdInt s1).2) (h2 : (rdInt s2).1 = x2) (e2 : s3 = (rdInt s2).2) (h3 : (rdInt s3).1 = x3) (e3 : s4 = (rdInt s3).2) (h4 : (rdInt s4).1 = x4) (e4 : s5 = (rdInt s4).2) (h5 : (rdLg s5).1 = lg) (e5 : s6 = (rdLg s5).2) (h6 : (rdCf s6).1 = cf) (e6 : s7 = (rdCf s6).2) (h7 : (rdBlob s7).1 = d) (e7 : s8 = (rdBlob s7).2) (h8 : (rdV s8).1 = v) (e8 : s9 = (rdV s8).2) : rdC s = (⟨x0, x1, x2, x3, x4, ⟨lg, cf, d⟩, v⟩, s9) := by
  unfold rdC rdPt rdM rdP
  simp only [h0, ← e0, h1, ← e1, h2, ← e2, h3, ← e3, h4, ← e4, h5, ← e5, h6, ← e6, h7, ← e7, h8, ← e8]
/-- what is told of changes that are read -/
def CsPost (l : List Nat) (w : World) (e : Ending) (w' : World) : Prop := ∃ (A : Option Addr) (c : Nat) (M : List Cq), e = .returned (.tuple #[.slice A (getCs l).1.length c, .int .i64 (getCs l).2]) ∧ M.map (·.c) = (getCs l).1 ∧ IsCs w' w'.heap.size A M ∧ Below w.heap.size w w'
set_option maxHeartbeats 25600000 in
theorem rGetCs_any (l : List Nat) (A0 : Option Addr) (c0 n0 : Nat) (hn0 : l.length = n0) (hl : n0 ≤ 65536) (w : World) (h : IsBytes w w.heap.size A0 l) :
    Calls Tryz.prog 25 #[.slice A0 n0 c0] w (CsPost l w) := by
  have HR0 := refReader_any w.heap.size A0 c0 l (by omega) w h (Nat.le_refl _)
  rw [hn0] at HR0
  replace HR0 := hid HR0
  have H1 := hid (And.intro hn0 hl)
  obtain ⟨i0, hi, hz0, hz1, hz2⟩ := info_parts info_change3
  clear h
  go_enter Tryz.func25, Tryz.ntmps25
  go_wp2_with fail
  refine HR0.out.mono ?_
  rintro e w2 ⟨rfl, hr2, hb2⟩
  obtain ⟨g, hg⟩ : ∃ g, g = w.heap.size := ⟨_, rfl⟩
  rw [← hg] at hr2
  obtain ⟨top, htop⟩ : ∃ t, t = w2.heap.size := ⟨_, rfl⟩
  rw [← htop] at hr2
  have HP := hid (rgMany_any g top l 0 false w2 hr2)
  have H3 := hid (And.intro hb2 (And.intro hg htop))
  clear hb2 hr2 HR0 htop
  go_wp2_with fail
  rw [← hg]
  clear hg
  refine HP.out.mono ?_
  rintro e v2 ⟨a2, b2, rfl, hr, hs, hg⟩
  obtain ⟨m, hm⟩ : ∃ x, (rdMany (stOf l 0 false)).1 = x := ⟨_, rfl⟩
  rw [hm]
  have HM0 : Hid (0 ≤ m ∧ m ≤ 65536) := hid (by rw [← hm]; exact rdMany_in (by have := H1.out; omega))
  obtain ⟨n, rfl⟩ : ∃ n : Nat, m = (n : Int) := ⟨m.toNat, by have := HM0.out; omega⟩
  have hn1 : n ≤ 65536 := by have := HM0.out; omega
  have H2 : Hid (RhC w2 v2 g top l a2 b2 none 0 [] 0 n (stOf l a2 b2)) := hid ⟨hr, hg, InCs.nil _ _ _, rfl, by simp, by have := H3.out.2.2; omega⟩
  have S2 := hid (And.intro hm hs)
  clear hr hs hg hm HP HM0
  go_wp2_with fail
  go_loopw [5, 7] (fun lv i wr => ∃ (k : Nat) (A : Option Addr) (c : Nat), k ≤ n ∧ lv = .slice A k c ∧ i = .int .i64 (k : Int) ∧ Hid (∃ a5 b6 M, RhC w2 wr g top l a5 b6 A c M k n (stOf l a2 b2))) (fun _ i _ => n - (RowKit.intOf i).toNat)
  case atStart => exact ⟨0, none, 0, Nat.zero_le _, rfl, rfl, hid ⟨_, _, _, H2.out⟩⟩
  case round =>
    clear H2
    obtain ⟨k, A, c, hk, rfl, rfl, HQ0⟩ := hrel
    obtain ⟨a5, b6, M, hQ⟩ := HQ0.out
    have HQ := hid hQ
    obtain ⟨_, _, _, _, cb, _⟩ := hQ.rd.cells
    clear hQ HQ0
    by_cases hlt : k < n
    · have hlt0 : (k : Int) < (n : Int) := by omega
      cases b6 with
      | true =>
        have HEND : Hid (rdN rdC n (stOf l a2 b2) = (M.map (·.c), stOf l a5 true)) := hid (by rw [HQ.out.eq, rdN_end rdC _ _ (.inr rfl), List.append_nil])
        have HE := refEnd_any g top l a5 true wr HQ.out.rd
        obtain ⟨ee, hee⟩ : ∃ ee, endOf ⟨leftOf l a5 true, true⟩ = ee := ⟨_, rfl⟩
        rw [hee] at HE
        replace HE := hid HE
        have HW : Hid (whole (rdL rdC) [] l = if ee ≠ 0 then ([], ee) else (M.map (·.c), 0)) := hid (by
          have e1 : rdL rdC ⟨l, false⟩ = (M.map (·.c), stOf l a5 true) := by
            rw [rdL_many, ← stOf_new l, S2.out.1, ← S2.out.2, Int.toNat_natCast, HEND.out]
          have e2 : fin (rdL rdC ⟨l, false⟩).2 = ee := by
            rw [← hee, e1]; rfl
          unfold whole
          rw [e2, e1])
        have hec : ee = 0 ∨ ee = 2 ∨ ee = 4 := by
          rw [← hee]; unfold endOf
          split
          · exact .inr (.inr rfl)
          · split
            · exact .inr (.inl rfl)
            · exact .inl rfl
        have H5 : Hid (Below w.heap.size w wr ∧ InCs wr w2.heap.size wr.heap.size A c M ∧ M.length = k) := hid (by
          obtain ⟨k1, k2, k3⟩ := H3.out
          have s1 := k1.size
          exact ⟨k1.trans (below_grown HQ.out.gr (by omega) (fun k e => by injection e; omega)), HQ.out.own, HQ.out.len⟩)
        clear hee hlt HEND S2 HQ
        go_wp2_with fail
        refine HE.out.mono ?_
        rintro e w5 ⟨rfl, nn, hw5⟩
        have H6 : Hid (Below w.heap.size w w5 ∧ InCs w5 w2.heap.size wr.heap.size A c M ∧ wr.heap.size ≤ w5.heap.size ∧ M.length = k) := hid (by
          have b5r : Below wr.heap.size wr w5 := by rw [hw5]; exact below_drewN (Below.refl _ _) nn
          exact ⟨H5.out.1.trans (b5r.mono H5.out.1.size), H5.out.2.1.keep (Turned.ofBelow (fun _ => False) b5r) (fun k hk => hk.elim), b5r.size, H5.out.2.2⟩)
        clear hw5 HE H5
        by_cases he : ee = 0
        · subst he
          have HX : Hid (getCs l = (M.map (·.c), 0)) := hid (by unfold getCs; rw [HW.out]; rfl)
          clear HW hec
          go_wp2_with fail
          go_ret2
          unfold CsPost
          rw [HX.out]
          exact ⟨A, c, M, by rw [List.length_map, H6.out.2.2.2]; rfl, rfl, (H6.out.2.1.wide (Nat.le_refl _) H6.out.2.2.1).reads, H6.out.1⟩
        · have HX : Hid (getCs l = ([], ee)) := hid (by unfold getCs; rw [HW.out, if_pos he])
          clear HW
          go_wp2_with fail
          go_ret2
          unfold CsPost
          rw [HX.out]
          exact ⟨none, 0, [], rfl, rfl, (InCs.nil w5 0 w5.heap.size).reads, H6.out.1⟩
      | false =>
        have HP := hid (refRInt_any g top l a5 false wr HQ.out.rd)
        clear hlt
        go_wp2_with fail
        refine HP.out.mono ?_
        rintro e v0 ⟨p0, q0, rfl, hr, hs, hg⟩
        obtain ⟨x0, hx⟩ : ∃ x, (rdInt (stOf l a5 false)).1 = x := ⟨_, rfl⟩
        rw [hx]
        obtain ⟨u0, hu⟩ : ∃ u, u = v0.alloc (.cells #[.int .i64 x0, .int .i64 0, .int .i64 0, .int .i64 0, .int .i64 0, .int .i64 0, .int .i64 0, .slice none 0 0, .slice none 0 0, .slice none 0 0, .slice none 0 0, .slice none 0 0, .int .i64 0, .int .i64 0, .int .i64 0, .int .i64 0, .int .i64 0] 62) := ⟨_, rfl⟩
        have hst := stNew v0 62 17 info_change #[.int .i64 0, .int .i64 0, .int .i64 0, .int .i64 0, .int .i64 0, .int .i64 0, .int .i64 0, .slice none 0 0, .slice none 0 0, .slice none 0 0, .slice none 0 0, .slice none 0 0, .int .i64 0, .int .i64 0, .int .i64 0, .int .i64 0, .int .i64 0] #[.int .i64 x0, .int .i64 0, .int .i64 0, .int .i64 0, .int .i64 0, .int .i64 0, .int .i64 0, .slice none 0 0, .slice none 0 0, .slice none 0 0, .slice none 0 0, .slice none 0 0, .int .i64 0, .int .i64 0, .int .i64 0, .int .i64 0, .int .i64 0] rfl rfl (by simp [Value.oneCell'])
        obtain ⟨be, hbe⟩ : ∃ be, be = v0.heap.size := ⟨_, rfl⟩
        have R := HQ.out.box hr hg hu
        rw [← hbe] at R
        have K0 := hid R
        have HBE : Hid (wr.heap.size ≤ be ∧ g < w2.heap.size) := hid ⟨by rw [hbe]; exact hg.size, by have := HQ.out.lt; have := HQ.out.rd.top_; omega⟩
        have T0 : Hid (Turned (fun k => k = g ∨ k = be) wr u0) := hid ((Turned.ofGrown hg (fun k e => by injection e with e; exact .inl e.symm)).trans (by rw [hu]; exact (Turned.refl _ v0).alloc _))
        have S30 := hid (And.intro hx (And.intro hs (show InInt x0 by rw [← hx]; exact Pk.rdInt_in _ (refR_small HQ.out.rd))))
        have HP0 := hid (refRInt_any g top l p0 q0 u0 R.rd)
        clear hr hs hg hx R HP cb
        go_wp2_with fail
        rw [← hu, ← hbe]
        clear hu hst hbe
        refine HP0.out.mono ?_
        rintro e v1 ⟨p1, q1, rfl, hr, hs, hg⟩
        obtain ⟨x1, hx⟩ : ∃ x, (rdInt (stOf l p0 q0)).1 = x := ⟨_, rfl⟩
        rw [hx]
        have R := K0.out.call hr hg
        have z := row_free R.r3 1
        have cc := row_cell R.r3 1
        obtain ⟨u1, hu⟩ : ∃ u, u = v1.setCell ⟨be, 1, none⟩ (.int .i64 x1) := ⟨_, rfl⟩
        have K1 : Hid (RkC w2 u1 g top l p1 q1 be #[.int .i64 x0, .int .i64 x1, .int .i64 0, .int .i64 0, .int .i64 0, .int .i64 0, .int .i64 0, .slice none 0 0, .slice none 0 0, .slice none 0 0, .slice none 0 0, .slice none 0 0, .int .i64 0, .int .i64 0, .int .i64 0, .int .i64 0, .int .i64 0] 62) := hid (by rw [hu]; exact R.set 1 _)
        have T1 : Hid (Turned (fun k => k = g ∨ k = be) wr u1) := hid (by rw [hu]; exact (T0.out.trans (Turned.ofGrown hg (fun k e => by injection e with e; exact .inl e.symm))).setCell be 1 _ (fun _ => .inr rfl))
        have S31 := hid (And.intro hx (And.intro hs (show InInt x1 by rw [← hx]; exact Pk.rdInt_in _ (refR_small K0.out.rd))))
        have HP1 := hid (refRInt_any g top l p1 q1 u1 K1.out.rd)
        clear hr hs hg hx R HP0
        go_wp2_with fail
        rw [← hu]
        clear hu z cc
        refine HP1.out.mono ?_
        rintro e v2 ⟨p2, q2, rfl, hr, hs, hg⟩
        obtain ⟨x2, hx⟩ : ∃ x, (rdInt (stOf l p1 q1)).1 = x := ⟨_, rfl⟩
        rw [hx]
        have R := K1.out.call hr hg
        have z := row_free R.r3 2
        have cc := row_cell R.r3 2
        obtain ⟨u2, hu⟩ : ∃ u, u = v2.setCell ⟨be, 2, none⟩ (.int .i64 x2) := ⟨_, rfl⟩
        have K2 : Hid (RkC w2 u2 g top l p2 q2 be #[.int .i64 x0, .int .i64 x1, .int .i64 x2, .int .i64 0, .int .i64 0, .int .i64 0, .int .i64 0, .slice none 0 0, .slice none 0 0, .slice none 0 0, .slice none 0 0, .slice none 0 0, .int .i64 0, .int .i64 0, .int .i64 0, .int .i64 0, .int .i64 0] 62) := hid (by rw [hu]; exact R.set 2 _)
        have T2 : Hid (Turned (fun k => k = g ∨ k = be) wr u2) := hid (by rw [hu]; exact (T1.out.trans (Turned.ofGrown hg (fun k e => by injection e with e; exact .inl e.symm))).setCell be 2 _ (fun _ => .inr rfl))
        have S32 := hid (And.intro hx (And.intro hs (show InInt x2 by rw [← hx]; exact Pk.rdInt_in _ (refR_small K1.out.rd))))
        have HP2 := hid (refRInt_any g top l p2 q2 u2 K2.out.rd)
        clear hr hs hg hx R HP1
        go_wp2_with fail
        rw [← hu]
        clear hu z cc
        refine HP2.out.mono ?_
        rintro e v3 ⟨p3, q3, rfl, hr, hs, hg⟩
        obtain ⟨x3, hx⟩ : ∃ x, (rdInt (stOf l p2 q2)).1 = x := ⟨_, rfl⟩
        rw [hx]
        have R := K2.out.call hr hg
        have z := row_free R.r3 3
        have cc := row_cell R.r3 3
        obtain ⟨u3, hu⟩ : ∃ u, u = v3.setCell ⟨be, 3, none⟩ (.int .i64 x3) := ⟨_, rfl⟩
        have K3 : Hid (RkC w2 u3 g top l p3 q3 be #[.int .i64 x0, .int .i64 x1, .int .i64 x2, .int .i64 x3, .int .i64 0, .int .i64 0, .int .i64 0, .slice none 0 0, .slice none 0 0, .slice none 0 0, .slice none 0 0, .slice none 0 0, .int .i64 0, .int .i64 0, .int .i64 0, .int .i64 0, .int .i64 0] 62) := hid (by rw [hu]; exact R.set 3 _)
        have T3 : Hid (Turned (fun k => k = g ∨ k = be) wr u3) := hid (by rw [hu]; exact (T2.out.trans (Turned.ofGrown hg (fun k e => by injection e with e; exact .inl e.symm))).setCell be 3 _ (fun _ => .inr rfl))
        have S33 := hid (And.intro hx (And.intro hs (show InInt x3 by rw [← hx]; exact Pk.rdInt_in _ (refR_small K2.out.rd))))
        have HP3 := hid (refRInt_any g top l p3 q3 u3 K3.out.rd)
        clear hr hs hg hx R HP2
        go_wp2_with fail
        rw [← hu]
        clear hu z cc
        refine HP3.out.mono ?_
        rintro e v4 ⟨p4, q4, rfl, hr, hs, hg⟩
        obtain ⟨x4, hx⟩ : ∃ x, (rdInt (stOf l p3 q3)).1 = x := ⟨_, rfl⟩
        rw [hx]
        have R := K3.out.call hr hg
        have z := row_free R.r3 4
        have cc := row_cell R.r3 4
        obtain ⟨u4, hu⟩ : ∃ u, u = v4.setCell ⟨be, 4, none⟩ (.int .i64 x4) := ⟨_, rfl⟩
        have K4 : Hid (RkC w2 u4 g top l p4 q4 be #[.int .i64 x0, .int .i64 x1, .int .i64 x2, .int .i64 x3, .int .i64 x4, .int .i64 0, .int .i64 0, .slice none 0 0, .slice none 0 0, .slice none 0 0, .slice none 0 0, .slice none 0 0, .int .i64 0, .int .i64 0, .int .i64 0, .int .i64 0, .int .i64 0] 62) := hid (by rw [hu]; exact R.set 4 _)
        have T4 : Hid (Turned (fun k => k = g ∨ k = be) wr u4) := hid (by rw [hu]; exact (T3.out.trans (Turned.ofGrown hg (fun k e => by injection e with e; exact .inl e.symm))).setCell be 4 _ (fun _ => .inr rfl))
        have S34 := hid (And.intro hx (And.intro hs (show InInt x4 by rw [← hx]; exact Pk.rdInt_in _ (refR_small K3.out.rd))))
        have HP4 := hid (rgLog_any g top l p4 q4 u4 K4.out.rd)
        clear hr hs hg hx R HP3
        go_wp2_with fail
        rw [← hu]
        clear hu z cc
        refine HP4.out.mono ?_
        rintro e v5 ⟨p5, q5, A3, c3, rfl, ho, hr, hs, hg⟩
        obtain ⟨lg, hx⟩ : ∃ x, (rdLg (stOf l p4 q4)).1 = x := ⟨_, rfl⟩
        rw [hx] at ho
        rw [hx]
        have R := K4.out.call hr hg
        have st := stAt info_log33 (conf_there R.r3 5 3 (by simp)) #[.int .i64 lg.base, .int .i64 lg.term, .slice A3 lg.es.length c3] rfl (by simp [Value.oneCell'])
        obtain ⟨u5, hu⟩ : ∃ u, u = v5.setCells be 5 [.int .i64 lg.base, .int .i64 lg.term, .slice A3 lg.es.length c3] := ⟨_, rfl⟩
        have K5 : Hid (RkC w2 u5 g top l p5 q5 be #[.int .i64 x0, .int .i64 x1, .int .i64 x2, .int .i64 x3, .int .i64 x4, .int .i64 lg.base, .int .i64 lg.term, .slice A3 lg.es.length c3, .slice none 0 0, .slice none 0 0, .slice none 0 0, .slice none 0 0, .int .i64 0, .int .i64 0, .int .i64 0, .int .i64 0, .int .i64 0] 62) := hid (by rw [hu]; exact ((R.set 5 (.int .i64 lg.base)).set 6 (.int .i64 lg.term)).set 7 (.slice A3 lg.es.length c3))
        have tu : Turned (fun k => k = g ∨ k = be) v5 u5 := by rw [hu]; exact (turned_setCells be [.int .i64 lg.base, .int .i64 lg.term, .slice A3 lg.es.length c3] v5 5).mono (fun k e => .inr e)
        have T5 : Hid (Turned (fun k => k = g ∨ k = be) wr u5) := hid ((T4.out.trans (Turned.ofGrown hg (fun k e => by injection e with e; exact .inl e.symm))).trans tu)
        have O5 : Hid (OwnE u5 u4.heap.size v5.heap.size A3 c3 lg.es ∧ v5.heap.size ≤ u5.heap.size ∧ u4.heap.size ≤ v5.heap.size) := hid ⟨ho.keep tu (fun k hk hB => by have h1 := hB.1; have h2 := K4.out.rd.top_; have h3 := Rg.row_lt' K4.out.r3; omega), tu.size, hg.size⟩
        have S35 := hid (And.intro hx (And.intro hs (show InInt lg.base ∧ InInt lg.term by rw [← hx]; exact rdLg_num (refR_small K4.out.rd))))
        have HP5 := hid (rgConf_any g top l p5 q5 u5 K5.out.rd)
        rw [hu] at HP5
        rw [← hu] at HP5
        clear ho hr hs hg hx R HP4 tu
        go_wp2_with fail
        rw [← hu]
        clear hu st
        refine HP5.out.mono ?_
        rintro e v6 ⟨p6, q6, A4, A5, A6, c4, c5, c6, rfl, ho, hr, hs, hg⟩
        obtain ⟨cf, hx⟩ : ∃ x, (rdCf (stOf l p5 q5)).1 = x := ⟨_, rfl⟩
        rw [hx] at ho
        rw [hx]
        have R := K5.out.call hr hg
        have st := stAt info_conf33 (conf_there R.r3 8 3 (by simp)) #[.slice A4 cf.old.length c4, .slice A5 cf.new.length c5, .slice A6 cf.lrn.length c6] rfl (by simp [Value.oneCell'])
        obtain ⟨u6, hu⟩ : ∃ u, u = v6.setCells be 8 [.slice A4 cf.old.length c4, .slice A5 cf.new.length c5, .slice A6 cf.lrn.length c6] := ⟨_, rfl⟩
        have K6 : Hid (RkC w2 u6 g top l p6 q6 be #[.int .i64 x0, .int .i64 x1, .int .i64 x2, .int .i64 x3, .int .i64 x4, .int .i64 lg.base, .int .i64 lg.term, .slice A3 lg.es.length c3, .slice A4 cf.old.length c4, .slice A5 cf.new.length c5, .slice A6 cf.lrn.length c6, .slice none 0 0, .int .i64 0, .int .i64 0, .int .i64 0, .int .i64 0, .int .i64 0] 62) := hid (by rw [hu]; exact ((R.set 8 (.slice A4 cf.old.length c4)).set 9 (.slice A5 cf.new.length c5)).set 10 (.slice A6 cf.lrn.length c6))
        have tu : Turned (fun k => k = g ∨ k = be) v6 u6 := by rw [hu]; exact (turned_setCells be [.slice A4 cf.old.length c4, .slice A5 cf.new.length c5, .slice A6 cf.lrn.length c6] v6 8).mono (fun k e => .inr e)
        have T6 : Hid (Turned (fun k => k = g ∨ k = be) wr u6) := hid ((T5.out.trans (Turned.ofGrown hg (fun k e => by injection e with e; exact .inl e.symm))).trans tu)
        have G6 : Hid (Turned (fun k => k = g ∨ k = be) u5 u6) := hid ((Turned.ofGrown hg (fun k e => by injection e with e; exact .inl e.symm)).trans tu)
        have O6 : Hid (OwnsI 3 u6 u5.heap.size A4 c4 cf.old ∧ OwnsI 3 u6 u5.heap.size A5 c5 cf.new ∧ OwnsI 3 u6 u5.heap.size A6 c6 cf.lrn) := hid (by
          have h2 := K5.out.rd.top_
          have h3 := Rg.row_lt' K5.out.r3
          exact ⟨ownsI_turned ho.1 tu (fun k hk e => by have := (ho.1.blkLt k hk).1; omega), ownsI_turned ho.2.1 tu (fun k hk e => by have := (ho.2.1.blkLt k hk).1; omega), ownsI_turned ho.2.2 tu (fun k hk e => by have := (ho.2.2.blkLt k hk).1; omega)⟩)
        have S36 := hid (And.intro hx hs)
        have HP6 := hid (refRBlob_any g top l p6 q6 u6 K6.out.rd)
        clear ho hr hs hg hx R HP5 tu
        go_wp2_with fail
        rw [← hu]
        clear hu st
        refine HP6.out.mono ?_
        rintro e v7 ⟨p7, q7, A7, c7, rfl, ho, hr, hs, hg⟩
        obtain ⟨d, hx⟩ : ∃ x, (rdBlob (stOf l p6 q6)).1 = x := ⟨_, rfl⟩
        rw [hx] at ho
        rw [hx]
        have R := K6.out.call hr hg
        have z := row_free R.r3 11
        have cc := row_cell R.r3 11
        obtain ⟨u7, hu⟩ : ∃ u, u = v7.setCell ⟨be, 11, none⟩ (.slice A7 d.length c7) := ⟨_, rfl⟩
        have K7 : Hid (RkC w2 u7 g top l p7 q7 be #[.int .i64 x0, .int .i64 x1, .int .i64 x2, .int .i64 x3, .int .i64 x4, .int .i64 lg.base, .int .i64 lg.term, .slice A3 lg.es.length c3, .slice A4 cf.old.length c4, .slice A5 cf.new.length c5, .slice A6 cf.lrn.length c6, .slice A7 d.length c7, .int .i64 0, .int .i64 0, .int .i64 0, .int .i64 0, .int .i64 0] 62) := hid (by rw [hu]; exact R.set 11 _)
        have tu : Turned (fun k => k = g ∨ k = be) v7 u7 := by rw [hu]; exact (Turned.refl _ v7).setCell be 11 _ (fun _ => .inr rfl)
        have T7 : Hid (Turned (fun k => k = g ∨ k = be) wr u7) := hid ((T6.out.trans (Turned.ofGrown hg (fun k e => by injection e with e; exact .inl e.symm))).trans tu)
        have G7 : Hid (Turned (fun k => k = g ∨ k = be) u6 u7) := hid ((Turned.ofGrown hg (fun k e => by injection e with e; exact .inl e.symm)).trans tu)
        have O7 : Hid (OwnsB 5 u7 u6.heap.size A7 c7 d) := hid (by
          have h2 := K6.out.rd.top_
          have h3 := Rg.row_lt' K6.out.r3
          exact ho.turned tu (fun k hk e => by have := (ho.blkLt k hk).1; omega))
        have S37 := hid (And.intro hx hs)
        have HP7 := hid (rgVote_any g top l p7 q7 u7 K7.out.rd)
        clear ho hr hs hg hx R HP6 tu
        go_wp2_with fail
        rw [← hu]
        clear hu z cc
        refine HP7.out.mono ?_
        rintro e v8 ⟨p8, q8, rfl, hr, hs, hg⟩
        obtain ⟨v, hx⟩ : ∃ x, (rdV (stOf l p7 q7)).1 = x := ⟨_, rfl⟩
        rw [hx]
        have R := K7.out.call hr hg
        have st := stAt info_vote (conf_there R.r3 12 5 (by simp)) #[.int .i64 v.x, .int .i64 v.p, .int .i64 v.r, .int .i64 v.b, .int .i64 v.v] rfl (by simp [Value.oneCell'])
        obtain ⟨u8, hu⟩ : ∃ u, u = v8.setCells be 12 [.int .i64 v.x, .int .i64 v.p, .int .i64 v.r, .int .i64 v.b, .int .i64 v.v] := ⟨_, rfl⟩
        have K8 : Hid (RkC w2 u8 g top l p8 q8 be #[.int .i64 x0, .int .i64 x1, .int .i64 x2, .int .i64 x3, .int .i64 x4, .int .i64 lg.base, .int .i64 lg.term, .slice A3 lg.es.length c3, .slice A4 cf.old.length c4, .slice A5 cf.new.length c5, .slice A6 cf.lrn.length c6, .slice A7 d.length c7, .int .i64 v.x, .int .i64 v.p, .int .i64 v.r, .int .i64 v.b, .int .i64 v.v] 62) := hid (by rw [hu]; exact ((((R.set 12 (.int .i64 v.x)).set 13 (.int .i64 v.p)).set 14 (.int .i64 v.r)).set 15 (.int .i64 v.b)).set 16 (.int .i64 v.v))
        have tu : Turned (fun k => k = g ∨ k = be) v8 u8 := by rw [hu]; exact (turned_setCells be [.int .i64 v.x, .int .i64 v.p, .int .i64 v.r, .int .i64 v.b, .int .i64 v.v] v8 12).mono (fun k e => .inr e)
        have T8 : Turned (fun k => k = g ∨ k = be) wr u8 := (T7.out.trans (Turned.ofGrown hg (fun k e => by injection e with e; exact .inl e.symm))).trans tu
        have G8 : Turned (fun k => k = g ∨ k = be) u7 u8 := (Turned.ofGrown hg (fun k e => by injection e with e; exact .inl e.symm)).trans tu
        obtain ⟨hs56, hs67, hs78⟩ : u5.heap.size ≤ u6.heap.size ∧ u6.heap.size ≤ u7.heap.size ∧ u7.heap.size ≤ u8.heap.size := ⟨G6.out.size, G7.out.size, G8.size⟩
        have hbe := HBE.out
        have hgrw := HQ.out.gr.size
        have hlt5 := HQ.out.lt
        have hbe2 : be < u4.heap.size := Rg.row_lt' K4.out.r3
        have hs23 : u4.heap.size ≤ v5.heap.size ∧ v5.heap.size ≤ u5.heap.size := ⟨O5.out.2.2, O5.out.2.1⟩
        obtain ⟨w6, hw6⟩ : ∃ w6, w6 = u8.alloc (.cells #[.int .i64 x0, .int .i64 x1, .int .i64 x2, .int .i64 x3, .int .i64 x4, .int .i64 lg.base, .int .i64 lg.term, .slice A3 lg.es.length c3, .slice A4 cf.old.length c4, .slice A5 cf.new.length c5, .slice A6 cf.lrn.length c6, .slice A7 d.length c7, .int .i64 v.x, .int .i64 v.p, .int .i64 v.r, .int .i64 v.b, .int .i64 v.v] 62) := ⟨_, rfl⟩
        have b56 : Below u8.heap.size u8 w6 := by rw [hw6]; exact (Below.refl _ _).alloc (Nat.le_refl _) _
        obtain ⟨ax, hax⟩ : ∃ ax : Ad, ax = ⟨A3, c3, A4, c4, A5, c5, A6, c6, A7, c7⟩ := ⟨_, rfl⟩
        have hpt : PtIn u8 w2.heap.size u8.heap.size ⟨lg, cf, d⟩ ax := by
          obtain ⟨o1, o2, o3⟩ := O6.out
          have G68 := G7.out.trans G8
          have o7 := O7.out
          have e3 := ((O5.out.1.keep (G6.out.trans G68) (fun k hk hB => by have h1 := hB.1; omega)).wide (B' := w2.heap.size) (N' := u8.heap.size) (by omega) (by omega))
          have e4 := ownsI_turned o1 G68 (fun k hk e => by have := (o1.blkLt k hk).1; omega)
          have e5 := ownsI_turned o2 G68 (fun k hk e => by have := (o2.blkLt k hk).1; omega)
          have e6 := ownsI_turned o3 G68 (fun k hk e => by have := (o3.blkLt k hk).1; omega)
          have e7 := o7.turned G8 (fun k hk e => by have := (o7.blkLt k hk).1; omega)
          rw [hax]
          exact ⟨e3, ⟨e4.weaken (by omega), fun k hk => (e4.blkLt k hk).2⟩, ⟨e5.weaken (by omega), fun k hk => (e5.blkLt k hk).2⟩, ⟨e6.weaken (by omega), fun k hk => (e6.blkLt k hk).2⟩, ⟨e7.weaken (by omega), fun k hk => (e7.blkLt k hk).2⟩, S35.out.2.2⟩
        have h6 : InCs w6 w2.heap.size wr.heap.size A c M := (HQ.out.own.keep T8 (fun k hk hB => by have h1 := hB.1; have h2 := hB.2; omega)).keep (Turned.ofBelow (fun _ => False) b56) (fun k hk => hk.elim)
        have hz5 : v8.heap.size = u8.heap.size := by rw [hu, sz_sets]
        have hc6 : ∀ j, j < 17 → w6.cell? ((⟨u8.heap.size, 0, none⟩ : Addr).add j) = (cellsC ⟨⟨x0, x1, x2, x3, x4, ⟨lg, cf, d⟩, v⟩, ax⟩)[j]? := fun j hj => by
          rw [add_off, Nat.zero_add, hw6, row_cell (heap_alloc_new u8 _) j, hax]; simp [cellsC]
        have hr6 := h6.row
        have ld8 := ldRow info_change Tryz.underlying62 rfl K8.out.r3 rfl
        have H6 := hid (And.intro h6 (And.intro (hpt.below b56) (And.intro b56 (show wr.heap.size ≤ u8.heap.size from T8.size))))
        have S38 := hid (And.intro hx (And.intro hs (show okV v by rw [← hx]; exact rdV_good _ (refR_small K7.out.rd))))
        rw [hw6, hu] at hr6 hc6
        rw [hu] at ld8
        have HRr := hid hr6
        have HCr := hid hc6
        have HUW := hid (And.intro hu (And.intro hw6 hax))
        clear hr hs hg hx R HP7 tu T8 G8 hs56 hs67 hs78 hbe hgrw hlt5 hbe2 hs23 b56 hpt h6 hz5 hr6 hc6 hu hw6 hax
        go_wp2_with (at_builtin; refine wpList_append_rowM rfl _ _ 45 rfl i0 _ Tryz.underlying45 hi hz0 hz1 hz2 rfl (by decide) HRr.out k HQ.out.len rfl ⟨⟨x0, x1, x2, x3, x4, ⟨lg, cf, d⟩, v⟩, ax⟩ ⟨(v8.setCells be 12 [.int .i64 v.x, .int .i64 v.p, .int .i64 v.r, .int .i64 v.b, .int .i64 v.v]).heap.size, 0, none⟩ 1 rfl HCr.out (cellsC_one _) (by omega) (by omega) ?_)
        intro A9 c9 w7 hrow7 hg7 _
        rw [← HUW.out.1, ← HUW.out.2.1] at hg7
        have HF : Hid (RhC w2 w7 g top l p8 q8 A9 c9 (M ++ [⟨⟨x0, x1, x2, x3, x4, ⟨lg, cf, d⟩, v⟩, ax⟩]) (k + 1) n (stOf l a2 b2)) := hid (by
          obtain ⟨h6, hpt6, b56, hs1⟩ := H6.out
          have hn5 : w6.heap.size = v8.heap.size + 1 := by rw [HUW.out.2.1, World.size_alloc, HUW.out.1, sz_sets]
          have hz5 : v8.heap.size = u8.heap.size := by rw [HUW.out.1, sz_sets]
          have hbe := HBE.out
          have hgrw := HQ.out.gr.size
          have hlt5 := HQ.out.lt
          have hrow8 : RowIn cellsC 17 62 w7 (fun k => Bl w2.heap.size wr.heap.size k ∨ w6.heap.size ≤ k) A9 c9 (M ++ [⟨⟨x0, x1, x2, x3, x4, ⟨lg, cf, d⟩, v⟩, ax⟩]) := hrow7.mono (fun k hk => (hrow7.blk k hk).imp id (fun e => by
            rw [HUW.out.2.1, World.size_alloc, HUW.out.1]
            first | exact e | simpa using e | (rw [sz_sets]; simpa using e)))
          have h7 := InCs.put2 h6 hpt6 (by omega) ⟨⟨S30.out.2.2, S31.out.2.2, S32.out.2.2, S33.out.2.2, S34.out.2.2⟩, S38.out.2.2⟩ (by omega) (by omega) rfl hrow8 hg7
          have hb57 : Below w2.heap.size u8 w7 := (b56.mono (by omega)).trans (below_grown hg7 (by omega) (fun k hk => (h6.row.blk k hk).1))
          obtain ⟨rd7, gr7⟩ := K8.out.belowB hb57
          have he := rdC_of S30.out.1 S30.out.2.1 S31.out.1 S31.out.2.1 S32.out.1 S32.out.2.1 S33.out.1 S33.out.2.1 S34.out.1 S34.out.2.1 S35.out.1 S35.out.2.1 S36.out.1 S36.out.2 S37.out.1 S37.out.2 S38.out.1 S38.out.2.1
          refine ⟨rd7, gr7, h7, by rw [List.length_append, HQ.out.len]; rfl, ?_, hlt5⟩
          rw [HQ.out.eq, show n - k = (n - (k + 1)) + 1 by omega, rdN_one rdC _ _ rfl, he]
          simp)
        clear HQ K0 K1 K2 K3 K4 K5 K6 K7 K8 T0 T1 T2 T3 T4 T5 T6 T7 G6 G7 O5 O6 O7 S30 S31 S32 S33 S34 S35 S36 S37 S38 H6 HUW HRr HCr hrow7 hg7 HBE st ld8
        go_wp2_with fail
        go_roundw
        case rel => exact ⟨k + 1, A9, c9, by omega, rfl, by go_num, hid ⟨p8, q8, _, HF.out⟩⟩
        case measure => simp [RowKit.intOf]; omega
    · obtain rfl : k = n := by omega
      have hlt0 : ¬ (k : Int) < (k : Int) := by omega
      have HEND : Hid (rdN rdC k (stOf l a2 b2) = (M.map (·.c), stOf l a5 b6)) := hid (by rw [HQ.out.eq, rdN_end rdC _ _ (.inl (Nat.sub_self k)), List.append_nil])
      have HE := refEnd_any g top l a5 b6 wr HQ.out.rd
      obtain ⟨ee, hee⟩ : ∃ ee, endOf ⟨leftOf l a5 b6, b6⟩ = ee := ⟨_, rfl⟩
      rw [hee] at HE
      replace HE := hid HE
      have HW : Hid (whole (rdL rdC) [] l = if ee ≠ 0 then ([], ee) else (M.map (·.c), 0)) := hid (by
        have e1 : rdL rdC ⟨l, false⟩ = (M.map (·.c), stOf l a5 b6) := by
          rw [rdL_many, ← stOf_new l, S2.out.1, ← S2.out.2, Int.toNat_natCast, HEND.out]
        have e2 : fin (rdL rdC ⟨l, false⟩).2 = ee := by
          rw [← hee, e1]; rfl
        unfold whole
        rw [e2, e1])
      have hec : ee = 0 ∨ ee = 2 ∨ ee = 4 := by
        rw [← hee]; unfold endOf
        split
        · exact .inr (.inr rfl)
        · split
          · exact .inr (.inl rfl)
          · exact .inl rfl
      have H5 : Hid (Below w.heap.size w wr ∧ InCs wr w2.heap.size wr.heap.size A c M ∧ M.length = k) := hid (by
        obtain ⟨k1, k2, k3⟩ := H3.out
        have s1 := k1.size
        exact ⟨k1.trans (below_grown HQ.out.gr (by omega) (fun k e => by injection e; omega)), HQ.out.own, HQ.out.len⟩)
      clear hee hlt HEND S2 HQ
      go_wp2_with fail
      refine HE.out.mono ?_
      rintro e w5 ⟨rfl, nn, hw5⟩
      have H6 : Hid (Below w.heap.size w w5 ∧ InCs w5 w2.heap.size wr.heap.size A c M ∧ wr.heap.size ≤ w5.heap.size ∧ M.length = k) := hid (by
        have b5r : Below wr.heap.size wr w5 := by rw [hw5]; exact below_drewN (Below.refl _ _) nn
        exact ⟨H5.out.1.trans (b5r.mono H5.out.1.size), H5.out.2.1.keep (Turned.ofBelow (fun _ => False) b5r) (fun k hk => hk.elim), b5r.size, H5.out.2.2⟩)
      clear hw5 HE H5
      by_cases he : ee = 0
      · subst he
        have HX : Hid (getCs l = (M.map (·.c), 0)) := hid (by unfold getCs; rw [HW.out]; rfl)
        clear HW hec
        go_wp2_with fail
        go_ret2
        unfold CsPost
        rw [HX.out]
        exact ⟨A, c, M, by rw [List.length_map, H6.out.2.2.2]; rfl, rfl, (H6.out.2.1.wide (Nat.le_refl _) H6.out.2.2.1).reads, H6.out.1⟩
      · have HX : Hid (getCs l = ([], ee)) := hid (by unfold getCs; rw [HW.out, if_pos he])
        clear HW
        go_wp2_with fail
        go_ret2
        unfold CsPost
        rw [HX.out]
        exact ⟨none, 0, [], rfl, rfl, (InCs.nil w5 0 w5.heap.size).reads, H6.out.1⟩
end Go.Proofs.YtaeoccpjdjafnaaGreat.Im
namespace Go.Proofs.YtaeoccpjdjafnaaGreat
open Go.RowKit

set_option maxHeartbeats 400000 in
theorem spoil_any (base : Nat) (A : Option Addr) (c : Nat) (l : List Nat) (hl : l.length ≤ maxLen) (w : World) (h : OwnsB 5 w base A c l) :
    Calls Tryz.prog 87 #[.slice A l.length c] w fun e w' => e = .returned (.tuple #[]) ∧ w.grownBy w' (Value.slice A l.length c).ownBlock := by
  unfold maxLen at hl
  go_enter Tryz.func87, Tryz.ntmps87
  go_wp2
  go_loopw [2] (fun i wr => ∃ k : Nat, ∃ L : List Nat, k ≤ l.length ∧ i = .int .i64 k ∧ L.length = l.length ∧ OwnsB 5 wr base A c L ∧ w.grownBy wr (Value.slice A l.length c).ownBlock) (fun i _ => l.length - (RowKit.intOf i).toNat)
  case atStart => exact ⟨0, l, by omega, rfl, rfl, h, grown_refl _ _⟩
  case round =>
    clear h
    obtain ⟨k, L, hk, rfl, hL, hown, hgr⟩ := hrel
    have HL := hid hL
    by_cases hlt : k < l.length
    · have hkl : k < L.length := by rw [hL]; exact hlt
      obtain ⟨g, rfl, _, _, hcg, hfg⟩ := hown.at_ hkl
      have h8 := hown.small L[k] (List.getElem_mem _)
      have HX : Hid (bits .xor .u8 (L[k] : Int) 90 = ((L[k] ^^^ 90 : Nat) : Int)) := hid (u8_xor_nat L[k] 90 h8 (by decide))
      have hs1 := hown.set_ k (L[k] ^^^ 90) (by have := Nat.xor_lt_two_pow (n := 8) h8 (show 90 < 2 ^ 8 by decide); simpa using this)
      have hg1 : w.grownBy (wr.setCell ⟨g, k, none⟩ (.int .u8 (L[k] ^^^ 90 : Nat))) (some g) := grown_trans hgr (grown_setCell _ _ _ _) (fun _ e _ => by injection e with e; rw [e])
      have HS := hid (And.intro hs1 hg1)
      clear hs1 hg1 hown hgr hL
      go_wp2
      rw [HX.out]
      go_roundw
      case rel => exact ⟨k + 1, _, by omega, by go_num, by rw [List.length_set]; exact HL.out, HS.out.1, HS.out.2⟩
      case measure => simp [RowKit.intOf]; omega
    · clear hL
      go_wp2
      go_end0
      exact ⟨rfl, hgr⟩
theorem spoil_N (base : Nat) (A : Option Addr) (c : Nat) (l : List Nat) (n : Nat) (hn : l.length = n) (hl : n ≤ maxLen) (w : World) (h : OwnsB 5 w base A c l) :
    Calls Tryz.prog 87 #[.slice A n c] w fun e w' => e = .returned (.tuple #[]) ∧ w.grownBy w' (blk A) := by
  subst hn; rw [← ownBlock_slice A l.length c]; exact spoil_any base A c l hl w h
end Go.Proofs.YtaeoccpjdjafnaaGreat
namespace Go.Proofs.YtaeoccpjdjafnaaGreat
open Go.RowKit

def deadE (_ : El) : El := ⟨⟨-77, 0, []⟩, none, 0⟩
/-- the bytes of entries: each its own block, all of them in F -/
structure BytesE (w : World) (F : Nat → Prop) (L : List El) : Prop where
  own : ∀ q ∈ L, OwnsB 5 w 0 q.A q.c q.e.d ∧ ∀ k, blk q.A = some k → F k
  apart : Apart (L.map fun q => blk q.A)
theorem BytesE.keep {w w' : World} {F S : Nat → Prop} {L : List El} (h : BytesE w F L) (ht : Turned S w w') (hd : ∀ q ∈ L, ∀ k, blk q.A = some k → ¬ S k) : BytesE w' F L :=
  ⟨fun q hq => ⟨(h.own q hq).1.turned ht (hd q hq), (h.own q hq).2⟩, h.apart⟩
/-- the first k of them are written over -/
def halfE (L : List El) (k : Nat) : List El := (L.take k).map deadE ++ L.drop k
theorem halfE_length (L : List El) (k : Nat) (h : k ≤ L.length) : (halfE L k).length = L.length := by unfold halfE; rw [List.length_append, List.length_map, List.length_take, List.length_drop]; omega
theorem halfE_get (L : List El) (k : Nat) (h : k < L.length) : (halfE L k)[k]'(by rw [halfE_length L k (by omega)]; exact h) = L[k] := by
  have : (halfE L k)[k]? = some L[k] := by
    unfold halfE
    rw [List.getElem?_append_right (by rw [List.length_map, List.length_take]; omega), List.length_map, List.length_take, List.getElem?_drop, show k + (k - min k L.length) = k by omega, List.getElem?_eq_getElem h]
  rw [List.getElem?_eq_getElem (by rw [halfE_length L k (by omega)]; exact h)] at this
  exact Option.some.inj this
theorem halfE_set (L : List El) (k : Nat) (h : k < L.length) : (halfE L k).set k (deadE L[k]) = halfE L (k + 1) := by
  unfold halfE
  have hl : ((L.take k).map deadE).length = k := by rw [List.length_map, List.length_take]; omega
  rw [List.set_append_right _ _ (by omega), hl, Nat.sub_self, List.drop_eq_getElem_cons h, List.set_cons_zero, List.take_succ_eq_append_getElem h, List.map_append, List.append_assoc]
  rfl
/-- so far -/
structure SpToE (w wr : World) (F : Nat → Prop) (A : Option Addr) (c : Nat) (L : List El) (k : Nat) : Prop where
  row : RowIn cellsE 3 73 wr F A c (halfE L k)
  byt : BytesE wr F (L.drop k)
  tur : Turned F w wr

set_option maxHeartbeats 1600000 in
set_option maxRecDepth 100000 in
theorem spoilEs_any (F : Nat → Prop) (A : Option Addr) (c : Nat) (L : List El) (hL : L.length ≤ 100000) (w : World) (h : RowIn cellsE 3 73 w F A c L) (hb : BytesE w F L) :
    Calls Tryz.prog 86 #[.slice A L.length c] w fun e w' => e = .returned (.tuple #[]) ∧ Turned F w w' := by
  have H0 : Hid (SpToE w w F A c L 0) := hid ⟨by unfold halfE; simpa using h, by simpa using hb, Turned.refl _ _⟩
  clear h hb
  go_enter Tryz.func86, Tryz.ntmps86
  go_wp2_with fail
  go_loopw [2] (fun i wr => ∃ k : Nat, k ≤ L.length ∧ i = .int .i64 k ∧ Hid (SpToE w wr F A c L k)) (fun i _ => L.length - (RowKit.intOf i).toNat)
  case atStart => exact ⟨0, by omega, rfl, H0⟩
  case round =>
    clear H0
    obtain ⟨k, hk, rfl, hS⟩ := hrel
    by_cases hlt : k < L.length
    · have hlt' : k < (halfE L k).length := by rw [halfE_length L k hk]; exact hlt
      obtain ⟨g, rfl, hg, hFg, hc, hf⟩ := hS.out.row.get k hlt'
      rw [halfE_get L k hlt] at hc
      have c2 : wr.cell? ⟨g, k * 3 + 2, none⟩ = some (.slice L[k].A L[k].e.d.length L[k].c) := hc 2 (by omega)
      have hk0 : (k : Int) < (L.length : Int) := by omega
      have hdk : L.drop k = L[k] :: L.drop (k + 1) := List.drop_eq_getElem_cons hlt
      have hmem : L[k] ∈ L.drop k := by rw [hdk]; exact List.mem_cons_self
      have ho := hS.out.byt.own L[k] hmem
      have HSp := hid (spoil_N 0 L[k].A L[k].c L[k].e.d L[k].e.d.length rfl (Nat.le_trans ho.1.room.1 ho.1.room.2) wr ho.1)
      have HI := hid (And.intro ho (And.intro hdk (And.intro hlt' (And.intro hg (And.intro hFg hf)))))
      have cc : Hid (∀ j, j < 3 → wr.cell? ⟨g, k * 3 + j, none⟩ = (cellsE L[k])[j]?) := hid hc
      clear hc hf ho hdk hmem hlt' hFg
      go_wp2_with fail
      refine HSp.out.mono ?_
      rintro e w2 ⟨rfl, hg2⟩
      obtain ⟨ho, hdk, hlt', hg', hFg, hf⟩ := HI.out
      have T2 : Turned (fun j => blk L[k].A = some j) wr w2 := Turned.ofGrown hg2 (fun j hj => hj)
      have hnb : ¬ blk L[k].A = some g := fun e => by
        obtain ⟨cur, hcur⟩ := hS.out.row.tag (k := g) rfl
        exact ho.1.ne hcur (by decide) e
      have r2 := hS.out.row.keep T2 (fun j hj e => hnb (by have hj : g = j := (by injection hj); rw [hj]; exact e))
      have d0 : w2.cell? ⟨g, k * 3, none⟩ = some (.int .i64 L[k].e.t) := (T2.cell (p := ⟨g, k * 3, none⟩) hg' hnb).trans (cc.out 0 (by omega))
      have d1 : w2.cell? ⟨g, k * 3 + 1, none⟩ = some (.int .i64 L[k].e.k) := (T2.cell (p := ⟨g, k * 3 + 1, none⟩) hg' hnb).trans (cc.out 1 (by omega))
      have d2 : w2.cell? ⟨g, k * 3 + 2, none⟩ = some (.slice L[k].A L[k].e.d.length L[k].c) := (T2.cell (p := ⟨g, k * 3 + 2, none⟩) hg' hnb).trans (cc.out 2 (by omega))
      have f2 : ∀ j, w2.frozen? ⟨g, j, none⟩ = false := fun j => (World.frozen?_of_block (a := ⟨g, j, none⟩) (T2.block g hg' hnb)).trans (hf j)
      have hget := halfE_get L k hlt
      have p1 := r2.put rfl k 0 hlt' (by omega) (.int .i64 (-77)) ⟨⟨-77, L[k].e.k, L[k].e.d⟩, L[k].A, L[k].c⟩ (by rw [hget]; rfl)
      have p2 := p1.put rfl k 1 (by rw [List.length_set]; exact hlt') (by omega) (.int .i64 0) ⟨⟨-77, 0, L[k].e.d⟩, L[k].A, L[k].c⟩ (by rw [List.getElem_set_self]; rfl)
      have p3 := p2.put rfl k 2 (by rw [List.length_set, List.length_set]; exact hlt') (by omega) (.slice none 0 0) (deadE L[k]) (by rw [List.getElem_set_self]; rfl)
      rw [List.set_set, List.set_set, halfE_set L k hlt, Nat.add_zero] at p3
      have T3 := Turned.three w2 g (k * 3) (k * 3 + 1) (k * 3 + 2) (.int .i64 (-77)) (.int .i64 0) (.slice none 0 0)
      have HS : Hid (SpToE w (((w2.setCell ⟨g, k * 3, none⟩ (.int .i64 (-77))).setCell ⟨g, k * 3 + 1, none⟩ (.int .i64 0)).setCell ⟨g, k * 3 + 2, none⟩ (.slice none 0 0)) F (some ⟨g, 0, none⟩) c L (k + 1)) := hid (by
        refine ⟨p3, ?_, (hS.out.tur.then_ T2 (fun j _ hj => ho.2 j hj)).then_ T3 (fun j _ hj => by rw [hj]; exact hFg)⟩
        have hb := hS.out.byt
        rw [hdk] at hb
        have hown := hb.own
        have hap := hb.apart
        unfold Apart at hap
        rw [List.map_cons, List.pairwise_cons] at hap
        have hb2 : BytesE wr F (L.drop (k + 1)) := ⟨fun q hq => hown q (List.mem_cons_of_mem _ hq), hap.2⟩
        have hb3 := hb2.keep T2 (fun q hq j hj e => hap.1 _ (List.mem_map.2 ⟨q, hq, rfl⟩) j e hj)
        refine hb3.keep T3 (fun q hq j hj e => ?_)
        obtain ⟨cur, hcur⟩ := r2.tag (k := g) rfl
        exact (hb3.own q hq).1.ne hcur (by decide) (by rw [hj, e]))
      clear p1 p2 p3 T3 T2 hg2 r2 hget cc HI HSp hS c2 hnb ho hdk hf hg' hlt' hFg
      go_wp2_with fail
      go_roundw
      case rel => exact ⟨k + 1, by omega, by go_num, HS⟩
      case measure => simp [RowKit.intOf]; omega
    · obtain rfl : k = L.length := by omega
      have hkk : ¬ (L.length : Int) < (L.length : Int) := by omega
      go_wp2_with fail
      go_end0
      exact ⟨rfl, hS.out.tur⟩
/-- entries that the call has made are written over: nothing but their blocks has turned -/
theorem spoilE_any (B N : Nat) (A : Option Addr) (c n : Nat) (L : List Rl.En) (hn : L.length = n) (hL : n ≤ 100000) (w : World) (h : OwnE w B N A c L) :
    Calls Tryz.prog 86 #[.slice A n c] w fun e w' => e = .returned (.tuple #[]) ∧ Turned (Bl B N) w w' := by
  obtain ⟨M, h1, h2⟩ := h
  have e : n = M.length := by rw [← hn, ← h1, List.length_map]
  rw [e]
  exact spoilEs_any (Bl B N) A c M (by omega) w h2.row ⟨h2.own, h2.apart⟩
end Go.Proofs.YtaeoccpjdjafnaaGreat
namespace Go.Proofs.YtaeoccpjdjafnaaGreat
open Go.RowKit

theorem i64_xor_in (a b : Int) : InInt (bits .xor .i64 a b) := by
  unfold InInt bits IntKind.wrap
  simp [IntKind.signed, IntKind.bits]
  omega

set_option maxHeartbeats 400000 in
theorem spoilInts_any (base : Nat) (A : Option Addr) (c : Nat) (l : List Int) (hl : l.length ≤ maxLen) (w : World) (h : OwnsI 3 w base A c l) :
    Calls Tryz.prog 88 #[.slice A l.length c] w fun e w' => e = .returned (.tuple #[]) ∧ w.grownBy w' (Value.slice A l.length c).ownBlock := by
  unfold maxLen at hl
  go_enter Tryz.func88, Tryz.ntmps88
  go_wp2
  go_loopw [2] (fun i wr => ∃ k : Nat, ∃ L : List Int, k ≤ l.length ∧ i = .int .i64 k ∧ L.length = l.length ∧ OwnsI 3 wr base A c L ∧ w.grownBy wr (Value.slice A l.length c).ownBlock) (fun i _ => l.length - (RowKit.intOf i).toNat)
  case atStart => exact ⟨0, l, by omega, rfl, rfl, h, grown_refl _ _⟩
  case round =>
    clear h
    obtain ⟨k, L, hk, rfl, hL, hown, hgr⟩ := hrel
    have HL := hid hL
    by_cases hlt : k < l.length
    · have hkl : k < L.length := by rw [hL]; exact hlt
      obtain ⟨g, rfl, _, _, hcg, hfg⟩ := hown.at_ hkl
      have hs1 := hown.set_ k (bits .xor .i64 L[k] 77) (i64_xor_in _ _)
      have hg1 : w.grownBy (wr.setCell ⟨g, k, none⟩ (.int .i64 (bits .xor .i64 L[k] 77))) (some g) := grown_trans hgr (grown_setCell _ _ _ _) (fun _ e _ => by injection e with e; rw [e])
      have HS := hid (And.intro hs1 hg1)
      clear hs1 hg1 hown hgr hL
      go_wp2
      go_roundw
      case rel => exact ⟨k + 1, _, by omega, by go_num, by rw [List.length_set]; exact HL.out, HS.out.1, HS.out.2⟩
      case measure => simp [RowKit.intOf]; omega
    · clear hL
      go_wp2
      go_end0
      exact ⟨rfl, hgr⟩
theorem spoilI_N (base : Nat) (A : Option Addr) (c : Nat) (l : List Int) (n : Nat) (hn : l.length = n) (hl : n ≤ maxLen) (w : World) (h : OwnsI 3 w base A c l) :
    Calls Tryz.prog 88 #[.slice A n c] w fun e w' => e = .returned (.tuple #[]) ∧ w.grownBy w' (blk A) := by
  subst hn; rw [← ownBlock_slice A l.length c]; exact spoilInts_any base A c l hl w h
end Go.Proofs.YtaeoccpjdjafnaaGreat
namespace Go.Proofs.YtaeoccpjdjafnaaGreat.Im
open Go Go.RowKit
open Rl (En Lg)
open Qu (Cf)
set_option maxRecDepth 100000
set_option linter.unusedVariables false
local instance lo27 : Lo := ⟨0⟩
attribute [local go_sem ↓] loadAt_hard storeAt_hard loadAt_vote storeAt_vote loadAt_change storeAt_change loadAt_conf3 storeAt_conf3
theorem ownsB_tag {e : TypeId} {w : World} {base c k : Nat} {A : Option Addr} {l : List Nat} (h : OwnsB e w base A c l) (hk : blk A = some k) : ∃ cur, w.heap[k]? = some (.cells cur e (0, 0)) := by
  rcases h.row.2 with ⟨h0, _⟩ | ⟨g', cap, cur, hv, _, hh, _⟩
  · injection h0 with h0; rw [h0] at hk; cases hk
  · have hA : A = some ⟨g', 0, none⟩ := by injection hv
    rw [hA] at hk
    obtain rfl : g' = k := by injection hk
    exact ⟨cur, hh⟩
theorem ownsI_tag {e : TypeId} {w : World} {base c k : Nat} {A : Option Addr} {l : List Int} (h : OwnsI e w base A c l) (hk : blk A = some k) : ∃ cur, w.heap[k]? = some (.cells cur e (0, 0)) := by
  rcases h.row.2 with ⟨h0, _⟩ | ⟨g', cap, cur, hv, _, hh, _⟩
  · injection h0 with h0; rw [h0] at hk; cases hk
  · have hA : A = some ⟨g', 0, none⟩ := by injection hv
    rw [hA] at hk
    obtain rfl : g' = k := by injection hk
    exact ⟨cur, hh⟩
/-- of the blocks from B on, below N, those of parts are among F -/
def InF (F : Nat → Prop) (w : World) (B N : Nat) : Prop := ∀ k cs t fr, Bl B N k → w.heap[k]? = some (.cells cs t fr) → Parts t → F k
theorem spoilE_in (F : Nat → Prop) (B N : Nat) (A : Option Addr) (c n : Nat) (L : List En) (hn : L.length = n) (hL : n ≤ 100000) (w : World) (h : OwnE w B N A c L) (hF : InF F w B N) :
    Calls Tryz.prog 86 #[.slice A n c] w fun e w' => e = .returned (.tuple #[]) ∧ Turned F w w' := by
  obtain ⟨M, h1, h2⟩ := h
  have e : n = M.length := by rw [← hn, ← h1, List.length_map]
  rw [e]
  refine spoilEs_any F A c M (by omega) w (h2.row.mono fun k hk => ?_) ⟨fun q hq => ⟨(h2.own q hq).1, fun k hk => ?_⟩, h2.apart⟩
  · obtain ⟨cur, hc⟩ := h2.row.tag hk
    exact hF k _ _ _ (h2.row.blk k hk) hc (.inl rfl)
  · obtain ⟨cur, hc⟩ := ownsB_tag (h2.own q hq).1 hk
    exact hF k _ _ _ ((h2.own q hq).2 k hk) hc (.inr (.inl rfl))
theorem range_sub {w : World} {b o : Nat} {cs : List Value} (h : w.rangeAt b o cs) (i n : Nat) : w.rangeAt b (o + i) ((cs.drop i).take n) := fun j v hv => by
  rw [List.getElem?_take] at hv
  split at hv
  · rw [List.getElem?_drop] at hv
    have := h (i + j) v hv
    rwa [← Nat.add_assoc] at this
  · cases hv
theorem run_ldConf3 (w : World) (b o : Nat) (cs : List Value) (h : cs.length = 3) (hc : w.rangeAt b o cs) : (ldX 28 (.pointer (some ⟨b, o, none⟩))).run Tryz.prog w = .ok (.agg cs.toArray) w :=
  run_loadAt_mid w b o 28 cs _ hc Tryz.underlying28 rfl (by rw [info_conf33, h])
set_option maxHeartbeats 1600000 in
theorem spoilConf_in (F : Nat → Prop) (x : Cf) (A0 A1 A2 : Option Addr) (c0 c1 c2 n0 n1 n2 : Nat) (e0 : x.old.length = n0) (e1 : x.new.length = n1) (e2 : x.lrn.length = n2) (m0 m1 m2 : Nat) (w : World) (h0 : OwnsI 3 w m0 A0 c0 x.old) (b0 : ∀ k, blk A0 = some k → k < m1) (h1 : OwnsI 3 w m1 A1 c1 x.new) (b1 : ∀ k, blk A1 = some k → k < m2) (h2 : OwnsI 3 w m2 A2 c2 x.lrn) (hm : m0 ≤ m1 ∧ m1 ≤ m2)
    (hF0 : ∀ k, blk A0 = some k → F k) (hF1 : ∀ k, blk A1 = some k → F k) (hF2 : ∀ k, blk A2 = some k → F k) :
    Calls Tryz.prog 31 #[.agg #[.slice A0 n0 c0, .slice A1 n1 c1, .slice A2 n2 c2]] w fun e w' => e = .returned (.tuple #[]) ∧ Turned F w w' := by
  obtain ⟨wA, hwA⟩ : ∃ wA, wA = w.alloc (.cells #[.slice A0 n0 c0, .slice A1 n1 c1, .slice A2 n2 c2] 28) := ⟨_, rfl⟩
  have hbA : Below w.heap.size w wA := by rw [hwA]; exact (Below.refl _ w).alloc (Nat.le_refl _) _
  have rA : wA.heap[w.heap.size]? = some (.cells #[.slice A0 n0 c0, .slice A1 n1 c1, .slice A2 n2 c2] 28 (0, 0)) := by rw [hwA]; exact heap_alloc_new _ _
  have r0 := ownsI_room h0
  have r1 := ownsI_room h1
  have r2 := ownsI_room h2
  have l0 := h0.blkLt
  have l1 := h1.blkLt
  have l2 := h2.blkLt
  have HP0 := hid (spoilI_N m0 A0 c0 x.old n0 e0 (by have := r0.1; omega) wA (h0.below hbA))
  have HP1 := hid (fun W (h : OwnsI 3 W m1 A1 c1 x.new) => spoilI_N m1 A1 c1 x.new n1 e1 (by have := r1.1; omega) W h)
  have HP2 := hid (fun W (h : OwnsI 3 W m2 A2 c2 x.lrn) => spoilI_N m2 A2 c2 x.lrn n2 e2 (by have := r2.1; omega) W h)
  have H0 := hid (And.intro (h1.below hbA) (And.intro (h2.below hbA) (And.intro b0 (And.intro b1 (And.intro hm (And.intro (Turned.ofBelow F hbA) rA))))))
  have HF := hid (And.intro hF0 (And.intro hF1 hF2))
  have HL := hid (And.intro l0 (And.intro l1 l2))
  have s0 := row_cell rA 0
  rw [hwA] at s0
  clear h0 h1 h2 b0 b1 hm hF0 hF1 hF2 r0 r1 r2 e0 e1 e2 l0 l1 l2 hbA rA
  go_enter Tryz.func31, Tryz.ntmps31
  go_wp2_with fail
  rw [← hwA]
  clear hwA s0
  refine HP0.out.mono ?_
  rintro e w1 ⟨rfl, hg1⟩
  have H1 : Hid (OwnsI 3 w1 m1 A1 c1 x.new ∧ OwnsI 3 w1 m2 A2 c2 x.lrn ∧ Turned F w w1 ∧ w1.heap[w.heap.size]? = some (.cells #[.slice A0 n0 c0, .slice A1 n1 c1, .slice A2 n2 c2] 28 (0, 0))) := hid (by
    obtain ⟨h1, h2, b0, b1, hm, ht, rA⟩ := H0.out
    have t1 : Turned (fun j => blk A0 = some j) wA w1 := Turned.ofGrown hg1 (fun j hj => hj)
    exact ⟨ownsI_turned h1 t1 (fun k hk e => by have := b0 k e; have := (h1.blkLt k hk).1; omega), ownsI_turned h2 t1 (fun k hk e => by have := b0 k e; have := (h2.blkLt k hk).1; omega), ht.trans (t1.mono HF.out.1), (t1.block _ (row_lt rA) (fun e => by have := (HL.out.1 _ e).2; omega)).trans rA⟩)
  have HQ1 := hid (HP1.out w1 H1.out.1)
  have s1 := row_cell H1.out.2.2.2 1
  clear hg1 HP0 HP1
  go_wp2_with fail
  refine HQ1.out.mono ?_
  rintro e w2 ⟨rfl, hg2⟩
  have H2 : Hid (OwnsI 3 w2 m2 A2 c2 x.lrn ∧ Turned F w w2 ∧ w2.heap[w.heap.size]? = some (.cells #[.slice A0 n0 c0, .slice A1 n1 c1, .slice A2 n2 c2] 28 (0, 0))) := hid (by
    obtain ⟨h1, h2, b0, b1, hm, ht, rA⟩ := H0.out
    have t1 : Turned (fun j => blk A1 = some j) w1 w2 := Turned.ofGrown hg2 (fun j hj => hj)
    exact ⟨ownsI_turned H1.out.2.1 t1 (fun k hk e => by have := b1 k e; have := (h2.blkLt k hk).1; omega), H1.out.2.2.1.trans (t1.mono HF.out.2.1), (t1.block _ (row_lt H1.out.2.2.2) (fun e => by have := (HL.out.2.1 _ e).2; omega)).trans H1.out.2.2.2⟩)
  have HQ2 := hid (HP2.out w2 H2.out.1)
  have s2 := row_cell H2.out.2.2 2
  clear hg2 HP2 HQ1 s1
  go_wp2_with fail
  refine HQ2.out.mono ?_
  rintro e w3 ⟨rfl, hg3⟩
  have H3 : Hid (Turned F w w3) := hid (H2.out.2.1.trans (Turned.ofGrown hg3 (fun j hj => HF.out.2.2 j hj)))
  clear hg3 HQ2 H2 H1 s2
  go_wp2_with fail
  go_end0
  exact ⟨rfl, H3.out⟩
/-- members that the call has made are written over -/
theorem spoilCf_any (p : Cf) (a : Ad) (n1 n2 n3 : Nat) (e : n1 = p.old.length ∧ n2 = p.new.length ∧ n3 = p.lrn.length) (B N : Nat) (w : World) (h : OwnCf w B N p a) (hN : w.heap.size ≤ N) :
    Calls Tryz.prog 31 #[.agg #[.slice a.o n1 a.co, .slice a.n n2 a.cn, .slice a.l n3 a.cl]] w fun e w' => e = .returned (.tuple #[]) ∧ Turned (Bl B N) w w' := by
  obtain ⟨m1, m2, hm, ⟨h1, b1⟩, ⟨h2, b2⟩, h3⟩ := h
  exact spoilConf_in (Bl B N) p a.o a.n a.l a.co a.cn a.cl n1 n2 n3 e.1.symm e.2.1.symm e.2.2.symm B m1 m2 w h1 b1 h2 b2 h3 ⟨by omega, by omega⟩ (fun k hk => by have := h1.blkLt k hk; exact ⟨by omega, by omega⟩) (fun k hk => by have := h2.blkLt k hk; exact ⟨by omega, by omega⟩) (fun k hk => by have := h3.blkLt k hk; exact ⟨by omega, by omega⟩)
/-- a part's pieces, as they are written over one after the other -/
structure Pc (w : World) (B N : Nat) (p : Pt) (a : Ad) (m0 m1 m2 m3 : Nat) : Prop where
  m : B ≤ m0 ∧ m0 ≤ m1 ∧ m1 ≤ m2 ∧ m2 ≤ m3 ∧ m3 ≤ N
  e : OwnE w B m0 a.e a.ce p.log.es
  o : OwnsI 3 w m0 a.o a.co p.cf.old
  bo : ∀ k, blk a.o = some k → k < m1
  n : OwnsI 3 w m1 a.n a.cn p.cf.new
  bn : ∀ k, blk a.n = some k → k < m2
  l : OwnsI 3 w m2 a.l a.cl p.cf.lrn
  bl : ∀ k, blk a.l = some k → k < m3
  s : OwnsB 5 w m3 a.s a.cs p.sn
  bs : ∀ k, blk a.s = some k → k < N
theorem Pc.of {w : World} {B N : Nat} {p : Pt} {a : Ad} (h : OwnPt w B N p a) : ∃ m0 m1 m2 m3, Pc w B N p a m0 m1 m2 m3 := by
  obtain ⟨m0, m1, m2, m3, hm, h1, h2, h3, h4, h5, h6⟩ := h
  exact ⟨m0, m1, m2, m3, hm, h1, h2.1, h2.2, h3.1, h3.2, h4.1, h4.2, h5.1, h5.2⟩
/-- behind the entries -/
theorem Pc.two {w w1 : World} {B N m0 m1 m2 m3 : Nat} {p : Pt} {a : Ad} (h : Pc w B N p a m0 m1 m2 m3) (ht : Turned (Bl B m0) w w1) :
    OwnsI 3 w1 m0 a.o a.co p.cf.old ∧ OwnsI 3 w1 m1 a.n a.cn p.cf.new ∧ OwnsI 3 w1 m2 a.l a.cl p.cf.lrn ∧ OwnsB 5 w1 m3 a.s a.cs p.sn := by
  have hm := h.m
  exact ⟨ownsI_turned h.o ht (fun k hk e => by have := (h.o.blkLt k hk).1; have := e.2; omega), ownsI_turned h.n ht (fun k hk e => by have := (h.n.blkLt k hk).1; have := e.2; omega), ownsI_turned h.l ht (fun k hk e => by have := (h.l.blkLt k hk).1; have := e.2; omega), h.s.turned ht (fun k hk e => by have := (h.s.blkLt k hk).1; have := e.2; omega)⟩
/-- the blocks of parts -/
def Tg (w : World) (B N : Nat) : Nat → Prop := fun k => Bl B N k ∧ ∃ cs t fr, w.heap[k]? = some (.cells cs t fr) ∧ Parts t
theorem Tg.inF (w : World) (B N : Nat) : InF (Tg w B N) w B N := fun k cs t fr hB hk ht => ⟨hB, cs, t, fr, hk, ht⟩
theorem Tg.mono {w : World} {B B' N N' : Nat} (hB : B' ≤ B) (hN : N ≤ N') : ∀ k, Tg w B N k → Tg w B' N' k := fun k h => ⟨⟨Nat.le_trans hB h.1.1, Nat.lt_of_lt_of_le h.1.2 hN⟩, h.2⟩
theorem Pc.tgO {w : World} {B N m0 m1 m2 m3 : Nat} {p : Pt} {a : Ad} (h : Pc w B N p a m0 m1 m2 m3) : (∀ k, blk a.o = some k → Tg w m0 m3 k) ∧ (∀ k, blk a.n = some k → Tg w m0 m3 k) ∧ (∀ k, blk a.l = some k → Tg w m0 m3 k) ∧ ∀ k, blk a.s = some k → Tg w m3 N k := by
  have hm := h.m
  refine ⟨fun k hk => ?_, fun k hk => ?_, fun k hk => ?_, fun k hk => ?_⟩
  · obtain ⟨cur, hc⟩ := ownsI_tag h.o hk
    exact ⟨⟨(h.o.blkLt k hk).1, by have := h.bo k hk; omega⟩, _, _, _, hc, .inr (.inr rfl)⟩
  · obtain ⟨cur, hc⟩ := ownsI_tag h.n hk
    exact ⟨⟨by have := (h.n.blkLt k hk).1; omega, by have := h.bn k hk; omega⟩, _, _, _, hc, .inr (.inr rfl)⟩
  · obtain ⟨cur, hc⟩ := ownsI_tag h.l hk
    exact ⟨⟨by have := (h.l.blkLt k hk).1; omega, by have := h.bl k hk; omega⟩, _, _, _, hc, .inr (.inr rfl)⟩
  · obtain ⟨cur, hc⟩ := ownsB_tag h.s hk
    exact ⟨⟨(h.s.blkLt k hk).1, h.bs k hk⟩, _, _, _, hc, .inr (.inl rfl)⟩
theorem Pc.below {w w1 : World} {B N m0 m1 m2 m3 : Nat} {p : Pt} {a : Ad} (h : Pc w B N p a m0 m1 m2 m3) (hb : Below w.heap.size w w1) : Pc w1 B N p a m0 m1 m2 m3 :=
  ⟨h.m, h.e.keep (Turned.ofBelow (fun _ => False) hb) (fun k hk => hk.elim), h.o.below hb, h.bo, h.n.below hb, h.bn, h.l.below hb, h.bl, h.s.below hb, h.bs⟩
theorem Tg.old {w w1 : World} {B N : Nat} (hb : Below w.heap.size w w1) (hN : N ≤ w.heap.size) : ∀ k, Tg w1 B N k → Tg w B N k := fun k h => by
  obtain ⟨h1, cs, t, fr, h2, h3⟩ := h
  exact ⟨h1, cs, t, fr, (hb.block k (by have := h1.2; omega)).symm.trans h2, h3⟩
set_option maxHeartbeats 1600000 in
theorem spoilHard_in (x : Hd) (a : Ad) (hx : x.p.log.es.length ≤ 100000) (B N : Nat) (w : World) (h : OwnPt w B N x.p a) (hN : N ≤ w.heap.size) :
    Calls Tryz.prog 84 #[.agg #[.int .i64 x.g, .int .i64 x.t, .int .i64 x.v, .int .i64 x.p.log.base, .int .i64 x.p.log.term, .slice a.e x.p.log.es.length a.ce, .slice a.o x.p.cf.old.length a.co, .slice a.n x.p.cf.new.length a.cn, .slice a.l x.p.cf.lrn.length a.cl, .slice a.s x.p.sn.length a.cs]] w fun e w' => e = .returned (.tuple #[]) ∧ Turned (Tg w B N) w w' := by
  obtain ⟨m0, m1, m2, m3, hp0⟩ := Pc.of h
  obtain ⟨wA, hwA⟩ : ∃ wA, wA = w.alloc (.cells #[.int .i64 x.g, .int .i64 x.t, .int .i64 x.v, .int .i64 x.p.log.base, .int .i64 x.p.log.term, .slice a.e x.p.log.es.length a.ce, .slice a.o x.p.cf.old.length a.co, .slice a.n x.p.cf.new.length a.cn, .slice a.l x.p.cf.lrn.length a.cl, .slice a.s x.p.sn.length a.cs] 75) := ⟨_, rfl⟩
  have hbA : Below w.heap.size w wA := by rw [hwA]; exact (Below.refl _ w).alloc (Nat.le_refl _) _
  have rA : wA.heap[w.heap.size]? = some (.cells #[.int .i64 x.g, .int .i64 x.t, .int .i64 x.v, .int .i64 x.p.log.base, .int .i64 x.p.log.term, .slice a.e x.p.log.es.length a.ce, .slice a.o x.p.cf.old.length a.co, .slice a.n x.p.cf.new.length a.cn, .slice a.l x.p.cf.lrn.length a.cl, .slice a.s x.p.sn.length a.cs] 75 (0, 0)) := by rw [hwA]; exact heap_alloc_new _ _
  have hp := hp0.below hbA
  have HP := hid hp
  have HE := hid (spoilE_in (Tg wA B m0) B m0 a.e a.ce x.p.log.es.length x.p.log.es rfl hx wA hp.e (Tg.inF wA B m0))
  have HA := hid (And.intro rA (And.intro hbA hN))
  have s0 := row_cell rA 5
  rw [hwA] at s0
  clear h hp hp0 hbA rA hN
  go_enter Tryz.func84, Tryz.ntmps84
  go_wp2_with fail
  rw [← hwA]
  clear hwA s0
  refine HE.out.mono ?_
  rintro e w1 ⟨rfl, ht1⟩
  obtain ⟨o1, o2, o3, o4⟩ := HP.out.two (ht1.mono fun k h => h.1)
  have hm := HP.out.m
  have tg := HP.out.tgO
  have r1 := (ht1.block _ (row_lt HA.out.1) (fun e => by have := e.1.2; have := HA.out.2.2; omega)).trans HA.out.1
  have s1 := run_ldConf3 w1 w.heap.size 6 ([.slice a.o x.p.cf.old.length a.co, .slice a.n x.p.cf.new.length a.cn, .slice a.l x.p.cf.lrn.length a.cl]) rfl (by have := range_sub (range_row (cs := [.int .i64 x.g, .int .i64 x.t, .int .i64 x.v, .int .i64 x.p.log.base, .int .i64 x.p.log.term, .slice a.e x.p.log.es.length a.ce, .slice a.o x.p.cf.old.length a.co, .slice a.n x.p.cf.new.length a.cn, .slice a.l x.p.cf.lrn.length a.cl, .slice a.s x.p.sn.length a.cs]) r1) 6 3; rwa [Nat.zero_add] at this)
  have HC := hid (spoilConf_in (Tg wA m0 m3) x.p.cf a.o a.n a.l a.co a.cn a.cl x.p.cf.old.length x.p.cf.new.length x.p.cf.lrn.length rfl rfl rfl m0 m1 m2 w1 o1 HP.out.bo o2 HP.out.bn o3 ⟨hm.2.1, hm.2.2.1⟩ tg.1 tg.2.1 tg.2.2.1)
  have H1 := hid (And.intro ht1 (And.intro o4 r1))
  clear ht1 o1 o2 o3 o4 hm tg HE r1
  go_wp2_with fail
  refine HC.out.mono ?_
  rintro e w2 ⟨rfl, ht2⟩
  have o4 := H1.out.2.1.turned ht2 (fun k hk e => by have := (H1.out.2.1.blkLt k hk).1; have := e.1.2; omega)
  have r2 := (ht2.block _ (row_lt H1.out.2.2) (fun e => by have := e.1.2; have := HA.out.2.2; have := HP.out.m; omega)).trans H1.out.2.2
  have s2 := row_cell r2 9
  have HS := hid (spoil_N m3 a.s a.cs x.p.sn x.p.sn.length rfl (by have := o4.room; omega) w2 o4)
  have H2 : Hid (Turned (Tg wA B N) wA w2) := hid (by
    have hm := HP.out.m
    exact (H1.out.1.mono (Tg.mono (Nat.le_refl _) (by omega))).trans (ht2.mono (Tg.mono (by omega) (by omega))))
  clear ht2 o4 HC H1 s1 r2
  go_wp2_with fail
  refine HS.out.mono ?_
  rintro e w3 ⟨rfl, hg3⟩
  have H3 : Hid (Turned (Tg w B N) w w3) := hid (((Turned.ofBelow _ HA.out.2.1).trans ((H2.out.trans (Turned.ofGrown hg3 (fun j hj => by
    have hm := HP.out.m
    exact Tg.mono (by omega) (Nat.le_refl _) j (HP.out.tgO.2.2.2 j hj)))).mono (Tg.old HA.out.2.1 HA.out.2.2))))
  clear hg3 HS H2 s2
  go_wp2_with fail
  go_end0
  exact ⟨rfl, H3.out⟩
/-- the first k of them are written over -/
def halfD {α : Type} (f : α → α) (L : List α) (k : Nat) : List α := (L.take k).map f ++ L.drop k
section
variable {α : Type} (f : α → α) (L : List α) (k : Nat)
theorem halfD_length (h : k ≤ L.length) : (halfD f L k).length = L.length := by unfold halfD; rw [List.length_append, List.length_map, List.length_take, List.length_drop]; omega
theorem halfD_get (h : k < L.length) : (halfD f L k)[k]'(by rw [halfD_length f L k (by omega)]; exact h) = L[k] := by
  have : (halfD f L k)[k]? = some L[k] := by
    unfold halfD
    rw [List.getElem?_append_right (by rw [List.length_map, List.length_take]; omega), List.length_map, List.length_take, List.getElem?_drop, show k + (k - min k L.length) = k by omega, List.getElem?_eq_getElem h]
  rw [List.getElem?_eq_getElem (by rw [halfD_length f L k (by omega)]; exact h)] at this
  exact Option.some.inj this
theorem halfD_set (h : k < L.length) : (halfD f L k).set k (f L[k]) = halfD f L (k + 1) := by
  unfold halfD
  have hl : ((L.take k).map f).length = k := by rw [List.length_map, List.length_take]; omega
  rw [List.set_append_right _ _ (by omega), hl, Nat.sub_self, List.drop_eq_getElem_cons h, List.set_cons_zero, List.take_succ_eq_append_getElem h, List.map_append, List.append_assoc]
  rfl
end
def deadH (_ : Hq) : Hq := ⟨⟨-77, 0, 0, ⟨⟨0, 0, []⟩, ⟨[], [], []⟩, []⟩⟩, A0⟩
def deadC (_ : Cq) : Cq := ⟨⟨-77, 0, 0, 0, 0, ⟨⟨0, 0, []⟩, ⟨[], [], []⟩, []⟩, ⟨0, 0, 0, 0, 0⟩⟩, A0⟩
def deadV (v : Vt) : Vt := ⟨bits .xor .i64 v.x 77, 0, 0, 0, 0⟩
set_option maxHeartbeats 800000 in
theorem spoilVs_any (B N : Nat) (A : Option Addr) (c n : Nat) (L : List Vt) (hn : L.length = n) (hL : n ≤ 100000) (w : World) (h : RowIn cellsV 5 60 w (Bl B N) A c L) :
    Calls Tryz.prog 85 #[.slice A n c] w fun e w' => e = .returned (.tuple #[]) ∧ Turned (Bl B N) w w' := by
  have H0 : Hid (RowIn cellsV 5 60 w (Bl B N) A c (halfD deadV L 0) ∧ Turned (Bl B N) w w) := hid ⟨by unfold halfD; simpa using h, Turned.refl _ _⟩
  clear h
  go_enter Tryz.func85, Tryz.ntmps85
  go_wp2_with fail
  go_loopw [2] (fun i wr => ∃ k : Nat, k ≤ n ∧ i = .int .i64 k ∧ Hid (RowIn cellsV 5 60 wr (Bl B N) A c (halfD deadV L k) ∧ Turned (Bl B N) w wr)) (fun i _ => n - (RowKit.intOf i).toNat)
  case atStart => exact ⟨0, by omega, rfl, H0⟩
  case round =>
    clear H0
    obtain ⟨k, hk, rfl, hS⟩ := hrel
    by_cases hlt : k < n
    · have hlt1 : k < L.length := by omega
      have hlt' : k < (halfD deadV L k).length := by rw [halfD_length deadV L k (by omega)]; exact hlt1
      obtain ⟨g, rfl, hg, hFg, hc, hf⟩ := hS.out.1.get k hlt'
      rw [halfD_get deadV L k hlt1] at hc
      have c0 : wr.cell? ⟨g, k * 5, none⟩ = some (.int .i64 L[k].x) := hc 0 (by omega)
      have hk0 : (k : Int) < (n : Int) := by omega
      have hth := RowIn.there hS.out.1 k hlt'
      have hst := stAt info_vote hth #[.int .i64 (bits .xor .i64 L[k].x 77), .int .i64 0, .int .i64 0, .int .i64 0, .int .i64 0] rfl (by simp [Value.oneCell'])
      have hrow4 := RowIn.setAll hS.out.1 k hlt' (deadV L[k])
      rw [halfD_set deadV L k hlt1] at hrow4
      have hT := turned_setCells g (cellsV (deadV L[k])) wr (k * 5)
      have HI : Hid (RowIn cellsV 5 60 (wr.setCells g (k * 5) (cellsV (deadV L[k]))) (Bl B N) (some ⟨g, 0, none⟩) c (halfD deadV L (k + 1)) ∧ Turned (Bl B N) w (wr.setCells g (k * 5) (cellsV (deadV L[k])))) := hid ⟨hrow4, hS.out.2.then_ hT (fun j _ hj => by rw [hj]; exact hFg)⟩
      have hst' : (stX 60 (.pointer (some ⟨g, k * 5, none⟩)) (.agg #[.int .i64 (bits .xor .i64 L[k].x 77), .int .i64 0, .int .i64 0, .int .i64 0, .int .i64 0])).run Tryz.prog wr = .ok () (wr.setCells g (k * 5) (cellsV (deadV L[k]))) := hst
      clear hst hrow4 hT hth hc hf hlt' hS
      generalize wr.setCells g (k * 5) (cellsV (deadV L[k])) = w4 at *
      go_wp2_with fail
      go_roundw
      case rel => exact ⟨k + 1, by omega, by go_num, HI⟩
      case measure => simp [RowKit.intOf]; omega
    · obtain rfl : k = n := by omega
      have hkk : ¬ (k : Int) < (k : Int) := by omega
      have HF := hid hS.out.2
      clear hS
      go_wp2_with fail
      go_end0
      exact ⟨rfl, HF.out⟩
/-- amid an image's groups' states -/
structure SpH (w wr : World) (B N : Nat) (A : Option Addr) (c : Nat) (M : List Hq) (k : Nat) (bx : Nat) (cs : Array Value) : Prop where
  row : RowIn cellsH 10 75 wr (Bl B N) A c (halfD deadH M k)
  pts : ∃ m, B ≤ m ∧ OwnPts wr m N ((M.drop k).map fun q => (q.h.p, q.a))
  tur : Turned (Bl B N) w wr
  box : wr.heap[bx]? = some (.cells cs 25 (0, 0))
set_option maxHeartbeats 3200000 in
theorem spoilIm_any (B N : Nat) (i : Ia) (nh nv : Nat) (Q : List Hq) (L : List Vt) (hnh : nh = Q.length) (hnv : nv = L.length) (hlh : nh ≤ 100000) (hlv : nv ≤ 100000) (hf : ∀ q ∈ Q, q.h.p.log.es.length ≤ 100000) (w : World) (h : OwnIm w B N i Q L) (hN : N ≤ w.heap.size) :
    Calls Tryz.prog 29 #[.agg #[.slice i.h nh i.ch, .slice i.v nv i.cv]] w fun e w' => e = .returned (.tuple #[]) ∧ Turned (Bl B N) w w' := by
  obtain ⟨wA, hwA⟩ : ∃ wA, wA = w.alloc (.cells #[.slice i.h nh i.ch, .slice i.v nv i.cv] 25) := ⟨_, rfl⟩
  have hbA : Below w.heap.size w wA := by rw [hwA]; exact (Below.refl _ w).alloc (Nat.le_refl _) _
  have rA : wA.heap[w.heap.size]? = some (.cells #[.slice i.h nh i.ch, .slice i.v nv i.cv] 25 (0, 0)) := by rw [hwA]; exact heap_alloc_new _ _
  obtain ⟨bx, hbx⟩ : ∃ b, b = w.heap.size := ⟨_, rfl⟩
  rw [← hbx] at rA
  obtain ⟨m, hm1, hm2, hh, hv, hok⟩ := h.below (hbA.mono hN)
  have H0 : Hid (SpH wA wA B m i.h i.ch Q 0 bx #[.slice i.h nh i.ch, .slice i.v nv i.cv]) := hid ⟨by unfold halfD; simpa using hh.row, ⟨B, Nat.le_refl _, by simpa using hh.pts⟩, Turned.refl _ _, rA⟩
  have HV := hid (And.intro hm1 (And.intro hm2 (And.intro hv (And.intro (show N ≤ bx by omega) (And.intro hbA (show N ≤ wA.heap.size by have := hbA.size; omega))))))
  have HF := hid hf
  have HNN := hid (And.intro hnh hnv)
  clear hh hv hok hm1 hm2 hf h hN hbA rA hnh hnv
  go_enter Tryz.func29, Tryz.ntmps29
  go_wp2_with fail
  try rw [← hwA]
  try rw [← hbx]
  clear hwA hbx
  go_loopw [2] (fun j wr => ∃ k : Nat, k ≤ nh ∧ j = .int .i64 k ∧ Hid (SpH wA wr B m i.h i.ch Q k bx #[.slice i.h nh i.ch, .slice i.v nv i.cv])) (fun j _ => nh - (RowKit.intOf j).toNat)
  case atStart => exact ⟨0, by omega, rfl, H0⟩
  case round =>
    clear H0
    obtain ⟨k, hk, rfl, hS⟩ := hrel
    have b0 := row_cell hS.out.box 0
    by_cases hlt : k < nh
    · have hlt1 : k < Q.length := by have := HNN.out.1; omega
      have hlt' : k < (halfD deadH Q k).length := by rw [halfD_length deadH Q k (by omega)]; exact hlt1
      obtain ⟨g, hA⟩ : ∃ g, i.h = some ⟨g, 0, none⟩ := by
        obtain ⟨g, e, _⟩ := hS.out.row.get k hlt'
        exact ⟨g, e⟩
      have hrow := hS.out.row
      rw [hA] at hrow b0
      have HAA := hid hA
      clear hA
      have hrange := RowIn.range hrow k hlt'
      rw [halfD_get deadH Q k hlt1] at hrange
      have hkn : (k : Int) < (nh : Int) := by omega
      obtain ⟨q, hq⟩ : ∃ q, q = Q[k] := ⟨_, rfl⟩
      have hqm : q ∈ Q := by rw [hq]; exact List.getElem_mem hlt1
      rw [← hq] at hrange
      obtain ⟨m', hm', hpts⟩ := hS.out.pts
      rw [List.drop_eq_getElem_cons hlt1, ← hq, List.map_cons] at hpts
      obtain ⟨m'', hm'', hp, hps⟩ := hpts
      have hset := halfD_set deadH Q k hlt1
      obtain ⟨x, ad⟩ := q
      have hld : (ldX 75 (.pointer (some ⟨g, k * 10, none⟩))).run Tryz.prog wr = .ok (.agg #[.int .i64 x.g, .int .i64 x.t, .int .i64 x.v, .int .i64 x.p.log.base, .int .i64 x.p.log.term, .slice ad.e x.p.log.es.length ad.ce, .slice ad.o x.p.cf.old.length ad.co, .slice ad.n x.p.cf.new.length ad.cn, .slice ad.l x.p.cf.lrn.length ad.cl, .slice ad.s x.p.sn.length ad.cs]) wr := ldH wr g (k * 10) (cellsH ⟨x, ad⟩) rfl hrange
      have HSP := hid (spoilHard_in x ad (HF.out _ hqm) m' m'' wr hp (by have := hps.le; have := HV.out.2.1; have := HV.out.2.2.2.2.2; have := hS.out.tur.size; omega))
      have HI := hid (And.intro hrow (And.intro hset (And.intro hlt' (And.intro hps (And.intro hm' hm'')))))
      clear hrow hrange hqm hq hp hps hset hlt' hm' hm''
      go_wp2_with fail
      refine HSP.out.mono ?_
      rintro e w2 ⟨rfl, ht2⟩
      obtain ⟨hrow, hset, hlt', hps, hm', hm''⟩ := HI.out
      obtain ⟨cur, hcur⟩ := hrow.tag rfl
      have hle := hps.le
      have hbx2 := (ht2.block _ (row_lt hS.out.box) (fun e => by have h1 := e.1.2; have := HV.out.2.1; have := HV.out.2.2.2.1; omega)).trans hS.out.box
      have b2 := row_cell hbx2 0
      rw [HAA.out] at b2
      have hrow2 := hrow.keep ht2 (fun j hj e => by
        obtain rfl : g = j := by injection hj
        obtain ⟨_, cs, t, fr, h1, h2⟩ := e
        rw [hcur] at h1
        have := (Obj.cells.inj (Option.some.inj h1)).2.1
        rw [← this] at h2
        rcases h2 with e | e | e <;> exact absurd e (by decide))
      have hth := RowIn.there hrow2 k hlt'
      have hst := stAt info_hard hth #[.int .i64 (-77), .int .i64 0, .int .i64 0, .int .i64 0, .int .i64 0, .slice none 0 0, .slice none 0 0, .slice none 0 0, .slice none 0 0, .slice none 0 0] rfl (by simp [Value.oneCell'])
      have hrow4 := RowIn.setAll hrow2 k hlt' (deadH Q[k])
      rw [hset] at hrow4
      have hT := turned_setCells g (cellsH (deadH Q[k])) w2 (k * 10)
      have HN : Hid (SpH wA (w2.setCells g (k * 10) (cellsH (deadH Q[k]))) B m (some ⟨g, 0, none⟩) i.ch Q (k + 1) bx #[.slice i.h nh i.ch, .slice i.v nv i.cv]) := hid (by
        have ht2' : Turned (Bl m' m'') wr w2 := ht2.mono (fun k h => h.1)
        have hps2 := OwnPts.keep_ hps ht2' (fun k hk hB => by have h1 := hk.2; have h2 := hB.1; omega)
        obtain ⟨cur2, hcur2⟩ := hrow2.tag rfl
        have hgr : w2.grownBy (w2.setCells g (k * 10) (cellsH (deadH Q[k]))) (some g) := ⟨hT.os, hT.tape, hT.output, hT.size, fun j hj hne => hT.block j hj (fun e => hne (by rw [e]))⟩
        have kp : Kp Parts w2 (w2.setCells g (k * 10) (cellsH (deadH Q[k]))) := Kp.ofGrown hcur2 (by rintro (e | e | e) <;> exact absurd e (by decide)) hgr
        have hgB := hrow.blk g rfl
        exact ⟨hrow4, ⟨m'', by omega, OwnPts.kp_ hps2 kp⟩, (hS.out.tur.trans (ht2'.mono (fun k h => ⟨by have := h.1; omega, by have := h.2; omega⟩))).then_ hT (fun j _ hj => by rw [hj]; exact hgB), (hT.block _ (row_lt hbx2) (fun e => by have h1 := hgB.2; have := HV.out.2.1; have := HV.out.2.2.2.1; omega)).trans hbx2⟩)
      have hst' : (stX 75 (.pointer (some ⟨g, k * 10, none⟩)) (.agg #[.int .i64 (-77), .int .i64 0, .int .i64 0, .int .i64 0, .int .i64 0, .slice none 0 0, .slice none 0 0, .slice none 0 0, .slice none 0 0, .slice none 0 0])).run Tryz.prog w2 = .ok () (w2.setCells g (k * 10) (cellsH (deadH Q[k]))) := hst
      rw [← HAA.out] at HN
      clear hst hrow4 hT hth hrow2 hrow hset hps HI HSP ht2 hcur hS hle hm' hm'' hbx2 b0 hld
      generalize w2.setCells g (k * 10) (cellsH (deadH Q[k])) = w4 at *
      go_wp2_with fail
      go_roundw
      case rel => exact ⟨k + 1, by omega, by go_num, HN⟩
      case measure => simp [RowKit.intOf]; omega
    · obtain rfl : k = nh := by omega
      have hkk : ¬ (k : Int) < (k : Int) := by omega
      have hvr := HV.out.2.2.1.keep hS.out.tur (fun j hj e => by have h1 := (HV.out.2.2.1.blk j hj).1; have h2 := e.2; omega)
      have HVS := hid (spoilVs_any m N i.v i.cv nv L HNN.out.2.symm hlv wr hvr)
      have HT := hid hS.out.tur
      have b1 := row_cell hS.out.box 1
      clear hvr hS
      go_wp2_with fail
      refine HVS.out.mono ?_
      rintro e w2 ⟨rfl, ht2⟩
      have HF : Hid (Turned (Bl B N) w w2) := hid ((Turned.ofBelow _ HV.out.2.2.2.2.1).trans ((HT.out.mono (fun k h => ⟨h.1, by have := h.2; have := HV.out.2.1; omega⟩)).trans (ht2.mono (fun k h => ⟨by have := h.1; have := HV.out.1; omega, h.2⟩))))
      clear ht2 HVS HT b0 b1
      go_wp2_with fail
      go_end0
      exact ⟨rfl, HF.out⟩
end Go.Proofs.YtaeoccpjdjafnaaGreat.Im
namespace Go.Proofs.YtaeoccpjdjafnaaGreat.Im
open Go Go.RowKit
open Rl (En Lg)
open Qu (Cf)
set_option maxRecDepth 100000
set_option linter.unusedVariables false
local instance lo28 : Lo := ⟨0⟩
attribute [local go_sem ↓] loadAt_change storeAt_change loadAt_conf3 storeAt_conf3
/-- amid changes -/
structure SpC (w wr : World) (B N : Nat) (A : Option Addr) (c : Nat) (M : List Cq) (k : Nat) : Prop where
  row : RowIn cellsC 17 62 wr (Bl B N) A c (halfD deadC M k)
  pts : ∃ m, B ≤ m ∧ OwnPts wr m N ((M.drop k).map fun q => (q.c.p, q.a))
  tur : Turned (Bl B N) w wr
theorem row_tg {wr w2 : World} {B N m m' g c : Nat} {L : List Cq} (h : RowIn cellsC 17 62 wr (Bl B N) (some ⟨g, 0, none⟩) c L) {w0 : World} (hk : ∀ cur, wr.heap[g]? = some (.cells cur 62 (0, 0)) → ∃ cur', w0.heap[g]? = some (.cells cur' 62 (0, 0))) (ht : Turned (Tg w0 m m') wr w2) : RowIn cellsC 17 62 w2 (Bl B N) (some ⟨g, 0, none⟩) c L := by
  obtain ⟨cur, hcur⟩ := h.tag rfl
  obtain ⟨cur', hcur'⟩ := hk cur hcur
  refine h.keep ht (fun j hj e => ?_)
  obtain rfl : g = j := by injection hj
  obtain ⟨_, cs, t, fr, h1, h2⟩ := e
  rw [hcur'] at h1
  have := (Obj.cells.inj (Option.some.inj h1)).2.1
  rw [← this] at h2
  rcases h2 with e | e | e <;> exact absurd e (by decide)
set_option maxHeartbeats 3200000 in
theorem spoilCs_any (B N : Nat) (A : Option Addr) (c n : Nat) (M : List Cq) (hn : n = M.length) (hl : n ≤ 100000) (hf : ∀ q ∈ M, q.c.p.log.es.length ≤ 100000) (w : World) (h : OwnCs w B N A c M) :
    Calls Tryz.prog 30 #[.slice A n c] w fun e w' => e = .returned (.tuple #[]) ∧ Turned (Bl B N) w w' := by
  have H0 : Hid (SpC w w B N A c M 0) := hid ⟨by unfold halfD; simpa using h.row, ⟨B, Nat.le_refl _, by simpa using h.pts⟩, Turned.refl _ _⟩
  have HF := hid hf
  have HNN := hid hn
  clear h hf hn
  go_enter Tryz.func30, Tryz.ntmps30
  go_wp2_with fail
  go_loopw [2] (fun j wr => ∃ k : Nat, k ≤ n ∧ j = .int .i64 k ∧ Hid (SpC w wr B N A c M k)) (fun j _ => n - (RowKit.intOf j).toNat)
  case atStart => exact ⟨0, by omega, rfl, H0⟩
  case round =>
    clear H0
    obtain ⟨k, hk, rfl, hS⟩ := hrel
    by_cases hlt : k < n
    · have hlt1 : k < M.length := by have := HNN.out; omega
      have hlt' : k < (halfD deadC M k).length := by rw [halfD_length deadC M k (by omega)]; exact hlt1
      obtain ⟨g, hA⟩ : ∃ g, A = some ⟨g, 0, none⟩ := by
        obtain ⟨g, e, _⟩ := hS.out.row.get k hlt'
        exact ⟨g, e⟩
      subst hA
      have hrow := hS.out.row
      have hrange := RowIn.range hrow k hlt'
      have hget := halfD_get deadC M k hlt1
      have hkn : (k : Int) < (n : Int) := by omega
      obtain ⟨q, hq⟩ : ∃ q, q = M[k] := ⟨_, rfl⟩
      have hqm : q ∈ M := by rw [hq]; exact List.getElem_mem hlt1
      obtain ⟨m', hm', hpts⟩ := hS.out.pts
      rw [List.drop_eq_getElem_cons hlt1, ← hq, List.map_cons] at hpts
      obtain ⟨m'', hm'', hp, hps⟩ := hpts
      have hset := halfD_set deadC M k hlt1
      rw [← hq] at hget
      obtain ⟨x, ad⟩ := q
      have hle := hps.le
      obtain ⟨m0, m1, m2, m3, hpc⟩ := Pc.of hp
      have HRG : Hid (∀ W, RowIn cellsC 17 62 W (Bl B N) (some ⟨g, 0, none⟩) c (halfD deadC M k) → W.rangeAt g (k * 17) (cellsC ⟨x, ad⟩)) := hid (fun W h => by have := RowIn.range h k hlt'; rwa [hget] at this)
      have s7 : wr.cell? ⟨g, k * 17 + 7, none⟩ = some (.slice ad.e x.p.log.es.length ad.ce) := HRG.out wr hrow 7 _ rfl
      have HE := hid (spoilE_in (Tg wr m' m0) m' m0 ad.e ad.ce x.p.log.es.length x.p.log.es rfl (HF.out _ hqm) wr hpc.e (Tg.inF wr m' m0))
      have HI := hid (And.intro hrow (And.intro hset (And.intro hlt' (And.intro hps (And.intro hm' (And.intro hm'' hle))))))
      have HP := hid hpc
      clear hrow hrange hqm hq hp hps hset hlt' hm' hm'' hget hpc hle
      go_wp2_with fail
      refine HE.out.mono ?_
      rintro e w1 ⟨rfl, ht1⟩
      have hrow1 := row_tg HI.out.1 (fun cur h => ⟨cur, h⟩) ht1
      have s8 := run_ldConf3 w1 g (k * 17 + 8) ([.slice ad.o x.p.cf.old.length ad.co, .slice ad.n x.p.cf.new.length ad.cn, .slice ad.l x.p.cf.lrn.length ad.cl]) rfl (range_sub (HRG.out w1 hrow1) 8 3)
      obtain ⟨o1, o2, o3, o4⟩ := HP.out.two (ht1.mono fun k h => h.1)
      have hm := HP.out.m
      have tg := HP.out.tgO
      have HC := hid (spoilConf_in (Tg wr m0 m3) x.p.cf ad.o ad.n ad.l ad.co ad.cn ad.cl x.p.cf.old.length x.p.cf.new.length x.p.cf.lrn.length rfl rfl rfl m0 m1 m2 w1 o1 HP.out.bo o2 HP.out.bn o3 ⟨hm.2.1, hm.2.2.1⟩ tg.1 tg.2.1 tg.2.2.1)
      have H1 := hid (And.intro ht1 (And.intro o4 hrow1))
      clear ht1 o1 o2 o3 o4 hm tg HE s7 hrow1
      go_wp2_with fail
      refine HC.out.mono ?_
      rintro e w2 ⟨rfl, ht2⟩
      have o4 := H1.out.2.1.turned ht2 (fun k hk e => by have := (H1.out.2.1.blkLt k hk).1; have := e.1.2; omega)
      have hrow2 := row_tg H1.out.2.2 (fun cur h => by
        obtain ⟨cur', hc⟩ := HI.out.1.tag rfl
        exact ⟨cur', hc⟩) ht2
      have s11 : w2.cell? ⟨g, k * 17 + 11, none⟩ = some (.slice ad.s x.p.sn.length ad.cs) := HRG.out w2 hrow2 11 _ rfl
      have HSB := hid (spoil_N m3 ad.s ad.cs x.p.sn x.p.sn.length rfl (by have := o4.room; omega) w2 o4)
      have H2 : Hid (Turned (Tg wr m' m'') wr w2 ∧ RowIn cellsC 17 62 w2 (Bl B N) (some ⟨g, 0, none⟩) c (halfD deadC M k)) := hid (by
        have hm := HP.out.m
        exact ⟨(H1.out.1.mono (Tg.mono (Nat.le_refl _) (by omega))).trans (ht2.mono (Tg.mono (by omega) (by omega))), hrow2⟩)
      clear ht2 o4 HC H1 hrow2 s8
      go_wp2_with fail
      refine HSB.out.mono ?_
      rintro e w3 ⟨rfl, hg3⟩
      have ht3 : Turned (Tg wr m3 m'') w2 w3 := Turned.ofGrown hg3 (fun j hj => HP.out.tgO.2.2.2 j hj)
      have hrow3 := row_tg H2.out.2 (fun cur h => by
        obtain ⟨cur', hc⟩ := HI.out.1.tag rfl
        exact ⟨cur', hc⟩) ht3
      obtain ⟨hrow, hset, hlt', hps, hm', hm'', hle⟩ := HI.out
      have ht2 : Turned (Tg wr m' m'') wr w3 := H2.out.1.trans (ht3.mono (Tg.mono (by have := HP.out.m; omega) (Nat.le_refl _)))
      have hth := RowIn.there hrow3 k hlt'
      have hst := stAt info_change hth #[.int .i64 (-77), .int .i64 0, .int .i64 0, .int .i64 0, .int .i64 0, .int .i64 0, .int .i64 0, .slice none 0 0, .slice none 0 0, .slice none 0 0, .slice none 0 0, .slice none 0 0, .int .i64 0, .int .i64 0, .int .i64 0, .int .i64 0, .int .i64 0] rfl (by simp [Value.oneCell'])
      have hrow4 := RowIn.setAll hrow3 k hlt' (deadC M[k])
      rw [hset] at hrow4
      have hT := turned_setCells g (cellsC (deadC M[k])) w3 (k * 17)
      have HN : Hid (SpC w (w3.setCells g (k * 17) (cellsC (deadC M[k]))) B N (some ⟨g, 0, none⟩) c M (k + 1)) := hid (by
        have ht2' : Turned (Bl m' m'') wr w3 := ht2.mono (fun k h => h.1)
        have hps2 := OwnPts.keep_ hps ht2' (fun k hk hB => by have h1 := hk.2; have h2 := hB.1; omega)
        obtain ⟨cur2, hcur2⟩ := hrow3.tag rfl
        have hgr : w3.grownBy (w3.setCells g (k * 17) (cellsC (deadC M[k]))) (some g) := ⟨hT.os, hT.tape, hT.output, hT.size, fun j hj hne => hT.block j hj (fun e => hne (by rw [e]))⟩
        have kp : Kp Parts w3 (w3.setCells g (k * 17) (cellsC (deadC M[k]))) := Kp.ofGrown hcur2 (by rintro (e | e | e) <;> exact absurd e (by decide)) hgr
        exact ⟨hrow4, ⟨m'', by omega, OwnPts.kp_ hps2 kp⟩, (hS.out.tur.trans (ht2'.mono (fun k h => ⟨by have := h.1; omega, by have := h.2; omega⟩))).then_ hT (fun j _ hj => by rw [hj]; exact hrow.blk g rfl)⟩)
      have hst' : (stX 62 (.pointer (some ⟨g, k * 17, none⟩)) (.agg #[.int .i64 (-77), .int .i64 0, .int .i64 0, .int .i64 0, .int .i64 0, .int .i64 0, .int .i64 0, .slice none 0 0, .slice none 0 0, .slice none 0 0, .slice none 0 0, .slice none 0 0, .int .i64 0, .int .i64 0, .int .i64 0, .int .i64 0, .int .i64 0])).run Tryz.prog w3 = .ok () (w3.setCells g (k * 17) (cellsC (deadC M[k]))) := hst
      clear hst hrow4 hT hth hrow3 hrow hset hps HI HSB ht2 ht3 hg3 hS hle hm' hm'' H2 HP HRG s11 hlt'
      generalize w3.setCells g (k * 17) (cellsC (deadC M[k])) = w4 at *
      go_wp2_with fail
      go_roundw
      case rel => exact ⟨k + 1, by omega, by go_num, HN⟩
      case measure => simp [RowKit.intOf]; omega
    · obtain rfl : k = n := by omega
      have hkk : ¬ (k : Int) < (k : Int) := by omega
      have HT := hid hS.out.tur
      clear hS
      go_wp2_with fail
      go_end0
      exact ⟨rfl, HT.out⟩
end Go.Proofs.YtaeoccpjdjafnaaGreat.Im
namespace Go.Proofs.YtaeoccpjdjafnaaGreat.Im
open Go.RowKit
open Rl (En Lg)
open Qu (Cf)
theorem flat_mem {α : Type} (f : α → List Nat) (x : α) : ∀ L : List α, x ∈ L → (f x).length ≤ (L.flatMap f).length
  | y :: L, h => by
    rw [List.flatMap_cons, List.length_append]
    rcases List.mem_cons.1 h with rfl | h
    · omega
    · have := flat_mem f x L h; omega
theorem fewK_of {p : Pt} (h : (encPt p).length ≤ 65536) : FewK p ∧ p.log.es.length ≤ 90000 := by
  have he := encPt_length p
  have h24 : ∀ L : List En, 24 * L.length ≤ (L.flatMap encE).length := fun L => by
    induction L with
    | nil => simp
    | cons e L ih =>
      rw [List.flatMap_cons, List.length_append, List.length_cons]
      have : 24 ≤ (encE e).length := by unfold encE encB; simp [Pk.enc_length]; omega
      omega
  have := h24 p.log.es
  exact ⟨⟨by omega, by omega, by omega, by omega⟩, by omega⟩
theorem get_few (l : List Nat) (hs : ∀ x ∈ l, x < 256) (hl : l.length ≤ 65536) : ∀ h ∈ (get l).1.hs, FewK h.p ∧ h.p.log.es.length ≤ 90000 := by
  intro h hh
  rcases get_cases l hs with ⟨_, g2, _⟩ | ⟨_, g2⟩
  · have h1 : (encH h).length ≤ l.length := by
      have := congrArg List.length g2
      unfold encIm encL at this
      simp only [List.length_append] at this
      have := flat_mem encH h _ hh
      omega
    rw [encH_length] at h1
    exact fewK_of (by omega)
  · rw [g2] at hh; cases hh
theorem getCs_few (l : List Nat) (hs : ∀ x ∈ l, x < 256) (hl : l.length ≤ 65536) : ∀ c ∈ (getCs l).1, FewK c.p ∧ c.p.log.es.length ≤ 90000 := by
  intro h hh
  rcases getCs_cases l hs with ⟨_, g2⟩ | ⟨_, g2⟩
  · have h1 : (encC h).length ≤ l.length := by
      have := congrArg List.length g2
      unfold encL at this
      simp only [List.length_append] at this
      have := flat_mem encC h _ hh
      omega
    have h2 : (encPt h.p).length ≤ (encC h).length := by
      unfold encC
      simp only [List.length_append]
      omega
    exact fewK_of (by omega)
  · rw [g2] at hh; cases hh
theorem getCf_few (l : List Nat) (hs : ∀ x ∈ l, x < 256) (hl : l.length ≤ 65536) : Short (getCf l).1 := by
  rcases getCf_cases l hs with ⟨_, g2⟩ | ⟨_, g2⟩
  · have h1 := congrArg List.length g2
    unfold encCf at h1
    simp only [List.length_append, encI_len] at h1
    exact ⟨by omega, by omega, by omega⟩
  · rw [g2]; exact ⟨Nat.zero_le _, Nat.zero_le _, Nat.zero_le _⟩
theorem getB {w : World} {B : Nat} {l : List Nat} {g cx : Nat} (h : OwnsB 5 w B (some ⟨g, 0, none⟩) cx (lent l)) : IsBytes w w.heap.size (some ⟨g, 0, none⟩) l := by
  have := h.reads.take l.length; rwa [take_lent] at this
end Go.Proofs.YtaeoccpjdjafnaaGreat.Im
namespace Go.Proofs.YtaeoccpjdjafnaaGreat.imageGets
open Go.ChangeShapes Go.WideShapes Go.ChangeAt Go.RowKit
open Go.ChangeMaps (open_string shut_string)
set_option linter.unusedVariables false

theorem own : ownKnob Tryz.prog.godebug = none := by kernel_rfl
theorem laidOut : laidOutB Tryz.prog = true := by kernel_rfl
theorem bytesOf : Tryz.prog.bytesOf 5 = 1 := by kernel_rfl

attribute [local go_sem ↓] Im.loadAt_image Im.storeAt_image Im.loadAt_conf3 Im.storeAt_conf3
open Im in
set_option maxRecDepth 100000 in
set_option maxHeartbeats 12800000 in
theorem walk (A0 : Option Addr) (c0 : Nat) (l : List Nat) (w : World) (k0 : IsBytes w w.heap.size A0 l) (n0 : l.length ≤ c0) (r0 : c0 ≤ 140737488351232) (z0 : A0 = none → c0 = 0) :
    Calls Tryz.prog 4 #[.slice A0 l.length c0] w fun e w' => e = .returned (.bool true) ∧ Below w.heap.size w w' := by
  obtain ⟨n, hn⟩ : ∃ n, l.length = n := ⟨_, rfl⟩
  by_cases hbig : 65536 < n
  · rw [hn]
    have HK := hid (known_any w)
    have hbi : (65536 : Int) < (n : Int) := by omega
    clear k0 n0 r0 z0
    go_enter Tryz.func4, Tryz.ntmps4
    go_wp2_with fail
    refine HK.out.mono ?_
    rintro e w1 ⟨rfl, hb⟩
    have HB := hid hb
    clear hb
    go_wp2_with fail
    go_ret
    exact ⟨rfl, HB.out⟩
  · have HLT := lent_any w.heap.size A0 c0 l (by omega) w k0 (Nat.le_refl _)
    rw [hn] at HLT n0
    rw [hn]
    replace HLT := hid HLT
    have hbi : ¬ (65536 : Int) < (n : Int) := by omega
    have HI := hid (And.intro k0 (And.intro hn (And.intro z0 (And.intro k0.small (show n ≤ 65536 by omega)))))
    have HQF := hid (And.intro (get_few l k0.small (by omega)) (And.intro (getCs_few l k0.small (by omega)) (And.intro (getCf_few l k0.small (by omega)) (And.intro (get_len l k0.small (by omega)) (getCs_len l k0.small (by omega))))))
    obtain ⟨x, e1, hx⟩ : ∃ x e, get l = (x, e) := ⟨_, _, rfl⟩
    obtain ⟨y, e2, hy⟩ : ∃ x e, getCs l = (x, e) := ⟨_, _, rfl⟩
    obtain ⟨z, e3, hz⟩ : ∃ x e, getCf l = (x, e) := ⟨_, _, rfl⟩
    have HE := hid (And.intro hx (And.intro hy hz))
    rw [hx, hy, hz] at HQF
    obtain ⟨nh, hnh⟩ : ∃ n, n = x.hs.length := ⟨_, rfl⟩
    obtain ⟨nv, hnv⟩ : ∃ n, n = x.vs.length := ⟨_, rfl⟩
    obtain ⟨nc, hnc⟩ : ∃ n, n = y.length := ⟨_, rfl⟩
    obtain ⟨m1, hm1⟩ : ∃ n, n = z.old.length := ⟨_, rfl⟩
    obtain ⟨m2, hm2⟩ : ∃ n, n = z.new.length := ⟨_, rfl⟩
    obtain ⟨m3, hm3⟩ : ∃ n, n = z.lrn.length := ⟨_, rfl⟩
    have HN := hid (And.intro hnh (And.intro hnv (And.intro hnc (And.intro hm1 (And.intro hm2 hm3)))))
    have HG : Hid (∀ wz A c, IsBytes wz wz.heap.size A l → (A = none → c = 0) → Calls Tryz.prog 22 #[.slice A n c] wz fun e w' => ∃ i : Ia, e = .returned (.tuple #[.agg #[.slice i.h nh i.ch, .slice i.v nv i.cv], .int .i64 e1]) ∧ (∃ Q, Q.map (·.h) = x.hs ∧ OwnIm w' wz.heap.size w'.heap.size i Q x.vs) ∧ Below wz.heap.size wz w') := hid fun wz A c h hn => by
      refine (get_any l A c n HI.out.2.1 wz h hn (by have := HI.out.2.2.2.2; omega)).mono ?_
      rintro e w' ⟨i, a, b, he, ⟨Q, L, ⟨q1, q2⟩, ho, hv⟩, hb⟩
      rw [hx] at he hv
      have hv1 : Q.map (·.h) = x.hs := congrArg Im.hs hv
      have hv2 : L = x.vs := congrArg Im.vs hv
      subst hv2
      refine ⟨i, ?_, ⟨Q, hv1, ho⟩, hb⟩
      rw [he, q1, q2, hnh, hnv, ← hv1, List.length_map]
    have HRG : Hid (∀ wz A c, IsBytes wz wz.heap.size A l → Calls Tryz.prog 23 #[.slice A n c] wz fun e w' => ∃ (i : Ia) (M : List Hq), e = .returned (.tuple #[.agg #[.slice i.h nh i.ch, .slice i.v nv i.cv], .int .i64 e1]) ∧ M.map (·.h) = x.hs ∧ IsHds w' w'.heap.size i.h M ∧ IsVs w' w'.heap.size i.v x.vs ∧ Below wz.heap.size wz w') := hid fun wz A c h => by
      have := rGet_any l A c n HI.out.2.1 HI.out.2.2.2.2 wz h
      unfold ImPost at this
      rw [hx] at this
      rw [hnh, hnv]
      exact this
    have HC : Hid (∀ wz A c, IsBytes wz wz.heap.size A l → (A = none → c = 0) → Calls Tryz.prog 24 #[.slice A n c] wz fun e w' => ∃ A c, e = .returned (.tuple #[.slice A nc c, .int .i64 e2]) ∧ (∃ L : List Cq, L.map (·.c) = y ∧ OwnCs w' wz.heap.size w'.heap.size A c L) ∧ Below wz.heap.size wz w') := hid fun wz A c h hn => by
      refine (getCs_any l A c n HI.out.2.1 wz h hn (by have := HI.out.2.2.2.2; omega)).mono ?_
      rintro e w' ⟨A', c', nl, he, ⟨L, q1, ho, hv⟩, hb⟩
      rw [hy] at he hv
      have hv1 : L.map (·.c) = y := hv
      refine ⟨A', c', ?_, ⟨L, hv1, ho⟩, hb⟩
      rw [he, q1, hnc, ← hv1, List.length_map]
    have HRC : Hid (∀ wz A c, IsBytes wz wz.heap.size A l → Calls Tryz.prog 25 #[.slice A n c] wz fun e w' => ∃ (A' : Option Addr) (c' : Nat) (M : List Cq), e = .returned (.tuple #[.slice A' nc c', .int .i64 e2]) ∧ M.map (·.c) = y ∧ IsCs w' w'.heap.size A' M ∧ Below wz.heap.size wz w') := hid fun wz A c h => by
      have := rGetCs_any l A c n HI.out.2.1 HI.out.2.2.2.2 wz h
      unfold CsPost at this
      rw [hy] at this
      rw [hnc]
      exact this
    have HF : Hid (∀ wz A c, IsBytes wz wz.heap.size A l → (A = none → c = 0) → Calls Tryz.prog 26 #[.slice A n c] wz fun e w' => ∃ a : Ad, e = .returned (.tuple #[.agg #[.slice a.o m1 a.co, .slice a.n m2 a.cn, .slice a.l m3 a.cl], .int .i64 e3]) ∧ OwnCf w' wz.heap.size w'.heap.size z a ∧ Below wz.heap.size wz w') := hid fun wz A c h hn => by
      refine (getCf_any l A c n HI.out.2.1 wz h hn (by have := HI.out.2.2.2.2; omega)).mono ?_
      rintro e w' ⟨a, k1, k2, k3, he, ⟨p, ⟨q1, q2, q3⟩, ho, hv⟩, hb⟩
      rw [hz] at he hv
      have hv1 : p = z := hv
      subst hv1
      refine ⟨a, ?_, ho, hb⟩
      rw [he, q1, q2, q3, hm1, hm2, hm3]
    have HRF : Hid (∀ wz A c, IsBytes wz wz.heap.size A l → Calls Tryz.prog 27 #[.slice A n c] wz fun e w' => ∃ A0 A1 A2 c0 c1 c2, e = .returned (.tuple #[.agg #[.slice A0 m1 c0, .slice A1 m2 c1, .slice A2 m3 c2], .int .i64 e3]) ∧ CIs w' w'.heap.size z A0 A1 A2 c0 c1 c2 ∧ Below wz.heap.size wz w') := hid fun wz A c h => by
      have := rGetConf_any l A c n HI.out.2.1 HI.out.2.2.2.2 wz h
      unfold CfPost at this
      rw [hz] at this
      rw [hm1, hm2, hm3]
      exact this
    clear k0 n0 r0 z0 hx hy hz hnh hnv hnc hm1 hm2 hm3 hn
    go_enter Tryz.func4, Tryz.ntmps4
    go_wp2_with fail
    refine HLT.out.mono ?_
    rintro e w1 ⟨gc, cx, rfl, hx1, hb1⟩
    have hcx := hx1.cap
    rw [lent_length, HI.out.2.1] at hcx
    have hcx1 : n ≤ cx := by omega
    have hcx2 : (n : Int) ≤ (cx : Int) := by omega
    have HCX := hid (And.intro hcx (hx1.blkLt gc rfl))
    have H1 := hid (And.intro hx1 hb1)
    have HP := hid (HG.out w1 (some ⟨gc, 0, none⟩) cx (getB hx1) (fun h => by cases h))
    clear hx1 hb1 HLT hcx HG
    go_wp2_with fail
    refine HP.out.mono ?_
    rintro e w2 ⟨i, rfl, ⟨Q, hQ, ho⟩, hb2⟩
    obtain ⟨w3, hw3⟩ : ∃ w3, w3 = w2.alloc (.cells #[.slice i.h nh i.ch, .slice i.v nv i.cv] 25) := ⟨_, rfl⟩
    have hst := stNew w2 25 2 info_image2 #[.slice none 0 0, .slice none 0 0] #[.slice i.h nh i.ch, .slice i.v nv i.cv] rfl rfl (by simp [Value.oneCell'])
    rw [← hw3] at hst
    obtain ⟨b3, hb3⟩ : ∃ b, b = w2.heap.size := ⟨_, rfl⟩
    have H3 : Hid ((w1.heap.size ≤ b3 ∧ w3.heap.size = b3 + 1) ∧ w3.heap[b3]? = some (.cells #[.slice i.h nh i.ch, .slice i.v nv i.cv] 25 (0, 0)) ∧ OwnIm w3 w1.heap.size b3 i Q x.vs ∧ OwnsB 5 w3 w.heap.size (some ⟨gc, 0, none⟩) cx (lent l) ∧ Below w.heap.size w w3 ∧ Q.map (·.h) = x.hs) := hid (by
      have hb23 : Below w2.heap.size w2 w3 := by rw [hw3]; exact (Below.refl _ w2).alloc (Nat.le_refl _) _
      rw [hb3]
      exact ⟨⟨hb2.size, by rw [hw3]; simp⟩, by rw [hw3]; exact heap_alloc_new w2 _, ho.below hb23, (H1.out.1.below hb2).below hb23, (H1.out.2.trans (hb2.mono H1.out.2.size)).trans (hb23.mono (by have := hb2.size; have := H1.out.2.size; omega)), hQ⟩)
    have HP3 := hid (HRG.out w3 A0 c0 ((HI.out.1.below H3.out.2.2.2.2.1).more H3.out.2.2.2.2.1.size))
    clear ho hb2 HP HRG hQ
    go_wp2_with fail
    rw [← hw3, ← hb3]
    clear hw3 hst hb3
    refine HP3.out.mono ?_
    rintro e w4 ⟨i', M, rfl, hM, hh', hv', hb4⟩
    obtain ⟨w5, hw5⟩ : ∃ w5, w5 = w4.alloc (.cells #[.slice i'.h nh i'.ch, .slice i'.v nv i'.cv] 25) := ⟨_, rfl⟩
    have hst := stNew w4 25 2 info_image2 #[.slice none 0 0, .slice none 0 0] #[.slice i'.h nh i'.ch, .slice i'.v nv i'.cv] rfl rfl (by simp [Value.oneCell'])
    rw [← hw5] at hst
    obtain ⟨b5, hb5⟩ : ∃ b, b = w4.heap.size := ⟨_, rfl⟩
    have H5 : Hid ((b3 + 1 ≤ b5 ∧ w5.heap.size = b5 + 1 ∧ Below w3.heap.size w3 w5) ∧ w5.heap[b5]? = some (.cells #[.slice i'.h nh i'.ch, .slice i'.v nv i'.cv] 25 (0, 0)) ∧ IsHds w5 b5 i'.h M ∧ IsVs w5 b5 i'.v x.vs ∧ Below w.heap.size w w5 ∧ M.map (·.h) = x.hs) := hid (by
      have hb45 : Below w4.heap.size w4 w5 := by rw [hw5]; exact (Below.refl _ w4).alloc (Nat.le_refl _) _
      have hb35 := hb4.trans (hb45.mono hb4.size)
      have hz := H3.out.1.2
      have hz4 := hb4.size
      rw [hb5]
      exact ⟨⟨by omega, by rw [hw5]; simp, hb35⟩, by rw [hw5]; exact heap_alloc_new w4 _, hh'.below hb45, hv'.below hb45, H3.out.2.2.2.2.1.trans (hb35.mono H3.out.2.2.2.2.1.size), hM⟩)
    have HP5 := hid (HC.out w5 (some ⟨gc, 0, none⟩) cx (getB (H3.out.2.2.2.1.below H5.out.1.2.2)) (fun h => by cases h))
    clear hh' hv' hb4 HP3 HC hM
    go_wp2_with fail
    rw [← hw5, ← hb5]
    clear hw5 hst hb5
    refine HP5.out.mono ?_
    rintro e w6 ⟨Ac, cc, rfl, ⟨Lc, hLc, hoc⟩, hb6⟩
    have H6 : Hid (Below w5.heap.size w5 w6 ∧ OwnCs w6 w5.heap.size w6.heap.size Ac cc Lc ∧ Below w.heap.size w w6 ∧ Lc.map (·.c) = y) := hid ⟨hb6, hoc, H5.out.2.2.2.2.1.trans (hb6.mono H5.out.2.2.2.2.1.size), hLc⟩
    have HP6 := hid (HRC.out w6 A0 c0 ((HI.out.1.below H6.out.2.2.1).more H6.out.2.2.1.size))
    clear hoc hb6 HP5 HRC hLc
    go_wp2_with fail
    refine HP6.out.mono ?_
    rintro e w7 ⟨Ad, cd, Md, rfl, hMd, hcd, hb7⟩
    have H7 : Hid (Below w6.heap.size w6 w7 ∧ IsCs w7 w7.heap.size Ad Md ∧ Below w.heap.size w w7 ∧ Md.map (·.c) = y) := hid ⟨hb7, hcd, H6.out.2.2.1.trans (hb7.mono H6.out.2.2.1.size), hMd⟩
    have HX7 : Hid (OwnsB 5 w7 w.heap.size (some ⟨gc, 0, none⟩) cx (lent l)) := hid (((H3.out.2.2.2.1.below H5.out.1.2.2).below H6.out.1).below hb7)
    have HP7 := hid (HF.out w7 (some ⟨gc, 0, none⟩) cx (getB HX7.out) (fun h => by cases h))
    clear hcd hb7 HP6 HF hMd
    go_wp2_with fail
    refine HP7.out.mono ?_
    rintro e w8 ⟨a, rfl, hof, hb8⟩
    obtain ⟨w9, hw9⟩ : ∃ w9, w9 = w8.alloc (.cells #[.slice a.o m1 a.co, .slice a.n m2 a.cn, .slice a.l m3 a.cl] 28) := ⟨_, rfl⟩
    have hst := stNew w8 28 3 info_conf33 #[.slice none 0 0, .slice none 0 0, .slice none 0 0] #[.slice a.o m1 a.co, .slice a.n m2 a.cn, .slice a.l m3 a.cl] rfl rfl (by simp [Value.oneCell'])
    rw [← hw9] at hst
    obtain ⟨b9, hb9⟩ : ∃ b, b = w8.heap.size := ⟨_, rfl⟩
    have H9 : Hid ((w7.heap.size ≤ b9 ∧ w9.heap.size = b9 + 1 ∧ Below w7.heap.size w7 w9) ∧ w9.heap[b9]? = some (.cells #[.slice a.o m1 a.co, .slice a.n m2 a.cn, .slice a.l m3 a.cl] 28 (0, 0)) ∧ OwnCf w9 w7.heap.size b9 z a ∧ Below w.heap.size w w9) := hid (by
      have hb89 : Below w8.heap.size w8 w9 := by rw [hw9]; exact (Below.refl _ w8).alloc (Nat.le_refl _) _
      have hb79 := hb8.trans (hb89.mono hb8.size)
      rw [hb9]
      exact ⟨⟨hb8.size, by rw [hw9]; simp, hb79⟩, by rw [hw9]; exact heap_alloc_new w8 _, hof.below hb89, H7.out.2.2.1.trans (hb79.mono H7.out.2.2.1.size)⟩)
    have HP9 := hid (HRF.out w9 A0 c0 ((HI.out.1.below H9.out.2.2.2).more H9.out.2.2.2.size))
    clear hof hb8 HP7 HRF
    go_wp2_with fail
    rw [← hw9, ← hb9]
    clear hw9 hst hb9
    refine HP9.out.mono ?_
    rintro e w10 ⟨D0, D1, D2, d0, d1, d2, rfl, hcf, hb10⟩
    obtain ⟨w11, hw11⟩ : ∃ w11, w11 = w10.alloc (.cells #[.slice D0 m1 d0, .slice D1 m2 d1, .slice D2 m3 d2] 28) := ⟨_, rfl⟩
    have hst := stNew w10 28 3 info_conf33 #[.slice none 0 0, .slice none 0 0, .slice none 0 0] #[.slice D0 m1 d0, .slice D1 m2 d1, .slice D2 m3 d2] rfl rfl (by simp [Value.oneCell'])
    rw [← hw11] at hst
    obtain ⟨b11, hb11⟩ : ∃ b, b = w10.heap.size := ⟨_, rfl⟩
    have H11 : Hid ((b9 + 1 ≤ b11 ∧ w11.heap.size = b11 + 1 ∧ Below w9.heap.size w9 w11) ∧ w11.heap[b11]? = some (.cells #[.slice D0 m1 d0, .slice D1 m2 d1, .slice D2 m3 d2] 28 (0, 0)) ∧ CIs w11 b11 z D0 D1 D2 d0 d1 d2 ∧ Below w.heap.size w w11) := hid (by
      have hb1011 : Below w10.heap.size w10 w11 := by rw [hw11]; exact (Below.refl _ w10).alloc (Nat.le_refl _) _
      have hb911 := hb10.trans (hb1011.mono hb10.size)
      have hz := H9.out.1.2.1
      have hz4 := hb10.size
      rw [hb11]
      exact ⟨⟨by omega, by rw [hw11]; simp, hb911⟩, by rw [hw11]; exact heap_alloc_new w10 _, hcf.below hb1011, H9.out.2.2.2.trans (hb911.mono H9.out.2.2.2.size)⟩)
    -- all that lies there at w11, and behind what only makes memory
    have HO : Hid (w.heap.size ≤ gc ∧ gc < w1.heap.size ∧ w1.heap.size ≤ b3 ∧ b3 + 1 ≤ b5 ∧ w5.heap.size = b5 + 1 ∧ w5.heap.size ≤ w6.heap.size ∧ w6.heap.size ≤ w7.heap.size ∧ w7.heap.size ≤ b9 ∧ b9 + 1 ≤ b11 ∧ w11.heap.size = b11 + 1) := hid ⟨HCX.out.2.1, HCX.out.2.2, H3.out.1.1, H5.out.1.1, H5.out.1.2.1, H6.out.1.size, H7.out.1.size, H9.out.1.1, H11.out.1.1, H11.out.1.2.1⟩
    have HA : Hid (∀ wz, Below w11.heap.size w11 wz →
        (wz.heap[b3]? = some (.cells #[.slice i.h nh i.ch, .slice i.v nv i.cv] 25 (0, 0)) ∧ wz.heap[b5]? = some (.cells #[.slice i'.h nh i'.ch, .slice i'.v nv i'.cv] 25 (0, 0)) ∧ wz.heap[b9]? = some (.cells #[.slice a.o m1 a.co, .slice a.n m2 a.cn, .slice a.l m3 a.cl] 28 (0, 0)) ∧ wz.heap[b11]? = some (.cells #[.slice D0 m1 d0, .slice D1 m2 d1, .slice D2 m3 d2] 28 (0, 0))) ∧
        (OwnIm wz w1.heap.size b3 i Q x.vs ∧ IsHds wz b5 i'.h M ∧ IsVs wz b5 i'.v x.vs) ∧
        (OwnCs wz w5.heap.size w6.heap.size Ac cc Lc ∧ IsCs wz w7.heap.size Ad Md) ∧
        (OwnCf wz w7.heap.size b9 z a ∧ CIs wz b11 z D0 D1 D2 d0 d1 d2) ∧
        OwnsB 5 wz w.heap.size (some ⟨gc, 0, none⟩) cx (lent l) ∧ Below w.heap.size w wz) := hid fun wz hb => by
      obtain ⟨o1, o2, o3, o4, o5, o6, o7, o8, o9, o10⟩ := HO.out
      have z3 := H3.out.1.2
      have z9 := H9.out.1.2.1
      have b119 : Below w9.heap.size w9 wz := H11.out.1.2.2.trans (hb.mono H11.out.1.2.2.size)
      have b117 : Below w7.heap.size w7 wz := H9.out.1.2.2.trans (b119.mono H9.out.1.2.2.size)
      have b116 : Below w6.heap.size w6 wz := H7.out.1.trans (b117.mono H7.out.1.size)
      have b115 : Below w5.heap.size w5 wz := H6.out.1.trans (b116.mono H6.out.1.size)
      have b113 : Below w3.heap.size w3 wz := H5.out.1.2.2.trans (b115.mono H5.out.1.2.2.size)
      exact ⟨⟨(b113.block _ (by omega)).trans H3.out.2.1, (b115.block _ (by omega)).trans H5.out.2.1, (b119.block _ (by omega)).trans H9.out.2.1, (hb.block _ (by omega)).trans H11.out.2.1⟩,
        ⟨H3.out.2.2.1.below (b113.mono (by omega)), H5.out.2.2.1.below (b115.mono (by omega)), H5.out.2.2.2.1.below (b115.mono (by omega))⟩,
        ⟨H6.out.2.1.below b116, H7.out.2.1.below b117⟩,
        ⟨H9.out.2.2.1.below (b119), H11.out.2.2.1.below (hb.mono (by omega))⟩, H3.out.2.2.2.1.below b113, H11.out.2.2.2.trans (hb.mono H11.out.2.2.2.size)⟩
    have HQM := hid (And.intro H3.out.2.2.2.2.2 (And.intro H5.out.2.2.2.2.2 (And.intro H6.out.2.2.2 H7.out.2.2.2)))
    have HSM : Hid (Calls Tryz.prog 19 #[.agg #[.slice i.h nh i.ch, .slice i.v nv i.cv], .agg #[.slice i'.h nh i'.ch, .slice i'.v nv i'.cv]] w11 fun e w' => e = .returned (.bool true) ∧ Below w11.heap.size w11 w') := hid (by
      obtain ⟨_, ⟨q1, q2, q3⟩, _⟩ := HA.out w11 (Below.refl _ _)
      obtain ⟨o1, o2, o3, o4, o5, o6, o7, o8, o9, o10⟩ := HO.out
      obtain ⟨v1, v2⟩ := q1.vs
      have hl := HQF.out.2.2.2.1
      exact sameIm_any i i' nh nv Q M x.vs (by rw [HN.out.1, ← HQM.out.1, List.length_map]) HN.out.2.1.symm (HQM.out.1.trans HQM.out.2.1.symm) (by have := HN.out.1; have := hl.1; (try simp only [] at *); omega) (by have := HN.out.2.1; have := hl.2; (try simp only [] at *); omega) (fun q hq => (HQF.out.1 q.h (by show q.h ∈ x.hs; rw [← HQM.out.1]; exact List.mem_map.2 ⟨q, hq, rfl⟩)).1) w11 (v1.more (by omega)) (q2.more (by omega)) (v2.more (by omega)) (q3.more (by omega)))
    have ld3 := ldRow info_image2 Tryz.underlying25 rfl (HA.out w11 (Below.refl _ _)).1.1 rfl
    have ld5 := ldRow info_image2 Tryz.underlying25 rfl (HA.out w11 (Below.refl _ _)).1.2.1 rfl
    rw [hw11] at ld3 ld5
    clear hcf hb10 HP9 H1 H3 H5 H6 H7 H9 H11 HX7
    go_wp2_with fail
    rw [← hw11, ← hb11]
    clear hw11 hst hb11
    refine HSM.out.mono ?_
    rintro e w12 ⟨rfl, hb12⟩
    have HSC : Hid (Calls Tryz.prog 28 #[.slice Ac nc cc, .slice Ad nc cd] w12 fun e w' => e = .returned (.bool true) ∧ Below w12.heap.size w12 w') := hid (by
      obtain ⟨_, _, ⟨q1, q2⟩, _⟩ := HA.out w12 hb12
      obtain ⟨o1, o2, o3, o4, o5, o6, o7, o8, o9, o10⟩ := HO.out
      have hz := hb12.size
      exact sameCs_any Ac Ad cc cd nc Lc Md (by rw [HN.out.2.2.1, ← HQM.out.2.2.1, List.length_map]) (HQM.out.2.2.1.trans HQM.out.2.2.2.symm) (by have := HN.out.2.2.1; have := HQF.out.2.2.2.2; (try simp only [] at *); omega) (fun q hq => (HQF.out.2.1 q.c (by show q.c ∈ y; rw [← HQM.out.2.2.1]; exact List.mem_map.2 ⟨q, hq, rfl⟩)).1) w12 (q1.reads.more (by omega)) (q2.more (by omega)))
    have H12 := hid hb12
    clear hb12 HSM ld3 ld5
    go_wp2_with fail
    refine HSC.out.mono ?_
    rintro e w13 ⟨rfl, hb13⟩
    have H13 : Hid (Below w11.heap.size w11 w13) := hid (H12.out.trans (hb13.mono H12.out.size))
    have HSF : Hid (Calls Tryz.prog 20 #[.agg #[.slice a.o m1 a.co, .slice a.n m2 a.cn, .slice a.l m3 a.cl], .agg #[.slice D0 m1 d0, .slice D1 m2 d1, .slice D2 m3 d2]] w13 fun e w' => e = .returned (.bool true) ∧ Below w13.heap.size w13 w') := hid (by
      obtain ⟨_, _, _, ⟨q1, q2⟩, _⟩ := HA.out w13 H13.out
      have hz := H13.out.size
      obtain ⟨o1, o2, o3, o4, o5, o6, o7, o8, o9, o10⟩ := HO.out
      have := sameConf_any w13.heap.size b11 z z HQF.out.2.2.1 HQF.out.2.2.1 a.o a.n a.l D0 D1 D2 a.co a.cn a.cl d0 d1 d2 w13 q1.cis q2 (Nat.le_refl _) (by omega) rfl
      rw [← HN.out.2.2.2.1, ← HN.out.2.2.2.2.1, ← HN.out.2.2.2.2.2] at this
      exact this)
    have ld9 := ldRow info_conf33 Tryz.underlying28 rfl (HA.out w13 H13.out).1.2.2.1 rfl
    have ld11 := ldRow info_conf33 Tryz.underlying28 rfl (HA.out w13 H13.out).1.2.2.2 rfl
    clear hb13 HSC H12
    go_wp2_with fail
    refine HSF.out.mono ?_
    rintro e w14 ⟨rfl, hb14⟩
    have H14 : Hid (Below w11.heap.size w11 w14) := hid (H13.out.trans (hb14.mono H13.out.size))
    have ld14 := ldRow info_image2 Tryz.underlying25 rfl (HA.out w14 H14.out).1.1 rfl
    have HPI : Hid (Calls Tryz.prog 29 #[.agg #[.slice i.h nh i.ch, .slice i.v nv i.cv]] w14 fun e w' => e = .returned (.tuple #[]) ∧ Turned (Bl w1.heap.size b3) w14 w') := hid (by
      obtain ⟨_, ⟨q1, _⟩, _⟩ := HA.out w14 H14.out
      have hz := H14.out.size
      obtain ⟨o1, o2, o3, o4, o5, o6, o7, o8, o9, o10⟩ := HO.out
      have hl := HQF.out.2.2.2.1
      exact spoilIm_any w1.heap.size b3 i nh nv Q x.vs (by rw [HN.out.1, ← HQM.out.1, List.length_map]) HN.out.2.1 (by have := HN.out.1; have := hl.1; (try simp only [] at *); omega) (by have := HN.out.2.1; have := hl.2; (try simp only [] at *); omega) (fun q hq => by have := (HQF.out.1 q.h (by show q.h ∈ x.hs; rw [← HQM.out.1]; exact List.mem_map.2 ⟨q, hq, rfl⟩)).2; omega) w14 q1 (by omega))
    clear hb14 HSF H13 ld9 ld11
    go_wp2_with fail
    refine HPI.out.mono ?_
    rintro e w15 ⟨rfl, ht15⟩
    have H15 : Hid (OwnCs w15 w5.heap.size w6.heap.size Ac cc Lc ∧ OwnCf w15 w7.heap.size b9 z a ∧ w15.heap[b9]? = some (.cells #[.slice a.o m1 a.co, .slice a.n m2 a.cn, .slice a.l m3 a.cl] 28 (0, 0)) ∧ OwnsB 5 w15 w.heap.size (some ⟨gc, 0, none⟩) cx (lent l) ∧ Below w.heap.size w w15 ∧ w11.heap.size ≤ w15.heap.size) := hid (by
      obtain ⟨⟨r3, r5, r9, r11⟩, _, ⟨q1, _⟩, ⟨q2, _⟩, q3, q4⟩ := HA.out w14 H14.out
      have hz := H14.out.size
      have hz2 := ht15.size
      obtain ⟨o1, o2, o3, o4, o5, o6, o7, o8, o9, o10⟩ := HO.out
      exact ⟨q1.keep ht15 (fun k hk hB => by have h1 := hk.2; have h2 := hB.1; omega), q2.keep ht15 (fun k hk => by have h1 := hk.2; omega), (ht15.block _ (row_lt r9) (fun e => by have h1 := e.2; omega)).trans r9, q3.turned ht15 (fun k hk e => by injection hk with hk; have h1 := e.1; have hk : gc = k := hk; omega), q4.trans (ht15.below (by have := q4.size; omega) (fun k hk => by have h1 := hk.1; omega)), by omega⟩)
    have HPC : Hid (Calls Tryz.prog 30 #[.slice Ac nc cc] w15 fun e w' => e = .returned (.tuple #[]) ∧ Turned (Bl w5.heap.size w6.heap.size) w15 w') := hid (by
      exact spoilCs_any w5.heap.size w6.heap.size Ac cc nc Lc (by rw [HN.out.2.2.1, ← HQM.out.2.2.1, List.length_map]) (by have := HN.out.2.2.1; have := HQF.out.2.2.2.2; (try simp only [] at *); omega) (fun q hq => by have := (HQF.out.2.1 q.c (by show q.c ∈ y; rw [← HQM.out.2.2.1]; exact List.mem_map.2 ⟨q, hq, rfl⟩)).2; omega) w15 H15.out.1)
    clear ht15 HPI ld14 H14 HA
    go_wp2_with fail
    refine HPC.out.mono ?_
    rintro e w16 ⟨rfl, ht16⟩
    have H16 : Hid (OwnCf w16 w7.heap.size b9 z a ∧ w16.heap[b9]? = some (.cells #[.slice a.o m1 a.co, .slice a.n m2 a.cn, .slice a.l m3 a.cl] 28 (0, 0)) ∧ OwnsB 5 w16 w.heap.size (some ⟨gc, 0, none⟩) cx (lent l) ∧ Below w.heap.size w w16 ∧ w11.heap.size ≤ w16.heap.size) := hid (by
      obtain ⟨q1, q2, r9, q3, q4, q5⟩ := H15.out
      have hz2 := ht16.size
      obtain ⟨o1, o2, o3, o4, o5, o6, o7, o8, o9, o10⟩ := HO.out
      exact ⟨q2.keep ht16 (fun k hk => by have h1 := hk.2; omega), (ht16.block _ (row_lt r9) (fun e => by have h1 := e.2; omega)).trans r9, q3.turned ht16 (fun k hk e => by injection hk with hk; have h1 := e.1; have hk : gc = k := hk; omega), q4.trans (ht16.below (by have := q4.size; omega) (fun k hk => by have h1 := hk.1; omega)), by omega⟩)
    have ld16 := ldRow info_conf33 Tryz.underlying28 rfl H16.out.2.1 rfl
    have HPF : Hid (Calls Tryz.prog 31 #[.agg #[.slice a.o m1 a.co, .slice a.n m2 a.cn, .slice a.l m3 a.cl]] w16 fun e w' => e = .returned (.tuple #[]) ∧ Turned (fun k => w7.heap.size ≤ k) w16 w') := hid (by
      have hb9 := row_lt H16.out.2.1
      have := spoilCf_any z a m1 m2 m3 ⟨HN.out.2.2.2.1, HN.out.2.2.2.2.1, HN.out.2.2.2.2.2⟩ w7.heap.size w16.heap.size w16 (H16.out.1.wide (Nat.le_refl _) (by omega)) (Nat.le_refl _)
      exact this.mono fun e w' h => ⟨h.1, h.2.mono (fun k hk => hk.1)⟩)
    clear ht16 HPC H15
    go_wp2_with fail
    refine HPF.out.mono ?_
    rintro e w17 ⟨rfl, ht17⟩
    have H17 : Hid (OwnsB 5 w17 w.heap.size (some ⟨gc, 0, none⟩) cx (lent l) ∧ Below w.heap.size w w17) := hid (by
      obtain ⟨q1, q2, q3, q4, q5⟩ := H16.out
      obtain ⟨o1, o2, o3, o4, o5, o6, o7, o8, o9, o10⟩ := HO.out
      exact ⟨q3.turned ht17 (fun k hk e => by injection hk with hk; have hk : gc = k := hk; omega), q4.trans (ht17.below (by have := q4.size; omega) (fun k hk => by omega))⟩)
    have HKP : Hid (Calls Tryz.prog 32 #[.slice (some ⟨gc, 0, none⟩) (n + 5) cx, .slice A0 n c0] w17 fun e w' => e = .returned (.bool true) ∧ ∃ j, w' = w17.drewN j) := hid (by
      have := kept_any w17.heap.size w.heap.size gc A0 cx c0 l (by have := HI.out.2.1; have := HI.out.2.2.2.2; omega) (by rw [HI.out.2.1]; exact HCX.out.1) w17 H17.out.1.reads (HI.out.1.below H17.out.2)
      rw [HI.out.2.1] at this; exact this)
    clear ht17 HPF ld16 H16
    go_wp2_with fail
    refine HKP.out.mono ?_
    rintro e w18 ⟨rfl, n9, rfl⟩
    have H18 := hid (below_drewN H17.out.2 n9)
    go_wp2_with fail
    go_ret
    exact ⟨rfl, H18.out⟩

set_option maxRecDepth 100000 in
theorem lifted (os : Os) (started : os.Started) (H : Type) (enc : TypeId × Value → H) :
    ReturnsInHanded {} Tryz.checked os 4 .any (Rows.imageGetsSpec.pre6 enc Tryz.prog Tryz.f4 Rows.imageGetsRow.domain false) (Rows.imageGetsSpec.post enc Tryz.prog Tryz.f4 false true false false) := by
  refine returnsInHanded_of_change_sized (C := Tryz.checked) own started (by kernel_rfl) Tryz.func4
    (ChangeSpec.witness6 (enc := enc) (C := Tryz.checked) false ⟨#[], #[.slice none 0 0], []⟩ 8 (by kernel_rfl) (by kernel_rfl) (by kernel_rfl) (by kernel_rfl)) ?_
  intro W base args ds gs before hval0 hW hcnd hsz0 _
  have hsz : (DataW.weightsEach Tryz.prog (Tryz.f4.params.toList ++ Rows.imageGetsSpec.plain.varTypes Tryz.prog) (ds ++ gs)).all (· ≤ reachBytes) = true := hsz0
  clear hsz0
  have hval : ∀ (j : Nat) t v, Tryz.f4.params[j]? = some t → args[j]? = some v → Value.okWide Tryz.prog W .any base t v := hval0
  have hW' := hW
  obtain ⟨p, q, hA0, hV, rfl, hfz, hnd⟩ := hW
  have hA : DataW.TrodAll enc Tryz.prog W 0 (fun _ => true) true Tryz.f4.params.toList args.toList ds p := hA0
  rw [Tryz.params4] at hA hval hsz
  obtain ⟨v0, vs0, d0, ds0, p0, q0, hargs, rfl, rfl, g0, t0⟩ := trodAll_cons hA
  obtain ⟨rfl, rfl, rfl⟩ := trodAll_nil t0
  obtain rfl : args = #[v0] := by cases args; simp_all
  obtain ⟨rfl, rfl⟩ := trodVars_none hV
  obtain ⟨a0, len0, cap0, rfl⟩ := okWide_slice Tryz.underlying35 (hval 0 35 v0 rfl rfl)
  have m0 := g0
  have lt0 : ∀ x ∈ p0, x.block < W.heap.size := by obtain ⟨m, hm⟩ := m0; exact DataW.trod_lt m _ _ _ hm
  obtain ⟨l0, k0, rfl, n0, r0, z0⟩ : ∃ l, IsBytes W W.heap.size a0 l ∧ len0 = l.length ∧ l.length ≤ cap0 ∧ cap0 ≤ 140737488351232 ∧ (a0 = none → cap0 = 0) := by
    obtain ⟨fuel, hf⟩ := g0
    rcases open_ints Tryz.underlying35 Tryz.underlying5 (by kernel_rfl) hf with ⟨hcs, _⟩ | ⟨x, l, c, zs, hcs, _, hl, hm, hz, hx, hcell, hwz⟩
    · simp [Value.cells] at hcs
      obtain ⟨rfl, rfl, rfl⟩ := hcs
      exact ⟨[], IsBytes.nil, rfl, by simp, by omega, fun _ => rfl⟩
    · simp [Value.cells] at hcs
      obtain ⟨rfl, rfl, rfl⟩ := hcs
      simp only [Prod.mk.injEq] at hx
      obtain ⟨rfl, rfl⟩ := hx
      simp only [if_true] at hz
      have hr := sized_slice hsz (j := 0) (t := 35) (e := 5) rfl rfl Tryz.underlying35
      rw [bytesOf] at hr
      simp only [lits, List.length_map, List.length_take, List.length_drop, reachBytes] at hr
      obtain ⟨l, h1, h2⟩ := isBytes_of_ints hl hz hcell hwz
      exact ⟨l, h1, h2, by omega, by omega, fun h => by cases h⟩
  clear hA0 hval0
  refine (walk a0 cap0 l0 W k0 n0 r0 z0).mono fun e W' ⟨he, bel⟩ => ?_
  subst he
  exact ⟨_, rfl, _, _, _, [], _, [], hW', trodAll_mk1 (shut_bool Tryz.underlying4 _), (trodAll_cons_mk (Below.trod laidOut (by kernel_rfl) (of_decide_eq_true (by kernel_rfl)) m0 bel lt0) trodAll_mk0), rfl, bel.frame _, fun h => by cases h⟩

theorem over : Rows.imageGetsRow.holds Tryz.pinned (OpenSpec.ofChange Rows.imageGetsSpec) :=
  OpenClaim.holds_of_wide 4 Tryz.f4 rfl rfl rfl rfl rfl rfl rfl ⟨rfl, rfl, rfl, rfl, rfl⟩ rfl rfl rfl rfl rfl (by kernel_rfl) Tryz.func4 (by kernel_rfl)
    (of_decide_eq_true (by kernel_rfl)) (by unfold Func.isWrapper; first | (rw [if_pos (by decide +kernel)]; kernel_rfl) | (rw [if_neg (by decide +kernel)]; exact ⟨rfl, rfl⟩))
    (fun os started H enc _ => lifted os started H enc)

theorem proved : Rows.ImageGetsSaid := over
end Go.Proofs.YtaeoccpjdjafnaaGreat.imageGets
