/- The document's answer of layer 10: Agreed. -/
import Derived.Test.YtblhfbijffaacaaRqA
import Derived.Test.YtblhfbijffaacaaKitInts
namespace Go.Proofs.Ytblhfbijffaacaa
open Go.RowKit

namespace Qu
/-- the nodes that have reached the k-th number, of the first i -/
def upto (ps : List (Int × Int)) (v : Int) (i : Nat) : List Int := ((ps.take i).filter (fun p => decide (v ≤ p.2))).map (·.1)
theorem upto_succ {ps : List (Int × Int)} {v : Int} {i : Nat} (h : i < ps.length) : upto ps v (i + 1) = if v ≤ ps[i].2 then upto ps v i ++ [ps[i].1] else upto ps v i := by
  unfold upto
  rw [List.take_succ_eq_append_getElem h, List.filter_append, List.map_append]
  by_cases hv : v ≤ ps[i].2 <;> simp [hv]
theorem upto_len (ps : List (Int × Int)) (v : Int) (i : Nat) : (upto ps v i).length ≤ i := by
  unfold upto
  rw [List.length_map]
  have h1 := List.length_filter_le (fun p => decide (v ≤ p.2)) (ps.take i)
  rw [List.length_take] at h1
  omega
theorem upto_mem (ps : List (Int × Int)) (v x : Int) : x ∈ upto ps v ps.length ↔ reach ps v x = true := by
  unfold upto reach
  rw [List.take_length, List.mem_map, List.any_eq_true]
  constructor
  · rintro ⟨p, hp, rfl⟩
    obtain ⟨h1, h2⟩ := List.mem_filter.1 hp
    exact ⟨p, h1, decide_eq_true ⟨rfl, of_decide_eq_true h2⟩⟩
  · rintro ⟨p, hp, h⟩
    have h := of_decide_eq_true h
    exact ⟨p, List.mem_filter.2 ⟨hp, decide_eq_true h.2⟩, h.1⟩
theorem won_upto (c : Cf) (ps : List (Int × Int)) (v : Int) : won c (upto ps v ps.length) = quo c (reach ps v) := won_reach c ps v _ (fun x => upto_mem ps v x)
/-- what is agreed of the first k numbers -/
def AgrTo (c : Cf) (ps : List (Int × Int)) (k : Nat) (r : Int) : Prop :=
  0 ≤ r ∧ (0 < r → quo c (reach ps r) = true ∧ ∃ p ∈ ps, p.2 = r) ∧ ∀ p ∈ ps.take k, 0 < p.2 → quo c (reach ps p.2) = true → p.2 ≤ r
theorem AgrTo.zero (c : Cf) (ps : List (Int × Int)) : AgrTo c ps 0 0 := ⟨by omega, fun h => absurd h (by omega), fun p hp => by simp at hp⟩
theorem AgrTo.end_ {c : Cf} {ps : List (Int × Int)} {r : Int} (h : AgrTo c ps ps.length r) : Agr c ps r := by
  obtain ⟨h1, h2, h3⟩ := h
  rw [List.take_length] at h3
  exact ⟨h1, h2, h3⟩
theorem AgrTo.same {c : Cf} {ps : List (Int × Int)} {k : Nat} {r : Int} (h : AgrTo c ps k r) (hk : k < ps.length) (hn : ps[k].2 ≤ r ∨ quo c (reach ps ps[k].2) = false) : AgrTo c ps (k + 1) r := by
  refine ⟨h.1, h.2.1, fun p hp h0 hq => ?_⟩
  rw [List.take_succ_eq_append_getElem hk] at hp
  rcases List.mem_append.1 hp with hp | hp
  · exact h.2.2 p hp h0 hq
  · simp at hp
    subst hp
    rcases hn with hn | hn
    · exact hn
    · rw [hq] at hn; cases hn
theorem AgrTo.more {c : Cf} {ps : List (Int × Int)} {k : Nat} {r : Int} (h : AgrTo c ps k r) (hk : k < ps.length) (hn : r < ps[k].2) (hq : quo c (reach ps ps[k].2) = true) : AgrTo c ps (k + 1) ps[k].2 := by
  have h0 := h.1
  refine ⟨by omega, fun _ => ⟨hq, ps[k], List.getElem_mem hk, rfl⟩, fun p hp hp0 hpq => ?_⟩
  rw [List.take_succ_eq_append_getElem hk] at hp
  rcases List.mem_append.1 hp with hp | hp
  · have := h.2.2 p hp hp0 hpq; omega
  · simp at hp
    subst hp
    exact Int.le_refl _
end Qu
theorem zip_get (l m : List Int) (i : Nat) (h : i < (l.zip m).length) : (l.zip m)[i] = (l[i]'(by rw [List.length_zip] at h; omega), m[i]'(by rw [List.length_zip] at h; omega)) := by
  rw [List.getElem_zip]

set_option maxRecDepth 100000 in
set_option maxHeartbeats 2000000 in
theorem refAgreed_any (B : Nat) (c : Qu.Cf) (hs0 : Short c) (a0 a1 a2 an ar : Option Addr) (k0 k1 k2 kn kr : Nat) (nodes reached : List Int) (hn0 : nodes.length ≤ 2000) (hr0 : reached.length ≤ 2000) (w : World) (h0 : CIs w B c a0 a1 a2 k0 k1 k2) (hN0 : IsInts w B an nodes) (hR0 : IsInts w B ar reached) (hB : B ≤ w.heap.size) :
    Calls Try.prog 26 #[.agg #[.slice a0 c.old.length k0, .slice a1 c.new.length k1, .slice a2 c.lrn.length k2], .slice an nodes.length kn, .slice ar reached.length kr] w fun e w' => ∃ r : Int, e = .returned (.int .i64 r) ∧ Qu.Agr c (nodes.zip reached) r ∧ Below w.heap.size w w' := by
  obtain ⟨i0, hi, hz0, hz1, hz2⟩ := info_parts I.info_int
  obtain ⟨ps, hps⟩ : ∃ ps, ps = nodes.zip reached := ⟨_, rfl⟩
  have hlp : ps.length = min nodes.length reached.length := by rw [hps, List.length_zip]
  have hget : ∀ i (h : i < ps.length), ∃ (h1 : i < nodes.length) (h2 : i < reached.length), ps[i].1 = nodes[i] ∧ ps[i].2 = reached[i] := fun i h => by
    subst hps
    have h' := h
    rw [List.length_zip] at h'
    exact ⟨by omega, by omega, by rw [zip_get], by rw [zip_get]⟩
  rw [← hps]
  clear hps
  obtain ⟨wb, hwb⟩ : ∃ wb, wb = w.alloc (.cells #[.slice a0 c.old.length k0, .slice a1 c.new.length k1, .slice a2 c.lrn.length k2] 24) := ⟨_, rfl⟩
  have hbel : Below w.heap.size w wb := by rw [hwb]; exact (Below.refl _ _).alloc (Nat.le_refl _) _
  have hsz : wb.heap.size = w.heap.size + 1 := by rw [hwb]; simp
  have hrow : wb.heap[w.heap.size]? = some (.cells #[.slice a0 c.old.length k0, .slice a1 c.new.length k1, .slice a2 c.lrn.length k2] 24 (0, 0)) := by rw [hwb]; exact heap_alloc_new w _
  have c0 := hid (cell_of_row wb w.heap.size 0 _ _ _ hrow)
  have c1 := hid (cell_of_row wb w.heap.size 1 _ _ _ hrow)
  have c2 := hid (cell_of_row wb w.heap.size 2 _ _ _ hrow)
  have HB := hid hbel
  have HI := hid (h0.below (hbel.mono hB))
  have HN := hid (hN0.below (hbel.mono hB))
  have HR := hid (hR0.below (hbel.mono hB))
  have hs := hid hs0
  have HF := hid (And.intro hB hsz)
  have HG := hid hget
  have HLP := hid hlp
  clear hbel h0 hN0 hR0 hs0 hsz hrow hB hget hlp
  go_enter Try.func26, Try.ntmps26
  go_wp2_with fail
  rw [← hwb]; clear hwb
  go_loopw [7, 8] (fun v i wr => ∃ (k : Nat) (r : Int), k ≤ ps.length ∧ v = .int .i64 r ∧ i = .int .i64 k ∧ Hid (Qu.AgrTo c ps k r) ∧ Hid (Below wb.heap.size wb wr)) (fun _ i _ => ps.length - (intOf i).toNat)
  case atStart => exact ⟨0, 0, by omega, rfl, rfl, hid (Qu.AgrTo.zero c ps), hid (Below.refl _ _)⟩
  case round =>
    obtain ⟨k, r, hk, rfl, rfl, HA, HW⟩ := hrel
    by_cases hlt : k < ps.length
    · obtain ⟨hkn, hkr, e1, e2⟩ := HG.out k hlt
      have hkn' : (k : Int) < (nodes.length : Int) := by omega
      have hkr' : (k : Int) < (reached.length : Int) := by omega
      have HE2 := hid e2
      clear e1 e2
      go_wp2_with fail
      obtain ⟨v, hv⟩ : ∃ v, v = reached[k] := ⟨_, rfl⟩
      have HV := hid hv
      clear hv
      go_loopw [9, 10] (fun y i w2 => ∃ (j m : Nat) (A : Option Addr) (c2 : Nat), j ≤ ps.length ∧ m ≤ j ∧ y = .slice A m c2 ∧ i = .int .i64 j ∧ Hid ((Qu.upto ps v j).length = m ∧ OwnsI 3 w2 wb.heap.size A c2 (Qu.upto ps v j) ∧ Below wb.heap.size wb w2)) (fun _ i _ => ps.length - (intOf i).toNat)
      case atStart => exact ⟨0, 0, none, 0, by omega, by omega, rfl, rfl, hid ⟨by simp [Qu.upto], OwnsI.nil _ _ _, HW.out⟩⟩
      case round =>
        clear HW
        obtain ⟨j, m, A, cA, hj, hm, rfl, rfl, HY⟩ := hrel
        by_cases hjl : j < ps.length
        · obtain ⟨hjn, hjr, f1, f2⟩ := HG.out j hjl
          have hjn' : (j : Int) < (nodes.length : Int) := by omega
          have hjr' : (j : Int) < (reached.length : Int) := by omega
          obtain ⟨b, off, rfl, hb, hcell⟩ := HR.out.cells j hjr
          obtain ⟨b2, off2, rfl, hb2, hcell2⟩ := HN.out.cells j hjn
          have hBF := HF.out
          have hc1 : wr.cell? ⟨b, off + j, none⟩ = some (.int .i64 reached[j]) := (HY.out.2.2.cell (p := ⟨b, off + j, none⟩) (by show b < _; omega)).trans (hcell j hjr)
          have hc2 : wr.cell? ⟨b, off + k, none⟩ = some (.int .i64 v) := (HY.out.2.2.cell (p := ⟨b, off + k, none⟩) (by show b < _; omega)).trans (by rw [HV.out]; exact hcell k hkr)
          have hc3 : wr.cell? ⟨b2, off2 + j, none⟩ = some (.int .i64 nodes[j]) := (HY.out.2.2.cell (p := ⟨b2, off2 + j, none⟩) (by show b2 < _; omega)).trans (hcell2 j hjn)
          have HU := hid (Qu.upto_succ (ps := ps) (v := v) hjl)
          rw [f1, f2] at HU
          have HNI := hid (HN.out.small _ (List.getElem_mem hjn))
          have hblt : b2 < wr.heap.size := World.block_lt_of_cell? _ _ hc3
          clear hcell hcell2 f1 f2 hBF
          generalize reached[j] = x at *
          generalize nodes[j] = z at *
          by_cases hge : v ≤ x
          · have HGE := hid hge
            go_wp2
            go_quiet (fail)
            have hown : OwnsI 3 (wr.drewN nq) wb.heap.size A cA (Qu.upto ps v j) := HY.out.2.1.drewN nq
            have hbel : Below wb.heap.size wb (wr.drewN nq) := below_drewN HY.out.2.2 nq
            have hc4 : (wr.drewN nq).cell? ⟨b2, off2 + j, none⟩ = some (.int .i64 z) := hc3
            clear hc1 hc2 hc3
            obtain ⟨w9, hw9⟩ : ∃ w9, w9 = wr.drewN nq := ⟨_, rfl⟩
            rw [← hw9] at hown hbel hc4
            rw [← hw9]
            clear hw9
            have H9 := hid (And.intro hown hbel)
            have hbase := hbel.size
            have hln := HY.out.1
            clear hbel
            go_wp2_with (at_builtin; refine wpList_append_intN rfl _ _ 22 rfl wb.heap.size 3 i0 Try.underlying22 hi hz0 hz1 hz2 A cA (Qu.upto ps v j) m hln rfl (hown.alloc _) ⟨w9.heap.size, 0, none⟩ 1 z HNI.out rfl (by simp) (Qu.upto ps v j ++ [z]) rfl (by omega) (by simp; omega) ?_)
            intro A3 c3 w3 hown3 hbel3
            have hu : Qu.upto ps v (j + 1) = Qu.upto ps v j ++ [z] := by rw [HU.out, if_pos HGE.out]
            rw [← hu] at hown3
            have H4 := hid (And.intro hown3 ((H9.out.2.alloc H9.out.2.size _).trans hbel3))
            have HLN := hid (show (Qu.upto ps v (j + 1)).length = m + 1 by rw [hu, List.length_append, hln]; rfl)
            clear hown hown3 hbel3 hc4 hln hu
            go_wp2
            go_roundw
            case rel => exact ⟨j + 1, m + 1, A3, c3, by omega, by omega, rfl, by go_num, hid ⟨HLN.out, H4.out.1, H4.out.2⟩⟩
            case measure => simp [intOf]; omega
          · have HGE := hid hge
            go_wp2
            go_quiet (fail)
            go_wp2
            go_roundw
            case rel => exact ⟨j + 1, m, A, cA, by omega, by omega, rfl, by go_num, hid (by rw [HU.out, if_neg (show ¬ v ≤ x by have := HGE.out; omega)]; exact ⟨HY.out.1, HY.out.2.1.drewN _, below_drewN HY.out.2.2 _⟩)⟩
            case measure => simp [intOf]; omega
        · obtain rfl : j = ps.length := by omega
          obtain ⟨b, off, rfl, hb, hcell⟩ := HR.out.cells k hkr
          have hBF := HF.out
          have hck : wr.cell? ⟨b, off + k, none⟩ = some (.int .i64 v) := (HY.out.2.2.cell (p := ⟨b, off + k, none⟩) (by show b < _; omega)).trans (by rw [HV.out]; exact hcell k hkr)
          have hd0 : wr.cell? ⟨w.heap.size, 0, none⟩ = some (.slice a0 c.old.length k0) := (HY.out.2.2.cell (p := ⟨w.heap.size, 0, none⟩) (by show w.heap.size < _; omega)).trans c0.out
          have hd1 : wr.cell? ⟨w.heap.size, 1, none⟩ = some (.slice a1 c.new.length k1) := (HY.out.2.2.cell (p := ⟨w.heap.size, 1, none⟩) (by show w.heap.size < _; omega)).trans c1.out
          have hd2 : wr.cell? ⟨w.heap.size, 2, none⟩ = some (.slice a2 c.lrn.length k2) := (HY.out.2.2.cell (p := ⟨w.heap.size, 2, none⟩) (by show w.heap.size < _; omega)).trans c2.out
          have hv2 : ps[k].2 = v := by rw [HE2.out, HV.out]
          have HV2 := hid hv2
          have hx : ¬ (ps.length : Int) < (nodes.length : Int) ∨ ((ps.length : Int) < (nodes.length : Int) ∧ ¬ (ps.length : Int) < (reached.length : Int)) := by have := HLP.out; omega
          have hwon := refWon_any wr.heap.size c hs.out a0 a1 a2 A k0 k1 k2 cA (Qu.upto ps v ps.length) (by have := Qu.upto_len ps v ps.length; have := HLP.out; omega) wr ((HI.out.below (HY.out.2.2.mono (by omega))).more (by have := HY.out.2.2.size; omega)) HY.out.2.1.reads (Nat.le_refl _)
          rw [HY.out.1, Qu.won_upto] at hwon
          obtain ⟨q, hq⟩ : ∃ q, q = Qu.quo c (Qu.reach ps v) := ⟨_, rfl⟩
          rw [← hq] at hwon
          have HQ := hid hq
          have HWN := hid hwon
          have HWW := hid HY.out.2.2
          clear hcell hBF hv2 hq hwon HY HV HE2
          by_cases hrv : r < v
          · have HRV := hid hrv
            cases q
            · rcases hx with hx | ⟨hx1, hx2⟩
              all_goals
                go_wp2_with fail
                refine HWN.out.mono ?_
                rintro e w3 ⟨rfl, hb3⟩
                have HB3 := hid (bthen HWW.out hb3 HWW.out.size)
                clear hb3
                go_wp2
                go_roundw
                case rel => exact ⟨k + 1, r, by omega, rfl, by go_num, hid (HA.out.same hlt (.inr (by rw [HV2.out]; exact HQ.out.symm))), HB3⟩
                case measure => simp [intOf]; omega
            · rcases hx with hx | ⟨hx1, hx2⟩
              all_goals
                go_wp2_with fail
                refine HWN.out.mono ?_
                rintro e w3 ⟨rfl, hb3⟩
                have hck3 : w3.cell? ⟨b, off + k, none⟩ = some (.int .i64 v) := (hb3.cell (World.block_lt_of_cell? _ _ hck)).trans hck
                have HB3 := hid (bthen HWW.out hb3 HWW.out.size)
                clear hb3
                go_wp2
                go_roundw
                case rel => exact ⟨k + 1, v, by omega, rfl, by go_num, hid (by have := HA.out.more hlt (by rw [HV2.out]; exact HRV.out) (by rw [HV2.out]; exact HQ.out.symm); rwa [HV2.out] at this), HB3⟩
                case measure => simp [intOf]; omega
          · have HRV := hid hrv
            rcases hx with hx | ⟨hx1, hx2⟩
            all_goals
              go_wp2
              go_roundw
              case rel => exact ⟨k + 1, r, by omega, rfl, by go_num, hid (HA.out.same hlt (.inl (by rw [HV2.out]; have := HRV.out; omega))), HWW⟩
              case measure => simp [intOf]; omega
    · obtain rfl : k = ps.length := by omega
      have hx : ¬ (ps.length : Int) < (reached.length : Int) ∨ ((ps.length : Int) < (reached.length : Int) ∧ ¬ (ps.length : Int) < (nodes.length : Int)) := by have := HLP.out; omega
      rcases hx with hx | ⟨hx1, hx2⟩
      all_goals
        go_wp2
        go_ret
        exact ⟨r, rfl, HA.out.end_, bthen HB.out HW.out HB.out.size⟩
end Go.Proofs.Ytblhfbijffaacaa
