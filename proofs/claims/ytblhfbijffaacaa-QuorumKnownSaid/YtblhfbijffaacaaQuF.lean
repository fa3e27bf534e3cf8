/- The walk through greatestOf: a map from nodes to the greatest number that each has reached. -/
import Derived.Test.YtblhfbijffaacaaQuE
import Derived.StillTailTactics
import Derived.BigQuiet
namespace Go.Proofs.Ytblhfbijffaacaa
open Go.RowKit Go.Maps

theorem zeroInt (w : World) : (zeroValue 3).run Try.prog w = .ok (.int .i64 0) w := by kernel_rfl
/-- block b holds a map of at most n entries: f of each node, where that is above 0 -/
def MapAt (w : World) (b n : Nat) (f : Int → Int) : Prop :=
  ∃ D : DataW Unit, w.ownsMap Try.prog 3 (plainElem Try.prog 3) b n D ∧ ∀ x, Maps.has D (.int .i64 x) = decide (0 < f x) ∧ (D.atKey (.int .i64 x) (.lit (.int .i64 0)) = .lit (.int .i64 (f x)) ∧ (0 < f x → ∀ z, D.atKey (.int .i64 x) z = .lit (.int .i64 (f x))))
theorem MapAt.lt {w : World} {b n : Nat} {f : Int → Int} (h : MapAt w b n f) : b < w.heap.size := by obtain ⟨D, h1, _⟩ := h; exact h1.lt
theorem MapAt.keep {w w' : World} {b n : Nat} {f : Int → Int} (h : MapAt w b n f) (hk : w'.heap[b]? = w.heap[b]?) : MapAt w' b n f := by
  obtain ⟨D, ⟨es, clock, hb, r⟩, h2⟩ := h
  exact ⟨D, ⟨es, clock, hk.trans hb, r⟩, h2⟩
theorem MapAt.below {w w' : World} {B b n : Nat} {f : Int → Int} (h : MapAt w b n f) (hb : Below B w w') (hlt : b < B) : MapAt w' b n f := h.keep (hb.block b hlt)
theorem MapAt.made (w : World) (n : Nat) : MapAt (w.alloc (.map #[] 0)) w.heap.size n (fun _ => 0) :=
  ⟨.map [], (World.ownsMap_made _ _ _ _).mono (Nat.zero_le _), fun x => ⟨by simp [has_eq], rfl, fun h => absurd h (Int.lt_irrefl 0)⟩⟩
/-- what a look-up tells -/
theorem MapAt.look {w : World} {b n : Nat} {f : Int → Int} (h : MapAt w b n f) {x : Int} (hx : InInt x) :
    (Instr.lookup 52 (.map (some b)) (.int .i64 x) false).run Try.prog w = .ok (.int .i64 (f x)) w := by
  obtain ⟨D, hown, hD⟩ := h
  obtain ⟨c, hrun, hat, _⟩ := hown.lookup_int keyI Try.underlying52 Try.underlying3 (zeroInt w) (keyOfI hx)
  have h1 := (hD x).2.1
  rw [hat] at h1
  injection h1 with h1
  injection h1 with _ h1
  rw [h1] at hrun
  exact hrun

set_option maxRecDepth 100000 in
set_option maxHeartbeats 1000000 in
theorem greatestOf_any (B : Nat) (an ar : Option Addr) (kn kr : Nat) (nodes reached : List Int) (hn0 : nodes.length ≤ 2000) (hr0 : reached.length ≤ 2000) (w : World) (hN0 : IsInts w B an nodes) (hR0 : IsInts w B ar reached) (hB : B ≤ w.heap.size) :
    Calls Try.prog 40 #[.slice an nodes.length kn, .slice ar reached.length kr] w fun e w' => e = .returned (.map (some w.heap.size)) ∧ MapAt w' w.heap.size 2000 (Qu.great (nodes.zip reached)) ∧ Below w.heap.size w w' := by
  obtain ⟨ps, hps⟩ : ∃ ps, ps = nodes.zip reached := ⟨_, rfl⟩
  have hlp : ps.length = min nodes.length reached.length := by rw [hps, List.length_zip]
  have hget : ∀ i (h : i < ps.length), ∃ (h1 : i < nodes.length) (h2 : i < reached.length), ps[i] = (nodes[i], reached[i]) := fun i h => by
    subst hps
    have h' := h
    rw [List.length_zip] at h'
    exact ⟨by omega, by omega, by rw [List.getElem_zip]⟩
  rw [← hps]
  clear hps
  have HN := hid hN0
  have HR := hid hR0
  have HG := hid hget
  have HLP := hid hlp
  have hpl : ps.length ≤ 2000 := by omega
  have hmm := @run_makeMap Try.prog
  have HMA := hid (MapAt.made w 2000)
  have HB := hid ((Below.refl w.heap.size w).alloc (Nat.le_refl _) (.map #[] 0))
  clear hN0 hR0 hget hlp
  go_enter Try.func40, Try.ntmps40
  go_wp2_with fail
  all_goals
    go_loopw [13] (fun i wr => ∃ k : Nat, k ≤ ps.length ∧ i = .int .i64 k ∧ Hid (Below w.heap.size w wr ∧ w.heap.size < wr.heap.size ∧ MapAt wr w.heap.size (2000 - (ps.length - k)) (Qu.great (ps.take k)))) (fun i _ => ps.length - (intOf i).toNat)
    case atStart => exact ⟨0, by omega, rfl, hid ⟨HB.out, by simp, MapAt.made w _⟩⟩
    case round =>
      clear HMA HB
      obtain ⟨k, hk, rfl, HS⟩ := hrel
      by_cases hlt : k < ps.length
      · obtain ⟨h1, h2, e⟩ := HG.out k hlt
        have hkn : (k : Int) < (nodes.length : Int) := by omega
        have hkr : (k : Int) < (reached.length : Int) := by omega
        obtain ⟨b, off, rfl, hb, hcell⟩ := HN.out.cells k h1
        obtain ⟨b2, off2, rfl, hb2, hcell2⟩ := HR.out.cells k h2
        have hc1 : wr.cell? ⟨b, off + k, none⟩ = some (.int .i64 nodes[k]) := (HS.out.1.cell (p := ⟨b, off + k, none⟩) (by show b < _; omega)).trans (hcell k h1)
        have hc2 : wr.cell? ⟨b2, off2 + k, none⟩ = some (.int .i64 reached[k]) := (HS.out.1.cell (p := ⟨b2, off2 + k, none⟩) (by show b2 < _; omega)).trans (hcell2 k h2)
        have hin1 := HN.out.small _ (List.getElem_mem h1)
        have hin2 := HR.out.small _ (List.getElem_mem h2)
        have hst := List.take_succ_eq_append_getElem hlt
        rw [e] at hst
        have HST := hid hst
        have HI1 := hid hin1
        have HI2 := hid hin2
        clear hcell hcell2 e hst hin1 hin2
        generalize nodes[k] = a at *
        generalize reached[k] = v at *
        have hlook := fun j : Nat => ((HS.out.2.2.keep (w' := wr.drewN j) rfl).look HI1.out)
        have HGS := hid (fun x => Qu.great_snoc (ps.take k) a v x)
        by_cases hg : Qu.great (ps.take k) a < v
        · have hkey := keyOfI HI1.out
          have hkl := keyLitI a
          obtain ⟨D, hown0, hD⟩ := HS.out.2.2
          have HD := hid hD
          have HIM := hid hown0.isMap
          have hown : (wr.drewN 0).ownsMap Try.prog 3 (plainElem Try.prog 3) w.heap.size (2000 - (ps.length - k)) D := hown0
          have hbnd : 2000 - (ps.length - k) < maxLen := by unfold maxLen; omega
          have hval : plainElem (H := Unit) Try.prog 3 (.int .i64 v) = some (.lit (.int .i64 v), []) := plainElem_int Try.underlying3 (wfI HI2.out)
          have HSZ := hid HS.out.2.1
          have HBL := hid HS.out.1
          have H0 := hid (Qu.great_nonneg (ps.take k) a)
          have HGG := hid hg
          clear hD HS
          go_wp2
          go_quiet (fail)
          have hownq : (wr.drewN nq).ownsMap Try.prog 3 (plainElem Try.prog 3) w.heap.size (2000 - (ps.length - k)) D := hown0
          have hc1q : (wr.drewN nq).cell? ⟨b, off + k, none⟩ = some (.int .i64 a) := hc1
          have hc2q : (wr.drewN nq).cell? ⟨b2, off2 + k, none⟩ = some (.int .i64 v) := hc2
          have HBQ := hid (below_drewN HBL.out nq)
          have HSQ : Hid (w.heap.size < (wr.drewN nq).heap.size) := hid HSZ.out
          clear hc1 hc2 hown hown0 hlook
          generalize wr.drewN nq = w9 at *
          have hk0 : (0 : Int) ≤ (k : Int) := by omega
          go_wp2_with fail
          go_still_tail 9, (by kernel_rfl)
          go_wp2_with (first
            | (at_mapUpdate; refine wpList_mapUpdate_own _ rfl _ _ _ 52 rfl 3 3 keyI Try.underlying52 (plainElem Try.prog 3) w.heap.size (2000 - (ps.length - k)) D rfl hownq hbnd _ _ _ rfl rfl hkey _ [] hval ?_; intro w1 hown1 hgrow1)
            | go_in)
          have HO1 := hid hown1
          have HG1 := hid hgrow1
          clear hown1 hgrow1 hownq hc1q hc2q
          go_roundw
          case rel =>
            have hnn : 2000 - (ps.length - (k + 1)) = 2000 - (ps.length - k) + 1 := by omega
            refine ⟨k + 1, by omega, by go_num, hid ⟨(Below.drew HBQ.out).grown HG1.out (Nat.le_of_lt HSQ.out) (fun j e => by injection e with e; omega), Nat.lt_of_lt_of_le HSQ.out HG1.out.size, _, by rw [hnn]; exact HO1.out, fun x => ?_⟩⟩
            rw [HST.out, HGS.out x]
            have hg2 : Qu.great (ps.take k) a < v := by have := HGG.out; omega
            have h00 := H0.out
            by_cases hxa : x = a
            · subst hxa
              rw [if_pos ⟨rfl, hg2⟩]
              refine ⟨?_, ?_, fun _ z => ?_⟩
              · rw [has_put_same HIM.out hkl, decide_eq_true (show 0 < v by omega)]
              · rw [atKey_put_same HIM.out hkl]
              · rw [atKey_put_same HIM.out hkl]
            · rw [if_neg (fun e => hxa e.1.symm)]
              have hne : Lit.int .i64 x ≠ Lit.int .i64 a := fun e => hxa (by injection e)
              obtain ⟨d1, d2, d3⟩ := HD.out x
              refine ⟨?_, ?_, fun h0 z => ?_⟩
              · rw [has_put_other hne, d1]
              · rw [atKey_put_other hne, d2]
              · rw [atKey_put_other hne, d3 h0 z]
          case measure => simp [intOf]; omega
        · have HGG := hid hg
          have HSS := HS
          clear HS
          go_wp2
          go_quiet (fail)
          go_wp2
          go_roundw
          case rel =>
            refine ⟨k + 1, by omega, by go_num, hid ⟨below_drewN HSS.out.1 _, HSS.out.2.1, ?_⟩⟩
            obtain ⟨D, hown, hD⟩ := HSS.out.2.2
            refine ⟨D, World.ownsMap.mono (n := 2000 - (ps.length - k)) hown (by omega), fun x => ?_⟩
            rw [HST.out, HGS.out x, if_neg (show ¬ (a = x ∧ Qu.great (ps.take k) x < v) by rintro ⟨rfl, h⟩; have := HGG.out; omega)]
            exact hD x
          case measure => simp [intOf]; omega
      · obtain rfl : k = ps.length := by omega
        have hx := HLP.out
        have hs := HS.out
        rw [List.take_length] at hs
        have HS2 := hid hs
        clear HS hs
        first
          | (have hx1 : ¬ ((ps.length : Int) < (nodes.length : Int)) := by omega
             clear hx
             go_wp2
             go_ret
             exact ⟨rfl, by simpa using HS2.out.2.2, HS2.out.1⟩)
          | (have hx1 : ¬ ((ps.length : Int) < (reached.length : Int)) := by omega
             clear hx
             go_wp2
             go_ret
             exact ⟨rfl, by simpa using HS2.out.2.2, HS2.out.1⟩)
end Go.Proofs.Ytblhfbijffaacaa
