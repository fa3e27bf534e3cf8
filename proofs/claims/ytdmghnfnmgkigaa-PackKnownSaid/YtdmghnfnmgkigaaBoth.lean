/- The walk through 'both': a thing is read with the program's reader and with the document's. -/
import Derived.Test.YtdmghnfnmgkigaaRefReader4
import Derived.Test.YtdmghnfnmgkigaaReader3
namespace Go.Proofs.Ytdmghnfnmgkigaa
open Go.RowKit

theorem leftOf_length (B : List Nat) (at' : Nat) (bad : Bool) : (leftOf B at' bad).length ≤ B.length := by
  unfold leftOf; split <;> simp

def BothPost (g gx top : Nat) (B : List Nat) (w : World) (e : Ending) (w' : World) : Prop :=
  e = .returned (.bool true) ∧ ∃ a2 b2, Rdr w' g (stOf B a2 b2) ∧ RefR w' gx top B a2 b2 ∧ Below g w w'

theorem rdr_other {w w' : World} {g : Nat} {s : Pk.St} {row : Option Nat} (h : Rdr w g s) (hG : w.grownBy w' row) (hr : ∀ k, row = some k → g < k) : Rdr w' g s :=
  h.below (below_grown hG (by have := h.lt; omega) (fun k hk => by have := hr k hk; omega))

set_option maxHeartbeats 1600000 in
theorem both_any (g gx top : Nat) (B : List Nat) (at' : Nat) (bad : Bool) (kind : Int) (hk1 : InInt kind) (hg : g < gx) (w : World) (hR : Rdr w g (stOf B at' bad)) (hX : RefR w gx top B at' bad) :
    Calls Try.prog 24 #[.pointer (some ⟨g, 0, none⟩), .pointer (some ⟨gx, 0, none⟩), .int .i64 kind] w (BothPost g gx top B w) := by
  have hlen : (stOf B at' bad).rest.length ≤ 16384 := by have := leftOf_length B at' bad; have := hX.short; show (leftOf B at' bad).length ≤ _; omega
  have htop := hX.top_
  have hgw : g + 1 ≤ w.heap.size := hR.lt
  have hka := hk1.1
  have hkb := hk1.2
  clear hk1
  by_cases h0 : kind = 0
  · subst h0
    have HI := hid (int_rdr g _ w hR)
    clear hR
    go_enter Try.func24, Try.ntmps24
    go_wp2_with fail
    refine HI.out.mono ?_
    rintro e w1 ⟨rfl, hR1, hG1⟩
    have hX1 := hX.other hG1 (fun k hk => by injection hk with hk; omega)
    have hsz1 := hG1.size
    clear hX HI
    go_wp2_with fail
    refine (refRInt_any gx top B at' bad w1 hX1).mono ?_
    rintro e w2 ⟨a2, b2, rfl, hX2, hst, hG2⟩
    have hR2 := rdr_other hR1 hG2 (fun k hk => by injection hk with hk; omega)
    rw [← hst] at hR2
    have hb : Below g w w2 := (below_grown hG1 (by omega) (fun k hk => by injection hk with hk; omega)).trans (below_grown hG2 (by omega) (fun k hk => by injection hk with hk; omega))
    have HP : Hid (BothPost g gx top B w (.returned (.bool true)) w2) := ⟨rfl, a2, b2, hR2, hX2, hb⟩
    clear hR1 hG1 hX1 hX2 hst hG2 hR2 hb
    go_wp2_with fail
    go_ret
    exact HP.out
  · by_cases h1 : kind = 1
    · subst h1
      have HI := hid (blob_rdr g _ w hR (by omega))
      obtain ⟨L, hL⟩ : ∃ L, L = (Pk.rdBlob (stOf B at' bad)).1 := ⟨_, rfl⟩
      have hLlen : L.length ≤ 16384 := by rw [hL]; have := (Pk.rdBlob_short (stOf B at' bad)).2; omega
      have HJ := hid (fun w1 hX1 => refRBlob_any gx top B at' bad w1 hX1)
      rw [← hL] at HI HJ
      clear hR h0 hL
      go_enter Try.func24, Try.ntmps24
      go_wp2_with fail
      refine HI.out.mono ?_
      rintro e w1 ⟨A1, c1, rfl, hO1, hR1, hG1⟩
      have hX1 := hX.other hG1 (fun k hk => by injection hk with hk; omega)
      have hsz1 := hG1.size
      clear hX HI
      go_wp2_with fail
      refine (HJ.out w1 hX1).mono ?_
      rintro e w2 ⟨a2, b2, A2, c2, rfl, hO2, hX2, hst, hG2⟩
      have hR2 := rdr_other hR1 hG2 (fun k hk => by injection hk with hk; omega)
      rw [← hst] at hR2
      have hO1' := hO1.grown hG2 (fun k hk => by injection hk with hk; omega)
      have hq := hO1.blkLt
      have hb : Below g w w2 := (below_grown hG1 (by omega) (fun k hk => by injection hk with hk; omega)).trans (below_grown hG2 (by omega) (fun k hk => by injection hk with hk; omega))
      have HS := hid (same_N _ _ A1 A2 c1 c2 L L _ _ rfl rfl (by unfold maxLen; omega) (by unfold maxLen; omega) w2 hO1'.reads hO2.reads)
      clear hR1 hG1 hX1 hst hO1 hO2 HJ
      go_wp2_with fail
      refine HS.out.mono ?_
      rintro e w3 ⟨rfl, n3, rfl⟩
      have HSP := hid (spoil_N w.heap.size A1 c1 L _ rfl (by unfold maxLen; omega) _ (hO1'.drewN n3))
      clear HS hO1'
      go_wp2_with fail
      refine HSP.out.mono ?_
      rintro e w4 ⟨rfl, hG4⟩
      have hX4 := (hX2.drewN n3).other hG4 (fun k hk => by have := hq k hk; omega)
      have hR4 := rdr_other (hR2.drewN n3) hG4 (fun k hk => by have := hq k hk; omega)
      have hsz2 := hb.size
      have hb4 : Below g w w4 := (below_drewN hb n3).grown hG4 (by show g ≤ w2.heap.size; omega) (fun k hk => by have := hq k hk; omega)
      have HP : Hid (BothPost g gx top B w (.returned (.bool true)) w4) := ⟨rfl, a2, b2, hR4, hX4, hb4⟩
      clear hX2 hR2 hb hX4 hR4 hb4 hG4 hq HSP
      go_wp2_with fail
      go_ret
      exact HP.out
    · by_cases h2 : kind = 2
      · subst h2
        have HI := hid (ints_rdr g _ w hR (by omega))
        obtain ⟨L, hL⟩ : ∃ L, L = (Pk.rdInts (stOf B at' bad)).1 := ⟨_, rfl⟩
        have hLlen : L.length ≤ 16384 := by rw [hL]; have := (Pk.rdInts_short (stOf B at' bad)).2; omega
        have HJ := hid (fun w1 hX1 => refRInts_any gx top B at' bad w1 hX1)
        rw [← hL] at HI HJ
        clear hR h0 h1 hL
        go_enter Try.func24, Try.ntmps24
        go_wp2_with fail
        refine HI.out.mono ?_
        rintro e w1 ⟨A1, c1, rfl, hO1, hR1, hG1⟩
        have hX1 := hX.other hG1 (fun k hk => by injection hk with hk; omega)
        have hsz1 := hG1.size
        clear hX HI
        go_wp2_with fail
        refine (HJ.out w1 hX1).mono ?_
        rintro e w2 ⟨a2, b2, A2, c2, rfl, hO2, hX2, hst, hG2⟩
        have hR2 := rdr_other hR1 hG2 (fun k hk => by injection hk with hk; omega)
        rw [← hst] at hR2
        have hO1' := hO1.grown hG2 (fun k hk => by injection hk with hk; omega)
        have hq := hO1.blkLt
        have hb : Below g w w2 := (below_grown hG1 (by omega) (fun k hk => by injection hk with hk; omega)).trans (below_grown hG2 (by omega) (fun k hk => by injection hk with hk; omega))
        have HS := hid (sameI_N _ _ A1 A2 c1 c2 L L _ _ rfl rfl (by unfold maxLen; omega) (by unfold maxLen; omega) w2 hO1'.reads hO2.reads)
        clear hR1 hG1 hX1 hst hO1 hO2 HJ
        go_wp2_with fail
        refine HS.out.mono ?_
        rintro e w3 ⟨rfl, n3, rfl⟩
        have HSP := hid (spoilI_N w.heap.size A1 c1 L _ rfl (by unfold maxLen; omega) _ (hO1'.drewN n3))
        clear HS hO1'
        go_wp2_with fail
        refine HSP.out.mono ?_
        rintro e w4 ⟨rfl, hG4⟩
        have hX4 := (hX2.drewN n3).other hG4 (fun k hk => by have := hq k hk; omega)
        have hR4 := rdr_other (hR2.drewN n3) hG4 (fun k hk => by have := hq k hk; omega)
        have hsz2 := hb.size
        have hb4 : Below g w w4 := (below_drewN hb n3).grown hG4 (by show g ≤ w2.heap.size; omega) (fun k hk => by have := hq k hk; omega)
        have HP : Hid (BothPost g gx top B w (.returned (.bool true)) w4) := ⟨rfl, a2, b2, hR4, hX4, hb4⟩
        clear hX2 hR2 hb hX4 hR4 hb4 hG4 hq HSP
        go_wp2_with fail
        go_ret
        exact HP.out
      · have e0 : (kind == 0) = false := by rw [beq_eq_false_iff_ne]; exact h0
        have e1 : (kind == 1) = false := by rw [beq_eq_false_iff_ne]; exact h1
        have e2 : (kind == 2) = false := by rw [beq_eq_false_iff_ne]; exact h2
        have HP : Hid (BothPost g gx top B w (.returned (.bool true)) w) := ⟨rfl, at', bad, hR, hX, Below.refl _ _⟩
        clear h0 h1 h2 hR hX
        go_enter Try.func24, Try.ntmps24
        go_wp2_with fail
        go_ret
        exact HP.out
end Go.Proofs.Ytdmghnfnmgkigaa
