/- The walks through the functions of layer 4's statements that do things with a disk: run, shown. -/
import Derived.Test.YtbfbnpbonoapnaaLawA
import Derived.Test.YtbfbnpbonoapnaaRowL
import Derived.Test.YtbfbnpbonoapnaaRowIs
import Derived.Test.YtbfbnpbonoapnaaDiskE
import Derived.Test.YtbfbnpbonoapnaaDiskG
namespace Go.Proofs.Ytbfbnpbonoapnaa
open Go.RowKit

namespace Sx
def runE (s : St) (t : Op) : Int := if t.kind = 0 then wrE s t.i t.data else if t.kind = 1 then spE s else 0
def runS (s : St) (t : Op) : St := if t.kind = 0 then wrS s t.i t.data else if t.kind = 1 then flS s else if t.kind = 2 then arm s t.i else if t.kind = 3 then crash s t.lst else s
def showOf (s : St) (i : Nat) : List Nat := if rdE s i = 0 then rdB s i else rowOf 65
def shows (s : St) : List (List Nat) := (List.range (min s.n 64)).map (showOf s)
end Sx

set_option maxRecDepth 100000 in
theorem run_any (Z : Nat → Prop) (d : Dk) (s : Sx.St) (t : Sx.Op) (ap al : Option Addr) (cp cl : Nat) (hcp : ap = none → cp = 0) (hi : InInt t.i) (w : World) (hZ : ∀ k, Z k → k < w.heap.size) (h : DiskAt w Z d s)
    (hp : ∀ w', Turned d.has w w' → IsBytes w' w'.heap.size ap t.data) (hl : ∀ w', Turned d.has w w' → IsInts w' w'.heap.size al t.lst) :
    Calls Try.prog 16 #[.pointer (some ⟨d.g, 0, none⟩), .agg #[.int .i64 t.kind, .int .i64 t.i, .int .i64 t.look, .slice ap t.data.length cp, .slice al t.lst.length cl]] w fun e w' =>
      e = .returned (.int .i64 (Sx.runE s t)) ∧ DiskAt w' Z d (Sx.runS s t) ∧ Turned d.has w w' := by
  obtain ⟨w1, hw1⟩ : ∃ w1, w1 = w.alloc (.cells #[.int .i64 t.kind, .int .i64 t.i, .int .i64 t.look, .slice ap t.data.length cp, .slice al t.lst.length cl] 36) := ⟨_, rfl⟩
  have hb1 : Below w.heap.size w w1 := by rw [hw1]; exact (Below.refl _ w).alloc (Nat.le_refl _) _
  have ht1 : Turned d.has w w1 := Turned.ofBelow _ hb1
  have h1 : DiskAt w1 Z d s := h.below hb1
  by_cases k0 : t.kind = 0
  · have HC := hid (write_any Z d s t.i ap cp t.data _ rfl hcp w1 (fun k hk => by have := hZ k hk; have := hb1.size; omega) h1 (fun w' ht => hp w' (ht1.trans ht)))
    have e1 : Sx.runE s t = Sx.wrE s t.i t.data := by unfold Sx.runE; rw [if_pos k0]
    have e2 : Sx.runS s t = Sx.wrS s t.i t.data := by unfold Sx.runS; rw [if_pos k0]
    rw [e1, e2, k0]
    rw [k0] at hw1
    have H1 := hid ht1
    rw [hw1] at HC H1
    clear h h1 hp hl ht1 hb1 e1 e2 hw1
    go_enter Try.func16, Try.ntmps16
    go_wp2_with fail
    refine HC.out.mono ?_
    rintro e w2 ⟨rfl, hD2, ht2⟩
    go_wp2
    go_ret
    exact ⟨rfl, hD2, H1.out.trans ht2⟩
  · by_cases k1 : t.kind = 1
    · have HC := hid (flush_any Z d s w1 h1)
      have e1 : Sx.runE s t = Sx.spE s := by unfold Sx.runE; rw [if_neg k0, if_pos k1]
      have e2 : Sx.runS s t = Sx.flS s := by unfold Sx.runS; rw [if_neg k0, if_pos k1]
      rw [e1, e2, k1]
      rw [k1] at hw1
      have H1 := hid ht1
      rw [hw1] at HC H1
      clear h h1 hp hl ht1 hb1 e1 e2 hw1
      go_enter Try.func16, Try.ntmps16
      go_wp2_with fail
      refine HC.out.mono ?_
      rintro e w2 ⟨rfl, hD2, ht2⟩
      go_wp2
      go_ret
      exact ⟨rfl, hD2, H1.out.trans ht2⟩
    · by_cases k2 : t.kind = 2
      · have HC := hid (arm_any Z d s t.i hi w1 h1)
        have e1 : Sx.runE s t = 0 := by unfold Sx.runE; rw [if_neg k0, if_neg k1]
        have e2 : Sx.runS s t = Sx.arm s t.i := by unfold Sx.runS; rw [if_neg k0, if_neg k1, if_pos k2]
        rw [e1, e2, k2]
        rw [k2] at hw1
        have H1 := hid ht1
        rw [hw1] at HC H1
        clear h h1 hp hl ht1 hb1 e1 e2 hw1
        go_enter Try.func16, Try.ntmps16
        go_wp2_with fail
        refine HC.out.mono ?_
        rintro e w2 ⟨rfl, hD2, ht2⟩
        go_wp2
        go_ret
        exact ⟨rfl, hD2, H1.out.trans ht2⟩
      · by_cases k3 : t.kind = 3
        · have HC := hid (crash_any Z d s al cl t.lst _ rfl w1 h1 (fun w' ht => hl w' (ht1.trans ht)))
          have e1 : Sx.runE s t = 0 := by unfold Sx.runE; rw [if_neg k0, if_neg k1]
          have e2 : Sx.runS s t = Sx.crash s t.lst := by unfold Sx.runS; rw [if_neg k0, if_neg k1, if_neg k2, if_pos k3]
          rw [e1, e2, k3]
          rw [k3] at hw1
          have H1 := hid ht1
          rw [hw1] at HC H1
          clear h h1 hp hl ht1 hb1 e1 e2 hw1
          go_enter Try.func16, Try.ntmps16
          go_wp2_with fail
          refine HC.out.mono ?_
          rintro e w2 ⟨rfl, hD2, ht2⟩
          go_wp2
          go_ret
          exact ⟨rfl, hD2, H1.out.trans ht2⟩
        · have e1 : Sx.runE s t = 0 := by unfold Sx.runE; rw [if_neg k0, if_neg k1]
          have e2 : Sx.runS s t = s := by unfold Sx.runS; rw [if_neg k0, if_neg k1, if_neg k2, if_neg k3]
          rw [e1, e2]
          have H1 := hid (And.intro h1 ht1)
          rw [hw1] at H1
          clear h h1 hp hl ht1 hb1 e1 e2 hw1
          go_enter Try.func16, Try.ntmps16
          go_wp2
          go_ret
          exact ⟨rfl, H1.out.1, H1.out.2⟩
end Go.Proofs.Ytbfbnpbonoapnaa
