/- The walk through the document's Write. -/
import Derived.Test.YtbfbnpbonoapnaaRefOps
import Derived.Deep.RegionWith
namespace Go.Proofs.Ytbfbnpbonoapnaa
open Go.RowKit

theorem put_at (Z : Nat → Prop) (A : Option Addr) (c : Nat) (L : List Sx.Sec) (hL : L.length ≤ 20000) (k : Nat) (b : List Nat) (torn : Bool) (As : Option Addr) (cs : Nat) (hs1 : k ≤ 100000) (hs2 : b.length ≤ 64) (w : World) (hZ : ∀ k, Z k → k < w.heap.size) (h : SecsAt w Z (.slice A L.length c) L) (hA : OwnsZ w Z As cs b) :
    Calls Try.prog 50 #[.slice A L.length c, .agg #[.int .i64 (k : Nat), .slice As b.length cs, .bool torn]] w fun e w' => ∃ A' n' c', e = .returned (.slice A' n' c') ∧ SecsAt w' Z (.slice A' n' c') (Sx.putGo ⟨k, b, torn⟩ false L) ∧ Below w.heap.size w w' :=
  (put_any Z A c _ L hL ⟨k, b, torn⟩ As cs hs1 hs2 w hZ h hA).mono fun _ _ ⟨v, he, hs, hb⟩ => by
    obtain ⟨A', c', e⟩ := hs.slice
    subst e
    exact ⟨A', _, c', he, hs, hb⟩
namespace Sx
def wrXE (x : Xs) (i : Int) (b : List Nat) : Int := if x.off then 10 else if 0 ≤ i ∧ i < x.n then if 64 < b.length then 2 else if x.left = 0 then 10 else 0 else 3
def wrXS (x : Xs) (i : Int) (b : List Nat) : Xs :=
  if x.off then x else if 0 ≤ i ∧ i < x.n then if 64 < b.length then x else if x.left = 0 then { x with off := true } else { doneS x with cache := upd x.cache i.toNat (some b) } else x
theorem doneS_n (x : Xs) : (doneS x).n = x.n := by unfold doneS; split; rfl; split <;> rfl
theorem doneS_lasts (x : Xs) : (doneS x).lasts = x.lasts := by unfold doneS; split; rfl; split <;> rfl
theorem doneS_cache (x : Xs) : (doneS x).cache = x.cache := by unfold doneS; split; rfl; split <;> rfl
theorem doneS_cl (x : Xs) : (doneS x).cl = x.cl := by unfold Xs.cl Xs.cf; rw [doneS_n, doneS_cache]
theorem doneS_ll (x : Xs) : (doneS x).ll = x.ll := by unfold Xs.ll; rw [doneS_n, doneS_lasts]
theorem put_cl (x : Xs) (k : Nat) (b : List Nat) (hk : k < x.n) : putGo ⟨k, b, false⟩ false x.cl = ({ x with cache := upd x.cache k (some b) } : Xs).cl := by
  unfold Xs.cl
  rw [put_secs x.cf ⟨k, b, false⟩ 0 x.n (Nat.zero_le _) (by show k < 0 + x.n; omega)]
  refine secs_cong _ _ (fun i _ _ => ?_)
  unfold upd Xs.cf
  show (if i = k then some (b, false) else Option.map _ _) = Option.map _ (if i = k then some b else x.cache i)
  split <;> rfl
theorem put_ll (x : Xs) (k : Nat) (b : List Nat) (t : Bool) (hk : k < x.n) : putGo ⟨k, b, t⟩ false x.ll = ({ x with lasts := upd x.lasts k (some (b, t)) } : Xs).ll := by
  unfold Xs.ll
  exact put_secs x.lasts ⟨k, b, t⟩ 0 x.n (Nat.zero_le _) (by show k < 0 + x.n; omega)
end Sx

set_option maxRecDepth 100000 in
set_option maxHeartbeats 1600000 in
theorem refWrite_any (Z : Nat → Prop) (g : Nat) (x : Sx.Xs) (i : Int) (A : Option Addr) (c : Nat) (l : List Nat) (n : Nat) (hn : l.length = n) (w : World) (hZ : ∀ k, Z k → k < w.heap.size) (h : RefAt w Z g x)
    (hin : ∀ w', Turned (fun k => k = g) w w' → IsBytes w' w'.heap.size A l) :
    Calls Try.prog 32 #[.pointer (some ⟨g, 0, none⟩), .int .i64 i, .slice A n c] w fun e w' => e = .returned (.int .i64 (Sx.wrXE x i l)) ∧ RefAt w' Z g (Sx.wrXS x i l) ∧ Turned (fun k => k = g) w w' := by
  subst hn
  obtain ⟨A1, k1, A2, k2, c0, c1, c2, c3, c4, hs1, hs2⟩ := h.cells
  have HH := hid h
  have hbd := h.bound
  cases ho : x.off
  · rw [ho] at c2
    by_cases hi : 0 ≤ i ∧ i < x.n
    · have hi1 : ¬ i < 0 := by omega
      have hi2 : ¬ (x.n : Int) ≤ i := by omega
      by_cases hl : 64 < l.length
      · have e1 : Sx.wrXE x i l = 2 := by unfold Sx.wrXE; rw [ho, if_pos hi, if_pos hl]; rfl
        have e2 : Sx.wrXS x i l = x := by unfold Sx.wrXS; rw [ho, if_pos hi, if_pos hl]; rfl
        rw [e1, e2]
        have hl' : (64 : Int) < (l.length : Int) := by omega
        clear h hin e1 e2 hi ho hs1 hs2 hbd hl
        go_enter Try.func32, Try.ntmps32
        go_wp2
        go_ret
        exact ⟨rfl, HH.out, Turned.refl _ _⟩
      · have hl' : ¬ (64 : Int) < (l.length : Int) := by omega
        have HD := hid (refDone_any Z g x w h)
        by_cases h0 : x.left = 0
        · have e1 : Sx.wrXE x i l = 10 := by unfold Sx.wrXE; rw [ho, if_pos hi, if_neg hl, if_pos h0]; rfl
          have e2 : Sx.wrXS x i l = Sx.doneS x := by unfold Sx.wrXS Sx.doneS; rw [ho, if_pos hi, if_neg hl, if_pos h0, if_pos h0]; rfl
          rw [show decide (x.left ≠ 0) = false by simp [h0]] at HD
          rw [e1, e2]
          clear h hin e1 e2 hi ho hs1 hs2 hbd hl h0
          go_enter Try.func32, Try.ntmps32
          go_wp2_with fail
          refine HD.out.mono ?_
          rintro e w2 ⟨rfl, hD2, ht2⟩
          go_wp2
          go_ret
          exact ⟨rfl, hD2, ht2⟩
        · obtain ⟨k, rfl⟩ := Int.eq_ofNat_of_zero_le hi.1
          have hk : k < x.n := by omega
          have e1 : Sx.wrXE x k l = 0 := by unfold Sx.wrXE; rw [ho, if_pos hi, if_neg hl, if_neg h0]; rfl
          have e2 : Sx.wrXS x k l = { Sx.doneS x with cache := Sx.upd x.cache k (some l) } := by unfold Sx.wrXS; rw [ho, if_pos hi, if_neg hl, if_neg h0]; simp
          rw [show decide (x.left ≠ 0) = true by simp [h0]] at HD
          rw [e1, e2]
          have HK := hid (And.intro hk hin)
          have hlen : l.length ≤ 64 := by omega
          have hk2 : k ≤ 100000 := by omega
          have hcl : x.cl.length ≤ 20000 := by have := RefAt.len2 x; omega
          clear h hin e1 e2 hi ho hs1 hs2 hbd hl h0 hk
          go_enter Try.func32, Try.ntmps32
          go_wp2_with fail
          refine HD.out.mono ?_
          rintro e w2 ⟨rfl, hD2, ht2⟩
          obtain ⟨B1, j1, B2, j2, b0, b1, b2, b3, b4, hq1, hq2⟩ := hD2.cells
          rw [Sx.doneS_cl] at b4 hq2
          have f4 := hD2.frozen 4
          have HD2 := hid (And.intro hD2 ht2)
          have HQ := hid hq2
          have hsz := ht2.size
          have hglt := hD2.lt
          have HC := hid (copy_N w2.drew.heap.size A c l l.length rfl (by omega) w2.drew (HK.out.2 _ ht2.drew) (Nat.le_refl _))
          clear hD2 ht2 hq1 hq2 c0 c1 c2 c3 c4 HD HH
          go_wp2_with fail
          go_region_with (first
            | (go_at_call 51; refine HC.out.mono ?_; rintro e w3 ⟨A3, c3, rfl, hown3, hb3⟩; have d4 : w3.cell? ⟨g, 4, none⟩ = some (.slice B2 x.cl.length j2) := (hb3.cell (p := ⟨g, 4, none⟩) hglt).trans b4; have hZ3 : OwnsZ w3 Z A3 c3 l := ⟨hown3.weaken (Nat.zero_le _), fun j hj e => by have h1 := (hown3.blkLt j hj).1; have h2 := hZ j e; have h3 : w2.drew.heap.size = w2.heap.size := rfl; omega⟩; have HP := hid (put_at Z B2 j2 x.cl hcl k l false A3 c3 hk2 hlen w3 (fun j hj => by have h2 := hZ j hj; have h3 : w2.drew.heap.size = w2.heap.size := rfl; have := hb3.size; omega) ((HQ.out.drew).below hb3) hZ3); have HB3 := hid hb3; have hg3 : g < w3.heap.size := Nat.lt_of_lt_of_le hglt hb3.size; clear hown3 hZ3 hb3)
            | (go_at_call 50; refine HP.out.mono ?_; rintro e w4 ⟨A4, n4, c4, rfl, hS4, hb4⟩; have d4' : w4.cell? ⟨g, 4, none⟩ = some (.slice B2 x.cl.length j2) := (hb4.cell (p := ⟨g, 4, none⟩) hg3).trans d4; have hR4 : RefAt w4 Z g (Sx.doneS x) := (HD2.out.1.drew.below HB3.out).below hb4; have f4' := hR4.frozen 4; have H4 := hid (And.intro hS4 (And.intro hR4 hb4)); clear hS4 hR4 hb4))
          all_goals
            (go_wp2
             go_ret
             rw [Sx.put_cl x k l HK.out.1] at H4
             obtain ⟨h5, h6⟩ := H4.out.2.1.setC (x' := { Sx.doneS x with cache := Sx.upd x.cache k (some l) }) (A := A4) (n := n4) (c := c4) (by
               have e : ({ Sx.doneS x with cache := Sx.upd x.cache k (some l) } : Sx.Xs).cl = ({ x with cache := Sx.upd x.cache k (some l) } : Sx.Xs).cl := by
                 unfold Sx.Xs.cl Sx.Xs.cf; simp only [Sx.doneS_n]
               rw [e]; exact H4.out.1) rfl rfl rfl rfl
             exact ⟨rfl, h5, ((HD2.out.2.drew.then_ (Turned.ofBelow (fun k => k = g) HB3.out) (fun _ _ h => h)).then_ (Turned.ofBelow (fun k => k = g) H4.out.2.2) (fun _ _ h => h)).trans h6⟩)
    · have e1 : Sx.wrXE x i l = 3 := by unfold Sx.wrXE; rw [ho, if_neg hi]; rfl
      have e2 : Sx.wrXS x i l = x := by unfold Sx.wrXS; rw [ho, if_neg hi]; rfl
      rw [e1, e2]
      by_cases h0 : i < 0
      · clear h hin e1 e2 hi ho hs1 hs2 hbd
        go_enter Try.func32, Try.ntmps32
        go_wp2
        go_ret
        exact ⟨rfl, HH.out, Turned.refl _ _⟩
      · have h1 : (x.n : Int) ≤ i := by omega
        clear h hin e1 e2 hi ho hs1 hs2 hbd
        go_enter Try.func32, Try.ntmps32
        go_wp2
        go_ret
        exact ⟨rfl, HH.out, Turned.refl _ _⟩
  · rw [ho] at c2
    have e1 : Sx.wrXE x i l = 10 := by unfold Sx.wrXE; rw [ho]; rfl
    have e2 : Sx.wrXS x i l = x := by unfold Sx.wrXS; rw [ho]; rfl
    rw [e1, e2]
    clear h hin e1 e2 ho hs1 hs2 hbd
    go_enter Try.func32, Try.ntmps32
    go_wp2
    go_ret
    exact ⟨rfl, HH.out, Turned.refl _ _⟩
end Go.Proofs.Ytbfbnpbonoapnaa
