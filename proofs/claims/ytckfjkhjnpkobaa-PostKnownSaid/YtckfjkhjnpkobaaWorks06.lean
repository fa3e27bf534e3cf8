/- The walk through what each statement asks: works; a post that this call has made. -/
import Derived.Test.YtckfjkhjnpkobaaLawPoA
namespace Go.Proofs.Ytckfjkhjnpkobaa
open Go.RowKit

/-- a post that this call has made -/
def OwnP (w0 w : World) (g : Nat) (s : Po.St) : Prop := ∃ F, PostAt w F g s ∧ (∀ k, F k → w0.heap.size ≤ k) ∧ Below w0.heap.size w0 w
namespace OwnP
variable {w0 w w' : World} {g : Nat} {s s' : Po.St}
theorem below (h : OwnP w0 w g s) (hb : Below w.heap.size w w') : OwnP w0 w' g s := by
  obtain ⟨F, hP, hF, hB⟩ := h
  exact ⟨F, hP.below hb, hF, hB.trans (hb.mono hB.size)⟩
theorem bel (h : OwnP w0 w g s) : Below w0.heap.size w0 w := by obtain ⟨F, hP, hF, hB⟩ := h; exact hB
theorem step {F : Nat → Prop} (hF : ∀ k, F k → w0.heap.size ≤ k) (hB : Below w0.heap.size w0 w) (h : ∃ F', PostAt w' F' g s' ∧ Step F F' w w') : OwnP w0 w' g s' := by
  obtain ⟨F', hP, hS⟩ := h
  exact ⟨F', hP, fun k hk => (hS.new k hk).elim (hF k) (fun e => Nat.le_trans hB.size e), hB.trans (hS.turned.below hB.size hF)⟩
theorem len (h : OwnP w0 w g s) : s.l.length ≤ 256 := by obtain ⟨F, hP, _⟩ := h; exact hP.len
end OwnP
theorem new_O (w : World) : Calls Try.prog 10 #[] w fun e w' => e = .returned (.pointer (some ⟨w.heap.size, 0, none⟩)) ∧ OwnP w w' w.heap.size Po.new := by
  refine (new_any w).mono ?_
  rintro e w' ⟨he, hP, hB⟩
  exact ⟨he, _, hP, fun k hk => by rw [hk]; exact Nat.le_refl _, hB⟩
theorem lit_bytes (w w' : World) (l : List Nat) (hs : ∀ x ∈ l, x < 256) (F : Nat → Prop) (hF : ∀ k, F k → k < w.heap.size) (ht : Turned F (w.alloc (.cells (bytes l).toArray 5)) w') : IsBytes w' w'.heap.size (some ⟨w.heap.size, 0, none⟩) l := by
  have h := isBytes_new w l hs 5 (0, 0)
  refine ⟨h.small, fun k hk => ?_⟩
  obtain ⟨b, off, e, hb, hc⟩ := h.cells k hk
  have hbe : b = w.heap.size := by injection e with e; injection e with e1 e2; exact e1.symm
  subst hbe
  have hsz := ht.size
  rw [World.size_alloc] at hsz
  refine ⟨_, off, e, by omega, fun i hi => ?_⟩
  rw [ht.cell (p := ⟨w.heap.size, off + i, none⟩) (by simp) (fun e => by have := hF _ e; exact Nat.lt_irrefl _ this)]
  exact hc i hi
theorem send_lit (w0 : World) (g : Nat) (s : Po.St) (a b : Int) (l : List Nat) (hs : ∀ x ∈ l, x < 256) (hl : l.length ≤ 1024) (n : Nat) (hn : l.length = n) (w : World) (h : OwnP w0 w g s) :
    Calls Try.prog 16 #[.pointer (some ⟨g, 0, none⟩), .agg #[.int .i64 a, .int .i64 b, .slice (some ⟨w.heap.size, 0, none⟩) n n]] (w.alloc (.cells (bytes l).toArray 5)) fun e w' =>
      e = .returned (.int .i64 (Po.sendE s ⟨a, b, l⟩)) ∧ OwnP w0 w' g (Po.sendS s ⟨a, b, l⟩) := by
  subst hn
  obtain ⟨F, hP, hF, hB⟩ := h
  have hb : Below w.heap.size w (w.alloc (.cells (bytes l).toArray 5)) := (Below.refl _ w).alloc (Nat.le_refl _) _
  refine (send_any F g s (some ⟨w.heap.size, 0, none⟩) l.length ⟨a, b, l⟩ hl _ (hP.below hb) (fun w' ht => lit_bytes w w' l hs F hP.lt ht) (fun h => by cases h)).mono ?_
  rintro e w' ⟨he, hR⟩
  exact ⟨he, OwnP.step hF (hB.trans (hb.mono hB.size)) hR⟩
theorem send_O (w0 : World) (g : Nat) (s : Po.St) (A0 : Option Addr) (c0 : Nat) (x : Po.Pk) (hd : x.d.length ≤ 1024) (w : World) (h : OwnP w0 w g s) (hx : IsBytes w w0.heap.size A0 x.d) (hn : A0 = none → c0 = 0) :
    Calls Try.prog 16 #[.pointer (some ⟨g, 0, none⟩), .agg #[.int .i64 x.a, .int .i64 x.b, .slice A0 x.d.length c0]] w fun e w' =>
      e = .returned (.int .i64 (Po.sendE s x)) ∧ OwnP w0 w' g (Po.sendS s x) := by
  obtain ⟨F, hP, hF, hB⟩ := h
  refine (send_any F g s A0 c0 x hd w hP (fun w' ht => (hx.below (ht.below hB.size hF)).more (Nat.le_trans hB.size ht.size)) hn).mono ?_
  rintro e w' ⟨he, hR⟩
  exact ⟨he, OwnP.step hF hB hR⟩
theorem cut_O (w0 : World) (g : Nat) (s : Po.St) (a b : Int) (w : World) (h : OwnP w0 w g s) :
    Calls Try.prog 21 #[.pointer (some ⟨g, 0, none⟩), .int .i64 a, .int .i64 b] w fun e w' => e = .returned (.int .i64 (Po.cutE s a b)) ∧ OwnP w0 w' g (Po.cutS s a b) := by
  obtain ⟨F, hP, hF, hB⟩ := h
  exact (cut_any F g s a b w hP).mono fun _ _ ⟨he, hR⟩ => ⟨he, OwnP.step hF hB hR⟩
theorem join_O (w0 : World) (g : Nat) (s : Po.St) (a b : Int) (w : World) (h : OwnP w0 w g s) :
    Calls Try.prog 22 #[.pointer (some ⟨g, 0, none⟩), .int .i64 a, .int .i64 b] w fun e w' => e = .returned (.int .i64 (Po.joinE s a b)) ∧ OwnP w0 w' g (Po.joinS s a b) := by
  obtain ⟨F, hP, hF, hB⟩ := h
  exact (join_any F g s a b w hP).mono fun _ _ ⟨he, hR⟩ => ⟨he, OwnP.step hF hB hR⟩
theorem turn_O (w0 : World) (g : Nat) (s : Po.St) (a b : Int) (hb : InInt b) (w : World) (h : OwnP w0 w g s) :
    Calls Try.prog 24 #[.pointer (some ⟨g, 0, none⟩), .int .i64 a, .int .i64 b] w fun e w' => e = .returned (.int .i64 (Po.turnE s a b)) ∧ OwnP w0 w' g (Po.turnS s a b) := by
  obtain ⟨F, hP, hF, hB⟩ := h
  exact (turn_any F g s a b hb w hP).mono fun _ _ ⟨he, hR⟩ => ⟨he, OwnP.step hF hB hR⟩
theorem len_O (w0 : World) (g : Nat) (s : Po.St) (w : World) (h : OwnP w0 w g s) :
    Calls Try.prog 12 #[.pointer (some ⟨g, 0, none⟩)] w fun e w' => e = .returned (.int .i64 (s.l.length : Nat)) ∧ w' = w := by
  obtain ⟨F, hP, hF, hB⟩ := h
  exact len_any F g s w hP
/-- what Take tells: the packet that was there, or none -/
theorem take_O (w0 : World) (g : Nat) (s : Po.St) (i : Int) (w : World) (h : OwnP w0 w g s) :
    Calls Try.prog 17 #[.pointer (some ⟨g, 0, none⟩), .int .i64 i] w fun e w' => ∃ A c, e = .returned (.tuple #[.agg #[.int .i64 (Po.takeP s i).a, .int .i64 (Po.takeP s i).b, .slice A (Po.takeP s i).d.length c], .int .i64 (Po.takeE s i)]) ∧
      OwnP w0 w' g (Po.takeS s i) ∧ IsBytes w' w'.heap.size A (Po.takeP s i).d := by
  obtain ⟨F, hP, hF, hB⟩ := h
  by_cases ht : Po.has s i = true
  · obtain ⟨n, rfl⟩ := Int.eq_ofNat_of_zero_le (Po.has_iff.1 ht).1
    have e1 : Po.takeS s n = Po.del s n := by unfold Po.takeS; rw [ht, Int.toNat_natCast]; rfl
    have e2 : Po.takeP s n = (Po.pkt s n).1 := by unfold Po.takeP; rw [ht]; rfl
    have e3 : Po.takeE s n = 0 := by unfold Po.takeE; rw [ht]; rfl
    rw [e1, e2, e3]
    refine (take_yes F g s n w hP ht).mono ?_
    rintro e w' ⟨A, c, he, F', hP', hT, hF', hO, _⟩
    exact ⟨A, c, he, OwnP.step hF hB ⟨F', hP', hT, fun k hk => .inl (hF' k hk)⟩, hO.reads⟩
  · have ht : Po.has s i = false := by simpa using ht
    have e1 : Po.takeS s i = s := by unfold Po.takeS; rw [ht]; rfl
    have e2 : Po.takeP s i = ⟨0, 0, []⟩ := by unfold Po.takeP; rw [ht]; rfl
    have e3 : Po.takeE s i = 6 := by unfold Po.takeE; rw [ht]; rfl
    rw [e1, e2, e3]
    refine (take_no F g s i w hP ht).mono ?_
    rintro e w' ⟨he, hb⟩
    exact ⟨none, 0, he, ⟨F, hP.below hb, hF, hB.trans (hb.mono hB.size)⟩, IsBytes.nil⟩
theorem take_N (w0 : World) (g : Nat) (s s' : Po.St) (i : Int) (p : Po.Pk) (r : Int) (hs : Po.takeS s i = s') (hp : Po.takeP s i = p) (hr : Po.takeE s i = r) (w : World) (h : OwnP w0 w g s) :
    Calls Try.prog 17 #[.pointer (some ⟨g, 0, none⟩), .int .i64 i] w fun e w' => ∃ A c, e = .returned (.tuple #[.agg #[.int .i64 p.a, .int .i64 p.b, .slice A p.d.length c], .int .i64 r]) ∧ OwnP w0 w' g s' ∧ IsBytes w' w'.heap.size A p.d := by
  subst hs; subst hp; subst hr
  exact take_O w0 g s i w h

namespace Po
def s2 : St := ⟨[(⟨1, 2, [7]⟩, false)], []⟩
def s3 : St := ⟨[(⟨1, 2, [7]⟩, false)], [(1, 2)]⟩
def s5 : St := ⟨[(⟨1, 2, [15]⟩, true)], [(1, 2)]⟩
def s6 : St := ⟨[], [(1, 2)]⟩
theorem q1 : sendE new ⟨1, 2, [7]⟩ = 0 ∧ sendS new ⟨1, 2, [7]⟩ = s2 := ⟨rfl, rfl⟩
theorem q2 : cutE s2 2 1 = 0 ∧ cutS s2 2 1 = s3 := ⟨rfl, rfl⟩
theorem q3 : sendE s3 ⟨1, 2, [9]⟩ = 0 ∧ sendS s3 ⟨1, 2, [9]⟩ = s3 := ⟨rfl, rfl⟩
theorem q4 : turnE s3 0 3 = 0 ∧ turnS s3 0 3 = s5 := ⟨rfl, rfl⟩
theorem q5 : turnE s5 0 3 = 7 ∧ turnS s5 0 3 = s5 := ⟨rfl, rfl⟩
theorem q6 : takeE s5 0 = 0 ∧ takeS s5 0 = s6 ∧ takeP s5 0 = ⟨1, 2, [15]⟩ := ⟨rfl, rfl, rfl⟩
end Po
theorem k1 (w0 : World) (g : Nat) (w : World) (h : OwnP w0 w g Po.new) :
    Calls Try.prog 16 #[.pointer (some ⟨g, 0, none⟩), .agg #[.int .i64 1, .int .i64 2, .slice (some ⟨w.heap.size, 0, none⟩) 1 1]] (w.alloc (.cells #[.int .u8 7] 5)) fun e w' => e = .returned (.int .i64 0) ∧ OwnP w0 w' g Po.s2 := by
  have := send_lit w0 g Po.new 1 2 [7] (by decide) (by decide) 1 rfl w h
  rw [Po.q1.1, Po.q1.2] at this
  exact this
theorem k2 (w0 : World) (g : Nat) (w : World) (h : OwnP w0 w g Po.s2) :
    Calls Try.prog 21 #[.pointer (some ⟨g, 0, none⟩), .int .i64 2, .int .i64 1] w fun e w' => e = .returned (.int .i64 0) ∧ OwnP w0 w' g Po.s3 := by
  have := cut_O w0 g Po.s2 2 1 w h
  rw [Po.q2.1, Po.q2.2] at this
  exact this
theorem k3 (w0 : World) (g : Nat) (w : World) (h : OwnP w0 w g Po.s3) :
    Calls Try.prog 16 #[.pointer (some ⟨g, 0, none⟩), .agg #[.int .i64 1, .int .i64 2, .slice (some ⟨w.heap.size, 0, none⟩) 1 1]] (w.alloc (.cells #[.int .u8 9] 5)) fun e w' => e = .returned (.int .i64 0) ∧ OwnP w0 w' g Po.s3 := by
  have := send_lit w0 g Po.s3 1 2 [9] (by decide) (by decide) 1 rfl w h
  rw [Po.q3.1, Po.q3.2] at this
  exact this
theorem k4 (w0 : World) (g : Nat) (w : World) (h : OwnP w0 w g Po.s3) :
    Calls Try.prog 24 #[.pointer (some ⟨g, 0, none⟩), .int .i64 0, .int .i64 3] w fun e w' => e = .returned (.int .i64 0) ∧ OwnP w0 w' g Po.s5 := by
  have := turn_O w0 g Po.s3 0 3 (by unfold InInt; omega) w h
  rw [Po.q4.1, Po.q4.2] at this
  exact this
theorem k5 (w0 : World) (g : Nat) (w : World) (h : OwnP w0 w g Po.s5) :
    Calls Try.prog 24 #[.pointer (some ⟨g, 0, none⟩), .int .i64 0, .int .i64 3] w fun e w' => e = .returned (.int .i64 7) ∧ OwnP w0 w' g Po.s5 := by
  have := turn_O w0 g Po.s5 0 3 (by unfold InInt; omega) w h
  rw [Po.q5.1, Po.q5.2] at this
  exact this
theorem k6 (w0 : World) (g : Nat) (w : World) (h : OwnP w0 w g Po.s5) :
    Calls Try.prog 17 #[.pointer (some ⟨g, 0, none⟩), .int .i64 0] w fun e w' => ∃ A c, e = .returned (.tuple #[.agg #[.int .i64 1, .int .i64 2, .slice A 1 c], .int .i64 0]) ∧ OwnP w0 w' g Po.s6 ∧ IsBytes w' w'.heap.size A [15] := by
  exact take_N w0 g Po.s5 Po.s6 0 ⟨1, 2, [15]⟩ 0 Po.q6.2.1 Po.q6.2.2 Po.q6.1 w h
theorem k7 (w : World) (N : Nat) (hN : w.heap.size = N) (A : Option Addr) (c : Nat) (h : IsBytes w w.heap.size A [15]) :
    Calls Try.prog 18 #[.agg #[.int .i64 1, .int .i64 2, .slice A 1 c], .agg #[.int .i64 1, .int .i64 2, .slice (some ⟨N, 0, none⟩) 1 1]] (w.alloc (.cells #[.int .u8 15] 5)) fun e w' => e = .returned (.bool true) ∧ Below w.heap.size w w' := by
  subst hN
  have hb : Below w.heap.size w (w.alloc (.cells #[.int .u8 15] 5)) := (Below.refl _ w).alloc (Nat.le_refl _) _
  refine (pk_same ⟨1, 2, [15]⟩ ⟨1, 2, [15]⟩ A (some ⟨w.heap.size, 0, none⟩) c 1 (by unfold maxLen; decide) (by unfold maxLen; decide) _ ((h.below hb).more hb.size) ((isBytes_new w [15] (by decide) 5 (0, 0)).more (by simp))).mono ?_
  rintro e w' ⟨he, hb'⟩
  exact ⟨he, hb.trans (hb'.mono hb.size)⟩
theorem k8 (w0 : World) (g : Nat) (w : World) (h : OwnP w0 w g Po.s6) :
    Calls Try.prog 12 #[.pointer (some ⟨g, 0, none⟩)] w fun e w' => e = .returned (.int .i64 0) ∧ w' = w :=
  len_O w0 g Po.s6 w h

set_option maxHeartbeats 400000 in
set_option maxRecDepth 100000 in
theorem works_any (w : World) :
    Calls Try.prog 9 #[] w fun e w' => e = .returned (.bool true) ∧ Below w.heap.size w w' := by
  go_enter Try.func9, Try.ntmps9
  go_wp2_with fail
  refine (new_O w).mono ?_
  rintro e w1 ⟨rfl, H1⟩
  have H1 := hid H1
  go_wp2_with fail
  refine (k1 w _ w1 H1.out).mono ?_
  rintro e w2 ⟨rfl, H2⟩
  have H2 := hid H2
  clear H1
  go_wp2_with fail
  refine (k2 w _ w2 H2.out).mono ?_
  rintro e w3 ⟨rfl, H3⟩
  have H3 := hid H3
  clear H2
  go_wp2_with fail
  refine (k3 w _ w3 H3.out).mono ?_
  rintro e w4 ⟨rfl, H4⟩
  have H4 := hid H4
  clear H3
  go_wp2_with fail
  refine (k4 w _ w4 H4.out).mono ?_
  rintro e w5 ⟨rfl, H5⟩
  have H5 := hid H5
  clear H4
  go_wp2_with fail
  refine (k5 w _ w5 H5.out).mono ?_
  rintro e w6 ⟨rfl, H6⟩
  have H6 := hid H6
  clear H5
  go_wp2_with fail
  refine (k6 w _ w6 H6.out).mono ?_
  rintro e w7 ⟨A7, c7, rfl, H7, hB7⟩
  have H7 : Hid (OwnP w (w7.alloc (.cells #[.int .i64 1, .int .i64 2, .slice A7 1 c7] 42)) w.heap.size Po.s6 ∧ IsBytes (w7.alloc (.cells #[.int .i64 1, .int .i64 2, .slice A7 1 c7] 42)) (w7.alloc (.cells #[.int .i64 1, .int .i64 2, .slice A7 1 c7] 42)).heap.size A7 [15]) :=
    hid ⟨H7.below ((Below.refl _ w7).alloc (Nat.le_refl _) _), (hB7.below ((Below.refl _ w7).alloc (Nat.le_refl _) _)).more (by simp)⟩
  clear H6 hB7
  go_wp2_with fail
  refine (k7 _ (w7.heap.size + 1) (by simp) A7 c7 H7.out.2).mono ?_
  rintro e w8 ⟨rfl, hb8⟩
  have H8 := hid (H7.out.1.below hb8)
  clear H7 hb8
  go_wp2_with fail
  refine (k8 w _ w8 H8.out).mono ?_
  rintro e w9 ⟨rfl, hw9⟩
  subst hw9
  go_wp2_with fail
  go_ret
  exact ⟨rfl, H8.out.bel⟩
end Go.Proofs.Ytckfjkhjnpkobaa
