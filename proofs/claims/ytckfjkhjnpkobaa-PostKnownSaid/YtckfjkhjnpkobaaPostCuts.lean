/- While a way is cut nothing more goes over it, all other ways go on; when it is joined again it goes on, too. Conditions: none. -/
import Derived.Test.YtckfjkhjnpkobaaRows
import Derived.Test.YtckfjkhjnpkobaaPoInv
import Derived.WalkKit
import Derived.WalkLawsBesides
import Derived.ProofKit
import Derived.OpenShut
import Derived.ShutString
import Derived.ChangeOld
import Derived.Below
import Derived.SizedLaws
namespace Go.Proofs.Ytckfjkhjnpkobaa.postCuts
open Go.ChangeShapes Go.WideShapes Go.ChangeAt Go.RowKit
open Go.ChangeMaps (open_string shut_string)
set_option linter.unusedVariables false

theorem own : ownKnob Try.prog.godebug = none := by kernel_rfl
theorem laidOut : laidOutB Try.prog = true := by kernel_rfl
theorem bytesOf : Try.prog.bytesOf 5 = 1 := by kernel_rfl

/-- how many packets the post at g has under way, as its memory tells -/
def lenAt (w : World) (g : Nat) : Nat := match w.cell? ⟨g, 0, none⟩ with | some (.slice _ n _) => n | _ => 0
theorem lenAt_own {w0 w : World} {g : Nat} {s : Po.St} (h : OwnP w0 w g s) : lenAt w g = s.l.length := by
  obtain ⟨F, ⟨L, A, c, A', c', h1, h2⟩, _⟩ := h
  unfold lenAt
  rw [h1.cell0, h2, List.length_map]
theorem len_N (w0 : World) (g : Nat) (s : Po.St) (n : Nat) (hn : s.l.length = n) (w : World) (h : OwnP w0 w g s) :
    Calls Try.prog 12 #[.pointer (some ⟨g, 0, none⟩)] w fun e w' => e = .returned (.int .i64 (n : Nat)) ∧ w' = w := by
  subst hn; exact len_O w0 g s w h
theorem drain (w0 : World) (g : Nat) (x : Po.Pk × Bool) (L : List (Po.Pk × Bool)) (C : List (Int × Int)) (w : World) (h : OwnP w0 w g ⟨x :: L, C⟩) :
    Calls Try.prog 17 #[.pointer (some ⟨g, 0, none⟩), .int .i64 0] w fun e w' => (∃ p q, e = .returned (.tuple #[p, q])) ∧ OwnP w0 w' g ⟨L, C⟩ := by
  have e : Po.takeS ⟨x :: L, C⟩ 0 = ⟨L, C⟩ := by
    unfold Po.takeS
    rw [Po.has_iff.2 ⟨by omega, by simp⟩]
    rfl
  have := take_O w0 g ⟨x :: L, C⟩ 0 w h
  rw [e] at this
  exact this.mono fun _ _ ⟨A, c, he, hO, _⟩ => ⟨⟨_, _, he⟩, hO⟩
theorem cut_N (w0 : World) (g : Nat) (s s' : Po.St) (a b : Int) (r : Int) (hr : Po.cutE s a b = r) (hs : Po.cutS s a b = s') (w : World) (h : OwnP w0 w g s) :
    Calls Try.prog 21 #[.pointer (some ⟨g, 0, none⟩), .int .i64 a, .int .i64 b] w fun e w' => e = .returned (.int .i64 r) ∧ OwnP w0 w' g s' := by
  subst hr; subst hs; exact cut_O w0 g s a b w h
theorem join_N (w0 : World) (g : Nat) (s s' : Po.St) (a b : Int) (r : Int) (hr : Po.joinE s a b = r) (hs : Po.joinS s a b = s') (w : World) (h : OwnP w0 w g s) :
    Calls Try.prog 22 #[.pointer (some ⟨g, 0, none⟩), .int .i64 a, .int .i64 b] w fun e w' => e = .returned (.int .i64 r) ∧ OwnP w0 w' g s' := by
  subst hr; subst hs; exact join_O w0 g s a b w h
theorem send_N (w0 : World) (g : Nat) (s s' : Po.St) (r : Int) (a b : Int) (A0 : Option Addr) (c0 : Nat) (d : List Nat) (hr : Po.sendE s ⟨a, b, d⟩ = r) (hs : Po.sendS s ⟨a, b, d⟩ = s') (hd : d.length ≤ 1024) (w1 w : World) (h1 : w1.heap.size ≤ w0.heap.size) (h : OwnP w0 w g s) (hx : IsBytes w w1.heap.size A0 d) (hn : A0 = none → c0 = 0) :
    Calls Try.prog 16 #[.pointer (some ⟨g, 0, none⟩), .agg #[.int .i64 a, .int .i64 b, .slice A0 d.length c0]] w fun e w' => e = .returned (.int .i64 r) ∧ OwnP w0 w' g s' := by
  subst hr; subst hs
  exact send_O w0 g s A0 c0 ⟨a, b, d⟩ hd w h (hx.more h1) hn
/-- what stands ahead of the sends: this way is cut -/
structure Ready (C : List (Int × Int)) (a b : Int) : Prop where
  inv : Po.Inv C
  ne : a ≠ b
  inn : Po.norm a b ∈ C
theorem ready_cut {C : List (Int × Int)} {a b : Int} (h : Ready C a b) (L : List (Po.Pk × Bool)) : Po.isCut ⟨L, C⟩ a b = true ∧ Po.isCut ⟨L, C⟩ b a = true := by
  unfold Po.isCut
  rw [Po.norm_swap b a]
  exact ⟨decide_eq_true h.inn, decide_eq_true h.inn⟩
theorem lost (C : List (Int × Int)) (L : List (Po.Pk × Bool)) (x : Po.Pk) (h : Po.isCut ⟨L, C⟩ x.a x.b = true) : Po.sendE ⟨L, C⟩ x = 0 ∧ Po.sendS ⟨L, C⟩ x = ⟨L, C⟩ := by
  unfold Po.sendE Po.sendS
  rw [h]
  exact ⟨rfl, rfl⟩
theorem sent (C : List (Int × Int)) (L : List (Po.Pk × Bool)) (x : Po.Pk) (h : Po.isCut ⟨L, C⟩ x.a x.b = false) (hl : L.length < 256) : Po.sendE ⟨L, C⟩ x = 0 ∧ Po.sendS ⟨L, C⟩ x = ⟨L ++ [(x, false)], C⟩ := by
  unfold Po.sendE Po.sendS Po.layE Po.layS Po.lay
  rw [h]
  have : ¬ L.length = 256 := by omega
  simp [this]
/-- all that the calls answer once this way is cut -/
structure Facts (C : List (Int × Int)) (a b c : Int) (d : List Nat) : Prop where
  f1 : Po.sendE ⟨[], C⟩ ⟨a, b, d⟩ = 0 ∧ Po.sendS ⟨[], C⟩ ⟨a, b, d⟩ = ⟨[], C⟩
  f2 : Po.sendE ⟨[], C⟩ ⟨b, a, d⟩ = 0 ∧ Po.sendS ⟨[], C⟩ ⟨b, a, d⟩ = ⟨[], C⟩
  f3 : Po.cutE ⟨[], C⟩ b a = 7 ∧ Po.cutS ⟨[], C⟩ b a = ⟨[], C⟩
  f4 : Po.sendE ⟨[], C⟩ ⟨c, c, d⟩ = 0 ∧ Po.sendS ⟨[], C⟩ ⟨c, c, d⟩ = ⟨[(⟨c, c, d⟩, false)], C⟩
  f5 : ∃ C2, (Po.joinE ⟨[(⟨c, c, d⟩, false)], C⟩ b a = 0 ∧ Po.joinS ⟨[(⟨c, c, d⟩, false)], C⟩ b a = ⟨[(⟨c, c, d⟩, false)], C2⟩) ∧ (Po.joinE ⟨[(⟨c, c, d⟩, false)], C2⟩ a b = 6 ∧ Po.joinS ⟨[(⟨c, c, d⟩, false)], C2⟩ a b = ⟨[(⟨c, c, d⟩, false)], C2⟩) ∧
    (Po.sendE ⟨[(⟨c, c, d⟩, false)], C2⟩ ⟨a, b, d⟩ = 0 ∧ Po.sendS ⟨[(⟨c, c, d⟩, false)], C2⟩ ⟨a, b, d⟩ = ⟨[(⟨c, c, d⟩, false), (⟨a, b, d⟩, false)], C2⟩)
theorem facts {C : List (Int × Int)} {a b : Int} (h : Ready C a b) (c : Int) (d : List Nat) : Facts C a b c d := by
  refine ⟨lost C [] ⟨a, b, d⟩ (ready_cut h _).1, lost C [] ⟨b, a, d⟩ (ready_cut h _).2, ?_, sent C [] ⟨c, c, d⟩ (Po.self_out C [] h.inv c) (by simp), C.eraseIdx (C.idxOf (Po.norm b a)), ?_, ?_, ?_⟩
  · unfold Po.cutE Po.cutS
    have hba : ¬ b = a := fun e => h.ne e.symm
    rw [if_neg hba, if_neg hba, (ready_cut h _).2]
    exact ⟨rfl, rfl⟩
  · unfold Po.joinE Po.joinS
    rw [(ready_cut h _).2]
    exact ⟨rfl, rfl⟩
  · have : Po.isCut ⟨[(⟨c, c, d⟩, false)], C.eraseIdx (C.idxOf (Po.norm b a))⟩ a b = false := by
      unfold Po.isCut
      rw [Po.norm_swap a b]
      exact decide_eq_false (Po.erased_out C h.inv _)
    unfold Po.joinE Po.joinS
    rw [this]
    exact ⟨rfl, rfl⟩
  · exact sent _ [(⟨c, c, d⟩, false)] ⟨a, b, d⟩ (by
      unfold Po.isCut
      rw [Po.norm_swap a b]
      exact decide_eq_false (Po.erased_out C h.inv _)) (by simp)
theorem take_two (x y : Po.Pk × Bool) (C : List (Int × Int)) : Po.takeE ⟨[x, y], C⟩ 1 = 0 ∧ Po.takeS ⟨[x, y], C⟩ 1 = ⟨[x], C⟩ ∧ Po.takeP ⟨[x, y], C⟩ 1 = y.1 := by
  have h : Po.has ⟨[x, y], C⟩ 1 = true := Po.has_iff.2 ⟨by omega, by simp⟩
  unfold Po.takeE Po.takeS Po.takeP
  rw [h]
  exact ⟨rfl, rfl, rfl⟩

theorem cutting {C : List (Int × Int)} (hi : Po.Inv C) (a b : Int) (hab : a ≠ b) : ∃ r C', (Po.cutE ⟨[], C⟩ a b = r ∧ Po.cutS ⟨[], C⟩ a b = ⟨[], C'⟩) ∧ (r = 17 ∨ ((r = 0 ∨ r = 7) ∧ Ready C' a b)) := by
  rcases hc : Po.isCut ⟨[], C⟩ a b with _ | _
  · by_cases h64 : C.length = 64
    · refine ⟨17, C, ?_, .inl rfl⟩
      unfold Po.cutE Po.cutS
      rw [if_neg hab, if_neg hab, hc]
      simp [h64]
    · refine ⟨0, C ++ [Po.norm a b], ?_, .inr ⟨.inl rfl, ?_, hab, by simp⟩⟩
      · unfold Po.cutE Po.cutS
        rw [if_neg hab, if_neg hab, hc]
        simp [h64]
      · have := Po.cut_inv ⟨[], C⟩ a b hi
        unfold Po.cutS at this
        rw [if_neg hab, hc] at this
        simpa [h64] using this
  · refine ⟨7, C, ?_, .inr ⟨.inr rfl, hi, hab, Po.yes_in _ _ _ hc⟩⟩
    unfold Po.cutE Po.cutS
    rw [if_neg hab, if_neg hab, hc]
    exact ⟨rfl, rfl⟩
theorem self_cut (C : List (Int × Int)) (hi : Po.Inv C) (a : Int) : (Po.cutE ⟨[], C⟩ a a = 3 ∧ Po.cutS ⟨[], C⟩ a a = ⟨[], C⟩) ∧ (Po.joinE ⟨[], C⟩ a a = 6 ∧ Po.joinS ⟨[], C⟩ a a = ⟨[], C⟩) := by
  unfold Po.cutE Po.cutS Po.joinE Po.joinS
  rw [Po.self_out C [] hi a, if_pos rfl, if_pos rfl]
  exact ⟨⟨rfl, rfl⟩, ⟨rfl, rfl⟩⟩

set_option maxHeartbeats 3200000 in
set_option maxRecDepth 100000 in
theorem core (a0 : Option Addr) (cap0 : Nat) (l0 : List Po.Op) (a b c : Int) (a4 : Option Addr) (cap4 : Nat) (l4 : List Nat) (w : World) (k0 : IsOps w w.heap.size a0 l0) (k4 : IsBytes w w.heap.size a4 l4) (z4 : a4 = none → cap4 = 0) :
    Calls Try.prog 6 #[.slice a0 l0.length cap0, .int .i64 a, .int .i64 b, .int .i64 c, .slice a4 l4.length cap4] w fun e w' => e = .returned (.bool true) ∧ Below w.heap.size w w' := by
  have HK := hid (And.intro k0 k4)
  clear k0 k4
  go_enter Try.func6, Try.ntmps6
  go_wp2_with fail
  refine (works_any w).mono ?_
  rintro e w1 ⟨rfl, hb1⟩
  have HB1 := hid hb1
  clear hb1
  have HL := hid (long_any w.heap.size a0 cap0 l0 w1 (HK.out.1.below HB1.out))
  cases hlg : Po.long l0
  · obtain ⟨hlen, hds⟩ := Po.long_iff.1 hlg
    have HDS := hid (And.intro hlen hds)
    rw [hlg] at HL
    clear hlg hlen hds
    by_cases h200 : l0.length ≤ 200
    · have h2001 : ¬ (200 : Int) < (l0.length : Int) := by omega
      by_cases h1024 : l4.length ≤ 1024
      · have h10241 : ¬ (1024 : Int) < (l4.length : Int) := by omega
        have HX := hid h1024
        clear h200 h1024
        go_wp2_with fail
        refine HL.out.mono ?_
        rintro e w2 ⟨rfl, hw2⟩
        subst hw2
        go_wp2_with fail
        refine (new_O _).mono ?_
        rintro e w3 ⟨rfl, hO3⟩
        have hR := run_O _ _ _ a0 cap0 l0 HDS.out.2 HDS.out.1 w3 hO3 (((HK.out.1.below HB1.out).more HB1.out.size).below hO3.bel)
        have HR := hid hR
        have HI : Hid (Po.Inv (l0.foldl Po.step Po.new).c) := hid (Po.fold_inv l0 Po.new Po.new_inv)
        clear hO3 hR HL HDS h2001
        go_wp2_with fail
        refine HR.out.mono ?_
        rintro e w4 ⟨rfl, hO4⟩
        obtain ⟨s, hs⟩ : ∃ s, s = l0.foldl Po.step Po.new := ⟨_, rfl⟩
        rw [← hs] at hO4 HI
        obtain ⟨S0, C⟩ := s
        have H4 := hid hO4
        clear hs hO4 HR
        go_wp2_with fail
        go_loopw [] (fun wr => ∃ L, Hid (OwnP w2 wr w2.heap.size ⟨L, C⟩)) (fun wr => lenAt wr w2.heap.size)
        case atStart => exact ⟨S0, H4⟩
        case round =>
          clear H4
          obtain ⟨L, hS⟩ := hrel
          rcases L with _ | ⟨x, L⟩
          · have HLn := hid (len_N w2 w2.heap.size ⟨[], C⟩ 0 rfl wr hS.out)
            have hbw : Below w.heap.size w wr := HB1.out.trans (hS.out.bel.mono HB1.out.size)
            by_cases hab : a = b
            · have hsc := self_cut C HI.out a
              have HC := hid (cut_N w2 w2.heap.size _ _ a a _ hsc.1.1 hsc.1.2 wr hS.out)
              have HJ := hid (fun w5 h5 => join_N w2 w2.heap.size _ _ a a _ hsc.2.1 hsc.2.2 w5 h5)
              clear hsc hbw hS HI
              subst hab
              go_wp2_with fail
              refine HLn.out.mono ?_
              rintro e w5 ⟨rfl, hw5⟩
              subst hw5
              go_wp2_with fail
              refine HC.out.mono ?_
              rintro e w6 ⟨rfl, hO6⟩
              have H6 := hid hO6
              clear hO6 HC
              go_wp2_with fail
              refine (HJ.out _ H6.out).mono ?_
              rintro e w7 ⟨rfl, hO7⟩
              have H7 := hid hO7
              clear hO7 H6 HJ
              go_wp2_with fail
              go_ret
              exact ⟨rfl, HB1.out.trans (H7.out.bel.mono HB1.out.size)⟩
            · obtain ⟨r, C', hrC, hr⟩ := cutting HI.out a b hab
              have HC := hid (cut_N w2 w2.heap.size _ _ a b _ hrC.1 hrC.2 wr hS.out)
              have hsz := HB1.out.size
              rcases hr with rfl | ⟨hr, hR⟩
              · clear hrC hbw hS HI
                go_wp2_with fail
                refine HLn.out.mono ?_
                rintro e w5 ⟨rfl, hw5⟩
                subst hw5
                go_wp2_with fail
                refine HC.out.mono ?_
                rintro e w6 ⟨rfl, hO6⟩
                have H6 := hid hO6
                clear hO6 HC
                go_wp2_with fail
                go_ret
                exact ⟨rfl, HB1.out.trans (H6.out.bel.mono HB1.out.size)⟩
              · obtain ⟨f1, f2, f3, f4, C2, f5, f6, f7⟩ := facts hR c l4
                have HD : Hid (∀ w5, Below w2.heap.size w2 w5 → IsBytes w5 w.heap.size a4 l4) := hid (fun w5 h5 => HK.out.2.below (HB1.out.trans (h5.mono hsz)))
                have S1 := hid (fun (w5 : World) (h5 : OwnP w2 w5 w2.heap.size ⟨[], C'⟩) => send_N w2 w2.heap.size _ _ _ a b a4 cap4 l4 f1.1 f1.2 HX.out w w5 hsz h5 (HD.out w5 h5.bel) z4)
                have S2 := hid (fun (w5 : World) (h5 : OwnP w2 w5 w2.heap.size ⟨[], C'⟩) => send_N w2 w2.heap.size _ _ _ b a a4 cap4 l4 f2.1 f2.2 HX.out w w5 hsz h5 (HD.out w5 h5.bel) z4)
                have S3 := hid (fun (w5 : World) (h5 : OwnP w2 w5 w2.heap.size ⟨[], C'⟩) => len_N w2 w2.heap.size _ 0 rfl w5 h5)
                have S4 := hid (fun (w5 : World) (h5 : OwnP w2 w5 w2.heap.size ⟨[], C'⟩) => cut_N w2 w2.heap.size _ _ b a _ f3.1 f3.2 w5 h5)
                have S5 := hid (fun (w5 : World) (h5 : OwnP w2 w5 w2.heap.size ⟨[], C'⟩) => send_N w2 w2.heap.size _ _ _ c c a4 cap4 l4 f4.1 f4.2 HX.out w w5 hsz h5 (HD.out w5 h5.bel) z4)
                have S6 := hid (fun (w5 : World) (h5 : OwnP w2 w5 w2.heap.size ⟨[(⟨c, c, l4⟩, false)], C'⟩) => len_N w2 w2.heap.size _ 1 rfl w5 h5)
                have S7 := hid (fun (w5 : World) (h5 : OwnP w2 w5 w2.heap.size ⟨[(⟨c, c, l4⟩, false)], C'⟩) => join_N w2 w2.heap.size _ _ b a _ f5.1 f5.2 w5 h5)
                have S8 := hid (fun (w5 : World) (h5 : OwnP w2 w5 w2.heap.size ⟨[(⟨c, c, l4⟩, false)], C2⟩) => join_N w2 w2.heap.size _ _ a b _ f6.1 f6.2 w5 h5)
                have S9 := hid (fun (w5 : World) (h5 : OwnP w2 w5 w2.heap.size ⟨[(⟨c, c, l4⟩, false)], C2⟩) => send_N w2 w2.heap.size _ _ _ a b a4 cap4 l4 f7.1 f7.2 HX.out w w5 hsz h5 (HD.out w5 h5.bel) z4)
                have S10 := hid (fun (w5 : World) (h5 : OwnP w2 w5 w2.heap.size ⟨[(⟨c, c, l4⟩, false), (⟨a, b, l4⟩, false)], C2⟩) => len_N w2 w2.heap.size _ 2 rfl w5 h5)
                have tt := take_two (⟨c, c, l4⟩, false) (⟨a, b, l4⟩, false) C2
                have S11 := hid (fun (w5 : World) (h5 : OwnP w2 w5 w2.heap.size ⟨[(⟨c, c, l4⟩, false), (⟨a, b, l4⟩, false)], C2⟩) => take_N w2 w2.heap.size _ _ 1 _ _ tt.2.1 tt.2.2 tt.1 w5 h5)
                clear tt f1 f2 f3 f4 f5 f6 f7 hR hrC hbw hS HI
                rcases hr with rfl | rfl
                · go_wp2_with fail
                  refine HLn.out.mono ?_
                  rintro e w5 ⟨rfl, hw5⟩
                  subst hw5
                  clear HLn
                  go_wp2_with fail
                  refine HC.out.mono ?_
                  rintro e w6 ⟨rfl, hO6⟩
                  have H6 := hid hO6
                  clear hO6 HC
                  go_wp2_with fail
                  refine (S1.out _ H6.out).mono ?_
                  rintro e w7 ⟨rfl, hO7⟩
                  have H7 := hid hO7
                  clear hO7 H6 S1
                  go_wp2_with fail
                  refine (S2.out _ H7.out).mono ?_
                  rintro e w8 ⟨rfl, hO8⟩
                  have H8 := hid hO8
                  clear hO8 H7 S2
                  go_wp2_with fail
                  refine (S3.out _ H8.out).mono ?_
                  rintro e w9 ⟨rfl, hw9⟩
                  subst hw9
                  clear S3
                  go_wp2_with fail
                  refine (S4.out _ H8.out).mono ?_
                  rintro e w10 ⟨rfl, hO10⟩
                  have H10 := hid hO10
                  clear hO10 H8 S4
                  go_wp2_with fail
                  refine (S5.out _ H10.out).mono ?_
                  rintro e w11 ⟨rfl, hO11⟩
                  have H11 := hid hO11
                  clear hO11 H10 S5
                  go_wp2_with fail
                  refine (S6.out _ H11.out).mono ?_
                  rintro e w12 ⟨rfl, hw12⟩
                  subst hw12
                  clear S6
                  go_wp2_with fail
                  refine (S7.out _ H11.out).mono ?_
                  rintro e w13 ⟨rfl, hO13⟩
                  have H13 := hid hO13
                  clear hO13 H11 S7
                  go_wp2_with fail
                  refine (S8.out _ H13.out).mono ?_
                  rintro e w14 ⟨rfl, hO14⟩
                  have H14 := hid hO14
                  clear hO14 H13 S8
                  go_wp2_with fail
                  refine (S9.out _ H14.out).mono ?_
                  rintro e w15 ⟨rfl, hO15⟩
                  have H15 := hid hO15
                  clear hO15 H14 S9
                  go_wp2_with fail
                  refine (S10.out _ H15.out).mono ?_
                  rintro e w16 ⟨rfl, hw16⟩
                  subst hw16
                  clear S10
                  go_wp2_with fail
                  refine (S11.out _ H15.out).mono ?_
                  rintro e w17 ⟨A17, c17, rfl, hO17, hp17⟩
                  have hb18 : Below w17.heap.size w17 (w17.alloc (.cells #[.int .i64 a, .int .i64 b, .slice A17 l4.length c17] 42)) := (Below.refl _ w17).alloc (Nat.le_refl _) _
                  have hO18 := hO17.below hb18
                  have HS := hid (pk_same ⟨a, b, l4⟩ ⟨a, b, l4⟩ A17 a4 c17 cap4 (Nat.le_trans HX.out (by unfold maxLen; decide)) (Nat.le_trans HX.out (by unfold maxLen; decide)) _ ((hp17.below hb18).more hb18.size) ((HD.out _ hO18.bel).more (Nat.le_trans hsz hO18.bel.size)))
                  rw [decide_eq_true rfl] at HS
                  have H18 := hid hO18
                  clear hO17 hp17 hb18 hO18 H15 S11
                  go_wp2_with fail
                  refine HS.out.mono ?_
                  rintro e w19 ⟨rfl, hb19⟩
                  have H19 := hid (H18.out.below hb19)
                  clear hb19 HS H18
                  go_wp2_with fail
                  go_ret
                  exact ⟨rfl, HB1.out.trans (H19.out.bel.mono HB1.out.size)⟩
                · go_wp2_with fail
                  refine HLn.out.mono ?_
                  rintro e w5 ⟨rfl, hw5⟩
                  subst hw5
                  clear HLn
                  go_wp2_with fail
                  refine HC.out.mono ?_
                  rintro e w6 ⟨rfl, hO6⟩
                  have H6 := hid hO6
                  clear hO6 HC
                  go_wp2_with fail
                  refine (S1.out _ H6.out).mono ?_
                  rintro e w7 ⟨rfl, hO7⟩
                  have H7 := hid hO7
                  clear hO7 H6 S1
                  go_wp2_with fail
                  refine (S2.out _ H7.out).mono ?_
                  rintro e w8 ⟨rfl, hO8⟩
                  have H8 := hid hO8
                  clear hO8 H7 S2
                  go_wp2_with fail
                  refine (S3.out _ H8.out).mono ?_
                  rintro e w9 ⟨rfl, hw9⟩
                  subst hw9
                  clear S3
                  go_wp2_with fail
                  refine (S4.out _ H8.out).mono ?_
                  rintro e w10 ⟨rfl, hO10⟩
                  have H10 := hid hO10
                  clear hO10 H8 S4
                  go_wp2_with fail
                  refine (S5.out _ H10.out).mono ?_
                  rintro e w11 ⟨rfl, hO11⟩
                  have H11 := hid hO11
                  clear hO11 H10 S5
                  go_wp2_with fail
                  refine (S6.out _ H11.out).mono ?_
                  rintro e w12 ⟨rfl, hw12⟩
                  subst hw12
                  clear S6
                  go_wp2_with fail
                  refine (S7.out _ H11.out).mono ?_
                  rintro e w13 ⟨rfl, hO13⟩
                  have H13 := hid hO13
                  clear hO13 H11 S7
                  go_wp2_with fail
                  refine (S8.out _ H13.out).mono ?_
                  rintro e w14 ⟨rfl, hO14⟩
                  have H14 := hid hO14
                  clear hO14 H13 S8
                  go_wp2_with fail
                  refine (S9.out _ H14.out).mono ?_
                  rintro e w15 ⟨rfl, hO15⟩
                  have H15 := hid hO15
                  clear hO15 H14 S9
                  go_wp2_with fail
                  refine (S10.out _ H15.out).mono ?_
                  rintro e w16 ⟨rfl, hw16⟩
                  subst hw16
                  clear S10
                  go_wp2_with fail
                  refine (S11.out _ H15.out).mono ?_
                  rintro e w17 ⟨A17, c17, rfl, hO17, hp17⟩
                  have hb18 : Below w17.heap.size w17 (w17.alloc (.cells #[.int .i64 a, .int .i64 b, .slice A17 l4.length c17] 42)) := (Below.refl _ w17).alloc (Nat.le_refl _) _
                  have hO18 := hO17.below hb18
                  have HS := hid (pk_same ⟨a, b, l4⟩ ⟨a, b, l4⟩ A17 a4 c17 cap4 (Nat.le_trans HX.out (by unfold maxLen; decide)) (Nat.le_trans HX.out (by unfold maxLen; decide)) _ ((hp17.below hb18).more hb18.size) ((HD.out _ hO18.bel).more (Nat.le_trans hsz hO18.bel.size)))
                  rw [decide_eq_true rfl] at HS
                  have H18 := hid hO18
                  clear hO17 hp17 hb18 hO18 H15 S11
                  go_wp2_with fail
                  refine HS.out.mono ?_
                  rintro e w19 ⟨rfl, hb19⟩
                  have H19 := hid (H18.out.below hb19)
                  clear hb19 HS H18
                  go_wp2_with fail
                  go_ret
                  exact ⟨rfl, HB1.out.trans (H19.out.bel.mono HB1.out.size)⟩
          · have HLn := hid (len_N w2 w2.heap.size ⟨x :: L, C⟩ (L.length + 1) rfl wr hS.out)
            have HDr := hid (drain w2 w2.heap.size x L C wr hS.out)
            have hm : Hid (lenAt wr w2.heap.size = L.length + 1) := hid (lenAt_own hS.out)
            have hpos : (0 : Int) < ((L.length + 1 : Nat) : Int) := by omega
            obtain ⟨n, hn⟩ : ∃ n, n = L.length + 1 := ⟨_, rfl⟩
            rw [← hn] at HLn hpos
            have HN := hid hn
            clear hn hS
            go_wp2_with fail
            refine HLn.out.mono ?_
            rintro e w5 ⟨rfl, hw5⟩
            subst hw5
            go_wp2_with fail
            refine HDr.out.mono ?_
            rintro e w6 ⟨⟨p, q, rfl⟩, hO6⟩
            have H6 := hid hO6
            clear hO6 HDr HLn
            go_wp2_with fail
            go_roundw
            case rel => exact ⟨L, H6⟩
            case measure =>
              have h1 := hm.out
              have h2 := lenAt_own H6.out
              show lenAt w6 w2.heap.size < lenAt w5 w2.heap.size
              rw [h1, h2]
              exact Nat.lt_succ_self _
      · have h10241 : (1024 : Int) < (l4.length : Int) := by omega
        clear h200 h1024
        go_wp2_with fail
        refine HL.out.mono ?_
        rintro e w2 ⟨rfl, hw2⟩
        subst hw2
        go_wp2_with fail
        go_ret
        exact ⟨rfl, HB1.out⟩
    · have h2001 : (200 : Int) < (l0.length : Int) := by omega
      clear h200
      go_wp2_with fail
      refine HL.out.mono ?_
      rintro e w2 ⟨rfl, hw2⟩
      subst hw2
      go_wp2_with fail
      go_ret
      exact ⟨rfl, HB1.out⟩
  · rw [hlg] at HL
    clear hlg
    go_wp2_with fail
    refine HL.out.mono ?_
    rintro e w2 ⟨rfl, hw2⟩
    subst hw2
    go_wp2_with fail
    go_ret
    exact ⟨rfl, HB1.out⟩
theorem walk (a0 : Option Addr) (cap0 : Nat) (l0 : List Po.Op) (a1 a2 a3 : Int) (a4 : Option Addr) (cap4 : Nat) (l4 : List Nat) (w : World)
    (k0 : IsOps w w.heap.size a0 l0) (n0 : l0.length ≤ cap0) (r0 : cap0 ≤ maxLen) (z0 : a0 = none → cap0 = 0) (b1 : -9223372036854775808 ≤ a1 ∧ a1 ≤ 9223372036854775807) (b2 : -9223372036854775808 ≤ a2 ∧ a2 ≤ 9223372036854775807) (b3 : -9223372036854775808 ≤ a3 ∧ a3 ≤ 9223372036854775807)
    (k4 : IsBytes w w.heap.size a4 l4) (n4 : l4.length ≤ cap4) (r4 : cap4 ≤ 140737488351232) (z4 : a4 = none → cap4 = 0) :
    Calls Try.prog 6 #[.slice a0 l0.length cap0, .int .i64 a1, .int .i64 a2, .int .i64 a3, .slice a4 l4.length cap4] w fun e w' => e = .returned (.bool true) ∧ Below w.heap.size w w' :=
  core a0 cap0 l0 a1 a2 a3 a4 cap4 l4 w k0 k4 z4

set_option maxRecDepth 100000 in
theorem lifted (os : Os) (started : os.Started) (H : Type) (enc : TypeId × Value → H) :
    ReturnsInHanded {} Try.checked os 6 .any (Rows.postCutsSpec.pre6 enc Try.prog Try.f6 Rows.postCutsRow.domain false) (Rows.postCutsSpec.post enc Try.prog Try.f6 false true false false) := by
  refine returnsInHanded_of_change_sized (C := Try.checked) own started (by kernel_rfl) Try.func6
    (ChangeSpec.witness6 (enc := enc) (C := Try.checked) false ⟨#[], #[.slice none 0 0, .int .i64 0, .int .i64 0, .int .i64 0, .slice none 0 0], []⟩ 8 (by kernel_rfl) (by kernel_rfl) (by kernel_rfl) (by kernel_rfl)) ?_
  intro W base args ds gs before hval0 hW hcnd hsz0 _
  have hsz : (DataW.weightsEach Try.prog (Try.f6.params.toList ++ Rows.postCutsSpec.plain.varTypes Try.prog) (ds ++ gs)).all (· ≤ reachBytes) = true := hsz0
  clear hsz0
  have hval : ∀ (j : Nat) t v, Try.f6.params[j]? = some t → args[j]? = some v → Value.okWide Try.prog W .any base t v := hval0
  have hW' := hW
  obtain ⟨p, q, hA0, hV, rfl, hfz, hnd⟩ := hW
  have hA : DataW.TrodAll enc Try.prog W 0 (fun _ => true) true Try.f6.params.toList args.toList ds p := hA0
  rw [Try.params6] at hA hval hsz
  obtain ⟨v0, vs0, d0, ds0, p0, q0, hargs, rfl, rfl, g0, t0⟩ := trodAll_cons hA
  obtain ⟨v1, vs1, d1, ds1, p1, q1, rfl, rfl, rfl, g1, t1⟩ := trodAll_cons t0
  obtain ⟨v2, vs2, d2, ds2, p2, q2, rfl, rfl, rfl, g2, t2⟩ := trodAll_cons t1
  obtain ⟨v3, vs3, d3, ds3, p3, q3, rfl, rfl, rfl, g3, t3⟩ := trodAll_cons t2
  obtain ⟨v4, vs4, d4, ds4, p4, q4, rfl, rfl, rfl, g4, t4⟩ := trodAll_cons t3
  obtain ⟨rfl, rfl, rfl⟩ := trodAll_nil t4
  obtain rfl : args = #[v0, v1, v2, v3, v4] := by cases args; simp_all
  obtain ⟨rfl, rfl⟩ := trodVars_none hV
  obtain ⟨a0, len0, cap0, rfl⟩ := okWide_slice Try.underlying22 (hval 0 22 v0 rfl rfl)
  have m0 := g0
  have lt0 : ∀ x ∈ p0, x.block < W.heap.size := by obtain ⟨m, hm⟩ := m0; exact DataW.trod_lt m _ _ _ hm
  obtain ⟨l0, k0, rfl, n0, r0, z0⟩ : ∃ l, IsOps W W.heap.size a0 l ∧ len0 = l.length ∧ l.length ≤ cap0 ∧ cap0 ≤ maxLen ∧ (a0 = none → cap0 = 0) := by
    obtain ⟨fuel, hf⟩ := g0
    obtain ⟨a, c, ts, hcs, h1, h2, h3⟩ := ops_of_trod hf
    simp [Value.cells] at hcs
    obtain ⟨rfl, rfl, rfl⟩ := hcs
    exact ⟨ts, h1, rfl, h2.1, h2.2, h3⟩
  obtain ⟨a1, rfl, rfl, rfl, w1⟩ := open_int Try.underlying3 (hval 1 3 v1 rfl rfl) g1
  have b1 := bounds_i64 w1
  obtain ⟨a2, rfl, rfl, rfl, w2⟩ := open_int Try.underlying3 (hval 2 3 v2 rfl rfl) g2
  have b2 := bounds_i64 w2
  obtain ⟨a3, rfl, rfl, rfl, w3⟩ := open_int Try.underlying3 (hval 3 3 v3 rfl rfl) g3
  have b3 := bounds_i64 w3
  obtain ⟨a4, len4, cap4, rfl⟩ := okWide_slice Try.underlying34 (hval 4 34 v4 rfl rfl)
  have m4 := g4
  have lt4 : ∀ x ∈ p4, x.block < W.heap.size := by obtain ⟨m, hm⟩ := m4; exact DataW.trod_lt m _ _ _ hm
  obtain ⟨l4, k4, rfl, n4, r4, z4⟩ : ∃ l, IsBytes W W.heap.size a4 l ∧ len4 = l.length ∧ l.length ≤ cap4 ∧ cap4 ≤ 140737488351232 ∧ (a4 = none → cap4 = 0) := by
    obtain ⟨fuel, hf⟩ := g4
    rcases open_ints Try.underlying34 Try.underlying5 (by kernel_rfl) hf with ⟨hcs, _⟩ | ⟨x, l, c, zs, hcs, _, hl, hm, hz, hx, hcell, hwz⟩
    · simp [Value.cells] at hcs
      obtain ⟨rfl, rfl, rfl⟩ := hcs
      exact ⟨[], IsBytes.nil, rfl, by simp, by omega, fun _ => rfl⟩
    · simp [Value.cells] at hcs
      obtain ⟨rfl, rfl, rfl⟩ := hcs
      simp only [Prod.mk.injEq] at hx
      obtain ⟨rfl, rfl⟩ := hx
      simp only [if_true] at hz
      have hr := sized_slice hsz (j := 4) (t := 34) (e := 5) rfl rfl Try.underlying34
      rw [bytesOf] at hr
      simp only [lits, List.length_map, List.length_take, List.length_drop, reachBytes] at hr
      obtain ⟨l, h1, h2⟩ := isBytes_of_ints hl hz hcell hwz
      exact ⟨l, h1, h2, by omega, by omega, fun h => by cases h⟩
  clear hA0 hval0
  refine (walk a0 cap0 l0 a1 a2 a3 a4 cap4 l4 W k0 n0 r0 z0 b1 b2 b3 k4 n4 r4 z4).mono fun e W' ⟨he, bel⟩ => ?_
  subst he
  exact ⟨_, rfl, _, _, _, [], _, [], hW', trodAll_mk1 (shut_bool Try.underlying4 _), (trodAll_cons_mk (Below.trod laidOut (by kernel_rfl) (of_decide_eq_true (by kernel_rfl)) m0 bel lt0) (trodAll_cons_mk (shut_int Try.underlying3 w1) (trodAll_cons_mk (shut_int Try.underlying3 w2) (trodAll_cons_mk (shut_int Try.underlying3 w3) (trodAll_cons_mk (Below.trod laidOut (by kernel_rfl) (of_decide_eq_true (by kernel_rfl)) m4 bel lt4) trodAll_mk0))))), rfl, bel.frame _, fun h => by cases h⟩

theorem over : Rows.postCutsRow.holds Try.pinned (OpenSpec.ofChange Rows.postCutsSpec) :=
  OpenClaim.holds_of_wide 6 Try.f6 rfl rfl rfl rfl rfl rfl rfl ⟨rfl, rfl, rfl, rfl, rfl⟩ rfl rfl rfl rfl rfl (by kernel_rfl) Try.func6 (by kernel_rfl)
    (of_decide_eq_true (by kernel_rfl)) (by unfold Func.isWrapper; first | (rw [if_pos (by decide +kernel)]; kernel_rfl) | (rw [if_neg (by decide +kernel)]; exact ⟨rfl, rfl⟩))
    (fun os started H enc _ => lifted os started H enc)

theorem proved : Rows.PostCutsSaid := over
end Go.Proofs.Ytckfjkhjnpkobaa.postCuts
