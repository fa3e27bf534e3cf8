/- The examples of the chapter, slots at their ends. Conditions: none. -/
import Derived.Test.YtdgijnolpjaheaaRows
import Derived.Test.YtdgijnolpjaheaaPartAO
import Derived.WalkKit
import Derived.WalkLawsBesides
import Derived.ProofKit
import Derived.OpenShut
import Derived.ShutString
import Derived.ChangeOld
import Derived.Below
import Derived.SizedLaws
namespace Go.Proofs.Ytdgijnolpjaheaa.storeKnown
open Go.ChangeShapes Go.WideShapes Go.ChangeAt Go.RowKit
open Go.ChangeMaps (open_string shut_string)
set_option linter.unusedVariables false

theorem own : ownKnob Try.prog.godebug = none := by kernel_rfl
theorem laidOut : laidOutB Try.prog = true := by kernel_rfl

def slotV : Nat → Int
  | 0 => -9223372036854775808
  | 1 => -1
  | 2 => 0
  | 3 => 1
  | 4 => 5
  | 5 => 6
  | _ => 9223372036854775807
theorem slotV_bad (k : Nat) (h3 : k ≠ 3) (h4 : k ≠ 4) : ¬ (1 ≤ slotV k ∧ 2 * slotV k + 1 ≤ ((12 : Nat) : Int)) := by
  match k with
  | 0 => simp [slotV]
  | 1 => simp [slotV]
  | 2 => simp [slotV]
  | 3 => exact absurd rfl h3
  | 4 => exact absurd rfl h4
  | 5 => simp [slotV]
  | k + 6 => simp [slotV]
theorem slots_at (w1 ws : World) (hws : ws = w1.alloc (.cells #[.int .i64 (-9223372036854775808), .int .i64 (-1), .int .i64 0, .int .i64 1, .int .i64 5, .int .i64 6, .int .i64 9223372036854775807] 3)) (k : Nat) (hk : k < 7) : ws.cell? ⟨w1.heap.size, k, none⟩ = some (.int .i64 (slotV k)) := by
  have h := heap_alloc_new w1 (.cells #[.int .i64 (-9223372036854775808), .int .i64 (-1), .int .i64 0, .int .i64 1, .int .i64 5, .int .i64 6, .int .i64 9223372036854775807] 3)
  rw [← hws] at h
  simp only [World.cell?, h]
  match k, hk with
  | 0, _ => rfl
  | 1, _ => rfl
  | 2, _ => rfl
  | 3, _ => rfl
  | 4, _ => rfl
  | 5, _ => rfl
  | 6, _ => rfl
theorem make81 (W : World) : (Instr.makeSlice 32 (.int .i64 81) (.int .i64 81)).run Try.prog W = .ok (.slice (some ⟨W.heap.size, 0, none⟩) 81 81) (W.alloc (.cells (zeroRow 81) 5)) := make_any 81 (by omega) W
theorem make281 (W : World) : (Instr.makeSlice 32 (.int .i64 281) (.int .i64 281)).run Try.prog W = .ok (.slice (some ⟨W.heap.size, 0, none⟩) 281 281) (W.alloc (.cells (zeroRow 281) 5)) := make_any 281 (by omega) W
theorem make32769 (W : World) : (Instr.makeSlice 32 (.int .i64 32769) (.int .i64 32769)).run Try.prog W = .ok (.slice (some ⟨W.heap.size, 0, none⟩) 32769 32769) (W.alloc (.cells (zeroRow 32769) 5)) := make_any 32769 (by omega) W
theorem renew_zeros (w0 : World) (d : Dk) (s : Sx.St) (g gj m n : Nat) (e st : Int) (p : List Nat) (L : List (List Nat)) (c' : Nat) (w : World) (h : SG w0 w d s g gj m n e st p L c') (hst : st ≠ 2) (hn1 : 1 ≤ n) (he : e + 1 ≤ 1099511627776) (k : Nat) (hk2 : k ≤ 65536) (hl : m < Jo.secs k) :
    Calls Try.prog 24 #[.pointer (some ⟨g, 0, none⟩), .slice (some ⟨w.heap.size, 0, none⟩) k k] (w.alloc (.cells (zeroRow k) 5)) fun e' w' => e' = .returned (.int .i64 2) ∧ Hid (SG w0 w' d s g gj m n e st p L c') := by
  have hb : Below w.heap.size w (w.alloc (.cells (zeroRow k) 5)) := (Below.refl _ _).alloc (Nat.le_refl _) _
  refine (T.renew_no w0 d s g gj m n e st p L c' _ (h.below hb) hst hn1 he (some ⟨w.heap.size, 0, none⟩) k (zeros k) k (zeros_length k) (by omega) hl (Nat.le_refl _) (by unfold maxLen; omega) (fun h => by cases h) (by rw [World.size_alloc]; exact isBytes_new w (zeros k) (zeros_small k) _ _)).mono ?_
  rintro e' w' ⟨h1, h2⟩
  exact ⟨h1, h2.out.1⟩
theorem append_zeros (w0 : World) (d : Dk) (s : Sx.St) (g gj m n : Nat) (e : Int) (p : List Nat) (L : List (List Nat)) (c' : Nat) (w : World) (h : SG w0 w d s g gj m n e 1 p L c') (k : Nat) (hk2 : k ≤ 65536) (E : Int) (hE : 32768 < k ∧ E = 2 ∨ k ≤ 32768 ∧ n - Jo.total L < Jo.secs k ∧ E = 8) (c2 : Nat) (hc2 : L.length = c2) :
    Calls Try.prog 23 #[.pointer (some ⟨g, 0, none⟩), .slice (some ⟨w.heap.size, 0, none⟩) k k] (w.alloc (.cells (zeroRow k) 5)) fun e' w' => e' = .returned (.int .i64 E) ∧ Hid (SG w0 w' d s g gj m n e 1 p L c2) := by
  subst hc2
  have hb : Below w.heap.size w (w.alloc (.cells (zeroRow k) 5)) := (Below.refl _ _).alloc (Nat.le_refl _) _
  refine (T.append_any w0 d s g gj m n e p L c' _ (h.below hb) (some ⟨w.heap.size, 0, none⟩) k (zeros k) k (zeros_length k) (Nat.le_refl _) (by unfold maxLen; omega) (fun h => by cases h) (by rw [World.size_alloc]; exact isBytes_new w (zeros k) (zeros_small k) _ _)
    (fun _ a ha hd => by injection ha with ha; subst ha; have := h.disk.at_.lt _ hd; exact Nat.lt_irrefl _ this)).mono ?_
  rintro e' w' ⟨E', h1, h2⟩
  rcases h2.out.1 with ⟨g2, g3, g4⟩ | ⟨g2, g3, g4, g5⟩ | ⟨s', g2, g3, g4, g5, g6, g7⟩ | ⟨s', g2, g3, g4, g5, g6, g7, g8, g9⟩ <;> rw [zeros_length] at g2
  · rcases hE with ⟨_, rfl⟩ | ⟨hE, _⟩
    · rw [g3] at h1; exact ⟨h1, hid g4⟩
    · omega
  · rw [zeros_length] at g3
    rcases hE with ⟨hE, _⟩ | ⟨_, _, rfl⟩
    · omega
    · rw [g4] at h1; exact ⟨h1, hid g5⟩
  · rw [zeros_length] at g3; omega
  · rw [zeros_length] at g3; omega
set_option maxRecDepth 100000 in
set_option maxHeartbeats 8000000 in
theorem walk (w : World) : Calls Try.prog 8 #[] w fun e w' => e = .returned (.bool true) ∧ Below w.heap.size w w' := by
  have HN := hid (new_any 12 (by omega) w)
  have hm81 := make81
  have hm281 := make281
  have hm32769 := make32769
  have kc := fun (w : World) (C : Array Value) (n c : Nat) => Lib.run_convert_bytes_const (P := Try.prog) w 32 5 C n c Try.underlying32 Try.underlying5
  go_enter Try.func8, Try.ntmps8
  go_wp2_with fail
  refine HN.out.mono ?_
  rintro e w1 ⟨d, rfl, hD, hb⟩
  have H1 := hid (T.sg_new w w1 d 12 hD hb)
  clear hD hb HN
  go_wp2_with fail
  obtain ⟨ws, hws⟩ : ∃ ws, ws = w1.alloc (.cells #[.int .i64 (-9223372036854775808), .int .i64 (-1), .int .i64 0, .int .i64 1, .int .i64 5, .int .i64 6, .int .i64 9223372036854775807] 3) := ⟨_, rfl⟩
  rw [← hws]
  have hbs : Below w1.heap.size w1 ws := by rw [hws]; exact (Below.refl _ _).alloc (Nat.le_refl _) _
  have hss : ws.heap.size = w1.heap.size + 1 := by rw [hws]; simp
  have HS : Hid (∀ wr, Below ws.heap.size ws wr → ∀ k, k < 7 → wr.cell? ⟨w1.heap.size, k, none⟩ = some (.int .i64 (slotV k))) := hid (fun wr hb k hk => (hb.cell (p := ⟨w1.heap.size, k, none⟩) (by show w1.heap.size < _; omega)).trans (slots_at w1 ws hws k hk))
  have H2 := hid (H1.out.below hbs)
  clear hws hbs hss
  go_loopw [4] (fun i wr => ∃ k : Nat, k ≤ 7 ∧ i = .int .i64 (k : Int) ∧ Hid (DM w wr d (Sx.new 12) ∧ Below ws.heap.size ws wr)) (fun i _ => 7 - (RowKit.intOf i).toNat)
  case atStart => exact ⟨0, by omega, by simp, hid ⟨H2.out, Below.refl _ _⟩⟩
  case round =>
    obtain ⟨k, hk, rfl, HI⟩ := hrel
    by_cases hlt : k < 7
    · have hlt0 : (k : Int) < 7 := by omega
      have c0 := HS.out wr HI.out.2 k hlt
      by_cases h3 : k = 3
      · have hv : slotV k = 1 := by rw [h3]; rfl
        rw [hv] at c0
        have H3 := hid h3
        clear h3 hv
        have hk3 : ((k : Int) == 3) = true := by rw [H3.out]; rfl
        go_wp2_with fail
        refine (T.open_any w wr d (Sx.new 12) 1 10 0 [] [] HI.out.1 (Sto.held_new 12 1 10 (by omega) (by omega) (by omega)) (by omega) rfl 1 rfl).mono ?_
        rintro e3 w3 ⟨g, gj, A, c, A2, c2, rfl, h3⟩
        have H4 : Hid (DM w w3 d (Sx.new 12) ∧ Below ws.heap.size ws w3) := hid ⟨h3.out.sg.disk, HI.out.2.trans (h3.out.bel.mono HI.out.2.size)⟩
        clear h3 HI c0
        go_wp2
        go_roundw
        case rel => exact ⟨k + 1, by omega, by go_num, H4⟩
        case measure => simp [RowKit.intOf]; omega
      · have hk3 : ((k : Int) == 3) = false := by rw [beq_eq_false_iff_ne]; omega
        by_cases h4 : k = 4
        · have hv : slotV k = 5 := by rw [h4]; rfl
          rw [hv] at c0
          have H3 := hid h4
          clear h4 hv h3
          have hk4 : ((k : Int) == 4) = true := by rw [H3.out]; rfl
          go_wp2_with fail
          refine (T.open_any w wr d (Sx.new 12) 5 2 0 [] [] HI.out.1 (Sto.held_new 12 5 2 (by omega) (by omega) (by omega)) (by omega) rfl 5 rfl).mono ?_
          rintro e3 w3 ⟨g, gj, A, c, A2, c2, rfl, h3⟩
          have H4 : Hid (DM w w3 d (Sx.new 12) ∧ Below ws.heap.size ws w3) := hid ⟨h3.out.sg.disk, HI.out.2.trans (h3.out.bel.mono HI.out.2.size)⟩
          clear h3 HI c0
          go_wp2
          go_roundw
          case rel => exact ⟨k + 1, by omega, by go_num, H4⟩
          case measure => simp [RowKit.intOf]; omega
        · have hk4 : ((k : Int) == 4) = false := by rw [beq_eq_false_iff_ne]; omega
          have HB := hid (slotV_bad k h3 h4)
          obtain ⟨v, hv⟩ : ∃ v, slotV k = v := ⟨_, rfl⟩
          rw [hv] at c0 HB
          clear hv h3 h4
          go_wp2_with fail
          refine (T.open_wrong _ d (Sx.new 12) v wr HI.out.1.at_ HB.out).mono ?_
          rintro e3 w3 ⟨rfl, rfl⟩
          clear c0
          go_wp2
          go_roundw
          case rel => exact ⟨k + 1, by omega, by go_num, HI⟩
          case measure => simp [RowKit.intOf]; omega
    · have hlt0 : ¬ (k : Int) < 7 := by omega
      have H3 := hid HI.out.1
      clear HI HS H2
      go_wp2_with fail
      refine (T.open_any w wr d (Sx.new 12) 2 8 0 [] [] H3.out (Sto.held_new 12 2 8 (by omega) (by omega) (by omega)) (by omega) rfl 2 rfl).mono ?_
      rintro e4 w4 ⟨g, gj, A, c, A2, c2, rfl, h4⟩
      have H4 := hid h4.out.sg
      clear h4 H3
      go_wp2_with fail
      refine (T.renew_lit w d _ g gj 2 8 0 0 1 [] [] 0 w4 H4.out ⟨rfl, rfl⟩ (by decide) (by omega) (by omega) (by omega) [97] 1 rfl _ #[.int .u8 97] rfl (by decide) (by omega) (by decide)).mono ?_
      rintro e5 w5 ⟨rfl, h5⟩
      obtain ⟨s5, gj5, h5a, h5b, h5c⟩ := h5.out
      have H5 := hid (And.intro h5a (And.intro h5b h5c))
      clear h5 h5a h5b h5c H4
      go_wp2_with fail
      refine (T.append_lit w d s5 g gj5 2 8 1 [97] [] 0 w5 H5.out.1 H5.out.2 [98] 1 rfl _ #[.int .u8 98] rfl (by decide) (by omega) (by decide) [[98]] rfl 1 rfl).mono ?_
      rintro e6 w6 ⟨rfl, h6⟩
      obtain ⟨s6, h6a, h6b, h6c⟩ := h6.out
      have H6 := hid (And.intro h6a (And.intro h6b h6c))
      clear h6 h6a h6b h6c H5
      go_wp2_with fail
      refine (renew_zeros w d s6 g gj5 2 8 1 1 [97] [[98]] 1 w6 H6.out.1 (by decide) (by omega) (by omega) 81 (by omega) (by decide)).mono ?_
      rintro e7 w7 ⟨rfl, h7⟩
      have HU := hid H6.out.2
      clear H6
      go_wp2_with fail
      refine (append_zeros w d s6 g gj5 2 8 1 [97] [[98]] 1 w7 h7.out 32769 (by omega) 2 (.inl ⟨by omega, rfl⟩) 1 rfl).mono ?_
      rintro e8 w8 ⟨rfl, h8⟩
      clear h7
      go_wp2_with fail
      refine (append_zeros w d s6 g gj5 2 8 1 [97] [[98]] 1 w8 h8.out 281 (by omega) 8 (.inr ⟨by omega, by decide, rfl⟩) 1 rfl).mono ?_
      rintro e9 w9 ⟨rfl, h9⟩
      clear h8
      have k0 : w9.cell? ⟨g, 0, none⟩ = some (.pointer (some ⟨gj5, 0, none⟩)) := h9.out.store.cells.1
      go_wp2_with fail
      refine (T.epoch_SG w d _ g gj5 2 8 1 1 [97] [[98]] 1 w9 h9.out).mono ?_
      rintro e10 w10 ⟨rfl, rfl⟩
      go_wp2_with fail
      refine (T.count_SG w d _ g gj5 2 8 1 1 [97] [[98]] 1 w10 h9.out).mono ?_
      rintro e11 w11 ⟨rfl, rfl⟩
      clear k0
      go_wp2_with fail
      refine (T.open_any w w11 d s6 2 8 1 [97] [[98]] h9.out.disk h9.out.held (by omega) HU.out.2 2 rfl).mono ?_
      rintro e12 w12 ⟨t, tj, A3, c3, A4, c4, rfl, h12⟩
      have H12 := hid h12.out
      clear h12 h9
      go_wp2_with fail
      refine (T.append_state w d _ t tj 2 8 1 [97] [[98]] 0 none 0 0 w12 H12.out.sg).mono ?_
      rintro e13 w13 ⟨rfl, rfl⟩
      go_wp2_with fail
      refine (T.byte_lit w13 A3 c3 _ 97 (by omega) H12.out.check.reads).mono ?_
      rintro e14 w14 ⟨rfl, hb14⟩
      have H14 := hid (H12.out.sg.below hb14)
      clear hb14 H12
      go_wp2_with fail
      refine (T.renew_lit w d _ t tj 2 8 1 0 2 [97] [[98]] 0 w14 H14.out HU.out (by decide) (by omega) (by omega) (by omega) [100] 1 rfl _ #[.int .u8 100] rfl (by decide) (by omega) (by decide)).mono ?_
      rintro e15 w15 ⟨rfl, h15⟩
      obtain ⟨s15, tj5, h15a, h15b, h15c⟩ := h15.out
      have H15 := hid (And.intro h15a (And.intro h15b h15c))
      clear h15 h15a h15b h15c H14 HU
      go_wp2_with fail
      refine (T.open_any w w15 d s15 2 8 2 [100] [] H15.out.1.disk H15.out.1.held (by omega) H15.out.2.2 2 rfl).mono ?_
      rintro e16 w16 ⟨u, uj, A5, c5, A6, c6, rfl, h16⟩
      have H16 := hid (And.intro h16.out.check (H15.out.1.below h16.out.bel))
      have HU := hid H15.out.2
      clear h16 H15
      go_wp2_with fail
      refine (T.byte_lit w16 A5 c5 _ 100 (by omega) H16.out.1.reads).mono ?_
      rintro e17 w17 ⟨rfl, hb17⟩
      have H17 := hid (H16.out.2.below hb17)
      clear hb17 H16
      go_wp2_with fail
      refine (arm_any _ d s15 0 (by unfold InInt; omega) w17 H17.out.disk.at_).mono ?_
      rintro e18 w18 ⟨rfl, hd18, ht18⟩
      have H18 := hid (H17.out.arm 0 hd18 ht18)
      clear hd18 ht18 H17
      go_wp2_with fail
      refine (T.append_cut w d (Sx.arm s15 0) t tj5 2 8 2 [100] [] 0 w18 H18.out (by simp [Sx.arm, Sx.St.dead]) HU.out.2 (by decide)).mono ?_
      rintro e19 w19 ⟨rfl, h19⟩
      obtain ⟨s19, h19a, h19b, h19c, h19d⟩ := h19.out
      have hn19 : s19.n = 12 := by
        have h5 := (h19d []).elim (fun h => h.area) (fun h => h.area)
        have h6 : (Sx.crash s19 []).n = s19.n := rfl
        omega
      have H19 := hid (And.intro h19a (And.intro h19b (And.intro h19c h19d)))
      clear h19 h19a h19b h19c h19d H18 HU
      go_wp2_with fail
      refine (T.open_down _ d s19 2 w19 H19.out.1.at_ (by rw [hn19]; decide) H19.out.2.2.1).mono ?_
      rintro e20 w20 ⟨rfl, rfl⟩
      clear hn19
      go_wp2_with fail
      refine (crash_any _ d s19 none 0 [] 0 rfl w20 H19.out.1.at_ (fun w' _ => IsInts.nil)).mono ?_
      rintro e21 w21 ⟨rfl, hd21, ht21⟩
      have hdead : T.Dead w21 t := by
        obtain ⟨j, h1, h2⟩ := H19.out.2.1
        exact ⟨j, h1.keep ht21 (h1.not_disk H19.out.1.at_), h2⟩
      obtain ⟨L, hL⟩ : ∃ L, Sto.Held (Sx.crash s19 []) 2 8 2 [100] L := (H19.out.2.2.2 []).elim (fun h => ⟨_, h⟩) (fun h => ⟨_, h⟩)
      have H21 := hid (And.intro (H19.out.1.next hd21 ht21) (And.intro hdead hL))
      clear hd21 ht21 hdead hL H19
      go_wp2_with fail
      refine (T.open_any w w21 d (Sx.crash s19 []) 2 8 2 [100] L H21.out.1 H21.out.2.2 (by omega) rfl 2 rfl).mono ?_
      rintro e22 w22 ⟨v, vj, A7, c7, A8, c8, rfl, h22⟩
      have H22 := hid (And.intro h22.out.check (And.intro (H21.out.2.1.below h22.out.bel) h22.out.sg.disk.bel))
      clear h22 H21
      go_wp2_with fail
      refine (T.byte_lit w22 A7 c7 _ 100 (by omega) H22.out.1.reads).mono ?_
      rintro e23 w23 ⟨rfl, hb23⟩
      have H23 := hid (And.intro (H22.out.2.1.below hb23) (H22.out.2.2.trans (hb23.mono H22.out.2.2.size)))
      clear hb23 H22
      go_wp2_with fail
      refine (T.renew_dead t none 0 0 w23 H23.out.1).mono ?_
      rintro e24 w24 ⟨rfl, rfl⟩
      go_wp2_with fail
      refine (T.known_any w24).mono ?_
      rintro e25 w25 ⟨rfl, hb25⟩
      have H25 := hid (H23.out.2.trans (hb25.mono H23.out.2.size))
      clear hb25 H23
      go_wp2
      go_ret
      exact ⟨rfl, H25.out⟩

set_option maxRecDepth 100000 in
theorem lifted (os : Os) (started : os.Started) (H : Type) (enc : TypeId × Value → H) :
    ReturnsInHanded {} Try.checked os 8 .any (Rows.storeKnownSpec.pre6 enc Try.prog Try.f8 Rows.storeKnownRow.domain false) (Rows.storeKnownSpec.post enc Try.prog Try.f8 false true false false) := by
  refine returnsInHanded_of_change_sized (C := Try.checked) own started (by kernel_rfl) Try.func8
    (ChangeSpec.witness6 (enc := enc) (C := Try.checked) false ⟨#[], #[], []⟩ 8 (by kernel_rfl) (by kernel_rfl) (by kernel_rfl) (by kernel_rfl)) ?_
  intro W base args ds gs before hval0 hW hcnd hsz0 _
  have hsz : (DataW.weightsEach Try.prog (Try.f8.params.toList ++ Rows.storeKnownSpec.plain.varTypes Try.prog) (ds ++ gs)).all (· ≤ reachBytes) = true := hsz0
  clear hsz0
  have hval : ∀ (j : Nat) t v, Try.f8.params[j]? = some t → args[j]? = some v → Value.okWide Try.prog W .any base t v := hval0
  have hW' := hW
  obtain ⟨p, q, hA0, hV, rfl, hfz, hnd⟩ := hW
  have hA : DataW.TrodAll enc Try.prog W 0 (fun _ => true) true Try.f8.params.toList args.toList ds p := hA0
  rw [Try.params8] at hA hval hsz
  obtain ⟨rfl, rfl, rfl⟩ := trodAll_none hA
  obtain ⟨rfl, rfl⟩ := trodVars_none hV
  clear hA0 hval0
  refine (walk  W ).mono fun e W' ⟨he, bel⟩ => ?_
  subst he
  exact ⟨_, rfl, _, _, _, [], _, [], hW', trodAll_mk1 (shut_bool Try.underlying4 _), trodAll_mk0, rfl, bel.frame _, fun h => by cases h⟩

theorem over : Rows.storeKnownRow.holds Try.pinned (OpenSpec.ofChange Rows.storeKnownSpec) :=
  OpenClaim.holds_of_wide 8 Try.f8 rfl rfl rfl rfl rfl rfl rfl ⟨rfl, rfl, rfl, rfl, rfl⟩ rfl rfl rfl rfl rfl (by kernel_rfl) Try.func8 (by kernel_rfl)
    (of_decide_eq_true (by kernel_rfl)) (by unfold Func.isWrapper; first | (rw [if_pos (by decide +kernel)]; kernel_rfl) | (rw [if_neg (by decide +kernel)]; exact ⟨rfl, rfl⟩))
    (fun os started H enc _ => lifted os started H enc)

theorem proved : Rows.StoreKnownSaid := over
end Go.Proofs.Ytdgijnolpjaheaa.storeKnown
