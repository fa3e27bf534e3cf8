/- The walks through the statements' own functions: long, run. -/
import Derived.Test.YtckfjkhjnpkobaaPoIn
namespace Go.Proofs.Ytckfjkhjnpkobaa
open Go.RowKit

set_option maxRecDepth 100000 in
theorem long_any (B : Nat) (A : Option Addr) (c : Nat) (ts : List Po.Op) (w : World) (h : IsOps w B A ts) :
    Calls Try.prog 8 #[.slice A ts.length c] w fun e w' => e = .returned (.bool (Po.long ts)) ∧ w' = w := by
  by_cases h0 : 400 < ts.length
  · have e : Po.long ts = true := by simp [Po.long, h0]
    rw [e]
    have h01 : (400 : Int) < (ts.length : Int) := by omega
    clear e h0 h
    go_enter Try.func8, Try.ntmps8
    go_wp2
    go_ret
    exact ⟨rfl, rfl⟩
  · have HL := hid h0
    have h01 : ¬ (400 : Int) < (ts.length : Int) := by omega
    clear h0
    go_enter Try.func8, Try.ntmps8
    go_wp2_with fail
    go_loopw [3] (fun i wr => ∃ k : Nat, k ≤ ts.length ∧ i = .int .i64 k ∧ Hid (∀ t ∈ ts.take k, t.d.length ≤ 1024) ∧ wr = w) (fun i _ => ts.length - (RowKit.intOf i).toNat)
    case atStart => exact ⟨0, by omega, rfl, hid (by simp), rfl⟩
    case round =>
      obtain ⟨k, hk, rfl, hS, rfl⟩ := hrel
      by_cases hlt : k < ts.length
      · obtain ⟨b, off, rfl, _, hc⟩ := h.cells k hlt
        obtain ⟨ap, cp, c0, c1, c2, c3, _, _⟩ := hc k hlt
        have hk0 : (k : Int) < (ts.length : Int) := by omega
        by_cases h1 : 1024 < ts[k].d.length
        · have e : Po.long ts = true := by
            unfold Po.long
            rw [Bool.or_eq_true, List.any_eq_true]
            exact .inr ⟨ts[k], List.getElem_mem _, by simp [h1]⟩
          have h1' : (1024 : Int) < (ts[k].d.length : Int) := by omega
          have HE := hid e
          clear e h1 h hc
          go_wp2_with fail
          go_ret
          rw [HE.out]
          exact ⟨rfl, rfl⟩
        · have h1' : ¬ (1024 : Int) < (ts[k].d.length : Int) := by omega
          have HS : Hid (∀ t ∈ ts.take (k + 1), t.d.length ≤ 1024) := by
            intro t ht
            rw [List.take_succ_eq_append_getElem hlt] at ht
            rcases List.mem_append.1 ht with ht | ht
            · exact hS.out t ht
            · rw [List.mem_singleton.1 ht]; omega
          clear h1 h hc
          go_wp2_with fail
          go_roundw
          case rel => exact ⟨k + 1, by omega, by go_num, HS, trivial⟩
          case measure => simp [RowKit.intOf]; omega
      · obtain rfl : k = ts.length := by omega
        have HE : Hid (Po.long ts = false) := hid (Po.long_iff.2 ⟨by have := HL.out; omega, fun t ht => hS.out t (by rw [List.take_length]; exact ht)⟩)
        clear h hS
        go_wp2_with fail
        go_ret
        rw [HE.out]
        exact ⟨rfl, rfl⟩

theorem take_W (F : Nat → Prop) (g : Nat) (s : Po.St) (i : Int) (w : World) (h : PostAt w F g s) :
    Calls Try.prog 17 #[.pointer (some ⟨g, 0, none⟩), .int .i64 i] w fun e w' => (∃ p q, e = .returned (.tuple #[p, q])) ∧ ∃ F', PostAt w' F' g (Po.takeS s i) ∧ Step F F' w w' := by
  by_cases ht : Po.has s i = true
  · obtain ⟨n, rfl⟩ := Int.eq_ofNat_of_zero_le (Po.has_iff.1 ht).1
    have e : Po.takeS s n = Po.del s n := by unfold Po.takeS; rw [ht, Int.toNat_natCast]; rfl
    rw [e]
    refine (take_yes F g s n w h ht).mono ?_
    rintro e w' ⟨A, c, he, F', hP, hT, hF, _, _⟩
    exact ⟨⟨_, _, he⟩, F', hP, hT, fun k hk => .inl (hF k hk)⟩
  · have ht : Po.has s i = false := by simpa using ht
    have e : Po.takeS s i = s := by unfold Po.takeS; rw [ht]; rfl
    rw [e]
    refine (take_no F g s i w h ht).mono ?_
    rintro e w' ⟨he, hb⟩
    exact ⟨⟨_, _, he⟩, F, h.below hb, Step.ofBelow F hb⟩

/-- what the calls so far have made of the post -/
def RunTo (w wr : World) (F : Nat → Prop) (g : Nat) (s : Po.St) : Prop := ∃ F', PostAt wr F' g s ∧ Step F F' w wr
theorem RunTo.of {w wr : World} {F : Nat → Prop} {g : Nat} {s : Po.St} (h : RunTo w wr F g s) : RunTo w wr F g s := h
theorem RunTo.bel {w wr : World} {F : Nat → Prop} {g B : Nat} {s : Po.St} (h : RunTo w wr F g s) (hB : B ≤ w.heap.size) (hF : ∀ k, F k → B ≤ k) : Below B w wr := by
  obtain ⟨F', _, h2⟩ := h
  exact h2.turned.below hB hF
theorem take_step (ts : List Po.Op) (s : Po.St) (k : Nat) (hk : k < ts.length) : (ts.take (k + 1)).foldl Po.step s = Po.step ((ts.take k).foldl Po.step s) ts[k] := by
  rw [List.take_succ_eq_append_getElem hk, List.foldl_append]; rfl

set_option maxHeartbeats 4000000 in
set_option maxRecDepth 100000 in
theorem run_any (B : Nat) (F : Nat → Prop) (g : Nat) (s : Po.St) (A : Option Addr) (c : Nat) (ts : List Po.Op) (hd : ∀ t ∈ ts, t.d.length ≤ 1024) (hl : ts.length ≤ 400) (w : World) (h : PostAt w F g s) (hF : ∀ k, F k → B ≤ k) (hB : B ≤ w.heap.size) (ho : IsOps w B A ts) :
    Calls Try.prog 19 #[.pointer (some ⟨g, 0, none⟩), .slice A ts.length c] w fun e w' => e = .returned (.tuple #[]) ∧ RunTo w w' F g (ts.foldl Po.step s) := by
  have H0 : Hid (RunTo w w F g s) := hid ⟨F, h, Step.refl F w⟩
  have HO := hid ho
  have HD := hid hd
  have HF := hid hF
  clear h ho hd hF
  go_enter Try.func19, Try.ntmps19
  go_wp2_with fail
  go_loopw [4] (fun i wr => ∃ k : Nat, k ≤ ts.length ∧ i = .int .i64 k ∧ Hid (RunTo w wr F g ((ts.take k).foldl Po.step s))) (fun i _ => ts.length - (RowKit.intOf i).toNat)
  case atStart => exact ⟨0, by omega, rfl, H0⟩
  case round =>
    clear H0
    obtain ⟨k, hk, rfl, hS⟩ := hrel
    by_cases hlt : k < ts.length
    · have hbel := hS.out.bel hB HF.out
      obtain ⟨b, off, rfl, hbB, hc⟩ := (HO.out.below hbel).cells k hlt
      obtain ⟨ap, cp, c0, c1, c2, c3, hp, _, hcp, _, hia, hib⟩ := hc k hlt
      obtain ⟨F1, hP1, hS1⟩ := hS.out
      have hk0 : (k : Int) < (ts.length : Int) := by omega
      have hF1 : ∀ k, F1 k → B ≤ k := fun k hk => (hS1.new k hk).elim (HF.out k) (fun e => Nat.le_trans hB e)
      have hBr : B ≤ wr.heap.size := Nat.le_trans hB hbel.size
      have hdk : ts[k].d.length ≤ 1024 := HD.out _ (List.getElem_mem hlt)
      obtain ⟨sk, hsk⟩ : ∃ sk, sk = (ts.take k).foldl Po.step s := ⟨_, rfl⟩
      have HK : Hid ((ts.take (k + 1)).foldl Po.step s = Po.step sk ts[k]) := by rw [hsk]; exact take_step ts s k hlt
      rw [← hsk] at hP1
      obtain ⟨t, ht⟩ : ∃ t, t = ts[k] := ⟨_, rfl⟩
      rw [← ht] at c0 c1 c2 c3 hp hia hib hdk HK
      obtain ⟨w1, hw1⟩ : ∃ w1, w1 = wr.alloc (.cells #[.int .i64 t.kind, .int .i64 t.a, .int .i64 t.b, .slice ap t.d.length cp] 36) := ⟨_, rfl⟩
      have hb1 : Below wr.heap.size wr w1 := by rw [hw1]; exact (Below.refl _ wr).alloc (Nat.le_refl _) _
      have hP := hP1.below hb1
      have hS1' : Step F F1 w w1 := hS1.trans (Step.ofBelow F1 hb1)
      have hp1 : ∀ w', Turned F1 w1 w' → IsBytes w' w'.heap.size ap t.d := fun w' ht => (hp.below ((hb1.mono hBr).trans (ht.below (Nat.le_trans hBr hb1.size) hF1))).more (Nat.le_trans hBr (Nat.le_trans hb1.size ht.size))
      clear hc hbB hP1 hS1 hp hsk ht hF1 hBr hS hbel
      by_cases k0 : t.kind = 0
      · have HE : Hid (Po.step sk t = Po.sendS sk ⟨t.a, t.b, t.d⟩) := hid (by unfold Po.step; rw [if_pos k0])
        have HC := hid (send_any F1 g sk ap cp ⟨t.a, t.b, t.d⟩ hdk w1 hP hp1 hcp)
        have H1 := hid hS1'
        rw [k0] at c0
        rw [hw1, k0] at HC H1
        clear hP hS1' hp1 hw1 hb1 hia hib hcp k0
        go_wp2_with fail
        refine HC.out.mono ?_
        rintro e w5 ⟨rfl, hR⟩
        have HR : Hid (RunTo w w5 F g ((ts.take (k + 1)).foldl Po.step s)) := by rw [HK.out, HE.out]; obtain ⟨F5, h5, h6⟩ := hR; exact ⟨F5, h5, H1.out.trans h6⟩
        clear hR HC c0 c1 c2 c3
        go_wp2_with fail
        go_roundw
        case rel => exact ⟨k + 1, by omega, by go_num, HR⟩
        case measure => simp [RowKit.intOf]; omega
      by_cases k1 : t.kind = 1
      · have HE : Hid (Po.step sk t = Po.takeS sk t.a) := hid (by unfold Po.step; rw [if_neg k0, if_pos k1])
        have HC := hid (take_W F1 g sk t.a w1 hP)
        have H1 := hid hS1'
        rw [k1] at c0
        rw [hw1, k1] at HC H1
        clear hP hS1' hp1 hw1 hb1 hia hib hcp k1 k0
        go_wp2_with fail
        refine HC.out.mono ?_
        rintro e w5 ⟨⟨p, q, rfl⟩, hR⟩
        have HR : Hid (RunTo w w5 F g ((ts.take (k + 1)).foldl Po.step s)) := by rw [HK.out, HE.out]; obtain ⟨F5, h5, h6⟩ := hR; exact ⟨F5, h5, H1.out.trans h6⟩
        clear hR HC c0 c1 c2 c3
        go_wp2_with fail
        go_roundw
        case rel => exact ⟨k + 1, by omega, by go_num, HR⟩
        case measure => simp [RowKit.intOf]; omega
      by_cases k2 : t.kind = 2
      · have HE : Hid (Po.step sk t = Po.takeS sk t.a) := hid (by unfold Po.step; rw [if_neg k0, if_neg k1, if_pos k2])
        have HC := hid (lose_any F1 g sk t.a w1 hP)
        have H1 := hid hS1'
        rw [k2] at c0
        rw [hw1, k2] at HC H1
        clear hP hS1' hp1 hw1 hb1 hia hib hcp k2 k0 k1
        go_wp2_with fail
        refine HC.out.mono ?_
        rintro e w5 ⟨rfl, hR⟩
        have HR : Hid (RunTo w w5 F g ((ts.take (k + 1)).foldl Po.step s)) := by rw [HK.out, HE.out]; obtain ⟨F5, h5, h6⟩ := hR; exact ⟨F5, h5, H1.out.trans h6⟩
        clear hR HC c0 c1 c2 c3
        go_wp2_with fail
        go_roundw
        case rel => exact ⟨k + 1, by omega, by go_num, HR⟩
        case measure => simp [RowKit.intOf]; omega
      by_cases k3 : t.kind = 3
      · have HE : Hid (Po.step sk t = Po.dblS sk t.a) := hid (by unfold Po.step; rw [if_neg k0, if_neg k1, if_neg k2, if_pos k3])
        have HC := hid (double_any F1 g sk t.a w1 hP)
        have H1 := hid hS1'
        rw [k3] at c0
        rw [hw1, k3] at HC H1
        clear hP hS1' hp1 hw1 hb1 hia hib hcp k3 k0 k1 k2
        go_wp2_with fail
        refine HC.out.mono ?_
        rintro e w5 ⟨rfl, hR⟩
        have HR : Hid (RunTo w w5 F g ((ts.take (k + 1)).foldl Po.step s)) := by rw [HK.out, HE.out]; obtain ⟨F5, h5, h6⟩ := hR; exact ⟨F5, h5, H1.out.trans h6⟩
        clear hR HC c0 c1 c2 c3
        go_wp2_with fail
        go_roundw
        case rel => exact ⟨k + 1, by omega, by go_num, HR⟩
        case measure => simp [RowKit.intOf]; omega
      by_cases k4 : t.kind = 4
      · have HE : Hid (Po.step sk t = Po.turnS sk t.a t.b) := hid (by unfold Po.step; rw [if_neg k0, if_neg k1, if_neg k2, if_neg k3, if_pos k4])
        have HC := hid (turn_any F1 g sk t.a t.b hib w1 hP)
        have H1 := hid hS1'
        rw [k4] at c0
        rw [hw1, k4] at HC H1
        clear hP hS1' hp1 hw1 hb1 hia hib hcp k4 k0 k1 k2 k3
        go_wp2_with fail
        refine HC.out.mono ?_
        rintro e w5 ⟨rfl, hR⟩
        have HR : Hid (RunTo w w5 F g ((ts.take (k + 1)).foldl Po.step s)) := by rw [HK.out, HE.out]; obtain ⟨F5, h5, h6⟩ := hR; exact ⟨F5, h5, H1.out.trans h6⟩
        clear hR HC c0 c1 c2 c3
        go_wp2_with fail
        go_roundw
        case rel => exact ⟨k + 1, by omega, by go_num, HR⟩
        case measure => simp [RowKit.intOf]; omega
      by_cases k5 : t.kind = 5
      · have HE : Hid (Po.step sk t = Po.cutS sk t.a t.b) := hid (by unfold Po.step; rw [if_neg k0, if_neg k1, if_neg k2, if_neg k3, if_neg k4, if_pos k5])
        have HC := hid (cut_any F1 g sk t.a t.b w1 hP)
        have H1 := hid hS1'
        rw [k5] at c0
        rw [hw1, k5] at HC H1
        clear hP hS1' hp1 hw1 hb1 hia hib hcp k5 k0 k1 k2 k3 k4
        go_wp2_with fail
        refine HC.out.mono ?_
        rintro e w5 ⟨rfl, hR⟩
        have HR : Hid (RunTo w w5 F g ((ts.take (k + 1)).foldl Po.step s)) := by rw [HK.out, HE.out]; obtain ⟨F5, h5, h6⟩ := hR; exact ⟨F5, h5, H1.out.trans h6⟩
        clear hR HC c0 c1 c2 c3
        go_wp2_with fail
        go_roundw
        case rel => exact ⟨k + 1, by omega, by go_num, HR⟩
        case measure => simp [RowKit.intOf]; omega
      by_cases k6 : t.kind = 6
      · have HE : Hid (Po.step sk t = Po.joinS sk t.a t.b) := hid (by unfold Po.step; rw [if_neg k0, if_neg k1, if_neg k2, if_neg k3, if_neg k4, if_neg k5, if_pos k6])
        have HC := hid (join_any F1 g sk t.a t.b w1 hP)
        have H1 := hid hS1'
        rw [k6] at c0
        rw [hw1, k6] at HC H1
        clear hP hS1' hp1 hw1 hb1 hia hib hcp k6 k0 k1 k2 k3 k4 k5
        go_wp2_with fail
        refine HC.out.mono ?_
        rintro e w5 ⟨rfl, hR⟩
        have HR : Hid (RunTo w w5 F g ((ts.take (k + 1)).foldl Po.step s)) := by rw [HK.out, HE.out]; obtain ⟨F5, h5, h6⟩ := hR; exact ⟨F5, h5, H1.out.trans h6⟩
        clear hR HC c0 c1 c2 c3
        go_wp2_with fail
        go_roundw
        case rel => exact ⟨k + 1, by omega, by go_num, HR⟩
        case measure => simp [RowKit.intOf]; omega
      have HE : Hid (Po.step sk t = sk) := hid (by unfold Po.step; rw [if_neg k0, if_neg k1, if_neg k2, if_neg k3, if_neg k4, if_neg k5, if_neg k6])
      have HR : Hid (RunTo w w1 F g ((ts.take (k + 1)).foldl Po.step s)) := by rw [HK.out, HE.out]; exact ⟨F1, hP, hS1'⟩
      rw [hw1] at HR
      clear hP hS1' hp1 hw1 hb1 hia hib hcp
      go_wp2_with fail
      go_roundw
      case rel => exact ⟨k + 1, by omega, by go_num, HR⟩
      case measure => simp [RowKit.intOf]; omega
    · obtain rfl : k = ts.length := by omega
      have HR : Hid (RunTo w wr F g (ts.foldl Po.step s)) := by have := hS.out; rw [List.take_length] at this; exact this
      clear hS
      go_wp2_with fail
      go_end0
      exact ⟨rfl, HR.out⟩
end Go.Proofs.Ytckfjkhjnpkobaa
