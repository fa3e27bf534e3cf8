/- Texts of the proof, one behind the other: Rf8E. -/
import Derived.Test.YtdgijnolpjaheaaGreatPartAU
namespace Go.Proofs.YtdgijnolpjaheaaGreat
open Go.RowKit

/-- what the document's Save does -/
def RefSaved (Z : Nat → Prop) (g : Nat) (s : Sx.St) (f n : Nat) (e : Int) (p : List Nat) (w : World) (e' : Ending) (w' : World) : Prop :=
  ∃ x', e' = .returned (.int .i64 (Ck.save false s (Ck.slot f n e) e p).1) ∧ Hid (RefAt w' Z g x' ∧ Sx.Rel (Ck.save false s (Ck.slot f n e) e p).2 x' ∧ Turned (fun k => k = g) w w')
theorem RowsB.item {w : World} {B0 B1 n c : Nat} {A : Option Addr} {L : List (List Nat)} (h : RowsB w B0 B1 (.slice A n c) L) {i : Nat} (hi : i < L.length) : ∃ g A' c', A = some ⟨g, 0, none⟩ ∧ B1 ≤ g ∧ w.cell? ⟨g, i, none⟩ = some (.slice A' L[i].length c') ∧ Elm w B0 B1 A' c' L[i] := by
  obtain ⟨vs, h1, h2⟩ := h.row
  obtain ⟨A', c', h3, h4⟩ := h2 i hi
  rcases h1.2 with ⟨_, h0⟩ | ⟨g, cap, cur, hv, hB, _⟩
  · omega
  · have hA : A = some ⟨g, 0, none⟩ := by injection hv
    have hn : n = L.length := by injection hv
    subst hA
    subst hn
    exact ⟨g, A', c', rfl, hB, by rw [h1.cellAt i (by omega), h3], h4⟩
namespace C
theorem refWrite_N (Z : Nat → Prop) (g : Nat) (s : Sx.St) (x : Sx.Xs) (hr : Sx.Rel s x) (i : Int) (A : Option Addr) (c : Nat) (l : List Nat) (n : Nat) (hn : l.length = n) (w : World) (hZ : ∀ k, Z k → k < w.heap.size) (h : RefAt w Z g x)
    (hin : ∀ w', Turned (fun k => k = g) w w' → IsBytes w' w'.heap.size A l) :
    Calls Tryz.prog 32 #[.pointer (some ⟨g, 0, none⟩), .int .i64 i, .slice A n c] w fun e w' => e = .returned (.int .i64 (Sx.wrE s i l)) ∧ Hid (∃ x', RefAt w' Z g x' ∧ Sx.Rel (Sx.wrS s i l) x' ∧ Turned (fun k => k = g) w w') := by
  obtain ⟨h1, h2⟩ := Sx.rel_write hr i l
  rw [h1]
  exact (refWrite_any Z g x i A c l n hn w hZ h hin).mono fun _ _ ⟨h3, h4, h5⟩ => ⟨h3, _, h4, h2, h5⟩
theorem refPiece_N (e z : Int) (he : InInt e) (hz : InInt z) (k : Nat) (K : Int) (hK : K = (k : Int)) (hk : k ≤ 1000000) (b : Bool) (A : Option Addr) (c : Nat) (p : List Nat) (n : Nat) (hn : p.length = n) (hn2 : n ≤ 100000) (hz0 : A = none → c = 0) (w : World) (h : IsBytes w w.heap.size A p) (q : List Nat) (hq : Jo.head e z (Jo.mark k b) ++ p = q) :
    Calls Tryz.prog 56 #[.int .i64 e, .int .i64 z, .int .i64 K, .bool b, .slice A n c] w fun e' w' => ∃ A' c', e' = .returned (.slice A' (24 + n) c') ∧ Hid (OwnsB 5 w' w.heap.size A' c' q ∧ Below w.heap.size w w') := by
  subst hK
  subst hq
  exact refPiece_any e z he hz k hk b A c p n hn hn2 hz0 w h
theorem refFlush_N (Z : Nat → Prop) (g : Nat) (s : Sx.St) (x : Sx.Xs) (hr : Sx.Rel s x) (w : World) (hZ : ∀ k, Z k → k < w.heap.size) (h : RefAt w Z g x) :
    Calls Tryz.prog 34 #[.pointer (some ⟨g, 0, none⟩)] w fun e w' => e = .returned (.int .i64 (Sx.spE s)) ∧ Hid (∃ x', RefAt w' Z g x' ∧ Sx.Rel (Sx.flS s) x' ∧ Turned (fun k => k = g) w w') := by
  obtain ⟨h1, h2⟩ := Sx.rel_flush hr
  rw [h1]
  exact (refFlush_any Z g x w hZ h).mono fun _ _ ⟨h3, h4, h5⟩ => ⟨h3, _, h4, h2, h5⟩
set_option maxRecDepth 100000 in
theorem refSave_wrong (Z : Nat → Prop) (g : Nat) (x : Sx.Xs) (f n e : Int) (hf : InInt f) (A : Option Addr) (m c : Nat) (hr : ¬ (Ck.Right x.n f n ∧ Ck.Epoch e)) (w : World) (h : RefAt w Z g x) :
    Calls Tryz.prog 24 #[.pointer (some ⟨g, 0, none⟩), .int .i64 f, .int .i64 n, .int .i64 e, .slice A m c] w fun e' w' => e' = .returned (.int .i64 3) ∧ w' = w := by
  have HV := hid (refMay_any Z g x f n hf w h)
  by_cases h1 : Ck.Right x.n f n
  · rw [decide_eq_true h1] at HV
    by_cases h2 : e < 1
    · clear h hr h1
      go_enter Tryz.func24, Tryz.ntmps24
      go_wp2_with fail
      refine HV.out.mono ?_
      rintro e1 w1 ⟨rfl, rfl⟩
      go_wp2
      go_ret
      exact ⟨rfl, rfl⟩
    · have h3 : 1099511627776 < e := by
        by_cases h4 : 1099511627776 < e
        · exact h4
        · exact absurd ⟨h1, by omega, by omega⟩ hr
      clear h hr h1
      go_enter Tryz.func24, Tryz.ntmps24
      go_wp2_with fail
      refine HV.out.mono ?_
      rintro e1 w1 ⟨rfl, rfl⟩
      go_wp2
      go_ret
      exact ⟨rfl, rfl⟩
  · rw [decide_eq_false h1] at HV
    clear h hr h1
    go_enter Tryz.func24, Tryz.ntmps24
    go_wp2_with fail
    refine HV.out.mono ?_
    rintro e1 w1 ⟨rfl, rfl⟩
    go_wp2
    go_ret
    exact ⟨rfl, rfl⟩
set_option maxRecDepth 100000 in
theorem refSave_long (Z : Nat → Prop) (g : Nat) (x : Sx.Xs) (f : Int) (n : Nat) (e : Int) (hf : InInt f) (A : Option Addr) (c : Nat) (p : List Nat) (m : Nat) (hm : p.length = m) (hc : m ≤ c) (hcm : c ≤ maxLen) (hz : A = none → c = 0) (hm2 : m ≤ 100000) (hr : Ck.Right x.n f n) (he : Ck.Epoch e) (hl : n < Jo.secs m) (w : World) (h : RefAt w Z g x) (hp : IsBytes w w.heap.size A p) :
    Calls Tryz.prog 24 #[.pointer (some ⟨g, 0, none⟩), .int .i64 f, .int .i64 (n : Int), .int .i64 e, .slice A m c] w fun e' w' => e' = .returned (.int .i64 2) ∧ Hid (Below w.heap.size w w') := by
  have HV := hid (refMay_any Z g x f n hf w h)
  rw [decide_eq_true hr] at HV
  have HC := hid (cut_any A c p m hm hc hcm hz hm2 w.heap.size w (Nat.le_refl _) hp)
  have hl0 : (n : Int) < ((Jo.secs m : Nat) : Int) := by omega
  obtain ⟨he1, he2⟩ := he
  clear h hr hp
  go_enter Tryz.func24, Tryz.ntmps24
  go_wp2_with fail
  refine HV.out.mono ?_
  rintro e1 w1 ⟨rfl, rfl⟩
  go_wp2_with fail
  refine HC.out.mono ?_
  rintro e2 w2 ⟨A2, c2, rfl, H2⟩
  go_wp2
  go_ret
  exact ⟨rfl, H2.out.2⟩
set_option maxRecDepth 100000 in
set_option maxHeartbeats 4000000 in
theorem refSave_any (Z : Nat → Prop) (g : Nat) (s : Sx.St) (x : Sx.Xs) (hrel : Sx.Rel s x) (f n : Nat) (e : Int) (hr : Ck.Right x.n f n) (he : Ck.Epoch e) (B0 : Nat) (A : Option Addr) (c : Nat) (p : List Nat) (m : Nat) (hm : p.length = m) (hc : m ≤ c) (hcm : c ≤ maxLen) (hz : A = none → c = 0) (hl : Jo.secs m ≤ n) (hm5 : m ≤ 100000) (w : World) (hB0 : B0 ≤ g) (hZ : ∀ k, Z k → k < w.heap.size) (h : RefAt w Z g x) (hp : IsBytes w B0 A p) :
    Calls Tryz.prog 24 #[.pointer (some ⟨g, 0, none⟩), .int .i64 (f : Int), .int .i64 (n : Int), .int .i64 e, .slice A m c] w (RefSaved Z g s f n e p w) := by
  have hb := h.bound
  have hglt := h.lt
  have hfn : f + 2 * n ≤ x.n := by have := hr.2.2; omega
  have hsp := Jo.secs_pos m
  have hsx : Jo.secs m ≤ 3000 := by unfold Jo.secs; omega
  have hin : InInt e := by obtain ⟨h1, h2⟩ := he; unfold InInt; omega
  have HV := hid (refMay_any Z g x f n (by unfold InInt; omega) w h)
  rw [decide_eq_true hr] at HV
  have HC := hid (cut_any A c p m hm hc hcm hz hm5 B0 w (by omega) hp)
  obtain ⟨t1, t2, t3⟩ := Ck.secsOf_tail e p
  rw [hm] at t1 t3
  obtain ⟨en, hen⟩ := Int.eq_ofNat_of_zero_le (show 0 ≤ e by have := he.1; omega)
  obtain ⟨F, hF⟩ : ∃ F, F = Ck.slot f n e := ⟨_, rfl⟩
  have hFb : F ≤ 40000 ∧ (e % 2 = 1 ∧ (f : Int) + n = F ∨ e % 2 = 0 ∧ (f : Int) = F) := by
    rcases Ck.slot_cases f n e with ⟨h1, h2⟩ | ⟨h1, h2⟩ <;> rw [hF, h1] <;> omega
  have HX := hid (And.intro (And.intro hF (And.intro t1 t3)) (And.intro hrel (And.intro hZ (And.intro h (And.intro hm hin)))))
  have hg := h.lt
  have HF := hid hFb.2
  have hF4 := hFb.1
  obtain ⟨heo, heh⟩ := he
  have hl0 : ¬ (n : Int) < ((Jo.secs m : Nat) : Int) := by omega
  clear t1 t2 t3 hr hF hFb hrel hZ h hm hz hp hin
  subst hen
  have hl0n : ¬ n < Jo.secs m := by omega
  have hen1 : ¬ (en : Int) < 1 := by omega
  have hen2 : ¬ (1099511627776 : Int) < (en : Int) := by omega
  rcases HF.out with ⟨hpar, hFe⟩ | ⟨hpar, hFe⟩
  · have hpb : ((en : Int) % 2 == 1) = true := by rw [beq_iff_eq]; exact hpar
    clear hpar
    obtain ⟨T, hT⟩ : ∃ T, T = (Jo.secsOf (en : Int) 0 p).tail := ⟨_, rfl⟩
    have HT : Hid (T = (Jo.secsOf (en : Int) 0 p).tail ∧ T.length = Jo.secs m - 1 ∧ ∀ i (hi : i < T.length), T[i] = Jo.sec (en : Int) 0 p (i + 1)) := hid ⟨hT, by rw [hT]; exact HX.out.1.2.1, fun i hi => by
      have h1 := HX.out.1.2.2 i (by rw [hT, HX.out.1.2.1] at hi; omega)
      rw [← hT, List.getD_eq_getElem?_getD, List.getElem?_eq_getElem hi] at h1
      exact h1⟩
    clear hT
    go_enter Tryz.func24, Tryz.ntmps24
    go_wp2_with fail
    refine HV.out.mono ?_
    rintro e1 w1 ⟨rfl, rfl⟩
    go_wp2_with fail
    refine HC.out.mono ?_
    rintro e2 w2 ⟨A2, c2, rfl, H2⟩
    have HZ2 : Hid (∀ k, Z k → k < w2.heap.size) := hid (fun k hk => Nat.lt_of_lt_of_le (HX.out.2.2.1 k hk) H2.out.2.size)
    have HBB : Hid (∀ k, k = g → B0 ≤ k ∧ k < w1.heap.size) := hid (fun k hk => by subst hk; exact ⟨hB0, hg⟩)
    have HB1 : Hid (B0 ≤ w1.heap.size) := hid (by omega)
    go_wp2_with fail
    go_loopw [13] (fun i wr => ∃ j : Nat, j + 1 ≤ Jo.secs m ∧ i = .int .i64 ((j : Int) + 1) ∧ Hid ((∃ xk, RefAt wr Z g xk ∧ Sx.Rel (Jo.wrL s (F + 1) (T.take j)) xk ∧ Jo.okL s (F + 1) (T.take j)) ∧ Turned (fun k => k = g) w2 wr ∧ RowsB wr B0 w1.heap.size (.slice A2 (Jo.secs m) c2) (Ck.pieces p))) (fun i _ => (Jo.secs m - RowKit.intOf i).toNat)
    case atStart => exact ⟨0, by omega, by go_num, hid ⟨⟨x, HX.out.2.2.2.1.below H2.out.2, HX.out.2.1, trivial⟩, Turned.refl _ _, H2.out.1⟩⟩
    case round =>
      obtain ⟨j, hj, rfl, HI⟩ := hrel
      have HZr : Hid (∀ k, Z k → k < wr.heap.size) := hid (fun k hk => Nat.lt_of_lt_of_le (HZ2.out k hk) HI.out.2.1.size)
      have HB0r : Hid (B0 ≤ wr.heap.size ∧ g < wr.heap.size) := hid (by have h1 := H2.out.2.size; have h2 := HI.out.2.1.size; have h3 := HB1.out; omega)
      have HPL : Hid ((Ck.pieces p).length = Jo.secs m) := hid (by rw [Ck.pieces_length, HX.out.2.2.2.2.1])
      by_cases hlt : j + 1 < Jo.secs m
      · have hlti : (j : Int) + 1 < ((Jo.secs m : Nat) : Int) := by omega
        have hjT : j < T.length := by rw [HT.out.2.1]; omega
        obtain ⟨b, A3, c3, rfl, hbB, hcell, hel⟩ := HI.out.2.2.item (i := j + 1) (by rw [HPL.out]; exact hlt)
        rw [Ck.pieces_get] at hcell hel
        have hpb3 := hel.reads HB0r.out.1
        obtain ⟨pl, hpl⟩ : ∃ pl, pl = (Jo.piece p (j + 1)).length := ⟨_, rfl⟩
        rw [← hpl] at hcell
        have hpl40 : pl ≤ 40 := by rw [hpl, Jo.piece_length]; omega
        have hz3 : A3 = none → c3 = 0 := hel.1
        have hdec : ((j : Int) + 1 == ((Jo.secs m : Nat) : Int) - 1) = Jo.lastAt p (j + 1) := by
          unfold Jo.lastAt
          rw [HX.out.2.2.2.2.1, Bool.eq_iff_iff]
          simp only [beq_iff_eq, decide_eq_true_eq]
          omega
        have HD := hid hdec
        have HP := hid (refPiece_N (en : Int) 0 HX.out.2.2.2.2.2 (by unfold InInt; omega) (j + 1) ((j : Int) + 1) (by omega) (by omega) (Jo.lastAt p (j + 1)) A3 c3 (Jo.piece p (j + 1)) pl hpl.symm (by omega) hz3 wr hpb3 T[j] (by rw [HT.out.2.2 j hjT]; rfl))
        have HLN : Hid (T[j].length = 24 + pl) := hid (by rw [HT.out.2.2 j hjT, Jo.sec_length, ← hpl])
        have htk : T.take (j + 1) = T.take j ++ [T[j]] := List.take_succ_eq_append_getElem hjT
        have hlen : (T.take j).length = j := by rw [List.length_take]; omega
        have HTK := hid (And.intro htk hlen)
        clear hpl hdec hpb3 hel hz3 htk hlen
        go_wp2_with fail
        rw [HD.out]
        refine HP.out.mono ?_
        rintro e4 w4 ⟨A4, c4, rfl, H4⟩
        obtain ⟨xk, hxk, hrk, hok⟩ := HI.out.1
        have HW := hid (refWrite_N Z g (Jo.wrL s (F + 1) (T.take j)) xk hrk ((F : Int) + ((j : Int) + 1)) A4 c4 T[j] (24 + pl) HLN.out w4 (fun k hk => Nat.lt_of_lt_of_le (HZr.out k hk) H4.out.2.size) (hxk.below H4.out.2) (fun w' ht => own_turned H4.out.1 (fun k hk => by have h1 := HB0r.out.2; omega) ht))
        obtain ⟨E, hE⟩ : ∃ E, E = Sx.wrE (Jo.wrL s (F + 1) (T.take j)) ((F : Int) + ((j : Int) + 1)) T[j] := ⟨_, rfl⟩
        rw [← hE] at HW
        have HS : Hid ((E = 0 → Jo.okL s (F + 1) (T.take (j + 1))) ∧ Jo.wrL s (F + 1) (T.take (j + 1)) = Sx.wrS (Jo.wrL s (F + 1) (T.take j)) ((F : Int) + ((j : Int) + 1)) T[j] ∧ (E ≠ 0 → Ck.save false s F (en : Int) p = (E, Sx.wrS (Jo.wrL s (F + 1) (T.take j)) ((F : Int) + ((j : Int) + 1)) T[j]))) := by
          have hi : ((F + 1 + j : Nat) : Int) = (F : Int) + ((j : Int) + 1) := by omega
          refine hid ⟨fun h0 => ?_, ?_, fun h0 => ?_⟩
          · rw [HTK.out.1, Jo.okL_snoc, HTK.out.2, hi, ← hE]
            exact ⟨hok, h0⟩
          · rw [HTK.out.1, Jo.wrL_snoc, HTK.out.2, hi]
          · have h1 : 1 < Jo.secs p.length := by rw [HX.out.2.2.2.2.1]; omega
            have hT := HT.out.1
            subst hT
            rw [hE]
            exact Ck.save_loop h1 j hjT hok (by rw [← hE]; exact h0)
        have HT4 := hid (And.intro (HI.out.2.1.trans (Turned.ofBelow _ H4.out.2)) (HI.out.2.2.below H4.out.2 HB0r.out.1))
        clear hE hxk hrk hok HI HTK
        go_wp2_with fail
        refine HW.out.mono ?_
        rintro e5 w5 ⟨rfl, H5⟩
        obtain ⟨x5, hx5, hr5, ht5⟩ := H5.out
        by_cases hE0 : E = 0
        · subst hE0
          have H6 : Hid ((∃ xk, RefAt w5 Z g xk ∧ Sx.Rel (Jo.wrL s (F + 1) (T.take (j + 1))) xk ∧ Jo.okL s (F + 1) (T.take (j + 1))) ∧ Turned (fun k => k = g) w2 w5 ∧ RowsB w5 B0 w1.heap.size (.slice (some ⟨b, 0, none⟩) (Jo.secs m) c2) (Ck.pieces p)) := hid ⟨⟨x5, hx5, by rw [HS.out.2.1]; exact hr5, HS.out.1 rfl⟩, HT4.out.1.trans ht5, HT4.out.2.keep ht5 HBB.out (Nat.le_trans HB0r.out.1 H4.out.2.size)⟩
          clear hx5 hr5 ht5 HS
          go_wp2
          go_roundw
          case rel => exact ⟨j + 1, by omega, by go_num, H6⟩
          case measure => simp [RowKit.intOf]; omega
        · have hEb : (E != 0) = true := by rw [bne_iff_ne]; exact hE0
          have HQ := hid (HS.out.2.2 hE0)
          have H6 := hid (And.intro hx5 (And.intro hr5 ((Turned.ofBelow _ H2.out.2).trans (HT4.out.1.trans ht5))))
          clear hx5 hr5 ht5 HS hE0
          go_wp2
          go_ret
          refine ⟨x5, ?_, ?_⟩
          · rw [← HX.out.1.1, HQ.out]; rfl
          · rw [← HX.out.1.1, HQ.out]; exact hid H6.out
      · have hlti : ¬ (j : Int) + 1 < ((Jo.secs m : Nat) : Int) := by omega
        have hall : T.take j = T := List.take_of_length_le (by rw [HT.out.2.1]; omega)
        obtain ⟨xk, hxk, hrk, hok⟩ := HI.out.1
        rw [hall] at hrk hok
        have HK := hid (And.intro hxk (And.intro hrk hok))
        clear hxk hrk hok hall
        obtain ⟨b, A3, c3, rfl, hbB, hcell, hel⟩ := HI.out.2.2.item (i := 0) (by rw [HPL.out]; omega)
        rw [Ck.pieces_get] at hcell hel
        have hpb3 := hel.reads HB0r.out.1
        have HEL := hid hel
        obtain ⟨pl, hpl⟩ : ∃ pl, pl = (Jo.piece p 0).length := ⟨_, rfl⟩
        rw [← hpl] at hcell
        have hpl40 : pl ≤ 40 := by rw [hpl, Jo.piece_length]; omega
        have hz3 : A3 = none → c3 = 0 := hel.1
        have HQ3 := hid (And.intro hpl.symm (And.intro hz3 hpb3))
        clear hpl hz3 hpb3 hel
        by_cases hs1 : 1 < Jo.secs m
        · have hs1i : (1 : Int) < ((Jo.secs m : Nat) : Int) := by omega
          have hs2 : ((((Jo.secs m : Nat) : Int)) == 1) = false := by rw [beq_eq_false_iff_ne]; omega
          have HFL := hid (refFlush_N Z g (Jo.wrL s (F + 1) T) xk HK.out.2.1 wr HZr.out HK.out.1)
          have HSF : Hid (_ ∧ _) := hid (Ck.save_flush (s := s) (F := F) (e := (en : Int)) (p := p) (by rw [HX.out.2.2.2.2.1]; exact hs1) (by rw [← HT.out.1]; exact HK.out.2.2))
          rw [← HT.out.1] at HSF
          obtain ⟨E, hE⟩ : ∃ E, E = Sx.spE (Jo.wrL s (F + 1) T) := ⟨_, rfl⟩
          rw [← hE] at HFL HSF
          have hlast : Jo.lastAt p 0 = false := decide_eq_false (by rw [HX.out.2.2.2.2.1]; omega)
          have HLA := hid hlast
          clear hE hlast
          go_wp2_with fail
          refine HFL.out.mono ?_
          rintro e4 w4 ⟨rfl, H4⟩
          obtain ⟨x4, hx4, hr4, ht4⟩ := H4.out
          by_cases hE0 : E = 0
          · subst hE0
            have HEQ := hid (HSF.out.1 rfl)
            obtain ⟨S, hS⟩ : ∃ S, S = Sx.flS (Jo.wrL s (F + 1) T) := ⟨_, rfl⟩
            rw [← hS] at HEQ hr4
            have HR4 := hid (And.intro hx4 (And.intro hr4 ((Turned.ofBelow _ H2.out.2).trans (HI.out.2.1.trans ht4))))
            have hcell4 : w4.cell? ⟨b, 0, none⟩ = some (.slice A3 pl c3) := (ht4.cell (p := ⟨b, 0, none⟩) (World.block_lt_of_cell? _ _ hcell) (fun hk => by have h1 := (HBB.out _ hk).2; have h2 : w1.heap.size ≤ b := hbB; have h3 : b < w1.heap.size := h1; omega)).trans hcell
            have hpb4 : IsBytes w4 w4.heap.size A3 (Jo.piece p 0) := (HEL.out.keep ht4 HBB.out HB0r.out.1).reads (Nat.le_trans HB0r.out.1 ht4.size)
            have HP4 := hid hpb4
            have hgw4 : g < w4.heap.size := Nat.lt_of_lt_of_le HB0r.out.2 ht4.size
            have HZ4 : Hid (∀ k, Z k → k < w4.heap.size) := hid (fun k hk => Nat.lt_of_lt_of_le (HZr.out k hk) ht4.size)
            clear hx4 hr4 ht4 hS hpb4 hcell HSF
            go_wp2_with fail
            refine (refPiece_N (en : Int) 0 HX.out.2.2.2.2.2 (by unfold InInt; omega) 0 0 rfl (by omega) false A3 c3 (Jo.piece p 0) pl HQ3.out.1 (by omega) HQ3.out.2.1 w4 HP4.out (Jo.sec (en : Int) 0 p 0) (by unfold Jo.sec; rw [HLA.out])).mono ?_
            rintro e6 w6 ⟨A6, c6, rfl, H6⟩
            have HW := hid (refWrite_N Z g S x4 HR4.out.2.1 (F : Int) A6 c6 (Jo.sec (en : Int) 0 p 0) (24 + pl) (by rw [Jo.sec_length, HQ3.out.1]) w6 (fun k hk => Nat.lt_of_lt_of_le (HZ4.out k hk) H6.out.2.size) (HR4.out.1.below H6.out.2) (fun w' ht => own_turned H6.out.1 (fun k hk => by omega) ht))
            obtain ⟨E2, hE2⟩ : ∃ E2, E2 = Sx.wrE S (F : Int) (Jo.sec (en : Int) 0 p 0) := ⟨_, rfl⟩
            have HRUN := hid (Ck.run_one S F (Jo.sec (en : Int) 0 p 0))
            rw [← hE2] at HW HRUN
            clear hE2
            go_wp2_with fail
            refine HW.out.mono ?_
            rintro e7 w7 ⟨rfl, H7⟩
            obtain ⟨x7, hx7, hr7, ht7⟩ := H7.out
            have HT7 := hid ((HR4.out.2.2.trans (Turned.ofBelow _ H6.out.2)).trans ht7)
            have HX7 := hid (And.intro hx7 hr7)
            have HZ7 : Hid (∀ k, Z k → k < w7.heap.size) := hid (fun k hk => Nat.lt_of_lt_of_le (HZ4.out k hk) (Nat.le_trans H6.out.2.size ht7.size))
            clear hx7 hr7 ht7
            by_cases hE20 : E2 = 0
            · subst hE20
              have HRR := hid (HRUN.out.2 rfl)
              clear HRUN
              go_wp2_with fail
              refine (refFlush_N Z g (Sx.wrS S (F : Int) (Jo.sec (en : Int) 0 p 0)) x7 HX7.out.2 w7 HZ7.out HX7.out.1).mono ?_
              rintro e8 w8 ⟨rfl, H8⟩
              obtain ⟨x8, hx8, hr8, ht8⟩ := H8.out
              have HF8 := hid (And.intro hx8 (And.intro hr8 (HT7.out.trans ht8)))
              clear hx8 hr8 ht8
              go_wp2
              go_ret
              refine ⟨x8, ?_, ?_⟩
              · rw [← HX.out.1.1, HEQ.out, HRR.out]; rfl
              · rw [← HX.out.1.1, HEQ.out, HRR.out]; exact hid HF8.out
            · have hEb2 : (E2 != 0) = true := by rw [bne_iff_ne]; exact hE20
              have HRR := hid (HRUN.out.1 hE20)
              clear HRUN hE20
              go_wp2
              go_ret
              refine ⟨x7, ?_, ?_⟩
              · rw [← HX.out.1.1, HEQ.out, HRR.out]; rfl
              · rw [← HX.out.1.1, HEQ.out, HRR.out]; exact hid ⟨HX7.out.1, HX7.out.2, HT7.out⟩
          · have hEb : (E != 0) = true := by rw [bne_iff_ne]; exact hE0
            have HEQ := hid (HSF.out.2 hE0)
            have HR4 := hid (And.intro hx4 (And.intro hr4 ((Turned.ofBelow _ H2.out.2).trans (HI.out.2.1.trans ht4))))
            clear hx4 hr4 ht4 HSF hE0
            go_wp2
            go_ret
            refine ⟨x4, ?_, ?_⟩
            · rw [← HX.out.1.1, HEQ.out]; rfl
            · rw [← HX.out.1.1, HEQ.out]; exact hid HR4.out
        · have hs1i : ¬ (1 : Int) < ((Jo.secs m : Nat) : Int) := by omega
          have hs2 : ((((Jo.secs m : Nat) : Int)) == 1) = true := by rw [beq_iff_eq]; omega
          have heq := Ck.save_one (s := s) (F := F) (e := (en : Int)) (p := p) (by rw [HX.out.2.2.2.2.1]; exact hs1)
          have hlast : Jo.lastAt p 0 = true := decide_eq_true (by rw [HX.out.2.2.2.2.1]; omega)
          have HLA := hid hlast
          have hT0 : T = [] := List.eq_nil_of_length_eq_zero (by rw [HT.out.2.1]; omega)
          have hrk := HK.out.2.1
          rw [hT0] at hrk
          obtain ⟨S, hS⟩ : ∃ S, S = s := ⟨_, rfl⟩
          have hrk' : Sx.Rel S xk := by rw [hS]; exact hrk
          have HEQ : Hid (Ck.save false s F (en : Int) p = Jo.run S F [Jo.sec (en : Int) 0 p 0]) := hid (by rw [hS]; exact heq)
          clear heq
          obtain ⟨w4, hw4⟩ : ∃ w4, w4 = wr := ⟨_, rfl⟩
          obtain ⟨x4, hx4'⟩ : ∃ x4, x4 = xk := ⟨_, rfl⟩
          have HR4 : Hid (RefAt w4 Z g x4 ∧ Sx.Rel S x4 ∧ Turned (fun k => k = g) w1 w4) := hid (by rw [hw4, hx4']; exact ⟨HK.out.1, hrk', (Turned.ofBelow _ H2.out.2).trans HI.out.2.1⟩)
          have hcell4 : w4.cell? ⟨b, 0, none⟩ = some (.slice A3 pl c3) := by rw [hw4]; exact hcell
          have HP4 : Hid (IsBytes w4 w4.heap.size A3 (Jo.piece p 0)) := hid (by rw [hw4]; exact HQ3.out.2.2)
          have hgw4 : g < w4.heap.size := by rw [hw4]; exact HB0r.out.2
          have HZ4 : Hid (∀ k, Z k → k < w4.heap.size) := by rw [hw4]; exact HZr
          rw [← hw4]
          clear hw4 hx4' hS hrk hrk' hT0 hlast hcell
          go_wp2_with fail
          refine (refPiece_N (en : Int) 0 HX.out.2.2.2.2.2 (by unfold InInt; omega) 0 0 rfl (by omega) true A3 c3 (Jo.piece p 0) pl HQ3.out.1 (by omega) HQ3.out.2.1 w4 HP4.out (Jo.sec (en : Int) 0 p 0) (by unfold Jo.sec; rw [HLA.out])).mono ?_
          rintro e6 w6 ⟨A6, c6, rfl, H6⟩
          have HW := hid (refWrite_N Z g S x4 HR4.out.2.1 (F : Int) A6 c6 (Jo.sec (en : Int) 0 p 0) (24 + pl) (by rw [Jo.sec_length, HQ3.out.1]) w6 (fun k hk => Nat.lt_of_lt_of_le (HZ4.out k hk) H6.out.2.size) (HR4.out.1.below H6.out.2) (fun w' ht => own_turned H6.out.1 (fun k hk => by omega) ht))
          obtain ⟨E2, hE2⟩ : ∃ E2, E2 = Sx.wrE S (F : Int) (Jo.sec (en : Int) 0 p 0) := ⟨_, rfl⟩
          have HRUN := hid (Ck.run_one S F (Jo.sec (en : Int) 0 p 0))
          rw [← hE2] at HW HRUN
          clear hE2
          go_wp2_with fail
          refine HW.out.mono ?_
          rintro e7 w7 ⟨rfl, H7⟩
          obtain ⟨x7, hx7, hr7, ht7⟩ := H7.out
          have HT7 := hid ((HR4.out.2.2.trans (Turned.ofBelow _ H6.out.2)).trans ht7)
          have HX7 := hid (And.intro hx7 hr7)
          have HZ7 : Hid (∀ k, Z k → k < w7.heap.size) := hid (fun k hk => Nat.lt_of_lt_of_le (HZ4.out k hk) (Nat.le_trans H6.out.2.size ht7.size))
          clear hx7 hr7 ht7
          by_cases hE20 : E2 = 0
          · subst hE20
            have HRR := hid (HRUN.out.2 rfl)
            clear HRUN
            go_wp2_with fail
            refine (refFlush_N Z g (Sx.wrS S (F : Int) (Jo.sec (en : Int) 0 p 0)) x7 HX7.out.2 w7 HZ7.out HX7.out.1).mono ?_
            rintro e8 w8 ⟨rfl, H8⟩
            obtain ⟨x8, hx8, hr8, ht8⟩ := H8.out
            have HF8 := hid (And.intro hx8 (And.intro hr8 (HT7.out.trans ht8)))
            clear hx8 hr8 ht8
            go_wp2
            go_ret
            refine ⟨x8, ?_, ?_⟩
            · rw [← HX.out.1.1, HEQ.out, HRR.out]; rfl
            · rw [← HX.out.1.1, HEQ.out, HRR.out]; exact hid HF8.out
          · have hEb2 : (E2 != 0) = true := by rw [bne_iff_ne]; exact hE20
            have HRR := hid (HRUN.out.1 hE20)
            clear HRUN hE20
            go_wp2
            go_ret
            refine ⟨x7, ?_, ?_⟩
            · rw [← HX.out.1.1, HEQ.out, HRR.out]; rfl
            · rw [← HX.out.1.1, HEQ.out, HRR.out]; exact hid ⟨HX7.out.1, HX7.out.2, HT7.out⟩
  · obtain rfl : f = F := by omega
    clear hFe
    have hpb : ((en : Int) % 2 == 1) = false := by rw [beq_eq_false_iff_ne]; omega
    clear hpar
    obtain ⟨T, hT⟩ : ∃ T, T = (Jo.secsOf (en : Int) 0 p).tail := ⟨_, rfl⟩
    have HT : Hid (T = (Jo.secsOf (en : Int) 0 p).tail ∧ T.length = Jo.secs m - 1 ∧ ∀ i (hi : i < T.length), T[i] = Jo.sec (en : Int) 0 p (i + 1)) := hid ⟨hT, by rw [hT]; exact HX.out.1.2.1, fun i hi => by
      have h1 := HX.out.1.2.2 i (by rw [hT, HX.out.1.2.1] at hi; omega)
      rw [← hT, List.getD_eq_getElem?_getD, List.getElem?_eq_getElem hi] at h1
      exact h1⟩
    clear hT
    go_enter Tryz.func24, Tryz.ntmps24
    go_wp2_with fail
    refine HV.out.mono ?_
    rintro e1 w1 ⟨rfl, rfl⟩
    go_wp2_with fail
    refine HC.out.mono ?_
    rintro e2 w2 ⟨A2, c2, rfl, H2⟩
    have HZ2 : Hid (∀ k, Z k → k < w2.heap.size) := hid (fun k hk => Nat.lt_of_lt_of_le (HX.out.2.2.1 k hk) H2.out.2.size)
    have HBB : Hid (∀ k, k = g → B0 ≤ k ∧ k < w1.heap.size) := hid (fun k hk => by subst hk; exact ⟨hB0, hg⟩)
    have HB1 : Hid (B0 ≤ w1.heap.size) := hid (by omega)
    go_wp2_with fail
    go_loopw [13] (fun i wr => ∃ j : Nat, j + 1 ≤ Jo.secs m ∧ i = .int .i64 ((j : Int) + 1) ∧ Hid ((∃ xk, RefAt wr Z g xk ∧ Sx.Rel (Jo.wrL s (f + 1) (T.take j)) xk ∧ Jo.okL s (f + 1) (T.take j)) ∧ Turned (fun k => k = g) w2 wr ∧ RowsB wr B0 w1.heap.size (.slice A2 (Jo.secs m) c2) (Ck.pieces p))) (fun i _ => (Jo.secs m - RowKit.intOf i).toNat)
    case atStart => exact ⟨0, by omega, by go_num, hid ⟨⟨x, HX.out.2.2.2.1.below H2.out.2, HX.out.2.1, trivial⟩, Turned.refl _ _, H2.out.1⟩⟩
    case round =>
      obtain ⟨j, hj, rfl, HI⟩ := hrel
      have HZr : Hid (∀ k, Z k → k < wr.heap.size) := hid (fun k hk => Nat.lt_of_lt_of_le (HZ2.out k hk) HI.out.2.1.size)
      have HB0r : Hid (B0 ≤ wr.heap.size ∧ g < wr.heap.size) := hid (by have h1 := H2.out.2.size; have h2 := HI.out.2.1.size; have h3 := HB1.out; omega)
      have HPL : Hid ((Ck.pieces p).length = Jo.secs m) := hid (by rw [Ck.pieces_length, HX.out.2.2.2.2.1])
      by_cases hlt : j + 1 < Jo.secs m
      · have hlti : (j : Int) + 1 < ((Jo.secs m : Nat) : Int) := by omega
        have hjT : j < T.length := by rw [HT.out.2.1]; omega
        obtain ⟨b, A3, c3, rfl, hbB, hcell, hel⟩ := HI.out.2.2.item (i := j + 1) (by rw [HPL.out]; exact hlt)
        rw [Ck.pieces_get] at hcell hel
        have hpb3 := hel.reads HB0r.out.1
        obtain ⟨pl, hpl⟩ : ∃ pl, pl = (Jo.piece p (j + 1)).length := ⟨_, rfl⟩
        rw [← hpl] at hcell
        have hpl40 : pl ≤ 40 := by rw [hpl, Jo.piece_length]; omega
        have hz3 : A3 = none → c3 = 0 := hel.1
        have hdec : ((j : Int) + 1 == ((Jo.secs m : Nat) : Int) - 1) = Jo.lastAt p (j + 1) := by
          unfold Jo.lastAt
          rw [HX.out.2.2.2.2.1, Bool.eq_iff_iff]
          simp only [beq_iff_eq, decide_eq_true_eq]
          omega
        have HD := hid hdec
        have HP := hid (refPiece_N (en : Int) 0 HX.out.2.2.2.2.2 (by unfold InInt; omega) (j + 1) ((j : Int) + 1) (by omega) (by omega) (Jo.lastAt p (j + 1)) A3 c3 (Jo.piece p (j + 1)) pl hpl.symm (by omega) hz3 wr hpb3 T[j] (by rw [HT.out.2.2 j hjT]; rfl))
        have HLN : Hid (T[j].length = 24 + pl) := hid (by rw [HT.out.2.2 j hjT, Jo.sec_length, ← hpl])
        have htk : T.take (j + 1) = T.take j ++ [T[j]] := List.take_succ_eq_append_getElem hjT
        have hlen : (T.take j).length = j := by rw [List.length_take]; omega
        have HTK := hid (And.intro htk hlen)
        clear hpl hdec hpb3 hel hz3 htk hlen
        go_wp2_with fail
        rw [HD.out]
        refine HP.out.mono ?_
        rintro e4 w4 ⟨A4, c4, rfl, H4⟩
        obtain ⟨xk, hxk, hrk, hok⟩ := HI.out.1
        have HW := hid (refWrite_N Z g (Jo.wrL s (f + 1) (T.take j)) xk hrk ((f : Int) + ((j : Int) + 1)) A4 c4 T[j] (24 + pl) HLN.out w4 (fun k hk => Nat.lt_of_lt_of_le (HZr.out k hk) H4.out.2.size) (hxk.below H4.out.2) (fun w' ht => own_turned H4.out.1 (fun k hk => by have h1 := HB0r.out.2; omega) ht))
        obtain ⟨E, hE⟩ : ∃ E, E = Sx.wrE (Jo.wrL s (f + 1) (T.take j)) ((f : Int) + ((j : Int) + 1)) T[j] := ⟨_, rfl⟩
        rw [← hE] at HW
        have HS : Hid ((E = 0 → Jo.okL s (f + 1) (T.take (j + 1))) ∧ Jo.wrL s (f + 1) (T.take (j + 1)) = Sx.wrS (Jo.wrL s (f + 1) (T.take j)) ((f : Int) + ((j : Int) + 1)) T[j] ∧ (E ≠ 0 → Ck.save false s f (en : Int) p = (E, Sx.wrS (Jo.wrL s (f + 1) (T.take j)) ((f : Int) + ((j : Int) + 1)) T[j]))) := by
          have hi : ((f + 1 + j : Nat) : Int) = (f : Int) + ((j : Int) + 1) := by omega
          refine hid ⟨fun h0 => ?_, ?_, fun h0 => ?_⟩
          · rw [HTK.out.1, Jo.okL_snoc, HTK.out.2, hi, ← hE]
            exact ⟨hok, h0⟩
          · rw [HTK.out.1, Jo.wrL_snoc, HTK.out.2, hi]
          · have h1 : 1 < Jo.secs p.length := by rw [HX.out.2.2.2.2.1]; omega
            have hT := HT.out.1
            subst hT
            rw [hE]
            exact Ck.save_loop h1 j hjT hok (by rw [← hE]; exact h0)
        have HT4 := hid (And.intro (HI.out.2.1.trans (Turned.ofBelow _ H4.out.2)) (HI.out.2.2.below H4.out.2 HB0r.out.1))
        clear hE hxk hrk hok HI HTK
        go_wp2_with fail
        refine HW.out.mono ?_
        rintro e5 w5 ⟨rfl, H5⟩
        obtain ⟨x5, hx5, hr5, ht5⟩ := H5.out
        by_cases hE0 : E = 0
        · subst hE0
          have H6 : Hid ((∃ xk, RefAt w5 Z g xk ∧ Sx.Rel (Jo.wrL s (f + 1) (T.take (j + 1))) xk ∧ Jo.okL s (f + 1) (T.take (j + 1))) ∧ Turned (fun k => k = g) w2 w5 ∧ RowsB w5 B0 w1.heap.size (.slice (some ⟨b, 0, none⟩) (Jo.secs m) c2) (Ck.pieces p)) := hid ⟨⟨x5, hx5, by rw [HS.out.2.1]; exact hr5, HS.out.1 rfl⟩, HT4.out.1.trans ht5, HT4.out.2.keep ht5 HBB.out (Nat.le_trans HB0r.out.1 H4.out.2.size)⟩
          clear hx5 hr5 ht5 HS
          go_wp2
          go_roundw
          case rel => exact ⟨j + 1, by omega, by go_num, H6⟩
          case measure => simp [RowKit.intOf]; omega
        · have hEb : (E != 0) = true := by rw [bne_iff_ne]; exact hE0
          have HQ := hid (HS.out.2.2 hE0)
          have H6 := hid (And.intro hx5 (And.intro hr5 ((Turned.ofBelow _ H2.out.2).trans (HT4.out.1.trans ht5))))
          clear hx5 hr5 ht5 HS hE0
          go_wp2
          go_ret
          refine ⟨x5, ?_, ?_⟩
          · rw [← HX.out.1.1, HQ.out]; rfl
          · rw [← HX.out.1.1, HQ.out]; exact hid H6.out
      · have hlti : ¬ (j : Int) + 1 < ((Jo.secs m : Nat) : Int) := by omega
        have hall : T.take j = T := List.take_of_length_le (by rw [HT.out.2.1]; omega)
        obtain ⟨xk, hxk, hrk, hok⟩ := HI.out.1
        rw [hall] at hrk hok
        have HK := hid (And.intro hxk (And.intro hrk hok))
        clear hxk hrk hok hall
        obtain ⟨b, A3, c3, rfl, hbB, hcell, hel⟩ := HI.out.2.2.item (i := 0) (by rw [HPL.out]; omega)
        rw [Ck.pieces_get] at hcell hel
        have hpb3 := hel.reads HB0r.out.1
        have HEL := hid hel
        obtain ⟨pl, hpl⟩ : ∃ pl, pl = (Jo.piece p 0).length := ⟨_, rfl⟩
        rw [← hpl] at hcell
        have hpl40 : pl ≤ 40 := by rw [hpl, Jo.piece_length]; omega
        have hz3 : A3 = none → c3 = 0 := hel.1
        have HQ3 := hid (And.intro hpl.symm (And.intro hz3 hpb3))
        clear hpl hz3 hpb3 hel
        by_cases hs1 : 1 < Jo.secs m
        · have hs1i : (1 : Int) < ((Jo.secs m : Nat) : Int) := by omega
          have hs2 : ((((Jo.secs m : Nat) : Int)) == 1) = false := by rw [beq_eq_false_iff_ne]; omega
          have HFL := hid (refFlush_N Z g (Jo.wrL s (f + 1) T) xk HK.out.2.1 wr HZr.out HK.out.1)
          have HSF : Hid (_ ∧ _) := hid (Ck.save_flush (s := s) (F := f) (e := (en : Int)) (p := p) (by rw [HX.out.2.2.2.2.1]; exact hs1) (by rw [← HT.out.1]; exact HK.out.2.2))
          rw [← HT.out.1] at HSF
          obtain ⟨E, hE⟩ : ∃ E, E = Sx.spE (Jo.wrL s (f + 1) T) := ⟨_, rfl⟩
          rw [← hE] at HFL HSF
          have hlast : Jo.lastAt p 0 = false := decide_eq_false (by rw [HX.out.2.2.2.2.1]; omega)
          have HLA := hid hlast
          clear hE hlast
          go_wp2_with fail
          refine HFL.out.mono ?_
          rintro e4 w4 ⟨rfl, H4⟩
          obtain ⟨x4, hx4, hr4, ht4⟩ := H4.out
          by_cases hE0 : E = 0
          · subst hE0
            have HEQ := hid (HSF.out.1 rfl)
            obtain ⟨S, hS⟩ : ∃ S, S = Sx.flS (Jo.wrL s (f + 1) T) := ⟨_, rfl⟩
            rw [← hS] at HEQ hr4
            have HR4 := hid (And.intro hx4 (And.intro hr4 ((Turned.ofBelow _ H2.out.2).trans (HI.out.2.1.trans ht4))))
            have hcell4 : w4.cell? ⟨b, 0, none⟩ = some (.slice A3 pl c3) := (ht4.cell (p := ⟨b, 0, none⟩) (World.block_lt_of_cell? _ _ hcell) (fun hk => by have h1 := (HBB.out _ hk).2; have h2 : w1.heap.size ≤ b := hbB; have h3 : b < w1.heap.size := h1; omega)).trans hcell
            have hpb4 : IsBytes w4 w4.heap.size A3 (Jo.piece p 0) := (HEL.out.keep ht4 HBB.out HB0r.out.1).reads (Nat.le_trans HB0r.out.1 ht4.size)
            have HP4 := hid hpb4
            have hgw4 : g < w4.heap.size := Nat.lt_of_lt_of_le HB0r.out.2 ht4.size
            have HZ4 : Hid (∀ k, Z k → k < w4.heap.size) := hid (fun k hk => Nat.lt_of_lt_of_le (HZr.out k hk) ht4.size)
            clear hx4 hr4 ht4 hS hpb4 hcell HSF
            go_wp2_with fail
            refine (refPiece_N (en : Int) 0 HX.out.2.2.2.2.2 (by unfold InInt; omega) 0 0 rfl (by omega) false A3 c3 (Jo.piece p 0) pl HQ3.out.1 (by omega) HQ3.out.2.1 w4 HP4.out (Jo.sec (en : Int) 0 p 0) (by unfold Jo.sec; rw [HLA.out])).mono ?_
            rintro e6 w6 ⟨A6, c6, rfl, H6⟩
            have HW := hid (refWrite_N Z g S x4 HR4.out.2.1 (f : Int) A6 c6 (Jo.sec (en : Int) 0 p 0) (24 + pl) (by rw [Jo.sec_length, HQ3.out.1]) w6 (fun k hk => Nat.lt_of_lt_of_le (HZ4.out k hk) H6.out.2.size) (HR4.out.1.below H6.out.2) (fun w' ht => own_turned H6.out.1 (fun k hk => by omega) ht))
            obtain ⟨E2, hE2⟩ : ∃ E2, E2 = Sx.wrE S (f : Int) (Jo.sec (en : Int) 0 p 0) := ⟨_, rfl⟩
            have HRUN := hid (Ck.run_one S f (Jo.sec (en : Int) 0 p 0))
            rw [← hE2] at HW HRUN
            clear hE2
            go_wp2_with fail
            refine HW.out.mono ?_
            rintro e7 w7 ⟨rfl, H7⟩
            obtain ⟨x7, hx7, hr7, ht7⟩ := H7.out
            have HT7 := hid ((HR4.out.2.2.trans (Turned.ofBelow _ H6.out.2)).trans ht7)
            have HX7 := hid (And.intro hx7 hr7)
            have HZ7 : Hid (∀ k, Z k → k < w7.heap.size) := hid (fun k hk => Nat.lt_of_lt_of_le (HZ4.out k hk) (Nat.le_trans H6.out.2.size ht7.size))
            clear hx7 hr7 ht7
            by_cases hE20 : E2 = 0
            · subst hE20
              have HRR := hid (HRUN.out.2 rfl)
              clear HRUN
              go_wp2_with fail
              refine (refFlush_N Z g (Sx.wrS S (f : Int) (Jo.sec (en : Int) 0 p 0)) x7 HX7.out.2 w7 HZ7.out HX7.out.1).mono ?_
              rintro e8 w8 ⟨rfl, H8⟩
              obtain ⟨x8, hx8, hr8, ht8⟩ := H8.out
              have HF8 := hid (And.intro hx8 (And.intro hr8 (HT7.out.trans ht8)))
              clear hx8 hr8 ht8
              go_wp2
              go_ret
              refine ⟨x8, ?_, ?_⟩
              · rw [← HX.out.1.1, HEQ.out, HRR.out]; rfl
              · rw [← HX.out.1.1, HEQ.out, HRR.out]; exact hid HF8.out
            · have hEb2 : (E2 != 0) = true := by rw [bne_iff_ne]; exact hE20
              have HRR := hid (HRUN.out.1 hE20)
              clear HRUN hE20
              go_wp2
              go_ret
              refine ⟨x7, ?_, ?_⟩
              · rw [← HX.out.1.1, HEQ.out, HRR.out]; rfl
              · rw [← HX.out.1.1, HEQ.out, HRR.out]; exact hid ⟨HX7.out.1, HX7.out.2, HT7.out⟩
          · have hEb : (E != 0) = true := by rw [bne_iff_ne]; exact hE0
            have HEQ := hid (HSF.out.2 hE0)
            have HR4 := hid (And.intro hx4 (And.intro hr4 ((Turned.ofBelow _ H2.out.2).trans (HI.out.2.1.trans ht4))))
            clear hx4 hr4 ht4 HSF hE0
            go_wp2
            go_ret
            refine ⟨x4, ?_, ?_⟩
            · rw [← HX.out.1.1, HEQ.out]; rfl
            · rw [← HX.out.1.1, HEQ.out]; exact hid HR4.out
        · have hs1i : ¬ (1 : Int) < ((Jo.secs m : Nat) : Int) := by omega
          have hs2 : ((((Jo.secs m : Nat) : Int)) == 1) = true := by rw [beq_iff_eq]; omega
          have heq := Ck.save_one (s := s) (F := f) (e := (en : Int)) (p := p) (by rw [HX.out.2.2.2.2.1]; exact hs1)
          have hlast : Jo.lastAt p 0 = true := decide_eq_true (by rw [HX.out.2.2.2.2.1]; omega)
          have HLA := hid hlast
          have hT0 : T = [] := List.eq_nil_of_length_eq_zero (by rw [HT.out.2.1]; omega)
          have hrk := HK.out.2.1
          rw [hT0] at hrk
          obtain ⟨S, hS⟩ : ∃ S, S = s := ⟨_, rfl⟩
          have hrk' : Sx.Rel S xk := by rw [hS]; exact hrk
          have HEQ : Hid (Ck.save false s f (en : Int) p = Jo.run S f [Jo.sec (en : Int) 0 p 0]) := hid (by rw [hS]; exact heq)
          clear heq
          obtain ⟨w4, hw4⟩ : ∃ w4, w4 = wr := ⟨_, rfl⟩
          obtain ⟨x4, hx4'⟩ : ∃ x4, x4 = xk := ⟨_, rfl⟩
          have HR4 : Hid (RefAt w4 Z g x4 ∧ Sx.Rel S x4 ∧ Turned (fun k => k = g) w1 w4) := hid (by rw [hw4, hx4']; exact ⟨HK.out.1, hrk', (Turned.ofBelow _ H2.out.2).trans HI.out.2.1⟩)
          have hcell4 : w4.cell? ⟨b, 0, none⟩ = some (.slice A3 pl c3) := by rw [hw4]; exact hcell
          have HP4 : Hid (IsBytes w4 w4.heap.size A3 (Jo.piece p 0)) := hid (by rw [hw4]; exact HQ3.out.2.2)
          have hgw4 : g < w4.heap.size := by rw [hw4]; exact HB0r.out.2
          have HZ4 : Hid (∀ k, Z k → k < w4.heap.size) := by rw [hw4]; exact HZr
          rw [← hw4]
          clear hw4 hx4' hS hrk hrk' hT0 hlast hcell
          go_wp2_with fail
          refine (refPiece_N (en : Int) 0 HX.out.2.2.2.2.2 (by unfold InInt; omega) 0 0 rfl (by omega) true A3 c3 (Jo.piece p 0) pl HQ3.out.1 (by omega) HQ3.out.2.1 w4 HP4.out (Jo.sec (en : Int) 0 p 0) (by unfold Jo.sec; rw [HLA.out])).mono ?_
          rintro e6 w6 ⟨A6, c6, rfl, H6⟩
          have HW := hid (refWrite_N Z g S x4 HR4.out.2.1 (f : Int) A6 c6 (Jo.sec (en : Int) 0 p 0) (24 + pl) (by rw [Jo.sec_length, HQ3.out.1]) w6 (fun k hk => Nat.lt_of_lt_of_le (HZ4.out k hk) H6.out.2.size) (HR4.out.1.below H6.out.2) (fun w' ht => own_turned H6.out.1 (fun k hk => by omega) ht))
          obtain ⟨E2, hE2⟩ : ∃ E2, E2 = Sx.wrE S (f : Int) (Jo.sec (en : Int) 0 p 0) := ⟨_, rfl⟩
          have HRUN := hid (Ck.run_one S f (Jo.sec (en : Int) 0 p 0))
          rw [← hE2] at HW HRUN
          clear hE2
          go_wp2_with fail
          refine HW.out.mono ?_
          rintro e7 w7 ⟨rfl, H7⟩
          obtain ⟨x7, hx7, hr7, ht7⟩ := H7.out
          have HT7 := hid ((HR4.out.2.2.trans (Turned.ofBelow _ H6.out.2)).trans ht7)
          have HX7 := hid (And.intro hx7 hr7)
          have HZ7 : Hid (∀ k, Z k → k < w7.heap.size) := hid (fun k hk => Nat.lt_of_lt_of_le (HZ4.out k hk) (Nat.le_trans H6.out.2.size ht7.size))
          clear hx7 hr7 ht7
          by_cases hE20 : E2 = 0
          · subst hE20
            have HRR := hid (HRUN.out.2 rfl)
            clear HRUN
            go_wp2_with fail
            refine (refFlush_N Z g (Sx.wrS S (f : Int) (Jo.sec (en : Int) 0 p 0)) x7 HX7.out.2 w7 HZ7.out HX7.out.1).mono ?_
            rintro e8 w8 ⟨rfl, H8⟩
            obtain ⟨x8, hx8, hr8, ht8⟩ := H8.out
            have HF8 := hid (And.intro hx8 (And.intro hr8 (HT7.out.trans ht8)))
            clear hx8 hr8 ht8
            go_wp2
            go_ret
            refine ⟨x8, ?_, ?_⟩
            · rw [← HX.out.1.1, HEQ.out, HRR.out]; rfl
            · rw [← HX.out.1.1, HEQ.out, HRR.out]; exact hid HF8.out
          · have hEb2 : (E2 != 0) = true := by rw [bne_iff_ne]; exact hE20
            have HRR := hid (HRUN.out.1 hE20)
            clear HRUN hE20
            go_wp2
            go_ret
            refine ⟨x7, ?_, ?_⟩
            · rw [← HX.out.1.1, HEQ.out, HRR.out]; rfl
            · rw [← HX.out.1.1, HEQ.out, HRR.out]; exact hid ⟨HX7.out.1, HX7.out.2, HT7.out⟩
end C
end Go.Proofs.YtdgijnolpjaheaaGreat
