/- The walk through Save. -/
import Derived.Test.YtdgijnolpjaheaaCkC
namespace Go.Proofs.Ytdgijnolpjaheaa
open Go.RowKit

def sliceAt : Option Value → Option Addr × Nat
  | some (.slice A _ c) => (A, c)
  | _ => (none, 0)
theorem part_rows {w : World} {Z S : Nat → Prop} {g m : Nat} {T : Nat → List Nat} (h : PartRows w Z g m m T) (hS : ∀ k, S k → Z k) (hg : ¬ Z g) (o : Nat) (L : List (List Nat)) (hL : ∀ i (hi : i < L.length), o + i < m ∧ L[i] = T (o + i)) : RowsFor w S (some ⟨g, o, none⟩) L := by
  obtain ⟨vs, h1, h2, h3⟩ := h.row
  refine ⟨fun i => (sliceAt vs[o + i]?).1, fun i => (sliceAt vs[o + i]?).2, fun w' ht i hi => ?_⟩
  obtain ⟨h4, h5⟩ := hL i hi
  obtain ⟨A, c, h6, h7⟩ := h3 (o + i) h4
  have h8 := h7.keep (ht.mono hS)
  have h9 : w'.heap[g]? = some (.cells vs 32 (0, 0)) := (ht.block g (row_lt h1) (fun e => hg (hS g e))).trans h1
  refine ⟨g, o, rfl, ?_, ?_, ?_⟩
  · show _ = some (Value.slice (sliceAt vs[o + i]?).1 L[i].length (sliceAt vs[o + i]?).2)
    rw [row_cell h9, h6, h5]; rfl
  · show (sliceAt vs[o + i]?).1 = none → (sliceAt vs[o + i]?).2 = 0
    rw [h6]; exact h8.own.none_
  · show IsBytes w' w'.heap.size (sliceAt vs[o + i]?).1 L[i]
    rw [h6, h5]; exact h8.reads
theorem RowsFor.empty {w : World} {S : Nat → Prop} {A : Option Addr} {T : List (List Nat)} (h : T.length = 0) : RowsFor w S A T := by
  rw [List.eq_nil_of_length_eq_zero h]; exact RowsFor.nil
namespace C
theorem save_single (s : Sx.St) (f : Nat) (e : Int) (p : List Nat) (h1 : ¬ 1 < Jo.secs p.length) : Ck.save false s f e p = Jo.run s f [Jo.sec e 0 p 0] := by
  unfold Ck.save
  exact if_neg (fun h => h.elim (fun h => by cases h) h1)
theorem save_eq (s : Sx.St) (f : Nat) (e : Int) (p : List Nat) (E : Int) (t : Sx.St) (h1 : 1 < Jo.secs p.length) (hE : E = (Jo.run s (f + 1) (Jo.secsOf e 0 p).tail).1) (ht : t = (Jo.run s (f + 1) (Jo.secsOf e 0 p).tail).2) :
    (E = 0 → Ck.save false s f e p = Jo.run t f [Jo.sec e 0 p 0]) ∧ (E ≠ 0 → Ck.save false s f e p = (E, t)) := by
  subst hE
  subst ht
  unfold Ck.save
  rw [if_pos (.inr h1)]
  exact ⟨fun h => if_pos h, fun h => by rw [if_neg h]⟩
theorem writes_N (Z : Nat → Prop) (d : Dk) (s : Sx.St) (f : Nat) (F : Int) (hF : F = (f : Int)) (hf : f ≤ 100000) (A : Option Addr) (c m : Nat) (T : List (List Nat)) (hm : T.length = m) (hm2 : m ≤ 100000) (w : World) (hZ : ∀ k, Z k → k < w.heap.size) (h : DiskAt w Z d s) (hT : RowsFor w d.has A T) :
    Calls Try.prog 34 #[.pointer (some ⟨d.g, 0, none⟩), .int .i64 F, .slice A m c] w fun e' w' => e' = .returned (.int .i64 (Jo.run s f T).1) ∧ Hid (DiskAt w' Z d (Jo.run s f T).2 ∧ Turned d.has w w') := by
  subst hF
  exact writes_any Z d s f hf A c m T hm hm2 w hZ h hT
set_option maxRecDepth 100000 in
theorem save_wrong (Z : Nat → Prop) (d : Dk) (s : Sx.St) (f n e : Int) (hf : InInt f) (A : Option Addr) (m c : Nat) (hr : ¬ (Ck.Right s.n f n ∧ Ck.Epoch e)) (w : World) (h : DiskAt w Z d s) :
    Calls Try.prog 14 #[.pointer (some ⟨d.g, 0, none⟩), .int .i64 f, .int .i64 n, .int .i64 e, .slice A m c] w fun e' w' => e' = .returned (.int .i64 3) ∧ w' = w := by
  have HV := hid (valid_any Z d s f n hf w h)
  have HE := hid (fun w' => epoch_any e w')
  by_cases h1 : Ck.Right s.n f n
  · rw [decide_eq_true h1] at HV
    rw [decide_eq_false (fun h2 => hr ⟨h1, h2⟩)] at HE
    clear h hr h1
    go_enter Try.func14, Try.ntmps14
    go_wp2_with fail
    refine HV.out.mono ?_
    rintro e1 w1 ⟨rfl, rfl⟩
    go_wp2_with fail
    refine (HE.out _).mono ?_
    rintro e2 w2 ⟨rfl, rfl⟩
    go_wp2
    go_ret
    exact ⟨rfl, rfl⟩
  · rw [decide_eq_false h1] at HV
    clear h hr h1
    go_enter Try.func14, Try.ntmps14
    go_wp2_with fail
    refine HV.out.mono ?_
    rintro e1 w1 ⟨rfl, rfl⟩
    go_wp2
    go_ret
    exact ⟨rfl, rfl⟩
set_option maxRecDepth 100000 in
theorem save_long (Z : Nat → Prop) (d : Dk) (s : Sx.St) (f : Int) (n : Nat) (e : Int) (hf : InInt f) (A : Option Addr) (m c : Nat) (hm : m ≤ 140737488355328) (hr : Ck.Right s.n f n) (he : Ck.Epoch e) (hl : n < Jo.secs m) (w : World) (h : DiskAt w Z d s) :
    Calls Try.prog 14 #[.pointer (some ⟨d.g, 0, none⟩), .int .i64 f, .int .i64 (n : Int), .int .i64 e, .slice A m c] w fun e' w' => e' = .returned (.int .i64 2) ∧ w' = w := by
  have HV := hid (valid_any Z d s f n hf w h)
  have HE := hid (fun w' => epoch_any e w')
  have HP := hid (fun w' => pieces_any m hm w')
  rw [decide_eq_true hr] at HV
  rw [decide_eq_true he] at HE
  have hl0 : (n : Int) < ((Jo.secs m : Nat) : Int) := by omega
  clear h hr he
  go_enter Try.func14, Try.ntmps14
  go_wp2_with fail
  refine HV.out.mono ?_
  rintro e1 w1 ⟨rfl, rfl⟩
  go_wp2_with fail
  refine (HE.out _).mono ?_
  rintro e2 w2 ⟨rfl, rfl⟩
  go_wp2_with fail
  refine (HP.out _).mono ?_
  rintro e3 w3 ⟨rfl, rfl⟩
  go_wp2
  go_ret
  exact ⟨rfl, rfl⟩
/-- what a Save that is right does -/
structure Saved (Z : Nat → Prop) (d : Dk) (s : Sx.St) (f n : Nat) (e : Int) (p : List Nat) (w : World) (e' : Ending) (w' : World) : Prop where
  ret : e' = .returned (.int .i64 (Ck.save false s (Ck.slot f n e) e p).1)
  disk : DiskAt w' Z d (Ck.save false s (Ck.slot f n e) e p).2
  turned : Turned d.has w w'
set_option maxRecDepth 100000 in
set_option maxHeartbeats 2000000 in
theorem save_any (Z : Nat → Prop) (d : Dk) (s : Sx.St) (f n : Nat) (e : Int) (hr : Ck.Right s.n f n) (he : Ck.Epoch e) (A : Option Addr) (c : Nat) (p : List Nat) (m : Nat) (hm : p.length = m) (hc : m ≤ c) (hcm : c ≤ maxLen) (hz : A = none → c = 0) (hl : Jo.secs m ≤ n) (w : World) (hZ : ∀ k, Z k → k < w.heap.size) (h : DiskAt w Z d s) (hp : IsBytes w w.heap.size A p) :
    Calls Try.prog 14 #[.pointer (some ⟨d.g, 0, none⟩), .int .i64 (f : Int), .int .i64 (n : Int), .int .i64 e, .slice A m c] w (Saved Z d s f n e p w) := by
  have hbd := h.bound
  have hfn : f + 2 * n ≤ s.n := by have := hr.2.2; omega
  have hsp := Jo.secs_pos m
  have hm6 : m ≤ 1000000 := by unfold Jo.secs at hl; omega
  have hin : InInt e := by obtain ⟨h1, h2⟩ := he; unfold InInt; omega
  have HV := hid (valid_any Z d s f n (by unfold InInt; omega) w h)
  have HE := hid (fun w' => epoch_any e w')
  have HP := hid (fun w' => pieces_any m (by omega) w')
  have HSl := hid (fun w' => slot_any e he w')
  have HSe := hid (sectors_any e hin A c p m hm hc hcm hz hm6 w hp)
  rw [decide_eq_true hr] at HV
  rw [decide_eq_true he] at HE
  have hl0 : ¬ (n : Int) < ((Jo.secs m : Nat) : Int) := by omega
  obtain ⟨F, hF⟩ : ∃ F, F = Ck.slot f n e := ⟨_, rfl⟩
  have hFb : F ≤ 40000 ∧ (e % 2 = 1 ∧ (f : Int) + n = F ∨ e % 2 = 0 ∧ (f : Int) = F) := by
    rcases Ck.slot_cases f n e with ⟨h1, h2⟩ | ⟨h1, h2⟩ <;> rw [hF, h1] <;> omega
  obtain ⟨t1, t2, t3⟩ := Ck.secsOf_tail e p
  rw [hm] at t1 t3
  have HX := hid (And.intro (And.intro hF hFb.1) (And.intro (And.intro t1 t3) (And.intro hZ (And.intro h hm))))
  have HF := hid hFb.2
  have key : ∀ w1 : World, PartRows w1 (fun k => k < w.heap.size) w.heap.size (Jo.secs m) (Jo.secs m) (Jo.sec e 0 p) → Below w.heap.size w w1 → Hid (RowsFor w1 d.has (some ⟨w.heap.size, 1, none⟩) (Jo.secsOf e 0 p).tail ∧ RowsFor w1 d.has (some ⟨w.heap.size, 0, none⟩) [Jo.sec e 0 p 0] ∧ DiskAt w1 Z d s ∧ Turned d.has w w1 ∧ ∀ k, Z k → k < w1.heap.size) := fun w1 h1 h2 => by
    have hd : ∀ k, d.has k → k < w.heap.size := HX.out.2.2.2.1.lt
    refine hid ⟨part_rows h1 hd (by omega) 1 _ (fun i hi => ?_), part_rows h1 hd (by omega) 0 _ (fun i hi => ?_), HX.out.2.2.2.1.below h2, Turned.ofBelow _ h2, fun k hk => Nat.lt_of_lt_of_le (HX.out.2.2.1 k hk) h2.size⟩
    · rw [HX.out.2.1.1] at hi
      refine ⟨by omega, ?_⟩
      have := HX.out.2.1.2 i (by omega)
      rw [List.getD_eq_getElem?_getD, List.getElem?_eq_getElem (by rw [HX.out.2.1.1]; exact hi)] at this
      rw [show 1 + i = i + 1 from by omega]
      exact this
    · simp at hi
      subst hi
      exact ⟨by omega, rfl⟩
  have HK := hid key
  have HT := hid t2
  clear h hr he hF hFb t1 t2 t3 hZ hm hc hcm hz hp hin key
  rcases HF.out with ⟨hpar, hFe⟩ | ⟨hpar, hFe⟩
  · have HS1 : Hid (∀ w', Calls Try.prog 32 #[.int .i64 e] w' fun e' w2 => e' = .returned (.int .i64 1) ∧ w2 = w') := hid (fun w' => by have := HSl.out w'; rwa [hpar] at this)
    clear HSl
    by_cases hs1 : 1 < Jo.secs m
    · have hs1i : (1 : Int) < ((Jo.secs m : Nat) : Int) := by omega
      go_enter Try.func14, Try.ntmps14
      go_wp2_with fail
      refine HV.out.mono ?_
      rintro e1 w1 ⟨rfl, rfl⟩
      go_wp2_with fail
      refine (HE.out _).mono ?_
      rintro e2 w2 ⟨rfl, rfl⟩
      go_wp2_with fail
      refine (HP.out _).mono ?_
      rintro e3 w3 ⟨rfl, rfl⟩
      go_wp2_with fail
      refine (HS1.out _).mono ?_
      rintro e4 w4 ⟨rfl, rfl⟩
      go_wp2_with fail
      refine HSe.out.mono ?_
      rintro e5 w5 ⟨rfl, h5⟩
      have H5 := HK.out w5 h5.out.1 h5.out.2
      clear h5
      go_wp2_with fail
      refine (writes_N Z d s (F + 1) ((F : Int) + 1) (by omega) (by omega) (some ⟨w4.heap.size, 1, none⟩) (Jo.secs m - 1) (Jo.secs m - 1) (Jo.secsOf e 0 p).tail HX.out.2.1.1 (by omega) w5 H5.out.2.2.2.2 H5.out.2.2.1 H5.out.1).mono ?_
      rintro e6 w6 ⟨rfl, h6⟩
      obtain ⟨E, hE⟩ : ∃ E, E = (Jo.run s (F + 1) (Jo.secsOf e 0 p).tail).1 := ⟨_, rfl⟩
      obtain ⟨t, ht⟩ : ∃ t, t = (Jo.run s (F + 1) (Jo.secsOf e 0 p).tail).2 := ⟨_, rfl⟩
      rw [← ht] at h6
      have HQ := hid (save_eq s F e p E t (by rw [HX.out.2.2.2.2]; exact hs1) hE ht)
      have H6 := hid (And.intro h6.out.1 (And.intro (H5.out.2.2.2.1.trans h6.out.2) (H5.out.2.1.step h6.out.2)))
      have HZ6 : Hid (∀ k, Z k → k < w6.heap.size) := hid (fun k hk => Nat.lt_of_lt_of_le (H5.out.2.2.2.2 k hk) h6.out.2.size)
      rw [← hE]
      clear h6 H5 hE ht
      by_cases hE0 : E = 0
      · subst hE0
        have HQ0 := hid (HQ.out.1 rfl)
        clear HQ
        go_wp2_with fail
        refine (writes_N Z d t F (F : Int) rfl (by omega) (some ⟨w4.heap.size, 0, none⟩) (Jo.secs m) 1 [Jo.sec e 0 p 0] rfl (by omega) w6 HZ6.out H6.out.1 H6.out.2.2).mono ?_
        rintro e7 w7 ⟨rfl, h7⟩
        have H7 := hid (And.intro h7.out.1 (H6.out.2.1.trans h7.out.2))
        clear h7 H6
        go_wp2
        go_ret
        exact ⟨by rw [← HX.out.1.1, HQ0.out]; rfl, by rw [← HX.out.1.1, HQ0.out]; exact H7.out.1, H7.out.2⟩
      · have hEb : (E != 0) = true := by rw [bne_iff_ne]; exact hE0
        have HQ0 := hid (HQ.out.2 hE0)
        clear HQ hE0
        go_wp2
        go_ret
        exact ⟨by rw [← HX.out.1.1, HQ0.out]; rfl, by rw [← HX.out.1.1, HQ0.out]; exact H6.out.1, H6.out.2.1⟩
    · have hs1i : ¬ (1 : Int) < ((Jo.secs m : Nat) : Int) := by omega
      go_enter Try.func14, Try.ntmps14
      go_wp2_with fail
      refine HV.out.mono ?_
      rintro e1 w1 ⟨rfl, rfl⟩
      go_wp2_with fail
      refine (HE.out _).mono ?_
      rintro e2 w2 ⟨rfl, rfl⟩
      go_wp2_with fail
      refine (HP.out _).mono ?_
      rintro e3 w3 ⟨rfl, rfl⟩
      go_wp2_with fail
      refine (HS1.out _).mono ?_
      rintro e4 w4 ⟨rfl, rfl⟩
      go_wp2_with fail
      refine HSe.out.mono ?_
      rintro e5 w5 ⟨rfl, h5⟩
      have H5 := HK.out w5 h5.out.1 h5.out.2
      clear h5
      have HQ0 := hid (save_single s F e p (by rw [HX.out.2.2.2.2]; exact hs1))
      go_wp2_with fail
      refine (writes_N Z d s F (F : Int) rfl (by omega) (some ⟨w4.heap.size, 0, none⟩) (Jo.secs m) 1 [Jo.sec e 0 p 0] rfl (by omega) w5 H5.out.2.2.2.2 H5.out.2.2.1 H5.out.2.1).mono ?_
      rintro e7 w7 ⟨rfl, h7⟩
      have H7 := hid (And.intro h7.out.1 (H5.out.2.2.2.1.trans h7.out.2))
      clear h7 H5
      go_wp2
      go_ret
      exact ⟨by rw [← HX.out.1.1, HQ0.out]; rfl, by rw [← HX.out.1.1, HQ0.out]; exact H7.out.1, H7.out.2⟩
  · have HS1 : Hid (∀ w', Calls Try.prog 32 #[.int .i64 e] w' fun e' w2 => e' = .returned (.int .i64 0) ∧ w2 = w') := hid (fun w' => by have := HSl.out w'; rwa [hpar] at this)
    clear HSl
    obtain rfl : f = F := by omega
    clear hFe
    by_cases hs1 : 1 < Jo.secs m
    · have hs1i : (1 : Int) < ((Jo.secs m : Nat) : Int) := by omega
      go_enter Try.func14, Try.ntmps14
      go_wp2_with fail
      refine HV.out.mono ?_
      rintro e1 w1 ⟨rfl, rfl⟩
      go_wp2_with fail
      refine (HE.out _).mono ?_
      rintro e2 w2 ⟨rfl, rfl⟩
      go_wp2_with fail
      refine (HP.out _).mono ?_
      rintro e3 w3 ⟨rfl, rfl⟩
      go_wp2_with fail
      refine (HS1.out _).mono ?_
      rintro e4 w4 ⟨rfl, rfl⟩
      go_wp2_with fail
      refine HSe.out.mono ?_
      rintro e5 w5 ⟨rfl, h5⟩
      have H5 := HK.out w5 h5.out.1 h5.out.2
      clear h5
      go_wp2_with fail
      refine (writes_N Z d s (f + 1) ((f : Int) + 1) (by omega) (by omega) (some ⟨w4.heap.size, 1, none⟩) (Jo.secs m - 1) (Jo.secs m - 1) (Jo.secsOf e 0 p).tail HX.out.2.1.1 (by omega) w5 H5.out.2.2.2.2 H5.out.2.2.1 H5.out.1).mono ?_
      rintro e6 w6 ⟨rfl, h6⟩
      obtain ⟨E, hE⟩ : ∃ E, E = (Jo.run s (f + 1) (Jo.secsOf e 0 p).tail).1 := ⟨_, rfl⟩
      obtain ⟨t, ht⟩ : ∃ t, t = (Jo.run s (f + 1) (Jo.secsOf e 0 p).tail).2 := ⟨_, rfl⟩
      rw [← ht] at h6
      have HQ := hid (save_eq s f e p E t (by rw [HX.out.2.2.2.2]; exact hs1) hE ht)
      have H6 := hid (And.intro h6.out.1 (And.intro (H5.out.2.2.2.1.trans h6.out.2) (H5.out.2.1.step h6.out.2)))
      have HZ6 : Hid (∀ k, Z k → k < w6.heap.size) := hid (fun k hk => Nat.lt_of_lt_of_le (H5.out.2.2.2.2 k hk) h6.out.2.size)
      rw [← hE]
      clear h6 H5 hE ht
      by_cases hE0 : E = 0
      · subst hE0
        have HQ0 := hid (HQ.out.1 rfl)
        clear HQ
        go_wp2_with fail
        refine (writes_N Z d t f (f : Int) rfl (by omega) (some ⟨w4.heap.size, 0, none⟩) (Jo.secs m) 1 [Jo.sec e 0 p 0] rfl (by omega) w6 HZ6.out H6.out.1 H6.out.2.2).mono ?_
        rintro e7 w7 ⟨rfl, h7⟩
        have H7 := hid (And.intro h7.out.1 (H6.out.2.1.trans h7.out.2))
        clear h7 H6
        go_wp2
        go_ret
        exact ⟨by rw [← HX.out.1.1, HQ0.out]; rfl, by rw [← HX.out.1.1, HQ0.out]; exact H7.out.1, H7.out.2⟩
      · have hEb : (E != 0) = true := by rw [bne_iff_ne]; exact hE0
        have HQ0 := hid (HQ.out.2 hE0)
        clear HQ hE0
        go_wp2
        go_ret
        exact ⟨by rw [← HX.out.1.1, HQ0.out]; rfl, by rw [← HX.out.1.1, HQ0.out]; exact H6.out.1, H6.out.2.1⟩
    · have hs1i : ¬ (1 : Int) < ((Jo.secs m : Nat) : Int) := by omega
      go_enter Try.func14, Try.ntmps14
      go_wp2_with fail
      refine HV.out.mono ?_
      rintro e1 w1 ⟨rfl, rfl⟩
      go_wp2_with fail
      refine (HE.out _).mono ?_
      rintro e2 w2 ⟨rfl, rfl⟩
      go_wp2_with fail
      refine (HP.out _).mono ?_
      rintro e3 w3 ⟨rfl, rfl⟩
      go_wp2_with fail
      refine (HS1.out _).mono ?_
      rintro e4 w4 ⟨rfl, rfl⟩
      go_wp2_with fail
      refine HSe.out.mono ?_
      rintro e5 w5 ⟨rfl, h5⟩
      have H5 := HK.out w5 h5.out.1 h5.out.2
      clear h5
      have HQ0 := hid (save_single s f e p (by rw [HX.out.2.2.2.2]; exact hs1))
      go_wp2_with fail
      refine (writes_N Z d s f (f : Int) rfl (by omega) (some ⟨w4.heap.size, 0, none⟩) (Jo.secs m) 1 [Jo.sec e 0 p 0] rfl (by omega) w5 H5.out.2.2.2.2 H5.out.2.2.1 H5.out.2.1).mono ?_
      rintro e7 w7 ⟨rfl, h7⟩
      have H7 := hid (And.intro h7.out.1 (H5.out.2.2.2.1.trans h7.out.2))
      clear h7 H5
      go_wp2
      go_ret
      exact ⟨by rw [← HX.out.1.1, HQ0.out]; rfl, by rw [← HX.out.1.1, HQ0.out]; exact H7.out.1, H7.out.2⟩
end C
end Go.Proofs.Ytdgijnolpjaheaa
