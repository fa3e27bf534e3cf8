/- Texts of the proof, one behind the other: CkD, StD, JoK, StE. -/
import Derived.Test.YtdgijnolpjaheaaPartAM
import Derived.Test.YtdgijnolpjaheaaPartAK
import Derived.Test.YtdgijnolpjaheaaPartAL
namespace Go.Proofs.Ytdgijnolpjaheaa
open Go.RowKit

def sliceAt : Option Value → Option Addr × Nat
  | some (.slice A _ c) => (A, c)
  | _ => (none, 0)
theorem part_rows {w : World} {Z S : Nat → Prop} {g m : Nat} {T : Nat → List Nat} (h : PartRows w Z g m m T) (hS : ∀ k, S k → Z k) (hg : ¬ Z g) (o : Nat) (L : List (List Nat)) (hL : ∀ i (hi : i < L.length), o + i < m ∧ L[i] = T (o + i)) : RowsFor w S (some ⟨g, o, none⟩) L := by
  obtain ⟨vs, h1, h2, h3⟩ := h.row
  refine ⟨fun i => (sliceAt vs[o + i]?).1, fun i => (sliceAt vs[o + i]?).2, fun w' ht i hi => ?_⟩
  obtain ⟨h4, h5⟩ := hL i hi
  obtain ⟨A, c, h6, h7⟩ := h3 (o + i) h4
  have h8 := h7.keep (ht.mono hS)
  have h9 : w'.heap[g]? = some (.cells vs 32 (0, 0)) := (ht.block g (row_lt h1) (fun e => hg (hS g e))).trans h1
  refine ⟨g, o, rfl, ?_, ?_, ?_⟩
  · show _ = some (Value.slice (sliceAt vs[o + i]?).1 L[i].length (sliceAt vs[o + i]?).2)
    rw [row_cell h9, h6, h5]; rfl
  · show (sliceAt vs[o + i]?).1 = none → (sliceAt vs[o + i]?).2 = 0
    rw [h6]; exact h8.own.none_
  · show IsBytes w' w'.heap.size (sliceAt vs[o + i]?).1 L[i]
    rw [h6, h5]; exact h8.reads
theorem RowsFor.empty {w : World} {S : Nat → Prop} {A : Option Addr} {T : List (List Nat)} (h : T.length = 0) : RowsFor w S A T := by
  rw [List.eq_nil_of_length_eq_zero h]; exact RowsFor.nil
namespace C
theorem save_single (s : Sx.St) (f : Nat) (e : Int) (p : List Nat) (h1 : ¬ 1 < Jo.secs p.length) : Ck.save false s f e p = Jo.run s f [Jo.sec e 0 p 0] := by
  unfold Ck.save
  exact if_neg (fun h => h.elim (fun h => by cases h) h1)
theorem save_eq (s : Sx.St) (f : Nat) (e : Int) (p : List Nat) (E : Int) (t : Sx.St) (h1 : 1 < Jo.secs p.length) (hE : E = (Jo.run s (f + 1) (Jo.secsOf e 0 p).tail).1) (ht : t = (Jo.run s (f + 1) (Jo.secsOf e 0 p).tail).2) :
    (E = 0 → Ck.save false s f e p = Jo.run t f [Jo.sec e 0 p 0]) ∧ (E ≠ 0 → Ck.save false s f e p = (E, t)) := by
  subst hE
  subst ht
  unfold Ck.save
  rw [if_pos (.inr h1)]
  exact ⟨fun h => if_pos h, fun h => by rw [if_neg h]⟩
theorem writes_N (Z : Nat → Prop) (d : Dk) (s : Sx.St) (f : Nat) (F : Int) (hF : F = (f : Int)) (hf : f ≤ 100000) (A : Option Addr) (c m : Nat) (T : List (List Nat)) (hm : T.length = m) (hm2 : m ≤ 100000) (w : World) (hZ : ∀ k, Z k → k < w.heap.size) (h : DiskAt w Z d s) (hT : RowsFor w d.has A T) :
    Calls Try.prog 34 #[.pointer (some ⟨d.g, 0, none⟩), .int .i64 F, .slice A m c] w fun e' w' => e' = .returned (.int .i64 (Jo.run s f T).1) ∧ Hid (DiskAt w' Z d (Jo.run s f T).2 ∧ Turned d.has w w') := by
  subst hF
  exact writes_any Z d s f hf A c m T hm hm2 w hZ h hT
set_option maxRecDepth 100000 in
theorem save_wrong (Z : Nat → Prop) (d : Dk) (s : Sx.St) (f n e : Int) (hf : InInt f) (A : Option Addr) (m c : Nat) (hr : ¬ (Ck.Right s.n f n ∧ Ck.Epoch e)) (w : World) (h : DiskAt w Z d s) :
    Calls Try.prog 14 #[.pointer (some ⟨d.g, 0, none⟩), .int .i64 f, .int .i64 n, .int .i64 e, .slice A m c] w fun e' w' => e' = .returned (.int .i64 3) ∧ w' = w := by
  have HV := hid (valid_any Z d s f n hf w h)
  have HE := hid (fun w' => epoch_any e w')
  by_cases h1 : Ck.Right s.n f n
  · rw [decide_eq_true h1] at HV
    rw [decide_eq_false (fun h2 => hr ⟨h1, h2⟩)] at HE
    clear h hr h1
    go_enter Try.func14, Try.ntmps14
    go_wp2_with fail
    refine HV.out.mono ?_
    rintro e1 w1 ⟨rfl, rfl⟩
    go_wp2_with fail
    refine (HE.out _).mono ?_
    rintro e2 w2 ⟨rfl, rfl⟩
    go_wp2
    go_ret
    exact ⟨rfl, rfl⟩
  · rw [decide_eq_false h1] at HV
    clear h hr h1
    go_enter Try.func14, Try.ntmps14
    go_wp2_with fail
    refine HV.out.mono ?_
    rintro e1 w1 ⟨rfl, rfl⟩
    go_wp2
    go_ret
    exact ⟨rfl, rfl⟩
set_option maxRecDepth 100000 in
theorem save_long (Z : Nat → Prop) (d : Dk) (s : Sx.St) (f : Int) (n : Nat) (e : Int) (hf : InInt f) (A : Option Addr) (m c : Nat) (hm : m ≤ 140737488355328) (hr : Ck.Right s.n f n) (he : Ck.Epoch e) (hl : n < Jo.secs m) (w : World) (h : DiskAt w Z d s) :
    Calls Try.prog 14 #[.pointer (some ⟨d.g, 0, none⟩), .int .i64 f, .int .i64 (n : Int), .int .i64 e, .slice A m c] w fun e' w' => e' = .returned (.int .i64 2) ∧ w' = w := by
  have HV := hid (valid_any Z d s f n hf w h)
  have HE := hid (fun w' => epoch_any e w')
  have HP := hid (fun w' => pieces_any m hm w')
  rw [decide_eq_true hr] at HV
  rw [decide_eq_true he] at HE
  have hl0 : (n : Int) < ((Jo.secs m : Nat) : Int) := by omega
  clear h hr he
  go_enter Try.func14, Try.ntmps14
  go_wp2_with fail
  refine HV.out.mono ?_
  rintro e1 w1 ⟨rfl, rfl⟩
  go_wp2_with fail
  refine (HE.out _).mono ?_
  rintro e2 w2 ⟨rfl, rfl⟩
  go_wp2_with fail
  refine (HP.out _).mono ?_
  rintro e3 w3 ⟨rfl, rfl⟩
  go_wp2
  go_ret
  exact ⟨rfl, rfl⟩
/-- what a Save that is right does -/
structure Saved (Z : Nat → Prop) (d : Dk) (s : Sx.St) (f n : Nat) (e : Int) (p : List Nat) (w : World) (e' : Ending) (w' : World) : Prop where
  ret : e' = .returned (.int .i64 (Ck.save false s (Ck.slot f n e) e p).1)
  disk : DiskAt w' Z d (Ck.save false s (Ck.slot f n e) e p).2
  turned : Turned d.has w w'
set_option maxRecDepth 100000 in
set_option maxHeartbeats 2000000 in
theorem save_any (Z : Nat → Prop) (d : Dk) (s : Sx.St) (f n : Nat) (e : Int) (hr : Ck.Right s.n f n) (he : Ck.Epoch e) (A : Option Addr) (c : Nat) (p : List Nat) (m : Nat) (hm : p.length = m) (hc : m ≤ c) (hcm : c ≤ maxLen) (hz : A = none → c = 0) (hl : Jo.secs m ≤ n) (w : World) (hZ : ∀ k, Z k → k < w.heap.size) (h : DiskAt w Z d s) (hp : IsBytes w w.heap.size A p) :
    Calls Try.prog 14 #[.pointer (some ⟨d.g, 0, none⟩), .int .i64 (f : Int), .int .i64 (n : Int), .int .i64 e, .slice A m c] w (Saved Z d s f n e p w) := by
  have hbd := h.bound
  have hfn : f + 2 * n ≤ s.n := by have := hr.2.2; omega
  have hsp := Jo.secs_pos m
  have hm6 : m ≤ 1000000 := by unfold Jo.secs at hl; omega
  have hin : InInt e := by obtain ⟨h1, h2⟩ := he; unfold InInt; omega
  have HV := hid (valid_any Z d s f n (by unfold InInt; omega) w h)
  have HE := hid (fun w' => epoch_any e w')
  have HP := hid (fun w' => pieces_any m (by omega) w')
  have HSl := hid (fun w' => slot_any e he w')
  have HSe := hid (sectors_any e hin A c p m hm hc hcm hz hm6 w hp)
  rw [decide_eq_true hr] at HV
  rw [decide_eq_true he] at HE
  have hl0 : ¬ (n : Int) < ((Jo.secs m : Nat) : Int) := by omega
  obtain ⟨F, hF⟩ : ∃ F, F = Ck.slot f n e := ⟨_, rfl⟩
  have hFb : F ≤ 40000 ∧ (e % 2 = 1 ∧ (f : Int) + n = F ∨ e % 2 = 0 ∧ (f : Int) = F) := by
    rcases Ck.slot_cases f n e with ⟨h1, h2⟩ | ⟨h1, h2⟩ <;> rw [hF, h1] <;> omega
  obtain ⟨t1, t2, t3⟩ := Ck.secsOf_tail e p
  rw [hm] at t1 t3
  have HX := hid (And.intro (And.intro hF hFb.1) (And.intro (And.intro t1 t3) (And.intro hZ (And.intro h hm))))
  have HF := hid hFb.2
  have key : ∀ w1 : World, PartRows w1 (fun k => k < w.heap.size) w.heap.size (Jo.secs m) (Jo.secs m) (Jo.sec e 0 p) → Below w.heap.size w w1 → Hid (RowsFor w1 d.has (some ⟨w.heap.size, 1, none⟩) (Jo.secsOf e 0 p).tail ∧ RowsFor w1 d.has (some ⟨w.heap.size, 0, none⟩) [Jo.sec e 0 p 0] ∧ DiskAt w1 Z d s ∧ Turned d.has w w1 ∧ ∀ k, Z k → k < w1.heap.size) := fun w1 h1 h2 => by
    have hd : ∀ k, d.has k → k < w.heap.size := HX.out.2.2.2.1.lt
    refine hid ⟨part_rows h1 hd (by omega) 1 _ (fun i hi => ?_), part_rows h1 hd (by omega) 0 _ (fun i hi => ?_), HX.out.2.2.2.1.below h2, Turned.ofBelow _ h2, fun k hk => Nat.lt_of_lt_of_le (HX.out.2.2.1 k hk) h2.size⟩
    · rw [HX.out.2.1.1] at hi
      refine ⟨by omega, ?_⟩
      have := HX.out.2.1.2 i (by omega)
      rw [List.getD_eq_getElem?_getD, List.getElem?_eq_getElem (by rw [HX.out.2.1.1]; exact hi)] at this
      rw [show 1 + i = i + 1 from by omega]
      exact this
    · simp at hi
      subst hi
      exact ⟨by omega, rfl⟩
  have HK := hid key
  have HT := hid t2
  clear h hr he hF hFb t1 t2 t3 hZ hm hc hcm hz hp hin key
  rcases HF.out with ⟨hpar, hFe⟩ | ⟨hpar, hFe⟩
  · have HS1 : Hid (∀ w', Calls Try.prog 32 #[.int .i64 e] w' fun e' w2 => e' = .returned (.int .i64 1) ∧ w2 = w') := hid (fun w' => by have := HSl.out w'; rwa [hpar] at this)
    clear HSl
    by_cases hs1 : 1 < Jo.secs m
    · have hs1i : (1 : Int) < ((Jo.secs m : Nat) : Int) := by omega
      go_enter Try.func14, Try.ntmps14
      go_wp2_with fail
      refine HV.out.mono ?_
      rintro e1 w1 ⟨rfl, rfl⟩
      go_wp2_with fail
      refine (HE.out _).mono ?_
      rintro e2 w2 ⟨rfl, rfl⟩
      go_wp2_with fail
      refine (HP.out _).mono ?_
      rintro e3 w3 ⟨rfl, rfl⟩
      go_wp2_with fail
      refine (HS1.out _).mono ?_
      rintro e4 w4 ⟨rfl, rfl⟩
      go_wp2_with fail
      refine HSe.out.mono ?_
      rintro e5 w5 ⟨rfl, h5⟩
      have H5 := HK.out w5 h5.out.1 h5.out.2
      clear h5
      go_wp2_with fail
      refine (writes_N Z d s (F + 1) ((F : Int) + 1) (by omega) (by omega) (some ⟨w4.heap.size, 1, none⟩) (Jo.secs m - 1) (Jo.secs m - 1) (Jo.secsOf e 0 p).tail HX.out.2.1.1 (by omega) w5 H5.out.2.2.2.2 H5.out.2.2.1 H5.out.1).mono ?_
      rintro e6 w6 ⟨rfl, h6⟩
      obtain ⟨E, hE⟩ : ∃ E, E = (Jo.run s (F + 1) (Jo.secsOf e 0 p).tail).1 := ⟨_, rfl⟩
      obtain ⟨t, ht⟩ : ∃ t, t = (Jo.run s (F + 1) (Jo.secsOf e 0 p).tail).2 := ⟨_, rfl⟩
      rw [← ht] at h6
      have HQ := hid (save_eq s F e p E t (by rw [HX.out.2.2.2.2]; exact hs1) hE ht)
      have H6 := hid (And.intro h6.out.1 (And.intro (H5.out.2.2.2.1.trans h6.out.2) (H5.out.2.1.step h6.out.2)))
      have HZ6 : Hid (∀ k, Z k → k < w6.heap.size) := hid (fun k hk => Nat.lt_of_lt_of_le (H5.out.2.2.2.2 k hk) h6.out.2.size)
      rw [← hE]
      clear h6 H5 hE ht
      by_cases hE0 : E = 0
      · subst hE0
        have HQ0 := hid (HQ.out.1 rfl)
        clear HQ
        go_wp2_with fail
        refine (writes_N Z d t F (F : Int) rfl (by omega) (some ⟨w4.heap.size, 0, none⟩) (Jo.secs m) 1 [Jo.sec e 0 p 0] rfl (by omega) w6 HZ6.out H6.out.1 H6.out.2.2).mono ?_
        rintro e7 w7 ⟨rfl, h7⟩
        have H7 := hid (And.intro h7.out.1 (H6.out.2.1.trans h7.out.2))
        clear h7 H6
        go_wp2
        go_ret
        exact ⟨by rw [← HX.out.1.1, HQ0.out]; rfl, by rw [← HX.out.1.1, HQ0.out]; exact H7.out.1, H7.out.2⟩
      · have hEb : (E != 0) = true := by rw [bne_iff_ne]; exact hE0
        have HQ0 := hid (HQ.out.2 hE0)
        clear HQ hE0
        go_wp2
        go_ret
        exact ⟨by rw [← HX.out.1.1, HQ0.out]; rfl, by rw [← HX.out.1.1, HQ0.out]; exact H6.out.1, H6.out.2.1⟩
    · have hs1i : ¬ (1 : Int) < ((Jo.secs m : Nat) : Int) := by omega
      go_enter Try.func14, Try.ntmps14
      go_wp2_with fail
      refine HV.out.mono ?_
      rintro e1 w1 ⟨rfl, rfl⟩
      go_wp2_with fail
      refine (HE.out _).mono ?_
      rintro e2 w2 ⟨rfl, rfl⟩
      go_wp2_with fail
      refine (HP.out _).mono ?_
      rintro e3 w3 ⟨rfl, rfl⟩
      go_wp2_with fail
      refine (HS1.out _).mono ?_
      rintro e4 w4 ⟨rfl, rfl⟩
      go_wp2_with fail
      refine HSe.out.mono ?_
      rintro e5 w5 ⟨rfl, h5⟩
      have H5 := HK.out w5 h5.out.1 h5.out.2
      clear h5
      have HQ0 := hid (save_single s F e p (by rw [HX.out.2.2.2.2]; exact hs1))
      go_wp2_with fail
      refine (writes_N Z d s F (F : Int) rfl (by omega) (some ⟨w4.heap.size, 0, none⟩) (Jo.secs m) 1 [Jo.sec e 0 p 0] rfl (by omega) w5 H5.out.2.2.2.2 H5.out.2.2.1 H5.out.2.1).mono ?_
      rintro e7 w7 ⟨rfl, h7⟩
      have H7 := hid (And.intro h7.out.1 (H5.out.2.2.2.1.trans h7.out.2))
      clear h7 H5
      go_wp2
      go_ret
      exact ⟨by rw [← HX.out.1.1, HQ0.out]; rfl, by rw [← HX.out.1.1, HQ0.out]; exact H7.out.1, H7.out.2⟩
  · have HS1 : Hid (∀ w', Calls Try.prog 32 #[.int .i64 e] w' fun e' w2 => e' = .returned (.int .i64 0) ∧ w2 = w') := hid (fun w' => by have := HSl.out w'; rwa [hpar] at this)
    clear HSl
    obtain rfl : f = F := by omega
    clear hFe
    by_cases hs1 : 1 < Jo.secs m
    · have hs1i : (1 : Int) < ((Jo.secs m : Nat) : Int) := by omega
      go_enter Try.func14, Try.ntmps14
      go_wp2_with fail
      refine HV.out.mono ?_
      rintro e1 w1 ⟨rfl, rfl⟩
      go_wp2_with fail
      refine (HE.out _).mono ?_
      rintro e2 w2 ⟨rfl, rfl⟩
      go_wp2_with fail
      refine (HP.out _).mono ?_
      rintro e3 w3 ⟨rfl, rfl⟩
      go_wp2_with fail
      refine (HS1.out _).mono ?_
      rintro e4 w4 ⟨rfl, rfl⟩
      go_wp2_with fail
      refine HSe.out.mono ?_
      rintro e5 w5 ⟨rfl, h5⟩
      have H5 := HK.out w5 h5.out.1 h5.out.2
      clear h5
      go_wp2_with fail
      refine (writes_N Z d s (f + 1) ((f : Int) + 1) (by omega) (by omega) (some ⟨w4.heap.size, 1, none⟩) (Jo.secs m - 1) (Jo.secs m - 1) (Jo.secsOf e 0 p).tail HX.out.2.1.1 (by omega) w5 H5.out.2.2.2.2 H5.out.2.2.1 H5.out.1).mono ?_
      rintro e6 w6 ⟨rfl, h6⟩
      obtain ⟨E, hE⟩ : ∃ E, E = (Jo.run s (f + 1) (Jo.secsOf e 0 p).tail).1 := ⟨_, rfl⟩
      obtain ⟨t, ht⟩ : ∃ t, t = (Jo.run s (f + 1) (Jo.secsOf e 0 p).tail).2 := ⟨_, rfl⟩
      rw [← ht] at h6
      have HQ := hid (save_eq s f e p E t (by rw [HX.out.2.2.2.2]; exact hs1) hE ht)
      have H6 := hid (And.intro h6.out.1 (And.intro (H5.out.2.2.2.1.trans h6.out.2) (H5.out.2.1.step h6.out.2)))
      have HZ6 : Hid (∀ k, Z k → k < w6.heap.size) := hid (fun k hk => Nat.lt_of_lt_of_le (H5.out.2.2.2.2 k hk) h6.out.2.size)
      rw [← hE]
      clear h6 H5 hE ht
      by_cases hE0 : E = 0
      · subst hE0
        have HQ0 := hid (HQ.out.1 rfl)
        clear HQ
        go_wp2_with fail
        refine (writes_N Z d t f (f : Int) rfl (by omega) (some ⟨w4.heap.size, 0, none⟩) (Jo.secs m) 1 [Jo.sec e 0 p 0] rfl (by omega) w6 HZ6.out H6.out.1 H6.out.2.2).mono ?_
        rintro e7 w7 ⟨rfl, h7⟩
        have H7 := hid (And.intro h7.out.1 (H6.out.2.1.trans h7.out.2))
        clear h7 H6
        go_wp2
        go_ret
        exact ⟨by rw [← HX.out.1.1, HQ0.out]; rfl, by rw [← HX.out.1.1, HQ0.out]; exact H7.out.1, H7.out.2⟩
      · have hEb : (E != 0) = true := by rw [bne_iff_ne]; exact hE0
        have HQ0 := hid (HQ.out.2 hE0)
        clear HQ hE0
        go_wp2
        go_ret
        exact ⟨by rw [← HX.out.1.1, HQ0.out]; rfl, by rw [← HX.out.1.1, HQ0.out]; exact H6.out.1, H6.out.2.1⟩
    · have hs1i : ¬ (1 : Int) < ((Jo.secs m : Nat) : Int) := by omega
      go_enter Try.func14, Try.ntmps14
      go_wp2_with fail
      refine HV.out.mono ?_
      rintro e1 w1 ⟨rfl, rfl⟩
      go_wp2_with fail
      refine (HE.out _).mono ?_
      rintro e2 w2 ⟨rfl, rfl⟩
      go_wp2_with fail
      refine (HP.out _).mono ?_
      rintro e3 w3 ⟨rfl, rfl⟩
      go_wp2_with fail
      refine (HS1.out _).mono ?_
      rintro e4 w4 ⟨rfl, rfl⟩
      go_wp2_with fail
      refine HSe.out.mono ?_
      rintro e5 w5 ⟨rfl, h5⟩
      have H5 := HK.out w5 h5.out.1 h5.out.2
      clear h5
      have HQ0 := hid (save_single s f e p (by rw [HX.out.2.2.2.2]; exact hs1))
      go_wp2_with fail
      refine (writes_N Z d s f (f : Int) rfl (by omega) (some ⟨w4.heap.size, 0, none⟩) (Jo.secs m) 1 [Jo.sec e 0 p 0] rfl (by omega) w5 H5.out.2.2.2.2 H5.out.2.2.1 H5.out.2.1).mono ?_
      rintro e7 w7 ⟨rfl, h7⟩
      have H7 := hid (And.intro h7.out.1 (H5.out.2.2.2.1.trans h7.out.2))
      clear h7 H5
      go_wp2
      go_ret
      exact ⟨by rw [← HX.out.1.1, HQ0.out]; rfl, by rw [← HX.out.1.1, HQ0.out]; exact H7.out.1, H7.out.2⟩
end C
end Go.Proofs.Ytdgijnolpjaheaa
namespace Go.Proofs.Ytdgijnolpjaheaa
open Go.RowKit

namespace T
theorem save_N (Z : Nat → Prop) (d : Dk) (s : Sx.St) (F : Int) (f n : Nat) (hF : F = (f : Int)) (e : Int) (hr : Ck.Right s.n f n) (he : Ck.Epoch e) (A : Option Addr) (c : Nat) (p : List Nat) (m : Nat) (hm : p.length = m) (hc : m ≤ c) (hcm : c ≤ maxLen) (hz : A = none → c = 0) (hl : Jo.secs m ≤ n) (w : World) (hZ : ∀ k, Z k → k < w.heap.size) (h : DiskAt w Z d s) (hp : IsBytes w w.heap.size A p) :
    Calls Try.prog 14 #[.pointer (some ⟨d.g, 0, none⟩), .int .i64 F, .int .i64 (n : Int), .int .i64 e, .slice A m c] w fun e' w' => e' = .returned (.int .i64 (Ck.save false s (Ck.slot f n e) e p).1) ∧ Hid (DiskAt w' Z d (Ck.save false s (Ck.slot f n e) e p).2 ∧ Turned d.has w w') := by
  subst hF
  exact (C.save_any Z d s f n e hr he A c p m hm hc hcm hz hl w hZ h hp).mono fun _ _ h => ⟨h.ret, h.disk, h.turned⟩
/-- a dead store -/
def Dead (w : World) (g : Nat) : Prop := ∃ j, SAt w g j ∧ j.st = 2
theorem Dead.below {w w' : World} {g : Nat} (h : Dead w g) (hb : Below w.heap.size w w') : Dead w' g := by
  obtain ⟨j, h1, h2⟩ := h
  exact ⟨j, h1.below hb, h2⟩
set_option maxRecDepth 100000 in
theorem renew_dead (g : Nat) (A : Option Addr) (k c : Nat) (w : World) (h : Dead w g) :
    Calls Try.prog 24 #[.pointer (some ⟨g, 0, none⟩), .slice A k c] w fun e' w' => e' = .returned (.int .i64 10) ∧ w' = w := by
  obtain ⟨j, h1, h2⟩ := h
  obtain ⟨c0, c1, c2, c3, c4⟩ := h1.cells
  rw [h2] at c4
  go_enter Try.func24, Try.ntmps24
  go_wp2
  go_ret
  exact ⟨rfl, rfl⟩
set_option maxRecDepth 100000 in
theorem append_dead (g : Nat) (A : Option Addr) (k c : Nat) (w : World) (h : Dead w g) :
    Calls Try.prog 23 #[.pointer (some ⟨g, 0, none⟩), .slice A k c] w fun e' w' => e' = .returned (.int .i64 10) ∧ w' = w := by
  obtain ⟨j, h1, h2⟩ := h
  obtain ⟨c0, c1, c2, c3, c4⟩ := h1.cells
  rw [h2] at c4
  go_enter Try.func23, Try.ntmps23
  go_wp2
  go_ret
  exact ⟨rfl, rfl⟩
/-- ahead of the first Renew -/
theorem append_state (w0 : World) (d : Dk) (s : Sx.St) (g gj m n : Nat) (e : Int) (p : List Nat) (L : List (List Nat)) (c' : Nat) (A : Option Addr) (k c : Nat) (w : World) (h : SG w0 w d s g gj m n e 0 p L c') :
    Calls Try.prog 23 #[.pointer (some ⟨g, 0, none⟩), .slice A k c] w fun e' w' => e' = .returned (.int .i64 12) ∧ w' = w := by
  obtain ⟨c0, c1, c2, c3, c4⟩ := h.store.cells
  go_enter Try.func23, Try.ntmps23
  go_wp2
  go_ret
  exact ⟨rfl, rfl⟩
/-- what a Renew does -/
inductive RDid (w0 w : World) (d : Dk) (s : Sx.St) (g gj m n : Nat) (e st : Int) (p : List Nat) (L : List (List Nat)) (c : Nat) (q : List Nat) (E : Int) (w' : World) : Prop
  | long (h : m < Jo.secs q.length) (hE : E = 2) (hj : SG w0 w' d s g gj m n e st p L c)
  | done (s' : Sx.St) (gj' : Nat) (h : Jo.secs q.length ≤ m) (hE : E = 0) (hj : SG w0 w' d s' g gj' m n (e + 1) 1 q [] 0) (hg : w.heap.size ≤ gj') (ha : s'.armed = s.armed) (hd : s'.down = false)
  | broken (s' : Sx.St) (h : Jo.secs q.length ≤ m) (hs : ¬ (s.armed = false ∧ s.down = false)) (hE : E = 10) (hj : DM w0 w' d s') (hx : Dead w' g) (hd : s'.down = true) (hc : ∀ l, Sto.Held (Sx.crash s' l) m n e p L ∨ Sto.Held (Sx.crash s' l) m n (e + 1) q [])
set_option maxRecDepth 100000 in
set_option maxHeartbeats 2000000 in
theorem renew_any (w0 : World) (d : Dk) (s : Sx.St) (g gj m n : Nat) (e st : Int) (p : List Nat) (L : List (List Nat)) (c' : Nat) (w : World) (h : SG w0 w d s g gj m n e st p L c') (hst : st ≠ 2) (hn1 : 1 ≤ n) (he : e + 1 ≤ 1099511627776)
    (A : Option Addr) (c : Nat) (q : List Nat) (k : Nat) (hk : q.length = k) (hk2 : k ≤ 140737488355328) (hc : k ≤ c) (hcm : c ≤ maxLen) (hz : A = none → c = 0) (hq : IsBytes w w.heap.size A q) :
    Calls Try.prog 24 #[.pointer (some ⟨g, 0, none⟩), .slice A k c] w fun e' w' => ∃ E, e' = .returned (.int .i64 E) ∧ Hid (RDid w0 w d s g gj m n e st p L c' q E w' ∧ Turned (fun b => d.has b ∨ b = g) w w') := by
  obtain ⟨c0, c1, c2, c3, c4⟩ := h.store.cells
  obtain ⟨z1, z2, z3, z4, z5⟩ := h.sizes
  have hgl := h.store.lt
  have hstb : (st == 2) = false := by rw [beq_eq_false_iff_ne]; exact hst
  have hr : Ck.Right s.n 0 m := ⟨by omega, by omega, by omega⟩
  have hce : Ck.Epoch (e + 1) := ⟨by omega, he⟩
  have HS : Hid (∀ w', Turned d.has w w' → w'.cell? ⟨g, 1, none⟩ = some (.pointer (some ⟨d.g, 0, none⟩)) ∧ w'.cell? ⟨g, 2, none⟩ = some (.int .i64 (m : Int)) ∧ w'.cell? ⟨g, 3, none⟩ = some (.int .i64 e)) := hid (fun w' ht => by
    obtain ⟨_, k1, k2, k3, _⟩ := (h.store.keep ht h.off.1).cells
    exact ⟨k1, k2, k3⟩)
  have hX := h
  have HX := hid hX
  have t1 : Turned d.has w w.drew := Turned.ofBelow _ (Below.refl _ w).drew
  by_cases hl : Jo.secs k ≤ m
  · have hsl : Jo.secs q.length ≤ m := by rw [hk]; exact hl
    have hdw : DiskAt w.drew (fun b => b < w0.heap.size) d s := h.disk.at_.below (Below.refl _ w).drew
    have HC := hid (save_N _ d s 0 0 m rfl (e + 1) hr hce A c q k hk hc hcm hz hl w.drew (fun b hb => Nat.lt_of_lt_of_le hb h.disk.bel.size) hdw (hq.below (Below.refl _ w).drew))
    obtain ⟨E, hE⟩ : ∃ E, E = (Ck.save false s (Ck.slot 0 m (e + 1)) (e + 1) q).1 := ⟨_, rfl⟩
    obtain ⟨s', hs'⟩ : ∃ s', s' = (Ck.save false s (Ck.slot 0 m (e + 1)) (e + 1) q).2 := ⟨_, rfl⟩
    have hR := Sto.renew (b := false) h.held he hsl
    rw [← hE, ← hs'] at HC
    rw [← hE, ← hs'] at hR
    have hsafe : E ≠ 0 → ¬ (s.armed = false ∧ s.down = false) := fun h0 hs => h0 (by
      rw [hE]
      exact Ck.save_safe (e + 1) q hsl (by rcases Ck.slot_cases 0 m (e + 1) with ⟨h1, _⟩ | ⟨h1, _⟩ <;> rw [h1] <;> omega) h.held.inv.clean hs.1 hs.2)
    clear hE hs' hr hce hX h hq
    rcases hR with ⟨r1, r2, r3, r4, r5⟩ | ⟨r1, r2, r3⟩
    · subst r1
      have HR := hid (And.intro hsl (And.intro r2 (And.intro r3 (And.intro r4 r5))))
      clear r2 r3 r4 r5 hsafe hsl
      go_enter Try.func24, Try.ntmps24
      go_wp2_with fail
      go_still_tail 14, (by kernel_rfl)
      go_wp2_with fail
      refine HC.out.mono ?_
      rintro e3 w3 ⟨rfl, h3⟩
      have t3 : Turned d.has w w3 := t1.trans h3.out.2
      have hS3 := HX.out.store.keep t3 HX.out.off.1
      have k3 : w3.cell? ⟨g, 3, none⟩ = some (.int .i64 e) := hS3.cells.2.2.2.1
      have k4 : w3.cell? ⟨g, 4, none⟩ = some (.int .i64 st) := hS3.cells.2.2.2.2
      have f3 := hS3.frozen 3
      have f4 := hS3.frozen 4
      have H3 := hid (And.intro h3.out.1 (And.intro t3 hS3))
      clear h3 t3 hS3 c0 c1 c2 c3 c4 HC HS t1
      go_wp2_with fail
      obtain ⟨w4, hw4⟩ : ∃ w4, w4 = w3.setCell ⟨g, 3, none⟩ (.int .i64 (e + 1)) := ⟨_, rfl⟩
      rw [← hw4]
      have hS4 : SAt w4 g ⟨some ⟨gj, 0, none⟩, d.g, (m : Nat), e + 1, st⟩ := by rw [hw4]; exact H3.out.2.2.set3 (e + 1)
      have hD4 : DiskAt w4 (fun b => b < w0.heap.size) d s' := by rw [hw4]; exact H3.out.2.2.disk H3.out.1 3 _
      have hT4 : Turned (fun b => d.has b ∨ b = g) w w4 := by rw [hw4]; exact (H3.out.2.1.mono (fun _ h => .inl h)).setCell g 3 _ (fun _ => .inr rfl)
      have H4 := hid (And.intro hS4 (And.intro hD4 hT4))
      clear hw4 hS4 hD4 hT4 H3 k3 k4 f3 f4
      have har := HR.out.2.1.area
      have HB := hid (begin_any _ d s' g _ m n (2 * m) (e + 1) (e + 1) rfl har hn1 ⟨by omega, he⟩ (by omega) w4 H4.out.1 rfl rfl rfl H4.out.2.1)
      refine HB.out.mono ?_
      rintro e5 w5 ⟨rfl, gj', hgj, h5⟩
      have k4 : w5.cell? ⟨g, 4, none⟩ = some (.int .i64 st) := h5.out.1.cells.2.2.2.2
      have f4 := h5.out.1.frozen 4
      have H5 := hid (And.intro hgj h5.out)
      clear h5 hgj HB har
      go_wp2_with fail
      go_ret
      have hS6 := H5.out.2.1.set4 1
      have hD6 := H5.out.2.1.disk H5.out.2.2.2.1 4 (.int .i64 1)
      have hT6 : Turned (fun b => d.has b ∨ b = g) w (w5.setCell ⟨g, 4, none⟩ (.int .i64 1)) := (H4.out.2.2.trans (H5.out.2.2.2.2.mono (fun _ h => .inr h))).setCell g 4 _ (fun _ => .inr rfl)
      have hne : gj' ≠ g := H5.out.2.1.ne_jn H5.out.2.2.1
      have hJ6 : JAt (w5.setCell ⟨g, 4, none⟩ (.int .i64 1)) gj' _ := H5.out.2.2.1.keep (Turned.one w5 g 4 _) (fun h => hne h)
      have hz4 := H4.out.2.2.size
      refine ⟨0, rfl, hid ⟨.done s' gj' HR.out.1 rfl ⟨⟨hD6, HX.out.bel (hT6.mono (fun _ h => h.imp id .inl))⟩, ⟨HX.out.ge.1, ?_⟩, hS6, ⟨_, _, _, hJ6, fun _ => ⟨rfl, by simp [Jo.total], by simp [Jo.total]⟩⟩, HR.out.2.1, fun _ => ⟨HR.out.2.2.1, by omega, rfl⟩⟩ ?_ HR.out.2.2.2.1 HR.out.2.2.2.2, hT6⟩⟩
      · have := HX.out.disk.bel.size; have := H5.out.1; omega
      · have := H5.out.1; omega
    · subst r1
      have HR := hid (And.intro hsl (And.intro (hsafe (by decide)) (And.intro r2 r3)))
      clear r2 r3 hsafe hsl
      go_enter Try.func24, Try.ntmps24
      go_wp2_with fail
      go_still_tail 14, (by kernel_rfl)
      go_wp2_with fail
      refine HC.out.mono ?_
      rintro e3 w3 ⟨rfl, h3⟩
      have t3 : Turned d.has w w3 := t1.trans h3.out.2
      have hS3 := HX.out.store.keep t3 HX.out.off.1
      have k3 : w3.cell? ⟨g, 3, none⟩ = some (.int .i64 e) := hS3.cells.2.2.2.1
      have k4 : w3.cell? ⟨g, 4, none⟩ = some (.int .i64 st) := hS3.cells.2.2.2.2
      have f3 := hS3.frozen 3
      have f4 := hS3.frozen 4
      have H3 := hid (And.intro h3.out.1 (And.intro t3 hS3))
      clear h3 t3 hS3 c0 c1 c2 c3 c4 HC HS t1
      have HP := hid (pass_any g _ 10 w3 H3.out.2.2)
      go_wp2_with fail
      refine HP.out.mono ?_
      rintro e4 w4 ⟨rfl, _, hw4⟩
      have hw4' := hid (hw4 (by simp))
      clear hw4
      go_wp2
      go_ret
      have hS4 : SAt w4 g ⟨some ⟨gj, 0, none⟩, d.g, (m : Nat), e, 2⟩ := by rw [hw4'.out]; exact H3.out.2.2.set4 2
      have hD4 : DiskAt w4 (fun b => b < w0.heap.size) d s' := by rw [hw4'.out]; exact H3.out.2.2.disk H3.out.1 4 _
      have hT4 : Turned (fun b => d.has b ∨ b = g) w w4 := by rw [hw4'.out]; exact (H3.out.2.1.mono (fun _ h => .inl h)).setCell g 4 _ (fun _ => .inr rfl)
      exact ⟨10, rfl, hid ⟨.broken s' HR.out.1 HR.out.2.1 rfl ⟨hD4, HX.out.bel (hT4.mono (fun _ h => h.imp id .inl))⟩ ⟨_, hS4, rfl⟩ HR.out.2.2.1 HR.out.2.2.2, hT4⟩⟩
  · have hdw : DiskAt w.drew (fun b => b < w0.heap.size) d s := h.disk.at_.below (Below.refl _ w).drew
    have hsl : m < Jo.secs q.length := by rw [hk]; omega
    have HW : Hid (Calls Try.prog 14 #[.pointer (some ⟨d.g, 0, none⟩), .int .i64 0, .int .i64 (m : Int), .int .i64 (e + 1), .slice A k c] w.drew fun e' w' => e' = .returned (.int .i64 2) ∧ w' = w.drew) := hid (C.save_long _ d s 0 m (e + 1) (by unfold InInt; omega) A k c (by omega) hr hce (by omega) w.drew hdw)
    have HSL := hid hsl
    clear hsl hr hce hX h hq hdw hl
    go_enter Try.func24, Try.ntmps24
    go_wp2_with fail
    go_still_tail 14, (by kernel_rfl)
    go_wp2_with fail
    refine HW.out.mono ?_
    rintro e3 w3 ⟨rfl, h3⟩
    have t3 : Turned d.has w w3 := by rw [h3]; exact t1
    have hS3 := HX.out.store.keep t3 HX.out.off.1
    have k3 : w3.cell? ⟨g, 3, none⟩ = some (.int .i64 e) := hS3.cells.2.2.2.1
    have k4 : w3.cell? ⟨g, 4, none⟩ = some (.int .i64 st) := hS3.cells.2.2.2.2
    have f3 := hS3.frozen 3
    have f4 := hS3.frozen 4
    have H3 := hid (And.intro h3 (And.intro t3 hS3))
    clear t3 h3 hS3 c0 c1 c2 c3 c4 HW HS t1
    have HP := hid (pass_any g _ 2 w3 H3.out.2.2)
    go_wp2_with fail
    refine HP.out.mono ?_
    rintro e4 w4 ⟨rfl, hw4, _⟩
    have hw4' := hw4 (by simp)
    subst hw4'
    clear hw4
    go_wp2
    go_ret
    exact ⟨2, rfl, hid ⟨.long HSL.out rfl (by rw [H3.out.1]; exact HX.out.below (Below.refl _ w).drew), H3.out.2.1.mono (fun _ h => .inl h)⟩⟩
end T
end Go.Proofs.Ytdgijnolpjaheaa
namespace Go.Proofs.Ytdgijnolpjaheaa
open Go.RowKit

/-- .. and a journal on it, in which the records L are. -/
structure JG (w0 w : World) (d : Dk) (s : Sx.St) (g : Nat) (e : Int) (f n : Nat) (L : List (List Nat)) : Prop where
  disk : DM w0 w d s
  ge : w0.heap.size ≤ g
  jn : JAt w g ⟨d.g, e, (f + Jo.total L : Nat), (n - Jo.total L : Nat), (L.length : Nat)⟩
  good : Jo.Good s e f n L
  ep : 0 ≤ e ∧ e ≤ 1099511627776
  sz : f + n ≤ 16384
  len : L.length ≤ n
namespace JG
variable {w0 w w' : World} {d : Dk} {s s' : Sx.St} {g : Nat} {e : Int} {f n : Nat} {L : List (List Nat)}
theorem below (h : JG w0 w d s g e f n L) (hb : Below w.heap.size w w') : JG w0 w' d s g e f n L := ⟨h.disk.below hb, h.ge, h.jn.below hb, h.good, h.ep, h.sz, h.len⟩
theorem drewN (h : JG w0 w d s g e f n L) (k : Nat) : JG w0 (w.drewN k) d s g e f n L := h.below (below_drewN (Below.refl _ _) k)
end JG
theorem Jo.len_total : ∀ L : List (List Nat), L.length ≤ Jo.total L
  | [] => Nat.le_refl _
  | p :: L => by have := Jo.len_total L; have := Jo.secs_pos p.length; simp only [List.length_cons, Jo.total]; omega
namespace J
/-- what an Append does -/
inductive Did (w0 w : World) (d : Dk) (s : Sx.St) (g : Nat) (e : Int) (f n : Nat) (L : List (List Nat)) (p : List Nat) (e' : Ending) (w' : World) : Prop
  | long (h : 32768 < p.length) (he : e' = .returned (.int .i64 2)) (hj : JG w0 w' d s g e f n L)
  | full (h : p.length ≤ 32768) (h2 : n - Jo.total L < Jo.secs p.length) (he : e' = .returned (.int .i64 8)) (hj : JG w0 w' d s g e f n L)
  | done (s' : Sx.St) (h : p.length ≤ 32768) (h2 : Jo.secs p.length ≤ n - Jo.total L) (he : e' = .returned (.int .i64 0)) (hj : JG w0 w' d s' g e f n (L ++ [p])) (hn : s'.n = s.n) (ha : s'.armed = s.armed) (hd : s'.down = false) (hf : Jo.Fresh (e + 1) s → Jo.Fresh (e + 1) s')
  | broken (s' : Sx.St) (h : p.length ≤ 32768) (h2 : Jo.secs p.length ≤ n - Jo.total L) (hs : ¬ (s.armed = false ∧ s.down = false)) (he : e' = .returned (.int .i64 10)) (hj : DM w0 w' d s') (hn : s'.n = s.n) (hd : s'.down = true)
      (hc : ∀ l, (Jo.scan (Jo.rdOf (Sx.crash s' l)) e n f [] [] = L ∨ Jo.scan (Jo.rdOf (Sx.crash s' l)) e n f [] [] = L ++ [p]) ∧ (Jo.Fresh (e + 1) s → Jo.Fresh (e + 1) (Sx.crash s' l)))
theorem append_JG (w0 : World) (d : Dk) (s : Sx.St) (g : Nat) (e : Int) (f n : Nat) (L : List (List Nat)) (w : World) (H : JG w0 w d s g e f n L)
    (A : Option Addr) (c : Nat) (p : List Nat) (k : Nat) (hk : p.length = k) (hc : k ≤ c) (hcm : c ≤ maxLen) (hz : A = none → c = 0) (hp : IsBytes w w.heap.size A p) (hA : p ≠ [] → ∀ a, A = some a → ¬ d.has a.block) :
    Calls Try.prog 47 #[.pointer (some ⟨g, 0, none⟩), .slice A k c] w fun e' w' => Hid (Did w0 w d s g e f n L p e' w' ∧ Turned (fun b => d.has b ∨ b = g) w w') := by
  have hll := Jo.len_total L
  have hfit := H.good.fit
  have hsz := H.sz
  by_cases hlong : 32768 < k
  · refine (append_long g A c k hlong w).mono ?_
    rintro e' w' ⟨he, hb⟩
    exact ⟨.long (by rw [hk]; exact hlong) he (H.below hb), Turned.ofBelow _ hb⟩
  · by_cases hroom : Jo.secs k ≤ n - Jo.total L
    · refine (append_goes (fun b => b < w0.heap.size) d s g e (f + Jo.total L) (n - Jo.total L) L.length (by have := H.ep; unfold InInt; omega) (by omega) (by omega) (by have := H.len; omega) w (fun b hb => by have := H.disk.bel.size; omega) H.disk.at_ H.jn A c p k hk hc hcm hz
        (fun w' ht => bytes_turned hp hA ht) (by omega) hroom).mono ?_
      intro e' w' R
      have hle : p.length ≤ 32768 := by omega
      have hro : Jo.secs p.length ≤ n - Jo.total L := by rw [hk]; exact hroom
      have hbel : Below w0.heap.size w0 w' := H.disk.bel.trans (R.turned.below H.disk.bel.size (fun b hb => hb.elim (H.disk.ge b) (fun hb => by subst hb; exact H.ge)))
      refine ⟨?_, R.turned⟩
      by_cases h0 : (Jo.run s (f + Jo.total L) (Jo.secsOf e (L.length + 1 : Nat) p)).1 = 0
      · obtain ⟨g1, g2, g3, g4, g5⟩ := Jo.run_good H.good p hle hro h0
        have hj := R.jn
        rw [if_pos h0] at hj
        refine .done _ hle hro (by rw [R.ret, h0]) ⟨⟨R.disk, hbel⟩, H.ge, ?_, g1, H.ep, H.sz, ?_⟩ g3 g4 g5 (g2 H.ep.1)
        · rw [Jo.total_snoc, List.length_append, List.length_singleton, hk, show f + (Jo.total L + Jo.secs k) = f + Jo.total L + Jo.secs k from by omega, show n - (Jo.total L + Jo.secs k) = n - Jo.total L - Jo.secs k from by omega]
          exact hj
        · have := Jo.len_total (L ++ [p])
          have := g1.fit
          omega
      · obtain ⟨g1, g2, g3, g4⟩ := Jo.run_broken H.good p hle hro h0
        refine .broken _ hle hro (fun hs => h0 (Jo.run_safe _ s _ ?_ (Jo.secsOf_small _ _ _) hs.1 hs.2)) (by rw [R.ret, g1]) ⟨R.disk, hbel⟩ g3 g2 (fun l => ⟨(g4 l).1, (g4 l).2 H.ep.1⟩)
        rw [Jo.secsOf_length]
        have := H.good.area
        omega
    · refine (append_full g _ A c k (by omega) w H.jn (by show ((n - Jo.total L : Nat) : Int) < _; omega)).mono ?_
      rintro e' w' ⟨he, hb⟩
      exact ⟨.full (by omega) (by rw [hk]; omega) he (H.below hb), Turned.ofBelow _ hb⟩
/-- where the power cannot fail, and there is room -/
theorem append_ok (w0 : World) (d : Dk) (s : Sx.St) (g : Nat) (e : Int) (f n : Nat) (L : List (List Nat)) (w : World) (H : JG w0 w d s g e f n L) (hs : s.armed = false ∧ s.down = false)
    (A : Option Addr) (c : Nat) (p : List Nat) (k : Nat) (hk : p.length = k) (hc : k ≤ c) (hcm : c ≤ maxLen) (hz : A = none → c = 0) (hp : IsBytes w w.heap.size A p) (hA : p ≠ [] → ∀ a, A = some a → ¬ d.has a.block) (hl : k ≤ 32768) (hr : Jo.secs k ≤ n - Jo.total L) :
    Calls Try.prog 47 #[.pointer (some ⟨g, 0, none⟩), .slice A k c] w fun e' w' => e' = .returned (.int .i64 0) ∧ Hid (∃ s', JG w0 w' d s' g e f n (L ++ [p]) ∧ s'.armed = false ∧ s'.down = false ∧ s'.n = s.n ∧ (Jo.Fresh (e + 1) s → Jo.Fresh (e + 1) s') ∧ Turned (fun b => d.has b ∨ b = g) w w') := by
  refine (append_JG w0 d s g e f n L w H A c p k hk hc hcm hz hp hA).mono ?_
  rintro e' w' ⟨⟨h1, he, hj⟩ | ⟨h1, h2, he, hj⟩ | ⟨s', h1, h2, he, hj, hn, ha, hd, hf⟩ | ⟨s', h1, h2, hs', he, hj, hn, hd, hx⟩, ht⟩
  · omega
  · rw [hk] at h2; omega
  · exact ⟨he, s', hj, ha.trans hs.1, hd, hn, hf, ht⟩
  · exact absurd hs hs'
end J
end Go.Proofs.Ytdgijnolpjaheaa
namespace Go.Proofs.Ytdgijnolpjaheaa
open Go.RowKit

namespace T
/-- what an Append of a ready store does -/
inductive ADid (w0 w : World) (d : Dk) (s : Sx.St) (g gj m n : Nat) (e : Int) (p : List Nat) (L : List (List Nat)) (q : List Nat) (E : Int) (w' : World) : Prop
  | long (h : 32768 < q.length) (hE : E = 2) (hj : SG w0 w' d s g gj m n e 1 p L L.length)
  | full (h : q.length ≤ 32768) (h2 : n - Jo.total L < Jo.secs q.length) (hE : E = 8) (hj : SG w0 w' d s g gj m n e 1 p L L.length)
  | done (s' : Sx.St) (h : q.length ≤ 32768) (h2 : Jo.secs q.length ≤ n - Jo.total L) (hE : E = 0) (hj : SG w0 w' d s' g gj m n e 1 p (L ++ [q]) (L.length + 1)) (ha : s'.armed = s.armed) (hd : s'.down = false)
  | broken (s' : Sx.St) (h : q.length ≤ 32768) (h2 : Jo.secs q.length ≤ n - Jo.total L) (hs : ¬ (s.armed = false ∧ s.down = false)) (hE : E = 10) (hj : DM w0 w' d s') (hx : Dead w' g) (hd : s'.down = true) (hc : ∀ l, Sto.Held (Sx.crash s' l) m n e p L ∨ Sto.Held (Sx.crash s' l) m n e p (L ++ [q]))
set_option maxRecDepth 100000 in
set_option maxHeartbeats 2000000 in
theorem append_any (w0 : World) (d : Dk) (s : Sx.St) (g gj m n : Nat) (e : Int) (p : List Nat) (L : List (List Nat)) (c' : Nat) (w : World) (h : SG w0 w d s g gj m n e 1 p L c')
    (A : Option Addr) (c : Nat) (q : List Nat) (k : Nat) (hk : q.length = k) (hc : k ≤ c) (hcm : c ≤ maxLen) (hz : A = none → c = 0) (hq : IsBytes w w.heap.size A q) (hA : q ≠ [] → ∀ a, A = some a → ¬ d.has a.block) :
    Calls Try.prog 23 #[.pointer (some ⟨g, 0, none⟩), .slice A k c] w fun e' w' => ∃ E, e' = .returned (.int .i64 E) ∧ Hid (ADid w0 w d s g gj m n e p L q E w' ∧ Turned (fun b => d.has b ∨ b = g ∨ b = gj) w w') := by
  obtain ⟨hgood, he1, hcl⟩ := h.ready rfl
  subst hcl
  obtain ⟨ej, nx, rm, hJ, hjn⟩ := h.jn
  obtain ⟨rfl, rfl, rfl⟩ := hjn rfl
  obtain ⟨c0, c1, c2, c3, c4⟩ := h.store.cells
  obtain ⟨z1, z2, z3, z4, z5⟩ := h.sizes
  have hfit := hgood.fit
  have hlt := Jo.len_total L
  have hne := h.off.2.2
  have HX := hid h
  have key : ∀ (E : Int) (w3 : World), Turned (fun b => d.has b ∨ b = gj) w w3 → SAt w3 g ⟨some ⟨gj, 0, none⟩, d.g, (m : Nat), ej, 1⟩ := fun E w3 ht => h.store.keep ht (fun hh => hh.elim h.off.1 (fun hh => hne hh.symm))
  have HK := hid key
  -- what the journal's Append does
  obtain ⟨E, s', L', nx', rm', ct', hcall, hcase⟩ : ∃ (E : Int) (s' : Sx.St) (L' : List (List Nat)) (nx' rm' ct' : Int),
      Hid (Calls Try.prog 47 #[.pointer (some ⟨gj, 0, none⟩), .slice A k c] w fun e' w' => e' = .returned (.int .i64 E) ∧ Hid (DiskAt w' (fun b => b < w0.heap.size) d s' ∧ JAt w' gj ⟨d.g, ej, nx', rm', ct'⟩ ∧ Turned (fun b => d.has b ∨ b = gj) w w')) ∧
      Hid ((E = 2 ∧ s' = s ∧ nx' = (2 * m + Jo.total L : Nat) ∧ rm' = (n - Jo.total L : Nat) ∧ ct' = (L.length : Nat) ∧ 32768 < q.length) ∨
       (E = 8 ∧ s' = s ∧ nx' = (2 * m + Jo.total L : Nat) ∧ rm' = (n - Jo.total L : Nat) ∧ ct' = (L.length : Nat) ∧ q.length ≤ 32768 ∧ n - Jo.total L < Jo.secs q.length) ∨
       (E = 0 ∧ Sto.Held s' m n ej p (L ++ [q]) ∧ Jo.Good s' ej (2 * m) n (L ++ [q]) ∧ s'.armed = s.armed ∧ s'.down = false ∧ nx' = (2 * m + Jo.total (L ++ [q]) : Nat) ∧ rm' = (n - Jo.total (L ++ [q]) : Nat) ∧ ct' = (L.length + 1 : Nat) ∧ q.length ≤ 32768 ∧ Jo.secs q.length ≤ n - Jo.total L) ∨
       (E = 10 ∧ s'.down = true ∧ ¬ (s.armed = false ∧ s.down = false) ∧ (∀ l, Sto.Held (Sx.crash s' l) m n ej p L ∨ Sto.Held (Sx.crash s' l) m n ej p (L ++ [q])) ∧ q.length ≤ 32768 ∧ Jo.secs q.length ≤ n - Jo.total L)) := by
    by_cases hlong : 32768 < k
    · refine ⟨2, s, [], _, _, _, hid ((J.append_long gj A c k hlong w).mono ?_), hid (.inl ⟨rfl, rfl, rfl, rfl, rfl, by omega⟩)⟩
      rintro e' w' ⟨h1, h2⟩
      exact ⟨h1, hid ⟨h.disk.at_.below h2, hJ.below h2, Turned.ofBelow _ h2⟩⟩
    · by_cases hroom : Jo.secs k ≤ n - Jo.total L
      · have hro : Jo.secs q.length ≤ n - Jo.total L := by rw [hk]; exact hroom
        have hle : q.length ≤ 32768 := by omega
        have h1 := J.append_goes (fun b => b < w0.heap.size) d s gj ej (2 * m + Jo.total L) (n - Jo.total L) L.length (by unfold InInt; omega) (by omega) (by omega) (by omega) w (fun b hb => Nat.lt_of_lt_of_le hb h.disk.bel.size) h.disk.at_ hJ A c q k hk hc hcm hz (fun w' ht => bytes_turned hq hA ht) (by omega) hroom
        rcases Sto.append h.held (by omega) hgood hle hro with ⟨a1, a2, a3, a4, a5⟩ | ⟨a1, a2, a3⟩
        · refine ⟨0, _, [], _, _, _, hid (h1.mono ?_), hid (.inr (.inr (.inl ⟨rfl, a2, a3, a4, a5, rfl, rfl, rfl, hle, hro⟩)))⟩
          intro e' w' R
          have hj := R.jn
          rw [if_pos a1] at hj
          refine ⟨by rw [R.ret, a1], hid ⟨R.disk, ?_, R.turned⟩⟩
          rw [Jo.total_snoc, hk, show 2 * m + (Jo.total L + Jo.secs k) = 2 * m + Jo.total L + Jo.secs k from by omega, show n - (Jo.total L + Jo.secs k) = n - Jo.total L - Jo.secs k from by omega]
          exact hj
        · refine ⟨10, _, [], (2 * m + Jo.total L : Nat), (n - Jo.total L : Nat), (L.length : Nat), hid (h1.mono ?_), hid (.inr (.inr (.inr ⟨rfl, a2, fun hs => ?_, a3, hle, hro⟩)))⟩
          · intro e' w' R
            have hj := R.jn
            rw [if_neg (by rw [a1]; decide)] at hj
            exact ⟨by rw [R.ret, a1], hid ⟨R.disk, hj, R.turned⟩⟩
          · have h2 := Jo.run_safe (Jo.secsOf ej (L.length + 1 : Nat) q) s (2 * m + Jo.total L) (by rw [Jo.secsOf_length]; omega) (Jo.secsOf_small _ _ _) hs.1 hs.2
            rw [a1] at h2
            cases h2
      · refine ⟨8, s, [], _, _, _, hid ((J.append_full gj _ A c k (by omega) w hJ (by show ((n - Jo.total L : Nat) : Int) < _; omega)).mono ?_), hid (.inr (.inl ⟨rfl, rfl, rfl, rfl, rfl, by omega, by rw [hk]; omega⟩))⟩
        rintro e' w' ⟨h1, h2⟩
        exact ⟨h1, hid ⟨h.disk.at_.below h2, hJ.below h2, Turned.ofBelow _ h2⟩⟩
  have HD : Hid (∀ (w3 w4 : World), DiskAt w3 (fun b => b < w0.heap.size) d s' → JAt w3 gj ⟨d.g, ej, nx', rm', ct'⟩ → Turned (fun b => d.has b ∨ b = gj) w w3 → (E ≠ 10 → w4 = w3) → (E = 10 → w4 = w3.setCell ⟨g, 4, none⟩ (.int .i64 2)) → ADid w0 w d s g gj m n ej p L q E w4 ∧ Turned (fun b => d.has b ∨ b = g ∨ b = gj) w w4) := hid (fun w3 w4 hD3 hJ3 hT3 hn hy => by
    have hT3' : Turned (fun b => d.has b ∨ b = g ∨ b = gj) w w3 := hT3.mono (fun _ h => h.imp id .inr)
    have hS3 := HK.out E w3 hT3
    have hbel := HX.out.bel hT3'
    rcases hcase.out with ⟨rfl, rfl, rfl, rfl, rfl, h1⟩ | ⟨rfl, rfl, rfl, rfl, rfl, h1, h2⟩ | ⟨rfl, h1, h2, h3, h4, rfl, rfl, rfl, h5, h6⟩ | ⟨rfl, h1, h2, h3, h4, h5⟩
    · have := hn (by decide)
      subst this
      exact ⟨.long h1 rfl ⟨⟨hD3, hbel⟩, HX.out.ge, hS3, ⟨_, _, _, hJ3, fun _ => ⟨rfl, rfl, rfl⟩⟩, HX.out.held, HX.out.ready⟩, hT3'⟩
    · have := hn (by decide)
      subst this
      exact ⟨.full h1 h2 rfl ⟨⟨hD3, hbel⟩, HX.out.ge, hS3, ⟨_, _, _, hJ3, fun _ => ⟨rfl, rfl, rfl⟩⟩, HX.out.held, HX.out.ready⟩, hT3'⟩
    · have := hn (by decide)
      subst this
      exact ⟨.done s' h5 h6 rfl ⟨⟨hD3, hbel⟩, HX.out.ge, hS3, ⟨_, _, _, hJ3, fun _ => ⟨rfl, rfl, rfl⟩⟩, h1, fun _ => ⟨h2, (HX.out.ready rfl).2.1, by simp⟩⟩ h3 h4, hT3'⟩
    · have := hy rfl
      subst this
      have hT4 := hT3'.setCell g 4 (.int .i64 2) (fun _ => .inr (.inl rfl))
      exact ⟨.broken s' h4 h5 h2 rfl ⟨hS3.disk hD3 4 _, HX.out.bel hT4⟩ ⟨_, hS3.set4 2, rfl⟩ h1 h3, hT4⟩)
  have HS3 := hid (fun (w3 : World) (ht : Turned (fun b => d.has b ∨ b = gj) w w3) => pass_any g _ E w3 (HK.out E w3 ht))
  clear hcase key hJ hgood hfit hlt hne c1 c2 c3 h hq hA HK hjn
  go_enter Try.func23, Try.ntmps23
  go_wp2_with fail
  refine hcall.out.mono ?_
  rintro e3 w3 ⟨rfl, h3⟩
  go_wp2_with fail
  refine (HS3.out w3 h3.out.2.2).mono ?_
  rintro e4 w4 ⟨rfl, hn, hy⟩
  have H4 := hid (HD.out w3 w4 h3.out.1 h3.out.2.1 h3.out.2.2 hn hy)
  clear hn hy
  go_wp2
  go_ret
  exact ⟨E, rfl, H4⟩
end T
end Go.Proofs.Ytdgijnolpjaheaa
