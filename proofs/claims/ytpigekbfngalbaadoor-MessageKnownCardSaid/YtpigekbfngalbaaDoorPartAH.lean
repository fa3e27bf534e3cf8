/- Texts of the proof, one behind the other: MsMath2, MsN, EntsIn, MsDoor, MsMath3, KitEnEq, KitEnCopy, SpoilB. -/
import Derived.Test.YtpigekbfngalbaaDoorPartAG
import Derived.Test.YtpigekbfngalbaaDoorPartAC
import Derived.Deep.Slices
import Derived.Deep.Fields
import Derived.ChangeSame
import Derived.WalkLawsBesides
import Derived.ProofKit
import Derived.OpenShut
import Derived.LaidMore
import Derived.LaidLaws
import Derived.Stop.Joined
import Derived.Test.YtpigekbfngalbaaDoorPartAD
import Derived.StillTailTactics
import Derived.Deep.QuietTactic
import Derived.BigQuiet
import Derived.Test.YtpigekbfngalbaaDoorPartAE
import Derived.Deep.RegionHeld3
import Derived.Test.YtpigekbfngalbaaDoorRows
import Derived.Test.YtpigekbfngalbaaDoorPartAB
namespace Go.Proofs.YtpigekbfngalbaaDoor.Ms
open Rl (En)
open Pk (St rdInt rdBlob)
set_option maxRecDepth 100000
set_option linter.unusedVariables false

/-! Not great. -/
theorem rdBlob_eats (s : St) : (rdBlob s).1.length + (rdBlob s).2.rest.length ≤ s.rest.length := by
  have := Pk.rdInt_short s
  unfold rdBlob Pk.gone
  split
  · simp
  · simp; omega
theorem rdE_eats (s : St) : (rdE s).1.d.length + (rdE s).2.rest.length ≤ s.rest.length := by
  have h1 := Pk.rdInt_short s
  have h2 := Pk.rdInt_short (rdInt s).2
  have h3 := rdBlob_eats (rdInt (rdInt s).2).2
  show (rdBlob (rdInt (rdInt s).2).2).1.length + (rdBlob (rdInt (rdInt s).2).2).2.rest.length ≤ _; omega
theorem weigh_cons (e : En) (L : List En) : weigh (e :: L) = e.d.length + weigh L := by unfold weigh; simp
theorem weigh_append (L K : List En) : weigh (L ++ K) = weigh L + weigh K := by unfold weigh; simp
theorem rdEs_eats (n : Nat) : ∀ s : St, weigh (rdEs n s).1 + (rdEs n s).2.rest.length ≤ s.rest.length := by
  induction n with
  | zero => intro s; simp [rdEs, weigh]
  | succ n ih =>
    intro s
    have h1 := rdE_eats s
    have h2 := ih (rdE s).2
    show weigh ((rdE s).1 :: (rdEs n (rdE s).2).1) + (rdEs n (rdE s).2).2.rest.length ≤ _
    rw [weigh_cons]; omega
theorem rdEs_length (n : Nat) : ∀ s : St, (rdEs n s).1.length = n := by
  induction n with
  | zero => intro s; rfl
  | succ n ih => intro s; show ((rdE s).1 :: (rdEs n (rdE s).2).1).length = _; rw [List.length_cons, ih]
theorem rdF_small {m m' : M} {s s' : St} {r N : Nat} (h : rdF m s r = some (m', s')) (hs : weigh m.es + s.rest.length ≤ 65536) (hd : m.d.length ≤ 65536) (he : m.es.length ≤ N) :
    weigh m'.es + s'.rest.length ≤ 65536 ∧ m'.d.length ≤ 65536 ∧ m'.es.length ≤ N + 2800 := by
  have h1 := Pk.rdInt_short s
  unfold rdF at h
  split at h
  · split at h
    · injection h with h; injection h with h2 h3; subst h2; subst h3
      exact ⟨by show weigh m.es + _ ≤ _; omega, hd, by show m.es.length ≤ _; omega⟩
    · cases h
  · split at h
    · split at h
      · cases h
      · rename_i hn
        injection h with h; injection h with h2 h3; subst h2; subst h3
        have h4 := rdEs_eats (rdInt s).1.toNat (rdInt s).2
        have h5 := rdEs_length (rdInt s).1.toNat (rdInt s).2
        refine ⟨?_, hd, ?_⟩
        · show weigh (m.es ++ _) + _ ≤ _
          rw [weigh_append]; omega
        · show (m.es ++ _).length ≤ _
          rw [List.length_append, h5]; omega
    · split at h
      · injection h with h; injection h with h2 h3; subst h2; subst h3
        have h4 := rdBlob_eats s
        exact ⟨by show weigh m.es + _ ≤ _; omega, by show (rdBlob s).1.length ≤ _; omega, by show m.es.length ≤ _; omega⟩
      · injection h with h; injection h with h2 h3; subst h2; subst h3
        have h4 := set_es m r (rdInt s).1
        rw [h4.1, h4.2]
        exact ⟨by omega, hd, by omega⟩
theorem rdFs_small : ∀ (L : List Nat) {m m' : M} {s s' : St} {N : Nat} (h : rdFs L m s = some (m', s')) (hs : weigh m.es + s.rest.length ≤ 65536) (hd : m.d.length ≤ 65536) (he : m.es.length ≤ N),
    weigh m'.es + s'.rest.length ≤ 65536 ∧ m'.d.length ≤ 65536 ∧ m'.es.length ≤ N + 2800 * L.length := by
  intro L
  induction L with
  | nil =>
    intro m m' s s' N h hs hd he
    injection h with h; injection h with h2 h3; subst h2; subst h3
    exact ⟨hs, hd, by simpa using he⟩
  | cons r L ih =>
    intro m m' s s' N h hs hd he
    have h' : (match rdF m s r with | none => none | some (m', s') => rdFs L m' s') = some (m', s') := h
    rcases hr : rdF m s r with _ | ⟨m1, s1⟩
    · rw [hr] at h'; cases h'
    · rw [hr] at h'
      obtain ⟨h1, h2, h3⟩ := rdF_small hr hs hd he
      obtain ⟨h4, h5, h6⟩ := ih h' h1 h2 h3
      exact ⟨h4, h5, by rw [List.length_cons]; omega⟩
theorem head3_parts (p : List Nat) : (head3 p).1.es = [] ∧ (head3 p).1.d = [] ∧ (head3 p).2.rest.length ≤ p.length := by
  refine ⟨rfl, rfl, ?_⟩
  have h1 := Pk.rdInt_short ⟨p, false⟩
  have h2 := Pk.rdInt_short (rdInt ⟨p, false⟩).2
  have h3 := Pk.rdInt_short (rdInt (rdInt ⟨p, false⟩).2).2
  have h4 : (⟨p, false⟩ : St).rest.length = p.length := rfl
  show (rdInt (rdInt (rdInt ⟨p, false⟩).2).2).2.rest.length ≤ _
  omega
theorem M0_small : Small M0 := ⟨Nat.zero_le _, by unfold weigh; exact Nat.zero_le _, Nat.zero_le _⟩
theorem dec_small (p : List Nat) (hp : p.length ≤ 65536) : Small (dec p).1 := by
  unfold dec
  split
  · exact M0_small
  · split
    · exact M0_small
    · split
      · exact M0_small
      · rename_i m hb
        unfold body at hb
        rcases hr : rdFs (tab (head3 p).1.kind) (head3 p).1 (head3 p).2 with _ | ⟨m1, s1⟩
        · rw [hr] at hb; cases hb
        · rw [hr] at hb
          simp only [] at hb
          split at hb
          · injection hb with hb; subst hb
            obtain ⟨h1, h2, h3⟩ := head3_parts p
            obtain ⟨h4, h5, h6⟩ := rdFs_small (N := 0) _ hr (by rw [h1]; unfold weigh; simp; omega) (by rw [h2]; simp) (by rw [h1]; simp)
            have := tab_length (head3 p).1.kind
            exact ⟨by show m1.es.length ≤ _; omega, by show weigh m1.es ≤ _; omega, by show m1.d.length ≤ _; omega⟩
          · cases hb
end Go.Proofs.YtpigekbfngalbaaDoor.Ms
namespace Go.Proofs.YtpigekbfngalbaaDoor.Ms
open Go.RowKit
set_option maxRecDepth 100000
set_option linter.unusedVariables false
attribute [local go_sem ↓] loadAt_msg storeAt_msg

theorem OwnM.inp {w : World} {B : Nat} {m : M} {A A' : Option Addr} {c c' : Nat} (h : OwnM w B m A c A' c') (hT : Tab w) (hs : Small m) : Inp w m A := ⟨hT, h.es.reads, hs⟩
theorem OwnM.below {w w' : World} {B : Nat} {m : M} {A A' : Option Addr} {c c' : Nat} (h : OwnM w B m A c A' c') (hb : Below w.heap.size w w') : OwnM w' B m A c A' c' :=
  ⟨h.num, (h.es.below hb).wide (Nat.le_refl _) hb.size, h.d.below hb, h.one, h.few⟩
theorem OwnM.weaken {w : World} {B B' : Nat} {m : M} {A A' : Option Addr} {c c' : Nat} (h : OwnM w B m A c A' c') (hB : B' ≤ B) : OwnM w B' m A c A' c' :=
  ⟨h.num, h.es.wide hB (Nat.le_refl _), h.d.weaken hB, h.one, h.few⟩
/-- .. and behind a store into a box ahead of what it leads to -/
theorem OwnM.turned {w w' : World} {B b : Nat} {m : M} {A A' : Option Addr} {c c' : Nat} (h : OwnM w B m A c A' c') (ht : Turned (fun k => k = b) w w') (hb : b < B) : OwnM w' B m A c A' c' :=
  ⟨h.num, (h.es.keep ht (fun k hk hB => by have := hB.1; omega)).wide (Nat.le_refl _) ht.size, h.d.turned ht (fun k hk e => by have := h.d.blkLt k hk; omega), h.one, h.few⟩
theorem get_frame {b : List Nat} {p : List Nat} {n e : Nat} (h : Fr.get b = (p, n, e)) (he : e ≠ 0) : get b = (M0, e) := by
  unfold get; rw [h, if_pos he]
theorem get_long {b : List Nat} {p : List Nat} {n : Nat} (h : Fr.get b = (p, n, 0)) (hn : n < b.length) : get b = (M0, 2) := by
  unfold get; rw [h, if_neg (by simp), if_pos hn]
theorem get_dec {b : List Nat} {p : List Nat} {n e : Nat} {m : M} (h : Fr.get b = (p, n, 0)) (hn : ¬ n < b.length) (hd : dec p = (m, e)) (he : e ≠ 0) : get b = (M0, e) := by
  unfold get checked; rw [h, if_neg (by simp), if_neg hn, hd, if_pos he]
theorem get_check {b : List Nat} {p : List Nat} {n : Nat} {m : M} (h : Fr.get b = (p, n, 0)) (hn : ¬ n < b.length) (hd : dec p = (m, 0)) (he : check m ≠ 0) : get b = (M0, check m) := by
  unfold get checked; rw [h, if_neg (by simp), if_neg hn, hd, if_neg (by simp), if_pos he]
theorem get_ok {b : List Nat} {p : List Nat} {n : Nat} {m : M} (h : Fr.get b = (p, n, 0)) (hn : ¬ n < b.length) (hd : dec p = (m, 0)) (he : check m = 0) : get b = (m, 0) := by
  unfold get checked; rw [h, if_neg (by simp), if_neg hn, hd, if_neg (by simp), if_neg (by simp [he])]
theorem get_zero {w0 w w' : World} {l : List Nat} {n : Nat} (hd : get l = (M0, n)) (hb : Below w.heap.size w w') :
    ∃ A c A' c', Ending.returned (.tuple #[.agg #[.int .i64 M0.K, .int .i64 M0.F, .int .i64 M0.T, .int .i64 M0.g, .int .i64 M0.t, .int .i64 M0.i, .int .i64 M0.p, .int .i64 M0.c, .int .i64 M0.r, .int .i64 M0.x, .int .i64 M0.a, .int .i64 M0.b, .int .i64 M0.v, .int .i64 M0.s, .bool M0.ok, .slice none M0.es.length 0, .slice none M0.d.length 0], .int .i64 (n : Int)]) = .returned (.tuple #[.agg #[.int .i64 ((get l).1).K, .int .i64 ((get l).1).F, .int .i64 ((get l).1).T, .int .i64 ((get l).1).g, .int .i64 ((get l).1).t, .int .i64 ((get l).1).i, .int .i64 ((get l).1).p, .int .i64 ((get l).1).c, .int .i64 ((get l).1).r, .int .i64 ((get l).1).x, .int .i64 ((get l).1).a, .int .i64 ((get l).1).b, .int .i64 ((get l).1).v, .int .i64 ((get l).1).s, .bool ((get l).1).ok, .slice A ((get l).1).es.length c, .slice A' ((get l).1).d.length c'], .int .i64 (((get l).2 : Nat) : Int)]) ∧ OwnM w' w.heap.size (get l).1 A c A' c' ∧ Below w.heap.size w w' := by
  rw [hd]; exact ⟨none, 0, none, 0, rfl, OwnM.zero _ _, hb⟩
theorem fr_short (b : List Nat) : (Fr.get b).1.length ≤ 65536 := by
  rcases Fr.get_cases b with h | ⟨h1, h2, h3, h4, h5⟩
  · rcases h with h | h | h <;> rw [h] <;> exact Nat.zero_le _
  · rw [h5]; show ((b.drop 8).take _).length ≤ _; rw [List.length_take]; omega
set_option maxHeartbeats 6400000 in
theorem get_any (l : List Nat) (A0 : Option Addr) (c0 n0 : Nat) (hn0 : l.length = n0) (w : World) (h : IsBytes w w.heap.size A0 l) (hn : A0 = none → c0 = 0) (hc : n0 ≤ c0) (hl : n0 ≤ 140737488355000) (hT : Tab w) :
    Calls Tryd.prog 22 #[.slice A0 n0 c0] w fun e w' => ∃ A c A' c', e = .returned (.tuple #[.agg #[.int .i64 ((get l).1).K, .int .i64 ((get l).1).F, .int .i64 ((get l).1).T, .int .i64 ((get l).1).g, .int .i64 ((get l).1).t, .int .i64 ((get l).1).i, .int .i64 ((get l).1).p, .int .i64 ((get l).1).c, .int .i64 ((get l).1).r, .int .i64 ((get l).1).x, .int .i64 ((get l).1).a, .int .i64 ((get l).1).b, .int .i64 ((get l).1).v, .int .i64 ((get l).1).s, .bool ((get l).1).ok, .slice A ((get l).1).es.length c, .slice A' ((get l).1).d.length c'], .int .i64 (((get l).2 : Nat) : Int)]) ∧ OwnM w' w.heap.size (get l).1 A c A' c' ∧ Below w.heap.size w w' := by
  obtain ⟨wA, hwA⟩ : ∃ wA, wA = w.alloc (.cells #[.int .i64 0, .int .i64 0, .int .i64 0, .int .i64 0, .int .i64 0, .int .i64 0, .int .i64 0, .int .i64 0, .int .i64 0, .int .i64 0, .int .i64 0, .int .i64 0, .int .i64 0, .int .i64 0, .bool false, .slice none 0 0, .slice none 0 0] 25) := ⟨_, rfl⟩
  have hsA : wA.heap.size = w.heap.size + 1 := by rw [hwA]; simp
  have hbA : Below w.heap.size w wA := by rw [hwA]; exact (Below.refl _ w).alloc (Nat.le_refl _) _
  have hzA : Zero wA w.heap.size := by rw [hwA]; exact heap_alloc_new w _
  have hpos := hT.pos
  obtain ⟨p, nn, ee, hg⟩ : ∃ p nn ee, Fr.get l = (p, nn, ee) := ⟨_, _, _, rfl⟩
  have hpl : p.length ≤ 65536 := by have := fr_short l; rw [hg] at this; exact this
  have HFR := hid (Frame.get_N wA.heap.size A0 c0 l n0 hn0 hl hc wA ((h.below hbA).more hbA.size) (Nat.le_refl _) hn p nn ee hg p.length rfl nn ee rfl rfl)
  have HG := hid hg
  have HN0 := hid hn0
  have HT := hid hT
  have HW := hid (And.intro hbA hzA)
  clear hg h hT hn hn0 hbA hzA
  go_enter Tryd.func22, Tryd.ntmps22
  go_wp2_with fail
  rw [← hwA]
  refine HFR.out.mono ?_
  rintro e w1 ⟨A1, c1, rfl, ho, hb1⟩
  have HB1 : Hid (Below w.heap.size w w1 ∧ Zero w1 w.heap.size ∧ OwnsB 5 w1 wA.heap.size A1 c1 p) := hid ⟨HW.out.1.trans (hb1.mono (by omega)), (hb1.block _ (by omega)).trans HW.out.2, ho⟩
  have hst1 := zero_st HB1.out.2.1
  have hw1 := hb1.size
  clear HFR ho hb1
  by_cases he : ee = 0
  · subst he
    by_cases hlong : nn < n0
    · have HD := hid (get_long HG.out (by rw [HN0.out]; exact hlong))
      go_wp2_with fail
      refine bodyPost_ret (results_msg rfl _ _ w.heap.size _ _ _ rfl HB1.out.2.1 rfl) rfl ?_
      exact get_zero (w0 := w) HD.out HB1.out.1
    · have HNL : Hid (¬ nn < l.length) := hid (by rw [HN0.out]; exact hlong)
      have hdec := decode_any p A1 c1 w1 HB1.out.2.2.reads HB1.out.2.2.none_ hpl (HT.out.below HB1.out.1 hpos)
      obtain ⟨m, e1, hd⟩ : ∃ m e1, dec p = (m, e1) := ⟨_, _, rfl⟩
      have hsm := dec_small p hpl
      rw [hd] at hdec hsm
      have HDC := hid hdec
      have HD := hid hd
      have HSM : Hid (Small m) := hid hsm
      clear hdec hd hsm hst1
      go_wp2_with fail
      refine HDC.out.mono ?_
      rintro e w2 ⟨A, c, A', c', rfl, hom, hb2⟩
      have hom2 : OwnM w2 w1.heap.size m A c A' c' := hom
      obtain ⟨w3, hw3⟩ : ∃ w3, w3 = w2.alloc (.cells #[.int .i64 m.K, .int .i64 m.F, .int .i64 m.T, .int .i64 m.g, .int .i64 m.t, .int .i64 m.i, .int .i64 m.p, .int .i64 m.c, .int .i64 m.r, .int .i64 m.x, .int .i64 m.a, .int .i64 m.b, .int .i64 m.v, .int .i64 m.s, .bool m.ok, .slice A m.es.length c, .slice A' m.d.length c'] 25) := ⟨_, rfl⟩
      have hb3 : Below w2.heap.size w2 w3 := by rw [hw3]; exact (Below.refl _ w2).alloc (Nat.le_refl _) _
      have hbx : Bx w3 w2.heap.size m A c A' c' := by rw [hw3]; exact ⟨heap_alloc_new w2 _⟩
      have hst2 := st_new w2 #[.int .i64 0, .int .i64 0, .int .i64 0, .int .i64 0, .int .i64 0, .int .i64 0, .int .i64 0, .int .i64 0, .int .i64 0, .int .i64 0, .int .i64 0, .int .i64 0, .int .i64 0, .int .i64 0, .bool false, .slice none 0 0, .slice none 0 0] #[.int .i64 m.K, .int .i64 m.F, .int .i64 m.T, .int .i64 m.g, .int .i64 m.t, .int .i64 m.i, .int .i64 m.p, .int .i64 m.c, .int .i64 m.r, .int .i64 m.x, .int .i64 m.a, .int .i64 m.b, .int .i64 m.v, .int .i64 m.s, .bool m.ok, .slice A m.es.length c, .slice A' m.d.length c'] rfl rfl (msg_one m A c A' c')
      rw [← hw3] at hst2
      have hw2 := hb2.size
      have hbw : Below w.heap.size w w3 := HB1.out.1.trans ((hb2.mono HB1.out.1.size).trans (hb3.mono (by have := HB1.out.1.size; omega)))
      have hz3 : Zero w3 w.heap.size := (hb3.block _ (by omega)).trans ((hb2.block _ (by omega)).trans HB1.out.2.1)
      have hom3 := hom2.below hb3
      have HX := hid (And.intro hbw (And.intro hz3 (And.intro hbx (And.intro hom3 hb3.size))))
      have hst3 := zero_st hz3
      have hld3 := hbx.load
      have HCK := hid (check_any m A c A' c' w3 (hom3.inp (HT.out.below hbw hpos) HSM.out))
      clear hom hom2 hb2 hb3 hbx hbw hz3 hom3 hw3
      show _
      simp only []
      by_cases he1 : e1 = 0
      · subst he1
        go_wp2_with fail
        refine HCK.out.mono ?_
        rintro e w4 ⟨rfl, hb4⟩
        have hz4 : Zero w4 w.heap.size := (hb4.block _ (by have := HX.out.2.2.2.2; omega)).trans HX.out.2.1
        have hst4 := zero_st hz4
        have HZ4 := hid (And.intro hz4 (HX.out.1.trans (hb4.mono HX.out.1.size)))
        by_cases hck : check m = 0
        · have HDD := hid (get_ok HG.out HNL.out HD.out hck)
          have hbx4 := HX.out.2.2.1.below hb4 (row_lt HX.out.2.2.1.row)
          have hld4 := hbx4.load
          have hst5 := st_row w4 w.heap.size _ #[.int .i64 m.K, .int .i64 m.F, .int .i64 m.T, .int .i64 m.g, .int .i64 m.t, .int .i64 m.i, .int .i64 m.p, .int .i64 m.c, .int .i64 m.r, .int .i64 m.x, .int .i64 m.a, .int .i64 m.b, .int .i64 m.v, .int .i64 m.s, .bool m.ok, .slice A m.es.length c, .slice A' m.d.length c'] hz4 rfl rfl (msg_one m A c A' c')
          have htu := set_turned w4 w.heap.size #[.int .i64 m.K, .int .i64 m.F, .int .i64 m.T, .int .i64 m.g, .int .i64 m.t, .int .i64 m.i, .int .i64 m.p, .int .i64 m.c, .int .i64 m.r, .int .i64 m.x, .int .i64 m.a, .int .i64 m.b, .int .i64 m.v, .int .i64 m.s, .bool m.ok, .slice A m.es.length c, .slice A' m.d.length c']
          have hro : (w4.setRow w.heap.size #[.int .i64 m.K, .int .i64 m.F, .int .i64 m.T, .int .i64 m.g, .int .i64 m.t, .int .i64 m.i, .int .i64 m.p, .int .i64 m.c, .int .i64 m.r, .int .i64 m.x, .int .i64 m.a, .int .i64 m.b, .int .i64 m.v, .int .i64 m.s, .bool m.ok, .slice A m.es.length c, .slice A' m.d.length c']).heap[w.heap.size]? = some (.cells #[.int .i64 m.K, .int .i64 m.F, .int .i64 m.T, .int .i64 m.g, .int .i64 m.t, .int .i64 m.i, .int .i64 m.p, .int .i64 m.c, .int .i64 m.r, .int .i64 m.x, .int .i64 m.a, .int .i64 m.b, .int .i64 m.v, .int .i64 m.s, .bool m.ok, .slice A m.es.length c, .slice A' m.d.length c'] 25 (0, 0)) := setRow_heap w4 w.heap.size _ _ _ _ hz4
          have hom5 := ((HX.out.2.2.2.1.below hb4).turned htu (by omega)).weaken (B' := w.heap.size) (by omega)
          have HE := hid (And.intro hro (And.intro hom5 (HZ4.out.2.trans (htu.below HZ4.out.2.size (fun k hk => by omega)))))
          rw [hck]
          clear hz4 hb4 hst4 htu hro hom5 hbx4 hck hst3 hst2 hld3
          generalize (w4.setRow w.heap.size #[.int .i64 m.K, .int .i64 m.F, .int .i64 m.T, .int .i64 m.g, .int .i64 m.t, .int .i64 m.i, .int .i64 m.p, .int .i64 m.c, .int .i64 m.r, .int .i64 m.x, .int .i64 m.a, .int .i64 m.b, .int .i64 m.v, .int .i64 m.s, .bool m.ok, .slice A m.es.length c, .slice A' m.d.length c']) = w9 at hst5 HE
          go_wp2_with fail
          refine bodyPost_ret (results_msg rfl _ _ w.heap.size _ _ _ rfl HE.out.1 rfl) rfl ?_
          rw [HDD.out]
          exact ⟨A, c, A', c', rfl, HE.out.2.1, HE.out.2.2⟩
        · have HDD := hid (get_check HG.out HNL.out HD.out hck)
          clear hz4 hb4 hst3 hst2 hld3
          go_wp2_with fail
          refine bodyPost_ret (results_msg rfl _ _ w.heap.size _ _ _ rfl HZ4.out.1 rfl) rfl ?_
          exact get_zero (w0 := w) HDD.out HZ4.out.2
      · have HDD := hid (get_dec HG.out HNL.out HD.out he1)
        go_wp2_with fail
        refine bodyPost_ret (results_msg rfl _ _ w.heap.size _ _ _ rfl HX.out.2.1 rfl) rfl ?_
        exact get_zero (w0 := w) HDD.out HX.out.1
  · have HD := hid (get_frame HG.out he)
    go_wp2_with fail
    refine bodyPost_ret (results_msg rfl _ _ w.heap.size _ _ _ rfl HB1.out.2.1 rfl) rfl ?_
    exact get_zero (w0 := w) HD.out HB1.out.1
end Go.Proofs.YtpigekbfngalbaaDoor.Ms
namespace Go.Proofs.YtpigekbfngalbaaDoor
open Go.RowKit Go.ChangeShapes Go.WideShapes Go.Deep

theorem bytes_of_trod {H : Type} {enc : TypeId × Value → H} {W : World} {fuel : Nat} {cs : List Value} {x : DataW H × List MemPlace} (h : DataW.trod enc Tryd.prog W 0 (fun _ => true) true fuel 23 cs = some x) :
    ∃ (a : Option Addr) (c : Nat) (l : List Nat), cs = [.slice a l.length c] ∧ IsBytes W W.heap.size a l ∧ (l.length ≤ c ∧ c ≤ maxLen) ∧ (a = none → c = 0) := by
  rcases open_ints Tryd.underlying23 Tryd.underlying5 (by kernel_rfl) h with ⟨hcs, _⟩ | ⟨x, l, c, zs, hcs, _, hl, hm, hz, hx, hcell, hwz⟩
  · exact ⟨none, 0, [], hcs, IsBytes.nil, ⟨Nat.le_refl _, Nat.zero_le _⟩, fun _ => rfl⟩
  · simp only [if_true] at hz
    obtain ⟨m, h1, h2⟩ := isBytes_of_ints hl hz hcell hwz
    subst h2
    exact ⟨some x, c, m, hcs, h1, ⟨hl, hm⟩, fun h => by cases h⟩
theorem int_of_trod {H : Type} {enc : TypeId × Value → H} {W : World} {fuel : Nat} {cs : List Value} {x : DataW H × List MemPlace} (h : DataW.trod enc Tryd.prog W 0 (fun _ => true) true fuel 3 cs = some x) : ∃ n, cs = [.int .i64 n] ∧ InInt n := by
  obtain ⟨n, h1, _, h2⟩ := DataW.trod_int Tryd.underlying3 h
  exact ⟨n, h1, bounds_i64 h2⟩
theorem one_cell {cs : List Value} {n : Nat} (h : cs.length = n) (j : Nat) (hj : j < n) : (cs.drop j).take 1 = [cs[j]'(by omega)] := by
  rw [List.drop_eq_getElem_cons (by omega)]
  rfl
theorem cellsOf_ent : Tryd.prog.cellsOf 61 = 3 := by kernel_rfl
set_option maxRecDepth 100000 in
theorem ent_of_trod1 {H : Type} {enc : TypeId × Value → H} {W : World} {fuel : Nat} {a : Addr} {cs : List Value} {x : DataW H × List MemPlace} (hc : W.cells? 0 a 3 = some cs) (h : DataW.trod enc Tryd.prog W 0 (fun _ => true) true fuel 61 cs = some x) :
    ∃ t : Rl.En, (InInt t.t ∧ InInt t.k) ∧ ∀ b o, a = ⟨b, o, none⟩ → EnAt W W.heap.size b o t := by
  obtain ⟨_, hcl, hat⟩ := World.cells?_some hc
  obtain ⟨ys, n, _, _, _, hyl, hf⟩ := DataW.trod_struct Tryd.underlying61 h
  have hyl4 : ys.length = 3 := hyl
  have e0 : DataW.trod enc Tryd.prog W 0 (fun _ => true) true n 3 ((cs.drop 0).take (Tryd.prog.cellsOf 3)) = ys[0]? := hf 0 _ rfl
  have e1 : DataW.trod enc Tryd.prog W 0 (fun _ => true) true n 3 ((cs.drop 1).take (Tryd.prog.cellsOf 3)) = ys[1]? := hf 1 _ rfl
  have e2 : DataW.trod enc Tryd.prog W 0 (fun _ => true) true n 23 ((cs.drop 2).take (Tryd.prog.cellsOf 23)) = ys[2]? := hf 2 _ rfl
  have c1 : Tryd.prog.cellsOf 3 = 1 := by kernel_rfl
  have c2 : Tryd.prog.cellsOf 23 = 1 := by kernel_rfl
  rw [c1] at e0
  rw [one_cell hcl 0 (by omega), List.getElem?_eq_getElem (by omega)] at e0
  rw [c1] at e1
  rw [one_cell hcl 1 (by omega), List.getElem?_eq_getElem (by omega)] at e1
  rw [c2] at e2
  rw [one_cell hcl 2 (by omega), List.getElem?_eq_getElem (by omega)] at e2
  obtain ⟨k0, k01, k02⟩ := int_of_trod e0
  have k01 := (List.cons.inj k01).1
  obtain ⟨k1, k11, k12⟩ := int_of_trod e1
  have k11 := (List.cons.inj k11).1
  obtain ⟨ap, cp, p, k21, p2, p3, p4⟩ := bytes_of_trod e2
  have k21 := (List.cons.inj k21).1
  refine ⟨⟨k0, k1, p⟩, ⟨k02, k12⟩, fun b o e => ?_⟩
  subst e
  have g : ∀ j, (hj : j < 3) → W.cell? ⟨b, o + j, none⟩ = some (cs[j]'(by omega)) := fun j hj => by
    have := hat j hj
    rw [List.getElem?_eq_getElem (by omega)] at this
    rw [← this]
    congr 1
    unfold Addr.add; split <;> simp [*]
  exact ⟨ap, cp, by have := g 0 (by omega); rw [k01] at this; exact this, by have := g 1 (by omega); rw [k11] at this; exact this, by have := g 2 (by omega); rw [k21] at this; exact this, p2, p3, p4⟩

set_option maxRecDepth 100000 in
theorem ents_of_trod {H : Type} {enc : TypeId × Value → H} {W : World} {fuel : Nat} {cs : List Value} {x : DataW H × List MemPlace} (h : DataW.trod enc Tryd.prog W 0 (fun _ => true) true fuel 22 cs = some x) :
    ∃ (a : Option Addr) (c : Nat) (ts : List Rl.En), cs = [.slice a ts.length c] ∧ IsEnts W W.heap.size a ts ∧ (ts.length ≤ c ∧ c ≤ maxLen) ∧ (a = none → c = 0) := by
  rcases open_slice Tryd.underlying22 h with ⟨hcs, _⟩ | ⟨a, len, cap, m, n, D, Pl, hcs, _, hl, hm, hmm, _, hi⟩
  · exact ⟨none, 0, [], hcs, IsEnts.nil, ⟨Nat.le_refl _, Nat.zero_le _⟩, fun _ => rfl⟩
  · simp only [if_true] at hmm
    subst hmm
    rw [cellsOf_ent] at hi
    have hth : ∀ i, i < len → ∃ t : Rl.En, ((InInt t.t ∧ InInt t.k) ∧ ∀ b o, a.add (i * 3) = ⟨b, o, none⟩ → EnAt W W.heap.size b o t) ∧ ∃ cs, W.cells? 0 (a.add (i * 3)) 3 = some cs := fun i hlt => by
      obtain ⟨cs', h1, h2⟩ := hi i (by omega)
      obtain ⟨t, ht⟩ := ent_of_trod1 h1 h2
      exact ⟨t, ht, cs', h1⟩
    refine ⟨some a, m, (List.range len).attach.map (fun i => (hth i.1 (List.mem_range.1 i.2)).choose), ?_, ⟨fun e he => ?_, fun k hk => ?_⟩, ?_, fun h => by cases h⟩
    · rw [hcs]; simp
    · obtain ⟨i, hi, rfl⟩ := List.mem_map.1 he
      have hi2 : i.1 < len := List.mem_range.1 i.2
      exact (hth i.1 hi2).choose_spec.1.1
    · have hk' : k < len := by simpa using hk
      obtain ⟨cs0, hcs0⟩ := (hth 0 (by omega)).choose_spec.2
      obtain ⟨_, hcl, hat⟩ := World.cells?_some hcs0
      have hsp := hat 0 (by omega)
      rw [List.getElem?_eq_getElem (by omega)] at hsp
      have hlt := World.block_lt_of_cell? _ _ hsp
      have hspot := World.cell?_spot hsp
      obtain ⟨b, off, spot⟩ := a
      have hs : spot = none := by simpa [Addr.add] using hspot
      subst hs
      have hb : b < W.heap.size := by
        simpa [Addr.add] using hlt
      refine ⟨b, off, rfl, hb, fun i hi' => ?_⟩
      have hi2 : i < len := by simpa using hi'
      simp only [List.getElem_map, List.getElem_attach, List.getElem_range]
      refine (hth i hi2).choose_spec.1.2 b (off + i * 3) ?_
      unfold Addr.add; split <;> simp [*]
    · simp; exact ⟨hl, hm⟩
end Go.Proofs.YtpigekbfngalbaaDoor
namespace Go.Proofs.YtpigekbfngalbaaDoor.Ms
open Go.RowKit Go.ChangeShapes Go.WideShapes Go.Deep
set_option maxRecDepth 100000

theorem cellsOf_msg : Tryd.prog.cellsOf 25 = 17 := by kernel_rfl
theorem msg_of_trod {H : Type} {enc : TypeId × Value → H} {W : World} {fuel : Nat} {cs : List Value} {x : DataW H × List MemPlace} (hcl : cs.length = 17) (h : DataW.trod enc Tryd.prog W 0 (fun _ => true) true fuel 25 cs = some x) :
    ∃ (m : M) (A : Option Addr) (c : Nat) (A' : Option Addr) (c' : Nat), cs = (#[.int .i64 m.K, .int .i64 m.F, .int .i64 m.T, .int .i64 m.g, .int .i64 m.t, .int .i64 m.i, .int .i64 m.p, .int .i64 m.c, .int .i64 m.r, .int .i64 m.x, .int .i64 m.a, .int .i64 m.b, .int .i64 m.v, .int .i64 m.s, .bool m.ok, .slice A m.es.length c, .slice A' m.d.length c'] : Array Value).toList ∧ Is W W.heap.size m A c A' c' := by
  obtain ⟨ys, n, _, _, _, hyl, hf⟩ := DataW.trod_struct Tryd.underlying25 h
  have hyl17 : ys.length = 17 := hyl
  have ci : Tryd.prog.cellsOf 3 = 1 := by kernel_rfl
  have cb : Tryd.prog.cellsOf 4 = 1 := by kernel_rfl
  have ce : Tryd.prog.cellsOf 22 = 1 := by kernel_rfl
  have cd : Tryd.prog.cellsOf 23 = 1 := by kernel_rfl
  have e0 : DataW.trod enc Tryd.prog W 0 (fun _ => true) true n 3 ((cs.drop 0).take (Tryd.prog.cellsOf 3)) = ys[0]? := hf 0 _ rfl
  rw [ci, one_cell hcl 0 (by omega), List.getElem?_eq_getElem (by omega)] at e0
  have e1 : DataW.trod enc Tryd.prog W 0 (fun _ => true) true n 3 ((cs.drop 1).take (Tryd.prog.cellsOf 3)) = ys[1]? := hf 1 _ rfl
  rw [ci, one_cell hcl 1 (by omega), List.getElem?_eq_getElem (by omega)] at e1
  have e2 : DataW.trod enc Tryd.prog W 0 (fun _ => true) true n 3 ((cs.drop 2).take (Tryd.prog.cellsOf 3)) = ys[2]? := hf 2 _ rfl
  rw [ci, one_cell hcl 2 (by omega), List.getElem?_eq_getElem (by omega)] at e2
  have e3 : DataW.trod enc Tryd.prog W 0 (fun _ => true) true n 3 ((cs.drop 3).take (Tryd.prog.cellsOf 3)) = ys[3]? := hf 3 _ rfl
  rw [ci, one_cell hcl 3 (by omega), List.getElem?_eq_getElem (by omega)] at e3
  have e4 : DataW.trod enc Tryd.prog W 0 (fun _ => true) true n 3 ((cs.drop 4).take (Tryd.prog.cellsOf 3)) = ys[4]? := hf 4 _ rfl
  rw [ci, one_cell hcl 4 (by omega), List.getElem?_eq_getElem (by omega)] at e4
  have e5 : DataW.trod enc Tryd.prog W 0 (fun _ => true) true n 3 ((cs.drop 5).take (Tryd.prog.cellsOf 3)) = ys[5]? := hf 5 _ rfl
  rw [ci, one_cell hcl 5 (by omega), List.getElem?_eq_getElem (by omega)] at e5
  have e6 : DataW.trod enc Tryd.prog W 0 (fun _ => true) true n 3 ((cs.drop 6).take (Tryd.prog.cellsOf 3)) = ys[6]? := hf 6 _ rfl
  rw [ci, one_cell hcl 6 (by omega), List.getElem?_eq_getElem (by omega)] at e6
  have e7 : DataW.trod enc Tryd.prog W 0 (fun _ => true) true n 3 ((cs.drop 7).take (Tryd.prog.cellsOf 3)) = ys[7]? := hf 7 _ rfl
  rw [ci, one_cell hcl 7 (by omega), List.getElem?_eq_getElem (by omega)] at e7
  have e8 : DataW.trod enc Tryd.prog W 0 (fun _ => true) true n 3 ((cs.drop 8).take (Tryd.prog.cellsOf 3)) = ys[8]? := hf 8 _ rfl
  rw [ci, one_cell hcl 8 (by omega), List.getElem?_eq_getElem (by omega)] at e8
  have e9 : DataW.trod enc Tryd.prog W 0 (fun _ => true) true n 3 ((cs.drop 9).take (Tryd.prog.cellsOf 3)) = ys[9]? := hf 9 _ rfl
  rw [ci, one_cell hcl 9 (by omega), List.getElem?_eq_getElem (by omega)] at e9
  have e10 : DataW.trod enc Tryd.prog W 0 (fun _ => true) true n 3 ((cs.drop 10).take (Tryd.prog.cellsOf 3)) = ys[10]? := hf 10 _ rfl
  rw [ci, one_cell hcl 10 (by omega), List.getElem?_eq_getElem (by omega)] at e10
  have e11 : DataW.trod enc Tryd.prog W 0 (fun _ => true) true n 3 ((cs.drop 11).take (Tryd.prog.cellsOf 3)) = ys[11]? := hf 11 _ rfl
  rw [ci, one_cell hcl 11 (by omega), List.getElem?_eq_getElem (by omega)] at e11
  have e12 : DataW.trod enc Tryd.prog W 0 (fun _ => true) true n 3 ((cs.drop 12).take (Tryd.prog.cellsOf 3)) = ys[12]? := hf 12 _ rfl
  rw [ci, one_cell hcl 12 (by omega), List.getElem?_eq_getElem (by omega)] at e12
  have e13 : DataW.trod enc Tryd.prog W 0 (fun _ => true) true n 3 ((cs.drop 13).take (Tryd.prog.cellsOf 3)) = ys[13]? := hf 13 _ rfl
  rw [ci, one_cell hcl 13 (by omega), List.getElem?_eq_getElem (by omega)] at e13
  have e14 : DataW.trod enc Tryd.prog W 0 (fun _ => true) true n 4 ((cs.drop 14).take (Tryd.prog.cellsOf 4)) = ys[14]? := hf 14 _ rfl
  rw [cb, one_cell hcl 14 (by omega), List.getElem?_eq_getElem (by omega)] at e14
  have e15 : DataW.trod enc Tryd.prog W 0 (fun _ => true) true n 22 ((cs.drop 15).take (Tryd.prog.cellsOf 22)) = ys[15]? := hf 15 _ rfl
  rw [ce, one_cell hcl 15 (by omega), List.getElem?_eq_getElem (by omega)] at e15
  have e16 : DataW.trod enc Tryd.prog W 0 (fun _ => true) true n 23 ((cs.drop 16).take (Tryd.prog.cellsOf 23)) = ys[16]? := hf 16 _ rfl
  rw [cd, one_cell hcl 16 (by omega), List.getElem?_eq_getElem (by omega)] at e16
  obtain ⟨n0, p0, b0⟩ := int_of_trod e0
  obtain ⟨n1, p1, b1⟩ := int_of_trod e1
  obtain ⟨n2, p2, b2⟩ := int_of_trod e2
  obtain ⟨n3, p3, b3⟩ := int_of_trod e3
  obtain ⟨n4, p4, b4⟩ := int_of_trod e4
  obtain ⟨n5, p5, b5⟩ := int_of_trod e5
  obtain ⟨n6, p6, b6⟩ := int_of_trod e6
  obtain ⟨n7, p7, b7⟩ := int_of_trod e7
  obtain ⟨n8, p8, b8⟩ := int_of_trod e8
  obtain ⟨n9, p9, b9⟩ := int_of_trod e9
  obtain ⟨n10, p10, b10⟩ := int_of_trod e10
  obtain ⟨n11, p11, b11⟩ := int_of_trod e11
  obtain ⟨n12, p12, b12⟩ := int_of_trod e12
  obtain ⟨n13, p13, b13⟩ := int_of_trod e13
  obtain ⟨ok, p14, _⟩ := DataW.trod_bool Tryd.underlying4 e14
  obtain ⟨A, c, es, p15, h1, h2, h3⟩ := ents_of_trod e15
  obtain ⟨A', c', d, p16, h4, h5, h6⟩ := bytes_of_trod e16
  have p0 := (List.cons.inj p0).1
  have p1 := (List.cons.inj p1).1
  have p2 := (List.cons.inj p2).1
  have p3 := (List.cons.inj p3).1
  have p4 := (List.cons.inj p4).1
  have p5 := (List.cons.inj p5).1
  have p6 := (List.cons.inj p6).1
  have p7 := (List.cons.inj p7).1
  have p8 := (List.cons.inj p8).1
  have p9 := (List.cons.inj p9).1
  have p10 := (List.cons.inj p10).1
  have p11 := (List.cons.inj p11).1
  have p12 := (List.cons.inj p12).1
  have p13 := (List.cons.inj p13).1
  have p14 := (List.cons.inj p14).1
  have p15 := (List.cons.inj p15).1
  have p16 := (List.cons.inj p16).1
  refine ⟨⟨n0, n1, n2, n3, n4, n5, n6, n7, n8, n9, n10, n11, n12, n13, ok, es, d⟩, A, c, A', c', ?_, ⟨?_, h1, h2, h3, h4, h5, h6⟩⟩
  · match cs, hcl with
    | [x0, x1, x2, x3, x4, x5, x6, x7, x8, x9, x10, x11, x12, x13, x14, x15, x16], _ =>
      simp at p0 p1 p2 p3 p4 p5 p6 p7 p8 p9 p10 p11 p12 p13 p14 p15 p16
      rw [p0, p1, p2, p3, p4, p5, p6, p7, p8, p9, p10, p11, p12, p13, p14, p15, p16]
  · intro r hr
    simp only [nums, List.mem_cons, List.not_mem_nil, or_false] at hr
    rcases hr with rfl | rfl | rfl | rfl | rfl | rfl | rfl | rfl | rfl | rfl | rfl | rfl | rfl | rfl
    · exact b0
    · exact b1
    · exact b2
    · exact b3
    · exact b4
    · exact b5
    · exact b6
    · exact b7
    · exact b8
    · exact b9
    · exact b10
    · exact b11
    · exact b12
    · exact b13
theorem msg_open {H : Type} {enc : TypeId × Value → H} {W : World} {cs : Array Value} {d : DataW H} {p : List MemPlace} (hsz : cs.size = Tryd.prog.cellsOf 25) (h : DataW.Trod enc Tryd.prog W 0 (fun _ => true) true 25 (.agg cs) d p) :
    ∃ (m : M) (A : Option Addr) (c : Nat) (A' : Option Addr) (c' : Nat), cs = #[.int .i64 m.K, .int .i64 m.F, .int .i64 m.T, .int .i64 m.g, .int .i64 m.t, .int .i64 m.i, .int .i64 m.p, .int .i64 m.c, .int .i64 m.r, .int .i64 m.x, .int .i64 m.a, .int .i64 m.b, .int .i64 m.v, .int .i64 m.s, .bool m.ok, .slice A m.es.length c, .slice A' m.d.length c'] ∧ Is W W.heap.size m A c A' c' := by
  obtain ⟨fuel, hf⟩ := h
  rw [cellsOf_msg] at hsz
  obtain ⟨m, A, c, A', c', e, hc⟩ := msg_of_trod (cs := cs.toList) (by simpa using hsz) hf
  refine ⟨m, A, c, A', c', ?_, hc⟩
  rw [← Array.toArray_toList (xs := cs), e]

/-! What the text lays. -/
theorem gF : Tryd.prog.globalNamed "glebe/message.fieldsOf" = some 0 := by kernel_rfl
theorem tF : (Tryd.prog.globals[0]?).map (·.type) = some 56 := by kernel_rfl
def laid : List (String × DataW Unit) := [("glebe/message.fieldsOf", Rows.laid_glebe_message_fieldsOf)]
theorem door_met (os : Os) (args : Array Value) : laidMetH Tryd.prog laid ((World.doorLaid Tryd.prog 400 os).forCall (fun _ _ => 0) ⟨#[], args, []⟩).memory :=
  laidMetH_of_parts3 (fuel := 8) (laidMet_of_run' 8 (by kernel_rfl) (by kernel_rfl)) (by kernel_rfl) (by kernel_rfl)
theorem tab_of_laid {W : World} (h : laidMetH Tryd.prog laid W) : Tab W := by
  rw [MakeChecks.laidMetH_plain _ _ _ (by kernel_rfl)] at h
  obtain ⟨ps, ⟨g0, t0, cs0, f0, p0, q0, hg0, ht0, hv0, hd0, _, _⟩, _, _⟩ := h
  obtain rfl := Option.some.inj (gF.symm.trans hg0)
  obtain rfl := Option.some.inj (tF.symm.trans ht0)
  obtain ⟨xs, m1, rfl, hx, hlen, hn, hel⟩ := DataW.trod_array Tryd.underlying56 hd0
  have cs1 : Tryd.prog.cellsOf 9 = 1 := by kernel_rfl
  have cs12 : Tryd.prog.cellsOf 56 = 12 := by kernel_rfl
  rw [cs12] at hlen
  simp only [Prod.mk.injEq, Rows.laid_glebe_message_fieldsOf, DataW.agg.injEq] at hx
  intro k hk
  have hk2 := hel k hk
  rw [cs1, Nat.mul_one, one_cell hlen k hk, List.getElem?_eq_getElem (by omega)] at hk2
  obtain ⟨s, h1, h2, _⟩ := DataW.trod_string Tryd.underlying9 hk2
  have h3 := (List.cons.inj h1).1
  have h4 := World.var?_cell hg0 hv0 k
  have h5 : (xs.map (·.1))[k]? = some (.lit (.string s.data.toList)) := by rw [List.getElem?_map, List.getElem?_eq_getElem (by omega), h2]; rfl
  rw [← hx.1] at h5
  have h6 : s = strOf (tab k) := by
    apply ByteArray.ext
    apply Array.toList_inj.1
    show s.data.toList = (strOf (tab k)).data.toList
    match k, hk with
    | 0, _ | 1, _ | 2, _ | 3, _ | 4, _ | 5, _ | 6, _ | 7, _ | 8, _ | 9, _ | 10, _ | 11, _ =>
      simp only [List.getElem?_cons_zero, List.getElem?_cons_succ, Option.some.injEq, DataW.lit.injEq, Lit.string.injEq] at h5
      rw [← h5]; rfl
  rw [h4, ← Array.getElem?_toList, List.getElem?_eq_getElem (by omega), h3, h6]
end Go.Proofs.YtpigekbfngalbaaDoor.Ms
namespace Go.Proofs.YtpigekbfngalbaaDoor.Ms
open Rl (En)
open Pk (St rdInt rdBlob)
set_option maxRecDepth 100000
set_option linter.unusedVariables false

/-- a message that a program may have -/
structure Wf (m : M) : Prop where
  num : ∀ r ∈ nums, -9223372036854775808 ≤ m.num r ∧ m.num r ≤ 9223372036854775807
  es : ∀ e ∈ m.es, (-9223372036854775808 ≤ e.t ∧ e.t ≤ 9223372036854775807) ∧ (-9223372036854775808 ≤ e.k ∧ e.k ≤ 9223372036854775807) ∧ ∀ x ∈ e.d, x < 256
  d : ∀ x ∈ m.d, x < 256
/-! There and back. -/
theorem rdBlob_put (l t : List Nat) (h : l.length ≤ 1000000000000) : rdBlob ⟨Pk.enc l.length ++ (l ++ t), false⟩ = (l, ⟨t, false⟩) := by
  have e := Pk.rdInt_enc (l.length : Int) (l ++ t) false (by omega)
  unfold rdBlob
  rw [e, if_neg (by simp; omega)]
  simp
theorem rdE_put (e : En) (t : List Nat) (h : (-9223372036854775808 ≤ e.t ∧ e.t ≤ 9223372036854775807) ∧ (-9223372036854775808 ≤ e.k ∧ e.k ≤ 9223372036854775807)) (hd : e.d.length ≤ 1000000000000) : rdE ⟨encE e ++ t, false⟩ = (e, ⟨t, false⟩) := by
  have e1 : encE e ++ t = Pk.enc e.t ++ (Pk.enc e.k ++ (Pk.enc e.d.length ++ (e.d ++ t))) := by unfold encE; simp
  unfold rdE
  rw [e1, Pk.rdInt_enc _ _ _ h.1, Pk.rdInt_enc _ _ _ h.2, rdBlob_put _ _ hd]
theorem rdEs_put : ∀ (L : List En) (t : List Nat), (∀ e ∈ L, (-9223372036854775808 ≤ e.t ∧ e.t ≤ 9223372036854775807) ∧ (-9223372036854775808 ≤ e.k ∧ e.k ≤ 9223372036854775807)) → (∀ e ∈ L, e.d.length ≤ 1000000000000) → rdEs L.length ⟨L.flatMap encE ++ t, false⟩ = (L, ⟨t, false⟩) := by
  intro L
  induction L with
  | nil => intro t _ _; rfl
  | cons e L ih =>
    intro t h hd
    show ((rdE _).1 :: (rdEs L.length (rdE _).2).1, (rdEs L.length (rdE _).2).2) = _
    rw [List.flatMap_cons, List.append_assoc, rdE_put e _ (h e List.mem_cons_self) (hd e List.mem_cons_self)]
    simp only []
    rw [ih t (fun x hx => h x (List.mem_cons_of_mem _ hx)) (fun x hx => hd x (List.mem_cons_of_mem _ hx))]
/-- a field of one message, in another -/
def cpy (m m0 : M) (r : Nat) : M :=
  if r = 111 then { m0 with ok := m.ok } else if r = 101 then { m0 with es := m0.es ++ m.es } else if r = 100 then { m0 with d := m.d } else m0.set r (m.num r)
theorem rdF_put (m m0 : M) (r : Nat) (hr : r ∈ nums ∨ r = 111 ∨ r = 101 ∨ r = 100) (hw : Wf m) (hs : Small m) (t : List Nat) : rdF m0 ⟨m.encF r ++ t, false⟩ r = some (cpy m m0 r, ⟨t, false⟩) := by
  rcases hr with hr | rfl | rfl | rfl
  · have hne : r ≠ 111 ∧ r ≠ 101 ∧ r ≠ 100 := by
      simp only [nums, List.mem_cons, List.not_mem_nil, or_false] at hr
      omega
    have he : m.encF r = Pk.enc (m.num r) := by unfold M.encF; rw [if_neg hne.1, if_neg hne.2.1, if_neg hne.2.2]
    rw [rdF_num _ _ _ hr, he, Pk.rdInt_enc _ _ _ (hw.num r hr)]
    unfold cpy; rw [if_neg hne.1, if_neg hne.2.1, if_neg hne.2.2]
  · have he : m.encF 111 = Pk.enc (if m.ok = true then 1 else 0) := rfl
    unfold rdF cpy
    rw [if_pos rfl, if_pos rfl, he]
    rcases m.ok with _ | _
    · rw [Pk.rdInt_enc _ _ _ (by simp)]; simp
    · rw [Pk.rdInt_enc _ _ _ (by simp)]; simp
  · have he : m.encF 101 = Pk.enc m.es.length ++ m.es.flatMap encE := rfl
    have h1 := hs.es
    have hd : ∀ e ∈ m.es, e.d.length ≤ 1000000000000 := fun e he => by have := weigh_mem he; have := hs.wt; omega
    have hlen : 24 * m.es.length ≤ (m.es.flatMap encE ++ t).length := by rw [List.length_append, encEs_length]; omega
    have hc : cpy m m0 101 = { m0 with es := m0.es ++ m.es } := rfl
    have hq : ∀ s : St, rdF m0 s 101 = if (rdInt s).1 < 0 ∨ (((rdInt s).2.rest.length / 24 : Nat) : Int) < (rdInt s).1 then none else some ({ m0 with es := m0.es ++ (rdEs (rdInt s).1.toNat (rdInt s).2).1 }, (rdEs (rdInt s).1.toNat (rdInt s).2).2) := fun s => rfl
    rw [hq, hc, he, List.append_assoc, Pk.rdInt_enc _ _ _ (by omega)]
    simp only []
    rw [if_neg (by omega), Int.toNat_natCast, rdEs_put m.es t (fun e he => ⟨(hw.es e he).1, (hw.es e he).2.1⟩) hd]
  · have he : m.encF 100 = Pk.enc m.d.length ++ m.d := rfl
    have h1 := hs.d
    unfold rdF cpy
    rw [if_neg (by decide), if_neg (by decide), if_pos rfl, if_neg (by decide), if_neg (by decide), if_pos rfl, he, List.append_assoc, rdBlob_put _ _ (by omega)]
theorem rdFs_put (m : M) (hw : Wf m) (hs : Small m) : ∀ (L : List Nat) (m0 : M) (t : List Nat), (∀ r ∈ L, r ∈ nums ∨ r = 111 ∨ r = 101 ∨ r = 100) → rdFs L m0 ⟨L.flatMap m.encF ++ t, false⟩ = some (L.foldl (cpy m) m0, ⟨t, false⟩) := by
  intro L
  induction L with
  | nil => intro m0 t _; rfl
  | cons r L ih =>
    intro m0 t h
    show (match rdF m0 _ r with | none => none | some (m', s') => rdFs L m' s') = _
    rw [List.flatMap_cons, List.append_assoc, rdF_put m m0 r (h r List.mem_cons_self) hw hs]
    exact ih _ t (fun x hx => h x (List.mem_cons_of_mem _ hx))
/-- all its fields make a message -/
theorem fold_all (m : M) (hk : m.isKind = true) (hf : m.foreign = false) : (tab m.kind).foldl (cpy m) { M0 with K := m.K, F := m.F, T := m.T } = m := by
  have key : ∀ r ∈ all, (tab m.kind).contains r = false → m.blank r = true := fun r hr h => blank_of hf r hr h
  obtain ⟨k, _, k1, k2, hk⟩ := kind_of hk
  rw [hk] at key ⊢
  have h103 := key 103 (by decide)
  have h116 := key 116 (by decide)
  have h105 := key 105 (by decide)
  have h112 := key 112 (by decide)
  have h99 := key 99 (by decide)
  have h114 := key 114 (by decide)
  have h120 := key 120 (by decide)
  have h97 := key 97 (by decide)
  have h98 := key 98 (by decide)
  have h118 := key 118 (by decide)
  have h115 := key 115 (by decide)
  have h111 := key 111 (by decide)
  have h101 := key 101 (by decide)
  have h100 := key 100 (by decide)
  clear key hk hf
  cases m
  match k, k1, k2 with
  | 1, _, _ | 2, _, _ | 3, _, _ | 4, _, _ | 5, _, _ | 6, _, _ | 7, _, _ | 8, _, _ | 9, _, _ | 10, _, _ | 11, _, _ =>
    simp [tab, M.blank, M.num] at h103 h116 h105 h112 h99 h114 h120 h97 h98 h118 h115 h111 h101 h100
    simp [tab, cpy, M.set, M.num, M0, *]
theorem head3_put (m : M) (hw : Wf m) (t : List Nat) : head3 (head.flatMap m.encF ++ t) = ({ M0 with K := m.K, F := m.F, T := m.T }, ⟨t, false⟩) := by
  have e : head.flatMap m.encF ++ t = Pk.enc m.K ++ (Pk.enc m.F ++ (Pk.enc m.T ++ t)) := by simp [head, M.encF, M.num]
  have h1 := hw.num 75 (by decide)
  have h2 := hw.num 70 (by decide)
  have h3 := hw.num 84 (by decide)
  have i1 : m.num 75 = m.K := rfl
  have i2 : m.num 70 = m.F := rfl
  have i3 : m.num 84 = m.T := rfl
  rw [i1] at h1
  rw [i2] at h2
  rw [i3] at h3
  rw [e]
  unfold head3
  simp only [Pk.rdInt_enc _ _ _ h1, Pk.rdInt_enc _ _ _ h2, Pk.rdInt_enc _ _ _ h3]
theorem dec_enc (m : M) (hw : Wf m) (hs : Small m) (hk : m.isKind = true) (hf : m.foreign = false) : dec m.enc = (m, 0) := by
  have h3 := head3_put m hw ((tab m.kind).flatMap m.encF)
  have e : m.enc = head.flatMap m.encF ++ (tab m.kind).flatMap m.encF := by unfold M.enc; rw [List.flatMap_append]
  rw [← e] at h3
  have hr := rdFs_put m hw hs (tab m.kind) { M0 with K := m.K, F := m.F, T := m.T } [] (tab_field _)
  rw [List.append_nil, fold_all m hk hf] at hr
  exact dec_some h3 rfl hk hr rfl
theorem back (m : M) (hw : Wf m) (hs : Small m) (hc : check m = 0) (more : List Nat) (hm : ∀ x ∈ m.enc, x < 256) : get (Fr.frame m.enc ++ more) = if more.length = 0 then (m, 0) else (M0, 2) := by
  obtain ⟨h1, h2, h3, h4, h5⟩ := check_zero hc
  have hl := enc_length m h1 h2
  have hb := Fr.back m.enc more hm (by omega)
  split
  · rename_i h0
    refine get_ok hb ?_ (dec_enc m hw hs h1 h2) hc
    rw [List.length_append, Fr.frame_length]; omega
  · refine get_long hb ?_
    rw [List.length_append, Fr.frame_length]; omega
end Go.Proofs.YtpigekbfngalbaaDoor.Ms
namespace Go.Proofs.YtpigekbfngalbaaDoor
open Go.RowKit

set_option maxHeartbeats 800000 in
set_option maxRecDepth 100000 in
theorem ent_same (p q : Rl.En) (A A' : Option Addr) (c c' : Nat) (hp : p.d.length ≤ maxLen) (hq : q.d.length ≤ maxLen) (w : World) (h : IsBytes w w.heap.size A p.d) (h' : IsBytes w w.heap.size A' q.d) :
    Calls Tryd.prog 71 #[.agg #[.int .i64 p.t, .int .i64 p.k, .slice A p.d.length c], .agg #[.int .i64 q.t, .int .i64 q.k, .slice A' q.d.length c']] w fun e w' => e = .returned (.bool (decide (p = q))) ∧ Below w.heap.size w w' := by
  obtain ⟨w1, hw1⟩ : ∃ w1, w1 = (w.alloc (.cells #[.int .i64 p.t, .int .i64 p.k, .slice A p.d.length c] 61)).alloc (.cells #[.int .i64 q.t, .int .i64 q.k, .slice A' q.d.length c'] 61) := ⟨_, rfl⟩
  have hb1 : Below w.heap.size w w1 := by rw [hw1]; exact ((Below.refl _ w).alloc (Nat.le_refl _) _).alloc (by simp) _
  have HS := hid (same_any w1.heap.size w1.heap.size A A' c c' p.d q.d hp hq w1 ((h.below hb1).more hb1.size) ((h'.below hb1).more hb1.size))
  have HB := hid hb1
  rw [hw1] at HS HB
  clear hb1 hw1 h h'
  by_cases ha : p.t = q.t
  · by_cases hb : p.k = q.k
    · by_cases hd : p.d = q.d
      · have HE : Hid (decide (p = q) = true) := hid (decide_eq_true (by cases p; cases q; simp at ha hb hd; simp [ha, hb, hd]))
        rw [decide_eq_true hd] at HS
        clear hd
        rw [ha, hb] at HS HB
        rw [HE.out]
        go_enter Tryd.func71, Tryd.ntmps71
        go_wp2_with fail
        refine HS.out.mono ?_
        rintro e w2 ⟨rfl, n, hw2⟩
        have HW : Hid (Below w.heap.size w w2) := by rw [hw2]; exact below_drewN HB.out n
        clear hw2
        go_wp2_with fail
        go_ret
        exact ⟨rfl, HW.out⟩
      · have HE : Hid (decide (p = q) = false) := hid (decide_eq_false (by rintro rfl; exact hd rfl))
        rw [decide_eq_false hd] at HS
        clear hd
        rw [ha, hb] at HS HB
        rw [HE.out]
        go_enter Tryd.func71, Tryd.ntmps71
        go_wp2_with fail
        refine HS.out.mono ?_
        rintro e w2 ⟨rfl, n, hw2⟩
        have HW : Hid (Below w.heap.size w w2) := by rw [hw2]; exact below_drewN HB.out n
        clear hw2
        go_wp2_with fail
        go_ret
        exact ⟨rfl, HW.out⟩
    · have HE : Hid (decide (p = q) = false) := hid (decide_eq_false (by rintro rfl; exact hb rfl))
      rw [ha] at HB
      rw [HE.out]
      go_enter Tryd.func71, Tryd.ntmps71
      go_wp2_with fail
      go_ret
      exact ⟨rfl, HB.out⟩
  · have HE : Hid (decide (p = q) = false) := hid (decide_eq_false (by rintro rfl; exact ha rfl))
    rw [HE.out]
    go_enter Tryd.func71, Tryd.ntmps71
    go_wp2_with fail
    go_ret
    exact ⟨rfl, HB.out⟩

set_option maxHeartbeats 800000 in
set_option maxRecDepth 100000 in
theorem ents_same (A A' : Option Addr) (c c' n m : Nat) (L M : List Rl.En) (hn : L.length = n) (hm : M.length = m) (hL : n ≤ 100000) (w : World) (h : IsEnts w w.heap.size A L) (h' : IsEnts w w.heap.size A' M) :
    Calls Tryd.prog 48 #[.slice A n c, .slice A' m c'] w fun e w' => e = .returned (.bool (decide (L = M))) ∧ Below w.heap.size w w' := by
  subst hn
  subst hm
  by_cases hl : L.length = M.length
  · have hl0 : (L.length : Int) = (M.length : Int) := by omega
    have HH := hid (And.intro h h')
    clear h h'
    go_enter Tryd.func48, Tryd.ntmps48
    go_wp2_with fail
    go_loopw [5] (fun i wr => ∃ k : Nat, k ≤ L.length ∧ i = .int .i64 k ∧ Hid (L.take k = M.take k ∧ Below w.heap.size w wr)) (fun i _ => L.length - (RowKit.intOf i).toNat)
    case atStart => exact ⟨0, by omega, rfl, hid ⟨by simp, Below.refl _ _⟩⟩
    case round =>
      obtain ⟨k, hk, rfl, hS⟩ := hrel
      have HL := hid hl
      by_cases hlt : k < L.length
      · have hr := HH.out.1.below hS.out.2
        have hr' := HH.out.2.below hS.out.2
        obtain ⟨b, off, rfl, hbl, hc⟩ := hr.cells k hlt
        have hkM : k < M.length := by omega
        obtain ⟨b', off', rfl, hbl', hc'⟩ := hr'.cells k hkM
        obtain ⟨A1, c1, d0, d1, d2, hB1', hm1', _⟩ := hc k hlt
        have hB1 := hB1'.more hS.out.2.size
        have hm1 := Nat.le_trans hm1'.1 hm1'.2
        obtain ⟨A2, c2, e0, e1, e2, hB2', hm2', _⟩ := hc' k hkM
        have hB2 := hB2'.more hS.out.2.size
        have hm2 := Nat.le_trans hm2'.1 hm2'.2
        clear hB1' hB2' hm1' hm2'
        have hk0 : (k : Int) < (L.length : Int) := by omega
        have hk1 : (k : Int) < (M.length : Int) := by omega
        have HC := hid (ent_same L[k] M[k] A1 A2 c1 c2 hm1 hm2 wr.drew (hB1.drewN 1) (hB2.drewN 1))
        have d0W : wr.drew.cell? ⟨b, off + k * 3, none⟩ = some (.int .i64 L[k].t) := d0
        have d1W : wr.drew.cell? ⟨b, off + k * 3 + 1, none⟩ = some (.int .i64 L[k].k) := d1
        have d2W : wr.drew.cell? ⟨b, off + k * 3 + 2, none⟩ = some (.slice A1 L[k].d.length c1) := d2
        have e0W : wr.drew.cell? ⟨b', off' + k * 3, none⟩ = some (.int .i64 M[k].t) := e0
        have e1W : wr.drew.cell? ⟨b', off' + k * 3 + 1, none⟩ = some (.int .i64 M[k].k) := e1
        have e2W : wr.drew.cell? ⟨b', off' + k * 3 + 2, none⟩ = some (.slice A2 M[k].d.length c2) := e2
        by_cases he : L[k] = M[k]
        · rw [decide_eq_true he] at HC
          have hS' : L.take (k + 1) = M.take (k + 1) := by
            rw [List.take_succ_eq_append_getElem hlt, List.take_succ_eq_append_getElem hkM, hS.out.1, he]
          have HS := hid hS'
          clear hc hc' hr hr' hB1 hB2 hS' he hl
          go_wp2_with fail
          go_still_tail 8, (by kernel_rfl)
          go_wp2_with fail
          refine HC.out.mono ?_
          rintro e w2 ⟨rfl, hb2⟩
          have HB2 : Hid (L.take (k + 1) = M.take (k + 1) ∧ Below w.heap.size w w2) := hid ⟨HS.out, hS.out.2.trans (((Below.refl _ wr).drew.trans hb2).mono hS.out.2.size)⟩
          clear hb2 d0W d1W d2W e0W e1W e2W d0 d1 d2 e0 e1 e2
          go_wp2_with fail
          go_roundw
          case rel => exact ⟨k + 1, by omega, by go_num, HB2⟩
          case measure => simp [RowKit.intOf]; omega
        · rw [decide_eq_false he] at HC
          have hne : decide (L = M) = false := decide_eq_false (fun e => by subst e; exact he rfl)
          have HE := hid hne
          clear hc hc' hr hr' hB1 hB2 he hne hl
          go_wp2_with fail
          go_still_tail 8, (by kernel_rfl)
          go_wp2_with fail
          refine HC.out.mono ?_
          rintro e w2 ⟨rfl, hb2⟩
          have HB2 : Hid (Below w.heap.size w w2) := hid (hS.out.2.trans (((Below.refl _ wr).drew.trans hb2).mono hS.out.2.size))
          clear hb2 d0W d1W d2W e0W e1W e2W d0 d1 d2 e0 e1 e2
          go_wp2_with fail
          go_ret
          rw [HE.out]
          exact ⟨rfl, HB2.out⟩
      · obtain rfl : k = L.length := by omega
        have hE : decide (L = M) = true := decide_eq_true (by
          have := hS.out.1
          rw [List.take_length, hl, List.take_length] at this
          exact this)
        have HE := hid hE
        have hk0 : ¬ (L.length : Int) < (L.length : Int) := by omega
        clear hE hlt
        go_wp2_with fail
        go_ret
        rw [HE.out]
        exact ⟨rfl, hS.out.2⟩
  · have hE : decide (L = M) = false := decide_eq_false (fun e => hl (by rw [e]))
    rw [hE]
    have hl0 : ¬ (L.length : Int) = (M.length : Int) := by omega
    clear h h' hE hl
    go_enter Tryd.func48, Tryd.ntmps48
    go_wp2
    go_ret
    exact ⟨rfl, Below.refl _ _⟩
end Go.Proofs.YtpigekbfngalbaaDoor
namespace Go.Proofs.YtpigekbfngalbaaDoor
open Go.RowKit

set_option maxHeartbeats 1600000 in
set_option maxRecDepth 100000 in
theorem copyE_any (B : Nat) (A : Option Addr) (c n : Nat) (L : List Rl.En) (hn : L.length = n) (hl : n ≤ 90000) (hf : Rl.Few L) (w : World) (h : IsEnts w B A L) (hB : B ≤ w.heap.size) :
    Calls Tryd.prog 42 #[.slice A n c] w fun e w' => ∃ A' c', e = .returned (.slice A' n c') ∧ OwnE w' w.heap.size w'.heap.size A' c' L ∧ Below w.heap.size w w' := by
  subst hn
  have HH := hid (h.more hB)
  have HF := hid hf
  have H1 : Hid (OwnE w w.heap.size w.heap.size none 0 (L.take 0) ∧ Below w.heap.size w w) := hid ⟨OwnE.nil _ _ _, Below.refl _ _⟩
  clear h hf
  go_enter Tryd.func42, Tryd.ntmps42
  go_wp2_with fail
  go_loopw [3, 4] (fun v i wr => ∃ (k : Nat) (A1 : Option Addr) (c1 : Nat), k ≤ L.length ∧ v = .slice A1 k c1 ∧ i = .int .i64 k ∧ Hid (OwnE wr w.heap.size wr.heap.size A1 c1 (L.take k) ∧ Below w.heap.size w wr)) (fun _ i _ => L.length - (RowKit.intOf i).toNat)
  case atStart => exact ⟨0, _, _, by omega, rfl, rfl, H1⟩
  case round =>
    clear H1
    obtain ⟨k, A1, c1, hk, rfl, rfl, hS⟩ := hrel
    by_cases hlt : k < L.length
    · obtain ⟨b, off, rfl, hbw, hc⟩ := (HH.out.below hS.out.2).cells k hlt
      obtain ⟨Ad, cd, d0, d1, d2, hd, hd2, hd3⟩ := hc k hlt
      have hk0 : (k : Int) < (L.length : Int) := by omega
      have hfk : L[k].d.length ≤ 65536 := HF.out _ (List.getElem_mem hlt)
      have hnum := HH.out.num _ (List.getElem_mem hlt)
      have htk : L.take (k + 1) = L.take k ++ [L[k]] := List.take_succ_eq_append_getElem hlt
      obtain ⟨x, hx⟩ : ∃ x, x = L[k] := ⟨_, rfl⟩
      rw [← hx] at d0 d1 d2 hd hd2 hfk hnum htk
      have HX := hid (And.intro hnum htk)
      have HC := hid (copy_N wr.heap.size Ad cd x.d x.d.length rfl (by omega) wr.drew ((hd.more hS.out.2.size).drewN 1) (Nat.le_refl _))
      have HK : Hid (∀ w', Below w.heap.size wr w' → w'.cell? ⟨b, off + k * 3, none⟩ = some (.int .i64 x.t) ∧ w'.cell? ⟨b, off + k * 3 + 1, none⟩ = some (.int .i64 x.k) ∧ w'.cell? ⟨b, off + k * 3 + 2, none⟩ = some (.slice Ad x.d.length cd)) := hid (fun w' hb => ⟨(hb.cell (by show b < _; omega)).trans d0, (hb.cell (by show b < _; omega)).trans d1, (hb.cell (by show b < _; omega)).trans d2⟩)
      have hl5 : k + 1 ≤ 100000 := by omega
      have HLK : Hid ((L.take k).length = k) := hid (by rw [List.length_take]; omega)
      clear hc hx hnum htk hd hd2 hd3 hfk
      go_wp2_with fail
      go_region_held3 (fun w' => w'.cell? ⟨b, off + k * 3, none⟩ = some (.int .i64 x.t) ∧ w'.cell? ⟨b, off + k * 3 + 1, none⟩ = some (.int .i64 x.k) ∧ w'.cell? ⟨b, off + k * 3 + 2, none⟩ = some (.slice Ad x.d.length cd))
        (first | exact HK.out _ (Below.refl _ wr).drew | exact HK.out _ hb2.out | exact HK.out _ (hb2.out.alloc hN2.out _) | exact HK.out _ h6.out.2 | fail)
        (first
          | (refine step_append_ent (by rfl) _ _ (by rfl) (hS.out.1.below (hb1.out.alloc hb1.out.size _)) hS.out.2.size (by rw [World.size_alloc]; have := hb1.out.size; omega) k HLK.out (by rfl) x HX.out.1 A2 c2 (ho2.out.below ((Below.refl _ w2).alloc (Nat.le_refl _) _)) ⟨w2.heap.size, 0, none⟩ 1 (by rfl) (fun j _ => cellsE_new w2 _ rfl ⟨x, A2, c2⟩ _ j) hl5 ?_; intro A6 c6 w6 hE6 hB6; have h6 := hid (And.intro hE6 ((hb2.out.alloc hN2.out _).trans hB6)); clear hE6 hB6)
          | (go_at_call 27; refine HC.out.mono ?_; rintro e w2 ⟨A2, c2, rfl, ho2', hb2'⟩; have ho2 := hid ho2'; have hb1 := hid ((Below.refl _ wr).drew.trans hb2'); have hb2 := hid (hb1.out.mono hS.out.2.size); have hN2 := hid (Nat.le_trans hS.out.2.size hb1.out.size); clear ho2' hb2'))
      all_goals
        (have H6 : Hid (OwnE w6 w.heap.size w6.heap.size A6 c6 (L.take (k + 1)) ∧ Below w.heap.size w w6) := hid ⟨by rw [HX.out.2]; exact h6.out.1, hS.out.2.trans h6.out.2⟩
         clear h6 hb1 hb2 hN2 ho2 HK HC d0 d1 d2
         go_wp2_with fail
         go_roundw
         case rel => exact ⟨k + 1, A6, c6, by omega, rfl, by go_num, H6⟩
         case measure => simp [RowKit.intOf]; omega)
    · obtain rfl : k = L.length := by omega
      have hS1 := hS.out
      rw [List.take_length] at hS1
      have HS := hid hS1
      clear hS hS1
      go_wp2_with fail
      go_ret
      exact ⟨A1, c1, rfl, HS.out.1, HS.out.2⟩
end Go.Proofs.YtpigekbfngalbaaDoor
namespace Go.Proofs.YtpigekbfngalbaaDoor
open Go.RowKit

set_option maxHeartbeats 400000 in
theorem spoil_any (base : Nat) (A : Option Addr) (c : Nat) (l : List Nat) (hl : l.length ≤ maxLen) (w : World) (h : OwnsB 5 w base A c l) :
    Calls Tryd.prog 19 #[.slice A l.length c] w fun e w' => e = .returned (.tuple #[]) ∧ w.grownBy w' (Value.slice A l.length c).ownBlock := by
  unfold maxLen at hl
  go_enter Tryd.func19, Tryd.ntmps19
  go_wp2
  go_loopw [2] (fun i wr => ∃ k : Nat, ∃ L : List Nat, k ≤ l.length ∧ i = .int .i64 k ∧ L.length = l.length ∧ OwnsB 5 wr base A c L ∧ w.grownBy wr (Value.slice A l.length c).ownBlock) (fun i _ => l.length - (RowKit.intOf i).toNat)
  case atStart => exact ⟨0, l, by omega, rfl, rfl, h, grown_refl _ _⟩
  case round =>
    clear h
    obtain ⟨k, L, hk, rfl, hL, hown, hgr⟩ := hrel
    have HL := hid hL
    by_cases hlt : k < l.length
    · have hkl : k < L.length := by rw [hL]; exact hlt
      obtain ⟨g, rfl, _, _, hcg, hfg⟩ := hown.at_ hkl
      have h8 := hown.small L[k] (List.getElem_mem _)
      have HX : Hid (bits .xor .u8 (L[k] : Int) 90 = ((L[k] ^^^ 90 : Nat) : Int)) := hid (u8_xor_nat L[k] 90 h8 (by decide))
      have hs1 := hown.set_ k (L[k] ^^^ 90) (by have := Nat.xor_lt_two_pow (n := 8) h8 (show 90 < 2 ^ 8 by decide); simpa using this)
      have hg1 : w.grownBy (wr.setCell ⟨g, k, none⟩ (.int .u8 (L[k] ^^^ 90 : Nat))) (some g) := grown_trans hgr (grown_setCell _ _ _ _) (fun _ e _ => by injection e with e; rw [e])
      have HS := hid (And.intro hs1 hg1)
      clear hs1 hg1 hown hgr hL
      go_wp2
      rw [HX.out]
      go_roundw
      case rel => exact ⟨k + 1, _, by omega, by go_num, by rw [List.length_set]; exact HL.out, HS.out.1, HS.out.2⟩
      case measure => simp [RowKit.intOf]; omega
    · clear hL
      go_wp2
      go_end0
      exact ⟨rfl, hgr⟩
theorem spoil_N (base : Nat) (A : Option Addr) (c : Nat) (l : List Nat) (n : Nat) (hn : l.length = n) (hl : n ≤ maxLen) (w : World) (h : OwnsB 5 w base A c l) :
    Calls Tryd.prog 19 #[.slice A n c] w fun e w' => e = .returned (.tuple #[]) ∧ w.grownBy w' (blk A) := by
  subst hn; rw [← ownBlock_slice A l.length c]; exact spoil_any base A c l hl w h
end Go.Proofs.YtpigekbfngalbaaDoor
