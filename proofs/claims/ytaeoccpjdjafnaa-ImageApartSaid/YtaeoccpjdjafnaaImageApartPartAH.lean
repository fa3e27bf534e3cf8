/- Texts of the proof, one behind the other: ImPutE, ImPutF, ImPutG, ImPutH, ImPutI, ImFirst, ImKnown, BigEn, ImFew, ImLaw, EntsIn, RlIn, ConfIn, ImIn, KitChange, ImBk, ImInD, RfAhead, RfApM, ImTuM, ImApM. -/
import Derived.Test.YtaeoccpjdjafnaaImageApartPartAG
import Derived.Test.YtaeoccpjdjafnaaImageApartPartAD
import Derived.Deep.RegionHeld3
import Derived.Test.YtaeoccpjdjafnaaImageApartPartAA
import Derived.Test.YtaeoccpjdjafnaaImageApartPartAB
import Derived.Deep.Slices
import Derived.Deep.Fields
import Derived.ChangeSame
import Derived.WalkLawsBesides
import Derived.ProofKit
import Derived.OpenShut
import Derived.Test.YtaeoccpjdjafnaaImageApartPartAC
import Derived.BigQuiet
import Derived.Test.YtaeoccpjdjafnaaImageApartPartAF
namespace Go.Proofs.Ytaeoccpjdjafnaa.Im
open Go.RowKit
open Rl (En Lg)
open Qu (Cf)
open Pk (enc encs)
set_option maxRecDepth 100000
set_option linter.unusedVariables false
attribute [local go_sem ↓] loadAt_hard storeAt_hard loadAt_vote storeAt_vote loadAt_change storeAt_change
def encHq (q : Hq) : List Nat := encH q.h
def encCq (q : Cq) : List Nat := encC q.c
set_option maxHeartbeats 3200000 in
theorem putHs_any (B : Nat) (A : Option Addr) (c : Nat) (l : List Nat) (q : Nat) (hl : l.length = q) (L : List Hq) (n : Nat) (hn : L.length = n) (hnn : n ≤ 1000000) (hx : ∀ x ∈ L, Sz x.h.p) (hT : q + (8 + (L.flatMap encHq).length) ≤ 10000000000) (B' : Nat) (hB' : B' ≤ B) (Ae : Option Addr) (ce : Nat) (w : World) (ho : OwnsB 5 w B A c l) (hB : B ≤ w.heap.size) (he : IsHds w B' Ae L)
    (q2 : Nat) (hq2 : q + (8 + (L.flatMap encHq).length) = q2) :
    Calls Try.prog 54 #[.slice A q c, .slice Ae n ce, .func (.func 55) #[] #[]] w fun e w' => Told B w (l ++ encL encHq L) q2 e w' := by
  obtain ⟨w2, hw2⟩ : ∃ w2, w2 = w.alloc (.cells #[.int .i64 (n : Int)] 3) := ⟨_, rfl⟩
  obtain ⟨p1, p2⟩ := listHead hw2 ho hl hB
  have HP := hid (putInts_any B A c l q hl [(n : Int)] 1 w.heap.size 1 rfl (fun y hy => by rw [List.mem_singleton.1 hy]; exact ⟨by omega, by omega⟩) (by decide) (by omega) w2 p1.own p1.base p2)
  have HH := hid (And.intro p1 (And.intro he (And.intro hn hB')))
  have HX := hid (And.intro hx hT)
  have HQ2 := hid hq2
  clear p1 p2 ho hl hB he hn hB' hx hT hq2
  go_enter Try.func54, Try.ntmps54
  go_wp2_with fail
  rw [← hw2]
  clear hw2
  refine HP.out.mono ?_
  rintro e w3 ⟨A3, c3, rfl, hb3⟩
  have H3 : Hid (Bq B w w3 A3 c3 ((l ++ encs [(n : Int)]) ++ flatTo encHq L 0) (q + 8 * 1)) := hid (by
    have e : (l ++ encs [(n : Int)]) ++ flatTo encHq L 0 = l ++ encs [(n : Int)] := by unfold flatTo; simp
    rw [e]
    exact ⟨hb3.own, hb3.len, HH.out.1.put.trans hb3.put, hb3.base⟩)
  clear hb3 HP
  go_wp2_with fail
  go_loopw [0, 8, 16] (fun v _ i wr => ∃ (j : Nat) (A1 : Option Addr) (c1 q1 : Nat), j ≤ n ∧ v = .slice A1 q1 c1 ∧ i = .int .i64 (j : Int) ∧ Hid (Bq B w wr A1 c1 ((l ++ encs [(n : Int)]) ++ flatTo encHq L j) q1)) (fun _ _ i _ => n - (RowKit.intOf i).toNat)
  case atStart => exact ⟨0, A3, c3, _, Nat.zero_le _, rfl, rfl, H3⟩
  case round =>
    clear H3
    obtain ⟨j, A1, c1, q1, hj, rfl, rfl, HQ⟩ := hrel
    have hq1 : q1 ≤ 10000000000 ∧ q1 = q + 8 + (flatTo encHq L j).length := by
      have h1 := HQ.out.len
      have h2 := HH.out.1.len
      have h3 := flatTo_le encHq L j
      have h4 := HX.out.2
      rw [List.length_append, List.length_append, Pk.encs_length, h2] at h1
      simp only [List.length_cons, List.length_nil] at h1
      omega
    by_cases hlt : j < n
    · have hjl : j < L.length := by rw [HH.out.2.2.1]; exact hlt
      have hbw := HQ.out.put.bel.mono HH.out.2.2.2
      obtain ⟨b, off, hA, hbb, hcs⟩ := (HH.out.2.1.below hbw).row.at_ j hjl
      have hrg := hcs j hjl
      have hpt := (HH.out.2.1.below hbw).pt L[j] (List.getElem_mem hjl)
      have hnum := HH.out.2.1.num L[j] (List.getElem_mem hjl)
      have hsz := HX.out.1 L[j] (List.getElem_mem hjl)
      have hnx := flatTo_next encHq L j hjl
      have hle : (flatTo encHq L (j + 1)).length ≤ (L.flatMap encHq).length := flatTo_le encHq L (j + 1)
      rw [hnx, List.length_append] at hle
      obtain ⟨x, hxx⟩ : ∃ x, x = L[j] := ⟨_, rfl⟩
      rw [← hxx] at hrg hpt hnum hsz hnx hle
      subst hA
      have hld := ldH wr b (off + j * 10) (cellsH x) rfl hrg
      have hld' : (ldX 59 (.pointer (some ⟨b, off + j * 10, none⟩))).run Try.prog wr = .ok (.agg #[.int .i64 x.h.g, .int .i64 x.h.t, .int .i64 x.h.v, .int .i64 x.h.p.log.base, .int .i64 x.h.p.log.term, .slice x.a.e x.h.p.log.es.length x.a.ce, .slice x.a.o x.h.p.cf.old.length x.a.co, .slice x.a.n x.h.p.cf.new.length x.a.cn, .slice x.a.l x.h.p.cf.lrn.length x.a.cl, .slice x.a.s x.h.p.sn.length x.a.cs]) wr := hld
      have hst := stNew wr 59 10 info_hard #[.int .i64 0, .int .i64 0, .int .i64 0, .int .i64 0, .int .i64 0, .slice none 0 0, .slice none 0 0, .slice none 0 0, .slice none 0 0, .slice none 0 0] (#[.int .i64 x.h.g, .int .i64 x.h.t, .int .i64 x.h.v, .int .i64 x.h.p.log.base, .int .i64 x.h.p.log.term, .slice x.a.e x.h.p.log.es.length x.a.ce, .slice x.a.o x.h.p.cf.old.length x.a.co, .slice x.a.n x.h.p.cf.new.length x.a.cn, .slice x.a.l x.h.p.cf.lrn.length x.a.cl, .slice x.a.s x.h.p.sn.length x.a.cs]) rfl rfl (by simp [Value.oneCell'])
      obtain ⟨w5, hw5⟩ : ∃ w5, w5 = wr.alloc (.cells (#[.int .i64 x.h.g, .int .i64 x.h.t, .int .i64 x.h.v, .int .i64 x.h.p.log.base, .int .i64 x.h.p.log.term, .slice x.a.e x.h.p.log.es.length x.a.ce, .slice x.a.o x.h.p.cf.old.length x.a.co, .slice x.a.n x.h.p.cf.new.length x.a.cn, .slice x.a.l x.h.p.cf.lrn.length x.a.cl, .slice x.a.s x.h.p.sn.length x.a.cs]) 59) := ⟨_, rfl⟩
      rw [← hw5] at hst
      have hb5 : Below wr.heap.size wr w5 := by rw [hw5]; exact (Below.refl _ wr).alloc (Nat.le_refl _) _
      have hr5 : w5.heap[wr.heap.size]? = some (.cells ([.int .i64 x.h.g, .int .i64 x.h.t, .int .i64 x.h.v, .int .i64 x.h.p.log.base, .int .i64 x.h.p.log.term, .slice x.a.e x.h.p.log.es.length x.a.ce, .slice x.a.o x.h.p.cf.old.length x.a.co, .slice x.a.n x.h.p.cf.new.length x.a.cn, .slice x.a.l x.h.p.cf.lrn.length x.a.cl, .slice x.a.s x.h.p.sn.length x.a.cs] : List Value).toArray 59 (0, 0)) := by rw [hw5]; exact heap_alloc_new wr _
      have hld5 := ldH w5 wr.heap.size 0 _ rfl (range_row hr5)
      obtain ⟨q6, hq6⟩ : ∃ q6, q1 + (encH x.h).length = q6 := ⟨_, rfl⟩
      have hle2 : (encH x.h).length = (encHq x).length := rfl
      have HP := hid (putHard_any B A1 c1 ((l ++ encs [(n : Int)]) ++ flatTo encHq L j) q1 HQ.out.len x.h x.a hnum B' HH.out.2.2.2 w5 (HQ.out.own.below hb5) (Nat.le_trans HQ.out.base hb5.size) (hpt.below (hb5.mono (Nat.le_trans HH.out.2.2.2 HQ.out.base))) hsz (by have := HX.out.2; omega) q6 hq6)
      have HB5 := hid hb5
      have HNX : Hid (((l ++ encs [(n : Int)]) ++ flatTo encHq L j) ++ encH x.h = (l ++ encs [(n : Int)]) ++ flatTo encHq L (j + 1)) := hid (by rw [hnx]; simp [List.append_assoc, encHq])
      have hld6 : (ldX 59 (.pointer (some ⟨wr.heap.size, 0, none⟩))).run Try.prog w5 = .ok (.agg #[.int .i64 x.h.g, .int .i64 x.h.t, .int .i64 x.h.v, .int .i64 x.h.p.log.base, .int .i64 x.h.p.log.term, .slice x.a.e x.h.p.log.es.length x.a.ce, .slice x.a.o x.h.p.cf.old.length x.a.co, .slice x.a.n x.h.p.cf.new.length x.a.cn, .slice x.a.l x.h.p.cf.lrn.length x.a.cl, .slice x.a.s x.h.p.sn.length x.a.cs]) w5 := hld5
      clear hrg hpt hnum hsz hnx hle hle2 hxx hcs hbw hb5 hjl hq1 hld hw5 hr5 hld5 hq6
      go_wp2_with fail
      refine HP.out.mono ?_
      rintro e w6 ⟨A6, c6, rfl, hb6⟩
      have H6 : Hid (Bq B w w6 A6 c6 ((l ++ encs [(n : Int)]) ++ flatTo encHq L (j + 1)) q6) := hid (by
        rw [HNX.out] at hb6
        exact ⟨hb6.own, hb6.len, HQ.out.put.trans ((Putp.of HB5.out HQ.out.base).trans hb6.put), hb6.base⟩)
      clear hb6 HP HQ hld' hst hld6
      go_wp2_with fail
      go_roundw
      case rel => exact ⟨j + 1, A6, c6, _, by omega, rfl, by go_num, H6⟩
      case measure => simp [RowKit.intOf]; omega
    · obtain rfl : j = n := by omega
      have HF : Hid (Bq B w wr A1 c1 (l ++ encL encHq L) q2 ∧ q1 = q2) := hid (by
        have h := HQ.out
        have hfl : flatTo encHq L j = L.flatMap encHq := by rw [← HH.out.2.2.1, flatTo_all]
        have e1 : (l ++ encs [(j : Int)]) ++ flatTo encHq L j = l ++ encL encHq L := by
          rw [hfl]; unfold encL; rw [HH.out.2.2.1, List.append_assoc]; simp [encs]
        have e2 : q1 = q2 := by rw [hq1.2, hfl, ← HQ2.out]; omega
        rw [e1] at h
        rw [e2] at h
        exact ⟨h, e2⟩)
      clear HQ hq1
      go_wp2_with fail
      go_ret
      exact ⟨A1, c1, ret_len HF.out.2, HF.out.1⟩
end Go.Proofs.Ytaeoccpjdjafnaa.Im
namespace Go.Proofs.Ytaeoccpjdjafnaa.Im
open Go.RowKit
open Rl (En Lg)
open Qu (Cf)
open Pk (enc encs)
set_option maxRecDepth 100000
set_option linter.unusedVariables false
attribute [local go_sem ↓] loadAt_hard storeAt_hard loadAt_vote storeAt_vote loadAt_change storeAt_change
set_option maxHeartbeats 3200000 in
theorem putVs_any (B : Nat) (A : Option Addr) (c : Nat) (l : List Nat) (q : Nat) (hl : l.length = q) (L : List Vt) (n : Nat) (hn : L.length = n) (hnn : n ≤ 1000000) (hT : q + (8 + (L.flatMap encV).length) ≤ 10000000000) (B' : Nat) (hB' : B' ≤ B) (Ae : Option Addr) (ce : Nat) (w : World) (ho : OwnsB 5 w B A c l) (hB : B ≤ w.heap.size) (he : IsVs w B' Ae L)
    (q2 : Nat) (hq2 : q + (8 + (L.flatMap encV).length) = q2) :
    Calls Try.prog 53 #[.slice A q c, .slice Ae n ce, .func (.func 56) #[] #[]] w fun e w' => Told B w (l ++ encL encV L) q2 e w' := by
  obtain ⟨w2, hw2⟩ : ∃ w2, w2 = w.alloc (.cells #[.int .i64 (n : Int)] 3) := ⟨_, rfl⟩
  obtain ⟨p1, p2⟩ := listHead hw2 ho hl hB
  have HP := hid (putInts_any B A c l q hl [(n : Int)] 1 w.heap.size 1 rfl (fun y hy => by rw [List.mem_singleton.1 hy]; exact ⟨by omega, by omega⟩) (by decide) (by omega) w2 p1.own p1.base p2)
  have HH := hid (And.intro p1 (And.intro he (And.intro hn hB')))
  have HX := hid (And.intro True.intro hT)
  have HQ2 := hid hq2
  clear p1 p2 ho hl hB he hn hB' hT hq2
  go_enter Try.func53, Try.ntmps53
  go_wp2_with fail
  rw [← hw2]
  clear hw2
  refine HP.out.mono ?_
  rintro e w3 ⟨A3, c3, rfl, hb3⟩
  have H3 : Hid (Bq B w w3 A3 c3 ((l ++ encs [(n : Int)]) ++ flatTo encV L 0) (q + 8 * 1)) := hid (by
    have e : (l ++ encs [(n : Int)]) ++ flatTo encV L 0 = l ++ encs [(n : Int)] := by unfold flatTo; simp
    rw [e]
    exact ⟨hb3.own, hb3.len, HH.out.1.put.trans hb3.put, hb3.base⟩)
  clear hb3 HP
  go_wp2_with fail
  go_loopw [0, 8, 16] (fun v _ i wr => ∃ (j : Nat) (A1 : Option Addr) (c1 q1 : Nat), j ≤ n ∧ v = .slice A1 q1 c1 ∧ i = .int .i64 (j : Int) ∧ Hid (Bq B w wr A1 c1 ((l ++ encs [(n : Int)]) ++ flatTo encV L j) q1)) (fun _ _ i _ => n - (RowKit.intOf i).toNat)
  case atStart => exact ⟨0, A3, c3, _, Nat.zero_le _, rfl, rfl, H3⟩
  case round =>
    clear H3
    obtain ⟨j, A1, c1, q1, hj, rfl, rfl, HQ⟩ := hrel
    have hq1 : q1 ≤ 10000000000 ∧ q1 = q + 8 + (flatTo encV L j).length := by
      have h1 := HQ.out.len
      have h2 := HH.out.1.len
      have h3 := flatTo_le encV L j
      have h4 := HX.out.2
      rw [List.length_append, List.length_append, Pk.encs_length, h2] at h1
      simp only [List.length_cons, List.length_nil] at h1
      omega
    by_cases hlt : j < n
    · have hjl : j < L.length := by rw [HH.out.2.2.1]; exact hlt
      have hbw := HQ.out.put.bel.mono HH.out.2.2.2
      obtain ⟨b, off, hA, hbb, hcs⟩ := (HH.out.2.1.below hbw).row.at_ j hjl
      have hrg := hcs j hjl
      have hnum := HH.out.2.1.num L[j] (List.getElem_mem hjl)
      have hnx := flatTo_next encV L j hjl
      have hle : (flatTo encV L (j + 1)).length ≤ (L.flatMap encV).length := flatTo_le encV L (j + 1)
      rw [hnx, List.length_append] at hle
      obtain ⟨x, hxx⟩ : ∃ x, x = L[j] := ⟨_, rfl⟩
      rw [← hxx] at hrg hnum hnx hle
      subst hA
      have hld := ldV wr b (off + j * 5) (cellsV x) rfl hrg
      have hld' : (ldX 34 (.pointer (some ⟨b, off + j * 5, none⟩))).run Try.prog wr = .ok (.agg #[.int .i64 x.x, .int .i64 x.p, .int .i64 x.r, .int .i64 x.b, .int .i64 x.v]) wr := hld
      have hst := stNew wr 34 5 info_vote #[.int .i64 0, .int .i64 0, .int .i64 0, .int .i64 0, .int .i64 0] (#[.int .i64 x.x, .int .i64 x.p, .int .i64 x.r, .int .i64 x.b, .int .i64 x.v]) rfl rfl (by simp [Value.oneCell'])
      obtain ⟨w5, hw5⟩ : ∃ w5, w5 = wr.alloc (.cells (#[.int .i64 x.x, .int .i64 x.p, .int .i64 x.r, .int .i64 x.b, .int .i64 x.v]) 34) := ⟨_, rfl⟩
      rw [← hw5] at hst
      have hb5 : Below wr.heap.size wr w5 := by rw [hw5]; exact (Below.refl _ wr).alloc (Nat.le_refl _) _
      have hr5 : w5.heap[wr.heap.size]? = some (.cells ([.int .i64 x.x, .int .i64 x.p, .int .i64 x.r, .int .i64 x.b, .int .i64 x.v] : List Value).toArray 34 (0, 0)) := by rw [hw5]; exact heap_alloc_new wr _
      have hld5 := ldV w5 wr.heap.size 0 _ rfl (range_row hr5)
      obtain ⟨q6, hq6⟩ : ∃ q6, q1 + 40 = q6 := ⟨_, rfl⟩
      rw [encV_length] at hle
      have HP := putVote_any B A1 c1 ((l ++ encs [(n : Int)]) ++ flatTo encV L j) q1 HQ.out.len x hnum (by have := HX.out.2; omega) w5 (HQ.out.own.below hb5) (Nat.le_trans HQ.out.base hb5.size)
      rw [hq6] at HP
      replace HP := hid HP
      have HB5 := hid hb5
      have HNX : Hid (((l ++ encs [(n : Int)]) ++ flatTo encV L j) ++ encV x = (l ++ encs [(n : Int)]) ++ flatTo encV L (j + 1)) := hid (by rw [hnx]; simp [List.append_assoc])
      have hld6 : (ldX 34 (.pointer (some ⟨wr.heap.size, 0, none⟩))).run Try.prog w5 = .ok (.agg #[.int .i64 x.x, .int .i64 x.p, .int .i64 x.r, .int .i64 x.b, .int .i64 x.v]) w5 := hld5
      clear hrg hnum hnx hle hxx hcs hbw hb5 hjl hq1 hld hw5 hr5 hld5 hq6
      go_wp2_with fail
      refine HP.out.mono ?_
      rintro e w6 ⟨A6, c6, rfl, hb6⟩
      have H6 : Hid (Bq B w w6 A6 c6 ((l ++ encs [(n : Int)]) ++ flatTo encV L (j + 1)) q6) := hid (by
        rw [HNX.out] at hb6
        exact ⟨hb6.own, hb6.len, HQ.out.put.trans ((Putp.of HB5.out HQ.out.base).trans hb6.put), hb6.base⟩)
      clear hb6 HP HQ hld' hst hld6
      go_wp2_with fail
      go_roundw
      case rel => exact ⟨j + 1, A6, c6, _, by omega, rfl, by go_num, H6⟩
      case measure => simp [RowKit.intOf]; omega
    · obtain rfl : j = n := by omega
      have HF : Hid (Bq B w wr A1 c1 (l ++ encL encV L) q2 ∧ q1 = q2) := hid (by
        have h := HQ.out
        have hfl : flatTo encV L j = L.flatMap encV := by rw [← HH.out.2.2.1, flatTo_all]
        have e1 : (l ++ encs [(j : Int)]) ++ flatTo encV L j = l ++ encL encV L := by
          rw [hfl]; unfold encL; rw [HH.out.2.2.1, List.append_assoc]; simp [encs]
        have e2 : q1 = q2 := by rw [hq1.2, hfl, ← HQ2.out]; omega
        rw [e1] at h
        rw [e2] at h
        exact ⟨h, e2⟩)
      clear HQ hq1
      go_wp2_with fail
      go_ret
      exact ⟨A1, c1, ret_len HF.out.2, HF.out.1⟩
end Go.Proofs.Ytaeoccpjdjafnaa.Im
namespace Go.Proofs.Ytaeoccpjdjafnaa.Im
open Go.RowKit
open Rl (En Lg)
open Qu (Cf)
open Pk (enc encs)
set_option maxRecDepth 100000
set_option linter.unusedVariables false
attribute [local go_sem ↓] loadAt_hard storeAt_hard loadAt_change storeAt_change
end Go.Proofs.Ytaeoccpjdjafnaa.Im
namespace Go.Proofs.Ytaeoccpjdjafnaa.Im
open Go.RowKit
open Rl (En Lg)
open Qu (Cf)
open Pk (enc encs)
set_option maxRecDepth 100000
set_option linter.unusedVariables false
attribute [local go_sem ↓] loadAt_hard storeAt_hard loadAt_vote storeAt_vote loadAt_change storeAt_change
end Go.Proofs.Ytaeoccpjdjafnaa.Im
namespace Go.Proofs.Ytaeoccpjdjafnaa.Im
open Go.RowKit
open Rl (En Lg)
open Qu (Cf)
open Pk (enc encs)
set_option maxRecDepth 100000
set_option linter.unusedVariables false
set_option maxHeartbeats 3200000 in
theorem putIm_any (B' : Nat) (w : World) (hB' : B' ≤ w.heap.size) (L : List Hq) (n : Nat) (hn : L.length = n) (Vs : List Vt) (m : Nat) (hm : Vs.length = m) (hnm : n ≤ 1000000 ∧ m ≤ 1000000) (hx : ∀ x ∈ L, Sz x.h.p) (hT : 8 + (L.flatMap encHq).length + (8 + (Vs.flatMap encV).length) ≤ 10000000000) (Ah Av : Option Addr) (ch cv : Nat) (hh : IsHds w B' Ah L) (hv : IsVs w B' Av Vs) (q2 : Nat) (hq2 : 8 + (L.flatMap encHq).length + (8 + (Vs.flatMap encV).length) = q2) :
    Calls Try.prog 26 #[.agg #[.slice Ah n ch, .slice Av m cv]] w fun e w' => Told w.heap.size w (encL encHq L ++ encL encV Vs) q2 e w' := by
  obtain ⟨w1, hw1⟩ : ∃ w1, w1 = w.alloc (.cells #[.slice Ah n ch, .slice Av m cv] 25) := ⟨_, rfl⟩
  have h1 : w1.heap[w.heap.size]? = some (.cells #[.slice Ah n ch, .slice Av m cv] 25 (0, 0)) := by rw [hw1]; exact heap_alloc_new w _
  have b1 : Below w.heap.size w w1.drew := by rw [hw1]; exact ((Below.refl _ w).alloc (Nat.le_refl _) _).drew
  have h1d : w1.drew.heap[w.heap.size]? = some (.cells #[.slice Ah n ch, .slice Av m cv] 25 (0, 0)) := h1
  have HC := hid (fun (W : World) (h' : W.heap[w.heap.size]? = some (.cells #[.slice Ah n ch, .slice Av m cv] 25 (0, 0))) (j : Nat) => cell_of_row W w.heap.size j _ _ (0, 0) h')
  have CE : Hid (∀ W : World, W.heap[w.heap.size]? = some (.cells #[.slice Ah n ch, .slice Av m cv] 25 (0, 0)) → W.cell? ⟨w.heap.size, 0, none⟩ = some (.slice Ah n ch) ∧ W.cell? ⟨w.heap.size, 1, none⟩ = some (.slice Av m cv)) := hid fun W hW => ⟨HC.out W hW 0, HC.out W hW 1⟩
  obtain ⟨q1, hq1⟩ : ∃ q1, 0 + (8 + (L.flatMap encHq).length) = q1 := ⟨_, rfl⟩
  have HP1 := hid (putHs_any w.heap.size none 0 [] 0 rfl L n hn hnm.1 hx (by omega) B' hB' Ah ch w1.drew (OwnsB.nil _ _ _) b1.size (hh.below (b1.mono hB')) q1 hq1)
  have HV := hid (And.intro (hv.below (b1.mono hB')) (And.intro hm (And.intro hnm.2 hB')))
  have HT := hid (And.intro hT (And.intro hq1 hq2))
  have HB := hid (And.intro b1 h1d)
  obtain ⟨g0, g1⟩ := CE.out w1 h1
  obtain ⟨k0, k1⟩ := CE.out w1.drew h1d
  clear h1 b1 h1d hB' hn hm hnm hx hT hh hv hq2 hq1
  go_enter Try.func26, Try.ntmps26
  go_wp2_with fail
  rw [← hw1]
  clear hw1
  go_region_held3 (fun W => W.cell? ⟨w.heap.size, 0, none⟩ = some (.slice Ah n ch) ∧ W.cell? ⟨w.heap.size, 1, none⟩ = some (.slice Av m cv))
    (first | exact ⟨g0, g1⟩ | exact ⟨k0, k1⟩ | exact e3 | exact e4 | fail)
    (first
      | (go_at_call 53; refine (HP2.out).mono ?_; rintro e w4 ⟨A4, c4, rfl, hb4⟩; have H4 := hid hb4; have e4 := CE.out w4 (hb4.put.tag _ _ _ _ HR3.out (by decide)); clear hb4)
      | (go_at_call 54; refine HP1.out.mono ?_; rintro e w3 ⟨A3, c3, rfl, hb3⟩; have H3 := hid hb3; have hr3 := hb3.put.tag _ _ _ _ HB.out.2 (by decide); have HR3 := hid hr3; have e3 := CE.out w3 hr3;
         have HP2 := hid (putVs_any w.heap.size A3 c3 _ q1 hb3.len Vs m HV.out.2.1 HV.out.2.2.1 (by have := HT.out; omega) B' HV.out.2.2.2 Av cv w3 hb3.own hb3.base (HV.out.1.below (hb3.put.bel.mono HV.out.2.2.2)) q2 (by have := HT.out; omega)); clear hb3 hr3))
  all_goals
    have HF : Hid (Bq w.heap.size w w4 A4 c4 (encL encHq L ++ encL encV Vs) q2) := hid (by
      have h := H4.out
      rw [List.nil_append] at h
      exact ⟨h.own, h.len, (Putp.of HB.out.1 (Nat.le_refl _)).trans (H3.out.put.trans h.put), h.base⟩)
    clear g0 g1 k0 k1 e3 e4
    go_wp2_with fail
    go_ret
    exact ⟨A4, c4, rfl, HF.out⟩
end Go.Proofs.Ytaeoccpjdjafnaa.Im
namespace Go.Proofs.Ytaeoccpjdjafnaa.Im
open Go Go.RowKit
open Rl (En Lg)
open Qu (Cf)
set_option maxRecDepth 100000
set_option linter.unusedVariables false
local instance lo9 : Lo := ⟨0⟩
def firstH : Hd := ⟨1, 3, 2, ⟨⟨4, 2, [⟨2, 0, [1]⟩, ⟨3, 0, []⟩, ⟨3, 0, [2, 3]⟩]⟩, ⟨[1, 2, 3], [], []⟩, [9]⟩⟩
theorem at_old {w : World} {o : Obj} {k : Nat} {v : Obj} (h : w.heap[k]? = some v) : (w.alloc o).heap[k]? = some v := by
  rw [heap_alloc_old _ _ (Array.getElem?_eq_some_iff.1 h).1]; exact h
theorem at_new {w : World} {o : Obj} {k : Nat} (h : k = w.heap.size) : (w.alloc o).heap[k]? = some o := by
  rw [h]; exact heap_alloc_new w o
theorem bytes_at {w : World} {b : Nat} (l : List Nat) (hs : ∀ x ∈ l, x < 256) {t : TypeId} (h : w.heap[b]? = some (.cells (bytes l).toArray t (0, 0))) : IsBytes w w.heap.size (some ⟨b, 0, none⟩) l :=
  ⟨hs, fun _ _ => ⟨b, 0, rfl, row_lt h, fun i hi => by
    rw [cell_of_row w b (0 + i) (bytes l).toArray t _ h, Nat.zero_add, List.getElem?_toArray]
    exact bytes_get l i hi⟩⟩
theorem ints_at {w : World} {b : Nat} (l : List Int) (hs : ∀ x ∈ l, InInt x) {t : TypeId} (h : w.heap[b]? = some (.cells (ints l).toArray t (0, 0))) : IsInts w w.heap.size (some ⟨b, 0, none⟩) l :=
  ⟨hs, fun _ _ => ⟨b, 0, rfl, row_lt h, fun i hi => by
    rw [cell_of_row w b (0 + i) (ints l).toArray t _ h, Nat.zero_add, List.getElem?_toArray]
    exact ints_get l i hi⟩⟩
theorem room_at (n : Nat) (h : n ≤ 1000) (ad : Addr) : Room n n (some ad) := ⟨⟨Nat.le_refl _, by unfold maxLen; omega⟩, fun e => by cases e⟩
theorem room_none : Room 0 0 none := ⟨⟨Nat.le_refl _, Nat.zero_le _⟩, fun _ => rfl⟩
theorem firstH_num : (InInt firstH.g ∧ InInt firstH.t ∧ InInt firstH.v) ∧ (InInt firstH.p.log.base ∧ InInt firstH.p.log.term) ∧ ∀ e ∈ firstH.p.log.es, InInt e.t ∧ InInt e.k := by simp [firstH, InInt]
theorem firstH_at {w : World} {b1 b2 b3 b4 b5 b6 : Nat} {t1 t2 t3 t4 t5 t6 : TypeId}
    (h1 : w.heap[b1]? = some (.cells #[.int .u8 1] t1 (0, 0))) (h2 : w.heap[b2]? = some (.cells #[.int .u8 2, .int .u8 3] t2 (0, 0)))
    (h3 : w.heap[b3]? = some (.cells #[.int .i64 2, .int .i64 0, .slice (some ⟨b1, 0, none⟩) 1 1, .int .i64 3, .int .i64 0, .slice none 0 0, .int .i64 3, .int .i64 0, .slice (some ⟨b2, 0, none⟩) 2 2] t3 (0, 0)))
    (h4 : w.heap[b4]? = some (.cells #[.int .i64 1, .int .i64 2, .int .i64 3] t4 (0, 0))) (h5 : w.heap[b5]? = some (.cells #[.int .u8 9] t5 (0, 0)))
    (h6 : w.heap[b6]? = some (.cells #[.int .i64 1, .int .i64 3, .int .i64 2, .int .i64 4, .int .i64 2, .slice (some ⟨b3, 0, none⟩) 3 3, .slice (some ⟨b4, 0, none⟩) 3 3, .slice none 0 0, .slice none 0 0, .slice (some ⟨b5, 0, none⟩) 1 1] t6 (0, 0))) :
    IsHds w w.heap.size (some ⟨b6, 0, none⟩) [⟨firstH, ⟨some ⟨b3, 0, none⟩, 3, some ⟨b4, 0, none⟩, 3, none, 0, none, 0, some ⟨b5, 0, none⟩, 1⟩⟩] := by
  have i3 : IsBytes w w.heap.size (some ⟨b1, 0, none⟩) [1] := bytes_at [1] (by decide) h1
  have i4 : IsBytes w w.heap.size (some ⟨b2, 0, none⟩) [2, 3] := bytes_at [2, 3] (by decide) h2
  have i5 : IsBytes w w.heap.size (some ⟨b5, 0, none⟩) [9] := bytes_at [9] (by decide) h5
  have i6 : IsInts w w.heap.size (some ⟨b4, 0, none⟩) [1, 2, 3] := ints_at [1, 2, 3] (by simp [InInt]) h4
  have c3 := fun k => row_cell h3 k
  refine ⟨⟨fun k hk => ⟨b6, 0, rfl, row_lt h6, fun j hj t v hv => ?_⟩⟩, fun q hq => ?_, fun q hq => ?_⟩
  · obtain rfl : j = 0 := by simpa using hj
    rw [row_cell h6, List.getElem_cons_zero] at *
    simpa [cellsH, firstH] using hv
  · obtain rfl : q = _ := List.mem_singleton.1 hq
    refine ⟨⟨?_, fun k hk => ⟨b3, 0, rfl, row_lt h3, fun i hi => ?_⟩⟩, i6, IsInts.nil, IsInts.nil, i5, room_at 3 (by decide) _, room_at 3 (by decide) _, room_none, room_none, room_at 1 (by decide) _, firstH_num.2.1⟩
    · exact firstH_num.2.2
    · match i, hi with
      | 0, _ => exact ⟨_, _, c3 0, c3 1, c3 2, i3, (room_at 1 (by decide) ⟨b1, 0, none⟩).1, (room_at 1 (by decide) ⟨b1, 0, none⟩).2⟩
      | 1, _ => exact ⟨_, _, c3 3, c3 4, c3 5, IsBytes.nil, room_none.1, room_none.2⟩
      | 2, _ => exact ⟨_, _, c3 6, c3 7, c3 8, i4, (room_at 2 (by decide) ⟨b2, 0, none⟩).1, (room_at 2 (by decide) ⟨b2, 0, none⟩).2⟩
  · obtain rfl : q = _ := List.mem_singleton.1 hq
    exact firstH_num.1
set_option maxHeartbeats 1600000 in
theorem first_any (w : World) :
    Calls Try.prog 27 #[] w fun e w' => ∃ (A : Option Addr) (a : Ad), e = .returned (.agg #[.slice A 1 1, .slice none 0 0]) ∧ IsHds w' w'.heap.size A [⟨firstH, a⟩] ∧ A ≠ none ∧ Below w.heap.size w w' := by
  go_enter Try.func27, Try.ntmps27
  go_wp2_with fail
  generalize hW : (World.alloc _ _) = W
  have hb : Below w.heap.size w W := by
    rw [← hW]
    exact ((((((((Below.refl _ w).alloc (by simp) _).alloc (by simp) _).alloc (by simp; omega) _).alloc (by simp; omega) _).alloc (by simp; omega) _).alloc (by simp; omega) _).alloc (by simp; omega) _).alloc (by simp; omega) _
  have e0 : W.heap[w.heap.size]? = some (.cells #[.slice (some ⟨w.heap.size + 1 + 1 + 1 + 1 + 1 + 1 + 1, 0, none⟩) 1 1, .slice none 0 0] 25 (0, 0)) := by
    rw [← hW]; exact at_old (at_old (at_old (at_old (at_old (at_old (at_old (at_new rfl)))))))
  have h := firstH_at (w := W) (b1 := w.heap.size + 1) (b2 := w.heap.size + 1 + 1) (b3 := w.heap.size + 1 + 1 + 1) (b4 := w.heap.size + 1 + 1 + 1 + 1 + 1) (b5 := w.heap.size + 1 + 1 + 1 + 1 + 1 + 1) (b6 := w.heap.size + 1 + 1 + 1 + 1 + 1 + 1 + 1)
    (by rw [← hW]; exact at_old (at_old (at_old (at_old (at_old (at_old (at_new (by simp [World.size_alloc])))))))) (by rw [← hW]; exact at_old (at_old (at_old (at_old (at_old (at_new (by simp [World.size_alloc]))))))) (by rw [← hW]; exact at_old (at_old (at_old (at_old (at_new (by simp [World.size_alloc])))))) (by rw [← hW]; exact at_old (at_old (at_new (by simp [World.size_alloc])))) (by rw [← hW]; exact at_old (at_new (by simp [World.size_alloc]))) (by rw [← hW]; exact at_new (by simp [World.size_alloc]))
  clear hW
  refine bodyPost_ret (results_cell_row rfl _ _ w.heap.size _ _ _ _ rfl e0 Try.underlying25 rfl (by rw [info_image2]; rfl)) rfl ?_
  exact ⟨_, _, rfl, h, by simp, hb⟩
end Go.Proofs.Ytaeoccpjdjafnaa.Im
namespace Go.Proofs.Ytaeoccpjdjafnaa.Im
open Go Go.RowKit
open Rl (En Lg)
open Qu (Cf)
set_option maxRecDepth 100000
set_option linter.unusedVariables false
attribute [local go_sem ↓] loadAt_image storeAt_image
local instance lo10 : Lo := ⟨0⟩
def firstB : List Nat := encIm ⟨[firstH], []⟩
def turnC : Ch := ⟨1, 1, 8, 3, 0, P0, ⟨0, 0, 0, 0, 0⟩⟩
def turnedH : Hd := { firstH with t := 8, v := 3 }
theorem firstB_get : get firstB = (⟨[firstH], []⟩, 0) := by decide +kernel
theorem firstB_len : firstB.length = 196 := by decide +kernel
theorem first_apply : apply ⟨[firstH], []⟩ turnC = (⟨[turnedH], []⟩, 0) := by decide +kernel
theorem firstK : FewK firstH.p := ⟨by decide, ⟨by decide, by decide, by decide⟩⟩
theorem firstSz : Sz firstH.p := ⟨by decide, by decide, by decide, by decide, by decide, by decide⟩
theorem first_len (a : Ad) : 8 + ([(⟨firstH, a⟩ : Hq)].flatMap encHq).length + (8 + (([] : List Vt).flatMap encV).length) = 196 := by
  show 8 + ([firstH].flatMap encH).length + (8 + (([] : List Vt).flatMap encV).length) = 196
  decide +kernel
theorem first_enc (a : Ad) : encL encHq [(⟨firstH, a⟩ : Hq)] ++ encL encV ([] : List Vt) = firstB := rfl
theorem firstFew : FewP firstH.p ∧ Rl.Ok firstH.p.log ∧ Rl.Few firstH.p.log.es := ⟨⟨by decide, by decide, by decide, by decide, by decide, by decide⟩, ⟨⟨by decide, by decide⟩, trivial, by decide⟩, by unfold Rl.Few; decide⟩
theorem first_chgd : chgd firstH turnC = some turnedH := rfl
theorem turnC_num : (InInt turnC.k ∧ InInt turnC.g ∧ InInt turnC.t ∧ InInt turnC.v ∧ InInt turnC.f) ∧ okV turnC.a := ⟨⟨⟨by decide, by decide⟩, ⟨by decide, by decide⟩, ⟨by decide, by decide⟩, ⟨by decide, by decide⟩, ⟨by decide, by decide⟩⟩, ⟨⟨⟨⟨⟨by decide, by decide⟩, ⟨by decide, by decide⟩⟩, ⟨by decide, by decide⟩⟩, ⟨by decide, by decide⟩⟩, ⟨by decide, by decide⟩⟩⟩
theorem one_im {Q : List Hq} {L : List Vt} {h : Hd} (e : (⟨Q.map (·.h), L⟩ : Im) = ⟨[h], []⟩) : ∃ a, Q = [⟨h, a⟩] ∧ L = [] := by
  have e1 : Q.map (·.h) = [h] := congrArg Im.hs e
  obtain ⟨q, rfl, rfl⟩ := List.map_eq_singleton_iff.1 e1
  exact ⟨q.a, rfl, congrArg Im.vs e⟩
theorem OwnIm.room {w : World} {B N : Nat} {i : Ia} {Q : List Hq} {L : List Vt} (h : OwnIm w B N i Q L) : (Q.length ≤ i.ch ∧ i.ch ≤ maxLen) ∧ (i.h = none → i.ch = 0) ∧ (L.length ≤ i.cv ∧ i.cv ≤ maxLen) ∧ (i.v = none → i.cv = 0) := by
  obtain ⟨m, h1, h2, h3, h4, h5⟩ := h
  exact ⟨⟨h3.row.cap, h3.row.capLe⟩, h3.row.none_, ⟨h4.cap, h4.capLe⟩, h4.none_⟩
set_option maxHeartbeats 6400000 in
theorem known_any (w : World) : Calls Try.prog 9 #[] w fun e w' => e = .returned (.bool true) ∧ Below w.heap.size w w' := by
  have HF1 := hid (first_any w)
  go_enter Try.func9, Try.ntmps9
  go_wp2_with fail
  refine HF1.out.mono ?_
  rintro e w1 ⟨A1, a1, rfl, hh1, hn1, hb1⟩
  have HP := hid (putIm_any w1.heap.size w1 (Nat.le_refl _) [⟨firstH, a1⟩] 1 rfl [] 0 rfl ⟨by decide, by decide⟩ (fun x hx => by
    obtain rfl := List.mem_singleton.1 hx
    exact firstSz) (by rw [first_len]; decide) A1 none 1 0 hh1 ⟨IsRow.nil, by simp⟩ 196 (first_len a1))
  rw [first_enc] at HP
  have HB1 := hid hb1
  clear hh1 hn1 hb1
  go_wp2_with fail
  refine HP.out.mono ?_
  rintro e w2 ⟨A2, c2, rfl, hq2⟩
  have HB2 : Hid (Below w1.heap.size w1 w2) := hid hq2.put.bel
  have HG := hid (get_any firstB A2 c2 196 firstB_len w2 (hq2.own.reads) hq2.own.none_ (by decide))
  rw [firstB_get] at HG
  clear hq2
  go_wp2_with fail
  refine HG.out.mono ?_
  rintro e w3 ⟨i3, nh3, nv3, rfl, ⟨Q3, L3, ⟨e1, e2⟩, ho3, e3⟩, hb3⟩
  obtain ⟨a3, rfl, rfl⟩ := one_im e3
  have e1' : nh3 = 1 := e1
  have e2' : nv3 = 0 := e2
  subst e1'
  subst e2'
  clear e1 e2 e3
  obtain ⟨w4, hw4⟩ : ∃ w4, w4 = w3.alloc (.cells #[.slice i3.h 1 i3.ch, .slice i3.v 0 i3.cv] 25) := ⟨_, rfl⟩
  have hst3 := stNew w3 25 2 info_image2 #[.slice none 0 0, .slice none 0 0] #[.slice i3.h 1 i3.ch, .slice i3.v 0 i3.cv] rfl rfl (by simp [Value.oneCell'])
  rw [← hw4] at hst3
  have hb4 : Below w3.heap.size w3 w4 := by rw [hw4]; exact (Below.refl _ _).alloc (Nat.le_refl _) _
  have r4 : w4.heap[w3.heap.size]? = some (.cells #[.slice i3.h 1 i3.ch, .slice i3.v 0 i3.cv] 25 (0, 0)) := by rw [hw4]; exact heap_alloc_new _ _
  have ho4 := ho3.below hb4
  have hv4 := ho4.vs
  have hz4 := hb4.size
  have HR := hid ho3.room
  have HA := hid (apply_any i3 1 0 [⟨firstH, a3⟩] [] turnC A0 rfl rfl (by decide) (by decide) rfl rfl (fun q hq => by rw [List.mem_singleton.1 hq]; exact firstFew) (fun q hq y hy => by
    rw [List.mem_singleton.1 hq, first_chgd] at hy
    injection hy with hy
    rw [← hy]; exact ⟨by decide, by decide, by decide, by decide, by decide, by decide⟩) (by decide) w4 (hv4.1.more hz4) (hv4.2.more hz4) (isPt0 _ _) HR.out.2.1 HR.out.2.2.2 HR.out.1 HR.out.2.2.1 turnC_num)
  rw [show (⟨[(⟨firstH, a3⟩ : Hq)].map (·.h), []⟩ : Im) = ⟨[firstH], []⟩ from rfl, first_apply] at HA
  have H4 := hid (And.intro hv4 (And.intro hz4 (And.intro r4 ((HB1.out.trans (HB2.out.mono HB1.out.size)).trans ((hb3.trans (hb4.mono hb3.size)).mono (Nat.le_trans HB1.out.size HB2.out.size))))))
  have l4 := ldRow info_image2 Try.underlying25 rfl r4 rfl
  clear ho3 hb3 hb4 r4 ho4 hv4 hz4 hw4
  go_wp2_with fail
  refine HA.out.mono ?_
  rintro e w5 ⟨i5, nh5, nv5, er, rfl, her, ⟨Q5, L5, ⟨e1, e2⟩, ho5, e3⟩, hb5⟩
  rw [show (er : Int) = 0 from her]
  obtain ⟨a5, rfl, rfl⟩ := one_im e3
  have e1' : nh5 = 1 := e1
  have e2' : nv5 = 0 := e2
  subst e1'
  subst e2'
  clear e1 e2 e3 her
  obtain ⟨w6, hw6⟩ : ∃ w6, w6 = w5.alloc (.cells #[.slice i5.h 1 i5.ch, .slice i5.v 0 i5.cv] 25) := ⟨_, rfl⟩
  have hst5 := stNew w5 25 2 info_image2 #[.slice none 0 0, .slice none 0 0] #[.slice i5.h 1 i5.ch, .slice i5.v 0 i5.cv] rfl rfl (by simp [Value.oneCell'])
  rw [← hw6] at hst5
  have hb6 : Below w5.heap.size w5 w6 := by rw [hw6]; exact (Below.refl _ _).alloc (Nat.le_refl _) _
  have r6 : w6.heap[w5.heap.size]? = some (.cells #[.slice i5.h 1 i5.ch, .slice i5.v 0 i5.cv] 25 (0, 0)) := by rw [hw6]; exact heap_alloc_new _ _
  have hv6 := (ho5.below hb6).vs.1
  obtain ⟨g, off, hA, hg, hcs⟩ := hv6.row.at_ 0 (Nat.zero_lt_succ _)
  have hcs0 := hcs 0 (Nat.zero_lt_succ _)
  have hgw : g < w6.heap.size := by have := hb6.size; omega
  have hb46 := hb5.trans (hb6.mono hb5.size)
  have r3 := (hb46.block _ (row_lt H4.out.2.2.1)).trans H4.out.2.2.1
  have FX : Hid (∀ W, Below w6.heap.size w6 W → (ldX 25 (.pointer (some ⟨w3.heap.size, 0, none⟩))).run Try.prog W = .ok (.agg #[.slice i3.h 1 i3.ch, .slice i3.v 0 i3.cv]) W ∧ W.cell? ⟨w5.heap.size, 0, none⟩ = some (.slice (some ⟨g, off, none⟩) 1 i5.ch) ∧ W.cell? ⟨g, off + 1, none⟩ = some (.int .i64 8) ∧ W.cell? ⟨g, off + 2, none⟩ = some (.int .i64 3) ∧ W.cell? ⟨g, off + 5, none⟩ = some (.slice a5.e 3 a5.ce)) := hid (fun W hb =>
    ⟨ldRow info_image2 Try.underlying25 rfl ((hb.block _ (row_lt r3)).trans r3) rfl, by rw [← hA]; exact row_cell ((hb.block _ (row_lt r6)).trans r6) 0, (hb.cell (p := ⟨g, off + 1, none⟩) hgw).trans (hcs0 1 _ rfl), (hb.cell (p := ⟨g, off + 2, none⟩) hgw).trans (hcs0 2 _ rfl), (hb.cell (p := ⟨g, off + 5, none⟩) hgw).trans (hcs0 5 _ rfl)⟩)
  have hz36 : w3.heap.size ≤ w6.heap.size := Nat.le_trans H4.out.2.1 hb46.size
  have HSI : Hid (∀ W, Below w6.heap.size w6 W → ∀ A a, IsHds W W.heap.size A [⟨firstH, a⟩] → Calls Try.prog 12 #[.agg #[.slice i3.h 1 i3.ch, .slice i3.v 0 i3.cv], .agg #[.slice A 1 1, .slice none 0 0]] W fun e w' => e = .returned (.bool true) ∧ Below W.heap.size W w') := hid (fun W hb A a hh => by
    have hb36 : Below w3.heap.size w4 W := (hb46.mono H4.out.2.1).trans (hb.mono hz36)
    exact sameIm_any i3 ⟨A, 1, none, 0⟩ 1 0 [⟨firstH, a3⟩] [⟨firstH, a⟩] [] rfl rfl rfl (by decide) (by decide) (fun q hq => by rw [List.mem_singleton.1 hq]; exact firstK) W ((H4.out.1.1.below hb36).more (Nat.le_trans hz36 hb.size)) hh ((H4.out.1.2.below hb36).more (Nat.le_trans hz36 hb.size)) ⟨IsRow.nil, by simp⟩)
  have HB6 := hid (H4.out.2.2.2.trans (hb46.mono H4.out.2.2.2.size))
  have s0 := FX.out w6 (Below.refl _ _)
  have s1 := FX.out w6.drew (Below.refl _ _).drew
  clear ho5 hb5 hb6 r6 hv6 hA hg hcs hcs0 hgw hb46 r3 hz36 hw6
  go_wp2_with fail
  go_region_held3 (fun W => (ldX 25 (.pointer (some ⟨w3.heap.size, 0, none⟩))).run Try.prog W = .ok (.agg #[.slice i3.h 1 i3.ch, .slice i3.v 0 i3.cv]) W ∧ W.cell? ⟨w5.heap.size, 0, none⟩ = some (.slice (some ⟨g, off, none⟩) 1 i5.ch) ∧ W.cell? ⟨g, off + 1, none⟩ = some (.int .i64 8) ∧ W.cell? ⟨g, off + 2, none⟩ = some (.int .i64 3) ∧ W.cell? ⟨g, off + 5, none⟩ = some (.slice a5.e 3 a5.ce))
    (first | with_reducible exact s1 | with_reducible exact s0 | with_reducible exact s3 | with_reducible exact s2 | fail)
    (first
      | (go_at_call 27; refine (first_any _).mono ?_; rintro e w7 ⟨A7, a7, rfl, hh7, hn7, hb7⟩; have HB7 : Hid (Below w6.heap.size w6 w7) := hid ((Below.refl _ w6).drew.trans hb7); have s2 := FX.out w7 HB7.out; have HS7 := hid (HSI.out w7 HB7.out A7 a7 hh7); clear hh7 hn7 hb7)
      | (go_at_call 12; refine HS7.out.mono ?_; rintro e w8 ⟨rfl, hb8⟩; have HB8 : Hid (Below w6.heap.size w6 w8) := hid (HB7.out.trans (hb8.mono HB7.out.size)); have s3 := FX.out w8 HB8.out; clear hb8)
      | fail)
  all_goals
    have HBF := hid (HB6.out.trans (HB8.out.mono HB6.out.size))
    clear s0 s1 s2 s3
    go_wp2_with fail
    go_ret
    exact ⟨rfl, HBF.out⟩
end Go.Proofs.Ytaeoccpjdjafnaa.Im
namespace Go.Proofs.Ytaeoccpjdjafnaa
open Go.RowKit
def weigh (L : List Rl.En) : Nat := (L.map (fun e => e.d.length)).sum
theorem weigh_take (L : List Rl.En) (k : Nat) (h : k < L.length) : weigh (L.take (k + 1)) = weigh (L.take k) + L[k].d.length := by
  unfold weigh
  rw [List.take_succ_eq_append_getElem h, List.map_append, List.sum_append]; simp
theorem weigh_le (L : List Rl.En) (k : Nat) : weigh (L.take k) ≤ weigh L := by
  conv => rhs; rw [← List.take_append_drop k L]
  unfold weigh
  rw [List.map_append, List.sum_append]; omega
def big (L : List Rl.En) (n m : Nat) : Bool := decide (n < L.length) || decide (m < weigh L)
set_option maxHeartbeats 800000 in
set_option maxRecDepth 100000 in
theorem big_any (B : Nat) (A : Option Addr) (c n : Nat) (L : List Rl.En) (hn : L.length = n) (p q : Nat) (hp : p ≤ 1000000) (hq : q ≤ 1000000) (w : World) (h : IsEnts w B A L) :
    Calls Try.prog 23 #[.slice A n c, .int .i64 (p : Int), .int .i64 (q : Int)] w fun e w' => e = .returned (.bool (big L p q)) ∧ w' = w := by
  subst hn
  by_cases h0 : p < L.length
  · have e : big L p q = true := by simp [big, h0]
    rw [e]
    have h01 : (p : Int) < (L.length : Int) := by omega
    clear e h0 h
    go_enter Try.func23, Try.ntmps23
    go_wp2
    go_ret
    exact ⟨rfl, rfl⟩
  · have h01 : ¬ (p : Int) < (L.length : Int) := by omega
    have HL := hid h0
    have HH := hid h
    clear h0 h
    go_enter Try.func23, Try.ntmps23
    go_wp2_with fail
    go_loopw [7, 8] (fun s i wr => ∃ k v : Nat, k ≤ L.length ∧ s = .int .i64 v ∧ i = .int .i64 k ∧ v ≤ q ∧ Hid (v = weigh (L.take k)) ∧ wr = w) (fun _ i _ => L.length - (RowKit.intOf i).toNat)
    case atStart => exact ⟨0, 0, by omega, rfl, rfl, by omega, hid rfl, rfl⟩
    case round =>
      obtain ⟨k, v, hk, rfl, rfl, hv, hS, rfl⟩ := hrel
      by_cases hlt : k < L.length
      · obtain ⟨b, off, rfl, _, hc⟩ := HH.out.cells k hlt
        obtain ⟨Ad, cd, d0, d1, d2, hd, hd2, _⟩ := hc k hlt
        have hk0 : (k : Int) < (L.length : Int) := by omega
        have hw := weigh_take L k hlt
        have hw2 := weigh_le L (k + 1)
        have hw3 := hS.out
        obtain ⟨m, hm⟩ : ∃ m, m = L[k].d.length := ⟨_, rfl⟩
        rw [← hm] at d2 hw
        have HM := hid (And.intro hw (And.intro hw2 hw3))
        clear hc d0 d1 hd hd2 hw hw2 hw3 hm
        by_cases hmq : m ≤ q + 1
        · have hmq0 : (m : Int) ≤ (q : Int) + 1 := by omega
          by_cases hb : q < v + m
          · have HE : Hid (big L p q = true) := hid (by
              obtain ⟨hw, hw2, hw3⟩ := HM.out
              unfold big; rw [Bool.or_eq_true, decide_eq_true_iff, decide_eq_true_iff]; right; omega)
            have hb0 : (q : Int) < (v : Int) + (m : Int) := by omega
            go_wp2_with fail
            go_ret
            rw [HE.out]
            exact ⟨rfl, rfl⟩
          · have HV : Hid (v + m = weigh (L.take (k + 1))) := hid (by obtain ⟨hw, hw2, hw3⟩ := HM.out; omega)
            have hb0 : ¬ (q : Int) < (v : Int) + (m : Int) := by omega
            go_wp2_with fail
            go_roundw
            case rel => exact ⟨k + 1, v + m, by omega, by go_num, by go_num, by omega, HV, trivial⟩
            case measure => simp [RowKit.intOf]; omega
        · have hmq0 : ¬ (m : Int) ≤ (q : Int) + 1 := by omega
          have HE : Hid (big L p q = true) := hid (by
            obtain ⟨hw, hw2, hw3⟩ := HM.out
            unfold big; rw [Bool.or_eq_true, decide_eq_true_iff, decide_eq_true_iff]; right; omega)
          go_wp2_with fail
          go_ret
          rw [HE.out]
          exact ⟨rfl, rfl⟩
      · obtain rfl : k = L.length := by omega
        have HE : Hid (big L p q = false) := hid (by
          have e := hS.out
          rw [List.take_length] at e
          have := HL.out
          unfold big; rw [Bool.or_eq_false_iff, decide_eq_false_iff_not, decide_eq_false_iff_not]; omega)
        clear hS
        go_wp2_with fail
        go_ret
        rw [HE.out]
        exact ⟨rfl, rfl⟩
end Go.Proofs.Ytaeoccpjdjafnaa
namespace Go.Proofs.Ytaeoccpjdjafnaa.Im
open Go Go.RowKit
open Rl (En Lg)
open Qu (Cf)
set_option maxRecDepth 100000
set_option linter.unusedVariables false
local instance lo12 : Lo := ⟨0⟩
attribute [local go_sem ↓] loadAt_hard storeAt_hard loadAt_change storeAt_change
theorem bigConf_any (A0 A1 A2 : Option Addr) (n0 n1 n2 k0 k1 k2 n : Nat) (hn : n ≤ 1000000) (w : World) :
    Calls Try.prog 24 #[.agg #[.slice A0 n0 k0, .slice A1 n1 k1, .slice A2 n2 k2], .int .i64 (n : Int)] w fun e w' => e = .returned (.bool (decide (n < n0) || decide (n < n1) || decide (n < n2))) ∧ Below w.heap.size w w' := by
  have hb : Below w.heap.size w (w.alloc (.cells #[.slice A0 n0 k0, .slice A1 n1 k1, .slice A2 n2 k2] 31)) := (Below.refl _ w).alloc (Nat.le_refl _) _
  have HB := hid hb
  clear hb
  by_cases h0 : n < n0
  · have h0' : (n : Int) < (n0 : Int) := by omega
    have HE : Hid ((decide (n < n0) || decide (n < n1) || decide (n < n2)) = true) := hid (by simp [h0])
    rw [HE.out]
    clear h0
    go_enter Try.func24, Try.ntmps24
    go_wp2_with fail
    go_ret
    exact ⟨rfl, HB.out⟩
  · have h0' : ¬ (n : Int) < (n0 : Int) := by omega
    by_cases h1 : n < n1
    · have h1' : (n : Int) < (n1 : Int) := by omega
      have HE : Hid ((decide (n < n0) || decide (n < n1) || decide (n < n2)) = true) := hid (by simp [h1])
      rw [HE.out]
      clear h0 h1
      go_enter Try.func24, Try.ntmps24
      go_wp2_with fail
      go_ret
      exact ⟨rfl, HB.out⟩
    · have h1' : ¬ (n : Int) < (n1 : Int) := by omega
      by_cases h2 : n < n2
      · have h2' : (n : Int) < (n2 : Int) := by omega
        have HE : Hid ((decide (n < n0) || decide (n < n1) || decide (n < n2)) = true) := hid (by simp [h2])
        rw [HE.out]
        clear h0 h1 h2
        go_enter Try.func24, Try.ntmps24
        go_wp2_with fail
        go_ret
        exact ⟨rfl, HB.out⟩
      · have h2' : ¬ (n : Int) < (n2 : Int) := by omega
        have HE : Hid ((decide (n < n0) || decide (n < n1) || decide (n < n2)) = false) := hid (by simp [h0, h1, h2])
        rw [HE.out]
        clear h0 h1 h2
        go_enter Try.func24, Try.ntmps24
        go_wp2_with fail
        go_ret
        exact ⟨rfl, HB.out⟩
def bigCf (f : Cf) (n : Nat) : Bool := decide (n < f.old.length) || decide (n < f.new.length) || decide (n < f.lrn.length)
def bigPt (p : Pt) : Bool := big p.log.es 100 16384 || bigCf p.cf 100 || decide (16384 < p.sn.length)
theorem hard_new (w : World) (x : Hd) (ad : Ad) : Below w.heap.size w (w.alloc (.cells #[.int .i64 x.g, .int .i64 x.t, .int .i64 x.v, .int .i64 x.p.log.base, .int .i64 x.p.log.term, .slice ad.e x.p.log.es.length ad.ce, .slice ad.o x.p.cf.old.length ad.co, .slice ad.n x.p.cf.new.length ad.cn, .slice ad.l x.p.cf.lrn.length ad.cl, .slice ad.s x.p.sn.length ad.cs] 59)) := (Below.refl _ w).alloc (Nat.le_refl _) _
set_option maxHeartbeats 1600000 in
theorem bigHard_any (x : Hd) (ad : Ad) (w : World) (h : IsPt w w.heap.size x.p ad) :
    Calls Try.prog 22 #[.agg #[.int .i64 x.g, .int .i64 x.t, .int .i64 x.v, .int .i64 x.p.log.base, .int .i64 x.p.log.term, .slice ad.e x.p.log.es.length ad.ce, .slice ad.o x.p.cf.old.length ad.co, .slice ad.n x.p.cf.new.length ad.cn, .slice ad.l x.p.cf.lrn.length ad.cl, .slice ad.s x.p.sn.length ad.cs], .int .i64 100, .int .i64 16384] w fun e w' => e = .returned (.bool (bigPt x.p)) ∧ Below w.heap.size w w' := by
  obtain ⟨w1, hw1⟩ : ∃ w1, w1 = w.alloc (.cells #[.int .i64 x.g, .int .i64 x.t, .int .i64 x.v, .int .i64 x.p.log.base, .int .i64 x.p.log.term, .slice ad.e x.p.log.es.length ad.ce, .slice ad.o x.p.cf.old.length ad.co, .slice ad.n x.p.cf.new.length ad.cn, .slice ad.l x.p.cf.lrn.length ad.cl, .slice ad.s x.p.sn.length ad.cs] 59) := ⟨_, rfl⟩
  have r1 : w1.heap[w.heap.size]? = some (.cells #[.int .i64 x.g, .int .i64 x.t, .int .i64 x.v, .int .i64 x.p.log.base, .int .i64 x.p.log.term, .slice ad.e x.p.log.es.length ad.ce, .slice ad.o x.p.cf.old.length ad.co, .slice ad.n x.p.cf.new.length ad.cn, .slice ad.l x.p.cf.lrn.length ad.cl, .slice ad.s x.p.sn.length ad.cs] 59 (0, 0)) := by rw [hw1]; exact heap_alloc_new w _
  have b1 : Below w.heap.size w w1 := by rw [hw1]; exact hard_new w x ad
  have c5 : w1.cell? ⟨w.heap.size, 5, none⟩ = some (.slice ad.e x.p.log.es.length ad.ce) := row_cell r1 5
  have HE := hid (big_any w.heap.size ad.e ad.ce x.p.log.es.length x.p.log.es rfl 100 16384 (by decide) (by decide) w1 (h.es.below b1))
  have HR := hid (And.intro r1 b1)
  rw [hw1] at c5
  clear r1 b1 h
  go_enter Try.func22, Try.ntmps22
  go_wp2_with fail
  rw [← hw1]
  clear hw1 c5
  refine HE.out.mono ?_
  rintro e w2 ⟨rfl, hw2⟩
  subst hw2
  obtain ⟨b, hb⟩ : ∃ b, big x.p.log.es 100 16384 = b := ⟨_, rfl⟩
  rw [hb]
  cases b with
  | true =>
    have HV : Hid (bigPt x.p = true) := hid (by unfold bigPt; rw [hb]; rfl)
    clear hb
    go_wp2_with fail
    go_ret
    rw [HV.out]
    exact ⟨rfl, HR.out.2⟩
  | false =>
    have c6 : w2.cell? ⟨w.heap.size, 6, none⟩ = some (.slice ad.o x.p.cf.old.length ad.co) := row_cell HR.out.1 6
    have c7 : w2.cell? ⟨w.heap.size, 7, none⟩ = some (.slice ad.n x.p.cf.new.length ad.cn) := row_cell HR.out.1 7
    have c8 : w2.cell? ⟨w.heap.size, 8, none⟩ = some (.slice ad.l x.p.cf.lrn.length ad.cl) := row_cell HR.out.1 8
    have HC := hid (bigConf_any ad.o ad.n ad.l x.p.cf.old.length x.p.cf.new.length x.p.cf.lrn.length ad.co ad.cn ad.cl 100 (by decide) w2)
    have HX := hid hb
    clear hb
    go_wp2_with fail
    refine HC.out.mono ?_
    rintro e w3 ⟨rfl, hb3⟩
    obtain ⟨b2, hb2⟩ : ∃ b2, bigCf x.p.cf 100 = b2 := ⟨_, rfl⟩
    rw [show (decide (100 < x.p.cf.old.length) || decide (100 < x.p.cf.new.length) || decide (100 < x.p.cf.lrn.length)) = b2 from hb2]
    have r3 := (hb3.block _ (row_lt HR.out.1)).trans HR.out.1
    have c9 : w3.cell? ⟨w.heap.size, 9, none⟩ = some (.slice ad.s x.p.sn.length ad.cs) := row_cell r3 9
    have HB3 := hid (HR.out.2.trans (hb3.mono HR.out.2.size))
    cases b2 with
    | true =>
      have HV : Hid (bigPt x.p = true) := hid (by unfold bigPt; rw [HX.out, hb2]; rfl)
      clear hb2 r3 hb3
      go_wp2_with fail
      go_ret
      rw [HV.out]
      exact ⟨rfl, HB3.out⟩
    | false =>
      have HV : Hid (bigPt x.p = decide ((16384 : Int) < (x.p.sn.length : Int))) := hid (by unfold bigPt; rw [HX.out, hb2]; simp only [Bool.false_or]; exact decide_eq_decide.2 (by omega))
      clear hb2 r3 hb3
      go_wp2_with fail
      go_ret
      rw [HV.out]
      exact ⟨rfl, HB3.out⟩
set_option maxHeartbeats 1600000 in
theorem few_any (x : Ch) (ad : Ad) (w : World) (h : IsPt w w.heap.size x.p ad) :
    Calls Try.prog 8 #[.agg #[.int .i64 x.k, .int .i64 x.g, .int .i64 x.t, .int .i64 x.v, .int .i64 x.f, .int .i64 x.p.log.base, .int .i64 x.p.log.term, .slice ad.e x.p.log.es.length ad.ce, .slice ad.o x.p.cf.old.length ad.co, .slice ad.n x.p.cf.new.length ad.cn, .slice ad.l x.p.cf.lrn.length ad.cl, .slice ad.s x.p.sn.length ad.cs, .int .i64 x.a.x, .int .i64 x.a.p, .int .i64 x.a.r, .int .i64 x.a.b, .int .i64 x.a.v]] w fun e w' => e = .returned (.bool (!bigPt x.p)) ∧ Below w.heap.size w w' := by
  obtain ⟨w1, hw1⟩ : ∃ w1, w1 = w.alloc (.cells #[.int .i64 x.k, .int .i64 x.g, .int .i64 x.t, .int .i64 x.v, .int .i64 x.f, .int .i64 x.p.log.base, .int .i64 x.p.log.term, .slice ad.e x.p.log.es.length ad.ce, .slice ad.o x.p.cf.old.length ad.co, .slice ad.n x.p.cf.new.length ad.cn, .slice ad.l x.p.cf.lrn.length ad.cl, .slice ad.s x.p.sn.length ad.cs, .int .i64 x.a.x, .int .i64 x.a.p, .int .i64 x.a.r, .int .i64 x.a.b, .int .i64 x.a.v] 36) := ⟨_, rfl⟩
  have r1 : w1.heap[w.heap.size]? = some (.cells #[.int .i64 x.k, .int .i64 x.g, .int .i64 x.t, .int .i64 x.v, .int .i64 x.f, .int .i64 x.p.log.base, .int .i64 x.p.log.term, .slice ad.e x.p.log.es.length ad.ce, .slice ad.o x.p.cf.old.length ad.co, .slice ad.n x.p.cf.new.length ad.cn, .slice ad.l x.p.cf.lrn.length ad.cl, .slice ad.s x.p.sn.length ad.cs, .int .i64 x.a.x, .int .i64 x.a.p, .int .i64 x.a.r, .int .i64 x.a.b, .int .i64 x.a.v] 36 (0, 0)) := by rw [hw1]; exact heap_alloc_new w _
  have b1 : Below w.heap.size w w1 := by rw [hw1]; exact (Below.refl _ w).alloc (Nat.le_refl _) _
  have c5 : w1.cell? ⟨w.heap.size, 7, none⟩ = some (.slice ad.e x.p.log.es.length ad.ce) := row_cell r1 7
  have HE := hid (big_any w.heap.size ad.e ad.ce x.p.log.es.length x.p.log.es rfl 100 16384 (by decide) (by decide) w1 (h.es.below b1))
  have HR := hid (And.intro r1 b1)
  rw [hw1] at c5
  clear r1 b1 h
  go_enter Try.func8, Try.ntmps8
  go_wp2_with fail
  rw [← hw1]
  clear hw1 c5
  refine HE.out.mono ?_
  rintro e w2 ⟨rfl, hw2⟩
  subst hw2
  obtain ⟨b, hb⟩ : ∃ b, big x.p.log.es 100 16384 = b := ⟨_, rfl⟩
  rw [hb]
  cases b with
  | true =>
    have HV : Hid (bigPt x.p = true) := hid (by unfold bigPt; rw [hb]; rfl)
    clear hb
    go_wp2_with fail
    go_ret
    rw [HV.out]
    exact ⟨rfl, HR.out.2⟩
  | false =>
    have c6 : w2.cell? ⟨w.heap.size, 8, none⟩ = some (.slice ad.o x.p.cf.old.length ad.co) := row_cell HR.out.1 8
    have c7 : w2.cell? ⟨w.heap.size, 9, none⟩ = some (.slice ad.n x.p.cf.new.length ad.cn) := row_cell HR.out.1 9
    have c8 : w2.cell? ⟨w.heap.size, 10, none⟩ = some (.slice ad.l x.p.cf.lrn.length ad.cl) := row_cell HR.out.1 10
    have HC := hid (bigConf_any ad.o ad.n ad.l x.p.cf.old.length x.p.cf.new.length x.p.cf.lrn.length ad.co ad.cn ad.cl 100 (by decide) w2)
    have HX := hid hb
    clear hb
    go_wp2_with fail
    refine HC.out.mono ?_
    rintro e w3 ⟨rfl, hb3⟩
    obtain ⟨b2, hb2⟩ : ∃ b2, bigCf x.p.cf 100 = b2 := ⟨_, rfl⟩
    rw [show (decide (100 < x.p.cf.old.length) || decide (100 < x.p.cf.new.length) || decide (100 < x.p.cf.lrn.length)) = b2 from hb2]
    have r3 := (hb3.block _ (row_lt HR.out.1)).trans HR.out.1
    have c9 : w3.cell? ⟨w.heap.size, 11, none⟩ = some (.slice ad.s x.p.sn.length ad.cs) := row_cell r3 11
    have HB3 := hid (HR.out.2.trans (hb3.mono HR.out.2.size))
    cases b2 with
    | true =>
      have HV : Hid (bigPt x.p = true) := hid (by unfold bigPt; rw [HX.out, hb2]; rfl)
      clear hb2 r3 hb3
      go_wp2_with fail
      go_ret
      rw [HV.out]
      exact ⟨rfl, HB3.out⟩
    | false =>
      have HV : Hid ((!bigPt x.p) = decide ((x.p.sn.length : Int) ≤ (16384 : Int))) := hid (by unfold bigPt; rw [HX.out, hb2]; simp only [Bool.false_or]; rw [← decide_not]; exact decide_eq_decide.2 (by omega))
      clear hb2 r3 hb3
      go_wp2_with fail
      go_ret
      rw [HV.out]
      exact ⟨rfl, HB3.out⟩
def bigHs (Q : List Hq) : Bool := Q.any fun q => bigPt q.h.p
theorem bigHs_take (Q : List Hq) (k : Nat) (h : k < Q.length) : bigHs (Q.take (k + 1)) = (bigHs (Q.take k) || bigPt Q[k].h.p) := by
  unfold bigHs
  rw [List.take_succ_eq_append_getElem h, List.any_append]
  simp
def fewI (Q : List Hq) (L : List Vt) : Bool := !(decide (40 < Q.length) || decide (200 < L.length)) && !bigHs Q
set_option maxHeartbeats 3200000 in
theorem fewI_any (i : Ia) (nh nv : Nat) (Q : List Hq) (L : List Vt) (hnh : nh = Q.length) (hnv : nv = L.length) (w : World) (h : IsHds w w.heap.size i.h Q) :
    Calls Try.prog 5 #[.agg #[.slice i.h nh i.ch, .slice i.v nv i.cv]] w fun e w' => e = .returned (.bool (fewI Q L)) ∧ Below w.heap.size w w' := by
  obtain ⟨w1, hw1⟩ : ∃ w1, w1 = w.alloc (.cells #[.slice i.h nh i.ch, .slice i.v nv i.cv] 25) := ⟨_, rfl⟩
  have r1 : w1.heap[w.heap.size]? = some (.cells #[.slice i.h nh i.ch, .slice i.v nv i.cv] 25 (0, 0)) := by rw [hw1]; exact heap_alloc_new w _
  have b1 : Below w.heap.size w w1 := by rw [hw1]; exact (Below.refl _ w).alloc (Nat.le_refl _) _
  by_cases g1 : 40 < nh
  · have g1' : (40 : Int) < (nh : Int) := by omega
    have HV : Hid (fewI Q L = false) := hid (by unfold fewI; rw [← hnh]; simp [g1])
    rw [HV.out]
    have HB := hid b1
    rw [hw1] at HB
    clear g1 hnh hnv h r1 b1 hw1
    go_enter Try.func5, Try.ntmps5
    go_wp2_with fail
    go_ret
    exact ⟨rfl, HB.out⟩
  · have g1' : ¬ (40 : Int) < (nh : Int) := by omega
    by_cases g2 : 200 < nv
    · have g2' : (200 : Int) < (nv : Int) := by omega
      have HV : Hid (fewI Q L = false) := hid (by unfold fewI; rw [← hnv]; simp [g2])
      rw [HV.out]
      have HB := hid b1
      rw [hw1] at HB
      clear g1 g2 hnh hnv h r1 b1 hw1
      go_enter Try.func5, Try.ntmps5
      go_wp2_with fail
      go_ret
      exact ⟨rfl, HB.out⟩
    · have g2' : ¬ (200 : Int) < (nv : Int) := by omega
      have HX := hid (And.intro hnh (And.intro h (And.intro r1 (And.intro b1 (And.intro (show fewI Q L = !bigHs Q by unfold fewI; rw [← hnh, ← hnv]; simp [g1, g2]) (show nh ≤ 40 by omega))))))
      clear g1 g2 hnh hnv h r1 b1
      go_enter Try.func5, Try.ntmps5
      go_wp2_with fail
      rw [← hw1]
      clear hw1
      go_loopw [3] (fun j wr => ∃ k : Nat, k ≤ nh ∧ j = .int .i64 (k : Int) ∧ Hid (Below w1.heap.size w1 wr ∧ bigHs (Q.take k) = false)) (fun j _ => nh - (RowKit.intOf j).toNat)
      case atStart => exact ⟨0, Nat.zero_le _, rfl, hid ⟨Below.refl _ _, rfl⟩⟩
      case round =>
        obtain ⟨k, hk, rfl, HI⟩ := hrel
        have HB : Hid (Below w.heap.size w wr) := hid (HX.out.2.2.2.1.trans (HI.out.1.mono HX.out.2.2.2.1.size))
        have rr := (HI.out.1.block _ (row_lt HX.out.2.2.1)).trans HX.out.2.2.1
        have c0 : wr.cell? ⟨w.heap.size, 0, none⟩ = some (.slice i.h nh i.ch) := row_cell rr 0
        have hn40 := HX.out.2.2.2.2.2
        by_cases hlt : k < nh
        · have hlt0 : (k : Int) < (nh : Int) := by omega
          have hlt1 : k < Q.length := by rw [← HX.out.1]; exact hlt
          obtain ⟨q, hq⟩ : ∃ q, q = Q[k] := ⟨_, rfl⟩
          have hqm : q ∈ Q := by rw [hq]; exact List.getElem_mem hlt1
          obtain ⟨g, off, hA, hg, hcs⟩ := (HX.out.2.1.below HB.out).row.at_ k hlt1
          have hr := hcs k hlt1
          rw [← hq] at hr
          obtain ⟨y, ay⟩ := q
          have ld := ldH wr g (off + k * 10) (cellsH ⟨y, ay⟩) rfl hr
          have HBH := hid (bigHard_any y ay wr (((HX.out.2.1.pt _ hqm).below HB.out).more HB.out.size))
          have HT := hid (bigHs_take Q k hlt1)
          rw [← hq] at HT
          rw [hA] at c0
          clear rr hcs hr hq hqm hg hA hlt
          go_wp2_with fail
          refine HBH.out.mono ?_
          rintro e w2 ⟨rfl, hb2⟩
          obtain ⟨b, hb⟩ : ∃ b, bigPt y.p = b := ⟨_, rfl⟩
          rw [hb]
          have HB2 := hid (HB.out.trans (hb2.mono HB.out.size))
          have HI2 := hid (HI.out.1.trans (hb2.mono HI.out.1.size))
          clear hb2 ld c0
          cases b with
          | true =>
            have HV : Hid (fewI Q L = false) := hid (by
              rw [HX.out.2.2.2.2.1]
              have : bigHs Q = true := by
                have h1 : bigHs (Q.take (k + 1)) = true := by rw [HT.out, hb]; simp
                unfold bigHs at h1 ⊢
                obtain ⟨z, hz, hz2⟩ := List.any_eq_true.1 h1
                exact List.any_eq_true.2 ⟨z, List.mem_of_mem_take hz, hz2⟩
              rw [this]; rfl)
            clear hb
            go_wp2_with fail
            go_ret
            rw [HV.out]
            exact ⟨rfl, HB2.out⟩
          | false =>
            have HI3 : Hid (Below w1.heap.size w1 w2 ∧ bigHs (Q.take (k + 1)) = false) := hid ⟨HI2.out, by rw [HT.out, hb, HI.out.2]; rfl⟩
            clear hb
            go_wp2_with fail
            go_roundw
            case rel => exact ⟨k + 1, by omega, by go_num, HI3⟩
            case measure => simp [RowKit.intOf]; omega
        · have hlt0 : ¬ (k : Int) < (nh : Int) := by omega
          have HV : Hid (fewI Q L = true) := hid (by
            rw [HX.out.2.2.2.2.1]
            have : bigHs Q = false := by
              have h1 := HI.out.2
              rw [List.take_of_length_le (by rw [← HX.out.1]; omega)] at h1
              exact h1
            rw [this]; rfl)
          clear rr hlt
          go_wp2_with fail
          go_ret
          rw [HV.out]
          exact ⟨rfl, HB.out⟩
end Go.Proofs.Ytaeoccpjdjafnaa.Im
namespace Go.Proofs.Ytaeoccpjdjafnaa.Im
open Rl (En Lg)
open Qu (Cf)
end Go.Proofs.Ytaeoccpjdjafnaa.Im
namespace Go.Proofs.Ytaeoccpjdjafnaa
open Go.RowKit Go.ChangeShapes Go.WideShapes Go.Deep
theorem bytes_of_trod {H : Type} {enc : TypeId × Value → H} {W : World} {fuel : Nat} {cs : List Value} {x : DataW H × List MemPlace} (h : DataW.trod enc Try.prog W 0 (fun _ => true) true fuel 32 cs = some x) :
    ∃ (a : Option Addr) (c : Nat) (l : List Nat), cs = [.slice a l.length c] ∧ IsBytes W W.heap.size a l ∧ (l.length ≤ c ∧ c ≤ maxLen) ∧ (a = none → c = 0) := by
  rcases open_ints Try.underlying32 Try.underlying5 (by kernel_rfl) h with ⟨hcs, _⟩ | ⟨x, l, c, zs, hcs, _, hl, hm, hz, hx, hcell, hwz⟩
  · exact ⟨none, 0, [], hcs, IsBytes.nil, ⟨Nat.le_refl _, Nat.zero_le _⟩, fun _ => rfl⟩
  · simp only [if_true] at hz
    obtain ⟨m, h1, h2⟩ := isBytes_of_ints hl hz hcell hwz
    subst h2
    exact ⟨some x, c, m, hcs, h1, ⟨hl, hm⟩, fun h => by cases h⟩
theorem int_of_trod {H : Type} {enc : TypeId × Value → H} {W : World} {fuel : Nat} {cs : List Value} {x : DataW H × List MemPlace} (h : DataW.trod enc Try.prog W 0 (fun _ => true) true fuel 3 cs = some x) : ∃ n, cs = [.int .i64 n] ∧ InInt n := by
  obtain ⟨n, h1, _, h2⟩ := DataW.trod_int Try.underlying3 h
  exact ⟨n, h1, bounds_i64 h2⟩
theorem one_cell {cs : List Value} {n : Nat} (h : cs.length = n) (j : Nat) (hj : j < n) : (cs.drop j).take 1 = [cs[j]'(by omega)] := by
  rw [List.drop_eq_getElem_cons (by omega)]
  rfl
theorem cellsOf_ent : Try.prog.cellsOf 77 = 3 := by kernel_rfl
set_option maxRecDepth 100000 in
theorem ent_of_trod1 {H : Type} {enc : TypeId × Value → H} {W : World} {fuel : Nat} {a : Addr} {cs : List Value} {x : DataW H × List MemPlace} (hc : W.cells? 0 a 3 = some cs) (h : DataW.trod enc Try.prog W 0 (fun _ => true) true fuel 77 cs = some x) :
    ∃ t : Rl.En, (InInt t.t ∧ InInt t.k) ∧ ∀ b o, a = ⟨b, o, none⟩ → EnAt W W.heap.size b o t := by
  obtain ⟨_, hcl, hat⟩ := World.cells?_some hc
  obtain ⟨ys, n, _, _, _, hyl, hf⟩ := DataW.trod_struct Try.underlying77 h
  have hyl4 : ys.length = 3 := hyl
  have e0 : DataW.trod enc Try.prog W 0 (fun _ => true) true n 3 ((cs.drop 0).take (Try.prog.cellsOf 3)) = ys[0]? := hf 0 _ rfl
  have e1 : DataW.trod enc Try.prog W 0 (fun _ => true) true n 3 ((cs.drop 1).take (Try.prog.cellsOf 3)) = ys[1]? := hf 1 _ rfl
  have e2 : DataW.trod enc Try.prog W 0 (fun _ => true) true n 32 ((cs.drop 2).take (Try.prog.cellsOf 32)) = ys[2]? := hf 2 _ rfl
  have c1 : Try.prog.cellsOf 3 = 1 := by kernel_rfl
  have c2 : Try.prog.cellsOf 32 = 1 := by kernel_rfl
  rw [c1] at e0
  rw [one_cell hcl 0 (by omega), List.getElem?_eq_getElem (by omega)] at e0
  rw [c1] at e1
  rw [one_cell hcl 1 (by omega), List.getElem?_eq_getElem (by omega)] at e1
  rw [c2] at e2
  rw [one_cell hcl 2 (by omega), List.getElem?_eq_getElem (by omega)] at e2
  obtain ⟨k0, k01, k02⟩ := int_of_trod e0
  have k01 := (List.cons.inj k01).1
  obtain ⟨k1, k11, k12⟩ := int_of_trod e1
  have k11 := (List.cons.inj k11).1
  obtain ⟨ap, cp, p, k21, p2, p3, p4⟩ := bytes_of_trod e2
  have k21 := (List.cons.inj k21).1
  refine ⟨⟨k0, k1, p⟩, ⟨k02, k12⟩, fun b o e => ?_⟩
  subst e
  have g : ∀ j, (hj : j < 3) → W.cell? ⟨b, o + j, none⟩ = some (cs[j]'(by omega)) := fun j hj => by
    have := hat j hj
    rw [List.getElem?_eq_getElem (by omega)] at this
    rw [← this]
    congr 1
    unfold Addr.add; split <;> simp [*]
  exact ⟨ap, cp, by have := g 0 (by omega); rw [k01] at this; exact this, by have := g 1 (by omega); rw [k11] at this; exact this, by have := g 2 (by omega); rw [k21] at this; exact this, p2, p3, p4⟩
set_option maxRecDepth 100000 in
theorem ents_of_trod {H : Type} {enc : TypeId × Value → H} {W : World} {fuel : Nat} {cs : List Value} {x : DataW H × List MemPlace} (h : DataW.trod enc Try.prog W 0 (fun _ => true) true fuel 26 cs = some x) :
    ∃ (a : Option Addr) (c : Nat) (ts : List Rl.En), cs = [.slice a ts.length c] ∧ IsEnts W W.heap.size a ts ∧ (ts.length ≤ c ∧ c ≤ maxLen) ∧ (a = none → c = 0) := by
  rcases open_slice Try.underlying26 h with ⟨hcs, _⟩ | ⟨a, len, cap, m, n, D, Pl, hcs, _, hl, hm, hmm, _, hi⟩
  · exact ⟨none, 0, [], hcs, IsEnts.nil, ⟨Nat.le_refl _, Nat.zero_le _⟩, fun _ => rfl⟩
  · simp only [if_true] at hmm
    subst hmm
    rw [cellsOf_ent] at hi
    have hth : ∀ i, i < len → ∃ t : Rl.En, ((InInt t.t ∧ InInt t.k) ∧ ∀ b o, a.add (i * 3) = ⟨b, o, none⟩ → EnAt W W.heap.size b o t) ∧ ∃ cs, W.cells? 0 (a.add (i * 3)) 3 = some cs := fun i hlt => by
      obtain ⟨cs', h1, h2⟩ := hi i (by omega)
      obtain ⟨t, ht⟩ := ent_of_trod1 h1 h2
      exact ⟨t, ht, cs', h1⟩
    refine ⟨some a, m, (List.range len).attach.map (fun i => (hth i.1 (List.mem_range.1 i.2)).choose), ?_, ⟨fun e he => ?_, fun k hk => ?_⟩, ?_, fun h => by cases h⟩
    · rw [hcs]; simp
    · obtain ⟨i, hi, rfl⟩ := List.mem_map.1 he
      have hi2 : i.1 < len := List.mem_range.1 i.2
      exact (hth i.1 hi2).choose_spec.1.1
    · have hk' : k < len := by simpa using hk
      obtain ⟨cs0, hcs0⟩ := (hth 0 (by omega)).choose_spec.2
      obtain ⟨_, hcl, hat⟩ := World.cells?_some hcs0
      have hsp := hat 0 (by omega)
      rw [List.getElem?_eq_getElem (by omega)] at hsp
      have hlt := World.block_lt_of_cell? _ _ hsp
      have hspot := World.cell?_spot hsp
      obtain ⟨b, off, spot⟩ := a
      have hs : spot = none := by simpa [Addr.add] using hspot
      subst hs
      have hb : b < W.heap.size := by
        simpa [Addr.add] using hlt
      refine ⟨b, off, rfl, hb, fun i hi' => ?_⟩
      have hi2 : i < len := by simpa using hi'
      simp only [List.getElem_map, List.getElem_attach, List.getElem_range]
      refine (hth i hi2).choose_spec.1.2 b (off + i * 3) ?_
      unfold Addr.add; split <;> simp [*]
    · simp; exact ⟨hl, hm⟩
end Go.Proofs.Ytaeoccpjdjafnaa
namespace Go.Proofs.Ytaeoccpjdjafnaa
open Go.RowKit Go.ChangeShapes Go.WideShapes Go.Deep
set_option maxRecDepth 100000
theorem cellsOf_log : Try.prog.cellsOf 28 = 3 := by kernel_rfl
theorem log_of_trod {H : Type} {enc : TypeId × Value → H} {W : World} {fuel : Nat} {cs : List Value} {x : DataW H × List MemPlace} (hcl : cs.length = 3) (h : DataW.trod enc Try.prog W 0 (fun _ => true) true fuel 28 cs = some x) :
    ∃ (g : Rl.Lg) (a : Option Addr) (c : Nat), cs = [.int .i64 g.base, .int .i64 g.term, .slice a g.es.length c] ∧ LgIs W W.heap.size g a c := by
  obtain ⟨ys, n, _, _, _, hyl, hf⟩ := DataW.trod_struct Try.underlying28 h
  have hyl3 : ys.length = 3 := hyl
  have e0 : DataW.trod enc Try.prog W 0 (fun _ => true) true n 3 ((cs.drop 0).take (Try.prog.cellsOf 3)) = ys[0]? := hf 0 _ rfl
  have e1 : DataW.trod enc Try.prog W 0 (fun _ => true) true n 3 ((cs.drop 1).take (Try.prog.cellsOf 3)) = ys[1]? := hf 1 _ rfl
  have e2 : DataW.trod enc Try.prog W 0 (fun _ => true) true n 26 ((cs.drop 2).take (Try.prog.cellsOf 26)) = ys[2]? := hf 2 _ rfl
  have c1 : Try.prog.cellsOf 3 = 1 := by kernel_rfl
  have c2 : Try.prog.cellsOf 26 = 1 := by kernel_rfl
  rw [c1] at e0 e1
  rw [c2] at e2
  rw [one_cell hcl 0 (by omega), List.getElem?_eq_getElem (by omega)] at e0
  rw [one_cell hcl 1 (by omega), List.getElem?_eq_getElem (by omega)] at e1
  rw [one_cell hcl 2 (by omega), List.getElem?_eq_getElem (by omega)] at e2
  obtain ⟨k0, p1, p2⟩ := int_of_trod e0
  obtain ⟨k1, q1, q2⟩ := int_of_trod e1
  obtain ⟨a, c, ts, r1, r2, r3, r4⟩ := ents_of_trod e2
  have p1 := (List.cons.inj p1).1
  have q1 := (List.cons.inj q1).1
  have r1 := (List.cons.inj r1).1
  refine ⟨⟨k0, k1, ts⟩, a, c, ?_, ⟨r2, r3, r4, p2, q2⟩⟩
  match cs, hcl with
  | [x0, x1, x2], _ =>
    simp at p1 q1 r1
    rw [p1, q1, r1]
end Go.Proofs.Ytaeoccpjdjafnaa
namespace Go.Proofs.Ytaeoccpjdjafnaa
open Go.RowKit Go.ChangeShapes Go.WideShapes Go.Deep
set_option maxRecDepth 100000
theorem intsIn_of_trod {H : Type} {enc : TypeId × Value → H} {W : World} {fuel : Nat} {cs : List Value} {x : DataW H × List MemPlace} (h : DataW.trod enc Try.prog W 0 (fun _ => true) true fuel 29 cs = some x) :
    ∃ (a : Option Addr) (c : Nat) (l : List Int), cs = [.slice a l.length c] ∧ IsInts W W.heap.size a l ∧ (l.length ≤ c ∧ c ≤ maxLen) ∧ (a = none → c = 0) := by
  rcases open_ints Try.underlying29 Try.underlying3 (by kernel_rfl) h with ⟨hcs, _⟩ | ⟨x, l, c, zs, hcs, _, hl, hm, hz, hx, hcell, hwz⟩
  · exact ⟨none, 0, [], hcs, IsInts.nil, ⟨Nat.le_refl _, Nat.zero_le _⟩, fun _ => rfl⟩
  · simp only [if_true] at hz
    obtain ⟨m, h1, h2⟩ := isInts_of_ints hl hz hcell hwz
    subst h2
    exact ⟨some x, c, m, hcs, h1, ⟨hl, hm⟩, fun h => by cases h⟩
theorem one_cell3 {cs : List Value} (h : cs.length = 3) (j : Nat) (hj : j < 3) : (cs.drop j).take 1 = [cs[j]'(by omega)] := by
  rw [List.drop_eq_getElem_cons (by omega)]
  rfl
theorem cellsOf_conf : Try.prog.cellsOf 31 = 3 := by kernel_rfl
theorem conf_of_trod {H : Type} {enc : TypeId × Value → H} {W : World} {fuel : Nat} {cs : List Value} {x : DataW H × List MemPlace} (hcl : cs.length = 3) (h : DataW.trod enc Try.prog W 0 (fun _ => true) true fuel 31 cs = some x) :
    ∃ (c : Qu.Cf) (a0 a1 a2 : Option Addr) (k0 k1 k2 : Nat), cs = [.slice a0 c.old.length k0, .slice a1 c.new.length k1, .slice a2 c.lrn.length k2] ∧ CIs W W.heap.size c a0 a1 a2 k0 k1 k2 := by
  obtain ⟨ys, n, _, _, _, hyl, hf⟩ := DataW.trod_struct Try.underlying31 h
  have hyl3 : ys.length = 3 := hyl
  have e0 : DataW.trod enc Try.prog W 0 (fun _ => true) true n 29 ((cs.drop 0).take (Try.prog.cellsOf 29)) = ys[0]? := hf 0 _ rfl
  have e1 : DataW.trod enc Try.prog W 0 (fun _ => true) true n 29 ((cs.drop 1).take (Try.prog.cellsOf 29)) = ys[1]? := hf 1 _ rfl
  have e2 : DataW.trod enc Try.prog W 0 (fun _ => true) true n 29 ((cs.drop 2).take (Try.prog.cellsOf 29)) = ys[2]? := hf 2 _ rfl
  have c3 : Try.prog.cellsOf 29 = 1 := by kernel_rfl
  rw [c3] at e0 e1 e2
  rw [one_cell3 hcl 0 (by omega), List.getElem?_eq_getElem (by omega)] at e0
  rw [one_cell3 hcl 1 (by omega), List.getElem?_eq_getElem (by omega)] at e1
  rw [one_cell3 hcl 2 (by omega), List.getElem?_eq_getElem (by omega)] at e2
  obtain ⟨a0, k0, l0, p1, p2, p3, p4⟩ := intsIn_of_trod e0
  obtain ⟨a1, k1, l1, q1, q2, q3, q4⟩ := intsIn_of_trod e1
  obtain ⟨a2, k2, l2, r1, r2, r3, r4⟩ := intsIn_of_trod e2
  have p1 := (List.cons.inj p1).1
  have q1 := (List.cons.inj q1).1
  have r1 := (List.cons.inj r1).1
  refine ⟨⟨l0, l1, l2⟩, a0, a1, a2, k0, k1, k2, ?_, ⟨p2, q2, r2, p4, q4, r4, p3, q3, r3⟩⟩
  match cs, hcl with
  | [x0, x1, x2], _ =>
    simp at p1 q1 r1
    rw [p1, q1, r1]
end Go.Proofs.Ytaeoccpjdjafnaa
namespace Go.Proofs.Ytaeoccpjdjafnaa.Im
open Go.RowKit Go.ChangeShapes Go.WideShapes Go.Deep
set_option maxRecDepth 100000
theorem cellsOf_int : Try.prog.cellsOf 3 = 1 := by kernel_rfl
theorem cellsOf_bytes : Try.prog.cellsOf 32 = 1 := by kernel_rfl
theorem cellsOf_hard : Try.prog.cellsOf 59 = 10 := by kernel_rfl
theorem cellsOf_vote : Try.prog.cellsOf 34 = 5 := by kernel_rfl
theorem cellsOf_change : Try.prog.cellsOf 36 = 17 := by kernel_rfl
theorem cellsOf_hards : Try.prog.cellsOf 22 = 1 := by kernel_rfl
theorem cellsOf_votes : Try.prog.cellsOf 23 = 1 := by kernel_rfl
theorem cellsOf_image : Try.prog.cellsOf 25 = 2 := by kernel_rfl
theorem len_sub {cs : List Value} {n j k : Nat} (h : cs.length = n) (hj : j + k ≤ n) : ((cs.drop j).take k).length = k := by
  rw [List.length_take, List.length_drop]; omega
theorem add_off (b o k : Nat) : (⟨b, o, none⟩ : Addr).add k = ⟨b, o + k, none⟩ := by unfold Addr.add; split <;> simp [*]
theorem rows_in {α : Type} {f : α → List Value} {size : Nat} {W : World} {a : Addr} {len : Nat} (P : α → Prop) (hs : 0 < size)
    (h : ∀ i, i < len → ∃ cs, W.cells? 0 (a.add (i * size)) size = some cs ∧ ∃ x : α, cs = f x ∧ P x) :
    ∃ L : List α, L.length = len ∧ IsRow f size W W.heap.size (some a) L ∧ ∀ x ∈ L, P x := by
  have hth : ∀ i, i < len → ∃ x : α, P x ∧ W.cells? 0 (a.add (i * size)) size = some (f x) := fun i hi => by
    obtain ⟨cs, h1, x, rfl, h3⟩ := h i hi
    exact ⟨x, h3, h1⟩
  refine ⟨(List.range len).attach.map (fun i => (hth i.1 (List.mem_range.1 i.2)).choose), by simp, ⟨fun k hk => ?_⟩, fun x hx => ?_⟩
  · have hk' : k < len := by simpa using hk
    obtain ⟨_, hcs0⟩ := (hth 0 (by omega)).choose_spec
    obtain ⟨_, hcl, hat⟩ := World.cells?_some hcs0
    have hsp := hat 0 hs
    rw [List.getElem?_eq_getElem (by omega)] at hsp
    have hlt := World.block_lt_of_cell? _ _ hsp
    have hspot := World.cell?_spot hsp
    obtain ⟨b, off, spot⟩ := a
    have hsn : spot = none := by simpa [Addr.add] using hspot
    subst hsn
    have hb : b < W.heap.size := by simpa [Addr.add] using hlt
    refine ⟨b, off, rfl, hb, fun i hi' => ?_⟩
    have hi2 : i < len := by simpa using hi'
    simp only [List.getElem_map, List.getElem_attach, List.getElem_range]
    obtain ⟨_, hci⟩ := (hth i hi2).choose_spec
    obtain ⟨_, hcl, hat⟩ := World.cells?_some hci
    intro j v hv
    have hj : j < size := by rw [← hcl]; exact (List.getElem?_eq_some_iff.1 hv).1
    have := hat j hj
    rw [hv, Go.Deep.add_add, add_off] at this
    rw [Nat.add_assoc]
    exact this
  · obtain ⟨i, _, rfl⟩ := List.mem_map.1 hx
    exact (hth i.1 (List.mem_range.1 i.2)).choose_spec.1
theorem pt_in {H : Type} {enc : TypeId × Value → H} {W : World} {fuel : Nat} {c1 c2 c3 : List Value} {x1 x2 x3 : DataW H × List MemPlace} (h1 : c1.length = 3) (h2 : c2.length = 3)
    (e1 : DataW.trod enc Try.prog W 0 (fun _ => true) true fuel 28 c1 = some x1)
    (e2 : DataW.trod enc Try.prog W 0 (fun _ => true) true fuel 31 c2 = some x2)
    (e3 : DataW.trod enc Try.prog W 0 (fun _ => true) true fuel 32 c3 = some x3) :
    ∃ (p : Pt) (a : Ad), c1 ++ (c2 ++ c3) = [.int .i64 p.log.base, .int .i64 p.log.term, .slice a.e p.log.es.length a.ce, .slice a.o p.cf.old.length a.co, .slice a.n p.cf.new.length a.cn, .slice a.l p.cf.lrn.length a.cl, .slice a.s p.sn.length a.cs] ∧ IsPt W W.heap.size p a := by
  obtain ⟨g, a, c, r1, r2⟩ := log_of_trod h1 e1
  obtain ⟨f, a0, a1, a2, k0, k1, k2, s1, s2⟩ := conf_of_trod h2 e2
  obtain ⟨ab, cb, l, t1, t2, t3, t4⟩ := bytes_of_trod e3
  refine ⟨⟨g, f, l⟩, ⟨a, c, a0, k0, a1, k1, a2, k2, ab, cb⟩, ?_, ⟨r2.es, s2.o, s2.n, s2.l, t2, ⟨r2.room, r2.none_⟩, ⟨s2.co, s2.zo⟩, ⟨s2.cn, s2.zn⟩, ⟨s2.cl, s2.zl⟩, ⟨t3, t4⟩, r2.num⟩⟩
  rw [r1, s1, t1]
  rfl
theorem vote_in {H : Type} {enc : TypeId × Value → H} {W : World} {fuel : Nat} {cs : List Value} {x : DataW H × List MemPlace} (hcl : cs.length = 5) (h : DataW.trod enc Try.prog W 0 (fun _ => true) true fuel 34 cs = some x) :
    ∃ v : Vt, cs = cellsV v ∧ okV v := by
  obtain ⟨ys, n, _, _, _, hyl, hf⟩ := DataW.trod_struct Try.underlying34 h
  have hyl5 : ys.length = 5 := hyl
  have e0 : DataW.trod enc Try.prog W 0 (fun _ => true) true n 3 ((cs.drop 0).take (Try.prog.cellsOf 3)) = ys[0]? := hf 0 _ rfl
  rw [cellsOf_int, List.getElem?_eq_getElem (by omega)] at e0
  obtain ⟨i0, p0, q0⟩ := int_of_trod e0
  have e1 : DataW.trod enc Try.prog W 0 (fun _ => true) true n 3 ((cs.drop 1).take (Try.prog.cellsOf 3)) = ys[1]? := hf 1 _ rfl
  rw [cellsOf_int, List.getElem?_eq_getElem (by omega)] at e1
  obtain ⟨i1, p1, q1⟩ := int_of_trod e1
  have e2 : DataW.trod enc Try.prog W 0 (fun _ => true) true n 3 ((cs.drop 2).take (Try.prog.cellsOf 3)) = ys[2]? := hf 2 _ rfl
  rw [cellsOf_int, List.getElem?_eq_getElem (by omega)] at e2
  obtain ⟨i2, p2, q2⟩ := int_of_trod e2
  have e3 : DataW.trod enc Try.prog W 0 (fun _ => true) true n 3 ((cs.drop 3).take (Try.prog.cellsOf 3)) = ys[3]? := hf 3 _ rfl
  rw [cellsOf_int, List.getElem?_eq_getElem (by omega)] at e3
  obtain ⟨i3, p3, q3⟩ := int_of_trod e3
  have e4 : DataW.trod enc Try.prog W 0 (fun _ => true) true n 3 ((cs.drop 4).take (Try.prog.cellsOf 3)) = ys[4]? := hf 4 _ rfl
  rw [cellsOf_int, List.getElem?_eq_getElem (by omega)] at e4
  obtain ⟨i4, p4, q4⟩ := int_of_trod e4
  refine ⟨⟨i0, i1, i2, i3, i4⟩, ?_, ⟨⟨⟨⟨q0, q1⟩, q2⟩, q3⟩, q4⟩⟩
  have hs : cs = (cs.drop 0).take 1 ++ ((cs.drop 1).take 1 ++ ((cs.drop 2).take 1 ++ ((cs.drop 3).take 1 ++ (cs.drop 4).take 1))) := by
    match cs, hcl with
    | [_, _, _, _, _], _ => rfl
  rw [hs, p0, p1, p2, p3, p4]
  rfl
theorem split10 {cs : List Value} (h : cs.length = 10) : cs = (cs.drop 0).take 1 ++ ((cs.drop 1).take 1 ++ ((cs.drop 2).take 1 ++ (((cs.drop 3).take 3 ++ ((cs.drop 6).take 3 ++ (cs.drop 9).take 1))))) := by
  match cs, h with
  | [_, _, _, _, _, _, _, _, _, _], _ => rfl
theorem hard_in {H : Type} {enc : TypeId × Value → H} {W : World} {fuel : Nat} {cs : List Value} {x : DataW H × List MemPlace} (hcl : cs.length = 10) (h : DataW.trod enc Try.prog W 0 (fun _ => true) true fuel 59 cs = some x) :
    ∃ q : Hq, cs = cellsH q ∧ IsPt W W.heap.size q.h.p q.a ∧ (InInt q.h.g ∧ InInt q.h.t ∧ InInt q.h.v) := by
  obtain ⟨ys, n, _, _, _, hyl, hf⟩ := DataW.trod_struct Try.underlying59 h
  have hyl5 : ys.length = 6 := hyl
  have e0 : DataW.trod enc Try.prog W 0 (fun _ => true) true n 3 ((cs.drop 0).take (Try.prog.cellsOf 3)) = ys[0]? := hf 0 _ rfl
  rw [cellsOf_int, List.getElem?_eq_getElem (by omega)] at e0
  obtain ⟨i0, p0, q0⟩ := int_of_trod e0
  have e1 : DataW.trod enc Try.prog W 0 (fun _ => true) true n 3 ((cs.drop 1).take (Try.prog.cellsOf 3)) = ys[1]? := hf 1 _ rfl
  rw [cellsOf_int, List.getElem?_eq_getElem (by omega)] at e1
  obtain ⟨i1, p1, q1⟩ := int_of_trod e1
  have e2 : DataW.trod enc Try.prog W 0 (fun _ => true) true n 3 ((cs.drop 2).take (Try.prog.cellsOf 3)) = ys[2]? := hf 2 _ rfl
  rw [cellsOf_int, List.getElem?_eq_getElem (by omega)] at e2
  obtain ⟨i2, p2, q2⟩ := int_of_trod e2
  have e3a : DataW.trod enc Try.prog W 0 (fun _ => true) true n 28 ((cs.drop 3).take (Try.prog.cellsOf 28)) = ys[3]? := hf 3 _ rfl
  have e3b : DataW.trod enc Try.prog W 0 (fun _ => true) true n 31 ((cs.drop 6).take (Try.prog.cellsOf 31)) = ys[4]? := hf 4 _ rfl
  have e3c : DataW.trod enc Try.prog W 0 (fun _ => true) true n 32 ((cs.drop 9).take (Try.prog.cellsOf 32)) = ys[5]? := hf 5 _ rfl
  rw [cellsOf_log, List.getElem?_eq_getElem (by omega)] at e3a
  rw [cellsOf_conf, List.getElem?_eq_getElem (by omega)] at e3b
  rw [cellsOf_bytes, List.getElem?_eq_getElem (by omega)] at e3c
  obtain ⟨pt, ad, hp, hq⟩ := pt_in (len_sub hcl (by omega)) (len_sub hcl (by omega)) e3a e3b e3c
  refine ⟨⟨⟨i0, i1, i2, pt⟩, ad⟩, ?_, hq, q0, q1, q2⟩
  rw [split10 hcl, p0, p1, p2, hp]
  rfl
theorem split17 {cs : List Value} (h : cs.length = 17) : cs = (cs.drop 0).take 1 ++ ((cs.drop 1).take 1 ++ ((cs.drop 2).take 1 ++ ((cs.drop 3).take 1 ++ ((cs.drop 4).take 1 ++ (((cs.drop 5).take 3 ++ ((cs.drop 8).take 3 ++ (cs.drop 11).take 1)) ++ (cs.drop 12).take 5))))) := by
  match cs, h with
  | [_, _, _, _, _, _, _, _, _, _, _, _, _, _, _, _, _], _ => rfl
theorem change_in {H : Type} {enc : TypeId × Value → H} {W : World} {fuel : Nat} {cs : List Value} {x : DataW H × List MemPlace} (hcl : cs.length = 17) (h : DataW.trod enc Try.prog W 0 (fun _ => true) true fuel 36 cs = some x) :
    ∃ q : Cq, cs = cellsC q ∧ IsPt W W.heap.size q.c.p q.a ∧ (InInt q.c.k ∧ InInt q.c.g ∧ InInt q.c.t ∧ InInt q.c.v ∧ InInt q.c.f) ∧ okV q.c.a := by
  obtain ⟨ys, n, _, _, _, hyl, hf⟩ := DataW.trod_struct Try.underlying36 h
  have hyl5 : ys.length = 9 := hyl
  have e0 : DataW.trod enc Try.prog W 0 (fun _ => true) true n 3 ((cs.drop 0).take (Try.prog.cellsOf 3)) = ys[0]? := hf 0 _ rfl
  rw [cellsOf_int, List.getElem?_eq_getElem (by omega)] at e0
  obtain ⟨i0, p0, q0⟩ := int_of_trod e0
  have e1 : DataW.trod enc Try.prog W 0 (fun _ => true) true n 3 ((cs.drop 1).take (Try.prog.cellsOf 3)) = ys[1]? := hf 1 _ rfl
  rw [cellsOf_int, List.getElem?_eq_getElem (by omega)] at e1
  obtain ⟨i1, p1, q1⟩ := int_of_trod e1
  have e2 : DataW.trod enc Try.prog W 0 (fun _ => true) true n 3 ((cs.drop 2).take (Try.prog.cellsOf 3)) = ys[2]? := hf 2 _ rfl
  rw [cellsOf_int, List.getElem?_eq_getElem (by omega)] at e2
  obtain ⟨i2, p2, q2⟩ := int_of_trod e2
  have e3 : DataW.trod enc Try.prog W 0 (fun _ => true) true n 3 ((cs.drop 3).take (Try.prog.cellsOf 3)) = ys[3]? := hf 3 _ rfl
  rw [cellsOf_int, List.getElem?_eq_getElem (by omega)] at e3
  obtain ⟨i3, p3, q3⟩ := int_of_trod e3
  have e4 : DataW.trod enc Try.prog W 0 (fun _ => true) true n 3 ((cs.drop 4).take (Try.prog.cellsOf 3)) = ys[4]? := hf 4 _ rfl
  rw [cellsOf_int, List.getElem?_eq_getElem (by omega)] at e4
  obtain ⟨i4, p4, q4⟩ := int_of_trod e4
  have e5a : DataW.trod enc Try.prog W 0 (fun _ => true) true n 28 ((cs.drop 5).take (Try.prog.cellsOf 28)) = ys[5]? := hf 5 _ rfl
  have e5b : DataW.trod enc Try.prog W 0 (fun _ => true) true n 31 ((cs.drop 8).take (Try.prog.cellsOf 31)) = ys[6]? := hf 6 _ rfl
  have e5c : DataW.trod enc Try.prog W 0 (fun _ => true) true n 32 ((cs.drop 11).take (Try.prog.cellsOf 32)) = ys[7]? := hf 7 _ rfl
  rw [cellsOf_log, List.getElem?_eq_getElem (by omega)] at e5a
  rw [cellsOf_conf, List.getElem?_eq_getElem (by omega)] at e5b
  rw [cellsOf_bytes, List.getElem?_eq_getElem (by omega)] at e5c
  obtain ⟨pt, ad, hp, hq⟩ := pt_in (len_sub hcl (by omega)) (len_sub hcl (by omega)) e5a e5b e5c
  have e8 : DataW.trod enc Try.prog W 0 (fun _ => true) true n 34 ((cs.drop 12).take (Try.prog.cellsOf 34)) = ys[8]? := hf 8 _ rfl
  rw [cellsOf_vote, List.getElem?_eq_getElem (by omega)] at e8
  obtain ⟨vt, hv, hw⟩ := vote_in (len_sub hcl (by omega)) e8
  refine ⟨⟨⟨i0, i1, i2, i3, i4, pt, vt⟩, ad⟩, ?_, hq, ⟨q0, q1, q2, q3, q4⟩, hw⟩
  rw [split17 hcl, p0, p1, p2, p3, p4, hp, hv]
  rfl
theorem hards_in {H : Type} {enc : TypeId × Value → H} {W : World} {fuel : Nat} {cs : List Value} {x : DataW H × List MemPlace} (h : DataW.trod enc Try.prog W 0 (fun _ => true) true fuel 22 cs = some x) :
    ∃ (a : Option Addr) (c : Nat) (L : List Hq), cs = [.slice a L.length c] ∧ IsHds W W.heap.size a L ∧ (L.length ≤ c ∧ c ≤ maxLen) ∧ (a = none → c = 0) := by
  rcases open_slice Try.underlying22 h with ⟨hcs, _⟩ | ⟨a, len, cap, m, n, D, Pl, hcs, _, hl, hm, hmm, _, hi⟩
  · exact ⟨none, 0, [], hcs, ⟨IsRow.nil, by simp, by simp⟩, ⟨Nat.le_refl _, Nat.zero_le _⟩, fun _ => rfl⟩
  · simp only [if_true] at hmm
    subst hmm
    rw [cellsOf_hard] at hi
    obtain ⟨L, h1, h2, h3⟩ := rows_in (f := cellsH) (size := 10) (W := W) (a := a) (len := len) (fun q => IsPt W W.heap.size q.h.p q.a ∧ (InInt q.h.g ∧ InInt q.h.t ∧ InInt q.h.v)) (by decide) (fun i hlt => by
      obtain ⟨cs', e1, e2⟩ := hi i (by omega)
      obtain ⟨q, r1, r2⟩ := hard_in (World.cells?_some e1).2.1 e2
      exact ⟨cs', e1, q, r1, r2⟩)
    subst h1
    exact ⟨some a, _, L, hcs, ⟨h2, fun q hq => (h3 q hq).1, fun q hq => (h3 q hq).2⟩, ⟨hl, hm⟩, fun h => by cases h⟩
theorem votes_in {H : Type} {enc : TypeId × Value → H} {W : World} {fuel : Nat} {cs : List Value} {x : DataW H × List MemPlace} (h : DataW.trod enc Try.prog W 0 (fun _ => true) true fuel 23 cs = some x) :
    ∃ (a : Option Addr) (c : Nat) (L : List Vt), cs = [.slice a L.length c] ∧ IsVs W W.heap.size a L ∧ (L.length ≤ c ∧ c ≤ maxLen) ∧ (a = none → c = 0) := by
  rcases open_slice Try.underlying23 h with ⟨hcs, _⟩ | ⟨a, len, cap, m, n, D, Pl, hcs, _, hl, hm, hmm, _, hi⟩
  · exact ⟨none, 0, [], hcs, ⟨IsRow.nil, by simp⟩, ⟨Nat.le_refl _, Nat.zero_le _⟩, fun _ => rfl⟩
  · simp only [if_true] at hmm
    subst hmm
    rw [cellsOf_vote] at hi
    obtain ⟨L, h1, h2, h3⟩ := rows_in (f := cellsV) (size := 5) (W := W) (a := a) (len := len) (fun q => okV q) (by decide) (fun i hlt => by
      obtain ⟨cs', e1, e2⟩ := hi i (by omega)
      obtain ⟨q, r1, r2⟩ := vote_in (World.cells?_some e1).2.1 e2
      exact ⟨cs', e1, q, r1, r2⟩)
    subst h1
    exact ⟨some a, _, L, hcs, ⟨h2, h3⟩, ⟨hl, hm⟩, fun h => by cases h⟩
structure ImIs (w : World) (B : Nat) (i : Ia) (Q : List Hq) (L : List Vt) : Prop where
  h : IsHds w B i.h Q
  v : IsVs w B i.v L
  rh : (Q.length ≤ i.ch ∧ i.ch ≤ maxLen) ∧ (i.h = none → i.ch = 0)
  rv : (L.length ≤ i.cv ∧ i.cv ≤ maxLen) ∧ (i.v = none → i.cv = 0)
theorem ImIs.below {w w' : World} {B : Nat} {i : Ia} {Q : List Hq} {L : List Vt} (h : ImIs w B i Q L) (hb : Below B w w') : ImIs w' B i Q L := ⟨h.h.below hb, h.v.below hb, h.rh, h.rv⟩
theorem ImIs.more {w : World} {B B' : Nat} {i : Ia} {Q : List Hq} {L : List Vt} (h : ImIs w B i Q L) (hB : B ≤ B') : ImIs w B' i Q L := ⟨h.h.more hB, h.v.more hB, h.rh, h.rv⟩
structure ChIs (w : World) (B : Nat) (c : Ch) (a : Ad) : Prop where
  pt : IsPt w B c.p a
  num : (InInt c.k ∧ InInt c.g ∧ InInt c.t ∧ InInt c.v ∧ InInt c.f) ∧ okV c.a
theorem ChIs.below {w w' : World} {B : Nat} {c : Ch} {a : Ad} (h : ChIs w B c a) (hb : Below B w w') : ChIs w' B c a := ⟨h.pt.below hb, h.num⟩
theorem ChIs.more {w : World} {B B' : Nat} {c : Ch} {a : Ad} (h : ChIs w B c a) (hB : B ≤ B') : ChIs w B' c a := ⟨h.pt.more hB, h.num⟩
theorem image_open {H : Type} {enc : TypeId × Value → H} {W : World} {cs : Array Value} {d : DataW H} {p : List MemPlace} (hsz : cs.size = Try.prog.cellsOf 25) (h : DataW.Trod enc Try.prog W 0 (fun _ => true) true 25 (.agg cs) d p) :
    ∃ (i : Ia) (Q : List Hq) (L : List Vt), cs = #[.slice i.h Q.length i.ch, .slice i.v L.length i.cv] ∧ ImIs W W.heap.size i Q L := by
  obtain ⟨fuel, hf⟩ := h
  rw [cellsOf_image] at hsz
  have hf : DataW.trod enc Try.prog W 0 (fun _ => true) true fuel 25 cs.toList = some (d, p) := hf
  have hcl : cs.toList.length = 2 := by simpa using hsz
  obtain ⟨ys, n, _, _, _, hyl, hg⟩ := DataW.trod_struct Try.underlying25 hf
  have hyl2 : ys.length = 2 := hyl
  have e0 : DataW.trod enc Try.prog W 0 (fun _ => true) true n 22 ((cs.toList.drop 0).take (Try.prog.cellsOf 22)) = ys[0]? := hg 0 _ rfl
  have e1 : DataW.trod enc Try.prog W 0 (fun _ => true) true n 23 ((cs.toList.drop 1).take (Try.prog.cellsOf 23)) = ys[1]? := hg 1 _ rfl
  rw [cellsOf_hards, List.getElem?_eq_getElem (by omega)] at e0
  rw [cellsOf_votes, List.getElem?_eq_getElem (by omega)] at e1
  obtain ⟨a0, c0, Q, p1, p2, p3, p4⟩ := hards_in e0
  obtain ⟨a1, c1, L, q1, q2, q3, q4⟩ := votes_in e1
  refine ⟨⟨a0, c0, a1, c1⟩, Q, L, ?_, ⟨p2, q2, ⟨p3, p4⟩, ⟨q3, q4⟩⟩⟩
  have hs : cs.toList = (cs.toList.drop 0).take 1 ++ (cs.toList.drop 1).take 1 := by
    match cs.toList, hcl with
    | [_, _], _ => rfl
  rw [← Array.toArray_toList (xs := cs), hs, p1, q1]
  rfl
theorem change_open {H : Type} {enc : TypeId × Value → H} {W : World} {cs : Array Value} {d : DataW H} {p : List MemPlace} (hsz : cs.size = Try.prog.cellsOf 36) (h : DataW.Trod enc Try.prog W 0 (fun _ => true) true 36 (.agg cs) d p) :
    ∃ (c : Ch) (a : Ad), cs = #[.int .i64 c.k, .int .i64 c.g, .int .i64 c.t, .int .i64 c.v, .int .i64 c.f, .int .i64 c.p.log.base, .int .i64 c.p.log.term, .slice a.e c.p.log.es.length a.ce, .slice a.o c.p.cf.old.length a.co, .slice a.n c.p.cf.new.length a.cn, .slice a.l c.p.cf.lrn.length a.cl, .slice a.s c.p.sn.length a.cs, .int .i64 c.a.x, .int .i64 c.a.p, .int .i64 c.a.r, .int .i64 c.a.b, .int .i64 c.a.v] ∧ ChIs W W.heap.size c a := by
  obtain ⟨fuel, hf⟩ := h
  rw [cellsOf_change] at hsz
  have hf : DataW.trod enc Try.prog W 0 (fun _ => true) true fuel 36 cs.toList = some (d, p) := hf
  obtain ⟨q, e, h1, h2, h3⟩ := change_in (by simpa using hsz) hf
  refine ⟨q.c, q.a, ?_, ⟨h1, h2, h3⟩⟩
  rw [← Array.toArray_toList (xs := cs), e]
  rfl
end Go.Proofs.Ytaeoccpjdjafnaa.Im
namespace Go.Proofs.Ytaeoccpjdjafnaa.Im
open Go Go.RowKit
open Rl (En Lg)
open Qu (Cf)
set_option maxRecDepth 100000
set_option linter.unusedVariables false
attribute [local go_sem ↓] loadAt_change storeAt_change loadAt_vote storeAt_vote loadAt_log1 storeAt_log1 loadAt_conf3 storeAt_conf3
end Go.Proofs.Ytaeoccpjdjafnaa.Im
namespace Go.Proofs.Ytaeoccpjdjafnaa.Im
open Go Go.RowKit
open Rl (En Lg)
open Qu (Cf)
set_option maxRecDepth 100000
set_option linter.unusedVariables false
local instance lo13 : Lo := ⟨0⟩
theorem pt_lens {p : Pt} (h : bigPt p = false) : p.log.es.length ≤ 100 ∧ weigh p.log.es ≤ 16384 ∧ p.cf.old.length ≤ 100 ∧ p.cf.new.length ≤ 100 ∧ p.cf.lrn.length ≤ 100 ∧ p.sn.length ≤ 16384 := by
  unfold bigPt bigCf big at h
  simp only [Bool.or_eq_false_iff, decide_eq_false_iff_not] at h
  obtain ⟨⟨⟨h1, h2⟩, ⟨h3, h4⟩, h5⟩, h6⟩ := h
  exact ⟨by omega, by omega, by omega, by omega, by omega, by omega⟩
theorem few_of {Q : List Hq} {L : List Vt} (h : fewI Q L = true) : Q.length ≤ 40 ∧ L.length ≤ 200 ∧ ∀ q ∈ Q, bigPt q.h.p = false := by
  unfold fewI bigHs at h
  simp only [Bool.and_eq_true, Bool.not_eq_true', Bool.or_eq_false_iff, decide_eq_false_iff_not, List.any_eq_false, Bool.not_eq_true] at h
  exact ⟨by omega, by omega, fun q hq => by simpa using h.2 q hq⟩
structure FewX (Q : List Hq) (L : List Vt) : Prop where
  hq : Q.length ≤ 40
  lv : L.length ≤ 200
  sz : ∀ q ∈ Q, Sz q.h.p
  fk : ∀ q ∈ Q, FewK q.h.p
  ok : okIm 10000000 ⟨Q.map (·.h), L⟩
  len : 8 + (Q.flatMap encHq).length + (8 + (L.flatMap encV).length) = (encIm ⟨Q.map (·.h), L⟩).length
  big : (encIm ⟨Q.map (·.h), L⟩).length ≤ 2000000
  low : 16 ≤ (encIm ⟨Q.map (·.h), L⟩).length
structure FewCs (M : List Cq) : Prop where
  hq : M.length ≤ 20
  sz : ∀ q ∈ M, Sz q.c.p
  fk : ∀ q ∈ M, FewK q.c.p
  ok : okCs 10000000 (M.map (·.c))
  len : 8 + (M.flatMap encCq).length = (encL encC (M.map (·.c))).length
  big : (encL encC (M.map (·.c))).length ≤ 2000000
  low : 8 ≤ (encL encC (M.map (·.c))).length
end Go.Proofs.Ytaeoccpjdjafnaa.Im
namespace Go.Proofs.Ytaeoccpjdjafnaa.Im
open Go Go.RowKit
open Rl (En Lg)
open Qu (Cf)
set_option maxRecDepth 100000
set_option linter.unusedVariables false
local instance lo15 : Lo := ⟨0⟩
attribute [local go_sem ↓] loadAt_vote storeAt_vote loadAt_hard storeAt_hard loadAt_change storeAt_change
def PtIn (w : World) (B N : Nat) (p : Pt) (a : Ad) : Prop := OwnE w B N a.e a.ce p.log.es ∧ (OwnsI 3 w B a.o a.co p.cf.old ∧ ∀ k, blk a.o = some k → k < N) ∧ (OwnsI 3 w B a.n a.cn p.cf.new ∧ ∀ k, blk a.n = some k → k < N) ∧ (OwnsI 3 w B a.l a.cl p.cf.lrn ∧ ∀ k, blk a.l = some k → k < N) ∧ (OwnsB 5 w B a.s a.cs p.sn ∧ ∀ k, blk a.s = some k → k < N) ∧ (InInt p.log.base ∧ InInt p.log.term)
namespace PtIn
variable {w w' : World} {B B' N N' : Nat} {p : Pt} {a : Ad}
theorem kp (h : PtIn w B N p a) (hk : Kp Parts w w') : PtIn w' B N p a := by
  obtain ⟨h1, h2, h3, h4, h5, h6⟩ := h
  exact ⟨hk.ownE (.inl rfl) (.inr (.inl rfl)) h1, ⟨hk.ownI (.inr (.inr rfl)) h2.1, h2.2⟩, ⟨hk.ownI (.inr (.inr rfl)) h3.1, h3.2⟩, ⟨hk.ownI (.inr (.inr rfl)) h4.1, h4.2⟩, ⟨hk.ownB (.inr (.inl rfl)) h5.1, h5.2⟩, h6⟩
theorem wide (h : PtIn w B N p a) (hB : B' ≤ B) (hN : N ≤ N') : PtIn w B' N' p a := by
  obtain ⟨h1, h2, h3, h4, h5, h6⟩ := h
  exact ⟨h1.wide hB hN, ⟨h2.1.weaken hB, fun k hk => by have := h2.2 k hk; omega⟩, ⟨h3.1.weaken hB, fun k hk => by have := h3.2 k hk; omega⟩, ⟨h4.1.weaken hB, fun k hk => by have := h4.2 k hk; omega⟩, ⟨h5.1.weaken hB, fun k hk => by have := h5.2 k hk; omega⟩, h6⟩
theorem keep {S : Nat → Prop} (h : PtIn w B N p a) (ht : Turned S w w') (hs : ∀ k, S k → ¬ Bl B N k) : PtIn w' B N p a := by
  obtain ⟨h1, h2, h3, h4, h5, h6⟩ := h
  have kB : ∀ {A : Option Addr}, (∀ k, blk A = some k → B ≤ k) → (∀ k, blk A = some k → k < N) → ∀ k, blk A = some k → ¬ S k := fun h3 h4 k hk hS => hs k hS ⟨h3 k hk, h4 k hk⟩
  exact ⟨h1.keep ht hs, ⟨ownsI_turned h2.1 ht (kB (fun k hk => (h2.1.blkLt k hk).1) h2.2), h2.2⟩, ⟨ownsI_turned h3.1 ht (kB (fun k hk => (h3.1.blkLt k hk).1) h3.2), h3.2⟩, ⟨ownsI_turned h4.1 ht (kB (fun k hk => (h4.1.blkLt k hk).1) h4.2), h4.2⟩, ⟨h5.1.turned ht (kB (fun k hk => (h5.1.blkLt k hk).1) h5.2), h5.2⟩, h6⟩
theorem below (h : PtIn w B N p a) (hb : Below N w w') : PtIn w' B N p a :=
  h.keep (S := fun k => N ≤ k) ⟨hb.os, hb.tape, hb.output, hb.size, fun k _ hn => hb.block k (by omega)⟩ (fun k hk hB => by have := hB.2; omega)
theorem reads (h : PtIn w B N p a) : IsPt w N p a := by
  obtain ⟨h1, h2, h3, h4, h5, h6⟩ := h
  exact ⟨h1.reads, isInts_lower h2.1.reads h2.2, isInts_lower h3.1.reads h3.2, isInts_lower h4.1.reads h4.2, isBytes_lower h5.1.reads h5.2, ⟨h1.room, h1.none_⟩, ownsI_room h2.1, ownsI_room h3.1, ownsI_room h4.1, ownsB_room h5.1, h6⟩
end PtIn
structure InHs (w : World) (B N : Nat) (A : Option Addr) (c : Nat) (M : List Hq) : Prop where
  row : RowIn cellsH 10 59 w (Bl B N) A c M
  pts : ∀ q ∈ M, PtIn w B N q.h.p q.a
  num : ∀ q ∈ M, InInt q.h.g ∧ InInt q.h.t ∧ InInt q.h.v
namespace InHs
variable {w w' : World} {B B' N N' : Nat} {A : Option Addr} {c : Nat} {M : List Hq}
theorem nil (w : World) (B N : Nat) : InHs w B N none 0 [] := ⟨RowIn.nil cellsH_fits _ _ _, by simp, by simp⟩
theorem keep {S : Nat → Prop} (h : InHs w B N A c M) (ht : Turned S w w') (hs : ∀ k, S k → ¬ Bl B N k) : InHs w' B N A c M := ⟨h.row.keep ht (fun k hk hS => hs k hS (h.row.blk k hk)), fun q hq => (h.pts q hq).keep ht hs, h.num⟩
theorem below (h : InHs w B N A c M) (hb : Below N w w') : InHs w' B N A c M :=
  h.keep (S := fun k => N ≤ k) ⟨hb.os, hb.tape, hb.output, hb.size, fun k _ hn => hb.block k (by omega)⟩ (fun k hk hB => by have := hB.2; omega)
theorem wide (h : InHs w B N A c M) (hB : B' ≤ B) (hN : N ≤ N') : InHs w B' N' A c M := ⟨h.row.mono (fun k hk => ⟨Nat.le_trans hB (h.row.blk k hk).1, Nat.lt_of_lt_of_le (h.row.blk k hk).2 hN⟩), fun q hq => (h.pts q hq).wide hB hN, h.num⟩
theorem reads (h : InHs w B N A c M) : IsHds w N A M := by
  refine ⟨⟨fun k hk => ?_⟩, fun q hq => (h.pts q hq).reads, h.num⟩
  obtain ⟨g, hA, hg, hF, hc, _⟩ := h.row.get k hk
  refine ⟨g, 0, hA, hF.2, fun i hi j v hv => ?_⟩
  obtain ⟨g', hA', _, _, hc', _⟩ := h.row.get i hi
  obtain rfl : g = g' := by rw [hA] at hA'; injection hA' with e; injection e
  have hj : j < 10 := (List.getElem?_eq_some_iff.1 hv).1
  rw [Nat.zero_add, hc' j hj]; exact hv
theorem put {wr w4 w5 w6 : World} {n4 n5 c1 c6 : Nat} {A1 A6 : Option Addr} {L : List Hq} {x : Hq} (h : InHs wr B wr.heap.size A1 c1 L) (hB : B ≤ wr.heap.size) (hb4 : Below wr.heap.size wr w4) (ho : PtIn w4 wr.heap.size n4 x.h.p x.a) (hn4 : n4 ≤ w4.heap.size) (hn : InInt x.h.g ∧ InInt x.h.t ∧ InInt x.h.v)
    (hb5 : Below w4.heap.size w4 w5) (hrow5 : RowIn cellsH 10 59 w5 (Bl B wr.heap.size) A1 c1 L) (hn5 : w5.heap.size = n5) (hrow6 : RowIn cellsH 10 59 w6 (fun k => Bl B wr.heap.size k ∨ n5 ≤ k) A6 c6 (L ++ [x])) (hg6 : w5.grownBy w6 (Go.Proofs.Ytaeoccpjdjafnaa.blk A1)) :
    InHs w6 B w6.heap.size A6 c6 (L ++ [x]) := by
  have hw4 := hb4.size
  have hw5 := hb5.size
  have hw6 := hg6.size
  have kp56 : Kp Parts w5 w6 := by
    rcases hb : Go.Proofs.Ytaeoccpjdjafnaa.blk A1 with _ | k
    · rw [hb] at hg6
      exact Kp.ofBelow (below_grown hg6 (Nat.le_refl _) (fun j e => by cases e))
    · rw [hb] at hg6
      obtain ⟨cur, hc⟩ := hrow5.tag hb
      exact Kp.ofGrown hc (by rintro (e | e | e) <;> exact absurd e (by decide)) hg6
  refine ⟨hrow6.mono (fun k hk => ⟨?_, hrow6.lt k hk⟩), fun q hq => ?_, fun q hq => ?_⟩
  · rcases hrow6.blk k hk with e | e
    · exact e.1
    · omega
  · rcases List.mem_append.1 hq with hq | hq
    · exact ((((h.pts q hq).kp (Kp.ofBelow hb4)).kp (Kp.ofBelow hb5)).kp kp56).wide (Nat.le_refl _) (by omega)
    · obtain rfl := List.mem_singleton.1 hq
      exact ((ho.kp (Kp.ofBelow hb5)).kp kp56).wide hB (by omega)
  · rcases List.mem_append.1 hq with hq | hq
    · exact h.num q hq
    · obtain rfl := List.mem_singleton.1 hq; exact hn
end InHs
structure InCs (w : World) (B N : Nat) (A : Option Addr) (c : Nat) (M : List Cq) : Prop where
  row : RowIn cellsC 17 36 w (Bl B N) A c M
  pts : ∀ q ∈ M, PtIn w B N q.c.p q.a
  num : ∀ q ∈ M, (InInt q.c.k ∧ InInt q.c.g ∧ InInt q.c.t ∧ InInt q.c.v ∧ InInt q.c.f) ∧ okV q.c.a
namespace InCs
variable {w w' : World} {B B' N N' : Nat} {A : Option Addr} {c : Nat} {M : List Cq}
theorem nil (w : World) (B N : Nat) : InCs w B N none 0 [] := ⟨RowIn.nil cellsC_fits _ _ _, by simp, by simp⟩
theorem keep {S : Nat → Prop} (h : InCs w B N A c M) (ht : Turned S w w') (hs : ∀ k, S k → ¬ Bl B N k) : InCs w' B N A c M := ⟨h.row.keep ht (fun k hk hS => hs k hS (h.row.blk k hk)), fun q hq => (h.pts q hq).keep ht hs, h.num⟩
theorem below (h : InCs w B N A c M) (hb : Below N w w') : InCs w' B N A c M :=
  h.keep (S := fun k => N ≤ k) ⟨hb.os, hb.tape, hb.output, hb.size, fun k _ hn => hb.block k (by omega)⟩ (fun k hk hB => by have := hB.2; omega)
theorem wide (h : InCs w B N A c M) (hB : B' ≤ B) (hN : N ≤ N') : InCs w B' N' A c M := ⟨h.row.mono (fun k hk => ⟨Nat.le_trans hB (h.row.blk k hk).1, Nat.lt_of_lt_of_le (h.row.blk k hk).2 hN⟩), fun q hq => (h.pts q hq).wide hB hN, h.num⟩
theorem reads (h : InCs w B N A c M) : IsCs w N A M := by
  refine ⟨⟨fun k hk => ?_⟩, fun q hq => (h.pts q hq).reads, h.num⟩
  obtain ⟨g, hA, hg, hF, hc, _⟩ := h.row.get k hk
  refine ⟨g, 0, hA, hF.2, fun i hi j v hv => ?_⟩
  obtain ⟨g', hA', _, _, hc', _⟩ := h.row.get i hi
  obtain rfl : g = g' := by rw [hA] at hA'; injection hA' with e; injection e
  have hj : j < 17 := (List.getElem?_eq_some_iff.1 hv).1
  rw [Nat.zero_add, hc' j hj]; exact hv
theorem put {wr w4 w5 w6 : World} {n4 n5 c1 c6 : Nat} {A1 A6 : Option Addr} {L : List Cq} {x : Cq} (h : InCs wr B wr.heap.size A1 c1 L) (hB : B ≤ wr.heap.size) (hb4 : Below wr.heap.size wr w4) (ho : PtIn w4 wr.heap.size n4 x.c.p x.a) (hn4 : n4 ≤ w4.heap.size) (hn : (InInt x.c.k ∧ InInt x.c.g ∧ InInt x.c.t ∧ InInt x.c.v ∧ InInt x.c.f) ∧ okV x.c.a)
    (hb5 : Below w4.heap.size w4 w5) (hrow5 : RowIn cellsC 17 36 w5 (Bl B wr.heap.size) A1 c1 L) (hn5 : w5.heap.size = n5) (hrow6 : RowIn cellsC 17 36 w6 (fun k => Bl B wr.heap.size k ∨ n5 ≤ k) A6 c6 (L ++ [x])) (hg6 : w5.grownBy w6 (Go.Proofs.Ytaeoccpjdjafnaa.blk A1)) :
    InCs w6 B w6.heap.size A6 c6 (L ++ [x]) := by
  have hw4 := hb4.size
  have hw5 := hb5.size
  have hw6 := hg6.size
  have kp56 : Kp Parts w5 w6 := by
    rcases hb : Go.Proofs.Ytaeoccpjdjafnaa.blk A1 with _ | k
    · rw [hb] at hg6
      exact Kp.ofBelow (below_grown hg6 (Nat.le_refl _) (fun j e => by cases e))
    · rw [hb] at hg6
      obtain ⟨cur, hc⟩ := hrow5.tag hb
      exact Kp.ofGrown hc (by rintro (e | e | e) <;> exact absurd e (by decide)) hg6
  refine ⟨hrow6.mono (fun k hk => ⟨?_, hrow6.lt k hk⟩), fun q hq => ?_, fun q hq => ?_⟩
  · rcases hrow6.blk k hk with e | e
    · exact e.1
    · omega
  · rcases List.mem_append.1 hq with hq | hq
    · exact ((((h.pts q hq).kp (Kp.ofBelow hb4)).kp (Kp.ofBelow hb5)).kp kp56).wide (Nat.le_refl _) (by omega)
    · obtain rfl := List.mem_singleton.1 hq
      exact ((ho.kp (Kp.ofBelow hb5)).kp kp56).wide hB (by omega)
  · rcases List.mem_append.1 hq with hq | hq
    · exact h.num q hq
    · obtain rfl := List.mem_singleton.1 hq; exact hn
end InCs
def InVs (w : World) (B N : Nat) (A : Option Addr) (c : Nat) (L : List Vt) : Prop := RowIn cellsV 5 34 w (Bl B N) A c L ∧ ∀ v ∈ L, okV v
namespace InVs
variable {w w' : World} {B B' N N' : Nat} {A : Option Addr} {c : Nat} {L : List Vt}
theorem nil (w : World) (B N : Nat) : InVs w B N none 0 [] := ⟨RowIn.nil cellsV_fits _ _ _, by simp⟩
theorem keep {S : Nat → Prop} (h : InVs w B N A c L) (ht : Turned S w w') (hs : ∀ k, S k → ¬ Bl B N k) : InVs w' B N A c L := ⟨h.1.keep ht (fun k hk hS => hs k hS (h.1.blk k hk)), h.2⟩
theorem below (h : InVs w B N A c L) (hb : Below N w w') : InVs w' B N A c L :=
  h.keep (S := fun k => N ≤ k) ⟨hb.os, hb.tape, hb.output, hb.size, fun k _ hn => hb.block k (by omega)⟩ (fun k hk hB => by have := hB.2; omega)
theorem wide (h : InVs w B N A c L) (hB : B' ≤ B) (hN : N ≤ N') : InVs w B' N' A c L := ⟨h.1.mono (fun k hk => ⟨Nat.le_trans hB (h.1.blk k hk).1, Nat.lt_of_lt_of_le (h.1.blk k hk).2 hN⟩), h.2⟩
theorem reads (h : InVs w B N A c L) : IsVs w N A L := by
  refine ⟨⟨fun k hk => ?_⟩, h.2⟩
  obtain ⟨g, hA, hg, hF, hc, _⟩ := h.1.get k hk
  refine ⟨g, 0, hA, hF.2, fun i hi j v hv => ?_⟩
  obtain ⟨g', hA', _, _, hc', _⟩ := h.1.get i hi
  obtain rfl : g = g' := by rw [hA] at hA'; injection hA' with e; injection e
  have hj : j < 5 := (List.getElem?_eq_some_iff.1 hv).1
  rw [Nat.zero_add, hc' j hj]; exact hv
end InVs
end Go.Proofs.Ytaeoccpjdjafnaa.Im
namespace Go.Proofs.Ytaeoccpjdjafnaa.Im
open Go Go.RowKit
set_option maxRecDepth 100000
set_option linter.unusedVariables false
end Go.Proofs.Ytaeoccpjdjafnaa.Im
namespace Go.Proofs.Ytaeoccpjdjafnaa.Im
open Go Go.RowKit
open Rl (En Lg)
open Qu (Cf)
set_option maxRecDepth 100000
set_option linter.unusedVariables false
theorem chgd_g' {h y : Hd} {c : Ch} (e : chgd h c = some y) : y.g = h.g := by
  unfold chgd at e
  split at e
  · injection e with e; rw [← e]
  · split at e
    · split at e
      · cases e
      · injection e with e; rw [← e]
    · injection e with e; rw [← e]
theorem ltV_asymm {a b : Vt} (h : ltV a b = true) : ltV b a = false := by
  rcases hb : ltV b a with _ | _
  · rfl
  · have := ltV_trans _ _ _ h hb
    rw [ltV_irr] at this; cases this
theorem ltV_total {a b : Vt} (h : ltV a b = false) (hd : a.x ≠ b.x ∨ a.p ≠ b.p) : ltV b a = true := by
  simp [ltV] at *
  rcases hd with hd | hd <;> omega
structure OV (c : Vt) (L : List Vt) (k : Nat) (laid : Bool) (O : List Vt) : Prop where
  no : laid = false → O = L.take k ∧ ∀ v ∈ L.take k, ltV v c = true
  yes : laid = true → O = (L.take k).filter (fun y => ltV y c) ++ c :: (L.take k).filter (fun y => ltV c y) ∧ ∃ i, ∃ h : i < L.length, i < k ∧ ltV L[i] c = false
namespace OV
variable {c : Vt} {L O : List Vt} {k : Nat}
theorem start : OV c L 0 false [] := ⟨fun _ => ⟨rfl, fun v hv => by cases hv⟩, fun h => by cases h⟩
theorem ahead (h : OV c L k false O) (hk : k < L.length) (hv : ltV L[k] c = true) : OV c L (k + 1) false (O ++ [L[k]]) := by
  obtain ⟨h1, h2⟩ := h.no rfl
  rw [h1]
  refine ⟨fun _ => ⟨(List.take_succ_eq_append_getElem hk).symm, fun v hm => ?_⟩, fun e => by cases e⟩
  rw [List.take_succ_eq_append_getElem hk] at hm
  rcases List.mem_append.1 hm with hm | hm
  · exact h2 v hm
  · rw [List.mem_singleton.1 hm]; exact hv
theorem filters (h2 : ∀ v ∈ L.take k, ltV v c = true) : (L.take k).filter (fun y => ltV y c) = L.take k ∧ (L.take k).filter (fun y => ltV c y) = [] :=
  ⟨List.filter_eq_self.2 h2, List.filter_eq_nil_iff.2 (fun v hv => by rw [ltV_asymm (h2 v hv)]; decide)⟩
theorem before (h : OV c L k false O) (hk : k < L.length) (hv : ltV L[k] c = false) (hd : L[k].x ≠ c.x ∨ L[k].p ≠ c.p) : OV c L (k + 1) true ((O ++ [c]) ++ [L[k]]) := by
  obtain ⟨h1, h2⟩ := h.no rfl
  obtain ⟨f1, f2⟩ := filters h2
  refine ⟨fun e => (by cases e), fun _ => ⟨?_, k, hk, by omega, hv⟩⟩
  have hcv := ltV_total hv hd
  rw [List.take_succ_eq_append_getElem hk, List.filter_append, List.filter_append, f1, f2, h1, List.filter_cons_of_neg (by rw [hv]; decide), List.filter_cons_of_pos hcv]
  simp
theorem later (h : OV c L k true O) (hasc : asc ltV L = true) (hk : k < L.length) : ltV L[k] c = false ∧ ltV c L[k] = true := by
  obtain ⟨_, i, hi, hik, hn⟩ := h.yes rfl
  have h1 := asc_lt ltV ltV_trans L hasc i k hi hk hik
  have h2 : ltV c L[k] = true := by
    simp [ltV] at *
    omega
  exact ⟨ltV_asymm h2, h2⟩
theorem more (h : OV c L k true O) (hasc : asc ltV L = true) (hk : k < L.length) : OV c L (k + 1) true (O ++ [L[k]]) := by
  obtain ⟨h0, h2⟩ := h.later hasc hk
  obtain ⟨h1, i, hi, hik, hn⟩ := h.yes rfl
  refine ⟨fun e => (by cases e), fun _ => ⟨?_, i, hi, by omega, hn⟩⟩
  rw [List.take_succ_eq_append_getElem hk, List.filter_append, List.filter_append, h1, List.filter_cons_of_neg (by rw [h0]; decide), List.filter_cons_of_pos h2]
  simp
end OV
theorem ins_set {L : List Hd} (hasc : asc ltH L = true) {k : Nat} (hk : k < L.length) {y : Hd} (hy : y.g = L[k].g) : ins ltH L y = L.set k y := by
  have hlt := asc_lt ltH ltH_trans L hasc
  have hf : ∀ x : Hd, ltH x y = ltH x L[k] := fun x => by unfold ltH; rw [hy]
  have hg : ∀ x : Hd, ltH y x = ltH L[k] x := fun x => by unfold ltH; rw [hy]
  have e1 : L.filter (fun x => ltH x y) = L.take k := by
    conv => lhs; rw [← List.take_append_drop k L]
    rw [List.filter_append, List.filter_eq_self.2, List.filter_eq_nil_iff.2, List.append_nil]
    · intro x hx
      obtain ⟨i, hi, rfl⟩ := List.getElem_of_mem hx
      rw [List.getElem_drop, hf]
      rw [List.length_drop] at hi
      rcases Nat.eq_zero_or_pos i with rfl | h0
      · simp [ltH]
      · have := hlt k (k + i) hk (by omega) (by omega)
        simp [ltH] at *; omega
    · intro x hx
      obtain ⟨i, hi, rfl⟩ := List.getElem_of_mem hx
      rw [List.length_take] at hi
      rw [List.getElem_take, hf]
      exact hlt i k (by omega) hk (by omega)
  have e2 : L.filter (fun x => ltH y x) = L.drop (k + 1) := by
    conv => lhs; rw [← List.take_append_drop (k + 1) L]
    rw [List.filter_append, List.filter_eq_nil_iff.2, List.filter_eq_self.2, List.nil_append]
    · intro x hx
      obtain ⟨i, hi, rfl⟩ := List.getElem_of_mem hx
      rw [List.length_drop] at hi
      rw [List.getElem_drop, hg]
      exact hlt k (k + 1 + i) hk (by omega) (by omega)
    · intro x hx
      obtain ⟨i, hi, rfl⟩ := List.getElem_of_mem hx
      rw [List.length_take] at hi
      rw [List.getElem_take, hg]
      rcases Nat.lt_or_ge i k with h | h
      · have := hlt i k (by omega) hk h
        simp [ltH] at *; omega
      · obtain rfl : i = k := by omega
        simp [ltH]
  unfold ins
  rw [e1, e2, List.set_eq_take_append_cons_drop, if_pos hk]
theorem find_first {L : List Hd} {g : Int} {k : Nat} (hk : k < L.length) (h : L[k].g = g) (hno : ∀ i (hi : i < L.length), i < k → L[i].g ≠ g) : L.find? (fun h => decide (h.g = g)) = some L[k] := by
  rw [List.find?_eq_some_iff_getElem]
  exact ⟨by simpa using h, k, hk, rfl, fun j hj => by simpa using hno j (by omega) hj⟩
end Go.Proofs.Ytaeoccpjdjafnaa.Im
namespace Go.Proofs.Ytaeoccpjdjafnaa.Im
open Go Go.RowKit
open Rl (En Lg)
open Qu (Cf)
set_option maxRecDepth 100000
set_option linter.unusedVariables false
section
variable {α : Type} {lt : α → α → Bool} (ht : ∀ a b c, lt a b = true → lt b c = true → lt a c = true)
include ht
theorem asc_pw (L : List α) : asc lt L = true ↔ L.Pairwise (fun a b => lt a b = true) := by
  constructor
  · intro h
    rw [List.pairwise_iff_getElem]
    intro i j hi hj hij
    exact asc_lt lt ht L h i j hi hj hij
  · intro h
    rw [asc_iff]
    intro i hi
    exact (List.pairwise_iff_getElem.1 h) i (i + 1) (by omega) hi (by omega)
theorem ins_asc {L : List α} (h : asc lt L = true) (x : α) : asc lt (ins lt L x) = true := by
  rw [asc_pw ht] at *
  unfold ins
  rw [List.pairwise_append]
  refine ⟨h.filter _, ?_, fun a ha b hb => ?_⟩
  · rw [List.pairwise_cons]
    exact ⟨fun b hb => (List.mem_filter.1 hb).2, h.filter _⟩
  · have h1 := (List.mem_filter.1 ha).2
    rcases List.mem_cons.1 hb with rfl | hb
    · exact h1
    · exact ht _ _ _ h1 (List.mem_filter.1 hb).2
end
theorem filters_le {α : Type} (p q : α → Bool) (hpq : ∀ a, p a = true → q a = false) : ∀ L : List α, (L.filter p).length + (L.filter q).length ≤ L.length
  | [] => Nat.le_refl _
  | a :: L => by
    have ih := filters_le p q hpq L
    rcases hp : p a with _ | _
    · rcases hq : q a with _ | _
      · rw [List.filter_cons_of_neg (by rw [hp]; decide), List.filter_cons_of_neg (by rw [hq]; decide), List.length_cons]; omega
      · rw [List.filter_cons_of_neg (by rw [hp]; decide), List.filter_cons_of_pos hq, List.length_cons, List.length_cons]; omega
    · rw [List.filter_cons_of_pos hp, List.filter_cons_of_neg (by rw [hpq a hp]; decide), List.length_cons, List.length_cons]; omega
theorem insV_le (L : List Vt) (x : Vt) : (ins ltV L x).length ≤ L.length + 1 := by
  have := filters_le (fun y => ltV y x) (fun y => ltV x y) (fun a h => ltV_asymm h) L
  unfold ins
  rw [List.length_append, List.length_cons]
  omega
structure SmP (n : Nat) (p : Pt) : Prop where
  es : p.log.es.length ≤ 100 + 100 * n
  d : ∀ e ∈ p.log.es, e.d.length ≤ 16384
  cf : p.cf.old.length ≤ 100 ∧ p.cf.new.length ≤ 100 ∧ p.cf.lrn.length ≤ 100
  sn : p.sn.length ≤ 16384
structure Sm (n : Nat) (x : Im) : Prop where
  hn : x.hs.length ≤ 40
  vn : x.vs.length ≤ 200 + n
  p : ∀ h ∈ x.hs, SmP n h.p
  so : asc ltH x.hs = true ∧ asc ltV x.vs = true
theorem mem_weigh {L : List En} {e : En} (h : e ∈ L) : e.d.length ≤ weigh L := by
  induction L with
  | nil => cases h
  | cons a L ih =>
    have h2 : weigh (a :: L) = a.d.length + weigh L := by unfold weigh; simp
    rcases List.mem_cons.1 h with rfl | h
    · omega
    · have := ih h; omega
theorem smP_of {p : Pt} (h : bigPt p = false) : SmP 0 p := by
  obtain ⟨h1, h2, h3, h4, h5, h6⟩ := pt_lens h
  exact ⟨by omega, fun e he => by have := mem_weigh he; omega, ⟨h3, h4, h5⟩, h6⟩
theorem SmP.mono {n m : Nat} {p : Pt} (h : SmP n p) (hnm : n ≤ m) : SmP m p := ⟨by have := h.es; omega, h.d, h.cf, h.sn⟩
theorem chgd_sm {n : Nat} {h y : Hd} {c : Ch} (hh : SmP n h.p) (hc : bigPt c.p = false) (e : chgd h c = some y) : SmP (n + 1) y.p := by
  have hcp := smP_of hc
  unfold chgd at e
  split at e
  · injection e with e; rw [← e]; exact hh.mono (by omega)
  · split at e
    · split at e
      · cases e
      · injection e with e
        rw [← e]
        refine ⟨?_, fun x hx => ?_, hh.cf, hh.sn⟩
        · show (List.take _ _ ++ _).length ≤ _
          rw [List.length_append, List.length_take]
          have h1 := hh.es
          have h2 := hcp.es
          omega
        · rcases List.mem_append.1 hx with hx | hx
          · exact hh.d x (List.mem_of_mem_take hx)
          · exact hcp.d x hx
    · injection e with e
      rw [← e]
      refine ⟨?_, fun x hx => ?_, hcp.cf, hcp.sn⟩
      · show (sinceM _ _ _).es.length ≤ _
        unfold sinceM
        split
        · unfold Rl.Lg.cut
          split
          · show (List.drop _ _).length ≤ _
            rw [List.length_drop]
            have := hh.es
            omega
          · exact Nat.zero_le _
        · exact Nat.zero_le _
      · have hx' : x ∈ (sinceM h.p.log c.p.log.base c.p.log.term).es := hx
        unfold sinceM at hx'
        split at hx'
        · unfold Rl.Lg.cut at hx'
          split at hx'
          · exact hh.d x (List.mem_of_mem_drop hx')
          · cases hx'
        · cases hx'
theorem sm_apply {n : Nat} {x : Im} {c : Ch} (h : Sm n x) (hc : bigPt c.p = false) (e : (apply x c).2 = 0) : Sm (n + 1) (apply x c).1 := by
  unfold apply at *
  by_cases h1 : c.k = 1 ∨ c.k = 2 ∨ c.k = 3
  · rw [if_pos h1] at *
    rcases hf : x.hs.find? (fun h => decide (h.g = c.g)) with _ | h0
    · rw [hf] at e
      have e' : (6 : Int) = 0 := e
      omega
    · rw [hf] at e
      dsimp only at e
      rcases hy : chgd h0 c with _ | y
      · rw [hy] at e
        have e' : (3 : Int) = 0 := e
        omega
      · have hm := List.mem_of_find?_eq_some hf
        obtain ⟨k, hk, hkk⟩ := List.getElem_of_mem hm
        have hg : y.g = x.hs[k].g := by rw [hkk]; exact chgd_g' hy
        have hi : ins ltH x.hs y = x.hs.set k y := ins_set h.so.1 hk hg
        rw [hf]
        dsimp only
        rw [hy]
        refine ⟨?_, by have := h.vn; show x.vs.length ≤ _; omega, fun z hz => ?_, ⟨ins_asc ltH_trans h.so.1 y, h.so.2⟩⟩
        · show (ins ltH x.hs y).length ≤ 40
          rw [hi, List.length_set]; exact h.hn
        · have hz' : z ∈ ins ltH x.hs y := hz
          rw [hi] at hz'
          rcases List.mem_or_eq_of_mem_set hz' with hz | rfl
          · exact (h.p z hz).mono (by omega)
          · exact chgd_sm (h.p h0 hm) hc hy
  · rw [if_neg h1] at *
    by_cases h4 : c.k = 4
    · rw [if_pos h4] at *
      exact ⟨h.hn, Nat.le_trans (insV_le _ _) (by have := h.vn; omega), fun z hz => (h.p z hz).mono (by omega), ⟨h.so.1, ins_asc ltV_trans h.so.2 _⟩⟩
    · rw [if_neg h4] at e
      exact absurd e (by decide)
theorem sm_start {Q : List Hq} {L : List Vt} (hf : fewI Q L = true) (hs : sorted ⟨Q.map (·.h), L⟩ = true) : Sm 0 ⟨Q.map (·.h), L⟩ := by
  obtain ⟨h1, h2, h3⟩ := few_of hf
  unfold sorted at hs
  rw [Bool.and_eq_true] at hs
  refine ⟨by show (Q.map (·.h)).length ≤ 40; rw [List.length_map]; exact h1, by show L.length ≤ 200 + 0; omega, fun h hh => ?_, hs⟩
  obtain ⟨q, hq, rfl⟩ := List.mem_map.1 hh
  exact smP_of (h3 q hq)
def basesB (Q : List Hq) : Bool := Q.all fun q => (decide (0 ≤ q.h.p.log.base) && decide (q.h.p.log.base ≤ 1099511627776)) && (decide (0 ≤ q.h.p.log.term) && decide (q.h.p.log.term ≤ 1099511627776))
theorem basesB_take (Q : List Hq) (k : Nat) (h : k < Q.length) (hb : ∀ q ∈ Q.take k, (0 ≤ q.h.p.log.base ∧ q.h.p.log.base ≤ 1099511627776) ∧ (0 ≤ q.h.p.log.term ∧ q.h.p.log.term ≤ 1099511627776)) (hk : (0 ≤ Q[k].h.p.log.base ∧ Q[k].h.p.log.base ≤ 1099511627776) ∧ (0 ≤ Q[k].h.p.log.term ∧ Q[k].h.p.log.term ≤ 1099511627776)) : ∀ q ∈ Q.take (k + 1), (0 ≤ q.h.p.log.base ∧ q.h.p.log.base ≤ 1099511627776) ∧ (0 ≤ q.h.p.log.term ∧ q.h.p.log.term ≤ 1099511627776) := by
  intro q hq
  rw [List.take_succ_eq_append_getElem h] at hq
  rcases List.mem_append.1 hq with hq | hq
  · exact hb q hq
  · rw [List.mem_singleton.1 hq]; exact hk
theorem basesB_yes {Q : List Hq} (h : ∀ q ∈ Q, (0 ≤ q.h.p.log.base ∧ q.h.p.log.base ≤ 1099511627776) ∧ (0 ≤ q.h.p.log.term ∧ q.h.p.log.term ≤ 1099511627776)) : basesB Q = true := by
  unfold basesB
  rw [List.all_eq_true]
  intro q hq
  obtain ⟨⟨h1, h2⟩, h3, h4⟩ := h q hq
  simp [h1, h2, h3, h4]
theorem basesB_iff {Q : List Hq} (h : basesB Q = true) : ∀ q ∈ Q, (0 ≤ q.h.p.log.base ∧ q.h.p.log.base ≤ 1099511627776) ∧ (0 ≤ q.h.p.log.term ∧ q.h.p.log.term ≤ 1099511627776) := by
  unfold basesB at h
  rw [List.all_eq_true] at h
  intro q hq
  have := h q hq
  simp at this
  exact this
theorem basesB_no {Q : List Hq} (k : Nat) (h : k < Q.length) (hk : ¬ ((0 ≤ Q[k].h.p.log.base ∧ Q[k].h.p.log.base ≤ 1099511627776) ∧ (0 ≤ Q[k].h.p.log.term ∧ Q[k].h.p.log.term ≤ 1099511627776))) : basesB Q = false := by
  rcases hb : basesB Q with _ | _
  · rfl
  · exact absurd (basesB_iff hb _ (List.getElem_mem h)) hk
theorem apply_err {x : Im} {c : Ch} (h : (apply x c).2 ≠ 0) : (apply x c).1 = ⟨[], []⟩ := by
  unfold apply at *
  split at h
  · rename_i h1
    rw [if_pos h1]
    rcases hf : x.hs.find? (fun h => decide (h.g = c.g)) with _ | h0
    · rw [hf]
    · rw [hf] at h ⊢
      dsimp only at h ⊢
      rcases hy : chgd h0 c with _ | y
      · rfl
      · rw [hy] at h
        exact absurd rfl h
  · rename_i h1
    rw [if_neg h1]
    split at h
    · exact absurd rfl h
    · rename_i h4
      rw [if_neg h4]
theorem Sm.mono {n m : Nat} {x : Im} (h : Sm n x) (hnm : n ≤ m) : Sm m x := ⟨h.hn, by have := h.vn; omega, fun z hz => (h.p z hz).mono hnm, h.so⟩
theorem sm_any {n : Nat} {x : Im} {c : Ch} (h : Sm n x) (hc : bigPt c.p = false) : Sm (n + 1) (apply x c).1 := by
  by_cases e : (apply x c).2 = 0
  · exact sm_apply h hc e
  · rw [apply_err e]
    exact ⟨Nat.zero_le _, Nat.zero_le _, fun z hz => (by cases hz), rfl, rfl⟩
theorem smP_few {n : Nat} {p : Pt} (h : SmP n p) (hn : n ≤ 21) : ((FewK p ∧ Rl.Few p.log.es) ∧ p.sn.length ≤ 140737488355328) ∧ FewP p ∧ p.log.es.length ≤ 20000 := by
  obtain ⟨h1, h2, ⟨h3, h4, h5⟩, h6⟩ := h
  exact ⟨⟨⟨⟨by omega, by omega, by omega, by omega⟩, fun e he => by have := h2 e he; omega⟩, by omega⟩, ⟨by omega, fun e he => by have := h2 e he; omega, by omega, by omega, by omega, by omega⟩, by omega⟩
end Go.Proofs.Ytaeoccpjdjafnaa.Im
namespace Go.Proofs.Ytaeoccpjdjafnaa.Im
open Go Go.RowKit
open Rl (En Lg)
open Qu (Cf)
set_option maxRecDepth 100000
set_option linter.unusedVariables false
theorem sinceM_twice (g : Lg) (b t : Int) : sinceM (sinceM g b t) b t = sinceM g b t := by
  obtain ⟨h1, h2⟩ := sinceM_bt g b t
  generalize sinceM g b t = g' at *
  obtain ⟨b', t', es⟩ := g'
  dsimp only at h1 h2
  subst h1 h2
  have hh : (⟨b', t', es⟩ : Lg).has b' = true := by rw [Rl.Lg.has_iff]; exact ⟨Int.le_refl _, by show b' ≤ b' + _; omega⟩
  have hp : (⟨b', t', es⟩ : Lg).pl b' = 0 := by unfold Rl.Lg.pl; show (b' - b').toNat = 0; rw [Int.sub_self]; rfl
  have hc : (⟨b', t', es⟩ : Lg).cut b' = ⟨b', t', es⟩ := by
    unfold Rl.Lg.cut
    rw [if_pos hh, hp]
    rfl
  unfold sinceM
  rw [hc, if_pos ⟨by unfold Rl.Lg.cutE; rw [if_pos hh], rfl⟩]
theorem chgd_twice {h y : Hd} {c : Ch} (e : chgd h c = some y) : chgd y c = some y := by
  unfold chgd at *
  by_cases h1 : c.k = 1
  · rw [if_pos h1] at *
    injection e with e
    rw [← e]
  · rw [if_neg h1] at *
    by_cases h2 : c.k = 2
    · rw [if_pos h2] at *
      by_cases hb : c.f ≤ h.p.log.base ∨ h.p.log.last < c.f - 1
      · rw [if_pos hb] at e; cases e
      · rw [if_neg hb] at e
        injection e with e
        have hl : h.p.log.last = h.p.log.base + (h.p.log.es.length : Nat) := rfl
        obtain ⟨n, hn⟩ : ∃ n, n = (c.f - h.p.log.base - 1).toNat := ⟨_, rfl⟩
        have hn2 : n ≤ h.p.log.es.length := by omega
        rw [← hn] at e
        have hes : y.p.log.es = h.p.log.es.take n ++ c.p.log.es := by rw [← e]
        have hba : y.p.log.base = h.p.log.base := by rw [← e]
        have hl2 : y.p.log.last = h.p.log.base + ((h.p.log.es.take n ++ c.p.log.es).length : Nat) := by rw [← hes, ← hba]; rfl
        have hlen : (h.p.log.es.take n ++ c.p.log.es).length = n + c.p.log.es.length := by rw [List.length_append, List.length_take]; omega
        rw [if_neg (by rw [hba, hl2, hlen]; omega), hba, ← hn, hes]
        have ht : (h.p.log.es.take n ++ c.p.log.es).take n = h.p.log.es.take n := by
          rw [List.take_append_of_le_length (by rw [List.length_take]; omega), List.take_take, Nat.min_self]
        rw [ht, ← hes]
    · rw [if_neg h2] at *
      injection e with e
      have : y.p.log = sinceM h.p.log c.p.log.base c.p.log.term := by rw [← e]
      have hcf : y.p.cf = c.p.cf := by rw [← e]
      have hsn : y.p.sn = c.p.sn := by rw [← e]
      rw [this, sinceM_twice, ← this, ← hcf, ← hsn]
def without (x : Im) (c : Ch) : Im := ⟨x.hs.filter (fun h => decide (c.k = 4) || !decide (h.g = c.g)), x.vs.filter (fun v => !decide (c.k = 4) || (!decide (v.x = c.a.x) || !decide (v.p = c.a.p)))⟩
theorem filter_all {α : Type} (p : α → Bool) (L : List α) (h : ∀ x ∈ L, p x = true) : L.filter p = L := List.filter_eq_self.2 h
theorem ltV_key {v c : Vt} (h : ltV v c = true ∨ ltV c v = true) : (!decide (v.x = c.x) || !decide (v.p = c.p)) = true := by
  simp [ltV] at *
  omega
theorem vs_split {L : List Vt} (h : asc ltV L = true) (c : Vt) : L.filter (fun v => !decide (v.x = c.x) || !decide (v.p = c.p)) = L.filter (fun y => ltV y c) ++ L.filter (fun y => ltV c y) := by
  induction L with
  | nil => rfl
  | cons a L ih =>
    have hp := (asc_pw ltV_trans (a :: L)).1 h
    rw [List.pairwise_cons] at hp
    have ih' := ih ((asc_pw ltV_trans L).2 hp.2)
    by_cases h1 : ltV a c = true
    · rw [List.filter_cons_of_pos (p := fun v : Vt => !decide (v.x = c.x) || !decide (v.p = c.p)) (ltV_key (.inl h1)), List.filter_cons_of_pos (p := fun y => ltV y c) h1, List.filter_cons_of_neg (p := fun y => ltV c y) (by rw [ltV_asymm h1]; decide), ih', List.cons_append]
    · have h1' : ltV a c = false := by simpa using h1
      have hn : L.filter (fun y => ltV y c) = [] := List.filter_eq_nil_iff.2 (fun y hy => by
        have h2 := hp.1 y hy
        intro h3
        have := ltV_trans _ _ _ h2 h3
        rw [h1'] at this; cases this)
      rw [List.filter_cons_of_neg (p := fun y => ltV y c) (by rw [h1']; decide), hn, List.nil_append]
      rw [hn, List.nil_append] at ih'
      by_cases h4 : ltV c a = true
      · rw [List.filter_cons_of_pos (p := fun v : Vt => !decide (v.x = c.x) || !decide (v.p = c.p)) (ltV_key (.inr h4)), List.filter_cons_of_pos (p := fun y => ltV c y) h4, ih']
      · have h4' : ltV c a = false := by simpa using h4
        have hk : ¬ ((!decide (a.x = c.x) || !decide (a.p = c.p)) = true) := by
          intro hk
          have hd : a.x ≠ c.x ∨ a.p ≠ c.p := by simpa using hk
          have := ltV_total h1' hd
          rw [h4'] at this; cases this
        rw [List.filter_cons_of_neg (p := fun v : Vt => !decide (v.x = c.x) || !decide (v.p = c.p)) hk, List.filter_cons_of_neg (p := fun y => ltV c y) (by rw [h4']; decide), ih']
theorem ins_twice (L : List Vt) (c : Vt) : ins ltV (ins ltV L c) c = ins ltV L c := by
  unfold ins
  rw [List.filter_append, List.filter_cons_of_neg (by rw [ltV_irr]; decide), List.filter_append, List.filter_cons_of_neg (by rw [ltV_irr]; decide)]
  rw [List.filter_filter, List.filter_filter, List.filter_filter, List.filter_filter]
  have e1 : (fun a => ltV a c && ltV a c) = (fun a => ltV a c) := by funext a; simp
  have e2 : (fun a => ltV c a && ltV c a) = (fun a => ltV c a) := by funext a; simp
  have e3 : L.filter (fun a => ltV a c && ltV c a) = [] := List.filter_eq_nil_iff.2 (fun a _ h => by
    rw [Bool.and_eq_true] at h
    have := ltV_asymm h.1
    rw [h.2] at this; cases this)
  have e4 : L.filter (fun a => ltV c a && ltV a c) = [] := List.filter_eq_nil_iff.2 (fun a _ h => by
    rw [Bool.and_eq_true] at h
    have := ltV_asymm h.1
    rw [h.2] at this; cases this)
  rw [e1, e2, e3, e4, List.append_nil, List.nil_append]
structure Apart (x y : Im) (c : Ch) : Prop where
  same : without x c = without y c
  one : y.hs.length + y.vs.length = (without y c).hs.length + (without y c).vs.length + 1
  len : y.hs.length = x.hs.length ∨ c.k = 4
  twice : apply y c = (y, 0)
theorem nodup_filter {L : List Hd} (h : asc ltH L = true) {k : Nat} (hk : k < L.length) (g : Int) (hg : L[k].g = g) : L.filter (fun h => !decide (h.g = g)) = L.take k ++ L.drop (k + 1) := by
  have hlt := asc_lt ltH ltH_trans L h
  conv => lhs; rw [← List.take_append_drop k L, List.drop_eq_getElem_cons hk]
  rw [List.filter_append, List.filter_cons_of_neg (by simp [hg])]
  congr 1
  · refine filter_all _ _ (fun x hx => ?_)
    obtain ⟨i, hi, rfl⟩ := List.getElem_of_mem hx
    rw [List.length_take] at hi
    rw [List.getElem_take]
    have := hlt i k (by omega) hk (by omega)
    simp [ltH] at this ⊢; omega
  · refine filter_all _ _ (fun x hx => ?_)
    obtain ⟨i, hi, rfl⟩ := List.getElem_of_mem hx
    rw [List.length_drop] at hi
    rw [List.getElem_drop]
    have := hlt k (k + 1 + i) hk (by omega) (by omega)
    simp [ltH] at this ⊢; omega
theorem apart_of {x y : Im} {c : Ch} (hh : asc ltH x.hs = true) (hv : asc ltV x.vs = true) (e : apply x c = (y, 0)) : Apart x y c := by
  unfold apply at e
  by_cases h1 : c.k = 1 ∨ c.k = 2 ∨ c.k = 3
  · have h4 : c.k ≠ 4 := by omega
    rw [if_pos h1] at e
    rcases hf : x.hs.find? (fun h => decide (h.g = c.g)) with _ | h0
    · rw [hf] at e; exact absurd (congrArg Prod.snd e) (by show ¬ (6 : Int) = 0; decide)
    · rw [hf] at e
      dsimp only at e
      rcases hy : chgd h0 c with _ | z
      · rw [hy] at e; exact absurd (congrArg Prod.snd e) (by show ¬ (3 : Int) = 0; decide)
      · rw [hy] at e
        dsimp only at e
        have he := (congrArg Prod.fst e).symm
        dsimp only at he
        have hm := List.mem_of_find?_eq_some hf
        obtain ⟨k, hk, hkk⟩ := List.getElem_of_mem hm
        have hg0 : h0.g = c.g := by have := List.find?_some hf; simpa using this
        have hzg : z.g = c.g := (chgd_g' hy).trans hg0
        have hi : ins ltH x.hs z = x.hs.set k z := ins_set hh hk (by rw [hkk, hzg, hg0])
        have ha2 : asc ltH (x.hs.set k z) = true := by rw [← hi]; exact ins_asc ltH_trans hh z
        have hk2 : k < (x.hs.set k z).length := by rw [List.length_set]; exact hk
        have hgk : (x.hs.set k z)[k] = z := List.getElem_set_self hk2
        rw [hi] at he
        subst he
        have ew : ∀ l : List Hd, l.filter (fun h => decide (c.k = 4) || !decide (h.g = c.g)) = l.filter (fun h => !decide (h.g = c.g)) := fun l => by
          congr 1; funext h; simp [h4]
        have ev : x.vs.filter (fun v => !decide (c.k = 4) || (!decide (v.x = c.a.x) || !decide (v.p = c.a.p))) = x.vs := filter_all _ _ (fun v _ => by simp [h4])
        have f1 := nodup_filter hh hk c.g (by rw [hkk]; exact hg0)
        have f2 := nodup_filter ha2 hk2 c.g (by rw [hgk]; exact hzg)
        have t1 : (x.hs.set k z).take k = x.hs.take k := List.take_set_of_le (Nat.le_refl _)
        have t2 : (x.hs.set k z).drop (k + 1) = x.hs.drop (k + 1) := List.drop_set_of_lt (by omega)
        rw [t1, t2] at f2
        refine ⟨?_, ?_, .inl (by show (x.hs.set k z).length = _; rw [List.length_set]), ?_⟩
        · unfold without
          rw [ew, ew, f1]
          show _ = (⟨(x.hs.set k z).filter _, _⟩ : Im)
          rw [f2]
        · unfold without
          show (x.hs.set k z).length + x.vs.length = ((x.hs.set k z).filter _).length + (x.vs.filter _).length + 1
          rw [ew, f2, ev, List.length_set, List.length_append, List.length_take, List.length_drop]
          omega
        · unfold apply
          rw [if_pos h1]
          dsimp only
          have hno : ∀ i (hi : i < (x.hs.set k z).length), i < k → (x.hs.set k z)[i].g ≠ c.g := fun i hi' hik => by
            have := asc_lt ltH ltH_trans _ ha2 i k hi' hk2 hik
            rw [hgk] at this
            simp [ltH] at this
            omega
          rw [find_first hk2 (by rw [hgk]; exact hzg) hno]
          dsimp only
          rw [hgk, chgd_twice hy]
          dsimp only
          rw [ins_set ha2 hk2 (by rw [hgk]), List.set_set]
  · rw [if_neg h1] at e
    by_cases h4 : c.k = 4
    · rw [if_pos h4] at e
      have he := (congrArg Prod.fst e).symm
      dsimp only at he
      subst he
      have ew : ∀ l : List Hd, l.filter (fun h => decide (c.k = 4) || !decide (h.g = c.g)) = l := fun l => filter_all _ _ (fun h _ => by simp [h4])
      have ev : ∀ l : List Vt, l.filter (fun v => !decide (c.k = 4) || (!decide (v.x = c.a.x) || !decide (v.p = c.a.p))) = l.filter (fun v => !decide (v.x = c.a.x) || !decide (v.p = c.a.p)) := fun l => by
        congr 1; funext v; simp [h4]
      have s1 := vs_split hv c.a
      have s2 := vs_split (ins_asc ltV_trans hv c.a) c.a
      have s3 : (ins ltV x.vs c.a).filter (fun y => ltV y c.a) ++ (ins ltV x.vs c.a).filter (fun y => ltV c.a y) = x.vs.filter (fun y => ltV y c.a) ++ x.vs.filter (fun y => ltV c.a y) := by
        have := ins_twice x.vs c.a
        have h : ∀ (A B A' B' : List Vt), A ++ c.a :: B = A' ++ c.a :: B' → A.length = A'.length → A ++ B = A' ++ B' := fun A B A' B' h hl => by
          obtain ⟨h1, h2⟩ := List.append_inj h hl
          injection h2 with _ h2
          rw [h1, h2]
        refine h _ _ _ _ this ?_
        unfold ins
        rw [List.filter_append, List.filter_cons_of_neg (by rw [ltV_irr]; decide), List.filter_filter, List.filter_filter]
        have e1 : (fun a => ltV a c.a && ltV a c.a) = (fun a => ltV a c.a) := by funext a; simp
        have e3 : x.vs.filter (fun a => ltV a c.a && ltV c.a a) = [] := List.filter_eq_nil_iff.2 (fun a _ h => by
          rw [Bool.and_eq_true] at h
          have := ltV_asymm h.1
          rw [h.2] at this; cases this)
        rw [e1, e3, List.append_nil]
      refine ⟨?_, ?_, .inr h4, ?_⟩
      · unfold without
        show (⟨_, x.vs.filter _⟩ : Im) = (⟨_, (ins ltV x.vs c.a).filter _⟩ : Im)
        rw [ew, ev, ev, s1, s2, s3]
      · unfold without
        show x.hs.length + (ins ltV x.vs c.a).length = (x.hs.filter _).length + ((ins ltV x.vs c.a).filter _).length + 1
        rw [ew, ev, s2, s3]
        unfold ins
        rw [List.length_append, List.length_append, List.length_cons]
        omega
      · unfold apply
        rw [if_neg h1, if_pos h4]
        show ((⟨x.hs, ins ltV (ins ltV x.vs c.a) c.a⟩ : Im), (0 : Int)) = _
        rw [ins_twice]
    · rw [if_neg h4] at e
      exact absurd (congrArg Prod.snd e) (by show ¬ (13 : Int) = 0; decide)
end Go.Proofs.Ytaeoccpjdjafnaa.Im
