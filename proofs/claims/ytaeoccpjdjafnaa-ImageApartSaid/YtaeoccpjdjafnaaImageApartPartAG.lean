/- Texts of the proof, one behind the other: ImApplyB, ImRdM, QuB, SortI, Compact, QuC, QuD, ImGet, PackInt, KitBytes, PackBlob, PackPut, ImPutA, ImPutB, ImPutC, ImPutD. -/
import Derived.Test.YtaeoccpjdjafnaaImageApartPartAF
import Derived.Test.YtaeoccpjdjafnaaImageApartPartAC
import Derived.Test.YtaeoccpjdjafnaaImageApartPartAD
import Derived.Shelf.Abstract
import Derived.Test.YtaeoccpjdjafnaaRows
import Derived.Test.YtaeoccpjdjafnaaImageApartPartAA
import Derived.Lib.SlKeysI
import Derived.Shelf.SortM.Plain
import Derived.Shelf.SortM.SortNone
import Derived.Shelf.SlicesG.CompactI
import Derived.Test.YtaeoccpjdjafnaaImageApartPartAB
import Derived.Deep.RegionHeld3
import Derived.Test.YtaeoccpjdjafnaaImageApartPartAE
import Derived.Deep.CutRange
import Derived.StillTailTactics
namespace Go.Proofs.Ytaeoccpjdjafnaa.Im
open Go Go.RowKit
open Rl (En Lg)
open Qu (Cf)
set_option maxRecDepth 100000
set_option linter.unusedVariables false
attribute [local go_sem ↓] loadAt_hard storeAt_hard loadAt_change storeAt_change loadAt_vote storeAt_vote loadAt_image storeAt_image
local instance lo8 : Lo := ⟨0⟩
set_option maxHeartbeats 6400000 in
theorem apply2_any (i : Ia) (nh nv : Nat) (Q : List Hq) (L : List Vt) (c : Ch) (ac : Ad) (hk : c.k = 2) (hnh : nh = Q.length) (hnv : nv = L.length) (hlh : nh ≤ 40000) (hlv : nv ≤ 40000) (hah : asc ltH (Q.map (·.h)) = true) (hf : ∀ q ∈ Q, FewP q.h.p ∧ Rl.Ok q.h.p.log ∧ Rl.Few q.h.p.log.es) (hfy : ∀ q ∈ Q, ∀ y, chgd q.h c = some y → FewP y.p) (hcl : c.p.log.es.length ≤ 20000) (w : World) (hh : IsHds w w.heap.size i.h Q) (hv : IsVs w w.heap.size i.v L) (hc : IsPt w w.heap.size c.p ac) (zh : i.h = none → i.ch = 0) (zv : i.v = none → i.cv = 0) (ch : nh ≤ i.ch ∧ i.ch ≤ maxLen) (hnc : (InInt c.k ∧ InInt c.g ∧ InInt c.t ∧ InInt c.v ∧ InInt c.f) ∧ okV c.a) :
    Calls Try.prog 10 #[.agg #[.slice i.h nh i.ch, .slice i.v nv i.cv], .agg #[.int .i64 c.k, .int .i64 c.g, .int .i64 c.t, .int .i64 c.v, .int .i64 c.f, .int .i64 c.p.log.base, .int .i64 c.p.log.term, .slice ac.e c.p.log.es.length ac.ce, .slice ac.o c.p.cf.old.length ac.co, .slice ac.n c.p.cf.new.length ac.cn, .slice ac.l c.p.cf.lrn.length ac.cl, .slice ac.s c.p.sn.length ac.cs, .int .i64 c.a.x, .int .i64 c.a.p, .int .i64 c.a.r, .int .i64 c.a.b, .int .i64 c.a.v]] w fun e w' => ToldA w (apply ⟨Q.map (·.h), L⟩ c) e w' := by
  obtain ⟨wA, hwA⟩ : ∃ wA, wA = (((w.alloc (.cells #[.slice i.h nh i.ch, .slice i.v nv i.cv] 25)).alloc (.cells #[.int .i64 c.k, .int .i64 c.g, .int .i64 c.t, .int .i64 c.v, .int .i64 c.f, .int .i64 c.p.log.base, .int .i64 c.p.log.term, .slice ac.e c.p.log.es.length ac.ce, .slice ac.o c.p.cf.old.length ac.co, .slice ac.n c.p.cf.new.length ac.cn, .slice ac.l c.p.cf.lrn.length ac.cl, .slice ac.s c.p.sn.length ac.cs, .int .i64 c.a.x, .int .i64 c.a.p, .int .i64 c.a.r, .int .i64 c.a.b, .int .i64 c.a.v] 36)).alloc (.cells #[.slice none 0 0, .slice none 0 0] 25)) := ⟨_, rfl⟩
  have hg := ap_start w (.slice i.h nh i.ch) (.slice i.v nv i.cv) c ac
  rw [← hwA] at hg
  have hk3 : c.k = 1 ∨ c.k = 2 ∨ c.k = 3 := by omega
  have k0 : wA.cell? ⟨w.heap.size + 1, 0, none⟩ = some (.int .i64 c.k) := row_cell hg.r3 0
  rw [hk] at k0
  have k1 : wA.cell? ⟨w.heap.size + 1, 1, none⟩ = some (.int .i64 c.g) := row_cell hg.r3 1
  have k2 : wA.cell? ⟨w.heap.size, 0, none⟩ = some (.slice i.h nh i.ch) := row_cell hg.r2 0
  have HP := hid (bsH_any w.heap.size i.h i.ch Q nh hnh.symm (by omega) ⟨c.g, 0, 0, P0⟩ A0 hah wA (hh.below hg.bel) hg.bel.size)
  rw [hwA] at k0 k1 k2
  have HG := hid hg
  have HX := hid (And.intro hh (And.intro hnh (And.intro hlh (And.intro hf (And.intro zh hlv)))))
  have HY := hid (And.intro hv (And.intro hnv (And.intro zv (And.intro ch (And.intro hah (And.intro hc hnc))))))
  have HK := hid (And.intro hk3 (And.intro hcl hfy))
  have hch := ch.1
  clear hg hh hv hnh hnv hlh hlv hah hf zh zv ch hc hnc hk3 hcl hfy hk
  go_enter Try.func10, Try.ntmps10
  go_wp2_with fail
  rw [← hwA]
  clear hwA k0 k1 k2
  refine HP.out.mono ?_
  rintro e w1 ⟨k, f, rfl, hat, hf, hb1⟩
  have hg1 := HG.out.grow hb1
  have k2 : w1.cell? ⟨w.heap.size, 0, none⟩ = some (.slice i.h nh i.ch) := row_cell hg1.r2 0
  rcases f with _ | _
  · have HV : Hid (apply ⟨Q.map (·.h), L⟩ c = (⟨[], []⟩, 6)) := hid (by
      unfold apply
      rw [if_pos HK.out.1, find_no HY.out.2.2.2.2.1 hat (fun h => by have := hf.2 h; cases this)])
    have hst := stSame info_image2 hg1.r4 rfl (by simp [Value.oneCell'])
    have HG1 := hid hg1
    clear hg1 hb1 hat hf
    go_wp2_with fail
    refine bodyPost_ret (results_two rfl info_image2 Try.underlying25 rfl _ _ (w.heap.size + 1 + 1) _ _ _ rfl HG1.out.r4 rfl) rfl ?_
    exact toldA_none 6 HG1.out.bel HV.out
  · obtain ⟨hkl, hkg⟩ := hf.1 rfl
    have HFI := hid (find_yes hat hkl hkg)
    obtain ⟨b, off, hA, hbb, hcs⟩ := (HX.out.1.below hg1.bel).row.at_ k hkl
    obtain ⟨q, hq⟩ : ∃ q, q = Q[k] := ⟨_, rfl⟩
    have hr0 := hcs k hkl
    rw [← hq] at hr0 HFI
    have hqm : q ∈ Q := by rw [hq]; exact List.getElem_mem hkl
    obtain ⟨y, ay⟩ := q
    have hyg : y.g = c.g := by rw [← hkg, ← hq]
    have hbw1 : b < w1.heap.size := by have := hg1.bel.size; omega
    have LD : Hid (∀ W, Below w1.heap.size w1 W → (ldX 59 (.pointer (some ⟨b, off + k * 10, none⟩))).run Try.prog W = .ok (.agg #[.int .i64 y.g, .int .i64 y.t, .int .i64 y.v, .int .i64 y.p.log.base, .int .i64 y.p.log.term, .slice ay.e y.p.log.es.length ay.ce, .slice ay.o y.p.cf.old.length ay.co, .slice ay.n y.p.cf.new.length ay.cn, .slice ay.l y.p.cf.lrn.length ay.cl, .slice ay.s y.p.sn.length ay.cs]) W ∧ (ldX 36 (.pointer (some ⟨w.heap.size + 1, 0, none⟩))).run Try.prog W = .ok (.agg #[.int .i64 c.k, .int .i64 c.g, .int .i64 c.t, .int .i64 c.v, .int .i64 c.f, .int .i64 c.p.log.base, .int .i64 c.p.log.term, .slice ac.e c.p.log.es.length ac.ce, .slice ac.o c.p.cf.old.length ac.co, .slice ac.n c.p.cf.new.length ac.cn, .slice ac.l c.p.cf.lrn.length ac.cl, .slice ac.s c.p.sn.length ac.cs, .int .i64 c.a.x, .int .i64 c.a.p, .int .i64 c.a.r, .int .i64 c.a.b, .int .i64 c.a.v]) W ∧ W.cell? ⟨w.heap.size, 0, none⟩ = some (.slice i.h nh i.ch)) := hid (fun W hb =>
      ⟨ldH W b (off + k * 10) (cellsH ⟨y, ay⟩) rfl (fun j v hv => (hb.cell (p := ⟨b, off + k * 10 + j, none⟩) hbw1).trans (hr0 j v hv)), ldRow info_change Try.underlying36 rfl ((hb.block _ (row_lt hg1.r3)).trans hg1.r3) rfl, row_cell ((hb.block _ (row_lt hg1.r2)).trans hg1.r2) 0⟩)
    rw [hA] at LD
    obtain ⟨l0, l1, l2⟩ := LD.out w1 (Below.refl _ _)
    obtain ⟨m0, m1, m2⟩ := LD.out w1.drew (Below.refl _ _).drew
    have b1 : (k : Int) < (nh : Int) := by have := HX.out.2.1; omega
    have b0 : (0 : Int) ≤ (k : Int) := by omega
    have HQ := hid (And.intro hqm hyg)
    have CH : Hid (∀ W, Below w1.heap.size w1 W → Calls Try.prog 30 #[.agg #[.int .i64 y.g, .int .i64 y.t, .int .i64 y.v, .int .i64 y.p.log.base, .int .i64 y.p.log.term, .slice ay.e y.p.log.es.length ay.ce, .slice ay.o y.p.cf.old.length ay.co, .slice ay.n y.p.cf.new.length ay.cn, .slice ay.l y.p.cf.lrn.length ay.cl, .slice ay.s y.p.sn.length ay.cs], .agg #[.int .i64 c.k, .int .i64 c.g, .int .i64 c.t, .int .i64 c.v, .int .i64 c.f, .int .i64 c.p.log.base, .int .i64 c.p.log.term, .slice ac.e c.p.log.es.length ac.ce, .slice ac.o c.p.cf.old.length ac.co, .slice ac.n c.p.cf.new.length ac.cn, .slice ac.l c.p.cf.lrn.length ac.cl, .slice ac.s c.p.sn.length ac.cs, .int .i64 c.a.x, .int .i64 c.a.p, .int .i64 c.a.r, .int .i64 c.a.b, .int .i64 c.a.v]] W fun e w' => Told13 w.heap.size W (chgd y c) e w') := hid (fun W hb =>
      changed_any y ay c ac HK.out.1 (HX.out.2.2.2.1 _ hqm).2.1 (HX.out.2.2.2.1 _ hqm).2.2 HK.out.2.1 w.heap.size W (Nat.le_trans hg1.bel.size hb.size) ((HX.out.1.pt _ hqm).below (hg1.bel.trans (hb.mono hg1.bel.size))) (HY.out.2.2.2.2.2.1.below (hg1.bel.trans (hb.mono hg1.bel.size))) (HX.out.1.num _ hqm) HY.out.2.2.2.2.2.2)
    have HG1 := hid hg1
    rw [hA] at HG1
    clear hat hf hb1 hg1 hcs hr0 hq hqm hkl hkg hbb hyg hbw1
    rw [hA] at k2
    go_wp2_with fail
    go_region_held3 (fun W => (ldX 59 (.pointer (some ⟨b, off + k * 10, none⟩))).run Try.prog W = .ok (.agg #[.int .i64 y.g, .int .i64 y.t, .int .i64 y.v, .int .i64 y.p.log.base, .int .i64 y.p.log.term, .slice ay.e y.p.log.es.length ay.ce, .slice ay.o y.p.cf.old.length ay.co, .slice ay.n y.p.cf.new.length ay.cn, .slice ay.l y.p.cf.lrn.length ay.cl, .slice ay.s y.p.sn.length ay.cs]) W ∧ (ldX 36 (.pointer (some ⟨w.heap.size + 1, 0, none⟩))).run Try.prog W = .ok (.agg #[.int .i64 c.k, .int .i64 c.g, .int .i64 c.t, .int .i64 c.v, .int .i64 c.f, .int .i64 c.p.log.base, .int .i64 c.p.log.term, .slice ac.e c.p.log.es.length ac.ce, .slice ac.o c.p.cf.old.length ac.co, .slice ac.n c.p.cf.new.length ac.cn, .slice ac.l c.p.cf.lrn.length ac.cl, .slice ac.s c.p.sn.length ac.cs, .int .i64 c.a.x, .int .i64 c.a.p, .int .i64 c.a.r, .int .i64 c.a.b, .int .i64 c.a.v]) W ∧ W.cell? ⟨w.heap.size, 0, none⟩ = some (.slice (some ⟨b, off, none⟩) nh i.ch))
      (first | with_reducible exact ⟨l0, l1, l2⟩ | with_reducible exact ⟨m0, m1, m2⟩ | with_reducible exact e3 | with_reducible exact e4 | with_reducible exact LD.out _ (HB3.out.alloc HB3.out.size _) | with_reducible exact LD.out _ (((Below.refl _ w1).alloc (Nat.le_refl _) _).drew) | fail)
      (first
        | (go_at_call 30; refine (CH.out _ (Below.refl _ _).drew).mono ?_; rintro e w3 ⟨z, az, n, rfl, hn, hst, hnum, hb3⟩; have HB3 : Hid (Below w1.heap.size w1 w3) := hid ((Below.refl _ w1).drew.trans hb3); have e3 := LD.out w3 HB3.out; have hsn := stNew w3 59 10 info_hard #[.int .i64 0, .int .i64 0, .int .i64 0, .int .i64 0, .int .i64 0, .slice none 0 0, .slice none 0 0, .slice none 0 0, .slice none 0 0, .slice none 0 0] #[.int .i64 z.g, .int .i64 z.t, .int .i64 z.v, .int .i64 z.p.log.base, .int .i64 z.p.log.term, .slice az.e z.p.log.es.length az.ce, .slice az.o z.p.cf.old.length az.co, .slice az.n z.p.cf.new.length az.cn, .slice az.l z.p.cf.lrn.length az.cl, .slice az.s z.p.sn.length az.cs] rfl rfl (by simp [Value.oneCell']))
        | (go_at_call 30; refine (CH.out _ (((Below.refl _ w1).alloc (Nat.le_refl _) _).drew)).mono ?_; rintro e w3 ⟨z, az, n, rfl, hn, hst, hnum, hb3⟩; have HB3 : Hid (Below w1.heap.size w1 w3) := hid ((((Below.refl _ w1).alloc (Nat.le_refl _) _).drew).trans (hb3.mono (by simp))); have e3 := LD.out w3 HB3.out; have hr8 : w3.heap[w1.heap.size]? = some (.cells #[.int .i64 0, .int .i64 0, .int .i64 0, .int .i64 0, .int .i64 0, .slice none 0 0, .slice none 0 0, .slice none 0 0, .slice none 0 0, .slice none 0 0] 59 (0, 0)) := (hb3.block _ (by simp)).trans (heap_alloc_new w1 _); have hst8 := stRow info_hard (cs' := #[.int .i64 z.g, .int .i64 z.t, .int .i64 z.v, .int .i64 z.p.log.base, .int .i64 z.p.log.term, .slice az.e z.p.log.es.length az.ce, .slice az.o z.p.cf.old.length az.co, .slice az.n z.p.cf.new.length az.cn, .slice az.l z.p.cf.lrn.length az.cl, .slice az.s z.p.sn.length az.cs]) hr8 rfl rfl (by simp [Value.oneCell']); have e4 := LD.out (w3.setRow w1.heap.size #[.int .i64 z.g, .int .i64 z.t, .int .i64 z.v, .int .i64 z.p.log.base, .int .i64 z.p.log.term, .slice az.e z.p.log.es.length az.ce, .slice az.o z.p.cf.old.length az.co, .slice az.n z.p.cf.new.length az.cn, .slice az.l z.p.cf.lrn.length az.cl, .slice az.s z.p.sn.length az.cs]) (HB3.out.trans ((row_turned w3 w1.heap.size #[.int .i64 z.g, .int .i64 z.t, .int .i64 z.v, .int .i64 z.p.log.base, .int .i64 z.p.log.term, .slice az.e z.p.log.es.length az.ce, .slice az.o z.p.cf.old.length az.co, .slice az.n z.p.cf.new.length az.cn, .slice az.l z.p.cf.lrn.length az.cl, .slice az.s z.p.sn.length az.cs]).below HB3.out.size (fun k hk => by omega))); have HR8 := hid (setRow_heap w3 w1.heap.size _ #[.int .i64 z.g, .int .i64 z.t, .int .i64 z.v, .int .i64 z.p.log.base, .int .i64 z.p.log.term, .slice az.e z.p.log.es.length az.ce, .slice az.o z.p.cf.old.length az.co, .slice az.n z.p.cf.new.length az.cn, .slice az.l z.p.cf.lrn.length az.cl, .slice az.s z.p.sn.length az.cs] _ _ hr8); clear hr8)
        | fail)
    all_goals
      clear l0 l1 l2 m0 m1 m2 e3
      first
        | (have HM : Hid (Mid w w1 (.slice (some ⟨b, off, none⟩) nh i.ch) (.slice i.v nv i.cv) c ac z az w3.heap.size (w3.alloc (.cells #[.int .i64 z.g, .int .i64 z.t, .int .i64 z.v, .int .i64 z.p.log.base, .int .i64 z.p.log.term, .slice az.e z.p.log.es.length az.ce, .slice az.o z.p.cf.old.length az.co, .slice az.n z.p.cf.new.length az.cn, .slice az.l z.p.cf.lrn.length az.cl, .slice az.s z.p.sn.length az.cs] 59))) := hid ⟨(HG1.out.grow HB3.out).grow ((Below.refl _ w3).alloc (Nat.le_refl _) _), heap_alloc_new w3 _, HB3.out.size, fun W' hT => hst W' ((Turned.ofBelow _ ((Below.refl _ w3).alloc (Nat.le_refl _) _)).trans hT)⟩
           generalize w3.alloc (.cells #[.int .i64 z.g, .int .i64 z.t, .int .i64 z.v, .int .i64 z.p.log.base, .int .i64 z.p.log.term, .slice az.e z.p.log.es.length az.ce, .slice az.o z.p.cf.old.length az.co, .slice az.n z.p.cf.new.length az.cn, .slice az.l z.p.cf.lrn.length az.cl, .slice az.s z.p.sn.length az.cs] 59) = w4 at *
           generalize w3.heap.size = b8 at *)
        | (have HM : Hid (Mid w w1 (.slice (some ⟨b, off, none⟩) nh i.ch) (.slice i.v nv i.cv) c ac z az w1.heap.size (w3.setRow w1.heap.size #[.int .i64 z.g, .int .i64 z.t, .int .i64 z.v, .int .i64 z.p.log.base, .int .i64 z.p.log.term, .slice az.e z.p.log.es.length az.ce, .slice az.o z.p.cf.old.length az.co, .slice az.n z.p.cf.new.length az.cn, .slice az.l z.p.cf.lrn.length az.cl, .slice az.s z.p.sn.length az.cs])) := hid ⟨(HG1.out.grow HB3.out).turned (row_lt HG1.out.r4) (row_turned w3 w1.heap.size #[.int .i64 z.g, .int .i64 z.t, .int .i64 z.v, .int .i64 z.p.log.base, .int .i64 z.p.log.term, .slice az.e z.p.log.es.length az.ce, .slice az.o z.p.cf.old.length az.co, .slice az.n z.p.cf.new.length az.cn, .slice az.l z.p.cf.lrn.length az.cl, .slice az.s z.p.sn.length az.cs]), HR8.out, Nat.le_refl _, fun W' hT => hst W' (((row_turned w3 w1.heap.size #[.int .i64 z.g, .int .i64 z.t, .int .i64 z.v, .int .i64 z.p.log.base, .int .i64 z.p.log.term, .slice az.e z.p.log.es.length az.ce, .slice az.o z.p.cf.old.length az.co, .slice az.n z.p.cf.new.length az.cn, .slice az.l z.p.cf.lrn.length az.cl, .slice az.s z.p.sn.length az.cs]).mono (fun k hk => by subst hk; exact ⟨HG1.out.bel.size, by simp⟩)).trans (hT.mono (fun k hk => ⟨hk.1, by simp; omega⟩)))⟩
           generalize w3.setRow w1.heap.size #[.int .i64 z.g, .int .i64 z.t, .int .i64 z.v, .int .i64 z.p.log.base, .int .i64 z.p.log.term, .slice az.e z.p.log.es.length az.ce, .slice az.o z.p.cf.old.length az.co, .slice az.n z.p.cf.new.length az.cn, .slice az.l z.p.cf.lrn.length az.cl, .slice az.s z.p.sn.length az.cs] = w4 at *
           generalize hb8 : w1.heap.size = b8 at *)
      have hm := HM.out
      have k20 : w4.cell? ⟨w.heap.size, 0, none⟩ = some (.slice (some ⟨b, off, none⟩) nh i.ch) := row_cell hm.ap.r2 0
      have f20 := row_free hm.ap.r2 0
      have l8 := ldRow info_hard Try.underlying59 rfl hm.r8 rfl
      have hz1 : w1.heap.size ≤ w4.heap.size := Nat.le_trans hm.le (Nat.le_of_lt (row_lt hm.r8))
      obtain ⟨ro, hc9⟩ : ∃ ro, chgd y c = ro := ⟨_, rfl⟩
      rw [hc9] at hn
      cases ro with
      | none =>
        obtain rfl : n = 3 := hn
        have HV : Hid (apply ⟨Q.map (·.h), L⟩ c = (⟨[], []⟩, 3)) := hid (by
          unfold apply
          rw [if_pos HK.out.1, HFI.out]
          show (match chgd y c with | none => _ | some y => _) = _
          rw [hc9])
        have hst4 := stSame info_image2 hm.ap.r4 rfl (by simp [Value.oneCell'])
        clear hm hc9 hst hnum
        go_wp2_with fail
        refine bodyPost_ret (results_two rfl info_image2 Try.underlying25 rfl _ _ (w.heap.size + 1 + 1) _ _ _ rfl HM.out.ap.r4 rfl) rfl ?_
        exact toldA_none 3 HM.out.ap.bel HV.out
      | some z' =>
        have hn1 : z = z' := hn.1
        have hn2 : n = 0 := hn.2
        subst hn1
        subst hn2
        clear hn
        have HV : Hid (apply ⟨Q.map (·.h), L⟩ c = (⟨ins ltH (Q.map (·.h)) z, L⟩, 0)) := hid (by
          unfold apply
          rw [if_pos HK.out.1, HFI.out]
          show (match chgd y c with | none => _ | some y => _) = _
          rw [hc9])
        have HFY := hid (HK.out.2.2 _ HQ.out.1 z hc9)
        have HPL := hid (placedH_any (some ⟨b, off, none⟩) i.ch Q nh HX.out.2.1.symm HX.out.2.2.1 HY.out.2.2.2.1 (fun e => by cases e) z az HY.out.2.2.2.2.1 w.heap.size w1.heap.size w4 hm.ap.bel.size hz1 (by rw [← hA]; exact HX.out.1.below hm.ap.bel) hm.st hnum)
        clear hm hc9 hst hnum hz1
        go_wp2_with fail
        refine HPL.out.mono ?_
        rintro e w5 ⟨A1, c1, m1, rfl, ⟨Q', hQ', ⟨hm, hmn⟩, hs5, hn1, hc1⟩, hb5⟩
        have hg5 := HM.out.ap.grow hb5
        have k50 : w5.cell? ⟨w.heap.size, 0, none⟩ = some (.slice (some ⟨b, off, none⟩) nh i.ch) := row_cell hg5.r2 0
        have f50 := row_free hg5.r2 0
        have hg6 := hg5.set0 (.slice A1 m1 c1)
        have hT6 : Turned (fun k => k = w.heap.size) w5 (w5.setCell ⟨w.heap.size, 0, none⟩ (.slice A1 m1 c1)) := Turned.one _ _ _ _
        have hs6 := hs5 _ (hT6.mono (fun k hk => ⟨by omega, by have := row_lt HG1.out.r2; omega⟩))
        have HZ := hid (And.intro hQ' (And.intro hm (And.intro hmn (And.intro hn1 hc1))))
        clear hb5 hg5 hT6 hs5 hQ' hm hmn hn1 hc1 k20 f20 l8
        go_wp2_with fail
        generalize w5.setCell ⟨w.heap.size, 0, none⟩ (.slice A1 m1 c1) = w6 at *
        have hld := ldRow info_image2 Try.underlying25 rfl hg6.r2 rfl
        have HO := hid (ownImage_any ⟨A1, c1, i.v, i.cv⟩ m1 nv Q' L HZ.out.2.1 HY.out.2.1 (by have := HZ.out.2.2.1; have := HX.out.2.2.1; omega) (by have := HX.out.2.2.2.2.2; omega) (fun q hq => by
          have hq' : q.h ∈ ins ltH (Q.map (·.h)) z := by rw [← HZ.out.1]; exact List.mem_map.2 ⟨q, hq, rfl⟩
          rcases mem_ins hq' with h | h
          · rw [h]; exact HFY.out
          · obtain ⟨q', hq', e⟩ := List.mem_map.1 h
            rw [← e]; exact (HX.out.2.2.2.1 _ hq').1) w6 hs6 ((HY.out.1.below hg6.bel).more hg6.bel.size) HZ.out.2.2.2.1 HY.out.2.2.1)
        have HG6 := hid hg6
        clear hg6 hs6 k50 f50
        go_wp2_with fail
        refine HO.out.mono ?_
        rintro e w7 ⟨j, rfl, ⟨Q7, hQ7, ho⟩, hb7⟩
        have hg7 := HG6.out.grow hb7
        have hst7 := stRow info_image2 (cs' := #[.slice j.h m1 j.ch, .slice j.v nv j.cv]) hg7.r4 rfl rfl (by simp [Value.oneCell'])
        have r5 := setRow_heap w7 (w.heap.size + 1 + 1) _ #[.slice j.h m1 j.ch, .slice j.v nv j.cv] _ _ hg7.r4
        have tT := row_turned w7 (w.heap.size + 1 + 1) #[.slice j.h m1 j.ch, .slice j.v nv j.cv]
        generalize w7.setRow (w.heap.size + 1 + 1) #[.slice j.h m1 j.ch, .slice j.v nv j.cv] = wC at *
        have HF : Hid (wC.heap[w.heap.size + 1 + 1]? = some (.cells #[.slice j.h m1 j.ch, .slice j.v nv j.cv] 25 (0, 0)) ∧ (∃ Q1 L1, (m1 = Q1.length ∧ nv = L1.length) ∧ OwnIm wC w.heap.size wC.heap.size j Q1 L1 ∧ (⟨Q1.map (·.h), L1⟩ : Im) = (apply ⟨Q.map (·.h), L⟩ c).1) ∧ Below w.heap.size w wC) := hid (by
          have z4 := row_lt HG6.out.r4
          have z3 := hb7.size
          have zb := HG6.out.bel.size
          refine ⟨r5, ⟨Q7, L, ⟨?_, HY.out.2.1⟩, (ho.keep tT (fun k hk hB => by have := hB.1; omega)).wide zb tT.size, ?_⟩, hg7.bel.trans (tT.below hg7.bel.size (fun k hk => by omega))⟩
          · have := congrArg List.length hQ7
            rw [List.length_map, List.length_map] at this
            rw [this]; exact HZ.out.2.1
          · rw [HV.out, hQ7, HZ.out.1])
        clear hg7 r5 tT ho hb7
        go_wp2_with fail
        refine bodyPost_ret (results_two rfl info_image2 Try.underlying25 rfl _ _ (w.heap.size + 1 + 1) _ _ _ rfl HF.out.1 rfl) rfl ?_
        exact ⟨j, m1, nv, 0, rfl, by rw [HV.out], HF.out.2⟩
set_option maxHeartbeats 6400000 in
theorem apply3_any (i : Ia) (nh nv : Nat) (Q : List Hq) (L : List Vt) (c : Ch) (ac : Ad) (hk : c.k = 3) (hnh : nh = Q.length) (hnv : nv = L.length) (hlh : nh ≤ 40000) (hlv : nv ≤ 40000) (hah : asc ltH (Q.map (·.h)) = true) (hf : ∀ q ∈ Q, FewP q.h.p ∧ Rl.Ok q.h.p.log ∧ Rl.Few q.h.p.log.es) (hfy : ∀ q ∈ Q, ∀ y, chgd q.h c = some y → FewP y.p) (hcl : c.p.log.es.length ≤ 20000) (w : World) (hh : IsHds w w.heap.size i.h Q) (hv : IsVs w w.heap.size i.v L) (hc : IsPt w w.heap.size c.p ac) (zh : i.h = none → i.ch = 0) (zv : i.v = none → i.cv = 0) (ch : nh ≤ i.ch ∧ i.ch ≤ maxLen) (hnc : (InInt c.k ∧ InInt c.g ∧ InInt c.t ∧ InInt c.v ∧ InInt c.f) ∧ okV c.a) :
    Calls Try.prog 10 #[.agg #[.slice i.h nh i.ch, .slice i.v nv i.cv], .agg #[.int .i64 c.k, .int .i64 c.g, .int .i64 c.t, .int .i64 c.v, .int .i64 c.f, .int .i64 c.p.log.base, .int .i64 c.p.log.term, .slice ac.e c.p.log.es.length ac.ce, .slice ac.o c.p.cf.old.length ac.co, .slice ac.n c.p.cf.new.length ac.cn, .slice ac.l c.p.cf.lrn.length ac.cl, .slice ac.s c.p.sn.length ac.cs, .int .i64 c.a.x, .int .i64 c.a.p, .int .i64 c.a.r, .int .i64 c.a.b, .int .i64 c.a.v]] w fun e w' => ToldA w (apply ⟨Q.map (·.h), L⟩ c) e w' := by
  obtain ⟨wA, hwA⟩ : ∃ wA, wA = (((w.alloc (.cells #[.slice i.h nh i.ch, .slice i.v nv i.cv] 25)).alloc (.cells #[.int .i64 c.k, .int .i64 c.g, .int .i64 c.t, .int .i64 c.v, .int .i64 c.f, .int .i64 c.p.log.base, .int .i64 c.p.log.term, .slice ac.e c.p.log.es.length ac.ce, .slice ac.o c.p.cf.old.length ac.co, .slice ac.n c.p.cf.new.length ac.cn, .slice ac.l c.p.cf.lrn.length ac.cl, .slice ac.s c.p.sn.length ac.cs, .int .i64 c.a.x, .int .i64 c.a.p, .int .i64 c.a.r, .int .i64 c.a.b, .int .i64 c.a.v] 36)).alloc (.cells #[.slice none 0 0, .slice none 0 0] 25)) := ⟨_, rfl⟩
  have hg := ap_start w (.slice i.h nh i.ch) (.slice i.v nv i.cv) c ac
  rw [← hwA] at hg
  have hk3 : c.k = 1 ∨ c.k = 2 ∨ c.k = 3 := by omega
  have k0 : wA.cell? ⟨w.heap.size + 1, 0, none⟩ = some (.int .i64 c.k) := row_cell hg.r3 0
  rw [hk] at k0
  have k1 : wA.cell? ⟨w.heap.size + 1, 1, none⟩ = some (.int .i64 c.g) := row_cell hg.r3 1
  have k2 : wA.cell? ⟨w.heap.size, 0, none⟩ = some (.slice i.h nh i.ch) := row_cell hg.r2 0
  have HP := hid (bsH_any w.heap.size i.h i.ch Q nh hnh.symm (by omega) ⟨c.g, 0, 0, P0⟩ A0 hah wA (hh.below hg.bel) hg.bel.size)
  rw [hwA] at k0 k1 k2
  have HG := hid hg
  have HX := hid (And.intro hh (And.intro hnh (And.intro hlh (And.intro hf (And.intro zh hlv)))))
  have HY := hid (And.intro hv (And.intro hnv (And.intro zv (And.intro ch (And.intro hah (And.intro hc hnc))))))
  have HK := hid (And.intro hk3 (And.intro hcl hfy))
  have hch := ch.1
  clear hg hh hv hnh hnv hlh hlv hah hf zh zv ch hc hnc hk3 hcl hfy hk
  go_enter Try.func10, Try.ntmps10
  go_wp2_with fail
  rw [← hwA]
  clear hwA k0 k1 k2
  refine HP.out.mono ?_
  rintro e w1 ⟨k, f, rfl, hat, hf, hb1⟩
  have hg1 := HG.out.grow hb1
  have k2 : w1.cell? ⟨w.heap.size, 0, none⟩ = some (.slice i.h nh i.ch) := row_cell hg1.r2 0
  rcases f with _ | _
  · have HV : Hid (apply ⟨Q.map (·.h), L⟩ c = (⟨[], []⟩, 6)) := hid (by
      unfold apply
      rw [if_pos HK.out.1, find_no HY.out.2.2.2.2.1 hat (fun h => by have := hf.2 h; cases this)])
    have hst := stSame info_image2 hg1.r4 rfl (by simp [Value.oneCell'])
    have HG1 := hid hg1
    clear hg1 hb1 hat hf
    go_wp2_with fail
    refine bodyPost_ret (results_two rfl info_image2 Try.underlying25 rfl _ _ (w.heap.size + 1 + 1) _ _ _ rfl HG1.out.r4 rfl) rfl ?_
    exact toldA_none 6 HG1.out.bel HV.out
  · obtain ⟨hkl, hkg⟩ := hf.1 rfl
    have HFI := hid (find_yes hat hkl hkg)
    obtain ⟨b, off, hA, hbb, hcs⟩ := (HX.out.1.below hg1.bel).row.at_ k hkl
    obtain ⟨q, hq⟩ : ∃ q, q = Q[k] := ⟨_, rfl⟩
    have hr0 := hcs k hkl
    rw [← hq] at hr0 HFI
    have hqm : q ∈ Q := by rw [hq]; exact List.getElem_mem hkl
    obtain ⟨y, ay⟩ := q
    have hyg : y.g = c.g := by rw [← hkg, ← hq]
    have hbw1 : b < w1.heap.size := by have := hg1.bel.size; omega
    have LD : Hid (∀ W, Below w1.heap.size w1 W → (ldX 59 (.pointer (some ⟨b, off + k * 10, none⟩))).run Try.prog W = .ok (.agg #[.int .i64 y.g, .int .i64 y.t, .int .i64 y.v, .int .i64 y.p.log.base, .int .i64 y.p.log.term, .slice ay.e y.p.log.es.length ay.ce, .slice ay.o y.p.cf.old.length ay.co, .slice ay.n y.p.cf.new.length ay.cn, .slice ay.l y.p.cf.lrn.length ay.cl, .slice ay.s y.p.sn.length ay.cs]) W ∧ (ldX 36 (.pointer (some ⟨w.heap.size + 1, 0, none⟩))).run Try.prog W = .ok (.agg #[.int .i64 c.k, .int .i64 c.g, .int .i64 c.t, .int .i64 c.v, .int .i64 c.f, .int .i64 c.p.log.base, .int .i64 c.p.log.term, .slice ac.e c.p.log.es.length ac.ce, .slice ac.o c.p.cf.old.length ac.co, .slice ac.n c.p.cf.new.length ac.cn, .slice ac.l c.p.cf.lrn.length ac.cl, .slice ac.s c.p.sn.length ac.cs, .int .i64 c.a.x, .int .i64 c.a.p, .int .i64 c.a.r, .int .i64 c.a.b, .int .i64 c.a.v]) W ∧ W.cell? ⟨w.heap.size, 0, none⟩ = some (.slice i.h nh i.ch)) := hid (fun W hb =>
      ⟨ldH W b (off + k * 10) (cellsH ⟨y, ay⟩) rfl (fun j v hv => (hb.cell (p := ⟨b, off + k * 10 + j, none⟩) hbw1).trans (hr0 j v hv)), ldRow info_change Try.underlying36 rfl ((hb.block _ (row_lt hg1.r3)).trans hg1.r3) rfl, row_cell ((hb.block _ (row_lt hg1.r2)).trans hg1.r2) 0⟩)
    rw [hA] at LD
    obtain ⟨l0, l1, l2⟩ := LD.out w1 (Below.refl _ _)
    obtain ⟨m0, m1, m2⟩ := LD.out w1.drew (Below.refl _ _).drew
    have b1 : (k : Int) < (nh : Int) := by have := HX.out.2.1; omega
    have b0 : (0 : Int) ≤ (k : Int) := by omega
    have HQ := hid (And.intro hqm hyg)
    have CH : Hid (∀ W, Below w1.heap.size w1 W → Calls Try.prog 30 #[.agg #[.int .i64 y.g, .int .i64 y.t, .int .i64 y.v, .int .i64 y.p.log.base, .int .i64 y.p.log.term, .slice ay.e y.p.log.es.length ay.ce, .slice ay.o y.p.cf.old.length ay.co, .slice ay.n y.p.cf.new.length ay.cn, .slice ay.l y.p.cf.lrn.length ay.cl, .slice ay.s y.p.sn.length ay.cs], .agg #[.int .i64 c.k, .int .i64 c.g, .int .i64 c.t, .int .i64 c.v, .int .i64 c.f, .int .i64 c.p.log.base, .int .i64 c.p.log.term, .slice ac.e c.p.log.es.length ac.ce, .slice ac.o c.p.cf.old.length ac.co, .slice ac.n c.p.cf.new.length ac.cn, .slice ac.l c.p.cf.lrn.length ac.cl, .slice ac.s c.p.sn.length ac.cs, .int .i64 c.a.x, .int .i64 c.a.p, .int .i64 c.a.r, .int .i64 c.a.b, .int .i64 c.a.v]] W fun e w' => Told13 w.heap.size W (chgd y c) e w') := hid (fun W hb =>
      changed_any y ay c ac HK.out.1 (HX.out.2.2.2.1 _ hqm).2.1 (HX.out.2.2.2.1 _ hqm).2.2 HK.out.2.1 w.heap.size W (Nat.le_trans hg1.bel.size hb.size) ((HX.out.1.pt _ hqm).below (hg1.bel.trans (hb.mono hg1.bel.size))) (HY.out.2.2.2.2.2.1.below (hg1.bel.trans (hb.mono hg1.bel.size))) (HX.out.1.num _ hqm) HY.out.2.2.2.2.2.2)
    have HG1 := hid hg1
    rw [hA] at HG1
    clear hat hf hb1 hg1 hcs hr0 hq hqm hkl hkg hbb hyg hbw1
    rw [hA] at k2
    go_wp2_with fail
    go_region_held3 (fun W => (ldX 59 (.pointer (some ⟨b, off + k * 10, none⟩))).run Try.prog W = .ok (.agg #[.int .i64 y.g, .int .i64 y.t, .int .i64 y.v, .int .i64 y.p.log.base, .int .i64 y.p.log.term, .slice ay.e y.p.log.es.length ay.ce, .slice ay.o y.p.cf.old.length ay.co, .slice ay.n y.p.cf.new.length ay.cn, .slice ay.l y.p.cf.lrn.length ay.cl, .slice ay.s y.p.sn.length ay.cs]) W ∧ (ldX 36 (.pointer (some ⟨w.heap.size + 1, 0, none⟩))).run Try.prog W = .ok (.agg #[.int .i64 c.k, .int .i64 c.g, .int .i64 c.t, .int .i64 c.v, .int .i64 c.f, .int .i64 c.p.log.base, .int .i64 c.p.log.term, .slice ac.e c.p.log.es.length ac.ce, .slice ac.o c.p.cf.old.length ac.co, .slice ac.n c.p.cf.new.length ac.cn, .slice ac.l c.p.cf.lrn.length ac.cl, .slice ac.s c.p.sn.length ac.cs, .int .i64 c.a.x, .int .i64 c.a.p, .int .i64 c.a.r, .int .i64 c.a.b, .int .i64 c.a.v]) W ∧ W.cell? ⟨w.heap.size, 0, none⟩ = some (.slice (some ⟨b, off, none⟩) nh i.ch))
      (first | with_reducible exact ⟨l0, l1, l2⟩ | with_reducible exact ⟨m0, m1, m2⟩ | with_reducible exact e3 | with_reducible exact e4 | with_reducible exact LD.out _ (HB3.out.alloc HB3.out.size _) | with_reducible exact LD.out _ (((Below.refl _ w1).alloc (Nat.le_refl _) _).drew) | fail)
      (first
        | (go_at_call 30; refine (CH.out _ (Below.refl _ _).drew).mono ?_; rintro e w3 ⟨z, az, n, rfl, hn, hst, hnum, hb3⟩; have HB3 : Hid (Below w1.heap.size w1 w3) := hid ((Below.refl _ w1).drew.trans hb3); have e3 := LD.out w3 HB3.out; have hsn := stNew w3 59 10 info_hard #[.int .i64 0, .int .i64 0, .int .i64 0, .int .i64 0, .int .i64 0, .slice none 0 0, .slice none 0 0, .slice none 0 0, .slice none 0 0, .slice none 0 0] #[.int .i64 z.g, .int .i64 z.t, .int .i64 z.v, .int .i64 z.p.log.base, .int .i64 z.p.log.term, .slice az.e z.p.log.es.length az.ce, .slice az.o z.p.cf.old.length az.co, .slice az.n z.p.cf.new.length az.cn, .slice az.l z.p.cf.lrn.length az.cl, .slice az.s z.p.sn.length az.cs] rfl rfl (by simp [Value.oneCell']))
        | (go_at_call 30; refine (CH.out _ (((Below.refl _ w1).alloc (Nat.le_refl _) _).drew)).mono ?_; rintro e w3 ⟨z, az, n, rfl, hn, hst, hnum, hb3⟩; have HB3 : Hid (Below w1.heap.size w1 w3) := hid ((((Below.refl _ w1).alloc (Nat.le_refl _) _).drew).trans (hb3.mono (by simp))); have e3 := LD.out w3 HB3.out; have hr8 : w3.heap[w1.heap.size]? = some (.cells #[.int .i64 0, .int .i64 0, .int .i64 0, .int .i64 0, .int .i64 0, .slice none 0 0, .slice none 0 0, .slice none 0 0, .slice none 0 0, .slice none 0 0] 59 (0, 0)) := (hb3.block _ (by simp)).trans (heap_alloc_new w1 _); have hst8 := stRow info_hard (cs' := #[.int .i64 z.g, .int .i64 z.t, .int .i64 z.v, .int .i64 z.p.log.base, .int .i64 z.p.log.term, .slice az.e z.p.log.es.length az.ce, .slice az.o z.p.cf.old.length az.co, .slice az.n z.p.cf.new.length az.cn, .slice az.l z.p.cf.lrn.length az.cl, .slice az.s z.p.sn.length az.cs]) hr8 rfl rfl (by simp [Value.oneCell']); have e4 := LD.out (w3.setRow w1.heap.size #[.int .i64 z.g, .int .i64 z.t, .int .i64 z.v, .int .i64 z.p.log.base, .int .i64 z.p.log.term, .slice az.e z.p.log.es.length az.ce, .slice az.o z.p.cf.old.length az.co, .slice az.n z.p.cf.new.length az.cn, .slice az.l z.p.cf.lrn.length az.cl, .slice az.s z.p.sn.length az.cs]) (HB3.out.trans ((row_turned w3 w1.heap.size #[.int .i64 z.g, .int .i64 z.t, .int .i64 z.v, .int .i64 z.p.log.base, .int .i64 z.p.log.term, .slice az.e z.p.log.es.length az.ce, .slice az.o z.p.cf.old.length az.co, .slice az.n z.p.cf.new.length az.cn, .slice az.l z.p.cf.lrn.length az.cl, .slice az.s z.p.sn.length az.cs]).below HB3.out.size (fun k hk => by omega))); have HR8 := hid (setRow_heap w3 w1.heap.size _ #[.int .i64 z.g, .int .i64 z.t, .int .i64 z.v, .int .i64 z.p.log.base, .int .i64 z.p.log.term, .slice az.e z.p.log.es.length az.ce, .slice az.o z.p.cf.old.length az.co, .slice az.n z.p.cf.new.length az.cn, .slice az.l z.p.cf.lrn.length az.cl, .slice az.s z.p.sn.length az.cs] _ _ hr8); clear hr8)
        | fail)
    all_goals
      clear l0 l1 l2 m0 m1 m2 e3
      first
        | (have HM : Hid (Mid w w1 (.slice (some ⟨b, off, none⟩) nh i.ch) (.slice i.v nv i.cv) c ac z az w3.heap.size (w3.alloc (.cells #[.int .i64 z.g, .int .i64 z.t, .int .i64 z.v, .int .i64 z.p.log.base, .int .i64 z.p.log.term, .slice az.e z.p.log.es.length az.ce, .slice az.o z.p.cf.old.length az.co, .slice az.n z.p.cf.new.length az.cn, .slice az.l z.p.cf.lrn.length az.cl, .slice az.s z.p.sn.length az.cs] 59))) := hid ⟨(HG1.out.grow HB3.out).grow ((Below.refl _ w3).alloc (Nat.le_refl _) _), heap_alloc_new w3 _, HB3.out.size, fun W' hT => hst W' ((Turned.ofBelow _ ((Below.refl _ w3).alloc (Nat.le_refl _) _)).trans hT)⟩
           generalize w3.alloc (.cells #[.int .i64 z.g, .int .i64 z.t, .int .i64 z.v, .int .i64 z.p.log.base, .int .i64 z.p.log.term, .slice az.e z.p.log.es.length az.ce, .slice az.o z.p.cf.old.length az.co, .slice az.n z.p.cf.new.length az.cn, .slice az.l z.p.cf.lrn.length az.cl, .slice az.s z.p.sn.length az.cs] 59) = w4 at *
           generalize w3.heap.size = b8 at *)
        | (have HM : Hid (Mid w w1 (.slice (some ⟨b, off, none⟩) nh i.ch) (.slice i.v nv i.cv) c ac z az w1.heap.size (w3.setRow w1.heap.size #[.int .i64 z.g, .int .i64 z.t, .int .i64 z.v, .int .i64 z.p.log.base, .int .i64 z.p.log.term, .slice az.e z.p.log.es.length az.ce, .slice az.o z.p.cf.old.length az.co, .slice az.n z.p.cf.new.length az.cn, .slice az.l z.p.cf.lrn.length az.cl, .slice az.s z.p.sn.length az.cs])) := hid ⟨(HG1.out.grow HB3.out).turned (row_lt HG1.out.r4) (row_turned w3 w1.heap.size #[.int .i64 z.g, .int .i64 z.t, .int .i64 z.v, .int .i64 z.p.log.base, .int .i64 z.p.log.term, .slice az.e z.p.log.es.length az.ce, .slice az.o z.p.cf.old.length az.co, .slice az.n z.p.cf.new.length az.cn, .slice az.l z.p.cf.lrn.length az.cl, .slice az.s z.p.sn.length az.cs]), HR8.out, Nat.le_refl _, fun W' hT => hst W' (((row_turned w3 w1.heap.size #[.int .i64 z.g, .int .i64 z.t, .int .i64 z.v, .int .i64 z.p.log.base, .int .i64 z.p.log.term, .slice az.e z.p.log.es.length az.ce, .slice az.o z.p.cf.old.length az.co, .slice az.n z.p.cf.new.length az.cn, .slice az.l z.p.cf.lrn.length az.cl, .slice az.s z.p.sn.length az.cs]).mono (fun k hk => by subst hk; exact ⟨HG1.out.bel.size, by simp⟩)).trans (hT.mono (fun k hk => ⟨hk.1, by simp; omega⟩)))⟩
           generalize w3.setRow w1.heap.size #[.int .i64 z.g, .int .i64 z.t, .int .i64 z.v, .int .i64 z.p.log.base, .int .i64 z.p.log.term, .slice az.e z.p.log.es.length az.ce, .slice az.o z.p.cf.old.length az.co, .slice az.n z.p.cf.new.length az.cn, .slice az.l z.p.cf.lrn.length az.cl, .slice az.s z.p.sn.length az.cs] = w4 at *
           generalize hb8 : w1.heap.size = b8 at *)
      have hm := HM.out
      have k20 : w4.cell? ⟨w.heap.size, 0, none⟩ = some (.slice (some ⟨b, off, none⟩) nh i.ch) := row_cell hm.ap.r2 0
      have f20 := row_free hm.ap.r2 0
      have l8 := ldRow info_hard Try.underlying59 rfl hm.r8 rfl
      have hz1 : w1.heap.size ≤ w4.heap.size := Nat.le_trans hm.le (Nat.le_of_lt (row_lt hm.r8))
      obtain ⟨ro, hc9⟩ : ∃ ro, chgd y c = ro := ⟨_, rfl⟩
      rw [hc9] at hn
      cases ro with
      | none =>
        obtain rfl : n = 3 := hn
        have HV : Hid (apply ⟨Q.map (·.h), L⟩ c = (⟨[], []⟩, 3)) := hid (by
          unfold apply
          rw [if_pos HK.out.1, HFI.out]
          show (match chgd y c with | none => _ | some y => _) = _
          rw [hc9])
        have hst4 := stSame info_image2 hm.ap.r4 rfl (by simp [Value.oneCell'])
        clear hm hc9 hst hnum
        go_wp2_with fail
        refine bodyPost_ret (results_two rfl info_image2 Try.underlying25 rfl _ _ (w.heap.size + 1 + 1) _ _ _ rfl HM.out.ap.r4 rfl) rfl ?_
        exact toldA_none 3 HM.out.ap.bel HV.out
      | some z' =>
        have hn1 : z = z' := hn.1
        have hn2 : n = 0 := hn.2
        subst hn1
        subst hn2
        clear hn
        have HV : Hid (apply ⟨Q.map (·.h), L⟩ c = (⟨ins ltH (Q.map (·.h)) z, L⟩, 0)) := hid (by
          unfold apply
          rw [if_pos HK.out.1, HFI.out]
          show (match chgd y c with | none => _ | some y => _) = _
          rw [hc9])
        have HFY := hid (HK.out.2.2 _ HQ.out.1 z hc9)
        have HPL := hid (placedH_any (some ⟨b, off, none⟩) i.ch Q nh HX.out.2.1.symm HX.out.2.2.1 HY.out.2.2.2.1 (fun e => by cases e) z az HY.out.2.2.2.2.1 w.heap.size w1.heap.size w4 hm.ap.bel.size hz1 (by rw [← hA]; exact HX.out.1.below hm.ap.bel) hm.st hnum)
        clear hm hc9 hst hnum hz1
        go_wp2_with fail
        refine HPL.out.mono ?_
        rintro e w5 ⟨A1, c1, m1, rfl, ⟨Q', hQ', ⟨hm, hmn⟩, hs5, hn1, hc1⟩, hb5⟩
        have hg5 := HM.out.ap.grow hb5
        have k50 : w5.cell? ⟨w.heap.size, 0, none⟩ = some (.slice (some ⟨b, off, none⟩) nh i.ch) := row_cell hg5.r2 0
        have f50 := row_free hg5.r2 0
        have hg6 := hg5.set0 (.slice A1 m1 c1)
        have hT6 : Turned (fun k => k = w.heap.size) w5 (w5.setCell ⟨w.heap.size, 0, none⟩ (.slice A1 m1 c1)) := Turned.one _ _ _ _
        have hs6 := hs5 _ (hT6.mono (fun k hk => ⟨by omega, by have := row_lt HG1.out.r2; omega⟩))
        have HZ := hid (And.intro hQ' (And.intro hm (And.intro hmn (And.intro hn1 hc1))))
        clear hb5 hg5 hT6 hs5 hQ' hm hmn hn1 hc1 k20 f20 l8
        go_wp2_with fail
        generalize w5.setCell ⟨w.heap.size, 0, none⟩ (.slice A1 m1 c1) = w6 at *
        have hld := ldRow info_image2 Try.underlying25 rfl hg6.r2 rfl
        have HO := hid (ownImage_any ⟨A1, c1, i.v, i.cv⟩ m1 nv Q' L HZ.out.2.1 HY.out.2.1 (by have := HZ.out.2.2.1; have := HX.out.2.2.1; omega) (by have := HX.out.2.2.2.2.2; omega) (fun q hq => by
          have hq' : q.h ∈ ins ltH (Q.map (·.h)) z := by rw [← HZ.out.1]; exact List.mem_map.2 ⟨q, hq, rfl⟩
          rcases mem_ins hq' with h | h
          · rw [h]; exact HFY.out
          · obtain ⟨q', hq', e⟩ := List.mem_map.1 h
            rw [← e]; exact (HX.out.2.2.2.1 _ hq').1) w6 hs6 ((HY.out.1.below hg6.bel).more hg6.bel.size) HZ.out.2.2.2.1 HY.out.2.2.1)
        have HG6 := hid hg6
        clear hg6 hs6 k50 f50
        go_wp2_with fail
        refine HO.out.mono ?_
        rintro e w7 ⟨j, rfl, ⟨Q7, hQ7, ho⟩, hb7⟩
        have hg7 := HG6.out.grow hb7
        have hst7 := stRow info_image2 (cs' := #[.slice j.h m1 j.ch, .slice j.v nv j.cv]) hg7.r4 rfl rfl (by simp [Value.oneCell'])
        have r5 := setRow_heap w7 (w.heap.size + 1 + 1) _ #[.slice j.h m1 j.ch, .slice j.v nv j.cv] _ _ hg7.r4
        have tT := row_turned w7 (w.heap.size + 1 + 1) #[.slice j.h m1 j.ch, .slice j.v nv j.cv]
        generalize w7.setRow (w.heap.size + 1 + 1) #[.slice j.h m1 j.ch, .slice j.v nv j.cv] = wC at *
        have HF : Hid (wC.heap[w.heap.size + 1 + 1]? = some (.cells #[.slice j.h m1 j.ch, .slice j.v nv j.cv] 25 (0, 0)) ∧ (∃ Q1 L1, (m1 = Q1.length ∧ nv = L1.length) ∧ OwnIm wC w.heap.size wC.heap.size j Q1 L1 ∧ (⟨Q1.map (·.h), L1⟩ : Im) = (apply ⟨Q.map (·.h), L⟩ c).1) ∧ Below w.heap.size w wC) := hid (by
          have z4 := row_lt HG6.out.r4
          have z3 := hb7.size
          have zb := HG6.out.bel.size
          refine ⟨r5, ⟨Q7, L, ⟨?_, HY.out.2.1⟩, (ho.keep tT (fun k hk hB => by have := hB.1; omega)).wide zb tT.size, ?_⟩, hg7.bel.trans (tT.below hg7.bel.size (fun k hk => by omega))⟩
          · have := congrArg List.length hQ7
            rw [List.length_map, List.length_map] at this
            rw [this]; exact HZ.out.2.1
          · rw [HV.out, hQ7, HZ.out.1])
        clear hg7 r5 tT ho hb7
        go_wp2_with fail
        refine bodyPost_ret (results_two rfl info_image2 Try.underlying25 rfl _ _ (w.heap.size + 1 + 1) _ _ _ rfl HF.out.1 rfl) rfl ?_
        exact ⟨j, m1, nv, 0, rfl, by rw [HV.out], HF.out.2⟩
theorem apply_any (i : Ia) (nh nv : Nat) (Q : List Hq) (L : List Vt) (c : Ch) (ac : Ad) (hnh : nh = Q.length) (hnv : nv = L.length) (hlh : nh ≤ 40000) (hlv : nv ≤ 40000) (hah : asc ltH (Q.map (·.h)) = true) (hav : asc ltV L = true) (hf : ∀ q ∈ Q, FewP q.h.p ∧ Rl.Ok q.h.p.log ∧ Rl.Few q.h.p.log.es) (hfy : ∀ q ∈ Q, ∀ y, chgd q.h c = some y → FewP y.p) (hcl : c.p.log.es.length ≤ 20000) (w : World) (hh : IsHds w w.heap.size i.h Q) (hv : IsVs w w.heap.size i.v L) (hc : IsPt w w.heap.size c.p ac) (zh : i.h = none → i.ch = 0) (zv : i.v = none → i.cv = 0) (ch : nh ≤ i.ch ∧ i.ch ≤ maxLen) (cv : nv ≤ i.cv ∧ i.cv ≤ maxLen) (hnc : (InInt c.k ∧ InInt c.g ∧ InInt c.t ∧ InInt c.v ∧ InInt c.f) ∧ okV c.a) :
    Calls Try.prog 10 #[.agg #[.slice i.h nh i.ch, .slice i.v nv i.cv], .agg #[.int .i64 c.k, .int .i64 c.g, .int .i64 c.t, .int .i64 c.v, .int .i64 c.f, .int .i64 c.p.log.base, .int .i64 c.p.log.term, .slice ac.e c.p.log.es.length ac.ce, .slice ac.o c.p.cf.old.length ac.co, .slice ac.n c.p.cf.new.length ac.cn, .slice ac.l c.p.cf.lrn.length ac.cl, .slice ac.s c.p.sn.length ac.cs, .int .i64 c.a.x, .int .i64 c.a.p, .int .i64 c.a.r, .int .i64 c.a.b, .int .i64 c.a.v]] w fun e w' => ToldA w (apply ⟨Q.map (·.h), L⟩ c) e w' := by
  by_cases h1 : c.k = 1
  · exact apply1_any i nh nv Q L c ac h1 hnh hnv hlh hlv hah hf hfy hcl w hh hv hc zh zv ch hnc
  · by_cases h2 : c.k = 2
    · exact apply2_any i nh nv Q L c ac h2 hnh hnv hlh hlv hah hf hfy hcl w hh hv hc zh zv ch hnc
    · by_cases h3 : c.k = 3
      · exact apply3_any i nh nv Q L c ac h3 hnh hnv hlh hlv hah hf hfy hcl w hh hv hc zh zv ch hnc
      · by_cases h4 : c.k = 4
        · exact apply4_any i nh nv Q L c ac h4 hnh hnv hlh hlv hav (fun q hq => (hf q hq).1) w hh hv zh zv cv hnc.2
        · exact apply0_any i nh nv _ c ac (by omega) h4 w
end Go.Proofs.Ytaeoccpjdjafnaa.Im
namespace Go.Proofs.Ytaeoccpjdjafnaa.Im
open Go.RowKit
open Rl (En Lg)
open Qu (Cf)
set_option maxRecDepth 100000
set_option linter.unusedVariables false
attribute [local go_sem ↓] loadAt_image storeAt_image loadAt_conf3 storeAt_conf3
theorem rt_rdr [Lo] {w : World} {G g : Nat} {s : Pk.St} (h : Rt w G g s) : Rdr w g s := h.ro.rdr
theorem kq_same [Lo] {B : Nat} {w w' : World} (h : Kq B w w') : w'.os = w.os ∧ w'.tape = w.tape ∧ w'.output = w.output := ⟨h.os, h.tape, h.output⟩
instance lo0 : Lo := ⟨0⟩
theorem fin_end (s : Pk.St) : endOf s = fin s := rfl
theorem fin_gone {s : Pk.St} (h : fin s = 0) : s ≠ Pk.gone := fun e => by rw [e] at h; cases h
theorem whole_no {α : Type} {one : Pk.St → α × Pk.St} {no : α} {b : List Nat} (h : fin (one ⟨b, false⟩).2 ≠ 0) : whole one no b = (no, fin (one ⟨b, false⟩).2) := if_pos h
theorem whole_yes {α : Type} {one : Pk.St → α × Pk.St} {no : α} {b : List Nat} (h : fin (one ⟨b, false⟩).2 = 0) : whole one no b = ((one ⟨b, false⟩).1, 0) := if_neg (fun e => e h)
theorem fin_in (s : Pk.St) : 0 ≤ fin s ∧ fin s ≤ 4 := by unfold fin; split; omega; split <;> omega
theorem rt_new {w w1 : World} {g : Nat} {l : List Nat} (hr : Rdr w1 g ⟨l, false⟩) (n : Nat) (hn : n ≤ g) (w2 : World) (hw2 : w2 = w1.alloc (.cells #[.pointer (some ⟨g, 0, none⟩)] 119)) : @Rt ⟨n⟩ w2 w1.heap.size g ⟨l, false⟩ := by
  have hb : Below w1.heap.size w1 w2 := by rw [hw2]; exact (Below.refl _ w1).alloc (Nat.le_refl _) _
  refine @Rt.mk ⟨n⟩ _ _ _ _ (by rw [hw2]; exact heap_alloc_new w1 _) (@Ro.mk ⟨n⟩ _ _ _ _ (hr.below (hb.mono hr.lt)) (.inl hr.lt) hn) ?_
  have := hr.lt
  show n ≤ w1.heap.size
  omega
def OwnCf (w : World) (B N : Nat) (c : Cf) (a : Ad) : Prop := ∃ m1 m2, (B ≤ m1 ∧ m1 ≤ m2 ∧ m2 ≤ N) ∧ (OwnsI 3 w B a.o a.co c.old ∧ ∀ k, blk a.o = some k → k < m1) ∧ (OwnsI 3 w m1 a.n a.cn c.new ∧ ∀ k, blk a.n = some k → k < m2) ∧ OwnsI 3 w m2 a.l a.cl c.lrn
theorem OwnCf.nil (w : World) {B N : Nat} (h : B ≤ N) : OwnCf w B N ⟨[], [], []⟩ A0 := ⟨B, B, ⟨Nat.le_refl _, Nat.le_refl _, h⟩, ⟨OwnsI.nil _ _ _, fun k hk => by cases hk⟩, ⟨OwnsI.nil _ _ _, fun k hk => by cases hk⟩, OwnsI.nil _ _ _⟩
theorem OwnsI.below_ {e : TypeId} {w w' : World} {base c : Nat} {A : Option Addr} {l : List Int} (h : OwnsI e w base A c l) (hb : Below w.heap.size w w') : OwnsI e w' base A c l := ownsI_turned h (S := fun _ => False) (Turned.ofBelow _ hb) (fun _ _ h => h)
set_option maxHeartbeats 3200000 in
theorem wholeIm_any (l : List Nat) (A0 : Option Addr) (c0 n0 : Nat) (hn0 : l.length = n0) (w : World) (h : IsBytes w w.heap.size A0 l) (hn : A0 = none → c0 = 0) (hl : n0 ≤ 10000000) :
    Calls Try.prog 49 #[.slice A0 n0 c0, .func (.func 50) #[] #[]] w fun e w' => ∃ (i : Ia) (nh nv : Nat), e = .returned (.tuple #[.agg #[.slice i.h nh i.ch, .slice i.v nv i.cv], .int .i64 ((whole rdIm ⟨[], []⟩ l).2)]) ∧ (∃ Q L, (nh = Q.length ∧ nv = L.length) ∧ OwnIm w' w.heap.size w'.heap.size i Q L ∧ (⟨Q.map (·.h), L⟩ : Im) = (whole rdIm ⟨[], []⟩ l).1) ∧ Below w.heap.size w w' := by
  obtain ⟨wA, hwA⟩ : ∃ wA, wA = w.alloc (.cells #[.slice none 0 0, .slice none 0 0] 25) := ⟨_, rfl⟩
  have hsA : wA.heap.size = w.heap.size + 1 := by rw [hwA]; simp
  have hbA : Below w.heap.size w wA := by rw [hwA]; exact (Below.refl _ w).alloc (Nat.le_refl _) _
  have hzA : wA.heap[w.heap.size]? = some (.cells #[.slice none 0 0, .slice none 0 0] 25 (0, 0)) := by rw [hwA]; exact heap_alloc_new w _
  have HP : Hid (Calls Try.prog 77 #[.slice A0 n0 c0] wA fun e w' => ∃ g, e = .returned (.pointer (some ⟨g, 0, none⟩)) ∧ wA.heap.size ≤ g ∧ Rdr w' g ⟨l, false⟩ ∧ Below wA.heap.size wA w') := hid (by
    have := packRead_any w.heap.size A0 c0 l (by omega) wA (h.below hbA) (by omega) hn
    rw [hn0] at this
    exact this)
  have HL : Hid (l.length ≤ 10000000) := hid (by omega)
  have HW := hid (And.intro hbA (And.intro hzA hsA))
  clear h hn hn0 hbA hzA hl hsA
  go_enter Try.func49, Try.ntmps49
  go_wp2_with fail
  rw [← hwA]
  clear hwA
  refine HP.out.mono ?_
  rintro e w1 ⟨g, rfl, hg, hr1, hb1⟩
  obtain ⟨w2, hw2⟩ : ∃ w2, w2 = w1.alloc (.cells #[.pointer (some ⟨g, 0, none⟩)] 119) := ⟨_, rfl⟩
  have hb2 : Below w1.heap.size w1 w2 := by rw [hw2]; exact (Below.refl _ w1).alloc (Nat.le_refl _) _
  obtain ⟨G, hG⟩ : ∃ G, G = w1.heap.size := ⟨_, rfl⟩
  obtain ⟨n, hnn⟩ : ∃ n, n = wA.heap.size := ⟨_, rfl⟩
  have hrt := rt_new (w := w) hr1 n (by omega) w2 hw2
  rw [← hG] at hrt
  have HRD := hid (@rimage_any ⟨n⟩ G g ⟨l, false⟩ HL.out w2 hrt)
  have HR := hid (And.intro hb1 (And.intro hb2 (And.intro hG (And.intro hnn (And.intro hrt (And.intro hg hr1.lt))))))
  clear hr1 hb1 hb2 hrt hg hnn
  go_wp2_with fail
  rw [← hw2, ← hG]
  clear hw2 hG
  refine HRD.out.mono ?_
  rintro e w3 ⟨i, nh, nv, rfl, Q, L, hnl, hown, hrq, hval⟩
  obtain ⟨s2, hs2⟩ : ∃ s2, s2 = (rdIm ⟨l, false⟩).2 := ⟨_, rfl⟩
  obtain ⟨⟨g', hrt3, hgg⟩, hkq3⟩ := hrq
  rw [← hs2] at hrt3
  obtain ⟨w4, hw4⟩ : ∃ w4, w4 = w3.alloc (.cells #[.slice i.h nh i.ch, .slice i.v nv i.cv] 25) := ⟨_, rfl⟩
  have hb4 : Below w3.heap.size w3 w4 := by rw [hw4]; exact (Below.refl _ w3).alloc (Nat.le_refl _) _
  have hro4 : w4.heap[w3.heap.size]? = some (.cells #[.slice i.h nh i.ch, .slice i.v nv i.cv] 25 (0, 0)) := by rw [hw4]; exact heap_alloc_new w3 _
  have hst4 := stNew w3 25 2 info_image2 #[.slice none 0 0, .slice none 0 0] #[.slice i.h nh i.ch, .slice i.v nv i.cv] rfl rfl (by simp [Value.oneCell'])
  rw [← hw4] at hst4
  have hrt4 := @Rt.below ⟨n⟩ _ _ _ _ _ hrt3 hb4
  have hcl4 := @Rt.cell ⟨n⟩ _ _ _ _ hrt4
  have HEND := hid (end_rdr g' s2 w4 (@rt_rdr ⟨n⟩ _ _ _ _ hrt4))
  have hz4 : w4.heap[w.heap.size]? = some (.cells #[.slice none 0 0, .slice none 0 0] 25 (0, 0)) := by
    have z1 := HW.out.2.1
    have z0 := HW.out.2.2
    have zb1 := HR.out.1.size
    have zb2 := HR.out.2.1.size
    have zn := HR.out.2.2.2.1
    have z2 := (HR.out.2.1.block w.heap.size (by omega)).trans ((HR.out.1.block w.heap.size (by omega)).trans z1)
    have z3 : w3.heap[w.heap.size]? = w2.heap[w.heap.size]? := @Kq.low ⟨n⟩ _ _ _ hkq3 w.heap.size (by show w.heap.size < n; omega) (row_lt z2)
    have z4 := row_lt (z3.trans z2)
    exact (hb4.block _ z4).trans (z3.trans z2)
  have hlow : Below w.heap.size w w4 := by
    have z0 := HW.out.2.2
    have zb1 := HR.out.1.size
    have zb2 := HR.out.2.1.size
    have zn := HR.out.2.2.2.1
    have zk := @Kq.size ⟨n⟩ _ _ _ hkq3
    have zb4 := hb4.size
    refine ⟨?_, ?_, ?_, by omega, fun k hk => ?_⟩
    · exact hb4.os.trans ((@kq_same ⟨n⟩ _ _ _ hkq3).1.trans (HR.out.2.1.os.trans (HR.out.1.os.trans HW.out.1.os)))
    · exact hb4.tape.trans ((@kq_same ⟨n⟩ _ _ _ hkq3).2.1.trans (HR.out.2.1.tape.trans (HR.out.1.tape.trans HW.out.1.tape)))
    · exact hb4.output.trans ((@kq_same ⟨n⟩ _ _ _ hkq3).2.2.trans (HR.out.2.1.output.trans (HR.out.1.output.trans HW.out.1.output)))
    · have q1 := HW.out.1.block k hk
      have q2 := HR.out.1.block k (by omega)
      have q3 := HR.out.2.1.block k (by omega)
      have q4 := @Kq.low ⟨n⟩ _ _ _ hkq3 k (by show k < n; omega) (by omega)
      have q5 := hb4.block k (by omega)
      exact q5.trans (q4.trans (q3.trans (q2.trans q1)))
  have hsz2 : w.heap.size < w2.heap.size := by
    have z0 := HW.out.2.2
    have zb1 := HR.out.1.size
    have zb2 := HR.out.2.1.size
    omega
  have H4 := hid (And.intro hz4 (And.intro hlow (And.intro hro4 (And.intro hb4 (And.intro hsz2 (@Kq.size ⟨n⟩ _ _ _ hkq3))))))
  have H5 := hid (And.intro hnl (And.intro hown hval))
  obtain ⟨ee, hee⟩ : ∃ ee, ee = endOf s2 := ⟨_, rfl⟩
  have hein : 0 ≤ ee ∧ ee ≤ 4 := by rw [hee, fin_end]; exact fin_in _
  have HES := hid (And.intro hee hs2)
  rw [← hee] at HEND
  clear hrt3 hkq3 hb4 hro4 hrt4 hz4 hlow hee hs2 hw4 hsz2 hnl hown hval hgg
  by_cases he : ee = 0
  · subst he
    have HV : Hid (fin (rdIm ⟨l, false⟩).2 = 0) := hid (by rw [← HES.out.2, ← fin_end]; exact HES.out.1.symm)
    have hld4 := ldRow info_image2 Try.underlying25 rfl H4.out.2.2.1 rfl
    have hst5 := stRow info_image2 (cs' := #[.slice i.h nh i.ch, .slice i.v nv i.cv]) H4.out.1 rfl rfl (by simp [Value.oneCell'])
    obtain ⟨w5, hw5⟩ : ∃ w5, w5 = w4.setRow w.heap.size #[.slice i.h nh i.ch, .slice i.v nv i.cv] := ⟨_, rfl⟩
    have hro5 : w5.heap[w.heap.size]? = some (.cells #[.slice i.h nh i.ch, .slice i.v nv i.cv] 25 (0, 0)) := by rw [hw5]; exact setRow_heap _ _ _ _ _ _ H4.out.1
    have ht5 : Turned (fun k => k = w.heap.size) w4 w5 := by rw [hw5]; exact row_turned _ _ _
    rw [← hw5] at hst5
    have H6 := hid (And.intro hro5 ht5)
    clear hro5 ht5 hw5 hein
    go_wp2_with fail
    refine HEND.out.mono ?_
    rintro e w6 ⟨rfl, rfl⟩
    go_wp2_with fail
    refine bodyPost_ret (results_two rfl info_image2 Try.underlying25 rfl _ _ w.heap.size _ _ _ rfl H6.out.1 rfl) rfl ?_
    have hbw : Below w.heap.size w w5 := H4.out.2.1.trans (H6.out.2.below H4.out.2.1.size (fun k hk => by omega))
    have hg := fin_gone HV.out
    rw [whole_yes HV.out]
    refine ⟨i, nh, nv, rfl, ⟨Q, L, H5.out.1, ?_, H5.out.2.2.resolve_left hg⟩, hbw⟩
    have z1 := H4.out.2.2.2.2.1
    have z2 := H4.out.2.2.2.2.2
    exact ((H5.out.2.1.below H4.out.2.2.2.1).keep H6.out.2 (fun k hk hB => by have := hB.1; omega)).wide (by omega) (by have := H6.out.2.size; have := H4.out.2.2.2.1.size; omega)
  · have HV : Hid (fin (rdIm ⟨l, false⟩).2 ≠ 0 ∧ ee = fin (rdIm ⟨l, false⟩).2) := hid (by rw [← HES.out.2, ← fin_end, ← HES.out.1]; exact ⟨he, rfl⟩)
    obtain ⟨w5, hw5⟩ : ∃ w5, w5 = w4.alloc (.cells #[.slice none 0 0, .slice none 0 0] 25) := ⟨_, rfl⟩
    have hb5 : Below w4.heap.size w4 w5 := by rw [hw5]; exact (Below.refl _ w4).alloc (Nat.le_refl _) _
    have hro5 : w5.heap[w4.heap.size]? = some (.cells #[.slice none 0 0, .slice none 0 0] 25 (0, 0)) := by rw [hw5]; exact heap_alloc_new w4 _
    have hld5 := ldRow info_image2 Try.underlying25 rfl hro5 rfl
    have hz5 := (hb5.block _ (row_lt H4.out.1)).trans H4.out.1
    have hst5 := stSame info_image2 hz5 rfl (by simp [Value.oneCell'])
    have H6 := hid (And.intro hz5 (H4.out.2.1.trans (hb5.mono H4.out.2.1.size)))
    clear hro5 hb5 hz5
    subst hw5
    go_wp2_with fail
    refine HEND.out.mono ?_
    rintro e w6 ⟨rfl, rfl⟩
    go_wp2_with fail
    refine bodyPost_ret (results_two rfl info_image2 Try.underlying25 rfl _ _ w.heap.size _ _ _ rfl H6.out.1 rfl) rfl ?_
    rw [whole_no HV.out.1]
    have he2 := HV.out.2
    exact ⟨⟨none, 0, none, 0⟩, 0, 0, by rw [he2]; rfl, ⟨[], [], ⟨rfl, rfl⟩, OwnIm.nil _ H6.out.2.size, rfl⟩, H6.out.2⟩
end Go.Proofs.Ytaeoccpjdjafnaa.Im
namespace Go.Proofs.Ytaeoccpjdjafnaa
open Go.RowKit
end Go.Proofs.Ytaeoccpjdjafnaa
namespace Go.Proofs.Ytaeoccpjdjafnaa
open Go.RowKit Go.Maps Go.Sort Go.Shelf
end Go.Proofs.Ytaeoccpjdjafnaa
namespace Go.Proofs.Ytaeoccpjdjafnaa
open Go.RowKit Go.Maps Go.Sort Go.Shelf
end Go.Proofs.Ytaeoccpjdjafnaa
namespace Go.Proofs.Ytaeoccpjdjafnaa
open Go.RowKit
structure IRows (w : World) (B b : Nat) (L : List (List Int)) : Prop where
  at_ : ∀ i (h : i < L.length), ∃ a k, w.cell? ⟨b, i, none⟩ = some (.slice a L[i].length k) ∧ IsInts w B a L[i] ∧ (a = none → k = 0)
end Go.Proofs.Ytaeoccpjdjafnaa
namespace Go.Proofs.Ytaeoccpjdjafnaa
open Go.RowKit
structure Box3 (w : World) (b : Nat) (v0 v1 v2 : Value) : Prop where
  c0 : w.cell? ⟨b, 0, none⟩ = some v0
  c1 : w.cell? ⟨b, 1, none⟩ = some v1
  c2 : w.cell? ⟨b, 2, none⟩ = some v2
theorem Box3.below {w w' : World} {B b : Nat} {v0 v1 v2 : Value} (h : Box3 w b v0 v1 v2) (hb : Below B w w') (hlt : b < B) : Box3 w' b v0 v1 v2 :=
  ⟨(hb.cell (p := ⟨b, 0, none⟩) hlt).trans h.c0, (hb.cell (p := ⟨b, 1, none⟩) hlt).trans h.c1, (hb.cell (p := ⟨b, 2, none⟩) hlt).trans h.c2⟩
end Go.Proofs.Ytaeoccpjdjafnaa
namespace Go.Proofs.Ytaeoccpjdjafnaa.Im
open Go.RowKit
open Rl (En Lg)
open Qu (Cf)
set_option maxRecDepth 100000
set_option linter.unusedVariables false
attribute [local go_sem ↓] loadAt_image storeAt_image loadAt_conf3 storeAt_conf3
theorem OwnIm.vs {w : World} {B N : Nat} {i : Ia} {Q : List Hq} {L : List Vt} (h : OwnIm w B N i Q L) : IsHds w N i.h Q ∧ IsVs w N i.v L := by
  obtain ⟨m, h1, h2, h3, h4, h5⟩ := h
  refine ⟨h3.reads.more h2, ⟨⟨fun k hk => ?_⟩, h5⟩⟩
  obtain ⟨g, hA, hg, hF, hc, _⟩ := h4.get k hk
  refine ⟨g, 0, hA, hF.2, fun j hj n v hv => ?_⟩
  obtain ⟨g', hA', _, _, hc', _⟩ := h4.get j hj
  obtain rfl : g = g' := by rw [hA] at hA'; injection hA' with e; injection e
  have hn : n < 5 := (List.getElem?_eq_some_iff.1 hv).1
  rw [Nat.zero_add, hc' n hn]; exact hv
theorem rdIm_lens (b : List Nat) (hb : ∀ x ∈ b, x < 256) (hl : b.length ≤ 10000000) : (whole rdIm ⟨[], []⟩ b).1.hs.length ≤ 100000000 ∧ (whole rdIm ⟨[], []⟩ b).1.vs.length ≤ 100000000 := by
  have := whole_good (codIm 100000000 (by decide)) ⟨[], []⟩ b hb (by omega) ⟨⟨fun h hh => (by cases hh), Nat.zero_le _⟩, ⟨fun h hh => (by cases hh), Nat.zero_le _⟩⟩
  exact ⟨this.1.2, this.2.2⟩
theorem get_bad {b : List Nat} (h : (whole rdIm ⟨[], []⟩ b).2 ≠ 0) : get b = whole rdIm ⟨[], []⟩ b := by
  unfold get; rw [if_neg (fun e => h e.1)]
theorem get_asc {b : List Nat} (h : sorted (whole rdIm ⟨[], []⟩ b).1 = true) : get b = whole rdIm ⟨[], []⟩ b := by
  unfold get; rw [if_neg (fun e => by rw [h] at e; cases e.2)]
theorem get_ord {b : List Nat} (h0 : (whole rdIm ⟨[], []⟩ b).2 = 0) (h : sorted (whole rdIm ⟨[], []⟩ b).1 = false) : get b = (⟨[], []⟩, 15) := by
  unfold get; rw [if_pos ⟨h0, h⟩]
theorem whole_in {α : Type} (one : Pk.St → α × Pk.St) (no : α) (b : List Nat) : 0 ≤ (whole one no b).2 ∧ (whole one no b).2 ≤ 4 := by
  unfold whole
  split
  · exact fin_in _
  · exact ⟨Int.le_refl _, by show (0 : Int) ≤ 4; omega⟩
set_option maxHeartbeats 3200000 in
theorem get_any (l : List Nat) (A0 : Option Addr) (c0 n0 : Nat) (hn0 : l.length = n0) (w : World) (h : IsBytes w w.heap.size A0 l) (hn : A0 = none → c0 = 0) (hl : n0 ≤ 10000000) :
    Calls Try.prog 25 #[.slice A0 n0 c0] w fun e w' => ∃ (i : Ia) (nh nv : Nat), e = .returned (.tuple #[.agg #[.slice i.h nh i.ch, .slice i.v nv i.cv], .int .i64 ((get l).2)]) ∧ (∃ Q L, (nh = Q.length ∧ nv = L.length) ∧ OwnIm w' w.heap.size w'.heap.size i Q L ∧ (⟨Q.map (·.h), L⟩ : Im) = (get l).1) ∧ Below w.heap.size w w' := by
  obtain ⟨wA, hwA⟩ : ∃ wA, wA = w.alloc (.cells #[.slice none 0 0, .slice none 0 0] 25) := ⟨_, rfl⟩
  have hsA : wA.heap.size = w.heap.size + 1 := by rw [hwA]; simp
  have hbA : Below w.heap.size w wA := by rw [hwA]; exact (Below.refl _ w).alloc (Nat.le_refl _) _
  have hzA : wA.heap[w.heap.size]? = some (.cells #[.slice none 0 0, .slice none 0 0] 25 (0, 0)) := by rw [hwA]; exact heap_alloc_new w _
  have HWH := hid (wholeIm_any l A0 c0 n0 hn0 wA ((h.below hbA).more (by omega)) hn hl)
  have hlens := rdIm_lens l h.small (by omega)
  have HLN := hid hlens
  obtain ⟨x, ee, hx⟩ : ∃ x ee, whole rdIm ⟨[], []⟩ l = (x, ee) := ⟨_, _, rfl⟩
  have hein := whole_in rdIm ⟨[], []⟩ l
  rw [hx] at HWH hein
  replace HLN : Hid (x.hs.length ≤ 100000000 ∧ x.vs.length ≤ 100000000) := hid (by have := HLN.out; rw [hx] at this; exact this)
  have hein1 : 0 ≤ ee := hein.1
  have hein2 : ee ≤ 4 := hein.2
  have HX := hid hx
  have HW := hid (And.intro hbA (And.intro hzA hsA))
  clear h hn hn0 hbA hzA hl hsA hx hein hlens
  go_enter Try.func25, Try.ntmps25
  go_wp2_with fail
  rw [← hwA]
  clear hwA
  refine HWH.out.mono ?_
  rintro e w1 ⟨i, nh, nv, rfl, ⟨Q, L, hnl, hown, hval⟩, hb1⟩
  obtain ⟨w2, hw2⟩ : ∃ w2, w2 = w1.alloc (.cells #[.slice i.h nh i.ch, .slice i.v nv i.cv] 25) := ⟨_, rfl⟩
  have hb2 : Below w1.heap.size w1 w2 := by rw [hw2]; exact (Below.refl _ w1).alloc (Nat.le_refl _) _
  have hro2 : w2.heap[w1.heap.size]? = some (.cells #[.slice i.h nh i.ch, .slice i.v nv i.cv] 25 (0, 0)) := by rw [hw2]; exact heap_alloc_new w1 _
  have hst2 := stNew w1 25 2 info_image2 #[.slice none 0 0, .slice none 0 0] #[.slice i.h nh i.ch, .slice i.v nv i.cv] rfl rfl (by simp [Value.oneCell'])
  rw [← hw2] at hst2
  have hz2 : w2.heap[w.heap.size]? = some (.cells #[.slice none 0 0, .slice none 0 0] 25 (0, 0)) := by
    have z0 := HW.out.2.2
    have zb := hb1.size
    exact (hb2.block _ (by omega)).trans ((hb1.block _ (by omega)).trans HW.out.2.1)
  have hlow2 : Below w.heap.size w w2 := HW.out.1.trans ((hb1.mono (by have := HW.out.2.2; omega)).trans (hb2.mono (by have := HW.out.2.2; have := hb1.size; omega)))
  have own2 : OwnIm w2 wA.heap.size w2.heap.size i Q L := (hown.below hb2).wide (Nat.le_refl _) hb2.size
  have hrd := own2.vs
  have hb0 : w.heap.size < w1.heap.size := by have z0 := HW.out.2.2; have zb := hb1.size; omega
  have HXV : Hid ((⟨Q.map (·.h), L⟩ : Im) = x) := hid hval
  have H2 := hid (And.intro hz2 (And.intro hro2 (And.intro hlow2 (And.intro own2 (And.intro hnl (And.intro hrd hb0))))))
  clear hnl hown hval hb1 hb2 hro2 hz2 hlow2 own2 hrd hw2
  show _
  simp only []
  by_cases he : ee = 0
  · subst he
    have hc0 := row_cell H2.out.2.1 0
    have hc1 := row_cell H2.out.2.1 1
    have hQl : Q.length ≤ 100000000 := by have h1 := HLN.out.1; rw [← HXV.out] at h1; simpa using h1
    have hLl : L.length ≤ 100000000 := by have h1 := HLN.out.2; rw [← HXV.out] at h1; exact h1
    have HAH := hid (ascH_any w2.heap.size i.h i.ch Q nh H2.out.2.2.2.2.1.1.symm (by have := H2.out.2.2.2.2.1.1; omega) w2 H2.out.2.2.2.2.2.1.1 (Nat.le_refl _))
    have HAV : Hid (∀ w3, Below w2.heap.size w2 w3 → Calls Try.prog 52 #[.slice i.v nv i.cv, .func (.func 33) #[] #[]] w3 fun e w' => e = .returned (.bool (asc ltV L)) ∧ Below w3.heap.size w3 w') := hid (fun w3 hb3 =>
      ascV_any w2.heap.size i.v i.cv L nv H2.out.2.2.2.2.1.2.symm (by have := H2.out.2.2.2.2.1.2; omega) w3 (H2.out.2.2.2.2.2.1.2.below hb3) hb3.size)
    obtain ⟨b1, hb1⟩ : ∃ b1, b1 = asc ltH (Q.map (·.h)) := ⟨_, rfl⟩
    obtain ⟨b2, hb2⟩ : ∃ b2, b2 = asc ltV L := ⟨_, rfl⟩
    rw [← hb1] at HAH
    rw [← hb2] at HAV
    have HSO : Hid (sorted x = (b1 && b2)) := hid (by rw [← HXV.out]; unfold sorted; rw [hb1, hb2])
    clear hb1 hb2 hQl hLl hein1 hein2
    cases b1 with
    | false =>
      have HG : Hid (get l = (⟨[], []⟩, 15)) := hid (get_ord (by rw [HX.out]) (by rw [HX.out]; exact HSO.out))
      have hcx0 : w2.cell? ⟨w1.heap.size, 0, none⟩ = some (.slice i.h nh i.ch) := hc0
      go_wp2_with fail
      refine HAH.out.mono ?_
      rintro e w3 ⟨rfl, hb3⟩
      have hst3 := stSame info_image2 ((hb3.block _ (row_lt H2.out.1)).trans H2.out.1) rfl (by simp [Value.oneCell'])
      have H3 := hid (And.intro ((hb3.block _ (row_lt H2.out.1)).trans H2.out.1) (H2.out.2.2.1.trans (hb3.mono H2.out.2.2.1.size)))
      clear hb3
      go_wp2_with fail
      refine bodyPost_ret (results_two rfl info_image2 Try.underlying25 rfl _ _ w.heap.size _ _ _ rfl H3.out.1 rfl) rfl ?_
      rw [HG.out]
      exact ⟨⟨none, 0, none, 0⟩, 0, 0, rfl, ⟨[], [], ⟨rfl, rfl⟩, OwnIm.nil _ H3.out.2.size, rfl⟩, H3.out.2⟩
    | true =>
      have hcx0 : w2.cell? ⟨w1.heap.size, 0, none⟩ = some (.slice i.h nh i.ch) := hc0
      go_wp2_with fail
      refine HAH.out.mono ?_
      rintro e w3 ⟨rfl, hb3⟩
      have HAV3 := hid (HAV.out w3 hb3)
      have hcx1 : w3.cell? ⟨w1.heap.size, 1, none⟩ = some (.slice i.v nv i.cv) := (hb3.cell (p := ⟨w1.heap.size, 1, none⟩) (row_lt H2.out.2.1)).trans hc1
      have HB3 := hid hb3
      clear hb3
      go_wp2_with fail
      refine HAV3.out.mono ?_
      rintro e w4 ⟨rfl, hb4⟩
      have hb24 : Below w2.heap.size w2 w4 := HB3.out.trans (hb4.mono HB3.out.size)
      have hz4 := (hb24.block _ (row_lt H2.out.1)).trans H2.out.1
      have hx4 := (hb24.block _ (row_lt H2.out.2.1)).trans H2.out.2.1
      have hlow4 := H2.out.2.2.1.trans (hb24.mono H2.out.2.2.1.size)
      have H4 := hid (And.intro hz4 (And.intro hx4 (And.intro hlow4 hb24)))
      cases b2 with
      | false =>
        have HG : Hid (get l = (⟨[], []⟩, 15)) := hid (get_ord (by rw [HX.out]) (by rw [HX.out]; exact HSO.out))
        have hst4 := stSame info_image2 hz4 rfl (by simp [Value.oneCell'])
        clear hb4 hb24 hz4 hx4 hlow4
        go_wp2_with fail
        refine bodyPost_ret (results_two rfl info_image2 Try.underlying25 rfl _ _ w.heap.size _ _ _ rfl H4.out.1 rfl) rfl ?_
        rw [HG.out]
        exact ⟨⟨none, 0, none, 0⟩, 0, 0, rfl, ⟨[], [], ⟨rfl, rfl⟩, OwnIm.nil _ H4.out.2.2.1.size, rfl⟩, H4.out.2.2.1⟩
      | true =>
        have HG : Hid (get l = (x, 0)) := hid (by rw [get_asc (by rw [HX.out]; exact HSO.out), HX.out])
        have hld4 := ldRow info_image2 Try.underlying25 rfl hx4 rfl
        have hst4 := stRow info_image2 (cs' := #[.slice i.h nh i.ch, .slice i.v nv i.cv]) hz4 rfl rfl (by simp [Value.oneCell'])
        have hro5 := setRow_heap w4 w.heap.size _ #[.slice i.h nh i.ch, .slice i.v nv i.cv] _ _ hz4
        have ht5 := row_turned w4 w.heap.size #[.slice i.h nh i.ch, .slice i.v nv i.cv]
        generalize w4.setRow w.heap.size #[.slice i.h nh i.ch, .slice i.v nv i.cv] = w5 at hst4 hro5 ht5
        have H5 := hid (And.intro hro5 ht5)
        clear hb4 hb24 hz4 hx4 hlow4 hro5 ht5
        go_wp2_with fail
        refine bodyPost_ret (results_two rfl info_image2 Try.underlying25 rfl _ _ w.heap.size _ _ _ rfl H5.out.1 rfl) rfl ?_
        rw [HG.out]
        have hbw : Below w.heap.size w w5 := H4.out.2.2.1.trans (H5.out.2.below H4.out.2.2.1.size (fun k hk => by omega))
        refine ⟨i, nh, nv, rfl, ⟨Q, L, H2.out.2.2.2.2.1, ?_, HXV.out⟩, hbw⟩
        have z0 := HW.out.2.2
        have z4 := H4.out.2.2.2.size
        exact ((H2.out.2.2.2.1.below H4.out.2.2.2).keep H5.out.2 (fun k hk hB => by have := hB.1; omega)).wide (by omega) (by have := H5.out.2.size; omega)
  · have HG : Hid (get l = (x, ee)) := hid (by rw [get_bad (by rw [HX.out]; exact he), HX.out])
    have hld2 := ldRow info_image2 Try.underlying25 rfl H2.out.2.1 rfl
    have hst3 := stRow info_image2 (cs' := #[.slice i.h nh i.ch, .slice i.v nv i.cv]) H2.out.1 rfl rfl (by simp [Value.oneCell'])
    have hro5 := setRow_heap w2 w.heap.size _ #[.slice i.h nh i.ch, .slice i.v nv i.cv] _ _ H2.out.1
    have ht5 := row_turned w2 w.heap.size #[.slice i.h nh i.ch, .slice i.v nv i.cv]
    generalize w2.setRow w.heap.size #[.slice i.h nh i.ch, .slice i.v nv i.cv] = w5 at hst3 hro5 ht5
    have H5 := hid (And.intro hro5 ht5)
    clear hro5 ht5
    go_wp2_with fail
    refine bodyPost_ret (results_two rfl info_image2 Try.underlying25 rfl _ _ w.heap.size _ _ _ rfl H5.out.1 rfl) rfl ?_
    rw [HG.out]
    have hbw : Below w.heap.size w w5 := H2.out.2.2.1.trans (H5.out.2.below H2.out.2.2.1.size (fun k hk => by omega))
    refine ⟨i, nh, nv, rfl, ⟨Q, L, H2.out.2.2.2.2.1, ?_, HXV.out⟩, hbw⟩
    have z0 := HW.out.2.2
    exact (H2.out.2.2.2.1.keep H5.out.2 (fun k hk hB => by have := hB.1; omega)).wide (by omega) H5.out.2.size
theorem OwnCf.cis {w : World} {B N : Nat} {c : Cf} {a : Ad} (h : OwnCf w B N c a) : CIs w w.heap.size c a.o a.n a.l a.co a.cn a.cl := by
  obtain ⟨m1, m2, _, ⟨h1, _⟩, ⟨h2, _⟩, h3⟩ := h
  have r1 := ownsI_room h1
  have r2 := ownsI_room h2
  have r3 := ownsI_room h3
  exact ⟨h1.reads, h2.reads, h3.reads, r1.2, r2.2, r3.2, r1.1, r2.1, r3.1⟩
theorem OwnCf.below {w w' : World} {B N : Nat} {c : Cf} {a : Ad} (h : OwnCf w B N c a) (hb : Below w.heap.size w w') : OwnCf w' B N c a := by
  obtain ⟨m1, m2, hm, ⟨h1, b1⟩, ⟨h2, b2⟩, h3⟩ := h
  exact ⟨m1, m2, hm, ⟨OwnsI.below_ h1 hb, b1⟩, ⟨OwnsI.below_ h2 hb, b2⟩, OwnsI.below_ h3 hb⟩
theorem OwnCf.wide {w : World} {B B' N N' : Nat} {c : Cf} {a : Ad} (h : OwnCf w B N c a) (hB : B' ≤ B) (hN : N ≤ N') : OwnCf w B' N' c a := by
  obtain ⟨m1, m2, hm, ⟨h1, b1⟩, h2, h3⟩ := h
  exact ⟨m1, m2, ⟨by omega, hm.2.1, by omega⟩, ⟨h1.weaken hB, b1⟩, h2, h3⟩
theorem OwnCf.keep {S : Nat → Prop} {w w' : World} {B N : Nat} {c : Cf} {a : Ad} (h : OwnCf w B N c a) (ht : Turned S w w') (hs : ∀ k, S k → k < B) : OwnCf w' B N c a := by
  obtain ⟨m1, m2, hm, ⟨h1, b1⟩, ⟨h2, b2⟩, h3⟩ := h
  exact ⟨m1, m2, hm, ⟨ownsI_turned h1 ht (fun k hk e => by have := (h1.blkLt k hk).1; have := hs k e; omega), b1⟩, ⟨ownsI_turned h2 ht (fun k hk e => by have := (h2.blkLt k hk).1; have := hs k e; omega), b2⟩, ownsI_turned h3 ht (fun k hk e => by have := (h3.blkLt k hk).1; have := hs k e; omega)⟩
end Go.Proofs.Ytaeoccpjdjafnaa.Im
namespace Go.Proofs.Ytaeoccpjdjafnaa
open Go.RowKit
theorem enc_take (v : Int) (k : Nat) (h : k < 8) : (Pk.enc v).take (k + 1) = (Pk.enc v).take k ++ [Pk.byteOf v (7 - k)] := by
  match k, h with
  | 0, _ => rfl
  | 1, _ => rfl
  | 2, _ => rfl
  | 3, _ => rfl
  | 4, _ => rfl
  | 5, _ => rfl
  | 6, _ => rfl
  | 7, _ => rfl
theorem byteOf_val (v : Int) (k : Nat) : ((Pk.byteOf v k : Nat) : Int) = v / 2 ^ (8 * k) % 256 := by
  unfold Pk.byteOf
  have := Int.emod_nonneg (v / 2 ^ (8 * k)) (show (256 : Int) ≠ 0 by decide)
  omega
theorem bytes_one (l : List Nat) (x : Nat) : bytes l ++ [Value.int .u8 (x : Int)] = bytes (l ++ [x]) := by unfold bytes; simp
set_option maxHeartbeats 400000 in
theorem put_any (base : Nat) (A : Option Addr) (c : Nat) (l : List Nat) (v : Int) (hv : InInt v) (hl : l.length ≤ 140737488355000) (w : World) (h : OwnsB 5 w base A c l) (hB : base ≤ w.heap.size) :
    Calls Try.prog 127 #[.slice A l.length c, .int .i64 v] w fun e w' => ∃ A' c', e = .returned (.slice A' (l.length + 8) c') ∧ OwnsB 5 w' base A' c' (l ++ Pk.enc v) ∧ Below base w w' := by
  obtain ⟨i0, hi, hz0, hz1, hz2⟩ := info_parts info_u8
  have hv1 := hv.1
  have hv2 := hv.2
  go_enter Try.func127, Try.ntmps127
  go_wp2
  go_loopw [0, 5] (fun b i wr => ∃ k : Nat, ∃ A1 : Option Addr, ∃ c1 : Nat, k ≤ 8 ∧ i = .int .i64 (56 - 8 * (k : Int)) ∧ b = .slice A1 (l.length + k) c1 ∧ OwnsB 5 wr base A1 c1 (l ++ (Pk.enc v).take k) ∧ Below base w wr) (fun _ i _ => (RowKit.intOf i + 8).toNat)
  case atStart => exact ⟨0, A, c, by omega, rfl, rfl, by simpa using h, Below.refl _ _⟩
  case round =>
    clear h
    obtain ⟨k, A1, c1, hk, rfl, rfl, hown, hbel⟩ := hrel
    have hlen : (l ++ (Pk.enc v).take k).length = l.length + k := by rw [List.length_append, List.length_take, Pk.enc_length]; omega
    have hrow := hown.row
    rw [hlen] at hrow
    have HR := hid (And.intro hown.small hlen)
    clear hown hlen
    by_cases hlt : k < 8
    · obtain ⟨m, hm⟩ : ∃ m : Nat, 56 - 8 * (k : Int) = (m : Int) := ⟨56 - 8 * k, by omega⟩
      have HM := hid hm
      rw [hm]
      have hm0 : m ≤ 56 := by omega
      clear hm
      have hx := byteOf_val v (7 - k)
      rw [show 8 * (7 - k) = m from by have := HM.out; omega] at hx
      have HX := hid hx
      clear hx
      go_wp2_with (at_builtin; refine wpList_append_own _ rfl _ _ 32 rfl base 5 i0 (.int .u8 0) 1 1 Try.underlying32 hi hz0 hz1 hz2 rfl (by decide) _ _ _ rfl (hrow.alloc _) ⟨wr.heap.size, 0, none⟩ 1 1 [.int .u8 (v / 2 ^ m % 256)] rfl rfl ?c1 ?c2 ?c3 ?c4 ?c5 ?_)
      case c1 =>
        intro j u hj
        match j, hj with
        | 0, hj => simp at hj; subst hj; simp [Addr.add]
      case c2 => intro u hu; simp at hu; subst hu; rfl
      case c3 => unfold maxLen; omega
      case c4 => omega
      case c5 => have := hbel.size; simp; omega
      intro v' w1 hown' hgrow _
      obtain ⟨A2, c2, rfl⟩ := own_slice hown'
      rw [← HX.out, bytes_one, List.append_assoc, ← enc_take v k hlt] at hown'
      have hb1 : Below base w w1 := (hbel.alloc (by have := hbel.size; omega) _).grown hgrow (by have := hbel.size; simp; omega) (fun g hg => (hrow.lt g hg).1)
      have HO : Hid (OwnsB 5 w1 base A2 c2 (l ++ (Pk.enc v).take (k + 1))) := by
        refine ⟨?_, ?_⟩
        · intro x hx
          rw [enc_take v k hlt, ← List.append_assoc] at hx
          rcases List.mem_append.1 hx with hx | hx
          · exact HR.out.1 x hx
          · simp at hx; subst hx; exact Pk.byteOf_lt _ _
        · rw [show (l ++ (Pk.enc v).take (k + 1)).length = l.length + k + 1 from by rw [List.length_append, List.length_take, Pk.enc_length]; omega]
          exact hown'
      clear hgrow hown' hrow
      have HB := hid hb1
      clear hb1 hbel
      go_wp2
      go_roundw
      case rel => exact ⟨k + 1, A2, c2, by omega, by rw [← HM.out]; go_num, rfl, HO.out, HB.out⟩
      case measure => simp [RowKit.intOf]; omega
    · obtain rfl : k = 8 := by omega
      have HO : Hid (OwnsB 5 wr base A1 c1 (l ++ Pk.enc v)) := by
        have e : (Pk.enc v).take 8 = Pk.enc v := rfl
        have h1 := HR.out.1
        rw [e] at h1 hrow
        exact ⟨h1, by rw [show (l ++ Pk.enc v).length = l.length + 8 from by rw [List.length_append, Pk.enc_length]]; exact hrow⟩
      clear hrow
      go_wp2
      go_ret
      exact ⟨A1, c1, rfl, HO.out, hbel⟩
set_option maxHeartbeats 400000 in
theorem fresh_any (B : Nat) (A : Option Addr) (c : Nat) (l : List Nat) (r : Nat) (hl : l.length + r ≤ 140737488355000) (w : World) (h : IsBytes w B A l) (hB : B ≤ w.heap.size) (hn : A = none → c = 0) :
    Calls Try.prog 128 #[.slice A l.length c, .int .i64 (r : Int)] w fun e w' => ∃ A' c', e = .returned (.slice A' l.length c') ∧ OwnsB 5 w' w.heap.size A' c' l ∧ Below w.heap.size w w' := by
  obtain ⟨i0, hi, hz0, hz1, hz2⟩ := info_parts info_u8
  go_enter Try.func128, Try.ntmps128
  go_wp2_with (at_make; refine wpList_make_own _ rfl _ _ 32 rfl w.heap.size 5 i0 (.int .u8 0) 1 Try.underlying32 hi hz0 hz1 .i64 .i64 ((l.length : Int) + r) (l.length + r) rfl rfl (by omega) ?c1 ?c2 (Nat.le_refl _) ?_)
  case c1 => rw [hz2]; omega
  case c2 => unfold maxLen; omega
  intro w1 hown hgrow
  have hrow : OwnsB 5 w1 w.heap.size (some ⟨w.heap.size, 0, none⟩) (l.length + r) [] := ⟨by simp, hown⟩
  have hbel : Below w.heap.size w w1 := (Below.refl _ _).grown hgrow (Nat.le_refl _) (fun g hg => by cases hg)
  have hs : IsBytes w1 w.heap.size A l := (h.more hB).below hbel
  clear hown hgrow
  go_wp2_with (at_builtin; refine wpList_append_bytesN rfl _ _ 32 rfl w.heap.size 5 i0 Try.underlying32 hi hz0 hz1 hz2 (some ⟨w.heap.size, 0, none⟩) (l.length + r) [] 0 rfl rfl hrow w.heap.size A c l l.length rfl rfl hn hs l (List.nil_append _) (by omega) hbel.size ?_)
  intro A3 c3 w2 hown2 hgrow
  have hb2 : Below w.heap.size w w2 := hbel.trans hgrow
  clear hgrow hrow hbel hs
  go_wp2
  go_ret
  exact ⟨A3, c3, rfl, hown2, hb2⟩
set_option maxHeartbeats 400000 in
theorem packInt_any (B : Nat) (A : Option Addr) (c : Nat) (l : List Nat) (v : Int) (hv : InInt v) (hl : l.length ≤ 140737488354000) (w : World) (h : IsBytes w B A l) (hB : B ≤ w.heap.size) (hn : A = none → c = 0) :
    Calls Try.prog 110 #[.slice A l.length c, .int .i64 v] w fun e w' => ∃ A' c', e = .returned (.slice A' (l.length + 8) c') ∧ OwnsB 5 w' w.heap.size A' c' (l ++ Pk.enc v) ∧ Below w.heap.size w w' := by
  go_enter Try.func110, Try.ntmps110
  go_wp2_with fail
  refine (fresh_any B A c l 8 (by omega) _ h hB hn).mono ?_
  rintro e w1 ⟨A1, c1, rfl, hown, hbel⟩
  go_wp2_with fail
  refine (put_any w.heap.size A1 c1 l v hv (by omega) _ hown hbel.size).mono ?_
  rintro e w2 ⟨A2, c2, rfl, hown2, hbel2⟩
  go_wp2
  go_ret
  exact ⟨A2, c2, rfl, hown2, hbel.trans hbel2⟩
end Go.Proofs.Ytaeoccpjdjafnaa
namespace Go.Proofs.Ytaeoccpjdjafnaa
open Go.RowKit
end Go.Proofs.Ytaeoccpjdjafnaa
namespace Go.Proofs.Ytaeoccpjdjafnaa
open Go.RowKit
set_option maxHeartbeats 400000 in
theorem packBlob_any (B : Nat) (A : Option Addr) (c : Nat) (l : List Nat) (B' : Nat) (A' : Option Addr) (c' : Nat) (m : List Nat) (hl : l.length + m.length ≤ 140737488354000) (w : World) (h : IsBytes w B A l) (hB : B ≤ w.heap.size) (hn : A = none → c = 0)
    (h' : IsBytes w B' A' m) (hB' : B' ≤ w.heap.size) (hn' : A' = none → c' = 0) :
    Calls Try.prog 111 #[.slice A l.length c, .slice A' m.length c'] w fun e w' => ∃ A2 c2, e = .returned (.slice A2 (l.length + 8 + m.length) c2) ∧ OwnsB 5 w' w.heap.size A2 c2 (l ++ (Pk.enc m.length ++ m)) ∧ Below w.heap.size w w' := by
  obtain ⟨i0, hi, hz0, hz1, hz2⟩ := info_parts info_u8
  have hf := fun w' => fresh_any B A c l (8 + m.length) (by omega) w'
  rw [show (((8 + m.length : Nat) : Int)) = 8 + (m.length : Int) from by omega] at hf
  have HF := hid hf
  clear hf
  go_enter Try.func111, Try.ntmps111
  go_wp2_with fail
  refine (HF.out _ h hB hn).mono ?_
  rintro e w1 ⟨A1, c1, rfl, hown, hbel⟩
  go_wp2_with fail
  refine (put_any w.heap.size A1 c1 l (m.length : Int) (by unfold InInt; omega) (by omega) _ hown hbel.size).mono ?_
  rintro e w2 ⟨A3, c3, rfl, hown2, hbel2⟩
  have hb2 : Below w.heap.size w w2 := hbel.trans hbel2
  have hs : IsBytes w2 w.heap.size A' m := (h'.more hB').below hb2
  have hlen : (l ++ Pk.enc m.length).length = l.length + 8 := by rw [List.length_append, Pk.enc_length]
  have HL := hid hlen
  clear hbel hbel2 hown hlen
  go_wp2_with (at_builtin; refine wpList_append_bytesN rfl _ _ 32 rfl w.heap.size 5 i0 Try.underlying32 hi hz0 hz1 hz2 A3 c3 (l ++ Pk.enc m.length) (l.length + 8) HL.out rfl hown2 w.heap.size A' c' m m.length rfl rfl hn' hs (l ++ (Pk.enc m.length ++ m)) (List.append_assoc _ _ _) (by omega) hb2.size ?_)
  intro A4 c4 w3 hown3 hgrow
  have hb3 : Below w.heap.size w w3 := hb2.trans hgrow
  clear hgrow hb2 hs hown2
  go_wp2
  go_ret
  exact ⟨A4, c4, rfl, hown3, hb3⟩
end Go.Proofs.Ytaeoccpjdjafnaa
namespace Go.Proofs.Ytaeoccpjdjafnaa
open Go.RowKit
set_option maxHeartbeats 400000 in
theorem packInts_any (B : Nat) (A : Option Addr) (c : Nat) (l : List Nat) (B' : Nat) (A' : Option Addr) (c' : Nat) (m : List Int) (hl : l.length + 8 * m.length ≤ 140737488354000) (w : World) (h : IsBytes w B A l) (hB : B ≤ w.heap.size) (hn : A = none → c = 0)
    (h' : IsInts w B' A' m) (hB' : B' ≤ w.heap.size) :
    Calls Try.prog 112 #[.slice A l.length c, .slice A' m.length c'] w fun e w' => ∃ A2 c2, e = .returned (.slice A2 (l.length + 8 + 8 * m.length) c2) ∧ OwnsB 5 w' w.heap.size A2 c2 (l ++ (Pk.enc m.length ++ Pk.encs m)) ∧ Below w.heap.size w w' := by
  have hf := fun w' => fresh_any B A c l (8 + 8 * m.length) (by omega) w'
  rw [show (((8 + 8 * m.length : Nat) : Int)) = 8 + 8 * (m.length : Int) from by omega] at hf
  have HF := hid hf
  clear hf
  go_enter Try.func112, Try.ntmps112
  go_wp2_with fail
  refine (HF.out _ h hB hn).mono ?_
  rintro e w1 ⟨A1, c1, rfl, hown, hbel⟩
  go_wp2_with fail
  refine (put_any w.heap.size A1 c1 l (m.length : Int) (by unfold InInt; omega) (by omega) _ hown hbel.size).mono ?_
  rintro e w2 ⟨A3, c3, rfl, hown2, hbel2⟩
  have hb2 : Below w.heap.size w w2 := hbel.trans hbel2
  clear hbel hbel2 hown
  go_wp2_with fail
  go_loopw [5, 19] (fun b i wr => ∃ k : Nat, ∃ A5 : Option Addr, ∃ c5 : Nat, k ≤ m.length ∧ i = .int .i64 k ∧ b = .slice A5 (l.length + 8 + 8 * k) c5 ∧ OwnsB 5 wr w.heap.size A5 c5 (l ++ (Pk.enc m.length ++ Pk.encs (m.take k))) ∧ Below w.heap.size w wr) (fun _ i _ => m.length - (RowKit.intOf i).toNat)
  case atStart => exact ⟨0, A3, c3, by omega, rfl, rfl, by simpa [Pk.encs] using hown2, hb2⟩
  case round =>
    clear hown2 hb2
    obtain ⟨k, A5, c5, hk, rfl, rfl, hown, hbel⟩ := hrel
    have hlen : (l ++ (Pk.enc m.length ++ Pk.encs (m.take k))).length = l.length + 8 + 8 * k := by
      rw [List.length_append, List.length_append, Pk.enc_length, Pk.encs_length, List.length_take]; omega
    have HL := hid hlen
    clear hlen
    by_cases hlt : k < m.length
    · have h1 := (h'.more hB').below hbel
      obtain ⟨b, off, rfl, _, hc⟩ := h1.cells k hlt
      have hck := hc k hlt
      have hv := h1.small m[k] (List.getElem_mem _)
      have C := put_any w.heap.size A5 c5 (l ++ (Pk.enc m.length ++ Pk.encs (m.take k))) m[k] hv (by have := HL.out; omega) wr hown hbel.size
      rw [HL.out] at C
      have HC := hid C
      have hv1 := hv.1
      have hv2 := hv.2
      clear hc h1 C hown hv
      go_wp2_with fail
      refine HC.out.mono ?_
      rintro e w3 ⟨A6, c6, rfl, hown3, hbel3⟩
      rw [List.append_assoc, List.append_assoc, ← Pk.encs_snoc, ← List.take_succ_eq_append_getElem hlt] at hown3
      have hb3 : Below w.heap.size w w3 := hbel.trans hbel3
      clear hbel3 HC
      have HB := hid hb3
      clear hb3 hbel
      go_wp2_with fail
      go_roundw
      case rel => exact ⟨k + 1, A6, c6, by omega, by go_num, by rw [show l.length + 8 + 8 * (k + 1) = l.length + 8 + 8 * k + 8 from by omega], hown3, HB.out⟩
      case measure => simp [RowKit.intOf]; omega
    · obtain rfl : k = m.length := by omega
      rw [List.take_length] at hown
      go_wp2_with fail
      go_ret
      exact ⟨A5, c5, rfl, hown, hbel⟩
end Go.Proofs.Ytaeoccpjdjafnaa
namespace Go.Proofs.Ytaeoccpjdjafnaa.Im
open Go.RowKit
open Rl (En Lg)
open Qu (Cf)
open Pk (enc encs)
set_option maxRecDepth 100000
set_option linter.unusedVariables false
attribute [local go_sem ↓] loadAt_hard storeAt_hard loadAt_vote storeAt_vote loadAt_change storeAt_change
structure Putp (B : Nat) (w w' : World) : Prop where
  bel : Below B w w'
  tag : ∀ (k : Nat) (cs : Array Value) (t : TypeId) (fr : Nat × Nat), w.heap[k]? = some (.cells cs t fr) → t ≠ 5 → w'.heap[k]? = some (.cells cs t fr)
theorem Putp.refl (B : Nat) (w : World) : Putp B w w := ⟨Below.refl B w, fun _ _ _ _ h _ => h⟩
theorem Putp.trans {B : Nat} {a b c : World} (h : Putp B a b) (h' : Putp B b c) : Putp B a c := ⟨h.bel.trans h'.bel, fun k cs t fr h1 h2 => h'.tag k cs t fr (h.tag k cs t fr h1 h2) h2⟩
theorem Putp.of {B : Nat} {a b : World} (h : Below a.heap.size a b) (hB : B ≤ a.heap.size) : Putp B a b := ⟨h.mono hB, fun k cs t fr h1 _ => (h.block k (row_lt h1)).trans h1⟩
theorem Putp.grown {B c : Nat} {A : Option Addr} {l : List Nat} {a b : World} (ho : OwnsB 5 a B A c l) (hg : a.grownBy b (blk A)) (hB : B ≤ a.heap.size) : Putp B a b :=
  ⟨below_grown hg hB (fun k hk => (ho.blkLt k hk).1), fun k cs t fr h1 h2 => (hg.block k (row_lt h1) (fun e => by
    rcases ho.row.2 with ⟨h0, _⟩ | ⟨g', cap, cur, hv, _, hh, _⟩
    · injection h0 with h0; rw [h0] at e; cases e
    · have hA : A = some ⟨g', 0, none⟩ := by injection hv
      rw [hA] at e
      obtain rfl : k = g' := by injection e
      rw [hh] at h1
      have := Option.some.inj h1
      injection this with _ h3
      exact h2 h3.symm)).trans h1⟩
structure Bq (B : Nat) (w w' : World) (A : Option Addr) (c : Nat) (l : List Nat) (q : Nat) : Prop where
  own : OwnsB 5 w' B A c l
  len : l.length = q
  put : Putp B w w'
  base : B ≤ w'.heap.size
theorem Bq.then_ {B : Nat} {a b c : World} {A A' : Option Addr} {k k' q q' : Nat} {l l' : List Nat} (h : Bq B a b A k l q) (h' : Bq B b c A' k' l' q') : Bq B a c A' k' l' q' := ⟨h'.own, h'.len, h.put.trans h'.put, h'.base⟩
def Told (B : Nat) (w : World) (l : List Nat) (q : Nat) (e : Ending) (w' : World) : Prop := ∃ A' c', e = .returned (.slice A' q c') ∧ Bq B w w' A' c' l q
theorem wpList_append_bytesG {w : World} {ops : Array Oper} {rest : List Oper} {o : Oper} {a : Act} {Q : Exit → Act → World → Prop} (hgd : o.guard = none) (s x : Operand)
    (ho : o.op = .call { callee := .builtin .append, args := #[s, x], argTypes := #[32, 32] })
    (B : Nat) (A : Option Addr) (c : Nat) (l : List Nat) (n : Nat) (hln : l.length = n) (hs : a.eval s = .slice A n c) (hown : OwnsB 5 w B A c l)
    (B' : Nat) (A' : Option Addr) (c' : Nat) (m : List Nat) (k : Nat) (hmk : m.length = k) (hx : a.eval x = .slice A' k c') (hnil : A' = none → c' = 0) (hr : IsBytes w B' A' m)
    (R : List Nat) (hR : l ++ m = R) (hbytes : n + k ≤ 140737488355328) (hbase : B ≤ w.heap.size)
    (h : ∀ A2 c2 w', Bq B w w' A2 c2 R (n + k) → wpList Try.prog ops Q rest (a.put o.dst (.slice A2 (n + k) c2)) w') : wpList Try.prog ops Q (o :: rest) a w := by
  obtain ⟨i0, hi, hz0, hz1, hz2⟩ := info_parts info_u8
  subst hln
  subst hmk
  subst hR
  refine wpList_append_bytes hgd s x 32 ho B 5 i0 Try.underlying32 hi hz0 hz1 hz2 A c l hs hown B' A' c' m hx hnil hr hbytes hbase fun A2 c2 w' h1 h2 => h A2 c2 w' ⟨h1, by rw [List.length_append], ?_, Nat.le_trans hbase h2.size⟩
  rw [ownBlock_slice] at h2
  exact Putp.grown hown h2 hbase
set_option maxHeartbeats 1600000 in
theorem putInts_any (B : Nat) (A : Option Addr) (c : Nat) (l : List Nat) (q : Nat) (hl : l.length = q) (L : List Int) (k b k' : Nat) (hL : L.length = k) (hin : ∀ x ∈ L, InInt x) (hk : k ≤ 20) (hq : q ≤ 10000000000) (w : World) (ho : OwnsB 5 w B A c l) (hB : B ≤ w.heap.size) (hr : w.heap[b]? = some (.cells (ints L).toArray 3 (0, 0))) :
    Calls Try.prog 83 #[.slice A q c, .slice (some ⟨b, 0, none⟩) k k'] w fun e w' => Told B w (l ++ encs L) (q + 8 * k) e w' := by
  have H0 : Hid (Bq B w w A c l q) := hid ⟨ho, hl, Putp.refl B w, hB⟩
  have HR := hid (And.intro hr (And.intro hL hin))
  clear ho hl hr hL hin hB
  go_enter Try.func83, Try.ntmps83
  go_wp2_with fail
  go_loopw [0, 6, 9] (fun v _ i wr => ∃ (j : Nat) (A1 : Option Addr) (c1 : Nat), j ≤ k ∧ v = .slice A1 (q + 8 * j) c1 ∧ i = .int .i64 (j : Int) ∧ Hid (Bq B w wr A1 c1 (l ++ encs (L.take j)) (q + 8 * j))) (fun _ _ i _ => k - (RowKit.intOf i).toNat)
  case atStart => exact ⟨0, A, c, Nat.zero_le _, rfl, rfl, hid (by have := H0.out; simpa [encs] using this)⟩
  case round =>
    clear H0
    obtain ⟨j, A1, c1, hj, rfl, rfl, HQ⟩ := hrel
    by_cases hlt : j < k
    · have hjl : j < L.length := by rw [HR.out.2.1]; exact hlt
      have hrow := HQ.out.put.tag b _ _ _ HR.out.1 (by decide)
      have hc : wr.cell? ⟨b, j, none⟩ = some (.int .i64 L[j]) := by
        rw [cell_of_row wr b j _ _ (0, 0) hrow]; simp [ints, hjl]
      have hv := HR.out.2.2 L[j] (List.getElem_mem hjl)
      have hst : l ++ encs (L.take (j + 1)) = (l ++ encs (L.take j)) ++ enc L[j] := by
        rw [List.take_succ_eq_append_getElem hjl, Pk.encs_snoc, List.append_assoc]
      obtain ⟨v, hvv⟩ : ∃ v, v = L[j] := ⟨_, rfl⟩
      rw [← hvv] at hc hv hst
      have HST := hid hst
      have HP := hid (packInt_any 0 none 0 [] v hv (by simp) wr IsBytes.nil (Nat.zero_le _) (fun _ => rfl))
      clear hvv hst hv hrow hjl
      go_wp2_with fail
      refine HP.out.mono ?_
      rintro e w2 ⟨A2, c2, rfl, ho2, hb2⟩
      have ho2' : OwnsB 5 w2 wr.heap.size A2 c2 (enc v) := by simpa using ho2
      have HO2 := hid (And.intro ho2' hb2)
      have hown := HQ.out.own.below hb2
      have hbase := Nat.le_trans HQ.out.base hb2.size
      clear ho2 hb2 ho2' HP
      have hq8 : q + 8 * j + 8 ≤ 140737488355328 := by omega
      have HW := hid (And.intro hown (And.intro hbase hq8))
      clear hown hbase hq8
      go_wp2_with (at_builtin; refine wpList_append_bytesG (by rfl) _ _ (by rfl) B A1 c1 (l ++ encs (L.take j)) (q + 8 * j) HQ.out.len (by rfl) HW.out.1 w2.heap.size A2 c2 (enc v) 8 rfl (by rfl) HO2.out.1.none_ HO2.out.1.reads (l ++ encs (L.take (j + 1))) HST.out.symm HW.out.2.2 HW.out.2.1 ?_)
      intro A3 c3 w3 hb3
      have H3 : Hid (Bq B w w3 A3 c3 (l ++ encs (L.take (j + 1))) (q + 8 * (j + 1))) := hid (by
        exact ⟨hb3.own, by have := hb3.len; omega, HQ.out.put.trans ((Putp.of HO2.out.2 HQ.out.base).trans hb3.put), hb3.base⟩)
      clear hb3 hc
      go_wp2_with fail
      go_roundw
      case rel => exact ⟨j + 1, A3, c3, by omega, rfl, by go_num, H3⟩
      case measure => simp [RowKit.intOf]; omega
    · obtain rfl : j = k := by omega
      have H3 : Hid (Bq B w wr A1 c1 (l ++ encs L) (q + 8 * j)) := hid (by
        have := HQ.out
        rw [← HR.out.2.1, List.take_length, HR.out.2.1] at this
        exact this)
      clear HQ
      go_wp2_with fail
      go_ret
      exact ⟨A1, c1, rfl, H3.out⟩
set_option maxHeartbeats 1600000 in
theorem putBlob_any (B : Nat) (A : Option Addr) (c : Nat) (l : List Nat) (q : Nat) (hl : l.length = q) (B' : Nat) (A' : Option Addr) (c' : Nat) (d : List Nat) (k : Nat) (hd : d.length = k) (hk : k ≤ 1000000000) (hq : q ≤ 100000000000) (w : World) (ho : OwnsB 5 w B A c l) (hB : B ≤ w.heap.size) (h' : IsBytes w B' A' d) (hB' : B' ≤ w.heap.size) (hn' : A' = none → c' = 0) :
    Calls Try.prog 84 #[.slice A q c, .slice A' k c'] w fun e w' => Told B w (l ++ encB d) (q + 8 + k) e w' := by
  have hP := packBlob_any 0 none 0 [] B' A' c' d (by simp; omega) w IsBytes.nil (Nat.zero_le _) (fun _ => rfl) h' hB' hn'
  rw [hd] at hP
  have HP := hid hP
  have HL := hid (And.intro hl hd)
  have HO := hid (And.intro ho hB)
  clear hl hd ho hB h' hP
  go_enter Try.func84, Try.ntmps84
  go_wp2_with fail
  refine HP.out.mono ?_
  rintro e w2 ⟨A2, c2, rfl, ho2, hb2⟩
  have ho2' : OwnsB 5 w2 w.heap.size A2 c2 (encB d) := by
    have e : encB d = enc (k : Int) ++ d := by unfold encB; rw [HL.out.2]
    rw [e]; simpa using ho2
  have hlen : (encB d).length = 8 + k := by unfold encB; rw [List.length_append, Pk.enc_length, HL.out.2]
  have HO2 := hid (And.intro ho2' (And.intro hb2 hlen))
  have hown := HO.out.1.below hb2
  have hbase := Nat.le_trans HO.out.2 hb2.size
  have hqk : q + (8 + k) ≤ 140737488355328 := by omega
  have HW := hid (And.intro hown (And.intro hbase hqk))
  clear ho2 hb2 ho2' hlen hown hbase hqk HP
  go_wp2_with (at_builtin; refine wpList_append_bytesG (by rfl) _ _ (by rfl) B A c l q HL.out.1 (by rfl) HW.out.1 w2.heap.size A2 c2 (encB d) (8 + k) HO2.out.2.2 (by rfl) HO2.out.1.none_ HO2.out.1.reads (l ++ encB d) rfl HW.out.2.2 HW.out.2.1 ?_)
  intro A3 c3 w3 hb3
  have H3 : Hid (Bq B w w3 A3 c3 (l ++ encB d) (q + 8 + k)) := hid ⟨hb3.own, by have := hb3.len; omega, (Putp.of HO2.out.2.1 HO.out.2).trans hb3.put, hb3.base⟩
  clear hb3
  go_wp2_with fail
  go_ret
  exact ⟨A3, c3, ret_len (by omega), H3.out⟩
theorem encI_length (l : List Int) : (encI l).length = 8 + 8 * l.length := by unfold encI; rw [List.length_append, Pk.enc_length, Pk.encs_length]
def confTo (c : Cf) (j : Nat) : List Nat := if j = 0 then [] else if j = 1 then encI c.old else if j = 2 then encI c.old ++ encI c.new else encCf c
def confLen (n0 n1 n2 : Nat) (j : Nat) : Nat := if j = 0 then 0 else if j = 1 then 8 + 8 * n0 else if j = 2 then 8 + 8 * n0 + (8 + 8 * n1) else 8 + 8 * n0 + (8 + 8 * n1) + (8 + 8 * n2)
theorem info_sl : (Try.prog.info? 29).map (·.size) = some 1 := by kernel_rfl
theorem info_sl' : ∃ i, Try.prog.info? 29 = some i ∧ i.size = 1 := by
  have := info_sl
  cases h : Try.prog.info? 29 with
  | none => rw [h] at this; cases this
  | some i => rw [h] at this; exact ⟨i, rfl, by simpa using this⟩
theorem idx3_0 (x0 x1 x2 : Value) (w : World) : (Instr.index 152 (.agg #[x0, x1, x2]) (.int .i64 0)).run Try.prog w = .ok x0 w := by
  obtain ⟨i0, hi, hs⟩ := info_sl'
  simp [Instr.index, go_sem, sizeOf, typeInfo, hi, hs]
theorem idx3_1 (x0 x1 x2 : Value) (w : World) : (Instr.index 152 (.agg #[x0, x1, x2]) (.int .i64 1)).run Try.prog w = .ok x1 w := by
  obtain ⟨i0, hi, hs⟩ := info_sl'
  simp [Instr.index, go_sem, sizeOf, typeInfo, hi, hs]
theorem idx3_2 (x0 x1 x2 : Value) (w : World) : (Instr.index 152 (.agg #[x0, x1, x2]) (.int .i64 2)).run Try.prog w = .ok x2 w := by
  obtain ⟨i0, hi, hs⟩ := info_sl'
  simp [Instr.index, go_sem, sizeOf, typeInfo, hi, hs]
theorem encCf_length (c : Cf) : (encCf c).length = confLen c.old.length c.new.length c.lrn.length 3 := by
  unfold encCf
  rw [List.length_append, List.length_append, encI_length, encI_length, encI_length]; rfl
set_option maxHeartbeats 3200000 in
theorem putConf_any (B : Nat) (A : Option Addr) (c : Nat) (l : List Nat) (q : Nat) (hl : l.length = q) (f : Cf) (a0 a1 a2 : Option Addr) (k0 k1 k2 : Nat) (hq : q ≤ 100000000000) (w : World) (ho : OwnsB 5 w B A c l) (hB : B ≤ w.heap.size) (B' : Nat) (hB' : B' ≤ B)
    (h0 : IsInts w B' a0 f.old) (h1 : IsInts w B' a1 f.new) (h2 : IsInts w B' a2 f.lrn) (n0 n1 n2 : Nat) (hn0 : f.old.length = n0) (hn1 : f.new.length = n1) (hn2 : f.lrn.length = n2) (hs : n0 ≤ 1000000 ∧ n1 ≤ 1000000 ∧ n2 ≤ 1000000) :
    Calls Try.prog 85 #[.slice A q c, .agg #[.slice a0 n0 k0, .slice a1 n1 k1, .slice a2 n2 k2]] w fun e w' => Told B w (l ++ encCf f) (q + (8 + 8 * n0 + (8 + 8 * n1) + (8 + 8 * n2))) e w' := by
  have HP : Hid (∀ wz (ad : Option Addr) (k n : Nat) (L : List Int), L.length = n → n ≤ 1000000 → IsInts wz B' ad L → B' ≤ wz.heap.size → Calls Try.prog 112 #[.slice none 0 0, .slice ad n k] wz fun e w' => ∃ A2 c2, e = .returned (.slice A2 (8 + 8 * n) c2) ∧ OwnsB 5 w' wz.heap.size A2 c2 (encI L) ∧ Below wz.heap.size wz w') := hid fun wz ad k n L hn hL hi hb => by
    subst hn
    refine (packInts_any 0 none 0 [] B' ad k L (by simp; omega) wz IsBytes.nil (Nat.zero_le _) (fun _ => rfl) hi hb).mono ?_
    rintro e w' ⟨A2, c2, rfl, ho, hbb⟩
    exact ⟨A2, c2, ret_len (by simp), by unfold encI; simpa using ho, hbb⟩
  have HI := hid (And.intro h0 (And.intro h1 h2))
  have HN := hid (And.intro hn0 (And.intro hn1 hn2))
  have HL := hid hl
  have hbox : Below w.heap.size w (w.alloc (.cells #[.slice a0 n0 k0, .slice a1 n1 k1, .slice a2 n2 k2] 31)) := (Below.refl _ w).alloc (Nat.le_refl _) _
  have H0 : Hid (Bq B w (w.alloc (.cells #[.slice a0 n0 k0, .slice a1 n1 k1, .slice a2 n2 k2] 31)) A c (l ++ confTo f 0) (q + 0)) := hid (by
    have e : l ++ confTo f 0 = l := by unfold confTo; simp
    rw [e]
    exact ⟨ho.below hbox, hl, Putp.of hbox hB, Nat.le_trans hB hbox.size⟩)
  have HS := hid hB'
  -- one list is put behind
  have STEP : Hid (∀ (wr w2 : World) (A1 : Option Addr) (c1 : Nat) (l1 : List Nat) (q1 : Nat) (A2 : Option Addr) (c2 n : Nat) (L : List Int), Bq B w wr A1 c1 l1 q1 → L.length = n → OwnsB 5 w2 wr.heap.size A2 c2 (encI L) → Below wr.heap.size wr w2 → OwnsB 5 w2 B A1 c1 l1 ∧ B ≤ w2.heap.size ∧ (encI L).length = 8 + 8 * n ∧ Putp B w w2) := hid fun wr w2 A1 c1 l1 q1 A2 c2 n L h1 h2 h3 h4 => ⟨h1.own.below h4, Nat.le_trans h1.base h4.size, by rw [encI_length, h2], h1.put.trans (Putp.of h4 h1.base)⟩
  clear h0 h1 h2 hn0 hn1 hn2 hbox ho hB hl hB'
  have hx0 := fun w => idx3_0 (.slice a0 n0 k0) (.slice a1 n1 k1) (.slice a2 n2 k2) w
  have hx1 := fun w => idx3_1 (.slice a0 n0 k0) (.slice a1 n1 k1) (.slice a2 n2 k2) w
  have hx2 := fun w => idx3_2 (.slice a0 n0 k0) (.slice a1 n1 k1) (.slice a2 n2 k2) w
  go_enter Try.func85, Try.ntmps85
  go_upto_region 2 with fail
  generalize (w.alloc _) = w1 at H0 ⊢
  go_wp2_with fail
  go_loopw [0, 6, 14] (fun v _ i wr => ∃ (j : Nat) (A1 : Option Addr) (c1 q1 : Nat), j ≤ 3 ∧ v = .slice A1 (q + q1) c1 ∧ i = .int .i64 (j : Int) ∧ Hid (q1 = confLen n0 n1 n2 j) ∧ Hid (Bq B w wr A1 c1 (l ++ confTo f j) (q + q1))) (fun _ _ i _ => 3 - (RowKit.intOf i).toNat)
  case atStart => exact ⟨0, A, c, 0, by omega, by simp, rfl, hid rfl, H0⟩
  case round =>
    clear H0
    obtain ⟨j, A1, c1, q1, hj, rfl, rfl, HQ1, HQ⟩ := hrel
    have hcs : j = 0 ∨ j = 1 ∨ j = 2 ∨ j = 3 := by omega
    clear hj
    have hq1 : q1 ≤ 100000000 := by rw [HQ1.out]; unfold confLen; split <;> (try split) <;> (try split) <;> omega
    rcases hcs with rfl | rfl | rfl | rfl
    · have HX := hid (HP.out wr a0 k0 n0 f.old HN.out.1 hs.1 (HI.out.1.below (HQ.out.put.bel.mono HS.out)) (Nat.le_trans HS.out HQ.out.base))
      have HT : Hid ((l ++ confTo f 0) ++ encI f.old = l ++ confTo f 1) := hid (by unfold confTo encCf; simp)
      go_wp2_with fail
      refine HX.out.mono ?_
      rintro e w2 ⟨A2, c2, rfl, ho2, hb2⟩
      have HO := hid (And.intro ho2 (STEP.out wr w2 A1 c1 _ _ A2 c2 n0 f.old HQ.out HN.out.1 ho2 hb2))
      have hqk : q + q1 + (8 + 8 * n0) ≤ 140737488355328 := by omega
      have HQK := hid hqk
      clear ho2 hb2 hqk HX
      go_wp2_with (at_builtin; refine wpList_append_bytesG (by rfl) _ _ (by rfl) B A1 c1 (l ++ confTo f 0) (q + q1) HQ.out.len (by rfl) HO.out.2.1 w2.heap.size A2 c2 (encI f.old) (8 + 8 * n0) HO.out.2.2.2.1 (by rfl) HO.out.1.none_ HO.out.1.reads (l ++ confTo f 1) HT.out HQK.out HO.out.2.2.1 ?_)
      intro A3 c3 w3 hb3
      have H3 : Hid (Bq B w w3 A3 c3 (l ++ confTo f 1) (q + (q1 + (8 + 8 * n0)))) := hid ⟨hb3.own, by have := hb3.len; omega, HO.out.2.2.2.2.trans hb3.put, hb3.base⟩
      have HN3 : Hid (q1 + (8 + 8 * n0) = confLen n0 n1 n2 1) := hid (by rw [HQ1.out]; unfold confLen; simp)
      clear hb3 hq1
      go_wp2_with fail
      go_roundw
      case rel => exact ⟨1, A3, c3, q1 + (8 + 8 * n0), by omega, by rw [Nat.add_assoc], by go_num, HN3, H3⟩
      case measure => simp [RowKit.intOf]
    · have HX := hid (HP.out wr a1 k1 n1 f.new HN.out.2.1 hs.2.1 (HI.out.2.1.below (HQ.out.put.bel.mono HS.out)) (Nat.le_trans HS.out HQ.out.base))
      have HT : Hid ((l ++ confTo f 1) ++ encI f.new = l ++ confTo f 2) := hid (by unfold confTo encCf; simp)
      go_wp2_with fail
      refine HX.out.mono ?_
      rintro e w2 ⟨A2, c2, rfl, ho2, hb2⟩
      have HO := hid (And.intro ho2 (STEP.out wr w2 A1 c1 _ _ A2 c2 n1 f.new HQ.out HN.out.2.1 ho2 hb2))
      have hqk : q + q1 + (8 + 8 * n1) ≤ 140737488355328 := by omega
      have HQK := hid hqk
      clear ho2 hb2 hqk HX
      go_wp2_with (at_builtin; refine wpList_append_bytesG (by rfl) _ _ (by rfl) B A1 c1 (l ++ confTo f 1) (q + q1) HQ.out.len (by rfl) HO.out.2.1 w2.heap.size A2 c2 (encI f.new) (8 + 8 * n1) HO.out.2.2.2.1 (by rfl) HO.out.1.none_ HO.out.1.reads (l ++ confTo f 2) HT.out HQK.out HO.out.2.2.1 ?_)
      intro A3 c3 w3 hb3
      have H3 : Hid (Bq B w w3 A3 c3 (l ++ confTo f 2) (q + (q1 + (8 + 8 * n1)))) := hid ⟨hb3.own, by have := hb3.len; omega, HO.out.2.2.2.2.trans hb3.put, hb3.base⟩
      have HN3 : Hid (q1 + (8 + 8 * n1) = confLen n0 n1 n2 2) := hid (by rw [HQ1.out]; unfold confLen; simp)
      clear hb3 hq1
      go_wp2_with fail
      go_roundw
      case rel => exact ⟨2, A3, c3, q1 + (8 + 8 * n1), by omega, by rw [Nat.add_assoc], by go_num, HN3, H3⟩
      case measure => simp [RowKit.intOf]
    · have HX := hid (HP.out wr a2 k2 n2 f.lrn HN.out.2.2 hs.2.2 (HI.out.2.2.below (HQ.out.put.bel.mono HS.out)) (Nat.le_trans HS.out HQ.out.base))
      have HT : Hid ((l ++ confTo f 2) ++ encI f.lrn = l ++ confTo f 3) := hid (by unfold confTo encCf; simp)
      go_wp2_with fail
      refine HX.out.mono ?_
      rintro e w2 ⟨A2, c2, rfl, ho2, hb2⟩
      have HO := hid (And.intro ho2 (STEP.out wr w2 A1 c1 _ _ A2 c2 n2 f.lrn HQ.out HN.out.2.2 ho2 hb2))
      have hqk : q + q1 + (8 + 8 * n2) ≤ 140737488355328 := by omega
      have HQK := hid hqk
      clear ho2 hb2 hqk HX
      go_wp2_with (at_builtin; refine wpList_append_bytesG (by rfl) _ _ (by rfl) B A1 c1 (l ++ confTo f 2) (q + q1) HQ.out.len (by rfl) HO.out.2.1 w2.heap.size A2 c2 (encI f.lrn) (8 + 8 * n2) HO.out.2.2.2.1 (by rfl) HO.out.1.none_ HO.out.1.reads (l ++ confTo f 3) HT.out HQK.out HO.out.2.2.1 ?_)
      intro A3 c3 w3 hb3
      have H3 : Hid (Bq B w w3 A3 c3 (l ++ confTo f 3) (q + (q1 + (8 + 8 * n2)))) := hid ⟨hb3.own, by have := hb3.len; omega, HO.out.2.2.2.2.trans hb3.put, hb3.base⟩
      have HN3 : Hid (q1 + (8 + 8 * n2) = confLen n0 n1 n2 3) := hid (by rw [HQ1.out]; unfold confLen; simp)
      clear hb3 hq1
      go_wp2_with fail
      go_roundw
      case rel => exact ⟨3, A3, c3, q1 + (8 + 8 * n2), by omega, by rw [Nat.add_assoc], by go_num, HN3, H3⟩
      case measure => simp [RowKit.intOf]
    · have HE : Hid (l ++ confTo f 3 = l ++ encCf f ∧ q1 = 8 + 8 * n0 + (8 + 8 * n1) + (8 + 8 * n2)) := hid ⟨rfl, HQ1.out⟩
      have H9 := HQ.out
      rw [HE.out.1] at H9
      have HQ9 := hid H9
      have e9 := HE.out.2
      clear HQ H9
      subst e9
      go_wp2_with fail
      go_ret
      exact ⟨A1, c1, rfl, HQ9.out⟩
end Go.Proofs.Ytaeoccpjdjafnaa.Im
namespace Go.Proofs.Ytaeoccpjdjafnaa.Im
open Go.RowKit
open Rl (En Lg)
open Qu (Cf)
open Pk (enc encs)
set_option maxRecDepth 100000
set_option linter.unusedVariables false
attribute [local go_sem ↓] loadAt_hard storeAt_hard loadAt_vote storeAt_vote loadAt_change storeAt_change
theorem encs_two (a b : Int) : encs [a, b] = enc a ++ enc b := by simp [encs]
theorem boxLit {B : Nat} {w w1 : World} {A : Option Addr} {c q : Nat} {l : List Nat} {cs : Array Value} {t : TypeId} (hw1 : w1 = w.alloc (.cells cs t)) (ho : OwnsB 5 w B A c l) (hl : l.length = q) (hB : B ≤ w.heap.size) (L : Array Value) :
    Bq B w (w1.alloc (.cells L 3)).drew A c l q ∧ (w1.alloc (.cells L 3)).drew.heap[w1.heap.size]? = some (.cells L 3 (0, 0)) ∧ (w1.alloc (.cells L 3)).drew.heap[w.heap.size]? = some (.cells cs t (0, 0)) ∧ w1.heap[w.heap.size]? = some (.cells cs t (0, 0)) := by
  have h1 : w1.heap[w.heap.size]? = some (.cells cs t (0, 0)) := by rw [hw1]; exact heap_alloc_new w _
  have b1 : Below w.heap.size w w1 := by rw [hw1]; exact (Below.refl _ w).alloc (Nat.le_refl _) _
  have b2 : Below w1.heap.size w1 (w1.alloc (.cells L 3)).drew := ((Below.refl _ w1).alloc (Nat.le_refl _) _).drew
  have b3 := b1.trans (b2.mono b1.size)
  exact ⟨⟨ho.below b3, hl, Putp.of b3 hB, Nat.le_trans hB b3.size⟩, heap_alloc_new w1 _, (b2.block _ (row_lt h1)).trans h1, h1⟩
set_option maxHeartbeats 3200000 in
theorem putEntry_any (B : Nat) (A : Option Addr) (c : Nat) (l : List Nat) (q : Nat) (hl : l.length = q) (x : En) (hx : InI x.t ∧ InI x.k) (B' : Nat) (hB' : B' ≤ B) (Ad : Option Addr) (cd k : Nat) (hk : x.d.length = k) (hkl : k ≤ 1000000000) (hq : q ≤ 10000000000) (w : World) (ho : OwnsB 5 w B A c l) (hB : B ≤ w.heap.size) (h' : IsBytes w B' Ad x.d) (hn : Ad = none → cd = 0) :
    Calls Try.prog 114 #[.slice A q c, .agg #[.int .i64 x.t, .int .i64 x.k, .slice Ad k cd]] w fun e w' => Told B w (l ++ encE x) (q + (24 + k)) e w' := by
  obtain ⟨w1, hw1⟩ : ∃ w1, w1 = w.alloc (.cells #[.int .i64 x.t, .int .i64 x.k, .slice Ad k cd] 77) := ⟨_, rfl⟩
  obtain ⟨p1, p2, p3, p4⟩ := boxLit hw1 ho hl hB #[.int .i64 x.t, .int .i64 x.k]
  have hI : IsBytes (w1.alloc (.cells #[.int .i64 x.t, .int .i64 x.k] 3)).drew B' Ad x.d := h'.below (p1.put.bel.mono hB')
  have HP1 := hid (putInts_any B A c l q hl [x.t, x.k] 2 w1.heap.size 2 rfl (fun v hv => by
    simp only [List.mem_cons, List.not_mem_nil, or_false] at hv
    rcases hv with rfl | rfl
    · exact hx.1
    · exact hx.2) (by decide) hq (w1.alloc (.cells #[.int .i64 x.t, .int .i64 x.k] 3)).drew p1.own p1.base p2)
  have hc := fun (W : World) (h : W.heap[w.heap.size]? = some (.cells #[.int .i64 x.t, .int .i64 x.k, .slice Ad k cd] 77 (0, 0))) (j : Nat) => cell_of_row W w.heap.size j _ _ (0, 0) h
  have HX := hid (And.intro p1 (And.intro hI (And.intro p3 p4)))
  have hbox := And.intro (hc w1 p4 0) (And.intro (hc w1 p4 1) (hc w1 p4 2))
  have hbox2 := And.intro (hc _ p3 0) (And.intro (hc _ p3 1) (hc _ p3 2))
  have HK := hid (And.intro hk (And.intro hn hB'))
  have HC := hid hc
  have HE : Hid ((l ++ encs [x.t, x.k]) ++ encB x.d = l ++ encE x) := hid (by rw [encs_two]; unfold encE; simp)
  have h0 : w1.cell? ⟨w.heap.size, 0, none⟩ = some (.int .i64 x.t) := hbox.1
  have h1 : w1.cell? ⟨w.heap.size, 1, none⟩ = some (.int .i64 x.k) := hbox.2.1
  have h2 : w1.cell? ⟨w.heap.size, 2, none⟩ = some (.slice Ad k cd) := hbox.2.2
  have g0 : (w1.alloc (.cells #[.int .i64 x.t, .int .i64 x.k] 3)).drew.cell? ⟨w.heap.size, 0, none⟩ = some (.int .i64 x.t) := hbox2.1
  have g1 : (w1.alloc (.cells #[.int .i64 x.t, .int .i64 x.k] 3)).drew.cell? ⟨w.heap.size, 1, none⟩ = some (.int .i64 x.k) := hbox2.2.1
  have g2 : (w1.alloc (.cells #[.int .i64 x.t, .int .i64 x.k] 3)).drew.cell? ⟨w.heap.size, 2, none⟩ = some (.slice Ad k cd) := hbox2.2.2
  clear p1 p2 p3 p4 hI hc hbox hbox2 hk hn hB' ho h' hl hB
  go_enter Try.func114, Try.ntmps114
  go_wp2_with fail
  rw [← hw1]
  clear hw1
  go_region_held3 (fun W => W.cell? ⟨w.heap.size, 0, none⟩ = some (.int .i64 x.t) ∧ W.cell? ⟨w.heap.size, 1, none⟩ = some (.int .i64 x.k) ∧ W.cell? ⟨w.heap.size, 2, none⟩ = some (.slice Ad k cd))
    (first | exact ⟨h0, h1, h2⟩ | exact ⟨g0, g1, g2⟩ | exact e3 | exact e4 | fail)
    (first
      | (go_at_call 84; refine (HP2.out).mono ?_; rintro e w4 ⟨A4, c4, rfl, hb4⟩; have H4 := hid hb4; have hr4 := hb4.put.tag _ _ _ _ HR3.out (by decide); have e4 : w4.cell? ⟨w.heap.size, 0, none⟩ = some (.int .i64 x.t) ∧ w4.cell? ⟨w.heap.size, 1, none⟩ = some (.int .i64 x.k) ∧ w4.cell? ⟨w.heap.size, 2, none⟩ = some (.slice Ad k cd) := ⟨HC.out w4 hr4 0, HC.out w4 hr4 1, HC.out w4 hr4 2⟩; clear hb4 hr4)
      | (go_at_call 83; refine HP1.out.mono ?_; rintro e w3 ⟨A3, c3, rfl, hb3⟩; have H3 := hid hb3; have HR3 := hid (hb3.put.tag _ _ _ _ HX.out.2.2.1 (by decide)); have e3 : w3.cell? ⟨w.heap.size, 0, none⟩ = some (.int .i64 x.t) ∧ w3.cell? ⟨w.heap.size, 1, none⟩ = some (.int .i64 x.k) ∧ w3.cell? ⟨w.heap.size, 2, none⟩ = some (.slice Ad k cd) := ⟨HC.out w3 HR3.out 0, HC.out w3 HR3.out 1, HC.out w3 HR3.out 2⟩;
         have HP2 := hid (putBlob_any B A3 c3 (l ++ encs [x.t, x.k]) (q + 8 * 2) hb3.len B' Ad cd x.d k HK.out.1 hkl (by omega) w3 hb3.own hb3.base (HX.out.2.1.below (hb3.put.bel.mono HK.out.2.2)) (Nat.le_trans HK.out.2.2 hb3.base) HK.out.2.1); clear hb3))
  all_goals
    have HF : Hid (Bq B w w4 A4 c4 (l ++ encE x) (q + (24 + k))) := hid (by
      have h := H4.out
      rw [HE.out] at h
      exact ⟨h.own, by have := h.len; omega, HX.out.1.put.trans (H3.out.put.trans h.put), h.base⟩)
    clear h0 h1 h2 g0 g1 g2 e3 e4
    go_wp2_with fail
    go_ret
    exact ⟨A4, c4, ret_len (by omega), HF.out⟩
theorem encs_five (a b c d e : Int) : encs [a, b, c, d, e] = (((enc a ++ enc b) ++ enc c) ++ enc d) ++ enc e := by simp [encs]
theorem encV_length (v : Vt) : (encV v).length = 40 := by unfold encV; simp [Pk.enc_length]
theorem twoNew (w : World) (o1 o2 : Obj) : Below w.heap.size w ((w.alloc o1).alloc o2) ∧ ((w.alloc o1).alloc o2).heap[w.heap.size]? = some o1 ∧ ((w.alloc o1).alloc o2).heap[w.heap.size + 1]? = some o2 := by
  have s1 : (w.alloc o1).heap.size = w.heap.size + 1 := by simp
  have h2 := heap_alloc_new (w.alloc o1) o2
  have b2 : Below (w.alloc o1).heap.size (w.alloc o1) ((w.alloc o1).alloc o2) := (Below.refl _ _).alloc (Nat.le_refl _) _
  rw [s1] at h2 b2
  exact ⟨((Below.refl _ w).alloc (Nat.le_refl _) _).alloc (by simp) _, (b2.block _ (by omega)).trans (heap_alloc_new w o1), h2⟩
set_option maxHeartbeats 1600000 in
theorem putVote_any (B : Nat) (A : Option Addr) (c : Nat) (l : List Nat) (q : Nat) (hl : l.length = q) (v : Vt) (hv : okV v) (hq : q ≤ 10000000000) (w : World) (ho : OwnsB 5 w B A c l) (hB : B ≤ w.heap.size) :
    Calls Try.prog 56 #[.slice A q c, .agg #[.int .i64 v.x, .int .i64 v.p, .int .i64 v.r, .int .i64 v.b, .int .i64 v.v]] w fun e w' => Told B w (l ++ encV v) (q + 40) e w' := by
  obtain ⟨w2, hw2⟩ : ∃ w2, w2 = (w.alloc (.cells #[.int .i64 v.x, .int .i64 v.p, .int .i64 v.r, .int .i64 v.b, .int .i64 v.v] 34)).alloc (.cells #[.int .i64 v.x, .int .i64 v.p, .int .i64 v.r, .int .i64 v.b, .int .i64 v.v] 3) := ⟨_, rfl⟩
  obtain ⟨p1, p2, p3⟩ := twoNew w (.cells #[.int .i64 v.x, .int .i64 v.p, .int .i64 v.r, .int .i64 v.b, .int .i64 v.v] 34) (.cells #[.int .i64 v.x, .int .i64 v.p, .int .i64 v.r, .int .i64 v.b, .int .i64 v.v] 3)
  rw [← hw2] at p1 p2 p3
  have HP := hid (putInts_any B A c l q hl [v.x, v.p, v.r, v.b, v.v] 5 (w.heap.size + 1) 5 rfl (fun y hy => by
    simp only [List.mem_cons, List.not_mem_nil, or_false] at hy
    rcases hy with rfl | rfl | rfl | rfl | rfl
    · exact hv.1.1.1.1
    · exact hv.1.1.1.2
    · exact hv.1.1.2
    · exact hv.1.2
    · exact hv.2) (by decide) hq w2 (ho.below p1) (Nat.le_trans hB p1.size) p3)
  have HE : Hid (l ++ encs [v.x, v.p, v.r, v.b, v.v] = l ++ encV v) := hid (by rw [encs_five]; rfl)
  have HB := hid (And.intro p1 hB)
  clear p1 p2 p3 ho hl hB hv
  go_enter Try.func56, Try.ntmps56
  go_wp2_with fail
  rw [← hw2]
  clear hw2
  refine HP.out.mono ?_
  rintro e w3 ⟨A3, c3, rfl, hb3⟩
  have H3 : Hid (Bq B w w3 A3 c3 (l ++ encV v) (q + 40)) := hid (by
    rw [HE.out] at hb3
    exact ⟨hb3.own, by have := hb3.len; omega, (Putp.of HB.out.1 HB.out.2).trans hb3.put, hb3.base⟩)
  clear hb3
  go_wp2_with fail
  go_ret
  exact ⟨A3, c3, ret_len (by omega), H3.out⟩
def flatTo {α : Type} (f : α → List Nat) (L : List α) (j : Nat) : List Nat := (L.take j).flatMap f
theorem flatTo_next {α : Type} (f : α → List Nat) (L : List α) (j : Nat) (h : j < L.length) : flatTo f L (j + 1) = flatTo f L j ++ f L[j] := by
  unfold flatTo; rw [List.take_succ_eq_append_getElem h, List.flatMap_append]; simp
theorem flatTo_all {α : Type} (f : α → List Nat) (L : List α) : flatTo f L L.length = L.flatMap f := by unfold flatTo; rw [List.take_length]
theorem flatTo_le {α : Type} (f : α → List Nat) (L : List α) (j : Nat) : (flatTo f L j).length ≤ (L.flatMap f).length := by
  have h : (L.flatMap f) = flatTo f L j ++ (L.drop j).flatMap f := by unfold flatTo; rw [← List.flatMap_append, List.take_append_drop]
  rw [h, List.length_append]; omega
theorem listHead {w w2 : World} {n : Nat} (hw2 : w2 = w.alloc (.cells #[.int .i64 (n : Int)] 3)) {B : Nat} {A : Option Addr} {c q : Nat} {l : List Nat} (ho : OwnsB 5 w B A c l) (hl : l.length = q) (hB : B ≤ w.heap.size) : Bq B w w2 A c l q ∧ w2.heap[w.heap.size]? = some (.cells (ints [(n : Int)]).toArray 3 (0, 0)) := by
  have p1 : Below w.heap.size w w2 := by rw [hw2]; exact (Below.refl _ w).alloc (Nat.le_refl _) _
  exact ⟨⟨ho.below p1, hl, Putp.of p1 hB, Nat.le_trans hB p1.size⟩, by rw [hw2]; exact heap_alloc_new w _⟩
set_option maxHeartbeats 3200000 in
theorem putEs_any (B : Nat) (A : Option Addr) (c : Nat) (l : List Nat) (q : Nat) (hl : l.length = q) (L : List En) (n : Nat) (hn : L.length = n) (hnn : n ≤ 1000000) (hx : ∀ e ∈ L, e.d.length ≤ 1000000000) (hT : q + (8 + (L.flatMap encE).length) ≤ 10000000000) (B' : Nat) (hB' : B' ≤ B) (Ae : Option Addr) (ce : Nat) (w : World) (ho : OwnsB 5 w B A c l) (hB : B ≤ w.heap.size) (he : IsEnts w B' Ae L)
    (q2 : Nat) (hq2 : q + (8 + (L.flatMap encE).length) = q2) :
    Calls Try.prog 113 #[.slice A q c, .slice Ae n ce, .func (.func 114) #[] #[]] w fun e w' => Told B w (l ++ encL encE L) q2 e w' := by
  obtain ⟨w2, hw2⟩ : ∃ w2, w2 = w.alloc (.cells #[.int .i64 (n : Int)] 3) := ⟨_, rfl⟩
  obtain ⟨p1, p2⟩ := listHead hw2 ho hl hB
  have HP := hid (putInts_any B A c l q hl [(n : Int)] 1 w.heap.size 1 rfl (fun y hy => by rw [List.mem_singleton.1 hy]; exact ⟨by omega, by omega⟩) (by decide) (by omega) w2 p1.own p1.base p2)
  have HH := hid (And.intro p1 (And.intro he (And.intro hn hB')))
  have HX := hid (And.intro hx hT)
  have HQ2 := hid hq2
  clear p1 p2 ho hl hB he hn hB' hx hT hq2
  go_enter Try.func113, Try.ntmps113
  go_wp2_with fail
  rw [← hw2]
  clear hw2
  refine HP.out.mono ?_
  rintro e w3 ⟨A3, c3, rfl, hb3⟩
  have H3 : Hid (Bq B w w3 A3 c3 ((l ++ encs [(n : Int)]) ++ flatTo encE L 0) (q + 8 * 1)) := hid (by
    have e : (l ++ encs [(n : Int)]) ++ flatTo encE L 0 = l ++ encs [(n : Int)] := by unfold flatTo; simp
    rw [e]
    exact ⟨hb3.own, hb3.len, HH.out.1.put.trans hb3.put, hb3.base⟩)
  clear hb3 HP
  go_wp2_with fail
  go_loopw [0, 8, 16] (fun v _ i wr => ∃ (j : Nat) (A1 : Option Addr) (c1 q1 : Nat), j ≤ n ∧ v = .slice A1 q1 c1 ∧ i = .int .i64 (j : Int) ∧ Hid (Bq B w wr A1 c1 ((l ++ encs [(n : Int)]) ++ flatTo encE L j) q1)) (fun _ _ i _ => n - (RowKit.intOf i).toNat)
  case atStart => exact ⟨0, A3, c3, _, Nat.zero_le _, rfl, rfl, H3⟩
  case round =>
    clear H3
    obtain ⟨j, A1, c1, q1, hj, rfl, rfl, HQ⟩ := hrel
    have hq1 : q1 ≤ 10000000000 ∧ q1 = q + 8 + (flatTo encE L j).length := by
      have h1 := HQ.out.len
      have h2 := HH.out.1.len
      have h3 := flatTo_le encE L j
      have h4 := HX.out.2
      rw [List.length_append, List.length_append, Pk.encs_length, h2] at h1
      simp only [List.length_cons, List.length_nil] at h1
      omega
    by_cases hlt : j < n
    · have hjl : j < L.length := by rw [HH.out.2.2.1]; exact hlt
      have hbw := HQ.out.put.bel.mono HH.out.2.2.2
      have hbw2 : Below B' w2 wr → True := fun _ => trivial
      obtain ⟨b, off, hA, hbb, hcs⟩ := (HH.out.2.1.below hbw).cells j hjl
      obtain ⟨Ad, cd, f0, f1, f2, hby, hrm, hnn2⟩ := hcs j hjl
      have hnum := HH.out.2.1.num L[j] (List.getElem_mem hjl)
      have hdl := HX.out.1 L[j] (List.getElem_mem hjl)
      have hnx := flatTo_next encE L j hjl
      obtain ⟨x, hxx⟩ : ∃ x, x = L[j] := ⟨_, rfl⟩
      rw [← hxx] at f0 f1 f2 hby hnum hdl hnx
      obtain ⟨dk, hdk⟩ : ∃ k, x.d.length = k := ⟨_, rfl⟩
      rw [hdk] at f2 hdl
      subst hA
      obtain ⟨w5, hw5⟩ : ∃ w5, w5 = wr.alloc (.cells #[.int .i64 x.t, .int .i64 x.k, .slice Ad dk cd] 77) := ⟨_, rfl⟩
      have hb5 : Below wr.heap.size wr w5 := by rw [hw5]; exact (Below.refl _ wr).alloc (Nat.le_refl _) _
      have HP := hid (putEntry_any B A1 c1 ((l ++ encs [(n : Int)]) ++ flatTo encE L j) q1 HQ.out.len x hnum B' HH.out.2.2.2 Ad cd dk hdk hdl hq1.1 w5 (HQ.out.own.below hb5) (Nat.le_trans HQ.out.base hb5.size) (hby.below (hb5.mono (Nat.le_trans HH.out.2.2.2 HQ.out.base))) hnn2)
      have HB5 := hid hb5
      have HNX : Hid (((l ++ encs [(n : Int)]) ++ flatTo encE L j) ++ encE x = (l ++ encs [(n : Int)]) ++ flatTo encE L (j + 1)) := hid (by rw [hnx]; simp [List.append_assoc])
      clear hby hrm hnn2 hnum hdl hnx hxx hdk hcs hbw hbw2 hb5 hjl hq1
      go_wp2_with fail
      rw [← hw5]
      clear hw5 f0 f1 f2
      refine HP.out.mono ?_
      rintro e w6 ⟨A6, c6, rfl, hb6⟩
      have H6 : Hid (Bq B w w6 A6 c6 ((l ++ encs [(n : Int)]) ++ flatTo encE L (j + 1)) (q1 + (24 + dk))) := hid (by
        rw [HNX.out] at hb6
        exact ⟨hb6.own, hb6.len, HQ.out.put.trans ((Putp.of HB5.out HQ.out.base).trans hb6.put), hb6.base⟩)
      clear hb6 HP HQ
      go_wp2_with fail
      go_roundw
      case rel => exact ⟨j + 1, A6, c6, _, by omega, rfl, by go_num, H6⟩
      case measure => simp [RowKit.intOf]; omega
    · obtain rfl : j = n := by omega
      have HF : Hid (Bq B w wr A1 c1 (l ++ encL encE L) q2 ∧ q1 = q2) := hid (by
        have h := HQ.out
        have hfl : flatTo encE L j = L.flatMap encE := by rw [← HH.out.2.2.1, flatTo_all]
        have e1 : (l ++ encs [(j : Int)]) ++ flatTo encE L j = l ++ encL encE L := by
          rw [hfl]; unfold encL; rw [HH.out.2.2.1, List.append_assoc]; simp [encs]
        have e2 : q1 = q2 := by rw [hq1.2, hfl, ← HQ2.out]; omega
        rw [e1] at h
        rw [e2] at h
        exact ⟨h, e2⟩)
      clear HQ hq1
      go_wp2_with fail
      go_ret
      exact ⟨A1, c1, ret_len HF.out.2, HF.out.1⟩
end Go.Proofs.Ytaeoccpjdjafnaa.Im
namespace Go.Proofs.Ytaeoccpjdjafnaa.Im
open Go.RowKit
open Rl (En Lg)
open Qu (Cf)
open Pk (enc encs)
set_option maxRecDepth 100000
set_option linter.unusedVariables false
attribute [local go_sem ↓] loadAt_hard storeAt_hard loadAt_vote storeAt_vote loadAt_change storeAt_change
theorem encLg_length (g : Lg) : (encLg g).length = 24 + (g.es.flatMap encE).length := by unfold encLg encL; simp [Pk.enc_length]; omega
set_option maxHeartbeats 3200000 in
theorem putLog_any (B : Nat) (A : Option Addr) (c : Nat) (l : List Nat) (q : Nat) (hl : l.length = q) (g : Lg) (hg : InI g.base ∧ InI g.term) (n : Nat) (hn : g.es.length = n) (hnn : n ≤ 1000000) (hx : ∀ e ∈ g.es, e.d.length ≤ 1000000000) (hT : q + (24 + (g.es.flatMap encE).length) ≤ 10000000000) (B' : Nat) (hB' : B' ≤ B) (Ae : Option Addr) (ce : Nat) (w : World) (ho : OwnsB 5 w B A c l) (hB : B ≤ w.heap.size) (he : IsEnts w B' Ae g.es)
    (q2 : Nat) (hq2 : q + (24 + (g.es.flatMap encE).length) = q2) :
    Calls Try.prog 86 #[.slice A q c, .agg #[.int .i64 g.base, .int .i64 g.term, .slice Ae n ce]] w fun e w' => Told B w (l ++ encLg g) q2 e w' := by
  obtain ⟨w1, hw1⟩ : ∃ w1, w1 = w.alloc (.cells #[.int .i64 g.base, .int .i64 g.term, .slice Ae n ce] 28) := ⟨_, rfl⟩
  obtain ⟨p1, p2, p3, p4⟩ := boxLit hw1 ho hl hB #[.int .i64 g.base, .int .i64 g.term]
  have hI : IsEnts (w1.alloc (.cells #[.int .i64 g.base, .int .i64 g.term] 3)).drew B' Ae g.es := he.below (p1.put.bel.mono hB')
  have HP1 := hid (putInts_any B A c l q hl [g.base, g.term] 2 w1.heap.size 2 rfl (fun v hv => by
    simp only [List.mem_cons, List.not_mem_nil, or_false] at hv
    rcases hv with rfl | rfl
    · exact hg.1
    · exact hg.2) (by decide) (by omega) (w1.alloc (.cells #[.int .i64 g.base, .int .i64 g.term] 3)).drew p1.own p1.base p2)
  have HC := hid (fun (W : World) (h : W.heap[w.heap.size]? = some (.cells #[.int .i64 g.base, .int .i64 g.term, .slice Ae n ce] 28 (0, 0))) (j : Nat) => cell_of_row W w.heap.size j _ _ (0, 0) h)
  have HX := hid (And.intro p1 (And.intro hI (And.intro p3 p4)))
  have HK := hid (And.intro hn (And.intro hx (And.intro hT (And.intro hB' hq2))))
  have HE : Hid ((l ++ encs [g.base, g.term]) ++ encL encE g.es = l ++ encLg g) := hid (by rw [encs_two]; unfold encLg; simp)
  have h0 : w1.cell? ⟨w.heap.size, 0, none⟩ = some (.int .i64 g.base) := HC.out w1 p4 0
  have h1 : w1.cell? ⟨w.heap.size, 1, none⟩ = some (.int .i64 g.term) := HC.out w1 p4 1
  have h2 : w1.cell? ⟨w.heap.size, 2, none⟩ = some (.slice Ae n ce) := HC.out w1 p4 2
  have g0 : (w1.alloc (.cells #[.int .i64 g.base, .int .i64 g.term] 3)).drew.cell? ⟨w.heap.size, 0, none⟩ = some (.int .i64 g.base) := HC.out _ p3 0
  have g1 : (w1.alloc (.cells #[.int .i64 g.base, .int .i64 g.term] 3)).drew.cell? ⟨w.heap.size, 1, none⟩ = some (.int .i64 g.term) := HC.out _ p3 1
  have g2 : (w1.alloc (.cells #[.int .i64 g.base, .int .i64 g.term] 3)).drew.cell? ⟨w.heap.size, 2, none⟩ = some (.slice Ae n ce) := HC.out _ p3 2
  clear p1 p2 p3 p4 hI hn hB' ho he hl hB hx hT hg hq2
  go_enter Try.func86, Try.ntmps86
  go_wp2_with fail
  rw [← hw1]
  clear hw1
  go_region_held3 (fun W => W.cell? ⟨w.heap.size, 0, none⟩ = some (.int .i64 g.base) ∧ W.cell? ⟨w.heap.size, 1, none⟩ = some (.int .i64 g.term) ∧ W.cell? ⟨w.heap.size, 2, none⟩ = some (.slice Ae n ce))
    (first | exact ⟨h0, h1, h2⟩ | exact ⟨g0, g1, g2⟩ | exact e3 | exact e4 | fail)
    (first
      | (go_at_call 113; refine (HP2.out).mono ?_; rintro e w4 ⟨A4, c4, rfl, hb4⟩; have H4 := hid hb4; have hr4 := hb4.put.tag _ _ _ _ HR3.out (by decide); have e4 : w4.cell? ⟨w.heap.size, 0, none⟩ = some (.int .i64 g.base) ∧ w4.cell? ⟨w.heap.size, 1, none⟩ = some (.int .i64 g.term) ∧ w4.cell? ⟨w.heap.size, 2, none⟩ = some (.slice Ae n ce) := ⟨HC.out w4 hr4 0, HC.out w4 hr4 1, HC.out w4 hr4 2⟩; clear hb4 hr4)
      | (go_at_call 83; refine HP1.out.mono ?_; rintro e w3 ⟨A3, c3, rfl, hb3⟩; have H3 := hid hb3; have HR3 := hid (hb3.put.tag _ _ _ _ HX.out.2.2.1 (by decide)); have e3 : w3.cell? ⟨w.heap.size, 0, none⟩ = some (.int .i64 g.base) ∧ w3.cell? ⟨w.heap.size, 1, none⟩ = some (.int .i64 g.term) ∧ w3.cell? ⟨w.heap.size, 2, none⟩ = some (.slice Ae n ce) := ⟨HC.out w3 HR3.out 0, HC.out w3 HR3.out 1, HC.out w3 HR3.out 2⟩;
         have HP2 := hid (putEs_any B A3 c3 (l ++ encs [g.base, g.term]) (q + 8 * 2) hb3.len g.es n HK.out.1 hnn HK.out.2.1 (by have := HK.out.2.2.1; omega) B' HK.out.2.2.2.1 Ae ce w3 hb3.own hb3.base (HX.out.2.1.below (hb3.put.bel.mono HK.out.2.2.2.1)) q2 (by have := HK.out.2.2.2.2; omega)); clear hb3))
  all_goals
    have HF : Hid (Bq B w w4 A4 c4 (l ++ encLg g) q2) := hid (by
      have h := H4.out
      rw [HE.out] at h
      exact ⟨h.own, h.len, HX.out.1.put.trans (H3.out.put.trans h.put), h.base⟩)
    clear h0 h1 h2 g0 g1 g2 e3 e4
    go_wp2_with fail
    go_ret
    exact ⟨A4, c4, rfl, HF.out⟩
end Go.Proofs.Ytaeoccpjdjafnaa.Im
namespace Go.Proofs.Ytaeoccpjdjafnaa.Im
open Go.RowKit
open Rl (En Lg)
open Qu (Cf)
open Pk (enc encs)
set_option maxRecDepth 100000
set_option linter.unusedVariables false
attribute [local go_sem ↓] loadAt_hard storeAt_hard loadAt_vote storeAt_vote loadAt_change storeAt_change
structure Sz (p : Pt) : Prop where
  e : p.log.es.length ≤ 1000000
  d : ∀ e ∈ p.log.es, e.d.length ≤ 1000000000
  o : p.cf.old.length ≤ 1000000
  n : p.cf.new.length ≤ 1000000
  l : p.cf.lrn.length ≤ 1000000
  s : p.sn.length ≤ 1000000000
theorem encPt_length (p : Pt) : (encPt p).length = (24 + (p.log.es.flatMap encE).length) + (8 + 8 * p.cf.old.length + (8 + 8 * p.cf.new.length) + (8 + 8 * p.cf.lrn.length)) + (8 + p.sn.length) := by
  unfold encPt
  rw [List.length_append, List.length_append, encLg_length, encCf_length]
  unfold encB confLen
  simp [Pk.enc_length]
theorem encH_length (h : Hd) : (encH h).length = 24 + (encPt h.p).length := by unfold encH; simp [Pk.enc_length]; omega
theorem encs_three (a b c : Int) : encs [a, b, c] = (enc a ++ enc b) ++ enc c := by simp [encs]
theorem loadAt_log3 (w : World) (b o : Nat) (x0 x1 x2 : Value) (h0 : w.cell? ⟨b, o, none⟩ = some x0) (h1 : w.cell? ⟨b, o + 1, none⟩ = some x1) (h2 : w.cell? ⟨b, o + 2, none⟩ = some x2) : (Instr.loadAt 28 (.pointer (some ⟨b, o, none⟩))).run Try.prog w = .ok (.agg #[x0, x1, x2]) w :=
  run_loadAt_mid w b o 28 [x0, x1, x2] _ (fun j v hv => by
    match j, hv with
    | 0, hv => simp at hv; rw [← hv]; exact h0
    | 1, hv => simp at hv; rw [← hv]; exact h1
    | 2, hv => simp at hv; rw [← hv]; exact h2
    | j + 3, hv => simp at hv) Try.underlying28 rfl (by kernel_rfl)
theorem loadAt_conf3c (w : World) (b o : Nat) (x0 x1 x2 : Value) (h0 : w.cell? ⟨b, o, none⟩ = some x0) (h1 : w.cell? ⟨b, o + 1, none⟩ = some x1) (h2 : w.cell? ⟨b, o + 2, none⟩ = some x2) : (Instr.loadAt 31 (.pointer (some ⟨b, o, none⟩))).run Try.prog w = .ok (.agg #[x0, x1, x2]) w :=
  run_loadAt_mid w b o 31 [x0, x1, x2] _ (fun j v hv => by
    match j, hv with
    | 0, hv => simp at hv; rw [← hv]; exact h0
    | 1, hv => simp at hv; rw [← hv]; exact h1
    | 2, hv => simp at hv; rw [← hv]; exact h2
    | j + 3, hv => simp at hv) Try.underlying31 rfl (by kernel_rfl)
set_option maxHeartbeats 6400000 in
theorem putHard_any (B : Nat) (A : Option Addr) (c : Nat) (l : List Nat) (q : Nat) (hl : l.length = q) (h : Hd) (a : Ad) (hn : InI h.g ∧ InI h.t ∧ InI h.v) (B' : Nat) (hB' : B' ≤ B) (w : World) (ho : OwnsB 5 w B A c l) (hB : B ≤ w.heap.size) (hp : IsPt w B' h.p a) (hz : Sz h.p) (hT : q + (encH h).length ≤ 10000000000) (q2 : Nat) (hq2 : q + (encH h).length = q2) :
    Calls Try.prog 55 #[.slice A q c, .agg #[.int .i64 h.g, .int .i64 h.t, .int .i64 h.v, .int .i64 h.p.log.base, .int .i64 h.p.log.term, .slice a.e h.p.log.es.length a.ce, .slice a.o h.p.cf.old.length a.co, .slice a.n h.p.cf.new.length a.cn, .slice a.l h.p.cf.lrn.length a.cl, .slice a.s h.p.sn.length a.cs]] w fun e w' => Told B w (l ++ encH h) q2 e w' := by
  obtain ⟨w2, hw2⟩ : ∃ w2, w2 = (w.alloc (.cells #[.int .i64 h.g, .int .i64 h.t, .int .i64 h.v, .int .i64 h.p.log.base, .int .i64 h.p.log.term, .slice a.e h.p.log.es.length a.ce, .slice a.o h.p.cf.old.length a.co, .slice a.n h.p.cf.new.length a.cn, .slice a.l h.p.cf.lrn.length a.cl, .slice a.s h.p.sn.length a.cs] 59)).alloc (.cells #[.int .i64 h.g, .int .i64 h.t, .int .i64 h.v] 3) := ⟨_, rfl⟩
  obtain ⟨p1, p2, p3⟩ := twoNew w (.cells #[.int .i64 h.g, .int .i64 h.t, .int .i64 h.v, .int .i64 h.p.log.base, .int .i64 h.p.log.term, .slice a.e h.p.log.es.length a.ce, .slice a.o h.p.cf.old.length a.co, .slice a.n h.p.cf.new.length a.cn, .slice a.l h.p.cf.lrn.length a.cl, .slice a.s h.p.sn.length a.cs] 59) (.cells #[.int .i64 h.g, .int .i64 h.t, .int .i64 h.v] 3)
  rw [← hw2] at p1 p2 p3
  rw [encH_length, encPt_length] at hT hq2
  have HP := hid (putInts_any B A c l q hl [h.g, h.t, h.v] 3 (w.heap.size + 1) 3 rfl (fun y hy => by
    simp only [List.mem_cons, List.not_mem_nil, or_false] at hy
    rcases hy with rfl | rfl | rfl
    · exact hn.1
    · exact hn.2.1
    · exact hn.2.2) (by decide) (by omega) w2 (ho.below p1) (Nat.le_trans hB p1.size) p3)
  obtain ⟨te, hte⟩ : ∃ te, (h.p.log.es.flatMap encE).length = te := ⟨_, rfl⟩
  have HX := hid (And.intro (hp.below (p1.mono (Nat.le_trans hB' hB))) (And.intro p2 (And.intro (Putp.of p1 hB) hB')))
  have HC := hid (fun (W : World) (h' : W.heap[w.heap.size]? = some (.cells #[.int .i64 h.g, .int .i64 h.t, .int .i64 h.v, .int .i64 h.p.log.base, .int .i64 h.p.log.term, .slice a.e h.p.log.es.length a.ce, .slice a.o h.p.cf.old.length a.co, .slice a.n h.p.cf.new.length a.cn, .slice a.l h.p.cf.lrn.length a.cl, .slice a.s h.p.sn.length a.cs] 59 (0, 0))) (j : Nat) => cell_of_row W w.heap.size j _ _ (0, 0) h')
  have HZ := hid hz
  have HTE := hid hte
  rw [hte] at hT hq2
  have HTT := hid (And.intro hT hq2)
  clear p1 p2 p3 ho hl hB hp hz hte hn hT hq2 hB'
  go_enter Try.func55, Try.ntmps55
  go_wp2_with fail
  rw [← hw2]
  clear hw2
  refine HP.out.mono ?_
  rintro e w3 ⟨A3, c3, rfl, hb3⟩
  have hr3 := hb3.put.tag _ _ _ _ HX.out.2.1 (by decide)
  have b0 : Bq B w2 w3.drew A3 c3 (l ++ encs [h.g, h.t, h.v]) (q + 8 * 3) := ⟨hb3.own.drew, hb3.len, hb3.put.trans (Putp.of (Below.refl _ w3).drew hb3.base), hb3.base⟩
  have hpt := HX.out.1.below (b0.put.bel.mono HX.out.2.2.2)
  obtain ⟨q3, hq3⟩ : ∃ q3, q + 8 * 3 + (24 + te) = q3 := ⟨_, rfl⟩
  have HL := hid (putLog_any B A3 c3 (l ++ encs [h.g, h.t, h.v]) (q + 8 * 3) b0.len h.p.log hpt.num h.p.log.es.length rfl HZ.out.e HZ.out.d (by rw [HTE.out]; have := HTT.out.1; omega) B' HX.out.2.2.2 a.e a.ce w3.drew b0.own b0.base hpt.es q3 (by rw [HTE.out]; exact hq3))
  have H3 := hid (And.intro b0 (And.intro hr3 hpt))
  have HQ3 := hid hq3
  have CE : Hid (∀ W : World, W.heap[w.heap.size]? = some (.cells #[.int .i64 h.g, .int .i64 h.t, .int .i64 h.v, .int .i64 h.p.log.base, .int .i64 h.p.log.term, .slice a.e h.p.log.es.length a.ce, .slice a.o h.p.cf.old.length a.co, .slice a.n h.p.cf.new.length a.cn, .slice a.l h.p.cf.lrn.length a.cl, .slice a.s h.p.sn.length a.cs] 59 (0, 0)) → (W.cell? ⟨w.heap.size, 3, none⟩ = some (.int .i64 h.p.log.base) ∧ W.cell? ⟨w.heap.size, 4, none⟩ = some (.int .i64 h.p.log.term) ∧ W.cell? ⟨w.heap.size, 5, none⟩ = some (.slice a.e h.p.log.es.length a.ce)) ∧ (W.cell? ⟨w.heap.size, 6, none⟩ = some (.slice a.o h.p.cf.old.length a.co) ∧ W.cell? ⟨w.heap.size, 7, none⟩ = some (.slice a.n h.p.cf.new.length a.cn) ∧ W.cell? ⟨w.heap.size, 8, none⟩ = some (.slice a.l h.p.cf.lrn.length a.cl)) ∧ W.cell? ⟨w.heap.size, 9, none⟩ = some (.slice a.s h.p.sn.length a.cs)) :=
    hid fun W hW => ⟨⟨HC.out W hW 3, HC.out W hW 4, HC.out W hW 5⟩, ⟨HC.out W hW 6, HC.out W hW 7, HC.out W hW 8⟩, HC.out W hW 9⟩
  have LE : Hid (∀ W : World, W.heap[w.heap.size]? = some (.cells #[.int .i64 h.g, .int .i64 h.t, .int .i64 h.v, .int .i64 h.p.log.base, .int .i64 h.p.log.term, .slice a.e h.p.log.es.length a.ce, .slice a.o h.p.cf.old.length a.co, .slice a.n h.p.cf.new.length a.cn, .slice a.l h.p.cf.lrn.length a.cl, .slice a.s h.p.sn.length a.cs] 59 (0, 0)) → (Instr.loadAt 28 (.pointer (some ⟨w.heap.size, 3, none⟩))).run Try.prog W = .ok (.agg #[.int .i64 h.p.log.base, .int .i64 h.p.log.term, .slice a.e h.p.log.es.length a.ce]) W ∧ (Instr.loadAt 31 (.pointer (some ⟨w.heap.size, 6, none⟩))).run Try.prog W = .ok (.agg #[.slice a.o h.p.cf.old.length a.co, .slice a.n h.p.cf.new.length a.cn, .slice a.l h.p.cf.lrn.length a.cl]) W) :=
    hid fun W hW => ⟨loadAt_log3 W _ 3 _ _ _ (HC.out W hW 3) (HC.out W hW 4) (HC.out W hW 5), loadAt_conf3c W _ 6 _ _ _ (HC.out W hW 6) (HC.out W hW 7) (HC.out W hW 8)⟩
  have s0 := CE.out w3.drew hr3
  clear hb3 HP hr3 b0 hpt hq3 HC
  obtain ⟨⟨s3, s4, s5⟩, ⟨s6, s7, s8⟩, s9⟩ := s0
  go_wp2_with fail
  go_region_held3 (fun W => (W.cell? ⟨w.heap.size, 3, none⟩ = some (.int .i64 h.p.log.base) ∧ W.cell? ⟨w.heap.size, 4, none⟩ = some (.int .i64 h.p.log.term) ∧ W.cell? ⟨w.heap.size, 5, none⟩ = some (.slice a.e h.p.log.es.length a.ce)) ∧ (W.cell? ⟨w.heap.size, 6, none⟩ = some (.slice a.o h.p.cf.old.length a.co) ∧ W.cell? ⟨w.heap.size, 7, none⟩ = some (.slice a.n h.p.cf.new.length a.cn) ∧ W.cell? ⟨w.heap.size, 8, none⟩ = some (.slice a.l h.p.cf.lrn.length a.cl)) ∧ W.cell? ⟨w.heap.size, 9, none⟩ = some (.slice a.s h.p.sn.length a.cs))
    (first | exact ⟨⟨s3, s4, s5⟩, ⟨s6, s7, s8⟩, s9⟩ | exact e4 | exact e5 | exact e6 | fail)
    (first
      | (go_at_call 84; refine (HP6.out).mono ?_; rintro e w6 ⟨A6, c6, rfl, hb6⟩; have H6 := hid hb6; have e6 := CE.out w6 (hb6.put.tag _ _ _ _ HR5.out (by decide)); clear hb6)
      | (go_at_call 85; refine (HP5.out).mono ?_; rintro e w5 ⟨A5, c5, rfl, hb5⟩; have H5 := hid hb5; have hr5 := hb5.put.tag _ _ _ _ HR4.out (by decide); have HR5 := hid hr5; have e5 := CE.out w5 hr5;
          have HP6 := hid (putBlob_any B A5 c5 _ _ hb5.len B' a.s a.cs h.p.sn h.p.sn.length rfl HZ.out.s (by have := HTT.out.1; have := HQ3.out; omega) w5 hb5.own hb5.base ((H3.out.2.2.s.below (H4.out.put.bel.mono HX.out.2.2.2)).below (hb5.put.bel.mono HX.out.2.2.2)) (Nat.le_trans HX.out.2.2.2 hb5.base) H3.out.2.2.rs.2); clear hb5 hr5)
      | (go_at_call 86; refine (HL.out).mono ?_; rintro e w4 ⟨A4, c4, rfl, hb4⟩; have H4 := hid hb4; have hr4 := hb4.put.tag _ _ _ _ H3.out.2.1 (by decide); have HR4 := hid hr4; have e4 := CE.out w4 hr4;
          have HP5 := hid (putConf_any B A4 c4 _ q3 hb4.len h.p.cf a.o a.n a.l a.co a.cn a.cl (by have := HTT.out.1; have := HQ3.out; omega) w4 hb4.own hb4.base B' HX.out.2.2.2 (H3.out.2.2.o.below (hb4.put.bel.mono HX.out.2.2.2)) (H3.out.2.2.n.below (hb4.put.bel.mono HX.out.2.2.2)) (H3.out.2.2.l.below (hb4.put.bel.mono HX.out.2.2.2)) h.p.cf.old.length h.p.cf.new.length h.p.cf.lrn.length rfl rfl rfl ⟨HZ.out.o, HZ.out.n, HZ.out.l⟩); clear hb4 hr4))
  all_goals
    have HF : Hid (Bq B w w6 A6 c6 (l ++ encH h) q2) := hid (by
      have h6 := H6.out
      have e : (((l ++ encs [h.g, h.t, h.v]) ++ encLg h.p.log) ++ encCf h.p.cf) ++ encB h.p.sn = l ++ encH h := by rw [encs_three]; unfold encH encPt; simp [List.append_assoc]
      rw [e] at h6
      exact ⟨h6.own, by have := h6.len; have := HTT.out.2; have := HQ3.out; omega, HX.out.2.2.1.trans (H3.out.1.put.trans (H4.out.put.trans (H5.out.put.trans h6.put))), h6.base⟩)
    clear e4 e5 e6
    go_wp2_with fail
    go_ret
    exact ⟨A6, c6, ret_len (by have := HTT.out.2; have := HQ3.out; omega), HF.out⟩
end Go.Proofs.Ytaeoccpjdjafnaa.Im
