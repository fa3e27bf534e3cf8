/- Texts of the proof, one behind the other: ImRdI, ImRdK, ImRdL, KitEnEq, KitSame, KitEnCopy, KitLog, KitPick, Conf, CopyInts, KitIntN, KitConf, KitHard, ImRows, ImSet, ImOwnE, EntsMore, ImEachE, ImEach2, RegCalls. -/
import Derived.Test.YtaeoccpjdjafnaaGreatBaseAB
import Derived.Deep.CutRange
import Derived.StillTailTactics
import Derived.Test.YtaeoccpjdjafnaaGreatBaseAA
import Derived.Deep.QuietTactic
import Derived.BigQuiet
import Derived.Deep.RegionHeld3
import Derived.Test.YtaeoccpjdjafnaaGreatRows
import Derived.Laws.AppendOwnNone
import Derived.Lib.AppendZeros
import Derived.ArgAppend
import Derived.OwnWalk
namespace Go.Proofs.YtaeoccpjdjafnaaGreat.Im
open Go Go.RowKit
open Rl (En Lg)
open Qu (Cf)
set_option linter.unusedSectionVars false
variable [Lo]
set_option maxRecDepth 100000
set_option linter.unusedVariables false
attribute [local go_sem ↓] loadAt_hard storeAt_hard loadAt_vote storeAt_vote loadAt_change storeAt_change
def shchange : Sh := ⟨38, 40, [.g, .g, .g, .ld, (.num 0), .g, .g, .g, .ld, (.num 1), .g, .g, .g, .ld, (.num 2), .g, .g, .g, .ld, (.num 3), .g, .g, .g, .ld, (.num 4), .g, .log, .g, .conf, .g, .g, .g, .ld, .blob, .g, .vote, .agg]⟩
def cxchange (G g : Nat) (s : Pk.St) (w : World) : Cx := ⟨G, g, w.heap.size, w, 5, 4, vI s, seqS 5 s, (rdV (seqS 5 s 8)).1, 62, 17, fun pt a => cellsC ⟨⟨vI s 0, vI s 1, vI s 2, vI s 3, vI s 4, pt, (rdV (seqS 5 s 8)).1⟩, a⟩⟩
set_option maxHeartbeats 800000 in
theorem build_change (V : Nat → Int) (vt : Vt) (pt : Pt) (A : Ad) (a : Act) (w : World) (h0 : a.eval (.tmp 7) = .int .i64 (V 0)) (h1 : a.eval (.tmp 12) = .int .i64 (V 1)) (h2 : a.eval (.tmp 17) = .int .i64 (V 2)) (h3 : a.eval (.tmp 22) = .int .i64 (V 3)) (h4 : a.eval (.tmp 27) = .int .i64 (V 4)) (h5 : a.eval (.tmp 29) = .agg #[.int .i64 pt.log.base, .int .i64 pt.log.term, .slice A.e pt.log.es.length A.ce]) (h6 : a.eval (.tmp 31) = .agg #[.slice A.o pt.cf.old.length A.co, .slice A.n pt.cf.new.length A.cn, .slice A.l pt.cf.lrn.length A.cl]) (h7 : a.eval (.tmp 36) = .slice A.s pt.sn.length A.cs) (h8 : a.eval (.tmp 38) = .agg #[.int .i64 vt.x, .int .i64 vt.p, .int .i64 vt.r, .int .i64 vt.b, .int .i64 vt.v]) : (Instr.build 62 ((#[(0, .tmp 7), (1, .tmp 12), (2, .tmp 17), (3, .tmp 22), (4, .tmp 27), (5, .tmp 29), (6, .tmp 31), (7, .tmp 36), (8, .tmp 38)] : Array (Nat × Operand)).map fun (i, x) => (i, a.eval x))).run Tryz.prog w = .ok (.agg (cellsC ⟨⟨V 0, V 1, V 2, V 3, V 4, pt, vt⟩, A⟩).toArray) w := by
  generalize hρ : a.eval = ρ at *
  simp only [List.map_toArray, List.map_cons, List.map_nil, h0, h1, h2, h3, h4, h5, h6, h7, h8]
  clear h0 h1 h2 h3 h4 h5 h6 h7 h8 hρ
  go_simp
  try rfl
theorem one_change (G g : Nat) (s : Pk.St) (w : World) (pt : Pt) (a : Ad) : ((cxchange G g s w).fin pt a).toArray.all (·.oneCell') = true := by
  show (cellsC _).toArray.all _ = true
  simp [cellsC, Value.oneCell']
theorem okcchange (G g : Nat) (s : Pk.St) (hl : s.rest.length ≤ 10000000) (w : World) (hG : G < w.heap.size) : (cxchange G g s w).Ok := cx_ok _ rfl hG (show 3 ≤ 4 by decide) (.inr rfl) rfl rfl hl rfl ⟨(show 62 ≠ 170 by decide), (show 62 ≠ 144 by decide)⟩
theorem uniqchange : uniqB 5 shchange = true := by kernel_rfl
theorem okschange (G g : Nat) (s : Pk.St) (w : World) : shchange.Ok (cxchange G g s w) := ⟨Nat.le_refl _, Nat.succ_pos _, uniq_of (K := 5) uniqchange rfl⟩
set_option maxHeartbeats 1600000 in
theorem finchange (G g : Nat) (s : Pk.St) (w w2 : World) (X : Pl) (hs : s.small) (hq : Rq G g ((cxchange G g s w).s ((cxchange G g s w).K + (cxchange G g s w).nc)) w w2) (ho : OwnPt w2 w.heap.size w2.heap.size X.pt X.a) (hv : (cxchange G g s w).s ((cxchange G g s w).K + 1) = Pk.gone ∨ X.pt = ⟨(rdLg ((cxchange G g s w).s (cxchange G g s w).K)).1, (rdCf ((cxchange G g s w).s ((cxchange G g s w).K + 1))).1, (Pk.rdBlob ((cxchange G g s w).s ((cxchange G g s w).K + 2))).1⟩) :
    ∃ (x : Ch) (a : Ad), (Ending.returned (.agg (cellsC ⟨⟨vI s 0, vI s 1, vI s 2, vI s 3, vI s 4, X.pt, (rdV (seqS 5 s 8)).1⟩, X.a⟩).toArray)) = .returned (.agg #[.int .i64 x.k, .int .i64 x.g, .int .i64 x.t, .int .i64 x.v, .int .i64 x.f, .int .i64 x.p.log.base, .int .i64 x.p.log.term, .slice a.e x.p.log.es.length a.ce, .slice a.o x.p.cf.old.length a.co, .slice a.n x.p.cf.new.length a.cn, .slice a.l x.p.cf.lrn.length a.cl, .slice a.s x.p.sn.length a.cs, .int .i64 x.a.x, .int .i64 x.a.p, .int .i64 x.a.r, .int .i64 x.a.b, .int .i64 x.a.v]) ∧ OwnPt w2 w.heap.size w2.heap.size x.p a ∧ ((InInt x.k ∧ InInt x.g ∧ InInt x.t ∧ InInt x.v ∧ InInt x.f) ∧ okV x.a) ∧ Rq G g (rdC s).2 w w2 ∧ ((rdC s).2 = Pk.gone ∨ x = (rdC s).1) := by
  have e1 : (cxchange G g s w).s ((cxchange G g s w).K + (cxchange G g s w).nc) = stV 5 s := by dsimp only [cxchange]; exact seqS_4 5 s
  have e2 : (cxchange G g s w).s ((cxchange G g s w).K + 1) = stL 5 s := by dsimp only [cxchange]; exact seqS_1 5 s
  have e3 : (cxchange G g s w).s ((cxchange G g s w).K + 2) = stC 5 s := by dsimp only [cxchange]; exact seqS_2 5 s
  have e4 : (cxchange G g s w).s (cxchange G g s w).K = itI s 5 := by dsimp only [cxchange]; exact seqS_le (Nat.le_refl _)
  rw [e1] at hq
  rw [e2, e3, e4] at hv
  have e5 : seqS 5 s 8 = stB 5 s := seqS_3 5 s
  rw [e5]
  clear e1 e2 e3 e4 e5
  refine ⟨⟨vI s 0, vI s 1, vI s 2, vI s 3, vI s 4, X.pt, (rdV (stB 5 s)).1⟩, X.a, rfl, ho, ⟨⟨vI_in s hs 0, vI_in s hs 1, vI_in s hs 2, vI_in s hs 3, vI_in s hs 4⟩, rdV_good _ (stB_small hs)⟩, by rw [(rdC_eq s).2]; exact hq, ?_⟩
  rw [(rdC_eq s).1, (rdC_eq s).2]
  rcases hv with e | e
  · exact .inl (gone_V e).2
  · exact .inr (by rw [e])
set_option maxHeartbeats 3200000 in
theorem rchange_any (G g : Nat) (s : Pk.St) (hl : s.rest.length ≤ 10000000) (w : World) (h : Rt w G g s) :
    Calls Tryz.prog 118 #[.pointer (some ⟨G, 0, none⟩)] w fun e w' => ∃ (x : Ch) (a : Ad), e = .returned (.agg #[.int .i64 x.k, .int .i64 x.g, .int .i64 x.t, .int .i64 x.v, .int .i64 x.f, .int .i64 x.p.log.base, .int .i64 x.p.log.term, .slice a.e x.p.log.es.length a.ce, .slice a.o x.p.cf.old.length a.co, .slice a.n x.p.cf.new.length a.cn, .slice a.l x.p.cf.lrn.length a.cl, .slice a.s x.p.sn.length a.cs, .int .i64 x.a.x, .int .i64 x.a.p, .int .i64 x.a.r, .int .i64 x.a.b, .int .i64 x.a.v]) ∧ OwnPt w' w.heap.size w'.heap.size x.p a ∧ ((InInt x.k ∧ InInt x.g ∧ InInt x.t ∧ InInt x.v ∧ InInt x.f) ∧ okV x.a) ∧ Rq G g (rdC s).2 w w' ∧ ((rdC s).2 = Pk.gone ∨ x = (rdC s).1) := by
  have hC := okcchange G g s hl w h.lt
  have hS := okschange G g s w
  obtain ⟨w1, hw1⟩ : ∃ w1, w1 = w.alloc (.cells #[.int .i64 0, .int .i64 0, .int .i64 0, .int .i64 0, .int .i64 0, .int .i64 0, .int .i64 0, .slice none 0 0, .slice none 0 0, .slice none 0 0, .slice none 0 0, .slice none 0 0, .int .i64 0, .int .i64 0, .int .i64 0, .int .i64 0, .int .i64 0] 62) := ⟨_, rfl⟩
  obtain ⟨p1, p0⟩ := Sp.start h w1 hw1
  have hI : Ir (cxchange G g s w) shchange (Array.replicate 38 false) ⟨#[.pointer (some ⟨G, 0, none⟩), undef, .pointer (some ⟨w.heap.size, 0, none⟩), undef, undef, undef, undef, undef, undef, undef, undef, undef, undef, undef, undef, undef, undef, undef, undef, undef, undef, undef, undef, undef, undef, undef, undef, undef, undef, undef, undef, undef, undef, undef, undef, undef, undef, undef, undef, undef], []⟩ w1.drew := ir_start (C := cxchange G g s w) (S := shchange) hC rfl rfl rfl rfl rfl rfl p1
  have HG := hid (And.intro (hl) h)
  have HS : Hid (s.small) := hid h.ro.rdr.small
  clear p1 p0 h hl
  go_enter Tryz.func118, Tryz.ntmps118
  go_wp2_with fail
  rw [← hw1]
  clear hw1
  refine region_reads (C := cxchange G g s w) (S := shchange) rfl rfl (by decide) (by kernel_rfl) hI ?arms ?he
  case arms =>
    clear hI
    exact ⟨fun listed a w h hu ha => ir_move hS h 0 _ rfl rfl rfl rfl (by decide) rfl,
      fun listed a w h hu ha => ir_nil hS h 1 0 _ rfl rfl rfl rfl (by decide) (by decide) rfl rfl (ha ⟨0, .data⟩ (by simp) rfl),
      fun listed a w h hu ha => ir_fad hS h 2 1 _ rfl rfl rfl rfl (by decide) (by decide) rfl rfl (ha ⟨1, .data⟩ (by simp) rfl),
      fun listed a w h hu ha => ir_load hC hS h 3 2 _ rfl rfl rfl rfl (by decide) (by decide) rfl rfl (ha ⟨2, .data⟩ (by simp) rfl),
      fun listed a w h hu ha => ir_int hC hS h 4 3 0 _ rfl rfl rfl rfl (by decide) (by decide) rfl (show 0 < 5 by decide) rfl (ha ⟨3, .data⟩ (by simp) rfl) hu (.inl rfl),
      fun listed a w h hu ha => ir_move hS h 5 _ rfl rfl rfl rfl (by decide) rfl,
      fun listed a w h hu ha => ir_nil hS h 6 5 _ rfl rfl rfl rfl (by decide) (by decide) rfl rfl (ha ⟨5, .data⟩ (by simp) rfl),
      fun listed a w h hu ha => ir_fad hS h 7 6 _ rfl rfl rfl rfl (by decide) (by decide) rfl rfl (ha ⟨6, .data⟩ (by simp) rfl),
      fun listed a w h hu ha => ir_load hC hS h 8 7 _ rfl rfl rfl rfl (by decide) (by decide) rfl rfl (ha ⟨7, .data⟩ (by simp) rfl),
      fun listed a w h hu ha => ir_int hC hS h 9 8 1 _ rfl rfl rfl rfl (by decide) (by decide) rfl (show 1 < 5 by decide) rfl (ha ⟨8, .data⟩ (by simp) rfl) hu (.inr ⟨4, by decide, rfl, (ha ⟨4, .chain⟩ (by simp) rfl)⟩),
      fun listed a w h hu ha => ir_move hS h 10 _ rfl rfl rfl rfl (by decide) rfl,
      fun listed a w h hu ha => ir_nil hS h 11 10 _ rfl rfl rfl rfl (by decide) (by decide) rfl rfl (ha ⟨10, .data⟩ (by simp) rfl),
      fun listed a w h hu ha => ir_fad hS h 12 11 _ rfl rfl rfl rfl (by decide) (by decide) rfl rfl (ha ⟨11, .data⟩ (by simp) rfl),
      fun listed a w h hu ha => ir_load hC hS h 13 12 _ rfl rfl rfl rfl (by decide) (by decide) rfl rfl (ha ⟨12, .data⟩ (by simp) rfl),
      fun listed a w h hu ha => ir_int hC hS h 14 13 2 _ rfl rfl rfl rfl (by decide) (by decide) rfl (show 2 < 5 by decide) rfl (ha ⟨13, .data⟩ (by simp) rfl) hu (.inr ⟨9, by decide, rfl, (ha ⟨9, .chain⟩ (by simp) rfl)⟩),
      fun listed a w h hu ha => ir_move hS h 15 _ rfl rfl rfl rfl (by decide) rfl,
      fun listed a w h hu ha => ir_nil hS h 16 15 _ rfl rfl rfl rfl (by decide) (by decide) rfl rfl (ha ⟨15, .data⟩ (by simp) rfl),
      fun listed a w h hu ha => ir_fad hS h 17 16 _ rfl rfl rfl rfl (by decide) (by decide) rfl rfl (ha ⟨16, .data⟩ (by simp) rfl),
      fun listed a w h hu ha => ir_load hC hS h 18 17 _ rfl rfl rfl rfl (by decide) (by decide) rfl rfl (ha ⟨17, .data⟩ (by simp) rfl),
      fun listed a w h hu ha => ir_int hC hS h 19 18 3 _ rfl rfl rfl rfl (by decide) (by decide) rfl (show 3 < 5 by decide) rfl (ha ⟨18, .data⟩ (by simp) rfl) hu (.inr ⟨14, by decide, rfl, (ha ⟨14, .chain⟩ (by simp) rfl)⟩),
      fun listed a w h hu ha => ir_move hS h 20 _ rfl rfl rfl rfl (by decide) rfl,
      fun listed a w h hu ha => ir_nil hS h 21 20 _ rfl rfl rfl rfl (by decide) (by decide) rfl rfl (ha ⟨20, .data⟩ (by simp) rfl),
      fun listed a w h hu ha => ir_fad hS h 22 21 _ rfl rfl rfl rfl (by decide) (by decide) rfl rfl (ha ⟨21, .data⟩ (by simp) rfl),
      fun listed a w h hu ha => ir_load hC hS h 23 22 _ rfl rfl rfl rfl (by decide) (by decide) rfl rfl (ha ⟨22, .data⟩ (by simp) rfl),
      fun listed a w h hu ha => ir_int hC hS h 24 23 4 _ rfl rfl rfl rfl (by decide) (by decide) rfl (show 4 < 5 by decide) rfl (ha ⟨23, .data⟩ (by simp) rfl) hu (.inr ⟨19, by decide, rfl, (ha ⟨19, .chain⟩ (by simp) rfl)⟩),
      fun listed a w h hu ha => ir_move hS h 25 _ rfl rfl rfl rfl (by decide) rfl,
      fun listed a w h hu ha => ir_log hC hS h 26 25 24 _ rfl rfl rfl rfl (by decide) (by decide) rfl rfl (ha ⟨25, .data⟩ (by simp) rfl) hu (by decide) rfl (ha ⟨24, .chain⟩ (by simp) rfl),
      fun listed a w h hu ha => ir_move hS h 27 _ rfl rfl rfl rfl (by decide) rfl,
      fun listed a w h hu ha => ir_conf hC hS h 28 27 26 _ rfl rfl rfl rfl (by decide) (by decide) rfl rfl (ha ⟨27, .data⟩ (by simp) rfl) hu (by decide) rfl (ha ⟨26, .chain⟩ (by simp) rfl),
      fun listed a w h hu ha => ir_move hS h 29 _ rfl rfl rfl rfl (by decide) rfl,
      fun listed a w h hu ha => ir_nil hS h 30 29 _ rfl rfl rfl rfl (by decide) (by decide) rfl rfl (ha ⟨29, .data⟩ (by simp) rfl),
      fun listed a w h hu ha => ir_fad hS h 31 30 _ rfl rfl rfl rfl (by decide) (by decide) rfl rfl (ha ⟨30, .data⟩ (by simp) rfl),
      fun listed a w h hu ha => ir_load hC hS h 32 31 _ rfl rfl rfl rfl (by decide) (by decide) rfl rfl (ha ⟨31, .data⟩ (by simp) rfl),
      fun listed a w h hu ha => ir_blob hC hS h 33 32 28 _ rfl rfl rfl rfl (by decide) (by decide) rfl rfl (ha ⟨32, .data⟩ (by simp) rfl) hu (by decide) rfl (ha ⟨28, .chain⟩ (by simp) rfl),
      fun listed a w h hu ha => ir_move hS h 34 _ rfl rfl rfl rfl (by decide) rfl,
      fun listed a w h hu ha => ir_vote hC hS h 35 34 33 _ rfl rfl rfl rfl rfl (by decide) (by decide) rfl rfl (ha ⟨34, .data⟩ (by simp) rfl) hu (by decide) rfl (ha ⟨33, .chain⟩ (by simp) rfl),
      fun listed a w h hu ha => ir_build hC hS h 36 35 62 _ _ rfl rfl rfl rfl (by decide) rfl (by decide) rfl (ha ⟨35, .data⟩ (by simp) rfl) (fun X p hs => by
      obtain ⟨h0, h1, h2, h3, h4, h5, h6, h7, h8⟩ : a.eval (.tmp 7) = .int .i64 (vI s 0) ∧ a.eval (.tmp 12) = .int .i64 (vI s 1) ∧ a.eval (.tmp 17) = .int .i64 (vI s 2) ∧ a.eval (.tmp 22) = .int .i64 (vI s 3) ∧ a.eval (.tmp 27) = .int .i64 (vI s 4) ∧ a.eval (.tmp 29) = .agg #[.int .i64 X.pt.log.base, .int .i64 X.pt.log.term, .slice X.a.e X.pt.log.es.length X.a.ce] ∧ a.eval (.tmp 31) = .agg #[.slice X.a.o X.pt.cf.old.length X.a.co, .slice X.a.n X.pt.cf.new.length X.a.cn, .slice X.a.l X.pt.cf.lrn.length X.a.cl] ∧ a.eval (.tmp 36) = .slice X.a.s X.pt.sn.length X.a.cs ∧ a.eval (.tmp 38) = .agg #[.int .i64 ((rdV (seqS 5 s 8)).1).x, .int .i64 ((rdV (seqS 5 s 8)).1).p, .int .i64 ((rdV (seqS 5 s 8)).1).r, .int .i64 ((rdV (seqS 5 s 8)).1).b, .int .i64 ((rdV (seqS 5 s 8)).1).v] := ⟨hs 4 (by decide) (ha ⟨4, .data⟩ (by simp) rfl), hs 9 (by decide) (ha ⟨9, .data⟩ (by simp) rfl), hs 14 (by decide) (ha ⟨14, .data⟩ (by simp) rfl), hs 19 (by decide) (ha ⟨19, .data⟩ (by simp) rfl), hs 24 (by decide) (ha ⟨24, .data⟩ (by simp) rfl), hs 26 (by decide) (ha ⟨26, .data⟩ (by simp) rfl), hs 28 (by decide) (ha ⟨28, .data⟩ (by simp) rfl), hs 33 (by decide) (ha ⟨33, .data⟩ (by simp) rfl), hs 35 (by decide) (ha ⟨35, .data⟩ (by simp) rfl)⟩
      exact build_change (vI s) (rdV (seqS 5 s 8)).1 X.pt X.a a w h0 h1 h2 h3 h4 h5 h6 h7 h8),
      fun listed a w h hu ha => ir_store hC hS h 37 36 _ rfl rfl rfl rfl rfl (by decide) rfl (ha ⟨36, .data⟩ (by simp) rfl) (fun _ _ => rfl) (one_change G g s _) info_change,
      trivial⟩
  case he =>
    clear hI
    intro listed a w2 X p hJ hall
    obtain ⟨hrow, hrq, hown, hval⟩ := jr_end hC hJ hall 35 37 rfl rfl (by decide)
    have HR := hid hrow
    have HQ := hid (And.intro hrq (And.intro hown hval))
    have ht2 := hJ.t2
    have hts := hJ.size
    have ht2' : (a.tmps[2]?).getD undef = .pointer (some ⟨w.heap.size, 0, none⟩) := by rw [← Array.getD_eq_getD_getElem?]; exact ht2
    obtain ⟨tmps, defers⟩ := a
    obtain rfl : defers = [] := hJ.defers
    clear hJ hall hrow hrq hown hval
    have hl := act_list tmps 40 hts
    have h2 : (List.range 40).map (fun i => (tmps[i]?).getD undef) = [(tmps[0]?).getD undef, (tmps[1]?).getD undef, (tmps[2]?).getD undef, (tmps[3]?).getD undef, (tmps[4]?).getD undef, (tmps[5]?).getD undef, (tmps[6]?).getD undef, (tmps[7]?).getD undef, (tmps[8]?).getD undef, (tmps[9]?).getD undef, (tmps[10]?).getD undef, (tmps[11]?).getD undef, (tmps[12]?).getD undef, (tmps[13]?).getD undef, (tmps[14]?).getD undef, (tmps[15]?).getD undef, (tmps[16]?).getD undef, (tmps[17]?).getD undef, (tmps[18]?).getD undef, (tmps[19]?).getD undef, (tmps[20]?).getD undef, (tmps[21]?).getD undef, (tmps[22]?).getD undef, (tmps[23]?).getD undef, (tmps[24]?).getD undef, (tmps[25]?).getD undef, (tmps[26]?).getD undef, (tmps[27]?).getD undef, (tmps[28]?).getD undef, (tmps[29]?).getD undef, (tmps[30]?).getD undef, (tmps[31]?).getD undef, (tmps[32]?).getD undef, (tmps[33]?).getD undef, (tmps[34]?).getD undef, (tmps[35]?).getD undef, (tmps[36]?).getD undef, (tmps[37]?).getD undef, (tmps[38]?).getD undef, (tmps[39]?).getD undef] := by kernel_rfl
    rw [h2, show (tmps[2]?).getD undef = .pointer (some ⟨w.heap.size, 0, none⟩) from ht2'] at hl
    clear h2 ht2 ht2' hts
    generalize (tmps[0]?).getD undef = x0 at hl
    generalize (tmps[1]?).getD undef = x1 at hl
    generalize (tmps[3]?).getD undef = x3 at hl
    generalize (tmps[4]?).getD undef = x4 at hl
    generalize (tmps[5]?).getD undef = x5 at hl
    generalize (tmps[6]?).getD undef = x6 at hl
    generalize (tmps[7]?).getD undef = x7 at hl
    generalize (tmps[8]?).getD undef = x8 at hl
    generalize (tmps[9]?).getD undef = x9 at hl
    generalize (tmps[10]?).getD undef = x10 at hl
    generalize (tmps[11]?).getD undef = x11 at hl
    generalize (tmps[12]?).getD undef = x12 at hl
    generalize (tmps[13]?).getD undef = x13 at hl
    generalize (tmps[14]?).getD undef = x14 at hl
    generalize (tmps[15]?).getD undef = x15 at hl
    generalize (tmps[16]?).getD undef = x16 at hl
    generalize (tmps[17]?).getD undef = x17 at hl
    generalize (tmps[18]?).getD undef = x18 at hl
    generalize (tmps[19]?).getD undef = x19 at hl
    generalize (tmps[20]?).getD undef = x20 at hl
    generalize (tmps[21]?).getD undef = x21 at hl
    generalize (tmps[22]?).getD undef = x22 at hl
    generalize (tmps[23]?).getD undef = x23 at hl
    generalize (tmps[24]?).getD undef = x24 at hl
    generalize (tmps[25]?).getD undef = x25 at hl
    generalize (tmps[26]?).getD undef = x26 at hl
    generalize (tmps[27]?).getD undef = x27 at hl
    generalize (tmps[28]?).getD undef = x28 at hl
    generalize (tmps[29]?).getD undef = x29 at hl
    generalize (tmps[30]?).getD undef = x30 at hl
    generalize (tmps[31]?).getD undef = x31 at hl
    generalize (tmps[32]?).getD undef = x32 at hl
    generalize (tmps[33]?).getD undef = x33 at hl
    generalize (tmps[34]?).getD undef = x34 at hl
    generalize (tmps[35]?).getD undef = x35 at hl
    generalize (tmps[36]?).getD undef = x36 at hl
    generalize (tmps[37]?).getD undef = x37 at hl
    generalize (tmps[38]?).getD undef = x38 at hl
    generalize (tmps[39]?).getD undef = x39 at hl
    subst hl
    go_wp2_with fail
    refine bodyPost_ret (results_cell_row rfl _ _ w.heap.size _ _ _ _ rfl HR.out Tryz.underlying62 rfl (by rw [info_change]; rfl)) rfl ?_
    exact finchange G g s w w2 X HS.out HQ.out.1 HQ.out.2.1 HQ.out.2.2
end Go.Proofs.YtaeoccpjdjafnaaGreat.Im
namespace Go.Proofs.YtaeoccpjdjafnaaGreat.Im
open Go.RowKit
open Rl (En Lg)
open Qu (Cf)
set_option linter.unusedSectionVars false
variable [Lo]
set_option maxRecDepth 100000
set_option linter.unusedVariables false

theorem cellsC_fits (q : Cq) : (cellsC q).length = 17 := rfl
theorem cellsC_one (q : Cq) : ∀ u ∈ cellsC q, u.oneCell' = true := by
  intro u hu
  simp [cellsC] at hu
  rcases hu with rfl | rfl | rfl | rfl | rfl | rfl | rfl | rfl | rfl | rfl | rfl | rfl | rfl | rfl | rfl | rfl | rfl <;> rfl
theorem info_change3 : (Tryz.prog.info? 62).map (fun i => (i.zero, i.size, i.bytes)) = some (some (.agg #[.int .i64 0, .int .i64 0, .int .i64 0, .int .i64 0, .int .i64 0, .int .i64 0, .int .i64 0, .slice none 0 0, .slice none 0 0, .slice none 0 0, .slice none 0 0, .slice none 0 0, .int .i64 0, .int .i64 0, .int .i64 0, .int .i64 0, .int .i64 0]), 17, 216) := by kernel_rfl
/-- changes that the call has made, their parts with them, in blocks from B on, below N -/
structure OwnCs (w : World) (B N : Nat) (A : Option Addr) (c : Nat) (M : List Cq) : Prop where
  row : RowIn cellsC 17 62 w (Bl B N) A c M
  pts : OwnPts w B N (M.map fun q => (q.c.p, q.a))
  num : ∀ q ∈ M, (InInt q.c.k ∧ InInt q.c.g ∧ InInt q.c.t ∧ InInt q.c.v ∧ InInt q.c.f) ∧ okV q.c.a
namespace OwnCs
variable {w w' : World} {B B' N N' : Nat} {A : Option Addr} {c : Nat} {M : List Cq}
theorem nil (w : World) {B N : Nat} (h : B ≤ N) : OwnCs w B N none 0 [] := ⟨RowIn.nil cellsC_fits _ _ _, h, fun q hq => by cases hq⟩
theorem kq (h : OwnCs w B N A c M) (hk : Kq w.heap.size w w') : OwnCs w' B N A c M := ⟨hk.rowIn h.row (by decide) (by decide), h.pts.kp_ (Kp.ofKq hk parts_kq), h.num⟩
theorem keep {S : Nat → Prop} (h : OwnCs w B N A c M) (ht : Turned S w w') (hs : ∀ k, S k → ¬ Bl B N k) : OwnCs w' B N A c M := ⟨h.row.keep ht (fun k hk hS => hs k hS (h.row.blk k hk)), h.pts.keep_ ht hs, h.num⟩
theorem below (h : OwnCs w B N A c M) (hb : Below N w w') : OwnCs w' B N A c M :=
  h.keep (S := fun k => N ≤ k) ⟨hb.os, hb.tape, hb.output, hb.size, fun k _ hn => hb.block k (by omega)⟩ (fun k hk hB => by have := hB.2; omega)
theorem wide (h : OwnCs w B N A c M) (hB : B' ≤ B) (hN : N ≤ N') : OwnCs w B' N' A c M := ⟨h.row.mono (fun k hk => ⟨Nat.le_trans hB (h.row.blk k hk).1, Nat.lt_of_lt_of_le (h.row.blk k hk).2 hN⟩), h.pts.wide hB hN, h.num⟩
theorem reads (h : OwnCs w B N A c M) : IsCs w N A M := by
  refine ⟨⟨fun k hk => ?_⟩, fun q hq => ?_, h.num⟩
  · obtain ⟨g, hA, hg, hF, hc, _⟩ := h.row.get k hk
    refine ⟨g, 0, hA, hF.2, fun i hi j v hv => ?_⟩
    obtain ⟨g', hA', _, _, hc', _⟩ := h.row.get i hi
    obtain rfl : g = g' := by rw [hA] at hA'; injection hA' with e; injection e
    have hj : j < 17 := (List.getElem?_eq_some_iff.1 hv).1
    rw [Nat.zero_add, hc' j hj]; exact hv
  · exact (OwnPts.mem h.pts (List.mem_map.2 ⟨q, hq, rfl⟩)).reads
end OwnCs
theorem rdC_short (s : Pk.St) : (rdC s).2.rest.length ≤ s.rest.length := (codC 100000000 (by decide)).short s
theorem rdC_gone : (rdC Pk.gone).2 = Pk.gone := (codC 100000000 (by decide)).gone
/-- amid the loop: what has been read, what is left to read -/
structure LpC (w : World) (G g : Nat) (s : Pk.St) (A : Option Addr) (c : Nat) (L : List Cq) (m : Int) (s' : Pk.St) (W : World) : Prop where
  rq : Rq G g s' w W
  own : OwnCs W w.heap.size W.heap.size A c L
  st : (rdN rdC m.toNat s').2 = (rdL rdC s).2
  val : s' = Pk.gone ∨ L.map (·.c) ++ (rdN rdC m.toNat s').1 = (rdL rdC s).1
  few : 0 < m → s'.bad = false → (L.length : Int) + m ≤ 1250000
  rest : s'.rest.length ≤ 10000000
theorem LpC.done {w W : World} {G g c : Nat} {s s' : Pk.St} {A : Option Addr} {L : List Cq} {m : Int} (h : LpC w G g s A c L m s' W) (he : rdN rdC m.toNat s' = ([], s')) :
    OwnCs W w.heap.size W.heap.size A c L ∧ Rq G g (rdL rdC s).2 w W ∧ ((rdL rdC s).2 = Pk.gone ∨ L.map (·.c) = (rdL rdC s).1) := by
  have h1 := h.st
  have h2 := h.val
  rw [he] at h1 h2
  have h1' : s' = (rdL rdC s).2 := h1
  rw [List.append_nil] at h2
  exact ⟨h.own, h1' ▸ h.rq, by rw [← h1']; exact h2⟩
theorem lpC_step {w wr w4 w5 w6 : World} {G g c1 c6 : Nat} {s s' s2 : Pk.St} {A1 A6 : Option Addr} {L : List Cq} {m : Int} {x : Ch} {a : Ad} (h : LpC w G g s A1 c1 L m s' wr) (hG : G < w.heap.size) (hb5 : Below w4.heap.size w4 w5) (ho : OwnPt w4 wr.heap.size w4.heap.size x.p a) (hn : (InInt x.k ∧ InInt x.g ∧ InInt x.t ∧ InInt x.v ∧ InInt x.f) ∧ okV x.a) (hr : Rq G g s2 wr w4) (hrow5 : RowIn cellsC 17 62 w5 (Bl w.heap.size wr.heap.size) A1 c1 L)
    {n5 : Nat} (hn5 : w5.heap.size = n5) (hrow6 : RowIn cellsC 17 62 w6 (fun k => Bl w.heap.size wr.heap.size k ∨ n5 ≤ k) A6 c6 (L ++ [⟨x, a⟩])) (hg6 : w5.grownBy w6 (Go.Proofs.YtaeoccpjdjafnaaGreat.blk A1)) (hst : (rdN rdC (m - 1).toNat s2).2 = (rdL rdC s).2) (hval : s2 = Pk.gone ∨ (L ++ [(⟨x, a⟩ : Cq)]).map (·.c) ++ (rdN rdC (m - 1).toNat s2).1 = (rdL rdC s).1) (hfew : 0 < m - 1 → s2.bad = false → (((L ++ [(⟨x, a⟩ : Cq)]).length : Nat) : Int) + (m - 1) ≤ 1250000) (hl2 : s2.rest.length ≤ 10000000) :
    LpC w G g s A6 c6 (L ++ [⟨x, a⟩]) (m - 1) s2 w6 := by
  obtain ⟨⟨g', hrt4, hgg⟩, hk4⟩ := hr
  have hws : w.heap.size ≤ wr.heap.size := h.rq.2.size
  have hw4 := hk4.size
  have hw5 := hb5.size
  have hw6 := hg6.size
  have hrt5 := hrt4.below hb5
  have hrt6 : Rt w6 G g' s2 := hrt5.grow hrow5 (by decide) (fun k hk => by have := hk.1; omega) hg6
  have hkq5 : Kq w.heap.size w w5 := (h.rq.2.trans (hk4.mono hws)).trans ((Kq.ofBelow hb5).mono (by omega))
  have hkq6 : Kq w.heap.size w w6 := hkq5.trans (Kq.grow hrow5 (fun k hk => hk.1) hkq5.size hg6)
  have kp56 : Kp Parts w5 w6 := by
    rcases hb : Go.Proofs.YtaeoccpjdjafnaaGreat.blk A1 with _ | k
    · rw [hb] at hg6
      exact Kp.ofBelow (below_grown hg6 (Nat.le_refl _) (fun j e => by cases e))
    · rw [hb] at hg6
      obtain ⟨cur, hc⟩ := hrow5.tag hb
      exact Kp.ofGrown hc (by rintro (e | e | e) <;> exact absurd e (by decide)) hg6
  have p4 : OwnPts w4 w.heap.size w4.heap.size ((L ++ [(⟨x, a⟩ : Cq)]).map fun q => (q.c.p, q.a)) := by
    rw [List.map_append]
    exact (h.own.pts.kp_ (Kp.ofKq hk4 parts_kq)).snoc ho
  have p6 := ((p4.kp_ (Kp.ofBelow hb5)).kp_ kp56).wide (Nat.le_refl _) (show w4.heap.size ≤ w6.heap.size by omega)
  refine ⟨⟨⟨g', hrt6, hgg⟩, hkq6⟩, ⟨hrow6.mono (fun k hk => ⟨?_, hrow6.lt k hk⟩), p6, fun q hq => ?_⟩, hst, hval, hfew, hl2⟩
  · rcases hrow6.blk k hk with e | e
    · exact e.1
    · omega
  · rcases List.mem_append.1 hq with hq | hq
    · exact h.own.num q hq
    · obtain rfl := List.mem_singleton.1 hq; exact hn
set_option maxHeartbeats 3200000 in
theorem rCs_any (G g : Nat) (s : Pk.St) (hl : s.rest.length ≤ 10000000) (w : World) (h : Rt w G g s) :
    Calls Tryz.prog 117 #[.pointer (some ⟨G, 0, none⟩), .func (.func 118) #[.pointer (some ⟨G, 0, none⟩)] #[]] w fun e w' => ∃ A c n, e = .returned (.slice A n c) ∧ ∃ L : List Cq, n = L.length ∧
      OwnCs w' w.heap.size w'.heap.size A c L ∧ Rq G g (rdL rdC s).2 w w' ∧ ((rdL rdC s).2 = Pk.gone ∨ L.map (·.c) = (rdL rdC s).1) := by
  obtain ⟨i0, hi, hz0, hz1, hz2⟩ := info_parts info_change3
  have HI := hid (int_rdr g s w h.ro.rdr)
  have hin := Pk.rdInt_in s h.ro.rdr.small
  have hsh := Pk.rdInt_short s
  have H := hid h
  have HD : Hid (∀ (v : Int) (s1 : Pk.St), v = (Pk.rdInt s).1 → s1 = (Pk.rdInt s).2 → rdL rdC s = if v < 0 ∨ ((s1.rest.length / 8 : Nat) : Int) < v then ([], Pk.gone) else rdN rdC v.toNat s1) := hid (by rintro v s1 rfl rfl; rfl)
  have ST : Hid (∀ (v : Int) (s1 : Pk.St) (w1 : World), v = (Pk.rdInt s).1 → s1 = (Pk.rdInt s).2 → Rdr w1 g (Pk.rdInt s).2 → w.grownBy w1 (some g) → Rt w1 G g s1 ∧ Kq w.heap.size w w1) := hid (by
    rintro v s1 w1 rfl rfl hr hg
    exact H.out.step hr hg (fun e => by subst e; rfl))
  obtain ⟨s1, hs1⟩ : ∃ s1, s1 = (Pk.rdInt s).2 := ⟨_, rfl⟩
  obtain ⟨v, hv⟩ : ∃ v, v = (Pk.rdInt s).1 := ⟨_, rfl⟩
  rw [← hs1] at HI hsh
  rw [← hv] at HI hin
  have HD2 := hid (HD.out v s1 hv hs1)
  have ST2 : Hid (∀ (w1 : World), Rdr w1 g s1 → w.grownBy w1 (some g) → Rt w1 G g s1 ∧ Kq w.heap.size w w1) := hid (fun w1 hr hg => ST.out v s1 w1 hv hs1 (hs1 ▸ hr) hg)
  clear hs1 hv HD ST h
  have hin1 := hin.1
  have hin2 := hin.2
  have HS : Hid (s1.rest.length ≤ 10000000) := hid (by omega)
  have hs1l : s1.rest.length ≤ 10000000 := HS.out
  by_cases hneg : v < 0
  · skip
    have HF : Hid ((rdL rdC s).2 = Pk.gone) := hid (by rw [HD2.out, if_pos (by omega)])
    have hcell := H.out.cell
    clear hin hl hsh
    go_enter Tryz.func117, Tryz.ntmps117
    go_wp2_with fail
    refine HI.out.mono ?_
    rintro e w1 ⟨rfl, hR, hG⟩
    obtain ⟨hrt, hkq⟩ := ST2.out w1 hR hG
    have hc1 := hrt.cell
    have HSP := hid (spoilR_any G g 10000000 s1 HS.out w1 hrt)
    have HKQ := hid hkq
    clear hR hG hrt hkq hcell
    go_wp2_with fail
    refine HSP.out.mono ?_
    rintro e w3 ⟨rfl, hk3⟩
    have HR3 : Hid (Rq G g Pk.gone w w3) := hid ⟨hk3.at_, HKQ.out.trans (hk3.kq.mono HKQ.out.size)⟩
    clear hk3 hc1 HSP
    go_wp2_with fail
    go_loopw [5, 6] (fun i l wr => i = .int .i64 v ∧ l = .slice none 0 0 ∧ Hid (Rq G g Pk.gone w wr)) (fun _ _ _ => 0)
    case atStart => exact ⟨rfl, rfl, HR3⟩
    case round =>
      clear HR3
      obtain ⟨rfl, rfl, HR⟩ := hrel
      go_wp2_with fail
      go_ret
      rw [HF.out]
      exact ⟨none, 0, 0, rfl, [], rfl, OwnCs.nil _ HR.out.2.size, HR.out, .inl rfl⟩
  · by_cases hgt : ((s1.rest.length : Int) / 8) < v
    · skip
      have hv0 : 0 < v := by omega
      have HF : Hid ((rdL rdC s).2 = Pk.gone) := hid (by rw [HD2.out, if_pos (by omega)])
      have hcell := H.out.cell
      clear hin hl hsh
      go_enter Tryz.func117, Tryz.ntmps117
      go_wp2_with fail
      refine HI.out.mono ?_
      rintro e w1 ⟨rfl, hR, hG⟩
      obtain ⟨hrt, hkq⟩ := ST2.out w1 hR hG
      have hc1 := hrt.cell
      have HLF := hid (left_rdr g s1 w1 hR)
      have HSP := hid (spoilR_any G g 10000000 s1 HS.out w1 hrt)
      have HKQ := hid hkq
      clear hR hG hrt hkq hcell
      go_wp2_with fail
      refine HLF.out.mono ?_
      rintro e w2 ⟨rfl, rfl⟩
      go_wp2_with fail
      refine HSP.out.mono ?_
      rintro e w3 ⟨rfl, hk3⟩
      have HR3 : Hid (Rq G g Pk.gone w w3) := hid ⟨hk3.at_, HKQ.out.trans (hk3.kq.mono HKQ.out.size)⟩
      clear hk3 hc1 HSP
      go_wp2_with fail
      go_loopw [5, 6] (fun i l wr => i = .int .i64 v ∧ l = .slice none 0 0 ∧ Hid (Rq G g Pk.gone w wr)) (fun _ _ _ => 0)
      case atStart => exact ⟨rfl, rfl, HR3⟩
      case round =>
        clear HR3
        obtain ⟨rfl, rfl, HR⟩ := hrel
        obtain ⟨g', hrt, hgg⟩ := HR.out.1
        have hc := hrt.cell
        have HB : Hid (Calls Tryz.prog 148 #[.pointer (some ⟨g', 0, none⟩)] wr fun e w' => e = .returned (.bool true) ∧ wr = w') := hid (bad_rdr g' Pk.gone wr hrt.ro.rdr)
        clear hrt hgg
        go_wp2_with fail
        refine HB.out.mono ?_
        rintro e w4 ⟨rfl, rfl⟩
        go_wp2_with fail
        go_ret
        rw [HF.out]
        exact ⟨none, 0, 0, rfl, [], rfl, OwnCs.nil _ HR.out.2.size, HR.out, .inl rfl⟩
    · have hv0 : 0 ≤ v := by omega
      have START : Hid (∀ W, Rt W G g s1 → Kq w.heap.size w W → LpC w G g s none 0 [] v s1 W) := hid (fun W hr hk => ⟨⟨⟨g, hr, .inl rfl⟩, hk⟩, OwnCs.nil _ hk.size, by rw [HD2.out, if_neg (by omega)], .inr (by rw [HD2.out, if_neg (by omega)]; rfl), fun _ _ => by show ((0 : Nat) : Int) + v ≤ 1250000; omega, HS.out⟩)
      have hcell := H.out.cell
      clear hin hl hsh
      go_enter Tryz.func117, Tryz.ntmps117
      go_wp2_with fail
      refine HI.out.mono ?_
      rintro e w1 ⟨rfl, hR, hG⟩
      obtain ⟨hrt, hkq⟩ := ST2.out w1 hR hG
      have hc1 := hrt.cell
      have HLF := hid (left_rdr g s1 w1 hR)
      have HS1 := hid (START.out w1 hrt hkq)
      clear hR hG hrt hkq hcell
      go_wp2_with fail
      refine HLF.out.mono ?_
      rintro e w2 ⟨rfl, rfl⟩
      go_wp2_with fail
      go_loopw [5, 6] (fun i l wr => ∃ (m : Int) (A1 : Option Addr) (c1 q1 : Nat) (L : List Cq) (s' : Pk.St), (m ≤ 9223372036854775807 ∧ -9223372036854775808 ≤ m) ∧ i = .int .i64 m ∧ l = .slice A1 q1 c1 ∧ q1 = L.length ∧ Hid (LpC w G g s A1 c1 L m s' wr)) (fun i _ _ => (RowKit.intOf i).toNat)
      case atStart => exact ⟨v, none, 0, 0, [], s1, ⟨by omega, by omega⟩, rfl, rfl, rfl, HS1⟩
      case round =>
        clear HS1 hc1
        obtain ⟨m, A1, c1, q1, L, s', ⟨hm1, hm2⟩, rfl, rfl, hq, HL⟩ := hrel
        have HQ := hid hq
        obtain ⟨g', hrt, hgg⟩ := HL.out.rq.1
        have hc := hrt.cell
        have HB := bad_rdr g' s' wr hrt.ro.rdr
        by_cases hm : 0 < m
        · by_cases hb : s'.bad = true
          · have HF := hid (HL.out.done (rdN_bad _ _ _ hb))
            rw [hb] at HB
            replace HB := hid HB
            clear hrt hgg hb hq
            go_wp2_with fail
            refine HB.out.mono ?_
            rintro e w3 ⟨rfl, rfl⟩
            go_wp2_with fail
            go_ret
            exact ⟨A1, c1, q1, rfl, L, HQ.out, HF.out⟩
          · have hb' : s'.bad = false := by simpa using hb
            have hne : s' ≠ Pk.gone := fun e => by rw [e] at hb'; cases hb'
            obtain rfl : g' = g := by
              rcases hgg with h | h
              · exact h
              · exact absurd h hne
            rw [hb'] at HB
            replace HB := hid HB
            have HV := hid (rchange_any G g' s' HL.out.rest wr hrt)
            obtain ⟨s2, hs2⟩ : ∃ y, y = (rdC s').2 := ⟨_, rfl⟩
            have hfew := HL.out.few hm hb'
            have hq1 : q1 + 1 ≤ 10000000 := by omega
            obtain ⟨k, hk⟩ : ∃ k : Nat, m = (k : Int) + 1 := ⟨(m - 1).toNat, by omega⟩
            have HN : Hid ((rdN rdC (m - 1).toNat s2).2 = (rdL rdC s).2 ∧ ∀ x, (s2 = Pk.gone ∨ x = (rdC s').1) → (s2 = Pk.gone ∨ (L.map (·.c) ++ [x]) ++ (rdN rdC (m - 1).toNat s2).1 = (rdL rdC s).1)) := hid (by
              have h1 := HL.out.st
              have h2 := HL.out.val.resolve_left hne
              rw [show m.toNat = k + 1 by omega, rdN_one _ _ _ hb', ← hs2] at h1 h2
              rw [show (m - 1).toNat = k by omega]
              refine ⟨h1, fun x hx => hx.imp id (fun e => ?_)⟩
              rw [e, List.append_assoc]
              exact h2)
            have HW : Hid (((L.length + 1 : Nat) : Int) + (m - 1) ≤ 1250000 ∧ s2.rest.length ≤ 10000000) := hid ⟨by omega, by rw [hs2]; exact Nat.le_trans (rdC_short s') HL.out.rest⟩
            have HK := hid hq1
            rw [← hs2] at HV
            clear hrt hgg hb hb' hq hs2 hfew hk hq1 hne
            go_wp2_with fail
            refine HB.out.mono ?_
            rintro e w3 ⟨rfl, rfl⟩
            go_wp2_with fail
            refine HV.out.mono ?_
            rintro e w4 ⟨x, a, rfl, ho4, hn4, hr4, hx4⟩
            have hk4 := hr4.2
            have hrow4 := hk4.rowIn HL.out.own.row (by decide) (by decide)
            have hb5 : Below w4.heap.size w4 (w4.alloc (.cells #[.int .i64 x.k, .int .i64 x.g, .int .i64 x.t, .int .i64 x.v, .int .i64 x.f, .int .i64 x.p.log.base, .int .i64 x.p.log.term, .slice a.e x.p.log.es.length a.ce, .slice a.o x.p.cf.old.length a.co, .slice a.n x.p.cf.new.length a.cn, .slice a.l x.p.cf.lrn.length a.cl, .slice a.s x.p.sn.length a.cs, .int .i64 x.a.x, .int .i64 x.a.p, .int .i64 x.a.r, .int .i64 x.a.b, .int .i64 x.a.v] 62)) := (Below.refl _ w4).alloc (Nat.le_refl _) _
            have hrow5 := hrow4.below hb5
            have hcells : ∀ k, k < 17 → (w4.alloc (.cells #[.int .i64 x.k, .int .i64 x.g, .int .i64 x.t, .int .i64 x.v, .int .i64 x.f, .int .i64 x.p.log.base, .int .i64 x.p.log.term, .slice a.e x.p.log.es.length a.ce, .slice a.o x.p.cf.old.length a.co, .slice a.n x.p.cf.new.length a.cn, .slice a.l x.p.cf.lrn.length a.cl, .slice a.s x.p.sn.length a.cs, .int .i64 x.a.x, .int .i64 x.a.p, .int .i64 x.a.r, .int .i64 x.a.b, .int .i64 x.a.v] 62)).cell? ((⟨w4.heap.size, 0, none⟩ : Addr).add k) = (cellsC ⟨x, a⟩)[k]? := fun k hk => by
              rw [add_off, Nat.zero_add, row_cell (heap_alloc_new w4 _) k]; simp [cellsC]
            have H5 := hid (And.intro hb5 (And.intro ho4 (And.intro hn4 (And.intro hr4 (And.intro hx4 hrow5)))))
            clear hk4 hrow4 hb5 hr4 ho4 hn4 hx4 HB HV
            go_wp2_with (at_builtin; refine wpList_append_rowM rfl _ _ 45 rfl i0 _ Tryz.underlying45 hi hz0 hz1 hz2 rfl (by decide) hrow5 q1 HQ.out.symm rfl ⟨x, a⟩ ⟨w4.heap.size, 0, none⟩ 1 rfl hcells (cellsC_one _) (by have := HK.out; omega) HK.out ?_)
            intro A6 c6 w6 hrow6 hg6 hbl6
            have H6 : Hid (LpC w G g' s A6 c6 (L ++ [⟨x, a⟩]) (m - 1) s2 w6) := hid (lpC_step (L := L) (x := x) (a := a) HL.out H.out.lt H5.out.1 H5.out.2.1 H5.out.2.2.1 H5.out.2.2.2.1 H5.out.2.2.2.2.2 (World.size_alloc _ _) hrow6 hg6 HN.out.1 (by rw [List.map_append]; exact HN.out.2 x H5.out.2.2.2.2.1) (fun _ _ => by have := HW.out.1; rw [List.length_append]; simp only [List.length_cons, List.length_nil]; omega) HW.out.2)
            have HQ6 : Hid (q1 + 1 = (L ++ [(⟨x, a⟩ : Cq)]).length) := hid (by rw [List.length_append, ← HQ.out]; rfl)
            clear hrow5 hcells hrow6 hg6 hbl6
            go_wp2_with fail
            go_roundw
            case rel => exact ⟨m - 1, A6, c6, q1 + 1, L ++ [⟨x, a⟩], s2, ⟨by omega, by omega⟩, by go_num, rfl, HQ6.out, H6⟩
            case measure => simp [RowKit.intOf]; omega
        · have HF := hid (HL.out.done (by rw [show m.toNat = 0 by omega]; rfl))
          clear hrt hgg hq HB
          go_wp2_with fail
          go_ret
          exact ⟨A1, c1, q1, rfl, L, HQ.out, HF.out⟩
end Go.Proofs.YtaeoccpjdjafnaaGreat.Im
namespace Go.Proofs.YtaeoccpjdjafnaaGreat.Im
open Go.RowKit
open Rl (En Lg)
open Qu (Cf)
set_option linter.unusedSectionVars false
variable [Lo]
set_option maxRecDepth 100000
set_option linter.unusedVariables false
attribute [local go_sem ↓] storeAt_image

/-- where an image's lists lie -/
structure Ia where
  h : Option Addr
  ch : Nat
  v : Option Addr
  cv : Nat
/-- an image that the call has made, in blocks from B on, below N -/
def OwnIm (w : World) (B N : Nat) (i : Ia) (Q : List Hq) (L : List Vt) : Prop := ∃ m, B ≤ m ∧ m ≤ N ∧ OwnHs w B m i.h i.ch Q ∧ RowIn cellsV 5 60 w (Bl m N) i.v i.cv L ∧ ∀ v ∈ L, okV v
namespace OwnIm
variable {w w' : World} {B B' N N' : Nat} {i : Ia} {Q : List Hq} {L : List Vt}
theorem nil (w : World) {B N : Nat} (h : B ≤ N) : OwnIm w B N ⟨none, 0, none, 0⟩ [] [] := ⟨B, Nat.le_refl _, h, OwnHs.nil _ (Nat.le_refl _), RowIn.nil cellsV_fits _ _ _, fun v hv => by cases hv⟩
theorem keep {S : Nat → Prop} (h : OwnIm w B N i Q L) (ht : Turned S w w') (hs : ∀ k, S k → ¬ Bl B N k) : OwnIm w' B N i Q L := by
  obtain ⟨m, h1, h2, h3, h4, h5⟩ := h
  exact ⟨m, h1, h2, h3.keep ht (fun k hk hB => hs k hk ⟨hB.1, by have := hB.2; omega⟩), h4.keep ht (fun k hk hS => hs k hS ⟨by have := (h4.blk k hk).1; omega, (h4.blk k hk).2⟩), h5⟩
theorem below (h : OwnIm w B N i Q L) (hb : Below N w w') : OwnIm w' B N i Q L :=
  h.keep (S := fun k => N ≤ k) ⟨hb.os, hb.tape, hb.output, hb.size, fun k _ hn => hb.block k (by omega)⟩ (fun k hk hB => by have := hB.2; omega)
theorem wide (h : OwnIm w B N i Q L) (hB : B' ≤ B) (hN : N ≤ N') : OwnIm w B' N' i Q L := by
  obtain ⟨m, h1, h2, h3, h4, h5⟩ := h
  exact ⟨m, by omega, by omega, h3.wide hB (Nat.le_refl _), h4.mono (fun k hk => ⟨(h4.blk k hk).1, by have := (h4.blk k hk).2; omega⟩), h5⟩
end OwnIm
theorem rdIm_eq (s : Pk.St) : (rdIm s).1 = ⟨(rdL rdH s).1, (rdL rdV (rdL rdH s).2).1⟩ ∧ (rdIm s).2 = (rdL rdV (rdL rdH s).2).2 := by
  simp only [rdIm, rdM, rdP, and_self]
theorem rdHs_small (s : Pk.St) (h : s.small) : (rdL rdH s).2.small := ((codH 100000000 (by decide)).list (by decide)).small s h
theorem rdHs_short (s : Pk.St) : (rdL rdH s).2.rest.length ≤ s.rest.length := ((codH 100000000 (by decide)).list (by decide)).short s
theorem rdVs_good (s : Pk.St) (h : s.small) (hl : s.rest.length ≤ 10000000) : ∀ v ∈ (rdL rdV s).1, okV v := (((codV 100000000 (by decide)).list (by decide)).good s h (by omega)).1
theorem rdVs_gone : (rdL rdV Pk.gone).2 = Pk.gone := by rw [rdL_gone]
set_option maxHeartbeats 3200000 in
theorem rimage_any (G g : Nat) (s : Pk.St) (hl : s.rest.length ≤ 10000000) (w : World) (h : Rt w G g s) :
    Calls Tryz.prog 65 #[.pointer (some ⟨G, 0, none⟩)] w fun e w' => ∃ (i : Ia) (nh nv : Nat), e = .returned (.agg #[.slice i.h nh i.ch, .slice i.v nv i.cv]) ∧ ∃ Q L, (nh = Q.length ∧ nv = L.length) ∧ OwnIm w' w.heap.size w'.heap.size i Q L ∧ Rq G g (rdIm s).2 w w' ∧ ((rdIm s).2 = Pk.gone ∨ (⟨Q.map (·.h), L⟩ : Im) = (rdIm s).1) := by
  obtain ⟨R, hR⟩ : ∃ R, R = w.heap.size := ⟨_, rfl⟩
  obtain ⟨w1, hw1⟩ : ∃ w1, w1 = w.alloc (.cells #[.slice none 0 0, .slice none 0 0] 25) := ⟨_, rfl⟩
  obtain ⟨_, p0⟩ := Sp.start h w1 hw1
  rw [← hR] at p0
  have hmf : ∀ (fn : Fn) (first cap : Array Value) (w : World), (Instr.makeFunc fn first cap).run Tryz.prog w = .ok (.func fn first cap) w := fun _ _ _ _ => rfl
  have HH := hid (rHs_any G g s hl w1 p0.rt)
  obtain ⟨s1, hs1⟩ : ∃ s1, s1 = (rdL rdH s).2 := ⟨_, rfl⟩
  have HE : Hid ((rdIm s).2 = (rdL rdV s1).2 ∧ ∀ x, (rdIm s).1 = ⟨(rdL rdH s).1, x⟩ ↔ (rdL rdV s1).1 = x) := hid (by
    rw [(rdIm_eq s).1, (rdIm_eq s).2, ← hs1]
    exact ⟨rfl, fun x => ⟨fun e => by injection e, fun e => by rw [e]⟩⟩)
  have HS : Hid (s1.rest.length ≤ 10000000 ∧ s1.small) := hid ⟨by rw [hs1]; exact Nat.le_trans (rdHs_short s) hl, by rw [hs1]; exact rdHs_small s h.ro.rdr.small⟩
  have HV : Hid (∀ W g', Rt W G g' s1 → Calls Tryz.prog 111 #[.pointer (some ⟨G, 0, none⟩), .func (.func 112) #[.pointer (some ⟨G, 0, none⟩)] #[]] W fun e w' => ∃ A c n, e = .returned (.slice A n c) ∧ n = (rdL rdV s1).1.length ∧ RowIn cellsV 5 60 w' (fun k => W.heap.size ≤ k) A c (rdL rdV s1).1 ∧ Rk G g' 10000000 (rdL rdV s1).2 W w') := hid (fun W g' hW => rVs_any G g' s1 HS.out.1 W hW)
  have P0 := hid (And.intro p0 (And.intro hR h.lt))
  rw [← hs1] at HH
  clear p0 hs1 h hl
  go_enter Tryz.func65, Tryz.ntmps65
  go_wp2_with fail
  rw [← hR, ← hw1]
  clear hw1 hR
  refine HH.out.mono ?_
  rintro e w2 ⟨A2, c2, n2, rfl, Q, hn2, ho2, hr2, hx2⟩
  obtain ⟨g2, hrt2, hgg2⟩ := hr2.1
  have HV2 := hid (HV.out w2 g2 hrt2)
  have H2 := hid (And.intro hn2 (And.intro ho2 (And.intro hr2 (And.intro hx2 hgg2))))
  clear hn2 ho2 hr2 hrt2 hgg2 hx2
  go_wp2_with fail
  refine HV2.out.mono ?_
  rintro e w3 ⟨A3, c3, n3, rfl, hn3, ho3, hk3⟩
  have hrow3 : w3.heap[R]? = some (.cells #[.slice none 0 0, .slice none 0 0] 25 (0, 0)) := by
    have h1 := P0.out.1.row
    have h2 := H2.out.2.2.1.2.keep R _ _ _ (row_lt h1) h1 (by decide) (by decide)
    exact hk3.kq.keep R _ _ _ (row_lt h2) h2 (by decide) (by decide)
  have hst3 := stRow info_image2 (cs' := #[.slice A2 n2 c2, .slice A3 n3 c3]) hrow3 rfl rfl (by simp [Value.oneCell'])
  obtain ⟨w4, hw4⟩ : ∃ w4, w4 = w3.setRow R #[.slice A2 n2 c2, .slice A3 n3 c3] := ⟨_, rfl⟩
  have HF : Hid (w4.heap[R]? = some (.cells #[.slice A2 n2 c2, .slice A3 n3 c3] 25 (0, 0)) ∧ OwnIm w4 w.heap.size w4.heap.size ⟨A2, c2, A3, c3⟩ Q (rdL rdV s1).1 ∧ Rq G g (rdL rdV s1).2 w w4) := hid (by
    have ht := row_turned w3 R #[.slice A2 n2 c2, .slice A3 n3 c3]
    have hro := setRow_heap w3 R _ #[.slice A2 n2 c2, .slice A3 n3 c3] _ _ hrow3
    rw [← hw4] at ht hro
    have hRw := P0.out.2.1
    have hGl := P0.out.2.2
    have z1 : R < w1.heap.size := row_lt P0.out.1.row
    have z2 := H2.out.2.2.1.2.size
    have z3 := hk3.kq.size
    have z4 := ht.size
    have hgr : w3.grownBy w4 (some R) := ⟨ht.os, ht.tape, ht.output, ht.size, fun k hk hne => ht.block k hk (fun e => hne (by rw [e]))⟩
    refine ⟨hro, ⟨w2.heap.size, by omega, by omega, ?_, ?_, rdVs_good s1 HS.out.2 HS.out.1⟩, ?_, ?_⟩
    · exact ((H2.out.2.1.kq hk3.kq).keep ht (fun k hk hB => by have := hB.1; omega)).wide (by omega) (Nat.le_refl _)
    · refine (ho3.keep ht (fun k hk e => ?_)).mono (fun k hk => ⟨ho3.blk k hk, by have := ho3.lt k hk; omega⟩)
      have := ho3.blk k hk
      omega
    · obtain ⟨g', hrt, hgg⟩ := hk3.at_
      refine ⟨g', hrt.fill hgr (by omega) (Rdr.tag hrt.ro.rdr hrow3 (by decide)), ?_⟩
      rcases hgg with e | e
      · rcases H2.out.2.2.2.2 with e2 | e2
        · exact .inl (e.trans e2)
        · exact .inr (by rw [e2]; exact rdVs_gone)
      · exact .inr e
    · exact ((P0.out.1.kq.trans (H2.out.2.2.1.2.mono P0.out.1.kq.size)).trans (hk3.kq.mono (by omega))).trans (Kq.ofRow hgr (by omega) (by omega)))
  have HN := hid hn3
  rw [← hw4] at hst3
  clear hn3 ho3 hk3 hrow3 hw4
  go_wp2_with fail
  refine bodyPost_ret (results_cell_row rfl _ _ R _ _ _ _ rfl HF.out.1 Tryz.underlying25 rfl (by rw [info_image2]; rfl)) rfl ?_
  refine ⟨⟨A2, c2, A3, c3⟩, n2, n3, rfl, Q, _, ⟨H2.out.1, HN.out⟩, HF.out.2.1, by rw [HE.out.1]; exact HF.out.2.2, ?_⟩
  rw [HE.out.1]
  rcases H2.out.2.2.2.1 with e | e
  · left; rw [e]; exact rdVs_gone
  · right; rw [e]; exact ((HE.out.2 _).2 rfl).symm
set_option maxHeartbeats 1600000 in
theorem rchanges_any (G g : Nat) (s : Pk.St) (hl : s.rest.length ≤ 10000000) (w : World) (h : Rt w G g s) :
    Calls Tryz.prog 79 #[.pointer (some ⟨G, 0, none⟩)] w fun e w' => ∃ A c n, e = .returned (.slice A n c) ∧ ∃ L : List Cq, n = L.length ∧ OwnCs w' w.heap.size w'.heap.size A c L ∧ Rq G g (rdL rdC s).2 w w' ∧ ((rdL rdC s).2 = Pk.gone ∨ L.map (·.c) = (rdL rdC s).1) := by
  have hmf : ∀ (fn : Fn) (first cap : Array Value) (w : World), (Instr.makeFunc fn first cap).run Tryz.prog w = .ok (.func fn first cap) w := fun _ _ _ _ => rfl
  have HH := hid (rCs_any G g s hl w h)
  clear h hl
  go_enter Tryz.func79, Tryz.ntmps79
  go_wp2_with fail
  refine HH.out.mono ?_
  rintro e w2 ⟨A2, c2, n2, rfl, Q, hn2, ho2, hr2, hx2⟩
  have H2 := hid (And.intro hn2 (And.intro ho2 (And.intro hr2 hx2)))
  clear hn2 ho2 hr2 hx2
  go_wp2_with fail
  go_ret
  exact ⟨A2, c2, n2, rfl, Q, H2.out⟩
end Go.Proofs.YtaeoccpjdjafnaaGreat.Im
namespace Go.Proofs.YtaeoccpjdjafnaaGreat
open Go.RowKit

set_option maxHeartbeats 800000 in
set_option maxRecDepth 100000 in
theorem ent_same (p q : Rl.En) (A A' : Option Addr) (c c' : Nat) (hp : p.d.length ≤ maxLen) (hq : q.d.length ≤ maxLen) (w : World) (h : IsBytes w w.heap.size A p.d) (h' : IsBytes w w.heap.size A' q.d) :
    Calls Tryz.prog 169 #[.agg #[.int .i64 p.t, .int .i64 p.k, .slice A p.d.length c], .agg #[.int .i64 q.t, .int .i64 q.k, .slice A' q.d.length c']] w fun e w' => e = .returned (.bool (decide (p = q))) ∧ Below w.heap.size w w' := by
  obtain ⟨w1, hw1⟩ : ∃ w1, w1 = (w.alloc (.cells #[.int .i64 p.t, .int .i64 p.k, .slice A p.d.length c] 73)).alloc (.cells #[.int .i64 q.t, .int .i64 q.k, .slice A' q.d.length c'] 73) := ⟨_, rfl⟩
  have hb1 : Below w.heap.size w w1 := by rw [hw1]; exact ((Below.refl _ w).alloc (Nat.le_refl _) _).alloc (by simp) _
  have HS := hid (same_any w1.heap.size w1.heap.size A A' c c' p.d q.d hp hq w1 ((h.below hb1).more hb1.size) ((h'.below hb1).more hb1.size))
  have HB := hid hb1
  rw [hw1] at HS HB
  clear hb1 hw1 h h'
  by_cases ha : p.t = q.t
  · by_cases hb : p.k = q.k
    · by_cases hd : p.d = q.d
      · have HE : Hid (decide (p = q) = true) := hid (decide_eq_true (by cases p; cases q; simp at ha hb hd; simp [ha, hb, hd]))
        rw [decide_eq_true hd] at HS
        clear hd
        rw [ha, hb] at HS HB
        rw [HE.out]
        go_enter Tryz.func169, Tryz.ntmps169
        go_wp2_with fail
        refine HS.out.mono ?_
        rintro e w2 ⟨rfl, n, hw2⟩
        have HW : Hid (Below w.heap.size w w2) := by rw [hw2]; exact below_drewN HB.out n
        clear hw2
        go_wp2_with fail
        go_ret
        exact ⟨rfl, HW.out⟩
      · have HE : Hid (decide (p = q) = false) := hid (decide_eq_false (by rintro rfl; exact hd rfl))
        rw [decide_eq_false hd] at HS
        clear hd
        rw [ha, hb] at HS HB
        rw [HE.out]
        go_enter Tryz.func169, Tryz.ntmps169
        go_wp2_with fail
        refine HS.out.mono ?_
        rintro e w2 ⟨rfl, n, hw2⟩
        have HW : Hid (Below w.heap.size w w2) := by rw [hw2]; exact below_drewN HB.out n
        clear hw2
        go_wp2_with fail
        go_ret
        exact ⟨rfl, HW.out⟩
    · have HE : Hid (decide (p = q) = false) := hid (decide_eq_false (by rintro rfl; exact hb rfl))
      rw [ha] at HB
      rw [HE.out]
      go_enter Tryz.func169, Tryz.ntmps169
      go_wp2_with fail
      go_ret
      exact ⟨rfl, HB.out⟩
  · have HE : Hid (decide (p = q) = false) := hid (decide_eq_false (by rintro rfl; exact ha rfl))
    rw [HE.out]
    go_enter Tryz.func169, Tryz.ntmps169
    go_wp2_with fail
    go_ret
    exact ⟨rfl, HB.out⟩

set_option maxHeartbeats 800000 in
set_option maxRecDepth 100000 in
theorem ents_same (A A' : Option Addr) (c c' n m : Nat) (L M : List Rl.En) (hn : L.length = n) (hm : M.length = m) (hL : n ≤ 100000) (w : World) (h : IsEnts w w.heap.size A L) (h' : IsEnts w w.heap.size A' M) :
    Calls Tryz.prog 137 #[.slice A n c, .slice A' m c'] w fun e w' => e = .returned (.bool (decide (L = M))) ∧ Below w.heap.size w w' := by
  subst hn
  subst hm
  by_cases hl : L.length = M.length
  · have hl0 : (L.length : Int) = (M.length : Int) := by omega
    have HH := hid (And.intro h h')
    clear h h'
    go_enter Tryz.func137, Tryz.ntmps137
    go_wp2_with fail
    go_loopw [5] (fun i wr => ∃ k : Nat, k ≤ L.length ∧ i = .int .i64 k ∧ Hid (L.take k = M.take k ∧ Below w.heap.size w wr)) (fun i _ => L.length - (RowKit.intOf i).toNat)
    case atStart => exact ⟨0, by omega, rfl, hid ⟨by simp, Below.refl _ _⟩⟩
    case round =>
      obtain ⟨k, hk, rfl, hS⟩ := hrel
      have HL := hid hl
      by_cases hlt : k < L.length
      · have hr := HH.out.1.below hS.out.2
        have hr' := HH.out.2.below hS.out.2
        obtain ⟨b, off, rfl, hbl, hc⟩ := hr.cells k hlt
        have hkM : k < M.length := by omega
        obtain ⟨b', off', rfl, hbl', hc'⟩ := hr'.cells k hkM
        obtain ⟨A1, c1, d0, d1, d2, hB1', hm1', _⟩ := hc k hlt
        have hB1 := hB1'.more hS.out.2.size
        have hm1 := Nat.le_trans hm1'.1 hm1'.2
        obtain ⟨A2, c2, e0, e1, e2, hB2', hm2', _⟩ := hc' k hkM
        have hB2 := hB2'.more hS.out.2.size
        have hm2 := Nat.le_trans hm2'.1 hm2'.2
        clear hB1' hB2' hm1' hm2'
        have hk0 : (k : Int) < (L.length : Int) := by omega
        have hk1 : (k : Int) < (M.length : Int) := by omega
        have HC := hid (ent_same L[k] M[k] A1 A2 c1 c2 hm1 hm2 wr.drew (hB1.drewN 1) (hB2.drewN 1))
        have d0W : wr.drew.cell? ⟨b, off + k * 3, none⟩ = some (.int .i64 L[k].t) := d0
        have d1W : wr.drew.cell? ⟨b, off + k * 3 + 1, none⟩ = some (.int .i64 L[k].k) := d1
        have d2W : wr.drew.cell? ⟨b, off + k * 3 + 2, none⟩ = some (.slice A1 L[k].d.length c1) := d2
        have e0W : wr.drew.cell? ⟨b', off' + k * 3, none⟩ = some (.int .i64 M[k].t) := e0
        have e1W : wr.drew.cell? ⟨b', off' + k * 3 + 1, none⟩ = some (.int .i64 M[k].k) := e1
        have e2W : wr.drew.cell? ⟨b', off' + k * 3 + 2, none⟩ = some (.slice A2 M[k].d.length c2) := e2
        by_cases he : L[k] = M[k]
        · rw [decide_eq_true he] at HC
          have hS' : L.take (k + 1) = M.take (k + 1) := by
            rw [List.take_succ_eq_append_getElem hlt, List.take_succ_eq_append_getElem hkM, hS.out.1, he]
          have HS := hid hS'
          clear hc hc' hr hr' hB1 hB2 hS' he hl
          go_wp2_with fail
          go_still_tail 8, (by kernel_rfl)
          go_wp2_with fail
          refine HC.out.mono ?_
          rintro e w2 ⟨rfl, hb2⟩
          have HB2 : Hid (L.take (k + 1) = M.take (k + 1) ∧ Below w.heap.size w w2) := hid ⟨HS.out, hS.out.2.trans (((Below.refl _ wr).drew.trans hb2).mono hS.out.2.size)⟩
          clear hb2 d0W d1W d2W e0W e1W e2W d0 d1 d2 e0 e1 e2
          go_wp2_with fail
          go_roundw
          case rel => exact ⟨k + 1, by omega, by go_num, HB2⟩
          case measure => simp [RowKit.intOf]; omega
        · rw [decide_eq_false he] at HC
          have hne : decide (L = M) = false := decide_eq_false (fun e => by subst e; exact he rfl)
          have HE := hid hne
          clear hc hc' hr hr' hB1 hB2 he hne hl
          go_wp2_with fail
          go_still_tail 8, (by kernel_rfl)
          go_wp2_with fail
          refine HC.out.mono ?_
          rintro e w2 ⟨rfl, hb2⟩
          have HB2 : Hid (Below w.heap.size w w2) := hid (hS.out.2.trans (((Below.refl _ wr).drew.trans hb2).mono hS.out.2.size))
          clear hb2 d0W d1W d2W e0W e1W e2W d0 d1 d2 e0 e1 e2
          go_wp2_with fail
          go_ret
          rw [HE.out]
          exact ⟨rfl, HB2.out⟩
      · obtain rfl : k = L.length := by omega
        have hE : decide (L = M) = true := decide_eq_true (by
          have := hS.out.1
          rw [List.take_length, hl, List.take_length] at this
          exact this)
        have HE := hid hE
        have hk0 : ¬ (L.length : Int) < (L.length : Int) := by omega
        clear hE hlt
        go_wp2_with fail
        go_ret
        rw [HE.out]
        exact ⟨rfl, hS.out.2⟩
  · have hE : decide (L = M) = false := decide_eq_false (fun e => hl (by rw [e]))
    rw [hE]
    have hl0 : ¬ (L.length : Int) = (M.length : Int) := by omega
    clear h h' hE hl
    go_enter Tryz.func137, Tryz.ntmps137
    go_wp2
    go_ret
    exact ⟨rfl, Below.refl _ _⟩
end Go.Proofs.YtaeoccpjdjafnaaGreat
namespace Go.Proofs.YtaeoccpjdjafnaaGreat
open Go.RowKit

set_option maxHeartbeats 400000 in
theorem copy_any (B : Nat) (A : Option Addr) (c : Nat) (l : List Nat) (hl : l.length ≤ 140737488355328) (w : World) (h : IsBytes w B A l) (hB : B ≤ w.heap.size) :
    Calls Tryz.prog 45 #[.slice A l.length c] w fun e w' => ∃ A' c', e = .returned (.slice A' l.length c') ∧ OwnsB 5 w' w.heap.size A' c' l ∧ Below w.heap.size w w' := by
  obtain ⟨i0, hi, hz0, hz1, hz2⟩ := info_parts info_u8
  go_enter Tryz.func45, Tryz.ntmps45
  go_wp2
  go_loopw [3, 4] (fun v i wr => ∃ k : Nat, k ≤ l.length ∧ i = .int .i64 k ∧ wr.ownsRow w.heap.size 5 1 v k (bytes (l.take k)) ∧ Below w.heap.size w wr) (fun _ i _ => l.length - (RowKit.intOf i).toNat)
  case atStart => exact ⟨0, by omega, rfl, World.ownsRow_nil _ _ _ _, Below.refl _ _⟩
  case round =>
    obtain ⟨k, hk, rfl, hown, hbel⟩ := hrel
    by_cases hlt : k < l.length
    · have h1 := (h.below (hbel.mono hB))
      obtain ⟨b, off, rfl, _, hc⟩ := h1.cells k hlt
      have hck := hc k hlt
      clear hc
      go_wp2_with (at_builtin; refine wpList_append_own _ rfl _ _ 35 rfl w.heap.size 5 i0 (.int .u8 0) 1 1 Tryz.underlying35 hi hz0 hz1 hz2 rfl (by decide) _ _ _ rfl (hown.alloc _) ⟨wr.heap.size, 0, none⟩ 1 1 [.int .u8 (l[k] : Nat)] rfl rfl ?c1 ?c2 ?c3 ?c4 ?c5 ?_)
      case c1 =>
        intro j u hj
        match j, hj with
        | 0, hj => simp at hj; subst hj; simp [Addr.add]
      case c2 => intro u hu; simp at hu; subst hu; rfl
      case c3 => unfold maxLen; omega
      case c4 => omega
      case c5 => have := hbel.size; simp; omega
      intro v' w1 hown' hgrow _
      rw [bytes_snoc l k hlt] at hown'
      have hb1 : Below w.heap.size w w1 := (hbel.alloc hbel.size _).grown hgrow (by have := hbel.size; simp; omega) (fun g hg => (hown.lt g hg).1)
      clear hgrow hown hbel hck
      go_wp2
      go_roundw
      case rel => exact ⟨k + 1, by omega, by go_num, hown', hb1⟩
      case measure => simp [RowKit.intOf]; omega
    · obtain rfl : k = l.length := by omega
      rw [List.take_length] at hown
      obtain ⟨A', c', rfl⟩ := own_slice hown
      go_wp2
      go_ret
      exact ⟨A', c', rfl, ⟨h.small, hown⟩, hbel⟩
theorem copy_N (B : Nat) (A : Option Addr) (c : Nat) (l : List Nat) (n : Nat) (hn : l.length = n) (hl : n ≤ 140737488355328) (w : World) (h : IsBytes w B A l) (hB : B ≤ w.heap.size) :
    Calls Tryz.prog 45 #[.slice A n c] w fun e w' => ∃ A' c', e = .returned (.slice A' n c') ∧ OwnsB 5 w' w.heap.size A' c' l ∧ Below w.heap.size w w' := by
  subst hn; exact copy_any B A c l hl w h hB
end Go.Proofs.YtaeoccpjdjafnaaGreat
namespace Go.Proofs.YtaeoccpjdjafnaaGreat
open Go.RowKit

set_option maxHeartbeats 1600000 in
set_option maxRecDepth 100000 in
theorem copyE_any (B : Nat) (A : Option Addr) (c n : Nat) (L : List Rl.En) (hn : L.length = n) (hl : n ≤ 90000) (hf : Rl.Few L) (w : World) (h : IsEnts w B A L) (hB : B ≤ w.heap.size) :
    Calls Tryz.prog 125 #[.slice A n c] w fun e w' => ∃ A' c', e = .returned (.slice A' n c') ∧ OwnE w' w.heap.size w'.heap.size A' c' L ∧ Below w.heap.size w w' := by
  subst hn
  have HH := hid (h.more hB)
  have HF := hid hf
  have H1 : Hid (OwnE w w.heap.size w.heap.size none 0 (L.take 0) ∧ Below w.heap.size w w) := hid ⟨OwnE.nil _ _ _, Below.refl _ _⟩
  clear h hf
  go_enter Tryz.func125, Tryz.ntmps125
  go_wp2_with fail
  go_loopw [3, 4] (fun v i wr => ∃ (k : Nat) (A1 : Option Addr) (c1 : Nat), k ≤ L.length ∧ v = .slice A1 k c1 ∧ i = .int .i64 k ∧ Hid (OwnE wr w.heap.size wr.heap.size A1 c1 (L.take k) ∧ Below w.heap.size w wr)) (fun _ i _ => L.length - (RowKit.intOf i).toNat)
  case atStart => exact ⟨0, _, _, by omega, rfl, rfl, H1⟩
  case round =>
    clear H1
    obtain ⟨k, A1, c1, hk, rfl, rfl, hS⟩ := hrel
    by_cases hlt : k < L.length
    · obtain ⟨b, off, rfl, hbw, hc⟩ := (HH.out.below hS.out.2).cells k hlt
      obtain ⟨Ad, cd, d0, d1, d2, hd, hd2, hd3⟩ := hc k hlt
      have hk0 : (k : Int) < (L.length : Int) := by omega
      have hfk : L[k].d.length ≤ 65536 := HF.out _ (List.getElem_mem hlt)
      have hnum := HH.out.num _ (List.getElem_mem hlt)
      have htk : L.take (k + 1) = L.take k ++ [L[k]] := List.take_succ_eq_append_getElem hlt
      obtain ⟨x, hx⟩ : ∃ x, x = L[k] := ⟨_, rfl⟩
      rw [← hx] at d0 d1 d2 hd hd2 hfk hnum htk
      have HX := hid (And.intro hnum htk)
      have HC := hid (copy_N wr.heap.size Ad cd x.d x.d.length rfl (by omega) wr.drew ((hd.more hS.out.2.size).drewN 1) (Nat.le_refl _))
      have HK : Hid (∀ w', Below w.heap.size wr w' → w'.cell? ⟨b, off + k * 3, none⟩ = some (.int .i64 x.t) ∧ w'.cell? ⟨b, off + k * 3 + 1, none⟩ = some (.int .i64 x.k) ∧ w'.cell? ⟨b, off + k * 3 + 2, none⟩ = some (.slice Ad x.d.length cd)) := hid (fun w' hb => ⟨(hb.cell (by show b < _; omega)).trans d0, (hb.cell (by show b < _; omega)).trans d1, (hb.cell (by show b < _; omega)).trans d2⟩)
      have hl5 : k + 1 ≤ 100000 := by omega
      have HLK : Hid ((L.take k).length = k) := hid (by rw [List.length_take]; omega)
      clear hc hx hnum htk hd hd2 hd3 hfk
      go_wp2_with fail
      go_region_held3 (fun w' => w'.cell? ⟨b, off + k * 3, none⟩ = some (.int .i64 x.t) ∧ w'.cell? ⟨b, off + k * 3 + 1, none⟩ = some (.int .i64 x.k) ∧ w'.cell? ⟨b, off + k * 3 + 2, none⟩ = some (.slice Ad x.d.length cd))
        (first | exact HK.out _ (Below.refl _ wr).drew | exact HK.out _ hb2.out | exact HK.out _ (hb2.out.alloc hN2.out _) | exact HK.out _ h6.out.2 | fail)
        (first
          | (refine step_append_ent (by rfl) _ _ (by rfl) (hS.out.1.below (hb1.out.alloc hb1.out.size _)) hS.out.2.size (by rw [World.size_alloc]; have := hb1.out.size; omega) k HLK.out (by rfl) x HX.out.1 A2 c2 (ho2.out.below ((Below.refl _ w2).alloc (Nat.le_refl _) _)) ⟨w2.heap.size, 0, none⟩ 1 (by rfl) (fun j _ => cellsE_new w2 _ rfl ⟨x, A2, c2⟩ _ j) hl5 ?_; intro A6 c6 w6 hE6 hB6; have h6 := hid (And.intro hE6 ((hb2.out.alloc hN2.out _).trans hB6)); clear hE6 hB6)
          | (go_at_call 45; refine HC.out.mono ?_; rintro e w2 ⟨A2, c2, rfl, ho2', hb2'⟩; have ho2 := hid ho2'; have hb1 := hid ((Below.refl _ wr).drew.trans hb2'); have hb2 := hid (hb1.out.mono hS.out.2.size); have hN2 := hid (Nat.le_trans hS.out.2.size hb1.out.size); clear ho2' hb2'))
      all_goals
        (have H6 : Hid (OwnE w6 w.heap.size w6.heap.size A6 c6 (L.take (k + 1)) ∧ Below w.heap.size w w6) := hid ⟨by rw [HX.out.2]; exact h6.out.1, hS.out.2.trans h6.out.2⟩
         clear h6 hb1 hb2 hN2 ho2 HK HC d0 d1 d2
         go_wp2_with fail
         go_roundw
         case rel => exact ⟨k + 1, A6, c6, by omega, rfl, by go_num, H6⟩
         case measure => simp [RowKit.intOf]; omega)
    · obtain rfl : k = L.length := by omega
      have hS1 := hS.out
      rw [List.take_length] at hS1
      have HS := hid hS1
      clear hS hS1
      go_wp2_with fail
      go_ret
      exact ⟨A1, c1, rfl, HS.out.1, HS.out.2⟩
end Go.Proofs.YtaeoccpjdjafnaaGreat
namespace Go.Proofs.YtaeoccpjdjafnaaGreat
open Go.RowKit

set_option maxHeartbeats 800000 in
set_option maxRecDepth 100000 in
theorem log_same (p q : Rl.Lg) (A A' : Option Addr) (c c' : Nat) (hl : p.es.length ≤ 100000) (w : World) (h : IsEnts w w.heap.size A p.es) (h' : IsEnts w w.heap.size A' q.es) :
    Calls Tryz.prog 98 #[.agg #[.int .i64 p.base, .int .i64 p.term, .slice A p.es.length c], .agg #[.int .i64 q.base, .int .i64 q.term, .slice A' q.es.length c']] w fun e w' => e = .returned (.bool (decide (p = q))) ∧ Below w.heap.size w w' := by
  obtain ⟨w1, hw1⟩ : ∃ w1, w1 = (w.alloc (.cells #[.int .i64 p.base, .int .i64 p.term, .slice A p.es.length c] 58)).alloc (.cells #[.int .i64 q.base, .int .i64 q.term, .slice A' q.es.length c'] 58) := ⟨_, rfl⟩
  have hb1 : Below w.heap.size w w1 := by rw [hw1]; exact ((Below.refl _ w).alloc (Nat.le_refl _) _).alloc (by simp) _
  have HS := hid (ents_same A A' c c' p.es.length q.es.length p.es q.es rfl rfl hl w1 ((h.below hb1).more hb1.size) ((h'.below hb1).more hb1.size))
  have HB := hid hb1
  have HZ := hid hb1.size
  rw [hw1] at HS HB HZ
  clear hb1 hw1 h h'
  by_cases ha : p.base = q.base
  · by_cases hb : p.term = q.term
    · have HE : Hid (decide (p = q) = decide (p.es = q.es)) := hid (by
        rw [decide_eq_decide]
        cases p; cases q
        simp at ha hb
        simp [ha, hb])
      rw [ha, hb] at HS HB HZ
      rw [HE.out]
      generalize decide (p.es = q.es) = bb at HS ⊢
      clear HE
      cases bb <;>
      (go_enter Tryz.func98, Tryz.ntmps98
       go_wp2_with fail
       refine HS.out.mono ?_
       rintro e w2 ⟨rfl, hb2⟩
       have HW : Hid (Below w.heap.size w w2) := hid (HB.out.trans (hb2.mono HZ.out))
       clear hb2
       go_wp2_with fail
       go_ret
       exact ⟨rfl, HW.out⟩)
    · have HE : Hid (decide (p = q) = false) := hid (decide_eq_false (by rintro rfl; exact hb rfl))
      rw [ha] at HB
      rw [HE.out]
      go_enter Tryz.func98, Tryz.ntmps98
      go_wp2_with fail
      go_ret
      exact ⟨rfl, HB.out⟩
  · have HE : Hid (decide (p = q) = false) := hid (decide_eq_false (by rintro rfl; exact ha rfl))
    rw [HE.out]
    go_enter Tryz.func98, Tryz.ntmps98
    go_wp2_with fail
    go_ret
    exact ⟨rfl, HB.out⟩

set_option maxHeartbeats 800000 in
set_option maxRecDepth 100000 in
theorem copyLog_any (g : Rl.Lg) (A : Option Addr) (c n : Nat) (hn : g.es.length = n) (hl : n ≤ 90000) (hf : Rl.Few g.es) (w : World) (h : IsEnts w w.heap.size A g.es) :
    Calls Tryz.prog 91 #[.agg #[.int .i64 g.base, .int .i64 g.term, .slice A n c]] w fun e w' =>
      ∃ A' c', e = .returned (.agg #[.int .i64 g.base, .int .i64 g.term, .slice A' n c']) ∧ OwnE w' w.heap.size w'.heap.size A' c' g.es ∧ Below w.heap.size w w' := by
  obtain ⟨w1, hw1⟩ : ∃ w1, w1 = (w.alloc (.cells #[.int .i64 g.base, .int .i64 g.term, .slice A n c] 58)).alloc (.cells #[.int .i64 0, .int .i64 0, .slice none 0 0] 58) := ⟨_, rfl⟩
  have hb1 : Below w.heap.size w w1 := by rw [hw1]; exact ((Below.refl _ w).alloc (Nat.le_refl _) _).alloc (by simp) _
  have hs1 : w1.heap.size = w.heap.size + 2 := by rw [hw1]; simp
  have HC := hid (copyE_any w.heap.size A c n g.es hn hl hf w1 (h.below hb1) hb1.size)
  have H1 := hid (And.intro hb1 hs1)
  rw [hw1] at HC H1
  have HW := hid hw1
  clear hb1 hs1 hw1 h
  go_enter Tryz.func91, Tryz.ntmps91
  go_wp2_with fail
  refine HC.out.mono ?_
  rintro e w2 ⟨A2, c2, rfl, ho2, hb2⟩
  have hs2 := hb2.size
  have q0 : w2.cell? ⟨w.heap.size, 0, none⟩ = some (.int .i64 g.base) := by rw [hb2.cell (by simp; omega)]; simp
  have q1 : w2.cell? ⟨w.heap.size, 1, none⟩ = some (.int .i64 g.term) := by rw [hb2.cell (by simp; omega)]; simp
  have q2 : w2.cell? ⟨w.heap.size, 2, none⟩ = some (.slice A n c) := by rw [hb2.cell (by simp; omega)]; simp
  have f2 : w2.frozen? ⟨w.heap.size, 2, none⟩ = false := by rw [hb2.frozen (by simp; omega)]; simp
  have r0 : w2.cell? ⟨w.heap.size + 1, 0, none⟩ = some (.int .i64 0) := by rw [hb2.cell (by simp)]; simp [World.cell?_alloc_at]
  have r1 : w2.cell? ⟨w.heap.size + 1, 1, none⟩ = some (.int .i64 0) := by rw [hb2.cell (by simp)]; simp [World.cell?_alloc_at]
  have r2 : w2.cell? ⟨w.heap.size + 1, 2, none⟩ = some (.slice none 0 0) := by rw [hb2.cell (by simp)]; simp [World.cell?_alloc_at]
  have f3 : ∀ k, w2.frozen? ⟨w.heap.size + 1, k, none⟩ = false := fun k => by rw [hb2.frozen (by simp)]; simp [World.frozen?_alloc_at]
  have HB : Hid (Below w.heap.size w w2) := hid (H1.out.1.trans (hb2.mono (by simp; omega)))
  have HO := hid ho2
  have hs3 : w.heap.size + 2 ≤ w2.heap.size := by simpa using hs2
  clear hb2 ho2 HC H1 hs2
  go_wp2_with fail
  refine bodyPost_ret (by simp [results, Tryz.results91, go_sem, r0, r1, r2]; try rfl) rfl ?_
  have T : Turned (fun k => k < w.heap.size + 2) w2 ((((w2.setCell ⟨w.heap.size, 2, none⟩ (.slice A2 n c2)).setCell ⟨w.heap.size + 1, 0, none⟩ (.int .i64 g.base)).setCell ⟨w.heap.size + 1, 1, none⟩ (.int .i64 g.term)).setCell ⟨w.heap.size + 1, 2, none⟩ (.slice A2 n c2)) := by
    (repeat' first | exact Turned.refl _ _ | refine Turned.setCell ?_ _ _ _ (fun _ => by omega))
  refine ⟨A2, c2, rfl, (HO.out.keep T (fun k hk hB => ?_)).wide ?_ T.size, HB.out.trans ?_⟩
  · have := hB.1; simp at this; omega
  · simp; omega
  · go_grown
end Go.Proofs.YtaeoccpjdjafnaaGreat
namespace Go.Proofs.YtaeoccpjdjafnaaGreat
open Go.RowKit

/-- Go's remainder, brought to 0 or more -/
theorem tmod_cases (k n : Int) (hn : 1 ≤ n) : (0 ≤ k.tmod n ∧ k.tmod n = k % n) ∨ (k.tmod n < 0 ∧ -n < k.tmod n ∧ k.tmod n + n = k % n) := by
  have h3 := Int.emod_nonneg k (show n ≠ 0 by omega)
  have h4 := Int.emod_lt_of_pos k (show 0 < n by omega)
  have h2 := Int.tmod_eq_emod (a := k) (b := n)
  have h5 : (n.natAbs : Int) = n := by omega
  by_cases hc : 0 ≤ k ∨ n ∣ k
  · rw [if_pos hc] at h2; left; omega
  · rw [if_neg hc] at h2
    have h6 : k % n ≠ 0 := fun e => hc (Or.inr (Int.dvd_of_emod_eq_zero e))
    right; omega

theorem pick_none (k n : Int) (hn : n < 1) (w : World) :
    Calls Tryz.prog 44 #[.int .i64 k, .int .i64 n] w fun e w' => e = .returned (.int .i64 0) ∧ w = w' := by
  go_enter Tryz.func44, Tryz.ntmps44
  go_wp2
  go_ret
  exact ⟨rfl, rfl⟩
set_option maxHeartbeats 400000 in
theorem pick_some (k n : Int) (hn : 1 ≤ n) (hn2 : (Lit.int .i64 n).wf = true) (w : World) :
    Calls Tryz.prog 44 #[.int .i64 k, .int .i64 n] w fun e w' => e = .returned (.int .i64 (k % n)) ∧ w = w' := by
  have hb : n ≤ 9223372036854775807 := by simp [Lit.wf] at hn2; omega
  rcases tmod_cases k n hn with ⟨h, e⟩ | ⟨h, h2, e⟩
  · have E := hid e
    clear e
    go_enter Tryz.func44, Tryz.ntmps44
    go_wp2
    go_ret
    exact ⟨by rw [← E.out]; rfl, rfl⟩
  · have E := hid e
    clear e
    go_enter Tryz.func44, Tryz.ntmps44
    go_wp2
    go_ret
    exact ⟨by rw [← E.out]; rfl, rfl⟩
theorem pick_lt (k n : Int) (hn : 1 ≤ n) (hn2 : n ≤ 9223372036854775807) (w : World) :
    Calls Tryz.prog 44 #[.int .i64 k, .int .i64 n] w fun e w' => (∃ p : Nat, e = .returned (.int .i64 p) ∧ (p : Int) < n) ∧ w = w' := by
  refine (pick_some k n hn (by simp [Lit.wf, IntKind.min, IntKind.max, IntKind.signed, IntKind.bits]; omega) w).mono fun e w' ⟨he, hw⟩ => ?_
  have h1 := Int.emod_nonneg k (show (n : Int) ≠ 0 by omega)
  have h2 := Int.emod_lt_of_pos k (show (0 : Int) < n by omega)
  exact ⟨⟨(k % n).toNat, by rw [he, Int.toNat_of_nonneg h1], by omega⟩, hw⟩
end Go.Proofs.YtaeoccpjdjafnaaGreat
namespace Go.Proofs.YtaeoccpjdjafnaaGreat
open Go.RowKit

/-- members, in three slices -/
structure CIs (w : World) (B : Nat) (c : Qu.Cf) (a0 a1 a2 : Option Addr) (k0 k1 k2 : Nat) : Prop where
  o : IsInts w B a0 c.old
  n : IsInts w B a1 c.new
  l : IsInts w B a2 c.lrn
  zo : a0 = none → k0 = 0
  zn : a1 = none → k1 = 0
  zl : a2 = none → k2 = 0
  co : c.old.length ≤ k0 ∧ k0 ≤ maxLen
  cn : c.new.length ≤ k1 ∧ k1 ≤ maxLen
  cl : c.lrn.length ≤ k2 ∧ k2 ≤ maxLen
namespace CIs
variable {w w' : World} {B B' : Nat} {c : Qu.Cf} {a0 a1 a2 : Option Addr} {k0 k1 k2 : Nat}
theorem below (h : CIs w B c a0 a1 a2 k0 k1 k2) (hb : Below B w w') : CIs w' B c a0 a1 a2 k0 k1 k2 := ⟨h.o.below hb, h.n.below hb, h.l.below hb, h.zo, h.zn, h.zl, h.co, h.cn, h.cl⟩
theorem more (h : CIs w B c a0 a1 a2 k0 k1 k2) (hB : B ≤ B') : CIs w B' c a0 a1 a2 k0 k1 k2 := ⟨h.o.more hB, h.n.more hB, h.l.more hB, h.zo, h.zn, h.zl, h.co, h.cn, h.cl⟩
theorem drewN (h : CIs w B c a0 a1 a2 k0 k1 k2) (j : Nat) : CIs (w.drewN j) B c a0 a1 a2 k0 k1 k2 := ⟨h.o.drewN j, h.n.drewN j, h.l.drewN j, h.zo, h.zn, h.zl, h.co, h.cn, h.cl⟩
end CIs
/-- short members -/
def Short (c : Qu.Cf) : Prop := c.old.length ≤ 20000 ∧ c.new.length ≤ 20000 ∧ c.lrn.length ≤ 20000

/-- a function value that tells, in every world that has come of w0, whether a node is one of p -/
def Tells (g : FuncId) (cb : Array Value) (p : Int → Bool) (w0 : World) : Prop :=
  ∀ x, InInt x → ∀ w, Below w0.heap.size w0 w → Calls Tryz.prog g (#[.int .i64 x] ++ cb) w fun e w' => e = .returned (.bool (p x)) ∧ Below w.heap.size w w'
theorem bthen {B : Nat} {a b c : World} (h : Below B a b) (h' : Below b.heap.size b c) (hB : B ≤ b.heap.size) : Below B a c := h.trans (h'.mono hB)
end Go.Proofs.YtaeoccpjdjafnaaGreat
namespace Go.Proofs.YtaeoccpjdjafnaaGreat.I
open Go.RowKit

theorem ints_snoc (l : List Int) (k : Nat) (h : k < l.length) : ints (l.take k) ++ [Value.int .i64 l[k]] = ints (l.take (k + 1)) := by
  unfold ints; rw [List.take_succ_eq_append_getElem h, List.map_append]; rfl
set_option maxHeartbeats 400000 in
theorem copy_any (B : Nat) (A : Option Addr) (c : Nat) (l : List Int) (hl : l.length ≤ 17592186044000) (w : World) (h : IsInts w B A l) (hB : B ≤ w.heap.size) :
    Calls Tryz.prog 50 #[.slice A l.length c] w fun e w' => ∃ A' c', e = .returned (.slice A' l.length c') ∧ OwnsI 3 w' w.heap.size A' c' l ∧ Below w.heap.size w w' := by
  obtain ⟨i0, hi, hz0, hz1, hz2⟩ := info_parts info_int
  go_enter Tryz.func50, Tryz.ntmps50
  go_wp2
  go_loopw [3, 4] (fun v i wr => ∃ k : Nat, k ≤ l.length ∧ i = .int .i64 k ∧ wr.ownsRow w.heap.size 3 1 v k (ints (l.take k)) ∧ Below w.heap.size w wr) (fun _ i _ => l.length - (RowKit.intOf i).toNat)
  case atStart => exact ⟨0, by omega, rfl, World.ownsRow_nil _ _ _ _, Below.refl _ _⟩
  case round =>
    obtain ⟨k, hk, rfl, hown, hbel⟩ := hrel
    by_cases hlt : k < l.length
    · have h1 := (h.below (hbel.mono hB))
      obtain ⟨b, off, rfl, _, hc⟩ := h1.cells k hlt
      have hck := hc k hlt
      clear hc
      go_wp2_with (at_builtin; refine wpList_append_own _ rfl _ _ 26 rfl w.heap.size 3 i0 (.int .i64 0) 1 8 Tryz.underlying26 hi hz0 hz1 hz2 rfl (by decide) _ _ _ rfl (hown.alloc _) ⟨wr.heap.size, 0, none⟩ 1 1 [.int .i64 l[k]] rfl rfl ?c1 ?c2 ?c3 ?c4 ?c5 ?_)
      case c1 =>
        intro j u hj
        match j, hj with
        | 0, hj => simp at hj; subst hj; simp [Addr.add]
      case c2 => intro u hu; simp at hu; subst hu; rfl
      case c3 => unfold maxLen; omega
      case c4 => omega
      case c5 => have := hbel.size; simp; omega
      intro v' w1 hown' hgrow _
      rw [ints_snoc l k hlt] at hown'
      have hb1 : Below w.heap.size w w1 := (hbel.alloc hbel.size _).grown hgrow (by have := hbel.size; simp; omega) (fun g hg => (hown.lt g hg).1)
      clear hgrow hown hbel hck
      go_wp2
      go_roundw
      case rel => exact ⟨k + 1, by omega, by go_num, hown', hb1⟩
      case measure => simp [RowKit.intOf]; omega
    · obtain rfl : k = l.length := by omega
      rw [List.take_length] at hown
      obtain ⟨A', c', rfl⟩ := own_slice hown
      go_wp2
      go_ret
      exact ⟨A', c', rfl, ⟨h.small, hown⟩, hbel⟩
end Go.Proofs.YtaeoccpjdjafnaaGreat.I
namespace Go.Proofs.YtaeoccpjdjafnaaGreat
open Go.RowKit

theorem sameI_N (B B' : Nat) (A A' : Option Addr) (c c' : Nat) (l m : List Int) (n k : Nat) (hn : l.length = n) (hk : m.length = k) (hl : n ≤ maxLen) (hm : k ≤ maxLen) (w : World) (h : IsInts w B A l) (h' : IsInts w B' A' m) :
    Calls Tryz.prog 63 #[.slice A n c, .slice A' k c'] w fun e w' => e = .returned (.bool (decide (l = m))) ∧ ∃ j, w' = w.drewN j := by
  subst hn; subst hk; exact I.same_any B B' A A' c c' l m hl hm w h h'
theorem sameI_T {w : World} {B B' : Nat} {A A' : Option Addr} {c c' n m : Nat} {l l' : List Int} (hn : l.length = n) (hm : l'.length = m) (hn2 : n ≤ 100000) (he : l' = l) (h : IsInts w B A l) (h' : IsInts w B' A' l') :
    Calls Tryz.prog 63 #[.slice A n c, .slice A' m c'] w fun e w' => e = .returned (.bool true) ∧ ∃ j, w' = w.drewN j := by
  have hm2 : m ≤ 100000 := by rw [← hm, he, hn]; exact hn2
  have := sameI_N B B' A A' c c' l l' n m hn hm (by unfold maxLen; omega) (by unfold maxLen; omega) w h h'
  rw [show decide (l = l') = true from decide_eq_true he.symm] at this
  exact this
end Go.Proofs.YtaeoccpjdjafnaaGreat
namespace Go.Proofs.YtaeoccpjdjafnaaGreat
open Go.RowKit

set_option maxHeartbeats 1000000 in
theorem sameConf_any (B B' : Nat) (c d : Qu.Cf) (hs0 : Short c) (hd0 : Short d) (a0 a1 a2 b0 b1 b2 : Option Addr) (k0 k1 k2 m0 m1 m2 : Nat) (w : World) (h0 : CIs w B c a0 a1 a2 k0 k1 k2) (h0' : CIs w B' d b0 b1 b2 m0 m1 m2) (hB : B ≤ w.heap.size) (hB' : B' ≤ w.heap.size) (he : c = d) :
    Calls Tryz.prog 20 #[.agg #[.slice a0 c.old.length k0, .slice a1 c.new.length k1, .slice a2 c.lrn.length k2], .agg #[.slice b0 d.old.length m0, .slice b1 d.new.length m1, .slice b2 d.lrn.length m2]] w fun e w' => e = .returned (.bool true) ∧ Below w.heap.size w w' := by
  subst he
  have hbel : Below w.heap.size w ((w.alloc (.cells #[.slice a0 c.old.length k0, .slice a1 c.new.length k1, .slice a2 c.lrn.length k2] 28)).alloc (.cells #[.slice b0 c.old.length m0, .slice b1 c.new.length m1, .slice b2 c.lrn.length m2] 28)) := ((Below.refl _ _).alloc (Nat.le_refl _) _).alloc (by simp) _
  have HO := hid (fun j : Nat => sameI_T (n := c.old.length) (m := c.old.length) (c := k0) (c' := m0) rfl rfl (by have := hs0.1; omega) rfl (((h0.below (hbel.mono hB)).o).drewN j) (((h0'.below (hbel.mono hB')).o).drewN j))
  have HN := hid (fun j : Nat => sameI_T (n := c.new.length) (m := c.new.length) (c := k1) (c' := m1) rfl rfl (by have := hs0.2.1; omega) rfl (((h0.below (hbel.mono hB)).n).drewN j) (((h0'.below (hbel.mono hB')).n).drewN j))
  have HL := hid (fun j : Nat => sameI_T (n := c.lrn.length) (m := c.lrn.length) (c := k2) (c' := m2) rfl rfl (by have := hs0.2.2; omega) rfl (((h0.below (hbel.mono hB)).l).drewN j) (((h0'.below (hbel.mono hB')).l).drewN j))
  have HB := hid hbel
  clear hbel h0 h0' hs0 hd0
  go_enter Tryz.func20, Tryz.ntmps20
  go_wp2_with fail
  refine (HO.out 0).mono ?_
  rintro e w1 ⟨rfl, n1, rfl⟩
  go_wp2_with fail
  refine (HN.out _).mono ?_
  rintro e w1 ⟨rfl, n2, rfl⟩
  go_wp2_with fail
  refine (HL.out (n1 + n2)).mono ?_
  rintro e w1 ⟨rfl, n3, rfl⟩
  go_wp2
  go_ret
  exact ⟨rfl, below_drewN HB.out _⟩

theorem ownsI_cap {e : TypeId} {w : World} {base c : Nat} {A : Option Addr} {l : List Int} (h : OwnsI e w base A c l) : (A = none → c = 0) ∧ l.length ≤ c ∧ c ≤ maxLen := by
  rcases h.row.2 with ⟨hv, h0⟩ | ⟨g, cap, cur, hv, _, _, h1, h2, _, _⟩
  · have h2 : c = 0 := by injection hv
    exact ⟨fun _ => h2, by omega, by omega⟩
  · have h3 : c = cap := by injection hv
    refine ⟨fun e => ?_, by omega, by omega⟩
    subst e
    cases hv

set_option maxRecDepth 100000 in
set_option maxHeartbeats 2000000 in
theorem copyConf_sep (B : Nat) (c : Qu.Cf) (hs0 : Short c) (a0 a1 a2 : Option Addr) (k0 k1 k2 : Nat) (w : World) (h0 : CIs w B c a0 a1 a2 k0 k1 k2) (hB : B ≤ w.heap.size) :
    Calls Tryz.prog 13 #[.agg #[.slice a0 c.old.length k0, .slice a1 c.new.length k1, .slice a2 c.lrn.length k2]] w fun e w' => ∃ A0 A1 A2 p0 p1 p2, e = .returned (.agg #[.slice A0 c.old.length p0, .slice A1 c.new.length p1, .slice A2 c.lrn.length p2]) ∧ (∃ m1 m2, (w.heap.size ≤ m1 ∧ m1 ≤ m2 ∧ m2 ≤ w'.heap.size) ∧ (OwnsI 3 w' w.heap.size A0 p0 c.old ∧ ∀ k, blk A0 = some k → k < m1) ∧ (OwnsI 3 w' m1 A1 p1 c.new ∧ ∀ k, blk A1 = some k → k < m2) ∧ OwnsI 3 w' m2 A2 p2 c.lrn) ∧ CIs w' w'.heap.size c A0 A1 A2 p0 p1 p2 ∧ Below w.heap.size w w' := by
  obtain ⟨wb, hwb⟩ : ∃ wb, wb = (w.alloc (.cells #[.slice a0 c.old.length k0, .slice a1 c.new.length k1, .slice a2 c.lrn.length k2] 28)).alloc (.cells #[.slice none 0 0, .slice none 0 0, .slice none 0 0] 28) := ⟨_, rfl⟩
  have hbel : Below w.heap.size w wb := by rw [hwb]; exact ((Below.refl _ _).alloc (Nat.le_refl _) _).alloc (by simp) _
  have hsz : wb.heap.size = w.heap.size + 2 := by rw [hwb]; simp
  have hrow : wb.heap[w.heap.size]? = some (.cells #[.slice a0 c.old.length k0, .slice a1 c.new.length k1, .slice a2 c.lrn.length k2] 28 (0, 0)) := by rw [hwb, Below.heap_alloc _ _ _ (by simp)]; exact heap_alloc_new w _
  have hrow2 : wb.heap[w.heap.size + 1]? = some (.cells #[.slice none 0 0, .slice none 0 0, .slice none 0 0] 28 (0, 0)) := by
    rw [hwb]
    have := heap_alloc_new (w.alloc (.cells #[.slice a0 c.old.length k0, .slice a1 c.new.length k1, .slice a2 c.lrn.length k2] 28)) (.cells #[.slice none 0 0, .slice none 0 0, .slice none 0 0] 28)
    rwa [World.size_alloc] at this
  have hI := h0.below (hbel.mono hB)
  have HX : Hid (∀ w', Below wb.drew.heap.size wb.drew w' → w'.cell? ⟨w.heap.size, 0, none⟩ = some (.slice a0 c.old.length k0) ∧ w'.cell? ⟨w.heap.size, 1, none⟩ = some (.slice a1 c.new.length k1) ∧ w'.cell? ⟨w.heap.size, 2, none⟩ = some (.slice a2 c.lrn.length k2)) := hid fun w' hb => by
    have h1 : w'.heap[w.heap.size]? = _ := (hb.block w.heap.size (by show w.heap.size < wb.heap.size; omega)).trans hrow
    exact ⟨cell_of_row w' w.heap.size 0 _ _ _ h1, cell_of_row w' w.heap.size 1 _ _ _ h1, cell_of_row w' w.heap.size 2 _ _ _ h1⟩
  have HK : Hid (∀ w' v0 v1 v2, Below wb.drew.heap.size wb.drew w' → (((w'.setCell ⟨w.heap.size + 1, 0, none⟩ v0).setCell ⟨w.heap.size + 1, 1, none⟩ v1).setCell ⟨w.heap.size + 1, 2, none⟩ v2).cell? ⟨w.heap.size, 0, none⟩ = some (.slice a0 c.old.length k0) ∧ (((w'.setCell ⟨w.heap.size + 1, 0, none⟩ v0).setCell ⟨w.heap.size + 1, 1, none⟩ v1).setCell ⟨w.heap.size + 1, 2, none⟩ v2).cell? ⟨w.heap.size, 1, none⟩ = some (.slice a1 c.new.length k1) ∧ (((w'.setCell ⟨w.heap.size + 1, 0, none⟩ v0).setCell ⟨w.heap.size + 1, 1, none⟩ v1).setCell ⟨w.heap.size + 1, 2, none⟩ v2).cell? ⟨w.heap.size, 2, none⟩ = some (.slice a2 c.lrn.length k2)) := hid fun w' v0 v1 v2 hb => by
    have h1 : w'.heap[w.heap.size]? = _ := (hb.block w.heap.size (by show w.heap.size < wb.heap.size; omega)).trans hrow
    have h2 : (((w'.setCell ⟨w.heap.size + 1, 0, none⟩ v0).setCell ⟨w.heap.size + 1, 1, none⟩ v1).setCell ⟨w.heap.size + 1, 2, none⟩ v2).heap[w.heap.size]? = w'.heap[w.heap.size]? := by
      rw [Below.heap_setCell _ _ _ _ (show w.heap.size ≠ w.heap.size + 1 by omega), Below.heap_setCell _ _ _ _ (show w.heap.size ≠ w.heap.size + 1 by omega), Below.heap_setCell _ _ _ _ (show w.heap.size ≠ w.heap.size + 1 by omega)]
    have h2 := h2.trans h1
    exact ⟨cell_of_row _ w.heap.size 0 _ _ _ h2, cell_of_row _ w.heap.size 1 _ _ _ h2, cell_of_row _ w.heap.size 2 _ _ _ h2⟩
  have HZ : Hid (∀ w', Below wb.drew.heap.size wb.drew w' → (w'.cell? ⟨w.heap.size + 1, 0, none⟩ = some (.slice none 0 0) ∧ w'.cell? ⟨w.heap.size + 1, 1, none⟩ = some (.slice none 0 0) ∧ w'.cell? ⟨w.heap.size + 1, 2, none⟩ = some (.slice none 0 0)) ∧ (∀ k, w'.frozen? ⟨w.heap.size + 1, k, none⟩ = false)) := hid fun w' hb => by
    have h1 : w'.heap[w.heap.size + 1]? = _ := (hb.block (w.heap.size + 1) (by show w.heap.size + 1 < wb.heap.size; omega)).trans hrow2
    exact ⟨⟨cell_of_row w' (w.heap.size + 1) 0 _ _ _ h1, cell_of_row w' (w.heap.size + 1) 1 _ _ _ h1, cell_of_row w' (w.heap.size + 1) 2 _ _ _ h1⟩, fun k => by simp [World.frozen?, h1]⟩
  have HZR : Hid (∀ w', Below wb.drew.heap.size wb.drew w' → w'.heap[w.heap.size + 1]? = some (.cells #[.slice none 0 0, .slice none 0 0, .slice none 0 0] 28 (0, 0))) := hid fun w' hb => (hb.block (w.heap.size + 1) (by show w.heap.size + 1 < wb.heap.size; omega)).trans hrow2
  have hd : wb.drew.heap.size = wb.heap.size := rfl
  have HD := hid (And.intro hd hsz)
  have CP : ∀ (A : Option Addr) (k : Nat) (l : List Int), l.length ≤ 20000 → IsInts wb B A l → ∀ w', Below wb.drew.heap.size wb.drew w' → Calls Tryz.prog 50 #[.slice A l.length k] w' fun e w'' => ∃ A' p, e = .returned (.slice A' l.length p) ∧ Hid (OwnsI 3 w'' w'.heap.size A' p l) ∧ Hid (Below wb.drew.heap.size wb.drew w'') ∧ Hid (Below w'.heap.size w' w'') := fun A k l hl hi w' hb =>
    (I.copy_any B A k l (by omega) w' (hi.drew.below (hb.mono (by show B ≤ wb.heap.size; omega))) (by have := hb.size; omega)).mono fun e w'' ⟨A', p, he, ho, hb2⟩ => ⟨A', p, he, hid ho, hid (bthen hb hb2 hb.size), hid hb2⟩
  have HC0 := hid (CP a0 k0 c.old hs0.1 hI.o wb.drew (Below.refl _ _))
  have HC1 := hid (CP a1 k1 c.new hs0.2.1 hI.n)
  have HC2 := hid (CP a2 k2 c.lrn hs0.2.2 hI.l)
  have c0 := (HX.out wb.drew (Below.refl _ _)).1
  have c1 := (HX.out wb.drew (Below.refl _ _)).2.1
  have c2 := (HX.out wb.drew (Below.refl _ _)).2.2
  have HB := hid hbel
  clear hbel hI h0 hs0 hsz hrow hrow2 hd CP
  go_enter Tryz.func13, Tryz.ntmps13
  go_wp2_with fail
  rw [← hwb]; clear hwb
  go_region_held3 (fun w' => w'.cell? ⟨w.heap.size, 0, none⟩ = some (.slice a0 c.old.length k0) ∧ w'.cell? ⟨w.heap.size, 1, none⟩ = some (.slice a1 c.new.length k1) ∧ w'.cell? ⟨w.heap.size, 2, none⟩ = some (.slice a2 c.lrn.length k2))
    (first | exact ⟨c0, c1, c2⟩ | exact HK.out _ _ _ _ hb3.out | exact HX.out _ hb3.out | exact HX.out _ hb2.out | exact HX.out _ hb1.out | fail)
    (first
      | (go_at_call 50; refine HY2.out.mono ?_; rintro e3 w3 ⟨A2, p2, rfl, ho2, hb3, hbb3⟩; obtain ⟨⟨z0, z1, z2⟩, fz⟩ := HZ.out w3 hb3.out; have f0 := fz 0; have f1 := fz 1; have f2 := fz 2)
      | (go_at_call 50; refine HY1.out.mono ?_; rintro e2 w2 ⟨A1, p1, rfl, ho1, hb2, hbb2⟩; have HY2 := hid (HC2.out w2 hb2.out))
      | (go_at_call 50; refine HC0.out.mono ?_; rintro e1 w1 ⟨A0, p0, rfl, ho0, hb1, hbb1⟩; have HY1 := hid (HC1.out w1 hb1.out)))
  obtain ⟨w4, hw4⟩ : ∃ w4, w4 = ((w3.setCell ⟨w.heap.size + 1, 0, none⟩ (.slice A0 c.old.length p0)).setCell ⟨w.heap.size + 1, 1, none⟩ (.slice A1 c.new.length p1)).setCell ⟨w.heap.size + 1, 2, none⟩ (.slice A2 c.lrn.length p2) := ⟨_, rfl⟩
  rw [← hw4]
  have hx3 := HZR.out w3 hb3.out
  have hx4 : w4.heap[w.heap.size + 1]? = some (.cells #[.slice A0 c.old.length p0, .slice A1 c.new.length p1, .slice A2 c.lrn.length p2] 28 (0, 0)) := by
    rw [hw4]
    simp [World.setCell, Array.getElem?_modify, hx3]
  have hg : w3.grownBy w4 (some (w.heap.size + 1)) := by
    rw [hw4]
    refine ⟨rfl, rfl, rfl, by simp [World.setCell], fun k hk hne => ?_⟩
    have hne' : k ≠ w.heap.size + 1 := fun e => hne (by rw [e])
    rw [Below.heap_setCell _ _ _ _ hne', Below.heap_setCell _ _ _ _ hne', Below.heap_setCell _ _ _ _ hne']
  have r0 : w4.cell? ⟨w.heap.size + 1, 0, none⟩ = some (.slice A0 c.old.length p0) := by simp [World.cell?, hx4]
  have r1 : w4.cell? ⟨w.heap.size + 1, 1, none⟩ = some (.slice A1 c.new.length p1) := by simp [World.cell?, hx4]
  have r2 : w4.cell? ⟨w.heap.size + 1, 2, none⟩ = some (.slice A2 c.lrn.length p2) := by simp [World.cell?, hx4]
  have HG := hid hg
  clear hw4 hx3 hx4 hg HK fz f0 f1 f2 z0 z1 z2
  go_wp2
  refine bodyPost_ret (by simp [results, Tryz.results13, go_sem, r0, r1, r2]; try rfl) rfl ?_
  have hs0 := HD.out.1
  have hs1 := HD.out.2
  have hz1 := hb1.out.size
  have hz2 := hb2.out.size
  have o0 := ((ho0.out.below (hbb2.out)).below hbb3.out).grown HG.out (fun k e => by injection e with e; omega)
  have o1 := (ho1.out.below hbb3.out).grown HG.out (fun k e => by injection e with e; omega)
  have o2 := ho2.out.grown HG.out (fun k e => by injection e with e; omega)
  have hz4 := HG.out.size
  have hz3 := hb3.out.size
  have hzb2 := hbb2.out.size
  have hzb3 := hbb3.out.size
  refine ⟨A0, A1, A2, p0, p1, p2, rfl, ⟨w1.heap.size, w2.heap.size, ⟨by omega, hzb2, by omega⟩, ⟨o0.weaken (by omega), fun k hk => (ho0.out.blkLt k hk).2⟩, ⟨o1, fun k hk => (ho1.out.blkLt k hk).2⟩, o2⟩, ⟨o0.reads, o1.reads, o2.reads, (ownsI_cap o0).1, (ownsI_cap o1).1, (ownsI_cap o2).1, (ownsI_cap o0).2, (ownsI_cap o1).2, (ownsI_cap o2).2⟩, ?_⟩
  exact ((Below.drew HB.out).trans (hb3.out.mono (by omega))).grown HG.out (by have := hb3.out.size; omega) (fun k e => by injection e with e; omega)
set_option linter.unusedVariables false in
theorem copyConf_own (B : Nat) (c : Qu.Cf) (hs0 : Short c) (a0 a1 a2 : Option Addr) (k0 k1 k2 : Nat) (w : World) (h0 : CIs w B c a0 a1 a2 k0 k1 k2) (hB : B ≤ w.heap.size) :
    Calls Tryz.prog 13 #[.agg #[.slice a0 c.old.length k0, .slice a1 c.new.length k1, .slice a2 c.lrn.length k2]] w fun e w' => ∃ A0 A1 A2 p0 p1 p2, e = .returned (.agg #[.slice A0 c.old.length p0, .slice A1 c.new.length p1, .slice A2 c.lrn.length p2]) ∧ (OwnsI 3 w' w.heap.size A0 p0 c.old ∧ OwnsI 3 w' w.heap.size A1 p1 c.new ∧ OwnsI 3 w' w.heap.size A2 p2 c.lrn) ∧ CIs w' w'.heap.size c A0 A1 A2 p0 p1 p2 ∧ Below w.heap.size w w' :=
  (copyConf_sep B c hs0 a0 a1 a2 k0 k1 k2 w h0 hB).mono fun _ _ ⟨A0, A1, A2, p0, p1, p2, h1, ⟨m1, m2, ⟨g1, g2, g3⟩, o0, o1, o2⟩, h2⟩ => ⟨A0, A1, A2, p0, p1, p2, h1, ⟨o0.1, o1.1.weaken g1, o2.weaken (Nat.le_trans g1 g2)⟩, h2⟩
theorem copyConf_any (B : Nat) (c : Qu.Cf) (hs0 : Short c) (a0 a1 a2 : Option Addr) (k0 k1 k2 : Nat) (w : World) (h0 : CIs w B c a0 a1 a2 k0 k1 k2) (hB : B ≤ w.heap.size) :
    Calls Tryz.prog 13 #[.agg #[.slice a0 c.old.length k0, .slice a1 c.new.length k1, .slice a2 c.lrn.length k2]] w fun e w' => ∃ A0 A1 A2 p0 p1 p2, e = .returned (.agg #[.slice A0 c.old.length p0, .slice A1 c.new.length p1, .slice A2 c.lrn.length p2]) ∧ CIs w' w'.heap.size c A0 A1 A2 p0 p1 p2 ∧ Below w.heap.size w w' :=
  (copyConf_own B c hs0 a0 a1 a2 k0 k1 k2 w h0 hB).mono fun _ _ ⟨A0, A1, A2, p0, p1, p2, h1, _, h2⟩ => ⟨A0, A1, A2, p0, p1, p2, h1, h2⟩
end Go.Proofs.YtaeoccpjdjafnaaGreat
namespace Go.Proofs.YtaeoccpjdjafnaaGreat.Im
open Go Go.RowKit
open Rl (En Lg)
open Qu (Cf)
set_option maxRecDepth 100000
set_option linter.unusedVariables false
attribute [local go_sem ↓] loadAt_hard storeAt_hard loadAt_vote storeAt_vote loadAt_log1 storeAt_log1 loadAt_conf3 storeAt_conf3 loadAt_image storeAt_image

theorem IsPt.cis {w : World} {B : Nat} {p : Pt} {a : Ad} (h : IsPt w B p a) : CIs w B p.cf a.o a.n a.l a.co a.cn a.cl :=
  ⟨h.o, h.n, h.l, h.ro.2, h.rn.2, h.rl.2, h.ro.1, h.rn.1, h.rl.1⟩
/-- parts that the walks of the kit can bear -/
structure FewK (p : Pt) : Prop where
  es : p.log.es.length ≤ 90000
  sh : Short p.cf
theorem ldLogH {w : World} {cs : Array Value} {t : TypeId} {b k : Nat} {v1 v2 v3 : Value} (h : w.heap[b]? = some (.cells cs t (0, 0))) (h1 : cs[k]? = some v1) (h2 : cs[k + 1]? = some v2) (h3 : cs[k + 2]? = some v3) :
    (ldX 58 (.pointer (some ⟨b, k, none⟩))).run Tryz.prog w = .ok (.agg #[v1, v2, v3]) w :=
  run_loadAt_mid w b k 58 [v1, v2, v3] _ (fun j v hv => by
    rw [row_cell h (k + j)]
    rcases j with _ | _ | _ | j
    · simpa using h1.trans (by simpa using hv)
    · simpa using h2.trans (by simpa using hv)
    · simpa using h3.trans (by simpa using hv)
    · simp at hv) Tryz.underlying58 rfl (by rw [info_log33]; rfl)
theorem ldConfH {w : World} {cs : Array Value} {t : TypeId} {b k : Nat} {v1 v2 v3 : Value} (h : w.heap[b]? = some (.cells cs t (0, 0))) (h1 : cs[k]? = some v1) (h2 : cs[k + 1]? = some v2) (h3 : cs[k + 2]? = some v3) :
    (ldX 28 (.pointer (some ⟨b, k, none⟩))).run Tryz.prog w = .ok (.agg #[v1, v2, v3]) w :=
  run_loadAt_mid w b k 28 [v1, v2, v3] _ (fun j v hv => by
    rw [row_cell h (k + j)]
    rcases j with _ | _ | _ | j
    · simpa using h1.trans (by simpa using hv)
    · simpa using h2.trans (by simpa using hv)
    · simpa using h3.trans (by simpa using hv)
    · simp at hv) Tryz.underlying28 rfl (by rw [info_conf33]; rfl)
set_option maxHeartbeats 1600000 in
theorem sameH_any (x : Hd) (a a' : Ad) (hf : FewK x.p) (w : World) (h : IsPt w w.heap.size x.p a) (h' : IsPt w w.heap.size x.p a') :
    Calls Tryz.prog 106 #[.agg #[.int .i64 x.g, .int .i64 x.t, .int .i64 x.v, .int .i64 x.p.log.base, .int .i64 x.p.log.term, .slice a.e x.p.log.es.length a.ce, .slice a.o x.p.cf.old.length a.co, .slice a.n x.p.cf.new.length a.cn, .slice a.l x.p.cf.lrn.length a.cl, .slice a.s x.p.sn.length a.cs], .agg #[.int .i64 x.g, .int .i64 x.t, .int .i64 x.v, .int .i64 x.p.log.base, .int .i64 x.p.log.term, .slice a'.e x.p.log.es.length a'.ce, .slice a'.o x.p.cf.old.length a'.co, .slice a'.n x.p.cf.new.length a'.cn, .slice a'.l x.p.cf.lrn.length a'.cl, .slice a'.s x.p.sn.length a'.cs]] w fun e w' => e = .returned (.bool true) ∧ Below w.heap.size w w' := by
  obtain ⟨wA, hwA⟩ : ∃ wA, wA = (w.alloc (.cells #[.int .i64 x.g, .int .i64 x.t, .int .i64 x.v, .int .i64 x.p.log.base, .int .i64 x.p.log.term, .slice a.e x.p.log.es.length a.ce, .slice a.o x.p.cf.old.length a.co, .slice a.n x.p.cf.new.length a.cn, .slice a.l x.p.cf.lrn.length a.cl, .slice a.s x.p.sn.length a.cs] 75)).alloc (.cells #[.int .i64 x.g, .int .i64 x.t, .int .i64 x.v, .int .i64 x.p.log.base, .int .i64 x.p.log.term, .slice a'.e x.p.log.es.length a'.ce, .slice a'.o x.p.cf.old.length a'.co, .slice a'.n x.p.cf.new.length a'.cn, .slice a'.l x.p.cf.lrn.length a'.cl, .slice a'.s x.p.sn.length a'.cs] 75) := ⟨_, rfl⟩
  have hbA : Below w.heap.size w wA := by rw [hwA]; exact ((Below.refl _ w).alloc (Nat.le_refl _) _).alloc (by simp) _
  have r0 : wA.heap[w.heap.size]? = some (.cells #[.int .i64 x.g, .int .i64 x.t, .int .i64 x.v, .int .i64 x.p.log.base, .int .i64 x.p.log.term, .slice a.e x.p.log.es.length a.ce, .slice a.o x.p.cf.old.length a.co, .slice a.n x.p.cf.new.length a.cn, .slice a.l x.p.cf.lrn.length a.cl, .slice a.s x.p.sn.length a.cs] 75 (0, 0)) := by rw [hwA, heap_alloc_old _ _ (by simp)]; exact heap_alloc_new w _
  have r1 : wA.heap[w.heap.size + 1]? = some (.cells #[.int .i64 x.g, .int .i64 x.t, .int .i64 x.v, .int .i64 x.p.log.base, .int .i64 x.p.log.term, .slice a'.e x.p.log.es.length a'.ce, .slice a'.o x.p.cf.old.length a'.co, .slice a'.n x.p.cf.new.length a'.cn, .slice a'.l x.p.cf.lrn.length a'.cl, .slice a'.s x.p.sn.length a'.cs] 75 (0, 0)) := by
    have := heap_alloc_new (w.alloc (.cells #[.int .i64 x.g, .int .i64 x.t, .int .i64 x.v, .int .i64 x.p.log.base, .int .i64 x.p.log.term, .slice a.e x.p.log.es.length a.ce, .slice a.o x.p.cf.old.length a.co, .slice a.n x.p.cf.new.length a.cn, .slice a.l x.p.cf.lrn.length a.cl, .slice a.s x.p.sn.length a.cs] 75)) (.cells #[.int .i64 x.g, .int .i64 x.t, .int .i64 x.v, .int .i64 x.p.log.base, .int .i64 x.p.log.term, .slice a'.e x.p.log.es.length a'.ce, .slice a'.o x.p.cf.old.length a'.co, .slice a'.n x.p.cf.new.length a'.cn, .slice a'.l x.p.cf.lrn.length a'.cl, .slice a'.s x.p.sn.length a'.cs] 75)
    rw [World.size_alloc, ← hwA] at this
    exact this
  have hA := (h.below hbA).more hbA.size
  have hA' := (h'.below hbA).more hbA.size
  have HL := hid ((log_same x.p.log x.p.log a.e a'.e a.ce a'.ce (by have := hf.es; omega) wA hA.es hA'.es).mono (fun e w' hh => (⟨by rw [hh.1, decide_eq_true rfl], hh.2⟩ : e = .returned (.bool true) ∧ Below wA.heap.size wA w')))
  have c0 := row_cell r0 0
  have c1 := row_cell r0 1
  have c2 := row_cell r0 2
  have d0 := row_cell r1 0
  have d1 := row_cell r1 1
  have d2 := row_cell r1 2
  have l0 := ldLogH (k := 3) r0 rfl rfl rfl
  have l1 := ldLogH (k := 3) r1 rfl rfl rfl
  rw [hwA] at c0 c1 c2 d0 d1 d2 l0 l1
  have HX := hid (And.intro r0 (And.intro r1 (And.intro hbA (And.intro h (And.intro h' hf)))))
  clear r0 r1 hbA h h' hA hA' hf
  go_enter Tryz.func106, Tryz.ntmps106
  go_wp2_with fail
  rw [← hwA]
  clear hwA c0 c1 c2 d0 d1 d2 l0 l1
  refine HL.out.mono ?_
  rintro e w1 ⟨rfl, hb1⟩
  have r01 := (hb1.block _ (row_lt HX.out.1)).trans HX.out.1
  have r11 := (hb1.block _ (row_lt HX.out.2.1)).trans HX.out.2.1
  have hbw1 := HX.out.2.2.1.trans (hb1.mono HX.out.2.2.1.size)
  have l2 := ldConfH (k := 6) r01 rfl rfl rfl
  have l3 := ldConfH (k := 6) r11 rfl rfl rfl
  have HC := hid (sameConf_any w1.heap.size w1.heap.size x.p.cf x.p.cf HX.out.2.2.2.2.2.sh HX.out.2.2.2.2.2.sh _ _ _ _ _ _ _ _ _ _ _ _ w1 ((HX.out.2.2.2.1.below hbw1).more hbw1.size).cis ((HX.out.2.2.2.2.1.below hbw1).more hbw1.size).cis (Nat.le_refl _) (Nat.le_refl _) rfl)
  have HB1 := hid (And.intro r01 (And.intro r11 hbw1))
  clear r01 r11 hbw1 hb1
  go_wp2_with fail
  refine HC.out.mono ?_
  rintro e w2 ⟨rfl, hb2⟩
  have r02 := (hb2.block _ (row_lt HB1.out.1)).trans HB1.out.1
  have r12 := (hb2.block _ (row_lt HB1.out.2.1)).trans HB1.out.2.1
  have hbw2 := HB1.out.2.2.trans (hb2.mono HB1.out.2.2.size)
  have c9 : w2.cell? ⟨w.heap.size, 9, none⟩ = some (.slice a.s x.p.sn.length a.cs) := row_cell r02 9
  have d9 : w2.cell? ⟨w.heap.size + 1, 9, none⟩ = some (.slice a'.s x.p.sn.length a'.cs) := row_cell r12 9
  have hrs := HX.out.2.2.2.1.rs.1
  have HS := hid (same_T w2.heap.size w2.heap.size a.s a'.s a.cs a'.cs x.p.sn x.p.sn.length rfl (Nat.le_trans hrs.1 hrs.2) w2 ((HX.out.2.2.2.1.below hbw2).more hbw2.size).s ((HX.out.2.2.2.2.1.below hbw2).more hbw2.size).s)
  have HB2 := hid hbw2
  clear r02 r12 hbw2 hb2 hrs l2 l3
  go_wp2_with fail
  refine HS.out.mono ?_
  rintro e w3 ⟨rfl, n3, rfl⟩
  go_wp2_with fail
  go_ret
  exact ⟨rfl, below_drewN HB2.out _⟩
set_option maxHeartbeats 1600000 in
theorem sameHs_any (A A' : Option Addr) (c c' n : Nat) (Q R : List Hq) (hn : Q.length = n) (hR : Q.map (·.h) = R.map (·.h)) (hl : n ≤ 100000) (hf : ∀ q ∈ Q, FewK q.h.p) (w : World) (h : IsHds w w.heap.size A Q) (h' : IsHds w w.heap.size A' R) :
    Calls Tryz.prog 61 #[.slice A n c, .slice A' n c'] w fun e w' => e = .returned (.bool true) ∧ Below w.heap.size w w' := by
  subst hn
  have hl0 : R.length = Q.length := by have := congrArg List.length hR; rw [List.length_map, List.length_map] at this; exact this.symm
  have HH := hid (And.intro h (And.intro h' (And.intro hf (And.intro hR hl0))))
  clear h h' hf hR
  go_enter Tryz.func61, Tryz.ntmps61
  go_wp2_with fail
  go_loopw [5] (fun i wr => ∃ k : Nat, k ≤ Q.length ∧ i = .int .i64 k ∧ Hid (Below w.heap.size w wr)) (fun i _ => Q.length - (RowKit.intOf i).toNat)
  case atStart => exact ⟨0, by omega, rfl, hid (Below.refl _ _)⟩
  case round =>
    obtain ⟨k, hk, rfl, hS⟩ := hrel
    by_cases hlt : k < Q.length
    · have hkM : k < R.length := by omega
      have hr := HH.out.1.below hS.out
      have hr' := HH.out.2.1.below hS.out
      obtain ⟨b, off, rfl, hbl, hc⟩ := hr.row.at_ k hlt
      obtain ⟨b', off', rfl, hbl', hc'⟩ := hr'.row.at_ k hkM
      obtain ⟨x, ax⟩ : ∃ x : Hd, x = Q[k].h := ⟨_, rfl⟩
      have ax' : R[k].h = x := by
        have h1 : (Q.map (·.h))[k]'(by simpa using hlt) = (R.map (·.h))[k]'(by simpa using hkM) := by congr 1; exact HH.out.2.2.2.1
        rw [List.getElem_map, List.getElem_map] at h1
        rw [ax, h1]
      obtain ⟨p, hp⟩ : ∃ p, p = Q[k].a := ⟨_, rfl⟩
      obtain ⟨p', hp'⟩ : ∃ p, p = R[k].a := ⟨_, rfl⟩
      have hr0 := hc k hlt
      have hr1 := hc' k hkM
      have hq : Q[k] = ⟨x, p⟩ := by rw [ax, hp]
      have hq' : R[k] = ⟨x, p'⟩ := by rw [← ax', hp']
      rw [hq] at hr0
      rw [hq'] at hr1
      have hm1 := hr.pt _ (List.getElem_mem hlt)
      have hm2 := hr'.pt _ (List.getElem_mem hkM)
      have hfk := HH.out.2.2.1 _ (List.getElem_mem hlt)
      rw [hq] at hm1 hfk
      rw [hq'] at hm2
      have l0 : (ldX 75 (.pointer (some ⟨b, off + k * 10, none⟩))).run Tryz.prog wr.drew = .ok (.agg #[.int .i64 x.g, .int .i64 x.t, .int .i64 x.v, .int .i64 x.p.log.base, .int .i64 x.p.log.term, .slice p.e x.p.log.es.length p.ce, .slice p.o x.p.cf.old.length p.co, .slice p.n x.p.cf.new.length p.cn, .slice p.l x.p.cf.lrn.length p.cl, .slice p.s x.p.sn.length p.cs]) wr.drew := ldH wr.drew b (off + k * 10) (cellsH ⟨x, p⟩) rfl hr0
      have l1 : (ldX 75 (.pointer (some ⟨b', off' + k * 10, none⟩))).run Tryz.prog wr.drew = .ok (.agg #[.int .i64 x.g, .int .i64 x.t, .int .i64 x.v, .int .i64 x.p.log.base, .int .i64 x.p.log.term, .slice p'.e x.p.log.es.length p'.ce, .slice p'.o x.p.cf.old.length p'.co, .slice p'.n x.p.cf.new.length p'.cn, .slice p'.l x.p.cf.lrn.length p'.cl, .slice p'.s x.p.sn.length p'.cs]) wr.drew := ldH wr.drew b' (off' + k * 10) (cellsH ⟨x, p'⟩) rfl hr1
      have HC := hid (sameH_any x p p' hfk wr.drew ((hm1.below (Below.refl _ wr).drew).more hS.out.size) ((hm2.below (Below.refl _ wr).drew).more hS.out.size))
      have hk0 : (k : Int) < (Q.length : Int) := by omega
      clear hc hc' hr hr' hr0 hr1 hq hq' hm1 hm2 hfk ax ax' hp hp' hl0
      go_wp2_with fail
      go_still_tail 8, (by kernel_rfl)
      go_wp2_with fail
      refine HC.out.mono ?_
      rintro e w2 ⟨rfl, hb2⟩
      have HB2 : Hid (Below w.heap.size w w2) := hid (hS.out.trans (((Below.refl _ wr).drew.trans hb2).mono hS.out.size))
      clear hb2 l0 l1
      go_wp2_with fail
      go_roundw
      case rel => exact ⟨k + 1, by omega, by go_num, HB2⟩
      case measure => simp [RowKit.intOf]; omega
    · obtain rfl : k = Q.length := by omega
      have hk0 : ¬ (Q.length : Int) < (Q.length : Int) := by omega
      clear hlt
      go_wp2_with fail
      go_ret
      exact ⟨rfl, hS.out⟩
set_option maxHeartbeats 1600000 in
theorem sameVs_any (A A' : Option Addr) (c c' n : Nat) (L : List Vt) (hn : L.length = n) (hl : n ≤ 100000) (w : World) (h : IsVs w w.heap.size A L) (h' : IsVs w w.heap.size A' L) :
    Calls Tryz.prog 62 #[.slice A n c, .slice A' n c'] w fun e w' => e = .returned (.bool true) ∧ Below w.heap.size w w' := by
  subst hn
  have HH := hid (And.intro h h')
  clear h h'
  go_enter Tryz.func62, Tryz.ntmps62
  go_wp2_with fail
  go_loopw [5] (fun i wr => ∃ k : Nat, k ≤ L.length ∧ i = .int .i64 k ∧ Hid (Below w.heap.size w wr)) (fun i _ => L.length - (RowKit.intOf i).toNat)
  case atStart => exact ⟨0, by omega, rfl, hid (Below.refl _ _)⟩
  case round =>
    obtain ⟨k, hk, rfl, hS⟩ := hrel
    by_cases hlt : k < L.length
    · have hr := HH.out.1.row.below hS.out
      have hr' := HH.out.2.row.below hS.out
      obtain ⟨b, off, rfl, hbl, hc⟩ := hr.at_ k hlt
      obtain ⟨b', off', rfl, hbl', hc'⟩ := hr'.at_ k hlt
      obtain ⟨v, hv⟩ : ∃ v : Vt, v = L[k] := ⟨_, rfl⟩
      have hr0 := hc k hlt
      have hr1 := hc' k hlt
      rw [← hv] at hr0 hr1
      have l0 : (ldX 60 (.pointer (some ⟨b, off + k * 5, none⟩))).run Tryz.prog wr.drew = .ok (.agg #[.int .i64 v.x, .int .i64 v.p, .int .i64 v.r, .int .i64 v.b, .int .i64 v.v]) wr.drew := ldV wr.drew b (off + k * 5) (cellsV v) rfl hr0
      have l1 : (ldX 60 (.pointer (some ⟨b', off' + k * 5, none⟩))).run Tryz.prog wr.drew = .ok (.agg #[.int .i64 v.x, .int .i64 v.p, .int .i64 v.r, .int .i64 v.b, .int .i64 v.v]) wr.drew := ldV wr.drew b' (off' + k * 5) (cellsV v) rfl hr1
      have HB2 : Hid (Below w.heap.size w wr.drew) := hid hS.out.drew
      have hk0 : (k : Int) < (L.length : Int) := by omega
      clear hc hc' hr hr' hr0 hr1 hv
      go_wp2_with fail
      go_still_tail 8, (by kernel_rfl)
      go_wp2_with fail
      go_roundw
      case rel => exact ⟨k + 1, by omega, by go_num, HB2⟩
      case measure => simp [RowKit.intOf]; omega
    · obtain rfl : k = L.length := by omega
      have hk0 : ¬ (L.length : Int) < (L.length : Int) := by omega
      clear hlt
      go_wp2_with fail
      go_ret
      exact ⟨rfl, hS.out⟩
set_option maxHeartbeats 1600000 in
theorem sameIm_any (i i' : Ia) (nh nv : Nat) (Q R : List Hq) (L : List Vt) (hnh : Q.length = nh) (hnv : L.length = nv) (hR : Q.map (·.h) = R.map (·.h)) (hlh : nh ≤ 100000) (hlv : nv ≤ 100000) (hf : ∀ q ∈ Q, FewK q.h.p) (w : World) (h : IsHds w w.heap.size i.h Q) (h' : IsHds w w.heap.size i'.h R) (hv : IsVs w w.heap.size i.v L) (hv' : IsVs w w.heap.size i'.v L) :
    Calls Tryz.prog 19 #[.agg #[.slice i.h nh i.ch, .slice i.v nv i.cv], .agg #[.slice i'.h nh i'.ch, .slice i'.v nv i'.cv]] w fun e w' => e = .returned (.bool true) ∧ Below w.heap.size w w' := by
  obtain ⟨wA, hwA⟩ : ∃ wA, wA = (w.alloc (.cells #[.slice i.h nh i.ch, .slice i.v nv i.cv] 25)).alloc (.cells #[.slice i'.h nh i'.ch, .slice i'.v nv i'.cv] 25) := ⟨_, rfl⟩
  have hbA : Below w.heap.size w wA := by rw [hwA]; exact ((Below.refl _ w).alloc (Nat.le_refl _) _).alloc (by simp) _
  have r0 : wA.heap[w.heap.size]? = some (.cells #[.slice i.h nh i.ch, .slice i.v nv i.cv] 25 (0, 0)) := by rw [hwA, heap_alloc_old _ _ (by simp)]; exact heap_alloc_new w _
  have r1 : wA.heap[w.heap.size + 1]? = some (.cells #[.slice i'.h nh i'.ch, .slice i'.v nv i'.cv] 25 (0, 0)) := by
    have := heap_alloc_new (w.alloc (.cells #[.slice i.h nh i.ch, .slice i.v nv i.cv] 25)) (.cells #[.slice i'.h nh i'.ch, .slice i'.v nv i'.cv] 25)
    rw [World.size_alloc, ← hwA] at this
    exact this
  have HS := hid (sameHs_any i.h i'.h i.ch i'.ch nh Q R hnh hR hlh hf wA ((h.below hbA).more hbA.size) ((h'.below hbA).more hbA.size))
  have c0 := row_cell r0 0
  have d0 := row_cell r1 0
  rw [hwA] at c0 d0
  have HX := hid (And.intro r0 (And.intro r1 (And.intro hbA (And.intro hv (And.intro hv' (And.intro hnv hlv))))))
  clear r0 r1 hbA h h' hv hv' hnh hnv hR hlh hlv hf
  go_enter Tryz.func19, Tryz.ntmps19
  go_wp2_with fail
  rw [← hwA]
  clear hwA c0 d0
  refine HS.out.mono ?_
  rintro e w1 ⟨rfl, hb1⟩
  have c1 : w1.cell? ⟨w.heap.size, 1, none⟩ = some (.slice i.v nv i.cv) := row_cell ((hb1.block _ (row_lt HX.out.1)).trans HX.out.1) 1
  have d1 : w1.cell? ⟨w.heap.size + 1, 1, none⟩ = some (.slice i'.v nv i'.cv) := row_cell ((hb1.block _ (row_lt HX.out.2.1)).trans HX.out.2.1) 1
  have hbw1 := HX.out.2.2.1.trans (hb1.mono HX.out.2.2.1.size)
  have HV := hid (sameVs_any i.v i'.v i.cv i'.cv nv L HX.out.2.2.2.2.2.1 HX.out.2.2.2.2.2.2 w1 ((HX.out.2.2.2.1.below hbw1).more hbw1.size) ((HX.out.2.2.2.2.1.below hbw1).more hbw1.size))
  have HB1 := hid hbw1
  clear hbw1 hb1
  go_wp2_with fail
  refine HV.out.mono ?_
  rintro e w2 ⟨rfl, hb2⟩
  have HB2 := hid (HB1.out.trans (hb2.mono HB1.out.size))
  clear hb2
  go_wp2_with fail
  go_ret
  exact ⟨rfl, HB2.out⟩
end Go.Proofs.YtaeoccpjdjafnaaGreat.Im
namespace Go.Proofs.YtaeoccpjdjafnaaGreat.Im
open Go.RowKit
set_option maxRecDepth 100000

section
variable {P : Program} {α : Type} {f : α → List Value} {size bytes : Nat} {e : TypeId} {w : World} {F : Nat → Prop} {A : Option Addr} {c : Nat} {L : List α}
theorem IsRow.news {B : Nat} {ad : Addr} {M : List α} (hf : ∀ x, (f x).length = size) (h : IsRow f size w B (some ad) M) (j : Nat) (u : Value) (hj : (M.flatMap f)[j]? = some u) : w.cell? (ad.add j) = some u := by
  have hl : j < M.length * size := by
    have := (List.getElem?_eq_some_iff.1 hj).1
    rwa [flat_len f size hf] at this
  have hs : 0 < size := by
    rcases Nat.eq_zero_or_pos size with e | e
    · rw [e, Nat.mul_zero] at hl; omega
    · exact e
  have hi : j / size < M.length := Nat.div_lt_of_lt_mul (by rw [Nat.mul_comm]; exact hl)
  have hk : j % size < size := Nat.mod_lt _ hs
  have hjk : j = j / size * size + j % size := by rw [Nat.mul_comm]; exact (Nat.div_add_mod j size).symm
  obtain ⟨b, off, e1, _, hc⟩ := h.at_ (j / size) hi
  injection e1 with e1
  subst e1
  rw [hjk, flat_get f size hf M (j / size) hi (j % size) hk] at hj
  have := hc (j / size) hi (j % size) u hj
  rw [add_off, hjk, ← Nat.add_assoc]
  exact this
/-- several elements put behind a row of the call's own -/
theorem run_append_rows (t ty : TypeId) (i : TypeInfo) (z : Value)
    (ht : P.underlying t = some (.slice e)) (hi : P.info? e = some i) (hz : i.zero = some z) (hsize : i.size = size) (hby : i.bytes = bytes) (hzs : z.cells.size = size) (hsz : 0 < size)
    (h : RowIn f size e w F A c L) {B : Nat} (ad : Addr) (c' : Nat) (M : List α) (hr : IsRow f size w B (some ad) M) (h1 : ∀ y, ∀ u ∈ f y, u.oneCell' = true)
    (hb : (L.length + M.length) * bytes ≤ 140737488355328) (hl : L.length + M.length ≤ 100000) :
    ∃ A2 c2 w', (Builtin.append_ #[t, t] ty #[.slice A L.length c, .slice (some ad) M.length c']).run P w = .ok (.slice A2 (L.length + M.length) c2) w' ∧ RowIn f size e w' (fun k => F k ∨ w.heap.size ≤ k) A2 c2 (L ++ M) ∧ w.grownBy w' (blk A) := by
  obtain ⟨v', w', hr, h2, h3, _, h4⟩ := run_append_own_at (P := P) w 0 t ty e i z size bytes ht hi hz hsize hby hzs hsz _ L.length (L.flatMap f) h.row ad M.length c' (M.flatMap f) (flat_len f size h.fits M)
    (hr.news h.fits) (fun u hu => by
      obtain ⟨y, _, hy⟩ := List.mem_flatMap.1 hu
      exact h1 y u hy) (by unfold maxLen; omega) hb (Nat.zero_le _)
  obtain ⟨A2, c2, rfl⟩ := own_slice h2
  rw [ownBlock_slice] at h3
  rw [ownBlock_slice, ownBlock_slice] at h4
  refine ⟨A2, c2, w', hr, ⟨h.fits, ?_, fun k hk => ?_⟩, h3⟩
  · rw [List.length_append, List.flatMap_append]; exact h2
  · rcases h4 with h4 | h4
    · exact .inl (h.blk k (by rw [← h4]; exact hk))
    · rw [h4] at hk
      injection hk with hk
      exact .inr (by omega)
theorem wpList_append_rows {ops : Array Oper} {rest : List Oper} {o : Oper} {a : Act} {Q : Exit → Act → World → Prop} (hgd : o.guard = none) (s x : Operand) (t : TypeId)
    (ho : o.op = .call { callee := .builtin .append, args := #[s, x], argTypes := #[t, t] }) (i : TypeInfo) (z : Value)
    (ht : P.underlying t = some (.slice e)) (hi : P.info? e = some i) (hz : i.zero = some z) (hsize : i.size = size) (hby : i.bytes = bytes) (hzs : z.cells.size = size) (hsz : 0 < size)
    (h : RowIn f size e w F A c L) (n : Nat) (hn : L.length = n) (hs : a.eval s = .slice A n c) {B : Nat} (A' : Option Addr) (c' : Nat) (M : List α) (m : Nat) (hm : M.length = m) (hx : a.eval x = .slice A' m c') (hnil : A' = none → c' = 0) (hr : IsRow f size w B A' M) (h1 : ∀ y, ∀ u ∈ f y, u.oneCell' = true)
    (hb : (n + m) * bytes ≤ 140737488355328) (hl : n + m ≤ 100000)
    (hK : ∀ A2 c2 w', RowIn f size e w' (fun k => F k ∨ w.heap.size ≤ k) A2 c2 (L ++ M) → w.grownBy w' (blk A) → wpList P ops Q rest (a.put o.dst (.slice A2 (n + m) c2)) w') : wpList P ops Q (o :: rest) a w := by
  subst hn
  subst hm
  rcases A' with _ | ad
  · obtain rfl : M = [] := by
      rcases M with _ | ⟨y, M⟩
      · rfl
      · obtain ⟨b, off, e, _⟩ := hr.at_ 0 (by simp)
        cases e
    obtain rfl := hnil rfl
    refine wpList_append_own_none hgd s x t ho 0 e i size ht hi _ L.length (L.flatMap f) hs h.row hx ?_
    have := hK A c w (by rw [List.append_nil]; exact ⟨h.fits, h.row, fun k hk => .inl (h.blk k hk)⟩) (World.grownBy.refl w _)
    simpa using this
  · refine wpList_plain hgd fun K hKK => ?_
    obtain ⟨A2, c2, w', hrun, h2, h3⟩ := run_append_rows t o.type i z ht hi hz hsize hby hzs hsz h ad c' M hr h1 hb hl
    refine Lib.wp_append_run w s x t t ho _ _ hs hx _ w' hrun (hKK _ _ (hK A2 c2 w' h2 h3))
end
/-- rows of structs, their slices side by side from ⟨b, 0⟩ on -/
structure SRows {α : Type} (f : α → List Value) (size : Nat) (w : World) (B b : Nat) (L : List (List α)) : Prop where
  at_ : ∀ i (h : i < L.length), ∃ a k, w.cell? ⟨b, i, none⟩ = some (.slice a L[i].length k) ∧ IsRow f size w B a L[i] ∧ (a = none → k = 0)
theorem sflat_step {α : Type} (L : List (List α)) (k : Nat) (h : k < L.length) : (L.take (k + 1)).flatten = (L.take k).flatten ++ L[k] := by
  rw [List.take_succ_eq_append_getElem h, List.flatten_append]; simp
theorem sflat_le {α : Type} (L : List (List α)) (k : Nat) : (L.take k).flatten.length ≤ L.flatten.length := by
  have h : L.flatten.length = (L.take k ++ L.drop k).flatten.length := by rw [List.take_append_drop]
  rw [List.flatten_append, List.length_append] at h
  omega
theorem RowIn.isRow {α : Type} {f : α → List Value} {size : Nat} {e : TypeId} {w : World} {F : Nat → Prop} {A : Option Addr} {c : Nat} {L : List α} (h : RowIn f size e w F A c L) : IsRow f size w w.heap.size A L := ⟨fun k hk => by
  obtain ⟨g, hA, hg, hF, hc, _⟩ := h.get k hk
  refine ⟨g, 0, hA, hg, fun j hj n v hv => ?_⟩
  obtain ⟨g', hA', _, _, hc', _⟩ := h.get j hj
  obtain rfl : g = g' := by rw [hA] at hA'; injection hA' with e; injection e
  have hn : n < size := by have := (List.getElem?_eq_some_iff.1 hv).1; rwa [h.fits] at this
  rw [Nat.zero_add, hc' n hn]; exact hv⟩
theorem IsRow.sl {α : Type} {f : α → List Value} {size : Nat} {w : World} {B : Nat} {A : Option Addr} {L : List α} (h : IsRow f size w B A L) {c i : Nat} (hc : L.length ≤ c) : IsRow f size w B (if c = i then A else A.map (fun x => x.add (i * size))) (L.drop i) := by
  by_cases hi : L.length ≤ i
  · rw [List.drop_of_length_le hi]; exact IsRow.nil
  · rw [if_neg (by omega)]
    refine ⟨fun k hk => ?_⟩
    rw [List.length_drop] at hk
    obtain ⟨b, off, rfl, hlt, hcs⟩ := h.at_ k (by omega)
    refine ⟨b, off + i * size, by simp [add_off], hlt, fun j hj n v hv => ?_⟩
    rw [List.length_drop] at hj
    rw [List.getElem_drop] at hv
    rw [show off + i * size + j * size = off + (i + j) * size by rw [Nat.add_mul]; omega]
    exact hcs (i + j) (by omega) n v hv
theorem IsRow.from {α : Type} {f : α → List Value} {size : Nat} {w : World} {B b off : Nat} {L : List α} (h : IsRow f size w B (some ⟨b, off, none⟩) L) (i : Nat) : IsRow f size w B (some ⟨b, off + i * size, none⟩) (L.drop i) := ⟨fun k hk => by
  rw [List.length_drop] at hk
  obtain ⟨b', off', e, hlt, hcs⟩ := h.at_ (i + k) (by omega)
  injection e with e
  injection e with e1 e2
  subst e1
  subst e2
  refine ⟨b, off + i * size, rfl, hlt, fun j hj n v hv => ?_⟩
  rw [List.length_drop] at hj
  rw [List.getElem_drop] at hv
  rw [show off + i * size + j * size = off + (i + j) * size by rw [Nat.add_mul]; omega]
  exact hcs (i + j) (by omega) n v hv⟩
theorem IsRow.take {α : Type} {f : α → List Value} {size : Nat} {w : World} {B : Nat} {A : Option Addr} {L : List α} (h : IsRow f size w B A L) (n : Nat) : IsRow f size w B A (L.take n) := ⟨fun k hk => by
  have hk' : k < L.length := by rw [List.length_take] at hk; omega
  obtain ⟨b, off, e, hlt, hc⟩ := h.at_ k hk'
  refine ⟨b, off, e, hlt, fun i hi j v hv => ?_⟩
  have hi' : i < L.length := by rw [List.length_take] at hi; omega
  rw [List.getElem_take] at hv
  exact hc i hi' j v hv⟩
end Go.Proofs.YtaeoccpjdjafnaaGreat.Im
namespace Go.Proofs.YtaeoccpjdjafnaaGreat.Im
open Go.RowKit
set_option maxRecDepth 100000

def over (xs : List Value) : Nat → List Value → List Value
  | _, [] => xs
  | o, v :: vs => over (xs.set o v) (o + 1) vs
theorem over_len : ∀ (vs xs : List Value) (o : Nat), (over xs o vs).length = xs.length
  | [], _, _ => rfl
  | v :: vs, xs, o => by show (over (xs.set o v) (o + 1) vs).length = _; rw [over_len vs, List.length_set]
theorem over_get : ∀ (vs xs : List Value) (o j : Nat), o + vs.length ≤ xs.length → (over xs o vs)[j]? = if o ≤ j ∧ j < o + vs.length then vs[j - o]? else xs[j]?
  | [], xs, o, j, _ => by rw [if_neg (by simp only [List.length_nil]; omega)]; rfl
  | v :: vs, xs, o, j, h => by
    simp only [List.length_cons] at h
    show (over (xs.set o v) (o + 1) vs)[j]? = _
    rw [over_get vs _ (o + 1) j (by rw [List.length_set]; omega)]
    by_cases h1 : o = j
    · subst h1
      rw [if_neg (by omega), if_pos (by simp), Nat.sub_self, List.getElem?_set_self (by omega)]
      rfl
    · by_cases h2 : o + 1 ≤ j ∧ j < o + 1 + vs.length
      · rw [if_pos h2, if_pos (by simp; omega), show j - o = (j - (o + 1)) + 1 by omega]
        rfl
      · rw [if_neg h2, if_neg (by simp; omega), List.getElem?_set_ne h1]
theorem over_flat {α : Type} (f : α → List Value) (n : Nat) (hf : ∀ x, (f x).length = n) (L : List α) (i : Nat) (hi : i < L.length) (x' : α) : over (L.flatMap f) (i * n) (f x') = (L.set i x').flatMap f := by
  have hle : i * n + n ≤ L.length * n := by
    have := Nat.mul_le_mul_right n (show i + 1 ≤ L.length by omega)
    rw [Nat.succ_mul] at this
    exact this
  have hl1 := flat_len f n hf L
  have hl2 := flat_len f n hf (L.set i x')
  rw [List.length_set] at hl2
  apply List.ext_getElem?
  intro j
  rw [over_get _ _ _ _ (by rw [hf, hl1]; exact hle), hf]
  by_cases hj : j < L.length * n
  · have hn : 0 < n := by
      rcases Nat.eq_zero_or_pos n with e | e
      · rw [e, Nat.mul_zero] at hj; omega
      · exact e
    have hq : j / n < L.length := Nat.div_lt_of_lt_mul (by rw [Nat.mul_comm]; exact hj)
    have hr : j % n < n := Nat.mod_lt _ hn
    have hjk : j = j / n * n + j % n := by rw [Nat.mul_comm]; exact (Nat.div_add_mod j n).symm
    have g1 := flat_get f n hf L (j / n) hq (j % n) hr
    have g2 := flat_get f n hf (L.set i x') (j / n) (by rw [List.length_set]; exact hq) (j % n) hr
    rw [← hjk] at g1 g2
    rw [g1, g2]
    by_cases e : j / n = i
    · have hb1 : i * n ≤ j := by rw [← e]; omega
      have hb2 : j < i * n + n := by rw [← e]; omega
      rw [if_pos ⟨hb1, hb2⟩]
      have e3 : j - i * n = j % n := by rw [← e]; omega
      rw [e3]
      congr 2
      subst e
      rw [List.getElem_set_self]
    · rw [if_neg ?_]
      · rw [List.getElem_set_ne (fun h => e h.symm)]
      · rintro ⟨h1, h2⟩
        apply e
        have a1 : i ≤ j / n := (Nat.le_div_iff_mul_le hn).2 h1
        have a2 : j / n < i + 1 := Nat.div_lt_of_lt_mul (by rw [Nat.mul_comm, Nat.succ_mul]; exact h2)
        omega
  · rw [if_neg (by omega), List.getElem?_eq_none (by omega), List.getElem?_eq_none (by omega)]
theorem stored_all {base n cap g : Nat} {e : TypeId} {size : Nat} : ∀ (vs xs : List Value) (w : World) (o : Nat), w.ownsRow base e size (.slice (some ⟨g, 0, none⟩) n cap) n xs → (w.setCells g o vs).ownsRow base e size (.slice (some ⟨g, 0, none⟩) n cap) n (over xs o vs)
  | [], _, _, _, h => h
  | v :: vs, xs, w, o, h => stored_all vs (xs.set o v) (w.setCell ⟨g, o, none⟩ v) (o + 1) (h.stored o v).1
section
variable {α : Type} {f : α → List Value} {size : Nat} {e : TypeId} {w : World} {F : Nat → Prop} {c g : Nat} {L : List α}
theorem RowIn.setAll (h : RowIn f size e w F (some ⟨g, 0, none⟩) c L) (i : Nat) (hi : i < L.length) (x' : α) : RowIn f size e (w.setCells g (i * size) (f x')) F (some ⟨g, 0, none⟩) c (L.set i x') := by
  refine ⟨h.fits, ?_, h.blk⟩
  rw [List.length_set, ← over_flat f size h.fits L i hi x']
  exact stored_all _ _ _ _ h.row
theorem RowIn.there (h : RowIn f size e w F (some ⟨g, 0, none⟩) c L) (i : Nat) (hi : i < L.length) : w.there g (i * size) size := fun j hj => by
  obtain ⟨g', hA, _, _, hc, hf⟩ := h.get i hi
  obtain rfl : g = g' := by injection hA with e; injection e
  refine ⟨?_, hf _⟩
  rw [hc j hj, List.getElem?_eq_getElem (by rw [h.fits]; exact hj)]
  rfl
theorem RowIn.range (h : RowIn f size e w F (some ⟨g, 0, none⟩) c L) (i : Nat) (hi : i < L.length) : w.rangeAt g (i * size) (f L[i]) := fun j v hv => by
  obtain ⟨g', hA, _, _, hc, hf⟩ := h.get i hi
  obtain rfl : g = g' := by injection hA with e; injection e
  have hj : j < size := by have := (List.getElem?_eq_some_iff.1 hv).1; rwa [h.fits] at this
  rw [hc j hj]; exact hv
end
/-- a store into an element of a row -/
theorem stAt {t : TypeId} {n : Nat} (hi : (Tryz.prog.info? t).map (·.size) = some n) {w : World} {b o : Nat} (ht : w.there b o n) (cs : Array Value) (hn : cs.size = n) (h1 : cs.all (·.oneCell') = true) : (stX t (.pointer (some ⟨b, o, none⟩)) (.agg cs)).run Tryz.prog w = .ok () (w.setCells b o cs.toList) :=
  run_storeAt_mid w b o t cs (hn ▸ ht) (by rw [hi, hn]) h1
end Go.Proofs.YtaeoccpjdjafnaaGreat.Im
namespace Go.Proofs.YtaeoccpjdjafnaaGreat.Im
open Go.RowKit
set_option maxRecDepth 100000
set_option linter.unusedVariables false

theorem fitE (q : El) : (cellsE q).length = 3 := rfl
theorem oneE (q : El) : ∀ u ∈ cellsE q, u.oneCell' = true := by
  intro u hu
  simp [cellsE] at hu
  rcases hu with rfl | rfl | rfl <;> rfl
theorem infE : (Tryz.prog.info? 73).map (fun i => (i.zero, i.size, i.bytes)) = some (some (.agg #[.int .i64 0, .int .i64 0, .slice none 0 0]), 3, 40) := by kernel_rfl
set_option maxHeartbeats 800000 in
theorem ownE_any (A : Option Addr) (c n : Nat) (L : List El) (hn : L.length = n) (hl : n ≤ 100000) (w : World) (h : IsRow cellsE 3 w w.heap.size A L) (hnil : A = none → c = 0) :
    Calls Tryz.prog 181 #[.slice A n c] w fun e w' => ∃ A' c', e = .returned (.slice A' n c') ∧ RowIn cellsE 3 73 w' (fun k => w.heap.size ≤ k) A' c' L ∧ Below w.heap.size w w' := by
  obtain ⟨i0, hi, hz0, hz1, hz2⟩ := info_parts infE
  have hrow : RowIn cellsE 3 73 w (fun k => w.heap.size ≤ k) none 0 [] := RowIn.nil fitE _ _ _
  go_enter Tryz.func181, Tryz.ntmps181
  go_wp2_with (at_builtin; refine wpList_append_rows rfl _ _ 56 rfl i0 _ Tryz.underlying56 hi hz0 hz1 hz2 rfl (by decide) hrow 0 rfl rfl A c L n hn rfl hnil h oneE (by omega) (by omega) ?_)
  intro A2 c2 w2 hrow2 hg2
  have H2 : Hid (RowIn cellsE 3 73 w2 (fun k => w.heap.size ≤ k) A2 c2 L ∧ Below w.heap.size w w2) := hid ⟨hrow2.mono (fun k hk => by have := hrow2.blk k hk; omega), below_grown hg2 (Nat.le_refl _) (fun k e => by cases e)⟩
  clear hrow2 hg2 hrow
  go_wp2_with fail
  go_ret
  exact ⟨A2, c2, rfl, H2.out⟩

set_option maxHeartbeats 800000 in
theorem growE_any (n : Nat) (hn : n ≤ 100000) (w : World) :
    Calls Tryz.prog 158 #[.slice none 0 0, .int .i64 (n : Int)] w fun e w' => ∃ A' c', e = .returned (.slice A' 0 c') ∧ RowIn cellsE 3 73 w' (fun k => w.heap.size ≤ k) A' c' [] ∧ Below w.heap.size w w' := by
  obtain ⟨i0, hi, hz0, hz1, hz2⟩ := info_parts infE
  have hui : Tryz.prog.underlying 3 = some (.int .i64) := by kernel_rfl
  by_cases h0 : 0 < n
  · go_enter Tryz.func158, Tryz.ntmps158
    go_wp2_with (at_builtin; refine Lib.wpList_append_run _ rfl _ _ 56 3 rfl (.slice none 0 0) (.int .i64 (n : Int)) rfl rfl _ _ (Lib.run_append_nil_zeros _ 56 3 _ 73 i0 (.agg #[.int .i64 0, .int .i64 0, .slice none 0 0]) .i64 .i64 Tryz.underlying56 hui hi hz0 n h0 (by rw [hz1]; decide) (by omega) (by rw [hz2]; omega)) ?_)
    have hcap1 := grownCap_ge w n 0 73
    have hcap2 := grownCap_le_maxLen w n 0 73 (by unfold maxLen; omega)
    obtain ⟨cap, hcap⟩ : ∃ cap, cap = grownCap w n 0 73 := ⟨_, rfl⟩
    rw [← hcap] at hcap1 hcap2 ⊢
    have HO : Hid (RowIn cellsE 3 73 (w.drew.alloc (.cells (Builtin.zeroCells (Value.agg #[.int .i64 0, .int .i64 0, .slice none 0 0]).cells n ++ Builtin.zeroCells (Value.agg #[.int .i64 0, .int .i64 0, .slice none 0 0]).cells (cap - n)) 73)) (fun k => w.heap.size ≤ k) (some ⟨w.heap.size, 0, none⟩) cap []) := by
      refine ⟨fitE, ⟨by simp, .inr ⟨w.heap.size, cap, _, rfl, Nat.zero_le _, heap_alloc_new w.drew _, Nat.zero_le _, hcap2, ?_, by simp⟩⟩, fun k hk => by cases hk; exact Nat.le_refl _⟩
      rw [Array.size_append, size_zeroCells, size_zeroCells]
      show n * 3 + (cap - n) * 3 = cap * 3
      omega
    have HB : Hid (Below w.heap.size w (w.drew.alloc (.cells (Builtin.zeroCells (Value.agg #[.int .i64 0, .int .i64 0, .slice none 0 0]).cells n ++ Builtin.zeroCells (Value.agg #[.int .i64 0, .int .i64 0, .slice none 0 0]).cells (cap - n)) 73))) :=
      (Below.refl _ _).drew.alloc (Nat.le_refl _) _
    unfold maxLen at hcap2
    have HC := hid hcap
    clear hcap
    go_wp2
    go_ret
    exact ⟨_, _, rfl, HO.out, HB.out⟩
  · obtain rfl : n = 0 := by omega
    go_enter Tryz.func158, Tryz.ntmps158
    go_wp2
    go_ret
    exact ⟨none, 0, rfl, RowIn.nil fitE _ _ _, Below.refl _ _⟩
set_option maxHeartbeats 1600000 in
theorem concatE_any (B b : Nat) (L : List (List El)) (n c : Nat) (hn : L.length = n) (hL : n ≤ 1000) (hF : L.flatten.length ≤ 100000) (w : World) (h0 : SRows cellsE 3 w B b L) (hb : b < w.heap.size) (hB : B ≤ w.heap.size) :
    Calls Tryz.prog 127 #[.slice (some ⟨b, 0, none⟩) n c] w fun e w' => ∃ A c' m, e = .returned (.slice A m c') ∧ m = L.flatten.length ∧ RowIn cellsE 3 73 w' (fun k => w.heap.size ≤ k) A c' L.flatten ∧ Below w.heap.size w w' := by
  obtain ⟨i0, hi, hz0, hz1, hz2⟩ := info_parts infE
  subst hn
  have h := hid h0
  have HF := hid hF
  clear h0 hF
  go_enter Tryz.func127, Tryz.ntmps127
  go_wp2_with fail
  go_loopw [3, 11] (fun v i wr => ∃ k m : Nat, k ≤ L.length ∧ m ≤ 100000 ∧ v = .int .i64 m ∧ i = .int .i64 k ∧ w = wr ∧ Hid (m = (L.take k).flatten.length)) (fun _ i _ => L.length - (RowKit.intOf i).toNat)
  case atStart => exact ⟨0, 0, by omega, by omega, rfl, rfl, rfl, hid (by simp)⟩
  case round =>
    obtain ⟨k, m, hk, hm, rfl, rfl, rfl, hs⟩ := hrel
    by_cases hlt : k < L.length
    · obtain ⟨a, ka, hcell, _, _⟩ := h.out.at_ k hlt
      have hst := sflat_step L k hlt
      have hle := sflat_le L (k + 1)
      rw [hst, List.length_append, ← hs.out] at hle
      have hm2 : m + L[k].length ≤ 100000 := by have := HF.out; omega
      have HS := hid hst
      clear hst hle
      generalize hn : L[k].length = n at *
      have HN := hid hn
      clear hn
      have hneg : ¬ ((m : Int) + (n : Int) < 0) := by omega
      go_wp2_with fail
      go_roundw
      case rel => exact ⟨k + 1, m + n, by omega, hm2, by go_num, by go_num, trivial, hid (by rw [HS.out, List.length_append, ← hs.out, HN.out])⟩
      case measure => simp [RowKit.intOf]; omega
    · obtain rfl : k = L.length := by omega
      have HG := hid (growE_any m (by omega) w)
      go_wp2_with fail
      refine HG.out.mono ?_
      rintro e w1 ⟨A1, c1, rfl, hown1, hbel1⟩
      have HO := hid hown1
      have HB := hid hbel1
      clear hown1 hbel1 HG
      go_wp2_with fail
      go_loopw [6, 27] (fun v i wr => ∃ (k q : Nat) (A : Option Addr) (c2 : Nat), k ≤ L.length ∧ v = .slice A q c2 ∧ i = .int .i64 k ∧ Hid (q = (L.take k).flatten.length ∧ RowIn cellsE 3 73 wr (fun k => w.heap.size ≤ k) A c2 (L.take k).flatten ∧ Below w.heap.size w wr)) (fun _ i _ => L.length - (RowKit.intOf i).toNat)
      case atStart => exact ⟨0, 0, A1, c1, by omega, rfl, rfl, hid ⟨by simp, by simpa using HO.out, HB.out⟩⟩
      case round =>
        clear HO HB
        obtain ⟨k, q, A, c2, hk, rfl, rfl, HX⟩ := hrel
        by_cases hlt : k < L.length
        · obtain ⟨a, ka, hcell0, hrow, hnil⟩ := h.out.at_ k hlt
          have hbel := HX.out.2.2
          have hcell : wr.cell? ⟨b, k, none⟩ = some (.slice a L[k].length ka) := (hbel.cell (by exact hb)).trans hcell0
          have hrow2 : IsRow cellsE 3 wr w.heap.size a L[k] := (hrow.more hB).below hbel
          have hst := sflat_step L k hlt
          have hle := sflat_le L (k + 1)
          rw [hst, List.length_append, ← HX.out.1] at hle
          have hsum : q + L[k].length ≤ 100000 := by have := HF.out; omega
          have hown := HX.out.2.1
          have HM := hid (And.intro hst (And.intro hle hbel))
          generalize hLk : L[k] = M at *
          obtain ⟨m, hm⟩ : ∃ m, m = M.length := ⟨_, rfl⟩
          rw [← hm] at hcell hsum
          have HK := hid (And.intro hm (And.intro hsum HX.out.1))
          clear hst hle hrow hcell0 hbel hm
          go_wp2_with (at_builtin; refine wpList_append_rows rfl _ _ 56 rfl i0 _ Tryz.underlying56 hi hz0 hz1 hz2 rfl (by decide) hown q HK.out.2.2.symm rfl a ka M m HK.out.1.symm rfl hnil hrow2 oneE (by have := HK.out.2.1; omega) HK.out.2.1 ?_)
          intro A3 c3 w3 hown3 hg3
          have H4 : Hid (q + m = (L.take (k + 1)).flatten.length ∧ RowIn cellsE 3 73 w3 (fun k => w.heap.size ≤ k) A3 c3 (L.take (k + 1)).flatten ∧ Below w.heap.size w w3) := hid (by
            refine ⟨by rw [HM.out.1, List.length_append, ← HK.out.1, ← HK.out.2.2], ?_, HM.out.2.2.trans (below_grown hg3 HM.out.2.2.size (fun k hk => HX.out.2.1.blk k hk))⟩
            rw [HM.out.1]
            have hz := HM.out.2.2.size
            exact hown3.mono (fun k hk => by have := hown3.blk k hk; omega))
          clear hown3 hg3 hown hrow2
          go_wp2_with fail
          go_roundw
          case rel => exact ⟨k + 1, q + m, A3, c3, by omega, by first | rfl | (simp), by go_num, H4⟩
          case measure => simp [RowKit.intOf]; omega
        · obtain rfl : k = L.length := by omega
          have H3 := HX.out
          rw [List.take_length] at H3
          have H3' := hid H3
          clear H3
          go_wp2_with fail
          go_ret
          exact ⟨A, c2, q, rfl, H3'.out.1, H3'.out.2.1, H3'.out.2.2⟩
end Go.Proofs.YtaeoccpjdjafnaaGreat.Im
namespace Go.Proofs.YtaeoccpjdjafnaaGreat
open Go.RowKit

/-- entries that lie anywhere, each with its bytes' place -/
def Reads (w : World) (B : Nat) (M : List El) : Prop := ∀ q ∈ M, IsBytes w B q.A q.e.d ∧ (q.e.d.length ≤ q.c ∧ q.c ≤ maxLen) ∧ (q.A = none → q.c = 0)
theorem IsEnts.flat {w : World} {B : Nat} {A : Option Addr} {L : List Rl.En} (h : IsEnts w B A L) : ∃ M : List El, M.map (·.e) = L ∧ Reads w B M ∧ ∀ ad, A = some ad → ∀ j u, (M.flatMap cellsE)[j]? = some u → w.cell? (ad.add j) = some u := by
  have hq : ∀ i : Fin L.length, ∃ q : El, q.e = L[i] ∧ (IsBytes w B q.A q.e.d ∧ (q.e.d.length ≤ q.c ∧ q.c ≤ maxLen) ∧ (q.A = none → q.c = 0)) ∧ ∀ ad, A = some ad → ∀ k, k < 3 → w.cell? (ad.add (i.1 * 3 + k)) = (cellsE q)[k]? := by
    intro i
    obtain ⟨b, off, rfl, _, hc⟩ := h.cells i.1 i.2
    obtain ⟨A1, c1, d0, d1, d2, d3, d4, d5⟩ := hc i.1 i.2
    refine ⟨⟨L[i], A1, c1⟩, rfl, ⟨d3, d4, d5⟩, fun ad he k hk => ?_⟩
    injection he with he
    subst he
    rw [add_off, ← Nat.add_assoc]
    match k, hk with
    | 0, _ => exact d0
    | 1, _ => exact d1
    | 2, _ => exact d2
  refine ⟨List.ofFn (fun i => (hq i).choose), ?_, ?_, ?_⟩
  · apply List.ext_getElem
    · simp
    · intro i h1 h2
      rw [List.getElem_map, List.getElem_ofFn]
      exact (hq ⟨i, h2⟩).choose_spec.1
  · intro q hm
    obtain ⟨i, rfl⟩ := List.mem_ofFn.1 hm
    exact (hq i).choose_spec.2.1
  · intro ad he j u hu
    have hlt := (List.getElem?_eq_some_iff.1 hu).1
    rw [flat_len cellsE 3 (fun _ => rfl)] at hlt
    have hj : j / 3 < (List.ofFn (fun i => (hq i).choose)).length := by omega
    have e := flat_get cellsE 3 (fun _ => rfl) _ (j / 3) hj (j % 3) (by omega)
    rw [show j / 3 * 3 + j % 3 = j by omega, hu, List.getElem_ofFn] at e
    have := (hq ⟨j / 3, by simpa using hj⟩).choose_spec.2.2 ad he (j % 3) (by omega)
    rw [show j / 3 * 3 + j % 3 = j by omega] at this
    rw [this, ← e]
theorem Reads.below {w w' : World} {B : Nat} {M : List El} (h : Reads w B M) (hb : Below B w w') : Reads w' B M := fun q hq => ⟨(h q hq).1.below hb, (h q hq).2⟩
/-- a row of entries whose bytes lie elsewhere -/
theorem isEnts_row {w : World} {B B' : Nat} {F : Nat → Prop} {A : Option Addr} {c : Nat} {M : List El} (hrow : RowIn cellsE 3 73 w F A c M) (hr : Reads w B M) (hB : B ≤ B') (hF : ∀ k, F k → k < w.heap.size → k < B') (hn : ∀ q ∈ M, InInt q.e.t ∧ InInt q.e.k) : IsEnts w B' A (M.map (·.e)) := ⟨fun e he => by
  obtain ⟨q, hq, rfl⟩ := List.mem_map.1 he
  exact hn q hq, fun k hk => by
  rw [List.length_map] at hk
  obtain ⟨g, hA, hg, hFg, _, _⟩ := hrow.get k hk
  refine ⟨g, 0, hA, hF g hFg hg, fun i hi => ?_⟩
  rw [List.length_map] at hi
  obtain ⟨g', hA', _, _, hc, _⟩ := hrow.get i hi
  obtain rfl : g = g' := by rw [hA] at hA'; injection hA' with e; injection e
  have ho := hr M[i] (List.getElem_mem hi)
  rw [List.getElem_map, Nat.zero_add]
  exact ⟨M[i].A, M[i].c, hc 0 (by omega), hc 1 (by omega), hc 2 (by omega), ho.1.more hB, ho.2⟩⟩

/-- Entries in a row of the call's own, from block lo on, whose bytes lie below block B. -/
def SharE (w : World) (B lo : Nat) (A : Option Addr) (c : Nat) (L : List Rl.En) : Prop :=
  ∃ M : List El, M.map (·.e) = L ∧ RowIn cellsE 3 73 w (fun k => lo ≤ k) A c M ∧ Reads w B M ∧ ∀ q ∈ M, InInt q.e.t ∧ InInt q.e.k
namespace SharE
variable {w w' : World} {B lo : Nat} {A : Option Addr} {c : Nat} {L : List Rl.En}
theorem nil (w : World) (B lo : Nat) : SharE w B lo none 0 [] := ⟨[], rfl, RowIn.nil (f := cellsE) (fun _ => rfl) _ _ _, fun q hq => by simp at hq, by simp⟩
theorem reads (h : SharE w B lo A c L) (hB : B ≤ w.heap.size) : IsEnts w w.heap.size A L := by
  obtain ⟨M, h1, h2, h3, h4⟩ := h
  rw [← h1]
  exact isEnts_row h2 h3 hB (fun k _ hk => hk) h4
theorem keep {S : Nat → Prop} (h : SharE w B lo A c L) (ht : Turned S w w') (hB : B ≤ w.heap.size) (hs : ∀ k, S k → B ≤ k ∧ k < lo) : SharE w' B lo A c L := by
  obtain ⟨M, h1, h2, h3, h4⟩ := h
  exact ⟨M, h1, h2.keep ht (fun k hk hS => by have := h2.blk k hk; have := (hs k hS).2; omega), h3.below (ht.below hB (fun k hk => (hs k hk).1)), h4⟩
theorem below (h : SharE w B lo A c L) (hb : Below w.heap.size w w') (hB : B ≤ w.heap.size) : SharE w' B lo A c L := h.keep (S := fun _ => False) (Turned.ofBelow _ hb) hB (fun _ h => h.elim)
theorem room (h : SharE w B lo A c L) : L.length ≤ c ∧ c ≤ maxLen := by
  obtain ⟨M, h1, h2⟩ := h; rw [← h1, List.length_map]; exact ⟨h2.1.cap, h2.1.capLe⟩
theorem none_ (h : SharE w B lo A c L) : A = none → c = 0 := by
  obtain ⟨M, h1, h2⟩ := h; exact h2.1.none_
end SharE
/-- both lie in a new row then -/
theorem run_append_full {w : World} (ty : TypeId) {B : Nat} {A A' : Option Addr} {L M : List Rl.En} (h : IsEnts w B A L) (h' : IsEnts w B A' M) (hB : B ≤ w.heap.size) (n m c' : Nat) (hn : L.length = n) (hm : M.length = m) (h0 : A = none → n = 0) (hpos : 0 < m) (hl : n + m ≤ 100000) :
    ∃ A2 c2 w', (Builtin.append_ #[56, 56] ty #[.slice A n n, .slice A' m c']).run Tryz.prog w = .ok (.slice A2 (n + m) c2) w' ∧ SharE w' B w.heap.size A2 c2 (L ++ M) ∧ Below w.heap.size w w' := by
  subst hn
  subst hm
  obtain ⟨i0, hi, hz0, hz1, hz2⟩ := info_parts info_entry
  obtain ⟨ML, e1, r1, c1⟩ := h.flat
  obtain ⟨MM, e2, r2, c2⟩ := h'.flat
  have l1 : ML.length = L.length := by rw [← e1, List.length_map]
  have l2 : MM.length = M.length := by rw [← e2, List.length_map]
  obtain ⟨b', off', rfl, _⟩ := h'.cells 0 hpos
  have hex : ∃ v' w', (Builtin.append_ #[56, 56] ty #[.slice A L.length L.length, .slice (some ⟨b', off', none⟩) M.length c']).run Tryz.prog w = .ok v' w' ∧ w'.ownsRow w.heap.size 73 3 v' (L.length + M.length) (ML.flatMap cellsE ++ MM.flatMap cellsE) ∧ w.grownBy w' none := by
    rcases A with _ | b
    · have hl0 := h0 rfl
      have hnil : ML = [] := List.eq_nil_of_length_eq_zero (by omega)
      subst hnil
      rw [hl0]
      obtain ⟨v', w', hrun, q1, q2, _⟩ := run_append_own (P := Tryz.prog) w w.heap.size 56 ty 73 i0 _ 3 40 Tryz.underlying56 hi hz0 hz1 hz2 rfl (by decide) (.slice none 0 0) 0 [] (World.ownsRow_nil w _ _ 3) ⟨b', off', none⟩ M.length c' (MM.flatMap cellsE) (by rw [flat_len cellsE 3 (fun _ => rfl), l2]) (c2 _ rfl) (by intro u hu; obtain ⟨d, _, hu⟩ := List.mem_flatMap.1 hu; exact cellsE_one d u hu) (by unfold maxLen; omega) (by omega) (Nat.le_refl _)
      exact ⟨v', w', hrun, by simpa using q1, q2⟩
    · obtain ⟨v', w', hrun, q1, q2⟩ := run_append_arg_grows (P := Tryz.prog) w 56 ty 73 i0 _ 3 40 Tryz.underlying56 hi hz0 hz1 hz2 rfl (by decide) b L.length L.length (ML.flatMap cellsE) (by rw [flat_len cellsE 3 (fun _ => rfl), l1]) (c1 _ rfl) ⟨b', off', none⟩ M.length c' (MM.flatMap cellsE) (by rw [flat_len cellsE 3 (fun _ => rfl), l2]) (c2 _ rfl) (by omega) (by unfold maxLen; omega) (by omega)
      exact ⟨v', w', hrun, q1, q2⟩
  obtain ⟨v', w', hrun, q1, q2⟩ := hex
  obtain ⟨A2, c2', rfl⟩ := own_slice q1
  have hbel : Below w.heap.size w w' := below_grown q2 (Nat.le_refl _) (fun k hk => by cases hk)
  have hrow : RowIn cellsE 3 73 w' (fun k => w.heap.size ≤ k) A2 c2' (ML ++ MM) := by
    refine ⟨fun _ => rfl, ?_, fun k hk => (q1.lt k (by rw [ownBlock_slice]; exact hk)).1⟩
    rw [List.length_append, l1, l2, List.flatMap_append]
    refine ⟨q1.1, ?_⟩
    rcases q1.2 with h0 | ⟨g, cap, cur, k1, k2, k3⟩
    · exact .inl h0
    · exact .inr ⟨g, cap, cur, k1, Nat.zero_le _, k3⟩
  have hmap : (ML ++ MM).map (·.e) = L ++ M := by rw [List.map_append, e1, e2]
  refine ⟨A2, c2', w', hrun, ⟨ML ++ MM, hmap, hrow, fun q hq => ?_, fun q hq => ?_⟩, hbel⟩
  · rcases List.mem_append.1 hq with hq | hq
    · exact r1.below (hbel.mono hB) q hq
    · exact r2.below (hbel.mono hB) q hq
  · have : q.e ∈ L ++ M := by rw [← hmap]; exact List.mem_map.2 ⟨q, hq, rfl⟩
    rcases List.mem_append.1 this with h1 | h1
    · exact h.num _ h1
    · exact h'.num _ h1
theorem step_append_full {w : World} {ops : Array Oper} {o : Oper} {a : Act} {K : Act → World → Prop} {Q : Exit → Act → World → Prop} {E : Prop} (hgd : o.guard = none) (s y : Operand)
    (ho : o.op = .call { callee := .builtin .append, args := #[s, y], argTypes := #[56, 56] }) {B : Nat} {A A' : Option Addr} {L M : List Rl.En} (h : IsEnts w B A L) (h' : IsEnts w B A' M) (hB : B ≤ w.heap.size) (n m c' : Nat) (hn : L.length = n) (hm : M.length = m) (h0 : A = none → n = 0) (hpos : 0 < m) (hl : n + m ≤ 100000)
    (hs : a.eval s = .slice A n n) (hy : a.eval y = .slice A' m c')
    (hK : ∀ A2 c2 w', SharE w' B w.heap.size A2 c2 (L ++ M) → Below w.heap.size w w' → K (a.put o.dst (.slice A2 (n + m) c2)) w') :
    if Region.wanted o (yielded ops a.tmps) = true then Oper.wp Tryz.prog o a w K Q else E := by
  have hw : Region.wanted o (yielded ops a.tmps) = true := by simp [Region.wanted, hgd]
  rw [if_pos hw]
  obtain ⟨A2, c2, w', hr, h1, h4⟩ := run_append_full o.type h h' hB n m c' hn hm h0 hpos hl
  unfold Oper.wp execOp
  simp only [ho, resolve, invoke, builtin, Sem.run_bind, Sem.run_pure, Result.andThen_ok, List.map_toArray, List.map_cons, List.map_nil, hs, hy, hr]
  exact hK A2 c2 w' h1 h4
/-- an entry is put behind entries of the call's own row; its bytes stay where they lie -/
theorem wpList_append_share {w : World} {ops : Array Oper} {rest : List Oper} {o : Oper} {a : Act} {Q : Exit → Act → World → Prop} (hgd : o.guard = none) (s y : Operand)
    (ho : o.op = .call { callee := .builtin .append, args := #[s, y], argTypes := #[56, 56] }) {B lo c : Nat} {A : Option Addr} {L : List Rl.En} (h : SharE w B lo A c L) (hB : B ≤ lo) (hlo : lo ≤ w.heap.size)
    (n : Nat) (hn : L.length = n) (hs : a.eval s = .slice A n c) (x : Rl.En) (hx : InInt x.t ∧ InInt x.k) (A' : Option Addr) (c' : Nat) (hb : IsBytes w B A' x.d ∧ (x.d.length ≤ c' ∧ c' ≤ maxLen) ∧ (A' = none → c' = 0)) (ad : Addr) (ce : Nat) (hy : a.eval y = .slice (some ad) 1 ce) (hc : ∀ k, k < 3 → w.cell? (ad.add k) = (cellsE ⟨x, A', c'⟩)[k]?)
    (hl : n + 1 ≤ 100000)
    (hK : ∀ A2 c2 w', SharE w' B lo A2 c2 (L ++ [x]) → Below lo w w' → wpList Tryz.prog ops Q rest (a.put o.dst (.slice A2 (n + 1) c2)) w') : wpList Tryz.prog ops Q (o :: rest) a w := by
  obtain ⟨i0, hi, hz0, hz1, hz2⟩ := info_parts info_entry
  obtain ⟨M, hM, hr, hrd, hnum⟩ := h
  refine wpList_append_row hgd s y 56 ho i0 _ Tryz.underlying56 hi hz0 hz1 hz2 rfl (by decide) hr n (by rw [← hn, ← hM, List.length_map]) hs ⟨x, A', c'⟩ ad ce hy hc (cellsE_one _) (by omega) hl ?_
  intro A2 c2 w' h1 h2 _
  have hbel : Below lo w w' := below_grown h2 hlo (fun k hk => hr.blk k hk)
  refine hK A2 c2 w' ⟨M ++ [⟨x, A', c'⟩], by rw [List.map_append, hM]; rfl, h1.mono (fun k hk => ?_), fun q hq => ?_, fun q hq => ?_⟩ hbel
  · rcases h1.blk k hk with e | e
    · exact e
    · omega
  · rcases List.mem_append.1 hq with hq | hq
    · exact hrd.below (hbel.mono hB) q hq
    · obtain rfl := List.mem_singleton.1 hq
      exact ⟨hb.1.below (hbel.mono hB), hb.2⟩
  · rcases List.mem_append.1 hq with hq | hq
    · exact hnum q hq
    · obtain rfl := List.mem_singleton.1 hq; exact hx
/-- what a region carries out -/
theorem step_of_wp {c : Bool} {X E : Prop} (hc : c = true) (h : X) : if c = true then X else E := by rw [if_pos hc]; exact h
theorem wp_append_ent {w : World} {o : Oper} {a : Act} {K : Act → World → Prop} {Q : Exit → Act → World → Prop} (s y : Operand)
    (ho : o.op = .call { callee := .builtin .append, args := #[s, y], argTypes := #[56, 56] }) {B N c : Nat} {A : Option Addr} {L : List Rl.En} (h : OwnE w B N A c L) (hBN : B ≤ N) (hN : N ≤ w.heap.size)
    (n : Nat) (hn : L.length = n) (hs : a.eval s = .slice A n c) (x : Rl.En) (hx : InInt x.t ∧ InInt x.k) (A' : Option Addr) (c' : Nat) (hb : OwnsB 5 w N A' c' x.d) (ad : Addr) (ce : Nat) (hy : a.eval y = .slice (some ad) 1 ce) (hc : ∀ k, k < 3 → w.cell? (ad.add k) = (cellsE ⟨x, A', c'⟩)[k]?)
    (hl : n + 1 ≤ 100000)
    (hK : ∀ A2 c2 w', OwnE w' B w'.heap.size A2 c2 (L ++ [x]) → Below B w w' → K (a.put o.dst (.slice A2 (n + 1) c2)) w') : Oper.wp Tryz.prog o a w K Q := by
  obtain ⟨i0, hi, hz0, hz1, hz2⟩ := info_parts info_entry
  obtain ⟨M, hM, hE⟩ := h
  exact wp_append_row s y 56 ho i0 _ Tryz.underlying56 hi hz0 hz1 hz2 rfl (by decide) hE.row n (by rw [← hn, ← hM, List.length_map]) hs ⟨x, A', c'⟩ ad ce hy hc (cellsE_one _) (by omega) hl
    fun A2 c2 w' h1 h2 _ => by
      obtain ⟨h4, h5⟩ := ent_put hM hE hBN hN x hb hx h1 h2
      exact hK A2 c2 w' h4 h5
end Go.Proofs.YtaeoccpjdjafnaaGreat
namespace Go.Proofs.YtaeoccpjdjafnaaGreat.Im
open Go.RowKit
open Rl (En Lg)
set_option maxRecDepth 100000
set_option linter.unusedVariables false
theorem loadAt_entry1 (a : Value) : Instr.loadAt 73 a = ldX 73 a := rfl
theorem storeAt_entry1 (a v : Value) : Instr.storeAt 73 a v = stX 73 a v := rfl
attribute [local go_sem ↓] loadAt_entry1 storeAt_entry1
theorem info_entry33 : (Tryz.prog.info? 73).map (·.size) = some 3 := by kernel_rfl

set_option maxHeartbeats 400000 in
theorem ownB_any (A : Option Addr) (c n : Nat) (l : List Nat) (hn : l.length = n) (hl : n ≤ 140737488355000) (w : World) (h : IsBytes w w.heap.size A l) (hnil : A = none → c = 0) :
    Calls Tryz.prog 166 #[.slice A n c] w fun e w' => ∃ A' c', e = .returned (.slice A' n c') ∧ OwnsB 5 w' w.heap.size A' c' l ∧ Below w.heap.size w w' := by
  obtain ⟨i0, hi, hz0, hz1, hz2⟩ := info_parts info_u8
  have hrow : OwnsB 5 w w.heap.size none 0 [] := OwnsB.nil _ _ _
  go_enter Tryz.func166, Tryz.ntmps166
  go_wp2_with (at_builtin; refine wpList_append_bytesN rfl _ _ 35 rfl w.heap.size 5 i0 Tryz.underlying35 hi hz0 hz1 hz2 none 0 [] 0 rfl rfl hrow w.heap.size A c l n hn rfl hnil h l rfl (by omega) (Nat.le_refl _) ?_)
  intro A2 c2 w2 ho hb
  have H2 := hid (And.intro ho hb)
  clear ho hb hrow
  go_wp2_with fail
  go_ret
  exact ⟨A2, c2, ret_len (by simp), H2.out⟩
set_option maxHeartbeats 400000 in
theorem ownI_any (A : Option Addr) (c n : Nat) (l : List Int) (hn : l.length = n) (hl : n ≤ 17592186044000) (w : World) (h : IsInts w w.heap.size A l) (hnil : A = none → c = 0) :
    Calls Tryz.prog 165 #[.slice A n c] w fun e w' => ∃ A' c', e = .returned (.slice A' n c') ∧ OwnsI 3 w' w.heap.size A' c' l ∧ Below w.heap.size w w' := by
  obtain ⟨i0, hi, hz0, hz1, hz2⟩ := info_parts I.info_int
  have hrow : OwnsI 3 w w.heap.size none 0 [] := OwnsI.nil _ _ _
  go_enter Tryz.func165, Tryz.ntmps165
  go_wp2_with (at_builtin; refine wpList_append_intsN rfl _ _ 26 rfl w.heap.size 3 i0 Tryz.underlying26 hi hz0 hz1 hz2 none 0 [] 0 rfl rfl hrow w.heap.size A c l n hn rfl hnil h l rfl (by omega) (Nat.le_refl _) ?_)
  intro A2 c2 w2 ho hb
  have H2 := hid (And.intro ho hb)
  clear ho hb hrow
  go_wp2_with fail
  go_ret
  exact ⟨A2, c2, ret_len (by simp), H2.out⟩
set_option maxHeartbeats 1600000 in
theorem ownEntry_any (x : En) (A : Option Addr) (c n : Nat) (hn : x.d.length = n) (hl : n ≤ 140737488355000) (w : World) (h : IsBytes w w.heap.size A x.d) (hnil : A = none → c = 0) :
    Calls Tryz.prog 164 #[.agg #[.int .i64 x.t, .int .i64 x.k, .slice A n c]] w fun e w' => ∃ A' c', e = .returned (.agg #[.int .i64 x.t, .int .i64 x.k, .slice A' n c']) ∧ OwnsB 5 w' w.heap.size A' c' x.d ∧ Below w.heap.size w w' := by
  obtain ⟨wA, hwA⟩ : ∃ wA, wA = (w.alloc (.cells #[.int .i64 x.t, .int .i64 x.k, .slice A n c] 73)).alloc (.cells #[.int .i64 0, .int .i64 0, .slice none 0 0] 73) := ⟨_, rfl⟩
  obtain ⟨b1, hb1⟩ : ∃ b1, b1 = w.heap.size + 1 := ⟨_, rfl⟩
  have hsA : wA.heap.size = w.heap.size + 2 := by rw [hwA]; simp
  have hbA : Below w.heap.size w wA := by rw [hwA]; exact ((Below.refl _ w).alloc (Nat.le_refl _) _).alloc (by simp) _
  have hr0 : wA.heap[w.heap.size]? = some (.cells #[.int .i64 x.t, .int .i64 x.k, .slice A n c] 73 (0, 0)) := by rw [hwA, heap_alloc_old _ _ (by simp)]; exact heap_alloc_new w _
  have hr1 : wA.heap[b1]? = some (.cells #[.int .i64 0, .int .i64 0, .slice none 0 0] 73 (0, 0)) := by
    have := heap_alloc_new (w.alloc (.cells #[.int .i64 x.t, .int .i64 x.k, .slice A n c] 73)) (.cells #[.int .i64 0, .int .i64 0, .slice none 0 0] 73)
    rw [World.size_alloc, ← hwA, ← hb1] at this
    exact this
  have HO := hid (ownB_any A c n x.d hn hl wA ((h.below hbA).more (by omega)) hnil)
  have hc2 := row_cell hr0 2
  have H0 := hid (And.intro hr0 (And.intro hr1 (And.intro hbA (And.intro hsA hb1))))
  have hc2' : wA.cell? ⟨w.heap.size, 2, none⟩ = some (.slice A n c) := hc2
  clear hc2 hr0 hr1 hbA hsA h hn hl hnil
  go_enter Tryz.func164, Tryz.ntmps164
  go_wp2_with fail
  rw [← hwA, ← hb1]
  clear hwA hb1
  go_wp2_with fail
  refine HO.out.mono ?_
  rintro e w1 ⟨A1, c1, rfl, ho1, hb1⟩
  have hr01 := (hb1.block _ (by have := H0.out.2.2.2.1; omega)).trans H0.out.1
  have hr11 := (hb1.block _ (by have := H0.out.2.2.2.1; have := H0.out.2.2.2.2; omega)).trans H0.out.2.1
  have hc1 := row_cell hr01 2
  have hf1 := row_free hr01 2
  have hcc : w1.cell? ⟨w.heap.size, 2, none⟩ = some (.slice A n c) := hc1
  have hr02 : (w1.setCell ⟨w.heap.size, 2, none⟩ (.slice A1 n c1)).heap[w.heap.size]? = some (.cells #[.int .i64 x.t, .int .i64 x.k, .slice A1 n c1] 73 (0, 0)) := row_set hr01 2 _
  have hT2 : Turned (fun k => k = w.heap.size) w1 (w1.setCell ⟨w.heap.size, 2, none⟩ (.slice A1 n c1)) := Turned.one _ _ _ _
  have hr12 := (hT2.block b1 (row_lt hr11) (by have := H0.out.2.2.2.2; omega)).trans hr11
  generalize hw2 : w1.setCell ⟨w.heap.size, 2, none⟩ (.slice A1 n c1) = w2 at *
  have hld := ldRow info_entry33 Tryz.underlying73 rfl hr02 rfl
  have hst := stRow info_entry33 (cs' := #[.int .i64 x.t, .int .i64 x.k, .slice A1 n c1]) hr12 rfl rfl (by simp [Value.oneCell'])
  have hro3 := setRow_heap w2 b1 _ #[.int .i64 x.t, .int .i64 x.k, .slice A1 n c1] _ _ hr12
  have hT3 := row_turned w2 b1 #[.int .i64 x.t, .int .i64 x.k, .slice A1 n c1]
  generalize w2.setRow b1 #[.int .i64 x.t, .int .i64 x.k, .slice A1 n c1] = w3 at *
  have HF : Hid (w3.heap[b1]? = some (.cells #[.int .i64 x.t, .int .i64 x.k, .slice A1 n c1] 73 (0, 0)) ∧ OwnsB 5 w3 w.heap.size A1 c1 x.d ∧ Below w.heap.size w w3) := hid (by
    have z0 := H0.out.2.2.2.1
    have z1 := H0.out.2.2.2.2
    have zb := hb1.size
    have o2 := ho1.turned hT2 (fun k hk e => by have := (ho1.blkLt k hk).1; omega)
    refine ⟨hro3, (o2.turned hT3 (fun k hk e => by have := (o2.blkLt k hk).1; omega)).weaken (by omega), ?_⟩
    exact (H0.out.2.2.1.trans (hb1.mono (by omega))).trans ((hT2.below (by omega) (fun k hk => by omega)).trans (hT3.below (by have := hT2.size; omega) (fun k hk => by omega))))
  clear ho1 hb1 hr01 hr11 hc1 hr02 hT2 hr12 hro3 hT3
  go_wp2_with fail
  refine bodyPost_ret (results_cell_row rfl _ _ b1 _ _ _ _ rfl HF.out.1 Tryz.underlying73 rfl (by rw [info_entry33]; rfl)) rfl ?_
  exact ⟨A1, c1, rfl, HF.out.2⟩
end Go.Proofs.YtaeoccpjdjafnaaGreat.Im
namespace Go.Proofs.YtaeoccpjdjafnaaGreat.Im
open Go.RowKit
open Rl (En Lg)
set_option maxRecDepth 100000
set_option linter.unusedVariables false
attribute [local go_sem ↓] loadAt_entry1 storeAt_entry1

theorem isEnts_row {w : World} {B : Nat} {A : Option Addr} {L : List En} (h : IsEnts w B A L) : ∃ M : List El, M.map (·.e) = L ∧ Reads w B M ∧ IsRow cellsE 3 w B A M := by
  obtain ⟨M, h1, h2, h3⟩ := h.flat
  refine ⟨M, h1, h2, ⟨fun k hk => ?_⟩⟩
  have hkL : k < L.length := by rw [← h1, List.length_map]; exact hk
  obtain ⟨b, off, e, hb, _⟩ := h.cells k hkL
  refine ⟨b, off, e, hb, fun i hi j v hv => ?_⟩
  have hj : j < 3 := (List.getElem?_eq_some_iff.1 hv).1
  have h4 := h3 ⟨b, off, none⟩ e (i * 3 + j) v (by rw [flat_get cellsE 3 (fun _ => rfl) M i hi j hj]; exact hv)
  rw [add_off, ← Nat.add_assoc] at h4
  exact h4
/-- each of several between two blocks, one behind the other -/
def Chain {α : Type} (R : Nat → Nat → α → Prop) : Nat → Nat → List α → Prop
  | B, N, [] => B ≤ N
  | B, N, q :: l => ∃ m, B ≤ m ∧ R B m q ∧ Chain R m N l
section
variable {α : Type} {R R' : Nat → Nat → α → Prop}
theorem Chain.le : ∀ {l : List α} {B N : Nat}, Chain R B N l → B ≤ N
  | [], _, _, h => h
  | _ :: _, _, _, ⟨_, h1, _, h3⟩ => Nat.le_trans h1 (Chain.le h3)
theorem Chain.imp (h : ∀ a b x, R a b x → R' a b x) : ∀ {l : List α} {B N : Nat}, Chain R B N l → Chain R' B N l
  | [], _, _, h0 => h0
  | _ :: _, _, _, ⟨m, h1, h2, h3⟩ => ⟨m, h1, h _ _ _ h2, Chain.imp h h3⟩
theorem Chain.snoc {N N' : Nat} {q : α} (hN : N ≤ N') (hq : R N N' q) (hR : ∀ a a' b x, a' ≤ a → R a b x → R a' b x) : ∀ {l : List α} {B : Nat}, Chain R B N l → Chain R B N' (l ++ [q])
  | [], _, h => ⟨N', Nat.le_trans h hN, hR _ _ _ _ h hq, Nat.le_refl _⟩
  | _ :: _, _, ⟨m, h1, h2, h3⟩ => ⟨m, h1, h2, Chain.snoc hN hq hR h3⟩
theorem Chain.mem {q : α} : ∀ {l : List α} {B N : Nat}, Chain R B N l → q ∈ l → ∃ a b, B ≤ a ∧ b ≤ N ∧ R a b q
  | _ :: _, _, _, ⟨m, h1, h2, h3⟩, hq => by
    rcases List.mem_cons.1 hq with rfl | hq
    · exact ⟨_, m, Nat.le_refl _, Chain.le h3, h2⟩
    · obtain ⟨a, b, q1, q2, q3⟩ := Chain.mem h3 hq
      exact ⟨a, b, by omega, q2, q3⟩
end
def OwnEl (w : World) (B N : Nat) (q : El) : Prop := OwnsB 5 w B q.A q.c q.e.d ∧ ∀ k, blk q.A = some k → k < N
theorem chain_apart {w : World} : ∀ {l : List El} {B N : Nat}, Chain (OwnEl w) B N l → Apart (l.map fun q => blk q.A)
  | [], _, _, _ => List.Pairwise.nil
  | q :: l, _, _, ⟨m, h1, h2, h3⟩ => by
    refine List.Pairwise.cons (fun x hx k hk e => ?_) (chain_apart h3)
    obtain ⟨q', hq', rfl⟩ := List.mem_map.1 hx
    obtain ⟨a, b, p1, _, p3⟩ := Chain.mem h3 hq'
    have := h2.2 k hk
    have := (p3.1.blkLt k e).1
    omega
theorem ents_of {w : World} {B N c : Nat} {A : Option Addr} {M : List El} {lo : Nat} (hrow : RowIn cellsE 3 73 w (fun k => B ≤ k) A c M) (hch : Chain (OwnEl w) lo N M) (hlo : B ≤ lo) (hN : w.heap.size ≤ N) (hnum : ∀ q ∈ M, InInt q.e.t ∧ InInt q.e.k) : EntsAt w B N A c M := by
  refine ⟨hrow.mono (fun k hk => ⟨hrow.blk k hk, by have := hrow.lt k hk; omega⟩), fun q hq => ?_, chain_apart hch, hnum⟩
  obtain ⟨a, b, p1, p2, p3⟩ := Chain.mem hch hq
  exact ⟨p3.1.weaken (Nat.zero_le _), fun k hk => ⟨by have := (p3.1.blkLt k hk).1; omega, by have := p3.2 k hk; omega⟩⟩
structure EvE (w : World) (lo : Nat) (A : Option Addr) (c : Nat) (M : List El) (k : Nat) (W : World) (M1 : List El) : Prop where
  len : M1.length = k
  row : RowIn cellsE 3 73 W (fun k => w.heap.size ≤ k) A c (M1 ++ M.drop k)
  ch : Chain (OwnEl W) lo W.heap.size M1
  val : M1.map (·.e) = (M.map (·.e)).take k
  bel : Below w.heap.size w W
  lo : w.heap.size ≤ lo
set_option maxHeartbeats 1600000 in
theorem eachE_any (A : Option Addr) (c n : Nat) (L : List En) (hn : L.length = n) (hl : n ≤ 100000) (hf : ∀ e ∈ L, e.d.length ≤ 140737488355000) (w : World) (h : IsEnts w w.heap.size A L) (hnil : A = none → c = 0) :
    Calls Tryz.prog 163 #[.slice A n c, .func (.func 164) #[] #[]] w fun e w' => ∃ A' c', e = .returned (.slice A' n c') ∧ OwnE w' w.heap.size w'.heap.size A' c' L ∧ Below w.heap.size w w' := by
  obtain ⟨M, hM, hrd, hrow⟩ := isEnts_row h
  have hMn : M.length = n := by rw [← hn, ← hM, List.length_map]
  have HO := hid (ownE_any A c n M hMn hl w hrow hnil)
  have hnum : ∀ q ∈ M, InInt q.e.t ∧ InInt q.e.k := fun q hq => h.num q.e (by rw [← hM]; exact List.mem_map.2 ⟨q, hq, rfl⟩)
  have HF : Hid (∀ q ∈ M, q.e.d.length ≤ 140737488355000) := hid (fun q hq => hf q.e (by rw [← hM]; exact List.mem_map.2 ⟨q, hq, rfl⟩))
  have H0 := hid (And.intro hM (And.intro hrd (And.intro hMn hnum)))
  have HL := hid hl
  clear h hn hnil hM hrd hrow hMn hnum hf
  go_enter Tryz.func163, Tryz.ntmps163
  go_wp2_with fail
  refine HO.out.mono ?_
  rintro e w1 ⟨A1, c1, rfl, hrow1, hb1⟩
  have HI : Hid (EvE w w1.heap.size A1 c1 M 0 w1 []) := hid ⟨rfl, by simpa using hrow1, Nat.le_refl _, by simp, hb1, hb1.size⟩
  clear hrow1 hb1
  go_wp2_with fail
  go_loopw [11] (fun i wr => ∃ k : Nat, k ≤ n ∧ i = .int .i64 k ∧ Hid (∃ M1, EvE w w1.heap.size A1 c1 M k wr M1)) (fun i _ => n - (RowKit.intOf i).toNat)
  case atStart => exact ⟨0, by omega, rfl, hid ⟨_, HI.out⟩⟩
  case round =>
    clear HI
    obtain ⟨k, hk, rfl, HV⟩ := hrel
    obtain ⟨M1, hv⟩ := HV.out
    by_cases hlt : k < n
    · have hkM : k < M.length := by rw [H0.out.2.2.1]; exact hlt
      have hkr : k < (M1 ++ M.drop k).length := by rw [List.length_append, List.length_drop, hv.len]; omega
      have hel : (M1 ++ M.drop k)[k] = M[k] := by
        rw [List.getElem_append_right (by rw [hv.len]; exact Nat.le_refl _)]
        simp [hv.len]
      obtain ⟨g, rfl⟩ : ∃ g, A1 = some ⟨g, 0, none⟩ := by
        obtain ⟨g, e, _⟩ := hv.row.get k hkr
        exact ⟨g, e⟩
      have hrange := RowIn.range hv.row k hkr
      rw [hel] at hrange
      have hkn : (k : Int) < (n : Int) := by omega
      obtain ⟨q, hq⟩ : ∃ q, q = M[k] := ⟨_, rfl⟩
      have hqm : q ∈ M := by rw [hq]; exact List.getElem_mem hkM
      rw [← hq] at hrange
      have hld : (ldX 73 (.pointer (some ⟨g, k * 3, none⟩))).run Tryz.prog wr = .ok (.agg #[.int .i64 q.e.t, .int .i64 q.e.k, .slice q.A q.e.d.length q.c]) wr := run_loadAt_mid wr g (k * 3) 73 (cellsE q) _ hrange Tryz.underlying73 rfl (by rw [info_entry33]; rfl)
      have hqr := H0.out.2.1 q hqm
      obtain ⟨m, hm⟩ : ∃ m, m = q.e.d.length := ⟨_, rfl⟩
      have hml : m ≤ 140737488355000 := by rw [hm]; exact HF.out q hqm
      have HE := hid (ownEntry_any q.e q.A q.c m hm.symm hml wr ((hqr.1.below hv.bel).more hv.bel.size) hqr.2.2)
      rw [← hm] at hld
      have H3 := hid (And.intro hv (And.intro hq (And.intro hkr hm)))
      clear hv hrange hel hqr hm hq hkr
      go_wp2_with fail
      refine HE.out.mono ?_
      rintro e w3 ⟨A3, c3, rfl, ho3, hb3⟩
      have hrow3 := H3.out.1.row.below hb3
      have hth := RowIn.there hrow3 k H3.out.2.2.1
      have hst := stAt info_entry33 hth #[.int .i64 q.e.t, .int .i64 q.e.k, .slice A3 m c3] rfl (by simp [Value.oneCell'])
      have hrow4 := RowIn.setAll hrow3 k H3.out.2.2.1 (⟨q.e, A3, c3⟩ : El)
      have hT := turned_setCells g [.int .i64 q.e.t, .int .i64 q.e.k, .slice A3 m c3] w3 (k * 3)
      have HI : Hid (EvE w w1.heap.size (some ⟨g, 0, none⟩) c1 M (k + 1) (w3.setCells g (k * 3) [.int .i64 q.e.t, .int .i64 q.e.k, .slice A3 m c3]) (M1 ++ [⟨q.e, A3, c3⟩])) := hid (by
        obtain ⟨hv, hq, hkr, hm⟩ := H3.out
        have hlen := hv.len
        obtain ⟨cur, hcur⟩ := hrow3.tag rfl
        have own3 : ∀ a b x, OwnEl wr a b x → OwnEl (w3.setCells g (k * 3) [.int .i64 q.e.t, .int .i64 q.e.k, .slice A3 m c3]) a b x := fun a b x hx => by
          have h3 : OwnsB 5 w3 a x.A x.c x.e.d := hx.1.turned (S := fun _ => False) (Turned.ofBelow _ hb3) (fun _ _ h => h)
          exact ⟨h3.turned hT (fun j hj e => h3.ne hcur (by decide) (by rw [← e]; exact hj)), hx.2⟩
        have hset : (M1 ++ M.drop k).set k (⟨q.e, A3, c3⟩ : El) = (M1 ++ [⟨q.e, A3, c3⟩]) ++ M.drop (k + 1) := by
          rw [List.set_append_right _ _ (by omega), hlen, Nat.sub_self, List.drop_eq_getElem_cons hkM, List.append_assoc]
          rfl
        have hz := hT.size
        have hb3z := hb3.size
        refine ⟨by simp [hlen], by rw [← hset, show [Value.int .i64 q.e.t, .int .i64 q.e.k, .slice A3 m c3] = cellsE ⟨q.e, A3, c3⟩ by rw [hm]; rfl]; exact hrow4, ?_, ?_, ?_, hv.lo⟩
        · have ho4 : OwnEl (w3.setCells g (k * 3) [.int .i64 q.e.t, .int .i64 q.e.k, .slice A3 m c3]) wr.heap.size (w3.setCells g (k * 3) [.int .i64 q.e.t, .int .i64 q.e.k, .slice A3 m c3]).heap.size ⟨q.e, A3, c3⟩ := by
            have h4 := ho3.turned hT (fun j hj e => ho3.ne hcur (by decide) (by rw [← e]; exact hj))
            exact ⟨h4, fun j hj => (h4.blkLt j hj).2⟩
          exact Chain.snoc (by omega) ho4 (fun a a' b x h hx => ⟨hx.1.weaken h, hx.2⟩) (hv.ch.imp own3)
        · rw [List.map_append, hv.val, List.take_succ_eq_append_getElem (by rw [List.length_map]; exact hkM), List.getElem_map, hq]; rfl
        · exact (hv.bel.trans (hb3.mono hv.bel.size)).trans (hT.below (by have := hv.bel.size; omega) (fun j hj => by
            have := hrow3.blk g rfl
            omega)))
      clear hrow3 hth hrow4 hT ho3 hb3
      generalize w3.setCells g (k * 3) [.int .i64 q.e.t, .int .i64 q.e.k, .slice A3 m c3] = w4 at *
      go_wp2_with fail
      go_roundw
      case rel => exact ⟨k + 1, by omega, by go_num, hid ⟨_, HI.out⟩⟩
      case measure => simp [RowKit.intOf]; omega
    · obtain rfl : k = n := by omega
      have HF2 : Hid (OwnE wr w.heap.size wr.heap.size A1 c1 L ∧ Below w.heap.size w wr) := hid (by
        have h0 : M.drop k = [] := List.drop_of_length_le (by rw [H0.out.2.2.1]; exact Nat.le_refl _)
        have h1 := hv.row
        rw [h0, List.append_nil] at h1
        have h2 := hv.val
        rw [List.take_of_length_le (by rw [List.length_map, H0.out.2.2.1]; exact Nat.le_refl _), H0.out.1] at h2
        refine ⟨⟨M1, h2, ents_of h1 hv.ch hv.lo (Nat.le_refl _) (fun q hq => ?_)⟩, hv.bel⟩
        have hqe : q.e ∈ M.map (·.e) := by rw [H0.out.1, ← h2]; exact List.mem_map.2 ⟨q, hq, rfl⟩
        obtain ⟨q', hq', e⟩ := List.mem_map.1 hqe
        rw [← e]; exact H0.out.2.2.2 q' hq')
      clear hv
      go_wp2_with fail
      go_ret
      exact ⟨A1, c1, rfl, HF2.out⟩
end Go.Proofs.YtaeoccpjdjafnaaGreat.Im
namespace Go.Proofs.YtaeoccpjdjafnaaGreat
open Go
set_option maxRecDepth 100000

/-- what is known of a region: its slots, which operation is which step (a call, a store: what changes the world), what each leaves, what holds of the world behind each step -/
structure Rc (δ : Type) where
  ops : Array Oper
  nt : Nat
  step : Nat → Option Nat
  val : δ → Nat → Value
  inv : δ → Nat → World → Prop
structure Jc {δ : Type} (C : Rc δ) (a0 : Act) (X : δ) (p : Nat) (listed : Array Bool) (a : Act) (w : World) : Prop where
  size : a.tmps.size = C.nt
  defers : a.defers = a0.defers
  keep : ∀ s : Nat, (∀ (j : Nat) (o : Oper), C.ops[j]? = some o → o.dst ≠ some s) → a.eval (.tmp s) = a0.eval (.tmp s)
  lsize : listed.size = C.ops.size
  clos : ∀ (j : Nat) (o : Oper), C.ops[j]? = some o → listed.getD j false = true → ∀ e ∈ o.after, Region.binds .any e = true → listed.getD e.on false = true
  slots : ∀ (j : Nat) (o : Oper) (d : Nat), C.ops[j]? = some o → o.dst = some d → listed.getD j false = true → a.eval (.tmp d) = C.val X j
  call : ∀ j, j < C.ops.size → ∀ k, C.step j = some k → (listed.getD j false = true ↔ k < p)
  inv : C.inv X p w
structure Rc.Ok {δ : Type} (C : Rc δ) : Prop where
  nt : ∀ (j : Nat) (o : Oper) (d : Nat), C.ops[j]? = some o → o.dst = some d → d < C.nt
  once : ∀ (i j : Nat) (o o' : Oper) (d : Nat), C.ops[i]? = some o → C.ops[j]? = some o' → o.dst = some d → o'.dst = some d → i = j
  uniq : ∀ i j k, i < C.ops.size → j < C.ops.size → C.step i = some k → C.step j = some k → i = j
theorem evput_ne (a : Act) {d : Option Tmp} {t : Nat} (v : Value) (h : d ≠ some t) : (a.put d v).eval (.tmp t) = a.eval (.tmp t) := by
  rcases d with _ | d
  · rfl
  · have : d ≠ t := fun e => h (by rw [e])
    simp [Act.put, Act.eval, Array.getElem?_setIfInBounds_ne this]
theorem evput_self (a : Act) {d : Nat} (v : Value) (h : d < a.tmps.size) : (a.put (some d) v).eval (.tmp d) = v := by
  simp [Act.put, Act.eval, h]
theorem listed_set (l : Array Bool) (j m : Nat) (hj : j < l.size) : (l.setIfInBounds j true).getD m false = if m = j then true else l.getD m false := by
  rw [Array.getD_eq_getD_getElem?, Array.getD_eq_getD_getElem?]
  by_cases e : m = j
  · subst e
    rw [if_pos rfl, Array.getElem?_setIfInBounds_self_of_lt hj]; rfl
  · rw [if_neg e, Array.getElem?_setIfInBounds_ne (by omega)]
theorem listed_no {l : Array Bool} {j : Nat} (h : l.getD j true = false) : l.getD j false = false := by
  rw [Array.getD_eq_getD_getElem?] at h ⊢
  rcases hl : l[j]? with _ | b
  · rfl
  · rw [hl] at h; exact h
section
variable {δ : Type} {C : Rc δ} {a0 a : Act} {X X' : δ} {p p' : Nat} {listed : Array Bool} {w w' : World}
theorem Jc.put (hC : C.Ok) (h : Jc C a0 X p listed a w) (j : Nat) (o : Oper) (hj : C.ops[j]? = some o) (ha : ∀ e ∈ o.after, Region.binds .any e = true → listed.getD e.on false = true) (v : Value) (hinv : C.inv X' p' w')
    (hk : ∀ (m : Nat), m < C.ops.size → listed.getD m false = true → C.val X' m = C.val X m) (hu : listed.getD j true = false) (hv : ∀ d, o.dst = some d → v = C.val X' j)
    (hc : ∀ m, m < C.ops.size → ∀ k, C.step m = some k → ((if m = j then true else listed.getD m false) = true ↔ k < p')) :
    Jc C a0 X' p' (listed.setIfInBounds j true) (a.put o.dst v) w' := by
  have hjs : j < C.ops.size := (Array.getElem?_eq_some_iff.1 hj).1
  have hjl : j < listed.size := by rw [h.lsize]; exact hjs
  refine ⟨?_, ?_, fun s hs => ?_, by simp [h.lsize], fun m om hm hl e he hb => ?_, fun m om d hm hd hl => ?_, fun m hm k hmk => ?_, hinv⟩
  · rcases hd : o.dst with _ | d
    · exact h.size
    · simp [Act.put, h.size]
  · rcases hd : o.dst with _ | d
    · exact h.defers
    · exact h.defers
  · rw [evput_ne a v (hs j o hj)]; exact h.keep s hs
  · rw [listed_set _ _ _ hjl] at hl ⊢
    by_cases e1 : e.on = j
    · rw [if_pos e1]
    · rw [if_neg e1]
      by_cases e2 : m = j
      · subst e2
        rw [hj] at hm
        obtain rfl := Option.some.inj hm
        exact ha e he hb
      · rw [if_neg e2] at hl
        exact h.clos m om hm hl e he hb
  · rw [listed_set _ _ _ hjl] at hl
    by_cases e2 : m = j
    · subst e2
      rw [hj] at hm
      obtain rfl := Option.some.inj hm
      rw [hd, evput_self a v (by rw [h.size]; exact hC.nt m o d hj hd)]
      exact hv d hd
    · rw [if_neg e2] at hl
      rw [evput_ne a v (fun e => e2 (hC.once m j om o d hm hj hd e)), hk m (Array.getElem?_eq_some_iff.1 hm).1 hl]
      exact h.slots m om d hm hd hl
  · rw [listed_set _ _ _ hjl]; exact hc m hm k hmk
/-- an operation that leaves the world as it is -/
theorem Jc.pure (hC : C.Ok) (h : Jc C a0 X p listed a w) (j : Nat) (o : Oper) (hj : C.ops[j]? = some o) (ha : ∀ e ∈ o.after, Region.binds .any e = true → listed.getD e.on false = true) (hu : listed.getD j true = false) (hn : C.step j = none) :
    Jc C a0 X p (listed.setIfInBounds j true) (a.put o.dst (C.val X j)) w :=
  h.put hC j o hj ha _ h.inv (fun _ _ _ => rfl) hu (fun _ _ => rfl) (fun m hm k hk => by
    rw [if_neg (fun e => by subst e; rw [hn] at hk; cases hk)]
    exact h.call m hm k hk)
/-- step p is done -/
theorem Jc.called (hC : C.Ok) (h : Jc C a0 X p listed a w) (j : Nat) (o : Oper) (hj : C.ops[j]? = some o) (ha : ∀ e ∈ o.after, Region.binds .any e = true → listed.getD e.on false = true) (hu : listed.getD j true = false) (hn : C.step j = some p) (v : Value) (hinv : C.inv X' (p + 1) w')
    (hk : ∀ (m : Nat), m < C.ops.size → m ≠ j → listed.getD m false = true → C.val X' m = C.val X m) (hv : ∀ d, o.dst = some d → v = C.val X' j) :
    Jc C a0 X' (p + 1) (listed.setIfInBounds j true) (a.put o.dst v) w' :=
  h.put hC j o hj ha v hinv (fun m hm hl => hk m hm (fun e => by rw [e, listed_no hu] at hl; cases hl) hl) hu hv (fun m hm k hmk => by
    by_cases e : m = j
    · subst e
      rw [hn] at hmk; injection hmk with hmk
      rw [if_pos rfl]
      exact ⟨fun _ => by omega, fun _ => rfl⟩
    · rw [if_neg e, h.call m hm k hmk]
      have : k ≠ p := fun e' => e (hC.uniq m j p hm (Array.getElem?_eq_some_iff.1 hj).1 (e' ▸ hmk) hn)
      omega)
/-- step k comes up behind step k - 1: it is step p -/
theorem Jc.next (h : Jc C a0 X p listed a w) {j k : Nat} (hj : j < C.ops.size) (hk : C.step j = some k) (hu : listed.getD j true = false) (hb : k = 0 ∨ ∃ i, i < C.ops.size ∧ C.step i = some (k - 1) ∧ listed.getD i false = true) : k = p := by
  have h1 : p ≤ k := by
    rcases Nat.lt_or_ge k p with h' | h'
    · have := (h.call j hj k hk).2 h'
      rw [listed_no hu] at this; cases this
    · exact h'
  rcases hb with h0 | ⟨i, hi, hik, hil⟩
  · omega
  · have := (h.call i hi _ hik).1 hil
    omega
/-- a step that waits for j has not been done -/
theorem Jc.ahead (h : Jc C a0 X p listed a w) {j m k : Nat} {om : Oper} (hm : C.ops[m]? = some om) (hk : C.step m = some k) (hu : listed.getD j true = false) (hw : ∃ e ∈ om.after, Region.binds .any e = true ∧ e.on = j) : p ≤ k := by
  rcases Nat.lt_or_ge k p with h' | h'
  · have hl := (h.call m (Array.getElem?_eq_some_iff.1 hm).1 k hk).2 h'
    obtain ⟨e, he, hb, rfl⟩ := hw
    have := h.clos m om hm hl e he hb
    rw [listed_no hu] at this; cases this
  · exact h'
end
theorem Jc.kept {δ : Type} {C : Rc δ} {a0 a : Act} {X : δ} {p : Nat} {listed : Array Bool} {w : World} (h : Jc C a0 X p listed a w) (s : Nat) (hb : (C.ops.all fun o => decide (o.dst ≠ some s)) = true) : a.eval (.tmp s) = a0.eval (.tmp s) :=
  h.keep s (fun j o hj => by
    have := (Array.all_eq_true_iff_forall_mem.1 hb) o (Array.mem_of_getElem? hj)
    simpa using this)
theorem run_move {P : Program} {ρ : Operand → Value} {x : Operand} {ty : TypeId} {w : World} {v : Value} (h : ρ x = v) : (execOp ρ (sop (.move x) ty)).run P w = .ok (.value v) w := by subst h; exact x_move _ _ _ _
theorem run_assign {P : Program} {ρ : Operand → Value} {x : Operand} {ty : TypeId} {w : World} {v : Value} (h : ρ x = v) : (execOp ρ (sop (.assign x) ty)).run P w = .ok (.value v) w := by subst h; exact x_assign _ _ _ _
theorem run_pick {P : Program} {ρ : Operand → Value} {c x y : Operand} {ty : TypeId} {w : World} {b : Bool} {v : Value} (hc : ρ c = .bool b) (h : (if b = true then ρ x else ρ y) = v) : (execOp ρ (sop (.pick c x y) ty)).run P w = .ok (.value v) w := by subst h; simp [execOp, sop, hc, asBool]
theorem run_bin {P : Program} {ρ : Operand → Value} {op : BinOp} {t u : TypeId} {x y : Operand} {ty : TypeId} {w : World} {v1 v2 v : Value} (h1 : ρ x = v1) (h2 : ρ y = v2) (h : (do eqGuard op t x y v1 v2; binOp op t v1 v2 : Sem Value).run P w = .ok v w) : (execOp ρ (sop (.binOp op t x y u) ty)).run P w = .ok (.value v) w := by
  subst h1
  subst h2
  unfold execOp sop
  simp only [Sem.run_bind, Sem.run_pure] at h ⊢
  rw [h]
  rfl
theorem run_nil {P : Program} {ρ : Operand → Value} {x : Operand} {ty : TypeId} {w : World} {ad : Addr} (h : ρ x = .pointer (some ad)) : (execOp ρ (sop (.nilCheck x) ty)).run P w = .ok (.value (.pointer (some ad))) w := by simp [execOp, sop, h]
theorem run_fad {P : Program} {ρ : Operand → Value} {t : TypeId} {x : Operand} {f : Nat} {ty : TypeId} {v0 v : Value} {w : World} (h0 : ρ x = v0) (h : (Instr.fieldAt t v0 f).run P w = .ok v w) : (execOp ρ (sop (.fieldAddr t x f) ty)).run P w = .ok (.value v) w := by subst h0; simp [execOp, sop, h]
theorem run_load {P : Program} {ρ : Operand → Value} {t : TypeId} {x : Operand} {ty : TypeId} {v0 v : Value} {w : World} (h0 : ρ x = v0) (h : (Instr.loadAt t v0).run P w = .ok v w) : (execOp ρ (sop (.load t x) ty)).run P w = .ok (.value v) w := by subst h0; simp [execOp, sop, h]
theorem run_store {P : Program} {ρ : Operand → Value} {t : TypeId} {x y : Operand} {ty : TypeId} {v0 v : Value} {w w' : World} (h0 : ρ x = v0) (h1 : ρ y = v) (h : (Instr.storeAt t v0 v).run P w = .ok () w') : (execOp ρ (sop (.store t x y) ty)).run P w = .ok .skip w' := by subst h0; subst h1; simp [execOp, sop, h]
theorem run_call1 {P : Program} {a : Act} {f : FuncId} {x : Operand} {ty t : TypeId} {v : Value} {w : World} (h : a.eval x = v) (hcf : (callFunc f #[v]).run P w = .ok (.enter f #[v]) w) : (execOp a.eval (sop (.call { callee := .value (.func f), args := #[x], argTypes := #[t] }) ty)).run P w = .ok (.enter f #[v]) w := by
  generalize hρ : a.eval = ρ at h ⊢
  have hf : ρ (.func f) = .func (.func f) #[] #[] := by rw [← hρ]; rfl
  clear hρ
  unfold execOp sop
  simp [resolve, invoke, h, hf, Deferred.ofValue, hcf]
def Ic {δ : Type} (C : Rc δ) (a0 : Act) (listed : Array Bool) (a : Act) (w : World) : Prop := ∃ X p, Jc C a0 X p listed a w
section
variable {δ : Type} {P : Program} {C : Rc δ} {a0 a : Act} {X : δ} {p : Nat} {listed : Array Bool} {w : World} {Q : Exit → Act → World → Prop}
/-- what an operation must do -/
def ArmC (P : Program) (C : Rc δ) (a0 : Act) (Q : Exit → Act → World → Prop) (j : Nat) (o : Oper) : Prop :=
  ∀ X p listed a w, Jc C a0 X p listed a w → C.ops[j]? = some o → listed.getD j true = false → (∀ e ∈ o.after, Region.binds .any e = true → listed.getD e.on false = true) → wpOp P C.ops Q j (fun a' w' => Ic C a0 (listed.setIfInBounds j true) a' w') a w
/-- it yields its value and leaves the world as it is -/
theorem arm_pure (hC : C.Ok) {j : Nat} {o : Oper} (hg : o.guard = none) (hn : C.step j = none)
    (hr : ∀ X p listed a w, Jc C a0 X p listed a w → listed.getD j true = false → (∀ e ∈ o.after, Region.binds .any e = true → listed.getD e.on false = true) → (execOp a.eval (sop o.op o.type)).run P w = .ok (.value (C.val X j)) w) : ArmC P C a0 Q j o := by
  intro X p listed a w h hj hu ha
  refine Goes.wpOp (R := fun v w' => v = C.val X j ∧ w' = w) hj hg (.inl ⟨_, w, hr X p listed a w h hu ha, rfl, rfl⟩) ?_
  rintro v w' ⟨rfl, rfl⟩
  exact ⟨X, p, h.pure hC j o hj ha hu hn⟩
theorem wanted_of {ops : Array Oper} {a : Act} {o og : Oper} {g d : Nat} {b c : Bool} (hg : o.guard = some (g, b)) (ho : ops[g]? = some og) (hd : og.dst = some d) (hlt : d < a.tmps.size) (h : a.eval (.tmp d) = .bool c) : Region.wanted o (yielded ops a.tmps) = (c == b) := by
  have h2 : a.tmps[d]? = some (.bool c) := by
    have h3 : a.tmps.getD d undef = .bool c := h
    rw [Array.getD_eq_getD_getElem?, Array.getElem?_eq_getElem hlt] at h3
    rw [Array.getElem?_eq_getElem hlt]
    exact congrArg some h3
  unfold Region.wanted
  rw [hg]
  simp only [yielded, ho, Option.bind_some, hd, h2]
  cases b <;> cases c <;> rfl
theorem goes_wpOpG {P : Program} {ops : Array Oper} {Q : Exit → Act → World → Prop} {K : Act → World → Prop} {a : Act} {w : World} {i : Nat} {o : Oper} {R : Value → World → Prop} (hi : ops[i]? = some o) (hw : Region.wanted o (yielded ops a.tmps) = true) (h : Goes P a w o.op o.type R)
    (hk : ∀ v w', R v w' → K (a.put o.dst v) w') : wpOp P ops Q i K a w := by
  unfold Go.wpOp
  simp only [hi]
  rw [if_pos hw]
  left
  unfold Oper.wp
  rw [exec_sop]
  rcases h with ⟨v, w', hr, hR⟩ | ⟨f, args, hr, hC⟩
  · rw [hr, Oper.upon_value]
    exact hk v w' hR
  · rw [hr, Oper.upon_enter]
    refine hC.mono ?_
    rintro e w' ⟨v, rfl, hR⟩
    exact hk v w' hR
/-- .. behind a guard that is open -/
theorem arm_pureG (hC : C.Ok) {j : Nat} {o : Oper} (hn : C.step j = none)
    (hr : ∀ X p listed a w, Jc C a0 X p listed a w → listed.getD j true = false → (∀ e ∈ o.after, Region.binds .any e = true → listed.getD e.on false = true) → Region.wanted o (yielded C.ops a.tmps) = true ∧ (execOp a.eval (sop o.op o.type)).run P w = .ok (.value (C.val X j)) w) : ArmC P C a0 Q j o := by
  intro X p listed a w h hj hu ha
  obtain ⟨h1, h2⟩ := hr X p listed a w h hu ha
  refine goes_wpOpG (R := fun v w' => v = C.val X j ∧ w' = w) hj h1 (.inl ⟨_, w, h2, rfl, rfl⟩) ?_
  rintro v w' ⟨rfl, rfl⟩
  exact ⟨X, p, h.pure hC j o hj ha hu hn⟩
/-- it is passed over: its guard is shut -/
theorem arm_shut (hC : C.Ok) {j : Nat} {o : Oper} (hn : C.step j = none) (hv : ∀ X, C.val X j = undef)
    (hr : ∀ X p listed a w, Jc C a0 X p listed a w → listed.getD j true = false → (∀ e ∈ o.after, Region.binds .any e = true → listed.getD e.on false = true) → Region.wanted o (yielded C.ops a.tmps) = false) : ArmC P C a0 Q j o := by
  intro X p listed a w h hj hu ha
  have h1 := hr X p listed a w h hu ha
  unfold Go.wpOp
  simp only [hj]
  rw [if_neg (by rw [h1]; exact Bool.false_ne_true)]
  have := h.pure hC j o hj ha hu hn
  rw [hv] at this
  exact ⟨X, p, this⟩
/-- it is step k, a call -/
theorem arm_call (hC : C.Ok) {j k : Nat} {o : Oper} (hg : o.guard = none) (hn : C.step j = some k) (hb : k = 0 ∨ ∃ i, i < C.ops.size ∧ C.step i = some (k - 1) ∧ ∃ e ∈ o.after, Region.binds .any e = true ∧ e.on = i)
    (hr : ∀ X listed a w, Jc C a0 X k listed a w → listed.getD j true = false → (∀ e ∈ o.after, Region.binds .any e = true → listed.getD e.on false = true) →
      Goes P a w o.op o.type fun v w' => ∃ X', (∀ d, o.dst = some d → v = C.val X' j) ∧ C.inv X' (k + 1) w' ∧ ∀ m, m < C.ops.size → m ≠ j → (∀ i, C.step m = some i → i < k) → listed.getD m false = true → C.val X' m = C.val X m) : ArmC P C a0 Q j o := by
  intro X p listed a w h hj hu ha
  have hjs := (Array.getElem?_eq_some_iff.1 hj).1
  obtain rfl : k = p := h.next hjs hn hu (hb.imp id (fun ⟨i, h1, h2, e, he, h3, h4⟩ => ⟨i, h1, h2, h4 ▸ ha e he h3⟩))
  refine Goes.wpOp (R := fun v w' => ∃ X', (∀ d, o.dst = some d → v = C.val X' j) ∧ C.inv X' (k + 1) w' ∧ ∀ m, m < C.ops.size → m ≠ j → (∀ i, C.step m = some i → i < k) → listed.getD m false = true → C.val X' m = C.val X m) hj hg (hr X listed a w h hu ha) ?_
  rintro v w' ⟨X', h1, h2, h3⟩
  exact ⟨X', k + 1, h.called hC j o hj ha hu hn v h2 (fun m hm hne hl => h3 m hm hne (fun i hi => (h.call m hm i hi).1 hl) hl) h1⟩
/-- it is step k, a store -/
theorem arm_store (hC : C.Ok) {j k : Nat} {o : Oper} (hg : o.guard = none) (hd : o.dst = none) (hn : C.step j = some k) (hb : k = 0 ∨ ∃ i, i < C.ops.size ∧ C.step i = some (k - 1) ∧ ∃ e ∈ o.after, Region.binds .any e = true ∧ e.on = i)
    (hr : ∀ X listed a w, Jc C a0 X k listed a w → listed.getD j true = false → (∀ e ∈ o.after, Region.binds .any e = true → listed.getD e.on false = true) →
      ∃ w', (execOp a.eval (sop o.op o.type)).run P w = .ok .skip w' ∧ C.inv X (k + 1) w') : ArmC P C a0 Q j o := by
  intro X p listed a w h hj hu ha
  have hjs := (Array.getElem?_eq_some_iff.1 hj).1
  obtain rfl : k = p := h.next hjs hn hu (hb.imp id (fun ⟨i, h1, h2, e, he, h3, h4⟩ => ⟨i, h1, h2, h4 ▸ ha e he h3⟩))
  obtain ⟨w', hrun, hinv⟩ := hr X listed a w h hu ha
  unfold Go.wpOp
  simp only [hj]
  have hw : Region.wanted o (yielded C.ops a.tmps) = true := by simp [Region.wanted, hg]
  rw [if_pos hw]
  left
  unfold Oper.wp
  rw [exec_sop, hrun, Oper.upon_skip]
  exact ⟨X, k + 1, h.called hC j o hj ha hu hn undef hinv (fun _ _ _ _ => rfl) (fun d e => by rw [hd] at e; cases e)⟩
def acyc (ops : Array Oper) : Bool := (List.range ops.size).all fun i => match ops[i]? with
  | some o => o.after.all fun e => !Region.binds .any e || decide (e.on < i)
  | none => true
theorem acyc_spec {ops : Array Oper} (h : acyc ops = true) (i : Nat) (o : Oper) (hi : ops[i]? = some o) (e : _) (he : e ∈ o.after) (hb : Region.binds .any e = true) : e.on < i := by
  have hlt : i < ops.size := (Array.getElem?_eq_some_iff.1 hi).1
  have := List.all_eq_true.1 h i (List.mem_range.2 hlt)
  rw [hi] at this
  have h2 := (Array.all_eq_true_iff_forall_mem.1 this) e he
  rw [hb] at h2
  simpa using h2
/-- no slot is written twice, none beyond nt; no two operations are one step -/
def onceB (C : Rc δ) : Bool := (List.range C.ops.size).all fun i => (match C.ops[i]?.bind (·.dst) with | some d => decide (d < C.nt) | none => true) && (List.range C.ops.size).all fun j => decide (i = j) || ((decide (C.ops[i]?.bind (·.dst) = none) || decide (C.ops[i]?.bind (·.dst) ≠ C.ops[j]?.bind (·.dst))) && (decide (C.step i = none) || decide (C.step i ≠ C.step j)))
theorem onceB_ok (h : onceB C = true) : C.Ok := by
  have key : ∀ i j, i < C.ops.size → j < C.ops.size → i ≠ j → (C.ops[i]?.bind (·.dst) = none ∨ C.ops[i]?.bind (·.dst) ≠ C.ops[j]?.bind (·.dst)) ∧ (C.step i = none ∨ C.step i ≠ C.step j) := fun i j hi hj hne => by
    have h1 := List.all_eq_true.1 h i (List.mem_range.2 hi)
    rw [Bool.and_eq_true] at h1
    have h2 := List.all_eq_true.1 h1.2 j (List.mem_range.2 hj)
    simpa [hne] using h2
  refine ⟨fun j o d hj hd => ?_, fun i j o o' d hi hj hd hd' => ?_, fun i j k hi hj h1 h2 => ?_⟩
  · have h1 := List.all_eq_true.1 h j (List.mem_range.2 (Array.getElem?_eq_some_iff.1 hj).1)
    rw [Bool.and_eq_true] at h1
    have h2 := h1.1
    rw [hj] at h2
    simp only [Option.bind_some, hd] at h2
    simpa using h2
  · rcases Nat.decEq i j with hne | e
    · have := (key i j (Array.getElem?_eq_some_iff.1 hi).1 (Array.getElem?_eq_some_iff.1 hj).1 hne).1
      rw [hi, hj] at this
      simp only [Option.bind_some, hd, hd'] at this
      rcases this with h | h
      · cases h
      · exact absurd rfl h
    · exact e
  · rcases Nat.decEq i j with hne | e
    · rcases (key i j hi hj hne).2 with h | h
      · rw [h] at h1; cases h1
      · exact absurd (h1.trans h2.symm) h
    · exact e
theorem region_calls {id : Nat} (hm : P.follows .mixedOrders = true) (hac : acyc C.ops = true) (hsz : a.tmps.size = C.nt) (X : δ) (h0 : C.inv X 0 w.drew) (hok : onceB C = true) (arms : C.Ok → AllFrom (ArmC P C a Q) 0 C.ops.toList)
    (he : ∀ listed a' w X p, Jc C a X p listed a' w → (∀ j, j < C.ops.size → listed.getD j false = true) → Q .normal a' w) : (Code.region id C.ops true).wp P Q a w := by
  refine wp_region_inv hm (Ic C a) ?_ (fun listed a' w i o hI hi hu ha => ?_) (fun listed a' w hI hr => ?_)
  · have hl : ∀ j, (Array.replicate C.ops.size false).getD j false = false := fun j => by
      rw [Array.getD_eq_getD_getElem?, Array.getElem?_replicate]
      split <;> rfl
    refine ⟨X, 0, hsz, rfl, fun _ _ => rfl, by simp, fun j o hj h => ?_, fun j o d hj hd h => ?_, fun j hj k hk => ?_, h0⟩
    · rw [hl] at h; cases h
    · rw [hl] at h; cases h
    · rw [hl]; exact ⟨fun h => (by cases h), fun h => (by omega)⟩
  · have := AllFrom.get (arms (onceB_ok hok)) i o (by rw [Array.getElem?_toList]; exact hi)
    rw [Nat.zero_add] at this
    obtain ⟨X, p, h⟩ := hI
    exact this X p listed a' w h hi hu ha
  · obtain ⟨X, p, h⟩ := hI
    exact he listed a' w X p h (fun j hj => all_listed h.lsize (fun i o hi e he hb => acyc_spec hac i o hi e he hb) hr j hj)
theorem act_listing (tmps : Array Value) (n : Nat) (h : tmps.size = n) : tmps = ((List.range n).map fun i => (tmps[i]?).getD undef).toArray := by
  apply Array.ext_getElem?
  intro i
  by_cases hi : i < n
  · have hi' : i < tmps.size := by omega
    simp [hi, hi']
  · have h1 : tmps[i]? = none := Array.getElem?_eq_none (by omega)
    rw [h1, eq_comm, List.getElem?_toArray, List.getElem?_eq_none_iff]; simp; omega
end
end Go.Proofs.YtaeoccpjdjafnaaGreat
