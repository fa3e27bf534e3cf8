/- What the statements' walks on messages share. -/
import Derived.Test.YtmaebemhephcmaaDoorMsWorks
namespace Go.Proofs.YtmaebemhephcmaaDoor.Ms
open Go.RowKit
set_option maxRecDepth 100000
set_option linter.unusedVariables false

theorem Is.wf {w : World} {B : Nat} {m : M} {A A' : Option Addr} {c c' : Nat} (h : Is w B m A c A' c') : Wf m := by
  refine ⟨fun r hr => h.num r hr, fun e he => ?_, h.d.small⟩
  obtain ⟨i, hi, rfl⟩ := List.getElem_of_mem he
  have h1 := h.es.num _ he
  obtain ⟨b, off, _, _, hc⟩ := h.es.cells i hi
  obtain ⟨_, _, _, _, _, h2, _⟩ := hc i hi
  exact ⟨h1.1, h1.2, h2.small⟩
theorem Is.ents {w : World} {m : M} {A A' : Option Addr} {c c' : Nat} (h : Is w w.heap.size m A c A' c') {w' : World} (hb : Below w.heap.size w w') : IsEnts w' w'.heap.size A m.es := (h.es.below hb).more hb.size
theorem Is.data {w : World} {m : M} {A A' : Option Addr} {c c' : Nat} (h : Is w w.heap.size m A c A' c') {w' : World} (hb : Below w.heap.size w w') : IsBytes w' w'.heap.size A' m.d := (h.d.below hb).more hb.size
theorem Is.inp {w : World} {m : M} {A A' : Option Addr} {c c' : Nat} (h : Is w w.heap.size m A c A' c') (hs : Small m) {w' : World} (hT : Tab w') (hb : Below w.heap.size w w') : Inp w' m A := ⟨hT, h.ents hb, hs⟩
theorem put_zero {m : M} (h : check m = 0) : put m = (Fr.frame m.enc, 0) := if_pos h
theorem put_not {m : M} (h : check m ≠ 0) : put m = ([], check m) := if_neg h
theorem same_yes (m : M) (A : Option Addr) (c : Nat) (A' : Option Addr) (c' : Nat) (A2 : Option Addr) (c2 : Nat) (A3 : Option Addr) (c3 : Nat) (w : World) (h : IsEnts w w.heap.size A m.es) (h' : IsEnts w w.heap.size A2 m.es) (g : IsBytes w w.heap.size A' m.d) (g' : IsBytes w w.heap.size A3 m.d) (hs : Small m) :
    Calls Tryd.prog 20 #[.agg #[.int .i64 m.K, .int .i64 m.F, .int .i64 m.T, .int .i64 m.g, .int .i64 m.t, .int .i64 m.i, .int .i64 m.p, .int .i64 m.c, .int .i64 m.r, .int .i64 m.x, .int .i64 m.a, .int .i64 m.b, .int .i64 m.v, .int .i64 m.s, .bool m.ok, .slice A m.es.length c, .slice A' m.d.length c'], .agg #[.int .i64 m.K, .int .i64 m.F, .int .i64 m.T, .int .i64 m.g, .int .i64 m.t, .int .i64 m.i, .int .i64 m.p, .int .i64 m.c, .int .i64 m.r, .int .i64 m.x, .int .i64 m.a, .int .i64 m.b, .int .i64 m.v, .int .i64 m.s, .bool m.ok, .slice A2 m.es.length c2, .slice A3 m.d.length c3]] w fun e w' => e = .returned (.bool true) ∧ Below w.heap.size w w' :=
  (same_any m m A c A' c' A2 c2 A3 c3 w h h' g g' hs hs).mono fun e w' ⟨he, hb⟩ => ⟨by rw [he, decide_eq_true rfl], hb⟩
/-- what Put tells, by cases -/
theorem put_ok (m : M) (A : Option Addr) (c : Nat) (A' : Option Addr) (c' : Nat) (w : World) (h : Is w w.heap.size m A c A' c') (hT : Tab w) (hs : Small m) (hc : check m = 0) (n : Nat) (hn : (Fr.frame m.enc).length = n) :
    Calls Tryd.prog 16 #[.agg #[.int .i64 m.K, .int .i64 m.F, .int .i64 m.T, .int .i64 m.g, .int .i64 m.t, .int .i64 m.i, .int .i64 m.p, .int .i64 m.c, .int .i64 m.r, .int .i64 m.x, .int .i64 m.a, .int .i64 m.b, .int .i64 m.v, .int .i64 m.s, .bool m.ok, .slice A m.es.length c, .slice A' m.d.length c']] w fun e w' => ∃ A2 c2, e = .returned (.tuple #[.slice A2 n c2, .int .i64 0]) ∧ OwnsB 5 w' w.heap.size A2 c2 (Fr.frame m.enc) ∧ Below w.heap.size w w' := by
  refine (put_any m A c A' c' w h hT hs).mono ?_
  rintro e w' ⟨A2, c2, he, ho, hb⟩
  rw [put_zero hc] at he ho
  subst hn
  exact ⟨A2, c2, he, ho, hb⟩
theorem put_err (m : M) (A : Option Addr) (c : Nat) (A' : Option Addr) (c' : Nat) (w : World) (h : Is w w.heap.size m A c A' c') (hT : Tab w) (hs : Small m) (hc : check m ≠ 0) (v : Int) (hv : ((check m : Nat) : Int) = v) :
    Calls Tryd.prog 16 #[.agg #[.int .i64 m.K, .int .i64 m.F, .int .i64 m.T, .int .i64 m.g, .int .i64 m.t, .int .i64 m.i, .int .i64 m.p, .int .i64 m.c, .int .i64 m.r, .int .i64 m.x, .int .i64 m.a, .int .i64 m.b, .int .i64 m.v, .int .i64 m.s, .bool m.ok, .slice A m.es.length c, .slice A' m.d.length c']] w fun e w' => ∃ A2 c2, e = .returned (.tuple #[.slice A2 0 c2, .int .i64 v]) ∧ Below w.heap.size w w' := by
  refine (put_any m A c A' c' w h hT hs).mono ?_
  rintro e w' ⟨A2, c2, he, ho, hb⟩
  rw [put_not hc] at he ho
  subst hv
  exact ⟨A2, c2, he, hb⟩
/-- what Get tells, what it comes to given -/
theorem get_is (l : List Nat) (A0 : Option Addr) (c0 n0 : Nat) (hn0 : l.length = n0) (w : World) (h : IsBytes w w.heap.size A0 l) (hn : A0 = none → c0 = 0) (hc : n0 ≤ c0) (hl : n0 ≤ 140737488355000) (hT : Tab w) (m : M) (e0 : Nat) (hg : get l = (m, e0)) (v : Int) (hv : (e0 : Int) = v) :
    Calls Tryd.prog 22 #[.slice A0 n0 c0] w fun e w' => ∃ A c A' c', e = .returned (.tuple #[.agg #[.int .i64 m.K, .int .i64 m.F, .int .i64 m.T, .int .i64 m.g, .int .i64 m.t, .int .i64 m.i, .int .i64 m.p, .int .i64 m.c, .int .i64 m.r, .int .i64 m.x, .int .i64 m.a, .int .i64 m.b, .int .i64 m.v, .int .i64 m.s, .bool m.ok, .slice A m.es.length c, .slice A' m.d.length c'], .int .i64 v]) ∧ OwnM w' w.heap.size m A c A' c' ∧ Below w.heap.size w w' := by
  refine (get_any l A0 c0 n0 hn0 w h hn hc hl hT).mono ?_
  rintro e w' ⟨A, c, A', c', he, ho, hb⟩
  rw [hg] at he ho
  subst hv
  exact ⟨A, c, A', c', he, ho, hb⟩
theorem back0 {m : M} (hw : Wf m) (hs : Small m) (hc : check m = 0) : get (Fr.frame m.enc) = (m, 0) := by
  have := back m hw hs hc [] (enc_lt m hw)
  rwa [List.append_nil] at this
theorem frame_le {m : M} (hc : check m = 0) : (Fr.frame m.enc).length ≤ 65544 := by
  obtain ⟨h1, h2, _, _, h5⟩ := check_zero hc
  rw [Fr.frame_length, enc_length m h1 h2]; omega
theorem works_N (w0 w : World) (hT : Tab w0) (hb : Below w0.heap.size w0 w) : Calls Tryd.prog 12 #[] w fun e w' => e = .returned (.bool true) ∧ Below w0.heap.size w0 w' :=
  (works_any w (hT.below hb hT.pos)).mono fun e w' ⟨he, hb'⟩ => ⟨he, hb.trans (hb'.mono hb.size)⟩
end Go.Proofs.YtmaebemhephcmaaDoor.Ms
