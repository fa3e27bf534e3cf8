/- The walks through package message: what entries, and any field, are put as. -/
import Derived.Test.YtmaebemhephcmaaDoorMsG
import Derived.Deep.RegionHeld3
namespace Go.Proofs.YtmaebemhephcmaaDoor.Ms
open Go.RowKit
set_option maxRecDepth 100000
attribute [local go_sem ↓] loadAt_msg

/-- the entries up to a place, behind what was there -/
def esTo (l : List Nat) (m : M) (j : Nat) : List Nat := l ++ (Pk.enc m.es.length ++ (m.es.take j).flatMap encE)
theorem esTo_length (l : List Nat) (m : M) (j : Nat) (n : Nat) (hn : l.length = n) (h : j ≤ m.es.length) : (esTo l m j).length = n + (8 + (24 * j + weigh (m.es.take j))) := by
  unfold esTo
  rw [List.length_append, List.length_append, Pk.enc_length, encEs_length, List.length_take, hn, Nat.min_eq_left h]
theorem esTo_next (l : List Nat) (m : M) (j : Nat) (h : j < m.es.length) : esTo l m j ++ Pk.enc m.es[j].t ++ Pk.enc m.es[j].k ++ (Pk.enc m.es[j].d.length ++ m.es[j].d) = esTo l m (j + 1) := by
  unfold esTo
  rw [List.take_succ_eq_append_getElem h, List.flatMap_append]
  simp [encE]
/-- bytes that are being put, beside an entry's box at block g -/
structure Stp (w0 : World) (base g : Nat) (cs : Array Value) (W : World) (A : Option Addr) (c : Nat) (l : List Nat) (q : Nat) : Prop where
  own : OwnsB 5 W base A c l
  len : l.length = q
  bel : Thru base w0 W
  le : base ≤ W.heap.size
  row : W.heap[g]? = some (.cells cs 61 (0, 0))
theorem Stp.step {w0 W w' : World} {base g : Nat} {cs : Array Value} {A A' : Option Addr} {c c' : Nat} {l l' : List Nat} {q q' : Nat} (h : Stp w0 base g cs W A c l q) (ho : OwnsB 5 w' base A' c' l') (hl : l'.length = q') (hb : Thru base W w') : Stp w0 base g cs w' A' c' l' q' :=
  ⟨ho, hl, h.bel.trans hb, Nat.le_trans h.le hb.size, hb.keep h.row (fun cs fr e => by injection e with _ e _; exact absurd e (by decide))⟩
theorem Stp.int {w0 W : World} {base g : Nat} {cs : Array Value} {A : Option Addr} {c : Nat} {l : List Nat} {q : Nat} (h : Stp w0 base g cs W A c l q) (v : Int) (hv : InInt v) (hq : q ≤ 140737488300000) :
    Calls Tryd.prog 64 #[.slice A q c, .int .i64 v] W fun e w' => ∃ A' c', e = .returned (.slice A' (q + 8) c') ∧ Stp w0 base g cs w' A' c' (l ++ Pk.enc v) (q + 8) := by
  refine (putInt_any base A c l q h.len v hv hq W h.own h.le).mono ?_
  rintro e w' ⟨A', c', he, ho, hb⟩
  exact ⟨A', c', he, h.step ho (by rw [List.length_append, h.len, Pk.enc_length]) hb⟩
theorem Stp.blob {w0 W : World} {base g : Nat} {cs : Array Value} {A A' : Option Addr} {c c' : Nat} {l p : List Nat} {q : Nat} (h : Stp w0 base g cs W A c l q) (hq : q ≤ 70000000000000) (hp : IsBytes w0 base A' p) (hpl : p.length ≤ 1000000000) (hn : A' = none → c' = 0) :
    Calls Tryd.prog 65 #[.slice A q c, .slice A' p.length c'] W fun e w' => ∃ A2 c2, e = .returned (.slice A2 (q + (8 + p.length)) c2) ∧ Stp w0 base g cs w' A2 c2 (l ++ (Pk.enc p.length ++ p)) (q + (8 + p.length)) := by
  refine (putBlob_any base A c l q h.len base A' c' p p.length rfl (by omega) (by omega) W h.own h.le (hp.below h.bel.bel) h.le hn).mono ?_
  rintro e w' ⟨A2, c2, he, ho, hb⟩
  exact ⟨A2, c2, he, h.step ho (by rw [List.length_append, h.len, List.length_append, Pk.enc_length]) hb⟩
/-- an entry's three cells -/
def EnC (w : World) (g : Nat) (x : Rl.En) (A : Option Addr) (c : Nat) : Prop := w.cell? ⟨g, 0, none⟩ = some (.int .i64 x.t) ∧ w.cell? ⟨g, 1, none⟩ = some (.int .i64 x.k) ∧ w.cell? ⟨g, 2, none⟩ = some (.slice A x.d.length c)
theorem Stp.cells {w0 W : World} {base g : Nat} {A A4 : Option Addr} {c c4 : Nat} {l : List Nat} {q : Nat} {x : Rl.En} (h : Stp w0 base g #[.int .i64 x.t, .int .i64 x.k, .slice A4 x.d.length c4] W A c l q) : EnC W g x A4 c4 :=
  ⟨cell_of_row _ g 0 _ _ (0, 0) h.row, cell_of_row _ g 1 _ _ (0, 0) h.row, cell_of_row _ g 2 _ _ (0, 0) h.row⟩
set_option maxHeartbeats 3200000 in
theorem putEs_any (base : Nat) (A0 : Option Addr) (c0 : Nat) (l : List Nat) (n : Nat) (hn : l.length = n) (hl : n ≤ 100000000000) (m : M) (A : Option Addr) (c : Nat) (A' : Option Addr) (c' : Nat) (w : World) (h0 : OwnsB 5 w base A0 c0 l) (hB : base ≤ w.heap.size) (he : IsEnts w base A m.es) (hs : Small m) :
    Calls Tryd.prog 43 #[.slice A0 n c0, .agg #[.int .i64 m.K, .int .i64 m.F, .int .i64 m.T, .int .i64 m.g, .int .i64 m.t, .int .i64 m.i, .int .i64 m.p, .int .i64 m.c, .int .i64 m.r, .int .i64 m.x, .int .i64 m.a, .int .i64 m.b, .int .i64 m.v, .int .i64 m.s, .bool m.ok, .slice A m.es.length c, .slice A' m.d.length c'], .int .i32 ((101 : Nat) : Int)] w fun e w' => ∃ A2 c2, e = .returned (.slice A2 (n + m.len 101) c2) ∧ OwnsB 5 w' base A2 c2 (l ++ m.encF 101) ∧ Thru base w w' := by
  have HB : Hid (Thru base w (w.alloc (.cells #[.int .i64 m.K, .int .i64 m.F, .int .i64 m.T, .int .i64 m.g, .int .i64 m.t, .int .i64 m.i, .int .i64 m.p, .int .i64 m.c, .int .i64 m.r, .int .i64 m.x, .int .i64 m.a, .int .i64 m.b, .int .i64 m.v, .int .i64 m.s, .bool m.ok, .slice A m.es.length c, .slice A' m.d.length c'] 25))) := Thru.new ((Below.refl _ w).alloc (Nat.le_refl _) _) hB
  have HE : Hid (l ++ m.encF 101 = esTo l m m.es.length ∧ m.len 101 = 8 + (24 * m.es.length + weigh m.es)) := ⟨by unfold esTo; rw [List.take_length]; rfl, rfl⟩
  have hes := hs.es
  have HP := hid (putInt_any base A0 c0 l n hn (m.es.length : Int) (by unfold InInt; omega) (by omega) (w.alloc (.cells #[.int .i64 m.K, .int .i64 m.F, .int .i64 m.T, .int .i64 m.g, .int .i64 m.t, .int .i64 m.i, .int .i64 m.p, .int .i64 m.c, .int .i64 m.r, .int .i64 m.x, .int .i64 m.a, .int .i64 m.b, .int .i64 m.v, .int .i64 m.s, .bool m.ok, .slice A m.es.length c, .slice A' m.d.length c'] 25)) (h0.alloc _) (Nat.le_trans hB HB.out.size))
  have HBx : Hid (Bx (w.alloc (.cells #[.int .i64 m.K, .int .i64 m.F, .int .i64 m.T, .int .i64 m.g, .int .i64 m.t, .int .i64 m.i, .int .i64 m.p, .int .i64 m.c, .int .i64 m.r, .int .i64 m.x, .int .i64 m.a, .int .i64 m.b, .int .i64 m.v, .int .i64 m.s, .bool m.ok, .slice A m.es.length c, .slice A' m.d.length c'] 25)) w.heap.size m A c A' c') := ⟨heap_alloc_new w _⟩
  have HI := hid (And.intro he hs)
  have HL := hid hn
  clear h0 he hs hn
  go_enter Tryd.func43, Tryd.ntmps43
  go_wp2_with fail
  refine HP.out.mono ?_
  rintro e w1 ⟨A1, c1, rfl, ho, hb⟩
  have HO1 := hid (And.intro ho (HB.out.trans hb))
  have HX1 : Hid (Bx w1 w.heap.size m A c A' c') := ⟨hb.keep HBx.out.row (fun cs fr e => by injection e with _ e _; exact absurd e (by decide))⟩
  have hc15 := HX1.out.c15
  clear ho hb
  go_wp2_with fail
  go_loopw [0, 8, 28] (fun b _ i wr => ∃ j : Nat, ∃ A3 : Option Addr, ∃ c3 : Nat, ∃ q : Nat, j ≤ m.es.length ∧ i = .int .i64 (j : Int) ∧ b = .slice A3 q c3 ∧ Hid (q = n + (8 + (24 * j + weigh (m.es.take j)))) ∧ Hid (OwnsB 5 wr base A3 c3 (esTo l m j)) ∧ Hid (Thru base w wr)) (fun _ _ i _ => m.es.length - (intOf i).toNat)
  case atStart => exact ⟨0, A1, c1, n + 8, Nat.zero_le _, rfl, rfl, hid (by simp [weigh]), hid (by simpa [esTo] using HO1.out.1), hid HO1.out.2⟩
  case round =>
    clear hc15 HP
    obtain ⟨j, A3, c3, q, hj, rfl, rfl, HQ, HO, HBr⟩ := hrel
    by_cases hlt : j < m.es.length
    · obtain ⟨b, off, hA, hbb, hcs⟩ := HI.out.1.cells j hlt
      obtain ⟨A4, c4, f0, f1, f2, hby, _, hn4⟩ := hcs j hlt
      have e0 := (HBr.out.bel.cell hbb).trans f0
      have e1 := (HBr.out.bel.cell hbb).trans f1
      have e2 := (HBr.out.bel.cell hbb).trans f2
      clear f0 f1 f2
      have hnum := HI.out.1.num _ (List.getElem_mem hlt)
      subst hA
      have HNU := hid hnum
      have hdl := Nat.le_trans (weigh_mem (List.getElem_mem hlt)) HI.out.2.wt
      have hwl := Nat.le_trans (weigh_le m.es j) HI.out.2.wt
      have hq : q ≤ 100000000000 + 1000000000 * 10 := by have := HQ.out; omega
      have HWT := hid (weigh_take m.es j hlt)
      have HEX := hid (esTo_next l m j hlt)
      have HLN : Hid ((esTo l m j).length = q) := hid (by rw [HQ.out]; exact esTo_length l m j n HL.out (by omega))
      generalize m.es[j] = x at e0 e1 e2 hby HNU hdl HWT HEX
      have HBY := hid (And.intro hby hn4)
      clear hcs hby hn4 hnum
      go_wp2_with fail
      have HZ : Hid (Stp w base wr.heap.size #[.int .i64 x.t, .int .i64 x.k, .slice A4 x.d.length c4] (wr.alloc (.cells #[.int .i64 x.t, .int .i64 x.k, .slice A4 x.d.length c4] 61)).drew A3 c3 (esTo l m j) q) :=
        ⟨(HO.out.alloc _).drew, HLN.out, (HBr.out.trans (Thru.new ((Below.refl _ wr).alloc (Nat.le_refl _) _).drew (Nat.le_trans hB HBr.out.size))), Nat.le_trans (Nat.le_trans hB HBr.out.size) (by show wr.heap.size ≤ (wr.alloc _).heap.size; simp), heap_alloc_new wr _⟩
      obtain ⟨hz0, hz1, hz2⟩ := HZ.out.cells
      clear HO HBr
      go_region_held3 (fun w' => w'.cell? ⟨wr.heap.size, 0, none⟩ = some (.int .i64 x.t) ∧ w'.cell? ⟨wr.heap.size, 1, none⟩ = some (.int .i64 x.k) ∧ w'.cell? ⟨wr.heap.size, 2, none⟩ = some (.slice A4 x.d.length c4))
        (first
          | exact H4.out.cells
          | exact H3.out.cells
          | exact H2.out.cells
          | exact ⟨hz0, hz1, hz2⟩
          | fail)
        (first
          | (go_at_call 65; refine (H3.out.blob (by omega) HBY.out.1 hdl HBY.out.2).mono ?_; rintro e w4 ⟨A7, c7, rfl, h4⟩; have H4 := hid h4; clear h4)
          | (go_at_call 64; refine (H2.out.int x.k HNU.out.2 (by omega)).mono ?_; rintro e w3 ⟨A6, c6, rfl, h3⟩; have H3 := hid h3; clear h3)
          | (go_at_call 64; refine (HZ.out.int x.t HNU.out.1 (by omega)).mono ?_; rintro e w2 ⟨A5, c5, rfl, h2⟩; have H2 := hid h2; clear h2))
      all_goals
        have HF : Hid (q + 8 + 8 + (8 + x.d.length) = n + (8 + (24 * (j + 1) + weigh (m.es.take (j + 1))))) := hid (by have := HQ.out; have := HWT.out; omega)
        have HOW : Hid (OwnsB 5 w4 base A7 c7 (esTo l m (j + 1))) := hid (by rw [← HEX.out]; exact H4.out.own)
        have HBE := hid H4.out.bel
        clear hz0 hz1 hz2 e0 e1 e2
        go_wp2_with fail
        go_roundw
        case rel => exact ⟨j + 1, A7, c7, _, by omega, by go_num, rfl, HF, HOW, HBE⟩
        case measure => simp [intOf]; omega
    · obtain rfl : j = m.es.length := by omega
      have HF : Hid (q = n + m.len 101) := hid (by rw [HQ.out, HE.out.2, List.take_length])
      go_wp2_with fail
      go_ret
      rw [HE.out.1, ← HF.out]
      exact ⟨A3, c3, rfl, HO.out, HBr.out⟩
/-- any field -/
theorem putField_any (base : Nat) (A0 : Option Addr) (c0 : Nat) (l : List Nat) (n : Nat) (hn : l.length = n) (hl : n ≤ 100000000000) (m : M) (A : Option Addr) (c : Nat) (A' : Option Addr) (c' : Nat) (r : Nat) (hr : r ∈ nums ∨ r = 111 ∨ r = 101 ∨ r = 100) (w : World) (h0 : OwnsB 5 w base A0 c0 l) (hB : base ≤ w.heap.size) (h : Is w base m A c A' c') (hs : Small m) :
    Calls Tryd.prog 43 #[.slice A0 n c0, .agg #[.int .i64 m.K, .int .i64 m.F, .int .i64 m.T, .int .i64 m.g, .int .i64 m.t, .int .i64 m.i, .int .i64 m.p, .int .i64 m.c, .int .i64 m.r, .int .i64 m.x, .int .i64 m.a, .int .i64 m.b, .int .i64 m.v, .int .i64 m.s, .bool m.ok, .slice A m.es.length c, .slice A' m.d.length c'], .int .i32 (r : Int)] w fun e w' => ∃ A2 c2, e = .returned (.slice A2 (n + m.len r) c2) ∧ OwnsB 5 w' base A2 c2 (l ++ m.encF r) ∧ Thru base w w' := by
  rcases hr with hr | rfl | rfl | rfl
  · exact putNum_any base A0 c0 l n hn hl m A c A' c' r hr w h0 hB (h.num r hr)
  · exact putOk_any base A0 c0 l n hn hl m A c A' c' w h0 hB
  · exact putEs_any base A0 c0 l n hn hl m A c A' c' w h0 hB h.es hs
  · exact putData_any base A0 c0 l n hn hl m A c A' c' w h0 hB h.d hs.d h.dn
end Go.Proofs.YtmaebemhephcmaaDoor.Ms
