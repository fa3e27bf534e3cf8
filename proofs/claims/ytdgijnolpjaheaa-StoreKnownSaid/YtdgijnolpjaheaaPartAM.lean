/- Texts of the proof, one behind the other: StB, StC, CkB, CkC. -/
import Derived.Test.YtdgijnolpjaheaaPartAL
import Derived.Handy
import Derived.Test.YtdgijnolpjaheaaPartAE
import Derived.Test.YtdgijnolpjaheaaPartAF
import Derived.Test.YtdgijnolpjaheaaPartAI
import Derived.Test.YtdgijnolpjaheaaPartAJ
namespace Go.Proofs.Ytdgijnolpjaheaa
open Go.RowKit

namespace T
set_option maxRecDepth 100000 in
set_option maxHeartbeats 2000000 in
theorem begin_any (Z : Nat → Prop) (d : Dk) (s : Sx.St) (g : Nat) (j : Sn) (m n f : Nat) (e e1 : Int) (hf : f = 2 * m) (hn : f + n = s.n) (hn1 : 1 ≤ n) (he : 0 ≤ e ∧ e ≤ 1099511627776) (he1 : max e 1 = e1) (w : World) (h : SAt w g j) (hj : j.dg = d.g) (hm : j.sl = (m : Nat)) (hje : j.e = e) (hd : DiskAt w Z d s) :
    Calls Try.prog 42 #[.pointer (some ⟨g, 0, none⟩)] w fun e' w' => e' = .returned (.tuple #[]) ∧ ∃ gj, w.heap.size = gj ∧ Hid (SAt w' g { j with jg := some ⟨gj, 0, none⟩ } ∧ JAt w' gj ⟨d.g, e1, (f : Nat), (n : Nat), 0⟩ ∧ DiskAt w' Z d s ∧ Turned (fun k => k = g) w w') := by
  have HA := hid (area_any Z d s g j m n f hf hn w h hj hm hd)
  obtain ⟨c0, c1, c2, c3, c4⟩ := h.cells
  have f0 := h.frozen 0
  rw [hj] at c1
  rw [hje] at c3
  have hb := hd.bound
  have hgl := h.lt
  have HX := hid (And.intro h hd)
  have HS : Hid (∀ w', Below w.heap.size w w' → w'.cell? ⟨g, 1, none⟩ = some (.pointer (some ⟨d.g, 0, none⟩)) ∧ w'.cell? ⟨g, 3, none⟩ = some (.int .i64 e)) := hid (fun w' hb => ⟨(hb.cell (p := ⟨g, 1, none⟩) hgl).trans c1, (hb.cell (p := ⟨g, 3, none⟩) hgl).trans c3⟩)
  have HC := hid (J.new_any Z d s (f : Int) (n : Int) e1 (by unfold InInt; omega) ⟨by omega, by omega, by omega, by omega, by omega⟩ w.drew (hd.below (Below.refl _ w).drew))
  have c1W : w.drew.cell? ⟨g, 1, none⟩ = some (.pointer (some ⟨d.g, 0, none⟩)) := c1
  have c3W : w.drew.cell? ⟨g, 3, none⟩ = some (.int .i64 e) := c3
  have HF : Hid (∀ w', Below w.heap.size w w' → w'.cell? ⟨g, 0, none⟩ = some (.pointer j.jg) ∧ w'.frozen? ⟨g, 0, none⟩ = false) := hid (fun w' hb => ⟨(hb.cell (p := ⟨g, 0, none⟩) hgl).trans c0, (hb.frozen (p := ⟨g, 0, none⟩) hgl).trans f0⟩)
  have HK : Hid (∀ w' a, Below w.heap.size w w' → (w'.setCell ⟨g, 0, none⟩ (.pointer a)).cell? ⟨g, 1, none⟩ = some (.pointer (some ⟨d.g, 0, none⟩)) ∧ (w'.setCell ⟨g, 0, none⟩ (.pointer a)).cell? ⟨g, 3, none⟩ = some (.int .i64 e)) := hid (fun w' a hb => by
    obtain ⟨_, k1, _, k3, _⟩ := ((h.below hb).set0 a).cells
    exact ⟨k1.trans (by rw [← hj]), k3.trans (by rw [← hje])⟩)
  clear h hd hj hm hje c0 c2 c4 hf hn f0
  go_enter Try.func42, Try.ntmps42
  go_wp2_with fail
  refine HA.out.mono ?_
  rintro e2 w2 ⟨rfl, rfl⟩
  go_wp2_with fail
  go_region_held3 (fun w' => w'.cell? ⟨g, 1, none⟩ = some (.pointer (some ⟨d.g, 0, none⟩)) ∧ w'.cell? ⟨g, 3, none⟩ = some (.int .i64 e))
    (first | exact ⟨c1W, c3W⟩ | exact HS.out _ hb3 | exact HK.out _ _ hb3 | fail)
    (first
      | (go_at_call 58; refine HC.out.mono ?_; rintro e3 w3 ⟨rfl, hj3, hs3, hb3'⟩; have hb3 : Below w2.heap.size w2 w3 := (Below.refl _ w2).drew.trans hb3'; have c0W := (HF.out w3 hb3).1; have f0W := (HF.out w3 hb3).2))
  go_end0
  exact ⟨rfl, _, rfl, hid ⟨(HX.out.1.below hb3).set0 _, hj3.keep (Turned.one w3 g 0 _) (fun h => by have : w2.heap.size = g := h; omega), (HX.out.1.below hb3).disk (HX.out.2.below hb3) 0 _, (Turned.ofBelow _ hb3).setCell g 0 _ (fun _ => rfl)⟩⟩
set_option maxRecDepth 100000 in
set_option maxHeartbeats 2000000 in
theorem records_any (Z : Nat → Prop) (d : Dk) (s : Sx.St) (g : Nat) (j : Sn) (m n f : Nat) (e : Int) (L : List (List Nat)) (hf : f = 2 * m) (hn : f + n = s.n) (hn1 : 1 ≤ n) (he : 0 ≤ e ∧ e ≤ 1099511627776) (h0 : e = 0 → L = []) (hL : e ≠ 0 → Jo.scan (Jo.rdOf s) e n f [] [] = L) (w : World) (h : SAt w g j) (hj : j.dg = d.g) (hm : j.sl = (m : Nat)) (hje : j.e = e) (hd : DiskAt w Z d s) :
    Calls Try.prog 43 #[.pointer (some ⟨g, 0, none⟩)] w fun e' w' => ∃ A c, e' = .returned (.slice A L.length c) ∧ Hid (RowsAt w' (fun k => k < w.heap.size) (.slice A L.length c) L ∧ Below w.heap.size w w') := by
  have HA := hid (area_any Z d s g j m n f hf hn w h hj hm hd)
  obtain ⟨c0, c1, c2, c3, c4⟩ := h.cells
  rw [hj] at c1
  rw [hje] at c3
  have hb := hd.bound
  have hgl := h.lt
  have HS : Hid (∀ w', Below w.heap.size w w' → w'.cell? ⟨g, 1, none⟩ = some (.pointer (some ⟨d.g, 0, none⟩)) ∧ w'.cell? ⟨g, 3, none⟩ = some (.int .i64 e)) := hid (fun w' hb => ⟨(hb.cell (p := ⟨g, 1, none⟩) hgl).trans c1, (hb.cell (p := ⟨g, 3, none⟩) hgl).trans c3⟩)
  have HC : Hid (Calls Try.prog 59 #[.pointer (some ⟨d.g, 0, none⟩), .int .i64 (f : Int), .int .i64 (n : Int), .int .i64 e] w.drew fun e' w' => ∃ A c E, e' = .returned (.tuple #[.slice A L.length c, .int .i64 E]) ∧ Hid (RowsAt w' (fun k => k < w.heap.size) (.slice A L.length c) L ∧ Below w.heap.size w w')) := by
    have hdw : DiskAt w.drew Z d s := hd.below (Below.refl _ w).drew
    by_cases h1 : e = 0
    · refine hid ((J.scan_wrong Z d s (f : Int) (n : Int) e (by unfold InInt; omega) (fun hr => by have := hr.2.2.2.1; omega) w.drew hdw).mono ?_)
      rintro e' w' ⟨h2, h3⟩
      subst h3
      rw [h0 h1]
      exact ⟨none, 0, 3, h2, hid ⟨RowsAt.nil _ _, (Below.refl _ w).drew⟩⟩
    · have h2 := J.scan_any Z d s f n e ⟨by omega, by omega, by omega, by omega, he.2⟩ w.drew hdw
      rw [hL h1] at h2
      refine hid (h2.mono ?_)
      rintro e' w' ⟨A, c, h3, h4⟩
      exact ⟨A, c, 0, h3, hid ⟨h4.1, (Below.refl _ w).drew.trans h4.2⟩⟩
  have c1W : w.drew.cell? ⟨g, 1, none⟩ = some (.pointer (some ⟨d.g, 0, none⟩)) := c1
  have c3W : w.drew.cell? ⟨g, 3, none⟩ = some (.int .i64 e) := c3
  clear h hd hj hm hje c0 c2 c4 hf hn hL h0
  go_enter Try.func43, Try.ntmps43
  go_wp2_with fail
  refine HA.out.mono ?_
  rintro e2 w2 ⟨rfl, rfl⟩
  go_wp2_with fail
  go_region_held3 (fun w' => w'.cell? ⟨g, 1, none⟩ = some (.pointer (some ⟨d.g, 0, none⟩)) ∧ w'.cell? ⟨g, 3, none⟩ = some (.int .i64 e))
    (first | exact ⟨c1W, c3W⟩ | exact HS.out _ h3.out.2 | fail)
    (first
      | (go_at_call 59; refine HC.out.mono ?_; rintro e3 w3 ⟨A, c, E, rfl, h3⟩))
  go_wp2
  go_ret
  exact ⟨A, c, rfl, h3⟩
end T
end Go.Proofs.Ytdgijnolpjaheaa
namespace Go.Proofs.Ytdgijnolpjaheaa
open Go.RowKit

/-- A store at g, its journal at gj, on a disk that the call has made since w0: the slots of m sectors, the area of n; the epoch, the state (0: opened, 1: ready), the checkpoint, the records; how many were appended. -/
structure SG (w0 w : World) (d : Dk) (s : Sx.St) (g gj m n : Nat) (e : Int) (st : Int) (p : List Nat) (L : List (List Nat)) (c : Nat) : Prop where
  disk : DM w0 w d s
  ge : w0.heap.size ≤ g ∧ w0.heap.size ≤ gj
  store : SAt w g ⟨some ⟨gj, 0, none⟩, d.g, (m : Nat), e, st⟩
  jn : ∃ ej nx rm, JAt w gj ⟨d.g, ej, nx, rm, (c : Nat)⟩ ∧ (st = 1 → ej = e ∧ nx = (2 * m + Jo.total L : Nat) ∧ rm = (n - Jo.total L : Nat))
  held : Sto.Held s m n e p L
  ready : st = 1 → Jo.Good s e (2 * m) n L ∧ 1 ≤ e ∧ c = L.length
namespace SG
variable {w0 w w' : World} {d : Dk} {s s' : Sx.St} {g gj m n : Nat} {e st : Int} {p : List Nat} {L : List (List Nat)} {c : Nat}
theorem below (h : SG w0 w d s g gj m n e st p L c) (hb : Below w.heap.size w w') : SG w0 w' d s g gj m n e st p L c := by
  obtain ⟨ej, nx, rm, h1, h2⟩ := h.jn
  exact ⟨h.disk.below hb, h.ge, h.store.below hb, ⟨ej, nx, rm, h1.below hb, h2⟩, h.held, h.ready⟩
theorem lt (h : SG w0 w d s g gj m n e st p L c) : g < w.heap.size ∧ gj < w.heap.size := by
  obtain ⟨ej, nx, rm, h1, h2⟩ := h.jn
  exact ⟨h.store.lt, h1.lt⟩
theorem off (h : SG w0 w d s g gj m n e st p L c) : ¬ d.has g ∧ ¬ d.has gj ∧ gj ≠ g := by
  obtain ⟨ej, nx, rm, h1, h2⟩ := h.jn
  exact ⟨h.store.not_disk h.disk.at_, h1.not_disk h.disk.at_, h.store.ne_jn h1⟩
theorem sizes (h : SG w0 w d s g gj m n e st p L c) : 2 * m + n = s.n ∧ 1 ≤ m ∧ s.n ≤ 16384 ∧ 0 ≤ e ∧ e ≤ 1099511627776 := ⟨h.held.area, h.held.inv.one, h.disk.at_.bound.2, h.held.inv.ep⟩
theorem bel (h : SG w0 w d s g gj m n e st p L c) (ht : Turned (fun b => d.has b ∨ b = g ∨ b = gj) w w') : Below w0.heap.size w0 w' :=
  h.disk.bel.trans (ht.below h.disk.bel.size (fun b hb => hb.elim (h.disk.ge b) (fun hb => hb.elim (fun e => by rw [e]; exact h.ge.1) (fun e => by rw [e]; exact h.ge.2))))
theorem arm (h : SG w0 w d s g gj m n e st p L c) (k : Int) (hd : DiskAt w' (fun b => b < w0.heap.size) d (Sx.arm s k)) (ht : Turned d.has w w') : SG w0 w' d (Sx.arm s k) g gj m n e st p L c := by
  obtain ⟨ej, nx, rm, h1, h2⟩ := h.jn
  exact ⟨h.disk.next hd ht, h.ge, h.store.keep ht h.off.1, ⟨ej, nx, rm, h1.keep ht h.off.2.1, h2⟩, Sto.held_arm h.held k, fun hs => ⟨Jo.good_arm (h.ready hs).1 k, (h.ready hs).2⟩⟩
end SG
theorem OwnsB.elsewhere {w w' : World} {base : Nat} {A : Option Addr} {c : Nat} {l : List Nat} (h : OwnsB 5 w base A c l) {g : Nat} {cs : Array Value} {t : TypeId} (hg : w.heap[g]? = some (.cells cs t (0, 0))) (ho : t ≠ 5) (ht : Turned (fun k => k = g) w w') : OwnsB 5 w' base A c l := by
  refine ⟨h.small, h.row.1, ?_⟩
  rcases h.row.2 with h0 | ⟨g', cap, cur, h1, h2, h3, h4⟩
  · exact .inl h0
  · refine .inr ⟨g', cap, cur, h1, h2, ?_, h4⟩
    rw [ht.block g' (Array.getElem?_eq_some_iff.1 h3).1 (fun e => by
      have e' : g' = g := e
      subst e'
      rw [h3] at hg
      exact ho (Obj.cells.inj (Option.some.inj hg)).2.1.symm)]
    exact h3
namespace T
theorem load_N (Z : Nat → Prop) (d : Dk) (s : Sx.St) (F : Int) (f n : Nat) (hF : F = (f : Int)) (hr : Ck.Right s.n f n) (w : World) (h : DiskAt w Z d s) (p : List Nat) (e E : Int) (hx : Ck.loaded (Ck.load (Jo.rdOf s) f n) = (p, e, E)) :
    Calls Try.prog 17 #[.pointer (some ⟨d.g, 0, none⟩), .int .i64 F, .int .i64 (n : Int)] w fun e' w' => ∃ A c, e' = .returned (.tuple #[.slice A p.length c, .int .i64 e, .int .i64 E]) ∧
      Hid (OwnsB 5 w' w.heap.size A c p ∧ Below w.heap.size w w') := by
  subst hF
  exact C.load_any Z d s f n hr w h _ hx
/-- what Open hands out -/
structure Opened (w0 w : World) (d : Dk) (s : Sx.St) (m n : Nat) (e : Int) (p : List Nat) (L : List (List Nat)) (g gj : Nat) (A : Option Addr) (c : Nat) (A2 : Option Addr) (c2 : Nat) (w' : World) : Prop where
  sg : SG w0 w' d s g gj m n e 0 p L 0
  check : OwnsB 5 w' w.heap.size A c p
  rows : RowsAt w' (fun k => k < w.heap.size) (.slice A2 L.length c2) L
  bel : Below w.heap.size w w'
  new : w.heap.size ≤ g ∧ w.heap.size ≤ gj
set_option maxRecDepth 100000 in
set_option maxHeartbeats 2000000 in
theorem open_any (w0 w : World) (d : Dk) (s : Sx.St) (m n : Nat) (e : Int) (p : List Nat) (L : List (List Nat)) (H : DM w0 w d s) (hH : Sto.Held s m n e p L) (hn1 : 1 ≤ n) (hup : s.down = false) (M : Int) (hM : M = (m : Int)) :
    Calls Try.prog 20 #[.pointer (some ⟨d.g, 0, none⟩), .int .i64 M] w fun e' w' => ∃ g gj A c A2 c2, e' = .returned (.tuple #[.pointer (some ⟨g, 0, none⟩), .slice A p.length c, .slice A2 L.length c2, .int .i64 0]) ∧ Hid (Opened w0 w d s m n e p L g gj A c A2 c2 w') := by
  have hep := hH.inv.ep
  have har := hH.area
  have h1m := hH.inv.one
  have HV := hid (valid_any _ d s M w H.at_)
  rw [decide_eq_true (by omega)] at HV
  have HD := hid (down_any _ d s w H.at_)
  rw [hup] at HD
  obtain ⟨E, hE⟩ : ∃ E, Ck.loaded (Ck.load (Jo.rdOf s) 0 m) = (p, e, E) := by
    rw [Ck.inv_load hH.inv]
    by_cases h0 : e = 0
    · rw [if_pos h0]; exact ⟨6, by rw [(hH.bare h0).1, h0]; rfl⟩
    · rw [if_neg h0]; exact ⟨0, rfl⟩
  have HL := hid (load_N _ d s 0 0 m rfl ⟨by omega, by omega, by omega⟩ w H.at_ p e E hE)
  have HX := hid (And.intro H (And.intro hH (And.intro hM (And.intro hep har))))
  clear H hH hup hE hep har
  subst hM
  go_enter Try.func20, Try.ntmps20
  go_wp2_with fail
  refine HV.out.mono ?_
  rintro e1 w1 ⟨rfl, rfl⟩
  go_wp2_with fail
  refine HD.out.mono ?_
  rintro e1 w1 ⟨rfl, rfl⟩
  go_wp2_with fail
  refine HL.out.mono ?_
  rintro e1 w3 ⟨A, c, rfl, h3⟩
  clear HV HD HL
  go_wp2_with fail
  obtain ⟨wb, hwb⟩ : ∃ wb, wb = w3.alloc (.cells #[.pointer none, .pointer (some ⟨d.g, 0, none⟩), .int .i64 (m : Int), .int .i64 e, .int .i64 0] 60) := ⟨_, rfl⟩
  rw [← hwb]
  have hS : SAt wb w3.heap.size ⟨none, d.g, (m : Nat), e, 0⟩ := by rw [hwb]; exact heap_alloc_new w3 _
  have hsb : wb.heap.size = w3.heap.size + 1 := by rw [hwb]; simp
  have hb3 : Below w1.heap.size w1 wb := by rw [hwb]; exact h3.out.2.alloc h3.out.2.size _
  have hob : OwnsB 5 wb w1.heap.size A c p := by
    refine h3.out.1.below ?_
    rw [hwb]; exact (Below.refl _ _).alloc (Nat.le_refl _) _
  have HB := hid (And.intro hS (And.intro hsb (And.intro hb3 (And.intro hob h3.out.2.size))))
  clear hwb hS hsb hb3 hob h3
  refine (begin_any _ d s w3.heap.size _ m n (2 * m) e (max e 1) rfl HX.out.2.2.2.2 hn1 HX.out.2.2.2.1 rfl wb HB.out.1 rfl rfl rfl (HX.out.1.below HB.out.2.2.1).at_).mono ?_
  rintro e4 w4 ⟨rfl, gj, hgj, h4⟩
  have H4 := hid (And.intro hgj h4.out)
  clear hgj h4
  go_wp2_with fail
  refine (records_any _ d s w3.heap.size _ m n (2 * m) e L rfl HX.out.2.2.2.2 hn1 HX.out.2.2.2.1 (fun h0 => (HX.out.2.1.bare h0).2) HX.out.2.1.rows w4 H4.out.2.1 rfl rfl rfl H4.out.2.2.2.1).mono ?_
  rintro e5 w5 ⟨A2, c2, rfl, h5⟩
  go_wp2
  go_returns
  have hbs := HB.out.2.2.1.size
  have hb4 : Below w1.heap.size wb w4 := H4.out.2.2.2.2.below hbs (fun k hk => by have : k = w3.heap.size := hk; have := HB.out.2.2.2.2; omega)
  have hb5 : Below w1.heap.size w1 w5 := HB.out.2.2.1.trans (hb4.trans (h5.out.2.mono (Nat.le_trans hbs hb4.size)))
  have hz := HX.out.1.bel.size
  refine ⟨w3.heap.size, gj, A, c, A2, c2, rfl, hid ⟨⟨⟨H4.out.2.2.2.1.below h5.out.2, HX.out.1.bel.trans (hb5.mono hz)⟩, ?_, H4.out.2.1.below h5.out.2, ⟨_, _, _, H4.out.2.2.1.below h5.out.2, fun h => by cases h⟩, HX.out.2.1, fun h => by cases h⟩, ?_, h5.out.1.mono (fun k hk => ?_), hb5, ?_⟩⟩
  · have := HB.out.2.2.2.2; have := H4.out.1; have := HB.out.2.1; omega
  · exact (HB.out.2.2.2.1.elsewhere HB.out.1 (by decide) H4.out.2.2.2.2).below h5.out.2
  · have := hb4.size; omega
  · have := HB.out.2.2.2.2; have := H4.out.1; have := HB.out.2.1; omega
end T
end Go.Proofs.Ytdgijnolpjaheaa
namespace Go.Proofs.Ytdgijnolpjaheaa
open Go.RowKit

/-- a row of bytes' slices at block g, of which the first k have the bytes that T says, which lie in no block of Z -/
structure PartRows (w : World) (Z : Nat → Prop) (g n k : Nat) (T : Nat → List Nat) : Prop where
  row : ∃ vs : Array Value, w.heap[g]? = some (.cells vs 32 (0, 0)) ∧ vs.size = n ∧ ∀ i, i < k → ∃ A c, vs[i]? = some (.slice A (T i).length c) ∧ OwnsZ w Z A c (T i)
namespace PartRows
variable {w w' : World} {Z Z' : Nat → Prop} {g n k : Nat} {T : Nat → List Nat}
theorem lt (h : PartRows w Z g n k T) : g < w.heap.size := by obtain ⟨vs, h1, _⟩ := h.row; exact row_lt h1
theorem keep (h : PartRows w Z g n k T) (ht : Turned Z w w') (hg : ¬ Z g) : PartRows w' Z g n k T := by
  obtain ⟨vs, h1, h2, h3⟩ := h.row
  refine ⟨vs, (ht.block g (row_lt h1) hg).trans h1, h2, fun i hi => ?_⟩
  obtain ⟨A, c, h4, h5⟩ := h3 i hi
  exact ⟨A, c, h4, h5.keep ht⟩
theorem mono (h : PartRows w Z g n k T) (hz : ∀ j, Z' j → Z j) : PartRows w Z' g n k T := by
  obtain ⟨vs, h1, h2, h3⟩ := h.row
  refine ⟨vs, h1, h2, fun i hi => ?_⟩
  obtain ⟨A, c, h4, h5⟩ := h3 i hi
  exact ⟨A, c, h4, h5.mono hz⟩
theorem shun (h : PartRows w Z g n k T) : PartRows w (fun j => Z j ∨ w.heap.size ≤ j) g n k T := by
  obtain ⟨vs, h1, h2, h3⟩ := h.row
  refine ⟨vs, h1, h2, fun i hi => ?_⟩
  obtain ⟨A, c, h4, h5⟩ := h3 i hi
  exact ⟨A, c, h4, h5.shun⟩
/-- behind what has turned new blocks alone -/
theorem later (h : PartRows w Z g n k T) (hb : Below w.heap.size w w') : PartRows w' Z g n k T := by
  obtain ⟨vs, h1, h2, h3⟩ := h.row
  refine ⟨vs, (hb.block g (row_lt h1)).trans h1, h2, fun i hi => ?_⟩
  obtain ⟨A, c, h4, h5⟩ := h3 i hi
  exact ⟨A, c, h4, h5.keep (Turned.ofBelow _ hb)⟩
theorem set_ (h : PartRows w Z g n k T) (hk : k < n) {A : Option Addr} {c m : Nat} (hm : (T k).length = m) (hA : OwnsZ w Z A c (T k)) : PartRows (w.setCell ⟨g, k, none⟩ (.slice A m c)) Z g n (k + 1) T := by
  subst hm
  obtain ⟨vs, h1, h2, h3⟩ := h.row
  have hel : ∀ A c l, OwnsZ w Z A c l → OwnsZ (w.setCell ⟨g, k, none⟩ (.slice A (T k).length c)) Z A c l := fun A c l hA =>
    ((hA.shunTag h1 (fun cur e => by have h6 := (Obj.cells.inj e).2.1; revert h6; decide)).keep ((Turned.one _ _ _ _).mono (fun j e => .inr e))).mono (fun _ h => .inl h)
  have hel2 : ∀ (v : Value) A c l, OwnsZ w Z A c l → OwnsZ (w.setCell ⟨g, k, none⟩ v) Z A c l := fun v A c l hA =>
    ((hA.shunTag h1 (fun cur e => by have h6 := (Obj.cells.inj e).2.1; revert h6; decide)).keep ((Turned.one _ _ _ _).mono (fun j e => .inr e))).mono (fun _ h => .inl h)
  refine ⟨_, row_set h1 k _, by simp [h2], fun i hi => ?_⟩
  by_cases hik : i = k
  · subst hik
    exact ⟨A, c, by simp [h2, hk], hel2 _ _ _ _ hA⟩
  · obtain ⟨A', c', h4, h5⟩ := h3 i (by omega)
    refine ⟨A', c', ?_, hel2 _ _ _ _ h5⟩
    rw [Array.getElem?_setIfInBounds_ne (by omega)]
    exact h4
end PartRows
theorem part_made {w w1 : World} {B n : Nat} {T : Nat → List Nat} {Z : Nat → Prop} (h : w1.ownsRow B 32 1 (.slice (some ⟨w.heap.size, 0, none⟩) n n) n (madeCells #[Value.slice none 0 0] n).toList) : PartRows w1 Z w.heap.size n 0 T := by
  rcases h.2 with ⟨h0, _⟩ | ⟨g, cap, cur, h1, _, h3, _, _, h4, _⟩
  · cases h0
  · have e1 : w.heap.size = g := by injection h1 with h1; injection h1 with h1; injection h1
    have e2 : n = cap := by injection h1
    subst e1
    subst e2
    exact ⟨cur, h3, by omega, fun i hi => by omega⟩
namespace C
theorem piece_is {w : World} {B b off : Nat} {p : List Nat} (h : IsBytes w B (some ⟨b, off, none⟩) p) (k : Nat) : IsBytes w B (some ⟨b, off + 40 * k, none⟩) (Jo.piece p k) := (h.from (40 * k)).take 40
theorem piece_at {w : World} {B : Nat} {a : Addr} {p : List Nat} (h : IsBytes w B (some a) p) (k : Nat) : IsBytes w B (some (a.add (40 * k))) (Jo.piece p k) := by
  rcases p with _ | ⟨x, p⟩
  · rw [show Jo.piece [] k = [] from by simp [Jo.piece]]; exact IsBytes.nil
  · obtain ⟨b, off, e, _, _⟩ := h.cells 0 (by simp)
    injection e with e
    subst e
    rw [add_off]
    exact piece_is h k
theorem packInt_N (B : Nat) (A : Option Addr) (c : Nat) (l : List Nat) (n m : Nat) (hl : l.length = n) (hm : n + 8 = m) (hn : n ≤ 1000) (v : Int) (hv : InInt v) (w : World) (h : IsBytes w B A l) (hB : B ≤ w.heap.size) (hz : A = none → c = 0) :
    Calls Try.prog 49 #[.slice A n c, .int .i64 v] w fun e w' => ∃ A' c', e = .returned (.slice A' m c') ∧ OwnsB 5 w' w.heap.size A' c' (l ++ Pk.enc v) ∧ Below w.heap.size w w' := by
  subst hl
  subst hm
  exact packInt_any B A c l v hv (by omega) w h hB hz
set_option maxRecDepth 100000 in
set_option maxHeartbeats 2000000 in
theorem sectors_none (e : Int) (he : InInt e) (A : Option Addr) (w : World) :
    Calls Try.prog 33 #[.int .i64 e, .slice A 0 0] w fun e' w' => e' = .returned (.slice (some ⟨w.heap.size, 0, none⟩) 1 1) ∧
      Hid (PartRows w' (fun k => k < w.heap.size) w.heap.size 1 1 (Jo.sec e 0 []) ∧ Below w.heap.size w w') := by
  obtain ⟨i0, hi, hz0, hz1, hz2⟩ := info_parts info_bytes
  obtain ⟨i1, hj, hj0, hj1, hj2⟩ := info_parts info_u8
  have HX := hid he
  have HPI := hid (pieces_any 0 (by omega) w)
  clear he
  go_enter Try.func33, Try.ntmps33
  go_wp2_with fail
  refine HPI.out.mono ?_
  rintro e1 w1 ⟨rfl, rfl⟩
  go_wp2_with (at_make; refine wpList_make_full _ rfl _ _ 22 rfl w1.heap.size 32 i0 (.slice none 0 0) 1 Try.underlying22 hi hz0 hz1 .i64 .i64 1 1 1 rfl rfl rfl rfl ?c1 ?c2 (Nat.le_refl _) ?_)
  case c1 => rw [hz2]; omega
  case c2 => unfold maxLen; omega
  intro w2 hown hgrow
  have HP := hid (And.intro (part_made (w := w1) (T := Jo.sec e 0 []) (Z := fun k => k < w1.heap.size) hown) ((Below.refl w1.heap.size w1).grown hgrow (Nat.le_refl _) (fun g hg => by cases hg)))
  clear hown hgrow
  go_wp2_with fail
  go_loopw [15] (fun i wr => (i = .int .i64 0 ∧ Hid (PartRows wr (fun j => j < w1.heap.size) w1.heap.size 1 0 (Jo.sec e 0 []) ∧ Below w1.heap.size w1 wr)) ∨ (i = .int .i64 1 ∧ Hid (PartRows wr (fun j => j < w1.heap.size) w1.heap.size 1 1 (Jo.sec e 0 []) ∧ Below w1.heap.size w1 wr))) (fun i _ => (1 - RowKit.intOf i).toNat)
  case atStart => exact .inl ⟨rfl, HP⟩
  case round =>
    rcases hrel with ⟨rfl, HI⟩ | ⟨rfl, HI⟩
    · rcases A with _ | a
      · go_wp2_with fail
        refine (packInt_N wr.heap.size none 0 [] 0 8 rfl rfl (by omega) e HX.out wr IsBytes.nil (Nat.le_refl _) (fun _ => rfl)).mono ?_
        rintro e3 w3 ⟨A3, c3, rfl, hown3, hb3⟩
        have HB3 := hid hb3
        have H4 := hid (packInt_N w3.heap.size A3 c3 ([] ++ Pk.enc e) 8 16 rfl rfl (by omega) 0 (by unfold InInt; omega) w3 hown3.reads (Nat.le_refl _) hown3.none_)
        clear hown3 hb3
        go_wp2_with fail
        refine H4.out.mono ?_
        rintro e4 w4 ⟨A4, c4, rfl, hown4, hb4⟩
        have HB4 := hid (HB3.out.trans (hb4.mono HB3.out.size))
        have HO4 := hid hown4
        clear hown4 hb4 H4
        go_wp2_with fail
        refine (mark_any 0 true (by omega) w4).mono ?_
        rintro e5 w5 ⟨rfl, rfl⟩
        have H6 := hid (packInt_N w5.heap.size A4 c4 ([] ++ Pk.enc e ++ Pk.enc 0) 16 24 rfl rfl (by omega) (Jo.mark 0 true : Nat) (by unfold InInt Jo.mark; split <;> omega) w5 HO4.out.reads (Nat.le_refl _) HO4.out.none_)
        clear HO4
        go_wp2_with fail
        refine H6.out.mono ?_
        rintro e6 w6 ⟨A6, c6, rfl, hown6, hb6⟩
        have HB6 := hid (HB4.out.trans (hb6.mono HB4.out.size))
        have HO6 := hid (hown6.weaken (base' := wr.heap.size) HB4.out.size)
        clear hown6 hb6 H6
        have HPc : Hid (IsBytes w6 w1.heap.size none []) := hid IsBytes.nil
        go_wp2_with (at_builtin; refine wpList_append_bytesN rfl _ _ 32 rfl wr.heap.size 5 i1 Try.underlying32 hj hj0 hj1 hj2 A6 c6 ([] ++ Pk.enc e ++ Pk.enc 0 ++ Pk.enc (Jo.mark 0 true : Nat)) 24 rfl rfl HO6.out w1.heap.size none 0 [] 0 rfl rfl (fun _ => rfl) HPc.out (Jo.sec e 0 [] 0) (by simp [Jo.sec, Jo.head, Jo.piece, show Jo.lastAt [] 0 = true from rfl]) ?m2 HB6.out.size ?_)
        case m2 => omega
        intro A7 c7 w7 hown7 hb7
        have hb7' : Below wr.heap.size wr w7 := HB6.out.trans hb7
        have hP7 := HI.out.1.later hb7'
        have hg7 : w1.heap.size < wr.heap.size := HI.out.1.lt
        obtain ⟨vs, hv1, hv2, _⟩ := hP7.row
        have hcell : w7.cell? ⟨w1.heap.size, 0, none⟩ = some (vs[0]'(by omega)) := by rw [row_cell hv1]; exact Array.getElem?_eq_getElem _
        have hfr : w7.frozen? ⟨w1.heap.size, 0, none⟩ = false := row_free hv1 0
        have hlen : (Jo.sec e 0 [] 0).length = 24 := rfl
        have HS := hid (And.intro (hP7.set_ (by omega) hlen ((OwnsZ.of hown7).mono (fun j hj => by omega))) ((HI.out.2.trans (hb7'.mono HI.out.2.size)).setCell (p := ⟨w1.heap.size, 0, none⟩) (Nat.le_refl _) (.slice A7 (24) c7)))
        clear hown7 hb7 hb7' hP7 hv1 hlen
        go_wp2_with fail
        go_roundw
        case rel => exact .inr ⟨rfl, HS⟩
        case measure => simp [RowKit.intOf]
      · go_wp2_with fail
        refine (packInt_N wr.heap.size none 0 [] 0 8 rfl rfl (by omega) e HX.out wr IsBytes.nil (Nat.le_refl _) (fun _ => rfl)).mono ?_
        rintro e3 w3 ⟨A3, c3, rfl, hown3, hb3⟩
        have HB3 := hid hb3
        have H4 := hid (packInt_N w3.heap.size A3 c3 ([] ++ Pk.enc e) 8 16 rfl rfl (by omega) 0 (by unfold InInt; omega) w3 hown3.reads (Nat.le_refl _) hown3.none_)
        clear hown3 hb3
        go_wp2_with fail
        refine H4.out.mono ?_
        rintro e4 w4 ⟨A4, c4, rfl, hown4, hb4⟩
        have HB4 := hid (HB3.out.trans (hb4.mono HB3.out.size))
        have HO4 := hid hown4
        clear hown4 hb4 H4
        go_wp2_with fail
        refine (mark_any 0 true (by omega) w4).mono ?_
        rintro e5 w5 ⟨rfl, rfl⟩
        have H6 := hid (packInt_N w5.heap.size A4 c4 ([] ++ Pk.enc e ++ Pk.enc 0) 16 24 rfl rfl (by omega) (Jo.mark 0 true : Nat) (by unfold InInt Jo.mark; split <;> omega) w5 HO4.out.reads (Nat.le_refl _) HO4.out.none_)
        clear HO4
        go_wp2_with fail
        refine H6.out.mono ?_
        rintro e6 w6 ⟨A6, c6, rfl, hown6, hb6⟩
        have HB6 := hid (HB4.out.trans (hb6.mono HB4.out.size))
        have HO6 := hid (hown6.weaken (base' := wr.heap.size) HB4.out.size)
        clear hown6 hb6 H6
        have HPc : Hid (IsBytes w6 w1.heap.size (some a) []) := hid IsBytes.nil
        go_wp2_with (at_builtin; refine wpList_append_bytesN rfl _ _ 32 rfl wr.heap.size 5 i1 Try.underlying32 hj hj0 hj1 hj2 A6 c6 ([] ++ Pk.enc e ++ Pk.enc 0 ++ Pk.enc (Jo.mark 0 true : Nat)) 24 rfl rfl HO6.out w1.heap.size (some a) 0 [] 0 rfl rfl (fun _ => rfl) HPc.out (Jo.sec e 0 [] 0) (by simp [Jo.sec, Jo.head, Jo.piece, show Jo.lastAt [] 0 = true from rfl]) ?m2 HB6.out.size ?_)
        case m2 => omega
        intro A7 c7 w7 hown7 hb7
        have hb7' : Below wr.heap.size wr w7 := HB6.out.trans hb7
        have hP7 := HI.out.1.later hb7'
        have hg7 : w1.heap.size < wr.heap.size := HI.out.1.lt
        obtain ⟨vs, hv1, hv2, _⟩ := hP7.row
        have hcell : w7.cell? ⟨w1.heap.size, 0, none⟩ = some (vs[0]'(by omega)) := by rw [row_cell hv1]; exact Array.getElem?_eq_getElem _
        have hfr : w7.frozen? ⟨w1.heap.size, 0, none⟩ = false := row_free hv1 0
        have hlen : (Jo.sec e 0 [] 0).length = 24 := rfl
        have HS := hid (And.intro (hP7.set_ (by omega) hlen ((OwnsZ.of hown7).mono (fun j hj => by omega))) ((HI.out.2.trans (hb7'.mono HI.out.2.size)).setCell (p := ⟨w1.heap.size, 0, none⟩) (Nat.le_refl _) (.slice A7 (24) c7)))
        clear hown7 hb7 hb7' hP7 hv1 hlen
        go_wp2_with fail
        go_roundw
        case rel => exact .inr ⟨rfl, HS⟩
        case measure => simp [RowKit.intOf]
    · go_wp2_with fail
      go_ret
      exact ⟨rfl, HI⟩
set_option maxRecDepth 100000 in
set_option maxHeartbeats 2000000 in
theorem sectors_some (e : Int) (he : InInt e) (a : Addr) (c : Nat) (p : List Nat) (n : Nat) (hn : p.length = n) (hc : n ≤ c) (hcm : c ≤ maxLen) (hz : 0 < c) (hl : n ≤ 1000000) (w : World) (h : IsBytes w w.heap.size (some a) p) :
    Calls Try.prog 33 #[.int .i64 e, .slice (some a) n c] w fun e' w' => e' = .returned (.slice (some ⟨w.heap.size, 0, none⟩) (Jo.secs n) (Jo.secs n)) ∧
      Hid (PartRows w' (fun k => k < w.heap.size) w.heap.size (Jo.secs n) (Jo.secs n) (Jo.sec e 0 p) ∧ Below w.heap.size w w') := by
  obtain ⟨i0, hi, hz0, hz1, hz2⟩ := info_parts info_bytes
  obtain ⟨i1, hj, hj0, hj1, hj2⟩ := info_parts info_u8
  have hsn : Jo.secs n ≤ 30000 := by unfold Jo.secs; omega
  have hsp := Jo.secs_pos n
  have HX := hid (And.intro (And.intro hn (And.intro hc (And.intro hcm hz))) (And.intro he h))
  clear hn hcm h
  go_enter Try.func33, Try.ntmps33
  go_wp2_with fail
  refine (pieces_any n (by omega) w).mono ?_
  rintro e1 w1 ⟨rfl, rfl⟩
  go_wp2_with (at_make; refine wpList_make_full _ rfl _ _ 22 rfl w1.heap.size 32 i0 (.slice none 0 0) 1 Try.underlying22 hi hz0 hz1 .i64 .i64 (Jo.secs n : Nat) (Jo.secs n : Nat) (Jo.secs n) rfl rfl rfl rfl ?c1 ?c2 (Nat.le_refl _) ?_)
  case c1 => rw [hz2]; omega
  case c2 => unfold maxLen; omega
  intro w2 hown hgrow
  have HP := hid (And.intro (part_made (w := w1) (T := Jo.sec e 0 p) (Z := fun k => k < w1.heap.size) hown) ((Below.refl w1.heap.size w1).grown hgrow (Nat.le_refl _) (fun g hg => by cases hg)))
  clear hown hgrow
  go_wp2_with fail
  go_loopw [15] (fun i wr => ∃ k : Nat, k ≤ Jo.secs n ∧ i = .int .i64 (k : Int) ∧ Hid (PartRows wr (fun j => j < w1.heap.size) w1.heap.size (Jo.secs n) k (Jo.sec e 0 p) ∧ Below w1.heap.size w1 wr)) (fun i _ => ((Jo.secs n : Nat) - RowKit.intOf i).toNat)
  case atStart => exact ⟨0, by omega, rfl, HP⟩
  case round =>
    obtain ⟨k, hk, rfl, HI⟩ := hrel
    by_cases hlt : k < Jo.secs n
    · have hk0 : (k : Int) < ((Jo.secs n : Nat) : Int) := by omega
      have hkn : 40 * k ≤ n := by unfold Jo.secs at hlt; omega
      have hck2 : 40 * k < c := by unfold Jo.secs at hlt; omega
      go_wp2_with fail
      refine (packInt_N wr.heap.size none 0 [] 0 8 rfl rfl (by omega) e HX.out.2.1 wr IsBytes.nil (Nat.le_refl _) (fun _ => rfl)).mono ?_
      rintro e3 w3 ⟨A3, c3, rfl, hown3, hb3⟩
      have HB3 := hid hb3
      have H4 := hid (packInt_N w3.heap.size A3 c3 ([] ++ Pk.enc e) 8 16 rfl rfl (by omega) 0 (by unfold InInt; omega) w3 hown3.reads (Nat.le_refl _) hown3.none_)
      clear hown3 hb3
      go_wp2_with fail
      refine H4.out.mono ?_
      rintro e4 w4 ⟨A4, c4, rfl, hown4, hb4⟩
      have HB4 := hid (HB3.out.trans (hb4.mono HB3.out.size))
      have HO4 := hid hown4
      clear hown4 hb4 H4
      have hdec : ((k : Int) == ((Jo.secs n : Nat) : Int) - 1) = Jo.lastAt p k := by
        unfold Jo.lastAt
        rw [HX.out.1.1, Bool.eq_iff_iff]
        simp only [beq_iff_eq, decide_eq_true_eq]
        omega
      have HD := hid hdec
      clear hdec
      go_wp2_with fail
      rw [HD.out]
      refine (mark_any k (Jo.lastAt p k) (by omega) w4).mono ?_
      rintro e5 w5 ⟨rfl, rfl⟩
      have H6 := hid (packInt_N w5.heap.size A4 c4 ([] ++ Pk.enc e ++ Pk.enc 0) 16 24 rfl rfl (by omega) (Jo.mark k (Jo.lastAt p k) : Nat) (by unfold InInt Jo.mark; split <;> omega) w5 HO4.out.reads (Nat.le_refl _) HO4.out.none_)
      clear HO4
      go_wp2_with fail
      refine H6.out.mono ?_
      rintro e6 w6 ⟨A6, c6, rfl, hown6, hb6⟩
      have HB6 := hid (HB4.out.trans (hb6.mono HB4.out.size))
      have HO6 := hid (hown6.weaken (base' := wr.heap.size) HB4.out.size)
      clear hown6 hb6 H6
      have HPc := hid (piece_at ((HX.out.2.2.below HI.out.2).below (HB6.out.mono HI.out.2.size)) k)
      go_wp2_with (at_builtin; refine wpList_append_bytesN rfl _ _ 32 rfl wr.heap.size 5 i1 Try.underlying32 hj hj0 hj1 hj2 A6 c6 ([] ++ Pk.enc e ++ Pk.enc 0 ++ Pk.enc (Jo.mark k (Jo.lastAt p k) : Nat)) 24 rfl rfl HO6.out w1.heap.size (some (a.add (40 * k))) (c - 40 * k) (Jo.piece p k) _ ?m1 (by rw [Nat.mul_comm 40 k]; rfl) (fun h => by cases h) HPc.out (Jo.sec e 0 p k) (by simp [Jo.sec, Jo.head]) ?m2 HB6.out.size ?_)
      case m1 => rw [Jo.piece_length, HX.out.1.1]; omega
      case m2 => omega
      intro A7 c7 w7 hown7 hb7
      have hb7' : Below wr.heap.size wr w7 := HB6.out.trans hb7
      have hP7 := HI.out.1.later hb7'
      have hg7 : w1.heap.size < wr.heap.size := HI.out.1.lt
      obtain ⟨vs, hv1, hv2, _⟩ := hP7.row
      have hcell : w7.cell? ⟨w1.heap.size, k, none⟩ = some (vs[k]'(by omega)) := by rw [row_cell hv1]; exact Array.getElem?_eq_getElem _
      have hfr : w7.frozen? ⟨w1.heap.size, k, none⟩ = false := row_free hv1 k
      have hlen : (Jo.sec e 0 p k).length = 24 + (min ((n - k * 40 : Nat) : Int) 40).toNat := by rw [Jo.sec_length, Jo.piece_length, HX.out.1.1]; omega
      have HS := hid (And.intro (hP7.set_ hlt hlen ((OwnsZ.of hown7).mono (fun j hj => by omega))) ((HI.out.2.trans (hb7'.mono HI.out.2.size)).setCell (p := ⟨w1.heap.size, k, none⟩) (Nat.le_refl _) (.slice A7 (24 + (min ((n - k * 40 : Nat) : Int) 40).toNat) c7)))
      clear hown7 hb7 hb7' hP7 hv1 hlen
      go_wp2_with fail
      go_roundw
      case rel => exact ⟨k + 1, by omega, by go_num, HS⟩
      case measure => simp [RowKit.intOf]; omega
    · have hk0 : ¬ (k : Int) < ((Jo.secs n : Nat) : Int) := by omega
      obtain rfl : k = Jo.secs n := by omega
      go_wp2_with fail
      go_ret
      exact ⟨rfl, HI⟩
theorem sectors_any (e : Int) (he : InInt e) (A : Option Addr) (c : Nat) (p : List Nat) (n : Nat) (hn : p.length = n) (hc : n ≤ c) (hcm : c ≤ maxLen) (hz : A = none → c = 0) (hl : n ≤ 1000000) (w : World) (h : IsBytes w w.heap.size A p) :
    Calls Try.prog 33 #[.int .i64 e, .slice A n c] w fun e' w' => e' = .returned (.slice (some ⟨w.heap.size, 0, none⟩) (Jo.secs n) (Jo.secs n)) ∧
      Hid (PartRows w' (fun k => k < w.heap.size) w.heap.size (Jo.secs n) (Jo.secs n) (Jo.sec e 0 p) ∧ Below w.heap.size w w') := by
  by_cases h0 : c = 0
  · subst h0
    obtain rfl : n = 0 := by omega
    obtain rfl : p = [] := List.eq_nil_of_length_eq_zero hn
    exact sectors_none e he A w
  · rcases A with _ | a
    · exact absurd (hz rfl) h0
    · exact sectors_some e he a c p n hn hc hcm (by omega) hl w h
end C
end Go.Proofs.Ytdgijnolpjaheaa
namespace Go.Proofs.Ytdgijnolpjaheaa
open Go.RowKit

/-- bytes' slices that lie from A on, whatever blocks of S turn -/
def RowsFor (w : World) (S : Nat → Prop) (A : Option Addr) (T : List (List Nat)) : Prop :=
  ∃ (As : Nat → Option Addr) (cs : Nat → Nat), ∀ w', Turned S w w' → ∀ i (h : i < T.length), ∃ b off, A = some ⟨b, off, none⟩ ∧ w'.cell? ⟨b, off + i, none⟩ = some (.slice (As i) T[i].length (cs i)) ∧ (As i = none → cs i = 0) ∧ IsBytes w' w'.heap.size (As i) T[i]
namespace RowsFor
variable {w w' : World} {S : Nat → Prop} {A : Option Addr} {T : List (List Nat)}
theorem step (h : RowsFor w S A T) (ht : Turned S w w') : RowsFor w' S A T := by
  obtain ⟨As, cs, h1⟩ := h
  exact ⟨As, cs, fun w2 h2 => h1 w2 (ht.trans h2)⟩
theorem nil : RowsFor w S A [] := ⟨fun _ => none, fun _ => 0, fun _ _ i h => by simp at h⟩
end RowsFor
namespace C
set_option maxRecDepth 100000 in
set_option maxHeartbeats 1000000 in
theorem writes_any (Z : Nat → Prop) (d : Dk) (s : Sx.St) (f : Nat) (hf : f ≤ 100000) (A : Option Addr) (c m : Nat) (T : List (List Nat)) (hm : T.length = m) (hm2 : m ≤ 100000) (w : World) (hZ : ∀ k, Z k → k < w.heap.size) (h : DiskAt w Z d s) (hT : RowsFor w d.has A T) :
    Calls Try.prog 34 #[.pointer (some ⟨d.g, 0, none⟩), .int .i64 (f : Int), .slice A m c] w fun e' w' => e' = .returned (.int .i64 (Jo.run s f T).1) ∧ Hid (DiskAt w' Z d (Jo.run s f T).2 ∧ Turned d.has w w') := by
  obtain ⟨As, cs, hrow⟩ := hT
  have HX := hid (And.intro hm (And.intro hZ (And.intro h hrow)))
  clear hm hZ h hrow
  go_enter Try.func34, Try.ntmps34
  go_wp2_with fail
  go_loopw [12] (fun i wr => ∃ k : Nat, k ≤ m ∧ i = .int .i64 (k : Int) ∧ Hid (Jo.okL s f (T.take k) ∧ DiskAt wr Z d (Jo.wrL s f (T.take k)) ∧ Turned d.has w wr)) (fun i _ => (m - RowKit.intOf i).toNat)
  case atStart => exact ⟨0, by omega, rfl, hid ⟨trivial, HX.out.2.2.1, Turned.refl _ _⟩⟩
  case round =>
    obtain ⟨k, hk, rfl, HI⟩ := hrel
    by_cases hlt : k < m
    · have hk0 : (k : Int) < (m : Int) := by omega
      have hkT : k < T.length := by rw [HX.out.1]; exact hlt
      obtain ⟨b, off, rfl, hcell, _, _⟩ := HX.out.2.2.2 wr HI.out.2.2 k hkT
      obtain ⟨t, ht⟩ : ∃ t, t = Jo.wrL s f (T.take k) := ⟨_, rfl⟩
      have hlen : (T.take k).length = k := by rw [List.length_take]; omega
      have HW := hid (write_any Z d t ((f : Int) + k) (As k) (cs k) T[k] _ rfl (fun hn => ((HX.out.2.2.2 wr HI.out.2.2 k hkT).elim fun _ h => h.elim fun _ h => h.2.2.1 hn)) wr (fun j hj => Nat.lt_of_lt_of_le (HX.out.2.1 j hj) HI.out.2.2.size) (by rw [ht]; exact HI.out.2.1)
        (fun w' ht' => (HX.out.2.2.2 w' (HI.out.2.2.trans ht') k hkT).elim fun _ h => h.elim fun _ h => h.2.2.2))
      obtain ⟨E, hE⟩ : ∃ E, E = Sx.wrE t ((f : Int) + k) T[k] := ⟨_, rfl⟩
      rw [← hE] at HW
      have htk : T.take (k + 1) = T.take k ++ [T[k]] := List.take_succ_eq_append_getElem hkT
      have HS : Hid (Jo.wrL s f (T.take (k + 1)) = Sx.wrS t ((f : Int) + k) T[k] ∧ (E = 0 → Jo.okL s f (T.take (k + 1))) ∧ (E ≠ 0 → Jo.run s f T = (E, Sx.wrS t ((f : Int) + k) T[k]))) := by
        refine hid ⟨?_, fun h0 => ?_, fun h0 => ?_⟩
        · rw [htk, Jo.wrL_snoc, hlen, ← ht, Int.natCast_add]
        · rw [htk, Jo.okL_snoc]
          refine ⟨HI.out.1, ?_⟩
          rw [← ht, hlen, Int.natCast_add, ← hE]; exact h0
        · have hs := Jo.run_stop (T.take k) T[k] (T.drop (k + 1)) s f HI.out.1 (by rw [← ht, hlen, Int.natCast_add, ← hE]; exact h0)
          rw [← ht, hlen, Int.natCast_add, ← hE, Jo.wrL_snoc, ← ht, hlen, Int.natCast_add, ← List.drop_eq_getElem_cons hkT, List.take_append_drop] at hs
          exact hs
      clear htk hlen hE ht
      by_cases h0 : E = 0
      · subst h0
        have HK := hid (And.intro HS.out.1 (HS.out.2.1 rfl))
        clear HS
        go_wp2_with fail
        refine HW.out.mono ?_
        rintro e1 w1 ⟨rfl, hd1, ht1⟩
        have H1 : Hid (Jo.okL s f (T.take (k + 1)) ∧ DiskAt w1 Z d (Jo.wrL s f (T.take (k + 1))) ∧ Turned d.has w w1) := hid ⟨HK.out.2, by rw [HK.out.1]; exact hd1, HI.out.2.2.trans ht1⟩
        clear hd1 ht1
        go_wp2
        go_roundw
        case rel => exact ⟨k + 1, by omega, by go_num, H1⟩
        case measure => simp [RowKit.intOf]; omega
      · have hEb : (E != 0) = true := by rw [bne_iff_ne]; exact h0
        have HR := hid (HS.out.2.2 h0)
        clear h0
        go_wp2_with fail
        refine HW.out.mono ?_
        rintro e1 w1 ⟨rfl, hd1, ht1⟩
        have H1 := hid (And.intro hd1 (HI.out.2.2.trans ht1))
        clear hd1 ht1
        go_wp2
        go_ret
        rw [HR.out]
        exact ⟨rfl, H1⟩
    · have hk0 : ¬ (k : Int) < (m : Int) := by omega
      obtain rfl : k = m := by omega
      have hall : T.take k = T := List.take_of_length_le (by rw [HX.out.1]; exact Nat.le_refl _)
      have HF := hid (flush_any Z d (Jo.wrL s f T) wr (by have := HI.out.2.1; rwa [hall] at this))
      have HR : Hid (Jo.run s f T = (Sx.spE (Jo.wrL s f T), Sx.flS (Jo.wrL s f T))) := hid (Jo.run_done T s f (by have := HI.out.1; rwa [hall] at this))
      clear hall
      go_wp2_with fail
      refine HF.out.mono ?_
      rintro e1 w1 ⟨rfl, hd1, ht1⟩
      have H1 := hid (And.intro hd1 (HI.out.2.2.trans ht1))
      clear hd1 ht1
      go_wp2
      go_ret
      rw [HR.out]
      exact ⟨rfl, H1⟩
end C
end Go.Proofs.Ytdgijnolpjaheaa
