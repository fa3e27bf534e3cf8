/- Texts of the proof, one behind the other: CkG, DiskG, DM, RowN, RowsIn. -/
import Derived.Test.YtdgijnolpjaheaaGreatPartAL
import Derived.Test.YtdgijnolpjaheaaGreatPartAJ
import Derived.Test.YtdgijnolpjaheaaGreatPartAC
import Derived.Test.YtdgijnolpjaheaaGreatPartAB
import Derived.Test.YtdgijnolpjaheaaGreatRows
import Derived.Test.YtdgijnolpjaheaaGreatPartAH
import Derived.Deep.Slices
import Derived.Deep.Fields
import Derived.ChangeSame
import Derived.WalkLawsBesides
import Derived.ProofKit
import Derived.OpenShut
namespace Go.Proofs.YtdgijnolpjaheaaGreat
open Go.RowKit

namespace Ck
/-- what Load tells: the bytes, the epoch, the error -/
def loaded (o : Option (Int × List Nat)) : List Nat × Int × Int :=
  match o with
  | some (e, p) => (p, e, 0)
  | none => ([], 0, 6)
theorem whole_ep {rd : Nat → Int × List Nat} {at_ n : Nat} {par : Int} {e : Int} {p : List Nat} (h : whole rd at_ n par = some (e, p)) : 1 ≤ e ∧ e % 2 = par := by
  unfold whole at h
  split at h
  · rename_i hc
    obtain ⟨p', _, h2⟩ := Option.map_eq_some_iff.1 h
    obtain ⟨h3, _⟩ := Prod.mk.inj h2
    rw [← h3]
    exact ⟨hc.2.1, hc.2.2.2⟩
  · cases h
/-- the better one of two -/
theorem load_told (rd : Nat → Int × List Nat) (at_ n : Nat) :
    loaded (load rd at_ n) = if (told (whole rd (at_ + n) n 1)).1 = 0 ∧ (told (whole rd at_ n 0)).1 = 0 then ([], 0, 6)
      else if (told (whole rd at_ n 0)).1 < (told (whole rd (at_ + n) n 1)).1 then ((told (whole rd (at_ + n) n 1)).2, (told (whole rd (at_ + n) n 1)).1, 0)
      else ((told (whole rd at_ n 0)).2, (told (whole rd at_ n 0)).1, 0) := by
  unfold load
  rcases h0 : whole rd at_ n 0 with _ | ⟨e0, p0⟩ <;> rcases h1 : whole rd (at_ + n) n 1 with _ | ⟨e1, p1⟩
  · rfl
  · have := whole_ep h1
    show ((p1, e1, 0) : List Nat × Int × Int) = if e1 = 0 ∧ (0 : Int) = 0 then ([], 0, 6) else if (0 : Int) < e1 then (p1, e1, 0) else ([], 0, 0)
    rw [if_neg (by omega), if_pos (by omega)]
  · have := whole_ep h0
    show ((p0, e0, 0) : List Nat × Int × Int) = if (0 : Int) = 0 ∧ e0 = 0 then ([], 0, 6) else if e0 < (0 : Int) then ([], 0, 0) else (p0, e0, 0)
    rw [if_neg (by omega), if_neg (by omega)]
  · have g0 := whole_ep h0
    have g1 := whole_ep h1
    show loaded (if e1 < e0 then some (e0, p0) else some (e1, p1)) = if e1 = 0 ∧ e0 = 0 then ([], 0, 6) else if e0 < e1 then (p1, e1, 0) else (p0, e0, 0)
    rw [if_neg (show ¬ (e1 = 0 ∧ e0 = 0) by omega)]
    by_cases hlt : e1 < e0
    · rw [if_pos hlt, if_neg (by omega)]; rfl
    · rw [if_neg hlt, if_pos (by omega)]; rfl
theorem told_pos (rd : Nat → Int × List Nat) (at_ n : Nat) (par : Int) : 0 ≤ (told (whole rd at_ n par)).1 ∧ (told (whole rd at_ n par)).1 ≤ 1099511627776 ∧ ((told (whole rd at_ n par)).1 = 0 → (told (whole rd at_ n par)).2 = []) := by
  rcases h : whole rd at_ n par with _ | ⟨e, p⟩
  · exact ⟨Int.le_refl _, by decide, fun _ => rfl⟩
  · have h1 := whole_head h
    refine ⟨by show 0 ≤ e; omega, h1.2.2.1.2, fun h0 => ?_⟩
    have : e = 0 := h0
    omega
end Ck
namespace C
set_option maxRecDepth 100000 in
theorem load_wrong (Z : Nat → Prop) (d : Dk) (s : Sx.St) (f n : Int) (hf : InInt f) (hr : ¬ Ck.Right s.n f n) (w : World) (h : DiskAt w Z d s) :
    Calls Tryz.prog 21 #[.pointer (some ⟨d.g, 0, none⟩), .int .i64 f, .int .i64 n] w fun e' w' => e' = .returned (.tuple #[.slice none 0 0, .int .i64 0, .int .i64 3]) ∧ w' = w := by
  have HV := hid (valid_any Z d s f n hf w h)
  rw [decide_eq_false hr] at HV
  clear h hr
  go_enter Tryz.func21, Tryz.ntmps21
  go_wp2_with fail
  refine HV.out.mono ?_
  rintro e1 w1 ⟨rfl, rfl⟩
  go_wp2
  go_ret3
  exact ⟨rfl, rfl⟩
set_option maxRecDepth 100000 in
set_option maxHeartbeats 2000000 in
theorem load_any (Z : Nat → Prop) (d : Dk) (s : Sx.St) (f n : Nat) (hr : Ck.Right s.n f n) (w : World) (h : DiskAt w Z d s) (x : List Nat × Int × Int) (hx : Ck.loaded (Ck.load (Jo.rdOf s) f n) = x) :
    Calls Tryz.prog 21 #[.pointer (some ⟨d.g, 0, none⟩), .int .i64 (f : Int), .int .i64 (n : Int)] w fun e' w' => ∃ A c, e' = .returned (.tuple #[.slice A x.1.length c, .int .i64 x.2.1, .int .i64 x.2.2]) ∧
      Hid (OwnsB 5 w' w.heap.size A c x.1 ∧ Below w.heap.size w w') := by
  have HV := hid (valid_any Z d s f n (by obtain ⟨h1, h2, h3⟩ := hr; have := h.bound; unfold InInt; omega) w h)
  rw [decide_eq_true hr] at HV
  have hlt := Ck.load_told (Jo.rdOf s) f n
  have hp0 := Ck.told_pos (Jo.rdOf s) f n 0
  have hp1 := Ck.told_pos (Jo.rdOf s) (f + n) n 1
  have H0 := hid (fun w' h' => read0_any Z d s f n hr w' h')
  have H1 := hid (fun w' h' => read1_any Z d s f n hr w' h')
  obtain ⟨x0, hx0⟩ : ∃ x0, x0 = Ck.told (Ck.whole (Jo.rdOf s) f n 0) := ⟨_, rfl⟩
  obtain ⟨x1, hx1⟩ : ∃ x1, x1 = Ck.told (Ck.whole (Jo.rdOf s) (f + n) n 1) := ⟨_, rfl⟩
  rw [← hx0] at hlt hp0 H0
  rw [← hx1] at hlt hp1 H1
  rw [hx] at hlt
  obtain ⟨e0, p0⟩ := x0
  obtain ⟨e1, p1⟩ := x1
  simp only at hlt hp0 hp1 H0 H1
  have HLT := hid hlt
  have HP := hid (And.intro hp0.2.2 hp1.2.2)
  obtain ⟨a0, _, _⟩ := hp0
  obtain ⟨a1, _, _⟩ := hp1
  have HH := hid h
  clear h hr hx hlt hx0 hx1
  go_enter Tryz.func21, Tryz.ntmps21
  go_wp2_with fail
  refine HV.out.mono ?_
  rintro e2 w2 ⟨rfl, rfl⟩
  go_wp2_with fail
  go_loopw [9, 10, 19] (fun vp ve i wr =>
      (vp = .slice none 0 0 ∧ ve = .int .i64 0 ∧ i = .int .i64 0 ∧ Hid (Below w2.heap.size w2 wr)) ∨
      (∃ A c, vp = .slice A p0.length c ∧ ve = .int .i64 e0 ∧ i = .int .i64 1 ∧ Hid (OwnsB 5 wr w2.heap.size A c p0 ∧ Below w2.heap.size w2 wr)) ∨
      (∃ A c, ∃ q : List Nat, ∃ E : Int, vp = .slice A q.length c ∧ ve = .int .i64 E ∧ i = .int .i64 2 ∧ Hid (OwnsB 5 wr w2.heap.size A c q ∧ Below w2.heap.size w2 wr ∧ x = if E = 0 then ([], 0, 6) else (q, E, 0)))) (fun _ _ i _ => (2 - RowKit.intOf i).toNat)
  case atStart => exact .inl ⟨rfl, rfl, rfl, hid (Below.refl _ _)⟩
  case round =>
    rcases hrel with ⟨rfl, rfl, rfl, HB⟩ | ⟨A, c, rfl, rfl, rfl, HB⟩ | ⟨A, c, q, E, rfl, rfl, rfl, HB⟩
    · by_cases hgt : 0 < e0
      · go_wp2_with fail
        refine (H0.out wr (HH.out.below HB.out)).mono ?_
        rintro e3 w3 ⟨A, c, rfl, h3⟩
        have H3 := hid (And.intro (h3.out.1.weaken (base' := w2.heap.size) HB.out.size) (HB.out.trans (h3.out.2.mono HB.out.size)))
        clear h3
        go_wp2
        go_roundw
        case rel => exact .inr (.inl ⟨A, c, rfl, rfl, rfl, H3⟩)
        case measure => simp [RowKit.intOf]
      · have he0 : e0 = 0 := by omega
        have hp0 : p0 = [] := HP.out.1 he0
        subst he0
        subst hp0
        go_wp2_with fail
        refine (H0.out wr (HH.out.below HB.out)).mono ?_
        rintro e3 w3 ⟨A, c, rfl, h3⟩
        have H3 := hid (And.intro (OwnsB.nil 5 w3 w2.heap.size) (HB.out.trans (h3.out.2.mono HB.out.size)))
        clear h3
        go_wp2
        go_roundw
        case rel => exact .inr (.inl ⟨none, 0, rfl, rfl, rfl, H3⟩)
        case measure => simp [RowKit.intOf]
    · by_cases hgt : e0 < e1
      · have hxx : x = if e1 = 0 then ([], 0, 6) else (p1, e1, 0) := by
          rw [HLT.out, if_neg (by omega), if_pos hgt, if_neg (by omega)]
        have HXX := hid hxx
        clear hxx
        go_wp2_with fail
        refine (H1.out wr (HH.out.below HB.out.2)).mono ?_
        rintro e3 w3 ⟨A3, c3, rfl, h3⟩
        have H3 := hid (And.intro (h3.out.1.weaken (base' := w2.heap.size) HB.out.2.size) (And.intro (HB.out.2.trans (h3.out.2.mono HB.out.2.size)) HXX.out))
        clear h3
        go_wp2
        go_roundw
        case rel => exact .inr (.inr ⟨A3, c3, p1, e1, rfl, rfl, rfl, H3⟩)
        case measure => simp [RowKit.intOf]
      · have hxx : x = if e0 = 0 then ([], 0, 6) else (p0, e0, 0) := by
          rw [HLT.out]
          by_cases h0 : e0 = 0
          · rw [if_pos h0, if_pos ⟨by omega, h0⟩]
          · rw [if_neg h0, if_neg (fun hh => h0 hh.2), if_neg hgt]
        have HXX := hid hxx
        clear hxx
        go_wp2_with fail
        refine (H1.out wr (HH.out.below HB.out.2)).mono ?_
        rintro e3 w3 ⟨A3, c3, rfl, h3⟩
        have H3 := hid (And.intro (HB.out.1.below h3.out.2) (And.intro (HB.out.2.trans (h3.out.2.mono HB.out.2.size)) HXX.out))
        clear h3
        go_wp2
        go_roundw
        case rel => exact .inr (.inr ⟨A, c, p0, e0, rfl, rfl, rfl, H3⟩)
        case measure => simp [RowKit.intOf]
    · by_cases hE : E = 0
      · have hxx : x = ([], 0, 6) := by have := HB.out.2.2; rwa [if_pos hE] at this
        subst hxx
        have hEb : (E == 0) = true := by rw [beq_iff_eq]; exact hE
        clear hE
        go_wp2
        go_ret3
        exact ⟨none, 0, rfl, hid ⟨OwnsB.nil _ _ _, HB.out.2.1⟩⟩
      · have hxx : x = (q, E, 0) := by have := HB.out.2.2; rwa [if_neg hE] at this
        subst hxx
        have hEb : (E == 0) = false := by rw [beq_eq_false_iff_ne]; exact hE
        clear hE
        go_wp2
        go_ret3
        exact ⟨A, c, rfl, hid ⟨HB.out.1, HB.out.2.1⟩⟩
end C
end Go.Proofs.YtdgijnolpjaheaaGreat
namespace Go.Proofs.YtdgijnolpjaheaaGreat
open Go.RowKit

set_option maxRecDepth 100000 in
theorem crash_any (Z : Nat → Prop) (d : Dk) (s : Sx.St) (A : Option Addr) (c : Nat) (l : List Int) (n : Nat) (hn : l.length = n) (w : World) (h : DiskAt w Z d s)
    (hin : ∀ w', Turned d.has w w' → IsInts w' w'.heap.size A l) :
    Calls Tryz.prog 27 #[.pointer (some ⟨d.g, 0, none⟩), .slice A n c] w fun e w' => e = .returned (.tuple #[]) ∧ DiskAt w' Z d (Sx.crash s l) ∧ Turned d.has w w' := by
  subst hn
  have HD := hid (dirty_any Z d s w h)
  have HH := hid (And.intro h hin)
  clear h hin
  go_enter Tryz.func27, Tryz.ntmps27
  go_wp2_with fail
  refine HD.out.mono ?_
  rintro e w2 ⟨A2, c2, rfl, hI, hb2⟩
  have hD2 : DiskAt w2 Z d (Sx.part s (Sx.fateAt s l) 0) := by rw [Sx.part_zero]; exact HH.out.1.below hb2
  have hlt : ∀ k, d.has k → k < w.heap.size := HH.out.1.lt
  have ht2 : Turned d.has w w2 := Turned.ofBelow d.has hb2
  have HI := hid (fun w' ht k hk => dirty_cells (w' := w') hI hlt ht k hk)
  have HN := hid (fun w' ht => HH.out.2 w' (ht2.trans ht))
  have hbn := HH.out.1.bound
  have hln : (Sx.dirty s).length ≤ 16384 := by
    have : (Sx.dirty s).length ≤ s.n := Sx.dirtyTo_length s.cache s.n
    omega
  have HS2 := hid (And.intro hD2 ht2)
  clear hI hb2 hD2 hlt ht2 HD HH hbn
  go_wp2_with fail
  go_loopw [10] (fun i wr => ∃ k : Nat, k ≤ (Sx.dirty s).length ∧ i = .int .i64 k ∧ Hid (DiskAt wr Z d (Sx.part s (Sx.fateAt s l) k) ∧ Turned d.has w wr) ∧ Hid (Turned d.has w2 wr)) (fun i _ => (Sx.dirty s).length - (RowKit.intOf i).toNat)
  case atStart => exact ⟨0, by omega, rfl, HS2, hid (Turned.refl _ _)⟩
  case round =>
    clear HS2
    obtain ⟨k, hk, rfl, hS, hT⟩ := hrel
    by_cases hlt : k < (Sx.dirty s).length
    · obtain ⟨g, hA, hcell⟩ := HI.out wr hT.out k hlt
      subst hA
      obtain ⟨hlk, b, hb⟩ := Sx.dirty_lt s k hlt
      have hk0 : (k : Int) < ((Sx.dirty s).length : Int) := by omega
      by_cases hj : k < l.length
      · have HC := hid (settle_any Z d (Sx.part s (Sx.fateAt s l) k) (Sx.dirty s)[k] hlk b hb l[k] wr hS.out.1)
        have ef : l[k] = Sx.fateAt s l (Sx.dirty s)[k] := by rw [Sx.fateAt_dirty s l k hlt, List.getD_eq_getElem?_getD, List.getElem?_eq_getElem hj]; rfl
        have HC2 : Hid (Calls Tryz.prog 57 #[.pointer (some ⟨d.g, 0, none⟩), .int .i64 ((Sx.dirty s)[k] : Nat), .int .i64 l[k]] wr fun e w' => e = .returned (.tuple #[]) ∧ DiskAt w' Z d (Sx.part s (Sx.fateAt s l) (k + 1)) ∧ Turned d.has wr w') := by
          have e2 := Sx.part_step s (Sx.fateAt s l) k hlt
          rw [← ef] at e2
          rw [e2] at HC
          exact HC
        obtain ⟨bl, off, hAl, _, hcl⟩ := (HN.out wr hT.out).cells k hj
        subst hAl
        have hcl := hcl k hj
        have hj0 : (k : Int) < (l.length : Int) := by omega
        clear hlk hb HC ef
        go_wp2_with fail
        refine HC2.out.mono ?_
        rintro e w3 ⟨rfl, hD3, ht3⟩
        have H3 := hid (And.intro hD3 ht3)
        clear hD3 ht3
        go_wp2_with fail
        go_roundw
        case rel => exact ⟨k + 1, by omega, by go_num, hid ⟨H3.out.1, hS.out.2.trans H3.out.2⟩, hid (hT.out.trans H3.out.2)⟩
        case measure => simp [RowKit.intOf]; omega
      · have HC := hid (settle_any Z d (Sx.part s (Sx.fateAt s l) k) (Sx.dirty s)[k] hlk b hb 0 wr hS.out.1)
        have ef : 0 = Sx.fateAt s l (Sx.dirty s)[k] := by rw [Sx.fateAt_dirty s l k hlt, List.getD_eq_getElem?_getD, List.getElem?_eq_none (by omega)]; rfl
        have HC2 : Hid (Calls Tryz.prog 57 #[.pointer (some ⟨d.g, 0, none⟩), .int .i64 ((Sx.dirty s)[k] : Nat), .int .i64 0] wr fun e w' => e = .returned (.tuple #[]) ∧ DiskAt w' Z d (Sx.part s (Sx.fateAt s l) (k + 1)) ∧ Turned d.has wr w') := by
          have e2 := Sx.part_step s (Sx.fateAt s l) k hlt
          rw [← ef] at e2
          rw [e2] at HC
          exact HC
        have hj0 : ¬ (k : Int) < (l.length : Int) := by omega
        clear hlk hb HC ef
        go_wp2_with fail
        refine HC2.out.mono ?_
        rintro e w3 ⟨rfl, hD3, ht3⟩
        have H3 := hid (And.intro hD3 ht3)
        clear hD3 ht3
        go_wp2_with fail
        go_roundw
        case rel => exact ⟨k + 1, by omega, by go_num, hid ⟨H3.out.1, hS.out.2.trans H3.out.2⟩, hid (hT.out.trans H3.out.2)⟩
        case measure => simp [RowKit.intOf]; omega
    · obtain rfl : k = (Sx.dirty s).length := by omega
      obtain ⟨w4, hcl, hD4, ht4⟩ := hS.out.1.clear_
      obtain ⟨c0, c1, c2, c3, c4⟩ := hS.out.1.cells
      obtain ⟨b0, b1, b2, b3, b4⟩ := hD4.cells
      have f2 := hD4.frozen 2
      have f3 := hD4.frozen 3
      have f4 := hD4.frozen 4
      have H4 := hid (And.intro hD4 ht4)
      clear hD4 ht4 hk c0 c2 c3 c4
      go_wp2_with fail
      go_end0
      have ht5 : Turned (fun j => j = d.g) w4 (((w4.setCell ⟨d.g, 2, none⟩ (.bool false)).setCell ⟨d.g, 3, none⟩ (.int .i64 0)).setCell ⟨d.g, 4, none⟩ (.bool false)) := Turned.three _ _ _ _ _ _ _ _
      have hD5 := H4.out.1.head (s' := { Sx.part s (Sx.fateAt s l) (Sx.dirty s).length with cache := fun _ => none, armed := false, left := 0, down := false }) ht5 rfl rfl rfl ⟨⟨by show (-9223372036854775808 : Int) ≤ 0; omega, by show (0 : Int) ≤ 9223372036854775807; omega⟩, fun h => by cases h⟩ (by simp [World.setCell, Array.getElem?_modify, H4.out.1.disk])
      refine ⟨rfl, hD5.congr rfl (fun i hi => ?_) (fun _ _ => rfl) rfl rfl rfl, (hS.out.2.then_ H4.out.2 (fun _ _ h => .inr (.inr h))).then_ ht5 (fun _ _ h => .inl h)⟩
      exact (Sx.part_end s (Sx.fateAt s l) i hi).symm
end Go.Proofs.YtdgijnolpjaheaaGreat
namespace Go.Proofs.YtdgijnolpjaheaaGreat
open Go.RowKit

/-- A disk that the call has made since the world w0. -/
structure DM (w0 w : World) (d : Dk) (s : Sx.St) : Prop where
  at_ : DiskAt w (fun k => k < w0.heap.size) d s
  bel : Below w0.heap.size w0 w
namespace DM
variable {w0 w w' : World} {d : Dk} {s s' : Sx.St}
theorem ge (h : DM w0 w d s) : ∀ k, d.has k → w0.heap.size ≤ k := fun k hk => by
  have := h.at_.off k hk
  simp at this
  exact this
theorem below (h : DM w0 w d s) (hb : Below w.heap.size w w') : DM w0 w' d s := ⟨h.at_.below hb, h.bel.trans (hb.mono h.bel.size)⟩
theorem next (h : DM w0 w d s) (hd : DiskAt w' (fun k => k < w0.heap.size) d s') (ht : Turned d.has w w') : DM w0 w' d s' := ⟨hd, h.bel.trans (ht.below h.bel.size h.ge)⟩
theorem drewN (h : DM w0 w d s) (n : Nat) : DM w0 (w.drewN n) d s := h.below (below_drewN (Below.refl _ _) n)
end DM
theorem new_N (n : Nat) (F : Int) (hF : F = (n : Int)) (hn : 1 ≤ n ∧ n ≤ 16384) (w : World) :
    Calls Tryz.prog 9 #[.int .i64 F] w fun e w' => ∃ d, e = .returned (.tuple #[.pointer (some ⟨d.g, 0, none⟩), .int .i64 0]) ∧ DiskAt w' (fun k => k < w.heap.size) d (Sx.new n) ∧ Below w.heap.size w w' := by
  subst hF
  exact new_any n hn w
end Go.Proofs.YtdgijnolpjaheaaGreat
namespace Go.Proofs.YtdgijnolpjaheaaGreat
open Go.RowKit

/-- the bytes of Row -/
def rowN (k : Nat) : List Nat := (List.range k).map fun i => (i * 7 + 1) % 256
theorem rowN_length (k : Nat) : (rowN k).length = k := by simp [rowN]
theorem rowN_of {L : List Nat} {k : Nat} (hl : L.length = k) (h : ∀ i (hi : i < L.length), L[i] = (i * 7 + 1) % 256) : L = rowN k := by
  apply List.ext_getElem
  · rw [rowN_length]; exact hl
  · intro i h1 h2
    rw [h i h1]
    simp [rowN]
set_option maxRecDepth 100000 in
set_option maxHeartbeats 400000 in
theorem rowN_any (k : Nat) (hk : k ≤ 100000) (h0 : 0 < k) (w : World) :
    Calls Tryz.prog 4 #[.int .i64 (k : Int)] w fun e w' => ∃ A c, e = .returned (.slice A k c) ∧ OwnsB 5 w' w.heap.size A c (rowN k) ∧ Below w.heap.size w w' := by
  obtain ⟨i0, hi, hz0, hz1, hz2⟩ := info_parts info_u8
  go_enter Tryz.func4, Tryz.ntmps4
  go_wp2_with (at_make; refine wpList_make_full _ rfl _ _ 23 rfl w.heap.size 5 i0 (.int .u8 0) 1 Tryz.underlying23 hi hz0 hz1 .i64 .i64 (k : Int) (k : Int) k rfl rfl (by omega) (by omega) ?c1 ?c2 (Nat.le_refl _) ?_)
  case c1 => rw [hz2]; omega
  case c2 => unfold maxLen; omega
  intro w1 hown hgrow
  have hrow : OwnsB 5 w1 w.heap.size (some ⟨w.heap.size, 0, none⟩) k (List.replicate k 0) := by
    refine ⟨?_, ?_⟩
    · intro x hx
      have := (List.mem_replicate.1 hx).2; omega
    · rw [List.length_replicate]
      have e : (madeCells #[Value.int .u8 0] k).toList = bytes (List.replicate k 0) := by
        rw [toList_madeCells_one]; simp [bytes]
      rw [e] at hown
      exact hown
  have hbel : Below w.heap.size w w1 := (Below.refl _ _).grown hgrow (Nat.le_refl _) (fun g hg => by cases hg)
  clear hown hgrow
  go_wp2
  go_loopw [4] (fun i wr => ∃ j : Nat, ∃ L : List Nat, j ≤ k ∧ i = .int .i64 j ∧ L.length = k ∧ OwnsB 5 wr w.heap.size (some ⟨w.heap.size, 0, none⟩) k L ∧ Below w.heap.size w wr ∧ Hid (∀ i (hi : i < L.length), i < j → L[i] = (i * 7 + 1) % 256)) (fun i _ => k - (RowKit.intOf i).toNat)
  case atStart => exact ⟨0, _, by omega, rfl, List.length_replicate, hrow, hbel, hid (fun i _ h => by omega)⟩
  case round =>
    clear hrow hbel
    obtain ⟨j, L, hj, rfl, hL, hown, hbel, HE⟩ := hrel
    have HL := hid hL
    by_cases hlt : j < k
    · have hjl : j < L.length := by omega
      obtain ⟨g, hg, _, _, hcg, hfg⟩ := hown.at_ hjl
      obtain rfl : w.heap.size = g := by injection hg with hg; injection hg
      clear hg
      have hs1 := hown.set_ j ((j * 7 + 1) % 256) (Nat.mod_lt _ (by decide))
      have hb1 : Below w.heap.size w (wr.setCell ⟨w.heap.size, j, none⟩ (.int .u8 (((j * 7 + 1) % 256 : Nat) : Int))) := hbel.setCell (Nat.le_refl _) _
      have HS := hid (And.intro hs1 hb1)
      have HX : Hid (((j : Int) * 7 + 1) % 256 = (((j * 7 + 1) % 256 : Nat) : Int)) := by show _ = _; omega
      have HE1 : Hid (∀ i (hi : i < (L.set j ((j * 7 + 1) % 256)).length), i < j + 1 → (L.set j ((j * 7 + 1) % 256))[i] = (i * 7 + 1) % 256) := hid (fun i hi h => by
        rw [List.length_set] at hi
        rw [List.getElem_set]
        split
        · rename_i h2; rw [h2]
        · exact HE.out i hi (by omega))
      clear hs1 hb1 hown hbel hL
      go_wp2
      rw [HX.out]
      go_roundw
      case rel => exact ⟨j + 1, _, by omega, by go_num, by rw [List.length_set]; exact HL.out, HS.out.1, HS.out.2, HE1⟩
      case measure => simp [RowKit.intOf] <;> omega
    · have HR : Hid (L = rowN k) := hid (rowN_of hL (fun i hi => HE.out i hi (by omega)))
      clear hL
      go_wp2
      go_ret
      have := HR.out
      subst this
      exact ⟨_, _, rfl, hown, hbel⟩
end Go.Proofs.YtdgijnolpjaheaaGreat
namespace Go.Proofs.YtdgijnolpjaheaaGreat
open Go.RowKit Go.ChangeShapes Go.WideShapes Go.Deep

/-- Below block B a slice at A holds these rows of bytes. -/
def IsRowsIn (w : World) (B : Nat) (A : Option Addr) (L : List (List Nat)) : Prop :=
  ∀ k, k < L.length → ∃ b off, A = some ⟨b, off, none⟩ ∧ b < B ∧ ∀ i (h : i < L.length), ∃ A' c', w.cell? ⟨b, off + i, none⟩ = some (.slice A' L[i].length c') ∧ IsBytes w B A' L[i] ∧ (L[i].length ≤ c' ∧ c' ≤ maxLen) ∧ (A' = none → c' = 0)
namespace IsRowsIn
variable {w w' : World} {B : Nat} {A : Option Addr} {L : List (List Nat)}
theorem nil : IsRowsIn w B A [] := fun k h => by simp at h
theorem below (h : IsRowsIn w B A L) (hb : Below B w w') : IsRowsIn w' B A L := fun k hk => by
  obtain ⟨b, off, e, hlt, hc⟩ := h k hk
  refine ⟨b, off, e, hlt, fun i hi => ?_⟩
  obtain ⟨A', c', h1, h2, h3⟩ := hc i hi
  exact ⟨A', c', (hb.cell hlt).trans h1, h2.below hb, h3⟩
end IsRowsIn
theorem bytes_of_trod {H : Type} {enc : TypeId × Value → H} {W : World} {fuel : Nat} {cs : List Value} {x : DataW H × List MemPlace} (h : DataW.trod enc Tryz.prog W 0 (fun _ => true) true fuel 23 cs = some x) :
    ∃ (a : Option Addr) (c : Nat) (l : List Nat), cs = [.slice a l.length c] ∧ IsBytes W W.heap.size a l ∧ (l.length ≤ c ∧ c ≤ maxLen) ∧ (a = none → c = 0) := by
  rcases open_ints Tryz.underlying23 Tryz.underlying5 (by kernel_rfl) h with ⟨hcs, _⟩ | ⟨x, l, c, zs, hcs, _, hl, hm, hz, hx, hcell, hwz⟩
  · exact ⟨none, 0, [], hcs, IsBytes.nil, ⟨Nat.le_refl _, Nat.zero_le _⟩, fun _ => rfl⟩
  · simp only [if_true] at hz
    obtain ⟨m, h1, h2⟩ := isBytes_of_ints hl hz hcell hwz
    subst h2
    exact ⟨some x, c, m, hcs, h1, ⟨hl, hm⟩, fun h => by cases h⟩
theorem ints_of_trod {H : Type} {enc : TypeId × Value → H} {W : World} {fuel : Nat} {cs : List Value} {x : DataW H × List MemPlace} (h : DataW.trod enc Tryz.prog W 0 (fun _ => true) true fuel 22 cs = some x) :
    ∃ (a : Option Addr) (c : Nat) (l : List Int), cs = [.slice a l.length c] ∧ IsInts W W.heap.size a l ∧ (l.length ≤ c ∧ c ≤ maxLen) ∧ (a = none → c = 0) := by
  rcases open_ints Tryz.underlying22 Tryz.underlying3 (by kernel_rfl) h with ⟨hcs, _⟩ | ⟨x, l, c, zs, hcs, _, hl, hm, hz, hx, hcell, hwz⟩
  · exact ⟨none, 0, [], hcs, IsInts.nil, ⟨Nat.le_refl _, Nat.zero_le _⟩, fun _ => rfl⟩
  · simp only [if_true] at hz
    obtain ⟨m, h1, h2⟩ := isInts_of_ints hl hz hcell hwz
    subst h2
    exact ⟨some x, c, m, hcs, h1, ⟨hl, hm⟩, fun h => by cases h⟩
theorem int_of_trod {H : Type} {enc : TypeId × Value → H} {W : World} {fuel : Nat} {cs : List Value} {x : DataW H × List MemPlace} (h : DataW.trod enc Tryz.prog W 0 (fun _ => true) true fuel 3 cs = some x) : ∃ n, cs = [.int .i64 n] ∧ InInt n := by
  obtain ⟨n, h1, _, h2⟩ := DataW.trod_int Tryz.underlying3 h
  exact ⟨n, h1, bounds_i64 h2⟩
theorem one_cell {cs : List Value} {n : Nat} (h : cs.length = n) (j : Nat) (hj : j < n) : (cs.drop j).take 1 = [cs[j]'(by omega)] := by
  rw [List.drop_eq_getElem_cons (by omega)]
  rfl
theorem cellsOf_bytes : Tryz.prog.cellsOf 23 = 1 := by kernel_rfl
set_option maxRecDepth 100000 in
theorem rows_of_trod {H : Type} {enc : TypeId × Value → H} {W : World} {fuel : Nat} {cs : List Value} {x : DataW H × List MemPlace} (h : DataW.trod enc Tryz.prog W 0 (fun _ => true) true fuel 46 cs = some x) :
    ∃ (a : Option Addr) (c : Nat) (L : List (List Nat)), cs = [.slice a L.length c] ∧ IsRowsIn W W.heap.size a L ∧ (L.length ≤ c ∧ c ≤ maxLen) ∧ (a = none → c = 0) := by
  rcases open_slice Tryz.underlying46 h with ⟨hcs, _⟩ | ⟨a, len, cap, m, n, D, Pl, hcs, _, hl, hm, hmm, _, hi⟩
  · exact ⟨none, 0, [], hcs, IsRowsIn.nil, ⟨Nat.le_refl _, Nat.zero_le _⟩, fun _ => rfl⟩
  · simp only [if_true] at hmm
    subst hmm
    rw [cellsOf_bytes] at hi
    have hth : ∀ i, i < len → ∃ l : List Nat, (∃ A' c', W.cells? 0 (a.add (i * 1)) 1 = some [.slice A' l.length c'] ∧ IsBytes W W.heap.size A' l ∧ (l.length ≤ c' ∧ c' ≤ maxLen) ∧ (A' = none → c' = 0)) := fun i hlt => by
      obtain ⟨cs', h1, h2⟩ := hi i (by omega)
      obtain ⟨A', c', l, h3, h4⟩ := bytes_of_trod h2
      subst h3
      exact ⟨l, A', c', h1, h4⟩
    refine ⟨some a, m, (List.range len).attach.map (fun i => (hth i.1 (List.mem_range.1 i.2)).choose), ?_, fun k hk => ?_, ?_, fun h => by cases h⟩
    · rw [hcs]; simp
    · have hk' : k < len := by simpa using hk
      obtain ⟨A0, c0, hcs0, _⟩ := (hth 0 (by omega)).choose_spec
      obtain ⟨_, hcl, hat⟩ := World.cells?_some hcs0
      have hsp := hat 0 (by omega)
      rw [List.getElem?_eq_getElem (by simp)] at hsp
      have hlt := World.block_lt_of_cell? _ _ hsp
      have hspot := World.cell?_spot hsp
      obtain ⟨b, off, spot⟩ := a
      have hs : spot = none := by simpa [Addr.add] using hspot
      subst hs
      have hb : b < W.heap.size := by
        simpa [Addr.add] using hlt
      refine ⟨b, off, rfl, hb, fun i hi' => ?_⟩
      have hi2 : i < len := by simpa using hi'
      simp only [List.getElem_map, List.getElem_attach, List.getElem_range]
      obtain ⟨A', c', h1, h2⟩ := (hth i hi2).choose_spec
      refine ⟨A', c', ?_, h2⟩
      obtain ⟨_, _, hat'⟩ := World.cells?_some h1
      have h3 := hat' 0 (by omega)
      refine (congrArg W.cell? ?_).trans h3
      rw [add_off, add_off, Nat.mul_one, Nat.add_zero]
    · simp; exact ⟨hl, hm⟩
end Go.Proofs.YtdgijnolpjaheaaGreat
