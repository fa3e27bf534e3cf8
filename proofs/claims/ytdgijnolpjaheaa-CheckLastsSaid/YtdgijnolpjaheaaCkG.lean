/- The walk through Load. -/
import Derived.Test.YtdgijnolpjaheaaCkF
namespace Go.Proofs.Ytdgijnolpjaheaa
open Go.RowKit

namespace Ck
/-- what Load tells: the bytes, the epoch, the error -/
def loaded (o : Option (Int × List Nat)) : List Nat × Int × Int :=
  match o with
  | some (e, p) => (p, e, 0)
  | none => ([], 0, 6)
theorem whole_ep {rd : Nat → Int × List Nat} {at_ n : Nat} {par : Int} {e : Int} {p : List Nat} (h : whole rd at_ n par = some (e, p)) : 1 ≤ e ∧ e % 2 = par := by
  unfold whole at h
  split at h
  · rename_i hc
    obtain ⟨p', _, h2⟩ := Option.map_eq_some_iff.1 h
    obtain ⟨h3, _⟩ := Prod.mk.inj h2
    rw [← h3]
    exact ⟨hc.2.1, hc.2.2.2⟩
  · cases h
/-- the better one of two -/
theorem load_told (rd : Nat → Int × List Nat) (at_ n : Nat) :
    loaded (load rd at_ n) = if (told (whole rd (at_ + n) n 1)).1 = 0 ∧ (told (whole rd at_ n 0)).1 = 0 then ([], 0, 6)
      else if (told (whole rd at_ n 0)).1 < (told (whole rd (at_ + n) n 1)).1 then ((told (whole rd (at_ + n) n 1)).2, (told (whole rd (at_ + n) n 1)).1, 0)
      else ((told (whole rd at_ n 0)).2, (told (whole rd at_ n 0)).1, 0) := by
  unfold load
  rcases h0 : whole rd at_ n 0 with _ | ⟨e0, p0⟩ <;> rcases h1 : whole rd (at_ + n) n 1 with _ | ⟨e1, p1⟩
  · rfl
  · have := whole_ep h1
    show ((p1, e1, 0) : List Nat × Int × Int) = if e1 = 0 ∧ (0 : Int) = 0 then ([], 0, 6) else if (0 : Int) < e1 then (p1, e1, 0) else ([], 0, 0)
    rw [if_neg (by omega), if_pos (by omega)]
  · have := whole_ep h0
    show ((p0, e0, 0) : List Nat × Int × Int) = if (0 : Int) = 0 ∧ e0 = 0 then ([], 0, 6) else if e0 < (0 : Int) then ([], 0, 0) else (p0, e0, 0)
    rw [if_neg (by omega), if_neg (by omega)]
  · have g0 := whole_ep h0
    have g1 := whole_ep h1
    show loaded (if e1 < e0 then some (e0, p0) else some (e1, p1)) = if e1 = 0 ∧ e0 = 0 then ([], 0, 6) else if e0 < e1 then (p1, e1, 0) else (p0, e0, 0)
    rw [if_neg (show ¬ (e1 = 0 ∧ e0 = 0) by omega)]
    by_cases hlt : e1 < e0
    · rw [if_pos hlt, if_neg (by omega)]; rfl
    · rw [if_neg hlt, if_pos (by omega)]; rfl
theorem told_pos (rd : Nat → Int × List Nat) (at_ n : Nat) (par : Int) : 0 ≤ (told (whole rd at_ n par)).1 ∧ (told (whole rd at_ n par)).1 ≤ 1099511627776 ∧ ((told (whole rd at_ n par)).1 = 0 → (told (whole rd at_ n par)).2 = []) := by
  rcases h : whole rd at_ n par with _ | ⟨e, p⟩
  · exact ⟨Int.le_refl _, by decide, fun _ => rfl⟩
  · have h1 := whole_head h
    refine ⟨by show 0 ≤ e; omega, h1.2.2.1.2, fun h0 => ?_⟩
    have : e = 0 := h0
    omega
end Ck
namespace C
set_option maxRecDepth 100000 in
theorem load_wrong (Z : Nat → Prop) (d : Dk) (s : Sx.St) (f n : Int) (hf : InInt f) (hr : ¬ Ck.Right s.n f n) (w : World) (h : DiskAt w Z d s) :
    Calls Try.prog 17 #[.pointer (some ⟨d.g, 0, none⟩), .int .i64 f, .int .i64 n] w fun e' w' => e' = .returned (.tuple #[.slice none 0 0, .int .i64 0, .int .i64 3]) ∧ w' = w := by
  have HV := hid (valid_any Z d s f n hf w h)
  rw [decide_eq_false hr] at HV
  clear h hr
  go_enter Try.func17, Try.ntmps17
  go_wp2_with fail
  refine HV.out.mono ?_
  rintro e1 w1 ⟨rfl, rfl⟩
  go_wp2
  go_ret3
  exact ⟨rfl, rfl⟩
set_option maxRecDepth 100000 in
set_option maxHeartbeats 2000000 in
theorem load_any (Z : Nat → Prop) (d : Dk) (s : Sx.St) (f n : Nat) (hr : Ck.Right s.n f n) (w : World) (h : DiskAt w Z d s) (x : List Nat × Int × Int) (hx : Ck.loaded (Ck.load (Jo.rdOf s) f n) = x) :
    Calls Try.prog 17 #[.pointer (some ⟨d.g, 0, none⟩), .int .i64 (f : Int), .int .i64 (n : Int)] w fun e' w' => ∃ A c, e' = .returned (.tuple #[.slice A x.1.length c, .int .i64 x.2.1, .int .i64 x.2.2]) ∧
      Hid (OwnsB 5 w' w.heap.size A c x.1 ∧ Below w.heap.size w w') := by
  have HV := hid (valid_any Z d s f n (by obtain ⟨h1, h2, h3⟩ := hr; have := h.bound; unfold InInt; omega) w h)
  rw [decide_eq_true hr] at HV
  have hlt := Ck.load_told (Jo.rdOf s) f n
  have hp0 := Ck.told_pos (Jo.rdOf s) f n 0
  have hp1 := Ck.told_pos (Jo.rdOf s) (f + n) n 1
  have H0 := hid (fun w' h' => read0_any Z d s f n hr w' h')
  have H1 := hid (fun w' h' => read1_any Z d s f n hr w' h')
  obtain ⟨x0, hx0⟩ : ∃ x0, x0 = Ck.told (Ck.whole (Jo.rdOf s) f n 0) := ⟨_, rfl⟩
  obtain ⟨x1, hx1⟩ : ∃ x1, x1 = Ck.told (Ck.whole (Jo.rdOf s) (f + n) n 1) := ⟨_, rfl⟩
  rw [← hx0] at hlt hp0 H0
  rw [← hx1] at hlt hp1 H1
  rw [hx] at hlt
  obtain ⟨e0, p0⟩ := x0
  obtain ⟨e1, p1⟩ := x1
  simp only at hlt hp0 hp1 H0 H1
  have HLT := hid hlt
  have HP := hid (And.intro hp0.2.2 hp1.2.2)
  obtain ⟨a0, _, _⟩ := hp0
  obtain ⟨a1, _, _⟩ := hp1
  have HH := hid h
  clear h hr hx hlt hx0 hx1
  go_enter Try.func17, Try.ntmps17
  go_wp2_with fail
  refine HV.out.mono ?_
  rintro e2 w2 ⟨rfl, rfl⟩
  go_wp2_with fail
  go_loopw [9, 10, 19] (fun vp ve i wr =>
      (vp = .slice none 0 0 ∧ ve = .int .i64 0 ∧ i = .int .i64 0 ∧ Hid (Below w2.heap.size w2 wr)) ∨
      (∃ A c, vp = .slice A p0.length c ∧ ve = .int .i64 e0 ∧ i = .int .i64 1 ∧ Hid (OwnsB 5 wr w2.heap.size A c p0 ∧ Below w2.heap.size w2 wr)) ∨
      (∃ A c, ∃ q : List Nat, ∃ E : Int, vp = .slice A q.length c ∧ ve = .int .i64 E ∧ i = .int .i64 2 ∧ Hid (OwnsB 5 wr w2.heap.size A c q ∧ Below w2.heap.size w2 wr ∧ x = if E = 0 then ([], 0, 6) else (q, E, 0)))) (fun _ _ i _ => (2 - RowKit.intOf i).toNat)
  case atStart => exact .inl ⟨rfl, rfl, rfl, hid (Below.refl _ _)⟩
  case round =>
    rcases hrel with ⟨rfl, rfl, rfl, HB⟩ | ⟨A, c, rfl, rfl, rfl, HB⟩ | ⟨A, c, q, E, rfl, rfl, rfl, HB⟩
    · by_cases hgt : 0 < e0
      · go_wp2_with fail
        refine (H0.out wr (HH.out.below HB.out)).mono ?_
        rintro e3 w3 ⟨A, c, rfl, h3⟩
        have H3 := hid (And.intro (h3.out.1.weaken (base' := w2.heap.size) HB.out.size) (HB.out.trans (h3.out.2.mono HB.out.size)))
        clear h3
        go_wp2
        go_roundw
        case rel => exact .inr (.inl ⟨A, c, rfl, rfl, rfl, H3⟩)
        case measure => simp [RowKit.intOf]
      · have he0 : e0 = 0 := by omega
        have hp0 : p0 = [] := HP.out.1 he0
        subst he0
        subst hp0
        go_wp2_with fail
        refine (H0.out wr (HH.out.below HB.out)).mono ?_
        rintro e3 w3 ⟨A, c, rfl, h3⟩
        have H3 := hid (And.intro (OwnsB.nil 5 w3 w2.heap.size) (HB.out.trans (h3.out.2.mono HB.out.size)))
        clear h3
        go_wp2
        go_roundw
        case rel => exact .inr (.inl ⟨none, 0, rfl, rfl, rfl, H3⟩)
        case measure => simp [RowKit.intOf]
    · by_cases hgt : e0 < e1
      · have hxx : x = if e1 = 0 then ([], 0, 6) else (p1, e1, 0) := by
          rw [HLT.out, if_neg (by omega), if_pos hgt, if_neg (by omega)]
        have HXX := hid hxx
        clear hxx
        go_wp2_with fail
        refine (H1.out wr (HH.out.below HB.out.2)).mono ?_
        rintro e3 w3 ⟨A3, c3, rfl, h3⟩
        have H3 := hid (And.intro (h3.out.1.weaken (base' := w2.heap.size) HB.out.2.size) (And.intro (HB.out.2.trans (h3.out.2.mono HB.out.2.size)) HXX.out))
        clear h3
        go_wp2
        go_roundw
        case rel => exact .inr (.inr ⟨A3, c3, p1, e1, rfl, rfl, rfl, H3⟩)
        case measure => simp [RowKit.intOf]
      · have hxx : x = if e0 = 0 then ([], 0, 6) else (p0, e0, 0) := by
          rw [HLT.out]
          by_cases h0 : e0 = 0
          · rw [if_pos h0, if_pos ⟨by omega, h0⟩]
          · rw [if_neg h0, if_neg (fun hh => h0 hh.2), if_neg hgt]
        have HXX := hid hxx
        clear hxx
        go_wp2_with fail
        refine (H1.out wr (HH.out.below HB.out.2)).mono ?_
        rintro e3 w3 ⟨A3, c3, rfl, h3⟩
        have H3 := hid (And.intro (HB.out.1.below h3.out.2) (And.intro (HB.out.2.trans (h3.out.2.mono HB.out.2.size)) HXX.out))
        clear h3
        go_wp2
        go_roundw
        case rel => exact .inr (.inr ⟨A, c, p0, e0, rfl, rfl, rfl, H3⟩)
        case measure => simp [RowKit.intOf]
    · by_cases hE : E = 0
      · have hxx : x = ([], 0, 6) := by have := HB.out.2.2; rwa [if_pos hE] at this
        subst hxx
        have hEb : (E == 0) = true := by rw [beq_iff_eq]; exact hE
        clear hE
        go_wp2
        go_ret3
        exact ⟨none, 0, rfl, hid ⟨OwnsB.nil _ _ _, HB.out.2.1⟩⟩
      · have hxx : x = (q, E, 0) := by have := HB.out.2.2; rwa [if_neg hE] at this
        subst hxx
        have hEb : (E == 0) = false := by rw [beq_eq_false_iff_ne]; exact hE
        clear hE
        go_wp2
        go_ret3
        exact ⟨A, c, rfl, hid ⟨HB.out.1, HB.out.2.1⟩⟩
end C
end Go.Proofs.Ytdgijnolpjaheaa
