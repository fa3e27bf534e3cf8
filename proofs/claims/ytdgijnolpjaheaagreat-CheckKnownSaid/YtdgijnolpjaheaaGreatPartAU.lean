/- Texts of the proof, one behind the other: Rel, Rf8D. -/
import Derived.Test.YtdgijnolpjaheaaGreatPartAT
import Derived.Test.YtdgijnolpjaheaaGreatPartAS
import Derived.Test.YtdgijnolpjaheaaGreatPartAM
namespace Go.Proofs.YtdgijnolpjaheaaGreat
open Go.RowKit

namespace Sx
structure Rel (s : St) (x : Xs) : Prop where
  n : s.n = x.n
  cache : s.cache = x.cache
  dur : ∀ i, s.dur i = (x.lasts i).getD ([], false)
  down : s.down = x.off
  armed : s.armed = decide (0 ≤ x.left)
  left : s.armed = true → s.left = x.left
theorem rel_new (n : Nat) : Rel (new n) (newX n) := ⟨rfl, rfl, fun _ => rfl, rfl, by simp [new, newX], fun h => by cases h⟩
theorem Rel.dead {s : St} {x : Xs} (h : Rel s x) : s.dead = decide (x.left = 0) := by
  unfold St.dead
  cases ha : s.armed
  · have h1 := h.armed
    rw [ha] at h1
    have h2 : ¬ 0 ≤ x.left := by simpa using h1.symm
    simp; omega
  · rw [h.left ha, Bool.true_and]
theorem Rel.spent {s : St} {x : Xs} (h : Rel s x) (hd : x.left ≠ 0) : Rel s.spent (doneS x) := by
  have h1 := h.armed
  cases ha : s.armed
  · rw [ha] at h1
    have h2 : ¬ 0 ≤ x.left := by simpa using h1.symm
    have e1 : doneS x = x := by unfold doneS; rw [if_neg hd, if_neg (by omega)]
    have e2 : s.spent = s := by
      unfold St.spent
      rw [ha]
      obtain ⟨n, du, ca, ar, le, dn⟩ := s
      simp only at ha
      subst ha
      rfl
    rw [e1, e2]
    exact h
  · rw [ha] at h1
    have h2 : 0 ≤ x.left := by simpa using h1.symm
    have e1 : doneS x = { x with left := x.left - 1 } := by unfold doneS; rw [if_neg hd, if_pos (by omega)]
    rw [e1]
    refine ⟨h.n, h.cache, h.dur, h.down, ?_, fun _ => ?_⟩
    · show s.armed = decide (0 ≤ x.left - 1)
      rw [ha]
      exact (decide_eq_true (by omega)).symm
    · show (if s.armed then s.left - 1 else s.left) = x.left - 1
      rw [if_pos ha, h.left ha]
theorem Rel.off {s : St} {x : Xs} (h : Rel s x) : Rel s.off { x with off := true } := ⟨h.n, h.cache, h.dur, rfl, h.armed, h.left⟩
theorem rel_write {s : St} {x : Xs} (h : Rel s x) (i : Int) (b : List Nat) : wrE s i b = wrXE x i b ∧ Rel (wrS s i b) (wrXS x i b) := by
  have hd := h.dead
  unfold wrE wrXE wrS wrXS spE
  rw [h.down, h.n]
  cases ho : x.off
  · simp only [Bool.false_eq_true, if_false]
    by_cases hi : 0 ≤ i ∧ i < x.n
    · rw [if_pos hi, if_pos hi, if_pos hi, if_pos hi]
      by_cases hl : 64 < b.length
      · rw [if_pos hl, if_pos hl, if_pos hl, if_pos hl]
        exact ⟨rfl, h⟩
      · rw [if_neg hl, if_neg hl, if_neg hl, if_neg hl]
        by_cases h0 : x.left = 0
        · rw [hd, if_pos h0, if_pos h0, if_pos (by simp [h0]), if_pos (by simp [h0])]
          exact ⟨rfl, h.off⟩
        · rw [hd, if_neg h0, if_neg h0, if_neg (by simp [h0]), if_neg (by simp [h0])]
          refine ⟨rfl, ?_⟩
          have hs := h.spent h0
          refine ⟨hs.n, ?_, hs.dur, hs.down, hs.armed, hs.left⟩
          show upd s.cache i.toNat (some b) = upd x.cache i.toNat (some b)
          rw [h.cache]
    · rw [if_neg hi, if_neg hi, if_neg hi, if_neg hi]
      exact ⟨rfl, h⟩
  · simp only [if_true]
    exact ⟨trivial, h⟩
theorem settle_rel (c : Option (List Nat)) (u : Option (List Nat × Bool)) (f : Int) : settle1 c (u.getD ([], false)) f = (settleX c u f).getD ([], false) := by
  rcases c with _ | b
  · rfl
  · unfold settle1 settleX
    simp only
    split
    · rfl
    · split <;> rfl
theorem rel_flush {s : St} {x : Xs} (h : Rel s x) : spE s = flXE x ∧ Rel (flS s) (flXS x) := by
  have hd := h.dead
  unfold spE flXE flS flXS
  rw [h.down]
  cases ho : x.off
  · simp only [Bool.false_eq_true, if_false]
    by_cases h0 : x.left = 0
    · rw [hd, if_pos h0, if_pos h0, if_pos (by simp [h0]), if_pos (by simp [h0])]
      exact ⟨rfl, h.off⟩
    · rw [hd, if_neg h0, if_neg h0, if_neg (by simp [h0]), if_neg (by simp [h0])]
      refine ⟨rfl, ?_⟩
      have hs := h.spent h0
      refine ⟨hs.n, rfl, fun i => ?_, hs.down, hs.armed, hs.left⟩
      show settle1 (s.cache i) (s.dur i) 1 = (settleX (x.cache i) (x.lasts i) 1).getD ([], false)
      rw [h.cache, h.dur i, settle_rel]
  · simp only [if_true]
    cases hdd : s.dead
    · simp only [Bool.false_eq_true, if_false]
      exact ⟨trivial, h⟩
    · simp only [if_true]
      refine ⟨trivial, ?_⟩
      have h1 := h.off
      rw [← ho] at h1
      exact h1
theorem rel_arm {s : St} {x : Xs} (h : Rel s x) (n : Int) : Rel (arm s n) (armX x n) := by
  refine ⟨h.n, h.cache, h.dur, h.down, ?_, fun ha => ?_⟩
  · show decide (0 ≤ n) = decide (0 ≤ if n < 0 then -1 else n)
    split
    · rw [decide_eq_false (by omega), decide_eq_false (by omega)]
    · rfl
  · have ha : 0 ≤ n := by simpa [arm] using ha
    show n = if n < 0 then -1 else n
    rw [if_neg (by omega)]
theorem rel_crash {s : St} {x : Xs} (h : Rel s x) (l : List Int) : Rel (crash s l) (crashX x l) := by
  refine ⟨h.n, rfl, fun i => ?_, rfl, by simp [crash, crashX], fun ha => by cases ha⟩
  show settle1 (s.cache i) (s.dur i) (fateAt s l i) = (settleX (x.cache i) (x.lasts i) (fateC x.cache l i)).getD ([], false)
  have e : fateAt s l i = fateC x.cache l i := by unfold fateAt fateC rk; rw [h.cache]
  rw [e, h.cache, h.dur i, settle_rel]
theorem rel_read {s : St} {x : Xs} (h : Rel s x) (i : Int) : rdB s i = (rdX x i).1 ∧ rdE s i = (rdX x i).2 := by
  unfold rdB rdE rdX
  rw [h.n]
  by_cases hi : 0 ≤ i ∧ i < x.n
  · rw [if_pos hi, if_pos hi, if_pos hi, h.cache, h.dur]
    rcases x.cache i.toNat with _ | b
    · rcases x.lasts i.toNat with _ | u
      · exact ⟨rfl, rfl⟩
      · simp only [Option.getD_some]
        split <;> exact ⟨rfl, rfl⟩
    · exact ⟨rfl, rfl⟩
  · rw [if_neg hi, if_neg hi, if_neg hi]
    exact ⟨rfl, rfl⟩
theorem rel_dirty {s : St} {x : Xs} (h : Rel s x) : dirty s = dirtyX x := by
  unfold dirty dirtyX
  rw [h.cache, h.n]
end Sx

/-- Both disks, apart from one another, and from the blocks of Z. -/
structure DX (w : World) (Z : Nat → Prop) (d : Dk) (g : Nat) (s : Sx.St) (x : Sx.Xs) : Prop where
  da : DiskAt w (fun k => Z k ∨ k = g) d s
  xa : RefAt w (fun k => Z k ∨ d.has k) g x
  z : ∀ k, Z k → k < w.heap.size
  rel : Sx.Rel s x
/-- what their calls may turn -/
def own2 (d : Dk) (g : Nat) (k : Nat) : Prop := d.has k ∨ k = g
namespace DX
variable {w w' : World} {Z Z' : Nat → Prop} {d : Dk} {g : Nat} {s s' : Sx.St} {x x' : Sx.Xs}
theorem below (h : DX w Z d g s x) (hb : Below w.heap.size w w') : DX w' Z d g s x := ⟨h.da.below hb, h.xa.below hb, fun k hk => by have := h.z k hk; have := hb.size; omega, h.rel⟩
theorem drewN (h : DX w Z d g s x) (n : Nat) : DX (w.drewN n) Z d g s x := h.below (below_drewN (Below.refl _ _) n)
theorem drew (h : DX w Z d g s x) : DX w.drew Z d g s x := h.below (Below.refl _ _).drew
theorem zd (h : DX w Z d g s x) : ∀ k, (Z k ∨ k = g) → k < w.heap.size := by
  rintro k (hk | rfl)
  · exact h.z k hk
  · exact h.xa.lt
theorem zx (h : DX w Z d g s x) : ∀ k, (Z k ∨ d.has k) → k < w.heap.size := by
  rintro k (hk | hk)
  · exact h.z k hk
  · exact h.da.lt k hk
theorem mono (h : DX w Z d g s x) (hz : ∀ k, Z' k → Z k) : DX w Z' d g s x :=
  ⟨h.da.mono (fun k hk => hk.imp (hz k) id), h.xa.mono (fun k hk => hk.imp (hz k) id), fun k hk => h.z k (hz k hk), h.rel⟩
/-- a block that is new is none of theirs -/
theorem shunB (h : DX w Z d g s x) (hb : Below w.heap.size w w') (b : Nat) (h1 : w.heap.size ≤ b) (h2 : b < w'.heap.size) : DX w' (fun k => Z k ∨ k = b) d g s x := by
  refine ⟨(h.da.shun.below hb).mono ?_, (h.xa.shun.below hb).mono ?_, ?_, h.rel⟩
  · rintro k ((hk | rfl) | rfl)
    · exact .inl (.inl hk)
    · exact .inr h1
    · exact .inl (.inr rfl)
  · rintro k ((hk | rfl) | hk)
    · exact .inl (.inl hk)
    · exact .inr h1
    · exact .inl (.inr hk)
  · rintro k (hk | rfl)
    · have := h.z k hk; have := hb.size; omega
    · exact h2
theorem keep (h : DX w Z d g s x) (ht : Turned Z w w') : DX w' Z d g s x :=
  ⟨h.da.keep (ht.mono (fun _ h => .inl h)), h.xa.keep (ht.mono (fun _ h => .inl h)), fun k hk => by have := h.z k hk; have := ht.size; omega, h.rel⟩
/-- behind a call of the disk, and the same one of the document's -/
theorem step {w1 w2 : World} (h : DX w Z d g s x) (hd : DiskAt w1 (fun k => Z k ∨ k = g) d s') (ht : Turned d.has w w1) (hx : RefAt w2 (fun k => Z k ∨ d.has k) g x') (hg : Turned (fun k => k = g) w1 w2) (hr : Sx.Rel s' x') : DX w2 Z d g s' x' ∧ Turned (own2 d g) w w2 :=
  ⟨⟨hd.keep (hg.mono (fun _ h => .inr h)), hx, fun k hk => by have := h.z k hk; have := ht.size; have := hg.size; omega, hr⟩, (ht.mono (fun _ h => .inl h)).trans (hg.mono (fun _ h => .inr h))⟩
theorem xafter {w1 : World} (h : DX w Z d g s x) (ht : Turned d.has w w1) : RefAt w1 (fun k => Z k ∨ d.has k) g x := h.xa.keep (ht.mono (fun _ h => .inr h))
end DX
end Go.Proofs.YtdgijnolpjaheaaGreat
namespace Go.Proofs.YtdgijnolpjaheaaGreat
open Go.RowKit

namespace Ck
open Sx Jo
theorem told_par (rd : Nat → Int × List Nat) (at_ n : Nat) (par : Int) : (told (whole rd at_ n par)).1 = 0 ∨ (told (whole rd at_ n par)).1 % 2 = par := by
  rcases h : whole rd at_ n par with _ | ⟨e, p⟩
  · exact .inl rfl
  · exact .inr (whole_ep h).2
theorem save_loop {s : St} {F : Nat} {e : Int} {p : List Nat} (h1 : 1 < secs p.length) (k : Nat) (hk : k < (secsOf e 0 p).tail.length) (ho : okL s (F + 1) ((secsOf e 0 p).tail.take k))
    (hE : wrE (wrL s (F + 1) ((secsOf e 0 p).tail.take k)) ((F : Int) + (k + 1)) ((secsOf e 0 p).tail[k]) ≠ 0) :
    save false s F e p = (wrE (wrL s (F + 1) ((secsOf e 0 p).tail.take k)) ((F : Int) + (k + 1)) ((secsOf e 0 p).tail[k]), wrS (wrL s (F + 1) ((secsOf e 0 p).tail.take k)) ((F : Int) + (k + 1)) ((secsOf e 0 p).tail[k])) := by
  obtain ⟨T, hT⟩ : ∃ T, T = (secsOf e 0 p).tail := ⟨_, rfl⟩
  have hl : (T.take k).length = k := by rw [List.length_take, hT]; omega
  have hi : ((F + 1 + k : Nat) : Int) = (F : Int) + (k + 1) := by omega
  unfold save
  rw [if_pos (.inr h1)]
  simp only [← hT] at hk ho hE ⊢
  have hr := run_stop (T.take k) T[k] (T.drop (k + 1)) s (F + 1) ho (by rw [hl, hi]; exact hE)
  rw [hl, hi, wrL_snoc, hl, hi, ← List.drop_eq_getElem_cons hk, List.take_append_drop] at hr
  rw [hr, if_neg hE]
theorem save_flush {s : St} {F : Nat} {e : Int} {p : List Nat} (h1 : 1 < secs p.length) (ho : okL s (F + 1) (secsOf e 0 p).tail) :
    (spE (wrL s (F + 1) (secsOf e 0 p).tail) = 0 → save false s F e p = run (flS (wrL s (F + 1) (secsOf e 0 p).tail)) F [sec e 0 p 0]) ∧
    (spE (wrL s (F + 1) (secsOf e 0 p).tail) ≠ 0 → save false s F e p = (10, flS (wrL s (F + 1) (secsOf e 0 p).tail))) := by
  unfold save
  rw [if_pos (.inr h1), run_done _ _ _ ho]
  refine ⟨fun h => if_pos h, fun h => ?_⟩
  rw [if_neg h]
  rcases fl_cases (wrL s (F + 1) (secsOf e 0 p).tail) with ⟨h2, _⟩ | ⟨h2, _⟩
  · exact absurd h2 h
  · rw [h2]
theorem save_one {s : St} {F : Nat} {e : Int} {p : List Nat} (h1 : ¬ 1 < secs p.length) : save false s F e p = run s F [sec e 0 p 0] := by
  unfold save
  rw [if_neg (by simp [h1])]
theorem run_one (s : St) (F : Nat) (b : List Nat) : (wrE s (F : Int) b ≠ 0 → run s F [b] = (wrE s (F : Int) b, wrS s (F : Int) b)) ∧ (wrE s (F : Int) b = 0 → run s F [b] = (spE (wrS s (F : Int) b), flS (wrS s (F : Int) b))) :=
  ⟨fun h => if_neg h, fun h => if_pos h⟩
end Ck
theorem own_turned {w w' : World} {S : Nat → Prop} {base c : Nat} {A : Option Addr} {l : List Nat} (h : OwnsB 5 w base A c l) (hS : ∀ k, S k → k < base) (ht : Turned S w w') : IsBytes w' w'.heap.size A l := by
  have h1 := (OwnsZ.of h).keep (ht.mono hS)
  exact h1.reads
namespace C
set_option maxRecDepth 100000 in
set_option maxHeartbeats 1000000 in
theorem refLoad_any (Z : Nat → Prop) (g : Nat) (x : Sx.Xs) (s : Sx.St) (hs : ReadsAs x s) (f n : Nat) (hr : Ck.Right x.n f n) (w : World) (h : RefAt w Z g x) (y : List Nat × Int × Int) (hy : Ck.loaded (Ck.load (Jo.rdOf s) f n) = y) :
    Calls Tryz.prog 35 #[.pointer (some ⟨g, 0, none⟩), .int .i64 (f : Int), .int .i64 (n : Int)] w fun e' w' => ∃ A c, e' = .returned (.tuple #[.slice A y.1.length c, .int .i64 y.2.1, .int .i64 y.2.2]) ∧
      Hid (OwnsB 5 w' w.heap.size A c y.1 ∧ Below w.heap.size w w') := by
  have hb := h.bound
  have hfn : f + 2 * n ≤ x.n ∧ 1 ≤ n := by obtain ⟨h1, h2, h3⟩ := hr; omega
  obtain ⟨hfn1, hfn2⟩ := hfn
  have HM := hid (refMay_any Z g x f n (by unfold InInt; omega) w h)
  rw [decide_eq_true hr] at HM
  have hlt := Ck.load_told (Jo.rdOf s) f n
  have hp0 := Ck.told_pos (Jo.rdOf s) f n 0
  have hp1 := Ck.told_pos (Jo.rdOf s) (f + n) n 1
  have hq0 := Ck.told_par (Jo.rdOf s) f n 0
  have hq1 := Ck.told_par (Jo.rdOf s) (f + n) n 1
  have H0 := hid (refWhole0_any Z g x s hs f n (by omega) (by omega) w h)
  have H1 := hid (fun w' h' => refWhole1_any Z g x s hs (f + n) n (by omega) (by omega) w' h')
  obtain ⟨x0, hx0⟩ : ∃ x0, x0 = Ck.told (Ck.whole (Jo.rdOf s) f n 0) := ⟨_, rfl⟩
  obtain ⟨x1, hx1⟩ : ∃ x1, x1 = Ck.told (Ck.whole (Jo.rdOf s) (f + n) n 1) := ⟨_, rfl⟩
  rw [← hx0] at hlt hp0 hq0 H0
  rw [← hx1] at hlt hp1 hq1 H1
  rw [hy] at hlt
  obtain ⟨e0, p0⟩ := x0
  obtain ⟨e1, p1⟩ := x1
  simp only at hlt hp0 hp1 hq0 hq1 H0 H1
  have HLT := hid hlt
  obtain ⟨a0, b0, _⟩ := hp0
  obtain ⟨a1, b1, _⟩ := hp1
  have HH := hid h
  obtain ⟨G, hG⟩ : ∃ G : Nat, G = f + n := ⟨_, rfl⟩
  have hGi : (f : Int) + n = (G : Int) := by omega
  rw [← hG] at H1
  clear h hr hy hlt hx0 hx1 hs hG
  go_enter Tryz.func35, Tryz.ntmps35
  go_wp2_with fail
  refine HM.out.mono ?_
  rintro e2 w2 ⟨rfl, rfl⟩
  go_wp2_with fail
  refine H0.out.mono ?_
  rintro e3 w3 ⟨A3, c3, rfl, H3⟩
  go_wp2_with fail
  refine (H1.out w3 (HH.out.below H3.out.2)).mono ?_
  rintro e4 w4 ⟨A4, c4, rfl, H4⟩
  have HB := hid (H3.out.2.trans (H4.out.2.mono H3.out.2.size))
  by_cases hz0 : e0 = 0
  · have hzb : (e0 == 0) = true := by rw [beq_iff_eq]; exact hz0
    by_cases hz1 : e1 = 0
    · have hzc : (e1 == 0) = true := by rw [beq_iff_eq]; exact hz1
      have hyy : y = ([], 0, 6) := by rw [HLT.out, if_pos ⟨hz1, hz0⟩]
      clear hz0 hz1 hq0 hq1
      go_wp2
      go_ret3
      subst hyy
      exact ⟨none, 0, rfl, hid ⟨OwnsB.nil _ _ _, HB.out⟩⟩
    · have hzc : (e1 == 0) = false := by rw [beq_eq_false_iff_ne]; exact hz1
      have hgt : ¬ e1 < e0 := by omega
      have hyy : y = (p1, e1, 0) := by rw [HLT.out, if_neg (fun hh => hz1 hh.1), if_pos (by omega)]
      clear hz0 hz1 hq0 hq1
      go_wp2
      go_ret3
      subst hyy
      exact ⟨A4, c4, rfl, hid ⟨H4.out.1.weaken H3.out.2.size, HB.out⟩⟩
  · have hzb : (e0 == 0) = false := by rw [beq_eq_false_iff_ne]; exact hz0
    by_cases hgt : e1 < e0
    · have hyy : y = (p0, e0, 0) := by rw [HLT.out, if_neg (fun hh => hz0 hh.2), if_neg (by omega)]
      clear hz0 hq0 hq1
      go_wp2
      go_ret3
      subst hyy
      exact ⟨A3, c3, rfl, hid ⟨H3.out.1.below H4.out.2, HB.out⟩⟩
    · have hyy : y = (p1, e1, 0) := by rw [HLT.out, if_neg (fun hh => hz0 hh.2), if_pos (by omega)]
      clear hz0 hq0 hq1
      go_wp2
      go_ret3
      subst hyy
      exact ⟨A4, c4, rfl, hid ⟨H4.out.1.weaken H3.out.2.size, HB.out⟩⟩
end C
end Go.Proofs.YtdgijnolpjaheaaGreat
