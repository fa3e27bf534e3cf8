/- Texts of the proof, one behind the other: All04, Ops08, Runs08, Fine08, RegInv. -/
import Derived.Test.YtdgijnolpjaheaaGreatPartAY
import Derived.Test.YtdgijnolpjaheaaGreatPartAW
import Derived.Test.YtdgijnolpjaheaaGreatPartAX
import Derived.Test.YtdgijnolpjaheaaGreatPartAN
import Derived.Deep.RegionWith
import Derived.Deep.RegionHeld3
import Derived.Great.BuildSlice
import Derived.Test.YtdgijnolpjaheaaGreatPartAA
namespace Go.Proofs.YtdgijnolpjaheaaGreat
open Go.RowKit

set_option maxRecDepth 100000 in
set_option maxHeartbeats 1600000 in
theorem all_any (Z : Nat → Prop) (d : Dk) (g : Nat) (s : Sx.St) (x : Sx.Xs) (w : World) (h : DX w Z d g s x) :
    Calls Tryz.prog 15 #[.pointer (some ⟨d.g, 0, none⟩), .pointer (some ⟨g, 0, none⟩)] w fun e w' => e = .returned (.bool true) ∧ DX w' Z d g s x ∧ Below w.heap.size w w' := by
  have hl1 : x.ll.length ≤ 16384 := Nat.le_trans (RefAt.len1 x) h.xa.bound.2
  have hl2 : x.cl.length ≤ 16384 := Nat.le_trans (RefAt.len2 x) h.xa.bound.2
  have HX : Hid (DX w Z d g s x ∧ Below w.heap.size w w) := hid ⟨h, Below.refl _ _⟩
  clear h
  go_enter Tryz.func15, Tryz.ntmps15
  go_wp2_with fail
  go_loopw [5] (fun iv wr => ∃ k : Nat, k ≤ x.ll.length ∧ iv = .int .i64 k ∧ Hid (DX wr Z d g s x ∧ Below w.heap.size w wr)) (fun i _ => x.ll.length - (RowKit.intOf i).toNat)
  case atStart => exact ⟨0, by omega, rfl, HX⟩
  case round =>
    clear HX
    obtain ⟨k, hk, rfl, hS⟩ := hrel
    obtain ⟨A1, k1, A2, k2, c0, c1, c2, c3, c4, hs1, hs2⟩ := hS.out.1.xa.cells
    by_cases hlt : k < x.ll.length
    · obtain ⟨gg, A', c', rfl, _, d0, d1, d2, _, hx1, _⟩ := hs1.at_ k hlt
      have hk0 : (k : Int) < (x.ll.length : Int) := by omega
      have HC := hid (looks_any Z d g s x (x.ll[k].no : Nat) wr hS.out.1)
      clear hs1 hs2
      go_wp2_with fail
      refine HC.out.mono ?_
      rintro e w2 ⟨rfl, h2, hb2⟩
      have H2 : Hid (DX w2 Z d g s x ∧ Below w.heap.size w w2) := hid ⟨h2, hS.out.2.trans (hb2.mono hS.out.2.size)⟩
      clear h2 hb2 HC c0 c1 c2 c3 c4 d0 d1 d2
      go_wp2_with fail
      go_roundw
      case rel => exact ⟨k + 1, by omega, by go_num, H2⟩
      case measure => simp [RowKit.intOf]; omega
    · obtain rfl : k = x.ll.length := by omega
      clear hs1 hs2 c4
      go_wp2_with fail
      clear c0 c1 c2 c3 hk hlt
      go_loopw [6] (fun iv wr => ∃ k : Nat, k ≤ x.cl.length ∧ iv = .int .i64 k ∧ Hid (DX wr Z d g s x ∧ Below w.heap.size w wr)) (fun i _ => x.cl.length - (RowKit.intOf i).toNat)
      case atStart => exact ⟨0, by omega, rfl, hS⟩
      case round =>
        clear hS
        obtain ⟨k, hk, rfl, hS⟩ := hrel
        obtain ⟨A1, k1, A2, k2, c0, c1, c2, c3, c4, hs1, hs2⟩ := hS.out.1.xa.cells
        by_cases hlt : k < x.cl.length
        · obtain ⟨gg, A', c', rfl, _, d0, d1, d2, _, hx1, _⟩ := hs2.at_ k hlt
          have hk0 : (k : Int) < (x.cl.length : Int) := by omega
          have HC := hid (looks_any Z d g s x (x.cl[k].no : Nat) _ hS.out.1)
          clear hs1 hs2
          go_wp2_with fail
          refine HC.out.mono ?_
          rintro e w2 ⟨rfl, h2, hb2⟩
          have H2 : Hid (DX w2 Z d g s x ∧ Below w.heap.size w w2) := hid ⟨h2, hS.out.2.trans (hb2.mono hS.out.2.size)⟩
          clear h2 hb2 HC c0 c1 c2 c3 c4 d0 d1 d2
          go_wp2_with fail
          go_roundw
          case rel => exact ⟨k + 1, by omega, by go_num, H2⟩
          case measure => simp [RowKit.intOf]; omega
        · obtain rfl : k = x.cl.length := by omega
          have HC := hid (looks_any Z d g s x 0 _ hS.out.1)
          clear hs1 hs2 c3
          go_wp2_with fail
          refine HC.out.mono ?_
          rintro e w2 ⟨rfl, h2, hb2⟩
          have H2 : Hid (DX w2 Z d g s x ∧ Below w.heap.size w w2) := hid ⟨h2, hS.out.2.trans (hb2.mono hS.out.2.size)⟩
          clear h2 hb2 HC c0 c1 c2 c4
          go_wp2_with fail
          go_ret
          exact ⟨rfl, H2.out.1, H2.out.2⟩
end Go.Proofs.YtdgijnolpjaheaaGreat
namespace Go.Proofs.YtdgijnolpjaheaaGreat
open Go.RowKit

namespace Ck
/-- thing t lies at ⟨b, o⟩ -/
def OpAt (w : World) (B b o : Nat) (t : Op) : Prop :=
  ∃ ap cp al cl, w.cell? ⟨b, o, none⟩ = some (.int .i64 t.kind) ∧ w.cell? ⟨b, o + 1, none⟩ = some (.int .i64 t.at_) ∧ w.cell? ⟨b, o + 2, none⟩ = some (.int .i64 t.n) ∧ w.cell? ⟨b, o + 3, none⟩ = some (.int .i64 t.ep) ∧ w.cell? ⟨b, o + 4, none⟩ = some (.slice ap t.data.length cp) ∧ w.cell? ⟨b, o + 5, none⟩ = some (.slice al t.lst.length cl) ∧
    IsBytes w B ap t.data ∧ IsInts w B al t.lst ∧ (t.data.length ≤ cp ∧ cp ≤ maxLen) ∧ (ap = none → cp = 0) ∧ InInt t.at_ ∧ InInt t.n
/-- Below block B a slice at A holds the things ts. -/
structure IsOps (w : World) (B : Nat) (A : Option Addr) (ts : List Op) : Prop where
  cells : ∀ k, k < ts.length → ∃ b off, A = some ⟨b, off, none⟩ ∧ b < B ∧ ∀ i (h : i < ts.length), OpAt w B b (off + i * 6) ts[i]
theorem OpAt.below {w w' : World} {B b o : Nat} {t : Op} (h : OpAt w B b o t) (hlt : b < B) (hb : Below B w w') : OpAt w' B b o t := by
  obtain ⟨ap, cp, al, cl, c0, c1, c2, c3, c4, c5, hp, hl, rest⟩ := h
  exact ⟨ap, cp, al, cl, (hb.cell hlt).trans c0, (hb.cell hlt).trans c1, (hb.cell hlt).trans c2, (hb.cell hlt).trans c3, (hb.cell hlt).trans c4, (hb.cell hlt).trans c5, hp.below hb, hl.below hb, rest⟩
theorem IsOps.below {w w' : World} {B : Nat} {A : Option Addr} {ts : List Op} (h : IsOps w B A ts) (hb : Below B w w') : IsOps w' B A ts := ⟨fun k hk => by
  obtain ⟨b, off, e, hlt, hc⟩ := h.cells k hk
  exact ⟨b, off, e, hlt, fun i hi => (hc i hi).below hlt hb⟩⟩
/-- what the statement goes through -/
def Small (ts : List Op) : Prop := ts.length ≤ 100 ∧ ∀ t ∈ ts, t.data.length ≤ 4096 ∧ t.lst.length ≤ 1024
/-- whatever is saved, it makes no difference how -/
def Fine (s : Sx.St) : List Op → Prop
  | [] => True
  | t :: ts => Agree s t ∧ Fine (step s t) ts
def after (s : Sx.St) (ts : List Op) : Sx.St := ts.foldl step s
theorem after_succ {s : Sx.St} {ts : List Op} {k : Nat} (hk : k < ts.length) : after s (ts.take (k + 1)) = step (after s (ts.take k)) ts[k] := by
  unfold after
  rw [List.take_succ_eq_append_getElem hk, List.foldl_append]
  rfl
theorem fine_at : ∀ {ts : List Op} {s : Sx.St} {k : Nat} (_ : Fine s ts) (hk : k < ts.length), Agree (after s (ts.take k)) ts[k]
  | t :: ts, s, 0, h, _ => h.1
  | t :: ts, s, k + 1, h, hk => fine_at (ts := ts) (s := step s t) h.2 (by simpa using hk)
end Ck

set_option maxRecDepth 100000 in
theorem Ck.long_any (B : Nat) (A : Option Addr) (c : Nat) (ts : List Ck.Op) (hs : Ck.Small ts) (w : World) (h : Ck.IsOps w B A ts) :
    Calls Tryz.prog 11 #[.slice A ts.length c] w fun e w' => e = .returned (.bool false) ∧ w' = w := by
  obtain ⟨h0, h1⟩ := hs
  have H1 := hid h1
  have hl : ¬ (100 : Int) < (ts.length : Int) := by omega
  clear h1
  go_enter Tryz.func11, Tryz.ntmps11
  go_wp2_with fail
  go_loopw [3] (fun i wr => ∃ k : Nat, k ≤ ts.length ∧ i = .int .i64 k ∧ wr = w) (fun i _ => ts.length - (RowKit.intOf i).toNat)
  case atStart => exact ⟨0, by omega, rfl, rfl⟩
  case round =>
    obtain ⟨k, hk, rfl, rfl⟩ := hrel
    by_cases hlt : k < ts.length
    · obtain ⟨b, off, rfl, _, hc⟩ := h.cells k hlt
      obtain ⟨ap, cp, al, cl, c0, c1, c2, c3, c4, c5, _, _, _⟩ := hc k hlt
      have hk0 : (k : Int) < (ts.length : Int) := by omega
      obtain ⟨g1, g2⟩ := H1.out ts[k] (List.getElem_mem _)
      have g1' : ¬ (4096 : Int) < (ts[k].data.length : Int) := by omega
      have g2' : ¬ (1024 : Int) < (ts[k].lst.length : Int) := by omega
      clear hc h c0 c1 c2 c3
      go_wp2
      go_roundw
      case rel => exact ⟨k + 1, by omega, by go_num, trivial⟩
      case measure => simp [RowKit.intOf]; omega
    · obtain rfl : k = ts.length := by omega
      clear h
      go_wp2
      go_ret
      exact ⟨rfl, rfl⟩

/-- one thing with both disks -/
theorem Ck.both_all (Z : Nat → Prop) (d : Dk) (g : Nat) (s : Sx.St) (x : Sx.Xs) (t : Ck.Op) (ap al : Option Addr) (cp cl : Nat) (hc : t.data.length ≤ cp ∧ cp ≤ maxLen) (hz : ap = none → cp = 0) (ha : InInt t.at_) (hn : InInt t.n) (hl : t.data.length ≤ 4096) (hag : Ck.Agree s t) (B0 : Nat) (w : World) (h : DX w Z d g s x)
    (hB : ∀ k, own2 d g k → B0 ≤ k) (hB0 : B0 ≤ w.heap.size) (hp : IsBytes w B0 ap t.data) (hq : IsInts w B0 al t.lst) :
    Calls Tryz.prog 12 #[.pointer (some ⟨d.g, 0, none⟩), .pointer (some ⟨g, 0, none⟩), .agg #[.int .i64 t.kind, .int .i64 t.at_, .int .i64 t.n, .int .i64 t.ep, .slice ap t.data.length cp, .slice al t.lst.length cl]] w (BothTo w Z d g (Ck.step s t)) := by
  unfold Ck.step
  by_cases k0 : t.kind = 0
  · rw [if_pos k0]
    have hg := hag k0
    clear hag
    by_cases hr : Ck.Right s.n t.at_ t.n ∧ Ck.Epoch t.ep
    · have hg := hg hr
      have hsn := h.da.bound
      obtain ⟨r1, r2, r3⟩ := hr.1
      obtain ⟨F, hF⟩ : ∃ F : Nat, t.at_ = (F : Int) := ⟨t.at_.toNat, by omega⟩
      obtain ⟨N, hN⟩ : ∃ N : Nat, t.n = (N : Int) := ⟨t.n.toNat, by omega⟩
      by_cases hf : (Jo.secs t.data.length : Int) ≤ t.n
      · rw [if_pos ⟨hr, hf⟩]
        have hg := hg hf
        rw [hF, hN, Int.toNat_natCast, Int.toNat_natCast] at hg
        rw [hF, hN] at hr
        rw [hN] at hf
        rw [k0, hF, hN, Int.toNat_natCast, Int.toNat_natCast]
        exact both_done Z d g s x ap cp t.data F N t.ep hr.1 hr.2 (by omega) hg hc.1 hc.2 hz hl _ B0 w h hB hB0 hp
      · rw [if_neg (fun e => hf e.2)]
        have ha' := ha
        rw [hN] at hr hf
        rw [k0, hN]
        exact both_long Z d g s x ap cp t.data t.at_ N t.ep ha' hr.1 hr.2 (by omega) hc.1 hc.2 hz hl _ B0 w h hB hB0 hp
    · rw [if_neg (fun e => hr e.1), k0]
      exact both_wrong Z d g s x ap cp t.data t.at_ t.n t.ep ha hr hc.1 hc.2 hz hl _ B0 w h hB hB0 hp
  rw [if_neg k0]
  by_cases k1 : t.kind = 1
  · rw [if_pos k1, k1]
    exact both_crash Z d g s x t.at_ t.n t.ep _ al cl t.lst _ rfl B0 w h hB hB0 hq
  rw [if_neg k1]
  by_cases k2 : t.kind = 2
  · rw [if_pos k2, k2]
    exact both_arm Z d g s x t.at_ t.n t.ep hn _ _ w h
  rw [if_neg k2]
  by_cases k3 : t.kind = 3
  · rw [if_pos k3, k3]
    exact both_raw Z d g s x t.at_ t.n t.ep ap cp t.data _ rfl hz _ B0 w h hB hB0 hp
  rw [if_neg k3]
  exact both_none Z d g s x t.kind t.at_ t.n t.ep k0 k1 k2 k3 _ _ w h

/-- both disks, which this call has made -/
structure DXC (w0 w : World) (d : Dk) (g : Nat) (s : Sx.St) (x : Sx.Xs) : Prop where
  dx : DX w (fun k => k < w0.heap.size) d g s x
  bel : Below w0.heap.size w0 w
theorem DXC.ge {w0 w : World} {d : Dk} {g : Nat} {s : Sx.St} {x : Sx.Xs} (h : DXC w0 w d g s x) : ∀ k, own2 d g k → w0.heap.size ≤ k := by
  rintro k (hk | rfl)
  · by_cases e : w0.heap.size ≤ k
    · exact e
    · exact absurd (Or.inl (by omega)) (h.dx.da.off k hk)
  · by_cases e : w0.heap.size ≤ k
    · exact e
    · exact absurd (Or.inl (by omega)) h.dx.xa.off
theorem DXC.next {w0 w w' : World} {d : Dk} {g : Nat} {s s' : Sx.St} {x x' : Sx.Xs} (h : DXC w0 w d g s x) (hd : DX w' (fun k => k < w0.heap.size) d g s' x') (ht : Turned (own2 d g) w w') : DXC w0 w' d g s' x' :=
  ⟨hd, h.bel.trans (ht.below h.bel.size h.ge)⟩
theorem DXC.below {w0 w w' : World} {d : Dk} {g : Nat} {s : Sx.St} {x : Sx.Xs} (h : DXC w0 w d g s x) (hb : Below w.heap.size w w') : DXC w0 w' d g s x :=
  ⟨h.dx.below hb, h.bel.trans (hb.mono h.bel.size)⟩
theorem dxc_new {w0 w1 w2 w3 : World} {d : Dk} {g n : Nat} (h1 : Below w0.heap.size w0 w1) (hd : DiskAt w2 (fun k => k < w1.heap.size) d (Sx.new n)) (h2 : Below w1.heap.size w1 w2) (hx : RefAt w3 (fun k => k < w2.heap.size) g (Sx.newX n)) (h3 : Below w2.heap.size w2 w3) : DXC w0 w3 d g (Sx.new n) (Sx.newX n) := by
  refine ⟨⟨(hd.shun.below h3).mono ?_, hx.mono ?_, ?_, Sx.rel_new n⟩, (h1.trans (h2.mono h1.size)).trans (h3.mono (Nat.le_trans h1.size h2.size))⟩
  · rintro k (hk | rfl)
    · exact .inl (Nat.lt_of_lt_of_le hk h1.size)
    · refine .inr ?_
      by_cases e : w2.heap.size ≤ k
      · exact e
      · exact absurd (show k < w2.heap.size by omega) hx.off
  · rintro k (hk | hk)
    · have hk : k < w0.heap.size := hk
      have := h1.size; have := h2.size; show k < w2.heap.size; omega
    · exact hd.lt k hk
  · intro k hk
    have := h1.size; have := h2.size; have := h3.size; omega
theorem both_dxc (w0 : World) (d : Dk) (g : Nat) (s : Sx.St) (x : Sx.Xs) (t : Ck.Op) (ap al : Option Addr) (cp cl : Nat) (hc : t.data.length ≤ cp ∧ cp ≤ maxLen) (hz : ap = none → cp = 0) (ha : InInt t.at_) (hn : InInt t.n) (hl : t.data.length ≤ 4096) (hag : Ck.Agree s t) (w : World) (h : DXC w0 w d g s x) (hp : IsBytes w w0.heap.size ap t.data) (hq : IsInts w w0.heap.size al t.lst) :
    Calls Tryz.prog 12 #[.pointer (some ⟨d.g, 0, none⟩), .pointer (some ⟨g, 0, none⟩), .agg #[.int .i64 t.kind, .int .i64 t.at_, .int .i64 t.n, .int .i64 t.ep, .slice ap t.data.length cp, .slice al t.lst.length cl]] w fun e w' => e = .returned (.bool true) ∧ ∃ x', DXC w0 w' d g (Ck.step s t) x' := by
  refine (Ck.both_all _ d g s x t ap al cp cl hc hz ha hn hl hag w0.heap.size w h.dx h.ge h.bel.size hp hq).mono ?_
  rintro e w' ⟨he, x', hd, ht⟩
  exact ⟨he, x', h.next hd ht⟩
theorem loads_dxc (w0 : World) (d : Dk) (g : Nat) (s : Sx.St) (x : Sx.Xs) (f n : Int) (hf : InInt f) (w : World) (h : DXC w0 w d g s x) :
    Calls Tryz.prog 13 #[.pointer (some ⟨d.g, 0, none⟩), .pointer (some ⟨g, 0, none⟩), .int .i64 f, .int .i64 n] w fun e w' => e = .returned (.bool true) ∧ DXC w0 w' d g s x :=
  (loads_any _ d g s x f n hf w h.dx).mono fun _ _ ⟨he, _, hb⟩ => ⟨he, h.below hb⟩
theorem looks_dxc (w0 : World) (d : Dk) (g : Nat) (s : Sx.St) (x : Sx.Xs) (i : Int) (w : World) (h : DXC w0 w d g s x) :
    Calls Tryz.prog 14 #[.pointer (some ⟨d.g, 0, none⟩), .pointer (some ⟨g, 0, none⟩), .int .i64 i] w fun e w' => e = .returned (.bool true) ∧ DXC w0 w' d g s x :=
  (looks_any _ d g s x i w h.dx).mono fun _ _ ⟨he, _, hb⟩ => ⟨he, h.below hb⟩
end Go.Proofs.YtdgijnolpjaheaaGreat
namespace Go.Proofs.YtdgijnolpjaheaaGreat
open Go.RowKit

set_option maxHeartbeats 3200000 in
set_option maxRecDepth 100000 in
theorem runs_any (A : Option Addr) (c : Nat) (ts : List Ck.Op) (hs : Ck.Small ts) (hfine : Ck.Fine (Sx.new 10) ts) (w : World) (k1 : Ck.IsOps w w.heap.size A ts) :
    Calls Tryz.prog 5 #[.int .i64 10, .slice A ts.length c] w fun e w' => e = .returned (.bool true) ∧ Below w.heap.size w w' := by
  have HK := hid k1
  have HSM := hid hs
  have HFI := hid hfine
  have HNW := hid (new_any 10 (by omega) w)
  clear k1 hs hfine
  go_enter Tryz.func5, Tryz.ntmps5
  go_wp2_with fail
  refine HNW.out.mono ?_
  rintro e w3 ⟨d, rfl, hd3, hb3⟩
  have H3 := hid (And.intro hd3 hb3)
  have HNX := hid (refNew_any 10 (by omega) w3)
  clear hd3 hb3 HNW
  go_wp2_with fail
  refine HNX.out.mono ?_
  rintro e w4 ⟨g, rfl, hx4, hb4⟩
  have HS : Hid (∃ x, DXC w w4 d g (Sx.new 10) x) := hid ⟨_, dxc_new (Below.refl _ w) H3.out.1 H3.out.2 hx4 hb4⟩
  clear hx4 hb4 H3 HNX
  have HL := hid (Ck.long_any w.heap.size A c ts HSM.out w4 (HK.out.below (by obtain ⟨x, hx⟩ := HS.out; exact hx.bel)))
  go_wp2_with fail
  refine HL.out.mono ?_
  rintro e w5 ⟨rfl, hw5⟩
  subst hw5
  clear HL
  go_wp2_with fail
  go_loopw [9] (fun i wr => ∃ k : Nat, k ≤ ts.length ∧ i = .int .i64 k ∧ Hid (∃ x, DXC w wr d g (Ck.after (Sx.new 10) (ts.take k)) x)) (fun i _ => ts.length - (RowKit.intOf i).toNat)
  case atStart => exact ⟨0, by omega, rfl, HS⟩
  case round =>
    clear HS
    obtain ⟨k, hk, rfl, hS⟩ := hrel
    obtain ⟨x, hS'⟩ := hS.out
    have HS := hid hS'
    clear hS hS'
    by_cases hlt : k < ts.length
    · obtain ⟨s, hs⟩ : ∃ s, s = Ck.after (Sx.new 10) (ts.take k) := ⟨_, rfl⟩
      have hag := Ck.fine_at HFI.out hlt
      rw [← hs] at HS hag
      obtain ⟨b, off, rfl, hbB, hc⟩ := (HK.out.below HS.out.bel).cells k hlt
      obtain ⟨ap, cp, al, cl, c0, c1, c2, c3, c4, c5, hp, hl, hcp, hz, hia, hin⟩ := hc k hlt
      have HC := hid (both_dxc w d g s x ts[k] ap al cp cl hcp hz hia hin (HSM.out.2 _ (List.getElem_mem hlt)).1 hag wr.drew (HS.out.below (Below.refl _ wr).drew) (hp.drewN 1) (hl.drewN 1))
      have hnx : Ck.step s ts[k] = Ck.after (Sx.new 10) (ts.take (k + 1)) := by rw [Ck.after_succ hlt, ← hs]
      obtain ⟨s', hs'⟩ : ∃ s', s' = Ck.step s ts[k] := ⟨_, rfl⟩
      rw [← hs'] at HC hnx
      have HNX := hid hnx
      have HO := hid (fun (w' : World) (hb : Below w.heap.size w w') => show w'.cell? ⟨b, off + k * 6, none⟩ = some (.int .i64 ts[k].kind) ∧ w'.cell? ⟨b, off + k * 6 + 1, none⟩ = some (.int .i64 ts[k].at_) ∧ w'.cell? ⟨b, off + k * 6 + 2, none⟩ = some (.int .i64 ts[k].n) ∧ w'.cell? ⟨b, off + k * 6 + 3, none⟩ = some (.int .i64 ts[k].ep) ∧ w'.cell? ⟨b, off + k * 6 + 4, none⟩ = some (.slice ap ts[k].data.length cp) ∧ w'.cell? ⟨b, off + k * 6 + 5, none⟩ = some (.slice al ts[k].lst.length cl) from
        have h0 : b < w.heap.size := hbB
        have hw := HS.out.bel
        have q := fun (j : Nat) (v : Value) (hv : wr.cell? ⟨b, off + k * 6 + j, none⟩ = some v) => show w'.cell? ⟨b, off + k * 6 + j, none⟩ = some v from (hb.cell (p := ⟨b, off + k * 6 + j, none⟩) h0).trans ((hw.cell (p := ⟨b, off + k * 6 + j, none⟩) h0).symm.trans hv)
        ⟨q 0 _ c0, q 1 _ c1, q 2 _ c2, q 3 _ c3, q 4 _ c4, q 5 _ c5⟩)
      have HI := hid hia
      have HB := hid HS.out.bel.drew
      have hk0 : (k : Int) < (ts.length : Int) := by omega
      clear hc hp hl hbB hcp hz hia hin c0 c1 c2 c3 c4 c5 hs hs' hnx hag
      go_wp2_with fail
      go_region_held3 (fun w' => w'.cell? ⟨b, off + k * 6, none⟩ = some (.int .i64 ts[k].kind) ∧ w'.cell? ⟨b, off + k * 6 + 1, none⟩ = some (.int .i64 ts[k].at_) ∧ w'.cell? ⟨b, off + k * 6 + 2, none⟩ = some (.int .i64 ts[k].n) ∧ w'.cell? ⟨b, off + k * 6 + 3, none⟩ = some (.int .i64 ts[k].ep) ∧ w'.cell? ⟨b, off + k * 6 + 4, none⟩ = some (.slice ap ts[k].data.length cp) ∧ w'.cell? ⟨b, off + k * 6 + 5, none⟩ = some (.slice al ts[k].lst.length cl))
        (first | exact HO.out _ HB.out | exact HO.out _ hD6.bel | exact HO.out _ hD7.bel | exact HO.out _ hD8.bel | fail)
        (first
          | (go_at_call 14; refine (looks_dxc w d g s' x' ts[k].at_ w7 hD7).mono ?_; rintro e w8 ⟨rfl, hD8⟩)
          | (go_at_call 13; refine (loads_dxc w d g s' x' ts[k].at_ ts[k].n HI.out w6 hD6).mono ?_; rintro e w7 ⟨rfl, hD7⟩)
          | (go_at_call 12; refine HC.out.mono ?_; rintro e w6 ⟨rfl, x', hD6⟩))
      have HS8 : Hid (∃ x, DXC w w8 d g (Ck.after (Sx.new 10) (ts.take (k + 1))) x) := hid ⟨_, by rw [← HNX.out]; exact hD8⟩
      clear hD6 hD7 hD8 HC HS HO HB
      have hlen := HSM.out.1
      go_wp2_with fail
      go_roundw
      case rel => exact ⟨k + 1, by omega, by go_num, HS8⟩
      case measure => simp [RowKit.intOf]; omega
    · obtain rfl : k = ts.length := by omega
      have HC := hid (all_any _ d g _ x wr HS.out.dx)
      have HST := hid (fun (w5 : World) (hb : Below wr.heap.size wr w5) => (HS.out.below hb).bel)
      clear HS
      go_wp2_with fail
      refine HC.out.mono ?_
      rintro e w5 ⟨rfl, hD5, hb5⟩
      have HB5 := hid (HST.out w5 hb5)
      clear hD5 hb5 HC HST
      go_wp2_with fail
      refine (works_any w5).mono ?_
      rintro e w6 ⟨rfl, hb6⟩
      have HB6 := hid (HB5.out.trans (hb6.mono HB5.out.size))
      clear hb6 HB5
      go_wp2_with fail
      go_ret
      exact ⟨rfl, HB6.out⟩
end Go.Proofs.YtdgijnolpjaheaaGreat
namespace Go.Proofs.YtdgijnolpjaheaaGreat
open Go.RowKit
namespace Ck
open Sx Jo
/-- nothing lies in the cache, and the disk does not fail -/
def Calm (s : St) : Prop := (∀ i, s.cache i = none) ∧ s.armed = false ∧ s.down = false
theorem calm_new (n : Nat) : Calm (new n) := ⟨fun _ => rfl, rfl, rfl⟩
theorem calm_flush {s : St} (h : Calm s) : spE s = 0 ∧ flS s = s := by
  obtain ⟨h1, h2, h3⟩ := h
  have hd : s.dead = false := by simp [St.dead, h2]
  refine ⟨by simp [spE, hd, h3], ?_⟩
  have hc : s.cache = fun _ => none := funext h1
  unfold flS
  rw [hd, h3]
  obtain ⟨n, dur, cache, armed, left, down⟩ := s
  simp only at hc h2 h3
  subst hc h2 h3
  simp [St.spent, settle1]
theorem agree_kind {s : St} {t : Op} (_ : t.kind ≠ 0) : Agree s t := fun _ _ _ => rfl
theorem agree_secs {s : St} {t : Op} (_ : 1 < secs t.data.length) : Agree s t := fun _ _ _ => rfl
theorem agree_calm {s : St} {t : Op} (_ : Calm s) : Agree s t := fun _ _ _ => rfl
theorem calm_run {s : St} {a : Nat} {T : List (List Nat)} (h : Calm s) (hn : a + T.length ≤ s.n) (hb : ∀ b ∈ T, b.length ≤ 64) : (run s a T).1 = 0 ∧ Calm (run s a T).2 ∧ (run s a T).2.n = s.n := by
  have h0 := run_safe T s a hn hb h.2.1 h.2.2
  obtain ⟨g1, g2, g3, g4, _⟩ := ran h.1 hn hb h0
  exact ⟨h0, ⟨g1, g3.trans h.2.1, g4⟩, g2⟩
theorem calm_save {b : Bool} {s : St} {f n : Nat} {e : Int} {q : List Nat} (h : Calm s) (hq : secs q.length ≤ n) (hf : f + n ≤ s.n) : Calm (save b s f e q).2 := by
  have hp := secs_pos q.length
  obtain ⟨t1, t2, t3⟩ := secsOf_tail e q
  have hsm : ∀ x ∈ [sec e 0 q 0], x.length ≤ 64 := fun x hb => by rw [List.mem_singleton.1 hb]; exact sec_length_le _ _ _ _
  unfold save
  by_cases hm : b = true ∨ 1 < secs q.length
  · rw [if_pos hm]
    obtain ⟨h0, h1, h2⟩ := calm_run (a := f + 1) (T := (secsOf e 0 q).tail) h (by rw [t1]; omega) t2
    rw [if_pos h0]
    exact (calm_run h1 (by rw [h2]; simp; omega) hsm).2.1
  · rw [if_neg hm]
    exact (calm_run h (by simp; omega) hsm).2.1
theorem calm_step {s : St} {t : Op} (h : Calm s) (hk : t.kind = 0) : Calm (step s t) := by
  unfold step
  rw [if_pos hk]
  split
  · rename_i hc
    obtain ⟨⟨⟨r1, r2, r3⟩, _⟩, hf⟩ := hc
    refine calm_save (n := t.n.toNat) h (by omega) ?_
    rcases slot_cases t.at_.toNat t.n.toNat t.ep with ⟨h1, _⟩ | ⟨h1, _⟩ <;> rw [h1] <;> omega
  · exact h
theorem fine7 {ts : List Op} (h : ts.map (fun t => (t.kind, t.data.length, t.lst.length)) = [(0, 1, 0), (0, 40, 0), (0, 41, 0), (0, 0, 0), (2, 0, 0), (0, 80, 0), (1, 0, 2)]) : Small ts ∧ Fine (new 10) ts := by
  have hlen : ts.length = 7 := by simpa using congrArg List.length h
  match ts, hlen, h with
  | [t0, t1, t2, t3, t4, t5, t6], _, h =>
    simp only [List.map_cons, List.map_nil, List.cons.injEq, Prod.mk.injEq, and_true] at h
    obtain ⟨⟨a0, b0, c0⟩, ⟨a1, b1, c1⟩, ⟨a2, b2, c2⟩, ⟨a3, b3, c3⟩, ⟨a4, b4, c4⟩, ⟨a5, b5, c5⟩, ⟨a6, b6, c6⟩⟩ := h
    refine ⟨⟨by simp, fun t ht => ?_⟩, ?_⟩
    · simp only [List.mem_cons, List.not_mem_nil, or_false] at ht
      rcases ht with rfl | rfl | rfl | rfl | rfl | rfl | rfl <;> omega
    · have s0 := calm_new 10
      have s1 := calm_step s0 a0
      have s2 := calm_step s1 a1
      have s3 := calm_step s2 a2
      exact ⟨agree_calm s0, agree_calm s1, agree_calm s2, agree_calm s3, agree_kind (by omega), agree_secs (by rw [b5]; decide), agree_kind (by omega), trivial⟩
/-- two Saves and whatever else -/
theorem fine_tail {s : St} : ∀ {ts : List Op}, (∀ t ∈ ts, t.kind ≠ 0) → Fine s ts
  | [], _ => trivial
  | t :: _, h => ⟨agree_kind (h t (List.mem_cons_self ..)), fine_tail (fun u hu => h u (List.mem_cons_of_mem _ hu))⟩
theorem fine_two {t0 t1 : Op} {ts : List Op} (h0 : t0.kind = 0) (h : ∀ t ∈ ts, t.kind ≠ 0) : Fine (new 10) (t0 :: t1 :: ts) :=
  ⟨agree_calm (calm_new 10), agree_calm (calm_step (calm_new 10) h0), fine_tail h⟩
end Ck
end Go.Proofs.YtdgijnolpjaheaaGreat
namespace Go.Proofs.YtdgijnolpjaheaaGreat
open Go

theorem ready_lt {md : Region.Mode} {ops : Array Oper} {listed : Array Bool} {i : Nat} (h : i ∈ Region.ready md ops listed) : i < ops.size := by
  obtain ⟨_, o, ho, _⟩ := mem_ready.1 h
  exact (Array.getElem?_eq_some_iff.1 ho).1
def unl (listed : Array Bool) : Nat := listed.toList.count false
theorem unl_set {listed : Array Bool} {i : Nat} (h : listed.getD i true = false) : unl (listed.setIfInBounds i true) + 1 = unl listed := by
  have hi : i < listed.size := by
    rcases Nat.lt_or_ge i listed.size with h' | h'
    · exact h'
    · rw [Array.getD_eq_getD_getElem?, Array.getElem?_eq_none h'] at h; cases h
  have hv : listed.toList[i] = false := by
    rw [Array.getD_eq_getD_getElem?, Array.getElem?_eq_getElem hi] at h
    exact h
  unfold unl
  rw [Array.toList_setIfInBounds, List.count_set (by simpa using hi)]
  have hm : 0 < listed.toList.count false := List.count_pos_iff.2 (hv ▸ List.getElem_mem _)
  have hv2 : (listed.toList[i]'(by simpa using hi) == false) = true := by rw [hv]; rfl
  rw [if_pos hv2, if_neg (by decide)]
  omega
theorem wpAny_inv {P : Program} {ops : Array Oper} {Q : Exit → Act → World → Prop} (I : Array Bool → Act → World → Prop)
    (hs : ∀ listed a w i o, I listed a w → ops[i]? = some o → listed.getD i true = false → (∀ e ∈ o.after, Region.binds .any e = true → listed.getD e.on false = true) → wpOp P ops Q i (fun a' w' => I (listed.setIfInBounds i true) a' w') a w)
    (he : ∀ listed a w, I listed a w → Region.ready .any ops listed = [] → Q .normal a w) :
    ∀ fuel listed a w, I listed a w → unl listed ≤ fuel → wpAny P .any ops Q fuel listed a w := by
  intro fuel
  induction fuel with
  | zero =>
    intro listed a w hI hc
    have hr : Region.ready .any ops listed = [] := by
      rcases hl : Region.ready .any ops listed with _ | ⟨i, rest⟩
      · rfl
      · have := (mem_ready (j := i)).1 (by rw [hl]; exact List.mem_cons_self)
        have := unl_set this.1
        omega
    exact ⟨hr, he listed a w hI hr⟩
  | succ fuel ih =>
    intro listed a w hI hc
    refine ⟨he listed a w hI, fun i hi => ?_⟩
    obtain ⟨h0, o, ho, ha⟩ := mem_ready.1 hi
    refine wpOp_mono (fun a' w' h => ih _ a' w' h ?_) (hs listed a w i o hI ho h0 ha)
    have := unl_set h0
    omega
theorem wp_region_inv {P : Program} {id : Nat} {ops : Array Oper} {Q : Exit → Act → World → Prop} {a : Act} {w : World} (hm : P.follows .mixedOrders = true) (I : Array Bool → Act → World → Prop)
    (h0 : I (Array.replicate ops.size false) a w.drew)
    (hs : ∀ listed a w i o, I listed a w → ops[i]? = some o → listed.getD i true = false → (∀ e ∈ o.after, Region.binds .any e = true → listed.getD e.on false = true) → wpOp P ops Q i (fun a' w' => I (listed.setIfInBounds i true) a' w') a w)
    (he : ∀ listed a w, I listed a w → Region.ready .any ops listed = [] → Q .normal a w) : (Code.region id ops true).wp P Q a w := by
  refine wp_region_any hm (wpAny_inv I hs he ops.size _ a _ h0 ?_)
  unfold unl
  rw [Array.toList_replicate, List.count_replicate]
  simp
theorem all_listed {ops : Array Oper} {listed : Array Bool} (hsz : listed.size = ops.size) (hacyc : ∀ (i : Nat) (o : Oper), ops[i]? = some o → ∀ e ∈ o.after, Region.binds .any e = true → e.on < i) (hr : Region.ready .any ops listed = []) :
    ∀ i, i < ops.size → listed.getD i false = true := by
  intro i
  induction i using Nat.strongRecOn with
  | ind i ih =>
    intro hi
    have hi' : i < listed.size := by omega
    cases hl : listed[i]
    · exfalso
      have hm : i ∈ Region.ready .any ops listed := mem_ready.2 ⟨by rw [Array.getD_eq_getD_getElem?, Array.getElem?_eq_getElem hi', hl]; rfl, ops[i], Array.getElem?_eq_getElem hi, fun e he hb => ih e.on (hacyc i _ (Array.getElem?_eq_getElem hi) e he hb) (by have := hacyc i _ (Array.getElem?_eq_getElem hi) e he hb; omega)⟩
      rw [hr] at hm
      cases hm
    · rw [Array.getD_eq_getD_getElem?, Array.getElem?_eq_getElem hi', hl]; rfl

/-- what an operation says of itself -/
def skel (o : Oper) : Option Tmp × Op × TypeId × Option (Nat × Bool) × List Nat := (o.dst, o.op, o.type, o.guard, (o.after.toList.filter (Region.binds .any)).map (·.on))
def sop (op : Op) (ty : TypeId) : Oper := ⟨none, op, ty, "", #[], none⟩
theorem exec_sop (ρ : Operand → Value) (o : Oper) : execOp ρ o = execOp ρ (sop o.op o.type) := rfl
/-- it yields such a value, or enters a function that does -/
def Goes (P : Program) (a : Act) (w : World) (op : Op) (ty : TypeId) (R : Value → World → Prop) : Prop :=
  (∃ v w', (execOp a.eval (sop op ty)).run P w = .ok (.value v) w' ∧ R v w') ∨
  (∃ f args, (execOp a.eval (sop op ty)).run P w = .ok (.enter f args) w ∧ Calls P f args w fun e w' => ∃ v, e = .returned v ∧ R v w')
theorem Goes.wpOp {P : Program} {ops : Array Oper} {Q : Exit → Act → World → Prop} {K : Act → World → Prop} {a : Act} {w : World} {i : Nat} {o : Oper} {R : Value → World → Prop} (hi : ops[i]? = some o) (hg : o.guard = none) (h : Goes P a w o.op o.type R)
    (hk : ∀ v w', R v w' → K (a.put o.dst v) w') : wpOp P ops Q i K a w := by
  unfold Go.wpOp
  simp only [hi]
  have hw : Region.wanted o (yielded ops a.tmps) = true := by simp [Region.wanted, hg]
  rw [if_pos hw]
  left
  unfold Oper.wp
  rw [exec_sop]
  rcases h with ⟨v, w', hr, hR⟩ | ⟨f, args, hr, hC⟩
  · rw [hr, Oper.upon_value]
    exact hk v w' hR
  · rw [hr, Oper.upon_enter]
    refine hC.mono ?_
    rintro e w' ⟨v, rfl, hR⟩
    exact hk v w' hR
theorem x_move {P : Program} (ρ : Operand → Value) (x : Operand) (ty : TypeId) (w : World) : (execOp ρ (sop (.move x) ty)).run P w = .ok (.value (ρ x)) w := by simp [execOp, sop]
theorem x_assign {P : Program} (ρ : Operand → Value) (x : Operand) (ty : TypeId) (w : World) : (execOp ρ (sop (.assign x) ty)).run P w = .ok (.value (ρ x)) w := by simp [execOp, sop]
theorem x_build {P : Program} (ρ : Operand → Value) (t : TypeId) (parts : Array (Nat × Operand)) (ty : TypeId) (v : Value) (w : World) (h : (Instr.build t (parts.map fun (i, x) => (i, ρ x))).run P w = .ok v w) : (execOp ρ (sop (.build t parts) ty)).run P w = .ok (.value v) w := by simp [execOp, sop, h]
theorem x_slice {P : Program} (ρ : Operand → Value) (t : TypeId) (n : Nat) (parts : Array (Nat × Operand)) (ty : TypeId) (v : Value) (w w' : World) (h : (Instr.buildSlice t n (parts.map fun (i, x) => (i, ρ x))).run P w = .ok v w') : (execOp ρ (sop (.buildSlice t n parts) ty)).run P w = .ok (.value v) w' := by simp [execOp, sop, h]
theorem x_index {P : Program} (ρ : Operand → Value) (t : TypeId) (x y : Operand) (ty : TypeId) (v : Value) (w : World) (h : (Instr.indexAt t (ρ x) (ρ y)).run P w = .ok v w) : (execOp ρ (sop (.indexAddr t x y) ty)).run P w = .ok (.value v) w := by simp [execOp, sop, h]
theorem x_load {P : Program} (ρ : Operand → Value) (t : TypeId) (x : Operand) (ty : TypeId) (v : Value) (w : World) (h : (Instr.loadAt t (ρ x)).run P w = .ok v w) : (execOp ρ (sop (.load t x) ty)).run P w = .ok (.value v) w := by simp [execOp, sop, h]
/-- each of a list's members, with its place -/
def AllFrom {α : Type} (p : Nat → α → Prop) : Nat → List α → Prop
  | _, [] => True
  | n, x :: xs => p n x ∧ AllFrom p (n + 1) xs
theorem AllFrom.get {α : Type} {p : Nat → α → Prop} : ∀ {n : Nat} {l : List α}, AllFrom p n l → ∀ (i : Nat) (x : α), l[i]? = some x → p (n + i) x
  | _, [], _, i, x, h => by simp at h
  | n, y :: ys, ⟨h0, h1⟩, i, x, h => by
    rcases i with _ | i
    · simp at h; subst h; exact h0
    · simp at h
      have := AllFrom.get h1 i x h
      rwa [show n + 1 + i = n + (i + 1) by omega] at this
end Go.Proofs.YtdgijnolpjaheaaGreat
