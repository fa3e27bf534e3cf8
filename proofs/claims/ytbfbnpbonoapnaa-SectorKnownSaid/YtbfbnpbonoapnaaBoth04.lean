/- The walk through both: one thing is done with both disks. -/
import Derived.Test.YtbfbnpbonoapnaaRel
import Derived.Deep.RegionWith
namespace Go.Proofs.Ytbfbnpbonoapnaa
open Go.RowKit

/-- what an operation's walk has to show -/
def BothTo (w : World) (Z : Nat → Prop) (d : Dk) (g : Nat) (e : Ending) (w' : World) : Prop :=
  e = .returned (.bool true) ∧ ∃ s' x', DX w' Z d g s' x' ∧ Turned (own2 d g) w w'
theorem own2_lt {w : World} {Z : Nat → Prop} {d : Dk} {g : Nat} {s : Sx.St} {x : Sx.Xs} (h : DX w Z d g s x) : ∀ k, own2 d g k → k < w.heap.size := by
  rintro k (hk | rfl)
  · exact h.da.lt k hk
  · exact h.xa.lt
/-- the operation's own cells, whatever the disks turned -/
theorem op_cell {w w1 w2 : World} {d : Dk} {g : Nat} {cur : Array Value} (hlt : ∀ k, own2 d g k → k < w.heap.size) (hw : w1 = w.alloc (.cells cur 36)) (ht : Turned (own2 d g) w1 w2) (k : Nat) : w2.cell? ⟨w.heap.size, k, none⟩ = cur[k]? := by
  subst hw
  rw [ht.cell (by simp) (fun h => Nat.lt_irrefl _ (hlt _ h))]
  exact World.cell?_alloc_new ..

set_option maxRecDepth 100000 in
theorem both_flush (Z : Nat → Prop) (d : Dk) (g : Nat) (s : Sx.St) (x : Sx.Xs) (i j : Int) (v0 v1 : Value) (w : World) (h : DX w Z d g s x) :
    Calls Try.prog 12 #[.pointer (some ⟨d.g, 0, none⟩), .pointer (some ⟨g, 0, none⟩), .agg #[.int .i64 1, .int .i64 i, .int .i64 j, v0, v1]] w (BothTo w Z d g) := by
  obtain ⟨w1, hw1⟩ : ∃ w1, w1 = w.alloc (.cells #[.int .i64 1, .int .i64 i, .int .i64 j, v0, v1] 36) := ⟨_, rfl⟩
  have hb1 : Below w.heap.size w w1 := by rw [hw1]; exact (Below.refl _ w).alloc (Nat.le_refl _) _
  have ht1 : Turned (own2 d g) w w1 := Turned.ofBelow _ hb1
  have h1 : DX w1 Z d g s x := h.below hb1
  have hlt := own2_lt h
  obtain ⟨hre, hrs⟩ := Sx.rel_flush h.rel
  have hC := flush_any _ d s w1 h1.da
  rw [hre] at hC
  have HC := hid hC
  have H := hid (And.intro h1 (And.intro ht1 hrs))
  have hE : (Sx.flXE x == Sx.flXE x) = true := by simp
  rw [hw1] at HC
  rw [hw1] at H
  clear hC h h1 ht1 hb1 hlt hre hrs hw1
  go_enter Try.func12, Try.ntmps12
  go_wp2_with fail
  refine HC.out.mono ?_
  rintro e w2 ⟨rfl, hD2, ht2⟩
  have HR := hid (refFlush_any _ g x w2 (fun k hk => Nat.lt_of_lt_of_le (H.out.1.zx k hk) ht2.size) (H.out.1.xafter ht2))
  have H2 := hid (And.intro hD2 ht2)
  clear hD2 ht2
  go_wp2_with fail
  refine HR.out.mono ?_
  rintro e w3 ⟨rfl, hX3, ht3⟩
  have H3 := hid (H.out.1.step H2.out.1 H2.out.2 hX3 ht3 H.out.2.2)
  clear hX3 ht3
  go_wp2
  go_ret
  exact ⟨by simp, _, _, H3.out.1, H.out.2.1.trans H3.out.2⟩

set_option maxRecDepth 100000 in
theorem both_arm (Z : Nat → Prop) (d : Dk) (g : Nat) (s : Sx.St) (x : Sx.Xs) (i j : Int) (hi : InInt i) (v0 v1 : Value) (w : World) (h : DX w Z d g s x) :
    Calls Try.prog 12 #[.pointer (some ⟨d.g, 0, none⟩), .pointer (some ⟨g, 0, none⟩), .agg #[.int .i64 2, .int .i64 i, .int .i64 j, v0, v1]] w (BothTo w Z d g) := by
  obtain ⟨w1, hw1⟩ : ∃ w1, w1 = w.alloc (.cells #[.int .i64 2, .int .i64 i, .int .i64 j, v0, v1] 36) := ⟨_, rfl⟩
  have hb1 : Below w.heap.size w w1 := by rw [hw1]; exact (Below.refl _ w).alloc (Nat.le_refl _) _
  have ht1 : Turned (own2 d g) w w1 := Turned.ofBelow _ hb1
  have h1 : DX w1 Z d g s x := h.below hb1
  have hlt := own2_lt h
  have HC := hid (arm_any _ d s i hi w1 h1.da)
  have H := hid (And.intro h1 (And.intro ht1 (And.intro (Sx.rel_arm h.rel i) hi)))
  have HOP := hid (fun w2 ht k => op_cell (w2 := w2) hlt hw1 ht k)
  rw [hw1] at HC
  rw [hw1] at H
  rw [hw1] at HOP
  clear h h1 ht1 hb1 hlt hw1 hi
  go_enter Try.func12, Try.ntmps12
  go_wp2_with fail
  refine HC.out.mono ?_
  rintro e w2 ⟨rfl, hD2, ht2⟩
  have HR := hid (refArm_any _ g x i H.out.2.2.2 w2 (H.out.1.xafter ht2))
  have H2 := hid (And.intro hD2 ht2)
  have q1 := HOP.out w2 (ht2.mono (fun _ h => .inl h)) 1
  clear hD2 ht2
  go_wp2_with fail
  refine HR.out.mono ?_
  rintro e w3 ⟨rfl, hX3, ht3⟩
  have H3 := hid (H.out.1.step H2.out.1 H2.out.2 hX3 ht3 H.out.2.2.1)
  clear hX3 ht3
  go_wp2
  go_ret
  exact ⟨rfl, _, _, H3.out.1, H.out.2.1.trans H3.out.2⟩

set_option maxRecDepth 100000 in
theorem both_none (Z : Nat → Prop) (d : Dk) (g : Nat) (s : Sx.St) (x : Sx.Xs) (k i j : Int) (k0 : k ≠ 0) (k1 : k ≠ 1) (k2 : k ≠ 2) (k3 : k ≠ 3) (v0 v1 : Value) (w : World) (h : DX w Z d g s x) :
    Calls Try.prog 12 #[.pointer (some ⟨d.g, 0, none⟩), .pointer (some ⟨g, 0, none⟩), .agg #[.int .i64 k, .int .i64 i, .int .i64 j, v0, v1]] w (BothTo w Z d g) := by
  obtain ⟨w1, hw1⟩ : ∃ w1, w1 = w.alloc (.cells #[.int .i64 k, .int .i64 i, .int .i64 j, v0, v1] 36) := ⟨_, rfl⟩
  have hb1 : Below w.heap.size w w1 := by rw [hw1]; exact (Below.refl _ w).alloc (Nat.le_refl _) _
  have ht1 : Turned (own2 d g) w w1 := Turned.ofBelow _ hb1
  have h1 : DX w1 Z d g s x := h.below hb1
  have hlt := own2_lt h
  have H1 := hid (And.intro h1 ht1)
  rw [hw1] at H1
  clear h h1 ht1 hb1 hlt hw1
  go_enter Try.func12, Try.ntmps12
  go_wp2_with fail
  go_ret
  exact ⟨rfl, _, _, H1.out.1, H1.out.2⟩

set_option maxRecDepth 100000 in
set_option maxHeartbeats 1600000 in
theorem both_write (Z : Nat → Prop) (d : Dk) (g : Nat) (s : Sx.St) (x : Sx.Xs) (i j : Int) (ap : Option Addr) (cp : Nat) (l : List Nat) (hl : l.length ≤ 1024) (v1 : Value) (w : World) (h : DX w Z d g s x)
    (hp : ∀ w', Turned (own2 d g) w w' → IsBytes w' w'.heap.size ap l) :
    Calls Try.prog 12 #[.pointer (some ⟨d.g, 0, none⟩), .pointer (some ⟨g, 0, none⟩), .agg #[.int .i64 0, .int .i64 i, .int .i64 j, .slice ap l.length cp, v1]] w (BothTo w Z d g) := by
  obtain ⟨w1, hw1⟩ : ∃ w1, w1 = w.alloc (.cells #[.int .i64 0, .int .i64 i, .int .i64 j, .slice ap l.length cp, v1] 36) := ⟨_, rfl⟩
  have hb1 : Below w.heap.size w w1 := by rw [hw1]; exact (Below.refl _ w).alloc (Nat.le_refl _) _
  have ht1 : Turned (own2 d g) w w1 := Turned.ofBelow _ hb1
  have h1 : DX w1 Z d g s x := h.below hb1
  have hlt := own2_lt h
  obtain ⟨hre, hrs⟩ := Sx.rel_write h.rel i l
  have HL := hid (lent_any _ ap cp l (by omega) w1 (hp w1 ht1) (Nat.le_refl _))
  have H := hid (And.intro h1 (And.intro ht1 hrs))
  have HP : Hid (∀ w', Turned (own2 d g) w1 w' → IsBytes w' w'.heap.size ap l) := hid (fun w' h => hp w' (ht1.trans h))
  have HRE := hid hre
  have HOP := hid (fun w2 ht k => op_cell (w2 := w2) hlt hw1 ht k)
  have HLT : Hid (∀ k, own2 d g k → k < w1.heap.size) := hid (own2_lt h1)
  rw [hw1] at HL H HP HOP HLT
  clear h h1 ht1 hb1 hlt hw1 hre hrs hp
  go_enter Try.func12, Try.ntmps12
  go_wp2_with fail
  refine HL.out.mono ?_
  rintro e w2 ⟨gb, c2, rfl, ho2, hb2⟩
  have hgb := ho2.blkLt gb rfl
  have hcap := ho2.cap
  rw [lent_length] at hcap
  have hDX := H.out.1.shunB hb2 gb hgb.1 hgb.2
  have hO : OwnsZ w2 (own2 d g) (some ⟨gb, 0, none⟩) c2 (lent l) := ⟨ho2.weaken (Nat.zero_le _), fun k hk e => by
    injection hk with hk
    have hk' : gb = k := hk
    subst hk'
    have := HLT.out gb e
    omega⟩
  have ht2 : Turned (own2 d g) _ w2.drew := (Turned.ofBelow (own2 d g) hb2).drew
  have q1 := HOP.out w2.drew ht2 1
  have q3 := HOP.out w2.drew ht2 3
  have hW := write_any _ d s i (some ⟨gb, 0, none⟩) c2 l _ rfl (fun h => by cases h) w2.drew (hDX.drew).zd hDX.drew.da (fun w' ht => by
    have h1 := ((hO.keep (w' := w2.drew) (Turned.refl _ w2).drew).keep (ht.mono (fun _ h => .inl h))).reads.take l.length
    rwa [take_lent] at h1)
  rw [HRE.out] at hW
  have HW := hid hW
  have H2 := hid (And.intro hDX.drew (And.intro (hO.keep (w' := w2.drew) (Turned.refl _ w2).drew) ht2))
  have HGB : Hid (w.heap.size ≤ gb) := hid (by have h1 := hgb.1; rw [World.size_alloc] at h1; omega)
  clear hW hDX hO ht2 ho2 hb2 hgb HL HLT
  go_wp2_with fail
  go_region_with (first
    | (go_at_call 29; refine HW.out.mono ?_; rintro e w3 ⟨rfl, hD3, ht3⟩; have H3 := hid (And.intro hD3 ht3); clear hD3 ht3))
  all_goals
    (have ht3' := H2.out.2.2.trans (H3.out.2.mono (fun _ h => .inl h))
     have HR := hid (refWrite_any _ g x i ap cp l _ rfl w3 (fun k hk => Nat.lt_of_lt_of_le (H2.out.1.zx k hk) H3.out.2.size) (H2.out.1.xafter H3.out.2) (fun w' ht => HP.out w' (ht3'.trans (ht.mono (fun _ h => .inr h)))))
     have r1 := HOP.out w3 ht3' 1
     have r3 := HOP.out w3 ht3' 3
     have HT3 := hid ht3'
     clear q1 q3 ht3'
     go_wp2_with fail
     refine HR.out.mono ?_
     rintro e w4 ⟨rfl, hX4, ht4⟩
     have hS := H2.out.1.step H3.out.1 H3.out.2 hX4 ht4 H.out.2.2
     have ht4' := HT3.out.trans (ht4.mono (fun _ h => .inr h))
     have p3 := HOP.out w4 ht4' 3
     have hO4 := H2.out.2.1.keep hS.2
     have HK := hid (kept_any _ _ gb ap c2 cp l (by omega) (by omega) w4 hO4.reads (HP.out w4 ht4'))
     have hE : (Sx.wrXE x i l != Sx.wrXE x i l) = false := by simp
     have H4 := hid (And.intro hS.1 (And.intro hO4 ht4'))
     clear hX4 ht4 ht4' hS hO4 r1 r3 HR HW HOP HP
     go_wp2_with fail
     refine HK.out.mono ?_
     rintro e w5 ⟨rfl, n5, rfl⟩
     have HS := hid (spoil_N 0 (some ⟨gb, 0, none⟩) c2 (lent l) (l.length + 5) (lent_length l) (by unfold maxLen; omega) (w4.drewN n5) (H4.out.2.1.own.drewN n5))
     clear HK
     go_wp2_with fail
     refine HS.out.mono ?_
     rintro e w6 ⟨rfl, hg6⟩
     have ht6 : Turned (fun k => Z k ∨ k = gb) (w4.drewN n5) w6 := Turned.ofGrown hg6 (fun k hk => by injection hk with hk; exact .inr hk.symm)
     have ht6' : Turned (fun k => k = gb) (w4.drewN n5) w6 := Turned.ofGrown hg6 (fun k hk => by injection hk with hk; exact hk.symm)
     have HF := hid (And.intro (((H4.out.1.drewN n5).keep ht6).mono (fun _ h => .inl h)) (((H.out.2.1.trans H4.out.2.2).drewN n5).then_ ht6' (fun k hk e => by subst e; have := HGB.out; omega)))
     clear hg6 ht6 ht6' HS
     go_wp2
     go_ret
     exact ⟨rfl, _, _, HF.out.1, HF.out.2⟩)

set_option maxRecDepth 100000 in
set_option maxHeartbeats 1600000 in
theorem both_crash (Z : Nat → Prop) (d : Dk) (g : Nat) (s : Sx.St) (x : Sx.Xs) (i j : Int) (al : Option Addr) (cl : Nat) (l : List Int) (hl : l.length ≤ 1024) (v0 : Value) (w : World) (h : DX w Z d g s x)
    (hp : ∀ w', Turned (own2 d g) w w' → IsInts w' w'.heap.size al l) :
    Calls Try.prog 12 #[.pointer (some ⟨d.g, 0, none⟩), .pointer (some ⟨g, 0, none⟩), .agg #[.int .i64 3, .int .i64 i, .int .i64 j, v0, .slice al l.length cl]] w (BothTo w Z d g) := by
  obtain ⟨w1, hw1⟩ : ∃ w1, w1 = w.alloc (.cells #[.int .i64 3, .int .i64 i, .int .i64 j, v0, .slice al l.length cl] 36) := ⟨_, rfl⟩
  have hb1 : Below w.heap.size w w1 := by rw [hw1]; exact (Below.refl _ w).alloc (Nat.le_refl _) _
  have ht1 : Turned (own2 d g) w w1 := Turned.ofBelow _ hb1
  have h1 : DX w1 Z d g s x := h.below hb1
  have hlt := own2_lt h
  have HL := hid (I.lent_any _ al cl l (by omega) w1 (hp w1 ht1) (Nat.le_refl _))
  have H := hid (And.intro h1 (And.intro ht1 (Sx.rel_crash h.rel l)))
  have HP : Hid (∀ w', Turned (own2 d g) w1 w' → IsInts w' w'.heap.size al l) := hid (fun w' h => hp w' (ht1.trans h))
  have HOP := hid (fun w2 ht k => op_cell (w2 := w2) hlt hw1 ht k)
  have HLT : Hid (∀ k, own2 d g k → k < w1.heap.size) := hid (own2_lt h1)
  rw [hw1] at HL H HP HOP HLT
  clear h h1 ht1 hb1 hlt hw1 hp
  go_enter Try.func12, Try.ntmps12
  go_wp2_with fail
  refine HL.out.mono ?_
  rintro e w2 ⟨gb, c2, rfl, ho2, hb2⟩
  have hgb := ho2.blkLt gb rfl
  have hcap := ho2.cap
  rw [I.lent_length] at hcap
  have hDX := H.out.1.below hb2
  have hne : ¬ own2 d g gb := fun e => by have := HLT.out gb e; omega
  have ht2 : Turned (own2 d g) _ w2 := (Turned.ofBelow (own2 d g) hb2)
  have q4 := HOP.out w2 ht2 4
  have hK : ∀ w', Turned (own2 d g) w2 w' → IsInts w' w'.heap.size (some ⟨gb, 0, none⟩) (I.lent l) := fun w' ht => by
    refine (OwnsI.reads (e := 3) (base := 0) (c := c2) ⟨ho2.small, (ho2.weaken (Nat.zero_le _)).row.1, ?_⟩)
    rcases (ho2.weaken (Nat.zero_le _)).row.2 with h0 | ⟨g', cap, cur, h1, h2, h3, h4⟩
    · exact .inl h0
    · refine .inr ⟨g', cap, cur, h1, h2, ?_, h4⟩
      injection h1 with h1
      injection h1 with h1
      injection h1 with h1
      subst h1
      rw [ht.block gb hgb.2 hne]
      exact h3
  have hC := crash_any _ d s (some ⟨gb, 0, none⟩) c2 l _ rfl w2 hDX.da (fun w' ht => by
    have h1 := (hK w' (ht.mono (fun _ h => .inl h))).take l.length
    rwa [I.take_lent] at h1)
  have HC := hid hC
  have H2 := hid (And.intro hDX (And.intro hK ht2))
  clear hC hDX hK ht2 ho2 hb2 hgb HL HLT hne
  go_wp2_with fail
  refine HC.out.mono ?_
  rintro e w3 ⟨rfl, hD3, ht3⟩
  have ht3' := H2.out.2.2.trans (ht3.mono (fun _ h => .inl h))
  have HR := hid (refCrash_any _ g x al cl l _ rfl w3 (fun k hk => Nat.lt_of_lt_of_le (H2.out.1.zx k hk) ht3.size) (H2.out.1.xafter ht3) (fun w' ht => HP.out w' (ht3'.trans (ht.mono (fun _ h => .inr h)))))
  have r4 := HOP.out w3 ht3' 4
  have H3 := hid (And.intro hD3 (And.intro ht3 ht3'))
  clear q4 ht3' hD3 ht3 HC
  go_wp2_with fail
  refine HR.out.mono ?_
  rintro e w4 ⟨rfl, hX4, ht4⟩
  have hS := H2.out.1.step H3.out.1 H3.out.2.1 hX4 ht4 H.out.2.2
  have ht4' := H3.out.2.2.trans (ht4.mono (fun _ h => .inr h))
  have p4 := HOP.out w4 ht4' 4
  have HK := hid (I.kept_any _ _ gb al c2 cl l (by omega) (by omega) w4 (H2.out.2.1 w4 hS.2) (HP.out w4 ht4'))
  have H4 := hid (And.intro hS.1 (H.out.2.1.trans ht4'))
  clear hX4 ht4 ht4' hS r4 HR HOP HP
  go_wp2_with fail
  refine HK.out.mono ?_
  rintro e w5 ⟨rfl, n5, rfl⟩
  clear HK
  go_wp2
  go_ret
  exact ⟨rfl, _, _, H4.out.1.drewN n5, H4.out.2.drewN n5⟩

/-- one thing with both disks -/
theorem both_any (Z : Nat → Prop) (d : Dk) (g : Nat) (s : Sx.St) (x : Sx.Xs) (t : Sx.Op) (ap al : Option Addr) (cp cl : Nat) (hi : InInt t.i) (hl : t.data.length ≤ 1024) (hl2 : t.lst.length ≤ 1024) (w : World) (h : DX w Z d g s x)
    (hp : ∀ w', Turned (own2 d g) w w' → IsBytes w' w'.heap.size ap t.data) (hq : ∀ w', Turned (own2 d g) w w' → IsInts w' w'.heap.size al t.lst) :
    Calls Try.prog 12 #[.pointer (some ⟨d.g, 0, none⟩), .pointer (some ⟨g, 0, none⟩), .agg #[.int .i64 t.kind, .int .i64 t.i, .int .i64 t.look, .slice ap t.data.length cp, .slice al t.lst.length cl]] w (BothTo w Z d g) := by
  by_cases k0 : t.kind = 0
  · rw [k0]; exact both_write Z d g s x t.i t.look ap cp t.data hl _ w h hp
  by_cases k1 : t.kind = 1
  · rw [k1]; exact both_flush Z d g s x t.i t.look _ _ w h
  by_cases k2 : t.kind = 2
  · rw [k2]; exact both_arm Z d g s x t.i t.look hi _ _ w h
  by_cases k3 : t.kind = 3
  · rw [k3]; exact both_crash Z d g s x t.i t.look al cl t.lst hl2 _ w h hq
  exact both_none Z d g s x t.kind t.i t.look k0 k1 k2 k3 _ _ w h
end Go.Proofs.Ytbfbnpbonoapnaa
