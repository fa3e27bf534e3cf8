/- Whatever is done with a disk, it answers, and its sectors are, as the document says; what is handed in is neither kept nor changed, what is told is new memory. Conditions: none. -/
import Derived.Test.YtbfbnpbonoapnaaRows
import Derived.Test.YtbfbnpbonoapnaaWorks04
import Derived.Test.YtbfbnpbonoapnaaBoth04
import Derived.Test.YtbfbnpbonoapnaaAll04
import Derived.WalkKit
import Derived.WalkLawsBesides
import Derived.ProofKit
import Derived.OpenShut
import Derived.ShutString
import Derived.ChangeOld
import Derived.Below
import Derived.SizedLaws
namespace Go.Proofs.Ytbfbnpbonoapnaa.sectorRuns
open Go.ChangeShapes Go.WideShapes Go.ChangeAt Go.RowKit
open Go.ChangeMaps (open_string shut_string)
set_option linter.unusedVariables false

theorem own : ownKnob Try.prog.godebug = none := by kernel_rfl
theorem laidOut : laidOutB Try.prog = true := by kernel_rfl

/-- both disks, which this call has made -/
structure DXS (w0 w : World) (d : Dk) (g : Nat) (s : Sx.St) (x : Sx.Xs) : Prop where
  dx : DX w (fun k => k < w0.heap.size) d g s x
  bel : Below w0.heap.size w0 w
theorem DXS.ge {w0 w : World} {d : Dk} {g : Nat} {s : Sx.St} {x : Sx.Xs} (h : DXS w0 w d g s x) : ∀ k, own2 d g k → w0.heap.size ≤ k := by
  rintro k (hk | rfl)
  · by_cases e : w0.heap.size ≤ k
    · exact e
    · exact absurd (Or.inl (by omega)) (h.dx.da.off k hk)
  · by_cases e : w0.heap.size ≤ k
    · exact e
    · exact absurd (Or.inl (by omega)) h.dx.xa.off
theorem DXS.next {w0 w w' : World} {d : Dk} {g : Nat} {s s' : Sx.St} {x x' : Sx.Xs} (h : DXS w0 w d g s x) (hd : DX w' (fun k => k < w0.heap.size) d g s' x') (ht : Turned (own2 d g) w w') : DXS w0 w' d g s' x' :=
  ⟨hd, h.bel.trans (ht.below h.bel.size h.ge)⟩
theorem DXS.below {w0 w w' : World} {d : Dk} {g : Nat} {s : Sx.St} {x : Sx.Xs} (h : DXS w0 w d g s x) (hb : Below w.heap.size w w') : DXS w0 w' d g s x :=
  ⟨h.dx.below hb, h.bel.trans (hb.mono h.bel.size)⟩
theorem dxs_new {w0 w1 w2 w3 : World} {d : Dk} {g n : Nat} (h1 : Below w0.heap.size w0 w1) (hd : DiskAt w2 (fun k => k < w1.heap.size) d (Sx.new n)) (h2 : Below w1.heap.size w1 w2) (hx : RefAt w3 (fun k => k < w2.heap.size) g (Sx.newX n)) (h3 : Below w2.heap.size w2 w3) : DXS w0 w3 d g (Sx.new n) (Sx.newX n) := by
  refine ⟨⟨(hd.shun.below h3).mono ?_, hx.mono ?_, ?_, Sx.rel_new n⟩, (h1.trans (h2.mono h1.size)).trans (h3.mono (Nat.le_trans h1.size h2.size))⟩
  · rintro k (hk | rfl)
    · exact .inl (Nat.lt_of_lt_of_le hk h1.size)
    · refine .inr ?_
      by_cases e : w2.heap.size ≤ k
      · exact e
      · exact absurd (show k < w2.heap.size by omega) hx.off
  · rintro k (hk | hk)
    · have hk : k < w0.heap.size := hk
      have := h1.size; have := h2.size; show k < w2.heap.size; omega
    · exact hd.lt k hk
  · intro k hk
    have := h1.size; have := h2.size; have := h3.size; omega
theorem both_dxs (w0 : World) (d : Dk) (g : Nat) (s : Sx.St) (x : Sx.Xs) (t : Sx.Op) (ap al : Option Addr) (cp cl : Nat) (hi : InInt t.i) (hl : t.data.length ≤ 1024 ∧ t.lst.length ≤ 1024) (w : World) (h : DXS w0 w d g s x) (hp : IsBytes w w0.heap.size ap t.data) (hq : IsInts w w0.heap.size al t.lst) :
    Calls Try.prog 12 #[.pointer (some ⟨d.g, 0, none⟩), .pointer (some ⟨g, 0, none⟩), .agg #[.int .i64 t.kind, .int .i64 t.i, .int .i64 t.look, .slice ap t.data.length cp, .slice al t.lst.length cl]] w fun e w' => e = .returned (.bool true) ∧ ∃ s' x', DXS w0 w' d g s' x' := by
  refine (both_any _ d g s x t ap al cp cl hi hl.1 hl.2 w h.dx (fun w' ht => ?_) (fun w' ht => ?_)).mono ?_
  · have hb := ht.below h.bel.size h.ge
    exact (hp.below hb).more (Nat.le_trans h.bel.size hb.size)
  · have hb := ht.below h.bel.size h.ge
    exact (hq.below hb).more (Nat.le_trans h.bel.size hb.size)
  · rintro e w' ⟨he, s', x', hd, ht⟩
    exact ⟨he, s', x', h.next hd ht⟩
theorem looks_dxs (w0 : World) (d : Dk) (g : Nat) (s : Sx.St) (x : Sx.Xs) (i : Int) (w : World) (h : DXS w0 w d g s x) :
    Calls Try.prog 13 #[.pointer (some ⟨d.g, 0, none⟩), .pointer (some ⟨g, 0, none⟩), .int .i64 i] w fun e w' => e = .returned (.bool true) ∧ DXS w0 w' d g s x :=
  (looks_any _ d g s x i w h.dx).mono fun _ _ ⟨he, _, hb⟩ => ⟨he, h.below hb⟩
set_option maxHeartbeats 1600000 in
set_option maxRecDepth 100000 in
theorem core (a0 : Int) (a1 : Option Addr) (cap1 : Nat) (l1 : List Sx.Op) (w : World)
    (b0 : -9223372036854775808 ≤ a0 ∧ a0 ≤ 9223372036854775807) (k1 : IsOps w w.heap.size a1 l1) :
    Calls Try.prog 3 #[.int .i64 a0, .slice a1 l1.length cap1] w fun e w' => e = .returned (.bool true) ∧ Below w.heap.size w w' := by
  have HL := hid (long_any w.heap.size a1 cap1 l1 w k1)
  go_enter Try.func3, Try.ntmps3
  go_wp2_with fail
  refine HL.out.mono ?_
  rintro e w2 ⟨rfl, n2, hw2⟩
  have hb2 : Below w.heap.size w w2 := by rw [hw2]; exact below_drewN (Below.refl _ _) n2
  have HB2 := hid hb2
  clear hb2 hw2 HL
  cases hlg : Sx.long l1
  · obtain ⟨hlen, hls⟩ := Sx.long_iff.1 hlg
    have HLS := hid hls
    clear hlg hls
    by_cases hn : 1 ≤ a0 ∧ a0 ≤ 16384
    · obtain ⟨n, rfl⟩ := Int.eq_ofNat_of_zero_le (show 0 ≤ a0 by omega)
      have HN := hid (show 1 ≤ n ∧ n ≤ 16384 by omega)
      clear hn
      go_wp2_with fail
      refine (new_any n HN.out w2).mono ?_
      rintro e w3 ⟨d, rfl, hd3, hb3⟩
      have H3 := hid (And.intro hd3 hb3)
      clear hd3 hb3
      go_wp2_with fail
      refine (refNew_any n HN.out w3).mono ?_
      rintro e w4 ⟨g, rfl, hx4, hb4⟩
      have HS : Hid (∃ s x, DXS w w4 d g s x) := hid ⟨_, _, dxs_new HB2.out H3.out.1 H3.out.2 hx4 hb4⟩
      clear hx4 hb4 H3 HB2 HN
      go_wp2_with fail
      go_loopw [9] (fun i wr => ∃ k : Nat, k ≤ l1.length ∧ i = .int .i64 k ∧ Hid (∃ s x, DXS w wr d g s x)) (fun i _ => l1.length - (RowKit.intOf i).toNat)
      case atStart => exact ⟨0, by omega, rfl, HS⟩
      case round =>
        clear HS
        obtain ⟨k, hk, rfl, hS⟩ := hrel
        obtain ⟨s, x, hS'⟩ := hS.out
        have HS := hid hS'
        clear hS hS'
        by_cases hlt : k < l1.length
        · obtain ⟨b, off, rfl, hbB, hc⟩ := (k1.below HS.out.bel).cells k hlt
          obtain ⟨ap, cp, al, cl, c0, c1, c2, c3, c4, hp, hl, _, _, hcp, _, _, hi, _⟩ := hc k hlt
          have HC := hid (both_dxs w d g s x l1[k] ap al cp cl hi (HLS.out _ (List.getElem_mem hlt)) wr HS.out hp hl)
          have HO := hid (fun (w' : World) (hb : Below w.heap.size w w') => show w'.cell? ⟨b, off + k * 5 + 1, none⟩ = some (.int .i64 l1[k].i) ∧ w'.cell? ⟨b, off + k * 5 + 2, none⟩ = some (.int .i64 l1[k].look) by
            obtain ⟨b', off', e, _, hc'⟩ := (k1.below hb).cells k hlt
            obtain ⟨rfl, rfl⟩ : b = b' ∧ off = off' := by injection e with e; injection e with h1 h2; exact ⟨h1, h2⟩
            obtain ⟨_, _, _, _, _, e1, e2, _⟩ := hc' k hlt
            exact ⟨e1, e2⟩)
          have hk0 : (k : Int) < (l1.length : Int) := by omega
          clear hc hp hl hi k1 hbB hcp
          go_wp2_with fail
          refine HC.out.mono ?_
          rintro e w5 ⟨rfl, s', x', hD5⟩
          obtain ⟨e1, e2⟩ := HO.out w5 hD5.bel
          have HLk := hid (looks_dxs w d g s' x' l1[k].look w5 hD5)
          clear hD5 HC
          go_wp2_with fail
          refine HLk.out.mono ?_
          rintro e w6 ⟨rfl, hD6⟩
          obtain ⟨r1, r2⟩ := HO.out w6 hD6.bel
          have HLi := hid (looks_dxs w d g s' x' l1[k].i w6 hD6)
          clear hD6 HLk e1 e2 c0 c1 c2 c3 c4
          go_wp2_with fail
          refine HLi.out.mono ?_
          rintro e w7 ⟨rfl, hD7⟩
          have HD7 : Hid (∃ s x, DXS w w7 d g s x) := hid ⟨_, _, hD7⟩
          clear hD7 HLi r1 r2 HO
          go_wp2_with fail
          go_roundw
          case rel => exact ⟨k + 1, by omega, by go_num, HD7⟩
          case measure => simp [RowKit.intOf]; omega
        · obtain rfl : k = l1.length := by omega
          have HC := hid (all_any _ d g s x wr HS.out.dx)
          go_wp2_with fail
          refine HC.out.mono ?_
          rintro e w5 ⟨rfl, hD5, hb5⟩
          have HB5 := hid (HS.out.below hb5).bel
          clear hD5 hb5 HC HS
          go_wp2_with fail
          refine (works_any w5).mono ?_
          rintro e w6 ⟨rfl, hb6⟩
          have HB6 := hid (HB5.out.trans (hb6.mono HB5.out.size))
          clear hb6 HB5
          go_wp2_with fail
          go_ret
          exact ⟨rfl, HB6.out⟩
    · have hn : a0 < 1 ∨ 16384 < a0 := by omega
      go_wp2_with fail
      refine (new_err a0 hn w2).mono ?_
      rintro e w3 ⟨rfl, rfl⟩
      go_wp2_with fail
      refine (refNew_err a0 hn w3).mono ?_
      rintro e w4 ⟨rfl, rfl⟩
      go_wp2_with fail
      refine (works_any w4).mono ?_
      rintro e w5 ⟨rfl, hb5⟩
      have HB5 := hid (HB2.out.trans (hb5.mono HB2.out.size))
      clear hb5
      go_wp2_with fail
      go_ret
      exact ⟨rfl, HB5.out⟩
  · go_wp2_with fail
    refine (works_any w2).mono ?_
    rintro e w5 ⟨rfl, hb5⟩
    have HB5 := hid (HB2.out.trans (hb5.mono HB2.out.size))
    clear hb5
    go_wp2_with fail
    go_ret
    exact ⟨rfl, HB5.out⟩
theorem walk (a0 : Int) (a1 : Option Addr) (cap1 : Nat) (l1 : List Sx.Op) (w : World)
    (b0 : -9223372036854775808 ≤ a0 ∧ a0 ≤ 9223372036854775807) (k1 : IsOps w w.heap.size a1 l1) (n1 : l1.length ≤ cap1) (r1 : cap1 ≤ maxLen) (z1 : a1 = none → cap1 = 0) :
    Calls Try.prog 3 #[.int .i64 a0, .slice a1 l1.length cap1] w fun e w' => e = .returned (.bool true) ∧ Below w.heap.size w w' :=
  core a0 a1 cap1 l1 w b0 k1

set_option maxRecDepth 100000 in
theorem lifted (os : Os) (started : os.Started) (H : Type) (enc : TypeId × Value → H) :
    ReturnsInHanded {} Try.checked os 3 .any (Rows.sectorRunsSpec.pre6 enc Try.prog Try.f3 Rows.sectorRunsRow.domain false) (Rows.sectorRunsSpec.post enc Try.prog Try.f3 false true false false) := by
  refine returnsInHanded_of_change_sized (C := Try.checked) own started (by kernel_rfl) Try.func3
    (ChangeSpec.witness6 (enc := enc) (C := Try.checked) false ⟨#[], #[.int .i64 0, .slice none 0 0], []⟩ 8 (by kernel_rfl) (by kernel_rfl) (by kernel_rfl) (by kernel_rfl)) ?_
  intro W base args ds gs before hval0 hW hcnd hsz0 _
  have hsz : (DataW.weightsEach Try.prog (Try.f3.params.toList ++ Rows.sectorRunsSpec.plain.varTypes Try.prog) (ds ++ gs)).all (· ≤ reachBytes) = true := hsz0
  clear hsz0
  have hval : ∀ (j : Nat) t v, Try.f3.params[j]? = some t → args[j]? = some v → Value.okWide Try.prog W .any base t v := hval0
  have hW' := hW
  obtain ⟨p, q, hA0, hV, rfl, hfz, hnd⟩ := hW
  have hA : DataW.TrodAll enc Try.prog W 0 (fun _ => true) true Try.f3.params.toList args.toList ds p := hA0
  rw [Try.params3] at hA hval hsz
  obtain ⟨v0, vs0, d0, ds0, p0, q0, hargs, rfl, rfl, g0, t0⟩ := trodAll_cons hA
  obtain ⟨v1, vs1, d1, ds1, p1, q1, rfl, rfl, rfl, g1, t1⟩ := trodAll_cons t0
  obtain ⟨rfl, rfl, rfl⟩ := trodAll_nil t1
  obtain rfl : args = #[v0, v1] := by cases args; simp_all
  obtain ⟨rfl, rfl⟩ := trodVars_none hV
  obtain ⟨a0, rfl, rfl, rfl, w0⟩ := open_int Try.underlying3 (hval 0 3 v0 rfl rfl) g0
  have b0 := bounds_i64 w0
  obtain ⟨a1, len1, cap1, rfl⟩ := okWide_slice Try.underlying22 (hval 1 22 v1 rfl rfl)
  have m1 := g1
  have lt1 : ∀ x ∈ p1, x.block < W.heap.size := by obtain ⟨m, hm⟩ := m1; exact DataW.trod_lt m _ _ _ hm
  obtain ⟨l1, k1, rfl, n1, r1, z1⟩ : ∃ l, IsOps W W.heap.size a1 l ∧ len1 = l.length ∧ l.length ≤ cap1 ∧ cap1 ≤ maxLen ∧ (a1 = none → cap1 = 0) := by
    obtain ⟨fuel, hf⟩ := g1
    obtain ⟨a, c, ts, hcs, h1, h2, h3⟩ := ops_of_trod hf
    simp [Value.cells] at hcs
    obtain ⟨rfl, rfl, rfl⟩ := hcs
    exact ⟨ts, h1, rfl, h2.1, h2.2, h3⟩
  clear hA0 hval0
  refine (walk a0 a1 cap1 l1 W b0 k1 n1 r1 z1).mono fun e W' ⟨he, bel⟩ => ?_
  subst he
  exact ⟨_, rfl, _, _, _, [], _, [], hW', trodAll_mk1 (shut_bool Try.underlying4 _), (trodAll_cons_mk (shut_int Try.underlying3 w0) (trodAll_cons_mk (Below.trod laidOut (by kernel_rfl) (of_decide_eq_true (by kernel_rfl)) m1 bel lt1) trodAll_mk0)), rfl, bel.frame _, fun h => by cases h⟩

theorem over : Rows.sectorRunsRow.holds Try.pinned (OpenSpec.ofChange Rows.sectorRunsSpec) :=
  OpenClaim.holds_of_wide 3 Try.f3 rfl rfl rfl rfl rfl rfl rfl ⟨rfl, rfl, rfl, rfl, rfl⟩ rfl rfl rfl rfl rfl (by kernel_rfl) Try.func3 (by kernel_rfl)
    (of_decide_eq_true (by kernel_rfl)) (by unfold Func.isWrapper; first | (rw [if_pos (by decide +kernel)]; kernel_rfl) | (rw [if_neg (by decide +kernel)]; exact ⟨rfl, rfl⟩))
    (fun os started H enc _ => lifted os started H enc)

theorem proved : Rows.SectorRunsSaid := over
end Go.Proofs.Ytbfbnpbonoapnaa.sectorRuns
