/- Whatever is sent, taken, lost, doubled, turned, cut and joined, a post answers, and has under way, what the document says; what is handed in is neither kept nor changed, what is told is new memory. Conditions: none. -/
import Derived.Test.YtckfjkhjnpkobaaRows
import Derived.Test.YtckfjkhjnpkobaaWorks06
import Derived.Test.YtckfjkhjnpkobaaBothC06
import Derived.Test.YtckfjkhjnpkobaaSpoilPk
import Derived.Deep.RegionWith
import Derived.WalkKit
import Derived.WalkLawsBesides
import Derived.ProofKit
import Derived.OpenShut
import Derived.ShutString
import Derived.ChangeOld
import Derived.Below
import Derived.SizedLaws
namespace Go.Proofs.Ytckfjkhjnpkobaa.postRuns
open Go.ChangeShapes Go.WideShapes Go.ChangeAt Go.RowKit
open Go.ChangeMaps (open_string shut_string)
set_option linter.unusedVariables false

theorem own : ownKnob Try.prog.godebug = none := by kernel_rfl
theorem laidOut : laidOutB Try.prog = true := by kernel_rfl

theorem twoKeep {w w' : World} {Z S : Nat → Prop} {g h : Nat} {s1 s2 : Po.St} (hT : TwoS w Z g h s1 s2) (ht : Turned S w w') (hs : ∀ k, S k → Z k) : TwoS w' Z g h s1 s2 := by
  obtain ⟨F, G, hP, hR, h1, h2, h3⟩ := hT
  exact ⟨F, G, hP.keep ht (fun k hk e => h2 k hk (hs k e)), hR.keep ht (fun k hk e => h3 k hk (hs k e)), h1, h2, h3⟩
theorem len_T {w : World} {Z : Nat → Prop} {g h : Nat} {s : Po.St} (hT : TwoS w Z g h s s) :
    Calls Try.prog 12 #[.pointer (some ⟨g, 0, none⟩)] w fun e w' => e = .returned (.int .i64 (s.l.length : Nat)) ∧ w' = w := by
  obtain ⟨F, G, hP, _⟩ := hT
  exact len_any F g s w hP
theorem ref_T {w : World} {Z : Nat → Prop} {g h : Nat} {s : Po.St} (hT : TwoS w Z g h s s) : ∃ A1 c1, w.cell? ⟨h, 0, none⟩ = some (.slice A1 s.l.length c1) ∧ IsPks w A1 (s.l.map fun q => q.1) ∧ s.l.length ≤ 256 ∧ h < w.heap.size := by
  obtain ⟨F, G, hP, ⟨L, A1, c1, A2, c2, C, A3, c3, A4, c4, hI, hs, hc⟩, _⟩ := hT
  have hp : PksAt w G A1 c1 L := ⟨hI.lt, hI.row, hI.byt⟩
  refine ⟨A1, c1, ?_, ?_, ?_, hI.lt h hI.has⟩
  · rw [hs, List.length_map]; exact hI.cells.1
  · have e : (s.l.map fun q => q.1) = pks L := by rw [hs, List.map_map]; rfl
    rw [e]
    exact hp.reads
  · rw [hs, List.length_map]; exact hI.len
theorem all_T {w : World} {Z : Nat → Prop} {g h : Nat} {s : Po.St} (hT : TwoS w Z g h s s) :
    Calls Try.prog 13 #[.pointer (some ⟨g, 0, none⟩)] w fun e w' => ∃ A2 c2, e = .returned (.slice A2 s.l.length c2) ∧ Below w.heap.size w w' ∧
      ∃ F2 L2, PksAt w' F2 A2 c2 L2 ∧ pks L2 = s.l.map (fun q => q.1) ∧ ∀ k, F2 k → w.heap.size ≤ k := by
  obtain ⟨F, G, hP, _⟩ := hT
  exact all_any F g s w hP
/-- both posts, which this call has made -/
def Pair (w0 w : World) (g h : Nat) (s : Po.St) : Prop := TwoS w (fun k => k < w0.heap.size) g h s s ∧ Below w0.heap.size w0 w
theorem pair_new {w0 w1 : World} (hP : PostAt w1 (fun k => k = w0.heap.size) w0.heap.size Po.new) (hb : Below w0.heap.size w0 w1) :
    Pair w0 (w1.alloc (.cells #[.slice none 0 0, .slice none 0 0, .slice none 0 0, .slice none 0 0] 32)) w0.heap.size w1.heap.size Po.new := by
  have hb2 : Below w1.heap.size w1 (w1.alloc (.cells #[.slice none 0 0, .slice none 0 0, .slice none 0 0, .slice none 0 0] 32)) := (Below.refl _ w1).alloc (Nat.le_refl _) _
  have hlt := hP.lt w0.heap.size rfl
  refine ⟨⟨fun k => k = w0.heap.size, fun k => k = w1.heap.size, hP.below hb2, ⟨[], none, 0, none, 0, [], none, 0, none, 0, ⟨fun k hk => by rw [hk]; simp, rfl, heap_alloc_new w1 _, RowIn.nil (f := cellsP) (fun _ => rfl) _ _ _, RowIn.nil (f := cellsB) (fun _ => rfl) _ _ _, RowIn.nil (f := cells1) (fun _ => rfl) _ _ _, RowIn.nil (f := cells2) (fun _ => rfl) _ _ _, (fun _ e => by cases e), BytesIn.nil _ _, by simp, by simp⟩, rfl, rfl⟩,
    (fun k hk e => by rw [hk] at e; omega), (fun k hk e => by omega), (fun k hk e => by omega)⟩, hb.trans (hb2.mono hb.size)⟩
theorem Pair.below {w0 w w' : World} {g h : Nat} {s : Po.St} (hp : Pair w0 w g h s) (hb : Below w.heap.size w w') : Pair w0 w' g h s := ⟨hp.1.below hb, hp.2.trans (hb.mono hp.2.size)⟩
theorem both_P (w0 : World) (g h : Nat) (s : Po.St) (t : Po.Op) (ap : Option Addr) (cp : Nat) (hb : InInt t.b) (hl : t.d.length ≤ 1024) (w : World) (hT : Pair w0 w g h s) (hp : IsBytes w w0.heap.size ap t.d) :
    Calls Try.prog 11 #[.pointer (some ⟨g, 0, none⟩), .pointer (some ⟨h, 0, none⟩), .agg #[.int .i64 t.kind, .int .i64 t.a, .int .i64 t.b, .slice ap t.d.length cp]] w fun e w' => e = .returned (.bool true) ∧ Pair w0 w' g h (Po.step s t) := by
  refine (both_any _ g h s t ap cp hb hl w hT.1 (fun k hk => Nat.lt_of_lt_of_le hk hT.2.size) (fun w' ht => ?_)).mono ?_
  · have hb := ht.below (B := w0.heap.size) hT.2.size (fun k hk => Nat.le_of_not_lt hk)
    exact (hp.below hb).more (Nat.le_trans hT.2.size hb.size)
  · rintro e w' ⟨he, h1, h2⟩
    exact ⟨he, h1, hT.2.trans (h2.below (B := w0.heap.size) hT.2.size (fun k hk => Nat.le_of_not_lt hk))⟩

theorem pair_spoil {w0 w4 w7 w8 : World} {F2 : Nat → Prop} {g h : Nat} {s : Po.St} (hp : Pair w0 w4 g h s) (hb : Below w4.heap.size w4 w7) (ht : Turned F2 w7 w8) (hF : ∀ k, F2 k → w4.heap.size ≤ k) : Pair w0 w8 g h s :=
  ⟨(twoKeep ((hp.1.shun).below hb) ht (fun k hk => .inr (hF k hk))).mono (fun k hk => .inl hk), hp.2.trans ((hb.mono hp.2.size).trans (ht.below (Nat.le_trans hp.2.size hb.size) (fun k hk => Nat.le_trans hp.2.size (hF k hk))))⟩
theorem spoilPks_N (F : Nat → Prop) (A : Option Addr) (c n : Nat) (L : List (Pl × Bool)) (hn : L.length = n) (hL : n ≤ 100000) (w : World) (h : PksAt w F A c L) :
    Calls Try.prog 15 #[.slice A n c] w fun e w' => e = .returned (.tuple #[]) ∧ Turned F w w' := by
  subst hn; exact spoilPks_any F A c L hL w h
theorem same_all {w6 : World} {A1 A2 : Option Addr} {c2 d1 : Nat} {s : Po.St} {F2 : Nat → Prop} {L2 : List (Pl × Bool)} (hPk : PksAt w6 F2 A2 c2 L2) (hpk : pks L2 = s.l.map (fun q => q.1)) (rp : IsPks w6 A1 (s.l.map fun q => q.1)) (rl : s.l.length ≤ 256) :
    Calls Try.prog 14 #[.slice A2 s.l.length c2, .slice A1 s.l.length d1] w6 fun e w' => e = .returned (.bool true) ∧ Below w6.heap.size w6 w' := by
  have := pks_same A2 A1 c2 d1 s.l.length s.l.length (pks L2) (s.l.map fun q => q.1) (by rw [hpk, List.length_map]) (by rw [List.length_map]) (by omega) w6 hPk.reads rp
  rw [decide_eq_true hpk] at this
  exact this

set_option maxHeartbeats 3200000 in
set_option maxRecDepth 100000 in
theorem core (a0 : Option Addr) (cap0 : Nat) (l0 : List Po.Op) (w : World) (k0 : IsOps w w.heap.size a0 l0) :
    Calls Try.prog 3 #[.slice a0 l0.length cap0] w fun e w' => e = .returned (.bool true) ∧ Below w.heap.size w w' := by
  have HK := hid k0
  have HL := hid (long_any w.heap.size a0 cap0 l0 w k0)
  clear k0
  go_enter Try.func3, Try.ntmps3
  cases hlg : Po.long l0
  · obtain ⟨hlen, hds⟩ := Po.long_iff.1 hlg
    have HDS := hid (And.intro hlen hds)
    rw [hlg] at HL
    clear hlg hds
    go_wp2_with fail
    refine HL.out.mono ?_
    rintro e w1 ⟨rfl, hw1⟩
    subst hw1
    go_wp2_with fail
    refine (new_any w1).mono ?_
    rintro e w2 ⟨rfl, hP2, hb2⟩
    have HS : Hid (∃ s, Pair w1 (w2.alloc (.cells #[.slice none 0 0, .slice none 0 0, .slice none 0 0, .slice none 0 0] 32)) w1.heap.size w2.heap.size s) := hid ⟨_, pair_new hP2 hb2⟩
    clear hP2 hb2 HL
    go_wp2_with fail
    go_loopw [5] (fun i wr => ∃ k : Nat, k ≤ l0.length ∧ i = .int .i64 k ∧ Hid (∃ s, Pair w1 wr w1.heap.size w2.heap.size s)) (fun i _ => l0.length - (RowKit.intOf i).toNat)
    case atStart => exact ⟨0, by omega, rfl, HS⟩
    case round =>
      clear HS
      obtain ⟨k, hk, rfl, hS⟩ := hrel
      obtain ⟨s, hPs⟩ := hS.out
      have HPs := hid hPs
      clear hS hPs
      by_cases hlt : k < l0.length
      · obtain ⟨b, off, rfl, hbB, hc⟩ := (HK.out.below HPs.out.2).cells k hlt
        obtain ⟨ap, cp, c0, c1, c2, c3, hp, _, _, _, _, hib⟩ := hc k hlt
        have c0W : wr.drew.cell? ⟨b, off + k * 4, none⟩ = some (.int .i64 l0[k].kind) := c0
        have c1W : wr.drew.cell? ⟨b, off + k * 4 + 1, none⟩ = some (.int .i64 l0[k].a) := c1
        have c2W : wr.drew.cell? ⟨b, off + k * 4 + 2, none⟩ = some (.int .i64 l0[k].b) := c2
        have c3W : wr.drew.cell? ⟨b, off + k * 4 + 3, none⟩ = some (.slice ap l0[k].d.length cp) := c3
        have HC := hid (both_P w1 _ _ s l0[k] ap cp hib (HDS.out.2 _ (List.getElem_mem hlt)) wr.drew (HPs.out.below (Below.refl _ wr).drew) (hp.drewN 1))
        have hk00 : (k : Int) < (l0.length : Int) := by omega
        obtain ⟨s', hs'⟩ : ∃ s', s' = Po.step s l0[k] := ⟨_, rfl⟩
        rw [← hs'] at HC
        clear hc hbB hp hib c0 c1 c2 c3 hs'
        go_wp2_with fail
        go_region_with (first
          | (go_at_call 11; refine HC.out.mono ?_; rintro e w4 ⟨rfl, hp4⟩; obtain ⟨A1, d1, r0, rp, rl, rh⟩ := ref_T hp4.1)
          | (go_at_call 12; refine (len_T hp4.1).mono ?_; rintro e w5 ⟨rfl, hw5⟩; subst hw5))
        all_goals
          (have H4 := hid (And.intro hp4 (And.intro r0 (And.intro rp (And.intro rl rh))))
           clear hp4 r0 rp rl rh HC HPs c0W c1W c2W c3W
           go_wp2_with fail
           refine (all_T H4.out.1.1).mono ?_
           rintro e w6 ⟨A2, e2, rfl, hb6, F2, L2, hPk, hpk, hF2⟩
           have q0 := (hb6.cell (p := ⟨w2.heap.size, 0, none⟩) H4.out.2.2.2.2).trans H4.out.2.1
           have HSa := hid (same_all (d1 := d1) hPk hpk (H4.out.2.2.1.below hb6) H4.out.2.2.2.1)
           have H6 := hid (And.intro hb6 (And.intro hPk (And.intro hpk hF2)))
           clear hb6 hPk hpk hF2
           go_wp2_with fail
           refine HSa.out.mono ?_
           rintro e w7 ⟨rfl, hb7⟩
           have hln : L2.length = s'.l.length := by have := congrArg List.length H6.out.2.2.1; rw [pks_length, List.length_map] at this; exact this
           have HSp := hid (spoilPks_N F2 A2 e2 s'.l.length L2 hln (by have := H4.out.2.2.2.1; omega) w7 (H6.out.2.1.below hb7))
           have H7 := hid hb7
           clear hb7 q0 hln HSa
           go_wp2_with fail
           refine HSp.out.mono ?_
           rintro e w8 ⟨rfl, ht8⟩
           have H8 : Hid (∃ s, Pair w1 w8 w1.heap.size w2.heap.size s) := hid ⟨s', pair_spoil H4.out.1 (H6.out.1.trans (H7.out.mono H6.out.1.size)) ht8 H6.out.2.2.2⟩
           clear ht8 HSp H4 H6 H7
           go_wp2_with fail
           go_roundw
           case rel => exact ⟨k + 1, by omega, by go_num, H8⟩
           case measure => simp [RowKit.intOf]; omega)
      · obtain rfl : k = l0.length := by omega
        have hkk : ¬ (l0.length : Int) < (l0.length : Int) := by omega
        obtain ⟨A1, d1, r0, rp, rl, rh⟩ := ref_T HPs.out.1
        have r0W : wr.drew.cell? ⟨w2.heap.size, 0, none⟩ = some (.slice A1 s.l.length d1) := r0
        have HAl := hid (all_T (HPs.out.below (Below.refl _ wr).drew).1)
        have HRf := hid (And.intro r0 (And.intro rp (And.intro rl rh)))
        clear hlt r0 rp rl rh
        go_wp2_with fail
        go_region_with (first
          | (go_at_call 13; refine HAl.out.mono ?_; rintro e w6 ⟨A2, e2, rfl, hb6', F2, L2, hPk, hpk, hF2⟩; have hb6 := (Below.refl _ wr).drew.trans hb6'; have q0 := (hb6.cell (p := ⟨w2.heap.size, 0, none⟩) HRf.out.2.2.2).trans HRf.out.1; clear hb6')
          | (go_at_call 14; refine (same_all hPk hpk (HRf.out.2.1.below hb6) HRf.out.2.2.1).mono ?_; rintro e w7 ⟨rfl, hb7⟩)
          | (go_at_call 9; refine (works_any w7).mono ?_; rintro e w8 ⟨rfl, hb8⟩))
        all_goals
          (have HF : Hid (Below w1.heap.size w1 w8) := hid (HPs.out.2.trans (((hb6.trans (hb7.mono hb6.size)).trans (hb8.mono (Nat.le_trans hb6.size hb7.size))).mono HPs.out.2.size))
           clear hb6 hb7 hb8 hPk hpk hF2 q0 HAl HRf HPs
           go_wp2_with fail
           go_ret
           exact ⟨rfl, HF.out⟩)
  · rw [hlg] at HL
    clear hlg
    go_wp2_with fail
    refine HL.out.mono ?_
    rintro e w1 ⟨rfl, hw1⟩
    subst hw1
    go_wp2_with fail
    refine (works_any w1).mono ?_
    rintro e w2 ⟨rfl, hb2⟩
    have HB := hid hb2
    clear hb2
    go_wp2_with fail
    go_ret
    exact ⟨rfl, HB.out⟩
theorem walk (a0 : Option Addr) (cap0 : Nat) (l0 : List Po.Op) (w : World)
    (k0 : IsOps w w.heap.size a0 l0) (n0 : l0.length ≤ cap0) (r0 : cap0 ≤ maxLen) (z0 : a0 = none → cap0 = 0) :
    Calls Try.prog 3 #[.slice a0 l0.length cap0] w fun e w' => e = .returned (.bool true) ∧ Below w.heap.size w w' :=
  core a0 cap0 l0 w k0

set_option maxRecDepth 100000 in
theorem lifted (os : Os) (started : os.Started) (H : Type) (enc : TypeId × Value → H) :
    ReturnsInHanded {} Try.checked os 3 .any (Rows.postRunsSpec.pre6 enc Try.prog Try.f3 Rows.postRunsRow.domain false) (Rows.postRunsSpec.post enc Try.prog Try.f3 false true false false) := by
  refine returnsInHanded_of_change_sized (C := Try.checked) own started (by kernel_rfl) Try.func3
    (ChangeSpec.witness6 (enc := enc) (C := Try.checked) false ⟨#[], #[.slice none 0 0], []⟩ 8 (by kernel_rfl) (by kernel_rfl) (by kernel_rfl) (by kernel_rfl)) ?_
  intro W base args ds gs before hval0 hW hcnd hsz0 _
  have hsz : (DataW.weightsEach Try.prog (Try.f3.params.toList ++ Rows.postRunsSpec.plain.varTypes Try.prog) (ds ++ gs)).all (· ≤ reachBytes) = true := hsz0
  clear hsz0
  have hval : ∀ (j : Nat) t v, Try.f3.params[j]? = some t → args[j]? = some v → Value.okWide Try.prog W .any base t v := hval0
  have hW' := hW
  obtain ⟨p, q, hA0, hV, rfl, hfz, hnd⟩ := hW
  have hA : DataW.TrodAll enc Try.prog W 0 (fun _ => true) true Try.f3.params.toList args.toList ds p := hA0
  rw [Try.params3] at hA hval hsz
  obtain ⟨v0, vs0, d0, ds0, p0, q0, hargs, rfl, rfl, g0, t0⟩ := trodAll_cons hA
  obtain ⟨rfl, rfl, rfl⟩ := trodAll_nil t0
  obtain rfl : args = #[v0] := by cases args; simp_all
  obtain ⟨rfl, rfl⟩ := trodVars_none hV
  obtain ⟨a0, len0, cap0, rfl⟩ := okWide_slice Try.underlying22 (hval 0 22 v0 rfl rfl)
  have m0 := g0
  have lt0 : ∀ x ∈ p0, x.block < W.heap.size := by obtain ⟨m, hm⟩ := m0; exact DataW.trod_lt m _ _ _ hm
  obtain ⟨l0, k0, rfl, n0, r0, z0⟩ : ∃ l, IsOps W W.heap.size a0 l ∧ len0 = l.length ∧ l.length ≤ cap0 ∧ cap0 ≤ maxLen ∧ (a0 = none → cap0 = 0) := by
    obtain ⟨fuel, hf⟩ := g0
    obtain ⟨a, c, ts, hcs, h1, h2, h3⟩ := ops_of_trod hf
    simp [Value.cells] at hcs
    obtain ⟨rfl, rfl, rfl⟩ := hcs
    exact ⟨ts, h1, rfl, h2.1, h2.2, h3⟩
  clear hA0 hval0
  refine (walk a0 cap0 l0 W k0 n0 r0 z0).mono fun e W' ⟨he, bel⟩ => ?_
  subst he
  exact ⟨_, rfl, _, _, _, [], _, [], hW', trodAll_mk1 (shut_bool Try.underlying4 _), (trodAll_cons_mk (Below.trod laidOut (by kernel_rfl) (of_decide_eq_true (by kernel_rfl)) m0 bel lt0) trodAll_mk0), rfl, bel.frame _, fun h => by cases h⟩

theorem over : Rows.postRunsRow.holds Try.pinned (OpenSpec.ofChange Rows.postRunsSpec) :=
  OpenClaim.holds_of_wide 3 Try.f3 rfl rfl rfl rfl rfl rfl rfl ⟨rfl, rfl, rfl, rfl, rfl⟩ rfl rfl rfl rfl rfl (by kernel_rfl) Try.func3 (by kernel_rfl)
    (of_decide_eq_true (by kernel_rfl)) (by unfold Func.isWrapper; first | (rw [if_pos (by decide +kernel)]; kernel_rfl) | (rw [if_neg (by decide +kernel)]; exact ⟨rfl, rfl⟩))
    (fun os started H enc _ => lifted os started H enc)

theorem proved : Rows.PostRunsSaid := over
end Go.Proofs.Ytckfjkhjnpkobaa.postRuns
