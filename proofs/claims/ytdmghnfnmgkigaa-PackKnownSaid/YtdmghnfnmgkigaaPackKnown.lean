/- The examples of the chapter, counts and lengths about their ends, are as the document says. Conditions: none. -/
import Derived.Test.YtdmghnfnmgkigaaRows
import Derived.Test.YtdmghnfnmgkigaaPackPuts
import Derived.Test.YtdmghnfnmgkigaaPackReads
import Derived.Test.YtdmghnfnmgkigaaPackBack
import Derived.Test.YtdmghnfnmgkigaaPackCut
import Derived.Test.YtdmghnfnmgkigaaKitRow
import Derived.Deep.RegionHeld3
import Derived.Deep.MidRow
import Derived.WalkKit
import Derived.WalkLawsBesides
import Derived.ProofKit
import Derived.OpenShut
import Derived.ShutString
import Derived.ChangeOld
import Derived.Below
import Derived.SizedLaws
namespace Go.Proofs.Ytdmghnfnmgkigaa.packKnown
open Go.ChangeShapes Go.WideShapes Go.ChangeAt Go.RowKit
open Go.ChangeMaps (open_string shut_string)
set_option linter.unusedVariables false

theorem own : ownKnob Try.prog.godebug = none := by kernel_rfl
theorem laidOut : laidOutB Try.prog = true := by kernel_rfl

theorem info_u8' : (Try.prog.info? 5).map (fun i => (i.zero, i.size, i.bytes)) = some (some (.int .u8 0), 1, 1) := by kernel_rfl
def sixteen : List Int := [-9223372036854775808, -1, 0, 1, 2, 7, 8, 9, 255, 256, 1099511627776, 1152921504606846975, 1152921504606846976, 2305843009213693951, 2305843009213693952, 9223372036854775807]
theorem sixteen_length : sixteen.length = 16 := rfl
theorem sixteen_in : ∀ v ∈ sixteen, InInt v := by
  intro v hv
  simp only [sixteen, List.mem_cons, List.not_mem_nil, or_false] at hv
  unfold InInt
  omega
theorem packInt_nil (v : Int) (hv : InInt v) (w : World) :
    Calls Try.prog 12 #[.slice none 0 0, .int .i64 v] w fun e w' => ∃ A' c', e = .returned (.slice A' 8 c') ∧ OwnsB 5 w' w.heap.size A' c' (Pk.enc v) ∧ Below w.heap.size w w' :=
  packInt_any 0 none 0 [] v hv (by simp) w IsBytes.nil (Nat.zero_le _) (fun _ => rfl)
theorem copy_eight (A : Option Addr) (c : Nat) (v : Int) (B : Nat) (w : World) (h : IsBytes w B A (Pk.enc v)) (hB : B ≤ w.heap.size) :
    Calls Try.prog 32 #[.slice A 8 c] w fun e w' => ∃ A' c', e = .returned (.slice A' 8 c') ∧ OwnsB 5 w' w.heap.size A' c' (Pk.enc v) ∧ Below w.heap.size w w' := by
  have C := copy_any B A c (Pk.enc v) (by rw [Pk.enc_length]; omega) w h hB
  rw [Pk.enc_length] at C
  exact C
/-- PackReads over bytes that lie anywhere, and a list that the text spells out -/
theorem reads_lit (A : Option Addr) (c : Nat) (l : List Nat) (n B : Nat) (hn : l.length = n) (hc : n ≤ c) (hnil : A = none → c = 0) (ks : List Int) (m : Nat) (hm : ks.length = m) (hks : ∀ x ∈ ks, InInt x) (w : World) (h : IsBytes w B A l) (hB : B ≤ w.heap.size) :
    Calls Try.prog 4 #[.slice A n c, .slice (some ⟨w.heap.size, 0, none⟩) m m] (w.alloc (.cells (ints ks).toArray 3)) fun e w' => e = .returned (.bool true) ∧ Below w.heap.size w w' := by
  subst hn
  subst hm
  have hb : Below w.heap.size w (w.alloc (.cells (ints ks).toArray 3)) := (Below.refl _ _).alloc (Nat.le_refl _) _
  refine (packReads.core A c l (some ⟨w.heap.size, 0, none⟩) ks.length ks _ (((h.more hB).below hb).more hb.size) hc hnil ((isInts_new w ks hks 3 (0, 0)).more (by simp)) (Nat.le_refl _) (fun h => by cases h)).mono fun e w' ⟨he, hb2⟩ => ⟨he, hb.trans (hb2.mono hb.size)⟩

theorem thing_lit (w : World) (cs : Array Value) (o : Nat) (t : Pk.Th) (ap : Option Addr) (cp : Nat) (al : Option Addr) (cl : Nat)
    (h0 : cs[o]? = some (.int .i64 t.kind)) (h1 : cs[o + 1]? = some (.int .i64 t.v)) (h2 : cs[o + 2]? = some (.slice ap t.p.length cp)) (h3 : cs[o + 3]? = some (.slice al t.l.length cl))
    (hp : IsBytes w w.heap.size ap t.p) (hl : IsInts w w.heap.size al t.l) (hcp : t.p.length ≤ cp ∧ cp ≤ maxLen) (hcl : t.l.length ≤ cl ∧ cl ≤ maxLen) (hnp : ap = none → cp = 0) (hnl : al = none → cl = 0) (hk : InInt t.kind) (hv : InInt t.v) :
    ThingAt (w.alloc (.cells cs 54)) (w.heap.size + 1) w.heap.size o t := by
  have hb : Below w.heap.size w (w.alloc (.cells cs 54)) := (Below.refl _ _).alloc (Nat.le_refl _) _
  have hc : ∀ j, (w.alloc (.cells cs 54)).cell? ⟨w.heap.size, j, none⟩ = cs[j]? := fun j => cell_of_row _ _ j cs _ (0, 0) (heap_alloc_new w _)
  exact ⟨ap, cp, al, cl, (hc _).trans h0, (hc _).trans h1, (hc _).trans h2, (hc _).trans h3, (hp.below hb).more (by omega), (hl.below hb).more (by omega), hcp, hcl, hnp, hnl, hk, hv⟩
theorem things_three (w : World) (cs : Array Value) (t0 t1 t2 : Pk.Th) (h0 : ThingAt (w.alloc (.cells cs 54)) (w.heap.size + 1) w.heap.size 0 t0)
    (h1 : ThingAt (w.alloc (.cells cs 54)) (w.heap.size + 1) w.heap.size 4 t1) (h2 : ThingAt (w.alloc (.cells cs 54)) (w.heap.size + 1) w.heap.size 8 t2) :
    IsThings (w.alloc (.cells cs 54)) (w.heap.size + 1) (some ⟨w.heap.size, 0, none⟩) [t0, t1, t2] := by
  refine ⟨fun k hk => ⟨w.heap.size, 0, rfl, by omega, fun i hi => ?_⟩⟩
  match i, hi with
  | 0, _ => exact h0
  | 1, _ => exact h1
  | 2, _ => exact h2
theorem max16 : 16 ≤ maxLen := by unfold maxLen; omega
theorem back_lit (v : Int) (hv : InInt v) (Ab : Option Addr) (cb N : Nat) (hcb : 8 ≤ cb) (hcm : cb ≤ maxLen) (hnb : Ab = none → cb = 0) (w : World) (hb : IsBytes w w.heap.size Ab (Pk.enc v)) (hn : IsInts w w.heap.size (some ⟨N, 0, none⟩) sixteen) :
    Calls Try.prog 5 #[.slice (some ⟨w.heap.size, 0, none⟩) 3 3]
      (w.alloc (.cells #[.int .i64 0, .int .i64 v, .slice none 0 0, .slice none 0 0, .int .i64 1, .int .i64 0, .slice Ab 8 cb, .slice none 0 0, .int .i64 2, .int .i64 0, .slice none 0 0, .slice (some ⟨N, 0, none⟩) 16 16] 54))
      fun e w' => e = .returned (.bool true) ∧ Below w.heap.size w w' := by
  have hz : InInt 0 ∧ InInt 1 ∧ InInt 2 := by unfold InInt; omega
  have hbl : Below w.heap.size w (w.alloc (.cells #[.int .i64 0, .int .i64 v, .slice none 0 0, .slice none 0 0, .int .i64 1, .int .i64 0, .slice Ab 8 cb, .slice none 0 0, .int .i64 2, .int .i64 0, .slice none 0 0, .slice (some ⟨N, 0, none⟩) 16 16] 54)) := (Below.refl _ _).alloc (Nat.le_refl _) _
  have ht := things_three w #[.int .i64 0, .int .i64 v, .slice none 0 0, .slice none 0 0, .int .i64 1, .int .i64 0, .slice Ab 8 cb, .slice none 0 0, .int .i64 2, .int .i64 0, .slice none 0 0, .slice (some ⟨N, 0, none⟩) 16 16]
    ⟨0, v, [], []⟩ ⟨1, 0, Pk.enc v, []⟩ ⟨2, 0, [], sixteen⟩
    (thing_lit w _ 0 _ none 0 none 0 rfl rfl rfl rfl IsBytes.nil IsInts.nil ⟨Nat.le_refl _, Nat.zero_le _⟩ ⟨Nat.le_refl _, Nat.zero_le _⟩ (fun _ => rfl) (fun _ => rfl) hz.1 hv)
    (thing_lit w _ 4 _ Ab cb none 0 rfl rfl rfl rfl hb IsInts.nil ⟨by rw [Pk.enc_length]; exact hcb, hcm⟩ ⟨Nat.le_refl _, Nat.zero_le _⟩ hnb (fun _ => rfl) hz.2.1 hz.1)
    (thing_lit w _ 8 _ none 0 (some ⟨N, 0, none⟩) 16 rfl rfl rfl rfl IsBytes.nil hn ⟨Nat.le_refl _, Nat.zero_le _⟩ ⟨Nat.le_refl _, max16⟩ (fun _ => rfl) (fun h => by cases h) hz.2.2 hz.1)
  refine (packBack.walk (some ⟨w.heap.size, 0, none⟩) 3 _ _ (ht.more (by simp)) (Nat.le_refl _) (by unfold maxLen; omega) (fun h => by cases h)).mono fun e w' ⟨he, h2⟩ => ⟨he, hbl.trans (h2.mono hbl.size)⟩
theorem cut_lit (v : Int) (hv : InInt v) (Ab : Option Addr) (cb N : Nat) (hcb : 8 ≤ cb) (hnb : Ab = none → cb = 0) (w : World) (hb : IsBytes w w.heap.size Ab (Pk.enc v)) (hn : IsInts w w.heap.size (some ⟨N, 0, none⟩) sixteen) :
    Calls Try.prog 6 #[.slice (some ⟨w.heap.size, 0, none⟩) 3 3, .int .i64 v, .slice Ab 8 cb]
      (w.alloc (.cells #[.int .i64 2, .int .i64 0, .slice none 0 0, .slice (some ⟨N, 0, none⟩) 16 16, .int .i64 0, .int .i64 v, .slice none 0 0, .slice none 0 0, .int .i64 1, .int .i64 0, .slice none 0 0, .slice none 0 0] 54))
      fun e w' => e = .returned (.bool true) ∧ Below w.heap.size w w' := by
  have hz : InInt 0 ∧ InInt 1 ∧ InInt 2 := by unfold InInt; omega
  have hbl : Below w.heap.size w (w.alloc (.cells #[.int .i64 2, .int .i64 0, .slice none 0 0, .slice (some ⟨N, 0, none⟩) 16 16, .int .i64 0, .int .i64 v, .slice none 0 0, .slice none 0 0, .int .i64 1, .int .i64 0, .slice none 0 0, .slice none 0 0] 54)) := (Below.refl _ _).alloc (Nat.le_refl _) _
  have ht := things_three w #[.int .i64 2, .int .i64 0, .slice none 0 0, .slice (some ⟨N, 0, none⟩) 16 16, .int .i64 0, .int .i64 v, .slice none 0 0, .slice none 0 0, .int .i64 1, .int .i64 0, .slice none 0 0, .slice none 0 0]
    ⟨2, 0, [], sixteen⟩ ⟨0, v, [], []⟩ ⟨1, 0, [], []⟩
    (thing_lit w _ 0 _ none 0 (some ⟨N, 0, none⟩) 16 rfl rfl rfl rfl IsBytes.nil hn ⟨Nat.le_refl _, Nat.zero_le _⟩ ⟨Nat.le_refl _, max16⟩ (fun _ => rfl) (fun h => by cases h) hz.2.2 hz.1)
    (thing_lit w _ 4 _ none 0 none 0 rfl rfl rfl rfl IsBytes.nil IsInts.nil ⟨Nat.le_refl _, Nat.zero_le _⟩ ⟨Nat.le_refl _, Nat.zero_le _⟩ (fun _ => rfl) (fun _ => rfl) hz.1 hv)
    (thing_lit w _ 8 _ none 0 none 0 rfl rfl rfl rfl IsBytes.nil IsInts.nil ⟨Nat.le_refl _, Nat.zero_le _⟩ ⟨Nat.le_refl _, Nat.zero_le _⟩ (fun _ => rfl) (fun _ => rfl) hz.2.1 hz.1)
  refine (packCut.core (some ⟨w.heap.size, 0, none⟩) 3 _ v Ab cb (Pk.enc v) _ (ht.more (by simp)) (Nat.le_refl _) (by unfold maxLen; omega) (fun h => by cases h) hv ((hb.below hbl).more hbl.size) (by rw [Pk.enc_length]; exact hcb) hnb).mono fun e w' ⟨he, h2⟩ => ⟨he, hbl.trans (h2.mono hbl.size)⟩

set_option maxRecDepth 100000 in
set_option maxHeartbeats 3200000 in
theorem walk (w : World) : Calls Try.prog 7 #[] w fun e w' => e = .returned (.bool true) ∧ Below w.heap.size w w' := by
  obtain ⟨i0, hi, hz0, hz1, hz2⟩ := info_parts info_u8'
  have hn0 : IsInts (w.alloc (.cells #[Value.int IntKind.i64 (-9223372036854775808), Value.int IntKind.i64 (-1), Value.int IntKind.i64 0,
      Value.int IntKind.i64 1, Value.int IntKind.i64 2, Value.int IntKind.i64 7, Value.int IntKind.i64 8,
      Value.int IntKind.i64 9, Value.int IntKind.i64 255, Value.int IntKind.i64 256,
      Value.int IntKind.i64 1099511627776, Value.int IntKind.i64 1152921504606846975,
      Value.int IntKind.i64 1152921504606846976, Value.int IntKind.i64 2305843009213693951,
      Value.int IntKind.i64 2305843009213693952, Value.int IntKind.i64 9223372036854775807] 3)) (w.heap.size + 1) (some ⟨w.heap.size, 0, none⟩) sixteen := isInts_new w sixteen sixteen_in 3 (0, 0)
  have hb0 : Below w.heap.size w (w.alloc (.cells #[Value.int IntKind.i64 (-9223372036854775808), Value.int IntKind.i64 (-1), Value.int IntKind.i64 0,
      Value.int IntKind.i64 1, Value.int IntKind.i64 2, Value.int IntKind.i64 7, Value.int IntKind.i64 8,
      Value.int IntKind.i64 9, Value.int IntKind.i64 255, Value.int IntKind.i64 256,
      Value.int IntKind.i64 1099511627776, Value.int IntKind.i64 1152921504606846975,
      Value.int IntKind.i64 1152921504606846976, Value.int IntKind.i64 2305843009213693951,
      Value.int IntKind.i64 2305843009213693952, Value.int IntKind.i64 9223372036854775807] 3)) := (Below.refl _ _).alloc (Nat.le_refl _) _
  have hsz0 : w.heap.size + 1 = (w.alloc (.cells #[Value.int IntKind.i64 (-9223372036854775808), Value.int IntKind.i64 (-1), Value.int IntKind.i64 0,
      Value.int IntKind.i64 1, Value.int IntKind.i64 2, Value.int IntKind.i64 7, Value.int IntKind.i64 8,
      Value.int IntKind.i64 9, Value.int IntKind.i64 255, Value.int IntKind.i64 256,
      Value.int IntKind.i64 1099511627776, Value.int IntKind.i64 1152921504606846975,
      Value.int IntKind.i64 1152921504606846976, Value.int IntKind.i64 2305843009213693951,
      Value.int IntKind.i64 2305843009213693952, Value.int IntKind.i64 9223372036854775807] 3)).heap.size := by simp
  go_enter Try.func7, Try.ntmps7
  go_wp2_with fail
  obtain ⟨wn, hwn⟩ : ∃ wn : World, wn = (w.alloc (.cells #[Value.int IntKind.i64 (-9223372036854775808), Value.int IntKind.i64 (-1), Value.int IntKind.i64 0,
      Value.int IntKind.i64 1, Value.int IntKind.i64 2, Value.int IntKind.i64 7, Value.int IntKind.i64 8,
      Value.int IntKind.i64 9, Value.int IntKind.i64 255, Value.int IntKind.i64 256,
      Value.int IntKind.i64 1099511627776, Value.int IntKind.i64 1152921504606846975,
      Value.int IntKind.i64 1152921504606846976, Value.int IntKind.i64 2305843009213693951,
      Value.int IntKind.i64 2305843009213693952, Value.int IntKind.i64 9223372036854775807] 3)) := ⟨_, rfl⟩
  rw [← hwn] at hn0 hb0 hsz0 ⊢
  obtain ⟨N, hN⟩ : ∃ N, N = w.heap.size := ⟨_, rfl⟩
  rw [← hN] at hn0 hsz0 ⊢
  have HSZ0 : Hid (N + 1 = wn.heap.size) := hsz0
  have HWN : Hid (N = w.heap.size) := hN
  have hN1 : N + 1 ≤ wn.heap.size := by omega
  have HB0 : Hid (Below N w wn) := by rw [hN]; exact hb0
  have HN0 := hid hn0
  clear hwn hN hsz0 hb0 hn0
  go_loopw [2] (fun i wr => ∃ k : Nat, k ≤ 16 ∧ i = .int .i64 k ∧ Hid (Below (N + 1) wn wr)) (fun i _ => 16 - (intOf i).toNat)
  case atStart => exact ⟨0, by omega, rfl, Below.refl _ _⟩
  case round =>
    obtain ⟨i, hi16, rfl, hbl⟩ := hrel
    have hszr := Nat.le_trans hN1 hbl.out.size
    by_cases hlt : i < 16
    · have hin := HN0.out.below hbl.out
      obtain ⟨b, off, hbo, _, hc⟩ := hin.cells i hlt
      injection hbo with hbo
      injection hbo with e1 e2 e3
      subst e1
      subst e2
      have hck := hc i hlt
      rw [Nat.zero_add] at hck
      obtain ⟨v, hv⟩ : ∃ v, v = sixteen[i]'hlt := ⟨_, rfl⟩
      rw [← hv] at hck
      have hvv := hv
      have hvin : InInt v := by rw [hv]; exact sixteen_in _ (List.getElem_mem _)
      have hv1 := hvin.1
      have hv2 := hvin.2
      have HC := hid hck
      have HVV := hid hvv
      clear hc hv hvv
      go_wp2_with fail
      refine (packInt_nil v hvin _).mono ?_
      rintro e wb ⟨Ab, cb, rfl, hob, hbb⟩
      have hbb1 : Below (N + 1) wn wb := hbl.out.trans (hbb.mono hszr)
      have HBB := hid hbb1
      have hszb := Nat.le_trans hN1 hbb1.size
      have hcb := hob.cap
      rw [Pk.enc_length] at hcb
      have hnb := hob.capLe.2
      have hcm := hob.capLe.1
      have HOB := hid hob
      clear hbb hbb1 hob hck
      go_wp2_with fail
      obtain ⟨wb', rfl⟩ : ∃ wb' : World, wb' = wb := ⟨_, rfl⟩
      go_loopw [4] (fun k wr => ∃ j : Nat, j ≤ 30 ∧ k = .int .i64 j ∧ Hid (Below wb'.heap.size wb' wr)) (fun k _ => 30 - (intOf k).toNat)
      case atStart => exact ⟨0, by omega, rfl, Below.refl _ _⟩
      case round =>
        obtain ⟨j, hj, rfl, hb2⟩ := hrel
        have hbs := HOB.out.below hb2.out
        have hsz2 := hb2.out.size
        by_cases hlj : j < 26
        · go_wp2_with fail
          refine (copy_eight Ab cb v wr.heap.size wr hbs.reads (Nat.le_refl _)).mono ?_
          rintro e w3 ⟨A3, c3, rfl, ho3, hb3⟩
          go_wp2_with fail
          refine (row_any j (by omega) w3).mono ?_
          rintro e w4 ⟨A4, c4, L4, rfl, hL4, ho4, hb4⟩
          have ho3' := ho3.below hb4
          have hsz3 := hb3.size
          have hsz4 := hb4.size
          have HL4 := hid hL4
          go_wp2_with (at_builtin; refine wpList_append_bytesN rfl _ _ 22 rfl wr.heap.size 5 i0 Try.underlying22 hi hz0 hz1 hz2 A3 c3 (Pk.enc v) 8 rfl rfl ho3' w4.heap.size A4 c4 L4 j HL4.out rfl ho4.capLe.2 ho4.reads (Pk.enc v ++ L4) rfl (by omega) (by omega) ?_)
          intro A5 c5 w5 ho5 hb5
          have hb35 : Below wr.heap.size wr w5 := (hb3.trans (hb4.mono hsz3)).trans hb5
          have hL5 : (Pk.enc v ++ L4).length = 8 + j := by rw [List.length_append, Pk.enc_length, hL4]
          have hrd5 := ho5.reads
          have hn5 := ho5.capLe.2
          have hc5 := ho5.cap
          rw [hL5] at hc5
          have HL5 := hid hL5
          have hL8 : ((Pk.enc v ++ L4).take (j % 8)).length = j % 8 := by rw [List.length_take, hL5]; omega
          have HL8 := hid hL8
          have HB35 := hid hb35
          have hj8 : j % 8 ≤ c5 := by omega
          have hsz5 := hb35.size
          have R1 : Hid (Calls Try.prog 4 #[.slice A5 (8 + j) c5, .slice (some ⟨w5.heap.size, 0, none⟩) 3 3] (w5.alloc (.cells #[.int .i64 0, .int .i64 0, .int .i64 0] 3)) fun e w' => e = .returned (.bool true) ∧ Below w5.heap.size w5 w') :=
            reads_lit A5 c5 _ _ _ HL5.out hc5 hn5 [0, 0, 0] 3 rfl (by simp [InInt]) w5 hrd5 (Nat.le_refl _)
          clear hL8 hL5 hL4 ho3 ho4 ho3' hb3 hb4 hb5 ho5 hb35 hbs
          go_wp2_with fail
          refine R1.out.mono ?_
          rintro e w6 ⟨rfl, hb6⟩
          have R2 : Hid (Calls Try.prog 4 #[.slice A5 (8 + j) c5, .slice (some ⟨w6.heap.size, 0, none⟩) 2 2] (w6.alloc (.cells #[.int .i64 1, .int .i64 0] 3)) fun e w' => e = .returned (.bool true) ∧ Below w6.heap.size w6 w') :=
            reads_lit A5 c5 _ _ _ HL5.out hc5 hn5 [1, 0] 2 rfl (by simp [InInt]) w6 (hrd5.below hb6) hb6.size
          go_wp2_with fail
          refine R2.out.mono ?_
          rintro e w7 ⟨rfl, hb7⟩
          have hb7' := hb6.trans (hb7.mono hb6.size)
          have R3 : Hid (Calls Try.prog 4 #[.slice A5 (8 + j) c5, .slice (some ⟨w7.heap.size, 0, none⟩) 3 3] (w7.alloc (.cells #[.int .i64 2, .int .i64 2, .int .i64 1] 3)) fun e w' => e = .returned (.bool true) ∧ Below w7.heap.size w7 w') :=
            reads_lit A5 c5 _ _ _ HL5.out hc5 hn5 [2, 2, 1] 3 rfl (by simp [InInt]) w7 (hrd5.below hb7') hb7'.size
          go_wp2_with fail
          refine R3.out.mono ?_
          rintro e w8 ⟨rfl, hb8⟩
          have hb8' := hb7'.trans (hb8.mono hb7'.size)
          have R4 : Hid (Calls Try.prog 4 #[.slice A5 (j % 8) c5, .slice (some ⟨w8.heap.size, 0, none⟩) 1 1] (w8.alloc (.cells #[.int .i64 2] 3)) fun e w' => e = .returned (.bool true) ∧ Below w8.heap.size w8 w') :=
            reads_lit A5 c5 _ _ _ HL8.out hj8 hn5 [2] 1 rfl (by simp [InInt]) w8 ((hrd5.below hb8').take _) hb8'.size
          go_wp2_with fail
          refine R4.out.mono ?_
          rintro e w9 ⟨rfl, hb9⟩
          have HF : Hid (Below wb'.heap.size wb' w9) := hb2.out.trans ((HB35.out.trans ((hb8'.trans (hb9.mono hb8'.size)).mono hsz5)).mono hsz2)
          clear hb6 hb7 hb7' hb8 hb8' hb9 R1 R2 R3 R4 hrd5
          go_wp2_with fail
          go_roundw
          case rel => exact ⟨j + 5, by omega, by go_num, HF⟩
          case measure => simp [intOf] <;> omega
        · have hb2w := HBB.out.trans (hb2.out.mono hszb)
          have HB2W := hid hb2w
          go_wp2_with fail
          clear hlj hj
          have hbsW := hbs.reads
          have hszW := Nat.le_trans hN1 hb2w.size
          have HD : Hid (∀ w6, Below (N + 1) wr w6 → w6.cell? ⟨N, i, none⟩ = some (.int .i64 v)) := by
            intro w6 hb6
            obtain ⟨b', off', hbo', _, hc'⟩ := (HN0.out.below (hb2w.trans hb6)).cells i hlt
            injection hbo' with hbo'
            injection hbo' with e1 e2 e3
            subst e1
            subst e2
            have := hc' i hlt
            rw [Nat.zero_add, ← HVV.out] at this
            exact this
          have hd0 := HD.out wr (Below.refl _ _)
          have HP1 : Hid (Calls Try.prog 3 #[.slice Ab 8 cb, .slice Ab 8 cb, .int .i64 v, .slice (some ⟨N, 0, none⟩) 16 16] wr.drew fun e w' => e = .returned (.bool true) ∧ Below wr.heap.size wr w') := by
            refine (packPuts.core Ab cb (Pk.enc v) Ab cb (Pk.enc v) v (some ⟨N, 0, none⟩) 16 sixteen wr.drew hbsW.drew (by rw [Pk.enc_length]; exact hcb) hnb hbsW.drew (by rw [Pk.enc_length]; exact hcb) hnb hvin (((HN0.out.below hb2w).more hszW).drewN 1) (Nat.le_refl _) (fun h => by cases h)).mono fun e w' ⟨he, hb⟩ => ⟨he, ?_⟩
            exact ((Below.refl wr.heap.size wr).drew).trans hb
          have hi0' : (i : Int) < 16 := by omega
          have hi00 : 0 ≤ (i : Int) := by omega
          have HM : Hid (∀ w6, Below wr.heap.size wr w6 → (IsBytes w6 w6.heap.size Ab (Pk.enc v) ∧ IsInts w6 w6.heap.size (some ⟨N, 0, none⟩) sixteen) ∧ w6.cell? ⟨N, i, none⟩ = some (.int .i64 v) ∧ N < w6.heap.size) := fun w6 hb6 =>
            ⟨⟨(hbsW.below hb6).more hb6.size, ((HN0.out.below (hb2w.trans (hb6.mono hszW))).more (by have := hb6.size; omega))⟩, HD.out w6 (hb6.mono hszW), by have := hb6.size; omega⟩
          clear hbsW hbs hb2w
          have hdW : wr.drew.cell? ⟨N, i, none⟩ = some (.int .i64 v) := hd0
          have hNW : N < wr.drew.heap.size := by show N < wr.heap.size; omega
          go_region_held3 (fun w' => w'.cell? ⟨N, i, none⟩ = some (.int .i64 v) ∧ N < w'.heap.size)
            ((refine ⟨by first | assumption | (rw [World.cell?_alloc_past _ _ _ (by assumption)]; assumption), by first | assumption | (simp; omega)⟩))
            (first
              | (go_at_call 3; refine HP1.out.mono ?_; rintro e w6 ⟨rfl, hb6⟩; have HM6 := hid (HM.out w6 hb6).1; have hd6 := (HM.out w6 hb6).2.1; have hN6 := (HM.out w6 hb6).2.2)
              | (go_at_call 5; refine (back_lit v hvin Ab cb N hcb hcm hnb w6 HM6.out.1 HM6.out.2).mono ?_; rintro e w7 ⟨rfl, hb7⟩; have hb67 := hb6.trans (hb7.mono hb6.size); have HM7 := hid (HM.out w7 hb67).1; have hd7 := (HM.out w7 hb67).2.1; have hN7 := (HM.out w7 hb67).2.2)
              | (go_at_call 6; refine (cut_lit v hvin Ab cb N hcb hnb w7 HM7.out.1 HM7.out.2).mono ?_; rintro e w8 ⟨rfl, hb8⟩; have hb68 := hb67.trans (hb8.mono hb67.size); have hd8 := (HM.out w8 hb68).2.1; have hN8 := (HM.out w8 hb68).2.2))
          all_goals
            have HF : Hid (Below (N + 1) wn w8) := HB2W.out.trans (hb68.mono hszW)
            clear hb6 hb7 hb67 hb8 hb68 hd6 hd7
            go_wp2_with fail
            go_roundw
            case rel => exact ⟨i + 1, by omega, by go_num, HF⟩
            case measure => simp [intOf] <;> omega
    · have HW : Hid (Below N w wr) := HB0.out.trans (hbl.out.mono (by omega))
      have hm1 : InInt (-1) := by unfold InInt; omega
      have HM1 : Hid ((Pk.rdInt ⟨Pk.enc (-1), false⟩).1 = -1) := by
        have := Pk.rdInt_enc (-1) [] false hm1
        rw [List.append_nil] at this
        show _ = _
        rw [this]
      have hszN := hszr
      go_wp2_with fail
      clear hlt hi16
      refine (packInt_nil (-1) hm1 wr).mono ?_
      rintro e w1 ⟨A1, c1, rfl, ho1, hb1⟩
      have C := read_any w1.heap.size A1 c1 (Pk.enc (-1)) (by rw [Pk.enc_length]; omega) w1 ho1.reads (Nat.le_refl _) ho1.capLe.2
      rw [Pk.enc_length] at C
      have HC := hid C
      have hsz1 := hb1.size
      clear C ho1
      go_wp2_with fail
      refine HC.out.mono ?_
      rintro e w2 ⟨g, rfl, hg, hR, hb2⟩
      have hb2' : Below wr.heap.size wr w2 := hb1.trans (hb2.mono hsz1)
      have hsz2 := hb2'.size
      have HI := hid (int_rdr g _ w2 hR)
      rw [HM1.out] at HI
      have HB2 := hid hb2'
      have hgr : wr.heap.size ≤ g := by omega
      clear HC hR hb1 hb2 hb2'
      go_wp2_with fail
      refine HI.out.mono ?_
      rintro e w3 ⟨rfl, _, hG3⟩
      have hb3 : Below wr.heap.size wr w3 := HB2.out.grown hG3 hsz2 (fun k hk => by injection hk with hk; omega)
      have HB3 := hid hb3
      have hsz3 := hb3.size
      clear hb3 hG3
      go_wp2_with fail
      refine (packPuts.core none 0 [] none 0 [] 258 none 0 [] w3 IsBytes.nil (Nat.le_refl _) (fun _ => rfl) IsBytes.nil (Nat.le_refl _) (fun _ => rfl) (by omega) IsInts.nil (Nat.le_refl _) (fun _ => rfl)).mono ?_
      rintro e w4 ⟨rfl, hb4⟩
      have HB4 := hid (HB3.out.trans (hb4.mono hsz3))
      have hsz4 := HB4.out.size
      clear hb4
      have R : Hid (Calls Try.prog 4 #[.slice none 0 0, .slice (some ⟨w4.heap.size, 0, none⟩) 4 4] (w4.alloc (.cells #[.int .i64 0, .int .i64 1, .int .i64 2, .int .i64 3] 3)) fun e w' => e = .returned (.bool true) ∧ Below w4.heap.size w4 w') :=
        reads_lit none 0 [] 0 0 rfl (Nat.le_refl _) (fun _ => rfl) [0, 1, 2, 3] 4 rfl (by simp [InInt]) w4 IsBytes.nil (Nat.zero_le _)
      go_wp2_with fail
      refine R.out.mono ?_
      rintro e w5 ⟨rfl, hb5⟩
      have HB5 := hid (HB4.out.trans (hb5.mono hsz4))
      have hsz5 := HB5.out.size
      clear hb5 R
      go_wp2_with fail
      refine (packBack.walk none 0 [] w5 IsThings.nil (Nat.le_refl _) (Nat.zero_le _) (fun _ => rfl)).mono ?_
      rintro e w6 ⟨rfl, hb6⟩
      have HB6 := hid (HB5.out.trans (hb6.mono hsz5))
      have hsz6 := HB6.out.size
      clear hb6
      go_wp2_with fail
      refine (works_any _).mono ?_
      rintro e w7 ⟨rfl, hb7⟩
      have HB7 := hid (HB6.out.trans (hb7.mono hsz6))
      clear hb7
      go_wp2_with fail
      go_ret
      exact ⟨rfl, HWN.out ▸ (HW.out.trans (HB7.out.mono (by omega)))⟩

set_option maxRecDepth 100000 in
theorem lifted (os : Os) (started : os.Started) (H : Type) (enc : TypeId × Value → H) :
    ReturnsInHanded {} Try.checked os 7 .any (Rows.packKnownSpec.pre6 enc Try.prog Try.f7 Rows.packKnownRow.domain false) (Rows.packKnownSpec.post enc Try.prog Try.f7 false true false false) := by
  refine returnsInHanded_of_change_sized (C := Try.checked) own started (by kernel_rfl) Try.func7
    (ChangeSpec.witness6 (enc := enc) (C := Try.checked) false ⟨#[], #[], []⟩ 8 (by kernel_rfl) (by kernel_rfl) (by kernel_rfl) (by kernel_rfl)) ?_
  intro W base args ds gs before hval0 hW hcnd hsz0 _
  have hsz : (DataW.weightsEach Try.prog (Try.f7.params.toList ++ Rows.packKnownSpec.plain.varTypes Try.prog) (ds ++ gs)).all (· ≤ reachBytes) = true := hsz0
  clear hsz0
  have hval : ∀ (j : Nat) t v, Try.f7.params[j]? = some t → args[j]? = some v → Value.okWide Try.prog W .any base t v := hval0
  have hW' := hW
  obtain ⟨p, q, hA0, hV, rfl, hfz, hnd⟩ := hW
  have hA : DataW.TrodAll enc Try.prog W 0 (fun _ => true) true Try.f7.params.toList args.toList ds p := hA0
  rw [Try.params7] at hA hval hsz
  obtain ⟨rfl, rfl, rfl⟩ := trodAll_none hA
  obtain ⟨rfl, rfl⟩ := trodVars_none hV
  clear hA0 hval0
  refine (walk  W ).mono fun e W' ⟨he, bel⟩ => ?_
  subst he
  exact ⟨_, rfl, _, _, _, [], _, [], hW', trodAll_mk1 (shut_bool Try.underlying4 _), trodAll_mk0, rfl, bel.frame _, fun h => by cases h⟩

theorem over : Rows.packKnownRow.holds Try.pinned (OpenSpec.ofChange Rows.packKnownSpec) :=
  OpenClaim.holds_of_wide 7 Try.f7 rfl rfl rfl rfl rfl rfl rfl ⟨rfl, rfl, rfl, rfl, rfl⟩ rfl rfl rfl rfl rfl (by kernel_rfl) Try.func7 (by kernel_rfl)
    (of_decide_eq_true (by kernel_rfl)) (by unfold Func.isWrapper; first | (rw [if_pos (by decide +kernel)]; kernel_rfl) | (rw [if_neg (by decide +kernel)]; exact ⟨rfl, rfl⟩))
    (fun os started H enc _ => lifted os started H enc)

theorem proved : Rows.PackKnownSaid := over
end Go.Proofs.Ytdmghnfnmgkigaa.packKnown
