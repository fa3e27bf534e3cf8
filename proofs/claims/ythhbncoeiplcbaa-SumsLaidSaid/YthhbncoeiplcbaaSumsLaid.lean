/- Of three rows of one length, the third being the first two laid over one another, the sums laid over one another are that of noughts. Conditions: none. -/
import Derived.Test.YthhbncoeiplcbaaRows
import Derived.Test.YthhbncoeiplcbaaSumWalks
import Derived.Test.YthhbncoeiplcbaaKitBytes
import Derived.Test.YthhbncoeiplcbaaKnown1
import Derived.Deep.CutRange
import Derived.Deep.RegionWith
import Derived.Deep.RegionHeld3
import Derived.WalkKit
import Derived.WalkLawsBesides
import Derived.ProofKit
import Derived.OpenShut
import Derived.ShutString
import Derived.ChangeOld
import Derived.Below
import Derived.SizedLaws
namespace Go.Proofs.Ythhbncoeiplcbaa.sumsLaid
open Go.ChangeShapes Go.WideShapes Go.ChangeAt Go.RowKit
open Go.ChangeMaps (open_string shut_string)
set_option linter.unusedVariables false

theorem own : ownKnob Try.prog.godebug = none := by kernel_rfl
theorem laidOut : laidOutB Try.prog = true := by kernel_rfl
theorem bytesOf : Try.prog.bytesOf 5 = 1 := by kernel_rfl

theorem info_u8 : (Try.prog.info? 5).map (fun i => (i.zero, i.size, i.bytes)) = some (some (.int .u8 0), 1, 1) := by kernel_rfl
/-- a row of so many noughts -/
def zeros (n : Nat) : List Nat := List.replicate n 0
theorem zeros_length (n : Nat) : (zeros n).length = n := by simp [zeros]
theorem zeros_small (n : Nat) : ∀ x ∈ zeros n, x < 256 := by intro x hx; have := (List.mem_replicate.1 hx).2; omega
def zeroRow (n : Nat) : Array Value := (bytes (zeros n)).toArray
theorem make_any (n : Nat) (hn : n ≤ 65536) (W : World) : (Instr.makeSlice 22 (.int .i64 (n : Int)) (.int .i64 (n : Int))).run Try.prog W = .ok (.slice (some ⟨W.heap.size, 0, none⟩) n n) (W.alloc (.cells (zeroRow n) 5)) := by
  obtain ⟨i0, hi, hz0, hz1, hz2⟩ := info_parts info_u8
  have h := run_make (P := Try.prog) W 22 5 i0 (.int .u8 0) Try.underlying22 hi hz0 .i64 .i64 n n (by omega) (by omega) (by rw [hz2]; omega) (by omega)
  rw [Int.toNat_natCast, hz1, Nat.mul_one] at h
  rw [h]
  have e : madeCells (Value.int .u8 0).cells n = zeroRow n := by
    apply Array.toList_inj.1
    rw [show (Value.int .u8 0).cells = #[Value.int .u8 0] from rfl, toList_madeCells_one]
    simp [zeroRow, zeros, bytes]
  rw [e]
/-- the third row amid the work: the first k items are laid over one another -/
def mid (n : Nat) (a b : List Nat) (k : Nat) : List Nat := (Crc.over (a.take n) (b.take n)).take k ++ zeros (n - k)
theorem mid_length (n : Nat) (a b : List Nat) (k : Nat) (ha : n ≤ a.length) (hb : n ≤ b.length) (hk : k ≤ n) : (mid n a b k).length = n := by
  unfold mid
  rw [List.length_append, List.length_take, Crc.over_length _ _ (by simp; omega), List.length_take, zeros_length]; omega
theorem mid_small (n : Nat) (a b : List Nat) (k : Nat) (ha : ∀ x ∈ a, x < 256) (hb : ∀ x ∈ b, x < 256) : ∀ x ∈ mid n a b k, x < 256 := by
  intro x hx
  unfold mid at hx
  rcases List.mem_append.1 hx with hx | hx
  · exact Crc.over_lt _ _ (fun y hy => ha y (List.mem_of_mem_take hy)) (fun y hy => hb y (List.mem_of_mem_take hy)) x (List.mem_of_mem_take hx)
  · exact zeros_small _ x hx
theorem mid_zero (n : Nat) (a b : List Nat) : bytes (mid n a b 0) = (zeroRow n).toList := by simp [mid, zeroRow]
theorem mid_end (n : Nat) (a b : List Nat) (ha : n ≤ a.length) (hb : n ≤ b.length) : mid n a b n = Crc.over (a.take n) (b.take n) := by
  unfold mid
  rw [List.take_of_length_le (by rw [Crc.over_length _ _ (by simp; omega)]; simp; omega)]
  simp [zeros]
theorem mid_set (n : Nat) (a b : List Nat) (k : Nat) (ha : n ≤ a.length) (hb : n ≤ b.length) (hk : k < n) : (mid n a b k).set k (a[k] ^^^ b[k]) = mid n a b (k + 1) := by
  have hl : (Crc.over (a.take n) (b.take n)).length = n := by rw [Crc.over_length _ _ (by simp; omega)]; simp; omega
  unfold mid
  rw [List.set_append_right _ _ (by rw [List.length_take]; omega), List.length_take, hl, Nat.min_eq_left (by omega), Nat.sub_self,
    show n - k = (n - (k + 1)) + 1 from by omega, zeros, List.replicate_succ, List.set_cons_zero, List.take_succ_eq_append_getElem (by omega), List.append_assoc,
    Crc.over_get _ _ k (by rw [List.length_take]; omega) (by rw [List.length_take]; omega)]
  simp [zeros]
theorem last_below {wc wr w2 : World} {o : Obj} (hb : Below wc.heap.size wc wr) (h2 : Below (wr.alloc o).drew.heap.size (wr.alloc o).drew w2) : Below wc.heap.size wc w2 :=
  hb.trans ((((Below.refl _ _).alloc hb.size o).drew).trans (h2.mono (by have := hb.size; show wc.heap.size ≤ (wr.alloc o).heap.size; rw [World.size_alloc]; omega)))
/-- what the four sums of the last statement come to, in whatever world they are asked: before or behind the making of the last row -/
theorem sums_facts (n : Nat) (hn : n ≤ 65536) {wc wr : World} {a0 a1 : Option Addr} {l0 l1 : List Nat} (hn0 : n ≤ l0.length) (hn1 : n ≤ l1.length)
    (k0 : IsBytes wc wc.heap.size a0 l0) (k1 : IsBytes wc wc.heap.size a1 l1) (hown : OwnsB 5 wr wc.heap.size (some ⟨wc.heap.size, 0, none⟩) n (mid n l0 l1 n)) (hbel : Below wc.heap.size wc wr) :
    ∃ x0 x1 x2 x3 : Nat, (bits .xor .u32 (bits .xor .u32 (x0 : Int) (x1 : Int)) (x2 : Int) == (x3 : Int)) = true ∧
      (∀ (c : Nat) (W : World), (W.heap = wr.heap ∨ W.heap = (wr.alloc (.cells (zeroRow n) 5)).heap) → Calls Try.prog 9 #[.slice a0 n c] W fun e w' => e = .returned (.int .u32 (x0 : Int)) ∧ W = w') ∧
      (∀ (c : Nat) (W : World), (W.heap = wr.heap ∨ W.heap = (wr.alloc (.cells (zeroRow n) 5)).heap) → Calls Try.prog 9 #[.slice a1 n c] W fun e w' => e = .returned (.int .u32 (x1 : Int)) ∧ W = w') ∧
      (∀ (W : World), (W.heap = wr.heap ∨ W.heap = (wr.alloc (.cells (zeroRow n) 5)).heap) → Calls Try.prog 9 #[.slice (some ⟨wc.heap.size, 0, none⟩) n n] W fun e w' => e = .returned (.int .u32 (x2 : Int)) ∧ W = w') ∧
      (∀ (W : World), W.heap = (wr.alloc (.cells (zeroRow n) 5)).heap → Calls Try.prog 9 #[.slice (some ⟨wr.heap.size, 0, none⟩) n n] W fun e w' => e = .returned (.int .u32 (x3 : Int)) ∧ W = w') := by
  have sm0 : ∀ x ∈ l0.take n, x < 256 := fun x hx => k0.small x (List.mem_of_mem_take hx)
  have sm1 : ∀ x ∈ l1.take n, x < 256 := fun x hx => k1.small x (List.mem_of_mem_take hx)
  have t0 : (l0.take n).length = n := by rw [List.length_take]; omega
  have t1 : (l1.take n).length = n := by rw [List.length_take]; omega
  have t2 : (Crc.over (l0.take n) (l1.take n)).length = n := by rw [Crc.over_length _ _ (by rw [t0, t1]), t0]
  have keep : ∀ {A : Option Addr} {l : List Nat}, IsBytes wr wr.heap.size A l → ∀ W : World, (W.heap = wr.heap ∨ W.heap = (wr.alloc (.cells (zeroRow n) 5)).heap) → IsBytes W wr.heap.size A l := by
    intro A l h W hW
    refine h.keep fun p hp => World.cell?_of_block ?_
    rcases hW with hW | hW
    · rw [hW]
    · rw [hW]; exact Below.heap_alloc wr _ p.block hp
  have m0 : ∀ (l : List Nat), l.length = n → l.length ≤ maxLen := fun l hl => by rw [hl]; unfold maxLen; omega
  refine ⟨Crc.more 0 (l0.take n), Crc.more 0 (l1.take n), Crc.more 0 (Crc.over (l0.take n) (l1.take n)), Crc.more 0 (zeros n), ?_, ?_, ?_, ?_, ?_⟩
  · have g0 := Crc.more_lt 0 _ (by omega) sm0
    have g1 := Crc.more_lt 0 _ (by omega) sm1
    have g2 := Crc.more_lt 0 _ (by omega) (Crc.over_lt _ _ sm0 sm1)
    have e := Crc.laid (l0.take n) (l1.take n) (by rw [t0, t1])
    rw [t0] at e
    rw [u32_xor_nat _ _ g0 g1, u32_xor_nat _ _ (Crc.xor_lt _ _ g0 g1) g2, e]
    simp [zeros]
  · intro c W hW
    have h := of_any wr.heap.size a0 c (l0.take n) (m0 _ t0) W (keep (((k0.below hbel).more hbel.size).take n) W hW)
    rw [t0] at h
    exact h
  · intro c W hW
    have h := of_any wr.heap.size a1 c (l1.take n) (m0 _ t1) W (keep (((k1.below hbel).more hbel.size).take n) W hW)
    rw [t1] at h
    exact h
  · intro W hW
    have hr := hown.reads
    rw [mid_end n l0 l1 hn0 hn1] at hr
    have h := of_any wr.heap.size (some ⟨wc.heap.size, 0, none⟩) n _ (m0 _ t2) W (keep hr W hW)
    rw [t2] at h
    exact h
  · intro W hW
    have hz := isBytes_lit wr (zeros n) (zeros_small n) 5 (0, 0)
    have h := of_any (wr.heap.size + 1) (some ⟨wr.heap.size, 0, none⟩) n (zeros n) (m0 _ (zeros_length n)) W (hz.keep fun p _ => World.cell?_of_block (by rw [hW]; rfl))
    rw [zeros_length] at h
    exact h
set_option maxHeartbeats 4000000 in
theorem walk (a0 : Option Addr) (cap0 : Nat) (l0 : List Nat) (a1 : Option Addr) (cap1 : Nat) (l1 : List Nat) (w : World)
    (k0 : IsBytes w w.heap.size a0 l0) (n0 : l0.length ≤ cap0) (r0 : cap0 ≤ 140737488351232) (z0 : a0 = none → cap0 = 0)
    (k1 : IsBytes w w.heap.size a1 l1) (n1 : l1.length ≤ cap1) (r1 : cap1 ≤ 140737488351232) (z1 : a1 = none → cap1 = 0) :
    Calls Try.prog 6 #[.slice a0 l0.length cap0, .slice a1 l1.length cap1] w fun e w' => e = .returned (.bool true) ∧ Below w.heap.size w w' := by
  go_enter Try.func6, Try.ntmps6
  go_upto_region 1 with fail
  go_cut [5] from 8 to 12 (fun s wx => ∃ n : Nat, s = .int .i64 n ∧ n ≤ l0.length ∧ n ≤ l1.length ∧ n ≤ 65536 ∧ wx = w)
  case first =>
    go_wp2_with fail
    all_goals (go_meet; first | refine ⟨65536, rfl, ?_, ?_, ?_, rfl⟩ | refine ⟨_, rfl, ?_, ?_, ?_, rfl⟩)
    all_goals first | omega | (rename_i h; split at h <;> omega)
  case rest =>
    obtain ⟨n, rfl, hn0, hn1, hn, rfl⟩ := hcut
    have hmk := make_any n hn
    go_wp2_with fail
    go_loopw [7] (fun i wr => ∃ k : Nat, k ≤ n ∧ i = .int .i64 k ∧ OwnsB 5 wr wc.heap.size (some ⟨wc.heap.size, 0, none⟩) n (mid n l0 l1 k) ∧ Below wc.heap.size wc wr) (fun i _ => n - (intOf i).toNat)
    case atStart =>
      refine ⟨0, by omega, rfl, ⟨?_, ?_⟩, (Below.refl _ _).alloc (Nat.le_refl _) _⟩
      · exact mid_small n l0 l1 0 k0.small k1.small
      · have h := World.ownsRow_lit (e := 5) (size := 1) (base := wc.heap.size) wc (zeroRow n) n (Nat.le_refl _) (by unfold maxLen; omega) (by simp [zeroRow, bytes_length, zeros_length])
        rw [mid_length n l0 l1 0 hn0 hn1 (by omega), mid_zero]
        exact h
    case round =>
      obtain ⟨k, hk, rfl, hown, hbel⟩ := hrel
      by_cases hlt : k < n
      · obtain ⟨b, off, rfl, _, hc⟩ := (k0.below hbel).cells k (by omega)
        obtain ⟨b', off', rfl, _, hc'⟩ := (k1.below hbel).cells k (by omega)
        have hck := hc k (by omega)
        have hck' := hc' k (by omega)
        clear hc hc'
        obtain ⟨g, hg, _, _, hcg, hfg⟩ := hown.at_ (k := k) (by rw [mid_length n l0 l1 k hn0 hn1 hk]; exact hlt)
        obtain rfl : wc.heap.size = g := by injection hg with hg; injection hg
        clear hg
        have h8 := k0.small l0[k] (List.getElem_mem _)
        have h8' := k1.small l1[k] (List.getElem_mem _)
        have hx := u8_xor_nat l0[k] l1[k] h8 h8'
        have HX := hid hx
        have hs1 := hown.set_ k (l0[k] ^^^ l1[k]) (by have := Nat.xor_lt_two_pow (n := 8) h8 h8'; simpa using this)
        rw [mid_set n l0 l1 k hn0 hn1 hlt] at hs1
        have hb1 : Below wc.heap.size wc (wr.setCell ⟨wc.heap.size, k, none⟩ (.int .u8 (l0[k] ^^^ l1[k] : Nat))) := hbel.setCell (Nat.le_refl _) _
        have HS := hid (And.intro hs1.drew hb1.drew)
        clear hx hs1 hb1 hown hbel
        go_wp2_with fail
        go_region
        go_wp2_with fail
        rw [HX.out]
        go_roundw
        case rel => exact ⟨k + 1, by omega, by go_num, HS.out.1, HS.out.2⟩
        case measure => simp [intOf]; omega
      · obtain rfl : n = k := by omega
        go_wp2_with fail
        obtain ⟨x0, x1, x2, x3, he, C⟩ := sums_facts n hn hn0 hn1 k0 k1 hown hbel
        have C0 := hid C.1
        have C1 := hid C.2.1
        have C2 := hid C.2.2.1
        have C3 := hid C.2.2.2
        have HB := hid hbel
        clear C k0 k1 hown hbel hk hlt r0 r1
        go_region_with (first
          | (go_at_call_of 9 (Value.slice a0 n cap0); refine (C0.out cap0 _ ?_).mono ?_; (first | exact .inl rfl | exact .inr rfl); rintro e w2 ⟨rfl, rfl⟩)
          | (go_at_call_of 9 (Value.slice a1 n cap1); refine (C1.out cap1 _ ?_).mono ?_; (first | exact .inl rfl | exact .inr rfl); rintro e w2 ⟨rfl, rfl⟩)
          | (go_at_call_of 9 (Value.slice (some ⟨wc.heap.size, 0, none⟩) n n); refine (C2.out _ ?_).mono ?_; (first | exact .inl rfl | exact .inr rfl); rintro e w2 ⟨rfl, rfl⟩)
          | (go_at_call_of 9 (Value.slice (some ⟨wr.heap.size, 0, none⟩) n n); refine (C3.out _ ?_).mono ?_; rfl; rintro e w2 ⟨rfl, rfl⟩)
          | (go_at_call 14; refine (known_any _).mono ?_; rintro e w2 ⟨rfl, hbel2⟩))
        all_goals (go_wp2_with fail; go_ret; exact ⟨rfl, last_below HB.out hbel2⟩)

set_option maxRecDepth 100000 in
theorem lifted (os : Os) (started : os.Started) (H : Type) (enc : TypeId × Value → H) :
    ReturnsInHanded {} Try.checked os 6 .any (Rows.sumsLaidSpec.pre6 enc Try.prog Try.f6 Rows.sumsLaidRow.domain false) (Rows.sumsLaidSpec.post enc Try.prog Try.f6 false true false false) := by
  refine returnsInHanded_of_change_sized (C := Try.checked) own started (by kernel_rfl) Try.func6
    (ChangeSpec.witness6 (enc := enc) (C := Try.checked) false ⟨#[], #[.slice none 0 0, .slice none 0 0], []⟩ 8 (by kernel_rfl) (by kernel_rfl) (by kernel_rfl) (by kernel_rfl)) ?_
  intro W base args ds gs before hval0 hW hcnd hsz0 _
  have hsz : (DataW.weightsEach Try.prog (Try.f6.params.toList ++ Rows.sumsLaidSpec.plain.varTypes Try.prog) (ds ++ gs)).all (· ≤ reachBytes) = true := hsz0
  clear hsz0
  have hval : ∀ (j : Nat) t v, Try.f6.params[j]? = some t → args[j]? = some v → Value.okWide Try.prog W .any base t v := hval0
  have hW' := hW
  obtain ⟨p, q, hA0, hV, rfl, hfz, hnd⟩ := hW
  have hA : DataW.TrodAll enc Try.prog W 0 (fun _ => true) true Try.f6.params.toList args.toList ds p := hA0
  rw [Try.params6] at hA hval hsz
  obtain ⟨v0, vs0, d0, ds0, p0, q0, hargs, rfl, rfl, g0, t0⟩ := trodAll_cons hA
  obtain ⟨v1, vs1, d1, ds1, p1, q1, rfl, rfl, rfl, g1, t1⟩ := trodAll_cons t0
  obtain ⟨rfl, rfl, rfl⟩ := trodAll_nil t1
  obtain rfl : args = #[v0, v1] := by cases args; simp_all
  obtain ⟨rfl, rfl⟩ := trodVars_none hV
  obtain ⟨a0, len0, cap0, rfl⟩ := okWide_slice Try.underlying22 (hval 0 22 v0 rfl rfl)
  have m0 := g0
  have lt0 : ∀ x ∈ p0, x.block < W.heap.size := by obtain ⟨m, hm⟩ := m0; exact DataW.trod_lt m _ _ _ hm
  obtain ⟨l0, k0, rfl, n0, r0, z0⟩ : ∃ l, IsBytes W W.heap.size a0 l ∧ len0 = l.length ∧ l.length ≤ cap0 ∧ cap0 ≤ 140737488351232 ∧ (a0 = none → cap0 = 0) := by
    obtain ⟨fuel, hf⟩ := g0
    rcases open_ints Try.underlying22 Try.underlying5 (by kernel_rfl) hf with ⟨hcs, _⟩ | ⟨x, l, c, zs, hcs, _, hl, hm, hz, hx, hcell, hwz⟩
    · simp [Value.cells] at hcs
      obtain ⟨rfl, rfl, rfl⟩ := hcs
      exact ⟨[], IsBytes.nil, rfl, by simp, by omega, fun _ => rfl⟩
    · simp [Value.cells] at hcs
      obtain ⟨rfl, rfl, rfl⟩ := hcs
      simp only [Prod.mk.injEq] at hx
      obtain ⟨rfl, rfl⟩ := hx
      simp only [if_true] at hz
      have hr := sized_slice hsz (j := 0) (t := 22) (e := 5) rfl rfl Try.underlying22
      rw [bytesOf] at hr
      simp only [lits, List.length_map, List.length_take, List.length_drop, reachBytes] at hr
      obtain ⟨l, h1, h2⟩ := isBytes_of_ints hl hz hcell hwz
      exact ⟨l, h1, h2, by omega, by omega, fun h => by cases h⟩
  obtain ⟨a1, len1, cap1, rfl⟩ := okWide_slice Try.underlying22 (hval 1 22 v1 rfl rfl)
  have m1 := g1
  have lt1 : ∀ x ∈ p1, x.block < W.heap.size := by obtain ⟨m, hm⟩ := m1; exact DataW.trod_lt m _ _ _ hm
  obtain ⟨l1, k1, rfl, n1, r1, z1⟩ : ∃ l, IsBytes W W.heap.size a1 l ∧ len1 = l.length ∧ l.length ≤ cap1 ∧ cap1 ≤ 140737488351232 ∧ (a1 = none → cap1 = 0) := by
    obtain ⟨fuel, hf⟩ := g1
    rcases open_ints Try.underlying22 Try.underlying5 (by kernel_rfl) hf with ⟨hcs, _⟩ | ⟨x, l, c, zs, hcs, _, hl, hm, hz, hx, hcell, hwz⟩
    · simp [Value.cells] at hcs
      obtain ⟨rfl, rfl, rfl⟩ := hcs
      exact ⟨[], IsBytes.nil, rfl, by simp, by omega, fun _ => rfl⟩
    · simp [Value.cells] at hcs
      obtain ⟨rfl, rfl, rfl⟩ := hcs
      simp only [Prod.mk.injEq] at hx
      obtain ⟨rfl, rfl⟩ := hx
      simp only [if_true] at hz
      have hr := sized_slice hsz (j := 1) (t := 22) (e := 5) rfl rfl Try.underlying22
      rw [bytesOf] at hr
      simp only [lits, List.length_map, List.length_take, List.length_drop, reachBytes] at hr
      obtain ⟨l, h1, h2⟩ := isBytes_of_ints hl hz hcell hwz
      exact ⟨l, h1, h2, by omega, by omega, fun h => by cases h⟩
  clear hA0 hval0
  refine (walk a0 cap0 l0 a1 cap1 l1 W k0 n0 r0 z0 k1 n1 r1 z1).mono fun e W' ⟨he, bel⟩ => ?_
  subst he
  exact ⟨_, rfl, _, _, _, [], _, [], hW', trodAll_mk1 (shut_bool Try.underlying4 _), (trodAll_cons_mk (Below.trod laidOut (by kernel_rfl) (of_decide_eq_true (by kernel_rfl)) m0 bel lt0) (trodAll_cons_mk (Below.trod laidOut (by kernel_rfl) (of_decide_eq_true (by kernel_rfl)) m1 bel lt1) trodAll_mk0)), rfl, bel.frame _, fun h => by cases h⟩

theorem over : Rows.sumsLaidRow.holds Try.pinned (OpenSpec.ofChange Rows.sumsLaidSpec) :=
  OpenClaim.holds_of_wide 6 Try.f6 rfl rfl rfl rfl rfl rfl rfl ⟨rfl, rfl, rfl, rfl, rfl⟩ rfl rfl rfl rfl rfl (by kernel_rfl) Try.func6 (by kernel_rfl)
    (of_decide_eq_true (by kernel_rfl)) (by unfold Func.isWrapper; first | (rw [if_pos (by decide +kernel)]; kernel_rfl) | (rw [if_neg (by decide +kernel)]; exact ⟨rfl, rfl⟩))
    (fun os started H enc _ => lifted os started H enc)

theorem proved : Rows.SumsLaidSaid := over
end Go.Proofs.Ythhbncoeiplcbaa.sumsLaid
