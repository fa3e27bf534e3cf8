/- The walks through slices.Delete, at elements that take several cells. -/
import Derived.Test.YtckfjkhjnpkobaaRows
import Derived.Test.YtckfjkhjnpkobaaFlat
import Derived.WalkKit
import Derived.Deep.RegionLaw
import Derived.Lib.Walk
import Derived.Lib.SliceRun
namespace Go.Proofs.Ytckfjkhjnpkobaa
open Go.RowKit

theorem some_at (l : List Value) (j : Nat) (h : j < l.length) : (l[j]?).isSome = true := by rw [List.getElem?_eq_getElem h]; rfl
theorem info_transit : (Try.prog.info? 62).map (fun i => (i.zero, i.size, i.bytes)) = some (some (.agg #[.int .i64 0, .int .i64 0, .slice none 0 0, .bool false]), 4, 48) := by kernel_rfl
theorem info_link : (Try.prog.info? 66).map (fun i => (i.zero, i.size, i.bytes)) = some (some (.agg #[.int .i64 0, .int .i64 0]), 2, 16) := by kernel_rfl

set_option maxHeartbeats 4000000 in
set_option maxRecDepth 1000000 in
/-- one element is taken out of a row: transit -/
theorem del_transit {α : Type} {f : α → List Value} {F : Nat → Prop} {A : Option Addr} {c : Nat} {L : List α} (hone : ∀ x, ∀ u ∈ f x, u.oneCell' = true) (w : World) (h : RowIn f 4 62 w F A c L) (i : Nat) (hi : i < L.length) :
    Calls Try.prog 41 #[.slice A L.length c, .int .i64 (i : Int), .int .i64 ((i : Int) + 1)] w fun e w' =>
      e = .returned (.slice A (L.length - 1) c) ∧ RowIn f 4 62 w' F A c (L.eraseIdx i) ∧ Turned (fun k => blk A = some k) w w' := by
  obtain ⟨i0, hi0, hz0, HZ1, hz2⟩ := info_parts info_transit
  have hcap := h.cap
  have hmax := h.capLe
  unfold maxLen at hmax
  have hcl := flat_len f 4 h.fits L
  obtain ⟨g, rfl, hg, hFg, hget, hfz⟩ := h.get i hi
  obtain ⟨n, hn⟩ : ∃ n, L.length = n := ⟨_, rfl⟩
  have hrow := h.row
  rw [hn] at hrow hi hcap hcl
  obtain ⟨news, hnews⟩ : ∃ news, news = (L.flatMap f).drop ((i + 1) * 4) := ⟨_, rfl⟩
  have hlen : news.length = (n - (i + 1)) * 4 := by rw [hnews, List.length_drop, hcl]; omega
  have hwr : IntKind.i64.wrap ((i : Int) + 1) = (i : Int) + 1 := by rw [IntKind.wrap_i64]; omega
  have hp0 : (0 : Int) ≤ (i : Int) + 1 := by omega
  have hp1 : (i : Int) + 1 ≤ (n : Int) := by omega
  have hp2 : ((i : Int) + 1).toNat = i + 1 := by omega
  have hci : (i : Int) ≤ (i : Int) + 1 := by omega
  obtain ⟨A', hA', hsrc⟩ : ∃ A' : Addr, (if c = i + 1 then (some ⟨g, 0, none⟩ : Option Addr) else some ⟨g, (i + 1) * 4, none⟩) = some A' ∧ Hid (∀ t u, news[t]? = some u → w.drew.cell? (A'.add t) = some u) := by
    by_cases hc : c = i + 1
    · refine ⟨⟨g, 0, none⟩, by simp [hc], fun t u hu => ?_⟩
      have h0 : news.length = 0 := by rw [hlen]; omega
      rw [List.length_eq_zero_iff.1 h0] at hu
      simp at hu
    · refine ⟨⟨g, (i + 1) * 4, none⟩, by simp [hc], fun t u hu => ?_⟩
      have ht : t < (n - (i + 1)) * 4 := by
        have := (List.getElem?_eq_some_iff.1 hu).1
        rwa [hlen] at this
      rw [hnews, List.getElem?_drop] at hu
      rw [add_off]
      show w.cell? _ = _
      rw [hrow.cellAt _ (by omega)]
      exact hu
  have s1 : Hid (news.length = (n - (i + 1)) * 4) := hlen
  have s2 : Hid (∀ u ∈ news, u.oneCell' = true) := by
    intro u hu
    rw [hnews] at hu
    obtain ⟨x, _, hx⟩ := List.mem_flatMap.1 (List.mem_of_mem_drop hu)
    exact hone x u hx
  have s3 : Hid (∀ t, t < news.length → (w.drew.cell? ⟨g, 0 + i * 4 + t, none⟩).isSome = true ∧ w.drew.frozen? ⟨g, 0 + i * 4 + t, none⟩ = false) := by
    intro t ht
    rw [hlen] at ht
    refine ⟨?_, hrow.frozenAt _⟩
    show (w.cell? _).isSome = true
    rw [hrow.cellAt _ (by omega)]
    exact some_at _ _ (by rw [hcl]; omega)
  obtain ⟨W1, hW1⟩ : ∃ W1, W1 = w.drew.setCells g (0 + i * 4) news := ⟨_, rfl⟩
  have hrow0 : w.drew.ownsRow 0 62 4 (.slice (some ⟨g, 0, none⟩) n c) n (L.flatMap f) := hrow
  have hrow1 := ownsRow_setCells news w.drew (L.flatMap f) (0 + i * 4) hrow0
  have ht1 : Turned (fun k => k = g) w W1 := by rw [hW1]; exact (Turned.refl _ w).drew.trans (turned_setCells g news w.drew _)
  rw [← hW1] at hrow1
  have hst : (setL (L.flatMap f) (0 + i * 4) news).take ((n - 1) * 4) = (L.eraseIdx i).flatMap f := by
    have h1 := setL_take news (L.flatMap f) (0 + i * 4) (by rw [hlen, hcl]; omega)
    rw [show 0 + i * 4 + news.length = (n - 1) * 4 by rw [hlen]; omega] at h1
    rw [h1, ← flat_erase f 4 h.fits L i (by omega), hnews, Nat.zero_add]
  obtain ⟨zs, hzs0⟩ : ∃ zs : List Value, zs = [.int .i64 0, .int .i64 0, .slice none 0 0, .bool false] := ⟨_, rfl⟩
  have hzs : (Builtin.zeroCells (Value.cells (.agg #[.int .i64 0, .int .i64 0, .slice none 0 0, .bool false])) 1).toList = zs := by rw [hzs0]; kernel_rfl
  have hzl : zs.length = 4 := by rw [hzs0]; rfl
  have hz1 : ∀ u ∈ zs, u.oneCell' = true := by rw [hzs0]; intro u hu; simp at hu; rcases hu with rfl | rfl | rfl <;> rfl
  have hcl2 : ∀ ty, (Builtin.clear_ #[53] ty #[.slice (some ⟨g, (i + (n - (i + 1))) * 4, none⟩) (n - (i + (n - (i + 1)))) (c - (i + (n - (i + 1))))]).run Try.prog W1 = .ok (.tuple #[]) (W1.setCells g ((i + (n - (i + 1))) * 4) zs) := by
    intro ty
    have e1 : n - (i + (n - (i + 1))) = 1 := by omega
    refine run_clear_sliceN W1 _ 62 ty (.agg #[.int .i64 0, .int .i64 0, .slice none 0 0, .bool false]) zs _ _ Try.underlying53 (fun w => by kernel_rfl) (by rw [e1]; exact hzs) hz1 g _ (by omega) (fun t ht => ?_) (fun t ht => ?_)
    · rw [hzl] at ht
      rw [hrow1.cellAt _ (by omega)]
      exact some_at _ _ (by rw [hrow1.1]; omega)
    · exact hrow1.frozenAt _
  have hrow2 := ownsRow_shrink (ownsRow_setCells zs W1 _ ((i + (n - (i + 1))) * 4) hrow1) (show n - 1 ≤ n by omega)
  rw [setL_ahead _ _ _ _ (by omega), hst] at hrow2
  have ht2 := ht1.trans (turned_setCells g zs W1 ((i + (n - (i + 1))) * 4))
  have HR := hid (And.intro hrow2 ht2)
  have HH := hid (And.intro h (And.intro hn hFg))
  have hW : Hid (W1 = w.drew.setCells g (0 + i * 4) news) := hW1
  have hic : i ≤ c := by omega
  have hjc : i + 1 ≤ c := by omega
  rw [hn]
  clear hzs0 hW1 hrow hrow0 hrow1 hrow2 ht1 ht2 hst hget hfz hlen hnews hzl hz1 hzs hcl h
  go_enter Try.func41, Try.ntmps41
  go_wp2_with fail
  go_region_law (refine step_append_room rfl (.tmp 22) (.tmp 25) 53 rfl 62 i0 4 Try.underlying53 hi0 HZ1 g 0 i c (by simp [Act.eval, Act.put]) A' (n - (i + 1)) (c - (i + 1)) news (by simp [Act.eval, Act.put]) s1.out hsrc.out s2.out (by omega) s3.out ?_; rw [← hW.out])
  go_wp2
  go_ret
  refine ⟨by rw [show n - 1 = i + (n - (i + 1)) by omega]; rfl, ⟨HH.out.1.fits, ?_, HH.out.1.blk⟩, HR.out.2.mono (fun k hk => by subst hk; rfl)⟩
  rw [List.length_eraseIdx_of_lt (by rw [HH.out.2.1]; exact hi), HH.out.2.1]
  exact HR.out.1

set_option maxHeartbeats 4000000 in
set_option maxRecDepth 1000000 in
/-- one element is taken out of a row: link -/
theorem del_link {α : Type} {f : α → List Value} {F : Nat → Prop} {A : Option Addr} {c : Nat} {L : List α} (hone : ∀ x, ∀ u ∈ f x, u.oneCell' = true) (w : World) (h : RowIn f 2 66 w F A c L) (i : Nat) (hi : i < L.length) :
    Calls Try.prog 45 #[.slice A L.length c, .int .i64 (i : Int), .int .i64 ((i : Int) + 1)] w fun e w' =>
      e = .returned (.slice A (L.length - 1) c) ∧ RowIn f 2 66 w' F A c (L.eraseIdx i) ∧ Turned (fun k => blk A = some k) w w' := by
  obtain ⟨i0, hi0, hz0, HZ1, hz2⟩ := info_parts info_link
  have hcap := h.cap
  have hmax := h.capLe
  unfold maxLen at hmax
  have hcl := flat_len f 2 h.fits L
  obtain ⟨g, rfl, hg, hFg, hget, hfz⟩ := h.get i hi
  obtain ⟨n, hn⟩ : ∃ n, L.length = n := ⟨_, rfl⟩
  have hrow := h.row
  rw [hn] at hrow hi hcap hcl
  obtain ⟨news, hnews⟩ : ∃ news, news = (L.flatMap f).drop ((i + 1) * 2) := ⟨_, rfl⟩
  have hlen : news.length = (n - (i + 1)) * 2 := by rw [hnews, List.length_drop, hcl]; omega
  have hwr : IntKind.i64.wrap ((i : Int) + 1) = (i : Int) + 1 := by rw [IntKind.wrap_i64]; omega
  have hp0 : (0 : Int) ≤ (i : Int) + 1 := by omega
  have hp1 : (i : Int) + 1 ≤ (n : Int) := by omega
  have hp2 : ((i : Int) + 1).toNat = i + 1 := by omega
  have hci : (i : Int) ≤ (i : Int) + 1 := by omega
  obtain ⟨A', hA', hsrc⟩ : ∃ A' : Addr, (if c = i + 1 then (some ⟨g, 0, none⟩ : Option Addr) else some ⟨g, (i + 1) * 2, none⟩) = some A' ∧ Hid (∀ t u, news[t]? = some u → w.drew.cell? (A'.add t) = some u) := by
    by_cases hc : c = i + 1
    · refine ⟨⟨g, 0, none⟩, by simp [hc], fun t u hu => ?_⟩
      have h0 : news.length = 0 := by rw [hlen]; omega
      rw [List.length_eq_zero_iff.1 h0] at hu
      simp at hu
    · refine ⟨⟨g, (i + 1) * 2, none⟩, by simp [hc], fun t u hu => ?_⟩
      have ht : t < (n - (i + 1)) * 2 := by
        have := (List.getElem?_eq_some_iff.1 hu).1
        rwa [hlen] at this
      rw [hnews, List.getElem?_drop] at hu
      rw [add_off]
      show w.cell? _ = _
      rw [hrow.cellAt _ (by omega)]
      exact hu
  have s1 : Hid (news.length = (n - (i + 1)) * 2) := hlen
  have s2 : Hid (∀ u ∈ news, u.oneCell' = true) := by
    intro u hu
    rw [hnews] at hu
    obtain ⟨x, _, hx⟩ := List.mem_flatMap.1 (List.mem_of_mem_drop hu)
    exact hone x u hx
  have s3 : Hid (∀ t, t < news.length → (w.drew.cell? ⟨g, 0 + i * 2 + t, none⟩).isSome = true ∧ w.drew.frozen? ⟨g, 0 + i * 2 + t, none⟩ = false) := by
    intro t ht
    rw [hlen] at ht
    refine ⟨?_, hrow.frozenAt _⟩
    show (w.cell? _).isSome = true
    rw [hrow.cellAt _ (by omega)]
    exact some_at _ _ (by rw [hcl]; omega)
  obtain ⟨W1, hW1⟩ : ∃ W1, W1 = w.drew.setCells g (0 + i * 2) news := ⟨_, rfl⟩
  have hrow0 : w.drew.ownsRow 0 66 2 (.slice (some ⟨g, 0, none⟩) n c) n (L.flatMap f) := hrow
  have hrow1 := ownsRow_setCells news w.drew (L.flatMap f) (0 + i * 2) hrow0
  have ht1 : Turned (fun k => k = g) w W1 := by rw [hW1]; exact (Turned.refl _ w).drew.trans (turned_setCells g news w.drew _)
  rw [← hW1] at hrow1
  have hst : (setL (L.flatMap f) (0 + i * 2) news).take ((n - 1) * 2) = (L.eraseIdx i).flatMap f := by
    have h1 := setL_take news (L.flatMap f) (0 + i * 2) (by rw [hlen, hcl]; omega)
    rw [show 0 + i * 2 + news.length = (n - 1) * 2 by rw [hlen]; omega] at h1
    rw [h1, ← flat_erase f 2 h.fits L i (by omega), hnews, Nat.zero_add]
  obtain ⟨zs, hzs0⟩ : ∃ zs : List Value, zs = [.int .i64 0, .int .i64 0] := ⟨_, rfl⟩
  have hzs : (Builtin.zeroCells (Value.cells (.agg #[.int .i64 0, .int .i64 0])) 1).toList = zs := by rw [hzs0]; kernel_rfl
  have hzl : zs.length = 2 := by rw [hzs0]; rfl
  have hz1 : ∀ u ∈ zs, u.oneCell' = true := by rw [hzs0]; intro u hu; simp at hu; rcases hu with rfl <;> rfl
  have hcl2 : ∀ ty, (Builtin.clear_ #[54] ty #[.slice (some ⟨g, (i + (n - (i + 1))) * 2, none⟩) (n - (i + (n - (i + 1)))) (c - (i + (n - (i + 1))))]).run Try.prog W1 = .ok (.tuple #[]) (W1.setCells g ((i + (n - (i + 1))) * 2) zs) := by
    intro ty
    have e1 : n - (i + (n - (i + 1))) = 1 := by omega
    refine run_clear_sliceN W1 _ 66 ty (.agg #[.int .i64 0, .int .i64 0]) zs _ _ Try.underlying54 (fun w => by kernel_rfl) (by rw [e1]; exact hzs) hz1 g _ (by omega) (fun t ht => ?_) (fun t ht => ?_)
    · rw [hzl] at ht
      rw [hrow1.cellAt _ (by omega)]
      exact some_at _ _ (by rw [hrow1.1]; omega)
    · exact hrow1.frozenAt _
  have hrow2 := ownsRow_shrink (ownsRow_setCells zs W1 _ ((i + (n - (i + 1))) * 2) hrow1) (show n - 1 ≤ n by omega)
  rw [setL_ahead _ _ _ _ (by omega), hst] at hrow2
  have ht2 := ht1.trans (turned_setCells g zs W1 ((i + (n - (i + 1))) * 2))
  have HR := hid (And.intro hrow2 ht2)
  have HH := hid (And.intro h (And.intro hn hFg))
  have hW : Hid (W1 = w.drew.setCells g (0 + i * 2) news) := hW1
  have hic : i ≤ c := by omega
  have hjc : i + 1 ≤ c := by omega
  rw [hn]
  clear hzs0 hW1 hrow hrow0 hrow1 hrow2 ht1 ht2 hst hget hfz hlen hnews hzl hz1 hzs hcl h
  go_enter Try.func45, Try.ntmps45
  go_wp2_with fail
  go_region_law (refine step_append_room rfl (.tmp 22) (.tmp 25) 54 rfl 66 i0 2 Try.underlying54 hi0 HZ1 g 0 i c (by simp [Act.eval, Act.put]) A' (n - (i + 1)) (c - (i + 1)) news (by simp [Act.eval, Act.put]) s1.out hsrc.out s2.out (by omega) s3.out ?_; rw [← hW.out])
  go_wp2
  go_ret
  refine ⟨by rw [show n - 1 = i + (n - (i + 1)) by omega]; rfl, ⟨HH.out.1.fits, ?_, HH.out.1.blk⟩, HR.out.2.mono (fun k hk => by subst hk; rfl)⟩
  rw [List.length_eraseIdx_of_lt (by rw [HH.out.2.1]; exact hi), HH.out.2.1]
  exact HR.out.1
end Go.Proofs.Ytckfjkhjnpkobaa
