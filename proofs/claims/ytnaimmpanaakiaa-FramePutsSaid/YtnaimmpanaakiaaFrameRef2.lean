/- The walks through the document's answer: what it reads. -/
import Derived.Test.YtnaimmpanaakiaaFrameRef
namespace Go.Proofs.Ytnaimmpanaakiaa.Frame
open Go.RowKit

theorem n4_small (l : List Nat) (hl : l.length ≤ 3) (h : ∀ x ∈ l, x < 256) : Fr.n4 l < 16777216 := by
  match l, hl with
  | [], _ => decide
  | [a], _ => have := h a (by simp); simp only [Fr.n4, List.foldl_cons, List.foldl_nil]; omega
  | [a, b], _ =>
    have h1 := h a (by simp)
    have h2 := h b (by simp)
    simp only [Fr.n4, List.foldl_cons, List.foldl_nil]; omega
  | [a, b, c], _ =>
    have h1 := h a (by simp)
    have h2 := h b (by simp)
    have h3 := h c (by simp)
    simp only [Fr.n4, List.foldl_cons, List.foldl_nil]; omega
set_option maxHeartbeats 400000 in
theorem ref_number_any (B : Nat) (A : Option Addr) (c : Nat) (l : List Nat) (n : Nat) (hn : l.length = n) (k : Nat) (hk : k + 4 ≤ n) (hm : n ≤ 140737488355000) (w : World) (h : IsBytes w B A l) :
    Calls Try.prog 26 #[.slice A n c, .int .i64 k] w fun e w' => e = .returned (.int .i64 (Fr.n4 ((l.drop k).take 4) : Nat)) ∧ w = w' := by
  have HN := hid hn
  have hlen : (l.drop k).length = n - k := by rw [List.length_drop, hn]
  have HD := hid hlen
  have hsm : ∀ i, i ≤ 3 → Fr.n4 ((l.drop k).take i) < 16777216 := fun i hi => n4_small _ (by rw [List.length_take]; omega) (fun x hx => h.small x (List.mem_of_mem_drop (List.mem_of_mem_take hx)))
  have HSM := hid hsm
  clear hn hlen hsm
  go_enter Try.func26, Try.ntmps26
  go_wp2
  go_loop [5, 6] (fun v i => ∃ j m : Nat, j ≤ 4 ∧ i = .int .i64 j ∧ v = .int .i64 (m : Int) ∧ Hid (m = Fr.n4 ((l.drop k).take j))) (fun _ i => 4 - (intOf i).toNat)
  case atStart => exact ⟨0, 0, by omega, rfl, rfl, hid rfl⟩
  case round =>
    obtain ⟨j, m, hj, rfl, rfl, hs⟩ := hrel
    by_cases hlt : j < 4
    · have hkl : k + j < l.length := by rw [HN.out]; omega
      obtain ⟨b, off, rfl, _, hc⟩ := h.cells (k + j) hkl
      have hck := hc (k + j) hkl
      have hb8 := h.small l[k + j] (List.getElem_mem _)
      have hm7 : m < 16777216 := by rw [hs.out]; exact HSM.out j (by omega)
      have HX : Hid (m * 256 + l[k + j] = Fr.n4 ((l.drop k).take (j + 1))) := by
        show _ = _
        rw [List.take_succ_eq_append_getElem (by rw [HD.out]; omega), Fr.n4_snoc, ← hs.out, List.getElem_drop]
      obtain ⟨x, hx⟩ : ∃ x, x = l[k + j] := ⟨_, rfl⟩
      rw [← hx] at hck hb8 HX
      clear hc hx hkl
      go_wp2
      go_round
      case rel => exact ⟨j + 1, m * 256 + x, by omega, by go_num, by go_num, HX⟩
      case measure => simp [intOf] <;> omega
    · have e : m = Fr.n4 ((l.drop k).take 4) := by rw [hs.out, show j = 4 by omega]
      have HE := hid e
      clear e
      go_wp2
      go_ret
      exact ⟨ret_int (by rw [HE.out]), rfl⟩
theorem empty_own (w : World) : OwnsB 5 (w.alloc (.cells #[] 5)) w.heap.size (some ⟨w.heap.size, 0, none⟩) 0 [] :=
  ⟨by simp, rfl, .inr ⟨w.heap.size, 0, #[], rfl, Nat.le_refl _, heap_alloc_new w _, Nat.le_refl _, Nat.zero_le _, rfl, rfl⟩⟩
set_option maxHeartbeats 1600000 in
theorem ref_get_any (B : Nat) (A : Option Addr) (c : Nat) (l : List Nat) (n : Nat) (hn : l.length = n) (hm : n ≤ 140737488355000) (hc : n ≤ c) (w : World) (h : IsBytes w B A l) (hB : B ≤ w.heap.size) :
    Calls Try.prog 13 #[.slice A n c] w fun e w' => ∃ A' c', e = .returned (.tuple #[.slice A' (Fr.get l).1.length c', .int .i64 ((Fr.get l).2.1 : Nat), .int .i64 ((Fr.get l).2.2 : Nat)]) ∧ OwnsB 5 w' w.heap.size A' c' (Fr.get l).1 ∧ Below w.heap.size w w' := by
  obtain ⟨i0, hi, hz0, hz1, hz2⟩ := info_parts info_u8
  by_cases h8 : n < 8
  · have e : Fr.get l = ([], 0, 1) := by unfold Fr.get; rw [if_pos (by omega)]
    rw [e]
    go_enter Try.func13, Try.ntmps13
    go_wp2
    go_ret3
    exact ⟨none, 0, rfl, OwnsB.nil _ _ _, Below.refl _ _⟩
  · obtain ⟨b, off, rfl, _, _⟩ := h.cells 0 (by omega)
    have s4 : ∀ x ∈ l.take 4, x < 256 := fun x hx => h.small x (List.mem_of_mem_take hx)
    have s8 : ∀ x ∈ (l.drop 4).take 4, x < 256 := fun x hx => h.small x (List.mem_of_mem_drop (List.mem_of_mem_take hx))
    have hv := Fr.n4_lt (l.take 4) (by rw [List.length_take]; omega) s4
    obtain ⟨v, hve⟩ : ∃ v, v = Fr.n4 (l.take 4) := ⟨_, rfl⟩
    have R0 := hid (fun (w9 : World) (hb9 : Below w.heap.size w w9) => ref_number_any w.heap.size (some ⟨b, off, none⟩) c l n hn 0 (by omega) hm w9 ((h.more hB).below hb9))
    rw [List.drop_zero, ← hve] at R0
    rw [← hve] at hv
    have hd8 := h.from 8
    have ht4 := h.take 4
    have hq : c = 8 → IsBytes w B (some ⟨b, off, none⟩) (l.drop 8) := fun e => by
      rw [List.drop_of_length_le (by omega)]; exact IsBytes.nil
    by_cases hlong : 65536 < v
    · have e : Fr.get l = ([], 0, 2) := by unfold Fr.get; rw [if_neg (by omega), if_pos (by omega)]
      rw [e]
      clear hve hq hd8 ht4
      go_enter Try.func13, Try.ntmps13
      go_wp2_with fail
      refine (R0.out _ (Below.refl _ _)).mono ?_
      rintro e w1 ⟨rfl, rfl⟩
      go_wp2
      go_ret3
      exact ⟨none, 0, rfl, OwnsB.nil _ _ _, Below.refl _ _⟩
    · by_cases hshort : n - 8 < v
      · have e : Fr.get l = ([], 0, 1) := by unfold Fr.get; rw [if_neg (by omega), if_neg (by omega), if_pos (by omega)]
        rw [e]
        clear hve hq hd8 ht4
        go_enter Try.func13, Try.ntmps13
        go_wp2_with fail
        refine (R0.out _ (Below.refl _ _)).mono ?_
        rintro e w1 ⟨rfl, rfl⟩
        go_wp2
        go_ret3
        exact ⟨none, 0, rfl, OwnsB.nil _ _ _, Below.refl _ _⟩
      · obtain ⟨x, hx⟩ : ∃ x, x = Fr.n4 ((l.drop 4).take 4) := ⟨_, rfl⟩
        obtain ⟨y, hy⟩ : ∃ y, y = Fr.sum (l.take 4) ((l.drop 8).take v) := ⟨_, rfl⟩
        obtain ⟨y0, hy0⟩ : ∃ y0, y0 = Crc.more 0 (l.take 4) := ⟨_, rfl⟩
        have hy0' : y0 < 4294967296 := by rw [hy0]; exact Crc.more_lt 0 _ (by omega) s4
        have hyl : y < 4294967296 := by rw [hy]; exact Fr.sum_lt _ _ s4 (fun z hz => h.small z (List.mem_of_mem_drop (List.mem_of_mem_take hz)))
        have hl4 : (l.take 4).length = 4 := by rw [List.length_take]; omega
        have hlv : ((l.drop 8).take v).length = v := by rw [List.length_take, List.length_drop]; omega
        have R4 := hid (fun (w9 : World) (hb9 : Below w.heap.size w w9) => ref_number_any w.heap.size (some ⟨b, off, none⟩) c l n hn 4 (by omega) hm w9 ((h.more hB).below hb9))
        rw [← hx] at R4
        have S1 : ∀ w9, Below w.heap.size w w9 → ∀ j, Calls Try.prog 24 #[.slice (some ⟨b, off, none⟩) 4 c] (w9.drewN j) fun e w'' => e = .returned (.int .u32 y0) ∧ ∃ m, w'' = w9.drewN m := by
          intro w9 hb9 j
          have C := ref_of_any w.heap.size (some ⟨b, off, none⟩) c (l.take 4) (by rw [hl4]; unfold maxLen; omega) (w9.drewN j) (((ht4.more hB).below hb9).drewN j)
          rw [hl4, ← hy0] at C
          exact C.mono fun _ _ ⟨h1, h2⟩ => ⟨h1, j, h2.symm⟩
        have S2 : ∀ w9, Below w.heap.size w w9 → ∀ A4 c4, IsBytes w9 w9.heap.size A4 ((l.drop 8).take v) → ∀ j, Calls Try.prog 23 #[.int .u32 y0, .slice A4 v c4] (w9.drewN j) fun e w'' => e = .returned (.int .u32 y) ∧ ∃ m, w'' = w9.drewN m := by
          intro w9 hb9 A4 c4 ho j
          have C := ref_more_any y0 hy0' w9.heap.size A4 c4 ((l.drop 8).take v) (by rw [hlv]; unfold maxLen; omega) (w9.drewN j) (ho.drewN j)
          rw [hlv] at C
          have e : Crc.more y0 ((l.drop 8).take v) = y := by rw [hy, hy0]; rfl
          rw [e] at C
          exact C.mono fun _ _ ⟨h1, h2⟩ => ⟨h1, j, h2.symm⟩
        have HOF := hid S1
        have HS := hid S2
        have hlv2 := hid hlv
        have hve2 := hid hve
        have hx2 := hid hx
        have hy2 := hid hy
        have hb3 : v ≤ c - 8 := by omega
        clear S1 S2 ht4 hl4 hlv hve hx hy hy0 s4 s8
        by_cases hsum : x = y
        · have e : Fr.get l = ((l.drop 8).take v, 8 + v, 0) := by
            unfold Fr.get; rw [← hve2.out, if_neg (by omega), if_neg (by omega), if_neg (by omega), ← hx2.out, ← hy2.out, if_neg (by simp [hsum])]
          rw [e]
          have hb : ((x : Int) != (y : Int)) = false := by rw [hsum]; simp
          clear hsum e
          by_cases hc8 : c = 8
          · have q := hq hc8
            clear hd8 hq
            subst hc8
            obtain rfl : v = 0 := by omega
            have hvb : 0 + 0 ≤ 140737488355328 := by omega
            have q2 : IsBytes (w.alloc (.cells #[] 5)) w.heap.size _ ((l.drop 8).take 0) := ((q.take 0).more hB).below ((Below.refl _ _).alloc (Nat.le_refl _) _)
            go_enter Try.func13, Try.ntmps13
            go_wp2_with fail
            refine (R0.out _ (Below.refl _ _)).mono ?_
            rintro e w1 ⟨rfl, rfl⟩
            go_wp2_with (at_builtin; refine wpList_append_bytesN rfl _ _ 22 rfl w.heap.size 5 i0 Try.underlying22 hi hz0 hz1 hz2 (some ⟨w.heap.size, 0, none⟩) 0 [] 0 rfl rfl (empty_own w) w.heap.size (some ⟨b, off, none⟩) 0 ((l.drop 8).take 0) 0 hlv2.out rfl (fun h => by cases h) q2 _ (List.nil_append _) hvb (by simp) ?_)
            intro A4 c4 w4 ho4 hb4'
            have hb4 : Below w.heap.size w w4 := ((Below.refl _ _).alloc (Nat.le_refl _) _).trans hb4'
            have hr4 : IsBytes w4 w4.heap.size A4 ((l.drop 8).take 0) := ho4.reads
            have HM := hid (HS.out w4 hb4 A4 c4 hr4)
            clear q q2 hb4' hr4
            go_wp2
            go_quiet (first
              | (go_at_call 26; exact (R4.out _ (below_drewN hb4 _)).mono fun _ _ ⟨h1, h2⟩ => ⟨h1, _, h2.symm⟩)
              | (go_at_call 24; exact HOF.out _ hb4 _)
              | (go_at_call 23; exact HM.out _))
            go_wp2
            go_ret3
            exact ⟨A4, c4, get_ret hlv2.out.symm (by omega), ho4.drewN _, below_drewN hb4 _⟩
          · have q := hd8
            clear hd8 hq
            have hvb : 0 + v ≤ 140737488355328 := by omega
            have q2 : IsBytes (w.alloc (.cells #[] 5)) w.heap.size _ ((l.drop 8).take v) := ((q.take v).more hB).below ((Below.refl _ _).alloc (Nat.le_refl _) _)
            go_enter Try.func13, Try.ntmps13
            go_wp2_with fail
            refine (R0.out _ (Below.refl _ _)).mono ?_
            rintro e w1 ⟨rfl, rfl⟩
            go_wp2_with (at_builtin; refine wpList_append_bytesN rfl _ _ 22 rfl w.heap.size 5 i0 Try.underlying22 hi hz0 hz1 hz2 (some ⟨w.heap.size, 0, none⟩) 0 [] 0 rfl rfl (empty_own w) w.heap.size (some ⟨b, off + 8, none⟩) (c - 8) ((l.drop 8).take v) _ (by have := hlv2.out; omega) rfl (fun h => by cases h) q2 _ (List.nil_append _) (by omega) (by simp) ?_)
            intro A4 c4 w4 ho4 hb4'
            have hb4 : Below w.heap.size w w4 := ((Below.refl _ _).alloc (Nat.le_refl _) _).trans hb4'
            have hr4 : IsBytes w4 w4.heap.size A4 ((l.drop 8).take v) := ho4.reads
            have HM := hid (HS.out w4 hb4 A4 c4 hr4)
            clear q q2 hb4' hr4
            go_wp2
            go_quiet (first
              | (go_at_call 26; exact (R4.out _ (below_drewN hb4 _)).mono fun _ _ ⟨h1, h2⟩ => ⟨h1, _, h2.symm⟩)
              | (go_at_call 24; exact HOF.out _ hb4 _)
              | (go_at_call 23; exact HM.out _))
            go_wp2
            go_ret3
            exact ⟨A4, c4, get_ret hlv2.out.symm (by omega), ho4.drewN _, below_drewN hb4 _⟩
        · have e : Fr.get l = ([], 0, 5) := by
            unfold Fr.get; rw [← hve2.out, if_neg (by omega), if_neg (by omega), if_neg (by omega), ← hx2.out, ← hy2.out, if_pos hsum]
          rw [e]
          have hb : ((x : Int) != (y : Int)) = true := by rw [bne_iff_ne]; omega
          clear hsum e
          by_cases hc8 : c = 8
          · have q := hq hc8
            clear hd8 hq
            subst hc8
            obtain rfl : v = 0 := by omega
            have hvb : 0 + 0 ≤ 140737488355328 := by omega
            have q2 : IsBytes (w.alloc (.cells #[] 5)) w.heap.size _ ((l.drop 8).take 0) := ((q.take 0).more hB).below ((Below.refl _ _).alloc (Nat.le_refl _) _)
            go_enter Try.func13, Try.ntmps13
            go_wp2_with fail
            refine (R0.out _ (Below.refl _ _)).mono ?_
            rintro e w1 ⟨rfl, rfl⟩
            go_wp2_with (at_builtin; refine wpList_append_bytesN rfl _ _ 22 rfl w.heap.size 5 i0 Try.underlying22 hi hz0 hz1 hz2 (some ⟨w.heap.size, 0, none⟩) 0 [] 0 rfl rfl (empty_own w) w.heap.size (some ⟨b, off, none⟩) 0 ((l.drop 8).take 0) 0 hlv2.out rfl (fun h => by cases h) q2 _ (List.nil_append _) hvb (by simp) ?_)
            intro A4 c4 w4 ho4 hb4'
            have hb4 : Below w.heap.size w w4 := ((Below.refl _ _).alloc (Nat.le_refl _) _).trans hb4'
            have hr4 : IsBytes w4 w4.heap.size A4 ((l.drop 8).take 0) := ho4.reads
            have HM := hid (HS.out w4 hb4 A4 c4 hr4)
            clear q q2 hb4' hr4
            go_wp2
            go_quiet (first
              | (go_at_call 26; exact (R4.out _ (below_drewN hb4 _)).mono fun _ _ ⟨h1, h2⟩ => ⟨h1, _, h2.symm⟩)
              | (go_at_call 24; exact HOF.out _ hb4 _)
              | (go_at_call 23; exact HM.out _))
            go_wp2
            go_ret3
            exact ⟨none, 0, rfl, OwnsB.nil _ _ _, below_drewN hb4 _⟩
          · have q := hd8
            clear hd8 hq
            have hvb : 0 + v ≤ 140737488355328 := by omega
            have q2 : IsBytes (w.alloc (.cells #[] 5)) w.heap.size _ ((l.drop 8).take v) := ((q.take v).more hB).below ((Below.refl _ _).alloc (Nat.le_refl _) _)
            go_enter Try.func13, Try.ntmps13
            go_wp2_with fail
            refine (R0.out _ (Below.refl _ _)).mono ?_
            rintro e w1 ⟨rfl, rfl⟩
            go_wp2_with (at_builtin; refine wpList_append_bytesN rfl _ _ 22 rfl w.heap.size 5 i0 Try.underlying22 hi hz0 hz1 hz2 (some ⟨w.heap.size, 0, none⟩) 0 [] 0 rfl rfl (empty_own w) w.heap.size (some ⟨b, off + 8, none⟩) (c - 8) ((l.drop 8).take v) _ (by have := hlv2.out; omega) rfl (fun h => by cases h) q2 _ (List.nil_append _) (by omega) (by simp) ?_)
            intro A4 c4 w4 ho4 hb4'
            have hb4 : Below w.heap.size w w4 := ((Below.refl _ _).alloc (Nat.le_refl _) _).trans hb4'
            have hr4 : IsBytes w4 w4.heap.size A4 ((l.drop 8).take v) := ho4.reads
            have HM := hid (HS.out w4 hb4 A4 c4 hr4)
            clear q q2 hb4' hr4
            go_wp2
            go_quiet (first
              | (go_at_call 26; exact (R4.out _ (below_drewN hb4 _)).mono fun _ _ ⟨h1, h2⟩ => ⟨h1, _, h2.symm⟩)
              | (go_at_call 24; exact HOF.out _ hb4 _)
              | (go_at_call 23; exact HM.out _))
            go_wp2
            go_ret3
            exact ⟨none, 0, rfl, OwnsB.nil _ _ _, below_drewN hb4 _⟩
theorem ref_get_N (B : Nat) (A : Option Addr) (c : Nat) (l : List Nat) (n : Nat) (hn : l.length = n) (hm : n ≤ 140737488355000) (hc : n ≤ c) (w : World) (h : IsBytes w B A l) (hB : B ≤ w.heap.size)
    (p : List Nat) (m e : Nat) (hg : Fr.get l = (p, m, e)) (k : Nat) (hk : p.length = k) (mi ei : Int) (hmi : (m : Int) = mi) (hei : (e : Int) = ei) :
    Calls Try.prog 13 #[.slice A n c] w fun x w' => ∃ A' c', x = .returned (.tuple #[.slice A' k c', .int .i64 mi, .int .i64 ei]) ∧ OwnsB 5 w' w.heap.size A' c' p ∧ Below w.heap.size w w' := by
  have C := ref_get_any B A c l n hn hm hc w h hB
  rw [hg] at C
  subst hk
  subst hmi
  subst hei
  exact C
theorem ref_put_all (B : Nat) (A : Option Addr) (c : Nat) (l : List Nat) (n : Nat) (hn : l.length = n) (w : World) (h : IsBytes w B A l) (hB : B ≤ w.heap.size)
    (p : List Nat) (e : Nat) (hp : putOf l = (p, e)) (k : Nat) (hk : p.length = k) (ei : Int) (hei : (e : Int) = ei) :
    Calls Try.prog 11 #[.slice A n c] w fun x w' => ∃ A' c', x = .returned (.tuple #[.slice A' k c', .int .i64 ei]) ∧ OwnsB 5 w' w.heap.size A' c' p ∧ Below w.heap.size w w' := by
  subst hk
  subst hei
  unfold putOf at hp
  by_cases hl : 65536 < l.length
  · rw [if_pos hl] at hp
    injection hp with h1 h2
    subst h1
    subst h2
    refine (ref_put_long A c n (by omega) w).mono ?_
    rintro x w' ⟨rfl, rfl⟩
    exact ⟨none, 0, rfl, OwnsB.nil _ _ _, Below.refl _ _⟩
  · rw [if_neg hl] at hp
    injection hp with h1 h2
    subst h1
    subst h2
    have C := ref_put_any B A c l n hn (by omega) w h hB
    rw [show (Fr.frame l).length = 8 + n from by rw [Fr.frame_length, hn]]
    exact C
end Go.Proofs.Ytnaimmpanaakiaa.Frame
