/- Texts of the proof, one behind the other: MsF, PackInt, KitSame, KitBytes, PackBlob. -/
import Derived.Test.YtpigekbfngalbaaDoorPartAE
import Derived.Test.YtpigekbfngalbaaDoorRows
import Derived.Test.YtpigekbfngalbaaDoorPartAD
import Derived.Test.YtpigekbfngalbaaDoorPartAA
import Derived.Test.YtpigekbfngalbaaDoorPartAB
namespace Go.Proofs.YtpigekbfngalbaaDoor.Ms
open Go.RowKit
set_option maxRecDepth 100000
attribute [local go_sem ↓] loadAt_msg

/-- not too great to reckon with -/
structure Small (m : M) : Prop where
  es : m.es.length ≤ 100000
  wt : weigh m.es ≤ 1000000000
  d : m.d.length ≤ 1000000000
def sumTo (m : M) (j : Nat) : Nat := 8 * (head ++ tab m.kind).length + (24 * j + weigh (m.es.take j))
theorem sumTo_next (m : M) (j : Nat) (h : j < m.es.length) : sumTo m (j + 1) = sumTo m j + (24 + m.es[j].d.length) := by
  unfold sumTo; rw [weigh_take _ _ h]; omega
theorem sumTo_le (m : M) (j : Nat) (hs : Small m) (h : j ≤ m.es.length) : sumTo m j ≤ 1003000000 := by
  unfold sumTo
  have h1 := weigh_le m.es j
  have h2 := hs.wt
  have h3 := hs.es
  have h4 : (head ++ tab m.kind).length ≤ 10 := by rw [List.length_append]; have := tab_length m.kind; have : head.length = 3 := rfl; omega
  omega
theorem sumTo_all (m : M) : sumTo m m.es.length + m.d.length = m.size := by unfold sumTo M.size; rw [List.take_length]
theorem size_le (m : M) (hs : Small m) : m.size ≤ 2010000000 := by
  rw [← sumTo_all]; have := sumTo_le m _ hs (Nat.le_refl _); have := hs.d; omega

set_option maxHeartbeats 1600000 in
theorem size_any (m : M) (A : Option Addr) (c : Nat) (A' : Option Addr) (c' : Nat) (w : World) (hk : m.isKind = true) (hT : Tab w) (h : IsEnts w w.heap.size A m.es) (hs : Small m) :
    Calls Tryd.prog 36 #[.agg #[.int .i64 m.K, .int .i64 m.F, .int .i64 m.T, .int .i64 m.g, .int .i64 m.t, .int .i64 m.i, .int .i64 m.p, .int .i64 m.c, .int .i64 m.r, .int .i64 m.x, .int .i64 m.a, .int .i64 m.b, .int .i64 m.v, .int .i64 m.s, .bool m.ok, .slice A m.es.length c, .slice A' m.d.length c']] w fun e w' => e = .returned (.int .i64 ((m.size : Nat) : Int)) ∧ Below w.heap.size w w' := by
  obtain ⟨k, hK, hk1, hk2, hkind⟩ := kind_of hk
  have hpos := hT.pos
  have k0 : 0 ≤ m.K := by omega
  have k12 : m.K < 12 := by omega
  have HKK : Hid (m.kind = m.K.toNat ∧ m.K.toNat < 12) := ⟨rfl, by omega⟩
  have ht : w.cell? ⟨0, m.K.toNat, none⟩ = some (.string (strOf (tab m.kind))) := hT _ HKK.out.2
  have hsz : (strOf (tab m.kind)).size = (tab m.kind).length := strOf_size _
  have htl := tab_length m.kind
  have HE := hid (And.intro h hs)
  have hesl := hs.es
  have hdl := hs.d
  clear hK hk1 hk2 hkind hk hT h hs
  go_enter Tryd.func36, Tryd.ntmps36
  go_wp2
  have HB0 : Hid (Bx (w.alloc (.cells #[.int .i64 m.K, .int .i64 m.F, .int .i64 m.T, .int .i64 m.g, .int .i64 m.t, .int .i64 m.i, .int .i64 m.p, .int .i64 m.c, .int .i64 m.r, .int .i64 m.x, .int .i64 m.a, .int .i64 m.b, .int .i64 m.v, .int .i64 m.s, .bool m.ok, .slice A m.es.length c, .slice A' m.d.length c'] 25)) w.heap.size m A c A' c' ∧ Below w.heap.size w (w.alloc (.cells #[.int .i64 m.K, .int .i64 m.F, .int .i64 m.T, .int .i64 m.g, .int .i64 m.t, .int .i64 m.i, .int .i64 m.p, .int .i64 m.c, .int .i64 m.r, .int .i64 m.x, .int .i64 m.a, .int .i64 m.b, .int .i64 m.v, .int .i64 m.s, .bool m.ok, .slice A m.es.length c, .slice A' m.d.length c'] 25))) := ⟨⟨heap_alloc_new w _⟩, (Below.refl _ w).alloc (Nat.le_refl _) _⟩
  clear ht
  go_loopw [3, 5, 16] (fun n _ i wr => ∃ j : Nat, j ≤ m.es.length ∧ i = .int .i64 (j : Int) ∧ n = .int .i64 ((sumTo m j : Nat) : Int) ∧ Hid (Bx wr w.heap.size m A c A' c') ∧ Hid (Below w.heap.size w wr)) (fun _ _ i _ => m.es.length - (RowKit.intOf i).toNat)
  case atStart =>
    refine ⟨0, Nat.zero_le _, rfl, ?_, HB0.out.1, HB0.out.2⟩
    have e : sumTo m 0 = 8 * (3 + (tab m.kind).length) := by
      have : head.length = 3 := rfl
      unfold sumTo weigh; rw [List.length_append, this]; simp
    rw [e]; congr 1 <;> omega
  case round =>
    clear HB0
    obtain ⟨j, hj, rfl, rfl, HBx, HB⟩ := hrel
    have hle := sumTo_le m j HE.out.2 hj
    by_cases hlt : j < m.es.length
    · have hA := HE.out.1.cells j hlt
      obtain ⟨b, off, hA, hb, hcs⟩ := hA
      have HEn := hid ((hcs j hlt).below hb HB.out)
      have hdl2 : m.es[j].d.length ≤ 1000000000 := Nat.le_trans (weigh_mem (List.getElem_mem hlt)) HE.out.2.wt
      have HS : Hid (sumTo m (j + 1) = sumTo m j + (24 + m.es[j].d.length)) := sumTo_next m j hlt
      subst hA
      obtain ⟨A3, c3, e0, e1, e2, _, _, _⟩ := HEn.out
      have HBN : Hid (∀ o : Obj, Below w.heap.size w (wr.alloc o) ∧ Bx (wr.alloc o) w.heap.size m (some ⟨b, off, none⟩) c A' c') := fun o => ⟨HB.out.alloc HB.out.size _, HBx.out.below ((Below.refl _ wr).alloc (Nat.le_refl _) o) (row_lt HBx.out.row)⟩
      clear hcs HEn HB HBx hb
      go_wp2_with fail
      go_roundw
      case rel =>
        refine ⟨j + 1, by omega, by go_num, ?_, hid (HBN.out _).2, hid (HBN.out _).1⟩
        rw [HS.out]; congr 1 <;> omega
      case measure => simp [RowKit.intOf]; omega
    · obtain rfl : j = m.es.length := by omega
      have hc16 := HBx.out.c16
      have HS : Hid (sumTo m m.es.length + m.d.length = m.size) := sumTo_all m
      go_wp2_with fail
      go_ret
      refine ⟨?_, HB.out⟩
      rw [← HS.out]
      congr 2 <;> omega
/-- a message that came in -/
structure Inp (w : World) (m : M) (A : Option Addr) : Prop where
  T : Tab w
  es : IsEnts w w.heap.size A m.es
  small : Small m
theorem Inp.low {w w' : World} {m : M} {A : Option Addr} (h : Inp w m A) (hb : Below w.heap.size w w') : Inp w' m A := ⟨h.T.below hb h.T.pos, (h.es.below hb).more hb.size, h.small⟩
set_option maxHeartbeats 1600000 in
theorem check_any (m : M) (A : Option Addr) (c : Nat) (A' : Option Addr) (c' : Nat) (w : World) (h : Inp w m A) :
    Calls Tryd.prog 13 #[.agg #[.int .i64 m.K, .int .i64 m.F, .int .i64 m.T, .int .i64 m.g, .int .i64 m.t, .int .i64 m.i, .int .i64 m.p, .int .i64 m.c, .int .i64 m.r, .int .i64 m.x, .int .i64 m.a, .int .i64 m.b, .int .i64 m.v, .int .i64 m.s, .bool m.ok, .slice A m.es.length c, .slice A' m.d.length c']] w fun e w' => e = .returned (.int .i64 ((check m : Nat) : Int)) ∧ Below w.heap.size w w' := by
  have HI := hid h
  have hesl := h.small.es
  have hsz := size_le m h.small
  clear h
  have HBx : Hid (Bx (w.alloc (.cells #[.int .i64 m.K, .int .i64 m.F, .int .i64 m.T, .int .i64 m.g, .int .i64 m.t, .int .i64 m.i, .int .i64 m.p, .int .i64 m.c, .int .i64 m.r, .int .i64 m.x, .int .i64 m.a, .int .i64 m.b, .int .i64 m.v, .int .i64 m.s, .bool m.ok, .slice A m.es.length c, .slice A' m.d.length c'] 25)) w.heap.size m A c A' c' ∧ Below w.heap.size w (w.alloc (.cells #[.int .i64 m.K, .int .i64 m.F, .int .i64 m.T, .int .i64 m.g, .int .i64 m.t, .int .i64 m.i, .int .i64 m.p, .int .i64 m.c, .int .i64 m.r, .int .i64 m.x, .int .i64 m.a, .int .i64 m.b, .int .i64 m.v, .int .i64 m.s, .bool m.ok, .slice A m.es.length c, .slice A' m.d.length c'] 25))) := ⟨⟨heap_alloc_new w _⟩, (Below.refl _ w).alloc (Nat.le_refl _) _⟩
  have HCK : Hid (check m = if m.isKind = false then 13 else if m.foreign = true then 14 else if m.inRange = false then 3 else if 1024 < m.es.length ∨ 65536 < m.size then 2 else 0) := rfl
  have hld := ld_new w 25 #[.int .i64 m.K, .int .i64 m.F, .int .i64 m.T, .int .i64 m.g, .int .i64 m.t, .int .i64 m.i, .int .i64 m.p, .int .i64 m.c, .int .i64 m.r, .int .i64 m.x, .int .i64 m.a, .int .i64 m.b, .int .i64 m.v, .int .i64 m.s, .bool m.ok, .slice A m.es.length c, .slice A' m.d.length c'] rfl
  obtain ⟨b1, hb1⟩ : ∃ b, b = m.isKind := ⟨_, rfl⟩
  have H1 := hid hb1
  have HK := isKind_any m
  rw [← hb1] at HK
  have HKK := hid HK
  clear HK hb1
  go_enter Tryd.func13, Tryd.ntmps13
  go_wp2_with fail
  refine (HKK.out _).mono ?_
  rintro e w1 ⟨rfl, rfl⟩
  cases b1
  · go_wp2_with fail
    go_ret
    rw [HCK.out, if_pos H1.out.symm]
    exact ⟨rfl, HBx.out.2⟩
  have HF := foreign_any m A c A' c' (w.alloc (.cells #[.int .i64 m.K, .int .i64 m.F, .int .i64 m.T, .int .i64 m.g, .int .i64 m.t, .int .i64 m.i, .int .i64 m.p, .int .i64 m.c, .int .i64 m.r, .int .i64 m.x, .int .i64 m.a, .int .i64 m.b, .int .i64 m.v, .int .i64 m.s, .bool m.ok, .slice A m.es.length c, .slice A' m.d.length c'] 25)) H1.out.symm (HI.out.low HBx.out.2).T
  obtain ⟨b2, hb2⟩ : ∃ b, b = m.foreign := ⟨_, rfl⟩
  rw [← hb2] at HF
  have H2 := hid hb2
  have HFF := hid HF
  clear HF hb2
  go_wp2_with fail
  refine HFF.out.mono ?_
  rintro e w1 ⟨rfl, hbw⟩
  have HB1 := hid (HBx.out.2.trans (hbw.mono HBx.out.2.size))
  have HX1 := hid (HBx.out.1.below hbw (row_lt HBx.out.1.row))
  have hld1 := HX1.out.load
  have hc15 := HX1.out.c15
  clear hbw hld
  cases b2
  rotate_left
  · go_wp2_with fail
    go_ret
    rw [HCK.out, if_neg (by rw [← H1.out]; decide), if_pos H2.out.symm]
    exact ⟨rfl, HB1.out⟩
  have HR := inRange_any m A c A' c' w1 H1.out.symm (HI.out.low HB1.out).T (HI.out.low HB1.out).es (by omega)
  obtain ⟨b3, hb3⟩ : ∃ b, b = m.inRange := ⟨_, rfl⟩
  rw [← hb3] at HR
  have H3 := hid hb3
  have HRR := hid HR
  clear HR hb3
  go_wp2_with fail
  refine HRR.out.mono ?_
  rintro e w2 ⟨rfl, hbw⟩
  have HB2 := hid (HB1.out.trans (hbw.mono HB1.out.size))
  have HX2 := hid (HX1.out.below hbw (row_lt HX1.out.row))
  have hld2 := HX2.out.load
  have hc15' := HX2.out.c15
  clear hbw hld1 hc15
  cases b3
  · go_wp2_with fail
    go_ret
    rw [HCK.out, if_neg (by rw [← H1.out]; decide), if_neg (by rw [← H2.out]; decide), if_pos H3.out.symm]
    exact ⟨rfl, HB2.out⟩
  have HC2 : Hid (check m = if 1024 < m.es.length ∨ 65536 < m.size then 2 else 0) := by
    show _ = _
    rw [HCK.out, if_neg (by rw [← H1.out]; decide), if_neg (by rw [← H2.out]; decide), if_neg (by rw [← H3.out]; decide)]
  by_cases hlong : 1024 < m.es.length
  · go_wp2_with fail
    go_ret
    rw [HC2.out, if_pos (Or.inl hlong)]
    exact ⟨rfl, HB2.out⟩
  have HS := hid (size_any m A c A' c' w2 H1.out.symm (HI.out.low HB2.out).T (HI.out.low HB2.out).es HI.out.small)
  by_cases hsize : 65536 < m.size
  · go_wp2_with fail
    refine HS.out.mono ?_
    rintro e w3 ⟨rfl, hbw⟩
    have HB3 := hid (HB2.out.trans (hbw.mono HB2.out.size))
    clear hbw hld2
    go_wp2_with fail
    go_ret
    rw [HC2.out, if_pos (Or.inr hsize)]
    exact ⟨rfl, HB3.out⟩
  · go_wp2_with fail
    refine HS.out.mono ?_
    rintro e w3 ⟨rfl, hbw⟩
    have HB3 := hid (HB2.out.trans (hbw.mono HB2.out.size))
    clear hbw hld2
    go_wp2_with fail
    go_ret
    rw [HC2.out, if_neg (by omega)]
    exact ⟨rfl, HB3.out⟩
end Go.Proofs.YtpigekbfngalbaaDoor.Ms
namespace Go.Proofs.YtpigekbfngalbaaDoor
open Go.RowKit

theorem enc_take (v : Int) (k : Nat) (h : k < 8) : (Pk.enc v).take (k + 1) = (Pk.enc v).take k ++ [Pk.byteOf v (7 - k)] := by
  match k, h with
  | 0, _ => rfl
  | 1, _ => rfl
  | 2, _ => rfl
  | 3, _ => rfl
  | 4, _ => rfl
  | 5, _ => rfl
  | 6, _ => rfl
  | 7, _ => rfl
theorem byteOf_val (v : Int) (k : Nat) : ((Pk.byteOf v k : Nat) : Int) = v / 2 ^ (8 * k) % 256 := by
  unfold Pk.byteOf
  have := Int.emod_nonneg (v / 2 ^ (8 * k)) (show (256 : Int) ≠ 0 by decide)
  omega
theorem bytes_one (l : List Nat) (x : Nat) : bytes l ++ [Value.int .u8 (x : Int)] = bytes (l ++ [x]) := by unfold bytes; simp

set_option maxHeartbeats 400000 in
theorem put_any (base : Nat) (A : Option Addr) (c : Nat) (l : List Nat) (v : Int) (hv : InInt v) (hl : l.length ≤ 140737488355000) (w : World) (h : OwnsB 5 w base A c l) (hB : base ≤ w.heap.size) :
    Calls Tryd.prog 96 #[.slice A l.length c, .int .i64 v] w fun e w' => ∃ A' c', e = .returned (.slice A' (l.length + 8) c') ∧ OwnsB 5 w' base A' c' (l ++ Pk.enc v) ∧ Below base w w' := by
  obtain ⟨i0, hi, hz0, hz1, hz2⟩ := info_parts info_u8
  have hv1 := hv.1
  have hv2 := hv.2
  go_enter Tryd.func96, Tryd.ntmps96
  go_wp2
  go_loopw [0, 5] (fun b i wr => ∃ k : Nat, ∃ A1 : Option Addr, ∃ c1 : Nat, k ≤ 8 ∧ i = .int .i64 (56 - 8 * (k : Int)) ∧ b = .slice A1 (l.length + k) c1 ∧ OwnsB 5 wr base A1 c1 (l ++ (Pk.enc v).take k) ∧ Below base w wr) (fun _ i _ => (RowKit.intOf i + 8).toNat)
  case atStart => exact ⟨0, A, c, by omega, rfl, rfl, by simpa using h, Below.refl _ _⟩
  case round =>
    clear h
    obtain ⟨k, A1, c1, hk, rfl, rfl, hown, hbel⟩ := hrel
    have hlen : (l ++ (Pk.enc v).take k).length = l.length + k := by rw [List.length_append, List.length_take, Pk.enc_length]; omega
    have hrow := hown.row
    rw [hlen] at hrow
    have HR := hid (And.intro hown.small hlen)
    clear hown hlen
    by_cases hlt : k < 8
    · obtain ⟨m, hm⟩ : ∃ m : Nat, 56 - 8 * (k : Int) = (m : Int) := ⟨56 - 8 * k, by omega⟩
      have HM := hid hm
      rw [hm]
      have hm0 : m ≤ 56 := by omega
      clear hm
      have hx := byteOf_val v (7 - k)
      rw [show 8 * (7 - k) = m from by have := HM.out; omega] at hx
      have HX := hid hx
      clear hx
      go_wp2_with (at_builtin; refine wpList_append_own _ rfl _ _ 23 rfl base 5 i0 (.int .u8 0) 1 1 Tryd.underlying23 hi hz0 hz1 hz2 rfl (by decide) _ _ _ rfl (hrow.alloc _) ⟨wr.heap.size, 0, none⟩ 1 1 [.int .u8 (v / 2 ^ m % 256)] rfl rfl ?c1 ?c2 ?c3 ?c4 ?c5 ?_)
      case c1 =>
        intro j u hj
        match j, hj with
        | 0, hj => simp at hj; subst hj; simp [Addr.add]
      case c2 => intro u hu; simp at hu; subst hu; rfl
      case c3 => unfold maxLen; omega
      case c4 => omega
      case c5 => have := hbel.size; simp; omega
      intro v' w1 hown' hgrow _
      obtain ⟨A2, c2, rfl⟩ := own_slice hown'
      rw [← HX.out, bytes_one, List.append_assoc, ← enc_take v k hlt] at hown'
      have hb1 : Below base w w1 := (hbel.alloc (by have := hbel.size; omega) _).grown hgrow (by have := hbel.size; simp; omega) (fun g hg => (hrow.lt g hg).1)
      have HO : Hid (OwnsB 5 w1 base A2 c2 (l ++ (Pk.enc v).take (k + 1))) := by
        refine ⟨?_, ?_⟩
        · intro x hx
          rw [enc_take v k hlt, ← List.append_assoc] at hx
          rcases List.mem_append.1 hx with hx | hx
          · exact HR.out.1 x hx
          · simp at hx; subst hx; exact Pk.byteOf_lt _ _
        · rw [show (l ++ (Pk.enc v).take (k + 1)).length = l.length + k + 1 from by rw [List.length_append, List.length_take, Pk.enc_length]; omega]
          exact hown'
      clear hgrow hown' hrow
      have HB := hid hb1
      clear hb1 hbel
      go_wp2
      go_roundw
      case rel => exact ⟨k + 1, A2, c2, by omega, by rw [← HM.out]; go_num, rfl, HO.out, HB.out⟩
      case measure => simp [RowKit.intOf]; omega
    · obtain rfl : k = 8 := by omega
      have HO : Hid (OwnsB 5 wr base A1 c1 (l ++ Pk.enc v)) := by
        have e : (Pk.enc v).take 8 = Pk.enc v := rfl
        have h1 := HR.out.1
        rw [e] at h1 hrow
        exact ⟨h1, by rw [show (l ++ Pk.enc v).length = l.length + 8 from by rw [List.length_append, Pk.enc_length]]; exact hrow⟩
      clear hrow
      go_wp2
      go_ret
      exact ⟨A1, c1, rfl, HO.out, hbel⟩
set_option maxHeartbeats 400000 in
theorem fresh_any (B : Nat) (A : Option Addr) (c : Nat) (l : List Nat) (r : Nat) (hl : l.length + r ≤ 140737488355000) (w : World) (h : IsBytes w B A l) (hB : B ≤ w.heap.size) (hn : A = none → c = 0) :
    Calls Tryd.prog 97 #[.slice A l.length c, .int .i64 (r : Int)] w fun e w' => ∃ A' c', e = .returned (.slice A' l.length c') ∧ OwnsB 5 w' w.heap.size A' c' l ∧ Below w.heap.size w w' := by
  obtain ⟨i0, hi, hz0, hz1, hz2⟩ := info_parts info_u8
  go_enter Tryd.func97, Tryd.ntmps97
  go_wp2_with (at_make; refine wpList_make_own _ rfl _ _ 23 rfl w.heap.size 5 i0 (.int .u8 0) 1 Tryd.underlying23 hi hz0 hz1 .i64 .i64 ((l.length : Int) + r) (l.length + r) rfl rfl (by omega) ?c1 ?c2 (Nat.le_refl _) ?_)
  case c1 => rw [hz2]; omega
  case c2 => unfold maxLen; omega
  intro w1 hown hgrow
  have hrow : OwnsB 5 w1 w.heap.size (some ⟨w.heap.size, 0, none⟩) (l.length + r) [] := ⟨by simp, hown⟩
  have hbel : Below w.heap.size w w1 := (Below.refl _ _).grown hgrow (Nat.le_refl _) (fun g hg => by cases hg)
  have hs : IsBytes w1 w.heap.size A l := (h.more hB).below hbel
  clear hown hgrow
  go_wp2_with (at_builtin; refine wpList_append_bytesN rfl _ _ 23 rfl w.heap.size 5 i0 Tryd.underlying23 hi hz0 hz1 hz2 (some ⟨w.heap.size, 0, none⟩) (l.length + r) [] 0 rfl rfl hrow w.heap.size A c l l.length rfl rfl hn hs l (List.nil_append _) (by omega) hbel.size ?_)
  intro A3 c3 w2 hown2 hgrow
  have hb2 : Below w.heap.size w w2 := hbel.trans hgrow
  clear hgrow hrow hbel hs
  go_wp2
  go_ret
  exact ⟨A3, c3, rfl, hown2, hb2⟩

set_option maxHeartbeats 400000 in
theorem packInt_any (B : Nat) (A : Option Addr) (c : Nat) (l : List Nat) (v : Int) (hv : InInt v) (hl : l.length ≤ 140737488354000) (w : World) (h : IsBytes w B A l) (hB : B ≤ w.heap.size) (hn : A = none → c = 0) :
    Calls Tryd.prog 84 #[.slice A l.length c, .int .i64 v] w fun e w' => ∃ A' c', e = .returned (.slice A' (l.length + 8) c') ∧ OwnsB 5 w' w.heap.size A' c' (l ++ Pk.enc v) ∧ Below w.heap.size w w' := by
  go_enter Tryd.func84, Tryd.ntmps84
  go_wp2_with fail
  refine (fresh_any B A c l 8 (by omega) _ h hB hn).mono ?_
  rintro e w1 ⟨A1, c1, rfl, hown, hbel⟩
  go_wp2_with fail
  refine (put_any w.heap.size A1 c1 l v hv (by omega) _ hown hbel.size).mono ?_
  rintro e w2 ⟨A2, c2, rfl, hown2, hbel2⟩
  go_wp2
  go_ret
  exact ⟨A2, c2, rfl, hown2, hbel.trans hbel2⟩

end Go.Proofs.YtpigekbfngalbaaDoor
namespace Go.Proofs.YtpigekbfngalbaaDoor
open Go.RowKit

set_option maxHeartbeats 400000 in
theorem copy_any (B : Nat) (A : Option Addr) (c : Nat) (l : List Nat) (hl : l.length ≤ 140737488355328) (w : World) (h : IsBytes w B A l) (hB : B ≤ w.heap.size) :
    Calls Tryd.prog 27 #[.slice A l.length c] w fun e w' => ∃ A' c', e = .returned (.slice A' l.length c') ∧ OwnsB 5 w' w.heap.size A' c' l ∧ Below w.heap.size w w' := by
  obtain ⟨i0, hi, hz0, hz1, hz2⟩ := info_parts info_u8
  go_enter Tryd.func27, Tryd.ntmps27
  go_wp2
  go_loopw [3, 4] (fun v i wr => ∃ k : Nat, k ≤ l.length ∧ i = .int .i64 k ∧ wr.ownsRow w.heap.size 5 1 v k (bytes (l.take k)) ∧ Below w.heap.size w wr) (fun _ i _ => l.length - (RowKit.intOf i).toNat)
  case atStart => exact ⟨0, by omega, rfl, World.ownsRow_nil _ _ _ _, Below.refl _ _⟩
  case round =>
    obtain ⟨k, hk, rfl, hown, hbel⟩ := hrel
    by_cases hlt : k < l.length
    · have h1 := (h.below (hbel.mono hB))
      obtain ⟨b, off, rfl, _, hc⟩ := h1.cells k hlt
      have hck := hc k hlt
      clear hc
      go_wp2_with (at_builtin; refine wpList_append_own _ rfl _ _ 23 rfl w.heap.size 5 i0 (.int .u8 0) 1 1 Tryd.underlying23 hi hz0 hz1 hz2 rfl (by decide) _ _ _ rfl (hown.alloc _) ⟨wr.heap.size, 0, none⟩ 1 1 [.int .u8 (l[k] : Nat)] rfl rfl ?c1 ?c2 ?c3 ?c4 ?c5 ?_)
      case c1 =>
        intro j u hj
        match j, hj with
        | 0, hj => simp at hj; subst hj; simp [Addr.add]
      case c2 => intro u hu; simp at hu; subst hu; rfl
      case c3 => unfold maxLen; omega
      case c4 => omega
      case c5 => have := hbel.size; simp; omega
      intro v' w1 hown' hgrow _
      rw [bytes_snoc l k hlt] at hown'
      have hb1 : Below w.heap.size w w1 := (hbel.alloc hbel.size _).grown hgrow (by have := hbel.size; simp; omega) (fun g hg => (hown.lt g hg).1)
      clear hgrow hown hbel hck
      go_wp2
      go_roundw
      case rel => exact ⟨k + 1, by omega, by go_num, hown', hb1⟩
      case measure => simp [RowKit.intOf]; omega
    · obtain rfl : k = l.length := by omega
      rw [List.take_length] at hown
      obtain ⟨A', c', rfl⟩ := own_slice hown
      go_wp2
      go_ret
      exact ⟨A', c', rfl, ⟨h.small, hown⟩, hbel⟩
theorem copy_N (B : Nat) (A : Option Addr) (c : Nat) (l : List Nat) (n : Nat) (hn : l.length = n) (hl : n ≤ 140737488355328) (w : World) (h : IsBytes w B A l) (hB : B ≤ w.heap.size) :
    Calls Tryd.prog 27 #[.slice A n c] w fun e w' => ∃ A' c', e = .returned (.slice A' n c') ∧ OwnsB 5 w' w.heap.size A' c' l ∧ Below w.heap.size w w' := by
  subst hn; exact copy_any B A c l hl w h hB
end Go.Proofs.YtpigekbfngalbaaDoor
namespace Go.Proofs.YtpigekbfngalbaaDoor
open Go.RowKit

/-- what LentBytes makes: the bytes, and five marks behind them -/
def lent (l : List Nat) : List Nat := l ++ List.replicate 5 165
theorem lent_length (l : List Nat) : (lent l).length = l.length + 5 := by simp [lent]
theorem lent_small (l : List Nat) (h : ∀ x ∈ l, x < 256) : ∀ x ∈ lent l, x < 256 := by
  intro x hx
  unfold lent at hx
  rcases List.mem_append.1 hx with hx | hx
  · exact h x hx
  · have := (List.mem_replicate.1 hx).2; omega
/-- the same, amid the work: the first k items are there -/
def lentTo (l : List Nat) (k : Nat) : List Nat := (lent l).take k ++ List.replicate (l.length + 5 - k) 0
theorem lentTo_length (l : List Nat) (k : Nat) (h : k ≤ l.length + 5) : (lentTo l k).length = l.length + 5 := by
  unfold lentTo; rw [List.length_append, List.length_take, lent_length, List.length_replicate]; omega
theorem lentTo_end (l : List Nat) : lentTo l (l.length + 5) = lent l := by
  unfold lentTo
  rw [List.take_of_length_le (by rw [lent_length]; omega)]; simp
theorem lentTo_set (l : List Nat) (k : Nat) (h : k < l.length + 5) (x : Nat) (hx : (lent l)[k]? = some x) : (lentTo l k).set k x = lentTo l (k + 1) := by
  unfold lentTo
  have hl : k < (lent l).length := by rw [lent_length]; exact h
  have hk : ((lent l).take k).length = k := by rw [List.length_take]; omega
  rw [List.set_append_right _ _ (by omega), hk, Nat.sub_self, show l.length + 5 - k = (l.length + 5 - (k + 1)) + 1 from by omega, List.replicate_succ, List.set_cons_zero,
    List.take_succ_eq_append_getElem hl, List.append_assoc]
  have : (lent l)[k] = x := by rw [List.getElem?_eq_getElem hl] at hx; injection hx
  rw [this]; rfl
theorem lent_mark (l : List Nat) (k : Nat) (h1 : l.length ≤ k) (h2 : k < l.length + 5) : (lent l)[k]? = some 165 := by
  unfold lent
  rw [List.getElem?_append_right h1, List.getElem?_replicate, if_pos (by omega)]
theorem lent_item (l : List Nat) (k : Nat) (h : k < l.length) : (lent l)[k]? = some l[k] := by
  unfold lent
  rw [List.getElem?_append_left h, List.getElem?_eq_getElem h]

set_option maxRecDepth 100000 in
set_option maxHeartbeats 400000 in
theorem lent_any (B : Nat) (A : Option Addr) (c : Nat) (l : List Nat) (hl : l.length ≤ 140737488355328) (w : World) (h : IsBytes w B A l) (hB : B ≤ w.heap.size) :
    Calls Tryd.prog 21 #[.slice A l.length c] w fun e w' => ∃ g c', e = .returned (.slice (some ⟨g, 0, none⟩) (l.length + 5) c') ∧ OwnsB 5 w' w.heap.size (some ⟨g, 0, none⟩) c' (lent l) ∧ Below w.heap.size w w' := by
  obtain ⟨i0, hi, hz0, hz1, hz2⟩ := info_parts info_u8
  go_enter Tryd.func21, Tryd.ntmps21
  go_wp2_with (at_make; refine wpList_make_full _ rfl _ _ 23 rfl w.heap.size 5 i0 (.int .u8 0) 1 Tryd.underlying23 hi hz0 hz1 .i64 .i64 (l.length + 5) (l.length + 5) (l.length + 5) rfl rfl (by omega) (by omega) ?c1 ?c2 (Nat.le_refl _) ?_)
  case c1 => rw [hz2]; omega
  case c2 => unfold maxLen; omega
  intro w1 hown hgrow
  have hrow : OwnsB 5 w1 w.heap.size (some ⟨w.heap.size, 0, none⟩) (l.length + 5) (lentTo l 0) := by
    refine ⟨?_, ?_⟩
    · intro x hx
      have : lentTo l 0 = List.replicate (l.length + 5) 0 := by simp [lentTo]
      rw [this] at hx
      have := (List.mem_replicate.1 hx).2; omega
    · rw [lentTo_length l 0 (by omega)]
      have e : (madeCells #[Value.int .u8 0] (l.length + 5)).toList = bytes (lentTo l 0) := by
        rw [toList_madeCells_one]
        simp [lentTo, bytes]
      rw [e] at hown
      exact hown
  have hbel : Below w.heap.size w w1 := (Below.refl _ _).grown hgrow (Nat.le_refl _) (fun g hg => by cases hg)
  clear hown hgrow
  go_wp2
  go_loopw [4] (fun i wr => ∃ k : Nat, k ≤ l.length + 5 ∧ i = .int .i64 k ∧ OwnsB 5 wr w.heap.size (some ⟨w.heap.size, 0, none⟩) (l.length + 5) (lentTo l k) ∧ Below w.heap.size w wr) (fun i _ => l.length + 5 - (RowKit.intOf i).toNat)
  case atStart => exact ⟨0, by omega, rfl, hrow, hbel⟩
  case round =>
    clear hrow hbel
    obtain ⟨k, hk, rfl, hown, hbel⟩ := hrel
    by_cases hlt : k < l.length + 5
    · have hkl : k < (lentTo l k).length := by rw [lentTo_length l k hk]; exact hlt
      obtain ⟨g, hg, _, _, hcg, hfg⟩ := hown.at_ hkl
      obtain rfl : w.heap.size = g := by injection hg with hg; injection hg
      clear hg
      by_cases hin : k < l.length
      · have h1 := (h.below (hbel.mono hB))
        obtain ⟨b, off, rfl, hb, hc⟩ := h1.cells k hin
        have hck := hc k hin
        clear hc
        have hs1 := hown.set_ k 165 (by omega)
        have hs2 := hs1.set_ k l[k] (h.small _ (List.getElem_mem hin))
        rw [List.set_set, lentTo_set l k hlt _ (lent_item l k hin)] at hs2
        have hb2 : Below w.heap.size w ((wr.setCell ⟨w.heap.size, k, none⟩ (.int .u8 (165 : Nat))).setCell ⟨w.heap.size, k, none⟩ (.int .u8 (l[k] : Nat))) := (hbel.setCell (Nat.le_refl _) _).setCell (Nat.le_refl _) _
        have HS := hid (And.intro hs2 hb2)
        clear hs1 hs2 hb2 hown hbel
        go_wp2
        go_roundw
        case rel => exact ⟨k + 1, by omega, by go_num, HS.out.1, HS.out.2⟩
        case measure => simp [RowKit.intOf]; omega
      · have hs1 := hown.set_ k 165 (by omega)
        rw [lentTo_set l k hlt _ (lent_mark l k (by omega) hlt)] at hs1
        have hb1 : Below w.heap.size w (wr.setCell ⟨w.heap.size, k, none⟩ (.int .u8 (165 : Nat))) := hbel.setCell (Nat.le_refl _) _
        have HS := hid (And.intro hs1 hb1)
        clear hs1 hb1 hown hbel
        go_wp2
        go_roundw
        case rel => exact ⟨k + 1, by omega, by go_num, HS.out.1, HS.out.2⟩
        case measure => simp [RowKit.intOf]; omega
    · obtain rfl : k = l.length + 5 := by omega
      rw [lentTo_end] at hown
      go_wp2
      go_ret
      exact ⟨w.heap.size, l.length + 5, rfl, hown, hbel⟩
theorem take_lent (l : List Nat) : (lent l).take l.length = l := by
  unfold lent; rw [List.take_left']; rfl
theorem lent_get (l : List Nat) (k : Nat) (h1 : l.length ≤ k) (h2 : k < (lent l).length) : (lent l)[k] = 165 := by
  have := lent_mark l k h1 (by rw [lent_length] at h2; exact h2)
  rw [List.getElem?_eq_getElem h2] at this
  injection this

set_option maxHeartbeats 400000 in
theorem kept_any (B B' g : Nat) (A' : Option Addr) (c c' : Nat) (l : List Nat) (hl : l.length ≤ 140737488355328) (hcap : l.length + 5 ≤ c) (w : World) (h : IsBytes w B (some ⟨g, 0, none⟩) (lent l)) (h' : IsBytes w B' A' l) :
    Calls Tryd.prog 24 #[.slice (some ⟨g, 0, none⟩) (l.length + 5) c, .slice A' l.length c'] w fun e w' => e = .returned (.bool true) ∧ ∃ n, w' = w.drewN n := by
  have hb : ((l.length : Int) + 5 != (l.length : Int) + 5) = false := by simp
  have h0 : IsBytes w B (some ⟨g, 0, none⟩) l := by have := h.take l.length; rw [take_lent] at this; exact this
  go_enter Tryd.func24, Tryd.ntmps24
  go_wp2_with fail
  refine (same_any B B' _ _ _ _ l l (by unfold maxLen; omega) (by unfold maxLen; omega) _ h0 h').mono ?_
  rintro e w' ⟨rfl, n, rfl⟩
  have hd : (!decide (l = l)) = false := by simp
  go_wp2
  go_loopw [5] (fun i wr => ∃ k n : Nat, l.length ≤ k ∧ k ≤ l.length + 5 ∧ i = .int .i64 k ∧ wr = w.drewN n) (fun i _ => l.length + 5 - (RowKit.intOf i).toNat)
  case atStart => exact ⟨l.length, n, by omega, by omega, rfl, rfl⟩
  case round =>
    obtain ⟨k, n, hk1, hk, rfl, rfl⟩ := hrel
    by_cases hlt : k < l.length + 5
    · have hkl : k < (lent l).length := by rw [lent_length]; exact hlt
      obtain ⟨b, off, hg, _, hc⟩ := h.cells k hkl
      obtain ⟨rfl, rfl⟩ : g = b ∧ 0 = off := by injection hg with hg; injection hg with h1 h2; exact ⟨h1, h2⟩
      have hck := hc k hkl
      rw [lent_get l k hk1 hkl, Nat.zero_add] at hck
      clear hc hg
      go_wp2
      go_roundw
      case rel => exact ⟨k + 1, _, by omega, by omega, by go_num, rfl⟩
      case measure => simp [RowKit.intOf]; omega
    · obtain rfl : k = l.length + 5 := by omega
      go_wp2
      go_ret
      exact ⟨rfl, _, rfl⟩
end Go.Proofs.YtpigekbfngalbaaDoor
namespace Go.Proofs.YtpigekbfngalbaaDoor
open Go.RowKit

set_option maxHeartbeats 400000 in
theorem packBlob_any (B : Nat) (A : Option Addr) (c : Nat) (l : List Nat) (B' : Nat) (A' : Option Addr) (c' : Nat) (m : List Nat) (hl : l.length + m.length ≤ 140737488354000) (w : World) (h : IsBytes w B A l) (hB : B ≤ w.heap.size) (hn : A = none → c = 0)
    (h' : IsBytes w B' A' m) (hB' : B' ≤ w.heap.size) (hn' : A' = none → c' = 0) :
    Calls Tryd.prog 85 #[.slice A l.length c, .slice A' m.length c'] w fun e w' => ∃ A2 c2, e = .returned (.slice A2 (l.length + 8 + m.length) c2) ∧ OwnsB 5 w' w.heap.size A2 c2 (l ++ (Pk.enc m.length ++ m)) ∧ Below w.heap.size w w' := by
  obtain ⟨i0, hi, hz0, hz1, hz2⟩ := info_parts info_u8
  have hf := fun w' => fresh_any B A c l (8 + m.length) (by omega) w'
  rw [show (((8 + m.length : Nat) : Int)) = 8 + (m.length : Int) from by omega] at hf
  have HF := hid hf
  clear hf
  go_enter Tryd.func85, Tryd.ntmps85
  go_wp2_with fail
  refine (HF.out _ h hB hn).mono ?_
  rintro e w1 ⟨A1, c1, rfl, hown, hbel⟩
  go_wp2_with fail
  refine (put_any w.heap.size A1 c1 l (m.length : Int) (by unfold InInt; omega) (by omega) _ hown hbel.size).mono ?_
  rintro e w2 ⟨A3, c3, rfl, hown2, hbel2⟩
  have hb2 : Below w.heap.size w w2 := hbel.trans hbel2
  have hs : IsBytes w2 w.heap.size A' m := (h'.more hB').below hb2
  have hlen : (l ++ Pk.enc m.length).length = l.length + 8 := by rw [List.length_append, Pk.enc_length]
  have HL := hid hlen
  clear hbel hbel2 hown hlen
  go_wp2_with (at_builtin; refine wpList_append_bytesN rfl _ _ 23 rfl w.heap.size 5 i0 Tryd.underlying23 hi hz0 hz1 hz2 A3 c3 (l ++ Pk.enc m.length) (l.length + 8) HL.out rfl hown2 w.heap.size A' c' m m.length rfl rfl hn' hs (l ++ (Pk.enc m.length ++ m)) (List.append_assoc _ _ _) (by omega) hb2.size ?_)
  intro A4 c4 w3 hown3 hgrow
  have hb3 : Below w.heap.size w w3 := hb2.trans hgrow
  clear hgrow hb2 hs hown2
  go_wp2
  go_ret
  exact ⟨A4, c4, rfl, hown3, hb3⟩
end Go.Proofs.YtpigekbfngalbaaDoor
