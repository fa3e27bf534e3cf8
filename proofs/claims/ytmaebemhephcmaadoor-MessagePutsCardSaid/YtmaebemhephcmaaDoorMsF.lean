/- The walks through package message: how long is the encoding, what is wrong with a message? -/
import Derived.Test.YtmaebemhephcmaaDoorMsE
namespace Go.Proofs.YtmaebemhephcmaaDoor.Ms
open Go.RowKit
set_option maxRecDepth 100000
attribute [local go_sem ↓] loadAt_msg

/-- not too great to reckon with -/
structure Small (m : M) : Prop where
  es : m.es.length ≤ 100000
  wt : weigh m.es ≤ 1000000000
  d : m.d.length ≤ 1000000000
def sumTo (m : M) (j : Nat) : Nat := 8 * (head ++ tab m.kind).length + (24 * j + weigh (m.es.take j))
theorem sumTo_next (m : M) (j : Nat) (h : j < m.es.length) : sumTo m (j + 1) = sumTo m j + (24 + m.es[j].d.length) := by
  unfold sumTo; rw [weigh_take _ _ h]; omega
theorem sumTo_le (m : M) (j : Nat) (hs : Small m) (h : j ≤ m.es.length) : sumTo m j ≤ 1003000000 := by
  unfold sumTo
  have h1 := weigh_le m.es j
  have h2 := hs.wt
  have h3 := hs.es
  have h4 : (head ++ tab m.kind).length ≤ 10 := by rw [List.length_append]; have := tab_length m.kind; have : head.length = 3 := rfl; omega
  omega
theorem sumTo_all (m : M) : sumTo m m.es.length + m.d.length = m.size := by unfold sumTo M.size; rw [List.take_length]
theorem size_le (m : M) (hs : Small m) : m.size ≤ 2010000000 := by
  rw [← sumTo_all]; have := sumTo_le m _ hs (Nat.le_refl _); have := hs.d; omega

set_option maxHeartbeats 1600000 in
theorem size_any (m : M) (A : Option Addr) (c : Nat) (A' : Option Addr) (c' : Nat) (w : World) (hk : m.isKind = true) (hT : Tab w) (h : IsEnts w w.heap.size A m.es) (hs : Small m) :
    Calls Tryd.prog 36 #[.agg #[.int .i64 m.K, .int .i64 m.F, .int .i64 m.T, .int .i64 m.g, .int .i64 m.t, .int .i64 m.i, .int .i64 m.p, .int .i64 m.c, .int .i64 m.r, .int .i64 m.x, .int .i64 m.a, .int .i64 m.b, .int .i64 m.v, .int .i64 m.s, .bool m.ok, .slice A m.es.length c, .slice A' m.d.length c']] w fun e w' => e = .returned (.int .i64 ((m.size : Nat) : Int)) ∧ Below w.heap.size w w' := by
  obtain ⟨k, hK, hk1, hk2, hkind⟩ := kind_of hk
  have hpos := hT.pos
  have k0 : 0 ≤ m.K := by omega
  have k12 : m.K < 12 := by omega
  have HKK : Hid (m.kind = m.K.toNat ∧ m.K.toNat < 12) := ⟨rfl, by omega⟩
  have ht : w.cell? ⟨0, m.K.toNat, none⟩ = some (.string (strOf (tab m.kind))) := hT _ HKK.out.2
  have hsz : (strOf (tab m.kind)).size = (tab m.kind).length := strOf_size _
  have htl := tab_length m.kind
  have HE := hid (And.intro h hs)
  have hesl := hs.es
  have hdl := hs.d
  clear hK hk1 hk2 hkind hk hT h hs
  go_enter Tryd.func36, Tryd.ntmps36
  go_wp2
  have HB0 : Hid (Bx (w.alloc (.cells #[.int .i64 m.K, .int .i64 m.F, .int .i64 m.T, .int .i64 m.g, .int .i64 m.t, .int .i64 m.i, .int .i64 m.p, .int .i64 m.c, .int .i64 m.r, .int .i64 m.x, .int .i64 m.a, .int .i64 m.b, .int .i64 m.v, .int .i64 m.s, .bool m.ok, .slice A m.es.length c, .slice A' m.d.length c'] 25)) w.heap.size m A c A' c' ∧ Below w.heap.size w (w.alloc (.cells #[.int .i64 m.K, .int .i64 m.F, .int .i64 m.T, .int .i64 m.g, .int .i64 m.t, .int .i64 m.i, .int .i64 m.p, .int .i64 m.c, .int .i64 m.r, .int .i64 m.x, .int .i64 m.a, .int .i64 m.b, .int .i64 m.v, .int .i64 m.s, .bool m.ok, .slice A m.es.length c, .slice A' m.d.length c'] 25))) := ⟨⟨heap_alloc_new w _⟩, (Below.refl _ w).alloc (Nat.le_refl _) _⟩
  clear ht
  go_loopw [3, 5, 16] (fun n _ i wr => ∃ j : Nat, j ≤ m.es.length ∧ i = .int .i64 (j : Int) ∧ n = .int .i64 ((sumTo m j : Nat) : Int) ∧ Hid (Bx wr w.heap.size m A c A' c') ∧ Hid (Below w.heap.size w wr)) (fun _ _ i _ => m.es.length - (intOf i).toNat)
  case atStart =>
    refine ⟨0, Nat.zero_le _, rfl, ?_, HB0.out.1, HB0.out.2⟩
    have e : sumTo m 0 = 8 * (3 + (tab m.kind).length) := by
      have : head.length = 3 := rfl
      unfold sumTo weigh; rw [List.length_append, this]; simp
    rw [e]; congr 1 <;> omega
  case round =>
    clear HB0
    obtain ⟨j, hj, rfl, rfl, HBx, HB⟩ := hrel
    have hle := sumTo_le m j HE.out.2 hj
    by_cases hlt : j < m.es.length
    · have hA := HE.out.1.cells j hlt
      obtain ⟨b, off, hA, hb, hcs⟩ := hA
      have HEn := hid ((hcs j hlt).below hb HB.out)
      have hdl2 : m.es[j].d.length ≤ 1000000000 := Nat.le_trans (weigh_mem (List.getElem_mem hlt)) HE.out.2.wt
      have HS : Hid (sumTo m (j + 1) = sumTo m j + (24 + m.es[j].d.length)) := sumTo_next m j hlt
      subst hA
      obtain ⟨A3, c3, e0, e1, e2, _, _, _⟩ := HEn.out
      have HBN : Hid (∀ o : Obj, Below w.heap.size w (wr.alloc o) ∧ Bx (wr.alloc o) w.heap.size m (some ⟨b, off, none⟩) c A' c') := fun o => ⟨HB.out.alloc HB.out.size _, HBx.out.below ((Below.refl _ wr).alloc (Nat.le_refl _) o) (row_lt HBx.out.row)⟩
      clear hcs HEn HB HBx hb
      go_wp2_with fail
      go_roundw
      case rel =>
        refine ⟨j + 1, by omega, by go_num, ?_, hid (HBN.out _).2, hid (HBN.out _).1⟩
        rw [HS.out]; congr 1 <;> omega
      case measure => simp [intOf]; omega
    · obtain rfl : j = m.es.length := by omega
      have hc16 := HBx.out.c16
      have HS : Hid (sumTo m m.es.length + m.d.length = m.size) := sumTo_all m
      go_wp2_with fail
      go_ret
      refine ⟨?_, HB.out⟩
      rw [← HS.out]
      congr 2 <;> omega
/-- a message that came in -/
structure Inp (w : World) (m : M) (A : Option Addr) : Prop where
  T : Tab w
  es : IsEnts w w.heap.size A m.es
  small : Small m
theorem Inp.low {w w' : World} {m : M} {A : Option Addr} (h : Inp w m A) (hb : Below w.heap.size w w') : Inp w' m A := ⟨h.T.below hb h.T.pos, (h.es.below hb).more hb.size, h.small⟩
set_option maxHeartbeats 1600000 in
theorem check_any (m : M) (A : Option Addr) (c : Nat) (A' : Option Addr) (c' : Nat) (w : World) (h : Inp w m A) :
    Calls Tryd.prog 13 #[.agg #[.int .i64 m.K, .int .i64 m.F, .int .i64 m.T, .int .i64 m.g, .int .i64 m.t, .int .i64 m.i, .int .i64 m.p, .int .i64 m.c, .int .i64 m.r, .int .i64 m.x, .int .i64 m.a, .int .i64 m.b, .int .i64 m.v, .int .i64 m.s, .bool m.ok, .slice A m.es.length c, .slice A' m.d.length c']] w fun e w' => e = .returned (.int .i64 ((check m : Nat) : Int)) ∧ Below w.heap.size w w' := by
  have HI := hid h
  have hesl := h.small.es
  have hsz := size_le m h.small
  clear h
  have HBx : Hid (Bx (w.alloc (.cells #[.int .i64 m.K, .int .i64 m.F, .int .i64 m.T, .int .i64 m.g, .int .i64 m.t, .int .i64 m.i, .int .i64 m.p, .int .i64 m.c, .int .i64 m.r, .int .i64 m.x, .int .i64 m.a, .int .i64 m.b, .int .i64 m.v, .int .i64 m.s, .bool m.ok, .slice A m.es.length c, .slice A' m.d.length c'] 25)) w.heap.size m A c A' c' ∧ Below w.heap.size w (w.alloc (.cells #[.int .i64 m.K, .int .i64 m.F, .int .i64 m.T, .int .i64 m.g, .int .i64 m.t, .int .i64 m.i, .int .i64 m.p, .int .i64 m.c, .int .i64 m.r, .int .i64 m.x, .int .i64 m.a, .int .i64 m.b, .int .i64 m.v, .int .i64 m.s, .bool m.ok, .slice A m.es.length c, .slice A' m.d.length c'] 25))) := ⟨⟨heap_alloc_new w _⟩, (Below.refl _ w).alloc (Nat.le_refl _) _⟩
  have HCK : Hid (check m = if m.isKind = false then 13 else if m.foreign = true then 14 else if m.inRange = false then 3 else if 1024 < m.es.length ∨ 65536 < m.size then 2 else 0) := rfl
  have hld := ld_new w 25 #[.int .i64 m.K, .int .i64 m.F, .int .i64 m.T, .int .i64 m.g, .int .i64 m.t, .int .i64 m.i, .int .i64 m.p, .int .i64 m.c, .int .i64 m.r, .int .i64 m.x, .int .i64 m.a, .int .i64 m.b, .int .i64 m.v, .int .i64 m.s, .bool m.ok, .slice A m.es.length c, .slice A' m.d.length c'] rfl
  obtain ⟨b1, hb1⟩ : ∃ b, b = m.isKind := ⟨_, rfl⟩
  have H1 := hid hb1
  have HK := isKind_any m
  rw [← hb1] at HK
  have HKK := hid HK
  clear HK hb1
  go_enter Tryd.func13, Tryd.ntmps13
  go_wp2_with fail
  refine (HKK.out _).mono ?_
  rintro e w1 ⟨rfl, rfl⟩
  cases b1
  · go_wp2_with fail
    go_ret
    rw [HCK.out, if_pos H1.out.symm]
    exact ⟨rfl, HBx.out.2⟩
  have HF := foreign_any m A c A' c' (w.alloc (.cells #[.int .i64 m.K, .int .i64 m.F, .int .i64 m.T, .int .i64 m.g, .int .i64 m.t, .int .i64 m.i, .int .i64 m.p, .int .i64 m.c, .int .i64 m.r, .int .i64 m.x, .int .i64 m.a, .int .i64 m.b, .int .i64 m.v, .int .i64 m.s, .bool m.ok, .slice A m.es.length c, .slice A' m.d.length c'] 25)) H1.out.symm (HI.out.low HBx.out.2).T
  obtain ⟨b2, hb2⟩ : ∃ b, b = m.foreign := ⟨_, rfl⟩
  rw [← hb2] at HF
  have H2 := hid hb2
  have HFF := hid HF
  clear HF hb2
  go_wp2_with fail
  refine HFF.out.mono ?_
  rintro e w1 ⟨rfl, hbw⟩
  have HB1 := hid (HBx.out.2.trans (hbw.mono HBx.out.2.size))
  have HX1 := hid (HBx.out.1.below hbw (row_lt HBx.out.1.row))
  have hld1 := HX1.out.load
  have hc15 := HX1.out.c15
  clear hbw hld
  cases b2
  rotate_left
  · go_wp2_with fail
    go_ret
    rw [HCK.out, if_neg (by rw [← H1.out]; decide), if_pos H2.out.symm]
    exact ⟨rfl, HB1.out⟩
  have HR := inRange_any m A c A' c' w1 H1.out.symm (HI.out.low HB1.out).T (HI.out.low HB1.out).es (by omega)
  obtain ⟨b3, hb3⟩ : ∃ b, b = m.inRange := ⟨_, rfl⟩
  rw [← hb3] at HR
  have H3 := hid hb3
  have HRR := hid HR
  clear HR hb3
  go_wp2_with fail
  refine HRR.out.mono ?_
  rintro e w2 ⟨rfl, hbw⟩
  have HB2 := hid (HB1.out.trans (hbw.mono HB1.out.size))
  have HX2 := hid (HX1.out.below hbw (row_lt HX1.out.row))
  have hld2 := HX2.out.load
  have hc15' := HX2.out.c15
  clear hbw hld1 hc15
  cases b3
  · go_wp2_with fail
    go_ret
    rw [HCK.out, if_neg (by rw [← H1.out]; decide), if_neg (by rw [← H2.out]; decide), if_pos H3.out.symm]
    exact ⟨rfl, HB2.out⟩
  have HC2 : Hid (check m = if 1024 < m.es.length ∨ 65536 < m.size then 2 else 0) := by
    show _ = _
    rw [HCK.out, if_neg (by rw [← H1.out]; decide), if_neg (by rw [← H2.out]; decide), if_neg (by rw [← H3.out]; decide)]
  by_cases hlong : 1024 < m.es.length
  · go_wp2_with fail
    go_ret
    rw [HC2.out, if_pos (Or.inl hlong)]
    exact ⟨rfl, HB2.out⟩
  have HS := hid (size_any m A c A' c' w2 H1.out.symm (HI.out.low HB2.out).T (HI.out.low HB2.out).es HI.out.small)
  by_cases hsize : 65536 < m.size
  · go_wp2_with fail
    refine HS.out.mono ?_
    rintro e w3 ⟨rfl, hbw⟩
    have HB3 := hid (HB2.out.trans (hbw.mono HB2.out.size))
    clear hbw hld2
    go_wp2_with fail
    go_ret
    rw [HC2.out, if_pos (Or.inr hsize)]
    exact ⟨rfl, HB3.out⟩
  · go_wp2_with fail
    refine HS.out.mono ?_
    rintro e w3 ⟨rfl, hbw⟩
    have HB3 := hid (HB2.out.trans (hbw.mono HB2.out.size))
    clear hbw hld2
    go_wp2_with fail
    go_ret
    rw [HC2.out, if_neg (by omega)]
    exact ⟨rfl, HB3.out⟩
end Go.Proofs.YtmaebemhephcmaaDoor.Ms
