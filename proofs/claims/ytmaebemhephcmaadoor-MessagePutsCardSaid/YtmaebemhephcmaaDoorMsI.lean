/- The walk through package message's Put. -/
import Derived.Test.YtmaebemhephcmaaDoorMsH
import Derived.Test.YtmaebemhephcmaaDoorFramePut
import Derived.Test.YtmaebemhephcmaaDoorFrameRead
namespace Go.Proofs.YtmaebemhephcmaaDoor.Ms
open Go.RowKit
set_option maxRecDepth 100000
attribute [local go_sem ↓] loadAt_msg

/-- the encoding up to a place -/
def encTo (m : M) (j : Nat) : List Nat := ((head ++ tab m.kind).take j).flatMap m.encF
theorem encTo_next (m : M) (j : Nat) (h : j < (head ++ tab m.kind).length) : encTo m j ++ m.encF (head ++ tab m.kind)[j] = encTo m (j + 1) := by
  unfold encTo; rw [List.take_succ_eq_append_getElem h, List.flatMap_append]; simp
theorem encTo_all (m : M) (j : Nat) (h : ¬ j < (head ++ tab m.kind).length) : encTo m j = m.enc := by
  unfold encTo M.enc; rw [List.take_of_length_le (by omega)]
theorem fields_le (m : M) (hs : Small m) : ∀ L : List Nat, (L.flatMap m.encF).length ≤ 1010000000 * L.length := by
  intro L
  induction L with
  | nil => simp
  | cons r L ih =>
    rw [List.flatMap_cons, List.length_append, encF_length, List.length_cons]
    have := len_le m r hs
    omega
theorem full_length (m : M) : (head ++ tab m.kind).length ≤ 10 := by rw [List.length_append]; have := tab_length m.kind; have : head.length = 3 := rfl; omega
theorem encTo_le (m : M) (j : Nat) (hs : Small m) : (encTo m j).length ≤ 10100000000 := by
  have h1 := fields_le m hs ((head ++ tab m.kind).take j)
  have h2 : ((head ++ tab m.kind).take j).length ≤ 10 := by rw [List.length_take]; have := full_length m; omega
  unfold encTo
  omega
theorem full_field (k : Nat) : ∀ x ∈ head ++ tab k, x ∈ nums ∨ x = 111 ∨ x = 101 ∨ x = 100 := by
  intro x hx
  rcases List.mem_append.1 hx with h | h <;> clear hx
  · revert h; revert x; decide
  · exact tab_field k x h
theorem blank_of {m : M} (hf : m.foreign = false) (r : Nat) (hr : r ∈ all) (h : (tab m.kind).contains r = false) : m.blank r = true := by
  unfold M.foreign at hf
  rw [List.any_eq_false] at hf
  have := hf r hr
  rw [h] at this
  simpa using this
theorem enc_length (m : M) (hk : m.isKind = true) (hf : m.foreign = false) : m.enc.length = m.size := by
  have h1 : ∀ L : List Nat, (L.flatMap m.encF).length = (L.map m.len).sum := by
    intro L
    induction L with
    | nil => rfl
    | cons r L ih => rw [List.flatMap_cons, List.length_append, encF_length, List.map_cons, List.sum_cons, ih]
  have he : (tab m.kind).contains 101 = false → m.es = [] := fun h => by
    have := blank_of hf 101 (by decide) h
    simpa [M.blank] using this
  have hd : (tab m.kind).contains 100 = false → m.d = [] := fun h => by
    have := blank_of hf 100 (by decide) h
    simpa [M.blank] using this
  unfold M.enc M.size
  rw [h1]
  obtain ⟨k, _, k1, k2, hk⟩ := kind_of hk
  rw [hk] at he hd ⊢
  have hw : m.es = [] → m.es.length = 0 ∧ weigh m.es = 0 := fun e => by rw [e]; exact ⟨rfl, rfl⟩
  have hl : m.d = [] → m.d.length = 0 := fun e => by rw [e]; rfl
  match k, k1, k2 with
  | 1, _, _ | 2, _, _ | 4, _, _ | 8, _, _ | 9, _, _ | 10, _, _ | 11, _, _ =>
    have := hw (he (by decide))
    have := hl (hd (by decide))
    simp [head, tab, M.len]; omega
  | 3, _, _ =>
    have := hl (hd (by decide))
    simp [head, tab, M.len]; omega
  | 5, _, _ | 6, _, _ | 7, _, _ =>
    have := hw (he (by decide))
    simp [head, tab, M.len]; omega
theorem check_zero {m : M} (h : check m = 0) : m.isKind = true ∧ m.foreign = false ∧ m.inRange = true ∧ m.es.length ≤ 1024 ∧ m.size ≤ 65536 := by
  unfold check at h
  split at h
  · cases h
  · split at h
    · cases h
    · split at h
      · cases h
      · split at h
        · cases h
        · rename_i h1 h2 h3 h4
          refine ⟨by simpa using h1, by simpa using h2, by simpa using h3, by omega, by omega⟩
theorem iter_at (w : World) (s : ByteArray) : (w.iter s 0).heap[w.heap.size]? = some (.stringIter s 0) ∧ Below w.heap.size w (w.iter s 0) :=
  ⟨World.iter_heap w s 0, (Below.refl _ w).alloc (Nat.le_refl _) _⟩
theorem own_iter {e : TypeId} {w : World} {base c : Nat} {A : Option Addr} {l : List Nat} (h : OwnsB e w base A c l) (s : ByteArray) : OwnsB e (w.iter s 0) base A c l := h.alloc _
theorem own_iterAt {e : TypeId} {w : World} {base c k pos pos' : Nat} {A : Option Addr} {l : List Nat} {s : ByteArray} (h : OwnsB e w base A c l) (hk : w.heap[k]? = some (.stringIter s pos)) : OwnsB e (w.iterAt k s pos') base A c l := by
  refine ⟨h.small, h.row.1, ?_⟩
  rcases h.row.2 with h0 | ⟨g, cap, cur, hv, hg, hh, rest⟩
  · exact .inl h0
  · refine .inr ⟨g, cap, cur, hv, hg, ?_, rest⟩
    rw [Lib.iterAt_other w k g s pos' (fun e => by subst e; rw [hk] at hh; cases hh)]
    exact hh
set_option maxHeartbeats 3200000 in
theorem put_any (m : M) (A : Option Addr) (c : Nat) (A' : Option Addr) (c' : Nat) (w : World) (h : Is w w.heap.size m A c A' c') (hT : Tab w) (hs : Small m) :
    Calls Tryd.prog 16 #[.agg #[.int .i64 m.K, .int .i64 m.F, .int .i64 m.T, .int .i64 m.g, .int .i64 m.t, .int .i64 m.i, .int .i64 m.p, .int .i64 m.c, .int .i64 m.r, .int .i64 m.x, .int .i64 m.a, .int .i64 m.b, .int .i64 m.v, .int .i64 m.s, .bool m.ok, .slice A m.es.length c, .slice A' m.d.length c']] w fun e w' => ∃ A2 c2, e = .returned (.tuple #[.slice A2 (put m).1.length c2, .int .i64 (((put m).2 : Nat) : Int)]) ∧ OwnsB 5 w' w.heap.size A2 c2 (put m).1 ∧ Below w.heap.size w w' := by
  obtain ⟨i0, hi, hz0, hz1, hz2⟩ := info_parts info_u8
  have HI : Hid (∀ wz, Below w.heap.size w wz → Is wz w.heap.size m A c A' c' ∧ Tab wz ∧ Inp wz m A) := hid fun wz hb => ⟨h.below hb, hT.below hb hT.pos, ⟨hT.below hb hT.pos, (h.es.below hb).more hb.size, hs⟩⟩
  have hpos := hT.pos
  have HS := hid hs
  clear h hT hs
  have HBx : Hid (Bx (w.alloc (.cells #[.int .i64 m.K, .int .i64 m.F, .int .i64 m.T, .int .i64 m.g, .int .i64 m.t, .int .i64 m.i, .int .i64 m.p, .int .i64 m.c, .int .i64 m.r, .int .i64 m.x, .int .i64 m.a, .int .i64 m.b, .int .i64 m.v, .int .i64 m.s, .bool m.ok, .slice A m.es.length c, .slice A' m.d.length c'] 25)) w.heap.size m A c A' c' ∧ Below w.heap.size w (w.alloc (.cells #[.int .i64 m.K, .int .i64 m.F, .int .i64 m.T, .int .i64 m.g, .int .i64 m.t, .int .i64 m.i, .int .i64 m.p, .int .i64 m.c, .int .i64 m.r, .int .i64 m.x, .int .i64 m.a, .int .i64 m.b, .int .i64 m.v, .int .i64 m.s, .bool m.ok, .slice A m.es.length c, .slice A' m.d.length c'] 25))) := ⟨⟨heap_alloc_new w _⟩, (Below.refl _ w).alloc (Nat.le_refl _) _⟩
  have hld := HBx.out.1.load
  have HC := hid (check_any m A c A' c' _ (HI.out _ HBx.out.2).2.2)
  go_enter Tryd.func16, Tryd.ntmps16
  go_wp2_with fail
  refine HC.out.mono ?_
  rintro e w1 ⟨rfl, hb⟩
  have HB1 := hid (HBx.out.2.trans (hb.mono HBx.out.2.size))
  have HX1 := hid (HBx.out.1.below hb (row_lt HBx.out.1.row))
  have hld1 := HX1.out.load
  clear hb hld
  by_cases h0 : check m = 0
  · have HPE : Hid (put m = (Fr.frame m.enc, 0)) := if_pos h0
    obtain ⟨q1, q2, q3, q4, q5⟩ := check_zero h0
    have HQ := hid (And.intro q1 (And.intro q2 (enc_length m q1 q2)))
    obtain ⟨k, hK, hk1, hk2, hkind⟩ := kind_of q1
    have k0 : 0 ≤ m.K := by omega
    have k12 : m.K < 12 := by omega
    have HSZ := hid (size_any m A c A' c' w1 q1 (HI.out _ HB1.out).2.1 (HI.out _ HB1.out).2.2.es HS.out)
    rw [h0]
    clear q1 q2 q3 q4 hK hk1 hk2 hkind h0
    go_wp2_with fail
    refine HSZ.out.mono ?_
    rintro e w2 ⟨rfl, hb⟩
    have HB2 := hid (HB1.out.trans (hb.mono HB1.out.size))
    have HX2 := hid (HX1.out.below hb (row_lt HX1.out.row))
    have hw2 := HB2.out.size
    clear hb hld1
    go_wp2_with (at_make; refine wpList_make_own _ rfl _ _ 23 rfl w.heap.size 5 i0 (.int .u8 0) 1 Tryd.underlying23 hi hz0 hz1 .i64 .i64 ((m.size : Nat) : Int) m.size rfl rfl (by omega) ?c1 ?c2 hw2 ?_)
    case c1 => rw [hz2]; omega
    case c2 => unfold maxLen; omega
    intro w3 hown hgrow
    have HO3 : Hid (OwnsB 5 w3 w.heap.size (some ⟨w2.heap.size, 0, none⟩) m.size [] ∧ Below w.heap.size w w3 ∧ Bx w3 w.heap.size m A c A' c') :=
      ⟨⟨by simp, hown⟩, HB2.out.grown hgrow hw2 (fun g hg => by cases hg), ⟨(hgrow.block _ (row_lt HX2.out.row) (fun e => by cases e)).trans HX2.out.row⟩⟩
    have c0 := HO3.out.2.2.c0
    have HKK : Hid (m.kind = m.K.toNat ∧ m.K.toNat < 12) := ⟨rfl, by omega⟩
    have ht : w3.cell? ⟨0, m.K.toNat, none⟩ = some (.string (strOf (tab m.kind))) := (HI.out _ HO3.out.2.1).2.1 _ HKK.out.2
    have hcat : Hid (ByteArray.mk #[75, 70, 84] ++ strOf (tab m.kind) = strOf (head ++ tab m.kind)) := by show _ = _; rw [← strOf_append]; rfl
    have hsz : (strOf (tab m.kind)).size ≤ 7 := by rw [strOf_size]; exact tab_length _
    have HL : Hid ((head ++ tab m.kind).length ≤ 10) := full_length m
    clear hown hgrow HB2 HX2
    go_wp2
    rw [hcat.out]
    obtain ⟨it1, it2⟩ := iter_at w3 (strOf (head ++ tab m.kind))
    have HIT := hid (And.intro it1 (And.intro it2 (own_iter HO3.out.1 (strOf (head ++ tab m.kind)))))
    have hw3 : w.heap.size ≤ w3.heap.size := HO3.out.2.1.size
    have HBI : Hid (Below w.heap.size w (w3.iter (strOf (head ++ tab m.kind)) 0) ∧ Bx (w3.iter (strOf (head ++ tab m.kind)) 0) w.heap.size m A c A' c') := ⟨HO3.out.2.1.trans (it2.mono hw3), HO3.out.2.2.below it2 (row_lt HO3.out.2.2.row)⟩
    clear it1 it2 ht hsz c0
    generalize (w3.iter (strOf (head ++ tab m.kind)) 0) = w4 at HIT HBI ⊢
    go_loopw [5, 7] (fun b _ wr => ∃ pos : Nat, ∃ A3 : Option Addr, ∃ c3 : Nat, ∃ n : Nat, b = .slice A3 n c3 ∧ Hid ((encTo m pos).length = n) ∧ Hid (OwnsB 5 wr w.heap.size A3 c3 (encTo m pos)) ∧ Hid (Bx wr w.heap.size m A c A' c') ∧ Hid (wr.heap[w3.heap.size]? = some (.stringIter (strOf (head ++ tab m.kind)) pos)) ∧ Hid (Below w.heap.size w wr)) (fun _ _ wr => 10 - wr.iterPos w3.heap.size)
    case atStart => exact ⟨0, _, _, 0, rfl, hid rfl, hid HIT.out.2.2, hid HBI.out.2, hid HIT.out.1, hid HBI.out.1⟩
    case round =>
      clear HIT HBI HO3
      obtain ⟨pos, A3, c3, n, rfl, HN, HO, HB, HIt, HBel⟩ := hrel
      by_cases hp : pos < (head ++ tab m.kind).length
      · have hnx : ∀ ty, (Instr.next (.pointer (some ⟨w3.heap.size, 0, none⟩)) true ty).run Tryd.prog wr = _ := fun ty => next_at wr w3.heap.size _ (full_small _) pos ty HIt.out hp
        have hiI := Lib.iterAt_heap wr w3.heap.size (strOf (head ++ tab m.kind)) pos (pos + 1) HIt.out
        have hbI := Lib.below_iterAt HBel.out (k := w3.heap.size) hw3 (strOf (head ++ tab m.kind)) (pos + 1)
        have hBI : Bx (wr.iterAt w3.heap.size (strOf (head ++ tab m.kind)) (pos + 1)) w.heap.size m A c A' c' := ⟨(Lib.iterAt_other wr _ _ _ _ (fun e => by have := HB.out.row; rw [e, HIt.out] at this; cases this)).trans HB.out.row⟩
        have hOI : OwnsB 5 (wr.iterAt w3.heap.size (strOf (head ++ tab m.kind)) (pos + 1)) w.heap.size A3 c3 (encTo m pos) := own_iterAt HO.out HIt.out
        obtain ⟨wi, hwi⟩ : ∃ wi, wi = wr.iterAt w3.heap.size (strOf (head ++ tab m.kind)) (pos + 1) := ⟨_, rfl⟩
        rw [← hwi] at hiI hbI hBI hOI
        rw [← hwi] at hnx
        have hld2 := hBI.load
        have HX := hid (And.intro hwi (And.intro hiI (And.intro hbI (And.intro hBI hOI))))
        clear hwi hiI hbI hBI hOI
        have HNX := hid (encTo_next m pos hp)
        have hfd := full_field _ _ (List.getElem_mem hp)
        have HFD := hid hfd
        have HP := hid hp
        clear hfd
        have hnl : n ≤ 10100000000 := by rw [← HN.out]; exact encTo_le m pos HS.out
        generalize (head ++ tab m.kind)[pos] = q at hnx HNX HFD
        have hpf := putField_any w.heap.size A3 c3 (encTo m pos) n HN.out (by omega) m A c A' c' q HFD.out wi HX.out.2.2.2.2 (HX.out.2.2.1.size) (HI.out _ HX.out.2.2.1).1 HS.out
        have HPF := hid hpf
        clear hpf
        go_wp2_with fail
        refine HPF.out.mono ?_
        rintro e w5 ⟨A5, c5, rfl, ho, hthru⟩
        rw [HNX.out] at ho
        have HR := hid (And.intro ho (And.intro (HX.out.2.2.1.trans hthru.bel) (And.intro (hthru.keep HX.out.2.2.2.1.row (fun cs fr e => by injection e with _ e _; exact absurd e (by decide))) (hthru.keep HX.out.2.1 (fun cs fr e => by cases e)))))
        have HN5 : Hid ((encTo m (pos + 1)).length = n + m.len q) := hid (by rw [← HNX.out, List.length_append, HN.out, encF_length])
        clear ho hthru hld2 hnx
        go_wp2_with fail
        go_roundw
        case rel => exact ⟨pos + 1, A5, c5, _, rfl, HN5, hid HR.out.1, hid ⟨HR.out.2.2.1⟩, hid HR.out.2.2.2, hid HR.out.2.1⟩
        case measure =>
          simp only [World.iterPos, HR.out.2.2.2, HIt.out]
          have := HL.out
          have := HP.out
          omega
      · have hnx : ∀ ty, (Instr.next (.pointer (some ⟨w3.heap.size, 0, none⟩)) true ty).run Tryd.prog wr = _ := fun ty => next_end wr w3.heap.size _ pos ty HIt.out hp
        have hall := encTo_all m pos hp
        rw [hall] at HN HO
        have hn2 : n ≤ 65536 := by have := HN.out; have := HQ.out.2.2; omega
        have hfp := Frame.put_any wr.heap.size A3 c3 m.enc n HN.out hn2 wr HO.out.reads (Nat.le_refl _) HO.out.none_
        have HFP := hid hfp
        clear hfp hall hp
        go_wp2_with fail
        refine HFP.out.mono ?_
        rintro e w5 ⟨A5, c5, rfl, ho, hb⟩
        have HR := hid (And.intro (ho.weaken HBel.out.size) (HBel.out.trans (hb.mono HBel.out.size)))
        clear ho hb hnx
        go_wp2_with fail
        go_ret2
        rw [HPE.out]
        refine ⟨A5, c5, ?_, HR.out.1, HR.out.2⟩
        rw [Fr.frame_length, HN.out]
        rfl
  · have HPE : Hid (put m = ([], check m)) := if_neg h0
    go_wp2_with fail
    go_ret2
    rw [HPE.out]
    exact ⟨none, 0, rfl, OwnsB.nil _ _ _, HB1.out⟩
end Go.Proofs.YtmaebemhephcmaaDoor.Ms
