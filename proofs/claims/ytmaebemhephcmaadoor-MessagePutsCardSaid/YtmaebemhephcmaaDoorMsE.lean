/- The walks through package message: may the numbers of a message be? -/
import Derived.Test.YtmaebemhephcmaaDoorMsD
namespace Go.Proofs.YtmaebemhephcmaaDoor.Ms
open Go.RowKit
set_option maxRecDepth 100000
attribute [local go_sem ↓] loadAt_msg

theorem full_small (k : Nat) : ∀ x ∈ head ++ tab k, x < 128 := by
  intro x hx
  rcases List.mem_append.1 hx with h | h <;> clear hx
  · revert h; revert x; decide
  · exact tab_small k x h
theorem tab_length (k : Nat) : (tab k).length ≤ 7 := by
  unfold tab
  split <;> decide
theorem isNum_iff (r : Nat) : isNum r = decide (r ∈ nums) := by unfold isNum; simp
/-- up to a place all numbers may be -/
def M.okTo (m : M) (pos : Nat) : Prop := ∀ r ∈ (head ++ tab m.kind).take pos, m.fine r = true
theorem okTo_next {m : M} {pos : Nat} (h : m.okTo pos) (hp : pos < (head ++ tab m.kind).length) (hb : m.fine (head ++ tab m.kind)[pos] = true) : m.okTo (pos + 1) := by
  intro r hr
  rw [List.take_succ_eq_append_getElem hp] at hr
  rcases List.mem_append.1 hr with hr | hr
  · exact h r hr
  · obtain rfl := List.mem_singleton.1 hr; exact hb
theorem okTo_not {m : M} {pos : Nat} (hp : pos < (head ++ tab m.kind).length) (hb : m.fine (head ++ tab m.kind)[pos] = false) : m.inRange = false := by
  unfold M.inRange
  rw [Bool.and_eq_false_iff]
  left
  rw [List.all_eq_false]
  exact ⟨_, List.getElem_mem hp, by simp [hb]⟩
theorem okTo_all {m : M} {pos : Nat} (h : m.okTo pos) (hp : ¬ pos < (head ++ tab m.kind).length) : (head ++ tab m.kind).all m.fine = true := by
  rw [List.all_eq_true]
  intro r hr
  exact h r (by rw [List.take_of_length_le (by omega)]; exact hr)
theorem inRange_of {m : M} (h1 : (head ++ tab m.kind).all m.fine = true) (h2 : ∀ e ∈ m.es, enOk e = true) : m.inRange = true := by
  unfold M.inRange
  rw [h1, List.all_eq_true.2 h2]; rfl
theorem inRange_not {m : M} {i : Nat} (hi : i < m.es.length) (h : enOk m.es[i] = false) : m.inRange = false := by
  unfold M.inRange
  rw [Bool.and_eq_false_iff]
  right
  rw [List.all_eq_false]
  exact ⟨_, List.getElem_mem hi, by simp [h]⟩
set_option maxHeartbeats 1600000 in
theorem inRange_any (m : M) (A : Option Addr) (c : Nat) (A' : Option Addr) (c' : Nat) (w : World) (hk : m.isKind = true) (hT : Tab w) (h : IsEnts w w.heap.size A m.es) (hl : m.es.length ≤ 100000000) :
    Calls Tryd.prog 35 #[.agg #[.int .i64 m.K, .int .i64 m.F, .int .i64 m.T, .int .i64 m.g, .int .i64 m.t, .int .i64 m.i, .int .i64 m.p, .int .i64 m.c, .int .i64 m.r, .int .i64 m.x, .int .i64 m.a, .int .i64 m.b, .int .i64 m.v, .int .i64 m.s, .bool m.ok, .slice A m.es.length c, .slice A' m.d.length c']] w fun e w' => e = .returned (.bool m.inRange) ∧ Below w.heap.size w w' := by
  obtain ⟨k, hK, hk1, hk2, hkind⟩ := kind_of hk
  have hpos := hT.pos
  have k0 : 0 ≤ m.K := by omega
  have k12 : m.K < 12 := by omega
  have HT : Hid (Tab w) := hT
  have HKK : Hid (m.kind = m.K.toNat ∧ m.K.toNat < 12) := ⟨rfl, by omega⟩
  have ht : w.cell? ⟨0, m.K.toNat, none⟩ = some (.string (strOf (tab m.kind))) := hT _ HKK.out.2
  have hcat : Hid (ByteArray.mk #[75, 70, 84] ++ strOf (tab m.kind) = strOf (head ++ tab m.kind)) := by show _ = _; rw [← strOf_append]; rfl
  have hsz : (strOf (tab m.kind)).size ≤ 7 := by rw [strOf_size]; exact tab_length _
  have HE := hid (And.intro h hl)
  have HL : Hid ((head ++ tab m.kind).length ≤ 10) := by show _ ≤ _; rw [List.length_append]; have := tab_length m.kind; have : head.length = 3 := rfl; omega
  clear hK hk1 hk2 hkind hk hT h hl
  go_enter Tryd.func35, Tryd.ntmps35
  go_wp2
  rw [hcat.out]
  clear hsz ht
  obtain ⟨h1, h2, h3⟩ := iter_start w m A c A' c' (strOf (head ++ tab m.kind))
  generalize ((w.alloc (.cells #[.int .i64 m.K, .int .i64 m.F, .int .i64 m.T, .int .i64 m.g, .int .i64 m.t, .int .i64 m.i, .int .i64 m.p, .int .i64 m.c, .int .i64 m.r, .int .i64 m.x, .int .i64 m.a, .int .i64 m.b, .int .i64 m.v, .int .i64 m.s, .bool m.ok, .slice A m.es.length c, .slice A' m.d.length c'] 25)).iter (strOf (head ++ tab m.kind)) 0) = w0 at h1 h2 h3 ⊢
  go_loopw [4, 5] (fun _ _ wr => ∃ pos : Nat, Hid (Bx wr w.heap.size m A c A' c') ∧ Hid (wr.heap[w.heap.size + 1]? = some (.stringIter (strOf (head ++ tab m.kind)) pos)) ∧ Hid (Below w.heap.size w wr) ∧ Hid (m.okTo pos)) (fun _ _ wr => 10 - wr.iterPos (w.heap.size + 1))
  case atStart =>
    exact ⟨0, h1, h2, h3, fun r hr => by simp at hr⟩
  case round =>
    clear h1 h2 h3
    obtain ⟨pos, HB, HI, HBel, HS⟩ := hrel
    by_cases hp : pos < (head ++ tab m.kind).length
    · have hnx : ∀ ty, (Instr.next (.pointer (some ⟨w.heap.size + 1, 0, none⟩)) true ty).run Tryd.prog wr = _ := fun ty => next_at wr (w.heap.size + 1) _ (full_small _) pos ty HI.out hp
      have hiI := Lib.iterAt_heap wr (w.heap.size + 1) (strOf (head ++ tab m.kind)) pos (pos + 1) HI.out
      have hbI := Lib.below_iterAt HBel.out (k := w.heap.size + 1) (by omega) (strOf (head ++ tab m.kind)) (pos + 1)
      have hBI : Bx (wr.iterAt (w.heap.size + 1) (strOf (head ++ tab m.kind)) (pos + 1)) w.heap.size m A c A' c' := ⟨(Lib.iterAt_other wr _ _ _ _ (by omega)).trans HB.out.row⟩
      obtain ⟨wi, hwi⟩ : ∃ wi, wi = wr.iterAt (w.heap.size + 1) (strOf (head ++ tab m.kind)) (pos + 1) := ⟨_, rfl⟩
      rw [← hwi] at hiI hbI hBI
      rw [← hwi] at hnx
      have HX := hid (And.intro hwi (And.intro hiI (And.intro hbI hBI)))
      clear hwi hiI hbI hBI
      have h128 := full_small _ _ (List.getElem_mem hp)
      obtain ⟨q, hq⟩ : ∃ q, q = (head ++ tab m.kind)[pos] := ⟨_, rfl⟩
      rw [← hq] at h128 hnx
      have HQ := hid hq
      have HP := hid hp
      clear hq
      have hN := number_any w.heap.size q h128
      by_cases hn : q ∈ nums
      · rw [show ptr w.heap.size q = some ⟨w.heap.size, ix q, none⟩ from if_pos hn] at hN
        have hcq : wi.cell? ⟨w.heap.size, ix q, none⟩ = some (.int .i64 (m.num q)) := (HX.out.2.2.2.cell (ix q)).trans (num_cell m A c A' c' q hn)
        have HF : Hid (m.fine q = within (m.num q) q) := by show _ = _; unfold M.fine; rw [isNum_iff, decide_eq_true hn]; rfl
        have HN := hid hN
        clear hN hn
        go_wp2_with fail
        refine (HN.out _).mono ?_
        rintro e w2 ⟨rfl, rfl⟩
        obtain ⟨bb, hbb⟩ : ∃ bb, bb = within (m.num q) q := ⟨_, rfl⟩
        have HBB := hid hbb
        clear hbb
        go_wp2_with fail
        refine (within_any _ _ _).mono ?_
        rw [← HBB.out]
        rintro e w2 ⟨rfl, rfl⟩
        cases bb
        · go_wp2_with fail
          go_ret
          rw [okTo_not HP.out (by rw [← HQ.out, HF.out, ← HBB.out])]
          exact ⟨rfl, HX.out.2.2.1⟩
        · go_wp2_with fail
          go_roundw
          case rel => exact ⟨pos + 1, hid HX.out.2.2.2, hid HX.out.2.1, hid HX.out.2.2.1, hid (okTo_next HS.out HP.out (by rw [← HQ.out, HF.out, ← HBB.out]))⟩
          case measure =>
            simp only [World.iterPos, HX.out.2.1, HI.out]
            have := HL.out
            have := HP.out
            omega
      · rw [show ptr w.heap.size q = none from if_neg hn] at hN
        have HF : Hid (m.fine q = true) := by show _ = _; unfold M.fine; rw [isNum_iff, decide_eq_false hn]; rfl
        have HN := hid hN
        clear hN hn
        go_wp2_with fail
        refine (HN.out _).mono ?_
        rintro e w2 ⟨rfl, rfl⟩
        go_wp2_with fail
        go_roundw
        case rel => exact ⟨pos + 1, hid HX.out.2.2.2, hid HX.out.2.1, hid HX.out.2.2.1, hid (okTo_next HS.out HP.out (by rw [← HQ.out, HF.out]))⟩
        case measure =>
          simp only [World.iterPos, HX.out.2.1, HI.out]
          have := HL.out
          have := HP.out
          omega
    · have hnx : ∀ ty, (Instr.next (.pointer (some ⟨w.heap.size + 1, 0, none⟩)) true ty).run Tryd.prog wr = _ := fun ty => next_end wr (w.heap.size + 1) _ pos ty HI.out hp
      have hA := okTo_all HS.out hp
      have HA := hid hA
      have hc15 := HB.out.c15
      have HBe := hid (HE.out.1.below HBel.out)
      clear hA hp
      have HWS : Hid (Below w.heap.size w wr) := HBel
      go_wp2_with fail
      clear HB HI HBel HS hnx
      go_loopw [7, 32] (fun _ i wq => ∃ j : Nat, j ≤ m.es.length ∧ i = .int .i64 (j : Int) ∧ Hid (Below w.heap.size w wq) ∧ Hid (∀ (n : Nat) (h : n < m.es.length), n < j → enOk m.es[n] = true)) (fun _ i _ => m.es.length - (intOf i).toNat)
      case atStart => exact ⟨0, Nat.zero_le _, rfl, HWS, hid fun n _ h => absurd h (Nat.not_lt_zero _)⟩
      case round =>
        obtain ⟨j, hj, rfl, HB, HJ⟩ := hrel
        by_cases hlt : j < m.es.length
        · obtain ⟨b, off, hA, hb, hcs⟩ := HE.out.1.cells j hlt
          obtain ⟨A3, c3, e0, e1, e2, _, _, _⟩ := (hcs j hlt).below hb HB.out
          have hln := HE.out.2
          subst hA
          have HN := hid (And.intro hb hcs)
          clear hcs hb hc15
          go_wp2_with fail
          have hnum := HE.out.1.num _ (List.getElem_mem hlt)
          have HE2 : Hid (∀ b1 b2 b3 : Bool, within m.es[j].t 116 = b1 → decide (0 ≤ m.es[j].k) = b2 → decide (m.es[j].k ≤ 2) = b3 → enOk m.es[j] = (b1 && (b2 && b3))) := by
            intro b1 b2 b3 h1 h2 h3
            unfold enOk
            rw [h1, h2, h3]
          have HBN : Hid (∀ o : Obj, Below w.heap.size w (wr.alloc o)) := fun o => HB.out.alloc HB.out.size _
          have HJ2 : Hid (enOk m.es[j] = true → ∀ (n : Nat) (h : n < m.es.length), n < j + 1 → enOk m.es[n] = true) := by
            intro h0 n hn hnj
            by_cases e : n = j
            · subst e; exact h0
            · exact HJ.out n hn (by omega)
          have HNO : Hid (enOk m.es[j] = false → m.inRange = false) := fun h => inRange_not hlt h
          obtain ⟨bb, hbb⟩ : ∃ bb, bb = within m.es[j].t 116 := ⟨_, rfl⟩
          have HBB := hid hbb
          refine (within_any _ 116 _).mono ?_
          rw [← hbb]
          rintro e w2 ⟨rfl, rfl⟩
          clear hbb HB HJ hnum
          cases bb
          · go_wp2_with fail
            go_ret
            rw [HNO.out (by rw [HE2.out _ _ _ HBB.out.symm rfl rfl]; rfl)]
            exact ⟨rfl, HBN.out _⟩
          · by_cases k0 : 0 ≤ m.es[j].k
            · by_cases k2 : m.es[j].k ≤ 2
              · have HOK := hid (HE2.out _ _ _ HBB.out.symm (decide_eq_true k0) (decide_eq_true k2))
                go_wp2_with fail
                go_roundw
                case rel => exact ⟨j + 1, by omega, by go_num, hid (HBN.out _), hid (HJ2.out HOK.out)⟩
                case measure => simp [intOf]; omega
              · have HOK := hid (HE2.out _ _ _ HBB.out.symm (decide_eq_true k0) (decide_eq_false k2))
                go_wp2_with fail
                go_ret
                rw [HNO.out HOK.out]
                exact ⟨rfl, HBN.out _⟩
            · have HOK := hid (HE2.out _ _ _ HBB.out.symm (decide_eq_false k0) rfl)
              go_wp2_with fail
              go_ret
              rw [HNO.out HOK.out]
              exact ⟨rfl, HBN.out _⟩
        · obtain rfl : j = m.es.length := by omega
          have HR : Hid (m.inRange = true) := inRange_of HA.out fun e he => by
            obtain ⟨n, hn, rfl⟩ := List.getElem_of_mem he
            exact HJ.out n hn hn
          go_wp2_with fail
          go_ret
          rw [HR.out]
          exact ⟨rfl, HB.out⟩
end Go.Proofs.YtmaebemhephcmaaDoor.Ms
