/- The walks through the statements' own helpers: is a message too great, and does the chapter's message work? -/
import Derived.Test.YtmaebemhephcmaaDoorMsMath3
import Derived.Test.YtmaebemhephcmaaDoorMsKit
import Derived.Deep.RegionHeld3
namespace Go.Proofs.YtmaebemhephcmaaDoor.Ms
open Go.RowKit
set_option maxRecDepth 100000
set_option linter.unusedVariables false
attribute [local go_sem ↓] loadAt_msg storeAt_msg

/-- greater than the statements go through -/
def bigM (m : M) : Bool := big m.es 2000 131072 || decide (131072 < m.d.length)
theorem big_small {m : M} (h : bigM m = false) : Small m ∧ m.es.length ≤ 2000 ∧ weigh m.es ≤ 131072 ∧ m.d.length ≤ 131072 := by
  unfold bigM big at h
  rw [Bool.or_eq_false_iff, Bool.or_eq_false_iff, decide_eq_false_iff_not, decide_eq_false_iff_not, decide_eq_false_iff_not] at h
  exact ⟨⟨by omega, by omega, by omega⟩, by omega, by omega, by omega⟩
set_option maxHeartbeats 1600000 in
theorem bigMsg_any (m : M) (A : Option Addr) (c : Nat) (A' : Option Addr) (c' : Nat) (w : World) (h : IsEnts w w.heap.size A m.es) (hd : m.d.length ≤ maxLen) :
    Calls Tryd.prog 31 #[.agg #[.int .i64 m.K, .int .i64 m.F, .int .i64 m.T, .int .i64 m.g, .int .i64 m.t, .int .i64 m.i, .int .i64 m.p, .int .i64 m.c, .int .i64 m.r, .int .i64 m.x, .int .i64 m.a, .int .i64 m.b, .int .i64 m.v, .int .i64 m.s, .bool m.ok, .slice A m.es.length c, .slice A' m.d.length c'], .int .i64 2000, .int .i64 131072] w fun e w' => e = .returned (.bool (bigM m)) ∧ Below w.heap.size w w' := by
  have hb : Below w.heap.size w (w.alloc (.cells #[.int .i64 m.K, .int .i64 m.F, .int .i64 m.T, .int .i64 m.g, .int .i64 m.t, .int .i64 m.i, .int .i64 m.p, .int .i64 m.c, .int .i64 m.r, .int .i64 m.x, .int .i64 m.a, .int .i64 m.b, .int .i64 m.v, .int .i64 m.s, .bool m.ok, .slice A m.es.length c, .slice A' m.d.length c'] 25)) := (Below.refl _ w).alloc (Nat.le_refl _) _
  have HB := hid hb
  have HE := hid (big_any w.heap.size A c _ m.es rfl 2000 131072 (by omega) (by omega) _ (h.below hb))
  clear hb h
  obtain ⟨b, hbb⟩ : ∃ b, b = big m.es 2000 131072 := ⟨_, rfl⟩
  have HBB : Hid (∀ x : Bool, decide (131072 < m.d.length) = x → bigM m = (b || x)) := hid fun x hx => by unfold bigM; rw [hx, hbb]
  rw [← hbb] at HE
  clear hbb
  unfold maxLen at hd
  go_enter Tryd.func31, Tryd.ntmps31
  go_wp2_with fail
  refine HE.out.mono ?_
  rintro e w1 ⟨rfl, hw1⟩
  rw [hw1]
  clear hw1
  cases b
  · by_cases hl : 131072 < m.d.length
    · have HR := hid (HBB.out true (decide_eq_true hl))
      have hl' : decide ((131072 : Int) < (m.d.length : Int)) = true := decide_eq_true (by omega)
      have HL := hid hl'
      clear hl'
      go_wp2_with fail
      go_ret
      rw [HR.out]
      exact ⟨congrArg (fun b => Ending.returned (.bool b)) HL.out, HB.out⟩
    · have HR := hid (HBB.out false (decide_eq_false hl))
      have hl' : decide ((131072 : Int) < (m.d.length : Int)) = false := decide_eq_false (by omega)
      have HL := hid hl'
      clear hl'
      go_wp2_with fail
      go_ret
      rw [HR.out]
      exact ⟨congrArg (fun b => Ending.returned (.bool b)) HL.out, HB.out⟩
  · have HR := hid (HBB.out _ rfl)
    go_wp2_with fail
    go_ret
    rw [HR.out]
    exact ⟨rfl, HB.out⟩
set_option maxHeartbeats 1600000 in
theorem bigL_any (m : M) (A : Option Addr) (c : Nat) (A' : Option Addr) (c' : Nat) (w : World) (h : IsEnts w w.heap.size A m.es) (hd : m.d.length ≤ maxLen) :
    Calls Tryd.prog 11 #[.agg #[.int .i64 m.K, .int .i64 m.F, .int .i64 m.T, .int .i64 m.g, .int .i64 m.t, .int .i64 m.i, .int .i64 m.p, .int .i64 m.c, .int .i64 m.r, .int .i64 m.x, .int .i64 m.a, .int .i64 m.b, .int .i64 m.v, .int .i64 m.s, .bool m.ok, .slice A m.es.length c, .slice A' m.d.length c']] w fun e w' => e = .returned (.bool (bigM m)) ∧ Below w.heap.size w w' := by
  have hb : Below w.heap.size w (w.alloc (.cells #[.int .i64 m.K, .int .i64 m.F, .int .i64 m.T, .int .i64 m.g, .int .i64 m.t, .int .i64 m.i, .int .i64 m.p, .int .i64 m.c, .int .i64 m.r, .int .i64 m.x, .int .i64 m.a, .int .i64 m.b, .int .i64 m.v, .int .i64 m.s, .bool m.ok, .slice A m.es.length c, .slice A' m.d.length c'] 25)) := (Below.refl _ w).alloc (Nat.le_refl _) _
  have HB := hid hb
  have HE := hid (bigMsg_any m A c A' c' _ ((h.below hb).more hb.size) hd)
  have hld := ld_new w 25 #[.int .i64 m.K, .int .i64 m.F, .int .i64 m.T, .int .i64 m.g, .int .i64 m.t, .int .i64 m.i, .int .i64 m.p, .int .i64 m.c, .int .i64 m.r, .int .i64 m.x, .int .i64 m.a, .int .i64 m.b, .int .i64 m.v, .int .i64 m.s, .bool m.ok, .slice A m.es.length c, .slice A' m.d.length c'] rfl
  clear hb h
  go_enter Tryd.func11, Tryd.ntmps11
  go_wp2_with fail
  refine HE.out.mono ?_
  rintro e w1 ⟨rfl, hw1⟩
  have HB2 := hid (HB.out.trans (hw1.mono HB.out.size))
  clear hw1 hld
  go_wp2_with fail
  go_ret
  exact ⟨rfl, HB2.out⟩
/-- the chapter's message -/
def askM : M := { M0 with K := 8, F := 1, T := 2, x := 9, a := 3, b := 5 }
theorem results_one {fn : Func} {p : Tmp} (h : fn.results = #[.cell p 25]) (tmps : Array Value) (w : World) (g : Nat) (t : TypeId) (cs : Array Value) (fr : Nat × Nat)
    (hp : tmps.getD p undef = .pointer (some ⟨g, 0, none⟩)) (hg : w.heap[g]? = some (.cells cs t fr)) (hs : cs.size = 17) :
    (results fn tmps).run Tryd.prog w = .ok (.agg cs) w :=
  results_cell_row h tmps w g t cs fr _ hp hg Tryd.underlying25 rfl (by rw [info_msg, hs])
set_option maxHeartbeats 1600000 in
theorem ask_any (w : World) :
    Calls Tryd.prog 32 #[] w fun e w' => e = .returned (.agg #[.int .i64 askM.K, .int .i64 askM.F, .int .i64 askM.T, .int .i64 askM.g, .int .i64 askM.t, .int .i64 askM.i, .int .i64 askM.p, .int .i64 askM.c, .int .i64 askM.r, .int .i64 askM.x, .int .i64 askM.a, .int .i64 askM.b, .int .i64 askM.v, .int .i64 askM.s, .bool askM.ok, .slice none askM.es.length 0, .slice none askM.d.length 0]) ∧ Below w.heap.size w w' := by
  have hst := st_new w #[.int .i64 0, .int .i64 0, .int .i64 0, .int .i64 0, .int .i64 0, .int .i64 0, .int .i64 0, .int .i64 0, .int .i64 0, .int .i64 0, .int .i64 0, .int .i64 0, .int .i64 0, .int .i64 0, .bool false, .slice none 0 0, .slice none 0 0]
    #[.int .i64 8, .int .i64 1, .int .i64 2, .int .i64 0, .int .i64 0, .int .i64 0, .int .i64 0, .int .i64 0, .int .i64 0, .int .i64 9, .int .i64 3, .int .i64 5, .int .i64 0, .int .i64 0, .bool false, .slice none 0 0, .slice none 0 0] rfl rfl (by simp [Value.oneCell'])
  go_enter Tryd.func32, Tryd.ntmps32
  go_wp2_with fail
  refine bodyPost_ret (results_one rfl _ _ w.heap.size _ _ _ rfl (heap_alloc_new w _) rfl) rfl ?_
  exact ⟨rfl, (Below.refl _ w).alloc (Nat.le_refl _) _⟩
theorem ask_wf : Wf askM := by
  refine ⟨?_, ?_, ?_⟩
  · intro r hr
    simp only [nums, List.mem_cons, List.not_mem_nil, or_false] at hr
    rcases hr with rfl | rfl | rfl | rfl | rfl | rfl | rfl | rfl | rfl | rfl | rfl | rfl | rfl | rfl <;> exact ⟨by decide, by decide⟩
  · intro e he; cases he
  · intro e he; cases he
theorem ask_small : Small askM := ⟨by decide, by decide, by decide⟩
theorem ask_check : check askM = 0 := by decide
theorem ask_is (w : World) : Is w w.heap.size askM none 0 none 0 := ⟨fun r hr => ask_wf.num r hr, IsEnts.nil, ⟨Nat.le_refl _, Nat.zero_le _⟩, fun _ => rfl, IsBytes.nil, ⟨Nat.le_refl _, Nat.zero_le _⟩, fun _ => rfl⟩
theorem encF_lt (m : M) (r : Nat) (hd : ∀ x ∈ m.d, x < 256) (he : ∀ e ∈ m.es, ∀ x ∈ e.d, x < 256) : ∀ x ∈ m.encF r, x < 256 := by
  intro x hx
  unfold M.encF at hx
  split at hx
  · exact Pk.enc_small _ x hx
  · split at hx
    · rcases List.mem_append.1 hx with h | h
      · exact Pk.enc_small _ x h
      · obtain ⟨e, h1, h2⟩ := List.mem_flatMap.1 h
        unfold encE at h2
        rcases List.mem_append.1 h2 with h | h
        · exact Pk.enc_small _ x h
        · rcases List.mem_append.1 h with h | h
          · exact Pk.enc_small _ x h
          · rcases List.mem_append.1 h with h | h
            · exact Pk.enc_small _ x h
            · exact he e h1 x h
    · split at hx
      · rcases List.mem_append.1 hx with h | h
        · exact Pk.enc_small _ x h
        · exact hd x h
      · exact Pk.enc_small _ x hx
theorem enc_lt (m : M) (hw : Wf m) : ∀ x ∈ m.enc, x < 256 := by
  intro x hx
  obtain ⟨r, _, h⟩ := List.mem_flatMap.1 hx
  exact encF_lt m r hw.d (fun e he => (hw.es e he).2.2) x h
theorem ask_len : (Fr.frame askM.enc).length = 56 := by
  obtain ⟨h1, h2, _⟩ := check_zero ask_check
  rw [Fr.frame_length, enc_length askM h1 h2]; rfl
theorem ask_back : get (Fr.frame askM.enc) = (askM, 0) := by
  have := back askM ask_wf ask_small ask_check [] (enc_lt askM ask_wf)
  rwa [List.append_nil] at this
theorem put_ask (w : World) (hT : Tab w) : Calls Tryd.prog 16 #[.agg #[.int .i64 askM.K, .int .i64 askM.F, .int .i64 askM.T, .int .i64 askM.g, .int .i64 askM.t, .int .i64 askM.i, .int .i64 askM.p, .int .i64 askM.c, .int .i64 askM.r, .int .i64 askM.x, .int .i64 askM.a, .int .i64 askM.b, .int .i64 askM.v, .int .i64 askM.s, .bool askM.ok, .slice none askM.es.length 0, .slice none askM.d.length 0]] w fun e w' => ∃ A2 c2, e = .returned (.tuple #[.slice A2 56 c2, .int .i64 0]) ∧ OwnsB 5 w' w.heap.size A2 c2 (Fr.frame askM.enc) ∧ Below w.heap.size w w' := by
  refine (put_any askM none 0 none 0 w (ask_is w) hT ask_small).mono ?_
  rintro e w' ⟨A2, c2, he, ho, hb⟩
  have hp : put askM = (Fr.frame askM.enc, 0) := if_pos ask_check
  rw [hp] at he ho
  refine ⟨A2, c2, ?_, ho, hb⟩
  rw [he, ask_len]; rfl
theorem get_ask (w : World) (hT : Tab w) (A : Option Addr) (c base : Nat) (h : OwnsB 5 w base A c (Fr.frame askM.enc)) : Calls Tryd.prog 22 #[.slice A 56 c] w fun e w' => ∃ A1 c1 A2 c2, e = .returned (.tuple #[.agg #[.int .i64 askM.K, .int .i64 askM.F, .int .i64 askM.T, .int .i64 askM.g, .int .i64 askM.t, .int .i64 askM.i, .int .i64 askM.p, .int .i64 askM.c, .int .i64 askM.r, .int .i64 askM.x, .int .i64 askM.a, .int .i64 askM.b, .int .i64 askM.v, .int .i64 askM.s, .bool askM.ok, .slice A1 askM.es.length c1, .slice A2 askM.d.length c2], .int .i64 0]) ∧ Below w.heap.size w w' := by
  have hcap := h.cap
  rw [ask_len] at hcap
  refine (get_any _ A c 56 ask_len w h.reads h.none_ hcap (by omega) hT).mono ?_
  rintro e w' ⟨A1, c1, A2, c2, he, ho, hb⟩
  rw [ask_back] at he ho
  exact ⟨A1, c1, A2, c2, he, hb⟩
theorem same_ask (w : World) (A : Option Addr) (c : Nat) (A' : Option Addr) (c' : Nat) : Calls Tryd.prog 20 #[.agg #[.int .i64 askM.K, .int .i64 askM.F, .int .i64 askM.T, .int .i64 askM.g, .int .i64 askM.t, .int .i64 askM.i, .int .i64 askM.p, .int .i64 askM.c, .int .i64 askM.r, .int .i64 askM.x, .int .i64 askM.a, .int .i64 askM.b, .int .i64 askM.v, .int .i64 askM.s, .bool askM.ok, .slice A askM.es.length c, .slice A' askM.d.length c'], .agg #[.int .i64 askM.K, .int .i64 askM.F, .int .i64 askM.T, .int .i64 askM.g, .int .i64 askM.t, .int .i64 askM.i, .int .i64 askM.p, .int .i64 askM.c, .int .i64 askM.r, .int .i64 askM.x, .int .i64 askM.a, .int .i64 askM.b, .int .i64 askM.v, .int .i64 askM.s, .bool askM.ok, .slice none askM.es.length 0, .slice none askM.d.length 0]] w fun e w' => e = .returned (.bool true) ∧ Below w.heap.size w w' := by
  refine (same_any askM askM A c A' c' none 0 none 0 w IsEnts.nil IsEnts.nil IsBytes.nil IsBytes.nil ask_small ask_small).mono ?_
  rintro e w' ⟨he, hb⟩
  exact ⟨by rw [he, decide_eq_true rfl], hb⟩
/-- a load that a region must not take first -/
def loadM : Op := Op.load 25 (Operand.tmp 3)
set_option maxHeartbeats 3200000 in
theorem works_any (w : World) (hT : Tab w) :
    Calls Tryd.prog 12 #[] w fun e w' => e = .returned (.bool true) ∧ Below w.heap.size w w' := by
  have HT := hid hT
  have hpos := hT.pos
  clear hT
  go_enter Tryd.func12, Tryd.ntmps12
  go_wp2_with fail
  refine (ask_any w).mono ?_
  rintro e w1 ⟨rfl, hb1⟩
  have HB1 := hid hb1
  have HP := hid (put_ask w1 (HT.out.below hb1 hpos))
  clear hb1
  go_wp2_with fail
  refine HP.out.mono ?_
  rintro e w2 ⟨A2, c2, rfl, ho, hb2⟩
  have HB2 := hid (HB1.out.trans (hb2.mono HB1.out.size))
  have HG := hid (get_ask w2 (HT.out.below HB2.out hpos) A2 c2 _ ho)
  clear ho hb2
  go_wp2_with fail
  refine HG.out.mono ?_
  rintro e w3 ⟨A3, c3, A4, c4, rfl, hb3⟩
  have HB3 := hid (HB2.out.trans (hb3.mono HB2.out.size))
  have hst := st_new w3 #[.int .i64 0, .int .i64 0, .int .i64 0, .int .i64 0, .int .i64 0, .int .i64 0, .int .i64 0, .int .i64 0, .int .i64 0, .int .i64 0, .int .i64 0, .int .i64 0, .int .i64 0, .int .i64 0, .bool false, .slice none 0 0, .slice none 0 0] #[.int .i64 askM.K, .int .i64 askM.F, .int .i64 askM.T, .int .i64 askM.g, .int .i64 askM.t, .int .i64 askM.i, .int .i64 askM.p, .int .i64 askM.c, .int .i64 askM.r, .int .i64 askM.x, .int .i64 askM.a, .int .i64 askM.b, .int .i64 askM.v, .int .i64 askM.s, .bool askM.ok, .slice A3 askM.es.length c3, .slice A4 askM.d.length c4] rfl rfl (msg_one askM A3 c3 A4 c4)
  have hbx : Bx (w3.alloc (.cells #[.int .i64 askM.K, .int .i64 askM.F, .int .i64 askM.T, .int .i64 askM.g, .int .i64 askM.t, .int .i64 askM.i, .int .i64 askM.p, .int .i64 askM.c, .int .i64 askM.r, .int .i64 askM.x, .int .i64 askM.a, .int .i64 askM.b, .int .i64 askM.v, .int .i64 askM.s, .bool askM.ok, .slice A3 askM.es.length c3, .slice A4 askM.d.length c4] 25)) w3.heap.size askM A3 c3 A4 c4 := ⟨heap_alloc_new w3 _⟩
  have hb4 : Below w.heap.size w (w3.alloc (.cells #[.int .i64 askM.K, .int .i64 askM.F, .int .i64 askM.T, .int .i64 askM.g, .int .i64 askM.t, .int .i64 askM.i, .int .i64 askM.p, .int .i64 askM.c, .int .i64 askM.r, .int .i64 askM.x, .int .i64 askM.a, .int .i64 askM.b, .int .i64 askM.v, .int .i64 askM.s, .bool askM.ok, .slice A3 askM.es.length c3, .slice A4 askM.d.length c4] 25)) := HB3.out.alloc HB3.out.size _
  clear hb3
  generalize hw4 : (w3.alloc (.cells #[.int .i64 askM.K, .int .i64 askM.F, .int .i64 askM.T, .int .i64 askM.g, .int .i64 askM.t, .int .i64 askM.i, .int .i64 askM.p, .int .i64 askM.c, .int .i64 askM.r, .int .i64 askM.x, .int .i64 askM.a, .int .i64 askM.b, .int .i64 askM.v, .int .i64 askM.s, .bool askM.ok, .slice A3 askM.es.length c3, .slice A4 askM.d.length c4] 25)) = w4 at hst hbx hb4
  have HX := hid (And.intro hbx hb4)
  clear hbx hb4
  go_wp2_with fail
  have hopM : loadM = Op.load 25 (Operand.tmp 3) := rfl
  rw [← hopM]
  have hbd : Below w.heap.size w w4.drew := HX.out.2.drew
  have hld1 : (ldMsg (.pointer (some ⟨w3.heap.size, 0, none⟩))).run Tryd.prog w4.drew = .ok (.agg #[.int .i64 askM.K, .int .i64 askM.F, .int .i64 askM.T, .int .i64 askM.g, .int .i64 askM.t, .int .i64 askM.i, .int .i64 askM.p, .int .i64 askM.c, .int .i64 askM.r, .int .i64 askM.x, .int .i64 askM.a, .int .i64 askM.b, .int .i64 askM.v, .int .i64 askM.s, .bool askM.ok, .slice A3 askM.es.length c3, .slice A4 askM.d.length c4]) w4.drew := Bx.load ⟨HX.out.1.row⟩
  have HBD := hid hbd
  have HLD : Hid (∀ w5, Below w4.drew.heap.size w4.drew w5 → (ldMsg (.pointer (some ⟨w3.heap.size, 0, none⟩))).run Tryd.prog w5 = .ok (.agg #[.int .i64 askM.K, .int .i64 askM.F, .int .i64 askM.T, .int .i64 askM.g, .int .i64 askM.t, .int .i64 askM.i, .int .i64 askM.p, .int .i64 askM.c, .int .i64 askM.r, .int .i64 askM.x, .int .i64 askM.a, .int .i64 askM.b, .int .i64 askM.v, .int .i64 askM.s, .bool askM.ok, .slice A3 askM.es.length c3, .slice A4 askM.d.length c4]) w5) := hid fun w5 hb => Bx.load ((Bx.mk (w := w4.drew) HX.out.1.row).below hb (row_lt HX.out.1.row))
  clear hbd hw4 hst
  go_region_held3 (fun w' => True)
    (first | exact trivial | fail)
    (first
      | (go_at_call 20; refine (same_ask w5 A3 c3 A4 c4).mono ?_; rintro e w6 ⟨rfl, hb6⟩; have HB6 := hid (HB5.out.trans (hb6.mono HB5.out.size)); clear hb6)
      | (go_at_call 32; refine (ask_any _).mono ?_; rintro e w5 ⟨rfl, hb5⟩; have HB5 := hid (HBD.out.trans (hb5.mono HBD.out.size)); have hld2 := HLD.out w5 hb5; clear hb5))
  all_goals
    clear hld1 hld2 hopM
    go_wp2_with fail
    go_ret
    exact ⟨rfl, HB6.out⟩
end Go.Proofs.YtmaebemhephcmaaDoor.Ms
