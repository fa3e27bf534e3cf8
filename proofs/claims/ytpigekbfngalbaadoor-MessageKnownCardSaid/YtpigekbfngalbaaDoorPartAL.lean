/- Texts of the proof, one behind the other: MsKnB, MsKnC, MsKnD, Make. -/
import Derived.Test.YtpigekbfngalbaaDoorPartAK
import Derived.Test.YtpigekbfngalbaaDoorPartAH
import Derived.Test.YtpigekbfngalbaaDoorPartAI
import Derived.Test.YtpigekbfngalbaaDoorPartAD
import Derived.OwnWalk
import Derived.Deep.Slices
namespace Go.Proofs.YtpigekbfngalbaaDoor.Ms
open Go.RowKit
set_option maxRecDepth 100000
set_option linter.unusedVariables false
attribute [local go_sem ↓] loadAt_msg storeAt_msg

def M.wo (m : M) (f : Nat) : M := if f = 11 then { m with ok := false } else if f = 12 then { m with es := [] } else if f = 13 then { m with d := [] } else m.set (setF.getD f 0) 0
theorem Is.sub {w : World} {B : Nat} {m m' : M} {A A' : Option Addr} {c c' : Nat} (h : Is w B m A c A' c') (hn : ∀ r ∈ nums, InInt (m'.num r)) (he : m'.es = m.es) (hd : m'.d = m.d) : Is w B m' A c A' c' :=
  ⟨hn, by rw [he]; exact h.es, by rw [he]; exact h.ec, h.en, by rw [hd]; exact h.d, by rw [hd]; exact h.dc, h.dn⟩
theorem Is.set_ {w : World} {B : Nat} {m : M} {A A' : Option Addr} {c c' : Nat} (h : Is w B m A c A' c') (r : Nat) (v : Int) (hv : InInt v) : Is w B (m.set r v) A c A' c' :=
  h.sub (fun q hq => by
    rw [num_set m r q _ hq]
    split
    · exact hv
    · exact h.num q hq) (set_es m r v).1 (set_es m r v).2
/-- what a message leads to is what another one leads to, or nothing -/
def Fro (m : M) (A : Option Addr) (c : Nat) (A' : Option Addr) (c' : Nat) (m0 : M) (A0 : Option Addr) (c0 : Nat) (A0' : Option Addr) (c0' : Nat) : Prop :=
  ((A = A0 ∧ c = c0 ∧ m.es = m0.es) ∨ (A = none ∧ c = 0 ∧ m.es = [])) ∧ ((A' = A0' ∧ c' = c0' ∧ m.d = m0.d) ∨ (A' = none ∧ c' = 0 ∧ m.d = []))
theorem Fro.refl (m : M) (A : Option Addr) (c : Nat) (A' : Option Addr) (c' : Nat) : Fro m A c A' c' m A c A' c' := ⟨.inl ⟨rfl, rfl, rfl⟩, .inl ⟨rfl, rfl, rfl⟩⟩
theorem Fro.trans {m : M} {A : Option Addr} {c : Nat} {A' : Option Addr} {c' : Nat} {m1 : M} {A1 : Option Addr} {c1 : Nat} {A1' : Option Addr} {c1' : Nat} {m2 : M} {A2 : Option Addr} {c2 : Nat} {A2' : Option Addr} {c2' : Nat} (h : Fro m A c A' c' m1 A1 c1 A1' c1') (h' : Fro m1 A1 c1 A1' c1' m2 A2 c2 A2' c2') : Fro m A c A' c' m2 A2 c2 A2' c2' := by
  refine ⟨?_, ?_⟩
  · rcases h.1 with ⟨e1, e2, e3⟩ | h1
    · rcases h'.1 with ⟨f1, f2, f3⟩ | ⟨f1, f2, f3⟩
      · exact .inl ⟨e1.trans f1, e2.trans f2, e3.trans f3⟩
      · exact .inr ⟨e1.trans f1, e2.trans f2, e3.trans f3⟩
    · exact .inr h1
  · rcases h.2 with ⟨e1, e2, e3⟩ | h1
    · rcases h'.2 with ⟨f1, f2, f3⟩ | ⟨f1, f2, f3⟩
      · exact .inl ⟨e1.trans f1, e2.trans f2, e3.trans f3⟩
      · exact .inr ⟨e1.trans f1, e2.trans f2, e3.trans f3⟩
    · exact .inr h1
/-- what is told of a message: it is made of another one -/
def ToldF (w w' : World) (m m0 : M) (A0 : Option Addr) (c0 : Nat) (A0' : Option Addr) (c0' : Nat) (e : Ending) : Prop := ∃ A c A' c', e = .returned (.agg #[.int .i64 m.K, .int .i64 m.F, .int .i64 m.T, .int .i64 m.g, .int .i64 m.t, .int .i64 m.i, .int .i64 m.p, .int .i64 m.c, .int .i64 m.r, .int .i64 m.x, .int .i64 m.a, .int .i64 m.b, .int .i64 m.v, .int .i64 m.s, .bool m.ok, .slice A m.es.length c, .slice A' m.d.length c']) ∧ Fro m A c A' c' m0 A0 c0 A0' c0' ∧ Below w.heap.size w w'
/-- what is told of a message: it lies there -/
def ToldM (w w' : World) (m : M) (e : Ending) : Prop := ∃ A c A' c', e = .returned (.agg #[.int .i64 m.K, .int .i64 m.F, .int .i64 m.T, .int .i64 m.g, .int .i64 m.t, .int .i64 m.i, .int .i64 m.p, .int .i64 m.c, .int .i64 m.r, .int .i64 m.x, .int .i64 m.a, .int .i64 m.b, .int .i64 m.v, .int .i64 m.s, .bool m.ok, .slice A m.es.length c, .slice A' m.d.length c']) ∧ Is w' w'.heap.size m A c A' c' ∧ Below w.heap.size w w'
theorem boxOf (w : World) (cs : Array Value) (z : Array Value) : ((w.alloc (.cells cs 25)).alloc (.cells z 25)).heap[w.heap.size]? = some (.cells cs 25 (0, 0)) ∧ ((w.alloc (.cells cs 25)).alloc (.cells z 25)).heap[w.heap.size + 1]? = some (.cells z 25 (0, 0)) ∧
    Below w.heap.size w ((w.alloc (.cells cs 25)).alloc (.cells z 25)) := by
  have h0 : (w.alloc (.cells cs 25)).heap.size = w.heap.size + 1 := by simp
  refine ⟨((Below.refl _ (w.alloc (.cells cs 25))).alloc (Nat.le_refl _) _).block _ (by omega) |>.trans (heap_alloc_new w _), by rw [← h0]; exact heap_alloc_new _ _, ((Below.refl _ w).alloc (Nat.le_refl _) _).alloc (by simp) _⟩
set_option maxHeartbeats 6400000 in
theorem without_any (m : M) (A : Option Addr) (c : Nat) (A' : Option Addr) (c' : Nat) (f : Nat) (hf : f < 14) (w : World) (h : Is w w.heap.size m A c A' c') :
    Calls Tryd.prog 56 #[.agg #[.int .i64 m.K, .int .i64 m.F, .int .i64 m.T, .int .i64 m.g, .int .i64 m.t, .int .i64 m.i, .int .i64 m.p, .int .i64 m.c, .int .i64 m.r, .int .i64 m.x, .int .i64 m.a, .int .i64 m.b, .int .i64 m.v, .int .i64 m.s, .bool m.ok, .slice A m.es.length c, .slice A' m.d.length c'], .int .i64 (f : Int)] w fun e w' => ToldF w w' (m.wo f) m A c A' c' e := by
  by_cases hs : f < 11
  · obtain ⟨w1, hw1⟩ : ∃ w1, w1 = (w.alloc (.cells #[.int .i64 m.K, .int .i64 m.F, .int .i64 m.T, .int .i64 m.g, .int .i64 m.t, .int .i64 m.i, .int .i64 m.p, .int .i64 m.c, .int .i64 m.r, .int .i64 m.x, .int .i64 m.a, .int .i64 m.b, .int .i64 m.v, .int .i64 m.s, .bool m.ok, .slice A m.es.length c, .slice A' m.d.length c'] 25)).alloc (.cells #[.int .i64 0, .int .i64 0, .int .i64 0, .int .i64 0, .int .i64 0, .int .i64 0, .int .i64 0, .int .i64 0, .int .i64 0, .int .i64 0, .int .i64 0, .int .i64 0, .int .i64 0, .int .i64 0, .bool false, .slice none 0 0, .slice none 0 0] 25) := ⟨_, rfl⟩
    obtain ⟨b0, b1, b2⟩ := boxOf w #[.int .i64 m.K, .int .i64 m.F, .int .i64 m.T, .int .i64 m.g, .int .i64 m.t, .int .i64 m.i, .int .i64 m.p, .int .i64 m.c, .int .i64 m.r, .int .i64 m.x, .int .i64 m.a, .int .i64 m.b, .int .i64 m.v, .int .i64 m.s, .bool m.ok, .slice A m.es.length c, .slice A' m.d.length c'] #[.int .i64 0, .int .i64 0, .int .i64 0, .int .i64 0, .int .i64 0, .int .i64 0, .int .i64 0, .int .i64 0, .int .i64 0, .int .i64 0, .int .i64 0, .int .i64 0, .int .i64 0, .int .i64 0, .bool false, .slice none 0 0, .slice none 0 0]
    rw [← hw1] at b0 b1 b2
    have hx : Bx w1 w.heap.size m A c A' c' := ⟨b0⟩
    have hld := hx.load
    have hfl : f < setF.length := by have : setF.length = 14 := rfl; omega
    have HW := hid (kset_any m A c A' c' f hfl 0 w1)
    have HWO : Hid (m.wo f = m.set setF[f] 0) := hid (by
      unfold M.wo
      rw [if_neg (by omega), if_neg (by omega), if_neg (by omega), List.getD_eq_getElem?_getD, List.getElem?_eq_getElem hfl]; rfl)
    have HI := hid (And.intro h (And.intro b1 b2))
    have n1 : ¬ (f : Int) = 11 := by omega
    have n2 : ¬ (f : Int) = 12 := by omega
    have n3 : ¬ (f : Int) = 13 := by omega
    clear b0 b1 b2 hx h hf hs
    go_enter Tryd.func56, Tryd.ntmps56
    rw [hw1] at hld
    go_wp2_with fail
    rw [← hw1]
    clear hw1 hld
    refine HW.out.mono ?_
    rintro e w2 ⟨m', hm', rfl, hb2⟩
    have hz2 : w2.heap[w.heap.size + 1]? = _ := (hb2.block _ (row_lt HI.out.2.1)).trans HI.out.2.1
    have hst := st_row w2 (w.heap.size + 1) _ (#[.int .i64 m'.K, .int .i64 m'.F, .int .i64 m'.T, .int .i64 m'.g, .int .i64 m'.t, .int .i64 m'.i, .int .i64 m'.p, .int .i64 m'.c, .int .i64 m'.r, .int .i64 m'.x, .int .i64 m'.a, .int .i64 m'.b, .int .i64 m'.v, .int .i64 m'.s, .bool m'.ok, .slice A m'.es.length c, .slice A' m'.d.length c']) hz2 rfl rfl (msg_one m' A c A' c')
    obtain ⟨w3, hw3⟩ : ∃ w3, w3 = w2.setRow (w.heap.size + 1) (#[.int .i64 m'.K, .int .i64 m'.F, .int .i64 m'.T, .int .i64 m'.g, .int .i64 m'.t, .int .i64 m'.i, .int .i64 m'.p, .int .i64 m'.c, .int .i64 m'.r, .int .i64 m'.x, .int .i64 m'.a, .int .i64 m'.b, .int .i64 m'.v, .int .i64 m'.s, .bool m'.ok, .slice A m'.es.length c, .slice A' m'.d.length c']) := ⟨_, rfl⟩
    have ht3 : Turned (fun k => k = w.heap.size + 1) w2 w3 := by rw [hw3]; exact set_turned _ _ _
    have hbw : Below w.heap.size w w2 := HI.out.2.2.trans (hb2.mono HI.out.2.2.size)
    have hb3 : Below w.heap.size w w3 := hbw.trans (ht3.below hbw.size (fun k hk => by omega))
    have hr3 : w3.heap[w.heap.size + 1]? = some (.cells (#[.int .i64 m'.K, .int .i64 m'.F, .int .i64 m'.T, .int .i64 m'.g, .int .i64 m'.t, .int .i64 m'.i, .int .i64 m'.p, .int .i64 m'.c, .int .i64 m'.r, .int .i64 m'.x, .int .i64 m'.a, .int .i64 m'.b, .int .i64 m'.v, .int .i64 m'.s, .bool m'.ok, .slice A m'.es.length c, .slice A' m'.d.length c']) 25 (0, 0)) := by rw [hw3]; exact setRow_heap _ _ _ _ _ _ hz2
    rw [← hw3] at hst
    have HR := hid (And.intro hr3 (And.intro hm' hb3))
    clear hw3 ht3 hbw hb3 hr3 hz2 hb2 hm'
    go_wp2_with fail
    refine bodyPost_ret (results_cell_row rfl _ _ (w.heap.size + 1) _ _ _ _ rfl HR.out.1 Tryd.underlying25 rfl (by rw [info_msg]; rfl)) rfl ?_
    rw [HWO.out, ← HR.out.2.1]
    have e := set_es m (setF[f]'hfl) 0
    rw [← HR.out.2.1] at e
    exact ⟨A, c, A', c', rfl, ⟨.inl ⟨rfl, rfl, e.1⟩, .inl ⟨rfl, rfl, e.2⟩⟩, HR.out.2.2⟩
  · have hcs : f = 11 ∨ f = 12 ∨ f = 13 := by omega
    have fin : ∀ (m' : M) (A2 : Option Addr) (c2 : Nat) (A3 : Option Addr) (c3 : Nat), Is w w.heap.size m' A2 c2 A3 c3 → ∃ w3, (stMsg (.pointer (some ⟨w.heap.size + 1, 0, none⟩)) (.agg #[.int .i64 m'.K, .int .i64 m'.F, .int .i64 m'.T, .int .i64 m'.g, .int .i64 m'.t, .int .i64 m'.i, .int .i64 m'.p, .int .i64 m'.c, .int .i64 m'.r, .int .i64 m'.x, .int .i64 m'.a, .int .i64 m'.b, .int .i64 m'.v, .int .i64 m'.s, .bool m'.ok, .slice A2 m'.es.length c2, .slice A3 m'.d.length c3])).run Tryd.prog ((w.alloc (.cells #[.int .i64 m'.K, .int .i64 m'.F, .int .i64 m'.T, .int .i64 m'.g, .int .i64 m'.t, .int .i64 m'.i, .int .i64 m'.p, .int .i64 m'.c, .int .i64 m'.r, .int .i64 m'.x, .int .i64 m'.a, .int .i64 m'.b, .int .i64 m'.v, .int .i64 m'.s, .bool m'.ok, .slice A2 m'.es.length c2, .slice A3 m'.d.length c3] 25)).alloc (.cells #[.int .i64 0, .int .i64 0, .int .i64 0, .int .i64 0, .int .i64 0, .int .i64 0, .int .i64 0, .int .i64 0, .int .i64 0, .int .i64 0, .int .i64 0, .int .i64 0, .int .i64 0, .int .i64 0, .bool false, .slice none 0 0, .slice none 0 0] 25)) = .ok () w3 ∧
        (ldMsg (.pointer (some ⟨w.heap.size, 0, none⟩))).run Tryd.prog ((w.alloc (.cells #[.int .i64 m'.K, .int .i64 m'.F, .int .i64 m'.T, .int .i64 m'.g, .int .i64 m'.t, .int .i64 m'.i, .int .i64 m'.p, .int .i64 m'.c, .int .i64 m'.r, .int .i64 m'.x, .int .i64 m'.a, .int .i64 m'.b, .int .i64 m'.v, .int .i64 m'.s, .bool m'.ok, .slice A2 m'.es.length c2, .slice A3 m'.d.length c3] 25)).alloc (.cells #[.int .i64 0, .int .i64 0, .int .i64 0, .int .i64 0, .int .i64 0, .int .i64 0, .int .i64 0, .int .i64 0, .int .i64 0, .int .i64 0, .int .i64 0, .int .i64 0, .int .i64 0, .int .i64 0, .bool false, .slice none 0 0, .slice none 0 0] 25)) = .ok (.agg #[.int .i64 m'.K, .int .i64 m'.F, .int .i64 m'.T, .int .i64 m'.g, .int .i64 m'.t, .int .i64 m'.i, .int .i64 m'.p, .int .i64 m'.c, .int .i64 m'.r, .int .i64 m'.x, .int .i64 m'.a, .int .i64 m'.b, .int .i64 m'.v, .int .i64 m'.s, .bool m'.ok, .slice A2 m'.es.length c2, .slice A3 m'.d.length c3]) ((w.alloc (.cells #[.int .i64 m'.K, .int .i64 m'.F, .int .i64 m'.T, .int .i64 m'.g, .int .i64 m'.t, .int .i64 m'.i, .int .i64 m'.p, .int .i64 m'.c, .int .i64 m'.r, .int .i64 m'.x, .int .i64 m'.a, .int .i64 m'.b, .int .i64 m'.v, .int .i64 m'.s, .bool m'.ok, .slice A2 m'.es.length c2, .slice A3 m'.d.length c3] 25)).alloc (.cells #[.int .i64 0, .int .i64 0, .int .i64 0, .int .i64 0, .int .i64 0, .int .i64 0, .int .i64 0, .int .i64 0, .int .i64 0, .int .i64 0, .int .i64 0, .int .i64 0, .int .i64 0, .int .i64 0, .bool false, .slice none 0 0, .slice none 0 0] 25)) ∧
        w3.heap[w.heap.size + 1]? = some (.cells (#[.int .i64 m'.K, .int .i64 m'.F, .int .i64 m'.T, .int .i64 m'.g, .int .i64 m'.t, .int .i64 m'.i, .int .i64 m'.p, .int .i64 m'.c, .int .i64 m'.r, .int .i64 m'.x, .int .i64 m'.a, .int .i64 m'.b, .int .i64 m'.v, .int .i64 m'.s, .bool m'.ok, .slice A2 m'.es.length c2, .slice A3 m'.d.length c3]) 25 (0, 0)) ∧ Is w3 w3.heap.size m' A2 c2 A3 c3 ∧ Below w.heap.size w w3 := by
      intro m' A2 c2 A3 c3 hi
      obtain ⟨b0, b1, b2⟩ := boxOf w #[.int .i64 m'.K, .int .i64 m'.F, .int .i64 m'.T, .int .i64 m'.g, .int .i64 m'.t, .int .i64 m'.i, .int .i64 m'.p, .int .i64 m'.c, .int .i64 m'.r, .int .i64 m'.x, .int .i64 m'.a, .int .i64 m'.b, .int .i64 m'.v, .int .i64 m'.s, .bool m'.ok, .slice A2 m'.es.length c2, .slice A3 m'.d.length c3] #[.int .i64 0, .int .i64 0, .int .i64 0, .int .i64 0, .int .i64 0, .int .i64 0, .int .i64 0, .int .i64 0, .int .i64 0, .int .i64 0, .int .i64 0, .int .i64 0, .int .i64 0, .int .i64 0, .bool false, .slice none 0 0, .slice none 0 0]
      have hx : Bx _ w.heap.size m' A2 c2 A3 c3 := ⟨b0⟩
      have ht := set_turned ((w.alloc (.cells #[.int .i64 m'.K, .int .i64 m'.F, .int .i64 m'.T, .int .i64 m'.g, .int .i64 m'.t, .int .i64 m'.i, .int .i64 m'.p, .int .i64 m'.c, .int .i64 m'.r, .int .i64 m'.x, .int .i64 m'.a, .int .i64 m'.b, .int .i64 m'.v, .int .i64 m'.s, .bool m'.ok, .slice A2 m'.es.length c2, .slice A3 m'.d.length c3] 25)).alloc (.cells #[.int .i64 0, .int .i64 0, .int .i64 0, .int .i64 0, .int .i64 0, .int .i64 0, .int .i64 0, .int .i64 0, .int .i64 0, .int .i64 0, .int .i64 0, .int .i64 0, .int .i64 0, .int .i64 0, .bool false, .slice none 0 0, .slice none 0 0] 25)) (w.heap.size + 1) #[.int .i64 m'.K, .int .i64 m'.F, .int .i64 m'.T, .int .i64 m'.g, .int .i64 m'.t, .int .i64 m'.i, .int .i64 m'.p, .int .i64 m'.c, .int .i64 m'.r, .int .i64 m'.x, .int .i64 m'.a, .int .i64 m'.b, .int .i64 m'.v, .int .i64 m'.s, .bool m'.ok, .slice A2 m'.es.length c2, .slice A3 m'.d.length c3]
      have hb3 := b2.trans (ht.below b2.size (fun k hk => by omega))
      exact ⟨_, st_row _ (w.heap.size + 1) _ (#[.int .i64 m'.K, .int .i64 m'.F, .int .i64 m'.T, .int .i64 m'.g, .int .i64 m'.t, .int .i64 m'.i, .int .i64 m'.p, .int .i64 m'.c, .int .i64 m'.r, .int .i64 m'.x, .int .i64 m'.a, .int .i64 m'.b, .int .i64 m'.v, .int .i64 m'.s, .bool m'.ok, .slice A2 m'.es.length c2, .slice A3 m'.d.length c3]) b1 rfl rfl (msg_one m' A2 c2 A3 c3), hx.load, setRow_heap _ _ _ _ _ _ b1, (hi.below hb3).more hb3.size, hb3⟩
    rcases hcs with rfl | rfl | rfl
    · obtain ⟨w3, hst, hld, hro, his, hb⟩ := fin { m with ok := false } A c A' c' (h.sub (fun r hr => by rw [show ({ m with ok := false } : M).num r = m.num r from rfl]; exact h.num r hr) rfl rfl)
      have HR := hid (And.intro hro (And.intro his hb))
      clear fin hro his hb h hf hs
      go_enter Tryd.func56, Tryd.ntmps56
      go_wp2_with fail
      refine bodyPost_ret (results_cell_row rfl _ _ (w.heap.size + 1) _ _ _ _ rfl HR.out.1 Tryd.underlying25 rfl (by rw [info_msg]; rfl)) rfl ?_
      exact ⟨A, c, A', c', rfl, ⟨.inl ⟨rfl, rfl, rfl⟩, .inl ⟨rfl, rfl, rfl⟩⟩, HR.out.2.2⟩
    · obtain ⟨w3, hst, hld, hro, his, hb⟩ := fin { m with es := [] } none 0 A' c' ⟨fun r hr => h.num r hr, IsEnts.nil, ⟨Nat.le_refl _, Nat.zero_le _⟩, fun _ => rfl, h.d, h.dc, h.dn⟩
      simp only [List.length_nil] at hst hld
      have HR := hid (And.intro hro (And.intro his hb))
      clear fin hro his hb h hf hs
      go_enter Tryd.func56, Tryd.ntmps56
      go_wp2_with fail
      refine bodyPost_ret (results_cell_row rfl _ _ (w.heap.size + 1) _ _ _ _ rfl HR.out.1 Tryd.underlying25 rfl (by rw [info_msg]; rfl)) rfl ?_
      exact ⟨none, 0, A', c', rfl, ⟨.inr ⟨rfl, rfl, rfl⟩, .inl ⟨rfl, rfl, rfl⟩⟩, HR.out.2.2⟩
    · obtain ⟨w3, hst, hld, hro, his, hb⟩ := fin { m with d := [] } A c none 0 ⟨fun r hr => h.num r hr, h.es, h.ec, h.en, IsBytes.nil, ⟨Nat.le_refl _, Nat.zero_le _⟩, fun _ => rfl⟩
      simp only [List.length_nil] at hst hld
      have HR := hid (And.intro hro (And.intro his hb))
      clear fin hro his hb h hf hs
      go_enter Tryd.func56, Tryd.ntmps56
      go_wp2_with fail
      refine bodyPost_ret (results_cell_row rfl _ _ (w.heap.size + 1) _ _ _ _ rfl HR.out.1 Tryd.underlying25 rfl (by rw [info_msg]; rfl)) rfl ?_
      exact ⟨A, c, none, 0, rfl, ⟨.inl ⟨rfl, rfl, rfl⟩, .inr ⟨rfl, rfl, rfl⟩⟩, HR.out.2.2⟩
/-- does a kind have a field? -/
def hasB (k f : Nat) : Bool := (tab k).contains (letF.getD f 0)
theorem run_idx (L : List Nat) (hL : ∀ x ∈ L, x < 128) (i : Nat) (hi : i < L.length) (w : World) : (Instr.index 9 (.string (strOf L)) (.int .i64 (i : Int))).run Tryd.prog w = .ok (.int .u8 (L[i] : Nat)) w := by
  have hs : i < (strOf L).size := by rw [strOf_size]; exact hi
  have hg := strOf_get L hL i hs
  have h2 : (strOf L)[i]? = some ((strOf L)[i]'hs) := by simp [hs]
  simp [Instr.index, go_sem, h2, hg]
/-- the statement's own table -/
def rowsC : Array Value := #[.string (strOf (tab 0)), .string (strOf (tab 1)), .string (strOf (tab 2)), .string (strOf (tab 3)), .string (strOf (tab 4)), .string (strOf (tab 5)), .string (strOf (tab 6)), .string (strOf (tab 7)), .string (strOf (tab 8)), .string (strOf (tab 9)), .string (strOf (tab 10)), .string (strOf (tab 11))]
theorem rowsC_get (k : Nat) (h : k < 12) : rowsC[k]? = some (.string (strOf (tab k))) := by
  match k, h with
  | 0, _ | 1, _ | 2, _ | 3, _ | 4, _ | 5, _ | 6, _ | 7, _ | 8, _ | 9, _ | 10, _ | 11, _ => rfl
set_option maxHeartbeats 3200000 in
theorem khas_any (k f : Nat) (hk : k ≤ 12) (hf : f < 14) (w : World) :
    Calls Tryd.prog 82 #[.int .i64 (k : Int), .int .i64 (f : Int)] w fun e w' => e = .returned (.bool (hasB k f)) ∧ Below w.heap.size w w' := by
  have hbel : Below w.heap.size w (w.alloc (.cells rowsC 9)) := (Below.refl _ w).alloc (Nat.le_refl _) _
  have HB := hid hbel
  by_cases hin : 1 ≤ k ∧ k ≤ 11
  · have hc : ∀ W : World, Below (w.heap.size + 1) (w.alloc (.cells rowsC 9)) W → W.cell? ⟨w.heap.size, k, none⟩ = some (.string (strOf (tab k))) := fun W hb => by
      have h1 : W.heap[w.heap.size]? = some (.cells rowsC 9 (0, 0)) := (hb.block _ (by omega)).trans (heap_alloc_new w _)
      rw [cell_of_row W w.heap.size k _ _ (0, 0) h1]
      exact rowsC_get k (by omega)
    have HC := hid hc
    have hx := fun w => run_idx letF (by decide) f hf w
    obtain ⟨r, hr⟩ : ∃ r, r = letF[f]'hf := ⟨_, rfl⟩
    have HH : Hid (hasB k f = (tab k).contains r) := hid (by unfold hasB; rw [hr, List.getD_eq_getElem?_getD, List.getElem?_eq_getElem hf]; rfl)
    have hr8 : r < 128 := by rw [hr]; have : ∀ x ∈ letF, x < 128 := by decide
                             exact this _ (List.getElem_mem hf)
    rw [← hr] at hx
    have htl := tab_length k
    have hts := tab_small k
    have k1 : ¬ (k : Int) < 1 := by omega
    have k2 : ¬ (11 : Int) < (k : Int) := by omega
    have k12 : k < 12 := by omega
    clear hr hbel hc hin
    go_enter Tryd.func82, Tryd.ntmps82
    have hx2 : ∀ w, (Instr.index 9 (.string ⟨#[103, 116, 105, 112, 99, 114, 115, 120, 97, 98, 118, 111, 101, 100]⟩) (.int .i64 (f : Int))).run Tryd.prog w = .ok (.int .u8 (r : Int)) w := hx
    clear hx
    go_upto_region 5 with fail
    generalize hwL : w.alloc _ = wL
    have hw2 : w.alloc (.cells rowsC 9) = wL := hwL
    rw [hw2] at HC HB
    have hcell := HC.out wL (Below.refl _ _)
    have HWB := hid HB.out
    clear hwL hw2 HC HB
    obtain ⟨n, hn⟩ : ∃ n, (tab k).length = n := ⟨_, rfl⟩
    obtain ⟨S, hS⟩ : ∃ S, S = strOf (tab k) := ⟨_, rfl⟩
    have hSn : S.size = n := by rw [hS, strOf_size]; exact hn
    have hix := fun (i : Nat) (hi : i < (tab k).length) (w : World) => run_idx (tab k) hts i hi w
    rw [← hS] at hcell hix
    rw [hn] at htl
    have HT := hid (And.intro hix hn)
    have H8 := hid hts
    clear hS hix hn hts
    go_wp2_with fail
    go_loopw [7] (fun i wr => ∃ j, j ≤ n ∧ i = .int .i64 (j : Int) ∧ wL = wr ∧ Hid (∀ q (h : q < (tab k).length), q < j → (tab k)[q] ≠ r)) (fun i _ => n - (RowKit.intOf i).toNat)
    case atStart => exact ⟨0, Nat.zero_le _, rfl, rfl, hid (fun q _ h => by omega)⟩
    case round =>
      obtain ⟨j, hj, rfl, rfl, HQ⟩ := hrel
      by_cases hlt : j < n
      · have hjl : j < (tab k).length := by rw [HT.out.2]; exact hlt
        have hx := HT.out.1 j hjl
        obtain ⟨x, hxx⟩ : ∃ x, x = (tab k)[j] := ⟨_, rfl⟩
        rw [← hxx] at hx
        have HX : Hid (x ∈ tab k ∧ ∀ (h : j < (tab k).length), (tab k)[j] = x) := hid ⟨by rw [hxx]; exact List.getElem_mem _, fun _ => hxx.symm⟩
        clear hxx hjl
        by_cases he : x = r
        · have HR : Hid (hasB k f = true) := hid (by
            rw [HH.out, List.contains_iff_mem, ← he]; exact HX.out.1)
          subst he
          go_wp2_with fail
          go_ret
          rw [HR.out]
          exact ⟨rfl, HWB.out⟩
        · have he2 : ¬ (x : Int) = (r : Int) := by omega
          have HQ2 : Hid (∀ q (h : q < (tab k).length), q < j + 1 → (tab k)[q] ≠ r) := hid (fun q h hq => by
            by_cases e : q = j
            · subst e; rw [HX.out.2 h]; exact he
            · exact HQ.out q h (by omega))
          have hb1 : ((x : Int) == (r : Int)) = false := by simpa using he2
          go_wp2_with fail
          go_roundw
          case rel => exact ⟨j + 1, by omega, by go_num, trivial, HQ2⟩
          case measure => simp [RowKit.intOf]; omega
      · obtain rfl : j = n := by omega
        have HR : Hid (hasB k f = false) := hid (by
          rw [HH.out]
          rcases hc : (tab k).contains r with _ | _
          · rfl
          · exfalso
            obtain ⟨q, hq, e⟩ := List.getElem_of_mem (List.contains_iff_mem.1 hc)
            exact HQ.out q hq (by rw [← HT.out.2]; exact hq) e)
        go_wp2_with fail
        go_ret
        rw [HR.out]
        exact ⟨rfl, HWB.out⟩
  · have hk2 : k = 0 ∨ k = 12 := by omega
    have HH : Hid (hasB k f = false) := hid (by
      unfold hasB
      have : tab k = [] := by rcases hk2 with rfl | rfl <;> rfl
      rw [this]; rfl)
    rcases hk2 with rfl | rfl
    all_goals
      go_enter Tryd.func82, Tryd.ntmps82
      go_wp2_with fail
      go_ret
      rw [HH.out]
      exact ⟨rfl, HB.out⟩
end Go.Proofs.YtpigekbfngalbaaDoor.Ms
namespace Go.Proofs.YtpigekbfngalbaaDoor.Ms
open Go.RowKit
set_option maxRecDepth 100000
set_option linter.unusedVariables false
attribute [local go_sem ↓] loadAt_msg storeAt_msg

def M.keep (m x : M) (k f : Nat) : M := if hasB k f = true then m else x
def full0 (k : Nat) : M := ⟨k, 1, 102, 1, 2, 3, 4, 5, 6, 7, 3, 8, 1, 9, true, [⟨1, 2, [5]⟩, ⟨0, 0, []⟩], [1, 2]⟩
def fullTo (k : Nat) : Nat → M
  | 0 => full0 k
  | f + 1 => if check (fullTo k f) = 14 then (fullTo k f).keep ((fullTo k f).wo f) k f else fullTo k f
theorem full_right : ∀ k ∈ List.range 13, 1 ≤ k → k ≤ 11 → check (fullTo k 14) = 0 := by decide +kernel
/-- small messages -/
def Tiny (m : M) : Prop := m.es.length ≤ 2 ∧ weigh m.es ≤ 100 ∧ m.d.length ≤ 2
theorem Tiny.small {m : M} (h : Tiny m) : Small m := ⟨by have := h.1; omega, by have := h.2.1; omega, by have := h.2.2; omega⟩
theorem Tiny.wo {m : M} (h : Tiny m) (f : Nat) : Tiny (m.wo f) := by
  unfold M.wo
  split
  · exact h
  · split
    · exact ⟨Nat.zero_le _, by unfold weigh; exact Nat.zero_le _, h.2.2⟩
    · split
      · exact ⟨h.1, h.2.1, Nat.zero_le _⟩
      · have e := set_es m (setF.getD f 0) 0
        exact ⟨by rw [e.1]; exact h.1, by rw [e.1]; exact h.2.1, by rw [e.2]; exact h.2.2⟩
theorem fullTo_tiny (k f : Nat) : Tiny (fullTo k f) := by
  induction f with
  | zero => exact ⟨Nat.le_refl _, by show weigh [⟨1, 2, [5]⟩, ⟨0, 0, []⟩] ≤ 100; decide, Nat.le_refl _⟩
  | succ f ih =>
    show Tiny (if _ then _ else _)
    split
    · unfold M.keep
      split
      · exact ih
      · exact ih.wo f
    · exact ih
/-- what is kept: the one message, or the other one -/
def Kp (b : Bool) (w w' : World) (m : M) (A : Option Addr) (c : Nat) (A' : Option Addr) (c' : Nat) (x : M) (B : Option Addr) (d : Nat) (B' : Option Addr) (d' : Nat) (e : Ending) : Prop :=
  e = .returned (if b = true then .agg #[.int .i64 m.K, .int .i64 m.F, .int .i64 m.T, .int .i64 m.g, .int .i64 m.t, .int .i64 m.i, .int .i64 m.p, .int .i64 m.c, .int .i64 m.r, .int .i64 m.x, .int .i64 m.a, .int .i64 m.b, .int .i64 m.v, .int .i64 m.s, .bool m.ok, .slice A m.es.length c, .slice A' m.d.length c'] else .agg #[.int .i64 x.K, .int .i64 x.F, .int .i64 x.T, .int .i64 x.g, .int .i64 x.t, .int .i64 x.i, .int .i64 x.p, .int .i64 x.c, .int .i64 x.r, .int .i64 x.x, .int .i64 x.a, .int .i64 x.b, .int .i64 x.v, .int .i64 x.s, .bool x.ok, .slice B x.es.length d, .slice B' x.d.length d']) ∧ Below w.heap.size w w'
set_option maxHeartbeats 6400000 in
theorem keep_any (m x : M) (A : Option Addr) (c : Nat) (A' : Option Addr) (c' : Nat) (B : Option Addr) (d : Nat) (B' : Option Addr) (d' : Nat) (k f : Nat) (hk : k ≤ 12) (hf : f < 14) (w : World) (h : Is w w.heap.size m A c A' c') (h' : Is w w.heap.size x B d B' d') :
    Calls Tryd.prog 57 #[.agg #[.int .i64 m.K, .int .i64 m.F, .int .i64 m.T, .int .i64 m.g, .int .i64 m.t, .int .i64 m.i, .int .i64 m.p, .int .i64 m.c, .int .i64 m.r, .int .i64 m.x, .int .i64 m.a, .int .i64 m.b, .int .i64 m.v, .int .i64 m.s, .bool m.ok, .slice A m.es.length c, .slice A' m.d.length c'], .agg #[.int .i64 x.K, .int .i64 x.F, .int .i64 x.T, .int .i64 x.g, .int .i64 x.t, .int .i64 x.i, .int .i64 x.p, .int .i64 x.c, .int .i64 x.r, .int .i64 x.x, .int .i64 x.a, .int .i64 x.b, .int .i64 x.v, .int .i64 x.s, .bool x.ok, .slice B x.es.length d, .slice B' x.d.length d'], .int .i64 (f : Int), .int .i64 (k : Int)] w fun e w' => Kp (hasB k f) w w' m A c A' c' x B d B' d' e := by
  obtain ⟨w1, hw1⟩ : ∃ w1, w1 = ((w.alloc (.cells #[.int .i64 m.K, .int .i64 m.F, .int .i64 m.T, .int .i64 m.g, .int .i64 m.t, .int .i64 m.i, .int .i64 m.p, .int .i64 m.c, .int .i64 m.r, .int .i64 m.x, .int .i64 m.a, .int .i64 m.b, .int .i64 m.v, .int .i64 m.s, .bool m.ok, .slice A m.es.length c, .slice A' m.d.length c'] 25)).alloc (.cells #[.int .i64 x.K, .int .i64 x.F, .int .i64 x.T, .int .i64 x.g, .int .i64 x.t, .int .i64 x.i, .int .i64 x.p, .int .i64 x.c, .int .i64 x.r, .int .i64 x.x, .int .i64 x.a, .int .i64 x.b, .int .i64 x.v, .int .i64 x.s, .bool x.ok, .slice B x.es.length d, .slice B' x.d.length d'] 25)).alloc (.cells #[.int .i64 0, .int .i64 0, .int .i64 0, .int .i64 0, .int .i64 0, .int .i64 0, .int .i64 0, .int .i64 0, .int .i64 0, .int .i64 0, .int .i64 0, .int .i64 0, .int .i64 0, .int .i64 0, .bool false, .slice none 0 0, .slice none 0 0] 25) := ⟨_, rfl⟩
  obtain ⟨b0, b1, b2⟩ := boxOf w #[.int .i64 m.K, .int .i64 m.F, .int .i64 m.T, .int .i64 m.g, .int .i64 m.t, .int .i64 m.i, .int .i64 m.p, .int .i64 m.c, .int .i64 m.r, .int .i64 m.x, .int .i64 m.a, .int .i64 m.b, .int .i64 m.v, .int .i64 m.s, .bool m.ok, .slice A m.es.length c, .slice A' m.d.length c'] #[.int .i64 x.K, .int .i64 x.F, .int .i64 x.T, .int .i64 x.g, .int .i64 x.t, .int .i64 x.i, .int .i64 x.p, .int .i64 x.c, .int .i64 x.r, .int .i64 x.x, .int .i64 x.a, .int .i64 x.b, .int .i64 x.v, .int .i64 x.s, .bool x.ok, .slice B x.es.length d, .slice B' x.d.length d']
  obtain ⟨w0, hw0⟩ : ∃ w0, w0 = (w.alloc (.cells #[.int .i64 m.K, .int .i64 m.F, .int .i64 m.T, .int .i64 m.g, .int .i64 m.t, .int .i64 m.i, .int .i64 m.p, .int .i64 m.c, .int .i64 m.r, .int .i64 m.x, .int .i64 m.a, .int .i64 m.b, .int .i64 m.v, .int .i64 m.s, .bool m.ok, .slice A m.es.length c, .slice A' m.d.length c'] 25)).alloc (.cells #[.int .i64 x.K, .int .i64 x.F, .int .i64 x.T, .int .i64 x.g, .int .i64 x.t, .int .i64 x.i, .int .i64 x.p, .int .i64 x.c, .int .i64 x.r, .int .i64 x.x, .int .i64 x.a, .int .i64 x.b, .int .i64 x.v, .int .i64 x.s, .bool x.ok, .slice B x.es.length d, .slice B' x.d.length d'] 25) := ⟨_, rfl⟩
  have hs0 : w0.heap.size = w.heap.size + 2 := by rw [hw0]; simp
  rw [← hw0] at b0 b1 b2
  have hw1' := hw1
  rw [← hw0] at hw1
  have hb01 : Below w0.heap.size w0 w1 := by rw [hw1]; exact (Below.refl _ w0).alloc (Nat.le_refl _) _
  have hz : w1.heap[w.heap.size + 2]? = some (.cells #[.int .i64 0, .int .i64 0, .int .i64 0, .int .i64 0, .int .i64 0, .int .i64 0, .int .i64 0, .int .i64 0, .int .i64 0, .int .i64 0, .int .i64 0, .int .i64 0, .int .i64 0, .int .i64 0, .bool false, .slice none 0 0, .slice none 0 0] 25 (0, 0)) := by rw [hw1, ← hs0]; exact heap_alloc_new _ _
  have hx1 : Bx w1 w.heap.size m A c A' c' := ⟨(hb01.block _ (by omega)).trans b0⟩
  have hy1 : Bx w1 (w.heap.size + 1) x B d B' d' := ⟨(hb01.block _ (by omega)).trans b1⟩
  have hbw : Below w.heap.size w w1 := b2.trans (hb01.mono (by omega))
  have HH := hid (khas_any k f hk hf w1)
  have HI := hid (And.intro h (And.intro h' (And.intro hx1 (And.intro hy1 (And.intro hz hbw)))))
  clear hw0 hs0 b0 b1 b2 hw1 hb01 hz hx1 hy1 hbw h h'
  go_enter Tryd.func57, Tryd.ntmps57
  go_wp2_with fail
  rw [← hw1']
  clear hw1'
  refine HH.out.mono ?_
  rintro e w2 ⟨rfl, hb2⟩
  have hx2 := HI.out.2.2.1.below hb2 (row_lt HI.out.2.2.1.row)
  have hy2 := HI.out.2.2.2.1.below hb2 (row_lt HI.out.2.2.2.1.row)
  have hz2 := (hb2.block _ (row_lt HI.out.2.2.2.2.1)).trans HI.out.2.2.2.2.1
  have hbw := HI.out.2.2.2.2.2.trans (hb2.mono HI.out.2.2.2.2.2.size)
  have hld := hx2.load
  have hld' := hy2.load
  have fin : ∀ (m' : M) (A2 : Option Addr) (c2 : Nat) (A3 : Option Addr) (c3 : Nat), Is w w.heap.size m' A2 c2 A3 c3 → ∃ w3, (stMsg (.pointer (some ⟨w.heap.size + 2, 0, none⟩)) (.agg #[.int .i64 m'.K, .int .i64 m'.F, .int .i64 m'.T, .int .i64 m'.g, .int .i64 m'.t, .int .i64 m'.i, .int .i64 m'.p, .int .i64 m'.c, .int .i64 m'.r, .int .i64 m'.x, .int .i64 m'.a, .int .i64 m'.b, .int .i64 m'.v, .int .i64 m'.s, .bool m'.ok, .slice A2 m'.es.length c2, .slice A3 m'.d.length c3])).run Tryd.prog w2 = .ok () w3 ∧
      w3.heap[w.heap.size + 2]? = some (.cells (#[.int .i64 m'.K, .int .i64 m'.F, .int .i64 m'.T, .int .i64 m'.g, .int .i64 m'.t, .int .i64 m'.i, .int .i64 m'.p, .int .i64 m'.c, .int .i64 m'.r, .int .i64 m'.x, .int .i64 m'.a, .int .i64 m'.b, .int .i64 m'.v, .int .i64 m'.s, .bool m'.ok, .slice A2 m'.es.length c2, .slice A3 m'.d.length c3]) 25 (0, 0)) ∧ Is w3 w3.heap.size m' A2 c2 A3 c3 ∧ Below w.heap.size w w3 := by
    intro m' A2 c2 A3 c3 hi
    have ht := set_turned w2 (w.heap.size + 2) #[.int .i64 m'.K, .int .i64 m'.F, .int .i64 m'.T, .int .i64 m'.g, .int .i64 m'.t, .int .i64 m'.i, .int .i64 m'.p, .int .i64 m'.c, .int .i64 m'.r, .int .i64 m'.x, .int .i64 m'.a, .int .i64 m'.b, .int .i64 m'.v, .int .i64 m'.s, .bool m'.ok, .slice A2 m'.es.length c2, .slice A3 m'.d.length c3]
    have hb3 := hbw.trans (ht.below hbw.size (fun k hk => by omega))
    exact ⟨_, st_row w2 (w.heap.size + 2) _ (#[.int .i64 m'.K, .int .i64 m'.F, .int .i64 m'.T, .int .i64 m'.g, .int .i64 m'.t, .int .i64 m'.i, .int .i64 m'.p, .int .i64 m'.c, .int .i64 m'.r, .int .i64 m'.x, .int .i64 m'.a, .int .i64 m'.b, .int .i64 m'.v, .int .i64 m'.s, .bool m'.ok, .slice A2 m'.es.length c2, .slice A3 m'.d.length c3]) hz2 rfl rfl (msg_one m' A2 c2 A3 c3), setRow_heap _ _ _ _ _ _ hz2, (hi.below hb3).more hb3.size, hb3⟩
  obtain ⟨hb, hhb⟩ : ∃ b, b = hasB k f := ⟨_, rfl⟩
  have HHB := hid hhb
  rw [← hhb]
  obtain ⟨w3, hst, hro, his, hbb⟩ := fin m A c A' c' HI.out.1
  obtain ⟨w4, hst4, hro4, his4, hbb4⟩ := fin x B d B' d' HI.out.2.1
  have HR := hid (And.intro hro (And.intro his hbb))
  have HR4 := hid (And.intro hro4 (And.intro his4 hbb4))
  clear fin hx2 hy2 hz2 hbw hb2 hro his hbb hro4 his4 hbb4 hhb
  cases hb
  · go_wp2_with fail
    refine bodyPost_ret (results_cell_row rfl _ _ (w.heap.size + 2) _ _ _ _ rfl HR4.out.1 Tryd.underlying25 rfl (by rw [info_msg]; rfl)) rfl ?_
    unfold Kp
    rw [← HHB.out]
    exact ⟨rfl, HR4.out.2.2⟩
  · go_wp2_with fail
    refine bodyPost_ret (results_cell_row rfl _ _ (w.heap.size + 2) _ _ _ _ rfl HR.out.1 Tryd.underlying25 rfl (by rw [info_msg]; rfl)) rfl ?_
    unfold Kp
    rw [← HHB.out]
    exact ⟨rfl, HR.out.2.2⟩
end Go.Proofs.YtpigekbfngalbaaDoor.Ms
namespace Go.Proofs.YtpigekbfngalbaaDoor.Ms
open Go.RowKit
set_option maxRecDepth 100000
set_option linter.unusedVariables false
attribute [local go_sem ↓] loadAt_msg storeAt_msg

theorem five (w : World) (o0 o1 o2 o3 o4 : Obj) : (((((w.alloc o0).alloc o1).alloc o2).alloc o3).alloc o4).heap.size = w.heap.size + 5 ∧ Below w.heap.size w (((((w.alloc o0).alloc o1).alloc o2).alloc o3).alloc o4) ∧
    (((((w.alloc o0).alloc o1).alloc o2).alloc o3).alloc o4).heap[w.heap.size]? = some o0 ∧ (((((w.alloc o0).alloc o1).alloc o2).alloc o3).alloc o4).heap[w.heap.size + 1]? = some o1 ∧ (((((w.alloc o0).alloc o1).alloc o2).alloc o3).alloc o4).heap[w.heap.size + 2]? = some o2 ∧
    (((((w.alloc o0).alloc o1).alloc o2).alloc o3).alloc o4).heap[w.heap.size + 3]? = some o3 ∧ (((((w.alloc o0).alloc o1).alloc o2).alloc o3).alloc o4).heap[w.heap.size + 4]? = some o4 := by
  have s1 : (w.alloc o0).heap.size = w.heap.size + 1 := by simp
  have s2 : ((w.alloc o0).alloc o1).heap.size = w.heap.size + 2 := by simp
  have s3 : (((w.alloc o0).alloc o1).alloc o2).heap.size = w.heap.size + 3 := by simp
  have s4 : ((((w.alloc o0).alloc o1).alloc o2).alloc o3).heap.size = w.heap.size + 4 := by simp
  have b0 : Below w.heap.size w (w.alloc o0) := (Below.refl _ w).alloc (Nat.le_refl _) _
  have b1 : Below (w.alloc o0).heap.size (w.alloc o0) ((w.alloc o0).alloc o1) := (Below.refl _ _).alloc (Nat.le_refl _) _
  have b2 : Below ((w.alloc o0).alloc o1).heap.size ((w.alloc o0).alloc o1) (((w.alloc o0).alloc o1).alloc o2) := (Below.refl _ _).alloc (Nat.le_refl _) _
  have b3 : Below (((w.alloc o0).alloc o1).alloc o2).heap.size (((w.alloc o0).alloc o1).alloc o2) ((((w.alloc o0).alloc o1).alloc o2).alloc o3) := (Below.refl _ _).alloc (Nat.le_refl _) _
  have b4 : Below ((((w.alloc o0).alloc o1).alloc o2).alloc o3).heap.size ((((w.alloc o0).alloc o1).alloc o2).alloc o3) (((((w.alloc o0).alloc o1).alloc o2).alloc o3).alloc o4) := (Below.refl _ _).alloc (Nat.le_refl _) _
  have h0 := heap_alloc_new w o0
  have h1 := heap_alloc_new (w.alloc o0) o1
  have h2 := heap_alloc_new ((w.alloc o0).alloc o1) o2
  have h3 := heap_alloc_new (((w.alloc o0).alloc o1).alloc o2) o3
  have h4 := heap_alloc_new ((((w.alloc o0).alloc o1).alloc o2).alloc o3) o4
  rw [s1] at b1 h1
  rw [s2] at b2 h2
  rw [s3] at b3 h3
  rw [s4] at b4 h4
  have c34 := fun k (hk : k < w.heap.size + 4) => b4.block k hk
  have c3 := fun k (hk : k < w.heap.size + 3) => (c34 k (by omega)).trans (b3.block k hk)
  have c2 := fun k (hk : k < w.heap.size + 2) => (c3 k (by omega)).trans (b2.block k hk)
  have c1 := fun k (hk : k < w.heap.size + 1) => (c2 k (by omega)).trans (b1.block k hk)
  exact ⟨by simp, b0.trans ((b1.mono (by omega)).trans ((b2.mono (by omega)).trans ((b3.mono (by omega)).trans (b4.mono (by omega))))), (c1 _ (by omega)).trans h0, (c2 _ (by omega)).trans h1, (c3 _ (by omega)).trans h2, (c34 _ (by omega)).trans h3, h4⟩
def E0 : List Rl.En := [⟨1, 2, [5]⟩, ⟨0, 0, []⟩]
/-- the blocks that a message of all fields leads to -/
structure Rw (w wr : World) : Prop where
  bel : Below w.heap.size w wr
  sz : w.heap.size + 5 ≤ wr.heap.size
  h1 : wr.heap[w.heap.size + 1]? = some (.cells #[.int .u8 5] 5 (0, 0))
  h2 : wr.heap[w.heap.size + 2]? = some (.cells #[.int .i64 1, .int .i64 2, .slice (some ⟨w.heap.size + 1, 0, none⟩) 1 1, .int .i64 0, .int .i64 0, .slice none 0 0] 61 (0, 0))
  h3 : wr.heap[w.heap.size + 3]? = some (.cells #[.int .u8 1, .int .u8 2] 5 (0, 0))
theorem Rw.es {w W : World} (h : Rw w W) : IsEnts W W.heap.size (some ⟨w.heap.size + 2, 0, none⟩) E0 := by
  have hsz := h.sz
  refine ⟨fun e he => ?_, fun q hq => ⟨w.heap.size + 2, 0, rfl, by omega, fun i hi => ?_⟩⟩
  · simp only [E0, List.mem_cons, List.not_mem_nil, or_false] at he
    rcases he with rfl | rfl <;> exact ⟨⟨by decide, by decide⟩, ⟨by decide, by decide⟩⟩
  · have hc := fun j => cell_of_row W (w.heap.size + 2) j _ _ (0, 0) h.h2
    match i, hi with
    | 0, _ => exact ⟨some ⟨w.heap.size + 1, 0, none⟩, 1, hc 0, hc 1, hc 2, ⟨by intro x hx; have hx' : x ∈ ([5] : List Nat) := hx; simp at hx'; omega, fun q hq => ⟨w.heap.size + 1, 0, rfl, by omega, fun i hi => by
        have hi1 : i < 1 := hi
        obtain rfl : i = 0 := by omega
        exact cell_of_row W (w.heap.size + 1) 0 _ _ (0, 0) h.h1⟩⟩, ⟨Nat.le_refl _, by decide⟩, fun e => by cases e⟩
    | 1, _ => exact ⟨none, 0, hc 3, hc 4, hc 5, IsBytes.nil, ⟨Nat.le_refl _, by decide⟩, fun _ => rfl⟩
theorem Rw.ds {w W : World} (h : Rw w W) : IsBytes W W.heap.size (some ⟨w.heap.size + 3, 0, none⟩) [1, 2] := by
  have hsz := h.sz
  refine ⟨fun x hx => ?_, fun q hq => ⟨w.heap.size + 3, 0, rfl, by omega, fun i hi => ?_⟩⟩
  · simp at hx
    omega
  · have hc := fun j => cell_of_row W (w.heap.size + 3) j _ _ (0, 0) h.h3
    have hi2 : i < 2 := hi
    match i, hi2 with
    | 0, _ => exact hc 0
    | 1, _ => exact hc 1
theorem Rw.turned {w W W' : World} (h : Rw w W) {S : Nat → Prop} (ht : Turned S W W') (hS : ∀ k, S k → k = w.heap.size ∨ k = w.heap.size + 4) : Rw w W' := by
  have hsz := h.sz
  have hk : ∀ k, 1 ≤ k → k ≤ 3 → ¬ S (w.heap.size + k) := fun k h1 h2 e => by have := hS _ e; omega
  exact ⟨h.bel.trans (ht.below h.bel.size (fun k hk => by have := hS k hk; omega)), Nat.le_trans h.sz ht.size, (ht.block _ (by omega) (hk 1 (by omega) (by omega))).trans h.h1, (ht.block _ (by omega) (hk 2 (by omega) (by omega))).trans h.h2, (ht.block _ (by omega) (hk 3 (by omega) (by omega))).trans h.h3⟩
theorem Rw.low {w W W' : World} (h : Rw w W) (hb : Below W.heap.size W W') : Rw w W' := h.turned (S := fun _ => False) (Turned.ofBelow _ hb) (fun _ e => e.elim)
/-- so far -/
structure Fl (w wr : World) (k : Nat) (m : M) (A : Option Addr) (c : Nat) (A' : Option Addr) (c' : Nat) : Prop where
  rows : Rw w wr
  zero : Zero wr w.heap.size
  box : Bx wr (w.heap.size + 4) m A c A' c'
  fro : Fro m A c A' c' (full0 k) (some ⟨w.heap.size + 2, 0, none⟩) 2 (some ⟨w.heap.size + 3, 0, none⟩) 2
  num : ∀ r ∈ nums, InInt (m.num r)
theorem fro_is {w W : World} (h : Rw w W) {k : Nat} {m : M} {A : Option Addr} {c : Nat} {A' : Option Addr} {c' : Nat} (hf : Fro m A c A' c' (full0 k) (some ⟨w.heap.size + 2, 0, none⟩) 2 (some ⟨w.heap.size + 3, 0, none⟩) 2) (hn : ∀ r ∈ nums, InInt (m.num r)) : Is W W.heap.size m A c A' c' := by
  rcases hf with ⟨⟨rfl, rfl, e1⟩ | ⟨rfl, rfl, e1⟩, ⟨rfl, rfl, e2⟩ | ⟨rfl, rfl, e2⟩⟩
  · exact ⟨hn, by rw [e1]; exact h.es, by rw [e1]; exact ⟨Nat.le_refl _, by decide⟩, (fun e => by cases e), by rw [e2]; exact h.ds, by rw [e2]; exact ⟨Nat.le_refl _, by decide⟩, fun e => by cases e⟩
  · exact ⟨hn, by rw [e1]; exact h.es, by rw [e1]; exact ⟨Nat.le_refl _, by decide⟩, (fun e => by cases e), by rw [e2]; exact IsBytes.nil, by rw [e2]; exact ⟨Nat.le_refl _, by decide⟩, fun e => rfl⟩
  · exact ⟨hn, by rw [e1]; exact IsEnts.nil, by rw [e1]; exact ⟨Nat.le_refl _, by decide⟩, (fun e => rfl), by rw [e2]; exact h.ds, by rw [e2]; exact ⟨Nat.le_refl _, by decide⟩, fun e => by cases e⟩
  · exact ⟨hn, by rw [e1]; exact IsEnts.nil, by rw [e1]; exact ⟨Nat.le_refl _, by decide⟩, (fun e => rfl), by rw [e2]; exact IsBytes.nil, by rw [e2]; exact ⟨Nat.le_refl _, by decide⟩, fun e => rfl⟩
theorem Fl.is {w wr : World} {k : Nat} {m : M} {A A' : Option Addr} {c c' : Nat} (h : Fl w wr k m A c A' c') : Is wr wr.heap.size m A c A' c' := fro_is h.rows h.fro h.num
theorem Fl.low {w wr wz : World} {k : Nat} {m : M} {A A' : Option Addr} {c c' : Nat} (h : Fl w wr k m A c A' c') (hb : Below wr.heap.size wr wz) : Fl w wz k m A c A' c' :=
  ⟨h.rows.low hb, (hb.block _ (row_lt h.zero)).trans h.zero, h.box.below hb (row_lt h.box.row), h.fro, h.num⟩
theorem wo_num {m : M} (h : ∀ r ∈ nums, InInt (m.num r)) (f : Nat) : ∀ r ∈ nums, InInt ((m.wo f).num r) := by
  intro r hr
  unfold M.wo
  split
  · exact h r hr
  · split
    · exact h r hr
    · split
      · exact h r hr
      · rw [num_set m _ r _ hr]
        split
        · exact ⟨by decide, by decide⟩
        · exact h r hr
theorem full0_num (k : Nat) (hk : k ≤ 12) : ∀ r ∈ nums, InInt ((full0 k).num r) := by
  intro r hr
  simp only [nums, List.mem_cons, List.not_mem_nil, or_false] at hr
  rcases hr with rfl | rfl | rfl | rfl | rfl | rfl | rfl | rfl | rfl | rfl | rfl | rfl | rfl | rfl <;> (constructor <;> (simp [full0, M.num] ; try omega))
theorem fl_new (w W : World) (k : Nat) (hk : k ≤ 12) (h : Below w.heap.size w W) (hs : W.heap.size = w.heap.size + 5) (h0 : Zero W w.heap.size) (h1 : W.heap[w.heap.size + 1]? = some (.cells #[.int .u8 5] 5 (0, 0)))
    (h2 : W.heap[w.heap.size + 2]? = some (.cells #[.int .i64 1, .int .i64 2, .slice (some ⟨w.heap.size + 1, 0, none⟩) 1 1, .int .i64 0, .int .i64 0, .slice none 0 0] 61 (0, 0))) (h3 : W.heap[w.heap.size + 3]? = some (.cells #[.int .u8 1, .int .u8 2] 5 (0, 0)))
    (h4 : W.heap[w.heap.size + 4]? = some (.cells #[.int .i64 ((full0 k)).K, .int .i64 ((full0 k)).F, .int .i64 ((full0 k)).T, .int .i64 ((full0 k)).g, .int .i64 ((full0 k)).t, .int .i64 ((full0 k)).i, .int .i64 ((full0 k)).p, .int .i64 ((full0 k)).c, .int .i64 ((full0 k)).r, .int .i64 ((full0 k)).x, .int .i64 ((full0 k)).a, .int .i64 ((full0 k)).b, .int .i64 ((full0 k)).v, .int .i64 ((full0 k)).s, .bool ((full0 k)).ok, .slice (some ⟨w.heap.size + 2, 0, none⟩) ((full0 k)).es.length 2, .slice (some ⟨w.heap.size + 3, 0, none⟩) ((full0 k)).d.length 2] 25 (0, 0))) : Fl w W k (fullTo k 0) (some ⟨w.heap.size + 2, 0, none⟩) 2 (some ⟨w.heap.size + 3, 0, none⟩) 2 :=
  ⟨⟨h, by omega, h1, h2, h3⟩, h0, ⟨h4⟩, Fro.refl (full0 k) _ _ _ _, full0_num k hk⟩
set_option maxHeartbeats 6400000 in
theorem full_any (k : Nat) (hk : k ≤ 12) (w : World) (T : Tab w) :
    Calls Tryd.prog 28 #[.int .i64 (k : Int)] w fun e w' => ToldM w w' (fullTo k 14) e := by
  have HT := hid T
  have hpos := T.pos
  clear T
  obtain ⟨W4, hW4⟩ : ∃ W4, W4 = (((w.alloc (.cells #[.int .i64 0, .int .i64 0, .int .i64 0, .int .i64 0, .int .i64 0, .int .i64 0, .int .i64 0, .int .i64 0, .int .i64 0, .int .i64 0, .int .i64 0, .int .i64 0, .int .i64 0, .int .i64 0, .bool false, .slice none 0 0, .slice none 0 0] 25)).alloc (.cells #[.int .u8 5] 5)).alloc (.cells #[.int .i64 1, .int .i64 2, .slice (some ⟨w.heap.size + 1, 0, none⟩) 1 1, .int .i64 0, .int .i64 0, .slice none 0 0] 61)).alloc (.cells #[.int .u8 1, .int .u8 2] 5) := ⟨_, rfl⟩
  have hs4 : W4.heap.size = w.heap.size + 4 := by rw [hW4]; simp
  obtain ⟨f0, f1, f2, f3, f4, f5, f6⟩ := five w (.cells #[.int .i64 0, .int .i64 0, .int .i64 0, .int .i64 0, .int .i64 0, .int .i64 0, .int .i64 0, .int .i64 0, .int .i64 0, .int .i64 0, .int .i64 0, .int .i64 0, .int .i64 0, .int .i64 0, .bool false, .slice none 0 0, .slice none 0 0] 25) (.cells #[.int .u8 5] 5) (.cells #[.int .i64 1, .int .i64 2, .slice (some ⟨w.heap.size + 1, 0, none⟩) 1 1, .int .i64 0, .int .i64 0, .slice none 0 0] 61) (.cells #[.int .u8 1, .int .u8 2] 5) (.cells #[.int .i64 ((full0 k)).K, .int .i64 ((full0 k)).F, .int .i64 ((full0 k)).T, .int .i64 ((full0 k)).g, .int .i64 ((full0 k)).t, .int .i64 ((full0 k)).i, .int .i64 ((full0 k)).p, .int .i64 ((full0 k)).c, .int .i64 ((full0 k)).r, .int .i64 ((full0 k)).x, .int .i64 ((full0 k)).a, .int .i64 ((full0 k)).b, .int .i64 ((full0 k)).v, .int .i64 ((full0 k)).s, .bool ((full0 k)).ok, .slice (some ⟨w.heap.size + 2, 0, none⟩) ((full0 k)).es.length 2, .slice (some ⟨w.heap.size + 3, 0, none⟩) ((full0 k)).d.length 2] 25)
  obtain ⟨w1, hw1⟩ : ∃ w1, w1 = W4.alloc (.cells #[.int .i64 ((full0 k)).K, .int .i64 ((full0 k)).F, .int .i64 ((full0 k)).T, .int .i64 ((full0 k)).g, .int .i64 ((full0 k)).t, .int .i64 ((full0 k)).i, .int .i64 ((full0 k)).p, .int .i64 ((full0 k)).c, .int .i64 ((full0 k)).r, .int .i64 ((full0 k)).x, .int .i64 ((full0 k)).a, .int .i64 ((full0 k)).b, .int .i64 ((full0 k)).v, .int .i64 ((full0 k)).s, .bool ((full0 k)).ok, .slice (some ⟨w.heap.size + 2, 0, none⟩) ((full0 k)).es.length 2, .slice (some ⟨w.heap.size + 3, 0, none⟩) ((full0 k)).d.length 2] 25) := ⟨_, rfl⟩
  have hst := st_new W4 #[.int .i64 0, .int .i64 0, .int .i64 0, .int .i64 0, .int .i64 0, .int .i64 0, .int .i64 0, .int .i64 0, .int .i64 0, .int .i64 0, .int .i64 0, .int .i64 0, .int .i64 0, .int .i64 0, .bool false, .slice none 0 0, .slice none 0 0] (#[.int .i64 ((full0 k)).K, .int .i64 ((full0 k)).F, .int .i64 ((full0 k)).T, .int .i64 ((full0 k)).g, .int .i64 ((full0 k)).t, .int .i64 ((full0 k)).i, .int .i64 ((full0 k)).p, .int .i64 ((full0 k)).c, .int .i64 ((full0 k)).r, .int .i64 ((full0 k)).x, .int .i64 ((full0 k)).a, .int .i64 ((full0 k)).b, .int .i64 ((full0 k)).v, .int .i64 ((full0 k)).s, .bool ((full0 k)).ok, .slice (some ⟨w.heap.size + 2, 0, none⟩) ((full0 k)).es.length 2, .slice (some ⟨w.heap.size + 3, 0, none⟩) ((full0 k)).d.length 2]) rfl rfl (msg_one (full0 k) _ _ _ _)
  rw [← hw1, hs4] at hst
  rw [← hW4, ← hw1] at f0 f1 f2 f3 f4 f5 f6
  have hst2 : (stMsg (.pointer (some ⟨w.heap.size + 4, 0, none⟩)) (.agg #[.int .i64 (k : Int), .int .i64 1, .int .i64 102, .int .i64 1, .int .i64 2, .int .i64 3, .int .i64 4, .int .i64 5, .int .i64 6, .int .i64 7, .int .i64 3, .int .i64 8, .int .i64 1, .int .i64 9, .bool true, .slice (some ⟨w.heap.size + 2, 0, none⟩) 2 2, .slice (some ⟨w.heap.size + 3, 0, none⟩) 2 2])).run Tryd.prog (W4.alloc (.cells #[.int .i64 0, .int .i64 0, .int .i64 0, .int .i64 0, .int .i64 0, .int .i64 0, .int .i64 0, .int .i64 0, .int .i64 0, .int .i64 0, .int .i64 0, .int .i64 0, .int .i64 0, .int .i64 0, .bool false, .slice none 0 0, .slice none 0 0] 25)) = .ok () w1 := hst
  rw [hW4] at hst2
  have H0 := hid (fl_new w w1 k hk f1 f0 f2 f3 f4 f5 f6)
  clear f0 f1 f2 f3 f4 f5 f6 hst hw1 hs4 hW4
  go_enter Tryd.func28, Tryd.ntmps28
  go_upto_region 2 with fail
  clear hst2
  obtain ⟨m0, hm0⟩ : ∃ m, m = fullTo k 0 := ⟨_, rfl⟩
  have HM0 := hid hm0
  rw [← hm0] at H0
  clear hm0
  go_wp2_with fail
  go_loopw [4, 5] (fun i _ wr => ∃ (f : Nat) (m : M) (A : Option Addr) (c : Nat) (A' : Option Addr) (c' : Nat), f ≤ 14 ∧ i = .int .i64 (f : Int) ∧ Hid (m = fullTo k f) ∧ Hid (Fl w wr k m A c A' c')) (fun i _ _ => 14 - (RowKit.intOf i).toNat)
  case atStart => exact ⟨0, m0, _, _, _, _, Nat.zero_le _, rfl, HM0, H0⟩
  case round =>
    clear H0 HM0
    obtain ⟨f, m, A, c, A', c', hf, rfl, HM, HF⟩ := hrel
    have hld := HF.out.box.load
    by_cases hlt : f < 14
    · have HS : Hid (Small m) := hid (by rw [HM.out]; exact (fullTo_tiny k f).small)
      have HWO := hid (without_any m A c A' c' f hlt wr HF.out.is)
      go_wp2_with fail
      refine HWO.out.mono ?_
      rintro e w2 ⟨B, d, B', d', rfl, hx, hb2⟩
      obtain ⟨x, hxw⟩ : ∃ x, x = m.wo f := ⟨_, rfl⟩
      have hnx : ∀ r ∈ nums, InInt (x.num r) := by rw [hxw]; exact wo_num HF.out.num f
      rw [← hxw] at hx
      rw [← hxw]
      have hst := st_new w2 #[.int .i64 0, .int .i64 0, .int .i64 0, .int .i64 0, .int .i64 0, .int .i64 0, .int .i64 0, .int .i64 0, .int .i64 0, .int .i64 0, .int .i64 0, .int .i64 0, .int .i64 0, .int .i64 0, .bool false, .slice none 0 0, .slice none 0 0] (#[.int .i64 x.K, .int .i64 x.F, .int .i64 x.T, .int .i64 x.g, .int .i64 x.t, .int .i64 x.i, .int .i64 x.p, .int .i64 x.c, .int .i64 x.r, .int .i64 x.x, .int .i64 x.a, .int .i64 x.b, .int .i64 x.v, .int .i64 x.s, .bool x.ok, .slice B x.es.length d, .slice B' x.d.length d']) rfl rfl (msg_one x B d B' d')
      obtain ⟨w3, hw3⟩ : ∃ w3, w3 = w2.alloc (.cells #[.int .i64 x.K, .int .i64 x.F, .int .i64 x.T, .int .i64 x.g, .int .i64 x.t, .int .i64 x.i, .int .i64 x.p, .int .i64 x.c, .int .i64 x.r, .int .i64 x.x, .int .i64 x.a, .int .i64 x.b, .int .i64 x.v, .int .i64 x.s, .bool x.ok, .slice B x.es.length d, .slice B' x.d.length d'] 25) := ⟨_, rfl⟩
      have hb3 : Below w2.heap.size w2 w3 := by rw [hw3]; exact (Below.refl _ w2).alloc (Nat.le_refl _) _
      have hbx3 : Bx w3 w2.heap.size x B d B' d' := ⟨by rw [hw3]; exact heap_alloc_new w2 _⟩
      have hfl3 := (HF.out.low hb2).low hb3
      have HCK := hid (check_any m A c A' c' w3 (hfl3.is.inp HS.out (HT.out.below hfl3.rows.bel hpos) (Below.refl _ w3)))
      have H3 := hid (And.intro hfl3 (And.intro hbx3 (And.intro (And.intro hx hnx) hxw)))
      have hld3 := hfl3.box.load
      have hsz2 := hb2.size
      have hlt4 := row_lt HF.out.box.row
      rw [hw3] at hld3
      clear hx hb2 hb3 hbx3 hfl3 HWO hld hxw hnx
      go_wp2_with fail
      rw [← hw3]
      clear hst hw3 hld3
      refine HCK.out.mono ?_
      rintro e w4 ⟨rfl, hb4⟩
      have hfl4 := H3.out.1.low hb4
      have hbx4 := H3.out.2.1.below hb4 (row_lt H3.out.2.1.row)
      have his4 : Is w4 w4.heap.size x B d B' d' := fro_is hfl4.rows (H3.out.2.2.1.1.trans hfl4.fro) H3.out.2.2.1.2
      have hld4 := hfl4.box.load
      have hldx := hbx4.load
      by_cases hck : check m = 14
      · have HKP := hid (keep_any m x A c A' c' B d B' d' k f hk hlt w4 hfl4.is his4)
        have HNX : Hid (m.keep x k f = fullTo k (f + 1)) := hid (by
          show _ = if _ then _ else _
          rw [← HM.out, if_pos hck, H3.out.2.2.2])
        have H4 := hid hfl4
        rw [hck]
        clear hfl4 hbx4 his4 hb4
        go_wp2_with fail
        obtain ⟨hb, hhb⟩ : ∃ b, b = hasB k f := ⟨_, rfl⟩
        have HHB := hid hhb
        rw [← hhb] at HKP
        clear hhb
        refine HKP.out.mono ?_
        rintro e w5 ⟨hkp, hb5⟩
        have hfl5 := H4.out.low hb5
        have fin : ∀ (m' : M) (A2 : Option Addr) (c2 : Nat) (A3 : Option Addr) (c3 : Nat), Fro m' A2 c2 A3 c3 (full0 k) (some ⟨w.heap.size + 2, 0, none⟩) 2 (some ⟨w.heap.size + 3, 0, none⟩) 2 → (∀ r ∈ nums, InInt (m'.num r)) → ∃ w6, (stMsg (.pointer (some ⟨w.heap.size + 4, 0, none⟩)) (.agg #[.int .i64 m'.K, .int .i64 m'.F, .int .i64 m'.T, .int .i64 m'.g, .int .i64 m'.t, .int .i64 m'.i, .int .i64 m'.p, .int .i64 m'.c, .int .i64 m'.r, .int .i64 m'.x, .int .i64 m'.a, .int .i64 m'.b, .int .i64 m'.v, .int .i64 m'.s, .bool m'.ok, .slice A2 m'.es.length c2, .slice A3 m'.d.length c3])).run Tryd.prog w5 = .ok () w6 ∧ Fl w w6 k m' A2 c2 A3 c3 := by
          intro m' A2 c2 A3 c3 h1 h2
          have ht := set_turned w5 (w.heap.size + 4) #[.int .i64 m'.K, .int .i64 m'.F, .int .i64 m'.T, .int .i64 m'.g, .int .i64 m'.t, .int .i64 m'.i, .int .i64 m'.p, .int .i64 m'.c, .int .i64 m'.r, .int .i64 m'.x, .int .i64 m'.a, .int .i64 m'.b, .int .i64 m'.v, .int .i64 m'.s, .bool m'.ok, .slice A2 m'.es.length c2, .slice A3 m'.d.length c3]
          exact ⟨_, st_row w5 (w.heap.size + 4) _ (#[.int .i64 m'.K, .int .i64 m'.F, .int .i64 m'.T, .int .i64 m'.g, .int .i64 m'.t, .int .i64 m'.i, .int .i64 m'.p, .int .i64 m'.c, .int .i64 m'.r, .int .i64 m'.x, .int .i64 m'.a, .int .i64 m'.b, .int .i64 m'.v, .int .i64 m'.s, .bool m'.ok, .slice A2 m'.es.length c2, .slice A3 m'.d.length c3]) hfl5.box.row rfl rfl (msg_one m' A2 c2 A3 c3), hfl5.rows.turned ht (fun k e => .inr e), (ht.block _ (row_lt hfl5.zero) (by omega)).trans hfl5.zero, ⟨setRow_heap _ _ _ _ _ _ hfl5.box.row⟩, h1, h2⟩
        obtain ⟨w6, hst, hfl6⟩ := fin m A c A' c' hfl5.fro hfl5.num
        obtain ⟨w7, hst7, hfl7⟩ := fin x B d B' d' (H3.out.2.2.1.1.trans hfl5.fro) H3.out.2.2.1.2
        have H6 := hid hfl6
        have H7 := hid hfl7
        clear fin hfl5 hfl6 hfl7 hb5 hld4 hldx HKP
        cases hb
        · rw [if_neg (by decide)] at hkp
          subst hkp
          have HNX2 : Hid (x = fullTo k (f + 1)) := hid (by rw [← HNX.out]; unfold M.keep; rw [← HHB.out, if_neg (by decide)])
          go_wp2_with fail
          go_roundw
          case rel => exact ⟨f + 1, x, B, d, B', d', by omega, by go_num, HNX2, H7⟩
          case measure => simp [RowKit.intOf]; omega
        · rw [if_pos rfl] at hkp
          subst hkp
          have HNX2 : Hid (m = fullTo k (f + 1)) := hid (by rw [← HNX.out]; unfold M.keep; rw [← HHB.out, if_pos rfl])
          go_wp2_with fail
          go_roundw
          case rel => exact ⟨f + 1, m, A, c, A', c', by omega, by go_num, HNX2, H6⟩
          case measure => simp [RowKit.intOf]; omega
      · have HNX : Hid (m = fullTo k (f + 1)) := hid (by
          show _ = if _ then _ else _
          rw [← HM.out, if_neg hck])
        have H4 := hid hfl4
        have hck2 : ¬ ((check m : Nat) : Int) = 14 := by omega
        have hck3 : (((check m : Nat) : Int) == 14) = false := by simpa using hck2
        clear hfl4 hbx4 his4 hb4
        go_wp2_with fail
        go_roundw
        case rel => exact ⟨f + 1, m, A, c, A', c', by omega, by go_num, HNX, H4⟩
        case measure => simp [RowKit.intOf]; omega
    · obtain rfl : f = 14 := by omega
      have hst := st_row wr w.heap.size _ (#[.int .i64 m.K, .int .i64 m.F, .int .i64 m.T, .int .i64 m.g, .int .i64 m.t, .int .i64 m.i, .int .i64 m.p, .int .i64 m.c, .int .i64 m.r, .int .i64 m.x, .int .i64 m.a, .int .i64 m.b, .int .i64 m.v, .int .i64 m.s, .bool m.ok, .slice A m.es.length c, .slice A' m.d.length c']) HF.out.zero rfl rfl (msg_one m A c A' c')
      have ht := set_turned wr w.heap.size #[.int .i64 m.K, .int .i64 m.F, .int .i64 m.T, .int .i64 m.g, .int .i64 m.t, .int .i64 m.i, .int .i64 m.p, .int .i64 m.c, .int .i64 m.r, .int .i64 m.x, .int .i64 m.a, .int .i64 m.b, .int .i64 m.v, .int .i64 m.s, .bool m.ok, .slice A m.es.length c, .slice A' m.d.length c']
      have hro := setRow_heap wr w.heap.size _ (#[.int .i64 m.K, .int .i64 m.F, .int .i64 m.T, .int .i64 m.g, .int .i64 m.t, .int .i64 m.i, .int .i64 m.p, .int .i64 m.c, .int .i64 m.r, .int .i64 m.x, .int .i64 m.a, .int .i64 m.b, .int .i64 m.v, .int .i64 m.s, .bool m.ok, .slice A m.es.length c, .slice A' m.d.length c']) _ _ HF.out.zero
      have hrw := HF.out.rows.turned ht (fun k e => .inl e)
      have HR := hid (And.intro hro (And.intro (fro_is hrw HF.out.fro HF.out.num) hrw.bel))
      generalize (wr.setRow w.heap.size #[.int .i64 m.K, .int .i64 m.F, .int .i64 m.T, .int .i64 m.g, .int .i64 m.t, .int .i64 m.i, .int .i64 m.p, .int .i64 m.c, .int .i64 m.r, .int .i64 m.x, .int .i64 m.a, .int .i64 m.b, .int .i64 m.v, .int .i64 m.s, .bool m.ok, .slice A m.es.length c, .slice A' m.d.length c']) = w9 at hst HR
      clear ht hro hrw
      go_wp2_with fail
      refine bodyPost_ret (results_cell_row rfl _ _ w.heap.size _ _ _ _ rfl HR.out.1 Tryd.underlying25 rfl (by rw [info_msg]; rfl)) rfl ?_
      rw [← HM.out]
      exact ⟨A, c, A', c', rfl, HR.out.2.1, HR.out.2.2⟩
end Go.Proofs.YtpigekbfngalbaaDoor.Ms
namespace Go.Proofs.YtpigekbfngalbaaDoor
open Go.RowKit

theorem info_u8k : (Tryd.prog.info? 5).map (fun i => (i.zero, i.size, i.bytes)) = some (some (.int .u8 0), 1, 1) := by kernel_rfl
/-- a row of so many noughts -/
def zeros (n : Nat) : List Nat := List.replicate n 0
theorem zeros_length (n : Nat) : (zeros n).length = n := by simp [zeros]
theorem zeros_small (n : Nat) : ∀ x ∈ zeros n, x < 256 := by intro x hx; have := (List.mem_replicate.1 hx).2; omega
def zeroRow (n : Nat) : Array Value := (bytes (zeros n)).toArray
theorem make_any (n : Nat) (hn : n ≤ 65536) (W : World) : (Instr.makeSlice 23 (.int .i64 (n : Int)) (.int .i64 (n : Int))).run Tryd.prog W = .ok (.slice (some ⟨W.heap.size, 0, none⟩) n n) (W.alloc (.cells (zeroRow n) 5)) := by
  obtain ⟨i0, hi, hz0, hz1, hz2⟩ := info_parts info_u8k
  have h := run_make (P := Tryd.prog) W 23 5 i0 (.int .u8 0) Tryd.underlying23 hi hz0 .i64 .i64 n n (by omega) (by omega) (by rw [hz2]; omega) (by omega)
  rw [Int.toNat_natCast, hz1, Nat.mul_one] at h
  rw [h]
  have e : madeCells (Value.int .u8 0).cells n = zeroRow n := by
    apply Array.toList_inj.1
    rw [show (Value.int .u8 0).cells = #[Value.int .u8 0] from rfl, toList_madeCells_one]
    simp [zeroRow, zeros, bytes]
  rw [e]
end Go.Proofs.YtpigekbfngalbaaDoor
