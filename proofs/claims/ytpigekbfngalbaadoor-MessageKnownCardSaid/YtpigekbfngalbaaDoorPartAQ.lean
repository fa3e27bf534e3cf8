/- Texts of the proof, one behind the other: MsRefI, MsRefJ. -/
import Derived.Test.YtpigekbfngalbaaDoorPartAP
import Derived.Test.YtpigekbfngalbaaDoorPartAM
import Derived.Deep.RegionHeld3
namespace Go.Proofs.YtpigekbfngalbaaDoor.Ms
open Go.RowKit
open Pk (St rdInt rdBlob)
set_option maxRecDepth 100000
set_option linter.unusedVariables false
attribute [local go_sem ↓] loadAt_msg storeAt_msg

theorem oneLen (m : M) (A : Option Addr) (c : Nat) (A' : Option Addr) (c' : Nat) : (#[.int .i64 m.K, .int .i64 m.F, .int .i64 m.T, .int .i64 m.g, .int .i64 m.t, .int .i64 m.i, .int .i64 m.p, .int .i64 m.c, .int .i64 m.r, .int .i64 m.x, .int .i64 m.a, .int .i64 m.b, .int .i64 m.v, .int .i64 m.s, .bool m.ok, .slice A m.es.length c, .slice A' m.d.length c'] : Array Value).size = 17 := rfl
/-- the end: what is told lies in the box of the answer -/
theorem RdR.fin {w0 W : World} {gr top E : Nat} {L : List Nat} {H : List Int} {m : M} {a : Nat} {b : Bool} {A A' : Option Addr} {c c' : Nat} (h : RdR w0 W gr top E L H m a b A c A' c') (h1 : (A = none ∧ c = 0) ∨ (A' = none ∧ c' = 0)) :
    ∃ W', (stMsg (.pointer (some ⟨w0.heap.size + 1, 0, none⟩)) (.agg #[.int .i64 m.K, .int .i64 m.F, .int .i64 m.T, .int .i64 m.g, .int .i64 m.t, .int .i64 m.i, .int .i64 m.p, .int .i64 m.c, .int .i64 m.r, .int .i64 m.x, .int .i64 m.a, .int .i64 m.b, .int .i64 m.v, .int .i64 m.s, .bool m.ok, .slice A m.es.length c, .slice A' m.d.length c'])).run Tryd.prog W = .ok () W' ∧ W'.heap[w0.heap.size + 1]? = some (.cells (#[.int .i64 m.K, .int .i64 m.F, .int .i64 m.T, .int .i64 m.g, .int .i64 m.t, .int .i64 m.i, .int .i64 m.p, .int .i64 m.c, .int .i64 m.r, .int .i64 m.x, .int .i64 m.a, .int .i64 m.b, .int .i64 m.v, .int .i64 m.s, .bool m.ok, .slice A m.es.length c, .slice A' m.d.length c']) 25 (0, 0)) ∧ OwnM W' w0.heap.size m A c A' c' ∧ w0.grownBy W' (some gr) := by
  have hl := h.lt
  have hst := st_row W (w0.heap.size + 1) _ (#[.int .i64 m.K, .int .i64 m.F, .int .i64 m.T, .int .i64 m.g, .int .i64 m.t, .int .i64 m.i, .int .i64 m.p, .int .i64 m.c, .int .i64 m.r, .int .i64 m.x, .int .i64 m.a, .int .i64 m.b, .int .i64 m.v, .int .i64 m.s, .bool m.ok, .slice A m.es.length c, .slice A' m.d.length c']) h.zero rfl rfl (msg_one m A c A' c')
  have htu := set_turned W (w0.heap.size + 1) #[.int .i64 m.K, .int .i64 m.F, .int .i64 m.T, .int .i64 m.g, .int .i64 m.t, .int .i64 m.i, .int .i64 m.p, .int .i64 m.c, .int .i64 m.r, .int .i64 m.x, .int .i64 m.a, .int .i64 m.b, .int .i64 m.v, .int .i64 m.s, .bool m.ok, .slice A m.es.length c, .slice A' m.d.length c']
  refine ⟨_, hst, setRow_heap _ _ _ _ _ _ h.zero, ⟨h.num, ?_, ?_, h1, h.few⟩, ?_⟩
  · exact (h.es.keep htu (fun k hk hB => by have := hB.1; omega)).wide (by omega) (Nat.le_trans hl.2.2.2 htu.size)
  · exact (h.d.turned htu (fun k hk e => by have := (h.d.blkLt k hk).1; omega)).weaken (by omega)
  · exact ⟨htu.os.trans h.grn.os, htu.tape.trans h.grn.tape, htu.output.trans h.grn.output, Nat.le_trans h.grn.size htu.size, fun k hk hne => (htu.block k (by omega) (by omega)).trans (h.grn.block k hk hne)⟩
/-- what is told of a message that is read -/
def ToldR (w w' : World) (gr : Nat) (m0 : M) (s0 : St) (e : Ending) : Prop :=
  ∃ m A c A' c' v, e = .returned (.tuple #[.agg #[.int .i64 m.K, .int .i64 m.F, .int .i64 m.T, .int .i64 m.g, .int .i64 m.t, .int .i64 m.i, .int .i64 m.p, .int .i64 m.c, .int .i64 m.r, .int .i64 m.x, .int .i64 m.a, .int .i64 m.b, .int .i64 m.v, .int .i64 m.s, .bool m.ok, .slice A m.es.length c, .slice A' m.d.length c'], .bool v]) ∧ OwnM w' w.heap.size m A c A' c' ∧ w.grownBy w' (some gr) ∧ (v = true → ∃ s, rdFs (tab m0.kind) m0 s0 = some (m, s) ∧ over s = true) ∧ (v = false → Ends (tab m0.kind) m0 s0)
/-- entries that are read: how far, and what has come of it -/
def EsP (v : Int) (m1 : M) (s1 s2 : St) (j : Nat) (K : List Rl.En) (st : St) (b : Bool) : Prop :=
  (b = false ∧ K.length = j ∧ j ≤ v.toNat ∧ 24 * j + st.rest.length ≤ s2.rest.length ∧ (K ++ (rdEs (v.toNat - j) st).1, (rdEs (v.toNat - j) st).2) = rdEs v.toNat s2) ∨
  (b = true ∧ j ≤ v.toNat + 1 ∧ (rdF m1 s1 101 = none ∨ ∃ m', rdF m1 s1 101 = some (m', Pk.gone)))
theorem rdF_es (m : M) (s : St) (he : m.es = []) : rdF m s 101 = if (rdInt s).1 < 0 ∨ (((rdInt s).2.rest.length / 24 : Nat) : Int) < (rdInt s).1 then none else some ({ m with es := (rdEs (rdInt s).1.toNat (rdInt s).2).1 }, (rdEs (rdInt s).1.toNat (rdInt s).2).2) := by
  unfold rdF; rw [if_neg (by decide), if_pos rfl, he]; rfl
theorem esP_start {m1 : M} {s1 : St} {v : Int} {s2 : St} (hq : rdInt s1 = (v, s2)) (he : m1.es = []) (b : Bool) (hb : s2.bad = b) (hg : b = true → s1.ok) : EsP v m1 s1 s2 0 [] s2 b := by
  cases b
  · exact .inl ⟨rfl, rfl, Nat.zero_le _, by omega, by simp⟩
  · refine .inr ⟨rfl, Nat.zero_le _, .inr ?_⟩
    have := Pk.rdInt_bad s1 (hg rfl) (by rw [hq]; exact hb)
    rw [hq] at this
    obtain ⟨h1, h2⟩ := this
    rw [rdF_es m1 s1 he, hq]
    simp only [] at h1 h2 ⊢
    subst h1; subst h2
    exact ⟨_, rfl⟩
theorem esP_step {m1 : M} {s1 : St} {v : Int} {s2 : St} (hq : rdInt s1 = (v, s2)) (he : m1.es = []) {j : Nat} {K : List Rl.En} {st : St} (h : EsP v m1 s1 s2 j K st false) (hj : (j : Int) < v) (st' : St) (b' : Bool) (x : Rl.En) (hx : rdE st = (x, st')) (hb : st'.bad = b') (hg : b' = true → st' = Pk.gone) : EsP v m1 s1 s2 (j + 1) (K ++ [x]) st' b' := by
  rcases h with ⟨_, h1, h2, h3, h4⟩ | ⟨h, _⟩
  · have hst := rdEs_step (n := v.toNat) (j := j) (by omega) st s2 K h4
    rw [hx] at hst
    cases b'
    · have h24 := rdE_eats24 st (by rw [hx]; exact hb)
      rw [hx] at h24
      simp only [] at h24
      exact .inl ⟨rfl, by rw [List.length_append, h1]; rfl, by omega, by omega, hst⟩
    · have hgo := hg rfl
      rw [hgo] at hst
      refine .inr ⟨rfl, by omega, ?_⟩
      rw [rdF_es m1 s1 he, hq]
      simp only []
      by_cases hc : v < 0 ∨ ((s2.rest.length / 24 : Nat) : Int) < v
      · rw [if_pos hc]; exact .inl rfl
      · rw [if_neg hc, ← hst]
        simp only []
        rw [rdEs_gone]
        exact .inr ⟨_, rfl⟩
  · cases h
theorem esP_done {m1 : M} {s1 : St} {v : Int} {s2 : St} (hq : rdInt s1 = (v, s2)) (he : m1.es = []) {j : Nat} {K : List Rl.En} {st : St} (h : EsP v m1 s1 s2 j K st false) (hj : ¬ (j : Int) < v) (hv : ¬ v < 0) : rdF m1 s1 101 = some ({ m1 with es := K }, st) := by
  rcases h with ⟨_, h1, h2, h3, h4⟩ | ⟨h, _⟩
  · have hjn : v.toNat - j = 0 := by omega
    rw [hjn] at h4
    have h5 : rdEs v.toNat s2 = (K, st) := by rw [← h4]; simp [rdEs]
    rw [rdF_es m1 s1 he, hq]
    simp only []
    rw [if_neg (by omega), h5]
  · cases h
theorem esP_neg {m1 : M} {s1 : St} {v : Int} {s2 : St} (hq : rdInt s1 = (v, s2)) (he : m1.es = []) (hv : v < 0) : rdF m1 s1 101 = none := by
  rw [rdF_es m1 s1 he, hq, if_pos (Or.inl hv)]
theorem tab_nodup (k : Nat) : (tab k).Nodup := by
  have key : ∀ k ∈ List.range 12, (tab k).Nodup := by decide
  by_cases h : k < 12
  · exact key k (List.mem_range.2 h)
  · have : tab k = [] := by unfold tab; split <;> first | omega | rfl
    rw [this]; exact List.nodup_nil
theorem tab_fresh {k j : Nat} (hj : j < (tab k).length) : (tab k)[j] ∉ (tab k).take j := by
  intro h
  obtain ⟨i, hi, he⟩ := List.getElem_of_mem h
  rw [List.length_take] at hi
  rw [List.getElem_take] at he
  exact List.pairwise_iff_getElem.1 (tab_nodup k) i j (by omega) hj (by omega) he
/-- a load that a region must not take first -/
def loadM1 : Op := Op.load 25 (Operand.tmp 2)

set_option maxHeartbeats 6400000 in
theorem rread_any (m : M) (w : World) (gr top : Nat) (B : List Nat) (a : Nat) (b : Bool) (hr : RefR w gr top B a b) (hK : 1 ≤ m.K ∧ m.K ≤ 11) (he : m.es = []) (hd : m.d = []) (hn : ∀ r ∈ nums, InInt (m.num r)) :
    Calls Tryd.prog 54 #[.agg #[.int .i64 m.K, .int .i64 m.F, .int .i64 m.T, .int .i64 m.g, .int .i64 m.t, .int .i64 m.i, .int .i64 m.p, .int .i64 m.c, .int .i64 m.r, .int .i64 m.x, .int .i64 m.a, .int .i64 m.b, .int .i64 m.v, .int .i64 m.s, .bool m.ok, .slice none m.es.length 0, .slice none m.d.length 0], .pointer (some ⟨gr, 0, none⟩)] w fun e w' => ToldR w w' gr m (stOf B a b) e := by
  obtain ⟨wB, hwB⟩ : ∃ wB, wB = (w.alloc (.cells #[.int .i64 m.K, .int .i64 m.F, .int .i64 m.T, .int .i64 m.g, .int .i64 m.t, .int .i64 m.i, .int .i64 m.p, .int .i64 m.c, .int .i64 m.r, .int .i64 m.x, .int .i64 m.a, .int .i64 m.b, .int .i64 m.v, .int .i64 m.s, .bool m.ok, .slice none m.es.length 0, .slice none m.d.length 0] 25)).alloc (.cells #[.int .i64 0, .int .i64 0, .int .i64 0, .int .i64 0, .int .i64 0, .int .i64 0, .int .i64 0, .int .i64 0, .int .i64 0, .int .i64 0, .int .i64 0, .int .i64 0, .int .i64 0, .int .i64 0, .bool false, .slice none 0 0, .slice none 0 0] 25) := ⟨_, rfl⟩
  have h0 : (w.alloc (.cells #[.int .i64 m.K, .int .i64 m.F, .int .i64 m.T, .int .i64 m.g, .int .i64 m.t, .int .i64 m.i, .int .i64 m.p, .int .i64 m.c, .int .i64 m.r, .int .i64 m.x, .int .i64 m.a, .int .i64 m.b, .int .i64 m.v, .int .i64 m.s, .bool m.ok, .slice none m.es.length 0, .slice none m.d.length 0] 25)).heap.size = w.heap.size + 1 := by simp
  have hsB : wB.heap.size = w.heap.size + 2 := by rw [hwB]; simp
  have hbB : Below w.heap.size w wB := by rw [hwB]; exact ((Below.refl _ w).alloc (Nat.le_refl _) _).alloc (by simp) _
  have hzB : Zero wB (w.heap.size + 1) := by show wB.heap[_]? = _; rw [hwB, ← h0]; exact heap_alloc_new _ _
  have hxB : Bx wB w.heap.size m none 0 none 0 := ⟨by
    rw [hwB]
    exact ((Below.refl _ (w.alloc (.cells #[.int .i64 m.K, .int .i64 m.F, .int .i64 m.T, .int .i64 m.g, .int .i64 m.t, .int .i64 m.i, .int .i64 m.p, .int .i64 m.c, .int .i64 m.r, .int .i64 m.x, .int .i64 m.a, .int .i64 m.b, .int .i64 m.v, .int .i64 m.s, .bool m.ok, .slice none m.es.length 0, .slice none m.d.length 0] 25))).alloc (Nat.le_refl _) _).block _ (by omega) |>.trans (heap_alloc_new w _)⟩
  obtain ⟨nh, hnh⟩ : ∃ nh, (hasL m.K).length = nh := ⟨_, rfl⟩
  have hnt : nh = (tab m.kind).length := by rw [← hnh]; exact (has_len m.K hK).1
  have hS := has_new m.K hK nh hnh wB
  rw [hsB] at hS
  have HS := hid hS
  obtain ⟨wC, hwC⟩ : ∃ wC, wC = wB.alloc (.cells (ints (hasL m.K)).toArray 3) := ⟨_, rfl⟩
  have hsC : wC.heap.size = w.heap.size + 3 := by rw [hwC]; simp [hsB]
  have hbC : Below wB.heap.size wB wC := by rw [hwC]; exact (Below.refl _ wB).alloc (Nat.le_refl _) _
  have hhC : wC.heap[w.heap.size + 2]? = some (.cells (ints (hasL m.K)).toArray 3 (0, 0)) := by rw [hwC, ← hsB]; exact heap_alloc_new _ _
  have hbw : Below w.heap.size w wC := hbB.trans (hbC.mono hbB.size)
  have hlt0 := hr.top_
  have hR0 : RdR w wC gr top (w.heap.size + 3) B (hasL m.K) m a b none 0 none 0 :=
    ⟨grown_below hbw _, hxB.below hbC (by omega), (hbC.block _ (by omega)).trans hzB, hhC, hr.below hbw, ⟨by omega, hlt0.2, Nat.le_refl _, by omega⟩, by rw [he]; exact OwnE.nil _ _ _, by rw [hd]; exact OwnsB.nil _ _ _, (fun k hk => by cases hk), hn, by rw [he]; exact Nat.zero_le _, by rw [hd]; exact Nat.zero_le _⟩
  have HR0 := hid hR0
  have HK := hid (And.intro hK hnt)
  have HNH := hid hnh
  have hn7 : nh ≤ 7 := by rw [hnt]; exact tab_length _
  have hc0 := hxB.c0
  obtain ⟨s0, hs0⟩ : ∃ s0, s0 = stOf B a b := ⟨_, rfl⟩
  rw [← hs0]
  have HP0 : Hid (Pr ((tab m.kind).take 0) m s0 m (stOf B a b)) := hid (.inl (by rw [hs0]; rfl))
  clear h0 hbB hzB hxB hbC hhC hbw hR0 hr hsC hlt0 he hd hn hs0 hS hK hnt hnh
  go_enter Tryd.func54, Tryd.ntmps54
  rw [hwB] at hc0
  go_wp2_with fail
  rw [← hwB]
  clear hwB hc0
  refine HS.out.mono ?_
  rintro e w1 ⟨rfl, hw1⟩
  rw [hw1, ← hwC]
  clear hw1 hwC hsB HS
  go_wp2_with fail
  go_loopw [7, 8, 9, 10, 11] (fun i _ _ _ _ wr => ∃ (j E : Nat) (m1 : M) (a1 : Nat) (b1 : Bool) (A : Option Addr) (c : Nat) (A' : Option Addr) (c' : Nat), j ≤ nh ∧ i = .int .i64 (j : Int) ∧ Hid (RdR w wr gr top E B (hasL m.K) m1 a1 b1 A c A' c') ∧ Hid (Pr ((tab m.kind).take j) m s0 m1 (stOf B a1 b1)) ∧ Hid ((101 ∉ (tab m.kind).take j → A = none ∧ c = 0) ∧ (100 ∉ (tab m.kind).take j → A' = none ∧ c' = 0))) (fun i _ _ _ _ _ => nh - (RowKit.intOf i).toNat)
  case atStart => exact ⟨0, _, m, a, b, none, 0, none, 0, Nat.zero_le _, rfl, HR0, HP0, hid ⟨fun _ => ⟨rfl, rfl⟩, fun _ => ⟨rfl, rfl⟩⟩⟩
  case round =>
    clear HR0 HP0
    obtain ⟨j, E, m1, a1, b1, A, c, A', c', hj, rfl, HR, HP, HO⟩ := hrel
    by_cases hlt : j < nh
    · have htl : j < (tab m.kind).length := by rw [← HK.out.2]; exact hlt
      obtain ⟨r, hr⟩ : ∃ r, r = (tab m.kind)[j] := ⟨_, rfl⟩
      have hmem : r ∈ tab m.kind := by rw [hr]; exact List.getElem_mem htl
      have hkl : m.kind < 12 := by unfold M.kind; have := HK.out.1; omega
      have hhl : j < (hasL m.K).length := by rw [HNH.out]; exact hlt
      have hhr : (hasL m.K)[j]'hhl = rix r := by
        have : hasL m.K = (tab m.kind).map rix := by unfold hasL; rw [if_pos HK.out.1]; rfl
        rw [hr]; simp [this]
      have hcj := HR.out.cellH j hhl
      rw [hhr] at hcj
      have htk : (tab m.kind).take (j + 1) = (tab m.kind).take j ++ [r] := by rw [List.take_succ_eq_append_getElem htl, hr]
      have HFR : Hid (r ∉ (tab m.kind).take j) := hid (by rw [hr]; exact tab_fresh htl)
      have HTK := hid htk
      have hc5 := tab_case m.kind hkl r hmem
      have HMEM := hid hmem
      have HNX : Hid (∀ m' s', rdF m1 (stOf B a1 b1) r = some (m', s') → (stOf B a1 b1 = Pk.gone → s' = Pk.gone) → Pr ((tab m.kind).take (j + 1)) m s0 m' s') := hid fun m' s' h1 h2 => pr_next htl HP.out (by rw [← hr]; exact h1) h2
      have HBD : Hid (rdF m1 (stOf B a1 b1) r = none ∨ (∃ m', rdF m1 (stOf B a1 b1) r = some (m', Pk.gone)) → Bd ((tab m.kind).take (j + 1)) m s0) := hid fun h1 => by
        rcases HP.out with h | ⟨_, h⟩
        · exact bd_of htl h (by rw [← hr]; exact h1)
        · exact bd_next htl h
      have HSTOP : Hid ((stOf B a1 b1 ≠ Pk.gone) → rdF m1 (stOf B a1 b1) r = none → Ends (tab m.kind) m s0) := hid fun h1 h2 => pr_stop htl HP.out (fun _ => by rw [← hr]; exact h2) (fun e => h1 e)
      have HO2 : Hid ((101 ∉ (tab m.kind).take (j + 1) → A = none ∧ c = 0) ∧ (100 ∉ (tab m.kind).take (j + 1) → A' = none ∧ c' = 0)) := hid ⟨fun hn => HO.out.1 (fun h => hn (by rw [HTK.out]; exact List.mem_append_left _ h)), fun hn => HO.out.2 (fun h => hn (by rw [HTK.out]; exact List.mem_append_left _ h))⟩
      have HONE : Hid ((A = none ∧ c = 0) ∨ (A' = none ∧ c' = 0)) := hid (by
        by_cases h1 : 101 ∈ (tab m.kind).take j
        · exact .inr (HO.out.2 (fun h0 => tab_one m.kind (List.mem_of_mem_take h1) (List.mem_of_mem_take h0)))
        · exact .inl (HO.out.1 h1))
      have HCJ : Hid (∀ {W : World} {E : Nat} {m1 : M} {a1 : Nat} {b1 : Bool} {A : Option Addr} {c : Nat} {A' : Option Addr} {c' : Nat}, RdR w W gr top E B (hasL m.K) m1 a1 b1 A c A' c' → W.cell? ⟨w.heap.size + 2, j, none⟩ = some (.int .i64 (rix r))) := hid fun h => by
        have := h.cellH j hhl
        rw [hhr] at this
        exact this
      clear hhr htk hhl hmem hr htl
      rcases hc5 with ⟨e1, e2⟩ | ⟨e1, e2⟩ | ⟨e1, e2⟩ | ⟨d, hd, hdr, e2, hin, n1, n2, n3⟩
      · rw [e2] at hcj
        clear e2 hkl
        obtain ⟨v, s2, hq⟩ : ∃ v s2, rdInt (stOf B a1 b1) = (v, s2) := ⟨_, _, rfl⟩
        have hin := HR.out.int
        rw [hq] at hin
        dsimp only at hin
        have HI := hid hin
        have HG : Hid (stOf B a1 b1 = Pk.gone → v = 0 ∧ s2 = Pk.gone) := hid fun e => by rw [e] at hq; injection hq with h1 h2; exact ⟨h1.symm, h2.symm⟩
        have HF : Hid (rdF m1 (stOf B a1 b1) r = if v = 0 ∨ v = 1 then some ({ m1 with ok := decide (v = 1) }, s2) else none) := hid (by rw [e1]; unfold rdF; rw [if_pos rfl, hq])
        clear hq e1 hin
        by_cases hv : v = 0 ∨ v = 1
        · have HN : Hid (Pr ((tab m.kind).take (j + 1)) m s0 { m1 with ok := decide (v = 1) } s2) := hid (HNX.out _ _ (by rw [HF.out, if_pos hv]) (fun e => (HG.out e).2))
          clear HF HG
          rcases hv with rfl | rfl
          all_goals
            go_wp2_with fail
            refine HI.out.mono ?_
            rintro e w2 ⟨a2, b2, rfl, h2, hs2, hg2⟩
            have hc14 := h2.box.c14
            have hf14 := row_free h2.box.row 14
            have H3 : Hid (∀ bb : Bool, RdR w (w2.setCell ⟨w.heap.size, 14, none⟩ (.bool bb)) gr top E B (hasL m.K) { m1 with ok := bb } a2 b2 A c A' c') := hid fun bb =>
              h2.put (m' := { m1 with ok := bb }) (Turned.ofGrown (grown_setCell w2 w.heap.size 14 (.bool bb)) (fun k hk => (Option.some.inj hk).symm)) ⟨Nat.le_refl _, h2.lt.2.2.2⟩ ⟨by rw [row_set h2.box.row]; rfl⟩ h2.es h2.d h2.dE h2.num h2.few h2.thin
            have HN2 := HN.out
            rw [← hs2] at HN2
            have HN3 := hid HN2
            clear h2 hs2 hg2 HN2
            go_wp2_with fail
            go_roundw
            case rel => exact ⟨j + 1, E, _, a2, b2, A, c, A', c', by omega, by go_num, hid (H3.out _), HN3, HO2⟩
            case measure => simp [RowKit.intOf]; omega
        · have HE : Hid (Ends (tab m.kind) m s0) := hid (HSTOP.out (fun e => hv (Or.inl (HG.out e).1)) (by rw [HF.out, if_neg hv]))
          have hv0 : ¬ v = 0 := fun e => hv (Or.inl e)
          have hv1 : ¬ v = 1 := fun e => hv (Or.inr e)
          have hb0 : (v == 0) = false := by simp [hv0]
          have hb1 : (v == 1) = false := by simp [hv1]
          have hc0 : (v != 0) = true := by simp [hv0]
          have hc1 : (v != 1) = true := by simp [hv1]
          clear HF HG hv
          go_wp2_with fail
          refine HI.out.mono ?_
          rintro e w2 ⟨a2, b2, rfl, h2, hs2, hg2⟩
          have hld := h2.box.load
          obtain ⟨w3, hst, hrow, hom, hgw⟩ := h2.fin HONE.out
          have HX := hid (And.intro hrow (And.intro hom hgw))
          clear h2 hs2 hg2 hrow hom hgw
          go_wp2_with fail
          refine bodyPost_ret (results_msg rfl _ _ (w.heap.size + 1) _ _ _ rfl HX.out.1 rfl) rfl ?_
          exact ⟨m1, A, c, A', c', false, rfl, HX.out.2.1, HX.out.2.2, (fun e => by cases e), fun _ => HE.out⟩
      · have he1 : m1.es = [] := by
          have h1 := (HO.out.1 (by rw [← e1]; exact HFR.out)).1
          have h2 := HR.out.es.reads
          rw [h1] at h2
          rcases hh : m1.es with _ | ⟨x, L⟩
          · rfl
          · obtain ⟨_, _, e, _⟩ := h2.cells 0 (by rw [hh]; simp)
            cases e
        have hA' : A' = none ∧ c' = 0 := HO.out.2 (fun h => tab_one m.kind (by rw [← e1]; exact HMEM.out) (List.mem_of_mem_take h))
        obtain ⟨hA1, hc1⟩ := hA'
        subst hA1
        subst hc1
        rw [e2] at hcj
        have HF1 : Hid (rdF m1 (stOf B a1 b1) r = rdF m1 (stOf B a1 b1) 101) := hid (by rw [e1])
        have HIN : Hid (101 ∈ (tab m.kind).take (j + 1)) := hid (by rw [HTK.out, e1]; simp)
        obtain ⟨v, s2, hq⟩ : ∃ v s2, rdInt (stOf B a1 b1) = (v, s2) := ⟨_, _, rfl⟩
        have hii := HR.out.int
        rw [hq] at hii
        dsimp only at hii
        have HI := hid hii
        have hvi : InInt v := by have := Pk.rdInt_in (stOf B a1 b1) HR.out.small.1; rw [hq] at this; exact this
        have hsh : s2.rest.length ≤ 1000000 := by have h1 := Pk.rdInt_short (stOf B a1 b1); rw [hq] at h1; exact Nat.le_trans h1 HR.out.small.2
        have hv1 := hvi.1
        have hv2 := hvi.2
        have HQ := hid hq
        have HE1 := hid he1
        clear hq hii hvi e1 e2 hkl
        go_wp2_with fail
        refine HI.out.mono ?_
        rintro e w2 ⟨a2, b2, rfl, h2, hs2, hg2⟩
        have hm1 : ({ m1 with es := [] } : M) = m1 := by rw [← HE1.out]
        have H2 : Hid (RdR w w2 gr top E B (hasL m.K) { m1 with es := [] } a2 b2 A c none 0) := hid (by rw [hm1]; exact h2)
        have HEP : Hid (EsP v m1 (stOf B a1 b1) s2 0 [] (stOf B a2 b2) b2) := hid (by rw [hs2]; exact esP_start HQ.out HE1.out b2 (by rw [← hs2]; rfl) (fun _ => stOf_ok _ _ _))
        clear h2 hs2 hg2 hm1 HI hcj
        go_wp2_with fail
        go_loopw [10, 11] (fun k _ wr => ∃ (i E3 : Nat) (K : List Rl.En) (a3 : Nat) (b3 : Bool) (A3 : Option Addr) (c3 q : Nat), k = .int .i64 (i : Int) ∧ Hid (K.length = q) ∧ Hid (RdR w wr gr top E3 B (hasL m.K) { m1 with es := K } a3 b3 A3 c3 none 0) ∧ Hid (EsP v m1 (stOf B a1 b1) s2 i K (stOf B a3 b3) b3)) (fun k _ _ => v.toNat - (RowKit.intOf k).toNat)
        case atStart => exact ⟨0, E, [], a2, b2, A, c, 0, rfl, hid rfl, H2, HEP⟩
        case round =>
          clear H2 HEP HR
          obtain ⟨i, E3, K, a3, b3, A3, c3, q, rfl, HL, HR3, HEP⟩ := hrel
          have hbad := HR3.out.badCell
          have hsz := HR3.out.lt
          by_cases hlt2 : (i : Int) < v
          · have hi2 : (i : Int) + 1 ≤ 9223372036854775807 := by omega
            cases b3
            · have hq45 : q = i ∧ 24 * i ≤ 1000000 := by
                rcases HEP.out with ⟨_, h1, _, h3, _⟩ | ⟨h, _⟩
                · exact ⟨by rw [← HL.out]; exact h1, by omega⟩
                · cases h
              obtain ⟨rfl, hi24⟩ := hq45
              obtain ⟨t, s4, q4⟩ : ∃ t s4, rdInt (stOf B a3 false) = (t, s4) := ⟨_, _, rfl⟩
              obtain ⟨k, s5, q5⟩ : ∃ k s5, rdInt s4 = (k, s5) := ⟨_, _, rfl⟩
              obtain ⟨d, s6, q6⟩ : ∃ d s6, rdBlob s5 = (d, s6) := ⟨_, _, rfl⟩
              have hrdE : rdE (stOf B a3 false) = (⟨t, k, d⟩, s6) := by unfold rdE; rw [q4, q5, q6]
              have hsm3 := HR3.out.small.1
              have hnum : InInt t ∧ InInt k := by have := rdE_num (stOf B a3 false) hsm3; rw [hrdE] at this; exact this
              have HX := hid (And.intro hrdE hnum)
              have HQ4 := hid q4
              have HQ5 := hid q5
              have HQ6 := hid q6
              obtain ⟨wX, hwX⟩ : ∃ wX, wX = wr.alloc (.cells #[.int .i64 0, .int .i64 0, .slice none 0 0] 61) := ⟨_, rfl⟩
              have hRX : RdR w wX gr top E3 B (hasL m.K) { m1 with es := K } a3 false A3 c3 none 0 := by rw [hwX]; exact HR3.out.alloc _
              have hEX : Eb wX wr.heap.size 0 0 (.slice none 0 0) := by rw [hwX]; exact heap_alloc_new wr _
              have HEX := hid hEX
              have hin := hRX.int
              rw [q4] at hin
              dsimp only at hin
              have HI := hid hin
              have hgx : gr ≠ wr.heap.size ∧ E3 ≤ wr.heap.size := ⟨by omega, hsz.2.2.2⟩
              have HGX := hid hgx
              clear q4 q5 q6 hrdE hsm3 hnum hRX hEX hin hgx HR3 hsz
              go_wp2_with fail
              rw [← hwX]
              clear hwX
              refine HI.out.mono ?_
              rintro e w4 ⟨a4, b4, rfl, h4, hs4, hg4⟩
              have hE4 : Eb w4 wr.heap.size 0 0 (.slice none 0 0) := (hg4.block _ (row_lt HEX.out) (fun e => HGX.out.1 (Option.some.inj e).symm)).trans HEX.out
              have hc0 := row_cell hE4 0
              have hf0 := row_free hE4 0
              obtain ⟨w5, hw5⟩ : ∃ w5, w5 = w4.setCell ⟨wr.heap.size, 0, none⟩ (.int .i64 t) := ⟨_, rfl⟩
              have ht5 : Turned (fun k => k = wr.heap.size) w4 w5 := by rw [hw5]; exact Turned.ofGrown (grown_setCell _ _ _ _) (fun k hk => (Option.some.inj hk).symm)
              have hR5 := h4.far ht5 (fun k e => by rw [e]; exact HGX.out.2)
              have hE5 : Eb w5 wr.heap.size t 0 (.slice none 0 0) := by show w5.heap[_]? = _; rw [hw5, row_set hE4]; rfl
              have HE5 := hid hE5
              have hin := hR5.int
              rw [hs4, HQ5.out] at hin
              dsimp only at hin
              have HI5 := hid hin
              clear HI h4 hs4 hg4 hE4 ht5 hR5 hE5 hin HEX
              go_wp2_with fail
              rw [← hw5]
              clear hw5 hc0 hf0
              refine HI5.out.mono ?_
              rintro e w6 ⟨a6, b6, rfl, h6, hs6, hg6⟩
              have hE6 : Eb w6 wr.heap.size t 0 (.slice none 0 0) := (hg6.block _ (row_lt HE5.out) (fun e => HGX.out.1 (Option.some.inj e).symm)).trans HE5.out
              have hc1 := row_cell hE6 1
              have hf1 := row_free hE6 1
              obtain ⟨w7, hw7⟩ : ∃ w7, w7 = w6.setCell ⟨wr.heap.size, 1, none⟩ (.int .i64 k) := ⟨_, rfl⟩
              have ht7 : Turned (fun k => k = wr.heap.size) w6 w7 := by rw [hw7]; exact Turned.ofGrown (grown_setCell _ _ _ _) (fun k hk => (Option.some.inj hk).symm)
              have hR7 := h6.far ht7 (fun k e => by rw [e]; exact HGX.out.2)
              have hE7 : Eb w7 wr.heap.size t k (.slice none 0 0) := by show w7.heap[_]? = _; rw [hw7, row_set hE6]; rfl
              have HE7 := hid hE7
              have hin := hR7.blob
              rw [hs6, HQ6.out] at hin
              dsimp only at hin
              have HI7 := hid hin
              have H7sz := hid hR7.lt
              clear HI5 h6 hs6 hg6 hE6 ht7 hR7 hE7 hin HE5
              go_wp2_with fail
              rw [← hw7]
              clear hw7 hc1 hf1
              refine HI7.out.mono ?_
              rintro e w8 ⟨a8, b8, A8, c8, rfl, ho8, h8, hs8, hg8⟩
              have hE8 : Eb w8 wr.heap.size t k (.slice none 0 0) := (hg8.block _ (row_lt HE7.out) (fun e => HGX.out.1 (Option.some.inj e).symm)).trans HE7.out
              have hgx8 := row_lt HE7.out
              have hc2 := row_cell hE8 2
              have hf2 := row_free hE8 2
              obtain ⟨w9, hw9⟩ : ∃ w9, w9 = w8.setCell ⟨wr.heap.size, 2, none⟩ (.slice A8 d.length c8) := ⟨_, rfl⟩
              have ht9 : Turned (fun k => k = wr.heap.size) w8 w9 := by rw [hw9]; exact Turned.ofGrown (grown_setCell _ _ _ _) (fun k hk => (Option.some.inj hk).symm)
              have hR9 := h8.far ht9 (fun k e => by rw [e]; exact HGX.out.2)
              have hE9 : Eb w9 wr.heap.size t k (.slice A8 d.length c8) := by show w9.heap[_]? = _; rw [hw9, row_set hE8]; rfl
              have hO9 : OwnsB 5 w9 E3 A8 c8 d := (ho8.turned ht9 (fun k hk e => by have := (ho8.blkLt k hk).1; omega)).weaken (by have := H7sz.out; omega)
              have HE9 := hid hE9
              have HR9 := hid (And.intro hR9 hO9)
              have HS8 := hid hs8
              have hx0 := row_cell hE9 0
              have hx1 := row_cell hE9 1
              have hx2 := row_cell hE9 2
              have hc15 := hR9.box.c15
              have hf15 := row_free hR9.box.row 15
              have hl15 := HL.out
              have hc15b : w9.cell? ⟨w.heap.size, 15, none⟩ = some (.slice A3 q c3) := by rw [hc15]; show some (Value.slice A3 K.length c3) = _; rw [HL.out]
              have hl5 : q + 1 ≤ 100000 := by omega
              have hsE := hR9.lt
              have HSE := hid hsE
              have HES : Hid (OwnE w9 (w.heap.size + 3) E3 A3 c3 K) := hid hR9.es
              clear HI7 ho8 h8 hs8 hg8 hE8 ht9 hR9 hE9 hO9 HE7 hc15 hl15 hsE hgx8
              go_upto_region 21 with fail
              rw [← hw9]
              clear hw9 hc2 hf2
              have HL5 := hid (And.intro hl5 hi24)
              clear hl5 hi24 hi2 he1
              go_wp2_with (at_builtin; refine wpList_append_ent (by rfl) _ _ (by rfl) (HES.out.below ((Below.refl _ w9).alloc HSE.out.2.2.2 _)) HSE.out.2.2.1 (by rw [World.size_alloc]; exact Nat.le_succ_of_le HSE.out.2.2.2) q HL.out (by rfl) ⟨t, k, d⟩ HX.out.2 A8 c8 (HR9.out.2.below ((Below.refl _ w9).alloc (Nat.le_refl _) _)) ⟨w9.heap.size, 0, none⟩ 1 (by rfl) (fun j _ => cellsE_new w9 _ rfl ⟨⟨t, k, d⟩, A8, c8⟩ _ j) HL5.out.1 ?_)
              intro A10 c10 w10 hE10 hB10
              have HB10 := hid (((Below.refl (w.heap.size + 3) w9).alloc (Nat.le_trans HSE.out.2.2.1 HSE.out.2.2.2) _).trans hB10)
              have HE10 := hid hE10
              have hl5 : q ≤ 45000 := by have := HL5.out.2; omega
              have hf10 : w10.frozen? ⟨w.heap.size, 15, none⟩ = false := row_free ((HB10.out.block _ (by omega)).trans HR9.out.1.box.row) 15
              have hk10 : w10.cell? ⟨w.heap.size, 15, none⟩ = some (.slice A3 q c3) := (HB10.out.cell (p := ⟨w.heap.size, 15, none⟩) (by show w.heap.size < w.heap.size + 3; omega)).trans hc15b
              have H11 : Hid (RdR w (w10.setCell ⟨w.heap.size, 15, none⟩ (.slice A10 (q + 1) c10)) gr top w10.heap.size B (hasL m.K) { m1 with es := K ++ [⟨t, k, d⟩] } a8 b8 A10 c10 none 0) :=
                hid (HR9.out.1.app HB10.out HE10.out (by rw [List.length_append, HL.out]; rfl) (by omega))
              have HL11 : Hid ((K ++ [(⟨t, k, d⟩ : Rl.En)]).length = q + 1) := hid (by rw [List.length_append, HL.out]; rfl)
              have HEP2 : Hid (EsP v m1 (stOf B a1 b1) s2 (q + 1) (K ++ [⟨t, k, d⟩]) (stOf B a8 b8) b8) := hid (esP_step HQ.out HE1.out HEP.out hlt2 (stOf B a8 b8) b8 ⟨t, k, d⟩ (by rw [HX.out.1, HS8.out]) rfl (fun e => stOf_gone.2 e))
              clear hB10 hE10 hc15b hf15 hx0 hx1 hx2
              go_wp2_with fail
              go_roundw
              case rel => exact ⟨q + 1, _, K ++ [⟨t, k, d⟩], a8, b8, A10, c10, q + 1, by go_num, HL11, H11, HEP2⟩
              case measure => simp [RowKit.intOf]; omega
            · have HB2 : Hid (Pr ((tab m.kind).take (j + 1)) m s0 { m1 with es := K } (stOf B a3 true)) := hid (.inr ⟨stOf_bad B a3, HBD.out (by
                rw [HF1.out]
                rcases HEP.out with ⟨h, _⟩ | ⟨_, _, h⟩
                · cases h
                · exact h)⟩)
              have hv0 : ¬ v < 0 := by omega
              have HR4 := hid HR3.out
              go_wp2_with fail
              go_roundw
              case rel => exact ⟨j + 1, E3, { m1 with es := K }, a3, true, A3, c3, none, 0, by omega, by go_num, HR4, HB2, hid ⟨fun hn => absurd HIN.out hn, fun _ => ⟨rfl, rfl⟩⟩⟩
              case measure => simp [RowKit.intOf]; omega
          · by_cases hv : v < 0
            · have HE : Hid (Ends (tab m.kind) m s0) := hid (HSTOP.out (fun e => by have h := HQ.out; rw [e] at h; injection h with h1 h2; rw [← h1] at hv; exact absurd hv (by decide)) (by rw [HF1.out]; exact esP_neg HQ.out HE1.out hv))
              obtain ⟨m2, hm2⟩ : ∃ m2, m2 = ({ m1 with es := K } : M) := ⟨_, rfl⟩
              have hR3 : RdR w wr gr top E3 B (hasL m.K) m2 a3 b3 A3 c3 none 0 := by rw [hm2]; exact HR3.out
              have hld := hR3.box.load
              obtain ⟨w3, hst, hrow, hom, hgw⟩ := hR3.fin (.inr ⟨rfl, rfl⟩)
              clear hm2 hR3
              have HX := hid (And.intro hrow (And.intro hom hgw))
              clear hrow hom hgw
              go_wp2_with fail
              refine bodyPost_ret (results_msg rfl _ _ (w.heap.size + 1) _ _ _ rfl HX.out.1 rfl) rfl ?_
              exact ⟨m2, A3, c3, none, 0, false, rfl, HX.out.2.1, HX.out.2.2, (fun e => by cases e), fun _ => HE.out⟩
            · have HB2 : Hid (Pr ((tab m.kind).take (j + 1)) m s0 { m1 with es := K } (stOf B a3 b3)) := hid (by
                cases b3
                · have h1 := esP_done HQ.out HE1.out HEP.out hlt2 hv
                  refine HNX.out _ _ (by rw [HF1.out]; exact h1) (fun e => ?_)
                  obtain ⟨m', h2⟩ := rdF_gone m1 101
                  rw [e, h2] at h1
                  injection h1 with h1
                  injection h1 with _ h1
                  exact h1.symm
                · refine .inr ⟨stOf_bad B a3, HBD.out ?_⟩
                  rw [HF1.out]
                  rcases HEP.out with ⟨h, _⟩ | ⟨_, _, h⟩
                  · cases h
                  · exact h)
              have HR4 := hid HR3.out
              go_wp2_with fail
              go_roundw
              case rel => exact ⟨j + 1, E3, { m1 with es := K }, a3, b3, A3, c3, none, 0, by omega, by go_num, HR4, HB2, hid ⟨fun hn => absurd HIN.out hn, fun _ => ⟨rfl, rfl⟩⟩⟩
              case measure => simp [RowKit.intOf]; omega
      · rw [e2] at hcj
        clear e2 hkl
        obtain ⟨dd, s2, hq⟩ : ∃ dd s2, rdBlob (stOf B a1 b1) = (dd, s2) := ⟨_, _, rfl⟩
        have hdl : dd.length ≤ 1000000 := by
          have h1 := (Pk.rdBlob_short (stOf B a1 b1)).2
          have h2 := HR.out.small.2
          rw [hq] at h1
          exact Nat.le_trans h1 h2
        have hin := HR.out.blob
        rw [hq] at hin
        dsimp only at hin
        have HI := hid hin
        have HN : Hid (Pr ((tab m.kind).take (j + 1)) m s0 { m1 with d := dd } s2) := hid (HNX.out _ _ (by rw [e1]; unfold rdF; rw [if_neg (by decide), if_neg (by decide), if_pos rfl, hq]) (fun e => by rw [e] at hq; injection hq with h1 h2; exact h2.symm))
        have HOD : Hid (100 ∈ (tab m.kind).take (j + 1)) := hid (by rw [HTK.out, e1]; simp)
        have HDL := hid hdl
        clear hq e1 hin hdl
        go_wp2_with fail
        refine HI.out.mono ?_
        rintro e w2 ⟨a2, b2, A2, c2, rfl, ho, h2, hs2, hg2⟩
        have hc16 := h2.box.c16
        have hf16 := row_free h2.box.row 16
        have H3 : Hid (RdR w (w2.setCell ⟨w.heap.size, 16, none⟩ (.slice A2 dd.length c2)) gr top w2.heap.size B (hasL m.K) { m1 with d := dd } a2 b2 A c A2 c2) := hid (
          h2.put (m' := { m1 with d := dd }) (Turned.ofGrown (grown_setCell w2 w.heap.size 16 _) (fun k hk => (Option.some.inj hk).symm)) ⟨h2.lt.2.2.2, Nat.le_refl _⟩ ⟨by rw [row_set h2.box.row]; rfl⟩ (h2.es.wide (Nat.le_refl _) h2.lt.2.2.2) (ho.weaken (by have := HR.out.lt; omega)) (fun k hk => (ho.blkLt k hk).2) h2.num h2.few HDL.out)
        have HN2 := HN.out
        rw [← hs2] at HN2
        have HN3 := hid HN2
        clear h2 hs2 hg2 HN2 ho
        go_wp2_with fail
        go_roundw
        case rel => exact ⟨j + 1, _, _, a2, b2, A, c, A2, c2, by omega, by go_num, H3, HN3, hid ⟨HO2.out.1, fun hn => absurd HOD.out hn⟩⟩
        case measure => simp [RowKit.intOf]; omega
      · have hrA : r ∈ allR := List.mem_of_getElem? hdr
        have HC4 : Hid (∀ {W : World} {E : Nat} {m1 : M} {a1 : Nat} {b1 : Bool} {A : Option Addr} {c : Nat} {A' : Option Addr} {c' : Nat}, RdR w W gr top E B (hasL m.K) m1 a1 b1 A c A' c' → W.cell? ⟨w.heap.size + 2, j, none⟩ = some (.int .i64 (d : Int))) := hid fun h => by rw [← e2]; exact HCJ.out h
        obtain ⟨v, s2, hq⟩ : ∃ v s2, rdInt (stOf B a1 b1) = (v, s2) := ⟨_, _, rfl⟩
        have hii := HR.out.drew.int
        rw [hq] at hii
        dsimp only at hii
        have HI := hid hii
        have hvi : InInt v := by have := Pk.rdInt_in (stOf B a1 b1) HR.out.small.1; rw [hq] at this; exact this
        have HN : Hid (Pr ((tab m.kind).take (j + 1)) m s0 (m1.set r v) s2) := hid (HNX.out _ _ (by rw [rdF_num m1 _ r (allR_nums r hrA), hq]) (fun e => by rw [e] at hq; injection hq with h1 h2; exact h2.symm))
        have HSET : Hid (((m1.set r v).es = m1.es ∧ (m1.set r v).d = m1.d) ∧ ∀ q ∈ nums, InInt ((m1.set r v).num q)) := hid ⟨set_es m1 r v, fun q hq => by
          rw [num_set m1 r q _ hq]
          split
          · exact hvi
          · exact HR.out.num q hq⟩
        have HW := hid (fun w' => with_any m1 A c A' c' r hrA (d : Int) e2 v w')
        have hopM : loadM1 = Op.load 25 (Operand.tmp 2) := rfl
        have hld0 := HR.out.drew.box.load
        have hcd := HC4.out HR.out.drew
        have hd0 : (d : Int) < 11 := by omega
        have hd1 : ¬ (d : Int) = 11 := by omega
        have hd2 : ¬ (d : Int) = 12 := by omega
        have hd3 : ¬ (d : Int) = 13 := by omega
        rw [e2] at hcj
        clear hq hii hvi hdr e2 hin n1 n2 n3 hkl hrA
        go_wp2_with fail
        rw [← hopM]
        go_region_held3 (fun W => W.cell? ⟨w.heap.size + 2, j, none⟩ = some (.int .i64 (d : Int)))
          (first | exact hcd | exact hc2 | exact hc3 | exact hc4 | fail)
          (first
            | (go_at_call 80; refine (HW.out w2).mono ?_; rintro e w3 ⟨m', hm', rfl, hb3⟩; have h3 := H2.out.1.below hb3; have hc3 := HC4.out h3; obtain ⟨w4, hst, h4⟩ := h3.setM m' (by rw [hm']; exact HSET.out.1.1) (by rw [hm']; exact HSET.out.1.2) (by rw [hm']; exact HSET.out.2); have hc4 := HC4.out h4; have H4 := hid (And.intro h4 (And.intro hm' H2.out.2)); clear h3 h4 hb3 hm')
            | (go_at_call 53; refine HI.out.mono ?_; rintro e w2 ⟨a2, b2, rfl, h2, hs2, hg2⟩; have H2 := hid (And.intro h2 hs2); have hld2 := h2.box.load; have hc2 := HC4.out h2; clear h2 hs2 hg2))
        all_goals
          have HN2 := HN.out
          rw [← H4.out.2.1, ← H4.out.2.2] at HN2
          have HN3 := hid HN2
          have H5 := hid H4.out.1
          clear HN2 H4 hst hld2 hc2 hc3 hc4 hcd hld0
          go_wp2_with fail
          go_roundw
          case rel => exact ⟨j + 1, E, m', a2, b2, A, c, A', c', by omega, by go_num, H5, HN3, HO2⟩
          case measure => simp [RowKit.intOf]; omega
    · obtain rfl : j = nh := by omega
      have hend := HP.out
      rw [List.take_of_length_le (by rw [← HK.out.2]; exact Nat.le_refl _)] at hend
      have HEND := hid (pr_end hend)
      clear hend
      have HONE : Hid ((A = none ∧ c = 0) ∨ (A' = none ∧ c' = 0)) := hid (by
        by_cases h1 : 101 ∈ (tab m.kind).take j
        · exact .inr (HO.out.2 (fun h0 => tab_one m.kind (List.mem_of_mem_take h1) (List.mem_of_mem_take h0)))
        · exact .inl (HO.out.1 h1))
      have HC := hid (refEnd_any gr top B a1 b1 wr.drew HR.out.drew.rdr)
      have HR5 : Hid (∀ n5, RdR w (wr.drew.drewN n5) gr top E B (hasL m.K) m1 a1 b1 A c A' c') := hid fun n5 => HR.out.drew.drewN n5
      have hopM : loadM1 = Op.load 25 (Operand.tmp 2) := rfl
      have hld0 := HR.out.drew.box.load
      obtain ⟨ee, hee⟩ : ∃ ee, ee = endOf (stOf B a1 b1) := ⟨_, rfl⟩
      have hov := over_end (stOf B a1 b1)
      rw [← hee] at hov
      have HC2 : Hid (Calls Tryd.prog 81 #[.pointer (some ⟨gr, 0, none⟩)] wr.drew fun e w' => e = .returned (.int .i64 ee) ∧ ∃ n, w' = wr.drew.drewN n) := hid (by rw [hee]; exact HC.out)
      have HV : Hid (∃ v : Bool, v = decide (ee = 0) ∧ (v = true → ∃ s, rdFs (tab m.kind) m s0 = some (m1, s) ∧ over s = true) ∧ (v = false → Ends (tab m.kind) m s0)) := hid (by
        by_cases h : ee = 0
        · exact ⟨true, by simp [h], fun _ => ⟨_, HEND.out.1 (hov.1 h), hov.1 h⟩, fun e => (by cases e)⟩
        · exact ⟨false, by simp [h], (fun e => by cases e), fun _ => HEND.out.2 (hov.2 h)⟩)
      clear hee hov HC
      go_wp2_with fail
      rw [← hopM]
      go_region_held3 (fun w' => True)
        (first | exact trivial | fail)
        (first
          | (go_at_call 81; refine HC2.out.mono ?_; rintro e w5 ⟨rfl, n5, hw5⟩; have h5 := HR5.out n5; rw [← hw5] at h5; have hld5 := h5.box.load; obtain ⟨w6, hst, hrow, hom, hgw⟩ := h5.fin HONE.out; have HX := hid (And.intro hrow (And.intro hom hgw)); clear hrow hom hgw h5 hw5))
      all_goals
        go_wp2_with fail
        obtain ⟨v, hv, hv1, hv2⟩ := HV.out
        refine bodyPost_ret (results_msg rfl _ _ (w.heap.size + 1) _ _ _ rfl HX.out.1 rfl) rfl ?_
        exact ⟨m1, A, c, A', c', v, by rw [hv]; rfl, HX.out.2.1, HX.out.2.2, hv1, hv2⟩
end Go.Proofs.YtpigekbfngalbaaDoor.Ms
namespace Go.Proofs.YtpigekbfngalbaaDoor.Ms
open Go.RowKit
open Pk (St rdInt rdBlob)
set_option maxRecDepth 100000
set_option linter.unusedVariables false
attribute [local go_sem ↓] loadAt_msg storeAt_msg

theorem stOf_new (p : List Nat) : stOf p 0 false = ⟨p, false⟩ := by unfold stOf leftOf; simp
theorem dec_ends {p : List Nat} {m : M} {s : St} (h : head3 p = (m, s)) (hb : s.bad = false) (hk : m.isKind = true) (he : Ends (tab m.kind) m s) : dec p = (M0, 4) := by
  rcases he with he | ⟨m1, s1, h1, h2⟩
  · exact dec_none h hb hk he
  · exact dec_left h hb hk h1 h2
/-- the head's numbers, one after the other -/
structure Hd3 (p : List Nat) (v0 v1 v2 : Int) (s1 s2 s3 : St) : Prop where
  q0 : rdInt ⟨p, false⟩ = (v0, s1)
  q1 : rdInt s1 = (v1, s2)
  q2 : rdInt s2 = (v2, s3)
  h : head3 p = ({ M0 with K := v0, F := v1, T := v2 }, s3)
theorem hd3_of (p : List Nat) : ∃ v0 v1 v2 s1 s2 s3, Hd3 p v0 v1 v2 s1 s2 s3 := ⟨_, _, _, _, _, _, rfl, rfl, rfl, rfl⟩
theorem m3_num {v0 v1 v2 : Int} (h0 : InInt v0) (h1 : InInt v1) (h2 : InInt v2) : ∀ r ∈ nums, InInt (({ M0 with K := v0, F := v1, T := v2 } : M).num r) := by
  have hz : InInt 0 := ⟨by decide, by decide⟩
  intro r hr
  simp only [nums, List.mem_cons, List.not_mem_nil, or_false] at hr
  rcases hr with rfl | rfl | rfl | rfl | rfl | rfl | rfl | rfl | rfl | rfl | rfl | rfl | rfl | rfl <;> first | exact h0 | exact h1 | exact h2 | exact hz
theorem OwnM.is {w : World} {B : Nat} {m : M} {A A' : Option Addr} {c c' : Nat} (h : OwnM w B m A c A' c') : Is w w.heap.size m A c A' c' :=
  ⟨h.num, h.es.reads, h.es.room, h.es.none_, h.d.reads, h.d.room, h.d.none_⟩
/-- the reader at gr, the box behind it; ahead of both the box of the answer -/
structure Gt (w W : World) (gr gm : Nat) (p : List Nat) (m : M) (a : Nat) (b : Bool) : Prop where
  bel : Below w.heap.size w W
  zero : Zero W w.heap.size
  box : Bx W gm m none 0 none 0
  rdr : RefR W gr gm p a b
  lt : w.heap.size < gr ∧ gr < gm ∧ gm < W.heap.size
namespace Gt
variable {w W : World} {gr gm : Nat} {p : List Nat} {m : M} {a : Nat} {b : Bool}
theorem int (h : Gt w W gr gm p m a b) :
    Calls Tryd.prog 53 #[.pointer (some ⟨gr, 0, none⟩)] W fun e w' => ∃ a2 b2, e = .returned (.int .i64 (rdInt (stOf p a b)).1) ∧ Gt w w' gr gm p m a2 b2 ∧ stOf p a2 b2 = (rdInt (stOf p a b)).2 :=
  (refRInt_any gr gm p a b W h.rdr).mono fun e w' ⟨a2, b2, he, hr, hs, hg⟩ => ⟨a2, b2, he,
    ⟨h.bel.trans (below_grown hg h.bel.size (fun k hk => by injection hk with hk; have := h.lt; omega)),
     (hg.block _ (row_lt h.zero) (fun e => by injection e; have := h.lt; omega)).trans h.zero, ⟨(hg.block _ (row_lt h.box.row) (fun e => by injection e; have := h.lt; omega)).trans h.box.row⟩, hr, ⟨h.lt.1, h.lt.2.1, Nat.lt_of_lt_of_le h.lt.2.2 hg.size⟩⟩, hs⟩
theorem set_ (h : Gt w W gr gm p m a b) (i : Nat) (u : Value) (m' : M) (hc : (#[.int .i64 m.K, .int .i64 m.F, .int .i64 m.T, .int .i64 m.g, .int .i64 m.t, .int .i64 m.i, .int .i64 m.p, .int .i64 m.c, .int .i64 m.r, .int .i64 m.x, .int .i64 m.a, .int .i64 m.b, .int .i64 m.v, .int .i64 m.s, .bool m.ok, .slice none m.es.length 0, .slice none m.d.length 0] : Array Value).setIfInBounds i u = (#[.int .i64 m'.K, .int .i64 m'.F, .int .i64 m'.T, .int .i64 m'.g, .int .i64 m'.t, .int .i64 m'.i, .int .i64 m'.p, .int .i64 m'.c, .int .i64 m'.r, .int .i64 m'.x, .int .i64 m'.a, .int .i64 m'.b, .int .i64 m'.v, .int .i64 m'.s, .bool m'.ok, .slice none m'.es.length 0, .slice none m'.d.length 0] : Array Value)) : Gt w (W.setCell ⟨gm, i, none⟩ u) gr gm p m' a b := by
  have hg := grown_setCell W gm i u
  refine ⟨h.bel.trans (below_grown hg h.bel.size (fun k hk => by injection hk with hk; have := h.lt; omega)), (hg.block _ (row_lt h.zero) (fun e => by injection e; have := h.lt; omega)).trans h.zero, ⟨by rw [row_set h.box.row, hc]⟩, h.rdr.other hg (fun k hk => by injection hk with hk; omega), ⟨h.lt.1, h.lt.2.1, Nat.lt_of_lt_of_le h.lt.2.2 hg.size⟩⟩
theorem below (h : Gt w W gr gm p m a b) {W' : World} (hb : Below W.heap.size W W') : Gt w W' gr gm p m a b :=
  ⟨h.bel.trans (hb.mono h.bel.size), (hb.block _ (row_lt h.zero)).trans h.zero, h.box.below hb h.lt.2.2, h.rdr.below hb, ⟨h.lt.1, h.lt.2.1, Nat.lt_of_lt_of_le h.lt.2.2 hb.size⟩⟩
theorem badC (h : Gt w W gr gm p m a b) : W.cell? ⟨gr, 2, none⟩ = some (.bool b) := by
  obtain ⟨_, _, _, _, h2, _⟩ := h.rdr.cells
  exact h2
end Gt
set_option maxHeartbeats 6400000 in
theorem rget_any (l : List Nat) (A0 : Option Addr) (c0 n0 : Nat) (hn0 : l.length = n0) (w : World) (h : IsBytes w w.heap.size A0 l) (hc : n0 ≤ c0) (hl : n0 ≤ 140737488355000) :
    Calls Tryd.prog 23 #[.slice A0 n0 c0] w fun e w' => ∃ A c A' c', e = .returned (.tuple #[.agg #[.int .i64 ((get l).1).K, .int .i64 ((get l).1).F, .int .i64 ((get l).1).T, .int .i64 ((get l).1).g, .int .i64 ((get l).1).t, .int .i64 ((get l).1).i, .int .i64 ((get l).1).p, .int .i64 ((get l).1).c, .int .i64 ((get l).1).r, .int .i64 ((get l).1).x, .int .i64 ((get l).1).a, .int .i64 ((get l).1).b, .int .i64 ((get l).1).v, .int .i64 ((get l).1).s, .bool ((get l).1).ok, .slice A ((get l).1).es.length c, .slice A' ((get l).1).d.length c'], .int .i64 (((get l).2 : Nat) : Int)]) ∧ OwnM w' w.heap.size (get l).1 A c A' c' ∧ Below w.heap.size w w' := by
  obtain ⟨wA, hwA⟩ : ∃ wA, wA = w.alloc (.cells #[.int .i64 0, .int .i64 0, .int .i64 0, .int .i64 0, .int .i64 0, .int .i64 0, .int .i64 0, .int .i64 0, .int .i64 0, .int .i64 0, .int .i64 0, .int .i64 0, .int .i64 0, .int .i64 0, .bool false, .slice none 0 0, .slice none 0 0] 25) := ⟨_, rfl⟩
  have hsA : wA.heap.size = w.heap.size + 1 := by rw [hwA]; simp
  have hbA : Below w.heap.size w wA := by rw [hwA]; exact (Below.refl _ w).alloc (Nat.le_refl _) _
  have hzA : Zero wA w.heap.size := by rw [hwA]; exact heap_alloc_new w _
  obtain ⟨p, nn, ee, hg⟩ : ∃ p nn ee, Fr.get l = (p, nn, ee) := ⟨_, _, _, rfl⟩
  have hpl : p.length ≤ 65536 := by have := fr_short l; rw [hg] at this; exact this
  have HFR := hid (Frame.ref_get_N wA.heap.size A0 c0 l n0 hn0 hl hc wA ((h.below hbA).more hbA.size) (Nat.le_refl _) p nn ee hg p.length rfl nn ee rfl rfl)
  have HG := hid hg
  have HN0 := hid hn0
  have HW := hid (And.intro hbA hzA)
  clear hg h hn0 hbA hzA
  go_enter Tryd.func23, Tryd.ntmps23
  go_wp2_with fail
  rw [← hwA]
  refine HFR.out.mono ?_
  rintro e w1 ⟨A1, c1, rfl, ho, hb1⟩
  have HB1 : Hid (Below w.heap.size w w1 ∧ Zero w1 w.heap.size ∧ OwnsB 5 w1 wA.heap.size A1 c1 p) := hid ⟨HW.out.1.trans (hb1.mono (by omega)), (hb1.block _ (by omega)).trans HW.out.2, ho⟩
  have hst1 := zero_st HB1.out.2.1
  have hw1 := hb1.size
  clear HFR ho hb1 hwA
  by_cases he : ee = 0
  · subst he
    by_cases hlong : nn < n0
    · have HD := hid (get_long HG.out (by rw [HN0.out]; exact hlong))
      go_wp2_with fail
      refine bodyPost_ret (results_msg rfl _ _ w.heap.size _ _ _ rfl HB1.out.2.1 rfl) rfl ?_
      exact get_zero (w0 := w) HD.out HB1.out.1
    · have HNL : Hid (¬ nn < l.length) := hid (by rw [HN0.out]; exact hlong)
      obtain ⟨v0, v1, v2, s1, s2, s3, hh⟩ := hd3_of p
      have hrd := refReader_any w1.heap.size A1 c1 p (by omega) w1 HB1.out.2.2.reads (Nat.le_refl _)
      have HRD := hid hrd
      have HH := hid hh
      have hps : Pk.St.small ⟨p, false⟩ := HB1.out.2.2.small
      have hi0 : InInt v0 := by have := Pk.rdInt_in ⟨p, false⟩ hps; rw [hh.q0] at this; exact this
      have hps1 : s1.small := by have := Pk.rdInt_small ⟨p, false⟩ hps; rw [hh.q0] at this; exact this
      have hi1 : InInt v1 := by have := Pk.rdInt_in s1 hps1; rw [hh.q1] at this; exact this
      have hps2 : s2.small := by have := Pk.rdInt_small s1 hps1; rw [hh.q1] at this; exact this
      have hi2 : InInt v2 := by have := Pk.rdInt_in s2 hps2; rw [hh.q2] at this; exact this
      have HNUM := hid (m3_num hi0 hi1 hi2)
      clear hrd hh hst1 hps hi0 hps1 hi1 hps2 hi2
      go_wp2_with fail
      refine HRD.out.mono ?_
      rintro e w2 ⟨rfl, hR2, hb2⟩
      obtain ⟨w3, hw3⟩ : ∃ w3, w3 = w2.alloc (.cells #[.int .i64 0, .int .i64 0, .int .i64 0, .int .i64 0, .int .i64 0, .int .i64 0, .int .i64 0, .int .i64 0, .int .i64 0, .int .i64 0, .int .i64 0, .int .i64 0, .int .i64 0, .int .i64 0, .bool false, .slice none 0 0, .slice none 0 0] 25) := ⟨_, rfl⟩
      have hb3 : Below w2.heap.size w2 w3 := by rw [hw3]; exact (Below.refl _ w2).alloc (Nat.le_refl _) _
      have hz3 : Zero w3 w2.heap.size := by rw [hw3]; exact heap_alloc_new w2 _
      have hst3 := zero_st hz3
      have hgr : w1.heap.size < w2.heap.size := hR2.top_.1
      have HG3 : Hid (Gt w w3 w1.heap.size w2.heap.size p M0 0 false) := hid ⟨HB1.out.1.trans ((hb2.mono HB1.out.1.size).trans (hb3.mono (by omega))), (hb3.block _ (by omega)).trans ((hb2.block _ (by omega)).trans HB1.out.2.1), zero_bx hz3, hR2.below hb3, ⟨by omega, hgr, by rw [hw3]; simp⟩⟩
      have hin := HG3.out.int
      rw [stOf_new, HH.out.q0] at hin
      dsimp only at hin
      have HI0 := hid hin
      rw [hw3] at hst3
      clear HRD hR2 hb2 hb3 hz3 hin
      go_wp2_with fail
      rw [← hw3]
      clear hst3 hw3
      generalize w1.heap.size = gr at *
      generalize w2.heap.size = gm at *
      refine HI0.out.mono ?_
      rintro e w4 ⟨a4, b4, rfl, h4, hs4⟩
      have hc0 : w4.cell? ⟨gm, 0, none⟩ = some (.int .i64 0) := h4.box.cell 0
      have hf0 := row_free h4.box.row 0
      obtain ⟨w5, hw5⟩ : ∃ w5, w5 = w4.setCell ⟨gm, 0, none⟩ (.int .i64 v0) := ⟨_, rfl⟩
      have h5 : Gt w w5 gr gm p { M0 with K := v0 } a4 b4 := by rw [hw5]; exact h4.set_ 0 _ _ rfl
      have hin := h5.int
      rw [hs4, HH.out.q1] at hin
      dsimp only at hin
      have HI1 := hid hin
      clear h4 hs4 h5 hin HI0 HG3
      go_wp2_with fail
      rw [← hw5]
      clear hw5 hc0 hf0
      refine HI1.out.mono ?_
      rintro e w6 ⟨a6, b6, rfl, h6, hs6⟩
      have hc1 : w6.cell? ⟨gm, 1, none⟩ = some (.int .i64 0) := h6.box.cell 1
      have hf1 := row_free h6.box.row 1
      obtain ⟨w7, hw7⟩ : ∃ w7, w7 = w6.setCell ⟨gm, 1, none⟩ (.int .i64 v1) := ⟨_, rfl⟩
      have h7 : Gt w w7 gr gm p { M0 with K := v0, F := v1 } a6 b6 := by rw [hw7]; exact h6.set_ 1 _ _ rfl
      have hin := h7.int
      rw [hs6, HH.out.q2] at hin
      dsimp only at hin
      have HI2 := hid hin
      clear h6 hs6 h7 hin HI1
      go_wp2_with fail
      rw [← hw7]
      clear hw7 hc1 hf1
      refine HI2.out.mono ?_
      rintro e w8 ⟨a8, b8, rfl, h8, hs8⟩
      have hc2 : w8.cell? ⟨gm, 2, none⟩ = some (.int .i64 0) := h8.box.cell 2
      have hf2 := row_free h8.box.row 2
      obtain ⟨w9, hw9⟩ : ∃ w9, w9 = w8.setCell ⟨gm, 2, none⟩ (.int .i64 v2) := ⟨_, rfl⟩
      obtain ⟨m3, hm3⟩ : ∃ m3 : M, m3 = { M0 with K := v0, F := v1, T := v2 } := ⟨_, rfl⟩
      have h9 : Gt w w9 gr gm p m3 a8 b8 := by rw [hw9, hm3]; exact h8.set_ 2 _ _ rfl
      have HH3 : Hid (head3 p = (m3, stOf p a8 b8)) := hid (by rw [hs8, hm3]; exact HH.out.h)
      have HNM : Hid ((∀ r ∈ nums, InInt (m3.num r)) ∧ m3.es = [] ∧ m3.d = []) := hid (by rw [hm3]; exact ⟨HNUM.out, rfl, rfl⟩)
      have H9 := hid h9
      have hbad := h9.badC
      have hst9 := zero_st h9.zero
      clear h8 hs8 h9 HI2 hm3 HNUM HH
      go_upto_region 11 with fail
      rw [← hw9]
      clear hw9 hc2 hf2
      cases b8
      · have HB := HH3.out
        have hcK := H9.out.box.c0
        obtain ⟨ik, hik⟩ : ∃ ik, ik = m3.isKind := ⟨_, rfl⟩
        have HIK := hid hik
        have hHas := has_any m3.K w9
        obtain ⟨n, hn⟩ : ∃ n, n = (hasL m3.K).length := ⟨_, rfl⟩
        rw [← hn] at hHas
        have HAS := hid hHas
        cases ik
        · have hn0 : n = 0 := by
            have : ¬ (1 ≤ m3.K ∧ m3.K ≤ 11) := fun e => by unfold M.isKind at hik; simp [e.1, e.2] at hik
            rw [hn]; unfold hasL; rw [if_neg this]; rfl
          subst hn0
          have HD := hid (dec_kind HH3.out rfl HIK.out.symm)
          have HDD := hid (get_dec HG.out HNL.out HD.out (by decide))
          clear hik hn hHas HB hst9
          go_wp2_with fail
          refine HAS.out.mono ?_
          rintro e w10 ⟨A10, c10, rfl, _, _, hb10⟩
          have H10 := hid (H9.out.below hb10)
          have hst10 := zero_st H10.out.zero
          clear hb10
          go_wp2_with fail
          refine bodyPost_ret (results_msg rfl _ _ w.heap.size _ _ _ rfl H10.out.zero rfl) rfl ?_
          exact get_zero (w0 := w) HDD.out H10.out.bel
        · have hK : 1 ≤ m3.K ∧ m3.K ≤ 11 := by unfold M.isKind at hik; simpa using hik.symm
          have hn1 : 1 ≤ n := by rw [hn]; exact (has_len m3.K hK).2
          have hn2 : ¬ (n : Int) = 0 := by omega
          have HK := hid hK
          clear hik hn hHas HB hst9 hK
          go_wp2_with fail
          refine HAS.out.mono ?_
          rintro e w10 ⟨A10, c10, rfl, _, _, hb10⟩
          have H10 := hid (H9.out.below hb10)
          have hrr := rread_any m3 w10 gr gm p a8 false H10.out.rdr HK.out HNM.out.2.1 HNM.out.2.2 HNM.out.1
          have HR := hid hrr
          have hld10 := H10.out.box.load
          clear hb10 hrr hcK hbad
          go_wp2_with fail
          refine HR.out.mono ?_
          rintro e w11 ⟨m', A, c, A', c', v, rfl, hom, hg11, hv1, hv2⟩
          have hrow : w11.heap[gm]? = _ := (hg11.block _ (row_lt H10.out.box.row) (fun e => by injection e; have := H10.out.lt; omega)).trans H10.out.box.row
          have hz11 : Zero w11 w.heap.size := (hg11.block _ (row_lt H10.out.zero) (fun e => by injection e; have := H10.out.lt; omega)).trans H10.out.zero
          have hst11 := st_row w11 gm _ (#[.int .i64 m'.K, .int .i64 m'.F, .int .i64 m'.T, .int .i64 m'.g, .int .i64 m'.t, .int .i64 m'.i, .int .i64 m'.p, .int .i64 m'.c, .int .i64 m'.r, .int .i64 m'.x, .int .i64 m'.a, .int .i64 m'.b, .int .i64 m'.v, .int .i64 m'.s, .bool m'.ok, .slice A m'.es.length c, .slice A' m'.d.length c']) hrow rfl rfl (msg_one m' A c A' c')
          obtain ⟨w12, hw12⟩ : ∃ w12, w12 = w11.setRow gm (#[.int .i64 m'.K, .int .i64 m'.F, .int .i64 m'.T, .int .i64 m'.g, .int .i64 m'.t, .int .i64 m'.i, .int .i64 m'.p, .int .i64 m'.c, .int .i64 m'.r, .int .i64 m'.x, .int .i64 m'.a, .int .i64 m'.b, .int .i64 m'.v, .int .i64 m'.s, .bool m'.ok, .slice A m'.es.length c, .slice A' m'.d.length c']) := ⟨_, rfl⟩
          have htu : Turned (fun k => k = gm) w11 w12 := by rw [hw12]; exact set_turned w11 gm _
          have hx12 : Bx w12 gm m' A c A' c' := ⟨by rw [hw12]; exact setRow_heap _ _ _ _ _ _ hrow⟩
          have hl10 := H10.out.lt
          have hz12 : Zero w12 w.heap.size := (htu.block _ (row_lt hz11) (by omega)).trans hz11
          have hb11 : Below w.heap.size w w11 := H10.out.bel.trans (below_grown hg11 H10.out.bel.size (fun k hk => by injection hk with hk; omega))
          have hb12 : Below w.heap.size w w12 := hb11.trans (htu.below hb11.size (fun k hk => by omega))
          have hom12 : OwnM w12 w10.heap.size m' A c A' c' := hom.turned htu hl10.2.2
          rw [← hw12] at hst11
          have HX := hid (And.intro hx12 (And.intro hz12 (And.intro hb12 (And.intro hom12 hl10))))
          have HV := hid (And.intro hv1 hv2)
          clear hw12 htu hx12 hl10 hz12 hz11 hb11 hb12 hom12 hom hg11 hrow hv1 hv2 HR hn1 hn2 hld10
          cases v
          · have HD := hid (dec_ends HH3.out rfl HIK.out.symm (HV.out.2 rfl))
            have HDD := hid (get_dec HG.out HNL.out HD.out (by decide))
            have hst12 := zero_st HX.out.2.1
            go_wp2_with fail
            refine bodyPost_ret (results_msg rfl _ _ w.heap.size _ _ _ rfl HX.out.2.1 rfl) rfl ?_
            exact get_zero (w0 := w) HDD.out HX.out.2.2.1
          · obtain ⟨s9, hs9, hov⟩ := HV.out.1 rfl
            have hd := dec_some HH3.out rfl HIK.out.symm hs9 hov
            have hsm := dec_small p hpl
            rw [hd] at hsm
            have hsm2 : Small m' := hsm
            have HD := hid hd
            have HCK := hid (rcheck_any m' A c A' c' w12 HX.out.2.2.2.1.is hsm2)
            have hld12 := HX.out.1.load
            clear hs9 hov hd hsm hsm2
            go_wp2_with fail
            refine HCK.out.mono ?_
            rintro e w13 ⟨rfl, hb13⟩
            have hz13 : Zero w13 w.heap.size := (hb13.block _ (row_lt HX.out.2.1)).trans HX.out.2.1
            have hst13 := zero_st hz13
            have HZ := hid (And.intro hz13 (HX.out.2.2.1.trans (hb13.mono HX.out.2.2.1.size)))
            by_cases hck : check m' = 0
            · have HDD := hid (get_ok HG.out HNL.out HD.out hck)
              have hx13 := HX.out.1.below hb13 (row_lt HX.out.1.row)
              have hld13 := hx13.load
              have hst14 := st_row w13 w.heap.size _ (#[.int .i64 m'.K, .int .i64 m'.F, .int .i64 m'.T, .int .i64 m'.g, .int .i64 m'.t, .int .i64 m'.i, .int .i64 m'.p, .int .i64 m'.c, .int .i64 m'.r, .int .i64 m'.x, .int .i64 m'.a, .int .i64 m'.b, .int .i64 m'.v, .int .i64 m'.s, .bool m'.ok, .slice A m'.es.length c, .slice A' m'.d.length c']) hz13 rfl rfl (msg_one m' A c A' c')
              have htu := set_turned w13 w.heap.size #[.int .i64 m'.K, .int .i64 m'.F, .int .i64 m'.T, .int .i64 m'.g, .int .i64 m'.t, .int .i64 m'.i, .int .i64 m'.p, .int .i64 m'.c, .int .i64 m'.r, .int .i64 m'.x, .int .i64 m'.a, .int .i64 m'.b, .int .i64 m'.v, .int .i64 m'.s, .bool m'.ok, .slice A m'.es.length c, .slice A' m'.d.length c']
              have hro : (w13.setRow w.heap.size #[.int .i64 m'.K, .int .i64 m'.F, .int .i64 m'.T, .int .i64 m'.g, .int .i64 m'.t, .int .i64 m'.i, .int .i64 m'.p, .int .i64 m'.c, .int .i64 m'.r, .int .i64 m'.x, .int .i64 m'.a, .int .i64 m'.b, .int .i64 m'.v, .int .i64 m'.s, .bool m'.ok, .slice A m'.es.length c, .slice A' m'.d.length c']).heap[w.heap.size]? = some (.cells #[.int .i64 m'.K, .int .i64 m'.F, .int .i64 m'.T, .int .i64 m'.g, .int .i64 m'.t, .int .i64 m'.i, .int .i64 m'.p, .int .i64 m'.c, .int .i64 m'.r, .int .i64 m'.x, .int .i64 m'.a, .int .i64 m'.b, .int .i64 m'.v, .int .i64 m'.s, .bool m'.ok, .slice A m'.es.length c, .slice A' m'.d.length c'] 25 (0, 0)) := setRow_heap w13 w.heap.size _ _ _ _ hz13
              have hl := HX.out.2.2.2.2
              have hb10 := H10.out.bel.size
              have hom14 := ((HX.out.2.2.2.1.below hb13).turned htu (by omega)).weaken (B' := w.heap.size) hb10
              have HE := hid (And.intro hro (And.intro hom14 (HZ.out.2.trans (htu.below HZ.out.2.size (fun k hk => by omega)))))
              rw [hck]
              clear hz13 hb13 hst13 htu hro hom14 hx13 hck hl hb10 hld12 hst11
              generalize (w13.setRow w.heap.size #[.int .i64 m'.K, .int .i64 m'.F, .int .i64 m'.T, .int .i64 m'.g, .int .i64 m'.t, .int .i64 m'.i, .int .i64 m'.p, .int .i64 m'.c, .int .i64 m'.r, .int .i64 m'.x, .int .i64 m'.a, .int .i64 m'.b, .int .i64 m'.v, .int .i64 m'.s, .bool m'.ok, .slice A m'.es.length c, .slice A' m'.d.length c']) = w14 at hst14 HE
              go_wp2_with fail
              refine bodyPost_ret (results_msg rfl _ _ w.heap.size _ _ _ rfl HE.out.1 rfl) rfl ?_
              rw [HDD.out]
              exact ⟨A, c, A', c', rfl, HE.out.2.1, HE.out.2.2⟩
            · have HDD := hid (get_check HG.out HNL.out HD.out hck)
              clear hz13 hb13 hst11 hld12
              go_wp2_with fail
              refine bodyPost_ret (results_msg rfl _ _ w.heap.size _ _ _ rfl HZ.out.1 rfl) rfl ?_
              exact get_zero (w0 := w) HDD.out HZ.out.2
      · have HD := hid (dec_bad HH3.out rfl)
        have HDD := hid (get_dec HG.out HNL.out HD.out (by decide))
        go_wp2_with fail
        refine bodyPost_ret (results_msg rfl _ _ w.heap.size _ _ _ rfl H9.out.zero rfl) rfl ?_
        exact get_zero (w0 := w) HDD.out H9.out.bel
  · have HD := hid (get_frame HG.out he)
    go_wp2_with fail
    refine bodyPost_ret (results_msg rfl _ _ w.heap.size _ _ _ rfl HB1.out.2.1 rfl) rfl ?_
    exact get_zero (w0 := w) HD.out HB1.out.1
end Go.Proofs.YtpigekbfngalbaaDoor.Ms
