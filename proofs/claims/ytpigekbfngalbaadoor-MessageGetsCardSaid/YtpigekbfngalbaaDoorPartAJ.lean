/- Texts of the proof, one behind the other: MsL, MsMath2. -/
import Derived.Test.YtpigekbfngalbaaDoorPartAI
namespace Go.Proofs.YtpigekbfngalbaaDoor.Ms
open Go.RowKit
set_option maxRecDepth 100000
set_option linter.unusedVariables false
attribute [local go_sem ↓] loadAt_msg storeAt_msg

/-- any field; of Entries and Data a kind has one at the most -/
theorem getField_any (w0 W : World) (B gm gr lo : Nat) (m : M) (s : Pk.St) (A : Option Addr) (c : Nat) (A' : Option Addr) (c' N : Nat) (h : Rd w0 W B gm gr lo m s A c A' c' N) (hN : N ≤ 50000) (r : Nat) (hr : r ∈ nums ∨ r = 111 ∨ r = 101 ∨ r = 100) (hd : r = 101 → A' = none ∧ c' = 0) :
    Calls Tryd.prog 74 #[.pointer (some ⟨gr, 0, none⟩), .pointer (some ⟨gm, 0, none⟩), .int .i32 (r : Int)] W fun e w' => Told w0 W B gm gr lo N A c A' c' r (rdF m s r) e w' := by
  rcases hr with hr | rfl | rfl | rfl
  · exact getNum_any w0 W B gm gr lo m s A c A' c' N h r hr
  · exact getOk_any w0 W B gm gr lo m s A c A' c' N h
  · exact getEs_any w0 W B gm gr lo m s A c A' c' N h hN (hd rfl)
  · exact getData_any w0 W B gm gr lo m s A c A' c' N h
/-- the message's box that a call tells -/
theorem results_msg {fn : Func} {p q : Tmp} (h : fn.results = #[.cell p 25, .tmp q]) (tmps : Array Value) (w : World) (g : Nat) (t : TypeId) (cs : Array Value) (fr : Nat × Nat)
    (hp : tmps.getD p undef = .pointer (some ⟨g, 0, none⟩)) (hg : w.heap[g]? = some (.cells cs t fr)) (hs : cs.size = 17) :
    (results fn tmps).run Tryd.prog w = .ok (.tuple #[.agg cs, tmps.getD q undef]) w := by
  have hl := run_loadVar_row w g t 25 cs fr _ hg Tryd.underlying25 rfl (by rw [info_msg, hs])
  have hp' : tmps[p]?.getD undef = .pointer (some ⟨g, 0, none⟩) := by simpa using hp
  simp [results, h, hp', asAddr, hl]
theorem st_row (w : World) (b : Nat) (cs cs' : Array Value) (hg : w.heap[b]? = some (.cells cs 25 (0, 0))) (h : cs.size = 17) (h' : cs'.size = 17) (h1 : cs'.all (·.oneCell') = true) : (stMsg (.pointer (some ⟨b, 0, none⟩)) (.agg cs')).run Tryd.prog w = .ok () (w.setRow b cs') :=
  run_storeVar_row w b _ _ cs cs' hg (by rw [info_msg, h']) (by rw [h, h']) h1
theorem st_same (w : World) (b : Nat) (cs : Array Value) (hg : w.heap[b]? = some (.cells cs 25 (0, 0))) (h : cs.size = 17) (h1 : cs.all (·.oneCell') = true) : (stMsg (.pointer (some ⟨b, 0, none⟩)) (.agg cs)).run Tryd.prog w = .ok () w := by
  have := st_row w b cs cs hg h h h1
  rw [setRow_self w b cs _ _ hg] at this
  exact this
/-- the message nought: its cells as the walk spells them -/
def Zero (w : World) (b : Nat) : Prop := w.heap[b]? = some (.cells #[.int .i64 0, .int .i64 0, .int .i64 0, .int .i64 0, .int .i64 0, .int .i64 0, .int .i64 0, .int .i64 0, .int .i64 0, .int .i64 0, .int .i64 0, .int .i64 0, .int .i64 0, .int .i64 0, .bool false, .slice none 0 0, .slice none 0 0] 25 (0, 0))
theorem zero_bx {w : World} {b : Nat} (h : Zero w b) : Bx w b M0 none 0 none 0 := ⟨h⟩
theorem zero_st {w : World} {b : Nat} (h : Zero w b) : (stMsg (.pointer (some ⟨b, 0, none⟩)) (.agg #[.int .i64 0, .int .i64 0, .int .i64 0, .int .i64 0, .int .i64 0, .int .i64 0, .int .i64 0, .int .i64 0, .int .i64 0, .int .i64 0, .int .i64 0, .int .i64 0, .int .i64 0, .int .i64 0, .bool false, .slice none 0 0, .slice none 0 0])).run Tryd.prog w = .ok () w :=
  st_same w b _ h rfl (by simp [Value.oneCell'])
theorem msg_one (m : M) (A : Option Addr) (c : Nat) (A' : Option Addr) (c' : Nat) : (#[.int .i64 m.K, .int .i64 m.F, .int .i64 m.T, .int .i64 m.g, .int .i64 m.t, .int .i64 m.i, .int .i64 m.p, .int .i64 m.c, .int .i64 m.r, .int .i64 m.x, .int .i64 m.a, .int .i64 m.b, .int .i64 m.v, .int .i64 m.s, .bool m.ok, .slice A m.es.length c, .slice A' m.d.length c'] : Array Value).all (·.oneCell') = true := by simp [Value.oneCell']
theorem set_turned (w : World) (b : Nat) (cs : Array Value) : Turned (fun k => k = b) w (w.setRow b cs) := ⟨rfl, rfl, rfl, by simp, fun k _ hk => setRow_other w b k cs hk⟩
/-- a message that the call has made -/
structure OwnM (w : World) (B : Nat) (m : M) (A : Option Addr) (c : Nat) (A' : Option Addr) (c' : Nat) : Prop where
  num : ∀ r ∈ nums, InInt (m.num r)
  es : OwnE w B w.heap.size A c m.es
  d : OwnsB 5 w B A' c' m.d
  one : (A = none ∧ c = 0) ∨ (A' = none ∧ c' = 0)
  few : m.es.length ≤ 50000
theorem M0_num : ∀ r ∈ nums, InInt (M0.num r) := by
  intro r hr
  simp only [nums, List.mem_cons, List.not_mem_nil, or_false] at hr
  rcases hr with rfl | rfl | rfl | rfl | rfl | rfl | rfl | rfl | rfl | rfl | rfl | rfl | rfl | rfl <;> exact ⟨by decide, by decide⟩
theorem OwnM.zero (w : World) (B : Nat) : OwnM w B M0 none 0 none 0 := ⟨M0_num, OwnE.nil _ _ _, OwnsB.nil _ _ _, .inl ⟨rfl, rfl⟩, Nat.zero_le _⟩
theorem Rd.start {w0 W : World} {B gm gr : Nat} (hb : Below B w0 W) (hx : Zero W gm) {l : List Nat} (hr : Rdr W gr ⟨l, false⟩) (hB : B ≤ gm) (hg : gm < gr) (hl : l.length ≤ 65536) : Rd w0 W B gm gr W.heap.size M0 ⟨l, false⟩ none 0 none 0 0 :=
  ⟨hb, zero_bx hx, hr, ⟨hB, hg, hr.lt, Nat.le_refl _⟩, OwnE.nil _ _ _, OwnsB.nil _ _ _, M0_num, Nat.le_refl _, hl⟩
/-- an iterator is made, ahead of which nothing is owned -/
theorem Rd.iter {w0 W : World} {B gm gr lo : Nat} {m : M} {s : Pk.St} {N : Nat} (h : Rd w0 W B gm gr lo m s none 0 none 0 N) (x : ByteArray) : Rd w0 (W.iter x 0) B gm gr (W.heap.size + 1) m s none 0 none 0 N := by
  have hl := h.lt
  have hb : Below W.heap.size W (W.iter x 0) := (iter_at W x).2
  have hs : (W.iter x 0).heap.size = W.heap.size + 1 := by show (W.heap.push _).size = _; simp
  have he : m.es = [] := by
    rcases hh : m.es with _ | ⟨e, L⟩
    · rfl
    · obtain ⟨b, off, e, _⟩ := h.es.reads.cells 0 (by rw [hh]; simp)
      cases e
  have hd : m.d = [] := h.d.reads.of_none
  refine ⟨h.bel.trans (hb.mono (by omega)), h.box.below hb (by omega), h.rdr.below (hb.mono (by omega)), ⟨hl.1, hl.2.1, by omega, by rw [hs]; exact Nat.le_refl _⟩, ?_, ?_, h.num, h.few, h.short⟩
  · rw [he]; exact OwnE.nil _ _ _
  · rw [hd]; exact OwnsB.nil _ _ _
theorem Rd.iterAt {w0 W : World} {B gm gr lo : Nat} {m : M} {s : Pk.St} {A A' : Option Addr} {c c' N : Nat} (h : Rd w0 W B gm gr lo m s A c A' c' N) {k pos : Nat} {x : ByteArray} (hk : W.heap[k]? = some (.stringIter x pos)) (h1 : gr < k) (h2 : k < lo) (p2 : Nat) : Rd w0 (W.iterAt k x p2) B gm gr lo m s A c A' c' N := by
  have hl := h.lt
  have hs := Lib.iterAt_size W k x p2
  have ht : Turned (fun j => j = k) W (W.iterAt k x p2) := ⟨rfl, rfl, rfl, by rw [hs]; exact Nat.le_refl _, fun j _ hj => Lib.iterAt_other W k j x p2 hj⟩
  refine ⟨Lib.below_iterAt h.bel (by omega) x p2, ⟨(Lib.iterAt_other W k gm x p2 (by omega)).trans h.box.row⟩, h.rdr.below (Lib.below_iterAt (Below.refl _ W) (by omega) x p2), ⟨hl.1, hl.2.1, hl.2.2.1, by rw [hs]; exact hl.2.2.2⟩, ?_, own_iterAt h.d hk, h.num, h.few, h.short⟩
  exact (h.es.keep ht (fun j hj hB => by have := hB.1; omega)).wide (Nat.le_refl _) (by rw [hs]; exact Nat.le_refl _)
/-! The fields, one by one. -/
theorem rdFs_snoc (L : List Nat) (r : Nat) : ∀ (m : M) (s : Pk.St), rdFs (L ++ [r]) m s = match rdFs L m s with | none => none | some (m', s') => rdF m' s' r := by
  induction L with
  | nil =>
    intro m s
    show (match rdF m s r with | none => none | some (m', s') => rdFs [] m' s') = rdF m s r
    rcases rdF m s r with _ | ⟨m', s'⟩ <;> rfl
  | cons q L ih =>
    intro m s
    show (match rdF m s q with | none => none | some (m', s') => rdFs (L ++ [r]) m' s') = match (match rdF m s q with | none => none | some (m', s') => rdFs L m' s') with | none => none | some (m', s') => rdF m' s' r
    rcases rdF m s q with _ | ⟨m', s'⟩
    · rfl
    · exact ih m' s'
theorem rdFs_none (L K : List Nat) : ∀ (m : M) (s : Pk.St), rdFs L m s = none → rdFs (L ++ K) m s = none := by
  induction L with
  | nil => intro m s h; cases h
  | cons q L ih =>
    intro m s h
    show (match rdF m s q with | none => none | some (m', s') => rdFs (L ++ K) m' s') = none
    have h' : (match rdF m s q with | none => none | some (m', s') => rdFs L m' s') = none := h
    rcases hq : rdF m s q with _ | ⟨m', s'⟩
    · rfl
    · rw [hq] at h'; exact ih m' s' h'
theorem rdFs_at {L : List Nat} {j : Nat} (hj : j < L.length) {m0 m : M} {s0 s : Pk.St} (h : rdFs (L.take j) m0 s0 = some (m, s)) : rdFs (L.take (j + 1)) m0 s0 = rdF m s L[j] := by
  rw [List.take_succ_eq_append_getElem hj, rdFs_snoc, h]
theorem rdFs_stop {L : List Nat} {j : Nat} (hj : j < L.length) {m0 m : M} {s0 s : Pk.St} (h : rdFs (L.take j) m0 s0 = some (m, s)) (hn : rdF m s L[j] = none) : rdFs L m0 s0 = none := by
  have := rdFs_none (L.take (j + 1)) (L.drop (j + 1)) m0 s0 (by rw [rdFs_at hj h, hn])
  rwa [List.take_append_drop] at this
theorem rdFs_head (l : List Nat) : rdFs head M0 ⟨l, false⟩ = some (head3 l) := rfl
theorem rdF_num (m : M) (s : Pk.St) (r : Nat) (hr : r ∈ nums) : rdF m s r = some (m.set r (Pk.rdInt s).1, (Pk.rdInt s).2) := by
  have : r ≠ 111 ∧ r ≠ 101 ∧ r ≠ 100 := by
    simp only [nums, List.mem_cons, List.not_mem_nil, or_false] at hr
    omega
  unfold rdF; rw [if_neg this.1, if_neg this.2.1, if_neg this.2.2]
theorem head_num : ∀ r ∈ head, r ∈ nums := by decide
theorem head_small : ∀ r ∈ head, r < 128 := by decide
theorem tab_one (k : Nat) : 101 ∈ tab k → 100 ∉ tab k := by
  unfold tab
  split <;> decide
theorem strOf_head : ByteArray.mk #[75, 70, 84] = strOf head := rfl

theorem Rd.few_le {w0 W : World} {B gm gr lo : Nat} {m : M} {s : Pk.St} {A A' : Option Addr} {c c' N N' : Nat} (h : Rd w0 W B gm gr lo m s A c A' c' N) (hN : N ≤ N') : Rd w0 W B gm gr lo m s A c A' c' N' :=
  ⟨h.bel, h.box, h.rdr, h.lt, h.es, h.d, h.num, Nat.le_trans h.few hN, h.short⟩
theorem dec_bad {l : List Nat} {m : M} {s : Pk.St} (h : head3 l = (m, s)) (hb : s.bad = true) : dec l = (M0, 4) := by
  unfold dec; rw [h, if_pos hb]
theorem dec_kind {l : List Nat} {m : M} {s : Pk.St} (h : head3 l = (m, s)) (hb : s.bad = false) (hk : m.isKind = false) : dec l = (M0, 13) := by
  unfold dec; rw [h, if_neg (by simp [hb]), if_pos hk]
theorem dec_none {l : List Nat} {m : M} {s : Pk.St} (h : head3 l = (m, s)) (hb : s.bad = false) (hk : m.isKind = true) (hr : rdFs (tab m.kind) m s = none) : dec l = (M0, 4) := by
  unfold dec body; rw [h, if_neg (by simp [hb]), if_neg (by simp [hk]), hr]
theorem dec_left {l : List Nat} {m m1 : M} {s s1 : Pk.St} (h : head3 l = (m, s)) (hb : s.bad = false) (hk : m.isKind = true) (hr : rdFs (tab m.kind) m s = some (m1, s1)) (ho : over s1 = false) : dec l = (M0, 4) := by
  unfold dec body; rw [h, if_neg (by simp [hb]), if_neg (by simp [hk]), hr]; simp [ho]
theorem dec_some {l : List Nat} {m m1 : M} {s s1 : Pk.St} (h : head3 l = (m, s)) (hb : s.bad = false) (hk : m.isKind = true) (hr : rdFs (tab m.kind) m s = some (m1, s1)) (ho : over s1 = true) : dec l = (m1, 0) := by
  unfold dec body; rw [h, if_neg (by simp [hb]), if_neg (by simp [hk]), hr]; simp [ho]
theorem over_end (s : Pk.St) : (endOf s = 0 → over s = true) ∧ (endOf s ≠ 0 → over s = false) := by
  unfold endOf over
  rcases hb : s.bad with _ | _
  · by_cases h : s.rest.length = 0
    · simp [h]
    · have : 0 < s.rest.length := by omega
      simp [this, List.length_pos_iff.1 this]
  · simp
/-- the box that is told, and the message that is told in it -/
theorem done_zero {w0 w w' : World} {l : List Nat} {n : Nat} (hd : dec l = (M0, n)) (hb : Below w.heap.size w w') :
    ∃ A c A' c', Ending.returned (.tuple #[.agg #[.int .i64 M0.K, .int .i64 M0.F, .int .i64 M0.T, .int .i64 M0.g, .int .i64 M0.t, .int .i64 M0.i, .int .i64 M0.p, .int .i64 M0.c, .int .i64 M0.r, .int .i64 M0.x, .int .i64 M0.a, .int .i64 M0.b, .int .i64 M0.v, .int .i64 M0.s, .bool M0.ok, .slice none M0.es.length 0, .slice none M0.d.length 0], .int .i64 (n : Int)]) = .returned (.tuple #[.agg #[.int .i64 ((dec l).1).K, .int .i64 ((dec l).1).F, .int .i64 ((dec l).1).T, .int .i64 ((dec l).1).g, .int .i64 ((dec l).1).t, .int .i64 ((dec l).1).i, .int .i64 ((dec l).1).p, .int .i64 ((dec l).1).c, .int .i64 ((dec l).1).r, .int .i64 ((dec l).1).x, .int .i64 ((dec l).1).a, .int .i64 ((dec l).1).b, .int .i64 ((dec l).1).v, .int .i64 ((dec l).1).s, .bool ((dec l).1).ok, .slice A ((dec l).1).es.length c, .slice A' ((dec l).1).d.length c'], .int .i64 (((dec l).2 : Nat) : Int)]) ∧ OwnM w' w.heap.size (dec l).1 A c A' c' ∧ Below w.heap.size w w' := by
  rw [hd]; exact ⟨none, 0, none, 0, rfl, OwnM.zero _ _, hb⟩
set_option maxHeartbeats 6400000 in
theorem decode_any (l : List Nat) (A0 : Option Addr) (c0 : Nat) (w : World) (h : IsBytes w w.heap.size A0 l) (hn : A0 = none → c0 = 0) (hl : l.length ≤ 65536) (hT : Tab w) :
    Calls Tryd.prog 50 #[.slice A0 l.length c0] w fun e w' => ∃ A c A' c', e = .returned (.tuple #[.agg #[.int .i64 ((dec l).1).K, .int .i64 ((dec l).1).F, .int .i64 ((dec l).1).T, .int .i64 ((dec l).1).g, .int .i64 ((dec l).1).t, .int .i64 ((dec l).1).i, .int .i64 ((dec l).1).p, .int .i64 ((dec l).1).c, .int .i64 ((dec l).1).r, .int .i64 ((dec l).1).x, .int .i64 ((dec l).1).a, .int .i64 ((dec l).1).b, .int .i64 ((dec l).1).v, .int .i64 ((dec l).1).s, .bool ((dec l).1).ok, .slice A ((dec l).1).es.length c, .slice A' ((dec l).1).d.length c'], .int .i64 (((dec l).2 : Nat) : Int)]) ∧ OwnM w' w.heap.size (dec l).1 A c A' c' ∧ Below w.heap.size w w' := by
  obtain ⟨wA, hwA⟩ : ∃ wA, wA = w.alloc (.cells #[.int .i64 0, .int .i64 0, .int .i64 0, .int .i64 0, .int .i64 0, .int .i64 0, .int .i64 0, .int .i64 0, .int .i64 0, .int .i64 0, .int .i64 0, .int .i64 0, .int .i64 0, .int .i64 0, .bool false, .slice none 0 0, .slice none 0 0] 25) := ⟨_, rfl⟩
  obtain ⟨wB, hwB⟩ : ∃ wB, wB = wA.alloc (.cells #[.int .i64 0, .int .i64 0, .int .i64 0, .int .i64 0, .int .i64 0, .int .i64 0, .int .i64 0, .int .i64 0, .int .i64 0, .int .i64 0, .int .i64 0, .int .i64 0, .int .i64 0, .int .i64 0, .bool false, .slice none 0 0, .slice none 0 0] 25) := ⟨_, rfl⟩
  have hsA : wA.heap.size = w.heap.size + 1 := by rw [hwA]; simp
  have hsB : wB.heap.size = w.heap.size + 2 := by rw [hwB]; simp [hsA]
  have hbA : Below w.heap.size w wA := by rw [hwA]; exact (Below.refl _ w).alloc (Nat.le_refl _) _
  have hbB : Below wA.heap.size wA wB := by rw [hwB]; exact (Below.refl _ wA).alloc (Nat.le_refl _) _
  have hzA : Zero wA w.heap.size := by rw [hwA]; exact heap_alloc_new w _
  have hzB : Zero wB (w.heap.size + 1) := by rw [hwB, ← hsA]; exact heap_alloc_new wA _
  have hst := zero_st hzB
  have HRD := hid (packRead_any wB.heap.size A0 c0 l (by omega) wB ((h.below (hbA.trans (hbB.mono (by omega)))).more (by omega)) (Nat.le_refl _) hn)
  have HW := hid (And.intro hbA (And.intro hbB (And.intro hzA (And.intro hzB (And.intro hsA hsB)))))
  have HT := hid hT
  have HL := hid hl
  have hpos := hT.pos
  go_enter Tryd.func50, Tryd.ntmps50
  rw [hwB, hwA] at hst
  clear hbA hbB hzA hzB h hT hl hn
  go_wp2_with fail
  rw [← hwA, ← hwB]
  have HST := hid hst
  clear hst
  refine HRD.out.mono ?_
  rintro e w2 ⟨gr, rfl, hgr, hR, hb2⟩
  have hbz : Below wA.heap.size wA w2 := HW.out.2.1.trans (hb2.mono (by omega))
  have HZ2 : Hid (Zero w2 (w.heap.size + 1)) := hid ((hb2.block _ (by omega)).trans HW.out.2.2.2.1)
  have hR0 := Rd.start (w0 := wA) (B := wA.heap.size) (gm := w.heap.size + 1) hbz HZ2.out hR (by omega) (by omega) HL.out
  have HR0 := hid (And.intro (hR0.iter (strOf head)) (iter_at w2 (strOf head)))
  have hgr2 := hR.lt
  clear HRD hb2 hbz hR0 hR HZ2
  go_wp2_with fail
  rw [strOf_head]
  generalize (w2.iter (strOf head) 0) = w3 at HR0 ⊢
  go_loopw [7] (fun _ wr => ∃ pos : Nat, ∃ m : M, ∃ s : Pk.St, pos ≤ 3 ∧ Hid (rdFs (head.take pos) M0 ⟨l, false⟩ = some (m, s)) ∧ Hid (Rd wA wr wA.heap.size (w.heap.size + 1) gr (w2.heap.size + 1) m s none 0 none 0 (3000 * pos)) ∧ Hid (wr.heap[w2.heap.size]? = some (.stringIter (strOf head) pos))) (fun _ wr => 3 - wr.iterPos w2.heap.size)
  case atStart => exact ⟨0, M0, ⟨l, false⟩, Nat.zero_le _, hid rfl, hid HR0.out.1, hid HR0.out.2.1⟩
  case round =>
    clear HR0
    obtain ⟨pos, m, s, hp3, HF, HR, HI⟩ := hrel
    by_cases hp : pos < head.length
    · have hnx : ∀ ty, (Instr.next (.pointer (some ⟨w2.heap.size, 0, none⟩)) true ty).run Tryd.prog wr = _ := fun ty => next_at wr w2.heap.size head head_small pos ty HI.out hp
      have hiI := Lib.iterAt_heap wr w2.heap.size (strOf head) pos (pos + 1) HI.out
      have hRI := HR.out.iterAt HI.out hgr2 (Nat.lt_succ_self _) (pos + 1)
      obtain ⟨wi, hwi⟩ : ∃ wi, wi = wr.iterAt w2.heap.size (strOf head) (pos + 1) := ⟨_, rfl⟩
      rw [← hwi] at hiI hRI
      rw [← hwi] at hnx
      have hq := head_num _ (List.getElem_mem hp)
      have HFN := hid (rdFs_at hp HF.out)
      have HX := hid (And.intro hiI hRI)
      have HP := hid hp
      have h3 : 3000 * pos ≤ 50000 := by have : head.length = 3 := rfl; omega
      clear hwi hiI hRI
      generalize head[pos] = q at hnx hq HFN
      rw [rdF_num m s q hq] at HFN
      have hg := getField_any wA wi wA.heap.size (w.heap.size + 1) gr (w2.heap.size + 1) m s none 0 none 0 (3000 * pos) HX.out.2 h3 q (Or.inl hq) (fun _ => ⟨rfl, rfl⟩)
      rw [rdF_num m s q hq] at hg
      have HG := hid hg
      have hq2 : q ≠ 101 ∧ q ≠ 100 := by
        simp only [nums, List.mem_cons, List.not_mem_nil, or_false] at hq
        omega
      have HQ2 := hid hq2
      clear hg hq hq2
      go_wp2_with fail
      refine HG.out.mono ?_
      rintro e w4 ⟨A2, c2, A3, c3, rfl, hrd, hkp, hA2, hA3⟩
      obtain ⟨rfl, rfl⟩ := hA2 HQ2.out.1
      obtain ⟨rfl, rfl⟩ := hA3 HQ2.out.2
      have HY := hid (And.intro hrd ((hkp.same w2.heap.size (Nat.lt_succ_self _) (row_lt HX.out.1) (by omega) (by omega)).trans HX.out.1))
      clear hrd hkp hnx hA2 hA3
      go_wp2_with fail
      go_roundw
      case rel => exact ⟨pos + 1, _, _, by have := HP.out; have : head.length = 3 := rfl; omega, HFN, hid HY.out.1, hid HY.out.2⟩
      case measure =>
        simp only [World.iterPos, HY.out.2, HI.out]
        have := HP.out
        have : head.length = 3 := rfl
        omega
    · obtain ⟨wo, rfl⟩ : ∃ wo : World, wo = wr := ⟨_, rfl⟩
      have hnx : ∀ ty, (Instr.next (.pointer (some ⟨w2.heap.size, 0, none⟩)) true ty).run Tryd.prog wo = _ := fun ty => next_end wo w2.heap.size head pos ty HI.out hp
      have hF2 := HF.out
      rw [List.take_of_length_le (by omega), rdFs_head] at hF2
      have HH3 := hid (Option.some.inj hF2)
      clear hF2
      have hbad := hid (bad_rdr gr s wo HR.out.rdr)
      have hzr : Zero wo w.heap.size := (HR.out.bel.block _ (by omega)).trans HW.out.2.2.1
      have hst1 := zero_st hzr
      have HZR := hid hzr
      have hc0 := HR.out.box.c0
      have hpos3 : pos = 3 := by have : head.length = 3 := rfl; omega
      have HRR := hid (HR.out.few_le (N' := 9000) (by omega))
      have HBW : Hid (∀ wz, Below wA.heap.size wA wz → Below w.heap.size w wz ∧ Zero wz w.heap.size) := hid fun wz hb => ⟨HW.out.1.trans (hb.mono (by omega)), (hb.block _ (by omega)).trans HW.out.2.2.1⟩
      clear HR hzr hp hpos3 hp3
      rcases hb : s.bad with _ | _
      · have HBAD := hid hb
        rw [hb] at hbad
        clear hb
        obtain ⟨b1, hb1⟩ : ∃ b, b = m.isKind := ⟨_, rfl⟩
        have H1 := hid hb1
        have HK := isKind_any m
        rw [← hb1] at HK
        have HKK := hid HK
        clear HK hb1
        go_wp2_with fail
        refine hbad.out.mono ?_
        rintro e w4 ⟨rfl, hw4⟩
        rw [← hw4]
        clear hw4
        go_wp2_with fail
        refine (HKK.out _).mono ?_
        rintro e w4 ⟨rfl, hw4⟩
        rw [hw4]
        clear hw4
        cases b1
        · go_wp2_with fail
          refine bodyPost_ret (results_msg rfl _ _ w.heap.size _ _ _ rfl HZR.out rfl) rfl ?_
          exact done_zero (w0 := w) (dec_kind HH3.out HBAD.out H1.out.symm) (HBW.out _ HRR.out.bel).1
        · obtain ⟨k, hK, hk1, hk2, hkind⟩ := kind_of H1.out.symm
          have k0 : 0 ≤ m.K := by omega
          have k12 : m.K < 12 := by omega
          have HM : Hid (m.kind = m.K.toNat ∧ m.K.toNat < 12) := ⟨rfl, by omega⟩
          have ht : wo.cell? ⟨0, m.K.toNat, none⟩ = some (.string (strOf (tab m.kind))) := (HT.out.below (HBW.out _ HRR.out.bel).1 hpos) _ HM.out.2
          have HR5 := hid (And.intro (HRR.out.iter (strOf (tab m.kind))) (iter_at wo (strOf (tab m.kind))))
          have hgr5 := HRR.out.rdr.lt
          clear hK hk1 hk2 hkind hst1
          go_wp2_with fail
          generalize (wo.iter (strOf (tab m.kind)) 0) = w5 at HR5 ⊢
          have hrsz : wo.heap.size = wo.heap.size := rfl
          go_loopw [9] (fun _ wr => ∃ (p : Nat) (m1 : M) (s1 : Pk.St) (A : Option Addr) (c : Nat) (A' : Option Addr) (c' : Nat), p ≤ 7 ∧ Hid (rdFs ((tab m.kind).take p) m s = some (m1, s1)) ∧ Hid (Rd wA wr wA.heap.size (w.heap.size + 1) gr (wo.heap.size + 1) m1 s1 A c A' c' (9000 + 3000 * p)) ∧ Hid (wr.heap[wo.heap.size]? = some (.stringIter (strOf (tab m.kind)) p)) ∧ Hid ((101 ∉ (tab m.kind).take p → A = none ∧ c = 0) ∧ (100 ∉ (tab m.kind).take p → A' = none ∧ c' = 0))) (fun _ wr => 7 - wr.iterPos wo.heap.size)
          case atStart => exact ⟨0, m, s, none, 0, none, 0, Nat.zero_le _, hid rfl, hid HR5.out.1, hid HR5.out.2.1, hid ⟨fun _ => ⟨rfl, rfl⟩, fun _ => ⟨rfl, rfl⟩⟩⟩
          case round =>
            clear HR5 ht hc0
            obtain ⟨p, m1, s1, A, c, A', c', hp7, HF5, HR5, HI5, HO5⟩ := hrel
            by_cases hp : p < (tab m.kind).length
            · have hnx : ∀ ty, (Instr.next (.pointer (some ⟨wo.heap.size, 0, none⟩)) true ty).run Tryd.prog wr = _ := fun ty => next_at wr wo.heap.size (tab m.kind) (tab_small _) p ty HI5.out hp
              have hiI := Lib.iterAt_heap wr wo.heap.size (strOf (tab m.kind)) p (p + 1) HI5.out
              have hRI := HR5.out.iterAt HI5.out hgr5 (Nat.lt_succ_self _) (p + 1)
              obtain ⟨wi, hwi⟩ : ∃ wi, wi = wr.iterAt wo.heap.size (strOf (tab m.kind)) (p + 1) := ⟨_, rfl⟩
              rw [← hwi] at hiI hRI
              rw [← hwi] at hnx
              have hq := tab_field _ _ (List.getElem_mem hp)
              have HFN := hid (rdFs_at hp HF5.out)
              have HST := hid (fun hn => rdFs_stop hp HF5.out hn)
              have HX := hid (And.intro hiI hRI)
              have HP := hid hp
              have htl := tab_length m.kind
              have h3 : 9000 + 3000 * p ≤ 50000 := by omega
              have htk : (tab m.kind).take (p + 1) = (tab m.kind).take p ++ [(tab m.kind)[p]] := List.take_succ_eq_append_getElem hp
              have hmem := List.getElem_mem hp
              clear hwi hiI hRI
              generalize (tab m.kind)[p] = q at hnx hq HFN HST htk hmem
              have h101 : q = 101 → A' = none ∧ c' = 0 := fun e => HO5.out.2 (fun hin => tab_one m.kind (by rw [← e]; exact hmem) (List.mem_of_mem_take hin))
              have HG := hid (getField_any wA wi wA.heap.size (w.heap.size + 1) gr (wo.heap.size + 1) m1 s1 A c A' c' (9000 + 3000 * p) HX.out.2 h3 q hq h101)
              have HTK := hid (And.intro htk (And.intro h101 hmem))
              clear hq htk h101 hmem htl
              rcases hrd : rdF m1 s1 q with _ | ⟨m2, s2⟩
              · have HD := hid (dec_none HH3.out HBAD.out H1.out.symm (HST.out hrd))
                rw [hrd] at HG
                clear hrd
                go_wp2_with fail
                refine HG.out.mono ?_
                rintro e w6 ⟨rfl, hbel⟩
                have hz6 := (HBW.out _ hbel).2
                have hst6 := zero_st hz6
                have HB6 := hid (HBW.out _ hbel)
                clear hbel hz6 hnx
                go_wp2_with fail
                refine bodyPost_ret (results_msg rfl _ _ w.heap.size _ _ _ rfl HB6.out.2 rfl) rfl ?_
                exact done_zero (w0 := w) HD.out HB6.out.1
              · rw [hrd] at HG HFN
                clear hrd
                go_wp2_with fail
                refine HG.out.mono ?_
                rintro e w6 ⟨A2, c2, A3, c3, rfl, hr6, hkp, hA2, hA3⟩
                have HY := hid (And.intro hr6 ((hkp.same wo.heap.size (Nat.lt_succ_self _) (row_lt HX.out.1) (by omega) (by omega)).trans HX.out.1))
                have HO6 : Hid ((101 ∉ (tab m.kind).take (p + 1) → A2 = none ∧ c2 = 0) ∧ (100 ∉ (tab m.kind).take (p + 1) → A3 = none ∧ c3 = 0)) := by
                  refine hid ⟨fun hn => ?_, fun hn => ?_⟩
                  · rw [HTK.out.1] at hn
                    have e := hA2 (fun e => hn (by rw [e]; simp))
                    rw [e.1, e.2]
                    exact HO5.out.1 (fun hin => hn (List.mem_append_left _ hin))
                  · rw [HTK.out.1] at hn
                    have e := hA3 (fun e => hn (by rw [e]; simp))
                    rw [e.1, e.2]
                    exact HO5.out.2 (fun hin => hn (List.mem_append_left _ hin))
                clear hr6 hkp hnx hA2 hA3
                go_wp2_with fail
                go_roundw
                case rel => exact ⟨p + 1, m2, s2, A2, c2, A3, c3, by have := HP.out; have := tab_length m.kind; omega, HFN, hid HY.out.1, hid HY.out.2, HO6⟩
                case measure =>
                  simp only [World.iterPos, HY.out.2, HI5.out]
                  have := HP.out
                  have := tab_length m.kind
                  omega
            · have hnx : ∀ ty, (Instr.next (.pointer (some ⟨wo.heap.size, 0, none⟩)) true ty).run Tryd.prog wr = _ := fun ty => next_end wr wo.heap.size (tab m.kind) p ty HI5.out hp
              have hF5 := HF5.out
              rw [List.take_of_length_le (by omega)] at hF5
              have HFF := hid hF5
              have hend := hid (end_rdr gr s1 wr HR5.out.rdr)
              have hz6 := (HBW.out _ HR5.out.bel).2
              have HB6 := hid (HBW.out _ HR5.out.bel)
              have hst6 := zero_st hz6
              have hO5 := HO5.out
              have hone : (A = none ∧ c = 0) ∨ (A' = none ∧ c' = 0) := by
                by_cases h1 : 101 ∈ (tab m.kind).take p
                · exact .inr (hO5.2 (fun h0 => tab_one m.kind (List.mem_of_mem_take h1) (List.mem_of_mem_take h0)))
                · exact .inl (hO5.1 h1)
              have HON := hid hone
              have hld6 := HR5.out.box.load
              have hst7 := st_row wr w.heap.size _ #[.int .i64 m1.K, .int .i64 m1.F, .int .i64 m1.T, .int .i64 m1.g, .int .i64 m1.t, .int .i64 m1.i, .int .i64 m1.p, .int .i64 m1.c, .int .i64 m1.r, .int .i64 m1.x, .int .i64 m1.a, .int .i64 m1.b, .int .i64 m1.v, .int .i64 m1.s, .bool m1.ok, .slice A m1.es.length c, .slice A' m1.d.length c'] hz6 rfl rfl (msg_one m1 A c A' c')
              have HE7 : Hid ((wr.setRow w.heap.size #[.int .i64 m1.K, .int .i64 m1.F, .int .i64 m1.T, .int .i64 m1.g, .int .i64 m1.t, .int .i64 m1.i, .int .i64 m1.p, .int .i64 m1.c, .int .i64 m1.r, .int .i64 m1.x, .int .i64 m1.a, .int .i64 m1.b, .int .i64 m1.v, .int .i64 m1.s, .bool m1.ok, .slice A m1.es.length c, .slice A' m1.d.length c']).heap[w.heap.size]? = some (.cells #[.int .i64 m1.K, .int .i64 m1.F, .int .i64 m1.T, .int .i64 m1.g, .int .i64 m1.t, .int .i64 m1.i, .int .i64 m1.p, .int .i64 m1.c, .int .i64 m1.r, .int .i64 m1.x, .int .i64 m1.a, .int .i64 m1.b, .int .i64 m1.v, .int .i64 m1.s, .bool m1.ok, .slice A m1.es.length c, .slice A' m1.d.length c'] 25 (0, 0))) := hid (setRow_heap wr w.heap.size _ _ _ _ hz6)
              have htu := set_turned wr w.heap.size #[.int .i64 m1.K, .int .i64 m1.F, .int .i64 m1.T, .int .i64 m1.g, .int .i64 m1.t, .int .i64 m1.i, .int .i64 m1.p, .int .i64 m1.c, .int .i64 m1.r, .int .i64 m1.x, .int .i64 m1.a, .int .i64 m1.b, .int .i64 m1.v, .int .i64 m1.s, .bool m1.ok, .slice A m1.es.length c, .slice A' m1.d.length c']
              have hOM : OwnM (wr.setRow w.heap.size #[.int .i64 m1.K, .int .i64 m1.F, .int .i64 m1.T, .int .i64 m1.g, .int .i64 m1.t, .int .i64 m1.i, .int .i64 m1.p, .int .i64 m1.c, .int .i64 m1.r, .int .i64 m1.x, .int .i64 m1.a, .int .i64 m1.b, .int .i64 m1.v, .int .i64 m1.s, .bool m1.ok, .slice A m1.es.length c, .slice A' m1.d.length c']) w.heap.size m1 A c A' c' := by
                have hlt6 := HR5.out.lt
                refine ⟨HR5.out.num, ?_, ?_, hone, ?_⟩
                · exact (HR5.out.es.keep htu (fun k hk hB => by have := hB.1; omega)).wide (by omega) htu.size
                · exact (HR5.out.d.turned htu (fun k hk e => by have := HR5.out.d.blkLt k hk; omega)).weaken (by omega)
                · have := HR5.out.few; omega
              have HOM := hid (And.intro hOM (HB6.out.1.trans (htu.below (by have := HB6.out.1.size; omega) (fun k hk => by omega))))
              clear hz6 hO5 hone hF5 hOM htu hp
              rcases Decidable.em (endOf s1 = 0) with he | he
              · have HD := hid (dec_some HH3.out HBAD.out H1.out.symm HFF.out ((over_end s1).1 he))
                rw [he] at hend
                clear he
                generalize (wr.setRow w.heap.size #[.int .i64 m1.K, .int .i64 m1.F, .int .i64 m1.T, .int .i64 m1.g, .int .i64 m1.t, .int .i64 m1.i, .int .i64 m1.p, .int .i64 m1.c, .int .i64 m1.r, .int .i64 m1.x, .int .i64 m1.a, .int .i64 m1.b, .int .i64 m1.v, .int .i64 m1.s, .bool m1.ok, .slice A m1.es.length c, .slice A' m1.d.length c']) = w9 at hst7 HE7 HOM
                go_wp2_with fail
                refine hend.out.mono ?_
                rintro e w6 ⟨rfl, hw6⟩
                rw [← hw6]
                clear hw6
                go_wp2_with fail
                refine bodyPost_ret (results_msg rfl _ _ w.heap.size _ _ _ rfl HE7.out rfl) rfl ?_
                rw [HD.out]
                exact ⟨A, c, A', c', rfl, HOM.out.1, HOM.out.2⟩
              · have HD := hid (dec_left HH3.out HBAD.out H1.out.symm HFF.out ((over_end s1).2 he))
                generalize endOf s1 = ee at hend he
                clear hst7
                go_wp2_with fail
                refine hend.out.mono ?_
                rintro e w6 ⟨rfl, hw6⟩
                rw [← hw6]
                clear hw6
                go_wp2_with fail
                refine bodyPost_ret (results_msg rfl _ _ w.heap.size _ _ _ rfl HB6.out.2 rfl) rfl ?_
                exact done_zero (w0 := w) HD.out HB6.out.1
      · have HBAD := hid hb
        rw [hb] at hbad
        clear hb
        go_wp2_with fail
        refine hbad.out.mono ?_
        rintro e w4 ⟨rfl, hw4⟩
        rw [← hw4]
        clear hw4
        go_wp2_with fail
        refine bodyPost_ret (results_msg rfl _ _ w.heap.size _ _ _ rfl HZR.out rfl) rfl ?_
        exact done_zero (w0 := w) (dec_bad HH3.out HBAD.out) (HBW.out _ HRR.out.bel).1
end Go.Proofs.YtpigekbfngalbaaDoor.Ms
namespace Go.Proofs.YtpigekbfngalbaaDoor.Ms
open Rl (En)
open Pk (St rdInt rdBlob)
set_option maxRecDepth 100000
set_option linter.unusedVariables false

/-! Not great. -/
theorem rdBlob_eats (s : St) : (rdBlob s).1.length + (rdBlob s).2.rest.length ≤ s.rest.length := by
  have := Pk.rdInt_short s
  unfold rdBlob Pk.gone
  split
  · simp
  · simp; omega
theorem rdE_eats (s : St) : (rdE s).1.d.length + (rdE s).2.rest.length ≤ s.rest.length := by
  have h1 := Pk.rdInt_short s
  have h2 := Pk.rdInt_short (rdInt s).2
  have h3 := rdBlob_eats (rdInt (rdInt s).2).2
  show (rdBlob (rdInt (rdInt s).2).2).1.length + (rdBlob (rdInt (rdInt s).2).2).2.rest.length ≤ _; omega
theorem weigh_cons (e : En) (L : List En) : weigh (e :: L) = e.d.length + weigh L := by unfold weigh; simp
theorem weigh_append (L K : List En) : weigh (L ++ K) = weigh L + weigh K := by unfold weigh; simp
theorem rdEs_eats (n : Nat) : ∀ s : St, weigh (rdEs n s).1 + (rdEs n s).2.rest.length ≤ s.rest.length := by
  induction n with
  | zero => intro s; simp [rdEs, weigh]
  | succ n ih =>
    intro s
    have h1 := rdE_eats s
    have h2 := ih (rdE s).2
    show weigh ((rdE s).1 :: (rdEs n (rdE s).2).1) + (rdEs n (rdE s).2).2.rest.length ≤ _
    rw [weigh_cons]; omega
theorem rdEs_length (n : Nat) : ∀ s : St, (rdEs n s).1.length = n := by
  induction n with
  | zero => intro s; rfl
  | succ n ih => intro s; show ((rdE s).1 :: (rdEs n (rdE s).2).1).length = _; rw [List.length_cons, ih]
theorem rdF_small {m m' : M} {s s' : St} {r N : Nat} (h : rdF m s r = some (m', s')) (hs : weigh m.es + s.rest.length ≤ 65536) (hd : m.d.length ≤ 65536) (he : m.es.length ≤ N) :
    weigh m'.es + s'.rest.length ≤ 65536 ∧ m'.d.length ≤ 65536 ∧ m'.es.length ≤ N + 2800 := by
  have h1 := Pk.rdInt_short s
  unfold rdF at h
  split at h
  · split at h
    · injection h with h; injection h with h2 h3; subst h2; subst h3
      exact ⟨by show weigh m.es + _ ≤ _; omega, hd, by show m.es.length ≤ _; omega⟩
    · cases h
  · split at h
    · split at h
      · cases h
      · rename_i hn
        injection h with h; injection h with h2 h3; subst h2; subst h3
        have h4 := rdEs_eats (rdInt s).1.toNat (rdInt s).2
        have h5 := rdEs_length (rdInt s).1.toNat (rdInt s).2
        refine ⟨?_, hd, ?_⟩
        · show weigh (m.es ++ _) + _ ≤ _
          rw [weigh_append]; omega
        · show (m.es ++ _).length ≤ _
          rw [List.length_append, h5]; omega
    · split at h
      · injection h with h; injection h with h2 h3; subst h2; subst h3
        have h4 := rdBlob_eats s
        exact ⟨by show weigh m.es + _ ≤ _; omega, by show (rdBlob s).1.length ≤ _; omega, by show m.es.length ≤ _; omega⟩
      · injection h with h; injection h with h2 h3; subst h2; subst h3
        have h4 := set_es m r (rdInt s).1
        rw [h4.1, h4.2]
        exact ⟨by omega, hd, by omega⟩
theorem rdFs_small : ∀ (L : List Nat) {m m' : M} {s s' : St} {N : Nat} (h : rdFs L m s = some (m', s')) (hs : weigh m.es + s.rest.length ≤ 65536) (hd : m.d.length ≤ 65536) (he : m.es.length ≤ N),
    weigh m'.es + s'.rest.length ≤ 65536 ∧ m'.d.length ≤ 65536 ∧ m'.es.length ≤ N + 2800 * L.length := by
  intro L
  induction L with
  | nil =>
    intro m m' s s' N h hs hd he
    injection h with h; injection h with h2 h3; subst h2; subst h3
    exact ⟨hs, hd, by simpa using he⟩
  | cons r L ih =>
    intro m m' s s' N h hs hd he
    have h' : (match rdF m s r with | none => none | some (m', s') => rdFs L m' s') = some (m', s') := h
    rcases hr : rdF m s r with _ | ⟨m1, s1⟩
    · rw [hr] at h'; cases h'
    · rw [hr] at h'
      obtain ⟨h1, h2, h3⟩ := rdF_small hr hs hd he
      obtain ⟨h4, h5, h6⟩ := ih h' h1 h2 h3
      exact ⟨h4, h5, by rw [List.length_cons]; omega⟩
theorem head3_parts (p : List Nat) : (head3 p).1.es = [] ∧ (head3 p).1.d = [] ∧ (head3 p).2.rest.length ≤ p.length := by
  refine ⟨rfl, rfl, ?_⟩
  have h1 := Pk.rdInt_short ⟨p, false⟩
  have h2 := Pk.rdInt_short (rdInt ⟨p, false⟩).2
  have h3 := Pk.rdInt_short (rdInt (rdInt ⟨p, false⟩).2).2
  have h4 : (⟨p, false⟩ : St).rest.length = p.length := rfl
  show (rdInt (rdInt (rdInt ⟨p, false⟩).2).2).2.rest.length ≤ _
  omega
theorem M0_small : Small M0 := ⟨Nat.zero_le _, by unfold weigh; exact Nat.zero_le _, Nat.zero_le _⟩
theorem dec_small (p : List Nat) (hp : p.length ≤ 65536) : Small (dec p).1 := by
  unfold dec
  split
  · exact M0_small
  · split
    · exact M0_small
    · split
      · exact M0_small
      · rename_i m hb
        unfold body at hb
        rcases hr : rdFs (tab (head3 p).1.kind) (head3 p).1 (head3 p).2 with _ | ⟨m1, s1⟩
        · rw [hr] at hb; cases hb
        · rw [hr] at hb
          simp only [] at hb
          split at hb
          · injection hb with hb; subst hb
            obtain ⟨h1, h2, h3⟩ := head3_parts p
            obtain ⟨h4, h5, h6⟩ := rdFs_small (N := 0) _ hr (by rw [h1]; unfold weigh; simp; omega) (by rw [h2]; simp) (by rw [h1]; simp)
            have := tab_length (head3 p).1.kind
            exact ⟨by show m1.es.length ≤ _; omega, by show weigh m1.es ≤ _; omega, by show m1.d.length ≤ _; omega⟩
          · cases hb
end Go.Proofs.YtpigekbfngalbaaDoor.Ms
