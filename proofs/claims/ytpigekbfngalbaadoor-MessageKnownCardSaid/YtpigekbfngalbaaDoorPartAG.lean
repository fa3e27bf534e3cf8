/- Texts of the proof, one behind the other: MsK, ReadNew, MsL. -/
import Derived.Test.YtpigekbfngalbaaDoorPartAF
import Derived.Test.YtpigekbfngalbaaDoorPartAC
import Derived.Deep.RegionHeld3
namespace Go.Proofs.YtpigekbfngalbaaDoor.Ms
open Go.RowKit
set_option maxRecDepth 100000
set_option linter.unusedVariables false
attribute [local go_sem ↓] loadAt_msg storeAt_msg

set_option maxHeartbeats 1600000 in
theorem getOk_any (w0 W : World) (B gm gr lo : Nat) (m : M) (s : Pk.St) (A : Option Addr) (c : Nat) (A' : Option Addr) (c' N : Nat) (h : Rd w0 W B gm gr lo m s A c A' c' N) :
    Calls Tryd.prog 74 #[.pointer (some ⟨gr, 0, none⟩), .pointer (some ⟨gm, 0, none⟩), .int .i32 ((111 : Nat) : Int)] W fun e w' => Told w0 W B gm gr lo N A c A' c' 111 (rdF m s 111) e w' := by
  have HF : Hid (rdF m s 111 = if (Pk.rdInt s).1 = 0 ∨ (Pk.rdInt s).1 = 1 then some ({ m with ok := decide ((Pk.rdInt s).1 = 1) }, (Pk.rdInt s).2) else none) := by
    show _ = _
    unfold rdF; rw [if_pos rfl]
  have HI := hid (int_rdr gr s W h.rdr)
  have HH := hid h
  clear h
  go_enter Tryd.func74, Tryd.ntmps74
  go_wp2_with fail
  refine HI.out.mono ?_
  rintro e w1 ⟨rfl, hR, hG⟩
  have h1 := HH.out.read hR hG (Pk.rdInt_short s)
  have hc := h1.box.c14
  have hf := h1.free 14
  have HKP : Hid (∀ b : Bool, Kept lo gm gr W (w1.setCell ⟨gm, 14, none⟩ (.bool b))) := hid fun b => (Kept.rd hG).trans (Kept.st w1 14 (.bool b))
  have H2 : Hid (∀ b : Bool, Rd w0 (w1.setCell ⟨gm, 14, none⟩ (.bool b)) B gm gr lo { m with ok := b } (Pk.rdInt s).2 A c A' c' (N + 3000)) := hid fun b => h1.store (m' := { m with ok := b }) (N' := N + 3000) rfl h1.es h1.d h1.num (by have := h1.few; show m.es.length ≤ _; omega)
  clear hR hG h1
  generalize Pk.rdInt s = q at HF H2 ⊢
  obtain ⟨v, s2⟩ := q
  have HF2 : Hid (rdF m s 111 = if v = 0 ∨ v = 1 then some ({ m with ok := decide (v = 1) }, s2) else none) := HF
  have HH2 : Hid (∀ b : Bool, Rd w0 (w1.setCell ⟨gm, 14, none⟩ (.bool b)) B gm gr lo { m with ok := b } s2 A c A' c' (N + 3000)) := H2
  clear HF H2
  show _
  simp only []
  by_cases h0 : v = 0
  · have HR : Hid (rdF m s 111 = some ({ m with ok := false }, s2)) := hid (by rw [HF2.out, if_pos (Or.inl h0), h0]; rfl)
    subst h0
    go_wp2_with fail
    go_ret
    rw [HR.out]
    exact ⟨A, c, A', c', rfl, HH2.out false, HKP.out false, fun _ => ⟨rfl, rfl⟩, fun _ => ⟨rfl, rfl⟩⟩
  · by_cases h1 : v = 1
    · have HR : Hid (rdF m s 111 = some ({ m with ok := true }, s2)) := hid (by rw [HF2.out, if_pos (Or.inr h1), h1]; rfl)
      subst h1
      go_wp2_with fail
      go_ret
      rw [HR.out]
      exact ⟨A, c, A', c', rfl, HH2.out true, HKP.out true, fun _ => ⟨rfl, rfl⟩, fun _ => ⟨rfl, rfl⟩⟩
    · have HR : Hid (rdF m s 111 = none) := hid (by rw [HF2.out, if_neg (by omega)])
      go_wp2_with fail
      go_ret
      rw [HR.out]
      refine ⟨?_, (HH2.out _).bel⟩
      show Ending.returned (.bool (v == 0 || v == 1)) = _
      simp [h0, h1]
set_option maxHeartbeats 1600000 in
theorem getData_any (w0 W : World) (B gm gr lo : Nat) (m : M) (s : Pk.St) (A : Option Addr) (c : Nat) (A' : Option Addr) (c' N : Nat) (h : Rd w0 W B gm gr lo m s A c A' c' N) :
    Calls Tryd.prog 74 #[.pointer (some ⟨gr, 0, none⟩), .pointer (some ⟨gm, 0, none⟩), .int .i32 ((100 : Nat) : Int)] W fun e w' => Told w0 W B gm gr lo N A c A' c' 100 (rdF m s 100) e w' := by
  have HF : Hid (rdF m s 100 = some ({ m with d := (Pk.rdBlob s).1 }, (Pk.rdBlob s).2)) := by
    show _ = _
    unfold rdF; rw [if_neg (by decide), if_neg (by decide), if_pos rfl]
  have hsh := h.short
  have HI := hid (blob_rdr gr s W h.rdr (by omega))
  have HH := hid h
  clear h
  go_enter Tryd.func74, Tryd.ntmps74
  go_wp2_with fail
  refine HI.out.mono ?_
  rintro e w1 ⟨A2, c2, rfl, ho, hR, hG⟩
  have h1 := HH.out.read hR hG (Pk.rdBlob_short s).1
  have hc := h1.box.c16
  have hf := h1.free 16
  have h2 := h1.store (m' := { m with d := (Pk.rdBlob s).1 }) (N' := N + 3000) (i := 16) (u := .slice A2 (Pk.rdBlob s).1.length c2) (A2 := A) (c2 := c) (A3 := A2) (c3 := c2) rfl h1.es (ho.weaken HH.out.lt.2.2.2) h1.num (by have := h1.few; show m.es.length ≤ _; omega)
  have H2 := hid (And.intro h2 ((Kept.rd (lo := lo) (gm := gm) hG).trans (Kept.st w1 16 (.slice A2 (Pk.rdBlob s).1.length c2))))
  clear hR hG h1 h2 ho
  go_wp2_with fail
  go_ret
  rw [HF.out]
  exact ⟨A, c, A2, c2, rfl, H2.out.1, H2.out.2, fun _ => ⟨rfl, rfl⟩, fun e => absurd rfl e⟩
/-- a load that a region must not take first -/
def loadE : Op := Op.load 22 (Operand.tmp 50)
theorem Rd.int {w0 W : World} {B gm gr lo : Nat} {m : M} {s : Pk.St} {A A' : Option Addr} {c c' N : Nat} (h : Rd w0 W B gm gr lo m s A c A' c' N) :
    Calls Tryd.prog 89 #[.pointer (some ⟨gr, 0, none⟩)] W fun e w' => e = .returned (.int .i64 (Pk.rdInt s).1) ∧ Rd w0 w' B gm gr lo m (Pk.rdInt s).2 A c A' c' N ∧ Kept lo gm gr W w' :=
  (int_rdr gr s W h.rdr).mono fun e w' ⟨he, hR, hG⟩ => ⟨he, h.read hR hG (Pk.rdInt_short s), Kept.rd hG⟩
theorem Rd.drew {w0 W : World} {B gm gr lo : Nat} {m : M} {s : Pk.St} {A A' : Option Addr} {c c' N : Nat} (h : Rd w0 W B gm gr lo m s A c A' c' N) : Rd w0 W.drew B gm gr lo m s A c A' c' N :=
  ⟨h.bel.drew, ⟨h.box.row⟩, h.rdr.drewN 1, h.lt, h.es.keep (S := fun _ => False) (Turned.ofBelow _ (Below.refl _ W).drew) (fun k hk _ => hk), h.d.drew, h.num, h.few, h.short⟩
theorem Rd.blob {w0 W : World} {B gm gr lo : Nat} {m : M} {s : Pk.St} {A A' : Option Addr} {c c' N : Nat} (h : Rd w0 W B gm gr lo m s A c A' c' N) :
    Calls Tryd.prog 91 #[.pointer (some ⟨gr, 0, none⟩)] W fun e w' => ∃ A2 c2, e = .returned (.slice A2 (Pk.rdBlob s).1.length c2) ∧ OwnsB 5 w' W.heap.size A2 c2 (Pk.rdBlob s).1 ∧ OwnE w' lo W.heap.size A c m.es ∧ lo ≤ W.heap.size ∧ W.heap.size ≤ w'.heap.size ∧ Rd w0 w' B gm gr lo m (Pk.rdBlob s).2 A c A' c' N ∧ Kept lo gm gr W w' :=
  (blob_rdr gr s W h.rdr (by have := h.short; omega)).mono fun e w' ⟨A2, c2, he, ho, hR, hG⟩ => ⟨A2, c2, he, ho, h.es.keep (Turned.ofGrown (S := fun k => k = gr) hG (fun k hk => (Option.some.inj hk).symm)) (fun k hk hB => by have := hB.1; have := h.lt; omega), h.lt.2.2.2, hG.size, h.read hR hG (Pk.rdBlob_short s).1, Kept.rd hG⟩
/-- a block that is made, and entries put behind: what was there stays -/
theorem Rd.put {w0 W W' : World} {B gm gr lo : Nat} {m : M} {s : Pk.St} {A A' : Option Addr} {c c' N : Nat} (h : Rd w0 W B gm gr lo m s A c A' c' N) (hd : A' = none ∧ c' = 0) (hb : Below lo W W') {A6 : Option Addr} {c6 q : Nat} {L : List Rl.En} (hL : L.length = q) (hE : OwnE W' lo W'.heap.size A6 c6 L) (hf : L.length ≤ N + 1) :
    Rd w0 (W'.setCell ⟨gm, 15, none⟩ (.slice A6 q c6)) B gm gr lo { m with es := L } s A6 c6 A' c' (N + 1) := by
  subst hL
  obtain ⟨hA, hc⟩ := hd
  subst hA
  subst hc
  have hl := h.lt
  have hgs := h.rdr.lt
  have hdn : m.d = [] := h.d.reads.of_none
  have e : Bx W' gm m A c none 0 := h.box.below hb (by omega)
  have hg := grown_setCell W' gm 15 (.slice A6 L.length c6)
  have ht : Turned (fun k => k = gm) W' (W'.setCell ⟨gm, 15, none⟩ (.slice A6 L.length c6)) := Turned.ofGrown hg (fun k hk => (Option.some.inj hk).symm)
  have hbw : Below B w0 W' := h.bel.trans (hb.mono (by omega))
  refine ⟨hbw.trans ⟨hg.os, hg.tape, hg.output, hg.size, fun k hk => hg.block k ?_ ?_⟩, ⟨?_⟩, rdr_box (h.rdr.below (hb.mono (by omega))) e (by omega) ht, ⟨hl.1, hl.2.1, hl.2.2.1, Nat.le_trans hl.2.2.2 (Nat.le_trans hb.size hg.size)⟩, ?_, ?_, h.num, hf, h.short⟩
  · have := row_lt e.row; omega
  · intro e; injection e; omega
  · rw [row_set e.row]; rfl
  · exact (hE.keep ht (fun k hk hB => by have := hB.1; omega)).wide (Nat.le_refl _) hg.size
  · show OwnsB _ _ _ _ _ m.d
    rw [hdn]; exact OwnsB.nil _ _ _
theorem Rd.behind {w0 W w6 : World} {B gm gr lo : Nat} {m : M} {s : Pk.St} {A A' : Option Addr} {c c' N : Nat} (h : Rd w0 W B gm gr lo m s A c A' c' N) {o : Obj} (hb : Below lo (W.alloc o) w6) : Below lo W w6 ∧ Bx w6 gm m A c A' c' := by
  have h1 : Below lo W w6 := ((Below.refl lo W).alloc h.lt.2.2.2 o).trans hb
  exact ⟨h1, h.box.below h1 (by have := h.lt; omega)⟩
/-- entries that are read, from the reader's state s0: j of them are, n are left -/
structure EsR (w0 W wr : World) (B gm gr lo : Nat) (m : M) (n : Nat) (s0 : Pk.St) (A' : Option Addr) (c' N j : Nat) (A1 : Option Addr) (c1 q : Nat) (s : Pk.St) (L : List Rl.En) : Prop where
  rd : Rd w0 wr B gm gr lo { m with es := m.es ++ L } s A1 c1 A' c' (N + j)
  kept : Kept lo gm gr W wr
  len : (m.es ++ L).length = q
  cnt : L.length = j
  rest : (L ++ (rdEs (n - j) s).1, (rdEs (n - j) s).2) = rdEs n s0
theorem rdE_num (s : Pk.St) (h : s.small) : InInt (rdE s).1.t ∧ InInt (rdE s).1.k :=
  ⟨Pk.rdInt_in s h, Pk.rdInt_in _ (Pk.rdInt_small s h)⟩
theorem rdEs_step {n j : Nat} (h : j < n) (s s0 : Pk.St) (L : List Rl.En) (hr : (L ++ (rdEs (n - j) s).1, (rdEs (n - j) s).2) = rdEs n s0) :
    (L ++ [(rdE s).1] ++ (rdEs (n - (j + 1)) (rdE s).2).1, (rdEs (n - (j + 1)) (rdE s).2).2) = rdEs n s0 := by
  obtain ⟨k, hk⟩ : ∃ k, n - j = k + 1 := ⟨n - j - 1, by omega⟩
  rw [hk] at hr
  rw [show n - (j + 1) = k by omega, ← hr]
  simp [rdEs]
set_option maxHeartbeats 3200000 in
theorem getEs_any (w0 W : World) (B gm gr lo : Nat) (m : M) (s : Pk.St) (A : Option Addr) (c : Nat) (A' : Option Addr) (c' N : Nat) (h : Rd w0 W B gm gr lo m s A c A' c' N) (hN : N ≤ 50000) (hd : A' = none ∧ c' = 0) :
    Calls Tryd.prog 74 #[.pointer (some ⟨gr, 0, none⟩), .pointer (some ⟨gm, 0, none⟩), .int .i32 ((101 : Nat) : Int)] W fun e w' => Told w0 W B gm gr lo N A c A' c' 101 (rdF m s 101) e w' := by
  have HF : Hid (rdF m s 101 = if (Pk.rdInt s).1 < 0 ∨ (((Pk.rdInt s).2.rest.length / 24 : Nat) : Int) < (Pk.rdInt s).1 then none
    else some ({ m with es := m.es ++ (rdEs (Pk.rdInt s).1.toNat (Pk.rdInt s).2).1 }, (rdEs (Pk.rdInt s).1.toNat (Pk.rdInt s).2).2)) := by
    show _ = _
    unfold rdF; rw [if_neg (by decide), if_pos rfl]
  have HI := hid (int_rdr gr s W h.rdr)
  have HH := hid h
  clear h
  go_enter Tryd.func74, Tryd.ntmps74
  go_wp2_with fail
  refine HI.out.mono ?_
  rintro e w1 ⟨rfl, hR, hG⟩
  have h1 := HH.out.read hR hG (Pk.rdInt_short s)
  have HKP : Hid (Kept lo gm gr W w1) := hid (Kept.rd hG)
  have H1 := hid h1
  have HL := hid (left_rdr gr (Pk.rdInt s).2 w1 hR)
  have hsh := h1.short
  clear hR hG h1
  generalize hq : Pk.rdInt s = q at HF H1 HL hsh ⊢
  have HQ := hid hq
  clear hq
  obtain ⟨v, s2⟩ := q
  have HF2 : Hid (rdF m s 101 = if v < 0 ∨ ((s2.rest.length / 24 : Nat) : Int) < v then none else some ({ m with es := m.es ++ (rdEs v.toNat s2).1 }, (rdEs v.toNat s2).2)) := HF
  have HH2 : Hid (Rd w0 w1 B gm gr lo m s2 A c A' c' N) := H1
  have HL2 : Hid (Calls Tryd.prog 90 #[.pointer (some ⟨gr, 0, none⟩)] w1 fun e w' => e = .returned (.int .i64 (s2.rest.length : Nat)) ∧ w1 = w') := HL
  have hsh2 : s2.rest.length ≤ 65536 := hsh
  clear HF H1 HL hsh HQ
  show _
  simp only []
  by_cases h0 : v < 0
  · have HR : Hid (rdF m s 101 = none) := hid (by rw [HF2.out, if_pos (Or.inl h0)])
    go_wp2_with fail
    go_ret
    rw [HR.out]
    exact ⟨rfl, HH2.out.bel⟩
  go_wp2_with fail
  refine HL2.out.mono ?_
  rintro e w2 ⟨rfl, rfl⟩
  obtain ⟨dd, hdd⟩ : ∃ dd : Nat, dd = s2.rest.length / 24 := ⟨_, rfl⟩
  rw [← hdd] at HF2
  have hd2 : dd ≤ 2730 := by omega
  by_cases hlong : (dd : Int) < v
  · have HR : Hid (rdF m s 101 = none) := hid (by rw [HF2.out, if_pos (Or.inr hlong)])
    go_wp2_with fail
    go_ret
    rw [HR.out]
    exact ⟨rfl, HH2.out.bel⟩
  · obtain ⟨n, rfl⟩ : ∃ n : Nat, v = (n : Int) := ⟨v.toNat, by omega⟩
    have hn : n ≤ 2730 := by omega
    have HR : Hid (rdF m s 101 = some ({ m with es := m.es ++ (rdEs n s2).1 }, (rdEs n s2).2)) := hid (by rw [HF2.out, if_neg (by omega)]; rfl)
    clear HF2 HL2
    go_wp2_with fail
    go_loopw [45] (fun i wr => ∃ (j : Nat) (A1 : Option Addr) (c1 q : Nat) (s3 : Pk.St) (L : List Rl.En), j ≤ n ∧ i = .int .i64 (j : Int) ∧ Hid (EsR w0 W wr B gm gr lo m n s2 A' c' N j A1 c1 q s3 L)) (fun i _ => n - (RowKit.intOf i).toNat)
    case atStart =>
      refine ⟨0, A, c, m.es.length, s2, [], Nat.zero_le _, rfl, hid ⟨?_, HKP.out, by rw [List.append_nil], rfl, by simp⟩⟩
      have e : ({ m with es := m.es ++ [] } : M) = m := by rw [List.append_nil]
      rw [e]
      exact HH2.out
    case round =>
      clear HH2 hlong hd2 h0 hdd hsh2
      obtain ⟨j, A1, c1, q, s3, L, hj, rfl, HE⟩ := hrel
      by_cases hlt : j < n
      · have hbox := HE.out.rd.box
        have hc15 := hbox.c15
        have hf15 := HE.out.rd.free 15
        have hlen := HE.out.len
        rw [hlen] at hc15
        have hq : q ≤ 60000 := by have := HE.out.rd.few; rw [← hlen]; show (m.es ++ L).length ≤ _; have : (m.es ++ L).length ≤ N + j := this; omega
        have HQ := hid (And.intro hlen hq)
        clear hbox hlen
        have hopE : loadE = Op.load 22 (Operand.tmp 50) := rfl
        go_wp2_with fail
        rw [← hopE]
        have hR0 := HE.out.rd.drew
        have hsm := HE.out.rd.rdr.small
        obtain ⟨t, k, d, s4, s5, s6, C1, C2, C3, hE⟩ : ∃ (t k : Int) (d : List Nat) (s4 s5 s6 : Pk.St), (∀ w', Rd w0 w' B gm gr lo { m with es := m.es ++ L } s3 A1 c1 A' c' (N + j) → Calls Tryd.prog 89 #[.pointer (some ⟨gr, 0, none⟩)] w' fun e w'' => e = .returned (.int .i64 t) ∧ Rd w0 w'' B gm gr lo { m with es := m.es ++ L } s4 A1 c1 A' c' (N + j) ∧ Kept lo gm gr w' w'') ∧
            (∀ w', Rd w0 w' B gm gr lo { m with es := m.es ++ L } s4 A1 c1 A' c' (N + j) → Calls Tryd.prog 89 #[.pointer (some ⟨gr, 0, none⟩)] w' fun e w'' => e = .returned (.int .i64 k) ∧ Rd w0 w'' B gm gr lo { m with es := m.es ++ L } s5 A1 c1 A' c' (N + j) ∧ Kept lo gm gr w' w'') ∧
            (∀ w', Rd w0 w' B gm gr lo { m with es := m.es ++ L } s5 A1 c1 A' c' (N + j) → Calls Tryd.prog 91 #[.pointer (some ⟨gr, 0, none⟩)] w' fun e w'' => ∃ A2 c2, e = .returned (.slice A2 d.length c2) ∧ OwnsB 5 w'' w'.heap.size A2 c2 d ∧ OwnE w'' lo w'.heap.size A1 c1 (m.es ++ L) ∧ lo ≤ w'.heap.size ∧ w'.heap.size ≤ w''.heap.size ∧ Rd w0 w'' B gm gr lo { m with es := m.es ++ L } s6 A1 c1 A' c' (N + j) ∧ Kept lo gm gr w' w'') ∧
            rdE s3 = (⟨t, k, d⟩, s6) := ⟨_, _, _, _, _, _, fun w' h => h.int, fun w' h => h.int, fun w' h => h.blob, rfl⟩
        have hnum : InInt t ∧ InInt k := by have := rdE_num s3 hsm; rw [hE] at this; exact this
        have HC := hid (And.intro (C1 _ hR0) (And.intro C2 C3))
        have HX := hid (And.intro hE hnum)
        have HK : Hid (∀ w' sx, Rd w0 w' B gm gr lo { m with es := m.es ++ L } sx A1 c1 A' c' (N + j) → w'.cell? ⟨gm, 15, none⟩ = some (.slice A1 q c1) ∧ w'.frozen? ⟨gm, 15, none⟩ = false ∧ gm < w'.heap.size) := hid fun w' sx h => ⟨by rw [h.box.c15]; show some (Value.slice A1 (m.es ++ L).length c1) = _; rw [HQ.out.1], h.free 15, row_lt h.box.row⟩
        have hkd : wr.drew.cell? ⟨gm, 15, none⟩ = some (.slice A1 q c1) := hc15
        have hl5 : q + 1 ≤ 100000 := by omega
        have HD := hid hd
        clear hR0 hsm C1 C2 C3 hE hnum hf15 hN
        go_region_held3 (fun w' => True)
          (first | exact trivial | fail)
          (first
            | (have _ := H4; refine step_append_ent (by rfl) _ _ (by rfl) (H4.out.2.1.below ((Below.refl _ w4).alloc (H4.out.2.2.2.1) _)) H4.out.2.2.1 (by rw [World.size_alloc]; exact Nat.le_succ_of_le H4.out.2.2.2.1) q HQ.out.1 (by rfl) ⟨t, k, d⟩ HX.out.2 A2 c2 (H4.out.1.below ((Below.refl _ w4).alloc (Nat.le_refl _) _)) ⟨w4.heap.size, 0, none⟩ 1 (by rfl) (fun j _ => cellsE_new w4 _ rfl ⟨⟨t, k, d⟩, A2, c2⟩ _ j) hl5 ?_; intro A6 c6 w6 hE6 hB6; have hbh := H4.out.2.2.2.2.1.behind hB6; have H6 := hid (And.intro hE6 hbh.1); have hk6 : w6.cell? ⟨gm, 15, none⟩ = some (.slice A1 q c1) := (hbh.1.cell (p := ⟨gm, 15, none⟩) (by have := HE.out.rd.lt; show gm < lo; omega)).trans hk4; have hf6 : w6.frozen? ⟨gm, 15, none⟩ = false := row_free hbh.2.row 15; clear hbh hE6 hB6)
            | (go_at_call 91; refine (HC.out.2.2 w3 H3.out.1).mono ?_; rintro e w4 ⟨A2, c2, rfl, h4⟩; have H4 := hid h4; have hk4 := (HK.out w4 _ h4.2.2.2.2.1).1; have hlt4 := (HK.out w4 _ h4.2.2.2.2.1).2.2; clear h4)
            | (go_at_call 89; refine (HC.out.2.1 w2 H2.out.1).mono ?_; rintro e w3 ⟨rfl, h3⟩; have H3 := hid h3; have hk3 := (HK.out w3 _ h3.1).1; clear h3)
            | (go_at_call 89; refine HC.out.1.mono ?_; rintro e w2 ⟨rfl, h2⟩; have H2 := hid h2; have hk2 := (HK.out w2 _ h2.1).1; clear h2))
        all_goals
          have H7 : Hid (EsR w0 W (w6.setCell ⟨gm, 15, none⟩ (.slice A6 (q + 1) c6)) B gm gr lo m n s2 A' c' N (j + 1) A6 c6 (q + 1) s6 (L ++ [⟨t, k, d⟩])) := by
            have hlen2 : (m.es ++ L ++ [(⟨t, k, d⟩ : Rl.En)]).length = q + 1 := by rw [List.length_append, HQ.out.1]; rfl
            have hfew := HE.out.rd.few
            have h5 := H4.out.2.2.2.2.1.put HD.out H6.out.2 hlen2 H6.out.1 (by rw [hlen2, ← HQ.out.1]; exact Nat.succ_le_succ hfew)
            have hst := rdEs_step hlt s3 s2 L HE.out.rest
            rw [HX.out.1] at hst
            refine hid ⟨?_, HE.out.kept.trans (((((Kept.bel (Below.refl lo wr).drew).trans H2.out.2).trans H3.out.2).trans H4.out.2.2.2.2.2).trans ((Kept.bel H6.out.2).trans (Kept.st w6 15 (.slice A6 (q + 1) c6)))), by rw [← List.append_assoc]; exact hlen2, by rw [List.length_append, HE.out.cnt]; rfl, hst⟩
            rw [List.append_assoc] at h5
            exact h5
          clear hk2 hk3 hk4 hlt4 hk6 hf6 hkd hc15
          go_wp2_with fail
          go_roundw
          case rel => exact ⟨j + 1, A6, c6, q + 1, s6, L ++ [⟨t, k, d⟩], by omega, by go_num, H7⟩
          case measure => simp [RowKit.intOf]; omega
      · obtain rfl : j = n := by omega
        have hrest := HE.out.rest
        rw [Nat.sub_self] at hrest
        have hL : rdEs j s2 = (L, s3) := by rw [← hrest]; simp [rdEs]
        have hrd := HE.out.rd
        have HRD : Hid (Rd w0 wr B gm gr lo { m with es := m.es ++ (rdEs j s2).1 } (rdEs j s2).2 A1 c1 A' c' (N + 3000)) := hid (by
          rw [hL]
          exact ⟨hrd.bel, hrd.box, hrd.rdr, hrd.lt, hrd.es, hrd.d, hrd.num, by have h9 : (m.es ++ L).length ≤ N + j := hrd.few; show (m.es ++ L).length ≤ N + 3000; omega, hrd.short⟩)
        clear hrest hL hrd
        go_wp2_with fail
        go_ret
        rw [HR.out]
        exact ⟨A1, c1, A', c', rfl, HRD.out, HE.out.kept, fun e => absurd rfl e, fun _ => ⟨rfl, rfl⟩⟩
end Go.Proofs.YtpigekbfngalbaaDoor.Ms
namespace Go.Proofs.YtpigekbfngalbaaDoor
open Go.RowKit

theorem OwnsB.capZ {e : TypeId} {w : World} {base c : Nat} {A : Option Addr} {l : List Nat} (h : OwnsB e w base A c l) : c ≤ maxLen ∧ (A = none → c = 0) := by
  rcases h.row.2 with ⟨h1, _⟩ | ⟨g, cap, cur, h1, _, _, _, h2, _⟩
  · injection h1 with h1 h2 h3
    exact ⟨by omega, fun _ => h3⟩
  · injection h1 with h3 h4 h5
    exact ⟨by omega, fun h6 => by rw [h3] at h6; cases h6⟩
set_option maxRecDepth 100000 in
set_option maxHeartbeats 400000 in
theorem sclone_any (B : Nat) (A : Option Addr) (c : Nat) (l : List Nat) (hl : l.length ≤ 140737488354000) (w : World) (h : IsBytes w B A l) (hB : B ≤ w.heap.size) (hn : A = none → c = 0) :
    Calls Tryd.prog 88 #[.slice A l.length c] w fun e w' => ∃ A' c', e = .returned (.slice A' l.length c') ∧ OwnsB 5 w' w.heap.size A' c' l ∧ Below w.heap.size w w' := by
  obtain ⟨i0, hi, hz0, hz1, hz2⟩ := info_parts info_u8
  have hq := fun (w : World) (a : Option Addr) (n c : Nat) => Lib.run_eql_slice_nil (P := Tryd.prog) w 23 5 a n c 0 0 Tryd.underlying23
  rcases A with _ | ad
  · obtain rfl := hn rfl
    obtain rfl := h.of_none
    go_enter Tryd.func88, Tryd.ntmps88
    go_wp2
    go_ret
    exact ⟨none, 0, rfl, OwnsB.nil _ _ _, Below.refl _ _⟩
  · have hbel : Below w.heap.size w (w.alloc (.cells #[] 5)) := (Below.refl _ _).alloc (Nat.le_refl _) _
    have hown : OwnsB 5 (w.alloc (.cells #[] 5)) w.heap.size (some ⟨w.heap.size, 0, none⟩) 0 [] := by
      refine ⟨by simp, by simp [bytes], .inr ⟨w.heap.size, 0, _, rfl, Nat.le_refl _, heap_alloc_new w _, Nat.zero_le _, by unfold maxLen; omega, by simp, by simp [bytes]⟩⟩
    have hs : IsBytes (w.alloc (.cells #[] 5)) w.heap.size (some ad) l := (h.more hB).below hbel
    have HB := hid hbel
    have hsz := hbel.size
    have HS := hid hsz
    clear hbel hsz
    go_enter Tryd.func88, Tryd.ntmps88
    go_wp2_with (at_builtin; refine wpList_append_bytesN rfl _ _ 23 rfl w.heap.size 5 i0 Tryd.underlying23 hi hz0 hz1 hz2 (some ⟨w.heap.size, 0, none⟩) 0 [] 0 rfl rfl hown w.heap.size (some ad) c l l.length rfl rfl hn hs l (List.nil_append _) (by omega) HS.out ?_)
    intro A3 c3 w2 hown2 hbel2
    have HB2 := hid (HB.out.trans hbel2)
    clear hown hs hbel2
    go_wp2
    go_ret
    exact ⟨A3, c3, ret_len (by simp), hown2, HB2.out⟩

/-- a reader that is made; it stays whatever is written into one block that was there ahead of it -/
def Fresh (w : World) (l : List Nat) (e : Ending) (w' : World) : Prop :=
  ∃ g, e = .returned (.pointer (some ⟨g, 0, none⟩)) ∧ w.heap.size ≤ g ∧ (∀ w2 row, w'.grownBy w2 row → (∀ k, row = some k → k < w.heap.size) → Rdr w2 g ⟨l, false⟩) ∧ Below w.heap.size w w'
set_option maxRecDepth 100000 in
set_option maxHeartbeats 400000 in
theorem read_keep (B : Nat) (A : Option Addr) (c : Nat) (l : List Nat) (hl : l.length ≤ 140737488354000) (w : World) (h : IsBytes w B A l) (hB : B ≤ w.heap.size) (hn : A = none → c = 0) :
    Calls Tryd.prog 73 #[.slice A l.length c] w (Fresh w l) := by
  have HC := hid (sclone_any B A c l hl w h hB hn)
  have hsm := h.small
  clear h hn
  go_enter Tryd.func73, Tryd.ntmps73
  go_wp2_with fail
  refine HC.out.mono ?_
  rintro e w1 ⟨A1, c1, rfl, hown, hbel⟩
  have hcap := hown.cap
  have hcap2 := hown.capZ
  have hm : l.length ≤ 9223372036854775807 := by have := hcap2.1; unfold maxLen at this; omega
  have hm2 : c1 ≤ 9223372036854775807 := by have := hcap2.1; unfold maxLen at this; omega
  have hsz := hbel.size
  have hblk := hown.blkLt
  clear HC
  have HR : Hid (∀ A2, (l = [] ∨ A2 = A1) → (A2 = none → l.length = 0) → ∀ w2 row, (w1.alloc (.cells #[.slice A2 l.length l.length, .bool false] 100)).grownBy w2 row → (∀ k, row = some k → k < w.heap.size) → Rdr w2 w1.heap.size ⟨l, false⟩) := by
    intro A2 hA hn2 w2 row hG hr
    have hr1 : some w1.heap.size ≠ row := fun e => by have := hr _ e.symm; omega
    refine ⟨hsm, fun h => (by cases h), A2, l.length, (hG.block w1.heap.size (by simp) hr1).trans (heap_alloc_new w1 _), ?_, Nat.le_refl _, by unfold maxLen; omega, hn2⟩
    rcases hA with rfl | rfl
    · exact IsBytes.nil
    · have h3 : OwnsB 5 w2 w.heap.size A2 c1 l := (hown.alloc _).grown hG hr
      refine ⟨h3.small, fun k hk => ?_⟩
      obtain ⟨b, off, e, _, hc⟩ := h3.reads.cells k hk
      exact ⟨b, off, e, (hblk b (by rw [e]; rfl)).2, hc⟩
  have HB : Hid (∀ o, Below w.heap.size w (w1.alloc o)) := fun o => hbel.alloc hsz o
  have hl0 := fun e => (hcap2.2 e)
  clear hbel hcap2 hown hblk
  rcases A1 with _ | ad
  · have hc0 : c1 = 0 := hl0 rfl
    obtain rfl := hc0
    obtain rfl : l = [] := List.eq_nil_of_length_eq_zero (by omega)
    clear hl0
    go_wp2
    go_ret
    exact ⟨_, rfl, hsz, HR.out none (by simp) (by simp), HB.out _⟩
  · clear hl0
    go_wp2
    go_ret
    exact ⟨_, rfl, hsz, HR.out (some ad) (.inr rfl) (fun h => by cases h), HB.out _⟩
theorem packRead_any (B : Nat) (A : Option Addr) (c : Nat) (l : List Nat) (hl : l.length ≤ 140737488354000) (w : World) (h : IsBytes w B A l) (hB : B ≤ w.heap.size) (hn : A = none → c = 0) :
    Calls Tryd.prog 73 #[.slice A l.length c] w fun e w' => ∃ g, e = .returned (.pointer (some ⟨g, 0, none⟩)) ∧ w.heap.size ≤ g ∧ Rdr w' g ⟨l, false⟩ ∧ Below w.heap.size w w' :=
  (read_keep B A c l hl w h hB hn).mono fun e w' ⟨g, he, hg, hR, hb⟩ => ⟨g, he, hg, hR w' none (grown_refl _ _) (fun k hk => by cases hk), hb⟩
end Go.Proofs.YtpigekbfngalbaaDoor
namespace Go.Proofs.YtpigekbfngalbaaDoor.Ms
open Go.RowKit
set_option maxRecDepth 100000
set_option linter.unusedVariables false
attribute [local go_sem ↓] loadAt_msg storeAt_msg

/-- any field; of Entries and Data a kind has one at the most -/
theorem getField_any (w0 W : World) (B gm gr lo : Nat) (m : M) (s : Pk.St) (A : Option Addr) (c : Nat) (A' : Option Addr) (c' N : Nat) (h : Rd w0 W B gm gr lo m s A c A' c' N) (hN : N ≤ 50000) (r : Nat) (hr : r ∈ nums ∨ r = 111 ∨ r = 101 ∨ r = 100) (hd : r = 101 → A' = none ∧ c' = 0) :
    Calls Tryd.prog 74 #[.pointer (some ⟨gr, 0, none⟩), .pointer (some ⟨gm, 0, none⟩), .int .i32 (r : Int)] W fun e w' => Told w0 W B gm gr lo N A c A' c' r (rdF m s r) e w' := by
  rcases hr with hr | rfl | rfl | rfl
  · exact getNum_any w0 W B gm gr lo m s A c A' c' N h r hr
  · exact getOk_any w0 W B gm gr lo m s A c A' c' N h
  · exact getEs_any w0 W B gm gr lo m s A c A' c' N h hN (hd rfl)
  · exact getData_any w0 W B gm gr lo m s A c A' c' N h
/-- the message's box that a call tells -/
theorem results_msg {fn : Func} {p q : Tmp} (h : fn.results = #[.cell p 25, .tmp q]) (tmps : Array Value) (w : World) (g : Nat) (t : TypeId) (cs : Array Value) (fr : Nat × Nat)
    (hp : tmps.getD p undef = .pointer (some ⟨g, 0, none⟩)) (hg : w.heap[g]? = some (.cells cs t fr)) (hs : cs.size = 17) :
    (results fn tmps).run Tryd.prog w = .ok (.tuple #[.agg cs, tmps.getD q undef]) w := by
  have hl := run_loadVar_row w g t 25 cs fr _ hg Tryd.underlying25 rfl (by rw [info_msg, hs])
  have hp' : tmps[p]?.getD undef = .pointer (some ⟨g, 0, none⟩) := by simpa using hp
  simp [results, h, hp', asAddr, hl]
theorem st_row (w : World) (b : Nat) (cs cs' : Array Value) (hg : w.heap[b]? = some (.cells cs 25 (0, 0))) (h : cs.size = 17) (h' : cs'.size = 17) (h1 : cs'.all (·.oneCell') = true) : (stMsg (.pointer (some ⟨b, 0, none⟩)) (.agg cs')).run Tryd.prog w = .ok () (w.setRow b cs') :=
  run_storeVar_row w b _ _ cs cs' hg (by rw [info_msg, h']) (by rw [h, h']) h1
theorem st_same (w : World) (b : Nat) (cs : Array Value) (hg : w.heap[b]? = some (.cells cs 25 (0, 0))) (h : cs.size = 17) (h1 : cs.all (·.oneCell') = true) : (stMsg (.pointer (some ⟨b, 0, none⟩)) (.agg cs)).run Tryd.prog w = .ok () w := by
  have := st_row w b cs cs hg h h h1
  rw [setRow_self w b cs _ _ hg] at this
  exact this
/-- the message nought: its cells as the walk spells them -/
def Zero (w : World) (b : Nat) : Prop := w.heap[b]? = some (.cells #[.int .i64 0, .int .i64 0, .int .i64 0, .int .i64 0, .int .i64 0, .int .i64 0, .int .i64 0, .int .i64 0, .int .i64 0, .int .i64 0, .int .i64 0, .int .i64 0, .int .i64 0, .int .i64 0, .bool false, .slice none 0 0, .slice none 0 0] 25 (0, 0))
theorem zero_bx {w : World} {b : Nat} (h : Zero w b) : Bx w b M0 none 0 none 0 := ⟨h⟩
theorem zero_st {w : World} {b : Nat} (h : Zero w b) : (stMsg (.pointer (some ⟨b, 0, none⟩)) (.agg #[.int .i64 0, .int .i64 0, .int .i64 0, .int .i64 0, .int .i64 0, .int .i64 0, .int .i64 0, .int .i64 0, .int .i64 0, .int .i64 0, .int .i64 0, .int .i64 0, .int .i64 0, .int .i64 0, .bool false, .slice none 0 0, .slice none 0 0])).run Tryd.prog w = .ok () w :=
  st_same w b _ h rfl (by simp [Value.oneCell'])
theorem msg_one (m : M) (A : Option Addr) (c : Nat) (A' : Option Addr) (c' : Nat) : (#[.int .i64 m.K, .int .i64 m.F, .int .i64 m.T, .int .i64 m.g, .int .i64 m.t, .int .i64 m.i, .int .i64 m.p, .int .i64 m.c, .int .i64 m.r, .int .i64 m.x, .int .i64 m.a, .int .i64 m.b, .int .i64 m.v, .int .i64 m.s, .bool m.ok, .slice A m.es.length c, .slice A' m.d.length c'] : Array Value).all (·.oneCell') = true := by simp [Value.oneCell']
theorem set_turned (w : World) (b : Nat) (cs : Array Value) : Turned (fun k => k = b) w (w.setRow b cs) := ⟨rfl, rfl, rfl, by simp, fun k _ hk => setRow_other w b k cs hk⟩
/-- a message that the call has made -/
structure OwnM (w : World) (B : Nat) (m : M) (A : Option Addr) (c : Nat) (A' : Option Addr) (c' : Nat) : Prop where
  num : ∀ r ∈ nums, InInt (m.num r)
  es : OwnE w B w.heap.size A c m.es
  d : OwnsB 5 w B A' c' m.d
  one : (A = none ∧ c = 0) ∨ (A' = none ∧ c' = 0)
  few : m.es.length ≤ 50000
theorem M0_num : ∀ r ∈ nums, InInt (M0.num r) := by
  intro r hr
  simp only [nums, List.mem_cons, List.not_mem_nil, or_false] at hr
  rcases hr with rfl | rfl | rfl | rfl | rfl | rfl | rfl | rfl | rfl | rfl | rfl | rfl | rfl | rfl <;> exact ⟨by decide, by decide⟩
theorem OwnM.zero (w : World) (B : Nat) : OwnM w B M0 none 0 none 0 := ⟨M0_num, OwnE.nil _ _ _, OwnsB.nil _ _ _, .inl ⟨rfl, rfl⟩, Nat.zero_le _⟩
theorem Rd.start {w0 W : World} {B gm gr : Nat} (hb : Below B w0 W) (hx : Zero W gm) {l : List Nat} (hr : Rdr W gr ⟨l, false⟩) (hB : B ≤ gm) (hg : gm < gr) (hl : l.length ≤ 65536) : Rd w0 W B gm gr W.heap.size M0 ⟨l, false⟩ none 0 none 0 0 :=
  ⟨hb, zero_bx hx, hr, ⟨hB, hg, hr.lt, Nat.le_refl _⟩, OwnE.nil _ _ _, OwnsB.nil _ _ _, M0_num, Nat.le_refl _, hl⟩
/-- an iterator is made, ahead of which nothing is owned -/
theorem Rd.iter {w0 W : World} {B gm gr lo : Nat} {m : M} {s : Pk.St} {N : Nat} (h : Rd w0 W B gm gr lo m s none 0 none 0 N) (x : ByteArray) : Rd w0 (W.iter x 0) B gm gr (W.heap.size + 1) m s none 0 none 0 N := by
  have hl := h.lt
  have hb : Below W.heap.size W (W.iter x 0) := (iter_at W x).2
  have hs : (W.iter x 0).heap.size = W.heap.size + 1 := by show (W.heap.push _).size = _; simp
  have he : m.es = [] := by
    rcases hh : m.es with _ | ⟨e, L⟩
    · rfl
    · obtain ⟨b, off, e, _⟩ := h.es.reads.cells 0 (by rw [hh]; simp)
      cases e
  have hd : m.d = [] := h.d.reads.of_none
  refine ⟨h.bel.trans (hb.mono (by omega)), h.box.below hb (by omega), h.rdr.below (hb.mono (by omega)), ⟨hl.1, hl.2.1, by omega, by rw [hs]; exact Nat.le_refl _⟩, ?_, ?_, h.num, h.few, h.short⟩
  · rw [he]; exact OwnE.nil _ _ _
  · rw [hd]; exact OwnsB.nil _ _ _
theorem Rd.iterAt {w0 W : World} {B gm gr lo : Nat} {m : M} {s : Pk.St} {A A' : Option Addr} {c c' N : Nat} (h : Rd w0 W B gm gr lo m s A c A' c' N) {k pos : Nat} {x : ByteArray} (hk : W.heap[k]? = some (.stringIter x pos)) (h1 : gr < k) (h2 : k < lo) (p2 : Nat) : Rd w0 (W.iterAt k x p2) B gm gr lo m s A c A' c' N := by
  have hl := h.lt
  have hs := Lib.iterAt_size W k x p2
  have ht : Turned (fun j => j = k) W (W.iterAt k x p2) := ⟨rfl, rfl, rfl, by rw [hs]; exact Nat.le_refl _, fun j _ hj => Lib.iterAt_other W k j x p2 hj⟩
  refine ⟨Lib.below_iterAt h.bel (by omega) x p2, ⟨(Lib.iterAt_other W k gm x p2 (by omega)).trans h.box.row⟩, h.rdr.below (Lib.below_iterAt (Below.refl _ W) (by omega) x p2), ⟨hl.1, hl.2.1, hl.2.2.1, by rw [hs]; exact hl.2.2.2⟩, ?_, own_iterAt h.d hk, h.num, h.few, h.short⟩
  exact (h.es.keep ht (fun j hj hB => by have := hB.1; omega)).wide (Nat.le_refl _) (by rw [hs]; exact Nat.le_refl _)
/-! The fields, one by one. -/
theorem rdFs_snoc (L : List Nat) (r : Nat) : ∀ (m : M) (s : Pk.St), rdFs (L ++ [r]) m s = match rdFs L m s with | none => none | some (m', s') => rdF m' s' r := by
  induction L with
  | nil =>
    intro m s
    show (match rdF m s r with | none => none | some (m', s') => rdFs [] m' s') = rdF m s r
    rcases rdF m s r with _ | ⟨m', s'⟩ <;> rfl
  | cons q L ih =>
    intro m s
    show (match rdF m s q with | none => none | some (m', s') => rdFs (L ++ [r]) m' s') = match (match rdF m s q with | none => none | some (m', s') => rdFs L m' s') with | none => none | some (m', s') => rdF m' s' r
    rcases rdF m s q with _ | ⟨m', s'⟩
    · rfl
    · exact ih m' s'
theorem rdFs_none (L K : List Nat) : ∀ (m : M) (s : Pk.St), rdFs L m s = none → rdFs (L ++ K) m s = none := by
  induction L with
  | nil => intro m s h; cases h
  | cons q L ih =>
    intro m s h
    show (match rdF m s q with | none => none | some (m', s') => rdFs (L ++ K) m' s') = none
    have h' : (match rdF m s q with | none => none | some (m', s') => rdFs L m' s') = none := h
    rcases hq : rdF m s q with _ | ⟨m', s'⟩
    · rfl
    · rw [hq] at h'; exact ih m' s' h'
theorem rdFs_at {L : List Nat} {j : Nat} (hj : j < L.length) {m0 m : M} {s0 s : Pk.St} (h : rdFs (L.take j) m0 s0 = some (m, s)) : rdFs (L.take (j + 1)) m0 s0 = rdF m s L[j] := by
  rw [List.take_succ_eq_append_getElem hj, rdFs_snoc, h]
theorem rdFs_stop {L : List Nat} {j : Nat} (hj : j < L.length) {m0 m : M} {s0 s : Pk.St} (h : rdFs (L.take j) m0 s0 = some (m, s)) (hn : rdF m s L[j] = none) : rdFs L m0 s0 = none := by
  have := rdFs_none (L.take (j + 1)) (L.drop (j + 1)) m0 s0 (by rw [rdFs_at hj h, hn])
  rwa [List.take_append_drop] at this
theorem rdFs_head (l : List Nat) : rdFs head M0 ⟨l, false⟩ = some (head3 l) := rfl
theorem rdF_num (m : M) (s : Pk.St) (r : Nat) (hr : r ∈ nums) : rdF m s r = some (m.set r (Pk.rdInt s).1, (Pk.rdInt s).2) := by
  have : r ≠ 111 ∧ r ≠ 101 ∧ r ≠ 100 := by
    simp only [nums, List.mem_cons, List.not_mem_nil, or_false] at hr
    omega
  unfold rdF; rw [if_neg this.1, if_neg this.2.1, if_neg this.2.2]
theorem head_num : ∀ r ∈ head, r ∈ nums := by decide
theorem head_small : ∀ r ∈ head, r < 128 := by decide
theorem tab_one (k : Nat) : 101 ∈ tab k → 100 ∉ tab k := by
  unfold tab
  split <;> decide
theorem strOf_head : ByteArray.mk #[75, 70, 84] = strOf head := rfl

theorem Rd.few_le {w0 W : World} {B gm gr lo : Nat} {m : M} {s : Pk.St} {A A' : Option Addr} {c c' N N' : Nat} (h : Rd w0 W B gm gr lo m s A c A' c' N) (hN : N ≤ N') : Rd w0 W B gm gr lo m s A c A' c' N' :=
  ⟨h.bel, h.box, h.rdr, h.lt, h.es, h.d, h.num, Nat.le_trans h.few hN, h.short⟩
theorem dec_bad {l : List Nat} {m : M} {s : Pk.St} (h : head3 l = (m, s)) (hb : s.bad = true) : dec l = (M0, 4) := by
  unfold dec; rw [h, if_pos hb]
theorem dec_kind {l : List Nat} {m : M} {s : Pk.St} (h : head3 l = (m, s)) (hb : s.bad = false) (hk : m.isKind = false) : dec l = (M0, 13) := by
  unfold dec; rw [h, if_neg (by simp [hb]), if_pos hk]
theorem dec_none {l : List Nat} {m : M} {s : Pk.St} (h : head3 l = (m, s)) (hb : s.bad = false) (hk : m.isKind = true) (hr : rdFs (tab m.kind) m s = none) : dec l = (M0, 4) := by
  unfold dec body; rw [h, if_neg (by simp [hb]), if_neg (by simp [hk]), hr]
theorem dec_left {l : List Nat} {m m1 : M} {s s1 : Pk.St} (h : head3 l = (m, s)) (hb : s.bad = false) (hk : m.isKind = true) (hr : rdFs (tab m.kind) m s = some (m1, s1)) (ho : over s1 = false) : dec l = (M0, 4) := by
  unfold dec body; rw [h, if_neg (by simp [hb]), if_neg (by simp [hk]), hr]; simp [ho]
theorem dec_some {l : List Nat} {m m1 : M} {s s1 : Pk.St} (h : head3 l = (m, s)) (hb : s.bad = false) (hk : m.isKind = true) (hr : rdFs (tab m.kind) m s = some (m1, s1)) (ho : over s1 = true) : dec l = (m1, 0) := by
  unfold dec body; rw [h, if_neg (by simp [hb]), if_neg (by simp [hk]), hr]; simp [ho]
theorem over_end (s : Pk.St) : (endOf s = 0 → over s = true) ∧ (endOf s ≠ 0 → over s = false) := by
  unfold endOf over
  rcases hb : s.bad with _ | _
  · by_cases h : s.rest.length = 0
    · simp [h]
    · have : 0 < s.rest.length := by omega
      simp [this, List.length_pos_iff.1 this]
  · simp
/-- the box that is told, and the message that is told in it -/
theorem done_zero {w0 w w' : World} {l : List Nat} {n : Nat} (hd : dec l = (M0, n)) (hb : Below w.heap.size w w') :
    ∃ A c A' c', Ending.returned (.tuple #[.agg #[.int .i64 M0.K, .int .i64 M0.F, .int .i64 M0.T, .int .i64 M0.g, .int .i64 M0.t, .int .i64 M0.i, .int .i64 M0.p, .int .i64 M0.c, .int .i64 M0.r, .int .i64 M0.x, .int .i64 M0.a, .int .i64 M0.b, .int .i64 M0.v, .int .i64 M0.s, .bool M0.ok, .slice none M0.es.length 0, .slice none M0.d.length 0], .int .i64 (n : Int)]) = .returned (.tuple #[.agg #[.int .i64 ((dec l).1).K, .int .i64 ((dec l).1).F, .int .i64 ((dec l).1).T, .int .i64 ((dec l).1).g, .int .i64 ((dec l).1).t, .int .i64 ((dec l).1).i, .int .i64 ((dec l).1).p, .int .i64 ((dec l).1).c, .int .i64 ((dec l).1).r, .int .i64 ((dec l).1).x, .int .i64 ((dec l).1).a, .int .i64 ((dec l).1).b, .int .i64 ((dec l).1).v, .int .i64 ((dec l).1).s, .bool ((dec l).1).ok, .slice A ((dec l).1).es.length c, .slice A' ((dec l).1).d.length c'], .int .i64 (((dec l).2 : Nat) : Int)]) ∧ OwnM w' w.heap.size (dec l).1 A c A' c' ∧ Below w.heap.size w w' := by
  rw [hd]; exact ⟨none, 0, none, 0, rfl, OwnM.zero _ _, hb⟩
set_option maxHeartbeats 6400000 in
theorem decode_any (l : List Nat) (A0 : Option Addr) (c0 : Nat) (w : World) (h : IsBytes w w.heap.size A0 l) (hn : A0 = none → c0 = 0) (hl : l.length ≤ 65536) (hT : Tab w) :
    Calls Tryd.prog 50 #[.slice A0 l.length c0] w fun e w' => ∃ A c A' c', e = .returned (.tuple #[.agg #[.int .i64 ((dec l).1).K, .int .i64 ((dec l).1).F, .int .i64 ((dec l).1).T, .int .i64 ((dec l).1).g, .int .i64 ((dec l).1).t, .int .i64 ((dec l).1).i, .int .i64 ((dec l).1).p, .int .i64 ((dec l).1).c, .int .i64 ((dec l).1).r, .int .i64 ((dec l).1).x, .int .i64 ((dec l).1).a, .int .i64 ((dec l).1).b, .int .i64 ((dec l).1).v, .int .i64 ((dec l).1).s, .bool ((dec l).1).ok, .slice A ((dec l).1).es.length c, .slice A' ((dec l).1).d.length c'], .int .i64 (((dec l).2 : Nat) : Int)]) ∧ OwnM w' w.heap.size (dec l).1 A c A' c' ∧ Below w.heap.size w w' := by
  obtain ⟨wA, hwA⟩ : ∃ wA, wA = w.alloc (.cells #[.int .i64 0, .int .i64 0, .int .i64 0, .int .i64 0, .int .i64 0, .int .i64 0, .int .i64 0, .int .i64 0, .int .i64 0, .int .i64 0, .int .i64 0, .int .i64 0, .int .i64 0, .int .i64 0, .bool false, .slice none 0 0, .slice none 0 0] 25) := ⟨_, rfl⟩
  obtain ⟨wB, hwB⟩ : ∃ wB, wB = wA.alloc (.cells #[.int .i64 0, .int .i64 0, .int .i64 0, .int .i64 0, .int .i64 0, .int .i64 0, .int .i64 0, .int .i64 0, .int .i64 0, .int .i64 0, .int .i64 0, .int .i64 0, .int .i64 0, .int .i64 0, .bool false, .slice none 0 0, .slice none 0 0] 25) := ⟨_, rfl⟩
  have hsA : wA.heap.size = w.heap.size + 1 := by rw [hwA]; simp
  have hsB : wB.heap.size = w.heap.size + 2 := by rw [hwB]; simp [hsA]
  have hbA : Below w.heap.size w wA := by rw [hwA]; exact (Below.refl _ w).alloc (Nat.le_refl _) _
  have hbB : Below wA.heap.size wA wB := by rw [hwB]; exact (Below.refl _ wA).alloc (Nat.le_refl _) _
  have hzA : Zero wA w.heap.size := by rw [hwA]; exact heap_alloc_new w _
  have hzB : Zero wB (w.heap.size + 1) := by rw [hwB, ← hsA]; exact heap_alloc_new wA _
  have hst := zero_st hzB
  have HRD := hid (packRead_any wB.heap.size A0 c0 l (by omega) wB ((h.below (hbA.trans (hbB.mono (by omega)))).more (by omega)) (Nat.le_refl _) hn)
  have HW := hid (And.intro hbA (And.intro hbB (And.intro hzA (And.intro hzB (And.intro hsA hsB)))))
  have HT := hid hT
  have HL := hid hl
  have hpos := hT.pos
  go_enter Tryd.func50, Tryd.ntmps50
  rw [hwB, hwA] at hst
  clear hbA hbB hzA hzB h hT hl hn
  go_wp2_with fail
  rw [← hwA, ← hwB]
  have HST := hid hst
  clear hst
  refine HRD.out.mono ?_
  rintro e w2 ⟨gr, rfl, hgr, hR, hb2⟩
  have hbz : Below wA.heap.size wA w2 := HW.out.2.1.trans (hb2.mono (by omega))
  have HZ2 : Hid (Zero w2 (w.heap.size + 1)) := hid ((hb2.block _ (by omega)).trans HW.out.2.2.2.1)
  have hR0 := Rd.start (w0 := wA) (B := wA.heap.size) (gm := w.heap.size + 1) hbz HZ2.out hR (by omega) (by omega) HL.out
  have HR0 := hid (And.intro (hR0.iter (strOf head)) (iter_at w2 (strOf head)))
  have hgr2 := hR.lt
  clear HRD hb2 hbz hR0 hR HZ2
  go_wp2_with fail
  rw [strOf_head]
  generalize (w2.iter (strOf head) 0) = w3 at HR0 ⊢
  go_loopw [7] (fun _ wr => ∃ pos : Nat, ∃ m : M, ∃ s : Pk.St, pos ≤ 3 ∧ Hid (rdFs (head.take pos) M0 ⟨l, false⟩ = some (m, s)) ∧ Hid (Rd wA wr wA.heap.size (w.heap.size + 1) gr (w2.heap.size + 1) m s none 0 none 0 (3000 * pos)) ∧ Hid (wr.heap[w2.heap.size]? = some (.stringIter (strOf head) pos))) (fun _ wr => 3 - wr.iterPos w2.heap.size)
  case atStart => exact ⟨0, M0, ⟨l, false⟩, Nat.zero_le _, hid rfl, hid HR0.out.1, hid HR0.out.2.1⟩
  case round =>
    clear HR0
    obtain ⟨pos, m, s, hp3, HF, HR, HI⟩ := hrel
    by_cases hp : pos < head.length
    · have hnx : ∀ ty, (Instr.next (.pointer (some ⟨w2.heap.size, 0, none⟩)) true ty).run Tryd.prog wr = _ := fun ty => next_at wr w2.heap.size head head_small pos ty HI.out hp
      have hiI := Lib.iterAt_heap wr w2.heap.size (strOf head) pos (pos + 1) HI.out
      have hRI := HR.out.iterAt HI.out hgr2 (Nat.lt_succ_self _) (pos + 1)
      obtain ⟨wi, hwi⟩ : ∃ wi, wi = wr.iterAt w2.heap.size (strOf head) (pos + 1) := ⟨_, rfl⟩
      rw [← hwi] at hiI hRI
      rw [← hwi] at hnx
      have hq := head_num _ (List.getElem_mem hp)
      have HFN := hid (rdFs_at hp HF.out)
      have HX := hid (And.intro hiI hRI)
      have HP := hid hp
      have h3 : 3000 * pos ≤ 50000 := by have : head.length = 3 := rfl; omega
      clear hwi hiI hRI
      generalize head[pos] = q at hnx hq HFN
      rw [rdF_num m s q hq] at HFN
      have hg := getField_any wA wi wA.heap.size (w.heap.size + 1) gr (w2.heap.size + 1) m s none 0 none 0 (3000 * pos) HX.out.2 h3 q (Or.inl hq) (fun _ => ⟨rfl, rfl⟩)
      rw [rdF_num m s q hq] at hg
      have HG := hid hg
      have hq2 : q ≠ 101 ∧ q ≠ 100 := by
        simp only [nums, List.mem_cons, List.not_mem_nil, or_false] at hq
        omega
      have HQ2 := hid hq2
      clear hg hq hq2
      go_wp2_with fail
      refine HG.out.mono ?_
      rintro e w4 ⟨A2, c2, A3, c3, rfl, hrd, hkp, hA2, hA3⟩
      obtain ⟨rfl, rfl⟩ := hA2 HQ2.out.1
      obtain ⟨rfl, rfl⟩ := hA3 HQ2.out.2
      have HY := hid (And.intro hrd ((hkp.same w2.heap.size (Nat.lt_succ_self _) (row_lt HX.out.1) (by omega) (by omega)).trans HX.out.1))
      clear hrd hkp hnx hA2 hA3
      go_wp2_with fail
      go_roundw
      case rel => exact ⟨pos + 1, _, _, by have := HP.out; have : head.length = 3 := rfl; omega, HFN, hid HY.out.1, hid HY.out.2⟩
      case measure =>
        simp only [World.iterPos, HY.out.2, HI.out]
        have := HP.out
        have : head.length = 3 := rfl
        omega
    · obtain ⟨wo, rfl⟩ : ∃ wo : World, wo = wr := ⟨_, rfl⟩
      have hnx : ∀ ty, (Instr.next (.pointer (some ⟨w2.heap.size, 0, none⟩)) true ty).run Tryd.prog wo = _ := fun ty => next_end wo w2.heap.size head pos ty HI.out hp
      have hF2 := HF.out
      rw [List.take_of_length_le (by omega), rdFs_head] at hF2
      have HH3 := hid (Option.some.inj hF2)
      clear hF2
      have hbad := hid (bad_rdr gr s wo HR.out.rdr)
      have hzr : Zero wo w.heap.size := (HR.out.bel.block _ (by omega)).trans HW.out.2.2.1
      have hst1 := zero_st hzr
      have HZR := hid hzr
      have hc0 := HR.out.box.c0
      have hpos3 : pos = 3 := by have : head.length = 3 := rfl; omega
      have HRR := hid (HR.out.few_le (N' := 9000) (by omega))
      have HBW : Hid (∀ wz, Below wA.heap.size wA wz → Below w.heap.size w wz ∧ Zero wz w.heap.size) := hid fun wz hb => ⟨HW.out.1.trans (hb.mono (by omega)), (hb.block _ (by omega)).trans HW.out.2.2.1⟩
      clear HR hzr hp hpos3 hp3
      rcases hb : s.bad with _ | _
      · have HBAD := hid hb
        rw [hb] at hbad
        clear hb
        obtain ⟨b1, hb1⟩ : ∃ b, b = m.isKind := ⟨_, rfl⟩
        have H1 := hid hb1
        have HK := isKind_any m
        rw [← hb1] at HK
        have HKK := hid HK
        clear HK hb1
        go_wp2_with fail
        refine hbad.out.mono ?_
        rintro e w4 ⟨rfl, hw4⟩
        rw [← hw4]
        clear hw4
        go_wp2_with fail
        refine (HKK.out _).mono ?_
        rintro e w4 ⟨rfl, hw4⟩
        rw [hw4]
        clear hw4
        cases b1
        · go_wp2_with fail
          refine bodyPost_ret (results_msg rfl _ _ w.heap.size _ _ _ rfl HZR.out rfl) rfl ?_
          exact done_zero (w0 := w) (dec_kind HH3.out HBAD.out H1.out.symm) (HBW.out _ HRR.out.bel).1
        · obtain ⟨k, hK, hk1, hk2, hkind⟩ := kind_of H1.out.symm
          have k0 : 0 ≤ m.K := by omega
          have k12 : m.K < 12 := by omega
          have HM : Hid (m.kind = m.K.toNat ∧ m.K.toNat < 12) := ⟨rfl, by omega⟩
          have ht : wo.cell? ⟨0, m.K.toNat, none⟩ = some (.string (strOf (tab m.kind))) := (HT.out.below (HBW.out _ HRR.out.bel).1 hpos) _ HM.out.2
          have HR5 := hid (And.intro (HRR.out.iter (strOf (tab m.kind))) (iter_at wo (strOf (tab m.kind))))
          have hgr5 := HRR.out.rdr.lt
          clear hK hk1 hk2 hkind hst1
          go_wp2_with fail
          generalize (wo.iter (strOf (tab m.kind)) 0) = w5 at HR5 ⊢
          have hrsz : wo.heap.size = wo.heap.size := rfl
          go_loopw [9] (fun _ wr => ∃ (p : Nat) (m1 : M) (s1 : Pk.St) (A : Option Addr) (c : Nat) (A' : Option Addr) (c' : Nat), p ≤ 7 ∧ Hid (rdFs ((tab m.kind).take p) m s = some (m1, s1)) ∧ Hid (Rd wA wr wA.heap.size (w.heap.size + 1) gr (wo.heap.size + 1) m1 s1 A c A' c' (9000 + 3000 * p)) ∧ Hid (wr.heap[wo.heap.size]? = some (.stringIter (strOf (tab m.kind)) p)) ∧ Hid ((101 ∉ (tab m.kind).take p → A = none ∧ c = 0) ∧ (100 ∉ (tab m.kind).take p → A' = none ∧ c' = 0))) (fun _ wr => 7 - wr.iterPos wo.heap.size)
          case atStart => exact ⟨0, m, s, none, 0, none, 0, Nat.zero_le _, hid rfl, hid HR5.out.1, hid HR5.out.2.1, hid ⟨fun _ => ⟨rfl, rfl⟩, fun _ => ⟨rfl, rfl⟩⟩⟩
          case round =>
            clear HR5 ht hc0
            obtain ⟨p, m1, s1, A, c, A', c', hp7, HF5, HR5, HI5, HO5⟩ := hrel
            by_cases hp : p < (tab m.kind).length
            · have hnx : ∀ ty, (Instr.next (.pointer (some ⟨wo.heap.size, 0, none⟩)) true ty).run Tryd.prog wr = _ := fun ty => next_at wr wo.heap.size (tab m.kind) (tab_small _) p ty HI5.out hp
              have hiI := Lib.iterAt_heap wr wo.heap.size (strOf (tab m.kind)) p (p + 1) HI5.out
              have hRI := HR5.out.iterAt HI5.out hgr5 (Nat.lt_succ_self _) (p + 1)
              obtain ⟨wi, hwi⟩ : ∃ wi, wi = wr.iterAt wo.heap.size (strOf (tab m.kind)) (p + 1) := ⟨_, rfl⟩
              rw [← hwi] at hiI hRI
              rw [← hwi] at hnx
              have hq := tab_field _ _ (List.getElem_mem hp)
              have HFN := hid (rdFs_at hp HF5.out)
              have HST := hid (fun hn => rdFs_stop hp HF5.out hn)
              have HX := hid (And.intro hiI hRI)
              have HP := hid hp
              have htl := tab_length m.kind
              have h3 : 9000 + 3000 * p ≤ 50000 := by omega
              have htk : (tab m.kind).take (p + 1) = (tab m.kind).take p ++ [(tab m.kind)[p]] := List.take_succ_eq_append_getElem hp
              have hmem := List.getElem_mem hp
              clear hwi hiI hRI
              generalize (tab m.kind)[p] = q at hnx hq HFN HST htk hmem
              have h101 : q = 101 → A' = none ∧ c' = 0 := fun e => HO5.out.2 (fun hin => tab_one m.kind (by rw [← e]; exact hmem) (List.mem_of_mem_take hin))
              have HG := hid (getField_any wA wi wA.heap.size (w.heap.size + 1) gr (wo.heap.size + 1) m1 s1 A c A' c' (9000 + 3000 * p) HX.out.2 h3 q hq h101)
              have HTK := hid (And.intro htk (And.intro h101 hmem))
              clear hq htk h101 hmem htl
              rcases hrd : rdF m1 s1 q with _ | ⟨m2, s2⟩
              · have HD := hid (dec_none HH3.out HBAD.out H1.out.symm (HST.out hrd))
                rw [hrd] at HG
                clear hrd
                go_wp2_with fail
                refine HG.out.mono ?_
                rintro e w6 ⟨rfl, hbel⟩
                have hz6 := (HBW.out _ hbel).2
                have hst6 := zero_st hz6
                have HB6 := hid (HBW.out _ hbel)
                clear hbel hz6 hnx
                go_wp2_with fail
                refine bodyPost_ret (results_msg rfl _ _ w.heap.size _ _ _ rfl HB6.out.2 rfl) rfl ?_
                exact done_zero (w0 := w) HD.out HB6.out.1
              · rw [hrd] at HG HFN
                clear hrd
                go_wp2_with fail
                refine HG.out.mono ?_
                rintro e w6 ⟨A2, c2, A3, c3, rfl, hr6, hkp, hA2, hA3⟩
                have HY := hid (And.intro hr6 ((hkp.same wo.heap.size (Nat.lt_succ_self _) (row_lt HX.out.1) (by omega) (by omega)).trans HX.out.1))
                have HO6 : Hid ((101 ∉ (tab m.kind).take (p + 1) → A2 = none ∧ c2 = 0) ∧ (100 ∉ (tab m.kind).take (p + 1) → A3 = none ∧ c3 = 0)) := by
                  refine hid ⟨fun hn => ?_, fun hn => ?_⟩
                  · rw [HTK.out.1] at hn
                    have e := hA2 (fun e => hn (by rw [e]; simp))
                    rw [e.1, e.2]
                    exact HO5.out.1 (fun hin => hn (List.mem_append_left _ hin))
                  · rw [HTK.out.1] at hn
                    have e := hA3 (fun e => hn (by rw [e]; simp))
                    rw [e.1, e.2]
                    exact HO5.out.2 (fun hin => hn (List.mem_append_left _ hin))
                clear hr6 hkp hnx hA2 hA3
                go_wp2_with fail
                go_roundw
                case rel => exact ⟨p + 1, m2, s2, A2, c2, A3, c3, by have := HP.out; have := tab_length m.kind; omega, HFN, hid HY.out.1, hid HY.out.2, HO6⟩
                case measure =>
                  simp only [World.iterPos, HY.out.2, HI5.out]
                  have := HP.out
                  have := tab_length m.kind
                  omega
            · have hnx : ∀ ty, (Instr.next (.pointer (some ⟨wo.heap.size, 0, none⟩)) true ty).run Tryd.prog wr = _ := fun ty => next_end wr wo.heap.size (tab m.kind) p ty HI5.out hp
              have hF5 := HF5.out
              rw [List.take_of_length_le (by omega)] at hF5
              have HFF := hid hF5
              have hend := hid (end_rdr gr s1 wr HR5.out.rdr)
              have hz6 := (HBW.out _ HR5.out.bel).2
              have HB6 := hid (HBW.out _ HR5.out.bel)
              have hst6 := zero_st hz6
              have hO5 := HO5.out
              have hone : (A = none ∧ c = 0) ∨ (A' = none ∧ c' = 0) := by
                by_cases h1 : 101 ∈ (tab m.kind).take p
                · exact .inr (hO5.2 (fun h0 => tab_one m.kind (List.mem_of_mem_take h1) (List.mem_of_mem_take h0)))
                · exact .inl (hO5.1 h1)
              have HON := hid hone
              have hld6 := HR5.out.box.load
              have hst7 := st_row wr w.heap.size _ #[.int .i64 m1.K, .int .i64 m1.F, .int .i64 m1.T, .int .i64 m1.g, .int .i64 m1.t, .int .i64 m1.i, .int .i64 m1.p, .int .i64 m1.c, .int .i64 m1.r, .int .i64 m1.x, .int .i64 m1.a, .int .i64 m1.b, .int .i64 m1.v, .int .i64 m1.s, .bool m1.ok, .slice A m1.es.length c, .slice A' m1.d.length c'] hz6 rfl rfl (msg_one m1 A c A' c')
              have HE7 : Hid ((wr.setRow w.heap.size #[.int .i64 m1.K, .int .i64 m1.F, .int .i64 m1.T, .int .i64 m1.g, .int .i64 m1.t, .int .i64 m1.i, .int .i64 m1.p, .int .i64 m1.c, .int .i64 m1.r, .int .i64 m1.x, .int .i64 m1.a, .int .i64 m1.b, .int .i64 m1.v, .int .i64 m1.s, .bool m1.ok, .slice A m1.es.length c, .slice A' m1.d.length c']).heap[w.heap.size]? = some (.cells #[.int .i64 m1.K, .int .i64 m1.F, .int .i64 m1.T, .int .i64 m1.g, .int .i64 m1.t, .int .i64 m1.i, .int .i64 m1.p, .int .i64 m1.c, .int .i64 m1.r, .int .i64 m1.x, .int .i64 m1.a, .int .i64 m1.b, .int .i64 m1.v, .int .i64 m1.s, .bool m1.ok, .slice A m1.es.length c, .slice A' m1.d.length c'] 25 (0, 0))) := hid (setRow_heap wr w.heap.size _ _ _ _ hz6)
              have htu := set_turned wr w.heap.size #[.int .i64 m1.K, .int .i64 m1.F, .int .i64 m1.T, .int .i64 m1.g, .int .i64 m1.t, .int .i64 m1.i, .int .i64 m1.p, .int .i64 m1.c, .int .i64 m1.r, .int .i64 m1.x, .int .i64 m1.a, .int .i64 m1.b, .int .i64 m1.v, .int .i64 m1.s, .bool m1.ok, .slice A m1.es.length c, .slice A' m1.d.length c']
              have hOM : OwnM (wr.setRow w.heap.size #[.int .i64 m1.K, .int .i64 m1.F, .int .i64 m1.T, .int .i64 m1.g, .int .i64 m1.t, .int .i64 m1.i, .int .i64 m1.p, .int .i64 m1.c, .int .i64 m1.r, .int .i64 m1.x, .int .i64 m1.a, .int .i64 m1.b, .int .i64 m1.v, .int .i64 m1.s, .bool m1.ok, .slice A m1.es.length c, .slice A' m1.d.length c']) w.heap.size m1 A c A' c' := by
                have hlt6 := HR5.out.lt
                refine ⟨HR5.out.num, ?_, ?_, hone, ?_⟩
                · exact (HR5.out.es.keep htu (fun k hk hB => by have := hB.1; omega)).wide (by omega) htu.size
                · exact (HR5.out.d.turned htu (fun k hk e => by have := HR5.out.d.blkLt k hk; omega)).weaken (by omega)
                · have := HR5.out.few; omega
              have HOM := hid (And.intro hOM (HB6.out.1.trans (htu.below (by have := HB6.out.1.size; omega) (fun k hk => by omega))))
              clear hz6 hO5 hone hF5 hOM htu hp
              rcases Decidable.em (endOf s1 = 0) with he | he
              · have HD := hid (dec_some HH3.out HBAD.out H1.out.symm HFF.out ((over_end s1).1 he))
                rw [he] at hend
                clear he
                generalize (wr.setRow w.heap.size #[.int .i64 m1.K, .int .i64 m1.F, .int .i64 m1.T, .int .i64 m1.g, .int .i64 m1.t, .int .i64 m1.i, .int .i64 m1.p, .int .i64 m1.c, .int .i64 m1.r, .int .i64 m1.x, .int .i64 m1.a, .int .i64 m1.b, .int .i64 m1.v, .int .i64 m1.s, .bool m1.ok, .slice A m1.es.length c, .slice A' m1.d.length c']) = w9 at hst7 HE7 HOM
                go_wp2_with fail
                refine hend.out.mono ?_
                rintro e w6 ⟨rfl, hw6⟩
                rw [← hw6]
                clear hw6
                go_wp2_with fail
                refine bodyPost_ret (results_msg rfl _ _ w.heap.size _ _ _ rfl HE7.out rfl) rfl ?_
                rw [HD.out]
                exact ⟨A, c, A', c', rfl, HOM.out.1, HOM.out.2⟩
              · have HD := hid (dec_left HH3.out HBAD.out H1.out.symm HFF.out ((over_end s1).2 he))
                generalize endOf s1 = ee at hend he
                clear hst7
                go_wp2_with fail
                refine hend.out.mono ?_
                rintro e w6 ⟨rfl, hw6⟩
                rw [← hw6]
                clear hw6
                go_wp2_with fail
                refine bodyPost_ret (results_msg rfl _ _ w.heap.size _ _ _ rfl HB6.out.2 rfl) rfl ?_
                exact done_zero (w0 := w) HD.out HB6.out.1
      · have HBAD := hid hb
        rw [hb] at hbad
        clear hb
        go_wp2_with fail
        refine hbad.out.mono ?_
        rintro e w4 ⟨rfl, hw4⟩
        rw [← hw4]
        clear hw4
        go_wp2_with fail
        refine bodyPost_ret (results_msg rfl _ _ w.heap.size _ _ _ rfl HZR.out rfl) rfl ?_
        exact done_zero (w0 := w) (dec_bad HH3.out HBAD.out) (HBW.out _ HRR.out.bel).1
end Go.Proofs.YtpigekbfngalbaaDoor.Ms
