/- The walks through package message: Ok, Data and Entries that are read. -/
import Derived.Test.YtmaebemhephcmaaDoorMsJ
import Derived.Test.YtmaebemhephcmaaDoorEntsMore
import Derived.Deep.RegionHeld3
namespace Go.Proofs.YtmaebemhephcmaaDoor.Ms
open Go.RowKit
set_option maxRecDepth 100000
set_option linter.unusedVariables false
attribute [local go_sem ↓] loadAt_msg storeAt_msg

set_option maxHeartbeats 1600000 in
theorem getOk_any (w0 W : World) (B gm gr lo : Nat) (m : M) (s : Pk.St) (A : Option Addr) (c : Nat) (A' : Option Addr) (c' N : Nat) (h : Rd w0 W B gm gr lo m s A c A' c' N) :
    Calls Tryd.prog 74 #[.pointer (some ⟨gr, 0, none⟩), .pointer (some ⟨gm, 0, none⟩), .int .i32 ((111 : Nat) : Int)] W fun e w' => Told w0 W B gm gr lo N A c A' c' 111 (rdF m s 111) e w' := by
  have HF : Hid (rdF m s 111 = if (Pk.rdInt s).1 = 0 ∨ (Pk.rdInt s).1 = 1 then some ({ m with ok := decide ((Pk.rdInt s).1 = 1) }, (Pk.rdInt s).2) else none) := by
    show _ = _
    unfold rdF; rw [if_pos rfl]
  have HI := hid (int_rdr gr s W h.rdr)
  have HH := hid h
  clear h
  go_enter Tryd.func74, Tryd.ntmps74
  go_wp2_with fail
  refine HI.out.mono ?_
  rintro e w1 ⟨rfl, hR, hG⟩
  have h1 := HH.out.read hR hG (Pk.rdInt_short s)
  have hc := h1.box.c14
  have hf := h1.free 14
  have HKP : Hid (∀ b : Bool, Kept lo gm gr W (w1.setCell ⟨gm, 14, none⟩ (.bool b))) := hid fun b => (Kept.rd hG).trans (Kept.st w1 14 (.bool b))
  have H2 : Hid (∀ b : Bool, Rd w0 (w1.setCell ⟨gm, 14, none⟩ (.bool b)) B gm gr lo { m with ok := b } (Pk.rdInt s).2 A c A' c' (N + 3000)) := hid fun b => h1.store (m' := { m with ok := b }) (N' := N + 3000) rfl h1.es h1.d h1.num (by have := h1.few; show m.es.length ≤ _; omega)
  clear hR hG h1
  generalize Pk.rdInt s = q at HF H2 ⊢
  obtain ⟨v, s2⟩ := q
  have HF2 : Hid (rdF m s 111 = if v = 0 ∨ v = 1 then some ({ m with ok := decide (v = 1) }, s2) else none) := HF
  have HH2 : Hid (∀ b : Bool, Rd w0 (w1.setCell ⟨gm, 14, none⟩ (.bool b)) B gm gr lo { m with ok := b } s2 A c A' c' (N + 3000)) := H2
  clear HF H2
  show _
  simp only []
  by_cases h0 : v = 0
  · have HR : Hid (rdF m s 111 = some ({ m with ok := false }, s2)) := hid (by rw [HF2.out, if_pos (Or.inl h0), h0]; rfl)
    subst h0
    go_wp2_with fail
    go_ret
    rw [HR.out]
    exact ⟨A, c, A', c', rfl, HH2.out false, HKP.out false, fun _ => ⟨rfl, rfl⟩, fun _ => ⟨rfl, rfl⟩⟩
  · by_cases h1 : v = 1
    · have HR : Hid (rdF m s 111 = some ({ m with ok := true }, s2)) := hid (by rw [HF2.out, if_pos (Or.inr h1), h1]; rfl)
      subst h1
      go_wp2_with fail
      go_ret
      rw [HR.out]
      exact ⟨A, c, A', c', rfl, HH2.out true, HKP.out true, fun _ => ⟨rfl, rfl⟩, fun _ => ⟨rfl, rfl⟩⟩
    · have HR : Hid (rdF m s 111 = none) := hid (by rw [HF2.out, if_neg (by omega)])
      go_wp2_with fail
      go_ret
      rw [HR.out]
      refine ⟨?_, (HH2.out _).bel⟩
      show Ending.returned (.bool (v == 0 || v == 1)) = _
      simp [h0, h1]
set_option maxHeartbeats 1600000 in
theorem getData_any (w0 W : World) (B gm gr lo : Nat) (m : M) (s : Pk.St) (A : Option Addr) (c : Nat) (A' : Option Addr) (c' N : Nat) (h : Rd w0 W B gm gr lo m s A c A' c' N) :
    Calls Tryd.prog 74 #[.pointer (some ⟨gr, 0, none⟩), .pointer (some ⟨gm, 0, none⟩), .int .i32 ((100 : Nat) : Int)] W fun e w' => Told w0 W B gm gr lo N A c A' c' 100 (rdF m s 100) e w' := by
  have HF : Hid (rdF m s 100 = some ({ m with d := (Pk.rdBlob s).1 }, (Pk.rdBlob s).2)) := by
    show _ = _
    unfold rdF; rw [if_neg (by decide), if_neg (by decide), if_pos rfl]
  have hsh := h.short
  have HI := hid (blob_rdr gr s W h.rdr (by omega))
  have HH := hid h
  clear h
  go_enter Tryd.func74, Tryd.ntmps74
  go_wp2_with fail
  refine HI.out.mono ?_
  rintro e w1 ⟨A2, c2, rfl, ho, hR, hG⟩
  have h1 := HH.out.read hR hG (Pk.rdBlob_short s).1
  have hc := h1.box.c16
  have hf := h1.free 16
  have h2 := h1.store (m' := { m with d := (Pk.rdBlob s).1 }) (N' := N + 3000) (i := 16) (u := .slice A2 (Pk.rdBlob s).1.length c2) (A2 := A) (c2 := c) (A3 := A2) (c3 := c2) rfl h1.es (ho.weaken HH.out.lt.2.2.2) h1.num (by have := h1.few; show m.es.length ≤ _; omega)
  have H2 := hid (And.intro h2 ((Kept.rd (lo := lo) (gm := gm) hG).trans (Kept.st w1 16 (.slice A2 (Pk.rdBlob s).1.length c2))))
  clear hR hG h1 h2 ho
  go_wp2_with fail
  go_ret
  rw [HF.out]
  exact ⟨A, c, A2, c2, rfl, H2.out.1, H2.out.2, fun _ => ⟨rfl, rfl⟩, fun e => absurd rfl e⟩
/-- a load that a region must not take first -/
def loadE : Op := Op.load 22 (Operand.tmp 50)
theorem Rd.int {w0 W : World} {B gm gr lo : Nat} {m : M} {s : Pk.St} {A A' : Option Addr} {c c' N : Nat} (h : Rd w0 W B gm gr lo m s A c A' c' N) :
    Calls Tryd.prog 89 #[.pointer (some ⟨gr, 0, none⟩)] W fun e w' => e = .returned (.int .i64 (Pk.rdInt s).1) ∧ Rd w0 w' B gm gr lo m (Pk.rdInt s).2 A c A' c' N ∧ Kept lo gm gr W w' :=
  (int_rdr gr s W h.rdr).mono fun e w' ⟨he, hR, hG⟩ => ⟨he, h.read hR hG (Pk.rdInt_short s), Kept.rd hG⟩
theorem Rd.drew {w0 W : World} {B gm gr lo : Nat} {m : M} {s : Pk.St} {A A' : Option Addr} {c c' N : Nat} (h : Rd w0 W B gm gr lo m s A c A' c' N) : Rd w0 W.drew B gm gr lo m s A c A' c' N :=
  ⟨h.bel.drew, ⟨h.box.row⟩, h.rdr.drewN 1, h.lt, h.es.keep (S := fun _ => False) (Turned.ofBelow _ (Below.refl _ W).drew) (fun k hk _ => hk), h.d.drew, h.num, h.few, h.short⟩
theorem Rd.blob {w0 W : World} {B gm gr lo : Nat} {m : M} {s : Pk.St} {A A' : Option Addr} {c c' N : Nat} (h : Rd w0 W B gm gr lo m s A c A' c' N) :
    Calls Tryd.prog 91 #[.pointer (some ⟨gr, 0, none⟩)] W fun e w' => ∃ A2 c2, e = .returned (.slice A2 (Pk.rdBlob s).1.length c2) ∧ OwnsB 5 w' W.heap.size A2 c2 (Pk.rdBlob s).1 ∧ OwnE w' lo W.heap.size A c m.es ∧ lo ≤ W.heap.size ∧ W.heap.size ≤ w'.heap.size ∧ Rd w0 w' B gm gr lo m (Pk.rdBlob s).2 A c A' c' N ∧ Kept lo gm gr W w' :=
  (blob_rdr gr s W h.rdr (by have := h.short; omega)).mono fun e w' ⟨A2, c2, he, ho, hR, hG⟩ => ⟨A2, c2, he, ho, h.es.keep (Turned.ofGrown (S := fun k => k = gr) hG (fun k hk => (Option.some.inj hk).symm)) (fun k hk hB => by have := hB.1; have := h.lt; omega), h.lt.2.2.2, hG.size, h.read hR hG (Pk.rdBlob_short s).1, Kept.rd hG⟩
/-- a block that is made, and entries put behind: what was there stays -/
theorem Rd.put {w0 W W' : World} {B gm gr lo : Nat} {m : M} {s : Pk.St} {A A' : Option Addr} {c c' N : Nat} (h : Rd w0 W B gm gr lo m s A c A' c' N) (hd : A' = none ∧ c' = 0) (hb : Below lo W W') {A6 : Option Addr} {c6 q : Nat} {L : List Rl.En} (hL : L.length = q) (hE : OwnE W' lo W'.heap.size A6 c6 L) (hf : L.length ≤ N + 1) :
    Rd w0 (W'.setCell ⟨gm, 15, none⟩ (.slice A6 q c6)) B gm gr lo { m with es := L } s A6 c6 A' c' (N + 1) := by
  subst hL
  obtain ⟨hA, hc⟩ := hd
  subst hA
  subst hc
  have hl := h.lt
  have hgs := h.rdr.lt
  have hdn : m.d = [] := h.d.reads.of_none
  have e : Bx W' gm m A c none 0 := h.box.below hb (by omega)
  have hg := grown_setCell W' gm 15 (.slice A6 L.length c6)
  have ht : Turned (fun k => k = gm) W' (W'.setCell ⟨gm, 15, none⟩ (.slice A6 L.length c6)) := Turned.ofGrown hg (fun k hk => (Option.some.inj hk).symm)
  have hbw : Below B w0 W' := h.bel.trans (hb.mono (by omega))
  refine ⟨hbw.trans ⟨hg.os, hg.tape, hg.output, hg.size, fun k hk => hg.block k ?_ ?_⟩, ⟨?_⟩, rdr_box (h.rdr.below (hb.mono (by omega))) e (by omega) ht, ⟨hl.1, hl.2.1, hl.2.2.1, Nat.le_trans hl.2.2.2 (Nat.le_trans hb.size hg.size)⟩, ?_, ?_, h.num, hf, h.short⟩
  · have := row_lt e.row; omega
  · intro e; injection e; omega
  · rw [row_set e.row]; rfl
  · exact (hE.keep ht (fun k hk hB => by have := hB.1; omega)).wide (Nat.le_refl _) hg.size
  · show OwnsB _ _ _ _ _ m.d
    rw [hdn]; exact OwnsB.nil _ _ _
theorem Rd.behind {w0 W w6 : World} {B gm gr lo : Nat} {m : M} {s : Pk.St} {A A' : Option Addr} {c c' N : Nat} (h : Rd w0 W B gm gr lo m s A c A' c' N) {o : Obj} (hb : Below lo (W.alloc o) w6) : Below lo W w6 ∧ Bx w6 gm m A c A' c' := by
  have h1 : Below lo W w6 := ((Below.refl lo W).alloc h.lt.2.2.2 o).trans hb
  exact ⟨h1, h.box.below h1 (by have := h.lt; omega)⟩
/-- entries that are read, from the reader's state s0: j of them are, n are left -/
structure EsR (w0 W wr : World) (B gm gr lo : Nat) (m : M) (n : Nat) (s0 : Pk.St) (A' : Option Addr) (c' N j : Nat) (A1 : Option Addr) (c1 q : Nat) (s : Pk.St) (L : List Rl.En) : Prop where
  rd : Rd w0 wr B gm gr lo { m with es := m.es ++ L } s A1 c1 A' c' (N + j)
  kept : Kept lo gm gr W wr
  len : (m.es ++ L).length = q
  cnt : L.length = j
  rest : (L ++ (rdEs (n - j) s).1, (rdEs (n - j) s).2) = rdEs n s0
theorem rdE_num (s : Pk.St) (h : s.small) : InInt (rdE s).1.t ∧ InInt (rdE s).1.k :=
  ⟨Pk.rdInt_in s h, Pk.rdInt_in _ (Pk.rdInt_small s h)⟩
theorem rdEs_step {n j : Nat} (h : j < n) (s s0 : Pk.St) (L : List Rl.En) (hr : (L ++ (rdEs (n - j) s).1, (rdEs (n - j) s).2) = rdEs n s0) :
    (L ++ [(rdE s).1] ++ (rdEs (n - (j + 1)) (rdE s).2).1, (rdEs (n - (j + 1)) (rdE s).2).2) = rdEs n s0 := by
  obtain ⟨k, hk⟩ : ∃ k, n - j = k + 1 := ⟨n - j - 1, by omega⟩
  rw [hk] at hr
  rw [show n - (j + 1) = k by omega, ← hr]
  simp [rdEs]
set_option maxHeartbeats 3200000 in
theorem getEs_any (w0 W : World) (B gm gr lo : Nat) (m : M) (s : Pk.St) (A : Option Addr) (c : Nat) (A' : Option Addr) (c' N : Nat) (h : Rd w0 W B gm gr lo m s A c A' c' N) (hN : N ≤ 50000) (hd : A' = none ∧ c' = 0) :
    Calls Tryd.prog 74 #[.pointer (some ⟨gr, 0, none⟩), .pointer (some ⟨gm, 0, none⟩), .int .i32 ((101 : Nat) : Int)] W fun e w' => Told w0 W B gm gr lo N A c A' c' 101 (rdF m s 101) e w' := by
  have HF : Hid (rdF m s 101 = if (Pk.rdInt s).1 < 0 ∨ (((Pk.rdInt s).2.rest.length / 24 : Nat) : Int) < (Pk.rdInt s).1 then none
    else some ({ m with es := m.es ++ (rdEs (Pk.rdInt s).1.toNat (Pk.rdInt s).2).1 }, (rdEs (Pk.rdInt s).1.toNat (Pk.rdInt s).2).2)) := by
    show _ = _
    unfold rdF; rw [if_neg (by decide), if_pos rfl]
  have HI := hid (int_rdr gr s W h.rdr)
  have HH := hid h
  clear h
  go_enter Tryd.func74, Tryd.ntmps74
  go_wp2_with fail
  refine HI.out.mono ?_
  rintro e w1 ⟨rfl, hR, hG⟩
  have h1 := HH.out.read hR hG (Pk.rdInt_short s)
  have HKP : Hid (Kept lo gm gr W w1) := hid (Kept.rd hG)
  have H1 := hid h1
  have HL := hid (left_rdr gr (Pk.rdInt s).2 w1 hR)
  have hsh := h1.short
  clear hR hG h1
  generalize hq : Pk.rdInt s = q at HF H1 HL hsh ⊢
  have HQ := hid hq
  clear hq
  obtain ⟨v, s2⟩ := q
  have HF2 : Hid (rdF m s 101 = if v < 0 ∨ ((s2.rest.length / 24 : Nat) : Int) < v then none else some ({ m with es := m.es ++ (rdEs v.toNat s2).1 }, (rdEs v.toNat s2).2)) := HF
  have HH2 : Hid (Rd w0 w1 B gm gr lo m s2 A c A' c' N) := H1
  have HL2 : Hid (Calls Tryd.prog 90 #[.pointer (some ⟨gr, 0, none⟩)] w1 fun e w' => e = .returned (.int .i64 (s2.rest.length : Nat)) ∧ w1 = w') := HL
  have hsh2 : s2.rest.length ≤ 65536 := hsh
  clear HF H1 HL hsh HQ
  show _
  simp only []
  by_cases h0 : v < 0
  · have HR : Hid (rdF m s 101 = none) := hid (by rw [HF2.out, if_pos (Or.inl h0)])
    go_wp2_with fail
    go_ret
    rw [HR.out]
    exact ⟨rfl, HH2.out.bel⟩
  go_wp2_with fail
  refine HL2.out.mono ?_
  rintro e w2 ⟨rfl, rfl⟩
  obtain ⟨dd, hdd⟩ : ∃ dd : Nat, dd = s2.rest.length / 24 := ⟨_, rfl⟩
  rw [← hdd] at HF2
  have hd2 : dd ≤ 2730 := by omega
  by_cases hlong : (dd : Int) < v
  · have HR : Hid (rdF m s 101 = none) := hid (by rw [HF2.out, if_pos (Or.inr hlong)])
    go_wp2_with fail
    go_ret
    rw [HR.out]
    exact ⟨rfl, HH2.out.bel⟩
  · obtain ⟨n, rfl⟩ : ∃ n : Nat, v = (n : Int) := ⟨v.toNat, by omega⟩
    have hn : n ≤ 2730 := by omega
    have HR : Hid (rdF m s 101 = some ({ m with es := m.es ++ (rdEs n s2).1 }, (rdEs n s2).2)) := hid (by rw [HF2.out, if_neg (by omega)]; rfl)
    clear HF2 HL2
    go_wp2_with fail
    go_loopw [45] (fun i wr => ∃ (j : Nat) (A1 : Option Addr) (c1 q : Nat) (s3 : Pk.St) (L : List Rl.En), j ≤ n ∧ i = .int .i64 (j : Int) ∧ Hid (EsR w0 W wr B gm gr lo m n s2 A' c' N j A1 c1 q s3 L)) (fun i _ => n - (intOf i).toNat)
    case atStart =>
      refine ⟨0, A, c, m.es.length, s2, [], Nat.zero_le _, rfl, hid ⟨?_, HKP.out, by rw [List.append_nil], rfl, by simp⟩⟩
      have e : ({ m with es := m.es ++ [] } : M) = m := by rw [List.append_nil]
      rw [e]
      exact HH2.out
    case round =>
      clear HH2 hlong hd2 h0 hdd hsh2
      obtain ⟨j, A1, c1, q, s3, L, hj, rfl, HE⟩ := hrel
      by_cases hlt : j < n
      · have hbox := HE.out.rd.box
        have hc15 := hbox.c15
        have hf15 := HE.out.rd.free 15
        have hlen := HE.out.len
        rw [hlen] at hc15
        have hq : q ≤ 60000 := by have := HE.out.rd.few; rw [← hlen]; show (m.es ++ L).length ≤ _; have : (m.es ++ L).length ≤ N + j := this; omega
        have HQ := hid (And.intro hlen hq)
        clear hbox hlen
        have hopE : loadE = Op.load 22 (Operand.tmp 50) := rfl
        go_wp2_with fail
        rw [← hopE]
        have hR0 := HE.out.rd.drew
        have hsm := HE.out.rd.rdr.small
        obtain ⟨t, k, d, s4, s5, s6, C1, C2, C3, hE⟩ : ∃ (t k : Int) (d : List Nat) (s4 s5 s6 : Pk.St), (∀ w', Rd w0 w' B gm gr lo { m with es := m.es ++ L } s3 A1 c1 A' c' (N + j) → Calls Tryd.prog 89 #[.pointer (some ⟨gr, 0, none⟩)] w' fun e w'' => e = .returned (.int .i64 t) ∧ Rd w0 w'' B gm gr lo { m with es := m.es ++ L } s4 A1 c1 A' c' (N + j) ∧ Kept lo gm gr w' w'') ∧
            (∀ w', Rd w0 w' B gm gr lo { m with es := m.es ++ L } s4 A1 c1 A' c' (N + j) → Calls Tryd.prog 89 #[.pointer (some ⟨gr, 0, none⟩)] w' fun e w'' => e = .returned (.int .i64 k) ∧ Rd w0 w'' B gm gr lo { m with es := m.es ++ L } s5 A1 c1 A' c' (N + j) ∧ Kept lo gm gr w' w'') ∧
            (∀ w', Rd w0 w' B gm gr lo { m with es := m.es ++ L } s5 A1 c1 A' c' (N + j) → Calls Tryd.prog 91 #[.pointer (some ⟨gr, 0, none⟩)] w' fun e w'' => ∃ A2 c2, e = .returned (.slice A2 d.length c2) ∧ OwnsB 5 w'' w'.heap.size A2 c2 d ∧ OwnE w'' lo w'.heap.size A1 c1 (m.es ++ L) ∧ lo ≤ w'.heap.size ∧ w'.heap.size ≤ w''.heap.size ∧ Rd w0 w'' B gm gr lo { m with es := m.es ++ L } s6 A1 c1 A' c' (N + j) ∧ Kept lo gm gr w' w'') ∧
            rdE s3 = (⟨t, k, d⟩, s6) := ⟨_, _, _, _, _, _, fun w' h => h.int, fun w' h => h.int, fun w' h => h.blob, rfl⟩
        have hnum : InInt t ∧ InInt k := by have := rdE_num s3 hsm; rw [hE] at this; exact this
        have HC := hid (And.intro (C1 _ hR0) (And.intro C2 C3))
        have HX := hid (And.intro hE hnum)
        have HK : Hid (∀ w' sx, Rd w0 w' B gm gr lo { m with es := m.es ++ L } sx A1 c1 A' c' (N + j) → w'.cell? ⟨gm, 15, none⟩ = some (.slice A1 q c1) ∧ w'.frozen? ⟨gm, 15, none⟩ = false ∧ gm < w'.heap.size) := hid fun w' sx h => ⟨by rw [h.box.c15]; show some (Value.slice A1 (m.es ++ L).length c1) = _; rw [HQ.out.1], h.free 15, row_lt h.box.row⟩
        have hkd : wr.drew.cell? ⟨gm, 15, none⟩ = some (.slice A1 q c1) := hc15
        have hl5 : q + 1 ≤ 100000 := by omega
        have HD := hid hd
        clear hR0 hsm C1 C2 C3 hE hnum hf15 hN
        go_region_held3 (fun w' => True)
          (first | exact trivial | fail)
          (first
            | (have _ := H4; refine step_append_ent (by rfl) _ _ (by rfl) (H4.out.2.1.below ((Below.refl _ w4).alloc (H4.out.2.2.2.1) _)) H4.out.2.2.1 (by rw [World.size_alloc]; exact Nat.le_succ_of_le H4.out.2.2.2.1) q HQ.out.1 (by rfl) ⟨t, k, d⟩ HX.out.2 A2 c2 (H4.out.1.below ((Below.refl _ w4).alloc (Nat.le_refl _) _)) ⟨w4.heap.size, 0, none⟩ 1 (by rfl) (fun j _ => cellsE_new w4 _ rfl ⟨⟨t, k, d⟩, A2, c2⟩ _ j) hl5 ?_; intro A6 c6 w6 hE6 hB6; have hbh := H4.out.2.2.2.2.1.behind hB6; have H6 := hid (And.intro hE6 hbh.1); have hk6 : w6.cell? ⟨gm, 15, none⟩ = some (.slice A1 q c1) := (hbh.1.cell (p := ⟨gm, 15, none⟩) (by have := HE.out.rd.lt; show gm < lo; omega)).trans hk4; have hf6 : w6.frozen? ⟨gm, 15, none⟩ = false := row_free hbh.2.row 15; clear hbh hE6 hB6)
            | (go_at_call 91; refine (HC.out.2.2 w3 H3.out.1).mono ?_; rintro e w4 ⟨A2, c2, rfl, h4⟩; have H4 := hid h4; have hk4 := (HK.out w4 _ h4.2.2.2.2.1).1; have hlt4 := (HK.out w4 _ h4.2.2.2.2.1).2.2; clear h4)
            | (go_at_call 89; refine (HC.out.2.1 w2 H2.out.1).mono ?_; rintro e w3 ⟨rfl, h3⟩; have H3 := hid h3; have hk3 := (HK.out w3 _ h3.1).1; clear h3)
            | (go_at_call 89; refine HC.out.1.mono ?_; rintro e w2 ⟨rfl, h2⟩; have H2 := hid h2; have hk2 := (HK.out w2 _ h2.1).1; clear h2))
        all_goals
          have H7 : Hid (EsR w0 W (w6.setCell ⟨gm, 15, none⟩ (.slice A6 (q + 1) c6)) B gm gr lo m n s2 A' c' N (j + 1) A6 c6 (q + 1) s6 (L ++ [⟨t, k, d⟩])) := by
            have hlen2 : (m.es ++ L ++ [(⟨t, k, d⟩ : Rl.En)]).length = q + 1 := by rw [List.length_append, HQ.out.1]; rfl
            have hfew := HE.out.rd.few
            have h5 := H4.out.2.2.2.2.1.put HD.out H6.out.2 hlen2 H6.out.1 (by rw [hlen2, ← HQ.out.1]; exact Nat.succ_le_succ hfew)
            have hst := rdEs_step hlt s3 s2 L HE.out.rest
            rw [HX.out.1] at hst
            refine hid ⟨?_, HE.out.kept.trans (((((Kept.bel (Below.refl lo wr).drew).trans H2.out.2).trans H3.out.2).trans H4.out.2.2.2.2.2).trans ((Kept.bel H6.out.2).trans (Kept.st w6 15 (.slice A6 (q + 1) c6)))), by rw [← List.append_assoc]; exact hlen2, by rw [List.length_append, HE.out.cnt]; rfl, hst⟩
            rw [List.append_assoc] at h5
            exact h5
          clear hk2 hk3 hk4 hlt4 hk6 hf6 hkd hc15
          go_wp2_with fail
          go_roundw
          case rel => exact ⟨j + 1, A6, c6, q + 1, s6, L ++ [⟨t, k, d⟩], by omega, by go_num, H7⟩
          case measure => simp [intOf]; omega
      · obtain rfl : j = n := by omega
        have hrest := HE.out.rest
        rw [Nat.sub_self] at hrest
        have hL : rdEs j s2 = (L, s3) := by rw [← hrest]; simp [rdEs]
        have hrd := HE.out.rd
        have HRD : Hid (Rd w0 wr B gm gr lo { m with es := m.es ++ (rdEs j s2).1 } (rdEs j s2).2 A1 c1 A' c' (N + 3000)) := hid (by
          rw [hL]
          exact ⟨hrd.bel, hrd.box, hrd.rdr, hrd.lt, hrd.es, hrd.d, hrd.num, by have h9 : (m.es ++ L).length ≤ N + j := hrd.few; show (m.es ++ L).length ≤ N + 3000; omega, hrd.short⟩)
        clear hrest hL hrd
        go_wp2_with fail
        go_ret
        rw [HR.out]
        exact ⟨A1, c1, A', c', rfl, HRD.out, HE.out.kept, fun e => absurd rfl e, fun _ => ⟨rfl, rfl⟩⟩
end Go.Proofs.YtmaebemhephcmaaDoor.Ms
