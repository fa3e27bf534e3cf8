/- The examples of the chapter, each number of each kind about its ends, each bit of some messages turned, lengths about their ends, are as the document says. Conditions: none but those of the card: the table of the fields is as the text lays it. -/
import Derived.Test.YtpigekbfngalbaaDoorPartAQ
import Derived.Test.YtpigekbfngalbaaDoorPartAI
import Derived.Test.YtpigekbfngalbaaDoorRows
import Derived.Test.YtpigekbfngalbaaDoorCards
import Derived.Test.YtpigekbfngalbaaDoorTie
import Derived.Test.YtpigekbfngalbaaDoorPartAH
import Derived.SevenTiedAt
import Derived.LaidMore
import Derived.LaidLaws
import Derived.Handed
import Derived.Stop.Joined
import Derived.Test.YtpigekbfngalbaaDoorPartAE
import Derived.WalkKit
import Derived.WalkLawsBesides
import Derived.ProofKit
import Derived.OpenShut
import Derived.ShutString
import Derived.ChangeOld
import Derived.Below
import Derived.SizedLaws
import Derived.Test.YtpigekbfngalbaaDoorPartAO
import Derived.Test.YtpigekbfngalbaaDoorPartAN
import Derived.Test.YtpigekbfngalbaaDoorPartAP
import Derived.Deep.RegionHeld3
import Derived.Deep.CutRange
namespace Go.Proofs.YtpigekbfngalbaaDoor.Ms
open Go.RowKit
set_option maxRecDepth 100000
set_option linter.unusedVariables false
attribute [local go_sem ↓] loadAt_msg storeAt_msg

/-- a message that the call has made: what it leads to lies in blocks from B on, below N -/
structure MIn (w : World) (B N : Nat) (m : M) (A : Option Addr) (c : Nat) (A' : Option Addr) (c' : Nat) : Prop where
  num : ∀ r ∈ nums, InInt (m.num r)
  es : OwnE w B N A c m.es
  d : OwnsB 5 w B A' c' m.d
  dN : ∀ k, blk A' = some k → k < N
  one : (A = none ∧ c = 0) ∨ (A' = none ∧ c' = 0)
  few : m.es.length ≤ 50000
  hi : N ≤ w.heap.size
theorem OwnM.min {w : World} {B : Nat} {m : M} {A A' : Option Addr} {c c' : Nat} (h : OwnM w B m A c A' c') : MIn w B w.heap.size m A c A' c' :=
  ⟨h.num, h.es, h.d, fun k hk => (h.d.blkLt k hk).2, h.one, h.few, Nat.le_refl _⟩
namespace MIn
variable {w w' : World} {B N : Nat} {m : M} {A A' : Option Addr} {c c' : Nat}
theorem turned (h : MIn w B N m A c A' c') {S : Nat → Prop} (ht : Turned S w w') (hS : ∀ k, S k → k < B ∨ N ≤ k) : MIn w' B N m A c A' c' :=
  ⟨h.num, h.es.keep ht (fun k hk hB => by have := hB.1; have := hB.2; have := hS k hk; omega), h.d.turned ht (fun k hk e => by have := (h.d.blkLt k hk).1; have := h.dN k hk; have := hS k e; omega), h.dN, h.one, h.few, Nat.le_trans h.hi ht.size⟩
theorem below (h : MIn w B N m A c A' c') (hb : Below w.heap.size w w') : MIn w' B N m A c A' c' := h.turned (S := fun _ => False) (Turned.ofBelow _ hb) (fun _ e => e.elim)
theorem is (h : MIn w B N m A c A' c') : Is w w.heap.size m A c A' c' := ⟨h.num, h.es.reads.more h.hi, h.es.room, h.es.none_, h.d.reads, h.d.room, h.d.none_⟩
end MIn
theorem MIn.nil_es {w : World} {B N : Nat} {m : M} {c : Nat} {A' : Option Addr} {c' : Nat} (h : MIn w B N m none c A' c') : m.es = [] := by
  rcases hh : m.es with _ | ⟨x, L⟩
  · rfl
  · obtain ⟨_, _, e, _⟩ := h.es.reads.cells 0 (by rw [hh]; simp)
    cases e
def M77 : M := { M0 with K := -77 }
set_option maxHeartbeats 3200000 in
theorem spoilM_any (w : World) (b B N cc : Nat) (m : M) (A : Option Addr) (c : Nat) (A' : Option Addr) (c' : Nat) (h : MIn w B N m A c A' c') (hx : Bx w b m A c A' c') (hb : N ≤ b) :
    Calls Tryd.prog 25 #[.slice (some ⟨b, 0, none⟩) 1 cc] w fun e w' => e = .returned (.tuple #[]) ∧ Turned (fun k => Bl B N k ∨ k = b) w w' := by
  have hfew := h.few
  have hdl := h.d.room
  obtain ⟨ne, hne⟩ : ∃ ne, ne = m.es.length := ⟨_, rfl⟩
  have HNE := hid hne
  have HE : Hid (Calls Tryd.prog 55 #[.slice A ne c] w fun e w' => e = .returned (.tuple #[]) ∧ Turned (Bl B N) w w' ∧ OwnsB 5 w' B A' c' m.d) := by
    rcases h.one with ⟨rfl, rfl⟩ | ⟨rfl, rfl⟩
    · have he : m.es = [] := h.nil_es
      refine hid ((spoilE_any 0 0 none 0 ne m.es hne.symm (by omega) w (by rw [he]; exact OwnE.nil _ _ _)).mono fun e w' ⟨h1, h2⟩ => ⟨h1, ?_, ?_⟩)
      · exact ⟨h2.os, h2.tape, h2.output, h2.size, fun k hk _ => h2.block k hk (fun e => by have := e.2; omega)⟩
      · exact h.d.turned h2 (fun k _ e => by have := e.2; omega)
    · have hd : m.d = [] := h.d.reads.of_none
      refine hid ((spoilE_any B N A c ne m.es hne.symm (by omega) w h.es).mono fun e w' ⟨h1, h2⟩ => ⟨h1, h2, ?_⟩)
      rw [hd]; exact OwnsB.nil _ _ _
  have HX := hid hx
  have HD := hid (And.intro h.dN hdl)
  have HBB := hid h.d.blkLt
  have hlt := row_lt hx.row
  have hc15 := hx.c15
  rw [← hne] at hc15
  have HB := hid hb
  clear h hfew hdl hne hx hb
  go_enter Tryd.func25, Tryd.ntmps25
  go_wp2_with fail
  go_loopw [2] (fun i wr => ∃ k : Nat, k ≤ 1 ∧ i = .int .i64 (k : Int) ∧ Hid (k = 0 → wr = w) ∧ Hid (Turned (fun k => Bl B N k ∨ k = b) w wr)) (fun i _ => 1 - (RowKit.intOf i).toNat)
  case atStart => exact ⟨0, by omega, rfl, hid (fun _ => rfl), hid (Turned.refl _ _)⟩
  case round =>
    obtain ⟨k, hk, rfl, hw, hT⟩ := hrel
    by_cases hk0 : k = 0
    · have hwr := hw.out hk0
      subst hk0
      subst hwr
      clear hw hT hk
      go_wp2_with fail
      refine HE.out.mono ?_
      rintro e w2 ⟨rfl, ht2, ho2⟩
      have hx2 : Bx w2 b m A c A' c' := ⟨(ht2.block b hlt (fun e => by have := e.2; have := HB.out; omega)).trans HX.out.row⟩
      have hc16 := hx2.c16
      have HSP := hid (spoil_N B A' c' m.d m.d.length rfl (Nat.le_trans HD.out.2.1 HD.out.2.2) w2 ho2)
      have H2 := hid (And.intro ht2 hx2)
      clear ht2 ho2 hx2 HE
      go_wp2_with fail
      refine HSP.out.mono ?_
      rintro e w3 ⟨rfl, hg3⟩
      have ht3 : Turned (fun k => blk A' = some k) w2 w3 := Turned.ofGrown hg3 (fun j hj => hj)
      have hx3 : Bx w3 b m A c A' c' := ⟨(ht3.block b (row_lt H2.out.2.row) (fun e => by have := HD.out.1 b e; have := HB.out; omega)).trans H2.out.2.row⟩
      have hst := st_row w3 b _ (#[.int .i64 M77.K, .int .i64 M77.F, .int .i64 M77.T, .int .i64 M77.g, .int .i64 M77.t, .int .i64 M77.i, .int .i64 M77.p, .int .i64 M77.c, .int .i64 M77.r, .int .i64 M77.x, .int .i64 M77.a, .int .i64 M77.b, .int .i64 M77.v, .int .i64 M77.s, .bool M77.ok, .slice none M77.es.length 0, .slice none M77.d.length 0]) hx3.row rfl rfl (msg_one M77 none 0 none 0)
      obtain ⟨w4, hw4⟩ : ∃ w4, w4 = w3.setRow b (#[.int .i64 M77.K, .int .i64 M77.F, .int .i64 M77.T, .int .i64 M77.g, .int .i64 M77.t, .int .i64 M77.i, .int .i64 M77.p, .int .i64 M77.c, .int .i64 M77.r, .int .i64 M77.x, .int .i64 M77.a, .int .i64 M77.b, .int .i64 M77.v, .int .i64 M77.s, .bool M77.ok, .slice none M77.es.length 0, .slice none M77.d.length 0]) := ⟨_, rfl⟩
      have ht4 : Turned (fun k => k = b) w3 w4 := by rw [hw4]; exact set_turned w3 b _
      rw [← hw4] at hst
      have HT4 : Hid (Turned (fun k => Bl B N k ∨ k = b) wr w4) := hid (by
        have h1 : Turned (fun k => Bl B N k ∨ k = b) wr w2 := ⟨H2.out.1.os, H2.out.1.tape, H2.out.1.output, H2.out.1.size, fun k hk hn => H2.out.1.block k hk (fun e => hn (Or.inl e))⟩
        exact (h1.then_ ht3 (fun j _ hj => Or.inl ⟨(HBB.out j hj).1, HD.out.1 j hj⟩)).then_ ht4 (fun j _ hj => Or.inr hj))
      have hst2 : (stMsg (.pointer (some ⟨b, 0, none⟩)) (.agg #[.int .i64 (-77), .int .i64 0, .int .i64 0, .int .i64 0, .int .i64 0, .int .i64 0, .int .i64 0, .int .i64 0, .int .i64 0, .int .i64 0, .int .i64 0, .int .i64 0, .int .i64 0, .int .i64 0, .bool false, .slice none 0 0, .slice none 0 0])).run Tryd.prog w3 = .ok () w4 := hst
      clear ht3 hx3 ht4 hw4 hst hg3 hc15 hc16
      go_wp2_with fail
      go_roundw
      case rel => exact ⟨1, Nat.le_refl _, by go_num, hid (fun e => by cases e), HT4⟩
      case measure => simp [RowKit.intOf]
    · obtain rfl : k = 1 := by omega
      go_wp2_with fail
      go_end0
      exact ⟨rfl, hT.out⟩
end Go.Proofs.YtpigekbfngalbaaDoor.Ms
namespace Go.Proofs.YtpigekbfngalbaaDoor.messageGets
open Go.ChangeShapes Go.WideShapes Go.ChangeAt Go.RowKit
open Go.ChangeMaps (open_string shut_string)
set_option linter.unusedVariables false

theorem own : ownKnob Tryd.prog.godebug = none := by kernel_rfl
theorem laidOut : laidOutB Tryd.prog = true := by kernel_rfl
theorem bytesOf : Tryd.prog.bytesOf 5 = 1 := by kernel_rfl

attribute [local go_sem ↓] Ms.loadAt_msg Ms.storeAt_msg
open Ms in
theorem getB {w : World} {l : List Nat} {g cx : Nat} (h : OwnsB 5 w 0 (some ⟨g, 0, none⟩) cx (lent l)) : IsBytes w w.heap.size (some ⟨g, 0, none⟩) l := by
  have := h.reads.take l.length; rwa [take_lent] at this
open Ms in
set_option maxRecDepth 100000 in
set_option maxHeartbeats 6400000 in
theorem core (a0 : Option Addr) (cap0 : Nat) (l0 : List Nat) (w : World) (T : Ms.Tab w) (k0 : IsBytes w w.heap.size a0 l0) (n0 : l0.length ≤ cap0) (z0 : a0 = none → cap0 = 0) :
    Calls Tryd.prog 5 #[.slice a0 l0.length cap0] w fun e w' => e = .returned (.bool true) ∧ Below w.heap.size w w' := by
  have HT := hid T
  by_cases hlong : 131072 < l0.length
  · go_enter Tryd.func5, Tryd.ntmps5
    go_wp2_with fail
    refine (works_N w w HT.out (Below.refl _ w)).mono ?_
    rintro e w3 ⟨rfl, hb3⟩
    have HB3 := hid hb3
    clear hb3
    go_wp2_with fail
    go_ret
    exact ⟨rfl, HB3.out⟩
  obtain ⟨n, hn⟩ : ∃ n, l0.length = n := ⟨_, rfl⟩
  have HN := hid hn
  have HI := hid k0
  have HLT := hid (lent_any w.heap.size a0 cap0 l0 (by omega) w k0 (Nat.le_refl _))
  rw [hn] at HLT hlong n0
  rw [hn]
  have hl : n ≤ 131072 := by omega
  have hpos := T.pos
  clear T k0 hn hlong
  go_enter Tryd.func5, Tryd.ntmps5
  go_wp2_with fail
  refine HLT.out.mono ?_
  rintro e w1 ⟨gc, cx, rfl, hx, hb1⟩
  have hcx := hx.cap
  rw [lent_length, HN.out] at hcx
  have hcx1 : n ≤ cx := by omega
  have hcx2 : (n : Int) ≤ (cx : Int) := by omega
  have hgc := hx.blkLt gc rfl
  have HX1 : Hid (OwnsB 5 w1 w.heap.size (some ⟨gc, 0, none⟩) cx (lent l0)) := hid hx
  have HB1 := hid hb1
  obtain ⟨mg, eg, hmg⟩ : ∃ mg eg, Ms.get l0 = (mg, eg) := ⟨_, _, rfl⟩
  obtain ⟨pe, hpe⟩ : ∃ pe : Int, ((eg : Nat) : Int) = pe := ⟨_, rfl⟩
  have hsm : Small mg := by
    have h1 := fr_short l0
    have h2 := dec_small (Fr.get l0).1 h1
    have hm : mg = (Ms.get l0).1 := by rw [hmg]
    rw [hm]
    unfold Ms.get checked
    split
    · exact M0_small
    · split
      · exact M0_small
      · split
        · exact M0_small
        · split
          · exact M0_small
          · exact h2
  have HSM := hid hsm
  have HGE : Hid (∀ wz, Below w.heap.size w wz → OwnsB 5 wz w.heap.size (some ⟨gc, 0, none⟩) cx (lent l0) → Calls Tryd.prog 22 #[.slice (some ⟨gc, 0, none⟩) n cx] wz fun e w' => ∃ A c A' c', e = .returned (.tuple #[.agg #[.int .i64 mg.K, .int .i64 mg.F, .int .i64 mg.T, .int .i64 mg.g, .int .i64 mg.t, .int .i64 mg.i, .int .i64 mg.p, .int .i64 mg.c, .int .i64 mg.r, .int .i64 mg.x, .int .i64 mg.a, .int .i64 mg.b, .int .i64 mg.v, .int .i64 mg.s, .bool mg.ok, .slice A mg.es.length c, .slice A' mg.d.length c'], .int .i64 pe]) ∧ OwnM w' wz.heap.size mg A c A' c' ∧ Below wz.heap.size wz w') := hid fun wz hb ho =>
    get_is l0 (some ⟨gc, 0, none⟩) cx n HN.out wz (getB (ho.weaken (Nat.zero_le _))) (fun h => by cases h) hcx1 (by omega) (HT.out.below hb hpos) mg eg hmg pe hpe
  have HRG : Hid (∀ wz, Below w.heap.size w wz → Calls Tryd.prog 23 #[.slice a0 n cap0] wz fun e w' => ∃ A c A' c', e = .returned (.tuple #[.agg #[.int .i64 mg.K, .int .i64 mg.F, .int .i64 mg.T, .int .i64 mg.g, .int .i64 mg.t, .int .i64 mg.i, .int .i64 mg.p, .int .i64 mg.c, .int .i64 mg.r, .int .i64 mg.x, .int .i64 mg.a, .int .i64 mg.b, .int .i64 mg.v, .int .i64 mg.s, .bool mg.ok, .slice A mg.es.length c, .slice A' mg.d.length c'], .int .i64 pe]) ∧ OwnM w' wz.heap.size mg A c A' c' ∧ Below wz.heap.size wz w') := hid fun wz hb => by
    refine (rget_any l0 a0 cap0 n HN.out wz ((HI.out.below hb).more hb.size) n0 (by omega)).mono ?_
    rintro e w' ⟨A, c, A', c', he, ho, hbb⟩
    rw [hmg] at he ho
    subst hpe
    exact ⟨A, c, A', c', he, ho, hbb⟩
  clear hx hb1 HLT hcx hmg hpe hsm
  go_wp2_with fail
  refine (HGE.out w1 HB1.out HX1.out).mono ?_
  rintro e w2 ⟨A1, c1, A2, c2, rfl, ho2, hb2⟩
  -- the first message and its box
  have hst := st_new w2 #[.int .i64 0, .int .i64 0, .int .i64 0, .int .i64 0, .int .i64 0, .int .i64 0, .int .i64 0, .int .i64 0, .int .i64 0, .int .i64 0, .int .i64 0, .int .i64 0, .int .i64 0, .int .i64 0, .bool false, .slice none 0 0, .slice none 0 0] (#[.int .i64 mg.K, .int .i64 mg.F, .int .i64 mg.T, .int .i64 mg.g, .int .i64 mg.t, .int .i64 mg.i, .int .i64 mg.p, .int .i64 mg.c, .int .i64 mg.r, .int .i64 mg.x, .int .i64 mg.a, .int .i64 mg.b, .int .i64 mg.v, .int .i64 mg.s, .bool mg.ok, .slice A1 mg.es.length c1, .slice A2 mg.d.length c2]) rfl rfl (msg_one mg A1 c1 A2 c2)
  obtain ⟨w3, hw3⟩ : ∃ w3, w3 = w2.alloc (.cells #[.int .i64 mg.K, .int .i64 mg.F, .int .i64 mg.T, .int .i64 mg.g, .int .i64 mg.t, .int .i64 mg.i, .int .i64 mg.p, .int .i64 mg.c, .int .i64 mg.r, .int .i64 mg.x, .int .i64 mg.a, .int .i64 mg.b, .int .i64 mg.v, .int .i64 mg.s, .bool mg.ok, .slice A1 mg.es.length c1, .slice A2 mg.d.length c2] 25) := ⟨_, rfl⟩
  have hb23 : Below w2.heap.size w2 w3 := by rw [hw3]; exact (Below.refl _ w2).alloc (Nat.le_refl _) _
  have hs3 : w3.heap.size = w2.heap.size + 1 := by rw [hw3]; simp
  have hbx3 : Bx w3 w2.heap.size mg A1 c1 A2 c2 := ⟨by rw [hw3]; exact heap_alloc_new w2 _⟩
  have hm3 : MIn w3 w1.heap.size w2.heap.size mg A1 c1 A2 c2 := ho2.min.below hb23
  have hb3 : Below w.heap.size w w3 := HB1.out.trans ((hb2.mono HB1.out.size).trans (hb23.mono (by have := HB1.out.size; have := hb2.size; omega)))
  have hx3 : OwnsB 5 w3 w.heap.size (some ⟨gc, 0, none⟩) cx (lent l0) := (HX1.out.below hb2).below hb23
  have hsz12 := hb2.size
  have H3 := hid (And.intro hbx3 (And.intro hm3 (And.intro hb3 (And.intro hx3 (And.intro hs3 hsz12)))))
  clear ho2 hb2 hb23 hbx3 hm3 hb3 hx3 hs3
  go_wp2_with fail
  rw [← hw3]
  clear hst hw3
  refine (HGE.out w3 H3.out.2.2.1 H3.out.2.2.2.1).mono ?_
  rintro e w4 ⟨A3, c3, A4, c4, rfl, ho4, hb4⟩
  have hst := st_new w4 #[.int .i64 0, .int .i64 0, .int .i64 0, .int .i64 0, .int .i64 0, .int .i64 0, .int .i64 0, .int .i64 0, .int .i64 0, .int .i64 0, .int .i64 0, .int .i64 0, .int .i64 0, .int .i64 0, .bool false, .slice none 0 0, .slice none 0 0] (#[.int .i64 mg.K, .int .i64 mg.F, .int .i64 mg.T, .int .i64 mg.g, .int .i64 mg.t, .int .i64 mg.i, .int .i64 mg.p, .int .i64 mg.c, .int .i64 mg.r, .int .i64 mg.x, .int .i64 mg.a, .int .i64 mg.b, .int .i64 mg.v, .int .i64 mg.s, .bool mg.ok, .slice A3 mg.es.length c3, .slice A4 mg.d.length c4]) rfl rfl (msg_one mg A3 c3 A4 c4)
  obtain ⟨w5, hw5⟩ : ∃ w5, w5 = w4.alloc (.cells #[.int .i64 mg.K, .int .i64 mg.F, .int .i64 mg.T, .int .i64 mg.g, .int .i64 mg.t, .int .i64 mg.i, .int .i64 mg.p, .int .i64 mg.c, .int .i64 mg.r, .int .i64 mg.x, .int .i64 mg.a, .int .i64 mg.b, .int .i64 mg.v, .int .i64 mg.s, .bool mg.ok, .slice A3 mg.es.length c3, .slice A4 mg.d.length c4] 25) := ⟨_, rfl⟩
  have hb45 : Below w4.heap.size w4 w5 := by rw [hw5]; exact (Below.refl _ w4).alloc (Nat.le_refl _) _
  have hs5 : w5.heap.size = w4.heap.size + 1 := by rw [hw5]; simp
  have hb35 : Below w3.heap.size w3 w5 := hb4.trans (hb45.mono hb4.size)
  have hbx5 : Bx w5 w4.heap.size mg A3 c3 A4 c4 := ⟨by rw [hw5]; exact heap_alloc_new w4 _⟩
  have hm5 : MIn w5 w3.heap.size w4.heap.size mg A3 c3 A4 c4 := ho4.min.below hb45
  have H5 := hid (And.intro (H3.out.1.below hb35 (row_lt H3.out.1.row)) (And.intro (H3.out.2.1.below hb35) (And.intro (H3.out.2.2.1.trans (hb35.mono H3.out.2.2.1.size)) (And.intro (H3.out.2.2.2.1.below hb35) (And.intro hbx5 (And.intro hm5 (And.intro hs5 hb4.size)))))))
  clear ho4 hb4 hb45 hbx5 hm5 hs5 hb35
  go_wp2_with fail
  rw [← hw5]
  clear hst hw5
  refine (HRG.out w5 H5.out.2.2.1).mono ?_
  rintro e w6 ⟨A5, c5, A6, c6, rfl, ho6, hb6⟩
  have hst := st_new w6 #[.int .i64 0, .int .i64 0, .int .i64 0, .int .i64 0, .int .i64 0, .int .i64 0, .int .i64 0, .int .i64 0, .int .i64 0, .int .i64 0, .int .i64 0, .int .i64 0, .int .i64 0, .int .i64 0, .bool false, .slice none 0 0, .slice none 0 0] (#[.int .i64 mg.K, .int .i64 mg.F, .int .i64 mg.T, .int .i64 mg.g, .int .i64 mg.t, .int .i64 mg.i, .int .i64 mg.p, .int .i64 mg.c, .int .i64 mg.r, .int .i64 mg.x, .int .i64 mg.a, .int .i64 mg.b, .int .i64 mg.v, .int .i64 mg.s, .bool mg.ok, .slice A5 mg.es.length c5, .slice A6 mg.d.length c6]) rfl rfl (msg_one mg A5 c5 A6 c6)
  obtain ⟨w7, hw7⟩ : ∃ w7, w7 = w6.alloc (.cells #[.int .i64 mg.K, .int .i64 mg.F, .int .i64 mg.T, .int .i64 mg.g, .int .i64 mg.t, .int .i64 mg.i, .int .i64 mg.p, .int .i64 mg.c, .int .i64 mg.r, .int .i64 mg.x, .int .i64 mg.a, .int .i64 mg.b, .int .i64 mg.v, .int .i64 mg.s, .bool mg.ok, .slice A5 mg.es.length c5, .slice A6 mg.d.length c6] 25) := ⟨_, rfl⟩
  have hb67 : Below w6.heap.size w6 w7 := by rw [hw7]; exact (Below.refl _ w6).alloc (Nat.le_refl _) _
  have hs7 : w7.heap.size = w6.heap.size + 1 := by rw [hw7]; simp
  have hb57 : Below w5.heap.size w5 w7 := hb6.trans (hb67.mono hb6.size)
  have hbx7 : Bx w7 w6.heap.size mg A5 c5 A6 c6 := ⟨by rw [hw7]; exact heap_alloc_new w6 _⟩
  have hm7 : MIn w7 w5.heap.size w6.heap.size mg A5 c5 A6 c6 := ho6.min.below hb67
  -- all that lies there at w7, and stays
  have HZ : Hid (∀ wz, Below w7.heap.size w7 wz → Bx wz w2.heap.size mg A1 c1 A2 c2 ∧ MIn wz w1.heap.size w2.heap.size mg A1 c1 A2 c2 ∧ Below w.heap.size w wz ∧ OwnsB 5 wz w.heap.size (some ⟨gc, 0, none⟩) cx (lent l0) ∧ Bx wz w4.heap.size mg A3 c3 A4 c4 ∧ MIn wz w3.heap.size w4.heap.size mg A3 c3 A4 c4 ∧ Bx wz w6.heap.size mg A5 c5 A6 c6 ∧ MIn wz w5.heap.size w6.heap.size mg A5 c5 A6 c6) := hid fun wz hb => by
    have hbb := hb57.trans (hb.mono hb57.size)
    exact ⟨H5.out.1.below hbb (row_lt H5.out.1.row), H5.out.2.1.below hbb, H5.out.2.2.1.trans (hbb.mono H5.out.2.2.1.size), H5.out.2.2.2.1.below hbb, H5.out.2.2.2.2.1.below hbb (row_lt H5.out.2.2.2.2.1.row), H5.out.2.2.2.2.2.1.below hbb, hbx7.below hb (row_lt hbx7.row), hm7.below hb⟩
  have HSZ : Hid (w.heap.size ≤ gc ∧ gc < w1.heap.size ∧ w1.heap.size ≤ w2.heap.size ∧ w3.heap.size = w2.heap.size + 1 ∧ w3.heap.size ≤ w4.heap.size ∧ w5.heap.size = w4.heap.size + 1 ∧ w5.heap.size ≤ w6.heap.size ∧ w7.heap.size = w6.heap.size + 1) :=
    hid ⟨hgc.1, hgc.2, H3.out.2.2.2.2.2, H3.out.2.2.2.2.1, H5.out.2.2.2.2.2.2.2, H5.out.2.2.2.2.2.2.1, hb6.size, hs7⟩
  have hld1 := (HZ.out w7 (Below.refl _ _)).1.load
  have hld3 := (HZ.out w7 (Below.refl _ _)).2.2.2.2.2.2.1.load
  clear ho6 hb6 hb67 hb57 hbx7 hm7 hs7 H3 H5 HX1 HGE HRG hgc hsz12
  rw [hw7] at hld1 hld3
  go_wp2_with fail
  rw [← hw7]
  clear hst hw7
  obtain ⟨z1, z2, z3, z4, z5, z6, z7, z8⟩ := HZ.out w7 (Below.refl _ _)
  have HS7 := hid (same_yes mg A1 c1 A2 c2 A5 c5 A6 c6 w7 z2.is.es z8.is.es z2.is.d z8.is.d HSM.out)
  clear z1 z2 z3 z4 z5 z6 z7 z8 hld1 hld3
  refine HS7.out.mono ?_
  rintro e w8 ⟨rfl, hb8⟩
  have HB8 := hid hb8
  obtain ⟨z1, z2, z3, z4, z5, z6, z7, z8⟩ := HZ.out w8 hb8
  have hcc := z4.cap
  rw [lent_length] at hcc
  have HKP : Hid (Calls Tryd.prog 24 #[.slice (some ⟨gc, 0, none⟩) (n + 5) cx, .slice a0 n cap0] w8 fun e w' => e = .returned (.bool true) ∧ ∃ j, w' = w8.drewN j) := hid (by
    have := kept_any w8.heap.size w.heap.size gc a0 cx cap0 l0 (by have := HN.out; omega) hcc w8 z4.reads (HI.out.below z3)
    rw [HN.out] at this; exact this)
  clear hb8 z1 z2 z3 z4 z5 z6 z7 z8 HS7 hcc
  go_wp2_with fail
  refine HKP.out.mono ?_
  rintro e w9 ⟨rfl, n9, hw9⟩
  have hb9 : Below w7.heap.size w7 w9 := by rw [hw9]; exact below_drewN HB8.out n9
  have HB9 := hid hb9
  clear HKP hw9 hb9
  obtain ⟨z1, z2, z3, z4, z5, z6, z7, z8⟩ := HZ.out w9 HB9.out
  have hld1 := z1.load
  obtain ⟨wa, hwa⟩ : ∃ wa, wa = w9.alloc (.cells #[.int .i64 mg.K, .int .i64 mg.F, .int .i64 mg.T, .int .i64 mg.g, .int .i64 mg.t, .int .i64 mg.i, .int .i64 mg.p, .int .i64 mg.c, .int .i64 mg.r, .int .i64 mg.x, .int .i64 mg.a, .int .i64 mg.b, .int .i64 mg.v, .int .i64 mg.s, .bool mg.ok, .slice A1 mg.es.length c1, .slice A2 mg.d.length c2] 25) := ⟨_, rfl⟩
  have hba : Below w9.heap.size w9 wa := by rw [hwa]; exact (Below.refl _ w9).alloc (Nat.le_refl _) _
  have hbxa : Bx wa w9.heap.size mg A1 c1 A2 c2 := ⟨by rw [hwa]; exact heap_alloc_new w9 _⟩
  have HBA := hid (HB9.out.trans (hba.mono HB9.out.size))
  have hge : w2.heap.size ≤ w9.heap.size := by have := HSZ.out; have := HB9.out.size; omega
  have HSP := hid (spoilM_any wa w9.heap.size w1.heap.size w2.heap.size 1 mg A1 c1 A2 c2 (z2.below hba) hbxa hge)
  clear z1 z2 z3 z4 z5 z6 z7 z8 hba hbxa
  go_wp2_with fail
  rw [← hwa]
  clear hwa hld1
  refine HSP.out.mono ?_
  rintro e wb ⟨rfl, htb⟩
  obtain ⟨z1, z2, z3, z4, z5, z6, z7, z8⟩ := HZ.out wa HBA.out
  have hsz := HSZ.out
  have hz9 := HB9.out.size
  have hxb : OwnsB 5 wb w.heap.size (some ⟨gc, 0, none⟩) cx (lent l0) := z4.turned htb (fun k hk e => by injection hk with hk; unfold Bl at e; simp only [] at hk; omega)
  have hbb : Below w.heap.size w wb := z3.trans (htb.below z3.size (fun k hk => by unfold Bl at hk; omega))
  have h5b : Bx wb w4.heap.size mg A3 c3 A4 c4 := ⟨(htb.block _ (row_lt z5.row) (fun e => by unfold Bl at e; omega)).trans z5.row⟩
  have h6b : MIn wb w3.heap.size w4.heap.size mg A3 c3 A4 c4 := z6.turned htb (fun k hk => by unfold Bl at hk; omega)
  have h7b : Bx wb w6.heap.size mg A5 c5 A6 c6 := ⟨(htb.block _ (row_lt z7.row) (fun e => by unfold Bl at e; omega)).trans z7.row⟩
  have h8b : MIn wb w5.heap.size w6.heap.size mg A5 c5 A6 c6 := z8.turned htb (fun k hk => by unfold Bl at hk; omega)
  have HB := hid (And.intro hbb (And.intro h5b (And.intro h6b (And.intro h7b h8b))))
  have HSB := hid (spoil_N w.heap.size (some ⟨gc, 0, none⟩) cx (lent l0) (n + 5) (by rw [lent_length, HN.out]) (by unfold maxLen; omega) wb hxb)
  clear z1 z2 z3 z4 z5 z6 z7 z8 htb hxb hbb h5b h6b h7b h8b hz9 hge HSP
  go_wp2_with fail
  refine HSB.out.mono ?_
  rintro e wc ⟨rfl, hgc⟩
  have htc : Turned (fun k => k = gc) wb wc := Turned.ofGrown hgc (fun k hk => by injection hk with hk; exact hk.symm)
  obtain ⟨z3, z5, z6, z7, z8⟩ := HB.out
  have hbc : Below w.heap.size w wc := z3.trans (htc.below z3.size (fun k hk => by omega))
  have h5c : Bx wc w4.heap.size mg A3 c3 A4 c4 := ⟨(htc.block _ (row_lt z5.row) (fun e => by omega)).trans z5.row⟩
  have h6c : MIn wc w3.heap.size w4.heap.size mg A3 c3 A4 c4 := z6.turned htc (fun k hk => by omega)
  have h7c : Bx wc w6.heap.size mg A5 c5 A6 c6 := ⟨(htc.block _ (row_lt z7.row) (fun e => by omega)).trans z7.row⟩
  have h8c : MIn wc w5.heap.size w6.heap.size mg A5 c5 A6 c6 := z8.turned htc (fun k hk => by omega)
  have HSC := hid (same_yes mg A3 c3 A4 c4 A5 c5 A6 c6 wc h6c.is.es h8c.is.es h6c.is.d h8c.is.d HSM.out)
  have HBC := hid hbc
  have hld5 := h5c.load
  have hld7 := h7c.load
  clear z3 z5 z6 z7 z8 hgc htc hbc h5c h6c h7c h8c hsz HSB HB
  go_wp2_with fail
  refine HSC.out.mono ?_
  rintro e wd ⟨rfl, hbd⟩
  have HBD := hid (HBC.out.trans (hbd.mono HBC.out.size))
  clear hbd hld5 hld7
  go_wp2_with fail
  refine (works_N w wd HT.out HBD.out).mono ?_
  rintro e we ⟨rfl, hbe⟩
  have HBE := hid hbe
  clear hbe
  go_wp2_with fail
  go_ret
  exact ⟨rfl, HBE.out⟩
theorem walk (a0 : Option Addr) (cap0 : Nat) (l0 : List Nat) (w : World) (T : Ms.Tab w) (k0 : IsBytes w w.heap.size a0 l0) (n0 : l0.length ≤ cap0) (r0 : cap0 ≤ 140737488351232) (z0 : a0 = none → cap0 = 0) :
    Calls Tryd.prog 5 #[.slice a0 l0.length cap0] w fun e w' => e = .returned (.bool true) ∧ Below w.heap.size w w' := core a0 cap0 l0 w T k0 n0 z0

set_option maxRecDepth 100000 in
theorem lifted (os : Os) (started : os.Started) (H : Type) (enc : TypeId × Value → H) :
    ReturnsInHanded {} Tryd.checked os 5 .any (fun w args => (Rows.messageGetsSpec.pre enc Tryd.prog Tryd.f5 [] false w args ∧ laidMetH Tryd.prog Ms.laid w) ∧ sizedMet enc Tryd.prog Tryd.f5 (OpenSpec.ofChange Rows.messageGetsSpec) false w args) (Rows.messageGetsSpec.post enc Tryd.prog Tryd.f5 false true false false) := by
  refine returnsInHanded_of_change_and (C := Tryd.checked) (X := fun w _ => laidMetH Tryd.prog Ms.laid w) (fun _ _ _ hh h => h.of_heap hh) own started (by kernel_rfl) Tryd.func5
    (ChangeSpec.witness_shaped (enc := enc) (C := Tryd.checked) (os := os) (X := fun w _ => laidMetH Tryd.prog Ms.laid w) false (World.doorLaid Tryd.prog 400 os) #[.slice none 0 0] 8 rfl (World.shaped_of_RefB (by kernel_rfl) (by kernel_rfl)) (by kernel_rfl) (by kernel_rfl) (by kernel_rfl) (Ms.door_met os _)) ?_
  intro W base args ds gs before hval0 hW hcnd hsz0 hL _
  have hT := Ms.tab_of_laid hL
  have hsz : (DataW.weightsEach Tryd.prog (Tryd.f5.params.toList ++ Rows.messageGetsSpec.plain.varTypes Tryd.prog) (ds ++ gs)).all (· ≤ reachBytes) = true := hsz0
  clear hsz0
  have hval : ∀ (j : Nat) t v, Tryd.f5.params[j]? = some t → args[j]? = some v → Value.okWide Tryd.prog W .any base t v := hval0
  have hW' := hW
  obtain ⟨p, q, hA0, hV, rfl, hfz, hnd⟩ := hW
  have hA : DataW.TrodAll enc Tryd.prog W 0 (fun _ => true) true Tryd.f5.params.toList args.toList ds p := hA0
  rw [Tryd.params5] at hA hval hsz
  obtain ⟨v0, vs0, d0, ds0, p0, q0, hargs, rfl, rfl, g0, t0⟩ := trodAll_cons hA
  obtain ⟨rfl, rfl, rfl⟩ := trodAll_nil t0
  obtain rfl : args = #[v0] := by cases args; simp_all
  obtain ⟨rfl, rfl⟩ := trodVars_none hV
  obtain ⟨a0, len0, cap0, rfl⟩ := okWide_slice Tryd.underlying23 (hval 0 23 v0 rfl rfl)
  have m0 := g0
  have lt0 : ∀ x ∈ p0, x.block < W.heap.size := by obtain ⟨m, hm⟩ := m0; exact DataW.trod_lt m _ _ _ hm
  obtain ⟨l0, k0, rfl, n0, r0, z0⟩ : ∃ l, IsBytes W W.heap.size a0 l ∧ len0 = l.length ∧ l.length ≤ cap0 ∧ cap0 ≤ 140737488351232 ∧ (a0 = none → cap0 = 0) := by
    obtain ⟨fuel, hf⟩ := g0
    rcases open_ints Tryd.underlying23 Tryd.underlying5 (by kernel_rfl) hf with ⟨hcs, _⟩ | ⟨x, l, c, zs, hcs, _, hl, hm, hz, hx, hcell, hwz⟩
    · simp [Value.cells] at hcs
      obtain ⟨rfl, rfl, rfl⟩ := hcs
      exact ⟨[], IsBytes.nil, rfl, by simp, by omega, fun _ => rfl⟩
    · simp [Value.cells] at hcs
      obtain ⟨rfl, rfl, rfl⟩ := hcs
      simp only [Prod.mk.injEq] at hx
      obtain ⟨rfl, rfl⟩ := hx
      simp only [if_true] at hz
      have hr := sized_slice hsz (j := 0) (t := 23) (e := 5) rfl rfl Tryd.underlying23
      rw [bytesOf] at hr
      simp only [lits, List.length_map, List.length_take, List.length_drop, reachBytes] at hr
      obtain ⟨l, h1, h2⟩ := isBytes_of_ints hl hz hcell hwz
      exact ⟨l, h1, h2, by omega, by omega, fun h => by cases h⟩
  clear hA0 hval0
  refine (walk a0 cap0 l0 W hT k0 n0 r0 z0).mono fun e W' ⟨he, bel⟩ => ?_
  subst he
  exact ⟨_, rfl, _, _, _, [], _, [], hW', trodAll_mk1 (shut_bool Tryd.underlying4 _), (trodAll_cons_mk (Below.trod laidOut (by kernel_rfl) (of_decide_eq_true (by kernel_rfl)) m0 bel lt0) trodAll_mk0), rfl, bel.frame _, fun h => by cases h⟩

theorem over : Rows.messageGetsRow.holds Tryd.pinned (OpenSpec.ofChange Rows.messageGetsSpec) :=
  OpenClaim.holds_of_wide 5 Tryd.f5 rfl rfl rfl rfl rfl rfl rfl ⟨rfl, rfl, rfl, rfl, rfl⟩ rfl rfl rfl rfl rfl (by kernel_rfl) Tryd.func5 (by kernel_rfl)
    (of_decide_eq_true (by kernel_rfl)) (by unfold Func.isWrapper; first | (rw [if_pos (by decide +kernel)]; kernel_rfl) | (rw [if_neg (by decide +kernel)]; exact ⟨rfl, rfl⟩))
    (fun os started H enc _ => lifted os started H enc)

theorem proved : Rows.MessageGetsCardSaid :=
  Claim7.holds_tied_plain_at .later [] [.data] true Rows.messageGetsCard.stood.harness false
    over (fun _ h => by cases h) (by kernel_rfl) (fun _ h => by cases h) messageGets_row_tie rfl ⟨rfl, rfl⟩ (by kernel_rfl) rfl
    (fun f fn hf hfn => by
      obtain rfl : f = 5 := Option.some.inj ((show Tryd.prog.funcNamed "glebe/glebelaw12.MessageGets" = some 5 by kernel_rfl).symm.trans hf) |>.symm
      obtain rfl : fn = Tryd.f5 := (Option.some.inj (Tryd.func5.symm.trans hfn)).symm
      exact ⟨by kernel_rfl, fun j t ht => by
        rw [Tryd.params5] at ht
        have hm : t ∈ ([23] : List TypeId) := by simpa using Array.mem_of_getElem? ht
        have hall : (([23] : List TypeId).all fun u => !Tryd.prog.wantsStandIn u) = true := by kernel_rfl
        exact (show Tryd.prog.wantsStandIn t = false by simpa using List.all_eq_true.1 hall t hm)⟩)
    (by kernel_rfl)
end Go.Proofs.YtpigekbfngalbaaDoor.messageGets
namespace Go.Proofs.YtpigekbfngalbaaDoor.messageKnown
open Go.ChangeShapes Go.WideShapes Go.ChangeAt Go.RowKit
open Go.ChangeMaps (open_string shut_string)
set_option linter.unusedVariables false

theorem own : ownKnob Tryd.prog.godebug = none := by kernel_rfl
theorem laidOut : laidOutB Tryd.prog = true := by kernel_rfl

attribute [local go_sem ↓] Ms.loadAt_msg Ms.storeAt_msg
open Ms
/-- the numbers of the examples -/
def numsK : List Int := [-9223372036854775808, -1, 0, 1, 2, 3, 4, 5, 12, 199, 200, 1099511627776, 1099511627777, 9223372036854775807]
theorem numsK_in : ∀ x ∈ numsK, InInt x := by
  intro x hx
  simp only [numsK, List.mem_cons, List.not_mem_nil, or_false] at hx
  rcases hx with rfl | rfl | rfl | rfl | rfl | rfl | rfl | rfl | rfl | rfl | rfl | rfl | rfl | rfl <;> exact ⟨by decide, by decide⟩
/-- the numbers, and a message with all fields of its kind, where they lie -/
structure Mk (w wr : World) (b : Nat) (m : M) (A : Option Addr) (c : Nat) (A' : Option Addr) (c' : Nat) : Prop where
  bel : Below w.heap.size w wr
  nms : wr.heap[w.heap.size]? = some (.cells (ints numsK).toArray 3 (0, 0))
  box : Bx wr b m A c A' c'
  is : Is wr wr.heap.size m A c A' c'
theorem Mk.low {w wr wz : World} {b : Nat} {m : M} {A A' : Option Addr} {c c' : Nat} (h : Mk w wr b m A c A' c') (hb : Below wr.heap.size wr wz) : Mk w wz b m A c A' c' :=
  ⟨h.bel.trans (hb.mono h.bel.size), (hb.block _ (row_lt h.nms)).trans h.nms, h.box.below hb (row_lt h.box.row), h.is.low hb⟩
theorem Mk.num {w wr : World} {b : Nat} {m : M} {A A' : Option Addr} {c c' : Nat} (h : Mk w wr b m A c A' c') (i : Nat) (hi : i < numsK.length) : wr.cell? ⟨w.heap.size, i, none⟩ = some (.int .i64 numsK[i]) := by
  rw [cell_of_row wr w.heap.size i _ _ (0, 0) h.nms]
  simp [ints, hi]
/-- a load that a region must not take first; operations that are not done -/
def loadK : Op := Op.load 25 (Operand.tmp 3)
set_option maxRecDepth 100000 in
set_option maxHeartbeats 12800000 in
theorem walk (w : World) (T : Ms.Tab w) :
    Calls Tryd.prog 9 #[] w fun e w' => e = .returned (.bool true) ∧ Below w.heap.size w w' := by
  have HT := hid T
  have hpos := T.pos
  obtain ⟨w1, hw1⟩ : ∃ w1, w1 = w.alloc (.cells (ints numsK).toArray 3) := ⟨_, rfl⟩
  have hb1 : Below w.heap.size w w1 := by rw [hw1]; exact (Below.refl _ w).alloc (Nat.le_refl _) _
  have hn1 : w1.heap[w.heap.size]? = some (.cells (ints numsK).toArray 3 (0, 0)) := by rw [hw1]; exact heap_alloc_new w _
  have H1 := hid (And.intro hb1 hn1)
  have hw2 : w.alloc (.cells #[.int .i64 (-9223372036854775808), .int .i64 (-1), .int .i64 0, .int .i64 1, .int .i64 2, .int .i64 3, .int .i64 4, .int .i64 5, .int .i64 12, .int .i64 199, .int .i64 200, .int .i64 1099511627776, .int .i64 1099511627777, .int .i64 9223372036854775807] 3) = w1 := hw1.symm
  clear T hb1 hn1 hw1
  go_enter Tryd.func9, Tryd.ntmps9
  go_upto_region 3 with fail
  clear hw2
  go_wp2_with fail
  go_loopw [2, 3, 4, 5, 6, 7, 8, 9] (fun i _ _ _ _ _ _ _ wr => ∃ k : Nat, k ≤ 13 ∧ i = .int .i64 (k : Int) ∧ Hid (Below w.heap.size w wr ∧ wr.heap[w.heap.size]? = some (.cells (ints numsK).toArray 3 (0, 0)))) (fun i _ _ _ _ _ _ _ _ => 13 - (RowKit.intOf i).toNat)
  case atStart => exact ⟨0, by omega, rfl, H1⟩
  case round =>
    clear H1
    obtain ⟨k, hk, rfl, HW⟩ := hrel
    by_cases hlt : k ≤ 12
    · have HFU := hid (full_any k hlt wr (HT.out.below HW.out.1 hpos))
      go_wp2_with fail
      refine HFU.out.mono ?_
      rintro e w2 ⟨A, c, A', c', rfl, hi2, hb2⟩
      obtain ⟨m, hm⟩ : ∃ m, m = fullTo k 14 := ⟨_, rfl⟩
      rw [← hm] at hi2
      rw [← hm]
      have hst := st_new w2 #[.int .i64 0, .int .i64 0, .int .i64 0, .int .i64 0, .int .i64 0, .int .i64 0, .int .i64 0, .int .i64 0, .int .i64 0, .int .i64 0, .int .i64 0, .int .i64 0, .int .i64 0, .int .i64 0, .bool false, .slice none 0 0, .slice none 0 0] (#[.int .i64 m.K, .int .i64 m.F, .int .i64 m.T, .int .i64 m.g, .int .i64 m.t, .int .i64 m.i, .int .i64 m.p, .int .i64 m.c, .int .i64 m.r, .int .i64 m.x, .int .i64 m.a, .int .i64 m.b, .int .i64 m.v, .int .i64 m.s, .bool m.ok, .slice A m.es.length c, .slice A' m.d.length c']) rfl rfl (msg_one m A c A' c')
      obtain ⟨w3, hw3⟩ : ∃ w3, w3 = w2.alloc (.cells #[.int .i64 m.K, .int .i64 m.F, .int .i64 m.T, .int .i64 m.g, .int .i64 m.t, .int .i64 m.i, .int .i64 m.p, .int .i64 m.c, .int .i64 m.r, .int .i64 m.x, .int .i64 m.a, .int .i64 m.b, .int .i64 m.v, .int .i64 m.s, .bool m.ok, .slice A m.es.length c, .slice A' m.d.length c'] 25) := ⟨_, rfl⟩
      have hb3 : Below w2.heap.size w2 w3 := by rw [hw3]; exact (Below.refl _ w2).alloc (Nat.le_refl _) _
      have hbx3 : Bx w3 w2.heap.size m A c A' c' := ⟨by rw [hw3]; exact heap_alloc_new w2 _⟩
      have H3 : Hid (Mk w w3 w2.heap.size m A c A' c') := hid ⟨HW.out.1.trans ((hb2.mono HW.out.1.size).trans (hb3.mono (Nat.le_trans HW.out.1.size hb2.size))), (hb3.block _ (by have := row_lt HW.out.2; have := hb2.size; omega)).trans ((hb2.block _ (row_lt HW.out.2)).trans HW.out.2), hbx3, hi2.low hb3⟩
      have HCK : Hid (1 ≤ k → k ≤ 11 → check m = 0) := hid (fun h1 h2 => by rw [hm]; exact full_right k (List.mem_range.2 (by omega)) h1 h2)
      have hsm : Small m := by rw [hm]; exact (fullTo_tiny k 14).small
      have HSM := hid hsm
      have HTZ : Hid (∀ wz, Below w.heap.size w wz → Tab wz) := hid fun wz hb => HT.out.below hb hpos
      have hld := hbx3.load
      clear hb2 hb3 hbx3 hi2 HFU hm HW hsm
      clear hld
      have hkk : (k : Int) ≤ 12 := by omega
      go_upto_region 6 with fail
      rw [← hw3]
      clear hst hw3
      generalize w2.heap.size = bx at *
      go_cut [32] from 15 to 32 (fun x wx => x = .bool false ∧ Hid (Mk w wx bx m A c A' c'))
      case first =>
        have hld := H3.out.box.load
        go_wp2_with fail
        refine (messagePuts.walk m A c A' c' w3 (HTZ.out w3 H3.out.bel) H3.out.is).mono ?_
        rintro e w4 ⟨rfl, hb4⟩
        have H4 := hid (H3.out.low hb4)
        have hld4 := H4.out.box.load
        clear hb4 H3 hld
        by_cases h1 : 1 ≤ k
        · by_cases h2 : k ≤ 11
          · have hck := check_any m A c A' c' w4 (H4.out.is.inp HSM.out (HTZ.out w4 H4.out.bel) (Below.refl _ w4))
            rw [HCK.out h1 h2] at hck
            have HC := hid hck
            have i1 : (1 : Int) ≤ (k : Int) := by omega
            have i2 : (k : Int) ≤ 11 := by omega
            clear hck
            go_wp2_with fail
            refine HC.out.mono ?_
            rintro e w5 ⟨rfl, hb5⟩
            have H5 := hid (H4.out.low hb5)
            clear hb5 hld4
            go_wp2_with fail
            go_meet
            exact ⟨rfl, H5⟩
          · have i1 : (1 : Int) ≤ (k : Int) := by omega
            have i2 : ¬ (k : Int) ≤ 11 := by omega
            go_wp2_with fail
            go_meet
            exact ⟨rfl, H4⟩
        · have i1 : ¬ (1 : Int) ≤ (k : Int) := by omega
          go_wp2_with fail
          go_meet
          exact ⟨rfl, H4⟩
      case rest =>
        clear H3
        obtain ⟨rfl, H4⟩ := hcut
        go_wp2_with fail
        go_loopw [4, 5] (fun i _ wr => ∃ f : Nat, f ≤ 14 ∧ i = .int .i64 (f : Int) ∧ Hid (Mk w wr bx m A c A' c')) (fun i _ _ => 14 - (RowKit.intOf i).toNat)
        case atStart => exact ⟨0, by omega, rfl, H4⟩
        case round =>
          clear H4
          obtain ⟨f, hf, rfl, HF⟩ := hrel
          by_cases hlf : f < 14
          · have hlfI : (f : Int) < 14 := by omega
            go_wp2_with fail
            go_loopw [5] (fun i wr => ∃ q : Nat, q ≤ 14 ∧ i = .int .i64 (q : Int) ∧ Hid (Mk w wr bx m A c A' c')) (fun i _ => 14 - (RowKit.intOf i).toNat)
            case atStart => exact ⟨0, by omega, rfl, HF⟩
            case round =>
              clear HF
              obtain ⟨q, hq, rfl, HQ⟩ := hrel
              by_cases hlq : q < 14
              · have hql : q < numsK.length := hlq
                have hfl : f < setF.length := hlf
                obtain ⟨v, hv⟩ : ∃ v, v = numsK[q] := ⟨_, rfl⟩
                have hvi : InInt v := by rw [hv]; exact numsK_in _ (List.getElem_mem _)
                have HNM : Hid (∀ wz, Mk w wz bx m A c A' c' → wz.cell? ⟨w.heap.size, q, none⟩ = some (.int .i64 v)) := hid fun wz h => by rw [hv]; exact h.num q hql
                have HSET := hid (fun wz => kset_any m A c A' c' f hfl v wz)
                have HCH : Hid (∀ wz m', m' = m.set setF[f] v → Mk w wz bx m A c A' c' → Calls Tryd.prog 3 #[.agg #[.int .i64 m'.K, .int .i64 m'.F, .int .i64 m'.T, .int .i64 m'.g, .int .i64 m'.t, .int .i64 m'.i, .int .i64 m'.p, .int .i64 m'.c, .int .i64 m'.r, .int .i64 m'.x, .int .i64 m'.a, .int .i64 m'.b, .int .i64 m'.v, .int .i64 m'.s, .bool m'.ok, .slice A m'.es.length c, .slice A' m'.d.length c']] wz fun e w' => e = .returned (.bool true) ∧ Below wz.heap.size wz w') := hid fun wz m' e h => by
                  rw [e]; exact messageChecks.walk _ A c A' c' wz (HTZ.out wz h.bel) (h.is.set_ _ v hvi)
                have HBK : Hid (∀ wz m', m' = m.set setF[f] v → Mk w wz bx m A c A' c' → Calls Tryd.prog 6 #[.agg #[.int .i64 m'.K, .int .i64 m'.F, .int .i64 m'.T, .int .i64 m'.g, .int .i64 m'.t, .int .i64 m'.i, .int .i64 m'.p, .int .i64 m'.c, .int .i64 m'.r, .int .i64 m'.x, .int .i64 m'.a, .int .i64 m'.b, .int .i64 m'.v, .int .i64 m'.s, .bool m'.ok, .slice A m'.es.length c, .slice A' m'.d.length c']] wz fun e w' => e = .returned (.bool true) ∧ Below wz.heap.size wz w') := hid fun wz m' e h => by
                  rw [e]; exact messageBack.walk _ A c A' c' wz (HTZ.out wz h.bel) (h.is.set_ _ v hvi)
                have HMD : Hid (Mk w wr.drew bx m A c A' c') := hid ⟨HQ.out.bel.drew, HQ.out.nms, ⟨HQ.out.box.row⟩, HQ.out.is.low (Below.refl _ wr).drew⟩
                have hopK : loadK = Op.load 25 (Operand.tmp 3) := rfl
                have hld0 := HMD.out.box.load
                have hc0 := HNM.out _ HMD.out
                clear hv hvi hql
                go_wp2_with fail
                rw [← hopK]
                go_region_held3 (fun W => W.cell? ⟨w.heap.size, q, none⟩ = some (.int .i64 v))
                  (first | exact hc0 | exact hc2 | exact hc3 | exact hc4 | exact hc5 | fail)
                  (first
                    | (go_at_call 6; refine (HBK.out w5 m5 HE4.out H4.out).mono ?_; rintro e w6 ⟨rfl, hb6⟩; have H5 := hid (H4.out.low hb6); have hc5 := HNM.out _ H5.out; clear hb6)
                    | (go_at_call 29; refine (HSET.out w4).mono ?_; rintro e w5 ⟨m5, hm5, rfl, hb5⟩; have HE4 := hid hm5; have H4 := hid (H3.out.low hb5); have hc4 := HNM.out _ H4.out; clear hb5 hm5)
                    | (go_at_call 3; refine (HCH.out w3 m3 HE2.out H2.out).mono ?_; rintro e w4 ⟨rfl, hb4⟩; have H3 := hid (H2.out.low hb4); have hld3 := H3.out.box.load; have hc3 := HNM.out _ H3.out; clear hb4)
                    | (go_at_call 29; refine (HSET.out wr.drew).mono ?_; rintro e w3 ⟨m3, hm3, rfl, hb3⟩; have HE2 := hid hm3; have H2 := hid (HMD.out.low hb3); have hld2 := H2.out.box.load; have hc2 := HNM.out _ H2.out; clear hb3 hm3))
                all_goals
                  clear hld0 hc0 hld2 hc2 hld3 hc3 hc4 hc5 hopK
                  go_wp2_with fail
                  go_roundw
                  case rel => exact ⟨q + 1, by omega, by go_num, H5⟩
                  case measure => simp [RowKit.intOf]; omega
              · obtain rfl : q = 14 := by omega
                go_wp2_with fail
                go_roundw
                case rel => exact ⟨f + 1, by omega, by go_num, HQ⟩
                case measure => simp [RowKit.intOf]; omega
          · obtain rfl : f = 14 := by omega
            obtain ⟨P, hP⟩ : ∃ P, P = (put m).1 := ⟨_, rfl⟩
            obtain ⟨kp, hkp⟩ : ∃ kp, P.length = kp := ⟨_, rfl⟩
            have hpl : kp ≤ 65544 := by
              rw [← hkp, hP]
              by_cases hc : check m = 0
              · rw [put_zero hc]; exact frame_le hc
              · rw [put_not hc]; simp
            have hpu := Ms.put_any m A c A' c' wr HF.out.is (HTZ.out wr HF.out.bel) HSM.out
            rw [← hP, hkp] at hpu
            have HPU := hid hpu
            have HKP := hid hkp
            have hld := HF.out.box.load
            clear hP hkp hpu
            go_wp2_with fail
            refine HPU.out.mono ?_
            rintro e w5 ⟨A2, c2, rfl, ho5, hb5⟩
            have H5 := hid (HF.out.low hb5)
            have hcap : kp ≤ c2 := by have := ho5.cap; rw [HKP.out] at this; exact this
            have HBY : Hid (∀ wz, Below w5.heap.size w5 wz → IsBytes wz wz.heap.size A2 P ∧ (A2 = none → c2 = 0)) := hid fun wz hb => ⟨((ho5.below hb).reads), ho5.none_⟩
            clear ho5 hb5 HPU hld HF
            go_wp2_with fail
            go_loopw [8] (fun i wr => ∃ q : Nat, q ≤ 8 * kp + 3 ∧ i = .int .i64 (q : Int) ∧ Hid (Mk w wr bx m A c A' c' ∧ Below w5.heap.size w5 wr)) (fun i _ => 8 * kp + 3 - (RowKit.intOf i).toNat)
            case atStart => exact ⟨0, by omega, rfl, hid ⟨H5.out, Below.refl _ _⟩⟩
            case round =>
              clear H5
              obtain ⟨q, hq, rfl, HQ⟩ := hrel
              by_cases hlq : q < 8 * kp
              · have hqi : (q : Int) < 8 * (kp : Int) := by omega
                have HTU := hid (messageTurned.walk m A c A' c' (q : Int) (q : Int) 0 wr (HTZ.out wr HQ.out.1.bel) HQ.out.1.is (by omega) (by omega) (by decide))
                have hld := HQ.out.1.box.load
                go_wp2_with fail
                refine HTU.out.mono ?_
                rintro e w6 ⟨rfl, hb6⟩
                have H6 := hid (And.intro (HQ.out.1.low hb6) (HQ.out.2.trans (hb6.mono HQ.out.2.size)))
                clear hb6 hld HTU HQ
                go_wp2_with fail
                go_roundw
                case rel => exact ⟨q + 3, by omega, by go_num, H6⟩
                case measure => simp [RowKit.intOf]; omega
              · have hqi : ¬ (q : Int) < 8 * (kp : Int) := by omega
                have HQ2 := hid HQ.out
                clear HQ
                go_wp2_with fail
                go_loopw [9] (fun i wr => ∃ j : Nat, j ≤ kp ∧ i = .int .i64 (j : Int) ∧ Hid (Mk w wr bx m A c A' c' ∧ Below w5.heap.size w5 wr)) (fun i _ => kp - (RowKit.intOf i).toNat)
                case atStart => exact ⟨0, by omega, rfl, HQ2⟩
                case round =>
                  clear HQ2
                  obtain ⟨j, hj, rfl, HJ⟩ := hrel
                  by_cases hlj : j < kp
                  · have hjc : (j : Int) ≤ (c2 : Int) := by omega
                    have hby := HBY.out wr HJ.out.2
                    have hln : (P.take j).length = j := by rw [List.length_take, HKP.out]; omega
                    have HGE : Hid (Calls Tryd.prog 5 #[.slice A2 j c2] wr fun e w' => e = .returned (.bool true) ∧ Below wr.heap.size wr w') := hid (by
                      have := messageGets.core A2 c2 (P.take j) wr (HTZ.out wr HJ.out.1.bel) (hby.1.take j) (by rw [hln]; omega) hby.2
                      rw [hln] at this; exact this)
                    have hA2 : A2 ≠ none := fun e => by have := hby.2 e; omega
                    obtain ⟨ad, rfl⟩ : ∃ ad, A2 = some ad := by cases A2 with | none => exact absurd rfl hA2 | some ad => exact ⟨ad, rfl⟩
                    clear hby hln hA2
                    go_wp2_with fail
                    refine HGE.out.mono ?_
                    rintro e w6 ⟨rfl, hb6⟩
                    have H6 := hid (And.intro (HJ.out.1.low hb6) (HJ.out.2.trans (hb6.mono HJ.out.2.size)))
                    clear hb6 HGE HJ
                    go_wp2_with fail
                    go_roundw
                    case rel => exact ⟨j + 1, by omega, by go_num, H6⟩
                    case measure => simp [RowKit.intOf]; omega
                  · obtain rfl : j = kp := by omega
                    have HJ2 := hid (And.intro HJ.out.1.bel HJ.out.1.nms)
                    clear HJ
                    go_wp2_with fail
                    go_roundw
                    case rel => exact ⟨k + 1, by omega, by go_num, HJ2⟩
                    case measure => simp [RowKit.intOf]; omega
    · obtain rfl : k = 13 := by omega
      have HKL := hid (knownLong_any wr (HT.out.below HW.out.1 hpos))
      go_wp2_with fail
      refine HKL.out.mono ?_
      rintro e w2 ⟨rfl, hb2⟩
      have HB2 := hid (HW.out.1.trans (hb2.mono HW.out.1.size))
      clear hb2 HKL HW
      go_wp2_with fail
      refine (works_N w w2 HT.out HB2.out).mono ?_
      rintro e w3 ⟨rfl, hb3⟩
      have HB3 := hid hb3
      clear hb3
      go_wp2_with fail
      go_ret
      exact ⟨rfl, HB3.out⟩

set_option maxRecDepth 100000 in
theorem lifted (os : Os) (started : os.Started) (H : Type) (enc : TypeId × Value → H) :
    ReturnsInHanded {} Tryd.checked os 9 .any (fun w args => (Rows.messageKnownSpec.pre enc Tryd.prog Tryd.f9 [] false w args ∧ laidMetH Tryd.prog Ms.laid w) ∧ sizedMet enc Tryd.prog Tryd.f9 (OpenSpec.ofChange Rows.messageKnownSpec) false w args) (Rows.messageKnownSpec.post enc Tryd.prog Tryd.f9 false true false false) := by
  refine returnsInHanded_of_change_and (C := Tryd.checked) (X := fun w _ => laidMetH Tryd.prog Ms.laid w) (fun _ _ _ hh h => h.of_heap hh) own started (by kernel_rfl) Tryd.func9
    (ChangeSpec.witness_shaped (enc := enc) (C := Tryd.checked) (os := os) (X := fun w _ => laidMetH Tryd.prog Ms.laid w) false (World.doorLaid Tryd.prog 400 os) #[] 8 rfl (World.shaped_of_RefB (by kernel_rfl) (by kernel_rfl)) (by kernel_rfl) (by kernel_rfl) (by kernel_rfl) (Ms.door_met os _)) ?_
  intro W base args ds gs before hval0 hW hcnd hsz0 hL _
  have hT := Ms.tab_of_laid hL
  have hsz : (DataW.weightsEach Tryd.prog (Tryd.f9.params.toList ++ Rows.messageKnownSpec.plain.varTypes Tryd.prog) (ds ++ gs)).all (· ≤ reachBytes) = true := hsz0
  clear hsz0
  have hval : ∀ (j : Nat) t v, Tryd.f9.params[j]? = some t → args[j]? = some v → Value.okWide Tryd.prog W .any base t v := hval0
  have hW' := hW
  obtain ⟨p, q, hA0, hV, rfl, hfz, hnd⟩ := hW
  have hA : DataW.TrodAll enc Tryd.prog W 0 (fun _ => true) true Tryd.f9.params.toList args.toList ds p := hA0
  rw [Tryd.params9] at hA hval hsz
  obtain ⟨rfl, rfl, rfl⟩ := trodAll_none hA
  obtain ⟨rfl, rfl⟩ := trodVars_none hV
  clear hA0 hval0
  refine (walk  W hT).mono fun e W' ⟨he, bel⟩ => ?_
  subst he
  exact ⟨_, rfl, _, _, _, [], _, [], hW', trodAll_mk1 (shut_bool Tryd.underlying4 _), trodAll_mk0, rfl, bel.frame _, fun h => by cases h⟩

theorem over : Rows.messageKnownRow.holds Tryd.pinned (OpenSpec.ofChange Rows.messageKnownSpec) :=
  OpenClaim.holds_of_wide 9 Tryd.f9 rfl rfl rfl rfl rfl rfl rfl ⟨rfl, rfl, rfl, rfl, rfl⟩ rfl rfl rfl rfl rfl (by kernel_rfl) Tryd.func9 (by kernel_rfl)
    (of_decide_eq_true (by kernel_rfl)) (by unfold Func.isWrapper; first | (rw [if_pos (by decide +kernel)]; kernel_rfl) | (rw [if_neg (by decide +kernel)]; exact ⟨rfl, rfl⟩))
    (fun os started H enc _ => lifted os started H enc)

theorem proved : Rows.MessageKnownCardSaid :=
  Claim7.holds_tied_plain_at .later [] [.data] true Rows.messageKnownCard.stood.harness false
    over (fun _ h => by cases h) (by kernel_rfl) (fun _ h => by cases h) messageKnown_row_tie rfl ⟨rfl, rfl⟩ (by kernel_rfl) rfl
    (fun f fn hf hfn => by
      obtain rfl : f = 9 := Option.some.inj ((show Tryd.prog.funcNamed "glebe/glebelaw12.MessageKnown" = some 9 by kernel_rfl).symm.trans hf) |>.symm
      obtain rfl : fn = Tryd.f9 := (Option.some.inj (Tryd.func9.symm.trans hfn)).symm
      exact ⟨by kernel_rfl, fun j t ht => by
        rw [Tryd.params9] at ht
        simp at ht⟩)
    (by kernel_rfl)
end Go.Proofs.YtpigekbfngalbaaDoor.messageKnown
