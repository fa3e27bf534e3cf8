/- Any bytes are a message, in memory of its own, or are refused; what is handed in stays. Conditions: none but those of the card: the table of the fields is as the text lays it. -/
import Derived.Test.YtpigekbfngalbaaDoorRows
import Derived.Test.YtpigekbfngalbaaDoorCards
import Derived.Test.YtpigekbfngalbaaDoorTie
import Derived.Test.YtpigekbfngalbaaDoorPartAK
import Derived.SevenTiedAt
import Derived.LaidMore
import Derived.LaidLaws
import Derived.Handed
import Derived.Stop.Joined
import Derived.Test.YtpigekbfngalbaaDoorPartAL
import Derived.Test.YtpigekbfngalbaaDoorPartAR
import Derived.Test.YtpigekbfngalbaaDoorPartAF
import Derived.WalkKit
import Derived.WalkLawsBesides
import Derived.ProofKit
import Derived.OpenShut
import Derived.ShutString
import Derived.ChangeOld
import Derived.Below
import Derived.SizedLaws
namespace Go.Proofs.YtpigekbfngalbaaDoor.messageGets
open Go.ChangeShapes Go.WideShapes Go.ChangeAt Go.RowKit
open Go.ChangeMaps (open_string shut_string)
set_option linter.unusedVariables false

theorem own : ownKnob Tryd.prog.godebug = none := by kernel_rfl
theorem laidOut : laidOutB Tryd.prog = true := by kernel_rfl
theorem bytesOf : Tryd.prog.bytesOf 5 = 1 := by kernel_rfl

attribute [local go_sem ↓] Ms.loadAt_msg Ms.storeAt_msg
open Ms in
theorem getB {w : World} {l : List Nat} {g cx : Nat} (h : OwnsB 5 w 0 (some ⟨g, 0, none⟩) cx (lent l)) : IsBytes w w.heap.size (some ⟨g, 0, none⟩) l := by
  have := h.reads.take l.length; rwa [take_lent] at this
open Ms in
set_option maxRecDepth 100000 in
set_option maxHeartbeats 6400000 in
theorem core (a0 : Option Addr) (cap0 : Nat) (l0 : List Nat) (w : World) (T : Ms.Tab w) (k0 : IsBytes w w.heap.size a0 l0) (n0 : l0.length ≤ cap0) (z0 : a0 = none → cap0 = 0) :
    Calls Tryd.prog 5 #[.slice a0 l0.length cap0] w fun e w' => e = .returned (.bool true) ∧ Below w.heap.size w w' := by
  have HT := hid T
  by_cases hlong : 131072 < l0.length
  · go_enter Tryd.func5, Tryd.ntmps5
    go_wp2_with fail
    refine (works_N w w HT.out (Below.refl _ w)).mono ?_
    rintro e w3 ⟨rfl, hb3⟩
    have HB3 := hid hb3
    clear hb3
    go_wp2_with fail
    go_ret
    exact ⟨rfl, HB3.out⟩
  obtain ⟨n, hn⟩ : ∃ n, l0.length = n := ⟨_, rfl⟩
  have HN := hid hn
  have HI := hid k0
  have HLT := hid (lent_any w.heap.size a0 cap0 l0 (by omega) w k0 (Nat.le_refl _))
  rw [hn] at HLT hlong n0
  rw [hn]
  have hl : n ≤ 131072 := by omega
  have hpos := T.pos
  clear T k0 hn hlong
  go_enter Tryd.func5, Tryd.ntmps5
  go_wp2_with fail
  refine HLT.out.mono ?_
  rintro e w1 ⟨gc, cx, rfl, hx, hb1⟩
  have hcx := hx.cap
  rw [lent_length, HN.out] at hcx
  have hcx1 : n ≤ cx := by omega
  have hcx2 : (n : Int) ≤ (cx : Int) := by omega
  have hgc := hx.blkLt gc rfl
  have HX1 : Hid (OwnsB 5 w1 w.heap.size (some ⟨gc, 0, none⟩) cx (lent l0)) := hid hx
  have HB1 := hid hb1
  obtain ⟨mg, eg, hmg⟩ : ∃ mg eg, Ms.get l0 = (mg, eg) := ⟨_, _, rfl⟩
  obtain ⟨pe, hpe⟩ : ∃ pe : Int, ((eg : Nat) : Int) = pe := ⟨_, rfl⟩
  have hsm : Small mg := by
    have h1 := fr_short l0
    have h2 := dec_small (Fr.get l0).1 h1
    have hm : mg = (Ms.get l0).1 := by rw [hmg]
    rw [hm]
    unfold Ms.get checked
    split
    · exact M0_small
    · split
      · exact M0_small
      · split
        · exact M0_small
        · split
          · exact M0_small
          · exact h2
  have HSM := hid hsm
  have HGE : Hid (∀ wz, Below w.heap.size w wz → OwnsB 5 wz w.heap.size (some ⟨gc, 0, none⟩) cx (lent l0) → Calls Tryd.prog 22 #[.slice (some ⟨gc, 0, none⟩) n cx] wz fun e w' => ∃ A c A' c', e = .returned (.tuple #[.agg #[.int .i64 mg.K, .int .i64 mg.F, .int .i64 mg.T, .int .i64 mg.g, .int .i64 mg.t, .int .i64 mg.i, .int .i64 mg.p, .int .i64 mg.c, .int .i64 mg.r, .int .i64 mg.x, .int .i64 mg.a, .int .i64 mg.b, .int .i64 mg.v, .int .i64 mg.s, .bool mg.ok, .slice A mg.es.length c, .slice A' mg.d.length c'], .int .i64 pe]) ∧ OwnM w' wz.heap.size mg A c A' c' ∧ Below wz.heap.size wz w') := hid fun wz hb ho =>
    get_is l0 (some ⟨gc, 0, none⟩) cx n HN.out wz (getB (ho.weaken (Nat.zero_le _))) (fun h => by cases h) hcx1 (by omega) (HT.out.below hb hpos) mg eg hmg pe hpe
  have HRG : Hid (∀ wz, Below w.heap.size w wz → Calls Tryd.prog 23 #[.slice a0 n cap0] wz fun e w' => ∃ A c A' c', e = .returned (.tuple #[.agg #[.int .i64 mg.K, .int .i64 mg.F, .int .i64 mg.T, .int .i64 mg.g, .int .i64 mg.t, .int .i64 mg.i, .int .i64 mg.p, .int .i64 mg.c, .int .i64 mg.r, .int .i64 mg.x, .int .i64 mg.a, .int .i64 mg.b, .int .i64 mg.v, .int .i64 mg.s, .bool mg.ok, .slice A mg.es.length c, .slice A' mg.d.length c'], .int .i64 pe]) ∧ OwnM w' wz.heap.size mg A c A' c' ∧ Below wz.heap.size wz w') := hid fun wz hb => by
    refine (rget_any l0 a0 cap0 n HN.out wz ((HI.out.below hb).more hb.size) n0 (by omega)).mono ?_
    rintro e w' ⟨A, c, A', c', he, ho, hbb⟩
    rw [hmg] at he ho
    subst hpe
    exact ⟨A, c, A', c', he, ho, hbb⟩
  clear hx hb1 HLT hcx hmg hpe hsm
  go_wp2_with fail
  refine (HGE.out w1 HB1.out HX1.out).mono ?_
  rintro e w2 ⟨A1, c1, A2, c2, rfl, ho2, hb2⟩
  -- the first message and its box
  have hst := st_new w2 #[.int .i64 0, .int .i64 0, .int .i64 0, .int .i64 0, .int .i64 0, .int .i64 0, .int .i64 0, .int .i64 0, .int .i64 0, .int .i64 0, .int .i64 0, .int .i64 0, .int .i64 0, .int .i64 0, .bool false, .slice none 0 0, .slice none 0 0] (#[.int .i64 mg.K, .int .i64 mg.F, .int .i64 mg.T, .int .i64 mg.g, .int .i64 mg.t, .int .i64 mg.i, .int .i64 mg.p, .int .i64 mg.c, .int .i64 mg.r, .int .i64 mg.x, .int .i64 mg.a, .int .i64 mg.b, .int .i64 mg.v, .int .i64 mg.s, .bool mg.ok, .slice A1 mg.es.length c1, .slice A2 mg.d.length c2]) rfl rfl (msg_one mg A1 c1 A2 c2)
  obtain ⟨w3, hw3⟩ : ∃ w3, w3 = w2.alloc (.cells #[.int .i64 mg.K, .int .i64 mg.F, .int .i64 mg.T, .int .i64 mg.g, .int .i64 mg.t, .int .i64 mg.i, .int .i64 mg.p, .int .i64 mg.c, .int .i64 mg.r, .int .i64 mg.x, .int .i64 mg.a, .int .i64 mg.b, .int .i64 mg.v, .int .i64 mg.s, .bool mg.ok, .slice A1 mg.es.length c1, .slice A2 mg.d.length c2] 25) := ⟨_, rfl⟩
  have hb23 : Below w2.heap.size w2 w3 := by rw [hw3]; exact (Below.refl _ w2).alloc (Nat.le_refl _) _
  have hs3 : w3.heap.size = w2.heap.size + 1 := by rw [hw3]; simp
  have hbx3 : Bx w3 w2.heap.size mg A1 c1 A2 c2 := ⟨by rw [hw3]; exact heap_alloc_new w2 _⟩
  have hm3 : MIn w3 w1.heap.size w2.heap.size mg A1 c1 A2 c2 := ho2.min.below hb23
  have hb3 : Below w.heap.size w w3 := HB1.out.trans ((hb2.mono HB1.out.size).trans (hb23.mono (by have := HB1.out.size; have := hb2.size; omega)))
  have hx3 : OwnsB 5 w3 w.heap.size (some ⟨gc, 0, none⟩) cx (lent l0) := (HX1.out.below hb2).below hb23
  have hsz12 := hb2.size
  have H3 := hid (And.intro hbx3 (And.intro hm3 (And.intro hb3 (And.intro hx3 (And.intro hs3 hsz12)))))
  clear ho2 hb2 hb23 hbx3 hm3 hb3 hx3 hs3
  go_wp2_with fail
  rw [← hw3]
  clear hst hw3
  refine (HGE.out w3 H3.out.2.2.1 H3.out.2.2.2.1).mono ?_
  rintro e w4 ⟨A3, c3, A4, c4, rfl, ho4, hb4⟩
  have hst := st_new w4 #[.int .i64 0, .int .i64 0, .int .i64 0, .int .i64 0, .int .i64 0, .int .i64 0, .int .i64 0, .int .i64 0, .int .i64 0, .int .i64 0, .int .i64 0, .int .i64 0, .int .i64 0, .int .i64 0, .bool false, .slice none 0 0, .slice none 0 0] (#[.int .i64 mg.K, .int .i64 mg.F, .int .i64 mg.T, .int .i64 mg.g, .int .i64 mg.t, .int .i64 mg.i, .int .i64 mg.p, .int .i64 mg.c, .int .i64 mg.r, .int .i64 mg.x, .int .i64 mg.a, .int .i64 mg.b, .int .i64 mg.v, .int .i64 mg.s, .bool mg.ok, .slice A3 mg.es.length c3, .slice A4 mg.d.length c4]) rfl rfl (msg_one mg A3 c3 A4 c4)
  obtain ⟨w5, hw5⟩ : ∃ w5, w5 = w4.alloc (.cells #[.int .i64 mg.K, .int .i64 mg.F, .int .i64 mg.T, .int .i64 mg.g, .int .i64 mg.t, .int .i64 mg.i, .int .i64 mg.p, .int .i64 mg.c, .int .i64 mg.r, .int .i64 mg.x, .int .i64 mg.a, .int .i64 mg.b, .int .i64 mg.v, .int .i64 mg.s, .bool mg.ok, .slice A3 mg.es.length c3, .slice A4 mg.d.length c4] 25) := ⟨_, rfl⟩
  have hb45 : Below w4.heap.size w4 w5 := by rw [hw5]; exact (Below.refl _ w4).alloc (Nat.le_refl _) _
  have hs5 : w5.heap.size = w4.heap.size + 1 := by rw [hw5]; simp
  have hb35 : Below w3.heap.size w3 w5 := hb4.trans (hb45.mono hb4.size)
  have hbx5 : Bx w5 w4.heap.size mg A3 c3 A4 c4 := ⟨by rw [hw5]; exact heap_alloc_new w4 _⟩
  have hm5 : MIn w5 w3.heap.size w4.heap.size mg A3 c3 A4 c4 := ho4.min.below hb45
  have H5 := hid (And.intro (H3.out.1.below hb35 (row_lt H3.out.1.row)) (And.intro (H3.out.2.1.below hb35) (And.intro (H3.out.2.2.1.trans (hb35.mono H3.out.2.2.1.size)) (And.intro (H3.out.2.2.2.1.below hb35) (And.intro hbx5 (And.intro hm5 (And.intro hs5 hb4.size)))))))
  clear ho4 hb4 hb45 hbx5 hm5 hs5 hb35
  go_wp2_with fail
  rw [← hw5]
  clear hst hw5
  refine (HRG.out w5 H5.out.2.2.1).mono ?_
  rintro e w6 ⟨A5, c5, A6, c6, rfl, ho6, hb6⟩
  have hst := st_new w6 #[.int .i64 0, .int .i64 0, .int .i64 0, .int .i64 0, .int .i64 0, .int .i64 0, .int .i64 0, .int .i64 0, .int .i64 0, .int .i64 0, .int .i64 0, .int .i64 0, .int .i64 0, .int .i64 0, .bool false, .slice none 0 0, .slice none 0 0] (#[.int .i64 mg.K, .int .i64 mg.F, .int .i64 mg.T, .int .i64 mg.g, .int .i64 mg.t, .int .i64 mg.i, .int .i64 mg.p, .int .i64 mg.c, .int .i64 mg.r, .int .i64 mg.x, .int .i64 mg.a, .int .i64 mg.b, .int .i64 mg.v, .int .i64 mg.s, .bool mg.ok, .slice A5 mg.es.length c5, .slice A6 mg.d.length c6]) rfl rfl (msg_one mg A5 c5 A6 c6)
  obtain ⟨w7, hw7⟩ : ∃ w7, w7 = w6.alloc (.cells #[.int .i64 mg.K, .int .i64 mg.F, .int .i64 mg.T, .int .i64 mg.g, .int .i64 mg.t, .int .i64 mg.i, .int .i64 mg.p, .int .i64 mg.c, .int .i64 mg.r, .int .i64 mg.x, .int .i64 mg.a, .int .i64 mg.b, .int .i64 mg.v, .int .i64 mg.s, .bool mg.ok, .slice A5 mg.es.length c5, .slice A6 mg.d.length c6] 25) := ⟨_, rfl⟩
  have hb67 : Below w6.heap.size w6 w7 := by rw [hw7]; exact (Below.refl _ w6).alloc (Nat.le_refl _) _
  have hs7 : w7.heap.size = w6.heap.size + 1 := by rw [hw7]; simp
  have hb57 : Below w5.heap.size w5 w7 := hb6.trans (hb67.mono hb6.size)
  have hbx7 : Bx w7 w6.heap.size mg A5 c5 A6 c6 := ⟨by rw [hw7]; exact heap_alloc_new w6 _⟩
  have hm7 : MIn w7 w5.heap.size w6.heap.size mg A5 c5 A6 c6 := ho6.min.below hb67
  -- all that lies there at w7, and stays
  have HZ : Hid (∀ wz, Below w7.heap.size w7 wz → Bx wz w2.heap.size mg A1 c1 A2 c2 ∧ MIn wz w1.heap.size w2.heap.size mg A1 c1 A2 c2 ∧ Below w.heap.size w wz ∧ OwnsB 5 wz w.heap.size (some ⟨gc, 0, none⟩) cx (lent l0) ∧ Bx wz w4.heap.size mg A3 c3 A4 c4 ∧ MIn wz w3.heap.size w4.heap.size mg A3 c3 A4 c4 ∧ Bx wz w6.heap.size mg A5 c5 A6 c6 ∧ MIn wz w5.heap.size w6.heap.size mg A5 c5 A6 c6) := hid fun wz hb => by
    have hbb := hb57.trans (hb.mono hb57.size)
    exact ⟨H5.out.1.below hbb (row_lt H5.out.1.row), H5.out.2.1.below hbb, H5.out.2.2.1.trans (hbb.mono H5.out.2.2.1.size), H5.out.2.2.2.1.below hbb, H5.out.2.2.2.2.1.below hbb (row_lt H5.out.2.2.2.2.1.row), H5.out.2.2.2.2.2.1.below hbb, hbx7.below hb (row_lt hbx7.row), hm7.below hb⟩
  have HSZ : Hid (w.heap.size ≤ gc ∧ gc < w1.heap.size ∧ w1.heap.size ≤ w2.heap.size ∧ w3.heap.size = w2.heap.size + 1 ∧ w3.heap.size ≤ w4.heap.size ∧ w5.heap.size = w4.heap.size + 1 ∧ w5.heap.size ≤ w6.heap.size ∧ w7.heap.size = w6.heap.size + 1) :=
    hid ⟨hgc.1, hgc.2, H3.out.2.2.2.2.2, H3.out.2.2.2.2.1, H5.out.2.2.2.2.2.2.2, H5.out.2.2.2.2.2.2.1, hb6.size, hs7⟩
  have hld1 := (HZ.out w7 (Below.refl _ _)).1.load
  have hld3 := (HZ.out w7 (Below.refl _ _)).2.2.2.2.2.2.1.load
  clear ho6 hb6 hb67 hb57 hbx7 hm7 hs7 H3 H5 HX1 HGE HRG hgc hsz12
  rw [hw7] at hld1 hld3
  go_wp2_with fail
  rw [← hw7]
  clear hst hw7
  obtain ⟨z1, z2, z3, z4, z5, z6, z7, z8⟩ := HZ.out w7 (Below.refl _ _)
  have HS7 := hid (same_yes mg A1 c1 A2 c2 A5 c5 A6 c6 w7 z2.is.es z8.is.es z2.is.d z8.is.d HSM.out)
  clear z1 z2 z3 z4 z5 z6 z7 z8 hld1 hld3
  refine HS7.out.mono ?_
  rintro e w8 ⟨rfl, hb8⟩
  have HB8 := hid hb8
  obtain ⟨z1, z2, z3, z4, z5, z6, z7, z8⟩ := HZ.out w8 hb8
  have hcc := z4.cap
  rw [lent_length] at hcc
  have HKP : Hid (Calls Tryd.prog 24 #[.slice (some ⟨gc, 0, none⟩) (n + 5) cx, .slice a0 n cap0] w8 fun e w' => e = .returned (.bool true) ∧ ∃ j, w' = w8.drewN j) := hid (by
    have := kept_any w8.heap.size w.heap.size gc a0 cx cap0 l0 (by have := HN.out; omega) hcc w8 z4.reads (HI.out.below z3)
    rw [HN.out] at this; exact this)
  clear hb8 z1 z2 z3 z4 z5 z6 z7 z8 HS7 hcc
  go_wp2_with fail
  refine HKP.out.mono ?_
  rintro e w9 ⟨rfl, n9, hw9⟩
  have hb9 : Below w7.heap.size w7 w9 := by rw [hw9]; exact below_drewN HB8.out n9
  have HB9 := hid hb9
  clear HKP hw9 hb9
  obtain ⟨z1, z2, z3, z4, z5, z6, z7, z8⟩ := HZ.out w9 HB9.out
  have hld1 := z1.load
  obtain ⟨wa, hwa⟩ : ∃ wa, wa = w9.alloc (.cells #[.int .i64 mg.K, .int .i64 mg.F, .int .i64 mg.T, .int .i64 mg.g, .int .i64 mg.t, .int .i64 mg.i, .int .i64 mg.p, .int .i64 mg.c, .int .i64 mg.r, .int .i64 mg.x, .int .i64 mg.a, .int .i64 mg.b, .int .i64 mg.v, .int .i64 mg.s, .bool mg.ok, .slice A1 mg.es.length c1, .slice A2 mg.d.length c2] 25) := ⟨_, rfl⟩
  have hba : Below w9.heap.size w9 wa := by rw [hwa]; exact (Below.refl _ w9).alloc (Nat.le_refl _) _
  have hbxa : Bx wa w9.heap.size mg A1 c1 A2 c2 := ⟨by rw [hwa]; exact heap_alloc_new w9 _⟩
  have HBA := hid (HB9.out.trans (hba.mono HB9.out.size))
  have hge : w2.heap.size ≤ w9.heap.size := by have := HSZ.out; have := HB9.out.size; omega
  have HSP := hid (spoilM_any wa w9.heap.size w1.heap.size w2.heap.size 1 mg A1 c1 A2 c2 (z2.below hba) hbxa hge)
  clear z1 z2 z3 z4 z5 z6 z7 z8 hba hbxa
  go_wp2_with fail
  rw [← hwa]
  clear hwa hld1
  refine HSP.out.mono ?_
  rintro e wb ⟨rfl, htb⟩
  obtain ⟨z1, z2, z3, z4, z5, z6, z7, z8⟩ := HZ.out wa HBA.out
  have hsz := HSZ.out
  have hz9 := HB9.out.size
  have hxb : OwnsB 5 wb w.heap.size (some ⟨gc, 0, none⟩) cx (lent l0) := z4.turned htb (fun k hk e => by injection hk with hk; unfold Bl at e; simp only [] at hk; omega)
  have hbb : Below w.heap.size w wb := z3.trans (htb.below z3.size (fun k hk => by unfold Bl at hk; omega))
  have h5b : Bx wb w4.heap.size mg A3 c3 A4 c4 := ⟨(htb.block _ (row_lt z5.row) (fun e => by unfold Bl at e; omega)).trans z5.row⟩
  have h6b : MIn wb w3.heap.size w4.heap.size mg A3 c3 A4 c4 := z6.turned htb (fun k hk => by unfold Bl at hk; omega)
  have h7b : Bx wb w6.heap.size mg A5 c5 A6 c6 := ⟨(htb.block _ (row_lt z7.row) (fun e => by unfold Bl at e; omega)).trans z7.row⟩
  have h8b : MIn wb w5.heap.size w6.heap.size mg A5 c5 A6 c6 := z8.turned htb (fun k hk => by unfold Bl at hk; omega)
  have HB := hid (And.intro hbb (And.intro h5b (And.intro h6b (And.intro h7b h8b))))
  have HSB := hid (spoil_N w.heap.size (some ⟨gc, 0, none⟩) cx (lent l0) (n + 5) (by rw [lent_length, HN.out]) (by unfold maxLen; omega) wb hxb)
  clear z1 z2 z3 z4 z5 z6 z7 z8 htb hxb hbb h5b h6b h7b h8b hz9 hge HSP
  go_wp2_with fail
  refine HSB.out.mono ?_
  rintro e wc ⟨rfl, hgc⟩
  have htc : Turned (fun k => k = gc) wb wc := Turned.ofGrown hgc (fun k hk => by injection hk with hk; exact hk.symm)
  obtain ⟨z3, z5, z6, z7, z8⟩ := HB.out
  have hbc : Below w.heap.size w wc := z3.trans (htc.below z3.size (fun k hk => by omega))
  have h5c : Bx wc w4.heap.size mg A3 c3 A4 c4 := ⟨(htc.block _ (row_lt z5.row) (fun e => by omega)).trans z5.row⟩
  have h6c : MIn wc w3.heap.size w4.heap.size mg A3 c3 A4 c4 := z6.turned htc (fun k hk => by omega)
  have h7c : Bx wc w6.heap.size mg A5 c5 A6 c6 := ⟨(htc.block _ (row_lt z7.row) (fun e => by omega)).trans z7.row⟩
  have h8c : MIn wc w5.heap.size w6.heap.size mg A5 c5 A6 c6 := z8.turned htc (fun k hk => by omega)
  have HSC := hid (same_yes mg A3 c3 A4 c4 A5 c5 A6 c6 wc h6c.is.es h8c.is.es h6c.is.d h8c.is.d HSM.out)
  have HBC := hid hbc
  have hld5 := h5c.load
  have hld7 := h7c.load
  clear z3 z5 z6 z7 z8 hgc htc hbc h5c h6c h7c h8c hsz HSB HB
  go_wp2_with fail
  refine HSC.out.mono ?_
  rintro e wd ⟨rfl, hbd⟩
  have HBD := hid (HBC.out.trans (hbd.mono HBC.out.size))
  clear hbd hld5 hld7
  go_wp2_with fail
  refine (works_N w wd HT.out HBD.out).mono ?_
  rintro e we ⟨rfl, hbe⟩
  have HBE := hid hbe
  clear hbe
  go_wp2_with fail
  go_ret
  exact ⟨rfl, HBE.out⟩
theorem walk (a0 : Option Addr) (cap0 : Nat) (l0 : List Nat) (w : World) (T : Ms.Tab w) (k0 : IsBytes w w.heap.size a0 l0) (n0 : l0.length ≤ cap0) (r0 : cap0 ≤ 140737488351232) (z0 : a0 = none → cap0 = 0) :
    Calls Tryd.prog 5 #[.slice a0 l0.length cap0] w fun e w' => e = .returned (.bool true) ∧ Below w.heap.size w w' := core a0 cap0 l0 w T k0 n0 z0

set_option maxRecDepth 100000 in
theorem lifted (os : Os) (started : os.Started) (H : Type) (enc : TypeId × Value → H) :
    ReturnsInHanded {} Tryd.checked os 5 .any (fun w args => (Rows.messageGetsSpec.pre enc Tryd.prog Tryd.f5 [] false w args ∧ laidMetH Tryd.prog Ms.laid w) ∧ sizedMet enc Tryd.prog Tryd.f5 (OpenSpec.ofChange Rows.messageGetsSpec) false w args) (Rows.messageGetsSpec.post enc Tryd.prog Tryd.f5 false true false false) := by
  refine returnsInHanded_of_change_and (C := Tryd.checked) (X := fun w _ => laidMetH Tryd.prog Ms.laid w) (fun _ _ _ hh h => h.of_heap hh) own started (by kernel_rfl) Tryd.func5
    (ChangeSpec.witness_shaped (enc := enc) (C := Tryd.checked) (os := os) (X := fun w _ => laidMetH Tryd.prog Ms.laid w) false (World.doorLaid Tryd.prog 400 os) #[.slice none 0 0] 8 rfl (World.shaped_of_RefB (by kernel_rfl) (by kernel_rfl)) (by kernel_rfl) (by kernel_rfl) (by kernel_rfl) (Ms.door_met os _)) ?_
  intro W base args ds gs before hval0 hW hcnd hsz0 hL _
  have hT := Ms.tab_of_laid hL
  have hsz : (DataW.weightsEach Tryd.prog (Tryd.f5.params.toList ++ Rows.messageGetsSpec.plain.varTypes Tryd.prog) (ds ++ gs)).all (· ≤ reachBytes) = true := hsz0
  clear hsz0
  have hval : ∀ (j : Nat) t v, Tryd.f5.params[j]? = some t → args[j]? = some v → Value.okWide Tryd.prog W .any base t v := hval0
  have hW' := hW
  obtain ⟨p, q, hA0, hV, rfl, hfz, hnd⟩ := hW
  have hA : DataW.TrodAll enc Tryd.prog W 0 (fun _ => true) true Tryd.f5.params.toList args.toList ds p := hA0
  rw [Tryd.params5] at hA hval hsz
  obtain ⟨v0, vs0, d0, ds0, p0, q0, hargs, rfl, rfl, g0, t0⟩ := trodAll_cons hA
  obtain ⟨rfl, rfl, rfl⟩ := trodAll_nil t0
  obtain rfl : args = #[v0] := by cases args; simp_all
  obtain ⟨rfl, rfl⟩ := trodVars_none hV
  obtain ⟨a0, len0, cap0, rfl⟩ := okWide_slice Tryd.underlying23 (hval 0 23 v0 rfl rfl)
  have m0 := g0
  have lt0 : ∀ x ∈ p0, x.block < W.heap.size := by obtain ⟨m, hm⟩ := m0; exact DataW.trod_lt m _ _ _ hm
  obtain ⟨l0, k0, rfl, n0, r0, z0⟩ : ∃ l, IsBytes W W.heap.size a0 l ∧ len0 = l.length ∧ l.length ≤ cap0 ∧ cap0 ≤ 140737488351232 ∧ (a0 = none → cap0 = 0) := by
    obtain ⟨fuel, hf⟩ := g0
    rcases open_ints Tryd.underlying23 Tryd.underlying5 (by kernel_rfl) hf with ⟨hcs, _⟩ | ⟨x, l, c, zs, hcs, _, hl, hm, hz, hx, hcell, hwz⟩
    · simp [Value.cells] at hcs
      obtain ⟨rfl, rfl, rfl⟩ := hcs
      exact ⟨[], IsBytes.nil, rfl, by simp, by omega, fun _ => rfl⟩
    · simp [Value.cells] at hcs
      obtain ⟨rfl, rfl, rfl⟩ := hcs
      simp only [Prod.mk.injEq] at hx
      obtain ⟨rfl, rfl⟩ := hx
      simp only [if_true] at hz
      have hr := sized_slice hsz (j := 0) (t := 23) (e := 5) rfl rfl Tryd.underlying23
      rw [bytesOf] at hr
      simp only [lits, List.length_map, List.length_take, List.length_drop, reachBytes] at hr
      obtain ⟨l, h1, h2⟩ := isBytes_of_ints hl hz hcell hwz
      exact ⟨l, h1, h2, by omega, by omega, fun h => by cases h⟩
  clear hA0 hval0
  refine (walk a0 cap0 l0 W hT k0 n0 r0 z0).mono fun e W' ⟨he, bel⟩ => ?_
  subst he
  exact ⟨_, rfl, _, _, _, [], _, [], hW', trodAll_mk1 (shut_bool Tryd.underlying4 _), (trodAll_cons_mk (Below.trod laidOut (by kernel_rfl) (of_decide_eq_true (by kernel_rfl)) m0 bel lt0) trodAll_mk0), rfl, bel.frame _, fun h => by cases h⟩

theorem over : Rows.messageGetsRow.holds Tryd.pinned (OpenSpec.ofChange Rows.messageGetsSpec) :=
  OpenClaim.holds_of_wide 5 Tryd.f5 rfl rfl rfl rfl rfl rfl rfl ⟨rfl, rfl, rfl, rfl, rfl⟩ rfl rfl rfl rfl rfl (by kernel_rfl) Tryd.func5 (by kernel_rfl)
    (of_decide_eq_true (by kernel_rfl)) (by unfold Func.isWrapper; first | (rw [if_pos (by decide +kernel)]; kernel_rfl) | (rw [if_neg (by decide +kernel)]; exact ⟨rfl, rfl⟩))
    (fun os started H enc _ => lifted os started H enc)

theorem proved : Rows.MessageGetsCardSaid :=
  Claim7.holds_tied_plain_at .later [] [.data] true Rows.messageGetsCard.stood.harness false
    over (fun _ h => by cases h) (by kernel_rfl) (fun _ h => by cases h) messageGets_row_tie rfl ⟨rfl, rfl⟩ (by kernel_rfl) rfl
    (fun f fn hf hfn => by
      obtain rfl : f = 5 := Option.some.inj ((show Tryd.prog.funcNamed "glebe/glebelaw12.MessageGets" = some 5 by kernel_rfl).symm.trans hf) |>.symm
      obtain rfl : fn = Tryd.f5 := (Option.some.inj (Tryd.func5.symm.trans hfn)).symm
      exact ⟨by kernel_rfl, fun j t ht => by
        rw [Tryd.params5] at ht
        have hm : t ∈ ([23] : List TypeId) := by simpa using Array.mem_of_getElem? ht
        have hall : (([23] : List TypeId).all fun u => !Tryd.prog.wantsStandIn u) = true := by kernel_rfl
        exact (show Tryd.prog.wantsStandIn t = false by simpa using List.all_eq_true.1 hall t hm)⟩)
    (by kernel_rfl)
end Go.Proofs.YtpigekbfngalbaaDoor.messageGets
