/- The epoch rises by one with each Renew that is done, and with nothing else; a Renew leaves no record. Conditions: none. -/
import Derived.Test.YtdgijnolpjaheaaRows
import Derived.Test.YtdgijnolpjaheaaPartAO
import Derived.WalkKit
import Derived.WalkLawsBesides
import Derived.ProofKit
import Derived.OpenShut
import Derived.ShutString
import Derived.ChangeOld
import Derived.Below
import Derived.SizedLaws
namespace Go.Proofs.Ytdgijnolpjaheaa.storeRises
open Go.ChangeShapes Go.WideShapes Go.ChangeAt Go.RowKit
open Go.ChangeMaps (open_string shut_string)
set_option linter.unusedVariables false

theorem own : ownKnob Try.prog.godebug = none := by kernel_rfl
theorem laidOut : laidOutB Try.prog = true := by kernel_rfl

/-- opened or ready -/
def Live (st : Int) : Prop := st = 0 ∨ st = 1
set_option maxRecDepth 100000 in
set_option maxHeartbeats 4000000 in
theorem walk (a0 : Option Addr) (cap0 : Nat) (l0 : List (List Nat)) (a1 : Option Addr) (cap1 : Nat) (l1 : List Bool) (w : World)
    (k0 : IsRowsIn w w.heap.size a0 l0) (n0 : l0.length ≤ cap0) (r0 : cap0 ≤ maxLen) (z0 : a0 = none → cap0 = 0) (s0 : ∀ r ∈ l0, r.length ≤ 140737488351232) (k1 : IsBools w w.heap.size a1 l1) (n1 : l1.length ≤ cap1) (r1 : cap1 ≤ maxLen) (z1 : a1 = none → cap1 = 0) :
    Calls Try.prog 7 #[.slice a0 l0.length cap0, .slice a1 l1.length cap1] w fun e w' => e = .returned (.bool true) ∧ Below w.heap.size w w' := by
  have HX := hid (And.intro k0 k1)
  have HSZ := hid s0
  have HN := hid (new_any 60 (by omega) w)
  clear k0 k1 s0 r0 r1 z0 z1 n0 n1
  go_enter Try.func7, Try.ntmps7
  go_wp2_with fail
  refine HN.out.mono ?_
  rintro e w1 ⟨d, rfl, hD, hb⟩
  have H1 := hid (T.sg_new w w1 d 60 hD hb)
  clear hD hb HN
  go_wp2_with fail
  refine (T.open_any w w1 d (Sx.new 60) 5 50 0 [] [] H1.out (Sto.held_new 60 5 50 (by omega) (by omega) (by omega)) (by omega) rfl 5 rfl).mono ?_
  rintro e w2 ⟨g, gj0, A0, c0, A2, c2, rfl, h2⟩
  have H2 := hid h2.out.sg
  clear h2 H1
  go_wp2_with fail
  go_loopw [11, 12, 13] (fun vE vC i wr => ∃ (k : Nat) (s : Sx.St) (gj : Nat) (e st : Int) (p : List Nat) (L : List (List Nat)) (c : Nat), k ≤ l0.length ∧ k ≤ 100 ∧ e ≤ k ∧ 0 ≤ e ∧ c ≤ k ∧ i = .int .i64 (k : Int) ∧ vE = .int .i64 e ∧ vC = .int .i64 (c : Int) ∧
    Hid (SG w wr d s g gj 5 50 e st p L c ∧ s.armed = false ∧ s.down = false ∧ L.length = c ∧ Live st)) (fun _ _ i _ => l0.length - (RowKit.intOf i).toNat)
  case atStart => exact ⟨0, _, gj0, 0, 0, [], [], 0, by omega, by omega, by omega, by omega, by omega, rfl, rfl, rfl, hid ⟨H2.out, rfl, rfl, rfl, .inl rfl⟩⟩
  case round =>
    obtain ⟨k, s, gj, e, st, p, L, c, hk, hk1, hek, he0, hck, rfl, rfl, rfl, HI⟩ := hrel
    by_cases hlt : k < l0.length
    · have hlt0 : (k : Int) < (l0.length : Int) := by omega
      by_cases hlt1 : k < 100
      · have hlti : (k : Int) < 100 := by omega
        obtain ⟨b, off, rfl, hbB, hcs⟩ := HX.out.1 k hlt
        obtain ⟨A', c', hck', hpb, hpc, hpz⟩ := hcs k hlt
        obtain ⟨pl, hpl⟩ : ∃ pl, pl = l0[k] := ⟨_, rfl⟩
        rw [← hpl] at hck' hpb hpc
        have hmb : pl.length ≤ 140737488351232 := by rw [hpl]; exact HSZ.out _ (List.getElem_mem _)
        obtain ⟨m, hm⟩ : ∃ m, pl.length = m := ⟨_, rfl⟩
        rw [hm] at hck' hpc hmb
        have hcell := (HI.out.1.disk.bel.cell (p := ⟨b, off + k, none⟩) hbB).trans hck'
        have HP : Hid (pl.length = m ∧ (m ≤ c' ∧ c' ≤ maxLen) ∧ (A' = none → c' = 0) ∧ IsBytes wr wr.heap.size A' pl ∧ (pl ≠ [] → ∀ a, A' = some a → ¬ d.has a.block)) := hid ⟨hm, hpc, hpz, (hpb.below HI.out.1.disk.bel).more HI.out.1.disk.bel.size, fun hne a ha hd => by
          rcases pl with _ | ⟨y, pl⟩
          · exact absurd rfl hne
          · obtain ⟨b2, o2, e2, hb2, _⟩ := hpb.cells 0 (by simp)
            rw [ha] at e2; injection e2 with e2; subst e2
            have h5 := HI.out.1.disk.ge _ hd
            have hb2' : b2 < w.heap.size := hb2
            have : w.heap.size ≤ b2 := h5
            omega⟩
        clear hck' hpb hpc hpz hcs hpl hm
        by_cases hnw : k < l1.length
        · have hnw0 : (k : Int) < (l1.length : Int) := by omega
          obtain ⟨b1, o1, rfl, hb1, hc1⟩ := HX.out.2 k hnw
          have hcell1 := (HI.out.1.disk.bel.cell (p := ⟨b1, o1 + k, none⟩) hb1).trans (hc1 k hnw)
          obtain ⟨v, hv⟩ : ∃ v, v = l1[k] := ⟨_, rfl⟩
          rw [← hv] at hcell1
          clear hc1 hv
          cases v
          · rcases HI.out.2.2.2.2 with rfl | rfl
            · go_wp2_with fail
              refine (T.append_state w d s g gj 5 50 e p L c A' m c' wr HI.out.1).mono ?_
              rintro e4 w4 ⟨rfl, hw4⟩
              have H4 : Hid (SG w w4 d s g gj 5 50 e 0 p L c ∧ s.armed = false ∧ s.down = false ∧ L.length = c ∧ Live 0) := by rw [hw4]; exact hid HI.out
              clear hw4 HI HP hcell
              have k0 : w4.cell? ⟨g, 0, none⟩ = some (.pointer (some ⟨gj, 0, none⟩)) := H4.out.1.store.cells.1
              go_wp2_with fail
              refine (T.epoch_SG w d _ g gj 5 50 e 0 p L c w4 H4.out.1).mono ?_
              rintro e8 w8 ⟨rfl, rfl⟩
              go_wp2_with fail
              refine (T.count_SG w d _ g gj 5 50 e 0 p L c _ H4.out.1).mono ?_
              rintro e9 w9 ⟨rfl, rfl⟩
              clear k0
              go_wp2
              go_roundw
              case rel => exact ⟨k + 1, s, gj, e, 0, p, L, c, by omega, by omega, by omega, by omega, by omega, by go_num, rfl, rfl, H4⟩
              case measure => simp [RowKit.intOf]; omega
            · go_wp2_with fail
              refine (T.append_any w d s g gj 5 50 e p L c wr HI.out.1 A' c' pl m HP.out.1 HP.out.2.1.1 HP.out.2.1.2 HP.out.2.2.1 HP.out.2.2.2.1 HP.out.2.2.2.2).mono ?_
              rintro e4 w4 ⟨E, rfl, h4⟩
              have HLc := hid HI.out.2.2.2.1
              rcases h4.out.1 with ⟨g2, rfl, g4⟩ | ⟨g2, g3, rfl, g4⟩ | ⟨s', g2, g3, rfl, g4, g5, g6⟩ | ⟨s', g2, g3, g4, g5, g6, g7, g8, g9⟩
              · have H4 : Hid (SG w w4 d s g gj 5 50 e 1 p L c ∧ s.armed = false ∧ s.down = false ∧ L.length = c ∧ Live 1) := hid ⟨by have := g4; rwa [HLc.out] at this, HI.out.2⟩
                clear h4 g2 g4 HI HP hcell HLc
                have k0 : w4.cell? ⟨g, 0, none⟩ = some (.pointer (some ⟨gj, 0, none⟩)) := H4.out.1.store.cells.1
                go_wp2_with fail
                refine (T.epoch_SG w d _ g gj 5 50 e 1 p L c w4 H4.out.1).mono ?_
                rintro e8 w8 ⟨rfl, rfl⟩
                go_wp2_with fail
                refine (T.count_SG w d _ g gj 5 50 e 1 p L c _ H4.out.1).mono ?_
                rintro e9 w9 ⟨rfl, rfl⟩
                clear k0
                go_wp2
                go_roundw
                case rel => exact ⟨k + 1, s, gj, e, 1, p, L, c, by omega, by omega, by omega, by omega, by omega, by go_num, rfl, rfl, H4⟩
                case measure => simp [RowKit.intOf]; omega
              · have H4 : Hid (SG w w4 d s g gj 5 50 e 1 p L c ∧ s.armed = false ∧ s.down = false ∧ L.length = c ∧ Live 1) := hid ⟨by have := g4; rwa [HLc.out] at this, HI.out.2⟩
                clear h4 g2 g3 g4 HI HP hcell HLc
                have k0 : w4.cell? ⟨g, 0, none⟩ = some (.pointer (some ⟨gj, 0, none⟩)) := H4.out.1.store.cells.1
                go_wp2_with fail
                refine (T.epoch_SG w d _ g gj 5 50 e 1 p L c w4 H4.out.1).mono ?_
                rintro e8 w8 ⟨rfl, rfl⟩
                go_wp2_with fail
                refine (T.count_SG w d _ g gj 5 50 e 1 p L c _ H4.out.1).mono ?_
                rintro e9 w9 ⟨rfl, rfl⟩
                clear k0
                go_wp2
                go_roundw
                case rel => exact ⟨k + 1, s, gj, e, 1, p, L, c, by omega, by omega, by omega, by omega, by omega, by go_num, rfl, rfl, H4⟩
                case measure => simp [RowKit.intOf]; omega
              · have H4 : Hid (SG w w4 d s' g gj 5 50 e 1 p (L ++ [pl]) (c + 1) ∧ s'.armed = false ∧ s'.down = false ∧ (L ++ [pl]).length = c + 1 ∧ Live 1) := hid ⟨by have := g4; rwa [HLc.out] at this, g5.trans HI.out.2.1, g6, by simp [HLc.out], .inr rfl⟩
                clear h4 g2 g3 g4 g5 g6 HI HP hcell HLc
                have k0 : w4.cell? ⟨g, 0, none⟩ = some (.pointer (some ⟨gj, 0, none⟩)) := H4.out.1.store.cells.1
                go_wp2_with fail
                refine (T.epoch_SG w d _ g gj 5 50 e 1 p (L ++ [pl]) (c + 1) w4 H4.out.1).mono ?_
                rintro e8 w8 ⟨rfl, rfl⟩
                go_wp2_with fail
                refine (T.count_SG w d _ g gj 5 50 e 1 p (L ++ [pl]) (c + 1) _ H4.out.1).mono ?_
                rintro e9 w9 ⟨rfl, rfl⟩
                clear k0
                go_wp2
                go_roundw
                case rel => exact ⟨k + 1, s', gj, e, 1, p, L ++ [pl], c + 1, by omega, by omega, by omega, by omega, by omega, by go_num, rfl, by go_num, H4⟩
                case measure => simp [RowKit.intOf]; omega
              · exact absurd ⟨HI.out.2.1, HI.out.2.2.1⟩ g4
          · go_wp2_with fail
            refine (T.renew_any w d s g gj 5 50 e st p L c wr HI.out.1 (by have := HI.out.2.2.2.2; unfold Live at this; omega) (by omega) (by omega) A' c' pl m HP.out.1 (by omega) HP.out.2.1.1 HP.out.2.1.2 HP.out.2.2.1 HP.out.2.2.2.1).mono ?_
            rintro e4 w4 ⟨E, rfl, h4⟩
            rcases h4.out.1 with ⟨g2, rfl, g4⟩ | ⟨s', gj', g2, rfl, g4, g5, g6, g7⟩ | ⟨s', g2, g3, g4, g5, g6, g7, g8⟩
            · have H4 : Hid (SG w w4 d s g gj 5 50 e st p L c ∧ s.armed = false ∧ s.down = false ∧ L.length = c ∧ Live st) := hid ⟨g4, HI.out.2⟩
              clear h4 g2 g4 HI HP hcell
              have k0 : w4.cell? ⟨g, 0, none⟩ = some (.pointer (some ⟨gj, 0, none⟩)) := H4.out.1.store.cells.1
              go_wp2_with fail
              refine (T.epoch_SG w d _ g gj 5 50 e st p L c w4 H4.out.1).mono ?_
              rintro e8 w8 ⟨rfl, rfl⟩
              go_wp2_with fail
              refine (T.count_SG w d _ g gj 5 50 e st p L c _ H4.out.1).mono ?_
              rintro e9 w9 ⟨rfl, rfl⟩
              clear k0
              go_wp2
              go_roundw
              case rel => exact ⟨k + 1, s, gj, e, st, p, L, c, by omega, by omega, by omega, by omega, by omega, by go_num, rfl, rfl, H4⟩
              case measure => simp [RowKit.intOf]; omega
            · have H4 : Hid (SG w w4 d s' g gj' 5 50 (e + 1) 1 pl [] 0 ∧ s'.armed = false ∧ s'.down = false ∧ ([] : List (List Nat)).length = 0 ∧ Live 1) := hid ⟨g4, g6.trans HI.out.2.1, g7, rfl, .inr rfl⟩
              clear h4 g2 g4 g5 g6 g7 HI HP hcell
              have k0 : w4.cell? ⟨g, 0, none⟩ = some (.pointer (some ⟨gj', 0, none⟩)) := H4.out.1.store.cells.1
              go_wp2_with fail
              refine (T.epoch_SG w d _ g gj' 5 50 (e + 1) 1 pl [] 0 w4 H4.out.1).mono ?_
              rintro e8 w8 ⟨rfl, rfl⟩
              go_wp2_with fail
              refine (T.count_SG w d _ g gj' 5 50 (e + 1) 1 pl [] 0 _ H4.out.1).mono ?_
              rintro e9 w9 ⟨rfl, rfl⟩
              clear k0
              go_wp2
              go_roundw
              case rel => exact ⟨k + 1, s', gj', e + 1, 1, pl, [], 0, by omega, by omega, by omega, by omega, by omega, by go_num, rfl, rfl, H4⟩
              case measure => simp [RowKit.intOf]; omega
            · exact absurd ⟨HI.out.2.1, HI.out.2.2.1⟩ g3
        · have hnw0 : ¬ (k : Int) < (l1.length : Int) := by omega
          rcases HI.out.2.2.2.2 with rfl | rfl
          · go_wp2_with fail
            refine (T.append_state w d s g gj 5 50 e p L c A' m c' wr HI.out.1).mono ?_
            rintro e4 w4 ⟨rfl, hw4⟩
            have H4 : Hid (SG w w4 d s g gj 5 50 e 0 p L c ∧ s.armed = false ∧ s.down = false ∧ L.length = c ∧ Live 0) := by rw [hw4]; exact hid HI.out
            clear hw4 HI HP hcell
            have k0 : w4.cell? ⟨g, 0, none⟩ = some (.pointer (some ⟨gj, 0, none⟩)) := H4.out.1.store.cells.1
            go_wp2_with fail
            refine (T.epoch_SG w d _ g gj 5 50 e 0 p L c w4 H4.out.1).mono ?_
            rintro e8 w8 ⟨rfl, rfl⟩
            go_wp2_with fail
            refine (T.count_SG w d _ g gj 5 50 e 0 p L c _ H4.out.1).mono ?_
            rintro e9 w9 ⟨rfl, rfl⟩
            clear k0
            go_wp2
            go_roundw
            case rel => exact ⟨k + 1, s, gj, e, 0, p, L, c, by omega, by omega, by omega, by omega, by omega, by go_num, rfl, rfl, H4⟩
            case measure => simp [RowKit.intOf]; omega
          · go_wp2_with fail
            refine (T.append_any w d s g gj 5 50 e p L c wr HI.out.1 A' c' pl m HP.out.1 HP.out.2.1.1 HP.out.2.1.2 HP.out.2.2.1 HP.out.2.2.2.1 HP.out.2.2.2.2).mono ?_
            rintro e4 w4 ⟨E, rfl, h4⟩
            have HLc := hid HI.out.2.2.2.1
            rcases h4.out.1 with ⟨g2, rfl, g4⟩ | ⟨g2, g3, rfl, g4⟩ | ⟨s', g2, g3, rfl, g4, g5, g6⟩ | ⟨s', g2, g3, g4, g5, g6, g7, g8, g9⟩
            · have H4 : Hid (SG w w4 d s g gj 5 50 e 1 p L c ∧ s.armed = false ∧ s.down = false ∧ L.length = c ∧ Live 1) := hid ⟨by have := g4; rwa [HLc.out] at this, HI.out.2⟩
              clear h4 g2 g4 HI HP hcell HLc
              have k0 : w4.cell? ⟨g, 0, none⟩ = some (.pointer (some ⟨gj, 0, none⟩)) := H4.out.1.store.cells.1
              go_wp2_with fail
              refine (T.epoch_SG w d _ g gj 5 50 e 1 p L c w4 H4.out.1).mono ?_
              rintro e8 w8 ⟨rfl, rfl⟩
              go_wp2_with fail
              refine (T.count_SG w d _ g gj 5 50 e 1 p L c _ H4.out.1).mono ?_
              rintro e9 w9 ⟨rfl, rfl⟩
              clear k0
              go_wp2
              go_roundw
              case rel => exact ⟨k + 1, s, gj, e, 1, p, L, c, by omega, by omega, by omega, by omega, by omega, by go_num, rfl, rfl, H4⟩
              case measure => simp [RowKit.intOf]; omega
            · have H4 : Hid (SG w w4 d s g gj 5 50 e 1 p L c ∧ s.armed = false ∧ s.down = false ∧ L.length = c ∧ Live 1) := hid ⟨by have := g4; rwa [HLc.out] at this, HI.out.2⟩
              clear h4 g2 g3 g4 HI HP hcell HLc
              have k0 : w4.cell? ⟨g, 0, none⟩ = some (.pointer (some ⟨gj, 0, none⟩)) := H4.out.1.store.cells.1
              go_wp2_with fail
              refine (T.epoch_SG w d _ g gj 5 50 e 1 p L c w4 H4.out.1).mono ?_
              rintro e8 w8 ⟨rfl, rfl⟩
              go_wp2_with fail
              refine (T.count_SG w d _ g gj 5 50 e 1 p L c _ H4.out.1).mono ?_
              rintro e9 w9 ⟨rfl, rfl⟩
              clear k0
              go_wp2
              go_roundw
              case rel => exact ⟨k + 1, s, gj, e, 1, p, L, c, by omega, by omega, by omega, by omega, by omega, by go_num, rfl, rfl, H4⟩
              case measure => simp [RowKit.intOf]; omega
            · have H4 : Hid (SG w w4 d s' g gj 5 50 e 1 p (L ++ [pl]) (c + 1) ∧ s'.armed = false ∧ s'.down = false ∧ (L ++ [pl]).length = c + 1 ∧ Live 1) := hid ⟨by have := g4; rwa [HLc.out] at this, g5.trans HI.out.2.1, g6, by simp [HLc.out], .inr rfl⟩
              clear h4 g2 g3 g4 g5 g6 HI HP hcell HLc
              have k0 : w4.cell? ⟨g, 0, none⟩ = some (.pointer (some ⟨gj, 0, none⟩)) := H4.out.1.store.cells.1
              go_wp2_with fail
              refine (T.epoch_SG w d _ g gj 5 50 e 1 p (L ++ [pl]) (c + 1) w4 H4.out.1).mono ?_
              rintro e8 w8 ⟨rfl, rfl⟩
              go_wp2_with fail
              refine (T.count_SG w d _ g gj 5 50 e 1 p (L ++ [pl]) (c + 1) _ H4.out.1).mono ?_
              rintro e9 w9 ⟨rfl, rfl⟩
              clear k0
              go_wp2
              go_roundw
              case rel => exact ⟨k + 1, s', gj, e, 1, p, L ++ [pl], c + 1, by omega, by omega, by omega, by omega, by omega, by go_num, rfl, by go_num, H4⟩
              case measure => simp [RowKit.intOf]; omega
            · exact absurd ⟨HI.out.2.1, HI.out.2.2.1⟩ g4
      · have hlti : ¬ (k : Int) < 100 := by omega
        go_wp2_with fail
        refine (T.open_any w wr d s 5 50 e p L HI.out.1.disk HI.out.1.held (by omega) HI.out.2.2.1 5 rfl).mono ?_
        rintro e4 w4 ⟨g4, gj4, A4, c4, A5, c5, rfl, h4⟩
        have H4 := hid h4.out.sg.disk.bel
        have HLc := HI.out.2.2.2.1
        rw [HLc]
        clear h4 HI HLc
        go_wp2_with fail
        refine (T.known_any w4).mono ?_
        rintro e5 w5 ⟨rfl, hb5⟩
        have H5 := hid (H4.out.trans (hb5.mono H4.out.size))
        clear hb5 H4
        go_wp2
        go_ret
        exact ⟨rfl, H5.out⟩
    · have hlt0 : ¬ (k : Int) < (l0.length : Int) := by omega
      go_wp2_with fail
      refine (T.open_any w wr d s 5 50 e p L HI.out.1.disk HI.out.1.held (by omega) HI.out.2.2.1 5 rfl).mono ?_
      rintro e4 w4 ⟨g4, gj4, A4, c4, A5, c5, rfl, h4⟩
      have H4 := hid h4.out.sg.disk.bel
      have HLc := HI.out.2.2.2.1
      rw [HLc]
      clear h4 HI HLc
      go_wp2_with fail
      refine (T.known_any w4).mono ?_
      rintro e5 w5 ⟨rfl, hb5⟩
      have H5 := hid (H4.out.trans (hb5.mono H4.out.size))
      clear hb5 H4
      go_wp2
      go_ret
      exact ⟨rfl, H5.out⟩

set_option maxRecDepth 100000 in
theorem lifted (os : Os) (started : os.Started) (H : Type) (enc : TypeId × Value → H) :
    ReturnsInHanded {} Try.checked os 7 .any (Rows.storeRisesSpec.pre6 enc Try.prog Try.f7 Rows.storeRisesRow.domain false) (Rows.storeRisesSpec.post enc Try.prog Try.f7 false true false false) := by
  refine returnsInHanded_of_change_sized (C := Try.checked) own started (by kernel_rfl) Try.func7
    (ChangeSpec.witness6 (enc := enc) (C := Try.checked) false ⟨#[], #[.slice none 0 0, .slice none 0 0], []⟩ 8 (by kernel_rfl) (by kernel_rfl) (by kernel_rfl) (by kernel_rfl)) ?_
  intro W base args ds gs before hval0 hW hcnd hsz0 _
  have hsz : (DataW.weightsEach Try.prog (Try.f7.params.toList ++ Rows.storeRisesSpec.plain.varTypes Try.prog) (ds ++ gs)).all (· ≤ reachBytes) = true := hsz0
  clear hsz0
  have hval : ∀ (j : Nat) t v, Try.f7.params[j]? = some t → args[j]? = some v → Value.okWide Try.prog W .any base t v := hval0
  have hW' := hW
  obtain ⟨p, q, hA0, hV, rfl, hfz, hnd⟩ := hW
  have hA : DataW.TrodAll enc Try.prog W 0 (fun _ => true) true Try.f7.params.toList args.toList ds p := hA0
  rw [Try.params7] at hA hval hsz
  obtain ⟨v0, vs0, d0, ds0, p0, q0, hargs, rfl, rfl, g0, t0⟩ := trodAll_cons hA
  obtain ⟨v1, vs1, d1, ds1, p1, q1, rfl, rfl, rfl, g1, t1⟩ := trodAll_cons t0
  obtain ⟨rfl, rfl, rfl⟩ := trodAll_nil t1
  obtain rfl : args = #[v0, v1] := by cases args; simp_all
  obtain ⟨rfl, rfl⟩ := trodVars_none hV
  obtain ⟨a0, len0, cap0, rfl⟩ := okWide_slice Try.underlying22 (hval 0 22 v0 rfl rfl)
  have m0 := g0
  have lt0 : ∀ x ∈ p0, x.block < W.heap.size := by obtain ⟨m, hm⟩ := m0; exact DataW.trod_lt m _ _ _ hm
  obtain ⟨l0, k0, rfl, n0, r0, z0, s0⟩ : ∃ l, IsRowsIn W W.heap.size a0 l ∧ len0 = l.length ∧ l.length ≤ cap0 ∧ cap0 ≤ maxLen ∧ (a0 = none → cap0 = 0) ∧ ∀ r ∈ l, r.length ≤ 140737488351232 := by
    obtain ⟨fuel, hf⟩ := g0
    obtain ⟨a, c, ts, hcs, h1, h2, h3, h4⟩ := rows_of_trod_sized hf (weights_at hsz (j := 0) rfl rfl)
    simp [Value.cells] at hcs
    obtain ⟨rfl, rfl, rfl⟩ := hcs
    exact ⟨ts, h1, rfl, h2.1, h2.2, h3, h4⟩
  obtain ⟨a1, len1, cap1, rfl⟩ := okWide_slice Try.underlying56 (hval 1 56 v1 rfl rfl)
  have m1 := g1
  have lt1 : ∀ x ∈ p1, x.block < W.heap.size := by obtain ⟨m, hm⟩ := m1; exact DataW.trod_lt m _ _ _ hm
  obtain ⟨l1, k1, rfl, n1, r1, z1⟩ : ∃ l, IsBools W W.heap.size a1 l ∧ len1 = l.length ∧ l.length ≤ cap1 ∧ cap1 ≤ maxLen ∧ (a1 = none → cap1 = 0) := by
    obtain ⟨fuel, hf⟩ := g1
    obtain ⟨a, c, ts, hcs, h1, h2, h3⟩ := bools_of_trod hf
    simp [Value.cells] at hcs
    obtain ⟨rfl, rfl, rfl⟩ := hcs
    exact ⟨ts, h1, rfl, h2.1, h2.2, h3⟩
  clear hA0 hval0
  refine (walk a0 cap0 l0 a1 cap1 l1 W k0 n0 r0 z0 s0 k1 n1 r1 z1).mono fun e W' ⟨he, bel⟩ => ?_
  subst he
  exact ⟨_, rfl, _, _, _, [], _, [], hW', trodAll_mk1 (shut_bool Try.underlying4 _), (trodAll_cons_mk (Below.trod laidOut (by kernel_rfl) (of_decide_eq_true (by kernel_rfl)) m0 bel lt0) (trodAll_cons_mk (Below.trod laidOut (by kernel_rfl) (of_decide_eq_true (by kernel_rfl)) m1 bel lt1) trodAll_mk0)), rfl, bel.frame _, fun h => by cases h⟩

theorem over : Rows.storeRisesRow.holds Try.pinned (OpenSpec.ofChange Rows.storeRisesSpec) :=
  OpenClaim.holds_of_wide 7 Try.f7 rfl rfl rfl rfl rfl rfl rfl ⟨rfl, rfl, rfl, rfl, rfl⟩ rfl rfl rfl rfl rfl (by kernel_rfl) Try.func7 (by kernel_rfl)
    (of_decide_eq_true (by kernel_rfl)) (by unfold Func.isWrapper; first | (rw [if_pos (by decide +kernel)]; kernel_rfl) | (rw [if_neg (by decide +kernel)]; exact ⟨rfl, rfl⟩))
    (fun os started H enc _ => lifted os started H enc)

theorem proved : Rows.StoreRisesSaid := over
end Go.Proofs.Ytdgijnolpjaheaa.storeRises
