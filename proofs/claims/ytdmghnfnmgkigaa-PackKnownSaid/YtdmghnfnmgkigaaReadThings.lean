/- The walk through 'read': are these things read? -/
import Derived.Test.YtdmghnfnmgkigaaLaid
import Derived.Test.YtdmghnfnmgkigaaKitN
import Derived.Deep.CutRange
import Derived.Deep.RegionWith
namespace Go.Proofs.Ytdmghnfnmgkigaa
open Go.RowKit

def ReadPost (g : Nat) (s : Pk.St) (ts : List Pk.Th) (w : World) (e : Ending) (w' : World) : Prop :=
  e = .returned (.bool (Pk.readAll s (Pk.vals ts)).1) ∧ Rdr w' g (Pk.readAll s (Pk.vals ts)).2 ∧ w.grownBy w' (some g)
theorem rd1_short (s : Pk.St) (v : Pk.Val) : (Pk.rd1 s v).2.rest.length ≤ s.rest.length := by
  cases v with
  | num v => exact Pk.rdInt_short s
  | blob l => exact (Pk.rdBlob_short s).1
  | list l => exact (Pk.rdInts_short s).1
theorem vals_drop (ts : List Pk.Th) (k : Nat) (h : k < ts.length) : Pk.vals (ts.drop k) = ts[k].val :: Pk.vals (ts.drop (k + 1)) := by
  unfold Pk.vals
  rw [List.drop_eq_getElem_cons h, List.map_cons]

set_option maxHeartbeats 3200000 in
theorem readThings_any (g : Nat) (s : Pk.St) (B : Nat) (A : Option Addr) (c : Nat) (ts : List Pk.Th) (w : World) (hR0 : Rdr w g s) (h : IsThings w B A ts) (hB : B ≤ g) (hlen : ts.length ≤ maxLen) (hs0 : s.rest.length ≤ 140737488352000) :
    Calls Try.prog 31 #[.pointer (some ⟨g, 0, none⟩), .slice A ts.length c] w (ReadPost g s ts w) := by
  unfold maxLen at hlen
  have hg0 := hR0.lt
  have hBw : B ≤ w.heap.size := by omega
  go_enter Try.func31, Try.ntmps31
  go_wp2_with fail
  go_loopw [5] (fun i wr => ∃ k : Nat, ∃ s1 : Pk.St, k ≤ ts.length ∧ i = .int .i64 k ∧ Hid (Rdr wr g s1 ∧ w.grownBy wr (some g) ∧ Pk.readAll s (Pk.vals ts) = Pk.readAll s1 (Pk.vals (ts.drop k)) ∧ s1.rest.length ≤ s.rest.length)) (fun i _ => ts.length - (intOf i).toNat)
  case atStart => exact ⟨0, s, by omega, rfl, ⟨hR0, grown_refl _ _, by simp, Nat.le_refl _⟩⟩
  case round =>
    clear hR0
    obtain ⟨k, s1, hk, rfl, hs⟩ := hrel
    by_cases hlt : k < ts.length
    · have hG := hs.out.2.1
      have hR := hs.out.1
      have hbel : Below g w wr := below_grown hG (by omega) (fun k hk => by injection hk with hk; omega)
      have h1 := h.below (hbel.mono hB)
      obtain ⟨b, off, rfl, hbB, hc⟩ := h1.cells k hlt
      obtain ⟨ap, cp, al, cl, d0, d1, d2, d3, hp, hl, hcp, hcl, hnp, hnl, hkin, hvin⟩ := hc k hlt
      have hmp : ts[k].p.length ≤ maxLen := by omega
      have hml : ts[k].l.length ≤ maxLen := by omega
      have hk0 : (k : Int) < (ts.length : Int) := by omega
      have hk00 : 0 ≤ (k : Int) := by omega
      have hgw : g < wr.heap.size := hR.lt
      have hbg : some b ≠ some g := by intro e; injection e with e; omega
      have HRA : Hid (Pk.readAll s (Pk.vals ts) = if (Pk.rd1 s1 ts[k].val).1 = true then Pk.readAll (Pk.rd1 s1 ts[k].val).2 (Pk.vals (ts.drop (k + 1))) else (false, (Pk.rd1 s1 ts[k].val).2)) := by
        show _ = _
        rw [hs.out.2.2.1, vals_drop ts k hlt]; rfl
      have HSH : Hid ((Pk.rd1 s1 ts[k].val).2.rest.length ≤ s.rest.length) := Nat.le_trans (rd1_short _ _) hs.out.2.2.2
      have hk1 := hkin.1
      have hk2 := hkin.2
      have hv1 := hvin.1
      have hv2 := hvin.2
      have hs2 := hs.out.2.2.2
      clear hc h1 hbel hG
      by_cases e1 : ts[k].kind = 1
      · have HV : Hid (ts[k].val = .blob ts[k].p) := by show _ = _; unfold Pk.Th.val; rw [if_pos e1]
        have t1 : (ts[k].kind == 1) = true := by rw [beq_iff_eq]; exact e1
        have HC := hid (blob_rdr g s1 wr.drew (hR.drewN 1) (by omega))
        have HK : Hid (∀ w6, wr.drew.grownBy w6 (some g) → IsBytes w6 B ap ts[k].p ∧ w6.cell? ⟨b, off + k * 4 + 2, none⟩ = some (.slice ap ts[k].p.length cp)) := fun w6 hG6 =>
          ⟨hp.drew.grown hG6 (by show B ≤ wr.heap.size; omega) (fun k hk => by injection hk with hk; omega), hG6.cell (show wr.drew.cell? _ = _ from d2) hbg⟩
        obtain ⟨L, hL⟩ : ∃ L, L = (Pk.rdBlob s1).1 := ⟨_, rfl⟩
        have hLl : L.length ≤ maxLen := by rw [hL]; have := (Pk.rdBlob_short s1).2; unfold maxLen; omega
        have HL : Hid ((Pk.rd1 s1 ts[k].val) = (decide (L = ts[k].p), (Pk.rdBlob s1).2)) := by show _ = _; rw [HV.out, hL]; rfl
        rw [← hL] at HC
        clear hp hl hL e1 hR
        by_cases ok : L = ts[k].p
        · have ok1 : decide (L = ts[k].p) = true := by simp [ok]
          have HN : Hid (Pk.readAll s (Pk.vals ts) = Pk.readAll (Pk.rdBlob s1).2 (Pk.vals (ts.drop (k + 1))) ∧ (Pk.rdBlob s1).2.rest.length ≤ s.rest.length) := by
            have e := HRA.out; have e2 := HSH.out
            rw [HL.out] at e e2; rw [if_pos ok1] at e
            exact ⟨e, e2⟩
          have OK := hid ok
          clear ok
          go_wp2_with fail
          go_region_with (first
            | (go_at_call 37; refine HC.out.mono ?_; rintro e w6 ⟨A6, c6, rfl, hown6, hR6, hG6⟩; have hd6 := (HK.out w6 hG6).2; have hp6 := (HK.out w6 hG6).1)
            | (go_at_call 15; refine (same_N _ _ A6 ap c6 cp L ts[k].p _ _ rfl rfl hLl hmp w6 hown6.reads hp6).mono ?_; rintro e w7 ⟨rfl, n7, rfl⟩))
          all_goals
            have hg7 := hs.out.2.1.trans ((grown_drew (grown_refl wr (some g))).trans hG6)
            go_wp2_with fail
            go_roundw
            case rel => exact ⟨k + 1, _, by omega, by go_num, ⟨hR6.drewN _, grown_drewN hg7 _, HN.out.1, HN.out.2⟩⟩
            case measure => simp [intOf] <;> omega
        · have ok1 : decide (L = ts[k].p) = false := by simp [ok]
          have HP : Hid (∀ w7, Rdr w7 g (Pk.rdBlob s1).2 → w.grownBy w7 (some g) → ReadPost g s ts w (.returned (.bool false)) w7) := by
            have e := HRA.out
            rw [HL.out] at e
            rw [if_neg (by rw [ok1]; simp)] at e
            intro w7 h7 h8
            refine ⟨?_, ?_, h8⟩
            · rw [e]
            · rw [e]; exact h7
          have OK := hid ok
          clear ok
          go_wp2_with fail
          go_region_with (first
            | (go_at_call 37; refine HC.out.mono ?_; rintro e w6 ⟨A6, c6, rfl, hown6, hR6, hG6⟩; have hd6 := (HK.out w6 hG6).2; have hp6 := (HK.out w6 hG6).1)
            | (go_at_call 15; refine (same_N _ _ A6 ap c6 cp L ts[k].p _ _ rfl rfl hLl hmp w6 hown6.reads hp6).mono ?_; rintro e w7 ⟨rfl, n7, rfl⟩))
          all_goals
            have hg7 := hs.out.2.1.trans ((grown_drew (grown_refl wr (some g))).trans hG6)
            go_wp2_with fail
            go_ret
            exact HP.out _ (hR6.drewN _) (grown_drewN hg7 _)
      · have t1 : (ts[k].kind == 1) = false := by rw [beq_eq_false_iff_ne]; exact e1
        by_cases e2 : ts[k].kind = 2
        · have HV : Hid (ts[k].val = .list ts[k].l) := by show _ = _; unfold Pk.Th.val; rw [if_neg e1, if_pos e2]
          have t2 : (ts[k].kind == 2) = true := by rw [beq_iff_eq]; exact e2
          have HC := hid (ints_rdr g s1 wr.drew (hR.drewN 1) (by omega))
          have HK : Hid (∀ w6, wr.drew.grownBy w6 (some g) → IsInts w6 B al ts[k].l ∧ w6.cell? ⟨b, off + k * 4 + 3, none⟩ = some (.slice al ts[k].l.length cl)) := fun w6 hG6 =>
            ⟨hl.drew.grown hG6 (by show B ≤ wr.heap.size; omega) (fun k hk => by injection hk with hk; omega), hG6.cell (show wr.drew.cell? _ = _ from d3) hbg⟩
          obtain ⟨L, hL⟩ : ∃ L, L = (Pk.rdInts s1).1 := ⟨_, rfl⟩
          have hLl : L.length ≤ maxLen := by rw [hL]; have := (Pk.rdInts_short s1).2; unfold maxLen; omega
          have HL : Hid ((Pk.rd1 s1 ts[k].val) = (decide (L = ts[k].l), (Pk.rdInts s1).2)) := by show _ = _; rw [HV.out, hL]; rfl
          rw [← hL] at HC
          clear hp hl hL e1 e2 hR
          by_cases ok : L = ts[k].l
          · have ok1 : decide (L = ts[k].l) = true := by simp [ok]
            have HN : Hid (Pk.readAll s (Pk.vals ts) = Pk.readAll (Pk.rdInts s1).2 (Pk.vals (ts.drop (k + 1))) ∧ (Pk.rdInts s1).2.rest.length ≤ s.rest.length) := by
              have e := HRA.out; have e2 := HSH.out
              rw [HL.out] at e e2; rw [if_pos ok1] at e
              exact ⟨e, e2⟩
            have OK := hid ok
            clear ok
            go_wp2_with fail
            go_region_with (first
              | (go_at_call 44; refine HC.out.mono ?_; rintro e w6 ⟨A6, c6, rfl, hown6, hR6, hG6⟩; have hd6 := (HK.out w6 hG6).2; have hp6 := (HK.out w6 hG6).1)
              | (go_at_call 40; refine (sameI_N _ _ A6 al c6 cl L ts[k].l _ _ rfl rfl hLl hml w6 hown6.reads hp6).mono ?_; rintro e w7 ⟨rfl, n7, rfl⟩))
            all_goals
              have hg7 := hs.out.2.1.trans ((grown_drew (grown_refl wr (some g))).trans hG6)
              go_wp2_with fail
              go_roundw
              case rel => exact ⟨k + 1, _, by omega, by go_num, ⟨hR6.drewN _, grown_drewN hg7 _, HN.out.1, HN.out.2⟩⟩
              case measure => simp [intOf] <;> omega
          · have ok1 : decide (L = ts[k].l) = false := by simp [ok]
            have HP : Hid (∀ w7, Rdr w7 g (Pk.rdInts s1).2 → w.grownBy w7 (some g) → ReadPost g s ts w (.returned (.bool false)) w7) := by
              have e := HRA.out
              rw [HL.out] at e
              rw [if_neg (by rw [ok1]; simp)] at e
              intro w7 h7 h8
              refine ⟨?_, ?_, h8⟩
              · rw [e]
              · rw [e]; exact h7
            have OK := hid ok
            clear ok
            go_wp2_with fail
            go_region_with (first
              | (go_at_call 44; refine HC.out.mono ?_; rintro e w6 ⟨A6, c6, rfl, hown6, hR6, hG6⟩; have hd6 := (HK.out w6 hG6).2; have hp6 := (HK.out w6 hG6).1)
              | (go_at_call 40; refine (sameI_N _ _ A6 al c6 cl L ts[k].l _ _ rfl rfl hLl hml w6 hown6.reads hp6).mono ?_; rintro e w7 ⟨rfl, n7, rfl⟩))
            all_goals
              have hg7 := hs.out.2.1.trans ((grown_drew (grown_refl wr (some g))).trans hG6)
              go_wp2_with fail
              go_ret
              exact HP.out _ (hR6.drewN _) (grown_drewN hg7 _)
        · have HV : Hid (ts[k].val = .num ts[k].v) := by show _ = _; unfold Pk.Th.val; rw [if_neg e1, if_neg e2]
          have t2 : (ts[k].kind == 2) = false := by rw [beq_eq_false_iff_ne]; exact e2
          have HC := hid (int_rdr g s1 wr.drew (hR.drewN 1))
          have HK : Hid (∀ w6, wr.drew.grownBy w6 (some g) → w6.cell? ⟨b, off + k * 4 + 1, none⟩ = some (.int .i64 ts[k].v)) := fun w6 hG6 => hG6.cell (show wr.drew.cell? _ = _ from d1) hbg
          obtain ⟨L, hL⟩ : ∃ L, L = (Pk.rdInt s1).1 := ⟨_, rfl⟩
          have HL : Hid ((Pk.rd1 s1 ts[k].val) = (L == ts[k].v, (Pk.rdInt s1).2)) := by show _ = _; rw [HV.out, hL]; simp only [Pk.rd1]; congr 1
          rw [← hL] at HC
          clear hp hl hL e1 e2 hR
          by_cases ok : L = ts[k].v
          · have ok1 : (L == ts[k].v) = true := by simp [ok]
            have HN : Hid (Pk.readAll s (Pk.vals ts) = Pk.readAll (Pk.rdInt s1).2 (Pk.vals (ts.drop (k + 1))) ∧ (Pk.rdInt s1).2.rest.length ≤ s.rest.length) := by
              have e := HRA.out; have e2 := HSH.out
              rw [HL.out] at e e2; rw [if_pos ok1] at e
              exact ⟨e, e2⟩
            have OK := hid ok
            clear ok
            go_wp2_with fail
            go_region_with (go_at_call 34; refine HC.out.mono ?_; rintro e w6 ⟨rfl, hR6, hG6⟩; have hd6 := HK.out w6 hG6)
            all_goals
              have hg7 := hs.out.2.1.trans ((grown_drew (grown_refl wr (some g))).trans hG6)
              go_wp2_with fail
              go_roundw
              case rel => exact ⟨k + 1, _, by omega, by go_num, ⟨hR6, hg7, HN.out.1, HN.out.2⟩⟩
              case measure => simp [intOf] <;> omega
          · have ok1 : (L == ts[k].v) = false := by simp [ok]
            have HP : Hid (∀ w7, Rdr w7 g (Pk.rdInt s1).2 → w.grownBy w7 (some g) → ReadPost g s ts w (.returned (.bool false)) w7) := by
              have e := HRA.out
              rw [HL.out] at e
              rw [if_neg (by rw [ok1]; simp)] at e
              intro w7 h7 h8
              refine ⟨?_, ?_, h8⟩
              · rw [e]
              · rw [e]; exact h7
            have OK := hid ok
            clear ok
            go_wp2_with fail
            go_region_with (go_at_call 34; refine HC.out.mono ?_; rintro e w6 ⟨rfl, hR6, hG6⟩; have hd6 := HK.out w6 hG6)
            all_goals
              have hg7 := hs.out.2.1.trans ((grown_drew (grown_refl wr (some g))).trans hG6)
              go_wp2_with fail
              go_ret
              exact HP.out _ (hR6) (hg7)
    · obtain rfl : k = ts.length := by omega
      have HP : Hid (ReadPost g s ts w (.returned (.bool true)) wr) := by
        have e := hs.out.2.2.1
        rw [List.drop_length] at e
        have e2 : Pk.readAll s (Pk.vals ts) = (true, s1) := e
        refine ⟨?_, ?_, hs.out.2.1⟩
        · rw [e2]
        · rw [e2]; exact hs.out.1
      clear hlt hk
      go_wp2_with fail
      go_ret
      exact HP.out
end Go.Proofs.Ytdmghnfnmgkigaa
