/- The walk through 'laid': things are put one behind the other. -/
import Derived.Test.YtdmghnfnmgkigaaThings
import Derived.Test.YtdmghnfnmgkigaaReader3
import Derived.Test.YtdmghnfnmgkigaaPackPut
namespace Go.Proofs.Ytdmghnfnmgkigaa
open Go.RowKit

def LaidPost (ts : List Pk.Th) (w : World) (e : Ending) (w' : World) : Prop :=
  (Pk.fits ts ∧ ∃ A c, e = .returned (.tuple #[.slice A (Pk.encAll (Pk.vals ts)).length c, .bool true]) ∧ OwnsB 5 w' w.heap.size A c (Pk.encAll (Pk.vals ts)) ∧ Below w.heap.size w w') ∨
  (¬ Pk.fits ts ∧ e = .returned (.tuple #[.slice none 0 0, .bool false]) ∧ Below w.heap.size w w')
theorem slice_len {A : Option Addr} {n m c : Nat} (h : n = m) : Value.slice A n c = .slice A m c := by rw [h]
theorem vals_snoc (ts : List Pk.Th) (k : Nat) (h : k < ts.length) : Pk.encAll (Pk.vals (ts.take (k + 1))) = Pk.encAll (Pk.vals (ts.take k)) ++ (ts[k].val).enc := by
  unfold Pk.vals
  rw [List.take_succ_eq_append_getElem h, List.map_append, List.map_cons, List.map_nil, Pk.encAll_snoc]
theorem small_snoc (ts : List Pk.Th) (k : Nat) (h : k < ts.length) (hs : ∀ t ∈ ts.take k, t.small) (h1 : ts[k].small) : ∀ t ∈ ts.take (k + 1), t.small := by
  intro t ht
  rw [List.take_succ_eq_append_getElem h] at ht
  rcases List.mem_append.1 ht with ht | ht
  · exact hs t ht
  · simp at ht; subst ht; exact h1
theorem enc_take_length (ts : List Pk.Th) (k : Nat) (hk : k ≤ 60) (hs : ∀ t ∈ ts.take k, t.small) (ho : ∀ t ∈ ts, t.ok) : (Pk.encAll (Pk.vals (ts.take k))).length ≤ 492000 := by
  have h1 := Pk.encAll_length (Pk.vals (ts.take k)) (Pk.vals_ok _ (fun t ht => ho t (List.mem_of_mem_take ht)) ⟨by have := List.length_take_le k ts; omega, hs⟩)
  have h2 : (Pk.vals (ts.take k)).length ≤ k := by unfold Pk.vals; rw [List.length_map]; exact List.length_take_le _ _
  omega

set_option maxHeartbeats 1600000 in
theorem laid_any (B : Nat) (A : Option Addr) (c : Nat) (ts : List Pk.Th) (w : World) (h : IsThings w B A ts) (hB : B ≤ w.heap.size) :
    Calls Try.prog 30 #[.slice A ts.length c] w (LaidPost ts w) := by
  by_cases hbig : 60 < ts.length
  · have HP : Hid (LaidPost ts w (.returned (.tuple #[.slice none 0 0, .bool false])) w) := .inr ⟨fun hf => by have := hf.1; omega, rfl, Below.refl _ _⟩
    go_enter Try.func30, Try.ntmps30
    go_wp2
    go_ret2
    exact HP.out
  · have hok := h.ok
    go_enter Try.func30, Try.ntmps30
    go_wp2_with fail
    go_loopw [4, 5] (fun b i wr => ∃ k : Nat, ∃ A1 : Option Addr, ∃ c1 : Nat, ∃ L : List Nat, k ≤ ts.length ∧ i = .int .i64 k ∧ b = .slice A1 L.length c1 ∧ OwnsB 5 wr w.heap.size A1 c1 L ∧ Below w.heap.size w wr ∧ Hid (L = Pk.encAll (Pk.vals (ts.take k)) ∧ ∀ t ∈ ts.take k, t.small)) (fun _ i _ => ts.length - (intOf i).toNat)
    case atStart => exact ⟨0, none, 0, [], by omega, rfl, rfl, OwnsB.nil _ _ _, Below.refl _ _, ⟨rfl, by simp⟩⟩
    case round =>
      obtain ⟨k, A1, c1, L, hk, rfl, rfl, hown, hbel, hs⟩ := hrel
      have hL : L.length ≤ 492000 := by rw [hs.out.1]; exact enc_take_length ts k (by omega) hs.out.2 hok
      by_cases hlt : k < ts.length
      · obtain ⟨b, off, rfl, hbB, hc⟩ := ((h.more hB).below hbel).cells k hlt
        obtain ⟨ap, cp, al, cl, d0, d1, d2, d3, hp, hl, hcp, hcl, hnp, hnl, hkin, hvin⟩ := hc k hlt
        have hmp : ts[k].p.length ≤ 9223372036854775807 := by have := hcp; unfold maxLen at this; omega
        have hml : ts[k].l.length ≤ 9223372036854775807 := by have := hcl; unfold maxLen at this; omega
        have hk1 := hkin.1
        have hk2 := hkin.2
        have HK := hid hok
        have hv1 := hvin.1
        have hv2 := hvin.2
        clear hc hok
        by_cases hpb : 1024 < ts[k].p.length
        · have HP : Hid (LaidPost ts w (.returned (.tuple #[.slice none 0 0, .bool false])) wr) := .inr ⟨fun hf => by have := (hf.2 ts[k] (List.getElem_mem _)).1; omega, rfl, hbel⟩
          clear hown hbel hp hl
          go_wp2_with fail
          go_ret2
          exact HP.out
        · by_cases hlb : 1024 < ts[k].l.length
          · have HP : Hid (LaidPost ts w (.returned (.tuple #[.slice none 0 0, .bool false])) wr) := .inr ⟨fun hf => by have := (hf.2 ts[k] (List.getElem_mem _)).2; omega, rfl, hbel⟩
            clear hown hbel hp hl
            go_wp2_with fail
            go_ret2
            exact HP.out
          · have hsm : ts[k].small := ⟨by omega, by omega⟩
            have HN := hid (And.intro (vals_snoc ts k hlt) (small_snoc ts k hlt hs.out.2 hsm))
            have hsz := hbel.size
            by_cases e1 : ts[k].kind = 1
            · have HV : Hid (ts[k].val = .blob ts[k].p) := by show _ = _; unfold Pk.Th.val; rw [if_pos e1]
              have t1 : (ts[k].kind == 1) = true := by rw [beq_iff_eq]; exact e1
              have HC := hid (packBlob_any wr.heap.size A1 c1 L w.heap.size ap cp ts[k].p (by omega) wr hown.reads (Nat.le_refl _) hown.capLe.2 hp hsz hnp)
              clear hown hp hl e1
              go_wp2_with fail
              refine HC.out.mono ?_
              rintro e w2 ⟨A2, c2, rfl, hown2, hb2⟩
              have HO : Hid (OwnsB 5 w2 w.heap.size A2 c2 (L ++ (Pk.enc ts[k].p.length ++ ts[k].p)) ∧ Below w.heap.size w w2 ∧ (L ++ (Pk.enc ts[k].p.length ++ ts[k].p) = Pk.encAll (Pk.vals (ts.take (k + 1))) ∧ ∀ t ∈ ts.take (k + 1), t.small) ∧ L.length + 8 + ts[k].p.length = (L ++ (Pk.enc ts[k].p.length ++ ts[k].p)).length) :=
                ⟨hown2.weaken hsz, hbel.trans (hb2.mono hsz), ⟨by rw [HN.out.1, HV.out, hs.out.1]; rfl, HN.out.2⟩, by rw [List.length_append, List.length_append, Pk.enc_length]; omega⟩
              clear hown2 hb2 hbel HC
              go_wp2_with fail
              go_roundw
              case rel => exact ⟨k + 1, A2, c2, _, by omega, by go_num, slice_len HO.out.2.2.2, HO.out.1, HO.out.2.1, HO.out.2.2.1⟩
              case measure => simp [intOf] <;> omega
            · have t1 : (ts[k].kind == 1) = false := by rw [beq_eq_false_iff_ne]; exact e1
              by_cases e2 : ts[k].kind = 2
              · have HV : Hid (ts[k].val = .list ts[k].l) := by show _ = _; unfold Pk.Th.val; rw [if_neg e1, if_pos e2]
                have t2 : (ts[k].kind == 2) = true := by rw [beq_iff_eq]; exact e2
                have HC := hid (packInts_any wr.heap.size A1 c1 L w.heap.size al cl ts[k].l (by omega) wr hown.reads (Nat.le_refl _) hown.capLe.2 hl hsz)
                clear hown hp hl e1 e2
                go_wp2_with fail
                refine HC.out.mono ?_
                rintro e w2 ⟨A2, c2, rfl, hown2, hb2⟩
                have HO : Hid (OwnsB 5 w2 w.heap.size A2 c2 (L ++ (Pk.enc ts[k].l.length ++ Pk.encs ts[k].l)) ∧ Below w.heap.size w w2 ∧ (L ++ (Pk.enc ts[k].l.length ++ Pk.encs ts[k].l) = Pk.encAll (Pk.vals (ts.take (k + 1))) ∧ ∀ t ∈ ts.take (k + 1), t.small) ∧ L.length + 8 + 8 * ts[k].l.length = (L ++ (Pk.enc ts[k].l.length ++ Pk.encs ts[k].l)).length) :=
                  ⟨hown2.weaken hsz, hbel.trans (hb2.mono hsz), ⟨by rw [HN.out.1, HV.out, hs.out.1]; rfl, HN.out.2⟩, by rw [List.length_append, List.length_append, Pk.enc_length, Pk.encs_length]; omega⟩
                clear hown2 hb2 hbel HC
                go_wp2_with fail
                go_roundw
                case rel => exact ⟨k + 1, A2, c2, _, by omega, by go_num, slice_len HO.out.2.2.2, HO.out.1, HO.out.2.1, HO.out.2.2.1⟩
                case measure => simp [intOf] <;> omega
              · have HV : Hid (ts[k].val = .num ts[k].v) := by show _ = _; unfold Pk.Th.val; rw [if_neg e1, if_neg e2]
                have t2 : (ts[k].kind == 2) = false := by rw [beq_eq_false_iff_ne]; exact e2
                have HC := hid (packInt_any wr.heap.size A1 c1 L ts[k].v hvin (by omega) wr hown.reads (Nat.le_refl _) hown.capLe.2)
                clear hown hp hl e1 e2
                go_wp2_with fail
                refine HC.out.mono ?_
                rintro e w2 ⟨A2, c2, rfl, hown2, hb2⟩
                have HO : Hid (OwnsB 5 w2 w.heap.size A2 c2 (L ++ Pk.enc ts[k].v) ∧ Below w.heap.size w w2 ∧ (L ++ Pk.enc ts[k].v = Pk.encAll (Pk.vals (ts.take (k + 1))) ∧ ∀ t ∈ ts.take (k + 1), t.small) ∧ L.length + 8 = (L ++ Pk.enc ts[k].v).length) :=
                  ⟨hown2.weaken hsz, hbel.trans (hb2.mono hsz), ⟨by rw [HN.out.1, HV.out, hs.out.1]; rfl, HN.out.2⟩, by rw [List.length_append, Pk.enc_length]⟩
                clear hown2 hb2 hbel HC
                go_wp2_with fail
                go_roundw
                case rel => exact ⟨k + 1, A2, c2, _, by omega, by go_num, slice_len HO.out.2.2.2, HO.out.1, HO.out.2.1, HO.out.2.2.1⟩
                case measure => simp [intOf] <;> omega
      · obtain rfl : k = ts.length := by omega
        have HP : Hid (LaidPost ts w (.returned (.tuple #[.slice A1 L.length c1, .bool true])) wr) := by
          have h1 := hs.out.1
          have h2 := hs.out.2
          rw [List.take_length] at h1 h2
          subst h1
          exact .inl ⟨⟨by omega, h2⟩, A1, c1, rfl, hown, hbel⟩
        clear hown hbel hok hlt hk
        go_wp2_with fail
        go_ret2
        exact HP.out
end Go.Proofs.Ytdmghnfnmgkigaa
