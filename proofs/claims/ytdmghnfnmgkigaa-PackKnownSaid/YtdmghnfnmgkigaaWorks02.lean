/- The walk through 'works', the example that each statement of layer 2 asks: the byte 7 is put with its length, and read again. -/
import Derived.Test.YtdmghnfnmgkigaaPackPut
import Derived.Test.YtdmghnfnmgkigaaReader3
namespace Go.Proofs.Ytdmghnfnmgkigaa
open Go.RowKit

theorem works_read : Pk.rdBlob ⟨[0, 0, 0, 0, 0, 0, 0, 1, 7], false⟩ = ([7], ⟨[], false⟩) := by rfl
theorem works_put : ([9] : List Nat) ++ (Pk.enc (([7] : List Nat).length : Nat) ++ [7]) = [9, 0, 0, 0, 0, 0, 0, 0, 1, 7] := by rfl

set_option maxHeartbeats 800000 in
theorem works_any (w : World) :
    Calls Try.prog 9 #[] w fun e w' => e = .returned (.bool true) ∧ Below w.heap.size w w' := by
  have hb1 : Below w.heap.size w (w.alloc (.cells #[.int .u8 9] 5)) := (Below.refl _ _).alloc (Nat.le_refl _) _
  have hb2 : Below w.heap.size w ((w.alloc (.cells #[.int .u8 9] 5)).alloc (.cells #[.int .u8 7] 5)) := hb1.alloc hb1.size _
  have h9 : IsBytes ((w.alloc (.cells #[.int .u8 9] 5)).alloc (.cells #[.int .u8 7] 5)) (w.heap.size + 1) (some ⟨w.heap.size, 0, none⟩) [9] :=
    (isBytes_new w [9] (by simp) 5 (0, 0)).below ((Below.refl _ _).alloc (by simp) _)
  have h7 : IsBytes ((w.alloc (.cells #[.int .u8 9] 5)).alloc (.cells #[.int .u8 7] 5)) (w.heap.size + 2) (some ⟨w.heap.size + 1, 0, none⟩) [7] := by
    have h := isBytes_new (w.alloc (.cells #[.int .u8 9] 5)) [7] (by simp) 5 (0, 0)
    have e : (w.alloc (.cells #[.int .u8 9] 5)).heap.size = w.heap.size + 1 := by simp
    rw [e] at h
    exact h
  have HP := hid (packBlob_any (w.heap.size + 1) (some ⟨w.heap.size, 0, none⟩) 1 [9] (w.heap.size + 2) (some ⟨w.heap.size + 1, 0, none⟩) 1 [7] (by simp) _ h9 (by simp) (fun h => by cases h) h7 (by simp) (fun h => by cases h))
  have HB := hid hb2
  clear hb1 hb2 h9 h7
  go_enter Try.func9, Try.ntmps9
  go_wp2_with fail
  refine HP.out.mono ?_
  rintro e w1 ⟨A1, c1, rfl, hown, hbel⟩
  rw [works_put] at hown
  have hb3 : Below w.heap.size w w1 := HB.out.trans (hbel.mono (by simp; omega))
  obtain ⟨g, rfl, _, _, _, _⟩ := hown.at_ (k := 0) (by simp)
  have hcap := hown.cap
  have hcm := hown.capLe.1
  have hrd := hown.reads
  have hsz := hb3.size
  simp only [List.length_cons, List.length_nil] at hcap
  have hb4 : Below w.heap.size w (w1.alloc (.cells #[.int .u8 9, .int .u8 0, .int .u8 0, .int .u8 0, .int .u8 0, .int .u8 0, .int .u8 0, .int .u8 0, .int .u8 1, .int .u8 7] 5)) := hb3.alloc hsz _
  have hrd2 : IsBytes (w1.alloc (.cells #[.int .u8 9, .int .u8 0, .int .u8 0, .int .u8 0, .int .u8 0, .int .u8 0, .int .u8 0, .int .u8 0, .int .u8 1, .int .u8 7] 5)) w1.heap.size (some ⟨g, 0, none⟩) [9, 0, 0, 0, 0, 0, 0, 0, 1, 7] :=
    hrd.below ((Below.refl _ _).alloc (Nat.le_refl _) _)
  have hlit := isBytes_new w1 [9, 0, 0, 0, 0, 0, 0, 0, 1, 7] (by decide) 5 (0, 0)
  have HS := hid (same_any _ _ (some ⟨g, 0, none⟩) (some ⟨w1.heap.size, 0, none⟩) c1 10 [9, 0, 0, 0, 0, 0, 0, 0, 1, 7] [9, 0, 0, 0, 0, 0, 0, 0, 1, 7] (by simp [maxLen]) (by simp [maxLen]) _ hrd2 hlit)
  have hd := hrd2.drop 1 (by simp)
  rw [add_off] at hd
  have HD := hid hd
  have HB4 := hid hb4
  have HSZ := hid hsz
  unfold maxLen at hcm
  clear hbel HP HB hb3 hown hrd hb4 hrd2 hlit hd hsz
  go_wp2_with fail
  refine HS.out.mono ?_
  rintro e w2 ⟨rfl, n, rfl⟩
  go_wp2_with fail
  have h1 : 1 ≤ c1 - 1 := by omega
  refine (read_any w1.heap.size (some ⟨g, 1, none⟩) (c1 - 1) [0, 0, 0, 0, 0, 0, 0, 1, 7] (by simp) _ (HD.out.drewN n) (by simp) (fun h => by cases h)).mono ?_
  rintro e w3 ⟨g2, rfl, hg2, hR, hbel3⟩
  have hb5 : Below w.heap.size w w3 := (below_drewN HB4.out n).trans (hbel3.mono (by have := HB4.out.size; simpa using this))
  have HB5 := hid hb5
  have HR := hid hR
  have HBL := hid (blob_rdr g2 _ w3 hR (by simp))
  clear HS HD hbel3 hb5 HB4 hR
  go_wp2_with fail
  refine HBL.out.mono ?_
  rintro e w4 ⟨A5, c5, rfl, hown5, hR4, hG4⟩
  rw [works_read] at hown5 hR4 ⊢
  dsimp only at hown5 hR4 ⊢
  have hg2lt := HR.out.lt
  have hsz3 := HB5.out.size
  have hsz4 := hG4.size
  have hg2w : w.heap.size ≤ g2 := by have := HSZ.out; simp at hg2; omega
  have hb6 : Below w.heap.size w w4 := HB5.out.grown hG4 hsz3 (fun k hk => by injection hk with hk; omega)
  have hb7 : Below w.heap.size w (w4.alloc (.cells #[.int .u8 7] 5)) := hb6.alloc hb6.size _
  have hrd5 : IsBytes (w4.alloc (.cells #[.int .u8 7] 5)) w4.heap.size A5 [7] := hown5.reads.below ((Below.refl _ _).alloc (Nat.le_refl _) _)
  have hlit := isBytes_new w4 [7] (by simp) 5 (0, 0)
  have HS := hid (same_any _ _ A5 (some ⟨w4.heap.size, 0, none⟩) c5 1 [7] [7] (by simp [maxLen]) (by simp [maxLen]) _ hrd5 hlit)
  have hR5 : Rdr (w4.alloc (.cells #[.int .u8 7] 5)) g2 ⟨[], false⟩ := hR4.below ((Below.refl _ _).alloc (by have := hR4.lt; omega) _)
  have HR5 := hid hR5
  have HB7 := hid hb7
  clear hb6 hb7 hrd5 hlit hR5 hown5 hR4 hG4 HR HB5 hg2lt hsz3 hsz4
  go_wp2_with fail
  refine HS.out.mono ?_
  rintro e w5 ⟨rfl, n2, rfl⟩
  have hR6 := HR5.out.drewN n2
  have HL := hid (left_rdr g2 _ _ hR6)
  have HE := hid (end_rdr g2 _ _ hR6)
  have hd7 : decide (([7] : List Nat) = [7]) = true := by decide
  clear hR6
  go_wp2_with fail
  refine HL.out.mono ?_
  rintro e w6 ⟨rfl, rfl⟩
  go_wp2_with fail
  refine HE.out.mono ?_
  rintro e w6 ⟨rfl, rfl⟩
  have he0 : endOf ⟨[], false⟩ = 0 := rfl
  rw [he0]
  go_wp2_with fail
  go_ret
  exact ⟨rfl, below_drewN HB7.out n2⟩
end Go.Proofs.Ytdmghnfnmgkigaa
