/- The walk through the function that tells whether entries are many, or their bytes. -/
import Derived.Test.YtmaebemhephcmaaDoorEnts
namespace Go.Proofs.YtmaebemhephcmaaDoor
open Go.RowKit

/-- how many bytes they have -/
def weigh (L : List Rl.En) : Nat := (L.map (fun e => e.d.length)).sum
theorem weigh_take (L : List Rl.En) (k : Nat) (h : k < L.length) : weigh (L.take (k + 1)) = weigh (L.take k) + L[k].d.length := by
  unfold weigh
  rw [List.take_succ_eq_append_getElem h, List.map_append, List.sum_append]; simp
theorem weigh_le (L : List Rl.En) (k : Nat) : weigh (L.take k) ≤ weigh L := by
  conv => rhs; rw [← List.take_append_drop k L]
  unfold weigh
  rw [List.map_append, List.sum_append]; omega
theorem weigh_mem {L : List Rl.En} {e : Rl.En} (h : e ∈ L) : e.d.length ≤ weigh L := by
  induction L with
  | nil => cases h
  | cons a r ih =>
    have e1 : weigh (a :: r) = a.d.length + weigh r := by unfold weigh; simp
    rcases List.mem_cons.1 h with rfl | h
    · omega
    · have := ih h; omega
/-- many entries, or many bytes -/
def big (L : List Rl.En) (n m : Nat) : Bool := decide (n < L.length) || decide (m < weigh L)
theorem big_few {L : List Rl.En} {n : Nat} (h : big L n 65536 = false) : L.length ≤ n ∧ Rl.Few L := by
  unfold big at h
  rw [Bool.or_eq_false_iff, decide_eq_false_iff_not, decide_eq_false_iff_not] at h
  exact ⟨by omega, fun e he => by have := weigh_mem he; omega⟩

set_option maxHeartbeats 800000 in
set_option maxRecDepth 100000 in
theorem big_any (B : Nat) (A : Option Addr) (c n : Nat) (L : List Rl.En) (hn : L.length = n) (p q : Nat) (hp : p ≤ 1000000) (hq : q ≤ 1000000) (w : World) (h : IsEnts w B A L) :
    Calls Tryd.prog 58 #[.slice A n c, .int .i64 (p : Int), .int .i64 (q : Int)] w fun e w' => e = .returned (.bool (big L p q)) ∧ w' = w := by
  subst hn
  by_cases h0 : p < L.length
  · have e : big L p q = true := by simp [big, h0]
    rw [e]
    have h01 : (p : Int) < (L.length : Int) := by omega
    clear e h0 h
    go_enter Tryd.func58, Tryd.ntmps58
    go_wp2
    go_ret
    exact ⟨rfl, rfl⟩
  · have h01 : ¬ (p : Int) < (L.length : Int) := by omega
    have HL := hid h0
    have HH := hid h
    clear h0 h
    go_enter Tryd.func58, Tryd.ntmps58
    go_wp2_with fail
    go_loopw [7, 8] (fun s i wr => ∃ k v : Nat, k ≤ L.length ∧ s = .int .i64 v ∧ i = .int .i64 k ∧ v ≤ q ∧ Hid (v = weigh (L.take k)) ∧ wr = w) (fun _ i _ => L.length - (RowKit.intOf i).toNat)
    case atStart => exact ⟨0, 0, by omega, rfl, rfl, by omega, hid rfl, rfl⟩
    case round =>
      obtain ⟨k, v, hk, rfl, rfl, hv, hS, rfl⟩ := hrel
      by_cases hlt : k < L.length
      · obtain ⟨b, off, rfl, _, hc⟩ := HH.out.cells k hlt
        obtain ⟨Ad, cd, d0, d1, d2, hd, hd2, _⟩ := hc k hlt
        have hk0 : (k : Int) < (L.length : Int) := by omega
        have hw := weigh_take L k hlt
        have hw2 := weigh_le L (k + 1)
        have hw3 := hS.out
        obtain ⟨m, hm⟩ : ∃ m, m = L[k].d.length := ⟨_, rfl⟩
        rw [← hm] at d2 hw
        have HM := hid (And.intro hw (And.intro hw2 hw3))
        clear hc d0 d1 hd hd2 hw hw2 hw3 hm
        by_cases hmq : m ≤ q + 1
        · have hmq0 : (m : Int) ≤ (q : Int) + 1 := by omega
          by_cases hb : q < v + m
          · have HE : Hid (big L p q = true) := hid (by
              obtain ⟨hw, hw2, hw3⟩ := HM.out
              unfold big; rw [Bool.or_eq_true, decide_eq_true_iff, decide_eq_true_iff]; right; omega)
            have hb0 : (q : Int) < (v : Int) + (m : Int) := by omega
            go_wp2_with fail
            go_ret
            rw [HE.out]
            exact ⟨rfl, rfl⟩
          · have HV : Hid (v + m = weigh (L.take (k + 1))) := hid (by obtain ⟨hw, hw2, hw3⟩ := HM.out; omega)
            have hb0 : ¬ (q : Int) < (v : Int) + (m : Int) := by omega
            go_wp2_with fail
            go_roundw
            case rel => exact ⟨k + 1, v + m, by omega, by go_num, by go_num, by omega, HV, trivial⟩
            case measure => simp [RowKit.intOf]; omega
        · have hmq0 : ¬ (m : Int) ≤ (q : Int) + 1 := by omega
          have HE : Hid (big L p q = true) := hid (by
            obtain ⟨hw, hw2, hw3⟩ := HM.out
            unfold big; rw [Bool.or_eq_true, decide_eq_true_iff, decide_eq_true_iff]; right; omega)
          go_wp2_with fail
          go_ret
          rw [HE.out]
          exact ⟨rfl, rfl⟩
      · obtain rfl : k = L.length := by omega
        have HE : Hid (big L p q = false) := hid (by
          have e := hS.out
          rw [List.take_length] at e
          have := HL.out
          unfold big; rw [Bool.or_eq_false_iff, decide_eq_false_iff_not, decide_eq_false_iff_not]; omega)
        clear hS
        go_wp2_with fail
        go_ret
        rw [HE.out]
        exact ⟨rfl, rfl⟩
end Go.Proofs.YtmaebemhephcmaaDoor
