/- The walks through bytes.Equal, bytes.HasPrefix, and what a journal makes of a sector's bytes. -/
import Derived.Test.YtomnbaeokmpobaaJoA
import Derived.Laws.BytesArg
import Derived.Lib.Bytes
namespace Go.Proofs.Ytomnbaeokmpobaa
open Go.RowKit

namespace J
def strB (l : List Nat) : ByteArray := strOfNums (l.map fun (x : Nat) => (x : Int))
theorem strB_dec {l m : List Nat} (hl : ∀ x ∈ l, x < 256) (hm : ∀ x ∈ m, x < 256) : ((strB l).toList == (strB m).toList) = decide (l = m) := by
  have e : ∀ k : List Nat, (∀ x ∈ k, x < 256) → (strB k).toList.map UInt8.toNat = k := fun k hk => by
    unfold strB
    rw [Lib.strOfNums_toList]
    unfold Lib.bytesOf
    rw [List.map_map, List.map_map]
    conv => rhs; rw [← List.map_id k]
    apply List.map_congr_left
    intro x hx
    have := hk x hx
    simp [Function.comp, Nat.mod_eq_of_lt this]
  by_cases h : l = m
  · subst h; simp
  · rw [decide_eq_false h, beq_eq_false_iff_ne]
    intro hh
    have := congrArg (List.map UInt8.toNat) hh
    rw [e l hl, e m hm] at this
    exact h this
theorem conv_str (B : Nat) (A : Option Addr) (c : Nat) (l : List Nat) (n : Nat) (hn : l.length = n) (w : World) (h : IsBytes w B A l) :
    (convert 43 9 (.slice A n c)).run Try.prog w = .ok (.string (strB l)) w := by
  have hs : Try.prog.underlying 9 = some .string := by kernel_rfl
  rcases l with _ | ⟨x, l⟩
  · subst hn
    rcases A with _ | a
    · exact run_convert_bytes_nil w 43 5 Try.underlying43 Try.underlying5 _ _ _ hs
    · rw [List.length_nil]
      rw [run_convert_bytes_string w 43 9 5 _ _ c Try.underlying43 Try.underlying5 hs, run_bytesToString w a 0 c [] (run_loadCells_list (P := Try.prog) w a [] (fun j v hj => by simp at hj))]
      rfl
  · obtain ⟨b, off, rfl, _, hc⟩ := h.cells 0 (by simp)
    refine run_convert_bytes_arg w 43 5 Try.underlying43 Try.underlying5 b off n c _ (by simp [← hn]) (fun i hi => ?_) _ hs
    have hi' : i < (x :: l).length := by omega
    rw [hc i hi', List.getD_eq_getElem?_getD, List.getElem?_map, List.getElem?_eq_getElem hi']
    rfl
theorem equal_any (B B' : Nat) (A A' : Option Addr) (c c' : Nat) (l m : List Nat) (n k : Nat) (hn : l.length = n) (hk : m.length = k) (w : World) (h : IsBytes w B A l) (h' : IsBytes w B' A' m) :
    Calls Try.prog 45 #[.slice A n c, .slice A' k c'] w fun e w' => e = .returned (.bool (decide (l = m))) ∧ w' = w := by
  have h1 := conv_str B A c l n hn w h
  have h2 := conv_str B' A' c' m k hk w h'
  have HD := hid (strB_dec h.small h'.small)
  clear h h'
  go_enter Try.func45, Try.ntmps45
  go_wp2
  go_ret
  rw [← HD.out]
  exact ⟨rfl, rfl⟩
set_option maxRecDepth 100000 in
theorem prefix_any (B B' : Nat) (A A' : Option Addr) (c c' : Nat) (l m : List Nat) (n k : Nat) (hn : l.length = n) (hk : m.length = k) (hc : n ≤ c) (hc2 : c ≤ maxLen) (hz : A = none → c = 0) (w : World) (h : IsBytes w B A l) (h' : IsBytes w B' A' m) :
    Calls Try.prog 37 #[.slice A n c, .slice A' k c'] w fun e w' => e = .returned (.bool (decide (m <+: l))) ∧ w' = w := by
  unfold maxLen at hc2
  by_cases hle : k ≤ n
  · have HP : Hid (decide (m <+: l) = decide (l.take k = m)) := hid (by
      apply decide_eq_decide.2
      rw [List.prefix_iff_eq_take, hk]
      exact ⟨Eq.symm, Eq.symm⟩)
    have HQ := hid (equal_any B B' A A' c c' (l.take k) m k k (by rw [List.length_take]; omega) hk w (h.take k) h')
    rw [HP.out]
    clear HP
    rcases A with _ | ad
    · obtain rfl := hz rfl
      obtain rfl : n = 0 := by omega
      obtain rfl : k = 0 := by omega
      clear h h'
      go_enter Try.func37, Try.ntmps37
      go_wp2_with fail
      refine HQ.out.mono ?_
      rintro e w' ⟨rfl, rfl⟩
      go_wp2
      go_ret
      exact ⟨by simp, rfl⟩
    · clear h h'
      have hkc : k ≤ c := by omega
      go_enter Try.func37, Try.ntmps37
      go_wp2_with fail
      refine HQ.out.mono ?_
      rintro e w' ⟨rfl, rfl⟩
      go_wp2
      go_ret
      exact ⟨rfl, rfl⟩
  · have HP : Hid (decide (m <+: l) = false) := hid (decide_eq_false (fun hp => by have := hp.length_le; omega))
    rw [HP.out]
    clear h h'
    go_enter Try.func37, Try.ntmps37
    go_wp2
    go_ret
    exact ⟨rfl, rfl⟩
end J
end Go.Proofs.Ytomnbaeokmpobaa
