/- A map from sector numbers to values, as a datum. -/
import Derived.Test.YtdgijnolpjaheaaSecMath
import Derived.Maps.OwnSet
import Derived.Lib.SlKeysI
namespace Go.Proofs.Ytdgijnolpjaheaa
namespace Sx
open Go.Maps

/-- an element of the map reads as itself -/
def valR (v : Value) : Option (DataW Value × List MemPlace) := some (.held v, [])
def one (a : Nat) : Option Value → List (Lit × DataW Value)
  | some v => [(.int .i64 (a : Int), .held v)]
  | none => []
def ents (f : Nat → Option Value) : Nat → Nat → List (Lit × DataW Value)
  | _, 0 => []
  | a, n + 1 => one a (f a) ++ ents f (a + 1) n
def mapOf (n : Nat) (f : Nat → Option Value) : DataW Value := .map (ents f 0 n)

theorem same_int (a b : Nat) : (Lit.int .i64 (a : Int)).sameKey (.int .i64 (b : Int)) = decide (a = b) := by
  simp only [Lit.sameKey, true_and]
  exact decide_eq_decide.2 Int.ofNat_inj
theorem before_int (a b : Nat) : (Lit.int .i64 (a : Int)).before (.int .i64 (b : Int)) = decide (a < b) := by
  simp [Lit.before]
theorem ents_cong {f g : Nat → Option Value} : ∀ (a n : Nat), (∀ i, a ≤ i → i < a + n → f i = g i) → ents f a n = ents g a n
  | _, 0, _ => rfl
  | a, n + 1, h => by
    unfold ents
    rw [h a (Nat.le_refl _) (by omega)]
    rw [ents_cong (a + 1) n (fun i h1 h2 => h i (by omega) (by omega))]
theorem ents_none (a n : Nat) : ents (fun _ => none) a n = [] := by
  induction n generalizing a with
  | zero => rfl
  | succ n ih => unfold ents; rw [ih]; rfl
theorem ents_key {f : Nat → Option Value} : ∀ (a n : Nat), ∀ p ∈ ents f a n, ∃ i, a ≤ i ∧ i < a + n ∧ p.1 = .int .i64 (i : Int)
  | _, 0, p, h => by simp [ents] at h
  | a, n + 1, p, h => by
    unfold ents at h
    rcases List.mem_append.1 h with h | h
    · rcases hf : f a with _ | v
      · rw [hf] at h; simp [one] at h
      · rw [hf] at h; simp [one] at h; subst h; exact ⟨a, Nat.le_refl _, by omega, rfl⟩
    · obtain ⟨i, h1, h2, h3⟩ := ents_key (a + 1) n p h
      exact ⟨i, by omega, by omega, h3⟩
theorem any_ents (f : Nat → Option Value) (k : Nat) : ∀ (a n : Nat), (ents f a n).any (fun p => p.1.sameKey (.int .i64 (k : Int))) = (decide (a ≤ k ∧ k < a + n) && (f k).isSome)
  | a, 0 => by simp [ents]; omega
  | a, n + 1 => by
    unfold ents
    rw [List.any_append, any_ents f k (a + 1) n]
    by_cases hk : k = a
    · subst hk
      rcases hf : f k with _ | v
      · simp [one]
      · simp [one, same_int]
    · have h1 : (one a (f a)).any (fun p => p.1.sameKey (.int .i64 (k : Int))) = false := by
        rcases hf : f a with _ | v
        · rfl
        · have : ¬ a = k := fun e => hk e.symm
          simp [one, same_int, this]
      rw [h1, Bool.false_or]
      congr 1
      exact decide_eq_decide.2 ⟨fun h => ⟨by omega, by omega⟩, fun h => ⟨by omega, by omega⟩⟩
theorem has_of (n : Nat) (f : Nat → Option Value) (k : Nat) (h : k < n) : Maps.has (mapOf n f) (.int .i64 (k : Int)) = (f k).isSome := by
  unfold mapOf
  rw [has_eq, any_ents]
  simp [h]
theorem find_ents (f : Nat → Option Value) (k : Nat) : ∀ (a n : Nat), a ≤ k → k < a + n → (ents f a n).find? (fun p => p.1.sameKey (.int .i64 (k : Int))) = (f k).map fun v => (.int .i64 (k : Int), .held v)
  | a, 0, h1, h2 => by omega
  | a, n + 1, h1, h2 => by
    unfold ents
    rw [List.find?_append]
    by_cases hk : k = a
    · subst hk
      rcases hf : f k with _ | v
      · simp only [one, List.find?_nil, Option.none_or, Option.map_none]
        rw [List.find?_eq_none]
        intro p hp
        obtain ⟨i, h3, _, h5⟩ := ents_key (k + 1) n p hp
        rw [h5, same_int]
        simp; omega
      · simp [one, same_int]
    · have h3 : (one a (f a)).find? (fun p => p.1.sameKey (.int .i64 (k : Int))) = none := by
        rcases hf : f a with _ | v
        · rfl
        · have : ¬ a = k := fun e => hk e.symm
          simp [one, same_int, this]
      rw [h3, Option.none_or]
      exact find_ents f k (a + 1) n (by omega) (by omega)
theorem atKey_of (n : Nat) (f : Nat → Option Value) (k : Nat) (h : k < n) (z : Value) : (mapOf n f).atKey (.int .i64 (k : Int)) (.held z) = .held ((f k).getD z) := by
  unfold mapOf DataW.atKey
  simp only
  rw [find_ents f k 0 n (Nat.zero_le _) (by omega)]
  rcases f k with _ | v <;> rfl
theorem insert_before (x : Lit × DataW Value) (l : List (Lit × DataW Value)) (h : ∀ p ∈ l, x.1.before p.1 = true) : DataW.insert x l = x :: l := by
  cases l with
  | nil => rfl
  | cons y r => unfold DataW.insert; rw [h y (List.mem_cons_self)]; rfl
theorem insert_behind (x : Lit × DataW Value) (l m : List (Lit × DataW Value)) (h : ∀ p ∈ l, x.1.before p.1 = false) : DataW.insert x (l ++ m) = l ++ DataW.insert x m := by
  induction l with
  | nil => rfl
  | cons y r ih =>
    rw [List.cons_append]
    conv => lhs; unfold DataW.insert
    rw [h y (List.mem_cons_self)]
    simp only [Bool.false_eq_true, if_false]
    rw [ih (fun p hp => h p (List.mem_cons_of_mem _ hp))]
    rfl
theorem put_ents (f : Nat → Option Value) (k : Nat) (v : Value) : ∀ (a n : Nat), a ≤ k → k < a + n →
    DataW.insert (.int .i64 (k : Int), .held v) ((ents f a n).filter fun p => !p.1.sameKey (.int .i64 (k : Int))) = ents (upd f k (some v)) a n
  | a, 0, h1, h2 => by omega
  | a, n + 1, h1, h2 => by
    unfold ents
    rw [List.filter_append]
    by_cases hk : k = a
    · subst hk
      rw [upd_same]
      have h3 : (ents f (k + 1) n).filter (fun p => !p.1.sameKey (.int .i64 (k : Int))) = ents f (k + 1) n := by
        refine List.filter_eq_self.2 fun p hp => ?_
        obtain ⟨i, h3, _, h5⟩ := ents_key (k + 1) n p hp
        rw [h5, same_int]
        simp; omega
      have h4 : (one k (f k)).filter (fun p => !p.1.sameKey (.int .i64 (k : Int))) = [] := by
        rcases hf : f k with _ | v
        · rfl
        · simp [one, same_int]
      rw [h3, h4, List.nil_append, insert_before]
      · rw [ents_cong (f := upd f k (some v)) (g := f) (k + 1) n (fun i h1 _ => upd_other _ _ _ _ (by omega))]
        rfl
      · intro p hp
        obtain ⟨i, h3, _, h5⟩ := ents_key (k + 1) n p hp
        rw [h5]
        show (Lit.int .i64 (k : Int)).before (.int .i64 (i : Int)) = true
        rw [before_int]
        simp; omega
    · rw [upd_other _ _ _ _ (fun e => hk e.symm)]
      have h4 : (one a (f a)).filter (fun p => !p.1.sameKey (.int .i64 (k : Int))) = (one a (f a)) := by
        rcases hf : f a with _ | v
        · rfl
        · have : ¬ a = k := fun e => hk e.symm
          simp [one, same_int, this]
      rw [h4, insert_behind, put_ents f k v (a + 1) n (by omega) (by omega)]
      intro p hp
      rcases hf : f a with _ | u
      · rw [hf] at hp; simp [one] at hp
      · rw [hf] at hp; simp [one] at hp; subst hp
        show (Lit.int .i64 (k : Int)).before (.int .i64 (a : Int)) = false
        rw [before_int]
        simp; omega
theorem put_of (n : Nat) (f : Nat → Option Value) (k : Nat) (h : k < n) (v : Value) : (mapOf n f).put (.int .i64 (k : Int)) (.held v) = mapOf n (upd f k (some v)) := by
  unfold mapOf DataW.put
  simp only
  rw [put_ents f k v 0 n (Nat.zero_le _) (by omega)]
theorem keys_ents (f : Nat → Option Value) : ∀ (a n : Nat), (ents f a n).map (fun p => Go.intOf p.1) = ((List.range' a n).filter fun i => (f i).isSome).map (fun (i : Nat) => (i : Int))
  | _, 0 => rfl
  | a, n + 1 => by
    unfold ents
    rw [List.map_append, keys_ents f (a + 1) n, List.range'_succ, List.filter_cons]
    rcases hf : f a with _ | v
    · simp [one]
    · simp [one, Go.intOf]
theorem keys_of (n : Nat) (f : Nat → Option Value) : intKeys (mapOf n f) = ((List.range n).filter fun i => (f i).isSome).map (fun (i : Nat) => (i : Int)) := by
  unfold mapOf intKeys
  simp only
  rw [keys_ents, List.range_eq_range']
theorem size_of (n : Nat) (f : Nat → Option Value) : Maps.size (mapOf n f) ≤ n := by
  unfold mapOf
  rw [size_eq]
  have h := congrArg List.length (keys_ents f 0 n)
  rw [List.length_map, List.length_map] at h
  rw [h]
  have := List.length_filter_le (fun i => (f i).isSome) (List.range' 0 n)
  simpa using this
/-- what was collected, sorted -/
theorem sorted_of (n : Nat) (f : Nat → Option Value) {ss : List Int} (h : ss.Perm (intKeys (mapOf n f))) : ss.mergeSort (fun x y => decide (x ≤ y)) = ((List.range n).filter fun i => (f i).isSome).map (fun (i : Nat) => (i : Int)) := by
  have h1 := mergeSort_of_perm_i h
  rw [keys_of] at h1
  refine h1.trans (List.mergeSort_of_pairwise ?_)
  rw [List.pairwise_map]
  refine ((List.pairwise_lt_range (n := n)).filter _).imp fun {a b} hab => ?_
  simp [leI]; omega
end Sx
/-- a bound on the entries, as near as the datum says -/
theorem ownsMap_tight {H : Type} {P : Program} {k : TypeId} {R : Value → Option (DataW H × List MemPlace)} {w : World} {b n m : Nat} {D : DataW H} (h : w.ownsMap P k R b n D) (hm : Maps.size D ≤ m) : w.ownsMap P k R b m D := by
  obtain ⟨es, clock, hb, F, hs, hD⟩ := h
  refine ⟨es, clock, hb, F, ?_, hD⟩
  have : Maps.size D = es.size := by rw [hD]; simp [Maps.size, length_sorted]
  omega
end Go.Proofs.Ytdgijnolpjaheaa
