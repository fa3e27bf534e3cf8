/- Texts of the proof, one behind the other: MapOf, KitEq, Turned, Disk, DiskA, DiskB. -/
import Derived.Test.YtdgijnolpjaheaaPartAA
import Derived.Maps.OwnSet
import Derived.Lib.SlKeysI
import Derived.Test.YtdgijnolpjaheaaRows
import Derived.Deep.QuietTactic
import Derived.BigQuiet
import Derived.Lib.SliceRun
namespace Go.Proofs.Ytdgijnolpjaheaa
namespace Sx
open Go.Maps

/-- an element of the map reads as itself -/
def valR (v : Value) : Option (DataW Value × List MemPlace) := some (.held v, [])
def one (a : Nat) : Option Value → List (Lit × DataW Value)
  | some v => [(.int .i64 (a : Int), .held v)]
  | none => []
def ents (f : Nat → Option Value) : Nat → Nat → List (Lit × DataW Value)
  | _, 0 => []
  | a, n + 1 => one a (f a) ++ ents f (a + 1) n
def mapOf (n : Nat) (f : Nat → Option Value) : DataW Value := .map (ents f 0 n)

theorem same_int (a b : Nat) : (Lit.int .i64 (a : Int)).sameKey (.int .i64 (b : Int)) = decide (a = b) := by
  simp only [Lit.sameKey, true_and]
  exact decide_eq_decide.2 Int.ofNat_inj
theorem before_int (a b : Nat) : (Lit.int .i64 (a : Int)).before (.int .i64 (b : Int)) = decide (a < b) := by
  simp [Lit.before]
theorem ents_cong {f g : Nat → Option Value} : ∀ (a n : Nat), (∀ i, a ≤ i → i < a + n → f i = g i) → ents f a n = ents g a n
  | _, 0, _ => rfl
  | a, n + 1, h => by
    unfold ents
    rw [h a (Nat.le_refl _) (by omega)]
    rw [ents_cong (a + 1) n (fun i h1 h2 => h i (by omega) (by omega))]
theorem ents_none (a n : Nat) : ents (fun _ => none) a n = [] := by
  induction n generalizing a with
  | zero => rfl
  | succ n ih => unfold ents; rw [ih]; rfl
theorem ents_key {f : Nat → Option Value} : ∀ (a n : Nat), ∀ p ∈ ents f a n, ∃ i, a ≤ i ∧ i < a + n ∧ p.1 = .int .i64 (i : Int)
  | _, 0, p, h => by simp [ents] at h
  | a, n + 1, p, h => by
    unfold ents at h
    rcases List.mem_append.1 h with h | h
    · rcases hf : f a with _ | v
      · rw [hf] at h; simp [one] at h
      · rw [hf] at h; simp [one] at h; subst h; exact ⟨a, Nat.le_refl _, by omega, rfl⟩
    · obtain ⟨i, h1, h2, h3⟩ := ents_key (a + 1) n p h
      exact ⟨i, by omega, by omega, h3⟩
theorem any_ents (f : Nat → Option Value) (k : Nat) : ∀ (a n : Nat), (ents f a n).any (fun p => p.1.sameKey (.int .i64 (k : Int))) = (decide (a ≤ k ∧ k < a + n) && (f k).isSome)
  | a, 0 => by simp [ents]; omega
  | a, n + 1 => by
    unfold ents
    rw [List.any_append, any_ents f k (a + 1) n]
    by_cases hk : k = a
    · subst hk
      rcases hf : f k with _ | v
      · simp [one]
      · simp [one, same_int]
    · have h1 : (one a (f a)).any (fun p => p.1.sameKey (.int .i64 (k : Int))) = false := by
        rcases hf : f a with _ | v
        · rfl
        · have : ¬ a = k := fun e => hk e.symm
          simp [one, same_int, this]
      rw [h1, Bool.false_or]
      congr 1
      exact decide_eq_decide.2 ⟨fun h => ⟨by omega, by omega⟩, fun h => ⟨by omega, by omega⟩⟩
theorem has_of (n : Nat) (f : Nat → Option Value) (k : Nat) (h : k < n) : Maps.has (mapOf n f) (.int .i64 (k : Int)) = (f k).isSome := by
  unfold mapOf
  rw [has_eq, any_ents]
  simp [h]
theorem find_ents (f : Nat → Option Value) (k : Nat) : ∀ (a n : Nat), a ≤ k → k < a + n → (ents f a n).find? (fun p => p.1.sameKey (.int .i64 (k : Int))) = (f k).map fun v => (.int .i64 (k : Int), .held v)
  | a, 0, h1, h2 => by omega
  | a, n + 1, h1, h2 => by
    unfold ents
    rw [List.find?_append]
    by_cases hk : k = a
    · subst hk
      rcases hf : f k with _ | v
      · simp only [one, List.find?_nil, Option.none_or, Option.map_none]
        rw [List.find?_eq_none]
        intro p hp
        obtain ⟨i, h3, _, h5⟩ := ents_key (k + 1) n p hp
        rw [h5, same_int]
        simp; omega
      · simp [one, same_int]
    · have h3 : (one a (f a)).find? (fun p => p.1.sameKey (.int .i64 (k : Int))) = none := by
        rcases hf : f a with _ | v
        · rfl
        · have : ¬ a = k := fun e => hk e.symm
          simp [one, same_int, this]
      rw [h3, Option.none_or]
      exact find_ents f k (a + 1) n (by omega) (by omega)
theorem atKey_of (n : Nat) (f : Nat → Option Value) (k : Nat) (h : k < n) (z : Value) : (mapOf n f).atKey (.int .i64 (k : Int)) (.held z) = .held ((f k).getD z) := by
  unfold mapOf DataW.atKey
  simp only
  rw [find_ents f k 0 n (Nat.zero_le _) (by omega)]
  rcases f k with _ | v <;> rfl
theorem insert_before (x : Lit × DataW Value) (l : List (Lit × DataW Value)) (h : ∀ p ∈ l, x.1.before p.1 = true) : DataW.insert x l = x :: l := by
  cases l with
  | nil => rfl
  | cons y r => unfold DataW.insert; rw [h y (List.mem_cons_self)]; rfl
theorem insert_behind (x : Lit × DataW Value) (l m : List (Lit × DataW Value)) (h : ∀ p ∈ l, x.1.before p.1 = false) : DataW.insert x (l ++ m) = l ++ DataW.insert x m := by
  induction l with
  | nil => rfl
  | cons y r ih =>
    rw [List.cons_append]
    conv => lhs; unfold DataW.insert
    rw [h y (List.mem_cons_self)]
    simp only [Bool.false_eq_true, if_false]
    rw [ih (fun p hp => h p (List.mem_cons_of_mem _ hp))]
    rfl
theorem put_ents (f : Nat → Option Value) (k : Nat) (v : Value) : ∀ (a n : Nat), a ≤ k → k < a + n →
    DataW.insert (.int .i64 (k : Int), .held v) ((ents f a n).filter fun p => !p.1.sameKey (.int .i64 (k : Int))) = ents (upd f k (some v)) a n
  | a, 0, h1, h2 => by omega
  | a, n + 1, h1, h2 => by
    unfold ents
    rw [List.filter_append]
    by_cases hk : k = a
    · subst hk
      rw [upd_same]
      have h3 : (ents f (k + 1) n).filter (fun p => !p.1.sameKey (.int .i64 (k : Int))) = ents f (k + 1) n := by
        refine List.filter_eq_self.2 fun p hp => ?_
        obtain ⟨i, h3, _, h5⟩ := ents_key (k + 1) n p hp
        rw [h5, same_int]
        simp; omega
      have h4 : (one k (f k)).filter (fun p => !p.1.sameKey (.int .i64 (k : Int))) = [] := by
        rcases hf : f k with _ | v
        · rfl
        · simp [one, same_int]
      rw [h3, h4, List.nil_append, insert_before]
      · rw [ents_cong (f := upd f k (some v)) (g := f) (k + 1) n (fun i h1 _ => upd_other _ _ _ _ (by omega))]
        rfl
      · intro p hp
        obtain ⟨i, h3, _, h5⟩ := ents_key (k + 1) n p hp
        rw [h5]
        show (Lit.int .i64 (k : Int)).before (.int .i64 (i : Int)) = true
        rw [before_int]
        simp; omega
    · rw [upd_other _ _ _ _ (fun e => hk e.symm)]
      have h4 : (one a (f a)).filter (fun p => !p.1.sameKey (.int .i64 (k : Int))) = (one a (f a)) := by
        rcases hf : f a with _ | v
        · rfl
        · have : ¬ a = k := fun e => hk e.symm
          simp [one, same_int, this]
      rw [h4, insert_behind, put_ents f k v (a + 1) n (by omega) (by omega)]
      intro p hp
      rcases hf : f a with _ | u
      · rw [hf] at hp; simp [one] at hp
      · rw [hf] at hp; simp [one] at hp; subst hp
        show (Lit.int .i64 (k : Int)).before (.int .i64 (a : Int)) = false
        rw [before_int]
        simp; omega
theorem put_of (n : Nat) (f : Nat → Option Value) (k : Nat) (h : k < n) (v : Value) : (mapOf n f).put (.int .i64 (k : Int)) (.held v) = mapOf n (upd f k (some v)) := by
  unfold mapOf DataW.put
  simp only
  rw [put_ents f k v 0 n (Nat.zero_le _) (by omega)]
theorem keys_ents (f : Nat → Option Value) : ∀ (a n : Nat), (ents f a n).map (fun p => Go.intOf p.1) = ((List.range' a n).filter fun i => (f i).isSome).map (fun (i : Nat) => (i : Int))
  | _, 0 => rfl
  | a, n + 1 => by
    unfold ents
    rw [List.map_append, keys_ents f (a + 1) n, List.range'_succ, List.filter_cons]
    rcases hf : f a with _ | v
    · simp [one]
    · simp [one, Go.intOf]
theorem keys_of (n : Nat) (f : Nat → Option Value) : intKeys (mapOf n f) = ((List.range n).filter fun i => (f i).isSome).map (fun (i : Nat) => (i : Int)) := by
  unfold mapOf intKeys
  simp only
  rw [keys_ents, List.range_eq_range']
theorem size_of (n : Nat) (f : Nat → Option Value) : Maps.size (mapOf n f) ≤ n := by
  unfold mapOf
  rw [size_eq]
  have h := congrArg List.length (keys_ents f 0 n)
  rw [List.length_map, List.length_map] at h
  rw [h]
  have := List.length_filter_le (fun i => (f i).isSome) (List.range' 0 n)
  simpa using this
/-- what was collected, sorted -/
theorem sorted_of (n : Nat) (f : Nat → Option Value) {ss : List Int} (h : ss.Perm (intKeys (mapOf n f))) : ss.mergeSort (fun x y => decide (x ≤ y)) = ((List.range n).filter fun i => (f i).isSome).map (fun (i : Nat) => (i : Int)) := by
  have h1 := mergeSort_of_perm_i h
  rw [keys_of] at h1
  refine h1.trans (List.mergeSort_of_pairwise ?_)
  rw [List.pairwise_map]
  refine ((List.pairwise_lt_range (n := n)).filter _).imp fun {a b} hab => ?_
  simp [leI]; omega
end Sx
/-- a bound on the entries, as near as the datum says -/
theorem ownsMap_tight {H : Type} {P : Program} {k : TypeId} {R : Value → Option (DataW H × List MemPlace)} {w : World} {b n m : Nat} {D : DataW H} (h : w.ownsMap P k R b n D) (hm : Maps.size D ≤ m) : w.ownsMap P k R b m D := by
  obtain ⟨es, clock, hb, F, hs, hD⟩ := h
  refine ⟨es, clock, hb, F, ?_, hD⟩
  have : Maps.size D = es.size := by rw [hD]; simp [Maps.size, length_sorted]
  omega
end Go.Proofs.Ytdgijnolpjaheaa
namespace Go.Proofs.Ytdgijnolpjaheaa
open Go.RowKit

theorem take_succ_eq (l m : List Nat) (k : Nat) (h1 : k < l.length) (h2 : k < m.length) (h : l.take k = m.take k) (he : l[k] = m[k]) : l.take (k + 1) = m.take (k + 1) := by
  rw [List.take_succ_eq_append_getElem h1, List.take_succ_eq_append_getElem h2, h, he]

set_option maxHeartbeats 400000 in
theorem same_any (B B' : Nat) (A A' : Option Addr) (c c' : Nat) (l m : List Nat) (hl : l.length ≤ maxLen) (hm : m.length ≤ maxLen) (w : World) (h : IsBytes w B A l) (h' : IsBytes w B' A' m) :
    Calls Try.prog 18 #[.slice A l.length c, .slice A' m.length c'] w fun e w' => e = .returned (.bool (decide (l = m))) ∧ ∃ n, w' = w.drewN n := by
  unfold maxLen at hl hm
  by_cases hne : l.length = m.length
  · have hb : ((l.length : Int) != (m.length : Int)) = false := by rw [bne_eq_false_iff_eq]; omega
    have HN := hid hne
    clear hne
    go_enter Try.func18, Try.ntmps18
    go_wp2
    go_loopw [5] (fun i wr => ∃ k n : Nat, k ≤ l.length ∧ i = .int .i64 k ∧ wr = w.drewN n ∧ Hid (l.take k = m.take k)) (fun i _ => l.length - (RowKit.intOf i).toNat)
    case atStart => exact ⟨0, 0, by omega, rfl, rfl, hid rfl⟩
    case round =>
      obtain ⟨k, n, hk, rfl, rfl, hs⟩ := hrel
      by_cases hlt : k < l.length
      · have hlt' : k < m.length := by have := HN.out; omega
        obtain ⟨b, off, rfl, _, hc⟩ := h.cells k hlt
        obtain ⟨b', off', rfl, _, hc'⟩ := h'.cells k hlt'
        have hck := hc k hlt
        have hck' := hc' k hlt'
        clear hc hc'
        by_cases he : l[k] = m[k]
        · have hbe : (((l[k] : Nat) : Int) != ((m[k] : Nat) : Int)) = false := by rw [bne_eq_false_iff_eq]; omega
          have HE := hid he
          clear he
          go_wp2
          go_quiet (fail)
          go_wp2
          go_roundw
          case rel => exact ⟨k + 1, _, by omega, by go_num, rfl, hid (take_succ_eq l m k hlt hlt' hs.out HE.out)⟩
          case measure => simp [RowKit.intOf]; omega
        · have hbe : (((l[k] : Nat) : Int) != ((m[k] : Nat) : Int)) = true := by rw [bne_iff_ne]; omega
          have hfin : decide (l = m) = false := by
            rw [decide_eq_false_iff_not]; rintro rfl; exact he rfl
          have HF := hid hfin
          clear he hfin
          go_wp2
          go_quiet (fail)
          go_wp2
          go_ret
          exact ⟨by rw [HF.out]; rfl, _, by rw [World.drewN_drewN]⟩
      · obtain rfl : k = l.length := by omega
        have hfin : decide (l = m) = true := by
          rw [decide_eq_true_iff]
          have e := hs.out
          rw [List.take_length, HN.out, List.take_length] at e
          exact e
        have HF := hid hfin
        clear hfin
        go_wp2
        go_ret
        exact ⟨by rw [HF.out]; rfl, _, rfl⟩
  · have hb : ((l.length : Int) != (m.length : Int)) = true := by rw [bne_iff_ne]; omega
    have hfin : decide (l = m) = false := by
      rw [decide_eq_false_iff_not]; rintro rfl; exact hne rfl
    have HF := hid hfin
    clear hfin hne
    go_enter Try.func18, Try.ntmps18
    go_wp2
    go_ret
    exact ⟨by rw [HF.out]; rfl, 0, rfl⟩
theorem info_u8 : (Try.prog.info? 5).map (fun i => (i.zero, i.size, i.bytes)) = some (some (.int .u8 0), 1, 1) := by kernel_rfl

theorem bytes_snoc (l : List Nat) (k : Nat) (h : k < l.length) : bytes (l.take k) ++ [Value.int .u8 (l[k] : Nat)] = bytes (l.take (k + 1)) := by
  unfold bytes; rw [List.take_succ_eq_append_getElem h, List.map_append]; rfl
theorem same_N (B B' : Nat) (A A' : Option Addr) (c c' : Nat) (l m : List Nat) (n k : Nat) (hn : l.length = n) (hk : m.length = k) (hl : n ≤ maxLen) (hm : k ≤ maxLen) (w : World) (h : IsBytes w B A l) (h' : IsBytes w B' A' m) :
    Calls Try.prog 18 #[.slice A n c, .slice A' k c'] w fun e w' => e = .returned (.bool (decide (l = m))) ∧ ∃ j, w' = w.drewN j := by
  subst hn; subst hk; exact same_any B B' A A' c c' l m hl hm w h h'
/-- two lists that are the same -/
theorem same_T (B B' : Nat) (A A' : Option Addr) (c c' : Nat) (l : List Nat) (n : Nat) (hn : l.length = n) (hl : n ≤ maxLen) (w : World) (h : IsBytes w B A l) (h' : IsBytes w B' A' l) :
    Calls Try.prog 18 #[.slice A n c, .slice A' n c'] w fun e w' => e = .returned (.bool true) ∧ ∃ j, w' = w.drewN j :=
  (same_N B B' A A' c c' l l n n hn hn hl hl w h h').mono fun _ _ ⟨h1, h2⟩ => ⟨by rw [h1, decide_eq_true rfl], h2⟩
end Go.Proofs.Ytdgijnolpjaheaa
namespace Go.Proofs.Ytdgijnolpjaheaa
open Go.RowKit

/-- of the blocks that there were none but those of S has turned -/
structure Turned (S : Nat → Prop) (w w' : World) : Prop where
  os : w'.os = w.os
  tape : w'.tape = w.tape
  output : w'.output = w.output
  size : w.heap.size ≤ w'.heap.size
  block : ∀ k, k < w.heap.size → ¬ S k → w'.heap[k]? = w.heap[k]?
namespace Turned
variable {S S' : Nat → Prop} {a b c w w' : World}
theorem refl (S : Nat → Prop) (w : World) : Turned S w w := ⟨rfl, rfl, rfl, Nat.le_refl _, fun _ _ _ => rfl⟩
theorem then_ (h : Turned S a b) (h' : Turned S' b c) (hs : ∀ k, k < a.heap.size → S' k → S k) : Turned S a c :=
  ⟨h'.os.trans h.os, h'.tape.trans h.tape, h'.output.trans h.output, Nat.le_trans h.size h'.size, fun k hk hn => (h'.block k (Nat.lt_of_lt_of_le hk h.size) (fun e => hn (hs k hk e))).trans (h.block k hk hn)⟩
theorem trans (h : Turned S a b) (h' : Turned S b c) : Turned S a c := h.then_ h' (fun _ _ h => h)
theorem mono (h : Turned S a b) (hs : ∀ k, S k → S' k) : Turned S' a b := ⟨h.os, h.tape, h.output, h.size, fun k hk hn => h.block k hk (fun e => hn (hs k e))⟩
theorem ofBelow (S : Nat → Prop) (h : Below a.heap.size a b) : Turned S a b := ⟨h.os, h.tape, h.output, h.size, fun k hk _ => h.block k hk⟩
theorem ofBelowB (S : Nat → Prop) {B : Nat} (h : Below B a b) (hs : ∀ k, B ≤ k → k < a.heap.size → S k) : Turned S a b :=
  ⟨h.os, h.tape, h.output, h.size, fun k hk hn => h.block k (by by_cases hb : k < B; exact hb; exact absurd (hs k (by omega) hk) hn)⟩
theorem ofGrown {row : Option Nat} (h : a.grownBy b row) (hs : ∀ k, row = some k → S k) : Turned S a b := ⟨h.os, h.tape, h.output, h.size, fun k hk hn => h.block k hk (fun e => hn (hs k e.symm))⟩
theorem drewN (h : Turned S a b) (n : Nat) : Turned S a (b.drewN n) := ⟨h.os, h.tape, h.output, h.size, h.block⟩
theorem drew (h : Turned S a b) : Turned S a b.drew := ⟨h.os, h.tape, h.output, h.size, h.block⟩
theorem ofDrewN (S : Nat → Prop) (a : World) (n : Nat) : Turned S a (a.drewN n) := (refl S a).drewN n
theorem alloc (h : Turned S a b) (o : Obj) : Turned S a (b.alloc o) := h.then_ (S' := S) (ofGrown (World.grownBy_alloc b o none) (fun k e => by cases e)) (fun _ _ h => h)
theorem setCell (h : Turned S a b) (g k : Nat) (u : Value) (hg : g < a.heap.size → S g) : Turned S a (b.setCell ⟨g, k, none⟩ u) :=
  h.then_ (S' := fun j => j = g) (ofGrown (grown_setCell b g k u) (fun j e => by injection e with e; exact e.symm)) (fun j hj e => by subst e; exact hg hj)
theorem one (w : World) (g k : Nat) (u : Value) : Turned (fun j => j = g) w (w.setCell ⟨g, k, none⟩ u) := ofGrown (grown_setCell w g k u) (fun j e => by injection e with e; exact e.symm)
theorem two (w : World) (g k k' : Nat) (u u' : Value) : Turned (fun j => j = g) w ((w.setCell ⟨g, k, none⟩ u).setCell ⟨g, k', none⟩ u') := (one w g k u).trans (one _ g k' u')
theorem three (w : World) (g k k' k'' : Nat) (u u' u'' : Value) : Turned (fun j => j = g) w (((w.setCell ⟨g, k, none⟩ u).setCell ⟨g, k', none⟩ u').setCell ⟨g, k'', none⟩ u'') := (two w g k k' u u').trans (one _ g k'' u'')
theorem below {B : Nat} (h : Turned S a b) (hB : B ≤ a.heap.size) (hs : ∀ k, S k → B ≤ k) : Below B a b :=
  ⟨h.os, h.tape, h.output, h.size, fun k hk => h.block k (by omega) (fun e => by have := hs k e; omega)⟩
theorem cell (h : Turned S a b) {p : Addr} (hp : p.block < a.heap.size) (hn : ¬ S p.block) : b.cell? p = a.cell? p := World.cell?_of_block (h.block p.block hp hn)
end Turned

theorem ownsRow_turned {w w' : World} {Z : Nat → Prop} {base : Nat} {e : TypeId} {size n : Nat} {v : Value} {xs : List Value} (h : w.ownsRow base e size v n xs) (ht : Turned Z w w') (ho : ∀ k, v.ownBlock = some k → ¬ Z k) : w'.ownsRow base e size v n xs := by
  refine ⟨h.1, ?_⟩
  rcases h.2 with h0 | ⟨g, cap, cur, h1, h2, h3, h4⟩
  · exact .inl h0
  · refine .inr ⟨g, cap, cur, h1, h2, ?_, h4⟩
    rw [ht.block g (Array.getElem?_eq_some_iff.1 h3).1 (ho g (by rw [h1]; rfl))]
    exact h3
end Go.Proofs.Ytdgijnolpjaheaa
namespace Go.Proofs.Ytdgijnolpjaheaa
open Go.RowKit

/-- A slice of bytes of the call's own, that lies in no block of Z. -/
structure OwnsZ (w : World) (Z : Nat → Prop) (A : Option Addr) (c : Nat) (l : List Nat) : Prop where
  own : OwnsB 5 w 0 A c l
  off : ∀ k, blk A = some k → ¬ Z k
namespace OwnsZ
variable {w w' : World} {Z Z' : Nat → Prop} {A : Option Addr} {c : Nat} {l : List Nat}
theorem lt (h : OwnsZ w Z A c l) : ∀ k, blk A = some k → k < w.heap.size := fun k hk => (h.own.blkLt k hk).2
theorem keep (h : OwnsZ w Z A c l) (ht : Turned Z w w') : OwnsZ w' Z A c l := by
  refine ⟨⟨h.own.small, h.own.row.1, ?_⟩, h.off⟩
  rcases h.own.row.2 with h0 | ⟨g, cap, cur, h1, h2, h3, h4⟩
  · exact .inl h0
  · refine .inr ⟨g, cap, cur, h1, h2, ?_, h4⟩
    have hA : A = some ⟨g, 0, none⟩ := by injection h1
    rw [ht.block g (Array.getElem?_eq_some_iff.1 h3).1 (h.off g (by rw [hA]; rfl))]
    exact h3
theorem mono (h : OwnsZ w Z A c l) (hz : ∀ k, Z' k → Z k) : OwnsZ w Z' A c l := ⟨h.own, fun k hk e => h.off k hk (hz k e)⟩
theorem shun (h : OwnsZ w Z A c l) : OwnsZ w (fun k => Z k ∨ w.heap.size ≤ k) A c l := ⟨h.own, fun k hk e => e.elim (h.off k hk) (fun e => by have := h.lt k hk; omega)⟩
theorem shunTag (h : OwnsZ w Z A c l) {g : Nat} {o : Obj} (hg : w.heap[g]? = some o) (ho : ∀ cur, o ≠ .cells cur 5 (0, 0)) : OwnsZ w (fun k => Z k ∨ k = g) A c l := by
  refine ⟨h.own, fun k hk e => e.elim (h.off k hk) (fun e => ?_)⟩
  subst e
  rcases h.own.row.2 with ⟨h0, _⟩ | ⟨g, cap, cur, h1, h2, h3, h4⟩
  · injection h0 with h0; rw [h0] at hk; cases hk
  · have hA : A = some ⟨g, 0, none⟩ := by injection h1
    rw [hA] at hk
    injection hk with hk
    have hk' : g = k := hk
    subst hk'
    rw [h3] at hg
    injection hg with hg
    exact ho cur hg.symm
theorem of {base : Nat} (h : OwnsB 5 w base A c l) : OwnsZ w (fun k => k < base) A c l := ⟨h.weaken (Nat.zero_le _), fun k hk e => by have := (h.blkLt k hk).1; omega⟩
theorem nil (w : World) (Z : Nat → Prop) : OwnsZ w Z none 0 [] := ⟨OwnsB.nil _ _ _, fun k h => by cases h⟩
theorem reads (h : OwnsZ w Z A c l) : IsBytes w w.heap.size A l := h.own.reads
theorem drewN (h : OwnsZ w Z A c l) (n : Nat) : OwnsZ (w.drewN n) Z A c l := ⟨h.own.drewN n, h.off⟩
end OwnsZ

/-- where a disk lies: itself, its sectors' row, its map -/
structure Dk where
  g : Nat
  h : Nat
  m : Nat
def Dk.has (d : Dk) (k : Nat) : Prop := k = d.g ∨ k = d.h ∨ k = d.m

/-- what the map has for a sector -/
def ElemAt (w : World) (Z : Nat → Prop) : Option Value → Option (List Nat) → Prop
  | none, none => True
  | some v, some l => l.length ≤ 64 ∧ ∃ A c, v = .slice A l.length c ∧ OwnsZ w Z A c l
  | _, _ => False
theorem ElemAt.imp {w w' : World} {Z Z' : Nat → Prop} {o : Option Value} {l : Option (List Nat)} (h : ElemAt w Z o l) (hi : ∀ A c l, OwnsZ w Z A c l → OwnsZ w' Z' A c l) : ElemAt w' Z' o l := by
  rcases o with _ | v <;> rcases l with _ | l
  · trivial
  · exact h
  · exact h
  · obtain ⟨h0, A, c, h1, h2⟩ := h
    exact ⟨h0, A, c, h1, hi A c l h2⟩

/-- The disk s lies in d, and in no block of Z. -/
structure DiskAt (w : World) (Z : Nat → Prop) (d : Dk) (s : Sx.St) : Prop where
  bound : 1 ≤ s.n ∧ s.n ≤ 16384
  off : ∀ k, d.has k → ¬ Z k
  left : InInt s.left ∧ (s.armed = true → 0 ≤ s.left)
  disk : w.heap[d.g]? = some (.cells #[.slice (some ⟨d.h, 0, none⟩) s.n s.n, .map (some d.m), .bool s.armed, .int .i64 s.left, .bool s.down] 66 (0, 0))
  row : ∃ cur : Array Value, w.heap[d.h]? = some (.cells cur 92 (0, 0)) ∧ cur.size = s.n * 2 ∧ ∀ i, i < s.n → (s.dur i).1.length ≤ 64 ∧ ∃ A c, cur[i * 2]? = some (.slice A (s.dur i).1.length c) ∧ cur[i * 2 + 1]? = some (.bool (s.dur i).2) ∧ OwnsZ w Z A c (s.dur i).1
  map : ∃ f, w.ownsMap Try.prog 3 Sx.valR d.m s.n (Sx.mapOf s.n f) ∧ ∀ i, i < s.n → ElemAt w Z (f i) (s.cache i)

namespace DiskAt
variable {w w' : World} {Z Z' : Nat → Prop} {d : Dk} {s s' : Sx.St}
theorem glt (h : DiskAt w Z d s) : d.g < w.heap.size := (Array.getElem?_eq_some_iff.1 h.disk).1
theorem hlt (h : DiskAt w Z d s) : d.h < w.heap.size := by obtain ⟨_, h1, _⟩ := h.row; exact (Array.getElem?_eq_some_iff.1 h1).1
theorem mlt (h : DiskAt w Z d s) : d.m < w.heap.size := by obtain ⟨_, h1, _⟩ := h.map; exact h1.lt
theorem lt (h : DiskAt w Z d s) : ∀ k, d.has k → k < w.heap.size := by
  rintro k (rfl | rfl | rfl)
  · exact h.glt
  · exact h.hlt
  · exact h.mlt
theorem g_ne_h (h : DiskAt w Z d s) : d.g ≠ d.h := by
  intro e
  obtain ⟨cur, h1, _⟩ := h.row
  have h2 := h.disk
  rw [e, h1] at h2
  have h3 := (Obj.cells.inj (Option.some.inj h2)).2.1
  revert h3; decide
theorem g_ne_m (h : DiskAt w Z d s) : d.g ≠ d.m := by
  intro e
  obtain ⟨f, ⟨es, clock, h1, _⟩, _⟩ := h.map
  have h2 := h.disk
  rw [e, h1] at h2
  cases h2
theorem h_ne_m (h : DiskAt w Z d s) : d.h ≠ d.m := by
  intro e
  obtain ⟨cur, h2, _⟩ := h.row
  obtain ⟨f, ⟨es, clock, h1, _⟩, _⟩ := h.map
  rw [e, h1] at h2
  cases h2
theorem imp (h : DiskAt w Z d s) (hb : ∀ k, d.has k → w'.heap[k]? = w.heap[k]?) (ho : ∀ k, d.has k → ¬ Z' k) (hi : ∀ A c l, OwnsZ w Z A c l → OwnsZ w' Z' A c l) : DiskAt w' Z' d s := by
  refine ⟨h.bound, ho, h.left, (hb _ (.inl rfl)).trans h.disk, ?_, ?_⟩
  · obtain ⟨cur, h1, h2, h3⟩ := h.row
    refine ⟨cur, (hb _ (.inr (.inl rfl))).trans h1, h2, fun i hi' => ?_⟩
    obtain ⟨h4, A, c, h5, h6, h7⟩ := h3 i hi'
    exact ⟨h4, A, c, h5, h6, hi _ _ _ h7⟩
  · obtain ⟨f, ⟨es, clock, h1, h2⟩, h3⟩ := h.map
    exact ⟨f, ⟨es, clock, (hb _ (.inr (.inr rfl))).trans h1, h2⟩, fun i hi' => (h3 i hi').imp hi⟩
theorem keep (h : DiskAt w Z d s) (ht : Turned Z w w') : DiskAt w' Z d s := h.imp (fun k hk => ht.block k (h.lt k hk) (h.off k hk)) h.off (fun _ _ _ h => h.keep ht)
theorem mono (h : DiskAt w Z d s) (hz : ∀ k, Z' k → Z k) : DiskAt w Z' d s := h.imp (fun _ _ => rfl) (fun k hk e => h.off k hk (hz k e)) (fun _ _ _ h => h.mono hz)
theorem shun (h : DiskAt w Z d s) : DiskAt w (fun k => Z k ∨ w.heap.size ≤ k) d s := h.imp (fun _ _ => rfl) (fun k hk e => e.elim (h.off k hk) (fun e => by have := h.lt k hk; omega)) (fun _ _ _ h => h.shun)
theorem below (h : DiskAt w Z d s) (hb : Below w.heap.size w w') : DiskAt w' Z d s := h.keep (Turned.ofBelow _ hb)
theorem drewN (h : DiskAt w Z d s) (n : Nat) : DiskAt (w.drewN n) Z d s := h.below (below_drewN (Below.refl _ _) n)
theorem drew (h : DiskAt w Z d s) : DiskAt w.drew Z d s := h.below (Below.refl _ _).drew
/-- what is beyond the last sector is nobody's business -/
theorem congr (h : DiskAt w Z d s) (hn : s'.n = s.n) (hd : ∀ i, i < s.n → s'.dur i = s.dur i) (hc : ∀ i, i < s.n → s'.cache i = s.cache i) (ha : s'.armed = s.armed) (hl : s'.left = s.left) (ho : s'.down = s.down) : DiskAt w Z d s' := by
  obtain ⟨n', dur', cache', armed', left', down'⟩ := s'
  simp only at hn hd hc ha hl ho
  subst hn ha hl ho
  refine ⟨h.bound, h.off, h.left, h.disk, ?_, ?_⟩
  · obtain ⟨cur, h1, h2, h3⟩ := h.row
    refine ⟨cur, h1, h2, fun i hi' => ?_⟩
    show (dur' i).1.length ≤ 64 ∧ ∃ A c, cur[i * 2]? = some (.slice A (dur' i).1.length c) ∧ cur[i * 2 + 1]? = some (.bool (dur' i).2) ∧ OwnsZ w Z A c (dur' i).1
    rw [hd i hi']
    exact h3 i hi'
  · obtain ⟨f, h1, h2⟩ := h.map
    refine ⟨f, h1, fun i hi' => ?_⟩
    show ElemAt w Z (f i) (cache' i)
    rw [hc i hi']
    exact h2 i hi'
theorem cells (h : DiskAt w Z d s) : w.cell? ⟨d.g, 0, none⟩ = some (.slice (some ⟨d.h, 0, none⟩) s.n s.n) ∧ w.cell? ⟨d.g, 1, none⟩ = some (.map (some d.m)) ∧ w.cell? ⟨d.g, 2, none⟩ = some (.bool s.armed) ∧
    w.cell? ⟨d.g, 3, none⟩ = some (.int .i64 s.left) ∧ w.cell? ⟨d.g, 4, none⟩ = some (.bool s.down) := by
  simp [World.cell?, h.disk]
theorem frozen (h : DiskAt w Z d s) (k : Nat) : w.frozen? ⟨d.g, k, none⟩ = false := by
  simp [World.frozen?, h.disk]
theorem frozenH (h : DiskAt w Z d s) (k : Nat) : w.frozen? ⟨d.h, k, none⟩ = false := by
  obtain ⟨cur, h1, _⟩ := h.row
  simp [World.frozen?, h1]
theorem sec (h : DiskAt w Z d s) {i : Nat} (hi : i < s.n) : (s.dur i).1.length ≤ 64 ∧ ∃ A c, w.cell? ⟨d.h, i * 2, none⟩ = some (.slice A (s.dur i).1.length c) ∧ w.cell? ⟨d.h, i * 2 + 1, none⟩ = some (.bool (s.dur i).2) ∧ OwnsZ w Z A c (s.dur i).1 := by
  obtain ⟨cur, h1, h2, h3⟩ := h.row
  obtain ⟨h4, A, c, h5, h6, h7⟩ := h3 i hi
  exact ⟨h4, A, c, by simp [World.cell?, h1, h5], by simp [World.cell?, h1, h6], h7⟩
/-- the head is written -/
theorem head (h : DiskAt w Z d s) (ht : Turned (fun k => k = d.g) w w') (hn : s'.n = s.n) (hd : s'.dur = s.dur) (hc : s'.cache = s.cache) (hl : InInt s'.left ∧ (s'.armed = true → 0 ≤ s'.left))
    (he : w'.heap[d.g]? = some (.cells #[.slice (some ⟨d.h, 0, none⟩) s.n s.n, .map (some d.m), .bool s'.armed, .int .i64 s'.left, .bool s'.down] 66 (0, 0))) : DiskAt w' Z d s' := by
  have ho : ∀ j, j < w.heap.size → j ≠ d.g → w'.heap[j]? = w.heap[j]? := fun j hj hne => ht.block j hj hne
  have hz : ∀ A c l, OwnsZ w Z A c l → OwnsZ w' Z A c l := fun A c l hA => by
    refine (((hA.shunTag h.disk ?_).keep (w' := w') (ht.mono (fun _ h => .inr h))).mono (fun _ h => .inl h))
    intro cur e
    have h3 := (Obj.cells.inj e).2.1
    revert h3; decide
  refine ⟨by rw [hn]; exact h.bound, h.off, hl, by rw [hn]; exact he, ?_, ?_⟩
  · obtain ⟨cur, h1, h2, h3⟩ := h.row
    rw [hn, hd]
    refine ⟨cur, (ho _ h.hlt h.g_ne_h.symm).trans h1, h2, fun i hi' => ?_⟩
    obtain ⟨h4, A, c, h5, h6, h7⟩ := h3 i hi'
    exact ⟨h4, A, c, h5, h6, hz _ _ _ h7⟩
  · obtain ⟨f, ⟨es, clock, h1, h2⟩, h3⟩ := h.map
    rw [hn, hc]
    exact ⟨f, ⟨es, clock, (ho _ (Array.getElem?_eq_some_iff.1 h1).1 h.g_ne_m.symm).trans h1, h2⟩, fun i hi' => (h3 i hi').imp hz⟩
theorem turnedG (ht : Turned (fun k => k = d.g) w w') : Turned d.has w w' := ht.mono (fun _ h => .inl h)
end DiskAt
end Go.Proofs.Ytdgijnolpjaheaa
namespace Go.Proofs.Ytdgijnolpjaheaa
open Go.RowKit

theorem has_any (Z : Nat → Prop) (d : Dk) (s : Sx.St) (i : Int) (w : World) (h : DiskAt w Z d s) :
    Calls Try.prog 38 #[.pointer (some ⟨d.g, 0, none⟩), .int .i64 i] w fun e w' => e = .returned (.bool (decide (0 ≤ i ∧ i < s.n))) ∧ w' = w := by
  obtain ⟨c0, c1, c2, c3, c4⟩ := h.cells
  by_cases h0 : 0 ≤ i
  · go_enter Try.func38, Try.ntmps38
    go_wp2
    go_ret
    simp [h0]
  · have h1 : i < 0 := by omega
    have H0 := hid h1
    clear h1
    go_enter Try.func38, Try.ntmps38
    go_wp2
    go_ret
    have h1 : i < 0 := H0.out
    simp
    omega
theorem len_any (Z : Nat → Prop) (d : Dk) (s : Sx.St) (w : World) (h : DiskAt w Z d s) :
    Calls Try.prog 48 #[.pointer (some ⟨d.g, 0, none⟩)] w fun e w' => e = .returned (.int .i64 (s.n : Nat)) ∧ w' = w := by
  obtain ⟨c0, c1, c2, c3, c4⟩ := h.cells
  go_enter Try.func48, Try.ntmps48
  go_wp2
  go_ret
  exact ⟨rfl, rfl⟩
theorem down_any (Z : Nat → Prop) (d : Dk) (s : Sx.St) (w : World) (h : DiskAt w Z d s) :
    Calls Try.prog 15 #[.pointer (some ⟨d.g, 0, none⟩)] w fun e w' => e = .returned (.bool s.down) ∧ w' = w := by
  obtain ⟨c0, c1, c2, c3, c4⟩ := h.cells
  go_enter Try.func15, Try.ntmps15
  go_wp2
  go_ret
  exact ⟨rfl, rfl⟩
theorem arm_any (Z : Nat → Prop) (d : Dk) (s : Sx.St) (n : Int) (hn : InInt n) (w : World) (h : DiskAt w Z d s) :
    Calls Try.prog 13 #[.pointer (some ⟨d.g, 0, none⟩), .int .i64 n] w fun e w' => e = .returned (.tuple #[]) ∧ DiskAt w' Z d (Sx.arm s n) ∧ Turned d.has w w' := by
  obtain ⟨c0, c1, c2, c3, c4⟩ := h.cells
  have f2 := h.frozen 2
  have f3 := h.frozen 3
  have HH := hid h
  clear h
  go_enter Try.func13, Try.ntmps13
  go_wp2
  go_end0
  have ht : Turned (fun k => k = d.g) w ((w.setCell ⟨d.g, 2, none⟩ (.bool (decide (0 ≤ n)))).setCell ⟨d.g, 3, none⟩ (.int .i64 n)) :=
    Turned.two _ _ _ _ _ _
  refine ⟨rfl, HH.out.head ht rfl rfl rfl ⟨hn, fun ha => by simpa [Sx.arm] using ha⟩ ?_, ht.mono (fun _ h => .inl h)⟩
  simp [World.setCell, Array.getElem?_modify, HH.out.disk, Sx.arm]
theorem spend_any (Z : Nat → Prop) (d : Dk) (s : Sx.St) (w : World) (h : DiskAt w Z d s) :
    Calls Try.prog 39 #[.pointer (some ⟨d.g, 0, none⟩)] w fun e w' => e = .returned (.int .i64 (Sx.spE s)) ∧ DiskAt w' Z d (Sx.spS s) ∧ Turned d.has w w' := by
  obtain ⟨c0, c1, c2, c3, c4⟩ := h.cells
  have f3 := h.frozen 3
  have f4 := h.frozen 4
  have HH := hid h
  have HL := hid h.left
  clear h
  cases ha : s.armed
  · rw [ha] at c2
    have hd : s.dead = false := by simp [Sx.St.dead, ha]
    cases ho : s.down
    · rw [ho] at c4
      have HA := hid ha; have HO := hid ho; have HD := hid hd
      clear ha ho hd
      go_enter Try.func39, Try.ntmps39
      go_wp2
      go_ret
      have e1 : Sx.spE s = 0 := by simp [Sx.spE, HD.out, HO.out]
      have e2 : Sx.spS s = s := by
        unfold Sx.spS
        rw [HD.out, HO.out, if_neg (by simp), if_neg (by simp)]
        unfold Sx.St.spent
        rw [HA.out]
        have := HA.out
        obtain ⟨n, du, ca, ar, le, dn⟩ := s
        simp only at this
        subst this
        rfl
      rw [e1, e2]
      exact ⟨rfl, HH.out, Turned.refl _ _⟩
    · rw [ho] at c4
      have HA := hid ha; have HO := hid ho; have HD := hid hd
      clear ha ho hd
      go_enter Try.func39, Try.ntmps39
      go_wp2
      go_ret
      have e1 : Sx.spE s = 10 := by simp [Sx.spE, HD.out, HO.out]
      have e2 : Sx.spS s = s := by simp [Sx.spS, HD.out, HO.out]
      rw [e1, e2]
      exact ⟨rfl, HH.out, Turned.refl _ _⟩
  · rw [ha] at c2
    by_cases hz : s.left = 0
    · rw [hz] at c3
      have HA := hid ha; have HZ := hid hz
      clear ha hz
      go_enter Try.func39, Try.ntmps39
      go_wp2
      go_ret
      have hd : s.dead = true := by simp [Sx.St.dead, HA.out, HZ.out]
      have e1 : Sx.spE s = 10 := by simp [Sx.spE, hd]
      have e2 : Sx.spS s = s.off := by simp [Sx.spS, hd]
      rw [e1, e2]
      have ht : Turned (fun k => k = d.g) w (w.setCell ⟨d.g, 4, none⟩ (.bool true)) := Turned.one _ _ _ _
      refine ⟨rfl, HH.out.head ht rfl rfl rfl HL.out ?_, ht.mono (fun _ h => .inl h)⟩
      simp [World.setCell, Array.getElem?_modify, HH.out.disk, Sx.St.off]
    · have hd : s.dead = false := by simp [Sx.St.dead, hz]
      cases ho : s.down
      · rw [ho] at c4
        have hl2 := HL.out.2 ha
        have HA := hid ha; have HO := hid ho; have HD := hid hd
        have HL2 := hid hl2
        have hb := HL.out.1
        unfold InInt at hb
        obtain ⟨hb1, hb2⟩ := hb
        clear ha ho hd hl2
        go_enter Try.func39, Try.ntmps39
        go_wp2
        go_ret
        have hl0 := HL2.out
        have e0 : wrap64 (s.left - 1) = s.left - 1 := IntWalk.wrap64_in (s.left - 1) ⟨by omega, by omega⟩
        have e1 : Sx.spE s = 0 := by simp [Sx.spE, HD.out, HO.out]
        have e2 : Sx.spS s = s.spent := by simp [Sx.spS, HD.out, HO.out]
        have hsl : s.spent.left = s.left - 1 := by simp [Sx.St.spent, HA.out]
        rw [e0, e1, e2]
        have ht : Turned (fun k => k = d.g) w (w.setCell ⟨d.g, 3, none⟩ (.int .i64 (s.left - 1))) := Turned.one _ _ _ _
        refine ⟨rfl, HH.out.head ht rfl rfl rfl ⟨?_, fun _ => ?_⟩ ?_, ht.mono (fun _ h => .inl h)⟩
        · rw [hsl]; exact ⟨by omega, by omega⟩
        · rw [hsl]; omega
        · rw [hsl]; simp [World.setCell, Array.getElem?_modify, HH.out.disk, Sx.St.spent]
      · rw [ho] at c4
        have HA := hid ha; have HO := hid ho; have HD := hid hd
        clear ha ho hd
        go_enter Try.func39, Try.ntmps39
        go_wp2
        go_ret
        have e1 : Sx.spE s = 10 := by simp [Sx.spE, HD.out, HO.out]
        have e2 : Sx.spS s = s := by simp [Sx.spS, HD.out, HO.out]
        rw [e1, e2]
        exact ⟨rfl, HH.out, Turned.refl _ _⟩
end Go.Proofs.Ytdgijnolpjaheaa
namespace Go.Proofs.Ytdgijnolpjaheaa
open Go.RowKit

set_option maxRecDepth 100000 in
theorem clone_any (B : Nat) (A : Option Addr) (c : Nat) (l : List Nat) (n : Nat) (hn : l.length = n) (hl : n ≤ 100000) (hz : A = none → c = 0) (w : World) (h : IsBytes w B A l) (hB : B ≤ w.heap.size) :
    Calls Try.prog 40 #[.slice A n c] w fun e w' => ∃ A' c', e = .returned (.slice A' n c') ∧ OwnsB 5 w' w.heap.size A' c' l ∧ Below w.heap.size w w' := by
  subst hn
  obtain ⟨i0, hi, hz0, hz1, hz2⟩ := info_parts info_u8
  have qT : ∀ (w : World) (a : Option Addr) (n c n' c' : Nat), (binOp .eql 32 (.slice a n c) (.slice none n' c')).run Try.prog w = .ok (.bool a.isNone) w := fun w a n c n' c' => Lib.run_eql_slice_nil w _ _ a n c n' c' Try.underlying32
  rcases A with _ | ad
  · obtain rfl := h.of_none
    obtain rfl := hz rfl
    go_enter Try.func40, Try.ntmps40
    go_wp2
    go_ret
    exact ⟨none, 0, rfl, OwnsB.nil _ _ _, Below.refl _ _⟩
  · have hown : OwnsB 5 (w.alloc (.cells #[] 5)) w.heap.size (some ⟨w.heap.size, 0, none⟩) 0 [] :=
      ⟨by simp, World.ownsRow_made w #[] 0 (Nat.le_refl _) (by unfold maxLen; omega) (by simp)⟩
    have hin : IsBytes (w.alloc (.cells #[] 5)) B (some ad) l := h.below (((Below.refl _ w).alloc (Nat.le_refl _) _).mono hB)
    go_enter Try.func40, Try.ntmps40
    go_wp2_with (at_builtin; refine wpList_append_bytesN rfl _ _ 32 rfl w.heap.size 5 i0 Try.underlying32 hi hz0 hz1 hz2 _ _ [] 0 rfl rfl hown B (some ad) c l l.length rfl rfl (fun h => by cases h) hin l (List.nil_append l) (by omega) (by simp) ?_; intro A2 c2 w2 hown2 hb2)
    go_ret
    refine ⟨A2, c2, by simp, hown2, ((Below.refl _ w).alloc (Nat.le_refl _) _).trans hb2⟩
theorem new_err (n : Int) (hn : n < 1 ∨ 16384 < n) (w : World) :
    Calls Try.prog 12 #[.int .i64 n] w fun e w' => e = .returned (.tuple #[.pointer none, .int .i64 3]) ∧ w' = w := by
  rcases hn with hn | hn
  · go_enter Try.func12, Try.ntmps12
    go_wp2
    go_ret2
    exact ⟨rfl, rfl⟩
  · have h1 : ¬ n < 1 := by omega
    go_enter Try.func12, Try.ntmps12
    go_wp2
    go_ret2
    exact ⟨rfl, rfl⟩
theorem info_state : (Try.prog.info? 92).map (fun i => (i.zero, i.size, i.bytes)) = some (some (.agg #[.slice none 0 0, .bool false]), 2, 32) := by kernel_rfl
set_option maxRecDepth 100000 in
theorem new_any (n : Nat) (hn : 1 ≤ n ∧ n ≤ 16384) (w : World) :
    Calls Try.prog 12 #[.int .i64 (n : Int)] w fun e w' => ∃ d, e = .returned (.tuple #[.pointer (some ⟨d.g, 0, none⟩), .int .i64 0]) ∧ DiskAt w' (fun k => k < w.heap.size) d (Sx.new n) ∧ Below w.heap.size w w' := by
  obtain ⟨i0, hi, hz0, hz1, hz2⟩ := info_parts info_state
  obtain ⟨hn1, hn2⟩ := hn
  have hmm := @run_makeMap Try.prog
  go_enter Try.func12, Try.ntmps12
  go_wp2_with (at_make; refine wpList_make_full _ rfl _ _ 63 rfl w.heap.size 92 i0 (.agg #[.slice none 0 0, .bool false]) 2 Try.underlying63 hi hz0 hz1 .i64 .i64 n n n rfl rfl (by omega) (by omega) ?c1 ?c2 (Nat.le_refl _) ?_)
  case c1 => rw [hz2]; omega
  case c2 => unfold maxLen; omega
  intro w1 hown hgrow
  go_wp2
  go_ret2
  have hsz := hgrow.size
  have hb1 : Below w.heap.size w w1 := (Below.refl _ _).grown hgrow (Nat.le_refl _) (fun g hg => by cases hg)
  have hb2 := (hb1.alloc hsz (.map #[] 0)).alloc (by simp; omega) (.cells #[.slice (some ⟨w.heap.size, 0, none⟩) n n, .map (some w1.heap.size), .bool false, .int .i64 0, .bool false] 66)
  refine ⟨⟨w1.heap.size + 1, w.heap.size, w1.heap.size⟩, rfl, ⟨⟨hn1, hn2⟩, ?_, ⟨⟨by show (-9223372036854775808 : Int) ≤ 0; omega, by show (0 : Int) ≤ 9223372036854775807; omega⟩, fun h => by cases h⟩, ?_, ?_, ?_⟩, hb2⟩
  · rintro k (rfl | rfl | rfl) <;> simp <;> omega
  · have := heap_alloc_new (w1.alloc (.map #[] 0)) (.cells #[.slice (some ⟨w.heap.size, 0, none⟩) n n, .map (some w1.heap.size), .bool false, .int .i64 0, .bool false] 66)
    rw [World.size_alloc] at this
    exact this
  · rcases hown.2 with ⟨h0, _⟩ | ⟨g, cap, cur, hv, hg, hh, hc, hm, hs, ht⟩
    · cases h0
    · have hv1 : w.heap.size = g ∧ n = cap := by injection hv with h1 h2 h3; injection h1 with h1; injection h1 with h1; exact ⟨h1, h3⟩
      obtain ⟨rfl, rfl⟩ := hv1
      have hlt := (Array.getElem?_eq_some_iff.1 hh).1
      refine ⟨cur, ?_, hs, ?_⟩
      · show ((w1.alloc (.map #[] 0)).alloc _).heap[w.heap.size]? = _
        rw [Below.heap_alloc _ _ _ (by simp; omega), Below.heap_alloc _ _ _ hlt, hh]
      · have hcur : cur = madeCells #[.slice none 0 0, .bool false] (n * 2) := by
          apply Array.ext'
          rw [← ht, List.take_of_length_le (by simp [hs])]
        intro i hi'
        have hi' : i < n := hi'
        refine ⟨Nat.zero_le _, none, 0, ?_, ?_, OwnsZ.nil _ _⟩
        · rw [hcur]
          simp [madeCells, show i * 2 < n * 2 by omega, Sx.new]
        · rw [hcur]
          simp [madeCells, show i * 2 + 1 < n * 2 by omega, show (i * 2 + 1) % 2 = 1 by omega, Sx.new]
  · refine ⟨fun _ => none, ?_, fun i _ => trivial⟩
    have h1 := (World.ownsMap_made (H := Value) w1 Try.prog 3 Sx.valR).alloc (.cells #[.slice (some ⟨w.heap.size, 0, none⟩) n n, .map (some w1.heap.size), .bool false, .int .i64 0, .bool false] 66)
    have e : Sx.mapOf n (fun _ => none) = .map [] := by unfold Sx.mapOf; rw [Sx.ents_none]
    show World.ownsMap _ _ _ _ _ n (Sx.mapOf n (fun _ => none))
    rw [e]
    exact h1.mono (Nat.zero_le _)
end Go.Proofs.Ytdgijnolpjaheaa
