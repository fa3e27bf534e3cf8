/- Texts of the proof, one behind the other: Works08, SecL, One. -/
import Derived.Test.YtdgijnolpjaheaaGreatPartAJ
import Derived.Test.YtdgijnolpjaheaaGreatPartAM
import Derived.Test.YtdgijnolpjaheaaGreatPartAH
import Derived.Test.YtdgijnolpjaheaaGreatPartAC
namespace Go.Proofs.YtdgijnolpjaheaaGreat
open Go.RowKit

/-- A disk that the call has made, whose area of two slots of n sectors from at on holds p, of the epoch e. -/
structure CK (w0 w : World) (d : Dk) (s : Sx.St) (f n : Nat) (e : Int) (p : List Nat) : Prop where
  disk : DM w0 w d s
  inv : Ck.Inv s f n e p
namespace CK
variable {w0 w w' : World} {d : Dk} {s : Sx.St} {f n : Nat} {e : Int} {p : List Nat}
theorem below (h : CK w0 w d s f n e p) (hb : Below w.heap.size w w') : CK w0 w' d s f n e p := ⟨h.disk.below hb, h.inv⟩
theorem right (h : CK w0 w d s f n e p) : Ck.Right s.n f n := by have := h.inv.area; have := h.inv.one; exact ⟨by omega, by omega, by omega⟩
end CK
namespace C
/-- what a Save of the next epoch does -/
inductive Did (w0 w : World) (d : Dk) (s : Sx.St) (f n : Nat) (e e1 : Int) (p q : List Nat) (E : Int) (w' : World) : Prop
  | long (h : n < Jo.secs q.length) (hE : E = 2) (hw : w' = w)
  | done (s' : Sx.St) (h : Jo.secs q.length ≤ n) (hE : E = 0) (hd : CK w0 w' d s' f n e1 q) (hn : s'.n = s.n) (ha : s'.armed = s.armed) (ho : s'.down = false) (ht : Turned d.has w w')
  | broken (s' : Sx.St) (h : Jo.secs q.length ≤ n) (hE : E = 10) (hd : DM w0 w' d s') (hn : s'.n = s.n) (ho : s'.down = true) (ht : Turned d.has w w') (hs : ¬ (s.armed = false ∧ s.down = false))
      (hc : ∀ l, Ck.Inv (Sx.crash s' l) f n e p ∨ Ck.Inv (Sx.crash s' l) f n e1 q)
theorem save_CK (w0 w : World) (d : Dk) (s : Sx.St) (f n : Nat) (e e1 : Int) (p : List Nat) (H : CK w0 w d s f n e p) (he : e < e1 ∧ e1 ≤ 1099511627776) (hf : Ck.slot f n e1 = Ck.slot f n (e + 1) ∨ e = 0)
    (A : Option Addr) (c : Nat) (q : List Nat) (m : Nat) (hm : q.length = m) (hm2 : m ≤ 100000) (hc : m ≤ c) (hcm : c ≤ maxLen) (hz : A = none → c = 0) (hq : IsBytes w w.heap.size A q) :
    Calls Tryz.prog 16 #[.pointer (some ⟨d.g, 0, none⟩), .int .i64 (f : Int), .int .i64 (n : Int), .int .i64 e1, .slice A m c] w fun e' w' => ∃ E, e' = .returned (.int .i64 E) ∧ Hid (Did w0 w d s f n e e1 p q E w') := by
  have hr := H.right
  have hb := H.disk.at_.bound
  have hep := H.inv.ep
  have ha := H.inv.area
  have he1 : Ck.Epoch e1 := ⟨by omega, he.2⟩
  by_cases hl : Jo.secs m ≤ n
  · refine (save_any _ d s f n e1 hr he1 A c q m hm hc hcm hz hl w (fun k hk => Nat.lt_of_lt_of_le hk H.disk.bel.size) H.disk.at_ hq).mono ?_
    intro e' w' S
    refine ⟨_, S.ret, ?_⟩
    have hsl : Jo.secs q.length ≤ n := by rw [hm]; exact hl
    rcases Ck.save_cases (b := false) H.inv he hf hsl with ⟨h1, h2, h3, h4, h5⟩ | ⟨h1, h2, h3, h4⟩
    · exact .done _ hsl h1 ⟨H.disk.next S.disk S.turned, h2⟩ h3 h4 h5 S.turned
    · refine .broken _ hsl h1 (H.disk.next S.disk S.turned) h3 h2 S.turned (fun hs => ?_) h4
      have h6 : (Ck.save false s (Ck.slot f n e1) e1 q).1 = 0 := Ck.save_safe e1 q hsl (by rcases Ck.slot_cases f n e1 with ⟨hs', _⟩ | ⟨hs', _⟩ <;> rw [hs'] <;> omega) H.inv.clean hs.1 hs.2
      rw [h1] at h6; cases h6
  · refine (save_long _ d s f n e1 (by unfold InInt; omega) A m c (by omega) hr he1 (by omega) w H.disk.at_).mono ?_
    rintro e' w' ⟨h1, h2⟩
    exact ⟨2, h1, .long (by rw [hm]; omega) rfl h2⟩
/-- where the power cannot fail, and there is room -/
theorem save_ok (w0 w : World) (d : Dk) (s : Sx.St) (f n : Nat) (e e1 : Int) (p : List Nat) (H : CK w0 w d s f n e p) (hs : s.armed = false ∧ s.down = false) (he : e < e1 ∧ e1 ≤ 1099511627776) (hf : Ck.slot f n e1 = Ck.slot f n (e + 1) ∨ e = 0)
    (A : Option Addr) (c : Nat) (q : List Nat) (m : Nat) (hm : q.length = m) (hm2 : m ≤ 100000) (hl : Jo.secs m ≤ n) (hc : m ≤ c) (hcm : c ≤ maxLen) (hz : A = none → c = 0) (hq : IsBytes w w.heap.size A q) :
    Calls Tryz.prog 16 #[.pointer (some ⟨d.g, 0, none⟩), .int .i64 (f : Int), .int .i64 (n : Int), .int .i64 e1, .slice A m c] w fun e' w' => e' = .returned (.int .i64 0) ∧ Hid (∃ s', CK w0 w' d s' f n e1 q ∧ s'.armed = false ∧ s'.down = false ∧ s'.n = s.n ∧ Turned d.has w w') := by
  refine (save_CK w0 w d s f n e e1 p H he hf A c q m hm hm2 hc hcm hz hq).mono ?_
  rintro e' w' ⟨E, h1, ⟨h2, h3, h4⟩ | ⟨s', h2, h3, h4, h5, h6, h7, h8⟩ | ⟨s', h2, h3, h4, h5, h6, h7, h8, h9⟩⟩
  · rw [hm] at h2; omega
  · subst h3
    exact ⟨h1, s', h4, h6.trans hs.1, h7, h5, h8⟩
  · exact absurd hs h8
/-- where there is no room -/
theorem save_no (w0 w : World) (d : Dk) (s : Sx.St) (f n : Nat) (e1 : Int) (H : DM w0 w d s) (hr : Ck.Right s.n f n) (he : Ck.Epoch e1) (A : Option Addr) (c m : Nat) (hm2 : m ≤ 100000) (hl : n < Jo.secs m) :
    Calls Tryz.prog 16 #[.pointer (some ⟨d.g, 0, none⟩), .int .i64 (f : Int), .int .i64 (n : Int), .int .i64 e1, .slice A m c] w fun e' w' => e' = .returned (.int .i64 2) ∧ w' = w :=
  save_long _ d s f n e1 (by have := H.at_.bound; obtain ⟨h1, h2, h3⟩ := hr; unfold InInt; omega) A m c (by omega) hr he hl w H.at_
theorem slot_pm (f n : Nat) (e : Int) : Ck.slot f n (e - 1) = Ck.slot f n (e + 1) := by
  rcases Ck.slot_cases f n (e - 1) with ⟨h1, h2⟩ | ⟨h1, h2⟩ <;> rcases Ck.slot_cases f n (e + 1) with ⟨h3, h4⟩ | ⟨h3, h4⟩ <;> rw [h1, h3] <;> omega
/-- of a lesser epoch, into the other slot: none -/
theorem save_less (w0 w : World) (d : Dk) (s : Sx.St) (f n : Nat) (e e1 : Int) (p : List Nat) (H : CK w0 w d s f n e p) (hs : s.armed = false ∧ s.down = false) (he : 1 ≤ e1 ∧ e1 < e) (hf : Ck.slot f n e1 = Ck.slot f n (e + 1)) :
    Calls Tryz.prog 16 #[.pointer (some ⟨d.g, 0, none⟩), .int .i64 (f : Int), .int .i64 (n : Int), .int .i64 e1, .slice none 0 0] w fun e' w' => e' = .returned (.int .i64 0) ∧ Hid (∃ s', CK w0 w' d s' f n e p ∧ s'.armed = false ∧ s'.down = false ∧ s'.n = s.n ∧ Turned d.has w w') := by
  have hep := H.inv.ep
  have ha := H.inv.area
  have h1 := H.inv.one
  have hl : Jo.secs ([] : List Nat).length ≤ n := h1
  refine (save_any _ d s f n e1 H.right ⟨by omega, by omega⟩ none 0 [] 0 rfl (Nat.le_refl _) (Nat.zero_le _) (fun _ => rfl) hl w (fun k hk => Nat.lt_of_lt_of_le hk H.disk.bel.size) H.disk.at_ IsBytes.nil).mono ?_
  intro e' w' S
  have h6 : (Ck.save false s (Ck.slot f n e1) e1 []).1 = 0 := Ck.save_safe e1 [] hl (by rcases Ck.slot_cases f n e1 with ⟨hs', _⟩ | ⟨hs', _⟩ <;> rw [hs'] <;> omega) H.inv.clean hs.1 hs.2
  obtain ⟨g1, g2, g3, g4⟩ := Ck.save_lesser (b := false) H.inv ⟨by omega, he.2⟩ hf hl h6
  exact ⟨by rw [S.ret, h6], _, ⟨H.disk.next S.disk S.turned, g1⟩, g3.trans hs.1, g4, g2, S.turned⟩
theorem load_CK (w0 w : World) (d : Dk) (s : Sx.St) (f n : Nat) (e : Int) (p : List Nat) (H : CK w0 w d s f n e p) (he : e ≠ 0) (m : Nat) (hm : p.length = m) :
    Calls Tryz.prog 21 #[.pointer (some ⟨d.g, 0, none⟩), .int .i64 (f : Int), .int .i64 (n : Int)] w fun e' w' => ∃ A c, e' = .returned (.tuple #[.slice A m c, .int .i64 e, .int .i64 0]) ∧ Hid (OwnsB 5 w' w.heap.size A c p ∧ Below w.heap.size w w') := by
  subst hm
  have hl := Ck.inv_load H.inv
  rw [if_neg he] at hl
  exact load_any _ d s f n H.right w H.disk.at_ (p, e, 0) (by rw [hl]; rfl)
theorem load_none (w0 w : World) (d : Dk) (s : Sx.St) (f n : Nat) (p : List Nat) (H : CK w0 w d s f n 0 p) :
    Calls Tryz.prog 21 #[.pointer (some ⟨d.g, 0, none⟩), .int .i64 (f : Int), .int .i64 (n : Int)] w fun e' w' => ∃ A c, e' = .returned (.tuple #[.slice A 0 c, .int .i64 0, .int .i64 6]) ∧ Hid (Below w.heap.size w w') := by
  have hl := Ck.inv_load H.inv
  rw [if_pos rfl] at hl
  refine (load_any _ d s f n H.right w H.disk.at_ ([], 0, 6) (by rw [hl]; rfl)).mono ?_
  rintro e' w' ⟨A, c, h1, h2⟩
  exact ⟨A, c, h1, h2.out.2⟩
end C
/-- bytes that are the same -/
theorem same_B (A A' : Option Addr) (c c' : Nat) (l : List Nat) (n : Nat) (hn : l.length = n) (hl : n ≤ maxLen) (w : World) (h : IsBytes w w.heap.size A l) (h' : IsBytes w w.heap.size A' l) :
    Calls Tryz.prog 22 #[.slice A n c, .slice A' n c'] w fun e w' => e = .returned (.bool true) ∧ Below w.heap.size w w' :=
  (same_T w.heap.size w.heap.size A A' c c' l n hn hl w h h').mono fun _ _ ⟨h1, j, h2⟩ => ⟨h1, by rw [h2]; exact below_drewN (Below.refl _ _) j⟩
namespace Ck
def great (L : List (List Nat)) : Bool := decide (60 < L.length) || L.any fun r => decide (4096 < r.length)
theorem great_iff {L : List (List Nat)} : great L = false ↔ L.length ≤ 60 ∧ ∀ r ∈ L, r.length ≤ 4096 := by
  simp [great, Nat.not_lt]
theorem great_at {L : List (List Nat)} {k : Nat} (hk : k < L.length) (h : 4096 < L[k].length) : great L = true := by
  unfold great
  rw [List.any_eq_true.2 ⟨L[k], List.getElem_mem _, decide_eq_true h⟩, Bool.or_true]
end Ck
set_option maxRecDepth 100000 in
theorem great_any (B : Nat) (A : Option Addr) (c : Nat) (L : List (List Nat)) (w : World) (hB : B ≤ w.heap.size) (h : IsRowsIn w B A L) :
    Calls Tryz.prog 51 #[.slice A L.length c] w fun e w' => e = .returned (.bool (Ck.great L)) ∧ Below w.heap.size w w' := by
  by_cases h0 : 60 < L.length
  · have e : Ck.great L = true := by simp [Ck.great, h0]
    rw [e]
    clear e
    have h0i : (60 : Int) < (L.length : Int) := by omega
    go_enter Tryz.func51, Tryz.ntmps51
    go_wp2
    go_ret
    exact ⟨rfl, Below.refl _ _⟩
  · have h0i : ¬ (60 : Int) < (L.length : Int) := by omega
    have HH := hid h
    clear h
    go_enter Tryz.func51, Tryz.ntmps51
    go_wp2_with fail
    go_loopw [3] (fun i wr => ∃ k : Nat, k ≤ L.length ∧ i = .int .i64 (k : Int) ∧ Hid ((∀ j (hj : j < L.length), j < k → L[j].length ≤ 4096) ∧ Below w.heap.size w wr)) (fun i _ => L.length - (RowKit.intOf i).toNat)
    case atStart => exact ⟨0, by omega, rfl, hid ⟨fun j _ h => by omega, Below.refl _ _⟩⟩
    case round =>
      obtain ⟨k, hk, rfl, HI⟩ := hrel
      by_cases hlt : k < L.length
      · have hk0 : (k : Int) < (L.length : Int) := by omega
        obtain ⟨b, off, rfl, hbB, hc⟩ := (HH.out.below (HI.out.2.mono hB)) k hlt
        obtain ⟨A', c', hck, _, _, _⟩ := hc k hlt
        obtain ⟨q, hq⟩ : ∃ q, L[k].length = q := ⟨_, rfl⟩
        rw [hq] at hck
        have HQ := hid hq
        clear hq hc
        by_cases hbig : 4096 < q
        · have hbi : (4096 : Int) < (q : Int) := by omega
          have HG : Hid (Ck.great L = true) := hid (Ck.great_at hlt (by rw [HQ.out]; exact hbig))
          go_wp2
          go_ret
          rw [HG.out]
          exact ⟨rfl, HI.out.2⟩
        · have hbi : ¬ (4096 : Int) < (q : Int) := by omega
          go_wp2
          go_roundw
          case rel => exact ⟨k + 1, by omega, by go_num, hid ⟨fun j hj h => by
            by_cases hjk : j = k
            · subst hjk; rw [HQ.out]; omega
            · exact HI.out.1 j hj (by omega), HI.out.2⟩⟩
          case measure => simp [RowKit.intOf]; omega
      · have hk0 : ¬ (k : Int) < (L.length : Int) := by omega
        have HG : Hid (Ck.great L = false) := hid (Ck.great_iff.2 ⟨by omega, fun r hr => by
          obtain ⟨j, hj, rfl⟩ := List.getElem_of_mem hr
          exact HI.out.1 j hj (by omega)⟩)
        go_wp2
        go_ret
        rw [HG.out]
        exact ⟨rfl, HI.out.2⟩
set_option maxRecDepth 100000 in
set_option maxHeartbeats 1000000 in
theorem works_any (w : World) :
    Calls Tryz.prog 8 #[] w fun e w' => e = .returned (.bool true) ∧ Below w.heap.size w w' := by
  have HN := hid (new_any 10 (by omega) w)
  go_enter Tryz.func8, Tryz.ntmps8
  go_wp2_with fail
  refine HN.out.mono ?_
  rintro e w1 ⟨d, rfl, hD, hb⟩
  have H1 : Hid (CK w w1 d (Sx.new 10) 1 3 0 []) := hid ⟨⟨hD, hb⟩, Ck.inv_new 10 1 3 (by omega) (by omega) (by omega) []⟩
  clear hD hb HN
  go_wp2_with fail
  have hb1 : Below w1.heap.size w1 (w1.alloc (.cells #[.int .u8 7] 5)) := (Below.refl _ _).alloc (Nat.le_refl _) _
  have HS1 := hid (C.save_ok w _ d (Sx.new 10) 1 3 0 1 [] (H1.out.below hb1) ⟨rfl, rfl⟩ (by omega) (.inr rfl) (some ⟨w1.heap.size, 0, none⟩) 1 [7] 1 rfl (by omega) (by decide) (by omega) (by unfold maxLen; omega) (fun h => by cases h) (by rw [World.size_alloc]; exact isBytes_new w1 [7] (by decide) _ _))
  clear hb1
  refine HS1.out.mono ?_
  rintro e w2 ⟨rfl, h2⟩
  have ⟨s2, h20, h21, h22, h23, h24⟩ := h2.out
  have H2 := hid (And.intro h20 (And.intro h21 h22))
  clear h2 h20 h21 h22 h23 h24 HS1
  go_wp2_with fail
  refine (rowN_any 120 (by omega) (by omega) w2).mono ?_
  rintro e w3 ⟨A3, c3, rfl, hown3, hb3⟩
  have HS3 := hid (C.save_ok w w3 d s2 1 3 1 2 [7] (H2.out.1.below hb3) H2.out.2 (by omega) (.inl rfl) A3 c3 (rowN 120) 120 (rowN_length 120) (by omega) (by decide) hown3.cap hown3.capLe hown3.none_ hown3.reads)
  clear hown3 hb3
  go_wp2_with fail
  refine HS3.out.mono ?_
  rintro e w4 ⟨rfl, h4⟩
  have ⟨s4, h40, h41, h42, h43, h44⟩ := h4.out
  have H4 := hid h40
  clear h4 h40 h41 h42 h43 h44 HS3 H2
  go_wp2_with fail
  refine (C.load_CK w w4 d s4 1 3 2 (rowN 120) H4.out (by omega) 120 (rowN_length 120)).mono ?_
  rintro e w5 ⟨A5, c5, rfl, H5⟩
  go_wp2_with fail
  refine (rowN_any 120 (by omega) (by omega) w5).mono ?_
  rintro e w6 ⟨A6, c6, rfl, hown6, hb6⟩
  have H6 := hid (And.intro (((H5.out.1.below hb6).reads)) (And.intro hown6.reads (H4.out.below (H5.out.2.trans (hb6.mono H5.out.2.size)))))
  clear hown6 hb6
  go_wp2_with fail
  refine (same_B A5 A6 c5 c6 (rowN 120) 120 (rowN_length 120) (by unfold maxLen; omega) w6 H6.out.1 H6.out.2.1).mono ?_
  rintro e w7 ⟨rfl, hb7⟩
  have H7 := hid (H6.out.2.2.below hb7)
  clear hb7
  go_wp2_with fail
  refine (rowN_any 121 (by omega) (by omega) w7).mono ?_
  rintro e w8 ⟨A8, c8, rfl, hown8, hb8⟩
  have H8 := hid (H7.out.below hb8)
  clear hown8 hb8
  go_wp2_with fail
  refine (C.save_no w w8 d s4 1 3 3 H8.out.disk H8.out.right ⟨by omega, by omega⟩ A8 c8 121 (by omega) (by decide)).mono ?_
  rintro e w9 ⟨rfl, rfl⟩
  go_wp2
  go_ret
  exact ⟨rfl, H8.out.disk.bel⟩
end Go.Proofs.YtdgijnolpjaheaaGreat
namespace Go.Proofs.YtdgijnolpjaheaaGreat
open Go.RowKit

namespace Sx
structure Sec where
  no : Nat
  b : List Nat
  torn : Bool
def one' (i : Nat) : Option (List Nat × Bool) → List Sec
  | some x => [⟨i, x.1, x.2⟩]
  | none => []
/-- the sectors from a on, n numbers, of which f has something -/
def secs (f : Nat → Option (List Nat × Bool)) : Nat → Nat → List Sec
  | _, 0 => []
  | a, n + 1 => one' a (f a) ++ secs f (a + 1) n
/-- put, from a place in the list on -/
def putGo (s : Sec) : Bool → List Sec → List Sec
  | laid, [] => if laid then [] else [s]
  | laid, x :: r => (if !laid && decide (s.no ≤ x.no) then [s] else []) ++ (if x.no = s.no then [] else [x]) ++ putGo s (laid || decide (s.no ≤ x.no)) r
theorem secs_no {f : Nat → Option (List Nat × Bool)} : ∀ (a n : Nat), ∀ p ∈ secs f a n, a ≤ p.no ∧ p.no < a + n ∧ f p.no = some (p.b, p.torn)
  | _, 0, p, h => by simp [secs] at h
  | a, n + 1, p, h => by
    unfold secs at h
    rcases List.mem_append.1 h with h | h
    · rcases hf : f a with _ | v
      · rw [hf] at h; simp [one'] at h
      · rw [hf] at h; simp [one'] at h; subst h; exact ⟨Nat.le_refl _, by simp, hf⟩
    · obtain ⟨h1, h2, h3⟩ := secs_no (a + 1) n p h
      exact ⟨by omega, by omega, h3⟩
theorem secs_cong {f g : Nat → Option (List Nat × Bool)} : ∀ (a n : Nat), (∀ i, a ≤ i → i < a + n → f i = g i) → secs f a n = secs g a n
  | _, 0, _ => rfl
  | a, n + 1, h => by
    unfold secs
    rw [h a (Nat.le_refl _) (by omega), secs_cong (a + 1) n (fun i h1 h2 => h i (by omega) (by omega))]
theorem putGo_true (s : Sec) : ∀ l : List Sec, (∀ p ∈ l, p.no ≠ s.no) → putGo s true l = l
  | [], _ => rfl
  | x :: r, h => by
    unfold putGo
    rw [if_neg (by simp), if_neg (h x (List.mem_cons_self)), Bool.true_or, putGo_true s r (fun p hp => h p (List.mem_cons_of_mem _ hp))]
    rfl
theorem putGo_false (s : Sec) : ∀ l m : List Sec, (∀ p ∈ l, p.no < s.no) → putGo s false (l ++ m) = l ++ putGo s false m
  | [], _, _ => rfl
  | x :: r, m, h => by
    have hx := h x (List.mem_cons_self)
    have h1 : decide (s.no ≤ x.no) = false := decide_eq_false (by omega)
    rw [List.cons_append]
    conv => lhs; unfold putGo
    rw [h1, if_neg (by simp), if_neg (by omega)]
    simp only [Bool.or_false, List.nil_append, List.cons_append]
    rw [putGo_false s r m (fun p hp => h p (List.mem_cons_of_mem _ hp))]
theorem put_secs (f : Nat → Option (List Nat × Bool)) (s : Sec) : ∀ (a n : Nat), a ≤ s.no → s.no < a + n → putGo s false (secs f a n) = secs (upd f s.no (some (s.b, s.torn))) a n
  | a, 0, h1, h2 => by omega
  | a, n + 1, h1, h2 => by
    unfold secs
    by_cases hk : s.no = a
    · have h3 : secs (upd f s.no (some (s.b, s.torn))) (a + 1) n = secs f (a + 1) n := secs_cong _ _ (fun i h _ => upd_other _ _ _ _ (by omega))
      have h4 : ∀ p ∈ secs f (a + 1) n, p.no ≠ s.no := fun p hp => by have := (secs_no (a + 1) n p hp).1; omega
      rw [h3, ← hk, upd_same]
      have h6 : ∀ m, (∀ p ∈ m, p.no ≠ s.no ∧ s.no ≤ p.no) → putGo s false m = s :: m := by
        intro m hm
        cases m with
        | nil => rfl
        | cons x r =>
          have := hm x (List.mem_cons_self)
          unfold putGo
          rw [if_pos (by simp; omega), if_neg this.1, Bool.false_or, decide_eq_true this.2, putGo_true s r (fun p hp => (hm p (List.mem_cons_of_mem _ hp)).1)]
          rfl
      have h7 : ∀ p ∈ secs f (a + 1) n, p.no ≠ s.no ∧ s.no ≤ p.no := fun p hp => by have := (secs_no (a + 1) n p hp).1; omega
      rw [← hk] at h7
      rcases hf : f s.no with _ | v
      · show putGo s false ([] ++ secs f (s.no + 1) n) = _
        rw [List.nil_append, h6 _ h7]
        rfl
      · show putGo s false (⟨s.no, v.1, v.2⟩ :: secs f (s.no + 1) n) = _
        unfold putGo
        rw [if_pos (by simp), if_pos rfl, Bool.false_or, decide_eq_true (Nat.le_refl _), putGo_true s _ (fun p hp => (h7 p hp).1)]
        rfl
    · rw [upd_other _ _ _ _ (fun e => hk e.symm), ← put_secs f s (a + 1) n (by omega) (by omega)]
      refine putGo_false s _ _ (fun p hp => ?_)
      rcases hf : f a with _ | v
      · rw [hf] at hp; simp [one'] at hp
      · rw [hf] at hp; simp [one'] at hp; subst hp; show a < s.no; omega
theorem secs_none (a n : Nat) : secs (fun _ => none) a n = [] := by
  induction n generalizing a with
  | zero => rfl
  | succ n ih => unfold secs; rw [ih]; rfl
theorem secs_length_le (f : Nat → Option (List Nat × Bool)) : ∀ a n, (secs f a n).length ≤ n
  | _, 0 => Nat.le_refl _
  | a, n + 1 => by
    unfold secs
    rw [List.length_append]
    have := secs_length_le f (a + 1) n
    have : (one' a (f a)).length ≤ 1 := by rcases f a with _ | v <;> simp [one']
    omega
/-- the numbers of the list are those of which f has something -/
theorem secs_nos (f : Nat → Option (List Nat × Bool)) : ∀ a n, (secs f a n).map (·.no) = (List.range' a n).filter fun i => (f i).isSome
  | _, 0 => rfl
  | a, n + 1 => by
    unfold secs
    rw [List.map_append, secs_nos f (a + 1) n, List.range'_succ, List.filter_cons]
    rcases hf : f a with _ | v
    · simp [one']
    · simp [one']
end Sx

theorem info_sec : (Tryz.prog.info? 71).map (fun i => (i.zero, i.size, i.bytes)) = some (some (.agg #[.int .i64 0, .slice none 0 0, .bool false]), 3, 40) := by kernel_rfl

/-- A list of sectors of the call's own; neither it nor its bytes lie in a block of Z. -/
structure SecsAt (w : World) (Z : Nat → Prop) (v : Value) (L : List Sx.Sec) : Prop where
  row : ∃ vs, w.ownsRow 0 71 3 v L.length vs ∧ ∀ i (h : i < L.length), L[i].no ≤ 100000 ∧ L[i].b.length ≤ 64 ∧ ∃ A c, vs[i * 3]? = some (.int .i64 (L[i].no : Nat)) ∧ vs[i * 3 + 1]? = some (.slice A L[i].b.length c) ∧ vs[i * 3 + 2]? = some (.bool L[i].torn) ∧ OwnsZ w Z A c L[i].b
  off : ∀ k, v.ownBlock = some k → ¬ Z k
namespace SecsAt
variable {w w' : World} {Z Z' : Nat → Prop} {v : Value} {L : List Sx.Sec}
theorem nil (w : World) (Z : Nat → Prop) : SecsAt w Z (.slice none 0 0) [] := ⟨⟨[], World.ownsRow_nil _ _ _ _, fun i h => by simp at h⟩, fun k h => by cases h⟩
theorem keep (h : SecsAt w Z v L) (ht : Turned Z w w') : SecsAt w' Z v L := by
  obtain ⟨vs, h1, h2⟩ := h.row
  refine ⟨⟨vs, ownsRow_turned h1 ht h.off, fun i hi => ?_⟩, h.off⟩
  obtain ⟨h3, h4, A, c, h5, h6, h7, h8⟩ := h2 i hi
  exact ⟨h3, h4, A, c, h5, h6, h7, h8.keep ht⟩
theorem mono (h : SecsAt w Z v L) (hz : ∀ k, Z' k → Z k) : SecsAt w Z' v L := by
  obtain ⟨vs, h1, h2⟩ := h.row
  refine ⟨⟨vs, h1, fun i hi => ?_⟩, fun k hk e => h.off k hk (hz k e)⟩
  obtain ⟨h3, h4, A, c, h5, h6, h7, h8⟩ := h2 i hi
  exact ⟨h3, h4, A, c, h5, h6, h7, h8.mono hz⟩
theorem slice (h : SecsAt w Z v L) : ∃ A c, v = .slice A L.length c := by
  obtain ⟨vs, h1, _⟩ := h.row
  exact own_slice h1
theorem below (h : SecsAt w Z v L) (hb : Below w.heap.size w w') : SecsAt w' Z v L := h.keep (Turned.ofBelow _ hb)
theorem drewN (h : SecsAt w Z v L) (n : Nat) : SecsAt (w.drewN n) Z v L := h.below (below_drewN (Below.refl _ _) n)
theorem drew (h : SecsAt w Z v L) : SecsAt w.drew Z v L := h.below (Below.refl _ _).drew
theorem shun (h : SecsAt w Z v L) : SecsAt w (fun k => Z k ∨ w.heap.size ≤ k) v L := by
  obtain ⟨vs, h1, h2⟩ := h.row
  refine ⟨⟨vs, h1, fun i hi => ?_⟩, fun k hk e => e.elim (h.off k hk) (fun e => by have := (h1.lt k hk).2; omega)⟩
  obtain ⟨h3, h4, A, c, h5, h6, h7, h8⟩ := h2 i hi
  exact ⟨h3, h4, A, c, h5, h6, h7, h8.shun⟩
/-- a block of another kind is none of its own -/
theorem shunTag (h : SecsAt w Z v L) {g : Nat} {o : Obj} (hg : w.heap[g]? = some o) (ho : ∀ cur, o ≠ .cells cur 71 (0, 0)) (ho' : ∀ cur, o ≠ .cells cur 5 (0, 0)) : SecsAt w (fun k => Z k ∨ k = g) v L := by
  obtain ⟨vs, h1, h2⟩ := h.row
  refine ⟨⟨vs, h1, fun i hi => ?_⟩, fun k hk e => e.elim (h.off k hk) (fun e => ?_)⟩
  · obtain ⟨h3, h4, A, c, h5, h6, h7, h8⟩ := h2 i hi
    exact ⟨h3, h4, A, c, h5, h6, h7, h8.shunTag hg ho'⟩
  · subst e
    rcases h1.2 with ⟨h0, _⟩ | ⟨g', cap, cur, hv, _, hh, _⟩
    · rw [h0] at hk; cases hk
    · rw [hv] at hk
      have hg' : g' = k := by simpa [Value.ownBlock] using hk
      subst hg'
      rw [hh] at hg
      exact ho cur (Option.some.inj hg).symm
/-- one of them, read -/
theorem at_ {A : Option Addr} {n c : Nat} (h : SecsAt w Z (.slice A n c) L) (i : Nat) (hi : i < L.length) : ∃ g A' c', A = some ⟨g, 0, none⟩ ∧ n = L.length ∧ w.cell? ⟨g, i * 3, none⟩ = some (.int .i64 (L[i].no : Nat)) ∧ w.cell? ⟨g, i * 3 + 1, none⟩ = some (.slice A' L[i].b.length c') ∧ w.cell? ⟨g, i * 3 + 2, none⟩ = some (.bool L[i].torn) ∧
    OwnsZ w Z A' c' L[i].b ∧ L[i].no ≤ 100000 ∧ L[i].b.length ≤ 64 := by
  obtain ⟨vs, h1, h2⟩ := h.row
  rcases h1.2 with ⟨_, h0⟩ | ⟨g, cap, cur, hv, _, hh, _, _, _, htake⟩
  · omega
  · have hA : A = some ⟨g, 0, none⟩ := by injection hv
    have hnn : n = L.length := by injection hv
    subst hA
    subst hnn
    obtain ⟨h3, h4, A', c', h5, h6, h7, h8⟩ := h2 i hi
    refine ⟨g, A', c', rfl, rfl, ?_, ?_, ?_, h8, h3, h4⟩
    · rw [h1.cellAt (i * 3) (by omega)]; exact h5
    · rw [h1.cellAt (i * 3 + 1) (by omega)]; exact h6
    · rw [h1.cellAt (i * 3 + 2) (by omega)]; exact h7
end SecsAt

set_option maxRecDepth 100000 in
/-- append of one more sector, that the walk has just laid into a block of its own -/
theorem wpList_append_sec {w : World} {ops : Array Oper} {rest : List Oper} {o : Oper} {a : Act} {Q : Exit → Act → World → Prop} (hgd : o.guard = none) (s x : Operand)
    (ho : o.op = .call { callee := .builtin .append, args := #[s, x], argTypes := #[57, 57] })
    (Z : Nat → Prop) (hZ : ∀ k, Z k → k < w.heap.size) (v : Value) (L : List Sx.Sec) (hs : a.eval s = v) (h : SecsAt w Z v L)
    (g : Nat) (c' : Nat) (A : Option Addr) (c : Nat) (y : Sx.Sec) (hy : y.no ≤ 100000) (hyl : y.b.length ≤ 64) (hx : a.eval x = .slice (some ⟨g, 0, none⟩) 1 c')
    (h0 : w.cell? ⟨g, 0, none⟩ = some (.int .i64 (y.no : Nat))) (h1 : w.cell? ⟨g, 1, none⟩ = some (.slice A y.b.length c)) (h2 : w.cell? ⟨g, 2, none⟩ = some (.bool y.torn)) (hA : OwnsZ w Z A c y.b)
    (M : List Sx.Sec) (hM : L ++ [y] = M) (hn : L.length + 1 ≤ 100000)
    (hK : ∀ v' w', SecsAt w' Z v' M → w.grownBy w' v.ownBlock → (v'.ownBlock = v.ownBlock ∨ v'.ownBlock = some w.heap.size) → wpList Tryz.prog ops Q rest (a.put o.dst v') w') :
    wpList Tryz.prog ops Q (o :: rest) a w := by
  subst hM
  obtain ⟨i0, hi, hz0, hz1, hz2⟩ := info_parts info_sec
  obtain ⟨vs, r1, r2⟩ := h.row
  refine wpList_append_own_at w hgd s x 57 ho 0 71 i0 (.agg #[.int .i64 0, .slice none 0 0, .bool false]) 3 40 Tryz.underlying57 hi hz0 hz1 hz2 rfl (by decide) v L.length vs hs r1 ⟨g, 0, none⟩ 1 c' [.int .i64 (y.no : Nat), .slice A y.b.length c, .bool y.torn] hx rfl ?_ ?_ (by unfold maxLen; omega) (by omega) (Nat.zero_le _) ?_
  · intro j u hj
    rw [add_off, Nat.zero_add]
    match j, hj with
    | 0, hj => simp at hj; subst hj; exact h0
    | 1, hj => simp at hj; subst hj; exact h1
    | 2, hj => simp at hj; subst hj; exact h2
  · intro u hu; simp at hu; rcases hu with rfl | rfl | rfl <;> rfl
  · intro v' w' h3 h4 _ h5
    have ht : Turned (fun k => v.ownBlock = some k) w w' := Turned.ofGrown h4 (fun k e => e)
    have hel : ∀ A c l, OwnsZ w Z A c l → OwnsZ w' Z A c l := fun A c l hA => by
      rcases hb : v.ownBlock with _ | g
      · exact ((OwnsZ.mono (Z' := fun _ => False) hA (fun _ h => h.elim)).keep (ht.mono (fun k e => by rw [hb] at e; cases e))).own |> fun ho => ⟨ho, hA.off⟩
      · rcases r1.2 with ⟨rfl, _⟩ | ⟨g', cap, cur, rfl, _, hh, _⟩
        · cases hb
        · have hg : g' = g := by simpa [Value.ownBlock] using hb
          subst hg
          refine (((hA.shunTag hh ?_).keep (ht.mono (fun k e => ?_))).mono (fun _ h => .inl h))
          · intro cur e
            have h6 := (Obj.cells.inj e).2.1
            revert h6; decide
          · have e := hb.symm.trans e
            injection e with e
            exact .inr e.symm
    refine hK v' w' ⟨⟨vs ++ [.int .i64 (y.no : Nat), .slice A y.b.length c, .bool y.torn], by rw [List.length_append]; exact h3, fun i hi => ?_⟩, ?_⟩ h4 h5
    · have hvl : vs.length = L.length * 3 := r1.1
      by_cases hlt : i < L.length
      · obtain ⟨e1, e2, A', c'', e3, e4, e5, e6⟩ := r2 i hlt
        rw [List.getElem_append_left hlt]
        exact ⟨e1, e2, A', c'', by rw [List.getElem?_append_left (by omega)]; exact e3, by rw [List.getElem?_append_left (by omega)]; exact e4, by rw [List.getElem?_append_left (by omega)]; exact e5, hel _ _ _ e6⟩
      · have : i = L.length := by rw [List.length_append] at hi; simp at hi; omega
        subst this
        rw [List.getElem_append_right (Nat.le_refl _)]
        simp only [Nat.sub_self, List.getElem_cons_zero]
        refine ⟨hy, hyl, A, c, ?_, ?_, ?_, hel _ _ _ hA⟩
        · rw [List.getElem?_append_right (by omega), hvl, Nat.sub_self]; rfl
        · rw [List.getElem?_append_right (by omega), hvl, show L.length * 3 + 1 - L.length * 3 = 1 by omega]; rfl
        · rw [List.getElem?_append_right (by omega), hvl, show L.length * 3 + 2 - L.length * 3 = 2 by omega]; rfl
    · intro k hk e
      rcases h5 with h5 | h5
      · exact h.off k (by rw [← h5]; exact hk) e
      · rw [h5] at hk
        injection hk with hk
        have := hZ k e
        omega
end Go.Proofs.YtdgijnolpjaheaaGreat
namespace Go.Proofs.YtdgijnolpjaheaaGreat
open Go.RowKit

theorem one_new (w : World) (x : Value) (t : TypeId) : (w.alloc (.cells #[x] t)).cell? ⟨w.heap.size, 0, none⟩ = some x := by
  have := Go.cell_one_new w x t 0 x rfl
  exact this
theorem below_one (w : World) (o : Obj) : Below w.heap.size w (w.alloc o) := (Below.refl _ _).alloc (Nat.le_refl _) _
theorem DiskAt.rdLen {w : World} {Z : Nat → Prop} {d : Dk} {s : Sx.St} (h : DiskAt w Z d s) (i : Int) : (Sx.rdB s i).length ≤ 64 := by
  unfold Sx.rdB
  split
  · rename_i hi
    have hk : i.toNat < s.n := by omega
    rcases hc : s.cache i.toNat with _ | b
    · simp only
      split
      · simp
      · exact (h.sec hk).1
    · obtain ⟨f, _, hf⟩ := h.map
      have := hf _ hk
      rw [hc] at this
      rcases h1 : f i.toNat with _ | v
      · rw [h1] at this; exact this.elim
      · rw [h1] at this; exact this.1
  · simp

end Go.Proofs.YtdgijnolpjaheaaGreat
