/- What Save and Load do with a disk that the call has made; the walks through works and great. -/
import Derived.Test.YtdgijnolpjaheaaCkD
import Derived.Test.YtdgijnolpjaheaaCkG
import Derived.Test.YtdgijnolpjaheaaDM
import Derived.Test.YtdgijnolpjaheaaRowN
import Derived.Test.YtdgijnolpjaheaaRowsIn
namespace Go.Proofs.Ytdgijnolpjaheaa
open Go.RowKit

/-- A disk that the call has made, whose area of two slots of n sectors from at on holds p, of the epoch e. -/
structure CK (w0 w : World) (d : Dk) (s : Sx.St) (f n : Nat) (e : Int) (p : List Nat) : Prop where
  disk : DM w0 w d s
  inv : Ck.Inv s f n e p
namespace CK
variable {w0 w w' : World} {d : Dk} {s : Sx.St} {f n : Nat} {e : Int} {p : List Nat}
theorem below (h : CK w0 w d s f n e p) (hb : Below w.heap.size w w') : CK w0 w' d s f n e p := ⟨h.disk.below hb, h.inv⟩
theorem right (h : CK w0 w d s f n e p) : Ck.Right s.n f n := by have := h.inv.area; have := h.inv.one; exact ⟨by omega, by omega, by omega⟩
end CK
namespace C
/-- what a Save of the next epoch does -/
inductive Did (w0 w : World) (d : Dk) (s : Sx.St) (f n : Nat) (e e1 : Int) (p q : List Nat) (E : Int) (w' : World) : Prop
  | long (h : n < Jo.secs q.length) (hE : E = 2) (hw : w' = w)
  | done (s' : Sx.St) (h : Jo.secs q.length ≤ n) (hE : E = 0) (hd : CK w0 w' d s' f n e1 q) (hn : s'.n = s.n) (ha : s'.armed = s.armed) (ho : s'.down = false) (ht : Turned d.has w w')
  | broken (s' : Sx.St) (h : Jo.secs q.length ≤ n) (hE : E = 10) (hd : DM w0 w' d s') (hn : s'.n = s.n) (ho : s'.down = true) (ht : Turned d.has w w') (hs : ¬ (s.armed = false ∧ s.down = false))
      (hc : ∀ l, Ck.Inv (Sx.crash s' l) f n e p ∨ Ck.Inv (Sx.crash s' l) f n e1 q)
theorem save_CK (w0 w : World) (d : Dk) (s : Sx.St) (f n : Nat) (e e1 : Int) (p : List Nat) (H : CK w0 w d s f n e p) (he : e < e1 ∧ e1 ≤ 1099511627776) (hf : Ck.slot f n e1 = Ck.slot f n (e + 1) ∨ e = 0)
    (A : Option Addr) (c : Nat) (q : List Nat) (m : Nat) (hm : q.length = m) (hm2 : m ≤ 100000) (hc : m ≤ c) (hcm : c ≤ maxLen) (hz : A = none → c = 0) (hq : IsBytes w w.heap.size A q) :
    Calls Try.prog 14 #[.pointer (some ⟨d.g, 0, none⟩), .int .i64 (f : Int), .int .i64 (n : Int), .int .i64 e1, .slice A m c] w fun e' w' => ∃ E, e' = .returned (.int .i64 E) ∧ Hid (Did w0 w d s f n e e1 p q E w') := by
  have hr := H.right
  have hb := H.disk.at_.bound
  have hep := H.inv.ep
  have ha := H.inv.area
  have he1 : Ck.Epoch e1 := ⟨by omega, he.2⟩
  by_cases hl : Jo.secs m ≤ n
  · refine (save_any _ d s f n e1 hr he1 A c q m hm hc hcm hz hl w (fun k hk => Nat.lt_of_lt_of_le hk H.disk.bel.size) H.disk.at_ hq).mono ?_
    intro e' w' S
    refine ⟨_, S.ret, ?_⟩
    have hsl : Jo.secs q.length ≤ n := by rw [hm]; exact hl
    rcases Ck.save_cases (b := false) H.inv he hf hsl with ⟨h1, h2, h3, h4, h5⟩ | ⟨h1, h2, h3, h4⟩
    · exact .done _ hsl h1 ⟨H.disk.next S.disk S.turned, h2⟩ h3 h4 h5 S.turned
    · refine .broken _ hsl h1 (H.disk.next S.disk S.turned) h3 h2 S.turned (fun hs => ?_) h4
      have h6 : (Ck.save false s (Ck.slot f n e1) e1 q).1 = 0 := Ck.save_safe e1 q hsl (by rcases Ck.slot_cases f n e1 with ⟨hs', _⟩ | ⟨hs', _⟩ <;> rw [hs'] <;> omega) H.inv.clean hs.1 hs.2
      rw [h1] at h6; cases h6
  · refine (save_long _ d s f n e1 (by unfold InInt; omega) A m c (by omega) hr he1 (by omega) w H.disk.at_).mono ?_
    rintro e' w' ⟨h1, h2⟩
    exact ⟨2, h1, .long (by rw [hm]; omega) rfl h2⟩
/-- where the power cannot fail, and there is room -/
theorem save_ok (w0 w : World) (d : Dk) (s : Sx.St) (f n : Nat) (e e1 : Int) (p : List Nat) (H : CK w0 w d s f n e p) (hs : s.armed = false ∧ s.down = false) (he : e < e1 ∧ e1 ≤ 1099511627776) (hf : Ck.slot f n e1 = Ck.slot f n (e + 1) ∨ e = 0)
    (A : Option Addr) (c : Nat) (q : List Nat) (m : Nat) (hm : q.length = m) (hm2 : m ≤ 100000) (hl : Jo.secs m ≤ n) (hc : m ≤ c) (hcm : c ≤ maxLen) (hz : A = none → c = 0) (hq : IsBytes w w.heap.size A q) :
    Calls Try.prog 14 #[.pointer (some ⟨d.g, 0, none⟩), .int .i64 (f : Int), .int .i64 (n : Int), .int .i64 e1, .slice A m c] w fun e' w' => e' = .returned (.int .i64 0) ∧ Hid (∃ s', CK w0 w' d s' f n e1 q ∧ s'.armed = false ∧ s'.down = false ∧ s'.n = s.n ∧ Turned d.has w w') := by
  refine (save_CK w0 w d s f n e e1 p H he hf A c q m hm hm2 hc hcm hz hq).mono ?_
  rintro e' w' ⟨E, h1, ⟨h2, h3, h4⟩ | ⟨s', h2, h3, h4, h5, h6, h7, h8⟩ | ⟨s', h2, h3, h4, h5, h6, h7, h8, h9⟩⟩
  · rw [hm] at h2; omega
  · subst h3
    exact ⟨h1, s', h4, h6.trans hs.1, h7, h5, h8⟩
  · exact absurd hs h8
/-- where there is no room -/
theorem save_no (w0 w : World) (d : Dk) (s : Sx.St) (f n : Nat) (e1 : Int) (H : DM w0 w d s) (hr : Ck.Right s.n f n) (he : Ck.Epoch e1) (A : Option Addr) (c m : Nat) (hm2 : m ≤ 100000) (hl : n < Jo.secs m) :
    Calls Try.prog 14 #[.pointer (some ⟨d.g, 0, none⟩), .int .i64 (f : Int), .int .i64 (n : Int), .int .i64 e1, .slice A m c] w fun e' w' => e' = .returned (.int .i64 2) ∧ w' = w :=
  save_long _ d s f n e1 (by have := H.at_.bound; obtain ⟨h1, h2, h3⟩ := hr; unfold InInt; omega) A m c (by omega) hr he hl w H.at_
theorem slot_pm (f n : Nat) (e : Int) : Ck.slot f n (e - 1) = Ck.slot f n (e + 1) := by
  rcases Ck.slot_cases f n (e - 1) with ⟨h1, h2⟩ | ⟨h1, h2⟩ <;> rcases Ck.slot_cases f n (e + 1) with ⟨h3, h4⟩ | ⟨h3, h4⟩ <;> rw [h1, h3] <;> omega
/-- of a lesser epoch, into the other slot: none -/
theorem save_less (w0 w : World) (d : Dk) (s : Sx.St) (f n : Nat) (e e1 : Int) (p : List Nat) (H : CK w0 w d s f n e p) (hs : s.armed = false ∧ s.down = false) (he : 1 ≤ e1 ∧ e1 < e) (hf : Ck.slot f n e1 = Ck.slot f n (e + 1)) :
    Calls Try.prog 14 #[.pointer (some ⟨d.g, 0, none⟩), .int .i64 (f : Int), .int .i64 (n : Int), .int .i64 e1, .slice none 0 0] w fun e' w' => e' = .returned (.int .i64 0) ∧ Hid (∃ s', CK w0 w' d s' f n e p ∧ s'.armed = false ∧ s'.down = false ∧ s'.n = s.n ∧ Turned d.has w w') := by
  have hep := H.inv.ep
  have ha := H.inv.area
  have h1 := H.inv.one
  have hl : Jo.secs ([] : List Nat).length ≤ n := h1
  refine (save_any _ d s f n e1 H.right ⟨by omega, by omega⟩ none 0 [] 0 rfl (Nat.le_refl _) (Nat.zero_le _) (fun _ => rfl) hl w (fun k hk => Nat.lt_of_lt_of_le hk H.disk.bel.size) H.disk.at_ IsBytes.nil).mono ?_
  intro e' w' S
  have h6 : (Ck.save false s (Ck.slot f n e1) e1 []).1 = 0 := Ck.save_safe e1 [] hl (by rcases Ck.slot_cases f n e1 with ⟨hs', _⟩ | ⟨hs', _⟩ <;> rw [hs'] <;> omega) H.inv.clean hs.1 hs.2
  obtain ⟨g1, g2, g3, g4⟩ := Ck.save_lesser (b := false) H.inv ⟨by omega, he.2⟩ hf hl h6
  exact ⟨by rw [S.ret, h6], _, ⟨H.disk.next S.disk S.turned, g1⟩, g3.trans hs.1, g4, g2, S.turned⟩
theorem load_CK (w0 w : World) (d : Dk) (s : Sx.St) (f n : Nat) (e : Int) (p : List Nat) (H : CK w0 w d s f n e p) (he : e ≠ 0) (m : Nat) (hm : p.length = m) :
    Calls Try.prog 17 #[.pointer (some ⟨d.g, 0, none⟩), .int .i64 (f : Int), .int .i64 (n : Int)] w fun e' w' => ∃ A c, e' = .returned (.tuple #[.slice A m c, .int .i64 e, .int .i64 0]) ∧ Hid (OwnsB 5 w' w.heap.size A c p ∧ Below w.heap.size w w') := by
  subst hm
  have hl := Ck.inv_load H.inv
  rw [if_neg he] at hl
  exact load_any _ d s f n H.right w H.disk.at_ (p, e, 0) (by rw [hl]; rfl)
theorem load_none (w0 w : World) (d : Dk) (s : Sx.St) (f n : Nat) (p : List Nat) (H : CK w0 w d s f n 0 p) :
    Calls Try.prog 17 #[.pointer (some ⟨d.g, 0, none⟩), .int .i64 (f : Int), .int .i64 (n : Int)] w fun e' w' => ∃ A c, e' = .returned (.tuple #[.slice A 0 c, .int .i64 0, .int .i64 6]) ∧ Hid (Below w.heap.size w w') := by
  have hl := Ck.inv_load H.inv
  rw [if_pos rfl] at hl
  refine (load_any _ d s f n H.right w H.disk.at_ ([], 0, 6) (by rw [hl]; rfl)).mono ?_
  rintro e' w' ⟨A, c, h1, h2⟩
  exact ⟨A, c, h1, h2.out.2⟩
end C
/-- bytes that are the same -/
theorem same_B (A A' : Option Addr) (c c' : Nat) (l : List Nat) (n : Nat) (hn : l.length = n) (hl : n ≤ maxLen) (w : World) (h : IsBytes w w.heap.size A l) (h' : IsBytes w w.heap.size A' l) :
    Calls Try.prog 18 #[.slice A n c, .slice A' n c'] w fun e w' => e = .returned (.bool true) ∧ Below w.heap.size w w' :=
  (same_T w.heap.size w.heap.size A A' c c' l n hn hl w h h').mono fun _ _ ⟨h1, j, h2⟩ => ⟨h1, by rw [h2]; exact below_drewN (Below.refl _ _) j⟩
namespace Ck
def great (L : List (List Nat)) : Bool := decide (60 < L.length) || L.any fun r => decide (4096 < r.length)
theorem great_iff {L : List (List Nat)} : great L = false ↔ L.length ≤ 60 ∧ ∀ r ∈ L, r.length ≤ 4096 := by
  simp [great, Nat.not_lt]
theorem great_at {L : List (List Nat)} {k : Nat} (hk : k < L.length) (h : 4096 < L[k].length) : great L = true := by
  unfold great
  rw [List.any_eq_true.2 ⟨L[k], List.getElem_mem _, decide_eq_true h⟩, Bool.or_true]
end Ck
set_option maxRecDepth 100000 in
theorem great_any (B : Nat) (A : Option Addr) (c : Nat) (L : List (List Nat)) (w : World) (hB : B ≤ w.heap.size) (h : IsRowsIn w B A L) :
    Calls Try.prog 10 #[.slice A L.length c] w fun e w' => e = .returned (.bool (Ck.great L)) ∧ Below w.heap.size w w' := by
  by_cases h0 : 60 < L.length
  · have e : Ck.great L = true := by simp [Ck.great, h0]
    rw [e]
    clear e
    have h0i : (60 : Int) < (L.length : Int) := by omega
    go_enter Try.func10, Try.ntmps10
    go_wp2
    go_ret
    exact ⟨rfl, Below.refl _ _⟩
  · have h0i : ¬ (60 : Int) < (L.length : Int) := by omega
    have HH := hid h
    clear h
    go_enter Try.func10, Try.ntmps10
    go_wp2_with fail
    go_loopw [3] (fun i wr => ∃ k : Nat, k ≤ L.length ∧ i = .int .i64 (k : Int) ∧ Hid ((∀ j (hj : j < L.length), j < k → L[j].length ≤ 4096) ∧ Below w.heap.size w wr)) (fun i _ => L.length - (RowKit.intOf i).toNat)
    case atStart => exact ⟨0, by omega, rfl, hid ⟨fun j _ h => by omega, Below.refl _ _⟩⟩
    case round =>
      obtain ⟨k, hk, rfl, HI⟩ := hrel
      by_cases hlt : k < L.length
      · have hk0 : (k : Int) < (L.length : Int) := by omega
        obtain ⟨b, off, rfl, hbB, hc⟩ := (HH.out.below (HI.out.2.mono hB)) k hlt
        obtain ⟨A', c', hck, _, _, _⟩ := hc k hlt
        obtain ⟨q, hq⟩ : ∃ q, L[k].length = q := ⟨_, rfl⟩
        rw [hq] at hck
        have HQ := hid hq
        clear hq hc
        by_cases hbig : 4096 < q
        · have hbi : (4096 : Int) < (q : Int) := by omega
          have HG : Hid (Ck.great L = true) := hid (Ck.great_at hlt (by rw [HQ.out]; exact hbig))
          go_wp2
          go_ret
          rw [HG.out]
          exact ⟨rfl, HI.out.2⟩
        · have hbi : ¬ (4096 : Int) < (q : Int) := by omega
          go_wp2
          go_roundw
          case rel => exact ⟨k + 1, by omega, by go_num, hid ⟨fun j hj h => by
            by_cases hjk : j = k
            · subst hjk; rw [HQ.out]; omega
            · exact HI.out.1 j hj (by omega), HI.out.2⟩⟩
          case measure => simp [RowKit.intOf]; omega
      · have hk0 : ¬ (k : Int) < (L.length : Int) := by omega
        have HG : Hid (Ck.great L = false) := hid (Ck.great_iff.2 ⟨by omega, fun r hr => by
          obtain ⟨j, hj, rfl⟩ := List.getElem_of_mem hr
          exact HI.out.1 j hj (by omega)⟩)
        go_wp2
        go_ret
        rw [HG.out]
        exact ⟨rfl, HI.out.2⟩
set_option maxRecDepth 100000 in
set_option maxHeartbeats 1000000 in
theorem works_any (w : World) :
    Calls Try.prog 9 #[] w fun e w' => e = .returned (.bool true) ∧ Below w.heap.size w w' := by
  have HN := hid (new_any 10 (by omega) w)
  go_enter Try.func9, Try.ntmps9
  go_wp2_with fail
  refine HN.out.mono ?_
  rintro e w1 ⟨d, rfl, hD, hb⟩
  have H1 : Hid (CK w w1 d (Sx.new 10) 1 3 0 []) := hid ⟨⟨hD, hb⟩, Ck.inv_new 10 1 3 (by omega) (by omega) (by omega) []⟩
  clear hD hb HN
  go_wp2_with fail
  have hb1 : Below w1.heap.size w1 (w1.alloc (.cells #[.int .u8 7] 5)) := (Below.refl _ _).alloc (Nat.le_refl _) _
  have HS1 := hid (C.save_ok w _ d (Sx.new 10) 1 3 0 1 [] (H1.out.below hb1) ⟨rfl, rfl⟩ (by omega) (.inr rfl) (some ⟨w1.heap.size, 0, none⟩) 1 [7] 1 rfl (by omega) (by decide) (by omega) (by unfold maxLen; omega) (fun h => by cases h) (by rw [World.size_alloc]; exact isBytes_new w1 [7] (by decide) _ _))
  clear hb1
  refine HS1.out.mono ?_
  rintro e w2 ⟨rfl, h2⟩
  have ⟨s2, h20, h21, h22, h23, h24⟩ := h2.out
  have H2 := hid (And.intro h20 (And.intro h21 h22))
  clear h2 h20 h21 h22 h23 h24 HS1
  go_wp2_with fail
  refine (rowN_any 120 (by omega) (by omega) w2).mono ?_
  rintro e w3 ⟨A3, c3, rfl, hown3, hb3⟩
  have HS3 := hid (C.save_ok w w3 d s2 1 3 1 2 [7] (H2.out.1.below hb3) H2.out.2 (by omega) (.inl rfl) A3 c3 (rowN 120) 120 (rowN_length 120) (by omega) (by decide) hown3.cap hown3.capLe hown3.none_ hown3.reads)
  clear hown3 hb3
  go_wp2_with fail
  refine HS3.out.mono ?_
  rintro e w4 ⟨rfl, h4⟩
  have ⟨s4, h40, h41, h42, h43, h44⟩ := h4.out
  have H4 := hid h40
  clear h4 h40 h41 h42 h43 h44 HS3 H2
  go_wp2_with fail
  refine (C.load_CK w w4 d s4 1 3 2 (rowN 120) H4.out (by omega) 120 (rowN_length 120)).mono ?_
  rintro e w5 ⟨A5, c5, rfl, H5⟩
  go_wp2_with fail
  refine (rowN_any 120 (by omega) (by omega) w5).mono ?_
  rintro e w6 ⟨A6, c6, rfl, hown6, hb6⟩
  have H6 := hid (And.intro (((H5.out.1.below hb6).reads)) (And.intro hown6.reads (H4.out.below (H5.out.2.trans (hb6.mono H5.out.2.size)))))
  clear hown6 hb6
  go_wp2_with fail
  refine (same_B A5 A6 c5 c6 (rowN 120) 120 (rowN_length 120) (by unfold maxLen; omega) w6 H6.out.1 H6.out.2.1).mono ?_
  rintro e w7 ⟨rfl, hb7⟩
  have H7 := hid (H6.out.2.2.below hb7)
  clear hb7
  go_wp2_with fail
  refine (rowN_any 121 (by omega) (by omega) w7).mono ?_
  rintro e w8 ⟨A8, c8, rfl, hown8, hb8⟩
  have H8 := hid (H7.out.below hb8)
  clear hown8 hb8
  go_wp2_with fail
  refine (C.save_no w w8 d s4 1 3 3 H8.out.disk H8.out.right ⟨by omega, by omega⟩ A8 c8 121 (by omega) (by decide)).mono ?_
  rintro e w9 ⟨rfl, rfl⟩
  go_wp2
  go_ret
  exact ⟨rfl, H8.out.disk.bel⟩
end Go.Proofs.Ytdgijnolpjaheaa
