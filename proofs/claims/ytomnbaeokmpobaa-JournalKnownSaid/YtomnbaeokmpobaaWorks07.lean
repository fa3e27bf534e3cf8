/- The walk through layer 7's example. -/
import Derived.Test.YtomnbaeokmpobaaJoK
import Derived.Test.YtomnbaeokmpobaaRowsB
namespace Go.Proofs.Ytomnbaeokmpobaa
open Go.RowKit

theorem JG.rowGrown {w0 w w' : World} {d : Dk} {s : Sx.St} {g : Nat} {e : Int} {f n : Nat} {L : List (List Nat)} {B1 : Nat} (h : JG w0 w d s g e f n L) (hd : ∀ k, d.has k ∨ k = g → k < B1) (hr : RowGrown B1 w w') (hB : B1 ≤ w.heap.size) (hB0 : w0.heap.size ≤ B1) : JG w0 w' d s g e f n L :=
  ⟨⟨h.disk.at_.rowGrown (fun k hk => hd k (.inl hk)) hr, h.disk.bel.trans ((hr.below hB).mono hB0)⟩, h.ge, ((hr.below hB).block g (hd g (.inr rfl))).trans h.jn, h.good, h.ep, h.sz, h.len⟩
namespace J
/-- New where nothing of the epoch is -/
theorem new_JG (w0 : World) (d : Dk) (s : Sx.St) (f n : Nat) (e : Int) (w : World) (H : DM w0 w d s) (hF : Jo.Fresh e s) (hn : 1 ≤ n) (ha : f + n ≤ s.n) (he : 1 ≤ e ∧ e ≤ 1099511627776) :
    Calls Try.prog 13 #[.pointer (some ⟨d.g, 0, none⟩), .int .i64 (f : Int), .int .i64 (n : Int), .int .i64 e] w fun e' w' => e' = .returned (.tuple #[.pointer (some ⟨w.heap.size, 0, none⟩), .int .i64 0]) ∧ Hid (JG w0 w' d s w.heap.size e f n [] ∧ Below w.heap.size w w' ∧ w'.heap.size = w.heap.size + 1) := by
  have hb := H.at_.bound
  refine (new_any _ d s f n e (by unfold InInt; omega) ⟨by omega, by omega, by omega, he.1, he.2⟩ w H.at_).mono ?_
  rintro e' w' ⟨h1, h2, h3, h4⟩
  refine ⟨h1, ⟨H.below h4, H.bel.size, ?_, hF.good he.2 ha, ⟨by omega, he.2⟩, by omega, Nat.zero_le _⟩, h4, h3⟩
  exact h2
theorem scan_JG (w0 : World) (d : Dk) (s : Sx.St) (g : Nat) (e : Int) (f n : Nat) (L : List (List Nat)) (w : World) (H : JG w0 w d s g e f n L) (hn : 1 ≤ n) (he : 1 ≤ e) (m : Nat) (hm : L.length = m) :
    Calls Try.prog 10 #[.pointer (some ⟨d.g, 0, none⟩), .int .i64 (f : Int), .int .i64 (n : Int), .int .i64 e] w fun e' w' => ∃ A c, e' = .returned (.tuple #[.slice A m c, .int .i64 0]) ∧ Hid (RowsAt w' (fun k => k < w.heap.size) (.slice A m c) L ∧ Below w.heap.size w w') := by
  subst hm
  have ha := H.good.area
  have h := scan_any _ d s f n e ⟨by omega, by omega, by omega, he, H.ep.2⟩ w H.disk.at_
  rw [H.good.scan] at h
  refine h.mono ?_
  rintro e' w' ⟨A, c, h1, h2⟩
  exact ⟨A, c, h1, h2⟩
theorem scan_fresh (w0 : World) (d : Dk) (s : Sx.St) (e : Int) (f n : Nat) (w : World) (H : DM w0 w d s) (hF : Jo.Fresh e s) (hn : 1 ≤ n) (ha : f + n ≤ s.n) (he : 1 ≤ e ∧ e ≤ 1099511627776) :
    Calls Try.prog 10 #[.pointer (some ⟨d.g, 0, none⟩), .int .i64 (f : Int), .int .i64 (n : Int), .int .i64 e] w fun e' w' => ∃ A c, e' = .returned (.tuple #[.slice A 0 c, .int .i64 0]) ∧ Hid (Below w.heap.size w w') := by
  have h := scan_any _ d s f n e ⟨by omega, by omega, by omega, he.1, he.2⟩ w H.at_
  rw [(hF.good he.2 ha).scan] at h
  refine h.mono ?_
  rintro e' w' ⟨A, c, h1, h2⟩
  exact ⟨A, c, h1, h2.2⟩
theorem room_JG (w0 : World) (d : Dk) (s : Sx.St) (g : Nat) (e : Int) (f n : Nat) (L : List (List Nat)) (w : World) (H : JG w0 w d s g e f n L) (m : Nat) (hm : n - Jo.total L = m) :
    Calls Try.prog 14 #[.pointer (some ⟨g, 0, none⟩)] w fun e' w' => e' = .returned (.int .i64 (m : Int)) ∧ w' = w := by
  subst hm; exact room_any g _ w H.jn
theorem count_JG (w0 : World) (d : Dk) (s : Sx.St) (g : Nat) (e : Int) (f n : Nat) (L : List (List Nat)) (w : World) (H : JG w0 w d s g e f n L) (m : Nat) (hm : L.length = m) :
    Calls Try.prog 16 #[.pointer (some ⟨g, 0, none⟩)] w fun e' w' => e' = .returned (.int .i64 (m : Int)) ∧ w' = w := by
  subst hm; exact count_any g _ w H.jn
/-- where there is no room -/
theorem append_no (w0 : World) (d : Dk) (s : Sx.St) (g : Nat) (e : Int) (f n : Nat) (L : List (List Nat)) (w : World) (H : JG w0 w d s g e f n L)
    (A : Option Addr) (c : Nat) (k : Nat) (hl : k ≤ 32768) (hr : n - Jo.total L < Jo.secs k) :
    Calls Try.prog 15 #[.pointer (some ⟨g, 0, none⟩), .slice A k c] w fun e' w' => e' = .returned (.int .i64 8) ∧ Hid (JG w0 w' d s g e f n L ∧ Below w.heap.size w w') := by
  refine (append_full g _ A c k hl w H.jn (by show ((n - Jo.total L : Nat) : Int) < _; omega)).mono ?_
  rintro e' w' ⟨he, hb⟩
  exact ⟨he, H.below hb, hb⟩
/-- Append of bytes that the text spells out -/
theorem append_lit (w0 : World) (d : Dk) (s : Sx.St) (g : Nat) (e : Int) (f n : Nat) (L : List (List Nat)) (w : World) (H : JG w0 w d s g e f n L) (hs : s.armed = false ∧ s.down = false)
    (p : List Nat) (k : Nat) (hk : p.length = k) (cs : Array Value) (hcs : cs = (bytes p).toArray) (hp : ∀ x ∈ p, x < 256) (hl : k ≤ 32768) (hr : Jo.secs k ≤ n - Jo.total L) :
    Calls Try.prog 15 #[.pointer (some ⟨g, 0, none⟩), .slice (some ⟨w.heap.size, 0, none⟩) k k] (w.alloc (.cells cs 5)) fun e' w' => e' = .returned (.int .i64 0) ∧ Hid (∃ s', JG w0 w' d s' g e f n (L ++ [p]) ∧ s'.armed = false ∧ s'.down = false ∧ s'.n = s.n ∧ (Jo.Fresh (e + 1) s → Jo.Fresh (e + 1) s')) := by
  subst hcs
  have hb : Below w.heap.size w (w.alloc (.cells (bytes p).toArray 5)) := (Below.refl _ _).alloc (Nat.le_refl _) _
  refine (append_ok w0 d s g e f n L _ (H.below hb) hs (some ⟨w.heap.size, 0, none⟩) k p k hk (Nat.le_refl _) (by unfold maxLen; omega) (fun h => by cases h) (by rw [World.size_alloc]; exact isBytes_new w p hp _ _)
    (fun _ a ha hd => by injection ha with ha; subst ha; have := H.disk.at_.lt _ hd; exact Nat.lt_irrefl _ this) hl hr).mono ?_
  rintro e' w' ⟨h1, s', h2, h3, h4, h5, h6, _⟩
  exact ⟨h1, s', h2, h3, h4, h5, h6⟩
theorem append_nil (w0 : World) (d : Dk) (s : Sx.St) (g : Nat) (e : Int) (f n : Nat) (L : List (List Nat)) (w : World) (H : JG w0 w d s g e f n L) (hs : s.armed = false ∧ s.down = false) (hr : 1 ≤ n - Jo.total L) :
    Calls Try.prog 15 #[.pointer (some ⟨g, 0, none⟩), .slice none 0 0] w fun e' w' => e' = .returned (.int .i64 0) ∧ Hid (∃ s', JG w0 w' d s' g e f n (L ++ [[]]) ∧ s'.armed = false ∧ s'.down = false ∧ s'.n = s.n ∧ (Jo.Fresh (e + 1) s → Jo.Fresh (e + 1) s')) := by
  refine (append_ok w0 d s g e f n L _ H hs none 0 [] 0 rfl (Nat.le_refl _) (Nat.zero_le _) (fun _ => rfl) IsBytes.nil (fun h => absurd rfl h) (by omega) (by show max 1 _ ≤ _; omega)).mono ?_
  rintro e' w' ⟨h1, s', h2, h3, h4, h5, h6, _⟩
  exact ⟨h1, s', h2, h3, h4, h5, h6⟩
end J
/-- rows that are the same -/
theorem rows_T (A A' : Option Addr) (c c' : Nat) (L : List (List Nat)) (n : Nat) (hn : L.length = n) (hn2 : n ≤ 100000) (w : World) (h : IsRows w A L) (h' : IsRows w A' L) :
    Calls Try.prog 11 #[.slice A n c, .slice A' n c'] w fun e w' => e = .returned (.bool true) ∧ Below w.heap.size w w' :=
  (rows_same A A' c c' L L n n hn hn hn2 w h h').mono fun _ _ ⟨h1, j, h2⟩ => ⟨by rw [h1, decide_eq_true rfl], by rw [h2]; exact below_drewN (Below.refl _ _) j⟩
/-- the rows that the text spells out: two bytes, and none -/
theorem rows_lit (w : World) (A : Option Addr) (c : Nat) (h : IsRows w A [[1, 2], []]) :
    Calls Try.prog 11 #[.slice A 2 c, .slice (some ⟨w.heap.size + 1, 0, none⟩) 2 2] ((w.alloc (.cells #[.int .u8 1, .int .u8 2] 5)).alloc (.cells #[.slice (some ⟨w.heap.size, 0, none⟩) 2 2, .slice none 0 0] 43)) fun e w' => e = .returned (.bool true) ∧ Below w.heap.size w w' := by
  have hb : Below w.heap.size w ((w.alloc (.cells #[.int .u8 1, .int .u8 2] 5)).alloc (.cells #[.slice (some ⟨w.heap.size, 0, none⟩) 2 2, .slice none 0 0] 43)) := ((Below.refl _ _).alloc (Nat.le_refl _) _).alloc (by simp) _
  obtain ⟨w2, hw2⟩ : ∃ w2, w2 = (w.alloc (.cells #[.int .u8 1, .int .u8 2] 5)).alloc (.cells #[.slice (some ⟨w.heap.size, 0, none⟩) 2 2, .slice none 0 0] 43) := ⟨_, rfl⟩
  rw [← hw2] at hb ⊢
  have hr : w2.heap[w.heap.size + 1]? = some (.cells #[.slice (some ⟨w.heap.size, 0, none⟩) 2 2, .slice none 0 0] 43 (0, 0)) := by
    have := heap_alloc_new (w.alloc (.cells #[.int .u8 1, .int .u8 2] 5)) (.cells #[.slice (some ⟨w.heap.size, 0, none⟩) 2 2, .slice none 0 0] 43)
    rw [World.size_alloc] at this
    rw [hw2]; exact this
  have hc : w2.heap[w.heap.size]? = some (.cells #[.int .u8 1, .int .u8 2] 5 (0, 0)) := by
    rw [hw2]; exact (Below.heap_alloc _ _ _ (by simp)).trans (heap_alloc_new w _)
  have hs : w2.heap.size = w.heap.size + 1 + 1 := by rw [hw2]; simp
  have hl : IsRows w2 (some ⟨w.heap.size + 1, 0, none⟩) [[1, 2], []] := by
    intro k _
    refine ⟨w.heap.size + 1, 0, rfl, fun i hi => ?_⟩
    match i, hi with
    | 0, _ =>
      refine ⟨by simp, some ⟨w.heap.size, 0, none⟩, 2, by simp [World.cell?, hr], ⟨by simp, fun j hj => ⟨w.heap.size, 0, rfl, by omega, fun i hi => ?_⟩⟩⟩
      match i, hi with
      | 0, _ => simp [World.cell?, hc]
      | 1, _ => simp [World.cell?, hc]
    | 1, _ => exact ⟨by simp, none, 0, by simp [World.cell?, hr], IsBytes.nil⟩
  refine (rows_same A _ c 2 [[1, 2], []] [[1, 2], []] 2 2 rfl rfl (by omega) w2 (h.below hb) hl).mono ?_
  rintro e w' ⟨h1, j, h2⟩
  exact ⟨by rw [h1]; simp, by rw [h2]; exact below_drewN hb j⟩

set_option maxRecDepth 100000 in
set_option maxHeartbeats 1000000 in
theorem known_any (w : World) :
    Calls Try.prog 7 #[] w fun e w' => e = .returned (.bool true) ∧ Below w.heap.size w w' := by
  have HN := hid (new_any 8 (by omega) w)
  go_enter Try.func7, Try.ntmps7
  go_wp2_with fail
  refine HN.out.mono ?_
  rintro e w1 ⟨d, rfl, hD, hb⟩
  have H1 : Hid (DM w w1 d (Sx.new 8)) := hid ⟨hD, hb⟩
  clear hD hb HN
  go_wp2_with fail
  refine (J.new_JG w d _ 2 5 7 w1 H1.out (Jo.fresh_new 8 7) (by omega) (by decide) (by omega)).mono ?_
  rintro e w2 ⟨rfl, h2⟩
  have H2 := hid h2.out.1
  clear h2 H1
  go_wp2_with fail
  refine (J.append_lit w d _ w1.heap.size 7 2 5 [] w2 H2.out ⟨rfl, rfl⟩ [1, 2] 2 rfl #[.int .u8 1, .int .u8 2] rfl (by decide) (by omega) (by decide)).mono ?_
  rintro e w3 ⟨rfl, h3⟩
  have ⟨s3, h30, h31, h32, h33, h34⟩ := h3.out
  have H3 := hid h30
  have HS3 := hid (And.intro h31 (And.intro h32 (And.intro h33 (h34 (Jo.fresh_new 8 8)))))
  clear h3 h30 h31 h32 h33 h34 H2
  go_wp2_with fail
  refine (J.append_nil w d s3 w1.heap.size 7 2 5 [[1, 2]] w3 H3.out ⟨HS3.out.1, HS3.out.2.1⟩ (by decide)).mono ?_
  rintro e w4 ⟨rfl, h4⟩
  have ⟨s4, h40, h41, h42, h43, h44⟩ := h4.out
  have H4 := hid h40
  have HS4 := hid (And.intro (h43.trans HS3.out.2.2.1) (h44 HS3.out.2.2.2))
  clear h4 h40 h41 h42 h43 h44 H3 HS3
  go_wp2_with fail
  refine (J.room_JG w d s4 w1.heap.size 7 2 5 [[1, 2], []] w4 H4.out 3 (by decide)).mono ?_
  rintro e w5 ⟨rfl, rfl⟩
  go_wp2_with fail
  refine (J.count_JG w d s4 w1.heap.size 7 2 5 [[1, 2], []] w5 H4.out 2 rfl).mono ?_
  rintro e w6 ⟨rfl, rfl⟩
  go_wp2_with fail
  refine (J.scan_JG w d s4 w1.heap.size 7 2 5 [[1, 2], []] w6 H4.out (by omega) (by omega) 2 rfl).mono ?_
  rintro e w7 ⟨A, c, rfl, h7⟩
  have HR := hid (And.intro h7.out.1.reads h7.out.2)
  clear h7
  go_wp2_with fail
  refine (J.scan_fresh w d s4 8 2 5 w7 (H4.out.disk.below HR.out.2) HS4.out.2 (by omega) (by rw [HS4.out.1]; decide) (by omega)).mono ?_
  rintro e w8 ⟨A8, c8, rfl, h8⟩
  have HB := hid (And.intro (HR.out.1.below h8.out) (H4.out.disk.bel.trans ((HR.out.2.trans (h8.out.mono HR.out.2.size)).mono H4.out.disk.bel.size)))
  clear h8 HR H4 HS4
  go_wp2_with fail
  refine (rows_lit w8 A c HB.out.1).mono ?_
  rintro e w9 ⟨rfl, hb9⟩
  have HB9 := hid (HB.out.2.trans (hb9.mono HB.out.2.size))
  clear hb9 HB
  go_wp2
  go_ret
  exact ⟨rfl, HB9.out⟩
end Go.Proofs.Ytomnbaeokmpobaa
