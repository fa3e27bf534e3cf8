/- A disk and a journal that the call has made: what its calls do. -/
import Derived.Test.YtomnbaeokmpobaaJoH
import Derived.Test.YtomnbaeokmpobaaJoS
import Derived.Test.YtomnbaeokmpobaaDiskG
namespace Go.Proofs.Ytomnbaeokmpobaa
open Go.RowKit

/-- A disk that the call has made since the world w0. -/
structure DM (w0 w : World) (d : Dk) (s : Sx.St) : Prop where
  at_ : DiskAt w (fun k => k < w0.heap.size) d s
  bel : Below w0.heap.size w0 w
namespace DM
variable {w0 w w' : World} {d : Dk} {s s' : Sx.St}
theorem ge (h : DM w0 w d s) : ∀ k, d.has k → w0.heap.size ≤ k := fun k hk => by
  have := h.at_.off k hk
  simp at this
  exact this
theorem below (h : DM w0 w d s) (hb : Below w.heap.size w w') : DM w0 w' d s := ⟨h.at_.below hb, h.bel.trans (hb.mono h.bel.size)⟩
theorem next (h : DM w0 w d s) (hd : DiskAt w' (fun k => k < w0.heap.size) d s') (ht : Turned d.has w w') : DM w0 w' d s' := ⟨hd, h.bel.trans (ht.below h.bel.size h.ge)⟩
theorem drewN (h : DM w0 w d s) (n : Nat) : DM w0 (w.drewN n) d s := h.below (below_drewN (Below.refl _ _) n)
end DM
/-- .. and a journal on it, in which the records L are. -/
structure JG (w0 w : World) (d : Dk) (s : Sx.St) (g : Nat) (e : Int) (f n : Nat) (L : List (List Nat)) : Prop where
  disk : DM w0 w d s
  ge : w0.heap.size ≤ g
  jn : JAt w g ⟨d.g, e, (f + Jo.total L : Nat), (n - Jo.total L : Nat), (L.length : Nat)⟩
  good : Jo.Good s e f n L
  ep : 0 ≤ e ∧ e ≤ 1099511627776
  sz : f + n ≤ 16384
  len : L.length ≤ n
namespace JG
variable {w0 w w' : World} {d : Dk} {s s' : Sx.St} {g : Nat} {e : Int} {f n : Nat} {L : List (List Nat)}
theorem below (h : JG w0 w d s g e f n L) (hb : Below w.heap.size w w') : JG w0 w' d s g e f n L := ⟨h.disk.below hb, h.ge, h.jn.below hb, h.good, h.ep, h.sz, h.len⟩
theorem drewN (h : JG w0 w d s g e f n L) (k : Nat) : JG w0 (w.drewN k) d s g e f n L := h.below (below_drewN (Below.refl _ _) k)
end JG
theorem Jo.len_total : ∀ L : List (List Nat), L.length ≤ Jo.total L
  | [] => Nat.le_refl _
  | p :: L => by have := Jo.len_total L; have := Jo.secs_pos p.length; simp only [List.length_cons, Jo.total]; omega
namespace J
/-- what an Append does -/
inductive Did (w0 w : World) (d : Dk) (s : Sx.St) (g : Nat) (e : Int) (f n : Nat) (L : List (List Nat)) (p : List Nat) (e' : Ending) (w' : World) : Prop
  | long (h : 32768 < p.length) (he : e' = .returned (.int .i64 2)) (hj : JG w0 w' d s g e f n L)
  | full (h : p.length ≤ 32768) (h2 : n - Jo.total L < Jo.secs p.length) (he : e' = .returned (.int .i64 8)) (hj : JG w0 w' d s g e f n L)
  | done (s' : Sx.St) (h : p.length ≤ 32768) (h2 : Jo.secs p.length ≤ n - Jo.total L) (he : e' = .returned (.int .i64 0)) (hj : JG w0 w' d s' g e f n (L ++ [p])) (hn : s'.n = s.n) (ha : s'.armed = s.armed) (hd : s'.down = false) (hf : Jo.Fresh (e + 1) s → Jo.Fresh (e + 1) s')
  | broken (s' : Sx.St) (h : p.length ≤ 32768) (h2 : Jo.secs p.length ≤ n - Jo.total L) (hs : ¬ (s.armed = false ∧ s.down = false)) (he : e' = .returned (.int .i64 10)) (hj : DM w0 w' d s') (hn : s'.n = s.n) (hd : s'.down = true)
      (hc : ∀ l, (Jo.scan (Jo.rdOf (Sx.crash s' l)) e n f [] [] = L ∨ Jo.scan (Jo.rdOf (Sx.crash s' l)) e n f [] [] = L ++ [p]) ∧ (Jo.Fresh (e + 1) s → Jo.Fresh (e + 1) (Sx.crash s' l)))
theorem append_JG (w0 : World) (d : Dk) (s : Sx.St) (g : Nat) (e : Int) (f n : Nat) (L : List (List Nat)) (w : World) (H : JG w0 w d s g e f n L)
    (A : Option Addr) (c : Nat) (p : List Nat) (k : Nat) (hk : p.length = k) (hc : k ≤ c) (hcm : c ≤ maxLen) (hz : A = none → c = 0) (hp : IsBytes w w.heap.size A p) (hA : p ≠ [] → ∀ a, A = some a → ¬ d.has a.block) :
    Calls Try.prog 15 #[.pointer (some ⟨g, 0, none⟩), .slice A k c] w fun e' w' => Hid (Did w0 w d s g e f n L p e' w' ∧ Turned (fun b => d.has b ∨ b = g) w w') := by
  have hll := Jo.len_total L
  have hfit := H.good.fit
  have hsz := H.sz
  by_cases hlong : 32768 < k
  · refine (append_long g A c k hlong w).mono ?_
    rintro e' w' ⟨he, hb⟩
    exact ⟨.long (by rw [hk]; exact hlong) he (H.below hb), Turned.ofBelow _ hb⟩
  · by_cases hroom : Jo.secs k ≤ n - Jo.total L
    · refine (append_goes (fun b => b < w0.heap.size) d s g e (f + Jo.total L) (n - Jo.total L) L.length (by have := H.ep; unfold InInt; omega) (by omega) (by omega) (by have := H.len; omega) w (fun b hb => by have := H.disk.bel.size; omega) H.disk.at_ H.jn A c p k hk hc hcm hz
        (fun w' ht => bytes_turned hp hA ht) (by omega) hroom).mono ?_
      intro e' w' R
      have hle : p.length ≤ 32768 := by omega
      have hro : Jo.secs p.length ≤ n - Jo.total L := by rw [hk]; exact hroom
      have hbel : Below w0.heap.size w0 w' := H.disk.bel.trans (R.turned.below H.disk.bel.size (fun b hb => hb.elim (H.disk.ge b) (fun hb => by subst hb; exact H.ge)))
      refine ⟨?_, R.turned⟩
      by_cases h0 : (Jo.run s (f + Jo.total L) (Jo.secsOf e (L.length + 1 : Nat) p)).1 = 0
      · obtain ⟨g1, g2, g3, g4, g5⟩ := Jo.run_good H.good p hle hro h0
        have hj := R.jn
        rw [if_pos h0] at hj
        refine .done _ hle hro (by rw [R.ret, h0]) ⟨⟨R.disk, hbel⟩, H.ge, ?_, g1, H.ep, H.sz, ?_⟩ g3 g4 g5 (g2 H.ep.1)
        · rw [Jo.total_snoc, List.length_append, List.length_singleton, hk, show f + (Jo.total L + Jo.secs k) = f + Jo.total L + Jo.secs k from by omega, show n - (Jo.total L + Jo.secs k) = n - Jo.total L - Jo.secs k from by omega]
          exact hj
        · have := Jo.len_total (L ++ [p])
          have := g1.fit
          omega
      · obtain ⟨g1, g2, g3, g4⟩ := Jo.run_broken H.good p hle hro h0
        refine .broken _ hle hro (fun hs => h0 (Jo.run_safe _ s _ ?_ (Jo.secsOf_small _ _ _) hs.1 hs.2)) (by rw [R.ret, g1]) ⟨R.disk, hbel⟩ g3 g2 (fun l => ⟨(g4 l).1, (g4 l).2 H.ep.1⟩)
        rw [Jo.secsOf_length]
        have := H.good.area
        omega
    · refine (append_full g _ A c k (by omega) w H.jn (by show ((n - Jo.total L : Nat) : Int) < _; omega)).mono ?_
      rintro e' w' ⟨he, hb⟩
      exact ⟨.full (by omega) (by rw [hk]; omega) he (H.below hb), Turned.ofBelow _ hb⟩
/-- where the power cannot fail, and there is room -/
theorem append_ok (w0 : World) (d : Dk) (s : Sx.St) (g : Nat) (e : Int) (f n : Nat) (L : List (List Nat)) (w : World) (H : JG w0 w d s g e f n L) (hs : s.armed = false ∧ s.down = false)
    (A : Option Addr) (c : Nat) (p : List Nat) (k : Nat) (hk : p.length = k) (hc : k ≤ c) (hcm : c ≤ maxLen) (hz : A = none → c = 0) (hp : IsBytes w w.heap.size A p) (hA : p ≠ [] → ∀ a, A = some a → ¬ d.has a.block) (hl : k ≤ 32768) (hr : Jo.secs k ≤ n - Jo.total L) :
    Calls Try.prog 15 #[.pointer (some ⟨g, 0, none⟩), .slice A k c] w fun e' w' => e' = .returned (.int .i64 0) ∧ Hid (∃ s', JG w0 w' d s' g e f n (L ++ [p]) ∧ s'.armed = false ∧ s'.down = false ∧ s'.n = s.n ∧ (Jo.Fresh (e + 1) s → Jo.Fresh (e + 1) s') ∧ Turned (fun b => d.has b ∨ b = g) w w') := by
  refine (append_JG w0 d s g e f n L w H A c p k hk hc hcm hz hp hA).mono ?_
  rintro e' w' ⟨⟨h1, he, hj⟩ | ⟨h1, h2, he, hj⟩ | ⟨s', h1, h2, he, hj, hn, ha, hd, hf⟩ | ⟨s', h1, h2, hs', he, hj, hn, hd, hx⟩, ht⟩
  · omega
  · rw [hk] at h2; omega
  · exact ⟨he, s', hj, ha.trans hs.1, hd, hn, hf, ht⟩
  · exact absurd hs hs'
end J
end Go.Proofs.Ytomnbaeokmpobaa
