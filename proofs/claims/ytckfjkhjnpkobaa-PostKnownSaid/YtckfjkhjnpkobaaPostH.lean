/- The walk through the post's list of all that is under way. -/
import Derived.Test.YtckfjkhjnpkobaaPostG
namespace Go.Proofs.Ytckfjkhjnpkobaa
open Go.RowKit

/-- A list of packets of the call's own, each with bytes of its own; all their blocks are in F. -/
structure PksAt (w : World) (F : Nat → Prop) (A : Option Addr) (c : Nat) (L : List (Pl × Bool)) : Prop where
  lt : ∀ k, F k → k < w.heap.size
  row : RowIn cellsP 3 42 w F A c L
  byt : BytesIn w F L
def pks (L : List (Pl × Bool)) : List Po.Pk := L.map fun q => q.1.p
theorem pks_length (L : List (Pl × Bool)) : (pks L).length = L.length := by unfold pks; rw [List.length_map]
theorem cellsP_one (y : Pl × Bool) : ∀ u ∈ cellsP y, u.oneCell' = true := by
  intro u hu
  simp [cellsP] at hu
  rcases hu with rfl | rfl | rfl <;> rfl
theorem info_packet : (Try.prog.info? 42).map (fun i => (i.zero, i.size, i.bytes)) = some (some (.agg #[.int .i64 0, .int .i64 0, .slice none 0 0]), 3, 40) := by kernel_rfl

namespace PksAt
variable {w w' : World} {F S : Nat → Prop} {A : Option Addr} {c : Nat} {L : List (Pl × Bool)}
theorem nil (w : World) : PksAt w (fun _ => False) none 0 [] := ⟨fun _ h => h.elim, RowIn.nil (f := cellsP) (fun _ => rfl) _ _ _, BytesIn.nil _ _⟩
theorem keep (h : PksAt w F A c L) (ht : Turned S w w') (hd : ∀ k, F k → ¬ S k) : PksAt w' F A c L :=
  ⟨fun k hk => Nat.lt_of_lt_of_le (h.lt k hk) ht.size, h.row.keep ht (fun k hk => hd k (h.row.blk k hk)), h.byt.keep ht (fun q hq k hk => hd k ((h.byt.own q hq).2.2 k hk))⟩
theorem below (h : PksAt w F A c L) (hb : Below w.heap.size w w') : PksAt w' F A c L := h.keep (S := fun _ => False) (Turned.ofBelow _ hb) (fun _ _ h => h)
theorem byt_row (h : PksAt w F A c L) {k : Nat} (hk : blk A = some k) : ∀ q ∈ L, blk q.1.A ≠ some k := fun q hq => by
  obtain ⟨cur, hc⟩ := h.row.tag hk
  exact (h.byt.own q hq).1.ne hc (by decide)
/-- one packet more -/
theorem snoc {w3 w6 : World} {N M : Nat} (h : PksAt w3 F A c L) (q : Pl × Bool) (hq : OwnsB 5 w3 N q.1.A q.1.c q.1.p.d) (hd : q.1.p.d.length ≤ 1024) (hN : ∀ k, F k → k < N) {G : Nat → Prop} {A6 : Option Addr} {c6 : Nat} (hrow : RowIn cellsP 3 42 w6 G A6 c6 (L ++ [q]))
    (hgr : Turned (fun k => blk A = some k) w3 w6) (hat : blk A6 = blk A ∨ blk A6 = some M) (hM : N ≤ M) : ∃ F', PksAt w6 F' A6 c6 (L ++ [q]) ∧ ∀ k, F' k → F k ∨ N ≤ k := by
  have hq6 : OwnsB 5 w6 N q.1.A q.1.c q.1.p.d := hq.turned hgr (fun k hk e => by have h1 := (hq.blkLt k hk).1; have h2 := hN k (h.row.blk k e); omega)
  refine ⟨fun k => F k ∨ blk A6 = some k ∨ blk q.1.A = some k, ⟨?_, hrow.mono (fun k hk => .inr (.inl hk)), ?_⟩, ?_⟩
  · rintro k (hk | hk | hk)
    · exact Nat.lt_of_lt_of_le (h.lt k hk) hgr.size
    · exact hrow.lt k hk
    · exact (hq6.blkLt k hk).2
  · refine ((h.byt.keep hgr (fun r hr k hk e => h.byt_row e r hr hk)).mono (fun r hr k hk => .inl ((h.byt.own r hr).2.2 k hk))).snoc q (hq6.weaken (Nat.zero_le _)) hd (fun k hk => .inr (.inr hk)) (fun k hk r hr e => ?_)
    have h1 := (hq.blkLt k hk).1
    have h2 := hN k ((h.byt.own r hr).2.2 k e)
    omega
  · rintro k (hk | hk | hk)
    · exact .inl hk
    · rcases hat with hat | hat
      · exact .inl (h.row.blk k (by rw [← hat]; exact hk))
      · rw [hat] at hk; injection hk with hk; exact .inr (by omega)
    · exact .inr (hq.blkLt k hk).1
end PksAt

/-- what All has told so far -/
structure AllTo (w wr : World) (L : List (Pl × Bool)) (A2 : Option Addr) (c2 k : Nat) : Prop where
  ex : ∃ F2 L2, PksAt wr F2 A2 c2 L2 ∧ pks L2 = (pks L).take k ∧ ∀ j, F2 j → w.heap.size ≤ j
  bel : Below w.heap.size w wr

set_option maxHeartbeats 1600000 in
set_option maxRecDepth 100000 in
theorem all_any (F : Nat → Prop) (g : Nat) (s : Po.St) (w : World) (h : PostAt w F g s) :
    Calls Try.prog 13 #[.pointer (some ⟨g, 0, none⟩)] w fun e w' => ∃ A2 c2, e = .returned (.slice A2 s.l.length c2) ∧ Below w.heap.size w w' ∧
      ∃ F2 L2, PksAt w' F2 A2 c2 L2 ∧ pks L2 = s.l.map (fun q => q.1) ∧ ∀ k, F2 k → w.heap.size ≤ k := by
  obtain ⟨i0, hi, hz0, hz1, hz2⟩ := info_parts info_packet
  obtain ⟨L, A, c, A', c', hI, hs⟩ := h
  have hl : s.l.length = L.length := by rw [hs, List.length_map]
  have hsp : s.l.map (fun q => q.1) = pks L := by rw [hs, List.map_map]; rfl
  rw [hl, hsp]
  have hL := hI.len
  have g0 := hI.cell0
  have HI := hid hI
  clear hI hs hl hsp
  go_enter Try.func13, Try.ntmps13
  go_wp2_with fail
  go_loopw [3, 11] (fun v i wr => ∃ k A2 c2, k ≤ L.length ∧ v = .slice A2 k c2 ∧ i = .int .i64 (k : Nat) ∧ Hid (AllTo w wr L A2 c2 k)) (fun _ i _ => L.length - (RowKit.intOf i).toNat)
  case atStart => exact ⟨0, none, 0, by omega, rfl, rfl, hid ⟨⟨_, [], PksAt.nil w, by simp [pks], fun _ h => h.elim⟩, Below.refl _ _⟩⟩
  case round =>
    clear g0
    obtain ⟨k, A2, c2, hk, rfl, rfl, hS⟩ := hrel
    by_cases hlt : k < L.length
    · have hbel := hS.out.bel
      have hIr := HI.out.below hbel
      obtain ⟨b, hA, hbg, hbs, hFb, d0, d1, d2, d3, hbf, hO, hd⟩ := hIr.item k hlt
      have hAr := hA
      subst hA
      have hk0 : (k : Int) < (L.length : Int) := by omega
      -- the box, and own
      obtain ⟨w1, hw1⟩ : ∃ w1, w1 = wr.alloc (.cells #[.int .i64 L[k].1.p.a, .int .i64 L[k].1.p.b, .slice L[k].1.A L[k].1.p.d.length L[k].1.c, .bool L[k].2] 62) := ⟨_, rfl⟩
      have hb1 : Below wr.heap.size wr w1 := by rw [hw1]; exact (Below.refl _ wr).alloc (Nat.le_refl _) _
      have hs1 : w1.heap.size = wr.heap.size + 1 := by rw [hw1]; simp
      have HO := hid (own_any wr.heap.size L[k].1.A L[k].1.c L[k].1.p.a L[k].1.p.b L[k].1.p.d hd w1 (hO.reads.below hb1) hb1.size hO.none_)
      have H1 := hid (And.intro hb1 (And.intro hs1 hd))
      have HW := hid hw1
      rw [hw1] at HO
      clear hIr hO hb1 hs1 hw1 hbel hd
      go_wp2_with fail
      refine HO.out.mono ?_
      rintro e w2 ⟨A3, c3, rfl, ho3, hb3⟩
      obtain ⟨F2, L2, hP, hpk, hF2⟩ := hS.out.ex
      have hb3' : Below wr.heap.size wr w2 := H1.out.1.trans (by have := hb3; rw [← HW.out] at this; exact this.mono H1.out.1.size)
      have hP2 := hP.below hb3'
      have hkl : L2.length = k := by rw [← pks_length, hpk, List.length_take, pks_length]; omega
      obtain ⟨w3, hw3⟩ : ∃ w3, w3 = w2.alloc (.cells #[.int .i64 L[k].1.p.a, .int .i64 L[k].1.p.b, .slice A3 L[k].1.p.d.length c3] 42) := ⟨_, rfl⟩
      have hb4 : Below w2.heap.size w2 w3 := by rw [hw3]; exact (Below.refl _ w2).alloc (Nat.le_refl _) _
      have hP3 := hP2.below hb4
      have ho4 : OwnsB 5 w3 wr.heap.size A3 c3 L[k].1.p.d := (ho3.below hb4).weaken (by simp)
      have hs3 : w3.heap.size = w2.heap.size + 1 := by rw [hw3]; simp
      have H3 := hid (And.intro hP3 (And.intro ho4 (And.intro (hb3'.trans (hb4.mono hb3'.size)) (And.intro hpk (And.intro hF2 (And.intro hP.lt hs3))))))
      have HR := hid hP3.row
      have HKL := hid hkl
      rw [hw3] at HR
      have HW3 := hid hw3
      clear hP hpk hF2 hb3' hP2 hkl hb4 hP3 ho4 hb3 ho3 hw3 hs3 HO
      go_wp2_with (at_builtin; refine wpList_append_row (by rfl) _ _ 28 (by rfl) i0 _ Try.underlying28 hi hz0 hz1 hz2 (by rfl) (by decide) HR.out k HKL.out (by rfl) (⟨L[k].1.p, A3, c3⟩, false) ⟨w2.heap.size, 0, none⟩ 1 (by rfl) (fun k _ => cells_new w2 _ _ k) (cellsP_one _) (by omega) (by omega) ?_)
      intro A6 c6 w6 hrow6 hgr6 hat6
      rw [← HW3.out] at hgr6
      obtain ⟨F6, hP6, hF6⟩ := PksAt.snoc (N := wr.heap.size) H3.out.1 (⟨L[k].1.p, A3, c3⟩, false) H3.out.2.1 H1.out.2.2 H3.out.2.2.2.2.2.1 hrow6 (Turned.ofGrown hgr6 (fun k hk => hk)) hat6 (by have := H3.out.2.2.1.size; have := H3.out.2.2.2.2.2.2; omega)
      have hbw : Below w.heap.size w w6 := by
        refine (hS.out.bel.trans (H3.out.2.2.1.mono hS.out.bel.size)).trans (below_grown hgr6 (Nat.le_trans hS.out.bel.size H3.out.2.2.1.size) (fun j hj => H3.out.2.2.2.2.1 j (H3.out.1.row.blk j hj)))
      have hS6 : AllTo w w6 L A6 c6 (k + 1) := by
        refine ⟨⟨F6, _, hP6, ?_, fun j hj => (hF6 j hj).elim (H3.out.2.2.2.2.1 j) (fun e => Nat.le_trans hS.out.bel.size e)⟩, hbw⟩
        have e1 := H3.out.2.2.2.1
        unfold pks at e1 ⊢
        rw [List.map_append, e1, List.take_succ_eq_append_getElem (by simpa using hlt)]
        simp
      have HS6 := hid hS6
      clear hrow6 hgr6 hat6 hP6 hF6 hbw hS6 H3 HR HKL HW3 H1 HW hS
      go_wp2_with fail
      go_roundw
      case rel => exact ⟨k + 1, A6, c6, by omega, by go_num, by go_num, HS6⟩
      case measure => simp [RowKit.intOf]; omega
    · obtain rfl : k = L.length := by omega
      go_wp2_with fail
      go_ret
      obtain ⟨F2, L2, hP, hpk, hF2⟩ := hS.out.ex
      rw [List.take_of_length_le (by rw [pks_length]; omega)] at hpk
      exact ⟨A2, c2, rfl, hS.out.bel, F2, L2, hP, hpk, hF2⟩
end Go.Proofs.Ytckfjkhjnpkobaa
