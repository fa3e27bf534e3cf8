/- What stays true of posts, whatever is done with them: no way is cut twice, none leads to where it begins. -/
import Derived.Test.YtckfjkhjnpkobaaWorks06
namespace Go.Proofs.Ytckfjkhjnpkobaa
open Go.RowKit

namespace Po
def Inv (C : List (Int × Int)) : Prop := C.Nodup ∧ ∀ q ∈ C, q.1 ≠ q.2
theorem layS_c (s : St) (x : Pk) (t : Bool) : (layS s x t).c = s.c := by unfold layS lay; split <;> rfl
theorem sendS_c (s : St) (x : Pk) : (sendS s x).c = s.c := by unfold sendS; split; rfl; exact layS_c _ _ _
theorem takeS_c (s : St) (i : Int) : (takeS s i).c = s.c := by unfold takeS del; split <;> rfl
theorem dblS_c (s : St) (i : Int) : (dblS s i).c = s.c := by unfold dblS; split; exact layS_c _ _ _; rfl
theorem turnS_c (s : St) (i b : Int) : (turnS s i b).c = s.c := by unfold turnS turn; split <;> rfl
theorem not_in (s : St) (a b : Int) (h : isCut s a b = false) : norm a b ∉ s.c := by unfold isCut at h; simpa using h
theorem yes_in (s : St) (a b : Int) (h : isCut s a b = true) : norm a b ∈ s.c := by unfold isCut at h; simpa using h
theorem cut_inv (s : St) (a b : Int) (h : Inv s.c) : Inv (cutS s a b).c := by
  unfold cutS
  split
  · exact h
  · rename_i hab
    split
    · exact h
    · rename_i hc
      split
      · exact h
      · have hc' := not_in s a b (by simpa using hc)
        refine ⟨?_, fun q hq => ?_⟩
        · show (s.c ++ [norm a b]).Nodup
          rw [List.nodup_append]
          refine ⟨h.1, by simp, fun x hx y hy e => ?_⟩
          rw [List.mem_singleton.1 hy] at e
          rw [e] at hx
          exact hc' hx
        · rcases List.mem_append.1 hq with hq | hq
          · exact h.2 q hq
          · rw [List.mem_singleton.1 hq]
            show min a b ≠ max a b
            omega
theorem erase_inv (C : List (Int × Int)) (i : Nat) (h : Inv C) : Inv (C.eraseIdx i) :=
  ⟨h.1.sublist (List.eraseIdx_sublist C i), fun q hq => h.2 q (List.mem_of_mem_eraseIdx hq)⟩
theorem join_inv (s : St) (a b : Int) (h : Inv s.c) : Inv (joinS s a b).c := by
  unfold joinS
  split
  · exact erase_inv _ _ h
  · exact h
theorem step_inv (s : St) (o : Op) (h : Inv s.c) : Inv (step s o).c := by
  unfold step
  repeat' split
  · rw [sendS_c]; exact h
  · rw [takeS_c]; exact h
  · rw [takeS_c]; exact h
  · rw [dblS_c]; exact h
  · rw [turnS_c]; exact h
  · exact cut_inv _ _ _ h
  · exact join_inv _ _ _ h
  · exact h
theorem fold_inv : ∀ (l : List Op) (s : St), Inv s.c → Inv (l.foldl step s).c
  | [], _, h => h
  | o :: r, s, h => fold_inv r _ (step_inv s o h)
theorem new_inv : Inv new.c := ⟨List.nodup_nil, fun _ h => by cases h⟩
theorem self_out (C : List (Int × Int)) (L : List (Pk × Bool)) (h : Inv C) (c : Int) : isCut ⟨L, C⟩ c c = false := by
  unfold isCut
  rw [decide_eq_false_iff_not]
  intro hc
  exact h.2 _ hc (by show min c c = max c c; omega)
theorem erased_out (C : List (Int × Int)) (h : Inv C) (x : Int × Int) : x ∉ C.eraseIdx (C.idxOf x) := by
  intro hx
  obtain ⟨j, hj, hne, he⟩ := List.mem_eraseIdx_iff_getElem.1 hx
  have hin : x ∈ C := by rw [← he]; exact List.getElem_mem _
  have hi : C.idxOf x < C.length := List.idxOf_lt_length_iff.2 hin
  have h1 : C[C.idxOf x] = x := List.getElem_idxOf hi
  exact hne ((List.getElem_inj h.1).1 (he.trans h1.symm))
end Po

theorem run_O (w0 : World) (g : Nat) (s : Po.St) (A : Option Addr) (c : Nat) (ts : List Po.Op) (hd : ∀ t ∈ ts, t.d.length ≤ 1024) (hl : ts.length ≤ 400) (w : World) (h : OwnP w0 w g s) (ho : IsOps w w0.heap.size A ts) :
    Calls Try.prog 19 #[.pointer (some ⟨g, 0, none⟩), .slice A ts.length c] w fun e w' => e = .returned (.tuple #[]) ∧ OwnP w0 w' g (ts.foldl Po.step s) := by
  obtain ⟨F, hP, hF, hB⟩ := h
  exact (run_any w0.heap.size F g s A c ts hd hl w hP hF hB.size ho).mono fun _ _ ⟨he, hR⟩ => ⟨he, OwnP.step hF hB hR⟩
end Go.Proofs.Ytckfjkhjnpkobaa
