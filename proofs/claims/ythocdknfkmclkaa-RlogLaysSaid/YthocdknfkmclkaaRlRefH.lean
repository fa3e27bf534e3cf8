/- The document's Append, whatever the log and the entries. -/
import Derived.Test.YthocdknfkmclkaaRlRefF
import Derived.Test.YthocdknfkmclkaaRlRefG
namespace Go.Proofs.Ythocdknfkmclkaa
open Go.RowKit

/-- Append tells the log with the entries, and the index of the first one that is new, in new memory -/
theorem refApp_any (B : Nat) (g : Rl.Lg) (A A' : Option Addr) (c c' : Nat) (i : Int) (m : Nat) (M : List Rl.En) (hm : M.length = m) (hm' : m ≤ 30000) (hg : Rl.Ok g) (hf : Rl.Few g.es) (hfM : Rl.Few M) (w : World) (h : LgIs w B g A c) (h' : IsEnts w B A' M) (hB : B ≤ w.heap.size) :
    Calls Try.prog 26 #[.agg #[.int .i64 g.base, .int .i64 g.term, .slice A g.es.length c], .int .i64 i, .slice A' m c'] w fun e w' => ∃ A2 c2, e = .returned (.tuple #[.agg #[.int .i64 g.base, .int .i64 g.term, .slice A2 (g.appE i M).length c2], .int .i64 (g.appI i M)]) ∧ OwnE w' w.heap.size w'.heap.size A2 c2 (g.appE i M) ∧ Below w.heap.size w w' := by
  rcases hh : g.has i with _ | _
  · have e1 : g.appE i M = g.es := by unfold Rl.Lg.appE; rw [if_neg (by rw [hh]; simp)]
    have e2 : g.appI i M = 0 := by unfold Rl.Lg.appI; rw [if_neg (by rw [hh]; simp)]
    rw [e1, e2]
    exact refApp_no B g A A' c c' i m hg hf hh w h hB
  · obtain ⟨p, h1, h2, h3⟩ := Rl.Lg.has_at hh
    have hP : (g.there p M < m → g.appE i M = g.es.take (p + g.there p M) ++ M.drop (g.there p M) ∧ (g.appE i M).length = p + m ∧ g.appI i M = i + (g.there p M : Nat) + 1) ∧ (¬ g.there p M < m → g.appE i M = g.es ∧ (g.appE i M).length = g.es.length ∧ g.appI i M = 0) := by
      unfold Rl.Lg.appE Rl.Lg.appI
      rw [h3, hm]
      refine ⟨fun hlt => ?_, fun hlt => ?_⟩
      · rw [if_pos ⟨hh, hlt⟩, if_pos ⟨hh, hlt⟩]
        refine ⟨rfl, ?_, rfl⟩
        have := (there_facts g p h2 M).1
        rw [List.length_append, List.length_take, List.length_drop]
        omega
      · rw [if_neg (fun e => hlt e.2), if_neg (fun e => hlt e.2)]
        exact ⟨rfl, rfl, rfl⟩
    by_cases hlt : g.there p M < m
    · by_cases hend : p + g.there p M < g.es.length
      · exact refApp_other B g A A' c c' i p _ m M hm hm' hg hf hfM h1 h2 rfl hlt hend _ _ _ hP w h h' hB
      · exact refApp_end_ B g A A' c c' i p _ m M hm hm' hg hf hfM h1 h2 rfl hlt hend _ _ _ hP w h h' hB
    · exact refApp_all B g A A' c c' i p _ m M hm hm' hg hf hfM h1 h2 rfl hlt _ _ _ hP w h h' hB
end Go.Proofs.Ythocdknfkmclkaa
