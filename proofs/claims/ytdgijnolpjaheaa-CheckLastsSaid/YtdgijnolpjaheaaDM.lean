/- A disk that the call has made. -/
import Derived.Test.YtdgijnolpjaheaaDiskG
namespace Go.Proofs.Ytdgijnolpjaheaa
open Go.RowKit

/-- A disk that the call has made since the world w0. -/
structure DM (w0 w : World) (d : Dk) (s : Sx.St) : Prop where
  at_ : DiskAt w (fun k => k < w0.heap.size) d s
  bel : Below w0.heap.size w0 w
namespace DM
variable {w0 w w' : World} {d : Dk} {s s' : Sx.St}
theorem ge (h : DM w0 w d s) : ∀ k, d.has k → w0.heap.size ≤ k := fun k hk => by
  have := h.at_.off k hk
  simp at this
  exact this
theorem below (h : DM w0 w d s) (hb : Below w.heap.size w w') : DM w0 w' d s := ⟨h.at_.below hb, h.bel.trans (hb.mono h.bel.size)⟩
theorem next (h : DM w0 w d s) (hd : DiskAt w' (fun k => k < w0.heap.size) d s') (ht : Turned d.has w w') : DM w0 w' d s' := ⟨hd, h.bel.trans (ht.below h.bel.size h.ge)⟩
theorem drewN (h : DM w0 w d s) (n : Nat) : DM w0 (w.drewN n) d s := h.below (below_drewN (Below.refl _ _) n)
end DM
theorem new_N (n : Nat) (F : Int) (hF : F = (n : Int)) (hn : 1 ≤ n ∧ n ≤ 16384) (w : World) :
    Calls Try.prog 12 #[.int .i64 F] w fun e w' => ∃ d, e = .returned (.tuple #[.pointer (some ⟨d.g, 0, none⟩), .int .i64 0]) ∧ DiskAt w' (fun k => k < w.heap.size) d (Sx.new n) ∧ Below w.heap.size w w' := by
  subst hF
  exact new_any n hn w
end Go.Proofs.Ytdgijnolpjaheaa
