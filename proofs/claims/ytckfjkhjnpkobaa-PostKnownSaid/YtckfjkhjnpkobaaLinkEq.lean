/- Two ways, arrays of two numbers, held against one another. -/
import Derived.Test.YtckfjkhjnpkobaaPostA
import Derived.ChangeKeysEq
namespace Go.Proofs.Ytckfjkhjnpkobaa
open Go.RowKit

theorem link_guard : Try.prog.eqGuardType Try.prog.depth 66 = false := by kernel_rfl
theorem int_cells : Try.prog.cellsOf 3 = 1 := by kernel_rfl
set_option maxRecDepth 100000 in
theorem link_eq (w : World) (a b c d : Int) : (Op.equalIn 10000 66 (.agg #[.int .i64 a, .int .i64 b]) (.agg #[.int .i64 c, .int .i64 d])).run Try.prog w = .ok (a == c && b == d) w := by
  obtain ⟨i0, hi⟩ := info_of_underlying (P := Try.prog) Try.underlying3
  have he : Try.prog.plainKey 3 = true := by unfold Program.plainKey; rw [Try.underlying3]
  have p : ∀ (x y : Int) (w : World), (part 3 #[Value.int .i64 x, Value.int .i64 y] 0).run Try.prog w = .ok (.int .i64 x) w := fun x y w => run_part_plain w he rfl
  have q : ∀ (x y : Int) (w : World), (part 3 #[Value.int .i64 x, Value.int .i64 y] 1).run Try.prog w = .ok (.int .i64 y) w := fun x y w => run_part_plain w he rfl
  have r : ∀ (x y : Int) (w : World), (Op.equalIn 9999 3 (.int .i64 x) (.int .i64 y)).run Try.prog w = .ok (x == y) w := fun x y w => run_equalIn_int w 9998 3 .i64 .i64 x y Try.underlying3
  rw [run_equalIn_array w 9999 _ _ Try.underlying66 hi, int_cells, show List.range 2 = [0, 1] from rfl]
  simp only [Op.eqItems, Sem.run_bind, Nat.zero_mul, Nat.one_mul, p, r, Result.andThen_ok]
  by_cases h1 : a = c
  · by_cases h2 : b = d
    · simp [h1, h2, q, r]
    · have h3 : (b == d) = false := by simpa using h2
      simp [h1, q, r, h3]
  · simp [h1]
end Go.Proofs.Ytckfjkhjnpkobaa
