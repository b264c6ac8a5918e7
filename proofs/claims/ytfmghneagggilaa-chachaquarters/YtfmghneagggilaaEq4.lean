/-
  FOUR NUMBERS OF 32 BITS, held against themselves.
-/
import Derived.Test.YtfmghneagggilaaProg
import Derived.WalkKit
import Derived.ChangeKeysEq
namespace Go.Proofs.Ytfmghneagggilaa.cha
open Go.RowKit

theorem eqInfo : (Try.prog.info? 22).map (·.size) = some 1 := by kernel_rfl
theorem eqInt (d : Nat) (a : Int) (w : World) : (Op.equalIn (d + 1) 22 (.int .u32 a) (.int .u32 a)).run Try.prog w = .ok true w := by
  simp [Op.equalIn, run_underlying Try.underlying22]
theorem eqPart (xs : Array Value) (off : Nat) (v : Value) (hx : xs[off]? = some v) (w : World) : (part 22 xs off).run Try.prog w = .ok v w := by
  simp [part, isAgg, run_underlying Try.underlying22, hx]
theorem eq4 (a b c d : Int) (w : World) : (Op.equalIn 10000 25 (.agg #[.int .u32 a, .int .u32 b, .int .u32 c, .int .u32 d]) (.agg #[.int .u32 a, .int .u32 b, .int .u32 c, .int .u32 d])).run Try.prog w = .ok true w := by
  obtain ⟨i, hi, h1⟩ := Option.map_eq_some_iff.1 eqInfo
  have hc : Try.prog.cellsOf 22 = 1 := by simp [Program.cellsOf, hi, h1]
  refine (run_equalIn_array w 9999 _ _ Try.underlying25 hi).trans ?_
  rw [hc, show List.range 4 = [0, 1, 2, 3] from rfl]
  have p0 := eqPart #[.int .u32 a, .int .u32 b, .int .u32 c, .int .u32 d] 0 (.int .u32 a) rfl
  have p1 := eqPart #[.int .u32 a, .int .u32 b, .int .u32 c, .int .u32 d] 1 (.int .u32 b) rfl
  have p2 := eqPart #[.int .u32 a, .int .u32 b, .int .u32 c, .int .u32 d] 2 (.int .u32 c) rfl
  have p3 := eqPart #[.int .u32 a, .int .u32 b, .int .u32 c, .int .u32 d] 3 (.int .u32 d) rfl
  have q : ∀ (x : Int) (w : World), (Op.equalIn 9999 22 (.int .u32 x) (.int .u32 x)).run Try.prog w = .ok true w := eqInt 9998
  simp only [Op.eqItems, Sem.run_bind, Nat.zero_mul, Nat.one_mul, Nat.reduceMul, p0, p1, p2, p3, q, Result.andThen_ok, Bool.not_true, Bool.false_eq_true, if_false, Sem.run_pure]
end Go.Proofs.Ytfmghneagggilaa.cha
