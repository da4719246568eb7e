/- Two instructions, or two rows of four bytes, are the same just if each part is. -/
import Derived.Test.YtdneldjnkkpmoaaDoorRef
import Derived.Laws.StructEq
namespace Go.Proofs.YtdneldjnkkpmoaaDoor
open Go Go.RowKit
set_option maxRecDepth 100000
theorem u25 : Tryd.prog.underlying 25 = some (.array 4 5) := Tryd.underlying25
theorem u5 : Tryd.prog.underlying 5 = some (.int .u8) := Tryd.underlying5
theorem eqIn_bytes (d : Nat) (o a b c o' a' b' c' : Int) (w : World) :
    (Op.equalIn (d + 1 + 1) 25 (.agg #[.int .u8 o, .int .u8 a, .int .u8 b, .int .u8 c]) (.agg #[.int .u8 o', .int .u8 a', .int .u8 b', .int .u8 c'])).run Tryd.prog w = .ok (o == o' && (a == a' && (b == b' && c == c'))) w := by
  have e : ∀ (x y : Int) (w : World), (Op.equalIn (d + 1) 5 (.int .u8 x) (.int .u8 y)).run Tryd.prog w = .ok (x == y) w := fun x y w => run_equalIn_int w d 5 .u8 .u8 x y u5
  rw [Op.equalIn]
  simp only [Sem.run_bind, run_underlying u25, Result.andThen]
  simp only [List.range', Std.Legacy.Range.forIn_eq_forIn_range', Std.Legacy.Range.size]
  by_cases h1 : o = o' <;> by_cases h2 : a = a' <;> by_cases h3 : b = b' <;> by_cases h4 : c = c' <;>
    simp [go_sem, part, e, h1, h2, h3, h4]
theorem eq_bytes (o a b c o' a' b' c' : Int) (w : World) :
    (binOp .eql 25 (.agg #[.int .u8 o, .int .u8 a, .int .u8 b, .int .u8 c]) (.agg #[.int .u8 o', .int .u8 a', .int .u8 b', .int .u8 c'])).run Tryd.prog w = .ok (.bool (o == o' && (a == a' && (b == b' && c == c')))) w := by
  rw [run_eql_struct, show (10000 : Nat) = 9998 + 1 + 1 from rfl, eqIn_bytes]
  rfl
theorem eq_instr (o a b c o' a' b' c' : Int) (w : World) :
    (binOp .eql 24 (.agg #[.int .u8 o, .int .u8 a, .int .u8 b, .int .u8 c]) (.agg #[.int .u8 o', .int .u8 a', .int .u8 b', .int .u8 c'])).run Tryd.prog w = .ok (.bool (o == o' && (a == a' && (b == b' && c == c')))) w := by
  by_cases h1 : o = o' <;> by_cases h2 : a = a' <;> by_cases h3 : b = b' <;> by_cases h4 : c = c' <;>
    simp [go_sem, h1, h2, h3, h4]
end Go.Proofs.YtdneldjnkkpmoaaDoor
