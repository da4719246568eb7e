/- What the functions of package images answer of an image's numbers and of its instructions. -/
import Derived.Test.YtcjghnnliepjjaaGreatDoorMem
namespace Go.Proofs.YtcjghnnliepjjaaGreatDoor
open Go Go.RowKit
set_option maxRecDepth 100000
set_option linter.unusedVariables false
theorem iPut_any (o a b c : Int) (w : World) : Calls Tryz.prog 32 #[.agg #[.int .u8 o, .int .u8 a, .int .u8 b, .int .u8 c]] w fun e w' => e = .returned (.agg #[.int .u8 o, .int .u8 a, .int .u8 b, .int .u8 c]) ∧ Below w.heap.size w w' := by
  go_enter Tryz.func32, Tryz.ntmps32
  go_wp2
  exact bodyPost_ret (v := .agg #[.int .u8 o, .int .u8 a, .int .u8 b, .int .u8 c]) (by simp [results, Tryz.results32, go_sem]) rfl ⟨rfl, ((Below.refl _ _).alloc (Nat.le_refl _) _).alloc (by simp) _⟩
theorem countsOf_any (size : Int) (sp : Option Addr) (d dc : Nat) (cp : Option Addr) (k kc : Nat) (w : World) :
    Calls Tryz.prog 29 #[.agg #[.int .i64 size, .slice sp d dc, .slice cp k kc]] w fun e w' => e = .returned (.agg #[.int .i64 size, .int .i64 d, .int .i64 k]) ∧ Below w.heap.size w w' := by
  go_enter Tryz.func29, Tryz.ntmps29
  go_wp2
  exact bodyPost_ret (v := .agg #[.int .i64 size, .int .i64 d, .int .i64 k]) (by simp [results, Tryz.results29, go_sem]) rfl ⟨rfl, ((Below.refl _ _).alloc (Nat.le_refl _) _).alloc (by simp) _⟩
theorem mayBe_any (size d k : Int) (w : World) :
    Calls Tryz.prog 35 #[.agg #[.int .i64 size, .int .i64 d, .int .i64 k]] w fun e w' => e = .returned (.bool (okC size d k)) ∧ Below w.heap.size w w' := by
  by_cases h0 : 0 ≤ size <;> by_cases h1 : size ≤ 4096 <;> by_cases h2 : d ≤ size <;> by_cases h3 : k ≤ 1024
  all_goals first
    | (exfalso; omega)
    | (go_enter Tryz.func35, Tryz.ntmps35
       go_wp2
       go_ret
       exact ⟨by simp [okC, h0, h1, h2, h3], (Below.refl _ _).alloc (Nat.le_refl _) _⟩)
theorem allBytes_any (size d k : Int) (hd : 0 ≤ d ∧ d < 65536) (hk : 0 ≤ k ∧ k < 65536) (w : World) :
    Calls Tryz.prog 30 #[.agg #[.int .i64 size, .int .i64 d, .int .i64 k]] w fun e w' => e = .returned (.int .i64 (9 + d + k * 4)) ∧ Below w.heap.size w w' := by
  go_enter Tryz.func30, Tryz.ntmps30
  go_wp2
  go_ret
  exact ⟨by go_num, (Below.refl _ _).alloc (Nat.le_refl _) _⟩
end Go.Proofs.YtcjghnnliepjjaaGreatDoor
