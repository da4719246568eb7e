/- What the functions of package images answer of an image's numbers and of its instructions. -/
import Derived.Test.YtomccgodfimaiaaGreatDoorMem
namespace Go.Proofs.YtomccgodfimaiaaGreatDoor
set_option linter.all false
open Go Go.RowKit
set_option maxRecDepth 100000
set_option linter.unusedVariables false
theorem countsOf_any (size : Int) (sp : Option Addr) (d dc : Nat) (cp : Option Addr) (k kc : Nat) (w : World) :
    Calls Tryz.prog 74 #[.agg #[.int .i64 size, .slice sp d dc, .slice cp k kc]] w fun e w' => e = .returned (.agg #[.int .i64 size, .int .i64 d, .int .i64 k]) ∧ Below w.heap.size w w' := by
  go_enter Tryz.func74, Tryz.ntmps74
  go_wp2
  exact bodyPost_ret (v := .agg #[.int .i64 size, .int .i64 d, .int .i64 k]) (by simp [results, Tryz.results74, go_sem]) rfl ⟨rfl, ((Below.refl _ _).alloc (Nat.le_refl _) _).alloc (by simp) _⟩
theorem mayBe_any (size d k : Int) (w : World) :
    Calls Tryz.prog 75 #[.agg #[.int .i64 size, .int .i64 d, .int .i64 k]] w fun e w' => e = .returned (.bool (okC size d k)) ∧ Below w.heap.size w w' := by
  by_cases h0 : 0 ≤ size <;> by_cases h1 : size ≤ 4096 <;> by_cases h2 : d ≤ size <;> by_cases h3 : k ≤ 1024
  all_goals first
    | (exfalso; omega)
    | (go_enter Tryz.func75, Tryz.ntmps75
       go_wp2
       go_ret
       exact ⟨by simp [okC, h0, h1, h2, h3], (Below.refl _ _).alloc (Nat.le_refl _) _⟩)
end Go.Proofs.YtomccgodfimaiaaGreatDoor
