/- What the functions of package words (and the document's own of layer 1) answer, by plain numbers: for every argument that its type allows; no memory is touched. -/
import Derived.Test.YtkgfdacbmeaigabRows
import Derived.WalkKit
import Derived.ProofKit
import Derived.OpenShut
namespace Go.Proofs.Ytkgfdacbmeaigab
open Go.ChangeShapes Go.WideShapes Go.ChangeAt Go.RowKit

/-- a number of 32 bits, with its sign -/
def sgn (a : Int) : Int := if 2147483647 < a then a - 4294967296 else a
theorem xor_all : bits BinOp.xor IntKind.u32 IntKind.u32.max 0 = 4294967295 := by decide
theorem ret_int {k : IntKind} {a b : Int} (h : a = b) : Ending.returned (.int k a) = .returned (.int k b) := by rw [h]
theorem u32_plain : IntKind.u32.signed = false := rfl

theorem withSign_any (a : Int) (w : World) (h : 0 ≤ a ∧ a ≤ 4294967295) :
    Calls Try.prog 10 #[.int .u32 a] w fun e w' => e = .returned (.int .i64 (sgn a)) ∧ w' = w := by
  have hx := xor_all
  have hs := u32_plain
  unfold sgn
  by_cases hc : 2147483647 < a
  · rw [if_pos hc]
    go_enter Try.func10, Try.ntmps10
    go_wp2
    go_ret
    exact ⟨ret_int (by omega), rfl⟩
  · rw [if_neg hc]
    go_enter Try.func10, Try.ntmps10
    go_wp2
    go_ret
    exact ⟨rfl, rfl⟩

theorem Signed_any (a : Int) (w : World) (h : 0 ≤ a ∧ a ≤ 4294967295) :
    Calls Try.prog 9 #[.int .u32 a] w fun e w' => e = .returned (.int .i64 (sgn a)) ∧ w' = w := by
  go_enter Try.func9, Try.ntmps9
  go_wp2_with (go_at_call 10; refine (withSign_any _ _ h).mono ?_; rintro e w' ⟨rfl, rfl⟩)
  go_ret
  exact ⟨rfl, rfl⟩

theorem Of_any (n : Int) (w : World) :
    Calls Try.prog 8 #[.int .i64 n] w fun e w' => e = .returned (.int .u32 (n % 4294967296)) ∧ w' = w := by
  go_enter Try.func8, Try.ntmps8
  go_wp2
  go_ret
  exact ⟨rfl, rfl⟩

theorem Since_any (a b : Int) (w : World) :
    Calls Try.prog 7 #[.int .u32 a, .int .u32 b] w fun e w' => e = .returned (.int .u32 ((b - a) % 4294967296)) ∧ w' = w := by
  go_enter Try.func7, Try.ntmps7
  go_wp2
  go_ret
  exact ⟨rfl, rfl⟩

/-- is a tick past, where another one is? -/
def pst (a b : Int) : Bool := decide ((b - a) % 4294967296 < 2147483648)

theorem Past_any (a b : Int) (w : World) :
    Calls Try.prog 6 #[.int .u32 a, .int .u32 b] w fun e w' => e = .returned (.bool (pst a b)) ∧ w' = w := by
  go_enter Try.func6, Try.ntmps6
  go_wp2_with (go_at_call 7; refine (Since_any _ _ _).mono ?_; rintro e w' ⟨rfl, rfl⟩)
  go_ret
  exact ⟨rfl, rfl⟩

theorem alive_any (w : World) :
    Calls Try.prog 5 #[] w fun e w' => e = .returned (.bool true) ∧ w' = w := by
  have s1 : sgn 5 = 5 := by decide
  have s2 : sgn 4294967295 = -1 := by decide
  have s3 : sgn 2147483648 = -2147483648 := by decide
  have q1 : pst 3 5 = true := by decide
  have q2 : pst 5 3 = false := by decide
  have q3 : pst 4294967295 1 = true := by decide
  have q4 : pst 0 2147483648 = false := by decide
  go_enter Try.func5, Try.ntmps5
  go_wp2_with (first
    | (go_at_call 9; refine (Signed_any _ _ (by omega)).mono ?_; rintro e w' ⟨rfl, rfl⟩)
    | (go_at_call 8; refine (Of_any _ _).mono ?_; rintro e w' ⟨rfl, rfl⟩)
    | (go_at_call 7; refine (Since_any _ _ _).mono ?_; rintro e w' ⟨rfl, rfl⟩)
    | (go_at_call 6; refine (Past_any _ _ _).mono ?_; rintro e w' ⟨rfl, rfl⟩))
  go_ret
  exact ⟨rfl, rfl⟩

end Go.Proofs.Ytkgfdacbmeaigab
