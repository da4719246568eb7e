/- Holds by any Op, as the statements ask it. -/
import Derived.Test.YtdpjkpekafgfeabDo
namespace Go.Proofs.Ytdpjkpekafgfeab
open Go Go.RowKit
set_option maxRecDepth 100000
set_option linter.unusedVariables false
theorem holds_no (o a b : Int) (ho : ¬ (15 ≤ o ∧ o ≤ 18)) (ha : num a) (hb : num b) (w : World) :
    Calls Try.prog 10 #[.int .u8 o, .int .u32 a, .int .u32 b] w fun e w' => e = .returned (.bool false) ∧ Below w.heap.size w w' := by
  have hd : ∀ W, Calls Try.prog 7 #[.int .u8 o, .int .u32 a, .int .u32 b] W fun e w' => e = .returned (.tuple #[.bool false, .int .i64 1]) ∧ Below W.heap.size W w' := fun W => by
    have h := Holds_any o a b ha hb W
    rwa [show hoe o = 1 from if_neg ho, show hov o a b = false by
      unfold hov
      rw [if_neg (by omega), if_neg (by omega), if_neg (by omega), if_neg (by omega)]] at h
  clear ho
  go_enter Try.func10, Try.ntmps10
  go_wp2_with (go_at_call 7; refine (hd _).mono ?_; rintro e w1 ⟨rfl, hb1⟩)
  go_ret
  exact ⟨rfl, hb1⟩
theorem holds_any (o a b : Int) (ha : num a) (hb : num b) (w : World) :
    Calls Try.prog 10 #[.int .u8 o, .int .u32 a, .int .u32 b] w fun e w' => e = .returned (.bool (hov o a b)) ∧ Below w.heap.size w w' := by
  by_cases ho : 15 ≤ o ∧ o ≤ 18
  · obtain rfl | rfl | rfl | rfl : o = 15 ∨ o = 16 ∨ o = 17 ∨ o = 18 := by omega
    · exact holds_same a b ha hb w
    · exact holds_other a b ha hb w
    · exact holds_less a b ha hb w
    · exact holds_below a b ha hb w
  · rw [show hov o a b = false by
      unfold hov
      rw [if_neg (by omega), if_neg (by omega), if_neg (by omega), if_neg (by omega)]]
    exact holds_no o a b ho ha hb w
/-- some Ops lie at block B -/
structure OpsAt (w : World) (B : Nat) (l : List Int) : Prop where
  lt : B < w.heap.size
  at_ : ∀ j x, l[j]? = some x → w.cell? ⟨B, j, none⟩ = some (.int .u8 x)
theorem OpsAt.on {w w' : World} {B : Nat} {l : List Int} (h : OpsAt w B l) (hb : Below w.heap.size w w') : OpsAt w' B l :=
  ⟨Nat.lt_of_lt_of_le h.lt hb.size, fun j x hx => by rw [(bcell hb).1 _ _ h.lt]; exact h.at_ j x hx⟩
end Go.Proofs.Ytdpjkpekafgfeab
