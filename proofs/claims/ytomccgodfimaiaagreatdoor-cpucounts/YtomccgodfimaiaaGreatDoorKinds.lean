/- Which fields a form has. -/
import Derived.Test.YtomccgodfimaiaaGreatDoorWrite
namespace Go.Proofs.YtomccgodfimaiaaGreatDoor
set_option linter.all false
open Go Go.RowKit
set_option maxRecDepth 100000
theorem u60 : Tryz.prog.underlying 177 = some (.array 3 176) := Tryz.underlying177
theorem idx0 (a b c : Int) (w : World) : (Instr.index 177 (.agg #[.int .u8 a, .int .u8 b, .int .u8 c]) (.int .i64 0)).run Tryz.prog w = .ok (.int .u8 a) w := by
  simp [Instr.index, go_sem, run_underlying u60, asIntOf, part]
theorem idx1 (a b c : Int) (w : World) : (Instr.index 177 (.agg #[.int .u8 a, .int .u8 b, .int .u8 c]) (.int .i64 1)).run Tryz.prog w = .ok (.int .u8 b) w := by
  simp [Instr.index, go_sem, run_underlying u60, asIntOf, part]
theorem idx2 (a b c : Int) (w : World) : (Instr.index 177 (.agg #[.int .u8 a, .int .u8 b, .int .u8 c]) (.int .i64 2)).run Tryz.prog w = .ok (.int .u8 c) w := by
  simp [Instr.index, go_sem, run_underlying u60, asIntOf, part]
/-- how many fields a form has -/
def nKinds (k1 k2 k3 : Nat) : Nat := if k1 = 0 then 0 else if k2 = 0 then 1 else if k3 = 0 then 2 else 3
set_option maxHeartbeats 4000000 in
theorem kinds_any (word : ByteArray) (k1 k2 k3 : Nat) (w : World) :
    Calls Tryz.prog 131 #[.agg #[.string word, .int .u8 k1, .int .u8 k2, .int .u8 k3]] w fun e w' => e = .returned (.slice (some ⟨w.heap.size, 1, none⟩) (nKinds k1 k2 k3) 3) ∧ w' = w.alloc (.cells #[.string word, .int .u8 k1, .int .u8 k2, .int .u8 k3] 179) := by
  unfold nKinds
  have i0 := idx0
  have i1 := idx1
  have i2 := idx2
  by_cases h1 : k1 = 0
  · subst h1
    go_enter Tryz.func131, Tryz.ntmps131
    go_wp2
    refine wp_loop_rounds 1 ?_
    rw [rounds_succ]; go_wp2
    go_ret
    exact ⟨rfl, rfl⟩
  · have e1 : ¬ (k1 : Int) = 0 := by omega
    rw [if_neg h1]
    by_cases h2 : k2 = 0
    · subst h2
      go_enter Tryz.func131, Tryz.ntmps131
      go_wp2
      refine wp_loop_rounds 2 ?_
      rw [rounds_succ]; go_wp2
      rw [rounds_succ]; go_wp2
      go_ret
      exact ⟨rfl, rfl⟩
    · have e2 : ¬ (k2 : Int) = 0 := by omega
      rw [if_neg h2]
      by_cases h3 : k3 = 0
      · subst h3
        go_enter Tryz.func131, Tryz.ntmps131
        go_wp2
        refine wp_loop_rounds 3 ?_
        rw [rounds_succ]; go_wp2
        rw [rounds_succ]; go_wp2
        rw [rounds_succ]; go_wp2
        go_ret
        exact ⟨rfl, rfl⟩
      · have e3 : ¬ (k3 : Int) = 0 := by omega
        rw [if_neg h3]
        go_enter Tryz.func131, Tryz.ntmps131
        go_wp2
        refine wp_loop_rounds 4 ?_
        rw [rounds_succ]; go_wp2
        rw [rounds_succ]; go_wp2
        rw [rounds_succ]; go_wp2
        rw [rounds_succ]; go_wp2
        go_ret
        exact ⟨rfl, rfl⟩
end Go.Proofs.YtomccgodfimaiaaGreatDoor
