/- What the functions of package masks answer, for every number. -/
import Derived.Test.YteicnekoogmmmaaGreatDoorMMem
import Derived.Laws.EntriesVeiled
import Derived.Laws.Rows
namespace Go.Proofs.YteicnekoogmmmaaGreatDoor.Mk
open Go Go.RowKit
set_option maxRecDepth 100000
set_option linter.unusedVariables false
theorem met_any (f g : Nat) (hf : f < 4294967296) (hg : g < 4294967296) (w : World) :
    Calls Tryz.prog 136 #[.int .u32 (f : Nat), .int .u32 (g : Nat)] w fun e w' => e = .returned (.int .u32 ((f &&& g : Nat) : Int)) ∧ w = w' := by
  have e := u32_and_nat f g hf hg
  generalize f &&& g = x at *
  go_enter Tryz.func136, Tryz.ntmps136
  go_wp2
  go_ret
  exact ⟨rfl, rfl⟩
theorem asking_any (all : Bool) (w : World) :
    Calls Tryz.prog 139 #[.bool all] w fun e w' => e = .returned (.int .i64 (if all then 1 else 0)) ∧ w = w' := by
  cases all
  all_goals (go_enter Tryz.func139, Tryz.ntmps139; go_wp2; go_ret; exact ⟨rfl, rfl⟩)
theorem any_yes {w : World} {p x : Nat} (h : w.cell? ⟨p, 0, none⟩ = some (.int .u32 (x : Nat))) :
    Calls Tryz.prog 140 #[.pointer (some ⟨p, 0, none⟩)] w fun e w' => e = .returned (.bool (!decide (x = 0))) ∧ w = w' := by
  go_enter Tryz.func140, Tryz.ntmps140
  go_wp2
  go_ret
  refine ⟨congrArg Ending.returned (congrArg Value.bool (hold_iff ?_)), rfl⟩
  rw [bne_iff_ne, Bool.not_eq_true', decide_eq_false_iff_not]
  omega
theorem all_yes {w : World} {p q x y : Nat} (h : w.cell? ⟨p, 0, none⟩ = some (.int .u32 (x : Nat))) (k : w.cell? ⟨q, 0, none⟩ = some (.int .u32 (y : Nat))) :
    Calls Tryz.prog 141 #[.pointer (some ⟨p, 0, none⟩), .pointer (some ⟨q, 0, none⟩)] w fun e w' => e = .returned (.bool (decide (x = y))) ∧ w = w' := by
  go_enter Tryz.func141, Tryz.ntmps141
  go_wp2
  go_ret
  refine ⟨congrArg Ending.returned (congrArg Value.bool (hold_iff ?_)), rfl⟩
  rw [beq_iff_eq, decide_eq_true_eq]
  omega
theorem three_at (w : World) (a b c : Obj) : (((w.alloc a).alloc b).alloc c).heap[w.heap.size]? = some a ∧ (((w.alloc a).alloc b).alloc c).heap[w.heap.size + 1]? = some b ∧ (((w.alloc a).alloc b).alloc c).heap[w.heap.size + 1 + 1]? = some c ∧ Below w.heap.size w (((w.alloc a).alloc b).alloc c) := by
  have s1 := alloc_size w a
  have s2 := alloc_size (w.alloc a) b
  have b1 := alloc_below w a
  have b2 := alloc_below (w.alloc a) b
  have b3 := alloc_below ((w.alloc a).alloc b) c
  refine ⟨?_, ?_, ?_, b1.trans ((b2.mono (by omega)).trans (b3.mono (by omega)))⟩
  · rw [b3.block _ (by omega), b2.block _ (by omega)]; exact alloc_at w a
  · rw [b3.block _ (by omega), ← s1]; exact alloc_at _ b
  · rw [show w.heap.size + 1 + 1 = ((w.alloc a).alloc b).heap.size by omega]; exact alloc_at _ c
theorem asked_any (f g : Nat) (hf : f < 4294967296) (hg : g < 4294967296) (w : World) :
    Calls Tryz.prog 138 #[.int .u32 (f : Nat), .int .u32 (g : Nat)] w fun e w' => (∃ p q : Nat, e = .returned (.agg #[.func (.func 140) #[] #[.pointer (some ⟨p, 0, none⟩)], .func (.func 141) #[] #[.pointer (some ⟨p, 0, none⟩), .pointer (some ⟨q, 0, none⟩)]]) ∧ w'.cell? ⟨p, 0, none⟩ = some (.int .u32 ((f &&& g : Nat) : Int)) ∧ w'.cell? ⟨q, 0, none⟩ = some (.int .u32 (g : Nat))) ∧ Below w.heap.size w w' := by
  have hM := fun wx => met_any f g hf hg wx
  have hl : f &&& g < 4294967296 := and_lt hf
  generalize f &&& g = x at *
  go_enter Tryz.func138, Tryz.ntmps138
  go_wp2_with (go_at_call 136; refine (hM _).mono ?_; rintro e wx ⟨rfl, rfl⟩)
  have T := three_at w (.cells #[.int .u32 (g : Nat)] 23) (.cells #[.func (.func 140) #[] #[.pointer (some ⟨w.heap.size + 1 + 1, 0, none⟩)], .func (.func 141) #[] #[.pointer (some ⟨w.heap.size + 1 + 1, 0, none⟩), .pointer (some ⟨w.heap.size, 0, none⟩)]] 201) (.cells #[.int .u32 (x : Nat)] 23)
  obtain ⟨h0, h1, h2, hb⟩ := T
  refine bodyPost_ret (results_cell_row (g := w.heap.size + 1) rfl _ _ _ _ _ (d := .array 2 27) rfl h1 Tryz.underlying201 rfl (by kernel_rfl)) rfl ?_
  exact ⟨⟨_, _, rfl, by rw [cell_of h2]; rfl, by rw [cell_of h0]; rfl⟩, hb⟩
theorem index_two (fa fb : Nat) (ca cb : Array Value) (W : World) :
    (Instr.index 201 (.agg #[.func (.func fa) #[] ca, .func (.func fb) #[] cb]) (.int .i64 0)).run Tryz.prog W = .ok (.func (.func fa) #[] ca) W ∧ (Instr.index 201 (.agg #[.func (.func fa) #[] ca, .func (.func fb) #[] cb]) (.int .i64 1)).run Tryz.prog W = .ok (.func (.func fb) #[] cb) W := by
  constructor <;> simp [Instr.index, asIntOf, run_underlying Tryz.underlying201, part, go_sem]
theorem holds_any (f g : Nat) (hf : f < 4294967296) (hg : g < 4294967296) (all : Bool) (w : World) :
    Calls Tryz.prog 135 #[.int .u32 (f : Nat), .int .u32 (g : Nat), .bool all] w fun e w' => e = .returned (.bool (hold f g all)) ∧ Below w.heap.size w w' := by
  have hA := asked_any f g hf hg w
  have hI := fun wx => asking_any all wx
  have hX := fun fa fb ca cb wx => (index_two fa fb ca cb wx).1
  have hY := fun fa fb ca cb wx => (index_two fa fb ca cb wx).2
  cases all
  · show Calls _ _ _ _ fun e w' => e = .returned (.bool (!decide (f &&& g = 0))) ∧ _
    generalize f &&& g = x at *
    go_enter Tryz.func135, Tryz.ntmps135
    go_wp2_with (first
      | (go_at_call 138; refine hA.mono ?_; rintro e w1 ⟨⟨p, q, rfl, c1, c2⟩, hb⟩)
      | (go_at_call 139; refine (hI _).mono ?_; rintro e wx ⟨rfl, rfl⟩)
      | (go_at_call 140; refine (any_yes c1).mono ?_; rintro e wx ⟨rfl, rfl⟩))
    go_ret
    exact ⟨rfl, hb⟩
  · show Calls _ _ _ _ fun e w' => e = .returned (.bool (decide (f &&& g = g))) ∧ _
    generalize f &&& g = x at *
    go_enter Tryz.func135, Tryz.ntmps135
    go_wp2_with (first
      | (go_at_call 138; refine hA.mono ?_; rintro e w1 ⟨⟨p, q, rfl, c1, c2⟩, hb⟩)
      | (go_at_call 139; refine (hI _).mono ?_; rintro e wx ⟨rfl, rfl⟩)
      | (go_at_call 141; refine (all_yes c1 c2).mono ?_; rintro e wx ⟨rfl, rfl⟩))
    go_ret
    exact ⟨rfl, hb⟩
theorem after_any (f g : Nat) (hf : f < 4294967296) (hg : g < 4294967296) (all gone : Bool) (w : World) :
    Calls Tryz.prog 137 #[.int .u32 (f : Nat), .int .u32 (g : Nat), .bool all, .bool gone] w fun e w' => e = .returned (.int .u32 (aft f g all gone : Nat)) ∧ Below w.heap.size w w' := by
  have hH := fun wx => holds_any f g hf hg all wx
  have hA := u32_andNot_nat f g hf hg
  cases gone
  · show Calls _ _ _ _ fun e w' => e = .returned (.int .u32 (f : Nat)) ∧ _
    clear hH hA
    go_enter Tryz.func137, Tryz.ntmps137
    go_wp2
    go_ret
    exact ⟨rfl, Below.refl _ _⟩
  · unfold aft
    rw [Bool.true_and]
    cases q : hold f g all
    · rw [if_neg (by decide)]
      rw [q] at hH
      go_enter Tryz.func137, Tryz.ntmps137
      go_wp2_with (first
        | (go_at_call 135; refine (hH _).mono ?_; rintro e w1 ⟨rfl, hb⟩))
      go_ret
      exact ⟨rfl, hb⟩
    · rw [if_pos rfl]
      rw [q] at hH
      have hA2 : bits .andNot .u32 (f : Int) (g : Int) = ((bt f g : Nat) : Int) := hA
      clear hA
      generalize bt f g = x at *
      go_enter Tryz.func137, Tryz.ntmps137
      go_wp2_with (first
        | (go_at_call 135; refine (hH _).mono ?_; rintro e w1 ⟨rfl, hb⟩))
      go_ret
      exact ⟨rfl, hb⟩
end Go.Proofs.YteicnekoogmmmaaGreatDoor.Mk
