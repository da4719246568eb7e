/- The document's own 'may': of what a thing may be made. -/
import Derived.Test.YteicnekoogmmmaaGreatDoorSeeZ
namespace Go.Proofs.YteicnekoogmmmaaGreatDoor
open Go Go.RowKit
set_option maxRecDepth 100000
set_option linter.unusedVariables false
set_option maxHeartbeats 1000000 in
theorem km_1 {w : World} {a b : Int} (h : a ≤ b ∧ 1 ≤ b ∧ b ≤ 1073741824) :
    Calls Tryz.prog 17 #[.agg #[.int .u8 1, .int .u32 a, .int .u32 b]] w fun e w' => e = .returned (.bool true) ∧ Below w.heap.size w w' := by
  obtain ⟨h1, h2, h3⟩ := h
  go_enter Tryz.func17, Tryz.ntmps17
  go_wp2
  go_ret
  exact ⟨rfl, alloc_below _ _⟩
set_option maxHeartbeats 1000000 in
theorem km_2 {w : World}  :
    Calls Tryz.prog 17 #[.agg #[.int .u8 2, .int .u32 0, .int .u32 0]] w fun e w' => e = .returned (.bool true) ∧ Below w.heap.size w w' := by
  go_enter Tryz.func17, Tryz.ntmps17
  go_wp2
  go_ret
  exact ⟨rfl, alloc_below _ _⟩
set_option maxHeartbeats 1000000 in
theorem km_3 {w : World} {a : Int} (h : 1 ≤ a ∧ a ≤ 64) :
    Calls Tryz.prog 17 #[.agg #[.int .u8 3, .int .u32 a, .int .u32 0]] w fun e w' => e = .returned (.bool true) ∧ Below w.heap.size w w' := by
  obtain ⟨h1, h2⟩ := h
  go_enter Tryz.func17, Tryz.ntmps17
  go_wp2
  go_ret
  exact ⟨rfl, alloc_below _ _⟩
set_option maxHeartbeats 1000000 in
theorem km_4 {w : World} {a : Int} :
    Calls Tryz.prog 17 #[.agg #[.int .u8 4, .int .u32 a, .int .u32 0]] w fun e w' => e = .returned (.bool true) ∧ Below w.heap.size w w' := by
  go_enter Tryz.func17, Tryz.ntmps17
  go_wp2
  go_ret
  exact ⟨rfl, alloc_below _ _⟩
set_option maxHeartbeats 1000000 in
theorem km_5 {w : World} {a b : Int} (h : 1 ≤ a ∧ a ≤ 64 ∧ 1 ≤ b ∧ b ≤ 256) :
    Calls Tryz.prog 17 #[.agg #[.int .u8 5, .int .u32 a, .int .u32 b]] w fun e w' => e = .returned (.bool true) ∧ Below w.heap.size w w' := by
  obtain ⟨h1, h2, h3, h4⟩ := h
  go_enter Tryz.func17, Tryz.ntmps17
  go_wp2
  go_ret
  exact ⟨rfl, alloc_below _ _⟩
set_option maxHeartbeats 1000000 in
theorem km_6 {w : World} {a b : Int} (h : a ≠ 0) :
    Calls Tryz.prog 17 #[.agg #[.int .u8 6, .int .u32 a, .int .u32 b]] w fun e w' => e = .returned (.bool true) ∧ Below w.heap.size w w' := by
  have h1 : (a != 0) = true := by simpa using h
  clear h
  go_enter Tryz.func17, Tryz.ntmps17
  go_wp2
  go_ret
  exact ⟨rfl, alloc_below _ _⟩
set_option maxHeartbeats 1000000 in
theorem kn_1 {w : World} {a b : Int} (h : ¬ (a ≤ b ∧ 1 ≤ b ∧ b ≤ 1073741824)) :
    Calls Tryz.prog 17 #[.agg #[.int .u8 1, .int .u32 a, .int .u32 b]] w fun e w' => e = .returned (.bool false) ∧ Below w.heap.size w w' := by
  by_cases a1 : a ≤ b
  · by_cases a2 : 1 ≤ b
    · have a3 : ¬ b ≤ 1073741824 := fun h3 => h ⟨a1, a2, h3⟩
      clear h
      go_enter Tryz.func17, Tryz.ntmps17
      go_wp2
      go_ret
      exact ⟨rfl, alloc_below _ _⟩
    · clear h
      go_enter Tryz.func17, Tryz.ntmps17
      go_wp2
      go_ret
      exact ⟨rfl, alloc_below _ _⟩
  · clear h
    go_enter Tryz.func17, Tryz.ntmps17
    go_wp2
    go_ret
    exact ⟨rfl, alloc_below _ _⟩
set_option maxHeartbeats 1000000 in
theorem kn_2 {w : World} {a b : Int} (h : ¬ (a = 0 ∧ b = 0)) :
    Calls Tryz.prog 17 #[.agg #[.int .u8 2, .int .u32 a, .int .u32 b]] w fun e w' => e = .returned (.bool false) ∧ Below w.heap.size w w' := by
  by_cases a1 : a = 0
  · subst a1
    have a2 : (b == 0) = false := by simpa using h
    clear h
    go_enter Tryz.func17, Tryz.ntmps17
    go_wp2
    go_ret
    exact ⟨rfl, alloc_below _ _⟩
  · have a2 : (a == 0) = false := by simpa using a1
    clear h a1
    go_enter Tryz.func17, Tryz.ntmps17
    go_wp2
    go_ret
    exact ⟨rfl, alloc_below _ _⟩
set_option maxHeartbeats 1000000 in
theorem kn_3 {w : World} {a b : Int} (h : ¬ (1 ≤ a ∧ a ≤ 64 ∧ b = 0)) :
    Calls Tryz.prog 17 #[.agg #[.int .u8 3, .int .u32 a, .int .u32 b]] w fun e w' => e = .returned (.bool false) ∧ Below w.heap.size w w' := by
  by_cases a1 : 1 ≤ a
  · by_cases a2 : a ≤ 64
    · have a3 : (b == 0) = false := by simp; exact fun e => h ⟨a1, a2, e⟩
      clear h
      go_enter Tryz.func17, Tryz.ntmps17
      go_wp2
      go_ret
      exact ⟨rfl, alloc_below _ _⟩
    · clear h
      go_enter Tryz.func17, Tryz.ntmps17
      go_wp2
      go_ret
      exact ⟨rfl, alloc_below _ _⟩
  · clear h
    go_enter Tryz.func17, Tryz.ntmps17
    go_wp2
    go_ret
    exact ⟨rfl, alloc_below _ _⟩
set_option maxHeartbeats 1000000 in
theorem kn_4 {w : World} {a b : Int} (h : b ≠ 0) :
    Calls Tryz.prog 17 #[.agg #[.int .u8 4, .int .u32 a, .int .u32 b]] w fun e w' => e = .returned (.bool false) ∧ Below w.heap.size w w' := by
  have a2 : (b == 0) = false := by simpa using h
  clear h
  go_enter Tryz.func17, Tryz.ntmps17
  go_wp2
  go_ret
  exact ⟨rfl, alloc_below _ _⟩
set_option maxHeartbeats 1000000 in
theorem kn_5 {w : World} {a b : Int} (h : ¬ (1 ≤ a ∧ a ≤ 64 ∧ 1 ≤ b ∧ b ≤ 256)) :
    Calls Tryz.prog 17 #[.agg #[.int .u8 5, .int .u32 a, .int .u32 b]] w fun e w' => e = .returned (.bool false) ∧ Below w.heap.size w w' := by
  by_cases a1 : 1 ≤ a
  · by_cases a2 : a ≤ 64
    · by_cases a3 : 1 ≤ b
      · have a4 : ¬ b ≤ 256 := fun h4 => h ⟨a1, a2, a3, h4⟩
        clear h
        go_enter Tryz.func17, Tryz.ntmps17
        go_wp2
        go_ret
        exact ⟨rfl, alloc_below _ _⟩
      · clear h
        go_enter Tryz.func17, Tryz.ntmps17
        go_wp2
        go_ret
        exact ⟨rfl, alloc_below _ _⟩
    · clear h
      go_enter Tryz.func17, Tryz.ntmps17
      go_wp2
      go_ret
      exact ⟨rfl, alloc_below _ _⟩
  · clear h
    go_enter Tryz.func17, Tryz.ntmps17
    go_wp2
    go_ret
    exact ⟨rfl, alloc_below _ _⟩
set_option maxHeartbeats 1000000 in
theorem kn_6 {w : World} {b : Int} :
    Calls Tryz.prog 17 #[.agg #[.int .u8 6, .int .u32 0, .int .u32 b]] w fun e w' => e = .returned (.bool false) ∧ Below w.heap.size w w' := by
  go_enter Tryz.func17, Tryz.ntmps17
  go_wp2
  go_ret
  exact ⟨rfl, alloc_below _ _⟩
set_option maxHeartbeats 1000000 in
theorem kn_far {w : World} {k a b : Int} (h : k < 1 ∨ 6 < k) :
    Calls Tryz.prog 17 #[.agg #[.int .u8 k, .int .u32 a, .int .u32 b]] w fun e w' => e = .returned (.bool false) ∧ Below w.heap.size w w' := by
  have h1 : (k == 1) = false := by simp; omega
  have h2 : (k == 2) = false := by simp; omega
  have h3 : (k == 3) = false := by simp; omega
  have h4 : (k == 4) = false := by simp; omega
  have h5 : (k == 5) = false := by simp; omega
  have h6 : (k == 6) = false := by simp; omega
  clear h
  go_enter Tryz.func17, Tryz.ntmps17
  go_wp2
  go_ret
  exact ⟨rfl, alloc_below _ _⟩
theorem kmay_yes {w : World} {k a b : Int} (h : May k a b) : Calls Tryz.prog 17 #[.agg #[.int .u8 k, .int .u32 a, .int .u32 b]] w fun e w' => e = .returned (.bool true) ∧ Below w.heap.size w w' := by
  unfold May at h
  rcases h with ⟨rfl, h⟩ | ⟨rfl, rfl, rfl⟩ | ⟨rfl, h1, h2, rfl⟩ | ⟨rfl, rfl⟩ | ⟨rfl, h⟩ | ⟨rfl, h⟩
  · exact km_1 h
  · exact km_2
  · exact km_3 ⟨h1, h2⟩
  · exact km_4
  · exact km_5 h
  · exact km_6 h
theorem kmay_no {w : World} {k a b : Int} (h : ¬ May k a b) : Calls Tryz.prog 17 #[.agg #[.int .u8 k, .int .u32 a, .int .u32 b]] w fun e w' => e = .returned (.bool false) ∧ Below w.heap.size w w' := by
  unfold May at h
  by_cases h1 : k = 1
  · subst h1; exact kn_1 (by omega)
  by_cases h2 : k = 2
  · subst h2; exact kn_2 (by omega)
  by_cases h3 : k = 3
  · subst h3; exact kn_3 (by omega)
  by_cases h4 : k = 4
  · subst h4; exact kn_4 (by omega)
  by_cases h5 : k = 5
  · subst h5; exact kn_5 (by omega)
  by_cases h6 : k = 6
  · subst h6
    obtain rfl : a = 0 := by omega
    exact kn_6
  exact kn_far (by omega)
end Go.Proofs.YteicnekoogmmmaaGreatDoor
