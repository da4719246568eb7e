/- Lists of numbers that are read: 'SameInts' tells that two lists alike are alike. -/
import Derived.Test.YtciafjmljmeimaaDoorDTop
namespace Go.Proofs.YtciafjmljmeimaaDoor
open Go Go.RowKit
set_option maxRecDepth 100000
set_option linter.unusedVariables false
theorem same_yes {w : World} {sp tp : Option Addr} {zs : List Int} (hs : Src w sp zs) (ht : Src w tp zs) (hl : zs.length ≤ 1000000) (c d : Nat) :
    Calls Tryd.prog 12 #[.slice sp zs.length c, .slice tp zs.length d] w fun e w' => e = .returned (.bool true) ∧ Below w.heap.size w w' := by
  by_cases h0 : zs.length = 0
  · rw [h0]
    clear hs ht hl h0
    go_enter Tryd.func12, Tryd.ntmps12
    go_wp2
    refine wp_loop_rounds 1 ?_
    rw [rounds_succ]
    go_wp2
    go_ret
    exact ⟨rfl, Below.refl _ _⟩
  · obtain ⟨b1, o1, rfl, c1⟩ := hs (by omega)
    obtain ⟨b2, o2, rfl, c2⟩ := ht (by omega)
    have l1 := cell_lt (c1 0 (by omega))
    have l2 := cell_lt (c2 0 (by omega))
    have C1 : Hid (∀ i, i < zs.length → w.cell? ⟨b1, o1 + i, none⟩ = some (.int .i64 (zs.getD i 0))) := c1
    have C2 : Hid (∀ i, i < zs.length → w.cell? ⟨b2, o2 + i, none⟩ = some (.int .i64 (zs.getD i 0))) := c2
    clear hs ht h0 c1 c2
    generalize zs.length = n at *
    go_enter Tryd.func12, Tryd.ntmps12
    go_wp2
    go_loopg [5] n (fun g s5 wx => ∃ i : Nat, i + g = n ∧ s5 = .int .i64 i ∧ Below w.heap.size w wx)
    case atStart => exact ⟨0, by omega, rfl, Below.refl _ _⟩
    case round =>
      obtain ⟨i, hig, rfl, hB⟩ := hrel
      cases gk with
      | zero =>
        have hlt : ¬ ((i : Int) < n) := by omega
        go_wp2
        go_ret
        exact ⟨rfl, hB⟩
      | succ g =>
        have hlt : (i : Int) < n := by omega
        have k1 := (hB.cell (p := ⟨b1, o1 + i, none⟩) l1).trans (C1.out i (by omega))
        have k2 := (hB.cell (p := ⟨b2, o2 + i, none⟩) l2).trans (C2.out i (by omega))
        generalize zs.getD i 0 = z at *
        go_wp2
        go_quiet ((fail))
        go_wp2
        go_roundg g
        case measure => omega
        case rel => exact ⟨i + 1, by omega, by go_num, hB.trans ((below_drewN _ _).mono hB.size)⟩
theorem Src.row {w : World} {g : Nat} {zs : List Int} (h : Row w g zs) : Src w (some ⟨g, 0, none⟩) zs := fun _ => ⟨g, 0, rfl, fun i hi => by rw [Nat.zero_add]; exact h.cell i hi⟩
theorem same_is {w : World} {sp tp : Option Addr} {zs : List Int} {n : Nat} (hs : Src w sp zs) (ht : Src w tp zs) (hn : zs.length = n) (hl : n ≤ 1000000) (c d : Nat) :
    Calls Tryd.prog 12 #[.slice sp n c, .slice tp n d] w fun e w' => e = .returned (.bool true) ∧ Below w.heap.size w w' := by subst hn; exact same_yes hs ht hl c d
theorem two_mem {p g r : Nat} (h1 : r ≠ p) (h2 : r ≠ g) : r ∉ [p, g] := by simp [h1, h2]
end Go.Proofs.YtciafjmljmeimaaDoor
