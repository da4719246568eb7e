/- What the statements' own helpers for words answer: that two rows alike are told alike. -/
import Derived.Test.YtpdibhgbaclbaaaDoorOwners
import Derived.Deep.QuietTactic
import Derived.BigQuiet
import Derived.Deep.CutRange
import Derived.Deep.RegionWith
namespace Go.Proofs.YtpdibhgbaclbaaaDoor
open Go Go.RowKit
set_option maxRecDepth 100000
set_option linter.unusedVariables false
theorem cell_lt {w : World} {n i : Nat} {v : Value} (h : w.cell? ⟨n, i, none⟩ = some v) : n < w.heap.size := by
  by_cases hn : n < w.heap.size
  · exact hn
  · rw [World.cell?] at h
    simp [Array.getElem?_eq_none (Nat.le_of_not_lt hn)] at h
theorem same_yes {w : World} {B C : Nat} {sp tp : Option Addr} {zs : List Int} (hs : Src B w sp zs) (ht : Src C w tp zs) (hl : zs.length ≤ 1000000) (c d : Nat) :
    Calls Tryd.prog 13 #[.slice sp zs.length c, .slice tp zs.length d] w fun e w' => e = .returned (.bool true) ∧ Below w.heap.size w w' := by
  by_cases h0 : zs.length = 0
  · rw [h0]
    clear hs ht hl h0
    go_enter Tryd.func13, Tryd.ntmps13
    go_wp2
    refine wp_loop_rounds 1 ?_
    rw [rounds_succ]
    go_wp2
    go_ret
    exact ⟨rfl, Below.refl _ _⟩
  · obtain ⟨b1, o1, rfl, -, c1⟩ := hs.spot (by omega)
    obtain ⟨b2, o2, rfl, -, c2⟩ := ht.spot (by omega)
    have l1 := cell_lt (c1 0 (by omega))
    have l2 := cell_lt (c2 0 (by omega))
    have C1 : Hid (∀ i, i < zs.length → w.cell? ⟨b1, o1 + i, none⟩ = some (.int .u32 (zs.getD i 0))) := c1
    have C2 : Hid (∀ i, i < zs.length → w.cell? ⟨b2, o2 + i, none⟩ = some (.int .u32 (zs.getD i 0))) := c2
    clear hs ht h0 c1 c2
    generalize zs.length = n at *
    go_enter Tryd.func13, Tryd.ntmps13
    go_wp2
    go_loopg [5] n (fun g s5 wx => ∃ i : Nat, i + g = n ∧ s5 = .int .i64 i ∧ Below w.heap.size w wx)
    case atStart => exact ⟨0, by omega, rfl, Below.refl _ _⟩
    case round =>
      obtain ⟨i, hig, rfl, hB⟩ := hrel
      cases gk with
      | zero =>
        have hlt : ¬ ((i : Int) < n) := by omega
        go_wp2
        go_ret
        exact ⟨rfl, hB⟩
      | succ g =>
        have hlt : (i : Int) < n := by omega
        have k1 := (hB.cell (p := ⟨b1, o1 + i, none⟩) l1).trans (C1.out i (by omega))
        have k2 := (hB.cell (p := ⟨b2, o2 + i, none⟩) l2).trans (C2.out i (by omega))
        generalize zs.getD i 0 = z at *
        go_wp2
        go_quiet ((fail))
        go_wp2
        go_roundg g
        case measure => omega
        case rel => exact ⟨i + 1, by omega, by go_num, hB.trans ((below_drewN _ _).mono hB.size)⟩
theorem own_src {w : World} {B g n cap : Nat} {zs : List Int} (ho : w.ownsRow B 40 1 (.slice (some ⟨g, 0, none⟩) n cap) n (wrd zs)) (hz : isW zs) : Src w.heap.size w (some ⟨g, 0, none⟩) zs := by
  have hn : zs.length = n := by have := ho.1; rw [wrd_len] at this; omega
  have hlt : g < w.heap.size := (ho.lt g rfl).2
  exact ⟨fun _ => ⟨g, 0, rfl, hlt, fun i hi => by rw [Nat.zero_add, ho.cellAt i (by omega)]; exact wrd_at zs i hi⟩, hz⟩
theorem same_len {w : World} {B C n : Nat} {sp tp : Option Addr} {zs : List Int} (hs : Src B w sp zs) (ht : Src C w tp zs) (hn : zs.length = n) (hl : n ≤ 1000000) (c d : Nat) :
    Calls Tryd.prog 13 #[.slice sp n c, .slice tp n d] w fun e w' => e = .returned (.bool true) ∧ Below w.heap.size w w' := by
  subst hn; exact same_yes hs ht hl c d
theorem new_zero {w : World} (n : Nat) (h1 : 1 ≤ n) (hn : n ≤ 64) (s : Int) (hs : 1 ≤ s ∧ s ≤ 256) (m : Int) (hm : m = n) :
    Calls Tryd.prog 4 #[.int .i64 m, .int .i64 s] w fun e w' => e = .returned (.tuple #[.pointer (some ⟨w.heap.size, 0, none⟩), .int .i64 0]) ∧ Pool w' w.heap.size n (List.replicate n 0) ∧ Below w.heap.size w w' := by
  subst hm; exact new_yes n s h1 hn hs
end Go.Proofs.YtpdibhgbaclbaaaDoor
