/- Lists of numbers that are read: 'SameInts' tells that two lists alike are alike. -/
import Derived.Test.YtjcaiejbibhpiaaDoorListD
import Derived.Deep.QuietTactic
import Derived.BigQuiet
import Derived.Deep.CutRange
import Derived.Deep.RegionWith
import Derived.Deep.RegionLaw
namespace Go.Proofs.YtjcaiejbibhpiaaDoor
open Go Go.RowKit
set_option maxRecDepth 100000
set_option linter.unusedVariables false
theorem cell_lt {w : World} {n i : Nat} {v : Value} (h : w.cell? ⟨n, i, none⟩ = some v) : n < w.heap.size := by
  by_cases hn : n < w.heap.size
  · exact hn
  · rw [World.cell?] at h
    simp [Array.getElem?_eq_none (Nat.le_of_not_lt hn)] at h
theorem below_drewN (w : World) : ∀ n, Below w.heap.size w (w.drewN n)
  | 0 => Below.refl _ _
  | n + 1 => by
    have := below_drewN w n
    exact ⟨this.os, this.tape, this.output, this.size, this.block⟩
/-- a slice of numbers that is read -/
def Src (w : World) (sp : Option Addr) (zs : List Int) : Prop :=
  0 < zs.length → ∃ b off, sp = some ⟨b, off, none⟩ ∧ ∀ i, i < zs.length → w.cell? ⟨b, off + i, none⟩ = some (.int .i64 (zs.getD i 0))
theorem Src.below {w w' : World} {sp : Option Addr} {zs : List Int} (h : Src w sp zs) (hb : Below w.heap.size w w') : Src w' sp zs := by
  intro hz
  obtain ⟨b, off, e, hc⟩ := h hz
  exact ⟨b, off, e, fun i hi => by rw [hb.cell (p := ⟨b, off + i, none⟩) (cell_lt (hc i hi))]; exact hc i hi⟩
theorem Src.own {w : World} {B : Nat} {v : Value} {zs : List Int} (h : w.ownsRow B 3 1 v zs.length (zs.map (Value.int .i64))) : ∃ sp cap, v = .slice sp zs.length cap ∧ Src w sp zs := by
  rcases h.2 with ⟨rfl, h0⟩ | ⟨g, cap, cur, rfl, _⟩
  · exact ⟨none, 0, by rw [h0], fun hz => by omega⟩
  · exact ⟨_, cap, rfl, fun _ => ⟨g, 0, rfl, fun i hi => by rw [Nat.zero_add, h.cellAt i (by omega)]; simp [hi]⟩⟩
/-- the list, as a slice that is read -/
theorem list_src (L : Nat) (hL : L < 4294967296) (w : World) :
    Calls Tryd.prog 4 #[.int .u32 (L : Int)] w fun e w' => ∃ sp cap, e = .returned (.slice sp (told L).length cap) ∧ Src w' sp (told L) ∧ Below w.heap.size w w' :=
  (list_any L hL w).mono fun e w' ⟨v, he, ho, _, hb⟩ => by
    obtain ⟨sp, cap, rfl, hs⟩ := Src.own ho
    exact ⟨sp, cap, he, hs, hb⟩
theorem told_le (L : Nat) : (told L).length ≤ 32 := by rw [told_len]; exact ranks_len L
theorem getD_mem {zs : List Int} {i : Nat} (h : i < zs.length) : zs.getD i 0 ∈ zs := by
  rw [show zs.getD i 0 = zs[i] by simp [h]]; exact List.getElem_mem h
theorem not_mem_of {zs : List Int} {r : Int} (h : ∀ j, j < zs.length → zs.getD j 0 ≠ r) : r ∉ zs := by
  intro hm
  obtain ⟨j, hj, e⟩ := List.getElem_of_mem hm
  exact h j hj (by simp [hj, e])
theorem same_yes {w : World} {sp tp : Option Addr} {zs : List Int} (hs : Src w sp zs) (ht : Src w tp zs) (hl : zs.length ≤ 1000000) (c d : Nat) :
    Calls Tryd.prog 7 #[.slice sp zs.length c, .slice tp zs.length d] w fun e w' => e = .returned (.bool true) ∧ Below w.heap.size w w' := by
  by_cases h0 : zs.length = 0
  · rw [h0]
    clear hs ht hl h0
    go_enter Tryd.func7, Tryd.ntmps7
    go_wp2
    refine wp_loop_rounds 1 ?_
    rw [rounds_succ]
    go_wp2
    go_ret
    exact ⟨rfl, Below.refl _ _⟩
  · obtain ⟨b1, o1, rfl, c1⟩ := hs (by omega)
    obtain ⟨b2, o2, rfl, c2⟩ := ht (by omega)
    have l1 := cell_lt (c1 0 (by omega))
    have l2 := cell_lt (c2 0 (by omega))
    have C1 : Hid (∀ i, i < zs.length → w.cell? ⟨b1, o1 + i, none⟩ = some (.int .i64 (zs.getD i 0))) := c1
    have C2 : Hid (∀ i, i < zs.length → w.cell? ⟨b2, o2 + i, none⟩ = some (.int .i64 (zs.getD i 0))) := c2
    clear hs ht h0 c1 c2
    generalize zs.length = n at *
    go_enter Tryd.func7, Tryd.ntmps7
    go_wp2
    go_loopg [5] n (fun g s5 wx => ∃ i : Nat, i + g = n ∧ s5 = .int .i64 i ∧ Below w.heap.size w wx)
    case atStart => exact ⟨0, by omega, rfl, Below.refl _ _⟩
    case round =>
      obtain ⟨i, hig, rfl, hB⟩ := hrel
      cases gk with
      | zero =>
        have hlt : ¬ ((i : Int) < n) := by omega
        go_wp2
        go_ret
        exact ⟨rfl, hB⟩
      | succ g =>
        have hlt : (i : Int) < n := by omega
        have k1 := (hB.cell (p := ⟨b1, o1 + i, none⟩) l1).trans (C1.out i (by omega))
        have k2 := (hB.cell (p := ⟨b2, o2 + i, none⟩) l2).trans (C2.out i (by omega))
        generalize zs.getD i 0 = z at *
        go_wp2
        go_quiet ((fail))
        go_wp2
        go_roundg g
        case measure => omega
        case rel => exact ⟨i + 1, by omega, by go_num, hB.trans ((below_drewN _ _).mono hB.size)⟩
theorem alloc_at (w : World) (o : Obj) : (w.alloc o).heap[w.heap.size]? = some o := by show (w.heap.push o)[w.heap.size]? = some o; exact Array.getElem?_push_size
theorem alloc_size (w : World) (o : Obj) : (w.alloc o).heap.size = w.heap.size + 1 := by show (w.heap.push o).size = _; exact Array.size_push _
theorem alloc_below (w : World) (o : Obj) : Below w.heap.size w (w.alloc o) := (Below.refl _ _).alloc (Nat.le_refl _) _
theorem cell_of {w : World} {b i : Nat} {cs : Array Value} {t : TypeId} {k : Nat × Nat} (h : w.heap[b]? = some (.cells cs t k)) : w.cell? ⟨b, i, none⟩ = cs[i]? := by
  simp [World.cell?, h]
theorem at_lt {w : World} {g : Nat} {o : Obj} (h : w.heap[g]? = some o) : g < w.heap.size := by
  rcases Nat.lt_or_ge g w.heap.size with k | k
  · exact k
  · rw [Array.getElem?_eq_none k] at h; cases h
end Go.Proofs.YtjcaiejbibhpiaaDoor
