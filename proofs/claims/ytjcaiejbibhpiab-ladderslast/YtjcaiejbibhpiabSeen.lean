/- Lists of numbers that are read: 'has' tells whether a number is there, 'SameInts' that two lists alike are alike; 'alive' answers true. -/
import Derived.Test.YtjcaiejbibhpiabList
import Derived.Deep.QuietTactic
import Derived.BigQuiet
import Derived.Deep.CutRange
import Derived.Deep.RegionWith
import Derived.Deep.RegionLaw
namespace Go.Proofs.Ytjcaiejbibhpiab
open Go Go.RowKit
set_option maxRecDepth 100000
set_option linter.unusedVariables false
theorem cell_lt {w : World} {n i : Nat} {v : Value} (h : w.cell? ⟨n, i, none⟩ = some v) : n < w.heap.size := by
  by_cases hn : n < w.heap.size
  · exact hn
  · rw [World.cell?] at h
    simp [Array.getElem?_eq_none (Nat.le_of_not_lt hn)] at h
theorem below_drewN (w : World) : ∀ n, Below w.heap.size w (w.drewN n)
  | 0 => Below.refl _ _
  | n + 1 => by
    have := below_drewN w n
    exact ⟨this.os, this.tape, this.output, this.size, this.block⟩
/-- a slice of numbers that is read -/
def Src (w : World) (sp : Option Addr) (zs : List Int) : Prop :=
  0 < zs.length → ∃ b off, sp = some ⟨b, off, none⟩ ∧ ∀ i, i < zs.length → w.cell? ⟨b, off + i, none⟩ = some (.int .i64 (zs.getD i 0))
theorem Src.below {w w' : World} {sp : Option Addr} {zs : List Int} (h : Src w sp zs) (hb : Below w.heap.size w w') : Src w' sp zs := by
  intro hz
  obtain ⟨b, off, e, hc⟩ := h hz
  exact ⟨b, off, e, fun i hi => by rw [hb.cell (p := ⟨b, off + i, none⟩) (cell_lt (hc i hi))]; exact hc i hi⟩
theorem Src.own {w : World} {B : Nat} {v : Value} {zs : List Int} (h : w.ownsRow B 3 1 v zs.length (zs.map (Value.int .i64))) : ∃ sp cap, v = .slice sp zs.length cap ∧ Src w sp zs := by
  rcases h.2 with ⟨rfl, h0⟩ | ⟨g, cap, cur, rfl, _⟩
  · exact ⟨none, 0, by rw [h0], fun hz => by omega⟩
  · exact ⟨_, cap, rfl, fun _ => ⟨g, 0, rfl, fun i hi => by rw [Nat.zero_add, h.cellAt i (by omega)]; simp [hi]⟩⟩
/-- the list, as a slice that is read -/
theorem list_src (L : Nat) (hL : L < 4294967296) (w : World) :
    Calls Try.prog 6 #[.int .u32 (L : Int)] w fun e w' => ∃ sp cap, e = .returned (.slice sp (told L).length cap) ∧ Src w' sp (told L) ∧ Below w.heap.size w w' :=
  (list_any L hL w).mono fun e w' ⟨v, he, ho, _, hb⟩ => by
    obtain ⟨sp, cap, rfl, hs⟩ := Src.own ho
    exact ⟨sp, cap, he, hs, hb⟩
theorem told_le (L : Nat) : (told L).length ≤ 32 := by rw [told_len]; exact ranks_len L
theorem getD_mem {zs : List Int} {i : Nat} (h : i < zs.length) : zs.getD i 0 ∈ zs := by
  rw [show zs.getD i 0 = zs[i] by simp [h]]; exact List.getElem_mem h
theorem not_mem_of {zs : List Int} {r : Int} (h : ∀ j, j < zs.length → zs.getD j 0 ≠ r) : r ∉ zs := by
  intro hm
  obtain ⟨j, hj, e⟩ := List.getElem_of_mem hm
  exact h j hj (by simp [hj, e])
theorem has_any {w : World} {sp : Option Addr} {zs : List Int} (hs : Src w sp zs) (hl : zs.length ≤ 1000000) (c : Nat) (r : Int) :
    Calls Try.prog 7 #[.slice sp zs.length c, .int .i64 r] w fun e w' => e = .returned (.bool (decide (r ∈ zs))) ∧ w' = w := by
  by_cases h0 : zs.length = 0
  · obtain rfl : zs = [] := List.eq_nil_of_length_eq_zero h0
    clear hs hl h0
    go_enter Try.func7, Try.ntmps7
    go_wp2
    refine wp_loop_rounds 1 ?_
    rw [rounds_succ]
    go_wp2
    go_ret
    exact ⟨by simp, rfl⟩
  · obtain ⟨b1, o1, rfl, c1⟩ := hs (by omega)
    have C1 : Hid (∀ i, i < zs.length → w.cell? ⟨b1, o1 + i, none⟩ = some (.int .i64 (zs.getD i 0))) := c1
    clear hs h0 c1
    obtain ⟨n, hn⟩ : ∃ n, zs.length = n := ⟨_, rfl⟩
    have HN : Hid (zs.length = n) := hn
    rw [hn] at hl C1 ⊢
    clear hn
    go_enter Try.func7, Try.ntmps7
    go_wp2
    go_loopg [5] n (fun g s5 wx => ∃ i : Nat, i + g = n ∧ s5 = .int .i64 i ∧ w = wx ∧ Hid (∀ j, j < i → zs.getD j 0 ≠ r))
    case atStart => exact ⟨0, by omega, rfl, rfl, fun j hj => by omega⟩
    case round =>
      obtain ⟨i, hig, rfl, rfl, hno⟩ := hrel
      cases gk with
      | zero =>
        have hlt : ¬ ((i : Int) < n) := by omega
        go_wp2
        go_ret
        refine ⟨?_, rfl⟩
        have : r ∉ zs := not_mem_of fun j hj => hno.out j (by have := HN.out; omega)
        simp [this]
      | succ g =>
        have hlt : (i : Int) < n := by omega
        have k1 := C1.out i (by omega)
        have hm : Hid (zs.getD i 0 ∈ zs) := getD_mem (by have := HN.out; omega)
        have hno' : Hid (∀ z, zs.getD i 0 = z → z ≠ r → ∀ j, j < i + 1 → zs.getD j 0 ≠ r) := fun z hz hr j hj => by
          by_cases e : j = i
          · rw [e, hz]; exact hr
          · exact hno.out j (by omega)
        have hz : Hid (zs.getD i 0 = zs.getD i 0) := rfl
        generalize zs.getD i 0 = z at k1 hm hno' hz
        by_cases hr : z = r
        · subst hr
          go_wp2
          go_ret
          exact ⟨by simp [hm.out], rfl⟩
        · have hr' : (z == r) = false := by simp [hr]
          go_wp2
          go_roundg g
          case measure => omega
          case rel => exact ⟨i + 1, by omega, by go_num, rfl, hno'.out z rfl hr⟩
theorem same_yes {w : World} {sp tp : Option Addr} {zs : List Int} (hs : Src w sp zs) (ht : Src w tp zs) (hl : zs.length ≤ 1000000) (c d : Nat) :
    Calls Try.prog 13 #[.slice sp zs.length c, .slice tp zs.length d] w fun e w' => e = .returned (.bool true) ∧ Below w.heap.size w w' := by
  by_cases h0 : zs.length = 0
  · rw [h0]
    clear hs ht hl h0
    go_enter Try.func13, Try.ntmps13
    go_wp2
    refine wp_loop_rounds 1 ?_
    rw [rounds_succ]
    go_wp2
    go_ret
    exact ⟨rfl, Below.refl _ _⟩
  · obtain ⟨b1, o1, rfl, c1⟩ := hs (by omega)
    obtain ⟨b2, o2, rfl, c2⟩ := ht (by omega)
    have l1 := cell_lt (c1 0 (by omega))
    have l2 := cell_lt (c2 0 (by omega))
    have C1 : Hid (∀ i, i < zs.length → w.cell? ⟨b1, o1 + i, none⟩ = some (.int .i64 (zs.getD i 0))) := c1
    have C2 : Hid (∀ i, i < zs.length → w.cell? ⟨b2, o2 + i, none⟩ = some (.int .i64 (zs.getD i 0))) := c2
    clear hs ht h0 c1 c2
    generalize zs.length = n at *
    go_enter Try.func13, Try.ntmps13
    go_wp2
    go_loopg [5] n (fun g s5 wx => ∃ i : Nat, i + g = n ∧ s5 = .int .i64 i ∧ Below w.heap.size w wx)
    case atStart => exact ⟨0, by omega, rfl, Below.refl _ _⟩
    case round =>
      obtain ⟨i, hig, rfl, hB⟩ := hrel
      cases gk with
      | zero =>
        have hlt : ¬ ((i : Int) < n) := by omega
        go_wp2
        go_ret
        exact ⟨rfl, hB⟩
      | succ g =>
        have hlt : (i : Int) < n := by omega
        have k1 := (hB.cell (p := ⟨b1, o1 + i, none⟩) l1).trans (C1.out i (by omega))
        have k2 := (hB.cell (p := ⟨b2, o2 + i, none⟩) l2).trans (C2.out i (by omega))
        generalize zs.getD i 0 = z at *
        go_wp2
        go_quiet ((fail))
        go_wp2
        go_roundg g
        case measure => omega
        case rel => exact ⟨i + 1, by omega, by go_num, hB.trans ((below_drewN _ _).mono hB.size)⟩
theorem told_ex : told 2147483653 = [31, 2, 0] := by decide +kernel
theorem alloc_at (w : World) (o : Obj) : (w.alloc o).heap[w.heap.size]? = some o := by show (w.heap.push o)[w.heap.size]? = some o; exact Array.getElem?_push_size
theorem alloc_size (w : World) (o : Obj) : (w.alloc o).heap.size = w.heap.size + 1 := by show (w.heap.push o).size = _; exact Array.size_push _
theorem alloc_below (w : World) (o : Obj) : Below w.heap.size w (w.alloc o) := (Below.refl _ _).alloc (Nat.le_refl _) _
theorem src3 (w : World) : Src (w.alloc (.cells #[.int .i64 31, .int .i64 2, .int .i64 0] 3)) (some ⟨w.heap.size, 0, none⟩) [31, 2, 0] := by
  intro _
  refine ⟨w.heap.size, 0, rfl, fun i hi => ?_⟩
  have : i = 0 ∨ i = 1 ∨ i = 2 := by have : i < 3 := hi; omega
  simp only [World.cell?, alloc_at]
  rcases this with rfl | rfl | rfl <;> rfl
theorem list3 (w : World) : Calls Try.prog 6 #[.int .u32 2147483653] w fun e w' => ∃ sp cap, e = .returned (.slice sp 3 cap) ∧ Src w' sp [31, 2, 0] ∧ Below w.heap.size w w' := by
  have := list_src 2147483653 (by decide) w
  rw [told_ex] at this
  exact this
theorem same3 {w : World} {sp : Option Addr} (hs : Src w sp [31, 2, 0]) (c : Nat) :
    Calls Try.prog 13 #[.slice sp 3 c, .slice (some ⟨w.heap.size, 0, none⟩) 3 3] (w.alloc (.cells #[.int .i64 31, .int .i64 2, .int .i64 0] 3)) fun e w' => e = .returned (.bool true) ∧ Below w.heap.size w w' :=
  (same_yes (zs := [31, 2, 0]) (hs.below (alloc_below w _)) (src3 w) (by decide) c 3).mono fun e w' ⟨he, hb⟩ => ⟨he, (alloc_below w _).trans (hb.mono (by rw [alloc_size]; omega))⟩
theorem set_n (l : Nat) (r : Int) (m : Nat) (hl : l < 4294967296) (hm : setL l r = m) (w : World) : Calls Try.prog 9 #[.int .u32 (l : Int), .int .i64 r] w fun e w' => e = .returned (.int .u32 (m : Int)) ∧ w' = w := hm ▸ set_any l hl r w
theorem clear_n (l : Nat) (r : Int) (m : Nat) (hl : l < 4294967296) (hm : clrL l r = m) (w : World) : Calls Try.prog 10 #[.int .u32 (l : Int), .int .i64 r] w fun e w' => e = .returned (.int .u32 (m : Int)) ∧ w' = w := hm ▸ clear_any l hl r w
theorem first_n (l m : Nat) (hl : l < 4294967296) (h0 : l ≠ 0) (hm : l.log2 = m) (w : World) : Calls Try.prog 5 #[.int .u32 (l : Int)] w fun e w' => e = .returned (.tuple #[.int .i64 (m : Int), .bool true]) ∧ w' = w := hm ▸ first_yes l hl h0 w
set_option maxHeartbeats 1000000 in
theorem alive_any (w : World) : Calls Try.prog 8 #[] w fun e w' => e = .returned (.bool true) ∧ Below w.heap.size w w' := by
  go_enter Try.func8, Try.ntmps8
  go_wp2_with (first
    | (go_at_call_of 5 (Value.int IntKind.u32 12); refine (first_n 12 3 (by decide) (by decide) (by decide +kernel) _).mono ?_; rintro e w1 ⟨rfl, rfl⟩)
    | (go_at_call_of 5 (Value.int IntKind.u32 0); refine (first_no _).mono ?_; rintro e w1 ⟨rfl, rfl⟩)
    | (go_at_call 6; refine (list3 _).mono ?_; rintro e w1 ⟨sp, cap, rfl, hs, hB⟩)
    | (go_at_call 13; refine (same3 hs _).mono ?_; rintro e w2 ⟨rfl, hb⟩; replace hB := hB.trans (hb.mono hB.size))
    | (go_at_call_of 9 (Value.int IntKind.u32 8); refine (set_n 8 3 8 (by decide) (by decide +kernel) _).mono ?_; rintro e w1 ⟨rfl, rfl⟩)
    | (go_at_call_of 10 (Value.int IntKind.u32 12); refine (clear_n 12 3 4 (by decide) (by decide +kernel) _).mono ?_; rintro e w1 ⟨rfl, rfl⟩)
    | (go_at_call_of 10 (Value.int IntKind.u32 8); refine (clear_n 8 4 8 (by decide) (by decide +kernel) _).mono ?_; rintro e w1 ⟨rfl, rfl⟩)
    | (go_at_call 9; refine (set_n 0 3 8 (by decide) (by decide +kernel) _).mono ?_; rintro e w1 ⟨rfl, rfl⟩)
    | (go_at_call 9; refine (set_n 0 32 0 (by decide) (by decide +kernel) _).mono ?_; rintro e w1 ⟨rfl, rfl⟩))
  go_ret
  exact ⟨rfl, hB⟩
end Go.Proofs.Ytjcaiejbibhpiab
