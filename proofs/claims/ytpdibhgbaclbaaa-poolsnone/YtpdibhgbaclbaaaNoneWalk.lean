/- 'PoolsNone' walked: a pool that is not there, or that no call made, answers nothing. -/
import Derived.Test.YtpdibhgbaclbaaaAlive
namespace Go.Proofs.Ytpdibhgbaclbaaa
open Go Go.RowKit
set_option maxRecDepth 100000
set_option linter.unusedVariables false
/-- what the list holds -/
structure Nones (s : Nat) (w : World) : Prop where
  c0 : w.cell? ⟨s + 1, 0, none⟩ = some (.pointer none)
  c1 : w.cell? ⟨s + 1, 1, none⟩ = some (.pointer (some ⟨s, 0, none⟩))
  c2 : w.cell? ⟨s, 0, none⟩ = some (.int .i64 0)
  lt : s + 2 ≤ w.heap.size
theorem Nones.below {s : Nat} {w w' : World} (h : Nones s w) (hb : Below w.heap.size w w') : Nones s w' :=
  have hl := h.lt
  ⟨(hb.cell (p := ⟨s + 1, 0, none⟩) (show s + 1 < _ by omega)).trans h.c0, (hb.cell (p := ⟨s + 1, 1, none⟩) (show s + 1 < _ by omega)).trans h.c1, (hb.cell (p := ⟨s, 0, none⟩) (show s < _ by omega)).trans h.c2, Nat.le_trans hl hb.size⟩
set_option maxHeartbeats 2000000 in
theorem none_any (who b : Int) (w : World) : Calls Try.prog 3 #[.int .u32 who, .int .i64 b] w fun e w' => e = .returned (.bool true) ∧ Below w.heap.size w w' := by
  have z1 := zval
  have hA := alloc_at w (.cells (zc 0) 26)
  have hb0 := alloc_below w (.cells (zc 0) 26)
  have hs0 := alloc_size w (.cells (zc 0) 26)
  go_enter Try.func3, Try.ntmps3
  go_wp2
  generalize w.alloc (.cells (zc 0) 26) = wa at *
  have hA2 := alloc_at wa (.cells #[.pointer none, .pointer (some ⟨w.heap.size, 0, none⟩)] 23)
  have hb1 := alloc_below wa (.cells #[.pointer none, .pointer (some ⟨w.heap.size, 0, none⟩)] 23)
  have hs1 := alloc_size wa (.cells #[.pointer none, .pointer (some ⟨w.heap.size, 0, none⟩)] 23)
  have hT : Nones w.heap.size (wa.alloc (.cells #[.pointer none, .pointer (some ⟨w.heap.size, 0, none⟩)] 23)) := by
    have hc := (hb1.block w.heap.size (by omega)).trans hA
    rw [hs0] at hA2
    exact ⟨by rw [cell_of hA2]; rfl, by rw [cell_of hA2]; rfl, by rw [cell_of hc]; rfl, by omega⟩
  have hB0 : Below w.heap.size w (wa.alloc (.cells #[.pointer none, .pointer (some ⟨w.heap.size, 0, none⟩)] 23)) := hb0.trans (hb1.mono hb0.size)
  clear hA hb0 hA2 hb1 hs1
  generalize wa.alloc (.cells #[.pointer none, .pointer (some ⟨w.heap.size, 0, none⟩)] 23) = wb at *
  go_loopg [6] 2 (fun g s6 wx => ∃ i : Nat, i + g = 2 ∧ s6 = .int .i64 i ∧ Below w.heap.size w wx ∧ Hid (Nones w.heap.size wx))
  case atStart => exact ⟨0, by omega, rfl, hB0, hT⟩
  case round =>
    clear hB0 hT
    obtain ⟨i, hig, rfl, hB, HT⟩ := hrel
    match gk, hig with
    | 0, hig =>
      obtain rfl : i = 2 := by omega
      go_wp2
      go_ret
      exact ⟨rfl, hB⟩
    | 1, hig =>
      obtain rfl : i = 1 := by omega
      have hl : w.heap.size < wr.heap.size := by have := HT.out.lt; omega
      have c1 := HT.out.c1
      have c2 := HT.out.c2
      go_wp2_with (first
        | (go_at_call 8; refine (alloc_zero c2 hl _).mono ?_; rintro e w1 ⟨rfl, hb⟩; replace hB := hB.trans (hb.mono hB.size); replace HT : Hid (Nones w.heap.size w1) := HT.out.below hb; clear hb c1 c2 hl; have hl : w.heap.size < w1.heap.size := (by have := HT.out.lt; omega); have c1 := HT.out.c1; have c2 := HT.out.c2)
        | (go_at_call 9; refine (free_zero c2 _ _).mono ?_; rintro e wx ⟨rfl, rfl⟩)
        | (go_at_call 10; refine (all_zero c2 hl _).mono ?_; rintro e w1 ⟨rfl, hb⟩; replace hB := hB.trans (hb.mono hB.size); replace HT : Hid (Nones w.heap.size w1) := HT.out.below hb; clear hb c1 c2 hl; have hl : w.heap.size < w1.heap.size := (by have := HT.out.lt; omega); have c1 := HT.out.c1; have c2 := HT.out.c2)
        | (go_at_call 11; refine (owners_zero c2 hl).mono ?_; rintro e w1 ⟨rfl, hb⟩; replace hB := hB.trans (hb.mono hB.size); replace HT : Hid (Nones w.heap.size w1) := HT.out.below hb; clear hb c1 c2 hl; have hl : w.heap.size < w1.heap.size := (by have := HT.out.lt; omega); have c1 := HT.out.c1; have c2 := HT.out.c2)
        | (go_at_call 12; refine (left_zero c2 hl).mono ?_; rintro e w1 ⟨rfl, hb⟩; replace hB := hB.trans (hb.mono hB.size); replace HT : Hid (Nones w.heap.size w1) := HT.out.below hb))
      go_roundg 0
      case measure => omega
      case rel => exact ⟨2, by omega, rfl, hB, HT⟩
    | 2, hig =>
      obtain rfl : i = 0 := by omega
      have c0 := HT.out.c0
      go_wp2_with (first
        | (go_at_call 8; refine (alloc_nil _).mono ?_; rintro e w1 ⟨rfl, hb⟩; replace hB := hB.trans (hb.mono hB.size); replace HT : Hid (Nones w.heap.size w1) := HT.out.below hb; clear hb c0; have c0 := HT.out.c0)
        | (go_at_call 9; refine (free_nil _ _).mono ?_; rintro e wx ⟨rfl, rfl⟩)
        | (go_at_call 10; refine (all_nil _).mono ?_; rintro e w1 ⟨rfl, hb⟩; replace hB := hB.trans (hb.mono hB.size); replace HT : Hid (Nones w.heap.size w1) := HT.out.below hb; clear hb c0; have c0 := HT.out.c0)
        | (go_at_call 11; refine owners_nil.mono ?_; rintro e w1 ⟨rfl, hb⟩; replace hB := hB.trans (hb.mono hB.size); replace HT : Hid (Nones w.heap.size w1) := HT.out.below hb; clear hb c0; have c0 := HT.out.c0)
        | (go_at_call 12; refine left_nil.mono ?_; rintro e w1 ⟨rfl, hb⟩; replace hB := hB.trans (hb.mono hB.size); replace HT : Hid (Nones w.heap.size w1) := HT.out.below hb))
      go_roundg 1
      case measure => omega
      case rel => exact ⟨1, by omega, rfl, hB, HT⟩
    | g + 3, hig => omega
end Go.Proofs.Ytpdibhgbaclbaaa
