/- Which Op a word is. -/
import Derived.Test.YtcjghnnliepjjaaGreatDoorMay
import Derived.Laws.Rows
import Derived.Laws.Rows
namespace Go.Proofs.YtcjghnnliepjjaaGreatDoor
open Go Go.RowKit
set_option maxRecDepth 100000
def fCells : Array Value := ((List.range 23).flatMap fun o => [.string (fWord o), .int .u8 (fK o).1, .int .u8 (fK o).2.1, .int .u8 (fK o).2.2]).toArray
/-- the forms lie in memory as one row -/
def Row (w : World) : Prop := ∃ t fr, w.heap[0]? = some (.cells fCells t fr)
theorem Row.on {w w' : World} (h : Row w) (hb : Below w.heap.size w w') (hl : 0 < w.heap.size) : Row w' := by
  obtain ⟨t, fr, e⟩ := h
  exact ⟨t, fr, by rw [hb.block 0 hl]; exact e⟩
theorem u63 : Tryz.prog.underlying 152 = some (.array 23 151) := Tryz.underlying152
theorem fCells_size : fCells.size = 92 := rfl
theorem loadF {w : World} (h : Row w) : (loadVar 152 ⟨0, 0, none⟩).run Tryz.prog w = .ok (.agg fCells) w := by
  obtain ⟨t, fr, e⟩ := h
  exact run_loadVar_row w 0 t 152 fCells fr _ e u63 rfl (by rw [fCells_size]; kernel_rfl)
theorem part_at (i : Nat) (hi : i < 23) : fCells.extract (i * 4) (i * 4 + 4) = #[.string (fWord i), .int .u8 (fK i).1, .int .u8 (fK i).2.1, .int .u8 (fK i).2.2] ∧ True := by
  match i, hi with
  | 0, _ => exact ⟨rfl, trivial⟩
  | 1, _ => exact ⟨rfl, trivial⟩
  | 2, _ => exact ⟨rfl, trivial⟩
  | 3, _ => exact ⟨rfl, trivial⟩
  | 4, _ => exact ⟨rfl, trivial⟩
  | 5, _ => exact ⟨rfl, trivial⟩
  | 6, _ => exact ⟨rfl, trivial⟩
  | 7, _ => exact ⟨rfl, trivial⟩
  | 8, _ => exact ⟨rfl, trivial⟩
  | 9, _ => exact ⟨rfl, trivial⟩
  | 10, _ => exact ⟨rfl, trivial⟩
  | 11, _ => exact ⟨rfl, trivial⟩
  | 12, _ => exact ⟨rfl, trivial⟩
  | 13, _ => exact ⟨rfl, trivial⟩
  | 14, _ => exact ⟨rfl, trivial⟩
  | 15, _ => exact ⟨rfl, trivial⟩
  | 16, _ => exact ⟨rfl, trivial⟩
  | 17, _ => exact ⟨rfl, trivial⟩
  | 18, _ => exact ⟨rfl, trivial⟩
  | 19, _ => exact ⟨rfl, trivial⟩
  | 20, _ => exact ⟨rfl, trivial⟩
  | 21, _ => exact ⟨rfl, trivial⟩
  | 22, _ => exact ⟨rfl, trivial⟩
  | n + 23, h => exact absurd h (by omega)
theorem u62 : Tryz.prog.underlying 151 = some (.struct (Tryz.prog.fieldsOf 151)) := by kernel_rfl
theorem idxF (i : Nat) (hi : i < 23) (w : World) : (Instr.index 152 (.agg fCells) (.int .i64 i)).run Tryz.prog w = .ok (.agg #[.string (fWord i), .int .u8 (fK i).1, .int .u8 (fK i).2.1, .int .u8 (fK i).2.2]) w := by
  have hp := (part_at i hi).1
  have h23 : (i : Int) < 23 := by omega
  simp [Instr.index, go_sem, run_underlying u63, asIntOf, part, hp]
  intro h
  omega
/-- which Op has this word -/
def opIdx (l : List UInt8) : Nat → List ByteArray → Option Nat
  | _, [] => none
  | i, w :: ws => if w.data.toList = l then some i else opIdx l (i + 1) ws
def opOf (l : List UInt8) : Option Nat := opIdx l 0 fWords
theorem words_drop (i : Nat) (hi : i < 23) : fWords.drop i = fWord i :: fWords.drop (i + 1) := by
  have hl : fWords.length = 23 := rfl
  rw [List.drop_eq_getElem_cons (by omega)]
  unfold fWord
  rw [List.getD_eq_getElem?_getD, List.getElem?_eq_getElem (by omega)]
  rfl
set_option maxHeartbeats 4000000 in
theorem opOf_any (s : ByteArray) (w : World) (hr : Row w) :
    Calls Tryz.prog 129 #[.string s] w fun e w' => Below w.heap.size w w' ∧ e = .returned (.tuple #[.int .u8 (((opOf s.data.toList).getD 0 : Nat) : Int), .bool (opOf s.data.toList).isSome]) := by
  have hld := loadF hr
  go_enter Tryz.func129, Tryz.ntmps129
  go_wp2_with (refine wpList_load_row rfl _ _ rfl 0 rfl _ fCells _ _ hr.choose_spec.choose_spec u63 rfl (by rw [fCells_size]; kernel_rfl) ?_)
  go_loopg [7] 23 (fun g s7 wx => ∃ i : Nat, i + g = 23 ∧ s7 = .int .i64 i ∧ Below w.heap.size w wx ∧ Hid (opIdx s.data.toList i (fWords.drop i) = opOf s.data.toList))
  case atStart => exact ⟨0, rfl, rfl, Below.refl _ _, rfl⟩
  case round =>
    obtain ⟨i, hig, rfl, hb, HR⟩ := hrel
    cases gk with
    | zero =>
      have hlt : ¬ ((i : Int) < 23) := by omega
      go_wp2
      go_ret2
      have hn : opOf s.data.toList = none := by rw [← HR.out, List.drop_of_length_le (by show 23 ≤ i; omega)]; rfl
      exact ⟨hb, by rw [hn]; rfl⟩
    | succ g =>
      have hlt : (i : Int) < 23 := by omega
      have hix := idxF i (by omega)
      have hR := HR.out
      rw [words_drop i (by omega), opIdx] at hR
      have HR2 : Hid ((if (fWord i).data.toList = s.data.toList then some i else opIdx s.data.toList (i + 1) (fWords.drop (i + 1))) = opOf s.data.toList) := hR
      clear hR HR
      by_cases hw : (fWord i).data.toList = s.data.toList
      · have hq : ((fWord i).toList == s.toList) = true := by rw [Lib.toList_data, Lib.toList_data, hw]; simp
        have HS : Hid (opOf s.data.toList = some i) := by show _ = _; rw [← HR2.out, if_pos hw]
        clear hw HR2
        go_wp2
        try rw [Exit.noGoto_ret]
        go_ret2
        refine ⟨hb.alloc hb.size _, ?_⟩
        rw [HS.out]
        rfl
      · have hq : ((fWord i).toList == s.toList) = false := by rw [Lib.toList_data, Lib.toList_data]; simpa using hw
        have HS : Hid (opIdx s.data.toList (i + 1) (fWords.drop (i + 1)) = opOf s.data.toList) := by show _ = _; rw [← HR2.out, if_neg hw]
        clear hw HR2
        go_wp2
        go_roundg g
        case measure => omega
        case rel => exact ⟨i + 1, by omega, by go_num, hb.alloc hb.size _, HS⟩
end Go.Proofs.YtcjghnnliepjjaaGreatDoor
