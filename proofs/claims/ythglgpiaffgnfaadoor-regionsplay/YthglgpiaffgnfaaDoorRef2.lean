/- The document's own answer for regions: New and Bytes; and the statements' own look at a twin. -/
import Derived.Test.YthglgpiaffgnfaaDoorRef
import Derived.Test.YthglgpiaffgnfaaDoorTwin
namespace Go.Proofs.YthglgpiaffgnfaaDoor
open Go Go.RowKit
set_option maxRecDepth 100000
set_option linter.unusedVariables false
theorem take_set0 (zs : List Int) (n i : Nat) (hi : i < zs.length) (hn : zs.length ≤ n) : (zs.take i ++ List.replicate (n - i) 0).set i (zs.getD i 0) = zs.take (i + 1) ++ List.replicate (n - (i + 1)) 0 := by
  rw [List.set_append_right _ _ (by simp; omega), show i - (zs.take i).length = 0 by simp; omega, show n - i = (n - (i + 1)) + 1 by omega, List.replicate_succ, List.set_cons_zero, List.take_succ_eq_append_getElem hi, List.append_assoc, List.singleton_append, show zs.getD i 0 = zs[i] by simp [hi]]
set_option maxHeartbeats 1000000 in
theorem rnew_yes {w : World} {B m : Nat} {sp : Option Addr} {zs : List Int} (hs : Src B w sp zs) (hBw : B ≤ w.heap.size) (hm : zs.length = m) (c n : Nat) (hn : n ≤ 4096) (hz : m ≤ n) :
    Calls Tryd.prog 6 #[.int .i64 n, .slice sp m c] w fun e w' => ∃ p g, e = .returned (.tuple #[.pointer (some ⟨p, 0, none⟩), .int .i64 0]) ∧ Ref w' p g (zs ++ List.replicate (n - m) 0) ∧ Below w.heap.size w w' ∧ w.heap.size ≤ g ∧ g < p := by
  have hmk := make_row w n n (Nat.le_refl _) (by omega)
  have hB := alloc_below w (.cells (byt (List.replicate n 0)).toArray 5)
  have hA : Row (w.alloc (.cells (byt (List.replicate n 0)).toArray 5)) w.heap.size (List.replicate n 0) := alloc_at w _
  have HN : Hid (zs.length = m) := hm
  have HS : Hid (Src B w sp zs) := hs
  clear hs hm
  generalize w.alloc (.cells (byt (List.replicate n 0)).toArray 5) = w1 at *
  go_enter Tryd.func6, Tryd.ntmps6
  go_wp2
  go_loopg [7] m (fun gk s7 wx => ∃ i : Nat, i + gk = m ∧ s7 = .int .i64 i ∧ Below w.heap.size w wx ∧ Hid (Row wx w.heap.size (zs.take i ++ List.replicate (n - i) 0)))
  case atStart => exact ⟨0, by omega, rfl, hB, by show Row _ _ _; simpa using hA⟩
  case round =>
    clear hB hA hmk
    obtain ⟨i, hig, rfl, hB, HR⟩ := hrel
    cases gk with
    | zero =>
      obtain rfl : i = m := by omega
      have hR := HR.out
      rw [← HN.out, List.take_length, HN.out] at hR
      have hP := alloc_at wr (.cells #[.slice (some ⟨w.heap.size, 0, none⟩) n n] 59)
      have hb2 := alloc_below wr (.cells #[.slice (some ⟨w.heap.size, 0, none⟩) n n] 59)
      have hL : (zs ++ List.replicate (n - i) 0).length = n := by simp [HN.out]; omega
      have HF : Hid (Ref (wr.alloc (.cells #[.slice (some ⟨w.heap.size, 0, none⟩) n n] 59)) wr.heap.size w.heap.size (zs ++ List.replicate (n - i) 0)) :=
        ⟨by rw [hL]; exact hP, (hb2.block _ hR.lt).trans hR, by omega, isB_app HS.out.wf (isB_zero _), by have := hR.lt; omega⟩
      have HFB : Hid (Below w.heap.size w (wr.alloc (.cells #[.slice (some ⟨w.heap.size, 0, none⟩) n n] 59))) := hB.trans (hb2.mono hB.size)
      have hlt : w.heap.size < wr.heap.size := hR.lt
      clear hP hb2 hL hR
      go_wp2
      go_ret2
      exact ⟨_, _, rfl, HF.out, HFB.out, Nat.le_refl _, hlt⟩
    | succ g =>
      obtain ⟨b1, o1, rfl, hb1, hc1⟩ := HS.out.spot (by rw [HN.out]; omega)
      have hci := (hB.cell (p := ⟨b1, o1 + i, none⟩) (show b1 < w.heap.size by omega)).trans (hc1 i (by rw [HN.out]; omega))
      clear hc1
      have HT : Hid ((zs.take i ++ List.replicate (n - i) 0).set i (zs.getD i 0) = zs.take (i + 1) ++ List.replicate (n - (i + 1)) 0) := take_set0 zs n i (by rw [HN.out]; omega) (by rw [HN.out]; exact hz)
      have k1 := HR.out.cell i (by simp [HN.out]; omega)
      have k2 := HR.out.frozen' i
      generalize zs.getD i 0 = zi at *
      generalize (zs.take i ++ List.replicate (n - i) 0).getD i 0 = yi at *
      go_wp2
      go_roundg g
      case measure => omega
      case rel => exact ⟨i + 1, by omega, by go_num, hB.setCell (p := ⟨w.heap.size, i, none⟩) (Nat.le_refl _) _, by show Row _ _ _; rw [← HT.out]; exact HR.out.set _⟩
theorem rnew_no {w : World} {sp : Option Addr} (m c : Nat) (n : Int) (hm : m ≤ 4611686018427387904) (h : n < 0 ∨ 4096 < n ∨ n < m) :
    Calls Tryd.prog 6 #[.int .i64 n, .slice sp m c] w fun e w' => e = .returned (.tuple #[.pointer none, .int .i64 1]) ∧ w' = w := by
  by_cases h0 : n < 0
  · go_enter Tryd.func6, Tryd.ntmps6
    go_wp2
    go_ret2
    exact ⟨rfl, rfl⟩
  · by_cases h1 : 4096 < n
    · go_enter Tryd.func6, Tryd.ntmps6
      go_wp2
      go_ret2
      exact ⟨rfl, rfl⟩
    · have h2 : n < m := by omega
      go_enter Tryd.func6, Tryd.ntmps6
      go_wp2
      go_ret2
      exact ⟨rfl, rfl⟩
theorem app_none {w : World} (g : Nat) : (Builtin.append_ #[22, 22] 22 #[.slice none 0 0, .slice (some ⟨g, 0, none⟩) 0 0]).run Tryd.prog w = .ok (.slice none 0 0) w := by
  obtain ⟨i, hi, he⟩ := Option.map_eq_some_iff.1 info5
  have h1 : i.zero = some (.int .u8 0) := by simpa using congrArg Prod.fst he
  have h2 : i.size = 1 := by simpa using congrArg (fun x => x.2.1) he
  have h3 : i.bytes = 1 := by simpa using congrArg (fun x => x.2.2) he
  simp [Builtin.append_, run_underlying Tryd.underlying22, sizeOf, typeInfo, hi, Builtin.lenOf, Builtin.firstCells, loadCells, loadCellsFrom]
theorem rbytes_any {w : World} {p g n : Nat} {zs : List Int} (h : Ref w p g zs) (hn : zs.length = n) :
    Calls Tryd.prog 18 #[.pointer (some ⟨p, 0, none⟩)] w fun e w' => ∃ sp c, e = .returned (.slice sp n c) ∧ Src w'.heap.size w' sp zs ∧ Below w.heap.size w w' := by
  have h0 := h.cell
  have hl := h.len
  have HS : Hid (Src w.heap.size w (some ⟨g, 0, none⟩) zs) := Src.row (n := 0) h.row h.wf
  rw [hn] at h0 hl
  have HN : Hid (zs.length = n) := hn
  have HW : Hid (isB zs) := h.wf
  clear hn h
  by_cases hz : 0 < n
  · go_enter Tryd.func18, Tryd.ntmps18
    go_wp2_with (first
      | (at_builtin; refine wpList_app_nil rfl (.const (.slice none 0 0)) (.tmp 6) rfl rfl rfl rfl HS.out hz HN.out (by omega) ?_; intro g5 cap5 w5 ho5 hb5 hg5))
    go_ret
    exact ⟨_, _, rfl, own_src ho5 HW.out, hb5⟩
  · obtain rfl : n = 0 := by omega
    have ha := app_none (w := w) g
    have ez : zs = [] := List.eq_nil_of_length_eq_zero HN.out
    go_enter Tryd.func18, Tryd.ntmps18
    go_wp2
    go_ret
    refine ⟨none, 0, rfl, ?_, Below.refl _ _⟩
    rw [ez]
    exact Src.nil' _
theorem end_at (zs : List Int) (i : Nat) (h : zs.length = i) : (zs ++ [77]).getD i 0 = 77 := by
  subst h; simp
theorem pre_at (zs : List Int) (i : Nat) (h : i < zs.length) : (zs ++ [77]).getD i 0 = zs.getD i 0 := by
  rw [List.getD_eq_getElem?_getD, List.getD_eq_getElem?_getD, List.getElem?_append_left h]
set_option maxHeartbeats 1000000 in
theorem left_yes {w : World} {B T n : Nat} {sp : Option Addr} {zs : List Int} (hs : Src B w sp zs) (ht : Row w T (zs ++ [77])) (hm : zs.length = n) (hn : n ≤ 1000000) (c : Nat) :
    Calls Tryd.prog 7 #[.slice (some ⟨T, 0, none⟩) n (n + 1), .slice sp n c] w fun e w' => e = .returned (.bool true) ∧ Below w.heap.size w w' := by
  have HN : Hid (zs.length = n) := hm
  have HS : Hid (Src B w sp zs) := hs
  have HT : Hid (Row w T (zs ++ [77])) := ht
  have htl := ht.lt
  clear hs hm ht
  go_enter Tryd.func7, Tryd.ntmps7
  go_wp2
  go_loopg [5] n (fun g s5 wx => ∃ i : Nat, i + g = n ∧ s5 = .int .i64 i ∧ Below w.heap.size w wx)
  case atStart => exact ⟨0, by omega, rfl, Below.refl _ _⟩
  case round =>
    obtain ⟨i, hig, rfl, hB⟩ := hrel
    have HTr : Hid (Row wr T (zs ++ [77])) := (hB.block T htl).trans HT.out
    cases gk with
    | zero =>
      obtain rfl : i = n := by omega
      have k1 := HTr.out.cell i (by simp [HN.out])
      rw [end_at zs i HN.out] at k1
      go_wp2
      go_ret
      exact ⟨rfl, hB⟩
    | succ g =>
      have hlt : (i : Int) < n := by omega
      obtain ⟨b1, o1, rfl, hb1, hc1⟩ := HS.out.spot (by rw [HN.out]; omega)
      have hq := hc1 i (by rw [HN.out]; omega)
      have k2 := (hB.cell (p := ⟨b1, o1 + i, none⟩) (cell_lt hq)).trans hq
      clear hc1 hq
      have k1 := HTr.out.cell i (by simp [HN.out]; omega)
      rw [pre_at zs i (by rw [HN.out]; omega)] at k1
      generalize zs.getD i 0 = z at *
      go_wp2
      go_quiet ((fail))
      go_wp2
      go_roundg g
      case measure => omega
      case rel => exact ⟨i + 1, by omega, by go_num, hB.trans ((below_drewN _ _).mono hB.size)⟩
end Go.Proofs.YthglgpiaffgnfaaDoor
