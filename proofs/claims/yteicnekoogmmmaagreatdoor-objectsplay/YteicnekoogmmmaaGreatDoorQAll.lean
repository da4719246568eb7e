/- 'all' tells the row, in memory of its own; a new queue is empty. -/
import Derived.Test.YteicnekoogmmmaaGreatDoorQWheel
namespace Go.Proofs.YteicnekoogmmmaaGreatDoor
open Go Go.RowKit
set_option maxRecDepth 100000
set_option linter.unusedVariables false
theorem made_zero (n : Nat) : madeCells (Value.int .u32 0).cells n = (wrd (List.replicate n 0)).toArray := by
  apply Array.ext_getElem?
  intro i
  by_cases hi : i < n
  · simp [madeCells, Value.cells, wrd, hi, Nat.mod_one]
  · simp [madeCells, Value.cells, wrd, hi]
theorem infoW : (Tryz.prog.info? 23).map (fun i => (i.zero, i.size, i.bytes)) = some (some (.int .u32 0), 1, 4) := by kernel_rfl
/-- a new row of noughts -/
theorem make_row (w : World) (l c : Nat) (hl : l ≤ c) (hc : c ≤ 1000000) :
    (Instr.makeSlice 53 (.int .i64 l) (.int .i64 c)).run Tryz.prog w = .ok (.slice (some ⟨w.heap.size, 0, none⟩) l c) (w.alloc (.cells (wrd (List.replicate c 0)).toArray 23)) := by
  obtain ⟨i, hi, he⟩ := Option.map_eq_some_iff.1 infoW
  have h1 : i.zero = some (.int .u32 0) := by simpa using congrArg Prod.fst he
  have h2 : i.size = 1 := by simpa using congrArg (fun x => x.2.1) he
  have h3 : i.bytes = 4 := by simpa using congrArg (fun x => x.2.2) he
  have := run_make w 53 23 i (.int .u32 0) Tryz.underlying53 hi h1 .i64 .i64 l c (by omega) (by omega) (by rw [h3]; omega) (by omega)
  rw [this, h2, Nat.mul_one, made_zero]
  simp
theorem own_row {w : World} {B g : Nat} {xs : List Int} (h : Row w g xs) (hb : B ≤ g) (hl : xs.length ≤ 1000000) : w.ownsRow B 23 1 (.slice (some ⟨g, 0, none⟩) xs.length xs.length) xs.length (xs.map (Value.int .u32)) := by
  refine ⟨by simp, Or.inr ⟨g, xs.length, _, rfl, hb, h, Nat.le_refl _, by simp only [maxLen]; omega, by simp [wrd], ?_⟩⟩
  simp [wrd, List.take_of_length_le]
theorem Row.buts {w w' : World} {g : Nat} {xs : List Int} {l : List Nat} (h : Row w g xs) (hb : Buts l w w') (hg : g ∉ l) : Row w' g xs := (hb.block g h.lt hg).trans h
theorem Row.below {w w' : World} {g : Nat} {xs : List Int} (h : Row w g xs) (hb : Below w.heap.size w w') : Row w' g xs := (hb.block g h.lt).trans h
/-- so many of a list, noughts behind them -/
def upto (xs : List Int) (i : Nat) : List Int := xs.take i ++ List.replicate (xs.length - i) 0
theorem upto_len {xs : List Int} {i : Nat} (hi : i ≤ xs.length) : (upto xs i).length = xs.length := by simp [upto]; omega
theorem upto_zero (xs : List Int) : upto xs 0 = List.replicate xs.length 0 := by simp [upto]
theorem upto_all (xs : List Int) : upto xs xs.length = xs := by simp [upto]
theorem upto_next {xs : List Int} {i : Nat} (hi : i < xs.length) : (upto xs i).set i (xs.getD i 0) = upto xs (i + 1) := by
  apply List.ext_getElem?
  intro j
  have hl := upto_len (Nat.le_of_lt hi)
  have hl' := upto_len (show i + 1 ≤ xs.length by omega)
  by_cases hj : j < xs.length
  · rw [List.getElem?_set]
    by_cases e : i = j
    · subst e
      rw [if_pos rfl, if_pos (by omega)]
      simp only [upto]
      rw [List.getElem?_append_left (by simp; omega), List.getElem?_take_of_lt (by omega)]
      simp [hi]
    · rw [if_neg e]
      simp only [upto]
      by_cases c : j < i
      · rw [List.getElem?_append_left (by simp; omega), List.getElem?_append_left (by simp; omega), List.getElem?_take_of_lt c, List.getElem?_take_of_lt (by omega)]
      · rw [List.getElem?_append_right (by simp; omega), List.getElem?_append_right (by simp; omega)]
        simp only [List.length_take]
        rw [List.getElem?_replicate, List.getElem?_replicate, if_pos (by omega), if_pos (by omega)]
  · rw [List.getElem?_eq_none (by rw [List.length_set]; omega), List.getElem?_eq_none (by omega)]
set_option maxHeartbeats 2000000 in
theorem all_any {w : World} {p n f : Nat} {ys xs : List Int} (h : Raw w p n f xs.length ys) (hf : f < 64) (hx : xs.length ≤ 64) (hh : Holds 64 f ys xs) :
    Calls Tryz.prog 84 #[.pointer (some ⟨p, 0, none⟩)] w fun e w' => e = .returned (.slice (some ⟨w.heap.size, 0, none⟩) xs.length xs.length) ∧ Row w' w.heap.size xs ∧ Below w.heap.size w w' := by
  have HH : Hid (Holds 64 f ys xs) := hh
  have HY : Hid (ys.length = 64) := h.len
  have hmk := make_row w xs.length xs.length (Nat.le_refl _) (by omega)
  have hp := h.lt
  have HA : Hid (Row (w.alloc (.cells (wrd (List.replicate xs.length 0)).toArray 23)) w.heap.size (upto xs 0)) := by
    have : Row (w.alloc (.cells (wrd (List.replicate xs.length 0)).toArray 23)) w.heap.size (List.replicate xs.length 0) := alloc_at w _
    rw [← upto_zero] at this; exact this
  have HB : Hid (Below w.heap.size w (w.alloc (.cells (wrd (List.replicate xs.length 0)).toArray 23))) := alloc_below w _
  have HR : Hid (Raw w p n f xs.length ys) := h
  have c2 := h.c2
  obtain ⟨m, hm⟩ : ∃ m, xs.length = m := ⟨_, rfl⟩
  have HM : Hid (xs.length = m) := hm
  rw [hm] at c2 hmk hx HR HA HB ⊢
  clear h hh hm
  obtain ⟨t, ht⟩ : ∃ t, w.heap.size = t := ⟨_, rfl⟩
  have HT : Hid (w.heap.size = t) := ht
  rw [ht] at HA HB hp
  go_enter Tryz.func84, Tryz.ntmps84
  go_wp2
  clear ht hmk
  generalize w.alloc (.cells (wrd (List.replicate m 0)).toArray 23) = w0 at *
  go_loopg [12] m (fun q s12 wx => ∃ i : Nat, i + q = m ∧ s12 = .int .i64 i ∧ Hid (Row wx t (upto xs i)) ∧ Hid (Below t w wx))
  case atStart => exact ⟨0, by omega, rfl, HA, HB⟩
  case round =>
    clear HA HB
    obtain ⟨i, hiq, rfl, HA, HB⟩ := hrel
    cases gk with
    | zero =>
      have hlt : ¬ ((i : Int) < m) := by omega
      go_wp2
      go_ret
      rw [HT.out]
      refine ⟨rfl, ?_, HB.out⟩
      have := HA.out
      rwa [show i = xs.length by have := HM.out; omega, upto_all] at this
    | succ q =>
      have hlt : (i : Int) < m := by omega
      have HRx : Hid (Raw wr p n f m ys) := ⟨(HB.out.block p hp).trans HR.out.head, HY.out⟩
      have hsx : Hid (ys.getD (sl 64 f i) 0 = xs.getD i 0) := HH.out i (by have := HM.out; omega)
      have HN : Hid ((upto xs i).set i (xs.getD i 0) = upto xs (i + 1)) := upto_next (by have := HM.out; omega)
      have HL : Hid ((upto xs i).length = m) := by have := upto_len (xs := xs) (i := i) (by have := HM.out; omega); rw [HM.out] at this; exact this
      have hC := at_any HRx.out hf i (by omega)
      rw [hsx.out] at hC
      clear hsx
      generalize xs.getD i 0 = y at *
      go_wp2_with (first
        | (go_at_call 89; refine hC.mono ?_; rintro e w1 ⟨rfl, kq, hw1⟩; have A1 : Hid (Row w1 t (upto xs i)) := (by rw [hw1]; exact HA.out.below (below_drewN _ _)); have B1 : Hid (Below t w w1) := HB.out.trans (by rw [hw1]; exact (below_drewN wr kq).mono (by have := HA.out.lt; omega)); have kg := A1.out.cell i (by have := HL.out; omega); have kf := A1.out.free i; clear hw1))
      have A2 : Hid (Row (w1.setCell ⟨t, i, none⟩ (.int .u32 y)) t (upto xs (i + 1))) := by have := A1.out.set i y; rw [HN.out] at this; exact this
      have B2 : Hid (Below t w (w1.setCell ⟨t, i, none⟩ (.int .u32 y))) := B1.out.trans ((Buts.cell w1 t i (.int .u32 y)).below (by simp) (Nat.le_of_lt A1.out.lt))
      generalize w1.setCell ⟨t, i, none⟩ (.int .u32 y) = w2 at *
      go_roundg q
      case measure => omega
      case rel => exact ⟨i + 1, by omega, by go_num, A2, B2⟩
/-- a queue that no call made -/
def zc (n : Int) : Array Value := (qc (List.replicate 64 0) 0 0 n).toArray
theorem zinfo : (Tryz.prog.info? 157).map (fun i => i.zero) = some (some (.agg (zc 0))) := by kernel_rfl
theorem zval (w : World) : Sem.run Tryz.prog (zeroValue 157) w = .ok (.agg (zc 0)) w := by
  obtain ⟨i, hi, he⟩ := Option.map_eq_some_iff.1 zinfo
  simp [zeroValue, typeInfo, hi, he]
theorem zc_ne (n : Int) : ¬ zc n = #[] := by simp [zc, qc]
theorem zc_set (n m : Int) : (zc n).setIfInBounds 66 (.int .i64 m) = zc m := by
  unfold zc
  rw [List.setIfInBounds_toArray, show 66 = 64 + 2 from rfl, qc_put (by simp)]
  rfl
theorem zc_size (n : Int) : (zc n).size = 67 := by simp [zc, qc, wrd]
theorem zc_que (w : World) (n : Nat) (h1 : 1 ≤ n) (hn : n ≤ 64) : Que (w.alloc (.cells (zc n) 157)) w.heap.size n [] :=
  ⟨⟨0, List.replicate 64 0, by omega, ⟨alloc_at w _, by simp⟩, Holds.nil _ _ _⟩, h1, hn, by simp⟩
theorem new_yes {w : World} (n : Nat) (h1 : 1 ≤ n) (hn : n ≤ 64) :
    Calls Tryz.prog 50 #[.int .i64 n] w fun e w' => e = .returned (.tuple #[.pointer (some ⟨w.heap.size, 0, none⟩), .int .i64 0]) ∧ Que w' w.heap.size n [] ∧ Below w.heap.size w w' := by
  have a1 : ¬ (n : Int) < 1 := by omega
  have a2 : ¬ (64 : Int) < n := by omega
  have z1 := zval
  have z2 := zc_ne 0
  have z3 := zc_set 0 n
  have hp := zc_que w n h1 hn
  have hb := alloc_below w (.cells (zc n) 157)
  go_enter Tryz.func50, Tryz.ntmps50
  go_wp2
  go_ret2
  exact ⟨rfl, hp, hb⟩
theorem new_no {w : World} (n : Int) (h : n < 1 ∨ 64 < n) :
    Calls Tryz.prog 50 #[.int .i64 n] w fun e w' => e = .returned (.tuple #[.pointer none, .int .i64 1]) ∧ w = w' := by
  by_cases h1 : n < 1
  · go_enter Tryz.func50, Tryz.ntmps50
    go_wp2
    go_ret2
    exact ⟨rfl, rfl⟩
  · have h2 : 64 < n := by omega
    go_enter Tryz.func50, Tryz.ntmps50
    go_wp2
    go_ret2
    exact ⟨rfl, rfl⟩
end Go.Proofs.YteicnekoogmmmaaGreatDoor
