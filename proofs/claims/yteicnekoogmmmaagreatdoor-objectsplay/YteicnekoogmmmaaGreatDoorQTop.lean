/- What the functions of package queues answer, for every queue and every message. -/
import Derived.Test.YteicnekoogmmmaaGreatDoorQAll
namespace Go.Proofs.YteicnekoogmmmaaGreatDoor
open Go Go.RowKit
set_option maxRecDepth 100000
set_option linter.unusedVariables false
theorem Que.left {w : World} {p n : Nat} {xs ys : List Int} (h : Que w p n xs) (k : Nat) (he : ys = xs) : Que (w.drewN k) p n ys ∧ Buts [p] w (w.drewN k) := by
  subst he
  exact ⟨h.below (below_drewN _ _), Buts.of (below_drewN _ _)⟩
set_option maxHeartbeats 1000000 in
theorem put_any {w : World} {p n : Nat} {xs : List Int} (h : Que w p n xs) (z : Int) :
    Calls Tryz.prog 126 #[.pointer (some ⟨p, 0, none⟩), .int .u32 z] w fun e w' => e = .returned (.int .i64 (addE xs n)) ∧ Que w' p n (putL xs n z) ∧ Buts [p] w w' := by
  have HQ : Hid (Que w p n xs) := h
  obtain ⟨f, ys, hf, hr, hh⟩ := h.raw
  have hC := hasRoom_any hr h.lo _ rfl
  have hlen := h.len
  have hhi := h.hi
  by_cases e0 : xs.length = n
  · rw [if_pos e0] at hC
    rw [addE_full e0, putL_full e0]
    clear h hr hh e0
    go_enter Tryz.func126, Tryz.ntmps126
    go_wp2_with (first | (go_at_call 130; refine hC.mono ?_; rintro e wx ⟨rfl, kq, hwx⟩; have HX : Hid (wx = w.drewN kq) := hwx; clear hwx))
    go_ret
    refine ⟨rfl, ?_⟩
    rw [HX.out]
    exact HQ.out.left kq rfl
  · rw [if_neg e0] at hC
    rw [addE_ok e0, putL_ok e0]
    have hlt : xs.length < 64 := by omega
    have HA : Hid (∀ k, Calls Tryz.prog 131 #[.pointer (some ⟨p, 0, none⟩), .int .u32 z] (w.drewN k) fun e w' => e = .returned (.tuple #[]) ∧ Raw w' p n f (xs.length + 1) (ys.set (sl 64 f xs.length) z) ∧ Buts [p] (w.drewN k) w') := fun k => addLast_any (hr.drew k) hf hlt z
    have HH : Hid (Holds 64 f (ys.set (sl 64 f xs.length) z) (xs ++ [z])) := hh.addLast hr.len hf hlt z
    have HF : Hid (f < 64) := hf
    have HL : Hid ((xs ++ [z]).length ≤ n) := by show _ ≤ _; simp; omega
    clear hh hr h e0 hlen
    go_enter Tryz.func126, Tryz.ntmps126
    go_wp2_with (first
      | (go_at_call 130; refine hC.mono ?_; rintro e wx ⟨rfl, kq, hwx⟩; have HX : Hid (wx = w.drewN kq) := hwx; clear hwx)
      | (go_at_call 131; rw [HX.out]; refine (HA.out kq).mono ?_; rintro e w2 ⟨rfl, hr2, hb2⟩; have R2 : Hid (Raw w2 p n f (xs.length + 1) (ys.set (sl 64 f xs.length) z)) := hr2; have B2 : Hid (Buts [p] (w.drewN kq) w2) := hb2; clear hr2 hb2))
    go_ret
    refine ⟨rfl, ?_, (Buts.of (below_drewN w kq)).trans B2.out⟩
    exact ⟨⟨_, _, HF.out, by simpa using R2.out, HH.out⟩, HQ.out.lo, HQ.out.hi, HL.out⟩
theorem put_nil {w : World} (z : Int) : Calls Tryz.prog 126 #[.pointer none, .int .u32 z] w fun e w' => e = .returned (.int .i64 2) ∧ w = w' := by
  go_enter Tryz.func126, Tryz.ntmps126
  go_wp2_with (go_at_call 130; refine hasRoom_nil.mono ?_; rintro e wx ⟨rfl, rfl⟩)
  go_ret
  exact ⟨rfl, rfl⟩
theorem put_zero {w : World} {p : Nat} (h0 : w.cell? ⟨p, 66, none⟩ = some (.int .i64 0)) (z : Int) : Calls Tryz.prog 126 #[.pointer (some ⟨p, 0, none⟩), .int .u32 z] w fun e w' => e = .returned (.int .i64 2) ∧ w = w' := by
  go_enter Tryz.func126, Tryz.ntmps126
  go_wp2_with (go_at_call 130; refine (hasRoom_zero h0).mono ?_; rintro e wx ⟨rfl, rfl⟩)
  go_ret
  exact ⟨rfl, rfl⟩
set_option maxHeartbeats 1000000 in
theorem push_any {w : World} {p n : Nat} {xs : List Int} (h : Que w p n xs) (z : Int) :
    Calls Tryz.prog 127 #[.pointer (some ⟨p, 0, none⟩), .int .u32 z] w fun e w' => e = .returned (.int .i64 (addE xs n)) ∧ Que w' p n (pushL xs n z) ∧ Buts [p] w w' := by
  have HQ : Hid (Que w p n xs) := h
  obtain ⟨f, ys, hf, hr, hh⟩ := h.raw
  have hC := hasRoom_any hr h.lo _ rfl
  have hlen := h.len
  have hhi := h.hi
  by_cases e0 : xs.length = n
  · rw [if_pos e0] at hC
    rw [addE_full e0, pushL_full e0]
    clear h hr hh e0
    go_enter Tryz.func127, Tryz.ntmps127
    go_wp2_with (first | (go_at_call 130; refine hC.mono ?_; rintro e wx ⟨rfl, kq, hwx⟩; have HX : Hid (wx = w.drewN kq) := hwx; clear hwx))
    go_ret
    refine ⟨rfl, ?_⟩
    rw [HX.out]
    exact HQ.out.left kq rfl
  · rw [if_neg e0] at hC
    rw [addE_ok e0, pushL_ok e0]
    have hlt : xs.length < 64 := by omega
    have HA : Hid (∀ k, Calls Tryz.prog 132 #[.pointer (some ⟨p, 0, none⟩), .int .u32 z] (w.drewN k) fun e w' => e = .returned (.tuple #[]) ∧ Raw w' p n (sl 64 f 63) (xs.length + 1) (ys.set (sl 64 f 63) z) ∧ Buts [p] (w.drewN k) w') := fun k => addFirst_any (hr.drew k) hf hlt z
    have HH : Hid (Holds 64 (sl 64 f 63) (ys.set (sl 64 f 63) z) (z :: xs)) := hh.addFirst hr.len hf hlt z
    have HF : Hid ((sl 64 f 63) < 64) := sl_lt hf (by omega)
    have HL : Hid ((z :: xs).length ≤ n) := by show _ ≤ _; simp; omega
    clear hh hr h e0 hlen
    go_enter Tryz.func127, Tryz.ntmps127
    go_wp2_with (first
      | (go_at_call 130; refine hC.mono ?_; rintro e wx ⟨rfl, kq, hwx⟩; have HX : Hid (wx = w.drewN kq) := hwx; clear hwx)
      | (go_at_call 132; rw [HX.out]; refine (HA.out kq).mono ?_; rintro e w2 ⟨rfl, hr2, hb2⟩; have R2 : Hid (Raw w2 p n (sl 64 f 63) (xs.length + 1) (ys.set (sl 64 f 63) z)) := hr2; have B2 : Hid (Buts [p] (w.drewN kq) w2) := hb2; clear hr2 hb2))
    go_ret
    refine ⟨rfl, ?_, (Buts.of (below_drewN w kq)).trans B2.out⟩
    exact ⟨⟨_, _, HF.out, by simpa using R2.out, HH.out⟩, HQ.out.lo, HQ.out.hi, HL.out⟩
theorem push_nil {w : World} (z : Int) : Calls Tryz.prog 127 #[.pointer none, .int .u32 z] w fun e w' => e = .returned (.int .i64 2) ∧ w = w' := by
  go_enter Tryz.func127, Tryz.ntmps127
  go_wp2_with (go_at_call 130; refine hasRoom_nil.mono ?_; rintro e wx ⟨rfl, rfl⟩)
  go_ret
  exact ⟨rfl, rfl⟩
theorem push_zero {w : World} {p : Nat} (h0 : w.cell? ⟨p, 66, none⟩ = some (.int .i64 0)) (z : Int) : Calls Tryz.prog 127 #[.pointer (some ⟨p, 0, none⟩), .int .u32 z] w fun e w' => e = .returned (.int .i64 2) ∧ w = w' := by
  go_enter Tryz.func127, Tryz.ntmps127
  go_wp2_with (go_at_call 130; refine (hasRoom_zero h0).mono ?_; rintro e wx ⟨rfl, rfl⟩)
  go_ret
  exact ⟨rfl, rfl⟩
set_option maxHeartbeats 1000000 in
theorem peek_any {w : World} {p n : Nat} {xs : List Int} (h : Que w p n xs) :
    Calls Tryz.prog 129 #[.pointer (some ⟨p, 0, none⟩)] w fun e w' => e = .returned (.tuple #[.int .u32 (xs.headD 0), .int .i64 (takeE xs)]) ∧ ∃ k, w' = w.drewN k := by
  obtain ⟨f, ys, hf, hr, hh⟩ := h.raw
  have hT := there_yes hr h.lo
  have c2 := hr.c2
  rcases xs with _ | ⟨x, xs⟩
  · rw [takeE_nil]
    rw [show (([] : List Int).length : Nat) = 0 from rfl] at c2
    clear h hh hr
    go_enter Tryz.func129, Tryz.ntmps129
    go_wp2_with (first | (go_at_call 83; refine hT.mono ?_; rintro e wx ⟨rfl, rfl⟩))
    go_ret2
    exact ⟨rfl, 0, rfl⟩
  · rw [takeE_cons]
    have hC := at_any hr hf 0 (by omega)
    rw [sl_zero hf, hh.first hf] at hC
    have hz : (((x :: xs).length : Int) == 0) = false := by simp; omega
    clear h hh hr
    generalize (x :: xs).length = m at *
    go_enter Tryz.func129, Tryz.ntmps129
    go_wp2_with (first
      | (go_at_call 83; refine hT.mono ?_; rintro e wx ⟨rfl, rfl⟩)
      | (go_at_call 89; refine hC.mono ?_; rintro e wx ⟨rfl, kq, hwx⟩))
    go_ret2
    exact ⟨rfl, kq, rfl⟩
theorem peek_nil {w : World} : Calls Tryz.prog 129 #[.pointer none] w fun e w' => e = .returned (.tuple #[.int .u32 0, .int .i64 2]) ∧ w = w' := by
  go_enter Tryz.func129, Tryz.ntmps129
  go_wp2_with (go_at_call 83; refine there_nil.mono ?_; rintro e wx ⟨rfl, rfl⟩)
  go_ret2
  exact ⟨rfl, rfl⟩
theorem peek_zero {w : World} {p : Nat} (h0 : w.cell? ⟨p, 66, none⟩ = some (.int .i64 0)) : Calls Tryz.prog 129 #[.pointer (some ⟨p, 0, none⟩)] w fun e w' => e = .returned (.tuple #[.int .u32 0, .int .i64 2]) ∧ w = w' := by
  go_enter Tryz.func129, Tryz.ntmps129
  go_wp2_with (go_at_call 83; refine (there_zero h0).mono ?_; rintro e wx ⟨rfl, rfl⟩)
  go_ret2
  exact ⟨rfl, rfl⟩
set_option maxHeartbeats 1000000 in
theorem take_any {w : World} {p n : Nat} {xs : List Int} (h : Que w p n xs) :
    Calls Tryz.prog 128 #[.pointer (some ⟨p, 0, none⟩)] w fun e w' => e = .returned (.tuple #[.int .u32 (xs.headD 0), .int .i64 (takeE xs)]) ∧ Que w' p n xs.tail ∧ Buts [p] w w' := by
  have hP := peek_any h
  have HQ : Hid (Que w p n xs) := h
  obtain ⟨f, ys, hf, hr, hh⟩ := h.raw
  rcases xs with _ | ⟨x, xs⟩
  · rw [takeE_nil] at hP ⊢
    clear h hh hr
    go_enter Tryz.func128, Tryz.ntmps128
    go_wp2_with (first | (go_at_call 129; refine hP.mono ?_; rintro e wx ⟨rfl, kq, hwx⟩; have HX : Hid (wx = w.drewN kq) := hwx; clear hwx))
    go_ret2
    refine ⟨rfl, ?_⟩
    rw [HX.out]
    exact HQ.out.left kq rfl
  · rw [takeE_cons] at hP ⊢
    have hl := h.len
    have hl' : xs.length < n := by simp at hl; omega
    have hi := h.hi
    have HA : Hid (∀ k, Calls Tryz.prog 123 #[.pointer (some ⟨p, 0, none⟩)] (w.drewN k) fun e w' => e = .returned (.tuple #[]) ∧ Raw w' p n (sl 64 f 1) xs.length ys ∧ Buts [p] (w.drewN k) w') := fun k => dropFirst_any (m := xs.length) (hr.drew k) hf (by omega)
    have HH : Hid (Holds 64 (sl 64 f 1) ys xs) := hh.take hf (by omega)
    have HF : Hid (sl 64 f 1 < 64) := sl_lt hf (by omega)
    clear h hh hr hl
    go_enter Tryz.func128, Tryz.ntmps128
    go_wp2_with (first
      | (go_at_call 129; refine hP.mono ?_; rintro e wx ⟨rfl, kq, hwx⟩; have HX : Hid (wx = w.drewN kq) := hwx; clear hwx)
      | (go_at_call 123; rw [HX.out]; refine (HA.out kq).mono ?_; rintro e w2 ⟨rfl, hr2, hb2⟩; have R2 : Hid (Raw w2 p n (sl 64 f 1) xs.length ys) := hr2; have B2 : Hid (Buts [p] (w.drewN kq) w2) := hb2; clear hr2 hb2))
    go_ret2
    exact ⟨rfl, ⟨⟨_, _, HF.out, R2.out, HH.out⟩, HQ.out.lo, HQ.out.hi, by show xs.length ≤ n; omega⟩, (Buts.of (below_drewN w kq)).trans B2.out⟩
theorem take_nil {w : World} : Calls Tryz.prog 128 #[.pointer none] w fun e w' => e = .returned (.tuple #[.int .u32 0, .int .i64 2]) ∧ w = w' := by
  go_enter Tryz.func128, Tryz.ntmps128
  go_wp2_with (go_at_call 129; refine peek_nil.mono ?_; rintro e wx ⟨rfl, rfl⟩)
  go_ret2
  exact ⟨rfl, rfl⟩
theorem take_zero {w : World} {p : Nat} (h0 : w.cell? ⟨p, 66, none⟩ = some (.int .i64 0)) : Calls Tryz.prog 128 #[.pointer (some ⟨p, 0, none⟩)] w fun e w' => e = .returned (.tuple #[.int .u32 0, .int .i64 2]) ∧ w = w' := by
  go_enter Tryz.func128, Tryz.ntmps128
  go_wp2_with (go_at_call 129; refine (peek_zero h0).mono ?_; rintro e wx ⟨rfl, rfl⟩)
  go_ret2
  exact ⟨rfl, rfl⟩
theorem list_any {w : World} {p n : Nat} {xs : List Int} (h : Que w p n xs) :
    Calls Tryz.prog 58 #[.pointer (some ⟨p, 0, none⟩)] w fun e w' => e = .returned (.slice (some ⟨w.heap.size, 0, none⟩) xs.length xs.length) ∧ Row w' w.heap.size xs ∧ Below w.heap.size w w' := by
  obtain ⟨f, ys, hf, hr, hh⟩ := h.raw
  have hT := there_yes hr h.lo
  have hC := all_any hr hf (Nat.le_trans h.len h.hi) hh
  clear h hh hr
  go_enter Tryz.func58, Tryz.ntmps58
  go_wp2_with (first
    | (go_at_call 83; refine hT.mono ?_; rintro e wx ⟨rfl, rfl⟩)
    | (go_at_call 84; refine hC.mono ?_; rintro e w2 ⟨rfl, hr2, hb2⟩))
  go_ret
  exact ⟨rfl, hr2, hb2⟩
theorem list_nil {w : World} : Calls Tryz.prog 58 #[.pointer none] w fun e w' => e = .returned (.slice none 0 0) ∧ w = w' := by
  go_enter Tryz.func58, Tryz.ntmps58
  go_wp2_with (go_at_call 83; refine there_nil.mono ?_; rintro e wx ⟨rfl, rfl⟩)
  go_ret
  exact ⟨rfl, rfl⟩
theorem list_zero {w : World} {p : Nat} (h0 : w.cell? ⟨p, 66, none⟩ = some (.int .i64 0)) : Calls Tryz.prog 58 #[.pointer (some ⟨p, 0, none⟩)] w fun e w' => e = .returned (.slice none 0 0) ∧ w = w' := by
  go_enter Tryz.func58, Tryz.ntmps58
  go_wp2_with (go_at_call 83; refine (there_zero h0).mono ?_; rintro e wx ⟨rfl, rfl⟩)
  go_ret
  exact ⟨rfl, rfl⟩
end Go.Proofs.YteicnekoogmmmaaGreatDoor
