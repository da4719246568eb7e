/- What the functions of package rings answer, for every ring and every number. -/
import Derived.Test.YtjhpiecbolmleaaGreatDoorRem
namespace Go.Proofs.YtjhpiecbolmleaaGreatDoor
open Go Go.RowKit
set_option maxRecDepth 100000
set_option linter.unusedVariables false
set_option maxHeartbeats 1000000 in
theorem mayAdd_any {w : World} {p g n : Nat} {xs : List Int} (h : Ring w p g n xs) (z : Int) :
    Calls Tryz.prog 86 #[.pointer (some ⟨p, 0, none⟩), .int .i64 z] w fun e w' => e = .returned (.int .i64 (addE xs n z)) ∧ ∃ k, w' = w.drewN k := by
  obtain ⟨f, ys, hf, hr, hh⟩ := h.raw
  have hlo := h.lo
  have hT := there_yes hr hlo
  by_cases h0 : z < 0
  · rw [addE_arg h0]
    go_enter Tryz.func86, Tryz.ntmps86
    go_wp2_with (go_at_call 90; refine hT.mono ?_; rintro e wx ⟨rfl, hwx⟩; obtain rfl := hwx.symm)
    go_ret
    exact ⟨rfl, 0, rfl⟩
  · by_cases hm : z ∈ xs
    · rw [addE_state h0 hm]
      obtain ⟨k, hk, he, hlow, _⟩ := first_at hm
      have hP := placeOf_any hr hf h.hi h.len hh z k true (by omega) hlow (fun _ => ⟨hk, he⟩) (fun e => by cases e)
      clear hh hlow hm he
      go_enter Tryz.func86, Tryz.ntmps86
      go_wp2_with (first
        | (go_at_call 90; refine hT.mono ?_; rintro e wx ⟨rfl, hwx⟩; obtain rfl := hwx.symm)
        | (go_at_call 91; refine hP.mono ?_; rintro e wx ⟨rfl, kq, hwx⟩))
      go_ret
      exact ⟨rfl, kq, rfl⟩
    · have hP := placeOf_any hr hf h.hi h.len hh z xs.length false (by omega) (fun j hj e => hm (by rw [← e]; exact getD_mem hj)) (fun e => by cases e) (fun _ => rfl)
      have HR : Hid (∀ k, Raw (w.drewN k) p g n f xs.length ys) := fun k => hr.drew k
      by_cases hl : xs.length = n
      · rw [addE_full h0 hm hl]
        have hF : Hid (((xs.length : Int) == (n : Int)) = true) := by show _ = true; simp; omega
        clear hh hm hl hr
        generalize xs.length = m at *
        go_enter Tryz.func86, Tryz.ntmps86
        go_wp2_with (first
          | (go_at_call 90; refine hT.mono ?_; rintro e wx ⟨rfl, hwx⟩; obtain rfl := hwx.symm)
          | (go_at_call 91; refine hP.mono ?_; rintro e wx ⟨rfl, kq, hwx⟩; have RX : Hid (Raw wx p g n f m ys) := (by rw [hwx]; exact HR.out kq); have HX : Hid (wx = w.drewN kq) := hwx; clear hwx)
          | (go_at_call 99; refine (isFull_any RX.out true hF.out).mono ?_; rintro e wy ⟨rfl, kr, hwy⟩))
        go_ret
        exact ⟨rfl, _, by rw [HX.out, World.drewN_drewN]⟩
      · rw [addE_ok h0 hm hl]
        have hF : Hid (((xs.length : Int) == (n : Int)) = false) := by show _ = false; simp; omega
        clear hh hm hl hr
        generalize xs.length = m at *
        go_enter Tryz.func86, Tryz.ntmps86
        go_wp2_with (first
          | (go_at_call 90; refine hT.mono ?_; rintro e wx ⟨rfl, hwx⟩; obtain rfl := hwx.symm)
          | (go_at_call 91; refine hP.mono ?_; rintro e wx ⟨rfl, kq, hwx⟩; have RX : Hid (Raw wx p g n f m ys) := (by rw [hwx]; exact HR.out kq); have HX : Hid (wx = w.drewN kq) := hwx; clear hwx)
          | (go_at_call 99; refine (isFull_any RX.out false hF.out).mono ?_; rintro e wy ⟨rfl, kr, hwy⟩))
        go_ret
        exact ⟨rfl, _, by rw [HX.out, World.drewN_drewN]⟩
theorem mayAdd_nil {w : World} (z : Int) : Calls Tryz.prog 86 #[.pointer none, .int .i64 z] w fun r w' => r = .returned (.int .i64 2) ∧ w' = w := by
  go_enter Tryz.func86, Tryz.ntmps86
  go_wp2_with (go_at_call 90; refine there_nil.mono ?_; rintro e wx ⟨rfl, rfl⟩)
  go_ret
  exact ⟨rfl, rfl⟩
theorem mayAdd_zero {w : World} {p : Nat} (h0 : w.cell? ⟨p, 0, none⟩ = some (.slice none 0 0)) (z : Int) : Calls Tryz.prog 86 #[.pointer (some ⟨p, 0, none⟩), .int .i64 z] w fun r w' => r = .returned (.int .i64 2) ∧ w' = w := by
  go_enter Tryz.func86, Tryz.ntmps86
  go_wp2_with (go_at_call 90; refine (there_zero h0).mono ?_; rintro e wx ⟨rfl, rfl⟩)
  go_ret
  exact ⟨rfl, rfl⟩
theorem Ring.drew {w : World} {p g n : Nat} {xs : List Int} (h : Ring w p g n xs) (k : Nat) : Ring (w.drewN k) p g n xs := h.below (below_drewN _ _)
theorem addE_lt {xs : List Int} {n : Nat} {z : Int} (h : addE xs n z = 0) (hl : xs.length ≤ n) : xs.length < n := by
  unfold addE at h
  split at h
  · omega
  · split at h
    · omega
    · split at h <;> omega
/-- what a call that may not add leaves behind -/
theorem Ring.left {w : World} {p g n : Nat} {xs ys : List Int} (h : Ring w p g n xs) (k : Nat) (e : ys = xs) : Ring (w.drewN k) p g n ys ∧ Buts [p, g] w (w.drewN k) := by
  subst e; exact ⟨h.drew k, Buts.of (below_drewN _ _)⟩
set_option maxHeartbeats 1000000 in
theorem put_any {w : World} {p g n : Nat} {xs : List Int} (h : Ring w p g n xs) (z : Int) :
    Calls Tryz.prog 57 #[.pointer (some ⟨p, 0, none⟩), .int .i64 z] w fun e w' => e = .returned (.int .i64 (addE xs n z)) ∧ Ring w' p g n (putL xs n z) ∧ Buts [p, g] w w' := by
  have hC := mayAdd_any h z
  have HR : Hid (Ring w p g n xs) := h
  by_cases e0 : addE xs n z = 0
  · have hlt := addE_lt e0 h.len
    obtain ⟨f, ys, hf, hr, hh⟩ := h.raw
    have HA : Hid (∀ k, Calls Tryz.prog 87 #[.pointer (some ⟨p, 0, none⟩), .int .i64 z] (w.drewN k) fun e w' => e = .returned (.tuple #[]) ∧ Raw w' p g n f (xs.length + 1) (ys.set (sl n f xs.length) z) ∧ Buts [p, g] (w.drewN k) w') := fun k => addLast_any (hr.drew k) hf h.hi hlt z
    have HE : Hid (putL xs n z = xs ++ [z]) := by show _ = _; unfold putL; rw [if_pos e0]
    have HH : Hid (Holds n f (ys.set (sl n f xs.length) z) (xs ++ [z])) := hh.addLast hr.len hf hlt z
    rw [e0] at hC ⊢
    clear hh hr h e0
    go_enter Tryz.func57, Tryz.ntmps57
    go_wp2_with (first
      | (go_at_call 86; refine hC.mono ?_; rintro e wx ⟨rfl, kq, hwx⟩; have HX : Hid (wx = w.drewN kq) := hwx; clear hwx)
      | (go_at_call 87; rw [HX.out]; refine (HA.out kq).mono ?_; rintro e w2 ⟨rfl, hr2, hb2⟩; have R2 : Hid (Raw w2 p g n f (xs.length + 1) (ys.set (sl n f xs.length) z)) := hr2; have B2 : Hid (Buts [p, g] (w.drewN kq) w2) := hb2; clear hr2 hb2))
    go_ret
    refine ⟨rfl, ?_, (Buts.of (below_drewN w kq)).trans B2.out⟩
    rw [HE.out]
    exact ⟨⟨f, _, hf, by simpa using R2.out, HH.out⟩, HR.out.lo, HR.out.hi, by simp; omega⟩
  · have e1 : (addE xs n z == 0) = false := by simpa using e0
    have HE : Hid (putL xs n z = xs) := by show _ = _; unfold putL; rw [if_neg e0]
    clear h
    generalize addE xs n z = v at *
    go_enter Tryz.func57, Tryz.ntmps57
    go_wp2_with (first
      | (go_at_call 86; refine hC.mono ?_; rintro e wx ⟨rfl, kq, hwx⟩; have HX : Hid (wx = w.drewN kq) := hwx; clear hwx))
    go_ret
    refine ⟨rfl, ?_⟩
    rw [HX.out]
    exact HR.out.left kq HE.out
set_option maxHeartbeats 1000000 in
theorem push_any {w : World} {p g n : Nat} {xs : List Int} (h : Ring w p g n xs) (z : Int) :
    Calls Tryz.prog 63 #[.pointer (some ⟨p, 0, none⟩), .int .i64 z] w fun e w' => e = .returned (.int .i64 (addE xs n z)) ∧ Ring w' p g n (pushL xs n z) ∧ Buts [p, g] w w' := by
  have hC := mayAdd_any h z
  have HR : Hid (Ring w p g n xs) := h
  by_cases e0 : addE xs n z = 0
  · have hlt := addE_lt e0 h.len
    obtain ⟨f, ys, hf, hr, hh⟩ := h.raw
    have HA : Hid (∀ k, Calls Tryz.prog 95 #[.pointer (some ⟨p, 0, none⟩), .int .i64 z] (w.drewN k) fun e w' => e = .returned (.tuple #[]) ∧ Raw w' p g n (sl n f (n - 1)) (xs.length + 1) (ys.set (sl n f (n - 1)) z) ∧ Buts [p, g] (w.drewN k) w') := fun k => addFirst_any (hr.drew k) hf h.hi hlt z
    have HE : Hid (pushL xs n z = z :: xs) := by show _ = _; unfold pushL; rw [if_pos e0]
    have HH : Hid (Holds n (sl n f (n - 1)) (ys.set (sl n f (n - 1)) z) (z :: xs)) := hh.addFirst hr.len hf hlt z
    have HF : Hid (sl n f (n - 1) < n) := sl_lt hf (by omega)
    rw [e0] at hC ⊢
    clear hh hr h e0
    go_enter Tryz.func63, Tryz.ntmps63
    go_wp2_with (first
      | (go_at_call 86; refine hC.mono ?_; rintro e wx ⟨rfl, kq, hwx⟩; have HX : Hid (wx = w.drewN kq) := hwx; clear hwx)
      | (go_at_call 95; rw [HX.out]; refine (HA.out kq).mono ?_; rintro e w2 ⟨rfl, hr2, hb2⟩; have R2 : Hid (Raw w2 p g n (sl n f (n - 1)) (xs.length + 1) (ys.set (sl n f (n - 1)) z)) := hr2; have B2 : Hid (Buts [p, g] (w.drewN kq) w2) := hb2; clear hr2 hb2))
    go_ret
    refine ⟨rfl, ?_, (Buts.of (below_drewN w kq)).trans B2.out⟩
    rw [HE.out]
    exact ⟨⟨_, _, HF.out, by simpa using R2.out, HH.out⟩, HR.out.lo, HR.out.hi, by simp; omega⟩
  · have e1 : (addE xs n z == 0) = false := by simpa using e0
    have HE : Hid (pushL xs n z = xs) := by show _ = _; unfold pushL; rw [if_neg e0]
    clear h
    generalize addE xs n z = v at *
    go_enter Tryz.func63, Tryz.ntmps63
    go_wp2_with (first
      | (go_at_call 86; refine hC.mono ?_; rintro e wx ⟨rfl, kq, hwx⟩; have HX : Hid (wx = w.drewN kq) := hwx; clear hwx))
    go_ret
    refine ⟨rfl, ?_⟩
    rw [HX.out]
    exact HR.out.left kq HE.out
set_option maxHeartbeats 1000000 in
theorem remove_any {w : World} {p g n : Nat} {xs : List Int} (h : Ring w p g n xs) (z : Int) :
    Calls Tryz.prog 60 #[.pointer (some ⟨p, 0, none⟩), .int .i64 z] w fun e w' => e = .returned (.int .i64 (remE xs z)) ∧ Ring w' p g n (xs.erase z) ∧ Buts [p, g] w w' := by
  obtain ⟨f, ys, hf, hr, hh⟩ := h.raw
  have HR : Hid (Ring w p g n xs) := h
  have hT := there_yes hr h.lo
  by_cases hm : z ∈ xs
  · rw [show remE xs z = 0 by simp [remE, hm]]
    obtain ⟨k, hk, he, hlow, hE⟩ := first_at hm
    have hP := placeOf_any hr hf h.hi h.len hh z k true (by omega) hlow (fun _ => ⟨hk, he⟩) (fun e => by cases e)
    rw [if_pos rfl] at hP
    have HA : Hid (∀ q, Calls Tryz.prog 92 #[.pointer (some ⟨p, 0, none⟩), .int .i64 k] (w.drewN q) fun e w' => e = .returned (.tuple #[]) ∧ (∃ ys', Raw w' p g n f (xs.length - 1) ys' ∧ Holds n f ys' (xs.eraseIdx k)) ∧ Buts [p, g] (w.drewN q) w') := fun q => removeAt_any (hr.drew q) hf h.hi h.len hh k (by omega) (by omega)
    have HE : Hid (xs.erase z = xs.eraseIdx k) := hE
    have HL : Hid ((xs.eraseIdx k).length = xs.length - 1) := by show _ = _; rw [List.length_eraseIdx, if_pos hk]
    have HK : Hid (k < xs.length) := hk
    clear h hh hr hm hlow he hE hk
    go_enter Tryz.func60, Tryz.ntmps60
    go_wp2_with (first
      | (go_at_call 90; refine hT.mono ?_; rintro e wx ⟨rfl, hwx⟩; obtain rfl := hwx.symm)
      | (go_at_call 91; refine hP.mono ?_; rintro e wx ⟨rfl, kq, hwx⟩; have HX : Hid (wx = w.drewN kq) := hwx; clear hwx)
      | (go_at_call 92; rw [HX.out]; refine (HA.out kq).mono ?_; rintro e w2 ⟨rfl, hr2, hb2⟩; have R2 : Hid (∃ ys', Raw w2 p g n f (xs.length - 1) ys' ∧ Holds n f ys' (xs.eraseIdx k)) := hr2; have B2 : Hid (Buts [p, g] (w.drewN kq) w2) := hb2; clear hr2 hb2))
    go_ret
    refine ⟨rfl, ?_, (Buts.of (below_drewN w kq)).trans B2.out⟩
    obtain ⟨ys', q1, q2⟩ := R2.out
    rw [HE.out]
    exact ⟨⟨f, ys', hf, by rw [HL.out]; exact q1, q2⟩, HR.out.lo, HR.out.hi, by have := HR.out.len; rw [HL.out]; omega⟩
  · rw [show remE xs z = 1 by simp [remE, hm], List.erase_of_not_mem hm]
    have hP := placeOf_any hr hf h.hi h.len hh z xs.length false (by omega) (fun j hj e => hm (by rw [← e]; exact getD_mem hj)) (fun e => by cases e) (fun _ => rfl)
    clear h hh hr hm
    go_enter Tryz.func60, Tryz.ntmps60
    go_wp2_with (first
      | (go_at_call 90; refine hT.mono ?_; rintro e wx ⟨rfl, hwx⟩; obtain rfl := hwx.symm)
      | (go_at_call 91; refine hP.mono ?_; rintro e wx ⟨rfl, kq, hwx⟩; have HX : Hid (wx = w.drewN kq) := hwx; clear hwx))
    go_ret
    refine ⟨rfl, ?_⟩
    rw [HX.out]
    exact HR.out.left kq rfl
set_option maxHeartbeats 1000000 in
theorem turn_any {w : World} {p g n : Nat} {xs : List Int} (h : Ring w p g n xs) :
    Calls Tryz.prog 59 #[.pointer (some ⟨p, 0, none⟩)] w fun e w' => e = .returned (.int .i64 (takeE xs)) ∧ Ring w' p g n (turnL xs) ∧ Buts [p, g] w w' := by
  obtain ⟨f, ys, hf, hr, hh⟩ := h.raw
  have HR : Hid (Ring w p g n xs) := h
  have hS := hasSome_any hr h.lo _ rfl
  rcases xs with _ | ⟨x, xs⟩
  · rw [takeE_nil]
    clear h hh hr
    go_enter Tryz.func59, Tryz.ntmps59
    go_wp2_with (first | (go_at_call 88; refine hS.mono ?_; rintro e wx ⟨rfl, hwx⟩; obtain rfl := hwx.symm))
    go_ret
    exact ⟨rfl, HR.out, Buts.refl _ _⟩
  · rw [takeE_cons]
    have hl := h.len
    have hl' : xs.length < n := by simp at hl; omega
    have hC := takeFirst_any hr.drew1 hf h.hi hl'
    rw [hh.first hf] at hC
    have HF : Hid (sl n f 1 < n) := sl_lt hf h.lo
    have HL : Hid (∀ w', Raw w' p g n (sl n f 1) xs.length ys → Calls Tryz.prog 87 #[.pointer (some ⟨p, 0, none⟩), .int .i64 x] w' fun e w'' => e = .returned (.tuple #[]) ∧ Raw w'' p g n (sl n f 1) (xs.length + 1) (ys.set (sl n (sl n f 1) xs.length) x) ∧ Buts [p, g] w' w'') := fun w' h' => addLast_any h' HF.out h.hi hl' x
    have HH : Hid (Holds n (sl n f 1) (ys.set (sl n (sl n f 1) xs.length) x) (xs ++ [x])) := (hh.take hf hl').addLast hr.len HF.out hl' x
    rw [if_neg (by simp)] at hS
    clear h hh hr hl
    go_enter Tryz.func59, Tryz.ntmps59
    go_wp2_with (first
      | (go_at_call 88; refine hS.mono ?_; rintro e wx ⟨rfl, hwx⟩; obtain rfl := hwx.symm))
    go_region_with (first
      | (go_at_call 89; refine hC.mono ?_; rintro e w2 ⟨rfl, hr2, hb2⟩; have R2 : Hid (Raw w2 p g n (sl n f 1) xs.length ys) := hr2; have B2 : Hid (Buts [p, g] w.drew w2) := hb2; clear hr2 hb2)
      | (go_at_call 87; refine (HL.out _ R2.out).mono ?_; rintro e w3 ⟨rfl, hr3, hb3⟩; have R3 : Hid (Raw w3 p g n (sl n f 1) (xs.length + 1) (ys.set (sl n (sl n f 1) xs.length) x)) := hr3; have B3 : Hid (Buts [p, g] w2 w3) := hb3; clear hr3 hb3))
    all_goals
      go_wp2
      go_ret
      exact ⟨rfl, ⟨⟨_, _, HF.out, by simpa [turnL] using R3.out, HH.out⟩, HR.out.lo, HR.out.hi, by simp [turnL]; omega⟩, ((Buts.of (drew_below w)).trans B2.out).trans B3.out⟩
set_option maxHeartbeats 1000000 in
theorem list_any {w : World} {p g n : Nat} {xs : List Int} (h : Ring w p g n xs) :
    Calls Tryz.prog 61 #[.pointer (some ⟨p, 0, none⟩)] w fun e w' => e = .returned (.slice (some ⟨w.heap.size, 0, none⟩) xs.length xs.length) ∧ Row w' w.heap.size xs ∧ Below w.heap.size w w' := by
  obtain ⟨f, ys, hf, hr, hh⟩ := h.raw
  have hT := there_yes hr h.lo
  have hC := all_any hr hf h.hi h.len hh
  clear h hh hr
  go_enter Tryz.func61, Tryz.ntmps61
  go_wp2_with (first
    | (go_at_call 90; refine hT.mono ?_; rintro e wx ⟨rfl, hwx⟩; obtain rfl := hwx.symm)
    | (go_at_call 93; refine hC.mono ?_; rintro e w2 ⟨rfl, hr2, hb2⟩))
  go_ret
  exact ⟨rfl, hr2, hb2⟩
end Go.Proofs.YtjhpiecbolmleaaGreatDoor
