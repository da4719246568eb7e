/- Is a byte of these not 0? -/
import Derived.Test.YtomccgodfimaiaaGreatDoorKinds
namespace Go.Proofs.YtomccgodfimaiaaGreatDoor
set_option linter.all false
open Go Go.RowKit
set_option maxRecDepth 100000
theorem isSet_any (b : Int) (w : World) : Calls Tryz.prog 133 #[.int .u8 b] w fun e w' => e = .returned (.bool (decide (b ≠ 0))) ∧ w' = w := by
  by_cases h : b = 0
  · go_enter Tryz.func133, Tryz.ntmps133
    go_wp2
    go_ret
    exact ⟨by simp [h], rfl⟩
  · go_enter Tryz.func133, Tryz.ntmps133
    go_wp2
    go_ret
    exact ⟨by simp [h], rfl⟩
/-- which byte is the first that is not 0 -/
def firstSet : List Int → Nat → Int
  | [], _ => -1
  | b :: l, i => if b ≠ 0 then i else firstSet l (i + 1)
theorem firstSet_ge : ∀ (l : List Int) (i : Nat), decide (0 ≤ firstSet l i) = l.any (fun b => decide (b ≠ 0))
  | [], i => by simp [firstSet]
  | b :: l, i => by
    have ih := firstSet_ge l (i + 1)
    by_cases h : b = 0
    · simp only [firstSet, h, ne_eq, not_true_eq_false, if_false, List.any_cons, decide_false, Bool.false_or]; exact ih
    · simp [firstSet, h]
theorem firstSet_drop (l : List Int) (k : Nat) (x : Int) (h : l[k]? = some x) : firstSet (l.drop k) k = if x ≠ 0 then (k : Int) else firstSet (l.drop (k + 1)) (k + 1) := by
  have hk : k < l.length := (List.getElem?_eq_some_iff.1 h).1
  rw [List.drop_eq_getElem_cons hk, (List.getElem?_eq_some_iff.1 h).2, firstSet]
set_option maxHeartbeats 4000000 in
theorem index_any (R off cap : Nat) (l : List Int) (hl : l.length ≤ 3) (w : World) (hcs : ∀ i x, l[i]? = some x → w.cell? ⟨R, off + i, none⟩ = some (.int .u8 x)) :
    Calls Tryz.prog 141 #[.slice (some ⟨R, off, none⟩) l.length cap, .func (.func 133) #[] #[]] w fun e w' => e = .returned (.int .i64 (firstSet l 0)) ∧ w' = w := by
  have HL : Hid (∀ i x, l[i]? = some x → w.cell? ⟨R, off + i, none⟩ = some (.int .u8 x)) := hcs
  clear hcs
  obtain ⟨n, hn⟩ : ∃ n, l.length = n := ⟨_, rfl⟩
  rw [hn]
  have HN : Hid (l.length = n) := hn
  rw [hn] at hl
  clear hn
  go_enter Tryz.func141, Tryz.ntmps141
  go_wp2
  go_loop [8] (fun i => ∃ k : Nat, k ≤ n ∧ i = .int .i64 k ∧ Hid (firstSet (l.drop k) k = firstSet l 0)) (fun i => n - (intOf i).toNat)
  case atStart => exact ⟨0, Nat.zero_le _, rfl, rfl⟩
  case round =>
    obtain ⟨k, hk, rfl, HF⟩ := hrel
    by_cases hlt : k < n
    · obtain ⟨x, hx⟩ : ∃ x, l[k]? = some x := ⟨_, List.getElem?_eq_getElem (by have := HN.out; omega)⟩
      have hc := HL.out k x hx
      have hd := firstSet_drop l k x hx
      rw [HF.out] at hd
      have HD : Hid (firstSet l 0 = if x ≠ 0 then (k : Int) else firstSet (l.drop (k + 1)) (k + 1)) := hd
      clear hd hx
      by_cases h0 : x = 0
      · subst h0
        go_wp2_with (go_at_call 133; refine (isSet_any _ _).mono ?_; rintro e w' ⟨rfl, rfl⟩)
        go_round
        case rel => exact ⟨k + 1, by omega, by go_num, by show _ = _; rw [HD.out, if_neg (by simp)]⟩
        case measure => simp [intOf]; omega
      · go_wp2_with (go_at_call 133; refine (isSet_any _ _).mono ?_; rintro e w' ⟨rfl, rfl⟩)
        try rw [Exit.noGoto_ret]
        go_ret
        exact ⟨by rw [HD.out, if_pos h0]; rfl, rfl⟩
    · go_wp2
      go_ret
      exact ⟨by rw [← HF.out, List.drop_of_length_le (by have := HN.out; omega)]; rfl, rfl⟩
theorem contains_any (R off cap : Nat) (l : List Int) (hl : l.length ≤ 3) (w : World) (hcs : ∀ i x, l[i]? = some x → w.cell? ⟨R, off + i, none⟩ = some (.int .u8 x)) :
    Calls Tryz.prog 132 #[.slice (some ⟨R, off, none⟩) l.length cap, .func (.func 133) #[] #[]] w fun e w' => e = .returned (.bool (l.any (fun b => decide (b ≠ 0)))) ∧ w' = w := by
  have h := index_any R off cap l hl w hcs
  have HE : Hid (decide (0 ≤ firstSet l 0) = l.any (fun b => decide (b ≠ 0))) := firstSet_ge l 0
  generalize l.length = n at h
  go_enter Tryz.func132, Tryz.ntmps132
  go_wp2_with (go_at_call 141; refine h.mono ?_; rintro e w' ⟨rfl, rfl⟩)
  go_ret
  exact ⟨by rw [← HE.out]; rfl, rfl⟩
end Go.Proofs.YtomccgodfimaiaaGreatDoor
