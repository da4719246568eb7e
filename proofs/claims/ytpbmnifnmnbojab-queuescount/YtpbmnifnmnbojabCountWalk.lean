/- 'QueuesCount' walked: whatever is done, as many messages are there as were put, or pushed, less those that were taken, and no more than there may be. -/
import Derived.Test.YtpbmnifnmnbojabSeen
namespace Go.Proofs.Ytpbmnifnmnbojab
open Go Go.RowKit
set_option maxRecDepth 100000
set_option linter.unusedVariables false
set_option maxHeartbeats 8000000 in
theorem count_any (a : Int) (ha : 0 ≤ a ∧ a ≤ 255) {w : World} {sa : Option Addr} {acts : List (Int × Int)} (hs : Acts w.heap.size w sa acts) (hma : acts.length ≤ maxLen) (ca : Nat) :
    Calls Try.prog 3 #[.int .u8 a, .slice sa acts.length ca] w fun e w' => e = .returned (.bool true) ∧ Below w.heap.size w w' := by
  unfold maxLen at hma
  obtain ⟨m, hm'⟩ : ∃ m, acts.length = m := ⟨_, rfl⟩
  rw [hm'] at hma ⊢
  have HM : Hid (acts.length = m) := hm'
  have HS : Hid (Acts w.heap.size w sa acts) := hs
  clear hm' hs
  by_cases hbig : 100 < m
  · go_enter Try.func3, Try.ntmps3
    go_wp2_with (first
      | (go_at_call 4; clear M1; refine (alive_any _).mono ?_; rintro e w2 ⟨rfl, hb2⟩)
      | (go_at_call 4; refine (alive_any _).mono ?_; rintro e w1 ⟨rfl, hB⟩; have M1 := True.intro))
    go_ret
    exact ⟨rfl, hB.trans (hb2.mono hB.size)⟩
  · obtain ⟨k, hk⟩ := Int.eq_ofNat_of_zero_le (a := 1 + a % 64) (by omega)
    have k1 : 1 ≤ k := by omega
    have k2 : k ≤ 64 := by omega
    go_enter Try.func3, Try.ntmps3
    go_wp2_with (first
      | (go_at_call 4; refine (alive_any _).mono ?_; rintro e w1 ⟨rfl, hB⟩)
      | (go_at_call 5; refine (new_yes k k1 k2).mono ?_; rintro e w2 ⟨rfl, hr, hb⟩; have HA : Hid (Que w2 w1.heap.size k []) := hr; have hB1 := hB.size; replace hB := hB.trans (hb.mono hB.size); clear hr hb))
    obtain ⟨p, hp⟩ : ∃ p, w1.heap.size = p := ⟨_, rfl⟩
    rw [hp] at HA hB1 ⊢
    clear hp
    go_loopg [8, 9] m (fun g s8 s9 wx => ∃ (i c : Nat) (xs : List Int), i + g = m ∧ s8 = .int .i64 c ∧ s9 = .int .i64 i ∧ Hid (xs.length = c) ∧ Hid (Que wx p k xs) ∧ Below w.heap.size w wx)
    case atStart => exact ⟨0, 0, [], by omega, rfl, rfl, rfl, HA, hB⟩
    case round =>
      clear HA hB
      obtain ⟨i, c, xs, hig, rfl, rfl, HC, HA, hB⟩ := hrel
      cases gk with
      | zero =>
        obtain rfl : i = m := by omega
        have hlt : ¬ ((i : Int) < i) := by omega
        go_wp2
        go_ret
        exact ⟨rfl, hB⟩
      | succ g =>
        have hlt : (i : Int) < m := by omega
        have hck := HA.out.len
        rw [HC.out] at hck
        obtain ⟨⟨kd, z⟩, hx⟩ : ∃ x, acts[i]? = some x := ⟨_, List.getElem?_eq_getElem (by rw [HM.out]; omega)⟩
        obtain ⟨b, off, rfl, hbl, hc⟩ := (HS.out.below hB).spot (by rw [HM.out]; omega)
        obtain ⟨y0, y1⟩ := hc i _ hx
        obtain ⟨hkd, hzb⟩ := HS.out.wf i _ hx
        simp only at y0 y1 hkd hzb
        clear hc hx
        have hkm : 0 ≤ kd % 6 ∧ kd % 6 < 6 := by omega
        by_cases hk01 : kd % 6 = 0 ∨ kd % 6 = 1
        · rcases hk01 with hk0 | hk1
          · by_cases hf : c = k
            · have hcI : ¬ ((c : Int) < k) := by omega
              have hcD : decide ((c : Int) < (k : Int)) = false := decide_eq_false hcI
              have hcN : decide (c < k) = false := decide_eq_false (by omega)
              clear hf
              have E1 : Hid (addE xs k = 10) := addE_full (by have := HC.out; omega)
              have E2 : Hid (putL xs k z = xs) := putL_full (by have := HC.out; omega)
              have HL1 : Hid (xs.length = c) := HC
              go_wp2_with (first
                | (go_at_call 7; refine (put_is HA.out z E1.out E2.out).mono ?_; rintro e v1 ⟨rfl, hr, hb⟩; have H1 : Hid (Que v1 p k (xs)) := hr; have B1 := hB.trans (one_below hb hB1 hB.size); clear hr hb)
                | (go_at_call 9; refine (list_is H1.out HL1.out).mono ?_; rintro e v2 ⟨rfl, hr, hb⟩; have HA2 : Hid (Que v2 p k (xs)) := H1.out.below hb; have B2 := B1.trans (hb.mono B1.size); clear hr hb))
              go_roundg g
              case measure => omega
              case rel => exact ⟨i + 1, c, xs, by omega, by go_num, by go_num, HL1.out, HA2, B2⟩
            · have hcI : (c : Int) < k := by omega
              have hcD : decide ((c : Int) < (k : Int)) = true := decide_eq_true hcI
              have hcN : decide (c < k) = true := decide_eq_true (by omega)
              clear hf
              have E1 : Hid (addE xs k = 0) := addE_ok (by have := HC.out; omega)
              have E2 : Hid (putL xs k z = xs ++ [z]) := putL_ok (by have := HC.out; omega)
              have HL1 : Hid ((xs ++ [z]).length = c + 1) := by show _ = _; simp [HC.out]
              go_wp2_with (first
                | (go_at_call 7; refine (put_is HA.out z E1.out E2.out).mono ?_; rintro e v1 ⟨rfl, hr, hb⟩; have H1 : Hid (Que v1 p k (xs ++ [z])) := hr; have B1 := hB.trans (one_below hb hB1 hB.size); clear hr hb)
                | (go_at_call 9; refine (list_is H1.out HL1.out).mono ?_; rintro e v2 ⟨rfl, hr, hb⟩; have HA2 : Hid (Que v2 p k (xs ++ [z])) := H1.out.below hb; have B2 := B1.trans (hb.mono B1.size); clear hr hb))
              go_roundg g
              case measure => omega
              case rel => exact ⟨i + 1, c + 1, xs ++ [z], by omega, by go_num, by go_num, HL1.out, HA2, B2⟩
          · by_cases hf : c = k
            · have hcI : ¬ ((c : Int) < k) := by omega
              have hcD : decide ((c : Int) < (k : Int)) = false := decide_eq_false hcI
              have hcN : decide (c < k) = false := decide_eq_false (by omega)
              clear hf
              have E1 : Hid (addE xs k = 10) := addE_full (by have := HC.out; omega)
              have E2 : Hid (putL xs k z = xs) := putL_full (by have := HC.out; omega)
              have HL1 : Hid (xs.length = c) := HC
              go_wp2_with (first
                | (go_at_call 7; refine (put_is HA.out z E1.out E2.out).mono ?_; rintro e v1 ⟨rfl, hr, hb⟩; have H1 : Hid (Que v1 p k (xs)) := hr; have B1 := hB.trans (one_below hb hB1 hB.size); clear hr hb)
                | (go_at_call 9; refine (list_is H1.out HL1.out).mono ?_; rintro e v2 ⟨rfl, hr, hb⟩; have HA2 : Hid (Que v2 p k (xs)) := H1.out.below hb; have B2 := B1.trans (hb.mono B1.size); clear hr hb))
              go_roundg g
              case measure => omega
              case rel => exact ⟨i + 1, c, xs, by omega, by go_num, by go_num, HL1.out, HA2, B2⟩
            · have hcI : (c : Int) < k := by omega
              have hcD : decide ((c : Int) < (k : Int)) = true := decide_eq_true hcI
              have hcN : decide (c < k) = true := decide_eq_true (by omega)
              clear hf
              have E1 : Hid (addE xs k = 0) := addE_ok (by have := HC.out; omega)
              have E2 : Hid (putL xs k z = xs ++ [z]) := putL_ok (by have := HC.out; omega)
              have HL1 : Hid ((xs ++ [z]).length = c + 1) := by show _ = _; simp [HC.out]
              go_wp2_with (first
                | (go_at_call 7; refine (put_is HA.out z E1.out E2.out).mono ?_; rintro e v1 ⟨rfl, hr, hb⟩; have H1 : Hid (Que v1 p k (xs ++ [z])) := hr; have B1 := hB.trans (one_below hb hB1 hB.size); clear hr hb)
                | (go_at_call 9; refine (list_is H1.out HL1.out).mono ?_; rintro e v2 ⟨rfl, hr, hb⟩; have HA2 : Hid (Que v2 p k (xs ++ [z])) := H1.out.below hb; have B2 := B1.trans (hb.mono B1.size); clear hr hb))
              go_roundg g
              case measure => omega
              case rel => exact ⟨i + 1, c + 1, xs ++ [z], by omega, by go_num, by go_num, HL1.out, HA2, B2⟩
        · by_cases hk2 : kd % 6 = 2
          · by_cases hf : c = k
            · have hcI : ¬ ((c : Int) < k) := by omega
              have hcD : decide ((c : Int) < (k : Int)) = false := decide_eq_false hcI
              have hcN : decide (c < k) = false := decide_eq_false (by omega)
              clear hf
              have E1 : Hid (addE xs k = 10) := addE_full (by have := HC.out; omega)
              have E2 : Hid (pushL xs k z = xs) := pushL_full (by have := HC.out; omega)
              have HL1 : Hid (xs.length = c) := HC
              go_wp2_with (first
                | (go_at_call 6; refine (push_is HA.out z E1.out E2.out).mono ?_; rintro e v1 ⟨rfl, hr, hb⟩; have H1 : Hid (Que v1 p k (xs)) := hr; have B1 := hB.trans (one_below hb hB1 hB.size); clear hr hb)
                | (go_at_call 9; refine (list_is H1.out HL1.out).mono ?_; rintro e v2 ⟨rfl, hr, hb⟩; have HA2 : Hid (Que v2 p k (xs)) := H1.out.below hb; have B2 := B1.trans (hb.mono B1.size); clear hr hb))
              go_roundg g
              case measure => omega
              case rel => exact ⟨i + 1, c, xs, by omega, by go_num, by go_num, HL1.out, HA2, B2⟩
            · have hcI : (c : Int) < k := by omega
              have hcD : decide ((c : Int) < (k : Int)) = true := decide_eq_true hcI
              have hcN : decide (c < k) = true := decide_eq_true (by omega)
              clear hf
              have E1 : Hid (addE xs k = 0) := addE_ok (by have := HC.out; omega)
              have E2 : Hid (pushL xs k z = z :: xs) := pushL_ok (by have := HC.out; omega)
              have HL1 : Hid ((z :: xs).length = c + 1) := by show _ = _; simp [HC.out]
              go_wp2_with (first
                | (go_at_call 6; refine (push_is HA.out z E1.out E2.out).mono ?_; rintro e v1 ⟨rfl, hr, hb⟩; have H1 : Hid (Que v1 p k (z :: xs)) := hr; have B1 := hB.trans (one_below hb hB1 hB.size); clear hr hb)
                | (go_at_call 9; refine (list_is H1.out HL1.out).mono ?_; rintro e v2 ⟨rfl, hr, hb⟩; have HA2 : Hid (Que v2 p k (z :: xs)) := H1.out.below hb; have B2 := B1.trans (hb.mono B1.size); clear hr hb))
              go_roundg g
              case measure => omega
              case rel => exact ⟨i + 1, c + 1, z :: xs, by omega, by go_num, by go_num, HL1.out, HA2, B2⟩
          · by_cases hk34 : kd % 6 = 3 ∨ kd % 6 = 4
            · rcases hk34 with hk3 | hk4
              · rcases c with _ | c
                · obtain rfl : xs = [] := List.eq_nil_of_length_eq_zero HC.out
                  have HL1 : Hid (([] : List Int).length = 0) := rfl
                  go_wp2_with (first
                    | (go_at_call 8; refine (take_is HA.out (x := 0) (e := 11) (ys := []) rfl rfl rfl).mono ?_; rintro e v1 ⟨rfl, hr, hb⟩; have H1 : Hid (Que v1 p k []) := hr; have B1 := hB.trans (one_below hb hB1 hB.size); clear hr hb)
                    | (go_at_call 9; refine (list_is H1.out HL1.out).mono ?_; rintro e v2 ⟨rfl, hr, hb⟩; have HA2 : Hid (Que v2 p k ([])) := H1.out.below hb; have B2 := B1.trans (hb.mono B1.size); clear hr hb))
                  go_roundg g
                  case measure => omega
                  case rel => exact ⟨i + 1, 0, [], by omega, by go_num, by go_num, HL1.out, HA2, B2⟩
                · have hcI : (0 : Int) < (c : Int) + 1 := by omega
                  obtain ⟨x, ys, rfl⟩ : ∃ x ys, xs = x :: ys := by
                    cases xs with
                    | nil => have := HC.out; simp at this
                    | cons x ys => exact ⟨x, ys, rfl⟩
                  have HL1 : Hid (ys.length = c) := by have := HC.out; simp at this; exact this
                  go_wp2_with (first
                    | (go_at_call 8; refine (take_is HA.out (x := x) (e := 0) (ys := ys) rfl (takeE_cons _ _) rfl).mono ?_; rintro e v1 ⟨rfl, hr, hb⟩; have H1 : Hid (Que v1 p k ys) := hr; have B1 := hB.trans (one_below hb hB1 hB.size); clear hr hb)
                    | (go_at_call 9; refine (list_is H1.out HL1.out).mono ?_; rintro e v2 ⟨rfl, hr, hb⟩; have HA2 : Hid (Que v2 p k (ys)) := H1.out.below hb; have B2 := B1.trans (hb.mono B1.size); clear hr hb))
                  go_roundg g
                  case measure => omega
                  case rel => exact ⟨i + 1, c, ys, by omega, by go_num, by go_num, HL1.out, HA2, B2⟩
              · rcases c with _ | c
                · obtain rfl : xs = [] := List.eq_nil_of_length_eq_zero HC.out
                  have HL1 : Hid (([] : List Int).length = 0) := rfl
                  go_wp2_with (first
                    | (go_at_call 8; refine (take_is HA.out (x := 0) (e := 11) (ys := []) rfl rfl rfl).mono ?_; rintro e v1 ⟨rfl, hr, hb⟩; have H1 : Hid (Que v1 p k []) := hr; have B1 := hB.trans (one_below hb hB1 hB.size); clear hr hb)
                    | (go_at_call 9; refine (list_is H1.out HL1.out).mono ?_; rintro e v2 ⟨rfl, hr, hb⟩; have HA2 : Hid (Que v2 p k ([])) := H1.out.below hb; have B2 := B1.trans (hb.mono B1.size); clear hr hb))
                  go_roundg g
                  case measure => omega
                  case rel => exact ⟨i + 1, 0, [], by omega, by go_num, by go_num, HL1.out, HA2, B2⟩
                · have hcI : (0 : Int) < (c : Int) + 1 := by omega
                  obtain ⟨x, ys, rfl⟩ : ∃ x ys, xs = x :: ys := by
                    cases xs with
                    | nil => have := HC.out; simp at this
                    | cons x ys => exact ⟨x, ys, rfl⟩
                  have HL1 : Hid (ys.length = c) := by have := HC.out; simp at this; exact this
                  go_wp2_with (first
                    | (go_at_call 8; refine (take_is HA.out (x := x) (e := 0) (ys := ys) rfl (takeE_cons _ _) rfl).mono ?_; rintro e v1 ⟨rfl, hr, hb⟩; have H1 : Hid (Que v1 p k ys) := hr; have B1 := hB.trans (one_below hb hB1 hB.size); clear hr hb)
                    | (go_at_call 9; refine (list_is H1.out HL1.out).mono ?_; rintro e v2 ⟨rfl, hr, hb⟩; have HA2 : Hid (Que v2 p k (ys)) := H1.out.below hb; have B2 := B1.trans (hb.mono B1.size); clear hr hb))
                  go_roundg g
                  case measure => omega
                  case rel => exact ⟨i + 1, c, ys, by omega, by go_num, by go_num, HL1.out, HA2, B2⟩
            · have hk5 : kd % 6 = 5 := by omega
              have HL1 : Hid (xs.length = c) := HC
              have H1 : Hid (Que wr p k xs) := HA
              have B1 := hB
              go_wp2_with (first
                | (go_at_call 9; refine (list_is H1.out HL1.out).mono ?_; rintro e v2 ⟨rfl, hr, hb⟩; have HA2 : Hid (Que v2 p k (xs)) := H1.out.below hb; have B2 := B1.trans (hb.mono B1.size); clear hr hb))
              go_roundg g
              case measure => omega
              case rel => exact ⟨i + 1, c, xs, by omega, by go_num, by go_num, HL1.out, HA2, B2⟩
end Go.Proofs.Ytpbmnifnmnbojab
