/- 'DeltasLong' walked. -/
import Derived.Test.YtdifgjioaikchaaSeen
namespace Go.Proofs.Ytdifgjioaikchaa
open Go Go.RowKit
set_option maxRecDepth 100000
set_option linter.unusedVariables false
set_option linter.unusedSimpArgs false
theorem one_put {n : Int} (h1 : 1 ≤ n) (h2 : n ≤ 1073741824) : putE [] 3 n = 0 ∧ putL [] 3 n = [(3, n)] := by
  have hb : ¬ badArg 3 n := by unfold badArg; omega
  exact ⟨by rw [putE, if_neg hb]; rfl, by rw [putL, if_neg hb]; rfl⟩
theorem bad_put {ys : List (Int × Int)} {who n : Int} (h : n < 1 ∨ 1073741824 < n) : putE ys who n = 1 ∧ putL ys who n = ys := by
  have hb : badArg who n := by unfold badArg; omega
  exact ⟨by rw [putE, if_pos hb], by rw [putL, if_pos hb]⟩
theorem one_tick {n : Int} (h : 1 < n) : woke [(3, n)] = [] ∧ rest [(3, n)] = [(3, n - 1)] := by
  have h1 : ¬ n = 1 := by omega
  simp [woke, rest, h1, dec]
set_option maxHeartbeats 4000000 in
theorem long_any (less gone : Int) (hl : 0 ≤ less ∧ less ≤ 4294967295) (hg : 0 ≤ gone ∧ gone ≤ 255) (w : World) : Calls Try.prog 7 #[.int .u32 less, .int .u8 gone] w fun e w' => e = .returned (.bool true) ∧ Below w.heap.size w w' := by
  have hw1 : IntKind.i64.wrap less = less := by rw [IntKind.wrap_i64]; omega
  have hw2 : IntKind.i64.wrap (1073741824 - less) = 1073741824 - less := by rw [IntKind.wrap_i64]; omega
  have hw3 : IntKind.i64.wrap (1073741825 + less) = 1073741825 + less := by rw [IntKind.wrap_i64]; omega
  have hw4 : IntKind.i64.wrap gone = gone := by rw [IntKind.wrap_i64]; omega
  have HW3 : Hid (1073741824 < 1073741825 + less) := by show _ < _; omega
  obtain ⟨n, hn⟩ : ∃ n, 1073741824 - less = n := ⟨_, rfl⟩
  have hn2 : n ≤ 1073741824 := by omega
  have hn3 : -3221225471 ≤ n := by omega
  rw [hn] at hw2
  obtain ⟨p, hp⟩ : ∃ p, w.heap.size = p := ⟨_, rfl⟩
  have HP : Hid (w.heap.size = p) := hp
  have HB : Hid (Below p w w) := Below.refl _ _
  rw [hp]
  clear hp
  have HN : Hid (1073741824 - less = n) := hn
  by_cases h1 : n < 1
  · have HE : Hid (putE [] 3 n = 1 ∧ putL [] 3 n = []) := bad_put (Or.inl h1)
    go_enter Try.func7, Try.ntmps7
    go_wp2_with (first
      | (go_at_call 16; refine (new_at w HP.out w HB.out).mono ?_; rw [HP.out]; rintro e w1 ⟨rfl, ha, hk⟩; have H1 : Hid (At p w w1 p []) := ha; clear ha hk)
      | (go_at_call 9; refine (put_at H1.out 3 n (by decide) HE.out.1 HE.out.2).mono ?_; rintro e w2 ⟨rfl, ha, hk⟩; have H2 : Hid (At p w w2 p []) := ha; clear ha hk H1)
      | (go_at_call 13; refine (alive_any _).mono ?_; rintro e w3 ⟨rfl, hb⟩; have H3 : Hid (At p w w3 p []) := H2.out.below hb; clear hb H2)
      | (go_at_call 12; refine (all_at H3.out (ws := []) (n := 0) rfl rfl).mono ?_; rintro e w4 ⟨us, uc, rfl, hr, ha, hk⟩; have H4 : Hid (At p w w4 p []) := ha; clear hr ha hk H3))
    go_ret
    exact ⟨rfl, H4.out.2.1⟩
  · have hn1 : 1 ≤ n := by omega
    have HE : Hid (putE [] 3 n = 0 ∧ putL [] 3 n = [(3, n)]) := one_put hn1 hn2
    have HE2 : Hid (putE [(3, n)] 4 (1073741825 + less) = 1 ∧ putL [(3, n)] 4 (1073741825 + less) = [(3, n)]) := bad_put (Or.inr HW3.out)
    have hw5 : IntKind.i64.wrap (n - 1) = n - 1 := by rw [IntKind.wrap_i64]; omega
    go_enter Try.func7, Try.ntmps7
    go_wp2_with (first
      | (go_at_call 16; refine (new_at w HP.out w HB.out).mono ?_; rw [HP.out]; rintro e w1 ⟨rfl, ha, hk⟩; have H1 : Hid (At p w w1 p []) := ha; clear ha hk)
      | (go_at_call 9; refine (put_at H1.out 3 n (by decide) HE.out.1 HE.out.2).mono ?_; rintro e w2 ⟨rfl, ha, hk⟩; have H2 : Hid (At p w w2 p [(3, n)]) := ha; clear ha hk H1)
      | (go_at_call 9; refine (put_at H2.out 4 (1073741825 + less) (by simp) HE2.out.1 HE2.out.2).mono ?_; rintro e w3 ⟨rfl, ha, hk⟩; have H3 : Hid (At p w w3 p [(3, n)]) := ha; clear ha hk H2))
    · rename_i hmin
      obtain ⟨k, hk0⟩ := Int.eq_ofNat_of_zero_le (show 0 ≤ n - 1 by omega)
      have HKE : Hid ((k : Int) = n - 1) := hk0.symm
      have hkb : (k : Int) ≤ 255 := by omega
      clear hk0
      have H3' : Hid (At p w w3 p [(3, n - ((0 : Nat) : Int))]) := by
        have := H3.out
        show At p w w3 p [(3, n - ((0 : Nat) : Int))]
        rw [show n - ((0 : Nat) : Int) = n by omega]
        exact this
      clear H3 hn
      go_loopg [9] k (fun q s9 wx => ∃ i : Nat, i + q = k ∧ s9 = .int .i64 (i : Int) ∧ Hid (At p w wx p [(3, n - (i : Int))]))
      case atStart => exact ⟨0, by omega, rfl, H3'⟩
      case round =>
        clear H3'
        obtain ⟨i, hiq, rfl, HA⟩ := hrel
        cases gk with
        | zero =>
          have hik : (i : Int) = (n - 1) := by have := HKE.out; omega
          have hlt : ¬ ((i : Int) < (n - 1)) := by omega
          have HL : Hid (leftV [(3, n - (i : Int))] 3 = n - (i : Int) ∧ remE [(3, n - (i : Int))] 3 = 0) := ⟨by simp [leftV], by simp [remE, has]⟩
          have HAL : Hid (allOf [(3, n - (i : Int))] = [3]) := rfl
          have HEQ : Hid (n - (i : Int) = n - (n - 1)) := by show _ = _; rw [hik]
          have hwk : IntKind.i64.wrap (n - (n - 1)) = n - (n - 1) := by rw [IntKind.wrap_i64]; omega
          clear hik
          generalize n - (i : Int) = z at *
          obtain rfl := HEQ.out
          go_wp2_with (first
            | (go_at_call 8; refine (left_at HA.out 3 HL.out.1 HL.out.2).mono ?_; rintro e w4 ⟨rfl, ha, hk⟩; have H4 : Hid (At p w w4 p [(3, n - (n - 1))]) := ha; clear ha hk HA)
            | (go_at_call 13; refine (alive_any _).mono ?_; rintro e w5 ⟨rfl, hb⟩; have H5 : Hid (At p w w5 p [(3, n - (n - 1))]) := H4.out.below hb; clear hb H4)
            | (go_at_call 12; refine (all_at H5.out (ws := [3]) (n := 1) HAL.out rfl).mono ?_; rintro e w6 ⟨us, uc, rfl, hr, ha, hk⟩; have H6 : Hid (At p w w6 p [(3, n - (n - 1))]) := ha; have R6 : Hid (w6.ownsRow p 3 1 (.slice us 1 uc) 1 (num [3])) := hr; clear hr ha hk H5)
            | (go_at_call 15; refine (same_at (owns_kw R6.out (KW.below (alloc_below w6 (.cells #[.int .i64 3] 3)))) (lit1 w6 3) (by omega)).mono ?_; rintro e w7 ⟨rfl, hb⟩; have H7 : Hid (At p w w7 p [(3, n - (n - 1))]) := H6.out.below ((alloc_below w6 (.cells #[.int .i64 3] 3)).trans (hb.mono (by rw [alloc_size]; omega))); clear hb H6 R6))
          go_ret
          exact ⟨rfl, H7.out.2.1⟩
        | succ q =>
          have hlt : (i : Int) < (n - 1) := by have := HKE.out; omega
          have HT : Hid (woke [(3, n - (i : Int))] = [] ∧ rest [(3, n - (i : Int))] = [(3, n - (i : Int) - 1)]) := one_tick (by have := HKE.out; omega)
          have HX : Hid (n - (i : Int) - 1 = n - ((i + 1 : Nat) : Int)) := by show _ = _; omega
          have hw9 : IntKind.i64.wrap ((i : Int) + 1) = (i : Int) + 1 := by rw [IntKind.wrap_i64]; omega
          go_wp2_with (go_at_call 11; refine (tick_at HA.out (ws := []) (n := 0) HT.out.1 rfl HT.out.2).mono ?_; rw [HX.out]; rintro e w4 ⟨us, uc, rfl, hr, ha, hk⟩; have H4 : Hid (At p w w4 p [(3, n - ((i + 1 : Nat) : Int))]) := ha; clear hr ha hk HA)
          go_roundg q
          case measure => omega
          case rel => exact ⟨i + 1, by omega, by go_num, H4⟩
    · rename_i hmin
      obtain ⟨k, hk0⟩ := Int.eq_ofNat_of_zero_le hg.1
      have HKE : Hid ((k : Int) = gone) := hk0.symm
      have hkb : (k : Int) ≤ 255 := by omega
      clear hk0
      have H3' : Hid (At p w w3 p [(3, n - ((0 : Nat) : Int))]) := by
        have := H3.out
        show At p w w3 p [(3, n - ((0 : Nat) : Int))]
        rw [show n - ((0 : Nat) : Int) = n by omega]
        exact this
      clear H3 hn
      go_loopg [9] k (fun q s9 wx => ∃ i : Nat, i + q = k ∧ s9 = .int .i64 (i : Int) ∧ Hid (At p w wx p [(3, n - (i : Int))]))
      case atStart => exact ⟨0, by omega, rfl, H3'⟩
      case round =>
        clear H3'
        obtain ⟨i, hiq, rfl, HA⟩ := hrel
        cases gk with
        | zero =>
          have hik : (i : Int) = gone := by have := HKE.out; omega
          have hlt : ¬ ((i : Int) < gone) := by omega
          have HL : Hid (leftV [(3, n - (i : Int))] 3 = n - (i : Int) ∧ remE [(3, n - (i : Int))] 3 = 0) := ⟨by simp [leftV], by simp [remE, has]⟩
          have HAL : Hid (allOf [(3, n - (i : Int))] = [3]) := rfl
          have HEQ : Hid (n - (i : Int) = n - gone) := by show _ = _; rw [hik]
          have hwk : IntKind.i64.wrap (n - gone) = n - gone := by rw [IntKind.wrap_i64]; omega
          clear hik
          generalize n - (i : Int) = z at *
          obtain rfl := HEQ.out
          go_wp2_with (first
            | (go_at_call 8; refine (left_at HA.out 3 HL.out.1 HL.out.2).mono ?_; rintro e w4 ⟨rfl, ha, hk⟩; have H4 : Hid (At p w w4 p [(3, n - gone)]) := ha; clear ha hk HA)
            | (go_at_call 13; refine (alive_any _).mono ?_; rintro e w5 ⟨rfl, hb⟩; have H5 : Hid (At p w w5 p [(3, n - gone)]) := H4.out.below hb; clear hb H4)
            | (go_at_call 12; refine (all_at H5.out (ws := [3]) (n := 1) HAL.out rfl).mono ?_; rintro e w6 ⟨us, uc, rfl, hr, ha, hk⟩; have H6 : Hid (At p w w6 p [(3, n - gone)]) := ha; have R6 : Hid (w6.ownsRow p 3 1 (.slice us 1 uc) 1 (num [3])) := hr; clear hr ha hk H5)
            | (go_at_call 15; refine (same_at (owns_kw R6.out (KW.below (alloc_below w6 (.cells #[.int .i64 3] 3)))) (lit1 w6 3) (by omega)).mono ?_; rintro e w7 ⟨rfl, hb⟩; have H7 : Hid (At p w w7 p [(3, n - gone)]) := H6.out.below ((alloc_below w6 (.cells #[.int .i64 3] 3)).trans (hb.mono (by rw [alloc_size]; omega))); clear hb H6 R6))
          go_ret
          exact ⟨rfl, H7.out.2.1⟩
        | succ q =>
          have hlt : (i : Int) < gone := by have := HKE.out; omega
          have HT : Hid (woke [(3, n - (i : Int))] = [] ∧ rest [(3, n - (i : Int))] = [(3, n - (i : Int) - 1)]) := one_tick (by have := HKE.out; omega)
          have HX : Hid (n - (i : Int) - 1 = n - ((i + 1 : Nat) : Int)) := by show _ = _; omega
          have hw9 : IntKind.i64.wrap ((i : Int) + 1) = (i : Int) + 1 := by rw [IntKind.wrap_i64]; omega
          go_wp2_with (go_at_call 11; refine (tick_at HA.out (ws := []) (n := 0) HT.out.1 rfl HT.out.2).mono ?_; rw [HX.out]; rintro e w4 ⟨us, uc, rfl, hr, ha, hk⟩; have H4 : Hid (At p w w4 p [(3, n - ((i + 1 : Nat) : Int))]) := ha; clear hr ha hk HA)
          go_roundg q
          case measure => omega
          case rel => exact ⟨i + 1, by omega, by go_num, H4⟩
end Go.Proofs.Ytdifgjioaikchaa
