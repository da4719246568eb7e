/- 'PoolsLeast' walked: a block that was taken back is given out again ahead of all greater ones. -/
import Derived.Test.YtpdibhgbaclbaaaTab
import Derived.Laws.BitsAllLaws
namespace Go.Proofs.Ytpdibhgbaclbaaa
open Go Go.RowKit
set_option maxRecDepth 100000
set_option linter.unusedVariables false
/-- whether a bit is 1 -/
def bt (b : Int) (j : Nat) : Bool := decide (bits .and .u64 (b / 2 ^ j) 1 = 1)
theorem bt_yes {b : Int} {j : Nat} (h : bt b j = true) : bits .and .u64 (b / 2 ^ j) 1 = 1 := by simpa [bt] using h
theorem bt_no {b : Int} {j : Nat} (hb : 0 ≤ b ∧ b ≤ 18446744073709551615) (h : bt b j = false) : bits .and .u64 (b / 2 ^ j) 1 = 0 := by
  have h1 : ¬ bits .and .u64 (b / 2 ^ j) 1 = 1 := by simpa [bt] using h
  have h2 : 0 ≤ b / 2 ^ j := Int.ediv_nonneg hb.1 (Int.le_of_lt (Int.pow_pos (by decide)))
  have h3 : b / 2 ^ j ≤ b := Int.ediv_le_self _ hb.1
  rw [u64_and _ 1 h2 (by omega) (by decide) (by decide)] at h1 ⊢
  have h4 : (b / 2 ^ j).toNat &&& (1 : Int).toNat = (b / 2 ^ j).toNat % 2 := Nat.and_one_is_mod _
  rw [h4] at h1 ⊢
  omega
def f1 (i : Nat) : Nat → Int := fun j => if j < i then 9 else 0
def f2 (b : Int) (k : Nat) : Nat → Int := fun j => if k ≤ j ∧ bt b j = true then 0 else 9
def f3 (b : Int) (i : Nat) : Nat → Int := fun j => if bt b j = true then (if j < i then 8 else 0) else 9
set_option maxHeartbeats 2000000 in
theorem least_walk (m b : Int) (hm : 0 ≤ m ∧ m ≤ 255) (hb : 0 ≤ b ∧ b ≤ 18446744073709551615) (w : World) :
    Calls Try.prog 6 #[.int .u8 m, .int .u64 b] w fun e w' => e = .returned (.bool true) ∧ Below w.heap.size w w' := by
  obtain ⟨n, hn⟩ := Int.eq_ofNat_of_zero_le (a := 1 + m % 64) (by omega)
  have HN : Hid ((n : Int) = 1 + m % 64) := hn.symm
  have h1 : 1 ≤ n := by omega
  have h2 : n ≤ 64 := by omega
  go_enter Try.func6, Try.ntmps6
  go_wp2_with (first
    | (go_at_call 14; refine (of_any m hm n HN.out).mono ?_; rintro e w1 ⟨rfl, hP, hB⟩; rw [tab_zero] at hP; have HP : Hid (Pool w1 w.heap.size n (tab n (f1 0))) := hP; clear hP))
  go_loopg [7] n (fun g s7 wx => ∃ i : Nat, i + g = n ∧ s7 = .int .i64 i ∧ Hid (Pool wx w.heap.size n (tab n (f1 i))) ∧ Below w.heap.size w wx)
  case atStart => exact ⟨0, by omega, rfl, HP, hB⟩
  case round =>
    clear HP hB
    obtain ⟨i, hig, rfl, HP, hB⟩ := hrel
    cases gk with
    | succ g =>
      have hlt : (i : Int) < n := by omega
      have z0 : (tab n (f1 i)).getD i 0 = 0 := by rw [tab_at (by omega)]; simp [f1]
      have zj : ∀ j, j < i → (tab n (f1 i)).getD j 0 ≠ 0 := fun j hj => by rw [tab_at (by omega)]; simp [f1, hj]
      have zs : (tab n (f1 i)).set i 9 = tab n (f1 (i + 1)) := tab_set (by omega) (by simp [f1]) (fun j hj hne => by unfold f1; by_cases h : j < i <;> simp [h, show (j < i + 1) ↔ (j < i) by omega])
      have Z0 : Hid ((tab n (f1 i)).getD i 0 = 0) := z0
      have ZJ : Hid (∀ j, j < i → (tab n (f1 i)).getD j 0 ≠ 0) := zj
      have ZS : Hid ((tab n (f1 i)).set i 9 = tab n (f1 (i + 1))) := zs
      clear z0 zj zs
      go_wp2_with (first
        | (go_at_call 8; refine (alloc_yes HP.out 9 (by omega) i (by omega) Z0.out ZJ.out).mono ?_; rintro e w2 ⟨rfl, hP2, hb2⟩; rw [ZS.out] at hP2; have HP2 : Hid (Pool w2 w.heap.size n (tab n (f1 (i + 1)))) := hP2; replace hB := hB.trans (hb2.below (Nat.le_refl _) hB.size); clear hP2 hb2))
      go_roundg g
      case measure => omega
      case rel => exact ⟨i + 1, by omega, by go_num, HP2, hB⟩
    | zero =>
      obtain rfl : i = n := by omega
      have hlt : ¬ ((i : Int) < i) := by omega
      have hPz : Pool wr w.heap.size i (tab i (f2 b i)) := by
        rw [tab_ext (g := f1 i) (fun j hj => by simp [f1, f2, hj, show ¬ i ≤ j by omega])]; exact HP.out
      have HP0 : Hid (Pool wr w.heap.size i (tab i (f2 b i))) := hPz
      clear HP hPz
      go_wp2
      go_loopg [10] i (fun g s10 wx => ∃ k : Nat, k = g ∧ k ≤ i ∧ s10 = .int .i64 (k - 1) ∧ Hid (Pool wx w.heap.size i (tab i (f2 b k))) ∧ Below w.heap.size w wx)
      case atStart => exact ⟨i, rfl, by omega, rfl, HP0, hB⟩
      case round =>
        clear HP0 hB
        obtain ⟨k, rfl, hki, rfl, HP, hB⟩ := hrel
        cases k with
        | succ k =>
          have hge : (0 : Int) ≤ ((k + 1 : Nat) : Int) - 1 := by omega
          by_cases hbk : bt b k = true
          · have hbit := bt_yes hbk
            have z0 : (tab i (f2 b (k + 1))).getD k 0 = 9 := by rw [tab_at (by omega)]; simp [f2, show ¬ k + 1 ≤ k by omega]
            have zs : (tab i (f2 b (k + 1))).set k 0 = tab i (f2 b k) := tab_set (by omega) (by simp [f2, hbk]) (fun j hj hne => by
              unfold f2
              by_cases h : k ≤ j
              · simp [h, show k + 1 ≤ j by omega]
              · simp [h, show ¬ k + 1 ≤ j by omega])
            have Z0 : Hid ((tab i (f2 b (k + 1))).getD k 0 = 9) := z0
            have ZS : Hid ((tab i (f2 b (k + 1))).set k 0 = tab i (f2 b k)) := zs
            clear z0 zs hbk
            go_wp2_with (first
              | (go_at_call 9; refine (free_yes HP.out 9 k (by omega) (by omega) Z0.out).mono ?_; rintro e w2 ⟨rfl, hP2, hb2⟩; rw [ZS.out] at hP2; have HP2 : Hid (Pool w2 w.heap.size i (tab i (f2 b k))) := hP2; replace hB := hB.trans (hb2.below (Nat.le_refl _) hB.size); clear hP2 hb2))
            go_roundg k
            case measure => omega
            case rel => exact ⟨k, rfl, by omega, by go_num, HP2, hB⟩
          · have hbf : bt b k = false := by simpa using hbk
            have hbit := bt_no hb hbf
            have zs : tab i (f2 b (k + 1)) = tab i (f2 b k) := tab_ext (fun j hj => by
              unfold f2
              by_cases h : k ≤ j
              · by_cases h' : j = k
                · subst h'; simp [hbf]
                · simp [h, show k + 1 ≤ j by omega]
              · simp [h, show ¬ k + 1 ≤ j by omega])
            have HP2 : Hid (Pool wr w.heap.size i (tab i (f2 b k))) := by rw [← zs]; exact HP
            clear zs hbk hbf HP
            go_wp2
            go_roundg k
            case measure => omega
            case rel => exact ⟨k, rfl, by omega, by go_num, HP2, hB⟩
        | zero =>
          have hlt0 : ¬ (0 : Int) ≤ ((0 : Nat) : Int) - 1 := by omega
          have hPz : Pool wr w.heap.size i (tab i (f3 b 0)) := by
            rw [tab_ext (g := f2 b 0) (fun j hj => by unfold f2 f3; by_cases h : bt b j = true <;> simp [h])]; exact HP.out
          have HP0 : Hid (Pool wr w.heap.size i (tab i (f3 b 0))) := hPz
          clear HP hPz
          go_wp2
          go_loopg [11] i (fun g s11 wx => ∃ k : Nat, k + g = i ∧ s11 = .int .i64 k ∧ Hid (Pool wx w.heap.size i (tab i (f3 b k))) ∧ Below w.heap.size w wx)
          case atStart => exact ⟨0, by omega, rfl, HP0, hB⟩
          case round =>
            clear HP0 hB
            obtain ⟨k, hkg, rfl, HP, hB⟩ := hrel
            cases gk with
            | succ g =>
              have hlt : (k : Int) < i := by omega
              by_cases hbk : bt b k = true
              · have hbit := bt_yes hbk
                have z0 : (tab i (f3 b k)).getD k 0 = 0 := by rw [tab_at (by omega)]; simp [f3, hbk]
                have zj : ∀ j, j < k → (tab i (f3 b k)).getD j 0 ≠ 0 := fun j hj => by
                  rw [tab_at (by omega)]; unfold f3; by_cases h : bt b j = true <;> simp [h, hj]
                have zs : (tab i (f3 b k)).set k 8 = tab i (f3 b (k + 1)) := tab_set (by omega) (by simp [f3, hbk]) (fun j hj hne => by
                  unfold f3
                  simp [show (j < k + 1) ↔ (j < k) by omega])
                have Z0 : Hid ((tab i (f3 b k)).getD k 0 = 0) := z0
                have ZJ : Hid (∀ j, j < k → (tab i (f3 b k)).getD j 0 ≠ 0) := zj
                have ZS : Hid ((tab i (f3 b k)).set k 8 = tab i (f3 b (k + 1))) := zs
                clear z0 zs hbk zj
                go_wp2_with (first
                  | (go_at_call 8; refine (alloc_yes HP.out 8 (by omega) k (by omega) Z0.out ZJ.out).mono ?_; rintro e w2 ⟨rfl, hP2, hb2⟩; rw [ZS.out] at hP2; have HP2 : Hid (Pool w2 w.heap.size i (tab i (f3 b (k + 1)))) := hP2; replace hB := hB.trans (hb2.below (Nat.le_refl _) hB.size); clear hP2 hb2))
                go_roundg g
                case measure => omega
                case rel => exact ⟨k + 1, by omega, by go_num, HP2, hB⟩
              · have hbf : bt b k = false := by simpa using hbk
                have hbit := bt_no hb hbf
                have zs : tab i (f3 b k) = tab i (f3 b (k + 1)) := tab_ext (fun j hj => by
                  unfold f3
                  by_cases h' : j = k
                  · subst h'; simp [hbf]
                  · simp [show (j < k + 1) ↔ (j < k) by omega])
                have HP2 : Hid (Pool wr w.heap.size i (tab i (f3 b (k + 1)))) := by rw [← zs]; exact HP
                clear zs hbk hbf HP
                go_wp2
                go_roundg g
                case measure => omega
                case rel => exact ⟨k + 1, by omega, by go_num, HP2, hB⟩
            | zero =>
              obtain rfl : k = i := by omega
              have hlt : ¬ ((k : Int) < k) := by omega
              have zj : ∀ j, j < k → (tab k (f3 b k)).getD j 0 ≠ 0 := fun j hj => by
                rw [tab_at (by omega)]; unfold f3; by_cases h : bt b j = true <;> simp [h, hj]
              have zc : cnt 0 (tab k (f3 b k)) = 0 := cnt_none (fun z hz => by
                obtain ⟨j, hj, rfl⟩ := tab_mem hz
                unfold f3; by_cases h : bt b j = true <;> simp [h, hj])
              have ZJ : Hid (∀ j, j < k → (tab k (f3 b k)).getD j 0 ≠ 0) := zj
              have ZC : Hid (cnt 0 (tab k (f3 b k)) = 0) := zc
              clear zj zc
              go_wp2_with (first
                | (go_at_call 8; refine (alloc_full HP.out 8 (by omega) ZJ.out).mono ?_; rintro e w2 ⟨rfl, hb2⟩; have HP2 : Hid (Pool w2 w.heap.size k (tab k (f3 b k))) := HP.out.below hb2; replace hB := hB.trans (hb2.mono hB.size); clear hb2)
                | (go_at_call 13; refine (alive_any _).mono ?_; rintro e w3 ⟨rfl, hb3⟩; have HP3 : Hid (Pool w3 w.heap.size k (tab k (f3 b k))) := HP2.out.below hb3; replace hB := hB.trans (hb3.mono hB.size); clear hb3)
                | (go_at_call 12; refine (left_is HP3.out ZC.out).mono ?_; rintro e w4 ⟨rfl, hb4⟩; replace hB := hB.trans (hb4.mono hB.size); clear hb4))
              go_ret
              exact ⟨rfl, hB⟩
end Go.Proofs.Ytpdibhgbaclbaaa
