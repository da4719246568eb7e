/- 'PoolsOwners' walked: nobody can take back what is another one's, or nobody's. -/
import Derived.Test.YtpdibhgbaclbaaaTab
namespace Go.Proofs.Ytpdibhgbaclbaaa
open Go Go.RowKit
set_option maxRecDepth 100000
set_option linter.unusedVariables false
theorem one_mem {n : Nat} {a z : Int} (h : z ∈ (List.replicate n (0 : Int)).set 0 a) : z = 0 ∨ z = a := by
  rcases List.mem_or_eq_of_mem_set h with h | h
  · exact Or.inl (List.mem_replicate.1 h).2
  · exact Or.inr h
theorem one_first (n : Nat) (hn : 1 ≤ n) (a : Int) : ((List.replicate n (0 : Int)).set 0 a).getD 0 0 = a := by
  cases n with
  | zero => omega
  | succ n => simp [List.replicate_succ]
theorem one_next (n : Nat) (a : Int) : ((List.replicate n (0 : Int)).set 0 a).getD 1 0 = 0 := by
  rcases n with _ | _ | n
  · simp
  · simp
  · simp [List.replicate_succ]
theorem zero_at (n i : Nat) : (List.replicate n (0 : Int)).getD i 0 = 0 := by
  by_cases h : i < n
  · simp [h]
  · simp [Nat.le_of_not_lt h]
theorem back_zero (n : Nat) (a : Int) : ((List.replicate n (0 : Int)).set 0 a).set 0 0 = List.replicate n 0 := by
  rw [List.set_set]
  rcases n with _ | n
  · simp
  · simp [List.replicate_succ]
set_option maxHeartbeats 2000000 in
theorem owners_walk (m a b : Int) (hm : 0 ≤ m ∧ m ≤ 255) (ha : 0 ≤ a ∧ a ≤ 4294967295) (hb : 0 ≤ b ∧ b ≤ 4294967295) (w : World) :
    Calls Try.prog 7 #[.int .u8 m, .int .u32 a, .int .u32 b] w fun e w' => e = .returned (.bool true) ∧ Below w.heap.size w w' := by
  obtain ⟨n, hn⟩ := Int.eq_ofNat_of_zero_le (a := 1 + m % 64) (by omega)
  have HN : Hid ((n : Int) = 1 + m % 64) := hn.symm
  have h1 : 1 ≤ n := by omega
  have h2 : n ≤ 64 := by omega
  by_cases c : a = 0 ∨ b = 0 ∨ a = b
  · clear hn
    by_cases a0 : a = 0
    · subst a0
      go_enter Try.func7, Try.ntmps7
      go_wp2_with (first
        | (go_at_call 14; refine (of_any m hm n HN.out).mono ?_; rintro e w1 ⟨rfl, hP, hB⟩)
        | (go_at_call 13; refine (alive_any _).mono ?_; rintro e w2 ⟨rfl, hb2⟩))
      go_ret
      exact ⟨rfl, hB.trans (hb2.mono hB.size)⟩
    · have a0' : (a == 0) = false := by simpa using a0
      by_cases b0 : b = 0
      · subst b0
        go_enter Try.func7, Try.ntmps7
        go_wp2_with (first
          | (go_at_call 14; refine (of_any m hm n HN.out).mono ?_; rintro e w1 ⟨rfl, hP, hB⟩)
          | (go_at_call 13; refine (alive_any _).mono ?_; rintro e w2 ⟨rfl, hb2⟩))
        go_ret
        exact ⟨rfl, hB.trans (hb2.mono hB.size)⟩
      · have b0' : (b == 0) = false := by simpa using b0
        obtain rfl : a = b := by omega
        go_enter Try.func7, Try.ntmps7
        go_wp2_with (first
          | (go_at_call 14; refine (of_any m hm n HN.out).mono ?_; rintro e w1 ⟨rfl, hP, hB⟩)
          | (go_at_call 13; refine (alive_any _).mono ?_; rintro e w2 ⟨rfl, hb2⟩))
        go_ret
        exact ⟨rfl, hB.trans (hb2.mono hB.size)⟩
  · have a0' : (a == 0) = false := by simp; omega
    have b0' : (b == 0) = false := by simp; omega
    have ab' : (a == b) = false := by simp; omega
    have z0 := one_first n h1 a
    have z1 := one_next n a
    have zm : ∀ z ∈ (List.replicate n (0 : Int)).set 0 a, z ≠ b := fun z hz => by rcases one_mem hz with rfl | rfl <;> omega
    have zz : ∀ z ∈ List.replicate n (0 : Int), z ≠ a := fun z hz => by rw [(List.mem_replicate.1 hz).2]; omega
    have zn := back_zero n a
    have zx := zero_at n 0
    have Z0 : Hid (((List.replicate n (0 : Int)).set 0 a).getD 0 0 = a) := z0
    have Z1 : Hid (((List.replicate n (0 : Int)).set 0 a).getD 1 0 = 0) := z1
    have ZM : Hid (∀ z ∈ (List.replicate n (0 : Int)).set 0 a, z ≠ b) := zm
    have ZZ : Hid (∀ z ∈ List.replicate n (0 : Int), z ≠ a) := zz
    have ZN : Hid (((List.replicate n (0 : Int)).set 0 a).set 0 0 = List.replicate n 0) := zn
    have ZX : Hid ((List.replicate n (0 : Int)).getD 0 0 = 0) := zx
    clear z0 z1 zm zz zn zx hn
    by_cases hmm : m % 64 = 0
    all_goals
      have hn2 : 0 < m % 64 → 1 < n := fun h => by have := HN.out; omega
      go_enter Try.func7, Try.ntmps7
      go_wp2_with (first
        | (go_at_call 14; refine (of_any m hm n HN.out).mono ?_; rintro e w1 ⟨rfl, hP, hB⟩; have hlt := hP.lt)
        | (go_at_call 8; refine (alloc_yes hP a (by omega) 0 (by omega) ZX.out (fun j hj => by omega)).mono ?_; rintro e w2 ⟨rfl, hP2, hb2⟩; replace hB := hB.trans (hb2.below (Nat.le_refl _) hB.size); clear hP hb2; have M0 := True.intro)
        | (go_at_call 9; clear M3; refine (free_no hP2 a 64 (by omega) (by omega)).mono ?_; rintro e wx ⟨rfl, rfl⟩)
        | (go_at_call 9; clear M2; refine (free_no hP2 a (-1) (by omega) (by omega)).mono ?_; rintro e wx ⟨rfl, rfl⟩; have M3 := True.intro)
        | (go_at_call 9; clear M1; refine (free_no hP2 0 0 (by omega) (by omega)).mono ?_; rintro e wx ⟨rfl, rfl⟩; have M2 := True.intro)
        | (go_at_call 9; clear M0; refine (free_other hP2 b 0 (by omega) (by omega) (by rw [Z0.out]; omega)).mono ?_; rintro e wx ⟨rfl, rfl⟩; have M1 := True.intro)
        | (go_at_call_of 10 (Value.int IntKind.u32 b); refine (all_none hP2 b (by omega) ZM.out).mono ?_; rintro e w3 ⟨rfl, hP3, hb3⟩; replace hB := hB.trans (hb3.below (Nat.le_refl _) hB.size); clear hP2 hb3)
        | (go_at_call_of 9 (Value.int IntKind.i64 1); refine (free_other hP3 a 1 (by omega) (hn2 (by omega)) (by rw [Z1.out]; omega)).mono ?_; rintro e wx ⟨rfl, rfl⟩)
        | (go_at_call 13; refine (alive_any _).mono ?_; rintro e w4 ⟨rfl, hb4⟩; have hP4 := hP3.below hb4; replace hB := hB.trans (hb4.mono hB.size); clear hP3 hb4)
        | (go_at_call 9; refine (free_other hP5 a 0 (by omega) (by omega) (by rw [ZX.out]; omega)).mono ?_; rintro e wx ⟨rfl, rfl⟩)
        | (go_at_call 9; refine (free_yes hP4 a 0 (by omega) (by omega) Z0.out).mono ?_; rintro e w5 ⟨rfl, hP5, hb5⟩; rw [ZN.out] at hP5; replace hB := hB.trans (hb5.below (Nat.le_refl _) hB.size); clear hP4 hb5)
        | (go_at_call 10; refine (all_none hP5 a (by omega) ZZ.out).mono ?_; rintro e w6 ⟨rfl, hP6, hb6⟩; replace hB := hB.trans (hb6.below (Nat.le_refl _) hB.size); clear hP5 hb6))
      go_ret
      exact ⟨rfl, hB⟩
end Go.Proofs.Ytpdibhgbaclbaaa
