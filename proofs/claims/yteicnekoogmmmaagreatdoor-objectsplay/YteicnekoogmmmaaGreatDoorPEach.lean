/- What the inner functions of package pools answer: whether a pool is there; what is done with each block, one after the other. -/
import Derived.Test.YteicnekoogmmmaaGreatDoorPMem
import Derived.Deep.QuietTactic
import Derived.BigQuiet
import Derived.Deep.CutRange
import Derived.Deep.RegionWith
namespace Go.Proofs.YteicnekoogmmmaaGreatDoor.Pl
open Go Go.RowKit
set_option maxRecDepth 100000
set_option linter.unusedVariables false
theorem there_yes {w : World} {p n : Nat} (h0 : w.cell? ⟨p, 0, none⟩ = some (.int .i64 n)) (hn : 1 ≤ n) :
    Calls Tryz.prog 88 #[.pointer (some ⟨p, 0, none⟩)] w fun e w' => e = .returned (.bool true) ∧ w' = w := by
  have hlt : 0 < n := by omega
  go_enter Tryz.func88, Tryz.ntmps88
  go_wp2
  go_ret
  exact ⟨rfl, rfl⟩
theorem there_zero {w : World} {p : Nat} (h0 : w.cell? ⟨p, 0, none⟩ = some (.int .i64 0)) :
    Calls Tryz.prog 88 #[.pointer (some ⟨p, 0, none⟩)] w fun e w' => e = .returned (.bool false) ∧ w' = w := by
  go_enter Tryz.func88, Tryz.ntmps88
  go_wp2
  go_ret
  exact ⟨rfl, rfl⟩
theorem there_nil {w : World} :
    Calls Tryz.prog 88 #[.pointer none] w fun e w' => e = .returned (.bool false) ∧ w' = w := by
  go_enter Tryz.func88, Tryz.ntmps88
  go_wp2
  go_ret
  exact ⟨rfl, rfl⟩
theorem each_zero {w : World} {p : Nat} (f : Value) (h0 : w.cell? ⟨p, 0, none⟩ = some (.int .i64 0)) :
    Calls Tryz.prog 79 #[.pointer (some ⟨p, 0, none⟩), f] w fun e w' => e = .returned (.tuple #[]) ∧ w' = w := by
  go_enter Tryz.func79, Tryz.ntmps79
  go_wp2_with (go_at_call 88; refine (there_zero h0).mono ?_; rintro e wx ⟨rfl, rfl⟩)
  exact bodyPost_ret (v := .tuple #[]) (by simp [results, Tryz.results79, go_sem]) rfl ⟨rfl, rfl⟩
theorem each_nil {w : World} (f : Value) :
    Calls Tryz.prog 79 #[.pointer none, f] w fun e w' => e = .returned (.tuple #[]) ∧ w' = w := by
  go_enter Tryz.func79, Tryz.ntmps79
  go_wp2_with (go_at_call 88; refine there_nil.mono ?_; rintro e wx ⟨rfl, rfl⟩)
  exact bodyPost_ret (v := .tuple #[]) (by simp [results, Tryz.results79, go_sem]) rfl ⟨rfl, rfl⟩
set_option maxHeartbeats 1000000 in
theorem each_alloc {w : World} {p n : Nat} (c1 c2 c3 : Value) (I : Nat → World → Prop) (R : World → Prop) (go : Nat → Bool) (h1 : 1 ≤ n) (hn : n ≤ 64) (h0 : w.cell? ⟨p, 0, none⟩ = some (.int .i64 n)) (hI : I 0 w)
    (yes : ∀ i wx, i < n → go i = true → I i wx → Calls Tryz.prog 145 #[.int .i64 i, .pointer (some ⟨p, 1 + i, none⟩), c1, c2, c3] wx fun e w' => e = .returned (.bool true) ∧ I (i + 1) w')
    (no : ∀ i wx, i < n → go i = false → I i wx → Calls Tryz.prog 145 #[.int .i64 i, .pointer (some ⟨p, 1 + i, none⟩), c1, c2, c3] wx fun e w' => e = .returned (.bool false) ∧ R w') :
    Calls Tryz.prog 79 #[.pointer (some ⟨p, 0, none⟩), .func (.func 145) #[] #[c1, c2, c3]] w fun e w' => e = .returned (.tuple #[]) ∧ (I n w' ∨ R w') := by
  have HI : Hid (I 0 w) := hI
  clear hI
  go_enter Tryz.func79, Tryz.ntmps79
  go_wp2_with (go_at_call 88; refine (there_yes h0 h1).mono ?_; rintro e wx ⟨rfl, rfl⟩)
  go_loopg [12] n (fun g s12 wx => ∃ i : Nat, i + g = n ∧ s12 = .int .i64 i ∧ Hid (I i wx))
  case atStart => exact ⟨0, by omega, rfl, HI⟩
  case round =>
    clear HI h0
    obtain ⟨i, hig, rfl, HI⟩ := hrel
    cases gk with
    | zero =>
      have hlt : ¬ ((i : Int) < n) := by omega
      go_wp2
      go_end0
      obtain rfl : i = n := by omega
      exact ⟨rfl, Or.inl HI.out⟩
    | succ g =>
      have hlt : (i : Int) < n := by omega
      have hlt2 : (i : Int) < 64 := by omega
      by_cases hgo : go i = true
      · go_wp2_with (go_at_call 145; refine (yes i _ (by omega) hgo HI.out).mono ?_; rintro e w2 ⟨rfl, hI2⟩; have HI2 : Hid (I (i + 1) w2) := hI2; clear hI2)
        go_roundg g
        case measure => omega
        case rel => exact ⟨i + 1, by omega, by go_num, HI2⟩
      · go_wp2_with (go_at_call 145; refine (no i _ (by omega) (by simpa using hgo) HI.out).mono ?_; rintro e w2 ⟨rfl, hR2⟩; have HR2 : Hid (R w2) := hR2; clear hR2)
        exact bodyPost_ret (v := .tuple #[]) (by simp [results, Tryz.results79, go_sem]) rfl ⟨rfl, Or.inr HR2.out⟩
set_option maxHeartbeats 1000000 in
theorem each_all {w : World} {p n : Nat} (c1 c2 : Value) (I : Nat → World → Prop) (h1 : 1 ≤ n) (hn : n ≤ 64) (h0 : w.cell? ⟨p, 0, none⟩ = some (.int .i64 n)) (hI : I 0 w)
    (yes : ∀ i wx, i < n → I i wx → Calls Tryz.prog 80 #[.int .i64 i, .pointer (some ⟨p, 1 + i, none⟩), c1, c2] wx fun e w' => e = .returned (.bool true) ∧ I (i + 1) w') :
    Calls Tryz.prog 79 #[.pointer (some ⟨p, 0, none⟩), .func (.func 80) #[] #[c1, c2]] w fun e w' => e = .returned (.tuple #[]) ∧ I n w' := by
  have HI : Hid (I 0 w) := hI
  clear hI
  go_enter Tryz.func79, Tryz.ntmps79
  go_wp2_with (go_at_call 88; refine (there_yes h0 h1).mono ?_; rintro e wx ⟨rfl, rfl⟩)
  go_loopg [12] n (fun g s12 wx => ∃ i : Nat, i + g = n ∧ s12 = .int .i64 i ∧ Hid (I i wx))
  case atStart => exact ⟨0, by omega, rfl, HI⟩
  case round =>
    clear HI h0
    obtain ⟨i, hig, rfl, HI⟩ := hrel
    cases gk with
    | zero =>
      have hlt : ¬ ((i : Int) < n) := by omega
      go_wp2
      go_end0
      obtain rfl : i = n := by omega
      exact ⟨rfl, HI.out⟩
    | succ g =>
      have hlt : (i : Int) < n := by omega
      have hlt2 : (i : Int) < 64 := by omega
      go_wp2_with (go_at_call 80; refine (yes i _ (by omega) HI.out).mono ?_; rintro e w2 ⟨rfl, hI2⟩; have HI2 : Hid (I (i + 1) w2) := hI2; clear hI2)
      go_roundg g
      case measure => omega
      case rel => exact ⟨i + 1, by omega, by go_num, HI2⟩
set_option maxHeartbeats 1000000 in
theorem each_own {w : World} {p n : Nat} (c1 : Value) (I : Nat → World → Prop) (h1 : 1 ≤ n) (hn : n ≤ 64) (h0 : w.cell? ⟨p, 0, none⟩ = some (.int .i64 n)) (hI : I 0 w)
    (yes : ∀ i wx, i < n → I i wx → Calls Tryz.prog 86 #[.int .i64 i, .pointer (some ⟨p, 1 + i, none⟩), c1] wx fun e w' => e = .returned (.bool true) ∧ I (i + 1) w') :
    Calls Tryz.prog 79 #[.pointer (some ⟨p, 0, none⟩), .func (.func 86) #[] #[c1]] w fun e w' => e = .returned (.tuple #[]) ∧ I n w' := by
  have HI : Hid (I 0 w) := hI
  clear hI
  go_enter Tryz.func79, Tryz.ntmps79
  go_wp2_with (go_at_call 88; refine (there_yes h0 h1).mono ?_; rintro e wx ⟨rfl, rfl⟩)
  go_loopg [12] n (fun g s12 wx => ∃ i : Nat, i + g = n ∧ s12 = .int .i64 i ∧ Hid (I i wx))
  case atStart => exact ⟨0, by omega, rfl, HI⟩
  case round =>
    clear HI h0
    obtain ⟨i, hig, rfl, HI⟩ := hrel
    cases gk with
    | zero =>
      have hlt : ¬ ((i : Int) < n) := by omega
      go_wp2
      go_end0
      obtain rfl : i = n := by omega
      exact ⟨rfl, HI.out⟩
    | succ g =>
      have hlt : (i : Int) < n := by omega
      have hlt2 : (i : Int) < 64 := by omega
      go_wp2_with (go_at_call 86; refine (yes i _ (by omega) HI.out).mono ?_; rintro e w2 ⟨rfl, hI2⟩; have HI2 : Hid (I (i + 1) w2) := hI2; clear hI2)
      go_roundg g
      case measure => omega
      case rel => exact ⟨i + 1, by omega, by go_num, HI2⟩
set_option maxHeartbeats 1000000 in
theorem each_left {w : World} {p n : Nat} (c1 : Value) (I : Nat → World → Prop) (h1 : 1 ≤ n) (hn : n ≤ 64) (h0 : w.cell? ⟨p, 0, none⟩ = some (.int .i64 n)) (hI : I 0 w)
    (yes : ∀ i wx, i < n → I i wx → Calls Tryz.prog 85 #[.int .i64 i, .pointer (some ⟨p, 1 + i, none⟩), c1] wx fun e w' => e = .returned (.bool true) ∧ I (i + 1) w') :
    Calls Tryz.prog 79 #[.pointer (some ⟨p, 0, none⟩), .func (.func 85) #[] #[c1]] w fun e w' => e = .returned (.tuple #[]) ∧ I n w' := by
  have HI : Hid (I 0 w) := hI
  clear hI
  go_enter Tryz.func79, Tryz.ntmps79
  go_wp2_with (go_at_call 88; refine (there_yes h0 h1).mono ?_; rintro e wx ⟨rfl, rfl⟩)
  go_loopg [12] n (fun g s12 wx => ∃ i : Nat, i + g = n ∧ s12 = .int .i64 i ∧ Hid (I i wx))
  case atStart => exact ⟨0, by omega, rfl, HI⟩
  case round =>
    clear HI h0
    obtain ⟨i, hig, rfl, HI⟩ := hrel
    cases gk with
    | zero =>
      have hlt : ¬ ((i : Int) < n) := by omega
      go_wp2
      go_end0
      obtain rfl : i = n := by omega
      exact ⟨rfl, HI.out⟩
    | succ g =>
      have hlt : (i : Int) < n := by omega
      have hlt2 : (i : Int) < 64 := by omega
      go_wp2_with (go_at_call 85; refine (yes i _ (by omega) HI.out).mono ?_; rintro e w2 ⟨rfl, hI2⟩; have HI2 : Hid (I (i + 1) w2) := hI2; clear hI2)
      go_roundg g
      case measure => omega
      case rel => exact ⟨i + 1, by omega, by go_num, HI2⟩
end Go.Proofs.YteicnekoogmmmaaGreatDoor.Pl
