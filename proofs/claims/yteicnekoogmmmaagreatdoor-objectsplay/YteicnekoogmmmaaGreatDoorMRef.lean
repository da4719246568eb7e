/- The document's own answers: a bit by halving, a power by doubling, what is met bit by bit, whether it holds bit by bit, the flags behind. -/
import Derived.Test.YteicnekoogmmmaaGreatDoorMTop
namespace Go.Proofs.YteicnekoogmmmaaGreatDoor.Mk
open Go Go.RowKit
set_option maxRecDepth 100000
set_option linter.unusedVariables false
/-- those that are as it is told -/
def pk : Nat → (Nat → Bool) → Nat
  | 0, f => 0
  | n + 1, f => pk n f + (if f n then 2 ^ n else 0)
theorem pk_lt (n : Nat) (f : Nat → Bool) : pk n f < 2 ^ n := by
  induction n with
  | zero => simp [pk]
  | succ n ih => unfold pk; rw [Nat.pow_succ]; split <;> omega
theorem pk_bit (n : Nat) (f : Nat → Bool) (j : Nat) : (pk n f).testBit j = (decide (j < n) && f j) := by
  induction n with
  | zero => simp [pk]
  | succ n ih =>
    have hl := pk_lt n f
    unfold pk
    by_cases hf : f n = true
    · rw [if_pos hf, Nat.add_comm]
      by_cases e : j = n
      · subst e
        rw [Nat.testBit_two_pow_add_eq, ih]
        simp [hf]
      · rcases Nat.lt_or_ge j n with a | a
        · rw [Nat.testBit_two_pow_add_gt a, ih]
          simp [a, Nat.lt_succ_of_lt a]
        · have : 2 ^ n + pk n f < 2 ^ j := Nat.lt_of_lt_of_le (by omega : 2 ^ n + pk n f < 2 ^ (n + 1)) (Nat.pow_le_pow_right (by decide) (by omega))
          rw [Nat.testBit_lt_two_pow this]
          simp [show ¬ j < n + 1 by omega]
    · rw [if_neg hf, Nat.add_zero, ih]
      by_cases e : j = n
      · subst e; simp [hf]
      · rw [show decide (j < n + 1) = decide (j < n) from decide_eq_decide.2 (by omega)]
theorem pk_is {c : Nat} (h : c < 4294967296) : pk 32 c.testBit = c :=
  low_eq (pk_lt 32 _) h fun k hk => by rw [pk_bit]; simp [hk]
theorem pk_two (p q : Nat → Bool) (h : ∀ k, (p k && q k) = false) : ∀ n, pk n p + pk n q = pk n (fun k => p k || q k)
  | 0 => rfl
  | n + 1 => by
    have ih := pk_two p q h n
    have hn := h n
    unfold pk
    cases hp : p n <;> cases hq : q n
    · simp [hp, hq, ← ih]
    · simp [hp, hq, ← ih]; omega
    · simp [hp, hq, ← ih]; omega
    · rw [hp, hq] at hn; cases hn
theorem bt_sub {f g : Nat} (hf : f < 4294967296) (hg : g < 4294967296) : f - (f &&& g) = bt f g := by
  have h := pk_two (bt f g).testBit (f &&& g).testBit (fun k => by rw [bt_bit hf hg, Nat.testBit_and]; cases f.testBit k <;> cases g.testBit k <;> rfl) 32
  have e : pk 32 (fun k => (bt f g).testBit k || (f &&& g).testBit k) = f := by
    rw [show (fun k => (bt f g).testBit k || (f &&& g).testBit k) = f.testBit from funext fun k => by rw [bt_bit hf hg, Nat.testBit_and]; cases f.testBit k <;> cases g.testBit k <;> rfl]
    exact pk_is hf
  rw [pk_is (bt_lt hf), pk_is (and_lt hf), e] at h
  omega
/-- what is met in the lowest bits -/
def lowmet (f g n : Nat) : Nat := pk n fun k => f.testBit k && g.testBit k
theorem lowmet_all {f g : Nat} (hf : f < 4294967296) : lowmet f g 32 = f &&& g := by
  unfold lowmet
  rw [show (fun k => f.testBit k && g.testBit k) = (f &&& g).testBit from funext fun k => (Nat.testBit_and f g k).symm]
  exact pk_is (and_lt hf)
theorem lowmet_lt {f g n : Nat} (hn : n ≤ 32) : lowmet f g n < 4294967296 := Nat.lt_of_lt_of_le (pk_lt n _) (Nat.pow_le_pow_right (n := 2) (by decide) hn)
theorem lowmet_yes {f g n : Nat} (h1 : f.testBit n = true) (h2 : g.testBit n = true) : lowmet f g (n + 1) = lowmet f g n + 2 ^ n := by
  show lowmet f g n + (if (f.testBit n && g.testBit n) = true then 2 ^ n else 0) = _
  rw [h1, h2]; rfl
theorem lowmet_no {f g n : Nat} (h : (f.testBit n && g.testBit n) = false) : lowmet f g (n + 1) = lowmet f g n := by
  show lowmet f g n + (if (f.testBit n && g.testBit n) = true then 2 ^ n else 0) = _
  rw [h]; rfl
theorem one_any (a i : Nat) (ha : a < 4294967296) (hi : i < 32) (w : World) :
    Calls Tryz.prog 81 #[.int .u32 (a : Nat), .int .i64 (i : Nat)] w fun e w' => e = .returned (.bool (a.testBit i)) ∧ w = w' := by
  have et : (((a / 2 ^ i : Nat) : Int) % 2 == 1) = a.testBit i := by
    rw [Nat.testBit_eq_decide_div_mod_eq]
    apply hold_iff
    rw [beq_iff_eq, decide_eq_true_eq]
    omega
  have ET : Hid ((((a / 2 ^ i : Nat) : Int) % 2 == 1) = a.testBit i) := et
  clear et
  go_enter Tryz.func81, Tryz.ntmps81
  go_wp2
  go_loopg [0, 1] i (fun g s0 s1 wx => ∃ j : Nat, j + g = i ∧ s0 = .int .u32 ((a / 2 ^ j : Nat) : Int) ∧ s1 = .int .i64 (g : Nat) ∧ w = wx)
  case atStart => exact ⟨0, by omega, by simp, rfl, rfl⟩
  case round =>
    obtain ⟨j, hj, rfl, rfl, rfl⟩ := hrel
    have hl : a / 2 ^ j ≤ a := Nat.div_le_self _ _
    cases gk with
    | zero =>
      obtain rfl : j = i := by omega
      generalize a / 2 ^ j = x at *
      go_wp2
      go_ret
      exact ⟨congrArg (fun b => Ending.returned (Value.bool b)) ET.out, rfl⟩
    | succ g =>
      have HE : Hid (a / 2 ^ (j + 1) = a / 2 ^ j / 2) := by show _ = _; rw [Nat.pow_succ, Nat.div_div_eq_div_mul]
      clear ET
      generalize hx : a / 2 ^ j = x at *
      have HX : Hid (a / 2 ^ j = x) := hx
      clear hx
      go_wp2
      go_roundg g
      case measure => omega
      case rel => exact ⟨j + 1, by omega, by rw [HE.out]; go_num, by go_num, rfl⟩
theorem power_any (i : Nat) (hi : i < 32) (w : World) :
    Calls Tryz.prog 82 #[.int .i64 (i : Nat)] w fun e w' => e = .returned (.int .u32 ((2 ^ i : Nat) : Int)) ∧ w = w' := by
  go_enter Tryz.func82, Tryz.ntmps82
  go_wp2
  go_loopg [0, 3] i (fun g s0 s3 wx => ∃ j : Nat, j + g = i ∧ s0 = .int .i64 (g : Nat) ∧ s3 = .int .u32 ((2 ^ j : Nat) : Int) ∧ w = wx)
  case atStart => exact ⟨0, by omega, rfl, rfl, rfl⟩
  case round =>
    obtain ⟨j, hj, rfl, rfl, rfl⟩ := hrel
    cases gk with
    | zero =>
      obtain rfl : j = i := by omega
      generalize hx : 2 ^ j = x at *
      have HX : Hid (2 ^ j = x) := hx
      clear hx
      go_wp2
      go_ret
      exact ⟨congrArg (fun n : Nat => Ending.returned (Value.int IntKind.u32 (n : Int))) HX.out.symm, rfl⟩
    | succ g =>
      have HE : Hid (2 ^ (j + 1) = 2 * 2 ^ j) := by show _ = _; rw [Nat.pow_succ]; omega
      have HL : Hid (2 * 2 ^ j < 4294967296) := by
        show _ < _
        have : 2 ^ (j + 1) < 2 ^ 32 := Nat.pow_lt_pow_right (by decide) (by omega)
        rw [Nat.pow_succ] at this
        omega
      generalize hx : 2 ^ j = x at *
      clear hx
      have hl := HL.out
      go_wp2
      go_roundg g
      case measure => omega
      case rel => exact ⟨j + 1, by omega, by go_num, by rw [HE.out]; go_num, rfl⟩
set_option maxHeartbeats 1000000 in
theorem rmet_any (f g : Nat) (hf : f < 4294967296) (hg : g < 4294967296) (w : World) :
    Calls Tryz.prog 56 #[.int .u32 (f : Nat), .int .u32 (g : Nat)] w fun e w' => e = .returned (.int .u32 ((f &&& g : Nat) : Int)) ∧ w = w' := by
  have HM : Hid (lowmet f g 32 = f &&& g) := lowmet_all hf
  go_enter Tryz.func56, Tryz.ntmps56
  go_wp2
  go_loopg [5, 6] 32 (fun k s5 s6 wx => ∃ i : Nat, i + k = 32 ∧ s5 = .int .u32 ((lowmet f g i : Nat) : Int) ∧ s6 = .int .i64 (i : Nat) ∧ w = wx)
  case atStart => exact ⟨0, by omega, rfl, rfl, rfl⟩
  case round =>
    obtain ⟨i, hi, rfl, rfl, rfl⟩ := hrel
    cases gk with
    | zero =>
      obtain rfl : i = 32 := by omega
      rw [HM.out]
      clear HM hi
      generalize hx : f &&& g = x at *
      have HX : Hid (f &&& g = x) := hx
      clear hx
      go_wp2
      go_ret
      exact ⟨congrArg (fun n : Nat => Ending.returned (Value.int IntKind.u32 (n : Int))) HX.out.symm, rfl⟩
    | succ k =>
      clear HM
      have hi32 : i < 32 := by omega
      have O1 := fun w => one_any f i hf hi32 w
      have O2 := fun w => one_any g i hg hi32 w
      have P := fun w => power_any i hi32 w
      have hl := lowmet_lt (f := f) (g := g) (n := i + 1) (by omega)
      cases a : f.testBit i
      · have HE : Hid (lowmet f g (i + 1) = lowmet f g i) := lowmet_no (by rw [a]; rfl)
        rw [a] at O1
        clear a hl
        go_wp2_with (first
          | (go_at_call 81; (with_reducible refine (O1 _).mono ?_); rintro e wx ⟨rfl, rfl⟩))
        go_roundg k
        case measure => omega
        case rel => exact ⟨i + 1, by omega, by rw [HE.out], by go_num, rfl⟩
      · cases b : g.testBit i
        · have HE : Hid (lowmet f g (i + 1) = lowmet f g i) := lowmet_no (by rw [a, b]; rfl)
          rw [a] at O1
          rw [b] at O2
          clear a b hl
          go_wp2_with (first
            | (go_at_call 81; (with_reducible refine (O1 _).mono ?_); rintro e wx ⟨rfl, rfl⟩)
            | (go_at_call 81; (with_reducible refine (O2 _).mono ?_); rintro e wx ⟨rfl, rfl⟩))
          go_roundg k
          case measure => omega
          case rel => exact ⟨i + 1, by omega, by rw [HE.out], by go_num, rfl⟩
        · have hy := lowmet_yes a b
          have HE : Hid (lowmet f g (i + 1) = lowmet f g i + 2 ^ i) := hy
          rw [hy] at hl
          rw [a] at O1
          rw [b] at O2
          clear a b hy
          generalize 2 ^ i = z at *
          generalize hx : lowmet f g i = x at *
          clear hx
          go_wp2_with (first
            | (go_at_call 81; (with_reducible refine (O1 _).mono ?_); rintro e wx ⟨rfl, rfl⟩)
            | (go_at_call 81; (with_reducible refine (O2 _).mono ?_); rintro e wx ⟨rfl, rfl⟩)
            | (go_at_call 82; (with_reducible refine (P _).mono ?_); rintro e wx ⟨rfl, rfl⟩))
          go_roundg k
          case measure => omega
          case rel => exact ⟨i + 1, by omega, by rw [HE.out]; go_num, by go_num, rfl⟩
theorem hold_stop {f g i : Nat} {all : Bool} (h1 : g.testBit i = true) (h2 : f.testBit i = !all) : hold f g all = !all := by
  cases all
  · exact hold_any.2 ⟨i, h1, h2⟩
  · show hold f g true = false
    cases h : hold f g true
    · rfl
    · rw [hold_all.1 h i h1] at h2; cases h2
theorem hold_end {f g : Nat} {all : Bool} (hg : g < 4294967296) (h : ∀ j, j < 32 → g.testBit j = true → f.testBit j = all) : hold f g all = all := by
  cases all
  · cases q : hold f g false
    · rfl
    · obtain ⟨k, h1, h2⟩ := hold_any.1 q
      rw [h k (bit_low hg h1) h1] at h2; cases h2
  · exact hold_all.2 fun k hk => h k (bit_low hg hk) hk
theorem far {f g i : Nat} {all : Bool} (h : ∀ j, j < i → g.testBit j = true → f.testBit j = all) (k : g.testBit i = true → f.testBit i = all) : ∀ j, j < i + 1 → g.testBit j = true → f.testBit j = all := by
  intro j hj hb
  rcases Nat.lt_or_ge j i with a | a
  · exact h j a hb
  · obtain rfl : j = i := by omega
    exact k hb
set_option maxHeartbeats 2000000 in
theorem rholds_any (f g : Nat) (hf : f < 4294967296) (hg : g < 4294967296) (all : Bool) (w : World) :
    Calls Tryz.prog 55 #[.int .u32 (f : Nat), .int .u32 (g : Nat), .bool all] w fun e w' => e = .returned (.bool (hold f g all)) ∧ w = w' := by
  go_enter Tryz.func55, Tryz.ntmps55
  go_wp2
  go_loopg [7] 32 (fun k s7 wx => ∃ i : Nat, i + k = 32 ∧ s7 = .int .i64 (i : Nat) ∧ w = wx ∧ Hid (∀ j, j < i → g.testBit j = true → f.testBit j = all))
  case atStart => exact ⟨0, by omega, rfl, rfl, fun j hj => by omega⟩
  case round =>
    obtain ⟨i, hi, rfl, rfl, HL⟩ := hrel
    cases gk with
    | zero =>
      obtain rfl : i = 32 := by omega
      have HE : Hid (hold f g all = all) := hold_end hg HL.out
      clear hi HL
      go_wp2
      go_ret
      exact ⟨congrArg (fun b => Ending.returned (Value.bool b)) HE.out.symm, rfl⟩
    | succ k =>
      have hi32 : i < 32 := by omega
      have O1 := fun w => one_any g i hg hi32 w
      have O2 := fun w => one_any f i hf hi32 w
      cases a : g.testBit i
      · have HN : Hid (∀ j, j < i + 1 → g.testBit j = true → f.testBit j = all) := far HL.out (fun h => by rw [a] at h; cases h)
        rw [a] at O1
        clear a HL
        go_wp2_with (first
          | (go_at_call 81; (with_reducible refine (O1 _).mono ?_); rintro e wx ⟨rfl, rfl⟩))
        go_roundg k
        case measure => omega
        case rel => exact ⟨i + 1, by omega, by go_num, rfl, HN⟩
      · cases b : f.testBit i
        all_goals cases all
        all_goals rw [a] at O1
        all_goals rw [b] at O2
        · have HN : Hid (∀ j, j < i + 1 → g.testBit j = true → f.testBit j = false) := far HL.out (fun _ => b)
          clear a b HL
          go_wp2_with (first
            | (go_at_call 81; (with_reducible refine (O1 _).mono ?_); rintro e wx ⟨rfl, rfl⟩)
            | (go_at_call 81; (with_reducible refine (O2 _).mono ?_); rintro e wx ⟨rfl, rfl⟩))
          go_roundg k
          case measure => omega
          case rel => exact ⟨i + 1, by omega, by go_num, rfl, HN⟩
        · have HE : Hid (hold f g true = false) := hold_stop (all := true) a b
          clear a b HL
          go_wp2_with (first
            | (go_at_call 81; (with_reducible refine (O1 _).mono ?_); rintro e wx ⟨rfl, rfl⟩)
            | (go_at_call 81; (with_reducible refine (O2 _).mono ?_); rintro e wx ⟨rfl, rfl⟩))
          go_ret
          exact ⟨congrArg (fun b => Ending.returned (Value.bool b)) HE.out.symm, rfl⟩
        · have HE : Hid (hold f g false = true) := hold_stop (all := false) a b
          clear a b HL
          go_wp2_with (first
            | (go_at_call 81; (with_reducible refine (O1 _).mono ?_); rintro e wx ⟨rfl, rfl⟩)
            | (go_at_call 81; (with_reducible refine (O2 _).mono ?_); rintro e wx ⟨rfl, rfl⟩))
          go_ret
          exact ⟨congrArg (fun b => Ending.returned (Value.bool b)) HE.out.symm, rfl⟩
        · have HN : Hid (∀ j, j < i + 1 → g.testBit j = true → f.testBit j = true) := far HL.out (fun _ => b)
          clear a b HL
          go_wp2_with (first
            | (go_at_call 81; (with_reducible refine (O1 _).mono ?_); rintro e wx ⟨rfl, rfl⟩)
            | (go_at_call 81; (with_reducible refine (O2 _).mono ?_); rintro e wx ⟨rfl, rfl⟩))
          go_roundg k
          case measure => omega
          case rel => exact ⟨i + 1, by omega, by go_num, rfl, HN⟩
theorem rafter_any (f g : Nat) (hf : f < 4294967296) (hg : g < 4294967296) (all gone : Bool) (w : World) :
    Calls Tryz.prog 57 #[.int .u32 (f : Nat), .int .u32 (g : Nat), .bool all, .bool gone] w fun e w' => e = .returned (.int .u32 (aft f g all gone : Nat)) ∧ w = w' := by
  have hH := fun wx => rholds_any f g hf hg all wx
  have hM := fun wx => rmet_any f g hf hg wx
  cases gone
  · rw [aft_stay]
    clear hH hM
    go_enter Tryz.func57, Tryz.ntmps57
    go_wp2
    go_ret
    exact ⟨rfl, rfl⟩
  · cases q : hold f g all
    · rw [aft_no q]
      rw [q] at hH
      clear q hM
      go_enter Tryz.func57, Tryz.ntmps57
      go_wp2_with (first
        | (go_at_call 55; (with_reducible refine (hH _).mono ?_); rintro e wx ⟨rfl, rfl⟩))
      go_ret
      exact ⟨rfl, rfl⟩
    · rw [aft_yes q]
      rw [q] at hH
      have hs := bt_sub hf hg
      have hle : f &&& g ≤ f := Nat.and_le_left
      clear q
      generalize f &&& g = x at *
      have HS : Hid (f - x = bt f g) := hs
      clear hs
      go_enter Tryz.func57, Tryz.ntmps57
      go_wp2_with (first
        | (go_at_call 55; (with_reducible refine (hH _).mono ?_); rintro e wx ⟨rfl, rfl⟩)
        | (go_at_call 56; (with_reducible refine (hM _).mono ?_); rintro e wx ⟨rfl, rfl⟩))
      go_ret
      refine ⟨congrArg (fun z => Ending.returned (Value.int IntKind.u32 z)) ?_, rfl⟩
      rw [← HS.out]
      omega
end Go.Proofs.YteicnekoogmmmaaGreatDoor.Mk
