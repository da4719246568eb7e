/- What the inner functions of package lines answer: a line's bit set and cleared, the least one, who may be changed. -/
import Derived.Test.YtedheamenlnfkabMem
namespace Go.Proofs.Ytedheamenlnfkab
open Go Go.RowKit
set_option maxRecDepth 100000
set_option linter.unusedVariables false
theorem there_yes {w : World} {p : Nat} (h0 : w.cell? ⟨p, 0, none⟩ = some (.bool true)) :
    Calls Try.prog 16 #[.pointer (some ⟨p, 0, none⟩)] w fun e w' => e = .returned (.bool true) ∧ w' = w := by
  go_enter Try.func16, Try.ntmps16
  go_wp2
  go_ret
  exact ⟨rfl, rfl⟩
theorem there_zero {w : World} {p : Nat} (h0 : w.cell? ⟨p, 0, none⟩ = some (.bool false)) :
    Calls Try.prog 16 #[.pointer (some ⟨p, 0, none⟩)] w fun e w' => e = .returned (.bool false) ∧ w' = w := by
  go_enter Try.func16, Try.ntmps16
  go_wp2
  go_ret
  exact ⟨rfl, rfl⟩
theorem there_nil {w : World} :
    Calls Try.prog 16 #[.pointer none] w fun e w' => e = .returned (.bool false) ∧ w' = w := by
  go_enter Try.func16, Try.ntmps16
  go_wp2
  go_ret
  exact ⟨rfl, rfl⟩
theorem shl_one {k : Nat} (hk : k < 8) : (2 : Int) ^ k % 256 = ((2 ^ k : Nat) : Int) := by
  rcases k with _ | _ | _ | _ | _ | _ | _ | _ | k
  all_goals first | rfl | omega
theorem with_any (c k : Nat) (hc : c < 256) (hk : k < 8) (w : World) :
    Calls Try.prog 15 #[.int .u8 (c : Nat), .int .i64 (k : Nat)] w fun e w' => e = .returned (.int .u8 (st c k : Nat)) ∧ w' = w := by
  have hp := pow_lt hk
  go_enter Try.func15, Try.ntmps15
  go_wp2
  go_ret
  refine ⟨congrArg Ending.returned (congrArg (Value.int IntKind.u8) ?_), rfl⟩
  rw [shl_one hk]
  exact u8_or_nat c _ hc hp
theorem without_any (c k : Nat) (hc : c < 256) (hk : k < 8) (w : World) :
    Calls Try.prog 19 #[.int .u8 (c : Nat), .int .i64 (k : Nat)] w fun e w' => e = .returned (.int .u8 (cl c k : Nat)) ∧ w' = w := by
  have hp := pow_lt hk
  go_enter Try.func19, Try.ntmps19
  go_wp2
  go_ret
  refine ⟨congrArg Ending.returned (congrArg (Value.int IntKind.u8) ?_), rfl⟩
  rw [shl_one hk]
  exact u8_andNot_nat c _ hc hp
theorem butFor_any (c m : Nat) (hc : c < 256) (hm : m < 256) (w : World) :
    Calls Try.prog 17 #[.int .u8 (c : Nat), .int .u8 (m : Nat)] w fun e w' => e = .returned (.int .u8 (bt c m : Nat)) ∧ w' = w := by
  have e := u8_andNot_nat c m hc hm
  go_enter Try.func17, Try.ntmps17
  go_wp2
  go_ret
  exact ⟨rfl, rfl⟩
theorem ntz_get (x : Nat) (hx : x < 256) (h : x < Lib.ntz8tab.size) : wrap64 ((Lib.ntz8tab[x]'h).toNat : Int) = ((lw x : Nat) : Int) := by
  have e : Lib.ntz8 (x : Int) = ((Lib.ntz8tab[x]'h).toNat : Int) := by unfold Lib.ntz8; rw [Int.toNat_natCast, getElem?_pos Lib.ntz8tab x h]; rfl
  have e2 := Lib.ntz8_eq ⟨x, hx⟩
  have e3 := lw_tz ⟨x, hx⟩
  have l := lw_le x
  simp only at e2 e3
  rw [← e, e2, e3]
  simp only [wrap64]
  omega
theorem tz8_any (x : Nat) (hx : x < 256) (w : World) :
    Calls Try.prog 20 #[.int .u8 (x : Nat)] w fun e w' => e = .returned (.int .i64 (lw x : Nat)) ∧ w' = w := by
  have hs := Lib.ntz8tab_size
  go_enter Try.func20, Try.ntmps20
  go_wp2
  go_ret
  exact ⟨congrArg Ending.returned (congrArg (Value.int IntKind.i64) (ntz_get x hx _)), rfl⟩
theorem least_yes {x : Nat} (hx : x < 256) (h : lw x < 8) (w : World) :
    Calls Try.prog 18 #[.int .u8 (x : Nat)] w fun e w' => e = .returned (.tuple #[.int .i64 (lw x : Nat), .bool true]) ∧ w' = w := by
  have h0 : ¬ ((x : Int) = 0) := fun e => by
    have := (lw_zero hx).2 (by omega)
    omega
  have hC := tz8_any x hx w
  generalize lw x = k at *
  go_enter Try.func18, Try.ntmps18
  go_wp2_with (go_at_call 20; refine hC.mono ?_; rintro e wx ⟨rfl, rfl⟩)
  go_ret2
  exact ⟨rfl, rfl⟩
theorem least_no {x : Nat} (hx : x < 256) (h : lw x = 8) (w : World) :
    Calls Try.prog 18 #[.int .u8 (x : Nat)] w fun e w' => e = .returned (.tuple #[.int .i64 0, .bool false]) ∧ w' = w := by
  obtain rfl := (lw_zero hx).1 h
  clear h hx
  go_enter Try.func18, Try.ntmps18
  go_wp2
  go_ret2
  exact ⟨rfl, rfl⟩
theorem may_nil {w : World} (r : Int) :
    Calls Try.prog 13 #[.pointer none, .int .i64 r] w fun e w' => e = .returned (.int .i64 2) ∧ w' = w := by
  go_enter Try.func13, Try.ntmps13
  go_wp2_with (go_at_call 16; refine there_nil.mono ?_; rintro e wx ⟨rfl, rfl⟩)
  go_ret
  exact ⟨rfl, rfl⟩
theorem may_zero {w : World} {p : Nat} (h0 : w.cell? ⟨p, 0, none⟩ = some (.bool false)) (r : Int) :
    Calls Try.prog 13 #[.pointer (some ⟨p, 0, none⟩), .int .i64 r] w fun e w' => e = .returned (.int .i64 2) ∧ w' = w := by
  go_enter Try.func13, Try.ntmps13
  go_wp2_with (go_at_call 16; refine (there_zero h0).mono ?_; rintro e wx ⟨rfl, rfl⟩)
  go_ret
  exact ⟨rfl, rfl⟩
theorem may_any {w : World} {p : Nat} (h0 : w.cell? ⟨p, 0, none⟩ = some (.bool true)) (r : Int) :
    Calls Try.prog 13 #[.pointer (some ⟨p, 0, none⟩), .int .i64 r] w fun e w' => e = .returned (.int .i64 (lnE r)) ∧ w' = w := by
  have hC := there_yes h0
  by_cases h : 0 ≤ r ∧ r < 8
  · have e : lnE r = 0 := by unfold lnE ln; rw [if_pos (by simpa using h)]
    rw [e]
    clear e
    go_enter Try.func13, Try.ntmps13
    go_wp2_with (go_at_call 16; refine hC.mono ?_; rintro e wx ⟨rfl, rfl⟩)
    go_ret
    exact ⟨rfl, rfl⟩
  · have e : lnE r = 1 := by unfold lnE ln; rw [if_neg (by simpa using h)]
    rw [e]
    clear e
    by_cases h1 : r < 0
    · clear h
      go_enter Try.func13, Try.ntmps13
      go_wp2_with (go_at_call 16; refine hC.mono ?_; rintro e wx ⟨rfl, rfl⟩)
      go_ret
      exact ⟨rfl, rfl⟩
    · have h2 : ¬ r < 8 := by omega
      clear h
      go_enter Try.func13, Try.ntmps13
      go_wp2_with (go_at_call 16; refine hC.mono ?_; rintro e wx ⟨rfl, rfl⟩)
      go_ret
      exact ⟨rfl, rfl⟩
theorem change_with {w : World} {p i c k : Nat} (h : w.cell? ⟨p, i, none⟩ = some (.int .u8 (c : Nat))) (hf : w.frozen? ⟨p, i, none⟩ = false) (hc : c < 256) (hk : k < 8) :
    Calls Try.prog 14 #[.pointer (some ⟨p, i, none⟩), .int .i64 (k : Nat), .func (.func 15) #[] #[]] w fun e w' => e = .returned (.tuple #[]) ∧ w' = w.setCell ⟨p, i, none⟩ (.int .u8 (st c k : Nat)) := by
  have hC := with_any c k hc hk w
  generalize st c k = x at *
  go_enter Try.func14, Try.ntmps14
  go_wp2_with (go_at_call 15; refine hC.mono ?_; rintro e wx ⟨rfl, hwx⟩; obtain rfl := hwx.symm)
  go_end0
  exact ⟨rfl, rfl⟩
theorem change_without {w : World} {p i c k : Nat} (h : w.cell? ⟨p, i, none⟩ = some (.int .u8 (c : Nat))) (hf : w.frozen? ⟨p, i, none⟩ = false) (hc : c < 256) (hk : k < 8) :
    Calls Try.prog 14 #[.pointer (some ⟨p, i, none⟩), .int .i64 (k : Nat), .func (.func 19) #[] #[]] w fun e w' => e = .returned (.tuple #[]) ∧ w' = w.setCell ⟨p, i, none⟩ (.int .u8 (cl c k : Nat)) := by
  have hC := without_any c k hc hk w
  generalize cl c k = x at *
  go_enter Try.func14, Try.ntmps14
  go_wp2_with (go_at_call 19; refine hC.mono ?_; rintro e wx ⟨rfl, hwx⟩; obtain rfl := hwx.symm)
  go_end0
  exact ⟨rfl, rfl⟩
end Go.Proofs.Ytedheamenlnfkab
