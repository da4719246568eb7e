/- What the row within the array answers, for every queue in memory; what is set is the queue's own block. -/
import Derived.Test.YteicnekoogmmmaaGreatDoorQMem
namespace Go.Proofs.YteicnekoogmmmaaGreatDoor
open Go Go.RowKit
set_option maxRecDepth 100000
set_option linter.unusedVariables false
theorem slot_any {w : World} {p n f m : Nat} {ys : List Int} (h : Raw w p n f m ys) (hf : f < 64) (i : Nat) (hi : i ≤ 64) (s : Nat) (hsl : sl 64 f i = s) :
    Calls Tryz.prog 91 #[.pointer (some ⟨p, 0, none⟩), .int .i64 i] w fun e w' => e = .returned (.int .i64 (s : Nat)) ∧ w = w' := by
  subst hsl
  have c1 := h.c1
  have hs : ((f : Int) + (i : Int)) % (64 : Int) = (sl 64 f i : Int) := by have := sl_mod hf hi; omega
  have hl := sl_lt hf hi
  clear h
  generalize sl 64 f i = s at *
  go_enter Tryz.func91, Tryz.ntmps91
  go_wp2
  go_ret
  refine ⟨?_, rfl⟩
  show Ending.returned (Value.int .i64 (((f : Int) + (i : Int)) % 64)) = _
  rw [hs]
theorem at_any {w : World} {p n f m : Nat} {ys : List Int} (h : Raw w p n f m ys) (hf : f < 64) (i : Nat) (hi : i < 64) :
    Calls Tryz.prog 89 #[.pointer (some ⟨p, 0, none⟩), .int .i64 i] w fun e w' => e = .returned (.int .u32 (ys.getD (sl 64 f i) 0)) ∧ ∃ k, w' = w.drewN k := by
  have hl := sl_lt hf (show i ≤ 64 by omega)
  have c := h.slot hl
  have hC := fun q => slot_any (h.drew q) hf i (by omega) _ rfl
  clear h
  generalize ys.getD (sl 64 f i) 0 = y at *
  generalize sl 64 f i = s at *
  have hlI : (s : Int) < 64 := by omega
  go_enter Tryz.func89, Tryz.ntmps89
  go_wp2
  go_quiet ((go_at_call 91; exact Calls.quiet_of ((hC _).mono fun e w' ⟨he, hw⟩ => ⟨he, 0, hw.symm⟩)))
  go_wp2
  go_ret
  exact ⟨rfl, _, rfl⟩
set_option maxHeartbeats 1000000 in
theorem addLast_any {w : World} {p n f m : Nat} {ys : List Int} (h : Raw w p n f m ys) (hf : f < 64) (hm : m < 64) (z : Int) :
    Calls Tryz.prog 131 #[.pointer (some ⟨p, 0, none⟩), .int .u32 z] w fun e w' => e = .returned (.tuple #[]) ∧ Raw w' p n f (m + 1) (ys.set (sl 64 f m) z) ∧ Buts [p] w w' := by
  have hd := h.drew1
  have hC := slot_any hd hf m (by omega) _ rfl
  have d2 := h.c2
  have hsl := sl_lt hf (show m ≤ 64 by omega)
  have hslI : ((sl 64 f m : Nat) : Int) < 64 := by omega
  have HS : Hid (Raw w.drew p n f m ys) := hd
  have HR : Hid (Raw w p n f m ys) := h
  clear h hd
  generalize sl 64 f m = s at *
  have k5 := ((HR.out.setSlot hsl z).drew1).c2
  have kg := HS.out.slot hsl
  have kf := HS.out.fp s
  go_enter Tryz.func131, Tryz.ntmps131
  go_wp2
  go_region_held3 (fun w' => w'.cell? ⟨p, 65, none⟩ = some (.int .i64 m)) (go_keep) (first | (go_at_call 91; refine hC.mono ?_; rintro e wx ⟨rfl, rfl⟩))
  all_goals
    have R2 : Hid (Raw (w.setCell ⟨p, s, none⟩ (.int .u32 z)).drew p n f m (ys.set s z)) := (HR.out.setSlot hsl z).drew1
    have B2 : Hid (Buts [p] w (w.setCell ⟨p, s, none⟩ (.int .u32 z)).drew) := (Buts.cell _ _ _ _).drew
    clear k5
    generalize (w.setCell ⟨p, s, none⟩ (.int .u32 z)).drew = w2 at *
    have q2 := R2.out.c2
    have qf := R2.out.fp 65
    go_wp2
    go_end0
    exact ⟨rfl, R2.out.setMany (m + 1), B2.out.trans ((Buts.cell _ _ _ _).mono (by simp))⟩
set_option maxHeartbeats 1000000 in
theorem addFirst_any {w : World} {p n f m : Nat} {ys : List Int} (h : Raw w p n f m ys) (hf : f < 64) (hm : m < 64) (z : Int) :
    Calls Tryz.prog 132 #[.pointer (some ⟨p, 0, none⟩), .int .u32 z] w fun e w' => e = .returned (.tuple #[]) ∧ Raw w' p n (sl 64 f 63) (m + 1) (ys.set (sl 64 f 63) z) ∧ Buts [p] w w' := by
  have hC := slot_any h hf 63 (by omega) _ rfl
  have c1 := h.c1
  have kf := h.fp 64
  have hsl := sl_lt hf (show 63 ≤ 64 by omega)
  have hslI : ((sl 64 f 63 : Nat) : Int) < 64 := by omega
  generalize sl 64 f 63 = s at *
  have R2 : Hid (Raw (w.setCell ⟨p, 64, none⟩ (.int .i64 s)) p n s m ys) := h.setFirst s
  have B2 : Hid (Buts [p] w (w.setCell ⟨p, 64, none⟩ (.int .i64 s))) := Buts.cell _ _ _ _
  clear h
  go_enter Tryz.func132, Tryz.ntmps132
  go_wp2_with (first | (go_at_call 91; refine hC.mono ?_; rintro e wx ⟨rfl, rfl⟩))
  generalize w.setCell ⟨p, 64, none⟩ (.int .i64 s) = w2 at *
  have d1 := R2.out.c1
  have dg := R2.out.slot hsl
  have df := R2.out.fp s
  have k5 := ((R2.out.setSlot hsl z).drew1).c1
  go_region_held3 (fun w' => w'.cell? ⟨p, 64, none⟩ = some (.int .i64 s)) (go_keep) (fail)
  all_goals
    have R3 : Hid (Raw (w2.setCell ⟨p, s, none⟩ (.int .u32 z)).drew p n s m (ys.set s z)) := (R2.out.setSlot hsl z).drew1
    have B3 : Hid (Buts [p] w (w2.setCell ⟨p, s, none⟩ (.int .u32 z)).drew) := (B2.out.trans ((Buts.cell _ _ _ _).mono (by simp))).drew
    clear k5
    generalize (w2.setCell ⟨p, s, none⟩ (.int .u32 z)).drew = w3 at *
    have q2 := R3.out.c2
    have qf := R3.out.fp 65
    go_wp2
    go_end0
    exact ⟨rfl, R3.out.setMany (m + 1), B3.out.trans ((Buts.cell _ _ _ _).mono (by simp))⟩
theorem dropFirst_any {w : World} {p n f m : Nat} {ys : List Int} (h : Raw w p n f (m + 1) ys) (hf : f < 64) (hm : m < 64) :
    Calls Tryz.prog 123 #[.pointer (some ⟨p, 0, none⟩)] w fun e w' => e = .returned (.tuple #[]) ∧ Raw w' p n (sl 64 f 1) m ys ∧ Buts [p] w w' := by
  have hC := slot_any h hf 1 (by omega) _ rfl
  have c1 := h.c1
  have kf := h.fp 64
  generalize sl 64 f 1 = s at *
  have R2 : Hid (Raw (w.setCell ⟨p, 64, none⟩ (.int .i64 s)) p n s (m + 1) ys) := h.setFirst s
  have B2 : Hid (Buts [p] w (w.setCell ⟨p, 64, none⟩ (.int .i64 s))) := Buts.cell _ _ _ _
  have q2 := R2.out.c2
  have qf := R2.out.fp 65
  clear h
  go_enter Tryz.func123, Tryz.ntmps123
  go_wp2_with (first | (go_at_call 91; refine hC.mono ?_; rintro e wx ⟨rfl, rfl⟩))
  go_end0
  exact ⟨rfl, R2.out.setMany m, B2.out.trans ((Buts.cell _ _ _ _).mono (by simp))⟩
theorem there_yes {w : World} {p n f m : Nat} {ys : List Int} (h : Raw w p n f m ys) (h1 : 1 ≤ n) :
    Calls Tryz.prog 83 #[.pointer (some ⟨p, 0, none⟩)] w fun e w' => e = .returned (.bool true) ∧ w = w' := by
  have c3 := h.c3
  have hz : decide (0 < n) = true := decide_eq_true (by omega)
  clear h
  go_enter Tryz.func83, Tryz.ntmps83
  go_wp2
  go_ret
  exact ⟨rfl, rfl⟩
theorem there_nil {w : World} :
    Calls Tryz.prog 83 #[.pointer none] w fun e w' => e = .returned (.bool false) ∧ w = w' := by
  go_enter Tryz.func83, Tryz.ntmps83
  go_wp2
  go_ret
  exact ⟨rfl, rfl⟩
theorem there_zero {w : World} {p : Nat} (h0 : w.cell? ⟨p, 66, none⟩ = some (.int .i64 0)) :
    Calls Tryz.prog 83 #[.pointer (some ⟨p, 0, none⟩)] w fun e w' => e = .returned (.bool false) ∧ w = w' := by
  go_enter Tryz.func83, Tryz.ntmps83
  go_wp2
  go_ret
  exact ⟨rfl, rfl⟩
theorem hasRoom_any {w : World} {p n f m : Nat} {ys : List Int} (h : Raw w p n f m ys) (h1 : 1 ≤ n) (e : Int) (he : e = if m = n then 10 else 0) :
    Calls Tryz.prog 130 #[.pointer (some ⟨p, 0, none⟩)] w fun r w' => r = .returned (.int .i64 e) ∧ ∃ k, w' = w.drewN k := by
  have hT := there_yes h h1
  have c2 := h.c2
  have c3 := h.c3
  subst he
  clear h
  by_cases hm : m = n
  · rw [if_pos hm]
    have hF : ((m : Int) == (n : Int)) = true := by simp; omega
    clear hm
    go_enter Tryz.func130, Tryz.ntmps130
    go_wp2_with (go_at_call 83; refine hT.mono ?_; rintro e wx ⟨rfl, rfl⟩)
    go_quiet ((fail))
    go_wp2
    go_ret
    exact ⟨rfl, _, rfl⟩
  · rw [if_neg hm]
    have hF : ((m : Int) == (n : Int)) = false := by simp; omega
    clear hm
    go_enter Tryz.func130, Tryz.ntmps130
    go_wp2_with (go_at_call 83; refine hT.mono ?_; rintro e wx ⟨rfl, rfl⟩)
    go_quiet ((fail))
    go_wp2
    go_ret
    exact ⟨rfl, _, rfl⟩
theorem hasRoom_nil {w : World} :
    Calls Tryz.prog 130 #[.pointer none] w fun r w' => r = .returned (.int .i64 2) ∧ w = w' := by
  go_enter Tryz.func130, Tryz.ntmps130
  go_wp2_with (go_at_call 83; refine there_nil.mono ?_; rintro e wx ⟨rfl, rfl⟩)
  go_ret
  exact ⟨rfl, rfl⟩
theorem hasRoom_zero {w : World} {p : Nat} (h0 : w.cell? ⟨p, 66, none⟩ = some (.int .i64 0)) :
    Calls Tryz.prog 130 #[.pointer (some ⟨p, 0, none⟩)] w fun r w' => r = .returned (.int .i64 2) ∧ w = w' := by
  go_enter Tryz.func130, Tryz.ntmps130
  go_wp2_with (go_at_call 83; refine (there_zero h0).mono ?_; rintro e wx ⟨rfl, rfl⟩)
  go_ret
  exact ⟨rfl, rfl⟩
end Go.Proofs.YteicnekoogmmmaaGreatDoor
