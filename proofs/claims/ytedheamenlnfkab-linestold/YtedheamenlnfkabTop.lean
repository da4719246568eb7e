/- What the functions of package lines answer, for all lines and every number. -/
import Derived.Test.YtedheamenlnfkabTabs
namespace Go.Proofs.Ytedheamenlnfkab
open Go Go.RowKit
set_option maxRecDepth 100000
set_option linter.unusedVariables false
theorem new_any {w : World} :
    Calls Try.prog 6 #[] w fun e w' => e = .returned (.pointer (some ⟨w.heap.size, 0, none⟩)) ∧ Tab w' w.heap.size 0 0 ∧ Below w.heap.size w w' := by
  have hp : Hid (Tab (w.alloc (.cells #[.bool true, .int .u8 0, .int .u8 0] 39)) w.heap.size 0 0) := ⟨alloc_at w _, by decide, by decide⟩
  have hb := alloc_below w (.cells #[.bool true, .int .u8 0, .int .u8 0] 39)
  go_enter Try.func6, Try.ntmps6
  go_wp2
  go_ret
  exact ⟨rfl, hp.out, hb⟩
theorem raise_nil {w : World} (r : Int) :
    Calls Try.prog 7 #[.pointer none, .int .i64 r] w fun e w' => e = .returned (.int .i64 2) ∧ w' = w := by
  go_enter Try.func7, Try.ntmps7
  go_wp2_with (go_at_call 13; refine (may_nil r).mono ?_; rintro e wx ⟨rfl, rfl⟩)
  go_ret
  exact ⟨rfl, rfl⟩
theorem raise_zero {w : World} {p : Nat} (h0 : w.cell? ⟨p, 0, none⟩ = some (.bool false)) (r : Int) :
    Calls Try.prog 7 #[.pointer (some ⟨p, 0, none⟩), .int .i64 r] w fun e w' => e = .returned (.int .i64 2) ∧ w' = w := by
  go_enter Try.func7, Try.ntmps7
  go_wp2_with (go_at_call 13; refine (may_zero h0 r).mono ?_; rintro e wx ⟨rfl, rfl⟩)
  go_ret
  exact ⟨rfl, rfl⟩
theorem mask_nil {w : World} (r : Int) (on : Bool) :
    Calls Try.prog 11 #[.pointer none, .int .i64 r, .bool on] w fun e w' => e = .returned (.int .i64 2) ∧ w' = w := by
  go_enter Try.func11, Try.ntmps11
  go_wp2_with (go_at_call 13; refine (may_nil r).mono ?_; rintro e wx ⟨rfl, rfl⟩)
  go_ret
  exact ⟨rfl, rfl⟩
theorem mask_zero {w : World} {p : Nat} (h0 : w.cell? ⟨p, 0, none⟩ = some (.bool false)) (r : Int) (on : Bool) :
    Calls Try.prog 11 #[.pointer (some ⟨p, 0, none⟩), .int .i64 r, .bool on] w fun e w' => e = .returned (.int .i64 2) ∧ w' = w := by
  go_enter Try.func11, Try.ntmps11
  go_wp2_with (go_at_call 13; refine (may_zero h0 r).mono ?_; rintro e wx ⟨rfl, rfl⟩)
  go_ret
  exact ⟨rfl, rfl⟩
theorem next_nil {w : World} :
    Calls Try.prog 8 #[.pointer none] w fun e w' => e = .returned (.tuple #[.int .i64 0, .int .i64 2]) ∧ w' = w := by
  go_enter Try.func8, Try.ntmps8
  go_wp2_with (go_at_call 16; refine there_nil.mono ?_; rintro e wx ⟨rfl, rfl⟩)
  go_ret2
  exact ⟨rfl, rfl⟩
theorem next_zero {w : World} {p : Nat} (h0 : w.cell? ⟨p, 0, none⟩ = some (.bool false)) :
    Calls Try.prog 8 #[.pointer (some ⟨p, 0, none⟩)] w fun e w' => e = .returned (.tuple #[.int .i64 0, .int .i64 2]) ∧ w' = w := by
  go_enter Try.func8, Try.ntmps8
  go_wp2_with (go_at_call 16; refine (there_zero h0).mono ?_; rintro e wx ⟨rfl, rfl⟩)
  go_ret2
  exact ⟨rfl, rfl⟩
theorem calls_nil {w : World} :
    Calls Try.prog 9 #[.pointer none] w fun e w' => e = .returned (.int .u8 0) ∧ w' = w := by
  go_enter Try.func9, Try.ntmps9
  go_wp2_with (go_at_call 16; refine there_nil.mono ?_; rintro e wx ⟨rfl, rfl⟩)
  go_ret
  exact ⟨rfl, rfl⟩
theorem calls_zero {w : World} {p : Nat} (h0 : w.cell? ⟨p, 0, none⟩ = some (.bool false)) :
    Calls Try.prog 9 #[.pointer (some ⟨p, 0, none⟩)] w fun e w' => e = .returned (.int .u8 0) ∧ w' = w := by
  go_enter Try.func9, Try.ntmps9
  go_wp2_with (go_at_call 16; refine (there_zero h0).mono ?_; rintro e wx ⟨rfl, rfl⟩)
  go_ret
  exact ⟨rfl, rfl⟩
theorem masks_nil {w : World} :
    Calls Try.prog 12 #[.pointer none] w fun e w' => e = .returned (.int .u8 0) ∧ w' = w := by
  go_enter Try.func12, Try.ntmps12
  go_wp2_with (go_at_call 16; refine there_nil.mono ?_; rintro e wx ⟨rfl, rfl⟩)
  go_ret
  exact ⟨rfl, rfl⟩
theorem masks_zero {w : World} {p : Nat} (h0 : w.cell? ⟨p, 0, none⟩ = some (.bool false)) :
    Calls Try.prog 12 #[.pointer (some ⟨p, 0, none⟩)] w fun e w' => e = .returned (.int .u8 0) ∧ w' = w := by
  go_enter Try.func12, Try.ntmps12
  go_wp2_with (go_at_call 16; refine (there_zero h0).mono ?_; rintro e wx ⟨rfl, rfl⟩)
  go_ret
  exact ⟨rfl, rfl⟩
theorem calls_any {w : World} {p c m : Nat} (H : Tab w p c m) :
    Calls Try.prog 9 #[.pointer (some ⟨p, 0, none⟩)] w fun e w' => e = .returned (.int .u8 (c : Nat)) ∧ w' = w := by
  have hT := there_yes H.c0
  have c1 := H.c1
  have hc := H.hc
  clear H
  go_enter Try.func9, Try.ntmps9
  go_wp2_with (go_at_call 16; refine hT.mono ?_; rintro e wx ⟨rfl, hwx⟩; obtain rfl := hwx.symm)
  go_ret
  exact ⟨rfl, rfl⟩
theorem masks_any {w : World} {p c m : Nat} (H : Tab w p c m) :
    Calls Try.prog 12 #[.pointer (some ⟨p, 0, none⟩)] w fun e w' => e = .returned (.int .u8 (m : Nat)) ∧ w' = w := by
  have hT := there_yes H.c0
  have c2 := H.c2
  have hm := H.hm
  clear H
  go_enter Try.func12, Try.ntmps12
  go_wp2_with (go_at_call 16; refine hT.mono ?_; rintro e wx ⟨rfl, hwx⟩; obtain rfl := hwx.symm)
  go_ret
  exact ⟨rfl, rfl⟩
theorem raise_any {w : World} {p c m : Nat} (H : Tab w p c m) (r : Int) :
    Calls Try.prog 7 #[.pointer (some ⟨p, 0, none⟩), .int .i64 r] w fun e w' => e = .returned (.int .i64 (lnE r)) ∧ Tab w' p (raiseC c r) m ∧ Buts [p] w w' := by
  have hT := may_any H.c0 r
  by_cases q : ln r = true
  · obtain ⟨k, rfl, hk⟩ := ln_of q
    have hD := change_with H.c1 (H.free 1) H.hc hk
    have HE : Hid (Tab (w.setCell ⟨p, 1, none⟩ (.int .u8 (st c k : Nat))) p (raiseC c (k : Int)) m) := by show Tab _ _ _ _; rw [raiseC_nat c hk]; exact H.setC (st_lt H.hc hk)
    have HB := Buts.cell w p 1 (.int .u8 (st c k : Nat))
    rw [lnE_nat hk] at hT ⊢
    generalize st c k = x at *
    clear H q
    go_enter Try.func7, Try.ntmps7
    go_wp2_with (first
      | (go_at_call 13; refine hT.mono ?_; rintro e wx ⟨rfl, hwx⟩; obtain rfl := hwx.symm)
      | (go_at_call 14; refine hD.mono ?_; rintro e wy ⟨rfl, hwy⟩; obtain rfl := hwy.symm))
    go_ret
    exact ⟨rfl, HE.out, HB⟩
  · have e1 : lnE r = 1 := if_neg q
    have HE : Hid (Tab w p (raiseC c r) m) := by show Tab _ _ _ _; unfold raiseC; rw [if_neg q]; exact H
    rw [e1] at hT ⊢
    clear H q e1
    go_enter Try.func7, Try.ntmps7
    go_wp2_with (first
      | (go_at_call 13; refine hT.mono ?_; rintro e wx ⟨rfl, hwx⟩; obtain rfl := hwx.symm))
    go_ret
    exact ⟨rfl, HE.out, Buts.refl _ _⟩
theorem mask_any {w : World} {p c m : Nat} (H : Tab w p c m) (r : Int) (on : Bool) :
    Calls Try.prog 11 #[.pointer (some ⟨p, 0, none⟩), .int .i64 r, .bool on] w fun e w' => e = .returned (.int .i64 (lnE r)) ∧ Tab w' p c (maskM m r on) ∧ Buts [p] w w' := by
  have hT := may_any H.c0 r
  by_cases q : ln r = true
  · obtain ⟨k, rfl, hk⟩ := ln_of q
    rw [lnE_nat hk] at hT ⊢
    cases on
    · have hD := change_without H.c2 (H.free 2) H.hm hk
      have HE : Hid (Tab (w.setCell ⟨p, 2, none⟩ (.int .u8 (cl m k : Nat))) p c (maskM m (k : Int) false)) := by show Tab _ _ _ _; rw [maskM_off m hk]; exact H.setM cl_lt
      have HB := Buts.cell w p 2 (.int .u8 (cl m k : Nat))
      generalize cl m k = x at *
      clear H q
      go_enter Try.func11, Try.ntmps11
      go_wp2_with (first
        | (go_at_call 13; refine hT.mono ?_; rintro e wx ⟨rfl, hwx⟩; obtain rfl := hwx.symm)
        | (go_at_call 14; refine hD.mono ?_; rintro e wy ⟨rfl, hwy⟩; obtain rfl := hwy.symm))
      go_ret
      exact ⟨rfl, HE.out, HB⟩
    · have hD := change_with H.c2 (H.free 2) H.hm hk
      have HE : Hid (Tab (w.setCell ⟨p, 2, none⟩ (.int .u8 (st m k : Nat))) p c (maskM m (k : Int) true)) := by show Tab _ _ _ _; rw [maskM_on m hk]; exact H.setM (st_lt H.hm hk)
      have HB := Buts.cell w p 2 (.int .u8 (st m k : Nat))
      generalize st m k = x at *
      clear H q
      go_enter Try.func11, Try.ntmps11
      go_wp2_with (first
        | (go_at_call 13; refine hT.mono ?_; rintro e wx ⟨rfl, hwx⟩; obtain rfl := hwx.symm)
        | (go_at_call 14; refine hD.mono ?_; rintro e wy ⟨rfl, hwy⟩; obtain rfl := hwy.symm))
      go_ret
      exact ⟨rfl, HE.out, HB⟩
  · have e1 : lnE r = 1 := if_neg q
    have HE : Hid (Tab w p c (maskM m r on)) := by show Tab _ _ _ _; unfold maskM; rw [if_neg q]; exact H
    rw [e1] at hT ⊢
    clear H q e1
    go_enter Try.func11, Try.ntmps11
    go_wp2_with (first
      | (go_at_call 13; refine hT.mono ?_; rintro e wx ⟨rfl, hwx⟩; obtain rfl := hwx.symm))
    go_ret
    exact ⟨rfl, HE.out, Buts.refl _ _⟩
set_option maxHeartbeats 1000000 in
theorem next_any {w : World} {p c m : Nat} (H : Tab w p c m) :
    Calls Try.prog 8 #[.pointer (some ⟨p, 0, none⟩)] w fun e w' => e = .returned (.tuple #[.int .i64 (nextL c m : Nat), .int .i64 (nextE c m)]) ∧ Tab w' p (nextC c m) m ∧ Buts [p] w w' := by
  have hT := there_yes H.c0
  have c1 := H.c1
  have c2 := H.c2
  have hC := fun wx => butFor_any c m H.hc H.hm wx
  have hx : bt c m < 256 := bt_lt
  by_cases q : lw (bt c m) < 8
  · have hL : nextL c m = lw (bt c m) := if_pos q
    have hE : nextE c m = 0 := if_pos q
    have HC : Hid (nextC c m = cl c (lw (bt c m))) := if_pos q
    have hF := fun wx => least_yes hx q wx
    rw [hL, hE]
    have HD : Hid (∀ wx, Tab wx p c m → Calls Try.prog 14 #[.pointer (some ⟨p, 1, none⟩), .int .i64 (lw (bt c m) : Nat), .func (.func 19) #[] #[]] wx fun e w' => e = .returned (.tuple #[]) ∧ Tab w' p (nextC c m) m ∧ Buts [p] wx w') := by
      intro wx hX
      refine (change_without hX.c1 (hX.free 1) hX.hc q).mono ?_
      rintro e w' ⟨rfl, rfl⟩
      refine ⟨rfl, ?_, Buts.cell _ _ _ _⟩
      rw [HC.out]
      exact hX.setC cl_lt
    have HT : Hid (Tab w p c m) := H
    clear H hL hE hx HC q
    generalize lw (bt c m) = k at *
    generalize bt c m = x at *
    go_enter Try.func8, Try.ntmps8
    go_wp2_with (first
      | (go_at_call 16; refine hT.mono ?_; rintro e wx ⟨rfl, hwx⟩; obtain rfl := hwx.symm))
    go_quiet (first
      | (go_at_call 17; exact Calls.quiet_of_same (hC _))
      | (go_at_call 18; exact Calls.quiet_of_same (hF _)))
    go_wp2_with (first
      | (go_at_call 14; refine (HD.out _ (HT.out.below (below_drewN _ _))).mono ?_; rintro e wy ⟨rfl, hr, hb⟩; have H2 : Hid (Tab wy p (nextC c m) m) := hr; have HB : Hid (Buts [p] w wy) := (Buts.of (below_drewN _ _)).trans hb; clear hr hb))
    go_ret2
    exact ⟨rfl, H2.out, HB.out⟩
  · have hL : nextL c m = 0 := if_neg q
    have hE : nextE c m = 11 := if_neg q
    have HC : Hid (nextC c m = c) := if_neg q
    have hF := fun wx => least_no hx (by have := lw_le (bt c m); omega) wx
    rw [hL, hE]
    have HT : Hid (Tab w p c m) := H
    clear H hL hE hx q
    generalize bt c m = x at *
    go_enter Try.func8, Try.ntmps8
    go_wp2_with (first
      | (go_at_call 16; refine hT.mono ?_; rintro e wx ⟨rfl, hwx⟩; obtain rfl := hwx.symm))
    go_quiet (first
      | (go_at_call 17; exact Calls.quiet_of_same (hC _))
      | (go_at_call 18; exact Calls.quiet_of_same (hF _)))
    go_wp2
    go_ret2
    refine ⟨rfl, ?_, Buts.of (below_drewN _ _)⟩
    rw [HC.out]
    exact HT.out.below (below_drewN _ _)
end Go.Proofs.Ytedheamenlnfkab
